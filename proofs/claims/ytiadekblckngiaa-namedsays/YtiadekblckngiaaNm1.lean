/- named.along, corner, eitherWay. -/
import Derived.Test.YtiadekblckngiaaNm0
import Derived.Test.YtiadekblckngiaaTw9
namespace Go.Proofs.Ytiadekblckngiaa
open Go.RowKit
attribute [local go_sem ↓] Go.wp_at_zero Go.wp_at_succ

theorem infoSlN : (Try.prog.info? 35).map (fun i => (i.zero, i.size, i.bytes)) = some (some (.slice none 0 0), 1, 24) := by kernel_rfl

theorem made_ownN (w : World) (n : Nat) (hn : n ≤ maxLen) : (w.alloc (.cells (madeCells #[.int .i64 0] n) 3)).ownsRow w.heap.size 3 1 (.slice (some ⟨w.heap.size, 0, none⟩) n n) n (ints (List.replicate n 0)) := by
  have h := World.ownsRow_lit (base := w.heap.size) (e := 3) (size := 1) w (madeCells #[.int .i64 0] n) n (Nat.le_refl _) hn (by simp [madeCells])
  have e : (madeCells #[.int .i64 0] n).toList = ints (List.replicate n 0) := by
    rw [toList_madeCells_one]; simp [ints]
  rw [e] at h
  exact h

theorem mk_any (n : Nat) (hn : n ≤ 4) : ∀ w : World, (Instr.makeSlice 35 (.int .i64 (n : Int)) (.int .i64 (n : Int))).run Try.prog w = .ok (.slice (some ⟨w.heap.size, 0, none⟩) n n) (w.alloc (.cells (madeCells #[.int .i64 0] n) 3)) := run_make_row' (P := Try.prog) 35 3 (.int .i64 0) 8 Try.underlying35 (by kernel_rfl) rfl .i64 .i64 n (by omega) (by omega)

theorem ints_setN (l : List Int) (j : Nat) (z : Int) : ints (l.set j z) = (ints l).set j (.int .i64 z) := by simp [ints, List.map_set]

theorem below_setN {B : Nat} {w w' : World} {a : Addr} {u : Value} (h : Below B w w') (ha : B ≤ a.block) : Below B w (w'.setCell a u) :=
  h.setCell ha u

set_option maxRecDepth 100000 in
set_option maxHeartbeats 800000 in
theorem along_any (n k : Nat) (z : Int) (w : World) (hn : n ≤ 4) (hk : k < n) :
    Calls Try.prog 25 #[.int .i64 (n : Int), .int .i64 (k : Int), .int .i64 z] w fun e w' => ∃ uo uc, e = .returned (.slice uo n uc) ∧ Sl 0 3 w' (.slice uo n uc) (ints (axN n k z)) ∧ Below w.heap.size w w' := by
  have hmk := mk_any n hn w
  obtain ⟨W1, hW1⟩ : ∃ W1, W1 = w.alloc (.cells (madeCells #[.int .i64 0] n) 3) := ⟨_, rfl⟩
  have HO : W1.ownsRow w.heap.size 3 1 (.slice (some ⟨w.heap.size, 0, none⟩) n n) n (ints (List.replicate n 0)) := by rw [hW1]; exact made_ownN w n (by unfold maxLen; omega)
  have HB1 : Below w.heap.size w W1 := by rw [hW1]; exact (Below.refl _ _).alloc (Nat.le_refl _) _
  rw [← hW1] at hmk
  have c1 : W1.cell? ⟨w.heap.size, k, none⟩ = some (.int .i64 0) := by
    rw [HO.cellAt k (by omega), ints_get _ k (by simp; omega)]
    simp [hk]
  have c2 : W1.frozen? ⟨w.heap.size, k, none⟩ = false := HO.frozenAt k
  have HS : Hid (Sl 0 3 (W1.setCell ⟨w.heap.size, k, none⟩ (.int .i64 z)) (.slice (some ⟨w.heap.size, 0, none⟩) n n) (ints (axN n k z))) := by
    have h := (HO.stored k (.int .i64 z)).1
    rw [← ints_setN] at h
    exact Sl.own h
  have HB : Hid (Below w.heap.size w (W1.setCell ⟨w.heap.size, k, none⟩ (.int .i64 z))) := below_setN HB1 (Nat.le_refl _)
  have kI : (k : Int) < (n : Int) := by omega
  have kI0 : (0 : Int) ≤ (k : Int) := by omega
  clear HO HB1 hW1
  go_enter Try.func25, Try.ntmps25
  go_wp2
  go_ret
  exact ⟨_, _, rfl, HS.out, HB.out⟩

theorem one_frO {B : Nat} {w : World} {u : Value} {zs : List Int} (hu : Sl 0 3 w u (ints zs)) (hB : B ≤ w.heap.size) : Fr B 35 3 (w.alloc (.cells #[u] 35)) (.slice (some ⟨w.heap.size, 0, none⟩) 1 1) [zs] := one_fr hu hB

set_option maxRecDepth 100000 in
set_option maxHeartbeats 1600000 in
theorem corner_any (n : Nat) (w : World) (hn : n ≤ 4) :
    Calls Try.prog 12 #[.int .i64 (n : Int)] w fun e w' => ∃ u, e = .returned u ∧ Fr w.heap.size 35 3 w' u (simT n n) ∧ Below w.heap.size w w' := by
  obtain ⟨i0, hi, hz0, hz1, hz2⟩ := info_parts infoSlN
  have hmk := mk_any n hn w
  obtain ⟨W1, hW1⟩ : ∃ W1, W1 = w.alloc (.cells (madeCells #[.int .i64 0] n) 3) := ⟨_, rfl⟩
  have HO : W1.ownsRow w.heap.size 3 1 (.slice (some ⟨w.heap.size, 0, none⟩) n n) n (ints (List.replicate n 0)) := by rw [hW1]; exact made_ownN w n (by unfold maxLen; omega)
  have HB1 : Below w.heap.size w W1 := by rw [hW1]; exact (Below.refl _ _).alloc (Nat.le_refl _) _
  rw [← hW1] at hmk
  obtain ⟨W2, hW2⟩ : ∃ W2, W2 = W1.alloc (.cells #[.slice (some ⟨w.heap.size, 0, none⟩) n n] 35) := ⟨_, rfl⟩
  have HF0 : Hid (Fr w.heap.size 35 3 W2 (.slice (some ⟨W1.heap.size, 0, none⟩) 1 1) (simT n 0)) := by rw [hW2]; exact one_frO (Sl.own HO) HB1.size
  have HB0 : Hid (Below w.heap.size w W2) := by rw [hW2]; exact HB1.alloc HB1.size _
  clear HO HB1 hW1
  go_enter Try.func12, Try.ntmps12
  go_wp2
  rw [← hW2]
  clear hW2 hmk
  go_loopw [3, 4, 9] (fun x y i wr => ∃ k : Nat, k ≤ n ∧ i = .int .i64 (k : Int) ∧ Fr w.heap.size 35 3 wr x (simT n k) ∧ Below w.heap.size w wr) (fun _ _ i _ => n - (intOf i).toNat)
  case atStart => exact ⟨0, Nat.zero_le _, rfl, HF0.out, HB0.out⟩
  case round =>
    obtain ⟨k, hk, rfl, hf, hb⟩ := hrel
    have HF : Hid (Fr w.heap.size 35 3 wr u3 (simT n k)) := hf
    have HB : Hid (Below w.heap.size w wr) := hb
    clear hf hb HF0 HB0
    by_cases hlt : k < n
    · have HA : Hid (Calls Try.prog 25 #[.int .i64 (n : Int), .int .i64 (k : Int), .int .i64 1] wr fun e w' => ∃ uo uc, e = .returned (.slice uo n uc) ∧ Sl 0 3 w' (.slice uo n uc) (ints (axN n k 1)) ∧ Below wr.heap.size wr w') := along_any n k 1 wr hn hlt
      have HSN : Hid (simT n (k + 1) = simT n k ++ [axN n k 1]) := simT_succ n k
      have HLN : Hid ((simT n k).length = k + 1) := simT_len n k
      go_wp2_with fail
      refine HA.out.mono ?_
      rintro e w2 ⟨uo, uc, rfl, hs, hb2⟩
      have HX : Hid (Sl 0 3 w2 (.slice uo n uc) (ints (axN n k 1))) := hs
      have HB2 : Hid (Below w.heap.size w w2) := HB.out.trans (hb2.mono HB.out.size)
      obtain ⟨vs, g1, g2, g3⟩ := HF.out.below hb2 (Nat.le_refl _)
      rw [HLN.out] at g1 g2 g3
      have G1 : Hid (vs.length = k + 1) := g1
      have G2 : Hid (w2.ownsRow w.heap.size 35 1 u3 (k + 1) vs) := g2
      have G3 : Hid (∀ i, i < k + 1 → Sl 0 3 w2 (vs.getD i (.slice none 0 0)) (ints ((simT n k).getD i []))) := g3
      have hsz2 : w.heap.size ≤ w2.heap.size := HB2.out.size
      clear g1 g2 g3 hs hb2 HA
      go_wp2_with (first | (at_builtin; refine wpList_append_own _ rfl _ _ 22 rfl w.heap.size 35 i0 (.slice none 0 0) 1 24 Try.underlying22 hi hz0 hz1 hz2 rfl (by decide) _ _ _ rfl (G2.out.alloc _) ⟨w2.heap.size, 0, none⟩ 1 1 [.slice uo n uc] rfl rfl (one_new _ _ _) (one_slice _ _ _) ?d3 ?d4 ?d5 ?_))
      case d3 => unfold maxLen; omega
      case d4 => omega
      case d5 => simp; omega
      intro v' w3 ho hg _
      have R1 : Hid (Fr w.heap.size 35 3 w3 v' (simT n (k + 1))) := by
        have hp := Fr.push (e2 := 35) (e1 := 3) (m := simT n k) (u := .slice uo n uc) (zs := axN n k 1) (by decide) (by rw [HLN.out]; exact G1.out) (by rw [HLN.out]; exact G2.out.alloc _)
          (fun i hi => (G3.out i (by rw [HLN.out] at hi; exact hi)).alloc _) (HX.out.alloc _) (by rw [HLN.out]; exact ho) hg
        rw [← HSN.out] at hp
        exact hp
      have R2 : Hid (Below w.heap.size w w3) := (HB2.out.alloc (by omega) _).grown hg (by simp; omega) (fun x hx => (G2.out.lt x hx).1)
      clear ho hg
      go_wp2
      go_roundw
      case rel => exact ⟨k + 1, by omega, by go_num, R1.out, R2.out⟩
      case measure => simp [intOf]; omega
    · have hke : k = n := by omega
      subst hke
      go_wp2
      go_ret
      exact ⟨_, rfl, HF.out, HB.out⟩

set_option maxRecDepth 100000 in
set_option maxHeartbeats 1600000 in
theorem eitherWay_any (n : Nat) (w : World) (hn : n ≤ 4) :
    Calls Try.prog 14 #[.int .i64 (n : Int)] w fun e w' => ∃ u, e = .returned u ∧ Fr w.heap.size 35 3 w' u (crsT n n) ∧ Below w.heap.size w w' := by
  obtain ⟨i0, hi, hz0, hz1, hz2⟩ := info_parts infoSlN
  go_enter Try.func14, Try.ntmps14
  go_wp2
  go_loopw [3, 4, 6] (fun x y i wr => ∃ k : Nat, k ≤ n ∧ i = .int .i64 (k : Int) ∧ Fr w.heap.size 35 3 wr x (crsT n k) ∧ Below w.heap.size w wr) (fun _ _ i _ => n - (intOf i).toNat)
  case atStart => exact ⟨0, Nat.zero_le _, rfl, Fr.nil _ _ _ _, Below.refl _ _⟩
  case round =>
    obtain ⟨k, hk, rfl, hf, hb⟩ := hrel
    have HF : Hid (Fr w.heap.size 35 3 wr u3 (crsT n k)) := hf
    have HB : Hid (Below w.heap.size w wr) := hb
    clear hf hb
    by_cases hlt : k < n
    · have HA : Hid (∀ z W, Calls Try.prog 25 #[.int .i64 (n : Int), .int .i64 (k : Int), .int .i64 z] W fun e w' => ∃ uo uc, e = .returned (.slice uo n uc) ∧ Sl 0 3 w' (.slice uo n uc) (ints (axN n k z)) ∧ Below W.heap.size W w') := fun z W => along_any n k z W hn hlt
      have HSN : Hid (crsT n (k + 1) = crsT n k ++ [axN n k (-1), axN n k 1]) := crsT_succ n k
      have HLN : Hid ((crsT n k).length = 2 * k) := crsT_len n k
      go_wp2_with fail
      refine (HA.out (-1) wr).mono ?_
      rintro e w1 ⟨ao, ac, rfl, hsa, hb1⟩
      have HSA : Hid (Sl 0 3 w1 (.slice ao n ac) (ints (axN n k (-1)))) := hsa
      have HB1 : Hid (Below wr.heap.size wr w1) := hb1
      clear hsa hb1
      go_wp2_with fail
      refine (HA.out 1 w1).mono ?_
      rintro e w2 ⟨uo, uc, rfl, hs, hb2⟩
      have HX : Hid (Sl 0 3 w2 (.slice uo n uc) (ints (axN n k 1))) := hs
      have HY : Hid (Sl 0 3 w2 (.slice ao n ac) (ints (axN n k (-1)))) := HSA.out.below hb2 (Nat.le_refl _)
      have hbb := HB1.out.trans (hb2.mono HB1.out.size)
      have HB2 : Hid (Below w.heap.size w w2) := HB.out.trans (hbb.mono HB.out.size)
      obtain ⟨vs, g1, g2, g3⟩ := HF.out.below hbb (Nat.le_refl _)
      rw [HLN.out] at g1 g2 g3
      have G1 : Hid (vs.length = 2 * k) := g1
      have G2 : Hid (w2.ownsRow w.heap.size 35 1 u3 (2 * k) vs) := g2
      have G3 : Hid (∀ i, i < 2 * k → Sl 0 3 w2 (vs.getD i (.slice none 0 0)) (ints ((crsT n k).getD i []))) := g3
      have hsz2 : w.heap.size ≤ w2.heap.size := HB2.out.size
      have HNW : Hid (∀ j u, [Value.slice ao n ac, Value.slice uo n uc][j]? = some u → (w2.alloc (.cells #[.slice ao n ac, .slice uo n uc] 35)).cell? ((⟨w2.heap.size, 0, none⟩ : Addr).add j) = some u) := by
        show ∀ j u, _ → _
        intro j u hj
        match j, hj with
        | 0, hj => simp at hj; subst hj; simp [Addr.add]
        | 1, hj => simp at hj; subst hj; simp [Addr.add]
      have HOC : Hid (∀ u ∈ [Value.slice ao n ac, Value.slice uo n uc], u.oneCell' = true) := by
        show ∀ u ∈ _, _
        intro u hu
        simp at hu
        rcases hu with rfl | rfl <;> rfl
      clear g1 g2 g3 hs hb2 HA hbb
      go_wp2_with (first | (at_builtin; refine wpList_append_own _ rfl _ _ 22 rfl w.heap.size 35 i0 (.slice none 0 0) 1 24 Try.underlying22 hi hz0 hz1 hz2 rfl (by decide) _ _ _ rfl (G2.out.alloc _) ⟨w2.heap.size, 0, none⟩ 2 2 [.slice ao n ac, .slice uo n uc] rfl rfl HNW.out HOC.out ?d3 ?d4 ?d5 ?_))
      case d3 => unfold maxLen; omega
      case d4 => omega
      case d5 => simp; omega
      intro v' w3 ho hg _
      have R1 : Hid (Fr w.heap.size 35 3 w3 v' (crsT n (k + 1))) := by
        have hp := Fr.pushAll (m := crsT n k) (m2 := [axN n k (-1), axN n k 1]) (us := [.slice ao n ac, .slice uo n uc]) (by rw [HLN.out]; exact G1.out) (by rw [HLN.out]; exact G2.out.alloc _)
          (fun i hi => (G3.out i (by rw [HLN.out] at hi; exact hi)).alloc _) rfl (fun i hi => by
            have : i = 0 ∨ i = 1 := by simp at hi; omega
            rcases this with rfl | rfl
            · exact HY.out.alloc _
            · exact HX.out.alloc _) (by rw [HLN.out]; exact ho) hg
        rw [← HSN.out] at hp
        exact hp
      have R2 : Hid (Below w.heap.size w w3) := (HB2.out.alloc (by omega) _).grown hg (by simp; omega) (fun x hx => (G2.out.lt x hx).1)
      clear ho hg
      go_wp2
      go_roundw
      case rel => exact ⟨k + 1, by omega, by go_num, R1.out, R2.out⟩
      case measure => simp [intOf]; omega
    · have hke : k = n := by omega
      subst hke
      go_wp2
      go_ret
      exact ⟨_, rfl, HF.out, HB.out⟩

end Go.Proofs.Ytiadekblckngiaa
