import Derived.Test.YtjbcpojngdligaaPaA
import Derived.Test.YtjbcpojngdligaaCvC
import Derived.Test.YtjbcpojngdligaaOwnA
import Derived.Laws.EntriesVeiled
/- The document's PointsMay and WithOnes. -/
namespace Go.Proofs.Ytjbcpojngdligaa
open Go.RowKit
attribute [local go_sem ↓] Go.wp_at_zero Go.wp_at_succ

/-- A column. -/
def colT (q : List (List Int)) (k : Nat) : List Int := q.map fun r => r.getD k 0
def colsT (d : Nat) (q : List (List Int)) : List (List Int) := (List.range d).map (colT q)
theorem colT_len (q : List (List Int)) (k : Nat) : (colT q k).length = q.length := by simp [colT]
theorem colsT_len (d : Nat) (q : List (List Int)) : (colsT d q).length = d := by simp [colsT]
theorem colsT_succ (d : Nat) (q : List (List Int)) : colsT (d + 1) q = colsT d q ++ [colT q d] := by simp [colsT, List.range_succ]
theorem colT_snoc (q : List (List Int)) (k j : Nat) (h : j < q.length) : (colT q k).take (j + 1) = (colT q k).take j ++ [(q.getD j []).getD k 0] := by
  have e : q.getD j [] = q[j] := by simp [h]
  rw [List.take_succ_eq_append_getElem (by rw [colT_len]; exact h), e]; simp [colT]
theorem onesT_cols (d : Nat) (q : List (List Int)) : onesT d q = colsT d q ++ [onesL q.length] := rfl

end Go.Proofs.Ytjbcpojngdligaa

/- convex.Radon. -/
namespace Go.Proofs.Ytjbcpojngdligaa
open Go.RowKit
attribute [local go_sem ↓] Go.wp_at_zero Go.wp_at_succ

set_option maxRecDepth 100000 in
set_option maxHeartbeats 800000 in
theorem numberOf_any (d i : Nat) (p : List (List Int)) (pv : Value) (a : Addr) (w : World) (hc : w.cell? a = some pv) (hv : Mat w.heap.size 22 3 w pv p) (hp : ∀ r ∈ p, r.length = d) (hd3 : d ≤ 3) (hp12 : p.length ≤ 12) (hi : i ≤ d) :
    Calls Try.prog 14 #[.int .i64 i, .pointer (some a)] w fun e w' => ∃ u, e = .returned u ∧ w'.ownsRow w.heap.size 3 1 u p.length (ints (colT (p.map oneR) i)) ∧ Below w.heap.size w w' := by
  obtain ⟨i3, hi3, hz30, hz31, hz32⟩ := info_parts Try.info3
  obtain ⟨ao, cap, hvv, hlc, hcm⟩ := mat_open hv
  subst hvv
  have HV : Hid (Mat w.heap.size 22 3 w (.slice ao p.length cap) p) := hv
  have HP : Hid (∀ r ∈ p, r.length = d) := hp
  have hmk := run_make_room (P := Try.prog) 22 3 (.int .i64 0) 8 Try.underlying22 Try.info3 rfl .i64 .i64 p.length (by omega) (by omega)
  have HO0 : Hid ((w.alloc (.cells (madeCells #[.int .i64 0] p.length) 3)).ownsRow w.heap.size 3 1 (.slice (some ⟨w.heap.size, 0, none⟩) 0 p.length) 0 []) :=
    World.ownsRow_made w _ p.length (Nat.le_refl _) (by unfold maxLen; omega) (by rw [size_madeCells]; omega)
  have HB0 : Hid (Below w.heap.size w (w.alloc (.cells (madeCells #[.int .i64 0] p.length) 3))) := alloc_keep _ _
  have hcW : (w.alloc (.cells (madeCells #[.int .i64 0] p.length) 3)).cell? a = some (.slice ao p.length cap) := ((alloc_keep w _).cell (World.block_lt_of_cell? w a hc)).trans hc
  clear hv hp
  go_enter Try.func14, Try.ntmps14
  go_wp2
  clear hcW hmk
  go_loopw [4, 12, 6] (fun s j _ wr => ∃ k : Nat, k ≤ p.length ∧ j = .int .i64 k ∧ wr.ownsRow w.heap.size 3 1 s k (ints ((colT (p.map oneR) i).take k)) ∧ Below w.heap.size w wr) (fun _ j _ _ => p.length - (intOf j).toNat)
  case atStart => exact ⟨0, Nat.zero_le _, rfl, HO0.out, HB0.out⟩
  case round =>
    obtain ⟨k, hk, rfl, ho, hb⟩ := hrel
    have HO : Hid (wr.ownsRow w.heap.size 3 1 u4 k (ints ((colT (p.map oneR) i).take k))) := ho
    have HB : Hid (Below w.heap.size w wr) := hb
    have hsz : w.heap.size ≤ wr.heap.size := hb.size
    clear ho hb
    by_cases hlt : k < p.length
    · obtain ⟨b, o, cp, r1, hs, _, hcc, hr1⟩ := mat_cell (HV.out.below HB.out (Nat.le_refl _)) hlt
      simp only [Value.slice.injEq] at hs
      obtain ⟨rfl, _, rfl⟩ := hs
      have hlen : (p.getD k []).length = d := HP.out _ (by simp [hlt])
      have HSN : Hid ((colT (p.map oneR) i).take (k + 1) = (colT (p.map oneR) i).take k ++ [(oneR (p.getD k [])).getD i 0]) := by
        have := colT_snoc (p.map oneR) i k (by simpa using hlt)
        rw [show (p.map oneR).getD k [] = oneR (p.getD k []) by simp [hlt]] at this
        exact this
      have HLL : Hid (((colT (p.map oneR) i).take k).length = k) := by show _ = _; rw [List.length_take, colT_len]; simp; omega
      have HW1 : Hid (Calls Try.prog 15 #[r1] wr fun e w' => ∃ b3 cp3, e = .returned (.slice (some ⟨b3, 0, none⟩) (d + 1) cp3) ∧ w'.cell? ⟨b3, i, none⟩ = some (.int .i64 ((oneR (p.getD k [])).getD i 0)) ∧ Below wr.heap.size wr w') := by
        refine (withOne_any _ (p.getD k []) r1 wr hr1 (by omega)).mono ?_
        rintro e w' ⟨u, rfl, hou, hbu⟩
        rw [hlen] at hou
        have hsl : Sl 0 3 w' u (ints (oneR (p.getD k []))) := Sl.own hou
        rcases hou.2 with ⟨h1, h0⟩ | ⟨g, cap', cur, hue, _⟩
        · omega
        · obtain ⟨b3, o3, cp3, hs3, _, hc3⟩ := sl_cell hsl (k := i) (by rw [oneR_len, hlen]; omega)
          rw [hue] at hs3
          simp only [Value.slice.injEq, Option.some.injEq, Addr.mk.injEq, and_true] at hs3
          obtain ⟨⟨rfl, rfl⟩, -, -⟩ := hs3
          rw [Nat.zero_add] at hc3
          exact ⟨g, cap', by rw [hue], hc3, hbu⟩
      obtain ⟨ro, rc, hrv, _, _⟩ := sl_open hr1
      subst hrv
      rw [hlen] at hcc HW1
      clear hr1 hlen
      generalize (oneR (p.getD k [])).getD i 0 = z at *
      have hkI : (k : Int) < (p.length : Int) := by omega
      have hkI0 : (0 : Int) ≤ (k : Int) := by omega
      have hiI : (i : Int) < ((d + 1 : Nat) : Int) := by omega
      have hiI0 : (0 : Int) ≤ (i : Int) := by omega
      go_wp2_with fail
      refine HW1.out.mono ?_
      rintro e w1 ⟨b3, cp3, rfl, hc3, hb1⟩
      have HO1 : Hid (w1.ownsRow w.heap.size 3 1 u4 k (ints ((colT (p.map oneR) i).take k))) := owns_below HO.out hb1 (Nat.le_refl _)
      have HB1 : Hid (Below w.heap.size w w1) := HB.out.trans (hb1.mono hsz)
      have hsz1 : w.heap.size ≤ w1.heap.size := HB1.out.size
      clear hb1 HO HW1 hcc
      go_wp2_with (first | (at_builtin; refine wpList_append_own _ rfl _ _ 22 rfl w.heap.size 3 i3 (.int .i64 0) 1 8 Try.underlying22 hi3 hz30 hz31 hz32 rfl (by decide) _ _ _ rfl (HO1.out.alloc _) ⟨w1.heap.size, 0, none⟩ 1 1 [.int .i64 z] rfl rfl (one_new _ _ _) (one_int _) ?d3 ?d4 ?d5 ?_))
      case d3 => unfold maxLen; omega
      case d4 => omega
      case d5 => simp; omega
      intro v3 w3 ho3 hg3 _
      have hp3 := owns_push (z := z) (N := k + 1) hsz1 (l := (colT (p.map oneR) i).take k) (by rw [HLL.out]; exact HO1.out) HB1.out (by rw [HLL.out]; exact ho3) hg3 (by rw [HLL.out])
      rw [← HSN.out] at hp3
      have HP3 : Hid _ := hp3
      clear hp3 ho3 hg3 hc3
      go_wp2
      go_roundw
      case rel => exact ⟨k + 1, by omega, by go_num, HP3.out.1, HP3.out.2⟩
      case measure => simp [intOf]; omega
    · obtain rfl : p.length = k := by omega
      have HX : Hid (wr.ownsRow w.heap.size 3 1 u4 p.length (ints (colT (p.map oneR) i))) := by
        have h := HO.out
        rw [List.take_of_length_le (by rw [colT_len]; simp)] at h
        exact h
      clear HO
      go_wp2
      go_ret
      exact ⟨_, rfl, HX.out, HB.out⟩

end Go.Proofs.Ytjbcpojngdligaa

/- convex.Radon: the one way in which points hang together. -/
namespace Go.Proofs.Ytjbcpojngdligaa
open Go.RowKit
attribute [local go_sem ↓] Go.wp_at_zero Go.wp_at_succ

theorem cols_one {d : Nat} {p : List (List Int)} (hp : ∀ r ∈ p, r.length = d) : colsT (d + 1) (p.map oneR) = onesT d p := by
  rw [colsT_succ, onesT_cols]
  congr 1
  · refine List.map_congr_left fun k hk => ?_
    rw [List.mem_range] at hk
    unfold colT
    rw [List.map_map]
    refine List.map_congr_left fun r h => ?_
    exact oneR_lt (by rw [hp r h]; exact hk)
  · simp only [List.cons.injEq, and_true]
    unfold colT
    rw [List.map_map, ← map_ones]
    refine List.map_congr_left fun r h => ?_
    show (oneR r).getD d 0 = 1
    rw [← hp r h]
    exact oneR_at r

theorem onesT_mx {d : Nat} {q : List (List Int)} (hq : ∀ r ∈ q, ∀ z ∈ r, z.natAbs ≤ 20) (h1 : 1 ≤ q.length) (h5 : q.length ≤ 5) : Mx q.length 60 (onesT d q) := by
  have hall : ∀ r ∈ onesT d q, r.length = q.length ∧ ∀ z ∈ r, z.natAbs ≤ 60 := by
    intro r hr
    rw [onesT_cols] at hr
    rcases List.mem_append.1 hr with hr | hr
    · simp only [colsT, List.mem_map] at hr
      obtain ⟨k, _, rfl⟩ := hr
      refine ⟨colT_len _ _, fun z hz => ?_⟩
      simp only [colT, List.mem_map] at hz
      obtain ⟨r, hr, rfl⟩ := hz
      by_cases hk : k < r.length
      · have := hq r hr (r.getD k 0) (by simp [hk])
        omega
      · simp [hk]
    · simp only [List.mem_singleton] at hr
      subst hr
      refine ⟨onesL_len _, fun z hz => ?_⟩
      simp only [onesL, List.mem_map] at hz
      obtain ⟨_, _, rfl⟩ := hz
      decide
  refine ⟨fun r hr => (hall r hr).1, fun r hr => (hall r hr).2, h5, h1, by decide, ?_⟩
  generalize q.length = n at h1 h5
  revert h1
  revert n
  decide

theorem onesT_len (d : Nat) (q : List (List Int)) : (onesT d q).length = d + 1 := by simp [onesT]

/-- What Radon says, and gives. -/
def radE (p : List (List Int)) : Int :=
  if pmE p ≠ 0 then pmE p else if p.length ≠ (p.getD 0 []).length + 2 then 2 else if normB p.length (onesT (p.getD 0 []).length p) = true then 0 else 5
def radL (p : List (List Int)) : List Int := if radE p = 0 then normL p.length (onesT (p.getD 0 []).length p) else []

set_option maxRecDepth 100000 in
set_option maxHeartbeats 1600000 in
theorem radon_any (p : List (List Int)) (v : Value) (w : World) (hv : Mat w.heap.size 22 3 w v p) :
    Calls Try.prog 6 #[v] w fun e w' => ∃ x, e = .returned (.tuple #[x, .int .i64 (radE p)]) ∧ Sl 0 3 w' x (ints (radL p)) ∧ Below w.heap.size w w' := by
  obtain ⟨i0, hi, hz0, hz1, hz2⟩ := info_parts Try.info22
  obtain ⟨ao, cap, hvv, hlc, hcm⟩ := mat_open hv
  subst hvv
  obtain ⟨W, hW⟩ : ∃ W, W = w.alloc (.cells #[.slice ao p.length cap] 24) := ⟨_, rfl⟩
  have hbW : Below w.heap.size w W := by rw [hW]; exact alloc_keep _ _
  have hcW : W.cell? ⟨w.heap.size, 0, none⟩ = some (.slice ao p.length cap) := by rw [hW]; simp
  have hsW : W.heap.size = w.heap.size + 1 := by rw [hW]; simp
  have hvW : Mat W.heap.size 22 3 W (.slice ao p.length cap) p := (hv.below hbW (Nat.le_refl _)).any (Nat.le_refl _)
  have HCK : Hid (Calls Try.prog 13 #[.slice ao p.length cap] W fun e w' => e = .returned (.int .i64 (pmE p)) ∧ Below W.heap.size W w') := checkC_any p _ W hvW
  have HVW : Hid (∀ W', Below W.heap.size W W' → Mat W'.heap.size 22 3 W' (.slice ao p.length cap) p) := fun W' hB => (hvW.below hB (Nat.le_refl _)).more hB.size
  have HCW : Hid (∀ W', Below W.heap.size W W' → W'.cell? ⟨w.heap.size, 0, none⟩ = some (.slice ao p.length cap)) := fun W' hB => (hB.cell (lt_of_cell hcW)).trans hcW
  have HBW : Hid (∀ W', Below W.heap.size W W' → Below w.heap.size w W') := fun W' hB => hbW.trans (hB.mono (by omega))
  have HWW : Hid (W = w.alloc (.cells #[.slice ao p.length cap] 24)) := hW
  clear hv hbW hsW hvW hW
  by_cases hq : pmE p = 0
  · have hok := pm_ok hq
    obtain ⟨b0, o0, cp0, r0, hs0, _, hcc0a, hr0⟩ := mat_cell (HVW.out W (Below.refl _ _)) (k := 0) (by have := hok.n1; omega)
    simp only [Value.slice.injEq] at hs0
    obtain ⟨rfl, -, rfl⟩ := hs0
    simp only [Nat.add_zero] at hcc0a
    obtain ⟨uo0, uc0, hue0, _, _⟩ := sl_open hr0
    have HRE : Hid (radE p = if p.length ≠ (p.getD 0 []).length + 2 then 2 else if normB p.length (onesT (p.getD 0 []).length p) = true then 0 else 5) := by
      show _ = _; unfold radE; rw [if_neg (by rw [hq]; simp)]
    have HRL : Hid (radL p = if radE p = 0 then normL p.length (onesT (p.getD 0 []).length p) else []) := rfl
    rw [hq] at HCK
    generalize (p.getD 0 []).length = d at *
    subst hue0
    have HOK : Hid (PmOk d p) := hok
    have HCC0 : Hid (∀ W', Below W.heap.size W W' → W'.cell? ⟨b0, o0, none⟩ = some (.slice uo0 d uc0)) := fun W' hB => (hB.cell (lt_of_cell hcc0a)).trans hcc0a
    have h1 := hok.n1
    have h12 := hok.n12
    have hd3 := hok.d3
    have hp0I : (0 : Int) < (p.length : Int) := by omega
    clear hr0 hcc0a hok hq
    go_enter Try.func6, Try.ntmps6
    go_wp2_with fail
    rw [← HWW.out]
    refine HCK.out.mono ?_
    rintro e w1 ⟨rfl, hb1⟩
    have HB1 : Hid (Below W.heap.size W w1) := hb1
    have hc1 : w1.cell? ⟨w.heap.size, 0, none⟩ = some (.slice (some ⟨b0, o0, none⟩) p.length cap) := HCW.out w1 hb1
    have hcc1 : w1.cell? ⟨b0, o0, none⟩ = some (.slice uo0 d uc0) := HCC0.out w1 hb1
    clear hb1 hcW
    by_cases hn : p.length = d + 2
    · have hnI : ((p.length : Int) != (d : Int) + 2) = false := by rw [bne_eq_false_iff_eq]; omega
      have HN : Hid (p.length = d + 2) := hn
      clear hn
      have HRE2 : Hid (radE p = if normB p.length (onesT d p) = true then 0 else 5) := by show _ = _; rw [HRE.out, if_neg (by have := HN.out; omega)]
      have HNP : Hid (∀ W' x, Mat W'.heap.size 22 3 W' x (onesT d p) → Calls Try.prog 16 #[x, .int .i64 p.length] W' fun e w' => ∃ z, e = .returned (.tuple #[z, .bool (normB p.length (onesT d p))]) ∧ w'.ownsRow W'.heap.size 3 1 z (normL p.length (onesT d p)).length (ints (normL p.length (onesT d p))) ∧ Below W'.heap.size W' w') := fun W' x hx =>
        normalP_own W'.heap.size p.length (onesT d p) x W' (onesT_mx HOK.out.bd (by omega) (by have := HN.out; omega)) hx (by rw [onesT_len]; omega) (by rw [onesT_len]; omega)
      have HCO : Hid (colsT (d + 1) (p.map oneR) = onesT d p) := cols_one HOK.out.len
      have HNO : Hid (∀ i, i ≤ d → ∀ W', Below W.heap.size W W' → Calls Try.prog 14 #[.int .i64 i, .pointer (some ⟨w.heap.size, 0, none⟩)] W' fun e w' => ∃ u, e = .returned u ∧ w'.ownsRow W'.heap.size 3 1 u p.length (ints (colT (p.map oneR) i)) ∧ Below W'.heap.size W' w') := fun i hi W' hB =>
        numberOf_any d i p _ _ W' (HCW.out W' hB) (HVW.out W' hB) HOK.out.len hd3 h12 hi
      clear HRE HCK
      go_wp2
      clear hc1 hcc1
      go_loopw [7, 28, 8] (fun x j _ wr => ∃ k : Nat, k ≤ d + 1 ∧ j = .int .i64 k ∧ Rws w1.heap.size 22 3 wr x (colsT k (p.map oneR)) ∧ Below w1.heap.size w1 wr) (fun _ j _ _ => d + 1 - (intOf j).toNat)
      case atStart => exact ⟨0, Nat.zero_le _, rfl, Rws.nil _ _ _ _, Below.refl _ _⟩
      case round =>
        obtain ⟨k, hk, rfl, hrw, hbel⟩ := hrel
        have HR : Hid (Rws w1.heap.size 22 3 wr u7 (colsT k (p.map oneR))) := hrw
        have HB : Hid (Below w1.heap.size w1 wr) := hbel
        have hsz : w1.heap.size ≤ wr.heap.size := hbel.size
        have HBr : Hid (Below W.heap.size W wr) := HB1.out.trans (hbel.mono HB1.out.size)
        clear hrw hbel
        by_cases hlt : k < d + 1
        · have hkI : (k : Int) < (d : Int) + 1 := by omega
          have HNK : Hid (Calls Try.prog 14 #[.int .i64 k, .pointer (some ⟨w.heap.size, 0, none⟩)] wr fun e w' => ∃ u, e = .returned u ∧ w'.ownsRow wr.heap.size 3 1 u p.length (ints (colT (p.map oneR) k)) ∧ Below wr.heap.size wr w') := HNO.out k (by omega) wr HBr.out
          go_wp2_with fail
          refine HNK.out.mono ?_
          rintro e w2 ⟨u, rfl, hou, hb2⟩
          obtain ⟨xo, xc, hxv⟩ := owns_form hou
          subst hxv
          have HX : Hid (Sl w1.heap.size 3 w2 (.slice xo p.length xc) (ints (colT (p.map oneR) k))) := Sl.own hou
          have HRq := HR.out.below hb2 (Nat.le_refl _)
          have HBw : Hid (Below w1.heap.size w1 w2) := HB.out.trans (hb2.mono hsz)
          have hsz2 : w1.heap.size ≤ w2.heap.size := HBw.out.size
          obtain ⟨vs, g1, g2, g3⟩ := HRq
          have HLN : Hid ((colsT k (p.map oneR)).length = k) := colsT_len k _
          rw [colsT_len] at g1 g2 g3
          have G1 : Hid (vs.length = k) := g1
          have G2 : Hid (w2.ownsRow w1.heap.size 22 1 u7 k vs) := g2
          have G3 : Hid (∀ i, i < k → Sl w1.heap.size 3 w2 (vs.getD i (.slice none 0 0)) (ints ((colsT k (p.map oneR)).getD i []))) := g3
          clear g1 g2 g3 hou hb2
          go_wp2_with (first | (at_builtin; refine wpList_append_own _ rfl _ _ 24 rfl w1.heap.size 22 i0 (.slice none 0 0) 1 24 Try.underlying24 hi hz0 hz1 hz2 rfl (by decide) _ _ _ rfl (G2.out.alloc _) ⟨w2.heap.size, 0, none⟩ 1 1 [.slice xo p.length xc] rfl rfl (one_new _ _ _) (one_slice _ _ _) ?d3 ?d4 ?d5 ?_))
          case d3 => unfold maxLen; omega
          case d4 => omega
          case d5 => simp; omega
          intro v' w3 ho hg _
          have R1 : Hid (Rws w1.heap.size 22 3 w3 v' (colsT (k + 1) (p.map oneR))) := by
            have hp := Rws.push (e2 := 22) (e1 := 3) (m := colsT k (p.map oneR)) (u := .slice xo p.length xc) (zs := colT (p.map oneR) k) (by decide) (by rw [HLN.out]; exact G1.out) (by rw [HLN.out]; exact G2.out.alloc _)
              (fun i hi => (G3.out i (by rw [HLN.out] at hi; exact hi)).alloc _) (HX.out.alloc _) (by rw [HLN.out]; exact ho) hg
            rw [← colsT_succ] at hp
            exact hp
          have R2 : Hid (Below w1.heap.size w1 w3) := (HBw.out.alloc (by omega) _).grown hg (by simp; omega) (fun x hx => (G2.out.lt x hx).1)
          clear ho hg
          go_wp2
          go_roundw
          case rel => exact ⟨k + 1, by omega, by go_num, R1.out, R2.out⟩
          case measure => simp [intOf]; omega
        · obtain rfl : k = d + 1 := by omega
          have HM : Hid (Mat wr.heap.size 22 3 wr u7 (onesT d p)) := by have := HR.out.mat hsz; rw [HCO.out] at this; exact this
          have HNQ : Hid (Calls Try.prog 16 #[u7, .int .i64 p.length] wr fun e w' => ∃ zo zc, e = .returned (.tuple #[.slice zo (normL p.length (onesT d p)).length zc, .bool (normB p.length (onesT d p))]) ∧ Sl 0 3 w' (.slice zo (normL p.length (onesT d p)).length zc) (ints (normL p.length (onesT d p))) ∧ Below wr.heap.size wr w') := by
            refine (HNP.out wr u7 HM.out).mono ?_
            rintro e w' ⟨z, rfl, ho, hb⟩
            obtain ⟨zo, zc, rfl⟩ := owns_form ho
            exact ⟨zo, zc, rfl, Sl.own ho, hb⟩
          have hcr : wr.cell? ⟨w.heap.size, 0, none⟩ = some (.slice (some ⟨b0, o0, none⟩) p.length cap) := HCW.out wr HBr.out
          clear HM HR HNP HNO HCO
          generalize normL p.length (onesT d p) = L at *
          generalize normB p.length (onesT d p) = nb at *
          obtain ⟨Ll, hLl⟩ : ∃ Ll, Ll = L.length := ⟨_, rfl⟩
          rw [← hLl] at HNQ
          clear hLl
          go_wp2_with fail
          refine HNQ.out.mono ?_
          rintro e w2 ⟨zo, zc, rfl, hz, hb2⟩
          have HZ : Hid (Sl 0 3 w2 (.slice zo Ll zc) (ints L)) := hz
          have HB2 : Hid (Below w.heap.size w w2) := HBW.out _ (HBr.out.trans (hb2.mono HBr.out.size))
          clear hz hb2 hcr
          cases nb
          · have HE : Hid (radE p = 5) := HRE2.out
            have HL : Hid (radL p = []) := by show _ = _; rw [HRL.out, if_neg (by rw [HE.out]; decide)]
            go_wp2
            exact bodyPost_ret (v := .tuple #[.slice none 0 0, .int .i64 5]) (by simp [results, Try.results6, go_sem]) rfl ⟨_, by rw [HE.out], by rw [HL.out]; exact Sl.nil _ _ _, HB2.out⟩
          · have HE : Hid (radE p = 0) := HRE2.out
            have HL : Hid (radL p = L) := by show _ = _; rw [HRL.out, if_pos HE.out]
            go_wp2
            exact bodyPost_ret (v := .tuple #[.slice zo Ll zc, .int .i64 0]) (by simp [results, Try.results6, go_sem]) rfl ⟨_, by rw [HE.out], by rw [HL.out]; exact HZ.out, HB2.out⟩
    · have hnI : ((p.length : Int) != (d : Int) + 2) = true := by rw [bne_iff_ne]; omega
      have HE : Hid (radE p = 2) := by show _ = _; rw [HRE.out, if_pos hn]
      have HL : Hid (radL p = []) := by show _ = _; rw [HRL.out, if_neg (by rw [HE.out]; decide)]
      clear hn
      go_wp2
      exact bodyPost_ret (v := .tuple #[.slice none 0 0, .int .i64 2]) (by simp [results, Try.results6, go_sem]) rfl ⟨_, by rw [HE.out], by rw [HL.out]; exact Sl.nil _ _ _, HBW.out _ HB1.out⟩
  · have HE : Hid (radE p = pmE p) := if_pos hq
    have HL : Hid (radL p = []) := if_neg (by rw [HE.out]; exact hq)
    have hq' : (pmE p != 0) = true := by simpa using hq
    clear hq
    generalize pmE p = q at *
    go_enter Try.func6, Try.ntmps6
    go_wp2_with fail
    rw [← HWW.out]
    refine HCK.out.mono ?_
    rintro e w1 ⟨rfl, hb1⟩
    have HB1 : Hid (Below W.heap.size W w1) := hb1
    clear hb1 hcW
    go_wp2
    exact bodyPost_ret (v := .tuple #[.slice none 0 0, .int .i64 q]) (by simp [results, Try.results6, go_sem]) rfl ⟨_, by rw [HE.out], by rw [HL.out]; exact Sl.nil _ _ _, HBW.out _ HB1.out⟩

end Go.Proofs.Ytjbcpojngdligaa
