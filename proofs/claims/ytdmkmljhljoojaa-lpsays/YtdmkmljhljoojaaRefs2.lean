/- The document's answer: some columns alone; all choices; determinants by all orders. -/
import Derived.Test.YtdmkmljhljoojaaRefs
import Derived.Test.YtdmkmljhljoojaaMgAB
import Derived.Deep.DrawnRows
namespace Go.Proofs.Ytdmkmljhljoojaa
open Go.RowKit
attribute [local go_sem ↓] Go.wp_at_zero Go.wp_at_succ

def colsL (m : List (List Int)) (c : List Int) : List (List Int) := m.map fun r => c.map fun q => r.getD q.toNat 0

theorem colsL_snoc (m : List (List Int)) (c : List Int) (k : Nat) (h : k < m.length) : (colsL m c).take (k + 1) = (colsL m c).take k ++ [c.map fun q => (m.getD k []).getD q.toNat 0] := by
  unfold colsL
  rw [List.take_succ_eq_append_getElem (by simpa using h)]; simp [h]

theorem colsL_length (m : List (List Int)) (c : List Int) : (colsL m c).length = m.length := by simp [colsL]

theorem push3 {M j : Nat} {wa wr w3 : World} {v v' : Value} {o : Obj} {t l : List Int} {z : Int} (hB : Below M wa wr) (hsz : M ≤ wr.heap.size) (hl : t.length = j) (h : wr.ownsRow M 3 1 v j (ints t))
    (ho : w3.ownsRow M 3 1 v' (j + 1) (ints t ++ [.int .i64 z])) (hg : (wr.drew.alloc o).grownBy w3 v.ownBlock) (hz : l = t ++ [z]) : w3.ownsRow M 3 1 v' (j + 1) (ints l) ∧ Below M wa w3 := by
  subst hl hz
  exact owns_push (w := wr.drew) hsz (l := t) h hB.drew ho hg rfl

theorem keep3 {M : Nat} {wa w3 : World} (hB : Below M wa w3) {a1 a2 a3 : Addr} {v1 v2 v3 : Value} (h : ((a1.block < M ∧ wa.cell? a1 = some v1) ∧ (a2.block < M ∧ wa.cell? a2 = some v2)) ∧ (a3.block < M ∧ wa.cell? a3 = some v3)) :
    Hid (w3.cell? a1 = some v1 ∧ w3.cell? a2 = some v2 ∧ w3.cell? a3 = some v3) :=
  ⟨(hB.cell h.1.1.1).trans h.1.1.2, (hB.cell h.1.2.1).trans h.1.2.2, (hB.cell h.2.1).trans h.2.2⟩

set_option maxRecDepth 100000 in
set_option maxHeartbeats 1600000 in
theorem columns_any (B : Nat) (m : List (List Int)) (c : List Int) (v u : Value) (w : World) (hv : Mat B 25 3 w v m) (hu : Sl B 3 w u (ints c)) (hm : m.length ≤ 1000000) (hcl : c.length ≤ 1000000)
    (hq : ∀ q ∈ c, 0 ≤ q ∧ ∀ r ∈ m, q < r.length) :
    Calls Try.prog 30 #[v, u] w fun e w' => ∃ x, e = .returned x ∧ Rws w.heap.size 25 3 w' x (colsL m c) ∧ Below w.heap.size w w' := by
  obtain ⟨i0, hi, hz0, hz1, hz2⟩ := info_parts Try.info25
  obtain ⟨i3, hi3, hz30, hz31, hz32⟩ := info_parts Try.info3
  obtain ⟨ao, cap, hvv, hlc, hcm⟩ := mat_open hv
  obtain ⟨bo, cbp, huu, hlb, hcb⟩ := sl_open hu
  subst hvv huu
  have HV : Hid (Mat B 25 3 w (.slice ao m.length cap) m) := hv
  have HU : Hid (Sl B 3 w (.slice bo c.length cbp) (ints c)) := hu
  have HQ : Hid (∀ q ∈ c, 0 ≤ q ∧ ∀ r ∈ m, q < r.length) := hq
  clear hv hu hq
  go_enter Try.func30, Try.ntmps30
  go_wp2
  go_loopw [5, 6] (fun x i wr => ∃ k : Nat, k ≤ m.length ∧ i = .int .i64 k ∧ Rws w.heap.size 25 3 wr x ((colsL m c).take k) ∧ Below w.heap.size w wr) (fun _ i _ => m.length - (intOf i).toNat)
  case atStart => exact ⟨0, Nat.zero_le _, rfl, Rws.nil _ _ _ _, Below.refl _ _⟩
  case round =>
    obtain ⟨k, hk, rfl, hrw, hbel⟩ := hrel
    obtain ⟨wa, rfl⟩ : ∃ wa, wa = wr := ⟨wr, rfl⟩
    have HR : Hid (Rws w.heap.size 25 3 wa u5 ((colsL m c).take k)) := hrw
    have HB : Hid (Below w.heap.size w wa) := hbel
    have hsz : w.heap.size ≤ wa.heap.size := hbel.size
    clear hrw hbel
    by_cases hlt : k < m.length
    · obtain ⟨b, o, cp, r1, hs, hc1, hcc, hr1⟩ := mat_cell (HV.out.below HB.out (Nat.le_refl _)) hlt
      simp only [Value.slice.injEq] at hs
      obtain ⟨rfl, _, rfl⟩ := hs
      have HR1 : Hid (Sl B 3 wa r1 (ints (m.getD k []))) := hr1
      have HUa : Hid (Sl B 3 wa (.slice bo c.length cbp) (ints c)) := HU.out.below HB.out (Nat.le_refl _)
      clear hr1
      obtain ⟨M, hM⟩ : ∃ M, M = wa.heap.size := ⟨_, rfl⟩
      have HM : Hid (M = wa.heap.size) := hM
      have hMs : w.heap.size ≤ M := by omega
      clear hM
      go_wp2
      go_loopw [7, 8] (fun x i wq => ∃ j : Nat, j ≤ c.length ∧ i = .int .i64 j ∧ wq.ownsRow M 3 1 x j (ints ((c.map fun q => (m.getD k []).getD q.toNat 0).take j)) ∧ Below M wa wq) (fun _ i _ => c.length - (intOf i).toNat)
      case atStart => exact ⟨0, Nat.zero_le _, rfl, World.ownsRow_nil _ _ _ _, Below.refl _ _⟩
      case round =>
        obtain ⟨j, hj, rfl, hown, hbel⟩ := hrel
        have HO : Hid (wr.ownsRow M 3 1 u7 j (ints ((c.map fun q => (m.getD k []).getD q.toNat 0).take j))) := hown
        have HBq : Hid (Below M wa wr) := hbel
        have hszq : M ≤ wr.heap.size := by have := hbel.size; rw [HM.out]; exact this
        clear hown hbel
        by_cases hjl : j < c.length
        · obtain ⟨b2, o2, cp2, hs2, hc2, hcc2a⟩ := sl_cell HUa.out hjl
          simp only [Value.slice.injEq] at hs2
          obtain ⟨rfl, _, rfl⟩ := hs2
          have hcc2 : wr.cell? ⟨b2, o2 + j, none⟩ = some (.int .i64 (c.getD j 0)) := (HBq.out.cell (by rw [HM.out]; exact lt_of_cell hcc2a)).trans hcc2a
          have hcq : wr.cell? ⟨b, o + k, none⟩ = some r1 := (HBq.out.cell (by rw [HM.out]; exact lt_of_cell hcc)).trans hcc
          have hmem : c.getD j 0 ∈ c := by simp [hjl]
          obtain ⟨hq1, hq2⟩ := HQ.out _ hmem
          have hq3 : c.getD j 0 < (m.getD k []).length := hq2 _ (by simp [hlt])
          clear hmem hq2
          obtain ⟨q, hqq⟩ := Int.eq_ofNat_of_zero_le hq1
          obtain ⟨z, hz⟩ : ∃ z, z = (m.getD k []).getD q 0 := ⟨_, rfl⟩
          have HZ : Hid ((c.map fun q => (m.getD k []).getD q.toNat 0).take (j + 1) = (c.map fun q => (m.getD k []).getD q.toNat 0).take j ++ [z]) := by
            have e := map_snoc (fun q => (m.getD k []).getD q.toNat 0) c j hjl
            have e2 : c[j] = (q : Int) := by rw [← hqq]; simp [hjl]
            rw [hz, ← Int.toNat_natCast q, ← e2]; exact e
          have HLL : Hid (((c.map fun q => (m.getD k []).getD q.toNat 0).take j).length = j) := by
            show _ = _
            simp; omega
          obtain ⟨b3, o3, cp3, hs3, hc3, hcc3a⟩ := sl_cell HR1.out (k := q) (by omega)
          subst hs3
          rw [hqq] at hcc2 hq3 hcc2a
          rw [← hz] at hcc3a
          have hcc3 : wr.cell? ⟨b3, o3 + q, none⟩ = some (.int .i64 z) := (HBq.out.cell (by rw [HM.out]; exact lt_of_cell hcc3a)).trans hcc3a
          generalize hln : (m.getD k []).length = ln at *
          have KA : Hid (((b < M ∧ wa.cell? ⟨b, o + k, none⟩ = some (.slice (some ⟨b3, o3, none⟩) ln cp3)) ∧ (b2 < M ∧ wa.cell? ⟨b2, o2 + j, none⟩ = some (.int .i64 q))) ∧ (b3 < M ∧ wa.cell? ⟨b3, o3 + q, none⟩ = some (.int .i64 z))) := by
            rw [HM.out]; exact ⟨⟨⟨lt_of_cell hcc, hcc⟩, ⟨lt_of_cell hcc2a, hcc2a⟩⟩, ⟨lt_of_cell hcc3a, hcc3a⟩⟩
          clear hcc2a hcc3a
          have hkI : (k : Int) < (m.length : Int) := by omega
          have hjI : (j : Int) < (c.length : Int) := by omega
          have hkI0 : (0 : Int) ≤ (k : Int) := by omega
          have hjI0 : (0 : Int) ≤ (j : Int) := by omega
          have hqI0 : (0 : Int) ≤ (q : Int) := by omega
          clear hqq hz hq1 hln
          go_wp2
          go_region_held3 (fun w' => w'.cell? ⟨b, o + k, none⟩ = some (.slice (some ⟨b3, o3, none⟩) ln cp3) ∧ w'.cell? ⟨b2, o2 + j, none⟩ = some (.int .i64 q) ∧ w'.cell? ⟨b3, o3 + q, none⟩ = some (.int .i64 z)) (first | go_keep | exact KS.out)
            ((refine step_append_own (by rfl) _ _ 25 (by rfl) M 3 i3 (.int .i64 0) 1 8 Try.underlying25 hi3 hz30 hz31 hz32 rfl (by decide) _ _ _ (by rfl) (HO.out.drew.alloc _) ⟨wr.heap.size, 0, none⟩ 1 1 [.int .i64 z] (by rfl) rfl (one_new _ _ _) (one_int _) (by unfold maxLen; omega) (by omega) (by simp; omega) ?_; intro v' w3 ho hg; have RR := push3 HBq.out hszq HLL.out HO.out ho hg (hz := HZ.out); have KS := keep3 (a1 := ⟨b, o + k, none⟩) (a2 := ⟨b2, o2 + j, none⟩) (a3 := ⟨b3, o3 + q, none⟩) RR.2 KA.out))
          have R1 : Hid (w3.ownsRow M 3 1 v' (j + 1) (ints ((c.map fun q => (m.getD k []).getD q.toNat 0).take (j + 1)))) := RR.1
          have R2 : Hid (Below M wa w3) := RR.2
          clear RR ho hg KS
          go_wp2
          go_roundw
          case rel => exact ⟨j + 1, by omega, by go_num, R1.out, R2.out⟩
          case measure => simp [intOf]; omega
        · have HX : Hid (Sl w.heap.size 3 wr u7 (ints (c.map fun q => (m.getD k []).getD q.toNat 0))) := by
            have h := HO.out
            rw [List.take_of_length_le (by simp; omega)] at h
            exact Sl.own h
          have HRq : Hid (Rws w.heap.size 25 3 wr u5 ((colsL m c).take k)) := HR.out.below HBq.out (by rw [HM.out]; exact Nat.le_refl _)
          have HBw : Hid (Below w.heap.size w wr) := HB.out.trans (HBq.out.mono hMs)
          obtain ⟨xo, xc, hxv⟩ := owns_form HO.out
          subst hxv
          obtain ⟨vs, g1, g2, g3⟩ := HRq.out
          have hlen : ((colsL m c).take k).length = k := by rw [List.length_take, colsL_length]; omega
          have HLN : Hid (((colsL m c).take k).length = k) := hlen
          rw [hlen] at g1 g2 g3
          have G1 : Hid (vs.length = k) := g1
          have G2 : Hid (wr.ownsRow w.heap.size 25 1 u5 k vs) := g2
          have G3 : Hid (∀ i, i < k → Sl w.heap.size 3 wr (vs.getD i (.slice none 0 0)) (ints (((colsL m c).take k).getD i []))) := g3
          clear g1 g2 g3 hlen HO
          go_wp2_with (first | (at_builtin; refine wpList_append_own _ rfl _ _ 22 rfl w.heap.size 25 i0 (.slice none 0 0) 1 24 Try.underlying22 hi hz0 hz1 hz2 rfl (by decide) _ _ _ rfl (G2.out.alloc _) ⟨wr.heap.size, 0, none⟩ 1 1 [.slice xo j xc] rfl rfl (one_new _ _ _) (one_slice _ _ _) ?d3 ?d4 ?d5 ?_))
          case d3 => unfold maxLen; omega
          case d4 => omega
          case d5 => simp; omega
          intro v' w3 ho hg _
          have R1 : Hid (Rws w.heap.size 25 3 w3 v' ((colsL m c).take (k + 1))) := by
            have hp := Rws.push (e2 := 25) (e1 := 3) (m := (colsL m c).take k) (u := .slice xo j xc) (zs := c.map fun q => (m.getD k []).getD q.toNat 0) (by decide) (by rw [HLN.out]; exact G1.out) (by rw [HLN.out]; exact G2.out.alloc _)
              (fun i hi => (G3.out i (by rw [HLN.out] at hi; exact hi)).alloc _) (HX.out.alloc _) (by rw [HLN.out]; exact ho) hg
            rw [← colsL_snoc m c k hlt] at hp
            exact hp
          have R2 : Hid (Below w.heap.size w w3) := (HBw.out.alloc (by omega) _).grown hg (by simp; omega) (fun x hx => (G2.out.lt x hx).1)
          clear ho hg
          go_wp2
          go_roundw
          case rel => exact ⟨k + 1, by omega, by go_num, R1.out, R2.out⟩
          case measure => simp [intOf]; omega
    · go_wp2
      go_ret
      have h := HR.out
      rw [List.take_of_length_le (by rw [colsL_length]; omega)] at h
      exact ⟨_, rfl, h, HB.out⟩

end Go.Proofs.Ytdmkmljhljoojaa
