/- facetref.PolyOf: Whitney's sums. -/
import Derived.Test.YtgfnmkenpgnllaaGreatEz7
import Derived.Test.YtgfnmkenpgnllaaGreatEz6
import Derived.Test.YtgfnmkenpgnllaaGreatFl5
namespace Go.Proofs.YtgfnmkenpgnllaaGreat
open Go.RowKit Lin
attribute [local go_sem ↓] Go.wp_at_zero Go.wp_at_succ

/-- Between the sets. -/
structure PwI (w : World) (d : Nat) (P : List (List Int)) (s : Nat) (W : World) : Prop where
  row : ∃ F, W.rowIs w.heap.size 3 (d + 1) F ∧ ∀ i, i < d + 1 → F i = .int .i64 ((poW d P s).getD i 0)
  bel : Below w.heap.size w W
  size : w.heap.size + 1 ≤ W.heap.size

theorem PwI.below {w W W' : World} {d s : Nat} {P : List (List Int)} (h : PwI w d P s W) (hb : Below W.heap.size W W') : PwI w d P s W' := by
  have hs := h.size
  obtain ⟨F, h1, h2⟩ := h.row
  exact ⟨⟨F, h1.of_block (hb.block _ (by omega)), h2⟩, h.bel.trans (hb.mono h.bel.size), Nat.le_trans hs hb.size⟩

theorem PwI.put {w W : World} {d s j : Nat} {P : List (List Int)} {z : Int} (h : PwI w d P s W) (hj : j < d + 1) (hz : poW d P (s + 1) = (poW d P s).set j z) : PwI w d P (s + 1) (W.setCell ⟨w.heap.size, j, none⟩ (.int .i64 z)) := by
  obtain ⟨⟨F, h1, h2⟩, h3, h4⟩ := h
  refine ⟨⟨_, h1.set j _, fun i hi => ?_⟩, h3.setCell (by show w.heap.size ≤ w.heap.size; omega) _, by simp [World.setCell]; omega⟩
  rw [hz]
  by_cases e : i = j
  · subst e
    have hl : i < (poW d P s).length := by rw [poW_len]; omega
    simp [hl]
  · have e2 : ((poW d P s).set j z).getD i 0 = (poW d P s).getD i 0 := by
      rw [List.getD_eq_getElem?_getD, List.getElem?_set_ne (Ne.symm e), ← List.getD_eq_getElem?_getD]
    rw [if_neg e, h2 i hi, e2]

theorem tmod_even (n : Nat) : ((n : Int) % 2 == 0) = decide (n % 2 = 0) := by
  have e : (n : Int) % 2 = ((n % 2 : Nat) : Int) := by omega
  rw [e]
  rcases (show n % 2 = 0 ∨ n % 2 = 1 by omega) with h | h <;> simp [h]

set_option maxRecDepth 100000 in
set_option maxHeartbeats 4000000 in
theorem polyOf_any (d : Nat) (P : List (List Int)) (v : Value) (w : World) (hv : Mat 0 22 3 w v P) (hP : ∀ p ∈ P, p.length = d + 1 ∧ ∀ z ∈ p, z.natAbs ≤ 20) (hd1 : 1 ≤ d) (hd3 : d ≤ 3) (h6 : P.length ≤ 6) :
    Calls Tryz.prog 12 #[.int .i64 d, v] w fun e w' => ∃ co cc, e = .returned (.slice co (d + 1) cc) ∧ Sl 0 3 w' (.slice co (d + 1) cc) (ints ((List.range (d + 1)).map (whC d P))) ∧ Below w.heap.size w w' := by
  obtain ⟨ro, rc, hvv, hlc, hcm⟩ := mat_open hv
  subst hvv
  obtain ⟨tn, htn⟩ : ∃ tn : Nat, tn = 2 ^ P.length := ⟨_, rfl⟩
  have HTI : Hid ((2 : Int) ^ P.length = (tn : Int)) := by show _ = _; rw [htn]; simp
  have htl : tn ≤ 64 := by rw [htn]; exact show 2 ^ P.length ≤ 2 ^ 6 from Nat.pow_le_pow_right (by omega) h6
  have HWT : Hid (IntKind.i64.wrap (tn : Int) = (tn : Int)) := wrap_small _ (by omega) (by omega)
  have HME : Hid (∀ s X, s < tn → Below w.heap.size w X → Calls Tryz.prog 30 #[.int .i64 d, .slice ro P.length rc, .int .i64 s] X fun e w' => e = .returned (.tuple #[.bool (cen d P s), .int .i64 (rk d (plS P s) : Nat)]) ∧ Below X.heap.size X w') := fun s X hs hX => meets_any d s P _ X (hv.below hX (Nat.le_refl _)) hP hd1 hd3 h6 (by rw [← htn]; exact hs)
  have HSZ : Hid (∀ s X, s < tn → Calls Tryz.prog 33 #[.int .i64 s] X fun e w' => ∃ n : Nat, e = .returned (.int .i64 (n : Int)) ∧ n ≤ 6 ∧ sg s = (if n % 2 = 0 then 1 else -1) ∧ Below X.heap.size X w') := fun s X hs => by
    refine (sizeN_any s P.length X (by rw [← htn]; exact hs) (by omega)).mono ?_
    rintro e w' ⟨rfl, hb⟩
    exact ⟨_, rfl, Nat.le_trans (meE_len s P.length) h6, sg_size h6 (by rw [← htn]; exact hs), hb⟩
  have HNO : Hid (∀ s, cen d P s = false → poW d P (s + 1) = poW d P s) := fun s h => poW_no h
  have HYE : Hid (∀ s, cen d P s = true → poW d P (s + 1) = (poW d P s).set (d - rk d (plS P s)) ((poW d P s).getD (d - rk d (plS P s)) 0 + sg s)) := fun s h => poW_yes h
  have HRK : Hid (∀ s, rk d (plS P s) ≤ d) := fun s => rk_cap _ _
  have HAB : Hid (∀ s j, s < tn → j < d + 1 → ((poW d P s).getD j 0).natAbs ≤ 64) := fun s j hs hj => by
    rw [poW_get hj]
    have := pwC_abs d P s j
    omega
  have HEN : Hid (poW d P tn = (List.range (d + 1)).map (whC d P)) := by show _ = _; rw [htn]; exact poW_end d P
  have HZ : Hid (poW d P 0 = List.replicate (d + 1) 0) := poW_zero d P
  have HLE : Hid (∀ s, (poW d P s).length = d + 1) := fun s => poW_len d P s
  have hmk := run_make_row' (P := Tryz.prog) 22 3 (.int .i64 0) 8 Tryz.underlying22 Tryz.info3 rfl .i64 .i64 (d + 1) (by omega) (by omega)
  have hde : ((d + 1 : Nat) : Int) = (d : Int) + 1 := by omega
  simp only [hde] at hmk
  clear hde
  clear hv hP htn
  generalize hnp : P.length = nP at *
  clear hnp
  go_enter Tryz.func12, Tryz.ntmps12
  go_wp2
  obtain ⟨W2, hW2⟩ : ∃ W2, W2 = w.alloc (.cells (madeCells #[.int .i64 0] (d + 1)) 3) := ⟨_, rfl⟩
  have HI0 : Hid (PwI w d P 0 W2) := by
    have hb1 : Below w.heap.size w W2 := by rw [hW2]; exact alloc_keep _ _
    refine ⟨⟨fun _ => .int .i64 0, ⟨madeCells #[.int .i64 0] (d + 1), ?_, by rw [size_madeCells], fun i hi => ?_⟩, fun i hi => ?_⟩, hb1, by rw [hW2]; simp⟩
    · rw [hW2]
      exact heap_alloc_new _ _
    · rw [← Array.getElem?_toList, toList_madeCells_one]; simp [hi]
    · rw [HZ.out]
      simp [hi]
  rw [← hW2]
  clear hW2 hmk HZ
  go_loopw [6, 7, 8] (fun s _ _ wr => ∃ k : Nat, k ≤ tn ∧ s = .int .i64 (k : Int) ∧ PwI w d P k wr) (fun s _ _ _ => tn - (intOf s).toNat)
  case atStart => exact ⟨0, Nat.zero_le _, rfl, HI0.out⟩
  case round =>
    obtain ⟨k, hk, rfl, hI⟩ := hrel
    obtain ⟨wa, rfl⟩ : ∃ wa, wa = wr := ⟨_, rfl⟩
    have HI : Hid (PwI w d P k wa) := hI
    clear hI
    have hti := HTI.out
    have hwt := HWT.out
    by_cases hlt : k < tn
    · have hkI : (k : Int) < (tn : Int) := Int.ofNat_lt.2 hlt
      have HM : Hid (Calls Tryz.prog 30 #[.int .i64 d, .slice ro nP rc, .int .i64 k] wa fun e w' => e = .returned (.tuple #[.bool (cen d P k), .int .i64 (rk d (plS P k) : Nat)]) ∧ Below wa.heap.size wa w') := HME.out k wa hlt HI.out.bel
      have HN1 : Hid (cen d P k = false → poW d P (k + 1) = poW d P k) := HNO.out k
      have HY1 : Hid (cen d P k = true → poW d P (k + 1) = (poW d P k).set (d - rk d (plS P k)) ((poW d P k).getD (d - rk d (plS P k)) 0 + sg k)) := HYE.out k
      have hrd : rk d (plS P k) ≤ d := HRK.out k
      generalize cen d P k = c at *
      generalize rk d (plS P k) = r at *
      go_wp2_with fail
      clear hti hwt
      refine HM.out.mono ?_
      rintro e w1 ⟨rfl, hb1⟩
      have HI1 : Hid (PwI w d P k w1) := HI.out.below hb1
      clear hb1 HM HI
      cases c with
      | false =>
        have HI2 : Hid (PwI w d P (k + 1) w1) := by
          obtain ⟨⟨F, p1, p2⟩, p3, p4⟩ := HI1.out
          exact ⟨⟨F, p1, by rw [HN1.out rfl]; exact p2⟩, p3, p4⟩
        clear HI1
        go_wp2
        exact ⟨⟨k + 1, by omega, by go_num, HI2.out⟩, by simp [intOf]; omega⟩
      | true =>
        have HS := HSZ.out k w1 hlt
        have HSC : Hid (Calls Tryz.prog 33 #[.int .i64 k] w1 fun e w' => ∃ n : Nat, e = .returned (.int .i64 (n : Int)) ∧ n ≤ 6 ∧ sg k = (if n % 2 = 0 then 1 else -1) ∧ Below w1.heap.size w1 w') := HS
        have HY2 : Hid (poW d P (k + 1) = (poW d P k).set (d - r) ((poW d P k).getD (d - r) 0 + sg k)) := HY1.out rfl
        clear HS HY1 HN1
        go_wp2_with fail
        refine HSC.out.mono ?_
        rintro e w2 ⟨n, rfl, hn6, hsg, hb2⟩
        have HI2 : Hid (PwI w d P k w2) := HI1.out.below hb2
        have hpe := tmod_even n
        obtain ⟨j, hj⟩ : ∃ j, j = d - r := ⟨_, rfl⟩
        have hjI : (d : Int) - (r : Int) = (j : Int) := by omega
        have hjd : j < d + 1 := by omega
        have hjdI : (j : Int) < (d : Int) + 1 := by omega
        obtain ⟨F, hF1, hF2⟩ := HI2.out.row
        have c5 : w2.cell? ⟨w.heap.size, j, none⟩ = some (.int .i64 ((poW d P k).getD j 0)) := by rw [hF1.cell hjd, hF2 j hjd]
        have c6 : w2.frozen? ⟨w.heap.size, j, none⟩ = false := hF1.frozen j
        have hca := HAB.out k j hlt hjd
        rw [← hj] at HY2
        by_cases he : n % 2 = 0
        · have hpe2 : ((n : Int) % 2 == 0) = true := by rw [hpe]; exact decide_eq_true he
          have HFI : Hid (PwI w d P (k + 1) (w2.setCell ⟨w.heap.size, j, none⟩ (.int .i64 ((poW d P k).getD j 0 + 1)))) := by
            refine HI2.out.put hjd ?_
            rw [HY2.out, hsg, if_pos he]
          clear hpe he hsg hF1 hF2 hj HY2 HI1 HI2 hb2 HSC
          generalize (poW d P k).getD j 0 = av at *
          go_wp2
          exact ⟨⟨k + 1, by omega, by go_num, HFI.out⟩, by simp [intOf]; omega⟩
        · have hpe2 : ((n : Int) % 2 == 0) = false := by rw [hpe]; exact decide_eq_false he
          have HFI : Hid (PwI w d P (k + 1) (w2.setCell ⟨w.heap.size, j, none⟩ (.int .i64 ((poW d P k).getD j 0 - 1)))) := by
            refine HI2.out.put hjd ?_
            rw [HY2.out, hsg, if_neg he]
            rfl
          clear hpe he hsg hF1 hF2 hj HY2 HI1 HI2 hb2 HSC
          generalize (poW d P k).getD j 0 = av at *
          go_wp2
          exact ⟨⟨k + 1, by omega, by go_num, HFI.out⟩, by simp [intOf]; omega⟩
    · have hke : k = tn := by omega
      subst hke
      obtain ⟨F, hF1, hF2⟩ := HI.out.row
      have HSL : Hid (Sl 0 3 wa (.slice (some ⟨w.heap.size, 0, none⟩) (d + 1) (d + 1)) (ints ((List.range (d + 1)).map (whC d P)))) := by
        rw [← HEN.out]
        exact row_slT hF1 hF2 (HLE.out _) (Nat.le_refl _) (by omega)
      have HBE : Hid (Below w.heap.size w wa) := HI.out.bel
      clear hF1 hF2 HI HME HSZ HNO HYE HRK HAB
      go_wp2
      go_ret
      exact ⟨_, _, rfl, HSL.out, HBE.out⟩
end Go.Proofs.YtgfnmkenpgnllaaGreat
