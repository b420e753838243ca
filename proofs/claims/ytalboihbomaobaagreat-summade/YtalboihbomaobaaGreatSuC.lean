import Derived.Test.YtalboihbomaobaaGreatSuA
import Derived.Test.YtalboihbomaobaaGreatSuB
import Derived.Test.YtalboihbomaobaaGreatWhY
import Derived.Test.YtalboihbomaobaaGreatHmF
/- Whether two polytopes may be added; the program's corners of the sum, and what two have together. -/
namespace Go.Proofs.YtalboihbomaobaaGreat
open Go.RowKit Lin
attribute [local go_sem ↓] Go.wp_at_zero Go.wp_at_succ

/-- Two polytopes that may be added. -/
structure Two2 (d : Nat) (P Q : List (List Int)) : Prop where
  gp : Good d P
  gq : Good d Q
  d3 : d ≤ 3
  bp : Box d 4 P
  bq : Box d 4 Q
  p24 : P.length ≤ 24
  q24 : Q.length ≤ 24
  n64 : P.length * Q.length ≤ 64

theorem Two2.good {d : Nat} {P Q : List (List Int)} (h : Two2 d P Q) : Good d (sumP P Q) :=
  sum_good h.gp (fun r hr => by
    have := sumP_box h.bp h.bq r hr
    exact ⟨this.1, fun z hz => by have := this.2 z hz; omega⟩) (by have := h.gq.n2; omega) h.n64

theorem Two2.box {d : Nat} {P Q : List (List Int)} (h : Two2 d P Q) : Box d 15 (sumP P Q) := fun r hr => by
  have := sumP_box h.bp h.bq r hr
  exact ⟨this.1, fun z hz => by have := this.2 z hz; omega⟩

set_option maxRecDepth 100000 in
set_option maxHeartbeats 1600000 in
theorem both_any (d : Nat) (P Q : List (List Int)) (pv qv : Value) (w : World) (hp : Mat w.heap.size 22 3 w pv P) (hq : Mat w.heap.size 22 3 w qv Q) (h : Two2 d P Q) :
    Calls Tryz.prog 24 #[.agg #[.int .i64 d, pv], .agg #[.int .i64 d, qv]] w fun e w' => e = .returned (.int .i64 0) ∧ Below w.heap.size w w' := by
  obtain ⟨po, pc, rfl, _, _⟩ := mat_open hp
  obtain ⟨qo, qc, rfl, _, _⟩ := mat_open hq
  obtain ⟨W, hW⟩ : ∃ W, W = (w.alloc (.cells #[.int .i64 d, .slice po P.length pc] 27)).alloc (.cells #[.int .i64 d, .slice qo Q.length qc] 27) := ⟨_, rfl⟩
  have hbw : Below w.heap.size w W := by rw [hW]; exact ((Below.refl _ _).alloc (Nat.le_refl _) _).alloc (by simp) _
  have HW : Hid (Below w.heap.size w W) := hbw
  have c0 : W.cell? ⟨w.heap.size, 0, none⟩ = some (.int .i64 d) := by rw [hW]; simp
  have c1 : W.cell? ⟨w.heap.size, 1, none⟩ = some (.slice po P.length pc) := by rw [hW]; simp
  have c2 : W.cell? ⟨w.heap.size + 1, 0, none⟩ = some (.int .i64 d) := by rw [hW]; simp
  have c3 : W.cell? ⟨w.heap.size + 1, 1, none⟩ = some (.slice qo Q.length qc) := by rw [hW]; simp
  have HC : Hid (∀ X, Below W.heap.size W X → X.cell? ⟨w.heap.size, 0, none⟩ = some (.int .i64 d) ∧ X.cell? ⟨w.heap.size, 1, none⟩ = some (.slice po P.length pc) ∧ X.cell? ⟨w.heap.size + 1, 0, none⟩ = some (.int .i64 d) ∧ X.cell? ⟨w.heap.size + 1, 1, none⟩ = some (.slice qo Q.length qc)) := fun X hX => ⟨(hX.cell (lt_of_cell c0)).trans c0, (hX.cell (lt_of_cell c1)).trans c1, (hX.cell (lt_of_cell c2)).trans c2, (hX.cell (lt_of_cell c3)).trans c3⟩
  have K1 : Hid (Calls Tryz.prog 40 #[.agg #[.int .i64 d, .slice po P.length pc]] W fun e w' => e = .returned (.int .i64 0) ∧ Below W.heap.size W w') := hullCheckK0 d P _ W ((hp.below hbw (Nat.le_refl _)).any (Nat.le_refl _)) h.gp h.p24
  have K2 : Hid (∀ X, Below W.heap.size W X → Calls Tryz.prog 40 #[.agg #[.int .i64 d, .slice qo Q.length qc]] X fun e w' => e = .returned (.int .i64 0) ∧ Below X.heap.size X w') := fun X hX => hullCheckK0 d Q _ X (((hq.below hbw (Nat.le_refl _)).below hX (by have := hbw.size; omega)).any (Nat.le_refl _)) h.gq h.q24
  have hpq : (P.length : Int) * (Q.length : Int) ≤ 64 := by
    have := h.n64
    exact_mod_cast this
  have hpq0 : (0 : Int) ≤ (P.length : Int) * (Q.length : Int) := Int.mul_nonneg (by omega) (by omega)
  have hwm : IntKind.wrap .i64 ((P.length : Int) * (Q.length : Int)) = (P.length : Int) * (Q.length : Int) := by rw [IntKind.wrap_i64]; omega
  have hdm : decide ((64 : Int) < (P.length : Int) * (Q.length : Int)) = false := decide_eq_false (by omega)
  clear hp hq h hbw
  go_enter Tryz.func24, Tryz.ntmps24
  go_wp2_with fail
  rw [← hW]
  clear hW
  refine K1.out.mono ?_
  rintro e w1 ⟨rfl, hb1⟩
  have HK := K2.out w1 hb1
  obtain ⟨d0, d1, d2, d3⟩ := HC.out w1 hb1
  have HB1 : Hid (Below W.heap.size W w1) := hb1
  clear hb1 K1 K2 c0 c1 c2 c3
  go_wp2_with fail
  refine HK.mono ?_
  rintro e w2 ⟨rfl, hb2⟩
  have HB2 : Hid (Below W.heap.size W w2) := HB1.out.trans (hb2.mono HB1.out.size)
  obtain ⟨e0, e1, e2, e3⟩ := HC.out w2 HB2.out
  clear hb2 HK d0 d1 d2 d3
  go_wp2
  go_ret
  exact ⟨rfl, HW.out.trans (HB2.out.mono HW.out.size)⟩

set_option maxRecDepth 100000 in
set_option maxHeartbeats 1600000 in
theorem mayR_any (d : Nat) (P Q : List (List Int)) (pv qv : Value) (w : World) (hp : Mat w.heap.size 22 3 w pv P) (hq : Mat w.heap.size 22 3 w qv Q) (h : Two2 d P Q) :
    Calls Tryz.prog 8 #[.agg #[.int .i64 d, pv], .agg #[.int .i64 d, qv]] w fun e w' => e = .returned (.int .i64 0) ∧ Below w.heap.size w w' := by
  obtain ⟨po, pc, rfl, _, _⟩ := mat_open hp
  obtain ⟨qo, qc, rfl, _, _⟩ := mat_open hq
  obtain ⟨W, hW⟩ : ∃ W, W = (w.alloc (.cells #[.int .i64 d, .slice po P.length pc] 27)).alloc (.cells #[.int .i64 d, .slice qo Q.length qc] 27) := ⟨_, rfl⟩
  have hbw : Below w.heap.size w W := by rw [hW]; exact ((Below.refl _ _).alloc (Nat.le_refl _) _).alloc (by simp) _
  have HW : Hid (Below w.heap.size w W) := hbw
  have c0 : W.cell? ⟨w.heap.size, 0, none⟩ = some (.int .i64 d) := by rw [hW]; simp
  have c1 : W.cell? ⟨w.heap.size, 1, none⟩ = some (.slice po P.length pc) := by rw [hW]; simp
  have c2 : W.cell? ⟨w.heap.size + 1, 0, none⟩ = some (.int .i64 d) := by rw [hW]; simp
  have c3 : W.cell? ⟨w.heap.size + 1, 1, none⟩ = some (.slice qo Q.length qc) := by rw [hW]; simp
  have HC : Hid (∀ X, Below W.heap.size W X → X.cell? ⟨w.heap.size, 0, none⟩ = some (.int .i64 d) ∧ X.cell? ⟨w.heap.size, 1, none⟩ = some (.slice po P.length pc) ∧ X.cell? ⟨w.heap.size + 1, 0, none⟩ = some (.int .i64 d) ∧ X.cell? ⟨w.heap.size + 1, 1, none⟩ = some (.slice qo Q.length qc)) := fun X hX => ⟨(hX.cell (lt_of_cell c0)).trans c0, (hX.cell (lt_of_cell c1)).trans c1, (hX.cell (lt_of_cell c2)).trans c2, (hX.cell (lt_of_cell c3)).trans c3⟩
  have K1 : Hid (Calls Tryz.prog 17 #[.agg #[.int .i64 d, .slice po P.length pc]] W fun e w' => e = .returned (.int .i64 0) ∧ Below W.heap.size W w') := hullMay_ok0 d P _ W ((hp.below hbw (Nat.le_refl _)).any (Nat.le_refl _)) h.gp h.p24
  have K2 : Hid (∀ X, Below W.heap.size W X → Calls Tryz.prog 17 #[.agg #[.int .i64 d, .slice qo Q.length qc]] X fun e w' => e = .returned (.int .i64 0) ∧ Below X.heap.size X w') := fun X hX => hullMay_ok0 d Q _ X (((hq.below hbw (Nat.le_refl _)).below hX (by have := hbw.size; omega)).any (Nat.le_refl _)) h.gq h.q24
  have hpq : (P.length : Int) * (Q.length : Int) ≤ 64 := by
    have := h.n64
    exact_mod_cast this
  have hpq0 : (0 : Int) ≤ (P.length : Int) * (Q.length : Int) := Int.mul_nonneg (by omega) (by omega)
  have hwm : IntKind.wrap .i64 ((P.length : Int) * (Q.length : Int)) = (P.length : Int) * (Q.length : Int) := by rw [IntKind.wrap_i64]; omega
  have hdm : decide ((64 : Int) < (P.length : Int) * (Q.length : Int)) = false := decide_eq_false (by omega)
  clear hp hq h hbw
  go_enter Tryz.func8, Tryz.ntmps8
  go_wp2_with fail
  rw [← hW]
  clear hW
  refine K1.out.mono ?_
  rintro e w1 ⟨rfl, hb1⟩
  have HK := K2.out w1 hb1
  obtain ⟨d0, d1, d2, d3⟩ := HC.out w1 hb1
  have HB1 : Hid (Below W.heap.size W w1) := hb1
  clear hb1 K1 K2 c0 c1 c2 c3
  go_wp2_with fail
  refine HK.mono ?_
  rintro e w2 ⟨rfl, hb2⟩
  have HB2 : Hid (Below W.heap.size W w2) := HB1.out.trans (hb2.mono HB1.out.size)
  obtain ⟨e0, e1, e2, e3⟩ := HC.out w2 HB2.out
  clear hb2 HK d0 d1 d2 d3
  go_wp2
  go_ret
  exact ⟨rfl, HW.out.trans (HB2.out.mono HW.out.size)⟩

/-- What the program's sums are. -/
theorem sumsT_any {d : Nat} {P Q : List (List Int)} (h : Two2 d P Q) (u v : Value) (w : World) (hu : Mat w.heap.size 22 3 w u P) (hv : Mat w.heap.size 22 3 w v Q) :
    Calls Tryz.prog 26 #[u, v] w fun e w' => ∃ (xo : Option Addr) (xc : Nat), e = .returned (.slice xo (sumP P Q).length xc) ∧ Mat w'.heap.size 22 3 w' (.slice xo (sumP P Q).length xc) (sumP P Q) ∧ Below w.heap.size w w' := by
  refine (sums_any d 4 P Q u v w hu hv h.gp.d1 (by have := h.d3; omega) h.bp h.bq (by decide) (by have := h.p24; omega) (by have := h.q24; omega)).mono ?_
  rintro e w' ⟨x, rfl, hr, hb⟩
  have hM := hr.mat (B' := w'.heap.size) hb.size
  obtain ⟨xo, xc, rfl, _, _⟩ := mat_open hM
  exact ⟨xo, xc, rfl, hM, hb⟩

set_option maxRecDepth 100000 in
set_option maxHeartbeats 1600000 in
theorem sumCorners_any (d : Nat) (P Q : List (List Int)) (pv qv : Value) (w : World) (hp : Mat w.heap.size 22 3 w pv P) (hq : Mat w.heap.size 22 3 w qv Q) (h : Two2 d P Q) :
    Calls Tryz.prog 12 #[.agg #[.int .i64 d, pv], .agg #[.int .i64 d, qv]] w fun e w' => ∃ (co : Option Addr) (cc : Nat) (s C : List (List Int)), e = .returned (.tuple #[.slice co C.length cc, .int .i64 0]) ∧ SrC d (sumP P Q) s C ∧ Mat 0 22 3 w' (.slice co C.length cc) C ∧ Below w.heap.size w w' := by
  obtain ⟨po, pc, rfl, _, _⟩ := mat_open hp
  obtain ⟨qo, qc, rfl, _, _⟩ := mat_open hq
  obtain ⟨W, hW⟩ : ∃ W, W = (w.alloc (.cells #[.int .i64 d, .slice po P.length pc] 27)).alloc (.cells #[.int .i64 d, .slice qo Q.length qc] 27) := ⟨_, rfl⟩
  have hbw : Below w.heap.size w W := by rw [hW]; exact ((Below.refl _ _).alloc (Nat.le_refl _) _).alloc (by simp) _
  have HW : Hid (Below w.heap.size w W) := hbw
  have c0 : W.cell? ⟨w.heap.size, 0, none⟩ = some (.int .i64 d) := by rw [hW]; simp
  have c1 : W.cell? ⟨w.heap.size, 1, none⟩ = some (.slice po P.length pc) := by rw [hW]; simp
  have c2 : W.cell? ⟨w.heap.size + 1, 0, none⟩ = some (.int .i64 d) := by rw [hW]; simp
  have c3 : W.cell? ⟨w.heap.size + 1, 1, none⟩ = some (.slice qo Q.length qc) := by rw [hW]; simp
  have HC : Hid (∀ X, Below W.heap.size W X → X.cell? ⟨w.heap.size, 0, none⟩ = some (.int .i64 d) ∧ X.cell? ⟨w.heap.size, 1, none⟩ = some (.slice po P.length pc) ∧ X.cell? ⟨w.heap.size + 1, 0, none⟩ = some (.int .i64 d) ∧ X.cell? ⟨w.heap.size + 1, 1, none⟩ = some (.slice qo Q.length qc)) := fun X hX => ⟨(hX.cell (lt_of_cell c0)).trans c0, (hX.cell (lt_of_cell c1)).trans c1, (hX.cell (lt_of_cell c2)).trans c2, (hX.cell (lt_of_cell c3)).trans c3⟩
  have hPW : ∀ X, Below W.heap.size W X → Mat X.heap.size 22 3 X (.slice po P.length pc) P := fun X hX => ((hp.below hbw (Nat.le_refl _)).below hX (by have := hbw.size; omega)).any (Nat.le_refl _)
  have hQW : ∀ X, Below W.heap.size W X → Mat X.heap.size 22 3 X (.slice qo Q.length qc) Q := fun X hX => ((hq.below hbw (Nat.le_refl _)).below hX (by have := hbw.size; omega)).any (Nat.le_refl _)
  have K1 : Hid (Calls Tryz.prog 24 #[.agg #[.int .i64 d, .slice po P.length pc], .agg #[.int .i64 d, .slice qo Q.length qc]] W fun e w' => e = .returned (.int .i64 0) ∧ Below W.heap.size W w') := both_any d P Q _ _ W (hPW W (Below.refl _ _)) (hQW W (Below.refl _ _)) h
  have K2 : Hid (∀ X, Below W.heap.size W X → Calls Tryz.prog 26 #[.slice po P.length pc, .slice qo Q.length qc] X fun e w' => ∃ (xo : Option Addr) (xc : Nat), e = .returned (.slice xo (sumP P Q).length xc) ∧ Mat w'.heap.size 22 3 w' (.slice xo (sumP P Q).length xc) (sumP P Q) ∧ Below X.heap.size X w') := fun X hX => sumsT_any h _ _ X (hPW X hX) (hQW X hX)
  have K3 : Hid (∀ X u, Mat X.heap.size 22 3 X u (sumP P Q) → Calls Tryz.prog 25 #[u] X fun e w' => ∃ (co : Option Addr) (cc : Nat) (s C : List (List Int)), e = .returned (.slice co C.length cc) ∧ SrC d (sumP P Q) s C ∧ Fr X.heap.size 22 3 w' (.slice co C.length cc) C ∧ Below X.heap.size X w') := fun X u hu => wrapC_any d (sumP P Q) u X hu h.good
  clear hp hq h hbw hPW hQW
  go_enter Tryz.func12, Tryz.ntmps12
  go_wp2_with fail
  rw [← hW]
  clear hW
  refine K1.out.mono ?_
  rintro e w1 ⟨rfl, hb1⟩
  have HK := K2.out w1 hb1
  obtain ⟨d0, d1, d2, d3⟩ := HC.out w1 hb1
  have HB1 : Hid (Below W.heap.size W w1) := hb1
  clear hb1 K1 K2 c0 c1 c2 c3
  go_wp2_with fail
  refine HK.mono ?_
  rintro e w2 ⟨xo, xc, rfl, hM2, hb2⟩
  have HB2 : Hid (Below W.heap.size W w2) := HB1.out.trans (hb2.mono HB1.out.size)
  have HK3 := K3.out w2 _ hM2
  clear hb2 HK d0 d1 d2 d3 hM2 K3
  go_wp2_with fail
  refine HK3.mono ?_
  rintro e w3 ⟨co, cc, s, C, rfl, hS, hf, hb3⟩
  have HS : Hid (SrC d (sumP P Q) s C) := hS
  have HF : Hid (Mat 0 22 3 w3 (.slice co C.length cc) C) := fr_mat0S hf
  have HB3 : Hid (Below W.heap.size W w3) := HB2.out.trans (hb3.mono HB2.out.size)
  clear hS hf hb3 HK3
  go_wp2
  go_ret2
  exact ⟨co, cc, s, C, rfl, HS.out, HF.out, HW.out.trans (HB3.out.mono HW.out.size)⟩

end Go.Proofs.YtalboihbomaobaaGreat

/- sum.Mixed. -/
namespace Go.Proofs.YtalboihbomaobaaGreat
open Go.RowKit Lin
attribute [local go_sem ↓] Go.wp_at_zero Go.wp_at_succ

theorem tdiv2_bd {x : Int} (h1 : -3000000000000 ≤ x) (h2 : x ≤ 3000000000000) : IntKind.i64.wrap (x.tdiv 2) = x.tdiv 2 := by
  have h3 : -9223372036854775808 ≤ x.tdiv 2 ∧ x.tdiv 2 ≤ 9223372036854775807 := by
    by_cases h : 0 ≤ x
    · rw [Int.tdiv_eq_ediv_of_nonneg h]; omega
    · have e : x.tdiv 2 = -((-x).tdiv 2) := by rw [Int.neg_tdiv]; omega
      rw [e, Int.tdiv_eq_ediv_of_nonneg (by omega)]; omega
  rw [IntWalk.i64_left]; exact IntWalk.wrap64_in _ ⟨by omega, by omega⟩

/-- Twice an area. -/
def IsA (P : List (List Int)) (a : Int) : Prop := ∃ s C, SrC 2 P s C ∧ a = arS C s

theorem IsA.one {P P' : List (List Int)} {a b : Int} (h : IsA P a) (h' : IsA P' b) (hP : ∀ r, r ∈ P' ↔ r ∈ P) : b = a := by
  obtain ⟨s, C, h1, rfl⟩ := h
  obtain ⟨s', C', h1', rfl⟩ := h'
  obtain ⟨rfl, rfl⟩ := h1.other h1' hP
  rfl

theorem IsA.bd {P : List (List Int)} {a : Int} (h : IsA P a) (hn : P.length ≤ 64) : 0 ≤ a ∧ a ≤ 1000000000000 := by
  obtain ⟨s, C, h1, rfl⟩ := h
  have h2 := h1.arSB s.length (Nat.le_refl _)
  rw [List.take_length] at h2
  have := h1.many hn
  omega

set_option maxRecDepth 100000 in
set_option maxHeartbeats 1600000 in
theorem mixed_no (d : Nat) (P Q : List (List Int)) (pv qv : Value) (w : World) (hp : Mat w.heap.size 22 3 w pv P) (hq : Mat w.heap.size 22 3 w qv Q) (h : Two2 d P Q) (hd : d ≠ 2) :
    Calls Tryz.prog 13 #[.agg #[.int .i64 d, pv], .agg #[.int .i64 d, qv]] w fun e w' => e = .returned (.tuple #[.int .i64 0, .int .i64 1]) ∧ Below w.heap.size w w' := by
  obtain ⟨po, pc, rfl, _, _⟩ := mat_open hp
  obtain ⟨qo, qc, rfl, _, _⟩ := mat_open hq
  obtain ⟨W, hW⟩ : ∃ W, W = (w.alloc (.cells #[.int .i64 d, .slice po P.length pc] 27)).alloc (.cells #[.int .i64 d, .slice qo Q.length qc] 27) := ⟨_, rfl⟩
  have hbw : Below w.heap.size w W := by rw [hW]; exact ((Below.refl _ _).alloc (Nat.le_refl _) _).alloc (by simp) _
  have HW : Hid (Below w.heap.size w W) := hbw
  have c0 : W.cell? ⟨w.heap.size, 0, none⟩ = some (.int .i64 d) := by rw [hW]; simp
  have c1 : W.cell? ⟨w.heap.size, 1, none⟩ = some (.slice po P.length pc) := by rw [hW]; simp
  have c2 : W.cell? ⟨w.heap.size + 1, 0, none⟩ = some (.int .i64 d) := by rw [hW]; simp
  have c3 : W.cell? ⟨w.heap.size + 1, 1, none⟩ = some (.slice qo Q.length qc) := by rw [hW]; simp
  have HC : Hid (∀ X, Below W.heap.size W X → X.cell? ⟨w.heap.size, 0, none⟩ = some (.int .i64 d)) := fun X hX => (hX.cell (lt_of_cell c0)).trans c0
  have K1 : Hid (Calls Tryz.prog 24 #[.agg #[.int .i64 d, .slice po P.length pc], .agg #[.int .i64 d, .slice qo Q.length qc]] W fun e w' => e = .returned (.int .i64 0) ∧ Below W.heap.size W w') := both_any d P Q _ _ W ((hp.below hbw (Nat.le_refl _)).any (Nat.le_refl _)) ((hq.below hbw (Nat.le_refl _)).any (Nat.le_refl _)) h
  have hdt : ((d : Int) != 2) = true := by simp; omega
  clear hp hq h hbw
  go_enter Tryz.func13, Tryz.ntmps13
  go_wp2_with fail
  rw [← hW]
  clear hW
  refine K1.out.mono ?_
  rintro e w1 ⟨rfl, hb1⟩
  have d0 := HC.out w1 hb1
  have HB1 : Hid (Below W.heap.size W w1) := hb1
  clear hb1 K1 c0 c1 c2 c3
  go_wp2
  go_ret2
  exact ⟨rfl, HW.out.trans (HB1.out.mono HW.out.size)⟩

set_option maxRecDepth 100000 in
set_option maxHeartbeats 3200000 in
theorem mixed_yes (P Q : List (List Int)) (pv qv : Value) (w : World) (hp : Mat w.heap.size 22 3 w pv P) (hq : Mat w.heap.size 22 3 w qv Q) (h : Two2 2 P Q) :
    Calls Tryz.prog 13 #[.agg #[.int .i64 2, pv], .agg #[.int .i64 2, qv]] w fun e w' => ∃ T A B, e = .returned (.tuple #[.int .i64 ((T - A - B).tdiv 2), .int .i64 0]) ∧ IsA (sumP P Q) T ∧ IsA P A ∧ IsA Q B ∧ Below w.heap.size w w' := by
  obtain ⟨po, pc, rfl, _, _⟩ := mat_open hp
  obtain ⟨qo, qc, rfl, _, _⟩ := mat_open hq
  obtain ⟨W, hW⟩ : ∃ W, W = (w.alloc (.cells #[.int .i64 2, .slice po P.length pc] 27)).alloc (.cells #[.int .i64 2, .slice qo Q.length qc] 27) := ⟨_, rfl⟩
  have hbw : Below w.heap.size w W := by rw [hW]; exact ((Below.refl _ _).alloc (Nat.le_refl _) _).alloc (by simp) _
  have HW : Hid (Below w.heap.size w W) := hbw
  have c0 : W.cell? ⟨w.heap.size, 0, none⟩ = some (.int .i64 2) := by rw [hW]; simp
  have c1 : W.cell? ⟨w.heap.size, 1, none⟩ = some (.slice po P.length pc) := by rw [hW]; simp
  have c2 : W.cell? ⟨w.heap.size + 1, 0, none⟩ = some (.int .i64 2) := by rw [hW]; simp
  have c3 : W.cell? ⟨w.heap.size + 1, 1, none⟩ = some (.slice qo Q.length qc) := by rw [hW]; simp
  have HC : Hid (∀ X, Below W.heap.size W X → X.cell? ⟨w.heap.size, 0, none⟩ = some (.int .i64 2) ∧ X.cell? ⟨w.heap.size, 1, none⟩ = some (.slice po P.length pc) ∧ X.cell? ⟨w.heap.size + 1, 0, none⟩ = some (.int .i64 2) ∧ X.cell? ⟨w.heap.size + 1, 1, none⟩ = some (.slice qo Q.length qc)) := fun X hX => ⟨(hX.cell (lt_of_cell c0)).trans c0, (hX.cell (lt_of_cell c1)).trans c1, (hX.cell (lt_of_cell c2)).trans c2, (hX.cell (lt_of_cell c3)).trans c3⟩
  have HCS : Hid (∀ X, Below W.heap.size W X → X.cell? ⟨w.heap.size, 1, none⟩ = some (.slice po P.length pc) ∧ X.cell? ⟨w.heap.size + 1, 1, none⟩ = some (.slice qo Q.length qc)) := fun X hX => ⟨(hX.cell (lt_of_cell c1)).trans c1, (hX.cell (lt_of_cell c3)).trans c3⟩
  have hPW : ∀ X, Below W.heap.size W X → Mat X.heap.size 22 3 X (.slice po P.length pc) P := fun X hX => ((hp.below hbw (Nat.le_refl _)).below hX (by have := hbw.size; omega)).any (Nat.le_refl _)
  have hQW : ∀ X, Below W.heap.size W X → Mat X.heap.size 22 3 X (.slice qo Q.length qc) Q := fun X hX => ((hq.below hbw (Nat.le_refl _)).below hX (by have := hbw.size; omega)).any (Nat.le_refl _)
  have K1 : Hid (Calls Tryz.prog 24 #[.agg #[.int .i64 2, .slice po P.length pc], .agg #[.int .i64 2, .slice qo Q.length qc]] W fun e w' => e = .returned (.int .i64 0) ∧ Below W.heap.size W w') := both_any 2 P Q _ _ W (hPW W (Below.refl _ _)) (hQW W (Below.refl _ _)) h
  have K2 : Hid (∀ X, Below W.heap.size W X → Calls Tryz.prog 26 #[.slice po P.length pc, .slice qo Q.length qc] X fun e w' => ∃ (xo : Option Addr) (xc : Nat), e = .returned (.slice xo (sumP P Q).length xc) ∧ Mat w'.heap.size 22 3 w' (.slice xo (sumP P Q).length xc) (sumP P Q) ∧ Below X.heap.size X w') := fun X hX => sumsT_any h _ _ X (hPW X hX) (hQW X hX)
  have hsl : (sumP P Q).length ≤ 64 := by rw [sumP_len]; exact h.n64
  have K3 : Hid (∀ X u, Mat X.heap.size 22 3 X u (sumP P Q) → Calls Tryz.prog 27 #[u] X fun e w' => ∃ a, e = .returned (.int .i64 a) ∧ IsA (sumP P Q) a ∧ Below X.heap.size X w') := fun X u hu => (twice_any (sumP P Q) u X hu h.good hsl).mono fun e w' ⟨s, C, h1, h2, h3⟩ => ⟨_, h1, ⟨s, C, h2, rfl⟩, h3⟩
  have K4 : Hid (∀ X, Below W.heap.size W X → Calls Tryz.prog 27 #[.slice po P.length pc] X fun e w' => ∃ a, e = .returned (.int .i64 a) ∧ IsA P a ∧ Below X.heap.size X w') := fun X hX => (twice_any P _ X (hPW X hX) h.gp (by have := h.p24; omega)).mono fun e w' ⟨s, C, h1, h2, h3⟩ => ⟨_, h1, ⟨s, C, h2, rfl⟩, h3⟩
  have K5 : Hid (∀ X, Below W.heap.size W X → Calls Tryz.prog 27 #[.slice qo Q.length qc] X fun e w' => ∃ a, e = .returned (.int .i64 a) ∧ IsA Q a ∧ Below X.heap.size X w') := fun X hX => (twice_any Q _ X (hQW X hX) h.gq (by have := h.q24; omega)).mono fun e w' ⟨s, C, h1, h2, h3⟩ => ⟨_, h1, ⟨s, C, h2, rfl⟩, h3⟩
  have HSB : Hid (∀ a, IsA (sumP P Q) a → 0 ≤ a ∧ a ≤ 1000000000000) := fun a ha => ha.bd hsl
  have HPB : Hid (∀ a, IsA P a → 0 ≤ a ∧ a ≤ 1000000000000) := fun a ha => ha.bd (by have := h.p24; omega)
  have HQB : Hid (∀ a, IsA Q a → 0 ≤ a ∧ a ≤ 1000000000000) := fun a ha => ha.bd (by have := h.q24; omega)
  clear hp hq h hbw hPW hQW hsl
  go_enter Tryz.func13, Tryz.ntmps13
  go_wp2_with fail
  rw [← hW]
  clear hW
  refine K1.out.mono ?_
  rintro e w1 ⟨rfl, hb1⟩
  have HK := K2.out w1 hb1
  obtain ⟨d0, d1, d2, d3⟩ := HC.out w1 hb1
  have HB1 : Hid (Below W.heap.size W w1) := hb1
  clear hb1 K1 K2 c0 c1 c2 c3
  go_wp2_with fail
  refine HK.mono ?_
  rintro e w2 ⟨xo, xc, rfl, hM2, hb2⟩
  have HB2 : Hid (Below W.heap.size W w2) := HB1.out.trans (hb2.mono HB1.out.size)
  have HK3 := K3.out w2 _ hM2
  clear hb2 HK d0 d1 d2 d3 hM2 K3
  go_wp2_with fail
  refine HK3.mono ?_
  rintro e w3 ⟨T, rfl, hT, hb3⟩
  have HT : Hid (IsA (sumP P Q) T) := hT
  have HB3 : Hid (Below W.heap.size W w3) := HB2.out.trans (hb3.mono HB2.out.size)
  have htb := HSB.out T hT
  clear hT hb3 HK3 HSB
  go_upto_region 7 with fail
  refine wp_region_held_drew (S := fun w' => w'.cell? ⟨w.heap.size, 1, none⟩ = some (.slice po P.length pc) ∧ w'.cell? ⟨w.heap.size + 1, 1, none⟩ = some (.slice qo Q.length qc)) (by kernel_rfl) (HCS.out _ (HB3.out.drew)) (fun hHeld => ?_)
  refine wpAnyH_tk (i := 0) (d := 23) (v := .int .i64 T) rfl rfl (by kernel_rfl) (by kernel_rfl) (by kernel_rfl) (fun _ _ _ h => h) (.inl ⟨by rfl, by (intro wq hSw; (try dsimp only at hSw); go_simp; (try (first | rfl | omega)))⟩) hHeld ?_
  simp only [Act.put, List.setIfInBounds_toArray, List.set_cons_zero, List.set_cons_succ]
  refine wpAnyH_tk (i := 1) (d := 24) (v := .pointer (some ⟨w.heap.size, 1, none⟩)) rfl rfl (by kernel_rfl) (by kernel_rfl) (by kernel_rfl) (fun _ _ _ h => h) (.inl ⟨by rfl, by (intro wq hSw; (try dsimp only at hSw); go_simp; (try (first | rfl | omega)))⟩) hHeld ?_
  simp only [Act.put, List.setIfInBounds_toArray, List.set_cons_zero, List.set_cons_succ]
  refine wpAnyH_tk (i := 2) (d := 25) (v := .slice po P.length pc) rfl rfl (by kernel_rfl) (by kernel_rfl) (by kernel_rfl) (fun _ _ _ h => h) (.inl ⟨by rfl, by (intro wq hSw; (try dsimp only at hSw); go_simp; (try (first | rfl | omega)))⟩) hHeld ?_
  simp only [Act.put, List.setIfInBounds_toArray, List.set_cons_zero, List.set_cons_succ]
  refine wpAnyH_tk (i := 5) (d := 28) (v := .pointer (some ⟨w.heap.size + 1, 1, none⟩)) rfl rfl (by kernel_rfl) (by kernel_rfl) (by kernel_rfl) (fun _ _ _ h => h) (.inl ⟨by rfl, by (intro wq hSw; (try dsimp only at hSw); go_simp; (try (first | rfl | omega)))⟩) hHeld ?_
  simp only [Act.put, List.setIfInBounds_toArray, List.set_cons_zero, List.set_cons_succ]
  refine wpAnyH_tk (i := 6) (d := 29) (v := .slice qo Q.length qc) rfl rfl (by kernel_rfl) (by kernel_rfl) (by kernel_rfl) (fun _ _ _ h => h) (.inl ⟨by rfl, by (intro wq hSw; (try dsimp only at hSw); go_simp; (try (first | rfl | omega)))⟩) hHeld ?_
  simp only [Act.put, List.setIfInBounds_toArray, List.set_cons_zero, List.set_cons_succ]
  refine wpAnyH_ready (rs := [3]) (by kernel_rfl) (by simp) ?_
  refine ready_tk (i := 3) rfl (by rfl) (fun K hK => ?_) AllReadyH.nil
  go_simp
  refine (K4.out _ HB3.out.drew).mono ?_
  rintro e w4 ⟨A, rfl, hA, hb4⟩
  have HB4 : Hid (Below W.heap.size W w4) := HB3.out.drew.trans (hb4.mono HB3.out.drew.size)
  have hab := HPB.out A hA
  have HA : Hid (IsA P A) := hA
  clear hb4 hA
  refine hK.out _ _ (HCS.out _ HB4.out) (fun hHeld => ?_)
  clear hK K
  have hw1 : IntKind.i64.wrap (T - A) = T - A := by rw [IntWalk.i64_left]; exact IntWalk.wrap64_in _ ⟨by omega, by omega⟩
  refine wpAnyH_tk (i := 4) (d := 27) (v := .int .i64 (T - A)) rfl rfl (by kernel_rfl) (by kernel_rfl) (by kernel_rfl) (fun _ _ _ h => h) (.inl ⟨by rfl, by (intro wq hSw; (try dsimp only at hSw); go_simp; (try (first | rfl | omega)))⟩) hHeld ?_
  simp only [Act.put, List.setIfInBounds_toArray, List.set_cons_zero, List.set_cons_succ]
  refine wpAnyH_ready (rs := [7]) (by kernel_rfl) (by simp) ?_
  refine ready_tk (i := 7) rfl (by rfl) (fun K hK => ?_) AllReadyH.nil
  go_simp
  refine (K5.out _ HB4.out).mono ?_
  rintro e w5 ⟨B, rfl, hB, hb5⟩
  have HB5 : Hid (Below W.heap.size W w5) := HB4.out.trans (hb5.mono HB4.out.size)
  have hbb := HQB.out B hB
  have HBI : Hid (IsA Q B) := hB
  clear hb5 hB
  refine hK.out _ _ (HCS.out _ HB5.out) (fun hHeld => ?_)
  clear hK K
  have hw2 : IntKind.i64.wrap (T - A - B) = T - A - B := by rw [IntWalk.i64_left]; exact IntWalk.wrap64_in _ ⟨by omega, by omega⟩
  have hw3 : IntKind.i64.wrap ((T - A - B).tdiv 2) = (T - A - B).tdiv 2 := tdiv2_bd (by omega) (by omega)
  refine wpAnyH_tk (i := 8) (d := 31) (v := .int .i64 (T - A - B)) rfl rfl (by kernel_rfl) (by kernel_rfl) (by kernel_rfl) (fun _ _ _ h => h) (.inl ⟨by rfl, by (intro wq hSw; (try dsimp only at hSw); go_simp; (try (first | rfl | omega)))⟩) hHeld ?_
  simp only [Act.put, List.setIfInBounds_toArray, List.set_cons_zero, List.set_cons_succ]
  refine wpAnyH_tk (i := 9) (d := 32) (v := .int .i64 ((T - A - B).tdiv 2)) rfl rfl (by kernel_rfl) (by kernel_rfl) (by kernel_rfl) (fun _ _ _ h => h) (.inl ⟨by rfl, by (intro wq hSw; (try dsimp only at hSw); go_simp; (try (first | rfl | omega)))⟩) hHeld ?_
  simp only [Act.put, List.setIfInBounds_toArray, List.set_cons_zero, List.set_cons_succ]
  refine wpAnyH_tk (i := 10) (d := 4) (v := .int .i64 ((T - A - B).tdiv 2)) rfl rfl (by kernel_rfl) (by kernel_rfl) (by kernel_rfl) (fun _ _ _ h => h) (.inl ⟨by rfl, by (intro wq hSw; (try dsimp only at hSw); go_simp; (try (first | rfl | omega)))⟩) hHeld ?_
  simp only [Act.put, List.setIfInBounds_toArray, List.set_cons_zero, List.set_cons_succ]
  refine wpAnyH_tk (i := 11) (d := 5) (v := .int .i64 0) rfl rfl (by kernel_rfl) (by kernel_rfl) (by kernel_rfl) (fun _ _ _ h => h) (.inl ⟨by rfl, by (intro wq hSw; (try dsimp only at hSw); go_simp; (try (first | rfl | omega)))⟩) hHeld ?_
  simp only [Act.put, List.setIfInBounds_toArray, List.set_cons_zero, List.set_cons_succ]
  refine wpAnyH_done (by kernel_rfl) ?_ _
  clear hHeld
  go_wp2
  go_ret2
  exact ⟨T, A, B, rfl, HT.out, HA.out, HBI.out, HW.out.trans (HB5.out.mono HW.out.size)⟩

end Go.Proofs.YtalboihbomaobaaGreat
