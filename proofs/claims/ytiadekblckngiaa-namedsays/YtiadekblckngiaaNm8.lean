/- named.trees; Simplex, Cube, Cross, Orders, Trees: what they give. -/
import Derived.Test.YtiadekblckngiaaNm2
import Derived.Test.YtiadekblckngiaaNm4
import Derived.Test.YtiadekblckngiaaNm6
import Derived.Test.YtiadekblckngiaaNm7
import Derived.Test.YtiadekblckngiaaNc1
namespace Go.Proofs.Ytiadekblckngiaa
open Go.RowKit
attribute [local go_sem ↓] Go.wp_at_zero Go.wp_at_succ

theorem trO_asc : ∀ d, d < 4 → (trO d).Pairwise fun a b => cmpL a b < 0 := by decide +kernel

theorem trO_of {d : Nat} {m : List (List Int)} (h1 : 1 ≤ d) (h3 : d ≤ 3) (h : Inor m (trL (d + 1))) : m = trO d := by
  refine sasc_ext _ _ h.asc (trO_asc d (by omega)) fun r => ?_
  obtain ⟨m1, m2⟩ := trO_mem d (by omega) h1
  rw [h.mem]
  exact ⟨m2 r, m1 r⟩

set_option maxRecDepth 100000 in
set_option maxHeartbeats 400000 in
theorem trees_any (d : Nat) (w : World) (h1 : 1 ≤ d) (h3 : d ≤ 3) :
    Calls Try.prog 16 #[.int .i64 (d : Int)] w fun e w' => ∃ u, e = .returned u ∧ Fr w.heap.size 35 3 w' u (trO d) ∧ Below w.heap.size w w' := by
  have e1 : (d : Int) + 1 = ((d + 1 : Nat) : Int) := by omega
  have HT : Hid (Calls Try.prog 28 #[.int .i64 ((d : Int) + 1)] w fun e w' => ∃ uo ul uc, e = .returned (.slice uo ul uc) ∧ Calls Try.prog 27 #[.slice uo ul uc] w' fun e w'' => ∃ xo xl xc, e = .returned (.slice xo xl xc) ∧ Fr w.heap.size 35 3 w'' (.slice xo xl xc) (trO d) ∧ Below w.heap.size w w'') := by
    rw [e1]
    refine (trP_any (d + 1) (by omega) w).mono ?_
    rintro e w' ⟨uo, ul, uc, rfl, rfl, hf, hb⟩
    refine ⟨uo, _, uc, rfl, ?_⟩
    refine (inOrder_any w.heap.size (trL (d + 1)) _ w' hf (by have := trL_len (d + 1) (by omega); omega)).mono ?_
    rintro e w'' ⟨u, m', rfl, hf2, hin, hb2⟩
    have hm := trO_of h1 h3 hin
    subst hm
    obtain ⟨xo, xc, hx, _, _⟩ := fr_open hf2
    subst hx
    exact ⟨xo, _, xc, rfl, hf2, hb.trans hb2⟩
  clear e1
  go_enter Try.func16, Try.ntmps16
  go_wp2_with fail
  refine HT.out.mono ?_
  rintro e w1 ⟨uo, ul, uc, rfl, hi⟩
  have HI : Hid (Calls Try.prog 27 #[.slice uo ul uc] w1 fun e w'' => ∃ xo xl xc, e = .returned (.slice xo xl xc) ∧ Fr w.heap.size 35 3 w'' (.slice xo xl xc) (trO d) ∧ Below w.heap.size w w'') := hi
  clear hi HT
  go_wp2_with fail
  refine HI.out.mono ?_
  rintro e w2 ⟨xo, xl, xc, rfl, hf, hb⟩
  have HF : Hid (Fr w.heap.size 35 3 w2 (.slice xo xl xc) (trO d) ∧ Below w.heap.size w w2) := ⟨hf, hb⟩
  clear hf hb HI
  go_wp2
  go_ret
  exact ⟨_, rfl, HF.out⟩

/-- A box of another type is written into. -/
theorem mat_box {w : World} {R : Nat} {v x y : Value} {cur : Array Value} {m : List (List Int)} (hR : w.heap[R]? = some (.cells cur 24 (0, 0))) (h : Mat 0 35 3 w v m) : Mat 0 35 3 ((w.setCell ⟨R, 0, none⟩ x).setCell ⟨R, 1, none⟩ y) v m := by
  have h2 : (w.setCell ⟨R, 0, none⟩ x).heap[R]? = some (.cells (cur.setIfInBounds 0 x) 24 (0, 0)) := by simp [World.setCell, Array.getElem?_modify, hR]
  have key : ∀ (e : TypeId) (he : e ≠ 24) (u : Value) (xs : List Value), Sl 0 e w u xs → Sl 0 e ((w.setCell ⟨R, 0, none⟩ x).setCell ⟨R, 1, none⟩ y) u xs := fun e he u xs hs => by
    refine Sl.setCell (Sl.setCell hs _ ⟨Nat.zero_le _, fun c2 e2 => ?_⟩) _ ⟨Nat.zero_le _, fun c2 e2 => ?_⟩
    · have e2' : w.heap[R]? = some (.cells c2 e (0, 0)) := e2
      rw [hR] at e2'
      simp only [Option.some.injEq, Obj.cells.injEq] at e2'
      exact he e2'.2.1.symm
    · have e2' : (w.setCell ⟨R, 0, none⟩ x).heap[R]? = some (.cells c2 e (0, 0)) := e2
      rw [h2] at e2'
      simp only [Option.some.injEq, Obj.cells.injEq] at e2'
      exact he e2'.2.1.symm
  obtain ⟨vs, k1, k2, k3⟩ := h
  exact ⟨vs, k1, key _ (by decide) _ _ k2, fun i hi => key _ (by decide) _ _ (k3 i hi)⟩

/-- Of each kind and dimension: Dim, the points, the error. -/
def nmO (k : Nat) (d : Int) : Prop := 1 ≤ d ∧ d ≤ 4 ∧ (k ≤ 2 ∨ d ≤ 3)
instance (k : Nat) (d : Int) : Decidable (nmO k d) := by unfold nmO; exact inferInstance
def nmD (k : Nat) (d : Int) : Int := if nmO k d then d else 0
def nmE (k : Nat) (d : Int) : Int := if nmO k d then 0 else 1
def nmP (k : Nat) (d : Int) : List (List Int) := if nmO k d then nmL k d.toNat else []

/-- What is given back. -/
def NmR (k : Nat) (d : Int) (w : World) (e : Ending) (w' : World) : Prop := ∃ uo ul uc, e = .returned (.tuple #[.agg #[.int .i64 (nmD k d), .slice uo ul uc], .int .i64 (nmE k d)]) ∧ Mat 0 35 3 w' (.slice uo ul uc) (nmP k d) ∧ Below w.heap.size w w'

theorem nmR_no {k : Nat} {d : Int} {w w' : World} {e : Ending} (h : ¬ nmO k d) (he : e = .returned (.tuple #[.agg #[.int .i64 0, .slice none 0 0], .int .i64 1])) (hb : Below w.heap.size w w') : NmR k d w e w' := by
  refine ⟨none, 0, 0, ?_, ?_, hb⟩
  · simp only [nmD, nmE, if_neg h]; exact he
  · simp only [nmP, if_neg h]
    exact ⟨[], rfl, Sl.nil _ _ _, fun i hi => absurd hi (by simp)⟩

theorem nmR_ok {k d : Nat} {w w' : World} {e : Ending} {u : Value} (h : nmO k (d : Int)) (he : e = .returned (.tuple #[.agg #[.int .i64 (d : Int), u], .int .i64 0])) (hm : Mat 0 35 3 w' u (nmL k d)) (hb : Below w.heap.size w w') : NmR k (d : Int) w e w' := by
  obtain ⟨ao, cap, rfl, _, _⟩ := mat_open hm
  refine ⟨ao, (nmL k d).length, cap, ?_, ?_, hb⟩
  · simp only [nmD, nmE, if_pos h]; exact he
  · simp only [nmP, if_pos h, Int.toNat_natCast]; exact hm

theorem cut_all : ∀ d, d < 5 → 1 ≤ d → cutL d (simT d d) = nmL 0 d ∧ cutL d (cubT d (2 ^ d)) = nmL 1 d ∧ cutL d (crsT d d) = nmL 2 d := by decide +kernel
theorem cut_few : ∀ d, d < 4 → 1 ≤ d → cutL d ((ords (d + 1) (d + 1) []).map upL) = nmL 3 d ∧ cutL d (trO d) = nmL 4 d := by decide +kernel
theorem rows_all : ∀ d, d < 5 → 1 ≤ d → (∀ r ∈ simT d d, d ≤ r.length) ∧ (∀ r ∈ cubT d (2 ^ d), d ≤ r.length) ∧ (∀ r ∈ crsT d d, d ≤ r.length) := by decide +kernel
theorem rows_few : ∀ d, d < 4 → 1 ≤ d → (∀ r ∈ (ords (d + 1) (d + 1) []).map upL, d ≤ r.length) ∧ ∀ r ∈ trO d, d ≤ r.length := by decide +kernel
theorem lens_all : ∀ d, d < 5 → 1 ≤ d → (simT d d).length ≤ 100 ∧ (cubT d (2 ^ d)).length ≤ 100 ∧ (crsT d d).length ≤ 100 := by decide +kernel
theorem lens_few : ∀ d, d < 4 → 1 ≤ d → ((ords (d + 1) (d + 1) []).map upL).length ≤ 100 ∧ (trO d).length ≤ 100 := by decide +kernel


set_option maxRecDepth 100000 in
set_option maxHeartbeats 400000 in
theorem kindSimplex_any (d : Int) (w : World) : Calls Try.prog 4 #[.int .i64 d] w fun e w' => NmR 0 d w e w' := by
  obtain ⟨W1, hW1⟩ : ∃ W1, W1 = w.alloc (.cells #[.int .i64 0, .slice none 0 0] 24) := ⟨_, rfl⟩
  have hb1 : Below w.heap.size w W1 := by rw [hW1]; exact (Below.refl _ _).alloc (Nat.le_refl _) _
  have h1r : W1.heap[w.heap.size]? = some (.cells #[.int .i64 0, .slice none 0 0] 24 (0, 0)) := by rw [hW1]; exact heap_alloc_new w _
  have HP : Hid (Calls Try.prog 11 #[.int .i64 d, .int .i64 4, .func (.func 12) #[] #[]] W1 fun e w' => NmR 0 d W1 e w') := by
    by_cases h : nmO 0 d
    · have hd := h
      unfold nmO at hd
      obtain ⟨d, rfl⟩ : ∃ n : Nat, d = (n : Int) := ⟨d.toNat, by omega⟩
      have h1 : 1 ≤ d := by omega
      have hF : KnF 12 d (simT d d) := ⟨fun W => corner_any d W (by omega), (lens_all d (by omega) h1).1, (rows_all d (by omega) h1).1, enters_of Try.func12 (by kernel_rfl) rfl⟩
      refine (polytope_ok _ d 4 _ W1 hF h1 (by omega) (by omega)).mono ?_
      rintro e w' ⟨u, he, hm, hb⟩
      rw [(cut_all d (by omega) h1).1] at hm
      exact nmR_ok h he hm hb
    · refine (polytope_no _ 4 d W1 (by unfold nmO at h; omega)).mono ?_
      rintro e w' ⟨he, hb⟩
      exact nmR_no h he hb
  have HW : Hid (Below w.heap.size w W1 ∧ W1.heap[w.heap.size]? = some (.cells #[.int .i64 0, .slice none 0 0] 24 (0, 0))) := ⟨hb1, h1r⟩
  have hs1 : W1.heap.size = w.heap.size + 1 := by rw [hW1]; simp
  have HS1 : Hid (W1.heap.size = w.heap.size + 1) := hs1
  obtain ⟨R, hR⟩ : ∃ R, R = w.heap.size := ⟨_, rfl⟩
  clear hb1 h1r hs1
  go_enter Try.func4, Try.ntmps4
  go_wp2_with fail
  rw [← hW1, ← hR]
  refine HP.out.mono ?_
  rintro e w2 ⟨uo, ul, uc, rfl, hm, hb2⟩
  have k0 : w2.heap[R]? = some (.cells #[.int .i64 0, .slice none 0 0] 24 (0, 0)) := by rw [hR]; exact (hb2.block _ (by rw [HS1.out]; omega)).trans HW.out.2
  have c0 : w2.cell? ⟨R, 0, none⟩ = some (.int .i64 0) := by simp [World.cell?, k0]
  have c1 : w2.cell? ⟨R, 1, none⟩ = some (.slice none 0 0) := by simp [World.cell?, k0]
  have f0 : w2.frozen? ⟨R, 0, none⟩ = false := by simp [World.frozen?, k0]
  have f1 : w2.frozen? ⟨R, 1, none⟩ = false := by simp [World.frozen?, k0]
  have HM : Hid (Mat 0 35 3 ((w2.setCell ⟨R, 0, none⟩ (.int .i64 (nmD 0 d))).setCell ⟨R, 1, none⟩ (.slice uo ul uc)) (.slice uo ul uc) (nmP 0 d)) := mat_box k0 hm
  have HB : Hid (Below w.heap.size w ((w2.setCell ⟨R, 0, none⟩ (.int .i64 (nmD 0 d))).setCell ⟨R, 1, none⟩ (.slice uo ul uc))) := by
    have hb := HW.out.1.trans (hb2.mono (by rw [HS1.out]; omega))
    exact below_setN (below_setN hb (by rw [hR]; exact Nat.le_refl _)) (by rw [hR]; exact Nat.le_refl _)
  clear hW1 hR hm hb2 HP k0 HW HS1
  generalize hD : nmD 0 d = D at *
  generalize hE : nmE 0 d = E at *
  have HD : Hid (nmD 0 d = D ∧ nmE 0 d = E) := ⟨hD, hE⟩
  clear hD hE
  go_wp2
  refine bodyPost_ret (v := .tuple #[.agg #[.int .i64 D, .slice uo ul uc], .int .i64 E]) (by simp [results, Try.results4, go_sem, *]) rfl ⟨uo, ul, uc, ?_, HM.out, HB.out⟩
  rw [HD.out.1, HD.out.2]

set_option maxRecDepth 100000 in
set_option maxHeartbeats 400000 in
theorem kindCube_any (d : Int) (w : World) : Calls Try.prog 5 #[.int .i64 d] w fun e w' => NmR 1 d w e w' := by
  obtain ⟨W1, hW1⟩ : ∃ W1, W1 = w.alloc (.cells #[.int .i64 0, .slice none 0 0] 24) := ⟨_, rfl⟩
  have hb1 : Below w.heap.size w W1 := by rw [hW1]; exact (Below.refl _ _).alloc (Nat.le_refl _) _
  have h1r : W1.heap[w.heap.size]? = some (.cells #[.int .i64 0, .slice none 0 0] 24 (0, 0)) := by rw [hW1]; exact heap_alloc_new w _
  have HP : Hid (Calls Try.prog 11 #[.int .i64 d, .int .i64 4, .func (.func 13) #[] #[]] W1 fun e w' => NmR 1 d W1 e w') := by
    by_cases h : nmO 1 d
    · have hd := h
      unfold nmO at hd
      obtain ⟨d, rfl⟩ : ∃ n : Nat, d = (n : Int) := ⟨d.toNat, by omega⟩
      have h1 : 1 ≤ d := by omega
      have hF : KnF 13 d (cubT d (2 ^ d)) := ⟨fun W => noughts_any d W h1 (by omega), (lens_all d (by omega) h1).2.1, (rows_all d (by omega) h1).2.1, enters_of Try.func13 (by kernel_rfl) rfl⟩
      refine (polytope_ok _ d 4 _ W1 hF h1 (by omega) (by omega)).mono ?_
      rintro e w' ⟨u, he, hm, hb⟩
      rw [(cut_all d (by omega) h1).2.1] at hm
      exact nmR_ok h he hm hb
    · refine (polytope_no _ 4 d W1 (by unfold nmO at h; omega)).mono ?_
      rintro e w' ⟨he, hb⟩
      exact nmR_no h he hb
  have HW : Hid (Below w.heap.size w W1 ∧ W1.heap[w.heap.size]? = some (.cells #[.int .i64 0, .slice none 0 0] 24 (0, 0))) := ⟨hb1, h1r⟩
  have hs1 : W1.heap.size = w.heap.size + 1 := by rw [hW1]; simp
  have HS1 : Hid (W1.heap.size = w.heap.size + 1) := hs1
  obtain ⟨R, hR⟩ : ∃ R, R = w.heap.size := ⟨_, rfl⟩
  clear hb1 h1r hs1
  go_enter Try.func5, Try.ntmps5
  go_wp2_with fail
  rw [← hW1, ← hR]
  refine HP.out.mono ?_
  rintro e w2 ⟨uo, ul, uc, rfl, hm, hb2⟩
  have k0 : w2.heap[R]? = some (.cells #[.int .i64 0, .slice none 0 0] 24 (0, 0)) := by rw [hR]; exact (hb2.block _ (by rw [HS1.out]; omega)).trans HW.out.2
  have c0 : w2.cell? ⟨R, 0, none⟩ = some (.int .i64 0) := by simp [World.cell?, k0]
  have c1 : w2.cell? ⟨R, 1, none⟩ = some (.slice none 0 0) := by simp [World.cell?, k0]
  have f0 : w2.frozen? ⟨R, 0, none⟩ = false := by simp [World.frozen?, k0]
  have f1 : w2.frozen? ⟨R, 1, none⟩ = false := by simp [World.frozen?, k0]
  have HM : Hid (Mat 0 35 3 ((w2.setCell ⟨R, 0, none⟩ (.int .i64 (nmD 1 d))).setCell ⟨R, 1, none⟩ (.slice uo ul uc)) (.slice uo ul uc) (nmP 1 d)) := mat_box k0 hm
  have HB : Hid (Below w.heap.size w ((w2.setCell ⟨R, 0, none⟩ (.int .i64 (nmD 1 d))).setCell ⟨R, 1, none⟩ (.slice uo ul uc))) := by
    have hb := HW.out.1.trans (hb2.mono (by rw [HS1.out]; omega))
    exact below_setN (below_setN hb (by rw [hR]; exact Nat.le_refl _)) (by rw [hR]; exact Nat.le_refl _)
  clear hW1 hR hm hb2 HP k0 HW HS1
  generalize hD : nmD 1 d = D at *
  generalize hE : nmE 1 d = E at *
  have HD : Hid (nmD 1 d = D ∧ nmE 1 d = E) := ⟨hD, hE⟩
  clear hD hE
  go_wp2
  refine bodyPost_ret (v := .tuple #[.agg #[.int .i64 D, .slice uo ul uc], .int .i64 E]) (by simp [results, Try.results5, go_sem, *]) rfl ⟨uo, ul, uc, ?_, HM.out, HB.out⟩
  rw [HD.out.1, HD.out.2]

set_option maxRecDepth 100000 in
set_option maxHeartbeats 400000 in
theorem kindCross_any (d : Int) (w : World) : Calls Try.prog 6 #[.int .i64 d] w fun e w' => NmR 2 d w e w' := by
  obtain ⟨W1, hW1⟩ : ∃ W1, W1 = w.alloc (.cells #[.int .i64 0, .slice none 0 0] 24) := ⟨_, rfl⟩
  have hb1 : Below w.heap.size w W1 := by rw [hW1]; exact (Below.refl _ _).alloc (Nat.le_refl _) _
  have h1r : W1.heap[w.heap.size]? = some (.cells #[.int .i64 0, .slice none 0 0] 24 (0, 0)) := by rw [hW1]; exact heap_alloc_new w _
  have HP : Hid (Calls Try.prog 11 #[.int .i64 d, .int .i64 4, .func (.func 14) #[] #[]] W1 fun e w' => NmR 2 d W1 e w') := by
    by_cases h : nmO 2 d
    · have hd := h
      unfold nmO at hd
      obtain ⟨d, rfl⟩ : ∃ n : Nat, d = (n : Int) := ⟨d.toNat, by omega⟩
      have h1 : 1 ≤ d := by omega
      have hF : KnF 14 d (crsT d d) := ⟨fun W => eitherWay_any d W (by omega), (lens_all d (by omega) h1).2.2, (rows_all d (by omega) h1).2.2, enters_of Try.func14 (by kernel_rfl) rfl⟩
      refine (polytope_ok _ d 4 _ W1 hF h1 (by omega) (by omega)).mono ?_
      rintro e w' ⟨u, he, hm, hb⟩
      rw [(cut_all d (by omega) h1).2.2] at hm
      exact nmR_ok h he hm hb
    · refine (polytope_no _ 4 d W1 (by unfold nmO at h; omega)).mono ?_
      rintro e w' ⟨he, hb⟩
      exact nmR_no h he hb
  have HW : Hid (Below w.heap.size w W1 ∧ W1.heap[w.heap.size]? = some (.cells #[.int .i64 0, .slice none 0 0] 24 (0, 0))) := ⟨hb1, h1r⟩
  have hs1 : W1.heap.size = w.heap.size + 1 := by rw [hW1]; simp
  have HS1 : Hid (W1.heap.size = w.heap.size + 1) := hs1
  obtain ⟨R, hR⟩ : ∃ R, R = w.heap.size := ⟨_, rfl⟩
  clear hb1 h1r hs1
  go_enter Try.func6, Try.ntmps6
  go_wp2_with fail
  rw [← hW1, ← hR]
  refine HP.out.mono ?_
  rintro e w2 ⟨uo, ul, uc, rfl, hm, hb2⟩
  have k0 : w2.heap[R]? = some (.cells #[.int .i64 0, .slice none 0 0] 24 (0, 0)) := by rw [hR]; exact (hb2.block _ (by rw [HS1.out]; omega)).trans HW.out.2
  have c0 : w2.cell? ⟨R, 0, none⟩ = some (.int .i64 0) := by simp [World.cell?, k0]
  have c1 : w2.cell? ⟨R, 1, none⟩ = some (.slice none 0 0) := by simp [World.cell?, k0]
  have f0 : w2.frozen? ⟨R, 0, none⟩ = false := by simp [World.frozen?, k0]
  have f1 : w2.frozen? ⟨R, 1, none⟩ = false := by simp [World.frozen?, k0]
  have HM : Hid (Mat 0 35 3 ((w2.setCell ⟨R, 0, none⟩ (.int .i64 (nmD 2 d))).setCell ⟨R, 1, none⟩ (.slice uo ul uc)) (.slice uo ul uc) (nmP 2 d)) := mat_box k0 hm
  have HB : Hid (Below w.heap.size w ((w2.setCell ⟨R, 0, none⟩ (.int .i64 (nmD 2 d))).setCell ⟨R, 1, none⟩ (.slice uo ul uc))) := by
    have hb := HW.out.1.trans (hb2.mono (by rw [HS1.out]; omega))
    exact below_setN (below_setN hb (by rw [hR]; exact Nat.le_refl _)) (by rw [hR]; exact Nat.le_refl _)
  clear hW1 hR hm hb2 HP k0 HW HS1
  generalize hD : nmD 2 d = D at *
  generalize hE : nmE 2 d = E at *
  have HD : Hid (nmD 2 d = D ∧ nmE 2 d = E) := ⟨hD, hE⟩
  clear hD hE
  go_wp2
  refine bodyPost_ret (v := .tuple #[.agg #[.int .i64 D, .slice uo ul uc], .int .i64 E]) (by simp [results, Try.results6, go_sem, *]) rfl ⟨uo, ul, uc, ?_, HM.out, HB.out⟩
  rw [HD.out.1, HD.out.2]

set_option maxRecDepth 100000 in
set_option maxHeartbeats 400000 in
theorem kindOrders_any (d : Int) (w : World) : Calls Try.prog 7 #[.int .i64 d] w fun e w' => NmR 3 d w e w' := by
  obtain ⟨W1, hW1⟩ : ∃ W1, W1 = w.alloc (.cells #[.int .i64 0, .slice none 0 0] 24) := ⟨_, rfl⟩
  have hb1 : Below w.heap.size w W1 := by rw [hW1]; exact (Below.refl _ _).alloc (Nat.le_refl _) _
  have h1r : W1.heap[w.heap.size]? = some (.cells #[.int .i64 0, .slice none 0 0] 24 (0, 0)) := by rw [hW1]; exact heap_alloc_new w _
  have HP : Hid (Calls Try.prog 11 #[.int .i64 d, .int .i64 3, .func (.func 15) #[] #[]] W1 fun e w' => NmR 3 d W1 e w') := by
    by_cases h : nmO 3 d
    · have hd := h
      unfold nmO at hd
      obtain ⟨d, rfl⟩ : ∃ n : Nat, d = (n : Int) := ⟨d.toNat, by omega⟩
      have h1 : 1 ≤ d := by omega
      have hF : KnF 15 d ((ords (d + 1) (d + 1) []).map upL) := ⟨fun W => ordersN_any d W h1 (by omega), (lens_few d (by omega) h1).1, (rows_few d (by omega) h1).1, enters_of Try.func15 (by kernel_rfl) rfl⟩
      refine (polytope_ok _ d 3 _ W1 hF h1 (by omega) (by omega)).mono ?_
      rintro e w' ⟨u, he, hm, hb⟩
      rw [(cut_few d (by omega) h1).1] at hm
      exact nmR_ok h he hm hb
    · refine (polytope_no _ 3 d W1 (by unfold nmO at h; omega)).mono ?_
      rintro e w' ⟨he, hb⟩
      exact nmR_no h he hb
  have HW : Hid (Below w.heap.size w W1 ∧ W1.heap[w.heap.size]? = some (.cells #[.int .i64 0, .slice none 0 0] 24 (0, 0))) := ⟨hb1, h1r⟩
  have hs1 : W1.heap.size = w.heap.size + 1 := by rw [hW1]; simp
  have HS1 : Hid (W1.heap.size = w.heap.size + 1) := hs1
  obtain ⟨R, hR⟩ : ∃ R, R = w.heap.size := ⟨_, rfl⟩
  clear hb1 h1r hs1
  go_enter Try.func7, Try.ntmps7
  go_wp2_with fail
  rw [← hW1, ← hR]
  refine HP.out.mono ?_
  rintro e w2 ⟨uo, ul, uc, rfl, hm, hb2⟩
  have k0 : w2.heap[R]? = some (.cells #[.int .i64 0, .slice none 0 0] 24 (0, 0)) := by rw [hR]; exact (hb2.block _ (by rw [HS1.out]; omega)).trans HW.out.2
  have c0 : w2.cell? ⟨R, 0, none⟩ = some (.int .i64 0) := by simp [World.cell?, k0]
  have c1 : w2.cell? ⟨R, 1, none⟩ = some (.slice none 0 0) := by simp [World.cell?, k0]
  have f0 : w2.frozen? ⟨R, 0, none⟩ = false := by simp [World.frozen?, k0]
  have f1 : w2.frozen? ⟨R, 1, none⟩ = false := by simp [World.frozen?, k0]
  have HM : Hid (Mat 0 35 3 ((w2.setCell ⟨R, 0, none⟩ (.int .i64 (nmD 3 d))).setCell ⟨R, 1, none⟩ (.slice uo ul uc)) (.slice uo ul uc) (nmP 3 d)) := mat_box k0 hm
  have HB : Hid (Below w.heap.size w ((w2.setCell ⟨R, 0, none⟩ (.int .i64 (nmD 3 d))).setCell ⟨R, 1, none⟩ (.slice uo ul uc))) := by
    have hb := HW.out.1.trans (hb2.mono (by rw [HS1.out]; omega))
    exact below_setN (below_setN hb (by rw [hR]; exact Nat.le_refl _)) (by rw [hR]; exact Nat.le_refl _)
  clear hW1 hR hm hb2 HP k0 HW HS1
  generalize hD : nmD 3 d = D at *
  generalize hE : nmE 3 d = E at *
  have HD : Hid (nmD 3 d = D ∧ nmE 3 d = E) := ⟨hD, hE⟩
  clear hD hE
  go_wp2
  refine bodyPost_ret (v := .tuple #[.agg #[.int .i64 D, .slice uo ul uc], .int .i64 E]) (by simp [results, Try.results7, go_sem, *]) rfl ⟨uo, ul, uc, ?_, HM.out, HB.out⟩
  rw [HD.out.1, HD.out.2]

set_option maxRecDepth 100000 in
set_option maxHeartbeats 400000 in
theorem kindTrees_any (d : Int) (w : World) : Calls Try.prog 8 #[.int .i64 d] w fun e w' => NmR 4 d w e w' := by
  obtain ⟨W1, hW1⟩ : ∃ W1, W1 = w.alloc (.cells #[.int .i64 0, .slice none 0 0] 24) := ⟨_, rfl⟩
  have hb1 : Below w.heap.size w W1 := by rw [hW1]; exact (Below.refl _ _).alloc (Nat.le_refl _) _
  have h1r : W1.heap[w.heap.size]? = some (.cells #[.int .i64 0, .slice none 0 0] 24 (0, 0)) := by rw [hW1]; exact heap_alloc_new w _
  have HP : Hid (Calls Try.prog 11 #[.int .i64 d, .int .i64 3, .func (.func 16) #[] #[]] W1 fun e w' => NmR 4 d W1 e w') := by
    by_cases h : nmO 4 d
    · have hd := h
      unfold nmO at hd
      obtain ⟨d, rfl⟩ : ∃ n : Nat, d = (n : Int) := ⟨d.toNat, by omega⟩
      have h1 : 1 ≤ d := by omega
      have hF : KnF 16 d (trO d) := ⟨fun W => trees_any d W h1 (by omega), (lens_few d (by omega) h1).2, (rows_few d (by omega) h1).2, enters_of Try.func16 (by kernel_rfl) rfl⟩
      refine (polytope_ok _ d 3 _ W1 hF h1 (by omega) (by omega)).mono ?_
      rintro e w' ⟨u, he, hm, hb⟩
      rw [(cut_few d (by omega) h1).2] at hm
      exact nmR_ok h he hm hb
    · refine (polytope_no _ 3 d W1 (by unfold nmO at h; omega)).mono ?_
      rintro e w' ⟨he, hb⟩
      exact nmR_no h he hb
  have HW : Hid (Below w.heap.size w W1 ∧ W1.heap[w.heap.size]? = some (.cells #[.int .i64 0, .slice none 0 0] 24 (0, 0))) := ⟨hb1, h1r⟩
  have hs1 : W1.heap.size = w.heap.size + 1 := by rw [hW1]; simp
  have HS1 : Hid (W1.heap.size = w.heap.size + 1) := hs1
  obtain ⟨R, hR⟩ : ∃ R, R = w.heap.size := ⟨_, rfl⟩
  clear hb1 h1r hs1
  go_enter Try.func8, Try.ntmps8
  go_wp2_with fail
  rw [← hW1, ← hR]
  refine HP.out.mono ?_
  rintro e w2 ⟨uo, ul, uc, rfl, hm, hb2⟩
  have k0 : w2.heap[R]? = some (.cells #[.int .i64 0, .slice none 0 0] 24 (0, 0)) := by rw [hR]; exact (hb2.block _ (by rw [HS1.out]; omega)).trans HW.out.2
  have c0 : w2.cell? ⟨R, 0, none⟩ = some (.int .i64 0) := by simp [World.cell?, k0]
  have c1 : w2.cell? ⟨R, 1, none⟩ = some (.slice none 0 0) := by simp [World.cell?, k0]
  have f0 : w2.frozen? ⟨R, 0, none⟩ = false := by simp [World.frozen?, k0]
  have f1 : w2.frozen? ⟨R, 1, none⟩ = false := by simp [World.frozen?, k0]
  have HM : Hid (Mat 0 35 3 ((w2.setCell ⟨R, 0, none⟩ (.int .i64 (nmD 4 d))).setCell ⟨R, 1, none⟩ (.slice uo ul uc)) (.slice uo ul uc) (nmP 4 d)) := mat_box k0 hm
  have HB : Hid (Below w.heap.size w ((w2.setCell ⟨R, 0, none⟩ (.int .i64 (nmD 4 d))).setCell ⟨R, 1, none⟩ (.slice uo ul uc))) := by
    have hb := HW.out.1.trans (hb2.mono (by rw [HS1.out]; omega))
    exact below_setN (below_setN hb (by rw [hR]; exact Nat.le_refl _)) (by rw [hR]; exact Nat.le_refl _)
  clear hW1 hR hm hb2 HP k0 HW HS1
  generalize hD : nmD 4 d = D at *
  generalize hE : nmE 4 d = E at *
  have HD : Hid (nmD 4 d = D ∧ nmE 4 d = E) := ⟨hD, hE⟩
  clear hD hE
  go_wp2
  refine bodyPost_ret (v := .tuple #[.agg #[.int .i64 D, .slice uo ul uc], .int .i64 E]) (by simp [results, Try.results8, go_sem, *]) rfl ⟨uo, ul, uc, ?_, HM.out, HB.out⟩
  rw [HD.out.1, HD.out.2]

end Go.Proofs.Ytiadekblckngiaa
