import Derived.Test.YtkgljfnbaoncbaaGr9a
import Derived.Test.YtkgljfnbaoncbaaGr9b
import Derived.Test.YtkgljfnbaoncbaaGr9c
import Derived.Test.YtkgljfnbaoncbaaGr9d
import Derived.Test.YtkgljfnbaoncbaaGr9e
import Derived.Test.YtkgljfnbaoncbaaGr9f
import Derived.Test.YtkgljfnbaoncbaaRq5
/- Whatever square has an end: what the law of groups wants of it. Made by mkgr9.py. -/
namespace Go.Proofs.Ytkgljfnbaoncbaa

set_option maxRecDepth 100000 in
theorem gk4 {i j k : Nat} (hi : i < 6) (hj : j < 6) (hk : k < 6) (h3 : t3 i j k = true) : Gk4 i j k := by
  have h : ∀ i ∈ List.range 6, ∀ j ∈ List.range 6, ∀ k ∈ List.range 6, t3 i j k = true → (i, j, k) ∈ ([(0, 0, 0), (1, 0, 3), (3, 1, 0), (5, 0, 0)] : List (Nat × Nat × Nat)) ∨ (i, j, k) ∈ ([(0, 0, 1), (0, 1, 1), (0, 2, 1), (0, 4, 0), (2, 0, 1)] : List (Nat × Nat × Nat)) ∨ (i, j, k) ∈ ([(0, 1, 0), (0, 3, 1), (0, 5, 0), (1, 0, 1), (2, 1, 0)] : List (Nat × Nat × Nat)) ∨ (i, j, k) ∈ ([(1, 0, 0), (1, 0, 2), (1, 1, 0), (3, 0, 1), (4, 0, 0)] : List (Nat × Nat × Nat)) ∨ (i, j, k) ∈ ([(0, 0, 2), (0, 0, 4), (0, 1, 2), (0, 2, 0), (1, 2, 0), (2, 0, 0)] : List (Nat × Nat × Nat)) ∨ (i, j, k) ∈ ([(0, 0, 3), (0, 0, 5), (0, 1, 3), (0, 3, 0), (1, 3, 0), (3, 0, 0)] : List (Nat × Nat × Nat)) := by decide +kernel
  rcases h i (List.mem_range.2 hi) j (List.mem_range.2 hj) k (List.mem_range.2 hk) h3 with h | h | h | h | h | h
  · exact gk4a _ h
  · exact gk4b _ h
  · exact gk4c _ h
  · exact gk4d _ h
  · exact gk4e _ h
  · exact gk4f _ h

theorem shp_gg {n : Nat} {c : List (List Int)} (h : Shp n c) (hl : (abL c).length ≤ 24) : ggB c n = true := by
  have h1 := h.n1
  have h4 := h.sq.n4
  rcases (show n = 1 ∨ n = 2 ∨ n = 3 ∨ n = 4 by omega) with e | e | e | e
  · subst e
    have e : c = [[cE c 0 0]] := by
      conv => lhs; rw [sqc_eta h.sq]
      rfl
    rw [h.dia 0 (by omega)] at e
    rw [e]
    exact gk1
  · subst e
    obtain ⟨i, hi, e⟩ := cls2 h hl
    rw [c2 h, e]
    exact gk2 i (List.mem_range.2 hi)
  · subst e
    obtain ⟨i, j, k, ⟨hi, hj, hk⟩, ht, e1, e2, e3⟩ := cls3 h hl
    rw [c3 h, e1, e2, e3]
    exact gk3 i (List.mem_range.2 hi) j (List.mem_range.2 hj) k (List.mem_range.2 hk) ht
  · subst e
    obtain ⟨i, j, k, s, t, u, ⟨hi, hj, hk, hs, ht, hu⟩, ⟨t1, t2, t4, t5⟩, e⟩ := cls4 h hl
    rw [e] at hl ⊢
    exact gk4 hi hj hk t1 s (List.mem_range.2 hs) t (List.mem_range.2 ht) t2 u (List.mem_range.2 hu) t4 t5 hl

end Go.Proofs.Ytkgljfnbaoncbaa

/- root.Check, Positive, Name, Highest, Lengths of a square that may not be. -/
namespace Go.Proofs.Ytkgljfnbaoncbaa
open Go.RowKit
attribute [local go_sem ↓] Go.wp_at_zero Go.wp_at_succ

set_option maxRecDepth 100000 in
theorem checkX_any (c : List (List Int)) (cv : Value) (w : World) (hne : ¬ ckE c = 0) (hm : Mat w.heap.size 26 3 w cv c) :
    Calls Try.prog 27 #[cv] w fun e w' => e = .returned (.int .i64 (ckE c)) ∧ Below w.heap.size w w' := by
  have HC := checkedE_any c cv w hne hm
  obtain ⟨ao, cap, hvv, _, _⟩ := mat_open hm
  subst hvv
  generalize ckE c = E at *
  have hE : (E == 0) = false := by simpa using hne
  have hE2 : (E != 0) = true := by rw [bne, hE]; rfl
  clear hm
  go_enter Try.func27, Try.ntmps27
  go_wp2_with fail
  refine HC.mono ?_
  rintro e w1 ⟨rfl, hb1⟩
  have HB1 : Hid (Below w.heap.size w w1) := hb1
  clear hb1 HC
  go_wp2
  go_ret
  exact ⟨rfl, HB1.out⟩

set_option maxRecDepth 100000 in
theorem positiveX_any (c : List (List Int)) (cv : Value) (w : World) (hne : ¬ ckE c = 0) (hm : Mat w.heap.size 26 3 w cv c) :
    Calls Try.prog 24 #[cv] w fun e w' => e = .returned (.tuple #[.slice none 0 0, .int .i64 (ckE c)]) ∧ Below w.heap.size w w' := by
  have HC := checkedE_any c cv w hne hm
  obtain ⟨ao, cap, hvv, _, _⟩ := mat_open hm
  subst hvv
  generalize ckE c = E at *
  have hE : (E == 0) = false := by simpa using hne
  have hE2 : (E != 0) = true := by rw [bne, hE]; rfl
  clear hm
  go_enter Try.func24, Try.ntmps24
  go_wp2_with fail
  refine HC.mono ?_
  rintro e w1 ⟨rfl, hb1⟩
  have HB1 : Hid (Below w.heap.size w w1) := hb1
  clear hb1 HC
  go_wp2
  go_ret2
  exact ⟨rfl, HB1.out⟩

end Go.Proofs.Ytkgljfnbaoncbaa
