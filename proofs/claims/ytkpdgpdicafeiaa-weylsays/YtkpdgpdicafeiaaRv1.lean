/- A square that Check takes: its roots by rows and by columns. -/
import Derived.Test.YtkpdgpdicafeiaaRv0a
import Derived.Test.YtkpdgpdicafeiaaRv0b
import Derived.Test.YtkpdgpdicafeiaaRv0c
import Derived.Test.YtkpdgpdicafeiaaRv0d
import Derived.Test.YtkpdgpdicafeiaaRv0e
import Derived.Test.YtkpdgpdicafeiaaRqB
import Derived.Test.YtkpdgpdicafeiaaDoA
namespace Go.Proofs.Ytkpdgpdicafeiaa

set_option maxRecDepth 100000 in
theorem wk4 {i j : Nat} (hi : i < 6) (hj : j < 6) : Wk4 i j := by
  have h : ∀ i ∈ List.range 6, ∀ j ∈ List.range 6, (i, j) ∈ ([(0, 0)] : List (Nat × Nat)) ∨ (i, j) ∈ ([(0, 1), (0, 2)] : List (Nat × Nat)) ∨ (i, j) ∈ ([(0, 3), (0, 4), (0, 5), (1, 0)] : List (Nat × Nat)) ∨ (i, j) ∈ ([(1, 1), (1, 2), (1, 3), (1, 4), (1, 5), (2, 0), (2, 1), (2, 2), (2, 3), (2, 4), (2, 5)] : List (Nat × Nat)) ∨ (i, j) ∈ ([(3, 0), (3, 1), (3, 2), (3, 3), (3, 4), (3, 5), (4, 0), (4, 1), (4, 2), (4, 3), (4, 4), (4, 5), (5, 0), (5, 1), (5, 2), (5, 3), (5, 4), (5, 5)] : List (Nat × Nat)) := by decide
  rcases h i (List.mem_range.2 hi) j (List.mem_range.2 hj) with h | h | h | h | h
  · exact wk4a _ h
  · exact wk4b _ h
  · exact wk4c _ h
  · exact wk4d _ h
  · exact wk4e _ h

/-- Whatever square has an end: the kernel has looked at its roots. -/
theorem shp_wg {n : Nat} {c : List (List Int)} (h : Shp n c) (hl : (abL c).length ≤ 24) : wgP c n = true := by
  have h1 := h.n1
  have h4 := h.sq.n4
  rcases (show n = 1 ∨ n = 2 ∨ n = 3 ∨ n = 4 by omega) with e | e | e | e
  · subst e
    have e : c = [[cE c 0 0]] := by
      conv => lhs; rw [sqc_eta h.sq]
      rfl
    rw [h.dia 0 (by omega)] at e
    rw [e]
    exact wk1
  · subst e
    obtain ⟨i, hi, e⟩ := cls2 h hl
    rw [c2 h, e]
    exact wk2 i (List.mem_range.2 hi)
  · subst e
    obtain ⟨i, j, k, ⟨hi, hj, hk⟩, ht, e1, e2, e3⟩ := cls3 h hl
    rw [c3 h, e1, e2, e3]
    exact wk3 i (List.mem_range.2 hi) j (List.mem_range.2 hj) k (List.mem_range.2 hk) ht
  · subst e
    obtain ⟨i, j, k, s, t, u, ⟨hi, hj, hk, hs, ht, hu⟩, ⟨t1, t2, t4, t5⟩, e⟩ := cls4 h hl
    rw [e] at hl ⊢
    exact wk4 hi hj k (List.mem_range.2 hk) t1 s (List.mem_range.2 hs) t (List.mem_range.2 ht) t2 u (List.mem_range.2 hu) t4 t5 hl

theorem trM_ent {n : Nat} {c : List (List Int)} (h : Sqc n c) (i j : Nat) : cE (trM c) i j = if i < n ∧ j < n then cE c j i else 0 := by
  have hcl := h.len
  by_cases hi : i < n
  · by_cases hj : j < n
    · rw [if_pos ⟨hi, hj⟩]; exact trM_at (by omega) (by omega)
    · rw [if_neg (by omega)]
      unfold cE trM
      rw [hcl]
      simp [hi, hj]
  · rw [if_neg (by omega)]
    unfold cE trM
    rw [hcl]
    simp [hi]

theorem trM_sqc {n : Nat} {c : List (List Int)} (h : Sqc n c) : Sqc n (trM c) := by
  have hcl := h.len
  refine ⟨by rw [trM_len, hcl], h.n4, fun r hr => ?_, fun i j => ?_⟩
  · unfold trM at hr
    obtain ⟨i, _, rfl⟩ := List.mem_map.1 hr
    simp [hcl]
  · rw [trM_ent h]
    split
    · exact h.ent j i
    · omega

theorem trM_shp {n : Nat} {c : List (List Int)} (h : Shp n c) : Shp n (trM c) := by
  refine ⟨trM_sqc h.sq, h.n1, fun i hi => ?_, fun i j hi hj hij => ?_⟩
  · rw [trM_ent h.sq, if_pos ⟨hi, hi⟩]; exact h.dia i hi
  · rw [trM_ent h.sq, trM_ent h.sq, if_pos ⟨hi, hj⟩, if_pos ⟨hj, hi⟩]
    exact ⟨(h.off j i hj hi (by omega)).1, (h.off i j hi hj hij).2.symm⟩

theorem trM_trM {n : Nat} {c : List (List Int)} (h : Sqc n c) : trM (trM c) = c := by
  rw [sqc_eta (trM_sqc (trM_sqc h))]
  conv => rhs; rw [sqc_eta h]
  refine List.map_congr_left fun i hi => List.map_congr_left fun j hj => ?_
  rw [trM_ent (trM_sqc h), trM_ent h, if_pos ⟨List.mem_range.1 hi, List.mem_range.1 hj⟩, if_pos ⟨List.mem_range.1 hj, List.mem_range.1 hi⟩]

theorem shp_gda {n : Nat} {c : List (List Int)} (hs : Shp n c) (hl : (abL c).length ≤ 24) : Gda n c (posR c) ∧ ∃ tl ∈ tcs n, ∀ r, r < n → ∀ k, k < n → tl.getD r 1 * cE c k r = tl.getD k 1 * cE c r k := by
  have hw := shp_wg hs hl
  unfold wgP at hw
  simp only [Bool.and_eq_true, decide_eq_true_eq, List.any_eq_true, List.all_eq_true, List.mem_range] at hw
  obtain ⟨⟨⟨⟨⟨r1, r2, r3, r4, r5, r6, r7⟩, h2⟩, h3⟩, h4⟩, h5⟩ := hw
  exact ⟨⟨⟨hs.sq, hs.n1, hs.dia, hs.off, hl, fun b hb => ⟨(shp_bd hs b hb).1, getD_bd (by omega) (h4 b hb)⟩⟩, ⟨r1, r2, r3, r4, r5, r6, r7⟩, h2, h3⟩, h5⟩

theorem wg_shp {n : Nat} {c : List (List Int)} (hs : Shp n c) (hl : (abL c).length ≤ 24) : ∃ d t, Wg n c (posR c) d t := by
  obtain ⟨hg, tl, htl, h3⟩ := shp_gda hs hl
  have hcl := hs.sq.len
  obtain ⟨hg2, _⟩ := shp_gda (trM_shp hs) hg.rl
  have e : posR (trM c) = abL c := by unfold posR; rw [trM_trM hs.sq]
  rw [e] at hg2
  exact ⟨trM c, fun k => tl.getD k 1, hg, hg.rt, hg2.rt, trM_len c, fun k => tcs_pos n tl htl k, fun r k hr hk => trM_at hr hk, fun r k hr hk => h3 r (by omega) k (by omega)⟩

theorem wg_ck {c : List (List Int)} (h : ckE c = 0) : ∃ d t, Wg c.length c (posR c) d t := by
  obtain ⟨hs, hl⟩ := ck_zero h
  exact wg_shp hs hl

end Go.Proofs.Ytkpdgpdicafeiaa
