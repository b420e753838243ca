/- Which squares have an end: by ranks 2 and 3 within them. -/
import Derived.Test.YtkgljfnbaoncbaaMgAL
namespace Go.Proofs.Ytkgljfnbaoncbaa

def p6 : List (Int × Int) := [(0, 0), (-1, -1), (-1, -2), (-2, -1), (-1, -3), (-3, -1)]
def pq (i : Nat) : Int × Int := p6.getD i (0, 0)
def sq2 (p : Int × Int) : List (List Int) := [[2, p.1], [p.2, 2]]
def sq3 (p q r : Int × Int) : List (List Int) := [[2, p.1, q.1], [p.2, 2, r.1], [q.2, r.2, 2]]
def sq4 (p q r s t u : Int × Int) : List (List Int) := [[2, p.1, q.1, s.1], [p.2, 2, r.1, t.1], [q.2, r.2, 2, u.1], [s.2, t.2, u.2, 2]]
/-- Rank 3: which have an end. -/
def t3 (i j k : Nat) : Bool := Nat.testBit 1532495540888189603578620393387275891158512506713682943 (36 * i + 6 * j + k)

set_option maxRecDepth 100000 in
theorem k2 : ∀ v ∈ [(-3 : Int), -2, -1, 0], ∀ a ∈ [(-3 : Int), -2, -1, 0], (v = 0 ↔ a = 0) → (abL (sq2 (v, a))).length ≤ 24 → ∃ i ∈ List.range 6, (v, a) = pq i := by decide +kernel

set_option maxRecDepth 100000 in
theorem k3 : ∀ i ∈ List.range 6, ∀ j ∈ List.range 6, ∀ k ∈ List.range 6, (abL (sq3 (pq i) (pq j) (pq k))).length ≤ 24 → t3 i j k = true := by decide +kernel

theorem sqc_eta {n : Nat} {c : List (List Int)} (h : Sqc n c) : c = (List.range n).map fun i => (List.range n).map fun j => cE c i j := by
  apply List.ext_getElem
  · simp [h.len]
  intro i h1 h2
  rw [List.getElem_map, List.getElem_range]
  have hr : c[i].length = n := h.row _ (List.getElem_mem h1)
  refine ext_getD (n := n) hr (by simp) fun j hj => ?_
  rw [getD_range hj]
  unfold cE
  congr 1
  simp [h1]

theorem c2 {c : List (List Int)} (h : Shp 2 c) : c = sq2 (cE c 0 1, cE c 1 0) := by
  have e : c = [[cE c 0 0, cE c 0 1], [cE c 1 0, cE c 1 1]] := by
    conv => lhs; rw [sqc_eta h.sq]
    rfl
  have d0 := h.dia 0 (by omega)
  have d1 := h.dia 1 (by omega)
  rw [d0, d1] at e
  exact e

theorem c3 {c : List (List Int)} (h : Shp 3 c) : c = sq3 (cE c 0 1, cE c 1 0) (cE c 0 2, cE c 2 0) (cE c 1 2, cE c 2 1) := by
  have e : c = [[cE c 0 0, cE c 0 1, cE c 0 2], [cE c 1 0, cE c 1 1, cE c 1 2], [cE c 2 0, cE c 2 1, cE c 2 2]] := by
    conv => lhs; rw [sqc_eta h.sq]
    rfl
  have d0 := h.dia 0 (by omega)
  have d1 := h.dia 1 (by omega)
  have d2 := h.dia 2 (by omega)
  rw [d0, d1, d2] at e
  exact e

theorem c4 {c : List (List Int)} (h : Shp 4 c) : c = sq4 (cE c 0 1, cE c 1 0) (cE c 0 2, cE c 2 0) (cE c 1 2, cE c 2 1) (cE c 0 3, cE c 3 0) (cE c 1 3, cE c 3 1) (cE c 2 3, cE c 3 2) := by
  have e : c = [[cE c 0 0, cE c 0 1, cE c 0 2, cE c 0 3], [cE c 1 0, cE c 1 1, cE c 1 2, cE c 1 3], [cE c 2 0, cE c 2 1, cE c 2 2, cE c 2 3], [cE c 3 0, cE c 3 1, cE c 3 2, cE c 3 3]] := by
    conv => lhs; rw [sqc_eta h.sq]
    rfl
  have d0 := h.dia 0 (by omega)
  have d1 := h.dia 1 (by omega)
  have d2 := h.dia 2 (by omega)
  have d3 := h.dia 3 (by omega)
  rw [d0, d1, d2, d3] at e
  exact e

theorem four {v : Int} (h : -3 ≤ v ∧ v ≤ 0) : v ∈ [(-3 : Int), -2, -1, 0] := by
  simp only [List.mem_cons, List.not_mem_nil, or_false]
  omega

theorem cls2 {c : List (List Int)} (h : Shp 2 c) (hl : (abL c).length ≤ 24) : ∃ i, i < 6 ∧ (cE c 0 1, cE c 1 0) = pq i := by
  have o := h.off 0 1 (by omega) (by omega) (by omega)
  have o2 := h.off 1 0 (by omega) (by omega) (by omega)
  have hl2 := hl
  rw [c2 h] at hl2
  obtain ⟨i, hi, e⟩ := k2 _ (four o.1) _ (four o2.1) o.2 hl2
  exact ⟨i, List.mem_range.1 hi, e⟩

theorem cls3 {c : List (List Int)} (h : Shp 3 c) (hl : (abL c).length ≤ 24) : ∃ i j k, (i < 6 ∧ j < 6 ∧ k < 6) ∧ t3 i j k = true ∧ (cE c 0 1, cE c 1 0) = pq i ∧ (cE c 0 2, cE c 2 0) = pq j ∧ (cE c 1 2, cE c 2 1) = pq k := by
  have f := fun (r : Nat) (hr : r < 3) => cls2 (dr_shp (n := 2) (r := r) h (by omega)) (dr_few (n := 2) h (by omega) hr hl)
  obtain ⟨i, hi, ei⟩ := f 2 (by omega)
  obtain ⟨j, hj, ej⟩ := f 1 (by omega)
  obtain ⟨k, hk, ek⟩ := f 0 (by omega)
  rw [dr_at (by omega) (by omega), dr_at (by omega) (by omega)] at ei ej ek
  have ei : (cE c 0 1, cE c 1 0) = pq i := ei
  have ej : (cE c 0 2, cE c 2 0) = pq j := ej
  have ek : (cE c 1 2, cE c 2 1) = pq k := ek
  refine ⟨i, j, k, ⟨hi, hj, hk⟩, ?_, ei, ej, ek⟩
  refine k3 i (List.mem_range.2 hi) j (List.mem_range.2 hj) k (List.mem_range.2 hk) ?_
  rw [← ei, ← ej, ← ek, ← c3 h]
  exact hl

theorem pq_inj {i j : Nat} (hi : i < 6) (hj : j < 6) (h : pq i = pq j) : i = j := by
  have : ∀ i ∈ List.range 6, ∀ j ∈ List.range 6, pq i = pq j → i = j := by decide
  exact this i (List.mem_range.2 hi) j (List.mem_range.2 hj) h

theorem cls4 {c : List (List Int)} (h : Shp 4 c) (hl : (abL c).length ≤ 24) : ∃ i j k s t u, (i < 6 ∧ j < 6 ∧ k < 6 ∧ s < 6 ∧ t < 6 ∧ u < 6) ∧ (t3 i j k = true ∧ t3 i s t = true ∧ t3 j s u = true ∧ t3 k t u = true) ∧ c = sq4 (pq i) (pq j) (pq k) (pq s) (pq t) (pq u) := by
  have f := fun (r : Nat) (hr : r < 4) => cls3 (dr_shp (n := 3) (r := r) h (by omega)) (dr_few (n := 3) h (by omega) hr hl)
  obtain ⟨i, j, k, ⟨hi, hj, hk⟩, t1, e1, e2, e3⟩ := f 3 (by omega)
  obtain ⟨i', s, t, ⟨hi', hs, ht⟩, t2, e4, e5, e6⟩ := f 2 (by omega)
  obtain ⟨j', s', u, ⟨hj', hs', hu⟩, t4, e7, e8, e9⟩ := f 1 (by omega)
  obtain ⟨k', t', u', ⟨hk', ht', hu'⟩, t5, e10, e11, e12⟩ := f 0 (by omega)
  rw [dr_at (by omega) (by omega), dr_at (by omega) (by omega)] at e1 e2 e3 e4 e5 e6 e7 e8 e9 e10 e11 e12
  have e1 : (cE c 0 1, cE c 1 0) = pq i := e1
  have e2 : (cE c 0 2, cE c 2 0) = pq j := e2
  have e3 : (cE c 1 2, cE c 2 1) = pq k := e3
  have e4 : (cE c 0 1, cE c 1 0) = pq i' := e4
  have e5 : (cE c 0 3, cE c 3 0) = pq s := e5
  have e6 : (cE c 1 3, cE c 3 1) = pq t := e6
  have e7 : (cE c 0 2, cE c 2 0) = pq j' := e7
  have e8 : (cE c 0 3, cE c 3 0) = pq s' := e8
  have e9 : (cE c 2 3, cE c 3 2) = pq u := e9
  have e10 : (cE c 1 2, cE c 2 1) = pq k' := e10
  have e11 : (cE c 1 3, cE c 3 1) = pq t' := e11
  have e12 : (cE c 2 3, cE c 3 2) = pq u' := e12
  have q1 := pq_inj hi' hi (e4.symm.trans e1)
  have q2 := pq_inj hj' hj (e7.symm.trans e2)
  have q3 := pq_inj hk' hk (e10.symm.trans e3)
  have q4 := pq_inj hs' hs (e8.symm.trans e5)
  have q5 := pq_inj ht' ht (e11.symm.trans e6)
  have q6 := pq_inj hu' hu (e12.symm.trans e9)
  subst q1 q2 q3 q4 q5 q6
  refine ⟨_, _, _, _, _, _, ⟨hi, hj, hk, hs, ht, hu⟩, ⟨t1, t2, t4, t5⟩, ?_⟩
  have := c4 h
  rw [e1, e2, e3, e5, e6, e9] at this
  exact this

end Go.Proofs.Ytkgljfnbaoncbaa
