/- Sums of points, and areas (pure). -/
import Derived.Test.YtgeajopenkkkaaaGreatHmk
import Derived.Test.YtgeajopenkkkaaaGreatHmY
import Derived.Test.YtgeajopenkkkaaaGreatLtA
import Derived.Test.YtgeajopenkkkaaaGreatBetC
namespace Go.Proofs.YtgeajopenkkkaaaGreat
open Go.RowKit Lin

/-- Each of the first with each of the second, added. -/
def sumP (xs ys : List (List Int)) : List (List Int) := xs.flatMap fun x => ys.map fun y => addL x y

theorem sumP_cons (x : List Int) (xs ys : List (List Int)) : sumP (x :: xs) ys = ys.map (fun y => addL x y) ++ sumP xs ys := by
  simp [sumP]

theorem sumP_len (xs ys : List (List Int)) : (sumP xs ys).length = xs.length * ys.length := by
  induction xs with
  | nil => simp [sumP]
  | cons x xs ih => rw [sumP_cons, List.length_append, ih, List.length_map, List.length_cons, Nat.succ_mul]; omega

theorem mem_sumP {xs ys : List (List Int)} {z : List Int} : z ∈ sumP xs ys ↔ ∃ x ∈ xs, ∃ y ∈ ys, addL x y = z := by
  simp [sumP]

theorem sumP_snoc {xs ys : List (List Int)} {i : Nat} (hi : i < xs.length) : sumP (xs.take (i + 1)) ys = sumP (xs.take i) ys ++ ys.map fun y => addL (xs.getD i []) y := by
  unfold sumP
  rw [List.take_succ_eq_append_getElem hi, List.flatMap_append]
  simp [hi]

theorem map_snocS {ys : List (List Int)} {x : List Int} {j : Nat} (hj : j < ys.length) : (ys.take (j + 1)).map (fun y => addL x y) = (ys.take j).map (fun y => addL x y) ++ [addL x (ys.getD j [])] := by
  rw [List.take_succ_eq_append_getElem hj, List.map_append]
  simp [hj]

theorem sumP_box {d a b : Nat} {xs ys : List (List Int)} (hx : Box d a xs) (hy : Box d b ys) : Box d (a + b) (sumP xs ys) := by
  intro r hr
  obtain ⟨x, h1, y, h2, rfl⟩ := mem_sumP.1 hr
  refine ⟨by rw [addL_length]; exact (hx x h1).1, fun z hz => ?_⟩
  simp only [addL, List.mem_map, List.mem_range] at hz
  obtain ⟨i, hi, rfl⟩ := hz
  have e1 := (hx x h1).2 (x.getD i 0) (getD_mem hi)
  have e2 := (hy y h2).2 (y.getD i 0) (getD_mem (by rw [(hy y h2).1, ← (hx x h1).1]; exact hi))
  constructor <;> omega

/-- The corners that a row meets. -/
def endL (C : List (List Int)) (r : List Int) : List (List Int) := C.filter fun x => decide (overL r x = 0)

/-- Rows and corners of points. -/
structure SrC (d : Nat) (P s C : List (List Int)) : Prop where
  good : Good d P
  asc : SAsc s
  rows : ∀ r, r ∈ s ↔ r ∈ rowsD P d
  casc : SAsc C
  crns : ∀ y, y ∈ C ↔ y ∈ crn d s P

theorem crn_sameS {d : Nat} {P P' s s' : List (List Int)} (hg : Good d P) (hP : ∀ r, r ∈ P' ↔ r ∈ P) (hs : ∀ r, r ∈ s ↔ r ∈ rowsD P d) (hs' : ∀ r, r ∈ s' ↔ r ∈ rowsD P d) (y : List Int) : y ∈ crn d s' P' ↔ y ∈ crn d s P := by
  unfold crn
  rw [List.mem_filter, List.mem_filter, hP y]
  refine and_congr_right fun hy => ?_
  simp only [decide_eq_true_eq]
  rw [corner_rank hg hP hs' hy, corner_rank hg hP hs hy]

theorem rowsD_sameS {d : Nat} {P P' : List (List Int)} (hg : Good d P) (hP : ∀ r, r ∈ P' ↔ r ∈ P) (r : List Int) : r ∈ rowsD P' d ↔ r ∈ rowsD P d := by
  rw [mem_rowsD, mem_rowsD]
  exact rows_same hg hP r

/-- Points in another order have the same rows and corners. -/
theorem SrC.other {d : Nat} {P P' s C s' C' : List (List Int)} (h : SrC d P s C) (h' : SrC d P' s' C') (hP : ∀ r, r ∈ P' ↔ r ∈ P) : s' = s ∧ C' = C := by
  have hss : ∀ r, r ∈ s' ↔ r ∈ rowsD P d := fun r => (h'.rows r).trans (rowsD_sameS h.good hP r)
  refine ⟨sasc_ext _ _ h'.asc h.asc fun r => (hss r).trans (h.rows r).symm, sasc_ext _ _ h'.casc h.casc fun y => ?_⟩
  rw [h'.crns y, h.crns y]
  exact crn_sameS h.good hP h.rows hss y

theorem SrC.cgood {d : Nat} {P s C : List (List Int)} (h : SrC d P s C) : Good d C :=
  corners_good h.good h.rows (fun _ hx => corner_rank h.good (fun _ => Iff.rfl) h.rows hx) h.crns h.casc.nodup

theorem SrC.sub {d : Nat} {P s C : List (List Int)} (h : SrC d P s C) {y : List Int} (hy : y ∈ C) : y ∈ P := (List.mem_filter.1 ((h.crns y).1 hy)).1

theorem SrC.ends {P s C : List (List Int)} (h : SrC 2 P s C) {r : List Int} (hr : r ∈ s) : 2 ≤ (endL C r).length := by
  have hgC := h.cgood
  have hrC : r ∈ rowsC C [] 2 C := (rows_corners h.good h.rows (fun _ hx => corner_rank h.good (fun _ => Iff.rfl) h.rows hx) h.crns h.casc.nodup r).2 ((mem_rowsD).1 ((h.rows r).1 hr))
  have hrl : r.length = 2 + 1 := (rowsD_facts h.good.box h.good.d1 (by decide) r ((h.rows r).1 hr)).len
  have := side_rank hgC hrC (p := endL C r) fun y => by
    unfold endL
    rw [List.mem_filter, decide_eq_true_eq]
    exact and_congr_right fun hy => over_zero hrl (hgC.box y hy).1
  have h2 := pickL_len 2 (diffL (endL C r))
  rw [diffL_length] at h2
  omega

theorem SrC.three {P s C : List (List Int)} (h : SrC 2 P s C) {r : List Int} (hr : r ∈ s) : Box 2 30 [C.getD 0 [], (endL C r).getD 0 [], (endL C r).getD 1 []] := by
  have hgC := h.cgood
  have h2 := hgC.n2
  have h3 := h.ends hr
  have hm : ∀ y ∈ endL C r, y ∈ C := fun y hy => (List.mem_filter.1 hy).1
  intro x hx
  simp only [List.mem_cons, List.not_mem_nil, or_false] at hx
  rcases hx with rfl | rfl | rfl
  · exact hgC.box _ (by simp [show 0 < C.length by omega])
  · exact hgC.box _ (hm _ (by simp [show 0 < (endL C r).length by omega]))
  · exact hgC.box _ (hm _ (by simp [show 1 < (endL C r).length by omega]))

theorem detL_bdS {m : List (List Int)} {Bd : Nat} (h : Sq m.length Bd m) : (detL m).natAbs ≤ fb Bd m.length := by
  have hb := Lin.od_bd (n := m.length) (B := Bd) (fm m) (fun _ => false) (fun r hr j hj => by
    simp only [fm, List.mem_map] at hr
    obtain ⟨l, hl, rfl⟩ := hr
    exact h.bd l hl j hj) (by rw [Lin.cu_none]; simp [fm])
  have e : (fm m).length = m.length := by simp [fm]
  rw [e] at hb
  exact hb

theorem SrC.many {P s C : List (List Int)} {d : Nat} (h : SrC d P s C) (hn : P.length ≤ 64) : s.length ≤ 16777216 := rowsD_len h.good.d4 (Nat.le_trans hn (by decide)) h.asc h.rows

end Go.Proofs.YtgeajopenkkkaaaGreat
