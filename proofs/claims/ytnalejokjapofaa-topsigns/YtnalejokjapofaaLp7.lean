/- The document's Shown and Refuted, of ways that hold. -/
import Derived.Test.YtnalejokjapofaaLpC
namespace Go.Proofs.Ytnalejokjapofaa
open Go.RowKit Lin
attribute [local go_sem ↓] Go.wp_at_zero Go.wp_at_succ

/-- The first k rows of a way, so much of each, added. -/
def smT (rows : List (List Int)) (d : Nat) (y a : List Int) (k : Nat) : List Int := (List.range (d + 1)).map fun i => sumN k fun q => a.getD q 0 * (rows.getD (y.getD q 0).toNat []).getD i 0
def smL (rows : List (List Int)) (d : Nat) (y a : List Int) : List Int := smT rows d y a y.length

theorem smT_len (rows : List (List Int)) (d : Nat) (y a : List Int) (k : Nat) : (smT rows d y a k).length = d + 1 := by simp [smT]
theorem smT_get {rows : List (List Int)} {d : Nat} {y a : List Int} {k i : Nat} (h : i < d + 1) : (smT rows d y a k).getD i 0 = sumN k fun q => a.getD q 0 * (rows.getD (y.getD q 0).toNat []).getD i 0 := by
  simp [smT, h]

theorem smT_succ {rows : List (List Int)} {d : Nat} {y a : List Int} {k : Nat} : smT rows d y a (k + 1) = addM (a.getD k 0) (smT rows d y a k) (rows.getD (y.getD k 0).toNat []) := by
  unfold addM
  rw [smT_len]
  conv => lhs; unfold smT
  refine List.map_congr_left fun i hi => ?_
  rw [smT_get (List.mem_range.1 hi)]
  rfl

/-- A way that may be told: rows that rise, none of it below 0, none great. -/
structure WyG (rows : List (List Int)) (y a : List Int) : Prop where
  len : a.length = y.length
  l4 : y.length ≤ 4
  mem : ∀ z ∈ y, 0 ≤ z ∧ z < (rows.length : Int)
  rise : ∀ i j, i < j → j < y.length → y.getD i 0 < y.getD j 0
  bd : ∀ z ∈ a, 0 ≤ z ∧ z ≤ 1000000000

theorem smT_bd {rows : List (List Int)} {d : Nat} {y a : List Int} (h : WyG rows y a) (hx : RwE d rows) : ∀ k, k ≤ y.length → ∀ z ∈ smT rows d y a k, z.natAbs ≤ k * 20000000000 := by
  intro k hk z hz
  simp only [smT, List.mem_map, List.mem_range] at hz
  obtain ⟨i, hi, rfl⟩ := hz
  have key : ∀ j, j ≤ k → (sumN j fun q => a.getD q 0 * (rows.getD (y.getD q 0).toNat []).getD i 0).natAbs ≤ j * 20000000000 := by
    intro j
    induction j with
    | zero => intro _; simp [sumN]
    | succ j ih =>
      intro hj
      have h1 := ih (by omega)
      have hb := h.bd _ (getD_mem (l := a) (i := j) (by rw [h.len]; omega))
      have h2 := h.mem _ (getD_mem (l := y) (i := j) (by omega))
      have h3 : (y.getD j 0).toNat < rows.length := by omega
      have h4 := hx (rows.getD (y.getD j 0).toNat []) (getD_memR h3)
      have h5 := h4.2 _ (getD_mem (l := rows.getD (y.getD j 0).toNat []) (i := i) (by rw [h4.1]; omega))
      have h6 : (a.getD j 0 * (rows.getD (y.getD j 0).toNat []).getD i 0).natAbs ≤ 20000000000 := by
        rw [Int.natAbs_mul]
        exact Nat.le_trans (Nat.mul_le_mul (show (a.getD j 0).natAbs ≤ 1000000000 by omega) h5) (by decide)
      rw [sumN]
      have := Int.natAbs_add_le (sumN j fun q => a.getD q 0 * (rows.getD (y.getD q 0).toNat []).getD i 0) (a.getD j 0 * (rows.getD (y.getD j 0).toNat []).getD i 0)
      omega
  exact key k (Nat.le_refl _)

theorem zero_row {w : World} {d : Nat} (hd : d ≤ 100) {rows : List (List Int)} {y a : List Int} : Sl 0 3 (w.alloc (.cells (madeCells #[.int .i64 0] (d + 1)) 3)) (.slice (some ⟨w.heap.size, 0, none⟩) (d + 1) (d + 1)) (ints (smT rows d y a 0)) := by
  have n3 := alloc_new w (.cells (madeCells #[.int .i64 0] (d + 1)) 3)
  have hgrow : (w.alloc (.cells (madeCells #[.int .i64 0] (d + 1)) 3)).rowIs w.heap.size 3 (d + 1) (fun _ => .int .i64 0) := by
    refine ⟨_, n3, ?_, fun i hi => ?_⟩
    · rw [← Array.length_toList, toList_madeCells_one]; simp
    · rw [← Array.getElem?_toList, toList_madeCells_one]
      simp [hi]
  refine Sl.row' hgrow (by unfold maxLen; omega) (by simp [ints, smT]) (fun i hi => ?_)
  rw [ints_get _ _ (by rw [smT_len]; exact hi)]
  have := smT_get (rows := rows) (y := y) (a := a) (k := 0) hi
  rw [this]
  rfl

theorem cut_way (w : World) (d : Nat) (v p q : Value) (u : Int) : ∃ W, W = (w.alloc (.cells #[.int .i64 d, v] 41)).alloc (.cells #[p, q, .int .i64 u] 66) ∧ Below w.heap.size w W ∧ ∀ X, Below W.heap.size W X → X.cell? ⟨w.heap.size, 0, none⟩ = some (.int .i64 d) ∧ X.cell? ⟨w.heap.size, 1, none⟩ = some v ∧ X.cell? ⟨w.heap.size + 1, 0, none⟩ = some p ∧ X.cell? ⟨w.heap.size + 1, 1, none⟩ = some q ∧ X.cell? ⟨w.heap.size + 1, 2, none⟩ = some (.int .i64 u) := by
  have k1 := alloc_keep w (.cells #[.int .i64 d, v] 41)
  have k2 := alloc_keep (w.alloc (.cells #[.int .i64 d, v] 41)) (.cells #[p, q, .int .i64 u] 66)
  refine ⟨_, rfl, k1.trans (k2.mono k1.size), fun X hX => ?_⟩
  have q1 := (hX.block w.heap.size (by rw [size_alloc, size_alloc]; omega)).trans ((k2.block _ (by rw [size_alloc]; omega)).trans (alloc_new _ _))
  have n2 := alloc_new (w.alloc (.cells #[.int .i64 d, v] 41)) (.cells #[p, q, .int .i64 u] 66)
  rw [size_alloc] at n2
  have q2 := (hX.block (w.heap.size + 1) (by rw [size_alloc, size_alloc]; omega)).trans n2
  exact ⟨by simp [World.cell?, q1], by simp [World.cell?, q1], by simp [World.cell?, q2], by simp [World.cell?, q2], by simp [World.cell?, q2]⟩

end Go.Proofs.Ytnalejokjapofaa
