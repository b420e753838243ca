import Derived.Test.YtnalejokjapofaaRunD
import Derived.Lib.JoinLaws
import Derived.Test.YtnalejokjapofaaLinAll
import Derived.Test.YtnalejokjapofaaMade1
/- The program's differences of points. -/
namespace Go.Proofs.Ytnalejokjapofaa
open Go.RowKit
attribute [local go_sem ↓] Go.wp_at_zero Go.wp_at_succ

/-- One list less another one. -/
def subL (r b : List Int) : List Int := (List.range r.length).map fun i => r.getD i 0 - b.getD i 0

/-- What the points behind the first one have more than it. -/
def diffL (m : List (List Int)) : List (List Int) := (m.drop 1).map fun r => subL r (m.getD 0 [])

theorem subL_length (r b : List Int) : (subL r b).length = r.length := by simp [subL]
theorem diffL_length (m : List (List Int)) : (diffL m).length = m.length - 1 := by simp [diffL]

theorem subL_at {r b : List Int} {k : Nat} (h : k < r.length) : (subL r b).getD k 0 = r.getD k 0 - b.getD k 0 := by simp [subL, h]

theorem diffL_snoc (m : List (List Int)) (k : Nat) (h : k + 1 < m.length) : (diffL m).take (k + 1) = (diffL m).take k ++ [subL (m.getD (k + 1) []) (m.getD 0 [])] := by
  rw [List.take_succ_eq_append_getElem (by rw [diffL_length]; omega)]
  have e : (diffL m)[k]'(by rw [diffL_length]; omega) = subL (m.getD (k + 1) []) (m.getD 0 []) := by
    have h1 : m[1 + k]? = some (m[1 + k]'(by omega)) := List.getElem?_eq_getElem (by omega)
    simp only [diffL, List.getElem_map, List.getElem_drop, List.getD_eq_getElem?_getD]
    rw [show k + 1 = 1 + k by omega, h1]; rfl
  rw [e]

theorem set_mix {r nr : List Int} {k : Nat} (hl : r.length = nr.length) (hk : k < r.length) : ints (nr.take (k + 1) ++ r.drop (k + 1)) = (ints (nr.take k ++ r.drop k)).set k (.int .i64 (nr.getD k 0)) := by
  apply List.ext_getElem?
  intro i
  rw [List.getElem?_set, ints_length]
  simp only [ints, List.getElem?_map]
  by_cases hik : i < k
  · rw [List.getElem?_append_left (by simp; omega), List.getElem?_append_left (by simp; omega), if_neg (by omega)]
    simp [hik, show i < k + 1 by omega]
  · by_cases hik2 : i = k
    · subst hik2
      rw [List.getElem?_append_left (by simp; omega), if_pos rfl, if_pos (by simp; omega)]
      simp [show i < nr.length by omega]
    · rw [List.getElem?_append_right (by simp; omega), List.getElem?_append_right (by simp; omega), if_neg (by omega)]
      simp only [List.length_take, List.getElem?_drop]
      rw [show k + 1 + (i - min (k + 1) nr.length) = i by omega, show k + (i - min k nr.length) = i by omega]

theorem mix_at {r nr : List Int} {k : Nat} (hl : r.length = nr.length) (hk : k < r.length) : (nr.take k ++ r.drop k).getD k 0 = r.getD k 0 := by
  simp only [List.getD_eq_getElem?_getD]; rw [List.getElem?_append_right (by simp; omega)]; simp [show k - min k nr.length = 0 by omega]

theorem mix_end {r nr : List Int} {k : Nat} (hl : r.length = nr.length) (hk : r.length ≤ k) : nr.take k ++ r.drop k = nr := by
  rw [List.take_of_length_le (by omega), List.drop_eq_nil_of_le (by omega), List.append_nil]

theorem Touch.below {g M : Nat} {w w2 wr : World} (h : Touch g w2 wr) (hb : Below M w w2) (hg : M ≤ g) : Below M w wr :=
  ⟨h.os.trans hb.os, h.tape.trans hb.tape, h.output.trans hb.output, by rw [h.size]; exact hb.size, fun b hlt => (h.block b (by omega)).trans (hb.block b hlt)⟩

end Go.Proofs.Ytnalejokjapofaa

/- The program's products; points looked through for one beyond a row. -/
namespace Go.Proofs.Ytnalejokjapofaa
open Go.RowKit
attribute [local go_sem ↓] Go.wp_at_zero Go.wp_at_succ

/-- The products, added. -/
def dotL (a x : List Int) : Int := Lin.sumN a.length fun i => a.getD i 0 * x.getD i 0

/-- Small enough that nothing passes 64 bits. -/
def Sm (a x : List Int) : Prop := a.length ≤ x.length ∧ a.length ≤ 8 ∧ (∀ z ∈ a, z.natAbs ≤ 1000000000000) ∧ ∀ z ∈ x, z.natAbs ≤ 1000

theorem mul_bd {a x : Int} (ha : a.natAbs ≤ 1000000000000) (hx : x.natAbs ≤ 1000) : (a * x).natAbs ≤ 1000000000000000 := by
  rw [Int.natAbs_mul]
  exact Nat.le_trans (Nat.mul_le_mul ha hx) (by decide)

theorem sum_sm {a x : List Int} (h : Sm a x) : ∀ k, k ≤ a.length → (Lin.sumN k fun i => a.getD i 0 * x.getD i 0).natAbs ≤ k * 1000000000000000 := by
  intro k
  induction k with
  | zero => intro _; simp [Lin.sumN]
  | succ k ih =>
    intro hk
    have h1 := ih (by omega)
    have h2 : (a.getD k 0 * x.getD k 0).natAbs ≤ 1000000000000000 := mul_bd (h.2.2.1 _ (by simp [show k < a.length by omega])) (h.2.2.2 _ (by simp [show k < x.length by have := h.1; omega]))
    simp only [Lin.sumN]
    omega

end Go.Proofs.Ytnalejokjapofaa
