import Derived.Test.YtkdileeahbaobaaDoorGvA
import Derived.Test.YtkdileeahbaobaaDoorMt8
import Derived.Test.YtkdileeahbaobaaDoorMs0
import Derived.Test.YtkdileeahbaobaaDoorTk1
import Derived.Laws.EntriesVeiled
import Derived.Test.YtkdileeahbaobaaDoorGp3
import Derived.Test.YtkdileeahbaobaaDoorGp8
import Derived.Test.YtkdileeahbaobaaDoorMade1
/- choose.Picked over rows; matroid.Vectors's closure; setsThat over it. -/
namespace Go.Proofs.YtkdileeahbaobaaDoor
open Go.RowKit
attribute [local go_sem ↓] Go.wp_at_zero Go.wp_at_succ

/-- The rows of a choice. -/
def pkV (m : List (List Int)) (x : List Int) : List (List Int) := x.map fun z => m.getD z.toNat []

theorem pkV_len (m : List (List Int)) (x : List Int) : (pkV m x).length = x.length := by simp [pkV]

theorem pkV_rp {d p : Nat} {m : List (List Int)} {x : List Int} (h : Rp d p m) (hx : ∀ i, i < x.length → 0 ≤ x.getD i 0 ∧ x.getD i 0 < m.length) : Rp d p (pkV m x) := fun r hr => by
  obtain ⟨z, hz, rfl⟩ := List.mem_map.1 hr
  obtain ⟨i, hi, rfl⟩ := List.getElem_of_mem hz
  have := hx i hi
  rw [show x.getD i 0 = x[i] by simp [hi]] at this
  exact h _ (by simp [show x[i].toNat < m.length by omega])

theorem take_snocV (x : List Int) (k : Nat) (h : k < x.length) : x.take (k + 1) = x.take k ++ [x.getD k 0] := by
  rw [List.take_succ_eq_append_getElem h]; simp [h]

theorem mem8_pl {s m : Nat} (hs : s < 2 ^ m) : ∀ i, i < (mem8 s).length → 0 ≤ (mem8 s).getD i 0 ∧ (mem8 s).getD i 0 < m := fun i hi => by
  have hz : (mem8 s).getD i 0 ∈ mem8 s := by simp [hi]
  obtain ⟨k, _, h2, h3⟩ := mem8_iff.1 hz
  have := bit_lt hs h2
  omega

/-- Do the rows of a set stand alone? -/
noncomputable def fvE (p : Int) (d : Nat) (m : List (List Int)) (s : Nat) : Bool := !dpB p d (pkV m (mem8 s))

end Go.Proofs.YtkdileeahbaobaaDoor

/- matroid.made over Vectors's closure. -/
namespace Go.Proofs.YtkdileeahbaobaaDoor
open Go.RowKit
attribute [local go_sem ↓] Go.wp_at_zero Go.wp_at_succ

theorem mxS_ge (l : List Int) : ∀ k i, i < k → (mem8 (l.getD i 0).toNat).length ≤ mxS l k
  | 0, _, h => by omega
  | k + 1, i, h => by
    by_cases e : i = k
    · subst e; simp only [mxS]; omega
    · have := mxS_ge l k i (by omega)
      simp only [mxS]; omega

theorem mxS_le8 (l : List Int) : ∀ k, mxS l k ≤ 8
  | 0 => by simp [mxS]
  | k + 1 => by
    have := mxS_le8 l k
    have := mem8_len (l.getD k 0).toNat
    simp only [mxS]; omega

theorem del_gre (l : List Int) : (l.filter fun r => !lsQ (mxS l l.length) r) = greL l := by
  unfold greL grF
  rw [List.take_length]
  refine List.filter_congr fun x hx => ?_
  obtain ⟨i, hi, rfl⟩ := List.getElem_of_mem hx
  have := mxS_ge l l.length i hi
  rw [show l.getD i 0 = l[i] by simp [hi]] at this
  unfold lsQ
  by_cases c : (mem8 (l[i]).toNat).length = mxS l l.length
  · simp [c]
  · have : (mem8 (l[i]).toNat).length < mxS l l.length := by omega
    simp [c, this]

theorem setsTo_b9 (p : Nat → Bool) (k : Nat) (h : k ≤ 256) : ∀ z ∈ setsTo p k, 0 ≤ z ∧ z < 256 := fun z hz => by
  unfold setsTo at hz
  obtain ⟨i, hi, rfl⟩ := List.mem_map.1 hz
  have := List.mem_range.1 (List.mem_filter.1 hi).1
  omega

/-- What the loop of made holds: the box of the rank, and the row of the sets. -/
structure MdI (W w1 : World) (v : Value) (L : List Int) (q : Nat) (wr : World) : Prop where
  box : wr.heap[w1.heap.size]? = some (.cells #[.int .i64 q] 3 (0, 0))
  own : wr.ownsRow W.heap.size 3 1 v L.length (ints L)
  bel : Below W.heap.size W wr

end Go.Proofs.YtkdileeahbaobaaDoor
