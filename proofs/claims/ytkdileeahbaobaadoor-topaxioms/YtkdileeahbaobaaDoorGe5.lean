/- facetref.MatroidFrom: what it gives is a matroid. -/
import Derived.Test.YtkdileeahbaobaaDoorGeA
import Derived.Test.YtkdileeahbaobaaDoorGeB
namespace Go.Proofs.YtkdileeahbaobaaDoor
open Go.RowKit

theorem matroidFrom_is (n : Nat) (kind : Int) (raw : List Int) (v : Value) (w : World) (hv : Sl w.heap.size 3 w v (ints raw)) (hr : ∀ z ∈ raw, In64 z) (hl : raw.length ≤ 256) (hk : In64 kind) (hn1 : 1 ≤ n) (hn : n ≤ 7) :
    Calls Tryd.prog 5 #[v, .int .i64 0, .int .i64 kind, .int .i64 n] w fun e w' => ∃ u bs, e = .returned (.agg #[.int .i64 n, u]) ∧ Sl 0 3 w' u (ints bs) ∧ matE (n : Int) bs = 0 ∧ Below w.heap.size w w' := by
  have h0 : Hid (∀ W', Calls Tryd.prog 4 #[.int .i64 kind, .int .i64 3] W' fun e w' => e = .returned (.int .i64 (pickF kind 3)) ∧ w' = W') := fun W' => pick_val kind 3 W' (by omega) (by omega) hk
  obtain ⟨k1, k2⟩ := pickF_bd (c := kind) (n := 3) (by decide)
  have h3 : pickF kind 3 = 0 ∨ pickF kind 3 = 1 ∨ pickF kind 3 = 2 := by omega
  rcases h3 with h3 | h3 | h3 <;> rw [h3] at h0
  · exact from0_is n kind raw v w hv hr hl hn1 hn h0
  · exact from1_is n kind raw v w hv hr hl hn1 hn h0
  · exact from2_is n kind raw v w hv hr hl hn1 hn h0

end Go.Proofs.YtkdileeahbaobaaDoor
