/- The law's own looks: two lists that are the same. -/
import Derived.Test.YtgfnmkenpgnllaaGreatHv1
namespace Go.Proofs.YtgfnmkenpgnllaaGreat
open Go.RowKit
attribute [local go_sem ↓] Go.wp_at_zero Go.wp_at_succ

set_option maxRecDepth 100000 in
theorem list_same (B : Nat) (x : List Int) (u v : Value) (w : World) (hu : Sl B 3 w u (ints x)) (hv : Sl B 3 w v (ints x)) :
    Calls Tryz.prog 20 #[u, .int .i64 0, v, .int .i64 0] w fun x w' => x = .returned (.bool true) ∧ Below w.heap.size w w' := by
  obtain ⟨uo, uc, rfl, _, _⟩ := sl_open hu
  obtain ⟨vo, vc, rfl, _, _⟩ := sl_open hv
  have HU : Hid (Sl B 3 w (.slice uo x.length uc) (ints x)) := hu
  have HV : Hid (Sl B 3 w (.slice vo x.length vc) (ints x)) := hv
  clear hu hv
  go_enter Tryz.func20, Tryz.ntmps20
  go_wp2_with fail
  refine (same_any B x x _ _ w HU.out HV.out).mono ?_
  rintro e w' ⟨rfl, n, rfl⟩
  have hxx : (x == x) = true := by simp
  rw [hxx]
  go_wp2
  go_ret
  exact ⟨rfl, ⟨rfl, rfl, rfl, Nat.le_refl _, fun _ _ => rfl⟩⟩

end Go.Proofs.YtgfnmkenpgnllaaGreat
