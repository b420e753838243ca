/- The program's rank and determinant. -/
import Derived.Test.YtkfdpcgmpbopnaaGreatDoorLin10
namespace Go.Proofs.YtkfdpcgmpbopnaaGreatDoor
open Go.RowKit Lin
attribute [local go_sem ↓] Go.wp_at_zero Go.wp_at_succ

theorem bd60 {c : Nat} {m : List (List Int)} (hx : Mx c 60 m) : Bd (mOf m) m.length c := bd_of hx (by decide) had60

theorem field1 (a b c d : Value) (w : World) : (Instr.field 103 (.agg #[a, b, c, d]) 1).run Tryz.prog w = .ok b w := by kernel_rfl

set_option maxRecDepth 100000 in
set_option maxHeartbeats 800000 in
theorem rankP_any (B c : Nat) (m : List (List Int)) (v : Value) (w : World) (hx : Mx c 60 m) (hv : Mat B 22 3 w v m) (hm : m.length ≤ 500) (hm0 : 1 ≤ m.length) :
    Calls Tryz.prog 71 #[v, .int .i64 c] w fun e w' => e = .returned (.int .i64 ((pickL c m).length : Nat)) ∧ Below w.heap.size w w' := by
  obtain ⟨ao, cap, hvv, hlc, hcm⟩ := mat_open hv
  subst hvv
  have hc5 := hx.c5
  have hc1 := hx.c1
  have HR : Hid (Calls Tryz.prog 90 #[.slice ao m.length cap, .int .i64 c] w fun e w' => ∃ ro rc po pc val sgn, e = .returned (.agg #[.slice ro m.length rc, .slice po (pickL c m).length pc, .int .i64 val, .int .i64 sgn]) ∧ Below w.heap.size w w') := by
    refine (reduce_any B c m _ w hv hm hm0 hc1 (by omega) hx.row (bd60 hx)).mono ?_
    rintro e w' ⟨M', C, k, sgn, hr, rv, pv, rfl, h1, h2, h3⟩
    obtain ⟨ro, rc, e1, _, _⟩ := mat_open h1
    obtain ⟨po, pc, e2, _, _⟩ := sl_open h2
    have hk := red_rank hr
    simp only [List.length_map, List.length_range, rowsOf] at e1 e2
    rw [hk] at e2
    exact ⟨ro, rc, po, pc, _, _, by rw [e1, e2], h3⟩
  clear hv
  go_enter Tryz.func71, Tryz.ntmps71
  go_wp2_with fail
  refine (HR.out).mono ?_
  rintro e w2 ⟨ro, rc, po, pc, val, sgn, rfl, hb⟩
  have HB : Hid (Below w.heap.size w w2) := hb
  clear hb
  have hfl := field1 (.slice ro m.length rc) (.slice po (pickL c m).length pc) (.int .i64 val) (.int .i64 sgn) w2
  go_wp2
  go_ret
  exact ⟨rfl, HB.out⟩

end Go.Proofs.YtkfdpcgmpbopnaaGreatDoor
