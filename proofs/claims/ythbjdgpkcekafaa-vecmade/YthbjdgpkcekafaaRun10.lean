/- The program's rank and determinant. -/
import Derived.Test.YthbjdgpkcekafaaLin10
namespace Go.Proofs.Ythbjdgpkcekafaa
open Go.RowKit Lin
attribute [local go_sem ↓] Go.wp_at_zero Go.wp_at_succ

theorem bd60 {c : Nat} {m : List (List Int)} (hx : Mx c 60 m) : Bd (mOf m) m.length c := bd_of hx (by decide) had60

theorem field1 (a b c d : Value) (w : World) : (Instr.field 54 (.agg #[a, b, c, d]) 1).run Try.prog w = .ok b w := by kernel_rfl

set_option maxRecDepth 100000 in
set_option maxHeartbeats 800000 in
theorem rankP_any (B c : Nat) (m : List (List Int)) (v : Value) (w : World) (hx : Mx c 60 m) (hv : Mat B 28 3 w v m) (hm : m.length ≤ 500) (hm0 : 1 ≤ m.length) :
    Calls Try.prog 21 #[v, .int .i64 c] w fun e w' => e = .returned (.int .i64 ((pickL c m).length : Nat)) ∧ Below w.heap.size w w' := by
  obtain ⟨ao, cap, hvv, hlc, hcm⟩ := mat_open hv
  subst hvv
  have hc5 := hx.c5
  have hc1 := hx.c1
  have HR : Hid (Calls Try.prog 35 #[.slice ao m.length cap, .int .i64 c] w fun e w' => ∃ ro rc po pc val sgn, e = .returned (.agg #[.slice ro m.length rc, .slice po (pickL c m).length pc, .int .i64 val, .int .i64 sgn]) ∧ Below w.heap.size w w') := by
    refine (reduce_any B c m _ w hv hm hm0 hc1 (by omega) hx.row (bd60 hx)).mono ?_
    rintro e w' ⟨M', C, k, sgn, hr, rv, pv, rfl, h1, h2, h3⟩
    obtain ⟨ro, rc, e1, _, _⟩ := mat_open h1
    obtain ⟨po, pc, e2, _, _⟩ := sl_open h2
    have hk := red_rank hr
    simp only [List.length_map, List.length_range, rowsOf] at e1 e2
    rw [hk] at e2
    exact ⟨ro, rc, po, pc, _, _, by rw [e1, e2], h3⟩
  clear hv
  go_enter Try.func21, Try.ntmps21
  go_wp2_with fail
  refine (HR.out).mono ?_
  rintro e w2 ⟨ro, rc, po, pc, val, sgn, rfl, hb⟩
  have HB : Hid (Below w.heap.size w w2) := hb
  clear hb
  have hfl := field1 (.slice ro m.length rc) (.slice po (pickL c m).length pc) (.int .i64 val) (.int .i64 sgn) w2
  go_wp2
  go_ret
  exact ⟨rfl, HB.out⟩

set_option maxRecDepth 100000 in
set_option maxHeartbeats 800000 in
theorem detP_any (B : Nat) (m : List (List Int)) (v : Value) (w : World) (hx : Mx m.length 60 m) (hv : Mat B 28 3 w v m) (hm0 : 1 ≤ m.length) :
    Calls Try.prog 22 #[v] w fun e w' => e = .returned (.int .i64 (detL m)) ∧ Below w.heap.size w w' := by
  obtain ⟨ao, cap, hvv, hlc, hcm⟩ := mat_open hv
  subst hvv
  have hc5 := hx.c5
  have hc1 := hx.c1
  have HR : Hid (Calls Try.prog 35 #[.slice ao m.length cap, .int .i64 m.length] w fun e w' => ∃ ro rc po k pc val sgn, e = .returned (.agg #[.slice ro m.length rc, .slice po k pc, .int .i64 val, .int .i64 sgn]) ∧ k ≤ m.length ∧
      (if k < m.length then 0 else sgn * val) = detL m ∧ (k = m.length → (sgn * val).natAbs ≤ 9223372036854775807) ∧ Below w.heap.size w w') := by
    refine (reduce_any B m.length m _ w hv (by omega) hm0 hc1 (by omega) hx.row (bd60 hx)).mono ?_
    rintro e w' ⟨M', C, k, sgn, hr, rv, pv, rfl, h1, h2, h3⟩
    obtain ⟨ro, rc, e1, _, _⟩ := mat_open h1
    obtain ⟨po, pc, e2, _, _⟩ := sl_open h2
    have hd := red_det hr
    simp only [List.length_map, List.length_range, rowsOf] at e1 e2
    refine ⟨ro, rc, po, k, pc, _, _, by rw [e1, e2], hr.done.kn, hd, fun hk => ?_, h3⟩
    have hb := dk_bd (B := 60) (k := k) (M := M') (C := C) (fun i hi b hb => red_entry hx hr i (by omega) _ (hr.done.rise.2 b hb))
    have hf : fb 60 k ≤ fb 60 5 := fb_mono (by decide) (by omega)
    have h5 : fb 60 5 = 93312000000 := by decide
    rcases hr.one with e | e <;> rw [e] <;> simp <;> omega
  clear hv hx
  go_enter Try.func22, Try.ntmps22
  go_wp2_with fail
  refine (HR.out).mono ?_
  rintro e w2 ⟨ro, rc, po, k, pc, val, sgn, rfl, hk, hd, hbd, hb⟩
  have HB : Hid (Below w.heap.size w (w2.alloc (.cells #[.slice ro m.length rc, .slice po k pc, .int .i64 val, .int .i64 sgn] 54))) := hb.alloc hb.size _
  have HD : Hid ((if k < m.length then 0 else sgn * val) = detL m) := hd
  have HBD : Hid (k = m.length → (sgn * val).natAbs ≤ 9223372036854775807) := hbd
  clear hb hd hbd
  by_cases hkn : k < m.length
  · have hkI : (k : Int) < (m.length : Int) := by omega
    go_wp2
    go_ret
    exact ⟨by rw [← HD.out, if_pos hkn]; rfl, HB.out⟩
  · have hkI : ¬ (k : Int) < (m.length : Int) := by omega
    go_wp2
    go_ret
    have h1 := HBD.out (by omega)
    refine ⟨?_, HB.out⟩
    rw [← HD.out, if_neg hkn]
    have h2 := IntWalk.wrap64_in (sgn * val) ⟨by omega, by omega⟩
    rw [h2]; rfl

end Go.Proofs.Ythbjdgpkcekafaa
