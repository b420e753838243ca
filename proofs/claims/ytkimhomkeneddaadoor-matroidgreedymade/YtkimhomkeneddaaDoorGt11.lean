/- facetlaw.MatroidGreedyMade: the law, of matroids of raw numbers. -/
import Derived.Test.YtkimhomkeneddaaDoorGt8
import Derived.Test.YtkimhomkeneddaaDoorGt9
import Derived.Test.YtkimhomkeneddaaDoorGt10
import Derived.Test.YtkimhomkeneddaaDoorMt19
namespace Go.Proofs.YtkimhomkeneddaaDoor
open Go.RowKit
attribute [local go_sem ↓] Go.wp_at_zero Go.wp_at_succ

theorem matroidFrom_any (n : Nat) (kind : Int) (raw : List Int) (v : Value) (w : World) (hv : Sl w.heap.size 3 w v (ints raw)) (hr : ∀ z ∈ raw, In64 z) (hl : raw.length ≤ 256) (hk : In64 kind) (hn1 : 1 ≤ n) (hn : n ≤ 7) :
    Calls Tryd.prog 10 #[v, .int .i64 0, .int .i64 kind, .int .i64 n] w fun e w' => ∃ N u xs, e = .returned (.agg #[.int .i64 N, u]) ∧ Sl 0 3 w' u (ints xs) ∧ Below w.heap.size w w' := by
  have h0 : Hid (∀ W', Calls Tryd.prog 8 #[.int .i64 kind, .int .i64 3] W' fun e w' => e = .returned (.int .i64 (pickF kind 3)) ∧ w' = W') := fun W' => pick_val kind 3 W' (by omega) (by omega) hk
  obtain ⟨k1, k2⟩ := pickF_bd (c := kind) (n := 3) (by decide)
  have h3 : pickF kind 3 = 0 ∨ pickF kind 3 = 1 ∨ pickF kind 3 = 2 := by omega
  rcases h3 with h3 | h3 | h3 <;> rw [h3] at h0
  · exact from_0 n kind raw v w hv hr hl hn1 hn h0
  · exact from_1 n kind raw v w hv hr hl hn1 hn h0
  · exact from_2 n kind raw v w hv hr hl hn1 hn h0

set_option maxRecDepth 100000 in
set_option maxHeartbeats 1600000 in
theorem matGreedyMade_any (n0 kind : Int) (raw : List Int) (v : Value) (w : World) (hv : Sl w.heap.size 3 w v (ints raw)) (hr : ∀ z ∈ raw, In64 z) (hk : In64 kind) (hn0 : In64 n0) (hT : TabB w) :
    Calls Tryd.prog 4 #[v, .int .i64 kind, .int .i64 n0] w fun e w' => e = .returned (.bool true) ∧ Below w.heap.size w w' := by
  obtain ⟨i3, hi3, hz30, hz31, hz32⟩ := info_parts Tryd.info3
  obtain ⟨lo, lc, hvv, hlc, hcm⟩ := sl_open hv
  subst hvv
  by_cases hl40 : 256 < raw.length
  · have b0 : decide ((256 : Int) < (raw.length : Int)) = true := decide_eq_true (by omega)
    clear hv hr hT
    go_enter Tryd.func4, Tryd.ntmps4
    go_wp2
    go_ret
    exact ⟨rfl, Below.refl _ _⟩
  have b0 : decide ((256 : Int) < (raw.length : Int)) = false := decide_eq_false (by omega)
  have hll : raw.length ≤ 256 := by omega
  obtain ⟨pf, hpf⟩ : ∃ pf : Nat, pickF n0 7 = (pf : Int) := ⟨(pickF n0 7).toNat, by have := (pickF_bd (c := n0) (n := 7) (by decide)).1; omega⟩
  have hpf5 : pf < 7 := by have := (pickF_bd (c := n0) (n := 7) (by decide)).2; omega
  obtain ⟨n, hn⟩ : ∃ n : Nat, n = 1 + pf := ⟨_, rfl⟩
  have hn1 : 1 ≤ n := by omega
  have hn7 : n ≤ 7 := by omega
  have HP1 : Hid (∀ W', Calls Tryd.prog 8 #[.int .i64 n0, .int .i64 7] W' fun e w' => e = .returned (.int .i64 pf) ∧ w' = W') := fun W' => by rw [← hpf]; exact pick_val n0 7 W' (by omega) (by omega) hn0
  have HV : Hid (∀ W', Below w.heap.size w W' → Sl w.heap.size 3 W' (.slice lo raw.length lc) (ints raw) ∧ TabB W') := fun W' h => ⟨hv.below h (Nat.le_refl _), hT.below h⟩
  have HRW : Hid (∀ W' (i : Nat), Below w.heap.size w W' → i ≤ 1000 → Calls Tryd.prog 9 #[.slice lo raw.length lc, .int .i64 i] W' fun e w' => ∃ z, e = .returned (.int .i64 z) ∧ (0 ≤ z ∧ z ≤ 4611686018427387904) ∧ Below W'.heap.size W' w') := fun W' i h hi =>
    raw_any w.heap.size raw _ i W' (HV.out W' h).1 hr (by omega) (by omega)
  have HMF : Hid (∀ W', Below w.heap.size w W' → Calls Tryd.prog 10 #[.slice lo raw.length lc, .int .i64 0, .int .i64 kind, .int .i64 n] W' fun e w' => ∃ N u xs, e = .returned (.agg #[.int .i64 N, u]) ∧ Sl 0 3 w' u (ints xs) ∧ Below W'.heap.size W' w') := fun W' h =>
    matroidFrom_any n kind raw _ W' ((HV.out W' h).1.more h.size) hr hll hk hn1 hn7
  have a1 : IntKind.i64.wrap (1 + (pf : Int)) = (n : Int) := by
    rw [show (1 + (pf : Int)) = (n : Int) by omega]; exact wrap_small (by omega)
  clear hv hT hr hpf hl40 hn
  go_enter Tryd.func4, Tryd.ntmps4
  go_wp2_with fail
  refine (HP1.out w).mono ?_
  rintro e w1 ⟨rfl, hw1⟩
  subst hw1
  go_wp2
  go_loopw [7, 8] (fun x i wq => ∃ (j : Nat) (r : List Int), j ≤ n ∧ i = .int .i64 j ∧ r.length = j ∧ wq.ownsRow w1.heap.size 3 1 x j (ints r) ∧ Below w1.heap.size w1 wq) (fun _ i _ => n - (intOf i).toNat)
  case atStart => exact ⟨0, [], Nat.zero_le _, rfl, rfl, World.ownsRow_nil _ _ _ _, Below.refl _ _⟩
  case round =>
    obtain ⟨j, r, hj, rfl, hrl, hown, hbel⟩ := hrel
    obtain ⟨wb, rfl⟩ : ∃ wb, wb = wr := ⟨wr, rfl⟩
    have HO : Hid (wb.ownsRow w1.heap.size 3 1 u7 j (ints r)) := hown
    have HBq : Hid (Below w1.heap.size w1 wb) := hbel
    have HRL : Hid (r.length = j) := hrl
    have hszq : w1.heap.size ≤ wb.heap.size := hbel.size
    clear hown hbel hrl
    obtain ⟨xo, xc, hxv⟩ := owns_form HO.out
    subst hxv
    by_cases hjl : j < n
    · have hjI : (j : Int) < (n : Int) := by omega
      have HIX : Hid ((40 : Int) + j = ((40 + j : Nat) : Int)) := by
        show _ = _
        omega
      go_wp2_with fail
      rw [HIX.out]
      refine (HRW.out wb (40 + j) HBq.out (by omega)).mono ?_
      rintro e w5 ⟨z5, rfl, hz5, hb5⟩
      have HB5 : Hid (Below wb.heap.size wb w5) := hb5
      have HC : Hid (In64 z5) := ⟨by have := hz5.1; omega, by have := hz5.2; omega⟩
      clear hz5 hb5 HIX
      go_wp2_with fail
      refine (pick_any z5 9 w5 (by omega) (by omega) HC.out).mono ?_
      rintro e w6 ⟨z, rfl, hz, rfl⟩
      have hz1 := hz.1
      have hz2 := hz.2
      have HO1 : Hid (w6.ownsRow w1.heap.size 3 1 (.slice xo j xc) j (ints r)) := owns_below HO.out HB5.out (Nat.le_refl _)
      have HBq1 : Hid (Below w1.heap.size w1 w6) := HBq.out.trans (HB5.out.mono hszq)
      have hsz2 : w1.heap.size ≤ w6.heap.size := Nat.le_trans hszq HB5.out.size
      clear hz HO HBq HB5 HC
      go_wp2_with (first | (at_builtin; refine wpList_append_own _ rfl _ _ 22 rfl w1.heap.size 3 i3 (.int .i64 0) 1 8 Tryd.underlying22 hi3 hz30 hz31 hz32 rfl (by decide) _ _ _ rfl (HO1.out.alloc _) ⟨w6.heap.size, 0, none⟩ 1 1 [.int .i64 (z - 3)] rfl rfl (one_new _ _ _) (one_int _) ?c3 ?c4 ?c5 ?_))
      case c3 => unfold maxLen; omega
      case c4 => omega
      case c5 => simp; omega
      intro v' w7 ho hg _
      have R := owns_push (z := z - 3) (N := j + 1) hsz2 (l := r) (by rw [HRL.out]; exact HO1.out) HBq1.out (by rw [HRL.out]; exact ho) hg (by rw [HRL.out])
      have R1 : Hid (w7.ownsRow w1.heap.size 3 1 v' (j + 1) (ints (r ++ [z - 3]))) := R.1
      have R2 : Hid (Below w1.heap.size w1 w7) := R.2
      clear R ho hg
      go_wp2
      go_roundw
      case rel => exact ⟨j + 1, r ++ [z - 3], by omega, by go_num, by simp [HRL.out], R1.out, R2.out⟩
      case measure => simp [intOf]; omega
    · have hjn : n = j := by omega
      subst hjn
      go_wp2_with fail
      refine (HMF.out wb HBq.out).mono ?_
      rintro e w5 ⟨N, u, xs, rfl, hs5, hb5⟩
      have HB5 : Hid (Below w1.heap.size w1 w5) := HBq.out.trans (hb5.mono hszq)
      have HGR : Hid (Calls Tryd.prog 3 #[.agg #[.int .i64 N, u], .slice xo n xc] w5 fun e w' => e = .returned (.bool true) ∧ Below w5.heap.size w5 w') := matGreedy_any N xs r u _ w5 (hs5.more (Nat.zero_le _)) ((Sl.own (owns_below HO.out hb5 (Nat.le_refl _))).more (Nat.zero_le _)) (HV.out w5 HB5.out).2
      have hsz5 : w1.heap.size ≤ w5.heap.size := HB5.out.size
      clear hs5 hb5 HO HMF HRW HP1
      go_wp2_with fail
      refine HGR.out.mono ?_
      rintro e w6 ⟨rfl, hb6⟩
      have HB6 : Hid (Below w1.heap.size w1 w6) := HB5.out.trans (hb6.mono hsz5)
      clear hb6
      go_wp2
      go_ret
      exact ⟨rfl, HB6.out⟩

end Go.Proofs.YtkimhomkeneddaaDoor
