/- tropic.At; how two roots are compared. -/
import Derived.Test.YtmkbijclbogjhaaTr1
import Derived.Test.YtmkbijclbogjhaaHv1
import Derived.Laws.StructEq
namespace Go.Proofs.Ytmkbijclbogjhaa
open Go.RowKit
attribute [local go_sem ↓] Go.wp_at_zero Go.wp_at_succ

theorem met_eq (a b c : Int) (w : World) : (binOp .neq 30 (.agg #[.int .i64 a, .int .i64 b, .int .i64 c]) (.agg #[.int .i64 a, .int .i64 b, .int .i64 c])).run Try.prog w = .ok (.bool false) w := by
  have u3 := Try.underlying3
  have a3 := Try.isAgg3
  have z3 := Try.sizeOf3
  have hS : Try.prog.underlying 30 = some (.struct (Try.prog.fieldsOf 30)) := by kernel_rfl
  have hp : Try.prog.stoodInHeld 30 = false := by kernel_rfl
  rw [run_neq_struct, show (10000 : Nat) = 9999 + 1 from rfl, run_equalIn_agg w 9999 30 _ _ hS hp]
  simp only [Program.fieldsOf, Try.underlying30]
  go_simp

/-- What At answers. -/
def atE (l : List Int) (x : Int) : Int := if listTE l ≠ 0 then listTE l else if farB x 10000 then 9 else 0

def atV (l : List Int) (x : Int) : Int := if atE l x = 0 then minL (tmL l x 1) else 0

theorem one_sl {w : World} {a : Int} : Sl 0 3 (w.alloc (.cells #[.int .i64 a] 3)) (.slice (some ⟨w.heap.size, 0, none⟩) 1 1) (ints [a]) := by
  refine ⟨some ⟨w.heap.size, 0, none⟩, 1, rfl, by simp [ints], by simp [maxLen], fun i hi => ⟨w.heap.size, 0, rfl, ?_, .inr ⟨_, heap_alloc_new w _⟩⟩, fun e => by cases e⟩
  rw [Nat.zero_add]
  simp only [World.cell?, heap_alloc_new]
  match i, hi with
  | 0, _ => rfl

set_option maxRecDepth 100000 in
set_option maxHeartbeats 800000 in
theorem at_any (B : Nat) (l : List Int) (x : Int) (v : Value) (w : World) (hv : Sl B 3 w v (ints l)) (hB : B ≤ w.heap.size) :
    Calls Try.prog 9 #[v, .int .i64 x] w fun e w' => e = .returned (.tuple #[.int .i64 (atV l x), .int .i64 (atE l x)]) ∧ Below w.heap.size w w' := by
  obtain ⟨ao, cap, hvv, hlc, hcm⟩ := sl_open hv
  subst hvv
  have HV : Hid (∀ W', Below w.heap.size w W' → Sl B 3 W' (.slice ao l.length cap) (ints l)) := fun W' h => hv.below h (Nat.le_refl _)
  have HC : Hid (Calls Try.prog 7 #[.slice ao l.length cap] w fun e w' => e = .returned (.int .i64 (listTE l)) ∧ Below w.heap.size w w') := checkT_any B l _ w hv
  have HAB : Hid (∀ W' : World, Calls Try.prog 18 #[.slice (some ⟨W'.heap.size, 0, none⟩) 1 1, .int .i64 10000] (W'.alloc (.cells #[.int .i64 x] 3)) fun e w' => e = .returned (.bool (farB x 10000)) ∧ Below (W'.heap.size + 1) (W'.alloc (.cells #[.int .i64 x] 3)) w') := fun W' => by
    have h := anyBeyond_any 0 [x] _ 10000 (W'.alloc (.cells #[.int .i64 x] 3)) one_sl (by decide) (by decide)
    simpa using h
  clear hv
  by_cases h0 : listTE l = 0
  · have hL := list_okT h0
    have HL : Hid (Lst l) := hL
    rw [h0] at HC
    have HE : Hid (atE l x = if farB x 10000 then 9 else 0) := if_neg (by rw [h0]; simp)
    have HTM : Hid ((-20000 ≤ x ∧ x ≤ 20000) → ∀ W', Below w.heap.size w W' → Calls Try.prog 20 #[.slice ao l.length cap, .int .i64 x, .int .i64 1] W' fun e w' => ∃ u, e = .returned u ∧ w'.ownsRow W'.heap.size 3 1 u l.length (ints (tmL l x 1)) ∧ Below W'.heap.size W' w') := fun hx W' h =>
      terms_any B l x 1 _ W' HL.out (HV.out W' h) (Nat.le_trans hB h.size) (by decide) hx
    have hn1 := hL.n1
    clear h0 hL
    go_enter Try.func9, Try.ntmps9
    go_wp2_with fail
    refine HC.out.mono ?_
    rintro e w1 ⟨rfl, hb1⟩
    have HB1 : Hid (Below w.heap.size w w1) := hb1
    clear hb1
    go_wp2_with fail
    refine (HAB.out w1).mono ?_
    rintro e w2 ⟨rfl, hb2⟩
    have HB2 : Hid (Below w.heap.size w w2) := HB1.out.trans (((Below.refl _ _).alloc (Nat.le_refl _) _ : Below w1.heap.size w1 _).mono HB1.out.size |>.trans (hb2.mono (by have := HB1.out.size; omega)))
    clear hb2
    cases hf : farB x 10000 with
    | true =>
      have HE2 : Hid (atE l x = 9) := by show _ = _; rw [HE.out, hf]; rfl
      have HV2 : Hid (atV l x = 0) := by show _ = _; unfold atV; rw [HE2.out]; rfl
      clear hf
      go_wp2
      exact bodyPost_ret (v := .tuple #[.int .i64 0, .int .i64 9]) (by simp [results, Try.results9, go_sem]) rfl ⟨by rw [HE2.out, HV2.out], HB2.out⟩
    | false =>
      have HE2 : Hid (atE l x = 0) := by show _ = _; rw [HE.out, hf]; rfl
      have HV2 : Hid (atV l x = minL (tmL l x 1)) := if_pos HE2.out
      have hx : -20000 ≤ x ∧ x ≤ 20000 := by
        unfold farB at hf
        have : ¬ (10000 < x) ∧ ¬ (x < -10000) := by simpa using hf
        omega
      have HT2 : Hid (Calls Try.prog 20 #[.slice ao l.length cap, .int .i64 x, .int .i64 1] w2 fun e w' => ∃ u, e = .returned u ∧ w'.ownsRow w2.heap.size 3 1 u l.length (ints (tmL l x 1)) ∧ Below w2.heap.size w2 w') := HTM.out hx w2 HB2.out
      clear hf hx
      go_wp2_with fail
      refine HT2.out.mono ?_
      rintro e w3 ⟨u, rfl, hu, hb3⟩
      have HB3 : Hid (Below w.heap.size w w3) := HB2.out.trans (hb3.mono HB2.out.size)
      have HMN : Hid (Calls Try.prog 19 #[u] w3 fun e w' => e = .returned (.int .i64 (minL (tmL l x 1))) ∧ w' = w3) := minT_any 0 (tmL l x 1) u w3 (Sl.own hu) (by rw [tmL_len]; omega)
      obtain ⟨uo, uc, huv⟩ := owns_form hu
      subst huv
      clear hu hb3
      go_wp2_with fail
      refine HMN.out.mono ?_
      rintro e w4 ⟨rfl, hw4⟩
      rw [hw4]
      clear hw4
      go_wp2
      exact bodyPost_ret (v := .tuple #[.int .i64 (minL (tmL l x 1)), .int .i64 0]) (by simp [results, Try.results9, go_sem]) rfl ⟨by rw [HE2.out, HV2.out], HB3.out⟩
  · have HE : Hid (atE l x = listTE l) := if_pos h0
    have HV2 : Hid (atV l x = 0) := by show _ = _; unfold atV; rw [HE.out, if_neg h0]
    have hb : (listTE l != 0) = true := by simp [h0]
    clear h0
    generalize listTE l = E at *
    go_enter Try.func9, Try.ntmps9
    go_wp2_with fail
    refine HC.out.mono ?_
    rintro e w1 ⟨rfl, hb1⟩
    have HB1 : Hid (Below w.heap.size w w1) := hb1
    clear hb1
    go_wp2
    exact bodyPost_ret (v := .tuple #[.int .i64 0, .int .i64 E]) (by simp [results, Try.results9, go_sem]) rfl ⟨by rw [HE.out, HV2.out], HB1.out⟩

end Go.Proofs.Ytmkbijclbogjhaa
