/- TopRado: that bases exchange, by what makes a whole; and what a set weighs. -/
import Derived.Test.YtkndimmcndfnnaaDoorRd1
namespace Go.Proofs.YtkndimmcndfnnaaDoor
open Go.RowKit
attribute [local go_sem ↓] Go.wp_at_zero Go.wp_at_succ

theorem sub_num : ∀ A, A < 256 → ∀ x, x < 8 → A.testBit x = true → outN A (2 ^ x) + 2 ^ x = A := by decide +kernel

theorem out1_bit (A x i : Nat) : (outN A (2 ^ x)).testBit i = (A.testBit i && !decide (x = i)) := by
  rw [outN_bit, Nat.testBit_two_pow]

/-- For all bases and each thing of the first. -/
def AllY (bs : List Int) : Prop := ∀ A B x : Nat, (A : Int) ∈ bs → (B : Int) ∈ bs → A.testBit x = true → HasY bs (outN A (2 ^ x)) B

theorem out1_or {A x : Nat} (h : A.testBit x = true) : outN A (2 ^ x) ||| 2 ^ x = A := Nat.eq_of_testBit_eq fun i => by
  rw [or_bit, out1_bit]
  by_cases e : x = i
  · subst e; simp [h]
  · simp [e]

theorem exB_iff {bs : List Int} (h8 : B8 bs) : exB bs = true ↔ AllY bs := by
  have hn : ∀ z ∈ bs, ∃ y : Nat, z = (y : Int) ∧ y < 256 := fun z hz => by
    obtain ⟨h1, h2⟩ := h8 z hz
    exact ⟨z.toNat, by omega, by omega⟩
  have b8 : ∀ {A x : Nat}, (A : Int) ∈ bs → A.testBit x = true → x < 8 := fun {A x} hA hx => by
    obtain ⟨_, h2⟩ := h8 _ hA
    exact bit_lt (n := 8) (by omega) hx
  unfold exB
  rw [List.all_eq_true]
  constructor
  · intro h A B x hA hB hx
    by_cases hxB : B.testBit x = true
    · exact ⟨x, hxB, by rw [out1_bit]; simp, by rw [out1_or hx]; exact hA⟩
    · have h1 := List.all_eq_true.1 (h _ hA) _ hB
      unfold gvB at h1
      rw [Int.toNat_natCast, Int.toNat_natCast] at h1
      have h2 := List.all_eq_true.1 h1 (x : Int) (mem8_iff.2 ⟨x, b8 hA hx, by rw [outN_bit, hx]; simpa using hxB, rfl⟩)
      unfold stB at h2
      obtain ⟨z, hz, hc⟩ := List.any_eq_true.1 h2
      obtain ⟨y, hy8, hyb, rfl⟩ := mem8_iff.1 hz
      rw [outN_bit, Bool.and_eq_true, Bool.not_eq_true'] at hyb
      rw [Int.toNat_natCast, Int.toNat_natCast, List.contains_iff_mem] at hc
      exact ⟨y, hyb.1, by rw [out1_bit, hyb.2]; rfl, hc⟩
  · intro h z hz
    obtain ⟨A, rfl, _⟩ := hn z hz
    rw [List.all_eq_true]
    intro z2 hz2
    obtain ⟨B, rfl, _⟩ := hn z2 hz2
    unfold gvB
    rw [Int.toNat_natCast, Int.toNat_natCast, List.all_eq_true]
    intro t ht
    obtain ⟨x, hx8, hxb, rfl⟩ := mem8_iff.1 ht
    rw [outN_bit, Bool.and_eq_true, Bool.not_eq_true'] at hxb
    obtain ⟨y, k1, k2, k3⟩ := h A B x hz hz2 hxb.1
    have hne : ¬ x = y := fun e => by subst e; rw [hxb.2] at k1; cases k1
    have hyA : A.testBit y = false := by
      rw [out1_bit] at k2
      simpa [hne] using k2
    unfold stB
    rw [List.any_eq_true]
    refine ⟨(y : Int), mem8_iff.2 ⟨y, b8 hz2 k1, by rw [outN_bit, k1, hyA]; rfl, rfl⟩, ?_⟩
    rw [Int.toNat_natCast, Int.toNat_natCast, List.contains_iff_mem]
    exact k3

theorem bit_eq1 (s k : Nat) : (((s : Int) / 2 ^ k).tmod 2 == 1) = s.testBit k := by
  have eq0 : (s : Int) / 2 ^ k = ((s / 2 ^ k : Nat) : Int) := by simp
  rw [Nat.testBit_eq_decide_div_mod_eq, eq0]
  generalize s / 2 ^ k = q
  have e : (q : Int).tmod 2 = ((q % 2 : Nat) : Int) := by rw [Int.tmod_eq_emod_of_nonneg (by omega)]; omega
  rw [e, Bool.eq_iff_iff, beq_iff_eq, decide_eq_true_eq]
  omega

theorem bit_eq0 (s k : Nat) : (((s : Int) / 2 ^ k).tmod 2 == 0) = !s.testBit k := by
  have eq0 : (s : Int) / 2 ^ k = ((s / 2 ^ k : Nat) : Int) := by simp
  rw [Nat.testBit_eq_decide_div_mod_eq, eq0]
  generalize s / 2 ^ k = q
  have e : (q : Int).tmod 2 = ((q % 2 : Nat) : Int) := by rw [Int.tmod_eq_emod_of_nonneg (by omega)]; omega
  rw [e, Bool.eq_iff_iff, beq_iff_eq, Bool.not_eq_true', decide_eq_false_iff_not]
  omega

set_option maxRecDepth 100000 in
set_option maxHeartbeats 800000 in
theorem weigh_any (ws : List Int) (s : Nat) (v : Value) (w : World) (hv : Sl w.heap.size 3 w v (ints ws)) (hs : s < 256) (hsl : ∀ i, s.testBit i = true → i < ws.length) (hb : ∀ i : Nat, 0 ≤ ws.getD i 0 ∧ ws.getD i 0 ≤ 1000) :
    Calls Tryd.prog 9 #[v, .int .i64 s] w fun e w' => e = .returned (.int .i64 (wgh ws s)) ∧ Below w.heap.size w w' := by
  obtain ⟨ao, cap, hvv, hlc, hcm⟩ := sl_open hv
  subst hvv
  have HM : Hid (Calls Tryd.prog 19 #[.int .i64 s] w fun e w' => ∃ uo uc, e = .returned (.slice uo (mem8 s).length uc) ∧ Sl 0 3 w' (.slice uo (mem8 s).length uc) (ints (mem8 s)) ∧ Below w.heap.size w w') := (members8_any s w hs).mono (by
    rintro e w' ⟨u, rfl, h1, h2⟩
    obtain ⟨uo, uc, rfl⟩ := owns_form h1
    exact ⟨uo, uc, rfl, Sl.own h1, h2⟩)
  have HV : Hid (∀ W', Below w.heap.size w W' → Sl w.heap.size 3 W' (.slice ao ws.length cap) (ints ws)) := fun W' h => hv.below h (Nat.le_refl _)
  have HR : Hid (wgh ws s = ((mem8 s).map fun x : Int => ws.getD x.toNat 0).sum) := (wgh_mem8 ws s).symm
  have HI : Hid (∀ z ∈ mem8 s, ∃ i : Nat, z = (i : Int) ∧ i < ws.length) := fun z hz => by
    obtain ⟨i, _, h2, rfl⟩ := mem8_iff.1 hz
    exact ⟨i, rfl, hsl i h2⟩
  have HBD : Hid (∀ i : Nat, 0 ≤ ws.getD i 0 ∧ ws.getD i 0 ≤ 1000) := hb
  have hml := mem8_len s
  generalize wgh ws s = R at *
  generalize mem8 s = M at *
  clear hv hs hsl hb
  go_enter Tryd.func9, Tryd.ntmps9
  go_wp2_with fail
  refine HM.out.mono ?_
  rintro e w1 ⟨uo, uc, rfl, hs1, hb1⟩
  have HS1 : Hid (Sl 0 3 w1 (.slice uo M.length uc) (ints M)) := hs1
  have HB1 : Hid (Below w.heap.size w w1) := hb1
  have HV1 : Hid (Sl w.heap.size 3 w1 (.slice ao ws.length cap) (ints ws)) := HV.out w1 hb1
  clear hs1 hb1 HM
  go_wp2
  go_loopw [5, 7] (fun nv i wr => ∃ k : Nat, k ≤ M.length ∧ i = .int .i64 k ∧ nv = .int .i64 ((M.take k).map fun x : Int => ws.getD x.toNat 0).sum ∧ 0 ≤ ((M.take k).map fun x : Int => ws.getD x.toNat 0).sum ∧ ((M.take k).map fun x : Int => ws.getD x.toNat 0).sum ≤ 1000 * k ∧ wr = w1) (fun _ i _ => M.length - (intOf i).toNat)
  case atStart => exact ⟨0, Nat.zero_le _, rfl, by simp, by simp, by simp, rfl⟩
  case round =>
    obtain ⟨k, hk, rfl, rfl, hl0, hl1, rfl⟩ := hrel
    by_cases hlt : k < M.length
    · obtain ⟨mb, mq, _, hs, _, hcm1⟩ := sl_cell HS1.out hlt
      simp only [Value.slice.injEq] at hs
      obtain ⟨rfl, -, -⟩ := hs
      obtain ⟨i, hi, hil⟩ := HI.out (M.getD k 0) (by simp [hlt])
      obtain ⟨wb, wq, _, hs, _, hcw⟩ := sl_cell HV1.out hil
      simp only [Value.slice.injEq] at hs
      obtain ⟨rfl, -, -⟩ := hs
      have HNX : Hid (((M.take (k + 1)).map fun x : Int => ws.getD x.toNat 0).sum = ((M.take k).map fun x : Int => ws.getD x.toNat 0).sum + ws.getD i 0) := by
        have e : M[k] = (i : Int) := by rw [← hi]; simp [hlt]
        show _ = _
        rw [List.take_succ_eq_append_getElem hlt, List.map_append, List.sum_append, e]
        simp
      have hbd := HBD.out i
      rw [hi] at hcm1
      clear hi
      generalize ((M.take k).map fun x : Int => ws.getD x.toNat 0).sum = N at *
      generalize ws.getD i 0 = Y at *
      have q1 : IntKind.i64.wrap (N + Y) = N + Y := by
        rw [IntWalk.i64_left]
        exact IntWalk.wrap64_in _ ⟨by omega, by omega⟩
      have kI : (k : Int) < (M.length : Int) := by omega
      have kI0 : (0 : Int) ≤ (k : Int) := by omega
      have iI : (i : Int) < (ws.length : Int) := by omega
      have iI0 : (0 : Int) ≤ (i : Int) := by omega
      go_wp2
      exact ⟨⟨k + 1, by omega, by go_num, by rw [HNX.out], by rw [HNX.out]; omega, by rw [HNX.out]; omega, trivial⟩, by simp [intOf]; omega⟩
    · have hke : k = M.length := by omega
      subst hke
      have HE : Hid (((M.take M.length).map fun x : Int => ws.getD x.toNat 0).sum = R) := by
        show _ = _
        rw [List.take_length, HR.out]
      generalize ((M.take M.length).map fun x : Int => ws.getD x.toNat 0).sum = N at *
      go_wp2
      go_ret
      exact ⟨by rw [HE.out]; rfl, HB1.out⟩

end Go.Proofs.YtkndimmcndfnnaaDoor
