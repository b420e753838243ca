/- check.Within: a list of so many numbers, none of them below the least or above the most. -/
import Derived.Test.YtdmkmljhljoojaaMgAA
import Derived.Test.YtdmkmljhljoojaaRefs2
namespace Go.Proofs.Ytdmkmljhljoojaa
open Go.RowKit
attribute [local go_sem ↓] Go.wp_at_zero Go.wp_at_succ

def outB (lo hi x : Int) : Bool := decide (x < lo) || decide (hi < x)

set_option maxHeartbeats 400000 in
theorem out1_any (x lo hi : Int) (w : World) (a b : Addr) (hc : w.cell? a = some (.int .i64 lo)) (hd : w.cell? b = some (.int .i64 hi)) :
    Calls Try.prog 55 #[.int .i64 x, .pointer (some a), .pointer (some b)] w fun e w' => e = .returned (.bool (outB lo hi x)) ∧ w' = w := by
  by_cases hb : x < lo
  · go_enter Try.func55, Try.ntmps55
    go_wp2
    go_ret
    exact ⟨ret_bool (by simp [outB, hb]), rfl⟩
  · go_enter Try.func55, Try.ntmps55
    go_wp2
    go_ret
    exact ⟨ret_bool (by rw [outB, decide_eq_false (by omega : ¬ x < lo)]; rfl), rfl⟩

set_option maxHeartbeats 400000 in
theorem indexW_any (B : Nat) (lo hi : Int) (zs : List Int) (v : Value) (a b : Addr) (w : World) (hv : Sl B 3 w v (ints zs)) (hc : w.cell? a = some (.int .i64 lo)) (hd : w.cell? b = some (.int .i64 hi)) :
    Calls Try.prog 58 #[v, .func (.func 55) #[] #[.pointer (some a), .pointer (some b)]] w fun e w' => e = .returned (.int .i64 (findI (outB lo hi) zs)) ∧ w' = w := by
  obtain ⟨ao, cap, hvv, hlc, hcm⟩ := sl_open hv
  subst hvv
  have HV : Hid (Sl B 3 w (.slice ao zs.length cap) (ints zs)) := hv
  have HIL : Hid (∀ x, Calls Try.prog 55 #[.int .i64 x, .pointer (some a), .pointer (some b)] w fun e w' => e = .returned (.bool (outB lo hi x)) ∧ w' = w) := fun x => out1_any x lo hi w a b hc hd
  clear hv hc hd
  go_enter Try.func58, Try.ntmps58
  go_wp2
  go_loop [8] (fun i => ∃ k : Nat, k ≤ zs.length ∧ i = .int .i64 k ∧ (zs.take k).any (outB lo hi) = false) (fun i => zs.length - (intOf i).toNat)
  case atStart => exact ⟨0, Nat.zero_le _, rfl, by simp⟩
  case round =>
    obtain ⟨k, hk, rfl, hno⟩ := hrel
    have HN : Hid ((zs.take k).any (outB lo hi) = false) := hno
    clear hno
    by_cases hlt : k < zs.length
    · obtain ⟨b', o, cp, hs, hc1, hcc⟩ := sl_cell HV.out hlt
      simp only [Value.slice.injEq] at hs
      obtain ⟨rfl, _, rfl⟩ := hs
      have HS1 : Hid ((zs.take (k + 1)).any (outB lo hi) = outB lo hi zs[k]) := any_snoc (p := outB lo hi) hlt HN.out
      have HH : Hid (outB lo hi zs[k] = true → findI (outB lo hi) zs = k) := fun h => findI_hit (p := outB lo hi) hlt HN.out h
      rw [show zs.getD k 0 = zs[k] by simp [hlt]] at hcc
      generalize zs[k] = x at *
      have HIX : Hid (Calls Try.prog 55 #[.int .i64 x, .pointer (some a), .pointer (some b)] w fun e w' => e = .returned (.bool (outB lo hi x)) ∧ w' = w) := HIL.out x
      generalize outB lo hi x = fb at *
      cases fb
      · go_wp2_with (go_at_call 55; refine HIX.out.mono ?_; rintro e w' ⟨rfl, rfl⟩)
        go_round
        case rel => exact ⟨k + 1, by omega, by go_num, HS1.out⟩
        case measure => simp [intOf]; omega
      · have HH2 : Hid (findI (outB lo hi) zs = k) := HH.out rfl
        clear HH
        go_wp2_with (go_at_call 55; refine HIX.out.mono ?_; rintro e w' ⟨rfl, rfl⟩)
        go_ret
        exact ⟨ret_int HH2.out.symm, rfl⟩
    · have e : zs.take k = zs := List.take_of_length_le (by omega)
      rw [e] at HN
      have HF : Hid (findI (outB lo hi) zs = -1) := findI_none HN.out
      go_wp2
      go_ret
      exact ⟨ret_int HF.out.symm, rfl⟩

set_option maxRecDepth 100000 in
theorem containsW_any (B : Nat) (lo hi : Int) (zs : List Int) (v : Value) (a b : Addr) (w : World) (hv : Sl B 3 w v (ints zs)) (hc : w.cell? a = some (.int .i64 lo)) (hd : w.cell? b = some (.int .i64 hi)) :
    Calls Try.prog 54 #[v, .func (.func 55) #[] #[.pointer (some a), .pointer (some b)]] w fun e w' => e = .returned (.bool (zs.any (outB lo hi))) ∧ w' = w := by
  have HII := indexW_any B lo hi zs v a b w hv hc hd
  go_enter Try.func54, Try.ntmps54
  go_wp2_with fail
  refine HII.mono ?_
  rintro e w' ⟨rfl, rfl⟩
  go_wp2
  go_ret
  exact ⟨ret_bool findI_ge, rfl⟩

def withE (c : Nat) (lo hi : Int) (r : List Int) : Int := if r.length ≠ c then 3 else if r.any (outB lo hi) then 4 else 0

set_option maxRecDepth 100000 in
set_option maxHeartbeats 400000 in
theorem within_any (B : Nat) (c : Nat) (lo hi : Int) (r : List Int) (v : Value) (w : World) (hv : Sl B 3 w v (ints r)) :
    Calls Try.prog 46 #[v, .int .i64 c, .int .i64 lo, .int .i64 hi] w fun e w' => e = .returned (.int .i64 (withE c lo hi r)) ∧ Below w.heap.size w w' := by
  obtain ⟨ao, cap, hvv, hlc, hcm⟩ := sl_open hv
  subst hvv
  have HV : Hid (Sl B 3 w (.slice ao r.length cap) (ints r)) := hv
  clear hv
  by_cases hl : r.length = c
  · have b0 : ((r.length : Int) != (c : Int)) = false := by rw [bne_eq_false_iff_eq]; omega
    rw [withE, if_neg (by omega)]
    clear hl
    obtain ⟨w1, hw1⟩ : ∃ w1, w1 = (w.alloc (.cells #[.int .i64 lo] 3)).alloc (.cells #[.int .i64 hi] 3) := ⟨_, rfl⟩
    have HA : Hid (Calls Try.prog 54 #[.slice ao r.length cap, .func (.func 55) #[] #[.pointer (some ⟨w.heap.size, 0, none⟩), .pointer (some ⟨w.heap.size + 1, 0, none⟩)]] w1 fun e w' => e = .returned (.bool (r.any (outB lo hi))) ∧ w' = w1) := by
      subst hw1
      exact containsW_any B lo hi r _ _ _ _ ((HV.out.alloc _).alloc _) (by simp) (by simp)
    have HBB : Hid (Below w.heap.size w w1) := by
      subst hw1
      exact ((Below.refl _ _).alloc (Nat.le_refl _) _).alloc (by simp) _
    generalize r.any (outB lo hi) = R at *
    go_enter Try.func46, Try.ntmps46
    go_wp2_with fail
    try rw [← hw1]
    refine HA.out.mono ?_
    rintro e w' ⟨rfl, rfl⟩
    cases R
    · go_wp2
      go_ret
      exact ⟨rfl, by have := HBB.out; rw [hw1] at this; exact this⟩
    · go_wp2
      go_ret
      exact ⟨rfl, by have := HBB.out; rw [hw1] at this; exact this⟩
  · have b0 : ((r.length : Int) != (c : Int)) = true := by rw [bne_iff_ne]; omega
    rw [withE, if_pos hl]
    clear hl
    go_enter Try.func46, Try.ntmps46
    go_wp2
    go_ret
    exact ⟨rfl, ((Below.refl _ _).alloc (Nat.le_refl _) _).alloc (by simp) _⟩

theorem outB_far (most : Int) : outB (-most) most = (farB · most) := by
  funext x
  rw [Bool.eq_iff_iff]
  simp [outB, farB, Bool.or_comm]

set_option maxRecDepth 100000 in
set_option maxHeartbeats 400000 in
theorem chkL_any (B : Nat) (c : Nat) (most : Int) (r : List Int) (v : Value) (w : World) (hv : Sl B 3 w v (ints r)) (h0 : 0 ≤ most) (h1 : most ≤ 1000000) :
    Calls Try.prog 39 #[v, .int .i64 c, .int .i64 most] w fun e w' => e = .returned (.int .i64 (if r.length ≠ c then 3 else if r.any (farB · most) then 4 else 0)) ∧ Below w.heap.size w w' := by
  have HA : Hid (Calls Try.prog 46 #[v, .int .i64 c, .int .i64 (-most), .int .i64 most] w fun e w' => e = .returned (.int .i64 (if r.length ≠ c then 3 else if r.any (farB · most) then 4 else 0)) ∧ Below w.heap.size w w') := by
    have := within_any B c (-most) most r v w hv
    rw [withE, outB_far] at this
    exact this
  generalize (if r.length ≠ c then (3 : Int) else if r.any (farB · most) then 4 else 0) = R at *
  go_enter Try.func39, Try.ntmps39
  go_wp2_with fail
  refine HA.out.mono ?_
  rintro e w' ⟨rfl, hb⟩
  have HB : Hid (Below w.heap.size w w') := hb
  clear hb
  go_wp2
  go_ret
  exact ⟨rfl, HB.out⟩

end Go.Proofs.Ytdmkmljhljoojaa
