/- matroid.givesAll: each thing of a set that another has not can be given for one of it. -/
import Derived.Test.YtkimhomkeneddaaDoorMt2
namespace Go.Proofs.YtkimhomkeneddaaDoor
open Go.RowKit
attribute [local go_sem ↓] Go.wp_at_zero Go.wp_at_succ

/-- A set with one thing given for another. -/
def swp (a x y : Nat) : Nat := outN a (2 ^ x) ||| 2 ^ y

theorem outN_le (a b : Nat) : outN a b ≤ a := by
  unfold outN
  refine Nat.le_of_testBit fun i => ?_
  rw [Nat.testBit_xor, Nat.testBit_and]
  cases a.testBit i <;> simp

theorem swp_lt {a x y : Nat} (ha : a < 256) (hy : y < 8) : swp a x y < 256 := by
  unfold swp
  exact Nat.or_lt_two_pow (n := 8) (Nat.lt_of_le_of_lt (outN_le _ _) ha) (Nat.pow_lt_pow_right (by omega) hy)

set_option maxRecDepth 100000 in
set_option maxHeartbeats 800000 in
theorem stand_any (B : Nat) (bs : List Int) (a x y : Nat) (v : Value) (p1 p2 p3 : Addr) (w : World) (hv : Sl B 3 w v (ints bs)) (hr : Ris bs) (hl : bs.length ≤ 1000000) (ha : a < 256) (hx : x < 8) (hy : y < 8)
    (h1 : w.cell? p1 = some v) (h2 : w.cell? p2 = some (.int .u64 a)) (h3 : w.cell? p3 = some (.int .i64 x)) :
    Calls Tryd.prog 46 #[.int .i64 y, .pointer (some p1), .pointer (some p2), .pointer (some p3)] w fun e w' => e = .returned (.bool (bs.contains (swp a x y : Int))) ∧ ∃ n, w' = w.drewN n := by
  obtain ⟨ao, cap, hvv, hlc, hcm⟩ := sl_open hv
  subst hvv
  have hpx : 2 ^ x < 256 := Nat.pow_lt_pow_right (n := 8) (by omega) hx
  have hpy : 2 ^ y < 256 := Nat.pow_lt_pow_right (n := 8) (by omega) hy
  have HBS : Hid (∀ q, Calls Tryd.prog 47 #[.slice ao bs.length cap, .int .i64 (swp a x y)] (w.drewN q) fun e w' => e = .returned (.tuple #[.int .i64 (bsI bs (swp a x y)), .bool (bs.contains (swp a x y : Int))]) ∧ w' = w.drewN q) := fun q => binS_any B bs _ _ _ (hv.drewN q) hr hl
  have HO1 : Hid (∀ q, Calls Tryd.prog 18 #[.int .i64 x] (w.drewN q) fun e w' => e = .returned (.int .u64 ((2 ^ x : Nat) : Int)) ∧ w' = w.drewN q) := fun q => by
    have := one_any (x : Int) (w.drewN q) (by omega) (by omega)
    rw [Int.toNat_natCast] at this
    exact this
  have HO2 : Hid (∀ q, Calls Tryd.prog 18 #[.int .i64 y] (w.drewN q) fun e w' => e = .returned (.int .u64 ((2 ^ y : Nat) : Int)) ∧ w' = w.drewN q) := fun q => by
    have := one_any (y : Int) (w.drewN q) (by omega) (by omega)
    rw [Int.toNat_natCast] at this
    exact this
  have e1 : bits .andNot .u64 (a : Int) ((2 ^ x : Nat) : Int) = ((outN a (2 ^ x) : Nat) : Int) := bits_andNot_u64_nat a _ (by omega) (by omega)
  have e2 : bits .or .u64 ((outN a (2 ^ x) : Nat) : Int) ((2 ^ y : Nat) : Int) = ((swp a x y : Nat) : Int) := bits_or_u64_nat _ _ (by have := outN_le a (2 ^ x); omega) (by omega)
  have e3 := swp_lt (x := x) ha hy
  clear hv hr
  generalize hsw : swp a x y = S at *
  generalize outN a (2 ^ x) = T at *
  generalize 2 ^ x = X at *
  generalize 2 ^ y = Y at *
  clear hsw
  generalize bs.contains (S : Int) = C at *
  go_enter Tryd.func46, Tryd.ntmps46
  go_wp2_with fail
  go_big_quiet (first | (go_at_call 47; exact Calls.quiet_of_same (w := w) (HBS.out _)) | (go_at_call 18; first | exact Calls.quiet_of_same (w := w) (HO1.out _) | exact Calls.quiet_of_same (w := w) (HO2.out _)))
  go_wp2
  go_ret
  exact ⟨rfl, nq, rfl⟩

set_option maxRecDepth 100000 in
set_option maxHeartbeats 400000 in
theorem indexG_any (B : Nat) (p : Int → Bool) (zs : List Int) (v : Value) (p1 p2 p3 : Addr) (w : World) (hv : Sl B 3 w v (ints zs))
    (hc : ∀ x ∈ zs, ∀ q, Calls Tryd.prog 46 #[.int .i64 x, .pointer (some p1), .pointer (some p2), .pointer (some p3)] (w.drewN q) fun e w' => e = .returned (.bool (p x)) ∧ ∃ n, w' = w.drewN n) :
    Calls Tryd.prog 41 #[v, .func (.func 46) #[] #[.pointer (some p1), .pointer (some p2), .pointer (some p3)]] w fun e w' => e = .returned (.int .i64 (findI p zs)) ∧ ∃ n, w' = w.drewN n := by
  obtain ⟨ao, cap, hvv, hlc, hcm⟩ := sl_open hv
  subst hvv
  have HV : Hid (Sl B 3 w (.slice ao zs.length cap) (ints zs)) := hv
  have HIL : Hid (∀ x ∈ zs, ∀ q, Calls Tryd.prog 46 #[.int .i64 x, .pointer (some p1), .pointer (some p2), .pointer (some p3)] (w.drewN q) fun e w' => e = .returned (.bool (p x)) ∧ ∃ n, w' = w.drewN n) := hc
  clear hv hc
  go_enter Tryd.func41, Tryd.ntmps41
  go_wp2
  go_loopw [5, 8] (fun _ i wr => ∃ k : Nat, k ≤ zs.length ∧ i = .int .i64 k ∧ (zs.take k).any p = false ∧ ∃ n, wr = w.drewN n) (fun _ i _ => zs.length - (intOf i).toNat)
  case atStart => exact ⟨0, Nat.zero_le _, rfl, by simp, 0, rfl⟩
  case round =>
    obtain ⟨k, hk, rfl, hno, d, rfl⟩ := hrel
    have HN : Hid ((zs.take k).any p = false) := hno
    clear hno
    by_cases hlt : k < zs.length
    · obtain ⟨b', o, cp, hs, hc1, hcc⟩ := sl_cell HV.out hlt
      simp only [Value.slice.injEq] at hs
      obtain ⟨rfl, _, rfl⟩ := hs
      have HS1 : Hid ((zs.take (k + 1)).any p = p zs[k]) := any_snoc (p := p) hlt HN.out
      have HH : Hid (p zs[k] = true → findI p zs = k) := fun h => findI_hit (p := p) hlt HN.out h
      rw [show zs.getD k 0 = zs[k] by simp [hlt]] at hcc
      have HIX : Hid (Calls Tryd.prog 46 #[.int .i64 zs[k], .pointer (some p1), .pointer (some p2), .pointer (some p3)] (w.drewN d) fun e w' => e = .returned (.bool (p zs[k])) ∧ ∃ n, w' = w.drewN n) := HIL.out _ (List.getElem_mem _) d
      generalize zs[k] = x at *
      generalize p x = fb at *
      have hcc2 : (w.drewN d).cell? ⟨b', o + k, none⟩ = some (.int .i64 x) := hcc
      cases fb
      · go_wp2_with (go_at_call 46; refine HIX.out.mono ?_; rintro e w' ⟨rfl, n, rfl⟩)
        go_roundw
        case rel => exact ⟨k + 1, by omega, by go_num, HS1.out, _, rfl⟩
        case measure => simp [intOf]; omega
      · have HH2 : Hid (findI p zs = k) := HH.out rfl
        clear HH
        go_wp2_with (go_at_call 46; refine HIX.out.mono ?_; rintro e w' ⟨rfl, n, rfl⟩)
        go_ret
        exact ⟨ret_int HH2.out.symm, _, rfl⟩
    · have e : zs.take k = zs := List.take_of_length_le (by omega)
      rw [e] at HN
      have HF : Hid (findI p zs = -1) := findI_none HN.out
      go_wp2
      go_ret
      exact ⟨ret_int HF.out.symm, _, rfl⟩

set_option maxRecDepth 100000 in
theorem containsG_any (B : Nat) (p : Int → Bool) (zs : List Int) (v : Value) (p1 p2 p3 : Addr) (w : World) (hv : Sl B 3 w v (ints zs))
    (hc : ∀ x ∈ zs, ∀ q, Calls Tryd.prog 46 #[.int .i64 x, .pointer (some p1), .pointer (some p2), .pointer (some p3)] (w.drewN q) fun e w' => e = .returned (.bool (p x)) ∧ ∃ n, w' = w.drewN n) :
    Calls Tryd.prog 28 #[v, .func (.func 46) #[] #[.pointer (some p1), .pointer (some p2), .pointer (some p3)]] w fun e w' => e = .returned (.bool (zs.any p)) ∧ ∃ n, w' = w.drewN n := by
  have HII := indexG_any B p zs v p1 p2 p3 w hv hc
  go_enter Tryd.func28, Tryd.ntmps28
  go_wp2_with fail
  refine HII.mono ?_
  rintro e w' ⟨rfl, n, rfl⟩
  go_wp2
  go_ret
  exact ⟨ret_bool findI_ge, n, rfl⟩

end Go.Proofs.YtkimhomkeneddaaDoor
