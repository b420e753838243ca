/- Sets of numbers: set.Of, In, List; the library's bits. -/
import Derived.Test.YtmljnfgfjcjmmaaDatA
import Derived.Test.YtmljnfgfjcjmmaaPnA
import Derived.Test.YtmljnfgfjcjmmaaCycAll
import Derived.Laws.AppendOwnNone
import Derived.Laws.MakeOwn
namespace Go.Proofs.Ytmljnfgfjcjmmaa
open Go.RowKit

theorem setN_one (v : Int) : setN [v] = 2 ^ v.toNat := by simp [setN]

theorem setN_lt' {l : List Int} (h : B64 l) : setN l < 18446744073709551616 := setN_lt l h

theorem setN_snoc (zs : List Int) (k : Nat) (h : k < zs.length) : setN (zs.take (k + 1)) = setN (zs.take k) ||| 2 ^ (zs.getD k 0).toNat := by
  rw [take_snoc_int zs k h, setN_append, setN_one]

theorem B64.take {l : List Int} (h : B64 l) (k : Nat) : B64 (l.take k) := fun x hx => h x (List.mem_of_mem_take hx)

theorem B64.get {l : List Int} (h : B64 l) {k : Nat} (hk : k < l.length) : 0 ≤ l.getD k 0 ∧ l.getD k 0 ≤ 63 := h _ (by simp [hk])

theorem shl_one {z : Int} (h0 : 0 ≤ z) (h63 : z ≤ 63) : IntKind.u64.wrap ((2 : Int) ^ z.toNat) = ((2 ^ z.toNat : Nat) : Int) := by
  have : 2 ^ z.toNat < 2 ^ 64 := Nat.pow_lt_pow_right (by omega) (by omega)
  rw [IntKind.wrap_u64]
  have e : ((2 : Int) ^ z.toNat) = ((2 ^ z.toNat : Nat) : Int) := by simp
  rw [e]
  generalize 2 ^ z.toNat = q at *
  omega

set_option maxRecDepth 100000 in
theorem one_any (z : Int) (w : World) (h0 : 0 ≤ z) (h63 : z ≤ 63) :
    Calls Try.prog 38 #[.int .i64 z] w fun e w' => e = .returned (.int .u64 ((2 ^ z.toNat : Nat) : Int)) ∧ w' = w := by
  have HE : Hid (IntKind.u64.wrap ((2 : Int) ^ z.toNat) = ((2 ^ z.toNat : Nat) : Int)) := shl_one h0 h63
  go_enter Try.func38, Try.ntmps38
  go_wp2
  go_ret
  exact ⟨ret_int HE.out, rfl⟩

set_option maxRecDepth 100000 in
set_option maxHeartbeats 400000 in
theorem setOf_any (B : Nat) (zs : List Int) (v : Value) (w : World) (hv : Sl B 3 w v (ints zs)) (hb : B64 zs) :
    Calls Try.prog 22 #[v] w fun e w' => e = .returned (.int .u64 (setN zs)) ∧ ∃ n, w' = w.drewN n := by
  obtain ⟨ao, cap, hvv, hlc, hcm⟩ := sl_open hv
  subst hvv
  have HV : Hid (Sl B 3 w (.slice ao zs.length cap) (ints zs)) := hv
  have HB : Hid (B64 zs) := hb
  clear hv hb
  go_enter Try.func22, Try.ntmps22
  go_wp2
  go_loopw [3, 8] (fun s i wr => ∃ k : Nat, k ≤ zs.length ∧ i = .int .i64 k ∧ s = .int .u64 (setN (zs.take k)) ∧ ∃ n, wr = w.drewN n) (fun _ i _ => zs.length - (intOf i).toNat)
  case atStart => exact ⟨0, Nat.zero_le _, rfl, rfl, 0, rfl⟩
  case round =>
    obtain ⟨k, hk, rfl, rfl, n, rfl⟩ := hrel
    by_cases hlt : k < zs.length
    · obtain ⟨b, o, cp, hs, hc1, hcc⟩ := sl_cell HV.out hlt
      simp only [Value.slice.injEq] at hs
      obtain ⟨rfl, _, rfl⟩ := hs
      have HSN : Hid (setN (zs.take (k + 1)) = setN (zs.take k) ||| 2 ^ (zs.getD k 0).toNat) := setN_snoc zs k hlt
      obtain ⟨hz0, hz63⟩ := HB.out.get hlt
      have HLT : Hid (setN (zs.take k) < 18446744073709551616) := setN_lt' (HB.out.take k)
      generalize setN (zs.take k) = S at *
      generalize zs.getD k 0 = z at *
      have e2 : bits BinOp.or IntKind.u64 (S : Int) ((2 ^ z.toNat : Nat) : Int) = ((setN (zs.take (k + 1)) : Nat) : Int) := by
        have : 2 ^ z.toNat < 2 ^ 64 := Nat.pow_lt_pow_right (by omega) (by omega)
        rw [bits_or_u64_nat S _ HLT.out (by simpa using this), HSN.out]
      have HON := one_any z (w.drewN n) hz0 hz63
      have HO1 : Hid (Calls Try.prog 38 #[.int .i64 z] (w.drewN n) fun e w' => e = .returned (.int .u64 ((2 ^ z.toNat : Nat) : Int)) ∧ w' = w.drewN n) := HON
      clear HON
      generalize 2 ^ z.toNat = q2 at *
      have HE2 : Hid (bits BinOp.or IntKind.u64 (S : Int) (q2 : Int) = ((setN (zs.take (k + 1)) : Nat) : Int)) := e2
      clear e2 HSN
      go_wp2_with fail
      refine HO1.out.mono ?_
      rintro e w2 ⟨rfl, hw2⟩
      subst hw2
      go_wp2
      go_roundw
      case rel => exact ⟨k + 1, by omega, by go_num, by rw [HE2.out], _, rfl⟩
      case measure => simp [intOf]; omega
    · have hke : zs.take k = zs := List.take_of_length_le (by omega)
      rw [hke]
      go_wp2
      go_ret
      exact ⟨rfl, n, rfl⟩

set_option maxRecDepth 100000 in
theorem in_any (x y : Nat) (w : World) (hx : x < 18446744073709551616) (hy : y < 18446744073709551616) :
    Calls Try.prog 37 #[.int .u64 x, .int .u64 y] w fun e w' => e = .returned (.bool (outN x y == 0)) ∧ w' = w := by
  have hk := bits_andNot_u64_nat x y hx hy
  go_enter Try.func37, Try.ntmps37
  go_wp2_with (simp only [hk])
  go_ret
  exact ⟨ret_bool (by rw [Bool.eq_iff_iff]; simp), rfl⟩

theorem B64.drop {l : List Int} (h : B64 l) (k : Nat) : B64 (l.drop k) := fun x hx => h x (List.mem_of_mem_drop hx)

end Go.Proofs.Ytmljnfgfjcjmmaa
