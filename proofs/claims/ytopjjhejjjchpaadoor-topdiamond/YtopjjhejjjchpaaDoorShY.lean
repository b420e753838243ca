import Derived.Test.YtopjjhejjjchpaaDoorDatA
import Derived.Lib.TrailingZeros
import Derived.Laws.Bits64b
import Derived.Test.YtopjjhejjjchpaaDoorCycAll
import Derived.Laws.AppendOwnNone
import Derived.Laws.MakeOwn
import Derived.Test.YtopjjhejjjchpaaDoorLtA
/- Lists of numbers as sets: what they have in common, sides of simplices, bits. -/
namespace Go.Proofs.YtopjjhejjjchpaaDoor
open Go.RowKit

/-- Rising. -/
def Ris (l : List Int) : Prop := l.Pairwise (· < ·)

theorem nodup_len {α : Type} [BEq α] [LawfulBEq α] : ∀ (l o : List α), l.Nodup → (∀ x ∈ l, x ∈ o) → l.length ≤ o.length
  | [], o, _, _ => Nat.zero_le _
  | a :: l, o, hn, hs => by
    have ha : a ∈ o := hs a (by simp)
    have hn' := List.nodup_cons.1 hn
    have := nodup_len l (o.erase a) hn'.2 (fun x hx => by
      have hxa : x ≠ a := fun e => hn'.1 (e ▸ hx)
      exact (List.mem_erase_of_ne hxa).2 (hs x (by simp [hx])))
    have hl := List.length_erase_of_mem ha
    have hp : 0 < o.length := List.length_pos_of_mem ha
    simp only [List.length_cons]
    omega

/-- A list of numbers as bits. -/
def setN : List Int → Nat
  | [] => 0
  | v :: l => 2 ^ v.toNat ||| setN l

/-- Numbers of 0 to 63. -/
def B64 (l : List Int) : Prop := ∀ x ∈ l, 0 ≤ x ∧ x ≤ 63

theorem B64.tail {v : Int} {l : List Int} (h : B64 (v :: l)) : B64 l := fun x hx => h x (by simp [hx])

theorem B64.filter {l : List Int} (h : B64 l) (p : Int → Bool) : B64 (l.filter p) := fun x hx => h x (List.mem_filter.1 hx).1

theorem setN_lt : ∀ (l : List Int), B64 l → setN l < 2 ^ 64
  | [], _ => by simp [setN]
  | v :: l, h => by
    have hv := h v (by simp)
    exact Nat.or_lt_two_pow (Nat.pow_lt_pow_right (by omega) (by omega)) (setN_lt l h.tail)

theorem setN_append : ∀ (a b : List Int), setN (a ++ b) = setN a ||| setN b
  | [], b => by simp [setN]
  | v :: a, b => by simp only [List.cons_append, setN]; rw [setN_append a b, Nat.or_assoc]

theorem setN_even : ∀ (l : List Int) (k : Nat), (∀ x ∈ l, (k : Int) ≤ x) → ∃ m, setN l = 2 ^ k * m
  | [], k, _ => ⟨0, rfl⟩
  | v :: l, k, h => by
    obtain ⟨m, hm⟩ := setN_even l k (fun x hx => h x (by simp [hx]))
    have hv := h v (by simp)
    refine ⟨2 ^ (v.toNat - k) ||| m, ?_⟩
    rw [setN, hm]
    have e : 2 ^ v.toNat = 2 ^ k * 2 ^ (v.toNat - k) := by rw [← Nat.pow_add]; congr 1; omega
    rw [e]
    apply Nat.eq_of_testBit_eq
    intro i
    rw [Nat.testBit_or, Nat.testBit_two_pow_mul, Nat.testBit_two_pow_mul, Nat.testBit_two_pow_mul, Nat.testBit_or]
    cases decide (i ≥ k) <;> rfl

/-- The least of a rising list, and the rest. -/
theorem setN_low {v : Int} {l : List Int} (h : Ris (v :: l)) (hb : B64 (v :: l)) : ∃ m, setN (v :: l) = 2 ^ v.toNat * (2 * m + 1) ∧ setN l = 2 ^ v.toNat * (2 * m) := by
  obtain ⟨h1, _⟩ := List.pairwise_cons.1 h
  have hv := hb v (by simp)
  obtain ⟨m, hm⟩ := setN_even l (v.toNat + 1) (fun x hx => by have := h1 x hx; omega)
  refine ⟨m, ?_, by rw [hm, Nat.pow_succ, Nat.mul_assoc]⟩
  rw [setN, hm, Nat.pow_succ, Nat.mul_assoc]
  have : 2 ^ v.toNat * (2 * m + 1) = 2 ^ v.toNat + 2 ^ v.toNat * (2 * m) := by rw [Nat.mul_add, Nat.mul_one, Nat.add_comm]
  rw [this]
  have h2 := Nat.two_pow_add_eq_or_of_lt (i := v.toNat) (b := 0) (Nat.two_pow_pos _) (2 * m)
  apply Nat.eq_of_testBit_eq
  intro i
  rw [Nat.testBit_or, Nat.testBit_two_pow, Nat.testBit_two_pow_mul, ← this, Nat.testBit_two_pow_mul]
  by_cases hi : v.toNat ≤ i
  · by_cases hi' : v.toNat = i
    · simp [hi', Nat.testBit_zero]
    · have h3 : (2 * m + 1).testBit (i - v.toNat) = (2 * m).testBit (i - v.toNat) := by
        obtain ⟨j, hj⟩ : ∃ j, i - v.toNat = j + 1 := ⟨i - v.toNat - 1, by omega⟩
        rw [hj, Nat.testBit_succ, Nat.testBit_succ]
        congr 1
        omega
      simp [hi, hi', h3]
  · simp [hi]; omega

theorem ctzFrom_low : ∀ (f k m : Nat), k < f → Lib.ctzFrom f (2 ^ k * (2 * m + 1)) = k
  | 0, k, m, h => by omega
  | f + 1, 0, m, _ => by
    rw [Lib.ctzFrom, if_pos (by omega)]
  | f + 1, k + 1, m, h => by
    have e : 2 ^ (k + 1) * (2 * m + 1) = 2 * (2 ^ k * (2 * m + 1)) := by rw [Nat.pow_succ, Nat.mul_comm (2 ^ k) 2, Nat.mul_assoc]
    rw [Lib.ctzFrom, e, if_neg (by omega), Nat.mul_div_cancel_left _ (by omega), ctzFrom_low f k m (by omega)]
    omega

theorem setN_ctz {v : Int} {l : List Int} (h : Ris (v :: l)) (hb : B64 (v :: l)) : ((Lib.ctz 64 (setN (v :: l)) : Nat) : Int) = v := by
  obtain ⟨m, hm, _⟩ := setN_low h hb
  have hv := hb v (by simp)
  have hp : 0 < 2 ^ v.toNat * (2 * m + 1) := Nat.mul_pos (Nat.two_pow_pos _) (by omega)
  rw [Lib.ctz, if_neg (by rw [hm]; omega), hm, ctzFrom_low _ _ _ (by omega)]
  omega

theorem setN_pos {v : Int} {l : List Int} (h : Ris (v :: l)) (hb : B64 (v :: l)) : 0 < setN (v :: l) := by
  obtain ⟨m, hm, _⟩ := setN_low h hb
  rw [hm]
  exact Nat.mul_pos (Nat.two_pow_pos _) (by omega)

theorem setN_rest {v : Int} {l : List Int} (h : Ris (v :: l)) (hb : B64 (v :: l)) : setN (v :: l) &&& (setN (v :: l) - 1) = setN l := by
  obtain ⟨m, hm, hl⟩ := setN_low h hb
  rw [hm, hl]
  have e : 2 ^ v.toNat * (2 * m + 1) - 1 = 2 ^ v.toNat * (2 * m) + (2 ^ v.toNat - 1) := by
    have := Nat.two_pow_pos v.toNat
    rw [Nat.mul_add, Nat.mul_one]; omega
  apply Nat.eq_of_testBit_eq
  intro i
  rw [Nat.testBit_and, e, Nat.testBit_two_pow_mul_add _ (by have := Nat.two_pow_pos v.toNat; omega), Nat.testBit_two_pow_mul, Nat.testBit_two_pow_mul]
  by_cases hi : v.toNat ≤ i
  · rw [if_neg (by omega)]
    by_cases hi' : i = v.toNat
    · simp [hi', Nat.testBit_zero]
    · have h3 : (2 * m + 1).testBit (i - v.toNat) = (2 * m).testBit (i - v.toNat) := by
        obtain ⟨j, hj⟩ : ∃ j, i - v.toNat = j + 1 := ⟨i - v.toNat - 1, by omega⟩
        rw [hj, Nat.testBit_succ, Nat.testBit_succ]
        congr 1
        omega
      rw [h3]
      simp [hi]
  · simp [hi]

end Go.Proofs.YtopjjhejjjchpaaDoor

/- Sets of numbers: set.Of, In, List; the library's bits. -/
namespace Go.Proofs.YtopjjhejjjchpaaDoor
open Go.RowKit

theorem setN_one (v : Int) : setN [v] = 2 ^ v.toNat := by simp [setN]

theorem setN_lt' {l : List Int} (h : B64 l) : setN l < 18446744073709551616 := setN_lt l h

theorem setN_snoc (zs : List Int) (k : Nat) (h : k < zs.length) : setN (zs.take (k + 1)) = setN (zs.take k) ||| 2 ^ (zs.getD k 0).toNat := by
  rw [take_snoc_int zs k h, setN_append, setN_one]

theorem B64.take {l : List Int} (h : B64 l) (k : Nat) : B64 (l.take k) := fun x hx => h x (List.mem_of_mem_take hx)

theorem B64.get {l : List Int} (h : B64 l) {k : Nat} (hk : k < l.length) : 0 ≤ l.getD k 0 ∧ l.getD k 0 ≤ 63 := h _ (by simp [hk])

theorem shl_one {z : Int} (h0 : 0 ≤ z) (h63 : z ≤ 63) : IntKind.u64.wrap ((2 : Int) ^ z.toNat) = ((2 ^ z.toNat : Nat) : Int) := by
  have : 2 ^ z.toNat < 2 ^ 64 := Nat.pow_lt_pow_right (by omega) (by omega)
  rw [IntKind.wrap_u64]
  have e : ((2 : Int) ^ z.toNat) = ((2 ^ z.toNat : Nat) : Int) := by simp
  rw [e]
  generalize 2 ^ z.toNat = q at *
  omega

set_option maxRecDepth 100000 in
theorem one_any (z : Int) (w : World) (h0 : 0 ≤ z) (h63 : z ≤ 63) :
    Calls Tryd.prog 42 #[.int .i64 z] w fun e w' => e = .returned (.int .u64 ((2 ^ z.toNat : Nat) : Int)) ∧ w' = w := by
  have HE : Hid (IntKind.u64.wrap ((2 : Int) ^ z.toNat) = ((2 ^ z.toNat : Nat) : Int)) := shl_one h0 h63
  go_enter Tryd.func42, Tryd.ntmps42
  go_wp2
  go_ret
  exact ⟨ret_int HE.out, rfl⟩

set_option maxRecDepth 100000 in
set_option maxHeartbeats 400000 in
theorem setOf_any (B : Nat) (zs : List Int) (v : Value) (w : World) (hv : Sl B 3 w v (ints zs)) (hb : B64 zs) :
    Calls Tryd.prog 28 #[v] w fun e w' => e = .returned (.int .u64 (setN zs)) ∧ ∃ n, w' = w.drewN n := by
  obtain ⟨ao, cap, hvv, hlc, hcm⟩ := sl_open hv
  subst hvv
  have HV : Hid (Sl B 3 w (.slice ao zs.length cap) (ints zs)) := hv
  have HB : Hid (B64 zs) := hb
  clear hv hb
  go_enter Tryd.func28, Tryd.ntmps28
  go_wp2
  go_loopw [3, 8] (fun s i wr => ∃ k : Nat, k ≤ zs.length ∧ i = .int .i64 k ∧ s = .int .u64 (setN (zs.take k)) ∧ ∃ n, wr = w.drewN n) (fun _ i _ => zs.length - (intOf i).toNat)
  case atStart => exact ⟨0, Nat.zero_le _, rfl, rfl, 0, rfl⟩
  case round =>
    obtain ⟨k, hk, rfl, rfl, n, rfl⟩ := hrel
    by_cases hlt : k < zs.length
    · obtain ⟨b, o, cp, hs, hc1, hcc⟩ := sl_cell HV.out hlt
      simp only [Value.slice.injEq] at hs
      obtain ⟨rfl, _, rfl⟩ := hs
      have HSN : Hid (setN (zs.take (k + 1)) = setN (zs.take k) ||| 2 ^ (zs.getD k 0).toNat) := setN_snoc zs k hlt
      obtain ⟨hz0, hz63⟩ := HB.out.get hlt
      have HLT : Hid (setN (zs.take k) < 18446744073709551616) := setN_lt' (HB.out.take k)
      generalize setN (zs.take k) = S at *
      generalize zs.getD k 0 = z at *
      have e2 : bits BinOp.or IntKind.u64 (S : Int) ((2 ^ z.toNat : Nat) : Int) = ((setN (zs.take (k + 1)) : Nat) : Int) := by
        have : 2 ^ z.toNat < 2 ^ 64 := Nat.pow_lt_pow_right (by omega) (by omega)
        rw [bits_or_u64_nat S _ HLT.out (by simpa using this), HSN.out]
      have HON := one_any z (w.drewN n) hz0 hz63
      have HO1 : Hid (Calls Tryd.prog 42 #[.int .i64 z] (w.drewN n) fun e w' => e = .returned (.int .u64 ((2 ^ z.toNat : Nat) : Int)) ∧ w' = w.drewN n) := HON
      clear HON
      generalize 2 ^ z.toNat = q2 at *
      have HE2 : Hid (bits BinOp.or IntKind.u64 (S : Int) (q2 : Int) = ((setN (zs.take (k + 1)) : Nat) : Int)) := e2
      clear e2 HSN
      go_wp2_with fail
      refine HO1.out.mono ?_
      rintro e w2 ⟨rfl, hw2⟩
      subst hw2
      go_wp2
      go_roundw
      case rel => exact ⟨k + 1, by omega, by go_num, by rw [HE2.out], _, rfl⟩
      case measure => simp [intOf]; omega
    · have hke : zs.take k = zs := List.take_of_length_le (by omega)
      rw [hke]
      go_wp2
      go_ret
      exact ⟨rfl, n, rfl⟩

theorem and127 (z : Int) : ∃ n : Nat, n ≤ 127 ∧ bits .and .i64 z 127 = (n : Int) := by
  refine ⟨(BitVec.ofInt 64 z &&& BitVec.ofInt 64 127).toNat, ?_, ?_⟩
  · rw [BitVec.toNat_and]
    exact Nat.le_trans Nat.and_le_right (by decide)
  · have h : (BitVec.ofInt 64 z &&& BitVec.ofInt 64 127).toNat ≤ 127 := by
      rw [BitVec.toNat_and]
      exact Nat.le_trans Nat.and_le_right (by decide)
    show IntKind.i64.wrap ((BitVec.ofInt 64 z &&& BitVec.ofInt 64 127).toNat : Int) = _
    generalize (BitVec.ofInt 64 z &&& BitVec.ofInt 64 127).toNat = t at *
    have e : IntKind.i64.wrap (t : Int) = wrap64 (t : Int) := by simp [IntKind.wrap, IntKind.bits, IntKind.signed, wrap64]; omega
    rw [e]
    exact IntWalk.wrap64_in (t : Int) ⟨by omega, by omega⟩

set_option maxRecDepth 100000 in
theorem ones_any (x : Nat) (w : World) :
    Calls Tryd.prog 43 #[.int .u64 x] w fun e w' => ∃ n : Nat, n ≤ 127 ∧ e = .returned (.int .i64 n) ∧ w' = w := by
  go_enter Tryd.func43, Tryd.ntmps43
  go_wp2
  go_ret
  generalize (wrap64 _) = z
  obtain ⟨n, h1, h2⟩ := and127 z
  exact ⟨n, h1, by rw [h2]; rfl, rfl⟩

set_option maxRecDepth 100000 in
theorem len_any (x : Nat) (w : World) :
    Calls Tryd.prog 29 #[.int .u64 x] w fun e w' => ∃ n : Nat, n ≤ 127 ∧ e = .returned (.int .i64 n) ∧ w' = w := by
  go_enter Tryd.func29, Tryd.ntmps29
  go_wp2_with fail
  refine (ones_any x w).mono ?_
  rintro e w' ⟨n, hn, rfl, rfl⟩
  go_wp2
  go_ret
  exact ⟨n, hn, rfl, rfl⟩

theorem tz_key (x a : Nat) (hx : x < 18446744073709551616) (hx0 : x ≠ 0) (hlow : x &&& (18446744073709551616 - x) = a) :
    IntKind.u64.wrap (bits BinOp.and IntKind.u64 (x : Int) (IntKind.u64.wrap (-(x : Int))) * 285870213051353865) / 288230376151711744 = ((a * 285870213051353865 % 18446744073709551616 / 288230376151711744 : Nat) : Int) := by
  have e1 : IntKind.u64.wrap (-(x : Int)) = ((18446744073709551616 - x : Nat) : Int) := by rw [IntKind.wrap_u64]; omega
  rw [e1, bits_and_u64_nat x _ hx (by omega), hlow, IntKind.wrap_u64]
  omega

/-- The library's table, where it is laid. -/
def TabB (w : World) : Prop := ∀ j, j < 64 → w.cell? ⟨0, j, none⟩ = some (.int .u8 (Lib.deBruijn64tab.getD j 0))

set_option maxRecDepth 100000 in
theorem tz_core (x k idx : Nat) (w : World) (hx0 : ((x : Int) == 0) = false)
    (key : IntKind.u64.wrap (bits BinOp.and IntKind.u64 (x : Int) (IntKind.u64.wrap (-(x : Int))) * 285870213051353865) / 288230376151711744 = (idx : Int))
    (hi : idx < 64) (hk : k < 64) (hcell : w.cell? ⟨0, idx, none⟩ = some (.int .u8 k)) :
    Calls Tryd.prog 33 #[.int .u64 x] w fun e w' => e = .returned (.int .i64 k) ∧ w' = w := by
  go_enter Tryd.func33, Tryd.ntmps33
  go_wp2_with (simp only [key])
  go_ret
  exact ⟨rfl, rfl⟩

theorem tz_any (x : Nat) (w : World) (hx : x < 18446744073709551616) (hx0 : x ≠ 0) (hT : TabB w) :
    Calls Tryd.prog 33 #[.int .u64 x] w fun e w' => e = .returned (.int .i64 (Lib.ctz 64 x)) ∧ w' = w := by
  obtain ⟨hlow, hk⟩ := Lib.lowest_bit 64 x hx0 hx
  obtain ⟨hi, htab⟩ := Lib.deBruijn64_at _ hk
  have hcell := hT _ hi
  rw [htab] at hcell
  exact tz_core x _ _ w (by simp; omega) (tz_key x _ hx hx0 hlow) hi hk hcell

theorem TabB.below {w w' : World} (h : TabB w) (hb : Below w.heap.size w w') : TabB w' := fun j hj => (hb.cell (lt_of_cell (h j hj))).trans (h j hj)

theorem drop_getD {zs : List Int} {k : Nat} (h : k < zs.length) : zs.drop k = zs.getD k 0 :: zs.drop (k + 1) := by
  rw [List.drop_eq_getElem_cons h]; simp [h]

theorem Ris.drop {zs : List Int} (h : Ris zs) (k : Nat) : Ris (zs.drop k) := List.Pairwise.sublist (List.drop_sublist k zs) h

theorem B64.drop {l : List Int} (h : B64 l) (k : Nat) : B64 (l.drop k) := fun x hx => h x (List.mem_of_mem_drop hx)

theorem and_rest {v : Int} {l : List Int} (h : Ris (v :: l)) (hb : B64 (v :: l)) :
    bits .and .u64 (setN (v :: l) : Int) (IntKind.u64.wrap ((setN (v :: l) : Int) - 1)) = ((setN l : Nat) : Int) := by
  have hp := setN_pos h hb
  have hl := setN_lt' hb
  have e : IntKind.u64.wrap ((setN (v :: l) : Int) - 1) = ((setN (v :: l) - 1 : Nat) : Int) := by
    rw [IntKind.wrap_u64]; omega
  rw [e, bits_and_u64_nat _ _ hl (by omega), setN_rest h hb]

set_option maxRecDepth 100000 in
set_option maxHeartbeats 800000 in
theorem list_any (zs : List Int) (w : World) (hb : B64 zs) (hr : Ris zs) (hT : TabB w) (hl : zs.length ≤ 1000) :
    Calls Tryd.prog 21 #[.int .u64 (setN zs)] w fun e w' => ∃ u, e = .returned u ∧ w'.ownsRow w.heap.size 3 1 u zs.length (ints zs) ∧ Below w.heap.size w w' := by
  obtain ⟨i3, hi3, hz30, hz31, hz32⟩ := info_parts Tryd.info3
  have HBZ : Hid (B64 zs) := hb
  have HRZ : Hid (Ris zs) := hr
  have HT : Hid (TabB w) := hT
  clear hb hr hT
  go_enter Tryd.func21, Tryd.ntmps21
  go_wp2_with fail
  refine (len_any (setN zs) w).mono ?_
  rintro e w' ⟨n, hn, rfl, hw'⟩
  subst hw'
  have hmk : (Instr.makeSlice 22 (.int .i64 0) (.int .i64 (n : Int))).run Tryd.prog w' = .ok (.slice (some ⟨w'.heap.size, 0, none⟩) 0 n) (w'.alloc (.cells (madeCells #[.int .i64 0] n) 3)) := by
    have := run_make (P := Tryd.prog) w' 22 3 i3 (.int .i64 0) Tryd.underlying22 hi3 hz30 .i64 .i64 0 n (by omega) (by omega) (by rw [hz32]; omega) (by omega)
    rw [hz31, show (Value.int .i64 0).cells = #[.int .i64 0] from rfl] at this
    simpa using this
  have HO0 : Hid ((w'.alloc (.cells (madeCells #[.int .i64 0] n) 3)).ownsRow w'.heap.size 3 1 (.slice (some ⟨w'.heap.size, 0, none⟩) 0 n) 0 []) :=
    World.ownsRow_made w' _ n (Nat.le_refl _) (by unfold maxLen; omega) (by rw [size_madeCells]; omega)
  have HB0 : Hid (Below w'.heap.size w' (w'.alloc (.cells (madeCells #[.int .i64 0] n) 3))) := (Below.refl _ _).alloc (Nat.le_refl _) _
  generalize hW : w'.alloc (.cells (madeCells #[.int .i64 0] n) 3) = wA at *
  clear hW
  go_wp2
  go_loopw [3, 4] (fun x r wr => ∃ k : Nat, k ≤ zs.length ∧ r = .int .u64 (setN (zs.drop k)) ∧ wr.ownsRow w'.heap.size 3 1 x (zs.take k).length (ints (zs.take k)) ∧ Below w'.heap.size w' wr) (fun _ r wr => (intOf r).toNat)
  case atStart => exact ⟨0, Nat.zero_le _, by simp, by simpa [ints] using HO0.out, HB0.out⟩
  case round =>
    obtain ⟨k, hk, rfl, ho, hb⟩ := hrel
    have HO : Hid (wr.ownsRow w'.heap.size 3 1 u3 (zs.take k).length (ints (zs.take k))) := ho
    have HB : Hid (Below w'.heap.size w' wr) := hb
    clear ho hb HO0 HB0
    by_cases hlt : k < zs.length
    · have hdk := drop_getD hlt
      have HR : Hid (Ris (zs.getD k 0 :: zs.drop (k + 1))) := by
        have := HRZ.out.drop k
        rw [hdk] at this
        exact this
      have HBB : Hid (B64 (zs.getD k 0 :: zs.drop (k + 1))) := by
        have := HBZ.out.drop k
        rw [hdk] at this
        exact this
      have HTK : Hid (zs.take (k + 1) = zs.take k ++ [zs.getD k 0]) := take_snoc_int zs k hlt
      rw [hdk]
      clear hdk
      have hpos : (((setN (zs.getD k 0 :: zs.drop (k + 1)) : Nat) : Int) != 0) = true := by
        have := setN_pos HR.out HBB.out
        simp only [bne_iff_ne, ne_eq]
        omega
      have hrest := and_rest HR.out HBB.out
      have hctz := setN_ctz HR.out HBB.out
      have hlt64 := setN_lt' HBB.out
      have HME : Hid (setN (zs.drop (k + 1)) < setN (zs.getD k 0 :: zs.drop (k + 1))) := by
        obtain ⟨m, h1, h2⟩ := setN_low HR.out HBB.out
        show _ < _
        rw [h1, h2]
        exact Nat.mul_lt_mul_of_pos_left (by omega) (Nat.two_pow_pos _)
      generalize setN (zs.getD k 0 :: zs.drop (k + 1)) = S at *
      generalize zs.getD k 0 = z at *
      have hszr : w'.heap.size ≤ wr.heap.size := HB.out.size
      have HTL : Hid ((zs.take k).length = k) := by show _ = _; rw [List.length_take]; omega
      go_wp2_with fail
      refine (tz_any S wr hlt64 (by intro h; rw [h] at hpos; exact absurd hpos (by decide)) (HT.out.below HB.out)).mono ?_
      rintro e w2 ⟨rfl, hw2⟩
      subst hw2
      rw [hctz]
      go_wp2_with (first | (at_builtin; refine wpList_append_own _ rfl _ _ 22 rfl w'.heap.size 3 i3 (.int .i64 0) 1 8 Tryd.underlying22 hi3 hz30 hz31 hz32 rfl (by decide) _ _ _ rfl (HO.out.alloc _) ⟨w2.heap.size, 0, none⟩ 1 1 [.int .i64 z] rfl rfl (one_new _ _ _) (one_int _) ?c3 ?c4 ?c5 ?_))
      case c3 => rw [HTL.out]; unfold maxLen; omega
      case c4 => rw [HTL.out]; omega
      case c5 => simp; omega
      intro v' w3 ho hg _
      rw [show k + 1 = (zs.take k).length + 1 by rw [HTL.out]] at ho
      have R := owns_push (z := z) (N := (zs.take k).length + 1) hszr (l := zs.take k) HO.out HB.out ho hg rfl
      rw [← HTK.out] at R
      have R1 : Hid (w3.ownsRow w'.heap.size 3 1 v' (zs.take (k + 1)).length (ints (zs.take (k + 1)))) := by
        have := R.1
        have e : (zs.take (k + 1)).length = (zs.take k).length + 1 := by rw [HTK.out]; simp
        rw [e]
        exact this
      have R2 : Hid (Below w'.heap.size w' w3) := R.2
      clear R ho hg HO HB
      go_wp2_with (simp only [hrest])
      go_roundw
      case rel => exact ⟨k + 1, by omega, rfl, R1.out, R2.out⟩
      case measure => have := HME.out; simp [intOf]; omega
    · have hke : zs.take k = zs := List.take_of_length_le (by omega)
      have hkd : zs.drop k = [] := List.drop_eq_nil_of_le (by omega)
      rw [hkd]
      have HO' : Hid (wr.ownsRow w'.heap.size 3 1 u3 zs.length (ints zs)) := by have := HO.out; rw [hke] at this; exact this
      clear HO
      go_wp2
      go_ret
      exact ⟨_, rfl, HO'.out, HB.out⟩
end Go.Proofs.YtopjjhejjjchpaaDoor

/- The document's answer: the numbers of a set, as bits of one. -/
namespace Go.Proofs.YtopjjhejjjchpaaDoor
open Go.RowKit
attribute [local go_sem ↓] Go.wp_at_zero Go.wp_at_succ

/-- The numbers of a set below i. -/
def memTo (s i : Nat) : List Int := ((List.range i).filter fun k => s.testBit k).map fun k : Nat => (k : Int)

/-- The numbers of a set. -/
def memL (s : Nat) : List Int := memTo s 64

theorem memTo_succ (s i : Nat) : memTo s (i + 1) = memTo s i ++ (if s.testBit i = true then [(i : Int)] else []) := by
  unfold memTo
  rw [List.range_succ, List.filter_append, List.map_append]
  cases h : s.testBit i <;> simp [h]

theorem memTo_len (s i : Nat) : (memTo s i).length ≤ i := by
  unfold memTo
  rw [List.length_map]
  exact Nat.le_trans (List.length_filter_le _ _) (by simp)

theorem memTo_top {s i : Nat} (hs : s < 2 ^ i) : ∀ k, memTo s (i + k) = memTo s i
  | 0 => rfl
  | k + 1 => by
    rw [← Nat.add_assoc, memTo_succ, memTo_top hs k]
    have : s.testBit (i + k) = false := Nat.testBit_lt_two_pow (Nat.lt_of_lt_of_le hs (Nat.pow_le_pow_right (by decide) (by omega)))
    simp [this]

theorem memL_top {s i : Nat} (hs : s < 2 ^ i) (hi : i ≤ 64) : memTo s i = memL s := by
  have := memTo_top hs (64 - i)
  rw [show i + (64 - i) = 64 by omega] at this
  exact this.symm

theorem mem_memL {s : Nat} (hs : s < 2 ^ 64) {x : Int} : x ∈ memL s ↔ ∃ k : Nat, x = k ∧ s.testBit k = true := by
  unfold memL memTo
  simp only [List.mem_map, List.mem_filter, List.mem_range]
  constructor
  · rintro ⟨k, ⟨_, h⟩, rfl⟩; exact ⟨k, rfl, h⟩
  · rintro ⟨k, rfl, h⟩
    refine ⟨k, ⟨?_, h⟩, rfl⟩
    refine Nat.lt_of_not_le fun hle => ?_
    have := Nat.testBit_lt_two_pow (Nat.lt_of_lt_of_le hs (Nat.pow_le_pow_right (by decide) hle))
    rw [this] at h
    exact absurd h (by decide)

set_option maxRecDepth 100000 in
set_option maxHeartbeats 800000 in
theorem members_any (s n : Nat) (w : World) (hs : s < 2 ^ n) (hn : n ≤ 24) :
    Calls Tryd.prog 9 #[.int .i64 s] w fun e w' => ∃ u, e = .returned u ∧ w'.ownsRow w.heap.size 3 1 u (memL s).length (ints (memL s)) ∧ Below w.heap.size w w' := by
  obtain ⟨i3, hi3, hz30, hz31, hz32⟩ := info_parts Tryd.info3
  have HS : Hid (s < 2 ^ n) := hs
  clear hs
  go_enter Tryd.func9, Tryd.ntmps9
  go_wp2
  go_loopw [3, 4] (fun x i wr => ∃ k : Nat, k ≤ n ∧ i = .int .i64 k ∧ wr.ownsRow w.heap.size 3 1 x (memTo s k).length (ints (memTo s k)) ∧ Below w.heap.size w wr) (fun _ i _ => n - (intOf i).toNat)
  case atStart => exact ⟨0, Nat.zero_le _, rfl, by rw [show memTo s 0 = [] from rfl]; exact World.ownsRow_nil _ _ _ _, Below.refl _ _⟩
  case round =>
    obtain ⟨k, hk, rfl, ho, hb⟩ := hrel
    have HO : Hid (wr.ownsRow w.heap.size 3 1 u3 (memTo s k).length (ints (memTo s k))) := ho
    have HB : Hid (Below w.heap.size w wr) := hb
    clear ho hb
    have hszr : w.heap.size ≤ wr.heap.size := HB.out.size
    have HLN : Hid ((memTo s k).length ≤ 24) := Nat.le_trans (memTo_len s k) (by omega)
    have eq0 : (s : Int) / 2 ^ k = ((s / 2 ^ k : Nat) : Int) := by simp
    by_cases hz : s / 2 ^ k = 0
    · have t1 : decide ((0 : Int) < (s : Int) / 2 ^ k) = false := by rw [eq0, hz]; rfl
      have HE : Hid (memTo s k = memL s) := memL_top (by
        have h1 := Nat.div_eq_zero_iff.1 hz
        have h2 : 0 < 2 ^ k := Nat.pow_pos (by decide)
        rcases h1 with h1 | h1
        · omega
        · exact h1) (by omega)
      clear eq0 hz
      go_wp2
      go_ret
      refine ⟨_, rfl, ?_, HB.out⟩
      rw [← HE.out]
      exact HO.out
    · have t1 : decide ((0 : Int) < (s : Int) / 2 ^ k) = true := by rw [eq0]; generalize s / 2 ^ k = q at *; exact decide_eq_true (by omega)
      have hkn : k < n := by
        refine Nat.lt_of_not_le fun hle => hz (Nat.div_eq_zero_iff.2 (Or.inr ?_))
        exact Nat.lt_of_lt_of_le HS.out (Nat.pow_le_pow_right (by decide) hle)
      have HSN : Hid (memTo s (k + 1) = memTo s k ++ (if s.testBit k = true then [(k : Int)] else [])) := memTo_succ s k
      have hbit : s.testBit k = decide (s / 2 ^ k % 2 = 1) := Nat.testBit_eq_decide_div_mod_eq
      cases hb1 : s.testBit k
      · have t3 : (((s : Int) / 2 ^ k).tmod 2 == 1) = false := by
          rw [hb1] at hbit
          have := of_decide_eq_false hbit.symm
          rw [eq0]
          generalize s / 2 ^ k = q at *
          have e : (q : Int).tmod 2 = ((q % 2 : Nat) : Int) := by rw [Int.tmod_eq_emod_of_nonneg (by omega)]; omega
          rw [e]
          have h2 : q % 2 = 0 := by omega
          rw [h2]; rfl
        rw [hb1] at HSN
        have HS2 : Hid (memTo s (k + 1) = memTo s k) := by
          have h := HSN.out
          rw [if_neg (by decide), List.append_nil] at h
          exact h
        have R1 : Hid (wr.ownsRow w.heap.size 3 1 u3 (memTo s (k + 1)).length (ints (memTo s (k + 1)))) := by rw [HS2.out]; exact HO.out
        clear eq0 hz hbit hb1 HSN
        go_wp2
        go_roundw
        case rel => exact ⟨k + 1, hkn, by go_num, R1.out, HB.out⟩
        case measure => simp [intOf]; omega
      · have t3 : (((s : Int) / 2 ^ k).tmod 2 == 1) = true := by
          rw [hb1] at hbit
          have := of_decide_eq_true hbit.symm
          rw [eq0]
          generalize s / 2 ^ k = q at *
          have e : (q : Int).tmod 2 = ((q % 2 : Nat) : Int) := by rw [Int.tmod_eq_emod_of_nonneg (by omega)]; omega
          rw [e]
          rw [this]; rfl
        rw [hb1, if_pos rfl] at HSN
        obtain ⟨ol, hol⟩ : ∃ ol, ol = (memTo s k).length := ⟨_, rfl⟩
        have HOL : Hid (ol = (memTo s k).length) := hol
        rw [← hol] at HO HLN
        have hol2 : ol ≤ 24 := HLN.out
        clear eq0 hz hbit hb1 hol
        go_wp2_with (first | (at_builtin; refine wpList_append_own _ rfl _ _ 22 rfl w.heap.size 3 i3 (.int .i64 0) 1 8 Tryd.underlying22 hi3 hz30 hz31 hz32 rfl (by decide) _ _ _ rfl (HO.out.alloc _) ⟨wr.heap.size, 0, none⟩ 1 1 [.int .i64 k] rfl rfl (one_new _ _ _) (one_int _) ?c3 ?c4 ?c5 ?_))
        case c3 => unfold maxLen; omega
        case c4 => omega
        case c5 => first | exact hszr | omega | (simp; omega)
        intro v' w3 ho3 hg3 _
        have R1 : Hid (w3.ownsRow w.heap.size 3 1 v' (memTo s (k + 1)).length (ints (memTo s (k + 1)))) := by
          have e1 : (memTo s (k + 1)).length = ol + 1 := by rw [HSN.out, List.length_append, ← HOL.out]; rfl
          have e2 : ints (memTo s (k + 1)) = ints (memTo s k) ++ [.int .i64 (k : Int)] := by rw [HSN.out]; simp [ints]
          show World.ownsRow _ _ _ _ _ _ _
          rw [e1, e2]
          exact ho3
        have R2 : Hid (Below w.heap.size w w3) := (HB.out.alloc hszr _).grown hg3 (by simp; omega) (fun x hx => (HO.out.lt x hx).1)
        clear ho3 hg3
        go_wp2
        go_roundw
        case rel => exact ⟨k + 1, hkn, by go_num, R1.out, R2.out⟩
        case measure => simp [intOf]; omega

end Go.Proofs.YtopjjhejjjchpaaDoor

/- The document's answer: which corners meet each row. -/
namespace Go.Proofs.YtopjjhejjjchpaaDoor
open Go.RowKit
attribute [local go_sem ↓] Go.wp_at_zero Go.wp_at_succ

theorem ofInt_nat {a : Nat} (ha : a < 4611686018427387904) : (BitVec.ofInt 64 (a : Int)).toNat = a := by
  rw [BitVec.toNat_ofInt]
  omega

theorem wrap_small {a : Nat} (ha : a < 4611686018427387904) : IntKind.i64.wrap (a : Int) = (a : Int) := by
  rw [IntWalk.i64_left]
  exact IntWalk.wrap64_in _ ⟨by omega, by omega⟩

theorem bits_or_i64_nat (a b : Nat) (ha : a < 4611686018427387904) (hb : b < 4611686018427387904) : bits .or .i64 (a : Int) (b : Int) = ((a ||| b : Nat) : Int) := by
  show IntKind.i64.wrap ((BitVec.ofInt 64 (a : Int) ||| BitVec.ofInt 64 (b : Int)).toNat : Int) = _
  rw [BitVec.toNat_or, ofInt_nat ha, ofInt_nat hb]
  exact wrap_small (Nat.or_lt_two_pow (n := 62) ha hb)

theorem bits_and_i64_nat (a b : Nat) (ha : a < 4611686018427387904) (hb : b < 4611686018427387904) : bits .and .i64 (a : Int) (b : Int) = ((a &&& b : Nat) : Int) := by
  show IntKind.i64.wrap ((BitVec.ofInt 64 (a : Int) &&& BitVec.ofInt 64 (b : Int)).toNat : Int) = _
  rw [BitVec.toNat_and, ofInt_nat ha, ofInt_nat hb]
  exact wrap_small (Nat.lt_of_le_of_lt Nat.and_le_left ha)

/-- Which of the first i corners meet a row, as bits. -/
def sdTo (C : List (List Int)) (r : List Int) : Nat → Nat
  | 0 => 0
  | i + 1 => sdTo C r i ||| (if overL r (C.getD i []) = 0 then 2 ^ i else 0)

theorem sdTo_lt (C : List (List Int)) (r : List Int) : ∀ i, sdTo C r i < 2 ^ i
  | 0 => by simp [sdTo]
  | i + 1 => by
    have ih := sdTo_lt C r i
    have h1 : (2 : Nat) ^ i < 2 ^ (i + 1) := Nat.pow_lt_pow_right (by decide) (by omega)
    unfold sdTo
    refine Nat.or_lt_two_pow (by omega) ?_
    split
    · exact h1
    · exact Nat.pow_pos (by decide)

theorem sdTo_bit (C : List (List Int)) (r : List Int) : ∀ i k, (sdTo C r i).testBit k = (decide (k < i) && decide (overL r (C.getD k []) = 0))
  | 0, k => by simp [sdTo]
  | i + 1, k => by
    unfold sdTo
    rw [Nat.testBit_or, sdTo_bit C r i k]
    by_cases hk : k = i
    · subst hk
      by_cases h : overL r (C.getD k []) = 0
      · rw [if_pos h, Nat.testBit_two_pow_self, decide_eq_true h]; simp
      · rw [if_neg h, decide_eq_false h]; simp
    · have e : (if overL r (C.getD i []) = 0 then 2 ^ i else 0).testBit k = false := by
        split
        · exact Nat.testBit_two_pow_of_ne (fun h => hk h.symm)
        · simp
      rw [e]
      have : decide (k < i + 1) = decide (k < i) := decide_eq_decide.2 (by omega)
      rw [this]; simp

def sdN (C : List (List Int)) (r : List Int) : Nat := sdTo C r C.length

end Go.Proofs.YtopjjhejjjchpaaDoor

/- The document's answer: the dimension of a set of corners. -/
namespace Go.Proofs.YtopjjhejjjchpaaDoor
open Go.RowKit
attribute [local go_sem ↓] Go.wp_at_zero Go.wp_at_succ

/-- The dimension of some corners. -/
def dimL (d : Nat) (C : List (List Int)) (s : Nat) : Int := if memL s = [] then (-1 : Int) else (((pickL d (diffL (pks C [] (memL s)))).length : Nat) : Int)

theorem memL_bd {s n : Nat} (hs : s < 2 ^ n) (hn : n ≤ 64) : ∀ x ∈ memL s, 0 ≤ x ∧ x < (n : Int) := by
  intro x hx
  rw [← memL_top hs hn] at hx
  unfold memTo at hx
  simp only [List.mem_map, List.mem_filter, List.mem_range] at hx
  obtain ⟨k, ⟨hk, _⟩, rfl⟩ := hx
  omega

theorem memL_len {s n : Nat} (hs : s < 2 ^ n) (hn : n ≤ 64) : (memL s).length ≤ n := by
  rw [← memL_top hs hn]
  exact memTo_len s n

end Go.Proofs.YtopjjhejjjchpaaDoor
