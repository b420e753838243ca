/- Sets of numbers: set.Of, In, List; the library's bits. -/
import Derived.Test.YtkfdpcgmpbopnaaGreatDoorReads
import Derived.Test.YtkfdpcgmpbopnaaGreatDoorSh1
import Derived.Test.YtkfdpcgmpbopnaaGreatDoorCycAll
import Derived.Laws.AppendOwnNone
import Derived.Laws.MakeOwn
namespace Go.Proofs.YtkfdpcgmpbopnaaGreatDoor
open Go.RowKit

theorem setN_one (v : Int) : setN [v] = 2 ^ v.toNat := by simp [setN]

theorem setN_lt' {l : List Int} (h : B64 l) : setN l < 18446744073709551616 := setN_lt l h

theorem setN_snoc (zs : List Int) (k : Nat) (h : k < zs.length) : setN (zs.take (k + 1)) = setN (zs.take k) ||| 2 ^ (zs.getD k 0).toNat := by
  rw [take_snoc_int zs k h, setN_append, setN_one]

theorem B64.take {l : List Int} (h : B64 l) (k : Nat) : B64 (l.take k) := fun x hx => h x (List.mem_of_mem_take hx)

theorem B64.get {l : List Int} (h : B64 l) {k : Nat} (hk : k < l.length) : 0 ≤ l.getD k 0 ∧ l.getD k 0 ≤ 63 := h _ (by simp [hk])

theorem shl_one {z : Int} (h0 : 0 ≤ z) (h63 : z ≤ 63) : IntKind.u64.wrap ((2 : Int) ^ z.toNat) = ((2 ^ z.toNat : Nat) : Int) := by
  have : 2 ^ z.toNat < 2 ^ 64 := Nat.pow_lt_pow_right (by omega) (by omega)
  rw [IntKind.wrap_u64]
  have e : ((2 : Int) ^ z.toNat) = ((2 ^ z.toNat : Nat) : Int) := by simp
  rw [e]
  generalize 2 ^ z.toNat = q at *
  omega

set_option maxRecDepth 100000 in
theorem one_any (z : Int) (w : World) (h0 : 0 ≤ z) (h63 : z ≤ 63) :
    Calls Tryz.prog 89 #[.int .i64 z] w fun e w' => e = .returned (.int .u64 ((2 ^ z.toNat : Nat) : Int)) ∧ w' = w := by
  have HE : Hid (IntKind.u64.wrap ((2 : Int) ^ z.toNat) = ((2 ^ z.toNat : Nat) : Int)) := shl_one h0 h63
  go_enter Tryz.func89, Tryz.ntmps89
  go_wp2
  go_ret
  exact ⟨ret_int HE.out, rfl⟩

set_option maxRecDepth 100000 in
set_option maxHeartbeats 400000 in
theorem setOf_any (B : Nat) (zs : List Int) (v : Value) (w : World) (hv : Sl B 3 w v (ints zs)) (hb : B64 zs) :
    Calls Tryz.prog 70 #[v] w fun e w' => e = .returned (.int .u64 (setN zs)) ∧ ∃ n, w' = w.drewN n := by
  obtain ⟨ao, cap, hvv, hlc, hcm⟩ := sl_open hv
  subst hvv
  have HV : Hid (Sl B 3 w (.slice ao zs.length cap) (ints zs)) := hv
  have HB : Hid (B64 zs) := hb
  clear hv hb
  go_enter Tryz.func70, Tryz.ntmps70
  go_wp2
  go_loopw [3, 8] (fun s i wr => ∃ k : Nat, k ≤ zs.length ∧ i = .int .i64 k ∧ s = .int .u64 (setN (zs.take k)) ∧ ∃ n, wr = w.drewN n) (fun _ i _ => zs.length - (intOf i).toNat)
  case atStart => exact ⟨0, Nat.zero_le _, rfl, rfl, 0, rfl⟩
  case round =>
    obtain ⟨k, hk, rfl, rfl, n, rfl⟩ := hrel
    by_cases hlt : k < zs.length
    · obtain ⟨b, o, cp, hs, hc1, hcc⟩ := sl_cell HV.out hlt
      simp only [Value.slice.injEq] at hs
      obtain ⟨rfl, _, rfl⟩ := hs
      have HSN : Hid (setN (zs.take (k + 1)) = setN (zs.take k) ||| 2 ^ (zs.getD k 0).toNat) := setN_snoc zs k hlt
      obtain ⟨hz0, hz63⟩ := HB.out.get hlt
      have HLT : Hid (setN (zs.take k) < 18446744073709551616) := setN_lt' (HB.out.take k)
      generalize setN (zs.take k) = S at *
      generalize zs.getD k 0 = z at *
      have e2 : bits BinOp.or IntKind.u64 (S : Int) ((2 ^ z.toNat : Nat) : Int) = ((setN (zs.take (k + 1)) : Nat) : Int) := by
        have : 2 ^ z.toNat < 2 ^ 64 := Nat.pow_lt_pow_right (by omega) (by omega)
        rw [bits_or_u64_nat S _ HLT.out (by simpa using this), HSN.out]
      have HON := one_any z (w.drewN n) hz0 hz63
      have HO1 : Hid (Calls Tryz.prog 89 #[.int .i64 z] (w.drewN n) fun e w' => e = .returned (.int .u64 ((2 ^ z.toNat : Nat) : Int)) ∧ w' = w.drewN n) := HON
      clear HON
      generalize 2 ^ z.toNat = q2 at *
      have HE2 : Hid (bits BinOp.or IntKind.u64 (S : Int) (q2 : Int) = ((setN (zs.take (k + 1)) : Nat) : Int)) := e2
      clear e2 HSN
      go_wp2_with fail
      refine HO1.out.mono ?_
      rintro e w2 ⟨rfl, hw2⟩
      subst hw2
      go_wp2
      go_roundw
      case rel => exact ⟨k + 1, by omega, by go_num, by rw [HE2.out], _, rfl⟩
      case measure => simp [intOf]; omega
    · have hke : zs.take k = zs := List.take_of_length_le (by omega)
      rw [hke]
      go_wp2
      go_ret
      exact ⟨rfl, n, rfl⟩

theorem and127 (z : Int) : ∃ n : Nat, n ≤ 127 ∧ bits .and .i64 z 127 = (n : Int) := by
  refine ⟨(BitVec.ofInt 64 z &&& BitVec.ofInt 64 127).toNat, ?_, ?_⟩
  · rw [BitVec.toNat_and]
    exact Nat.le_trans Nat.and_le_right (by decide)
  · have h : (BitVec.ofInt 64 z &&& BitVec.ofInt 64 127).toNat ≤ 127 := by
      rw [BitVec.toNat_and]
      exact Nat.le_trans Nat.and_le_right (by decide)
    show IntKind.i64.wrap ((BitVec.ofInt 64 z &&& BitVec.ofInt 64 127).toNat : Int) = _
    generalize (BitVec.ofInt 64 z &&& BitVec.ofInt 64 127).toNat = t at *
    have e : IntKind.i64.wrap (t : Int) = wrap64 (t : Int) := by simp [IntKind.wrap, IntKind.bits, IntKind.signed, wrap64]; omega
    rw [e]
    exact IntWalk.wrap64_in (t : Int) ⟨by omega, by omega⟩

set_option maxRecDepth 100000 in
theorem ones_any (x : Nat) (w : World) :
    Calls Tryz.prog 80 #[.int .u64 x] w fun e w' => ∃ n : Nat, n ≤ 127 ∧ e = .returned (.int .i64 n) ∧ w' = w := by
  go_enter Tryz.func80, Tryz.ntmps80
  go_wp2
  go_ret
  generalize (wrap64 _) = z
  obtain ⟨n, h1, h2⟩ := and127 z
  exact ⟨n, h1, by rw [h2]; rfl, rfl⟩

set_option maxRecDepth 100000 in
theorem len_any (x : Nat) (w : World) :
    Calls Tryz.prog 57 #[.int .u64 x] w fun e w' => ∃ n : Nat, n ≤ 127 ∧ e = .returned (.int .i64 n) ∧ w' = w := by
  go_enter Tryz.func57, Tryz.ntmps57
  go_wp2_with fail
  refine (ones_any x w).mono ?_
  rintro e w' ⟨n, hn, rfl, rfl⟩
  go_wp2
  go_ret
  exact ⟨n, hn, rfl, rfl⟩

theorem tz_key (x a : Nat) (hx : x < 18446744073709551616) (hx0 : x ≠ 0) (hlow : x &&& (18446744073709551616 - x) = a) :
    IntKind.u64.wrap (bits BinOp.and IntKind.u64 (x : Int) (IntKind.u64.wrap (-(x : Int))) * 285870213051353865) / 288230376151711744 = ((a * 285870213051353865 % 18446744073709551616 / 288230376151711744 : Nat) : Int) := by
  have e1 : IntKind.u64.wrap (-(x : Int)) = ((18446744073709551616 - x : Nat) : Int) := by rw [IntKind.wrap_u64]; omega
  rw [e1, bits_and_u64_nat x _ hx (by omega), hlow, IntKind.wrap_u64]
  omega

/-- The library's table, where it is laid. -/
def TabB (w : World) : Prop := ∀ j, j < 64 → w.cell? ⟨0, j, none⟩ = some (.int .u8 (Lib.deBruijn64tab.getD j 0))

set_option maxRecDepth 100000 in
theorem tz_core (x k idx : Nat) (w : World) (hx0 : ((x : Int) == 0) = false)
    (key : IntKind.u64.wrap (bits BinOp.and IntKind.u64 (x : Int) (IntKind.u64.wrap (-(x : Int))) * 285870213051353865) / 288230376151711744 = (idx : Int))
    (hi : idx < 64) (hk : k < 64) (hcell : w.cell? ⟨0, idx, none⟩ = some (.int .u8 k)) :
    Calls Tryz.prog 74 #[.int .u64 x] w fun e w' => e = .returned (.int .i64 k) ∧ w' = w := by
  go_enter Tryz.func74, Tryz.ntmps74
  go_wp2_with (simp only [key])
  go_ret
  exact ⟨rfl, rfl⟩

theorem tz_any (x : Nat) (w : World) (hx : x < 18446744073709551616) (hx0 : x ≠ 0) (hT : TabB w) :
    Calls Tryz.prog 74 #[.int .u64 x] w fun e w' => e = .returned (.int .i64 (Lib.ctz 64 x)) ∧ w' = w := by
  obtain ⟨hlow, hk⟩ := Lib.lowest_bit 64 x hx0 hx
  obtain ⟨hi, htab⟩ := Lib.deBruijn64_at _ hk
  have hcell := hT _ hi
  rw [htab] at hcell
  exact tz_core x _ _ w (by simp; omega) (tz_key x _ hx hx0 hlow) hi hk hcell

theorem TabB.below {w w' : World} (h : TabB w) (hb : Below w.heap.size w w') : TabB w' := fun j hj => (hb.cell (lt_of_cell (h j hj))).trans (h j hj)

theorem drop_getD {zs : List Int} {k : Nat} (h : k < zs.length) : zs.drop k = zs.getD k 0 :: zs.drop (k + 1) := by
  rw [List.drop_eq_getElem_cons h]; simp [h]

theorem Ris.drop {zs : List Int} (h : Ris zs) (k : Nat) : Ris (zs.drop k) := List.Pairwise.sublist (List.drop_sublist k zs) h

theorem B64.drop {l : List Int} (h : B64 l) (k : Nat) : B64 (l.drop k) := fun x hx => h x (List.mem_of_mem_drop hx)

theorem and_rest {v : Int} {l : List Int} (h : Ris (v :: l)) (hb : B64 (v :: l)) :
    bits .and .u64 (setN (v :: l) : Int) (IntKind.u64.wrap ((setN (v :: l) : Int) - 1)) = ((setN l : Nat) : Int) := by
  have hp := setN_pos h hb
  have hl := setN_lt' hb
  have e : IntKind.u64.wrap ((setN (v :: l) : Int) - 1) = ((setN (v :: l) - 1 : Nat) : Int) := by
    rw [IntKind.wrap_u64]; omega
  rw [e, bits_and_u64_nat _ _ hl (by omega), setN_rest h hb]

set_option maxRecDepth 100000 in
set_option maxHeartbeats 800000 in
theorem list_any (zs : List Int) (w : World) (hb : B64 zs) (hr : Ris zs) (hT : TabB w) (hl : zs.length ≤ 1000) :
    Calls Tryz.prog 53 #[.int .u64 (setN zs)] w fun e w' => ∃ u, e = .returned u ∧ w'.ownsRow w.heap.size 3 1 u zs.length (ints zs) ∧ Below w.heap.size w w' := by
  obtain ⟨i3, hi3, hz30, hz31, hz32⟩ := info_parts Tryz.info3
  have HBZ : Hid (B64 zs) := hb
  have HRZ : Hid (Ris zs) := hr
  have HT : Hid (TabB w) := hT
  clear hb hr hT
  go_enter Tryz.func53, Tryz.ntmps53
  go_wp2_with fail
  refine (len_any (setN zs) w).mono ?_
  rintro e w' ⟨n, hn, rfl, hw'⟩
  subst hw'
  have hmk : (Instr.makeSlice 22 (.int .i64 0) (.int .i64 (n : Int))).run Tryz.prog w' = .ok (.slice (some ⟨w'.heap.size, 0, none⟩) 0 n) (w'.alloc (.cells (madeCells #[.int .i64 0] n) 3)) := by
    have := run_make (P := Tryz.prog) w' 22 3 i3 (.int .i64 0) Tryz.underlying22 hi3 hz30 .i64 .i64 0 n (by omega) (by omega) (by rw [hz32]; omega) (by omega)
    rw [hz31, show (Value.int .i64 0).cells = #[.int .i64 0] from rfl] at this
    simpa using this
  have HO0 : Hid ((w'.alloc (.cells (madeCells #[.int .i64 0] n) 3)).ownsRow w'.heap.size 3 1 (.slice (some ⟨w'.heap.size, 0, none⟩) 0 n) 0 []) :=
    World.ownsRow_made w' _ n (Nat.le_refl _) (by unfold maxLen; omega) (by rw [size_madeCells]; omega)
  have HB0 : Hid (Below w'.heap.size w' (w'.alloc (.cells (madeCells #[.int .i64 0] n) 3))) := (Below.refl _ _).alloc (Nat.le_refl _) _
  generalize hW : w'.alloc (.cells (madeCells #[.int .i64 0] n) 3) = wA at *
  clear hW
  go_wp2
  go_loopw [3, 4] (fun x r wr => ∃ k : Nat, k ≤ zs.length ∧ r = .int .u64 (setN (zs.drop k)) ∧ wr.ownsRow w'.heap.size 3 1 x (zs.take k).length (ints (zs.take k)) ∧ Below w'.heap.size w' wr) (fun _ r wr => (intOf r).toNat)
  case atStart => exact ⟨0, Nat.zero_le _, by simp, by simpa [ints] using HO0.out, HB0.out⟩
  case round =>
    obtain ⟨k, hk, rfl, ho, hb⟩ := hrel
    have HO : Hid (wr.ownsRow w'.heap.size 3 1 u3 (zs.take k).length (ints (zs.take k))) := ho
    have HB : Hid (Below w'.heap.size w' wr) := hb
    clear ho hb HO0 HB0
    by_cases hlt : k < zs.length
    · have hdk := drop_getD hlt
      have HR : Hid (Ris (zs.getD k 0 :: zs.drop (k + 1))) := by
        have := HRZ.out.drop k
        rw [hdk] at this
        exact this
      have HBB : Hid (B64 (zs.getD k 0 :: zs.drop (k + 1))) := by
        have := HBZ.out.drop k
        rw [hdk] at this
        exact this
      have HTK : Hid (zs.take (k + 1) = zs.take k ++ [zs.getD k 0]) := take_snoc_int zs k hlt
      rw [hdk]
      clear hdk
      have hpos : (((setN (zs.getD k 0 :: zs.drop (k + 1)) : Nat) : Int) != 0) = true := by
        have := setN_pos HR.out HBB.out
        simp only [bne_iff_ne, ne_eq]
        omega
      have hrest := and_rest HR.out HBB.out
      have hctz := setN_ctz HR.out HBB.out
      have hlt64 := setN_lt' HBB.out
      have HME : Hid (setN (zs.drop (k + 1)) < setN (zs.getD k 0 :: zs.drop (k + 1))) := by
        obtain ⟨m, h1, h2⟩ := setN_low HR.out HBB.out
        show _ < _
        rw [h1, h2]
        exact Nat.mul_lt_mul_of_pos_left (by omega) (Nat.two_pow_pos _)
      generalize setN (zs.getD k 0 :: zs.drop (k + 1)) = S at *
      generalize zs.getD k 0 = z at *
      have hszr : w'.heap.size ≤ wr.heap.size := HB.out.size
      have HTL : Hid ((zs.take k).length = k) := by show _ = _; rw [List.length_take]; omega
      go_wp2_with fail
      refine (tz_any S wr hlt64 (by intro h; rw [h] at hpos; exact absurd hpos (by decide)) (HT.out.below HB.out)).mono ?_
      rintro e w2 ⟨rfl, hw2⟩
      subst hw2
      rw [hctz]
      go_wp2_with (first | (at_builtin; refine wpList_append_own _ rfl _ _ 22 rfl w'.heap.size 3 i3 (.int .i64 0) 1 8 Tryz.underlying22 hi3 hz30 hz31 hz32 rfl (by decide) _ _ _ rfl (HO.out.alloc _) ⟨w2.heap.size, 0, none⟩ 1 1 [.int .i64 z] rfl rfl (one_new _ _ _) (one_int _) ?c3 ?c4 ?c5 ?_))
      case c3 => rw [HTL.out]; unfold maxLen; omega
      case c4 => rw [HTL.out]; omega
      case c5 => simp; omega
      intro v' w3 ho hg _
      rw [show k + 1 = (zs.take k).length + 1 by rw [HTL.out]] at ho
      have R := owns_push (z := z) (N := (zs.take k).length + 1) hszr (l := zs.take k) HO.out HB.out ho hg rfl
      rw [← HTK.out] at R
      have R1 : Hid (w3.ownsRow w'.heap.size 3 1 v' (zs.take (k + 1)).length (ints (zs.take (k + 1)))) := by
        have := R.1
        have e : (zs.take (k + 1)).length = (zs.take k).length + 1 := by rw [HTK.out]; simp
        rw [e]
        exact this
      have R2 : Hid (Below w'.heap.size w' w3) := R.2
      clear R ho hg HO HB
      go_wp2_with (simp only [hrest])
      go_roundw
      case rel => exact ⟨k + 1, by omega, rfl, R1.out, R2.out⟩
      case measure => have := HME.out; simp [intOf]; omega
    · have hke : zs.take k = zs := List.take_of_length_le (by omega)
      have hkd : zs.drop k = [] := List.drop_eq_nil_of_le (by omega)
      rw [hkd]
      have HO' : Hid (wr.ownsRow w'.heap.size 3 1 u3 zs.length (ints zs)) := by have := HO.out; rw [hke] at this; exact this
      clear HO
      go_wp2
      go_ret
      exact ⟨_, rfl, HO'.out, HB.out⟩
end Go.Proofs.YtkfdpcgmpbopnaaGreatDoor
