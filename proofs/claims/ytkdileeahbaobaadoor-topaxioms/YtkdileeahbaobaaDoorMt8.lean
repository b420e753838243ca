/- Free sets: facetref.IsFree, matroid.freeIn. -/
import Derived.Test.YtkdileeahbaobaaDoorMtB
namespace Go.Proofs.YtkdileeahbaobaaDoor
open Go.RowKit
attribute [local go_sem ↓] Go.wp_at_zero Go.wp_at_succ

theorem ofInt_nat {a : Nat} (ha : a < 4611686018427387904) : (BitVec.ofInt 64 (a : Int)).toNat = a := by
  rw [BitVec.toNat_ofInt]
  omega

theorem wrap_small {a : Nat} (ha : a < 4611686018427387904) : IntKind.i64.wrap (a : Int) = (a : Int) := by
  rw [IntWalk.i64_left]
  exact IntWalk.wrap64_in _ ⟨by omega, by omega⟩

theorem bits_or_i64_nat (a b : Nat) (ha : a < 4611686018427387904) (hb : b < 4611686018427387904) : bits .or .i64 (a : Int) (b : Int) = ((a ||| b : Nat) : Int) := by
  show IntKind.i64.wrap ((BitVec.ofInt 64 (a : Int) ||| BitVec.ofInt 64 (b : Int)).toNat : Int) = _
  rw [BitVec.toNat_or, ofInt_nat ha, ofInt_nat hb]
  exact wrap_small (Nat.or_lt_two_pow (n := 62) ha hb)

theorem bits_and_i64_nat (a b : Nat) (ha : a < 4611686018427387904) (hb : b < 4611686018427387904) : bits .and .i64 (a : Int) (b : Int) = ((a &&& b : Nat) : Int) := by
  show IntKind.i64.wrap ((BitVec.ofInt 64 (a : Int) &&& BitVec.ofInt 64 (b : Int)).toNat : Int) = _
  rw [BitVec.toNat_and, ofInt_nat ha, ofInt_nat hb]
  exact wrap_small (Nat.lt_of_le_of_lt Nat.and_le_left ha)

/-- A set is part of one of these. -/
def frB (s : Nat) (b : Int) : Bool := outN s b.toNat == 0
def freeB (bs : List Int) (s : Nat) : Bool := bs.any (frB s)

theorem xor0 {a b : Nat} (h : a ^^^ b = 0) : a = b := Nat.eq_of_testBit_eq fun i => by
  have h2 := congrArg (fun x => Nat.testBit x i) h
  simp only [Nat.testBit_xor, Nat.zero_testBit] at h2
  cases ha : a.testBit i <;> cases hb : b.testBit i <;> simp_all

theorem frB_doc (s y : Nat) : frB s (y : Int) = (((y &&& s : Nat) : Int) == (s : Int)) := by
  unfold frB outN
  rw [Int.toNat_natCast, Bool.eq_iff_iff]
  simp only [beq_iff_eq]
  constructor
  · intro h
    have := xor0 h
    rw [Nat.and_comm, ← this]
  · intro h
    have : y &&& s = s := by omega
    rw [Nat.and_comm, this, Nat.xor_self]

theorem any_snocM {p : Int → Bool} {l : List Int} {k : Nat} (h : k < l.length) (h0 : (l.take k).any p = false) : (l.take (k + 1)).any p = p (l.getD k 0) := by
  rw [List.take_succ_eq_append_getElem h, List.any_append, h0]; simp [h]

theorem any_hitM {p : Int → Bool} {l : List Int} {k : Nat} (h : k < l.length) (h0 : p (l.getD k 0) = true) : l.any p = true := by
  rw [List.any_eq_true]
  exact ⟨l.getD k 0, by simp [h], h0⟩

set_option maxRecDepth 100000 in
theorem frIn_any (s y : Nat) (p : Addr) (w : World) (hs : s < 256) (hy : y < 256) (hc : w.cell? p = some (.int .u64 s)) :
    Calls Tryd.prog 34 #[.int .i64 y, .pointer (some p)] w fun e w' => e = .returned (.bool (frB s y)) ∧ w' = w := by
  have HI : Hid (Calls Tryd.prog 35 #[.int .u64 s, .int .u64 y] w fun e w' => e = .returned (.bool (frB s y)) ∧ w' = w) := in_any s y w (by omega) (by omega)
  go_enter Tryd.func34, Tryd.ntmps34
  go_wp2_with fail
  refine HI.out.mono ?_
  rintro e w' ⟨rfl, rfl⟩
  go_wp2
  go_ret
  exact ⟨rfl, rfl⟩

set_option maxRecDepth 100000 in
set_option maxHeartbeats 400000 in
theorem indexF_any (B : Nat) (s : Nat) (zs : List Int) (v : Value) (p : Addr) (w : World) (hv : Sl B 3 w v (ints zs)) (h8 : B8 zs) (hs : s < 256) (hc : w.cell? p = some (.int .u64 s)) :
    Calls Tryd.prog 36 #[v, .func (.func 34) #[] #[.pointer (some p)]] w fun e w' => e = .returned (.int .i64 (findI (frB s) zs)) ∧ w' = w := by
  obtain ⟨ao, cap, hvv, hlc, hcm⟩ := sl_open hv
  subst hvv
  have HV : Hid (Sl B 3 w (.slice ao zs.length cap) (ints zs)) := hv
  have HIL : Hid (∀ x ∈ zs, Calls Tryd.prog 34 #[.int .i64 x, .pointer (some p)] w fun e w' => e = .returned (.bool (frB s x)) ∧ w' = w) := fun x hx => by
    obtain ⟨h1, h2⟩ := h8 x hx
    obtain ⟨y, rfl⟩ : ∃ y : Nat, x = (y : Int) := ⟨x.toNat, by omega⟩
    exact frIn_any s y p w hs (by omega) hc
  clear hv hc h8
  go_enter Tryd.func36, Tryd.ntmps36
  go_wp2
  go_loop [8] (fun i => ∃ k : Nat, k ≤ zs.length ∧ i = .int .i64 k ∧ (zs.take k).any (frB s) = false) (fun i => zs.length - (intOf i).toNat)
  case atStart => exact ⟨0, Nat.zero_le _, rfl, by simp⟩
  case round =>
    obtain ⟨k, hk, rfl, hno⟩ := hrel
    have HN : Hid ((zs.take k).any (frB s) = false) := hno
    clear hno
    by_cases hlt : k < zs.length
    · obtain ⟨b', o, cp, hs', hc1, hcc⟩ := sl_cell HV.out hlt
      simp only [Value.slice.injEq] at hs'
      obtain ⟨rfl, _, rfl⟩ := hs'
      have HS1 : Hid ((zs.take (k + 1)).any (frB s) = frB s zs[k]) := any_snoc (p := frB s) hlt HN.out
      have HH : Hid (frB s zs[k] = true → findI (frB s) zs = k) := fun h => findI_hit (p := frB s) hlt HN.out h
      rw [show zs.getD k 0 = zs[k] by simp [hlt]] at hcc
      have HIX : Hid (Calls Tryd.prog 34 #[.int .i64 zs[k], .pointer (some p)] w fun e w' => e = .returned (.bool (frB s zs[k])) ∧ w' = w) := HIL.out _ (List.getElem_mem _)
      generalize zs[k] = x at *
      generalize frB s x = fb at *
      cases fb
      · go_wp2_with (go_at_call 34; refine HIX.out.mono ?_; rintro e w' ⟨rfl, rfl⟩)
        go_round
        case rel => exact ⟨k + 1, by omega, by go_num, HS1.out⟩
        case measure => simp [intOf]; omega
      · have HH2 : Hid (findI (frB s) zs = k) := HH.out rfl
        clear HH
        go_wp2_with (go_at_call 34; refine HIX.out.mono ?_; rintro e w' ⟨rfl, rfl⟩)
        go_ret
        exact ⟨ret_int HH2.out.symm, rfl⟩
    · have e : zs.take k = zs := List.take_of_length_le (by omega)
      rw [e] at HN
      have HF : Hid (findI (frB s) zs = -1) := findI_none HN.out
      go_wp2
      go_ret
      exact ⟨ret_int HF.out.symm, rfl⟩

set_option maxRecDepth 100000 in
theorem containsF_any (B : Nat) (s : Nat) (zs : List Int) (v : Value) (p : Addr) (w : World) (hv : Sl B 3 w v (ints zs)) (h8 : B8 zs) (hs : s < 256) (hc : w.cell? p = some (.int .u64 s)) :
    Calls Tryd.prog 24 #[v, .func (.func 34) #[] #[.pointer (some p)]] w fun e w' => e = .returned (.bool (freeB zs s)) ∧ w' = w := by
  have HII := indexF_any B s zs v p w hv h8 hs hc
  go_enter Tryd.func24, Tryd.ntmps24
  go_wp2_with fail
  refine HII.mono ?_
  rintro e w' ⟨rfl, rfl⟩
  go_wp2
  go_ret
  exact ⟨ret_bool findI_ge, rfl⟩

set_option maxRecDepth 100000 in
theorem free1_any (B : Nat) (s b : Nat) (bs : List Int) (v : Value) (w : World) (hv : Sl B 3 w v (ints bs)) (h8 : B8 bs) (hs : s < 256) (hc : w.cell? ⟨b, 1, none⟩ = some v) :
    Calls Tryd.prog 33 #[.int .u64 s, .pointer (some ⟨b, 0, none⟩)] w fun e w' => e = .returned (.bool (freeB bs s)) ∧ Below w.heap.size w w' := by
  obtain ⟨ao, cap, hvv, hlc, hcm⟩ := sl_open hv
  subst hvv
  obtain ⟨W, hW⟩ : ∃ W, W = w.alloc (.cells #[.int .u64 s] 48) := ⟨_, rfl⟩
  have HBA : Hid (Below w.heap.size w W) := by rw [hW]; exact (Below.refl _ _).alloc (Nat.le_refl _) _
  have hcW : W.cell? ⟨b, 1, none⟩ = some (.slice ao bs.length cap) := (HBA.out.cell (lt_of_cell hc)).trans hc
  have HCF : Hid (Calls Tryd.prog 24 #[.slice ao bs.length cap, .func (.func 34) #[] #[.pointer (some ⟨w.heap.size, 0, none⟩)]] W fun e w' => e = .returned (.bool (freeB bs s)) ∧ w' = W) :=
    containsF_any B s bs _ _ W (hv.below HBA.out (Nat.le_refl _)) h8 hs (by rw [hW]; simp)
  have hcA : (w.alloc (.cells #[.int .u64 s] 48)).cell? ⟨b, 1, none⟩ = some (.slice ao bs.length cap) := by rw [← hW]; exact hcW
  clear hv h8 hcW
  generalize freeB bs s = fb at *
  go_enter Tryd.func33, Tryd.ntmps33
  go_wp2_with fail
  rw [← hW]
  refine HCF.out.mono ?_
  rintro e w' ⟨rfl, hw'⟩
  rw [hw']
  clear hw' hW HCF
  go_wp2
  go_ret
  exact ⟨rfl, HBA.out⟩

end Go.Proofs.YtkdileeahbaobaaDoor
