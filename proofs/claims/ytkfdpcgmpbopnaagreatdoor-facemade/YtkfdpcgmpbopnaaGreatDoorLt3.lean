/- The document's answer: which corners meet each row. -/
import Derived.Test.YtkfdpcgmpbopnaaGreatDoorLt2
namespace Go.Proofs.YtkfdpcgmpbopnaaGreatDoor
open Go.RowKit
attribute [local go_sem ↓] Go.wp_at_zero Go.wp_at_succ

theorem ofInt_nat {a : Nat} (ha : a < 4611686018427387904) : (BitVec.ofInt 64 (a : Int)).toNat = a := by
  rw [BitVec.toNat_ofInt]
  omega

theorem wrap_small {a : Nat} (ha : a < 4611686018427387904) : IntKind.i64.wrap (a : Int) = (a : Int) := by
  rw [IntWalk.i64_left]
  exact IntWalk.wrap64_in _ ⟨by omega, by omega⟩

theorem bits_or_i64_nat (a b : Nat) (ha : a < 4611686018427387904) (hb : b < 4611686018427387904) : bits .or .i64 (a : Int) (b : Int) = ((a ||| b : Nat) : Int) := by
  show IntKind.i64.wrap ((BitVec.ofInt 64 (a : Int) ||| BitVec.ofInt 64 (b : Int)).toNat : Int) = _
  rw [BitVec.toNat_or, ofInt_nat ha, ofInt_nat hb]
  exact wrap_small (Nat.or_lt_two_pow (n := 62) ha hb)

theorem bits_and_i64_nat (a b : Nat) (ha : a < 4611686018427387904) (hb : b < 4611686018427387904) : bits .and .i64 (a : Int) (b : Int) = ((a &&& b : Nat) : Int) := by
  show IntKind.i64.wrap ((BitVec.ofInt 64 (a : Int) &&& BitVec.ofInt 64 (b : Int)).toNat : Int) = _
  rw [BitVec.toNat_and, ofInt_nat ha, ofInt_nat hb]
  exact wrap_small (Nat.lt_of_le_of_lt Nat.and_le_left ha)

/-- Which of the first i corners meet a row, as bits. -/
def sdTo (C : List (List Int)) (r : List Int) : Nat → Nat
  | 0 => 0
  | i + 1 => sdTo C r i ||| (if overL r (C.getD i []) = 0 then 2 ^ i else 0)

theorem sdTo_lt (C : List (List Int)) (r : List Int) : ∀ i, sdTo C r i < 2 ^ i
  | 0 => by simp [sdTo]
  | i + 1 => by
    have ih := sdTo_lt C r i
    have h1 : (2 : Nat) ^ i < 2 ^ (i + 1) := Nat.pow_lt_pow_right (by decide) (by omega)
    unfold sdTo
    refine Nat.or_lt_two_pow (by omega) ?_
    split
    · exact h1
    · exact Nat.pow_pos (by decide)

theorem sdTo_bit (C : List (List Int)) (r : List Int) : ∀ i k, (sdTo C r i).testBit k = (decide (k < i) && decide (overL r (C.getD k []) = 0))
  | 0, k => by simp [sdTo]
  | i + 1, k => by
    unfold sdTo
    rw [Nat.testBit_or, sdTo_bit C r i k]
    by_cases hk : k = i
    · subst hk
      by_cases h : overL r (C.getD k []) = 0
      · rw [if_pos h, Nat.testBit_two_pow_self, decide_eq_true h]; simp
      · rw [if_neg h, decide_eq_false h]; simp
    · have e : (if overL r (C.getD i []) = 0 then 2 ^ i else 0).testBit k = false := by
        split
        · exact Nat.testBit_two_pow_of_ne (fun h => hk h.symm)
        · simp
      rw [e]
      have : decide (k < i + 1) = decide (k < i) := decide_eq_decide.2 (by omega)
      rw [this]; simp

def sdN (C : List (List Int)) (r : List Int) : Nat := sdTo C r C.length

set_option maxRecDepth 100000 in
set_option maxHeartbeats 1600000 in
theorem sidesOf_any (B d : Nat) (C : List (List Int)) (v : Value) (w : World) (hv : Mat B 22 3 w v C) (hd1 : 1 ≤ d) (hd : d ≤ 4) (hC1 : 1 ≤ C.length) (hC : C.length ≤ 16) (hx : Box d 6 C) :
    Calls Tryz.prog 26 #[v] w fun e w' => ∃ x s, e = .returned x ∧ SAsc s ∧ (∀ r, r ∈ s ↔ r ∈ rowsD C d) ∧ w'.ownsRow w.heap.size 3 1 x s.length (ints (s.map fun r => (sdN C r : Int))) ∧ Below w.heap.size w w' := by
  obtain ⟨i3, hi3, hz30, hz31, hz32⟩ := info_parts Tryz.info3
  obtain ⟨b, o, cap, r0, hvv, hlc, _, _⟩ := mat_cell hv (k := 0) (by omega)
  subst hvv
  have HV : Hid (Mat w.heap.size 22 3 w (.slice (some ⟨b, o, none⟩) C.length cap) C) := hv.any (Nat.le_refl _)
  have HX : Hid (Box d 6 C) := hx
  have HRO : Hid (Calls Tryz.prog 43 #[.slice (some ⟨b, o, none⟩) C.length cap] w fun e w' => ∃ x s, e = .returned x ∧ Fr w.heap.size 22 3 w' x s ∧ SAsc s ∧ (∀ r, r ∈ s ↔ r ∈ rowsD C d) ∧ Below w.heap.size w w') := rowsOf_any w.heap.size d C _ w HV.out hd1 hd hC1 hC (box_up HX.out)
  clear hv hx
  obtain ⟨n, hn⟩ : ∃ n, n = C.length := ⟨_, rfl⟩
  have HN : Hid (n = C.length) := hn
  rw [← hn] at HV HRO hC1 hC hlc ⊢
  clear hn
  go_enter Tryz.func26, Tryz.ntmps26
  go_wp2_with fail
  refine HRO.out.mono ?_
  rintro e w1 ⟨sv, s, rfl, hf, hsa, hm, hb⟩
  have HF : Hid (Fr w.heap.size 22 3 w1 sv s) := hf
  have HSA : Hid (SAsc s) := hsa
  have HM : Hid (∀ r, r ∈ s ↔ r ∈ rowsD C d) := hm
  have HB1 : Hid (Below w.heap.size w w1) := hb
  have hsz1 : w.heap.size ≤ w1.heap.size := hb.size
  obtain ⟨so, sc, hsv, hsl1, hsl2⟩ := fr_open hf
  subst hsv
  have HSL : Hid (s.length ≤ 16777216) := rowsD_len hd (by rw [← HN.out]; exact hC) hsa hm
  clear hf hsa hm hb HRO
  go_wp2
  go_loopw [4, 5] (fun x i wr => ∃ k : Nat, k ≤ s.length ∧ i = .int .i64 k ∧ wr.ownsRow w1.heap.size 3 1 x k (ints ((s.take k).map fun r => (sdN C r : Int))) ∧ Below w1.heap.size w1 wr) (fun _ i _ => s.length - (intOf i).toNat)
  case atStart => exact ⟨0, Nat.zero_le _, rfl, World.ownsRow_nil _ _ _ _, Below.refl _ _⟩
  case round =>
    obtain ⟨k, hk, rfl, ho, hbel⟩ := hrel
    rename World => wa
    have HO : Hid (wa.ownsRow w1.heap.size 3 1 u4 k (ints ((s.take k).map fun r => (sdN C r : Int)))) := ho
    have HB : Hid (Below w1.heap.size w1 wa) := hbel
    have HBa : Hid (Below w.heap.size w wa) := HB1.out.trans (hbel.mono hsz1)
    have hsza : w1.heap.size ≤ wa.heap.size := hbel.size
    clear ho hbel
    by_cases hlt : k < s.length
    · obtain ⟨b2, o2, cp2, rv, hs2, _, hcc2, hr2⟩ := mat_cell ((HF.out.rws.mat (Nat.le_refl _)).below HB.out (Nat.le_refl _)) hlt
      simp only [Value.slice.injEq, true_and] at hs2
      obtain ⟨rfl, rfl⟩ := hs2
      have hmem : s.getD k [] ∈ s := by simp [hlt]
      have HSN : Hid (ints ((s.take (k + 1)).map fun r => (sdN C r : Int)) = ints ((s.take k).map fun r => (sdN C r : Int)) ++ [.int .i64 (sdN C (s.getD k []) : Int)]) := by
        show _ = _
        have e : s.getD k [] = s[k] := by simp [hlt]
        rw [List.take_succ_eq_append_getElem hlt, e]
        simp only [ints, List.map_append, List.map_cons, List.map_nil]
      have hrl := (rowsD_facts (box_up HX.out) hd1 (by omega) _ ((HM.out _).1 hmem)).len
      obtain ⟨qa, qc, hqe, hqc, _⟩ := sl_open hr2
      rw [hrl] at hqe hqc
      subst hqe
      have HRD : Hid (s.getD k [] ∈ rowsD C d) := (HM.out _).1 hmem
      have HRS : Hid (∀ W, Below wa.heap.size wa W → W.cell? ⟨b2, o2 + k, none⟩ = some (.slice qa (d + 1) qc) ∧ Sl w.heap.size 3 W (.slice qa (d + 1) qc) (ints (s.getD k []))) := fun W h => ⟨(h.cell (lt_of_cell hcc2)).trans hcc2, hr2.below h (Nat.le_refl _)⟩
      clear hmem hr2 hcc2 hrl
      generalize s.getD k [] = r at *
      have hkI : (k : Int) < (s.length : Int) := by omega
      have hkI0 : (0 : Int) ≤ (k : Int) := by omega
      go_wp2
      go_loopw [6, 7] (fun x i wq => ∃ j : Nat, j ≤ n ∧ i = .int .i64 j ∧ x = .int .i64 (sdTo C r j : Int) ∧ Qw wa wq) (fun _ i _ => n - (intOf i).toNat)
      case atStart => exact ⟨0, Nat.zero_le _, rfl, rfl, Qw.refl _⟩
      case round =>
        obtain ⟨j, hj, rfl, rfl, hqw⟩ := hrel
        have HQ : Hid (Qw wa wr) := hqw
        have HBr : Hid (Below wa.heap.size wa wr) := hqw.below
        have HBw : Hid (Below w.heap.size w wr) := HBa.out.trans (hqw.below.mono HBa.out.size)
        clear hqw
        by_cases hjl : j < n
        · have hjC : j < C.length := by rw [← HN.out]; exact hjl
          have hmemC : C.getD j [] ∈ C := by simp [hjC]
          obtain ⟨b4, o4, cp4, xv, hs4, _, hcc4, hx4⟩ := mat_cell (HV.out.below HBw.out (Nat.le_refl _)) hjC
          simp only [Value.slice.injEq, Option.some.injEq, Addr.mk.injEq, and_true] at hs4
          obtain ⟨⟨rfl, rfl⟩, hxx, rfl⟩ := hs4
          clear hxx
          have hxl := (HX.out _ hmemC).1
          obtain ⟨xo, xc, hxe, _, _⟩ := sl_open hx4
          rw [hxl] at hxe
          subst hxe
          have HCA : Hid (∀ nn, Calls Tryz.prog 44 #[.slice qa (d + 1) qc, .slice xo d xc] (wr.drewN nn) fun e w' => e = .returned (.int .i64 (overL r (C.getD j []))) ∧ ∃ n, w' = (wr.drewN nn).drewN n) := fun nn =>
            over_of (rowsD_facts (box_up HX.out) hd1 (by omega) r HRD.out) hxl (rowsD_last (box_up HX.out) hd1 (by omega) HRD.out) hd (fun z hz => by have := (HX.out _ hmemC).2 z hz; omega) w.heap.size _ _ (wr.drewN nn) ((HRS.out wr HBr.out).2.drewN nn) (hx4.drewN nn)
          have hccR := (HRS.out wr HBr.out).1
          have HSD : Hid (sdTo C r (j + 1) = sdTo C r j ||| (if overL r (C.getD j []) = 0 then 2 ^ j else 0)) := rfl
          have HLT : Hid (sdTo C r j < 65536) := Nat.lt_of_lt_of_le (sdTo_lt C r j) (Nat.le_trans (Nat.pow_le_pow_right (by decide) (show j ≤ 16 by omega)) (by decide))
          have HPJ : Hid ((2 : Nat) ^ j ≤ 65536) := Nat.le_trans (Nat.pow_le_pow_right (by decide) (show j ≤ 16 by omega)) (by decide)
          clear hmemC hx4 hjC hxl
          obtain ⟨S1, hS1⟩ : ∃ S1, S1 = sdTo C r (j + 1) := ⟨_, rfl⟩
          have HS1E : Hid (S1 = sdTo C r (j + 1)) := hS1
          rw [← hS1] at HSD
          clear hS1
          generalize sdTo C r j = S at *
          generalize overL r (C.getD j []) = z at *
          have hjI : (j : Int) < (n : Int) := by omega
          have hjI0 : (0 : Int) ≤ (j : Int) := by omega
          go_wp2
          go_quiet ((go_at_call 44; exact Calls.quiet_of (w := wr) (HCA.out _)))
          obtain ⟨Wq, hWq⟩ : ∃ Wq, Wq = wr.drewN nq := ⟨_, rfl⟩
          rw [← hWq]
          have HQq : Hid (Qw wa Wq) := by rw [hWq]; exact HQ.out.drewN nq
          clear hWq hccR hcc4 HCA
          by_cases hzz : z = 0
          · subst hzz
            rw [if_pos rfl] at HSD
            have HBT : Hid (bits .or .i64 (S : Int) (wrap64 ((2 : Int) ^ j)) = (S1 : Int)) := by
              have h1 := HLT.out
              have h2 := HPJ.out
              have e : ((2 : Int) ^ j) = ((2 ^ j : Nat) : Int) := by simp
              show bits .or .i64 (S : Int) (wrap64 ((2 : Int) ^ j)) = (S1 : Int)
              rw [HSD.out, e]
              generalize 2 ^ j = q at *
              rw [IntWalk.wrap64_in (q : Int) ⟨by omega, by omega⟩]
              exact bits_or_i64_nat S q (by omega) (by omega)
            go_wp2
            exact ⟨⟨j + 1, hjl, by go_num, by rw [HBT.out, HS1E.out], HQq.out⟩, by simp [intOf]; omega⟩
          · have tz : (z == 0) = false := by simp [hzz]
            have HS1 : Hid (S1 = S) := by
              have h := HSD.out
              rw [if_neg hzz, Nat.or_zero] at h
              exact h
            clear hzz HSD
            go_wp2
            exact ⟨⟨j + 1, hjl, by go_num, by rw [← HS1.out, HS1E.out], HQq.out⟩, by simp [intOf]; omega⟩
        · obtain rfl : n = j := by omega
          have HSE : Hid (sdTo C r n = sdN C r) := by
            show _ = _
            unfold sdN
            rw [HN.out]
          rw [HSE.out]
          generalize sdN C r = S at *
          have HOr : Hid (wr.ownsRow w1.heap.size 3 1 u4 k (ints ((s.take k).map fun r => (sdN C r : Int)))) := by
            obtain ⟨nn, hnn⟩ := HQ.out
            subst hnn
            exact HO.out
          have HB1r : Hid (Below w1.heap.size w1 wr) := HB.out.trans (HBr.out.mono hsza)
          have hszr : w1.heap.size ≤ wr.heap.size := HB1r.out.size
          have hk2 : k ≤ 16777216 := Nat.le_trans hk HSL.out
          clear hj hjl HQ HSE
          go_wp2_with (first | (at_builtin; refine wpList_append_own _ rfl _ _ 22 rfl w1.heap.size 3 i3 (.int .i64 0) 1 8 Tryz.underlying22 hi3 hz30 hz31 hz32 rfl (by decide) _ _ _ rfl (HOr.out.alloc _) ⟨wr.heap.size, 0, none⟩ 1 1 [.int .i64 S] rfl rfl (one_new _ _ _) (one_int _) ?c3 ?c4 ?c5 ?_))
          case c3 => unfold maxLen; omega
          case c4 => omega
          case c5 => first | exact hszr | omega | (simp; omega)
          intro v' w3 ho3 hg3 _
          have R1 : Hid (w3.ownsRow w1.heap.size 3 1 v' (k + 1) (ints ((s.take (k + 1)).map fun r => (sdN C r : Int)))) := by
            show World.ownsRow _ _ _ _ _ _ _
            rw [HSN.out, List.map_take]
            exact ho3
          have R2 : Hid (Below w1.heap.size w1 w3) := (HB1r.out.alloc hszr _).grown hg3 (by simp; omega) (fun x hx => (HOr.out.lt x hx).1)
          clear ho3 hg3
          go_wp2
          exact ⟨⟨k + 1, hlt, by go_num, R1.out, R2.out⟩, by simp [intOf]; omega⟩
    · obtain rfl : s.length = k := by omega
      have HOE : Hid (wa.ownsRow w.heap.size 3 1 u4 s.length (ints (s.map fun r => (sdN C r : Int)))) := by
        have h := HO.out
        rw [List.take_length] at h
        exact h.mono hsz1
      clear hk hlt HO
      go_wp2
      go_ret
      exact ⟨_, s, rfl, HSA.out, HM.out, HOE.out, HBa.out⟩

end Go.Proofs.YtkfdpcgmpbopnaaGreatDoor
