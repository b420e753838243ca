/- tropic: what may be, terms, the least of a list, where it is. -/
import Derived.Test.YtmkbijclbogjhaaReads
import Derived.Test.YtmkbijclbogjhaaCycAll
import Derived.Test.YtmkbijclbogjhaaRefs2
import Derived.Test.YtmkbijclbogjhaaRun1
import Derived.Deep.OwnRows
namespace Go.Proofs.Ytmkbijclbogjhaa
open Go.RowKit
attribute [local go_sem ↓] Go.wp_at_zero Go.wp_at_succ

def listTE (l : List Int) : Int := if l.length < 1 ∨ 20 < l.length then 2 else if l.any (farB · 10000) then 4 else 0

/-- A list that may be. -/
structure Lst (l : List Int) : Prop where
  n1 : 1 ≤ l.length
  n20 : l.length ≤ 20
  bd : ∀ z ∈ l, -10000 ≤ z ∧ z ≤ 10000

theorem list_okT {l : List Int} (h : listTE l = 0) : Lst l := by
  unfold listTE at h
  by_cases h0 : l.length < 1 ∨ 20 < l.length
  · rw [if_pos h0] at h; simp at h
  · rw [if_neg h0] at h
    cases h2 : l.any (farB · 10000)
    · refine ⟨by omega, by omega, fun z hz => ?_⟩
      have := List.any_eq_false.1 h2 z hz
      simp only [farB, Bool.or_eq_true, decide_eq_true_eq, not_or] at this
      omega
    · rw [h2] at h; simp at h

theorem Lst.at {l : List Int} (h : Lst l) (j : Nat) : -10000 ≤ l.getD j 0 ∧ l.getD j 0 ≤ 10000 := by
  by_cases hj : j < l.length
  · have e : l.getD j 0 = l[j] := by simp [hj]
    rw [e]
    exact h.bd _ (List.getElem_mem _)
  · simp [hj]

set_option maxRecDepth 100000 in
set_option maxHeartbeats 400000 in
theorem checkT_any (B : Nat) (l : List Int) (v : Value) (w : World) (hv : Sl B 3 w v (ints l)) :
    Calls Try.prog 7 #[v] w fun e w' => e = .returned (.int .i64 (listTE l)) ∧ Below w.heap.size w w' := by
  obtain ⟨ao, cap, hvv, hlc, hcm⟩ := sl_open hv
  subst hvv
  have HA : Hid (Calls Try.prog 18 #[.slice ao l.length cap, .int .i64 10000] w fun e w' => e = .returned (.bool (l.any (farB · 10000))) ∧ Below w.heap.size w w') := anyBeyond_any B l _ 10000 w hv (by decide) (by decide)
  clear hv
  by_cases h1 : l.length < 1
  · have b1 : decide ((l.length : Int) < 1) = true := decide_eq_true (by omega)
    have HE : Hid (listTE l = 2) := if_pos (by omega)
    go_enter Try.func7, Try.ntmps7
    go_wp2
    go_ret
    exact ⟨by rw [HE.out]; rfl, Below.refl _ _⟩
  · have b1 : decide ((l.length : Int) < 1) = false := decide_eq_false (by omega)
    by_cases h2 : 20 < l.length
    · have b2 : decide ((20 : Int) < (l.length : Int)) = true := decide_eq_true (by omega)
      have HE : Hid (listTE l = 2) := if_pos (by omega)
      go_enter Try.func7, Try.ntmps7
      go_wp2
      go_ret
      exact ⟨by rw [HE.out]; rfl, Below.refl _ _⟩
    · have b2 : decide ((20 : Int) < (l.length : Int)) = false := decide_eq_false (by omega)
      have HE : Hid (listTE l = if l.any (farB · 10000) then 4 else 0) := if_neg (by omega)
      generalize l.any (farB · 10000) = R at *
      cases R
      all_goals
        go_enter Try.func7, Try.ntmps7
        go_wp2_with fail
        refine HA.out.mono ?_
        rintro e w' ⟨rfl, hb⟩
        have HB : Hid (Below w.heap.size w w') := hb
        clear hb
        go_wp2
        go_ret
        exact ⟨by rw [HE.out]; rfl, HB.out⟩

set_option maxRecDepth 100000 in
set_option maxHeartbeats 400000 in
theorem listMay_any (B : Nat) (l : List Int) (v : Value) (w : World) (hv : Sl B 3 w v (ints l)) :
    Calls Try.prog 4 #[v] w fun e w' => e = .returned (.int .i64 (listTE l)) ∧ w' = w := by
  obtain ⟨ao, cap, hvv, hlc, hcm⟩ := sl_open hv
  subst hvv
  have HA : Hid (Calls Try.prog 11 #[.slice ao l.length cap, .int .i64 10000] w fun e w' => e = .returned (.bool (l.any (farB · 10000))) ∧ w' = w) := farAny_any B l _ 10000 w hv (by decide) (by decide)
  clear hv
  by_cases h1 : l.length < 1
  · have b1 : decide ((l.length : Int) < 1) = true := decide_eq_true (by omega)
    have HE : Hid (listTE l = 2) := if_pos (by omega)
    go_enter Try.func4, Try.ntmps4
    go_wp2
    go_ret
    exact ⟨by rw [HE.out]; rfl, rfl⟩
  · have b1 : decide ((l.length : Int) < 1) = false := decide_eq_false (by omega)
    by_cases h2 : 20 < l.length
    · have b2 : decide ((20 : Int) < (l.length : Int)) = true := decide_eq_true (by omega)
      have HE : Hid (listTE l = 2) := if_pos (by omega)
      go_enter Try.func4, Try.ntmps4
      go_wp2
      go_ret
      exact ⟨by rw [HE.out]; rfl, rfl⟩
    · have b2 : decide ((20 : Int) < (l.length : Int)) = false := decide_eq_false (by omega)
      have HE : Hid (listTE l = if l.any (farB · 10000) then 4 else 0) := if_neg (by omega)
      generalize l.any (farB · 10000) = R at *
      cases R
      all_goals
        go_enter Try.func4, Try.ntmps4
        go_wp2_with fail
        refine HA.out.mono ?_
        rintro e w' ⟨rfl, rfl⟩
        go_wp2
        go_ret
        exact ⟨by rw [HE.out]; rfl, rfl⟩

/-- All terms at a by b. -/
def tmL (l : List Int) (a b : Int) : List Int := (List.range l.length).map fun j => l.getD j 0 * b + (j : Int) * a

theorem tmL_len (l : List Int) (a b : Int) : (tmL l a b).length = l.length := by simp [tmL]
theorem tmL_at {l : List Int} {a b : Int} {j : Nat} (h : j < l.length) : (tmL l a b).getD j 0 = l.getD j 0 * b + (j : Int) * a := by
  rw [List.getD_eq_getElem?_getD]
  simp [tmL, h]

theorem tm_bd {x b a : Int} {j : Nat} (hx : -10000 ≤ x ∧ x ≤ 10000) (hb : -20 ≤ b ∧ b ≤ 20) (ha : -20000 ≤ a ∧ a ≤ 20000) (hj : j ≤ 20) : (-200000 ≤ x * b ∧ x * b ≤ 200000) ∧ (-400000 ≤ (j : Int) * a ∧ (j : Int) * a ≤ 400000) := by
  have h1 : (x * b).natAbs ≤ 10000 * 20 := by rw [Int.natAbs_mul]; exact Nat.mul_le_mul (by omega) (by omega)
  have h2 : ((j : Int) * a).natAbs ≤ 20 * 20000 := by rw [Int.natAbs_mul]; exact Nat.mul_le_mul (by omega) (by omega)
  omega

set_option maxRecDepth 100000 in
set_option maxHeartbeats 800000 in
theorem terms_any (B : Nat) (l : List Int) (a b : Int) (v : Value) (w : World) (hl : Lst l) (hv : Sl B 3 w v (ints l)) (hB : B ≤ w.heap.size) (hb : -20 ≤ b ∧ b ≤ 20) (ha : -20000 ≤ a ∧ a ≤ 20000) :
    Calls Try.prog 20 #[v, .int .i64 a, .int .i64 b] w fun e w' => ∃ u, e = .returned u ∧ w'.ownsRow w.heap.size 3 1 u l.length (ints (tmL l a b)) ∧ Below w.heap.size w w' := by
  obtain ⟨ao, cap, hvv, hlc, hcm⟩ := sl_open hv
  subst hvv
  have HL : Hid (Lst l) := hl
  have HV : Hid (Sl B 3 w (.slice ao l.length cap) (ints l)) := hv
  have h20 := hl.n20
  have HB : Hid (B ≤ w.heap.size) := hB
  have HHB : Hid (-20 ≤ b ∧ b ≤ 20) := hb
  have HHA : Hid (-20000 ≤ a ∧ a ≤ 20000) := ha
  clear hv hl hB hb ha
  have hmk := run_make_row' (P := Try.prog) 22 3 (.int .i64 0) 8 Try.underlying22 Try.info3 rfl .i64 .i64 l.length (by omega) (by omega)
  obtain ⟨W0, hW0⟩ : ∃ W0, W0 = w.alloc (.cells (madeCells #[.int .i64 0] l.length) 3) := ⟨_, rfl⟩
  have HW0 : Hid (W0 = w.alloc (.cells (madeCells #[.int .i64 0] l.length) 3)) := hW0
  have HR0 : Hid (W0.rowIs w.heap.size 3 l.length (fun j => if j < 0 then .int .i64 ((tmL l a b).getD j 0) else .int .i64 0)) := by
    rw [hW0]
    exact (World.rowIs_made w _ _ _).congr (fun i hi => by simp)
  have HB0 : Hid (Below w.heap.size w W0) := by rw [hW0]; exact (Below.refl _ _).alloc (Nat.le_refl _) _
  clear hW0
  go_enter Try.func20, Try.ntmps20
  go_wp2
  rw [← HW0.out]
  go_loopw [15] (fun i wr => ∃ k : Nat, k ≤ l.length ∧ i = .int .i64 k ∧ Below w.heap.size w wr ∧ wr.rowIs w.heap.size 3 l.length (fun j => if j < k then .int .i64 ((tmL l a b).getD j 0) else .int .i64 0)) (fun i _ => l.length - (intOf i).toNat)
  case atStart => exact ⟨0, Nat.zero_le _, rfl, HB0.out, HR0.out⟩
  case round =>
    obtain ⟨k, hk, rfl, hbl, hr⟩ := hrel
    have HBk : Hid (Below w.heap.size w wr) := hbl
    have HRk : Hid (wr.rowIs w.heap.size 3 l.length (fun j => if j < k then .int .i64 ((tmL l a b).getD j 0) else .int .i64 0)) := hr
    by_cases hlt : k < l.length
    · obtain ⟨b1, o1, c1, hs1, _, hcc1⟩ := sl_cell (HV.out.below hbl (Nat.le_refl _)) hlt
      simp only [Value.slice.injEq] at hs1
      obtain ⟨rfl, _, rfl⟩ := hs1
      have g1 := hr.cell hlt
      have g3 := hr.frozen k
      simp only [Nat.lt_irrefl, if_false] at g1
      have hbd := tm_bd (j := k) (HL.out.at k) HHB.out HHA.out (by omega)
      have HT : Hid ((tmL l a b).getD k 0 = l.getD k 0 * b + (k : Int) * a) := tmL_at hlt
      have HNX : Hid ((wr.setCell ⟨w.heap.size, k, none⟩ (.int .i64 (l.getD k 0 * b + (k : Int) * a))).rowIs w.heap.size 3 l.length (fun j => if j < k + 1 then .int .i64 ((tmL l a b).getD j 0) else .int .i64 0)) := by
        refine (hr.set k _).congr (fun i hi => ?_)
        by_cases e : i = k
        · subst e
          simp only [if_true, Nat.lt_succ_self, HT.out]
        · simp only [e, if_false]
          by_cases h : i < k
          · simp [h, show i < k + 1 by omega]
          · simp [h, show ¬ i < k + 1 by omega]
      have HBX : Hid (∀ x, Below w.heap.size w (wr.setCell ⟨w.heap.size, k, none⟩ x)) := fun x => hbl.trans ⟨rfl, rfl, rfl, by simp [World.setCell], fun b hb => Below.heap_setCell _ _ _ _ (by show b ≠ w.heap.size; omega)⟩
      clear hbl hr
      obtain ⟨⟨p1, p2⟩, p3, p4⟩ := hbd
      generalize l.getD k 0 = x at *
      generalize hxb : x * b = xb at *
      generalize hka : (k : Int) * a = ka at *
      go_wp2
      go_roundw
      case rel => exact ⟨k + 1, by omega, by go_num, HBX.out _, HNX.out⟩
      case measure => simp [intOf]; omega
    · have hke : k = l.length := by omega
      have HOW : Hid (wr.ownsRow w.heap.size 3 1 (.slice (some ⟨w.heap.size, 0, none⟩) l.length l.length) l.length (ints (tmL l a b))) := by
        obtain ⟨c, q1, q2, q3⟩ := hr
        refine ⟨by simp [tmL_len], .inr ⟨w.heap.size, l.length, c, rfl, Nat.le_refl _, q1, Nat.le_refl _, by unfold maxLen; omega, by omega, ?_⟩⟩
        refine List.ext_getElem? fun i => ?_
        by_cases hi : i < l.length
        · rw [List.getElem?_take_of_lt (by omega), Array.getElem?_toList, q3 i hi, ints_get _ i (by rw [tmL_len]; exact hi)]
          simp [show i < k by omega]
        · rw [List.getElem?_eq_none (by simp; omega), List.getElem?_eq_none (by simp [tmL_len]; omega)]
      clear hbl hr
      have hkf : decide ((k : Int) < (l.length : Int)) = false := by simp; omega
      go_wp2
      go_ret
      exact ⟨_, rfl, HOW.out, HBk.out⟩

/-- The least of the first k + 1. -/
def minTo (zs : List Int) : Nat → Int
  | 0 => zs.getD 0 0
  | k + 1 => if zs.getD (k + 1) 0 < minTo zs k then zs.getD (k + 1) 0 else minTo zs k

def minL (zs : List Int) : Int := minTo zs (zs.length - 1)

theorem minTo_le (zs : List Int) : ∀ k j, j ≤ k → minTo zs k ≤ zs.getD j 0
  | 0, j, h => by rw [show j = 0 by omega]; exact Int.le_refl _
  | k + 1, j, h => by
    simp only [minTo]
    by_cases e : j = k + 1
    · subst e; split <;> omega
    · have := minTo_le zs k j (by omega)
      split <;> omega

theorem minTo_mem (zs : List Int) : ∀ k, ∃ j, j ≤ k ∧ zs.getD j 0 = minTo zs k
  | 0 => ⟨0, Nat.le_refl _, rfl⟩
  | k + 1 => by
    simp only [minTo]
    split
    · exact ⟨k + 1, Nat.le_refl _, rfl⟩
    · obtain ⟨j, h1, h2⟩ := minTo_mem zs k
      exact ⟨j, by omega, h2⟩

theorem minL_le {zs : List Int} {j : Nat} (h : j < zs.length) : minL zs ≤ zs.getD j 0 := minTo_le zs _ j (by omega)
theorem minL_mem {zs : List Int} (h : 0 < zs.length) : ∃ j, j < zs.length ∧ zs.getD j 0 = minL zs := by
  obtain ⟨j, h1, h2⟩ := minTo_mem zs (zs.length - 1)
  exact ⟨j, by omega, h2⟩

set_option maxRecDepth 100000 in
set_option maxHeartbeats 400000 in
theorem minT_any (B : Nat) (zs : List Int) (v : Value) (w : World) (hv : Sl B 3 w v (ints zs)) (hp : 0 < zs.length) :
    Calls Try.prog 19 #[v] w fun e w' => e = .returned (.int .i64 (minL zs)) ∧ w' = w := by
  obtain ⟨ao, cap, hvv, hlc, hcm⟩ := sl_open hv
  subst hvv
  have HV : Hid (Sl B 3 w (.slice ao zs.length cap) (ints zs)) := hv
  obtain ⟨b0, o0, c0, hs0, _, hcc0⟩ := sl_cell hv hp
  simp only [Value.slice.injEq] at hs0
  obtain ⟨rfl, _, rfl⟩ := hs0
  have HM0 : Hid (zs.getD 0 0 = minTo zs 0) := rfl
  rw [HM0.out, Nat.add_zero] at hcc0
  have hp0 : (0 : Int) < (zs.length : Int) := by omega
  have b1 : decide ((zs.length : Int) < 1) = false := decide_eq_false (by omega)
  clear hv
  go_enter Try.func19, Try.ntmps19
  go_wp2
  go_loopw [3, 4] (fun m i wr => ∃ k : Nat, k + 1 ≤ zs.length ∧ i = .int .i64 ((k : Int) + 1) ∧ m = .int .i64 (minTo zs k) ∧ wr = w) (fun _ i _ => zs.length - (intOf i).toNat)
  case atStart => exact ⟨0, hp, rfl, rfl, rfl⟩
  case round =>
    obtain ⟨k, hk, rfl, rfl, rfl⟩ := hrel
    by_cases hlt : k + 1 < zs.length
    · obtain ⟨b1, o1, c1, hs1, _, hcc1⟩ := sl_cell HV.out (k := k + 1) hlt
      simp only [Value.slice.injEq, Option.some.injEq, Addr.mk.injEq] at hs1
      obtain ⟨⟨rfl, rfl, _⟩, _, rfl⟩ := hs1
      have HS : Hid (minTo zs (k + 1) = if zs.getD (k + 1) 0 < minTo zs k then zs.getD (k + 1) 0 else minTo zs k) := rfl
      generalize zs.getD (k + 1) 0 = x at *
      generalize minTo zs k = m at *
      go_wp2
      go_roundw
      case rel => exact ⟨k + 1, by omega, by go_num, by rw [HS.out], trivial⟩
      case measure => simp [intOf]; omega
    · have HE : Hid (minTo zs k = minL zs) := by
        show _ = _
        unfold minL
        rw [show zs.length - 1 = k by omega]
      rw [HE.out]
      have hkf : decide ((k : Int) + 1 < (zs.length : Int)) = false := by simp; omega
      go_wp2
      go_ret
      exact ⟨rfl, rfl⟩

set_option maxRecDepth 100000 in
theorem isLeast_any (x m : Int) (b : Nat) (w : World) (hc : w.cell? ⟨b, 0, none⟩ = some (.int .i64 m)) :
    Calls Try.prog 26 #[.int .i64 x, .pointer (some ⟨b, 0, none⟩)] w fun e w' => e = .returned (.bool (x == m)) ∧ w' = w := by
  go_enter Try.func26, Try.ntmps26
  go_wp2
  go_ret
  exact ⟨rfl, rfl⟩

set_option maxRecDepth 100000 in
set_option maxHeartbeats 400000 in
theorem indexL_any (B b : Nat) (m : Int) (zs : List Int) (v : Value) (w : World) (hv : Sl B 3 w v (ints zs)) (hc : w.cell? ⟨b, 0, none⟩ = some (.int .i64 m)) :
    Calls Try.prog 27 #[v, .func (.func 26) #[] #[.pointer (some ⟨b, 0, none⟩)]] w fun e w' => e = .returned (.int .i64 (findI (· == m) zs)) ∧ w' = w := by
  obtain ⟨ao, cap, hvv, hlc, hcm⟩ := sl_open hv
  subst hvv
  have HV : Hid (Sl B 3 w (.slice ao zs.length cap) (ints zs)) := hv
  have HIL : Hid (∀ x, Calls Try.prog 26 #[.int .i64 x, .pointer (some ⟨b, 0, none⟩)] w fun e w' => e = .returned (.bool (x == m)) ∧ w' = w) := fun x => isLeast_any x m b w hc
  clear hv hc
  go_enter Try.func27, Try.ntmps27
  go_wp2
  go_loop [8] (fun i => ∃ k : Nat, k ≤ zs.length ∧ i = .int .i64 k ∧ (zs.take k).any (· == m) = false) (fun i => zs.length - (intOf i).toNat)
  case atStart => exact ⟨0, Nat.zero_le _, rfl, by simp⟩
  case round =>
    obtain ⟨k, hk, rfl, hno⟩ := hrel
    have HN : Hid ((zs.take k).any (· == m) = false) := hno
    clear hno
    by_cases hlt : k < zs.length
    · obtain ⟨b, o, cp, hs, hc1, hcc⟩ := sl_cell HV.out hlt
      simp only [Value.slice.injEq] at hs
      obtain ⟨rfl, _, rfl⟩ := hs
      have HS1 : Hid ((zs.take (k + 1)).any (· == m) = (zs[k] == m)) := any_snoc (p := (· == m)) hlt HN.out
      have HH : Hid ((zs[k] == m) = true → findI (· == m) zs = k) := fun h => findI_hit (p := (· == m)) hlt HN.out h
      rw [show zs.getD k 0 = zs[k] by simp [hlt]] at hcc
      generalize zs[k] = x at *
      cases hx : (x == m)
      · have HX : Hid ((x == m) = false) := hx
        rw [hx] at HS1 HH
        go_wp2_with (go_at_call 26; refine (HIL.out _).mono ?_; rintro e w' ⟨rfl, rfl⟩)
        go_round
        case rel => exact ⟨k + 1, by omega, by go_num, HS1.out⟩
        case measure => simp [intOf]; omega
      · rw [hx] at HS1 HH
        have HH2 : Hid (findI (· == m) zs = k) := HH.out rfl
        clear HH
        go_wp2_with (go_at_call 26; refine (HIL.out _).mono ?_; rintro e w' ⟨rfl, rfl⟩)
        go_ret
        exact ⟨ret_int HH2.out.symm, rfl⟩
    · have e : zs.take k = zs := List.take_of_length_le (by omega)
      rw [e] at HN
      have HF : Hid (findI (· == m) zs = -1) := by
        show _ = _
        unfold findI
        rw [HN.out]
        rfl
      go_wp2
      go_ret
      exact ⟨ret_int HF.out.symm, rfl⟩

set_option maxRecDepth 100000 in
theorem containsL_any (B b : Nat) (m : Int) (zs : List Int) (v : Value) (w : World) (hv : Sl B 3 w v (ints zs)) (hc : w.cell? ⟨b, 0, none⟩ = some (.int .i64 m)) :
    Calls Try.prog 28 #[v, .func (.func 26) #[] #[.pointer (some ⟨b, 0, none⟩)]] w fun e w' => e = .returned (.bool (zs.any (· == m))) ∧ w' = w := by
  obtain ⟨ao, cap, hvv, hlc, hcm⟩ := sl_open hv
  subst hvv
  have HII : Hid (Calls Try.prog 27 #[.slice ao zs.length cap, .func (.func 26) #[] #[.pointer (some ⟨b, 0, none⟩)]] w fun e w' => e = .returned (.int .i64 (findI (· == m) zs)) ∧ w' = w) := indexL_any B b m zs _ w hv hc
  have HD : Hid (decide (0 ≤ findI (· == m) zs) = zs.any (· == m)) := by
    show _ = _
    unfold findI
    cases zs.any (· == m)
    · rfl
    · simp
  clear hv hc
  generalize zs.any (· == m) = c at *
  go_enter Try.func28, Try.ntmps28
  go_wp2_with fail
  refine HII.out.mono ?_
  rintro e w' ⟨rfl, rfl⟩
  go_wp2
  go_ret
  exact ⟨ret_bool HD.out, rfl⟩

end Go.Proofs.Ytmkbijclbogjhaa
