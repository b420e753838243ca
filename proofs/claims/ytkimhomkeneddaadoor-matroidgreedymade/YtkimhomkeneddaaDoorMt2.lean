/- slices.BinarySearch at numbers that rise. -/
import Derived.Test.YtkimhomkeneddaaDoorMt1
import Derived.Deep.QuietTactic
import Derived.BigQuiet
namespace Go.Proofs.YtkimhomkeneddaaDoor
open Go.RowKit
attribute [local go_sem ↓] Go.wp_at_zero Go.wp_at_succ

set_option maxRecDepth 100000 in
theorem isNaNS_any (x : Int) (w : World) :
    Calls Tryd.prog 52 #[.int .i64 x] w fun e w' => e = .returned (.bool false) ∧ w' = w := by
  go_enter Tryd.func52, Tryd.ntmps52
  have h : (x != x) = false := by simp
  go_wp2
  go_ret
  exact ⟨rfl, rfl⟩

set_option maxRecDepth 100000 in
theorem isNaNC_any (x : Int) (w : World) :
    Calls Tryd.prog 43 #[.int .i64 x] w fun e w' => e = .returned (.bool false) ∧ w' = w := by
  go_enter Tryd.func43, Tryd.ntmps43
  have h : (x != x) = false := by simp
  go_wp2
  go_ret
  exact ⟨rfl, rfl⟩

set_option maxRecDepth 100000 in
theorem lessI_any (x y : Int) (w : World) :
    Calls Tryd.prog 51 #[.int .i64 x, .int .i64 y] w fun e w' => e = .returned (.bool (decide (x < y))) ∧ w' = w := by
  go_enter Tryd.func51, Tryd.ntmps51
  go_wp2_with fail
  refine (isNaNC_any x w).mono ?_
  rintro e w' ⟨rfl, rfl⟩
  go_wp2
  go_ret
  exact ⟨rfl, rfl⟩

/-- How far a search has come. -/
structure Srch (xs : List Int) (t : Int) (i j : Nat) : Prop where
  ij : i ≤ j
  jn : j ≤ xs.length
  lo : ∀ k, k < i → xs.getD k 0 < t
  hi : ∀ k, j ≤ k → k < xs.length → t ≤ xs.getD k 0

theorem ris_le {xs : List Int} (h : Ris xs) {i j : Nat} (hij : i ≤ j) (hj : j < xs.length) : xs.getD i 0 ≤ xs.getD j 0 := by
  rcases Nat.lt_or_ge i j with h1 | h1
  · have := List.pairwise_iff_getElem.1 h i j (by omega) hj h1
    simp only [List.getD_eq_getElem?_getD]
    rw [List.getElem?_eq_getElem (by omega), List.getElem?_eq_getElem hj]
    simp only [Option.getD_some]
    omega
  · have : i = j := by omega
    subst this
    exact Int.le_refl _

theorem Srch.up {xs : List Int} {t : Int} {i j h : Nat} (hs : Srch xs t i j) (hr : Ris xs) (h2 : h < j) (hl : xs.getD h 0 < t) : Srch xs t (h + 1) j :=
  ⟨by omega, hs.jn, fun k hk => by
    have := ris_le hr (i := k) (j := h) (by omega) (by have := hs.jn; omega)
    omega, hs.hi⟩

theorem Srch.down {xs : List Int} {t : Int} {i j h : Nat} (hs : Srch xs t i j) (hr : Ris xs) (h1 : i ≤ h) (h2 : h < j) (hl : ¬ xs.getD h 0 < t) : Srch xs t i h :=
  ⟨h1, by have := hs.jn; omega, hs.lo, fun k hk hk2 => by
    have := ris_le hr (i := h) (j := k) hk hk2
    omega⟩

theorem Srch.fin {xs : List Int} {t : Int} {i : Nat} (hs : Srch xs t i i) (hr : Ris xs) : xs.contains t = (decide (i < xs.length) && (xs.getD i 0 == t)) := by
  rw [Bool.eq_iff_iff]
  simp only [List.contains_iff_mem, Bool.and_eq_true, decide_eq_true_eq, beq_iff_eq]
  constructor
  · intro hm
    obtain ⟨k, hk, e⟩ := List.getElem_of_mem hm
    have e' : xs.getD k 0 = t := by simp [hk, e]
    have h1 : ¬ k < i := fun h => by have := hs.lo k h; omega
    have h2 := ris_le hr (i := i) (j := k) (by omega) hk
    have h3 := hs.hi i (Nat.le_refl _) (by omega)
    exact ⟨by omega, by omega⟩
  · rintro ⟨h1, h2⟩
    rw [← h2]; simp [h1]

/-- How many are less. -/
def bsI (xs : List Int) (t : Int) : Nat := (xs.filter (fun z => decide (z < t))).length

theorem Srch.idx {xs : List Int} {t : Int} {i : Nat} (hs : Srch xs t i i) : i = bsI xs t := by
  have h1 : (xs.take i).filter (fun z => decide (z < t)) = xs.take i := List.filter_eq_self.2 (fun a ha => by
    obtain ⟨k, hk, rfl⟩ := List.mem_take_iff_getElem.1 ha
    have := hs.lo k (by omega)
    rw [List.getD_eq_getElem?_getD, List.getElem?_eq_getElem (by omega), Option.getD_some] at this
    exact decide_eq_true this)
  have h2 : (xs.drop i).filter (fun z => decide (z < t)) = [] := List.filter_eq_nil_iff.2 (fun a ha => by
    obtain ⟨k, hk, rfl⟩ := List.mem_drop_iff_getElem.1 ha
    have := hs.hi (i + k) (by omega) (by omega)
    rw [List.getD_eq_getElem?_getD, List.getElem?_eq_getElem (by omega), Option.getD_some] at this
    simp
    omega)
  have h3 : bsI xs t = ((xs.take i ++ xs.drop i).filter (fun z => decide (z < t))).length := by rw [List.take_append_drop]; rfl
  rw [h3, List.filter_append, h1, h2, List.append_nil, List.length_take]
  have := hs.jn
  omega

set_option maxRecDepth 100000 in
set_option maxHeartbeats 800000 in
theorem binS_any (B : Nat) (xs : List Int) (t : Int) (v : Value) (w : World) (hv : Sl B 3 w v (ints xs)) (hr : Ris xs) (hl : xs.length ≤ 1000000) :
    Calls Tryd.prog 47 #[v, .int .i64 t] w fun e w' => e = .returned (.tuple #[.int .i64 (bsI xs t), .bool (xs.contains t)]) ∧ w' = w := by
  obtain ⟨ao, cap, hvv, hlc, hcm⟩ := sl_open hv
  subst hvv
  have HV : Hid (Sl B 3 w (.slice ao xs.length cap) (ints xs)) := hv
  have HR : Hid (Ris xs) := hr
  clear hv hr
  go_enter Tryd.func47, Tryd.ntmps47
  go_wp2
  go_loopw [7, 8, 9] (fun a b _ wr => ∃ i j : Nat, a = .int .i64 i ∧ b = .int .i64 j ∧ Srch xs t i j ∧ wr = w) (fun a b _ _ => (intOf b).toNat - (intOf a).toNat)
  case atStart => exact ⟨0, xs.length, rfl, rfl, ⟨Nat.zero_le _, Nat.le_refl _, fun k hk => by omega, fun k h1 h2 => by omega⟩, rfl⟩
  case round =>
    obtain ⟨i, j, rfl, rfl, hs, rfl⟩ := hrel
    have HS : Hid (Srch xs t i j) := hs
    have hij := hs.ij
    have hjn := hs.jn
    clear hs
    by_cases hlt : i < j
    · have h1 : i ≤ (i + j) / 2 := by omega
      have h2 : (i + j) / 2 < j := by omega
      obtain ⟨cb, co, cc, hsl, _, hcc⟩ := sl_cell HV.out (k := (i + j) / 2) (by omega)
      simp only [Value.slice.injEq] at hsl
      obtain ⟨rfl, -, rfl⟩ := hsl
      have HUP : Hid (xs.getD ((i + j) / 2) 0 < t → Srch xs t ((i + j) / 2 + 1) j) := fun hx => HS.out.up HR.out h2 hx
      have HDN : Hid (¬ xs.getD ((i + j) / 2) 0 < t → Srch xs t i ((i + j) / 2)) := fun hx => HS.out.down HR.out h1 h2 hx
      have hI : ((i : Int) + (j : Int)) / 2 < (xs.length : Int) := by omega
      have hI0 : (0 : Int) ≤ ((i : Int) + (j : Int)) / 2 := by omega
      have hij2 : (i : Int) < (j : Int) := by omega
      have hsum : (i : Int) + (j : Int) ≤ 2000000 := by omega
      generalize xs.getD ((i + j) / 2) 0 = z at *
      go_wp2_with fail
      refine (lessI_any z t wr).mono ?_
      rintro e w' ⟨rfl, rfl⟩
      by_cases hz : z < t
      · have hd : decide (z < t) = true := decide_eq_true hz
        go_wp2
        go_roundw
        case rel => exact ⟨(i + j) / 2 + 1, j, by go_num, rfl, HUP.out hz, trivial⟩
        case measure => simp [intOf]; omega
      · have hd : decide (z < t) = false := decide_eq_false hz
        go_wp2
        go_roundw
        case rel => exact ⟨i, (i + j) / 2, rfl, by go_num, HDN.out hz, trivial⟩
        case measure => simp [intOf]; omega
    · have hie : i = j := by omega
      subst hie
      have hij3 : decide ((i : Int) < (i : Int)) = false := decide_eq_false (by omega)
      have HF0 := HS.out.fin HR.out
      have HIX : Hid (i = bsI xs t) := HS.out.idx
      by_cases hin : i < xs.length
      · obtain ⟨cb, co, cc, hsl, _, hcc⟩ := sl_cell HV.out (k := i) hin
        simp only [Value.slice.injEq] at hsl
        obtain ⟨rfl, -, rfl⟩ := hsl
        have hI : (i : Int) < (xs.length : Int) := by omega
        have hI0 : (0 : Int) ≤ (i : Int) := by omega
        have hIn : decide ((i : Int) < (xs.length : Int)) = true := decide_eq_true hI
        rw [decide_eq_true hin, Bool.true_and] at HF0
        generalize xs.getD i 0 = z at *
        cases hz : (z == t) with
        | true =>
          have HF : Hid (xs.contains t = _) := HF0.trans hz
          clear HF0
          go_wp2
          go_ret2
          exact ⟨by rw [HF.out, ← HIX.out]; rfl, rfl⟩
        | false =>
          have HF : Hid (xs.contains t = _) := HF0.trans hz
          clear HF0
          go_wp2_with fail
          refine (isNaNS_any z wr).mono ?_
          rintro e w' ⟨rfl, rfl⟩
          go_wp2
          go_ret2
          exact ⟨by rw [HF.out, ← HIX.out]; rfl, rfl⟩
      · have hIn : decide ((i : Int) < (xs.length : Int)) = false := decide_eq_false (by omega)
        rw [decide_eq_false hin, Bool.false_and] at HF0
        have HF : Hid (xs.contains t = false) := HF0
        clear HF0
        go_wp2
        go_ret2
        exact ⟨by rw [HF.out, ← HIX.out]; rfl, rfl⟩

end Go.Proofs.YtkimhomkeneddaaDoor
