/- poset.isIn, poset.moebius. -/
import Derived.Test.YtcmemhdlendlkaaDoorPo0
import Derived.Test.YtcmemhdlendlkaaDoorPik
import Derived.Deep.OwnRows
import Derived.Laws.Bits64b
namespace Go.Proofs.YtcmemhdlendlkaaDoor
open Go.RowKit
attribute [local go_sem ↓] Go.wp_at_zero Go.wp_at_succ

theorem isIn_tab : ∀ k : Nat, k < 6 → ∀ s : Nat, s < 64 → (bits .andNot .u64 ((2 ^ k : Nat) : Int) (s : Int) == 0) = s.testBit k := by decide +kernel

theorem one_tab : ∀ k : Nat, k < 6 → IntKind.u64.wrap ((2 : Int) ^ k) = ((2 ^ k : Nat) : Int) := by decide +kernel

set_option maxRecDepth 100000 in
theorem oneP_any (k : Nat) (w : World) (hk : k < 6) :
    Calls Tryd.prog 49 #[.int .i64 (k : Int)] w fun e w' => e = .returned (.int .u64 ((2 ^ k : Nat) : Int)) ∧ w' = w := by
  have HE : Hid (IntKind.u64.wrap ((2 : Int) ^ k) = ((2 ^ k : Nat) : Int)) := one_tab k hk
  go_enter Tryd.func49, Tryd.ntmps49
  go_wp2
  go_ret
  exact ⟨ret_int HE.out, rfl⟩

set_option maxRecDepth 100000 in
theorem inP_any (k s : Nat) (w : World) (hk : k < 6) (hs : s < 64) :
    Calls Tryd.prog 33 #[.int .u64 ((2 ^ k : Nat) : Int), .int .u64 (s : Int)] w fun e w' => e = .returned (.bool (s.testBit k)) ∧ w' = w := by
  have HE : Hid ((bits .andNot .u64 ((2 ^ k : Nat) : Int) (s : Int) == 0) = s.testBit k) := isIn_tab k hk s hs
  generalize 2 ^ k = q at *
  go_enter Tryd.func33, Tryd.ntmps33
  go_wp2
  go_ret
  exact ⟨ret_bool HE.out, rfl⟩

set_option maxRecDepth 100000 in
theorem isIn_any (k s : Nat) (w : World) (hk : k < 6) (hs : s < 64) :
    Calls Tryd.prog 44 #[.int .i64 (k : Int), .int .u64 (s : Int)] w fun e w' => e = .returned (.bool (s.testBit k)) ∧ w' = w := by
  have H1 : Hid (Calls Tryd.prog 49 #[.int .i64 (k : Int)] w fun e w' => e = .returned (.int .u64 ((2 ^ k : Nat) : Int)) ∧ w' = w) := oneP_any k w hk
  have H2 : Hid (Calls Tryd.prog 33 #[.int .u64 ((2 ^ k : Nat) : Int), .int .u64 (s : Int)] w fun e w' => e = .returned (.bool (s.testBit k)) ∧ w' = w) := inP_any k s w hk hs
  generalize 2 ^ k = q at *
  generalize s.testBit k = b at *
  go_enter Tryd.func44, Tryd.ntmps44
  go_wp2_with fail
  refine H1.out.mono ?_
  rintro e w1 ⟨rfl, hw⟩
  subst hw
  go_wp2_with fail
  refine H2.out.mono ?_
  rintro e w2 ⟨rfl, hw⟩
  subst hw
  go_wp2
  go_ret
  exact ⟨rfl, rfl⟩

/-- The row of what is above each thing. -/
abbrev AbR (w : World) (g n : Nat) (f : Nat → Nat) : Prop := w.rowIs g 59 n (fun i => .int .u64 ((f i : Nat) : Int))

set_option maxRecDepth 100000 in
set_option maxHeartbeats 1600000 in
theorem moebius_any (n g : Nat) (f : Nat → Nat) (hP : PoO n f) (hn : n ≤ 6) (i : Nat) (hi : i < n) : ∀ (t k : Nat), t ≤ 6 → k < n → n - rkF n f k ≤ t → ∀ w : World, AbR w g n f →
    Calls Tryd.prog 28 #[.slice (some ⟨g, 0, none⟩) n n, .int .i64 (i : Int), .int .i64 (k : Int)] w fun e w' => e = .returned (.int .i64 (mu n f i t k)) ∧ w' = w
  | 0, k, _, hk, ht, w, hw => by
    have := hP.rk_lt hk
    omega
  | t + 1, k, h6, hk, ht, w, hw => by
    have hf6 : ∀ j, j < n → f j < 64 := fun j hj => Nat.lt_of_lt_of_le (hP.lt j hj) (Nat.pow_le_pow_right (by omega) hn : 2 ^ n ≤ 2 ^ 6)
    have HC : Hid (∀ j, j < n → w.cell? ⟨g, j, none⟩ = some (.int .u64 ((f j : Nat) : Int))) := fun j hj => hw.cell hj
    have HI : Hid (∀ j, j < n → Calls Tryd.prog 44 #[.int .i64 (k : Int), .int .u64 ((f j : Nat) : Int)] w fun e w' => e = .returned (.bool ((f j).testBit k)) ∧ w' = w) := fun j hj => isIn_any k (f j) w (by omega) (hf6 j hj)
    have HR : Hid (∀ j, j < n → (f j).testBit k = true → Calls Tryd.prog 28 #[.slice (some ⟨g, 0, none⟩) n n, .int .i64 (i : Int), .int .i64 (j : Int)] w fun e w' => e = .returned (.int .i64 (mu n f i t j)) ∧ w' = w) := fun j hj hb => by
      have := hP.rk_up hj hk hb
      exact moebius_any n g f hP hn i hi t j (by omega) hj (by omega) w hw
    have HB : Hid (∀ J, J ≤ n → -1000000 ≤ sN J (fun j => if (f j).testBit k then mu n f i t j else 0) ∧ sN J (fun j => if (f j).testBit k then mu n f i t j else 0) ≤ 1000000) := fun J hJ => by
      have h1 : 6 ^ t ≤ 6 ^ 5 := Nat.pow_le_pow_right (by omega) (by omega)
      have h2 : (6 : Nat) ^ 5 = 7776 := by decide
      have h0 := sN_bd J 7776 (f := fun j => if (f j).testBit k then mu n f i t j else 0) fun j _ => by
        have h3 := mu_bd (f := f) hn i t j
        rw [h2] at h1
        generalize 6 ^ t = q at *
        cases (f j).testBit k
        · simp
        · simp only [if_true]
          omega
      have h4 : (J : Int) * 7776 ≤ 6 * 7776 := Int.mul_le_mul_of_nonneg_right (by omega) (by omega)
      omega
    have HM : Hid (∀ j, -1000000 ≤ mu n f i t j ∧ mu n f i t j ≤ 1000000) := fun j => by
      have h1 : 6 ^ t ≤ 6 ^ 5 := Nat.pow_le_pow_right (by omega) (by omega)
      have h2 : (6 : Nat) ^ 5 = 7776 := by decide
      have h3 := mu_bd (f := f) hn i t j
      rw [h2] at h1
      generalize 6 ^ t = q at *
      omega
    have HS : Hid (∀ J, sN (J + 1) (fun j => if (f j).testBit k then mu n f i t j else 0) = sN J (fun j => if (f j).testBit k then mu n f i t j else 0) + if (f J).testBit k then mu n f i t J else 0) := fun J => rfl
    have HE : Hid (mu n f i (t + 1) k = if k = i then 1 else if (f i).testBit k then -(sN n fun j => if (f j).testBit k then mu n f i t j else 0) else 0) := rfl
    rw [HE.out]
    clear hw hf6 HE hP
    obtain ⟨S, hS⟩ : ∃ S : Nat → Int, S = fun J => sN J (fun j => if (f j).testBit k then mu n f i t j else 0) := ⟨_, rfl⟩
    have HS0 : Hid (S 0 = 0) := by rw [hS]; show sN 0 _ = 0; rfl
    have HS1 : Hid (∀ J, S (J + 1) = S J + if (f J).testBit k then mu n f i t J else 0) := by rw [hS]; exact HS.out
    have HB1 : Hid (∀ J, J ≤ n → -1000000 ≤ S J ∧ S J ≤ 1000000) := by rw [hS]; exact HB.out
    have eS : (sN n fun j => if (f j).testBit k then mu n f i t j else 0) = S n := by rw [hS]
    rw [eS]
    clear eS hS HS HB
    generalize (mu n f i t) = M at *
    by_cases hki : k = i
    · subst hki
      rw [if_pos rfl]
      go_enter Tryd.func28, Tryd.ntmps28
      go_wp2
      go_ret
      exact ⟨rfl, rfl⟩
    · rw [if_neg hki]
      have k1 : ((k : Int) == (i : Int)) = false := by rw [beq_eq_false_iff_ne]; omega
      have kI0 : (0 : Int) ≤ (i : Int) := by omega
      have kIn : (i : Int) < (n : Int) := by omega
      have hci := HC.out i hi
      have HI1 := HI.out i hi
      cases hb : (f i).testBit k
      · rw [hb] at HI1
        generalize f i = fi at *
        clear hb hki
        go_enter Tryd.func28, Tryd.ntmps28
        go_wp2_with fail
        refine HI1.mono ?_
        rintro e w1 ⟨rfl, hw⟩
        subst hw
        go_wp2
        go_ret
        exact ⟨rfl, rfl⟩
      · rw [hb] at HI1
        simp only [if_true]
        generalize f i = fi at hci HI1
        clear hb hki
        go_enter Tryd.func28, Tryd.ntmps28
        go_wp2_with fail
        refine HI1.mono ?_
        rintro e w1 ⟨rfl, hw⟩
        subst hw
        clear HI1 hci
        have HSN := HS0.out
        go_wp2
        go_loop [7, 21] (fun sv iv => ∃ J : Nat, J ≤ n ∧ iv = .int .i64 (J : Int) ∧ sv = .int .i64 (S J)) (fun _ iv => n - (intOf iv).toNat)
        case atStart => exact ⟨0, Nat.zero_le _, rfl, by rw [HSN]⟩
        case round =>
          obtain ⟨J, hJ, rfl, rfl⟩ := hrel
          obtain ⟨b1, b2⟩ := HB1.out J hJ
          clear HSN HS0
          by_cases hlt : J < n
          · have hcj := HC.out J hlt
            have HIJ := HI.out J hlt
            have HRJ := HR.out J hlt
            have HSJ := HS1.out J
            obtain ⟨m1, m2⟩ := HM.out J
            have jI0 : (0 : Int) ≤ (J : Int) := by omega
            have jIn : (J : Int) < (n : Int) := by omega
            cases hb : (f J).testBit k
            · rw [hb] at HIJ HSJ
              have HSJ2 : Hid (S (J + 1) = S J) := by
                show _ = _
                simpa using HSJ
              clear HRJ HSJ hb
              generalize f J = fJ at hcj HIJ
              generalize S J = sJ at *
              go_wp2_with fail
              refine HIJ.mono ?_
              rintro e w1 ⟨rfl, hw⟩
              subst hw
              go_wp2
              go_round
              case rel => exact ⟨J + 1, by omega, by go_num, by rw [HSJ2.out]⟩
              case measure => simp [intOf]; omega
            · rw [hb] at HIJ HSJ
              have HRJ2 := HRJ hb
              have HSJ2 : Hid (S (J + 1) = S J + M J) := by
                show _ = _
                simpa using HSJ
              clear HRJ HSJ hb
              generalize f J = fJ at hcj HIJ
              generalize S J = sJ at *
              generalize M J = mJ at *
              go_wp2_with fail
              refine HIJ.mono ?_
              rintro e w1 ⟨rfl, hw⟩
              subst hw
              go_wp2_with fail
              refine HRJ2.mono ?_
              rintro e w1 ⟨rfl, hw⟩
              subst hw
              go_wp2
              go_round
              case rel => exact ⟨J + 1, by omega, by go_num, by rw [HSJ2.out]⟩
              case measure => simp [intOf]; omega
          · have hJe : J = n := by omega
            subst hJe
            go_wp2
            go_ret
            exact ⟨rfl, rfl⟩

end Go.Proofs.YtcmemhdlendlkaaDoor
