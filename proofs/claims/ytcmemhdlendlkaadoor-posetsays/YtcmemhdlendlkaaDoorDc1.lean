/- facetref.chains, MoebiusOf. -/
import Derived.Test.YtcmemhdlendlkaaDoorPs1
import Derived.Test.YtcmemhdlendlkaaDoorRefA
namespace Go.Proofs.YtcmemhdlendlkaaDoor
open Go.RowKit
attribute [local go_sem ↓] Go.wp_at_zero Go.wp_at_succ

theorem bitq_tab : ∀ x : Nat, x < 64 → ∀ k : Nat, k < 6 → ((x : Int) / 2 ^ k).tmod 2 = if x.testBit k then 1 else 0 := by decide +kernel

/-- What is above each thing, as a list. -/
def upL (n : Nat) (f : Nat → Nat) : List Int := (List.range n).map fun i => (f i : Int)

theorem upL_len (n : Nat) (f : Nat → Nat) : (upL n f).length = n := by simp [upL]

theorem upL_at {n i : Nat} (f : Nat → Nat) (hi : i < n) : (upL n f).getD i 0 = (f i : Int) := by simp [upL, hi]

/-- The chains' sum. -/
def chB (f : Nat → Nat) (k i j : Nat) : Bool := (f i).testBit j && (j == k || (f j).testBit k)

theorem ch_sum {n : Nat} {f : Nat → Nat} (h : PoO n f) {i k : Nat} (hi : i < n) (hk : k < n) (hne : i ≠ k) : sN n (fun j => if chB f k i j then -(moF n f j k) else 0) = moF n f i k := by
  have h1 := ze_mo h hi hk
  rw [if_neg (fun e => hne e.symm)] at h1
  have e1 : sN n (fun j => zeF f i j * moF n f j k) = sN n (fun j => (if j = i then moF n f i k else 0) + (-1) * (if chB f k i j then -(moF n f j k) else 0)) := sN_congr n fun j hj => by
    unfold zeF chB
    by_cases e : j = i
    · subst e
      rw [if_pos rfl, h.irr j hj]
      simp
    · cases hb : (f i).testBit j
      · simp [e]
      · by_cases e2 : j = k
        · subst e2
          simp [e]
        · cases hc : (f j).testBit k
          · rw [moF_not h hk e2 hc]
            simp [e, e2]
          · simp [e]
  rw [e1, sN_add, sN_one n _ hi, sN_mul] at h1
  omega

theorem ch_bd {n : Nat} {f : Nat → Nat} (hn : n ≤ 6) (k i J : Nat) (hJ : J ≤ n) : -1000000 ≤ sN J (fun j => if chB f k i j then -(moF n f j k) else 0) ∧ sN J (fun j => if chB f k i j then -(moF n f j k) else 0) ≤ 1000000 := by
  have h0 := sN_bd J 46656 (f := fun j => if chB f k i j then -(moF n f j k) else 0) fun j _ => by
    have h1 := moF_bd (f := f) hn j k
    cases hp : chB f k i j
    · simp
    · simp only [if_true]
      omega
  have h1 : (J : Int) * 46656 ≤ 6 * 46656 := Int.mul_le_mul_of_nonneg_right (by omega) (by omega)
  omega

set_option maxRecDepth 100000 in
set_option maxHeartbeats 3200000 in
theorem chains_any (n : Nat) (f : Nat → Nat) (hP : PoO n f) (hn : n ≤ 6) (k : Nat) (hk : k < n) (v : Value) (w : World) (hv : Sl w.heap.size 3 w v (ints (upL n f))) : ∀ (t i : Nat), i < n → rkF n f i < t →
    Calls Tryd.prog 29 #[v, .int .i64 (i : Int), .int .i64 (k : Int)] w fun e w' => e = .returned (.int .i64 (moF n f i k)) ∧ w' = w
  | 0, i, _, ht => by omega
  | t + 1, i, hi, ht => by
    have hf6 : ∀ j, j < n → f j < 64 := fun j hj => Nat.lt_of_lt_of_le (hP.lt j hj) (Nat.pow_le_pow_right (by omega) hn : 2 ^ n ≤ 2 ^ 6)
    have HR : Hid (∀ j, j < n → (f i).testBit j = true → Calls Tryd.prog 29 #[v, .int .i64 (j : Int), .int .i64 (k : Int)] w fun e w' => e = .returned (.int .i64 (moF n f j k)) ∧ w' = w) := fun j hj hb => by
      have := hP.rk_up hi hj hb
      exact chains_any n f hP hn k hk v w hv t j hj (by omega)
    have HC : Hid (∀ j, j < n → ∃ b o cap, v = .slice (some ⟨b, o, none⟩) n cap ∧ n ≤ cap ∧ w.cell? ⟨b, o + j, none⟩ = some (.int .i64 ((f j : Nat) : Int))) := fun j hj => by
      obtain ⟨b, o, cap, h1, h2, h3⟩ := sl_cell hv (k := j) (by rw [upL_len]; exact hj)
      rw [upL_len] at h1 h2
      rw [upL_at f hj] at h3
      exact ⟨b, o, cap, h1, h2, h3⟩
    by_cases hik : i = k
    · subst hik
      rw [moF_self hP hi]
      obtain ⟨b, o, cap, rfl, _, _⟩ := HC.out i hi
      clear hv
      go_enter Tryd.func29, Tryd.ntmps29
      go_wp2
      go_ret
      exact ⟨rfl, rfl⟩
    · have HE : Hid (sN n (fun j => if chB f k i j then -(moF n f j k) else 0) = moF n f i k) := ch_sum hP hi hk hik
      rw [← HE.out]
      have k1 : ((i : Int) == (k : Int)) = false := by rw [beq_eq_false_iff_ne]; omega
      obtain ⟨S, hS⟩ : ∃ S : Nat → Int, S = fun J => sN J (fun j => if chB f k i j then -(moF n f j k) else 0) := ⟨_, rfl⟩
      have eS : sN n (fun j => if chB f k i j then -(moF n f j k) else 0) = S n := by rw [hS]
      rw [eS]
      have HS0 : Hid (S 0 = 0) := by rw [hS]; show sN 0 _ = 0; rfl
      have HS1 : Hid (∀ J, S (J + 1) = S J + if chB f k i J then -(moF n f J k) else 0) := by rw [hS]; exact fun _ => rfl
      have HSB : Hid (∀ J, J ≤ n → -1000000 ≤ S J ∧ S J ≤ 1000000) := by rw [hS]; exact fun J hJ => ch_bd hn k i J hJ
      have HMB : Hid (∀ j, -46656 ≤ moF n f j k ∧ moF n f j k ≤ 46656) := fun j => moF_bd hn j k
      obtain ⟨b, o, cap, rfl, hcap, ci⟩ := HC.out i hi
      have hfi := hf6 i hi
      have HF6 : Hid (∀ j, j < n → f j < 64) := hf6
      have iI : (i : Int) < (n : Int) := by omega
      have iI0 : (0 : Int) ≤ (i : Int) := by omega
      have kI : (k : Int) < (n : Int) := by omega
      have kI0 : (0 : Int) ≤ (k : Int) := by omega
      have HSN := HS0.out
      clear hS eS HE hv hf6 hik hP
      go_enter Tryd.func29, Tryd.ntmps29
      go_wp2
      go_loop [7, 8] (fun sv jv => ∃ J : Nat, J ≤ n ∧ jv = .int .i64 (J : Int) ∧ sv = .int .i64 (S J)) (fun _ jv => n - (intOf jv).toNat)
      case atStart => exact ⟨0, Nat.zero_le _, rfl, by rw [HSN]⟩
      case round =>
        obtain ⟨J, hJ, rfl, rfl⟩ := hrel
        clear HSN HS0
        obtain ⟨x1, x2⟩ := HSB.out J hJ
        by_cases hlt : J < n
        · obtain ⟨b2, o2, cap2, hs, _, cj⟩ := HC.out J hlt
          simp only [Value.slice.injEq, Option.some.injEq, Addr.mk.injEq, true_and, and_true] at hs
          obtain ⟨⟨rfl, rfl⟩, rfl⟩ := hs
          have q1 := bitq_tab (f i) hfi J (by omega)
          have q2 := bitq_tab (f J) (HF6.out J hlt) k (by omega)
          have HRJ := HR.out J hlt
          have HSJ := HS1.out J
          have e1 : chB f k i J = ((f i).testBit J && (J == k || (f J).testBit k)) := rfl
          rw [e1] at HSJ
          obtain ⟨z1, z2⟩ := HMB.out J
          have t2 : ((J : Int) == (k : Int)) = (J == k) := by rw [Bool.eq_iff_iff, beq_iff_eq, beq_iff_eq]; omega
          have jI : (J : Int) < (n : Int) := by omega
          have jI0 : (0 : Int) ≤ (J : Int) := by omega
          generalize (f i).testBit J = p1 at *
          generalize (f J).testBit k = p3 at *
          generalize (J == k) = p2 at *
          generalize f i = fi at *
          generalize f J = fj at *
          generalize moF n f J k = mj at *
          clear e1
          cases p1
          · have HS2 : Hid (S (J + 1) = S J) := by
              show _ = _
              simpa using HSJ
            simp only [Bool.false_eq_true, if_false] at q1
            clear HSJ HRJ
            go_wp2
            go_round
            case rel => exact ⟨J + 1, by omega, by go_num, by rw [HS2.out]⟩
            case measure => simp [intOf]; omega
          · have HRX := HRJ rfl
            simp only [if_true] at q1
            clear HRJ
            cases p2
            · cases p3
              · have HS2 : Hid (S (J + 1) = S J) := by
                  show _ = _
                  simpa using HSJ
                simp only [Bool.false_eq_true, if_false] at q2
                clear HSJ HRX
                go_wp2
                go_round
                case rel => exact ⟨J + 1, by omega, by go_num, by rw [HS2.out]⟩
                case measure => simp [intOf]; omega
              · have HS2 : Hid (S (J + 1) = S J - mj) := by
                  show _ = _
                  have h := HSJ
                  simp at h
                  omega
                simp only [if_true] at q2
                clear HSJ
                go_wp2_with fail
                refine HRX.mono ?_
                rintro e w1 ⟨rfl, hw⟩
                subst hw
                go_wp2
                go_round
                case rel => exact ⟨J + 1, by omega, by go_num, by rw [HS2.out]⟩
                case measure => simp [intOf]; omega
            · have HS2 : Hid (S (J + 1) = S J - mj) := by
                show _ = _
                have h := HSJ
                simp at h
                omega
              clear HSJ
              go_wp2_with fail
              refine HRX.mono ?_
              rintro e w1 ⟨rfl, hw⟩
              subst hw
              go_wp2
              go_round
              case rel => exact ⟨J + 1, by omega, by go_num, by rw [HS2.out]⟩
              case measure => simp [intOf]; omega
        · have hje : n = J := by omega
          subst hje
          clear hlt hJ
          go_wp2
          go_ret
          exact ⟨rfl, rfl⟩

end Go.Proofs.YtcmemhdlendlkaaDoor
