/- MatroidSays: for any matroid, set and thing. -/
import Derived.Test.YtehklbekaflokaaDoorMwA
import Derived.Test.YtehklbekaflokaaDoorMwB
namespace Go.Proofs.YtehklbekaflokaaDoor
open Go.RowKit
attribute [local go_sem ↓] Go.wp_at_zero Go.wp_at_succ

theorem rk_bad {n : Nat} {bs : List Int} {s : Int} (h0 : matE (n : Int) bs = 0) (h : s < 0 ∨ (2 : Int) ^ n ≤ s) : rkE n bs s = 4 ∧ rkA n bs s = 0 := by
  have e : rkE (n : Int) bs s = 4 := by
    unfold rkE
    rw [if_neg (by omega), if_neg ?_]
    simp only [Bool.and_eq_true, decide_eq_true_eq, Int.toNat_natCast]
    omega
  exact ⟨e, by unfold rkA; rw [if_neg (by rw [e]; decide)]⟩

theorem rk_good {n : Nat} {bs : List Int} {z : Nat} (h0 : matE (n : Int) bs = 0) (h : z < 2 ^ n) : rkE n bs (z : Int) = 0 ∧ rkA n bs (z : Int) = rkN bs z := by
  have hz : (z : Int) < 2 ^ n := by have : ((2 ^ n : Nat) : Int) = (2 : Int) ^ n := by simp
                                    omega
  have e : rkE (n : Int) bs (z : Int) = 0 := by
    unfold rkE
    rw [if_neg (by omega), if_pos ?_]
    simp only [Bool.and_eq_true, decide_eq_true_eq, Int.toNat_natCast]
    exact ⟨by omega, hz⟩
  exact ⟨e, by unfold rkA; rw [if_pos e, Int.toNat_natCast]⟩

theorem th_bad {n : Nat} {bs : List Int} {i : Int} (h0 : matE (n : Int) bs = 0) (h : i < 0 ∨ (n : Int) ≤ i) : thE n bs i = 9 ∧ mnN n bs i = 0 ∧ mnB n bs i dlP = [] ∧ mnB n bs i cnP = [] := by
  have e : thE (n : Int) bs i = 9 := by unfold thE; rw [if_neg (by omega), if_pos h]
  have ne : ¬ thE (n : Int) bs i = 0 := by rw [e]; decide
  exact ⟨e, if_neg ne, if_neg ne, if_neg ne⟩

theorem th_good {n : Nat} {bs : List Int} {z : Nat} (h0 : matE (n : Int) bs = 0) (h : z < n) : thE n bs (z : Int) = 0 := by
  unfold thE; rw [if_neg (by omega), if_neg (by omega)]

set_option maxRecDepth 100000 in
set_option maxHeartbeats 1600000 in
theorem says_long (N s i : Int) (ao : Option Addr) (LN cap : Nat) (w : World) (hl : 300 < LN) :
    Calls Tryd.prog 3 #[.agg #[.int .i64 N, .slice ao LN cap], .int .i64 s, .int .i64 i] w fun e w' => e = .returned (.bool true) ∧ Below w.heap.size w w' := by
  have b300 : decide ((300 : Int) < (LN : Int)) = true := decide_eq_true (by omega)
  have HBA : Hid (Below w.heap.size w (w.alloc (.cells #[.int .i64 N, .slice ao LN cap] 24))) := (Below.refl _ _).alloc (Nat.le_refl _) _
  go_enter Tryd.func3, Tryd.ntmps3
  go_wp2
  go_ret
  exact ⟨rfl, HBA.out⟩

theorem matSays_any (N s i : Int) (bs : List Int) (v : Value) (w : World) (hv : Sl w.heap.size 3 w v (ints bs)) (hT : TabB w) :
    Calls Tryd.prog 3 #[.agg #[.int .i64 N, v], .int .i64 s, .int .i64 i] w fun e w' => e = .returned (.bool true) ∧ Below w.heap.size w w' := by
  obtain ⟨ao, cap, hvv, hlc, hcm⟩ := sl_open hv
  subst hvv
  by_cases hl : 300 < bs.length
  · exact says_long N s i ao bs.length cap w hl
  have hln : bs.length ≤ 300 := by omega
  obtain ⟨W0, hW⟩ : ∃ W0, W0 = w.alloc (.cells #[.int .i64 N, .slice ao bs.length cap] 24) := ⟨_, rfl⟩
  have hb : Below w.heap.size w W0 := by rw [hW]; exact (Below.refl _ _).alloc (Nat.le_refl _) _
  have hF := fx_all N s i bs (.slice ao bs.length cap) w W0 hv hln hT hb
  by_cases hm : matE N bs ≠ 0
  · have e1 : rkE N bs s = matE N bs := if_pos hm
    have e2 : rkA N bs s = 0 := if_neg (by rw [e1]; exact hm)
    have e3 : thE N bs i = matE N bs := if_pos hm
    have n3 : ¬ thE N bs i = 0 := by rw [e3]; exact hm
    have e4 : mnN N bs i = 0 := if_neg n3
    have e5 : mnB N bs i dlP = [] := if_neg n3
    have e6 : mnB N bs i cnP = [] := if_neg n3
    obtain ⟨f1, f2, f3, f4⟩ := hF.hE hm
    rw [e2, e1, e3, e4, e5, e6, f1, f2, f3, f4] at hF
    exact says_err N s i (matE N bs) ao bs.length cap w W0 hW hF hln hm
  have hm0 : matE N bs = 0 := by omega
  obtain ⟨hb8, hN0, hN8⟩ := mat_b8 hm0
  obtain ⟨n, rfl⟩ : ∃ n : Nat, N = (n : Int) := ⟨N.toNat, by omega⟩
  have hn8 : n ≤ 8 := by omega
  have hG := gx_all n bs (.slice ao bs.length cap) w W0 hv hln hb hm0
  have hs0 : ∀ W', Below W0.heap.size W0 W' → Sl W'.heap.size 3 W' (.slice ao bs.length cap) (ints bs) := fun W' h => by
    have h2 : Below w.heap.size w W' := hb.trans (h.mono hb.size)
    exact (hv.below h2 (Nat.le_refl _)).more h2.size
  have hp := pow8_le n hn8
  have hpn : ((2 ^ n : Nat) : Int) = (2 : Int) ^ n := by simp
  have hRD : ∀ zs : Nat, zs < 2 ^ n → ∀ W', Below W0.heap.size W0 W' → Calls Tryd.prog 10 #[.agg #[.int .i64 (n : Int), .slice ao bs.length cap], .int .i64 (zs : Int)] W' fun e w' => e = .returned (.int .i64 (rkN bs zs)) ∧ Below W'.heap.size W' w' := fun zs hz W' h => rankD_any n bs zs _ W' (hs0 W' h) hb8 (by omega)
  have hMD : ∀ zi : Nat, zi < n → ∀ W', Below W0.heap.size W0 W' → Calls Tryd.prog 11 #[.agg #[.int .i64 (n : Int), .slice ao bs.length cap], .int .i64 (zi : Int), .bool false] W' fun e w' => ∃ u, e = .returned (.agg #[.int .i64 (mnN n bs zi), u]) ∧ Sl 0 3 w' u (ints (mnB n bs zi dlP)) ∧ Below W'.heap.size W' w' := fun zi hz W' h => minorE_any n bs zi false dlP _ W' (hs0 W' h) (by omega) hm0 hz (wiP_del zi)
  have hMC : ∀ zi : Nat, zi < n → ∀ W', Below W0.heap.size W0 W' → Calls Tryd.prog 11 #[.agg #[.int .i64 (n : Int), .slice ao bs.length cap], .int .i64 (zi : Int), .bool true] W' fun e w' => ∃ u, e = .returned (.agg #[.int .i64 (mnN n bs zi), u]) ∧ Sl 0 3 w' u (ints (mnB n bs zi cnP)) ∧ Below W'.heap.size W' w' := fun zi hz W' h => minorE_any n bs zi true cnP _ W' (hs0 W' h) (by omega) hm0 hz (wiP_con zi)
  rw [hm0] at hF
  have hscase : s < 0 ∨ (0 ≤ s ∧ (2 : Int) ^ n ≤ s) ∨ ∃ zs : Nat, s = (zs : Int) ∧ zs < 2 ^ n := by
    by_cases h1 : s < 0
    · exact .inl h1
    · by_cases h2 : (2 : Int) ^ n ≤ s
      · exact .inr (.inl ⟨by omega, h2⟩)
      · exact .inr (.inr ⟨s.toNat, by omega, by omega⟩)
  have hicase : i < 0 ∨ (0 ≤ i ∧ (n : Int) ≤ i) ∨ ∃ zi : Nat, i = (zi : Int) ∧ zi < n := by
    by_cases h1 : i < 0
    · exact .inl h1
    · by_cases h2 : (n : Int) ≤ i
      · exact .inr (.inl ⟨by omega, h2⟩)
      · exact .inr (.inr ⟨i.toNat, by omega, by omega⟩)
  rcases hscase with hs | ⟨hs1, hs⟩ | ⟨zs, rfl, hs⟩
  · obtain ⟨e1, e2⟩ := rk_bad (bs := bs) hm0 (.inl hs)
    rw [e1, e2] at hF
    rcases hicase with hi | ⟨hi1, hi⟩ | ⟨zi, rfl, hi⟩
    · obtain ⟨t1, t2, t3, t4⟩ := th_bad (bs := bs) hm0 (.inl hi)
      rw [t1, t2, t3, t4] at hF
      exact says_neg_neg n _ s i _ _ _ ao bs.length cap w W0 hW hF hln hn8 hG hs hi
    · obtain ⟨t1, t2, t3, t4⟩ := th_bad (bs := bs) hm0 (.inr hi)
      rw [t1, t2, t3, t4] at hF
      exact says_neg_big n _ s i _ _ _ ao bs.length cap w W0 hW hF hln hn8 hG hs hi1 hi
    · rw [th_good (bs := bs) hm0 hi] at hF
      exact says_neg_good n _ _ s zi _ _ _ _ _ ao bs.length cap w W0 hW hF hln hn8 hG hs hi (hMD zi hi) (hMC zi hi)
  · obtain ⟨e1, e2⟩ := rk_bad (bs := bs) hm0 (.inr hs)
    rw [e1, e2] at hF
    rcases hicase with hi | ⟨hi1, hi⟩ | ⟨zi, rfl, hi⟩
    · obtain ⟨t1, t2, t3, t4⟩ := th_bad (bs := bs) hm0 (.inl hi)
      rw [t1, t2, t3, t4] at hF
      exact says_big_neg n _ s i _ _ _ ao bs.length cap w W0 hW hF hln hn8 hG hs1 hs hi
    · obtain ⟨t1, t2, t3, t4⟩ := th_bad (bs := bs) hm0 (.inr hi)
      rw [t1, t2, t3, t4] at hF
      exact says_big_big n _ s i _ _ _ ao bs.length cap w W0 hW hF hln hn8 hG hs1 hs hi1 hi
    · rw [th_good (bs := bs) hm0 hi] at hF
      exact says_big_good n _ _ s zi _ _ _ _ _ ao bs.length cap w W0 hW hF hln hn8 hG hs1 hs hi (hMD zi hi) (hMC zi hi)
  · obtain ⟨e1, e2⟩ := rk_good (bs := bs) hm0 hs
    rw [e1, e2] at hF
    rcases hicase with hi | ⟨hi1, hi⟩ | ⟨zi, rfl, hi⟩
    · obtain ⟨t1, t2, t3, t4⟩ := th_bad (bs := bs) hm0 (.inl hi)
      rw [t1, t2, t3, t4] at hF
      exact says_good_neg n _ _ zs i _ _ _ ao bs.length cap w W0 hW hF hln hn8 hG hs (hRD zs hs) hi
    · obtain ⟨t1, t2, t3, t4⟩ := th_bad (bs := bs) hm0 (.inr hi)
      rw [t1, t2, t3, t4] at hF
      exact says_good_big n _ _ zs i _ _ _ ao bs.length cap w W0 hW hF hln hn8 hG hs (hRD zs hs) hi1 hi
    · rw [th_good (bs := bs) hm0 hi] at hF
      exact says_good_good n _ _ _ zs zi _ _ _ _ _ ao bs.length cap w W0 hW hF hln hn8 hG hs (hRD zs hs) hi (hMD zi hi) (hMC zi hi)

end Go.Proofs.YtehklbekaflokaaDoor
