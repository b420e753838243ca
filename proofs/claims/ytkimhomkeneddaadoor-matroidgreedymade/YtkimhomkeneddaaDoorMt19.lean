/- MatroidGreedy: the law. -/
import Derived.Test.YtkimhomkeneddaaDoorMt17
import Derived.Test.YtkimhomkeneddaaDoorMt18
namespace Go.Proofs.YtkimhomkeneddaaDoor
open Go.RowKit
attribute [local go_sem ↓] Go.wp_at_zero Go.wp_at_succ

theorem gr_ok {N : Int} {bs ws : List Int} (h : grE N bs ws = 0) : B8 bs ∧ (ws.length : Int) = N ∧ ws.length ≤ 8 ∧ ws.any (farB · 1000) = false := by
  unfold grE at h
  by_cases h1 : matE N bs = 0
  · rw [if_neg (by simp [h1])] at h
    obtain ⟨k1, k2, k3⟩ := mat_b8 h1
    by_cases h2 : (ws.length : Int) = N
    · rw [if_neg (by simp [h2])] at h
      refine ⟨k1, h2, by omega, ?_⟩
      cases h3 : ws.any (farB · 1000)
      · rfl
      · rw [h3, if_pos rfl] at h
        omega
    · rw [if_pos h2] at h
      omega
  · rw [if_pos h1] at h
    exact absurd h h1

set_option maxRecDepth 100000 in
set_option maxHeartbeats 800000 in
theorem matGreedy_any (N : Int) (bs ws : List Int) (v wv : Value) (w : World) (hv : Sl w.heap.size 3 w v (ints bs)) (hwv : Sl w.heap.size 3 w wv (ints ws)) (hT : TabB w) :
    Calls Tryd.prog 3 #[.agg #[.int .i64 N, v], wv] w fun e w' => e = .returned (.bool true) ∧ Below w.heap.size w w' := by
  obtain ⟨ao, cap, hvv, hlc, hcm⟩ := sl_open hv
  subst hvv
  obtain ⟨wo, wc, hwvv, hwlc, hwcm⟩ := sl_open hwv
  subst hwvv
  obtain ⟨W, hW⟩ : ∃ W, W = w.alloc (.cells #[.int .i64 N, .slice ao bs.length cap] 24) := ⟨_, rfl⟩
  have HBA : Hid (Below w.heap.size w W) := by rw [hW]; exact (Below.refl _ _).alloc (Nat.le_refl _) _
  have c0 : W.cell? ⟨w.heap.size, 0, none⟩ = some (.int .i64 N) := by rw [hW]; simp
  have c1 : W.cell? ⟨w.heap.size, 1, none⟩ = some (.slice ao bs.length cap) := by rw [hW]; simp
  have HC : Hid (∀ W', Below W.heap.size W W' → W'.cell? ⟨w.heap.size, 0, none⟩ = some (.int .i64 N) ∧ W'.cell? ⟨w.heap.size, 1, none⟩ = some (.slice ao bs.length cap) ∧ Sl W'.heap.size 3 W' (.slice ao bs.length cap) (ints bs) ∧ Sl W'.heap.size 3 W' (.slice wo ws.length wc) (ints ws) ∧ TabB W' ∧ Below w.heap.size w W') := fun W' h => by
    have hb := HBA.out.trans (h.mono HBA.out.size)
    exact ⟨(h.cell (lt_of_cell c0)).trans c0, (h.cell (lt_of_cell c1)).trans c1, (hv.below hb (Nat.le_refl _)).more hb.size, (hwv.below hb (Nat.le_refl _)).more hb.size, hT.below hb, hb⟩
  by_cases hl : 300 < bs.length
  · have b0 : decide ((300 : Int) < (bs.length : Int)) = true := decide_eq_true (by omega)
    clear hv hwv hT
    obtain ⟨q, hq⟩ : ∃ q, q = bs.length := ⟨_, rfl⟩
    rw [← hq] at b0 hl hW c1 hlc ⊢
    clear hq HC
    go_enter Tryd.func3, Tryd.ntmps3
    go_wp2
    go_ret
    exact ⟨rfl, by have := HBA.out; rw [hW] at this; exact this⟩
  have b0 : decide ((300 : Int) < (bs.length : Int)) = false := decide_eq_false (by omega)
  by_cases hl2 : 300 < ws.length
  · have b1 : decide ((300 : Int) < (ws.length : Int)) = true := decide_eq_true (by omega)
    have b2 : bs.length ≤ 300 := by omega
    clear hv hwv hT HC
    go_enter Tryd.func3, Tryd.ntmps3
    go_wp2
    go_ret
    exact ⟨rfl, by have := HBA.out; rw [hW] at this; exact this⟩
  have b1 : decide ((300 : Int) < (ws.length : Int)) = false := decide_eq_false (by omega)
  have b2 : bs.length ≤ 300 := by omega
  have b3 : ws.length ≤ 300 := by omega
  have HMY : Hid (Calls Tryd.prog 5 #[.agg #[.int .i64 N, .slice ao bs.length cap], .slice wo ws.length wc] W fun e w' => e = .returned (.int .i64 (grE N bs ws)) ∧ Below W.heap.size W w') := by
    obtain ⟨-, -, k1, k2, -, -⟩ := HC.out W (Below.refl _ _)
    exact gmay_any N bs ws _ _ W k1 k2 (by omega)
  have HGR : Hid (∀ W', Below W.heap.size W W' → Calls Tryd.prog 7 #[.agg #[.int .i64 N, .slice ao bs.length cap], .slice wo ws.length wc] W' fun e w' => e = .returned (.tuple #[.int .i64 ((grA N bs ws).1 : Int), .int .i64 (grA N bs ws).2, .int .i64 (grE N bs ws)]) ∧ Below W'.heap.size W' w') := fun W' h => by
    obtain ⟨-, -, k1, k2, k3, -⟩ := HC.out W' h
    exact greedy_any N bs ws _ _ W' k1 k2 (by omega) k3
  have HGO : Hid (grE N bs ws = 0 → ∀ W', Below W.heap.size W W' → Calls Tryd.prog 6 #[.agg #[.int .i64 N, .slice ao bs.length cap], .slice wo ws.length wc] W' fun e w' => e = .returned (.tuple #[.int .i64 ((grA N bs ws).1 : Int), .int .i64 (grA N bs ws).2]) ∧ Below W'.heap.size W' w') := fun h0 W' h => by
    obtain ⟨-, -, k1, k2, -, -⟩ := HC.out W' h
    obtain ⟨j1, j2, j3, j4⟩ := gr_ok h0
    have := gof_any bs ws _ _ W' k1 k2 j1 j3 j4
    rw [j2] at this
    unfold grA
    rw [if_pos h0]
    exact this
  have HA0 : Hid (grE N bs ws ≠ 0 → grA N bs ws = (0, 0)) := fun h => if_neg h
  generalize grE N bs ws = E at *
  generalize grA N bs ws = A at *
  obtain ⟨A1, A2⟩ := A
  clear hv hwv hT hl hl2
  go_enter Tryd.func3, Tryd.ntmps3
  go_wp2_with fail
  rw [← hW]
  refine HMY.out.mono ?_
  rintro e w1 ⟨rfl, hb1⟩
  obtain ⟨d0, d1, -, -, -, hbw⟩ := HC.out w1 hb1
  have HB1 : Hid (Below W.heap.size W w1) := hb1
  clear hb1 hbw hW c0 c1
  have e0 : ((A1 : Int) == (A1 : Int)) = true := by simp
  have e1 : (A2 == A2) = true := by simp
  have e2 : (E == E) = true := by simp
  by_cases hE : E = 0
  · subst hE
    go_wp2_with fail
    refine (HGO.out trivial w1 HB1.out).mono ?_
    rintro e w2 ⟨rfl, hb2⟩
    have HB2 : Hid (Below W.heap.size W w2) := HB1.out.trans (hb2.mono HB1.out.size)
    obtain ⟨f0, f1, -, -, -, hbw⟩ := HC.out w2 HB2.out
    clear hb2 hbw d0 d1
    go_wp2_with fail
    refine (HGR.out w2 HB2.out).mono ?_
    rintro e w3 ⟨rfl, hb3⟩
    have HB3 : Hid (Below w.heap.size w w3) := (HC.out w3 (HB2.out.trans (hb3.mono HB2.out.size))).2.2.2.2.2
    clear hb3 f0 f1
    go_wp2
    go_ret
    exact ⟨rfl, HB3.out⟩
  · have b4 : (E == 0) = false := by rw [beq_eq_false_iff_ne]; exact hE
    have hA := HA0.out hE
    simp only [Prod.mk.injEq] at hA
    obtain ⟨rfl, rfl⟩ := hA
    clear hE HGO HA0
    go_wp2_with fail
    refine (HGR.out w1 HB1.out).mono ?_
    rintro e w3 ⟨rfl, hb3⟩
    have HB3 : Hid (Below w.heap.size w w3) := (HC.out w3 (HB1.out.trans (hb3.mono HB1.out.size))).2.2.2.2.2
    clear hb3 d0 d1
    go_wp2
    go_ret
    exact ⟨rfl, HB3.out⟩

end Go.Proofs.YtkimhomkeneddaaDoor
