/- The sort by insertion, of things by falling weights. -/
import Derived.Test.YtkimhomkeneddaaDoorMt10
namespace Go.Proofs.YtkimhomkeneddaaDoor
open Go.RowKit
attribute [local go_sem ↓] Go.wp_at_zero Go.wp_at_succ

theorem ints_setM (l : List Int) (j : Nat) (z : Int) : ints (l.set j z) = (ints l).set j (.int .i64 z) := by simp [ints, List.map_set]

/-- A row that is being sorted. -/
structure IS (B g c n m : Nat) (w : World) (zs : List Int) (wr : World) : Prop where
  own : wr.ownsRow B 3 1 (.slice (some ⟨g, 0, none⟩) n c) n (ints zs)
  len : zs.length = n
  pl : Pl m zs
  oth : ∀ b, b ≠ g → wr.heap[b]? = w.heap[b]?
  sz : wr.heap.size = w.heap.size
  os : wr.os = w.os
  tape : wr.tape = w.tape
  out : wr.output = w.output

theorem IS.sw {B g c n m : Nat} {w wr : World} {zs : List Int} (h : IS B g c n m w zs wr) {j : Nat} (hj : j + 1 < n) :
    IS B g c n m w (swL zs j) ((wr.setCell ⟨g, j + 1, none⟩ (.int .i64 (zs.getD j 0))).setCell ⟨g, j, none⟩ (.int .i64 (zs.getD (j + 1) 0))) := by
  refine ⟨?_, by rw [swL_len]; exact h.len, h.pl.sw (by rw [h.len]; exact hj), fun b hb => (Below.heap_setCell _ _ _ b hb).trans ((Below.heap_setCell _ _ _ b hb).trans (h.oth b hb)), by rw [← h.sz]; simp [World.setCell], h.os, h.tape, h.out⟩
  unfold swL
  rw [ints_setM, ints_setM]
  exact ((h.own.stored (j + 1) _).1.stored j _).1

theorem IS.drewN {B g c n m : Nat} {w wr : World} {zs : List Int} (h : IS B g c n m w zs wr) (d : Nat) : IS B g c n m w zs (wr.drewN d) :=
  ⟨⟨h.own.1, h.own.2⟩, h.len, h.pl, h.oth, h.sz, h.os, h.tape, h.out⟩

theorem IS.cell {B g c n m : Nat} {w wr : World} {zs : List Int} (h : IS B g c n m w zs wr) {k : Nat} (hk : k < n) : wr.cell? ⟨g, k, none⟩ = some (.int .i64 (zs.getD k 0)) ∧ wr.frozen? ⟨g, k, none⟩ = false := by
  have h1 := h.own.cellAt k (by simp; exact hk)
  rw [ints_get _ _ (by rw [h.len]; exact hk)] at h1
  refine ⟨h1, ?_⟩
  rcases h.own.2 with ⟨e, _⟩ | ⟨g', cap, cur, e, _, hh, _⟩
  · simp at e
  · simp only [Value.slice.injEq, Option.some.injEq, Addr.mk.injEq, and_true, true_and] at e
    obtain ⟨rfl, rfl⟩ := e
    simp [World.frozen?, hh]

set_option maxRecDepth 100000 in
set_option maxHeartbeats 1600000 in
theorem insS_any (B g c n : Nat) (ws zs : List Int) (p : Addr) (w : World) (hI : IS B g c n ws.length w zs w) (hn1 : 1 ≤ n) (hn8 : n ≤ 8)
    (hcl : ∀ W' : World, (∀ b, b ≠ g → W'.heap[b]? = w.heap[b]?) → ∀ x y : Nat, x < ws.length → y < ws.length → Calls Tryd.prog 34 #[.int .i64 x, .int .i64 y, .pointer (some p)] W' fun e w' => e = .returned (.int .i64 (cmpI (ws.getD y 0) (ws.getD x 0))) ∧ ∃ d, w' = W'.drewN d) :
    Calls Tryd.prog 48 #[.slice (some ⟨g, 0, none⟩) n c, .int .i64 0, .int .i64 n, .func (.func 34) #[] #[.pointer (some p)]] w fun e w' => e = .returned (.tuple #[]) ∧ IS B g c n ws.length w (insO ws (n - 1) 1 zs) w' := by
  have HI : Hid (IS B g c n ws.length w zs w) := hI
  have HCL : Hid (∀ W' : World, (∀ b, b ≠ g → W'.heap[b]? = w.heap[b]?) → ∀ x y : Nat, x < ws.length → y < ws.length → Calls Tryd.prog 34 #[.int .i64 x, .int .i64 y, .pointer (some p)] W' fun e w' => e = .returned (.int .i64 (cmpI (ws.getD y 0) (ws.getD x 0))) ∧ ∃ d, w' = W'.drewN d) := hcl
  clear hI hcl
  obtain ⟨T, hT⟩ : ∃ T, T = insO ws (n - 1) 1 zs := ⟨_, rfl⟩
  have HT : Hid (T = insO ws (n - 1) 1 zs) := hT
  rw [← hT]
  clear hT
  go_enter Tryd.func48, Tryd.ntmps48
  go_wp2
  go_loopw [8, 9] (fun i _ wr => ∃ (k : Nat) (ys : List Int), 1 ≤ k ∧ k ≤ n ∧ i = .int .i64 k ∧ IS B g c n ws.length w ys wr ∧ T = insO ws (n - k) k ys) (fun i _ _ => n - (intOf i).toNat)
  case atStart => exact ⟨1, zs, Nat.le_refl _, hn1, rfl, HI.out, HT.out⟩
  case round =>
    obtain ⟨k, ys, hk1, hk, rfl, his, ht⟩ := hrel
    have HIS : Hid (IS B g c n ws.length w ys wr) := his
    have HT2 : Hid (T = insO ws (n - k) k ys) := ht
    clear his ht HI HT
    obtain ⟨wa, rfl⟩ : ∃ wa, wa = wr := ⟨wr, rfl⟩
    by_cases hlt : k < n
    · have HT3 : Hid (T = insO ws (n - (k + 1)) (k + 1) (insJ ws k ys)) := by
        show _ = _
        rw [HT2.out, show n - k = (n - (k + 1)) + 1 by omega]; rfl
      clear HT2
      have kI : (k : Int) < (n : Int) := by omega
      obtain ⟨R, hR⟩ : ∃ R, R = insJ ws k ys := ⟨_, rfl⟩
      have HR : Hid (R = insJ ws k ys) := hR
      rw [← hR] at HT3
      clear hR
      go_wp2
      go_loopw [9] (fun i wr => ∃ (j : Nat) (xs : List Int), j ≤ k ∧ i = .int .i64 j ∧ IS B g c n ws.length w xs wr ∧ R = insJ ws j xs) (fun i _ => (intOf i).toNat)
      case atStart => exact ⟨k, ys, Nat.le_refl _, rfl, HIS.out, HR.out⟩
      case round =>
        obtain ⟨j, xs, hj, rfl, hix, hr⟩ := hrel
        have HRX : Hid (R = insJ ws j xs) := hr
        clear HR HIS hr
        obtain ⟨wb, rfl⟩ : ∃ wb, wb = wr := ⟨wr, rfl⟩
        have HIX : Hid (IS B g c n ws.length w xs wb) := hix
        cases j with
        | zero =>
          have HE : Hid (R = xs) := HRX.out
          have q3 : decide ((0 : Int) < ((0 : Nat) : Int)) = false := rfl
          clear hix HRX
          go_wp2_with fail
          go_big_quiet (fail)
          go_wp2
          go_roundw
          case rel => exact ⟨k + 1, R, by omega, by omega, by go_num, by rw [HE.out]; exact HIX.out.drewN _, HT3.out⟩
          case measure => simp [intOf]; omega
        | succ j =>
          obtain ⟨x1, f1⟩ := hix.cell (k := j) (by omega)
          obtain ⟨x2, f2⟩ := hix.cell (k := j + 1) (by omega)
          obtain ⟨p1, p2⟩ := hix.pl j (by rw [hix.len]; omega)
          obtain ⟨p3, p4⟩ := hix.pl (j + 1) (by rw [hix.len]; omega)
          obtain ⟨a, ha⟩ : ∃ a : Nat, xs.getD j 0 = (a : Int) := ⟨(xs.getD j 0).toNat, by omega⟩
          obtain ⟨b, hb⟩ : ∃ b : Nat, xs.getD (j + 1) 0 = (b : Int) := ⟨(xs.getD (j + 1) 0).toNat, by omega⟩
          have ha8 : a < ws.length := by omega
          have hb8 : b < ws.length := by omega
          have HUP : Hid (upB ws xs j = decide (cmpI (ws.getD a 0) (ws.getD b 0) < 0)) := by
            show _ = _
            unfold upB
            rw [ha, hb, Int.toNat_natCast, Int.toNat_natCast]
          have HSW : Hid (IS B g c n ws.length w (swL xs j) ((wb.setCell ⟨g, j + 1, none⟩ (.int .i64 a)).setCell ⟨g, j, none⟩ (.int .i64 b))) := by
            have := hix.sw (j := j) (by omega)
            rw [ha, hb] at this
            exact this
          have HC1 : Hid (∀ q, Calls Tryd.prog 34 #[.int .i64 b, .int .i64 a, .pointer (some p)] (wb.drewN q) fun e w' => e = .returned (.int .i64 (cmpI (ws.getD a 0) (ws.getD b 0))) ∧ ∃ d, w' = (wb.drewN q).drewN d) := fun q => HCL.out (wb.drewN q) HIX.out.oth b a hb8 ha8
          rw [ha] at x1
          rw [hb] at x2
          have q3 : decide ((0 : Int) < ((j + 1 : Nat) : Int)) = true := decide_eq_true (by omega)
          have q3' : decide ((0 : Int) < (j : Int) + 1) = true := decide_eq_true (by omega)
          have jI : (j : Int) < (n : Int) := by omega
          have jI0 : (0 : Int) ≤ (j : Int) := by omega
          have jI2 : (j : Int) + 1 < (n : Int) := by omega
          clear hix p1 p2 p3 p4 ha hb
          generalize cmpI (ws.getD a 0) (ws.getD b 0) = z at *
          by_cases hz : z < 0
          · have qz : decide (z < 0) = true := decide_eq_true hz
            have HNX : Hid (R = insJ ws j (swL xs j)) := by
              show _ = _
              rw [HRX.out]
              show (if upB ws xs j = true then _ else _) = _
              rw [HUP.out, if_pos qz]
            clear HRX hz
            go_wp2_with fail
            go_big_quiet ((go_at_call 34; exact Calls.quiet_of (HC1.out _)))
            obtain ⟨W2, hW2⟩ : ∃ W2, W2 = wb.drewN nq := ⟨_, rfl⟩
            rw [← hW2]
            have y1 : W2.cell? ⟨g, j, none⟩ = some (.int .i64 a) := by rw [hW2]; exact x1
            have y2 : W2.cell? ⟨g, j + 1, none⟩ = some (.int .i64 b) := by rw [hW2]; exact x2
            have g1 : W2.frozen? ⟨g, j, none⟩ = false := by rw [hW2]; exact f1
            have g2 : W2.frozen? ⟨g, j + 1, none⟩ = false := by rw [hW2]; exact f2
            have HSX : Hid (IS B g c n ws.length w (swL xs j) ((W2.setCell ⟨g, j + 1, none⟩ (.int .i64 a)).setCell ⟨g, j, none⟩ (.int .i64 b))) := by
              rw [hW2]; exact HSW.out.drewN nq
            clear hW2 x1 x2 f1 f2 HSW HC1 HCL HIX HUP
            go_wp2_with fail
            go_big_region
            all_goals
              go_wp2
              exact ⟨⟨j, _, by omega, by go_num, HSX.out.drewN _, HNX.out⟩, by simp [intOf]⟩
          · have qz : decide (z < 0) = false := decide_eq_false hz
            have HNX : Hid (R = xs) := by
              show _ = _
              rw [HRX.out]
              show (if upB ws xs j = true then _ else _) = _
              rw [HUP.out, if_neg (by rw [qz]; decide)]
            clear HRX hz
            go_wp2_with fail
            go_big_quiet ((go_at_call 34; exact Calls.quiet_of (HC1.out _)))
            go_wp2
            go_roundw
            case rel => exact ⟨k + 1, R, by omega, by omega, by go_num, by rw [HNX.out]; exact HIX.out.drewN _, HT3.out⟩
            case measure => simp [intOf]; omega
    · have hke : k = n := by omega
      subst hke
      have HE : Hid (T = ys) := by
        have := HT2.out
        rw [Nat.sub_self] at this
        exact this
      clear HT2
      go_wp2
      go_end0
      exact ⟨rfl, by rw [HE.out]; exact HIS.out⟩

end Go.Proofs.YtkimhomkeneddaaDoor
