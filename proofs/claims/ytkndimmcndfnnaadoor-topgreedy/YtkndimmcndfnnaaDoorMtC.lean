import Derived.Test.YtkndimmcndfnnaaDoorMt8
import Derived.Test.YtkndimmcndfnnaaDoorOrd1
/- Things by falling weights: the comparison, and the sort by insertion. -/
namespace Go.Proofs.YtkndimmcndfnnaaDoor
open Go.RowKit
attribute [local go_sem ↓] Go.wp_at_zero Go.wp_at_succ

set_option maxRecDepth 100000 in
set_option maxHeartbeats 400000 in
theorem heavy1_any (B : Nat) (ws : List Int) (a b : Nat) (v : Value) (p : Addr) (w : World) (hv : Sl B 3 w v (ints ws)) (ha : a < ws.length) (hb : b < ws.length) (hc : w.cell? p = some v) :
    Calls Tryd.prog 32 #[.int .i64 a, .int .i64 b, .pointer (some p)] w fun e w' => e = .returned (.int .i64 (cmpI (ws.getD b 0) (ws.getD a 0))) ∧ ∃ n, w' = w.drewN n := by
  obtain ⟨ao, cap, hvv, hlc, hcm⟩ := sl_open hv
  subst hvv
  obtain ⟨cb, co, cc, hs, _, h1⟩ := sl_cell hv ha
  simp only [Value.slice.injEq] at hs
  obtain ⟨rfl, -, rfl⟩ := hs
  obtain ⟨cb', co', cc', hs, _, h2⟩ := sl_cell hv hb
  simp only [Value.slice.injEq, Option.some.injEq, Addr.mk.injEq, and_true, true_and] at hs
  obtain ⟨⟨rfl, rfl⟩, rfl⟩ := hs
  have HC : Hid (∀ q, Calls Tryd.prog 33 #[.int .i64 (ws.getD b 0), .int .i64 (ws.getD a 0)] (w.drewN q) fun e w' => e = .returned (.int .i64 (cmpI (ws.getD b 0) (ws.getD a 0))) ∧ w' = w.drewN q) := fun q => cmpI_any _ _ _
  have aI : (a : Int) < (ws.length : Int) := by omega
  have aI0 : (0 : Int) ≤ (a : Int) := by omega
  have bI : (b : Int) < (ws.length : Int) := by omega
  have bI0 : (0 : Int) ≤ (b : Int) := by omega
  clear hv
  generalize cmpI (ws.getD b 0) (ws.getD a 0) = z at *
  generalize ws.getD b 0 = X at *
  generalize ws.getD a 0 = Y at *
  go_enter Tryd.func32, Tryd.ntmps32
  go_wp2_with fail
  go_big_quiet ((go_at_call 33; exact Calls.quiet_of_same (w := w) (HC.out _)))
  go_wp2
  go_ret
  exact ⟨rfl, nq, rfl⟩

/-- Two neighbours changed about. -/
def swL (zs : List Int) (j : Nat) : List Int := (zs.set (j + 1) (zs.getD j 0)).set j (zs.getD (j + 1) 0)

/-- Whether the thing in place j + 1 is heavier than the one ahead of it. -/
def upB (ws zs : List Int) (j : Nat) : Bool := decide (cmpI (ws.getD (zs.getD j 0).toNat 0) (ws.getD (zs.getD (j + 1) 0).toNat 0) < 0)

/-- The thing in place j goes ahead of all lighter ones. -/
def insJ (ws : List Int) : Nat → List Int → List Int
  | 0, zs => zs
  | j + 1, zs => if upB ws zs j = true then insJ ws j (swL zs j) else zs

/-- From place i on. -/
def insO (ws : List Int) : Nat → Nat → List Int → List Int
  | 0, _, zs => zs
  | m + 1, i, zs => insO ws m (i + 1) (insJ ws i zs)

theorem swL_len (zs : List Int) (j : Nat) : (swL zs j).length = zs.length := by simp [swL]

/-- All are places of the weights. -/
def Pl (n : Nat) (zs : List Int) : Prop := ∀ k, k < zs.length → 0 ≤ zs.getD k 0 ∧ zs.getD k 0 < n

theorem Pl.sw {n : Nat} {zs : List Int} {j : Nat} (h : Pl n zs) (hj : j + 1 < zs.length) : Pl n (swL zs j) := by
  intro k hk
  rw [swL_len] at hk
  have h1 := h j (by omega)
  have h2 := h (j + 1) hj
  have h3 := h k hk
  unfold swL
  by_cases e : j = k
  · subst e
    rw [List.getD_eq_getElem?_getD, List.getElem?_set_self (by simp; omega), Option.getD_some]
    exact h2
  · rw [List.getD_eq_getElem?_getD, List.getElem?_set_ne e]
    by_cases e2 : j + 1 = k
    · subst e2
      rw [List.getElem?_set_self (by omega), Option.getD_some]
      exact h1
    · rw [List.getElem?_set_ne e2, ← List.getD_eq_getElem?_getD]
      exact h3

end Go.Proofs.YtkndimmcndfnnaaDoor

/- The sort by insertion, of things by falling weights. -/
namespace Go.Proofs.YtkndimmcndfnnaaDoor
open Go.RowKit
attribute [local go_sem ↓] Go.wp_at_zero Go.wp_at_succ

theorem ints_setM (l : List Int) (j : Nat) (z : Int) : ints (l.set j z) = (ints l).set j (.int .i64 z) := by simp [ints, List.map_set]

/-- A row that is being sorted. -/
structure IS (B g c n m : Nat) (w : World) (zs : List Int) (wr : World) : Prop where
  own : wr.ownsRow B 3 1 (.slice (some ⟨g, 0, none⟩) n c) n (ints zs)
  len : zs.length = n
  pl : Pl m zs
  oth : ∀ b, b ≠ g → wr.heap[b]? = w.heap[b]?
  sz : wr.heap.size = w.heap.size
  os : wr.os = w.os
  tape : wr.tape = w.tape
  out : wr.output = w.output

theorem IS.sw {B g c n m : Nat} {w wr : World} {zs : List Int} (h : IS B g c n m w zs wr) {j : Nat} (hj : j + 1 < n) :
    IS B g c n m w (swL zs j) ((wr.setCell ⟨g, j + 1, none⟩ (.int .i64 (zs.getD j 0))).setCell ⟨g, j, none⟩ (.int .i64 (zs.getD (j + 1) 0))) := by
  refine ⟨?_, by rw [swL_len]; exact h.len, h.pl.sw (by rw [h.len]; exact hj), fun b hb => (Below.heap_setCell _ _ _ b hb).trans ((Below.heap_setCell _ _ _ b hb).trans (h.oth b hb)), by rw [← h.sz]; simp [World.setCell], h.os, h.tape, h.out⟩
  unfold swL
  rw [ints_setM, ints_setM]
  exact ((h.own.stored (j + 1) _).1.stored j _).1

theorem IS.drewN {B g c n m : Nat} {w wr : World} {zs : List Int} (h : IS B g c n m w zs wr) (d : Nat) : IS B g c n m w zs (wr.drewN d) :=
  ⟨⟨h.own.1, h.own.2⟩, h.len, h.pl, h.oth, h.sz, h.os, h.tape, h.out⟩

theorem IS.cell {B g c n m : Nat} {w wr : World} {zs : List Int} (h : IS B g c n m w zs wr) {k : Nat} (hk : k < n) : wr.cell? ⟨g, k, none⟩ = some (.int .i64 (zs.getD k 0)) ∧ wr.frozen? ⟨g, k, none⟩ = false := by
  have h1 := h.own.cellAt k (by simp; exact hk)
  rw [ints_get _ _ (by rw [h.len]; exact hk)] at h1
  refine ⟨h1, ?_⟩
  rcases h.own.2 with ⟨e, _⟩ | ⟨g', cap, cur, e, _, hh, _⟩
  · simp at e
  · simp only [Value.slice.injEq, Option.some.injEq, Addr.mk.injEq, and_true, true_and] at e
    obtain ⟨rfl, rfl⟩ := e
    simp [World.frozen?, hh]

set_option maxRecDepth 100000 in
set_option maxHeartbeats 1600000 in
theorem insS_any (B g c n : Nat) (ws zs : List Int) (p : Addr) (w : World) (hI : IS B g c n ws.length w zs w) (hn1 : 1 ≤ n) (hn8 : n ≤ 8)
    (hcl : ∀ W' : World, (∀ b, b ≠ g → W'.heap[b]? = w.heap[b]?) → ∀ x y : Nat, x < ws.length → y < ws.length → Calls Tryd.prog 32 #[.int .i64 x, .int .i64 y, .pointer (some p)] W' fun e w' => e = .returned (.int .i64 (cmpI (ws.getD y 0) (ws.getD x 0))) ∧ ∃ d, w' = W'.drewN d) :
    Calls Tryd.prog 43 #[.slice (some ⟨g, 0, none⟩) n c, .int .i64 0, .int .i64 n, .func (.func 32) #[] #[.pointer (some p)]] w fun e w' => e = .returned (.tuple #[]) ∧ IS B g c n ws.length w (insO ws (n - 1) 1 zs) w' := by
  have HI : Hid (IS B g c n ws.length w zs w) := hI
  have HCL : Hid (∀ W' : World, (∀ b, b ≠ g → W'.heap[b]? = w.heap[b]?) → ∀ x y : Nat, x < ws.length → y < ws.length → Calls Tryd.prog 32 #[.int .i64 x, .int .i64 y, .pointer (some p)] W' fun e w' => e = .returned (.int .i64 (cmpI (ws.getD y 0) (ws.getD x 0))) ∧ ∃ d, w' = W'.drewN d) := hcl
  clear hI hcl
  obtain ⟨T, hT⟩ : ∃ T, T = insO ws (n - 1) 1 zs := ⟨_, rfl⟩
  have HT : Hid (T = insO ws (n - 1) 1 zs) := hT
  rw [← hT]
  clear hT
  go_enter Tryd.func43, Tryd.ntmps43
  go_wp2
  go_loopw [8, 9] (fun i _ wr => ∃ (k : Nat) (ys : List Int), 1 ≤ k ∧ k ≤ n ∧ i = .int .i64 k ∧ IS B g c n ws.length w ys wr ∧ T = insO ws (n - k) k ys) (fun i _ _ => n - (intOf i).toNat)
  case atStart => exact ⟨1, zs, Nat.le_refl _, hn1, rfl, HI.out, HT.out⟩
  case round =>
    obtain ⟨k, ys, hk1, hk, rfl, his, ht⟩ := hrel
    have HIS : Hid (IS B g c n ws.length w ys wr) := his
    have HT2 : Hid (T = insO ws (n - k) k ys) := ht
    clear his ht HI HT
    obtain ⟨wa, rfl⟩ : ∃ wa, wa = wr := ⟨wr, rfl⟩
    by_cases hlt : k < n
    · have HT3 : Hid (T = insO ws (n - (k + 1)) (k + 1) (insJ ws k ys)) := by
        show _ = _
        rw [HT2.out, show n - k = (n - (k + 1)) + 1 by omega]; rfl
      clear HT2
      have kI : (k : Int) < (n : Int) := by omega
      obtain ⟨R, hR⟩ : ∃ R, R = insJ ws k ys := ⟨_, rfl⟩
      have HR : Hid (R = insJ ws k ys) := hR
      rw [← hR] at HT3
      clear hR
      go_wp2
      go_loopw [9] (fun i wr => ∃ (j : Nat) (xs : List Int), j ≤ k ∧ i = .int .i64 j ∧ IS B g c n ws.length w xs wr ∧ R = insJ ws j xs) (fun i _ => (intOf i).toNat)
      case atStart => exact ⟨k, ys, Nat.le_refl _, rfl, HIS.out, HR.out⟩
      case round =>
        obtain ⟨j, xs, hj, rfl, hix, hr⟩ := hrel
        have HRX : Hid (R = insJ ws j xs) := hr
        clear HR HIS hr
        obtain ⟨wb, rfl⟩ : ∃ wb, wb = wr := ⟨wr, rfl⟩
        have HIX : Hid (IS B g c n ws.length w xs wb) := hix
        cases j with
        | zero =>
          have HE : Hid (R = xs) := HRX.out
          have q3 : decide ((0 : Int) < ((0 : Nat) : Int)) = false := rfl
          clear hix HRX
          go_wp2_with fail
          go_big_quiet (fail)
          go_wp2
          go_roundw
          case rel => exact ⟨k + 1, R, by omega, by omega, by go_num, by rw [HE.out]; exact HIX.out.drewN _, HT3.out⟩
          case measure => simp [intOf]; omega
        | succ j =>
          obtain ⟨x1, f1⟩ := hix.cell (k := j) (by omega)
          obtain ⟨x2, f2⟩ := hix.cell (k := j + 1) (by omega)
          obtain ⟨p1, p2⟩ := hix.pl j (by rw [hix.len]; omega)
          obtain ⟨p3, p4⟩ := hix.pl (j + 1) (by rw [hix.len]; omega)
          obtain ⟨a, ha⟩ : ∃ a : Nat, xs.getD j 0 = (a : Int) := ⟨(xs.getD j 0).toNat, by omega⟩
          obtain ⟨b, hb⟩ : ∃ b : Nat, xs.getD (j + 1) 0 = (b : Int) := ⟨(xs.getD (j + 1) 0).toNat, by omega⟩
          have ha8 : a < ws.length := by omega
          have hb8 : b < ws.length := by omega
          have HUP : Hid (upB ws xs j = decide (cmpI (ws.getD a 0) (ws.getD b 0) < 0)) := by
            show _ = _
            unfold upB
            rw [ha, hb, Int.toNat_natCast, Int.toNat_natCast]
          have HSW : Hid (IS B g c n ws.length w (swL xs j) ((wb.setCell ⟨g, j + 1, none⟩ (.int .i64 a)).setCell ⟨g, j, none⟩ (.int .i64 b))) := by
            have := hix.sw (j := j) (by omega)
            rw [ha, hb] at this
            exact this
          have HC1 : Hid (∀ q, Calls Tryd.prog 32 #[.int .i64 b, .int .i64 a, .pointer (some p)] (wb.drewN q) fun e w' => e = .returned (.int .i64 (cmpI (ws.getD a 0) (ws.getD b 0))) ∧ ∃ d, w' = (wb.drewN q).drewN d) := fun q => HCL.out (wb.drewN q) HIX.out.oth b a hb8 ha8
          rw [ha] at x1
          rw [hb] at x2
          have q3 : decide ((0 : Int) < ((j + 1 : Nat) : Int)) = true := decide_eq_true (by omega)
          have q3' : decide ((0 : Int) < (j : Int) + 1) = true := decide_eq_true (by omega)
          have jI : (j : Int) < (n : Int) := by omega
          have jI0 : (0 : Int) ≤ (j : Int) := by omega
          have jI2 : (j : Int) + 1 < (n : Int) := by omega
          clear hix p1 p2 p3 p4 ha hb
          generalize cmpI (ws.getD a 0) (ws.getD b 0) = z at *
          by_cases hz : z < 0
          · have qz : decide (z < 0) = true := decide_eq_true hz
            have HNX : Hid (R = insJ ws j (swL xs j)) := by
              show _ = _
              rw [HRX.out]
              show (if upB ws xs j = true then _ else _) = _
              rw [HUP.out, if_pos qz]
            clear HRX hz
            go_wp2_with fail
            go_big_quiet ((go_at_call 32; exact Calls.quiet_of (HC1.out _)))
            obtain ⟨W2, hW2⟩ : ∃ W2, W2 = wb.drewN nq := ⟨_, rfl⟩
            rw [← hW2]
            have y1 : W2.cell? ⟨g, j, none⟩ = some (.int .i64 a) := by rw [hW2]; exact x1
            have y2 : W2.cell? ⟨g, j + 1, none⟩ = some (.int .i64 b) := by rw [hW2]; exact x2
            have g1 : W2.frozen? ⟨g, j, none⟩ = false := by rw [hW2]; exact f1
            have g2 : W2.frozen? ⟨g, j + 1, none⟩ = false := by rw [hW2]; exact f2
            have HSX : Hid (IS B g c n ws.length w (swL xs j) ((W2.setCell ⟨g, j + 1, none⟩ (.int .i64 a)).setCell ⟨g, j, none⟩ (.int .i64 b))) := by
              rw [hW2]; exact HSW.out.drewN nq
            clear hW2 x1 x2 f1 f2 HSW HC1 HCL HIX HUP
            go_wp2_with fail
            go_big_region
            all_goals
              go_wp2
              exact ⟨⟨j, _, by omega, by go_num, HSX.out.drewN _, HNX.out⟩, by simp [intOf]⟩
          · have qz : decide (z < 0) = false := decide_eq_false hz
            have HNX : Hid (R = xs) := by
              show _ = _
              rw [HRX.out]
              show (if upB ws xs j = true then _ else _) = _
              rw [HUP.out, if_neg (by rw [qz]; decide)]
            clear HRX hz
            go_wp2_with fail
            go_big_quiet ((go_at_call 32; exact Calls.quiet_of (HC1.out _)))
            go_wp2
            go_roundw
            case rel => exact ⟨k + 1, R, by omega, by omega, by go_num, by rw [HNX.out]; exact HIX.out.drewN _, HT3.out⟩
            case measure => simp [intOf]; omega
    · have hke : k = n := by omega
      subst hke
      have HE : Hid (T = ys) := by
        have := HT2.out
        rw [Nat.sub_self] at this
        exact this
      clear HT2
      go_wp2
      go_end0
      exact ⟨rfl, by rw [HE.out]; exact HIS.out⟩

end Go.Proofs.YtkndimmcndfnnaaDoor

/- matroid.heaviestFirst. -/
namespace Go.Proofs.YtkndimmcndfnnaaDoor
open Go.RowKit
attribute [local go_sem ↓] Go.wp_at_zero Go.wp_at_succ

theorem Sl.keepM {B : Nat} {w wq : World} {u : Value} {l : List Int} (h : Sl B 3 w u (ints l)) (hm : ∀ b, b < w.heap.size → wq.heap[b]? = w.heap[b]?) : Sl B 3 wq u (ints l) := by
  obtain ⟨ao, cap, rfl, h1, h2, h3, h4⟩ := h
  refine ⟨ao, cap, rfl, h1, h2, fun i hi => ?_, h4⟩
  obtain ⟨b, o, ha, hc, ht⟩ := h3 i hi
  have hlt : b < w.heap.size := lt_of_cell (hc.trans (List.getElem?_eq_getElem hi))
  have keep := hm b hlt
  refine ⟨b, o, ha, (World.cell?_of_block (w := w) (a := ⟨b, o + i, none⟩) keep).trans hc, ?_⟩
  rcases ht with ht | ⟨cur, ht⟩
  · exact Or.inl ht
  · exact Or.inr ⟨cur, keep.trans ht⟩

set_option maxRecDepth 100000 in
theorem insS0_any (v f : Value) (w : World) :
    Calls Tryd.prog 43 #[v, .int .i64 0, .int .i64 0, f] w fun e w' => e = .returned (.tuple #[]) ∧ w' = w := by
  go_enter Tryd.func43, Tryd.ntmps43
  go_wp2
  go_loopw [8, 9] (fun i _ wr => i = .int .i64 1 ∧ wr = w) (fun _ _ _ => 0)
  case atStart => exact ⟨rfl, rfl⟩
  case round =>
    obtain ⟨rfl, rfl⟩ := hrel
    go_wp2
    go_end0
    exact ⟨rfl, rfl⟩

set_option maxRecDepth 100000 in
set_option maxHeartbeats 800000 in
theorem stable_any (n : Nat) (v f : Value) (w : World) (Q : World → Prop) (hn : n ≤ 8)
    (hi : Calls Tryd.prog 43 #[v, .int .i64 0, .int .i64 n, f] w fun e w' => e = .returned (.tuple #[]) ∧ Q w') :
    Calls Tryd.prog 38 #[v, .int .i64 n, f] w fun e w' => e = .returned (.tuple #[]) ∧ Q w' := by
  have HI : Hid (Calls Tryd.prog 43 #[v, .int .i64 0, .int .i64 n, f] w fun e w' => e = .returned (.tuple #[]) ∧ Q w') := hi
  have q1 : decide ((20 : Int) ≤ (n : Int)) = false := decide_eq_false (by omega)
  have q2 : decide ((20 : Int) < (n : Int)) = false := decide_eq_false (by omega)
  clear hi
  go_enter Tryd.func38, Tryd.ntmps38
  go_wp2
  go_loopw [7, 8] (fun a b wr => a = .int .i64 0 ∧ b = .int .i64 20 ∧ wr = w) (fun _ _ _ => 0)
  case atStart => exact ⟨rfl, rfl, rfl⟩
  case round =>
    obtain ⟨rfl, rfl, rfl⟩ := hrel
    go_wp2_with fail
    refine HI.out.mono ?_
    rintro e w' ⟨rfl, hq⟩
    have HQ : Hid (Q w') := hq
    clear hq HI
    go_wp2
    go_loopw [6, 7, 8, 9] (fun a _ _ _ wr => a = .int .i64 20 ∧ wr = w') (fun _ _ _ _ _ => 0)
    case atStart => exact ⟨rfl, rfl⟩
    case round =>
      obtain ⟨rfl, rfl⟩ := hrel
      go_wp2
      go_end0
      exact ⟨rfl, HQ.out⟩

set_option maxRecDepth 100000 in
theorem sortS_any (n c : Nat) (ao : Option Addr) (f : Value) (w : World) (Q : World → Prop) (hn : n ≤ 8)
    (hi : Calls Tryd.prog 43 #[.slice ao n c, .int .i64 0, .int .i64 n, f] w fun e w' => e = .returned (.tuple #[]) ∧ Q w') :
    Calls Tryd.prog 31 #[.slice ao n c, f] w fun e w' => e = .returned (.tuple #[]) ∧ Q w' := by
  have HI : Hid (Calls Tryd.prog 38 #[.slice ao n c, .int .i64 n, f] w fun e w' => e = .returned (.tuple #[]) ∧ Q w') := stable_any n _ f w Q hn hi
  clear hi
  go_enter Tryd.func31, Tryd.ntmps31
  go_wp2_with fail
  refine HI.out.mono ?_
  rintro e w' ⟨rfl, hq⟩
  have HQ : Hid (Q w') := hq
  clear hq HI
  go_wp2
  go_end0
  exact ⟨rfl, HQ.out⟩

def rngI (n : Nat) : List Int := (List.range n).map fun i : Nat => (i : Int)

/-- Things by falling weights. -/
def hvL (ws : List Int) : List Int := insO ws (ws.length - 1) 1 (rngI ws.length)

theorem rngI_succ (n : Nat) : rngI (n + 1) = rngI n ++ [(n : Int)] := by simp [rngI, List.range_succ]
theorem rngI_len (n : Nat) : (rngI n).length = n := by simp [rngI]
theorem rngI_pl (n : Nat) : Pl n (rngI n) := fun k hk => by
  rw [rngI_len] at hk
  simp [rngI, hk]

end Go.Proofs.YtkndimmcndfnnaaDoor

/- matroid.heaviestFirst: the walk. -/
namespace Go.Proofs.YtkndimmcndfnnaaDoor
open Go.RowKit
attribute [local go_sem ↓] Go.wp_at_zero Go.wp_at_succ

set_option maxRecDepth 100000 in
set_option maxHeartbeats 800000 in
theorem heaviest_any (ws : List Int) (v : Value) (w : World) (hv : Sl w.heap.size 3 w v (ints ws)) (hn : ws.length ≤ 8) :
    Calls Tryd.prog 17 #[v] w fun e w' => ∃ u, e = .returned u ∧ w'.ownsRow w.heap.size 3 1 u ws.length (ints (hvL ws)) ∧ Below w.heap.size w w' := by
  obtain ⟨i3, hi3, hz30, hz31, hz32⟩ := info_parts Tryd.info3
  obtain ⟨ao, cap, hvv, hlc, hcm⟩ := sl_open hv
  subst hvv
  obtain ⟨W, hW⟩ : ∃ W, W = w.alloc (.cells #[.slice ao ws.length cap] 22) := ⟨_, rfl⟩
  have HBA : Hid (Below w.heap.size w W) := by rw [hW]; exact (Below.refl _ _).alloc (Nat.le_refl _) _
  have hsW : W.heap.size = w.heap.size + 1 := by rw [hW]; simp
  have c1 : W.cell? ⟨w.heap.size, 0, none⟩ = some (.slice ao ws.length cap) := by rw [hW]; simp
  have HV : Hid (Sl w.heap.size 3 W (.slice ao ws.length cap) (ints ws)) := hv.below HBA.out (Nat.le_refl _)
  have HC1 : Hid (W.cell? ⟨w.heap.size, 0, none⟩ = some (.slice ao ws.length cap)) := c1
  have HSW : Hid (W.heap.size = w.heap.size + 1) := hsW
  clear hv hsW
  go_enter Tryd.func17, Tryd.ntmps17
  go_wp2
  rw [← hW]
  clear hW c1
  go_loopw [3, 4, 7] (fun x _ i wr => ∃ k : Nat, k ≤ ws.length ∧ i = .int .i64 k ∧ wr.ownsRow W.heap.size 3 1 x k (ints (rngI k)) ∧ Below W.heap.size W wr) (fun _ _ i _ => ws.length - (intOf i).toNat)
  case atStart => exact ⟨0, Nat.zero_le _, rfl, World.ownsRow_nil _ _ _ _, Below.refl _ _⟩
  case round =>
    obtain ⟨k, hk, rfl, ho, hb⟩ := hrel
    have HO : Hid (wr.ownsRow W.heap.size 3 1 u3 k (ints (rngI k))) := ho
    have HB : Hid (Below W.heap.size W wr) := hb
    clear ho hb
    have hszr : W.heap.size ≤ wr.heap.size := HB.out.size
    by_cases hlt : k < ws.length
    · have HSN : Hid (ints (rngI (k + 1)) = ints (rngI k) ++ [.int .i64 (k : Int)]) := by
        show _ = _
        rw [rngI_succ]; simp [ints]
      have kI : (k : Int) < (ws.length : Int) := by omega
      go_wp2_with (first | (at_builtin; refine wpList_append_own _ rfl _ _ 22 rfl W.heap.size 3 i3 (.int .i64 0) 1 8 Tryd.underlying22 hi3 hz30 hz31 hz32 rfl (by decide) _ _ _ rfl (HO.out.alloc _) ⟨wr.heap.size, 0, none⟩ 1 1 [.int .i64 k] rfl rfl (one_new _ _ _) (one_int _) ?c3 ?c4 ?c5 ?_))
      case c3 => unfold maxLen; omega
      case c4 => omega
      case c5 => first | exact hszr | omega | (simp; omega)
      intro v' w3 ho3 hg3 _
      have R1 : Hid (w3.ownsRow W.heap.size 3 1 v' (k + 1) (ints (rngI (k + 1)))) := by
        show World.ownsRow _ _ _ _ _ _ _
        rw [HSN.out]
        exact ho3
      have R2 : Hid (Below W.heap.size W w3) := (HB.out.alloc hszr _).grown hg3 (by simp; omega) (fun x hx => (HO.out.lt x hx).1)
      clear ho3 hg3
      go_wp2
      go_roundw
      case rel => exact ⟨k + 1, by omega, by go_num, R1.out, R2.out⟩
      case measure => simp [intOf]; omega
    · have hke : k = ws.length := by omega
      have kD : decide ((k : Int) < (ws.length : Int)) = false := decide_eq_false (by omega)
      obtain ⟨xo, xc, hx⟩ := owns_form HO.out
      subst hx
      have HSRT : Hid (Calls Tryd.prog 31 #[.slice xo k xc, .func (.func 32) #[] #[.pointer (some ⟨w.heap.size, 0, none⟩)]] wr fun e w' => e = .returned (.tuple #[]) ∧ (w'.ownsRow w.heap.size 3 1 (.slice xo k xc) ws.length (ints (hvL ws)) ∧ Below w.heap.size w w')) := by
        have hsW := HSW.out
        refine sortS_any k xc xo _ wr _ (by omega) ?_
        have hbw : Below w.heap.size w wr := HBA.out.trans (HB.out.mono HBA.out.size)
        cases k with
        | zero =>
          refine (insS0_any _ _ wr).mono ?_
          rintro e w' ⟨rfl, rfl⟩
          refine ⟨rfl, ?_, hbw⟩
          have e0 : hvL ws = [] := by
            unfold hvL
            rw [← hke]; rfl
          rw [e0, ← hke]
          have h := HO.out
          refine ⟨h.1, ?_⟩
          rcases h.2 with h2 | ⟨g', cap', cur, h1, h2, r⟩
          · exact Or.inl h2
          · exact Or.inr ⟨g', cap', cur, h1, by omega, r⟩
        | succ q =>
          rcases HO.out.2 with ⟨_, h0⟩ | ⟨g, cap', cur, h1, hB, hh, r⟩
          · omega
          · simp only [Value.slice.injEq] at h1
            obtain ⟨rfl, -, rfl⟩ := h1
            have hIS : IS W.heap.size g xc (q + 1) ws.length wr (rngI (q + 1)) wr := ⟨HO.out, rngI_len _, by rw [hke]; exact rngI_pl _, fun _ _ => rfl, rfl, rfl, rfl, rfl⟩
            refine (insS_any W.heap.size g xc (q + 1) ws (rngI (q + 1)) ⟨w.heap.size, 0, none⟩ wr hIS (by omega) (by omega) (fun W' hW' x y hx hy => ?_)).mono ?_
            · have hk2 : ∀ b, b < W.heap.size → W'.heap[b]? = W.heap[b]? := fun b hb => (hW' b (by omega)).trans (HB.out.block b hb)
              exact heavy1_any w.heap.size ws x y (.slice ao ws.length cap) _ W' (HV.out.keepM hk2) hx hy ((World.cell?_of_block (w := W) (a := ⟨w.heap.size, 0, none⟩) (hk2 w.heap.size (by omega))).trans HC1.out)
            · rintro e w' ⟨rfl, hIS'⟩
              refine ⟨rfl, ?_, hbw.trans ⟨hIS'.os, hIS'.tape, hIS'.out, by rw [hIS'.sz]; exact Nat.le_refl _, fun b hb => hIS'.oth b (by omega)⟩⟩
              have h := hIS'.own
              have e0 : insO ws (q + 1 - 1) 1 (rngI (q + 1)) = hvL ws := by unfold hvL; rw [← hke]
              rw [e0] at h
              rw [← hke]
              refine ⟨h.1, ?_⟩
              rcases h.2 with h2 | ⟨g', cap', cur, h1, h2, r⟩
              · exact Or.inl h2
              · exact Or.inr ⟨g', cap', cur, h1, by omega, r⟩
      clear HO HB HV hke
      go_wp2_with fail
      refine HSRT.out.mono ?_
      rintro e w' ⟨rfl, h1, h2⟩
      have H1 : Hid (w'.ownsRow w.heap.size 3 1 (.slice xo k xc) ws.length (ints (hvL ws))) := h1
      have H2 : Hid (Below w.heap.size w w') := h2
      clear h1 h2 HSRT
      go_wp2
      go_ret
      exact ⟨_, rfl, H1.out, H2.out⟩

end Go.Proofs.YtkndimmcndfnnaaDoor
