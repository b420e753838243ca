/- The law LpSays, of cuts and goals that may be. -/
import Derived.Test.YtdmkmljhljoojaaLp8
import Derived.Test.YtdmkmljhljoojaaEm2
import Derived.Test.YtdmkmljhljoojaaHv1
namespace Go.Proofs.Ytdmkmljhljoojaa
open Go.RowKit Lin
attribute [local go_sem ↓] Go.wp_at_zero Go.wp_at_succ

theorem low_b {S U a b : Int} (h : low [S, U] = [a, b]) (hU : 0 < U) : b.natAbs ≤ U.natAbs := by
  have m := low_at [S, U] 1
  rw [h] at m
  have m2 : ((Lin.gc [S, U] : Nat) : Int) * b = U := m
  have hG : Lin.gc [S, U] ≠ 0 := fun e => by rw [e] at m2; simp at m2; omega
  rw [← m2, Int.natAbs_mul, Int.natAbs_natCast]
  exact Nat.le_mul_of_pos_left _ (by omega)

theorem gm_cases (d : Nat) (rows : List (List Int)) (g : List Int) : (gmE d rows g = 0 ∧ empB d rows = false ∧ ∃ y, lwO d rows g (waysL rows g) = some y) ∨ (gmE d rows g ≠ 0 ∧ empB d rows = false) ∨ (gmE d rows g ≠ 0 ∧ empB d rows = true) := by
  unfold gmE
  cases he : empB d rows
  · by_cases hw : waysL rows g = []
    · refine .inr (.inl ⟨?_, rfl⟩)
      simp [hw]
    · refine .inl ⟨by simp [hw], rfl, ?_⟩
      cases hl : lwO d rows g (waysL rows g) with
      | none => exact absurd (lwO_none.1 hl) hw
      | some y => exact ⟨y, rfl⟩
  · exact .inr (.inr ⟨by simp, rfl⟩)

theorem emp_ways (d : Nat) (rows : List (List Int)) : (empB d rows = false → waysL rows (refG d) = []) ∧ (empB d rows = true → waysL rows (refG d) ≠ []) := by
  unfold empB
  cases waysL rows (refG d) <;> simp

theorem FkV.no {d : Nat} {rows : List (List Int)} {w : World} {tv : Value} {e : Int} (h : FkV d rows w tv e) (he : empB d rows = false) : tv = nilW ∧ e = 3 := by
  rcases h with ⟨_, h⟩ | ⟨c, l, co, cc, po, pc, h, _⟩
  · exact h
  · rw [(emp_ways d rows).1 he] at h; cases h

set_option maxRecDepth 100000 in
set_option maxHeartbeats 4000000 in
theorem lpSays_ok (d : Nat) (rows : List (List Int)) (g : List Int) (v gv : Value) (w : World) {B0 B1 : Nat} (hv0 : Mat B0 25 3 w v rows) (hg0 : Sl B1 3 w gv (ints g)) (hc : CutF d rows) (hgl : g.length = d) (hgb : ∀ z ∈ g, z.natAbs ≤ 20) :
    Calls Try.prog 3 #[.agg #[.int .i64 d, v], gv] w fun e w' => e = .returned (.bool true) ∧ Below w.heap.size w w' := by
  have hv : Mat w.heap.size 25 3 w v rows := hv0.any (Nat.le_refl _)
  have hg : Sl w.heap.size 3 w gv (ints g) := hg0.any (Nat.le_refl _)
  clear hv0 hg0
  obtain ⟨ro, rc, hvv, hlc, hcm⟩ := mat_open hv
  obtain ⟨go, gc, hgg, _, _⟩ := sl_open hg
  rw [hgl] at hgg
  subst hvv hgg
  obtain ⟨W, hW, hbW, hsW, hcW⟩ := cut_box w d (.slice ro rows.length rc)
  have HWW : Hid (W = w.alloc (.cells #[.int .i64 d, .slice ro rows.length rc] 24)) := hW
  have HSW : Hid (W.heap.size = w.heap.size + 1) := hsW
  have HBW : Hid (∀ X, Below W.heap.size W X → Below w.heap.size w X) := fun X hX => hbW.trans (hX.mono hbW.size)
  have HCC : Hid (∀ X, Below W.heap.size W X → X.cell? ⟨w.heap.size, 0, none⟩ = some (.int .i64 d) ∧ X.cell? ⟨w.heap.size, 1, none⟩ = some (.slice ro rows.length rc)) := hcW
  have HVW : Hid (∀ X, Below W.heap.size W X → Mat w.heap.size 25 3 X (.slice ro rows.length rc) rows) := fun X hX => hv.below (HBW.out X hX) (Nat.le_refl _)
  have HGW : Hid (∀ X, Below W.heap.size W X → Sl w.heap.size 3 X (.slice go d gc) (ints g)) := fun X hX => hg.below (HBW.out X hX) (Nat.le_refl _)
  have HC : Hid (CutF d rows) := hc
  have HGL : Hid (g.length = d) := hgl
  have HGB : Hid (∀ z ∈ g, z.natAbs ≤ 20) := hgb
  have HHV : Hid (Calls Try.prog 4 #[.slice ro rows.length rc] W fun e w' => ∃ b, e = .returned (.bool b) ∧ w' = W) := by
    refine (heavy_any _ rows _ W (hv.below hbW (Nat.le_refl _))).mono ?_
    rintro e w' ⟨b, rfl, _, rfl⟩
    exact ⟨b, rfl, rfl⟩
  have HGM : Hid (Calls Try.prog 5 #[.agg #[.int .i64 d, .slice ro rows.length rc], .slice go d gc] W fun e w' => e = .returned (.int .i64 (gmE d rows g)) ∧ Below W.heap.size W w') := goalMay_any d rows g _ _ W (HVW.out W (Below.refl _ _)) (HGW.out W (Below.refl _ _)) hc hgl hgb
  have HBE : Hid (∀ X, Below W.heap.size W X → Calls Try.prog 7 #[.agg #[.int .i64 d, .slice ro rows.length rc], .slice go d gc] X fun e w' => ∃ a b, e = .returned (.tuple #[.int .i64 a, .int .i64 b, .int .i64 (gmE d rows g)]) ∧ BestV d rows g a b ∧ Below X.heap.size X w') := fun X hX => best_any d rows g _ _ X (HVW.out X hX) (HGW.out X hX) hc hgl hgb
  have HSH : Hid (∀ X, Below W.heap.size W X → Calls Try.prog 8 #[.agg #[.int .i64 d, .slice ro rows.length rc], .slice go d gc] X fun e w' => ∃ tv, e = .returned (.tuple #[tv, .int .i64 (gmE d rows g)]) ∧ LwV d rows g w' tv ∧ Below X.heap.size X w') := fun X hX => shows_any d rows g _ _ X (HVW.out X hX) (HGW.out X hX) hc hgl hgb
  have HCM : Hid (∀ X, Below W.heap.size W X → Calls Try.prog 10 #[.agg #[.int .i64 d, .slice ro rows.length rc]] X fun e w' => e = .returned (.int .i64 0) ∧ Below X.heap.size X w') := fun X hX => cutMay_ok d rows _ X (HVW.out X hX) hc
  have HEM : Hid (∀ X, Below W.heap.size W X → Calls Try.prog 11 #[.slice ro rows.length rc, .int .i64 d] X fun e w' => e = .returned (.bool (empB d rows)) ∧ Below X.heap.size X w') := fun X hX => by
    have h := empty_any d rows _ X (HVW.out X hX) hc.d1 hc.d4 (by have := hc.n12; omega) hc.rw
    rw [doc_emp hc.len] at h
    exact h
  have HFA : Hid (∀ X, Below W.heap.size W X → Calls Try.prog 12 #[.agg #[.int .i64 d, .slice ro rows.length rc]] X fun e w' => ∃ tv E, e = .returned (.tuple #[tv, .int .i64 E]) ∧ FkV d rows w' tv E ∧ Below X.heap.size X w') := fun X hX => farkasL_any d rows _ X (HVW.out X hX) hc
  have hd3 : (d : Int) ≤ 4 := by have := hc.d4; omega
  have hd300 : decide ((300 : Int) < (d : Int)) = false := decide_eq_false (by omega)
  obtain ⟨c0, c1⟩ := hcW W (Below.refl _ _)
  clear hv hg hc hgl hgb hW hbW hsW hcW
  go_enter Try.func3, Try.ntmps3
  go_upto_region 1 with fail
  rw [← HWW.out]
  go_wp2_with fail
  refine HHV.out.mono ?_
  rintro e w' ⟨b, rfl, hww⟩
  rw [hww]
  clear hww w'
  cases b
  case true =>
    go_wp2
    go_ret
    exact ⟨rfl, HBW.out _ (Below.refl _ _)⟩
  case false =>
    go_wp2_with fail
    refine HGM.out.mono ?_
    rintro e w1 ⟨rfl, hb1⟩
    have HB1 : Hid (Below W.heap.size W w1) := hb1
    clear hb1 c0 c1 HGM HHV
    obtain ⟨c0, c1⟩ := HCC.out w1 HB1.out
    rcases gm_cases d rows g with ⟨hE, he, y, hy⟩ | ⟨hE, he⟩ | ⟨hE, he⟩
    · rw [hE]
      obtain ⟨a, b, hab⟩ := low_two (sdL rows d y (mW rows g y)) (uW rows g y)
      have hym := lwO_mem hy
      have hbs := best_same HGL.out HC.out.len he hy
      rw [hab] at hbs
      have HGR : Hid (Calls Try.prog 6 #[.agg #[.int .i64 d, .slice ro rows.length rc], .slice go d gc] w1 fun e w' => e = .returned (.tuple #[.int .i64 a, .int .i64 b]) ∧ Below w1.heap.size w1 w') := greatest_any d rows g _ _ w1 (HVW.out w1 HB1.out) (HGW.out w1 HB1.out) HGL.out HGB.out HC.out.d1 HC.out.d4 HC.out.n12 HC.out.rw a b hbs
      have HBE2 : Hid (∀ X, Below W.heap.size W X → Calls Try.prog 7 #[.agg #[.int .i64 d, .slice ro rows.length rc], .slice go d gc] X fun e w' => e = .returned (.tuple #[.int .i64 a, .int .i64 b, .int .i64 0]) ∧ Below X.heap.size X w') := fun X hX => by
        refine (HBE.out X hX).mono ?_
        rintro e w' ⟨a', b', rfl, hv, hb⟩
        rw [hE]
        rcases hv with ⟨hn, _⟩ | ⟨y', _, hy', hl'⟩
        · exact absurd hE hn
        · rw [hy] at hy'
          simp only [Option.some.injEq] at hy'
          subst hy'
          rw [hab] at hl'
          simp only [List.cons.injEq, and_true] at hl'
          rw [hl'.1, hl'.2]
          exact ⟨rfl, hb⟩
      have HSH2 : Hid (∀ X, Below W.heap.size W X → Calls Try.prog 8 #[.agg #[.int .i64 d, .slice ro rows.length rc], .slice go d gc] X fun e w' => ∃ co cc po pc, e = .returned (.tuple #[.agg #[.slice co y.length cc, .slice po y.length pc, .int .i64 (uW rows g y)], .int .i64 0]) ∧ Sl 0 3 w' (.slice co y.length cc) (ints y) ∧ Sl 0 3 w' (.slice po y.length pc) (ints (mW rows g y)) ∧ Below X.heap.size X w') := fun X hX => by
        refine (HSH.out X hX).mono ?_
        rintro e w' ⟨tv, rfl, hv, hb⟩
        rw [hE]
        rcases hv with ⟨hn, _⟩ | ⟨y', co, cc, po, pc, _, hy', rfl, h1, h2⟩
        · exact absurd hE hn
        · rw [hy] at hy'
          simp only [Option.some.injEq] at hy'
          subst hy'
          exact ⟨co, cc, po, pc, rfl, h1, h2, hb⟩
      have HSN : Hid (∀ X, Below W.heap.size W X → ∀ co cc po pc, Sl 0 3 X (.slice co y.length cc) (ints y) → Sl 0 3 X (.slice po y.length pc) (ints (mW rows g y)) → Calls Try.prog 9 #[.agg #[.int .i64 d, .slice ro rows.length rc], .slice go d gc, .agg #[.slice co y.length cc, .slice po y.length pc, .int .i64 (uW rows g y)], .int .i64 a, .int .i64 b] X fun e w' => e = .returned (.bool true) ∧ Below X.heap.size X w') := fun X hX co cc po pc h1 h2 => by
        have hok := way_ok HC.out HGL.out HGB.out hym
        have hub := hok.ub
        have hup := uW_pos hym
        have hsb := sdL_bd hok HC.out.rw
        obtain ⟨x1, x2, _⟩ := low_cross hab
        have x3 := low_b hab hup
        exact shown_ok d rows y (mW rows g y) _ co po cc pc y.length g _ (uW rows g y) a b X (HVW.out X hX) h1 h2 HC.out.rw HC.out.d1 HC.out.d4 (wyg_least HC.out HGL.out HGB.out hym) rfl (HGW.out X hX) HGL.out HGB.out (by omega) (by omega) (by omega) (by omega) (fun i hi => sm_goal HGL.out hym hi) (by rw [sm_last]; exact x1)
      have HE : Hid (empB d rows = false) := he
      clear hE he hy hab hym hbs HBE HSH
      generalize uW rows g y = uy at *
      go_wp2_with fail
      refine HGR.out.mono ?_
      rintro e w2 ⟨rfl, hb2⟩
      have HB2 : Hid (Below W.heap.size W w2) := HB1.out.trans (hb2.mono HB1.out.size)
      clear hb2 c0 c1 HGR
      obtain ⟨c0, c1⟩ := HCC.out w2 HB2.out
      go_wp2_with fail
      refine (HBE2.out w2 HB2.out).mono ?_
      rintro e w3 ⟨rfl, hb3⟩
      have HB3 : Hid (Below W.heap.size W w3) := HB2.out.trans (hb3.mono HB2.out.size)
      clear hb3 c0 c1 HBE2
      obtain ⟨c0, c1⟩ := HCC.out w3 HB3.out
      go_wp2_with fail
      refine (HSH2.out w3 HB3.out).mono ?_
      rintro e w4 ⟨co, cc, po, pc, rfl, hs1, hs2, hb4⟩
      have HB4 : Hid (Below W.heap.size W w4) := HB3.out.trans (hb4.mono HB3.out.size)
      clear hb4 c0 c1 HSH2
      obtain ⟨w5, hw5⟩ : ∃ w5, w5 = w4.alloc (.cells #[.slice co y.length cc, .slice po y.length pc, .int .i64 uy] 34) := ⟨_, rfl⟩
      have hb45 : Below w4.heap.size w4 w5 := by rw [hw5]; exact alloc_keep _ _
      have hk5 : w5.heap[w4.heap.size]? = some (.cells #[.slice co y.length cc, .slice po y.length pc, .int .i64 uy] 34 (0, 0)) := by rw [hw5]; exact alloc_new _ _
      have HB5 : Hid (Below W.heap.size W w5) := HB4.out.trans (hb45.mono HB4.out.size)
      have HSN5 : Hid (Calls Try.prog 9 #[.agg #[.int .i64 d, .slice ro rows.length rc], .slice go d gc, .agg #[.slice co y.length cc, .slice po y.length pc, .int .i64 uy], .int .i64 a, .int .i64 b] w5 fun e w' => e = .returned (.bool true) ∧ Below w5.heap.size w5 w') := HSN.out w5 HB5.out co cc po pc (hs1.below hb45 (Nat.le_refl _)) (hs2.below hb45 (Nat.le_refl _))
      have HW5 : Hid (w5 = w4.alloc (.cells #[.slice co y.length cc, .slice po y.length pc, .int .i64 uy] 34)) := hw5
      have HWB : Hid (∀ X, Below w5.heap.size w5 X → Wb w4.heap.size X) := fun X hX => ⟨_, _, _, (hX.block _ (Array.getElem?_eq_some_iff.1 hk5).1).trans hk5⟩
      have HTB : Hid (w.heap.size + 1 ≤ w4.heap.size) := by show _ ≤ _; rw [← HSW.out]; exact HB4.out.size
      have s0 : w5.cell? ⟨w4.heap.size, 0, none⟩ = some (.slice co y.length cc) := by simp [World.cell?, hk5]
      have s1 : w5.cell? ⟨w4.heap.size, 1, none⟩ = some (.slice po y.length pc) := by simp [World.cell?, hk5]
      have s2 : w5.cell? ⟨w4.heap.size, 2, none⟩ = some (.int .i64 uy) := by simp [World.cell?, hk5]
      obtain ⟨c0, c1⟩ := HCC.out w5 HB5.out
      obtain ⟨tb, htb⟩ : ∃ tb, tb = w4.heap.size := ⟨_, rfl⟩
      clear hs1 hs2 hw5 hb45 hk5 HSN
      go_upto_region 10 with fail
      rw [← HW5.out]
      rw [← htb] at HWB HTB s0 s1 s2 ⊢
      clear htb HW5
      go_wp2_with fail
      refine HSN5.out.mono ?_
      rintro e w6 ⟨rfl, hb6⟩
      have HB6 : Hid (Below W.heap.size W w6) := HB5.out.trans (hb6.mono HB5.out.size)
      have HWB6 : Hid (∀ X, Below w6.heap.size w6 X → Wb tb X) := fun X hX => HWB.out X (hb6.trans (hX.mono hb6.size))
      clear hb6 s0 s1 s2 c0 c1 HSN5
      obtain ⟨c0, c1⟩ := HCC.out w6 HB6.out
      go_wp2_with fail
      refine (HCM.out w6 HB6.out).mono ?_
      rintro e w7 ⟨rfl, hb7⟩
      have HB67 : Hid (Below w6.heap.size w6 w7) := hb7
      have HB7 : Hid (Below W.heap.size W w7) := HB6.out.trans (hb7.mono HB6.out.size)
      clear hb7 c0 c1
      obtain ⟨c0, c1⟩ := HCC.out w7 HB7.out
      have HEM7 : Hid (Calls Try.prog 11 #[.slice ro rows.length rc, .int .i64 d] w7 fun e w' => e = .returned (.bool false) ∧ Below w7.heap.size w7 w') := by
        have h := HEM.out w7 HB7.out
        rw [HE.out] at h
        exact h
      go_wp2_with fail
      refine HEM7.out.mono ?_
      rintro e w8 ⟨rfl, hb8⟩
      have HB68 : Hid (Below w6.heap.size w6 w8) := HB67.out.trans (hb8.mono HB67.out.size)
      have HB8 : Hid (Below W.heap.size W w8) := HB7.out.trans (hb8.mono HB7.out.size)
      clear hb8 c0 c1 HEM7
      obtain ⟨c0, c1⟩ := HCC.out w8 HB8.out
      go_wp2_with fail
      refine (HFA.out w8 HB8.out).mono ?_
      rintro e w9 ⟨tv, E9, rfl, hfv, hb9⟩
      have HB69 : Hid (Below w6.heap.size w6 w9) := HB68.out.trans (hb9.mono HB68.out.size)
      have HB9 : Hid (Below W.heap.size W w9) := HB8.out.trans (hb9.mono HB8.out.size)
      have HW9 : Hid (Wb tb w9) := HWB6.out w9 HB69.out
      obtain ⟨f0, f1, f2⟩ := HW9.out.frozen
      obtain ⟨x0, x1, x2, r0, r1, r2⟩ := HW9.out.cells
      clear hb9 c0 c1
      obtain ⟨rfl, rfl⟩ := hfv.no HE.out
      obtain ⟨Ws, hWs, g1, g2, g3, g4, g5, g6⟩ := three_sets (.slice none 0 0) (.slice none 0 0) (.int .i64 0) HW9.out
      have HWs : Hid (Ws = ((w9.setCell ⟨tb, 0, none⟩ (.slice none 0 0)).setCell ⟨tb, 1, none⟩ (.slice none 0 0)).setCell ⟨tb, 2, none⟩ (.int .i64 0)) := hWs
      have HBZ : Hid (Below w.heap.size w Ws) := by
        have hb := HBW.out w9 HB9.out
        have ht := HTB.out
        exact ⟨g4.trans hb.os, g5.trans hb.tape, g6.trans hb.output, by rw [g3]; exact hb.size, fun k hk => (g2 k (by omega)).trans (hb.block k hk)⟩
      have s0 : Ws.cell? ⟨tb, 0, none⟩ = some (.slice none 0 0) := by simp [World.cell?, g1]
      have s1 : Ws.cell? ⟨tb, 1, none⟩ = some (.slice none 0 0) := by simp [World.cell?, g1]
      have s2 : Ws.cell? ⟨tb, 2, none⟩ = some (.int .i64 0) := by simp [World.cell?, g1]
      clear hWs g1 g2 g3 g4 g5 g6 hfv
      unfold nilW
      go_upto_region 21 with fail
      rw [← HWs.out]
      go_wp2
      go_ret
      exact ⟨rfl, HBZ.out⟩
    · have HNE : Hid (gmE d rows g ≠ 0) := hE
      have hEb : (gmE d rows g == 0) = false := by simpa using hE
      have hEb2 : (gmE d rows g != 0) = true := by simpa using hE
      have HBE2 : Hid (∀ X, Below W.heap.size W X → Calls Try.prog 7 #[.agg #[.int .i64 d, .slice ro rows.length rc], .slice go d gc] X fun e w' => e = .returned (.tuple #[.int .i64 0, .int .i64 0, .int .i64 (gmE d rows g)]) ∧ Below X.heap.size X w') := fun X hX => by
        refine (HBE.out X hX).mono ?_
        rintro e w' ⟨a', b', rfl, hv, hb⟩
        rcases hv with ⟨_, rfl, rfl⟩ | ⟨y', hn, _⟩
        · exact ⟨rfl, hb⟩
        · exact absurd hn HNE.out
      have HSH2 : Hid (∀ X, Below W.heap.size W X → Calls Try.prog 8 #[.agg #[.int .i64 d, .slice ro rows.length rc], .slice go d gc] X fun e w' => e = .returned (.tuple #[.agg #[.slice none 0 0, .slice none 0 0, .int .i64 0], .int .i64 (gmE d rows g)]) ∧ Below X.heap.size X w') := fun X hX => by
        refine (HSH.out X hX).mono ?_
        rintro e w' ⟨tv, rfl, hv, hb⟩
        rcases hv with ⟨_, rfl⟩ | ⟨y', co, cc, po, pc, hn, _⟩
        · exact ⟨rfl, hb⟩
        · exact absurd hn HNE.out
      have HE : Hid (empB d rows = false) := he
      clear hE he HBE HSH
      generalize gmE d rows g = E at *
      go_wp2_with fail
      refine (HBE2.out w1 HB1.out).mono ?_
      rintro e w3 ⟨rfl, hb3⟩
      have HB3 : Hid (Below W.heap.size W w3) := HB1.out.trans (hb3.mono HB1.out.size)
      clear hb3 c0 c1 HBE2
      obtain ⟨c0, c1⟩ := HCC.out w3 HB3.out
      go_wp2_with fail
      refine (HSH2.out w3 HB3.out).mono ?_
      rintro e w4 ⟨rfl, hb4⟩
      have HB4 : Hid (Below W.heap.size W w4) := HB3.out.trans (hb4.mono HB3.out.size)
      clear hb4 c0 c1 HSH2
      obtain ⟨w6, hw5⟩ : ∃ w6, w6 = w4.alloc (.cells #[.slice none 0 0, .slice none 0 0, .int .i64 0] 34) := ⟨_, rfl⟩
      have hb45 : Below w4.heap.size w4 w6 := by rw [hw5]; exact alloc_keep _ _
      have hk5 : w6.heap[w4.heap.size]? = some (.cells #[.slice none 0 0, .slice none 0 0, .int .i64 0] 34 (0, 0)) := by rw [hw5]; exact alloc_new _ _
      have HB6 : Hid (Below W.heap.size W w6) := HB4.out.trans (hb45.mono HB4.out.size)
      have HW5 : Hid (w6 = w4.alloc (.cells #[.slice none 0 0, .slice none 0 0, .int .i64 0] 34)) := hw5
      have HWB6 : Hid (∀ X, Below w6.heap.size w6 X → Wb w4.heap.size X) := fun X hX => ⟨_, _, _, (hX.block _ (Array.getElem?_eq_some_iff.1 hk5).1).trans hk5⟩
      have HTB : Hid (w.heap.size + 1 ≤ w4.heap.size) := by show _ ≤ _; rw [← HSW.out]; exact HB4.out.size
      have s0 : w6.cell? ⟨w4.heap.size, 0, none⟩ = some (.slice none 0 0) := by simp [World.cell?, hk5]
      have s1 : w6.cell? ⟨w4.heap.size, 1, none⟩ = some (.slice none 0 0) := by simp [World.cell?, hk5]
      have s2 : w6.cell? ⟨w4.heap.size, 2, none⟩ = some (.int .i64 0) := by simp [World.cell?, hk5]
      obtain ⟨tb, htb⟩ : ∃ tb, tb = w4.heap.size := ⟨_, rfl⟩
      clear hw5 hb45 hk5
      go_upto_region 10 with fail
      rw [← HW5.out]
      rw [← htb] at HWB6 HTB s0 s1 s2 ⊢
      clear htb HW5
      go_upto_region 17 with fail
      clear s0 s1 s2
      obtain ⟨c0, c1⟩ := HCC.out w6 HB6.out
      go_wp2_with fail
      refine (HCM.out w6 HB6.out).mono ?_
      rintro e w7 ⟨rfl, hb7⟩
      have HB67 : Hid (Below w6.heap.size w6 w7) := hb7
      have HB7 : Hid (Below W.heap.size W w7) := HB6.out.trans (hb7.mono HB6.out.size)
      clear hb7 c0 c1
      obtain ⟨c0, c1⟩ := HCC.out w7 HB7.out
      have HEM7 : Hid (Calls Try.prog 11 #[.slice ro rows.length rc, .int .i64 d] w7 fun e w' => e = .returned (.bool false) ∧ Below w7.heap.size w7 w') := by
        have h := HEM.out w7 HB7.out
        rw [HE.out] at h
        exact h
      go_wp2_with fail
      refine HEM7.out.mono ?_
      rintro e w8 ⟨rfl, hb8⟩
      have HB68 : Hid (Below w6.heap.size w6 w8) := HB67.out.trans (hb8.mono HB67.out.size)
      have HB8 : Hid (Below W.heap.size W w8) := HB7.out.trans (hb8.mono HB7.out.size)
      clear hb8 c0 c1 HEM7
      obtain ⟨c0, c1⟩ := HCC.out w8 HB8.out
      go_wp2_with fail
      refine (HFA.out w8 HB8.out).mono ?_
      rintro e w9 ⟨tv, E9, rfl, hfv, hb9⟩
      have HB69 : Hid (Below w6.heap.size w6 w9) := HB68.out.trans (hb9.mono HB68.out.size)
      have HB9 : Hid (Below W.heap.size W w9) := HB8.out.trans (hb9.mono HB8.out.size)
      have HW9 : Hid (Wb tb w9) := HWB6.out w9 HB69.out
      obtain ⟨f0, f1, f2⟩ := HW9.out.frozen
      obtain ⟨x0, x1, x2, r0, r1, r2⟩ := HW9.out.cells
      clear hb9 c0 c1
      obtain ⟨rfl, rfl⟩ := hfv.no HE.out
      obtain ⟨Ws, hWs, g1, g2, g3, g4, g5, g6⟩ := three_sets (.slice none 0 0) (.slice none 0 0) (.int .i64 0) HW9.out
      have HWs : Hid (Ws = ((w9.setCell ⟨tb, 0, none⟩ (.slice none 0 0)).setCell ⟨tb, 1, none⟩ (.slice none 0 0)).setCell ⟨tb, 2, none⟩ (.int .i64 0)) := hWs
      have HBZ : Hid (Below w.heap.size w Ws) := by
        have hb := HBW.out w9 HB9.out
        have ht := HTB.out
        exact ⟨g4.trans hb.os, g5.trans hb.tape, g6.trans hb.output, by rw [g3]; exact hb.size, fun k hk => (g2 k (by omega)).trans (hb.block k hk)⟩
      have s0 : Ws.cell? ⟨tb, 0, none⟩ = some (.slice none 0 0) := by simp [World.cell?, g1]
      have s1 : Ws.cell? ⟨tb, 1, none⟩ = some (.slice none 0 0) := by simp [World.cell?, g1]
      have s2 : Ws.cell? ⟨tb, 2, none⟩ = some (.int .i64 0) := by simp [World.cell?, g1]
      clear hWs g1 g2 g3 g4 g5 g6 hfv
      unfold nilW
      go_upto_region 21 with fail
      rw [← HWs.out]
      go_wp2
      go_ret
      exact ⟨rfl, HBZ.out⟩
    · have HNE : Hid (gmE d rows g ≠ 0) := hE
      have hEb : (gmE d rows g == 0) = false := by simpa using hE
      have hEb2 : (gmE d rows g != 0) = true := by simpa using hE
      have HBE2 : Hid (∀ X, Below W.heap.size W X → Calls Try.prog 7 #[.agg #[.int .i64 d, .slice ro rows.length rc], .slice go d gc] X fun e w' => e = .returned (.tuple #[.int .i64 0, .int .i64 0, .int .i64 (gmE d rows g)]) ∧ Below X.heap.size X w') := fun X hX => by
        refine (HBE.out X hX).mono ?_
        rintro e w' ⟨a', b', rfl, hv, hb⟩
        rcases hv with ⟨_, rfl, rfl⟩ | ⟨y', hn, _⟩
        · exact ⟨rfl, hb⟩
        · exact absurd hn HNE.out
      have HSH2 : Hid (∀ X, Below W.heap.size W X → Calls Try.prog 8 #[.agg #[.int .i64 d, .slice ro rows.length rc], .slice go d gc] X fun e w' => e = .returned (.tuple #[.agg #[.slice none 0 0, .slice none 0 0, .int .i64 0], .int .i64 (gmE d rows g)]) ∧ Below X.heap.size X w') := fun X hX => by
        refine (HSH.out X hX).mono ?_
        rintro e w' ⟨tv, rfl, hv, hb⟩
        rcases hv with ⟨_, rfl⟩ | ⟨y', co, cc, po, pc, hn, _⟩
        · exact ⟨rfl, hb⟩
        · exact absurd hn HNE.out
      have HE : Hid (empB d rows = true) := he
      clear hE he HBE HSH
      generalize gmE d rows g = E at *
      go_wp2_with fail
      refine (HBE2.out w1 HB1.out).mono ?_
      rintro e w3 ⟨rfl, hb3⟩
      have HB3 : Hid (Below W.heap.size W w3) := HB1.out.trans (hb3.mono HB1.out.size)
      clear hb3 c0 c1 HBE2
      obtain ⟨c0, c1⟩ := HCC.out w3 HB3.out
      go_wp2_with fail
      refine (HSH2.out w3 HB3.out).mono ?_
      rintro e w4 ⟨rfl, hb4⟩
      have HB4 : Hid (Below W.heap.size W w4) := HB3.out.trans (hb4.mono HB3.out.size)
      clear hb4 c0 c1 HSH2
      obtain ⟨w6, hw5⟩ : ∃ w6, w6 = w4.alloc (.cells #[.slice none 0 0, .slice none 0 0, .int .i64 0] 34) := ⟨_, rfl⟩
      have hb45 : Below w4.heap.size w4 w6 := by rw [hw5]; exact alloc_keep _ _
      have hk5 : w6.heap[w4.heap.size]? = some (.cells #[.slice none 0 0, .slice none 0 0, .int .i64 0] 34 (0, 0)) := by rw [hw5]; exact alloc_new _ _
      have HB6 : Hid (Below W.heap.size W w6) := HB4.out.trans (hb45.mono HB4.out.size)
      have HW5 : Hid (w6 = w4.alloc (.cells #[.slice none 0 0, .slice none 0 0, .int .i64 0] 34)) := hw5
      have HWB6 : Hid (∀ X, Below w6.heap.size w6 X → Wb w4.heap.size X) := fun X hX => ⟨_, _, _, (hX.block _ (Array.getElem?_eq_some_iff.1 hk5).1).trans hk5⟩
      have HTB : Hid (w.heap.size + 1 ≤ w4.heap.size) := by show _ ≤ _; rw [← HSW.out]; exact HB4.out.size
      have s0 : w6.cell? ⟨w4.heap.size, 0, none⟩ = some (.slice none 0 0) := by simp [World.cell?, hk5]
      have s1 : w6.cell? ⟨w4.heap.size, 1, none⟩ = some (.slice none 0 0) := by simp [World.cell?, hk5]
      have s2 : w6.cell? ⟨w4.heap.size, 2, none⟩ = some (.int .i64 0) := by simp [World.cell?, hk5]
      obtain ⟨tb, htb⟩ : ∃ tb, tb = w4.heap.size := ⟨_, rfl⟩
      clear hw5 hb45 hk5
      go_upto_region 10 with fail
      rw [← HW5.out]
      rw [← htb] at HWB6 HTB s0 s1 s2 ⊢
      clear htb HW5
      go_upto_region 17 with fail
      clear s0 s1 s2
      obtain ⟨c0, c1⟩ := HCC.out w6 HB6.out
      go_wp2_with fail
      refine (HCM.out w6 HB6.out).mono ?_
      rintro e w7 ⟨rfl, hb7⟩
      have HB67 : Hid (Below w6.heap.size w6 w7) := hb7
      have HB7 : Hid (Below W.heap.size W w7) := HB6.out.trans (hb7.mono HB6.out.size)
      clear hb7 c0 c1
      obtain ⟨c0, c1⟩ := HCC.out w7 HB7.out
      have HEM7 : Hid (Calls Try.prog 11 #[.slice ro rows.length rc, .int .i64 d] w7 fun e w' => e = .returned (.bool true) ∧ Below w7.heap.size w7 w') := by
        have h := HEM.out w7 HB7.out
        rw [HE.out] at h
        exact h
      go_wp2_with fail
      refine HEM7.out.mono ?_
      rintro e w8 ⟨rfl, hb8⟩
      have HB68 : Hid (Below w6.heap.size w6 w8) := HB67.out.trans (hb8.mono HB67.out.size)
      have HB8 : Hid (Below W.heap.size W w8) := HB7.out.trans (hb8.mono HB7.out.size)
      clear hb8 c0 c1 HEM7
      obtain ⟨c0, c1⟩ := HCC.out w8 HB8.out
      go_wp2_with fail
      refine (HFA.out w8 HB8.out).mono ?_
      rintro e w9 ⟨tv, E9, rfl, hfv, hb9⟩
      have HB69 : Hid (Below w6.heap.size w6 w9) := HB68.out.trans (hb9.mono HB68.out.size)
      have HB9 : Hid (Below W.heap.size W w9) := HB8.out.trans (hb9.mono HB8.out.size)
      have HW9 : Hid (Wb tb w9) := HWB6.out w9 HB69.out
      obtain ⟨f0, f1, f2⟩ := HW9.out.frozen
      obtain ⟨x0, x1, x2, r0, r1, r2⟩ := HW9.out.cells
      clear hb9 c0 c1
      rcases hfv with ⟨hn, _⟩ | ⟨c, l, co, cc, po, pc, hw, rfl, rfl, hs1, hs2⟩
      · exact absurd hn ((emp_ways d rows).2 HE.out)
      have hcm2 : c ∈ waysL rows (refG d) := by rw [hw]; simp
      obtain ⟨Ws, hWs, g1, g2, g3, g4, g5, g6⟩ := three_sets (.slice co c.length cc) (.slice po c.length pc) (.int .i64 1) HW9.out
      have HWs : Hid (Ws = ((w9.setCell ⟨tb, 0, none⟩ (.slice co c.length cc)).setCell ⟨tb, 1, none⟩ (.slice po c.length pc)).setCell ⟨tb, 2, none⟩ (.int .i64 1)) := hWs
      have hBZ : Below w.heap.size w Ws := by
        have hb := HBW.out w9 HB9.out
        have ht := HTB.out
        exact ⟨g4.trans hb.os, g5.trans hb.tape, g6.trans hb.output, by rw [g3]; exact hb.size, fun k hk => (g2 k (by omega)).trans (hb.block k hk)⟩
      have HBZ : Hid (Below w.heap.size w Ws) := hBZ
      have s0 : Ws.cell? ⟨tb, 0, none⟩ = some (.slice co c.length cc) := by simp [World.cell?, g1]
      have s1 : Ws.cell? ⟨tb, 1, none⟩ = some (.slice po c.length pc) := by simp [World.cell?, g1]
      have s2 : Ws.cell? ⟨tb, 2, none⟩ = some (.int .i64 1) := by simp [World.cell?, g1]
      have hkk : ∀ b, b < w9.heap.size → b ≠ tb → Ws.heap[b]? = w9.heap[b]? := fun b _ hne => g2 b hne
      obtain ⟨d0, d1⟩ := HCC.out w9 HB9.out
      have hcell : Ws.heap[w.heap.size]? = w9.heap[w.heap.size]? := g2 _ (by have := HTB.out; omega)
      have c0 : Ws.cell? ⟨w.heap.size, 0, none⟩ = some (.int .i64 d) := (World.cell?_of_block (w := w9) (a := ⟨w.heap.size, 0, none⟩) hcell).trans d0
      have c1 : Ws.cell? ⟨w.heap.size, 1, none⟩ = some (.slice ro rows.length rc) := (World.cell?_of_block (w := w9) (a := ⟨w.heap.size, 1, none⟩) hcell).trans d1
      have HRT : Hid (Calls Try.prog 13 #[.agg #[.int .i64 d, .slice ro rows.length rc], .agg #[.slice co c.length cc, .slice po c.length pc, .int .i64 1]] Ws fun e w' => e = .returned (.bool true) ∧ Below Ws.heap.size Ws w') := by
        obtain ⟨x1, x2, x3⟩ := ref_ok HC.out hcm2
        exact refuted_ok d rows c (low ((wayN (refG d) (pks rows [] c)).take c.length)) _ co po cc pc c.length Ws (mat_keepLB (by have := HTB.out; omega) (HVW.out w9 HB9.out) HW9.out hkk) (sl_keepL (.inr rfl) hs1 HW9.out hkk) (sl_keepL (.inr rfl) hs2 HW9.out hkk) HC.out.rw HC.out.d1 HC.out.d4 x1 rfl x2 x3
      clear hWs g1 g2 g3 g4 g5 g6 hs1 hs2 hw hcm2 hBZ hkk d0 d1 hcell
      go_upto_region 21 with fail
      rw [← HWs.out]
      go_wp2_with fail
      refine HRT.out.mono ?_
      rintro e wz ⟨rfl, hbz⟩
      have HBE3 : Hid (Below w.heap.size w wz) := HBZ.out.trans (hbz.mono HBZ.out.size)
      clear hbz
      go_wp2
      go_ret
      exact ⟨rfl, HBE3.out⟩

end Go.Proofs.Ytdmkmljhljoojaa
