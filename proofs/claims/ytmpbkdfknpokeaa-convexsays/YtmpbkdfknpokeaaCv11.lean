/- ConvexSays: the law's walk. -/
import Derived.Test.YtmpbkdfknpokeaaCv10
namespace Go.Proofs.Ytmpbkdfknpokeaa
open Go.RowKit
attribute [local go_sem ↓] Go.wp_at_zero Go.wp_at_succ

theorem bel_drewC {N : Nat} {a b : World} (h : Below N a b) : ∀ n, Below N a (b.drewN n) := fun _ => ⟨h.os, h.tape, h.output, h.size, h.block⟩

/-- A box with three cells, written. -/
theorem box3 {w : World} {R : Nat} {x0 x1 x2 : Value} (a b c : Value) (h : w.heap[R]? = some (.cells #[x0, x1, x2] 35 (0, 0))) :
    ∃ W, W = ((w.setCell ⟨R, 0, none⟩ a).setCell ⟨R, 1, none⟩ b).setCell ⟨R, 2, none⟩ c ∧ (W.cell? ⟨R, 0, none⟩ = some a ∧ W.cell? ⟨R, 1, none⟩ = some b ∧ W.cell? ⟨R, 2, none⟩ = some c) ∧ (∀ v xs, Sl 0 3 w v xs → Sl 0 3 W v xs) ∧ ∀ w0 N, Below N w0 w → N ≤ R → Below N w0 W := by
  refine ⟨_, rfl, ?_, fun v xs hs => ?_, fun w0 N hb hN => ((hb.setCell hN _).setCell hN _).setCell hN _⟩
  · have e : (((w.setCell ⟨R, 0, none⟩ a).setCell ⟨R, 1, none⟩ b).setCell ⟨R, 2, none⟩ c).heap[R]? = some (.cells #[a, b, c] 35 (0, 0)) := by
      simp [World.setCell, Array.getElem?_modify, h]
    exact ⟨by simp [World.cell?, e], by simp [World.cell?, e], by simp [World.cell?, e]⟩
  · refine hs.move fun k hl ht => ⟨?_, ht⟩
    have hk : k ≠ R := fun e => by
      subst e
      rcases ht with ht | ⟨cur, ht⟩
      · omega
      · rw [h] at ht; simp at ht
    rw [Below.heap_setCell _ _ _ _ hk, Below.heap_setCell _ _ _ _ hk, Below.heap_setCell _ _ _ _ hk]

set_option maxRecDepth 100000 in
set_option maxHeartbeats 16000000 in
theorem convexSays_any (p : List (List Int)) (x : List Int) (v xv : Value) (w : World) (hv : Mat w.heap.size 23 3 w v p) (hx : Sl w.heap.size 3 w xv (ints x)) :
    Calls Try.prog 3 #[v, xv] w fun e w' => e = .returned (.bool true) ∧ Below w.heap.size w w' := by
  obtain ⟨ao, cap, hvv, hlc, hcm⟩ := mat_open hv
  obtain ⟨xo, xc, hxx, hlx, hcx⟩ := sl_open hx
  subst hvv hxx
  have HV : Hid (∀ W', Below w.heap.size w W' → Mat W'.heap.size 23 3 W' (.slice ao p.length cap) p) := fun W' hB => (hv.below hB (Nat.le_refl _)).more hB.size
  have HX : Hid (∀ W', Below w.heap.size w W' → Sl W'.heap.size 3 W' (.slice xo x.length xc) (ints x)) := fun W' hB => (hx.below hB (Nat.le_refl _)).more hB.size
  have HHV : Hid (Calls Try.prog 5 #[.slice ao p.length cap] w fun e w' => ∃ b, e = .returned (.bool b) ∧ (b = false → p.length ≤ 300) ∧ w' = w) := heavy_any _ p _ w hv
  have HPM : Hid (∀ W', Below w.heap.size w W' → Calls Try.prog 6 #[.slice ao p.length cap] W' fun e w' => e = .returned (.int .i64 (pmE p)) ∧ Below W'.heap.size W' w') := fun W' hB => pointsMay_any _ p _ W' (HV.out W' hB)
  have HCK : Hid (∀ W', Below w.heap.size w W' → Calls Try.prog 10 #[.slice ao p.length cap] W' fun e w' => e = .returned (.int .i64 (pmE p)) ∧ Below W'.heap.size W' w') := fun W' hB => checkC_any p _ W' (HV.out W' hB)
  have HRD : Hid (∀ W', Below w.heap.size w W' → Calls Try.prog 9 #[.slice ao p.length cap] W' fun e w' => ∃ r, e = .returned (.tuple #[r, .int .i64 (radE p)]) ∧ Sl 0 3 w' r (ints (radL p)) ∧ Below W'.heap.size W' w') := fun W' hB => radon_any p _ W' (HV.out W' hB)
  have HBT : Hid (∀ W', Below w.heap.size w W' → Calls Try.prog 14 #[.slice ao p.length cap, .slice xo x.length xc] W' fun e w' => ∃ tv, e = .returned (.tuple #[tv, .bool (bvB p x), .int .i64 (btwE p x)]) ∧ TkV (bvP p x) (bvQ p x) (bvU p x) w' tv ∧ Below W'.heap.size W' w') := fun W' hB => between_tk p x _ _ W' (HV.out W' hB) (HX.out W' hB)
  have HLI : Hid (∀ (E : Int) (y z : List Int) (u v : Value) (W : World), Sl 0 3 W u (ints y) → Sl 0 3 W v (ints z) → (E ≠ 0 → y = []) → (E = 0 → y = z) → Calls Try.prog 11 #[u, .int .i64 E, v, .int .i64 E] W fun x w' => x = .returned (.bool true) ∧ Below W.heap.size W w') := fun E y z u v W a b c d => list_true E y z u v W a b c d
  have HSA : Hid (∀ (y : List Int) (u v : Value) (W : World), Sl 0 3 W u (ints y) → Sl 0 3 W v (ints y) → Calls Try.prog 15 #[u, v] W fun e w' => e = .returned (.bool true) ∧ ∃ n, w' = W.drewN n) := fun y u v W a b => by
    have := same_any 0 y y u v W a b
    rw [show (y == y) = true by simp] at this
    exact this
  clear hv hx hlc hcm hlx hcx
  go_enter Try.func3, Try.ntmps3
  go_wp2_with fail
  refine HHV.out.mono ?_
  rintro e w' ⟨b, rfl, hbl, hw⟩
  obtain rfl := hw.symm
  clear hw
  cases b
  case true =>
    go_wp2
    go_ret
    exact ⟨rfl, Below.refl _ _⟩
  have hp300 := hbl rfl
  clear hbl HHV
  by_cases h300 : 300 < x.length
  · have h1 : (300 : Int) < (x.length : Int) := by omega
    go_wp2
    go_ret
    exact ⟨rfl, Below.refl _ _⟩
  have h1 : ¬ (300 : Int) < (x.length : Int) := by omega
  go_wp2_with fail
  refine (HPM.out w (Below.refl _ _)).mono ?_
  rintro e w1 ⟨rfl, hb1⟩
  have HB1 : Hid (Below w.heap.size w w1) := hb1
  clear hb1 HPM
  by_cases hq : pmE p = 0
  · have hok := pm_ok hq
    obtain ⟨b0, o0, cp0, r0, hs0, _, hcc0, hr0⟩ := mat_cell (HV.out w (Below.refl _ _)) (k := 0) (by have := hok.n1; omega)
    simp only [Value.slice.injEq] at hs0
    obtain ⟨rfl, -, rfl⟩ := hs0
    simp only [Nat.add_zero] at hcc0
    obtain ⟨uo0, uc0, hue0, _, _⟩ := sl_open hr0
    have HRE0 : Hid (radE p = if p.length ≠ (p.getD 0 []).length + 2 then 2 else if normB p.length (onesT (p.getD 0 []).length p) = true then 0 else 5) := by
      show _ = _; unfold radE; rw [if_neg (by rw [hq]; simp)]
    have HRL0 : Hid (radL p = if radE p = 0 then normL p.length (onesT (p.getD 0 []).length p) else []) := rfl
    have HBE0 : Hid (btwE p x = xE (p.getD 0 []).length x) := if_neg (by rw [hq]; simp)
    rw [hq] at HCK ⊢
    generalize (p.getD 0 []).length = d at *
    subst hue0
    have HOK : Hid (PmOk d p) := hok
    have HC0 : Hid (∀ W', Below w.heap.size w W' → W'.cell? ⟨b0, o0, none⟩ = some (.slice uo0 d uc0)) := fun W' hB => (hB.cell (lt_of_cell hcc0)).trans hcc0
    have h1' := hok.n1
    have h12 := hok.n12
    have hd3 := hok.d3
    have hd1 := hok.d1
    have hp0I : (0 : Int) < (p.length : Int) := by omega
    have hcc1 := HC0.out w1 HB1.out
    clear hr0 hcc0 hok hq
    by_cases hn : p.length = d + 2
    case' neg =>
      have hnI : ((p.length : Int) != (d : Int) + 2) = true := by rw [bne_iff_ne]; omega
      have HRE : Hid (radE p = 2) := by show _ = _; rw [HRE0.out, if_pos hn]
      have HRL : Hid (radL p = []) := by show _ = _; rw [HRL0.out, if_neg (by rw [HRE.out]; decide)]
      have HRD2 : Hid (∀ W', Below w.heap.size w W' → Calls Try.prog 9 #[.slice (some ⟨b0, o0, none⟩) p.length cap] W' fun e w' => ∃ ro rn rc, e = .returned (.tuple #[.slice ro rn rc, .int .i64 2]) ∧ Sl 0 3 w' (.slice ro rn rc) (ints (radL p)) ∧ Below W'.heap.size W' w') := fun W' hB => by
        refine (HRD.out W' hB).mono ?_
        rintro e w' ⟨r, rfl, hr, hb⟩
        obtain ⟨ro, rc, rfl, _, _⟩ := sl_open hr
        exact ⟨ro, _, rc, by rw [HRE.out], hr, hb⟩
      obtain ⟨w2, hw2⟩ : ∃ w2, w2 = w1 := ⟨_, rfl⟩
      rw [← hw2] at hcc1 ⊢
      have HB2 : Hid (Below w.heap.size w w2) := by rw [hw2]; exact HB1.out
      obtain ⟨WL, hWL⟩ : ∃ WL : List Int, WL = [] := ⟨_, rfl⟩
      have HWL : Hid (∀ W', Below w2.heap.size w2 W' → Sl 0 3 W' (.slice none 0 0) (ints WL)) := fun W' _ => by rw [hWL]; exact Sl.nil _ _ _
      have HCD : Hid ((radE p ≠ 0 → radL p = []) ∧ (radE p = 0 → radL p = WL)) := ⟨fun _ => HRL.out, fun h => by rw [HRE.out] at h; simp at h⟩
      clear hw2 hWL hn HRE0 HRL0 HRL HRD
      go_wp2_with fail
    case' pos =>
      have hnI : ((p.length : Int) != (d : Int) + 2) = false := by rw [bne_eq_false_iff_eq]; omega
      have HRE1 : Hid (radE p = if normB p.length (onesT d p) = true then 0 else 5) := by show _ = _; rw [HRE0.out, if_neg (by omega)]
      have HWO : Hid (Calls Try.prog 8 #[.slice (some ⟨b0, o0, none⟩) p.length cap] w1 fun e w' => ∃ z, e = .returned z ∧ Mat w'.heap.size 23 3 w' z (onesT d p) ∧ Below w1.heap.size w1 w') :=
        (withOnes_any _ d p _ w1 (HV.out w1 HB1.out) h1' (by omega) HOK.out.len (by omega)).mono fun e w' ⟨z, he, hr, hb⟩ => ⟨z, he, hr.mat hb.size, hb⟩
      have HNR : Hid (∀ W' z, Mat W'.heap.size 23 3 W' z (onesT d p) → Calls Try.prog 7 #[z] W' fun e w' => ∃ y, e = .returned (.tuple #[y, .bool (normB p.length (onesT d p))]) ∧ Sl 0 3 w' y (ints (normL p.length (onesT d p))) ∧ Below W'.heap.size W' w') := fun W' z hz =>
        normalR_own p.length 60 W'.heap.size _ z W' (onesT_mx HOK.out.bd h1' (by omega)) hz (by rw [onesT_len]; omega) (by rw [onesT_len]; omega)
      clear hn HRE0
      generalize normL p.length (onesT d p) = M0 at *
      generalize normB p.length (onesT d p) = nb at *
      go_wp2_with fail
      refine HWO.out.mono ?_
      rintro e wz ⟨z, rfl, hz, hbz⟩
      have HNZ : Hid (Calls Try.prog 7 #[z] wz fun e w' => ∃ y, e = .returned (.tuple #[y, .bool nb]) ∧ Sl 0 3 w' y (ints M0) ∧ Below wz.heap.size wz w') := HNR.out wz z hz
      have HBz : Hid (Below w.heap.size w wz) := HB1.out.trans (hbz.mono HB1.out.size)
      obtain ⟨zo, zc, hzv, _, _⟩ := mat_open hz
      subst hzv
      clear hz hbz HNR HWO
      go_wp2_with fail
      refine HNZ.out.mono ?_
      rintro e w2 ⟨y, rfl, hy, hb2⟩
      obtain ⟨yo, yc, hyv, _, _⟩ := sl_open hy
      subst hyv
      have HB2 : Hid (Below w.heap.size w w2) := HBz.out.trans (hb2.mono HBz.out.size)
      obtain ⟨WL, hWL⟩ : ∃ WL : List Int, WL = M0 := ⟨_, rfl⟩
      rw [← hWL] at hy ⊢
      have HWL : Hid (∀ W', Below w2.heap.size w2 W' → Sl 0 3 W' (.slice yo WL.length yc) (ints WL)) := fun W' hB => hy.below hB (Nat.le_refl _)
      have HWM : Hid (WL = M0) := hWL
      clear hy hb2 hWL HNZ hcc1
      cases nb
      case' false =>
        have HRE : Hid (radE p = 5) := HRE1.out
        have HRL : Hid (radL p = []) := by show _ = _; rw [HRL0.out, if_neg (by rw [HRE.out]; decide)]
        have HRD2 : Hid (∀ W', Below w.heap.size w W' → Calls Try.prog 9 #[.slice (some ⟨b0, o0, none⟩) p.length cap] W' fun e w' => ∃ ro rn rc, e = .returned (.tuple #[.slice ro rn rc, .int .i64 5]) ∧ Sl 0 3 w' (.slice ro rn rc) (ints (radL p)) ∧ Below W'.heap.size W' w') := fun W' hB => by
          refine (HRD.out W' hB).mono ?_
          rintro e w' ⟨r, rfl, hr, hb⟩
          obtain ⟨ro, rc, rfl, _, _⟩ := sl_open hr
          exact ⟨ro, _, rc, by rw [HRE.out], hr, hb⟩
        have HCD : Hid ((radE p ≠ 0 → radL p = []) ∧ (radE p = 0 → radL p = WL)) := ⟨fun _ => HRL.out, fun h => by rw [HRE.out] at h; simp at h⟩
        clear HRL0 HRL HRD HRE1
        go_wp2_with fail
      case' true =>
        have HRE : Hid (radE p = 0) := HRE1.out
        have HRL : Hid (radL p = WL) := by show _ = _; rw [HRL0.out, if_pos HRE.out, HWM.out]
        have HRD2 : Hid (∀ W', Below w.heap.size w W' → Calls Try.prog 9 #[.slice (some ⟨b0, o0, none⟩) p.length cap] W' fun e w' => ∃ ro rn rc, e = .returned (.tuple #[.slice ro rn rc, .int .i64 0]) ∧ Sl 0 3 w' (.slice ro rn rc) (ints (radL p)) ∧ Below W'.heap.size W' w') := fun W' hB => by
          refine (HRD.out W' hB).mono ?_
          rintro e w' ⟨r, rfl, hr, hb⟩
          obtain ⟨ro, rc, rfl, _, _⟩ := sl_open hr
          exact ⟨ro, _, rc, by rw [HRE.out], hr, hb⟩
        have HCD : Hid ((radE p ≠ 0 → radL p = []) ∧ (radE p = 0 → radL p = WL)) := ⟨fun h => absurd HRE.out h, fun _ => HRL.out⟩
        clear HRL0 HRL HRD HRE1
        go_wp2_with fail
    all_goals
      refine (HRD2.out w2 HB2.out).mono ?_
      rintro e w3 ⟨ro, rn, rc, rfl, hr, hb3⟩
      have HR3 : Hid (Sl 0 3 w3 (.slice ro rn rc) (ints (radL p))) := hr
      have HB23 : Hid (Below w2.heap.size w2 w3) := hb3
      have HB3 : Hid (Below w.heap.size w w3) := HB2.out.trans (hb3.mono HB2.out.size)
      clear hr hb3 HRD2
      go_wp2_with fail
      refine (HCK.out w3 HB3.out).mono ?_
      rintro e w4 ⟨rfl, hb4⟩
      have HR4 : Hid (Sl 0 3 w4 (.slice ro rn rc) (ints (radL p))) := HR3.out.below hb4 (Nat.le_refl _)
      have HB24 : Hid (Below w2.heap.size w2 w4) := HB23.out.trans (hb4.mono HB23.out.size)
      have HB4 : Hid (Below w.heap.size w w4) := HB3.out.trans (hb4.mono HB3.out.size)
      clear hb4 HCK HR3
      go_wp2_with fail
      refine (HLI.out _ (radL p) WL _ _ w4 HR4.out (HWL.out w4 HB24.out) (fun h => HCD.out.1 (fun e => h (HRE.out.symm.trans e))) (fun h => HCD.out.2 (HRE.out.trans h))).mono ?_
      rintro e w5 ⟨rfl, hb5⟩
      have HB5a : Hid (Below w.heap.size w w5) := HB4.out.trans (hb5.mono HB4.out.size)
      have hcc5 := HC0.out w5 HB5a.out
      clear hb5 HLI HR4 HWL HCD HRE
      have HFA : Hid (Calls Try.prog 12 #[.slice xo x.length xc, .int .i64 20] w5 fun e w' => e = .returned (.bool (x.any (farB · 20))) ∧ w' = w5) := farAny_any _ x _ 20 w5 (HX.out w5 HB5a.out) (by decide) (by decide)
      by_cases hxd : x.length = d
      · have hxI : ((x.length : Int) != (d : Int)) = false := by rw [bne_eq_false_iff_eq]; omega
        have HXE : Hid (xE d x = if x.any (farB · 20) = true then 4 else 0) := if_neg (fun h => h hxd)
        have HXD : Hid (x.length = d) := hxd
        have HXB : Hid (x.any (farB · 20) = false → ∀ z ∈ x, z.natAbs ≤ 20) := far_iff.1
        clear hxd
        generalize x.any (farB · 20) = fa at *
        cases fa
        case true =>
          have HBE : Hid (btwE p x = 4) := by show _ = _; rw [HBE0.out]; exact HXE.out
          have HZP : Hid (bvP p x = []) := if_neg (by rw [HBE.out]; decide)
          have HZQ : Hid (bvQ p x = []) := if_neg (by rw [HBE.out]; decide)
          have HZU : Hid (bvU p x = 0) := if_neg (by rw [HBE.out]; decide)
          have HZB : Hid (bvB p x = false) := if_neg (by rw [HBE.out]; decide)
          have HBT2 : Hid (∀ W', Below w.heap.size w W' → Calls Try.prog 14 #[.slice (some ⟨b0, o0, none⟩) p.length cap, .slice xo x.length xc] W' fun e w' => ∃ o1 c1 o2 c2, e = .returned (.tuple #[.agg #[.slice o1 0 c1, .slice o2 0 c2, .int .i64 0], .bool false, .int .i64 4]) ∧ (Sl 0 3 w' (.slice o1 0 c1) (ints []) ∧ Sl 0 3 w' (.slice o2 0 c2) (ints [])) ∧ Below W'.heap.size W' w') := fun W' hB => by
            have h := HBT.out W' hB
            rw [HZP.out, HZQ.out, HZU.out, HZB.out, HBE.out] at h
            refine h.mono ?_
            rintro e w' ⟨tv, rfl, ⟨o1, c1, o2, c2, rfl, g1, g2⟩, hb⟩
            exact ⟨o1, c1, o2, c2, rfl, ⟨g1, g2⟩, hb⟩
          clear HBT HBE HZP HZQ HZU HZB HBE0
          go_wp2_with fail
          refine HFA.out.mono ?_
          rintro e w' ⟨rfl, hw⟩
          rw [hw]
          clear hw
          go_wp2_with fail
          obtain ⟨TB, hTB⟩ : ∃ TB, TB = w5.heap.size := ⟨_, rfl⟩
          obtain ⟨W5, hW5⟩ : ∃ W5, W5 = w5.alloc (.cells #[.slice none 0 0, .slice none 0 0, .int .i64 0] 35) := ⟨_, rfl⟩
          rw [← hW5, ← hTB]
          obtain ⟨o3, c3, o4, c4, e3, e4, e5, e6⟩ : ∃ (o3 : Option Addr) (c3 : Nat) (o4 : Option Addr) (c4 : Nat), o3 = none ∧ c3 = 0 ∧ o4 = none ∧ c4 = 0 := ⟨_, _, _, _, rfl, rfl, rfl, rfl⟩
          have HT5 : Hid (W5.cell? ⟨TB, 0, none⟩ = some (.slice o3 0 c3) ∧ W5.cell? ⟨TB, 1, none⟩ = some (.slice o4 0 c4) ∧ W5.cell? ⟨TB, 2, none⟩ = some (.int .i64 0)) := by
            rw [hW5, hTB, e3, e4, e5, e6]; exact ⟨by simp, by simp, by simp⟩
          have HS5 : Hid (Sl 0 3 W5 (.slice o3 0 c3) (ints []) ∧ Sl 0 3 W5 (.slice o4 0 c4) (ints [])) := by rw [e3, e4, e5, e6]; exact ⟨Sl.nil _ _ _, Sl.nil _ _ _⟩
          have HB5 : Hid (Below w.heap.size w W5) := by rw [hW5]; exact HB5a.out.alloc HB5a.out.size _
          clear hW5 hTB e3 e4 e5 e6 hcc5
          refine (HBT2.out W5 HB5.out).mono ?_
          rintro e w6 ⟨o1, c1, o2, c2, rfl, ⟨g1, g2⟩, hb6⟩
          have HB6 : Hid (Below w.heap.size w w6) := HB5.out.trans (hb6.mono HB5.out.size)
          have t0 : w6.cell? ⟨TB, 0, none⟩ = some (.slice o3 (0) c3) := (hb6.cell (lt_of_cell HT5.out.1)).trans HT5.out.1
          have t1 : w6.cell? ⟨TB, 1, none⟩ = some (.slice o4 (0) c4) := (hb6.cell (lt_of_cell HT5.out.2.1)).trans HT5.out.2.1
          have t2 : w6.cell? ⟨TB, 2, none⟩ = some (.int .i64 (0)) := (hb6.cell (lt_of_cell HT5.out.2.2)).trans HT5.out.2.2
          have s3 := HS5.out.1.below hb6 (Nat.le_refl _)
          have s4 := HS5.out.2.below hb6 (Nat.le_refl _)
          obtain ⟨W7, hW7⟩ : ∃ W7, W7 = w6.alloc (.cells #[.slice o1 (0) c1, .slice o2 (0) c2, .int .i64 (0)] 35) := ⟨_, rfl⟩
          obtain ⟨UB, hUB⟩ : ∃ UB, UB = w6.heap.size := ⟨_, rfl⟩
          have hb7 : Below w6.heap.size w6 W7 := by rw [hW7]; exact alloc_keep _ _
          have HF7 : Hid (∀ n, (((W7.drewN n).cell? ⟨TB, 0, none⟩ = some (.slice o3 (0) c3) ∧ (W7.drewN n).cell? ⟨TB, 1, none⟩ = some (.slice o4 (0) c4) ∧ (W7.drewN n).cell? ⟨TB, 2, none⟩ = some (.int .i64 (0))) ∧ ((W7.drewN n).cell? ⟨UB, 0, none⟩ = some (.slice o1 (0) c1) ∧ (W7.drewN n).cell? ⟨UB, 1, none⟩ = some (.slice o2 (0) c2) ∧ (W7.drewN n).cell? ⟨UB, 2, none⟩ = some (.int .i64 (0)))) ∧ (Sl 0 3 (W7.drewN n) (.slice o1 (0) c1) (ints ([])) ∧ Sl 0 3 (W7.drewN n) (.slice o2 (0) c2) (ints ([])) ∧ Sl 0 3 (W7.drewN n) (.slice o3 (0) c3) (ints ([])) ∧ Sl 0 3 (W7.drewN n) (.slice o4 (0) c4) (ints ([]))) ∧ Below w.heap.size w (W7.drewN n)) := by
            intro n
            have hn : Below W7.heap.size W7 (W7.drewN n) := bel_drewC (Below.refl _ _) n
            have hbn : Below w6.heap.size w6 (W7.drewN n) := hb7.trans (hn.mono hb7.size)
            refine ⟨⟨⟨(hbn.cell (lt_of_cell t0)).trans t0, (hbn.cell (lt_of_cell t1)).trans t1, (hbn.cell (lt_of_cell t2)).trans t2⟩, ?_⟩, ⟨g1.below hbn (Nat.le_refl _), g2.below hbn (Nat.le_refl _), s3.below hbn (Nat.le_refl _), s4.below hbn (Nat.le_refl _)⟩, HB6.out.trans (hbn.mono HB6.out.size)⟩
            have u0 : W7.cell? ⟨UB, 0, none⟩ = some (.slice o1 (0) c1) := by rw [hW7, hUB]; simp
            have u1 : W7.cell? ⟨UB, 1, none⟩ = some (.slice o2 (0) c2) := by rw [hW7, hUB]; simp
            have u2 : W7.cell? ⟨UB, 2, none⟩ = some (.int .i64 (0)) := by rw [hW7, hUB]; simp
            exact ⟨(hn.cell (lt_of_cell u0)).trans u0, (hn.cell (lt_of_cell u1)).trans u1, (hn.cell (lt_of_cell u2)).trans u2⟩
          clear t0 t1 t2 s3 s4 g1 g2 hb6 hb7 HT5 HS5 HBT2
          have u0 : W7.cell? ⟨UB, 0, none⟩ = some (.slice o1 (0) c1) := (HF7.out 0).1.2.1
          have u1 : W7.cell? ⟨UB, 1, none⟩ = some (.slice o2 (0) c2) := (HF7.out 0).1.2.2.1
          have u2 : W7.cell? ⟨UB, 2, none⟩ = some (.int .i64 (0)) := (HF7.out 0).1.2.2.2
          have t0 : W7.cell? ⟨TB, 0, none⟩ = some (.slice o3 (0) c3) := (HF7.out 0).1.1.1
          have t1 : W7.cell? ⟨TB, 1, none⟩ = some (.slice o4 (0) c4) := (HF7.out 0).1.1.2.1
          have t2 : W7.cell? ⟨TB, 2, none⟩ = some (.int .i64 (0)) := (HF7.out 0).1.1.2.2
          rw [hW7, hUB] at u0 u1 u2
          rw [hW7] at t0 t1 t2
          have hUU : ((0 : Int) == (0 : Int)) = true := by simp
          have hBB : ((false : Bool) == (false : Bool)) = true := by simp
          go_wp2_with fail
          rw [← hW7]
          clear t0 t1 t2 u0 u1 u2
          refine (HSA.out ([]) _ _ W7 (HF7.out 0).2.1.1 (HF7.out 0).2.1.2.2.1).mono ?_
          rintro e w8 ⟨rfl, n8, hw8⟩
          have u1 : w8.cell? ⟨UB, 1, none⟩ = some (.slice o2 (0) c2) := by rw [hw8]; exact (HF7.out n8).1.2.2.1
          have t1 : w8.cell? ⟨TB, 1, none⟩ = some (.slice o4 (0) c4) := by rw [hw8]; exact (HF7.out n8).1.1.2.1
          rw [hUB] at u1
          have HW8 : Hid (w8 = W7.drewN n8) := hw8
          clear hw8
          go_wp2_with fail
          refine (HSA.out ([]) _ _ w8 (by rw [HW8.out]; exact (HF7.out n8).2.1.2.1) (by rw [HW8.out]; exact (HF7.out n8).2.1.2.2.2)).mono ?_
          rintro e w9 ⟨rfl, n9, hw9⟩
          have hw9' : w9 = W7.drewN (n8 + n9) := by rw [hw9, HW8.out, World.drewN_drewN]
          have u2 : w9.cell? ⟨UB, 2, none⟩ = some (.int .i64 (0)) := by rw [hw9']; exact (HF7.out _).1.2.2.2
          have t2 : w9.cell? ⟨TB, 2, none⟩ = some (.int .i64 (0)) := by rw [hw9']; exact (HF7.out _).1.1.2.2
          rw [hUB] at u2
          have HB9 : Hid (Below w.heap.size w w9) := by rw [hw9']; exact (HF7.out _).2.2
          clear hw9 hw9' t1 u1
          go_wp2
          go_ret
          exact ⟨rfl, HB9.out⟩
        case false =>
          have HBE : Hid (btwE p x = 0) := by show _ = _; rw [HBE0.out]; exact HXE.out
          have HBO : Hid (∀ W', Below w.heap.size w W' → Calls Try.prog 13 #[.slice (some ⟨b0, o0, none⟩) p.length cap, .slice xo x.length xc] W' fun e w' => ∃ o3 c3 o4 c4, e = .returned (.tuple #[.agg #[.slice o3 (bvP p x).length c3, .slice o4 (bvQ p x).length c4, .int .i64 (bvU p x)], .bool (bvB p x)]) ∧ (Sl 0 3 w' (.slice o3 (bvP p x).length c3) (ints (bvP p x)) ∧ Sl 0 3 w' (.slice o4 (bvQ p x).length c4) (ints (bvQ p x))) ∧ Below W'.heap.size W' w') := fun W' hB => by
            refine (betweenOf_tk d p x _ _ W' (HV.out W' hB) (HX.out W' hB) HOK.out HXD.out (HXB.out rfl) HBE.out).mono ?_
            rintro e w' ⟨tv, rfl, ⟨o1, c1, o2, c2, rfl, g1, g2⟩, hb⟩
            exact ⟨o1, c1, o2, c2, rfl, ⟨g1, g2⟩, hb⟩
          have HBT2 : Hid (∀ W', Below w.heap.size w W' → Calls Try.prog 14 #[.slice (some ⟨b0, o0, none⟩) p.length cap, .slice xo x.length xc] W' fun e w' => ∃ o1 c1 o2 c2, e = .returned (.tuple #[.agg #[.slice o1 (bvP p x).length c1, .slice o2 (bvQ p x).length c2, .int .i64 (bvU p x)], .bool (bvB p x), .int .i64 0]) ∧ (Sl 0 3 w' (.slice o1 (bvP p x).length c1) (ints (bvP p x)) ∧ Sl 0 3 w' (.slice o2 (bvQ p x).length c2) (ints (bvQ p x))) ∧ Below W'.heap.size W' w') := fun W' hB => by
            have h := HBT.out W' hB
            rw [HBE.out] at h
            refine h.mono ?_
            rintro e w' ⟨tv, rfl, ⟨o1, c1, o2, c2, rfl, g1, g2⟩, hb⟩
            exact ⟨o1, c1, o2, c2, rfl, ⟨g1, g2⟩, hb⟩
          clear HBT HBE HBE0 HXE HXB
          generalize bvP p x = P at *
          generalize bvQ p x = Q at *
          generalize bvU p x = U at *
          generalize bvB p x = B at *
          go_wp2_with fail
          refine HFA.out.mono ?_
          rintro e w' ⟨rfl, hw⟩
          rw [hw]
          clear hw
          go_wp2_with fail
          obtain ⟨TB, hTB⟩ : ∃ TB, TB = w5.heap.size := ⟨_, rfl⟩
          obtain ⟨WA, hWA⟩ : ∃ WA, WA = w5.alloc (.cells #[.slice none 0 0, .slice none 0 0, .int .i64 0] 35) := ⟨_, rfl⟩
          rw [← hWA, ← hTB]
          have HBA : Hid (Below w.heap.size w WA) := by rw [hWA]; exact HB5a.out.alloc HB5a.out.size _
          have hA : WA.heap[TB]? = some (.cells #[.slice none 0 0, .slice none 0 0, .int .i64 0] 35 (0, 0)) := by rw [hWA, hTB]; exact alloc_new _ _
          have hTBw : w.heap.size ≤ TB := by rw [hTB]; exact HB5a.out.size
          clear hWA hTB hcc5
          refine (HBO.out WA HBA.out).mono ?_
          rintro e wb ⟨o3, c3, o4, c4, rfl, hsb, hbb⟩
          have hB3 : wb.heap[TB]? = some (.cells #[.slice none 0 0, .slice none 0 0, .int .i64 0] 35 (0, 0)) := (hbb.block _ (Array.getElem?_eq_some_iff.1 hA).1).trans hA
          have k0 : wb.cell? ⟨TB, 0, none⟩ = some (.slice none 0 0) := by simp [World.cell?, hB3]
          have k1 : wb.cell? ⟨TB, 1, none⟩ = some (.slice none 0 0) := by simp [World.cell?, hB3]
          have k2 : wb.cell? ⟨TB, 2, none⟩ = some (.int .i64 0) := by simp [World.cell?, hB3]
          have q0 : wb.frozen? ⟨TB, 0, none⟩ = false := by simp [World.frozen?, hB3]
          have q1 : wb.frozen? ⟨TB, 1, none⟩ = false := by simp [World.frozen?, hB3]
          have q2 : wb.frozen? ⟨TB, 2, none⟩ = false := by simp [World.frozen?, hB3]
          have HBX3 : Hid (∃ W, W = ((wb.setCell ⟨TB, 0, none⟩ (.slice o3 P.length c3)).setCell ⟨TB, 1, none⟩ (.slice o4 Q.length c4)).setCell ⟨TB, 2, none⟩ (.int .i64 U) ∧ (W.cell? ⟨TB, 0, none⟩ = some (.slice o3 P.length c3) ∧ W.cell? ⟨TB, 1, none⟩ = some (.slice o4 Q.length c4) ∧ W.cell? ⟨TB, 2, none⟩ = some (.int .i64 U)) ∧ (∀ v xs, Sl 0 3 wb v xs → Sl 0 3 W v xs) ∧ ∀ w0 N, Below N w0 wb → N ≤ TB → Below N w0 W) := box3 _ _ _ hB3
          have HSB : Hid (Sl 0 3 wb (.slice o3 P.length c3) (ints P) ∧ Sl 0 3 wb (.slice o4 Q.length c4) (ints Q)) := hsb
          have HBB : Hid (Below w.heap.size w wb) := HBA.out.trans (hbb.mono HBA.out.size)
          clear hA hB3 hsb hbb HBO
          go_wp2_with fail
          obtain ⟨W5, hW5, hc5, hs5, hb5⟩ := HBX3.out
          rw [← hW5]
          have HT5 : Hid (W5.cell? ⟨TB, 0, none⟩ = some (.slice o3 P.length c3) ∧ W5.cell? ⟨TB, 1, none⟩ = some (.slice o4 Q.length c4) ∧ W5.cell? ⟨TB, 2, none⟩ = some (.int .i64 U)) := hc5
          have HS5 : Hid (Sl 0 3 W5 (.slice o3 P.length c3) (ints P) ∧ Sl 0 3 W5 (.slice o4 Q.length c4) (ints Q)) := ⟨hs5 _ _ HSB.out.1, hs5 _ _ HSB.out.2⟩
          have HB5 : Hid (Below w.heap.size w W5) := hb5 _ _ HBB.out hTBw
          clear hW5 hc5 hs5 hb5 k0 k1 k2 q0 q1 q2 HBX3 HSB
          refine (HBT2.out W5 HB5.out).mono ?_
          rintro e w6 ⟨o1, c1, o2, c2, rfl, ⟨g1, g2⟩, hb6⟩
          have HB6 : Hid (Below w.heap.size w w6) := HB5.out.trans (hb6.mono HB5.out.size)
          have t0 : w6.cell? ⟨TB, 0, none⟩ = some (.slice o3 (P.length) c3) := (hb6.cell (lt_of_cell HT5.out.1)).trans HT5.out.1
          have t1 : w6.cell? ⟨TB, 1, none⟩ = some (.slice o4 (Q.length) c4) := (hb6.cell (lt_of_cell HT5.out.2.1)).trans HT5.out.2.1
          have t2 : w6.cell? ⟨TB, 2, none⟩ = some (.int .i64 (U)) := (hb6.cell (lt_of_cell HT5.out.2.2)).trans HT5.out.2.2
          have s3 := HS5.out.1.below hb6 (Nat.le_refl _)
          have s4 := HS5.out.2.below hb6 (Nat.le_refl _)
          obtain ⟨W7, hW7⟩ : ∃ W7, W7 = w6.alloc (.cells #[.slice o1 (P.length) c1, .slice o2 (Q.length) c2, .int .i64 (U)] 35) := ⟨_, rfl⟩
          obtain ⟨UB, hUB⟩ : ∃ UB, UB = w6.heap.size := ⟨_, rfl⟩
          have hb7 : Below w6.heap.size w6 W7 := by rw [hW7]; exact alloc_keep _ _
          have HF7 : Hid (∀ n, (((W7.drewN n).cell? ⟨TB, 0, none⟩ = some (.slice o3 (P.length) c3) ∧ (W7.drewN n).cell? ⟨TB, 1, none⟩ = some (.slice o4 (Q.length) c4) ∧ (W7.drewN n).cell? ⟨TB, 2, none⟩ = some (.int .i64 (U))) ∧ ((W7.drewN n).cell? ⟨UB, 0, none⟩ = some (.slice o1 (P.length) c1) ∧ (W7.drewN n).cell? ⟨UB, 1, none⟩ = some (.slice o2 (Q.length) c2) ∧ (W7.drewN n).cell? ⟨UB, 2, none⟩ = some (.int .i64 (U)))) ∧ (Sl 0 3 (W7.drewN n) (.slice o1 (P.length) c1) (ints (P)) ∧ Sl 0 3 (W7.drewN n) (.slice o2 (Q.length) c2) (ints (Q)) ∧ Sl 0 3 (W7.drewN n) (.slice o3 (P.length) c3) (ints (P)) ∧ Sl 0 3 (W7.drewN n) (.slice o4 (Q.length) c4) (ints (Q))) ∧ Below w.heap.size w (W7.drewN n)) := by
            intro n
            have hn : Below W7.heap.size W7 (W7.drewN n) := bel_drewC (Below.refl _ _) n
            have hbn : Below w6.heap.size w6 (W7.drewN n) := hb7.trans (hn.mono hb7.size)
            refine ⟨⟨⟨(hbn.cell (lt_of_cell t0)).trans t0, (hbn.cell (lt_of_cell t1)).trans t1, (hbn.cell (lt_of_cell t2)).trans t2⟩, ?_⟩, ⟨g1.below hbn (Nat.le_refl _), g2.below hbn (Nat.le_refl _), s3.below hbn (Nat.le_refl _), s4.below hbn (Nat.le_refl _)⟩, HB6.out.trans (hbn.mono HB6.out.size)⟩
            have u0 : W7.cell? ⟨UB, 0, none⟩ = some (.slice o1 (P.length) c1) := by rw [hW7, hUB]; simp
            have u1 : W7.cell? ⟨UB, 1, none⟩ = some (.slice o2 (Q.length) c2) := by rw [hW7, hUB]; simp
            have u2 : W7.cell? ⟨UB, 2, none⟩ = some (.int .i64 (U)) := by rw [hW7, hUB]; simp
            exact ⟨(hn.cell (lt_of_cell u0)).trans u0, (hn.cell (lt_of_cell u1)).trans u1, (hn.cell (lt_of_cell u2)).trans u2⟩
          clear t0 t1 t2 s3 s4 g1 g2 hb6 hb7 HT5 HS5 HBT2
          have u0 : W7.cell? ⟨UB, 0, none⟩ = some (.slice o1 (P.length) c1) := (HF7.out 0).1.2.1
          have u1 : W7.cell? ⟨UB, 1, none⟩ = some (.slice o2 (Q.length) c2) := (HF7.out 0).1.2.2.1
          have u2 : W7.cell? ⟨UB, 2, none⟩ = some (.int .i64 (U)) := (HF7.out 0).1.2.2.2
          have t0 : W7.cell? ⟨TB, 0, none⟩ = some (.slice o3 (P.length) c3) := (HF7.out 0).1.1.1
          have t1 : W7.cell? ⟨TB, 1, none⟩ = some (.slice o4 (Q.length) c4) := (HF7.out 0).1.1.2.1
          have t2 : W7.cell? ⟨TB, 2, none⟩ = some (.int .i64 (U)) := (HF7.out 0).1.1.2.2
          rw [hW7, hUB] at u0 u1 u2
          rw [hW7] at t0 t1 t2
          have hUU : ((U : Int) == (U : Int)) = true := by simp
          have hBB : ((B : Bool) == (B : Bool)) = true := by simp
          go_wp2_with fail
          rw [← hW7]
          clear t0 t1 t2 u0 u1 u2
          refine (HSA.out (P) _ _ W7 (HF7.out 0).2.1.1 (HF7.out 0).2.1.2.2.1).mono ?_
          rintro e w8 ⟨rfl, n8, hw8⟩
          have u1 : w8.cell? ⟨UB, 1, none⟩ = some (.slice o2 (Q.length) c2) := by rw [hw8]; exact (HF7.out n8).1.2.2.1
          have t1 : w8.cell? ⟨TB, 1, none⟩ = some (.slice o4 (Q.length) c4) := by rw [hw8]; exact (HF7.out n8).1.1.2.1
          rw [hUB] at u1
          have HW8 : Hid (w8 = W7.drewN n8) := hw8
          clear hw8
          go_wp2_with fail
          refine (HSA.out (Q) _ _ w8 (by rw [HW8.out]; exact (HF7.out n8).2.1.2.1) (by rw [HW8.out]; exact (HF7.out n8).2.1.2.2.2)).mono ?_
          rintro e w9 ⟨rfl, n9, hw9⟩
          have hw9' : w9 = W7.drewN (n8 + n9) := by rw [hw9, HW8.out, World.drewN_drewN]
          have u2 : w9.cell? ⟨UB, 2, none⟩ = some (.int .i64 (U)) := by rw [hw9']; exact (HF7.out _).1.2.2.2
          have t2 : w9.cell? ⟨TB, 2, none⟩ = some (.int .i64 (U)) := by rw [hw9']; exact (HF7.out _).1.1.2.2
          rw [hUB] at u2
          have HB9 : Hid (Below w.heap.size w w9) := by rw [hw9']; exact (HF7.out _).2.2
          clear hw9 hw9' t1 u1
          go_wp2
          go_ret
          exact ⟨rfl, HB9.out⟩
      · have hxI : ((x.length : Int) != (d : Int)) = true := by rw [bne_iff_ne]; omega
        have HXE : Hid (xE d x = 3) := if_pos hxd
        clear hxd
        have HBE : Hid (btwE p x = 3) := by show _ = _; rw [HBE0.out]; exact HXE.out
        have HZP : Hid (bvP p x = []) := if_neg (by rw [HBE.out]; decide)
        have HZQ : Hid (bvQ p x = []) := if_neg (by rw [HBE.out]; decide)
        have HZU : Hid (bvU p x = 0) := if_neg (by rw [HBE.out]; decide)
        have HZB : Hid (bvB p x = false) := if_neg (by rw [HBE.out]; decide)
        have HBT2 : Hid (∀ W', Below w.heap.size w W' → Calls Try.prog 14 #[.slice (some ⟨b0, o0, none⟩) p.length cap, .slice xo x.length xc] W' fun e w' => ∃ o1 c1 o2 c2, e = .returned (.tuple #[.agg #[.slice o1 0 c1, .slice o2 0 c2, .int .i64 0], .bool false, .int .i64 3]) ∧ (Sl 0 3 w' (.slice o1 0 c1) (ints []) ∧ Sl 0 3 w' (.slice o2 0 c2) (ints [])) ∧ Below W'.heap.size W' w') := fun W' hB => by
          have h := HBT.out W' hB
          rw [HZP.out, HZQ.out, HZU.out, HZB.out, HBE.out] at h
          refine h.mono ?_
          rintro e w' ⟨tv, rfl, ⟨o1, c1, o2, c2, rfl, g1, g2⟩, hb⟩
          exact ⟨o1, c1, o2, c2, rfl, ⟨g1, g2⟩, hb⟩
        clear HBT HBE HZP HZQ HZU HZB HBE0
        go_wp2_with fail
        obtain ⟨TB, hTB⟩ : ∃ TB, TB = w5.heap.size := ⟨_, rfl⟩
        obtain ⟨W5, hW5⟩ : ∃ W5, W5 = w5.alloc (.cells #[.slice none 0 0, .slice none 0 0, .int .i64 0] 35) := ⟨_, rfl⟩
        rw [← hW5, ← hTB]
        obtain ⟨o3, c3, o4, c4, e3, e4, e5, e6⟩ : ∃ (o3 : Option Addr) (c3 : Nat) (o4 : Option Addr) (c4 : Nat), o3 = none ∧ c3 = 0 ∧ o4 = none ∧ c4 = 0 := ⟨_, _, _, _, rfl, rfl, rfl, rfl⟩
        have HT5 : Hid (W5.cell? ⟨TB, 0, none⟩ = some (.slice o3 0 c3) ∧ W5.cell? ⟨TB, 1, none⟩ = some (.slice o4 0 c4) ∧ W5.cell? ⟨TB, 2, none⟩ = some (.int .i64 0)) := by
          rw [hW5, hTB, e3, e4, e5, e6]; exact ⟨by simp, by simp, by simp⟩
        have HS5 : Hid (Sl 0 3 W5 (.slice o3 0 c3) (ints []) ∧ Sl 0 3 W5 (.slice o4 0 c4) (ints [])) := by rw [e3, e4, e5, e6]; exact ⟨Sl.nil _ _ _, Sl.nil _ _ _⟩
        have HB5 : Hid (Below w.heap.size w W5) := by rw [hW5]; exact HB5a.out.alloc HB5a.out.size _
        clear hW5 hTB e3 e4 e5 e6 hcc5
        refine (HBT2.out W5 HB5.out).mono ?_
        rintro e w6 ⟨o1, c1, o2, c2, rfl, ⟨g1, g2⟩, hb6⟩
        have HB6 : Hid (Below w.heap.size w w6) := HB5.out.trans (hb6.mono HB5.out.size)
        have t0 : w6.cell? ⟨TB, 0, none⟩ = some (.slice o3 (0) c3) := (hb6.cell (lt_of_cell HT5.out.1)).trans HT5.out.1
        have t1 : w6.cell? ⟨TB, 1, none⟩ = some (.slice o4 (0) c4) := (hb6.cell (lt_of_cell HT5.out.2.1)).trans HT5.out.2.1
        have t2 : w6.cell? ⟨TB, 2, none⟩ = some (.int .i64 (0)) := (hb6.cell (lt_of_cell HT5.out.2.2)).trans HT5.out.2.2
        have s3 := HS5.out.1.below hb6 (Nat.le_refl _)
        have s4 := HS5.out.2.below hb6 (Nat.le_refl _)
        obtain ⟨W7, hW7⟩ : ∃ W7, W7 = w6.alloc (.cells #[.slice o1 (0) c1, .slice o2 (0) c2, .int .i64 (0)] 35) := ⟨_, rfl⟩
        obtain ⟨UB, hUB⟩ : ∃ UB, UB = w6.heap.size := ⟨_, rfl⟩
        have hb7 : Below w6.heap.size w6 W7 := by rw [hW7]; exact alloc_keep _ _
        have HF7 : Hid (∀ n, (((W7.drewN n).cell? ⟨TB, 0, none⟩ = some (.slice o3 (0) c3) ∧ (W7.drewN n).cell? ⟨TB, 1, none⟩ = some (.slice o4 (0) c4) ∧ (W7.drewN n).cell? ⟨TB, 2, none⟩ = some (.int .i64 (0))) ∧ ((W7.drewN n).cell? ⟨UB, 0, none⟩ = some (.slice o1 (0) c1) ∧ (W7.drewN n).cell? ⟨UB, 1, none⟩ = some (.slice o2 (0) c2) ∧ (W7.drewN n).cell? ⟨UB, 2, none⟩ = some (.int .i64 (0)))) ∧ (Sl 0 3 (W7.drewN n) (.slice o1 (0) c1) (ints ([])) ∧ Sl 0 3 (W7.drewN n) (.slice o2 (0) c2) (ints ([])) ∧ Sl 0 3 (W7.drewN n) (.slice o3 (0) c3) (ints ([])) ∧ Sl 0 3 (W7.drewN n) (.slice o4 (0) c4) (ints ([]))) ∧ Below w.heap.size w (W7.drewN n)) := by
          intro n
          have hn : Below W7.heap.size W7 (W7.drewN n) := bel_drewC (Below.refl _ _) n
          have hbn : Below w6.heap.size w6 (W7.drewN n) := hb7.trans (hn.mono hb7.size)
          refine ⟨⟨⟨(hbn.cell (lt_of_cell t0)).trans t0, (hbn.cell (lt_of_cell t1)).trans t1, (hbn.cell (lt_of_cell t2)).trans t2⟩, ?_⟩, ⟨g1.below hbn (Nat.le_refl _), g2.below hbn (Nat.le_refl _), s3.below hbn (Nat.le_refl _), s4.below hbn (Nat.le_refl _)⟩, HB6.out.trans (hbn.mono HB6.out.size)⟩
          have u0 : W7.cell? ⟨UB, 0, none⟩ = some (.slice o1 (0) c1) := by rw [hW7, hUB]; simp
          have u1 : W7.cell? ⟨UB, 1, none⟩ = some (.slice o2 (0) c2) := by rw [hW7, hUB]; simp
          have u2 : W7.cell? ⟨UB, 2, none⟩ = some (.int .i64 (0)) := by rw [hW7, hUB]; simp
          exact ⟨(hn.cell (lt_of_cell u0)).trans u0, (hn.cell (lt_of_cell u1)).trans u1, (hn.cell (lt_of_cell u2)).trans u2⟩
        clear t0 t1 t2 s3 s4 g1 g2 hb6 hb7 HT5 HS5 HBT2
        have u0 : W7.cell? ⟨UB, 0, none⟩ = some (.slice o1 (0) c1) := (HF7.out 0).1.2.1
        have u1 : W7.cell? ⟨UB, 1, none⟩ = some (.slice o2 (0) c2) := (HF7.out 0).1.2.2.1
        have u2 : W7.cell? ⟨UB, 2, none⟩ = some (.int .i64 (0)) := (HF7.out 0).1.2.2.2
        have t0 : W7.cell? ⟨TB, 0, none⟩ = some (.slice o3 (0) c3) := (HF7.out 0).1.1.1
        have t1 : W7.cell? ⟨TB, 1, none⟩ = some (.slice o4 (0) c4) := (HF7.out 0).1.1.2.1
        have t2 : W7.cell? ⟨TB, 2, none⟩ = some (.int .i64 (0)) := (HF7.out 0).1.1.2.2
        rw [hW7, hUB] at u0 u1 u2
        rw [hW7] at t0 t1 t2
        have hUU : ((0 : Int) == (0 : Int)) = true := by simp
        have hBB : ((false : Bool) == (false : Bool)) = true := by simp
        go_wp2_with fail
        rw [← hW7]
        clear t0 t1 t2 u0 u1 u2
        refine (HSA.out ([]) _ _ W7 (HF7.out 0).2.1.1 (HF7.out 0).2.1.2.2.1).mono ?_
        rintro e w8 ⟨rfl, n8, hw8⟩
        have u1 : w8.cell? ⟨UB, 1, none⟩ = some (.slice o2 (0) c2) := by rw [hw8]; exact (HF7.out n8).1.2.2.1
        have t1 : w8.cell? ⟨TB, 1, none⟩ = some (.slice o4 (0) c4) := by rw [hw8]; exact (HF7.out n8).1.1.2.1
        rw [hUB] at u1
        have HW8 : Hid (w8 = W7.drewN n8) := hw8
        clear hw8
        go_wp2_with fail
        refine (HSA.out ([]) _ _ w8 (by rw [HW8.out]; exact (HF7.out n8).2.1.2.1) (by rw [HW8.out]; exact (HF7.out n8).2.1.2.2.2)).mono ?_
        rintro e w9 ⟨rfl, n9, hw9⟩
        have hw9' : w9 = W7.drewN (n8 + n9) := by rw [hw9, HW8.out, World.drewN_drewN]
        have u2 : w9.cell? ⟨UB, 2, none⟩ = some (.int .i64 (0)) := by rw [hw9']; exact (HF7.out _).1.2.2.2
        have t2 : w9.cell? ⟨TB, 2, none⟩ = some (.int .i64 (0)) := by rw [hw9']; exact (HF7.out _).1.1.2.2
        rw [hUB] at u2
        have HB9 : Hid (Below w.heap.size w w9) := by rw [hw9']; exact (HF7.out _).2.2
        clear hw9 hw9' t1 u1
        go_wp2
        go_ret
        exact ⟨rfl, HB9.out⟩
  · have HRE : Hid (radE p = pmE p) := if_pos hq
    have HRL : Hid (radL p = []) := if_neg (by rw [HRE.out]; exact hq)
    have HBE : Hid (btwE p x = pmE p) := if_pos hq
    have HZP : Hid (bvP p x = []) := if_neg (by rw [HBE.out]; exact hq)
    have HZQ : Hid (bvQ p x = []) := if_neg (by rw [HBE.out]; exact hq)
    have HZU : Hid (bvU p x = 0) := if_neg (by rw [HBE.out]; exact hq)
    have HZB : Hid (bvB p x = false) := if_neg (by rw [HBE.out]; exact hq)
    have HRD2 : Hid (∀ W', Below w.heap.size w W' → Calls Try.prog 9 #[.slice ao p.length cap] W' fun e w' => ∃ ro rc, e = .returned (.tuple #[.slice ro 0 rc, .int .i64 (pmE p)]) ∧ Sl 0 3 w' (.slice ro 0 rc) (ints []) ∧ Below W'.heap.size W' w') := fun W' hB => by
      refine (HRD.out W' hB).mono ?_
      rintro e w' ⟨r, rfl, hr, hb⟩
      rw [HRL.out] at hr
      obtain ⟨ro, rc, rfl, _, _⟩ := sl_open hr
      exact ⟨ro, rc, by rw [HRE.out]; rfl, hr, hb⟩
    have HBT2 : Hid (∀ W', Below w.heap.size w W' → Calls Try.prog 14 #[.slice ao p.length cap, .slice xo x.length xc] W' fun e w' => ∃ o1 c1 o2 c2, e = .returned (.tuple #[.agg #[.slice o1 0 c1, .slice o2 0 c2, .int .i64 0], .bool false, .int .i64 (pmE p)]) ∧ (Sl 0 3 w' (.slice o1 0 c1) (ints []) ∧ Sl 0 3 w' (.slice o2 0 c2) (ints [])) ∧ Below W'.heap.size W' w') := fun W' hB => by
      have h := HBT.out W' hB
      rw [HZP.out, HZQ.out, HZU.out, HZB.out, HBE.out] at h
      refine h.mono ?_
      rintro e w' ⟨tv, rfl, ⟨o1, c1, o2, c2, rfl, g1, g2⟩, hb⟩
      exact ⟨o1, c1, o2, c2, rfl, ⟨g1, g2⟩, hb⟩
    have hqb : (pmE p == 0) = false := by simpa using hq
    have hqq : (pmE p != pmE p) = false := by simp
    have hqe : (pmE p == pmE p) = true := by simp
    have HQ : Hid (pmE p ≠ 0) := hq
    clear hq HRD HBT HRE HRL HBE HZP HZQ HZU HZB
    generalize pmE p = q at *
    go_wp2_with fail
    refine (HRD2.out w1 HB1.out).mono ?_
    rintro e w2 ⟨ro, rc, rfl, hr, hb2⟩
    have HR : Hid (Sl 0 3 w2 (.slice ro 0 rc) (ints [])) := hr
    have HB2 : Hid (Below w.heap.size w w2) := HB1.out.trans (hb2.mono HB1.out.size)
    clear hr hb2 HRD2
    go_wp2_with fail
    refine (HCK.out w2 HB2.out).mono ?_
    rintro e w3 ⟨rfl, hb3⟩
    have HR3 : Hid (Sl 0 3 w3 (.slice ro 0 rc) (ints [])) := HR.out.below hb3 (Nat.le_refl _)
    have HB3 : Hid (Below w.heap.size w w3) := HB2.out.trans (hb3.mono HB2.out.size)
    clear hb3 HCK HR
    go_wp2_with fail
    refine (HLI.out q [] [] _ _ w3 HR3.out (Sl.nil _ _ _) (fun _ => rfl) (fun _ => rfl)).mono ?_
    rintro e w4 ⟨rfl, hb4⟩
    have HB4 : Hid (Below w.heap.size w w4) := HB3.out.trans (hb4.mono HB3.out.size)
    clear hb4 HLI HR3
    go_wp2_with fail
    obtain ⟨TB, hTB⟩ : ∃ TB, TB = w4.heap.size := ⟨_, rfl⟩
    obtain ⟨W5, hW5⟩ : ∃ W5, W5 = w4.alloc (.cells #[.slice none 0 0, .slice none 0 0, .int .i64 0] 35) := ⟨_, rfl⟩
    rw [← hW5, ← hTB]
    obtain ⟨o3, c3, o4, c4, e3, e4, e5, e6⟩ : ∃ (o3 : Option Addr) (c3 : Nat) (o4 : Option Addr) (c4 : Nat), o3 = none ∧ c3 = 0 ∧ o4 = none ∧ c4 = 0 := ⟨_, _, _, _, rfl, rfl, rfl, rfl⟩
    have HT5 : Hid (W5.cell? ⟨TB, 0, none⟩ = some (.slice o3 0 c3) ∧ W5.cell? ⟨TB, 1, none⟩ = some (.slice o4 0 c4) ∧ W5.cell? ⟨TB, 2, none⟩ = some (.int .i64 0)) := by
      rw [hW5, hTB, e3, e4, e5, e6]; exact ⟨by simp, by simp, by simp⟩
    have HS5 : Hid (Sl 0 3 W5 (.slice o3 0 c3) (ints []) ∧ Sl 0 3 W5 (.slice o4 0 c4) (ints [])) := by rw [e3, e4, e5, e6]; exact ⟨Sl.nil _ _ _, Sl.nil _ _ _⟩
    have HB5 : Hid (Below w.heap.size w W5) := by rw [hW5]; exact HB4.out.alloc HB4.out.size _
    clear hW5 hTB e3 e4 e5 e6
    refine (HBT2.out W5 HB5.out).mono ?_
    rintro e w6 ⟨o1, c1, o2, c2, rfl, ⟨g1, g2⟩, hb6⟩
    have HB6 : Hid (Below w.heap.size w w6) := HB5.out.trans (hb6.mono HB5.out.size)
    have t0 : w6.cell? ⟨TB, 0, none⟩ = some (.slice o3 (0) c3) := (hb6.cell (lt_of_cell HT5.out.1)).trans HT5.out.1
    have t1 : w6.cell? ⟨TB, 1, none⟩ = some (.slice o4 (0) c4) := (hb6.cell (lt_of_cell HT5.out.2.1)).trans HT5.out.2.1
    have t2 : w6.cell? ⟨TB, 2, none⟩ = some (.int .i64 (0)) := (hb6.cell (lt_of_cell HT5.out.2.2)).trans HT5.out.2.2
    have s3 := HS5.out.1.below hb6 (Nat.le_refl _)
    have s4 := HS5.out.2.below hb6 (Nat.le_refl _)
    obtain ⟨W7, hW7⟩ : ∃ W7, W7 = w6.alloc (.cells #[.slice o1 (0) c1, .slice o2 (0) c2, .int .i64 (0)] 35) := ⟨_, rfl⟩
    obtain ⟨UB, hUB⟩ : ∃ UB, UB = w6.heap.size := ⟨_, rfl⟩
    have hb7 : Below w6.heap.size w6 W7 := by rw [hW7]; exact alloc_keep _ _
    have HF7 : Hid (∀ n, (((W7.drewN n).cell? ⟨TB, 0, none⟩ = some (.slice o3 (0) c3) ∧ (W7.drewN n).cell? ⟨TB, 1, none⟩ = some (.slice o4 (0) c4) ∧ (W7.drewN n).cell? ⟨TB, 2, none⟩ = some (.int .i64 (0))) ∧ ((W7.drewN n).cell? ⟨UB, 0, none⟩ = some (.slice o1 (0) c1) ∧ (W7.drewN n).cell? ⟨UB, 1, none⟩ = some (.slice o2 (0) c2) ∧ (W7.drewN n).cell? ⟨UB, 2, none⟩ = some (.int .i64 (0)))) ∧ (Sl 0 3 (W7.drewN n) (.slice o1 (0) c1) (ints ([])) ∧ Sl 0 3 (W7.drewN n) (.slice o2 (0) c2) (ints ([])) ∧ Sl 0 3 (W7.drewN n) (.slice o3 (0) c3) (ints ([])) ∧ Sl 0 3 (W7.drewN n) (.slice o4 (0) c4) (ints ([]))) ∧ Below w.heap.size w (W7.drewN n)) := by
      intro n
      have hn : Below W7.heap.size W7 (W7.drewN n) := bel_drewC (Below.refl _ _) n
      have hbn : Below w6.heap.size w6 (W7.drewN n) := hb7.trans (hn.mono hb7.size)
      refine ⟨⟨⟨(hbn.cell (lt_of_cell t0)).trans t0, (hbn.cell (lt_of_cell t1)).trans t1, (hbn.cell (lt_of_cell t2)).trans t2⟩, ?_⟩, ⟨g1.below hbn (Nat.le_refl _), g2.below hbn (Nat.le_refl _), s3.below hbn (Nat.le_refl _), s4.below hbn (Nat.le_refl _)⟩, HB6.out.trans (hbn.mono HB6.out.size)⟩
      have u0 : W7.cell? ⟨UB, 0, none⟩ = some (.slice o1 (0) c1) := by rw [hW7, hUB]; simp
      have u1 : W7.cell? ⟨UB, 1, none⟩ = some (.slice o2 (0) c2) := by rw [hW7, hUB]; simp
      have u2 : W7.cell? ⟨UB, 2, none⟩ = some (.int .i64 (0)) := by rw [hW7, hUB]; simp
      exact ⟨(hn.cell (lt_of_cell u0)).trans u0, (hn.cell (lt_of_cell u1)).trans u1, (hn.cell (lt_of_cell u2)).trans u2⟩
    clear t0 t1 t2 s3 s4 g1 g2 hb6 hb7 HT5 HS5 HBT2
    have u0 : W7.cell? ⟨UB, 0, none⟩ = some (.slice o1 (0) c1) := (HF7.out 0).1.2.1
    have u1 : W7.cell? ⟨UB, 1, none⟩ = some (.slice o2 (0) c2) := (HF7.out 0).1.2.2.1
    have u2 : W7.cell? ⟨UB, 2, none⟩ = some (.int .i64 (0)) := (HF7.out 0).1.2.2.2
    have t0 : W7.cell? ⟨TB, 0, none⟩ = some (.slice o3 (0) c3) := (HF7.out 0).1.1.1
    have t1 : W7.cell? ⟨TB, 1, none⟩ = some (.slice o4 (0) c4) := (HF7.out 0).1.1.2.1
    have t2 : W7.cell? ⟨TB, 2, none⟩ = some (.int .i64 (0)) := (HF7.out 0).1.1.2.2
    rw [hW7, hUB] at u0 u1 u2
    rw [hW7] at t0 t1 t2
    have hUU : ((0 : Int) == (0 : Int)) = true := by simp
    have hBB : ((false : Bool) == (false : Bool)) = true := by simp
    go_wp2_with fail
    rw [← hW7]
    clear t0 t1 t2 u0 u1 u2
    refine (HSA.out ([]) _ _ W7 (HF7.out 0).2.1.1 (HF7.out 0).2.1.2.2.1).mono ?_
    rintro e w8 ⟨rfl, n8, hw8⟩
    have u1 : w8.cell? ⟨UB, 1, none⟩ = some (.slice o2 (0) c2) := by rw [hw8]; exact (HF7.out n8).1.2.2.1
    have t1 : w8.cell? ⟨TB, 1, none⟩ = some (.slice o4 (0) c4) := by rw [hw8]; exact (HF7.out n8).1.1.2.1
    rw [hUB] at u1
    have HW8 : Hid (w8 = W7.drewN n8) := hw8
    clear hw8
    go_wp2_with fail
    refine (HSA.out ([]) _ _ w8 (by rw [HW8.out]; exact (HF7.out n8).2.1.2.1) (by rw [HW8.out]; exact (HF7.out n8).2.1.2.2.2)).mono ?_
    rintro e w9 ⟨rfl, n9, hw9⟩
    have hw9' : w9 = W7.drewN (n8 + n9) := by rw [hw9, HW8.out, World.drewN_drewN]
    have u2 : w9.cell? ⟨UB, 2, none⟩ = some (.int .i64 (0)) := by rw [hw9']; exact (HF7.out _).1.2.2.2
    have t2 : w9.cell? ⟨TB, 2, none⟩ = some (.int .i64 (0)) := by rw [hw9']; exact (HF7.out _).1.1.2.2
    rw [hUB] at u2
    have HB9 : Hid (Below w.heap.size w w9) := by rw [hw9']; exact (HF7.out _).2.2
    clear hw9 hw9' t1 u1
    go_wp2
    go_ret
    exact ⟨rfl, HB9.out⟩

end Go.Proofs.Ytmpbkdfknpokeaa
