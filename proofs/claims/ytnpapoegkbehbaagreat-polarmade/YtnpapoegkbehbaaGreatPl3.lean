/- polar.Corners, Whole, Turn of points around 0. -/
import Derived.Test.YtnpapoegkbehbaaGreatPl2
import Derived.Test.YtnpapoegkbehbaaGreatPl0
import Derived.Test.YtnpapoegkbehbaaGreatBetY
import Derived.Test.YtnpapoegkbehbaaGreatMade1
import Derived.Deep.Onto
import Derived.Maps.AppendAt
namespace Go.Proofs.YtnpapoegkbehbaaGreat
open Go.RowKit
attribute [local go_sem ↓] Go.wp_at_zero Go.wp_at_succ

set_option maxRecDepth 100000 in
set_option maxHeartbeats 400000 in
theorem corners_any (d : Nat) (P q : List (List Int)) (v : Value) (w : World) (hv : Mat w.heap.size 22 3 w v P) (hG : PlG d P q) :
    Calls Tryz.prog 10 #[.agg #[.int .i64 d, v]] w fun e w' => ∃ uo uc, e = .returned (.tuple #[.slice uo q.length uc, .int .i64 0]) ∧ Fr w.heap.size 22 3 w' (.slice uo q.length uc) q ∧ Below w.heap.size w w' := by
  obtain ⟨ao, cap, hvv, hlc, hcm⟩ := mat_open hv
  obtain ⟨vl, hvl⟩ : ∃ vl, vl = P.length := ⟨_, rfl⟩
  rw [← hvl] at hvv
  subst hvv
  obtain ⟨W, hW⟩ : ∃ W, W = w.alloc (.cells #[.int .i64 d, .slice ao vl cap] 26) := ⟨_, rfl⟩
  have hbw : Below w.heap.size w W := by rw [hW]; exact (Below.refl _ _).alloc (Nat.le_refl _) _
  have hsW : W.heap.size = w.heap.size + 1 := by rw [hW]; simp
  have HR : Hid (Calls Tryz.prog 24 #[.agg #[.int .i64 d, .slice ao vl cap]] W fun e w' => ∃ uo uc, e = .returned (.tuple #[.slice uo q.length uc, .int .i64 0]) ∧ (Fr w.heap.size 22 3 w' (.slice uo q.length uc) q ∧ Below w.heap.size w w')) :=
    (raz_any d P q _ W ((hv.below hbw (Nat.le_refl _)).any (by omega)) hG).mono fun e w' ⟨uo, uc, h1, h2, h3⟩ => ⟨uo, uc, h1, h2.mono (by omega), hbw.trans (h3.mono (by omega))⟩
  clear hv hG hbw hsW hvl
  generalize q.length = ql at *
  go_enter Tryz.func10, Tryz.ntmps10
  go_wp2_with fail
  rw [← hW]
  clear hW
  refine HR.out.mono ?_
  rintro e w1 ⟨uo, uc, rfl, hf⟩
  have HF : Hid (Fr w.heap.size 22 3 w1 (.slice uo ql uc) q ∧ Below w.heap.size w w1) := hf
  clear hf HR
  go_wp2
  go_ret2
  exact ⟨_, _, rfl, HF.out⟩

set_option maxRecDepth 100000 in
set_option maxHeartbeats 400000 in
theorem whole_any (d : Nat) (P q : List (List Int)) (v : Value) (w : World) (hv : Mat w.heap.size 22 3 w v P) (hG : PlG d P q) :
    Calls Tryz.prog 11 #[.agg #[.int .i64 d, v]] w fun e w' => e = .returned (.tuple #[.bool (allOne d q), .int .i64 0]) ∧ Below w.heap.size w w' := by
  obtain ⟨ao, cap, hvv, hlc, hcm⟩ := mat_open hv
  obtain ⟨vl, hvl⟩ : ∃ vl, vl = P.length := ⟨_, rfl⟩
  rw [← hvl] at hvv
  subst hvv
  obtain ⟨W, hW⟩ : ∃ W, W = w.alloc (.cells #[.int .i64 d, .slice ao vl cap] 26) := ⟨_, rfl⟩
  have hbw : Below w.heap.size w W := by rw [hW]; exact (Below.refl _ _).alloc (Nat.le_refl _) _
  have hsW : W.heap.size = w.heap.size + 1 := by rw [hW]; simp
  have HR : Hid (Calls Tryz.prog 24 #[.agg #[.int .i64 d, .slice ao vl cap]] W fun e w' => ∃ uo ql uc, e = .returned (.tuple #[.slice uo ql uc, .int .i64 0]) ∧ Below w.heap.size w w' ∧ Calls Tryz.prog 25 #[.slice uo ql uc] w' fun e w'' => e = .returned (.bool (allOne d q)) ∧ Below w.heap.size w w'') :=
    (raz_any d P q _ W ((hv.below hbw (Nat.le_refl _)).any (by omega)) hG).mono fun e w' ⟨uo, uc, h1, h2, h3⟩ => by
      have hb : Below w.heap.size w w' := hbw.trans (h3.mono (by omega))
      exact ⟨uo, _, uc, h1, hb, (areWhole_any d q _ w' (h2.rws.mat h3.size) hG.d3 (fun r hr => hG.len hr)).mono fun e w'' ⟨k1, k2⟩ => ⟨k1, hb.trans (k2.mono hb.size)⟩⟩
  clear hv hG hbw hsW hvl
  generalize allOne d q = bb at *
  go_enter Tryz.func11, Tryz.ntmps11
  go_wp2_with fail
  rw [← hW]
  clear hW
  refine HR.out.mono ?_
  rintro e w1 ⟨uo, ql, uc, rfl, hb, hc⟩
  have HC : Hid (Calls Tryz.prog 25 #[.slice uo ql uc] w1 fun e w'' => e = .returned (.bool bb) ∧ Below w.heap.size w w'') := hc
  clear hb hc HR
  go_wp2_with fail
  refine HC.out.mono ?_
  rintro e w2 ⟨rfl, hb2⟩
  have HB : Hid (Below w.heap.size w w2) := hb2
  clear hb2 HC
  go_wp2
  go_ret2
  exact ⟨rfl, HB.out⟩

/-- The rows, without their last numbers. -/
def lessL (d : Nat) (q : List (List Int)) : List (List Int) := q.map fun r => r.take d
theorem lessL_len (d : Nat) (q : List (List Int)) : (lessL d q).length = q.length := by simp [lessL]
theorem lessL_snoc (d : Nat) (q : List (List Int)) (k : Nat) (h : k < q.length) : lessL d (q.take (k + 1)) = lessL d (q.take k) ++ [(q.getD k []).take d] := by
  unfold lessL
  rw [List.take_succ_eq_append_getElem h, List.map_append, show q.getD k [] = q[k] by simp [h]]
  rfl

set_option maxRecDepth 100000 in
set_option maxHeartbeats 3200000 in
theorem polarTurn_any (d : Nat) (P q : List (List Int)) (v : Value) (w : World) (hv : Mat w.heap.size 22 3 w v P) (hG : PlG d P q) :
    Calls Tryz.prog 13 #[.agg #[.int .i64 d, v]] w fun e w' => (allOne d q = true → ∃ uo ul uc, e = .returned (.tuple #[.agg #[.int .i64 d, .slice uo ul uc], .int .i64 0]) ∧ ul = q.length ∧ Mat 0 22 3 w' (.slice uo ul uc) (lessL d q)) ∧ (allOne d q = false → e = .returned (.tuple #[.agg #[.int .i64 0, .slice none 0 0], .int .i64 3])) ∧ Below w.heap.size w w' := by
  obtain ⟨i0, hi0, hz0, hz1, hz2⟩ := info_parts infoSlN
  obtain ⟨ao, cap, hvv, hlc, hcm⟩ := mat_open hv
  obtain ⟨vl, hvl⟩ : ∃ vl, vl = P.length := ⟨_, rfl⟩
  rw [← hvl] at hvv
  subst hvv
  obtain ⟨g, hgd⟩ : ∃ g, g = w.heap.size := ⟨_, rfl⟩
  obtain ⟨W1, hW1⟩ : ∃ W1, W1 = w.alloc (.cells #[.int .i64 d, .slice ao vl cap] 26) := ⟨_, rfl⟩
  obtain ⟨W, hW⟩ : ∃ W, W = W1.alloc (.cells #[.int .i64 0, .slice none 0 0] 26) := ⟨_, rfl⟩
  have hb1 : Below w.heap.size w W1 := by rw [hW1]; exact (Below.refl _ _).alloc (Nat.le_refl _) _
  have hs1 : W1.heap.size = g + 1 := by rw [hW1, hgd]; simp
  have hbW : Below W1.heap.size W1 W := by rw [hW]; exact (Below.refl _ _).alloc (Nat.le_refl _) _
  have hsW : W.heap.size = g + 2 := by rw [hW]; simp [hs1]
  have c0 : W1.cell? ⟨g, 0, none⟩ = some (.int .i64 d) := by rw [hgd, hW1]; simp
  have c0W : W.cell? ⟨g, 0, none⟩ = some (.int .i64 d) := (hbW.cell (lt_of_cell c0)).trans c0
  have c1W : W.cell? ⟨g, 1, none⟩ = some (.slice ao vl cap) := by
    have c1 : W1.cell? ⟨g, 1, none⟩ = some (.slice ao vl cap) := by rw [hgd, hW1]; simp
    exact (hbW.cell (lt_of_cell c1)).trans c1
  have hR : W.heap[g + 1]? = some (.cells #[.int .i64 0, .slice none 0 0] 26 (0, 0)) := by rw [hW, ← hs1]; exact heap_alloc_new _ _
  have hbw : Below w.heap.size w W := hb1.trans (hbW.mono (by omega))
  have HR : Hid (Calls Tryz.prog 24 #[.agg #[.int .i64 d, .slice ao vl cap]] W fun e w' => ∃ uo uc, e = .returned (.tuple #[.slice uo q.length uc, .int .i64 0]) ∧ (Fr W.heap.size 22 3 w' (.slice uo q.length uc) q ∧ Below W.heap.size W w') ∧ Calls Tryz.prog 25 #[.slice uo q.length uc] w' fun e w'' => e = .returned (.bool (allOne d q)) ∧ (Fr W.heap.size 22 3 w'' (.slice uo q.length uc) q ∧ Below W.heap.size W w'')) :=
    (raz_any d P q _ W ((hv.below hbw (Nat.le_refl _)).any (by omega)) hG).mono fun e w' ⟨uo, uc, h1, h2, h3⟩ =>
      ⟨uo, uc, h1, ⟨h2, h3⟩, (areWhole_any d q _ w' (h2.rws.mat h3.size) hG.d3 (fun r hr => hG.len hr)).mono fun e w'' ⟨k1, k2⟩ => ⟨k1, h2.below k2 (Nat.le_refl _), h3.trans (k2.mono h3.size)⟩⟩
  have HFA : Hid (∀ W', Below W.heap.size W W' → W'.cell? ⟨g, 0, none⟩ = some (.int .i64 d) ∧ W'.heap[g + 1]? = some (.cells #[.int .i64 0, .slice none 0 0] 26 (0, 0)) ∧ Below w.heap.size w W' ∧ Below W1.heap.size W1 W') := fun W' hB => ⟨(hB.cell (lt_of_cell c0W)).trans c0W, (hB.block _ (by omega)).trans hR, hbw.trans (hB.mono (by omega)), hbW.trans (hB.mono (by omega))⟩
  have HB1 : Hid (Below w.heap.size w W1 ∧ W1.heap.size = g + 1 ∧ w.heap.size = g) := ⟨hb1, hs1, hgd.symm⟩
  have HC1 : Hid (W1.cell? ⟨g, 0, none⟩ = some (.int .i64 d)) := c0
  have HROW : Hid (∀ r ∈ q, r.length = d + 1) := fun r hr => hG.len hr
  have hql := hG.many
  have hd3 := hG.d3
  have hd1 := hG.good.d1
  have HLS : Hid (∀ k, k < q.length → lessL d (q.take (k + 1)) = lessL d (q.take k) ++ [(q.getD k []).take d]) := fun k hk => lessL_snoc d q k hk
  have HLL : Hid (∀ k, k ≤ q.length → (lessL d (q.take k)).length = k) := fun k hk => by rw [lessL_len]; simp; omega
  clear hv hG hb1 hs1 hbW hsW c0 hR hbw hvl
  go_enter Tryz.func13, Tryz.ntmps13
  go_wp2_with fail
  rw [← hW1, ← hW, ← hgd]
  clear hW1 hW hgd
  refine HR.out.mono ?_
  rintro e w3 ⟨lo, lc, rfl, hf3, hc3⟩
  have HC3 : Hid (Calls Tryz.prog 25 #[.slice lo q.length lc] w3 fun e w'' => e = .returned (.bool (allOne d q)) ∧ (Fr W.heap.size 22 3 w'' (.slice lo q.length lc) q ∧ Below W.heap.size W w'')) := hc3
  clear hf3 hc3 HR c0W c1W
  cases hbb : allOne d q with
  | false =>
    have HBB : Hid (allOne d q = false) := hbb
    rw [hbb] at HC3
    clear hbb
    go_wp2_with fail
    refine HC3.out.mono ?_
    rintro e w4 ⟨rfl, hf4, hb4⟩
    obtain ⟨k0, k1, k2, _⟩ := HFA.out w4 hb4
    have HB4 : Hid (Below w.heap.size w w4) := k2
    have r0 : w4.cell? ⟨g + 1, 0, none⟩ = some (.int .i64 0) := by simp [World.cell?, k1]
    have r1 : w4.cell? ⟨g + 1, 1, none⟩ = some (.slice none 0 0) := by simp [World.cell?, k1]
    have f0 : w4.frozen? ⟨g + 1, 0, none⟩ = false := by simp [World.frozen?, k1]
    have f1 : w4.frozen? ⟨g + 1, 1, none⟩ = false := by simp [World.frozen?, k1]
    have HBS : Hid (Below w.heap.size w ((w4.setCell ⟨g + 1, 0, none⟩ (.int .i64 0)).setCell ⟨g + 1, 1, none⟩ (.slice none 0 0))) := by
      have hg := HB1.out.2.2
      exact below_setN (below_setN k2 (by show _ ≤ g + 1; omega)) (by show _ ≤ g + 1; omega)
    clear hf4 hb4 k1 k2 HC3
    generalize q.length = ql at *
    go_wp2
    exact bodyPost_ret (v := .tuple #[.agg #[.int .i64 0, .slice none 0 0], .int .i64 3]) (by simp [results, Tryz.results13, go_sem, *]) rfl ⟨fun h => absurd h (by rw [HBB.out]; decide), fun _ => rfl, HBS.out⟩
  | true =>
    have HBB : Hid (allOne d q = true) := hbb
    rw [hbb] at HC3
    clear hbb
    go_wp2_with fail
    refine HC3.out.mono ?_
    rintro e w4 ⟨rfl, hf4, hb4⟩
    obtain ⟨k0, k1, k2, k3⟩ := HFA.out w4 hb4
    have hN := NpI.start W1 w4 (g + 1) d (by rw [HB1.out.2.1]; exact Nat.le_refl _) k1 k3
    have hbA : Below w4.heap.size w4 (w4.alloc (.cells #[.int .i64 (d : Int), .slice none 0 0] 26)) := (Below.refl _ _).alloc (Nat.le_refl _) _
    obtain ⟨Q, hQ⟩ : ∃ Q, Q = w4.heap.size := ⟨_, rfl⟩
    have hJ : NpJ W1 (g + 1) Q d (lessL d (q.take 0)) [(.slice lo q.length lc, q)] (w4.alloc (.cells #[.int .i64 (d : Int), .slice none 0 0] 26)) := by
      rw [hQ]
      refine ⟨hN, fun p hp => ?_⟩
      simp only [List.mem_singleton] at hp
      subst hp
      refine ⟨(hf4.below hbA (Nat.le_refl _)).zero, fun sv hs => ?_⟩
      simp at hs
      subst hs
      intro g' hg'
      simp [Value.ownBlock] at hg'
    have HJ0 : Hid (NpJ W1 (g + 1) Q d (lessL d (q.take 0)) [(.slice lo q.length lc, q)] (w4.alloc (.cells #[.int .i64 (d : Int), .slice none 0 0] 26))) := hJ
    obtain ⟨W5, hW5⟩ : ∃ W5, W5 = w4.alloc (.cells #[.int .i64 (d : Int), .slice none 0 0] 26) := ⟨_, rfl⟩
    rw [← hW5] at HJ0
    clear hf4 hb4 k1 k2 k3 HC3 hN hbA hJ HFA
    go_wp2
    rw [← hW5, ← hQ]
    clear hW5 hQ k0
    go_loopw [8, 27] (fun _ iv wr => ∃ k : Nat, k ≤ q.length ∧ iv = .int .i64 (k : Int) ∧ NpJ W1 (g + 1) Q d (lessL d (q.take k)) [(.slice lo q.length lc, q)] wr) (fun _ iv _ => q.length - (intOf iv).toNat)
    case atStart => exact ⟨0, Nat.zero_le _, rfl, HJ0.out⟩
    case round =>
      obtain ⟨k, hk, rfl, hj⟩ := hrel
      obtain ⟨wa, rfl⟩ : ∃ wa, wa = wr := ⟨_, rfl⟩
      have HJ : Hid (NpJ W1 (g + 1) Q d (lessL d (q.take k)) [(.slice lo q.length lc, q)] wa) := hj
      clear hj HJ0
      by_cases hlt : k < q.length
      · obtain ⟨b, o, cp, r1, hs, hc1, hcc, hr1⟩ := mat_cell ((HJ.out.oth (.slice lo q.length lc, q) (by simp)).1.rws.mat (Nat.le_refl _)) hlt
        simp only [Value.slice.injEq] at hs
        obtain ⟨rfl, -, rfl⟩ := hs
        obtain ⟨ro, rc, hrv, hrc1, hrc2⟩ := sl_open hr1
        subst hrv
        have hrc1 : (q.getD k []).length ≤ rc := hrc1
        have hrl : (q.getD k []).length = d + 1 := HROW.out _ (by simp [hlt])
        have hr0 : Sl 0 3 wa (.slice ro (q.getD k []).length rc) (ints (q.getD k [])) := hr1.more (Nat.zero_le _)
        obtain ⟨a, ha⟩ : ∃ a, ro = some a := by
          obtain ⟨ao2, c2, e, _, _, h3, _⟩ := hr0
          obtain ⟨b', o', e2, _⟩ := h3 0 (by rw [ints_length]; omega)
          simp only [Value.slice.injEq] at e
          exact ⟨_, e.1.trans e2⟩
        subst ha
        rw [hrl] at hr0 hcc hrc1
        have hsl := fun w => run_cut2 (a := a) (n := d + 1) (c := rc) (d := d) (by omega) hrc1 w
        have hcut : Sl 0 3 wa.drew (.slice (some a) d rc) (ints ((q.getD k []).take d)) := (hr0.cutN (by omega) (by omega) (by unfold maxLen; omega)).drew
        obtain ⟨sv, hbox, hfr⟩ := HJ.out.I.box
        obtain ⟨so, sc, hsv, _, _⟩ := fr_open hfr
        rw [HLL.out k hk] at hsv
        subst hsv
        have qb : wa.cell? ⟨Q, 1, none⟩ = some (.slice so k sc) := by simp [World.cell?, hbox]
        have kg : wa.cell? ⟨g, 0, none⟩ = some (.int .i64 d) := (HJ.out.I.bel.cell (p := ⟨g, 0, none⟩) (by show g < _; rw [HB1.out.2.1]; omega)).trans HC1.out
        have HQB : Hid (wa.cell? ⟨Q, 1, none⟩ = some (.slice so k sc)) := qb
        have HKG : Hid (wa.cell? ⟨g, 0, none⟩ = some (.int .i64 d)) := kg
        have HCL : Hid (Calls Tryz.prog 27 #[.slice (some a) d rc] wa.drew fun e w5 => ∃ uo uc vs, e = .returned (.slice uo d uc) ∧ w5.cell? ⟨Q, 1, none⟩ = some (.slice so k sc) ∧ (w5.alloc (.cells #[.slice uo d uc] 22)).cell? ⟨Q, 1, none⟩ = some (.slice so k sc) ∧ w5.ownsRow (Q + 1) 22 1 (.slice so k sc) k vs ∧ Q + 1 ≤ (w5.alloc (.cells #[.slice uo d uc] 22)).heap.size ∧ ∀ v' w6, w6.ownsRow (Q + 1) 22 1 v' (k + 1) (vs ++ [.slice uo d uc]) → (w5.alloc (.cells #[.slice uo d uc] 22)).grownBy w6 (Value.slice so k sc).ownBlock → (v'.ownBlock = (Value.slice so k sc).ownBlock ∨ v'.ownBlock = some (w5.heap.size + 1)) → w6.cell? ⟨Q, 1, none⟩ = some (.slice so k sc) ∧ w6.frozen? ⟨Q, 1, none⟩ = false ∧ NpJ W1 (g + 1) Q d (lessL d (q.take (k + 1))) [(.slice (some ⟨b, o, none⟩) q.length lc, q)] (w6.setCell ⟨Q, 1, none⟩ v')) := by
          have hll : ((q.getD k []).take d).length = d := by rw [List.length_take, hrl]; omega
          have hc := clone_any 0 ((q.getD k []).take d) (.slice (some a) d rc) wa.drew hcut (by omega)
          rw [hll] at hc
          refine hc.mono ?_
          rintro e w5 ⟨u, rfl, hu, hb⟩
          obtain ⟨uo, uc, rfl⟩ := owns_form hu
          have hb' : Below wa.heap.size wa w5 := ((Below.refl _ _).drew).trans hb
          obtain ⟨so2, sc2, vs, q1, q2, q3, q4⟩ := HJ.out.push hb' (Sl.own hu)
          rw [HLL.out k hk] at q1 q2 q4
          have e := (hb'.cell (lt_of_cell HQB.out)).trans HQB.out
          rw [q1] at e
          simp only [Option.some.injEq, Value.slice.injEq] at e
          obtain ⟨rfl, -, rfl⟩ := e
          rw [← HLS.out k hlt] at q4
          exact ⟨uo, uc, vs, rfl, q1, (((Below.refl w5.heap.size w5).alloc (Nat.le_refl _) _).cell (lt_of_cell q1)).trans q1, q2, by simp; omega, q4⟩
        have kI : (k : Int) < (q.length : Int) := by omega
        have kI0 : (0 : Int) ≤ (k : Int) := by omega
        clear hr1 hr0 hrl hcut hbox hfr HJ HQB HKG hrc1 hrc2
        go_wp2
        go_region_law (first
          | (refine step_call (o := { dst := some 37, op := _, type := _, pos := _, after := _, guard := _ }) (by rfl) 27 _ 22 (by rfl) _ (by rfl) ⟨_, Tryz.func27, by rfl, by rfl⟩ ?_; refine (HCL.out).mono ?_; rintro e w5 ⟨uo, uc, vs, rfl, KA, KB, q2, q3, q4⟩; refine ⟨_, rfl, ?_⟩; have KE : Hid (w5.ownsRow (Q + 1) 22 1 (.slice so k sc) k vs) := q2; have KF : Hid (Q + 1 ≤ (w5.alloc (.cells #[.slice uo d uc] 22)).heap.size) := q3; have KG : Hid _ := q4; clear q2 q3 q4)
          | (refine step_append_at (o := { dst := some 39, op := _, type := _, pos := _, after := _, guard := _ }) (by rfl) _ _ 24 (by rfl) (Q + 1) 22 i0 (.slice none 0 0) 1 24 Tryz.underlying24 hi0 hz0 hz1 hz2 rfl (by decide) _ _ _ (by rfl) (KE.out.alloc _) ⟨w5.heap.size, 0, none⟩ 1 1 [.slice uo d uc] (by rfl) rfl (one_new _ _ _) (one_slice _ _ _) (by unfold maxLen; omega) (by omega) KF.out ?_; intro v' w6 ho hg hat; obtain ⟨vo, vc, hv6⟩ := owns_form ho; subst hv6; obtain ⟨g1, g2, g3⟩ := KG.out _ w6 ho hg (by simpa using hat); have HF : Hid (NpJ W1 (g + 1) Q d (lessL d (q.take (k + 1))) [(.slice (some ⟨b, o, none⟩) q.length lc, q)] (w6.setCell ⟨Q, 1, none⟩ (.slice vo (k + 1) vc))) := g3; clear g3 ho hg hat))
        all_goals
          clear HCL
          go_wp2
          go_roundw
          case rel => exact ⟨k + 1, by omega, by go_num, HF.out⟩
          case measure => simp [intOf]; omega
      · have hke : q.length = k := by omega
        subst hke
        have HK := HJ.out.I
        rw [List.take_length] at HK
        obtain ⟨bo, bc, m0, m1, r0, r1, rf0, rf1, hmat, hbel⟩ := HK.fin
        rw [lessL_len] at m1 hmat hbel
        have HMT : Hid (Mat 0 22 3 ((wa.setCell ⟨g + 1, 0, none⟩ (.int .i64 (d : Int))).setCell ⟨g + 1, 1, none⟩ (.slice bo q.length bc)) (.slice bo q.length bc) (lessL d q)) := hmat
        have HBX : Hid (Below w.heap.size w ((wa.setCell ⟨g + 1, 0, none⟩ (.int .i64 (d : Int))).setCell ⟨g + 1, 1, none⟩ (.slice bo q.length bc))) := HB1.out.1.trans (hbel.mono (by have := HB1.out; omega))
        clear hmat hbel HJ HK
        obtain ⟨cl, hcl⟩ : ∃ cl, cl = q.length := ⟨_, rfl⟩
        have HCLL : Hid (cl = q.length) := hcl
        rw [← hcl] at HMT HBX m1 ⊢
        clear hcl
        go_wp2
        exact bodyPost_ret (v := .tuple #[.agg #[.int .i64 (d : Int), .slice bo cl bc], .int .i64 0]) (by simp [results, Tryz.results13, go_sem, *]) rfl ⟨fun _ => ⟨bo, cl, bc, rfl, HCLL.out, HMT.out⟩, fun h => absurd h (by rw [HBB.out]; decide), HBX.out⟩

end Go.Proofs.YtnpapoegkbehbaaGreat
