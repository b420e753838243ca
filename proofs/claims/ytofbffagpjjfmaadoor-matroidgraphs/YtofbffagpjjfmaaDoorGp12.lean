/- matroid.Graph. -/
import Derived.Test.YtofbffagpjjfmaaDoorGp11
import Derived.Test.YtofbffagpjjfmaaDoorGp4
namespace Go.Proofs.YtofbffagpjjfmaaDoor
open Go.RowKit
attribute [local go_sem ↓] Go.wp_at_zero Go.wp_at_succ

/-- What Graph gives: how many things, and the bases. -/
def gmN (n : Int) (zs : List (Int × Int)) : Int := if gmE n zs = 0 then (zs.length : Int) else 0

def gmB (n : Int) (zs : List (Int × Int)) : List Int := if gmE n zs = 0 then grB (ntE zs) else []

/-- Graph's three boxes. -/
structure GrX (w : World) (n : Int) (v : Value) (W : World) : Prop where
  b0 : W.heap[w.heap.size]? = some (.cells #[.int .i64 n] 3 (0, 0))
  b1 : W.heap[w.heap.size + 1]? = some (.cells #[v] 22 (0, 0))
  b2 : W.heap[w.heap.size + 1 + 1]? = some (.cells #[.int .i64 0, .slice none 0 0] 27 (0, 0))
  bel : Below w.heap.size w W
  sz : w.heap.size + 3 ≤ W.heap.size

theorem GrX.next {w : World} {n : Int} {v : Value} {W W' : World} (h : GrX w n v W) (hb : Below W.heap.size W W') : GrX w n v W' := by
  have := h.sz
  exact ⟨(hb.block _ (by omega)).trans h.b0, (hb.block _ (by omega)).trans h.b1, (hb.block _ (by omega)).trans h.b2, h.bel.trans (hb.mono (by omega)), by have := hb.size; omega⟩

theorem GrX.start (w : World) (n : Int) (v : Value) : GrX w n v (((w.alloc (.cells #[.int .i64 n] 3)).alloc (.cells #[v] 22)).alloc (.cells #[.int .i64 0, .slice none 0 0] 27)) := by
  have s1 : (w.alloc (.cells #[.int .i64 n] 3)).heap.size = w.heap.size + 1 := by simp
  have s2 : ((w.alloc (.cells #[.int .i64 n] 3)).alloc (.cells #[v] 22)).heap.size = w.heap.size + 1 + 1 := by simp
  refine ⟨?_, ?_, ?_, ?_, by simp⟩
  · refine (Below.heap_alloc _ _ _ (by omega)).trans ((Below.heap_alloc _ _ _ (by omega)).trans (heap_alloc_new w _))
  · refine (Below.heap_alloc _ _ _ (by omega)).trans ?_
    rw [← s1]; exact heap_alloc_new _ _
  · rw [← s2]; exact heap_alloc_new _ _
  · exact (((Below.refl _ _).alloc (Nat.le_refl _) _).alloc (by omega) _).alloc (by omega) _

/-- The result's box, written. -/
theorem GrX.res {w : World} {n : Int} {v : Value} {W : World} (h : GrX w n v W) (x : Int) (u : Value) : Below w.heap.size w ((W.setCell ⟨w.heap.size + 1 + 1, 0, none⟩ (.int .i64 x)).setCell ⟨w.heap.size + 1 + 1, 1, none⟩ u) ∧ ((W.setCell ⟨w.heap.size + 1 + 1, 0, none⟩ (.int .i64 x)).setCell ⟨w.heap.size + 1 + 1, 1, none⟩ u).heap[w.heap.size + 1 + 1]? = some (.cells #[.int .i64 x, u] 27 (0, 0)) :=
  ⟨(h.bel.setCell (by show _ ≤ w.heap.size + 1 + 1; omega) _).setCell (by show _ ≤ w.heap.size + 1 + 1; omega) _, by simp [World.setCell, Array.getElem?_modify, h.b2]⟩

set_option maxRecDepth 100000 in
set_option maxHeartbeats 1600000 in
theorem graph_any (n : Int) (zs : List (Int × Int)) (v : Value) (w : World) (hv : Pri w v zs) (hl : zs.length ≤ 1000000) (hT : TabB w) :
    Calls Tryd.prog 6 #[.int .i64 n, v] w fun e w' => ∃ u, e = .returned (.tuple #[.agg #[.int .i64 (gmN n zs), u], .int .i64 (gmE n zs)]) ∧ Sl 0 3 w' u (ints (gmB n zs)) ∧ Below w.heap.size w w' := by
  have HPV : Hid (Pri w v zs) := hv
  obtain ⟨po, pc, rfl, hc⟩ := hv
  have HC : Hid (∀ i, i < zs.length → ∃ b o, po = some ⟨b, o, none⟩ ∧ w.cell? ⟨b, o + i * 2, none⟩ = some (.int .i64 (zs.getD i (0, 0)).1) ∧ w.cell? ⟨b, o + i * 2 + 1, none⟩ = some (.int .i64 (zs.getD i (0, 0)).2)) := hc
  clear hc
  obtain ⟨W, hW⟩ : ∃ W, W = ((w.alloc (.cells #[.int .i64 n] 3)).alloc (.cells #[.slice po zs.length pc] 22)).alloc (.cells #[.int .i64 0, .slice none 0 0] 27) := ⟨_, rfl⟩
  have HX : Hid (GrX w n (.slice po zs.length pc) W) := by rw [hW]; exact GrX.start _ _ _
  have HWW : Hid (W = ((w.alloc (.cells #[.int .i64 n] 3)).alloc (.cells #[.slice po zs.length pc] 22)).alloc (.cells #[.int .i64 0, .slice none 0 0] 27)) := hW
  clear hW
  have g0 : (((w.alloc (.cells #[.int .i64 n] 3)).alloc (.cells #[.slice po zs.length pc] 22)).alloc (.cells #[.int .i64 0, .slice none 0 0] 27)).cell? ⟨w.heap.size, 0, none⟩ = some (.int .i64 n) := by rw [← HWW.out]; simp [World.cell?, HX.out.b0]
  have g1 : (((w.alloc (.cells #[.int .i64 n] 3)).alloc (.cells #[.slice po zs.length pc] 22)).alloc (.cells #[.int .i64 0, .slice none 0 0] 27)).cell? ⟨w.heap.size + 1, 0, none⟩ = some (.slice po zs.length pc) := by rw [← HWW.out]; simp [World.cell?, HX.out.b1]
  have HERR : Hid (∀ (W9 : World) (E : Int), Below w.heap.size w W9 → gmE n zs = E → E ≠ 0 → (∃ u, Ending.returned (.tuple #[.agg #[.int .i64 0, .slice none 0 0], .int .i64 E]) = .returned (.tuple #[.agg #[.int .i64 (gmN n zs), u], .int .i64 (gmE n zs)]) ∧ Sl 0 3 W9 u (ints (gmB n zs)) ∧ Below w.heap.size w W9)) := fun W9 E hb hE h0 => by
    refine ⟨.slice none 0 0, ?_, ?_, hb⟩
    · unfold gmN; rw [hE, if_neg h0]
    · unfold gmB; rw [hE, if_neg h0]; exact Sl.nil _ _ _
  have x0 : W.cell? ⟨w.heap.size + 1 + 1, 0, none⟩ = some (.int .i64 0) := by simp [World.cell?, HX.out.b2]
  have x1 : W.cell? ⟨w.heap.size + 1 + 1, 1, none⟩ = some (.slice none 0 0) := by simp [World.cell?, HX.out.b2]
  have HX0 : Hid (W.cell? ⟨w.heap.size + 1 + 1, 0, none⟩ = some (.int .i64 0) ∧ W.cell? ⟨w.heap.size + 1 + 1, 1, none⟩ = some (.slice none 0 0)) := ⟨x0, x1⟩
  clear x0 x1
  by_cases h1 : n < 1
  · have HE : Hid (gmE n zs = 11) := if_pos (Or.inl h1)
    go_enter Tryd.func6, Tryd.ntmps6
    go_wp2
    rw [← HWW.out]
    exact bodyPost_ret (v := .tuple #[.agg #[.int .i64 0, .slice none 0 0], .int .i64 11]) (by simp [results, Tryd.results6, go_sem, HX0.out]) rfl (HERR.out _ _ HX.out.bel HE.out (by decide))
  by_cases h2 : 7 < n
  · have HE : Hid (gmE n zs = 11) := if_pos (Or.inr (Or.inl h2))
    go_enter Tryd.func6, Tryd.ntmps6
    go_wp2
    rw [← HWW.out]
    exact bodyPost_ret (v := .tuple #[.agg #[.int .i64 0, .slice none 0 0], .int .i64 11]) (by simp [results, Tryd.results6, go_sem, HX0.out]) rfl (HERR.out _ _ HX.out.bel HE.out (by decide))
  by_cases h3 : 8 < zs.length
  · have HE : Hid (gmE n zs = 11) := if_pos (Or.inr (Or.inr h3))
    have h3' : (8 : Int) < (zs.length : Int) := by omega
    go_enter Tryd.func6, Tryd.ntmps6
    go_wp2
    rw [← HWW.out]
    exact bodyPost_ret (v := .tuple #[.agg #[.int .i64 0, .slice none 0 0], .int .i64 11]) (by simp [results, Tryd.results6, go_sem, HX0.out]) rfl (HERR.out _ _ HX.out.bel HE.out (by decide))
  have HE : Hid (gmE n zs = if zs.all (edB n) then 0 else 9) := if_neg (by omega)
  have h3' : ¬ (8 : Int) < (zs.length : Int) := by omega
  go_enter Tryd.func6, Tryd.ntmps6
  go_wp2
  rw [← HWW.out]
  clear g0 g1 HX0
  go_loopw [7, 23] (fun _ x wr => ∃ k : Nat, k ≤ zs.length ∧ x = .int .i64 k ∧ (zs.take k).all (edB n) = true ∧ GrX w n (.slice po zs.length pc) wr) (fun _ x _ => zs.length - (intOf x).toNat)
  case atStart => exact ⟨0, Nat.zero_le _, rfl, by simp, HX.out⟩
  case round =>
    obtain ⟨k, hk, rfl, hall, hx⟩ := hrel
    have HA : Hid ((zs.take k).all (edB n) = true) := hall
    have HXR : Hid (GrX w n (.slice po zs.length pc) wr) := hx
    clear hall hx HWW HX
    have s0 : wr.cell? ⟨w.heap.size, 0, none⟩ = some (.int .i64 n) := by simp [World.cell?, HXR.out.b0]
    have s1 : wr.cell? ⟨w.heap.size + 1, 0, none⟩ = some (.slice po zs.length pc) := by simp [World.cell?, HXR.out.b1]
    have y0 : wr.cell? ⟨w.heap.size + 1 + 1, 0, none⟩ = some (.int .i64 0) := by simp [World.cell?, HXR.out.b2]
    have y1 : wr.cell? ⟨w.heap.size + 1 + 1, 1, none⟩ = some (.slice none 0 0) := by simp [World.cell?, HXR.out.b2]
    have z0 : wr.frozen? ⟨w.heap.size + 1 + 1, 0, none⟩ = false := by simp [World.frozen?, HXR.out.b2]
    have z1 : wr.frozen? ⟨w.heap.size + 1 + 1, 1, none⟩ = false := by simp [World.frozen?, HXR.out.b2]
    by_cases hlt : k < zs.length
    · obtain ⟨b, o, hpo, ca', cb'⟩ := HC.out k hlt
      have hbl : b < w.heap.size := lt_of_cell ca'
      have ca : wr.cell? ⟨b, o + k * 2, none⟩ = some (.int .i64 (zs.getD k (0, 0)).1) := (HXR.out.bel.cell hbl).trans ca'
      have cb : wr.cell? ⟨b, o + k * 2 + 1, none⟩ = some (.int .i64 (zs.getD k (0, 0)).2) := (HXR.out.bel.cell hbl).trans cb'
      clear ca' cb' hbl
      subst hpo
      have HS : Hid ((zs.take (k + 1)).all (edB n) = edB n (zs.getD k (0, 0))) := all_snocE hlt HA.out
      have HNA : Hid (edB n (zs.getD k (0, 0)) = false → zs.all (edB n) = false) := fun h => by
        rw [List.all_eq_false]
        exact ⟨zs.getD k (0, 0), by simp [hlt], by rw [h]; simp⟩
      generalize zs.getD k (0, 0) = ab at *
      obtain ⟨a, b'⟩ := ab
      dsimp only at ca cb
      have kI : (k : Int) < (zs.length : Int) := by omega
      have kI0 : (0 : Int) ≤ (k : Int) := by omega
      have HED : Hid (edB n (a, b') = decide (0 ≤ a ∧ 0 ≤ b' ∧ a < n ∧ b' < n)) := rfl
      have HBAD : Hid ((a < 0 ∨ b' < 0 ∨ n ≤ a ∨ n ≤ b') → gmE n zs = 9) := fun h => by
        rw [HE.out, HNA.out (by rw [HED.out]; simp; omega)]; rfl
      have HGOOD : Hid (0 ≤ a → 0 ≤ b' → a < n → b' < n → (zs.take (k + 1)).all (edB n) = true) := fun h1 h2 h3 h4 => by
        rw [HS.out, HED.out]
        simp; omega
      have HY : Hid (GrX w n (.slice (some ⟨b, o, none⟩) zs.length pc) (wr.alloc (.cells #[.int .i64 a, .int .i64 b'] 33))) := HXR.out.next ((Below.refl _ _).alloc (Nat.le_refl _) _)
      have t0 : (wr.alloc (.cells #[.int .i64 a, .int .i64 b'] 33)).cell? ⟨w.heap.size, 0, none⟩ = some (.int .i64 n) := by simp [World.cell?, HY.out.b0]
      have t2 : (wr.alloc (.cells #[.int .i64 a, .int .i64 b'] 33)).cell? ⟨w.heap.size + 1 + 1, 0, none⟩ = some (.int .i64 0) := by simp [World.cell?, HY.out.b2]
      have t3 : (wr.alloc (.cells #[.int .i64 a, .int .i64 b'] 33)).cell? ⟨w.heap.size + 1 + 1, 1, none⟩ = some (.slice none 0 0) := by simp [World.cell?, HY.out.b2]
      have t4 : (wr.alloc (.cells #[.int .i64 a, .int .i64 b'] 33)).frozen? ⟨w.heap.size + 1 + 1, 0, none⟩ = false := by simp [World.frozen?, HY.out.b2]
      have t5 : (wr.alloc (.cells #[.int .i64 a, .int .i64 b'] 33)).frozen? ⟨w.heap.size + 1 + 1, 1, none⟩ = false := by simp [World.frozen?, HY.out.b2]
      have HRB : Hid (Below w.heap.size w (((wr.alloc (.cells #[.int .i64 a, .int .i64 b'] 33)).setCell ⟨w.heap.size + 1 + 1, 0, none⟩ (.int .i64 0)).setCell ⟨w.heap.size + 1 + 1, 1, none⟩ (.slice none 0 0))) := (HY.out.res 0 (.slice none 0 0)).1
      have HRC : Hid ((((wr.alloc (.cells #[.int .i64 a, .int .i64 b'] 33)).setCell ⟨w.heap.size + 1 + 1, 0, none⟩ (.int .i64 0)).setCell ⟨w.heap.size + 1 + 1, 1, none⟩ (.slice none 0 0)).cell? ⟨w.heap.size + 1 + 1, 0, none⟩ = some (.int .i64 0) ∧ (((wr.alloc (.cells #[.int .i64 a, .int .i64 b'] 33)).setCell ⟨w.heap.size + 1 + 1, 0, none⟩ (.int .i64 0)).setCell ⟨w.heap.size + 1 + 1, 1, none⟩ (.slice none 0 0)).cell? ⟨w.heap.size + 1 + 1, 1, none⟩ = some (.slice none 0 0)) := by
        have h := (HY.out.res 0 (.slice none 0 0)).2
        exact ⟨by simp only [World.cell?, h]; rfl, by simp only [World.cell?, h]; rfl⟩
      clear y0 y1 z0 z1 HXR
      by_cases c : a < b'
      · have c2 : ¬ b' < a := by omega
        have c3 : ¬ a = b' := by omega
        by_cases g1 : a < 0
        · have HF : Hid (gmE n zs = 9) := HBAD.out (by omega)
          go_wp2
          exact bodyPost_ret (v := .tuple #[.agg #[.int .i64 0, .slice none 0 0], .int .i64 9]) (by simp [results, Tryd.results6, go_sem, HRC.out]) rfl (HERR.out _ _ HRB.out HF.out (by decide))
        by_cases g2 : n ≤ b'
        · have HF : Hid (gmE n zs = 9) := HBAD.out (by omega)
          go_wp2
          exact bodyPost_ret (v := .tuple #[.agg #[.int .i64 0, .slice none 0 0], .int .i64 9]) (by simp [results, Tryd.results6, go_sem, HRC.out]) rfl (HERR.out _ _ HRB.out HF.out (by decide))
        have HT : Hid ((zs.take (k + 1)).all (edB n) = true) := HGOOD.out (by omega) (by omega) (by omega) (by omega)
        go_wp2
        exact ⟨⟨k + 1, by omega, by go_num, HT.out, HY.out⟩, by simp [intOf]; omega⟩
      by_cases c1 : b' < a
      · have c3 : ¬ a = b' := by omega
        by_cases g1 : b' < 0
        · have HF : Hid (gmE n zs = 9) := HBAD.out (by omega)
          go_wp2
          exact bodyPost_ret (v := .tuple #[.agg #[.int .i64 0, .slice none 0 0], .int .i64 9]) (by simp [results, Tryd.results6, go_sem, HRC.out]) rfl (HERR.out _ _ HRB.out HF.out (by decide))
        by_cases g2 : n ≤ a
        · have HF : Hid (gmE n zs = 9) := HBAD.out (by omega)
          go_wp2
          exact bodyPost_ret (v := .tuple #[.agg #[.int .i64 0, .slice none 0 0], .int .i64 9]) (by simp [results, Tryd.results6, go_sem, HRC.out]) rfl (HERR.out _ _ HRB.out HF.out (by decide))
        have HT : Hid ((zs.take (k + 1)).all (edB n) = true) := HGOOD.out (by omega) (by omega) (by omega) (by omega)
        go_wp2
        exact ⟨⟨k + 1, by omega, by go_num, HT.out, HY.out⟩, by simp [intOf]; omega⟩
      · have c3 : a = b' := by omega
        subst c3
        by_cases g1 : a < 0
        · have HF : Hid (gmE n zs = 9) := HBAD.out (by omega)
          go_wp2
          exact bodyPost_ret (v := .tuple #[.agg #[.int .i64 0, .slice none 0 0], .int .i64 9]) (by simp [results, Tryd.results6, go_sem, HRC.out]) rfl (HERR.out _ _ HRB.out HF.out (by decide))
        by_cases g2 : n ≤ a
        · have HF : Hid (gmE n zs = 9) := HBAD.out (by omega)
          go_wp2
          exact bodyPost_ret (v := .tuple #[.agg #[.int .i64 0, .slice none 0 0], .int .i64 9]) (by simp [results, Tryd.results6, go_sem, HRC.out]) rfl (HERR.out _ _ HRB.out HF.out (by decide))
        have HT : Hid ((zs.take (k + 1)).all (edB n) = true) := HGOOD.out (by omega) (by omega) (by omega) (by omega)
        go_wp2
        exact ⟨⟨k + 1, by omega, by go_num, HT.out, HY.out⟩, by simp [intOf]; omega⟩
    · have e : zs.take k = zs := List.take_of_length_le (by omega)
      have hall : zs.all (edB n) = true := by rw [← e]; exact HA.out
      have hk8 : zs.length ≤ 8 := by omega
      have hke : k = zs.length := by omega
      obtain ⟨nn, rfl⟩ : ∃ nn : Nat, n = (nn : Int) := ⟨n.toNat, by omega⟩
      have HF : Hid (gmE nn zs = 0) := by
        show _ = _
        rw [HE.out, hall]; rfl
      have hln : (ntE zs).length = zs.length := by simp [ntE]
      have HMK : Hid (Calls Tryd.prog 14 #[.int .i64 zs.length, .func (.func 10) #[] #[.pointer (some ⟨w.heap.size, 0, none⟩), .pointer (some ⟨w.heap.size + 1, 0, none⟩)]] wr fun e w' => ∃ u, e = .returned (.agg #[.int .i64 zs.length, u]) ∧ Sl 0 3 w' u (ints (gmB nn zs)) ∧ Below wr.heap.size wr w') := by
        have h := made_any zs.length (fwE (ntE zs)) w.heap.size (w.heap.size + 1) wr hk8 fun s hs W' hb => by
          have hX := HXR.out.next hb
          exact graph1_any w.heap.size nn s (ntE zs) (.slice po zs.length pc) w.heap.size (w.heap.size + 1) W' ((HPV.out.eds hall).below hX.bel (Nat.le_refl _)) hX.bel.size (ntE_lt hall) (by rw [hln]; exact hs) (by rw [hln]; exact hk8) (by omega) (hT.below hX.bel) (by simp [World.cell?, hX.b0]) (by simp [World.cell?, hX.b1])
        have e2 : gmB nn zs = greL (setsTo (fwE (ntE zs)) (2 ^ zs.length)) := by
          unfold gmB; rw [HF.out, if_pos rfl]; unfold grB; rw [hln]; rfl
        rw [e2]
        exact h
      have HGN : Hid (gmN nn zs = zs.length) := by show _ = _; unfold gmN; rw [HF.out, if_pos rfl]
      generalize hys : gmB nn zs = ys at *
      have HYS : Hid (gmB nn zs = ys) := hys
      clear hys e hall hln hke
      have kI : ¬ (k : Int) < (zs.length : Int) := by omega
      go_wp2_with fail
      refine HMK.out.mono ?_
      rintro e w3 ⟨u, rfl, hu, hb3⟩
      have HX3 : Hid (GrX w nn (.slice po zs.length pc) w3) := HXR.out.next hb3
      obtain ⟨uo, uc, huu, _, _⟩ := sl_open hu
      subst huu
      have y0 : w3.cell? ⟨w.heap.size + 1 + 1, 0, none⟩ = some (.int .i64 0) := by simp [World.cell?, HX3.out.b2]
      have y1 : w3.cell? ⟨w.heap.size + 1 + 1, 1, none⟩ = some (.slice none 0 0) := by simp [World.cell?, HX3.out.b2]
      have z0 : w3.frozen? ⟨w.heap.size + 1 + 1, 0, none⟩ = false := by simp [World.frozen?, HX3.out.b2]
      have z1 : w3.frozen? ⟨w.heap.size + 1 + 1, 1, none⟩ = false := by simp [World.frozen?, HX3.out.b2]
      have HSX : Hid (Sl 0 3 ((w3.setCell ⟨w.heap.size + 1 + 1, 0, none⟩ (.int .i64 zs.length)).setCell ⟨w.heap.size + 1 + 1, 1, none⟩ (.slice uo ys.length uc)) (.slice uo ys.length uc) (ints ys)) := by
        refine Sl.move hu fun b hl ht => ?_
        have hne : b ≠ w.heap.size + 1 + 1 := fun e => by
          rcases ht with ht | ⟨cur, ht⟩
          · omega
          · rw [e, HX3.out.b2] at ht
            cases ht
        exact ⟨(Below.heap_setCell _ _ _ _ hne).trans (Below.heap_setCell _ _ _ _ hne), ht⟩
      obtain ⟨r1, r2⟩ := HX3.out.res zs.length (.slice uo ys.length uc)
      have HR1 : Hid (Below w.heap.size w ((w3.setCell ⟨w.heap.size + 1 + 1, 0, none⟩ (.int .i64 zs.length)).setCell ⟨w.heap.size + 1 + 1, 1, none⟩ (.slice uo ys.length uc))) := r1
      have HRC : Hid (((w3.setCell ⟨w.heap.size + 1 + 1, 0, none⟩ (.int .i64 zs.length)).setCell ⟨w.heap.size + 1 + 1, 1, none⟩ (.slice uo ys.length uc)).cell? ⟨w.heap.size + 1 + 1, 0, none⟩ = some (.int .i64 zs.length) ∧ ((w3.setCell ⟨w.heap.size + 1 + 1, 0, none⟩ (.int .i64 zs.length)).setCell ⟨w.heap.size + 1 + 1, 1, none⟩ (.slice uo ys.length uc)).cell? ⟨w.heap.size + 1 + 1, 1, none⟩ = some (.slice uo ys.length uc)) :=
        ⟨by simp only [World.cell?, r2]; rfl, by simp only [World.cell?, r2]; rfl⟩
      clear hu r1 r2 hb3
      go_wp2
      exact bodyPost_ret (v := .tuple #[.agg #[.int .i64 zs.length, .slice uo ys.length uc], .int .i64 0]) (by simp [results, Tryd.results6, go_sem, HRC.out]) rfl ⟨.slice uo ys.length uc, by rw [HGN.out, HF.out], by rw [HYS.out]; exact HSX.out, HR1.out⟩

end Go.Proofs.YtofbffagpjjfmaaDoor
