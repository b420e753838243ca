import Derived.Test.YtcmemhdlendlkaaDoorDc2
/- A polytope's box that is appended to. -/
namespace Go.Proofs.YtcmemhdlendlkaaDoor
open Go.RowKit

/-- The points of sets. -/
def ptsL (n : Nat) (l : List Int) : List (List Int) := l.map fun s => (List.range n).map fun k => if s.toNat.testBit k then 1 else 0

/-- The result's box, the own one, and the row of its points. -/
structure PtI (w : World) (R Q n : Nat) (m : List (List Int)) (wr : World) : Prop where
  lo : w.heap.size ≤ R
  rq : R < Q
  res : wr.heap[R]? = some (.cells #[.int .i64 0, .slice none 0 0] 40 (0, 0))
  box : ∃ sv, wr.heap[Q]? = some (.cells #[.int .i64 (n : Int), sv] 40 (0, 0)) ∧ Fr (Q + 1) 27 3 wr sv m
  bel : Below w.heap.size w wr
  sz : Q + 1 ≤ wr.heap.size

theorem PtI.below {w wr w2 : World} {R Q n N : Nat} {m : List (List Int)} (h : PtI w R Q n m wr) (hb : Below N wr w2) (hN : wr.heap.size ≤ N) : PtI w R Q n m w2 := by
  obtain ⟨sv, h1, h2⟩ := h.box
  have hsz := h.sz
  have hrq := h.rq
  have hb0 := h.bel.size
  exact ⟨h.lo, hrq, (hb.block _ (by omega)).trans h.res, ⟨sv, (hb.block _ (by omega)).trans h1, h2.below hb hN⟩, h.bel.trans (hb.mono (by omega)), Nat.le_trans hsz hb.size⟩

theorem PtI.push {w wr wx : World} {R Q n : Nat} {m : List (List Int)} {u : Value} {zs : List Int} (h : PtI w R Q n m wr) (hx : Below wr.heap.size wr wx) (hu : Sl 0 3 wx u (ints zs)) :
    ∃ so sc vs, wx.cell? ⟨Q, 1, none⟩ = some (.slice so m.length sc) ∧ wx.ownsRow (Q + 1) 27 1 (.slice so m.length sc) m.length vs ∧ Q + 1 ≤ wx.heap.size ∧ ∀ v' w5, w5.ownsRow (Q + 1) 27 1 v' (m.length + 1) (vs ++ [u]) → (wx.alloc (.cells #[u] 27)).grownBy w5 (Value.slice so m.length sc).ownBlock → w5.cell? ⟨Q, 1, none⟩ = some (.slice so m.length sc) ∧ w5.frozen? ⟨Q, 1, none⟩ = false ∧ PtI w R Q n (m ++ [zs]) (w5.setCell ⟨Q, 1, none⟩ v') := by
  have hX := h.below hx (Nat.le_refl _)
  obtain ⟨sv, hbox, vs, f1, f2, f3⟩ := hX.box
  obtain ⟨so, sc, rfl⟩ := owns_form f2
  have hsz := hX.sz
  have hlo := h.lo
  have hrq := h.rq
  refine ⟨so, sc, vs, by simp [World.cell?, hbox], f2, hsz, fun v' w5 ho hg => ?_⟩
  have hne : ∀ b, b < Q + 1 → w5.heap[b]? = wx.heap[b]? := fun b hb => (hg.block b (by simp; omega) (fun e => by
    have := (f2.lt b e.symm).1
    omega)).trans (Below.heap_alloc wx _ b (by omega))
  have hb5 := (hne Q (by omega)).trans hbox
  have hss : wx.heap.size ≤ w5.heap.size := Nat.le_trans (by simp) hg.size
  have hbl : Below w.heap.size w w5 := ⟨hg.os.trans hX.bel.os, hg.tape.trans hX.bel.tape, hg.output.trans hX.bel.output, Nat.le_trans hX.bel.size hss, fun b hb => (hne b (by omega)).trans (hX.bel.block b hb)⟩
  have hF5 : Fr (Q + 1) 27 3 w5 v' (m ++ [zs]) := Fr.push (e2 := 27) (e1 := 3) (by decide) f1 (f2.alloc _) (fun i hi => (f3 i hi).alloc _) (hu.alloc _) ho hg
  refine ⟨by simp [World.cell?, hb5], by simp [World.frozen?, hb5], hlo, hrq, ?_, ⟨v', ?_, ?_⟩, below_set hbl (by show _ ≤ Q; omega), by simp only [World.setCell, Array.size_modify]; omega⟩
  · exact (Below.heap_setCell _ _ _ _ (by show R ≠ Q; omega)).trans ((hne _ (by omega)).trans hX.res)
  · simp [World.setCell, Array.getElem?_modify, hb5]
  · obtain ⟨vs5, g1, g2, g3⟩ := hF5
    refine ⟨vs5, g1, ?_, fun i hi => ?_⟩
    · refine ⟨g2.1, ?_⟩
      rcases g2.2 with q | ⟨g, cap, cur, e1, e2, e3, e4⟩
      · exact .inl q
      · exact .inr ⟨g, cap, cur, e1, e2, (Below.heap_setCell _ _ _ _ (by show g ≠ Q; omega)).trans e3, e4⟩
    · refine Sl.setCell (g3 i hi) _ ⟨Nat.zero_le _, fun cur => ?_⟩
      rw [show (⟨Q, 1, none⟩ : Addr).block = Q from rfl, hb5]
      simp

theorem PtI.fin {w wr : World} {R Q n : Nat} {m : List (List Int)} (h : PtI w R Q n m wr) : ∃ so sc, wr.cell? ⟨Q, 0, none⟩ = some (.int .i64 (n : Int)) ∧ wr.cell? ⟨Q, 1, none⟩ = some (.slice so m.length sc) ∧ wr.cell? ⟨R, 0, none⟩ = some (.int .i64 0) ∧ wr.cell? ⟨R, 1, none⟩ = some (.slice none 0 0) ∧ wr.frozen? ⟨R, 0, none⟩ = false ∧ wr.frozen? ⟨R, 1, none⟩ = false ∧ Mat 0 27 3 ((wr.setCell ⟨R, 0, none⟩ (.int .i64 (n : Int))).setCell ⟨R, 1, none⟩ (.slice so m.length sc)) (.slice so m.length sc) m ∧ Below w.heap.size w ((wr.setCell ⟨R, 0, none⟩ (.int .i64 (n : Int))).setCell ⟨R, 1, none⟩ (.slice so m.length sc)) := by
  obtain ⟨sv, hbox, vs, f1, f2, f3⟩ := h.box
  obtain ⟨so, sc, rfl⟩ := owns_form f2
  have hres := h.res
  have hrq := h.rq
  have hres2 : (wr.setCell ⟨R, 0, none⟩ (.int .i64 (n : Int))).heap[R]? = some (.cells #[.int .i64 (n : Int), .slice none 0 0] 40 (0, 0)) := by simp [World.setCell, Array.getElem?_modify, hres]
  refine ⟨so, sc, by simp [World.cell?, hbox], by simp [World.cell?, hbox], by simp [World.cell?, hres], by simp [World.cell?, hres], by simp [World.frozen?, hres], by simp [World.frozen?, hres], ⟨vs, f1, ?_, fun i hi => ?_⟩, below_set (below_set h.bel h.lo) h.lo⟩
  · refine Sl.own (base := Q + 1) ⟨f2.1, ?_⟩
    rcases f2.2 with h1 | ⟨g, cap, cur, e1, h2, h3, h4⟩
    · exact .inl h1
    · exact .inr ⟨g, cap, cur, e1, h2, (Below.heap_setCell _ _ _ _ (by show g ≠ R; omega)).trans ((Below.heap_setCell _ _ _ _ (by show g ≠ R; omega)).trans h3), h4⟩
  · refine Sl.setCell (Sl.setCell (f3 i hi) _ ⟨Nat.zero_le _, fun cur => ?_⟩) _ ⟨Nat.zero_le _, fun cur => ?_⟩
    · rw [show (⟨R, 0, none⟩ : Addr).block = R from rfl, hres]
      simp
    · rw [show (⟨R, 1, none⟩ : Addr).block = R from rfl, hres2]
      simp

theorem PtI.start (w wr : World) (R n : Nat) (hlo : w.heap.size ≤ R) (hR : wr.heap[R]? = some (.cells #[.int .i64 0, .slice none 0 0] 40 (0, 0))) (hb : Below w.heap.size w wr) : PtI w R wr.heap.size n [] (wr.alloc (.cells #[.int .i64 (n : Int), .slice none 0 0] 40)) := by
  have hlt := (Array.getElem?_eq_some_iff.1 hR).1
  exact ⟨hlo, hlt, (Below.heap_alloc _ _ _ hlt).trans hR, ⟨.slice none 0 0, heap_alloc_new wr _, Fr.nil _ _ _ _⟩, hb.alloc hb.size _, by simp⟩

theorem ptsL_snoc (n : Nat) (l : List Int) (s : Int) : ptsL n (l ++ [s]) = ptsL n l ++ [(List.range n).map fun k => if s.toNat.testBit k then 1 else 0] := by simp [ptsL]

end Go.Proofs.YtcmemhdlendlkaaDoor

/- facetref.SetPoints. -/
namespace Go.Proofs.YtcmemhdlendlkaaDoor
open Go.RowKit
attribute [local go_sem ↓] Go.wp_at_zero Go.wp_at_succ

set_option maxRecDepth 100000 in
set_option maxHeartbeats 3200000 in
theorem setPoints_any (n : Nat) (l : List Int) (v : Value) (w : World) (hn : n ≤ 4) (hv : Sl w.heap.size 3 w v (ints l)) (hl : l.length ≤ 64) (hb : ∀ x ∈ l, ∃ s : Nat, x = (s : Int) ∧ s < 64) :
    Calls Tryd.prog 21 #[.int .i64 (n : Int), v] w fun e w' => ∃ u, e = .returned (.agg #[.int .i64 (n : Int), u]) ∧ Mat 0 27 3 w' u (ptsL n l) ∧ Below w.heap.size w w' := by
  obtain ⟨i3, hi3, hz30, hz31, hz32⟩ := info_parts Tryd.info3
  obtain ⟨i0, hi0, hz0, hz1, hz2⟩ := info_parts infoSl
  obtain ⟨ao, cap, hvv, hlc, hcm⟩ := sl_open hv
  subst hvv
  have HV : Hid (Sl w.heap.size 3 w (.slice ao l.length cap) (ints l)) := hv
  have HX : Hid (∀ i, i < l.length → ∃ s : Nat, l.getD i 0 = (s : Int) ∧ s < 64) := fun i hi => hb _ (by simp [hi])
  have hW1 : (w.alloc (.cells #[.int .i64 0, .slice none 0 0] 40)).heap.size = w.heap.size + 1 := by simp
  have HI0 : Hid (PtI w w.heap.size (w.heap.size + 1) n (ptsL n (l.take 0)) ((w.alloc (.cells #[.int .i64 0, .slice none 0 0] 40)).alloc (.cells #[.int .i64 (n : Int), .slice none 0 0] 40))) := by
    have := PtI.start w (w.alloc (.cells #[.int .i64 0, .slice none 0 0] 40)) w.heap.size n (Nat.le_refl _) (heap_alloc_new w _) ((Below.refl _ _).alloc (Nat.le_refl _) _)
    rw [hW1] at this
    exact this
  have HPS : Hid (∀ i s, i < l.length → l.getD i 0 = ((s : Nat) : Int) → ptsL n (l.take (i + 1)) = ptsL n (l.take i) ++ [(List.range n).map fun k => if s.testBit k then 1 else 0]) := fun i s hi hs => by
    rw [take_snoc_int l i hi, ptsL_snoc, hs, Int.toNat_natCast]
  have HPL : Hid (∀ i, i ≤ l.length → (ptsL n (l.take i)).length = i) := fun i hi => by simp [ptsL]; omega
  obtain ⟨R, hR⟩ : ∃ R, R = w.heap.size := ⟨_, rfl⟩
  rw [← hR] at HI0
  clear hv hb hW1
  go_enter Tryd.func21, Tryd.ntmps21
  go_wp2
  rw [← hR]
  clear hR
  go_loopw [6] (fun iv wr => ∃ i : Nat, i ≤ l.length ∧ iv = .int .i64 (i : Int) ∧ PtI w R (R + 1) n (ptsL n (l.take i)) wr) (fun iv _ => l.length - (intOf iv).toNat)
  case atStart => exact ⟨0, Nat.zero_le _, rfl, HI0.out⟩
  case round =>
    obtain ⟨i, hi, rfl, hp⟩ := hrel
    obtain ⟨wa, rfl⟩ : ∃ wa, wa = wr := ⟨_, rfl⟩
    have HP : Hid (PtI w R (R + 1) n (ptsL n (l.take i)) wa) := hp
    clear hp HI0
    by_cases hlt : i < l.length
    · obtain ⟨s, hs, hs64⟩ := HX.out i hlt
      obtain ⟨sb, so, cp, hsl, _, hcc⟩ := sl_cell (HV.out.below HP.out.bel (Nat.le_refl _)) hlt
      simp only [Value.slice.injEq, true_and] at hsl
      obtain ⟨rfl, rfl⟩ := hsl
      rw [hs] at hcc
      have HPX := HPS.out i s hlt hs
      have HPLX := HPL.out i hi
      have HPY : Hid (ptsL n (l.take (i + 1)) = ptsL n (l.take i) ++ [(List.range n).map fun k => if s.testBit k then 1 else 0]) := HPX
      have HPZ : Hid ((ptsL n (l.take i)).length = i) := HPLX
      clear HPX HPLX hs
      obtain ⟨M, hM⟩ : ∃ M, M = wa.heap.size := ⟨_, rfl⟩
      have HM : Hid (M = wa.heap.size) := hM
      clear hM
      have iI : (i : Int) < (l.length : Int) := by omega
      have iI0 : (0 : Int) ≤ (i : Int) := by omega
      go_wp2
      go_loopw [7, 8] (fun xv kv wq => ∃ k : Nat, k ≤ n ∧ kv = .int .i64 (k : Int) ∧ wq.ownsRow M 3 1 xv k (ints ((List.range k).map fun k => if s.testBit k then 1 else 0)) ∧ Below M wa wq) (fun _ kv _ => n - (intOf kv).toNat)
      case atStart => exact ⟨0, Nat.zero_le _, rfl, World.ownsRow_nil _ _ _ _, Below.refl _ _⟩
      case round =>
        obtain ⟨k, hk, rfl, hox, hbq⟩ := hrel
        rename World => wq
        obtain ⟨xo, xc, hxv⟩ := owns_form hox
        subst hxv
        have HO : Hid (wq.ownsRow M 3 1 (.slice xo k xc) k (ints ((List.range k).map fun k => if s.testBit k then 1 else 0))) := hox
        have HBQ : Hid (Below M wa wq) := hbq
        have hszq : M ≤ wq.heap.size := by have := hbq.size; have := HM.out; omega
        have c1 : wq.cell? ⟨sb, so + i, none⟩ = some (.int .i64 (s : Int)) := (hbq.cell (by rw [HM.out]; exact lt_of_cell hcc)).trans hcc
        clear hox hbq
        by_cases hlk : k < n
        · have e1 := (by decide +kernel : ∀ x : Nat, x < 64 → ∀ k : Nat, k < 6 → ((x : Int) / 2 ^ k).tmod 2 = if x.testBit k then 1 else 0) s hs64 k (by omega)
          obtain ⟨z, hz⟩ : ∃ z : Int, z = if s.testBit k then 1 else 0 := ⟨_, rfl⟩
          rw [← hz] at e1
          have HE2 : Hid (ints ((List.range (k + 1)).map fun k => if s.testBit k then 1 else 0) = ints ((List.range k).map fun k => if s.testBit k then 1 else 0) ++ [.int .i64 z]) := by
            show _ = _
            rw [hz]
            simp [List.range_succ, ints]
          have kI : (k : Int) < (n : Int) := by omega
          have kI0 : (0 : Int) ≤ (k : Int) := by omega
          clear hz
          go_wp2_with (first | (at_builtin; refine wpList_append_own _ rfl _ _ 27 rfl M 3 i3 (.int .i64 0) 1 8 Tryd.underlying27 hi3 hz30 hz31 hz32 rfl (by decide) _ _ _ rfl (HO.out.alloc _) ⟨wq.heap.size, 0, none⟩ 1 1 [.int .i64 z] rfl rfl (one_new _ _ _) (one_int _) ?c3 ?c4 ?c5 ?_))
          case c3 => unfold maxLen; omega
          case c4 => omega
          case c5 => first | exact hszq | omega | (simp; omega)
          intro v2 w4 ho hg _
          have R1 : Hid (w4.ownsRow M 3 1 v2 (k + 1) (ints ((List.range (k + 1)).map fun k => if s.testBit k then 1 else 0))) := by
            show World.ownsRow _ _ _ _ _ _ _
            rw [HE2.out]
            exact ho
          have R2 : Hid (Below M wa w4) := (HBQ.out.alloc hszq _).grown hg (by simp; omega) (fun z hz => (HO.out.lt z hz).1)
          clear ho hg
          go_wp2
          go_roundw
          case rel => exact ⟨k + 1, by omega, by go_num, R1.out, R2.out⟩
          case measure => simp [intOf]; omega
        · have hke : n = k := by omega
          subst hke
          have hu : Sl 0 3 wq (.slice xo n xc) (ints ((List.range n).map fun k => if s.testBit k then 1 else 0)) := Sl.own HO.out
          obtain ⟨bo, bc, vs, q1, q2, q3, q4⟩ := HP.out.push (by rw [HM.out] at HBQ; exact HBQ.out) hu
          rw [HPZ.out] at q1 q2 q4
          have HQ2 : Hid (wq.ownsRow (R + 1 + 1) 27 1 (.slice bo i bc) i vs) := q2
          have HQ4 : Hid (∀ v' w5, w5.ownsRow (R + 1 + 1) 27 1 v' (i + 1) (vs ++ [.slice xo n xc]) → (wq.alloc (.cells #[.slice xo n xc] 27)).grownBy w5 (Value.slice bo i bc).ownBlock → w5.cell? ⟨R + 1, 1, none⟩ = some (.slice bo i bc) ∧ w5.frozen? ⟨R + 1, 1, none⟩ = false ∧ PtI w R (R + 1) n (ptsL n (l.take i) ++ [(List.range n).map fun k => if s.testBit k then 1 else 0]) (w5.setCell ⟨R + 1, 1, none⟩ v')) := q4
          have q1a : (wq.alloc (.cells #[.slice xo n xc] 27)).cell? ⟨R + 1, 1, none⟩ = some (.slice bo i bc) := (((Below.refl wq.heap.size wq).alloc (Nat.le_refl _) _).cell (lt_of_cell q1)).trans q1
          have hszR : R + 1 + 1 ≤ wq.heap.size := q3
          clear q2 q4 hu hlk hk c1
          go_wp2_with (first | (at_builtin; refine wpList_append_own _ rfl _ _ 28 rfl (R + 1 + 1) 27 i0 (.slice none 0 0) 1 24 Tryd.underlying28 hi0 hz0 hz1 hz2 rfl (by decide) _ _ _ rfl (HQ2.out.alloc _) ⟨wq.heap.size, 0, none⟩ 1 1 [.slice xo n xc] rfl rfl (one_new _ _ _) (one_slice _ _ _) ?d3 ?d4 ?d5 ?_))
          case d3 => unfold maxLen; omega
          case d4 => omega
          case d5 => first | exact hszR | omega | (simp; omega)
          intro v' w5 ho hg _
          obtain ⟨vo, vc, hv5⟩ := owns_form ho
          subst hv5
          obtain ⟨g1, g2, g3⟩ := HQ4.out _ w5 ho hg
          have HF : Hid (PtI w R (R + 1) n (ptsL n (l.take (i + 1))) (w5.setCell ⟨R + 1, 1, none⟩ (.slice vo (i + 1) vc))) := by
            rw [HPY.out]
            exact g3
          clear g3 ho hg q1 q1a
          go_wp2
          go_roundw
          case rel => exact ⟨i + 1, by omega, by go_num, HF.out⟩
          case measure => simp [intOf]; omega
    · have hie : i = l.length := by omega
      subst hie
      rw [List.take_length] at HP
      obtain ⟨bo, bc, m0, m1, r0, r1, rf0, rf1, hmat, hbel⟩ := HP.out.fin
      have HMT : Hid (Mat 0 27 3 ((wa.setCell ⟨R, 0, none⟩ (.int .i64 (n : Int))).setCell ⟨R, 1, none⟩ (.slice bo (ptsL n l).length bc)) (.slice bo (ptsL n l).length bc) (ptsL n l)) := hmat
      have HBX : Hid (Below w.heap.size w ((wa.setCell ⟨R, 0, none⟩ (.int .i64 (n : Int))).setCell ⟨R, 1, none⟩ (.slice bo (ptsL n l).length bc))) := hbel
      clear hmat hbel HP
      go_wp2
      exact bodyPost_ret (v := .agg #[.int .i64 (n : Int), .slice bo (ptsL n l).length bc]) (by simp [results, Tryd.results21, go_sem, *]) rfl ⟨_, rfl, HMT.out, HBX.out⟩

end Go.Proofs.YtcmemhdlendlkaaDoor
