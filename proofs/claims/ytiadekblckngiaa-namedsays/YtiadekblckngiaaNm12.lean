/- facetref.NamedOf: kind 1 (cubes). -/
import Derived.Test.YtiadekblckngiaaNm10
import Derived.Test.YtiadekblckngiaaNm9
import Derived.Test.YtiadekblckngiaaFrN
import Derived.Deep.LoopGhost
namespace Go.Proofs.Ytiadekblckngiaa
open Go.RowKit
attribute [local go_sem ↓] Go.wp_at_zero Go.wp_at_succ

/-- The polytope's box, all its rows newer than block M. -/
structure NqI (w : World) (R Q M n : Nat) (m : List (List Int)) (wr : World) : Prop where
  lo : w.heap.size ≤ R
  rq : R < Q
  qm : Q < M
  res : wr.heap[R]? = some (.cells #[.int .i64 0, .slice none 0 0] 24 (0, 0))
  box : ∃ sv, wr.heap[Q]? = some (.cells #[.int .i64 (n : Int), sv] 24 (0, 0)) ∧ FrN (M + 1) wr sv m
  bel : Below w.heap.size w wr
  sz : M + 1 ≤ wr.heap.size

theorem NqI.toI {w wr : World} {R Q M n : Nat} {m : List (List Int)} (h : NqI w R Q M n m wr) : NpI w R Q n m wr := by
  obtain ⟨sv, h1, vs, f1, f2, f3⟩ := h.box
  have := h.qm
  have := h.sz
  exact ⟨h.lo, h.rq, h.res, ⟨sv, h1, vs, f1, f2.mono (by omega), fun i hi => (f3 i hi).1⟩, h.bel, by omega⟩

theorem NqI.below {w wr w2 : World} {R Q M n N : Nat} {m : List (List Int)} (h : NqI w R Q M n m wr) (hb : Below N wr w2) (hN : wr.heap.size ≤ N) : NqI w R Q M n m w2 := by
  obtain ⟨sv, h1, h2⟩ := h.box
  have hsz := h.sz
  have hrq := h.rq
  have hqm := h.qm
  have hb0 := h.bel.size
  exact ⟨h.lo, hrq, hqm, (hb.block _ (by omega)).trans h.res, ⟨sv, (hb.block _ (by omega)).trans h1, h2.below hb hN⟩, h.bel.trans (hb.mono (by omega)), Nat.le_trans hsz hb.size⟩

theorem NqI.touch {w wr w2 : World} {R Q M n : Nat} {m : List (List Int)} (h : NqI w R Q M n m wr) (ht : Touch M wr w2) : NqI w R Q M n m w2 := by
  obtain ⟨sv, h1, vs, f1, f2, f3⟩ := h.box
  have hrq := h.rq
  have hqm := h.qm
  have hlo := h.lo
  refine ⟨hlo, hrq, hqm, (ht.block _ (by omega)).trans h.res, ⟨sv, (ht.block _ (by omega)).trans h1, vs, f1, ⟨f2.1, ?_⟩, fun i hi => ⟨?_, (f3 i hi).2⟩⟩, ht.below h.bel (by omega), by rw [ht.size]; exact h.sz⟩
  · rcases f2.2 with q | ⟨g, cap, cur, e1, e2, e3, e4⟩
    · exact .inl q
    · exact .inr ⟨g, cap, cur, e1, e2, (ht.block g (by omega)).trans e3, e4⟩
  · obtain ⟨hs, hN⟩ := f3 i hi
    obtain ⟨ao, cap, e, k1, k2, k3, k4⟩ := hs
    refine ⟨ao, cap, e, k1, k2, fun j hj => ?_, k4⟩
    obtain ⟨b, o, e2, hc, ht2⟩ := k3 j hj
    have hb : M + 1 ≤ b := hN b o _ _ (by rw [e, e2])
    have hk := ht.block b (by omega)
    refine ⟨b, o, e2, (World.cell?_of_block (w := wr) (a := ⟨b, o + j, none⟩) hk).trans hc, ?_⟩
    rcases ht2 with h | ⟨cur, h⟩
    · omega
    · exact .inr ⟨cur, hk.trans h⟩

theorem NqI.push {w wr wx : World} {R Q M n : Nat} {m : List (List Int)} {u : Value} {zs : List Int} (h : NqI w R Q M n m wr) (hx : Below wr.heap.size wr wx) (hu : SlN (M + 1) wx u (ints zs)) :
    ∃ so sc vs, wx.cell? ⟨Q, 1, none⟩ = some (.slice so m.length sc) ∧ wx.ownsRow (M + 1) 35 1 (.slice so m.length sc) m.length vs ∧ M + 1 ≤ wx.heap.size ∧ ∀ v' w5, w5.ownsRow (M + 1) 35 1 v' (m.length + 1) (vs ++ [u]) → (wx.alloc (.cells #[u] 35)).grownBy w5 (Value.slice so m.length sc).ownBlock → w5.cell? ⟨Q, 1, none⟩ = some (.slice so m.length sc) ∧ w5.frozen? ⟨Q, 1, none⟩ = false ∧ NqI w R Q M n (m ++ [zs]) (w5.setCell ⟨Q, 1, none⟩ v') ∧ w5.heap[M]? = wx.heap[M]? ∧ (w5.setCell ⟨Q, 1, none⟩ v').heap[M]? = wx.heap[M]? := by
  have hX := h.below hx (Nat.le_refl _)
  obtain ⟨sv, hbox, vs, f1, f2, f3⟩ := hX.box
  obtain ⟨so, sc, rfl⟩ := owns_form f2
  have hsz := hX.sz
  have hlo := h.lo
  have hrq := h.rq
  have hqm := h.qm
  refine ⟨so, sc, vs, by simp [World.cell?, hbox], f2, hsz, fun v' w5 ho hg => ?_⟩
  have hne : ∀ b, b < M + 1 → w5.heap[b]? = wx.heap[b]? := fun b hb => (hg.block b (by simp; omega) (fun e => by
    have := (f2.lt b e.symm).1
    omega)).trans (Below.heap_alloc wx _ b (by omega))
  have hb5 := (hne Q (by omega)).trans hbox
  have hss : wx.heap.size ≤ w5.heap.size := Nat.le_trans (by simp) hg.size
  have hbl : Below w.heap.size w w5 := ⟨hg.os.trans hX.bel.os, hg.tape.trans hX.bel.tape, hg.output.trans hX.bel.output, Nat.le_trans hX.bel.size hss, fun b hb => (hne b (by omega)).trans (hX.bel.block b hb)⟩
  have hF5 : FrN (M + 1) w5 v' (m ++ [zs]) := FrN.push f1 (f2.alloc _) (fun i hi => (f3 i hi).alloc _) (hu.alloc _) ho hg
  have hset : ∀ b, b ≠ Q → (w5.setCell ⟨Q, 1, none⟩ v').heap[b]? = w5.heap[b]? := fun b hb => Below.heap_setCell _ _ _ _ hb
  refine ⟨by simp [World.cell?, hb5], by simp [World.frozen?, hb5], ⟨hlo, hrq, hqm, (hset R (by omega)).trans ((hne _ (by omega)).trans hX.res), ⟨v', by simp [World.setCell, Array.getElem?_modify, hb5], ?_⟩, below_setN hbl (by show _ ≤ Q; omega), by simp only [World.setCell, Array.size_modify]; omega⟩, hne M (by omega), (hset M (by omega)).trans (hne M (by omega))⟩
  obtain ⟨vs5, g1, g2, g3⟩ := hF5
  refine ⟨vs5, g1, ⟨g2.1, ?_⟩, fun i hi => ⟨Sl.setCell (g3 i hi).1 _ ⟨Nat.zero_le _, fun cur => ?_⟩, (g3 i hi).2⟩⟩
  · rcases g2.2 with q | ⟨g, cap, cur, e1, e2, e3, e4⟩
    · exact .inl q
    · exact .inr ⟨g, cap, cur, e1, e2, (hset g (by omega)).trans e3, e4⟩
  · rw [show (⟨Q, 1, none⟩ : Addr).block = Q from rfl, hb5]
    simp

theorem own_blk {B e s n : Nat} {w W : World} {g cap : Nat} {xs : List Value} (h : w.ownsRow B e s (.slice (some ⟨g, 0, none⟩) n cap) n xs) (hk : W.heap[g]? = w.heap[g]?) : W.ownsRow B e s (.slice (some ⟨g, 0, none⟩) n cap) n xs :=
  own_keepG h (fun g' hg => by
    simp only [Value.ownBlock, Option.some.injEq] at hg
    subst hg
    exact hk)

/-- The loop: so many points are told, the next one's digits stand in block M; or all of them are. -/
def CbR (w : World) (R d M k : Nat) (mv : Value) (wr : World) : Prop :=
  (∃ x, x < 2 ^ d ∧ k = 2 ^ d - x ∧ mv = .bool true ∧ wr.ownsRow M 3 1 (.slice (some ⟨M, 0, none⟩) d d) d (ints (digL d x)) ∧ NqI w R (R + 1) M d (cubT d x) wr) ∨ (k = 0 ∧ mv = .bool false ∧ NqI w R (R + 1) M d (cubT d (2 ^ d)) wr)

theorem digL_zero : ∀ d, d < 5 → digL d 0 = List.replicate d 0 := by decide +kernel

set_option maxRecDepth 100000 in
set_option maxHeartbeats 3200000 in
theorem named1_any (d : Nat) (w : World) (h1 : 1 ≤ d) (h4 : d ≤ 4) :
    Calls Try.prog 9 #[.int .i64 1, .int .i64 (d : Int)] w fun e w' => ∃ u, e = .returned (.tuple #[.agg #[.int .i64 (d : Int), u], .int .i64 0]) ∧ Mat 0 35 3 w' u (cubT d (2 ^ d)) ∧ Below w.heap.size w w' := by
  obtain ⟨i0, hi0, hz0, hz1, hz2⟩ := info_parts infoSlN
  have d1 : ¬ (d : Int) < 1 := by omega
  have d2 : ¬ (4 : Int) < (d : Int) := by omega
  obtain ⟨W2, hW2⟩ : ∃ W2, W2 = (w.alloc (.cells #[.int .i64 0, .slice none 0 0] 24)).alloc (.cells #[.int .i64 (d : Int), .slice none 0 0] 24) := ⟨_, rfl⟩
  have hI0 : NpI w w.heap.size (w.heap.size + 1) d [] W2 := by rw [hW2]; exact np_start w d
  have hs2 : W2.heap.size = w.heap.size + 2 := by rw [hW2]; simp
  obtain ⟨R, hR⟩ : ∃ R, R = w.heap.size := ⟨_, rfl⟩
  rw [← hR] at hI0 hs2
  obtain ⟨M, hM⟩ : ∃ M, M = W2.heap.size := ⟨_, rfl⟩
  have hMR2 : R + 1 + 1 = M := by omega
  obtain ⟨W3, hW3⟩ : ∃ W3, W3 = W2.alloc (.cells (madeCells #[.int .i64 0] d) 3) := ⟨_, rfl⟩
  have hmk := mk_any d h4
  have ho : W3.ownsRow M 3 1 (.slice (some ⟨M, 0, none⟩) d d) d (ints (digL d 0)) := by rw [hW3, hM, digL_zero d (by omega)]; exact made_ownN W2 d (by unfold maxLen; omega)
  have hb3 : Below W2.heap.size W2 W3 := by rw [hW3]; exact (Below.refl _ _).alloc (Nat.le_refl _) _
  have hI3 := hI0.below hb3 (Nat.le_refl _)
  have hs3 : W3.heap.size = M + 1 := by rw [hW3, hM]; simp
  have hbx : W3.heap[R + 1]? = some (.cells #[.int .i64 (d : Int), .slice none 0 0] 24 (0, 0)) := by
    rw [hW3]
    refine (Below.heap_alloc _ _ _ (by omega)).trans ?_
    rw [hW2, show R + 1 = (w.alloc (.cells #[.int .i64 0, .slice none 0 0] 24)).heap.size by rw [hR]; simp]
    exact heap_alloc_new _ _
  have hp : 0 < 2 ^ d := Nat.two_pow_pos d
  have HR0 : Hid (CbR w R d M (2 ^ d) (.bool true) W3) := .inl ⟨0, hp, rfl, rfl, ho, hI3.lo, hI3.rq, by omega, hI3.res, ⟨_, hbx, FrN.nil _ _⟩, hI3.bel, by omega⟩
  have hMR : R + 2 ≤ M := by omega
  clear hI0 hs2 ho hb3 hI3 hs3 hbx hp hM
  go_enter Try.func9, Try.ntmps9
  go_wp2
  rw [← hW2, ← hW3, ← hR, hMR2]
  clear hW2 hR hW3 hMR2
  go_loopg [10] (2 ^ d) (fun k mv wr => CbR w R d M k mv wr)
  case atStart => exact HR0.out
  case round =>
    clear HR0 hmk
    obtain ⟨wa, rfl⟩ : ∃ wa, wa = wr := ⟨_, rfl⟩
    rcases hrel with ⟨x, hx, hgk, rfl, ho, hi⟩ | ⟨hgk, rfl, hi⟩
    · have HO : Hid (wa.ownsRow M 3 1 (.slice (some ⟨M, 0, none⟩) d d) d (ints (digL d x))) := ho
      have HI : Hid (NqI w R (R + 1) M d (cubT d x) wa) := hi
      have HX : Hid (x < 2 ^ d ∧ gk = 2 ^ d - x) := ⟨hx, hgk⟩
      have hxb : x < 16 := Nat.lt_of_lt_of_le hx (Nat.pow_le_pow_right (by decide) h4)
      obtain ⟨sv, hbox, hfr⟩ := hi.box
      obtain ⟨so, sc, hsv⟩ : ∃ so sc, sv = .slice so x sc := by
        obtain ⟨vs, g1, g2, g3⟩ := hfr
        rw [cubT_len] at g2
        exact owns_form g2
      subst hsv
      have qb : wa.cell? ⟨R + 1, 1, none⟩ = some (.slice so x sc) := by simp [World.cell?, hbox]
      have HQB : Hid (wa.cell? ⟨R + 1, 1, none⟩ = some (.slice so x sc)) := qb
      have HCP : Hid (Calls Try.prog 17 #[.slice (some ⟨M, 0, none⟩) d d] wa.drew fun e w3 => ∃ uo uc vs, e = .returned (.slice uo d uc) ∧ w3.cell? ⟨R + 1, 1, none⟩ = some (.slice so x sc) ∧ (w3.alloc (.cells #[.slice uo d uc] 35)).cell? ⟨R + 1, 1, none⟩ = some (.slice so x sc) ∧ w3.ownsRow (M + 1) 35 1 (.slice so x sc) x vs ∧ M + 1 ≤ (w3.alloc (.cells #[.slice uo d uc] 35)).heap.size ∧ ∀ v' w5, w5.ownsRow (M + 1) 35 1 v' (x + 1) (vs ++ [.slice uo d uc]) → (w3.alloc (.cells #[.slice uo d uc] 35)).grownBy w5 (Value.slice so x sc).ownBlock → w5.cell? ⟨R + 1, 1, none⟩ = some (.slice so x sc) ∧ w5.frozen? ⟨R + 1, 1, none⟩ = false ∧ NqI w R (R + 1) M d (cubT d (x + 1)) (w5.setCell ⟨R + 1, 1, none⟩ v') ∧ (w5.setCell ⟨R + 1, 1, none⟩ v').ownsRow M 3 1 (.slice (some ⟨M, 0, none⟩) d d) d (ints (digL d x))) := by
        have hc := copy_any 0 (digL d x) (.slice (some ⟨M, 0, none⟩) d d) wa.drew (Sl.own (w := wa.drew) ho.drew) (by rw [digL, digT_len]; omega)
        rw [show (digL d x).length = d by rw [digL, digT_len]] at hc
        refine hc.mono ?_
        rintro e w3 ⟨u, rfl, hu, hb⟩
        obtain ⟨uo, uc, rfl⟩ := owns_form hu
        have hb' : Below wa.heap.size wa w3 := ((Below.refl _ _).drew).trans hb
        have hsn : SlN (M + 1) w3 (.slice uo d uc) (ints (digL d x)) := (SlN.own hu).mono HI.out.sz
        obtain ⟨so2, sc2, vs, q1, q2, q3, q4⟩ := HI.out.push hb' hsn
        rw [cubT_len] at q1 q2 q4
        have e := (hb'.cell (lt_of_cell HQB.out)).trans HQB.out
        rw [q1] at e
        simp only [Option.some.injEq, Value.slice.injEq] at e
        obtain ⟨rfl, -, rfl⟩ := e
        rw [← cubT_succ] at q4
        refine ⟨uo, uc, vs, rfl, q1, (((Below.refl w3.heap.size w3).alloc (Nat.le_refl _) _).cell (lt_of_cell q1)).trans q1, q2, by simp; omega, fun v' w5 hv hg => ?_⟩
        obtain ⟨k1, k2, k3, _, k5⟩ := q4 v' w5 hv hg
        exact ⟨k1, k2, k3, own_blk HO.out (k5.trans (hb'.block M (by have := HI.out.sz; omega)))⟩
      clear ho hi hbox hfr hx hgk
      go_wp2
      go_region_law (first
        | (refine step_call (o := { dst := some 92, op := _, type := _, pos := _, after := _, guard := _ }) (by rfl) 17 _ 35 (by rfl) _ (by rfl) ⟨_, Try.func17, by rfl, by rfl⟩ ?_; refine (HCP.out).mono ?_; rintro e w3 ⟨uo, uc, vs, rfl, KA, KB, q2, q3, q4⟩; refine ⟨_, rfl, ?_⟩; have KE : Hid (w3.ownsRow (M + 1) 35 1 (.slice so x sc) x vs) := q2; have KF : Hid (M + 1 ≤ (w3.alloc (.cells #[.slice uo d uc] 35)).heap.size) := q3; have KG : Hid _ := q4; clear q2 q3 q4)
        | (refine step_append_own (o := { dst := some 94, op := _, type := _, pos := _, after := _, guard := _ }) (by rfl) _ _ 22 (by rfl) (M + 1) 35 i0 (.slice none 0 0) 1 24 Try.underlying22 hi0 hz0 hz1 hz2 rfl (by decide) _ _ _ (by rfl) (KE.out.alloc _) ⟨w3.heap.size, 0, none⟩ 1 1 [.slice uo d uc] (by rfl) rfl (one_new _ _ _) (one_slice _ _ _) (by unfold maxLen; omega) (by omega) KF.out ?_; intro v' w5 ho hg; obtain ⟨vo, vc, hv5⟩ := owns_form ho; subst hv5; obtain ⟨g1, g2, g3, g4⟩ := KG.out _ w5 ho hg; have HF : Hid (NqI w R (R + 1) M d (cubT d (x + 1)) (w5.setCell ⟨R + 1, 1, none⟩ (.slice vo (x + 1) vc)) ∧ (w5.setCell ⟨R + 1, 1, none⟩ (.slice vo (x + 1) vc)).ownsRow M 3 1 (.slice (some ⟨M, 0, none⟩) d d) d (ints (digL d x))) := ⟨g3, g4⟩; clear g3 g4 ho hg))
      all_goals
        clear HCP KE KF KG KA KB qb HQB HI HO
        have HNX := next_any M d x M d (w5.setCell ⟨R + 1, 1, none⟩ (.slice vo (x + 1) vc)) h1 h4 HX.out.1 HF.out.2
        have HNY : Hid (Calls Try.prog 18 #[.slice (some ⟨M, 0, none⟩) d d, .int .i64 2] (w5.setCell ⟨R + 1, 1, none⟩ (.slice vo (x + 1) vc)) fun e w' => ∃ bb k', e = .returned (.bool bb) ∧ k' < gk ∧ CbR w R d M k' (.bool bb) w') := HNX.mono (by
          rintro e w' (⟨rfl, hl, hr, ht⟩ | ⟨rfl, hl, ht⟩)
          · exact ⟨true, 2 ^ d - (x + 1), rfl, by have := HX.out; omega, .inl ⟨x + 1, hl, rfl, rfl, hr, HF.out.1.touch ht⟩⟩
          · refine ⟨false, 0, rfl, by have := HX.out; omega, .inr ⟨rfl, rfl, ?_⟩⟩
            have h := HF.out.1.touch ht
            rw [hl] at h
            exact h)
        clear HNX HF
        go_wp2_with fail
        refine HNY.out.mono ?_
        rintro e w6 ⟨bb, k', rfl, hk', hr'⟩
        have HK' : Hid (k' < gk ∧ CbR w R d M k' (.bool bb) w6) := ⟨hk', hr'⟩
        clear hk' hr' HNY
        go_wp2
        go_roundg k'
        case measure => exact HK'.out.1
        case rel => exact HK'.out.2
    · have HK := hi.toI
      obtain ⟨bo, bc, m0, m1, r0, r1, rf0, rf1, hmat, hbel⟩ := HK.fin
      have HMT : Hid (Mat 0 35 3 ((wa.setCell ⟨R, 0, none⟩ (.int .i64 (d : Int))).setCell ⟨R, 1, none⟩ (.slice bo (cubT d (2 ^ d)).length bc)) (.slice bo (cubT d (2 ^ d)).length bc) (cubT d (2 ^ d))) := hmat
      have HBX : Hid (Below w.heap.size w ((wa.setCell ⟨R, 0, none⟩ (.int .i64 (d : Int))).setCell ⟨R, 1, none⟩ (.slice bo (cubT d (2 ^ d)).length bc))) := hbel
      clear hmat hbel hi HK
      generalize (cubT d (2 ^ d)).length = cl at *
      go_wp2
      exact bodyPost_ret (v := .tuple #[.agg #[.int .i64 (d : Int), .slice bo cl bc], .int .i64 0]) (by simp [results, Try.results9, go_sem, *]) rfl ⟨_, rfl, HMT.out, HBX.out⟩

end Go.Proofs.Ytiadekblckngiaa
