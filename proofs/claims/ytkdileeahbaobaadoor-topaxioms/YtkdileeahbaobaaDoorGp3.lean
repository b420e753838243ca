/- facetref.greatest: what it gives. -/
import Derived.Test.YtkdileeahbaobaaDoorMt8
import Derived.Test.YtkdileeahbaobaaDoorAp1
namespace Go.Proofs.YtkdileeahbaobaaDoor
open Go.RowKit
attribute [local go_sem ↓] Go.wp_at_zero Go.wp_at_succ

/-- The most things that one of the first sets has. -/
def mxS (l : List Int) : Nat → Nat
  | 0 => 0
  | k + 1 => max (mxS l k) (mem8 (l.getD k 0).toNat).length

/-- Of the first sets those of q things. -/
def grF (q : Nat) (l : List Int) (k : Nat) : List Int := (l.take k).filter fun z => (mem8 z.toNat).length == q

theorem grF_succ (q : Nat) (l : List Int) (k : Nat) (h : k < l.length) : grF q l (k + 1) = grF q l k ++ (if (mem8 (l.getD k 0).toNat).length = q then [l.getD k 0] else []) := by
  unfold grF
  have e : l.take (k + 1) = l.take k ++ [l.getD k 0] := by
    rw [List.take_add_one]; simp [h]
  rw [e, List.filter_append]
  congr 1
  by_cases c : (mem8 (l.getD k 0).toNat).length = q
  · rw [if_pos c, List.filter_cons, if_pos (by simpa using c), List.filter_nil]
  · rw [if_neg c, List.filter_cons, if_neg (by simpa using c), List.filter_nil]

/-- Of free sets those of the most things. -/
def greL (l : List Int) : List Int := grF (mxS l l.length) l l.length

/-- The matroid that is made: its box, and the row of its bases. -/
structure GsI (w wa : World) (N : Int) (ys : List Int) (k : Nat) (wr : World) : Prop where
  res : wr.heap[w.heap.size]? = some (.cells #[.int .i64 0, .slice none 0 0] 25 (0, 0))
  box : ∃ sv xs, wr.heap[wa.heap.size]? = some (.cells #[.int .i64 N, sv] 25 (0, 0)) ∧ wr.ownsRow (wa.heap.size + 1) 3 1 sv xs.length (ints xs) ∧ xs.length ≤ k ∧ xs = ys
  bel : Below w.heap.size w wr
  sz : wa.heap.size + 1 ≤ wr.heap.size

set_option maxRecDepth 100000 in
set_option maxHeartbeats 1600000 in
theorem greatest_is (N : Int) (l : List Int) (v : Value) (w : World) (hv : Sl w.heap.size 3 w v (ints l)) (hl : l.length ≤ 1000) (hb8 : ∀ x ∈ l, 0 ≤ x ∧ x < 256) :
    Calls Tryd.prog 28 #[.int .i64 N, v] w fun e w' => ∃ u, e = .returned (.agg #[.int .i64 N, u]) ∧ Sl 0 3 w' u (ints (greL l)) ∧ Below w.heap.size w w' := by
  obtain ⟨i3, hi3, hz30, hz31, hz32⟩ := info_parts Tryd.info3
  obtain ⟨lo, lc, hvv, hlc, hcm⟩ := sl_open hv
  subst hvv
  have HV : Hid (∀ W', Below w.heap.size w W' → Sl w.heap.size 3 W' (.slice lo l.length lc) (ints l)) := fun W' h => hv.below h (Nat.le_refl _)
  have HX : Hid (∀ k, k < l.length → ∃ x : Nat, l.getD k 0 = (x : Int) ∧ x < 256) := fun k hk => by
    obtain ⟨h1, h2⟩ := hb8 (l.getD k 0) (by simp [hk])
    exact ⟨(l.getD k 0).toNat, by omega, by omega⟩
  have HSZ : Hid (∀ W' (x : Nat), x < 256 → Calls Tryd.prog 7 #[.int .i64 x] W' fun e w' => e = .returned (.int .i64 (mem8 x).length) ∧ Below W'.heap.size W' w') := fun W' x hx => size8_any x W' hx
  obtain ⟨W, hW⟩ : ∃ W, W = w.alloc (.cells #[.int .i64 0, .slice none 0 0] 25) := ⟨_, rfl⟩
  have HBA : Hid (Below w.heap.size w W) := by rw [hW]; exact (Below.refl _ _).alloc (Nat.le_refl _) _
  have HR0 : Hid (W.heap[w.heap.size]? = some (.cells #[.int .i64 0, .slice none 0 0] 25 (0, 0))) := by rw [hW]; exact heap_alloc_new w _
  have HWS : Hid (W.heap.size = w.heap.size + 1) := by rw [hW]; show _ = _; simp
  clear hv hb8
  go_enter Tryd.func28, Tryd.ntmps28
  go_wp2
  rw [← hW]
  clear hW
  go_loopw [5, 6] (fun mv i wr => ∃ k q : Nat, k ≤ l.length ∧ i = .int .i64 k ∧ mv = .int .i64 q ∧ q = mxS l k ∧ Below W.heap.size W wr) (fun _ i _ => l.length - (intOf i).toNat)
  case atStart => exact ⟨0, 0, Nat.zero_le _, rfl, rfl, rfl, Below.refl _ _⟩
  case round =>
    obtain ⟨k, q, hk, rfl, rfl, hqm, hbr⟩ := hrel
    have HQM : Hid (q = mxS l k) := hqm
    clear hqm
    have HBR : Hid (Below W.heap.size W wr) := hbr
    clear hbr
    have HBW : Hid (Below w.heap.size w wr) := HBA.out.trans (HBR.out.mono HBA.out.size)
    by_cases hlt : k < l.length
    · obtain ⟨lb, lq, _, hs, _, hcx⟩ := sl_cell (HV.out wr HBW.out) hlt
      simp only [Value.slice.injEq] at hs
      obtain ⟨rfl, -, -⟩ := hs
      obtain ⟨x, hx, hx8⟩ := HX.out k hlt
      rw [hx] at hcx
      have HMX : Hid (mxS l (k + 1) = max q (mem8 x).length) := by
        show _ = _
        rw [HQM.out]
        show max (mxS l k) (mem8 (l.getD k 0).toNat).length = _
        rw [hx]; rfl
      clear hx
      have kI : (k : Int) < (l.length : Int) := by omega
      have kI0 : (0 : Int) ≤ (k : Int) := by omega
      have HS := HSZ.out
      have HSX : Hid (∀ W', Calls Tryd.prog 7 #[.int .i64 x] W' fun e w' => e = .returned (.int .i64 (mem8 x).length) ∧ Below W'.heap.size W' w') := fun W' => HS W' x hx8
      clear HS
      generalize (mem8 x).length = sx at *
      go_wp2_with fail
      refine (HSX.out _).mono ?_
      rintro e w3 ⟨rfl, hb3⟩
      have HB3 : Hid (Below W.heap.size W w3) := HBR.out.trans (hb3.mono HBR.out.size)
      have hcx3 := (hb3.cell (lt_of_cell hcx)).trans hcx
      clear hb3 hcx
      by_cases hgt : (q : Int) < (sx : Int)
      · have t1 : decide ((q : Int) < (sx : Int)) = true := decide_eq_true hgt
        have t2 : q < sx := by omega
        go_wp2_with fail
        refine (HSX.out _).mono ?_
        rintro e w4 ⟨rfl, hb4⟩
        have HB4 : Hid (Below W.heap.size W w4) := HB3.out.trans (hb4.mono HB3.out.size)
        clear hb4 hcx3
        go_wp2
        exact ⟨⟨k + 1, sx, by omega, by go_num, rfl, by rw [HMX.out]; omega, HB4.out⟩, by simp [intOf]; omega⟩
      · have t1 : decide ((q : Int) < (sx : Int)) = false := decide_eq_false hgt
        have t2 : sx ≤ q := by omega
        go_wp2
        exact ⟨⟨k + 1, q, by omega, by go_num, rfl, by rw [HMX.out]; omega, HB3.out⟩, by simp [intOf]; omega⟩
    · have hke : k = l.length := by omega
      subst hke
      obtain ⟨wa, rfl⟩ : ∃ wa, wa = wr := ⟨wr, rfl⟩
      have HR3 : Hid (wa.heap[w.heap.size]? = some (.cells #[.int .i64 0, .slice none 0 0] 25 (0, 0))) := (HBR.out.block _ (by rw [HWS.out]; omega)).trans HR0.out
      have hwz : w.heap.size < wa.heap.size := by have := HBR.out.size; rw [HWS.out] at this; omega
      have HI0 : Hid (GsI w wa N [] 0 (wa.alloc (.cells #[.int .i64 N, .slice none 0 0] 25))) := ⟨(Below.heap_alloc _ _ _ hwz).trans HR3.out, ⟨_, [], heap_alloc_new wa _, World.ownsRow_nil _ _ _ _, Nat.le_refl _, rfl⟩, HBW.out.alloc (by omega) _, by simp⟩
      go_wp2
      go_loopw [8] (fun i wr => ∃ k : Nat, k ≤ l.length ∧ i = .int .i64 k ∧ GsI w wa N (grF q l k) k wr) (fun i _ => l.length - (intOf i).toNat)
      case atStart => exact ⟨0, Nat.zero_le _, rfl, HI0.out⟩
      case round =>
        obtain ⟨k, hk, rfl, hgi⟩ := hrel
        have HGI : Hid (GsI w wa N (grF q l k) k wr) := hgi
        clear hgi
        by_cases hlt : k < l.length
        · obtain ⟨lb, lq, _, hs, _, hcx⟩ := sl_cell (HV.out wr HGI.out.bel) hlt
          simp only [Value.slice.injEq] at hs
          obtain ⟨rfl, -, -⟩ := hs
          obtain ⟨x, hx, hx8⟩ := HX.out k hlt
          rw [hx] at hcx
          have HGF : Hid (grF q l (k + 1) = grF q l k ++ (if (mem8 x).length = q then [(x : Int)] else [])) := by
            show _ = _
            rw [grF_succ q l k hlt, hx]; rfl
          clear hx
          have kI : (k : Int) < (l.length : Int) := by omega
          have kI0 : (0 : Int) ≤ (k : Int) := by omega
          have HS := HSZ.out
          have HSX : Hid (∀ W', Calls Tryd.prog 7 #[.int .i64 x] W' fun e w' => e = .returned (.int .i64 (mem8 x).length) ∧ Below W'.heap.size W' w') := fun W' => HS W' x hx8
          clear HS
          generalize (mem8 x).length = sx at *
          go_wp2_with fail
          refine (HSX.out _).mono ?_
          rintro e w3 ⟨rfl, hb3⟩
          have hcx3 := (hb3.cell (lt_of_cell hcx)).trans hcx
          obtain ⟨sv, xs, hbox, hown, hxl, hxy⟩ := HGI.out.box
          have hsz0 := HGI.out.sz
          have hbox3 : w3.heap[wa.heap.size]? = some (.cells #[.int .i64 N, sv] 25 (0, 0)) := (hb3.block _ (by omega)).trans hbox
          have hown3 : w3.ownsRow (wa.heap.size + 1) 3 1 sv xs.length (ints xs) := by
            refine ⟨hown.1, ?_⟩
            rcases hown.2 with h1 | ⟨g, cap, cur, e1, h2, h3, h4⟩
            · exact .inl h1
            · exact .inr ⟨g, cap, cur, e1, h2, (hb3.block g (Array.getElem?_eq_some_iff.1 h3).1).trans h3, h4⟩
          have HG3 : Hid (GsI w wa N (grF q l k) k w3) := ⟨(hb3.block _ (by omega)).trans HGI.out.res, ⟨sv, xs, hbox3, hown3, hxl, hxy⟩, HGI.out.bel.trans (hb3.mono HGI.out.bel.size), Nat.le_trans hsz0 hb3.size⟩
          have HXY : Hid (xs = grF q l k) := hxy
          clear hb3 hcx HGI hbox hown hxy
          by_cases heq : (sx : Int) = (q : Int)
          · have t1 : ((sx : Int) == (q : Int)) = true := by rw [heq]; simp
            have hm1 : w3.cell? ⟨wa.heap.size, 1, none⟩ = some sv := by simp [World.cell?, hbox3]
            have hm1d : w3.drew.cell? ⟨wa.heap.size, 1, none⟩ = some sv := hm1
            have hm2 : (w3.drew.alloc (.cells #[.int .i64 x] 3)).cell? ⟨wa.heap.size, 1, none⟩ = some sv := (((Below.refl w3.drew.heap.size w3.drew).alloc (Nat.le_refl _) _).cell (lt_of_cell hm1d)).trans hm1d
            have hm3 : (w3.alloc (.cells #[.int .i64 x] 3)).cell? ⟨wa.heap.size, 1, none⟩ = some sv := hm2
            have HOA : Hid ((w3.drew.alloc (.cells #[.int .i64 x] 3)).ownsRow (wa.heap.size + 1) 3 1 sv xs.length (ints xs)) := World.ownsRow.alloc (w := w3.drew) ⟨hown3.1, hown3.2⟩ _
            have hs3 := HG3.out.sz
            have HSZ1 : Hid (wa.heap.size + 1 ≤ (w3.drew.alloc (.cells #[.int .i64 x] 3)).heap.size) := by show _ ≤ _; simp; omega
            have HFIN : Hid (∀ v' w5, w5.ownsRow (wa.heap.size + 1) 3 1 v' (xs.length + 1) (ints xs ++ [.int .i64 x]) → (w3.drew.alloc (.cells #[.int .i64 x] 3)).grownBy w5 sv.ownBlock → w5.cell? ⟨wa.heap.size, 1, none⟩ = some sv ∧ w5.frozen? ⟨wa.heap.size, 1, none⟩ = false ∧ GsI w wa N (grF q l (k + 1)) (k + 1) (w5.setCell ⟨wa.heap.size, 1, none⟩ v')) := fun v' w5 ho hg => by
              have hne : ∀ b, b < wa.heap.size + 1 → w5.heap[b]? = w3.heap[b]? := fun b hb => by
                refine (hg.block b (by simp; omega) (fun e => ?_)).trans (Below.heap_alloc w3.drew _ b (by show b < w3.heap.size; omega))
                have := (hown3.lt b e.symm).1
                omega
              have hbx := (hne wa.heap.size (by omega)).trans hbox3
              refine ⟨by simp [World.cell?, hbx], by simp [World.frozen?, hbx], ?_, ⟨v', xs ++ [(x : Int)], ?_, ?_, ?_, by rw [HGF.out, if_pos (by omega), HXY.out]⟩, ?_, ?_⟩
              · exact (Below.heap_setCell _ _ _ _ (by show w.heap.size ≠ wa.heap.size; omega)).trans ((hne _ (by omega)).trans HG3.out.res)
              · simp [World.setCell, Array.getElem?_modify, hbx]
              · have e1 : ints (xs ++ [(x : Int)]) = ints xs ++ [.int .i64 (x : Int)] := by simp [ints]
                rw [e1, List.length_append, List.length_singleton]
                refine ⟨ho.1, ?_⟩
                rcases ho.2 with h1 | ⟨g, cap, cur, f1, f2, f3, f4⟩
                · exact .inl h1
                · exact .inr ⟨g, cap, cur, f1, f2, (Below.heap_setCell _ _ _ _ (by show g ≠ wa.heap.size; omega)).trans f3, f4⟩
              · rw [List.length_append, List.length_singleton]; omega
              · have hb5 : Below w.heap.size w w5 := ⟨hg.os.trans HG3.out.bel.os, hg.tape.trans HG3.out.bel.tape, hg.output.trans HG3.out.bel.output, Nat.le_trans HG3.out.bel.size (Nat.le_trans (by simp) hg.size), fun b hb => (hne b (by omega)).trans (HG3.out.bel.block b hb)⟩
                exact ⟨hb5.os, hb5.tape, hb5.output, by simp only [World.setCell, Array.size_modify]; exact hb5.size, fun b hb => (Below.heap_setCell _ _ _ _ (by show b ≠ wa.heap.size; omega)).trans (hb5.block b hb)⟩
              · simp only [World.setCell, Array.size_modify]
                exact Nat.le_trans hs3 (Nat.le_trans (by simp) hg.size)
            have hcx4 : (w3.drew).cell? ⟨lb, lq + k, none⟩ = some (.int .i64 x) := hcx3
            have hxk : xs.length ≤ 1000 := by omega
            clear hbox3 hown3 heq
            go_wp2
            refine wp_region_held_drew (S := fun _ => True) (by kernel_rfl) trivial (fun hHeld => ?_)
            refine wpAnyH_tk (i := 0) (d := 42) (v := (.pointer (some ⟨wa.heap.size, 1, none⟩))) rfl rfl (by kernel_rfl) (by kernel_rfl) (by kernel_rfl) (fun _ _ _ h => h) (.inl ⟨by rfl, by (intro wq hSw; (try dsimp only at hSw); go_simp; (try (first | rfl | omega)))⟩) hHeld ?_
            simp only [Act.put, List.setIfInBounds_toArray, List.set_cons_zero, List.set_cons_succ]
            refine wpAnyH_tk (i := 2) (d := 44) (v := (.slice (some ⟨lb, lq, none⟩) l.length lc)) rfl rfl (by kernel_rfl) (by kernel_rfl) (by kernel_rfl) (fun _ _ _ h => h) (.inl ⟨by rfl, by (intro wq hSw; (try dsimp only at hSw); go_simp; (try (first | rfl | omega)))⟩) hHeld ?_
            simp only [Act.put, List.setIfInBounds_toArray, List.set_cons_zero, List.set_cons_succ]
            refine wpAnyH_tk (i := 3) (d := 45) (v := (.int .i64 k)) rfl rfl (by kernel_rfl) (by kernel_rfl) (by kernel_rfl) (fun _ _ _ h => h) (.inl ⟨by rfl, by (intro wq hSw; (try dsimp only at hSw); go_simp; (try (first | rfl | omega)))⟩) hHeld ?_
            simp only [Act.put, List.setIfInBounds_toArray, List.set_cons_zero, List.set_cons_succ]
            refine wpAnyH_tk (i := 4) (d := 46) (v := (.pointer (some ⟨lb, lq + k, none⟩))) rfl rfl (by kernel_rfl) (by kernel_rfl) (by kernel_rfl) (fun _ _ _ h => h) (.inl ⟨by rfl, by (intro wq hSw; (try dsimp only at hSw); go_simp; (try (first | rfl | omega)))⟩) hHeld ?_
            simp only [Act.put, List.setIfInBounds_toArray, List.set_cons_zero, List.set_cons_succ]
            refine wpAnyH_ready (rs := [1, 5]) (by kernel_rfl) (by simp) ?_
            refine ready_tk (i := 1) rfl (by rfl) (fun K hK => ?_) (ready_tk (i := 5) rfl (by rfl) (fun K hK => ?_) AllReadyH.nil)
            · go_simp
              refine hK.out _ _ trivial (fun hHeld => ?_)
              clear hK K
              refine wpAnyH_ready (rs := [5]) (by kernel_rfl) (by simp) ?_
              refine ready_tk (i := 5) rfl (by rfl) (fun K hK => ?_) AllReadyH.nil
              go_simp
              refine hK.out _ _ trivial (fun hHeld => ?_)
              clear hK K
              refine wpAnyH_ready (rs := [6]) (by kernel_rfl) (by simp) ?_
              refine ready_tk (i := 6) rfl (by rfl) (fun K hK => ?_) AllReadyH.nil
              go_simp
              refine hK.out _ _ trivial (fun hHeld => ?_)
              clear hK K
              refine wpAnyH_ready (rs := [7]) (by kernel_rfl) (by simp) ?_
              refine ready_tk (i := 7) rfl (by rfl) (fun K hK => ?_) AllReadyH.nil
              refine op_append_ownA (.tmp 43) (.tmp 48) 22 (by rfl) (wa.heap.size + 1) 3 i3 (.int .i64 0) 1 8 Tryd.underlying22 hi3 hz30 hz31 hz32 rfl (by decide) _ _ _ (by rfl) HOA.out ⟨w3.heap.size, 0, none⟩ 1 1 [.int .i64 x] (by rfl) rfl (one_new _ _ _) (one_int _) (by unfold maxLen; omega) (by omega) HSZ1.out ?_
              intro v' w5 ho5 hg5 _
              refine hK.out _ _ trivial (fun hHeld => ?_)
              clear hK K
              simp only [Act.put, List.setIfInBounds_toArray, List.set_cons_zero, List.set_cons_succ]
              obtain ⟨vo, vc, hvv5⟩ := owns_form ho5
              subst hvv5
              have HEND := HFIN.out _ w5 ho5 hg5
              obtain ⟨g1, g2, g3⟩ := HEND
              have G3 : Hid (GsI w wa N (grF q l (k + 1)) (k + 1) (w5.setCell ⟨wa.heap.size, 1, none⟩ (.slice vo (xs.length + 1) vc))) := g3
              clear g3 ho5 hg5
              refine wpAnyH_tk (i := 8) (d := 50) (v := (.pointer (some ⟨wa.heap.size, 1, none⟩))) rfl rfl (by kernel_rfl) (by kernel_rfl) (by kernel_rfl) (fun _ _ _ h => h) (.inl ⟨by rfl, by (intro wq hSw; (try dsimp only at hSw); go_simp; (try (first | rfl | omega)))⟩) hHeld ?_
              simp only [Act.put, List.setIfInBounds_toArray, List.set_cons_zero, List.set_cons_succ]
              refine wpAnyH_ready (rs := [9]) (by kernel_rfl) (by simp) ?_
              refine ready_tk (i := 9) rfl (by rfl) (fun K hK => ?_) AllReadyH.nil
              go_simp
              refine hK.out _ _ trivial (fun hHeld => ?_)
              clear hK K
              refine wpAnyH_done (by kernel_rfl) ?_ _
              clear hHeld g1 g2
              go_wp2
              exact ⟨⟨k + 1, by omega, by go_num, G3.out⟩, by simp [intOf]; omega⟩
            · go_simp
              refine hK.out _ _ trivial (fun hHeld => ?_)
              clear hK K
              refine wpAnyH_ready (rs := [1, 6]) (by kernel_rfl) (by simp) ?_
              refine ready_tk (i := 1) rfl (by rfl) (fun K hK => ?_) (ready_tk (i := 6) rfl (by rfl) (fun K hK => ?_) AllReadyH.nil)
              · go_simp
                refine hK.out _ _ trivial (fun hHeld => ?_)
                clear hK K
                refine wpAnyH_ready (rs := [6]) (by kernel_rfl) (by simp) ?_
                refine ready_tk (i := 6) rfl (by rfl) (fun K hK => ?_) AllReadyH.nil
                go_simp
                refine hK.out _ _ trivial (fun hHeld => ?_)
                clear hK K
                refine wpAnyH_ready (rs := [7]) (by kernel_rfl) (by simp) ?_
                refine ready_tk (i := 7) rfl (by rfl) (fun K hK => ?_) AllReadyH.nil
                refine op_append_ownA (.tmp 43) (.tmp 48) 22 (by rfl) (wa.heap.size + 1) 3 i3 (.int .i64 0) 1 8 Tryd.underlying22 hi3 hz30 hz31 hz32 rfl (by decide) _ _ _ (by rfl) HOA.out ⟨w3.heap.size, 0, none⟩ 1 1 [.int .i64 x] (by rfl) rfl (one_new _ _ _) (one_int _) (by unfold maxLen; omega) (by omega) HSZ1.out ?_
                intro v' w5 ho5 hg5 _
                refine hK.out _ _ trivial (fun hHeld => ?_)
                clear hK K
                simp only [Act.put, List.setIfInBounds_toArray, List.set_cons_zero, List.set_cons_succ]
                obtain ⟨vo, vc, hvv5⟩ := owns_form ho5
                subst hvv5
                have HEND := HFIN.out _ w5 ho5 hg5
                obtain ⟨g1, g2, g3⟩ := HEND
                have G3 : Hid (GsI w wa N (grF q l (k + 1)) (k + 1) (w5.setCell ⟨wa.heap.size, 1, none⟩ (.slice vo (xs.length + 1) vc))) := g3
                clear g3 ho5 hg5
                refine wpAnyH_tk (i := 8) (d := 50) (v := (.pointer (some ⟨wa.heap.size, 1, none⟩))) rfl rfl (by kernel_rfl) (by kernel_rfl) (by kernel_rfl) (fun _ _ _ h => h) (.inl ⟨by rfl, by (intro wq hSw; (try dsimp only at hSw); go_simp; (try (first | rfl | omega)))⟩) hHeld ?_
                simp only [Act.put, List.setIfInBounds_toArray, List.set_cons_zero, List.set_cons_succ]
                refine wpAnyH_ready (rs := [9]) (by kernel_rfl) (by simp) ?_
                refine ready_tk (i := 9) rfl (by rfl) (fun K hK => ?_) AllReadyH.nil
                go_simp
                refine hK.out _ _ trivial (fun hHeld => ?_)
                clear hK K
                refine wpAnyH_done (by kernel_rfl) ?_ _
                clear hHeld g1 g2
                go_wp2
                exact ⟨⟨k + 1, by omega, by go_num, G3.out⟩, by simp [intOf]; omega⟩
              · go_simp
                refine hK.out _ _ trivial (fun hHeld => ?_)
                clear hK K
                refine wpAnyH_ready (rs := [1]) (by kernel_rfl) (by simp) ?_
                refine ready_tk (i := 1) rfl (by rfl) (fun K hK => ?_) AllReadyH.nil
                go_simp
                refine hK.out _ _ trivial (fun hHeld => ?_)
                clear hK K
                refine wpAnyH_ready (rs := [7]) (by kernel_rfl) (by simp) ?_
                refine ready_tk (i := 7) rfl (by rfl) (fun K hK => ?_) AllReadyH.nil
                refine op_append_ownA (.tmp 43) (.tmp 48) 22 (by rfl) (wa.heap.size + 1) 3 i3 (.int .i64 0) 1 8 Tryd.underlying22 hi3 hz30 hz31 hz32 rfl (by decide) _ _ _ (by rfl) HOA.out ⟨w3.heap.size, 0, none⟩ 1 1 [.int .i64 x] (by rfl) rfl (one_new _ _ _) (one_int _) (by unfold maxLen; omega) (by omega) HSZ1.out ?_
                intro v' w5 ho5 hg5 _
                refine hK.out _ _ trivial (fun hHeld => ?_)
                clear hK K
                simp only [Act.put, List.setIfInBounds_toArray, List.set_cons_zero, List.set_cons_succ]
                obtain ⟨vo, vc, hvv5⟩ := owns_form ho5
                subst hvv5
                have HEND := HFIN.out _ w5 ho5 hg5
                obtain ⟨g1, g2, g3⟩ := HEND
                have G3 : Hid (GsI w wa N (grF q l (k + 1)) (k + 1) (w5.setCell ⟨wa.heap.size, 1, none⟩ (.slice vo (xs.length + 1) vc))) := g3
                clear g3 ho5 hg5
                refine wpAnyH_tk (i := 8) (d := 50) (v := (.pointer (some ⟨wa.heap.size, 1, none⟩))) rfl rfl (by kernel_rfl) (by kernel_rfl) (by kernel_rfl) (fun _ _ _ h => h) (.inl ⟨by rfl, by (intro wq hSw; (try dsimp only at hSw); go_simp; (try (first | rfl | omega)))⟩) hHeld ?_
                simp only [Act.put, List.setIfInBounds_toArray, List.set_cons_zero, List.set_cons_succ]
                refine wpAnyH_ready (rs := [9]) (by kernel_rfl) (by simp) ?_
                refine ready_tk (i := 9) rfl (by rfl) (fun K hK => ?_) AllReadyH.nil
                go_simp
                refine hK.out _ _ trivial (fun hHeld => ?_)
                clear hK K
                refine wpAnyH_done (by kernel_rfl) ?_ _
                clear hHeld g1 g2
                go_wp2
                exact ⟨⟨k + 1, by omega, by go_num, G3.out⟩, by simp [intOf]; omega⟩
          · have t1 : ((sx : Int) == (q : Int)) = false := by rw [beq_eq_false_iff_ne]; exact heq
            have HG4 : Hid (GsI w wa N (grF q l (k + 1)) (k + 1) w3) := ⟨HG3.out.res, ⟨sv, xs, hbox3, hown3, by omega, by rw [HGF.out, if_neg (by omega), HXY.out, List.append_nil]⟩, HG3.out.bel, HG3.out.sz⟩
            clear heq hbox3 hown3
            go_wp2
            exact ⟨⟨k + 1, by omega, by go_num, HG4.out⟩, by simp [intOf]; omega⟩
        · obtain ⟨sv, xs, hbox, hown, hxl, hxy⟩ := HGI.out.box
          have HXE : Hid (xs = greL l) := by
            show _ = _
            have hke : k = l.length := by omega
            rw [hxy, hke, HQM.out]; rfl
          clear hxy
          have m0 : wr.cell? ⟨wa.heap.size, 0, none⟩ = some (.int .i64 N) := by simp [World.cell?, hbox]
          have m1 : wr.cell? ⟨wa.heap.size, 1, none⟩ = some sv := by simp [World.cell?, hbox]
          have hres := HGI.out.res
          have r0 : wr.cell? ⟨w.heap.size, 0, none⟩ = some (.int .i64 0) := by simp [World.cell?, hres]
          have r1 : wr.cell? ⟨w.heap.size, 1, none⟩ = some (.slice none 0 0) := by simp [World.cell?, hres]
          have rf0 : wr.frozen? ⟨w.heap.size, 0, none⟩ = false := by simp [World.frozen?, hres]
          have rf1 : wr.frozen? ⟨w.heap.size, 1, none⟩ = false := by simp [World.frozen?, hres]
          have HOW : Hid (wr.ownsRow (wa.heap.size + 1) 3 1 sv xs.length (ints xs)) := hown
          obtain ⟨so, sc, rfl⟩ := owns_form hown
          clear hbox hown hres
          have HBX : Hid (Below w.heap.size w ((wr.setCell ⟨w.heap.size, 0, none⟩ (.int .i64 N)).setCell ⟨w.heap.size, 1, none⟩ (.slice so xs.length sc))) := (HGI.out.bel.setCell (by simp) _).setCell (by simp) _
          have HSX : Hid (Sl 0 3 ((wr.setCell ⟨w.heap.size, 0, none⟩ (.int .i64 N)).setCell ⟨w.heap.size, 1, none⟩ (.slice so xs.length sc)) (.slice so xs.length sc) (ints xs)) := by
            have h1 : ((wr.setCell ⟨w.heap.size, 0, none⟩ (.int .i64 N)).setCell ⟨w.heap.size, 1, none⟩ (.slice so xs.length sc)).ownsRow (wa.heap.size + 1) 3 1 (.slice so xs.length sc) xs.length (ints xs) := by
              refine ⟨HOW.out.1, ?_⟩
              rcases HOW.out.2 with h1 | ⟨g, cap, cur, e1, h2, h3, h4⟩
              · exact .inl h1
              · exact .inr ⟨g, cap, cur, e1, h2, (Below.heap_setCell _ _ _ _ (by show g ≠ w.heap.size; omega)).trans ((Below.heap_setCell _ _ _ _ (by show g ≠ w.heap.size; omega)).trans h3), h4⟩
            exact Sl.own h1
          go_wp2
          exact bodyPost_ret (v := .agg #[.int .i64 N, .slice so xs.length sc]) (by simp [results, Tryd.results28, go_sem, *]) rfl ⟨_, rfl, by rw [← HXE.out]; exact HSX.out, HBX.out⟩

end Go.Proofs.YtkdileeahbaobaaDoor
