import Derived.Test.YtcmemhdlendlkaaDoorOr1
import Derived.Test.YtcmemhdlendlkaaDoorTkA
import Derived.Test.YtcmemhdlendlkaaDoorPs1
/- poset.grown$1. -/
namespace Go.Proofs.YtcmemhdlendlkaaDoor
open Go.RowKit
attribute [local go_sem ↓] Go.wp_at_zero Go.wp_at_succ

theorem infoSlG : (Tryd.prog.info? 27).map (fun i => (i.zero, i.size, i.bytes)) = some (some (.slice none 0 0), 1, 24) := by kernel_rfl

theorem GrI.six {w wr : World} {b a n : Nat} {f : Nat → Nat} {h : List Int} {ls : List (List Int)} {lv : Value} (H : GrI w b a n f h ls wr) (hc : wr.cell? ⟨b + 1, 0, none⟩ = some lv) : lv.ownBlock ≠ some (b + 3) := by
  obtain ⟨ov, lv2, vs, t1, t2, t3, t4, t5, t6, t7⟩ := H.two
  have : wr.cell? ⟨b + 1, 0, none⟩ = some lv2 := by simp [World.cell?, t3]
  rw [this] at hc
  cases hc
  exact t6

theorem GrI.cells {w wr : World} {b a n : Nat} {f : Nat → Nat} {h : List Int} {ls : List (List Int)} (H : GrI w b a n f h ls wr) : ∃ so sc lo lc, wr.cell? ⟨b + 3, 0, none⟩ = some (.slice so h.length sc) ∧ wr.cell? ⟨b + 1, 0, none⟩ = some (.slice lo ls.length lc) ∧ wr.ownsRow (b + 2) 3 1 (.slice so h.length sc) h.length (ints h) ∧ wr.cell? ⟨b, 0, none⟩ = some (.slice (some ⟨a, 0, none⟩) n n) ∧ wr.cell? ⟨b + 4, 0, none⟩ = some (.func (.func 45) #[] (grA b)) := by
  obtain ⟨ov, lv, vs, t1, t2, t3, t4, t5, t6, t7⟩ := H.two
  obtain ⟨so, sc, rfl⟩ := owns_form t2
  obtain ⟨lo, lc, rfl⟩ := owns_form t5
  have h1 := H.ab
  have h2 := H.fn
  exact ⟨so, sc, lo, lc, by simp [World.cell?, t1], by simp [World.cell?, t3], t2, by simp [World.cell?, h1], by simp [World.cell?, h2]⟩

theorem LfH.none {n s : Nat} {h : List Int} (H : LfH n s h) (hl : n ≤ h.length) : s = 0 := by
  refine Nat.eq_of_testBit_eq fun u => ?_
  rw [Nat.zero_testBit]
  cases hb : s.testBit u
  · rfl
  · obtain ⟨h1, h2⟩ := (H.bit u).1 hb
    exact absurd (H.full hl h1) h2

theorem LfH.some {n s : Nat} {h : List Int} (H : LfH n s h) (hl : h.length < n) : s ≠ 0 := fun e => by
  subst e
  have h1 := nodup_len ((List.range n).map fun k : Nat => (k : Int)) h (by
    rw [List.nodup_iff_pairwise_ne, List.pairwise_map]
    exact (List.pairwise_lt_range (n := n)).imp (fun h => by omega)) (fun x hx => by
    obtain ⟨k, hk, rfl⟩ := List.mem_map.1 hx
    refine Classical.byContradiction fun hn => ?_
    have := (H.bit k).2 ⟨List.mem_range.1 hk, hn⟩
    simp at this)
  simp at h1
  omega

theorem LfH.lt {n s : Nat} {h : List Int} (H : LfH n s h) : s < 2 ^ n := by
  refine Nat.lt_pow_two_of_testBit _ fun k hk => ?_
  cases hb : s.testBit k
  · rfl
  · have := ((H.bit k).1 hb).1
    omega

set_option maxRecDepth 100000 in
set_option maxHeartbeats 3200000 in
theorem grown_leaf (w : World) (b a n : Nat) (f : Nat → Nat) (hn1 : 1 ≤ n) (hn : n ≤ 6) (h : List Int) (ls : List (List Int)) (wr : World) (hl : h.length = n) (hll : ls.length ≤ 1000000) (hI : GrI w b a n f h ls wr) :
    Calls Tryd.prog 45 #[.int .u64 0, .pointer (some ⟨b + 1, 0, none⟩), .pointer (some ⟨b + 3, 0, none⟩), .pointer (some ⟨b, 0, none⟩), .pointer (some ⟨b + 4, 0, none⟩)] wr fun e w' => e = .returned (.tuple #[]) ∧ GrI w b a n f h (ls ++ [h]) w' ∧ GrF b wr w' := by
  obtain ⟨i0, hi0, hz0, hz1, hz2⟩ := info_parts infoSlG
  obtain ⟨so, sc, lo1, lc1, c3, c1, hown, -, -⟩ := hI.cells
  have hp0 : 0 < h.length := by omega
  have HCL : Hid (Calls Tryd.prog 46 #[.slice so h.length sc] wr.drew fun e w' => ∃ u, e = .returned u ∧ w'.ownsRow wr.heap.size 3 1 u h.length (ints h) ∧ Below wr.heap.size wr w') := (clone_any 0 h _ wr.drew (Sl.own (w := wr.drew) (base := b + 2) (n := h.length) ⟨hown.1, hown.2⟩) (by omega)).mono (by
    rintro e w' ⟨u, h1, h2, h3⟩
    exact ⟨u, h1, h2, (Below.drew (Below.refl _ _)).trans h3⟩)
  have HI : Hid (GrI w b a n f h ls wr) := hI
  have c3d : wr.drew.cell? ⟨b + 3, 0, none⟩ = some (.slice so h.length sc) := c3
  have c1d : wr.drew.cell? ⟨b + 1, 0, none⟩ = some (.slice lo1 ls.length lc1) := c1
  have hl6 : h.length ≤ 6 := by omega
  clear hI hown hl
  go_enter Tryd.func45, Tryd.ntmps45
  go_wp2
  refine wp_region_held_drew (S := fun w' => w'.cell? ⟨b + 3, 0, none⟩ = some (.slice so h.length sc)) (by kernel_rfl) c3 (fun hHeld => ?_)
  refine wpAnyH_tk (i := 1) (d := 11) (v := (.slice so h.length sc)) rfl rfl (by kernel_rfl) (by kernel_rfl) (by kernel_rfl) (fun _ _ _ h => h) (.inl ⟨by rfl, by (intro wq hSw; (try dsimp only at hSw); go_simp; (try (first | rfl | omega)))⟩) hHeld ?_
  simp only [Act.put, List.setIfInBounds_toArray, List.set_cons_zero, List.set_cons_succ]
  refine wpAnyH_ready (rs := [0, 2]) (by kernel_rfl) (by simp) ?_
  refine ready_tk (i := 0) rfl (by rfl) (fun K hK => ?_) (ready_tk (i := 2) rfl (by rfl) (fun K hK => ?_) AllReadyH.nil)
  · go_simp
    refine hK.out _ _ c3 (fun hHeld => ?_)
    clear hK K
    refine wpAnyH_ready (rs := [2]) (by kernel_rfl) (by simp) ?_
    refine ready_tk (i := 2) rfl (by rfl) (fun K hK => ?_) AllReadyH.nil
    go_simp
    refine (HCL.out).mono ?_
    rintro e wc ⟨u, rfl, hu, hbc⟩
    obtain ⟨xo, xc, hxv⟩ := owns_form hu
    subst hxv
    obtain ⟨ov2, lo, lc, r1, r2, r3, vs, r4, r5⟩ := HI.out.list wc hbc hu hp0
    rw [c3] at r1
    have hov : ov2 = .slice so h.length sc := (Option.some.inj r1).symm
    subst hov
    have HFIN : Hid (∀ v' w5, w5.ownsRow (b + 2) 27 1 v' (ls.length + 1) (vs ++ [.slice xo h.length xc]) → (wc.alloc (.cells #[.slice xo h.length xc] 27)).grownBy w5 (Value.slice lo ls.length lc).ownBlock → (v'.ownBlock = (Value.slice lo ls.length lc).ownBlock ∨ v'.ownBlock = some (wc.alloc (.cells #[.slice xo h.length xc] 27)).heap.size) → w5.cell? ⟨b + 1, 0, none⟩ = some (.slice lo ls.length lc) ∧ w5.frozen? ⟨b + 1, 0, none⟩ = false ∧ (w5.setCell ⟨b + 1, 0, none⟩ v').cell? ⟨b + 3, 0, none⟩ = some (.slice so h.length sc) ∧ GrI w b a n f h (ls ++ [h]) (w5.setCell ⟨b + 1, 0, none⟩ v') ∧ GrF b wr (w5.setCell ⟨b + 1, 0, none⟩ v')) := r5
    have HOA : Hid ((wc.alloc (.cells #[.slice xo h.length xc] 27)).ownsRow (b + 2) 27 1 (.slice lo ls.length lc) ls.length vs) := r4.alloc _
    have hszc : b + 5 ≤ wc.heap.size := Nat.le_trans HI.out.sz hbc.size
    have HSZ1 : Hid (b + 2 ≤ (wc.alloc (.cells #[.slice xo h.length xc] 27)).heap.size) := by show _ ≤ _; simp; omega
    have c3c : wc.cell? ⟨b + 3, 0, none⟩ = some (.slice so h.length sc) := (hbc.cell (lt_of_cell c3)).trans c3
    have c1c : wc.cell? ⟨b + 1, 0, none⟩ = some (.slice lo ls.length lc) := r3
    have c1a : (wc.alloc (.cells #[.slice xo h.length xc] 27)).cell? ⟨b + 1, 0, none⟩ = some (.slice lo ls.length lc) := (((Below.refl wc.heap.size wc).alloc (Nat.le_refl _) _).cell (lt_of_cell c1c)).trans c1c
    have c3a : (wc.alloc (.cells #[.slice xo h.length xc] 27)).cell? ⟨b + 3, 0, none⟩ = some (.slice so h.length sc) := (((Below.refl wc.heap.size wc).alloc (Nat.le_refl _) _).cell (lt_of_cell c3c)).trans c3c
    have HT6 : (Value.slice lo ls.length lc).ownBlock ≠ some (b + 3) := HI.out.six r2
    have HKE : Hid (∀ w5, (wc.alloc (.cells #[.slice xo h.length xc] 27)).grownBy w5 (Value.slice lo ls.length lc).ownBlock → w5.cell? ⟨b + 3, 0, none⟩ = some (.slice so h.length sc)) := fun w5 hg => (World.cell?_of_block (w := wc.alloc (.cells #[.slice xo h.length xc] 27)) (a := ⟨b + 3, 0, none⟩) (hg.block (b + 3) (by simp; omega) (fun e => HT6 e.symm))).trans c3a
    clear hu hbc r1 r3 r4 r5
    rw [c1] at r2
    have hlv := Option.some.inj r2
    simp only [Value.slice.injEq, true_and] at hlv
    obtain ⟨rfl, rfl⟩ := hlv
    refine hK.out _ _ c3c (fun hHeld => ?_)
    clear hK K
    refine wpAnyH_ready (rs := [3]) (by kernel_rfl) (by simp) ?_
    refine ready_tk (i := 3) rfl (by rfl) (fun K hK => ?_) AllReadyH.nil
    go_simp
    refine hK.out _ _ c3a (fun hHeld => ?_)
    clear hK K
    refine wpAnyH_ready (rs := [4]) (by kernel_rfl) (by simp) ?_
    refine ready_tk (i := 4) rfl (by rfl) (fun K hK => ?_) AllReadyH.nil
    refine op_append_ownA (.tmp 10) (.tmp 13) 28 (by rfl) (b + 2) 27 i0 (.slice none 0 0) 1 24 Tryd.underlying28 hi0 hz0 hz1 hz2 rfl (by decide) _ _ _ (by rfl) HOA.out ⟨wc.heap.size, 0, none⟩ 1 1 [.slice xo h.length xc] (by rfl) rfl (one_new _ _ _) (one_slice _ _ _) (by unfold maxLen; omega) (by omega) HSZ1.out ?_
    intro v' w5 ho5 hg5 hat5
    have HCE : Hid (w5.cell? ⟨b + 3, 0, none⟩ = some (.slice so h.length sc)) := HKE.out w5 hg5
    refine hK.out _ _ HCE.out (fun hHeld => ?_)
    clear hK K
    simp only [Act.put, List.setIfInBounds_toArray, List.set_cons_zero, List.set_cons_succ]
    obtain ⟨vo, vc, hvv5⟩ := owns_form ho5
    subst hvv5
    obtain ⟨g1, g2, g3, g4, g5⟩ := HFIN.out _ w5 ho5 hg5 hat5
    have G4 : Hid (GrI w b a n f h (ls ++ [h]) (w5.setCell ⟨b + 1, 0, none⟩ (.slice vo (ls.length + 1) vc))) := g4
    have G5 : Hid (GrF b wr (w5.setCell ⟨b + 1, 0, none⟩ (.slice vo (ls.length + 1) vc))) := g5
    clear g4 g5 ho5 hg5 hat5 HCE
    refine wpAnyH_ready (rs := [5]) (by kernel_rfl) (by simp) ?_
    refine ready_tk (i := 5) rfl (by rfl) (fun K hK => ?_) AllReadyH.nil
    go_simp
    refine hK.out _ _ g3 (fun hHeld => ?_)
    clear hK K
    refine wpAnyH_done (by kernel_rfl) ?_ _
    clear hHeld g1 g2 g3
    go_wp2
    exact bodyPost_ret (v := .tuple #[]) (by simp [results, Tryd.results45, go_sem]) rfl ⟨rfl, G4.out, G5.out⟩
  · go_simp
    refine (HCL.out).mono ?_
    rintro e wc ⟨u, rfl, hu, hbc⟩
    obtain ⟨xo, xc, hxv⟩ := owns_form hu
    subst hxv
    obtain ⟨ov2, lo, lc, r1, r2, r3, vs, r4, r5⟩ := HI.out.list wc hbc hu hp0
    rw [c3] at r1
    have hov : ov2 = .slice so h.length sc := (Option.some.inj r1).symm
    subst hov
    have HFIN : Hid (∀ v' w5, w5.ownsRow (b + 2) 27 1 v' (ls.length + 1) (vs ++ [.slice xo h.length xc]) → (wc.alloc (.cells #[.slice xo h.length xc] 27)).grownBy w5 (Value.slice lo ls.length lc).ownBlock → (v'.ownBlock = (Value.slice lo ls.length lc).ownBlock ∨ v'.ownBlock = some (wc.alloc (.cells #[.slice xo h.length xc] 27)).heap.size) → w5.cell? ⟨b + 1, 0, none⟩ = some (.slice lo ls.length lc) ∧ w5.frozen? ⟨b + 1, 0, none⟩ = false ∧ (w5.setCell ⟨b + 1, 0, none⟩ v').cell? ⟨b + 3, 0, none⟩ = some (.slice so h.length sc) ∧ GrI w b a n f h (ls ++ [h]) (w5.setCell ⟨b + 1, 0, none⟩ v') ∧ GrF b wr (w5.setCell ⟨b + 1, 0, none⟩ v')) := r5
    have HOA : Hid ((wc.alloc (.cells #[.slice xo h.length xc] 27)).ownsRow (b + 2) 27 1 (.slice lo ls.length lc) ls.length vs) := r4.alloc _
    have hszc : b + 5 ≤ wc.heap.size := Nat.le_trans HI.out.sz hbc.size
    have HSZ1 : Hid (b + 2 ≤ (wc.alloc (.cells #[.slice xo h.length xc] 27)).heap.size) := by show _ ≤ _; simp; omega
    have c3c : wc.cell? ⟨b + 3, 0, none⟩ = some (.slice so h.length sc) := (hbc.cell (lt_of_cell c3)).trans c3
    have c1c : wc.cell? ⟨b + 1, 0, none⟩ = some (.slice lo ls.length lc) := r3
    have c1a : (wc.alloc (.cells #[.slice xo h.length xc] 27)).cell? ⟨b + 1, 0, none⟩ = some (.slice lo ls.length lc) := (((Below.refl wc.heap.size wc).alloc (Nat.le_refl _) _).cell (lt_of_cell c1c)).trans c1c
    have c3a : (wc.alloc (.cells #[.slice xo h.length xc] 27)).cell? ⟨b + 3, 0, none⟩ = some (.slice so h.length sc) := (((Below.refl wc.heap.size wc).alloc (Nat.le_refl _) _).cell (lt_of_cell c3c)).trans c3c
    have HT6 : (Value.slice lo ls.length lc).ownBlock ≠ some (b + 3) := HI.out.six r2
    have HKE : Hid (∀ w5, (wc.alloc (.cells #[.slice xo h.length xc] 27)).grownBy w5 (Value.slice lo ls.length lc).ownBlock → w5.cell? ⟨b + 3, 0, none⟩ = some (.slice so h.length sc)) := fun w5 hg => (World.cell?_of_block (w := wc.alloc (.cells #[.slice xo h.length xc] 27)) (a := ⟨b + 3, 0, none⟩) (hg.block (b + 3) (by simp; omega) (fun e => HT6 e.symm))).trans c3a
    clear hu hbc r1 r3 r4 r5
    refine hK.out _ _ c3c (fun hHeld => ?_)
    clear hK K
    refine wpAnyH_ready (rs := [0, 3]) (by kernel_rfl) (by simp) ?_
    refine ready_tk (i := 0) rfl (by rfl) (fun K hK => ?_) (ready_tk (i := 3) rfl (by rfl) (fun K hK => ?_) AllReadyH.nil)
    · go_simp
      refine hK.out _ _ c3c (fun hHeld => ?_)
      clear hK K
      refine wpAnyH_ready (rs := [3]) (by kernel_rfl) (by simp) ?_
      refine ready_tk (i := 3) rfl (by rfl) (fun K hK => ?_) AllReadyH.nil
      go_simp
      refine hK.out _ _ c3a (fun hHeld => ?_)
      clear hK K
      refine wpAnyH_ready (rs := [4]) (by kernel_rfl) (by simp) ?_
      refine ready_tk (i := 4) rfl (by rfl) (fun K hK => ?_) AllReadyH.nil
      refine op_append_ownA (.tmp 10) (.tmp 13) 28 (by rfl) (b + 2) 27 i0 (.slice none 0 0) 1 24 Tryd.underlying28 hi0 hz0 hz1 hz2 rfl (by decide) _ _ _ (by rfl) HOA.out ⟨wc.heap.size, 0, none⟩ 1 1 [.slice xo h.length xc] (by rfl) rfl (one_new _ _ _) (one_slice _ _ _) (by unfold maxLen; omega) (by omega) HSZ1.out ?_
      intro v' w5 ho5 hg5 hat5
      have HCE : Hid (w5.cell? ⟨b + 3, 0, none⟩ = some (.slice so h.length sc)) := HKE.out w5 hg5
      refine hK.out _ _ HCE.out (fun hHeld => ?_)
      clear hK K
      simp only [Act.put, List.setIfInBounds_toArray, List.set_cons_zero, List.set_cons_succ]
      obtain ⟨vo, vc, hvv5⟩ := owns_form ho5
      subst hvv5
      obtain ⟨g1, g2, g3, g4, g5⟩ := HFIN.out _ w5 ho5 hg5 hat5
      have G4 : Hid (GrI w b a n f h (ls ++ [h]) (w5.setCell ⟨b + 1, 0, none⟩ (.slice vo (ls.length + 1) vc))) := g4
      have G5 : Hid (GrF b wr (w5.setCell ⟨b + 1, 0, none⟩ (.slice vo (ls.length + 1) vc))) := g5
      clear g4 g5 ho5 hg5 hat5 HCE
      refine wpAnyH_ready (rs := [5]) (by kernel_rfl) (by simp) ?_
      refine ready_tk (i := 5) rfl (by rfl) (fun K hK => ?_) AllReadyH.nil
      go_simp
      refine hK.out _ _ g3 (fun hHeld => ?_)
      clear hK K
      refine wpAnyH_done (by kernel_rfl) ?_ _
      clear hHeld g1 g2 g3
      go_wp2
      exact bodyPost_ret (v := .tuple #[]) (by simp [results, Tryd.results45, go_sem]) rfl ⟨rfl, G4.out, G5.out⟩
    · go_simp
      refine hK.out _ _ c3a (fun hHeld => ?_)
      clear hK K
      refine wpAnyH_ready (rs := [0]) (by kernel_rfl) (by simp) ?_
      refine ready_tk (i := 0) rfl (by rfl) (fun K hK => ?_) AllReadyH.nil
      go_simp
      refine hK.out _ _ c3a (fun hHeld => ?_)
      clear hK K
      refine wpAnyH_ready (rs := [4]) (by kernel_rfl) (by simp) ?_
      refine ready_tk (i := 4) rfl (by rfl) (fun K hK => ?_) AllReadyH.nil
      refine op_append_ownA (.tmp 10) (.tmp 13) 28 (by rfl) (b + 2) 27 i0 (.slice none 0 0) 1 24 Tryd.underlying28 hi0 hz0 hz1 hz2 rfl (by decide) _ _ _ (by rfl) HOA.out ⟨wc.heap.size, 0, none⟩ 1 1 [.slice xo h.length xc] (by rfl) rfl (one_new _ _ _) (one_slice _ _ _) (by unfold maxLen; omega) (by omega) HSZ1.out ?_
      intro v' w5 ho5 hg5 hat5
      have HCE : Hid (w5.cell? ⟨b + 3, 0, none⟩ = some (.slice so h.length sc)) := HKE.out w5 hg5
      refine hK.out _ _ HCE.out (fun hHeld => ?_)
      clear hK K
      simp only [Act.put, List.setIfInBounds_toArray, List.set_cons_zero, List.set_cons_succ]
      obtain ⟨vo, vc, hvv5⟩ := owns_form ho5
      subst hvv5
      obtain ⟨g1, g2, g3, g4, g5⟩ := HFIN.out _ w5 ho5 hg5 hat5
      have G4 : Hid (GrI w b a n f h (ls ++ [h]) (w5.setCell ⟨b + 1, 0, none⟩ (.slice vo (ls.length + 1) vc))) := g4
      have G5 : Hid (GrF b wr (w5.setCell ⟨b + 1, 0, none⟩ (.slice vo (ls.length + 1) vc))) := g5
      clear g4 g5 ho5 hg5 hat5 HCE
      refine wpAnyH_ready (rs := [5]) (by kernel_rfl) (by simp) ?_
      refine ready_tk (i := 5) rfl (by rfl) (fun K hK => ?_) AllReadyH.nil
      go_simp
      refine hK.out _ _ g3 (fun hHeld => ?_)
      clear hK K
      refine wpAnyH_done (by kernel_rfl) ?_ _
      clear hHeld g1 g2 g3
      go_wp2
      exact bodyPost_ret (v := .tuple #[]) (by simp [results, Tryd.results45, go_sem]) rfl ⟨rfl, G4.out, G5.out⟩

end Go.Proofs.YtcmemhdlendlkaaDoor

/- poset.grown$1, all of it; grown; Orders. -/
namespace Go.Proofs.YtcmemhdlendlkaaDoor
open Go.RowKit
attribute [local go_sem ↓] Go.wp_at_zero Go.wp_at_succ

theorem outN_ltP {n x y : Nat} (hx : x < 2 ^ n) : outN x y < 2 ^ n := by
  refine Nat.lt_pow_two_of_testBit _ fun k hk => ?_
  rw [outN_bit, Nat.testBit_lt_two_pow (Nat.lt_of_lt_of_le hx (Nat.pow_le_pow_right (by decide) hk))]
  rfl

set_option maxRecDepth 100000 in
set_option maxHeartbeats 6400000 in
theorem grown1_any (w : World) (b a n : Nat) (f : Nat → Nat) (hn1 : 1 ≤ n) (hn : n ≤ 6) (hf : ∀ i, i < n → f i < 64) (hT : TabB w) : ∀ (t s : Nat) (h : List Int) (ls : List (List Int)) (wr : World), LfH n s h → h.length + t = n → ls.length + 8 ^ t ≤ 300000 → GrI w b a n f h ls wr →
    Calls Tryd.prog 45 #[.int .u64 (s : Int), .pointer (some ⟨b + 1, 0, none⟩), .pointer (some ⟨b + 3, 0, none⟩), .pointer (some ⟨b, 0, none⟩), .pointer (some ⟨b + 4, 0, none⟩)] wr fun e w' => e = .returned (.tuple #[]) ∧ GrI w b a n f h (ls ++ grF f t s h) w' ∧ GrF b wr w'
  | 0, s, h, ls, wr, hL, hl, hll, hI => by
    have hs := hL.none (by omega)
    subst hs
    exact grown_leaf w b a n f hn1 hn h ls wr (by omega) (by omega) hI
  | t + 1, s, h, ls, wr, hL, hl, hll, hI => by
    obtain ⟨i3, hi3, hz30, hz31, hz32⟩ := info_parts Tryd.info3
    have hs0 := hL.some (by omega)
    have hsn := hL.lt
    have h64 : 2 ^ n ≤ 64 := (Nat.pow_le_pow_right (by omega) hn : 2 ^ n ≤ 2 ^ 6)
    have hs64 : s < 64 := Nat.lt_of_lt_of_le hsn h64
    obtain ⟨so, sc, lo, lc, -, -, -, c0, -⟩ := hI.cells
    have HAB := aboveAny_any a n s f wr hn hsn hf hI.ar (hT.below hI.bel)
    have habv : abvF f s < 64 := abvT_lt (l := mem8 s) fun x hx => by
      obtain ⟨m, hm, rfl⟩ := List.getElem_of_mem hx
      obtain ⟨i, hi, hin⟩ := mem8_at hsn hm
      have e2 : (mem8 s).getD m 0 = (mem8 s)[m] := by simp [hm]
      rw [← e2, hi, Int.toNat_natCast]
      exact hf i hin
    have e1 : bits .andNot .u64 (s : Int) ((abvF f s : Nat) : Int) = ((minS f s : Nat) : Int) := bits_andNot_u64_nat s _ (by omega) (by omega)
    have hmn : minS f s < 2 ^ n := outN_ltP hsn
    have hm256 : minS f s < 256 := by have := Nat.lt_of_lt_of_le hmn h64; omega
    have HLI : Hid (∀ W, Below wr.heap.size wr W → Calls Tryd.prog 48 #[.int .u64 ((minS f s : Nat) : Int)] W fun e w' => ∃ u, e = .returned u ∧ w'.ownsRow W.heap.size 3 1 u (mem8 (minS f s)).length (ints (mem8 (minS f s))) ∧ Below W.heap.size W w') := fun W hb => list8_any (minS f s) hm256 W ((hT.below hI.bel).below hb)
    have HMM : Hid (∀ j, j < (mem8 (minS f s)).length → ∃ v : Nat, (mem8 (minS f s)).getD j 0 = (v : Int) ∧ v < n ∧ s.testBit v = true) := fun j hj => by
      obtain ⟨i, hi, hin⟩ := mem8_at hmn hj
      refine ⟨i, hi, hin, ?_⟩
      have hm : (mem8 (minS f s)).getD j 0 ∈ mem8 (minS f s) := by simp [hj]
      obtain ⟨i2, _, h2, h3⟩ := mem8_iff.1 hm
      have : i2 = i := by omega
      subst this
      unfold minS at h2
      rw [outN_bit, Bool.and_eq_true] at h2
      exact h2.1
    have hL8 := mem8_len (minS f s)
    have hp : 8 ^ (t + 1) = 8 * 8 ^ t := by rw [Nat.pow_succ, Nat.mul_comm]
    have HREC : Hid (∀ (v : Nat) (l2 : List (List Int)) (W : World), v < n → s.testBit v = true → l2.length + 8 ^ t ≤ 300000 → GrI w b a n f (h ++ [(v : Int)]) l2 W → Calls Tryd.prog 45 #[.int .u64 ((outN s (2 ^ v) : Nat) : Int), .pointer (some ⟨b + 1, 0, none⟩), .pointer (some ⟨b + 3, 0, none⟩), .pointer (some ⟨b, 0, none⟩), .pointer (some ⟨b + 4, 0, none⟩)] W fun e w' => e = .returned (.tuple #[]) ∧ GrI w b a n f (h ++ [(v : Int)]) (l2 ++ grF f t (outN s (2 ^ v)) (h ++ [(v : Int)])) w' ∧ GrF b W w') := fun v l2 W hv hb h1 h2 => grown1_any w b a n f hn1 hn hf hT t _ _ l2 W (hL.snoc hb) (by rw [List.length_append, List.length_singleton]; omega) h1 h2
    have HGL : Hid (∀ v, (grF f t (outN s (2 ^ v)) (h ++ [((v : Nat) : Int)])).length ≤ 8 ^ t) := fun v => gr_len f t _ _
    have HGE : Hid (grF f (t + 1) s h = (mem8 (minS f s)).flatMap fun v => grF f t (outN s (2 ^ v.toNat)) (h ++ [v])) := rfl
    rw [HGE.out]
    have HFL : Hid (∀ j v, j < (mem8 (minS f s)).length → (mem8 (minS f s)).getD j 0 = ((v : Nat) : Int) → ((mem8 (minS f s)).take (j + 1)).flatMap (fun v => grF f t (outN s (2 ^ v.toNat)) (h ++ [v])) = ((mem8 (minS f s)).take j).flatMap (fun v => grF f t (outN s (2 ^ v.toNat)) (h ++ [v])) ++ grF f t (outN s (2 ^ v)) (h ++ [(v : Int)])) := fun j v hj hv => by
      rw [take_snoc_int _ j hj, List.flatMap_append, hv]
      simp
    rw [hp] at hll
    have HI : Hid (GrI w b a n f h ls wr) := hI
    have s0 : ((s : Int) == 0) = false := by rw [beq_eq_false_iff_ne]; omega
    have hh6 : h.length ≤ 6 := by omega
    clear hI hL hl hT hf hsn hmn hm256 hp HGE
    generalize mem8 (minS f s) = L at *
    generalize minS f s = ms at *
    generalize abvF f s = av at *
    generalize 8 ^ t = q at *
    go_enter Tryd.func45, Tryd.ntmps45
    go_wp2_with fail
    refine HAB.mono ?_
    rintro e w2 ⟨rfl, hb2⟩
    have HLX := HLI.out w2 hb2
    go_wp2_with fail
    refine HLX.mono ?_
    rintro e w3 ⟨u, rfl, hu, hb3⟩
    obtain ⟨ul, uc, huv⟩ := owns_form hu
    subst huv
    have hbx : Below wr.heap.size wr w3 := hb2.trans (hb3.mono hb2.size)
    have hszr := HI.out.sz
    have HI3 : Hid (GrI w b a n f h ls w3) := HI.out.move hbx
    have HF3 : Hid (GrF b wr w3) := GrF.below hbx (by omega)
    have HSP : Hid (∀ j, j < L.length → ∃ lb, ul = some ⟨lb, 0, none⟩ ∧ Sep b w3 lb ∧ w3.cell? ⟨lb, j, none⟩ = some (.int .i64 (L.getD j 0))) := fun j hj => by
      rcases hu.2 with ⟨_, q0⟩ | ⟨g, cap, cur, f1, f2, f3, f4, f5, f6, f7⟩
      · omega
      · simp only [Value.slice.injEq, true_and] at f1
        refine ⟨g, f1.1, ⟨(Array.getElem?_eq_some_iff.1 f3).1, ?_, ?_, fun sv hs => ?_, fun sv hs => ?_⟩, ?_⟩
        · have := hb2.size; omega
        · have := hb2.size; omega
        · obtain ⟨ov, lv, vs, t1, t2, t3, t4, t5, t6, t7⟩ := HI.out.two
          have hc := (World.cell?_of_block (w := wr) (a := ⟨b + 3, 0, none⟩) (hbx.block (b + 3) (by omega))).symm
          have h0 : wr.cell? ⟨b + 3, 0, none⟩ = some ov := by simp [World.cell?, t1]
          rw [← hc, h0] at hs
          cases hs
          exact fun e => by have := (t2.lt g e).2; have := hb2.size; omega
        · obtain ⟨ov, lv, vs, t1, t2, t3, t4, t5, t6, t7⟩ := HI.out.two
          have hc := (World.cell?_of_block (w := wr) (a := ⟨b + 1, 0, none⟩) (hbx.block (b + 1) (by omega))).symm
          have h0 : wr.cell? ⟨b + 1, 0, none⟩ = some lv := by simp [World.cell?, t3]
          rw [← hc, h0] at hs
          cases hs
          exact fun e => by have := (t5.lt g e).2; have := hb2.size; omega
        · have hm : (ints L)[j]? = some (.int .i64 (L.getD j 0)) := ints_get L j hj
          rw [← f7, List.getElem?_take_of_lt (by omega), Array.getElem?_toList] at hm
          simp [World.cell?, f3, hm]
    clear HAB HLX HLI hu hb2 hb3 hbx c0 e1 HI
    go_wp2
    go_loopw [22] (fun jv wq => ∃ j : Nat, j ≤ L.length ∧ jv = .int .i64 (j : Int) ∧ GrI w b a n f h (ls ++ (L.take j).flatMap (fun v => grF f t (outN s (2 ^ v.toNat)) (h ++ [v]))) wq ∧ ((L.take j).flatMap (fun v => grF f t (outN s (2 ^ v.toNat)) (h ++ [v]))).length ≤ j * q ∧ GrF b w3 wq) (fun jv _ => L.length - (intOf jv).toNat)
    case atStart => exact ⟨0, Nat.zero_le _, rfl, by simpa using HI3.out, by simp, GrF.refl _ _⟩
    case round =>
      obtain ⟨j, hj, rfl, hI, hlen, hF⟩ := hrel
      rename World => wq
      clear HI3
      by_cases hlj : j < L.length
      · obtain ⟨v, hv, hvn, hvs⟩ := HMM.out j hlj
        obtain ⟨lb, rfl, hsep, hcc⟩ := HSP.out j hlj
        obtain ⟨hheq, hsep2⟩ := hF lb hsep
        have cl : wq.cell? ⟨lb, j, none⟩ = some (.int .i64 (v : Int)) := by
          rw [← hv, ← hcc]
          exact World.cell?_of_block (w := w3) (a := ⟨lb, j, none⟩) hheq
        have HFX := HFL.out j v hlj hv
        have HGX := HGL.out v
        generalize (L.take j).flatMap (fun v => grF f t (outN s (2 ^ v.toNat)) (h ++ [v])) = P at *
        have hjq : j * q + q ≤ 8 * q := by
          have : (j + 1) * q ≤ 8 * q := Nat.mul_le_mul_right _ (by omega)
          rw [Nat.add_mul] at this
          omega
        have HRX : Hid (∀ (W : World), GrI w b a n f (h ++ [(v : Int)]) (ls ++ P) W → Calls Tryd.prog 45 #[.int .u64 ((outN s (2 ^ v) : Nat) : Int), .pointer (some ⟨b + 1, 0, none⟩), .pointer (some ⟨b + 3, 0, none⟩), .pointer (some ⟨b, 0, none⟩), .pointer (some ⟨b + 4, 0, none⟩)] W fun e w' => e = .returned (.tuple #[]) ∧ GrI w b a n f (h ++ [(v : Int)]) (ls ++ P ++ grF f t (outN s (2 ^ v)) (h ++ [(v : Int)])) w' ∧ GrF b W w') := fun W hW => HREC.out v (ls ++ P) W hvn hvs (by rw [List.length_append]; omega) hW
        have eO : bits .andNot .u64 (s : Int) ((2 ^ v : Nat) : Int) = ((outN s (2 ^ v) : Nat) : Int) := bits_andNot_u64_nat s _ (by omega) (by
          have : 2 ^ v ≤ 2 ^ 6 := Nat.pow_le_pow_right (by omega) (by omega)
          omega)
        have HON : Hid (∀ W, Calls Tryd.prog 49 #[.int .i64 (v : Int)] W fun e w' => e = .returned (.int .u64 ((2 ^ v : Nat) : Int)) ∧ w' = W) := fun W => oneP_any v W (by omega)
        obtain ⟨so2, sc2, c3, hown, hpush⟩ := hI.push (v : Int)
        have HPUSH : Hid (∀ v' w5, w5.ownsRow (b + 2) 3 1 v' (h.length + 1) (ints h ++ [.int .i64 (v : Int)]) → (wq.alloc (.cells #[.int .i64 (v : Int)] 3)).grownBy w5 (Value.slice so2 h.length sc2).ownBlock → (v'.ownBlock = (Value.slice so2 h.length sc2).ownBlock ∨ v'.ownBlock = some (wq.alloc (.cells #[.int .i64 (v : Int)] 3)).heap.size) → w5.cell? ⟨b + 3, 0, none⟩ = some (.slice so2 h.length sc2) ∧ w5.frozen? ⟨b + 3, 0, none⟩ = false ∧ GrI w b a n f (h ++ [(v : Int)]) (ls ++ P) (w5.setCell ⟨b + 3, 0, none⟩ v') ∧ GrF b wq (w5.setCell ⟨b + 3, 0, none⟩ v')) := hpush
        have HOWN : Hid (wq.ownsRow (b + 2) 3 1 (.slice so2 h.length sc2) h.length (ints h)) := hown
        have hszq : b + 2 ≤ wq.heap.size := by have := hI.sz; omega
        have HFQ : Hid (GrF b w3 wq) := hF
        have HFY : Hid ((L.take (j + 1)).flatMap (fun v => grF f t (outN s (2 ^ v.toNat)) (h ++ [v])) = P ++ grF f t (outN s (2 ^ v)) (h ++ [(v : Int)])) := HFX
        have HLY : Hid ((P ++ grF f t (outN s (2 ^ v)) (h ++ [(v : Int)])).length ≤ (j + 1) * q) := by
          show _ ≤ _
          rw [List.length_append, Nat.add_mul]
          omega
        have jI : (j : Int) < (L.length : Int) := by omega
        have jI0 : (0 : Int) ≤ (j : Int) := by omega
        clear hI hown hpush hF HFX hv hcc hsep hsep2 hheq
        generalize outN s (2 ^ v) = s2 at *
        generalize 2 ^ v = pv at *
        generalize grF f t s2 (h ++ [(v : Int)]) = GG at *
        go_wp2_with (first | (at_builtin; refine wpList_append_own_at _ rfl _ _ 27 rfl (b + 2) 3 i3 (.int .i64 0) 1 8 Tryd.underlying27 hi3 hz30 hz31 hz32 rfl (by decide) _ _ _ rfl (HOWN.out.alloc _) ⟨wq.heap.size, 0, none⟩ 1 1 [.int .i64 (v : Int)] rfl rfl (one_new _ _ _) (one_int _) ?c3 ?c4 ?c5 ?_))
        case c3 => unfold maxLen; omega
        case c4 => omega
        case c5 => simp; omega
        intro v2 w4 ho4 hg4 _ hat4
        obtain ⟨vo, vc, hv2⟩ := owns_form ho4
        subst hv2
        obtain ⟨d1, d2, d3, d4⟩ := HPUSH.out _ w4 ho4 hg4 (by simpa using hat4)
        obtain ⟨W5, hW5⟩ : ∃ W5, W5 = w4.setCell ⟨b + 3, 0, none⟩ (.slice vo (h.length + 1) vc) := ⟨_, rfl⟩
        rw [← hW5] at d3 d4
        have HI5 : Hid (GrI w b a n f (h ++ [(v : Int)]) (ls ++ P) W5) := d3
        have HF5 : Hid (GrF b w3 W5) := HFQ.out.trans d4
        obtain ⟨-, -, -, -, -, -, -, -, c5⟩ := d3.cells
        have c6 : W5.cell? ⟨b + 4, 0, none⟩ = some (.func (.func 45) #[] #[.pointer (some ⟨b + 1, 0, none⟩), .pointer (some ⟨b + 3, 0, none⟩), .pointer (some ⟨b, 0, none⟩), .pointer (some ⟨b + 4, 0, none⟩)]) := c5
        have hsz5 := d3.sz
        clear d3 d4 c5 ho4 hg4 hat4 HPUSH HOWN HFQ
        have HRD : Hid (Calls Tryd.prog 45 #[.int .u64 (s2 : Int), .pointer (some ⟨b + 1, 0, none⟩), .pointer (some ⟨b + 3, 0, none⟩), .pointer (some ⟨b, 0, none⟩), .pointer (some ⟨b + 4, 0, none⟩)] W5.drew fun e w' => e = .returned (.tuple #[]) ∧ GrI w b a n f (h ++ [(v : Int)]) (ls ++ P ++ GG) w' ∧ GrF b w3 w' ∧ w'.cell? ⟨b + 4, 0, none⟩ = some (.func (.func 45) #[] #[.pointer (some ⟨b + 1, 0, none⟩), .pointer (some ⟨b + 3, 0, none⟩), .pointer (some ⟨b, 0, none⟩), .pointer (some ⟨b + 4, 0, none⟩)])) := (HRX.out W5.drew (HI5.out.move (Below.drew (Below.refl _ _)))).mono (by
          rintro e w' ⟨h1, h2, h3⟩
          obtain ⟨-, -, -, -, -, -, -, -, k5⟩ := h2.cells
          exact ⟨h1, h2, (HF5.out.trans (GrF.below (Below.drew (Below.refl _ _)) (by omega))).trans h3, k5⟩)
        clear HRX HREC
        go_wp2
        rw [← hW5]
        clear hW5 d1 d2 c3 cl
        refine wp_region_held_drew (S := fun w' => w'.cell? ⟨b + 4, 0, none⟩ = some (.func (.func 45) #[] #[.pointer (some ⟨b + 1, 0, none⟩), .pointer (some ⟨b + 3, 0, none⟩), .pointer (some ⟨b, 0, none⟩), .pointer (some ⟨b + 4, 0, none⟩)])) (by kernel_rfl) c6 (fun hHeld => ?_)
        refine wpAnyH_tk (i := 0) (d := 30) (v := (.func (.func 45) #[] #[.pointer (some ⟨b + 1, 0, none⟩), .pointer (some ⟨b + 3, 0, none⟩), .pointer (some ⟨b, 0, none⟩), .pointer (some ⟨b + 4, 0, none⟩)])) rfl rfl (by kernel_rfl) (by kernel_rfl) (by kernel_rfl) (fun _ _ _ h => h) (.inl ⟨by rfl, by (intro wq hSw; (try dsimp only at hSw); go_simp; (try (first | rfl | omega)))⟩) hHeld ?_
        simp only [Act.put, List.setIfInBounds_toArray, List.set_cons_zero, List.set_cons_succ]
        refine wpAnyH_tk (i := 1) (d := 31) (v := (.int .u64 (s : Int))) rfl rfl (by kernel_rfl) (by kernel_rfl) (by kernel_rfl) (fun _ _ _ h => h) (.inl ⟨by rfl, by (intro wq hSw; (try dsimp only at hSw); go_simp; (try (first | rfl | omega)))⟩) hHeld ?_
        simp only [Act.put, List.setIfInBounds_toArray, List.set_cons_zero, List.set_cons_succ]
        refine wpAnyH_tk (i := 2) (d := 32) (v := (.int .i64 (v : Int))) rfl rfl (by kernel_rfl) (by kernel_rfl) (by kernel_rfl) (fun _ _ _ h => h) (.inl ⟨by rfl, by (intro wq hSw; (try dsimp only at hSw); go_simp; (try (first | rfl | omega)))⟩) hHeld ?_
        simp only [Act.put, List.setIfInBounds_toArray, List.set_cons_zero, List.set_cons_succ]
        refine wpAnyH_ready (rs := [3]) (by kernel_rfl) (by simp) ?_
        refine ready_tk (i := 3) rfl (by rfl) (fun K hK => ?_) AllReadyH.nil
        go_simp
        refine (HON.out _).mono ?_
        rintro e w6 ⟨rfl, hw6⟩
        subst hw6
        refine hK.out _ _ c6 (fun hHeld => ?_)
        clear hK K
        refine wpAnyH_tk (i := 4) (d := 34) (v := (.int .u64 (s2 : Int))) rfl rfl (by kernel_rfl) (by kernel_rfl) (by kernel_rfl) (fun _ _ _ h => h) (.inl ⟨by rfl, by (intro wq hSw; (try dsimp only at hSw); go_simp; (try (first | rfl | omega)))⟩) hHeld ?_
        simp only [Act.put, List.setIfInBounds_toArray, List.set_cons_zero, List.set_cons_succ]
        refine wpAnyH_ready (rs := [5]) (by kernel_rfl) (by simp) ?_
        refine ready_tk (i := 5) rfl (by rfl) (fun K hK => ?_) AllReadyH.nil
        go_simp
        refine HRD.out.mono ?_
        rintro e w7 ⟨rfl, hI7, hF7, hc7⟩
        refine hK.out _ _ hc7 (fun hHeld => ?_)
        clear hK K
        refine wpAnyH_done (by kernel_rfl) ?_ _
        clear hHeld
        obtain ⟨po, pc, f1, f2, f3, f4, f5, f6⟩ := hI7.pop
        have HI8 : Hid (GrI w b a n f h (ls ++ (L.take (j + 1)).flatMap (fun v => grF f t (outN s (2 ^ v.toNat)) (h ++ [v]))) (w7.setCell ⟨b + 3, 0, none⟩ (.slice po h.length pc))) := by
          rw [HFY.out, ← List.append_assoc]
          exact f5
        have HF8 : Hid (GrF b w3 (w7.setCell ⟨b + 3, 0, none⟩ (.slice po h.length pc))) := hF7.trans f6
        have HL8 : Hid (((L.take (j + 1)).flatMap (fun v => grF f t (outN s (2 ^ v.toNat)) (h ++ [v]))).length ≤ (j + 1) * q) := by
          rw [HFY.out]
          exact HLY.out
        unfold maxLen at f3
        have gp : h.length ≤ pc := by omega
        clear f5 f6 hI7 hF7 hc7 c6 eO HRD HI5 HF5
        go_wp2
        go_roundw
        case rel => exact ⟨j + 1, by omega, by go_num, HI8.out, HL8.out, HF8.out⟩
        case measure => simp [intOf]; omega
      · have hje : j = L.length := by omega
        subst hje
        rw [List.take_length] at hI
        have HI8 : Hid (GrI w b a n f h (ls ++ L.flatMap (fun v => grF f t (outN s (2 ^ v.toNat)) (h ++ [v]))) wq) := hI
        have HF8 : Hid (GrF b wr wq) := HF3.out.trans hF
        clear hI hF hlen hlj hj
        go_wp2
        go_end0
        exact ⟨rfl, HI8.out, HF8.out⟩

end Go.Proofs.YtcmemhdlendlkaaDoor

/- poset.grown, Orders. -/
namespace Go.Proofs.YtcmemhdlendlkaaDoor
open Go.RowKit
attribute [local go_sem ↓] Go.wp_at_zero Go.wp_at_succ

theorem plG {α : Type} (a : Array α) (x : α) (i : Nat) (h : i < a.size) : (a.push x)[i]? = a[i]? := by
  rw [Array.getElem?_push, if_neg (by omega)]

theorem pnG {α : Type} (a : Array α) (x : α) (i : Nat) (h : i = a.size) : (a.push x)[i]? = some x := by
  subst h
  simp

theorem five (w : World) (o1 o2 o3 o4 o5 : Obj) (b : Nat) (hb : b = w.heap.size) (W : World) (hW : W = ((((w.alloc o1).alloc o2).alloc o3).alloc o4).alloc o5) :
    W.heap[b]? = some o1 ∧ W.heap[b + 1]? = some o2 ∧ W.heap[b + 2]? = some o3 ∧ W.heap[b + 3]? = some o4 ∧ W.heap[b + 4]? = some o5 ∧ W.heap.size = b + 5 := by
  have hh : W.heap = ((((w.heap.push o1).push o2).push o3).push o4).push o5 := by rw [hW]; rfl
  rw [hh]
  subst hb
  refine ⟨?_, ?_, ?_, ?_, ?_, by simp only [Array.size_push]⟩
  · rw [plG _ _ _ (by simp only [Array.size_push]; omega), plG _ _ _ (by simp only [Array.size_push]; omega), plG _ _ _ (by simp only [Array.size_push]; omega), plG _ _ _ (by simp only [Array.size_push]; omega), pnG _ _ _ rfl]
  · rw [plG _ _ _ (by simp only [Array.size_push]; omega), plG _ _ _ (by simp only [Array.size_push]; omega), plG _ _ _ (by simp only [Array.size_push]; omega), pnG _ _ _ (by simp only [Array.size_push])]
  · rw [plG _ _ _ (by simp only [Array.size_push]; omega), plG _ _ _ (by simp only [Array.size_push]; omega), pnG _ _ _ (by simp only [Array.size_push])]
  · rw [plG _ _ _ (by simp only [Array.size_push]; omega), pnG _ _ _ (by simp only [Array.size_push])]
  · rw [pnG _ _ _ (by simp only [Array.size_push])]

theorem allOf_tab : ∀ n : Nat, n ≤ 6 → IntKind.u64.wrap ((2 : Int) ^ n) = ((2 ^ n : Nat) : Int) ∧ IntKind.u64.wrap (((2 ^ n : Nat) : Int) - 1) = ((2 ^ n - 1 : Nat) : Int) := by decide +kernel

set_option maxRecDepth 100000 in
set_option maxHeartbeats 3200000 in
theorem grown_any (a n : Nat) (f : Nat → Nat) (w : World) (hn1 : 1 ≤ n) (hn : n ≤ 6) (hf : ∀ i, i < n → f i < 64) (ha : AbR w a n f) (hT : TabB w) :
    Calls Tryd.prog 30 #[.slice (some ⟨a, 0, none⟩) n n] w fun e w' => ∃ x, e = .returned x ∧ Mat w'.heap.size 27 3 w' x (grF f n (2 ^ n - 1) []) ∧ Below w.heap.size w w' := by
  obtain ⟨b, hb⟩ : ∃ b, b = w.heap.size := ⟨_, rfl⟩
  obtain ⟨W5, hW5⟩ : ∃ W5, W5 = ((((w.alloc (.cells #[.slice (some ⟨a, 0, none⟩) n n] 53)).alloc (.cells #[.slice none 0 0] 28)).alloc (.cells (madeCells #[.int .i64 0] n) 3)).alloc (.cells #[.slice (some ⟨b + 2, 0, none⟩) 0 n] 27)).alloc (.cells #[.func (.func 45) #[] (grA b)] 73) := ⟨_, rfl⟩
  have HI : GrI w b a n f [] [] W5 := by
    have hal := ha.lt
    have hB : Below w.heap.size w W5 := by
      rw [hW5]
      exact (((((Below.refl _ _).alloc (Nat.le_refl _) _).alloc (by simp) _).alloc (by simp; omega) _).alloc (by simp; omega) _).alloc (by simp; omega) _
    obtain ⟨q1, q2, q3, q4, q5, q6⟩ := five w _ _ _ _ _ b hb W5 hW5
    refine ⟨by omega, by omega, hB, q1, q5, World.rowIs.of_block ha (hB.block a hal), by omega, .slice (some ⟨b + 2, 0, none⟩) 0 n, .slice none 0 0, [], q4, ?_, q2, rfl, World.ownsRow_nil _ _ _ _, by simp [Value.ownBlock], fun i hi => by simp at hi⟩
    exact ⟨rfl, .inr ⟨b + 2, n, _, rfl, Nat.le_refl _, q3, by simp, by unfold maxLen; omega, by rw [size_madeCells]; omega, rfl⟩⟩
  have hp : 8 ^ n ≤ 262144 := Nat.le_trans (Nat.pow_le_pow_right (by omega) hn) (by decide)
  have HC := grown1_any w b a n f hn1 hn hf hT n (2 ^ n - 1) [] [] W5.drew (lf_all n) (by simp) (by simp; omega) (HI.move (Below.drew (Below.refl _ _)))
  obtain ⟨so, sc, lo, lc, -, -, -, c0, c4⟩ := HI.cells
  have c4b : W5.cell? ⟨b + 4, 0, none⟩ = some (.func (.func 45) #[] #[.pointer (some ⟨b + 1, 0, none⟩), .pointer (some ⟨b + 3, 0, none⟩), .pointer (some ⟨b, 0, none⟩), .pointer (some ⟨b + 4, 0, none⟩)]) := c4
  obtain ⟨e1, e2⟩ := allOf_tab n hn
  have hsz := HI.sz
  have hmk : ∀ w : World, (Instr.makeSlice 27 (.int .i64 0) (.int .i64 (n : Int))).run Tryd.prog w = .ok (.slice (some ⟨w.heap.size, 0, none⟩) 0 n) (w.alloc (.cells (madeCells #[.int .i64 0] n) 3)) := fun w' => by
    obtain ⟨i3, hi3, hz30, hz31, hz32⟩ := info_parts Tryd.info3
    have := run_make w' (P := Tryd.prog) 27 3 i3 (.int .i64 0) Tryd.underlying27 hi3 hz30 .i64 .i64 0 (n : Int) (by omega) (by omega) (by rw [hz32]; omega) (by omega)
    rw [hz31, show (Value.int .i64 0).cells = #[.int .i64 0] from rfl] at this
    simpa using this
  rw [List.nil_append] at HC
  generalize grF f n (2 ^ n - 1) [] = LS at *
  clear HI ha hT hf hp c4
  generalize 2 ^ n - 1 = s1 at *
  generalize 2 ^ n = p2 at *
  go_enter Tryd.func30, Tryd.ntmps30
  go_wp2
  have eW : W5 = ((((w.alloc (.cells #[.slice (some ⟨a, 0, none⟩) n n] 53)).alloc (.cells #[.slice none 0 0] 28)).alloc (.cells (madeCells #[.int .i64 0] n) 3)).alloc (.cells #[.slice (some ⟨w.heap.size + 1 + 1, 0, none⟩) 0 n] 27)).alloc (.cells #[.func (.func 45) #[] #[.pointer (some ⟨w.heap.size + 1, 0, none⟩), .pointer (some ⟨w.heap.size + 1 + 1 + 1, 0, none⟩), .pointer (some ⟨w.heap.size, 0, none⟩), .pointer (some ⟨w.heap.size + 1 + 1 + 1 + 1, 0, none⟩)]] 73) := by
    rw [hW5, hb]
    rfl
  rw [← eW]
  rw [hb] at HC c0 c4b
  clear eW hW5
  refine wp_region_held_drew (S := fun w' => w'.cell? ⟨w.heap.size + 4, 0, none⟩ = some (.func (.func 45) #[] #[.pointer (some ⟨w.heap.size + 1, 0, none⟩), .pointer (some ⟨w.heap.size + 3, 0, none⟩), .pointer (some ⟨w.heap.size, 0, none⟩), .pointer (some ⟨w.heap.size + 4, 0, none⟩)]) ∧ w'.cell? ⟨w.heap.size, 0, none⟩ = some (.slice (some ⟨a, 0, none⟩) n n)) (by kernel_rfl) ⟨c4b, c0⟩ (fun hHeld => ?_)
  refine wpAnyH_tk (i := 0) (d := 10) (v := (.func (.func 45) #[] #[.pointer (some ⟨w.heap.size + 1, 0, none⟩), .pointer (some ⟨w.heap.size + 3, 0, none⟩), .pointer (some ⟨w.heap.size, 0, none⟩), .pointer (some ⟨w.heap.size + 4, 0, none⟩)])) rfl rfl (by kernel_rfl) (by kernel_rfl) (by kernel_rfl) (fun _ _ _ h => h) (.inl ⟨by rfl, by (intro wq hSw; (try dsimp only at hSw); go_simp; (try (first | rfl | omega)))⟩) hHeld ?_
  simp only [Act.put, List.setIfInBounds_toArray, List.set_cons_zero, List.set_cons_succ]
  refine wpAnyH_tk (i := 1) (d := 11) (v := (.slice (some ⟨a, 0, none⟩) n n)) rfl rfl (by kernel_rfl) (by kernel_rfl) (by kernel_rfl) (fun _ _ _ h => h) (.inl ⟨by rfl, by (intro wq hSw; (try dsimp only at hSw); go_simp; (try (first | rfl | omega)))⟩) hHeld ?_
  simp only [Act.put, List.setIfInBounds_toArray, List.set_cons_zero, List.set_cons_succ]
  refine wpAnyH_tk (i := 2) (d := 12) (v := (.int .i64 (n : Int))) rfl rfl (by kernel_rfl) (by kernel_rfl) (by kernel_rfl) (fun _ _ _ h => h) (.inl ⟨by rfl, by (intro wq hSw; (try dsimp only at hSw); go_simp; (try (first | rfl | omega)))⟩) hHeld ?_
  simp only [Act.put, List.setIfInBounds_toArray, List.set_cons_zero, List.set_cons_succ]
  refine wpAnyH_tk (i := 3) (d := 13) (v := (.int .u64 (p2 : Int))) rfl rfl (by kernel_rfl) (by kernel_rfl) (by kernel_rfl) (fun _ _ _ h => h) (.inl ⟨by rfl, by (intro wq hSw; (try dsimp only at hSw); go_simp; (try (first | rfl | omega)))⟩) hHeld ?_
  simp only [Act.put, List.setIfInBounds_toArray, List.set_cons_zero, List.set_cons_succ]
  refine wpAnyH_tk (i := 4) (d := 14) (v := (.int .u64 (s1 : Int))) rfl rfl (by kernel_rfl) (by kernel_rfl) (by kernel_rfl) (fun _ _ _ h => h) (.inl ⟨by rfl, by (intro wq hSw; (try dsimp only at hSw); go_simp; (try (first | rfl | omega)))⟩) hHeld ?_
  simp only [Act.put, List.setIfInBounds_toArray, List.set_cons_zero, List.set_cons_succ]
  refine wpAnyH_ready (rs := [5]) (by kernel_rfl) (by simp) ?_
  refine ready_tk (i := 5) rfl (by rfl) (fun K hK => ?_) AllReadyH.nil
  go_simp
  refine HC.mono ?_
  rintro e w7 ⟨rfl, hI7, -⟩
  obtain ⟨ov, lv, vs, t1, t2, t3, t4, t5, t6, t7⟩ := hI7.two
  obtain ⟨so7, sc7, lo7, lc7, k1, k2, k3, k4, k5⟩ := hI7.cells
  refine hK.out _ _ ⟨k5, k4⟩ (fun hHeld => ?_)
  clear hK K
  refine wpAnyH_done (by kernel_rfl) ?_ _
  have hlv : lv = .slice lo7 LS.length lc7 := by
    have : w7.cell? ⟨w.heap.size + 1, 0, none⟩ = some lv := by simp [World.cell?, t3]
    rw [k2] at this
    exact (Option.some.inj this).symm
  subst hlv
  have HM : Hid (Mat w7.heap.size 27 3 w7 (.slice lo7 LS.length lc7) LS) := ⟨vs, t4, Sl.own t5, fun i hi => Sl.own (t7 i hi).1⟩
  have HB : Hid (Below w.heap.size w w7) := hI7.bel
  clear hHeld hI7 t1 t2 t3 t4 t5 t6 t7 k1 k3 k4 k5 e1 e2 c0 c4b
  go_wp2
  go_ret
  exact ⟨_, rfl, HM.out, HB.out⟩

set_option maxRecDepth 100000 in
set_option maxHeartbeats 1600000 in
theorem orders_any (n : Nat) (es : List (Nat × Nat)) (pv : Value) (w : World) (hv : Prs w pv (npL es)) (hG : GdO n es) (hT : TabB w) :
    Calls Tryd.prog 13 #[.agg #[.int .i64 (n : Int), pv]] w fun e w' => ∃ x, e = .returned (.tuple #[x, .int .i64 0]) ∧ Mat w'.heap.size 27 3 w' x (grF (upF n es) n (2 ^ n - 1) []) ∧ Below w.heap.size w w' := by
  obtain ⟨W1, hW1⟩ : ∃ W1, W1 = w.alloc (.cells #[.int .i64 (n : Int), pv] 24) := ⟨_, rfl⟩
  have HB1 : Below w.heap.size w W1 := by rw [hW1]; exact (Below.refl _ _).alloc (Nat.le_refl _) _
  have HRD : Hid (Calls Tryd.prog 27 #[.agg #[.int .i64 (n : Int), pv]] W1 fun e w' => ∃ g, e = .returned (.tuple #[.slice (some ⟨g, 0, none⟩) n n, .int .i64 0]) ∧ AbR w' g n (upF n es) ∧ Below w.heap.size w w') := (read_ok n es pv W1 (hv.below HB1 (Nat.le_refl _)) hG.bd hG.n1 hG.n6 hG.len hG.irr).mono (by
    rintro e w' ⟨g, h1, h2, h3, h4⟩
    exact ⟨g, h1, h2, HB1.trans (h3.mono HB1.size)⟩)
  have HGR : Hid (∀ g W, Below w.heap.size w W → AbR W g n (upF n es) → Calls Tryd.prog 30 #[.slice (some ⟨g, 0, none⟩) n n] W fun e w' => ∃ x, e = .returned x ∧ Mat w'.heap.size 27 3 w' x (grF (upF n es) n (2 ^ n - 1) []) ∧ Below w.heap.size w w') := fun g W hb hA => (grown_any g n (upF n es) W hG.n1 hG.n6 (fun i hi => hG.b64 hi) hA (hT.below hb)).mono (by
    rintro e w' ⟨x, h1, h2, h3⟩
    exact ⟨x, h1, h2, hb.trans (h3.mono hb.size)⟩)
  clear hv hG hT HB1
  generalize grF (upF n es) n (2 ^ n - 1) [] = LS at *
  go_enter Tryd.func13, Tryd.ntmps13
  go_wp2_with fail
  try rw [← hW1]
  refine HRD.out.mono ?_
  rintro e w2 ⟨g, rfl, hA, hb2⟩
  have HGX := HGR.out g w2 hb2 hA
  clear HRD HGR hA hb2 hW1
  go_wp2_with fail
  refine HGX.mono ?_
  rintro e w3 ⟨x, rfl, hm, hb3⟩
  have HM : Hid (Mat w3.heap.size 27 3 w3 x LS) := hm
  have HB : Hid (Below w.heap.size w w3) := hb3
  clear HGX hm hb3
  go_wp2
  go_ret2
  exact ⟨_, rfl, HM.out, HB.out⟩

end Go.Proofs.YtcmemhdlendlkaaDoor
