/- weyl.Below, weyl.Longest. -/
import Derived.Test.YtjpmhgidckmdoaaBr2
import Derived.Test.YtjpmhgidckmdoaaWzB
namespace Go.Proofs.Ytjpmhgidckmdoaa
open Go.RowKit
attribute [local go_sem ↓] Go.wp_at_zero Go.wp_at_succ

/-- What weyl.Below answers. -/
def blB (c : List (List Int)) (a b : List Nat) : Bool := decide (0 < minL (isp c (rdW c b).reverse (fwd c a (ones c.length))))

theorem ones_ng (n : Nat) : ngL (ones n) = List.replicate n (-1) := by simp [ngL, ones]

set_option maxRecDepth 100000 in
set_option maxHeartbeats 1600000 in
theorem longest_any (n : Nat) (c R : List (List Int)) (x : List Nat) (cv : Value) (w : World) (hg : Gda n c R) (hx : Lt c x) (ex : tak c x (ones c.length) = ngL (ones c.length)) (hm : Mat w.heap.size 24 3 w cv c) :
    Calls Try.prog 7 #[cv] w fun e w' => ∃ u, e = .returned (.tuple #[u, .int .i64 0]) ∧ w'.ownsRow w.heap.size 3 1 u (rdW c x).length (ints (natsI (rdW c x))) ∧ Below w.heap.size w w' := by
  have hcl := hg.g.sq.len
  have hn1 := hg.g.n1
  have hn4 := hg.g.sq.n4
  have HC : Hid (Calls Try.prog 16 #[cv] w fun e w' => e = .returned (.int .i64 0) ∧ Below w.heap.size w w') := checkR_any n c cv w hg.g hm
  have hl : (ngL (ones n)).length = n := by simp [ngL, ones]
  have hbd : BdQ n R (ngL (ones n)) := by
    have e := qS_tak hg.rt (ones c.length) x hx
    rw [ex, hcl] at e
    exact ⟨hl, by rw [e]; exact hg.q⟩
  have HU : Hid (∀ W W2 g, Below w.heap.size w W → Below W.heap.size W W2 → W.heap.size ≤ g → g < W2.heap.size → W2.rowIs g 3 n (fun _ => .int .i64 (-1)) → Calls Try.prog 17 #[cv, .slice (some ⟨g, 0, none⟩) n n] W2 fun e w' => ∃ u, e = .returned u ∧ w'.ownsRow W2.heap.size 3 1 u (rdW c x).length (ints (natsI (rdW c x))) ∧ Btx g W2 w') := fun W W2 g h1 h2 h3 h4 h5 => by
    have h5' : W2.rowIs g 3 n (fun k => .int .i64 ((ngL (ones n)).getD k 0)) := h5.congr fun k hk => by rw [ones_ng]; simp [hk]
    have hu := uprt_any n c (ngL (ones n)) g W.heap.size 24 cv W W2 hg.g.sq ((hm.below h1 (Nat.le_refl _)).any (Nat.le_refl _)) (fun b hb => h2.block b hb) h3 h4 h5' hl (BdQ n R) hbd hg.b1 hg.b2 (by have := (rd_all hg hx).2.2.2; rw [ex, hcl] at this; exact this) (by omega)
    unfold rdW
    rw [ex, hcl]
    exact hu
  obtain ⟨ao, cap, hvv, _, hcm⟩ := mat_open hm
  subst hvv
  rw [hcl] at *
  clear hg hm hx ex hl hbd
  go_enter Try.func7, Try.ntmps7
  go_wp2_with fail
  refine HC.out.mono ?_
  rintro e w1 ⟨rfl, hb1⟩
  have HB1 : Hid (Below w.heap.size w w1) := hb1
  obtain ⟨W, hW⟩ : ∃ W, W = w1.alloc (.cells #[.int .i64 (-1)] 3) := ⟨_, rfl⟩
  have hsW : W.heap.size = w1.heap.size + 1 := by rw [hW]; simp
  have a1 : W.heap[w1.heap.size]? = some (.cells #[.int .i64 (-1)] 3 (0, 0)) := by rw [hW]; exact heap_alloc_new w1 _
  have hbW : Below w1.heap.size w1 W := by rw [hW]; exact (Below.refl _ _).alloc (Nat.le_refl _) _
  have HRP : Hid (Calls Try.prog 18 #[.slice (some ⟨w1.heap.size, 0, none⟩) 1 1, .int .i64 n] W fun e w' => e = .returned (.slice (some ⟨W.heap.size, 0, none⟩) n n) ∧ w'.rowIs W.heap.size 3 n (fun _ => .int .i64 (-1)) ∧ Below W.heap.size W w') := repeat_any n (-1) w1.heap.size W (by omega) (by simp [World.cell?, a1])
  have HWW : Hid (W = w1.alloc (.cells #[.int .i64 (-1)] 3)) := hW
  have HBW : Hid (Below w.heap.size w W) := hb1.trans (hbW.mono hb1.size)
  clear hb1 HC hW hsW a1 hbW
  go_wp2_with fail
  rw [← HWW.out]
  refine HRP.out.mono ?_
  rintro e w2 ⟨rfl, hr, hb2⟩
  have HU1 := HU.out W w2 W.heap.size HBW.out hb2 (Nat.le_refl _) hr.lt hr
  have HB2 : Hid (Below w.heap.size w w2) := HBW.out.trans (hb2.mono HBW.out.size)
  have HG1 : Hid (w.heap.size ≤ W.heap.size) := HBW.out.size
  clear hr hb2 HRP HU
  go_wp2_with fail
  refine HU1.mono ?_
  rintro e w3 ⟨u, rfl, ho, hbt⟩
  have HO : Hid (w3.ownsRow w.heap.size 3 1 u (rdW c x).length (ints (natsI (rdW c x)))) := own_low ho HB2.out.size
  have HB3 : Hid (Below w.heap.size w w3) := btx_below HB2.out (Nat.le_refl _) hbt HG1.out
  clear ho hbt HU1
  go_wp2
  go_ret2
  exact ⟨_, rfl, HO.out, HB3.out⟩

/-- Of a part of a shortest word. -/
theorem bl_part {n : Nat} {c R : List (List Int)} (h : Gda n c R) {w l : List Nat} (hw : Lt c w) (hr : rdW c w = w) (hl : l.Sublist w) : blB c l w = true := by
  unfold blB
  rw [hr, fwd_tak, isp_part h.rt w.reverse l.reverse (lt_rev hw) (List.reverse_sublist.2 hl)]
  have hn := h.g.n1
  have hcl := h.g.sq.len
  refine decide_eq_true ?_
  obtain ⟨j, h1, h2⟩ := minL_mem (zs := ones c.length) (by simp [ones]; omega)
  rw [← h2, ones_at (by simpa [ones] using h1)]
  decide

theorem bl_long {n : Nat} {c R : List (List Int)} (h : Gda n c R) {w x : List Nat} (hw : Lt c w) (hx : Lt c x) (ex : tak c x (ones c.length) = ngL (ones c.length)) : blB c w (rdW c x) = true := by
  have hrx := rd_all h hx
  have hr2 := rd_all h hrx.2.1
  unfold blB
  rw [fwd_tak, isp_long h.rt hr2.2.1 (lt_rev hw) (by rw [hr2.2.2.1, hrx.2.2.1, ex])]
  have hn := h.g.n1
  have hcl := h.g.sq.len
  refine decide_eq_true ?_
  obtain ⟨j, h1, h2⟩ := minL_mem (zs := ones c.length) (by simp [ones]; omega)
  rw [← h2, ones_at (by simpa [ones] using h1)]
  decide

theorem isp_len (c : List (List Int)) : ∀ (l : List Nat) (m : List Int), m.length = c.length → (isp c l m).length = c.length
  | [], _, h => h
  | s :: l, m, h => isp_len c l _ (by
    show (if m.getD s 0 < 0 then ovL c m s else m).length = c.length
    by_cases e : m.getD s 0 < 0
    · rw [if_pos e, ovL_len]
    · rw [if_neg e, h])

theorem bl_same {n : Nat} {c R : List (List Int)} (h : Gda n c R) {w l : List Nat} (hw : Lt c w) (hr : rdW c w = w) (hl : l.Sublist w) : blB c w l = (tak c w (ones n) == tak c l (ones n)) := by
  have hcl := h.g.sq.len
  have hll : Lt c l := lt_sub hl hw
  by_cases e : l = w
  · subst e
    rw [bl_part h hw hr (List.Sublist.refl _)]
    simp
  · have hlen : l.length < w.length := by
      have := hl.length_le
      have h2 : l.length ≠ w.length := fun h3 => e (hl.eq_of_length h3)
      omega
    have h1 := (rd_all h hw).1
    rw [hr] at h1
    have h2 := (rd_all h hll).1
    have h3 := rd_len_le h hll
    have hf : blB c w l = false := by
      unfold blB
      refine decide_eq_false fun hp => ?_
      have h4 := isp_nB h.rt (rdW c l).reverse (fwd c w (ones c.length)) (lt_rev (rd_all h hll).2.1)
      rw [List.length_reverse] at h4
      have h5 : nB c.length R (isp c (rdW c l).reverse (fwd c w (ones c.length))) = 0 := dom_nB h.rt fun k hk => by
        have hle := minL_le (zs := isp c (rdW c l).reverse (fwd c w (ones c.length))) (j := k) (by rw [isp_len c _ _ (by rw [fwd_tak]; exact tak_len (by simp [ones]) _)]; exact hk)
        omega
      have h6 : nB c.length R (fwd c w (ones c.length)) = nB c.length R (tak c w (ones c.length)) := by
        rw [fwd_tak]; exact nB_rev h.rt w hw
      omega
    rw [hf]
    have hne : ¬ tak c w (ones n) = tak c l (ones n) := fun h7 => by
      rw [hcl] at h1 h2
      rw [h7] at h1
      omega
    simp [hne]

theorem rd_rd {n : Nat} {c R : List (List Int)} (h : Gda n c R) {w : List Nat} (hw : Lt c w) : rdW c (rdW c w) = rdW c w := by
  have := (rd_all h hw).2.2.1
  show upr c 24 (tak c (rdW c w) (ones c.length)) = upr c 24 (tak c w (ones c.length))
  rw [this]

end Go.Proofs.Ytjpmhgidckmdoaa
