import Derived.Test.YtkgljfnbaoncbaaMgAA
import Derived.Test.YtkgljfnbaoncbaaMgAG
import Derived.RangeFuncNested
import Derived.RangeFuncBound
import Derived.RangeFuncCalls
import Derived.RangeFuncLeaves
import Derived.Shelf.Abstract
import Derived.WalkKit
import Derived.OwnWalkIn
import Derived.TacticsInMore
import Derived.LoopNIn
import Derived.LoopIn
import Derived.Test.YtkgljfnbaoncbaaMgAB
import Derived.Laws.EntriesVeiled
import Derived.Test.YtkgljfnbaoncbaaMgAC
import Derived.Deep.RegionHeld3
import Derived.Deep.RegionLaw
import Derived.Deep.DrawnRows
import Derived.Deep.OwnRows
/- Bruhat's order, pure: a letter that makes a word shorter is the same as one of its letters left out; parts of words; the longest. -/
namespace Go.Proofs.Ytkgljfnbaoncbaa

/-- A list less a multiple of another. -/
def mi (n : Nat) (x : List Int) (q : Int) (u : List Int) : List Int := (List.range n).map fun k => x.getD k 0 - q * u.getD k 0

theorem mi_at {n k : Nat} (x : List Int) (q : Int) (u : List Int) (hk : k < n) : (mi n x q u).getD k 0 = x.getD k 0 - q * u.getD k 0 := by
  unfold mi; rw [getD_range hk]

theorem mi_len (n : Nat) (x : List Int) (q : Int) (u : List Int) : (mi n x q u).length = n := by simp [mi]

theorem ctn_mi (c : List (List Int)) (r : Nat) (x : List Int) (q : Int) (u : List Int) : ctn c r (mi c.length x q u) = mi c.length (ctn c r x) q (ctn c r u) := by
  refine list_ext (n := c.length) (ctn_len _ _ _) (mi_len _ _ _ _) fun k hk => ?_
  have e : sm c.length (fun k => cE c r k * (mi c.length x q u).getD k 0) = sm c.length (fun k => cE c r k * x.getD k 0) - q * sm c.length (fun k => cE c r k * u.getD k 0) := by
    have e1 : sm c.length (fun k => cE c r k * (mi c.length x q u).getD k 0) = sm c.length (fun k => cE c r k * x.getD k 0 + (-q) * (cE c r k * u.getD k 0)) := sm_congr _ fun k hk => by
      rw [mi_at x q u hk, Int.mul_sub, Int.neg_mul, Int.mul_left_comm]
      omega
    rw [e1, sm_add, sm_mul, Int.neg_mul]
    omega
  rw [mi_at _ _ _ hk, ctn_at _ hk, ctn_at _ hk, ctn_at _ hk, e]
  by_cases h : k = r
  · subst h
    rw [if_pos rfl, if_pos rfl, if_pos rfl, mi_at _ _ _ hk, Int.mul_sub]
    omega
  · rw [if_neg h, if_neg h, if_neg h, mi_at _ _ _ hk]

theorem tb_mi (c : List (List Int)) : ∀ (y : List Nat) (x : List Int) (q : Int) (u : List Int), tb c y (mi c.length x q u) = mi c.length (tb c y x) q (tb c y u)
  | [], _, _, _ => rfl
  | a :: y, x, q, u => by
    show tb c y (ctn c a (mi c.length x q u)) = mi c.length (tb c y (ctn c a x)) q (tb c y (ctn c a u))
    rw [ctn_mi, tb_mi c y]

theorem ctn_as {c : List (List Int)} {s : Nat} (b : List Int) : ctn c s b = mi c.length b (sm c.length fun k => cE c s k * b.getD k 0) (un c.length s) := by
  refine list_ext (n := c.length) (ctn_len _ _ _) (mi_len _ _ _ _) fun k hk => ?_
  rw [mi_at _ _ _ hk, ctn_at _ hk, un_at hk]
  by_cases h : k = s
  · subst h; rw [if_pos rfl, if_pos rfl]; omega
  · rw [if_neg h, if_neg h]; omega

theorem tb_app (c : List (List Int)) (y x : List Nat) (b : List Int) : tb c (y ++ x) b = tb c x (tb c y b) := by
  unfold tb; rw [List.foldl_append]

theorem tak_app (c : List (List Int)) (y x : List Nat) (v : List Int) : tak c (y ++ x) v = tak c y (tak c x v) := by
  unfold tak; rw [List.foldr_append]

theorem lt_cons {c : List (List Int)} {s : Nat} {w : List Nat} (hs : s < c.length) (hw : Lt c w) : Lt c (s :: w) := fun x hx => by
  rcases List.mem_cons.1 hx with rfl | hx
  · exact hs
  · exact hw x hx

theorem lt_two {c : List (List Int)} {y x : List Nat} (hy : Lt c y) (hx : Lt c x) : Lt c (y ++ x) := fun z hz => by
  rcases List.mem_append.1 hz with h | h
  · exact hy z h
  · exact hx z h

theorem lt_rev {c : List (List Int)} {y : List Nat} (hy : Lt c y) : Lt c y.reverse := fun z hz => hy z (by simpa using hz)

theorem lt_sub {c : List (List Int)} {x y : List Nat} (h : x.Sublist y) (hy : Lt c y) : Lt c x := fun z hz => hy z (h.subset hz)

theorem tak_back {c R : List (List Int)} (h : Rt c R) : ∀ (y : List Nat) {u : List Int}, Lt c y → u.length = c.length → tak c y (tak c y.reverse u) = u
  | [], _, _, _ => rfl
  | a :: y, u, hy, hu => by
    have ha : a < c.length := hy a (by simp)
    rw [List.reverse_cons, tak_app]
    show ovL c (tak c y (tak c y.reverse (ovL c u a))) a = u
    rw [tak_back h y (fun z hz => hy z (by simp [hz])) (ovL_len _ _ _), ov_ov h hu ha]

theorem ht_un {n s : Nat} (hs : s < n) : ht n (un n s) = 1 := by
  unfold ht
  rw [sm_congr (g := fun k => if k = s then 1 else 0) _ fun k hk => un_at hk, sm_one (f := fun _ => 1) _ hs]

/-- A root above 0 that is not a simple one has another number above 0. -/
theorem other {c R : List (List Int)} (h : Rt c R) {r : Nat} (hr : r < c.length) {b : List Int} (hb : b ∈ R) (hne : b ≠ un c.length r) : ∃ k, k < c.length ∧ k ≠ r ∧ 0 < b.getD k 0 := by
  refine Classical.byContradiction fun hno => ?_
  have hz : ∀ k, k < c.length → k ≠ r → b.getD k 0 = 0 := fun k hk hkr => by
    have := h.nn b hb k hk
    have h2 : ¬ 0 < b.getD k 0 := fun h3 => hno ⟨k, hk, hkr, h3⟩
    omega
  have hm : b ∈ R.erase (un c.length r) := (List.mem_erase_of_ne hne).2 hb
  have h2 : ctn c r b ∈ R.erase (un c.length r) := (h.prm r hr).mem_iff.1 (List.mem_map_of_mem hm)
  have h3 := h.nn _ (List.mem_of_mem_erase h2) r hr
  rw [ctn_at _ hr, if_pos rfl] at h3
  have e1 : sm c.length (fun k => cE c r k * b.getD k 0) = 2 * b.getD r 0 := by
    rw [sm_congr (g := fun k => if k = r then 2 * b.getD k 0 else 0) c.length fun k hk => ?_, sm_one (f := fun k => 2 * b.getD k 0) _ hr]
    by_cases e : k = r
    · subst e; rw [if_pos rfl, h.dg k hk]
    · rw [if_neg e, hz k hk e, Int.mul_zero]
  have e2 : (sm c.length fun k => b.getD k 0) = b.getD r 0 := by
    rw [sm_congr (g := fun k => if k = r then b.getD k 0 else 0) c.length fun k hk => ?_, sm_one (f := fun k => b.getD k 0) _ hr]
    by_cases e : k = r
    · rw [if_pos e]
    · rw [if_neg e, hz k hk e]
  have h4 := h.pos b hb
  rw [e1] at h3
  omega

theorem sm_but {f g : Nat → Int} {r : Nat} : ∀ n, r < n → (∀ k, k < n → k ≠ r → f k = g k) → sm n f = sm n g → f r = g r
  | 0, h, _, _ => absurd h (by omega)
  | n + 1, h, hk, e => by
    have e' : sm n f + f n = sm n g + g n := e
    by_cases hn : n = r
    · subst hn
      rw [sm_congr n fun k hk' => hk k (by omega) (by omega)] at e'
      omega
    · rw [hk n (by omega) hn] at e'
      exact sm_but n (by omega) (fun k h1 h2 => hk k (by omega) h2) (by omega)

/-- A word that takes one simple root to another turns over the one as the other, there and back. -/
theorem conj_fix {c R : List (List Int)} (h : Rt c R) {y : List Nat} (hy : Lt c y) {s r : Nat} (hs : s < c.length) (hr : r < c.length) (e : tb c y (un c.length s) = un c.length r) :
    ∀ b ∈ R, tb c (y.reverse ++ (s :: (y ++ [r]))) b = b := by
  have hg : Lt c (y.reverse ++ (s :: (y ++ [r]))) := lt_two (lt_rev hy) (lt_cons hs (lt_two hy (fun z hz => by rw [List.mem_singleton] at hz; omega)))
  have hex : ∀ b, tb c (y.reverse ++ (s :: (y ++ [r]))) b = ctn c r (tb c y (ctn c s (tb c y.reverse b))) := fun b => by
    rw [tb_app]
    show tb c (y ++ [r]) (ctn c s (tb c y.reverse b)) = _
    rw [tb_app]; rfl
  have hoff : ∀ b, b.length = c.length → ∀ k, k < c.length → k ≠ r → (tb c (y.reverse ++ (s :: (y ++ [r]))) b).getD k 0 = b.getD k 0 := fun b hb k hk hkr => by
    rw [hex, ctn_at _ hk, if_neg hkr, ctn_as (tb c y.reverse b), tb_mi, tb_back h y hy hb, e, mi_at _ _ _ hk, un_at hk, if_neg hkr]
    omega
  have hpos : ∀ b ∈ R, 0 < ht c.length (tb c (y.reverse ++ (s :: (y ++ [r]))) b) := fun b hb => by
    by_cases hbr : b = un c.length r
    · subst hbr
      have e2 : tb c y.reverse (un c.length r) = un c.length s := by rw [← e]; exact tb_forth h hy (un_len _ _)
      rw [hex, e2, ctn_un h hs, tb_ng, e, ctn_ng, ctn_un h hr, ngL_ng, ht_un hr]
      decide
    · obtain ⟨k, hk, hkr, hk0⟩ := other h hr hb hbr
      have ho := hoff b (h.len b hb) k hk hkr
      rcases pm_tb h _ hg (.inl hb) with hp | hp
      · exact h.pos _ hp
      · have := h.nn _ hp k hk
        rw [ngL_get, ho] at this
        omega
  have h0 : nB c.length R (tak c (y.reverse ++ (s :: (y ++ [r]))) (ones c.length)) = 0 := by
    unfold nB
    rw [List.countP_eq_zero]
    intro b hb
    simp only [decide_eq_true_eq]
    rw [pr_tak _ _ _ hg, pr_ones]
    have := hpos b hb
    unfold ht at this
    omega
  have h1 := dom_one h hg h0
  intro b hb
  have hlen : (tb c (y.reverse ++ (s :: (y ++ [r]))) b).length = c.length := tb_len _ (h.len b hb)
  have hh : ht c.length (tb c (y.reverse ++ (s :: (y ++ [r]))) b) = ht c.length b := by
    have e1 := pr_tak (ones c.length) (y.reverse ++ (s :: (y ++ [r]))) b hg
    rw [h1, pr_ones, pr_ones] at e1
    exact e1.symm
  refine list_ext hlen (h.len b hb) fun k hk => ?_
  by_cases hkr : k = r
  · subst hkr
    exact sm_but (f := fun k => (tb c (y.reverse ++ (s :: (y ++ [_]))) b).getD k 0) (g := fun k => b.getD k 0) c.length hr (fun j hj hjr => hoff b (h.len b hb) j hj hjr) hh
  · exact hoff b (h.len b hb) k hk hkr

theorem conj_tak {c R : List (List Int)} (h : Rt c R) {y : List Nat} (hy : Lt c y) {s r : Nat} (hs : s < c.length) (hr : r < c.length) (e : tb c y (un c.length s) = un c.length r) {v : List Int} (hv : v.length = c.length) :
    tak c (s :: (y ++ [r])) v = tak c y v := by
  have hg : Lt c (y.reverse ++ (s :: (y ++ [r]))) := lt_two (lt_rev hy) (lt_cons hs (lt_two hy (fun z hz => by rw [List.mem_singleton] at hz; omega)))
  have h1 : tak c (y.reverse ++ (s :: (y ++ [r]))) v = v := by
    refine list_ext (tak_len hv _) hv fun k hk => ?_
    rw [← pr_un _ hk, pr_tak _ _ _ hg, conj_fix h hy hs hr e _ (h.sim k hk), pr_un _ hk]
  rw [tak_app] at h1
  have h2 := tak_back h y (u := tak c (s :: (y ++ [r])) v) hy (tak_len hv _)
  rw [h1] at h2
  exact h2.symm

theorem tak_no0 {c R : List (List Int)} (h : Rt c R) {s : Nat} (hs : s < c.length) {x : List Nat} (hx : Lt c x) : (tak c x (ones c.length)).getD s 0 ≠ 0 := by
  have := tak_rg h (ones_rg h) x hx (un c.length s) (h.sim s hs)
  rw [pr_un _ hs] at this
  exact this

theorem nB_rev {c R : List (List Int)} (h : Rt c R) : ∀ (w : List Nat), Lt c w → nB c.length R (tak c w.reverse (ones c.length)) = nB c.length R (tak c w (ones c.length))
  | [], _ => rfl
  | s :: w, hw => by
    have hs : s < c.length := hw s (by simp)
    have hw' : Lt c w := fun z hz => hw z (by simp [hz])
    have ih := nB_rev h w hw'
    have h1 := ends_ok h (lt_rev hw') hs
    rw [List.reverse_reverse] at h1
    have h2 := nB_ov h (tak c w (ones c.length)) hs
    have h0 := tak_no0 h hs hw'
    rw [List.reverse_cons]
    show nB c.length R (tak c (w.reverse ++ [s]) (ones c.length)) = nB c.length R (ovL c (tak c w (ones c.length)) s)
    rcases Int.lt_or_gt_of_ne h0 with hn | hn
    · have a1 := h1.2 hn
      have a2 := h2.2 hn
      omega
    · have a1 := h1.1 hn
      have a2 := h2.1 hn
      omega

/-- No mark above 0, and taken there by a word: all marks are -1. -/
theorem neg_one {c R : List (List Int)} (h : Rt c R) {w : List Nat} (hw : Lt c w) (h0 : ∀ k, k < c.length → ¬ 0 < (tak c w (ones c.length)).getD k 0) : tak c w (ones c.length) = ngL (ones c.length) := by
  have hq := qS_tak h (ones c.length) w hw
  have hl : (tak c w (ones c.length)).length = c.length := tak_len (by simp [ones]) w
  have hd : ∀ k, k < c.length → (tak c w (ones c.length)).getD k 0 ≤ -1 := fun k hk => by
    have h1 := h0 k hk
    have h2 := tak_no0 h hk hw
    omega
  generalize tak c w (ones c.length) = d at *
  have hle : ∀ b ∈ R, (pr c.length (ones c.length) b).natAbs ≤ (pr c.length d b).natAbs := fun b hb => by
    have h2 := h.pos b hb
    rw [pr_ones]
    have h3 : pr c.length d b ≤ sm c.length fun k => -(b.getD k 0) := sm_le _ fun k hk => by
      have e1 := hd k hk
      have e2 := h.nn b hb k hk
      have := Int.mul_le_mul_of_nonneg_right e1 e2
      omega
    rw [sm_ng] at h3
    omega
  have heq := nat_sum_eq hle hq.symm
  refine list_ext hl (by simp [ngL, ones]) fun k hk => ?_
  have e := heq _ (h.sim k hk)
  rw [pr_un _ hk, pr_un _ hk] at e
  have e1 := hd k hk
  have e2 : (ones c.length).getD k 0 = 1 := by simp [ones, hk]
  rw [ngL_get]
  rw [e2] at e ⊢
  omega

/-- There is a longest one. -/
theorem climb {c R : List (List Int)} (h : Rt c R) : ∀ (f : Nat) (w : List Nat), Lt c w → R.length ≤ nB c.length R (tak c w (ones c.length)) + f → ∃ x, Lt c x ∧ tak c x (ones c.length) = ngL (ones c.length) := fun f => by
  induction f with
  | zero =>
    intro w hw hf
    refine ⟨w, hw, neg_one h hw fun k hk hk0 => ?_⟩
    have h1 := (nB_ov h _ hk).1 hk0
    have h2 : nB c.length R (ovL c (tak c w (ones c.length)) k) ≤ R.length := List.countP_le_length
    omega
  | succ f ih =>
    intro w hw hf
    by_cases hp : ∃ k, k < c.length ∧ 0 < (tak c w (ones c.length)).getD k 0
    · obtain ⟨k, hk, hk0⟩ := hp
      have h1 := (nB_ov h _ hk).1 hk0
      refine ih (k :: w) (lt_cons hk hw) ?_
      show R.length ≤ nB c.length R (ovL c (tak c w (ones c.length)) k) + f
      omega
    · exact ⟨w, hw, neg_one h hw fun k hk hk0 => hp ⟨k, hk, hk0⟩⟩

theorem long_some {c R : List (List Int)} (h : Rt c R) : ∃ x, Lt c x ∧ tak c x (ones c.length) = ngL (ones c.length) :=
  climb h R.length [] (fun z hz => by simp at hz) (Nat.le_add_left _ _)

end Go.Proofs.Ytkgljfnbaoncbaa

/- weyl.Below, weyl.Longest. -/
namespace Go.Proofs.Ytkgljfnbaoncbaa
open Go.RowKit
attribute [local go_sem ↓] Go.wp_at_zero Go.wp_at_succ

theorem ones_ng (n : Nat) : ngL (ones n) = List.replicate n (-1) := by simp [ngL, ones]

set_option maxRecDepth 100000 in
set_option maxHeartbeats 1600000 in
theorem longest_any (n : Nat) (c R : List (List Int)) (x : List Nat) (cv : Value) (w : World) (hg : Gda n c R) (hx : Lt c x) (ex : tak c x (ones c.length) = ngL (ones c.length)) (hm : Mat w.heap.size 26 3 w cv c) :
    Calls Try.prog 12 #[cv] w fun e w' => ∃ u, e = .returned (.tuple #[u, .int .i64 0]) ∧ w'.ownsRow w.heap.size 3 1 u (rdW c x).length (ints (natsI (rdW c x))) ∧ Below w.heap.size w w' := by
  have hcl := hg.g.sq.len
  have hn1 := hg.g.n1
  have hn4 := hg.g.sq.n4
  have HC : Hid (Calls Try.prog 27 #[cv] w fun e w' => e = .returned (.int .i64 0) ∧ Below w.heap.size w w') := checkR_any n c cv w hg.g hm
  have hl : (ngL (ones n)).length = n := by simp [ngL, ones]
  have hbd : BdQ n R (ngL (ones n)) := by
    have e := qS_tak hg.rt (ones c.length) x hx
    rw [ex, hcl] at e
    exact ⟨hl, by rw [e]; exact hg.q⟩
  have HU : Hid (∀ W W2 g, Below w.heap.size w W → Below W.heap.size W W2 → W.heap.size ≤ g → g < W2.heap.size → W2.rowIs g 3 n (fun _ => .int .i64 (-1)) → Calls Try.prog 28 #[cv, .slice (some ⟨g, 0, none⟩) n n] W2 fun e w' => ∃ u, e = .returned u ∧ w'.ownsRow W2.heap.size 3 1 u (rdW c x).length (ints (natsI (rdW c x))) ∧ Btx g W2 w') := fun W W2 g h1 h2 h3 h4 h5 => by
    have h5' : W2.rowIs g 3 n (fun k => .int .i64 ((ngL (ones n)).getD k 0)) := h5.congr fun k hk => by rw [ones_ng]; simp [hk]
    have hu := uprt_any n c (ngL (ones n)) g W.heap.size 24 cv W W2 hg.g.sq ((hm.below h1 (Nat.le_refl _)).any (Nat.le_refl _)) (fun b hb => h2.block b hb) h3 h4 h5' hl (BdQ n R) hbd hg.b1 hg.b2 (by have := (rd_all hg hx).2.2.2; rw [ex, hcl] at this; exact this) (by omega)
    unfold rdW
    rw [ex, hcl]
    exact hu
  obtain ⟨ao, cap, hvv, _, hcm⟩ := mat_open hm
  subst hvv
  rw [hcl] at *
  clear hg hm hx ex hl hbd
  go_enter Try.func12, Try.ntmps12
  go_wp2_with fail
  refine HC.out.mono ?_
  rintro e w1 ⟨rfl, hb1⟩
  have HB1 : Hid (Below w.heap.size w w1) := hb1
  obtain ⟨W, hW⟩ : ∃ W, W = w1.alloc (.cells #[.int .i64 (-1)] 3) := ⟨_, rfl⟩
  have hsW : W.heap.size = w1.heap.size + 1 := by rw [hW]; simp
  have a1 : W.heap[w1.heap.size]? = some (.cells #[.int .i64 (-1)] 3 (0, 0)) := by rw [hW]; exact heap_alloc_new w1 _
  have hbW : Below w1.heap.size w1 W := by rw [hW]; exact (Below.refl _ _).alloc (Nat.le_refl _) _
  have HRP : Hid (Calls Try.prog 29 #[.slice (some ⟨w1.heap.size, 0, none⟩) 1 1, .int .i64 n] W fun e w' => e = .returned (.slice (some ⟨W.heap.size, 0, none⟩) n n) ∧ w'.rowIs W.heap.size 3 n (fun _ => .int .i64 (-1)) ∧ Below W.heap.size W w') := repeat_any n (-1) w1.heap.size W (by omega) (by simp [World.cell?, a1])
  have HWW : Hid (W = w1.alloc (.cells #[.int .i64 (-1)] 3)) := hW
  have HBW : Hid (Below w.heap.size w W) := hb1.trans (hbW.mono hb1.size)
  clear hb1 HC hW hsW a1 hbW
  go_wp2_with fail
  rw [← HWW.out]
  refine HRP.out.mono ?_
  rintro e w2 ⟨rfl, hr, hb2⟩
  have HU1 := HU.out W w2 W.heap.size HBW.out hb2 (Nat.le_refl _) hr.lt hr
  have HB2 : Hid (Below w.heap.size w w2) := HBW.out.trans (hb2.mono HBW.out.size)
  have HG1 : Hid (w.heap.size ≤ W.heap.size) := HBW.out.size
  clear hr hb2 HRP HU
  go_wp2_with fail
  refine HU1.mono ?_
  rintro e w3 ⟨u, rfl, ho, hbt⟩
  have HO : Hid (w3.ownsRow w.heap.size 3 1 u (rdW c x).length (ints (natsI (rdW c x)))) := own_low ho HB2.out.size
  have HB3 : Hid (Below w.heap.size w w3) := btx_below HB2.out (Nat.le_refl _) hbt HG1.out
  clear ho hbt HU1
  go_wp2
  go_ret2
  exact ⟨_, rfl, HO.out, HB3.out⟩

theorem rd_rd {n : Nat} {c R : List (List Int)} (h : Gda n c R) {w : List Nat} (hw : Lt c w) : rdW c (rdW c w) = rdW c w := by
  have := (rd_all h hw).2.2.1
  show upr c 24 (tak c (rdW c w) (ones c.length)) = upr c 24 (tak c w (ones c.length))
  rw [this]

end Go.Proofs.Ytkgljfnbaoncbaa
