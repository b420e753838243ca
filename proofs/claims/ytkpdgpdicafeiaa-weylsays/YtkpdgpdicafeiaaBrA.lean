import Derived.Test.YtkpdgpdicafeiaaWlA
import Derived.Test.YtkpdgpdicafeiaaWy5
import Derived.Test.YtkpdgpdicafeiaaTs1
/- Bruhat's order, pure: a letter that makes a word shorter is the same as one of its letters left out; parts of words; the longest. -/
namespace Go.Proofs.Ytkpdgpdicafeiaa

/-- A list less a multiple of another. -/
def mi (n : Nat) (x : List Int) (q : Int) (u : List Int) : List Int := (List.range n).map fun k => x.getD k 0 - q * u.getD k 0

theorem mi_at {n k : Nat} (x : List Int) (q : Int) (u : List Int) (hk : k < n) : (mi n x q u).getD k 0 = x.getD k 0 - q * u.getD k 0 := by
  unfold mi; rw [getD_range hk]

theorem mi_len (n : Nat) (x : List Int) (q : Int) (u : List Int) : (mi n x q u).length = n := by simp [mi]

theorem ctn_mi (c : List (List Int)) (r : Nat) (x : List Int) (q : Int) (u : List Int) : ctn c r (mi c.length x q u) = mi c.length (ctn c r x) q (ctn c r u) := by
  refine list_ext (n := c.length) (ctn_len _ _ _) (mi_len _ _ _ _) fun k hk => ?_
  have e : sm c.length (fun k => cE c r k * (mi c.length x q u).getD k 0) = sm c.length (fun k => cE c r k * x.getD k 0) - q * sm c.length (fun k => cE c r k * u.getD k 0) := by
    have e1 : sm c.length (fun k => cE c r k * (mi c.length x q u).getD k 0) = sm c.length (fun k => cE c r k * x.getD k 0 + (-q) * (cE c r k * u.getD k 0)) := sm_congr _ fun k hk => by
      rw [mi_at x q u hk, Int.mul_sub, Int.neg_mul, Int.mul_left_comm]
      omega
    rw [e1, sm_add, sm_mul, Int.neg_mul]
    omega
  rw [mi_at _ _ _ hk, ctn_at _ hk, ctn_at _ hk, ctn_at _ hk, e]
  by_cases h : k = r
  · subst h
    rw [if_pos rfl, if_pos rfl, if_pos rfl, mi_at _ _ _ hk, Int.mul_sub]
    omega
  · rw [if_neg h, if_neg h, if_neg h, mi_at _ _ _ hk]

theorem tb_mi (c : List (List Int)) : ∀ (y : List Nat) (x : List Int) (q : Int) (u : List Int), tb c y (mi c.length x q u) = mi c.length (tb c y x) q (tb c y u)
  | [], _, _, _ => rfl
  | a :: y, x, q, u => by
    show tb c y (ctn c a (mi c.length x q u)) = mi c.length (tb c y (ctn c a x)) q (tb c y (ctn c a u))
    rw [ctn_mi, tb_mi c y]

theorem ctn_as {c : List (List Int)} {s : Nat} (b : List Int) : ctn c s b = mi c.length b (sm c.length fun k => cE c s k * b.getD k 0) (un c.length s) := by
  refine list_ext (n := c.length) (ctn_len _ _ _) (mi_len _ _ _ _) fun k hk => ?_
  rw [mi_at _ _ _ hk, ctn_at _ hk, un_at hk]
  by_cases h : k = s
  · subst h; rw [if_pos rfl, if_pos rfl]; omega
  · rw [if_neg h, if_neg h]; omega

theorem tb_app (c : List (List Int)) (y x : List Nat) (b : List Int) : tb c (y ++ x) b = tb c x (tb c y b) := by
  unfold tb; rw [List.foldl_append]

theorem tak_app (c : List (List Int)) (y x : List Nat) (v : List Int) : tak c (y ++ x) v = tak c y (tak c x v) := by
  unfold tak; rw [List.foldr_append]

theorem lt_cons {c : List (List Int)} {s : Nat} {w : List Nat} (hs : s < c.length) (hw : Lt c w) : Lt c (s :: w) := fun x hx => by
  rcases List.mem_cons.1 hx with rfl | hx
  · exact hs
  · exact hw x hx

theorem lt_two {c : List (List Int)} {y x : List Nat} (hy : Lt c y) (hx : Lt c x) : Lt c (y ++ x) := fun z hz => by
  rcases List.mem_append.1 hz with h | h
  · exact hy z h
  · exact hx z h

theorem lt_rev {c : List (List Int)} {y : List Nat} (hy : Lt c y) : Lt c y.reverse := fun z hz => hy z (by simpa using hz)

theorem lt_sub {c : List (List Int)} {x y : List Nat} (h : x.Sublist y) (hy : Lt c y) : Lt c x := fun z hz => hy z (h.subset hz)

theorem tak_back {c R : List (List Int)} (h : Rt c R) : ∀ (y : List Nat) {u : List Int}, Lt c y → u.length = c.length → tak c y (tak c y.reverse u) = u
  | [], _, _, _ => rfl
  | a :: y, u, hy, hu => by
    have ha : a < c.length := hy a (by simp)
    rw [List.reverse_cons, tak_app]
    show ovL c (tak c y (tak c y.reverse (ovL c u a))) a = u
    rw [tak_back h y (fun z hz => hy z (by simp [hz])) (ovL_len _ _ _), ov_ov h hu ha]

theorem ht_un {n s : Nat} (hs : s < n) : ht n (un n s) = 1 := by
  unfold ht
  rw [sm_congr (g := fun k => if k = s then 1 else 0) _ fun k hk => un_at hk, sm_one (f := fun _ => 1) _ hs]

/-- A root above 0 that is not a simple one has another number above 0. -/
theorem other {c R : List (List Int)} (h : Rt c R) {r : Nat} (hr : r < c.length) {b : List Int} (hb : b ∈ R) (hne : b ≠ un c.length r) : ∃ k, k < c.length ∧ k ≠ r ∧ 0 < b.getD k 0 := by
  refine Classical.byContradiction fun hno => ?_
  have hz : ∀ k, k < c.length → k ≠ r → b.getD k 0 = 0 := fun k hk hkr => by
    have := h.nn b hb k hk
    have h2 : ¬ 0 < b.getD k 0 := fun h3 => hno ⟨k, hk, hkr, h3⟩
    omega
  have hm : b ∈ R.erase (un c.length r) := (List.mem_erase_of_ne hne).2 hb
  have h2 : ctn c r b ∈ R.erase (un c.length r) := (h.prm r hr).mem_iff.1 (List.mem_map_of_mem hm)
  have h3 := h.nn _ (List.mem_of_mem_erase h2) r hr
  rw [ctn_at _ hr, if_pos rfl] at h3
  have e1 : sm c.length (fun k => cE c r k * b.getD k 0) = 2 * b.getD r 0 := by
    rw [sm_congr (g := fun k => if k = r then 2 * b.getD k 0 else 0) c.length fun k hk => ?_, sm_one (f := fun k => 2 * b.getD k 0) _ hr]
    by_cases e : k = r
    · subst e; rw [if_pos rfl, h.dg k hk]
    · rw [if_neg e, hz k hk e, Int.mul_zero]
  have e2 : (sm c.length fun k => b.getD k 0) = b.getD r 0 := by
    rw [sm_congr (g := fun k => if k = r then b.getD k 0 else 0) c.length fun k hk => ?_, sm_one (f := fun k => b.getD k 0) _ hr]
    by_cases e : k = r
    · rw [if_pos e]
    · rw [if_neg e, hz k hk e]
  have h4 := h.pos b hb
  rw [e1] at h3
  omega

theorem sm_but {f g : Nat → Int} {r : Nat} : ∀ n, r < n → (∀ k, k < n → k ≠ r → f k = g k) → sm n f = sm n g → f r = g r
  | 0, h, _, _ => absurd h (by omega)
  | n + 1, h, hk, e => by
    have e' : sm n f + f n = sm n g + g n := e
    by_cases hn : n = r
    · subst hn
      rw [sm_congr n fun k hk' => hk k (by omega) (by omega)] at e'
      omega
    · rw [hk n (by omega) hn] at e'
      exact sm_but n (by omega) (fun k h1 h2 => hk k (by omega) h2) (by omega)

/-- A word that takes one simple root to another turns over the one as the other, there and back. -/
theorem conj_fix {c R : List (List Int)} (h : Rt c R) {y : List Nat} (hy : Lt c y) {s r : Nat} (hs : s < c.length) (hr : r < c.length) (e : tb c y (un c.length s) = un c.length r) :
    ∀ b ∈ R, tb c (y.reverse ++ (s :: (y ++ [r]))) b = b := by
  have hg : Lt c (y.reverse ++ (s :: (y ++ [r]))) := lt_two (lt_rev hy) (lt_cons hs (lt_two hy (fun z hz => by rw [List.mem_singleton] at hz; omega)))
  have hex : ∀ b, tb c (y.reverse ++ (s :: (y ++ [r]))) b = ctn c r (tb c y (ctn c s (tb c y.reverse b))) := fun b => by
    rw [tb_app]
    show tb c (y ++ [r]) (ctn c s (tb c y.reverse b)) = _
    rw [tb_app]; rfl
  have hoff : ∀ b, b.length = c.length → ∀ k, k < c.length → k ≠ r → (tb c (y.reverse ++ (s :: (y ++ [r]))) b).getD k 0 = b.getD k 0 := fun b hb k hk hkr => by
    rw [hex, ctn_at _ hk, if_neg hkr, ctn_as (tb c y.reverse b), tb_mi, tb_back h y hy hb, e, mi_at _ _ _ hk, un_at hk, if_neg hkr]
    omega
  have hpos : ∀ b ∈ R, 0 < ht c.length (tb c (y.reverse ++ (s :: (y ++ [r]))) b) := fun b hb => by
    by_cases hbr : b = un c.length r
    · subst hbr
      have e2 : tb c y.reverse (un c.length r) = un c.length s := by rw [← e]; exact tb_forth h hy (un_len _ _)
      rw [hex, e2, ctn_un h hs, tb_ng, e, ctn_ng, ctn_un h hr, ngL_ng, ht_un hr]
      decide
    · obtain ⟨k, hk, hkr, hk0⟩ := other h hr hb hbr
      have ho := hoff b (h.len b hb) k hk hkr
      rcases pm_tb h _ hg (.inl hb) with hp | hp
      · exact h.pos _ hp
      · have := h.nn _ hp k hk
        rw [ngL_get, ho] at this
        omega
  have h0 : nB c.length R (tak c (y.reverse ++ (s :: (y ++ [r]))) (ones c.length)) = 0 := by
    unfold nB
    rw [List.countP_eq_zero]
    intro b hb
    simp only [decide_eq_true_eq]
    rw [pr_tak _ _ _ hg, pr_ones]
    have := hpos b hb
    unfold ht at this
    omega
  have h1 := dom_one h hg h0
  intro b hb
  have hlen : (tb c (y.reverse ++ (s :: (y ++ [r]))) b).length = c.length := tb_len _ (h.len b hb)
  have hh : ht c.length (tb c (y.reverse ++ (s :: (y ++ [r]))) b) = ht c.length b := by
    have e1 := pr_tak (ones c.length) (y.reverse ++ (s :: (y ++ [r]))) b hg
    rw [h1, pr_ones, pr_ones] at e1
    exact e1.symm
  refine list_ext hlen (h.len b hb) fun k hk => ?_
  by_cases hkr : k = r
  · subst hkr
    exact sm_but (f := fun k => (tb c (y.reverse ++ (s :: (y ++ [_]))) b).getD k 0) (g := fun k => b.getD k 0) c.length hr (fun j hj hjr => hoff b (h.len b hb) j hj hjr) hh
  · exact hoff b (h.len b hb) k hk hkr

theorem conj_tak {c R : List (List Int)} (h : Rt c R) {y : List Nat} (hy : Lt c y) {s r : Nat} (hs : s < c.length) (hr : r < c.length) (e : tb c y (un c.length s) = un c.length r) {v : List Int} (hv : v.length = c.length) :
    tak c (s :: (y ++ [r])) v = tak c y v := by
  have hg : Lt c (y.reverse ++ (s :: (y ++ [r]))) := lt_two (lt_rev hy) (lt_cons hs (lt_two hy (fun z hz => by rw [List.mem_singleton] at hz; omega)))
  have h1 : tak c (y.reverse ++ (s :: (y ++ [r]))) v = v := by
    refine list_ext (tak_len hv _) hv fun k hk => ?_
    rw [← pr_un _ hk, pr_tak _ _ _ hg, conj_fix h hy hs hr e _ (h.sim k hk), pr_un _ hk]
  rw [tak_app] at h1
  have h2 := tak_back h y (u := tak c (s :: (y ++ [r])) v) hy (tak_len hv _)
  rw [h1] at h2
  exact h2.symm

theorem exch {c R : List (List Int)} (h : Rt c R) {s : Nat} (hs : s < c.length) : ∀ (x y : List Nat), Lt c x → Lt c y → tb c y (un c.length s) ∈ R → ht c.length (tb c (y ++ x) (un c.length s)) < 0 →
    ∃ x' : List Nat, x'.Sublist x ∧ tak c (s :: (y ++ x)) (ones c.length) = tak c (y ++ x') (ones c.length)
  | [], y, _, hy, hm, hn => by
    rw [List.append_nil] at hn
    have := h.pos _ hm
    unfold ht at hn
    omega
  | r :: x, y, hx, hy, hm, hn => by
    have hr : r < c.length := hx r (by simp)
    have hx' : Lt c x := fun z hz => hx z (by simp [hz])
    by_cases hm2 : tb c (y ++ [r]) (un c.length s) ∈ R
    · obtain ⟨x', h1, h2⟩ := exch h hs x (y ++ [r]) hx' (lt_two hy (fun z hz => by rw [List.mem_singleton] at hz; omega)) hm2 (by rw [List.append_assoc]; exact hn)
      refine ⟨r :: x', h1.cons_cons r, ?_⟩
      rw [List.append_assoc, List.append_assoc] at h2
      exact h2
    · have e : tb c y (un c.length s) = un c.length r := by
        refine Classical.byContradiction fun hne => hm2 ?_
        have h1 : tb c y (un c.length s) ∈ R.erase (un c.length r) := (List.mem_erase_of_ne hne).2 hm
        have h2 : ctn c r (tb c y (un c.length s)) ∈ R.erase (un c.length r) := (h.prm r hr).mem_iff.1 (List.mem_map_of_mem h1)
        rw [tb_app]
        exact List.mem_of_mem_erase h2
      refine ⟨x, List.sublist_cons_self r x, ?_⟩
      have h3 := conj_tak h hy hs hr e (v := tak c x (ones c.length)) (tak_len (by simp [ones]) _)
      have e1 : s :: (y ++ r :: x) = (s :: (y ++ [r])) ++ x := by simp
      rw [e1, tak_app, h3, tak_app]

/-- The exchange. -/
theorem exch0 {c R : List (List Int)} (h : Rt c R) {s : Nat} (hs : s < c.length) {x : List Nat} (hx : Lt c x) (hn : (tak c x (ones c.length)).getD s 0 < 0) :
    ∃ x' : List Nat, x'.Sublist x ∧ ovL c (tak c x (ones c.length)) s = tak c x' (ones c.length) := by
  refine exch h hs x [] hx (fun z hz => by simp at hz) (h.sim s hs) ?_
  rw [← pr_un _ hs, pr_tak _ _ _ hx, pr_ones] at hn
  exact hn

theorem tak_no0 {c R : List (List Int)} (h : Rt c R) {s : Nat} (hs : s < c.length) {x : List Nat} (hx : Lt c x) : (tak c x (ones c.length)).getD s 0 ≠ 0 := by
  have := tak_rg h (ones_rg h) x hx (un c.length s) (h.sim s hs)
  rw [pr_un _ hs] at this
  exact this

/-- Turned over by each letter that is below 0 then. -/
def isp (c : List (List Int)) (l : List Nat) (m : List Int) : List Int := l.foldl (fun m r => if m.getD r 0 < 0 then ovL c m r else m) m

theorem isp_part {c R : List (List Int)} (h : Rt c R) : ∀ (l x : List Nat), Lt c l → x.Sublist l → isp c l (tak c x (ones c.length)) = ones c.length
  | [], x, _, hx => by
    have : x = [] := List.sublist_nil.1 hx
    subst this; rfl
  | s :: l, x, hl, hx => by
    have hs : s < c.length := hl s (by simp)
    have hl' : Lt c l := fun z hz => hl z (by simp [hz])
    show isp c l (if (tak c x (ones c.length)).getD s 0 < 0 then ovL c (tak c x (ones c.length)) s else tak c x (ones c.length)) = _
    have hxl : Lt c x := lt_sub hx hl
    by_cases hn : (tak c x (ones c.length)).getD s 0 < 0
    · rw [if_pos hn]
      cases hx with
      | cons _ hx' =>
        obtain ⟨x', h1, h2⟩ := exch0 h hs hxl hn
        rw [h2]
        exact isp_part h l x' hl' (h1.trans hx')
      | cons_cons _ hx' =>
        rename_i x1
        have e : ovL c (tak c (s :: x1) (ones c.length)) s = tak c x1 (ones c.length) := ov_ov h (tak_len (by simp [ones]) _) hs
        rw [e]
        exact isp_part h l x1 hl' hx'
    · rw [if_neg hn]
      cases hx with
      | cons _ hx' => exact isp_part h l x hl' hx'
      | cons_cons _ hx' =>
        rename_i x1
        have hx1 : Lt c x1 := lt_sub hx' hl'
        have e0 : (tak c (s :: x1) (ones c.length)).getD s 0 = -((tak c x1 (ones c.length)).getD s 0) := ov_self h _ hs
        have e1 := tak_no0 h hs hx1
        obtain ⟨x', h1, h2⟩ := exch0 h hs hx1 (by omega)
        have e2 : tak c (s :: x1) (ones c.length) = tak c x' (ones c.length) := h2
        rw [e2]
        exact isp_part h l x' hl' (h1.trans hx')

theorem nB_rev {c R : List (List Int)} (h : Rt c R) : ∀ (w : List Nat), Lt c w → nB c.length R (tak c w.reverse (ones c.length)) = nB c.length R (tak c w (ones c.length))
  | [], _ => rfl
  | s :: w, hw => by
    have hs : s < c.length := hw s (by simp)
    have hw' : Lt c w := fun z hz => hw z (by simp [hz])
    have ih := nB_rev h w hw'
    have h1 := ends_ok h (lt_rev hw') hs
    rw [List.reverse_reverse] at h1
    have h2 := nB_ov h (tak c w (ones c.length)) hs
    have h0 := tak_no0 h hs hw'
    rw [List.reverse_cons]
    show nB c.length R (tak c (w.reverse ++ [s]) (ones c.length)) = nB c.length R (ovL c (tak c w (ones c.length)) s)
    rcases Int.lt_or_gt_of_ne h0 with hn | hn
    · have a1 := h1.2 hn
      have a2 := h2.2 hn
      omega
    · have a1 := h1.1 hn
      have a2 := h2.1 hn
      omega

end Go.Proofs.Ytkpdgpdicafeiaa

/- weyl.isPart. -/
namespace Go.Proofs.Ytkpdgpdicafeiaa
open Go.RowKit Go.Shelf
attribute [local go_sem] Oper.semAt_some

theorem isp_snoc (c : List (List Int)) (l : List Nat) (r : Nat) (m : List Int) : isp c (l ++ [r]) m = if (isp c l m).getD r 0 < 0 then ovL c (isp c l m) r else isp c l m := by
  unfold isp; rw [List.foldl_append]; rfl

set_option maxRecDepth 100000 in
set_option maxHeartbeats 8000000 in
theorem isPart_any (n : Nat) (c : List (List Int)) (wa wd : List Nat) (cv av wv : Value) (w : World) (hc : Sqc n c) (hn1 : 1 ≤ n) (hm : Mat w.heap.size 23 3 w cv c) (hav : Sl w.heap.size 3 w av (ints (natsI wa))) (hwv : Sl w.heap.size 3 w wv (ints (natsI wd))) (hla : Lt c wa) (hal : wa.length ≤ 1000) (hlt : Lt c wd) (hwl : wd.length ≤ 1000)
    (Bd : List Int → Prop) (hB0 : Bd (ones n)) (hB1 : ∀ u r, r < n → Bd u → Bd (ovL c u r)) (hB2 : ∀ u, Bd u → ∀ k, -1000000 ≤ u.getD k 0 ∧ u.getD k 0 ≤ 1000000) (hB3 : ∀ u, Bd u → u.length = n) :
    Calls Try.prog 29 #[cv, av, wv] w fun e w' => e = .returned (.bool (decide (0 < minL (isp c wd.reverse (fwd c wa (ones n)))))) ∧ Below w.heap.size w w' := by
  obtain ⟨ao, cap, hvv, hlc, hcm⟩ := mat_open hm
  subst hvv
  obtain ⟨wo, wc, hwvv, hwlc, hwcm⟩ := sl_open hwv
  subst hwvv
  obtain ⟨xo, xc, hxvv, hxlc, hxcm⟩ := sl_open hav
  subst hxvv
  have hn4 := hc.n4
  have HCL : Hid (c.length = n) := hc.len
  rw [natsI_len] at hwv hwlc hav hxlc ⊢
  rw [natsI_len]
  obtain ⟨W, hW⟩ : ∃ W, W = w.alloc (.cells #[.slice ao c.length cap] 22) := ⟨_, rfl⟩
  have hsW : W.heap.size = w.heap.size + 1 := by rw [hW]; simp
  have HBA : Hid (Below w.heap.size w W) := by rw [hW]; exact (Below.refl _ _).alloc (Nat.le_refl _) _
  have a0 : W.heap[w.heap.size]? = some (.cells #[.slice ao c.length cap] 22 (0, 0)) := by rw [hW]; exact heap_alloc_new w _
  have HWW : Hid (W = w.alloc (.cells #[.slice ao c.length cap] 22)) := hW
  have HSW : Hid (W.heap.size = w.heap.size + 1) := hsW
  have HA0 : Hid (W.heap[w.heap.size]? = some (.cells #[.slice ao c.length cap] 22 (0, 0))) := a0
  have HTB : Hid (Calls Try.prog 24 #[.slice ao c.length cap, .slice xo wa.length xc] W fun e w' => ∃ g, e = .returned (.slice (some ⟨g, 0, none⟩) n n) ∧ w'.rowIs g 3 n (fun k => .int .i64 ((fwd c wa (ones n)).getD k 0)) ∧ Bd (fwd c wa (ones n)) ∧ W.heap.size ≤ g ∧ g < w'.heap.size ∧ Below W.heap.size W w') := takenB_any n c wa _ _ W hc hn1 ((hm.below HBA.out (Nat.le_refl _)).any (Nat.le_refl _)) ((hav.below HBA.out (Nat.le_refl _)).any (Nat.le_refl _)) hla hal Bd hB0 hB1 hB2
  have HOV : Hid (∀ g W' u r, (∀ b, b < w.heap.size → W'.heap[b]? = w.heap[b]?) → w.heap.size ≤ g → r < n → Bd u → W'.rowIs g 3 n (fun k => .int .i64 (u.getD k 0)) → Calls Try.prog 34 #[.slice ao c.length cap, .slice (some ⟨g, 0, none⟩) n n, .int .i64 (r : Nat)] W' fun e w' => e = .returned (.tuple #[]) ∧ w'.rowIs g 3 n (fun k => .int .i64 ((ovL c u r).getD k 0)) ∧ Only g W' w') := fun g W' u r h1 h2 h3 h4 h5 =>
    over_any n c u r g w.heap.size _ w W' hc hm h1 h2 h3 (hB2 u h4) h5
  have HV : Hid (∀ W', (∀ b, b < w.heap.size → W'.heap[b]? = w.heap[b]?) → Sl w.heap.size 3 W' (.slice wo wd.length wc) (ints (natsI wd))) := fun W' h => hwv.move fun b hb ht => ⟨h b hb, ht⟩
  have HLT : Hid (Lt c wd) := hlt
  have HB1 : Hid (∀ u r, r < n → Bd u → Bd (ovL c u r)) := hB1
  have HB3 : Hid (∀ u, Bd u → u.length = n) := hB3
  have g0 : (w.alloc (.cells #[.slice ao c.length cap] 22)).cell? ⟨w.heap.size, 0, none⟩ = some (.slice ao c.length cap) := by rw [← HWW.out]; simp [World.cell?, a0]
  rw [HCL.out] at g0 HWW HA0 HOV HTB
  clear hc hm hwv hav hlt hla hB0 hB1 hB2 hB3 hW hsW a0
  rw [HCL.out]
  generalize fwd c wa (ones n) = m0 at *
  refine callsIn_wide (n := 0).1 ?_
  refine callsIn_of_wp_marks Try.func29 rfl trivial ?_ rfl
  simp only [Try.ntmps29, List.size_toArray, List.length_cons, List.length_nil, Nat.reduceAdd, Nat.reduceSub, Array.replicate_succ, Array.replicate_zero, List.push_toArray, List.append_toArray, List.nil_append, List.cons_append]
  gi_wp2_with fail
  refine ⟨trivial, rfl, ?_⟩
  rw [← HWW.out]
  refine (callsIn_wide.2 HTB.out).mono ?_
  rintro e w1 ⟨g, rfl, hrow, hbd0, hgW, hg1, hb1⟩
  rw [HSW.out] at hgW
  have HR1 : Hid (w1.rowIs g 3 n (fun k => .int .i64 (m0.getD k 0))) := hrow
  have HBW : Hid (Below w.heap.size w w1) := HBA.out.trans (hb1.mono HBA.out.size)
  have HG1 : Hid (g < w1.heap.size) := hg1
  have HG0 : Hid (w.heap.size + 1 ≤ g) := hgW
  have HB0 : Hid (Bd m0) := hbd0
  have HA1 : Hid (w1.heap[w.heap.size]? = some (.cells #[.slice ao n cap] 22 (0, 0))) := (hb1.block _ (by rw [HSW.out]; omega)).trans HA0.out
  clear hrow hb1 HTB g0 HWW HA0 HBA hbd0 hgW hg1
  obtain ⟨wD, hwD⟩ : ∃ wD, wD = w1.alloc (.cells #[.slice (some ⟨g, 0, none⟩) n n] 23) := ⟨_, rfl⟩
  obtain ⟨WN, hWN⟩ : ∃ WN, WN = wD.alloc (.cells #[.slice wo wd.length wc] 23) := ⟨_, rfl⟩
  have sD : wD.heap.size = w1.heap.size + 1 := by rw [hwD]; simp
  have sN : WN.heap.size = w1.heap.size + 2 := by rw [hWN]; simp [sD]
  have bD : Below w1.heap.size w1 wD := by rw [hwD]; exact (Below.refl _ _).alloc (Nat.le_refl _) _
  have bN : Below w1.heap.size w1 WN := by rw [hWN]; exact bD.alloc (by omega) _
  have nM : WN.heap[w1.heap.size]? = some (.cells #[.slice (some ⟨g, 0, none⟩) n n] 23 (0, 0)) := by
    rw [hWN]; refine (Below.heap_alloc _ _ _ (by omega)).trans ?_
    rw [hwD]; exact heap_alloc_new w1 _
  have nP : WN.heap[w1.heap.size + 1]? = some (.cells #[.slice wo wd.length wc] 23 (0, 0)) := by rw [hWN, ← sD]; exact heap_alloc_new wD _
  have HWN : Hid (WN = (w1.alloc (.cells #[.slice (some ⟨g, 0, none⟩) n n] 23)).alloc (.cells #[.slice wo wd.length wc] 23)) := by rw [hWN, hwD]; rfl
  have HSN : Hid (WN.heap.size = w1.heap.size + 2) := sN
  have HBN : Hid (Below w1.heap.size w1 WN) := bN
  have HNM : Hid (WN.heap[w1.heap.size]? = some (.cells #[.slice (some ⟨g, 0, none⟩) n n] 23 (0, 0))) := nM
  have HSQ := back_seq (natsI wd) (.slice wo wd.length wc) (w1.heap.size + 1) w.heap.size WN nP (by rw [natsI_len]; omega) (fun W' h => HV.out W' fun b hb => (h b hb).trans ((bN.block b (by have := HG1.out; have := HG0.out; omega)).trans (HBW.out.block b hb))) (by have := HG1.out; have := HG0.out; omega)
  rw [natsI_len] at HSQ
  clear nM nP bD bN sD sN hwD hWN
  gi_wp2_with (refine ⟨trivial, rfl, ?_⟩; gi_at_call 36; refine (callsIn_wide.2 (backI_any _ _ _ _)).mono ?_; rintro e w' ⟨rfl, rfl⟩)
  rw [← HWN.out]
  obtain ⟨f, hf⟩ : ∃ f : List Nat → List Int, f = fun pre => isp c (pre.map fun x => wd.getD x 0) m0 := ⟨_, rfl⟩
  have HF0 : Hid (f [] = m0) := by rw [hf]; rfl
  have HF1 : Hid (∀ pre x, f (pre ++ [x]) = if (f pre).getD (wd.getD x 0) 0 < 0 then ovL c (f pre) (wd.getD x 0) else f pre) := fun pre x => by rw [hf]; simp only [List.map_append, List.map_cons, List.map_nil, isp_snoc]
  have HF2 : Hid (f (dnL wd.length) = isp c wd.reverse m0) := by
    rw [hf]
    show isp c ((dnL wd.length).map fun x => wd.getD x 0) m0 = _
    have e : ((dnL wd.length).map fun x => wd.getD x 0) = wd.reverse := by
      unfold dnL
      rw [List.map_reverse]
      congr 1
      refine List.ext_getElem (by simp) fun k h1 h2 => ?_
      simp [h2]
    rw [e]
  clear hf
  have HI0 : Hid (TkI w WN w1.heap.size g n Bd f (fun _ => False) [] WN) := by
    have hs1 := HG1.out
    have hsn := HSN.out
    refine ⟨fun b hb => hb.elim, by omega, fun b hb hn => rfl, HBN.out.os.trans HBW.out.os, HBN.out.tape.trans HBW.out.tape, HBN.out.output.trans HBW.out.output, ?_, by rw [HF0.out]; exact HB0.out⟩
    rw [HF0.out]
    exact HR1.out.of_block (HBN.out.block _ hs1)
  refine range_s (R := HandB (natsI wd)) (cs := dnL wd.length) (T := fun b => b < w.heap.size ∨ b = w1.heap.size + 1) (S0 := fun _ => False) (gf := 42) (lb := #[.pointer (some ⟨w1.heap.size + 1, 0, none⟩)]) rfl (enters_of Try.func42 (by kernel_rfl) rfl) HSQ (fun b hb => hb.elim)
    (fun W' S x vs h => by rw [h.1]; rfl) (fun W S x vs W' h _ => h) (fun W S x vs l r o h _ => h)
    (fun S pre W' => TkI w WN w1.heap.size g n Bd f S pre W')
    (fun c S pre W' => False)
    (fun S S' pre W' W'' h hc hs => h.stab HG1.out hc hs) (fun c S S' pre W' W'' h hc hs => h) HI0.out
    (fun vs a' W' => ∃ x : Nat, vs = #[.int .i64 (x : Nat), .int .i64 ((natsI wd).getD x 0)] ∧ a' = { tmps := #[.slice ao n cap, .slice xo wa.length xc, .slice wo wd.length wc, .pointer (some ⟨w.heap.size, 0, none⟩), undef, undef, .bool false, .pointer (some ⟨w1.heap.size, 0, none⟩), undef, .int .i64 ((natsI wd).getD x 0), .slice ao n cap, .slice xo wa.length xc, .slice (some ⟨g, 0, none⟩) n n, .slice wo wd.length wc, .func (.func 42) #[] #[.pointer (some ⟨w1.heap.size + 1, 0, none⟩)], .int .i64 (x : Nat), .int .i64 ((natsI wd).getD x 0), undef, undef, undef, undef, undef, undef, undef, undef, undef, undef, undef, undef], defers := [] })
    (fun vs a' W' l r o h _ => h) ?assign ?body (fun h => by have := HSN.out; have := HG1.out; have := HG0.out; rcases h with h | h <;> omega) ?done ?stop
  case assign =>
    rintro S x vs W' K hR hK
    have hR' : vs = #[.int .i64 (x : Nat), .int .i64 ((natsI wd).getD x 0)] := hR.1
    subst hR'
    gi_wp2
    exact hK _ _ (Below.refl _ _) ⟨x, rfl, rfl⟩
  case stop =>
    rintro c S pre W' hpre h
    exact h.elim
  case body =>
    rintro S pre x vs a' W1 hi hSD hSL hlt1 hdf hlp hpre ⟨S1, hR, hS1⟩ ⟨x', hvs', rfl⟩
    have hxx : x = x' := by
      have h1 := hR.1
      rw [hvs'] at h1
      simp only [List.toArray_eq_iff, List.cons.injEq, Value.int.injEq, true_and, and_true] at h1
      have := h1.1
      omega
    subst hxx
    have hxl : x < wd.length := by
      have : x ∈ dnL wd.length := hpre.subset (by simp)
      simpa [dnL] using this
    rw [natsI_at hxl]
    have hr : wd.getD x 0 < n := by rw [← HCL.out]; exact HLT.out _ (by simp [hxl])
    have hs1 := HG1.out
    have hg0 := HG0.out
    have HLO : Hid (∀ b, b < w.heap.size → W1.heap[b]? = w.heap[b]?) := fun b hb => (hi.kp b (by omega) (by omega)).trans ((HBN.out.block b (by omega)).trans (HBW.out.block b hb))
    have HOR : Hid (Calls Try.prog 34 #[.slice ao n cap, .slice (some ⟨g, 0, none⟩) n n, .int .i64 (wd.getD x 0 : Nat)] W1 fun e w' => e = .returned (.tuple #[]) ∧ w'.rowIs g 3 n (fun k => .int .i64 ((ovL c (f pre) (wd.getD x 0)).getD k 0)) ∧ Only g W1 w') := HOV.out _ W1 _ _ HLO.out (by omega) hr hi.bd hi.row
    have m0 : W1.cell? ⟨w.heap.size, 0, none⟩ = some (.slice ao n cap) := by
      have := (hi.kp w.heap.size (by omega) (by omega)).trans ((HBN.out.block _ (by omega)).trans HA1.out)
      simp [World.cell?, this]
    have m1 : W1.cell? ⟨w1.heap.size, 0, none⟩ = some (.slice (some ⟨g, 0, none⟩) n n) := by
      have := (hi.kp w1.heap.size (by omega) (by omega)).trans HNM.out
      simp [World.cell?, this]
    have m2 : W1.cell? ⟨g, wd.getD x 0, none⟩ = some (.int .i64 ((f pre).getD (wd.getD x 0) 0)) := hi.row.cell hr
    have HEN : Hid ((f pre).getD (wd.getD x 0) 0 < 0 → ∀ W2, W2.rowIs g 3 n (fun k => .int .i64 ((ovL c (f pre) (wd.getD x 0)).getD k 0)) → Only g W1 W2 → Kpt (fun b => S b ∨ (b < w.heap.size ∨ b = w1.heap.size + 1)) W1 W2 ∧ TkI w WN w1.heap.size g n Bd f S (pre ++ [x]) W2) := fun hneg W2 h1 h2 => by
      have hF := HF1.out pre x
      rw [if_pos hneg] at hF
      refine ⟨⟨Nat.le_of_eq h2.size.symm, fun b _ hs => h2.block b (fun e => ?_)⟩, hi.sn, by have := hi.size; have := h2.size; omega, fun b hb hn => (h2.block b hn).trans (hi.kp b hb hn), h2.os.trans hi.os, h2.tape.trans hi.tape, h2.output.trans hi.output, by rw [hF]; exact h1, by rw [hF]; exact HB1.out _ _ hr hi.bd⟩
      subst e
      rcases hs with hs | hs
      · have := hi.sn _ hs; omega
      · omega
    have HEK : Hid (¬ (f pre).getD (wd.getD x 0) 0 < 0 → Kpt (fun b => S b ∨ (b < w.heap.size ∨ b = w1.heap.size + 1)) W1 W1 ∧ TkI w WN w1.heap.size g n Bd f S (pre ++ [x]) W1) := fun hneg => by
      have hF := HF1.out pre x
      rw [if_neg hneg] at hF
      exact ⟨⟨Nat.le_refl _, fun b _ hs => rfl⟩, hi.sn, hi.size, hi.kp, hi.os, hi.tape, hi.output, by rw [hF]; exact hi.row, by rw [hF]; exact hi.bd⟩
    clear hi hpre hR hS1 hvs' hSD hSL hlt1 hdf hlp HSQ HI0 hs1 hg0
    generalize (f pre).getD (wd.getD x 0) 0 = z at *
    generalize wd.getD x 0 = r at *
    by_cases hneg : z < 0
    · have HEN1 := HEN.out hneg
      have HEN2 : Hid _ := HEN1
      clear HEN HEN1 HEK
      gi_wp2_with fail
      refine ⟨trivial, rfl, ?_⟩
      refine (CallsIn.inRound _ (callsIn_wide.2 HOR.out)).mono ?_
      rintro e w5 ⟨rfl, h1, h2⟩
      obtain ⟨p3, p4⟩ := HEN2.out w5 h1 h2
      have P3 : Hid _ := p3
      have P4 : Hid _ := p4
      clear HEN2 HOR h1 h2 p3 p4
      gi_wp2
      exact ⟨P3.out, P4.out⟩
    · obtain ⟨p3, p4⟩ := HEK.out hneg
      have P3 : Hid _ := p3
      have P4 : Hid _ := p4
      clear HEN HEK HOR p3 p4
      gi_wp2
      exact ⟨P3.out, P4.out⟩
  case done =>
    rintro S W' hi hSD hdf
    have hs1 := HG1.out
    have hg0 := HG0.out
    have hsn := HSN.out
    have hsz := hi.size
    have m1 : W'.cell? ⟨w1.heap.size, 0, none⟩ = some (.slice (some ⟨g, 0, none⟩) n n) := by
      have := (hi.kp w1.heap.size (by omega) (by omega)).trans HNM.out
      simp [World.cell?, this]
    have HI : Hid (TkI w WN w1.heap.size g n Bd f S (dnL wd.length) W') := hi
    have HDF : Hid (W'.heap[WN.heap.size]? = some (.deferred (some []))) := hdf
    have hfl : (isp c wd.reverse m0).length = n := by rw [← HF2.out]; exact HB3.out _ hi.bd
    have HMI : Hid (Calls Try.prog 38 #[.slice (some ⟨g, 0, none⟩) n n] W' fun e w' => e = .returned (.int .i64 (minL (isp c wd.reverse m0))) ∧ w' = W') := by
      refine minT_any 0 (isp c wd.reverse m0) _ W' (row_slT hi.row (fun i _ => by rw [HF2.out]) hfl (Nat.le_refl _) (by omega)) (by omega)
    clear hi hSD hdf HSQ HI0 hs1 hsn hsz hfl hg0
    obtain ⟨zm, hzm⟩ : ∃ zm, zm = minL (isp c wd.reverse m0) := ⟨_, rfl⟩
    rw [← hzm] at HMI
    have HZM : Hid (zm = minL (isp c wd.reverse m0)) := hzm
    clear hzm
    gi_wp2_with fail
    refine ⟨trivial, rfl, ?_⟩
    refine (callsIn_wide.2 HMI.out).mono ?_
    rintro e w6 ⟨rfl, rfl⟩
    gi_wp2
    have hs1 := HG1.out
    have hg0 := HG0.out
    have hsn := HSN.out
    have hsz := HI.out.size
    refine leaves_mks [WN.heap.size] _ (by simp) (fun r hr => ?_) (fun w' hc => ⟨.bool (decide (0 < zm)), ?_, ?_⟩)
    · simp only [List.mem_singleton] at hr
      subst hr
      exact HDF.out
    · simp [results, Try.results29, go_sem]
    · refine ⟨by rw [HZM.out], hc.os.trans HI.out.os, hc.tape.trans HI.out.tape, hc.output.trans HI.out.output, by have := hc.size; omega, fun b hb => ?_⟩
      exact (hc.block b (by omega) (by simp; omega)).trans ((HI.out.kp b (by omega) (by omega)).trans ((HBN.out.block b (by omega)).trans (HBW.out.block b hb)))

end Go.Proofs.Ytkpdgpdicafeiaa
