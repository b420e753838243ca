/- What the document asks of words, pure: roots by rows and by columns; words that do the same; what parts of words do. -/
import Derived.Test.YtkgljfnbaoncbaaMgAJ
namespace Go.Proofs.Ytkgljfnbaoncbaa

/-- One square and the other way around: roots of both, and how long they are. -/
structure Du (c R d S : List (List Int)) (t : Nat → Int) : Prop where
  rt : Rt c R
  rd : Rt d S
  len : d.length = c.length
  pos : ∀ k, 0 < t k
  sym : ∀ r k, r < c.length → k < c.length → cE d r k = cE c k r
  mul : ∀ r k, r < c.length → k < c.length → t r * cE c k r = t k * cE c r k

/-- Each number so many times. -/
def sc (n : Nat) (t : Nat → Int) (y : List Int) : List Int := (List.range n).map fun k => t k * y.getD k 0

theorem sc_at {n k : Nat} (t : Nat → Int) (y : List Int) (hk : k < n) : (sc n t y).getD k 0 = t k * y.getD k 0 := by unfold sc; rw [getD_range hk]

theorem sc_len (n : Nat) (t : Nat → Int) (y : List Int) : (sc n t y).length = n := by simp [sc]

theorem sc_ctn {c R d S : List (List Int)} {t : Nat → Int} (h : Du c R d S t) {r : Nat} (hr : r < c.length) (y : List Int) : sc c.length t (ctn d r y) = ctn c r (sc c.length t y) := by
  refine list_ext (n := c.length) (sc_len _ _ _) (ctn_len _ _ _) fun k hk => ?_
  have hkd : k < d.length := by rw [h.len]; exact hk
  rw [sc_at _ _ hk, ctn_at _ hkd, ctn_at _ hk, h.len]
  by_cases e : k = r
  · subst e
    rw [if_pos rfl, if_pos rfl, sc_at _ _ hk, Int.mul_sub, ← sm_mul]
    have e2 : sm c.length (fun j => t k * (cE d k j * y.getD j 0)) = sm c.length (fun j => cE c k j * (sc c.length t y).getD j 0) := sm_congr _ fun j hj => by
      rw [sc_at _ _ hj, h.sym k j hr hj, ← Int.mul_assoc, h.mul k j hr hj, Int.mul_comm (t j) (cE c k j), Int.mul_assoc]
    rw [e2]
  · rw [if_neg e, if_neg e, sc_at _ _ hk]

theorem sc_tb {c R d S : List (List Int)} {t : Nat → Int} (h : Du c R d S t) : ∀ (w : List Nat) (y : List Int), Lt c w → sc c.length t (tb d w y) = tb c w (sc c.length t y)
  | [], _, _ => rfl
  | a :: w, y, hw => by
    show sc c.length t (tb d w (ctn d a y)) = tb c w (ctn c a (sc c.length t y))
    rw [sc_tb h w _ (fun z hz => hw z (by simp [hz])), sc_ctn h (hw a (by simp))]

theorem ctn_sc (c : List (List Int)) (r : Nat) (q : Int) (y : List Int) : ctn c r (sc c.length (fun _ => q) y) = sc c.length (fun _ => q) (ctn c r y) := by
  refine list_ext (n := c.length) (ctn_len _ _ _) (sc_len _ _ _) fun k hk => ?_
  rw [sc_at _ _ hk, ctn_at _ hk, ctn_at _ hk]
  by_cases e : k = r
  · subst e
    rw [if_pos rfl, if_pos rfl, sc_at _ _ hk, Int.mul_sub, ← sm_mul]
    have e2 : sm c.length (fun j => cE c k j * (sc c.length (fun _ => q) y).getD j 0) = sm c.length (fun j => q * (cE c k j * y.getD j 0)) := sm_congr _ fun j hj => by
      rw [sc_at _ _ hj, Int.mul_left_comm]
    rw [e2]
  · rw [if_neg e, if_neg e, sc_at _ _ hk]

theorem tb_sc (c : List (List Int)) (q : Int) : ∀ (w : List Nat) (y : List Int), tb c w (sc c.length (fun _ => q) y) = sc c.length (fun _ => q) (tb c w y)
  | [], _ => rfl
  | a :: w, y => by
    show tb c w (ctn c a (sc c.length (fun _ => q) y)) = sc c.length (fun _ => q) (tb c w (ctn c a y))
    rw [ctn_sc, tb_sc c q w]

theorem sc_un {n s : Nat} (t : Nat → Int) : sc n t (un n s) = sc n (fun _ => t s) (un n s) := by
  refine list_ext (n := n) (sc_len _ _ _) (sc_len _ _ _) fun k hk => ?_
  rw [sc_at _ _ hk, sc_at _ _ hk, un_at hk]
  by_cases e : k = s
  · subst e; rfl
  · rw [if_neg e, Int.mul_zero, Int.mul_zero]

theorem du_coord {c R d S : List (List Int)} {t : Nat → Int} (h : Du c R d S t) {w : List Nat} (hw : Lt c w) (s : Nat) {k : Nat} (hk : k < c.length) :
    t k * (tb d w (un c.length s)).getD k 0 = t s * (tb c w (un c.length s)).getD k 0 := by
  have e := sc_tb h w (un c.length s) hw
  rw [sc_un, tb_sc] at e
  have e2 : (sc c.length t (tb d w (un c.length s))).getD k 0 = (sc c.length (fun _ => t s) (tb c w (un c.length s))).getD k 0 := by rw [e]
  rw [sc_at _ _ hk, sc_at _ _ hk] at e2
  exact e2

/-- A root is below 0 just if one of its numbers is. -/
theorem pm_neg {c R : List (List Int)} (h : Rt c R) {x : List Int} (hx : PM R x) : ht c.length x < 0 ↔ ∃ k, k < c.length ∧ x.getD k 0 < 0 := by
  rcases hx with hx | hx
  · have h1 := h.pos x hx
    constructor
    · intro h2; unfold ht at h2; omega
    · rintro ⟨k, hk, h2⟩
      have := h.nn x hx k hk
      omega
  · have h1 : 0 < ht c.length (ngL x) := h.pos _ hx
    rw [ht_ng] at h1
    constructor
    · intro _
      refine Classical.byContradiction fun hno => ?_
      have h2 : (0 : Int) ≤ ht c.length x := by
        have := sm_le (f := fun _ => 0) (g := fun k => x.getD k 0) c.length fun k hk => by
          have h3 : ¬ x.getD k 0 < 0 := fun h4 => hno ⟨k, hk, h4⟩
          omega
        rw [sm_zero] at this
        exact this
      omega
    · intro _; omega

theorem du_sign {c R d S : List (List Int)} {t : Nat → Int} (h : Du c R d S t) {w : List Nat} (hw : Lt c w) {s : Nat} (hs : s < c.length) :
    (tak c w (ones c.length)).getD s 0 < 0 ↔ (tak d w (ones c.length)).getD s 0 < 0 := by
  have hwd : Lt d w := fun z hz => by rw [h.len]; exact hw z hz
  have hsd : s < d.length := by rw [h.len]; exact hs
  have e1 : (tak c w (ones c.length)).getD s 0 = ht c.length (tb c w (un c.length s)) := by rw [← pr_un _ hs, pr_tak _ _ _ hw, pr_ones]; rfl
  have e2 : (tak d w (ones c.length)).getD s 0 = ht c.length (tb d w (un c.length s)) := by
    have := pr_tak (ones c.length) w (un c.length s) hwd
    rw [h.len, pr_un _ hs, pr_ones] at this
    exact this
  have p1 : PM R (tb c w (un c.length s)) := pm_tb h.rt w hw (.inl (h.rt.sim s hs))
  have p2 : PM S (tb d w (un c.length s)) := by
    have := h.rd.sim s hsd
    rw [h.len] at this
    exact pm_tb h.rd w hwd (.inl this)
  have q2 := pm_neg h.rd p2
  rw [h.len] at q2
  rw [e1, e2, pm_neg h.rt p1, q2]
  constructor
  · rintro ⟨k, hk, hneg⟩
    refine ⟨k, hk, ?_⟩
    have e := du_coord h hw s hk
    have h1 := Int.mul_neg_of_pos_of_neg (h.pos s) hneg
    rw [← e] at h1
    refine Classical.byContradiction fun h2 => ?_
    have := Int.mul_nonneg (Int.le_of_lt (h.pos k)) (Int.not_lt.1 h2)
    omega
  · rintro ⟨k, hk, hneg⟩
    refine ⟨k, hk, ?_⟩
    have e := du_coord h hw s hk
    have h1 := Int.mul_neg_of_pos_of_neg (h.pos k) hneg
    rw [e] at h1
    refine Classical.byContradiction fun h2 => ?_
    have := Int.mul_nonneg (Int.le_of_lt (h.pos s)) (Int.not_lt.1 h2)
    omega

theorem nB_du {c R d S : List (List Int)} {t : Nat → Int} (h : Du c R d S t) : ∀ w, Lt c w → nB c.length R (tak c w (ones c.length)) = nB c.length S (tak d w (ones c.length))
  | [], _ => by
    have e1 := ones_nB h.rt
    have e2 := ones_nB h.rd
    rw [h.len] at e2
    exact e1.trans e2.symm
  | s :: w, hw => by
    have hs : s < c.length := hw s (by simp)
    have hsd : s < d.length := by rw [h.len]; exact hs
    have hw' : Lt c w := fun z hz => hw z (by simp [hz])
    have ih := nB_du h w hw'
    have h1 := nB_ov h.rt (tak c w (ones c.length)) hs
    have h2 := nB_ov h.rd (tak d w (ones c.length)) hsd
    rw [h.len] at h2
    have hz := tak_no0 h.rt hs hw'
    have hsg := du_sign h hw' hs
    have hwd : Lt d w := fun z hz => by rw [h.len]; exact hw' z hz
    have hzd := tak_no0 h.rd hsd hwd
    rw [h.len] at hzd
    show nB c.length R (ovL c (tak c w (ones c.length)) s) = nB c.length S (ovL d (tak d w (ones c.length)) s)
    by_cases hn : (tak c w (ones c.length)).getD s 0 < 0
    · have a1 := h1.2 hn
      have a2 := h2.2 (hsg.1 hn)
      omega
    · have hn2 : ¬ (tak d w (ones c.length)).getD s 0 < 0 := fun k => hn (hsg.2 k)
      have a1 := h1.1 (by omega)
      have a2 := h2.1 (by omega)
      omega

theorem exchV {c R : List (List Int)} (h : Rt c R) {s : Nat} (hs : s < c.length) : ∀ (x y : List Nat), Lt c x → Lt c y → tb c y (un c.length s) ∈ R → ht c.length (tb c (y ++ x) (un c.length s)) < 0 →
    ∃ x' : List Nat, x'.Sublist x ∧ x'.length + 1 = x.length ∧ ∀ v : List Int, v.length = c.length → tak c (s :: (y ++ x)) v = tak c (y ++ x') v
  | [], y, _, hy, hm, hn => by
    rw [List.append_nil] at hn
    have := h.pos _ hm
    unfold ht at hn
    omega
  | r :: x, y, hx, hy, hm, hn => by
    have hr : r < c.length := hx r (by simp)
    have hx' : Lt c x := fun z hz => hx z (by simp [hz])
    by_cases hm2 : tb c (y ++ [r]) (un c.length s) ∈ R
    · obtain ⟨x', h1, hl, h2⟩ := exchV h hs x (y ++ [r]) hx' (lt_two hy (fun z hz => by rw [List.mem_singleton] at hz; omega)) hm2 (by rw [List.append_assoc]; exact hn)
      refine ⟨r :: x', h1.cons_cons r, by simp; omega, fun v hv => ?_⟩
      have h3 := h2 v hv
      rw [List.append_assoc, List.append_assoc] at h3
      exact h3
    · have e : tb c y (un c.length s) = un c.length r := by
        refine Classical.byContradiction fun hne => hm2 ?_
        have h1 : tb c y (un c.length s) ∈ R.erase (un c.length r) := (List.mem_erase_of_ne hne).2 hm
        have h2 : ctn c r (tb c y (un c.length s)) ∈ R.erase (un c.length r) := (h.prm r hr).mem_iff.1 (List.mem_map_of_mem h1)
        rw [tb_app]
        exact List.mem_of_mem_erase h2
      refine ⟨x, List.sublist_cons_self r x, by simp, fun v hv => ?_⟩
      have h3 := conj_tak h hy hs hr e (v := tak c x v) (tak_len hv _)
      have e1 : s :: (y ++ r :: x) = (s :: (y ++ [r])) ++ x := by simp
      rw [e1, tak_app, h3, tak_app]

/-- Each word does what one as short as can be does, to all weights. -/
theorem op_red {c R : List (List Int)} (h : Rt c R) : ∀ x : List Nat, Lt c x → ∃ y : List Nat, Lt c y ∧ y.length = nB c.length R (tak c x (ones c.length)) ∧ ∀ v : List Int, v.length = c.length → tak c x v = tak c y v
  | [], _ => ⟨[], fun z hz => by simp at hz, (ones_nB h).symm, fun _ _ => rfl⟩
  | s :: x, hx => by
    have hs : s < c.length := hx s (by simp)
    have hx' : Lt c x := fun z hz => hx z (by simp [hz])
    obtain ⟨y, hy, hyl, hyv⟩ := op_red h x hx'
    have ho : (ones c.length).length = c.length := by simp [ones]
    have hn := nB_ov h (tak c x (ones c.length)) hs
    have hz := tak_no0 h hs hx'
    have e0 : tak c (s :: x) (ones c.length) = ovL c (tak c x (ones c.length)) s := rfl
    rw [e0]
    by_cases hneg : (tak c x (ones c.length)).getD s 0 < 0
    · have hneg2 : ht c.length (tb c ([] ++ y) (un c.length s)) < 0 := by
        rw [hyv _ ho, ← pr_un _ hs, pr_tak _ _ _ hy, pr_ones] at hneg
        exact hneg
      obtain ⟨y', h1, h2, h3⟩ := exchV h hs y [] hy (fun z hz => by simp at hz) (h.sim s hs) hneg2
      have a := hn.2 hneg
      refine ⟨y', lt_sub h1 hy, by omega, fun v hv => ?_⟩
      show ovL c (tak c x v) s = tak c y' v
      rw [hyv v hv]
      exact h3 v hv
    · have a := hn.1 (by omega)
      refine ⟨s :: y, lt_cons hs hy, by simp; omega, fun v hv => ?_⟩
      show ovL c (tak c x v) s = ovL c (tak c y v) s
      rw [hyv v hv]

theorem op_id {c R : List (List Int)} (h : Rt c R) {x : List Nat} (hx : Lt c x) (h0 : nB c.length R (tak c x (ones c.length)) = 0) {v : List Int} (hv : v.length = c.length) : tak c x v = v := by
  obtain ⟨y, _, hl, hyv⟩ := op_red h x hx
  have : y = [] := List.eq_nil_of_length_eq_zero (by omega)
  subst this
  exact hyv v hv

/-- Two words that do the same to the weight of 1s do the same to all. -/
theorem same_all {c R : List (List Int)} (h : Rt c R) {a b : List Nat} (ha : Lt c a) (hb : Lt c b) (e : tak c a (ones c.length) = tak c b (ones c.length)) : nB c.length R (tak c (b.reverse ++ a) (ones c.length)) = 0 ∧ ∀ v : List Int, v.length = c.length → tak c a v = tak c b v := by
  have ho : (ones c.length).length = c.length := by simp [ones]
  have h1 : tak c (b.reverse ++ a) (ones c.length) = ones c.length := by
    rw [tak_app, e]
    have := tak_back h b.reverse (u := ones c.length) (lt_rev hb) ho
    rw [List.reverse_reverse] at this
    exact this
  have h0 : nB c.length R (tak c (b.reverse ++ a) (ones c.length)) = 0 := by rw [h1]; exact ones_nB h
  refine ⟨h0, fun v hv => ?_⟩
  have h2 := op_id h (lt_two (lt_rev hb) ha) h0 hv
  rw [tak_app] at h2
  have h3 := tak_back h b (u := tak c a v) hb (tak_len hv _)
  rw [h2] at h3
  exact h3.symm

theorem same_rev {c R : List (List Int)} (h : Rt c R) {a b : List Nat} (ha : Lt c a) (hb : Lt c b) (e : ∀ v : List Int, v.length = c.length → tak c a v = tak c b v) {v : List Int} (hv : v.length = c.length) : tak c a.reverse v = tak c b.reverse v := by
  have h1 := tak_back h a (u := v) ha hv
  rw [e _ (tak_len hv _)] at h1
  have h2 := tak_back h b.reverse (u := tak c a.reverse v) (lt_rev hb) (tak_len hv _)
  rw [List.reverse_reverse, h1] at h2
  exact h2.symm

theorem pr_unL {n k : Nat} (y : List Int) (hk : k < n) : pr n (un n k) y = y.getD k 0 := by
  unfold pr
  rw [sm_congr (g := fun j => if j = k then y.getD j 0 else 0) n fun j hj => by
    rw [un_at hj]
    by_cases e : j = k <;> simp [e]]
  exact sm_one n hk

theorem tb_of {c : List (List Int)} {a b : List Nat} (ha : Lt c a) (hb : Lt c b) (e : ∀ v : List Int, v.length = c.length → tak c a v = tak c b v) {y : List Int} (hy : y.length = c.length) : tb c a y = tb c b y := by
  refine list_ext (n := c.length) (tb_len _ hy) (tb_len _ hy) fun k hk => ?_
  rw [← pr_unL _ hk, ← pr_unL (tb c b y) hk, ← pr_tak _ _ _ ha, ← pr_tak _ _ _ hb, e _ (un_len _ _)]

/-- What a word does to each simple root, one behind the other. -/
def dnW (d : List (List Int)) (w : List Nat) : List Int := ((List.range d.length).map fun i => tb d w.reverse (un d.length i)).flatten

theorem flat_inj {n : Nat} : ∀ l m : List (List Int), l.length = m.length → (∀ x ∈ l, x.length = n) → (∀ x ∈ m, x.length = n) → l.flatten = m.flatten → l = m
  | [], [], _, _, _, _ => rfl
  | [], _ :: _, h, _, _, _ => by simp at h
  | _ :: _, [], h, _, _, _ => by simp at h
  | x :: l, y :: m, h, hx, hy, e => by
    rw [List.flatten_cons, List.flatten_cons] at e
    have h1 := List.append_inj e (by rw [hx x (by simp), hy y (by simp)])
    rw [h1.1, flat_inj l m (by simpa using h) (fun z hz => hx z (by simp [hz])) (fun z hz => hy z (by simp [hz])) h1.2]

theorem dn_iff {c R d S : List (List Int)} {t : Nat → Int} (h : Du c R d S t) {a b : List Nat} (ha : Lt c a) (hb : Lt c b) : dnW d a = dnW d b ↔ tak c a (ones c.length) = tak c b (ones c.length) := by
  have had : Lt d a := fun z hz => by rw [h.len]; exact ha z hz
  have hbd : Lt d b := fun z hz => by rw [h.len]; exact hb z hz
  have ho : (ones c.length).length = c.length := by simp [ones]
  have hod : (ones d.length).length = d.length := by simp [ones]
  constructor
  · intro e
    have e1 := flat_inj (n := d.length) _ _ (by simp) (fun x hx => by
      obtain ⟨i, _, rfl⟩ := List.mem_map.1 hx
      exact tb_len _ (un_len _ _)) (fun x hx => by
      obtain ⟨i, _, rfl⟩ := List.mem_map.1 hx
      exact tb_len _ (un_len _ _)) e
    have e2 : ∀ i, i < d.length → tb d a.reverse (un d.length i) = tb d b.reverse (un d.length i) := fun i hi => by
      have := List.map_inj_left.1 e1 i (by simpa using hi)
      exact this
    have e3 : tak d a.reverse (ones d.length) = tak d b.reverse (ones d.length) := list_ext (n := d.length) (tak_len hod _) (tak_len hod _) fun k hk => by
      rw [← pr_un _ hk, ← pr_un (tak d b.reverse (ones d.length)) hk, pr_tak _ _ _ (lt_rev had), pr_tak _ _ _ (lt_rev hbd), e2 k hk]
    have e4 := (same_all h.rd (lt_rev had) (lt_rev hbd) e3).1
    rw [List.reverse_reverse] at e4
    have e5 := nB_du h (b ++ a.reverse) (lt_two hb (lt_rev ha))
    rw [h.len] at e4
    have e6 := op_id h.rt (lt_two hb (lt_rev ha)) (by rw [e5, e4]) (v := tak c a (ones c.length)) (tak_len ho _)
    rw [tak_app] at e6
    have e7 := tak_back h.rt a.reverse (u := ones c.length) (lt_rev ha) ho
    rw [List.reverse_reverse] at e7
    rw [e7] at e6
    exact e6.symm
  · intro e
    have e1 := (same_all h.rt ha hb e).1
    have e2 := nB_du h (b.reverse ++ a) (lt_two (lt_rev hb) ha)
    rw [e1] at e2
    have e3 : ∀ v : List Int, v.length = d.length → tak d a v = tak d b v := fun v hv => by
      have h2 := op_id h.rd (lt_two (lt_rev hbd) had) (by rw [h.len]; exact e2.symm) hv
      rw [tak_app] at h2
      have h3 := tak_back h.rd b (u := tak d a v) hbd (tak_len hv _)
      rw [h2] at h3
      exact h3.symm
    unfold dnW
    congr 1
    refine List.map_congr_left fun i hi => ?_
    exact tb_of (lt_rev had) (lt_rev hbd) (fun v hv => same_rev h.rd had hbd e3 hv) (un_len _ _)

/-- How many roots a word takes below 0. -/
def shN (d : List (List Int)) (L : List (List Int)) (w : List Nat) : Nat := L.countP fun b => (tb d w.reverse b).any fun z => decide (z < 0)

theorem any_neg {x : List Int} {n : Nat} (hx : x.length = n) : (x.any fun z => decide (z < 0)) = true ↔ ∃ k, k < n ∧ x.getD k 0 < 0 := by
  rw [List.any_eq_true]
  constructor
  · rintro ⟨z, hz, h⟩
    obtain ⟨k, hk, rfl⟩ := List.mem_iff_getElem.1 hz
    exact ⟨k, by omega, by simpa [hk] using h⟩
  · rintro ⟨k, hk, h⟩
    exact ⟨x.getD k 0, by simp [hx, hk], by simpa using h⟩

theorem sh_nB {c R d S : List (List Int)} {t : Nat → Int} (h : Du c R d S t) {L : List (List Int)} (hL : L.Perm S) {w : List Nat} (hw : Lt c w) : shN d L w = nB c.length R (tak c w (ones c.length)) := by
  have hwd : Lt d w := fun z hz => by rw [h.len]; exact hw z hz
  rw [nB_du h w hw, ← h.len, ← nB_rev h.rd w hwd]
  unfold shN nB
  rw [hL.countP_eq]
  refine List.countP_congr fun b hb => ?_
  rw [any_neg (n := d.length) (tb_len _ (h.rd.len b hb)), ← pm_neg h.rd (pm_tb h.rd _ (lt_rev hwd) (.inl hb)), pr_tak _ _ _ (lt_rev hwd), pr_ones]
  simp [ht]

/-- By fuel enough. -/
theorem upr_fuel (c : List (List Int)) : ∀ (f : Nat) (v : List Int), fneg (upE c f v) = none → upr c (f + 1) v = upr c f v
  | 0, v, h => by
    have h' : fneg v = none := h
    simp only [upr, h']
  | f + 1, v, h => by
    unfold upE at h
    cases hn : fneg v with
    | none => simp only [upr, hn]
    | some r =>
      rw [hn] at h
      have ih := upr_fuel c f (ovL c v r) h
      show (match fneg v with | none => [] | some r => r :: upr c (f + 1) (ovL c v r)) = (match fneg v with | none => [] | some r => r :: upr c f (ovL c v r))
      rw [hn]
      simp only [ih]

theorem rd_cons {n : Nat} {c R : List (List Int)} (h : Gda n c R) {w : List Nat} (hw : Lt c w) {i : Nat} (hi : fneg (tak c w (ones c.length)) = some i) : rdW c w = i :: rdW c (i :: w) := by
  have hl : (tak c w (ones c.length)).length = c.length := tak_len (by simp [ones]) w
  obtain ⟨h1, h2⟩ := fneg_some hi
  have hk := (nB_ov h.rt (tak c w (ones c.length)) (r := i) (by omega)).2 h2
  have h3 : nB c.length R (tak c w (ones c.length)) ≤ 24 := Nat.le_trans List.countP_le_length h.rl
  have h4 := (upr_all h.rt 23 (i :: w) (lt_cons (by omega) hw) (by show nB c.length R (ovL c (tak c w (ones c.length)) i) ≤ 23; omega)).2.2.2
  have e : upr c 24 (tak c w (ones c.length)) = i :: upr c 23 (ovL c (tak c w (ones c.length)) i) := by
    show (match fneg (tak c w (ones c.length)) with | none => [] | some r => r :: upr c 23 (ovL c (tak c w (ones c.length)) r)) = _
    rw [hi]
  show upr c 24 (tak c w (ones c.length)) = i :: upr c 24 (ovL c (tak c w (ones c.length)) i)
  have e2 : upr c 24 (ovL c (tak c w (ones c.length)) i) = upr c 23 (ovL c (tak c w (ones c.length)) i) := upr_fuel c 23 _ h4
  rw [e, e2]

theorem rd_nil {n : Nat} {c R : List (List Int)} (h : Gda n c R) {w : List Nat} (hw : Lt c w) (h0 : nB c.length R (tak c w (ones c.length)) = 0) : rdW c w = [] :=
  List.eq_nil_of_length_eq_zero (by rw [(rd_all h hw).1, h0])

end Go.Proofs.Ytkgljfnbaoncbaa
