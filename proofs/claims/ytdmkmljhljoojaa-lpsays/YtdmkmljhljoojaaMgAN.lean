import Derived.Test.YtdmkmljhljoojaaLp1
import Derived.Test.YtdmkmljhljoojaaMgAI
import Derived.Test.YtdmkmljhljoojaaFk2
/- lp.checkGoal, and lp.Farkas, of cuts that may be. -/
namespace Go.Proofs.Ytdmkmljhljoojaa
open Go.RowKit Lin
attribute [local go_sem ↓] Go.wp_at_zero Go.wp_at_succ

set_option maxRecDepth 100000 in
set_option maxHeartbeats 1600000 in
theorem checkGoal_ok (d : Nat) (rows : List (List Int)) (g : List Int) (v gv : Value) (w : World) {B0 B1 : Nat} (hv : Mat B0 25 3 w v rows) (hg : Sl B1 3 w gv (ints g)) (hc : CutF d rows) (hgl : g.length = d) (hgb : ∀ z ∈ g, z.natAbs ≤ 20) :
    Calls Try.prog 32 #[.agg #[.int .i64 d, v], gv] w fun e w' => e = .returned (.int .i64 (if empB d rows = true then 6 else 0)) ∧ Below w.heap.size w w' := by
  obtain ⟨ro, rc, hvv, hlc, hcm⟩ := mat_open hv
  obtain ⟨go, gc, hgg, _, _⟩ := sl_open hg
  rw [hgl] at hgg
  subst hvv hgg
  obtain ⟨W, hW, hb0, hs0, hc0⟩ := cut_box w d (.slice ro rows.length rc)
  have HWW : Hid (W = w.alloc (.cells #[.int .i64 d, .slice ro rows.length rc] 24)) := hW
  have HBW : Hid (∀ X, Below W.heap.size W X → Below w.heap.size w X) := fun X hX => hb0.trans (hX.mono hb0.size)
  have HCC : Hid (∀ X, Below W.heap.size W X → X.cell? ⟨w.heap.size, 0, none⟩ = some (.int .i64 d) ∧ X.cell? ⟨w.heap.size, 1, none⟩ = some (.slice ro rows.length rc)) := hc0
  have H1 : Hid (Calls Try.prog 25 #[.agg #[.int .i64 d, .slice ro rows.length rc]] W fun e w' => e = .returned (.int .i64 0) ∧ Below W.heap.size W w') := halfCheckF_ok d rows _ W ((hv.below hb0 (Nat.le_refl _)).any (Nat.le_refl _)) hc
  have H2 : Hid (∀ X, Below W.heap.size W X → Calls Try.prog 39 #[.slice go d gc, .int .i64 d, .int .i64 20] X fun e w' => e = .returned (.int .i64 0) ∧ Below X.heap.size X w') := fun X hX =>
    list_ok _ g _ d X (hg.below (HBW.out X hX) (Nat.le_refl _)) (by rw [hgl]) (far20 hgb)
  have H3 : Hid (∀ X, Below W.heap.size W X → Calls Try.prog 42 #[.agg #[.int .i64 d, .slice ro rows.length rc]] X fun e w' => e = .returned (.tuple #[.bool (empB d rows), .int .i64 0]) ∧ Below X.heap.size X w') := fun X hX =>
    emptyF_ok d rows _ X ((hv.below (HBW.out X hX) (Nat.le_refl _)).any (Nat.le_refl _)) hc
  clear hv hg hc hgl hgb hW hb0 hs0 hc0
  obtain ⟨c0, c1⟩ := HCC.out W (Below.refl _ _)
  generalize empB d rows = eb at *
  go_enter Try.func32, Try.ntmps32
  go_upto_region 1 with fail
  rw [← HWW.out]
  go_wp2_with fail
  refine H1.out.mono ?_
  rintro e w1 ⟨rfl, hb1⟩
  have HB1 : Hid (Below W.heap.size W w1) := hb1
  clear hb1 c0 c1
  obtain ⟨c0, c1⟩ := HCC.out w1 HB1.out
  go_wp2_with fail
  refine (H2.out w1 HB1.out).mono ?_
  rintro e w2 ⟨rfl, hb2⟩
  have HB2 : Hid (Below W.heap.size W w2) := HB1.out.trans (hb2.mono HB1.out.size)
  clear hb2 c0 c1
  obtain ⟨c0, c1⟩ := HCC.out w2 HB2.out
  go_wp2_with fail
  refine (H3.out w2 HB2.out).mono ?_
  rintro e w3 ⟨rfl, hb3⟩
  have HB3 : Hid (Below w.heap.size w w3) := HBW.out _ (HB2.out.trans (hb3.mono HB2.out.size))
  clear hb3 c0 c1
  cases eb
  · go_wp2
    go_ret
    exact ⟨rfl, HB3.out⟩
  · go_wp2
    go_ret
    exact ⟨rfl, HB3.out⟩

/-- The five cells of Farkas: its cut, and what comes out. -/
theorem cut_res (w : World) (d : Nat) (v : Value) : ∃ W, W = (w.alloc (.cells #[.int .i64 d, v] 24)).alloc (.cells #[.slice none 0 0, .slice none 0 0, .int .i64 0] 34) ∧ Below w.heap.size w W ∧ W.heap.size = w.heap.size + 2 ∧ W.heap[w.heap.size]? = some (.cells #[.int .i64 d, v] 24 (0, 0)) ∧ W.heap[w.heap.size + 1]? = some (.cells #[.slice none 0 0, .slice none 0 0, .int .i64 0] 34 (0, 0)) := by
  have k1 := alloc_keep w (.cells #[.int .i64 d, v] 24)
  have k2 := alloc_keep (w.alloc (.cells #[.int .i64 d, v] 24)) (.cells #[.slice none 0 0, .slice none 0 0, .int .i64 0] 34)
  refine ⟨_, rfl, k1.trans (k2.mono k1.size), by rw [size_alloc, size_alloc], (k2.block _ (by rw [size_alloc]; omega)).trans (alloc_new _ _), ?_⟩
  have := alloc_new (w.alloc (.cells #[.int .i64 d, v] 24)) (.cells #[.slice none 0 0, .slice none 0 0, .int .i64 0] 34)
  rw [size_alloc] at this
  exact this

end Go.Proofs.Ytdmkmljhljoojaa

/- What is divided by what divides all of it (pure; the same as in Pq3: not beside it). -/
namespace Go.Proofs.Ytdmkmljhljoojaa
open Lin

theorem gc_pos {l : List Int} {z : Int} (h : z ∈ l) (hz : z ≠ 0) : gc l ≠ 0 := fun e => by
  have := gc_dvd h
  rw [e] at this
  exact hz (by simpa using this)

theorem low_mul (l : List Int) : (low l).map ((gc l : Int) * ·) = l := by
  unfold low
  rw [List.map_map]
  have : ∀ z ∈ l, (((gc l : Int) * ·) ∘ (· / (gc l : Int))) z = z := fun z hz => by
    show (gc l : Int) * (z / (gc l : Int)) = z
    exact Int.mul_ediv_cancel' (gc_dvd hz)
  rw [List.map_congr_left this, List.map_id']

theorem gc_low {l : List Int} (h : gc l ≠ 0) : gc (low l) = 1 := by
  have e := gc_scale (gc l : Int) (low l)
  rw [low_mul] at e
  simp only [Int.natAbs_natCast] at e
  have h2 : gc l * 1 = gc l * gc (low l) := by omega
  exact (Nat.eq_of_mul_eq_mul_left (Nat.pos_of_ne_zero h) h2).symm

theorem low_one {l : List Int} (h : gc l = 1) : low l = l := by
  unfold low
  rw [h]
  simp

theorem upr_or (l : List Int) : upr l = l ∨ upr l = l.map fun z => -z := by
  unfold upr
  split
  · exact Or.inr rfl
  · exact Or.inl rfl

theorem neg_neg_map (l : List Int) : (l.map fun z => -z).map (fun z => -z) = l := by
  rw [List.map_map]
  have : ∀ z ∈ l, ((fun z : Int => -z) ∘ fun z => -z) z = z := fun z _ => Int.neg_neg z
  rw [List.map_congr_left this, List.map_id']

theorem prim_eq {x y : List Int} {a b : Int} (hx : gc x = 1) (hy : gc y = 1) (ha : a ≠ 0) (hb : b ≠ 0) (h : x.map (a * ·) = y.map (b * ·)) : x = y ∨ x = y.map fun z => -z := by
  have e := norm_eq ha hb h
  rw [low_one hx, low_one hy] at e
  rcases upr_or x with h1 | h1 <;> rcases upr_or y with h2 | h2
  · exact Or.inl (by rw [← h1, e, h2])
  · exact Or.inr (by rw [← h1, e, h2])
  · refine Or.inr ?_
    have : (x.map fun z => -z) = y := by rw [← h1, e, h2]
    rw [← this, neg_neg_map]
  · refine Or.inl ?_
    have : (x.map fun z => -z) = y.map fun z => -z := by rw [← h1, e, h2]
    rw [← neg_neg_map x, this, neg_neg_map]

end Go.Proofs.Ytdmkmljhljoojaa

/- Duality (von Neumann): what is greatest in a cut is the least that ways say (pure). -/
namespace Go.Proofs.Ytdmkmljhljoojaa
open Lin

theorem way_nums {g : List Int} {t : List (List Int)} (h : wayB g t = true) : (wayN g t).length = t.length + 1 ∧ (∀ i, i < t.length + 1 → 0 < V (wayN g t) i) ∧ ∀ j, j < g.length → sv t (V (wayN g t)) j = V (wayN g t) t.length * V g j := by
  unfold wayB at h
  rw [Bool.and_eq_true] at h
  have hl := norm_len h.1
  have hpl : (pickL (t.length + 1) (acrL g t)).length + 1 = t.length + 1 := by simpa [normB] using h.1
  obtain ⟨_, hk, _⟩ := norm_spec hpl
  refine ⟨hl, fun i hi => ?_, rep_iff.1 hk⟩
  have hany : (wayN g t).any lowB = false := by simpa using h.2
  have hm : (wayN g t).getD i 0 ∈ wayN g t := getD_mem (by unfold wayN; rw [hl]; exact hi)
  have := List.any_eq_false.1 hany _ hm
  simp only [lowB, decide_eq_true_eq] at this
  show 0 < (wayN g t).getD i 0
  omega

/-- What a way says. -/
def wS (g : List Int) (t : List (List Int)) : Int := sv t (V (wayN g t)) g.length
def wU (g : List Int) (t : List (List Int)) : Int := V (wayN g t) t.length

theorem wU_pos {g : List Int} {t : List (List Int)} (h : wayB g t = true) : 0 < wU g t := (way_nums h).2.1 _ (by omega)

theorem way_ratio {g : List Int} {t : List (List Int)} (h : wayB g t = true) {a : Nat → Int} (hr : ∀ j, j < g.length → sv t a j = a t.length * V g j) : wS g t * a t.length = sv t a g.length * wU g t := by
  obtain ⟨b, hb, hbr, hpar⟩ := way_iff.1 h
  obtain ⟨_, hN, hNr⟩ := way_nums h
  have p1 := hpar _ hNr
  have p2 := hpar a hr
  have key : ∀ i, i < t.length + 1 → V (wayN g t) i * a t.length = V (wayN g t) t.length * a i := fun i hi => by
    have e1 := p1 i t.length hi (by omega)
    have e2 := p2 i t.length hi (by omega)
    have hbn := hb t.length (by omega)
    have e3 : b t.length * (V (wayN g t) i * a t.length) = b t.length * (V (wayN g t) t.length * a i) := by
      have : b t.length * (V (wayN g t) i * a t.length) = (V (wayN g t) i * b t.length) * a t.length := by grind
      rw [this, e1]
      have : b t.length * (V (wayN g t) t.length * a i) = V (wayN g t) t.length * (a i * b t.length) := by grind
      rw [this, e2]; grind
    exact Int.eq_of_mul_eq_mul_left (by omega) e3
  unfold wS wU
  rw [sv_eq, sv_eq, ← sumN_mul_right, ← sumN_mul_right]
  refine sumN_congr fun i hi => ?_
  have := key i (by omega)
  grind

/-- A sum of so much of rows, with a place. -/
theorem sv_dot (d : Nat) (t : List (List Int)) (a x : Nat → Int) : dot d (sv t a) x = sumN t.length fun i => a i * dot d (V (t.getD i [])) x := by
  have h := dot_sm d x (t.map V) a
  rw [dot_comm]
  show dot d x (sm (t.map V) a) = _
  rw [h, List.length_map]
  refine sumN_congr fun i hi => ?_
  have e2 : (t.map V).getD i (fun _ => 0) = V (t.getD i []) := by simp [hi]
  rw [e2, dot_comm]

theorem sv_fea {d : Nat} {rows t : List (List Int)} {x : Nat → Int} {w : Int} (hf : Fea d rows x w) (hs : ∀ r ∈ t, r ∈ rows) {a : Nat → Int} (ha : ∀ i, i < t.length → 0 ≤ a i) : dot d (sv t a) x ≤ sv t a d * w := by
  rw [sv_dot, sv_eq, ← sumN_mul_right]
  have : 0 ≤ sumN t.length fun i => (a i * V (t.getD i []) d * w) + -(a i * dot d (V (t.getD i [])) x) := sumN_nonneg fun i hi => by
    have h1 := hf.2 _ (hs (t.getD i []) (by simp [hi]))
    have h2 := Int.mul_nonneg (ha i hi) (show 0 ≤ V (t.getD i []) d * w - dot d (V (t.getD i [])) x by omega)
    have e : a i * V (t.getD i []) d * w + -(a i * dot d (V (t.getD i [])) x) = a i * (V (t.getD i []) d * w - dot d (V (t.getD i [])) x) := by grind
    omega
  rw [sumN_add, sumN_neg] at this
  omega

theorem sv_goal {d : Nat} {t : List (List Int)} {a x : Nat → Int} {g : List Int} (hg : g.length = d) (hr : ∀ j, j < g.length → sv t a j = a t.length * V g j) : dot d (sv t a) x = a t.length * dot d (V g) x := by
  have : dot d (sv t a) x = dot d (fun j => a t.length * V g j) x := dot_congr (fun i hi => hr i (by omega)) fun _ _ => rfl
  rw [this]
  unfold dot
  rw [← sumN_mul]
  exact sumN_congr fun i _ => by grind

/-- No place has more than a way says. -/
theorem weak {d : Nat} {rows t : List (List Int)} {x : Nat → Int} {w : Int} {g : List Int} (hg : g.length = d) (hf : Fea d rows x w) (hs : ∀ r ∈ t, r ∈ rows) (hw : wayB g t = true) : dot d (V g) x * wU g t ≤ wS g t * w := by
  obtain ⟨_, hp, hr⟩ := way_nums hw
  have h1 := sv_fea hf hs (a := V (wayN g t)) fun i hi => Int.le_of_lt (hp i (by omega))
  rw [sv_goal hg hr] at h1
  unfold wS wU
  rw [hg, Int.mul_comm (dot d (V g) x)]
  exact h1

/-- The least that ways say is met at a place where so many rows and axes meet. -/
theorem opt_at {d : Nat} {rows tb : List (List Int)} {g : List Int} (hg : g.length = d) {x0 : Nat → Int} {w0 : Int} (hf : Fea d rows x0 w0) (hsb : tb.Sublist rows) (hwb : wayB g tb = true)
    (hmin : ∀ t, t.Sublist rows → wayB g t = true → wS g tb * wU g t ≤ wS g t * wU g tb) :
    ∃ x w, Fea d rows x w ∧ dot d (V g) x * wU g tb = wS g tb * w ∧ ∀ v : Nat → Int, (∀ r ∈ rows, dot d (V r) x = V r d * w → dot d (V r) v = 0) → dot d (V g) v = 0 := by
  have hU := wU_pos hwb
  have hcyc : ∀ t : List (List Int), t.Sublist rows → ∀ w : Nat → Int, (∀ i, i < t.length → 0 ≤ w i) → (∀ j, j < g.length → sv t w j = 0) → 0 ≤ sv t w g.length := fun t ht w hw hz => by
    have h1 := sv_fea hf (fun r hr => ht.subset hr) hw
    have h2 : dot d (sv t w) x0 = 0 := dot_zero fun i hi => hz i (by omega)
    rw [h2] at h1
    rw [hg]
    rcases Int.lt_or_le (sv t w d) 0 with h | h
    · have := Int.mul_neg_of_neg_of_pos h hf.1; omega
    · exact h
  -- a place that has as much
  have hex : ∃ x w, Fea d rows x w ∧ wS g tb * w ≤ dot d (V g) x * wU g tb := by
    obtain ⟨rs, hrs⟩ : ∃ rs : List Int, rs = ((List.range d).map fun j => -(wU g tb * V g j)) ++ [-(wS g tb)] := ⟨_, rfl⟩
    have v1 : ∀ j, j < d → V rs j = -(wU g tb * V g j) := fun j hj => by
      rw [hrs]; unfold V
      rw [List.getD_eq_getElem?_getD, List.getElem?_append_left (by simpa using hj)]
      simp [hj]
    have v2 : V rs d = -(wS g tb) := by
      rw [hrs]; unfold V
      rw [List.getD_eq_getElem?_getD, List.getElem?_append_right (by simp)]; simp
    have hdr : ∀ x, dot d (V rs) x = -(wU g tb * dot d (V g) x) := fun x => by
      unfold dot
      rw [← sumN_mul, ← sumN_neg]
      exact sumN_congr fun i hi => by rw [v1 i hi]; grind
    cases he : empB d (rs :: rows) with
    | false =>
      obtain ⟨x, w, hw, h⟩ := emp_fea.1 he
      refine ⟨x, w, ⟨hw, fun r hr => h r (List.mem_cons_of_mem _ hr)⟩, ?_⟩
      have := h rs (List.mem_cons_self ..)
      rw [hdr, v2] at this
      have e1 : dot d (V g) x * wU g tb = wU g tb * dot d (V g) x := Int.mul_comm _ _
      have e2 : -(wS g tb) * w = -(wS g tb * w) := by grind
      omega
    | true =>
      exfalso
      have hne : waysL (rs :: rows) (refG d) ≠ [] := fun h => by unfold empB at he; rw [h] at he; cases he
      obtain ⟨t, hts, htw⟩ := ways_some.1 hne
      obtain ⟨a, hp, hr, _⟩ := way_iff.1 htw
      have r0 : ∀ j, j < d → V (refG d) j = 0 := fun j hj => by simp [V, refG, show j < d + 1 by omega, show ¬ j = d by omega]
      have rd : V (refG d) d = -1 := by simp [V, refG]
      have hn := hp t.length (by omega)
      have hz : ∀ j, j < d → sv t a j = 0 := fun j hj => by rw [hr j (by rw [refG_len]; omega), r0 j hj]; omega
      have hd : sv t a d = -(a t.length) := by rw [hr d (by rw [refG_len]; omega), rd]; omega
      have noRow : ∀ (t : List (List Int)) (a : Nat → Int), (∀ r ∈ t, r ∈ rows) → (∀ i, i < t.length → 0 ≤ a i) → (∀ j, j < d → sv t a j = 0) → sv t a d < 0 → False := fun t a ht ha hz hd => by
        have h1 := sv_fea hf ht ha
        have h2 : dot d (sv t a) x0 = 0 := dot_zero fun i hi => hz i hi
        rw [h2] at h1
        have := Int.mul_neg_of_neg_of_pos hd hf.1
        omega
      rcases List.sublist_cons_iff.1 hts with hts1 | ⟨t1, rfl, hts1⟩
      · exact noRow t a (fun r hr => hts1.subset hr) (fun i hi => Int.le_of_lt (hp i (by omega))) hz (by omega)
      · have ha0 := hp 0 (by simp)
        have hs1 : ∀ j, sv t1 (fun i => a (i + 1)) j = sv (rs :: t1) a j - a 0 * V rs j := fun j => by rw [sv_cons]; omega
        have hrep : ∀ j, j < g.length → sv t1 (fun i => if i = t1.length then a 0 * wU g tb else a (i + 1)) j = (a 0 * wU g tb) * V g j := fun j hj => by
          rw [sv_congr (b := fun i => a (i + 1)) (fun i hi => by rw [if_neg (by omega)]), hs1, hz j (by omega), v1 j (by omega)]
          grind
        obtain ⟨t', a', k1, k2, k3, k4, k5⟩ := cara hcyc t1.length t1 (fun i => if i = t1.length then a 0 * wU g tb else a (i + 1)) (Nat.le_refl _) hts1 (fun i hi => by
            by_cases e : i = t1.length
            · simp only [e, if_true]; exact Int.mul_pos ha0 hU
            · simp only [e, if_false]; exact hp (i + 1) (by simp; omega)) (fun j hj => by simp only [if_true]; exact hrep j hj)
        simp only [if_true] at k5
        rw [sv_congr (t := t1) (b := fun i => a (i + 1)) (fun i hi => by rw [if_neg (by omega)]), hs1, hg, hd, v2] at k5
        have hr' := way_ratio k2 k4
        have hm := hmin t' k1 k2
        have hA := k3 t'.length (by omega)
        have hU' := wU_pos k2
        rw [hg] at hr'
        -- S U' <= S' U, S' A = s' U', s' a0 U <= (a0 S - n) A
        have e1 : wS g tb * wU g t' * (a' t'.length * a 0) ≤ wS g t' * wU g tb * (a' t'.length * a 0) := Int.mul_le_mul_of_nonneg_right hm (Int.le_of_lt (Int.mul_pos hA ha0))
        have e2 : wS g t' * wU g tb * (a' t'.length * a 0) = (wS g t' * a' t'.length) * (wU g tb * a 0) := by grind
        rw [e2, hr'] at e1
        have e3 : sv t' a' d * wU g t' * (wU g tb * a 0) = (sv t' a' d * (a 0 * wU g tb)) * wU g t' := by grind
        rw [e3] at e1
        have e4 := Int.mul_le_mul_of_nonneg_right k5 (Int.le_of_lt hU')
        have e5 : (-(a (rs :: t1).length) - a 0 * -wS g tb) * a' t'.length * wU g t' = wS g tb * wU g t' * (a' t'.length * a 0) - a (rs :: t1).length * (a' t'.length * wU g t') := by grind
        have e6 : 0 < a (rs :: t1).length * (a' t'.length * wU g t') := Int.mul_pos hn (Int.mul_pos hA hU')
        omega
  obtain ⟨x, w, hfx, hge⟩ := hex
  have hle := weak hg hfx (fun r hr => hsb.subset hr) hwb
  have heq : dot d (V g) x * wU g tb = wS g tb * w := by omega
  obtain ⟨_, hp, hr⟩ := way_nums hwb
  -- all rows of the way are met
  have htight : ∀ i, i < tb.length → dot d (V (tb.getD i [])) x = V (tb.getD i []) d * w := by
    have hsum : sumN tb.length (fun i => V (wayN g tb) i * (V (tb.getD i []) d * w - dot d (V (tb.getD i [])) x)) = 0 := by
      have e1 : sumN tb.length (fun i => V (wayN g tb) i * (V (tb.getD i []) d * w - dot d (V (tb.getD i [])) x)) = sumN tb.length (fun i => V (wayN g tb) i * V (tb.getD i []) d * w + -(V (wayN g tb) i * dot d (V (tb.getD i [])) x)) := sumN_congr fun i _ => by grind
      rw [e1, sumN_add, sumN_neg, sumN_mul_right, ← sv_eq, ← sv_dot, sv_goal hg hr]
      have : sv tb (V (wayN g tb)) d = wS g tb := by unfold wS; rw [hg]
      rw [this]
      have : V (wayN g tb) tb.length = wU g tb := rfl
      rw [this]
      have := Int.mul_comm (wU g tb) (dot d (V g) x)
      omega
    have hnn : ∀ i, i < tb.length → 0 ≤ V (wayN g tb) i * (V (tb.getD i []) d * w - dot d (V (tb.getD i [])) x) := fun i hi => by
      have := hfx.2 _ (hsb.subset (show tb.getD i [] ∈ tb by simp [hi]))
      exact Int.mul_nonneg (Int.le_of_lt (hp i (by omega))) (by omega)
    have hall : ∀ (n : Nat) (f : Nat → Int), (∀ i, i < n → 0 ≤ f i) → sumN n f = 0 → ∀ i, i < n → f i = 0 := by
      intro n
      induction n with
      | zero => intro f _ _ i hi; omega
      | succ n ih =>
        intro f h0 hs i hi
        have h1 := sumN_nonneg (n := n) (f := f) fun i hi => h0 i (by omega)
        have h2 := h0 n (by omega)
        have h3 : sumN n f + f n = 0 := hs
        by_cases e : i = n
        · rw [e]; omega
        · exact ih f (fun i hi => h0 i (by omega)) (by omega) i (by omega)
    intro i hi
    have := hall _ _ hnn hsum i hi
    have hpi := hp i (by omega)
    rcases Int.mul_eq_zero.1 this with h | h
    · omega
    · omega
  refine ⟨x, w, hfx, heq, fun v hv => ?_⟩
  have h1 : wU g tb * dot d (V g) v = 0 := by
    have := sv_goal (x := v) hg hr
    rw [sv_dot] at this
    have h2 : sumN tb.length (fun i => V (wayN g tb) i * dot d (V (tb.getD i [])) v) = 0 := sumN_zero fun i hi => by
      rw [hv _ (hsb.subset (show tb.getD i [] ∈ tb by simp [hi])) (htight i hi), Int.mul_zero]
    rw [h2] at this
    exact this.symm
  rcases Int.mul_eq_zero.1 h1 with h | h
  · omega
  · exact h

theorem strong {d : Nat} {rows tb : List (List Int)} {g : List Int} (hg : g.length = d) (hl : ∀ r ∈ rows, r.length = d + 1) {x0 : Nat → Int} {w0 : Int} (hf : Fea d rows x0 w0) (hsb : tb.Sublist rows) (hwb : wayB g tb = true)
    (hmin : ∀ t, t.Sublist rows → wayB g t = true → wS g tb * wU g t ≤ wS g t * wU g tb) :
    ∃ t y, t.Sublist (allR d rows) ∧ t.length = d ∧ ptT rows d t = some y ∧ 0 < V y d ∧ dot d (V g) (V y) * wU g tb = wS g tb * V y d := by
  obtain ⟨x, w, hfx, heq, hG⟩ := opt_at hg hf hsb hwb hmin
  obtain ⟨t, y, k1, k2, k3, k4, k5⟩ := basic hl hfx (G := V g) hG
  refine ⟨t, y, k1, k2, k3, k4, ?_⟩
  have hw := hfx.1
  have e : w * (dot d (V g) (V y) * wU g tb) = w * (wS g tb * V y d) := by
    have : w * (dot d (V g) (V y) * wU g tb) = (dot d (V g) (V y) * w) * wU g tb := by grind
    rw [this, k5]
    have : dot d (V g) x * V y d * wU g tb = (dot d (V g) x * wU g tb) * V y d := by grind
    rw [this, heq]; grind
  exact Int.eq_of_mul_eq_mul_left (by omega) e

end Go.Proofs.Ytdmkmljhljoojaa
