import Derived.WalkKit
/- Words and weights, pure: what turns do to the roots above 0, how many of them a weight is below, and that the first mark below 0 leads to the weight of 1s. -/
namespace Go.Proofs.Ytkgljfnbaoncbaa

/-- A sum of the first numbers. -/
def sm : Nat → (Nat → Int) → Int
  | 0, _ => 0
  | n + 1, f => sm n f + f n

theorem sm_congr {f g : Nat → Int} : ∀ n, (∀ k, k < n → f k = g k) → sm n f = sm n g
  | 0, _ => rfl
  | n + 1, h => by
    show sm n f + f n = sm n g + g n
    rw [sm_congr n fun k hk => h k (by omega), h n (by omega)]

theorem sm_add {f g : Nat → Int} : ∀ n, sm n (fun k => f k + g k) = sm n f + sm n g
  | 0 => rfl
  | n + 1 => by
    show sm n (fun k => f k + g k) + (f n + g n) = (sm n f + f n) + (sm n g + g n)
    rw [sm_add n]; omega

theorem sm_mul {f : Nat → Int} (a : Int) : ∀ n, sm n (fun k => a * f k) = a * sm n f
  | 0 => by simp [sm]
  | n + 1 => by
    show sm n (fun k => a * f k) + a * f n = a * (sm n f + f n)
    rw [sm_mul a n, Int.mul_add]

theorem sm_zero : ∀ n, sm n (fun _ => 0) = 0
  | 0 => rfl
  | n + 1 => by show sm n (fun _ => 0) + 0 = 0; rw [sm_zero n]; rfl

theorem sm_one {f : Nat → Int} {r : Nat} : ∀ n, r < n → sm n (fun k => if k = r then f k else 0) = f r
  | 0, h => absurd h (by omega)
  | n + 1, h => by
    show sm n (fun k => if k = r then f k else 0) + (if n = r then f n else 0) = f r
    by_cases e : n = r
    · subst e
      rw [if_pos rfl, sm_congr (g := fun _ => 0) n fun k hk => if_neg (by omega), sm_zero]; omega
    · rw [if_neg e, sm_one n (by omega)]; omega

theorem sm_le {f g : Nat → Int} : ∀ n, (∀ k, k < n → f k ≤ g k) → sm n f ≤ sm n g
  | 0, _ => Int.le_refl _
  | n + 1, h => by
    show sm n f + f n ≤ sm n g + g n
    have h1 := sm_le n fun k hk => h k (by omega)
    have h2 := h n (by omega)
    omega

/-- One number of a square. -/
def cE (c : List (List Int)) (i j : Nat) : Int := (c.getD i []).getD j 0

/-- Marks, turned over by a root. -/
def ovL (c : List (List Int)) (v : List Int) (r : Nat) : List Int := (List.range c.length).map fun k => v.getD k 0 - v.getD r 0 * cE c r k

/-- What a sum of roots is of a weight. -/
def pr (n : Nat) (v b : List Int) : Int := sm n fun k => v.getD k 0 * b.getD k 0

/-- A sum of roots of the other kind, turned over. -/
def ctn (c : List (List Int)) (r : Nat) (b : List Int) : List Int := (List.range c.length).map fun k => if k = r then b.getD r 0 - sm c.length (fun k => cE c r k * b.getD k 0) else b.getD k 0

def un (n r : Nat) : List Int := (List.range n).map fun k => if k = r then 1 else 0

theorem getD_range {n k : Nat} {f : Nat → Int} (h : k < n) : ((List.range n).map f).getD k 0 = f k := by simp [h]

theorem pr_ov (c : List (List Int)) (v b : List Int) {r : Nat} (hr : r < c.length) : pr c.length (ovL c v r) b = pr c.length v (ctn c r b) := by
  unfold pr
  have e1 : sm c.length (fun k => (ovL c v r).getD k 0 * b.getD k 0) = sm c.length (fun k => v.getD k 0 * b.getD k 0 + (-(v.getD r 0)) * (cE c r k * b.getD k 0)) := sm_congr _ fun k hk => by
    unfold ovL
    rw [getD_range hk, Int.sub_mul, Int.mul_assoc, Int.neg_mul]
    omega
  have e2 : sm c.length (fun k => v.getD k 0 * (ctn c r b).getD k 0) = sm c.length (fun k => v.getD k 0 * b.getD k 0 + (if k = r then -(v.getD k 0 * sm c.length (fun k => cE c r k * b.getD k 0)) else 0)) := sm_congr _ fun k hk => by
    unfold ctn
    rw [getD_range hk]
    by_cases e : k = r
    · subst e
      rw [if_pos rfl, if_pos rfl, Int.mul_sub]; omega
    · rw [if_neg e, if_neg e]; omega
  rw [e1, e2, sm_add, sm_add, sm_mul, sm_one _ hr, Int.neg_mul]

theorem pr_un {n r : Nat} (v : List Int) (hr : r < n) : pr n v (un n r) = v.getD r 0 := by
  unfold pr un
  rw [sm_congr (g := fun k => if k = r then v.getD k 0 else 0) n fun k hk => by
    rw [getD_range hk]
    by_cases e : k = r <;> simp [e]]
  exact sm_one n hr

/-- Roots above 0 that turns leave together, but for the one that turns. -/
structure Rt (c R : List (List Int)) : Prop where
  nod : R.Nodup
  len : ∀ b ∈ R, b.length = c.length
  nn : ∀ b ∈ R, ∀ k, k < c.length → 0 ≤ b.getD k 0
  pos : ∀ b ∈ R, 0 < sm c.length fun k => b.getD k 0
  sim : ∀ r, r < c.length → un c.length r ∈ R
  prm : ∀ r, r < c.length → ((R.erase (un c.length r)).map (ctn c r)).Perm (R.erase (un c.length r))
  dg : ∀ r, r < c.length → cE c r r = 2

/-- How many of them a weight is below. -/
def nB (n : Nat) (R : List (List Int)) (v : List Int) : Nat := R.countP fun b => decide (pr n v b < 0)

/-- A weight in no mirror. -/
def Rg (n : Nat) (R : List (List Int)) (v : List Int) : Prop := ∀ b ∈ R, pr n v b ≠ 0

theorem ov_self {c R : List (List Int)} (h : Rt c R) (v : List Int) {r : Nat} (hr : r < c.length) : (ovL c v r).getD r 0 = -(v.getD r 0) := by
  unfold ovL
  rw [getD_range hr, h.dg r hr]; omega

theorem cnt_ov {c R : List (List Int)} (h : Rt c R) (v : List Int) {r : Nat} (hr : r < c.length) (p : Int → Bool) :
    (R.erase (un c.length r)).countP (fun b => p (pr c.length (ovL c v r) b)) = (R.erase (un c.length r)).countP fun b => p (pr c.length v b) := by
  have e := (h.prm r hr).countP_eq fun b => p (pr c.length v b)
  rw [List.countP_map] at e
  rw [← e]
  refine List.countP_congr fun b _ => ?_
  show p (pr c.length (ovL c v r) b) = true ↔ p (pr c.length v (ctn c r b)) = true
  rw [pr_ov c v b hr]

theorem nB_ov {c R : List (List Int)} (h : Rt c R) (v : List Int) {r : Nat} (hr : r < c.length) :
    (0 < v.getD r 0 → nB c.length R (ovL c v r) = nB c.length R v + 1) ∧ (v.getD r 0 < 0 → nB c.length R (ovL c v r) + 1 = nB c.length R v) := by
  have hp := List.perm_cons_erase (h.sim r hr)
  have e1 : nB c.length R (ovL c v r) = (R.erase (un c.length r)).countP (fun b => decide (pr c.length v b < 0)) + (if decide (-(v.getD r 0) < 0) = true then 1 else 0) := by
    unfold nB
    rw [hp.countP_eq, List.countP_cons, pr_un _ hr, ov_self h v hr, cnt_ov h v hr fun z => decide (z < 0)]
  have e2 : nB c.length R v = (R.erase (un c.length r)).countP (fun b => decide (pr c.length v b < 0)) + (if decide (v.getD r 0 < 0) = true then 1 else 0) := by
    unfold nB
    rw [hp.countP_eq, List.countP_cons, pr_un _ hr]
  rw [e1, e2]
  constructor
  · intro h1
    rw [if_pos (decide_eq_true (by omega)), if_neg (by rw [decide_eq_true_eq]; omega)]
  · intro h1
    rw [if_neg (by rw [decide_eq_true_eq]; omega), if_pos (decide_eq_true h1)]

theorem rg_ov {c R : List (List Int)} (h : Rt c R) {v : List Int} (hv : Rg c.length R v) {r : Nat} (hr : r < c.length) : Rg c.length R (ovL c v r) := by
  intro b hb
  by_cases e : b = un c.length r
  · subst e
    rw [pr_un _ hr, ov_self h v hr]
    have := hv _ hb
    rw [pr_un _ hr] at this
    omega
  · rw [pr_ov c v b hr]
    have hm : b ∈ R.erase (un c.length r) := (List.mem_erase_of_ne e).2 hb
    have : ctn c r b ∈ R.erase (un c.length r) := (h.prm r hr).mem_iff.1 (List.mem_map_of_mem hm)
    exact hv _ (List.mem_of_mem_erase this)

theorem ov_ov {c R : List (List Int)} (h : Rt c R) {v : List Int} (hl : v.length = c.length) {r : Nat} (hr : r < c.length) : ovL c (ovL c v r) r = v := by
  refine List.ext_getElem (by simp [ovL, hl]) fun k h1 h2 => ?_
  have hk : k < c.length := by omega
  have e1 : (ovL c (ovL c v r) r)[k] = (ovL c (ovL c v r) r).getD k 0 := by simp [h1]
  have e2 : v[k] = v.getD k 0 := by simp [h2]
  rw [e1, e2]
  have e3 : (ovL c (ovL c v r) r).getD k 0 = (ovL c v r).getD k 0 - (ovL c v r).getD r 0 * cE c r k := by
    conv => lhs; unfold ovL
    rw [getD_range hk]
    rfl
  have e4 : (ovL c v r).getD k 0 = v.getD k 0 - v.getD r 0 * cE c r k := by unfold ovL; rw [getD_range hk]
  rw [e3, ov_self h v hr, e4, Int.neg_mul]
  omega

theorem ovL_len (c : List (List Int)) (v : List Int) (r : Nat) : (ovL c v r).length = c.length := by simp [ovL]

/-- Where a word takes a weight: the last letter first. -/
def tak (c : List (List Int)) (w : List Nat) (v : List Int) : List Int := w.foldr (fun r v => ovL c v r) v

theorem tak_len {c : List (List Int)} {v : List Int} (hv : v.length = c.length) : ∀ w, (tak c w v).length = c.length
  | [] => hv
  | _ :: _ => ovL_len _ _ _

def Lt (c : List (List Int)) (w : List Nat) : Prop := ∀ r ∈ w, r < c.length

theorem tak_rg {c R : List (List Int)} (h : Rt c R) {v : List Int} (hv : Rg c.length R v) : ∀ w, Lt c w → Rg c.length R (tak c w v)
  | [], _ => hv
  | r :: w, hw => rg_ov h (tak_rg h hv w fun x hx => hw x (by simp [hx])) (hw r (by simp))

def ones (n : Nat) : List Int := List.replicate n 1

theorem pr_ones {n : Nat} (b : List Int) : pr n (ones n) b = sm n fun k => b.getD k 0 := sm_congr n fun k hk => by simp [ones, hk]

theorem ones_rg {c R : List (List Int)} (h : Rt c R) : Rg c.length R (ones c.length) := fun b hb => by
  rw [pr_ones]
  have := h.pos b hb
  omega

theorem ones_nB {c R : List (List Int)} (h : Rt c R) : nB c.length R (ones c.length) = 0 := by
  unfold nB
  rw [List.countP_eq_zero]
  intro b hb
  rw [pr_ones]
  have := h.pos b hb
  simp only [decide_eq_true_eq]
  omega

/-- What is told of all roots together: turns leave it. -/
def qS (n : Nat) (R : List (List Int)) (v : List Int) : Nat := (R.map fun b => (pr n v b).natAbs).sum

theorem qS_ov {c R : List (List Int)} (h : Rt c R) (v : List Int) {r : Nat} (hr : r < c.length) : qS c.length R (ovL c v r) = qS c.length R v := by
  have hp := List.perm_cons_erase (h.sim r hr)
  have s1 : ∀ u, qS c.length R u = (u.getD r 0).natAbs + ((R.erase (un c.length r)).map fun b => (pr c.length u b).natAbs).sum := fun u => by
    unfold qS
    rw [(hp.map _).sum_nat, List.map_cons, List.sum_cons, pr_un _ hr]
  rw [s1, s1, ov_self h v hr]
  have e : ((R.erase (un c.length r)).map fun b => (pr c.length (ovL c v r) b).natAbs) = ((R.erase (un c.length r)).map (ctn c r)).map fun b => (pr c.length v b).natAbs := by
    rw [List.map_map]
    refine List.map_congr_left fun b _ => ?_
    show (pr c.length (ovL c v r) b).natAbs = (pr c.length v (ctn c r b)).natAbs
    rw [pr_ov c v b hr]
  rw [e, ((h.prm r hr).map _).sum_nat]
  omega

theorem qS_tak {c R : List (List Int)} (h : Rt c R) (v : List Int) : ∀ w, Lt c w → qS c.length R (tak c w v) = qS c.length R v
  | [], _ => rfl
  | r :: w, hw => (qS_ov h _ (hw r (by simp))).trans (qS_tak h v w fun x hx => hw x (by simp [hx]))

end Go.Proofs.Ytkgljfnbaoncbaa

/- Words, pure: a weight that is below no root is the one of 1s; the word of first marks below 0; what one letter more does. -/
namespace Go.Proofs.Ytkgljfnbaoncbaa

theorem nat_sum_le {R : List (List Int)} {f g : List Int → Nat} (h : ∀ b ∈ R, f b ≤ g b) : (R.map f).sum ≤ (R.map g).sum := by
  induction R with
  | nil => simp
  | cons b R ih =>
    simp only [List.map_cons, List.sum_cons]
    have h1 := h b (by simp)
    have h2 := ih fun x hx => h x (by simp [hx])
    omega

theorem nat_sum_eq {R : List (List Int)} {f g : List Int → Nat} (h : ∀ b ∈ R, f b ≤ g b) (hs : (R.map f).sum = (R.map g).sum) : ∀ b ∈ R, f b = g b := by
  induction R with
  | nil => intro b hb; simp at hb
  | cons a R ih =>
    simp only [List.map_cons, List.sum_cons] at hs
    have h1 := h a (by simp)
    have h2 := nat_sum_le (R := R) fun x hx => h x (by simp [hx])
    intro b hb
    rcases List.mem_cons.1 hb with rfl | hb
    · omega
    · exact ih (fun x hx => h x (by simp [hx])) (by omega) b hb

/-- Below no root, and taken there by a word: all marks are 1. -/
theorem dom_one {c R : List (List Int)} (h : Rt c R) {w : List Nat} (hw : Lt c w) (h0 : nB c.length R (tak c w (ones c.length)) = 0) : tak c w (ones c.length) = ones c.length := by
  have hrg := tak_rg h (ones_rg h) w hw
  have hq := qS_tak h (ones c.length) w hw
  have hl : (tak c w (ones c.length)).length = c.length := tak_len (by simp [ones]) w
  generalize tak c w (ones c.length) = d at *
  have hpos : ∀ b ∈ R, 0 < pr c.length d b := fun b hb => by
    unfold nB at h0
    rw [List.countP_eq_zero] at h0
    have h1 := h0 b hb
    have h2 := hrg b hb
    simp only [decide_eq_true_eq] at h1
    omega
  have hd : ∀ k, k < c.length → 1 ≤ d.getD k 0 := fun k hk => by
    have := hpos _ (h.sim k hk)
    rw [pr_un _ hk] at this
    omega
  have hle : ∀ b ∈ R, (pr c.length (ones c.length) b).natAbs ≤ (pr c.length d b).natAbs := fun b hb => by
    have h1 := hpos b hb
    have h2 := h.pos b hb
    rw [pr_ones]
    have h3 : (sm c.length fun k => b.getD k 0) ≤ pr c.length d b := sm_le _ fun k hk => by
      have e1 := hd k hk
      have e2 := h.nn b hb k hk
      have := Int.mul_le_mul_of_nonneg_right e1 e2
      omega
    omega
  have heq := nat_sum_eq hle hq.symm
  refine List.ext_getElem (by rw [hl]; simp [ones]) fun k h1 h2 => ?_
  have hk : k < c.length := by omega
  have e := heq _ (h.sim k hk)
  rw [pr_un _ hk, pr_un _ hk] at e
  have e1 := hd k hk
  have e2 : (ones c.length).getD k 0 = 1 := by simp [ones, hk]
  have e3 : d[k] = d.getD k 0 := by simp [h1]
  have e4 : (ones c.length)[k] = (ones c.length).getD k 0 := by simp [h2]
  rw [e3, e4]
  rw [e2] at e ⊢
  omega

/-- The first mark below 0. -/
def fneg (v : List Int) : Option Nat := v.findIdx? fun z => decide (z < 0)

/-- The word of first marks below 0. -/
def upr (c : List (List Int)) : Nat → List Int → List Nat
  | 0, _ => []
  | f + 1, v => match fneg v with
    | none => []
    | some r => r :: upr c f (ovL c v r)

def upE (c : List (List Int)) : Nat → List Int → List Int
  | 0, v => v
  | f + 1, v => match fneg v with
    | none => v
    | some r => upE c f (ovL c v r)

theorem fneg_some {v : List Int} {r : Nat} (h : fneg v = some r) : r < v.length ∧ v.getD r 0 < 0 := by
  unfold fneg at h
  rw [List.findIdx?_eq_some_iff_getElem] at h
  obtain ⟨h1, h2, _⟩ := h
  exact ⟨h1, by simpa [h1] using h2⟩

theorem fneg_none {v : List Int} (h : fneg v = none) : ∀ k, k < v.length → 0 ≤ v.getD k 0 := by
  unfold fneg at h
  rw [List.findIdx?_eq_none_iff] at h
  intro k hk
  have := h v[k] (List.getElem_mem _)
  simp only [decide_eq_false_iff_not] at this
  simp only [List.getD_eq_getElem?_getD, List.getElem?_eq_getElem hk, Option.getD_some]
  omega

/-- No mark is below 0: below no root. -/
theorem dom_nB {c R : List (List Int)} (h : Rt c R) {v : List Int} (hv : ∀ k, k < c.length → 0 ≤ v.getD k 0) : nB c.length R v = 0 := by
  unfold nB
  rw [List.countP_eq_zero]
  intro b hb
  simp only [decide_eq_true_eq]
  have : (0 : Int) ≤ pr c.length v b := by
    have := sm_le (f := fun _ => 0) (g := fun k => v.getD k 0 * b.getD k 0) c.length fun k hk => Int.mul_nonneg (hv k hk) (h.nn b hb k hk)
    rw [sm_zero] at this
    exact this
  omega

theorem upr_all {c R : List (List Int)} (h : Rt c R) : ∀ (f : Nat) (w : List Nat), Lt c w → nB c.length R (tak c w (ones c.length)) ≤ f →
    (upr c f (tak c w (ones c.length))).length = nB c.length R (tak c w (ones c.length)) ∧ Lt c (upr c f (tak c w (ones c.length))) ∧ tak c (upr c f (tak c w (ones c.length))) (ones c.length) = tak c w (ones c.length) ∧ fneg (upE c f (tak c w (ones c.length))) = none
  | 0, w, hw, hf => by
    have h0 : nB c.length R (tak c w (ones c.length)) = 0 := by omega
    have e := dom_one h hw h0
    refine ⟨by rw [h0]; rfl, fun r hr => by simp [upr] at hr, e.symm, ?_⟩
    show fneg (tak c w (ones c.length)) = none
    rw [e]
    unfold fneg ones
    rw [List.findIdx?_eq_none_iff]
    intro x hx
    rw [List.mem_replicate] at hx
    rw [hx.2]
    decide
  | f + 1, w, hw, hf => by
    have hl : (tak c w (ones c.length)).length = c.length := tak_len (by simp [ones]) w
    cases hn : fneg (tak c w (ones c.length)) with
    | none =>
      have h0 := dom_nB h (v := tak c w (ones c.length)) fun k hk => fneg_none hn k (by omega)
      have e := dom_one h hw h0
      simp only [upr, upE, hn]
      exact ⟨by rw [h0]; rfl, fun r hr => by simp at hr, e.symm, trivial⟩
    | some r =>
      obtain ⟨h1, h2⟩ := fneg_some hn
      have hr : r < c.length := by omega
      have hk := (nB_ov h (tak c w (ones c.length)) hr).2 h2
      have hw2 : Lt c (r :: w) := fun x hx => by
        rcases List.mem_cons.1 hx with rfl | hx
        · exact hr
        · exact hw x hx
      have ih := upr_all h f (r :: w) hw2 (by show nB c.length R (ovL c (tak c w (ones c.length)) r) ≤ f; omega)
      have et : tak c (r :: w) (ones c.length) = ovL c (tak c w (ones c.length)) r := rfl
      rw [et] at ih
      simp only [upr, upE, hn]
      refine ⟨by rw [List.length_cons, ih.1]; omega, fun x hx => ?_, ?_, ih.2.2.2⟩
      · rcases List.mem_cons.1 hx with rfl | hx
        · exact hr
        · exact ih.2.1 x hx
      · show ovL c (tak c (upr c f (ovL c (tak c w (ones c.length)) r)) (ones c.length)) r = tak c w (ones c.length)
        rw [ih.2.2.1, ov_ov h hl hr]

end Go.Proofs.Ytkgljfnbaoncbaa

/- Words, pure: what a letter put behind a word does to its length. -/
namespace Go.Proofs.Ytkgljfnbaoncbaa

def ngL (x : List Int) : List Int := x.map fun z => -z

theorem ngL_ng (x : List Int) : ngL (ngL x) = x := by
  unfold ngL
  rw [List.map_map]
  have : ((fun z : Int => -z) ∘ fun z => -z) = id := by funext z; simp
  rw [this, List.map_id]

theorem ngL_get (x : List Int) (k : Nat) : (ngL x).getD k 0 = -(x.getD k 0) := by
  unfold ngL
  by_cases h : k < x.length
  · simp [h]
  · simp [Nat.not_lt.1 h]

theorem ctn_len (c : List (List Int)) (r : Nat) (b : List Int) : (ctn c r b).length = c.length := by simp [ctn]

theorem list_ext {x y : List Int} {n : Nat} (hx : x.length = n) (hy : y.length = n) (h : ∀ k, k < n → x.getD k 0 = y.getD k 0) : x = y := by
  refine List.ext_getElem (by omega) fun k h1 h2 => ?_
  have := h k (by omega)
  simpa [h1, h2] using this

theorem sm_ng {f : Nat → Int} (n : Nat) : sm n (fun k => -(f k)) = -(sm n f) := by
  have := sm_mul (f := f) (-1) n
  rw [sm_congr (g := fun k => -1 * f k) n fun k _ => by omega, this]; omega

theorem ctn_at {c : List (List Int)} {r k : Nat} (b : List Int) (hk : k < c.length) : (ctn c r b).getD k 0 = if k = r then b.getD r 0 - sm c.length (fun k => cE c r k * b.getD k 0) else b.getD k 0 := by
  unfold ctn
  rw [getD_range hk]

theorem ctn_ng (c : List (List Int)) (r : Nat) (b : List Int) : ctn c r (ngL b) = ngL (ctn c r b) := by
  refine list_ext (ctn_len _ _ _) (by simp [ngL, ctn_len]) fun k hk => ?_
  rw [ctn_at _ hk, ngL_get, ngL_get, ngL_get, ctn_at _ hk]
  by_cases e : k = r
  · rw [if_pos e, if_pos e, sm_congr (g := fun k => -(cE c r k * b.getD k 0)) _ fun j _ => by rw [ngL_get, Int.mul_neg], sm_ng]
    omega
  · rw [if_neg e, if_neg e]

theorem un_at {n r k : Nat} (hk : k < n) : (un n r).getD k 0 = if k = r then 1 else 0 := by
  unfold un
  rw [getD_range hk]

theorem un_len (n r : Nat) : (un n r).length = n := by simp [un]

theorem ctn_un {c R : List (List Int)} (h : Rt c R) {r : Nat} (hr : r < c.length) : ctn c r (un c.length r) = ngL (un c.length r) := by
  refine list_ext (ctn_len _ _ _) (by simp [ngL, un_len]) fun k hk => ?_
  rw [ctn_at _ hk, ngL_get, un_at hk, un_at hr, if_pos rfl]
  have e1 : sm c.length (fun k => cE c r k * (un c.length r).getD k 0) = 2 := by
    rw [sm_congr (g := fun k => if k = r then cE c r k else 0) _ fun j hj => by
      rw [un_at hj]
      by_cases e : j = r <;> simp [e], sm_one _ hr, h.dg r hr]
  rw [e1]
  by_cases e : k = r <;> simp [e]

theorem ctn_ctn {c R : List (List Int)} (h : Rt c R) {r : Nat} (hr : r < c.length) {b : List Int} (hb : b.length = c.length) : ctn c r (ctn c r b) = b := by
  refine list_ext (ctn_len _ _ _) hb fun k hk => ?_
  rw [ctn_at _ hk]
  have e1 : sm c.length (fun k => cE c r k * (ctn c r b).getD k 0) = sm c.length (fun k => cE c r k * b.getD k 0) - 2 * sm c.length (fun k => cE c r k * b.getD k 0) := by
    rw [sm_congr (g := fun k => cE c r k * b.getD k 0 + (if k = r then -(cE c r k * sm c.length (fun k => cE c r k * b.getD k 0)) else 0)) _ fun j hj => by
      rw [ctn_at _ hj]
      by_cases e : j = r
      · subst e
        rw [if_pos rfl, if_pos rfl, Int.mul_sub]; omega
      · rw [if_neg e, if_neg e]; omega, sm_add, sm_one _ hr, h.dg r hr]
    omega
  rw [e1, ctn_at _ hr, if_pos rfl]
  by_cases e : k = r
  · subst e
    rw [if_pos rfl]; omega
  · rw [if_neg e, ctn_at _ hk, if_neg e]

/-- What a word's turns, the first letter first, do to a sum of roots of the other kind. -/
def tb (c : List (List Int)) (w : List Nat) (b : List Int) : List Int := w.foldl (fun b a => ctn c a b) b

theorem tb_len {c : List (List Int)} : ∀ (w : List Nat) {b : List Int}, b.length = c.length → (tb c w b).length = c.length
  | [], _, h => h
  | a :: w, b, _ => tb_len w (b := ctn c a b) (ctn_len _ _ _)

theorem pr_tak {c : List (List Int)} (v : List Int) : ∀ (w : List Nat) (b : List Int), Lt c w → pr c.length (tak c w v) b = pr c.length v (tb c w b)
  | [], _, _ => rfl
  | a :: w, b, hw => by
    show pr c.length (ovL c (tak c w v) a) b = pr c.length v (tb c w (ctn c a b))
    rw [pr_ov _ _ _ (hw a (by simp)), pr_tak v w _ fun x hx => hw x (by simp [hx])]

theorem tb_ng {c : List (List Int)} : ∀ (w : List Nat) (b : List Int), tb c w (ngL b) = ngL (tb c w b)
  | [], _ => rfl
  | a :: w, b => by
    show tb c w (ctn c a (ngL b)) = ngL (tb c w (ctn c a b))
    rw [ctn_ng, tb_ng w]

theorem tb_back {c R : List (List Int)} (h : Rt c R) : ∀ (w : List Nat) {b : List Int}, Lt c w → b.length = c.length → tb c w (tb c w.reverse b) = b
  | [], _, _, _ => rfl
  | a :: w, b, hw, hb => by
    have e : tb c (a :: w).reverse b = ctn c a (tb c w.reverse b) := by
      rw [List.reverse_cons]
      unfold tb
      rw [List.foldl_append]
      rfl
    show tb c w (ctn c a (tb c (a :: w).reverse b)) = b
    rw [e, ctn_ctn h (hw a (by simp)) (tb_len _ hb)]
    exact tb_back h w (fun x hx => hw x (by simp [hx])) hb

theorem tb_forth {c R : List (List Int)} (h : Rt c R) {w : List Nat} {b : List Int} (hw : Lt c w) (hb : b.length = c.length) : tb c w.reverse (tb c w b) = b := by
  have := tb_back h w.reverse (b := b) (fun x hx => hw x (by simpa using hx)) hb
  rw [List.reverse_reverse] at this
  exact this

/-- A root, above or below 0. -/
def PM (R : List (List Int)) (x : List Int) : Prop := x ∈ R ∨ ngL x ∈ R

theorem pm_ctn {c R : List (List Int)} (h : Rt c R) {r : Nat} (hr : r < c.length) {x : List Int} (hx : PM R x) : PM R (ctn c r x) := by
  have key : ∀ y, y ∈ R → PM R (ctn c r y) := fun y hy => by
    by_cases e : y = un c.length r
    · subst e
      rw [ctn_un h hr]
      exact .inr (by rw [ngL_ng]; exact hy)
    · have hm : y ∈ R.erase (un c.length r) := (List.mem_erase_of_ne e).2 hy
      exact .inl (List.mem_of_mem_erase ((h.prm r hr).mem_iff.1 (List.mem_map_of_mem hm)))
  rcases hx with hx | hx
  · exact key x hx
  · have := key _ hx
    rw [ctn_ng] at this
    rcases this with k | k
    · exact .inr k
    · exact .inl (by rw [ngL_ng] at k; exact k)

theorem pm_tb {c R : List (List Int)} (h : Rt c R) : ∀ (w : List Nat) {x : List Int}, Lt c w → PM R x → PM R (tb c w x)
  | [], _, _, hx => hx
  | a :: w, x, hw, hx => pm_tb h w (x := ctn c a x) (fun y hy => hw y (by simp [hy])) (pm_ctn h (hw a (by simp)) hx)

def ht (n : Nat) (x : List Int) : Int := sm n fun k => x.getD k 0

theorem ht_ng (n : Nat) (x : List Int) : ht n (ngL x) = -(ht n x) := by
  unfold ht
  rw [sm_congr (g := fun k => -(x.getD k 0)) _ fun k _ => ngL_get x k, sm_ng]

/-- Turned by a letter, a root stays above or below 0, unless it is that letter's. -/
theorem ht_ctn {c R : List (List Int)} (h : Rt c R) {s : Nat} (hs : s < c.length) {x : List Int} (hx : PM R x) (h1 : x ≠ un c.length s) (h2 : ngL x ≠ un c.length s) : (ht c.length (ctn c s x) < 0 ↔ ht c.length x < 0) := by
  have key : ∀ y, y ∈ R → y ≠ un c.length s → 0 < ht c.length (ctn c s y) ∧ 0 < ht c.length y := fun y hy hne => by
    have hm : y ∈ R.erase (un c.length s) := (List.mem_erase_of_ne hne).2 hy
    exact ⟨h.pos _ (List.mem_of_mem_erase ((h.prm s hs).mem_iff.1 (List.mem_map_of_mem hm))), h.pos y hy⟩
  rcases hx with hx | hx
  · obtain ⟨k1, k2⟩ := key x hx h1
    constructor <;> intro <;> omega
  · obtain ⟨k1, k2⟩ := key _ hx h2
    rw [ctn_ng, ht_ng] at k1
    rw [ht_ng] at k2
    constructor <;> intro <;> omega

theorem cnt_but {R : List (List Int)} (hn : R.Nodup) {b0 : List Int} (hb : b0 ∈ R) {p q : List Int → Bool} (h : ∀ b ∈ R, b ≠ b0 → p b = q b) :
    R.countP q + (if p b0 = true then 1 else 0) = R.countP p + (if q b0 = true then 1 else 0) := by
  have hp := List.perm_cons_erase hb
  rw [hp.countP_eq, hp.countP_eq (p := p), List.countP_cons, List.countP_cons]
  have e : (R.erase b0).countP q = (R.erase b0).countP p := List.countP_congr fun b hm => by
    have hne : b ≠ b0 := fun e => by
      subst e
      exact (List.Nodup.not_mem_erase hn) hm
    rw [h b (List.mem_of_mem_erase hm) hne]
  rw [e]
  omega

/-- One letter more, behind a word. -/
theorem ends_ok {c R : List (List Int)} (h : Rt c R) {w : List Nat} (hw : Lt c w) {s : Nat} (hs : s < c.length) :
    (0 < (tak c w.reverse (ones c.length)).getD s 0 → nB c.length R (tak c (w ++ [s]) (ones c.length)) = nB c.length R (tak c w (ones c.length)) + 1) ∧
    ((tak c w.reverse (ones c.length)).getD s 0 < 0 → nB c.length R (tak c (w ++ [s]) (ones c.length)) + 1 = nB c.length R (tak c w (ones c.length))) := by
  have hwr : Lt c w.reverse := fun x hx => hw x (by simpa using hx)
  have hws : Lt c (w ++ [s]) := fun x hx => by
    rcases List.mem_append.1 hx with hx | hx
    · exact hw x hx
    · rw [List.mem_singleton] at hx; subst hx; exact hs
  have eb : (tak c w.reverse (ones c.length)).getD s 0 = ht c.length (tb c w.reverse (un c.length s)) := by
    rw [← pr_un _ hs, pr_tak _ _ _ hwr, pr_ones]; rfl
  have n1 : nB c.length R (tak c w (ones c.length)) = R.countP fun b => decide (ht c.length (tb c w b) < 0) := List.countP_congr fun b _ => by
    rw [pr_tak _ _ _ hw, pr_ones]; rfl
  have n2 : nB c.length R (tak c (w ++ [s]) (ones c.length)) = R.countP fun b => decide (ht c.length (ctn c s (tb c w b)) < 0) := List.countP_congr fun b _ => by
    rw [pr_tak _ _ _ hws, pr_ones]
    have : tb c (w ++ [s]) b = ctn c s (tb c w b) := by unfold tb; rw [List.foldl_append]; rfl
    rw [this]; rfl
  rw [n1, n2, eb]
  have hu := un_len c.length s
  have hus : ht c.length (un c.length s) = 1 := by
    unfold ht
    rw [sm_congr (g := fun k => if k = s then 1 else 0) _ fun k hk => un_at hk, sm_one (f := fun _ => 1) _ hs]
  obtain ⟨y, hy⟩ : ∃ y, y = tb c w.reverse (un c.length s) := ⟨_, rfl⟩
  have hyl : y.length = c.length := by rw [hy]; exact tb_len _ hu
  have hyb : tb c w y = un c.length s := by rw [hy]; exact tb_back h w hw hu
  have hpm : PM R y := by rw [hy]; exact pm_tb h _ hwr (.inl (h.sim s hs))
  have huniq : ∀ b ∈ R, tb c w b = un c.length s → b = y := fun b hb e => by
    have := tb_forth h hw (h.len b hb)
    rw [e] at this
    rw [hy, this]
  rw [← hy]
  constructor
  · intro hpos
    have hyR : y ∈ R := by
      rcases hpm with k | k
      · exact k
      · have := h.pos _ k
        have e : sm c.length (fun k => (ngL y).getD k 0) = ht c.length (ngL y) := rfl
        rw [e, ht_ng] at this
        omega
    have := cnt_but h.nod hyR (p := fun b => decide (ht c.length (tb c w b) < 0)) (q := fun b => decide (ht c.length (ctn c s (tb c w b)) < 0)) fun b hb hne => by
      have h1 : tb c w b ≠ un c.length s := fun e => hne (huniq b hb e)
      have h2 : ngL (tb c w b) ≠ un c.length s := fun e => by
        rw [← tb_ng] at e
        have e2 := tb_forth h hw (b := ngL b) (by simp [ngL, h.len b hb])
        rw [e, ← hy] at e2
        have p1 := h.pos _ hyR
        have p2 := h.pos _ hb
        have q1 : ht c.length y = -(ht c.length b) := by rw [e2, ht_ng]
        unfold ht at q1
        omega
      have := ht_ctn h hs (pm_tb h w hw (.inl hb)) h1 h2
      rw [decide_eq_decide]
      exact this.symm
    simp only [hyb, ctn_un h hs, ht_ng, hus] at this
    simpa using this
  · intro hneg
    have hyR : ngL y ∈ R := by
      rcases hpm with k | k
      · have := h.pos _ k
        have e : sm c.length (fun k => y.getD k 0) = ht c.length y := rfl
        omega
      · exact k
    have hnb : tb c w (ngL y) = ngL (un c.length s) := by rw [tb_ng, hyb]
    have := cnt_but h.nod hyR (p := fun b => decide (ht c.length (tb c w b) < 0)) (q := fun b => decide (ht c.length (ctn c s (tb c w b)) < 0)) fun b hb hne => by
      have h1 : tb c w b ≠ un c.length s := fun e => by
        have e2 := huniq b hb e
        have p2 := h.pos _ hb
        have e3 : sm c.length (fun k => b.getD k 0) = ht c.length b := rfl
        rw [e2] at e3 p2
        omega
      have h2 : ngL (tb c w b) ≠ un c.length s := fun e => by
        rw [← tb_ng] at e
        have e2 := tb_forth h hw (b := ngL b) (by simp [ngL, h.len b hb])
        rw [e, ← hy] at e2
        exact hne (by rw [e2, ngL_ng])
      have := ht_ctn h hs (pm_tb h w hw (.inl hb)) h1 h2
      rw [decide_eq_decide]
      exact this.symm
    simp only [hnb, ctn_ng, ctn_un h hs, ngL_ng, ht_ng, hus] at this
    simpa using this

end Go.Proofs.Ytkgljfnbaoncbaa
