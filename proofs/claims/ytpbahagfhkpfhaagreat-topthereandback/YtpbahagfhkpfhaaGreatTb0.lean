/- Of the rows of a polytope, as a cut, the corners are its corners (pure). -/
import Derived.Test.YtpbahagfhkpfhaaGreatHgA
import Derived.Test.YtpbahagfhkpfhaaGreatLtA
import Derived.Test.YtpbahagfhkpfhaaGreatHmY
import Derived.Test.YtpbahagfhkpfhaaGreatWrY
namespace Go.Proofs.YtpbahagfhkpfhaaGreat
open Lin

/-- What lies beyond no row is not greater than all points, in any direction: a place q by w. -/
theorem rows_tellW {d : Nat} {P : List (List Int)} (hg : Good d P) {q : Nat → Int} {w : Int} (hq : ∀ r ∈ rowsC P [] d P, dot d (V r) q ≤ r.getD d 0 * w) {x : List Int} (hx : x ∈ P) {c : Nat → Int} (hmax : ∀ y ∈ P, dot d c (V y) ≤ dot d c (V x)) :
    dot d c q ≤ dot d c (V x) * w := by
  have hspan := good_span hg
  have hsub : ∀ (c : Nat → Int) (y : List Int), dot d c (fun j => V y j - V x j) = dot d c (V y) - dot d c (V x) := fun c y => dot_sub d c (V y) (V x)
  have hsw : ∀ c : Nat → Int, dot d c (fun j => q j - V x j * w) = dot d c q - dot d c (V x) * w := fun c => by
    rw [dot_sub]
    congr 1
    unfold dot
    rw [← sumN_mul_right]
    exact sumN_congr fun i _ => by rw [Int.mul_assoc]
  have h := cone (d := d) (Z := P.map fun y j => V y j - V x j) (v := fun j => q j - V x j * w) (fun c hc i hi => by
      refine hspan c (fun y hy z hz => ?_) i hi
      have h1 := hc _ (List.mem_map.2 ⟨y, hy, rfl⟩)
      have h2 := hc _ (List.mem_map.2 ⟨z, hz, rfl⟩)
      rw [hsub] at h1 h2
      omega) (fun c hcn hle hone => by
      obtain ⟨r, hr, hrx, s, t, hs, ht, hst⟩ := side_some (P := P) (x := x) hg.box hspan hx hcn (fun y hy => by
          have := hle _ (List.mem_map.2 ⟨y, hy, rfl⟩)
          rw [hsub] at this
          omega) (fun u hu => hone u fun z hz h0 => by
          obtain ⟨y, hy, rfl⟩ := List.mem_map.1 hz
          rw [hsub] at h0 ⊢
          have := hu y hy (by omega)
          omega)
      have h1 := hq r hr
      rw [hrx] at h1
      have h2 : s * dot d c (fun j => q j - V x j * w) = t * dot d (V r) (fun j => q j - V x j * w) := by
        unfold dot
        rw [← sumN_mul, ← sumN_mul]
        exact sumN_congr fun i hi => by rw [← Int.mul_assoc, hst i hi, Int.mul_assoc]
      have h3 : t * dot d (V r) (fun j => q j - V x j * w) ≤ 0 := Int.mul_nonpos_of_nonneg_of_nonpos (Int.le_of_lt ht) (by rw [hsw]; omega)
      rcases Int.lt_or_le 0 (dot d c (fun j => q j - V x j * w)) with h4 | h4
      · have := Int.mul_pos hs h4; omega
      · exact h4) _ c (Nat.le_refl _) (fun z hz => by
      obtain ⟨y, hy, rfl⟩ := List.mem_map.1 hz
      rw [hsub]
      have := hmax y hy
      omega)
  rw [hsw] at h
  omega

theorem good_ne {d : Nat} {P : List (List Int)} (hg : Good d P) : P ≠ [] := by
  intro h
  have := hg.n2
  rw [h] at this
  simp at this

/-- There is no way on which no row grows. -/
theorem no_rec {d : Nat} {P : List (List Int)} (hg : Good d P) {v : Nat → Int} (hv : ∀ r ∈ rowsC P [] d P, dot d (V r) v ≤ 0) : ∀ i, i < d → v i = 0 := by
  intro i hi
  refine Classical.byContradiction fun hne => ?_
  have hp := dot_pos (d := d) (a := v) ⟨i, hi, hne⟩
  obtain ⟨x, hx, hmx⟩ := argmax (fun y : List Int => dot d v (V y)) P (good_ne hg)
  have hadd : ∀ c : Nat → Int, dot d c (fun j => 1 * V x j + 1 * v j) = dot d c (V x) + dot d c v := fun c => by
    rw [dot_comm, dot_lc, dot_comm d (V x), dot_comm d v]; omega
  have h := rows_tellW hg (q := fun j => 1 * V x j + 1 * v j) (w := 1) (fun r hr => by
    rw [hadd]
    have h1 := (rowsC_fit hg.box hg.d1 (by have := hg.d4; omega) (fun _ => Iff.rfl) hr).all x hx
    have h2 := hv r hr
    omega) hx hmx
  rw [hadd] at h
  omega

/-- Fewer vectors than dimensions leave a direction. -/
theorem few_orth {d : Nat} {m : List (List Int)} (h : m.length < d) : ∃ v : Nat → Int, (∃ i, i < d ∧ v i ≠ 0) ∧ ∀ r ∈ m, dot d (V r) v = 0 := by
  refine Classical.byContradiction fun hn => ?_
  have hg := pick_greedy d m
  have hall : ∀ v : Nat → Int, (∀ r ∈ fm m, dot d r v = 0) → ∀ i, i < d → v i = 0 := fun v hv i hi => by
    refine Classical.byContradiction fun hne => hn ⟨v, ⟨i, hi, hne⟩, fun r hr => hv (V r) (mem_fm.2 ⟨r, hr, rfl⟩)⟩
  have hl := (greedy_full hg).2 hall
  rw [fm_length] at hl
  have := (pick_sub d m).length_le
  omega

theorem rows_many {d : Nat} {P R : List (List Int)} (hg : Good d P) (hR : ∀ r, r ∈ R ↔ r ∈ rowsC P [] d P) : d + 1 ≤ R.length := by
  refine Classical.byContradiction fun hn => ?_
  obtain ⟨r0, hr0⟩ := row_some hg
  have hd1 := hg.d1
  rcases R with _ | ⟨a, R'⟩
  · have := (hR r0).2 hr0
    cases this
  · obtain ⟨v, ⟨i, hi, hne⟩, hv⟩ := few_orth (d := d) (m := R') (by simp at hn; omega)
    rcases Int.lt_or_le 0 (dot d (V a) v) with h | h
    · have := no_rec hg (v := fun k => - v k) (fun r hr => by
        rw [dot_comm, dot_neg, dot_comm]
        rcases List.mem_cons.1 ((hR r).2 hr) with rfl | h2
        · omega
        · rw [hv r h2]; omega) i hi
      simp at this
      exact hne this
    · have := no_rec hg (v := v) (fun r hr => by
        rcases List.mem_cons.1 ((hR r).2 hr) with rfl | h2
        · exact h
        · rw [hv r h2]; omega) i hi
      exact hne this

theorem good_many {d : Nat} {C : List (List Int)} (hg : Good d C) : d + 1 ≤ C.length := by
  have h1 := pickL_len d (diffL C)
  have h2 := hg.full
  have h3 := hg.n2
  rw [diffL_length] at h1
  omega

/-- The rows leave x no direction. -/
def Crn (d : Nat) (P : List (List Int)) (x : List Int) : Prop := ∀ v : Nat → Int, (∀ r ∈ rowsC P [] d P, r.getD d 0 = dot d (V r) (V x) → dot d (V r) v = 0) → ∀ i, i < d → v i = 0

theorem mt_gc {d : Nat} {t : List (List Int)} (hb : mtB d t = true) : gc (mtL d t) = 1 := by
  have hnb : normB (d + 1) t = true := by unfold mtB at hb; rw [Bool.and_eq_true] at hb; exact hb.1
  have hl : (pickL (d + 1) t).length + 1 = d + 1 := by simpa [normB] using hnb
  unfold mtL
  rw [gc_ng (mtP_len hnb)]
  unfold mtP
  split
  · rw [gc_neg]; exact norm_gc hl
  · exact norm_gc hl

/-- Where rows meet they are met, and nothing else is. -/
theorem mt_met {d : Nat} {t : List (List Int)} (hb : mtB d t = true) (_ht : ∀ r ∈ t, r.length = d + 1) : (∀ r ∈ t, dot d (V r) (V (mtL d t)) = V r d * V (mtL d t) d) ∧ ∀ v : Nat → Int, (∀ r ∈ t, dot d (V r) v = 0) → ∀ i, i < d → v i = 0 := by
  have hnb : normB (d + 1) t = true := by unfold mtB at hb; rw [Bool.and_eq_true] at hb; exact hb.1
  have hne : (normL (d + 1) t).getD d 0 ≠ 0 := by unfold mtB at hb; rw [Bool.and_eq_true] at hb; simpa using hb.2
  have hl : (pickL (d + 1) t).length + 1 = d + 1 := by simpa [normB] using hnb
  obtain ⟨_, h1, h2⟩ := norm_spec hl
  have hpl := mtP_len hnb
  obtain ⟨σ, hσ⟩ : ∃ σ : Int, ∀ i, (mtP d t).getD i 0 = σ * (normL (d + 1) t).getD i 0 := by
    unfold mtP
    by_cases e : 0 < (normL (d + 1) t).getD d 0
    · refine ⟨-1, fun i => ?_⟩
      rw [if_pos e]
      simp only [List.getD_eq_getElem?_getD, List.getElem?_map]
      cases (normL (d + 1) t)[i]? <;> simp
    · exact ⟨1, fun i => by rw [if_neg e]; omega⟩
  refine ⟨fun r hr => ?_, fun v hv i hi => ?_⟩
  · have e1 : dot d (V r) (V (mtL d t)) = σ * dot d (V r) (V (normL (d + 1) t)) := by
      unfold dot
      rw [← sumN_mul]
      refine sumN_congr fun i hi => ?_
      have : V (mtL d t) i = σ * V (normL (d + 1) t) i := by
        show (ngR d (mtP d t)).getD i 0 = _
        rw [ngR_get hpl (by omega), if_neg (by omega), hσ]
        rfl
      rw [this, Int.mul_left_comm]
    have e2 : V (mtL d t) d = -(σ * V (normL (d + 1) t) d) := by
      show (ngR d (mtP d t)).getD d 0 = _
      rw [ngR_get hpl (by omega), if_pos rfl, hσ]
      rfl
    have e3 := h1 r hr
    rw [dot_last] at e3
    rw [e1, e2]
    have e4 : dot d (V r) (V (normL (d + 1) t)) = -(V r d * V (normL (d + 1) t) d) := by omega
    rw [e4]
    grind
  · have hp := h2 (fun k => if k = d then 0 else v k) (fun r hr => by
      rw [dot_last]
      simp only [if_true, Int.mul_zero]
      have : dot d (V r) (fun k => if k = d then 0 else v k) = dot d (V r) v := dot_congr (fun _ _ => rfl) fun j hj => by rw [if_neg (by omega)]
      rw [this, hv r hr]; rfl) i d (by omega) (by omega)
    simp only [if_true, Int.zero_mul] at hp
    rw [if_neg (by omega)] at hp
    rcases Int.mul_eq_zero.1 hp with h | h
    · exact h
    · exact absurd h hne

theorem sum_eq0 : ∀ (L : List Int), (∀ x ∈ L, 0 ≤ x) → L.sum = 0 → ∀ x ∈ L, x = 0
  | [], _, _, x, hx => by cases hx
  | a :: L, h, hs, x, hx => by
    rw [List.sum_cons] at hs
    have h1 := h a (by simp)
    have h2 : 0 ≤ L.sum := by
      have : ∀ L : List Int, (∀ x ∈ L, 0 ≤ x) → 0 ≤ L.sum := fun L => by
        induction L with
        | nil => intro _; simp
        | cons b L ih =>
          intro h
          rw [List.sum_cons]
          have := h b (by simp)
          have := ih fun x hx => h x (by simp [hx])
          omega
      exact this L fun x hx => h x (by simp [hx])
    rcases List.mem_cons.1 hx with rfl | hx
    · omega
    · exact sum_eq0 L (fun x hx => h x (by simp [hx])) (by omega) x hx

/-- What is divided by all it has in common. -/
theorem prim_last {d : Nat} {x y : List Int} {w : Int} (hx : x.length = d) (hy : y.length = d + 1) (hw : 0 < w) (hg : gc y = 1) (hyd : y.getD d 0 = w) (h : ∀ i, i < d → y.getD i 0 = x.getD i 0 * w) : y = x ++ [1] := by
  have e : y = (x ++ [1]).map (w * ·) := by
    refine List.ext_getElem (by simp [hx, hy]) fun i h1 h2 => ?_
    have e : y[i] = y.getD i 0 := by simp [h1]
    rw [e, List.getElem_map]
    by_cases hi : i < d
    · rw [h i hi, List.getElem_append_left (by omega), Int.mul_comm]
      simp [show i < x.length by omega]
    · have : i = d := by omega
      subst this
      rw [hyd, List.getElem_append_right (by omega)]
      simp [hx]
  rw [e, gc_scale] at hg
  have hw1 : w.natAbs = 1 := by
    have := Nat.eq_one_of_mul_eq_one_right hg
    exact this
  have hw2 : w = 1 := by omega
  rw [e, hw2]
  simp

/-- Corners of the cut are corners of the polytope. -/
theorem ends_to {d : Nat} {P R : List (List Int)} (hg : Good d P) (hR : ∀ r, r ∈ R ↔ r ∈ rowsC P [] d P) {y : List Int} (hy : y ∈ crL d R (ext R.length d 0)) : ∃ x ∈ P, Crn d P x ∧ y = x ++ [1] := by
  have hfit : ∀ r ∈ R, RowOf d P r := fun r hr => rowsC_fit hg.box hg.d1 (by have := hg.d4; omega) (fun _ => Iff.rfl) ((hR r).1 hr)
  have hl : ∀ r ∈ R, r.length = d + 1 := fun r hr => (hfit r hr).len
  obtain ⟨t, ht, htl, hb, hk, rfl⟩ := crL_memG.1 hy
  have htm : ∀ r ∈ t, r ∈ R := fun r hr => ht.subset hr
  obtain ⟨hf, hyl⟩ := in_fea hl hb hk
  obtain ⟨hmet, hsp⟩ := mt_met hb fun r hr => hl r (htm r hr)
  have hgc := mt_gc hb
  generalize mtL d t = y at *
  obtain ⟨w, hw⟩ : ∃ w, w = V y d := ⟨_, rfl⟩
  have hw0 : 0 < w := by rw [hw]; exact hf.1
  obtain ⟨x, hx, hmx⟩ := argmax (fun z : List Int => dot d (sumR t) (V z)) P (good_ne hg)
  have h1 := rows_tellW hg (q := V y) (w := w) (fun r hr => by
    have := hf.2 r ((hR r).2 hr)
    rw [← hw] at this
    exact this) hx hmx
  rw [dot_sumR, dot_sumR] at h1
  have hrx : ∀ r ∈ t, dot d (V r) (V x) ≤ V r d := fun r hr => (hfit r (htm r hr)).all x hx
  have hsum : (t.map fun r => (V r d - dot d (V r) (V x)) * w).sum = 0 := by
    have e1 : (t.map fun r => dot d (V r) (V y)) = t.map fun r => V r d * w := List.map_congr_left fun r hr => by rw [hmet r hr, ← hw]
    rw [e1] at h1
    have e2 : ∀ L : List (List Int), (L.map fun r => (V r d - dot d (V r) (V x)) * w).sum = (L.map fun r => V r d * w).sum - (L.map fun r => dot d (V r) (V x)).sum * w := fun L => by
      induction L with
      | nil => simp
      | cons a L ih => simp only [List.map_cons, List.sum_cons]; rw [ih]; grind
    have e3 := e2 t
    have e4 : 0 ≤ (t.map fun r => (V r d - dot d (V r) (V x)) * w).sum := by
      have : ∀ L : List (List Int), (∀ r ∈ L, dot d (V r) (V x) ≤ V r d) → 0 ≤ (L.map fun r => (V r d - dot d (V r) (V x)) * w).sum := fun L => by
        induction L with
        | nil => intro _; simp
        | cons a L ih =>
          intro h
          simp only [List.map_cons, List.sum_cons]
          have a1 := h a (by simp)
          have a2 := ih fun r hr => h r (by simp [hr])
          have a3 : 0 ≤ (V a d - dot d (V a) (V x)) * w := Int.mul_nonneg (by omega) (by omega)
          omega
      exact this t hrx
    omega
  have hall := sum_eq0 _ (fun z hz => by
    obtain ⟨r, hr, rfl⟩ := List.mem_map.1 hz
    exact Int.mul_nonneg (by have := hrx r hr; omega) (by omega)) hsum
  have htx : ∀ r ∈ t, V r d = dot d (V r) (V x) := fun r hr => by
    have := hall _ (List.mem_map.2 ⟨r, hr, rfl⟩)
    rcases Int.mul_eq_zero.1 this with h | h <;> omega
  have hyx : ∀ i, i < d → V y i = V x i * w := fun i hi => by
    have := hsp (fun j => V y j - V x j * w) (fun r hr => by
      rw [dot_sub, hmet r hr, htx r hr, ← hw]
      have : dot d (V r) (fun j => V x j * w) = dot d (V r) (V x) * w := by
        unfold dot
        rw [← sumN_mul_right]
        exact sumN_congr fun i _ => by rw [Int.mul_assoc]
      rw [this]; omega) i hi
    omega
  refine ⟨x, hx, fun v hv => hsp v fun r hr => hv r ((hR r).1 (htm r hr)) (htx r hr), ?_⟩
  exact prim_last (hg.box x hx).1 hyl hw0 hgc hw.symm hyx

/-- Corners of the polytope are corners of the cut. -/
theorem ends_from {d : Nat} {P R : List (List Int)} (hg : Good d P) (hR : ∀ r, r ∈ R ↔ r ∈ rowsC P [] d P) {x : List Int} (hx : x ∈ P) (hc : Crn d P x) : x ++ [1] ∈ crL d R (ext R.length d 0) := by
  have hfit : ∀ r ∈ R, RowOf d P r := fun r hr => rowsC_fit hg.box hg.d1 (by have := hg.d4; omega) (fun _ => Iff.rfl) ((hR r).1 hr)
  have hl : ∀ r ∈ R, r.length = d + 1 := fun r hr => (hfit r hr).len
  have hxl := (hg.box x hx).1
  obtain ⟨T, hT⟩ : ∃ T, T = R.filter fun r => decide (r.getD d 0 = dot d (V r) (V x)) := ⟨_, rfl⟩
  have hTm : ∀ r, r ∈ T ↔ r ∈ R ∧ r.getD d 0 = dot d (V r) (V x) := fun r => by rw [hT]; simp
  have hTs : T.Sublist R := by rw [hT]; exact List.filter_sublist
  have hgr := pick_greedy d T
  have hfull := (greedy_full hgr).2 fun v hv => hc v fun r hr he => hv (V r) (mem_fm.2 ⟨r, (hTm r).2 ⟨(hR r).2 hr, he⟩, rfl⟩)
  rw [fm_length] at hfull
  have hsub := pick_sub d T
  have hmem : ∀ r ∈ pickL d T, r ∈ R ∧ r.getD d 0 = dot d (V r) (V x) := fun r hr => (hTm r).1 (hsub.subset hr)
  have hcd : ∀ r : List Int, dot d (V r) (V (x ++ [1])) = dot d (V r) (V x) := fun r => dot_congr (fun _ _ => rfl) fun i hi => (row_app hxl).2.2.2 i hi
  have hlast : V (x ++ [1]) d = 1 := (row_app (b := 1) hxl).2.2.1
  obtain ⟨y, hy1, hy2, hy3⟩ := pt_at (rows := R) (t := pickL d T) (c := V (x ++ [1])) hl (fun r hr => hl r (hmem r hr).1) (by rw [hlast]; decide) (fun r hr => by
    rw [hcd, hlast]
    have := (hfit r hr).all x hx
    show _ ≤ r.getD d 0 * 1
    omega) (fun r hr => by
    rw [hcd, hlast, ← (hmem r hr).2]
    show _ = r.getD d 0 * 1
    omega) (fun v hv => orth_none hgr.free (by rw [fm_length]; exact hfull) fun r hr => by
    obtain ⟨l, hlm, rfl⟩ := mem_fm.1 hr
    exact hv l hlm)
  obtain ⟨k1, k2, k3⟩ := (pt_mt hl (fun r hr => hl r (hmem r hr).1)).1 hy1
  have hyl : y.length = d + 1 := by rw [k3]; exact mt_len k1
  have hgc : gc y = 1 := by rw [k3]; exact mt_gc k1
  have hyx := prim_last (x := x) (y := y) (w := V y d) hxl hyl hy2 hgc rfl (fun i hi => by
    have := hy3 i (by omega)
    rw [hlast, (row_app (b := 1) hxl).2.2.2 i hi, Int.mul_one] at this
    exact this)
  rw [← hyx]
  exact crL_memG.2 ⟨_, hsub.trans hTs, hfull, k1, k2, k3⟩

theorem cmpL_app : ∀ {a b : List Int}, a.length = b.length → cmpL a b < 0 → cmpL (a ++ [1]) (b ++ [1]) < 0
  | [], [], _, h => by simp [cmpL] at h
  | [], _ :: _, hl, _ => by simp at hl
  | _ :: _, [], hl, _ => by simp at hl
  | x :: a, y :: b, hl, h => by
    simp only [cmpL, List.cons_append] at h ⊢
    split at h
    · rename_i h1; rw [if_pos h1]; decide
    · rename_i h1
      rw [if_neg h1]
      split at h
      · cases h
      · rename_i h2
        rw [if_neg h2]
        exact cmpL_app (by simpa using hl) h

/-- All that the law says of the ends. -/
theorem ends_are {d : Nat} {P R C E : List (List Int)} (hg : Good d P) (hR : ∀ r, r ∈ R ↔ r ∈ rowsC P [] d P) (hC : SAsc C) (hCm : ∀ x, x ∈ C ↔ x ∈ P ∧ Crn d P x) (hE : Inor E (crL d R (ext R.length d 0))) : E = C.map (· ++ [1]) := by
  refine sasc_ext _ _ hE.asc ?_ fun y => ?_
  · unfold SAsc
    rw [List.pairwise_map]
    exact List.Pairwise.imp_of_mem (fun {a b} ha hb h => cmpL_app (by rw [(hg.box a ((hCm a).1 ha).1).1, (hg.box b ((hCm b).1 hb).1).1]) h) hC
  · rw [hE.mem y]
    constructor
    · intro h
      obtain ⟨x, hx, hc, rfl⟩ := ends_to hg hR h
      exact List.mem_map.2 ⟨x, (hCm x).2 ⟨hx, hc⟩, rfl⟩
    · intro h
      obtain ⟨x, hx, rfl⟩ := List.mem_map.1 h
      obtain ⟨h1, h2⟩ := (hCm x).1 hx
      exact ends_from hg hR h1 h2

theorem rows_full {d : Nat} {P R : List (List Int)} (hg : Good d P) (hR : ∀ r, r ∈ R ↔ r ∈ rowsC P [] d P) : empB d R = false ∧ opB d R = false := by
  constructor
  · refine emp_fea.2 ?_
    obtain ⟨x, hx, _⟩ := argmax (fun _ : List Int => 0) P (good_ne hg)
    refine ⟨V x, 1, by decide, fun r hr => ?_⟩
    have := (rowsC_fit hg.box hg.d1 (by have := hg.d4; omega) (fun _ => Iff.rfl) ((hR r).1 hr)).all x hx
    show _ ≤ r.getD d 0 * 1
    omega
  · unfold opB
    rw [List.any_eq_false]
    intro i hi
    have hid := List.mem_range.1 hi
    have key : ∀ s : Int, s = 1 ∨ s = -1 → waysL R (axG d i s) ≠ [] := fun s hs h => by
      obtain ⟨c, h1, h2⟩ := ways_none.1 h
      rw [axG_len] at h1 h2
      rw [axG_dot hid] at h2
      have := no_rec hg (v := c) (fun r hr => by rw [dot_comm]; exact h1 r ((hR r).2 hr)) i hid
      rw [this] at h2
      omega
    unfold opI
    simp [List.isEmpty_iff, key 1 (.inl rfl), key (-1) (.inr rfl)]

/-- The program's corners, and what they say. -/
theorem tb_mem {d : Nat} {P P' rows : List (List Int)} (hg : Good d P) (hP : Inor P' P) (hr : Inw rows (rowsC P' [] d P')) : SAsc (P'.filter fun x => !twin rows P' x) ∧ ∀ x, x ∈ (P'.filter fun x => !twin rows P' x) ↔ x ∈ P ∧ Crn d P x := by
  refine ⟨List.Pairwise.filter _ hP.asc, fun y => ?_⟩
  rw [List.mem_filter, hP.mem y]
  refine and_congr_right fun hy => ?_
  have hrl : ∀ r ∈ rows, r.length = d + 1 := fun r hr' => (rowsC_fit hg.box hg.d1 (by have := hg.d4; omega) hP.mem ((hr.mem r).1 hr')).len
  have h1 := twin_iff (d := d) (m := rows) (P := P') (x := y) hrl (fun z hz => (hg.box z ((hP.mem z).1 hz)).1) (hg.box y hy).1
  have h2 := corner_iff hg (fun _ => Iff.rfl) hy
  simp only [Bool.not_eq_true']
  rw [h1]
  unfold Crn
  rw [← h2]
  constructor
  · intro h z hz hne
    obtain ⟨r, hr1, hr2⟩ := h z ((hP.mem z).2 hz) hne
    exact ⟨r, (rows_same hg hP.mem r).1 ((hr.mem r).1 hr1), hr2⟩
  · intro h z hz hne
    obtain ⟨r, hr1, hr2⟩ := h z ((hP.mem z).1 hz) hne
    exact ⟨r, (hr.mem r).2 ((rows_same hg hP.mem r).2 hr1), hr2⟩

theorem sasc_nodup {C : List (List Int)} (h : SAsc C) : C.Nodup := by
  refine List.Pairwise.imp (fun {a b} hab e => ?_) h
  subst e
  rw [cmpL_self] at hab
  omega

theorem tb_facts {d : Nat} {P C : List (List Int)} (hg : Good d P) (hC : SAsc C) (hCm : ∀ x, x ∈ C ↔ x ∈ P ∧ Crn d P x) : Good d C ∧ ∀ r, r ∈ rowsC C [] d C ↔ r ∈ rowsC P [] d P := by
  have hs : ∀ r, r ∈ rowsD P d ↔ r ∈ rowsD P d := fun _ => Iff.rfl
  have hcr : ∀ x ∈ P, ((pickL d (onL d (rowsD P d) x)).length = d ↔ ∀ v : Nat → Int, (∀ r ∈ rowsC P [] d P, r.getD d 0 = dot d (V r) (V x) → dot d (V r) v = 0) → ∀ i, i < d → v i = 0) := fun x hx => corner_rank hg (fun _ => Iff.rfl) hs hx
  have hm : ∀ y, y ∈ C ↔ y ∈ crn d (rowsD P d) P := fun y => by
    rw [hCm y]
    unfold crn
    rw [List.mem_filter]
    refine and_congr_right fun hy => ?_
    rw [decide_eq_true_eq, hcr y hy]
    rfl
  exact ⟨corners_good hg hs hcr hm (sasc_nodup hC), rows_corners hg hs hcr hm (sasc_nodup hC)⟩

end Go.Proofs.YtpbahagfhkpfhaaGreat
