/- Where rows meet: the program's table and the document's differ by the last column's sign (pure). -/
import Derived.Test.YtpbahagfhkpfhaaGreatHfY
import Derived.Test.YtpbahagfhkpfhaaGreatCvY
import Derived.Test.YtpbahagfhkpfhaaGreatFk2
namespace Go.Proofs.YtpbahagfhkpfhaaGreat
open Lin

theorem ng_turn {d : Nat} {t : List (List Int)} (ht : ∀ r ∈ t, r.length = d + 1) (u : Nat → Int) : (∀ r ∈ t, dot (d + 1) (V r) u = 0) ↔ ∀ r ∈ t.map (ngR d), dot (d + 1) (V r) (turnK d u) = 0 := by
  have key : ∀ r ∈ t, dot (d + 1) (V (ngR d r)) (turnK d u) = dot (d + 1) (V r) u := fun r hr => by
    unfold dot
    refine sumN_congr fun i hi => ?_
    show (ngR d r).getD i 0 * turnK d u i = r.getD i 0 * u i
    rw [ngR_get (ht r hr) hi]
    unfold turnK
    by_cases e : i = d
    · rw [if_pos e, if_pos e, e, Int.neg_mul_neg]
    · rw [if_neg e, if_neg e]
  constructor
  · intro h r hr
    obtain ⟨q, hq, rfl⟩ := List.mem_map.1 hr
    rw [key q hq]; exact h q hq
  · intro h r hr
    rw [← key r hr]; exact h _ (List.mem_map.2 ⟨r, hr, rfl⟩)

theorem ng_normB {d : Nat} {t : List (List Int)} (ht : ∀ r ∈ t, r.length = d + 1) : normB (d + 1) t = normB (d + 1) (t.map (ngR d)) := one_turn (n := d) (ng_turn ht)

theorem ng_par {d : Nat} {t : List (List Int)} (ht : ∀ r ∈ t, r.length = d + 1) (hb : normB (d + 1) t = true) : Par (d + 1) (turnK d (V (normL (d + 1) t))) (V (normL (d + 1) (t.map (ngR d)))) := norm_turn (ng_turn ht) hb

theorem gc_app (l : List Int) (b : Int) : gc (l ++ [b]) = Nat.gcd (gc l) b.natAbs := by
  unfold gc gcf; rw [List.foldl_append]; rfl

theorem gc_ng {d : Nat} {p : List Int} (h : p.length = d + 1) : gc (ngR d p) = gc p := by
  have e : p = p.take d ++ [p.getD d 0] := by
    have := List.take_succ_eq_append_getElem (l := p) (i := d) (by omega)
    rw [List.take_of_length_le (by omega)] at this
    rw [show p.getD d 0 = p[d] by simp [List.getD_eq_getElem?_getD, show d < p.length by omega]]
    exact this
  have e2 : gc p = Nat.gcd (gc (p.take d)) (p.getD d 0).natAbs := by
    conv => lhs; rw [e]
    exact gc_app _ _
  unfold ngR
  rw [gc_app, e2, Int.natAbs_neg]

/-- Where the document finds a place, the program finds the same. -/
theorem mt_ptY {d : Nat} {t : List (List Int)} {y : List Int} (ht : ∀ r ∈ t, r.length = d + 1) (hb' : normB (d + 1) (t.map (ngR d)) = true) (hne' : (normL (d + 1) (t.map (ngR d))).getD d 0 ≠ 0) (h : ptY d t = y) : mtB d t = true ∧ mtL d t = y := by
  have hb : normB (d + 1) t = true := by rw [ng_normB ht]; exact hb'
  have hpar := ng_par ht hb
  have hl : (pickL (d + 1) t).length + 1 = d + 1 := by simpa [normB] using hb
  have hl' : (pickL (d + 1) (t.map (ngR d))).length + 1 = d + 1 := by simpa [normB] using hb'
  have g1 := norm_gc hl
  have g2 := norm_gc hl'
  have n1 := norm_len hb
  have n2 := norm_len hb'
  have hy : y = if (normL (d + 1) (t.map (ngR d))).getD d 0 < 0 then (normL (d + 1) (t.map (ngR d))).map (fun z => -z) else normL (d + 1) (t.map (ngR d)) := h.symm
  have hL : mtL d t = ngR d (if 0 < (normL (d + 1) t).getD d 0 then (normL (d + 1) t).map (fun z => -z) else normL (d + 1) t) := rfl
  unfold mtB
  rw [hb]
  generalize normL (d + 1) (t.map (ngR d)) = n' at *
  generalize normL (d + 1) t = n at *
  have hnd : n.getD d 0 ≠ 0 := fun e => by
    have hz : ∀ i, i < d + 1 → n.getD i 0 = 0 := fun i hi => by
      have := hpar i d hi (by omega)
      unfold turnK V at this
      rw [if_pos rfl, e, Int.neg_zero, Int.zero_mul] at this
      rcases Int.mul_eq_zero.1 this with h0 | h0
      · split at h0 <;> omega
      · exact absurd h0 hne'
    have hz2 : n = n.map ((0 : Int) * ·) := by
      refine List.ext_getElem (by simp) fun i h1 h2 => ?_
      have := hz i (by omega)
      rw [List.getD_eq_getElem?_getD, List.getElem?_eq_getElem h1] at this
      simp only [Option.getD_some] at this
      simp [this]
    rw [hz2, gc_scale] at g1
    simp at g1
  refine ⟨by simpa using hnd, ?_⟩
  obtain ⟨p, hp⟩ : ∃ p, p = (if 0 < n.getD d 0 then n.map (fun z => -z) else n) := ⟨_, rfl⟩
  rw [← hp] at hL
  have hpl : p.length = d + 1 := by rw [hp]; split <;> simp [n1]
  have hyl : y.length = d + 1 := by rw [hy]; split <;> simp [n2]
  have neg_at : ∀ (l : List Int) (i : Nat), (l.map fun z => -z).getD i 0 = - l.getD i 0 := fun l i => by
    simp only [List.getD_eq_getElem?_getD, List.getElem?_map]
    cases l[i]? <;> simp
  obtain ⟨σ, hσ, hpi⟩ : ∃ σ : Int, (σ = 1 ∨ σ = -1) ∧ ∀ i, p.getD i 0 = σ * n.getD i 0 := by
    by_cases e : 0 < n.getD d 0
    · exact ⟨-1, .inr rfl, fun i => by rw [hp, if_pos e, neg_at]; omega⟩
    · exact ⟨1, .inl rfl, fun i => by rw [hp, if_neg e]; omega⟩
  obtain ⟨τ, hτ, hyi⟩ : ∃ τ : Int, (τ = 1 ∨ τ = -1) ∧ ∀ i, y.getD i 0 = τ * n'.getD i 0 := by
    by_cases e : n'.getD d 0 < 0
    · exact ⟨-1, .inr rfl, fun i => by rw [hy, if_pos e, neg_at]; omega⟩
    · exact ⟨1, .inl rfl, fun i => by rw [hy, if_neg e]; omega⟩
  have hpd : p.getD d 0 < 0 := by
    rw [hp]
    by_cases e : 0 < n.getD d 0
    · rw [if_pos e, neg_at]; omega
    · rw [if_neg e]; omega
  have hyd : 0 < y.getD d 0 := by
    rw [hy]
    by_cases e : n'.getD d 0 < 0
    · rw [if_pos e, neg_at]; omega
    · rw [if_neg e]; omega
  have gp : gc p = 1 := by
    rw [hp]; split
    · rw [gc_neg]; exact g1
    · exact g1
  have gy : gc y = 1 := by
    rw [hy]; split
    · rw [gc_neg]; exact g2
    · exact g2
  have hLi : ∀ i, i < d + 1 → (ngR d p).getD i 0 = σ * turnK d (V n) i := fun i hi => by
    rw [ngR_get hpl hi]
    unfold turnK V
    by_cases e : i = d
    · rw [if_pos e, if_pos e, hpi, e]; grind
    · rw [if_neg e, if_neg e, hpi]
  have hcross : (ngR d p).map (y.getD d 0 * ·) = y.map ((ngR d p).getD d 0 * ·) := by
    refine List.ext_getElem (by simp [ngR_len hpl, hyl]) fun i h1 h2 => ?_
    have hi : i < d + 1 := by simpa [ngR_len hpl] using h1
    have a1 := hLi i hi
    have a2 := hLi d (by omega)
    have a3 := hpar i d hi (by omega)
    have b1 := hyi i
    have b2 := hyi d
    simp only [List.getElem_map]
    have c1 : (ngR d p)[i]'(by rw [ngR_len hpl]; exact hi) = (ngR d p).getD i 0 := by simp [List.getD_eq_getElem?_getD, show i < (ngR d p).length by rw [ngR_len hpl]; exact hi]
    have c2 : y[i]'(by omega) = y.getD i 0 := by simp [List.getD_eq_getElem?_getD, show i < y.length by omega]
    rw [c1, c2, a1, a2, b1, b2]
    unfold V at a3 ⊢
    grind
  have hLd : (ngR d p).getD d 0 = - p.getD d 0 := by rw [ngR_get hpl (by omega), if_pos rfl]
  rw [hL]
  rcases prim_eq (by rw [gc_ng hpl]; exact gp) gy (by omega) (by omega) hcross with e | e
  · exact e
  · exfalso
    have := congrArg (fun l : List Int => l.getD d 0) e
    simp only [neg_at] at this
    omega

theorem mt_pt {d : Nat} {rows t : List (List Int)} {y : List Int} (ht : ∀ r ∈ t, r.length = d + 1) (h : ptT rows d t = some y) : mtB d t = true ∧ mtL d t = y := by
  unfold ptT at h
  split at h
  case isFalse => cases h
  case isTrue hc =>
    obtain ⟨hb', hne', _⟩ := hc
    simp only [Option.some.injEq] at h
    exact mt_ptY ht hb' hne' h

theorem in_ptK {d : Nat} {rows : List (List Int)} {y : List Int} (hl : ∀ r ∈ rows, r.length = d + 1) : inK rows d y = ptK rows d y := by
  have key : ∀ r ∈ rows, dotL (r.take d) (y.take d) = dotL (r.take d) y := fun r hr => by
    unfold dotL
    refine sumN_congr fun i hi => ?_
    have hi2 : i < d := by rw [List.length_take, hl r hr] at hi; omega
    congr 1
    simp [List.getD_eq_getElem?_getD, hi2]
  unfold inK ptK
  rw [Bool.eq_iff_iff, Bool.not_eq_true', List.any_eq_false, List.all_eq_true]
  constructor
  · intro h r hr
    have := h r hr
    rw [key r hr, decide_eq_true_eq] at this
    rw [decide_eq_true_eq]; omega
  · intro h r hr
    have := h r hr
    rw [decide_eq_true_eq] at this
    rw [key r hr, decide_eq_true_eq]; omega

/-- What the program finds is one that the rows allow. -/
theorem in_fea {d : Nat} {rows t : List (List Int)} (hl : ∀ r ∈ rows, r.length = d + 1) (hb : mtB d t = true) (hk : inK rows d (mtL d t) = true) : Fea d rows (V (mtL d t)) (V (mtL d t) d) ∧ (mtL d t).length = d + 1 := by
  have hnb : normB (d + 1) t = true := by unfold mtB at hb; rw [Bool.and_eq_true] at hb; exact hb.1
  have hne : (normL (d + 1) t).getD d 0 ≠ 0 := by unfold mtB at hb; rw [Bool.and_eq_true] at hb; simpa using hb.2
  have hpl := mtP_len hnb
  refine ⟨⟨?_, (ptK_iff hl).1 (by rw [← in_ptK hl]; exact hk)⟩, ngR_len hpl⟩
  show 0 < (ngR d (mtP d t)).getD d 0
  rw [ngR_get hpl (by omega), if_pos rfl]
  unfold mtP
  by_cases e : 0 < (normL (d + 1) t).getD d 0
  · rw [if_pos e]
    simp only [List.getD_eq_getElem?_getD, List.getElem?_map] at e ⊢
    cases hz : (normL (d + 1) t)[d]? with
    | none => rw [hz] at e; simp at e
    | some z => rw [hz] at e; simpa using e
  · rw [if_neg e]; omega

end Go.Proofs.YtpbahagfhkpfhaaGreat
