/- Where rows hold at all, they hold at a place where so many of them are met, or numbers are 0, that there is no other one (pure). -/
import Derived.Test.YtpbahagfhkpfhaaGreatFkA
import Derived.Test.YtpbahagfhkpfhaaGreatRfY
import Derived.Test.YtpbahagfhkpfhaaGreatCvY
namespace Go.Proofs.YtpbahagfhkpfhaaGreat
open Lin

/-- All rows hold at x by w. -/
def Fea (d : Nat) (rows : List (List Int)) (x : Nat → Int) (w : Int) : Prop := 0 < w ∧ ∀ r ∈ rows, dot d (V r) x ≤ V r d * w

theorem dot_last (d : Nat) (a x : Nat → Int) : dot (d + 1) a x = dot d a x + a d * x d := rfl

theorem ref_last (d : Nat) (c : Nat → Int) : dot (refG d).length c (V (refG d)) = - c d := by
  rw [refG_len, dot_last]
  have h0 : dot d c (V (refG d)) = 0 := by
    rw [dot_comm]
    refine dot_zero fun i hi => ?_
    simp [V, refG, show i < d + 1 by omega, show ¬ i = d by omega]
  have h1 : V (refG d) d = -1 := by simp [V, refG]
  rw [h0, h1]; omega

/-- A cut is empty just if its rows hold nowhere. -/
theorem emp_fea {d : Nat} {rows : List (List Int)} : empB d rows = false ↔ ∃ x w, Fea d rows x w := by
  have he : empB d rows = false ↔ waysL rows (refG d) = [] := by
    unfold empB
    cases waysL rows (refG d) <;> simp
  rw [he, ways_none]
  constructor
  · rintro ⟨c, h1, h2⟩
    rw [ref_last] at h2
    refine ⟨c, - c d, h2, fun r hr => ?_⟩
    have := h1 r hr
    rw [refG_len, dot_last, dot_comm] at this
    have e : V r d * - c d = -(c d * V r d) := by grind
    omega
  · rintro ⟨x, w, hw, h⟩
    refine ⟨fun k => if k = d then -w else x k, fun r hr => ?_, ?_⟩
    · have h1 := h r hr
      rw [refG_len, dot_last]
      simp only [if_true]
      have e : dot d (fun k => if k = d then -w else x k) (V r) = dot d (V r) x := by
        rw [dot_comm]
        exact dot_congr (fun _ _ => rfl) fun i hi => by rw [if_neg (by omega)]
      rw [e]
      have e2 : -w * V r d = -(V r d * w) := by grind
      omega
    · rw [ref_last]
      simp only [if_true]; omega

theorem pick_sub (c : Nat) (m : List (List Int)) : (pickL c m).Sublist m := by
  have : ∀ (m h : List (List Int)), ∃ s, s.Sublist m ∧ m.foldl (fun h r => if freeL c (h ++ [r]) then h ++ [r] else h) h = h ++ s := by
    intro m
    induction m with
    | nil => intro h; exact ⟨[], List.Sublist.refl _, by simp⟩
    | cons x m ih =>
      intro h
      rw [List.foldl_cons]
      by_cases hf : freeL c (h ++ [x]) = true
      · rw [if_pos hf]
        obtain ⟨s, hs, he⟩ := ih (h ++ [x])
        exact ⟨x :: s, hs.cons_cons _, by rw [he]; simp⟩
      · rw [if_neg hf]
        obtain ⟨s, hs, he⟩ := ih h
        exact ⟨s, hs.cons _, he⟩
  obtain ⟨s, hs, he⟩ := this m []
  unfold pickL
  rw [he]; simpa using hs

theorem ng_dot {d : Nat} {r : List Int} (hr : r.length = d + 1) (u : Nat → Int) : dot (d + 1) (V (ngR d r)) u = dot d (V r) u - V r d * u d := by
  rw [dot_last]
  have e1 : dot d (V (ngR d r)) u = dot d (V r) u := dot_congr (fun i hi => by unfold V; rw [ngR_get hr (by omega), if_neg (by omega)]) fun _ _ => rfl
  have e2 : V (ngR d r) d = - V r d := by unfold V; rw [ngR_get hr (by omega), if_pos rfl]
  rw [e1, e2]; grind

theorem dotL_take {d : Nat} {r : List Int} (hr : r.length = d + 1) (y : List Int) : dotL (r.take d) y = dot d (V r) (V y) := by
  unfold dotL dot
  rw [List.length_take, hr, show min d (d + 1) = d by omega]
  refine sumN_congr fun i hi => ?_
  unfold V
  rw [List.getD_eq_getElem?_getD, List.getElem?_take_of_lt hi, List.getD_eq_getElem?_getD, List.getD_eq_getElem?_getD]

theorem ptK_iff {d : Nat} {rows : List (List Int)} (hl : ∀ r ∈ rows, r.length = d + 1) {y : List Int} : ptK rows d y = true ↔ ∀ r ∈ rows, dot d (V r) (V y) ≤ V r d * V y d := by
  unfold ptK
  rw [List.all_eq_true]
  constructor
  · intro h r hr
    have := h r hr
    rw [decide_eq_true_eq, dotL_take (hl r hr)] at this
    exact this
  · intro h r hr
    rw [decide_eq_true_eq, dotL_take (hl r hr)]
    exact h r hr

/-- What so many independent rows that are met at c give. -/
theorem pt_at {d : Nat} {rows t : List (List Int)} {c : Nat → Int} (hl : ∀ r ∈ rows, r.length = d + 1) (ht : ∀ r ∈ t, r.length = d + 1) (hcd : 0 < c d) (hfea : ∀ r ∈ rows, dot d (V r) c ≤ V r d * c d)
    (hmet : ∀ r ∈ t, dot d (V r) c = V r d * c d) (hspan : ∀ v : Nat → Int, (∀ r ∈ t, dot d (V r) v = 0) → ∀ i, i < d → v i = 0) : ∃ y, ptT rows d t = some y ∧ 0 < V y d ∧ ∀ i, i < d + 1 → V y i * c d = c i * V y d := by
  have hone : OneDir (d + 1) (t.map (ngR d)) := by
    refine ⟨c, ⟨d, by omega, by omega⟩, fun r hr => ?_, fun u hu => ?_⟩
    · obtain ⟨q, hq, rfl⟩ := List.mem_map.1 hr
      rw [ng_dot (ht q hq), hmet q hq]; omega
    · have hz := hspan (fun k => c d * u k + (-(u d)) * c k) fun r hr => by
        have h1 := hu (ngR d r) (List.mem_map.2 ⟨r, hr, rfl⟩)
        rw [ng_dot (ht r hr)] at h1
        have h2 := hmet r hr
        rw [dot_comm, dot_lc, dot_comm d u, dot_comm d c, h2]
        have h3 : dot d (V r) u = V r d * u d := by omega
        rw [h3]; grind
      have key : ∀ i, i < d + 1 → c d * u i = u d * c i := fun i hi => by
        by_cases e : i = d
        · rw [e]; exact Int.mul_comm _ _
        · have := hz i (by omega)
          grind
      intro i j hi hj
      have e : c d * (u i * c j - u j * c i) = 0 := by
        have : c d * (u i * c j - u j * c i) = (c d * u i) * c j - (c d * u j) * c i := by grind
        rw [this, key i hi, key j hj]; grind
      rcases Int.mul_eq_zero.1 e with h | h
      · omega
      · omega
  have hb := norm_one_iff.2 hone
  have hlen : (pickL (d + 1) (t.map (ngR d))).length + 1 = d + 1 := by simpa [normB] using hb
  obtain ⟨⟨p, hp, hne⟩, _, hpar⟩ := norm_spec hlen
  have hck : ∀ r ∈ t.map (ngR d), dot (d + 1) (V r) c = 0 := fun r hr => by
    obtain ⟨q, hq, rfl⟩ := List.mem_map.1 hr
    rw [ng_dot (ht q hq), hmet q hq]; omega
  have hp2 := hpar c hck
  have hMd : V (normL (d + 1) (t.map (ngR d))) d ≠ 0 := fun e => by
    have := hp2 p d hp (by omega)
    rw [e, Int.mul_zero] at this
    rcases Int.mul_eq_zero.1 this.symm with h | h
    · omega
    · exact hne h
  -- which way it looks
  have hy : 0 < V (ptY d t) d ∧ ∀ i, i < d + 1 → V (ptY d t) i * c d = c i * V (ptY d t) d := by
    unfold ptY
    have hMd' : (normL (d + 1) (t.map (ngR d))).getD d 0 ≠ 0 := hMd
    by_cases hn : (normL (d + 1) (t.map (ngR d))).getD d 0 < 0
    · rw [if_pos hn]
      have hn' : V (normL (d + 1) (t.map (ngR d))) d < 0 := hn
      refine ⟨by rw [V_neg]; omega, fun i hi => ?_⟩
      have := hp2 i d hi (by omega)
      rw [V_neg, V_neg]
      grind
    · rw [if_neg hn]
      have hn' : ¬ V (normL (d + 1) (t.map (ngR d))) d < 0 := hn
      refine ⟨by omega, fun i hi => ?_⟩
      have := hp2 i d hi (by omega)
      grind
  have hK : ∀ r ∈ rows, dot d (V r) (V (ptY d t)) ≤ V r d * V (ptY d t) d := fun r hr => by
    have h1 := hfea r hr
    have e : dot d (V r) (V (ptY d t)) * c d = dot d (V r) c * V (ptY d t) d := by
      unfold dot
      rw [← sumN_mul_right, ← sumN_mul_right]
      refine sumN_congr fun i hi => ?_
      have := hy.2 i (by omega)
      grind
    have h2 : dot d (V r) (V (ptY d t)) * c d ≤ V r d * V (ptY d t) d * c d := by
      rw [e]
      have := Int.mul_le_mul_of_nonneg_right h1 (Int.le_of_lt hy.1)
      have e2 : V r d * V (ptY d t) d * c d = V r d * c d * V (ptY d t) d := by grind
      omega
    exact Int.le_of_mul_le_mul_right h2 hcd
  refine ⟨ptY d t, ?_, hy.1, hy.2⟩
  unfold ptT
  rw [if_pos ⟨hb, hMd, (ptK_iff hl).2 hK⟩]

/-- A place that comes of a choice keeps all rows. -/
theorem pt_fea {d : Nat} {rows t : List (List Int)} {y : List Int} (hl : ∀ r ∈ rows, r.length = d + 1) (h : ptT rows d t = some y) : Fea d rows (V y) (V y d) := by
  unfold ptT at h
  split at h
  case isTrue hc =>
    simp only [Option.some.injEq] at h
    subst h
    refine ⟨?_, (ptK_iff hl).1 hc.2.2⟩
    have hne := hc.2.1
    unfold ptY
    by_cases hn : (normL (d + 1) (t.map (ngR d))).getD d 0 < 0
    · rw [if_pos hn, V_neg]
      have hn' : V (normL (d + 1) (t.map (ngR d))) d < 0 := hn
      omega
    · rw [if_neg hn]
      have h1 : V (normL (d + 1) (t.map (ngR d))) d ≠ 0 := hne
      have h2 : ¬ V (normL (d + 1) (t.map (ngR d))) d < 0 := hn
      omega
  case isFalse => cases h

end Go.Proofs.YtpbahagfhkpfhaaGreat
