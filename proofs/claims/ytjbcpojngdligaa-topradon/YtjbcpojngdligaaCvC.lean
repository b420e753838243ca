import Derived.Test.YtjbcpojngdligaaCvA
import Derived.Test.YtjbcpojngdligaaWysA
import Derived.Test.YtjbcpojngdligaaRowA
import Derived.Test.YtjbcpojngdligaaPaA
import Derived.Test.YtjbcpojngdligaaRefA
/- What lies between points, choice by choice, as the document goes through them (pure). -/
namespace Go.Proofs.Ytjbcpojngdligaa
open Lin

theorem ext_none : ∀ (k n fr : Nat), n < fr + (k + 1) → ext n (k + 1) fr = []
  | 0, n, fr, h => ext_end (by omega)
  | k + 1, n, fr, h => by
    simp only [ext]
    rw [List.flatMap_eq_nil_iff]
    intro i hi
    rw [List.mem_range'_1] at hi
    have := ext_none k n (i + 1) (by omega)
    simp only [ext] at this
    rw [this]; rfl

/-- A 1 behind. -/
def oneR (r : List Int) : List Int := r ++ [1]
theorem oneR_len (r : List Int) : (oneR r).length = r.length + 1 := by simp [oneR]

/-- The columns, 1 below. -/
def onesT (d : Nat) (q : List (List Int)) : List (List Int) := (List.range d).map (fun k => q.map fun r => r.getD k 0) ++ [onesL q.length]

theorem map_ones (q : List (List Int)) : (q.map fun _ => (1 : Int)) = onesL q.length := by
  apply List.ext_getElem
  · simp [onesL]
  · intro i h1 h2; simp [onesL]

theorem oneR_lt {r : List Int} {k : Nat} (h : k < r.length) : (oneR r).getD k 0 = r.getD k 0 := by
  unfold oneR
  rw [List.getD_eq_getElem?_getD, List.getElem?_append_left h, List.getD_eq_getElem?_getD]

theorem oneR_at (r : List Int) : (oneR r).getD r.length 0 = 1 := by
  unfold oneR
  rw [List.getD_eq_getElem?_getD, List.getElem?_append_right (Nat.le_refl _)]; simp

theorem doc_ones {d : Nat} {x : List Int} {rs : List (List Int)} (hx : x.length = d) (hr : ∀ r ∈ rs, r.length = d) : docL (oneR x) (rs.map oneR) = onesT d (rs ++ [x]) := by
  have hall : ∀ r ∈ rs ++ [x], r.length = d := fun r h => by
    rcases List.mem_append.1 h with h | h
    · exact hr r h
    · simp at h; rw [h]; exact hx
  have e0 : rs.map oneR ++ [oneR x] = (rs ++ [x]).map oneR := by simp
  unfold docL onesT
  rw [oneR_len, hx, List.range_succ, List.map_append]
  congr 1
  · refine List.map_congr_left fun k hk => ?_
    rw [List.mem_range] at hk
    unfold docR
    rw [e0, List.map_map]
    refine List.map_congr_left fun r h => ?_
    show (oneR r).getD k 0 = _
    exact oneR_lt (by rw [hall r h]; exact hk)
  · simp only [List.map_cons, List.map_nil, List.cons.injEq, and_true]
    unfold docR
    rw [e0, List.map_map, ← map_ones]
    refine List.map_congr_left fun r h => ?_
    show (oneR r).getD d 0 = 1
    rw [← hall r h]
    exact oneR_at r

/-- The document's normal, its last number not above 0. -/
def docM (k : Nat) (M : List Int) : List Int := if 0 < V M k then M.map (fun z => -z) else M
def docG (k : Nat) (M : List Int) : Bool := decide (V (docM k M) k < 0) && (List.range k).all fun j => decide (0 < V (docM k M) j)

theorem docM_good {k : Nat} {M : List Int} {s : Int} (h : GoodK k M s) : ∀ j, V (docM k M) j = s * V M j := by
  obtain ⟨hs, h1, _⟩ := h
  intro j
  unfold docM
  rcases hs with rfl | rfl
  · rw [if_neg (by omega)]; omega
  · rw [if_pos (by omega), V_neg]; omega

theorem docG_iff {k : Nat} {M : List Int} : docG k M = true ↔ ∃ s, GoodK k M s := by
  constructor
  · intro h
    simp only [docG, Bool.and_eq_true, decide_eq_true_eq, List.all_eq_true, List.mem_range] at h
    unfold docM at h
    by_cases h0 : 0 < V M k
    · rw [if_pos h0] at h
      refine ⟨-1, Or.inr rfl, by omega, fun j hj => ?_⟩
      have := h.2 j hj
      rw [V_neg] at this
      omega
    · rw [if_neg h0] at h
      exact ⟨1, Or.inl rfl, by omega, fun j hj => by have := h.2 j hj; omega⟩
  · rintro ⟨s, h⟩
    have hm := docM_good h
    simp only [docG, Bool.and_eq_true, decide_eq_true_eq, List.all_eq_true, List.mem_range]
    exact ⟨by rw [hm]; exact h.2.1, fun j hj => by rw [hm]; exact h.2.2 j hj⟩

theorem docM_len (k : Nat) (M : List Int) : (docM k M).length = M.length := by unfold docM; split <;> simp

theorem docM_tak {k : Nat} {M : List Int} {s : Int} (hl : M.length = k + 1) (h : GoodK k M s) : takK k M s = (docM k M).take k ++ [-(V (docM k M) k)] := by
  have hm := docM_good h
  have hdl : (docM k M).length = k + 1 := by rw [docM_len, hl]
  have hget : ∀ i (hi : i < (docM k M).length), (docM k M)[i] = s * V M i := fun i hi => by
    rw [← hm i]; simp [V, hi]
  rw [hm k]
  apply List.ext_getElem
  · simp [takK, hdl]
  · intro i h1 h2
    have hi : i < k + 1 := by simpa [takK] using h1
    simp only [takK, List.getElem_map, List.getElem_range]
    by_cases e : i = k
    · subst e
      rw [List.getElem_append_right (by simp [hdl])]
      simp [turnK]
    · rw [List.getElem_append_left (by simp [hdl]; omega), List.getElem_take, hget]
      simp [turnK, e]

/-- Does a place lie between chosen points, as the document tells it? -/
def betB (d : Nat) (p : List (List Int)) (x : List Int) (c : List Int) : Bool :=
  normB (c.length + 1) (onesT d (pks p [] c ++ [x])) && docG c.length (normL (c.length + 1) (onesT d (pks p [] c ++ [x])))

theorem pks_lenV {α : Type} (L : List α) (e : α) (c : List Int) : (pks L e c).length = c.length := by simp [pks]

theorem pks_one {p : List (List Int)} {c : List Int} {k : Nat} (hc : c ∈ ext p.length k 0) : pks (p.map oneR) [] c = (pks p [] c).map oneR := by
  obtain ⟨h1, h2, _⟩ := ext_rise hc
  unfold pks
  rw [List.map_map]
  refine List.map_congr_left fun i hi => ?_
  obtain ⟨t, ht, rfl⟩ := List.getElem_of_mem hi
  have := h2 t (by omega)
  have e : c.getD t 0 = c[t] := by simp [ht]
  rw [e] at this
  have hlt : (c[t]).toNat < p.length := by omega
  show (p.map oneR).getD (c[t]).toNat [] = oneR (p.getD (c[t]).toNat [])
  simp [hlt]

theorem pks_rows {d : Nat} {p : List (List Int)} {c : List Int} {k : Nat} (hp : ∀ r ∈ p, r.length = d) (hc : c ∈ ext p.length k 0) : ∀ r ∈ pks p [] c, r.length = d := by
  obtain ⟨h1, h2, _⟩ := ext_rise hc
  intro r hr
  simp only [pks, List.mem_map] at hr
  obtain ⟨i, hi, rfl⟩ := hr
  obtain ⟨t, ht, rfl⟩ := List.getElem_of_mem hi
  have := h2 t (by omega)
  have e : c.getD t 0 = c[t] := by simp [ht]
  rw [e] at this
  have hlt : (c[t]).toNat < p.length := by omega
  exact hp _ (by simp [hlt])

theorem bet_way {d k : Nat} {p : List (List Int)} {x c : List Int} (hx : x.length = d) (hp : ∀ r ∈ p, r.length = d) (hc : c ∈ ext p.length k 0) : wayB (oneR x) (pks (p.map oneR) [] c) = betB d p x c := by
  rw [Bool.eq_iff_iff, way_good, pks_one hc, doc_ones hx (pks_rows hp hc)]
  unfold betB
  rw [Bool.and_eq_true, docG_iff, List.length_map, pks_lenV]

theorem bet_take {d k : Nat} {p : List (List Int)} {x c : List Int} (hx : x.length = d) (hp : ∀ r ∈ p, r.length = d) (hc : c ∈ ext p.length k 0) (hb : betB d p x c = true) :
    wayN (oneR x) (pks (p.map oneR) [] c) = (docM c.length (normL (c.length + 1) (onesT d (pks p [] c ++ [x])))).take c.length ++ [-(V (docM c.length (normL (c.length + 1) (onesT d (pks p [] c ++ [x])))) c.length)] := by
  unfold betB at hb
  rw [Bool.and_eq_true] at hb
  obtain ⟨s, hs⟩ := docG_iff.1 hb.2
  have e := doc_ones hx (pks_rows hp hc)
  have el : ((pks p [] c).map oneR).length = c.length := by simp [pks]
  rw [pks_one hc]
  rw [way_takes (s := s) (by rw [e, el]; exact hb.1) (by rw [e, el]; exact hs), e, el]
  exact docM_tak (norm_len hb.1) hs

/-- The choices between which a place lies, the fewest points first, of up to k points. -/
def betTo (d : Nat) (p : List (List Int)) (x : List Int) (k : Nat) : List (List Int) := (List.range k).flatMap fun m => (ext p.length (m + 1) 0).filter (betB d p x)

theorem way_none {x : List Int} : wayB (oneR x) [] = false := by
  rw [Bool.eq_false_iff]
  intro h
  obtain ⟨a, hpos, h0, _⟩ := wayB_iff.1 h
  have h1 := hpos 0 (by simp)
  have h2 := h0 (acrR [] (oneR x) x.length) (by
    simp only [acrL, List.mem_map, List.mem_range]
    exact ⟨x.length, by rw [oneR_len]; omega, rfl⟩)
  simp only [acrR, List.map_nil, List.nil_append, List.length_nil, dot, sumN, V, oneR_at] at h2
  simp at h2
  omega

theorem ways_bet {d : Nat} {p : List (List Int)} {x : List Int} (hx : x.length = d) (hp : ∀ r ∈ p, r.length = d) : waysL (p.map oneR) (oneR x) = betTo d p x (d + 1) := by
  have e1 : ∀ m, ((ext (p.map oneR).length (m + 1) 0).filter fun c => wayB (oneR x) (pks (p.map oneR) [] c)) = (ext p.length (m + 1) 0).filter (betB d p x) := fun m => by
    rw [List.length_map]
    exact List.filter_congr fun c hc => bet_way hx hp hc
  unfold waysL waysTo betTo
  rw [List.range_succ_eq_map, List.flatMap_cons, List.flatMap_map]
  have e0 : ((ext (p.map oneR).length 0 0).filter fun c => wayB (oneR x) (pks (p.map oneR) [] c)) = [] := by
    simp [ext, pks, way_none]
  rw [e0, List.nil_append]
  simp only [Nat.succ_eq_add_one, e1]
  rw [oneR_len, hx, List.length_map]
  by_cases h : d + 1 ≤ p.length
  · rw [Nat.min_eq_left h]
  · obtain ⟨t, ht⟩ : ∃ t, d + 1 = p.length + t := ⟨d + 1 - p.length, by omega⟩
    rw [Nat.min_eq_right (by omega), ht, List.range_add, List.flatMap_append, List.flatMap_map]
    have : (List.range t).flatMap (fun m => (ext p.length (p.length + m + 1) 0).filter (betB d p x)) = [] := by
      rw [List.flatMap_eq_nil_iff]
      intro m _
      rw [ext_none _ _ _ (by omega)]; rfl
    rw [this, List.append_nil]

end Go.Proofs.Ytjbcpojngdligaa

/- The document's Ones. -/
namespace Go.Proofs.Ytjbcpojngdligaa
open Go.RowKit
attribute [local go_sem ↓] Go.wp_at_zero Go.wp_at_succ

end Go.Proofs.Ytjbcpojngdligaa
