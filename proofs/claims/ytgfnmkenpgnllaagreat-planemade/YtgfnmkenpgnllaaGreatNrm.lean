/- The normal of rows: what it is, and when there is one; a way by rows. -/
import Derived.Test.YtgfnmkenpgnllaaGreatWay1
import Derived.Test.YtgfnmkenpgnllaaGreatRow3
import Derived.Test.YtgfnmkenpgnllaaGreatLinAll

namespace Go.Proofs.YtgfnmkenpgnllaaGreat
open Lin

def V (l : List Int) : Nat → Int := fun j => l.getD j 0

theorem V_neg (l : List Int) (i : Nat) : V (l.map fun z => -z) i = - V l i := by
  simp only [V, List.getD_eq_getElem?_getD, List.getElem?_map]
  cases l[i]? <;> simp

theorem mem_fm {m : List (List Int)} {r : Nat → Int} : r ∈ fm m ↔ ∃ l ∈ m, r = V l := by
  simp only [fm, List.mem_map]
  constructor
  · rintro ⟨l, hl, rfl⟩; exact ⟨l, hl, rfl⟩
  · rintro ⟨l, hl, rfl⟩; exact ⟨l, hl, rfl⟩

/-- The normal is so many times what the minors tell. -/
theorem norm_par {d : Nat} {m : List (List Int)} (hl : (pickL d m).length + 1 = d) : ∃ k : Int, k ≠ 0 ∧ ∀ i, i < d → mu (fm (pickL d m)) i = k * V (normL d m) i := by
  have hg := pick_greedy d m
  have hl' : (fm (pickL d m)).length + 1 = d := by rw [fm_length]; exact hl
  obtain ⟨⟨p, hp, hne⟩, _, _⟩ := greedy_one hg hl'
  have hn : normL d m = upr (low (muL d (pickL d m))) := if_pos hl
  rw [hn]
  have hat : ∀ i, i < d → V (muL d (pickL d m)) i = mu (fm (pickL d m)) i := fun i hi => by simp [V, muL, hi]
  generalize muL d (pickL d m) = l at *
  have hll : ∀ i, i < d → V l i ∈ l ∨ V l i = 0 := fun i _ => by
    by_cases h : i < l.length
    · exact Or.inl (getD_mem h)
    · right; simp only [V, List.getD_eq_getElem?_getD]; rw [List.getElem?_eq_none (by omega)]; rfl
  have hdv : ∀ i, i < d → ((gc l : Nat) : Int) ∣ V l i := fun i hi => by
    rcases hll i hi with h | h
    · exact gc_dvd h
    · rw [h]; exact Int.dvd_zero _
  have hg0 : ((gc l : Nat) : Int) ≠ 0 := by
    intro h0
    have h1 := hdv p hp
    rw [h0] at h1
    have h2 := Int.zero_dvd.1 h1
    rw [hat p hp] at h2
    exact hne h2
  have hlow : ∀ i, i < d → V l i = ((gc l : Nat) : Int) * V (low l) i := fun i hi => by
    have e : V (low l) i = V l i / ((gc l : Nat) : Int) := by
      simp only [V, low, List.getD_eq_getElem?_getD, List.getElem?_map]
      cases l[i]? <;> simp
    rw [e, Int.mul_ediv_cancel' (hdv i hi)]
  unfold upr
  split
  · refine ⟨-((gc l : Nat) : Int), by omega, fun i hi => ?_⟩
    rw [V_neg, ← hat i hi, hlow i hi]; grind
  · exact ⟨((gc l : Nat) : Int), hg0, fun i hi => by rw [← hat i hi, hlow i hi]⟩


theorem upr_first (l : List Int) : 0 ≤ ((upr l).find? (fun v => v != 0)).getD 0 := by
  unfold upr
  split
  · rename_i h
    rw [find_neg]
    omega
  · rename_i h
    omega

/-- What the normal is. -/
theorem norm_spec {d : Nat} {m : List (List Int)} (hl : (pickL d m).length + 1 = d) :
    (∃ i, i < d ∧ V (normL d m) i ≠ 0) ∧ (∀ r ∈ m, dot d (V r) (V (normL d m)) = 0) ∧ ∀ u : Nat → Int, (∀ r ∈ m, dot d (V r) u = 0) → Par d u (V (normL d m)) := by
  have hl' : (fm (pickL d m)).length + 1 = d := by rw [fm_length]; exact hl
  obtain ⟨⟨p, hp, hne⟩, h1, h2⟩ := greedy_one (pick_greedy d m) hl'
  obtain ⟨k, hk, hmu⟩ := norm_par hl
  refine ⟨⟨p, hp, fun e => hne (by rw [hmu p hp, e, Int.mul_zero])⟩, fun r hr => ?_, fun u hu i j hi hj => ?_⟩
  · have h := h1 (V r) (mem_fm.2 ⟨r, hr, rfl⟩)
    have e : dot d (V r) (mu (fm (pickL d m))) = k * dot d (V r) (V (normL d m)) := by
      unfold dot
      rw [← sumN_mul]
      exact sumN_congr fun i hi => by rw [hmu i hi]; grind
    rw [e] at h
    exact (Int.mul_eq_zero.1 h).resolve_left hk
  · have h := h2 u (fun r hr => by
      obtain ⟨l, hl, rfl⟩ := mem_fm.1 hr
      exact hu l hl) i j hi hj
    rw [hmu i hi, hmu j hj] at h
    have : k * (u i * V (normL d m) j) = k * (u j * V (normL d m) i) := by grind
    exact Int.eq_of_mul_eq_mul_left hk this

/-- There is a way by just these rows: one alone, and above 0 of each. -/
theorem wayB_iff {g : List Int} {rs : List (List Int)} : wayB g rs = true ↔ ∃ a : Nat → Int, (∀ i, i < rs.length + 1 → 0 < a i) ∧ (∀ r ∈ acrL g rs, dot (rs.length + 1) (V r) a = 0) ∧
    ∀ u : Nat → Int, (∀ r ∈ acrL g rs, dot (rs.length + 1) (V r) u = 0) → Par (rs.length + 1) u a := by
  constructor
  · intro h
    unfold wayB at h
    rw [Bool.and_eq_true] at h
    obtain ⟨hb, hn⟩ := h
    have hl : (pickL (rs.length + 1) (acrL g rs)).length + 1 = rs.length + 1 := by simpa [normB] using hb
    obtain ⟨_, h1, h2⟩ := norm_spec hl
    refine ⟨V (normL (rs.length + 1) (acrL g rs)), fun i hi => ?_, h1, h2⟩
    have hlen := norm_len hb
    have hm : (normL (rs.length + 1) (acrL g rs)).getD i 0 ∈ wayN g rs := getD_mem (by unfold wayN; rw [hlen]; exact hi)
    have hn' : (wayN g rs).any lowB = false := by simpa using hn
    rw [List.any_eq_false] at hn'
    have := hn' _ hm
    simp only [lowB, decide_eq_true_eq] at this
    show 0 < (normL (rs.length + 1) (acrL g rs)).getD i 0
    omega
  · rintro ⟨a, hpos, h0, h1⟩
    have hg := pick_greedy (rs.length + 1) (acrL g rs)
    have hc := greedy_count hg (a := a) ⟨0, by omega, by have := hpos 0 (by omega); omega⟩ (fun r hr => by
      obtain ⟨l, hl, rfl⟩ := mem_fm.1 hr
      exact h0 l hl) (fun u hu => h1 u (fun r hr => hu (V r) (mem_fm.2 ⟨r, hr, rfl⟩)))
    rw [fm_length] at hc
    have hb : normB (rs.length + 1) (acrL g rs) = true := by simpa [normB] using hc
    obtain ⟨⟨p, hp, hne⟩, h2, _⟩ := norm_spec hc
    have hpar := h1 _ h2
    have hlen := norm_len hb
    have hn0 : V (normL (rs.length + 1) (acrL g rs)) 0 ≠ 0 := fun e => by
      have h3 := hpar p 0 hp (by omega)
      rw [e, Int.zero_mul] at h3
      have := hpos 0 (by omega)
      rcases Int.mul_eq_zero.1 h3 with h | h
      · exact hne h
      · omega
    have hf : 0 < V (normL (rs.length + 1) (acrL g rs)) 0 := by
      have h3 := upr_first (low (muL (rs.length + 1) (pickL (rs.length + 1) (acrL g rs))))
      have h4 : upr (low (muL (rs.length + 1) (pickL (rs.length + 1) (acrL g rs)))) = normL (rs.length + 1) (acrL g rs) := (if_pos hc).symm
      rw [h4, find_at (t := 0) (by rw [hlen]; omega) (fun i hi => absurd hi (by omega)) hn0] at h3
      have : V (normL (rs.length + 1) (acrL g rs)) 0 = (normL (rs.length + 1) (acrL g rs)).getD 0 0 := rfl
      omega
    have hall : ∀ i, i < rs.length + 1 → 0 < V (normL (rs.length + 1) (acrL g rs)) i := fun i hi => by
      have h3 := hpar i 0 hi (by omega)
      have h4 := hpos 0 (by omega)
      have h5 := hpos i hi
      have h6 : 0 < V (normL (rs.length + 1) (acrL g rs)) i * a 0 := by rw [h3]; exact Int.mul_pos hf h5
      exact Int.pos_of_mul_pos_left h6 h4
    unfold wayB
    rw [Bool.and_eq_true]
    refine ⟨hb, ?_⟩
    have : (wayN g rs).any lowB = false := by
      rw [List.any_eq_false]
      intro z hz
      obtain ⟨i, hi, rfl⟩ := List.getElem_of_mem hz
      have h3 := hall i (by unfold wayN at hi; omega)
      have h4 : V (normL (rs.length + 1) (acrL g rs)) i = (wayN g rs)[i] := by
        show (wayN g rs).getD i 0 = _
        simp [hi]
      rw [h4] at h3
      simp only [lowB, decide_eq_true_eq]
      omega
    simp [this]

end Go.Proofs.YtgfnmkenpgnllaaGreat
