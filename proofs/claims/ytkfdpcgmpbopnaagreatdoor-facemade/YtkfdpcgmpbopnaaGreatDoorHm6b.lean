/- The document's answer: one more list goes in at a place: what the row holds behind it. -/
import Derived.Test.YtkfdpcgmpbopnaaGreatDoorHm6
import Derived.Test.YtkfdpcgmpbopnaaGreatDoorOrd3
import Derived.Laws.CopyOwn
namespace Go.Proofs.YtkfdpcgmpbopnaaGreatDoor
open Go.RowKit

/-- A copy within a row, as one step of a region that draws. -/
theorem step_copy_cells {P : Program} {ops : Array Oper} {o : Oper} {a : Act} {w : World} {K : Act → World → Prop} {Q : Exit → Act → World → Prop} {E : Prop} (hgd : o.guard = none) (d s : Operand) (dT sT : TypeId)
    (ho : o.op = .call { callee := .builtin .copy, args := #[d, s], argTypes := #[dT, sT] }) (elem : TypeId) (hu : P.underlying dT = some (.slice elem)) (hsz : (P.info? elem).map (·.size) = some 1)
    (dp sp : Option Addr) (dLen dCap sLen sCap : Nat) (hd : a.eval d = .slice dp dLen dCap) (hs : a.eval s = .slice sp sLen sCap)
    (g off : Nat) (cs : List Value) (hn : cs.length = Nat.min sLen dLen)
    (hpos : 0 < cs.length → dp = some ⟨g, off, none⟩ ∧ ∃ ad, sp = some ad ∧ ∀ j v, cs[j]? = some v → w.cell? (ad.add j) = some v)
    (hc : ∀ j, j < cs.length → (w.cell? ⟨g, off + j, none⟩).isSome = true) (hf : ∀ j, j < cs.length → w.frozen? ⟨g, off + j, none⟩ = false) (h1 : ∀ v ∈ cs, v.oneCell' = true)
    (h : K (a.put o.dst (goInt cs.length)) (w.setCells g off cs)) :
    if Region.wanted o (yielded ops a.tmps) = true then Oper.wp P o a w K Q else E := by
  have hw : Region.wanted o (yielded ops a.tmps) = true := by simp [Region.wanted, hgd]
  rw [if_pos hw]
  by_cases h0 : cs.length = 0
  · obtain rfl : cs = [] := List.eq_nil_of_length_eq_zero h0
    have hrun := run_copy_none (P := P) w dT sT o.type elem dp sp dLen dCap sLen sCap hu hsz (by simpa using hn.symm)
    unfold Oper.wp
    simp [execOp, ho, resolve, invoke, builtin, hd, hs, hrun, Result.andThen]
    exact h
  · obtain ⟨rfl, ad, rfl, hsrc⟩ := hpos (by omega)
    have hrun := run_copy_cells (P := P) w dT sT o.type elem g off dLen dCap ad sLen sCap cs hu hsz hn hsrc hc hf h1
    unfold Oper.wp
    simp [execOp, ho, resolve, invoke, builtin, hd, hs, hrun, Result.andThen]
    exact h

theorem sl_one {B : Nat} {e : TypeId} {w : World} {v : Value} {xs : List Value} (h : Sl B e w v xs) : v.oneCell' = true := by
  obtain ⟨ao, cap, rfl, _⟩ := h; rfl

theorem putAt_lt {s : List (List Int)} {q : List Int} {p i : Nat} (hp : p ≤ s.length) (hi : i < p) : (putAt s q p).getD i [] = s.getD i [] := by
  unfold putAt
  simp only [List.getD_eq_getElem?_getD]
  rw [List.getElem?_append_left (by simp; omega), List.getElem?_append_left (by simp; omega), List.getElem?_take_of_lt hi]

theorem putAt_at {s : List (List Int)} {q : List Int} {p : Nat} (hp : p ≤ s.length) : (putAt s q p).getD p [] = q := by
  unfold putAt
  simp only [List.getD_eq_getElem?_getD]
  rw [List.getElem?_append_left (by simp; omega), List.getElem?_append_right (by rw [List.length_take]; omega)]
  simp [Nat.min_eq_left hp]

theorem putAt_gt {s : List (List Int)} {q : List Int} {p i : Nat} (hp : p ≤ s.length) (hi : p < i) : (putAt s q p).getD i [] = s.getD (i - 1) [] := by
  unfold putAt
  simp only [List.getD_eq_getElem?_getD]
  rw [List.getElem?_append_right (by simp; omega), List.getElem?_drop]
  congr 2
  simp
  omega

/-- The cells that go over. -/
def overC (f : Nat → Value) (p n : Nat) : List Value := (List.range (n - p)).map fun j => f (p + j)

theorem overC_len (f : Nat → Value) (p n : Nat) : (overC f p n).length = n - p := by simp [overC]

theorem overC_get (f : Nat → Value) (p n j : Nat) (v : Value) (h : (overC f p n)[j]? = some v) : j < n - p ∧ v = f (p + j) := by
  have hj : j < (overC f p n).length := (List.getElem?_eq_some_iff.1 h).1
  rw [overC_len] at hj
  refine ⟨hj, ?_⟩
  unfold overC at h
  rw [List.getElem?_map, List.getElem?_range hj] at h
  simp at h
  exact h.symm

theorem rowIs_same {w w' : World} {g cap : Nat} {e : TypeId} {f : Nat → Value} (h : w.rowIs g e cap f) (hb : w'.heap[g]? = w.heap[g]?) : w'.rowIs g e cap f := by
  obtain ⟨c, h1, h2, h3⟩ := h
  exact ⟨c, hb.trans h1, h2, h3⟩

theorem ins_fr {B N g cap p : Nat} {f : Nat → Value} {s : List (List Int)} {q : List Int} {w3 w5 : World} {u : Value} (hr : RowM w3 g cap f (s ++ [[]])) (hp : p ≤ s.length) (hB : B ≤ g)
    (hb : Below N (w3.setCells g (p + 1) (overC f p s.length)) w5) (hN : w3.heap.size ≤ N) (hu : Sl 0 3 w5 u (ints q)) :
    Fr B 22 3 (w5.setCell ⟨g, p, none⟩ u) (.slice (some ⟨g, 0, none⟩) (s.length + 1) cap) (putAt s q p) := by
  obtain ⟨cur, hcur, _⟩ := hr.row
  have hgs : g < w3.heap.size := lt_of_block hcur
  have ht : Touch g w3 (w3.setCells g (p + 1) (overC f p s.length)) := (Touch.refl _ _).setCells _ _
  have h4 := rowIs_setCells (overC f p s.length) (p + 1) w3 f hr.row
  have h5 := rowIs_same h4 (hb.block g (by omega))
  have h6 := h5.set p u
  obtain ⟨cur5, hcur5, _⟩ := h5
  have hs5 : ∀ i, i < (s ++ [[]]).length → Sl 0 3 (w5.setCell ⟨g, p, none⟩ u) (f i) (ints ((s ++ [[]]).getD i [])) := fun i hi =>
    ((ht.sl hcur (hr.inn i hi)).below hb (by rw [ht.size]; exact hN)).setCell u ⟨Nat.zero_le _, fun c hc => by rw [hcur5] at hc; simp at hc⟩
  have hsL : ∀ i, i < s.length → (s ++ [[]]).getD i [] = s.getD i [] := fun i hi => by
    simp only [List.getD_eq_getElem?_getD]; rw [List.getElem?_append_left hi]
  have hc1 := hr.cap1
  simp at hc1
  have hrm : RowM (w5.setCell ⟨g, p, none⟩ u) g cap (fun i => if i = p then u else (if p + 1 ≤ i ∧ i < p + 1 + (overC f p s.length).length then (overC f p s.length)[i - (p + 1)]?.getD default else f i)) (putAt s q p) := by
    refine ⟨h6, by rw [putAt_len hp]; exact hc1, hr.cap2, fun i hi => ?_⟩
    rw [putAt_len hp] at hi
    by_cases hip : i = p
    · subst hip
      simp only [if_true]
      rw [putAt_at hp]
      exact hu.setCell u ⟨Nat.zero_le _, fun c hc => by rw [hcur5] at hc; simp at hc⟩
    · simp only [hip, if_false]
      by_cases hlt : i < p
      · simp only [show ¬ p + 1 ≤ i by omega, false_and, if_false]
        rw [putAt_lt hp hlt, ← hsL i (by omega)]
        exact hs5 i (by simp; omega)
      · rw [overC_len, if_pos ⟨by omega, by omega⟩]
        have e : (overC f p s.length)[i - (p + 1)]?.getD default = f (i - 1) := by
          unfold overC
          rw [List.getElem?_map, List.getElem?_range (by omega)]
          simp only [Option.map_some, Option.getD_some]
          congr 1
          omega
        rw [e, putAt_gt hp (by omega), ← hsL (i - 1) (by omega)]
        exact hs5 (i - 1) (by simp; omega)
  have := hrm.fr hB
  rw [putAt_len hp] at this
  exact this

end Go.Proofs.YtkfdpcgmpbopnaaGreatDoor
