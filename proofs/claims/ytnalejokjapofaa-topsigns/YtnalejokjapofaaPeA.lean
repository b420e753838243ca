import Derived.Test.YtnalejokjapofaaRefC
import Derived.Test.YtnalejokjapofaaRowB
import Derived.Test.YtnalejokjapofaaRowA
import Derived.Test.YtnalejokjapofaaDatA
import Derived.Deep.OwnRows
/- What a choice of rows gives: the place where they are met, if there is one alone and it keeps all rows (pure). -/
namespace Go.Proofs.Ytnalejokjapofaa

/-- A row whose last number has the other sign. -/
def ngR (d : Nat) (r : List Int) : List Int := r.take d ++ [-(r.getD d 0)]

theorem ngR_len {d : Nat} {r : List Int} (h : r.length = d + 1) : (ngR d r).length = d + 1 := by simp [ngR, h]

theorem ngR_get {d i : Nat} {r : List Int} (h : r.length = d + 1) (hi : i < d + 1) : (ngR d r).getD i 0 = if i = d then -(r.getD d 0) else r.getD i 0 := by
  unfold ngR
  by_cases e : i = d
  · subst e
    rw [if_pos rfl]
    simp [List.getD_eq_getElem?_getD, h]
  · rw [if_neg e]
    have hi2 : i < (r.take d).length := by simp [h]; omega
    rw [List.getD_eq_getElem?_getD, List.getElem?_append_left hi2, List.getElem?_take_of_lt (by omega), ← List.getD_eq_getElem?_getD]

/-- What a choice of rows gives: the place where they are met, if there is one alone and it keeps all rows. -/
def ptY (d : Nat) (t : List (List Int)) : List Int :=
  if (normL (d + 1) (t.map (ngR d))).getD d 0 < 0 then (normL (d + 1) (t.map (ngR d))).map (fun z => -z) else normL (d + 1) (t.map (ngR d))

def ptK (R : List (List Int)) (d : Nat) (y : List Int) : Bool := R.all fun r => decide (dotL (r.take d) y ≤ r.getD d 0 * y.getD d 0)

def ptT (R : List (List Int)) (d : Nat) (t : List (List Int)) : Option (List Int) :=
  if normB (d + 1) (t.map (ngR d)) = true ∧ (normL (d + 1) (t.map (ngR d))).getD d 0 ≠ 0 ∧ ptK R d (ptY d t) = true then some (ptY d t) else none

def ptsTo (R : List (List Int)) (d : Nat) (C : List (List Int)) (i : Nat) : List (List Int) := (C.take i).flatMap fun c => (ptT R d (pks R [] c)).toList
def ptsD (R : List (List Int)) (d : Nat) : List (List Int) := (chosenL d R.length).flatMap fun c => (ptT R d (pks R [] c)).toList

theorem ptsTo_succ (R C : List (List Int)) (d i : Nat) (h : i < C.length) : ptsTo R d C (i + 1) = ptsTo R d C i ++ (ptT R d (pks R [] (C.getD i []))).toList := by
  unfold ptsTo
  have e : C.getD i [] = C[i] := by simp [h]
  rw [List.take_succ_eq_append_getElem h, List.flatMap_append, e]
  simp

theorem ptsTo_len (R C : List (List Int)) (d : Nat) : ∀ i, (ptsTo R d C i).length ≤ i := by
  intro i
  induction i with
  | zero => simp [ptsTo]
  | succ i ih =>
    by_cases h : i < C.length
    · rw [ptsTo_succ R C d i h, List.length_append]
      have : (ptT R d (pks R [] (C.getD i []))).toList.length ≤ 1 := by cases ptT R d (pks R [] (C.getD i [])) <;> simp
      omega
    · have : ptsTo R d C (i + 1) = ptsTo R d C i := by unfold ptsTo; rw [List.take_of_length_le (by omega), List.take_of_length_le (by omega)]
      rw [this]; omega

end Go.Proofs.Ytnalejokjapofaa

/- Rows in blocks of their own, as slices. -/
namespace Go.Proofs.Ytnalejokjapofaa
open Go.RowKit

/-- A row in a block of its own, as a slice. -/
theorem row_slT {B : Nat} {w : World} {g cap n : Nat} {F : Nat → Value} {l : List Int} (r : w.rowIs g 3 cap F) (hF : ∀ i, i < n → F i = .int .i64 (l.getD i 0)) (hl : l.length = n) (hn : n ≤ cap) (hc : cap ≤ 9223372036854775807) : Sl B 3 w (.slice (some ⟨g, 0, none⟩) n cap) (ints l) := by
  refine ⟨some ⟨g, 0, none⟩, cap, by simp [hl], by simpa [hl] using hn, by unfold maxLen; omega, fun i hi => ?_, fun h => by cases h⟩
  have hi' : i < l.length := by simpa using hi
  refine ⟨g, 0, rfl, ?_, ?_⟩
  · rw [Nat.zero_add, r.cell (by omega), hF i (by omega), ints_get _ _ hi']
  · obtain ⟨c, hb, _, _⟩ := r
    exact Or.inr ⟨c, hb⟩

theorem own_rw {B n : Nat} {e : TypeId} {w : World} {v : Value} {l : List Int} (h : w.ownsRow B e 1 v n (ints l)) (hn : 0 < n) : ∃ g cap F, v = .slice (some ⟨g, 0, none⟩) n cap ∧ B ≤ g ∧ w.rowIs g e cap F ∧ (∀ i, i < n → F i = .int .i64 (l.getD i 0)) ∧ n ≤ cap ∧ cap ≤ 9223372036854775807 := by
  obtain ⟨h1, h2⟩ := h
  rcases h2 with ⟨_, h0⟩ | ⟨g, cap, cur, hu, hg, hh, hnc, hcm, hs, htk⟩
  · omega
  · have hll : l.length = n := by simpa [ints] using h1
    refine ⟨g, cap, fun i => cur.toList.getD i (.int .i64 0), hu, hg, ⟨cur, hh, by omega, fun i hi => ?_⟩, fun i hi => ?_, hnc, by unfold maxLen at hcm; exact hcm⟩
    · show cur[i]? = some (cur.toList.getD i (.int .i64 0))
      rw [← Array.getElem?_toList, List.getD_eq_getElem?_getD, List.getElem?_eq_getElem (by simp; omega)]; rfl
    · have e1 : cur.toList.getD i (.int .i64 0) = (ints l).getD i (.int .i64 0) := by
        rw [← htk]
        simp only [List.getD_eq_getElem?_getD]
        rw [List.getElem?_take_of_lt (by omega)]
      show cur.toList.getD i (.int .i64 0) = _
      rw [e1]
      simp [ints, show i < l.length by omega]

end Go.Proofs.Ytnalejokjapofaa
