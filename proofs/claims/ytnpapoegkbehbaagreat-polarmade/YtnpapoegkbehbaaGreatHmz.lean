/- The program's corners, in rows that are read from anywhere. -/
import Derived.Test.YtnpapoegkbehbaaGreatHmE
namespace Go.Proofs.YtnpapoegkbehbaaGreat
open Go.RowKit
attribute [local go_sem ↓] Go.wp_at_zero Go.wp_at_succ

theorem Fr.rowZ {B : Nat} {w : World} {v : Value} {m : List (List Int)} (h : Fr B 22 3 w v m) (hm : 0 < m.length) : ∃ g cap F, v = .slice (some ⟨g, 0, none⟩) m.length cap ∧ B ≤ g ∧ m.length ≤ cap ∧ cap ≤ 9223372036854775807 ∧ w.rowIs g 22 cap F ∧ ∀ i, i < m.length → Sl 0 3 w (F i) (ints (m.getD i [])) := by
  obtain ⟨vs, h1, h2, h3⟩ := h
  rcases h2.2 with ⟨_, h0⟩ | ⟨g, cap, cur, hv, hb, hh, hn, hc, hs, ht⟩
  · omega
  · refine ⟨g, cap, fun i => cur.toList.getD i (.slice none 0 0), hv, hb, hn, by unfold maxLen at hc; exact hc, ⟨cur, hh, by omega, fun i hi => ?_⟩, fun i hi => ?_⟩
    · show cur[i]? = some (cur.toList.getD i (.slice none 0 0))
      rw [← Array.getElem?_toList, List.getD_eq_getElem?_getD, List.getElem?_eq_getElem (by simp; omega)]; rfl
    · have e : cur.toList.getD i (.slice none 0 0) = vs.getD i (.slice none 0 0) := by
        rw [← ht]
        simp only [List.getD_eq_getElem?_getD]
        rw [List.getElem?_take_of_lt (by omega)]
      show Sl 0 3 w (cur.toList.getD i (.slice none 0 0)) _
      rw [e]; exact h3 i hi

theorem fr_of_rowZ {B : Nat} {w : World} {g cap : Nat} {F : Nat → Value} {m : List (List Int)} (h : w.rowIs g 22 cap F) (hB : B ≤ g) (h4 : m.length ≤ cap) (h5 : cap ≤ 9223372036854775807) (h6 : ∀ i, i < m.length → Sl 0 3 w (F i) (ints (m.getD i []))) : Fr B 22 3 w (.slice (some ⟨g, 0, none⟩) m.length cap) m := by
  obtain ⟨c, h1, h2, h3⟩ := h
  refine ⟨(List.range m.length).map F, by simp, ⟨by simp, Or.inr ⟨g, cap, c, rfl, hB, h1, h4, by unfold maxLen; exact h5, by omega, ?_⟩⟩, fun i hi => ?_⟩
  · apply List.ext_getElem?
    intro i
    by_cases hi : i < m.length
    · rw [List.getElem?_take_of_lt (by omega), Array.getElem?_toList, h3 i (by omega)]; simp [hi]
    · rw [List.getElem?_eq_none (by simp; omega), List.getElem?_eq_none (by simp; omega)]
  · have e : ((List.range m.length).map F).getD i (.slice none 0 0) = F i := by simp [hi]
    rw [e]; exact h6 i hi

/-- What the walk of DeleteFunc holds. -/
structure DmZ (B : Nat) (w : World) (g cap : Nat) (m : List (List Int)) (f : List Int → Bool) (j c : Nat) (F : Nat → Value) (wr : World) : Prop where
  row : wr.rowIs g 22 cap F
  len : c = ((m.take j).filter fun r => !f r).length
  done : ∀ i, i < c → Sl 0 3 wr (F i) (ints (((m.take j).filter fun r => !f r).getD i []))
  rest : ∀ i, j ≤ i → i < m.length → Sl 0 3 wr (F i) (ints (m.getD i []))
  lt : c < j
  bel : Below B w wr
  hB : B ≤ g

theorem sl_offgZ {B g cap : Nat} {F : Nat → Value} {wr w2 : World} {v : Value} {xs : List Value} (hr : wr.rowIs g 22 cap F) (hB : B ≤ g) (ht : Touch g wr w2) (hs : Sl 0 3 wr v xs) : Sl 0 3 w2 v xs :=
  hs.move fun b _ h => by
    obtain ⟨cur, hcur, _⟩ := hr
    refine ⟨ht.block b ?_, h⟩
    rintro rfl
    rcases h with h | ⟨c, h⟩
    · omega
    · rw [hcur] at h
      simp at h

theorem DmZ.below {B : Nat} {w : World} {g cap : Nat} {m : List (List Int)} {f : List Int → Bool} {j c : Nat} {F : Nat → Value} {wr w2 : World} (h : DmZ B w g cap m f j c F wr) (hb : Below wr.heap.size wr w2) : DmZ B w g cap m f j c F w2 :=
  ⟨h.row.of_block (hb.block g h.row.lt), h.len, fun i hi => (h.done i hi).below hb (Nat.le_refl _), fun i h1 h2 => (h.rest i h1 h2).below hb (Nat.le_refl _), h.lt, h.bel.trans (hb.mono (by have := h.hB; have := h.row.lt; omega)), h.hB⟩

theorem DmZ.skip {B : Nat} {w : World} {g cap : Nat} {m : List (List Int)} {f : List Int → Bool} {j c : Nat} {F : Nat → Value} {wr : World} (h : DmZ B w g cap m f j c F wr) (hj : j < m.length) (hf : f (m.getD j []) = true) : DmZ B w g cap m f (j + 1) c F wr := by
  have e := filt_snoc (f := f) hj
  rw [if_pos hf, List.append_nil] at e
  exact ⟨h.row, by rw [e]; exact h.len, by rw [e]; exact h.done, fun i h1 h2 => h.rest i (by omega) h2, by have := h.lt; omega, h.bel, h.hB⟩

theorem DmZ.next {B : Nat} {w : World} {g cap : Nat} {m : List (List Int)} {f : List Int → Bool} {j c : Nat} {F : Nat → Value} {wr : World} (h : DmZ B w g cap m f j c F wr) (hj : j < m.length) (hf : f (m.getD j []) = false) : DmZ B w g cap m f (j + 1) (c + 1) (fun i => if i = c then F j else F i) (wr.setCell ⟨g, c, none⟩ (F j)) := by
  have e := filt_snoc (f := f) hj
  rw [if_neg (by rw [hf]; decide)] at e
  have ht : Touch g wr (wr.setCell ⟨g, c, none⟩ (F j)) := (Touch.refl _ _).setCell c _
  have hl := h.len
  have hlt := h.lt
  refine ⟨h.row.set c _, by rw [e, List.length_append, ← hl]; rfl, fun i hi => ?_, fun i h1 h2 => ?_, by omega, ht.below h.bel h.hB, h.hB⟩
  · rw [e]
    by_cases hic : i = c
    · subst hic
      have e2 : (((m.take j).filter fun r => !f r) ++ [m.getD j []]).getD i [] = m.getD j [] := by rw [hl]; simp
      rw [e2, if_pos rfl]
      exact sl_offgZ h.row h.hB ht (h.rest j (Nat.le_refl _) hj)
    · have e2 : (((m.take j).filter fun r => !f r) ++ [m.getD j []]).getD i [] = ((m.take j).filter fun r => !f r).getD i [] := by
        simp only [List.getD_eq_getElem?_getD]; rw [List.getElem?_append_left (by omega)]
      rw [e2, if_neg hic]
      exact sl_offgZ h.row h.hB ht (h.done i (by omega))
  · rw [if_neg (by omega)]
    exact sl_offgZ h.row h.hB ht (h.rest i (by omega) h2)

theorem DmZ.fin {B : Nat} {w : World} {g cap : Nat} {m : List (List Int)} {f : List Int → Bool} {j c : Nat} {F : Nat → Value} {wr : World} (h : DmZ B w g cap m f j c F wr) (hj : j = m.length) (h1 : m.length ≤ cap) (h2 : cap ≤ 9223372036854775807) :
    Fr B 22 3 (wr.setCells g c (List.replicate (m.length - c) (.slice none 0 0))) (.slice (some ⟨g, 0, none⟩) c cap) (m.filter fun r => !f r) ∧ Below B w (wr.setCells g c (List.replicate (m.length - c) (.slice none 0 0))) := by
  subst hj
  have e : m.take m.length = m := List.take_length
  have hl := h.len
  have hd := h.done
  rw [e] at hl hd
  have ht : Touch g wr (wr.setCells g c (List.replicate (m.length - c) (.slice none 0 0))) := Touch.setCells _ _ (Touch.refl _ _)
  have hlt := h.lt
  refine ⟨?_, ht.below h.bel h.hB⟩
  have hrow := rowIs_setCells (List.replicate (m.length - c) (Value.slice none 0 0)) c wr F h.row
  have := fr_of_rowZ (B := B) (m := m.filter fun r => !f r) hrow h.hB (by omega) h2 (fun i hi => by
    rw [← hl] at hi
    rw [if_neg (by omega)]
    exact sl_offgZ h.row h.hB ht (hd i hi))
  rw [← hl] at this
  exact this

end Go.Proofs.YtnpapoegkbehbaaGreat
