import Derived.Test.YtnpapoegkbehbaaGreatLtA
import Derived.Test.YtnpapoegkbehbaaGreatOrdAll
import Derived.Test.YtnpapoegkbehbaaGreatHmA
/- The program: does a point meet a row that another one does not? -/
namespace Go.Proofs.YtnpapoegkbehbaaGreat
open Go.RowKit
attribute [local go_sem ↓] Go.wp_at_zero Go.wp_at_succ

end Go.Proofs.YtnpapoegkbehbaaGreat

/- The program: is there a row (a point) that ..: by closures whose contract is given. Made by mkhas.py. -/
namespace Go.Proofs.YtnpapoegkbehbaaGreat
open Go.RowKit
attribute [local go_sem ↓] Go.wp_at_zero Go.wp_at_succ

end Go.Proofs.YtnpapoegkbehbaaGreat

/- The program: does one point meet all rows that another one meets? -/
namespace Go.Proofs.YtnpapoegkbehbaaGreat
open Go.RowKit
attribute [local go_sem ↓] Go.wp_at_zero Go.wp_at_succ

/-- A row that x meets and y does not. -/
def apt (x y r : List Int) : Bool := decide (agn r x = 0) && !decide (agn r y = 0)

end Go.Proofs.YtnpapoegkbehbaaGreat

/- The program: another point that meets all rows that a point meets. -/
namespace Go.Proofs.YtnpapoegkbehbaaGreat
open Go.RowKit
attribute [local go_sem ↓] Go.wp_at_zero Go.wp_at_succ

/-- Is there another point that meets all rows that x meets? -/
def twin (m P : List (List Int)) (x : List Int) : Bool := P.any fun y => !(x == y) && !m.any (apt x y)

end Go.Proofs.YtnpapoegkbehbaaGreat

/- Which points the program keeps as corners. -/
namespace Go.Proofs.YtnpapoegkbehbaaGreat
open Lin

theorem agn_zero {d : Nat} {r x : List Int} (hr : r.length = d + 1) (hx : x.length = d) : agn r x = 0 ↔ r.getD d 0 = dot d (V r) (V x) := by
  have e : dotL (r.take d) x = dot d (V r) (V x) := by
    rw [dotL_eq (d := d) (by rw [List.length_take]; omega) x]
    exact dot_congr (fun i hi => V_take hi) (fun _ _ => rfl)
  unfold agn
  rw [hx, e]
  generalize dot d (V r) (V x) = a
  generalize r.getD d 0 = b
  unfold cmpI
  repeat' split
  all_goals omega

theorem twin_iff {d : Nat} {m P : List (List Int)} {x : List Int} (hm : ∀ r ∈ m, r.length = d + 1) (hP : ∀ y ∈ P, y.length = d) (hx : x.length = d) :
    twin m P x = false ↔ ∀ y ∈ P, y ≠ x → ∃ r ∈ m, r.getD d 0 = dot d (V r) (V x) ∧ r.getD d 0 ≠ dot d (V r) (V y) := by
  unfold twin
  rw [List.any_eq_false]
  constructor
  · intro h y hy hne
    have h1 := h y hy
    have h2 : (x == y) = false := by simpa using fun h : x = y => hne h.symm
    rw [h2] at h1
    simp only [Bool.not_false, Bool.true_and, Bool.not_eq_true', Bool.not_eq_false] at h1
    obtain ⟨r, hr, ha⟩ := List.any_eq_true.1 h1
    unfold apt at ha
    simp only [Bool.and_eq_true, decide_eq_true_eq, Bool.not_eq_true', decide_eq_false_iff_not] at ha
    exact ⟨r, hr, (agn_zero (hm r hr) hx).1 ha.1, fun e => ha.2 ((agn_zero (hm r hr) (hP y hy)).2 e)⟩
  · intro h y hy hc
    simp only [Bool.and_eq_true, Bool.not_eq_true', beq_eq_false_iff_ne] at hc
    obtain ⟨r, hr, h1, h2⟩ := h y hy (fun e => hc.1 e.symm)
    have := List.any_eq_false.1 hc.2 r hr
    apply this
    unfold apt
    simp only [Bool.and_eq_true, decide_eq_true_eq, Bool.not_eq_true', decide_eq_false_iff_not]
    exact ⟨(agn_zero (hm r hr) hx).2 h1, fun e => h2 ((agn_zero (hm r hr) (hP y hy)).1 e)⟩

end Go.Proofs.YtnpapoegkbehbaaGreat

/- The program: a copy of points. -/
namespace Go.Proofs.YtnpapoegkbehbaaGreat
open Go.RowKit
attribute [local go_sem ↓] Go.wp_at_zero Go.wp_at_succ

end Go.Proofs.YtnpapoegkbehbaaGreat

/- The program: points that a closure tells are taken out, in place. -/
namespace Go.Proofs.YtnpapoegkbehbaaGreat
open Go.RowKit
attribute [local go_sem ↓] Go.wp_at_zero Go.wp_at_succ

theorem Rws.row {B : Nat} {w : World} {v : Value} {m : List (List Int)} (h : Rws B 22 3 w v m) (hm : 0 < m.length) : ∃ g cap F, v = .slice (some ⟨g, 0, none⟩) m.length cap ∧ B ≤ g ∧ m.length ≤ cap ∧ cap ≤ 9223372036854775807 ∧ w.rowIs g 22 cap F ∧ ∀ i, i < m.length → Sl B 3 w (F i) (ints (m.getD i [])) := by
  obtain ⟨vs, h1, h2, h3⟩ := h
  rcases h2.2 with ⟨_, h0⟩ | ⟨g, cap, cur, hv, hb, hh, hn, hc, hs, ht⟩
  · omega
  · refine ⟨g, cap, fun i => cur.toList.getD i (.slice none 0 0), hv, hb, hn, by unfold maxLen at hc; exact hc, ⟨cur, hh, by omega, fun i hi => ?_⟩, fun i hi => ?_⟩
    · show cur[i]? = some (cur.toList.getD i (.slice none 0 0))
      rw [← Array.getElem?_toList, List.getD_eq_getElem?_getD, List.getElem?_eq_getElem (by simp; omega)]; rfl
    · have e : cur.toList.getD i (.slice none 0 0) = vs.getD i (.slice none 0 0) := by
        rw [← ht]
        simp only [List.getD_eq_getElem?_getD]
        rw [List.getElem?_take_of_lt (by omega)]
      show Sl B 3 w (cur.toList.getD i (.slice none 0 0)) _
      rw [e]; exact h3 i hi

theorem rws_of_row {B : Nat} {w : World} {g cap : Nat} {F : Nat → Value} {m : List (List Int)} (h : w.rowIs g 22 cap F) (hB : B ≤ g) (h4 : m.length ≤ cap) (h5 : cap ≤ 9223372036854775807) (h6 : ∀ i, i < m.length → Sl B 3 w (F i) (ints (m.getD i []))) : Rws B 22 3 w (.slice (some ⟨g, 0, none⟩) m.length cap) m := by
  obtain ⟨c, h1, h2, h3⟩ := h
  refine ⟨(List.range m.length).map F, by simp, ⟨by simp, Or.inr ⟨g, cap, c, rfl, hB, h1, h4, by unfold maxLen; exact h5, by omega, ?_⟩⟩, fun i hi => ?_⟩
  · apply List.ext_getElem?
    intro i
    by_cases hi : i < m.length
    · rw [List.getElem?_take_of_lt (by omega), Array.getElem?_toList, h3 i (by omega)]; simp [hi]
    · rw [List.getElem?_eq_none (by simp; omega), List.getElem?_eq_none (by simp; omega)]
  · have e : ((List.range m.length).map F).getD i (.slice none 0 0) = F i := by simp [hi]
    rw [e]; exact h6 i hi

/-- What the walk of DeleteFunc holds. -/
structure Dm (B : Nat) (w : World) (g cap : Nat) (m : List (List Int)) (f : List Int → Bool) (j c : Nat) (F : Nat → Value) (wr : World) : Prop where
  row : wr.rowIs g 22 cap F
  len : c = ((m.take j).filter fun r => !f r).length
  done : ∀ i, i < c → Sl B 3 wr (F i) (ints (((m.take j).filter fun r => !f r).getD i []))
  rest : ∀ i, j ≤ i → i < m.length → Sl B 3 wr (F i) (ints (m.getD i []))
  lt : c < j
  bel : Below B w wr
  hB : B ≤ g

theorem sl_offg {B g cap : Nat} {F : Nat → Value} {wr w2 : World} {v : Value} {xs : List Value} (hr : wr.rowIs g 22 cap F) (hB : B ≤ g) (ht : Touch g wr w2) (hs : Sl B 3 wr v xs) : Sl B 3 w2 v xs :=
  hs.move fun b _ h => by
    obtain ⟨cur, hcur, _⟩ := hr
    refine ⟨ht.block b ?_, h⟩
    rintro rfl
    rcases h with h | ⟨c, h⟩
    · omega
    · rw [hcur] at h
      simp at h

theorem Dm.below {B : Nat} {w : World} {g cap : Nat} {m : List (List Int)} {f : List Int → Bool} {j c : Nat} {F : Nat → Value} {wr w2 : World} (h : Dm B w g cap m f j c F wr) (hb : Below wr.heap.size wr w2) : Dm B w g cap m f j c F w2 :=
  ⟨h.row.of_block (hb.block g h.row.lt), h.len, fun i hi => (h.done i hi).below hb (Nat.le_refl _), fun i h1 h2 => (h.rest i h1 h2).below hb (Nat.le_refl _), h.lt, h.bel.trans (hb.mono (by have := h.hB; have := h.row.lt; omega)), h.hB⟩

theorem filt_snoc {m : List (List Int)} {f : List Int → Bool} {j : Nat} (hj : j < m.length) : ((m.take (j + 1)).filter fun r => !f r) = ((m.take j).filter fun r => !f r) ++ (if f (m.getD j []) = true then [] else [m.getD j []]) := by
  have e : m.getD j [] = m[j] := by simp [hj]
  rw [List.take_succ_eq_append_getElem hj, List.filter_append, e]
  cases hf : f m[j] <;> simp [hf]

theorem Dm.skip {B : Nat} {w : World} {g cap : Nat} {m : List (List Int)} {f : List Int → Bool} {j c : Nat} {F : Nat → Value} {wr : World} (h : Dm B w g cap m f j c F wr) (hj : j < m.length) (hf : f (m.getD j []) = true) : Dm B w g cap m f (j + 1) c F wr := by
  have e := filt_snoc (f := f) hj
  rw [if_pos hf, List.append_nil] at e
  exact ⟨h.row, by rw [e]; exact h.len, by rw [e]; exact h.done, fun i h1 h2 => h.rest i (by omega) h2, by have := h.lt; omega, h.bel, h.hB⟩

theorem Dm.next {B : Nat} {w : World} {g cap : Nat} {m : List (List Int)} {f : List Int → Bool} {j c : Nat} {F : Nat → Value} {wr : World} (h : Dm B w g cap m f j c F wr) (hj : j < m.length) (hf : f (m.getD j []) = false) : Dm B w g cap m f (j + 1) (c + 1) (fun i => if i = c then F j else F i) (wr.setCell ⟨g, c, none⟩ (F j)) := by
  have e := filt_snoc (f := f) hj
  rw [if_neg (by rw [hf]; decide)] at e
  have ht : Touch g wr (wr.setCell ⟨g, c, none⟩ (F j)) := (Touch.refl _ _).setCell c _
  have hl := h.len
  have hlt := h.lt
  refine ⟨h.row.set c _, by rw [e, List.length_append, ← hl]; rfl, fun i hi => ?_, fun i h1 h2 => ?_, by omega, ht.below h.bel h.hB, h.hB⟩
  · rw [e]
    by_cases hic : i = c
    · subst hic
      have e2 : (((m.take j).filter fun r => !f r) ++ [m.getD j []]).getD i [] = m.getD j [] := by rw [hl]; simp
      rw [e2, if_pos rfl]
      exact sl_offg h.row h.hB ht (h.rest j (Nat.le_refl _) hj)
    · have e2 : (((m.take j).filter fun r => !f r) ++ [m.getD j []]).getD i [] = ((m.take j).filter fun r => !f r).getD i [] := by
        simp only [List.getD_eq_getElem?_getD]; rw [List.getElem?_append_left (by omega)]
      rw [e2, if_neg hic]
      exact sl_offg h.row h.hB ht (h.done i (by omega))
  · rw [if_neg (by omega)]
    exact sl_offg h.row h.hB ht (h.rest i (by omega) h2)

theorem Dm.fin {B : Nat} {w : World} {g cap : Nat} {m : List (List Int)} {f : List Int → Bool} {j c : Nat} {F : Nat → Value} {wr : World} (h : Dm B w g cap m f j c F wr) (hj : j = m.length) (h1 : m.length ≤ cap) (h2 : cap ≤ 9223372036854775807) :
    Rws B 22 3 (wr.setCells g c (List.replicate (m.length - c) (.slice none 0 0))) (.slice (some ⟨g, 0, none⟩) c cap) (m.filter fun r => !f r) ∧ Below B w (wr.setCells g c (List.replicate (m.length - c) (.slice none 0 0))) := by
  subst hj
  have e : m.take m.length = m := List.take_length
  have hl := h.len
  have hd := h.done
  rw [e] at hl hd
  have ht : Touch g wr (wr.setCells g c (List.replicate (m.length - c) (.slice none 0 0))) := Touch.setCells _ _ (Touch.refl _ _)
  have hlt := h.lt
  refine ⟨?_, ht.below h.bel h.hB⟩
  have hrow := rowIs_setCells (List.replicate (m.length - c) (Value.slice none 0 0)) c wr F h.row
  have := rws_of_row (B := B) (m := m.filter fun r => !f r) hrow h.hB (by omega) h2 (fun i hi => by
    rw [← hl] at hi
    rw [if_neg (by omega)]
    exact sl_offg h.row h.hB ht (hd i hi))
  rw [← hl] at this
  exact this

end Go.Proofs.YtnpapoegkbehbaaGreat
