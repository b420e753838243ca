import Derived.Test.YtobcdcmmeabecaaGreatLtA
import Derived.Test.YtobcdcmmeabecaaGreatOrdAll
import Derived.Test.YtobcdcmmeabecaaGreatHmA
/- The program: does a point meet a row that another one does not? -/
namespace Go.Proofs.YtobcdcmmeabecaaGreat
open Go.RowKit
attribute [local go_sem ↓] Go.wp_at_zero Go.wp_at_succ

end Go.Proofs.YtobcdcmmeabecaaGreat

/- The program: is there a row (a point) that ..: by closures whose contract is given. Made by mkhas.py. -/
namespace Go.Proofs.YtobcdcmmeabecaaGreat
open Go.RowKit
attribute [local go_sem ↓] Go.wp_at_zero Go.wp_at_succ

end Go.Proofs.YtobcdcmmeabecaaGreat

/- The program: does one point meet all rows that another one meets? -/
namespace Go.Proofs.YtobcdcmmeabecaaGreat
open Go.RowKit
attribute [local go_sem ↓] Go.wp_at_zero Go.wp_at_succ

end Go.Proofs.YtobcdcmmeabecaaGreat

/- The program: another point that meets all rows that a point meets. -/
namespace Go.Proofs.YtobcdcmmeabecaaGreat
open Go.RowKit
attribute [local go_sem ↓] Go.wp_at_zero Go.wp_at_succ

end Go.Proofs.YtobcdcmmeabecaaGreat

/- Which points the program keeps as corners. -/
namespace Go.Proofs.YtobcdcmmeabecaaGreat
open Lin

end Go.Proofs.YtobcdcmmeabecaaGreat

/- The program: a copy of points. -/
namespace Go.Proofs.YtobcdcmmeabecaaGreat
open Go.RowKit
attribute [local go_sem ↓] Go.wp_at_zero Go.wp_at_succ

end Go.Proofs.YtobcdcmmeabecaaGreat

/- The program: points that a closure tells are taken out, in place. -/
namespace Go.Proofs.YtobcdcmmeabecaaGreat
open Go.RowKit
attribute [local go_sem ↓] Go.wp_at_zero Go.wp_at_succ

theorem Rws.row {B : Nat} {w : World} {v : Value} {m : List (List Int)} (h : Rws B 22 3 w v m) (hm : 0 < m.length) : ∃ g cap F, v = .slice (some ⟨g, 0, none⟩) m.length cap ∧ B ≤ g ∧ m.length ≤ cap ∧ cap ≤ 9223372036854775807 ∧ w.rowIs g 22 cap F ∧ ∀ i, i < m.length → Sl B 3 w (F i) (ints (m.getD i [])) := by
  obtain ⟨vs, h1, h2, h3⟩ := h
  rcases h2.2 with ⟨_, h0⟩ | ⟨g, cap, cur, hv, hb, hh, hn, hc, hs, ht⟩
  · omega
  · refine ⟨g, cap, fun i => cur.toList.getD i (.slice none 0 0), hv, hb, hn, by unfold maxLen at hc; exact hc, ⟨cur, hh, by omega, fun i hi => ?_⟩, fun i hi => ?_⟩
    · show cur[i]? = some (cur.toList.getD i (.slice none 0 0))
      rw [← Array.getElem?_toList, List.getD_eq_getElem?_getD, List.getElem?_eq_getElem (by simp; omega)]; rfl
    · have e : cur.toList.getD i (.slice none 0 0) = vs.getD i (.slice none 0 0) := by
        rw [← ht]
        simp only [List.getD_eq_getElem?_getD]
        rw [List.getElem?_take_of_lt (by omega)]
      show Sl B 3 w (cur.toList.getD i (.slice none 0 0)) _
      rw [e]; exact h3 i hi

end Go.Proofs.YtobcdcmmeabecaaGreat
