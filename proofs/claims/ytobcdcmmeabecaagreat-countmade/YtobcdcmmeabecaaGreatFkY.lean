import Derived.Test.YtobcdcmmeabecaaGreatWyY
import Derived.Test.YtobcdcmmeabecaaGreatWysA
import Derived.Test.YtobcdcmmeabecaaGreatWiA
import Derived.Test.YtobcdcmmeabecaaGreatRefY
import Derived.Test.YtobcdcmmeabecaaGreatRowB
import Derived.Test.YtobcdcmmeabecaaGreatRowA
import Derived.Test.YtobcdcmmeabecaaGreatDatA
import Derived.Deep.OwnRows
import Derived.Test.YtobcdcmmeabecaaGreatRefA
/- Farkas's lemma (after Bartl): what is no sum of so much of rows lies beyond a plane that they don't cross (pure). -/
namespace Go.Proofs.YtobcdcmmeabecaaGreat
open Lin

end Go.Proofs.YtobcdcmmeabecaaGreat

/- Caratheodory: a goal that is a sum of so much of rows is one of rows that don't hang on each other, and says no more (pure). -/
namespace Go.Proofs.YtobcdcmmeabecaaGreat
open Lin

end Go.Proofs.YtobcdcmmeabecaaGreat

/- half.Check and half.Empty, of cuts that may be. -/
namespace Go.Proofs.YtobcdcmmeabecaaGreat
open Go.RowKit

end Go.Proofs.YtobcdcmmeabecaaGreat

/- What a choice of rows gives: the place where they are met, if there is one alone and it keeps all rows (pure). -/
namespace Go.Proofs.YtobcdcmmeabecaaGreat

end Go.Proofs.YtobcdcmmeabecaaGreat

/- Where rows hold at all, they hold at a place where so many of them are met, or numbers are 0, that there is no other one (pure). -/
namespace Go.Proofs.YtobcdcmmeabecaaGreat
open Lin

end Go.Proofs.YtobcdcmmeabecaaGreat

/- Rows in blocks of their own, as slices. -/
namespace Go.Proofs.YtobcdcmmeabecaaGreat
open Go.RowKit

end Go.Proofs.YtobcdcmmeabecaaGreat

/- What Empty and Greatest share: rows laid together, products of small by great, axes. -/
namespace Go.Proofs.YtobcdcmmeabecaaGreat
open Go.RowKit Lin
attribute [local go_sem ↓] Go.wp_at_zero Go.wp_at_succ

theorem slice_cells {B : Nat} {e : TypeId} {w : World} {a : Addr} {n cap : Nat} {us : List Value} (h : Sl B e w (.slice (some a) n cap) us) : ∀ j u, us[j]? = some u → w.cell? (a.add j) = some u := by
  intro j u hj
  have hlt : j < us.length := (List.getElem?_eq_some_iff.1 hj).1
  obtain ⟨ao, c, hv, _, _, h3, _⟩ := h
  obtain ⟨b, o, ha, hc, _⟩ := h3 j hlt
  simp only [Value.slice.injEq] at hv
  rw [← hv.1] at ha
  simp only [Option.some.injEq] at ha
  rw [ha]
  have h5 := hc.trans hj
  unfold Addr.add
  by_cases e : j = 0
  · subst e; simpa using h5
  · simpa [e] using h5

end Go.Proofs.YtobcdcmmeabecaaGreat
