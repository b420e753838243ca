/- What Empty and Greatest share: rows laid together, products of small by great, axes. -/
import Derived.Test.YtopjjhejjjchpaaDoorFkY
import Derived.Test.YtopjjhejjjchpaaDoorWyY
import Derived.Test.YtopjjhejjjchpaaDoorOfAll
import Derived.Test.YtopjjhejjjchpaaDoorRowY
import Derived.Test.YtopjjhejjjchpaaDoorWiA
import Derived.Test.YtopjjhejjjchpaaDoorRefY
import Derived.Test.YtopjjhejjjchpaaDoorDatA
import Derived.Deep.OwnRows
import Derived.Test.YtopjjhejjjchpaaDoorRefA
namespace Go.Proofs.YtopjjhejjjchpaaDoor
open Go.RowKit Lin
attribute [local go_sem ↓] Go.wp_at_zero Go.wp_at_succ

theorem slice_cells {B : Nat} {e : TypeId} {w : World} {a : Addr} {n cap : Nat} {us : List Value} (h : Sl B e w (.slice (some a) n cap) us) : ∀ j u, us[j]? = some u → w.cell? (a.add j) = some u := by
  intro j u hj
  have hlt : j < us.length := (List.getElem?_eq_some_iff.1 hj).1
  obtain ⟨ao, c, hv, _, _, h3, _⟩ := h
  obtain ⟨b, o, ha, hc, _⟩ := h3 j hlt
  simp only [Value.slice.injEq] at hv
  rw [← hv.1] at ha
  simp only [Option.some.injEq] at ha
  rw [ha]
  have h5 := hc.trans hj
  unfold Addr.add
  by_cases e : j = 0
  · subst e; simpa using h5
  · simpa [e] using h5

end Go.Proofs.YtopjjhejjjchpaaDoor
