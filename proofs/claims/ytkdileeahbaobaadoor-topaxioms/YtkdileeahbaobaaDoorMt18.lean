/- facetref.GreedyOf. -/
import Derived.Test.YtkdileeahbaobaaDoorMtD
import Derived.Test.YtkdileeahbaobaaDoorTk1
import Derived.Deep.OwnRows
namespace Go.Proofs.YtkdileeahbaobaaDoor
open Go.RowKit
attribute [local go_sem ↓] Go.wp_at_zero Go.wp_at_succ

theorem dn_succ {ws : List Int} {k b : Nat} (hk : k < ws.length) (hb : (hvL ws).getD k 0 = (b : Int)) (i : Nat) : dnB ws (k + 1) i = if i = b then true else dnB ws k i := by
  have hl := (hvL_keep ws).1
  have e : (hvL ws)[k]'(by omega) = (b : Int) := by rw [← hb]; simp [show k < (hvL ws).length by omega]
  unfold dnB
  rw [List.take_succ_eq_append_getElem (by omega), List.contains_append, e]
  by_cases h : i = b
  · subst h; simp
  · rw [if_neg h]
    have : [(b : Int)].contains (i : Int) = false := by
      simp only [List.contains_cons, List.contains_nil, Bool.or_false, beq_eq_false_iff_ne]
      omega
    rw [this, Bool.or_false]

theorem best_done {ws : List Int} {k i : Nat} {bv : Int} (h : BestR ws k i bv) (hd : dnB ws k i = true) : BestR ws k (i + 1) bv := by
  rcases h with ⟨h1, h2⟩ | ⟨b, h1, h2, h3, h4⟩
  · exact .inl ⟨h1, fun j hj => by
      by_cases e : j = i
      · rw [e]; exact hd
      · exact h2 j (by omega)⟩
  · exact .inr ⟨b, h1, by omega, h3, fun j hj hjd hjb => h4 j (by
      have : j ≠ i := fun e => by rw [e, hd] at hjd; cases hjd
      omega) hjd hjb⟩

theorem best_first {ws : List Int} {k i : Nat} (h : BestR ws k i (-1)) (hd : dnB ws k i = false) : BestR ws k (i + 1) i := by
  rcases h with ⟨_, h2⟩ | ⟨b, h1, _⟩
  · exact .inr ⟨i, rfl, by omega, hd, fun j hj hjd hji => by
      rw [h2 j (by omega)] at hjd
      cases hjd⟩
  · omega

theorem best_new {ws : List Int} {k i b : Nat} (h : BestR ws k i b) (hd : dnB ws k i = false) (hw : ws.getD b 0 < ws.getD i 0) : BestR ws k (i + 1) i := by
  rcases h with ⟨h1, _⟩ | ⟨b', h1, h2, h3, h4⟩
  · omega
  · have : b = b' := by omega
    subst this
    refine .inr ⟨i, rfl, by omega, hd, fun j hj hjd hji => ?_⟩
    by_cases hjb : j = b
    · rw [hjb]; exact .inl (by simpa using hw)
    · exact Bf.trans (b := (b : Int)) (.inl (by simpa using hw)) (h4 j (by omega) hjd hjb)

theorem best_old {ws : List Int} {k i b : Nat} (h : BestR ws k i b) (hw : ¬ ws.getD b 0 < ws.getD i 0) : BestR ws k (i + 1) b := by
  rcases h with ⟨h1, _⟩ | ⟨b', h1, h2, h3, h4⟩
  · omega
  · have : b = b' := by omega
    subst this
    refine .inr ⟨b, rfl, by omega, h3, fun j hj hjd hji => ?_⟩
    by_cases hjb : j = i
    · subst hjb
      unfold Bf
      simp only [Int.toNat_natCast]
      omega
    · exact h4 j (by omega) hjd hji

end Go.Proofs.YtkdileeahbaobaaDoor
