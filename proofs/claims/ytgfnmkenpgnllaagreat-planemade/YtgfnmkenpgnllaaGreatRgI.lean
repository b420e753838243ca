/- A drawn region by one saying that every operation keeps, in whatever order they come. -/
import Derived.Test.YtgfnmkenpgnllaaGreatRgn
import Derived.Test.YtgfnmkenpgnllaaGreatStepsAll
import Derived.Maps.AppendAt
namespace Go.Proofs.YtgfnmkenpgnllaaGreat
open Go Go.RowKit

theorem count_set {L : List Bool} : ∀ {i : Nat}, L[i]? = some false → (L.set i true).count false + 1 = L.count false := by
  induction L with
  | nil => intro i h; simp at h
  | cons x L ih =>
    intro i h
    cases i with
    | zero =>
      simp only [List.getElem?_cons_zero, Option.some.injEq] at h
      subst h
      simp
    | succ i =>
      simp only [List.getElem?_cons_succ] at h
      have := ih h
      cases x <;> simp <;> omega

theorem ready_un {md : Region.Mode} {ops : Array Oper} {L : Array Bool} {i : Nat} (h : i ∈ Region.ready md ops L) : L[i]? = some false := by
  unfold Region.ready at h
  have := (List.mem_filter.1 h).2
  simp only [Bool.and_eq_true, Bool.not_eq_true'] at this
  have h1 := this.1
  rw [Array.getD_eq_getD_getElem?] at h1
  cases hx : L[i]? with
  | none => rw [hx] at h1; simp at h1
  | some b => rw [hx] at h1; simp at h1; rw [h1]

theorem wpAnyH_inv {P : Program} {md : Region.Mode} {ops : Array Oper} {Q : Exit → Act → World → Prop} (Inv : Array Bool → Act → World → Prop)
    (hstep : ∀ L a w i, Inv L a w → i ∈ Region.ready md ops L → wpOp P ops Q i (fun a' w' => Inv (L.setIfInBounds i true) a' w') a w)
    (hend : ∀ L a w, Inv L a w → Region.ready md ops L = [] → Q .normal a w) :
    ∀ (fuel : Nat) (L : Array Bool) (a : Act) (w : World), Inv L a w → L.toList.count false ≤ fuel → wpAnyH P md ops Q (fun _ => True) fuel L a w
  | 0, L, a, w, h, hf => by
    have hr : Region.ready md ops L = [] := by
      refine List.eq_nil_iff_forall_not_mem.2 fun i hi => ?_
      have h1 := ready_un hi
      rw [← Array.getElem?_toList] at h1
      have := List.count_pos_iff.2 (List.mem_of_getElem? h1)
      omega
    exact ⟨hr, hend L a w h hr⟩
  | fuel + 1, L, a, w, h, hf => by
    refine ⟨fun hr => hend L a w h hr, fun i hi => ?_⟩
    have h1 := ready_un hi
    refine wpOp_mono (fun a' w' h' => ⟨trivial, wpAnyH_inv Inv hstep hend fuel _ a' w' h' ?_⟩) (hstep L a w i h hi)
    rw [← Array.getElem?_toList] at h1
    have := count_set h1
    rw [Array.toList_setIfInBounds]
    omega

theorem wpOp_hid {P : Program} {ops : Array Oper} {Q : Exit → Act → World → Prop} {i : Nat} {K : Act → World → Prop} {a : Act} {w : World} {o : Oper} (ho : ops[i]? = some o) (hg : o.guard = none)
    (h : ∀ K' : Act → World → Prop, Hid (∀ a' w', K a' w' → K' a' w') → o.wp P a w K' Q) : wpOp P ops Q i K a w := by
  unfold wpOp
  rw [ho]
  have hw : Region.wanted o (yielded ops a.tmps) = true := by simp [Region.wanted, hg]
  simp only [hw, if_true]
  exact Or.inl (h K (fun _ _ h => h))

end Go.Proofs.YtgfnmkenpgnllaaGreat
