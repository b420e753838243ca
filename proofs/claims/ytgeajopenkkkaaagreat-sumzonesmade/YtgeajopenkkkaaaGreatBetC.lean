import Derived.Test.YtgeajopenkkkaaaGreatRefA
import Derived.Test.YtgeajopenkkkaaaGreatHulAll
import Derived.Test.YtgeajopenkkkaaaGreatMade1
import Derived.Test.YtgeajopenkkkaaaGreatRunD
import Derived.Test.YtgeajopenkkkaaaGreatCycAll
/- Two lists, added. -/
namespace Go.Proofs.YtgeajopenkkkaaaGreat
open Go.RowKit
attribute [local go_sem ↓] Go.wp_at_zero Go.wp_at_succ

def addL (a b : List Int) : List Int := (List.range a.length).map fun i => a.getD i 0 + b.getD i 0

theorem addL_length (a b : List Int) : (addL a b).length = a.length := by simp [addL]

theorem addL_snoc (a b : List Int) (k : Nat) (h : k < a.length) : (addL a b).take (k + 1) = (addL a b).take k ++ [a.getD k 0 + b.getD k 0] := by
  rw [List.take_succ_eq_append_getElem (by rw [addL_length]; exact h)]
  congr 1
  simp [addL]

end Go.Proofs.YtgeajopenkkkaaaGreat

/- What is between two points; what lies far out. -/
namespace Go.Proofs.YtgeajopenkkkaaaGreat
open Lin

theorem full_of_span {d : Nat} {P : List (List Int)} (hP : ∀ y ∈ P, y.length = d) (h : ∀ c : Nat → Int, (∀ y ∈ P, ∀ z ∈ P, dot d c (V y) = dot d c (V z)) → ∀ i, i < d → c i = 0) : (pickL d (diffL P)).length = d := by
  have hgr := pick_greedy d (diffL P)
  have := (greedy_full hgr).2 (fun v hv => h v fun y hy z hz => by
    have key : ∀ y ∈ P, dot d v (V y) = dot d v (V (P.getD 0 [])) := fun y hy => by
      cases hPe : P with
      | nil => rw [hPe] at hy; simp at hy
      | cons p0 P' =>
        rw [hPe] at hy
        rcases List.mem_cons.1 hy with rfl | hy
        · rfl
        · have h1 := hv (V (subL y p0)) (mem_fm.2 ⟨_, by rw [hPe]; simp only [diffL, List.drop_succ_cons, List.drop_zero]; exact List.mem_map.2 ⟨y, hy, rfl⟩, rfl⟩)
          rw [dot_comm, dot_subL v (hP y (by rw [hPe]; simp [hy]))] at h1
          show dot d v (V y) = dot d v (V p0)
          omega
    rw [key y hy, key z hz])
  rw [fm_length] at this
  exact this

end Go.Proofs.YtgeajopenkkkaaaGreat
