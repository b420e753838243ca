/- Lists compared, and whether they are one. -/
import Derived.Test.YtkdileeahbaobaaDoorReads
namespace Go.Proofs.YtkdileeahbaobaaDoor
open Go.RowKit

def cmpI (x y : Int) : Int := if x < y then -1 else if y < x then 1 else 0

/-- In order, as lists. -/
def cmpL : List Int → List Int → Int
  | [], [] => 0
  | [], _ :: _ => -1
  | _ :: _, [] => 1
  | x :: xs, y :: ys => if x < y then -1 else if y < x then 1 else cmpL xs ys

set_option maxRecDepth 100000 in
theorem nan_any (x : Int) (w : World) : Calls Tryd.prog 45 #[.int .i64 x] w fun e w' => e = .returned (.bool false) ∧ w' = w := by
  have hx : (x != x) = false := by simp
  go_enter Tryd.func45, Tryd.ntmps45
  go_wp2
  go_ret
  exact ⟨ret_bool (by simp), rfl⟩

theorem cmpL_at {x y : List Int} {k : Nat} (h1 : k < x.length) (h2 : k < y.length) : cmpL (x.drop k) (y.drop k) = if cmpI (x.getD k 0) (y.getD k 0) = 0 then cmpL (x.drop (k + 1)) (y.drop (k + 1)) else cmpI (x.getD k 0) (y.getD k 0) := by
  rw [List.drop_eq_getElem_cons h1, List.drop_eq_getElem_cons h2]
  simp only [cmpL, cmpI, List.getD_eq_getElem?_getD, List.getElem?_eq_getElem h1, List.getElem?_eq_getElem h2, Option.getD_some]
  by_cases a : x[k] < y[k]
  · simp [a]
  · by_cases b : y[k] < x[k]
    · simp [a, b]
    · simp [a, b]

end Go.Proofs.YtkdileeahbaobaaDoor
