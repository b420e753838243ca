/- Of points the least and the greatest number in a direction. -/
import Derived.Test.YtbmncbbibipoaaaGreatData
namespace Go.Proofs.YtbmncbbibipoaaaGreat

def loT (P : List (List Int)) (c j : Nat) : Int := (P.take j).foldl (fun a x => min a (x.getD c 0)) ((P.getD 0 []).getD c 0)
def hiT (P : List (List Int)) (c j : Nat) : Int := (P.take j).foldl (fun a x => max a (x.getD c 0)) ((P.getD 0 []).getD c 0)
def loL (P : List (List Int)) (d : Nat) : List Int := (List.range d).map fun c => loT P c P.length
def hiL (P : List (List Int)) (d : Nat) : List Int := (List.range d).map fun c => hiT P c P.length

theorem loT_succ (P : List (List Int)) (c j : Nat) (h : j < P.length) : loT P c (j + 1) = min (loT P c j) ((P.getD j []).getD c 0) := by
  unfold loT
  have e : P.getD j [] = P[j] := by simp [h]
  rw [List.take_succ_eq_append_getElem h, List.foldl_append, e]
  rfl

theorem hiT_succ (P : List (List Int)) (c j : Nat) (h : j < P.length) : hiT P c (j + 1) = max (hiT P c j) ((P.getD j []).getD c 0) := by
  unfold hiT
  have e : P.getD j [] = P[j] := by simp [h]
  rw [List.take_succ_eq_append_getElem h, List.foldl_append, e]
  rfl

end Go.Proofs.YtbmncbbibipoaaaGreat
