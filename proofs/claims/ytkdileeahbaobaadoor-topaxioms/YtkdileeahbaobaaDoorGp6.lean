/- choose.Picked over pairs. -/
import Derived.Test.YtkdileeahbaobaaDoorGpA
import Derived.Test.YtkdileeahbaobaaDoorAp1
import Derived.Test.YtkdileeahbaobaaDoorMade1
namespace Go.Proofs.YtkdileeahbaobaaDoor
open Go.RowKit
attribute [local go_sem ↓] Go.wp_at_zero Go.wp_at_succ

def ecP (es : List (Nat × Nat)) : List Value := es.flatMap fun e => [.int .i64 (e.1 : Int), .int .i64 (e.2 : Int)]

theorem ecP_len : ∀ es : List (Nat × Nat), (ecP es).length = es.length * 2
  | [] => rfl
  | e :: es => by
    have := ecP_len es
    unfold ecP at this ⊢
    simp only [List.flatMap_cons, List.length_append, List.length_cons, List.length_nil]
    omega

theorem ecP_get : ∀ (es : List (Nat × Nat)) (i : Nat) (e : Nat × Nat), es[i]? = some e → (ecP es)[i * 2]? = some (.int .i64 (e.1 : Int)) ∧ (ecP es)[i * 2 + 1]? = some (.int .i64 (e.2 : Int))
  | [], i, e, h => by simp at h
  | x :: es, 0, e, h => by
    simp only [List.getElem?_cons_zero, Option.some.injEq] at h
    subst h
    exact ⟨rfl, rfl⟩
  | x :: es, i + 1, e, h => by
    simp only [List.getElem?_cons_succ] at h
    have := ecP_get es i e h
    have e1 : (i + 1) * 2 = i * 2 + 1 + 1 := by omega
    have e2 : ecP (x :: es) = .int .i64 (x.1 : Int) :: .int .i64 (x.2 : Int) :: ecP es := rfl
    rw [e1, e2]
    exact this


theorem infoE3 : (Tryd.prog.info? 61).map (fun i => (i.zero, i.size, i.bytes)) = some (some (.agg #[.int .i64 0, .int .i64 0]), 2, 16) := by kernel_rfl


theorem two_newE (w : World) (x y : Value) (t : TypeId) : ∀ j u, [x, y][j]? = some u → (w.alloc (.cells #[x, y] t)).cell? ((⟨w.heap.size, 0, none⟩ : Addr).add j) = some u := fun j u hj => by
  rcases j with _ | _ | j
  · simp at hj; subst hj; simp [Addr.add]
  · simp at hj; subst hj; simp [Addr.add]
  · simp at hj

theorem two_intE (a b : Int) : ∀ u ∈ [Value.int .i64 a, .int .i64 b], u.oneCell' = true := fun u hu => by
  simp at hu
  rcases hu with rfl | rfl <;> rfl

/-- A row of pairs that is one's own is a list of edges. -/
theorem Eds.own {B : Nat} {w : World} {v : Value} {es : List (Nat × Nat)} (h : w.ownsRow B 61 2 v es.length (ecP es)) : Eds w.heap.size w v es := by
  rcases h.2 with ⟨e, h0⟩ | ⟨g, cap, cur, e1, h2, h3, h4, h5, h6, h7⟩
  · exact ⟨none, 0, by rw [e, h0], fun i hi => by omega⟩
  · refine ⟨some ⟨g, 0, none⟩, cap, e1, fun i hi => ⟨g, 0, rfl, (Array.getElem?_eq_some_iff.1 h3).1, ?_⟩⟩
    obtain ⟨k1, k2⟩ := ecP_get es i es[i] (List.getElem?_eq_getElem hi)
    have hel := ecP_len es
    have hce : ∀ j u, (ecP es)[j]? = some u → w.cell? ⟨g, 0 + j, none⟩ = some u := fun j u hj => by
      have hj2 := (List.getElem?_eq_some_iff.1 hj).1
      rw [← h7, List.getElem?_take_of_lt (by omega), Array.getElem?_toList] at hj
      simp [World.cell?, h3, hj]
    have e2 : es.getD i (0, 0) = es[i] := by simp [hi]
    rw [e2]
    exact ⟨hce _ _ k1, hce _ _ k2⟩

end Go.Proofs.YtkdileeahbaobaaDoor
