import Derived.Test.YtilblfoapjnmaaaGreatDoorMgAW
import Derived.Test.YtilblfoapjnmaaaGreatDoorRq3a
import Derived.Test.YtilblfoapjnmaaaGreatDoorRq3b
import Derived.Test.YtilblfoapjnmaaaGreatDoorRq3c
import Derived.Test.YtilblfoapjnmaaaGreatDoorRq3d
import Derived.Test.YtilblfoapjnmaaaGreatDoorRq3e
import Derived.Test.YtilblfoapjnmaaaGreatDoorMgAN
import Derived.Laws.AppendOwn
import Derived.Test.YtilblfoapjnmaaaGreatDoorMgAC
import Derived.Laws.CopyOwn
import Derived.Test.YtilblfoapjnmaaaGreatDoorMgAM
import Derived.Test.YtilblfoapjnmaaaGreatDoorMgAA
import Derived.Deep.RegionHeld3
import Derived.Deep.RegionLaw
import Derived.Maps.AppendAt
import Derived.Test.YtilblfoapjnmaaaGreatDoorMgAB
import Derived.Deep.Matrix
import Derived.Carry
/- facetlaw.RootSays of any square; facetlaw.RootMade. -/
namespace Go.Proofs.YtilblfoapjnmaaaGreatDoor
open Go.RowKit
attribute [local go_sem ↓] Go.wp_at_zero Go.wp_at_succ

set_option maxRecDepth 100000 in
theorem ok4 {i j : Nat} (hi : i < 6) (hj : j < 6) : Ok4 i j := by
  have h : ∀ i ∈ List.range 6, ∀ j ∈ List.range 6, (i, j) ∈ ([(0, 0)] : List (Nat × Nat)) ∨ (i, j) ∈ ([(0, 1), (0, 2)] : List (Nat × Nat)) ∨ (i, j) ∈ ([(0, 3), (0, 4), (0, 5), (1, 0)] : List (Nat × Nat)) ∨ (i, j) ∈ ([(1, 1), (1, 2), (1, 3), (1, 4), (1, 5), (2, 0), (2, 1), (2, 2), (2, 3), (2, 4), (2, 5)] : List (Nat × Nat)) ∨ (i, j) ∈ ([(3, 0), (3, 1), (3, 2), (3, 3), (3, 4), (3, 5), (4, 0), (4, 1), (4, 2), (4, 3), (4, 4), (4, 5), (5, 0), (5, 1), (5, 2), (5, 3), (5, 4), (5, 5)] : List (Nat × Nat)) := by decide
  rcases h i (List.mem_range.2 hi) j (List.mem_range.2 hj) with h | h | h | h | h
  · exact ok4a _ h
  · exact ok4b _ h
  · exact ok4c _ h
  · exact ok4d _ h
  · exact ok4e _ h

/-- Whatever square has an end: the kernel has looked at it. -/
theorem shp_ok {n : Nat} {c : List (List Int)} (h : Shp n c) (hl : (abL c).length ≤ 24) : sqOk c n = true := by
  have h1 := h.n1
  have h4 := h.sq.n4
  rcases (show n = 1 ∨ n = 2 ∨ n = 3 ∨ n = 4 by omega) with e | e | e | e
  · subst e
    have e : c = [[cE c 0 0]] := by
      conv => lhs; rw [sqc_eta h.sq]
      rfl
    rw [h.dia 0 (by omega)] at e
    rw [e]
    exact ok1
  · subst e
    obtain ⟨i, hi, e⟩ := cls2 h hl
    rw [c2 h, e]
    exact ok2 i (List.mem_range.2 hi)
  · subst e
    obtain ⟨i, j, k, ⟨hi, hj, hk⟩, ht, e1, e2, e3⟩ := cls3 h hl
    rw [c3 h, e1, e2, e3]
    exact ok3 i (List.mem_range.2 hi) j (List.mem_range.2 hj) k (List.mem_range.2 hk) ht
  · subst e
    obtain ⟨i, j, k, s, t, u, ⟨hi, hj, hk, hs, ht, hu⟩, ⟨t1, t2, t4, t5⟩, e⟩ := cls4 h hl
    rw [e] at hl ⊢
    exact ok4 hi hj k (List.mem_range.2 hk) t1 s (List.mem_range.2 hs) t (List.mem_range.2 ht) t2 u (List.mem_range.2 hu) t4 t5 hl

set_option maxRecDepth 100000 in
theorem rootSays_all (c : List (List Int)) (cv : Value) (w : World) (hm : Mat w.heap.size 26 3 w cv c) :
    Calls Tryz.prog 3 #[cv] w fun e w' => e = .returned (.bool true) ∧ Below w.heap.size w w' := by
  by_cases hne : ckE c = 0
  · obtain ⟨hs, hl⟩ := ck_zero hne
    have hok := shp_ok hs hl
    unfold sqOk at hok
    rw [Bool.and_eq_true] at hok
    obtain ⟨hrt, hbd⟩ := hok
    have hg : Gdc c.length c := ⟨hs.sq, hs.n1, hs.dia, hs.off, hl, fun b hb => ⟨(shp_bd hs b hb).1, getD_bd (by omega) (fun x hx => by
      have h1 := List.all_eq_true.1 hbd b hb
      have h2 := List.all_eq_true.1 h1 x hx
      rw [decide_eq_true_eq] at h2
      exact h2)⟩⟩
    exact rootSays_any c.length c cv w hg (shp_pos hs) (shp_g hs).1.nod hrt hm
  · exact rootSaysX_any c cv w hne hm

end Go.Proofs.YtilblfoapjnmaaaGreatDoor

/- Arguments that are lists, and lists of lists, of integers, as the call finds them. -/

namespace Go.Proofs.YtilblfoapjnmaaaGreatDoor
open Go.ChangeShapes Go.WideShapes Go.RowKit Go.Deep

theorem Tryz.cells3 : Tryz.prog.cellsOf 3 = 1 := by kernel_rfl
theorem Tryz.cells26 : Tryz.prog.cellsOf 26 = 1 := by kernel_rfl
theorem Tryz.laidOut : laidOutB Tryz.prog = true := by kernel_rfl

theorem addr_none {w : World} {a : Addr} {u : Value} (h : w.cell? a = some u) : a = ⟨a.block, a.off, none⟩ := by
  obtain ⟨b, o, s⟩ := a
  cases s with
  | none => rfl
  | some s =>
    exfalso
    unfold World.cell? at h
    split at h <;> simp at h

theorem sl_of_cells {w : World} {a : Addr} {len cap : Nat} {e : TypeId} {xs : List Value} (hl : xs.length = len) (h1 : len ≤ cap) (h2 : cap ≤ maxLen) (hc : ∀ i, i < len → w.cell? (a.add i) = xs[i]?) : Sl w.heap.size e w (.slice (some a) len cap) xs := by
  refine ⟨some a, cap, by rw [hl], by omega, h2, fun i hi => ?_, fun h => by cases h⟩
  have hi' : i < len := by omega
  have hx : xs[i]? = some xs[i] := List.getElem?_eq_getElem hi
  have hz : xs[0]? = some xs[0] := List.getElem?_eq_getElem (by omega)
  have h0 := hc i hi'
  have ha : a = ⟨a.block, a.off, none⟩ := addr_none (u := xs[0]) (by have := hc 0 (by omega); rw [hz] at this; simpa [Addr.add] using this)
  obtain ⟨b, o, s⟩ := a
  simp only [Addr.mk.injEq, true_and] at ha
  subst ha
  have e : (⟨b, o, none⟩ : Addr).add i = ⟨b, o + i, none⟩ := by
    unfold Addr.add
    by_cases h : i = 0
    · subst h; simp
    · simp [h]
  rw [e] at h0
  exact ⟨b, o, rfl, h0, Or.inl (World.block_lt_of_cell? w ⟨b, o + i, none⟩ (h0.trans hx))⟩

/-- A list of lists of integers. -/
theorem open_mat {H : Type} {enc : TypeId × Value → H} {w : World} {ao : Option Addr} {l0 c0 : Nat} {d : DataW H} {p : List MemPlace} (h : DataW.Trod enc Tryz.prog w 0 (fun _ => true) true 22 (.slice ao l0 c0) d p) : ∃ m, Mat w.heap.size 26 3 w (.slice ao l0 c0) m := by
  obtain ⟨fuel, hf⟩ := h
  rcases open_int_rows Tryz.underlying22 Tryz.underlying26 Tryz.underlying3 Tryz.cells26 Tryz.cells3 hf with ⟨hcs, _⟩ | ⟨a, len, cap, A, L, C, Z, hcs, _, hl, hm, _, hrows⟩
  · simp [Value.cells] at hcs
    obtain ⟨rfl, rfl, rfl⟩ := hcs
    exact ⟨[], [], rfl, Sl.nil _ _ _, fun i hi => absurd hi (by simp)⟩
  · simp [Value.cells] at hcs
    obtain ⟨rfl, rfl, rfl⟩ := hcs
    refine ⟨(List.range l0).map fun r => (Z r).take (L r), (List.range l0).map fun r => .slice (A r) (L r) (C r), by simp, ?_, fun i hi => ?_⟩
    · refine sl_of_cells (by simp) hl hm fun i hi => ?_
      rw [(hrows i (by omega)).1]; simp [hi]
    · have hi' : i < l0 := by simpa using hi
      obtain ⟨h1, h2, h3, h4, _, h6, h7⟩ := hrows i (by omega)
      have e1 : ((List.range l0).map fun r => Value.slice (A r) (L r) (C r)).getD i (.slice none 0 0) = .slice (A i) (L i) (C i) := by simp [hi']
      have e2 : ((List.range l0).map fun r => (Z r).take (L r)).getD i [] = (Z i).take (L i) := by simp [hi']
      rw [e1, e2]
      cases hA : A i with
      | none =>
        have hC := h6 hA
        have hL : L i = 0 := by omega
        rw [hC, hL]; exact Sl.nil _ _ _
      | some a' =>
        refine sl_of_cells (by simp; omega) h2 h3 fun j hj => ?_
        rw [(h7 a' hA).2 j (by omega), ints_get _ _ (by simp; omega)]
        simp [hj]

end Go.Proofs.YtilblfoapjnmaaaGreatDoor

/- Integers as the call finds them lie within 64 bits. -/
namespace Go.Proofs.YtilblfoapjnmaaaGreatDoor
open Go.ChangeShapes Go.WideShapes Go.RowKit Go.Deep

end Go.Proofs.YtilblfoapjnmaaaGreatDoor
