/- cone.wayBy: rows laid across; the one way by just these rows. -/
import Derived.Test.YtgfnmkenpgnllaaGreatWay0
import Derived.Test.YtgfnmkenpgnllaaGreatOwn2
import Derived.Test.YtgfnmkenpgnllaaGreatOf3
namespace Go.Proofs.YtgfnmkenpgnllaaGreat
open Go.RowKit
attribute [local go_sem ↓] Go.wp_at_zero Go.wp_at_succ

def acrR (rs : List (List Int)) (g : List Int) (i : Nat) : List Int := rs.map (fun r => r.getD i 0) ++ [-(g.getD i 0)]
def acrL (g : List Int) (rs : List (List Int)) : List (List Int) := (List.range g.length).map (acrR rs g)
def wayN (g : List Int) (rs : List (List Int)) : List Int := normL (rs.length + 1) (acrL g rs)
/-- Is there just one way, above 0 of each? -/
def wayB (g : List Int) (rs : List (List Int)) : Bool := normB (rs.length + 1) (acrL g rs) && !(wayN g rs).any lowB

theorem acrL_mx {g : List Int} {rs : List (List Int)} (hr : ∀ r ∈ rs, ∀ z ∈ r, z.natAbs ≤ 60) (hg : ∀ z ∈ g, z.natAbs ≤ 60) (h4 : rs.length ≤ 4) : Mx (rs.length + 1) 60 (acrL g rs) := by
  refine ⟨fun r hr => ?_, fun r h z hz => ?_, by omega, by omega, by decide, Nat.le_trans (fb_mono (by decide) (show _ ≤ 5 by omega)) (by decide)⟩
  · simp only [acrL, List.mem_map] at hr
    obtain ⟨i, _, rfl⟩ := hr
    simp [acrR]
  · simp only [acrL, List.mem_map] at h
    obtain ⟨i, _, rfl⟩ := h
    simp only [acrR, List.mem_append, List.mem_map, List.mem_singleton] at hz
    rcases hz with ⟨r, h1, rfl⟩ | rfl
    · by_cases e : i < r.length
      · exact hr r h1 _ (by simp [e])
      · simp [List.getElem?_eq_none (Nat.le_of_not_lt e)]
    · by_cases e : i < g.length
      · have := hg (g.getD i 0) (by simp [e])
        omega
      · simp [List.getElem?_eq_none (Nat.le_of_not_lt e)]

/-- Rows being laid, in the cells of block G. -/
structure Ac (w0 : World) (G n k : Nat) (m : List (List Int)) (f : Nat → Value) (w : World) : Prop where
  bel : Below w0.heap.size w0 w
  hG : w0.heap.size ≤ G
  row : w.rowIs G 22 n f
  done : ∀ j, j < k → Sl 0 3 w (f j) (ints (m.getD j []))
  free : ∀ j, k ≤ j → j < n → f j = .slice none 0 0

theorem Ac.lt {w0 w : World} {G n k : Nat} {m : List (List Int)} {f : Nat → Value} (h : Ac w0 G n k m f w) : G < w.heap.size := by
  obtain ⟨c, h1, _⟩ := h.row
  exact (Array.getElem?_eq_some_iff.1 h1).1

theorem sl_chg {w w' : World} {v : Value} {xs : List Value} {cur : Array Value} {G : Nat} (h : Sl 0 3 w v xs) (hc : Chg (fun b => b = G) w w') (hG : w.heap[G]? = some (.cells cur 22 (0, 0))) : Sl 0 3 w' v xs :=
  h.move fun b hl ht => ⟨hc.block b hl (fun e => by
    subst e
    rcases ht with ht | ⟨c, ht⟩
    · omega
    · rw [hG] at ht; simp at ht), ht⟩

/-- Within one row: t numbers are there. -/
structure Ai (wa : World) (G n k t : Nat) (f : Nat → Value) (l : List Int) (cur : Value) (w : World) : Prop where
  chg : Chg (fun b => b = G) wa w
  row : w.rowIs G 22 n (fun j => if j = k then cur else f j)
  own : w.ownsRow wa.heap.size 3 1 cur t (ints l)
  len : l.length = t

theorem Ai.push {wa w w3 : World} {G n k t : Nat} {f : Nat → Value} {l : List Int} {cur v' : Value} {z : Int} (h : Ai wa G n k t f l cur w) (hG : G < wa.heap.size) (hk : k < n)
    (ho : w3.ownsRow wa.heap.size 3 1 v' (t + 1) (ints l ++ [.int .i64 z])) (hg : (w.alloc (.cells #[.int .i64 z] 3)).grownBy w3 cur.ownBlock) :
    w3.cell? ⟨G, k, none⟩ = some cur ∧ w3.frozen? ⟨G, k, none⟩ = false ∧ Ai wa G n k (t + 1) f (l ++ [z]) v' (w3.setCell ⟨G, k, none⟩ v') := by
  have hs := h.chg.size
  have hbl : ∀ b, b < wa.heap.size → w3.heap[b]? = w.heap[b]? := fun b hb => by
    rw [hg.block b (by simp; omega) (fun e => by have := (h.own.lt b e.symm).1; omega)]
    exact Below.heap_alloc _ _ _ (by omega)
  have hr3 : w3.rowIs G 22 n (fun j => if j = k then cur else f j) := by
    obtain ⟨c, h1, h2, h3⟩ := h.row
    exact ⟨c, (hbl G hG).trans h1, h2, h3⟩
  refine ⟨?_, hr3.frozen k, ?_, ?_, ?_, ?_⟩
  · have := hr3.cell (i := k) hk
    simpa using this
  · have g0 := hg.size
    simp at g0
    refine Chg.setCell ⟨(hg.os).trans h.chg.os, (hg.tape).trans h.chg.tape, (hg.output).trans h.chg.output, by omega, fun b hb hn => (hbl b hb).trans (h.chg.block b hb hn)⟩ rfl _
  · have := hr3.set k v'
    refine cast ?_ this
    congr 1
    funext j
    by_cases e : j = k <;> simp [e]
  · rw [← ints_snoc]
    refine ownsRow_setCell_other ho (fun e => ?_) _
    have := (ho.lt _ e).1
    simp at this
    omega
  · simp [h.len]

theorem Ac.next {W0 wa w : World} {G n k T : Nat} {m : List (List Int)} {f : Nat → Value} {l : List Int} {cur : Value} (h : Ac W0 G n k m f wa) (hi : Ai wa G n k T f l cur w) (hm : m.getD k [] = l) :
    Ac W0 G n (k + 1) m (fun j => if j = k then cur else f j) w := by
  have hb := h.bel
  have hG := h.hG
  obtain ⟨cur0, h1, _⟩ := h.row
  refine ⟨⟨hi.chg.os.trans hb.os, hi.chg.tape.trans hb.tape, hi.chg.output.trans hb.output, Nat.le_trans hb.size hi.chg.size, fun b hlt => (hi.chg.block b (by have := hb.size; omega) (by omega)).trans (hb.block b hlt)⟩, hG, hi.row, fun j hj => ?_, fun j h1 h2 => ?_⟩
  · by_cases e : j = k
    · subst e
      simp only [if_true]
      rw [hm]
      exact Sl.own hi.own
    · simp only [e, if_false]
      exact sl_chg (h.done j (by omega)) hi.chg h1
  · simp only [show j ≠ k by omega, if_false]
    exact h.free j (by omega) h2

theorem Sl.cut {B n c : Nat} {w : World} {a : Addr} {zs : List Int} (h : Sl B 3 w (.slice (some a) zs.length c) (ints zs)) (hn : n ≤ zs.length) : Sl B 3 w (.slice (some a) n n) (ints (zs.take n)) := by
  obtain ⟨bo, cap, hv, h1, h2, h3, h4⟩ := h
  simp only [Value.slice.injEq] at hv
  obtain ⟨rfl, _, rfl⟩ := hv
  simp at h1
  refine ⟨some a, n, by simp; omega, by simp; omega, by omega, fun i hi => ?_, fun h => by cases h⟩
  have hi' : i < n := by simp at hi; omega
  obtain ⟨b, o, ha, hc, ht⟩ := h3 i (by simp; omega)
  refine ⟨b, o, ha, ?_, ht⟩
  rw [hc, ints_get _ _ (by omega), ints_get _ _ (by simp; omega)]
  simp [hi']

/-- Three cells of a block of another type are set. -/
theorem sl_set3 {w : World} {R : Nat} {t : TypeId} {cur : Array Value} {v : Value} {xs : List Value} (h : Sl 0 3 w v xs) (hR : w.heap[R]? = some (.cells cur t (0, 0))) (ht : t ≠ 3) (a b c : Value) :
    Sl 0 3 (((w.setCell ⟨R, 0, none⟩ a).setCell ⟨R, 1, none⟩ b).setCell ⟨R, 2, none⟩ c) v xs :=
  h.move fun k hl hk => ⟨by
    have hne : k ≠ R := fun e => by
      subst e
      rcases hk with hk | ⟨c, hk⟩
      · omega
      · rw [hR] at hk; simp at hk; exact ht hk.2
    rw [Below.heap_setCell _ _ _ _ hne, Below.heap_setCell _ _ _ _ hne, Below.heap_setCell _ _ _ _ hne], hk⟩

theorem Ac.mat {W0 w : World} {G : Nat} {g : List Int} {rs : List (List Int)} {f : Nat → Value} {B : Nat} (h : Ac W0 G g.length g.length (acrL g rs) f w) (h5 : g.length ≤ 5) : Mat B 22 3 w (.slice (some ⟨G, 0, none⟩) g.length g.length) (acrL g rs) := by
  have hl : (acrL g rs).length = g.length := by simp [acrL]
  refine ⟨(List.range g.length).map f, by simp [hl], Sl.row h.row (by simp) (by unfold maxLen; omega) (fun i hi => by simp [hi]), fun i hi => ?_⟩
  rw [hl] at hi
  have e : ((List.range g.length).map f).getD i (.slice none 0 0) = f i := by simp [hi]
  rw [e]
  exact (h.done i hi).more (Nat.zero_le _)

end Go.Proofs.YtgfnmkenpgnllaaGreat
