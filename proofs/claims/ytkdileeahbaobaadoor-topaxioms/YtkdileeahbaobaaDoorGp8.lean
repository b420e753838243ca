/- slices.DeleteFunc over ints with made's closure. -/
import Derived.Test.YtkdileeahbaobaaDoorGpA
import Derived.Test.YtkdileeahbaobaaDoorTk1
import Derived.Test.YtkdileeahbaobaaDoorCycAll
import Derived.Lib.SliceRun
import Derived.Lib.LazyBuf
import Derived.Laws.EntriesVeiled
namespace Go.Proofs.YtkdileeahbaobaaDoor
open Go.RowKit
attribute [local go_sem ↓] Go.wp_at_zero Go.wp_at_succ

structure TouI (g : Nat) (w w' : World) : Prop where
  os : w'.os = w.os
  tape : w'.tape = w.tape
  output : w'.output = w.output
  size : w'.heap.size = w.heap.size
  block : ∀ b, b ≠ g → w'.heap[b]? = w.heap[b]?

theorem TouI.refl (g : Nat) (w : World) : TouI g w w := ⟨rfl, rfl, rfl, rfl, fun _ _ => rfl⟩
theorem TouI.drewN {g : Nat} {w w' : World} (h : TouI g w w') (n : Nat) : TouI g w (w'.drewN n) := ⟨h.os, h.tape, h.output, h.size, h.block⟩
theorem TouI.drew {g : Nat} {w w' : World} (h : TouI g w w') : TouI g w w'.drew := ⟨h.os, h.tape, h.output, h.size, h.block⟩
theorem TouI.setCell {g : Nat} {w w' : World} (h : TouI g w w') (j : Nat) (u : Value) : TouI g w (w'.setCell ⟨g, j, none⟩ u) :=
  ⟨h.os, h.tape, h.output, by simp [World.setCell, h.size], fun b hb => (Below.heap_setCell _ _ _ _ hb).trans (h.block b hb)⟩
theorem TouI.cell {g : Nat} {w w' : World} (h : TouI g w w') {a : Addr} (ha : a.block ≠ g) : w'.cell? a = w.cell? a := World.cell?_of_block (w := w) (h.block _ ha)
theorem TouI.below {g M : Nat} {w w2 wr : World} (h : TouI g w2 wr) (hb : Below M w w2) (hg : M ≤ g) : Below M w wr :=
  ⟨h.os.trans hb.os, h.tape.trans hb.tape, h.output.trans hb.output, by rw [h.size]; exact hb.size, fun b hlt => (h.block b (by omega)).trans (hb.block b hlt)⟩
theorem TouI.setCells {g : Nat} {w : World} : ∀ (vs : List Value) (o : Nat) {w' : World}, TouI g w w' → TouI g w (w'.setCells g o vs)
  | [], _, _, h => h
  | v :: r, o, _, h => TouI.setCells r (o + 1) (h.setCell o v)


/-- Has a set fewer than q things? -/
def lsQ (q : Nat) (x : Int) : Bool := decide ((mem8 x.toNat).length < q)

/-- A row of one's own, as cells. -/
theorem own_row {B n : Nat} {w : World} {v : Value} {m : List Int} (h : w.ownsRow B 3 1 v n (ints m)) (hn : n = m.length) (hm : 0 < m.length) : ∃ g cap F, v = .slice (some ⟨g, 0, none⟩) m.length cap ∧ B ≤ g ∧ m.length ≤ cap ∧ cap ≤ 9223372036854775807 ∧ w.rowIs g 3 cap F ∧ ∀ i, i < m.length → F i = .int .i64 (m.getD i 0) := by
  subst hn
  rcases h.2 with ⟨_, h0⟩ | ⟨g, cap, cur, hv, hb, hh, hn, hc, hs, ht⟩
  · omega
  · refine ⟨g, cap, fun i => cur.toList.getD i (.int .i64 0), hv, hb, hn, by unfold maxLen at hc; exact hc, ⟨cur, hh, by omega, fun i hi => ?_⟩, fun i hi => ?_⟩
    · show cur[i]? = some (cur.toList.getD i (.int .i64 0))
      rw [← Array.getElem?_toList, List.getD_eq_getElem?_getD, List.getElem?_eq_getElem (by simp; omega)]; rfl
    · have e : cur.toList.getD i (.int .i64 0) = (ints m).getD i (.int .i64 0) := by
        rw [← ht]
        simp only [List.getD_eq_getElem?_getD]
        rw [List.getElem?_take_of_lt (by omega)]
      show cur.toList.getD i (.int .i64 0) = _
      rw [e]
      simp [ints, hi]

theorem row_own {B : Nat} {w : World} {g cap : Nat} {F : Nat → Value} {m : List Int} (h : w.rowIs g 3 cap F) (hB : B ≤ g) (h4 : m.length ≤ cap) (h5 : cap ≤ 9223372036854775807) (h6 : ∀ i, i < m.length → F i = .int .i64 (m.getD i 0)) : w.ownsRow B 3 1 (.slice (some ⟨g, 0, none⟩) m.length cap) m.length (ints m) := by
  obtain ⟨c, h1, h2, h3⟩ := h
  refine ⟨by simp [ints], Or.inr ⟨g, cap, c, rfl, hB, h1, h4, by unfold maxLen; exact h5, by omega, ?_⟩⟩
  apply List.ext_getElem?
  intro i
  by_cases hi : i < m.length
  · rw [List.getElem?_take_of_lt (by omega), Array.getElem?_toList, h3 i (by omega), h6 i hi]; simp [ints, hi]
  · rw [List.getElem?_eq_none (by simp; omega), List.getElem?_eq_none (by simp [ints]; omega)]

/-- What the walk of DeleteFunc holds. -/
structure Di (B : Nat) (w : World) (g cap b1 q : Nat) (m : List Int) (f : Int → Bool) (j c : Nat) (F : Nat → Value) (wr : World) : Prop where
  row : wr.rowIs g 3 cap F
  len : c = ((m.take j).filter fun r => !f r).length
  done : ∀ i, i < c → F i = .int .i64 (((m.take j).filter fun r => !f r).getD i 0)
  rest : ∀ i, j ≤ i → i < m.length → F i = .int .i64 (m.getD i 0)
  lt : c < j
  bel : Below B w wr
  hB : B ≤ g
  box : wr.cell? ⟨b1, 0, none⟩ = some (.int .i64 q)
  ne : b1 ≠ g

theorem Di.below {B : Nat} {w : World} {g cap b1 q : Nat} {m : List Int} {f : Int → Bool} {j c : Nat} {F : Nat → Value} {wr w2 : World} (h : Di B w g cap b1 q m f j c F wr) (hb : Below wr.heap.size wr w2) : Di B w g cap b1 q m f j c F w2 :=
  ⟨h.row.of_block (hb.block g h.row.lt), h.len, h.done, h.rest, h.lt, h.bel.trans (hb.mono (by have := h.hB; have := h.row.lt; omega)), h.hB, (hb.cell (lt_of_cell h.box)).trans h.box, h.ne⟩

theorem filtI_snoc {m : List Int} {f : Int → Bool} {j : Nat} (hj : j < m.length) : ((m.take (j + 1)).filter fun r => !f r) = ((m.take j).filter fun r => !f r) ++ (if f (m.getD j 0) = true then [] else [m.getD j 0]) := by
  have e : m.getD j 0 = m[j] := by simp [hj]
  rw [List.take_succ_eq_append_getElem hj, List.filter_append, e]
  cases hf : f m[j] <;> simp [hf]

theorem Di.skip {B : Nat} {w : World} {g cap b1 q : Nat} {m : List Int} {f : Int → Bool} {j c : Nat} {F : Nat → Value} {wr : World} (h : Di B w g cap b1 q m f j c F wr) (hj : j < m.length) (hf : f (m.getD j 0) = true) : Di B w g cap b1 q m f (j + 1) c F wr := by
  have e := filtI_snoc (f := f) hj
  rw [if_pos hf, List.append_nil] at e
  exact ⟨h.row, by rw [e]; exact h.len, by rw [e]; exact h.done, fun i h1 h2 => h.rest i (by omega) h2, by have := h.lt; omega, h.bel, h.hB, h.box, h.ne⟩

theorem Di.next {B : Nat} {w : World} {g cap b1 q : Nat} {m : List Int} {f : Int → Bool} {j c : Nat} {F : Nat → Value} {wr : World} (h : Di B w g cap b1 q m f j c F wr) (hj : j < m.length) (hf : f (m.getD j 0) = false) : Di B w g cap b1 q m f (j + 1) (c + 1) (fun i => if i = c then .int .i64 (m.getD j 0) else F i) (wr.setCell ⟨g, c, none⟩ (.int .i64 (m.getD j 0))) := by
  have e := filtI_snoc (f := f) hj
  rw [if_neg (by rw [hf]; decide)] at e
  have ht : TouI g wr (wr.setCell ⟨g, c, none⟩ (.int .i64 (m.getD j 0))) := (TouI.refl _ _).setCell c _
  have hl := h.len
  have hlt := h.lt
  refine ⟨h.row.set c _, by rw [e, List.length_append, ← hl]; rfl, fun i hi => ?_, fun i h1 h2 => ?_, by omega, ht.below h.bel h.hB, h.hB, (ht.cell (by show b1 ≠ g; exact h.ne)).trans h.box, h.ne⟩
  · rw [e]
    by_cases hic : i = c
    · subst hic
      have e2 : (((m.take j).filter fun r => !f r) ++ [m.getD j 0]).getD i 0 = m.getD j 0 := by rw [hl]; simp
      rw [e2, if_pos rfl]
    · have e2 : (((m.take j).filter fun r => !f r) ++ [m.getD j 0]).getD i 0 = ((m.take j).filter fun r => !f r).getD i 0 := by
        simp only [List.getD_eq_getElem?_getD]; rw [List.getElem?_append_left (by omega)]
      rw [e2, if_neg hic]
      exact h.done i (by omega)
  · rw [if_neg (by omega)]
    exact h.rest i (by omega) h2

theorem Di.fin {B : Nat} {w : World} {g cap b1 q : Nat} {m : List Int} {f : Int → Bool} {j c : Nat} {F : Nat → Value} {wr : World} (h : Di B w g cap b1 q m f j c F wr) (hj : j = m.length) (h1 : m.length ≤ cap) (h2 : cap ≤ 9223372036854775807) :
    (wr.setCells g c (List.replicate (m.length - c) (.int .i64 0))).ownsRow B 3 1 (.slice (some ⟨g, 0, none⟩) c cap) (m.filter fun r => !f r).length (ints (m.filter fun r => !f r)) ∧ Below B w (wr.setCells g c (List.replicate (m.length - c) (.int .i64 0))) := by
  subst hj
  have e : m.take m.length = m := List.take_length
  have hl := h.len
  have hd := h.done
  rw [e] at hl hd
  have ht : TouI g wr (wr.setCells g c (List.replicate (m.length - c) (.int .i64 0))) := TouI.setCells _ _ (TouI.refl _ _)
  have hlt := h.lt
  refine ⟨?_, ht.below h.bel h.hB⟩
  have hrow := rowIs_setCells (List.replicate (m.length - c) (Value.int .i64 0)) c wr F h.row
  have := row_own (B := B) (m := m.filter fun r => !f r) hrow h.hB (by omega) h2 (fun i hi => by
    rw [← hl] at hi
    rw [if_neg (by omega)]
    exact hd i hi)
  rw [← hl] at this ⊢
  exact this

end Go.Proofs.YtkdileeahbaobaaDoor
