/- A cut's box that is appended to, beside rows of rows that are read. -/
import Derived.Test.YtgfnmkenpgnllaaGreatRefs3
import Derived.Lib.OthersKept
import Derived.Test.YtgfnmkenpgnllaaGreatStepsAll
import Derived.Deep.Onto
import Derived.Maps.AppendAt
namespace Go.Proofs.YtgfnmkenpgnllaaGreat
open Go.RowKit

theorem infoSlC : (Tryz.prog.info? 22).map (fun i => (i.zero, i.size, i.bytes)) = some (some (.slice none 0 0), 1, 24) := by kernel_rfl

theorem below_setC {B : Nat} {w w' : World} {a : Addr} {u : Value} (h : Below B w w') (ha : B ≤ a.block) : Below B w (w'.setCell a u) := h.setCell ha u

/-- The result's box, the own one, and the row of its points. -/
structure CtI (w : World) (R Q n : Nat) (m : List (List Int)) (wr : World) : Prop where
  lo : w.heap.size ≤ R
  rq : R < Q
  res : wr.heap[R]? = some (.cells #[.int .i64 0, .slice none 0 0] 61 (0, 0))
  box : ∃ sv, wr.heap[Q]? = some (.cells #[.int .i64 (n : Int), sv] 61 (0, 0)) ∧ Fr (Q + 1) 22 3 wr sv m
  bel : Below w.heap.size w wr
  sz : Q + 1 ≤ wr.heap.size

theorem CtI.below {w wr w2 : World} {R Q n N : Nat} {m : List (List Int)} (h : CtI w R Q n m wr) (hb : Below N wr w2) (hN : wr.heap.size ≤ N) : CtI w R Q n m w2 := by
  obtain ⟨sv, h1, h2⟩ := h.box
  have hsz := h.sz
  have hrq := h.rq
  have hb0 := h.bel.size
  exact ⟨h.lo, hrq, (hb.block _ (by omega)).trans h.res, ⟨sv, (hb.block _ (by omega)).trans h1, h2.below hb hN⟩, h.bel.trans (hb.mono (by omega)), Nat.le_trans hsz hb.size⟩

theorem CtI.push {w wr wx : World} {R Q n : Nat} {m : List (List Int)} {u : Value} {zs : List Int} (h : CtI w R Q n m wr) (hx : Below wr.heap.size wr wx) (hu : Sl 0 3 wx u (ints zs)) :
    ∃ so sc vs, wx.cell? ⟨Q, 1, none⟩ = some (.slice so m.length sc) ∧ wx.ownsRow (Q + 1) 22 1 (.slice so m.length sc) m.length vs ∧ Q + 1 ≤ wx.heap.size ∧ ∀ v' w5, w5.ownsRow (Q + 1) 22 1 v' (m.length + 1) (vs ++ [u]) → (wx.alloc (.cells #[u] 22)).grownBy w5 (Value.slice so m.length sc).ownBlock → w5.cell? ⟨Q, 1, none⟩ = some (.slice so m.length sc) ∧ w5.frozen? ⟨Q, 1, none⟩ = false ∧ CtI w R Q n (m ++ [zs]) (w5.setCell ⟨Q, 1, none⟩ v') := by
  have hX := h.below hx (Nat.le_refl _)
  obtain ⟨sv, hbox, vs, f1, f2, f3⟩ := hX.box
  obtain ⟨so, sc, rfl⟩ := owns_form f2
  have hsz := hX.sz
  have hlo := h.lo
  have hrq := h.rq
  refine ⟨so, sc, vs, by simp [World.cell?, hbox], f2, hsz, fun v' w5 ho hg => ?_⟩
  have hne : ∀ b, b < Q + 1 → w5.heap[b]? = wx.heap[b]? := fun b hb => (hg.block b (by simp; omega) (fun e => by
    have := (f2.lt b e.symm).1
    omega)).trans (Below.heap_alloc wx _ b (by omega))
  have hb5 := (hne Q (by omega)).trans hbox
  have hss : wx.heap.size ≤ w5.heap.size := Nat.le_trans (by simp) hg.size
  have hbl : Below w.heap.size w w5 := ⟨hg.os.trans hX.bel.os, hg.tape.trans hX.bel.tape, hg.output.trans hX.bel.output, Nat.le_trans hX.bel.size hss, fun b hb => (hne b (by omega)).trans (hX.bel.block b hb)⟩
  have hF5 : Fr (Q + 1) 22 3 w5 v' (m ++ [zs]) := Fr.push (e2 := 22) (e1 := 3) (by decide) f1 (f2.alloc _) (fun i hi => (f3 i hi).alloc _) (hu.alloc _) ho hg
  refine ⟨by simp [World.cell?, hb5], by simp [World.frozen?, hb5], hlo, hrq, ?_, ⟨v', ?_, ?_⟩, below_setC hbl (by show _ ≤ Q; omega), by simp only [World.setCell, Array.size_modify]; omega⟩
  · exact (Below.heap_setCell _ _ _ _ (by show R ≠ Q; omega)).trans ((hne _ (by omega)).trans hX.res)
  · simp [World.setCell, Array.getElem?_modify, hb5]
  · obtain ⟨vs5, g1, g2, g3⟩ := hF5
    refine ⟨vs5, g1, ?_, fun i hi => ?_⟩
    · refine ⟨g2.1, ?_⟩
      rcases g2.2 with q | ⟨g, cap, cur, e1, e2, e3, e4⟩
      · exact .inl q
      · exact .inr ⟨g, cap, cur, e1, e2, (Below.heap_setCell _ _ _ _ (by show g ≠ Q; omega)).trans e3, e4⟩
    · refine Sl.setCell (g3 i hi) _ ⟨Nat.zero_le _, fun cur => ?_⟩
      rw [show (⟨Q, 1, none⟩ : Addr).block = Q from rfl, hb5]
      simp

theorem CtI.fin {w wr : World} {R Q n : Nat} {m : List (List Int)} (h : CtI w R Q n m wr) : ∃ so sc, wr.cell? ⟨Q, 0, none⟩ = some (.int .i64 (n : Int)) ∧ wr.cell? ⟨Q, 1, none⟩ = some (.slice so m.length sc) ∧ wr.cell? ⟨R, 0, none⟩ = some (.int .i64 0) ∧ wr.cell? ⟨R, 1, none⟩ = some (.slice none 0 0) ∧ wr.frozen? ⟨R, 0, none⟩ = false ∧ wr.frozen? ⟨R, 1, none⟩ = false ∧ Mat 0 22 3 ((wr.setCell ⟨R, 0, none⟩ (.int .i64 (n : Int))).setCell ⟨R, 1, none⟩ (.slice so m.length sc)) (.slice so m.length sc) m ∧ Below w.heap.size w ((wr.setCell ⟨R, 0, none⟩ (.int .i64 (n : Int))).setCell ⟨R, 1, none⟩ (.slice so m.length sc)) := by
  obtain ⟨sv, hbox, vs, f1, f2, f3⟩ := h.box
  obtain ⟨so, sc, rfl⟩ := owns_form f2
  have hres := h.res
  have hrq := h.rq
  have hres2 : (wr.setCell ⟨R, 0, none⟩ (.int .i64 (n : Int))).heap[R]? = some (.cells #[.int .i64 (n : Int), .slice none 0 0] 61 (0, 0)) := by simp [World.setCell, Array.getElem?_modify, hres]
  refine ⟨so, sc, by simp [World.cell?, hbox], by simp [World.cell?, hbox], by simp [World.cell?, hres], by simp [World.cell?, hres], by simp [World.frozen?, hres], by simp [World.frozen?, hres], ⟨vs, f1, ?_, fun i hi => ?_⟩, below_setC (below_setC h.bel h.lo) h.lo⟩
  · refine Sl.own (base := Q + 1) ⟨f2.1, ?_⟩
    rcases f2.2 with h1 | ⟨g, cap, cur, e1, h2, h3, h4⟩
    · exact .inl h1
    · exact .inr ⟨g, cap, cur, e1, h2, (Below.heap_setCell _ _ _ _ (by show g ≠ R; omega)).trans ((Below.heap_setCell _ _ _ _ (by show g ≠ R; omega)).trans h3), h4⟩
  · refine Sl.setCell (Sl.setCell (f3 i hi) _ ⟨Nat.zero_le _, fun cur => ?_⟩) _ ⟨Nat.zero_le _, fun cur => ?_⟩
    · rw [show (⟨R, 0, none⟩ : Addr).block = R from rfl, hres]
      simp
    · rw [show (⟨R, 1, none⟩ : Addr).block = R from rfl, hres2]
      simp

theorem CtI.start (w wr : World) (R n : Nat) (hlo : w.heap.size ≤ R) (hR : wr.heap[R]? = some (.cells #[.int .i64 0, .slice none 0 0] 61 (0, 0))) (hb : Below w.heap.size w wr) : CtI w R wr.heap.size n [] (wr.alloc (.cells #[.int .i64 (n : Int), .slice none 0 0] 61)) := by
  have hlt := (Array.getElem?_eq_some_iff.1 hR).1
  exact ⟨hlo, hlt, (Below.heap_alloc _ _ _ hlt).trans hR, ⟨.slice none 0 0, heap_alloc_new wr _, Fr.nil _ _ _ _⟩, hb.alloc hb.size _, by simp⟩


/-- The first numbers of a list that is read. -/
theorem Sl.cutC {w : World} {a : Addr} {n c c' d : Nat} {l : List Int} (h : Sl 0 3 w (.slice (some a) n c) (ints l)) (hd : d ≤ l.length) (h1 : d ≤ c') (h2 : c' ≤ maxLen) : Sl 0 3 w (.slice (some a) d c') (ints (l.take d)) := by
  obtain ⟨ao, cap, hv, _, _, h3, _⟩ := h
  simp only [Value.slice.injEq] at hv
  obtain ⟨rfl, _, _⟩ := hv
  refine ⟨some a, c', by simp [show min d l.length = d by omega], by simp; omega, h2, fun i hi => ?_, fun e => by cases e⟩
  simp at hi
  obtain ⟨b, o, e, hc, ht⟩ := h3 i (by simp; omega)
  refine ⟨b, o, e, hc.trans ?_, ht⟩
  rw [ints_get _ _ (by omega), ints_get _ _ (by simp; omega)]
  simp [show i < d by omega]

theorem run_cut2C {a : Addr} {n c d : Nat} (h1 : d ≤ n) (h2 : n ≤ c) (w : World) : (Instr.slice 22 (.slice (some a) n c) none (some (.int .i64 (d : Int))) none).run Tryz.prog w = .ok (.slice (some a) d c) w := by
  have e1 : (0 : Int) ≤ (d : Int) ∧ (d : Int) ≤ (c : Int) := by omega
  have e2 : d ≤ c := by omega
  have hz : ∀ w, (Go.sizeOf 3).run Tryz.prog w = .ok 1 w := fun w => by kernel_rfl
  simp [Instr.slice, Instr.sliceBounds, Instr.sliceBound, run_underlying Tryz.underlying22, asIntOf, e1, e2, hz, Addr.add, go_sem]


/-! ### Beside an iterator over a text -/

theorem Sl.iterAt {B : Nat} {e : TypeId} {w : World} {v : Value} {xs : List Value} (h : Sl B e w v xs) {k : Nat} {s : ByteArray} {pos : Nat} (hB : B ≤ k) (hk : w.heap[k]? = some (.stringIter s pos)) (pos' : Nat) : Sl B e (w.iterAt k s pos') v xs :=
  h.move fun b hl ht => ⟨Lib.iterAt_other w k b s pos' (fun e1 => by
    rcases ht with ht | ⟨cur, ht⟩
    · omega
    · rw [e1, hk] at ht; cases ht), ht⟩

theorem owns_iterAt {w : World} {B e size n : Nat} {v : Value} {xs : List Value} {k : Nat} {s : ByteArray} {pos : Nat} (h : w.ownsRow B e size v n xs) (hk : w.heap[k]? = some (.stringIter s pos)) (pos' : Nat) : (w.iterAt k s pos').ownsRow B e size v n xs := by
  refine ⟨h.1, ?_⟩
  rcases h.2 with q | ⟨g, cap, cur, e1, e2, e3, e4⟩
  · exact .inl q
  · exact .inr ⟨g, cap, cur, e1, e2, (Lib.iterAt_other w k g s pos' (fun e => by rw [e, hk] at e3; cases e3)).trans e3, e4⟩

theorem Fr.iterAt {B : Nat} {e2 e1 : TypeId} {w : World} {v : Value} {m : List (List Int)} (h : Fr B e2 e1 w v m) {k : Nat} {s : ByteArray} {pos : Nat} (hk : w.heap[k]? = some (.stringIter s pos)) (pos' : Nat) : Fr B e2 e1 (w.iterAt k s pos') v m := by
  obtain ⟨vs, h1, h2, h3⟩ := h
  exact ⟨vs, h1, owns_iterAt h2 hk pos', fun i hi => (h3 i hi).iterAt (Nat.zero_le _) hk pos'⟩

theorem CtI.iterAt {w wr : World} {R Q n : Nat} {m : List (List Int)} (h : CtI w R Q n m wr) {k : Nat} {s : ByteArray} {pos : Nat} (hk : wr.heap[k]? = some (.stringIter s pos)) (pos' : Nat) (hlo : w.heap.size ≤ k) : CtI w R Q n m (wr.iterAt k s pos') := by
  obtain ⟨sv, h1, h2⟩ := h.box
  have hr := h.res
  exact ⟨h.lo, h.rq, (Lib.iterAt_other wr k R s pos' (fun e => by rw [e, hk] at hr; cases hr)).trans hr, ⟨sv, (Lib.iterAt_other wr k Q s pos' (fun e => by rw [e, hk] at h1; cases h1)).trans h1, h2.iterAt hk pos'⟩, Lib.below_iterAt h.bel hlo s pos', by rw [Lib.iterAt_size]; exact h.sz⟩

end Go.Proofs.YtgfnmkenpgnllaaGreat
