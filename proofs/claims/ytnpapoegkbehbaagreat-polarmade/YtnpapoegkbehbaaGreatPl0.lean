/- A polytope's box that is appended to, beside rows of rows that are read. -/
import Derived.Test.YtnpapoegkbehbaaGreatRefA
import Derived.Test.YtnpapoegkbehbaaGreatStepsAll
import Derived.Deep.Onto
import Derived.Maps.AppendAt
namespace Go.Proofs.YtnpapoegkbehbaaGreat
open Go.RowKit

theorem infoSlN : (Tryz.prog.info? 22).map (fun i => (i.zero, i.size, i.bytes)) = some (some (.slice none 0 0), 1, 24) := by kernel_rfl

theorem below_setN {B : Nat} {w w' : World} {a : Addr} {u : Value} (h : Below B w w') (ha : B ≤ a.block) : Below B w (w'.setCell a u) := h.setCell ha u

theorem Fr.zero {B : Nat} {w : World} {v : Value} {m : List (List Int)} (h : Fr B 22 3 w v m) : Fr 0 22 3 w v m := by
  obtain ⟨vs, h1, h2, h3⟩ := h
  exact ⟨vs, h1, h2.mono (Nat.zero_le _), h3⟩

/-- The result's box, the own one, and the row of its points. -/
structure NpI (w : World) (R Q n : Nat) (m : List (List Int)) (wr : World) : Prop where
  lo : w.heap.size ≤ R
  rq : R < Q
  res : wr.heap[R]? = some (.cells #[.int .i64 0, .slice none 0 0] 26 (0, 0))
  box : ∃ sv, wr.heap[Q]? = some (.cells #[.int .i64 (n : Int), sv] 26 (0, 0)) ∧ Fr (Q + 1) 22 3 wr sv m
  bel : Below w.heap.size w wr
  sz : Q + 1 ≤ wr.heap.size

theorem NpI.below {w wr w2 : World} {R Q n N : Nat} {m : List (List Int)} (h : NpI w R Q n m wr) (hb : Below N wr w2) (hN : wr.heap.size ≤ N) : NpI w R Q n m w2 := by
  obtain ⟨sv, h1, h2⟩ := h.box
  have hsz := h.sz
  have hrq := h.rq
  have hb0 := h.bel.size
  exact ⟨h.lo, hrq, (hb.block _ (by omega)).trans h.res, ⟨sv, (hb.block _ (by omega)).trans h1, h2.below hb hN⟩, h.bel.trans (hb.mono (by omega)), Nat.le_trans hsz hb.size⟩

theorem NpI.push {w wr wx : World} {R Q n : Nat} {m : List (List Int)} {u : Value} {zs : List Int} (h : NpI w R Q n m wr) (hx : Below wr.heap.size wr wx) (hu : Sl 0 3 wx u (ints zs)) :
    ∃ so sc vs, wx.cell? ⟨Q, 1, none⟩ = some (.slice so m.length sc) ∧ wx.ownsRow (Q + 1) 22 1 (.slice so m.length sc) m.length vs ∧ Q + 1 ≤ wx.heap.size ∧ ∀ v' w5, w5.ownsRow (Q + 1) 22 1 v' (m.length + 1) (vs ++ [u]) → (wx.alloc (.cells #[u] 22)).grownBy w5 (Value.slice so m.length sc).ownBlock → w5.cell? ⟨Q, 1, none⟩ = some (.slice so m.length sc) ∧ w5.frozen? ⟨Q, 1, none⟩ = false ∧ NpI w R Q n (m ++ [zs]) (w5.setCell ⟨Q, 1, none⟩ v') := by
  have hX := h.below hx (Nat.le_refl _)
  obtain ⟨sv, hbox, vs, f1, f2, f3⟩ := hX.box
  obtain ⟨so, sc, rfl⟩ := owns_form f2
  have hsz := hX.sz
  have hlo := h.lo
  have hrq := h.rq
  refine ⟨so, sc, vs, by simp [World.cell?, hbox], f2, hsz, fun v' w5 ho hg => ?_⟩
  have hne : ∀ b, b < Q + 1 → w5.heap[b]? = wx.heap[b]? := fun b hb => (hg.block b (by simp; omega) (fun e => by
    have := (f2.lt b e.symm).1
    omega)).trans (Below.heap_alloc wx _ b (by omega))
  have hb5 := (hne Q (by omega)).trans hbox
  have hss : wx.heap.size ≤ w5.heap.size := Nat.le_trans (by simp) hg.size
  have hbl : Below w.heap.size w w5 := ⟨hg.os.trans hX.bel.os, hg.tape.trans hX.bel.tape, hg.output.trans hX.bel.output, Nat.le_trans hX.bel.size hss, fun b hb => (hne b (by omega)).trans (hX.bel.block b hb)⟩
  have hF5 : Fr (Q + 1) 22 3 w5 v' (m ++ [zs]) := Fr.push (e2 := 22) (e1 := 3) (by decide) f1 (f2.alloc _) (fun i hi => (f3 i hi).alloc _) (hu.alloc _) ho hg
  refine ⟨by simp [World.cell?, hb5], by simp [World.frozen?, hb5], hlo, hrq, ?_, ⟨v', ?_, ?_⟩, below_setN hbl (by show _ ≤ Q; omega), by simp only [World.setCell, Array.size_modify]; omega⟩
  · exact (Below.heap_setCell _ _ _ _ (by show R ≠ Q; omega)).trans ((hne _ (by omega)).trans hX.res)
  · simp [World.setCell, Array.getElem?_modify, hb5]
  · obtain ⟨vs5, g1, g2, g3⟩ := hF5
    refine ⟨vs5, g1, ?_, fun i hi => ?_⟩
    · refine ⟨g2.1, ?_⟩
      rcases g2.2 with q | ⟨g, cap, cur, e1, e2, e3, e4⟩
      · exact .inl q
      · exact .inr ⟨g, cap, cur, e1, e2, (Below.heap_setCell _ _ _ _ (by show g ≠ Q; omega)).trans e3, e4⟩
    · refine Sl.setCell (g3 i hi) _ ⟨Nat.zero_le _, fun cur => ?_⟩
      rw [show (⟨Q, 1, none⟩ : Addr).block = Q from rfl, hb5]
      simp

theorem NpI.fin {w wr : World} {R Q n : Nat} {m : List (List Int)} (h : NpI w R Q n m wr) : ∃ so sc, wr.cell? ⟨Q, 0, none⟩ = some (.int .i64 (n : Int)) ∧ wr.cell? ⟨Q, 1, none⟩ = some (.slice so m.length sc) ∧ wr.cell? ⟨R, 0, none⟩ = some (.int .i64 0) ∧ wr.cell? ⟨R, 1, none⟩ = some (.slice none 0 0) ∧ wr.frozen? ⟨R, 0, none⟩ = false ∧ wr.frozen? ⟨R, 1, none⟩ = false ∧ Mat 0 22 3 ((wr.setCell ⟨R, 0, none⟩ (.int .i64 (n : Int))).setCell ⟨R, 1, none⟩ (.slice so m.length sc)) (.slice so m.length sc) m ∧ Below w.heap.size w ((wr.setCell ⟨R, 0, none⟩ (.int .i64 (n : Int))).setCell ⟨R, 1, none⟩ (.slice so m.length sc)) := by
  obtain ⟨sv, hbox, vs, f1, f2, f3⟩ := h.box
  obtain ⟨so, sc, rfl⟩ := owns_form f2
  have hres := h.res
  have hrq := h.rq
  have hres2 : (wr.setCell ⟨R, 0, none⟩ (.int .i64 (n : Int))).heap[R]? = some (.cells #[.int .i64 (n : Int), .slice none 0 0] 26 (0, 0)) := by simp [World.setCell, Array.getElem?_modify, hres]
  refine ⟨so, sc, by simp [World.cell?, hbox], by simp [World.cell?, hbox], by simp [World.cell?, hres], by simp [World.cell?, hres], by simp [World.frozen?, hres], by simp [World.frozen?, hres], ⟨vs, f1, ?_, fun i hi => ?_⟩, below_setN (below_setN h.bel h.lo) h.lo⟩
  · refine Sl.own (base := Q + 1) ⟨f2.1, ?_⟩
    rcases f2.2 with h1 | ⟨g, cap, cur, e1, h2, h3, h4⟩
    · exact .inl h1
    · exact .inr ⟨g, cap, cur, e1, h2, (Below.heap_setCell _ _ _ _ (by show g ≠ R; omega)).trans ((Below.heap_setCell _ _ _ _ (by show g ≠ R; omega)).trans h3), h4⟩
  · refine Sl.setCell (Sl.setCell (f3 i hi) _ ⟨Nat.zero_le _, fun cur => ?_⟩) _ ⟨Nat.zero_le _, fun cur => ?_⟩
    · rw [show (⟨R, 0, none⟩ : Addr).block = R from rfl, hres]
      simp
    · rw [show (⟨R, 1, none⟩ : Addr).block = R from rfl, hres2]
      simp

theorem NpI.start (w wr : World) (R n : Nat) (hlo : w.heap.size ≤ R) (hR : wr.heap[R]? = some (.cells #[.int .i64 0, .slice none 0 0] 26 (0, 0))) (hb : Below w.heap.size w wr) : NpI w R wr.heap.size n [] (wr.alloc (.cells #[.int .i64 (n : Int), .slice none 0 0] 26)) := by
  have hlt := (Array.getElem?_eq_some_iff.1 hR).1
  exact ⟨hlo, hlt, (Below.heap_alloc _ _ _ hlt).trans hR, ⟨.slice none 0 0, heap_alloc_new wr _, Fr.nil _ _ _ _⟩, hb.alloc hb.size _, by simp⟩


/-- The first numbers of a list that is read. -/
theorem Sl.cutN {w : World} {a : Addr} {n c c' d : Nat} {l : List Int} (h : Sl 0 3 w (.slice (some a) n c) (ints l)) (hd : d ≤ l.length) (h1 : d ≤ c') (h2 : c' ≤ maxLen) : Sl 0 3 w (.slice (some a) d c') (ints (l.take d)) := by
  obtain ⟨ao, cap, hv, _, _, h3, _⟩ := h
  simp only [Value.slice.injEq] at hv
  obtain ⟨rfl, _, _⟩ := hv
  refine ⟨some a, c', by simp [show min d l.length = d by omega], by simp; omega, h2, fun i hi => ?_, fun e => by cases e⟩
  simp at hi
  obtain ⟨b, o, e, hc, ht⟩ := h3 i (by simp; omega)
  refine ⟨b, o, e, hc.trans ?_, ht⟩
  rw [ints_get _ _ (by omega), ints_get _ _ (by simp; omega)]
  simp [show i < d by omega]

theorem run_cut3 {a : Addr} {n c d : Nat} (h1 : d ≤ n) (h2 : n ≤ c) (w : World) : (Instr.slice 22 (.slice (some a) n c) none (some (.int .i64 (d : Int))) (some (.int .i64 (d : Int)))).run Tryz.prog w = .ok (.slice (some a) d d) w := by
  have e1 : (0 : Int) ≤ (d : Int) ∧ (d : Int) ≤ (c : Int) := by omega
  have e2 : d ≤ c := by omega
  have hz : ∀ w, (Go.sizeOf 3).run Tryz.prog w = .ok 1 w := fun w => by kernel_rfl
  simp [Instr.slice, Instr.sliceBounds, Instr.sliceBound, run_underlying Tryz.underlying22, asIntOf, e1, e2, hz, Addr.add, go_sem]

theorem run_cut2 {a : Addr} {n c d : Nat} (h1 : d ≤ n) (h2 : n ≤ c) (w : World) : (Instr.slice 22 (.slice (some a) n c) none (some (.int .i64 (d : Int))) none).run Tryz.prog w = .ok (.slice (some a) d c) w := by
  have e1 : (0 : Int) ≤ (d : Int) ∧ (d : Int) ≤ (c : Int) := by omega
  have e2 : d ≤ c := by omega
  have hz : ∀ w, (Go.sizeOf 3).run Tryz.prog w = .ok 1 w := fun w => by kernel_rfl
  simp [Instr.slice, Instr.sliceBounds, Instr.sliceBound, run_underlying Tryz.underlying22, asIntOf, e1, e2, hz, Addr.add, go_sem]

/-- With rows of rows beside it that are read. -/
structure NpJ (w : World) (R Q n : Nat) (m : List (List Int)) (ls : List (Value × List (List Int))) (wr : World) : Prop where
  I : NpI w R Q n m wr
  oth : ∀ p ∈ ls, Fr 0 22 3 wr p.1 p.2 ∧ ∀ sv, wr.cell? ⟨Q, 1, none⟩ = some sv → Apart sv p.1

theorem NpJ.of {w wr : World} {R Q n : Nat} {m : List (List Int)} (h : NpI w R Q n m wr) : NpJ w R Q n m [] wr := ⟨h, fun p hp => absurd hp (by simp)⟩

theorem NpI.qlt {w wr : World} {R Q n : Nat} {m : List (List Int)} (h : NpI w R Q n m wr) : Q < wr.heap.size := by have := h.sz; omega

theorem NpJ.below {w wr w2 : World} {R Q n N : Nat} {m : List (List Int)} {ls : List (Value × List (List Int))} (h : NpJ w R Q n m ls wr) (hb : Below N wr w2) (hN : wr.heap.size ≤ N) : NpJ w R Q n m ls w2 := by
  refine ⟨h.I.below hb hN, fun p hp => ⟨(h.oth p hp).1.below hb hN, fun sv hs => (h.oth p hp).2 sv ?_⟩⟩
  rw [← hs]
  exact (hb.cell (p := ⟨Q, 1, none⟩) (by show Q < N; have := h.I.qlt; omega)).symm

theorem NpJ.add {w wr w2 : World} {R Q n : Nat} {m l : List (List Int)} {ls : List (Value × List (List Int))} {v : Value} (h : NpJ w R Q n m ls wr) (hb : Below wr.heap.size wr w2) (hv : Fr wr.heap.size 22 3 w2 v l) : NpJ w R Q n m ((v, l) :: ls) w2 := by
  have h2 := h.below hb (Nat.le_refl _)
  refine ⟨h2.I, fun p hp => ?_⟩
  rcases List.mem_cons.1 hp with rfl | hp
  · refine ⟨hv.zero, fun sv hs g hg hl => ?_⟩
    obtain ⟨sv0, hbox, vs, _, q1, _⟩ := h.I.box
    have e : wr.cell? ⟨Q, 1, none⟩ = some sv0 := by simp [World.cell?, hbox]
    have e2 := (hb.cell (p := ⟨Q, 1, none⟩) h.I.qlt).trans e
    rw [hs] at e2
    simp only [Option.some.injEq] at e2
    subst e2
    obtain ⟨_, _, q2, _⟩ := hv
    have := (q1.lt g hg).2
    have := (q2.lt g hl).1
    omega
  · exact h2.oth p hp

theorem NpJ.push {w wr wx : World} {R Q n : Nat} {m : List (List Int)} {ls : List (Value × List (List Int))} {u : Value} {zs : List Int} (h : NpJ w R Q n m ls wr) (hx : Below wr.heap.size wr wx) (hu : Sl 0 3 wx u (ints zs)) :
    ∃ so sc vs, wx.cell? ⟨Q, 1, none⟩ = some (.slice so m.length sc) ∧ wx.ownsRow (Q + 1) 22 1 (.slice so m.length sc) m.length vs ∧ Q + 1 ≤ wx.heap.size ∧ ∀ v' w5, w5.ownsRow (Q + 1) 22 1 v' (m.length + 1) (vs ++ [u]) → (wx.alloc (.cells #[u] 22)).grownBy w5 (Value.slice so m.length sc).ownBlock → (v'.ownBlock = (Value.slice so m.length sc).ownBlock ∨ v'.ownBlock = some (wx.heap.size + 1)) → w5.cell? ⟨Q, 1, none⟩ = some (.slice so m.length sc) ∧ w5.frozen? ⟨Q, 1, none⟩ = false ∧ NpJ w R Q n (m ++ [zs]) ls (w5.setCell ⟨Q, 1, none⟩ v') := by
  obtain ⟨so, sc, vs, h1, h2, h3, h4⟩ := h.I.push hx hu
  have hX := h.below hx (Nat.le_refl _)
  refine ⟨so, sc, vs, h1, h2, h3, fun v' w5 ho hg hat => ?_⟩
  obtain ⟨k1, k2, k3⟩ := h4 v' w5 ho hg
  refine ⟨k1, k2, k3, fun p hp => ?_⟩
  obtain ⟨f1, f2⟩ := hX.oth p hp
  have ha := f2 _ h1
  have f5 : Fr 0 22 3 w5 p.1 p.2 := (f1.alloc _).kept (by decide) (h2.alloc _) hg ha
  have hb5 : ∃ cur, w5.heap[Q]? = some (.cells cur 26 (0, 0)) := by
    obtain ⟨sv, hbox, _⟩ := k3.box
    by_cases e : ∃ cur t f, w5.heap[Q]? = some (.cells cur t f)
    · obtain ⟨cur, t, f, e⟩ := e
      have : (w5.setCell ⟨Q, 1, none⟩ v').heap[Q]? = some (.cells (cur.setIfInBounds 1 v') t f) := by simp [World.setCell, Array.getElem?_modify, e]
      rw [hbox] at this
      simp only [Option.some.injEq, Obj.cells.injEq] at this
      exact ⟨cur, by rw [e, ← this.2.1, ← this.2.2]⟩
    · exfalso
      have hc := k1
      unfold World.cell? at hc
      cases hq : w5.heap[Q]? with
      | none => simp [hq] at hc
      | some o =>
        cases o with
        | cells cur t f => exact e ⟨cur, t, f, hq⟩
        | _ => simp [hq] at hc
  obtain ⟨cur, hcur⟩ := hb5
  have hqb : ∀ g, p.1.ownBlock = some g → g ≠ Q := fun g hgp e => by
    obtain ⟨_, _, q2, _⟩ := f5
    rcases q2.2 with ⟨e1, _⟩ | ⟨g', cap, c2, e1, _, hh, _⟩
    · rw [e1] at hgp; simp [Value.ownBlock] at hgp
    · rw [e1] at hgp
      simp only [Value.ownBlock, Option.some.injEq] at hgp
      subst hgp
      subst e
      rw [hcur] at hh
      simp only [Option.some.injEq, Obj.cells.injEq] at hh
      exact absurd hh.2.1 (by decide)
  refine ⟨?_, fun sv hs g hgs hgl => ?_⟩
  · obtain ⟨us, u1, u2, u3⟩ := f5
    refine ⟨us, u1, ⟨u2.1, ?_⟩, fun i hi => Sl.setCell (u3 i hi) _ ⟨Nat.zero_le _, fun c2 e2 => ?_⟩⟩
    · rcases u2.2 with e1 | ⟨g', cap, c2, e1, hz, hh, r⟩
      · exact .inl e1
      · exact .inr ⟨g', cap, c2, e1, hz, (Below.heap_setCell _ _ _ _ (hqb g' (by rw [e1]; rfl))).trans hh, r⟩
    · have e2' : w5.heap[Q]? = some (.cells c2 3 (0, 0)) := e2
      rw [hcur] at e2'
      simp only [Option.some.injEq, Obj.cells.injEq] at e2'
      exact absurd e2'.2.1 (by decide)
  · have hv' : (w5.setCell ⟨Q, 1, none⟩ v').cell? ⟨Q, 1, none⟩ = some v' := by
      obtain ⟨sv2, hbox, _⟩ := k3.box
      have h5 : (w5.setCell ⟨Q, 1, none⟩ v').heap[Q]? = some (.cells (cur.setIfInBounds 1 v') 26 (0, 0)) := by simp [World.setCell, Array.getElem?_modify, hcur]
      have hsz : 1 < cur.size := by
        rw [hbox] at h5
        simp only [Option.some.injEq, Obj.cells.injEq] at h5
        have := congrArg Array.size h5.1
        simp at this
        omega
      simp [World.cell?, h5, hsz]
    rw [hv'] at hs
    simp only [Option.some.injEq] at hs
    subst hs
    rcases hat with e | e
    · rw [e] at hgs; exact ha g hgs hgl
    · rw [e] at hgs
      simp only [Option.some.injEq] at hgs
      obtain ⟨_, _, q2, _⟩ := f1
      have := (q2.lt g hgl).2
      omega

theorem step_append_at {P : Program} {ops : Array Oper} {o : Oper} {a : Act} {w : World} {K : Act → World → Prop} {Q : Exit → Act → World → Prop} {E : Prop}
    (hg : o.guard = none) (s x : Operand) (t : TypeId) (hop : o.op = Op.call { callee := Callee.builtin Builtin.append, args := #[s, x], argTypes := #[t, t] })
    (base : Nat) (e : TypeId) (i : TypeInfo) (z : Value) (size bytes : Nat) (h1 : P.underlying t = some (.slice e)) (h2 : P.info? e = some i) (h3 : i.zero = some z) (h4 : i.size = size) (h5 : i.bytes = bytes) (h6 : z.cells.size = size) (h7 : 0 < size)
    (v : Value) (n : Nat) (xs : List Value) (hs : a.eval s = v) (hown : w.ownsRow base e size v n xs)
    (ad : Addr) (m c : Nat) (news : List Value) (hx : a.eval x = .slice (some ad) m c) (hn : news.length = m * size) (hc : ∀ j u, news[j]? = some u → w.cell? (ad.add j) = some u) (h1c : ∀ u ∈ news, u.oneCell' = true)
    (b1 : n + m ≤ maxLen) (b2 : (n + m) * bytes ≤ 140737488355328) (hb : base ≤ w.heap.size)
    (hK : ∀ v' w', w'.ownsRow base e size v' (n + m) (xs ++ news) → w.grownBy w' v.ownBlock → (v'.ownBlock = v.ownBlock ∨ v'.ownBlock = some w.heap.size) → K (a.put o.dst v') w') :
    if Region.wanted o (yielded ops a.tmps) = true then Oper.wp P o a w K Q else E := by
  have hw : Region.wanted o (yielded ops a.tmps) = true := by simp [Region.wanted, hg]
  rw [if_pos hw]
  obtain ⟨v', w', hrun, r1, r2, _, r3⟩ := run_append_own_at (P := P) w base t o.type e i z size bytes h1 h2 h3 h4 h5 h6 h7 v n xs hown ad m c news hn hc h1c b1 b2 hb
  unfold Oper.wp
  simp [execOp, hop, resolve, invoke, builtin, hs, hx, hrun, Result.andThen]
  exact hK v' w' r1 r2 r3

end Go.Proofs.YtnpapoegkbehbaaGreat
