/- What facetref.PosetFrom goes by: pairs in a box. -/
import Derived.Test.YtofpcpcldheagaaDoorPoB
namespace Go.Proofs.YtofpcpcldheagaaDoor
open Go.RowKit

theorem infoPr : (Tryd.prog.info? 53).map (fun i => (i.zero, i.size, i.bytes)) = some (some (.agg #[.int .i64 0, .int .i64 0]), 2, 16) := by kernel_rfl

/-- The cells of pairs. -/
def epL (es : List (Nat × Nat)) : List Value := es.flatMap fun e => [.int .i64 (e.1 : Int), .int .i64 (e.2 : Int)]

theorem epL_len : ∀ es : List (Nat × Nat), (epL es).length = es.length * 2
  | [] => rfl
  | e :: es => by
    have := epL_len es
    unfold epL at this ⊢
    simp only [List.flatMap_cons, List.length_append, List.length_cons, List.length_nil]
    omega

theorem epL_get : ∀ (es : List (Nat × Nat)) (i : Nat) (e : Nat × Nat), es[i]? = some e → (epL es)[i * 2]? = some (.int .i64 (e.1 : Int)) ∧ (epL es)[i * 2 + 1]? = some (.int .i64 (e.2 : Int))
  | [], i, e, h => by simp at h
  | x :: es, 0, e, h => by
    simp only [List.getElem?_cons_zero, Option.some.injEq] at h
    subst h
    exact ⟨rfl, rfl⟩
  | x :: es, i + 1, e, h => by
    simp only [List.getElem?_cons_succ] at h
    have := epL_get es i e h
    have e1 : (i + 1) * 2 = i * 2 + 1 + 1 := by omega
    have e2 : epL (x :: es) = .int .i64 (x.1 : Int) :: .int .i64 (x.2 : Int) :: epL es := rfl
    rw [e1, e2]
    exact this

theorem epL_snoc (es : List (Nat × Nat)) (a b : Nat) : epL (es ++ [(a, b)]) = epL es ++ [.int .i64 (a : Int), .int .i64 (b : Int)] := by simp [epL]

theorem prs_own {B : Nat} {w : World} {v : Value} {es : List (Nat × Nat)} (h : w.ownsRow B 53 2 v es.length (epL es)) : Prs w v (npL es) := by
  rcases h.2 with ⟨h1, h0⟩ | ⟨g, cap, cur, e1, h2, h3, h4, h5, h6, h7⟩
  · have : es = [] := List.eq_nil_of_length_eq_zero h0
    subst this
    exact ⟨none, 0, h1, fun i hi => by simp [npL] at hi⟩
  · refine ⟨some ⟨g, 0, none⟩, cap, by rw [npL_len]; exact e1, fun i hi => ⟨g, 0, rfl, ?_⟩⟩
    rw [npL_len] at hi
    obtain ⟨k1, k2⟩ := epL_get es i es[i] (List.getElem?_eq_getElem hi)
    have hel := epL_len es
    have hce : ∀ j u, (epL es)[j]? = some u → w.cell? ⟨g, 0 + j, none⟩ = some u := fun j u hj => by
      have hj2 := (List.getElem?_eq_some_iff.1 hj).1
      rw [← h7, List.getElem?_take_of_lt (by omega), Array.getElem?_toList] at hj
      simp [World.cell?, h3, hj]
    rw [npL_at hi]
    have e2 : es.getD i (0, 0) = es[i] := by simp [hi]
    rw [e2]
    exact ⟨hce _ _ k1, hce _ _ k2⟩

/-- The order that is made: the result's box, its own, and the row of its pairs. -/
structure PfI (w : World) (R n : Nat) (es : List (Nat × Nat)) (wr : World) : Prop where
  lo : w.heap.size ≤ R
  res : wr.heap[R]? = some (.cells #[.int .i64 0, .slice none 0 0] 24 (0, 0))
  box : ∃ sv, wr.heap[R + 1]? = some (.cells #[.int .i64 (n : Int), sv] 24 (0, 0)) ∧ wr.ownsRow (R + 2) 53 2 sv es.length (epL es)
  bel : Below w.heap.size w wr
  sz : R + 2 ≤ wr.heap.size

theorem PfI.start (w : World) (n : Nat) : PfI w w.heap.size n [] ((w.alloc (.cells #[.int .i64 0, .slice none 0 0] 24)).alloc (.cells #[.int .i64 (n : Int), .slice none 0 0] 24)) := by
  have e : (w.alloc (.cells #[.int .i64 0, .slice none 0 0] 24)).heap.size = w.heap.size + 1 := by simp
  refine ⟨Nat.le_refl _, (Below.heap_alloc _ _ _ (by simp)).trans (heap_alloc_new w _), ⟨.slice none 0 0, ?_, World.ownsRow_nil _ _ _ _⟩, ((Below.refl _ _).alloc (Nat.le_refl _) _).alloc (by simp) _, by simp⟩
  rw [← e]
  exact heap_alloc_new _ _

theorem own2_below {B N n : Nat} {e : TypeId} {w w' : World} {v : Value} {xs : List Value} (h : w.ownsRow B e 2 v n xs) (hb : Below N w w') (hN : w.heap.size ≤ N) : w'.ownsRow B e 2 v n xs := by
  refine ⟨h.1, ?_⟩
  rcases h.2 with h1 | ⟨g, cap, cur, e1, h2, h3, h4⟩
  · exact .inl h1
  · have := (Array.getElem?_eq_some_iff.1 h3).1
    exact .inr ⟨g, cap, cur, e1, h2, (hb.block g (by omega)).trans h3, h4⟩

theorem PfI.below {w wr w2 : World} {R n N : Nat} {es : List (Nat × Nat)} (h : PfI w R n es wr) (hb : Below N wr w2) (hN : wr.heap.size ≤ N) : PfI w R n es w2 := by
  obtain ⟨sv, h1, h2⟩ := h.box
  have hsz := h.sz
  have hb0 := h.bel.size
  exact ⟨h.lo, (hb.block _ (by omega)).trans h.res, ⟨sv, (hb.block _ (by omega)).trans h1, own2_below h2 hb hN⟩, h.bel.trans (hb.mono (by omega)), Nat.le_trans hsz hb.size⟩

theorem two_int (a b : Int) : ∀ u ∈ [Value.int .i64 a, .int .i64 b], u.oneCell' = true := fun u hu => by
  simp at hu
  rcases hu with rfl | rfl <;> rfl

theorem two_new (w : World) (x y : Value) (t : TypeId) : ∀ j u, [x, y][j]? = some u → (w.alloc (.cells #[x, y] t)).cell? ((⟨w.heap.size, 0, none⟩ : Addr).add j) = some u := fun j u hj => by
  rcases j with _ | _ | j
  · simp at hj; subst hj; simp [Addr.add]
  · simp at hj; subst hj; simp [Addr.add]
  · simp at hj

theorem owns_form2 {B : Nat} {e : TypeId} {w : World} {v : Value} {n : Nat} {xs : List Value} (h : w.ownsRow B e 2 v n xs) : ∃ vo vc, v = .slice vo n vc := by
  rcases h.2 with ⟨h1, h0⟩ | ⟨g, cap, cur, hv, _⟩
  · exact ⟨_, _, by rw [h1, h0]⟩
  · exact ⟨_, _, hv⟩

/-- One pair more. -/
theorem PfI.push {w wr wx : World} {R n : Nat} {es : List (Nat × Nat)} (h : PfI w R n es wr) (a b : Nat) (hx : Below wr.heap.size wr wx) :
    ∃ sv, wr.cell? ⟨R + 1, 1, none⟩ = some sv ∧ wx.cell? ⟨R + 1, 1, none⟩ = some sv ∧ (∃ so sc, sv = .slice so es.length sc) ∧ wx.ownsRow (R + 2) 53 2 sv es.length (epL es) ∧ R + 2 ≤ wx.heap.size ∧ ∀ v' w5, w5.ownsRow (R + 2) 53 2 v' (es.length + 1) (epL es ++ [.int .i64 (a : Int), .int .i64 (b : Int)]) → wx.grownBy w5 sv.ownBlock → w5.cell? ⟨R + 1, 1, none⟩ = some sv ∧ w5.frozen? ⟨R + 1, 1, none⟩ = false ∧ PfI w R n (es ++ [(a, b)]) (w5.setCell ⟨R + 1, 1, none⟩ v') := by
  have hX := h.below hx (Nat.le_refl _)
  obtain ⟨sv, hbox, hown⟩ := h.box
  have hboxx : wx.heap[R + 1]? = some (.cells #[.int .i64 (n : Int), sv] 24 (0, 0)) := (hx.block _ (by have := h.sz; omega)).trans hbox
  have hownx : wx.ownsRow (R + 2) 53 2 sv es.length (epL es) := own2_below hown hx (Nat.le_refl _)
  have hsz := hX.sz
  have hlo := h.lo
  refine ⟨sv, by simp [World.cell?, hbox], by simp [World.cell?, hboxx], owns_form2 hown, hownx, hsz, fun v' w5 ho hg => ?_⟩
  have hne : ∀ b, b < R + 2 → w5.heap[b]? = wx.heap[b]? := fun b hb => hg.block b (by omega) (fun e => by
    have := (hownx.lt b e.symm).1
    omega)
  have hb5 : w5.heap[R + 1]? = some (.cells #[.int .i64 (n : Int), sv] 24 (0, 0)) := (hne _ (by omega)).trans hboxx
  have hbl : Below w.heap.size w w5 := ⟨hg.os.trans hX.bel.os, hg.tape.trans hX.bel.tape, hg.output.trans hX.bel.output, Nat.le_trans hX.bel.size hg.size, fun b hb => (hne b (by omega)).trans (hX.bel.block b hb)⟩
  refine ⟨by simp [World.cell?, hb5], by simp [World.frozen?, hb5], hlo, ?_, ⟨v', ?_, ?_⟩, below_set hbl (by show _ ≤ R + 1; omega), ?_⟩
  · exact (Below.heap_setCell _ _ _ _ (by show R ≠ R + 1; omega)).trans ((hne _ (by omega)).trans hX.res)
  · simp [World.setCell, Array.getElem?_modify, hb5]
  · rw [epL_snoc, List.length_append, List.length_singleton]
    refine ⟨ho.1, ?_⟩
    rcases ho.2 with h1 | ⟨g, cap, cur, f1, f2, f3, f4⟩
    · exact .inl h1
    · exact .inr ⟨g, cap, cur, f1, f2, (Below.heap_setCell _ _ _ _ (by show g ≠ R + 1; omega)).trans f3, f4⟩
  · simp only [World.setCell, Array.size_modify]
    exact Nat.le_trans hsz hg.size

theorem PfI.fin {w wr : World} {R n : Nat} {es : List (Nat × Nat)} (h : PfI w R n es wr) : ∃ so sc, wr.cell? ⟨R + 1, 0, none⟩ = some (.int .i64 (n : Int)) ∧ wr.cell? ⟨R + 1, 1, none⟩ = some (.slice so es.length sc) ∧ wr.cell? ⟨R, 0, none⟩ = some (.int .i64 0) ∧ wr.cell? ⟨R, 1, none⟩ = some (.slice none 0 0) ∧ wr.frozen? ⟨R, 0, none⟩ = false ∧ wr.frozen? ⟨R, 1, none⟩ = false ∧ Prs ((wr.setCell ⟨R, 0, none⟩ (.int .i64 (n : Int))).setCell ⟨R, 1, none⟩ (.slice so es.length sc)) (.slice so es.length sc) (npL es) ∧ Below w.heap.size w ((wr.setCell ⟨R, 0, none⟩ (.int .i64 (n : Int))).setCell ⟨R, 1, none⟩ (.slice so es.length sc)) := by
  obtain ⟨sv, hbox, hown⟩ := h.box
  obtain ⟨so, sc, rfl⟩ := owns_form2 hown
  have hres := h.res
  refine ⟨so, sc, by simp [World.cell?, hbox], by simp [World.cell?, hbox], by simp [World.cell?, hres], by simp [World.cell?, hres], by simp [World.frozen?, hres], by simp [World.frozen?, hres], ?_, below_set (below_set h.bel h.lo) h.lo⟩
  refine prs_own (B := R + 2) ⟨hown.1, ?_⟩
  rcases hown.2 with h1 | ⟨g, cap, cur, e1, h2, h3, h4⟩
  · exact .inl h1
  · exact .inr ⟨g, cap, cur, e1, h2, (Below.heap_setCell _ _ _ _ (by show g ≠ R; omega)).trans ((Below.heap_setCell _ _ _ _ (by show g ≠ R; omega)).trans h3), h4⟩

theorem PfI.clear {w wr : World} {R n : Nat} {es : List (Nat × Nat)} (h : PfI w R n es wr) : (∃ sv, wr.cell? ⟨R + 1, 1, none⟩ = some sv) ∧ wr.frozen? ⟨R + 1, 1, none⟩ = false ∧ PfI w R n [] (wr.setCell ⟨R + 1, 1, none⟩ (.slice none 0 0)) := by
  obtain ⟨sv, hbox, hown⟩ := h.box
  have hlo := h.lo
  refine ⟨⟨sv, by simp [World.cell?, hbox]⟩, by simp [World.frozen?, hbox], hlo, (Below.heap_setCell _ _ _ _ (by show R ≠ R + 1; omega)).trans h.res, ⟨.slice none 0 0, ?_, World.ownsRow_nil _ _ _ _⟩, below_set h.bel (by show _ ≤ R + 1; omega), by simp only [World.setCell, Array.size_modify]; exact h.sz⟩
  simp [World.setCell, Array.getElem?_modify, hbox]

/-- Named otherwise. -/
def fE (n v : Nat) : Nat := (v * 5 + 1) % 7 % n

def seF (n v j : Nat) : Bool := (List.range v).any fun u => fE n u == j

def okF (n v : Nat) : Bool := (List.range v).all fun u => !seF n u (fE n u)

theorem seF_succ (n v j : Nat) : seF n (v + 1) j = (seF n v j || fE n v == j) := by simp [seF, List.range_succ]

theorem okF_succ (n v : Nat) : okF n (v + 1) = (okF n v && !seF n v (fE n v)) := by simp [okF, List.range_succ]

theorem okF_two : ∀ n, n < 7 → okF n n = true → n ≤ 2 := by decide

theorem fE_lt {n v : Nat} (h : 1 ≤ n) : fE n v < n := Nat.mod_lt _ (by omega)

theorem fE_two : ∀ n, 1 < n → n ≤ 2 → ∀ a, a < n → ∀ b, b < n → a < b → fE n b < fE n a := by
  intro n h1 h2
  have : n = 2 := by omega
  subst this
  decide

end Go.Proofs.YtofpcpcldheagaaDoor
