/- The document: a square parted. -/
import Derived.Test.YtekifompoefhbaaNp2
import Derived.Test.YtekifompoefhbaaNp3
namespace Go.Proofs.Ytekifompoefhbaa
open Go.RowKit
attribute [local go_sem ↓] Go.wp_at_zero Go.wp_at_succ

def updN (f : Nat → Nat) (k x : Nat) : Nat → Nat := fun i => if i = k then x else f i

theorem rowsV_upd (g c : Nat → Nat) (n k a b : Nat) : rowsV (updN g k a) (updN c k b) n k = rowsV g c n k := by
  unfold rowsV
  refine List.map_congr_left fun i hi => ?_
  have := List.mem_range.1 hi
  simp [updN, show i ≠ k by omega]

/-- A row more, in a new block. -/
theorem OM.push {B : Nat} {g c : Nat → Nat} {k n : Nat} {wa w1 w3 : World} {v v' : Value} {R : List (List Int)} {gk ck : Nat} {r : List Int} {o : Obj} (h : OM B g c k n wa v R) (hB : B ≤ wa.heap.size) (hr : r.length = n)
    (hu : w1.ownsRow wa.heap.size 3 1 (.slice (some ⟨gk, 0, none⟩) n ck) n (ints r)) (hb : Below wa.heap.size wa w1)
    (ho : w3.ownsRow B 22 1 v' (k + 1) (rowsV g c n k ++ [.slice (some ⟨gk, 0, none⟩) n ck])) (hg : (w1.alloc o).grownBy w3 v.ownBlock) : OM B (updN g k gk) (updN c k ck) (k + 1) n w3 v' (R ++ [r]) := by
  have hgk := hu.lt gk rfl
  have hv : ∀ b, v.ownBlock = some b → b < wa.heap.size ∧ ∃ cur, wa.heap[b]? = some (.cells cur 22 (0, 0)) := fun b hx => by
    refine ⟨(h.out.lt b hx).2, ?_⟩
    rcases h.out.2 with ⟨h1, _⟩ | ⟨G, cap, cur, h1, _, hh, _⟩
    · rw [h1] at hx; simp [Value.ownBlock] at hx
    · rw [h1] at hx
      simp only [Value.ownBlock, Option.some.injEq] at hx
      subst hx
      exact ⟨cur, hh⟩
  have hgl : ∀ i, i < k → g i < wa.heap.size := fun i hi => ((h.row i hi).lt _ rfl).2
  have hold : ∀ i, i < k → w3.heap[g i]? = wa.heap[g i]? := fun i hi => by
    have h1 := hgl i hi
    have h2 := hb.size
    refine (hg.block (g i) (by simp; omega) (fun e => ?_)).trans ((Below.heap_alloc _ _ _ (by omega)).trans (hb.block _ h1))
    obtain ⟨_, cur, hc⟩ := hv (g i) e.symm
    obtain ⟨cur', hc'⟩ := own_heap (h.row i hi)
    rw [hc] at hc'
    simp at hc'
  refine ⟨by simp [h.num], fun i hi => ?_, ?_, fun i hi => ?_, fun i j hi hj e => ?_⟩
  · by_cases e : i < k
    · rw [List.getD_eq_getElem?_getD, List.getElem?_append_left (by rw [h.num]; exact e), ← List.getD_eq_getElem?_getD]
      exact h.len i e
    · have : i = R.length := by rw [h.num]; omega
      subst this
      simpa using hr
  · rw [rowsV_succ, rowsV_upd]
    simp only [updN, if_true]
    exact ho
  · by_cases e : i < k
    · have e1 : (R ++ [r]).getD i [] = R.getD i [] := by
        rw [List.getD_eq_getElem?_getD, List.getElem?_append_left (by rw [h.num]; exact e), ← List.getD_eq_getElem?_getD]
      rw [e1]
      simp only [updN, show i ≠ k by omega, if_false]
      exact own_keepB (h.row i e) (fun b hx => by
        simp only [Value.ownBlock, Option.some.injEq] at hx
        subst hx
        exact hold i e)
    · have : i = k := by omega
      subst this
      have e1 : (R ++ [r]).getD i [] = r := by
        have := h.num
        subst this
        simp
      rw [e1]
      simp only [updN, if_true]
      have hk : w3.ownsRow wa.heap.size 3 1 (.slice (some ⟨gk, 0, none⟩) n ck) n (ints r) := own_keepB hu (fun b hx => by
        simp only [Value.ownBlock, Option.some.injEq] at hx
        subst hx
        refine (hg.block gk (by simp; omega) (fun e => ?_)).trans (Below.heap_alloc _ _ _ (by omega))
        have := (hv gk e.symm).1
        omega)
      refine ⟨hk.1, ?_⟩
      rcases hk.2 with h2 | ⟨g', cap, cur, h1, h2, r⟩
      · exact Or.inl h2
      · exact Or.inr ⟨g', cap, cur, h1, by omega, r⟩
  · by_cases ei : i = k
    · by_cases ej : j = k
      · omega
      · simp only [updN, ei, ej, if_true, if_false] at e
        have := hgl j (by omega)
        omega
    · by_cases ej : j = k
      · simp only [updN, ei, ej, if_true, if_false] at e
        have := hgl i (by omega)
        omega
      · simp only [updN, ei, ej, if_false] at e
        exact h.apart i j (by omega) (by omega) e

/-- Between the orders. -/
structure PQ (w w2 : World) (N1 n : Nat) (g c : Nat → Nat) (lv : Value) (s : PSt) (x7 x8 : Value) (wr : World) : Prop where
  bel : Below w.heap.size w wr
  mid : ∀ b, N1 ≤ b → b < w2.heap.size → wr.heap[b]? = w2.heap[b]?
  left : OM w.heap.size g c n n wr lv s.rest
  ol : ∃ vs, vs.length = s.ords.length ∧ wr.ownsRow w2.heap.size 22 1 x7 s.ords.length vs ∧ ∀ i, i < s.ords.length → SlN N1 w2 (vs.getD i (.slice none 0 0)) (ints (s.ords.getD i []))
  ml : wr.ownsRow w2.heap.size 3 1 x8 s.many.length (ints s.many)
  sz : w2.heap.size ≤ wr.heap.size

theorem PQ.drewN {w w2 : World} {N1 n : Nat} {g c : Nat → Nat} {lv : Value} {s : PSt} {x7 x8 : Value} {wr : World} (h : PQ w w2 N1 n g c lv s x7 x8 wr) (d : Nat) : PQ w w2 N1 n g c lv s x7 x8 (wr.drewN d) :=
  ⟨h.bel.trans ⟨rfl, rfl, rfl, Nat.le_refl _, fun _ _ => rfl⟩, h.mid, h.left.keep (fun _ _ => rfl), h.ol, h.ml, h.sz⟩

theorem SlN.mid {N1 : Nat} {w2 wq : World} {u : Value} {l : List Int} (h : SlN N1 w2 u (ints l)) (hm : ∀ b, N1 ≤ b → b < w2.heap.size → wq.heap[b]? = w2.heap[b]?) : Sl 0 3 wq u (ints l) := by
  obtain ⟨⟨ao, cap, rfl, h1, h2, h3, h4⟩, hN⟩ := h
  refine ⟨ao, cap, rfl, h1, h2, fun i hi => ?_, h4⟩
  obtain ⟨b, o, ha, hc, ht⟩ := h3 i hi
  have hb : N1 ≤ b := hN b o _ _ (by rw [ha])
  have hlt : b < w2.heap.size := lt_of_cell (hc.trans (List.getElem?_eq_getElem hi))
  have keep := hm b hb hlt
  refine ⟨b, o, ha, (World.cell?_of_block (w := w2) (a := ⟨b, o + i, none⟩) keep).trans hc, ?_⟩
  rcases ht with ht | ⟨cur, ht⟩
  · omega
  · exact Or.inr ⟨cur, keep.trans ht⟩

theorem PQ.set {w w2 : World} {N1 n : Nat} {g c : Nat → Nat} {lv : Value} {s : PSt} {x7 x8 : Value} {wr : World} (h : PQ w w2 N1 n g c lv s x7 x8 wr) (hN : ∀ i, i < n → g i < N1) (hN2 : N1 ≤ w2.heap.size) {i j : Nat} (hi : i < n) (z : Int) :
    PQ w w2 N1 n g c lv ⟨setM s.rest i j z, s.ords, s.many⟩ x7 x8 (wr.setCell ⟨g i, j, none⟩ (.int .i64 z)) := by
  have hg := hN i hi
  have hB : w.heap.size ≤ g i := ((h.left.row i hi).lt _ rfl).1
  have hoth : ∀ b, b ≠ g i → (wr.setCell ⟨g i, j, none⟩ (.int .i64 z)).heap[b]? = wr.heap[b]? := fun b hb => Below.heap_setCell wr _ _ b hb
  refine ⟨h.bel.trans ⟨rfl, rfl, rfl, by simp [World.setCell], fun b hb => hoth b (by omega)⟩, fun b h1 h2 => (hoth b (by omega)).trans (h.mid b h1 h2), h.left.set hi z, ?_, own_keepB h.ml (fun b hb => hoth b (by have := (h.ml.lt b hb).1; omega)), by simp [World.setCell]; exact h.sz⟩
  obtain ⟨vs, k1, k2, k3⟩ := h.ol
  exact ⟨vs, k1, own_keepB k2 (fun b hb => hoth b (by have := (k2.lt b hb).1; omega)), k3⟩

theorem own_apart {B1 B2 n k : Nat} {w : World} {x y : Value} {xs ys : List Value} (h1 : w.ownsRow B1 22 1 x n xs) (h2 : w.ownsRow B2 3 1 y k ys) : ∀ b, x.ownBlock = some b → y.ownBlock = some b → False := by
  intro b hx hy
  rcases h1.2 with ⟨e, _⟩ | ⟨G, cap, cur, e, _, hh, _⟩
  · rw [e] at hx; simp [Value.ownBlock] at hx
  · rcases h2.2 with ⟨e2, _⟩ | ⟨G2, cap2, cur2, e2, _, hh2, _⟩
    · rw [e2] at hy; simp [Value.ownBlock] at hy
    · rw [e] at hx
      rw [e2] at hy
      simp only [Value.ownBlock, Option.some.injEq] at hx hy
      subst hx
      subst hy
      rw [hh] at hh2
      simp at hh2

theorem apart_ne {x y : Option Nat} (h : ∀ b, x = some b → y = some b → False) : y = none ∨ y ≠ x := by
  cases y with
  | none => exact Or.inl rfl
  | some b => exact Or.inr (fun e => h b e.symm rfl)

/-- Both rows have one more. -/
theorem PQ.step {w w2 : World} {N1 n : Nat} {g c : Nat → Nat} {lv : Value} {s : PSt} {x7 x8 : Value} {wr : World} (h : PQ w w2 N1 n g c lv s x7 x8 wr) (hN : ∀ b, (lv.ownBlock = some b ∨ ∃ i, i < n ∧ b = g i) → b < N1) (hN2 : N1 ≤ w2.heap.size) (hw : w.heap.size ≤ w2.heap.size) {vs : List Value} (k1 : vs.length = s.ords.length) (k2 : wr.ownsRow w2.heap.size 22 1 x7 s.ords.length vs) (k3 : ∀ i, i < s.ords.length → SlN N1 w2 (vs.getD i (.slice none 0 0)) (ints (s.ords.getD i [])))
    {o : List Int} {z : Int} {row : Value} (hrow : SlN N1 w2 row (ints o)) {v2 v4 : Value} {w3 w4 : World} {o1 o2 : Obj} (ho3 : w3.ownsRow w2.heap.size 22 1 v2 (s.ords.length + 1) (vs ++ [row])) (hg3 : (wr.alloc o1).grownBy w3 x7.ownBlock) (hm3 : w3.ownsRow w2.heap.size 3 1 x8 s.many.length (ints s.many))
    (ho4 : w4.ownsRow w2.heap.size 3 1 v4 (s.many.length + 1) (ints s.many ++ [.int .i64 z])) (hg4 : (w3.alloc o2).grownBy w4 x8.ownBlock) : PQ w w2 N1 n g c lv ⟨s.rest, s.ords ++ [o], s.many ++ [z]⟩ v2 v4 w4 := by
  have hs := h.sz
  have s3 := hg3.size
  have s4 := hg4.size
  simp only [World.size_alloc] at s3 s4
  have hlow : ∀ b, b < w2.heap.size → w4.heap[b]? = wr.heap[b]? := fun b hb => by
    refine (hg4.block b (by simp; omega) (fun e => ?_)).trans ((Below.heap_alloc _ _ _ (by omega)).trans ((hg3.block b (by simp; omega) (fun e => ?_)).trans (Below.heap_alloc _ _ _ (by omega))))
    · have := (hm3.lt b e.symm).1; omega
    · have := (k2.lt b e.symm).1; omega
  refine ⟨⟨hg4.os.trans (hg3.os.trans h.bel.os), hg4.tape.trans (hg3.tape.trans h.bel.tape), hg4.output.trans (hg3.output.trans h.bel.output), by have := h.bel.size; omega, fun b hb => (hlow b (by omega)).trans (h.bel.block b hb)⟩, fun b hb1 hb2 => (hlow b hb2).trans (h.mid b hb1 hb2), h.left.keep (fun b hb => hlow b (by have := hN b hb; omega)), ⟨vs ++ [row], by simp [k1], ?_, fun i hi => ?_⟩, ?_, by omega⟩
  · simp only [List.length_append, List.length_singleton]
    refine own_keepB ho3 (fun b hb => ?_)
    have hlt := (ho3.lt b hb).2
    exact (hg4.block b (by simp; omega) (fun e => own_apart ho3 hm3 b hb e.symm)).trans (Below.heap_alloc _ _ _ hlt)
  · by_cases e : i < s.ords.length
    · have e1 : (vs ++ [row]).getD i (.slice none 0 0) = vs.getD i (.slice none 0 0) := by
        simp only [List.getD_eq_getElem?_getD]; rw [List.getElem?_append_left (by omega)]
      have e2 : (s.ords ++ [o]).getD i [] = s.ords.getD i [] := by
        simp only [List.getD_eq_getElem?_getD]; rw [List.getElem?_append_left (by omega)]
      rw [e1, e2]
      exact k3 i e
    · have hi' : i = s.ords.length := by simp at hi; omega
      subst hi'
      have e1 : (vs ++ [row]).getD s.ords.length (.slice none 0 0) = row := by rw [← k1]; simp
      have e2 : (s.ords ++ [o]).getD s.ords.length [] = o := by simp
      rw [e1, e2]
      exact hrow
  · simp only [List.length_append, List.length_singleton]
    have e : ints (s.many ++ [z]) = ints s.many ++ [.int .i64 z] := by simp [ints]
    rw [e]
    exact ho4

theorem ord_od {n : Nat} {o : List Int} (h : IsOrd n o) (hl : o.length = n) : Od n o := by
  refine ⟨hl, fun i hi => ?_⟩
  have hm : o.getD i 0 ∈ o := by simp [show i < o.length by omega]
  have := h.1 _ hm
  exact ⟨(o.getD i 0).toNat, by omega, by omega⟩

theorem pFold_sq {n : Nat} {m : List (List Int)} (h : SqN n m) : ∀ (l : List (List Int)), (∀ o ∈ l, Od n o) → SqN n (pFold n m l).rest := by
  intro l
  suffices H : ∀ (l : List (List Int)) (s : PSt), SqN n s.rest → (∀ o ∈ l, Od n o) → SqN n (l.foldl (pStep n) s).rest from fun hl => H l ⟨m, [], []⟩ h hl
  intro l
  induction l with
  | nil => intro s hs _; exact hs
  | cons o l ih =>
    intro s hs hl
    rw [List.foldl_cons]
    refine ih _ (pStep_sq hs fun i hi => ?_) (fun x hx => hl x (by simp [hx]))
    obtain ⟨j, hj, hjn⟩ := (hl o (by simp)).rng i hi
    rw [hj]; simpa using hjn

theorem pFold_len (n : Nat) (m : List (List Int)) : ∀ (l : List (List Int)), (pFold n m l).ords.length = (pFold n m l).many.length ∧ (pFold n m l).many.length ≤ l.length := by
  intro l
  suffices H : ∀ (l : List (List Int)) (s : PSt), s.ords.length = s.many.length → (l.foldl (pStep n) s).ords.length = (l.foldl (pStep n) s).many.length ∧ (l.foldl (pStep n) s).many.length ≤ s.many.length + l.length from by
    have := H l ⟨m, [], []⟩ rfl
    simpa [pFold] using this
  intro l
  induction l with
  | nil => intro s hs; exact ⟨hs, by simp⟩
  | cons o l ih =>
    intro s hs
    rw [List.foldl_cons]
    have h1 : (pStep n s o).ords.length = (pStep n s o).many.length ∧ (pStep n s o).many.length ≤ s.many.length + 1 := by
      unfold pStep
      split
      · simp [hs]
      · exact ⟨hs, by omega⟩
    have := ih (pStep n s o) h1.1
    simp only [List.length_cons]
    omega

end Go.Proofs.Ytekifompoefhbaa
