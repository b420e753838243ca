/- facetref.PlaneFlats. -/
import Derived.Test.YtgfnmkenpgnllaaGreatEz6
import Derived.Test.YtgfnmkenpgnllaaGreatEz7
import Derived.Test.YtgfnmkenpgnllaaGreatEz1
import Derived.Test.YtgfnmkenpgnllaaGreatDsn
namespace Go.Proofs.YtgfnmkenpgnllaaGreat
open Go.RowKit Lin
attribute [local go_sem ↓] Go.wp_at_zero Go.wp_at_succ

/-- Lists of flats and their ranks, side by side. -/
structure PfI (B : Nat) (w0 W : World) (ov rv : Value) (O : List (List Int)) (n : Nat) : Prop where
  ex : ∃ vs xs, vs.length = O.length ∧ W.ownsRow B 22 1 ov O.length vs ∧ (∀ i, i < O.length → Sl 0 3 W (vs.getD i (.slice none 0 0)) (ints (O.getD i []))) ∧ (∀ i, i < O.length → 0 < (O.getD i []).length → ∀ a k c, vs.getD i (.slice none 0 0) = .slice (some a) k c → rv.ownBlock ≠ some a.block) ∧ W.ownsRow B 3 1 rv n (ints xs)
  bel : Below B w0 W

theorem PfI.nil (B : Nat) (w : World) : PfI B w w (.slice none 0 0) (.slice none 0 0) [] 0 :=
  ⟨⟨[], [], rfl, World.ownsRow_nil _ _ _ _, fun i hi => absurd hi (by simp), fun i hi => absurd hi (by simp), World.ownsRow_nil _ _ _ _⟩, Below.refl _ _⟩

theorem PfI.low {B n : Nat} {w0 W W' : World} {ov rv : Value} {O : List (List Int)} (h : PfI B w0 W ov rv O n) (hB : B ≤ W.heap.size) (hb : Below W.heap.size W W') : PfI B w0 W' ov rv O n := by
  obtain ⟨⟨vs, xs, h1, h2, h3, h4, h5⟩, h6⟩ := h
  exact ⟨⟨vs, xs, h1, owns_below h2 hb (Nat.le_refl _), fun i hi => (h3 i hi).below hb (Nat.le_refl _), h4, owns_below h5 hb (Nat.le_refl _)⟩, h6.trans (hb.mono hB)⟩

theorem PfI.ne {B n : Nat} {w0 W : World} {ov rv : Value} {O : List (List Int)} (h : PfI B w0 W ov rv O n) : ∀ g, ov.ownBlock = some g → rv.ownBlock ≠ some g := fun g h1 h2 => by
  obtain ⟨⟨vs, xs, q1, q2, q3, q4, q5⟩, q6⟩ := h
  obtain ⟨_, _, c1, e1⟩ := own_typF q2 g h1
  obtain ⟨_, _, c2, e2⟩ := own_typF q5 g h2
  rw [e1] at e2
  simp at e2

/-- One list more. -/
theorem PfI.pushO {B n : Nat} {w0 W w5 : World} {ov rv v' u : Value} {O : List (List Int)} {zs : List Int} {ob : Obj} {vs : List Value} {xs : List Int} (hB : B ≤ W.heap.size) (h6 : Below B w0 W)
    (h1 : vs.length = O.length) (h2 : W.ownsRow B 22 1 ov O.length vs) (h3 : ∀ i, i < O.length → Sl 0 3 W (vs.getD i (.slice none 0 0)) (ints (O.getD i []))) (h4 : ∀ i, i < O.length → 0 < (O.getD i []).length → ∀ a k c, vs.getD i (.slice none 0 0) = .slice (some a) k c → rv.ownBlock ≠ some a.block) (h5 : W.ownsRow B 3 1 rv n (ints xs))
    (hne : ∀ g, ov.ownBlock = some g → rv.ownBlock ≠ some g) (hu : Sl 0 3 W u (ints zs)) (hub : 0 < zs.length → ∀ a k c, u = .slice (some a) k c → rv.ownBlock ≠ some a.block)
    (ho : w5.ownsRow B 22 1 v' (O.length + 1) (vs ++ [u])) (hg : (W.alloc ob).grownBy w5 ov.ownBlock) : PfI B w0 w5 v' rv (O ++ [zs]) n := by
  have hf : Fr B 22 3 w5 v' (O ++ [zs]) := Fr.push (e2 := 22) (e1 := 3) (by decide) h1 (h2.alloc _) (fun i hi => (h3 i hi).alloc _) (hu.alloc _) ho hg
  have hgl : ∀ i, i < O.length → (vs ++ [u]).getD i (.slice none 0 0) = vs.getD i (.slice none 0 0) ∧ (O ++ [zs]).getD i [] = O.getD i [] := fun i hi => by
    simp only [List.getD_eq_getElem?_getD]
    rw [List.getElem?_append_left (by omega), List.getElem?_append_left (by omega)]
    exact ⟨rfl, rfl⟩
  have hge : (vs ++ [u]).getD O.length (.slice none 0 0) = u ∧ (O ++ [zs]).getD O.length [] = zs := by
    constructor
    · rw [← h1]; simp
    · simp
  have ht : ∀ k, ov.ownBlock = some k → 0 ≤ k ∧ ∀ cur, (W.alloc ob).heap[k]? ≠ some (.cells cur 3 (0, 0)) := fun k hk => ⟨Nat.zero_le _, (owns_typed (h2.alloc ob) (by decide) k hk).2⟩
  refine ⟨⟨vs ++ [u], xs, by simp [h1], by simpa using ho, fun i hi => ?_, fun i hi hp a k c e => ?_, ?_⟩, (h6.alloc hB _).grown hg (by simp; omega) (fun x hx => (h2.lt x hx).1)⟩
  · by_cases hlt : i < O.length
    · rw [(hgl i hlt).1, (hgl i hlt).2]
      exact ((h3 i hlt).alloc ob).grown hg ht
    · have hi' : i = O.length := by simp at hi; omega
      subst hi'
      rw [hge.1, hge.2]
      exact (hu.alloc ob).grown hg ht
  · by_cases hlt : i < O.length
    · rw [(hgl i hlt).1] at e
      rw [(hgl i hlt).2] at hp
      exact h4 i hlt hp a k c e
    · have hi' : i = O.length := by simp at hi; omega
      subst hi'
      rw [hge.1] at e
      rw [hge.2] at hp
      exact hub hp a k c e
  · refine own_keepF h5 fun b hb => ?_
    have hlt := (own_typF h5 b hb).2.1
    rw [hg.block b (by simp; omega) (fun e => hne b e.symm hb)]
    exact Below.heap_alloc _ _ _ hlt

/-- One rank more. -/
theorem PfI.pushR {B n : Nat} {w0 W w5 : World} {ov rv v' : Value} {O : List (List Int)} {z : Int} {ob : Obj} {vs : List Value} {xs : List Int} (hB : B ≤ W.heap.size) (h6 : Below B w0 W)
    (h1 : vs.length = O.length) (h2 : W.ownsRow B 22 1 ov O.length vs) (h3 : ∀ i, i < O.length → Sl 0 3 W (vs.getD i (.slice none 0 0)) (ints (O.getD i []))) (h4 : ∀ i, i < O.length → 0 < (O.getD i []).length → ∀ a k c, vs.getD i (.slice none 0 0) = .slice (some a) k c → rv.ownBlock ≠ some a.block) (h5 : W.ownsRow B 3 1 rv n (ints xs))
    (hne : ∀ g, ov.ownBlock = some g → rv.ownBlock ≠ some g)
    (ho : w5.ownsRow B 3 1 v' (n + 1) (ints xs ++ [.int .i64 z])) (hg : (W.alloc ob).grownBy w5 rv.ownBlock) (hat : v'.ownBlock = rv.ownBlock ∨ v'.ownBlock = some (W.heap.size + 1)) : PfI B w0 w5 ov v' O (n + 1) := by
  refine ⟨⟨vs, xs ++ [z], h1, ?_, fun i hi => ?_, fun i hi hp a k c e => ?_, by simpa [ints] using ho⟩, (h6.alloc hB _).grown hg (by simp; omega) (fun x hx => (h5.lt x hx).1)⟩
  · refine own_keepF h2 fun b hb => ?_
    have hlt := (own_typF h2 b hb).2.1
    rw [hg.block b (by simp; omega) (fun e => hne b hb e.symm)]
    exact Below.heap_alloc _ _ _ hlt
  · refine sl_pos_keepF (h3 i hi) fun hp a k c e => ?_
    have hlt := sl_blockF (by rw [← e]; exact h3 i hi) hp
    rw [hg.block a.block (by simp; omega) (fun e2 => h4 i hi hp a k c e e2.symm)]
    exact Below.heap_alloc _ _ _ hlt
  · have hlt := sl_blockF (by rw [← e]; exact h3 i hi) hp
    rcases hat with h | h
    · rw [h]; exact h4 i hi hp a k c e
    · rw [h]
      intro e2
      simp only [Option.some.injEq] at e2
      omega

/-- A stretch of blocks is as it was. -/
def Win (N : Nat) (W W' : World) : Prop := ∀ b, N ≤ b → b < W.heap.size → W'.heap[b]? = W.heap[b]?

theorem Win.grown {N : Nat} {W W' w5 : World} {v : Value} {ob : Obj} (h : Win N W W') (hs : W.heap.size ≤ W'.heap.size) (hg : (W'.alloc ob).grownBy w5 v.ownBlock) (hv : ∀ g, v.ownBlock = some g → g < N ∨ W.heap.size ≤ g) : Win N W w5 := fun b h1 h2 => by
  rw [hg.block b (by simp; omega) (fun e => by have := hv b e.symm; omega), Below.heap_alloc _ _ _ (by omega)]
  exact h b h1 h2

/-- A row of new rows in a stretch that is as it was. -/
theorem FrN.win {N : Nat} {W W' : World} {x : Value} {s : List (List Int)} (h : FrN N W x s) (hw : Win N W W') {k : Nat} (hk : k < s.length) : ∃ b o rv c, x = .slice (some ⟨b, o, none⟩) s.length c ∧ W'.cell? ⟨b, o + k, none⟩ = some rv ∧ Sl 0 3 W' rv (ints (s.getD k [])) ∧ ∀ a n c, rv = .slice (some a) n c → 0 < (s.getD k []).length → N ≤ a.block ∧ a.block < W.heap.size := by
  obtain ⟨vs, h1, h2, h3⟩ := h
  obtain ⟨q1, q2⟩ := h3 k hk
  rcases h2.2 with ⟨_, h0⟩ | ⟨g, cap, cur, hv, hb, hh, hn, hc, hs, ht⟩
  · omega
  · have hgl : g < W.heap.size := lt_of_block hh
    refine ⟨g, 0, vs.getD k (.slice none 0 0), cap, hv, ?_, ?_, ?_⟩
    · unfold World.cell?
      rw [hw g hb hgl, hh]
      have e : cur[k]? = some (vs.getD k (.slice none 0 0)) := by
        rw [← Array.getElem?_toList, ← List.getElem?_take_of_lt (show k < s.length by omega)]
        have : cur.toList.take s.length = vs := by simpa using ht
        rw [this, List.getD_eq_getElem?_getD, List.getElem?_eq_getElem (by omega)]
        rfl
      simpa using e
    · refine sl_pos_keepF q1 fun hp a n c e => ?_
      have hlt := sl_blockF (by rw [← e]; exact q1) hp
      refine hw a.block ?_ hlt
      obtain ⟨b2, o2, c2, e2, _, _⟩ := sl_cell q1 (k := 0) (by simpa using hp)
      rw [e] at e2
      simp only [Value.slice.injEq, Option.some.injEq] at e2
      have := q2 b2 o2 _ _ (by rw [e, e2.1])
      rw [e2.1]
      exact this
    · intro a n c e hp
      have hlt := sl_blockF (by rw [← e]; exact q1) hp
      obtain ⟨b2, o2, c2, e2, _, _⟩ := sl_cell q1 (k := 0) (by simpa using hp)
      rw [e] at e2
      simp only [Value.slice.injEq, Option.some.injEq] at e2
      have := q2 b2 o2 _ _ (by rw [e, e2.1])
      rw [e2.1] at hlt ⊢
      exact ⟨this, hlt⟩
end Go.Proofs.YtgfnmkenpgnllaaGreat
