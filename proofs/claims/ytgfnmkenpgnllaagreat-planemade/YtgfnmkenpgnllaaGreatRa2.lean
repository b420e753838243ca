/- The rows around points: all choices, by the iterator: the walk. -/
import Derived.Test.YtgfnmkenpgnllaaGreatRa1
import Derived.Maps.OwnIn
namespace Go.Proofs.YtgfnmkenpgnllaaGreat
open Go.RowKit Go.Shelf
attribute [local go_sem] Oper.semAt_some

theorem handA_below (N0 : Nat) (W : World) (S : Nat → Prop) (x : List Int) (vs : Array Value) (W' : World) (h : Hand N0 W S x vs) (hb : Below W.heap.size W W') : Hand N0 W' S x vs := by
  obtain ⟨v, B0, h1, h2, h3, h4, h5⟩ := h
  exact ⟨v, B0, h1, owns_below h2 hb (Nat.le_refl _), h3, h4, Nat.le_trans h5 hb.size⟩

theorem handA_put (N0 : Nat) (W : World) (S : Nat → Prop) (x : List Int) (vs : Array Value) (l : Nat) (r : Loop) (o : Obj) (h : Hand N0 W S x vs) (hl : W.heap[l]? = some (.loop r)) : Hand N0 (W.putObj l o) S x vs := by
  obtain ⟨v, B0, h1, h2, h3, h4, h5⟩ := h
  exact ⟨v, B0, h1, ownsRow_putObj h2 _ hl rfl, h3, h4, by simpa using h5⟩

/-- Rows that lie off the blocks of S. -/
structure FrO (S : Nat → Prop) (B : Nat) (W : World) (v : Value) (m : List (List Int)) (vs : List Value) : Prop where
  len : vs.length = m.length
  own : W.ownsRow B 22 1 v m.length vs
  off : ∀ g, v.ownBlock = some g → ¬ S g
  sl : ∀ i, i < m.length → Sl 0 3 W (vs.getD i (.slice none 0 0)) (ints (m.getD i []))
  so : ∀ i, i < m.length → 0 < (m.getD i []).length → ∃ a n c, vs.getD i (.slice none 0 0) = .slice (some a) n c ∧ ¬ S a.block

theorem FrO.fr {S : Nat → Prop} {B : Nat} {W : World} {v : Value} {m : List (List Int)} {vs : List Value} (h : FrO S B W v m vs) : Fr B 22 3 W v m := ⟨vs, h.len, h.own, h.sl⟩

theorem sl_pos_keep {w W : World} {v : Value} {xs : List Int} (h : Sl 0 3 w v (ints xs)) (hk : 0 < xs.length → ∀ a n c, v = .slice (some a) n c → W.heap[a.block]? = w.heap[a.block]?) : Sl 0 3 W v (ints xs) := by
  obtain ⟨ao, cap, rfl, h1, h2, h3, h4⟩ := h
  refine ⟨ao, cap, rfl, h1, h2, fun i hi => ?_, h4⟩
  obtain ⟨b, o, rfl, hc, ht⟩ := h3 i hi
  have k1 := hk (by simpa using (Nat.lt_of_le_of_lt (Nat.zero_le _) hi)) _ _ _ rfl
  refine ⟨b, o, rfl, (World.cell?_of_block (w := w) (a := ⟨b, o + i, none⟩) k1).trans hc, ?_⟩
  rcases ht with ht | ⟨cur, ht⟩
  · omega
  · exact .inr ⟨cur, k1.trans ht⟩

theorem sl_block {w : World} {a : Addr} {n c : Nat} {xs : List Int} (h : Sl 0 3 w (.slice (some a) n c) (ints xs)) (hp : 0 < xs.length) : a.block < w.heap.size := by
  obtain ⟨ao, cap, hv, _, _, h3, _⟩ := h
  simp only [Value.slice.injEq] at hv
  obtain ⟨rfl, _, _⟩ := hv
  obtain ⟨b, o, ha, hc, _⟩ := h3 0 (by simpa using hp)
  cases ha
  have hx : (ints xs)[0]? = some (.int .i64 (xs.getD 0 0)) := ints_get _ _ hp
  exact lt_of_cell (hc.trans hx)

theorem FrO.keep {S S' : Nat → Prop} {B : Nat} {W W' : World} {v : Value} {m : List (List Int)} {vs : List Value} (h : FrO S B W v m vs) (hc : ∀ b, b < W.heap.size → ¬ S b → W'.heap[b]? = W.heap[b]?) (hs : ∀ b, S' b → S b ∨ W.heap.size ≤ b) : FrO S' B W' v m vs := by
  refine ⟨h.len, ⟨h.own.1, ?_⟩, fun g hg hx => ?_, fun i hi => sl_pos_keep (h.sl i hi) (fun hp a n c e => ?_), fun i hi hp => ?_⟩
  · rcases h.own.2 with h2 | ⟨g, cap, cur, rfl, hb, hh, r⟩
    · exact Or.inl h2
    · exact Or.inr ⟨g, cap, cur, rfl, hb, (hc g (lt_of_block hh) (h.off g rfl)).trans hh, r⟩
  · rcases hs g hx with h1 | h1
    · exact h.off g hg h1
    · have := (h.own.lt g hg).2; omega
  · obtain ⟨a', n', c', e', hn⟩ := h.so i hi hp
    rw [e] at e'
    cases e'
    have hsl := h.sl i hi
    rw [e] at hsl
    exact hc _ (sl_block hsl hp) hn
  · obtain ⟨a, n, c, e, hn⟩ := h.so i hi hp
    refine ⟨a, n, c, e, fun hx => ?_⟩
    have hsl := h.sl i hi
    rw [e] at hsl
    rcases hs _ hx with h1 | h1
    · exact hn h1
    · have := sl_block hsl hp; omega

/-- One row more. -/
theorem FrO.push {S : Nat → Prop} {B : Nat} {W W' : World} {v v' u : Value} {m : List (List Int)} {vs : List Value} {zs : List Int} (h : FrO S B W v m vs) (hu : Sl 0 3 W u (ints zs)) (hun : 0 < zs.length → ∃ a n c, u = .slice (some a) n c ∧ ¬ S a.block)
    (ho : W'.ownsRow B 22 1 v' (m.length + 1) (vs ++ [u])) (hg : W.grownBy W' v.ownBlock) (hn : ∀ g, v'.ownBlock = some g → ¬ S g) : FrO S B W' v' (m ++ [zs]) (vs ++ [u]) := by
  have hp := Fr.push (e2 := 22) (e1 := 3) (m := m) (u := u) (zs := zs) (by decide) h.len h.own h.sl hu ho hg
  have ht : ∀ k, v.ownBlock = some k → 0 ≤ k ∧ ∀ cur, W.heap[k]? ≠ some (.cells cur 3 (0, 0)) := fun k hk => ⟨Nat.zero_le _, (owns_typed h.own (by decide) k hk).2⟩
  refine ⟨by simp [h.len], by simpa using ho, hn, fun i hi => ?_, fun i hi hpos => ?_⟩
  · by_cases hlt : i < m.length
    · have e1' : (vs ++ [u]).getD i (.slice none 0 0) = vs.getD i (.slice none 0 0) := by
        simp only [List.getD_eq_getElem?_getD]; rw [List.getElem?_append_left (by have := h.len; omega)]
      have e2' : (m ++ [zs]).getD i [] = m.getD i [] := by
        simp only [List.getD_eq_getElem?_getD]; rw [List.getElem?_append_left (by omega)]
      rw [e1', e2']
      exact (h.sl i hlt).grown hg ht
    · have hi' : i = m.length := by simp at hi; omega
      subst hi'
      have e1' : (vs ++ [u]).getD m.length (.slice none 0 0) = u := by
        rw [← h.len]; simp
      have e2' : (m ++ [zs]).getD m.length [] = zs := by simp
      rw [e1', e2']
      exact hu.grown hg ht
  · by_cases hlt : i < m.length
    · have e1' : (vs ++ [u]).getD i (.slice none 0 0) = vs.getD i (.slice none 0 0) := by
        simp only [List.getD_eq_getElem?_getD]; rw [List.getElem?_append_left (by have := h.len; omega)]
      have e2' : (m ++ [zs]).getD i [] = m.getD i [] := by
        simp only [List.getD_eq_getElem?_getD]; rw [List.getElem?_append_left (by omega)]
      rw [e2'] at hpos
      rw [e1']
      exact h.so i hlt hpos
    · have hi' : i = m.length := by simp at hi; omega
      subst hi'
      have e1' : (vs ++ [u]).getD m.length (.slice none 0 0) = u := by
        rw [← h.len]; simp
      have e2' : (m ++ [zs]).getD m.length [] = zs := by simp
      rw [e2'] at hpos
      rw [e1']
      exact hun hpos
end Go.Proofs.YtgfnmkenpgnllaaGreat
