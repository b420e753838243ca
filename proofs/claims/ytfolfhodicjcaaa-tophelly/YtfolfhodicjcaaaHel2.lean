/- Lists of cuts, and rows put together, in memory. -/
import Derived.Test.YtfolfhodicjcaaaHel1
namespace Go.Proofs.Ytfolfhodicjcaaa
open Go.RowKit

theorem Try.info28 : (Try.prog.info? 28).map (fun i => (i.zero, i.size, i.bytes)) = some (some (.agg #[.int .i64 0, .slice none 0 0]), 2, 32) := by kernel_rfl

def cutVs (vs : List Value) : List Value := vs.flatMap fun x => [.int .i64 2, x]

theorem cutVs_snoc (vs : List Value) (x : Value) : cutVs (vs ++ [x]) = cutVs vs ++ [.int .i64 2, x] := by simp [cutVs]

theorem cutVs_at : ∀ (vs : List Value) (j : Nat) (x : Value), vs[j]? = some x → (cutVs vs)[j * 2 + 1]? = some x
  | [], j, x, h => by simp at h
  | v :: vs, 0, x, h => by simpa [cutVs] using h
  | v :: vs, j + 1, x, h => by
    have := cutVs_at vs j x (by simpa using h)
    rw [show (j + 1) * 2 + 1 = (j * 2 + 1) + 2 by omega]
    simpa [cutVs] using this

/-- A list of cuts of the call's own. -/
structure Cts (w : World) (base : Nat) (v : Value) (vs : List Value) (L : List (List (List Int))) : Prop where
  own : w.ownsRow base 28 2 v vs.length (cutVs vs)
  len : L.length = vs.length
  mat : ∀ i, i < vs.length → Mat 0 22 3 w (vs.getD i (.slice none 0 0)) (L.getD i [])
  box : ∀ i, i < vs.length → (L.getD i []).length = 2 ∧ Box 3 4 (L.getD i [])

theorem mat_typed {w w' : World} {v : Value} {m : List (List Int)} (h : Mat 0 22 3 w v m) (hk : ∀ (b : Nat) (cur : Array Value) (t : TypeId), (t = 22 ∨ t = 3) → w.heap[b]? = some (Obj.cells cur t (0, 0)) → w'.heap[b]? = w.heap[b]?) : Mat 0 22 3 w' v m := by
  obtain ⟨vs, h1, h2, h3⟩ := h
  refine ⟨vs, h1, h2.move fun b hl ht => ⟨?_, ht⟩, fun i hi => (h3 i hi).move fun b hl ht => ⟨?_, ht⟩⟩
  · rcases ht with ht | ⟨c, ht⟩
    · omega
    · exact hk b c _ (.inl rfl) ht
  · rcases ht with ht | ⟨c, ht⟩
    · omega
    · exact hk b c _ (.inr rfl) ht

theorem owns_typed2 {B z : Nat} {e : TypeId} {w : World} {v : Value} {n : Nat} {xs : List Value} (h : w.ownsRow B e z v n xs) :
    ∀ k, v.ownBlock = some k → B ≤ k ∧ ∃ cur, w.heap[k]? = some (.cells cur e (0, 0)) := by
  intro k hk
  obtain ⟨_, h2⟩ := h
  rcases h2 with ⟨rfl, rfl⟩ | ⟨g, cap, cur, rfl, hg, hh, _⟩
  · simp [Value.ownBlock] at hk
  · simp [Value.ownBlock] at hk
    subst hk
    exact ⟨hg, cur, hh⟩

theorem Cts.below {w w' : World} {base N : Nat} {v : Value} {vs : List Value} {L : List (List (List Int))} (h : Cts w base v vs L) (hb : Below N w w') (hN : w.heap.size ≤ N) : Cts w' base v vs L :=
  ⟨h.own.kept (row := none) ⟨hb.os, hb.tape, hb.output, hb.size, fun k hk _ => hb.block k (by omega)⟩ (by cases hv : v.ownBlock <;> simp), h.len, fun i hi => (h.mat i hi).below hb hN, h.box⟩

theorem Cts.nil (w : World) (base : Nat) : Cts w base (.slice none 0 0) [] [] :=
  ⟨World.ownsRow_nil _ _ _ _, rfl, fun i hi => absurd hi (by simp), fun i hi => absurd hi (by simp)⟩

theorem fr_mat {B : Nat} {w : World} {v : Value} {m : List (List Int)} (h : Fr B 22 3 w v m) : Mat 0 22 3 w v m := by
  obtain ⟨vs, h1, h2, h3⟩ := h
  exact ⟨vs, h1, Sl.own h2, h3⟩

theorem getD_left {α : Type} {a b : List α} {i : Nat} {d : α} (h : i < a.length) : (a ++ b).getD i d = a.getD i d := by
  simp only [List.getD_eq_getElem?_getD]; rw [List.getElem?_append_left h]

theorem getD_right {α : Type} {a b : List α} {i : Nat} {d : α} (h : a.length ≤ i) : (a ++ b).getD i d = b.getD (i - a.length) d := by
  simp only [List.getD_eq_getElem?_getD]; rw [List.getElem?_append_right h]

/-- One cut more. -/
theorem Cts.push {w w3 : World} {base : Nat} {v v' x : Value} {vs : List Value} {L : List (List (List Int))} {m : List (List Int)} (h : Cts w base v vs L) (hx : Mat 0 22 3 w x m) (hm : m.length = 2) (hbx : Box 3 4 m)
    (ho : w3.ownsRow base 28 2 v' (vs.length + 1) (cutVs vs ++ [.int .i64 2, x])) (hg : (w.alloc (.cells #[.int .i64 2, x] 28)).grownBy w3 v.ownBlock) : Cts w3 base v' (vs ++ [x]) (L ++ [m]) := by
  have hmv : ∀ {y : Value} {q : List (List Int)}, Mat 0 22 3 w y q → Mat 0 22 3 w3 y q := fun hq => mat_typed hq fun b cur t ht hb => by
    have hl := (Array.getElem?_eq_some_iff.1 hb).1
    refine (hg.block b (by simp; omega) (fun e => ?_)).trans (Below.heap_alloc _ _ _ hl)
    obtain ⟨_, c2, h2⟩ := owns_typed2 h.own b e.symm
    rw [h2] at hb
    cases hb
    rcases ht with ht | ht <;> exact absurd ht (by decide)
  have hl := h.len
  refine ⟨by rw [cutVs_snoc]; simpa using ho, by simp [hl], fun i hi => ?_, fun i hi => ?_⟩
  · by_cases e : i < vs.length
    · rw [getD_left e, getD_left (by omega)]; exact hmv (h.mat i e)
    · have : i = vs.length := by simp at hi; omega
      subst this
      rw [getD_right (Nat.le_refl _), getD_right (by omega), hl]
      simpa using hmv hx
  · by_cases e : i < vs.length
    · rw [getD_left (by omega)]; exact h.box i e
    · have : i = vs.length := by simp at hi; omega
      subst this
      rw [getD_right (by omega), hl]
      simpa using ⟨hm, hbx⟩

/-- Where the rows of a cut lie. -/
theorem Cts.cell {w : World} {base : Nat} {v : Value} {vs : List Value} {L : List (List (List Int))} (h : Cts w base v vs L) {j : Nat} (hj : j < vs.length) :
    ∃ g cap, v = .slice (some ⟨g, 0, none⟩) vs.length cap ∧ vs.length ≤ cap ∧ w.cell? ⟨g, j * 2 + 1, none⟩ = some (vs.getD j (.slice none 0 0)) := by
  obtain ⟨h1, h2⟩ := h.own
  rcases h2 with ⟨rfl, h0⟩ | ⟨g, cap, cur, rfl, hg, hh, hn, hc, hs, ht⟩
  · omega
  · refine ⟨g, cap, rfl, hn, ?_⟩
    have hx : vs[j]? = some (vs.getD j (.slice none 0 0)) := by simp [hj]
    have := cutVs_at vs j _ hx
    rw [← ht, List.getElem?_take] at this
    split at this
    · simp [World.cell?, hh]
      simpa using this
    · cases this

/-- Rows put together in the cut at block X. -/
structure XS (N X : Nat) (w wr : World) (v : Value) (m : List (List Int)) : Prop where
  cut : wr.heap[X]? = some (.cells #[.int .i64 2, v] 28 (0, 0))
  rows : Fr N 22 3 wr v m
  bel : Below N w wr
  nX : N ≤ X

theorem two_set {w : World} {b : Nat} {x y u : Value} {t : TypeId} (h : w.heap[b]? = some (.cells #[x, y] t (0, 0))) : (w.setCell ⟨b, 1, none⟩ u).heap[b]? = some (.cells #[x, u] t (0, 0)) := by
  simp [World.setCell, Array.getElem?_modify, h]

theorem XS.push {N X : Nat} {w wr w1 : World} {v v' : Value} {m ms : List (List Int)} {vs us : List Value} (h : XS N X w wr v m) (hN : N ≤ wr.heap.size)
    (h1 : vs.length = m.length) (h2 : wr.ownsRow N 22 1 v m.length vs) (h3 : ∀ i, i < m.length → Sl 0 3 wr (vs.getD i (.slice none 0 0)) (ints (m.getD i [])))
    (hu : us.length = ms.length) (hus : ∀ i, i < ms.length → Sl 0 3 wr (us.getD i (.slice none 0 0)) (ints (ms.getD i [])))
    (ho : w1.ownsRow N 22 1 v' (m.length + ms.length) (vs ++ us)) (hg : wr.grownBy w1 v.ownBlock) :
    (w1.heap[X]? = some (.cells #[.int .i64 2, v] 28 (0, 0))) ∧ XS N X w (w1.setCell ⟨X, 1, none⟩ v') v' (m ++ ms) := by
  have n2 := (Array.getElem?_eq_some_iff.1 h.cut).1
  have ht := owns_typed h2 (e1 := 3) (by decide)
  have hc := owns_typed h2 (e1 := 28) (by decide)
  have g2 : w1.heap[X]? = some (.cells #[.int .i64 2, v] 28 (0, 0)) := by
    rw [hg.block X n2 (fun e => (hc X e.symm).2 _ h.cut)]; exact h.cut
  have mv : ∀ {y : Value} {xs : List Value}, Sl 0 3 wr y xs → Sl 0 3 w1 y xs := fun hs => hs.grown hg (fun k hk => ⟨Nat.zero_le _, (ht k hk).2⟩)
  have hr : Fr N 22 3 w1 v' (m ++ ms) := by
    refine ⟨vs ++ us, by simp [h1, hu], by simpa using ho, fun i hi => ?_⟩
    by_cases e : i < m.length
    · rw [getD_left (by omega), getD_left e]; exact mv (h3 i e)
    · have hi' : i - m.length < ms.length := by simp at hi; omega
      rw [getD_right (by omega), getD_right (by omega), h1]; exact mv (hus _ hi')
  refine ⟨g2, ⟨two_set g2, ?_, ?_, h.nX⟩⟩
  · obtain ⟨us', u1, u2, u3⟩ := hr
    refine ⟨us', u1, ownsRow_setCell_other u2 (fun e => ?_) _, fun i hi => (u3 i hi).setCell _ ⟨Nat.zero_le _, fun cur => by simp only; rw [g2]; simp⟩⟩
    exact (owns_typed u2 (e1 := 28) (by decide) _ e).2 _ g2
  · exact (h.bel.grown hg hN (fun k hk => (ht k hk).1)).setCell h.nX _

end Go.Proofs.Ytfolfhodicjcaaa
