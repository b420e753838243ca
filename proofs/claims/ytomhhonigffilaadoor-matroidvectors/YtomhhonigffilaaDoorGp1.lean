/- Graphs: a list of edges in the heap; the edges of a set. -/
import Derived.Test.YtomhhonigffilaaDoorGp0
import Derived.Test.YtomhhonigffilaaDoorMt8
import Derived.Test.YtomhhonigffilaaDoorMt9a
import Derived.Deep.OwnRows
namespace Go.Proofs.YtomhhonigffilaaDoor
open Go.RowKit

/-- A list of edges. -/
def Eds (B : Nat) (w : World) (v : Value) (es : List (Nat × Nat)) : Prop :=
  ∃ po pc, v = .slice po es.length pc ∧ ∀ i, i < es.length → ∃ b o, po = some ⟨b, o, none⟩ ∧ b < B ∧ w.cell? ⟨b, o + i * 2, none⟩ = some (.int .i64 (es.getD i (0, 0)).1) ∧ w.cell? ⟨b, o + i * 2 + 1, none⟩ = some (.int .i64 (es.getD i (0, 0)).2)

theorem Eds.below {B N : Nat} {w w' : World} {v : Value} {es : List (Nat × Nat)} (h : Eds B w v es) (hb : Below N w w') (hN : B ≤ N) : Eds B w' v es := by
  obtain ⟨po, pc, h1, h2⟩ := h
  refine ⟨po, pc, h1, fun i hi => ?_⟩
  obtain ⟨b, o, e, l, c1, c2⟩ := h2 i hi
  exact ⟨b, o, e, l, (hb.cell (by show b < N; omega)).trans c1, (hb.cell (by show b < N; omega)).trans c2⟩

theorem Eds.more {B B' : Nat} {w : World} {v : Value} {es : List (Nat × Nat)} (h : Eds B w v es) (hB : B ≤ B') : Eds B' w v es := by
  obtain ⟨po, pc, h1, h2⟩ := h
  refine ⟨po, pc, h1, fun i hi => ?_⟩
  obtain ⟨b, o, e, l, c⟩ := h2 i hi
  exact ⟨b, o, e, by omega, c⟩

/-- The edges of a set. -/
def pkE (es : List (Nat × Nat)) (s : Nat) : List (Nat × Nat) := (mem8 s).map fun z => es.getD z.toNat (0, 0)

theorem pkE_len (es : List (Nat × Nat)) (s : Nat) : (pkE es s).length = (mem8 s).length := by simp [pkE]

theorem pkE_getD (es : List (Nat × Nat)) (s t : Nat) (h : t < (mem8 s).length) : (pkE es s).getD t (0, 0) = es.getD ((mem8 s).getD t 0).toNat (0, 0) := by
  simp [pkE, h]

theorem pkE_lt {es : List (Nat × Nat)} {s n : Nat} (hs : s < 2 ^ es.length) (h : ∀ e ∈ es, e.1 < n ∧ e.2 < n) : ∀ e ∈ pkE es s, e.1 < n ∧ e.2 < n := by
  intro e he
  obtain ⟨z, hz, rfl⟩ := List.mem_map.1 he
  obtain ⟨i, _, h2, rfl⟩ := mem8_iff.1 hz
  have hi : i < es.length := bit_lt hs h2
  refine h _ ?_
  simp [hi]

theorem lws_append : ∀ (a b : List (Nat × Nat)) (q : Nat → Nat), lws (a ++ b) q = lws b (lws a q)
  | [], _, _ => rfl
  | e :: a, b, q => by
    simp only [List.cons_append, lws]
    exact lws_append a b _

theorem jns_append : ∀ (a b : List (Nat × Nat)) (q : Nat → Nat), jns (a ++ b) q = jns b (jns a q)
  | [], _, _ => rfl
  | e :: a, b, q => by
    simp only [List.cons_append, jns]
    exact jns_append a b _

theorem take_one {l : List (Nat × Nat)} {t : Nat} (h : t < l.length) : l.take (t + 1) = l.take t ++ [l.getD t (0, 0)] := by
  rw [List.take_add_one]
  simp [h]

theorem lws_take {l : List (Nat × Nat)} {t : Nat} (q : Nat → Nat) (h : t < l.length) : lws (l.take (t + 1)) q = lw (lws (l.take t) q) (l.getD t (0, 0)).1 (l.getD t (0, 0)).2 := by
  rw [take_one h, lws_append]
  rfl

theorem jns_take {l : List (Nat × Nat)} {t : Nat} (q : Nat → Nat) (h : t < l.length) : jns (l.take (t + 1)) q = jn (jns (l.take t) q) (l.getD t (0, 0)).1 (l.getD t (0, 0)).2 := by
  rw [take_one h, jns_append]
  rfl

/-- The first edge that joins nothing, or none. -/
theorem fsB_at : ∀ (l : List (Nat × Nat)) (q : Nat → Nat), fsB l q = true ↔ ∀ t, t < l.length → jns (l.take t) q (l.getD t (0, 0)).1 ≠ jns (l.take t) q (l.getD t (0, 0)).2
  | [], _ => by simp [fsB]
  | e :: l, q => by
    simp only [fsB]
    by_cases c : q e.1 = q e.2
    · rw [if_pos c]
      constructor
      · intro x; exact absurd x (by simp)
      · intro x; exact absurd c (x 0 (by simp))
    · rw [if_neg c, fsB_at l]
      constructor
      · intro h t ht
        cases t with
        | zero => exact c
        | succ t => exact h t (by simpa using ht)
      · intro h t ht
        exact h (t + 1) (by simpa using ht)

/-- How many names are the node's own, of the first nodes. -/
def owN (g : Nat → Nat) (t : Nat) : Nat := (List.range t).countP fun v => g v == v

theorem owN_succ (g : Nat → Nat) (t : Nat) : owN g (t + 1) = owN g t + if g t = t then 1 else 0 := by
  unfold owN
  rw [List.range_succ, List.countP_append]
  by_cases c : g t = t <;> simp [c]

theorem owN_le (g : Nat → Nat) (t : Nat) : owN g t ≤ t := by
  have := List.countP_le_length (l := List.range t) (p := fun v => g v == v)
  rw [List.length_range] at this
  exact this

end Go.Proofs.YtomhhonigffilaaDoor
