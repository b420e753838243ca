/- weyl.taken. -/
import Derived.Test.YtjpmhgidckmdoaaWyB
import Derived.Test.YtjpmhgidckmdoaaMs7
import Derived.Laws.EntriesVeiled
namespace Go.Proofs.Ytjpmhgidckmdoaa
open Go.RowKit Go.Shelf
attribute [local go_sem] Oper.semAt_some

/-- What holds between two rounds. -/
structure TkI (w WN : World) (a g n : Nat) (Bd : List Int → Prop) (f : List Nat → List Int) (S : Nat → Prop) (pre : List Nat) (W : World) : Prop where
  sn : ∀ b, S b → a + 2 ≤ b
  size : a + 2 ≤ W.heap.size
  kp : ∀ b, b < a + 2 → b ≠ g → W.heap[b]? = WN.heap[b]?
  os : W.os = w.os
  tape : W.tape = w.tape
  output : W.output = w.output
  row : W.rowIs g 3 n (fun k => .int .i64 ((f pre).getD k 0))
  bd : Bd (f pre)

theorem TkI.stab {w WN : World} {a g n : Nat} {Bd : List Int → Prop} {f : List Nat → List Int} {S S' : Nat → Prop} {pre : List Nat} {W W' : World} (h : TkI w WN a g n Bd f S pre W) (hga : g < a) (hc : Chg S W W') (hs : ∀ b, S' b → S b ∨ W.heap.size ≤ b) : TkI w WN a g n Bd f S' pre W' := by
  have hns : ∀ b, b < a + 2 → ¬ S b := fun b hb hS => by have := h.sn b hS; omega
  have hsz := h.size
  refine ⟨fun b hb => ?_, Nat.le_trans hsz hc.size, fun b hb hn => (hc.block b (by omega) (hns b hb)).trans (h.kp b hb hn), hc.os.trans h.os, hc.tape.trans h.tape, hc.output.trans h.output, h.row.of_block (hc.block g (by omega) (hns g (by omega))), h.bd⟩
  rcases hs b hb with k | k
  · exact h.sn b k
  · omega

end Go.Proofs.Ytjpmhgidckmdoaa
