/- Integers as the call finds them lie within 64 bits. -/
import Derived.Test.YtfbgcfbafnmahaaArgs
import Derived.Test.YtfbgcfbafnmahaaMade1
namespace Go.Proofs.Ytfbgcfbafnmahaa
open Go.ChangeShapes Go.WideShapes Go.RowKit Go.Deep

theorem in64_of {n : Int} (h : (Lit.int .i64 n).wf = true) : In64 n := by
  have h1 : (decide (IntKind.i64.min ≤ n) && decide (n ≤ IntKind.i64.max)) = true := h
  simp only [Bool.and_eq_true, decide_eq_true_eq] at h1
  have e1 : IntKind.i64.min = -9223372036854775808 := by decide
  have e2 : IntKind.i64.max = 9223372036854775807 := by decide
  unfold In64
  omega

theorem open_list64 {H : Type} {enc : TypeId × Value → H} {w : World} {ao : Option Addr} {l0 c0 : Nat} {d : DataW H} {p : List MemPlace} (h : DataW.Trod enc Try.prog w 0 (fun _ => true) true 28 (.slice ao l0 c0) d p) : ∃ zs, Sl w.heap.size 3 w (.slice ao l0 c0) (ints zs) ∧ ∀ z ∈ zs, In64 z := by
  obtain ⟨fuel, hf⟩ := h
  rcases open_ints Try.underlying28 Try.underlying3 Try.cells3 hf with ⟨hcs, _⟩ | ⟨a, len, cap, zs, hcs, _, hl, hm, hz, _, hcell, hwf⟩
  · simp [Value.cells] at hcs
    obtain ⟨rfl, rfl, rfl⟩ := hcs
    exact ⟨[], Sl.nil _ _ _, fun z hz => absurd hz (by simp)⟩
  · simp [Value.cells] at hcs
    simp only [if_true] at hz
    obtain ⟨rfl, rfl, rfl⟩ := hcs
    refine ⟨zs.take l0, ?_, fun z hz => in64_of (hwf z (List.mem_of_mem_take hz))⟩
    have hlen : (ints (zs.take l0)).length = l0 := by simp; omega
    refine sl_of_cells hlen hl hm fun i hi => ?_
    rw [hcell i (by omega), ints_get _ _ (by simp; omega)]
    simp [hi]

end Go.Proofs.Ytfbgcfbafnmahaa
