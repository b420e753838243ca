/- facetref.Rising. -/
import Derived.Test.YtkdileeahbaobaaDoorMt8
import Derived.Test.YtkdileeahbaobaaDoorTk1
import Derived.Laws.CopyOwn
namespace Go.Proofs.YtkdileeahbaobaaDoor
open Go.RowKit
attribute [local go_sem ↓] Go.wp_at_zero Go.wp_at_succ

/-- Where a slice begins that leaves k + 1 out. -/
def tailI (b c k : Nat) : Option Addr := if c = k + 1 then some ⟨b, 0, none⟩ else some ⟨b, k + 1, none⟩

theorem run_tailI {b n c k : Nat} (h1 : k + 1 ≤ n) (w : World) : (Instr.slice 22 (.slice (some ⟨b, 0, none⟩) n c) (some (.int .i64 ((k : Int) + 1))) none none).run Tryd.prog w = .ok (.slice (tailI b c k) (n - (k + 1)) (c - (k + 1))) w := by
  have e1 : (0 : Int) ≤ (k : Int) + 1 ∧ (k : Int) + 1 ≤ (n : Int) := by omega
  have e2 : ((k : Int) + 1).toNat = k + 1 := by omega
  have hz : ∀ w, (Go.sizeOf 3).run Tryd.prog w = .ok 1 w := fun w => by kernel_rfl
  unfold tailI
  by_cases e3 : c = k + 1
  · simp [Instr.slice, Instr.sliceBounds, Instr.sliceBound, run_underlying Tryd.underlying22, asIntOf, e1, e2, e3, hz, Addr.add, go_sem]
  · simp [Instr.slice, Instr.sliceBounds, Instr.sliceBound, run_underlying Tryd.underlying22, asIntOf, e1, e2, e3, hz, Addr.add, go_sem]

theorem run_fromI {b n c k : Nat} (h1 : k < n) (h2 : n ≤ c) (w : World) : (Instr.slice 22 (.slice (some ⟨b, 0, none⟩) n c) (some (.int .i64 (k : Int))) none none).run Tryd.prog w = .ok (.slice (some ⟨b, k, none⟩) (n - k) (c - k)) w := by
  have e1 : (0 : Int) ≤ (k : Int) ∧ (k : Int) ≤ (n : Int) := by omega
  have e3 : ¬ c = k := by omega
  have e4 : k ≤ n := by omega
  have hz : ∀ w, (Go.sizeOf 3).run Tryd.prog w = .ok 1 w := fun w => by kernel_rfl
  simp [Instr.slice, Instr.sliceBounds, Instr.sliceBound, run_underlying Tryd.underlying22, asIntOf, e1, e3, e4, hz, Addr.add, go_sem]
  intro h
  omega

theorem ins_cells {cur : List Value} {out : List Int} {k : Nat} {x : Int} (hk : k ≤ out.length) (ht : cur.take (out.length + 1) = ints (out ++ [0])) :
    ((splice cur (k + 1) (ints (out.drop k))).set k (.int .i64 x)).take (out.length + 1) = ints (out.take k ++ x :: out.drop k) := by
  obtain ⟨rest, hr⟩ : ∃ rest, cur = ints (out ++ [0]) ++ rest := ⟨cur.drop (out.length + 1), by rw [← ht, List.take_append_drop]⟩
  obtain ⟨p, q, hp, hq, ho⟩ : ∃ p q, p.length = k ∧ out.drop k = q ∧ out = p ++ q := ⟨out.take k, out.drop k, by simp; omega, rfl, (List.take_append_drop k out).symm⟩
  rw [hq]
  have htk : out.take k = p := by rw [ho, ← hp, List.take_left]
  rw [htk]
  obtain ⟨c, hc⟩ : ∃ c, cur.take (k + 1) = ints p ++ [c] := by
    rw [hr, ho]
    cases q with
    | nil => exact ⟨.int .i64 0, by simp [ints, ← hp, List.take_append]; exact List.take_of_length_le (by simp)⟩
    | cons y q => exact ⟨.int .i64 y, by simp [ints, ← hp, List.take_append]; exact List.take_of_length_le (by simp)⟩
  unfold splice
  rw [hc]
  have hlen : out.length = k + q.length := by rw [ho, List.length_append, hp]
  rw [hlen]
  have hpl : (ints p).length = k := by simp [hp]
  rw [List.append_assoc, List.set_append_right _ _ (by omega), hpl, Nat.sub_self]
  simp only [List.singleton_append, List.set_cons_zero]
  rw [List.take_append, hpl, List.take_of_length_le (by omega), show k + q.length + 1 - k = q.length + 1 by omega, List.take_succ_cons, List.take_left' (by simp)]
  simp [ints]

theorem ins_ris {out : List Int} {k : Nat} {x : Int} (h : Ris out) (h1 : ∀ j, j < k → out.getD j 0 < x) (h2 : ∀ j, k ≤ j → j < out.length → x < out.getD j 0) (hk : k ≤ out.length) : Ris (out.take k ++ x :: out.drop k) := by
  unfold Ris at *
  rw [List.pairwise_append, List.pairwise_cons]
  have e1 : ∀ y ∈ out.take k, y < x := fun y hy => by
    obtain ⟨j, hj, rfl⟩ := List.mem_take_iff_getElem.1 hy
    have := h1 j (by omega)
    rw [List.getD_eq_getElem?_getD, List.getElem?_eq_getElem (by omega), Option.getD_some] at this
    exact this
  have e2 : ∀ y ∈ out.drop k, x < y := fun y hy => by
    obtain ⟨j, hj, rfl⟩ := List.mem_drop_iff_getElem.1 hy
    have := h2 (k + j) (by omega) (by omega)
    rw [List.getD_eq_getElem?_getD, List.getElem?_eq_getElem (by omega), Option.getD_some] at this
    exact this
  refine ⟨h.sublist (List.take_sublist _ _), ⟨e2, h.sublist (List.drop_sublist _ _)⟩, fun a ha b hb => ?_⟩
  rcases List.mem_cons.1 hb with rfl | hb
  · exact e1 a ha
  · have := e1 a ha
    have := e2 b hb
    omega

theorem ris_get {out : List Int} (h : Ris out) {i j : Nat} (hij : i < j) (hj : j < out.length) : out.getD i 0 < out.getD j 0 := by
  have := List.pairwise_iff_getElem.1 h i j (by omega) hj hij
  simp [show i < out.length by omega, hj]
  exact this

theorem copy_wp {P : Program} {o : Oper} {a : Act} {w : World} {K : Act → World → Prop} {Q : Exit → Act → World → Prop} (hgd : o.guard = none) (d s : Operand) (dT sT : TypeId)
    (ho : o.op = .call { callee := .builtin .copy, args := #[d, s], argTypes := #[dT, sT] }) (elem : TypeId) (hu : P.underlying dT = some (.slice elem)) (hsz : (P.info? elem).map (·.size) = some 1)
    (dp sp : Option Addr) (dLen dCap sLen sCap : Nat) (hd : a.eval d = .slice dp dLen dCap) (hs : a.eval s = .slice sp sLen sCap)
    (g off : Nat) (cur : List Value) (t : TypeId) (hg : w.heap[g]? = some (.cells cur.toArray t (0, 0))) (cs : List Value) (hn : cs.length = Nat.min sLen dLen)
    (hpos : 0 < cs.length → dp = some ⟨g, off, none⟩ ∧ ∃ ad, sp = some ad ∧ ∀ j v, cs[j]? = some v → w.cell? (ad.add j) = some v)
    (hfit : off + cs.length ≤ cur.length) (h1 : ∀ v ∈ cs, v.oneCell' = true) (B : Nat) (w0 : World) (hb : Below B w0 w) (hBg : B ≤ g)
    (h : ∀ w', Hid (w'.heap[g]? = some (.cells (splice cur off cs).toArray t (0, 0))) → Below B w0 w' → K (a.put o.dst (goInt cs.length)) w') : Oper.wp P o a w K Q := by
  have k := step_copy_splice (ops := #[]) (E := False) (Q := Q) hgd d s dT sT ho elem hu hsz dp sp dLen dCap sLen sCap hd hs g off cur t hg cs hn hpos hfit h1 B w0 hb hBg h
  rw [if_pos (by simp [Region.wanted, hgd])] at k
  exact k

end Go.Proofs.YtkdileeahbaobaaDoor
