/- Lists that follow each other and are one: each once. -/
import Derived.Test.YtgfnmkenpgnllaaGreatOrd1
import Derived.Test.YtgfnmkenpgnllaaGreatFrM
import Derived.Lib.SliceRun
import Derived.Lib.LazyBuf
namespace Go.Proofs.YtgfnmkenpgnllaaGreat
open Go.RowKit
attribute [local go_sem ↓] Go.wp_at_zero Go.wp_at_succ

/-- The places below k that are kept: the first, and each that is not what lies ahead of it. -/
def keptI (m : List (List Int)) : Nat → List Nat
  | 0 => []
  | k + 1 => if k = 0 ∨ m.getD k [] ≠ m.getD (k - 1) [] then keptI m k ++ [k] else keptI m k

def compL (m : List (List Int)) : List (List Int) := (keptI m m.length).map fun i => m.getD i []

theorem keptI_lt {m : List (List Int)} : ∀ {k i : Nat}, i ∈ keptI m k → i < k
  | 0, i, h => by simp [keptI] at h
  | k + 1, i, h => by
    simp only [keptI] at h
    split at h
    · rcases List.mem_append.1 h with h | h
      · have := keptI_lt h; omega
      · simp at h; omega
    · have := keptI_lt h; omega

theorem keptI_len (m : List (List Int)) : ∀ k, (keptI m k).length ≤ k
  | 0 => by simp [keptI]
  | k + 1 => by
    have := keptI_len m k
    simp only [keptI]
    split
    · simp; omega
    · omega

theorem keptI_all {m : List (List Int)} : ∀ k, (∀ i, 1 ≤ i → i < k → m.getD i [] ≠ m.getD (i - 1) []) → keptI m k = List.range k
  | 0, _ => by simp [keptI]
  | k + 1, h => by
    simp only [keptI]
    rw [keptI_all k (fun i h1 h2 => h i h1 (by omega)), List.range_succ, if_pos]
    rcases Nat.eq_zero_or_pos k with h0 | h0
    · exact Or.inl h0
    · exact Or.inr (h k h0 (by omega))

theorem compL_short {m : List (List Int)} (h : m.length < 2) : compL m = m := by
  match m, h with
  | [], _ => rfl
  | [x], _ => rfl
  | _ :: _ :: _, h => simp at h; omega

theorem mem_compL {m : List (List Int)} {r : List Int} : r ∈ compL m ↔ r ∈ m := by
  constructor
  · intro h
    simp only [compL, List.mem_map] at h
    obtain ⟨i, hi, rfl⟩ := h
    have := keptI_lt hi
    simp [this]
  · intro h
    obtain ⟨i, hi, rfl⟩ := List.mem_iff_getElem.1 h
    -- the first place of a run is kept
    have key : ∀ i, i < m.length → ∃ j ∈ keptI m (i + 1), m.getD j [] = m.getD i [] := by
      intro i
      induction i with
      | zero => intro _; exact ⟨0, by simp [keptI], rfl⟩
      | succ i ih =>
        intro hi
        by_cases hne : m.getD (i + 1) [] ≠ m.getD i []
        · exact ⟨i + 1, by rw [keptI, if_pos (Or.inr (by simpa using hne))]; simp, rfl⟩
        · have he : m.getD (i + 1) [] = m.getD i [] := Classical.not_not.1 hne
          obtain ⟨j, hj, hje⟩ := ih (by omega)
          refine ⟨j, ?_, by rw [hje, he]⟩
          rw [keptI]
          split
          · exact List.mem_append_left _ hj
          · exact hj
    have grow : ∀ a b, a ≤ b → ∀ j, j ∈ keptI m a → j ∈ keptI m b := by
      intro a b hab
      induction b with
      | zero => intro j hj; have : a = 0 := by omega
                subst this; exact hj
      | succ b ih =>
        intro j hj
        by_cases e : a = b + 1
        · subst e; exact hj
        · have := ih (by omega) j hj
          rw [keptI]
          split
          · exact List.mem_append_left _ this
          · exact this
    obtain ⟨j, hj, hje⟩ := key i hi
    simp only [compL, List.mem_map]
    refine ⟨j, grow (i + 1) m.length (by omega) j hj, ?_⟩
    rw [hje]; simp [hi]

/-- A call of two words through a function value. -/
theorem step_call2v {P : Program} {ops : Array Oper} {o : Oper} {a : Act} {w : World} {K : Act → World → Prop} {Q : Exit → Act → World → Prop} {E : Prop}
    (hg : o.guard = none) (f : FuncId) (z x y : Operand) (t s : TypeId) (hop : o.op = Op.call { callee := Callee.value z, args := #[x, y], argTypes := #[t, s] }) (v u : Value) (hz : a.eval z = Value.func (Fn.func f) #[] #[]) (hv : a.eval x = v) (hu : a.eval y = u) (hf : ∃ fn, P.funcs[f]? = some fn ∧ (fn.name == "runtime.NumGoroutine") = false ∧ fn.body.isNone = false)
    (hc : Calls P f #[v, u] w fun e w' => ∃ u, e = .returned u ∧ K (a.put o.dst u) w') :
    if Region.wanted o (yielded ops a.tmps) = true then Oper.wp P o a w K Q else E := by
  have hw : Region.wanted o (yielded ops a.tmps) = true := by simp [Region.wanted, hg]
  rw [if_pos hw]
  unfold Oper.wp
  obtain ⟨fn, f1, f2, f3⟩ := hf
  have e : (execOp a.eval o).run P w = .ok (.enter f #[v, u]) w := by
    have hcf : (callFunc f #[v, u]).run P w = .ok (.enter f #[v, u]) w := by
      unfold callFunc
      have g2 : ¬ fn.name = "runtime.NumGoroutine" := by simpa using f2
      have g3 : ¬ fn.body = none := by intro e; rw [e] at f3; simp at f3
      simp [f1, g2, g3]
    unfold execOp
    rw [hop]
    simp [resolve, invoke, hv, hu, hz, Deferred.ofValue, hcf]
  rw [e, Oper.upon_enter]
  refine hc.mono ?_
  rintro e w' ⟨u, rfl, h⟩
  exact h

/-- A row of rows in a block of its own, all its cells told. -/
structure RowM (w : World) (g cap : Nat) (f : Nat → Value) (m : List (List Int)) : Prop where
  row : w.rowIs g 22 cap f
  cap1 : m.length ≤ cap
  cap2 : cap ≤ 9223372036854775807
  inn : ∀ i, i < m.length → Sl 0 3 w (f i) (ints (m.getD i []))

theorem Fr.rowM {B : Nat} {w : World} {v : Value} {m : List (List Int)} (h : Fr B 22 3 w v m) (hm : 0 < m.length) : ∃ g cap f, v = .slice (some ⟨g, 0, none⟩) m.length cap ∧ B ≤ g ∧ g < w.heap.size ∧ RowM w g cap f m := by
  obtain ⟨vs, h1, h2, h3⟩ := h
  rcases h2.2 with ⟨_, h0⟩ | ⟨g, cap, cur, hv, hb, hh, hn, hc, hs, ht⟩
  · omega
  · refine ⟨g, cap, fun i => cur.toList.getD i (.slice none 0 0), hv, hb, lt_of_block hh, ⟨cur, hh, by omega, fun i hi => ?_⟩, hn, by unfold maxLen at hc; exact hc, fun i hi => ?_⟩
    · show cur[i]? = some (cur.toList.getD i (.slice none 0 0))
      rw [← Array.getElem?_toList, List.getD_eq_getElem?_getD, List.getElem?_eq_getElem (by simp; omega)]; rfl
    · have e : cur.toList.getD i (.slice none 0 0) = vs.getD i (.slice none 0 0) := by
        rw [← ht]
        simp only [List.getD_eq_getElem?_getD]
        rw [List.getElem?_take_of_lt (by omega)]
      rw [e]; exact h3 i hi

theorem RowM.fr {B : Nat} {w : World} {g cap : Nat} {f : Nat → Value} {m : List (List Int)} (h : RowM w g cap f m) (hB : B ≤ g) : Fr B 22 3 w (.slice (some ⟨g, 0, none⟩) m.length cap) m := by
  obtain ⟨⟨c, h1, h2, h3⟩, h4, h5, h6⟩ := h
  refine ⟨(List.range m.length).map f, by simp, ⟨by simp, Or.inr ⟨g, cap, c, rfl, hB, h1, h4, by unfold maxLen; exact h5, by omega, ?_⟩⟩, fun i hi => ?_⟩
  · apply List.ext_getElem?
    intro i
    by_cases hi : i < m.length
    · rw [List.getElem?_take_of_lt (by omega), Array.getElem?_toList, h3 i (by omega)]; simp [hi]
    · rw [List.getElem?_eq_none (by simp; omega), List.getElem?_eq_none (by simp; omega)]
  · have e : ((List.range m.length).map f).getD i (.slice none 0 0) = f i := by simp [hi]
    rw [e]; exact h6 i hi

theorem Tryz.zero22 : ∀ w, (zeroValue 22).run Tryz.prog w = .ok (.slice none 0 0) w := fun w => by kernel_rfl

end Go.Proofs.YtgfnmkenpgnllaaGreat
