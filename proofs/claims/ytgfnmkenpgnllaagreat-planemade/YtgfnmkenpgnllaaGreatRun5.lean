/- The program's elimination: a pivot found. -/
import Derived.Test.YtgfnmkenpgnllaaGreatRun4
namespace Go.Proofs.YtgfnmkenpgnllaaGreat
open Go.RowKit
attribute [local go_sem ↓] Go.wp_at_zero Go.wp_at_succ

/-- Two places changed. -/
def sw (k i0 i : Nat) : Nat := if i = k then i0 else if i = i0 then k else i

theorem sw_lt {k i0 i n : Nat} (hk : k < n) (hi0 : i0 < n) (hi : i < n) : sw k i0 i < n := by
  unfold sw; split
  · exact hi0
  · split
    · exact hk
    · exact hi

theorem sw_inj {k i0 i j : Nat} (h : i ≠ j) : sw k i0 i ≠ sw k i0 j := by
  unfold sw; grind

theorem sw_self (k i : Nat) : sw k k i = i := by unfold sw; by_cases h : i = k <;> simp [h]

theorem rows_find {n c q k f : Nat} {mat : Nat → Nat → Int} (hq : q < c) (hf : k + f < n) (hz : ∀ i, k ≤ i → i < k + f → mat i q = 0) (hne : mat (k + f) q ≠ 0) : findR ((rowsOf n c mat).drop k) q = f := by
  have hg : ∀ i, i < n - k → ((rowsOf n c mat).drop k).getD i [] = (List.range c).map (mat (k + i)) := by
    intro i hi; simp [rowsOf, show k + i < n by omega]
  refine findR_hit (by simp [rowsOf]; omega) ?_ ?_
  · rw [List.any_eq_false]
    intro r hr
    rw [List.mem_take_iff_getElem] at hr
    obtain ⟨i, hi, rfl⟩ := hr
    have hi1 : i < f := by omega
    have := hz (k + i) (by omega) (by omega)
    simp [rowsOf, hq, this]
  · rw [hg f (by omega)]; simp [hq, hne]

/-- Behind the exchange of two rows. -/
theorem RS.swap {B R n c k i0 : Nat} {mat : Nat → Nat → Int} {piv : List Int} {val sgn : Int} {go capo : Nat} {pv : Value} {bs caps : Nat → Nat} {w : World} (h : RS B R n c mat piv val sgn go capo pv bs caps w) (hk : k < n) (hi0 : i0 < n) (hne : k ≠ i0) (sgn' : Int) :
    RS B R n c (fun i j => mat (sw k i0 i) j) piv val sgn' go capo pv (fun i => bs (sw k i0 i)) (fun i => caps (sw k i0 i))
      (((w.setCell ⟨go, k, none⟩ (.slice (some ⟨bs i0, 0, none⟩) c (caps i0))).setCell ⟨go, i0, none⟩ (.slice (some ⟨bs k, 0, none⟩) c (caps k))).setCell ⟨R, 3, none⟩ (.int .i64 sgn')) := by
  have hgoR : go ≠ R := by
    intro e
    obtain ⟨_, q2⟩ := h.out
    rcases q2 with ⟨q2, _⟩ | ⟨g, cap, cur, q2, _, hh, _⟩
    · simp at q2
    · simp only [Value.slice.injEq, Option.some.injEq, Addr.mk.injEq, and_true, true_and] at q2
      have hst := h.st
      rw [← q2.1, e, hst] at hh
      simp at hh
  have hoff : ∀ b, (∃ cur, w.heap[b]? = some (.cells cur 3 (0, 0))) → b ≠ go ∧ b ≠ R := by
    rintro b ⟨cur, hb⟩
    constructor
    · rintro rfl
      obtain ⟨_, q2⟩ := h.out
      rcases q2 with ⟨q2, _⟩ | ⟨g, cap, cur2, q2, _, hh, _⟩
      · simp at q2
      · simp only [Value.slice.injEq, Option.some.injEq, Addr.mk.injEq, and_true, true_and] at q2
        rw [← q2.1, hb] at hh
        simp at hh
    · rintro rfl
      have hst := h.st
      rw [hb] at hst
      simp at hst
  have hown : ∀ v m xs, w.ownsRow B 3 1 v m xs → (((w.setCell ⟨go, k, none⟩ (.slice (some ⟨bs i0, 0, none⟩) c (caps i0))).setCell ⟨go, i0, none⟩ (.slice (some ⟨bs k, 0, none⟩) c (caps k))).setCell ⟨R, 3, none⟩ (.int .i64 sgn')).ownsRow B 3 1 v m xs := by
    intro v m xs hv
    obtain ⟨q1, q2⟩ := hv
    refine ⟨q1, ?_⟩
    rcases q2 with q2 | ⟨g, cap, cur, rfl, r1, r2, r3⟩
    · exact Or.inl q2
    · obtain ⟨n1, n2⟩ := hoff g ⟨cur, r2⟩
      refine Or.inr ⟨g, cap, cur, rfl, r1, ?_, r3⟩
      rw [Below.heap_setCell _ _ _ _ n2, Below.heap_setCell _ _ _ _ n1, Below.heap_setCell _ _ _ _ n1]; exact r2
  refine ⟨?_, ?_, fun i hi => hown _ _ _ (h.row _ (sw_lt hk hi0 hi)), fun i j hi hj hij => h.inj _ _ (sw_lt hk hi0 hi) (sw_lt hk hi0 hj) (sw_inj hij), hown _ _ _ h.piv, fun g hg i hi => h.off g hg _ (sw_lt hk hi0 hi)⟩
  · have e : ((w.setCell ⟨go, k, none⟩ (.slice (some ⟨bs i0, 0, none⟩) c (caps i0))).setCell ⟨go, i0, none⟩ (.slice (some ⟨bs k, 0, none⟩) c (caps k))).heap[R]? = w.heap[R]? := by
      rw [Below.heap_setCell _ _ _ _ (Ne.symm hgoR), Below.heap_setCell _ _ _ _ (Ne.symm hgoR)]
    rw [h.st] at e
    simp [World.setCell, Array.getElem?_modify] at e ⊢
    rw [e]; simp
  · have o1 := ((h.out.stored k (.slice (some ⟨bs i0, 0, none⟩) c (caps i0))).1.stored i0 (.slice (some ⟨bs k, 0, none⟩) c (caps k))).1
    have o2 := ownsRow_setCell_other o1 (a := ⟨R, 3, none⟩) (by simp [Value.ownBlock]; exact hgoR) (.int .i64 sgn')
    have e : (((List.range n).map fun i => Value.slice (some ⟨bs i, 0, none⟩) c (caps i)).set k (.slice (some ⟨bs i0, 0, none⟩) c (caps i0))).set i0 (.slice (some ⟨bs k, 0, none⟩) c (caps k)) = (List.range n).map fun i => Value.slice (some ⟨bs (sw k i0 i), 0, none⟩) c (caps (sw k i0 i)) := by
      apply List.ext_getElem?
      intro i
      rw [List.getElem?_set, List.getElem?_set]
      by_cases e1 : i0 = i
      · subst e1; simp [sw, hi0, Ne.symm hne]
      · by_cases e2 : k = i
        · subst e2; simp [sw, hk, e1]
        · have e1' : i ≠ i0 := fun h => e1 h.symm
          have e2' : i ≠ k := fun h => e2 h.symm
          rw [if_neg e1, if_neg e2]
          by_cases hin : i < n
          · simp [hin, sw, e1', e2']
          · rw [List.getElem?_eq_none (by simp; omega), List.getElem?_eq_none (by simp; omega)]
    rw [e] at o2
    exact o2

end Go.Proofs.YtgfnmkenpgnllaaGreat
