import Derived.Test.YtdmkmljhljoojaaMgAC
/- The program's elimination: one pivot. -/
namespace Go.Proofs.Ytdmkmljhljoojaa
open Go.RowKit
attribute [local go_sem ↓] Go.wp_at_zero Go.wp_at_succ

theorem RS.below {B N R n c : Nat} {mat : Nat → Nat → Int} {piv : List Int} {val sgn : Int} {go capo : Nat} {pv : Value} {bs caps : Nat → Nat} {w w' : World} (h : RS B R n c mat piv val sgn go capo pv bs caps w) (hb : Below N w w') (hN : w.heap.size ≤ N) :
    RS B R n c mat piv val sgn go capo pv bs caps w' :=
  ⟨(hb.block R (Nat.lt_of_lt_of_le (lt_of_block h.st) hN)).trans h.st, owns_below h.out hb hN, fun i hi => owns_below (h.row i hi) hb hN, h.inj, owns_below h.piv hb hN, h.off⟩

/-- The rows from a place on, read. -/
theorem RS.tail {B R n c : Nat} {mat : Nat → Nat → Int} {piv : List Int} {val sgn : Int} {go capo : Nat} {pv : Value} {bs caps : Nat → Nat} {w : World} (h : RS B R n c mat piv val sgn go capo pv bs caps w) (k : Nat) (hk : k < n) :
    Mat B 25 3 w (.slice (some ⟨go, k, none⟩) (n - k) (capo - k)) ((rowsOf n c mat).drop k) := by
  have hl : ((rowsOf n c mat).drop k).length = n - k := by simp [rowsOf]
  obtain ⟨q1, q2⟩ := h.out
  rcases q2 with ⟨q2, _⟩ | ⟨g, cap, cur, q2, hg, hh, hn, hc, hs, ht⟩
  · simp at q2
  · simp only [Value.slice.injEq, Option.some.injEq, Addr.mk.injEq, and_true, true_and] at q2
    obtain ⟨rfl, rfl⟩ := q2
    refine ⟨((List.range n).map fun i => Value.slice (some ⟨bs i, 0, none⟩) c (caps i)).drop k, by simp [rowsOf], ⟨some ⟨go, k, none⟩, capo - k, ?_, ?_, ?_, fun i hi => ⟨go, k, rfl, ?_, Or.inr ⟨cur, hh⟩⟩, fun h => by cases h⟩, fun i hi => ?_⟩
    · simp
    · simp; omega
    · omega
    · have hi' : k + i < n := by simp at hi; omega
      have := h.out.cellAt (k + i) (by omega)
      rw [this, List.getElem?_drop]
    · rw [hl] at hi
      have e1 : (((List.range n).map fun i => Value.slice (some ⟨bs i, 0, none⟩) c (caps i)).drop k).getD i (.slice none 0 0) = .slice (some ⟨bs (k + i), 0, none⟩) c (caps (k + i)) := by
        simp [show k + i < n by omega]
      have e2 : ((rowsOf n c mat).drop k).getD i [] = (List.range c).map (mat (k + i)) := by
        simp [rowsOf, show k + i < n by omega]
      rw [e1, e2]
      exact Sl.own (h.row (k + i) (by omega))

theorem mat_empty (B : Nat) (w : World) (a : Addr) (cap : Nat) (h : cap ≤ maxLen) : Mat B 25 3 w (.slice (some a) 0 cap) [] :=
  ⟨[], rfl, ⟨some a, cap, rfl, by simp, h, fun i hi => absurd hi (by simp), fun h => by cases h⟩, fun i hi => absurd hi (by simp)⟩

theorem rows_find_none {n c q k : Nat} {mat : Nat → Nat → Int} (hq : q < c) (hz : ∀ i, k ≤ i → i < n → mat i q = 0) : findR ((rowsOf n c mat).drop k) q = -1 := by
  apply findR_none
  rw [List.any_eq_false]
  intro r hr
  obtain ⟨i, hi, rfl⟩ := List.mem_iff_getElem.1 hr
  have hi' : k + i < n := by simp [rowsOf] at hi; omega
  have := hz (k + i) (by omega) hi'
  simp [rowsOf, hq, this]

theorem rows_len {n c q k : Nat} {mat : Nat → Nat → Int} (hq : q < c) : ∀ r ∈ (rowsOf n c mat).drop k, q < r.length := by
  intro r hr
  have := List.mem_of_mem_drop hr
  simp only [rowsOf, List.mem_map] at this
  obtain ⟨i, _, rfl⟩ := this
  simpa using hq

set_option maxRecDepth 100000 in
set_option maxHeartbeats 800000 in
theorem pivot_none (B R n c q : Nat) (mat : Nat → Nat → Int) (piv : List Int) (val sgn : Int) (go capo : Nat) (pv : Value) (bs caps : Nat → Nat) (w : World) (h : RS B R n c mat piv val sgn go capo pv bs caps w) (hB : B ≤ w.heap.size)
    (hn : n ≤ 500) (hk : piv.length ≤ n) (hq : q < c) (hz : ∀ i, piv.length ≤ i → i < n → mat i q = 0) :
    Calls Try.prog 63 #[.pointer (some ⟨R, 0, none⟩), .int .i64 q] w fun e w' => e = .returned (.tuple #[]) ∧ RS B R n c mat piv val sgn go capo pv bs caps w' ∧ Below B w w' := by
  obtain ⟨po, pc, hpv⟩ := owns_form h.piv
  subst hpv
  have HR : Hid (RS B R n c mat piv val sgn go capo (.slice po piv.length pc) bs caps w) := h
  have HZ : Hid (∀ i, piv.length ≤ i → i < n → mat i q = 0) := hz
  have hcc : n ≤ capo ∧ capo ≤ 9223372036854775807 := by
    obtain ⟨_, h2⟩ := h.out
    rcases h2 with ⟨h, _⟩ | ⟨k, cp, cur, h, _, _, h3, h4, _⟩
    · simp at h
    · simp only [Value.slice.injEq] at h; unfold maxLen at h4; omega
  have hst := h.st
  have hRlt := lt_of_block hst
  have h0 : w.cell? ⟨R, 0, none⟩ = some (.slice (some ⟨go, 0, none⟩) n capo) := by simp [World.cell?, hst]
  have h1 : w.cell? ⟨R, 1, none⟩ = some (.slice po piv.length pc) := by simp [World.cell?, hst]
  clear h hz hst
  generalize hkl : piv.length = k at *
  clear hkl
  have HAL : Hid (Below w.heap.size w (w.alloc (.cells #[.int .i64 q] 3))) := (Below.refl _ _).alloc (Nat.le_refl _) _
  have HF : Hid (findR ((rowsOf n c mat).drop k) q = -1) := rows_find_none hq HZ.out
  by_cases hkn : k < n
  · have hkc : k < capo := by omega
    go_enter Try.func63, Try.ntmps63
    go_wp2_with fail
    refine (index103_any B q _ _ ⟨w.heap.size, 0, none⟩ _ ((HR.out.tail k hkn).below HAL.out (Nat.le_refl _)) (rows_len hq) (by simp)).mono ?_
    rintro e w' ⟨rfl, rfl⟩
    rw [HF.out]
    go_wp2
    exact bodyPost_ret (v := .tuple #[]) (by simp [results, Try.results63, go_sem]) rfl ⟨rfl, HR.out.below HAL.out (Nat.le_refl _), (HAL.out).mono hB⟩
  · have hkn' : k = n := by omega
    have HE : Hid (findR [] q = -1) := rfl
    subst hkn'
    go_enter Try.func63, Try.ntmps63
    go_wp2_with fail
    all_goals
      refine (index103_any B q [] _ ⟨w.heap.size, 0, none⟩ _ (mat_empty _ _ _ _ (by unfold maxLen; omega)) (fun r hr => absurd hr (by simp)) (by simp)).mono ?_
      rintro e w' ⟨rfl, rfl⟩
      rw [HE.out]
      go_wp2
      exact bodyPost_ret (v := .tuple #[]) (by simp [results, Try.results63, go_sem]) rfl ⟨rfl, HR.out.below HAL.out (Nat.le_refl _), (HAL.out).mono hB⟩

end Go.Proofs.Ytdmkmljhljoojaa

/- The program's elimination: a pivot found. -/
namespace Go.Proofs.Ytdmkmljhljoojaa
open Go.RowKit
attribute [local go_sem ↓] Go.wp_at_zero Go.wp_at_succ

/-- Two places changed. -/
def sw (k i0 i : Nat) : Nat := if i = k then i0 else if i = i0 then k else i

theorem sw_lt {k i0 i n : Nat} (hk : k < n) (hi0 : i0 < n) (hi : i < n) : sw k i0 i < n := by
  unfold sw; split
  · exact hi0
  · split
    · exact hk
    · exact hi

theorem sw_inj {k i0 i j : Nat} (h : i ≠ j) : sw k i0 i ≠ sw k i0 j := by
  unfold sw; grind

theorem sw_self (k i : Nat) : sw k k i = i := by unfold sw; by_cases h : i = k <;> simp [h]

theorem rows_find {n c q k f : Nat} {mat : Nat → Nat → Int} (hq : q < c) (hf : k + f < n) (hz : ∀ i, k ≤ i → i < k + f → mat i q = 0) (hne : mat (k + f) q ≠ 0) : findR ((rowsOf n c mat).drop k) q = f := by
  have hg : ∀ i, i < n - k → ((rowsOf n c mat).drop k).getD i [] = (List.range c).map (mat (k + i)) := by
    intro i hi; simp [rowsOf, show k + i < n by omega]
  refine findR_hit (by simp [rowsOf]; omega) ?_ ?_
  · rw [List.any_eq_false]
    intro r hr
    rw [List.mem_take_iff_getElem] at hr
    obtain ⟨i, hi, rfl⟩ := hr
    have hi1 : i < f := by omega
    have := hz (k + i) (by omega) (by omega)
    simp [rowsOf, hq, this]
  · rw [hg f (by omega)]; simp [hq, hne]

/-- Behind the exchange of two rows. -/
theorem RS.swap {B R n c k i0 : Nat} {mat : Nat → Nat → Int} {piv : List Int} {val sgn : Int} {go capo : Nat} {pv : Value} {bs caps : Nat → Nat} {w : World} (h : RS B R n c mat piv val sgn go capo pv bs caps w) (hk : k < n) (hi0 : i0 < n) (hne : k ≠ i0) (sgn' : Int) :
    RS B R n c (fun i j => mat (sw k i0 i) j) piv val sgn' go capo pv (fun i => bs (sw k i0 i)) (fun i => caps (sw k i0 i))
      (((w.setCell ⟨go, k, none⟩ (.slice (some ⟨bs i0, 0, none⟩) c (caps i0))).setCell ⟨go, i0, none⟩ (.slice (some ⟨bs k, 0, none⟩) c (caps k))).setCell ⟨R, 3, none⟩ (.int .i64 sgn')) := by
  have hgoR : go ≠ R := by
    intro e
    obtain ⟨_, q2⟩ := h.out
    rcases q2 with ⟨q2, _⟩ | ⟨g, cap, cur, q2, _, hh, _⟩
    · simp at q2
    · simp only [Value.slice.injEq, Option.some.injEq, Addr.mk.injEq, and_true, true_and] at q2
      have hst := h.st
      rw [← q2.1, e, hst] at hh
      simp at hh
  have hoff : ∀ b, (∃ cur, w.heap[b]? = some (.cells cur 3 (0, 0))) → b ≠ go ∧ b ≠ R := by
    rintro b ⟨cur, hb⟩
    constructor
    · rintro rfl
      obtain ⟨_, q2⟩ := h.out
      rcases q2 with ⟨q2, _⟩ | ⟨g, cap, cur2, q2, _, hh, _⟩
      · simp at q2
      · simp only [Value.slice.injEq, Option.some.injEq, Addr.mk.injEq, and_true, true_and] at q2
        rw [← q2.1, hb] at hh
        simp at hh
    · rintro rfl
      have hst := h.st
      rw [hb] at hst
      simp at hst
  have hown : ∀ v m xs, w.ownsRow B 3 1 v m xs → (((w.setCell ⟨go, k, none⟩ (.slice (some ⟨bs i0, 0, none⟩) c (caps i0))).setCell ⟨go, i0, none⟩ (.slice (some ⟨bs k, 0, none⟩) c (caps k))).setCell ⟨R, 3, none⟩ (.int .i64 sgn')).ownsRow B 3 1 v m xs := by
    intro v m xs hv
    obtain ⟨q1, q2⟩ := hv
    refine ⟨q1, ?_⟩
    rcases q2 with q2 | ⟨g, cap, cur, rfl, r1, r2, r3⟩
    · exact Or.inl q2
    · obtain ⟨n1, n2⟩ := hoff g ⟨cur, r2⟩
      refine Or.inr ⟨g, cap, cur, rfl, r1, ?_, r3⟩
      rw [Below.heap_setCell _ _ _ _ n2, Below.heap_setCell _ _ _ _ n1, Below.heap_setCell _ _ _ _ n1]; exact r2
  refine ⟨?_, ?_, fun i hi => hown _ _ _ (h.row _ (sw_lt hk hi0 hi)), fun i j hi hj hij => h.inj _ _ (sw_lt hk hi0 hi) (sw_lt hk hi0 hj) (sw_inj hij), hown _ _ _ h.piv, fun g hg i hi => h.off g hg _ (sw_lt hk hi0 hi)⟩
  · have e : ((w.setCell ⟨go, k, none⟩ (.slice (some ⟨bs i0, 0, none⟩) c (caps i0))).setCell ⟨go, i0, none⟩ (.slice (some ⟨bs k, 0, none⟩) c (caps k))).heap[R]? = w.heap[R]? := by
      rw [Below.heap_setCell _ _ _ _ (Ne.symm hgoR), Below.heap_setCell _ _ _ _ (Ne.symm hgoR)]
    rw [h.st] at e
    simp [World.setCell, Array.getElem?_modify] at e ⊢
    rw [e]; simp
  · have o1 := ((h.out.stored k (.slice (some ⟨bs i0, 0, none⟩) c (caps i0))).1.stored i0 (.slice (some ⟨bs k, 0, none⟩) c (caps k))).1
    have o2 := ownsRow_setCell_other o1 (a := ⟨R, 3, none⟩) (by simp [Value.ownBlock]; exact hgoR) (.int .i64 sgn')
    have e : (((List.range n).map fun i => Value.slice (some ⟨bs i, 0, none⟩) c (caps i)).set k (.slice (some ⟨bs i0, 0, none⟩) c (caps i0))).set i0 (.slice (some ⟨bs k, 0, none⟩) c (caps k)) = (List.range n).map fun i => Value.slice (some ⟨bs (sw k i0 i), 0, none⟩) c (caps (sw k i0 i)) := by
      apply List.ext_getElem?
      intro i
      rw [List.getElem?_set, List.getElem?_set]
      by_cases e1 : i0 = i
      · subst e1; simp [sw, hi0, Ne.symm hne]
      · by_cases e2 : k = i
        · subst e2; simp [sw, hk, e1]
        · have e1' : i ≠ i0 := fun h => e1 h.symm
          have e2' : i ≠ k := fun h => e2 h.symm
          rw [if_neg e1, if_neg e2]
          by_cases hin : i < n
          · simp [hin, sw, e1', e2']
          · rw [List.getElem?_eq_none (by simp; omega), List.getElem?_eq_none (by simp; omega)]
    rw [e] at o2
    exact o2

end Go.Proofs.Ytdmkmljhljoojaa
