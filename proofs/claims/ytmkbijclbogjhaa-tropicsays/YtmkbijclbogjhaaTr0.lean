/- facetref.MetOf, pure: its loops. -/
import Derived.Test.YtmkbijclbogjhaaTq4
namespace Go.Proofs.Ytmkbijclbogjhaa

theorem Met.step {l : List Int} {D D' : Nat → Nat → Prop} {O : List (Int × Int × Int)} (h : Met l D O) (hd : ∀ i k, i < k → k < l.length → D' i k → okD l i k → D i k ∨ ∃ t ∈ O, t.1 = q0T l i k ∧ t.2.1 = q1T l i k) : Met l D' O :=
  ⟨h.rise, h.isr, fun i k h1 h2 h3 h4 => (hd i k h1 h2 h3 h4).elim (fun hd => h.all i k h1 h2 hd h4) id⟩

/-- The loop that looks at all terms. -/
structure JL (l : List Int) (i k j lo hi : Nat) (okb : Bool) : Prop where
  ok : okb = true ↔ ∀ j', j' < j → tj l (q0T l i k) (q1T l i k) i ≤ tj l (q0T l i k) (q1T l i k) j'
  lo1 : lo ≤ k
  hi1 : i ≤ hi
  hin : hi < l.length
  lo2 : tj l (q0T l i k) (q1T l i k) lo = tj l (q0T l i k) (q1T l i k) i
  hi2 : tj l (q0T l i k) (q1T l i k) hi = tj l (q0T l i k) (q1T l i k) i
  lo3 : ∀ j', j' < j → j' < lo → tj l (q0T l i k) (q1T l i k) j' ≠ tj l (q0T l i k) (q1T l i k) i
  hi3 : ∀ j', j' < j → hi < j' → tj l (q0T l i k) (q1T l i k) j' ≠ tj l (q0T l i k) (q1T l i k) i

theorem JL.start {l : List Int} {i k : Nat} (h : i < k) (hk : k < l.length) : JL l i k 0 k i true :=
  ⟨⟨fun _ j' hj => by omega, fun _ => rfl⟩, Nat.le_refl _, Nat.le_refl _, by omega, (alike h).symm, rfl, fun j' hj => by omega, fun j' hj => by omega⟩

theorem JL.next {l : List Int} {i k j lo hi : Nat} {okb : Bool} (h : JL l i k j lo hi okb) (hj : j < l.length) :
    JL l i k (j + 1) (if tj l (q0T l i k) (q1T l i k) j = tj l (q0T l i k) (q1T l i k) i ∧ j < lo then j else lo) (if tj l (q0T l i k) (q1T l i k) j = tj l (q0T l i k) (q1T l i k) i ∧ hi < j then j else hi) (okb && decide (tj l (q0T l i k) (q1T l i k) i ≤ tj l (q0T l i k) (q1T l i k) j)) := by
  have h1 := h.lo1
  have h2 := h.hi1
  have h3 := h.hin
  refine ⟨?_, ?_, ?_, ?_, ?_, ?_, fun j' hj' hl => ?_, fun j' hj' hl => ?_⟩
  · rw [Bool.and_eq_true, h.ok, decide_eq_true_iff]
    constructor
    · rintro ⟨a, b⟩ j' hj'
      by_cases e : j' = j
      · rw [e]; exact b
      · exact a j' (by omega)
    · intro a
      exact ⟨fun j' hj' => a j' (by omega), a j (by omega)⟩
  · split <;> omega
  · split <;> omega
  · split <;> omega
  · split
    · rename_i c; exact c.1
    · exact h.lo2
  · split
    · rename_i c; exact c.1
    · exact h.hi2
  · by_cases e : j' = j
    · subst e
      intro e2
      by_cases c : j' < lo
      · rw [if_pos ⟨e2, c⟩] at hl; omega
      · rw [if_neg (fun h => c h.2)] at hl; omega
    · refine h.lo3 j' (by omega) ?_
      split at hl <;> omega
  · by_cases e : j' = j
    · subst e
      intro e2
      by_cases c : hi < j'
      · rw [if_pos ⟨e2, c⟩] at hl; omega
      · rw [if_neg (fun h => c h.2)] at hl; omega
    · refine h.hi3 j' (by omega) ?_
      split at hl <;> omega

theorem JL.good {l : List Int} {i k lo hi : Nat} (h : JL l i k l.length lo hi true) (hik : i < k) (hk : k < l.length) : okD l i k ∧ LoHi l i k lo hi := by
  refine ⟨fun j hj => h.ok.1 rfl j hj, ?_, ?_, h.hin, h.lo2, h.hi2, fun j hj => h.lo3 j (by have := h.lo1; omega) hj, fun j hj hjl => h.hi3 j hjl hj⟩
  · refine Nat.not_lt.1 fun hlt => ?_
    exact h.lo3 i (by omega) hlt rfl
  · refine Nat.not_lt.1 fun hlt => ?_
    exact h.hi3 k hk hlt (alike hik).symm

theorem JL.bad {l : List Int} {i k lo hi : Nat} (h : JL l i k l.length lo hi false) : ¬ okD l i k := fun ho => by
  have := h.ok.2 fun j hj => ho j hj
  cases this

theorem flat_set (L : List (Int × Int × Int)) : ∀ (p : Nat) (x y z : Int), p < L.length → (((L.flatMap encT).set (p * 3) (.int .i64 x)).set (p * 3 + 1) (.int .i64 y)).set (p * 3 + 2) (.int .i64 z) = (L.set p (x, y, z)).flatMap encT := by
  induction L with
  | nil => intro p x y z h; simp at h
  | cons t L ih =>
    intro p x y z h
    cases p with
    | zero => simp [encT]
    | succ p =>
      have h' := ih p x y z (by simpa using h)
      rw [show (p + 1) * 3 = p * 3 + 1 + 1 + 1 by omega]
      simp only [List.flatMap_cons, encT, List.cons_append, List.nil_append, List.set_cons_succ]
      rw [h']

theorem put_swap {O : List (Int × Int × Int)} {m : Int × Int × Int} {p : Nat} (hp : p + 1 ≤ O.length) : ((O.take (p + 1) ++ m :: O.drop (p + 1)).set (p + 1) (O.getD p (0, 1, 0))).set p m = O.take p ++ m :: O.drop p := by
  have hlt : p < O.length := by omega
  refine List.ext_getElem? fun q => ?_
  have l1 : (O.take (p + 1)).length = p + 1 := by simp; omega
  have l0 : (O.take p).length = p := by simp; omega
  by_cases e : q = p
  · subst e
    rw [List.getElem?_set_self (by simp; omega), List.getElem?_append_right (by omega), l0]
    simp
  · rw [List.getElem?_set_ne (fun h => e h.symm)]
    by_cases e2 : q = p + 1
    · subst e2
      rw [List.getElem?_set_self (by simp; omega), List.getElem?_append_right (by omega), l0, show p + 1 - p = 0 + 1 by omega, List.getElem?_cons_succ, List.getElem?_drop]
      simp [hlt]
    · rw [List.getElem?_set_ne (fun h => e2 h.symm)]
      by_cases h : q < p
      · rw [List.getElem?_append_left (by omega), List.getElem?_append_left (by omega), List.getElem?_take_of_lt (by omega), List.getElem?_take_of_lt h]
      · rw [List.getElem?_append_right (by omega), List.getElem?_append_right (by omega), l1, l0]
        obtain ⟨r, hr⟩ : ∃ r, q = p + 2 + r := ⟨q - (p + 2), by omega⟩
        subst hr
        rw [show p + 2 + r - (p + 1) = r + 1 by omega, show p + 2 + r - p = (r + 1) + 1 by omega, List.getElem?_cons_succ, List.getElem?_cons_succ, List.getElem?_drop, List.getElem?_drop]
        congr 1
        omega

end Go.Proofs.Ytmkbijclbogjhaa
