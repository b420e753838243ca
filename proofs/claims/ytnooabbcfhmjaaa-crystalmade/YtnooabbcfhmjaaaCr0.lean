/- Words, turned letter by letter, pure: which letters are free, by a stack and by pairs taken out again and again; what comes of a word up and down. -/
import Derived.WalkKit
namespace Go.Proofs.Ytnooabbcfhmjaaa

theorem snocInd {P : List Nat → Prop} (h0 : P []) (h1 : ∀ l q, P l → P (l ++ [q])) (l : List Nat) : P l := by
  have h : ∀ m : List Nat, P m.reverse := fun m => by
    induction m with
    | nil => exact h0
    | cons a m ih => rw [List.reverse_cons]; exact h1 _ _ ih
  have := h l.reverse
  rw [List.reverse_reverse] at this
  exact this

/-- One place more: i waits; i + 1 takes the last that waits, or is free. -/
def frS (w : List Nat) (i : Nat) (s : List Nat × List Nat) (p : Nat) : List Nat × List Nat :=
  if w.getD p 0 = i then (s.1, s.2 ++ [p]) else if w.getD p 0 = i + 1 then (if s.2 = [] then (s.1 ++ [p], s.2) else (s.1, s.2.dropLast)) else s

def frL (w : List Nat) (i : Nat) (at' : List Nat) : List Nat × List Nat := at'.foldl (frS w i) ([], [])

theorem frL_snoc (w : List Nat) (i : Nat) (l : List Nat) (p : Nat) : frL w i (l ++ [p]) = frS w i (frL w i l) p := by
  unfold frL; rw [List.foldl_append]; rfl

/-- A pair side by side says nothing. -/
theorem frL_pair {w : List Nat} {i : Nat} (xs ys : List Nat) {p q : Nat} (hp : w.getD p 0 = i) (hq : w.getD q 0 = i + 1) : frL w i (xs ++ p :: q :: ys) = frL w i (xs ++ ys) := by
  unfold frL
  rw [List.foldl_append, List.foldl_append]
  show List.foldl (frS w i) (frS w i (frS w i (List.foldl (frS w i) ([], []) xs) p) q) ys = _
  congr 1
  generalize List.foldl (frS w i) ([], []) xs = s
  have h1 : frS w i s p = (s.1, s.2 ++ [p]) := by unfold frS; rw [if_pos hp]
  rw [h1]
  unfold frS
  rw [if_neg (by omega), if_pos hq, if_neg (by simp)]
  simp

/-- The places that count. -/
def plL (w : List Nat) (i : Nat) (n : Nat) : List Nat := (List.range n).filter fun p => decide (w.getD p 0 = i ∨ w.getD p 0 = i + 1)

theorem plL_succ (w : List Nat) (i n : Nat) : plL w i (n + 1) = if w.getD n 0 = i ∨ w.getD n 0 = i + 1 then plL w i n ++ [n] else plL w i n := by
  unfold plL
  rw [List.range_succ, List.filter_append]
  by_cases h : w.getD n 0 = i ∨ w.getD n 0 = i + 1
  · rw [if_pos h, List.filter_cons_of_pos (by simpa using h)]; rfl
  · rw [if_neg h, List.filter_cons_of_neg (by simpa using h)]; simp

theorem frL_range (w : List Nat) (i : Nat) : ∀ n, frL w i (List.range n) = frL w i (plL w i n)
  | 0 => rfl
  | n + 1 => by
    rw [List.range_succ, frL_snoc, frL_range w i n, plL_succ]
    by_cases h : w.getD n 0 = i ∨ w.getD n 0 = i + 1
    · rw [if_pos h, frL_snoc]
    · rw [if_neg h]
      unfold frS
      rw [if_neg (fun e => h (Or.inl e)), if_neg (fun e => h (Or.inr e))]

/-- All that wait are i, all that are free i + 1. -/
theorem frL_all (w : List Nat) (i : Nat) (l : List Nat) : (∀ p ∈ (frL w i l).1, w.getD p 0 = i + 1 ∧ p ∈ l) ∧ ∀ p ∈ (frL w i l).2, w.getD p 0 = i ∧ p ∈ l := by
  refine snocInd (P := fun l => (∀ p ∈ (frL w i l).1, w.getD p 0 = i + 1 ∧ p ∈ l) ∧ ∀ p ∈ (frL w i l).2, w.getD p 0 = i ∧ p ∈ l) ?_ ?_ l
  · exact ⟨fun p hp => by simp [frL] at hp, fun p hp => by simp [frL] at hp⟩
  · intro l q ih
    rw [frL_snoc]
    obtain ⟨h1, h2⟩ := ih
    unfold frS
    by_cases e1 : w.getD q 0 = i
    · rw [if_pos e1]
      refine ⟨fun p hp => ⟨(h1 p hp).1, by simp [(h1 p hp).2]⟩, fun p hp => ?_⟩
      rcases List.mem_append.1 hp with h | h
      · exact ⟨(h2 p h).1, by simp [(h2 p h).2]⟩
      · rw [List.mem_singleton] at h; subst h; exact ⟨e1, by simp⟩
    · rw [if_neg e1]
      by_cases e2 : w.getD q 0 = i + 1
      · rw [if_pos e2]
        by_cases e3 : (frL w i l).2 = []
        · rw [if_pos e3]
          refine ⟨fun p hp => ?_, fun p hp => ⟨(h2 p hp).1, by simp [(h2 p hp).2]⟩⟩
          rcases List.mem_append.1 hp with h | h
          · exact ⟨(h1 p h).1, by simp [(h1 p h).2]⟩
          · rw [List.mem_singleton] at h; subst h; exact ⟨e2, by simp⟩
        · rw [if_neg e3]
          refine ⟨fun p hp => ⟨(h1 p hp).1, by simp [(h1 p hp).2]⟩, fun p hp => ?_⟩
          have hp' := List.dropLast_subset _ hp
          exact ⟨(h2 p hp').1, by simp [(h2 p hp').2]⟩
      · rw [if_neg e2]
        exact ⟨fun p hp => ⟨(h1 p hp).1, by simp [(h1 p hp).2]⟩, fun p hp => ⟨(h2 p hp).1, by simp [(h2 p hp).2]⟩⟩

/-- No pair side by side. -/
def NoP (w : List Nat) (i : Nat) (l : List Nat) : Prop := ∀ k, k + 1 < l.length → ¬ (w.getD (l.getD k 0) 0 = i ∧ w.getD (l.getD (k + 1) 0) 0 = i + 1)

/-- Where there is no pair left, what is left is what is free. -/
theorem frL_done {w : List Nat} {i : Nat} (l : List Nat) : (∀ p ∈ l, w.getD p 0 = i ∨ w.getD p 0 = i + 1) → NoP w i l → (frL w i l).1 ++ (frL w i l).2 = l ∧ ((frL w i l).2 ≠ [] → w.getD (l.getLastD 0) 0 = i) := by
  refine snocInd (P := fun l => (∀ p ∈ l, w.getD p 0 = i ∨ w.getD p 0 = i + 1) → NoP w i l → (frL w i l).1 ++ (frL w i l).2 = l ∧ ((frL w i l).2 ≠ [] → w.getD (l.getLastD 0) 0 = i)) ?_ ?_ l
  · exact fun _ _ => ⟨rfl, fun h => absurd rfl h⟩
  · intro l q ih hl hn
    have hn' : NoP w i l := fun k hk => by
      have := hn k (by simp; omega)
      simp only [List.getD_eq_getElem?_getD, List.getElem?_append_left (show k < l.length by omega), List.getElem?_append_left (show k + 1 < l.length by omega)] at this ⊢
      exact this
    obtain ⟨h1, h2⟩ := ih (fun p hp => hl p (by simp [hp])) hn'
    have hlast : (l ++ [q]).getLastD 0 = q := by simp
    rw [frL_snoc, hlast]
    unfold frS
    by_cases e1 : w.getD q 0 = i
    · rw [if_pos e1]
      exact ⟨by simp only; rw [← List.append_assoc, h1], fun _ => e1⟩
    · rw [if_neg e1]
      have e2 : w.getD q 0 = i + 1 := (hl q (by simp)).resolve_left e1
      rw [if_pos e2]
      have e3 : (frL w i l).2 = [] := by
        refine Classical.byContradiction fun hne => ?_
        have h3 := h2 hne
        have hlen : 0 < l.length := by
          rcases Nat.eq_zero_or_pos l.length with e | e
          · have : l = [] := List.eq_nil_of_length_eq_zero e
            subst this
            simp [frL] at hne
          · exact e
        have := hn (l.length - 1) (by simp; omega)
        refine this ⟨?_, ?_⟩
        · have e : (l ++ [q]).getD (l.length - 1) 0 = l.getLastD 0 := by
            simp only [List.getD_eq_getElem?_getD, List.getElem?_append_left (show l.length - 1 < l.length by omega)]
            rw [List.getLastD_eq_getLast?, List.getLast?_eq_getElem?]
          rw [e]; exact h3
        · have e : (l ++ [q]).getD (l.length - 1 + 1) 0 = q := by
            rw [show l.length - 1 + 1 = l.length by omega]
            simp
          rw [e]; exact e2
      rw [if_pos e3]
      refine ⟨?_, fun h => absurd e3 h⟩
      simp only
      rw [e3] at h1 ⊢
      rw [List.append_nil] at h1 ⊢
      rw [h1]

/-- The free ones of a word. -/
def fre (w : List Nat) (i : Nat) : List Nat × List Nat := frL w i (List.range w.length)

def cUp (w : List Nat) (i : Nat) : Option (List Nat) := if (fre w i).1 = [] then none else some (w.set ((fre w i).1.getLastD 0) i)

def cDn (w : List Nat) (i : Nat) : Option (List Nat) := if (fre w i).2 = [] then none else some (w.set ((fre w i).2.headD 0) (i + 1))

theorem getLastD_mem {l : List Nat} (h : l ≠ []) : l.getLastD 0 ∈ l := by
  rw [List.getLastD_eq_getLast?, List.getLast?_eq_some_getLast h]
  exact List.getLast_mem h

theorem headD_mem {l : List Nat} (h : l ≠ []) : l.headD 0 ∈ l := by
  cases l with
  | nil => exact absurd rfl h
  | cons a l => simp

theorem fre_up {w : List Nat} {i : Nat} (h : (fre w i).1 ≠ []) : (fre w i).1.getLastD 0 < w.length ∧ w.getD ((fre w i).1.getLastD 0) 0 = i + 1 := by
  have := (frL_all w i (List.range w.length)).1 _ (getLastD_mem h)
  exact ⟨List.mem_range.1 this.2, this.1⟩

theorem fre_dn {w : List Nat} {i : Nat} (h : (fre w i).2 ≠ []) : (fre w i).2.headD 0 < w.length ∧ w.getD ((fre w i).2.headD 0) 0 = i := by
  have := (frL_all w i (List.range w.length)).2 _ (headD_mem h)
  exact ⟨List.mem_range.1 this.2, this.1⟩

theorem cUp_len {w x : List Nat} {i : Nat} (h : cUp w i = some x) : x.length = w.length := by
  unfold cUp at h
  split at h
  · cases h
  · simp at h; rw [← h]; simp

theorem cDn_len {w x : List Nat} {i : Nat} (h : cDn w i = some x) : x.length = w.length := by
  unfold cDn at h
  split at h
  · cases h
  · simp at h; rw [← h]; simp

/-- Letters up to n. -/
def Lw (n : Nat) (w : List Nat) : Prop := ∀ z ∈ w, z ≤ n

theorem lw_set {n : Nat} {w : List Nat} (h : Lw n w) (p : Nat) {z : Nat} (hz : z ≤ n) : Lw n (w.set p z) := fun y hy => by
  rcases List.mem_or_eq_of_mem_set hy with h1 | h1
  · exact h y h1
  · omega

theorem cUp_lw {n : Nat} {w x : List Nat} {i : Nat} (hw : Lw n w) (hi : i < n) (h : cUp w i = some x) : Lw n x := by
  unfold cUp at h
  split at h
  · cases h
  · simp at h; rw [← h]; exact lw_set hw _ (by omega)

theorem cDn_lw {n : Nat} {w x : List Nat} {i : Nat} (hw : Lw n w) (hi : i < n) (h : cDn w i = some x) : Lw n x := by
  unfold cDn at h
  split at h
  · cases h
  · simp at h; rw [← h]; exact lw_set hw _ (by omega)

theorem sum_set (w : List Nat) : ∀ (p z : Nat), p < w.length → (w.set p z).sum + w.getD p 0 = w.sum + z := by
  induction w with
  | nil => intro p z h; simp at h
  | cons a w ih =>
    intro p z h
    cases p with
    | zero => simp; omega
    | succ p =>
      have := ih p z (by simpa using h)
      simp at this ⊢
      omega

theorem cUp_sum {w x : List Nat} {i : Nat} (h : cUp w i = some x) : x.sum + 1 = w.sum := by
  unfold cUp at h
  split at h
  · cases h
  · rename_i hne
    simp only [Option.some.injEq] at h
    obtain ⟨h1, h2⟩ := fre_up hne
    have := sum_set w _ i h1
    rw [h, h2] at this
    omega

/-- What comes of a word. -/
inductive Rch (n : Nat) (w : List Nat) : List Nat → Prop
  | start : Rch n w w
  | up {x y : List Nat} {i : Nat} : Rch n w x → i < n → cUp x i = some y → Rch n w y
  | dn {x y : List Nat} {i : Nat} : Rch n w x → i < n → cDn x i = some y → Rch n w y

/-- A list that is all of it. -/
structure All (n : Nat) (w : List Nat) (L : List (List Nat)) : Prop where
  nod : L.Nodup
  hit : ∀ x ∈ L, Rch n w x
  st : w ∈ L
  up : ∀ x ∈ L, ∀ i y, i < n → cUp x i = some y → y ∈ L
  dn : ∀ x ∈ L, ∀ i y, i < n → cDn x i = some y → y ∈ L

theorem All.mem {n : Nat} {w : List Nat} {L : List (List Nat)} (h : All n w L) (x : List Nat) : x ∈ L ↔ Rch n w x := by
  refine ⟨h.hit x, fun hr => ?_⟩
  induction hr with
  | start => exact h.st
  | up _ hi e ih => exact h.up _ ih _ _ hi e
  | dn _ hi e ih => exact h.dn _ ih _ _ hi e

theorem nodup_le {α : Type} [DecidableEq α] : ∀ (L M : List α), L.Nodup → (∀ x ∈ L, x ∈ M) → L.length ≤ M.length
  | [], _, _, _ => Nat.zero_le _
  | a :: L, M, hn, hs => by
    have h1 := List.nodup_cons.1 hn
    have ha : a ∈ M := hs a (by simp)
    have h2 := nodup_le L (M.erase a) h1.2 fun x hx => (List.mem_erase_of_ne (fun e => h1.1 (by rw [← e]; exact hx))).2 (hs x (by simp [hx]))
    have h3 := List.length_erase_of_mem ha
    have h4 := List.length_pos_of_mem ha
    simp
    omega

/-- The highest, by the least letter that goes. -/
def hiU (n : Nat) (w : List Nat) : Nat → Option (List Nat)
  | 0 => none
  | k + 1 => match hiU n w k with
    | some x => some x
    | none => cUp w k

/-- The first that goes. -/
def fsU (w : List Nat) : Nat → Nat → Option (List Nat)
  | 0, _ => none
  | f + 1, i => match cUp w i with
    | some x => some x
    | none => fsU w f (i + 1)

def hiF (n : Nat) : Nat → List Nat → List Nat
  | 0, w => w
  | f + 1, w => match fsU w n 0 with
    | none => w
    | some x => hiF n f x

theorem fsU_some {w x : List Nat} : ∀ {f i : Nat}, fsU w f i = some x → ∃ j, i ≤ j ∧ j < i + f ∧ cUp w j = some x
  | 0, _, h => by simp [fsU] at h
  | f + 1, i, h => by
    unfold fsU at h
    cases hc : cUp w i with
    | some y =>
      rw [hc] at h
      simp at h
      subst h
      exact ⟨i, Nat.le_refl _, by omega, hc⟩
    | none =>
      rw [hc] at h
      obtain ⟨j, h1, h2, h3⟩ := fsU_some h
      exact ⟨j, by omega, by omega, h3⟩

end Go.Proofs.Ytnooabbcfhmjaaa
