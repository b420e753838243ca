/- The document's turned word, pure. -/
import Derived.Test.YtnooabbcfhmjaaaCr5
import Derived.Test.YtnooabbcfhmjaaaRefs
import Derived.Test.YtnooabbcfhmjaaaAp1
namespace Go.Proofs.Ytnooabbcfhmjaaa
open Go.RowKit

theorem split2 {l : List Nat} {k : Nat} (h : k + 1 < l.length) : l = l.take k ++ l.getD k 0 :: l.getD (k + 1) 0 :: l.drop (k + 2) := by
  have e1 : l.drop k = l.getD k 0 :: l.drop (k + 1) := by
    rw [List.drop_eq_getElem_cons (by omega)]
    simp [show k < l.length by omega]
  have e2 : l.drop (k + 1) = l.getD (k + 1) 0 :: l.drop (k + 2) := by
    rw [List.drop_eq_getElem_cons (by omega)]
    simp [h]
  rw [← e2, ← e1, List.take_append_drop]

/-- What is left of the places: all that count, and what is free is what was. -/
structure LeftP (wd : List Nat) (i : Nat) (l : List Nat) : Prop where
  fr : frL wd i l = fre wd i
  mem : ∀ p ∈ l, p < wd.length ∧ (wd.getD p 0 = i ∨ wd.getD p 0 = i + 1)
  len : l.length ≤ wd.length

theorem plL_left (wd : List Nat) (i : Nat) : LeftP wd i (plL wd i wd.length) := by
  refine ⟨(frL_range wd i wd.length).symm, fun p hp => ?_, ?_⟩
  · unfold plL at hp
    obtain ⟨h1, h2⟩ := List.mem_filter.1 hp
    exact ⟨List.mem_range.1 h1, by simpa using h2⟩
  · exact Nat.le_trans (List.length_filter_le _ _) (by simp)

theorem plL_len (wd : List Nat) (i k : Nat) : (plL wd i k).length ≤ k := Nat.le_trans (List.length_filter_le _ _) (by simp)

theorem LeftP.cut {wd : List Nat} {i k : Nat} {l : List Nat} (h : LeftP wd i l) (hk : k + 1 < l.length) (h1 : wd.getD (l.getD k 0) 0 = i) (h2 : wd.getD (l.getD (k + 1) 0) 0 = i + 1) : LeftP wd i (l.take k ++ l.drop (k + 2)) := by
  refine ⟨?_, fun p hp => h.mem p ?_, ?_⟩
  · rw [← frL_pair (l.take k) (l.drop (k + 2)) h1 h2, ← split2 hk]
    exact h.fr
  · rcases List.mem_append.1 hp with h3 | h3
    · exact List.mem_of_mem_take h3
    · exact List.mem_of_mem_drop h3
  · have := h.len
    simp
    omega

theorem cut_len {l : List Nat} {k : Nat} (hk : k + 1 < l.length) : (l.take k ++ l.drop (k + 2)).length = l.length - 2 := by simp; omega

/-- One place more. -/
def stp (up : Bool) (wd : List Nat) (i : Nat) (p : Int) (q : Nat) : Int :=
  if (up = true ∧ wd.getD q 0 = i + 1) ∨ (up = false ∧ wd.getD q 0 = i ∧ p < 0) then (q : Int) else p

def plc (up : Bool) (wd : List Nat) (i : Nat) (l : List Nat) : Int := l.foldl (stp up wd i) (-1)

theorem plc_snoc (up : Bool) (wd : List Nat) (i : Nat) {l : List Nat} {k : Nat} (h : k < l.length) : plc up wd i (l.take (k + 1)) = stp up wd i (plc up wd i (l.take k)) (l.getD k 0) := by
  unfold plc
  rw [List.take_succ_eq_append_getElem h, List.foldl_append]
  simp [h]

theorem fold_same {f : Int → Nat → Int} {l : List Nat} (h : ∀ q ∈ l, ∀ p, f p q = p) : ∀ p, l.foldl f p = p := by
  induction l with
  | nil => intro p; rfl
  | cons a l ih =>
    intro p
    rw [List.foldl_cons, h a (by simp)]
    exact ih (fun q hq => h q (by simp [hq])) p

theorem fold_last {f : Int → Nat → Int} {l : List Nat} (h : ∀ q ∈ l, ∀ p, f p q = (q : Int)) (p : Int) : l.foldl f p = if l = [] then p else ((l.getLastD 0 : Nat) : Int) := by
  refine snocInd (P := fun l => (∀ q ∈ l, ∀ p, f p q = (q : Int)) → l.foldl f p = if l = [] then p else ((l.getLastD 0 : Nat) : Int)) ?_ ?_ l h
  · intro _; rfl
  · intro l q _ hq
    rw [List.foldl_append, if_neg (by simp)]
    simp [hq q (by simp)]

theorem fold_first {f : Int → Nat → Int} {l : List Nat} (h : ∀ q ∈ l, ∀ p : Int, f p q = if p < 0 then (q : Int) else p) : l.foldl f (-1) = if l = [] then -1 else ((l.headD 0 : Nat) : Int) := by
  cases l with
  | nil => rfl
  | cons a l =>
    rw [List.foldl_cons, h a (by simp), if_pos (by omega), if_neg (by simp)]
    have : ∀ (l : List Nat) (p : Int), 0 ≤ p → (∀ q ∈ l, ∀ p : Int, f p q = if p < 0 then (q : Int) else p) → l.foldl f p = p := fun l => by
      induction l with
      | nil => intro p _ _; rfl
      | cons b l ih =>
        intro p hp hh
        rw [List.foldl_cons, hh b (by simp), if_neg (by omega)]
        exact ih p hp fun q hq => hh q (by simp [hq])
    rw [this l a (by omega) fun q hq => h q (by simp [hq])]
    simp

def turn (up : Bool) (wd : List Nat) (i : Nat) : Option (List Nat) := if up = true then cUp wd i else cDn wd i

/-- The place, where no pair is left. -/
theorem plc_done {up : Bool} {wd l : List Nat} {i : Nat} (h : LeftP wd i l) (hn : NoP wd i l) :
    (plc up wd i l < 0 ∧ turn up wd i = none) ∨ ∃ p : Nat, plc up wd i l = (p : Int) ∧ p < wd.length ∧ turn up wd i = some (wd.set p (if up = true then i else i + 1)) := by
  obtain ⟨h1, -⟩ := frL_done l (fun p hp => (h.mem p hp).2) hn
  rw [h.fr] at h1
  have hK := fun p hp => ((frL_all wd i (List.range wd.length)).1 p hp).1
  have hA := fun p hp => ((frL_all wd i (List.range wd.length)).2 p hp).1
  have hup := fun h => (fre_up (w := wd) (i := i) h).1
  have hdn := fun h => (fre_dn (w := wd) (i := i) h).1
  change ∀ p ∈ (fre wd i).1, _ at hK
  change ∀ p ∈ (fre wd i).2, _ at hA
  have e : plc up wd i l = (fre wd i).2.foldl (stp up wd i) ((fre wd i).1.foldl (stp up wd i) (-1)) := by
    unfold plc
    rw [← h1, List.foldl_append]
  rw [e]
  unfold turn cUp cDn
  generalize fre wd i = S at *
  obtain ⟨K, A⟩ := S
  simp only at *
  cases up with
  | true =>
    rw [fold_same (l := A) (fun q hq p => by unfold stp; rw [if_neg]; rintro (⟨_, h2⟩ | ⟨h2, _⟩); · rw [hA q hq] at h2; omega
                                             · cases h2)]
    rw [fold_last (l := K) (fun q hq p => by unfold stp; rw [if_pos]; exact Or.inl ⟨rfl, hK q hq⟩)]
    by_cases hk : K = []
    · left
      rw [if_pos hk]
      exact ⟨by omega, by simp [hk]⟩
    · right
      refine ⟨K.getLastD 0, by rw [if_neg hk], hup hk, by simp [hk]⟩
  | false =>
    rw [fold_same (l := K) (fun q hq p => by unfold stp; rw [if_neg]; rintro (⟨h2, _⟩ | ⟨_, h2, _⟩); · cases h2
                                             · rw [hK q hq] at h2; omega)]
    rw [fold_first (l := A) (fun q hq p => by unfold stp; rw [hA q hq]; simp)]
    by_cases hk : A = []
    · left
      rw [if_pos hk]
      exact ⟨by omega, by simp [hk]⟩
    · right
      refine ⟨A.headD 0, by rw [if_neg hk], hdn hk, by simp [hk]⟩

theorem own_take {B n g cap k : Nat} {e : TypeId} {w : World} {xs : List Value} (h : w.ownsRow B e 1 (.slice (some ⟨g, 0, none⟩) n cap) n xs) (hk : k ≤ n) : w.ownsRow B e 1 (.slice (some ⟨g, 0, none⟩) k cap) k (xs.take k) := by
  obtain ⟨h1, h2⟩ := h
  rcases h2 with ⟨h2, _⟩ | ⟨g', cap', cur, h2, h3, h4, h5, h6, h7, h8⟩
  · simp at h2
  · simp only [Value.slice.injEq, Option.some.injEq, Addr.mk.injEq, and_true, true_and] at h2
    obtain ⟨rfl, rfl⟩ := h2
    refine ⟨by simp; omega, .inr ⟨g, cap, cur, rfl, h3, h4, by omega, h6, h7, ?_⟩⟩
    rw [← h8]
    simp only [Nat.mul_one] at *
    rw [List.take_take]
    congr 1
    omega

theorem natsI_take (l : List Nat) (k : Nat) : ints (natsI (l.take k)) = (ints (natsI l)).take k := by simp [ints, natsI, List.map_take]

/-- What lies behind. -/
theorem tail_cells {B n g cap k : Nat} {w : World} {l : List Nat} (h : w.ownsRow B 3 1 (.slice (some ⟨g, 0, none⟩) n cap) n (ints (natsI l))) (hl : l.length = n) :
    ∀ j u, (ints (natsI (l.drop k)))[j]? = some u → w.cell? ((if cap = k then (⟨g, 0, none⟩ : Addr) else ⟨g, k, none⟩).add j) = some u := by
  intro j u hu
  have hnc : n ≤ cap := by
    rcases h.2 with ⟨h2, _⟩ | ⟨g', cap', cur, h2, _, _, h5, _⟩
    · simp at h2
    · simp only [Value.slice.injEq, Option.some.injEq, Addr.mk.injEq, and_true, true_and] at h2
      obtain ⟨_, rfl⟩ := h2
      exact h5
  have hj : k + j < n := by
    have := (List.getElem?_eq_some_iff.1 hu).1
    simp [ints, natsI] at this
    omega
  rw [if_neg (by omega)]
  have ea : (⟨g, k, none⟩ : Addr).add j = ⟨g, k + j, none⟩ := by unfold Addr.add; split <;> simp_all
  rw [ea, h.cellAt (k + j) (by omega)]
  rw [← hu]
  simp [ints, natsI, List.map_drop]

end Go.Proofs.Ytnooabbcfhmjaaa
