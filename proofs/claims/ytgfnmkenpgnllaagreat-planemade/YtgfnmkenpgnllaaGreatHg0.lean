/- Cuts: what the document says of open cuts and of corners is what the program says (pure). -/
import Derived.Test.YtgfnmkenpgnllaaGreatHf9
namespace Go.Proofs.YtgfnmkenpgnllaaGreat
open Lin

/-- A row with 0 behind. -/
def stR (d : Nat) (r : List Int) : List Int := r.take d ++ [0]
/-- The row: s times the k-th number is below -1. -/
def onS (d k : Nat) (s : Int) : List Int := (List.range (d + 1)).map fun i => if i = d then -1 else if i = k then s else 0
def opR (d : Nat) (rows : List (List Int)) (k : Nat) (s : Int) : List (List Int) := rows.map (stR d) ++ [onS d k s]
def opD (d : Nat) (rows : List (List Int)) : Bool := (List.range d).any fun k => !docE d (opR d rows k (-1)) || !docE d (opR d rows k 1)

theorem stR_len {d : Nat} {r : List Int} (h : r.length = d + 1) : (stR d r).length = d + 1 := by simp [stR, h]
theorem onS_len (d k : Nat) (s : Int) : (onS d k s).length = d + 1 := by simp [onS]

theorem stR_at {d i : Nat} {r : List Int} (h : r.length = d + 1) (hi : i < d) : V (stR d r) i = V r i := by
  unfold V stR
  rw [List.getD_eq_getElem?_getD, List.getElem?_append_left (by simp [h]; omega), List.getElem?_take_of_lt hi, ← List.getD_eq_getElem?_getD]

theorem stR_last {d : Nat} {r : List Int} (h : r.length = d + 1) : V (stR d r) d = 0 := by
  unfold V stR
  rw [List.getD_eq_getElem?_getD, List.getElem?_append_right (by simp [h])]
  simp [h]

theorem onS_dot {d k : Nat} {s : Int} (hk : k < d) (x : Nat → Int) : dot d (V (onS d k s)) x = s * x k := by
  unfold dot
  rw [sumN_one (k := k) hk (fun i hi hne => by simp [V, onS, show i < d + 1 by omega, show ¬ i = d by omega, hne])]
  simp [V, onS, show k < d + 1 by omega, show ¬ k = d by omega]

theorem onS_last {d k : Nat} {s : Int} : V (onS d k s) d = -1 := by simp [V, onS]

theorem opR_len {d k : Nat} {s : Int} {rows : List (List Int)} (hl : ∀ r ∈ rows, r.length = d + 1) : ∀ r ∈ opR d rows k s, r.length = d + 1 := fun r hr => by
  unfold opR at hr
  rcases List.mem_append.1 hr with h | h
  · obtain ⟨q, hq, rfl⟩ := List.mem_map.1 h
    exact stR_len (hl q hq)
  · simp only [List.mem_singleton] at h
    rw [h]; exact onS_len d k s

theorem axG_dot {d i : Nat} {s : Int} (hi : i < d) (c : Nat → Int) : dot d c (V (axG d i s)) = s * c i := by
  unfold dot
  rw [sumN_one (k := i) hi (fun j hj hne => by simp [V, axG, hj, hne])]
  simp [V, axG, hi, Int.mul_comm]

/-- One step along an axis: the document asks with the other sign. -/
theorem op_one {d k : Nat} {s : Int} {rows : List (List Int)} (hl : ∀ r ∈ rows, r.length = d + 1) (hk : k < d) : docE d (opR d rows k s) = false ↔ waysL rows (axG d k (-s)) = [] := by
  rw [doc_emp (opR_len hl), emp_fea, ways_none, axG_len]
  constructor
  · rintro ⟨x, w, hw, hf⟩
    refine ⟨x, fun r hr => ?_, ?_⟩
    · have := hf (stR d r) (by unfold opR; exact List.mem_append_left _ (List.mem_map.2 ⟨r, hr, rfl⟩))
      rw [stR_last (hl r hr), Int.zero_mul, dot_congr (fun i hi => stR_at (hl r hr) hi) (fun _ _ => rfl)] at this
      rw [dot_comm]; exact this
    · have := hf (onS d k s) (by unfold opR; simp)
      rw [onS_dot hk, onS_last] at this
      rw [axG_dot hk, Int.neg_mul]
      omega
  · rintro ⟨c, h1, h2⟩
    rw [axG_dot hk, Int.neg_mul] at h2
    refine ⟨c, -(s * c k), by omega, fun r hr => ?_⟩
    unfold opR at hr
    rcases List.mem_append.1 hr with h | h
    · obtain ⟨q, hq, rfl⟩ := List.mem_map.1 h
      rw [stR_last (hl q hq), Int.zero_mul, dot_congr (fun i hi => stR_at (hl q hq) hi) (fun _ _ => rfl), dot_comm]
      exact h1 q hq
    · simp only [List.mem_singleton] at h
      rw [h, onS_dot hk, onS_last]
      omega

theorem op_doc {d : Nat} {rows : List (List Int)} (hl : ∀ r ∈ rows, r.length = d + 1) : opD d rows = opB d rows := by
  unfold opD opB
  rw [Bool.eq_iff_iff, List.any_eq_true, List.any_eq_true]
  have key : ∀ k, k < d → ((!docE d (opR d rows k (-1)) || !docE d (opR d rows k 1)) = opI d rows k) := fun k hk => by
    have a := op_one (s := -1) hl hk
    have b := op_one (s := 1) hl hk
    unfold opI
    rw [show -(-1 : Int) = 1 by decide] at a
    have e1 : (!docE d (opR d rows k (-1))) = (waysL rows (axG d k 1)).isEmpty := by
      rw [Bool.eq_iff_iff, Bool.not_eq_true', List.isEmpty_iff]; exact a
    have e2 : (!docE d (opR d rows k 1)) = (waysL rows (axG d k (-1))).isEmpty := by
      rw [Bool.eq_iff_iff, Bool.not_eq_true', List.isEmpty_iff]; exact b
    rw [e1, e2]
  constructor
  · rintro ⟨k, hk, h⟩
    exact ⟨k, hk, by rw [← key k (List.mem_range.1 hk)]; exact h⟩
  · rintro ⟨k, hk, h⟩
    exact ⟨k, hk, by rw [key k (List.mem_range.1 hk)]; exact h⟩

end Go.Proofs.YtgfnmkenpgnllaaGreat
