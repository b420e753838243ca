/- Cuts: what the document says of open cuts and of corners is what the program says (pure). -/
import Derived.Test.YtknomkajibfmlaaGreatHf9
namespace Go.Proofs.YtknomkajibfmlaaGreat
open Lin

/-- A row with 0 behind. -/
def stR (d : Nat) (r : List Int) : List Int := r.take d ++ [0]
/-- The row: s times the k-th number is below -1. -/
def onS (d k : Nat) (s : Int) : List Int := (List.range (d + 1)).map fun i => if i = d then -1 else if i = k then s else 0
def opR (d : Nat) (rows : List (List Int)) (k : Nat) (s : Int) : List (List Int) := rows.map (stR d) ++ [onS d k s]
def opD (d : Nat) (rows : List (List Int)) : Bool := (List.range d).any fun k => !docE d (opR d rows k (-1)) || !docE d (opR d rows k 1)

theorem stR_len {d : Nat} {r : List Int} (h : r.length = d + 1) : (stR d r).length = d + 1 := by simp [stR, h]
theorem onS_len (d k : Nat) (s : Int) : (onS d k s).length = d + 1 := by simp [onS]

theorem stR_at {d i : Nat} {r : List Int} (h : r.length = d + 1) (hi : i < d) : V (stR d r) i = V r i := by
  unfold V stR
  rw [List.getD_eq_getElem?_getD, List.getElem?_append_left (by simp [h]; omega), List.getElem?_take_of_lt hi, ← List.getD_eq_getElem?_getD]

theorem stR_last {d : Nat} {r : List Int} (h : r.length = d + 1) : V (stR d r) d = 0 := by
  unfold V stR
  rw [List.getD_eq_getElem?_getD, List.getElem?_append_right (by simp [h])]
  simp [h]

theorem onS_dot {d k : Nat} {s : Int} (hk : k < d) (x : Nat → Int) : dot d (V (onS d k s)) x = s * x k := by
  unfold dot
  rw [sumN_one (k := k) hk (fun i hi hne => by simp [V, onS, show i < d + 1 by omega, show ¬ i = d by omega, hne])]
  simp [V, onS, show k < d + 1 by omega, show ¬ k = d by omega]

theorem onS_last {d k : Nat} {s : Int} : V (onS d k s) d = -1 := by simp [V, onS]

theorem opR_len {d k : Nat} {s : Int} {rows : List (List Int)} (hl : ∀ r ∈ rows, r.length = d + 1) : ∀ r ∈ opR d rows k s, r.length = d + 1 := fun r hr => by
  unfold opR at hr
  rcases List.mem_append.1 hr with h | h
  · obtain ⟨q, hq, rfl⟩ := List.mem_map.1 h
    exact stR_len (hl q hq)
  · simp only [List.mem_singleton] at h
    rw [h]; exact onS_len d k s

theorem axG_dot {d i : Nat} {s : Int} (hi : i < d) (c : Nat → Int) : dot d c (V (axG d i s)) = s * c i := by
  unfold dot
  rw [sumN_one (k := i) hi (fun j hj hne => by simp [V, axG, hj, hne])]
  simp [V, axG, hi, Int.mul_comm]

/-- One step along an axis: the document asks with the other sign. -/
theorem op_one {d k : Nat} {s : Int} {rows : List (List Int)} (hl : ∀ r ∈ rows, r.length = d + 1) (hk : k < d) : docE d (opR d rows k s) = false ↔ waysL rows (axG d k (-s)) = [] := by
  rw [doc_emp (opR_len hl), emp_fea, ways_none, axG_len]
  constructor
  · rintro ⟨x, w, hw, hf⟩
    refine ⟨x, fun r hr => ?_, ?_⟩
    · have := hf (stR d r) (by unfold opR; exact List.mem_append_left _ (List.mem_map.2 ⟨r, hr, rfl⟩))
      rw [stR_last (hl r hr), Int.zero_mul, dot_congr (fun i hi => stR_at (hl r hr) hi) (fun _ _ => rfl)] at this
      rw [dot_comm]; exact this
    · have := hf (onS d k s) (by unfold opR; simp)
      rw [onS_dot hk, onS_last] at this
      rw [axG_dot hk, Int.neg_mul]
      omega
  · rintro ⟨c, h1, h2⟩
    rw [axG_dot hk, Int.neg_mul] at h2
    refine ⟨c, -(s * c k), by omega, fun r hr => ?_⟩
    unfold opR at hr
    rcases List.mem_append.1 hr with h | h
    · obtain ⟨q, hq, rfl⟩ := List.mem_map.1 h
      rw [stR_last (hl q hq), Int.zero_mul, dot_congr (fun i hi => stR_at (hl q hq) hi) (fun _ _ => rfl), dot_comm]
      exact h1 q hq
    · simp only [List.mem_singleton] at h
      rw [h, onS_dot hk, onS_last]
      omega

theorem op_doc {d : Nat} {rows : List (List Int)} (hl : ∀ r ∈ rows, r.length = d + 1) : opD d rows = opB d rows := by
  unfold opD opB
  rw [Bool.eq_iff_iff, List.any_eq_true, List.any_eq_true]
  have key : ∀ k, k < d → ((!docE d (opR d rows k (-1)) || !docE d (opR d rows k 1)) = opI d rows k) := fun k hk => by
    have a := op_one (s := -1) hl hk
    have b := op_one (s := 1) hl hk
    unfold opI
    rw [show -(-1 : Int) = 1 by decide] at a
    have e1 : (!docE d (opR d rows k (-1))) = (waysL rows (axG d k 1)).isEmpty := by
      rw [Bool.eq_iff_iff, Bool.not_eq_true', List.isEmpty_iff]; exact a
    have e2 : (!docE d (opR d rows k 1)) = (waysL rows (axG d k (-1))).isEmpty := by
      rw [Bool.eq_iff_iff, Bool.not_eq_true', List.isEmpty_iff]; exact b
    rw [e1, e2]
  constructor
  · rintro ⟨k, hk, h⟩
    exact ⟨k, hk, by rw [← key k (List.mem_range.1 hk)]; exact h⟩
  · rintro ⟨k, hk, h⟩
    exact ⟨k, hk, by rw [key k (List.mem_range.1 hk)]; exact h⟩

/-- Rows that are not open are some. -/
theorem op_some {d : Nat} {rows : List (List Int)} (hd : 1 ≤ d) (h : opB d rows = false) : 1 ≤ rows.length := by
  rcases rows with _ | ⟨r, rows⟩
  · exfalso
    unfold opB at h
    rw [List.any_eq_false] at h
    have := h 0 (List.mem_range.2 hd)
    apply this
    unfold opI
    rw [Bool.or_eq_true]
    left
    rw [List.isEmpty_iff]
    refine ways_none.2 ⟨fun _ => 1, fun r hr => (by cases hr), ?_⟩
    rw [axG_len, axG_dot hd]
    decide
  · simp

/-- The document finds a place just where the program does. -/
theorem pt_mt {d : Nat} {rows t : List (List Int)} {y : List Int} (hl : ∀ r ∈ rows, r.length = d + 1) (ht : ∀ r ∈ t, r.length = d + 1) : ptT rows d t = some y ↔ mtB d t = true ∧ inK rows d (mtL d t) = true ∧ y = mtL d t := by
  constructor
  · intro h
    obtain ⟨k1, k2⟩ := mt_pt ht h
    refine ⟨k1, ?_, k2.symm⟩
    rw [k2, in_ptK hl]
    exact (ptK_iff hl).2 (pt_fea hl h).2
  · rintro ⟨h1, h2, rfl⟩
    have hb : normB (d + 1) t = true := by unfold mtB at h1; rw [Bool.and_eq_true] at h1; exact h1.1
    have hne : (normL (d + 1) t).getD d 0 ≠ 0 := by unfold mtB at h1; rw [Bool.and_eq_true] at h1; simpa using h1.2
    have hb' : normB (d + 1) (t.map (ngR d)) = true := by rw [← ng_normB ht]; exact hb
    have hpar := ng_par ht hb
    have hl' : (pickL (d + 1) (t.map (ngR d))).length + 1 = d + 1 := by simpa [normB] using hb'
    have g2 := norm_gc hl'
    have n2 := norm_len hb'
    have hne' : (normL (d + 1) (t.map (ngR d))).getD d 0 ≠ 0 := fun e => by
      generalize normL (d + 1) (t.map (ngR d)) = n' at *
      generalize normL (d + 1) t = n at *
      have hz : ∀ i, i < d + 1 → n'.getD i 0 = 0 := fun i hi => by
        have := hpar i d hi (by omega)
        unfold turnK V at this
        rw [if_pos rfl, e, Int.mul_zero] at this
        rcases Int.mul_eq_zero.1 this.symm with h0 | h0
        · omega
        · exact h0
      have hz2 : n' = n'.map ((0 : Int) * ·) := by
        refine List.ext_getElem (by simp) fun i h1 h2 => ?_
        have := hz i (by omega)
        rw [List.getD_eq_getElem?_getD, List.getElem?_eq_getElem h1] at this
        simp only [Option.getD_some] at this
        simp [this]
      rw [hz2, gc_scale] at g2
      simp at g2
    have hY := (mt_ptY ht hb' hne' rfl).2
    unfold ptT
    rw [if_pos ⟨hb', hne', by rw [← hY, ← in_ptK hl]; exact h2⟩, hY]

theorem crL_memG {d : Nat} {rows : List (List Int)} {z : List Int} : z ∈ crL d rows (ext rows.length d 0) ↔ ∃ t, t.Sublist rows ∧ t.length = d ∧ mtB d t = true ∧ inK rows d (mtL d t) = true ∧ z = mtL d t := by
  have hx := chz_ext rows [] d 0
  rw [List.drop_zero] at hx
  constructor
  · intro h
    simp only [crL, List.mem_flatMap] at h
    obtain ⟨c, hc, hz⟩ := h
    have hm : pks rows [] c ∈ chz d rows := by rw [← hx]; exact List.mem_map.2 ⟨c, hc, rfl⟩
    obtain ⟨h1, h2⟩ := chz_mem.1 hm
    unfold crC at hz
    split at hz
    · rename_i hq
      simp only [List.mem_singleton] at hz
      exact ⟨_, h1, h2, hq.1, hq.2, hz⟩
    · cases hz
  · rintro ⟨t, h1, h2, h3, h4, rfl⟩
    have hm : t ∈ chz d rows := chz_mem.2 ⟨h1, h2⟩
    rw [← hx] at hm
    obtain ⟨c, hc, rfl⟩ := List.mem_map.1 hm
    simp only [crL, List.mem_flatMap]
    refine ⟨c, hc, ?_⟩
    unfold crC
    rw [if_pos ⟨h3, h4⟩]
    simp

theorem pts_mem {d : Nat} {rows : List (List Int)} {z : List Int} : z ∈ ptsD rows d ↔ ∃ t, t.Sublist rows ∧ t.length = d ∧ ptT rows d t = some z := by
  unfold ptsD
  rw [List.mem_flatMap]
  constructor
  · rintro ⟨c, hc, hz⟩
    have hr := chosen_row d rows.length c hc
    obtain ⟨h1, h2⟩ := chosen_mem d rows.length c hc
    have he : c ∈ ext rows.length d 0 := ext_all d hr (fun i hi => ⟨by have := (h1 i hi).1; omega, (h1 i hi).2⟩) h2
    have hx := chz_ext rows [] d 0
    rw [List.drop_zero] at hx
    have hm : pks rows [] c ∈ chz d rows := by rw [← hx]; exact List.mem_map.2 ⟨c, he, rfl⟩
    obtain ⟨k1, k2⟩ := chz_mem.1 hm
    exact ⟨_, k1, k2, Option.mem_toList.1 hz⟩
  · rintro ⟨t, h1, h2, h3⟩
    obtain ⟨c, hc, rfl⟩ := chosen_sub h1 h2
    exact ⟨c, hc, Option.mem_toList.2 h3⟩

/-- The same corners. -/
theorem corners_same {d : Nat} {rows : List (List Int)} (hl : ∀ r ∈ rows, r.length = d + 1) : ∀ z, z ∈ crL d rows (ext rows.length d 0) ↔ z ∈ ptsD rows d := fun z => by
  rw [crL_memG, pts_mem]
  constructor
  · rintro ⟨t, h1, h2, h3, h4, h5⟩
    exact ⟨t, h1, h2, (pt_mt hl fun r hr => hl r (h1.subset hr)).2 ⟨h3, h4, h5⟩⟩
  · rintro ⟨t, h1, h2, h3⟩
    obtain ⟨k1, k2, k3⟩ := (pt_mt hl fun r hr => hl r (h1.subset hr)).1 h3
    exact ⟨t, h1, h2, k1, k2, k3⟩

end Go.Proofs.YtknomkajibfmlaaGreat
