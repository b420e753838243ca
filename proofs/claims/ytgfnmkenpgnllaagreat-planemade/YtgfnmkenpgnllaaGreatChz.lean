/- All choices of some of many things, by their numbers and by the things; a choice of few things out of joined lists lies in as few of the lists. -/
namespace Go.Proofs.YtgfnmkenpgnllaaGreat

/-- All rising lists of k of the numbers from fr to n - 1, in order. -/
def ext (n : Nat) : Nat → Nat → List (List Int)
  | 0, _ => [[]]
  | k + 1, fr => (List.range' fr (n - fr)).flatMap fun i => (ext n k (i + 1)).map ((i : Int) :: ·)

theorem ext_step {n k fr : Nat} (h : fr < n) : ext n (k + 1) fr = (ext n k (fr + 1)).map ((fr : Int) :: ·) ++ ext n (k + 1) (fr + 1) := by
  obtain ⟨d, hd⟩ : ∃ d, n - fr = d + 1 := ⟨n - fr - 1, by omega⟩
  simp only [ext]
  rw [hd, List.range'_succ, show n - (fr + 1) = d by omega]
  simp

theorem ext_end {n k fr : Nat} (h : n ≤ fr) : ext n (k + 1) fr = [] := by
  simp [ext, show n - fr = 0 by omega]

/-- All choices of k out of a list, in their order. -/
def chz {α : Type} : Nat → List α → List (List α)
  | 0, _ => [[]]
  | _ + 1, [] => []
  | k + 1, x :: xs => ((chz k xs).map (x :: ·)) ++ chz (k + 1) xs

/-- The things that have the numbers. -/
def pks {α : Type} (L : List α) (d : α) (c : List Int) : List α := c.map fun i => L.getD i.toNat d

theorem drop_cons {α : Type} (L : List α) (d : α) {fr : Nat} (h : fr < L.length) : L.drop fr = L.getD fr d :: L.drop (fr + 1) := by
  rw [List.drop_eq_getElem_cons h]; simp [h]

theorem chz_ext {α : Type} (L : List α) (d : α) : ∀ k fr, (ext L.length k fr).map (pks L d) = chz k (L.drop fr) := by
  intro k
  induction k with
  | zero => intro fr; simp [ext, chz, pks]
  | succ k ih =>
    suffices h : ∀ m fr, L.length ≤ fr + m → (ext L.length (k + 1) fr).map (pks L d) = chz (k + 1) (L.drop fr) from fun fr => h L.length fr (by omega)
    intro m
    induction m with
    | zero => intro fr h; rw [ext_end (by omega), List.drop_of_length_le (by omega)]; simp [chz]
    | succ m ihm =>
      intro fr h
      by_cases hlt : fr < L.length
      · rw [ext_step hlt, drop_cons L d hlt]
        simp only [chz, List.map_append]
        rw [ihm (fr + 1) (by omega), ← ih (fr + 1)]
        simp [pks, Function.comp_def]
      · rw [ext_end (by omega), List.drop_of_length_le (by omega)]; simp [chz]

theorem chz_mem {α : Type} : ∀ {k : Nat} {l t : List α}, t ∈ chz k l ↔ t.Sublist l ∧ t.length = k
  | 0, l, t => by
    simp only [chz, List.mem_singleton]
    exact ⟨fun h => by subst h; simp, fun h => List.eq_nil_of_length_eq_zero h.2⟩
  | k + 1, [], t => by
    simp only [chz, List.not_mem_nil, false_iff]
    rintro ⟨h, hl⟩
    have := h.length_le
    simp at this
    subst this
    simp at hl
  | k + 1, x :: xs, t => by
    simp only [chz, List.mem_append, List.mem_map]
    constructor
    · rintro (⟨a, ha, rfl⟩ | h)
      · have := chz_mem.1 ha; exact ⟨this.1.cons_cons x, by simp [this.2]⟩
      · have := chz_mem.1 h; exact ⟨this.1.cons x, this.2⟩
    · rintro ⟨h, hl⟩
      cases h with
      | cons _ h => exact .inr (chz_mem.2 ⟨h, hl⟩)
      | cons_cons _ h => exact .inl ⟨_, chz_mem.2 ⟨h, by simpa using hl⟩, rfl⟩

/-- A number of a rising list. -/
theorem ext_rise : ∀ {n k fr : Nat} {c : List Int}, c ∈ ext n k fr → c.length = k ∧ (∀ i, i < k → (fr : Int) ≤ c.getD i 0 ∧ c.getD i 0 < n) ∧ ∀ i j, i < j → j < k → c.getD i 0 < c.getD j 0
  | n, 0, fr, c, h => by
    simp only [ext, List.mem_singleton] at h
    subst h
    exact ⟨rfl, fun i hi => by omega, fun i j _ hj => by omega⟩
  | n, k + 1, fr, c, h => by
    simp only [ext, List.mem_flatMap, List.mem_map, List.mem_range'_1] at h
    obtain ⟨v, hv, l, hl, rfl⟩ := h
    obtain ⟨h1, h2, h3⟩ := ext_rise hl
    refine ⟨by simp [h1], fun i hi => ?_, fun i j hij hj => ?_⟩
    · cases i with
      | zero => simp; omega
      | succ i => have := h2 i (by omega); simp only [List.getD_cons_succ]; omega
    · cases j with
      | zero => omega
      | succ j =>
        cases i with
        | zero => have := h2 j (by omega); simp only [List.getD_cons_zero, List.getD_cons_succ]; omega
        | succ i => have := h3 i j (by omega) (by omega); simpa only [List.getD_cons_succ] using this

theorem flat_sub {α : Type} {A B : List (List α)} (h : A.Sublist B) : A.flatten.Sublist B.flatten := by
  induction h with
  | slnil => exact List.Sublist.refl _
  | cons x _ ih => simp only [List.flatten_cons]; exact ih.trans (List.sublist_append_right _ _)
  | cons_cons x _ ih => simp only [List.flatten_cons]; exact (List.Sublist.refl x).append ih

/-- What has few things, out of joined lists, lies in few of them. -/
theorem few {α : Type} : ∀ (L : List (List α)) (t : List α) (m : Nat), t.Sublist L.flatten → t.length ≤ m → ∃ A : List (List α), A.Sublist L ∧ A.length ≤ m ∧ t.Sublist A.flatten
  | [], t, m, h, _ => ⟨[], List.Sublist.refl _, by simp, h⟩
  | x :: xs, t, m, h, hm => by
    rw [List.flatten_cons] at h
    obtain ⟨a, b, rfl, ha, hb⟩ := List.sublist_append_iff.1 h
    by_cases ea : a = []
    · subst ea
      obtain ⟨A, h1, h2, h3⟩ := few xs b m hb (by simpa using hm)
      exact ⟨A, h1.cons x, h2, by simpa using h3⟩
    · have : 0 < a.length := List.length_pos_iff.2 ea
      simp only [List.length_append] at hm
      obtain ⟨A, h1, h2, h3⟩ := few xs b (m - 1) hb (by omega)
      exact ⟨x :: A, h1.cons_cons x, by simp; omega, by rw [List.flatten_cons]; exact ha.append h3⟩

theorem grow {α : Type} {A B : List α} (h : A.Sublist B) : ∀ m, A.length ≤ m → m ≤ B.length → ∃ C : List α, A.Sublist C ∧ C.Sublist B ∧ C.length = m := by
  induction h with
  | slnil => intro m h1 h2; exact ⟨[], List.Sublist.refl _, List.Sublist.refl _, by simp at h2; simp [h2]⟩
  | @cons A B x h ih =>
    intro m h1 h2
    by_cases e : m ≤ B.length
    · obtain ⟨C, c1, c2, c3⟩ := ih m h1 e
      exact ⟨C, c1, c2.cons x, c3⟩
    · exact ⟨x :: B, h.cons x, List.Sublist.refl _, by simp at h2 ⊢; omega⟩
  | @cons_cons A B x h ih =>
    intro m h1 h2
    simp only [List.length_cons] at h1 h2
    obtain ⟨C, c1, c2, c3⟩ := ih (m - 1) (by omega) (by omega)
    exact ⟨x :: C, c1.cons_cons x, c2.cons_cons x, by simp; omega⟩

/-- Three lists of many hold what three things of all hold. -/
theorem three {α : Type} (L : List (List α)) (h3 : 3 ≤ L.length) (t : List α) (ht : t.Sublist L.flatten) (hl : t.length ≤ 3) :
    ∃ c ∈ ext L.length 3 0, t.Sublist (pks L [] c).flatten := by
  obtain ⟨A, a1, a2, a3⟩ := few L t 3 ht hl
  obtain ⟨C, c1, c2, c3⟩ := grow a1 3 a2 h3
  have hm : C ∈ chz 3 L := chz_mem.2 ⟨c2, c3⟩
  have hx := chz_ext L [] 3 0
  rw [List.drop_zero] at hx
  rw [← hx] at hm
  obtain ⟨c, hc, rfl⟩ := List.mem_map.1 hm
  exact ⟨c, hc, a3.trans (flat_sub c1)⟩

end Go.Proofs.YtgfnmkenpgnllaaGreat
