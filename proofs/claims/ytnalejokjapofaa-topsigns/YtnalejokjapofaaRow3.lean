/- The row through chosen points. -/
import Derived.Test.YtnalejokjapofaaRowB
import Derived.Test.YtnalejokjapofaaOwnA
namespace Go.Proofs.Ytnalejokjapofaa
open Go.RowKit
attribute [local go_sem ↓] Go.wp_at_zero Go.wp_at_succ

/-- The row that chosen points meet, if there is one alone and no point lies beyond it. -/
def rowT (t P : List (List Int)) : Option (List Int) :=
  if normB t.length (diffL t) = true then
    if (P.any fun x => decide (dotL (normL t.length (diffL t)) (t.getD 0 []) < dotL (normL t.length (diffL t)) x)) = false then some (normL t.length (diffL t) ++ [dotL (normL t.length (diffL t)) (t.getD 0 [])])
    else if (P.any fun x => decide (dotL (normL t.length (diffL t)) x < dotL (normL t.length (diffL t)) (t.getD 0 []))) = false then some ((normL t.length (diffL t) ++ [dotL (normL t.length (diffL t)) (t.getD 0 [])]).map fun z => -z)
    else none
  else none

theorem getD_mem {l : List Int} {i : Nat} (h : i < l.length) : l.getD i 0 ∈ l := by simp [h]

theorem diff_mx {d : Nat} {t : List (List Int)} (h : Box d 30 t) (h1 : 1 ≤ d) (h5 : d ≤ 5) : Mx d 60 (diffL t) := by
  refine ⟨fun r hr => ?_, fun r hr z hz => ?_, h5, h1, by decide, Nat.le_trans (fb_mono (by decide) h5) (by decide)⟩
  · simp only [diffL, List.mem_map] at hr
    obtain ⟨x, hx, rfl⟩ := hr
    rw [subL_length]; exact (h x (List.mem_of_mem_drop hx)).1
  · simp only [diffL, List.mem_map] at hr
    obtain ⟨x, hx, rfl⟩ := hr
    simp only [subL, List.mem_map, List.mem_range] at hz
    obtain ⟨i, hi, rfl⟩ := hz
    have h1 := (h x (List.mem_of_mem_drop hx)).2 (x.getD i 0) (by simp [hi])
    have h2 : -(30 : Int) ≤ (t.getD 0 []).getD i 0 ∧ (t.getD 0 []).getD i 0 ≤ 30 := by
      by_cases ht : 0 < t.length
      · have h3 := h (t.getD 0 []) (by simp [ht])
        by_cases hi2 : i < (t.getD 0 []).length
        · exact h3.2 _ (getD_mem hi2)
        · rw [show (t.getD 0 []).getD i 0 = 0 by simp only [List.getD_eq_getElem?_getD]; rw [List.getElem?_eq_none (by simpa using hi2)]; rfl]; omega
      · have : t = [] := List.eq_nil_of_length_eq_zero (by omega)
        subst this; simp
    omega

theorem muL_len (c : Nat) (rows : List (List Int)) : (muL c rows).length = c := by simp [muL]

theorem norm_len {c : Nat} {m : List (List Int)} (h : normB c m = true) : (normL c m).length = c := by
  unfold normB at h
  unfold normL
  rw [if_pos (of_decide_eq_true h), upr_len, low_len, muL_len]

theorem upr_bd {l : List Int} {b : Nat} (h : ∀ z ∈ l, z.natAbs ≤ b) : ∀ z ∈ Lin.upr l, z.natAbs ≤ b := by
  intro z hz
  unfold Lin.upr at hz
  split at hz
  · simp only [List.mem_map] at hz
    obtain ⟨y, hy, rfl⟩ := hz
    rw [Int.natAbs_neg]; exact h y hy
  · exact h z hz

theorem mu_small {c : Nat} {m : List (List Int)} (hx : Mx c 60 m) (hl : (pickL c m).length + 1 = c) : ∀ z ∈ muL c (pickL c m), z.natAbs ≤ 1000000000000 := by
  intro z hz
  simp only [muL, List.mem_map, List.mem_range] at hz
  obtain ⟨k, hk, rfl⟩ := hz
  unfold Lin.mu
  rw [Int.natAbs_mul]
  have h2 : (Lin.ngo k).natAbs = 1 := by rw [ngo_mod]; by_cases e : k % 2 = 1 <;> simp [e]
  rw [h2, Nat.one_mul, fm_length]
  have h5 : Lin.fb 60 5 = 93312000000 := by decide
  have m2 : Lin.fb 60 (pickL c m).length ≤ Lin.fb 60 5 := fb_mono (by decide) (by have := hx.c5; omega)
  have hb := Lin.od_bd (n := (pickL c m).length) (B := 60) (Lin.cols (fm (pickL c m)) (Lin.skp k)) (fun _ => false) (fun r hr j hj => by
    simp only [Lin.cols, fm, List.mem_map] at hr
    obtain ⟨_, ⟨l, hl', rfl⟩, rfl⟩ := hr
    by_cases hi : Lin.skp k j < l.length
    · exact hx.bd l (pickL_mem hl') _ (by simp [hi])
    · simp only [List.getD_eq_getElem?_getD]; rw [List.getElem?_eq_none (by omega)]; simp) (by rw [Lin.cu_none]; simp [Lin.cols, fm])
  have hl2 : (Lin.cols (fm (pickL c m)) (Lin.skp k)).length = (pickL c m).length := by simp [Lin.cols, fm]
  rw [hl2] at hb
  omega

theorem norm_bd {c : Nat} {m : List (List Int)} (hx : Mx c 60 m) : ∀ z ∈ normL c m, z.natAbs ≤ 1000000000000 := by
  intro z hz
  unfold normL at hz
  split at hz
  · rename_i hl
    exact upr_bd (low_bd (mu_small hx hl)) z hz
  · simp at hz

theorem box_small {d : Nat} {P : List (List Int)} (h : Box d 30 P) {x : List Int} (hx : x ∈ P) : ∀ z ∈ x, z.natAbs ≤ 1000 := fun z hz => by
  have := (h x hx).2 z hz; omega

/-- A world with one number more, in a block of its own. -/
def Bx (W3 W4 : World) (bv : Int) : Prop := W4.cell? ⟨W3.heap.size, 0, none⟩ = some (.int .i64 bv) ∧ Below W3.heap.size W3 W4 ∧ W4.heap.size = W3.heap.size + 1

theorem bx1 (W3 : World) (k : Nat) (bv : Int) : Bx W3 (((W3.drewN k).alloc (.cells #[.int .i64 0] 3)).setCell ⟨W3.heap.size, 0, none⟩ (.int .i64 bv)) bv := by
  have gen : ∀ W : World, ((W.alloc (.cells #[.int .i64 0] 3)).setCell ⟨W.heap.size, 0, none⟩ (.int .i64 bv)).cell? ⟨W.heap.size, 0, none⟩ = some (.int .i64 bv) := fun W => by simp [go_sem]
  have h0 : Below W3.heap.size W3 (W3.drewN k) := ⟨rfl, rfl, rfl, Nat.le_refl _, fun _ _ => rfl⟩
  refine ⟨gen (W3.drewN k), ?_, ?_⟩
  · exact (h0.alloc (Nat.le_refl _) _).setCell (Nat.le_refl _) _
  · have : ∀ W : World, ((W.alloc (.cells #[.int .i64 0] 3)).setCell ⟨W.heap.size, 0, none⟩ (.int .i64 bv)).heap.size = W.heap.size + 1 := fun W => by simp [World.setCell]
    exact this (W3.drewN k)

theorem bx2 (W3 : World) (k : Nat) (bv : Int) : Bx W3 (((W3.alloc (.cells #[.int .i64 0] 3)).drewN k).setCell ⟨W3.heap.size, 0, none⟩ (.int .i64 bv)) bv := bx1 W3 k bv

theorem dot_small {a x : List Int} (h : Sm a x) : (dotL a x).natAbs ≤ 8000000000000000 := by
  have h1 := sum_sm h a.length (Nat.le_refl _)
  have h2 := h.2.1
  unfold dotL
  omega

end Go.Proofs.Ytnalejokjapofaa
