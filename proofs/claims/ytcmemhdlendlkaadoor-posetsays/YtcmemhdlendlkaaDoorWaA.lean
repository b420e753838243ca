import Derived.Test.YtcmemhdlendlkaaDoorWa1
import Derived.Test.YtcmemhdlendlkaaDoorWa2
/- poset.ways. -/
namespace Go.Proofs.YtcmemhdlendlkaaDoor
open Go.RowKit
attribute [local go_sem ↓] Go.wp_at_zero Go.wp_at_succ

theorem plLe {α : Type} (a : Array α) (x : α) (i : Nat) (h : i < a.size) : (a.push x)[i]? = a[i]? := by
  rw [Array.getElem?_push, if_neg (by omega)]

theorem pnLe {α : Type} (a : Array α) (x : α) (i : Nat) (h : i = a.size) : (a.push x)[i]? = some x := by
  subst h
  simp

theorem sixLe (w : World) (o1 o2 o3 o4 o5 o6 : Obj) (b : Nat) (hb : b = w.heap.size) (W : World) (hW : W = (((((w.alloc o1).alloc o2).alloc o3).alloc o4).alloc o5).alloc o6) :
    W.heap[b]? = some o1 ∧ W.heap[b + 1]? = some o2 ∧ W.heap[b + 2]? = some o3 ∧ W.heap[b + 3]? = some o4 ∧ W.heap[b + 4]? = some o5 ∧ W.heap[b + 5]? = some o6 ∧ W.heap.size = b + 6 := by
  have hh : W.heap = (((((w.heap.push o1).push o2).push o3).push o4).push o5).push o6 := by rw [hW]; rfl
  rw [hh]
  subst hb
  refine ⟨?_, ?_, ?_, ?_, ?_, ?_, by simp only [Array.size_push]⟩
  · rw [plLe _ _ _ (by simp only [Array.size_push]; omega), plLe _ _ _ (by simp only [Array.size_push]; omega), plLe _ _ _ (by simp only [Array.size_push]; omega), plLe _ _ _ (by simp only [Array.size_push]; omega), plLe _ _ _ (by simp only [Array.size_push]; omega), pnLe _ _ _ rfl]
  · rw [plLe _ _ _ (by simp only [Array.size_push]; omega), plLe _ _ _ (by simp only [Array.size_push]; omega), plLe _ _ _ (by simp only [Array.size_push]; omega), plLe _ _ _ (by simp only [Array.size_push]; omega), pnLe _ _ _ (by simp only [Array.size_push])]
  · rw [plLe _ _ _ (by simp only [Array.size_push]; omega), plLe _ _ _ (by simp only [Array.size_push]; omega), plLe _ _ _ (by simp only [Array.size_push]; omega), pnLe _ _ _ (by simp only [Array.size_push])]
  · rw [plLe _ _ _ (by simp only [Array.size_push]; omega), plLe _ _ _ (by simp only [Array.size_push]; omega), pnLe _ _ _ (by simp only [Array.size_push])]
  · rw [plLe _ _ _ (by simp only [Array.size_push]; omega), pnLe _ _ _ (by simp only [Array.size_push])]
  · rw [pnLe _ _ _ (by simp only [Array.size_push])]

set_option maxRecDepth 100000 in
set_option maxHeartbeats 1600000 in
theorem waysLe_any (a n k : Nat) (f : Nat → Nat) (w : World) (hn : n ≤ 6) (hk : k ≤ 6) (hf : ∀ i, i < n → f i < 64) (ha : AbR w a n f) :
    Calls Tryd.prog 37 #[.slice (some ⟨a, 0, none⟩) n n, .int .i64 (k : Int), .func (.func 38) #[] #[]] w fun e w' => e = .returned (.int .i64 (wyF f k leF n [])) ∧ Below w.heap.size w w' := by
  obtain ⟨b, hb⟩ : ∃ b, b = w.heap.size := ⟨_, rfl⟩
  obtain ⟨W6, hW6⟩ : ∃ W6, W6 = (((((w.alloc (.cells #[.slice (some ⟨a, 0, none⟩) n n] 53)).alloc (.cells #[.int .i64 (k : Int)] 3)).alloc (.cells #[.func (.func 38) #[] #[]] 67)).alloc (.cells #[.int .i64 0] 3)).alloc (.cells #[.slice none 0 0] 27)).alloc (.cells #[.func (.func 50) #[] (gvA b)] 1) := ⟨_, rfl⟩
  have HI : WyI w b a n k f (.func (.func 38) #[] #[]) [] 0 W6 := by
    have hal := ha.lt
    have hB : Below w.heap.size w W6 := by
      rw [hW6]
      exact ((((((Below.refl _ _).alloc (Nat.le_refl _) _).alloc (by simp) _).alloc (by simp; omega) _).alloc (by simp; omega) _).alloc (by simp; omega) _).alloc (by simp; omega) _
    obtain ⟨q1, q2, q3, q4, q5, q6, q7⟩ := sixLe w _ _ _ _ _ _ b hb W6 hW6
    exact ⟨by omega, by omega, hB, q1, q2, q3, q4, ⟨.slice none 0 0, q5, World.ownsRow_nil _ _ _ _⟩, q6, World.rowIs.of_block ha (hB.block a hal), by omega⟩
  have HC := waysLe1_any w b a n k f hn hk hf n [] 0 W6 (by simp) (by omega) (by
    have : 6 ^ n ≤ 6 ^ 6 := Nat.pow_le_pow_right (by omega) hn
    have h2 : (6 : Nat) ^ 6 = 46656 := by decide
    rw [h2] at this
    generalize 6 ^ n = q at *
    omega) HI
  rw [show (0 : Int) + wyF f k leF n [] = wyF f k leF n [] by omega] at HC
  generalize wyF f k leF n [] = R at *
  have hfn := HI.fn
  have c5 : W6.cell? ⟨b + 5, 0, none⟩ = some (.func (.func 50) #[] #[.pointer (some ⟨b + 4, 0, none⟩), .pointer (some ⟨b, 0, none⟩), .pointer (some ⟨b + 3, 0, none⟩), .pointer (some ⟨b + 1, 0, none⟩), .pointer (some ⟨b + 2, 0, none⟩), .pointer (some ⟨b + 5, 0, none⟩)]) := by
    simp [World.cell?, hfn, gvA]
  clear HI hfn ha hf
  go_enter Tryd.func37, Tryd.ntmps37
  go_wp2_with fail
  have eW : W6 = (((((w.alloc (.cells #[.slice (some ⟨a, 0, none⟩) n n] 53)).alloc (.cells #[.int .i64 (k : Int)] 3)).alloc (.cells #[.func (.func 38) #[] #[]] 67)).alloc (.cells #[.int .i64 0] 3)).alloc (.cells #[.slice none 0 0] 27)).alloc (.cells #[.func (.func 50) #[] #[.pointer (some ⟨w.heap.size + 1 + 1 + 1 + 1, 0, none⟩), .pointer (some ⟨w.heap.size, 0, none⟩), .pointer (some ⟨w.heap.size + 1 + 1 + 1, 0, none⟩), .pointer (some ⟨w.heap.size + 1, 0, none⟩), .pointer (some ⟨w.heap.size + 1 + 1, 0, none⟩), .pointer (some ⟨w.heap.size + 1 + 1 + 1 + 1 + 1, 0, none⟩)]] 1) := by
    rw [hW6, hb]
    rfl
  rw [← eW]
  rw [hb] at HC
  refine HC.mono ?_
  rintro e w7 ⟨rfl, h7⟩
  have hmn := h7.mn
  have HB : Hid (Below w.heap.size w w7) := h7.bel
  have c7 : w7.cell? ⟨w.heap.size + 1 + 1 + 1, 0, none⟩ = some (.int .i64 R) := by
    show w7.cell? ⟨w.heap.size + 3, 0, none⟩ = _
    simp [World.cell?, hmn]
  clear h7 hmn eW hW6 HC c5
  go_wp2
  go_ret
  exact ⟨rfl, HB.out⟩

end Go.Proofs.YtcmemhdlendlkaaDoor

/- poset.ways. -/
namespace Go.Proofs.YtcmemhdlendlkaaDoor
open Go.RowKit
attribute [local go_sem ↓] Go.wp_at_zero Go.wp_at_succ

theorem plLt {α : Type} (a : Array α) (x : α) (i : Nat) (h : i < a.size) : (a.push x)[i]? = a[i]? := by
  rw [Array.getElem?_push, if_neg (by omega)]

theorem pnLt {α : Type} (a : Array α) (x : α) (i : Nat) (h : i = a.size) : (a.push x)[i]? = some x := by
  subst h
  simp

theorem sixLt (w : World) (o1 o2 o3 o4 o5 o6 : Obj) (b : Nat) (hb : b = w.heap.size) (W : World) (hW : W = (((((w.alloc o1).alloc o2).alloc o3).alloc o4).alloc o5).alloc o6) :
    W.heap[b]? = some o1 ∧ W.heap[b + 1]? = some o2 ∧ W.heap[b + 2]? = some o3 ∧ W.heap[b + 3]? = some o4 ∧ W.heap[b + 4]? = some o5 ∧ W.heap[b + 5]? = some o6 ∧ W.heap.size = b + 6 := by
  have hh : W.heap = (((((w.heap.push o1).push o2).push o3).push o4).push o5).push o6 := by rw [hW]; rfl
  rw [hh]
  subst hb
  refine ⟨?_, ?_, ?_, ?_, ?_, ?_, by simp only [Array.size_push]⟩
  · rw [plLt _ _ _ (by simp only [Array.size_push]; omega), plLt _ _ _ (by simp only [Array.size_push]; omega), plLt _ _ _ (by simp only [Array.size_push]; omega), plLt _ _ _ (by simp only [Array.size_push]; omega), plLt _ _ _ (by simp only [Array.size_push]; omega), pnLt _ _ _ rfl]
  · rw [plLt _ _ _ (by simp only [Array.size_push]; omega), plLt _ _ _ (by simp only [Array.size_push]; omega), plLt _ _ _ (by simp only [Array.size_push]; omega), plLt _ _ _ (by simp only [Array.size_push]; omega), pnLt _ _ _ (by simp only [Array.size_push])]
  · rw [plLt _ _ _ (by simp only [Array.size_push]; omega), plLt _ _ _ (by simp only [Array.size_push]; omega), plLt _ _ _ (by simp only [Array.size_push]; omega), pnLt _ _ _ (by simp only [Array.size_push])]
  · rw [plLt _ _ _ (by simp only [Array.size_push]; omega), plLt _ _ _ (by simp only [Array.size_push]; omega), pnLt _ _ _ (by simp only [Array.size_push])]
  · rw [plLt _ _ _ (by simp only [Array.size_push]; omega), pnLt _ _ _ (by simp only [Array.size_push])]
  · rw [pnLt _ _ _ (by simp only [Array.size_push])]

set_option maxRecDepth 100000 in
set_option maxHeartbeats 1600000 in
theorem waysLt_any (a n k : Nat) (f : Nat → Nat) (w : World) (hn : n ≤ 6) (hk : k ≤ 6) (hf : ∀ i, i < n → f i < 64) (ha : AbR w a n f) :
    Calls Tryd.prog 37 #[.slice (some ⟨a, 0, none⟩) n n, .int .i64 (k : Int), .func (.func 39) #[] #[]] w fun e w' => e = .returned (.int .i64 (wyF f k ltF n [])) ∧ Below w.heap.size w w' := by
  obtain ⟨b, hb⟩ : ∃ b, b = w.heap.size := ⟨_, rfl⟩
  obtain ⟨W6, hW6⟩ : ∃ W6, W6 = (((((w.alloc (.cells #[.slice (some ⟨a, 0, none⟩) n n] 53)).alloc (.cells #[.int .i64 (k : Int)] 3)).alloc (.cells #[.func (.func 39) #[] #[]] 67)).alloc (.cells #[.int .i64 0] 3)).alloc (.cells #[.slice none 0 0] 27)).alloc (.cells #[.func (.func 50) #[] (gvA b)] 1) := ⟨_, rfl⟩
  have HI : WyI w b a n k f (.func (.func 39) #[] #[]) [] 0 W6 := by
    have hal := ha.lt
    have hB : Below w.heap.size w W6 := by
      rw [hW6]
      exact ((((((Below.refl _ _).alloc (Nat.le_refl _) _).alloc (by simp) _).alloc (by simp; omega) _).alloc (by simp; omega) _).alloc (by simp; omega) _).alloc (by simp; omega) _
    obtain ⟨q1, q2, q3, q4, q5, q6, q7⟩ := sixLt w _ _ _ _ _ _ b hb W6 hW6
    exact ⟨by omega, by omega, hB, q1, q2, q3, q4, ⟨.slice none 0 0, q5, World.ownsRow_nil _ _ _ _⟩, q6, World.rowIs.of_block ha (hB.block a hal), by omega⟩
  have HC := waysLt1_any w b a n k f hn hk hf n [] 0 W6 (by simp) (by omega) (by
    have : 6 ^ n ≤ 6 ^ 6 := Nat.pow_le_pow_right (by omega) hn
    have h2 : (6 : Nat) ^ 6 = 46656 := by decide
    rw [h2] at this
    generalize 6 ^ n = q at *
    omega) HI
  rw [show (0 : Int) + wyF f k ltF n [] = wyF f k ltF n [] by omega] at HC
  generalize wyF f k ltF n [] = R at *
  have hfn := HI.fn
  have c5 : W6.cell? ⟨b + 5, 0, none⟩ = some (.func (.func 50) #[] #[.pointer (some ⟨b + 4, 0, none⟩), .pointer (some ⟨b, 0, none⟩), .pointer (some ⟨b + 3, 0, none⟩), .pointer (some ⟨b + 1, 0, none⟩), .pointer (some ⟨b + 2, 0, none⟩), .pointer (some ⟨b + 5, 0, none⟩)]) := by
    simp [World.cell?, hfn, gvA]
  clear HI hfn ha hf
  go_enter Tryd.func37, Tryd.ntmps37
  go_wp2_with fail
  have eW : W6 = (((((w.alloc (.cells #[.slice (some ⟨a, 0, none⟩) n n] 53)).alloc (.cells #[.int .i64 (k : Int)] 3)).alloc (.cells #[.func (.func 39) #[] #[]] 67)).alloc (.cells #[.int .i64 0] 3)).alloc (.cells #[.slice none 0 0] 27)).alloc (.cells #[.func (.func 50) #[] #[.pointer (some ⟨w.heap.size + 1 + 1 + 1 + 1, 0, none⟩), .pointer (some ⟨w.heap.size, 0, none⟩), .pointer (some ⟨w.heap.size + 1 + 1 + 1, 0, none⟩), .pointer (some ⟨w.heap.size + 1, 0, none⟩), .pointer (some ⟨w.heap.size + 1 + 1, 0, none⟩), .pointer (some ⟨w.heap.size + 1 + 1 + 1 + 1 + 1, 0, none⟩)]] 1) := by
    rw [hW6, hb]
    rfl
  rw [← eW]
  rw [hb] at HC
  refine HC.mono ?_
  rintro e w7 ⟨rfl, h7⟩
  have hmn := h7.mn
  have HB : Hid (Below w.heap.size w w7) := h7.bel
  have c7 : w7.cell? ⟨w.heap.size + 1 + 1 + 1, 0, none⟩ = some (.int .i64 R) := by
    show w7.cell? ⟨w.heap.size + 3, 0, none⟩ = _
    simp [World.cell?, hmn]
  clear h7 hmn eW hW6 HC c5
  go_wp2
  go_ret
  exact ⟨rfl, HB.out⟩

end Go.Proofs.YtcmemhdlendlkaaDoor
