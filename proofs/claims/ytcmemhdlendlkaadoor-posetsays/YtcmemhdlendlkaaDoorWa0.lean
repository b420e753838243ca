/- How many ways: pure; and the boxes that poset.ways keeps. -/
import Derived.Test.YtcmemhdlendlkaaDoorPs1
namespace Go.Proofs.YtcmemhdlendlkaaDoor
open Go.RowKit

/-- May the next thing get number v, after what was given? -/
def okW (f : Nat → Nat) (fit : Int → Int → Bool) (g : List Int) (v : Int) : Bool :=
  (List.range g.length).all fun o => !(((f g.length).testBit o && !fit v (g.getD o 0)) || ((f o).testBit g.length && !fit (g.getD o 0) v))

/-- In how many ways the rest gets numbers below k. -/
def wyF (f : Nat → Nat) (k : Nat) (fit : Int → Int → Bool) : Nat → List Int → Int
  | 0, _ => 1
  | t + 1, g => sN k fun v => if okW f fit g (v : Int) then wyF f k fit t (g ++ [(v : Int)]) else 0

theorem sN_le (n : Nat) (b : Int) {f : Nat → Int} (h : ∀ i, i < n → 0 ≤ f i ∧ f i ≤ b) : 0 ≤ sN n f ∧ sN n f ≤ n * b := by
  induction n with
  | zero => simp [sN]
  | succ n ih =>
    have h1 := ih (fun i hi => h i (by omega))
    have h2 := h n (by omega)
    simp only [sN]
    have e : ((n + 1 : Nat) : Int) * b = (n : Int) * b + b := by
      rw [Int.natCast_add, Int.add_mul]
      simp
    rw [e]
    omega

theorem wyF_bd {f : Nat → Nat} {k : Nat} {fit : Int → Int → Bool} (hk : k ≤ 6) : ∀ (t : Nat) (g : List Int), 0 ≤ wyF f k fit t g ∧ wyF f k fit t g ≤ ((6 ^ t : Nat) : Int)
  | 0, g => by simp [wyF]
  | t + 1, g => by
    have h0 := sN_le k ((6 ^ t : Nat) : Int) (f := fun v => if okW f fit g (v : Int) then wyF f k fit t (g ++ [(v : Int)]) else 0) fun v _ => by
      have h1 := wyF_bd (f := f) (fit := fit) hk t (g ++ [(v : Int)])
      have : 0 ≤ ((6 ^ t : Nat) : Int) := Int.natCast_nonneg _
      by_cases hb : okW f fit g (v : Int) = true
      · simp only [hb, if_true]
        exact h1
      · simp only [hb]
        exact ⟨by simp, by simpa using this⟩
    have e : 6 ^ (t + 1) = 6 * 6 ^ t := by rw [Nat.pow_succ, Nat.mul_comm]
    have h1 : (k : Int) * ((6 ^ t : Nat) : Int) ≤ 6 * ((6 ^ t : Nat) : Int) := Int.mul_le_mul_of_nonneg_right (by omega) (Int.natCast_nonneg _)
    simp only [wyF]
    rw [e]
    generalize 6 ^ t = q at *
    omega

/-- What ways$1 is handed. -/
def gvA (b : Nat) : Array Value := #[.pointer (some ⟨b + 4, 0, none⟩), .pointer (some ⟨b, 0, none⟩), .pointer (some ⟨b + 3, 0, none⟩), .pointer (some ⟨b + 1, 0, none⟩), .pointer (some ⟨b + 2, 0, none⟩), .pointer (some ⟨b + 5, 0, none⟩)]

/-- The boxes: what is above, k, fits, how many, what was given, give. -/
structure WyI (w : World) (b a n k : Nat) (f : Nat → Nat) (fv : Value) (g : List Int) (m : Int) (wr : World) : Prop where
  lo : w.heap.size ≤ b
  al : a < b
  bel : Below w.heap.size w wr
  ab : wr.heap[b]? = some (.cells #[.slice (some ⟨a, 0, none⟩) n n] 53 (0, 0))
  kb : wr.heap[b + 1]? = some (.cells #[.int .i64 (k : Int)] 3 (0, 0))
  fb : wr.heap[b + 2]? = some (.cells #[fv] 67 (0, 0))
  mn : wr.heap[b + 3]? = some (.cells #[.int .i64 m] 3 (0, 0))
  gv : ∃ sv, wr.heap[b + 4]? = some (.cells #[sv] 27 (0, 0)) ∧ wr.ownsRow (b + 6) 3 1 sv g.length (ints g)
  fn : wr.heap[b + 5]? = some (.cells #[.func (.func 50) #[] (gvA b)] 1 (0, 0))
  ar : AbR wr a n f
  sz : b + 6 ≤ wr.heap.size

/-- One more counted. -/
theorem WyI.count {w wr : World} {b a n k : Nat} {f : Nat → Nat} {fv : Value} {g : List Int} {m : Int} (h : WyI w b a n k f fv g m wr) : wr.cell? ⟨b + 3, 0, none⟩ = some (.int .i64 m) ∧ wr.frozen? ⟨b + 3, 0, none⟩ = false ∧ WyI w b a n k f fv g (m + 1) (wr.setCell ⟨b + 3, 0, none⟩ (.int .i64 (m + 1))) := by
  obtain ⟨sv, h1, h2⟩ := h.gv
  have hm := h.mn
  have hal := h.al
  have hlo := h.lo
  have hk : ∀ x, x ≠ b + 3 → (wr.setCell ⟨b + 3, 0, none⟩ (.int .i64 (m + 1))).heap[x]? = wr.heap[x]? := fun x hx => Below.heap_setCell _ _ _ _ hx
  refine ⟨by simp [World.cell?, hm], by simp [World.frozen?, hm], hlo, hal, below_set h.bel (by show _ ≤ b + 3; omega), (hk _ (by omega)).trans h.ab, (hk _ (by omega)).trans h.kb, (hk _ (by omega)).trans h.fb, ?_, ⟨sv, (hk _ (by omega)).trans h1, h2.1, ?_⟩, (hk _ (by omega)).trans h.fn, World.rowIs.setOther h.ar (by show a ≠ b + 3; omega) _, by simp only [World.setCell, Array.size_modify]; exact h.sz⟩
  · simp [World.setCell, Array.getElem?_modify, hm]
  · rcases h2.2 with q1 | ⟨x, cap, cur, f1, f2, f3, f4⟩
    · exact .inl q1
    · exact .inr ⟨x, cap, cur, f1, f2, (hk _ (by omega)).trans f3, f4⟩

/-- What was given, otherwise. -/
theorem WyI.give {w wr : World} {b a n k : Nat} {f : Nat → Nat} {fv : Value} {g g2 : List Int} {m : Int} {v2 : Value} (h : WyI w b a n k f fv g m wr) (ho : wr.ownsRow (b + 6) 3 1 v2 g2.length (ints g2)) : WyI w b a n k f fv g2 m (wr.setCell ⟨b + 4, 0, none⟩ v2) := by
  obtain ⟨sv, h1, h2⟩ := h.gv
  have hal := h.al
  have hlo := h.lo
  have hk : ∀ x, x ≠ b + 4 → (wr.setCell ⟨b + 4, 0, none⟩ v2).heap[x]? = wr.heap[x]? := fun x hx => Below.heap_setCell _ _ _ _ hx
  refine ⟨hlo, hal, below_set h.bel (by show _ ≤ b + 4; omega), (hk _ (by omega)).trans h.ab, (hk _ (by omega)).trans h.kb, (hk _ (by omega)).trans h.fb, (hk _ (by omega)).trans h.mn, ⟨v2, ?_, ho.1, ?_⟩, (hk _ (by omega)).trans h.fn, World.rowIs.setOther h.ar (by show a ≠ b + 4; omega) _, by simp only [World.setCell, Array.size_modify]; exact h.sz⟩
  · simp [World.setCell, Array.getElem?_modify, h1]
  · rcases ho.2 with q1 | ⟨x, cap, cur, f1, f2, f3, f4⟩
    · exact .inl q1
    · exact .inr ⟨x, cap, cur, f1, f2, (hk _ (by omega)).trans f3, f4⟩

/-- Behind writes into its row, and new blocks. -/
theorem WyI.grown {w wr w5 : World} {b a n k : Nat} {f : Nat → Nat} {fv sv : Value} {g : List Int} {m : Int} (h : WyI w b a n k f fv g m wr) (hs : ∀ x, sv.ownBlock = some x → b + 6 ≤ x) {o : Obj} (hg : (wr.alloc o).grownBy w5 sv.ownBlock) :
    Below w.heap.size w w5 ∧ w5.heap[b]? = wr.heap[b]? ∧ w5.heap[b + 1]? = wr.heap[b + 1]? ∧ w5.heap[b + 2]? = wr.heap[b + 2]? ∧ w5.heap[b + 3]? = wr.heap[b + 3]? ∧ w5.heap[b + 4]? = wr.heap[b + 4]? ∧ w5.heap[b + 5]? = wr.heap[b + 5]? ∧ w5.heap[a]? = wr.heap[a]? ∧ b + 6 ≤ w5.heap.size := by
  have hsz := h.sz
  have hal := h.al
  have hlo := h.lo
  have hne : ∀ x, x < b + 6 → w5.heap[x]? = wr.heap[x]? := fun x hx => by
    refine (hg.block x (by simp; omega) (fun e => ?_)).trans (Below.heap_alloc wr _ x (by omega))
    have := hs x e.symm
    omega
  have hss : wr.heap.size ≤ w5.heap.size := Nat.le_trans (by simp) hg.size
  exact ⟨⟨hg.os.trans h.bel.os, hg.tape.trans h.bel.tape, hg.output.trans h.bel.output, Nat.le_trans h.bel.size hss, fun x hx => (hne x (by omega)).trans (h.bel.block x hx)⟩, hne _ (by omega), hne _ (by omega), hne _ (by omega), hne _ (by omega), hne _ (by omega), hne _ (by omega), hne _ (by omega), by omega⟩

/-- A number more. -/
theorem WyI.push {w wr : World} {b a n k : Nat} {f : Nat → Nat} {fv : Value} {g : List Int} {m : Int} (h : WyI w b a n k f fv g m wr) (z : Int) :
    ∃ so sc, wr.cell? ⟨b + 4, 0, none⟩ = some (.slice so g.length sc) ∧ wr.ownsRow (b + 6) 3 1 (.slice so g.length sc) g.length (ints g) ∧ ∀ v' w5, w5.ownsRow (b + 6) 3 1 v' (g.length + 1) (ints g ++ [.int .i64 z]) → (wr.alloc (.cells #[.int .i64 z] 3)).grownBy w5 (Value.slice so g.length sc).ownBlock → w5.cell? ⟨b + 4, 0, none⟩ = some (.slice so g.length sc) ∧ w5.frozen? ⟨b + 4, 0, none⟩ = false ∧ WyI w b a n k f fv (g ++ [z]) m (w5.setCell ⟨b + 4, 0, none⟩ v') := by
  obtain ⟨sv, h1, h2⟩ := h.gv
  obtain ⟨so, sc, rfl⟩ := owns_form h2
  refine ⟨so, sc, by simp [World.cell?, h1], h2, fun v' w5 ho hg => ?_⟩
  obtain ⟨g1, g2, g3, g4, g5, g6, g7, g8, g9⟩ := h.grown (sv := .slice so g.length sc) (fun x hx => (h2.lt x hx).1) hg
  have hb5 := g6.trans h1
  have hI : WyI w b a n k f fv [] m (w5.setCell ⟨b + 4, 0, none⟩ (.slice none 0 0)) := by
    have hal := h.al
    have hlo := h.lo
    have hk : ∀ x, x ≠ b + 4 → (w5.setCell ⟨b + 4, 0, none⟩ (.slice none 0 0)).heap[x]? = w5.heap[x]? := fun x hx => Below.heap_setCell _ _ _ _ hx
    refine ⟨hlo, hal, below_set g1 (by show _ ≤ b + 4; omega), (hk _ (by omega)).trans (g2.trans h.ab), (hk _ (by omega)).trans (g3.trans h.kb), (hk _ (by omega)).trans (g4.trans h.fb), (hk _ (by omega)).trans (g5.trans h.mn), ⟨.slice none 0 0, ?_, World.ownsRow_nil _ _ _ _⟩, (hk _ (by omega)).trans (g7.trans h.fn), World.rowIs.setOther (World.rowIs.of_block h.ar g8) (by show a ≠ b + 4; omega) _, by simp only [World.setCell, Array.size_modify]; exact g9⟩
    simp [World.setCell, Array.getElem?_modify, hb5]
  refine ⟨by simp [World.cell?, hb5], by simp [World.frozen?, hb5], ?_⟩
  have e1 : ints (g ++ [z]) = ints g ++ [.int .i64 z] := by simp [ints]
  have hal := h.al
  have hlo := h.lo
  have hk : ∀ x, x ≠ b + 4 → (w5.setCell ⟨b + 4, 0, none⟩ v').heap[x]? = w5.heap[x]? := fun x hx => Below.heap_setCell _ _ _ _ hx
  refine ⟨hlo, hal, below_set g1 (by show _ ≤ b + 4; omega), (hk _ (by omega)).trans (g2.trans h.ab), (hk _ (by omega)).trans (g3.trans h.kb), (hk _ (by omega)).trans (g4.trans h.fb), (hk _ (by omega)).trans (g5.trans h.mn), ⟨v', ?_, ?_⟩, (hk _ (by omega)).trans (g7.trans h.fn), World.rowIs.setOther (World.rowIs.of_block h.ar g8) (by show a ≠ b + 4; omega) _, by simp only [World.setCell, Array.size_modify]; exact g9⟩
  · simp [World.setCell, Array.getElem?_modify, hb5]
  · rw [e1, List.length_append, List.length_singleton]
    refine ⟨ho.1, ?_⟩
    rcases ho.2 with q1 | ⟨x, cap, cur, f1, f2, f3, f4⟩
    · exact .inl q1
    · exact .inr ⟨x, cap, cur, f1, f2, (hk _ (by omega)).trans f3, f4⟩

theorem owns_pop {B m : Nat} {w : World} {so : Option Addr} {sc : Nat} {xs : List Value} {x : Value} (h : w.ownsRow B 3 1 (.slice so (m + 1) sc) (m + 1) (xs ++ [x])) (hm : xs.length = m) : w.ownsRow B 3 1 (.slice so m sc) m xs := by
  refine ⟨by simp [hm], ?_⟩
  rcases h.2 with ⟨_, h0⟩ | ⟨g, cap, cur, f1, f2, f3, f4, f5, f6, f7⟩
  · omega
  · simp only [Value.slice.injEq] at f1
    obtain ⟨rfl, -, rfl⟩ := f1
    refine .inr ⟨g, _, cur, rfl, f2, f3, by omega, f5, f6, ?_⟩
    have : (cur.toList.take ((m + 1) * 1)).take (m * 1) = (xs ++ [x]).take (m * 1) := by rw [f7]
    rw [List.take_take, Nat.min_eq_left (by omega)] at this
    rw [this, Nat.mul_one, ← hm]
    simp

/-- The last number taken back. -/
theorem WyI.pop {w wr : World} {b a n k : Nat} {f : Nat → Nat} {fv : Value} {g : List Int} {z m : Int} (h : WyI w b a n k f fv (g ++ [z]) m wr) :
    ∃ so sc, wr.cell? ⟨b + 4, 0, none⟩ = some (.slice so (g.length + 1) sc) ∧ g.length + 1 ≤ sc ∧ sc ≤ maxLen ∧ wr.frozen? ⟨b + 4, 0, none⟩ = false ∧ WyI w b a n k f fv g m (wr.setCell ⟨b + 4, 0, none⟩ (.slice so g.length sc)) := by
  obtain ⟨sv, h1, h2⟩ := h.gv
  rw [List.length_append, List.length_singleton] at h2
  obtain ⟨so, sc, rfl⟩ := owns_form h2
  have e1 : ints (g ++ [z]) = ints g ++ [.int .i64 z] := by simp [ints]
  have h3 : g.length + 1 ≤ sc ∧ sc ≤ maxLen := by
    rcases h2.2 with ⟨_, h0⟩ | ⟨x, cap, cur, f1, f2, f3, f4, f5, f6, f7⟩
    · omega
    · simp only [Value.slice.injEq] at f1
      omega
  refine ⟨so, sc, by simp [World.cell?, h1], h3.1, h3.2, by simp [World.frozen?, h1], h.give ?_⟩
  rw [e1] at h2
  exact owns_pop h2 (by simp)

end Go.Proofs.YtcmemhdlendlkaaDoor
