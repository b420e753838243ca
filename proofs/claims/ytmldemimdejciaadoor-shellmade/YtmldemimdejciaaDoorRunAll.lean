import Derived.Test.YtmldemimdejciaaDoorRun1
import Derived.Test.YtmldemimdejciaaDoorStepsAll
import Derived.Test.YtmldemimdejciaaDoorLinAll
import Derived.Deep.DrawnRows
import Derived.Maps.AppendAt
import Derived.BigRegion
/- The program's elimination: one row cleared. -/
namespace Go.Proofs.YtmldemimdejciaaDoor
open Go.RowKit
attribute [local go_sem ↓] Go.wp_at_zero Go.wp_at_succ

/-- Nothing but block g has been written. -/
structure Touch (g : Nat) (w w' : World) : Prop where
  os : w'.os = w.os
  tape : w'.tape = w.tape
  output : w'.output = w.output
  size : w'.heap.size = w.heap.size
  block : ∀ b, b ≠ g → w'.heap[b]? = w.heap[b]?

theorem Touch.refl (g : Nat) (w : World) : Touch g w w := ⟨rfl, rfl, rfl, rfl, fun _ _ => rfl⟩
theorem Touch.drewN {g : Nat} {w w' : World} (h : Touch g w w') (n : Nat) : Touch g w (w'.drewN n) := ⟨h.os, h.tape, h.output, h.size, h.block⟩
theorem Touch.drew {g : Nat} {w w' : World} (h : Touch g w w') : Touch g w w'.drew := ⟨h.os, h.tape, h.output, h.size, h.block⟩
theorem Touch.setCell {g : Nat} {w w' : World} (h : Touch g w w') (j : Nat) (u : Value) : Touch g w (w'.setCell ⟨g, j, none⟩ u) :=
  ⟨h.os, h.tape, h.output, by simp [World.setCell, h.size], fun b hb => (Below.heap_setCell _ _ _ _ hb).trans (h.block b hb)⟩
theorem Touch.cell {g : Nat} {w w' : World} (h : Touch g w w') {a : Addr} (ha : a.block ≠ g) : w'.cell? a = w.cell? a := World.cell?_of_block (w := w) (h.block _ ha)
theorem Touch.owns {g B n : Nat} {e : TypeId} {w w' : World} {v : Value} {xs : List Value} (h : Touch g w w') (ho : w.ownsRow B e 1 v n xs) (hv : v.ownBlock ≠ some g) : w'.ownsRow B e 1 v n xs := by
  obtain ⟨h1, h2⟩ := ho
  refine ⟨h1, ?_⟩
  rcases h2 with h2 | ⟨k, cap, cur, rfl, hb, hh, r⟩
  · exact Or.inl h2
  · exact Or.inr ⟨k, cap, cur, rfl, hb, (h.block k (fun e => hv (by simp [Value.ownBlock, e]))).trans hh, r⟩

/-- The quotient that comes out even. -/
theorem quo_even {k r t p d q : Int} (hd : d ≠ 0) (he : k * r - t * p = d * q) (hb : -9223372036854775808 < d * q ∧ d * q ≤ 9223372036854775807) (hq : -9223372036854775808 ≤ q ∧ q ≤ 9223372036854775807) :
    wrap64 ((wrap64 (wrap64 (k * r) - wrap64 (t * p))).tdiv d) = q := by
  have e1 : wrap64 (wrap64 (k * r) - wrap64 (t * p)) = d * q := by
    have e2 : wrap64 (wrap64 (k * r) - wrap64 (t * p)) = wrap64 (k * r - t * p) := by unfold wrap64; omega
    rw [e2, he]
    exact IntWalk.wrap64_in _ ⟨by omega, by omega⟩
  rw [e1, Int.mul_tdiv_cancel_left q hd]
  exact IntWalk.wrap64_in _ hq

end Go.Proofs.YtmldemimdejciaaDoor

/- The program's elimination: a column looked through. -/
namespace Go.Proofs.YtmldemimdejciaaDoor
open Go.RowKit

/-- The first row with a number that is not 0 at q, or -1. -/
def findR (m : List (List Int)) (q : Nat) : Int := if m.any (fun r => r.getD q 0 != 0) then (m.findIdx (fun r => r.getD q 0 != 0) : Int) else -1

theorem anyR_snoc {p : List Int → Bool} {l : List (List Int)} {k : Nat} (h : k < l.length) (h0 : (l.take k).any p = false) : (l.take (k + 1)).any p = p (l.getD k []) := by
  rw [List.take_succ_eq_append_getElem h, List.any_append, h0]; simp [h]

theorem findR_hit {l : List (List Int)} {q k : Nat} (h : k < l.length) (h0 : (l.take k).any (fun r => r.getD q 0 != 0) = false) (h1 : ((l.getD k []).getD q 0 != 0) = true) : findR l q = k := by
  have hk : l.getD k [] = l[k] := by simp [h]
  have ha : l.any (fun r => r.getD q 0 != 0) = true := List.any_eq_true.2 ⟨l[k], List.getElem_mem h, by rw [← hk]; exact h1⟩
  have hi : l.findIdx (fun r => r.getD q 0 != 0) = k := by
    rw [List.findIdx_eq h]
    refine ⟨by rw [← hk]; exact h1, fun j hj => ?_⟩
    have := List.any_eq_false.1 h0 l[j] (by rw [List.mem_take_iff_getElem]; exact ⟨j, by omega, rfl⟩)
    simpa using this
  unfold findR; rw [ha, hi]; rfl

theorem findR_none {l : List (List Int)} {q : Nat} (h0 : l.any (fun r => r.getD q 0 != 0) = false) : findR l q = -1 := by
  unfold findR; rw [h0]; rfl

def rowsOf (n c : Nat) (mat : Nat → Nat → Int) : List (List Int) := (List.range n).map fun i => (List.range c).map (mat i)

end Go.Proofs.YtmldemimdejciaaDoor

/- The program's elimination: one pivot. -/
namespace Go.Proofs.YtmldemimdejciaaDoor
open Go.RowKit
attribute [local go_sem ↓] Go.wp_at_zero Go.wp_at_succ

theorem mat_empty (B : Nat) (w : World) (a : Addr) (cap : Nat) (h : cap ≤ maxLen) : Mat B 26 3 w (.slice (some a) 0 cap) [] :=
  ⟨[], rfl, ⟨some a, cap, rfl, by simp, h, fun i hi => absurd hi (by simp), fun h => by cases h⟩, fun i hi => absurd hi (by simp)⟩

theorem rows_find_none {n c q k : Nat} {mat : Nat → Nat → Int} (hq : q < c) (hz : ∀ i, k ≤ i → i < n → mat i q = 0) : findR ((rowsOf n c mat).drop k) q = -1 := by
  apply findR_none
  rw [List.any_eq_false]
  intro r hr
  obtain ⟨i, hi, rfl⟩ := List.mem_iff_getElem.1 hr
  have hi' : k + i < n := by simp [rowsOf] at hi; omega
  have := hz (k + i) (by omega) hi'
  simp [rowsOf, hq, this]

theorem rows_len {n c q k : Nat} {mat : Nat → Nat → Int} (hq : q < c) : ∀ r ∈ (rowsOf n c mat).drop k, q < r.length := by
  intro r hr
  have := List.mem_of_mem_drop hr
  simp only [rowsOf, List.mem_map] at this
  obtain ⟨i, _, rfl⟩ := this
  simpa using hq

end Go.Proofs.YtmldemimdejciaaDoor

/- The program's elimination: a pivot found. -/
namespace Go.Proofs.YtmldemimdejciaaDoor
open Go.RowKit
attribute [local go_sem ↓] Go.wp_at_zero Go.wp_at_succ

/-- Two places changed. -/
def sw (k i0 i : Nat) : Nat := if i = k then i0 else if i = i0 then k else i

theorem sw_lt {k i0 i n : Nat} (hk : k < n) (hi0 : i0 < n) (hi : i < n) : sw k i0 i < n := by
  unfold sw; split
  · exact hi0
  · split
    · exact hk
    · exact hi

theorem sw_inj {k i0 i j : Nat} (h : i ≠ j) : sw k i0 i ≠ sw k i0 j := by
  unfold sw; grind

theorem sw_self (k i : Nat) : sw k k i = i := by unfold sw; by_cases h : i = k <;> simp [h]

theorem rows_find {n c q k f : Nat} {mat : Nat → Nat → Int} (hq : q < c) (hf : k + f < n) (hz : ∀ i, k ≤ i → i < k + f → mat i q = 0) (hne : mat (k + f) q ≠ 0) : findR ((rowsOf n c mat).drop k) q = f := by
  have hg : ∀ i, i < n - k → ((rowsOf n c mat).drop k).getD i [] = (List.range c).map (mat (k + i)) := by
    intro i hi; simp [rowsOf, show k + i < n by omega]
  refine findR_hit (by simp [rowsOf]; omega) ?_ ?_
  · rw [List.any_eq_false]
    intro r hr
    rw [List.mem_take_iff_getElem] at hr
    obtain ⟨i, hi, rfl⟩ := hr
    have hi1 : i < f := by omega
    have := hz (k + i) (by omega) (by omega)
    simp [rowsOf, hq, this]
  · rw [hg f (by omega)]; simp [hq, hne]

end Go.Proofs.YtmldemimdejciaaDoor

/- The program's elimination: what a pivot's steps leave in memory. -/
namespace Go.Proofs.YtmldemimdejciaaDoor
open Go.RowKit

theorem step_append_at {P : Program} {ops : Array Oper} {o : Oper} {a : Act} {w : World} {K : Act → World → Prop} {Q : Exit → Act → World → Prop} {E : Prop}
    (hg : o.guard = none) (s x : Operand) (t : TypeId) (hop : o.op = Op.call { callee := Callee.builtin Builtin.append, args := #[s, x], argTypes := #[t, t] })
    (base : Nat) (e : TypeId) (i : TypeInfo) (z : Value) (size bytes : Nat) (h1 : P.underlying t = some (.slice e)) (h2 : P.info? e = some i) (h3 : i.zero = some z) (h4 : i.size = size) (h5 : i.bytes = bytes) (h6 : z.cells.size = size) (h7 : 0 < size)
    (v : Value) (n : Nat) (xs : List Value) (hs : a.eval s = v) (hown : w.ownsRow base e size v n xs)
    (ad : Addr) (m c : Nat) (news : List Value) (hx : a.eval x = .slice (some ad) m c) (hn : news.length = m * size) (hc : ∀ j u, news[j]? = some u → w.cell? (ad.add j) = some u) (h1c : ∀ u ∈ news, u.oneCell' = true)
    (b1 : n + m ≤ maxLen) (b2 : (n + m) * bytes ≤ 140737488355328) (hb : base ≤ w.heap.size)
    (hK : ∀ v' w', w'.ownsRow base e size v' (n + m) (xs ++ news) → w.grownBy w' v.ownBlock → (v'.ownBlock = v.ownBlock ∨ v'.ownBlock = some w.heap.size) → K (a.put o.dst v') w') :
    if Region.wanted o (yielded ops a.tmps) = true then Oper.wp P o a w K Q else E := by
  have hw : Region.wanted o (yielded ops a.tmps) = true := by simp [Region.wanted, hg]
  rw [if_pos hw]
  obtain ⟨v', w', hrun, r1, r2, _, r4⟩ := run_append_own_at (P := P) w base t o.type e i z size bytes h1 h2 h3 h4 h5 h6 h7 v n xs hown ad m c news hn hc h1c b1 b2 hb
  unfold Oper.wp
  simp [execOp, hop, resolve, invoke, builtin, hs, hx, hrun, Result.andThen]
  exact hK v' w' r1 r2 r4

end Go.Proofs.YtmldemimdejciaaDoor

/- The program's elimination: a pivot found, walked. -/
namespace Go.Proofs.YtmldemimdejciaaDoor
open Go.RowKit
attribute [local go_sem ↓] Go.wp_at_zero Go.wp_at_succ

/-- The matrix while rows are cleared: t of them are. -/
def matL (k i0 t : Nat) (mat nm : Nat → Nat → Int) : Nat → Nat → Int := fun a j => if a = k then mat i0 j else if a < t then nm a j else mat (sw k i0 a) j

theorem matL_step {k i0 t : Nat} {mat nm : Nat → Nat → Int} (h : t ≠ k) (i j : Nat) : (if i = t then nm t j else matL k i0 t mat nm i j) = matL k i0 (t + 1) mat nm i j := by
  unfold matL; grind

theorem swap_below {B k i0 R go : Nat} {w wr : World} {a b s : Value} (h : Below B w wr) (h1 : B ≤ go) (h2 : B ≤ R) : Below B w (((wr.setCell ⟨go, k, none⟩ a).setCell ⟨go, i0, none⟩ b).setCell ⟨R, 3, none⟩ s) :=
  ((h.setCell (by exact h1) _).setCell (by exact h1) _).setCell (by exact h2) _

end Go.Proofs.YtmldemimdejciaaDoor

/- Elimination, step by step, with exchanges of rows. -/
namespace Go.Proofs.YtmldemimdejciaaDoor.Lin

theorem srows_congr {M M' : Nat → Nat → Int} {k : Nat} (hM : ∀ i, i < k → M i = M' i) : srows M k = srows M' k :=
  List.map_congr_left fun i hi => hM i (by simpa using hi)

theorem dk_congr {M M' : Nat → Nat → Int} {C C' : Nat → Nat} {k : Nat} (hM : ∀ i, i < k → M i = M' i) (hC : ∀ b, b < k → C b = C' b) : dk M C k = dk M' C' k := by
  unfold dk
  rw [srows_congr hM]
  refine od_congr (by simp [cols]) (fun i hi b hb => ?_) _
  have hi' : i < (srows M' k).length := by simpa [cols] using hi
  have e := cols_row (C := C) hi'
  have e' := cols_row (C := C') hi'
  unfold row at e e'
  rw [e, e']; show _ = _; simp only [hC b hb]

theorem posn_congr {C C' : Nat → Nat} {k : Nat} (hC : ∀ b, b < k → C b = C' b) (j : Nat) : posn C k j = posn C' k j := by
  funext b
  unfold posn
  by_cases h : b < k
  · simp [h, hC b h]
  · simp [h]

theorem rho_congr2 {M M' : Nat → Nat → Int} {C C' : Nat → Nat} {k : Nat} (hM : ∀ i, i < k → M i = M' i) (hC : ∀ b, b < k → C b = C' b) (u : Nat → Int) (j : Nat) : rho M C k u j = rho M' C' k u j := by
  unfold rho
  rw [srows_congr hM, posn_congr hC]

theorem rr_congr {M M' : Nat → Nat → Int} {C C' : Nat → Nat} {k i : Nat} (hM : ∀ i, i < k → M i = M' i) (hC : ∀ b, b < k → C b = C' b) (hi : M i = M' i) (j : Nat) : rr M C k i j = rr M' C' k i j := by
  unfold rr
  rw [dk_congr hM hC, hi, rho_congr2 hM hC, rho_congr2 hM hC]
  by_cases h : i < k
  · rw [if_pos h, if_pos h, hC i h]
  · rw [if_neg h, if_neg h]

/-- Elimination of the first q columns has come to this. -/
structure Red (M : Nat → Nat → Int) (n q : Nat) (M' : Nat → Nat → Int) (C : Nat → Nat) (k : Nat) (sgn : Int) : Prop where
  done : Done M' n q k C
  sub : ∀ i, i < n → ∃ i', i' < n ∧ M' i = M i'
  sup : ∀ i, i < n → ∃ i', i' < n ∧ M i = M' i'
  sign : od n (srows M' n) (fun _ => false) = sgn * od n (srows M n) (fun _ => false)
  one : sgn = 1 ∨ sgn = -1

theorem Red.start (M : Nat → Nat → Int) (n : Nat) (C : Nat → Nat) : Red M n 0 M C 0 1 :=
  ⟨⟨Nat.zero_le _, ⟨fun _ b _ hb => absurd hb (by omega), fun b hb => absurd hb (by omega)⟩, by simp [dk, cols, srows, od], fun _ _ _ j hj => absurd hj (by omega)⟩,
    fun i hi => ⟨i, hi, rfl⟩, fun i hi => ⟨i, hi, rfl⟩, by simp, Or.inl rfl⟩

theorem Red.none {M : Nat → Nat → Int} {n q : Nat} {M' : Nat → Nat → Int} {C : Nat → Nat} {k : Nat} {sgn : Int} (h : Red M n q M' C k sgn) (hz : ∀ i, k ≤ i → i < n → rr M' C k i q = 0) : Red M n (q + 1) M' C k sgn := by
  refine ⟨⟨h.done.kn, ⟨h.done.rise.1, fun b hb => by have := h.done.rise.2 b hb; omega⟩, h.done.nz, fun i h1 h2 j hj => ?_⟩, h.sub, h.sup, h.sign, h.one⟩
  by_cases e : j = q
  · subst e; exact hz i h1 h2
  · exact h.done.zero i h1 h2 j (by omega)

theorem od_sw {M : Nat → Nat → Int} {n k i0 : Nat} (h1 : k < i0) (h2 : i0 < n) (U : Nat → Bool) : od n (srows (fun i => M (sw k i0 i)) n) U = - od n (srows M n) U := by
  obtain ⟨A, B, D, x, y, hL, hA, hB⟩ := split_two (L := srows M n) h1 (by rw [srows_length]; exact h2)
  have hx : (srows M n)[k]? = some (M k) := by simp [srows, show k < n by omega]
  have hy : (srows M n)[i0]? = some (M i0) := by simp [srows, h2]
  have ex : x = M k := by
    rw [hL, List.getElem?_append_right (by omega)] at hx
    simpa [hA] using hx
  have ey : y = M i0 := by
    rw [hL, List.getElem?_append_right (by omega), show i0 - A.length = B.length + 1 by omega, List.getElem?_cons_succ, List.getElem?_append_right (by omega)] at hy
    simpa using hy
  have e : srows (fun i => M (sw k i0 i)) n = A ++ y :: (B ++ x :: D) := by
    have e1 : ((srows M n).set k y).set i0 x = A ++ y :: (B ++ x :: D) := by
      rw [hL, set_at hA]
      have : A ++ y :: (B ++ y :: D) = (A ++ y :: B) ++ y :: D := by simp
      rw [this, set_at (by simp; omega)]
      simp
    rw [← e1, ex, ey]
    apply List.ext_getElem?
    intro i
    rw [List.getElem?_set, List.getElem?_set]
    by_cases a1 : i0 = i
    · subst a1; simp [srows, h2, sw, show ¬ i0 = k by omega]
    · by_cases a2 : k = i
      · subst a2; simp [srows, show k < n by omega, sw, a1]
      · have a1' : ¬ i = i0 := fun h => a1 h.symm
        have a2' : ¬ i = k := fun h => a2 h.symm
        rw [if_neg a1, if_neg a2]
        by_cases hin : i < n
        · simp [srows, hin, sw, a1', a2']
        · rw [List.getElem?_eq_none (by simp [srows]; omega), List.getElem?_eq_none (by simp [srows]; omega)]
  rw [e, od_change, ← hL]

def sC (C : Nat → Nat) (k q : Nat) : Nat → Nat := fun b => if b = k then q else C b

theorem Red.some {M : Nat → Nat → Int} {n q : Nat} {M' : Nat → Nat → Int} {C : Nat → Nat} {k f : Nat} {sgn : Int} (h : Red M n q M' C k sgn) (hf : k + f < n) (hne : rr M' C k (k + f) q ≠ 0) :
    Red M n (q + 1) (fun i => M' (sw k (k + f) i)) (sC C k q) (k + 1) (if f = 0 then sgn else -sgn) ∧
    dk (fun i => M' (sw k (k + f) i)) (sC C k q) (k + 1) = rr M' C k (k + f) q ∧
    (∀ i, i ≠ k → ∀ j, rr M' C k (k + f) q * rr M' C k (sw k (k + f) i) j - rr M' C k (sw k (k + f) i) q * rr M' C k (k + f) j = dk M' C k * rr (fun i => M' (sw k (k + f) i)) (sC C k q) (k + 1) i j) ∧
    (∀ j, rr (fun i => M' (sw k (k + f) i)) (sC C k q) (k + 1) k j = rr M' C k (k + f) j) ∧ dk (fun i => M' (sw k (k + f) i)) (sC C k q) k = dk M' C k := by
  have hM : ∀ i, i < k → (fun i => M' (sw k (k + f) i)) i = M' i := by
    intro i hi; show M' (sw k (k + f) i) = M' i; unfold sw; rw [if_neg (by omega), if_neg (by omega)]
  have hC : ∀ b, b < k → sC C k q b = C b := by intro b hb; unfold sC; rw [if_neg (by omega)]
  have hCk : sC C k q k = q := by simp [sC]
  have hdk : dk (fun i => M' (sw k (k + f) i)) (sC C k q) k = dk M' C k := dk_congr hM hC
  have hrr : ∀ i j, rr (fun i => M' (sw k (k + f) i)) (sC C k q) k i j = rr M' C k (sw k (k + f) i) j := by
    intro i j
    by_cases hi : i < k
    · rw [rr_congr hM hC (hM i hi)]
      congr 1; unfold sw; rw [if_neg (by omega), if_neg (by omega)]
    · have hs : ¬ sw k (k + f) i < k := by unfold sw; split <;> (try split) <;> omega
      unfold rr
      rw [if_neg hi, if_neg hs, rho_congr2 hM hC]
  have hswk : sw k (k + f) k = k + f := by simp [sw]
  have hd1 : dk (fun i => M' (sw k (k + f) i)) (sC C k q) (k + 1) = rr M' C k (k + f) q := by
    have e := hrr k q
    rw [hswk] at e
    rw [dk_succ, hCk, ← e]; unfold rr; rw [if_neg (by omega)]
  have hnz : dk (fun i => M' (sw k (k + f) i)) (sC C k q) (k + 1) ≠ 0 := by rw [hd1]; exact hne
  have hCn : ∀ b, b < k → sC C k q b ≠ sC C k q k := by
    intro b hb; rw [hC b hb, hCk]; have := h.done.rise.2 b hb; omega
  have hstep : ∀ i, i ≠ k → ∀ j, rr M' C k (k + f) q * rr M' C k (sw k (k + f) i) j - rr M' C k (sw k (k + f) i) q * rr M' C k (k + f) j = dk M' C k * rr (fun i => M' (sw k (k + f) i)) (sC C k q) (k + 1) i j := by
    intro i hi j
    have := rr_step hnz hCn hi j
    rw [hrr, hrr, hrr, hrr, hCk, hswk, hdk] at this
    exact this
  refine ⟨⟨⟨hf |> fun h => by omega, ⟨fun a b hab hb => ?_, fun b hb => ?_⟩, hnz, fun i h1 h2 j hj => ?_⟩, fun i hi => ?_, fun i hi => ?_, ?_, ?_⟩, hd1, hstep, fun j => ?_, hdk⟩
  · by_cases e : b = k
    · subst e; rw [hCk, hC a hab]; exact h.done.rise.2 a hab
    · rw [hC a (by omega), hC b (by omega)]; exact h.done.rise.1 a b hab (by omega)
  · by_cases e : b = k
    · subst e; rw [hCk]; omega
    · rw [hC b (by omega)]; have := h.done.rise.2 b (by omega); omega
  · have hs := hstep i (by omega) j
    have hk1 : k ≤ sw k (k + f) i := by unfold sw; split <;> (try split) <;> omega
    have hk2 : sw k (k + f) i < n := sw_lt (by omega) hf h2
    have hz : dk M' C k * rr (fun i => M' (sw k (k + f) i)) (sC C k q) (k + 1) i j = 0 := by
      rw [← hs]
      by_cases e : j = q
      · subst e; rw [Int.mul_comm]; omega
      · rw [h.done.zero _ hk1 hk2 j (by omega), h.done.zero (k + f) (by omega) hf j (by omega)]; simp
    rcases Int.mul_eq_zero.1 hz with e | e
    · exact absurd e h.done.nz
    · exact e
  · exact h.sub _ (sw_lt (by omega) hf hi)
  · obtain ⟨i', h1, h2⟩ := h.sup i hi
    refine ⟨sw k (k + f) i', sw_lt (by omega) hf h1, ?_⟩
    rw [h2]
    show M' i' = M' (sw k (k + f) (sw k (k + f) i'))
    congr 1
    unfold sw; grind
  · by_cases e : f = 0
    · subst e
      rw [if_pos rfl, ← h.sign]
      congr 1
      exact srows_congr fun i _ => by show M' (sw k (k + 0) i) = M' i; rw [Nat.add_zero, sw_self]
    · rw [if_neg e, od_sw (by omega) hf, h.sign]; grind
  · have := h.one
    by_cases e : f = 0 <;> simp [e] <;> omega
  · have hnk : dk (fun i => M' (sw k (k + f) i)) (sC C k q) k ≠ 0 := by rw [hdk]; exact h.done.nz
    rw [rr_own hnk hnz hCn j, hrr, hswk]

end Go.Proofs.YtmldemimdejciaaDoor.Lin

/- The program's elimination: a column, with what it leaves told by minors. -/
namespace Go.Proofs.YtmldemimdejciaaDoor
open Go.RowKit Lin

/-- What keeps the numbers within an int. -/
def Bd (M : Nat → Nat → Int) (n c : Nat) : Prop := ∀ q M' C k sgn, q ≤ c → Red M n q M' C (k + 1) sgn → ∀ i, i < n → ∀ j, j < c →
  (dk M' C k * rr M' C (k + 1) i j).natAbs ≤ 9223372036854775807 ∧ (rr M' C (k + 1) i j).natAbs ≤ 9223372036854775807

theorem range_congr {k q : Nat} {C : Nat → Nat} : ((List.range (k + 1)).map fun b => (sC C k q b : Int)) = ((List.range k).map fun b => (C b : Int)) ++ [(q : Int)] := by
  rw [List.range_succ, List.map_append]
  congr 1
  · refine List.map_congr_left fun b hb => ?_
    have : b < k := by simpa using hb
    unfold sC; rw [if_neg (by omega)]
  · simp [sC]

theorem find_first {n k : Nat} (p : Nat → Int) : (∀ i, k ≤ i → i < n → p i = 0) ∨ ∃ f, k + f < n ∧ p (k + f) ≠ 0 ∧ ∀ i, k ≤ i → i < k + f → p i = 0 := by
  by_cases h : ∀ i, k ≤ i → i < n → p i = 0
  · exact Or.inl h
  · refine Or.inr ?_
    have h' : ∃ i, k ≤ i ∧ i < n ∧ p i ≠ 0 := by
      apply Classical.byContradiction
      intro hn
      apply h
      intro i h1 h2
      apply Classical.byContradiction
      intro h3
      exact hn ⟨i, h1, h2, h3⟩
    have hf : ∃ f, k + f < n ∧ p (k + f) ≠ 0 := by
      obtain ⟨i, h1, h2, h3⟩ := h'
      exact ⟨i - k, by omega, by rw [show k + (i - k) = i by omega]; exact h3⟩
    have ind : ∀ m f, f < m → k + f < n → p (k + f) ≠ 0 → ∃ f, k + f < n ∧ p (k + f) ≠ 0 ∧ ∀ i, k ≤ i → i < k + f → p i = 0 := by
      intro m
      induction m with
      | zero => intro f h; omega
      | succ m ih =>
        intro f hf h1 h2
        by_cases h3 : ∀ i, k ≤ i → i < k + f → p i = 0
        · exact ⟨f, h1, h2, h3⟩
        · have : ∃ i, k ≤ i ∧ i < k + f ∧ p i ≠ 0 := by
            apply Classical.byContradiction
            intro hn
            apply h3
            intro i a1 a2
            apply Classical.byContradiction
            intro a3
            exact hn ⟨i, a1, a2, a3⟩
          obtain ⟨i, a1, a2, a3⟩ := this
          exact ih (i - k) (by omega) (by omega) (by rw [show k + (i - k) = i by omega]; exact a3)
    obtain ⟨f, h1, h2⟩ := hf
    exact ind (f + 1) f (by omega) h1 h2

end Go.Proofs.YtmldemimdejciaaDoor

/- The program's elimination, whole. -/
namespace Go.Proofs.YtmldemimdejciaaDoor
open Go.RowKit Lin
attribute [local go_sem ↓] Go.wp_at_zero Go.wp_at_succ

theorem alloc_at (w : World) (o : Obj) : (w.alloc o).heap[w.heap.size]? = some o := by
  show (w.heap.push o)[w.heap.size]? = _
  simp

def mOf (m : List (List Int)) : Nat → Nat → Int := fun i j => (m.getD i []).getD j 0

theorem row_range {m : List (List Int)} {c t : Nat} (hw : ∀ r ∈ m, r.length = c) (ht : t < m.length) : (List.range c).map (mOf m t) = m.getD t [] := by
  have hl : (m.getD t []).length = c := by
    rw [List.getD_eq_getElem?_getD, List.getElem?_eq_getElem ht]; exact hw _ (List.getElem_mem ht)
  apply List.ext_getElem?
  intro j
  by_cases hj : j < c
  · rw [List.getElem?_map, List.getElem?_range hj]
    unfold mOf
    show some ((m.getD t []).getD j 0) = (m.getD t [])[j]?
    rw [List.getD_eq_getElem?_getD (l := m.getD t []), List.getElem?_eq_getElem (show j < (m.getD t []).length by omega)]; rfl
  · rw [List.getElem?_eq_none (by simp; omega), List.getElem?_eq_none (by omega)]

theorem own_some {B n : Nat} {e : TypeId} {w : World} {u : Value} {xs : List Value} (h : w.ownsRow B e 1 u n xs) (hn : 0 < n) : ∃ g uc, u = .slice (some ⟨g, 0, none⟩) n uc := by
  rcases h.2 with ⟨_, e⟩ | ⟨g, cap, cur, e, _⟩
  · omega
  · exact ⟨g, cap, e⟩

end Go.Proofs.YtmldemimdejciaaDoor

/- The program's differences of points. -/
namespace Go.Proofs.YtmldemimdejciaaDoor
open Go.RowKit
attribute [local go_sem ↓] Go.wp_at_zero Go.wp_at_succ

/-- One list less another one. -/
def subL (r b : List Int) : List Int := (List.range r.length).map fun i => r.getD i 0 - b.getD i 0

/-- What the points behind the first one have more than it. -/
def diffL (m : List (List Int)) : List (List Int) := (m.drop 1).map fun r => subL r (m.getD 0 [])

theorem subL_length (r b : List Int) : (subL r b).length = r.length := by simp [subL]
theorem diffL_length (m : List (List Int)) : (diffL m).length = m.length - 1 := by simp [diffL]

theorem subL_at {r b : List Int} {k : Nat} (h : k < r.length) : (subL r b).getD k 0 = r.getD k 0 - b.getD k 0 := by simp [subL, h]

theorem diffL_snoc (m : List (List Int)) (k : Nat) (h : k + 1 < m.length) : (diffL m).take (k + 1) = (diffL m).take k ++ [subL (m.getD (k + 1) []) (m.getD 0 [])] := by
  rw [List.take_succ_eq_append_getElem (by rw [diffL_length]; omega)]
  have e : (diffL m)[k]'(by rw [diffL_length]; omega) = subL (m.getD (k + 1) []) (m.getD 0 []) := by
    have h1 : m[1 + k]? = some (m[1 + k]'(by omega)) := List.getElem?_eq_getElem (by omega)
    simp only [diffL, List.getElem_map, List.getElem_drop, List.getD_eq_getElem?_getD]
    rw [show k + 1 = 1 + k by omega, h1]; rfl
  rw [e]

theorem set_mix {r nr : List Int} {k : Nat} (hl : r.length = nr.length) (hk : k < r.length) : ints (nr.take (k + 1) ++ r.drop (k + 1)) = (ints (nr.take k ++ r.drop k)).set k (.int .i64 (nr.getD k 0)) := by
  apply List.ext_getElem?
  intro i
  rw [List.getElem?_set, ints_length]
  simp only [ints, List.getElem?_map]
  by_cases hik : i < k
  · rw [List.getElem?_append_left (by simp; omega), List.getElem?_append_left (by simp; omega), if_neg (by omega)]
    simp [hik, show i < k + 1 by omega]
  · by_cases hik2 : i = k
    · subst hik2
      rw [List.getElem?_append_left (by simp; omega), if_pos rfl, if_pos (by simp; omega)]
      simp [show i < nr.length by omega]
    · rw [List.getElem?_append_right (by simp; omega), List.getElem?_append_right (by simp; omega), if_neg (by omega)]
      simp only [List.length_take, List.getElem?_drop]
      rw [show k + 1 + (i - min (k + 1) nr.length) = i by omega, show k + (i - min k nr.length) = i by omega]

theorem mix_at {r nr : List Int} {k : Nat} (hl : r.length = nr.length) (hk : k < r.length) : (nr.take k ++ r.drop k).getD k 0 = r.getD k 0 := by
  simp only [List.getD_eq_getElem?_getD]; rw [List.getElem?_append_right (by simp; omega)]; simp [show k - min k nr.length = 0 by omega]

theorem mix_end {r nr : List Int} {k : Nat} (hl : r.length = nr.length) (hk : r.length ≤ k) : nr.take k ++ r.drop k = nr := by
  rw [List.take_of_length_le (by omega), List.drop_eq_nil_of_le (by omega), List.append_nil]

theorem Touch.below {g M : Nat} {w w2 wr : World} (h : Touch g w2 wr) (hb : Below M w w2) (hg : M ≤ g) : Below M w wr :=
  ⟨h.os.trans hb.os, h.tape.trans hb.tape, h.output.trans hb.output, by rw [h.size]; exact hb.size, fun b hlt => (h.block b (by omega)).trans (hb.block b hlt)⟩

end Go.Proofs.YtmldemimdejciaaDoor
