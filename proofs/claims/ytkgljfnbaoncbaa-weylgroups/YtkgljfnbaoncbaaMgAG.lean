import Derived.Test.YtkgljfnbaoncbaaMgAF
import Derived.BigRegion
import Derived.Deep.AppendLies
import Derived.Test.YtkgljfnbaoncbaaRp3
import Derived.Deep.LoopGhost
import Derived.Test.YtkgljfnbaoncbaaWy3
import Derived.Test.YtkgljfnbaoncbaaMgAE
import Derived.Test.YtkgljfnbaoncbaaWl3
import Derived.RangeFuncNested
import Derived.RangeFuncBound
import Derived.RangeFuncCalls
import Derived.RangeFuncLeaves
import Derived.Shelf.Abstract
import Derived.WalkKit
import Derived.OwnWalkIn
import Derived.TacticsInMore
import Derived.LoopNIn
import Derived.LoopIn
import Derived.Test.YtkgljfnbaoncbaaMgAB
import Derived.Laws.EntriesVeiled
import Derived.Test.YtkgljfnbaoncbaaMgAC
import Derived.Deep.RegionHeld3
import Derived.Deep.RegionLaw
import Derived.Deep.DrawnRows
import Derived.Deep.OwnRows
import Derived.Deep.QuietTactic
import Derived.BigQuiet
/- root.Lengths: the walk. -/
namespace Go.Proofs.Ytkgljfnbaoncbaa
open Go.RowKit
attribute [local go_sem ↓] Go.wp_at_zero Go.wp_at_succ

theorem Only.low {g N : Nat} {a b : World} (h : Only g a b) (hN : N ≤ g) : Below N a b := ⟨h.os, h.tape, h.output, by rw [h.size]; exact Nat.le_refl _, fun x hx => h.block x (by omega)⟩

theorem Only.cell {g : Nat} {a b : World} (h : Only g a b) {x : Addr} (hx : x.block ≠ g) : b.cell? x = a.cell? x := World.cell?_of_block (w := a) (h.block _ hx)

end Go.Proofs.Ytkgljfnbaoncbaa

/- facetref.LengthsOf: the walk. -/
namespace Go.Proofs.Ytkgljfnbaoncbaa
open Go.RowKit
attribute [local go_sem ↓] Go.wp_at_zero Go.wp_at_succ

def prN (c : List (List Int)) (n t : Nat) : List Nat := rsN n ((paL c).getD t [])
theorem all_succ (f : Nat → Bool) (k : Nat) : (List.range (k + 1)).all f = ((List.range k).all f && f k) := by
  rw [List.range_succ, List.all_append]; simp

theorem Only.drewN {g : Nat} {a b : World} (h : Only g a b) (k : Nat) : Only g a (b.drewN k) := ⟨h.os, h.tape, h.output, h.size, h.block⟩

end Go.Proofs.Ytkgljfnbaoncbaa

/- weyl.takenBack. -/
namespace Go.Proofs.Ytkgljfnbaoncbaa
open Go.RowKit
attribute [local go_sem ↓] Go.wp_at_zero Go.wp_at_succ

/-- Turned over by one letter after the other. -/
def fwd (c : List (List Int)) (l : List Nat) (v : List Int) : List Int := l.foldl (fun v r => ovL c v r) v

theorem fwd_snoc (c : List (List Int)) (l : List Nat) (r : Nat) (v : List Int) : fwd c (l ++ [r]) v = ovL c (fwd c l v) r := by simp [fwd]

theorem fwd_tak (c : List (List Int)) (l : List Nat) (v : List Int) : fwd c l v = tak c l.reverse v := by
  unfold fwd tak
  rw [List.foldr_reverse]

theorem ones_at {n k : Nat} (hk : k < n) : (ones n).getD k 0 = 1 := by simp [ones, hk]

theorem natsI_len (l : List Nat) : (natsI l).length = l.length := by simp [natsI]

theorem natsI_at {l : List Nat} {k : Nat} (hk : k < l.length) : (natsI l).getD k 0 = ((l.getD k 0 : Nat) : Int) := by simp [natsI, hk]

end Go.Proofs.Ytkgljfnbaoncbaa

/- weyl.Reduce, Same, Ends. -/
namespace Go.Proofs.Ytkgljfnbaoncbaa
open Go.RowKit
attribute [local go_sem ↓] Go.wp_at_zero Go.wp_at_succ

/-- A good matrix, its roots at hand. -/
structure Gda (n : Nat) (c R : List (List Int)) : Prop where
  g : Gdc n c
  rt : Rt c R
  rl : R.length ≤ 24
  q : qS n R (ones n) ≤ 1000

def BdQ (n : Nat) (R : List (List Int)) (u : List Int) : Prop := u.length = n ∧ qS n R u ≤ 1000

theorem Gda.b0 {n : Nat} {c R : List (List Int)} (h : Gda n c R) : BdQ n R (ones n) := ⟨by simp [ones], h.q⟩

theorem Gda.b1 {n : Nat} {c R : List (List Int)} (h : Gda n c R) (u : List Int) (r : Nat) (hr : r < n) (hu : BdQ n R u) : BdQ n R (ovL c u r) := by
  have hl := h.g.sq.len
  refine ⟨by rw [ovL_len, hl], ?_⟩
  have e := qS_ov h.rt u (r := r) (by omega)
  rw [hl] at e
  rw [e]
  exact hu.2

theorem le_sum_nat {l : List Nat} {x : Nat} (h : x ∈ l) : x ≤ l.sum := by
  induction l with
  | nil => simp at h
  | cons y l ih =>
    rw [List.sum_cons]
    rcases List.mem_cons.1 h with rfl | h
    · omega
    · have := ih h; omega

theorem Gda.b2 {n : Nat} {c R : List (List Int)} (h : Gda n c R) (u : List Int) (hu : BdQ n R u) (k : Nat) : -1000000 ≤ u.getD k 0 ∧ u.getD k 0 ≤ 1000000 := by
  have hl := h.g.sq.len
  by_cases hk : k < n
  · have h1 : (pr n u (un n k)).natAbs ∈ R.map fun b => (pr n u b).natAbs := List.mem_map.2 ⟨un n k, by have := h.rt.sim k (by omega); rwa [hl] at this, rfl⟩
    have h2 := le_sum_nat h1
    have h3 := hu.2
    unfold qS at h3
    rw [pr_un _ hk] at h2
    omega
  · have : u.getD k 0 = 0 := by
      rw [List.getD_eq_getElem?_getD, List.getElem?_eq_none (by have := hu.1; omega)]; rfl
    omega

/-- The first of the shortest words. -/
def rdW (c : List (List Int)) (wd : List Nat) : List Nat := upr c 24 (tak c wd (ones c.length))

theorem rd_all {n : Nat} {c R : List (List Int)} (h : Gda n c R) {wd : List Nat} (hw : Lt c wd) :
    (rdW c wd).length = nB c.length R (tak c wd (ones c.length)) ∧ Lt c (rdW c wd) ∧ tak c (rdW c wd) (ones c.length) = tak c wd (ones c.length) ∧ fneg (upE c 24 (tak c wd (ones c.length))) = none :=
  upr_all h.rt 24 wd hw (Nat.le_trans List.countP_le_length h.rl)

theorem own_low {B B' n : Nat} {e : TypeId} {w : World} {v : Value} {xs : List Value} (h : w.ownsRow B' e 1 v n xs) (hB : B ≤ B') : w.ownsRow B e 1 v n xs := by
  refine ⟨h.1, ?_⟩
  rcases h.2 with h1 | ⟨g, cap, cur, h1, h2, h3⟩
  · exact .inl h1
  · exact .inr ⟨g, cap, cur, h1, Nat.le_trans hB h2, h3⟩

theorem btx_below {B g : Nat} {w w1 w2 : World} (h : Below B w w1) (hB : B ≤ w.heap.size) (k : Btx g w1 w2) (hg : B ≤ g) : Below B w w2 :=
  ⟨k.os.trans h.os, k.tape.trans h.tape, k.output.trans h.output, Nat.le_trans h.size k.size, fun b hb => (k.block b (by have := h.size; omega) (by omega)).trans (h.block b hb)⟩

end Go.Proofs.Ytkgljfnbaoncbaa

/- facetref.Kinds, pieceMay: of the twelve names. -/
namespace Go.Proofs.Ytkgljfnbaoncbaa
open Go.RowKit
attribute [local go_sem ↓] Go.wp_at_zero Go.wp_at_succ

/-- The twelve names' letters and numbers. -/
def kdL : List (UInt8 × UInt8) := [(65, 49), (65, 50), (65, 51), (65, 52), (66, 50), (66, 51), (66, 52), (67, 51), (67, 52), (68, 52), (70, 52), (71, 50)]

def kdB (p : UInt8 × UInt8) : ByteArray := ⟨#[p.1, p.2]⟩

def kdV : Array Value := #[.string ⟨#[65, 49]⟩, .string ⟨#[65, 50]⟩, .string ⟨#[65, 51]⟩, .string ⟨#[65, 52]⟩, .string ⟨#[66, 50]⟩, .string ⟨#[66, 51]⟩, .string ⟨#[66, 52]⟩, .string ⟨#[67, 51]⟩, .string ⟨#[67, 52]⟩, .string ⟨#[68, 52]⟩, .string ⟨#[70, 52]⟩, .string ⟨#[71, 50]⟩]

theorem kd_at : ∀ i, i < 12 → kdV[i]? = some (.string (kdB (kdL.getD i (0, 0)))) := by
  intro i hi
  rcases (show i = 0 ∨ i = 1 ∨ i = 2 ∨ i = 3 ∨ i = 4 ∨ i = 5 ∨ i = 6 ∨ i = 7 ∨ i = 8 ∨ i = 9 ∨ i = 10 ∨ i = 11 by omega) with rfl | rfl | rfl | rfl | rfl | rfl | rfl | rfl | rfl | rfl | rfl | rfl <;> rfl

set_option maxRecDepth 100000 in
theorem kinds_any (w : World) :
    Calls Try.prog 42 #[] w fun e w' => e = .returned (.slice (some ⟨w.heap.size, 0, none⟩) 12 12) ∧ (∀ i, i < 12 → w'.cell? ⟨w.heap.size, i, none⟩ = some (.string (kdB (kdL.getD i (0, 0))))) ∧ Below w.heap.size w w' := by
  go_enter Try.func42, Try.ntmps42
  go_wp2
  go_ret
  refine ⟨rfl, fun i hi => ?_, (Below.refl _ _).alloc (Nat.le_refl _) _⟩
  rw [← kd_at i hi]
  have h := fun o => heap_alloc_new w o
  simp only [World.cell?, h]
  rfl

end Go.Proofs.Ytkgljfnbaoncbaa

/- facetref.NameFrom: some of the names, in a row. -/
namespace Go.Proofs.Ytkgljfnbaoncbaa
open Go.RowKit
attribute [local go_sem ↓] Go.wp_at_zero Go.wp_at_succ

/-- A piece's rank. -/
def rkP (p : UInt8 × UInt8) : Nat := p.2.toNat - 48

theorem kd_rk : ∀ p ∈ kdL, 1 ≤ rkP p ∧ rkP p ≤ 4 ∧ p.2.toNat = 48 + rkP p := by decide

end Go.Proofs.Ytkgljfnbaoncbaa

/- Least choices of a square, pure: orders, what a cycle of rows costs, prices by going down from column to column. -/
namespace Go.Proofs.Ytkgljfnbaoncbaa

/-- The number in row i and column j. -/
def ent (M : List (List Int)) (i j : Nat) : Int := (M.getD i []).getD j 0

/-- All orders of n numbers that open with what is there, k more to come. -/
def ords (n : Nat) : Nat → List Int → List (List Int)
  | 0, h => [h]
  | k + 1, h => (List.range n).flatMap fun (v : Nat) => if h.contains (v : Int) then [] else ords n k (h ++ [(v : Int)])

/-- Numbers below n, no two alike. -/
def IsOrd (n : Nat) (o : List Int) : Prop := (∀ z ∈ o, 0 ≤ z ∧ z < (n : Int)) ∧ o.Nodup

theorem ords_is {n : Nat} : ∀ (k : Nat) (h o : List Int), IsOrd n h → o ∈ ords n k h → IsOrd n o ∧ o.length = h.length + k
  | 0, h, o, hh, ho => by
    simp only [ords, List.mem_singleton] at ho
    subst ho
    exact ⟨hh, rfl⟩
  | k + 1, h, o, hh, ho => by
    simp only [ords, List.mem_flatMap, List.mem_range] at ho
    obtain ⟨v, hv, ho⟩ := ho
    split at ho
    · simp at ho
    · rename_i hc
      have hn : (v : Int) ∉ h := by simpa using hc
      have h' : IsOrd n (h ++ [(v : Int)]) := by
        refine ⟨fun z hz => ?_, ?_⟩
        · rcases List.mem_append.1 hz with hz | hz
          · exact hh.1 z hz
          · simp only [List.mem_singleton] at hz
            omega
        · rw [List.nodup_append]
          refine ⟨hh.2, by simp, fun a ha b hb e => ?_⟩
          simp only [List.mem_singleton] at hb
          subst hb
          subst e
          exact hn ha
      obtain ⟨h1, h2⟩ := ords_is k _ o h' ho
      refine ⟨h1, ?_⟩
      rw [h2]
      simp
      omega

section
variable (M : List (List Int)) (σ : Nat → Nat)

end

def la : Nat → List Nat → Nat
  | r, [] => r
  | _, s :: t => la s t

end Go.Proofs.Ytkgljfnbaoncbaa

/- Even squares and their parts, pure. -/
namespace Go.Proofs.Ytkgljfnbaoncbaa

/-! Parts -/

def setM (R : List (List Int)) (i j : Nat) (z : Int) : List (List Int) := R.set i ((R.getD i []).set j z)

theorem setM_len (R : List (List Int)) (i j : Nat) (z : Int) : (setM R i j z).length = R.length := by simp [setM]

theorem setM_row {R : List (List Int)} {i j a : Nat} {z : Int} : ((setM R i j z).getD a []).length = (R.getD a []).length := by
  unfold setM
  by_cases e : a = i
  · subst e
    by_cases h : a < R.length
    · simp [List.getD_eq_getElem?_getD, h]
    · simp [List.getD_eq_getElem?_getD, h]
  · simp [List.getD_eq_getElem?_getD, List.getElem?_set_ne (Ne.symm e)]

end Go.Proofs.Ytkgljfnbaoncbaa

/- Squares whose rows are the call's own, each in a block of its own, and are written into; named.room, named.take. -/
namespace Go.Proofs.Ytkgljfnbaoncbaa
open Go.RowKit
attribute [local go_sem ↓] Go.wp_at_zero Go.wp_at_succ

def rowsV (g c : Nat → Nat) (n k : Nat) : List Value := (List.range k).map fun i => .slice (some ⟨g i, 0, none⟩) n (c i)

theorem rowsV_get {g c : Nat → Nat} {n k i : Nat} (h : i < k) : (rowsV g c n k)[i]? = some (.slice (some ⟨g i, 0, none⟩) n (c i)) := by simp [rowsV, h]
theorem rowsV_succ (g c : Nat → Nat) (n k : Nat) : rowsV g c n (k + 1) = rowsV g c n k ++ [.slice (some ⟨g k, 0, none⟩) n (c k)] := by simp [rowsV, List.range_succ]
structure OM (B : Nat) (g c : Nat → Nat) (k n : Nat) (w : World) (v : Value) (R : List (List Int)) : Prop where
  num : R.length = k
  len : ∀ i, i < k → (R.getD i []).length = n
  out : w.ownsRow B 26 1 v k (rowsV g c n k)
  row : ∀ i, i < k → w.ownsRow B 3 1 (.slice (some ⟨g i, 0, none⟩) n (c i)) n (ints (R.getD i []))
  apart : ∀ i j, i < k → j < k → g i = g j → i = j

theorem own_heap {B e s n : Nat} {w : World} {g cap : Nat} {xs : List Value} (h : w.ownsRow B e s (.slice (some ⟨g, 0, none⟩) n cap) n xs) : ∃ cur, w.heap[g]? = some (.cells cur e (0, 0)) := by
  rcases h.2 with ⟨h', _⟩ | ⟨g', cap', cur, h', hb, hg, _⟩
  · simp at h'
  · simp only [Value.slice.injEq, Option.some.injEq, Addr.mk.injEq, and_true, true_and] at h'
    obtain ⟨rfl, rfl⟩ := h'
    exact ⟨cur, hg⟩

theorem own_keepB {B e s n : Nat} {w W : World} {v : Value} {xs : List Value} (h : w.ownsRow B e s v n xs) (hk : ∀ g, v.ownBlock = some g → W.heap[g]? = w.heap[g]?) : W.ownsRow B e s v n xs := by
  refine ⟨h.1, ?_⟩
  rcases h.2 with h2 | ⟨g, cap, cur, rfl, hb, hh, r⟩
  · exact Or.inl h2
  · exact Or.inr ⟨g, cap, cur, rfl, hb, (hk g rfl).trans hh, r⟩

theorem OM.form {B : Nat} {g c : Nat → Nat} {k n : Nat} {w : World} {v : Value} {R : List (List Int)} (h : OM B g c k n w v R) (hk : 1 ≤ k) : ∃ G cap, v = .slice (some ⟨G, 0, none⟩) k cap ∧ B ≤ G ∧ G < w.heap.size ∧ k ≤ cap ∧ cap ≤ 9223372036854775807 := by
  rcases h.out.2 with ⟨_, h0⟩ | ⟨G, cap, cur, hv, hb, hh, h1, h2, _⟩
  · omega
  · exact ⟨G, cap, hv, hb, (h.out.lt G (by rw [hv]; rfl)).2, h1, by simpa [maxLen] using h2⟩

theorem OM.cellG {B : Nat} {g c : Nat → Nat} {k n G cap : Nat} {w : World} {R : List (List Int)} (h : OM B g c k n w (.slice (some ⟨G, 0, none⟩) k cap) R) {i : Nat} (hi : i < k) : w.cell? ⟨G, i, none⟩ = some (.slice (some ⟨g i, 0, none⟩) n (c i)) := by
  rw [h.out.cellAt i (by omega), rowsV_get hi]

theorem OM.ent {B : Nat} {g c : Nat → Nat} {k n : Nat} {w : World} {v : Value} {R : List (List Int)} (h : OM B g c k n w v R) {i j : Nat} (hi : i < k) (hj : j < n) : w.cell? ⟨g i, j, none⟩ = some (.int .i64 (ent R i j)) ∧ w.frozen? ⟨g i, j, none⟩ = false := by
  refine ⟨?_, (h.row i hi).frozenAt j⟩
  rw [(h.row i hi).cellAt j (by omega), ints_get _ _ (by rw [h.len i hi]; exact hj)]
  rfl

theorem OM.keep {B : Nat} {g c : Nat → Nat} {k n : Nat} {w W : World} {v : Value} {R : List (List Int)} (h : OM B g c k n w v R) (hk : ∀ b, (v.ownBlock = some b ∨ ∃ i, i < k ∧ b = g i) → W.heap[b]? = w.heap[b]?) : OM B g c k n W v R :=
  ⟨h.num, h.len, own_keepB h.out (fun b hb => hk b (Or.inl hb)), fun i hi => own_keepB (h.row i hi) (fun b hb => hk b (Or.inr ⟨i, hi, by simpa [Value.ownBlock] using hb.symm⟩)), h.apart⟩

theorem OM.lt {B : Nat} {g c : Nat → Nat} {k n : Nat} {w : World} {v : Value} {R : List (List Int)} (h : OM B g c k n w v R) : ∀ b, (v.ownBlock = some b ∨ ∃ i, i < k ∧ b = g i) → B ≤ b ∧ b < w.heap.size := by
  rintro b (hb | ⟨i, hi, rfl⟩)
  · exact h.out.lt b hb
  · exact (h.row i hi).lt _ rfl

theorem OM.below {B N : Nat} {g c : Nat → Nat} {k n : Nat} {w W : World} {v : Value} {R : List (List Int)} (h : OM B g c k n w v R) (hb : Below N w W) (hN : w.heap.size ≤ N) : OM B g c k n W v R :=
  h.keep fun b hx => hb.block b (by have := (h.lt b hx).2; omega)

theorem ints_set (l : List Int) (j : Nat) (z : Int) : ints (l.set j z) = (ints l).set j (.int .i64 z) := by simp [ints, List.map_set]

theorem OM.set {B : Nat} {g c : Nat → Nat} {k n : Nat} {w : World} {v : Value} {R : List (List Int)} (h : OM B g c k n w v R) {i j : Nat} (hi : i < k) (z : Int) : OM B g c k n (w.setCell ⟨g i, j, none⟩ (.int .i64 z)) v (setM R i j z) := by
  have hoth : ∀ b, b ≠ g i → (w.setCell ⟨g i, j, none⟩ (.int .i64 z)).heap[b]? = w.heap[b]? := fun b hb => Below.heap_setCell w _ _ b hb
  obtain ⟨cur, hcur⟩ := own_heap (h.row i hi)
  refine ⟨by rw [setM_len]; exact h.num, fun a ha => by rw [setM_row]; exact h.len a ha, own_keepB h.out (fun b hb => hoth b fun e => ?_), fun a ha => ?_, h.apart⟩
  · subst e
    rcases h.out.2 with ⟨rfl, _⟩ | ⟨G, cap, cur', rfl, _, hh, _⟩
    · simp [Value.ownBlock] at hb
    · simp only [Value.ownBlock, Option.some.injEq] at hb
      subst hb
      rw [hcur] at hh
      simp at hh
  · by_cases e : a = i
    · subst e
      have h1 := ((h.row a ha).stored j (.int .i64 z)).1
      have e2 : (setM R a j z).getD a [] = (R.getD a []).set j z := by
        unfold setM
        have : a < R.length := by rw [h.num]; exact ha
        simp [List.getD_eq_getElem?_getD, this]
      rw [e2, ints_set]
      exact h1
    · have e2 : (setM R i j z).getD a [] = R.getD a [] := by
        unfold setM
        simp [List.getD_eq_getElem?_getD, List.getElem?_set_ne (Ne.symm e)]
      rw [e2]
      exact own_keepB (h.row a ha) (fun b hb => hoth b fun e3 => e (by
        simp only [Value.ownBlock, Option.some.injEq] at hb
        exact h.apart a i ha hi (by omega)))

end Go.Proofs.Ytkgljfnbaoncbaa

/- Squares that may be, by the program and by the document; what a list holds, and its sum. -/
namespace Go.Proofs.Ytkgljfnbaoncbaa
open Go.RowKit
attribute [local go_sem ↓] Go.wp_at_zero Go.wp_at_succ

theorem anyT_contains (zs : List Int) (x : Int) : zs.any (fun z => z == x) = zs.contains x := by
  rw [Bool.eq_iff_iff]; simp

theorem anyT_snoc {α : Type} {p : α → Bool} {l : List α} {d : α} {k : Nat} (h : k < l.length) (h0 : (l.take k).any p = false) : (l.take (k + 1)).any p = p (l.getD k d) := by
  rw [List.take_succ_eq_append_getElem h, List.any_append, h0]; simp [h]

theorem anyT_get {α : Type} {p : α → Bool} {l : List α} {d : α} {k : Nat} (h : k < l.length) (h0 : p (l.getD k d) = true) : l.any p = true :=
  List.any_eq_true.2 ⟨l.getD k d, by simp [h], h0⟩

set_option maxRecDepth 100000 in
set_option maxHeartbeats 400000 in
theorem inT_any (B : Nat) (x : Int) (zs : List Int) (v : Value) (w : World) (hv : Sl B 3 w v (ints zs)) :
    Calls Try.prog 40 #[.int .i64 x, v] w fun e w' => e = .returned (.bool (zs.contains x)) ∧ w' = w := by
  obtain ⟨ao, cap, hvv, hlc, hcm⟩ := sl_open hv
  subst hvv
  have HV : Hid (Sl B 3 w (.slice ao zs.length cap) (ints zs)) := hv
  clear hv
  rw [← anyT_contains]
  go_enter Try.func40, Try.ntmps40
  go_wp2
  go_loopw [5] (fun i wr => ∃ k : Nat, k ≤ zs.length ∧ i = .int .i64 k ∧ (zs.take k).any (fun z => z == x) = false ∧ wr = w) (fun i _ => zs.length - (intOf i).toNat)
  case atStart => exact ⟨0, Nat.zero_le _, rfl, by simp, rfl⟩
  case round =>
    obtain ⟨k, hk, rfl, hno, rfl⟩ := hrel
    have HN : Hid ((zs.take k).any (fun z => z == x) = false) := hno
    clear hno
    by_cases hlt : k < zs.length
    · obtain ⟨b, o, cp, hs, hc1, hcc⟩ := sl_cell HV.out hlt
      simp only [Value.slice.injEq] at hs
      obtain ⟨rfl, _, rfl⟩ := hs
      have HS1 : Hid ((zs.take (k + 1)).any (fun z => z == x) = (zs.getD k 0 == x)) := anyT_snoc (p := fun z => z == x) hlt HN.out
      have HG : Hid ((zs.getD k 0 == x) = true → zs.any (fun z => z == x) = true) := fun h => anyT_get (p := fun z => z == x) hlt h
      generalize zs.getD k 0 = z at *
      cases hf : (z == x)
      · have HF : Hid ((z == x) = false) := hf
        go_wp2
        go_roundw
        case rel => exact ⟨k + 1, by omega, by go_num, by rw [HS1.out]; exact HF.out, trivial⟩
        case measure => simp [intOf]; omega
      · have HF : Hid ((z == x) = true) := hf
        go_wp2
        go_ret
        exact ⟨ret_bool (HG.out HF.out).symm, rfl⟩
    · have hke : zs.take k = zs := List.take_of_length_le (by omega)
      have HE : Hid (zs.any (fun z => z == x) = false) := by rw [← hke]; exact HN.out
      go_wp2
      go_ret
      exact ⟨ret_bool HE.out.symm, rfl⟩


theorem sumL_snoc (l : List Int) (k : Nat) (h : k < l.length) : (l.take (k + 1)).sum = (l.take k).sum + l.getD k 0 := by
  have e : l.getD k 0 = l[k] := by simp [h]
  rw [List.take_succ_eq_append_getElem h, List.sum_append, e]; simp

theorem sumL_bd {l : List Int} {b : Nat} : ∀ k, k ≤ l.length → (∀ z ∈ l, z.natAbs ≤ b) → (l.take k).sum.natAbs ≤ b * k
  | 0, _, _ => by simp
  | k + 1, hk, hb => by
    have h1 := sumL_bd (l := l) k (by omega) hb
    rw [sumL_snoc l k (by omega)]
    have h2 : (l.getD k 0).natAbs ≤ b := by
      have e : l.getD k 0 = l[k] := by simp [show k < l.length by omega]
      rw [e]; exact hb _ (List.getElem_mem _)
    rw [Nat.mul_add, Nat.mul_one]
    omega

set_option maxRecDepth 100000 in
set_option maxHeartbeats 400000 in
theorem sumT_any (B : Nat) (zs : List Int) (v : Value) (w : World) (hv : Sl B 3 w v (ints zs)) (hl : zs.length ≤ 1000) (hb : ∀ z ∈ zs, z.natAbs ≤ 1000000000) :
    Calls Try.prog 18 #[v] w fun e w' => e = .returned (.int .i64 zs.sum) ∧ ∃ n, w' = w.drewN n := by
  obtain ⟨ao, cap, hvv, hlc, hcm⟩ := sl_open hv
  subst hvv
  have HV : Hid (Sl B 3 w (.slice ao zs.length cap) (ints zs)) := hv
  have HB : Hid (∀ k, k ≤ zs.length → -1000000000000 ≤ (zs.take k).sum ∧ (zs.take k).sum ≤ 1000000000000) := fun k hk => by
    have := sumL_bd k hk hb
    have : 1000000000 * k ≤ 1000000000 * 1000 := Nat.mul_le_mul_left _ (by omega)
    omega
  clear hv hb
  go_enter Try.func18, Try.ntmps18
  go_wp2
  go_loopw [3, 4] (fun s i wr => ∃ k : Nat, k ≤ zs.length ∧ i = .int .i64 k ∧ s = .int .i64 (zs.take k).sum ∧ ∃ n, wr = w.drewN n) (fun _ i _ => zs.length - (intOf i).toNat)
  case atStart => exact ⟨0, Nat.zero_le _, rfl, by simp, 0, rfl⟩
  case round =>
    obtain ⟨k, hk, rfl, rfl, n, rfl⟩ := hrel
    by_cases hlt : k < zs.length
    · obtain ⟨b, o, cp, hs, hc1, hcc⟩ := sl_cell HV.out hlt
      simp only [Value.slice.injEq] at hs
      obtain ⟨rfl, _, rfl⟩ := hs
      have HS : Hid ((zs.take (k + 1)).sum = (zs.take k).sum + zs.getD k 0) := sumL_snoc zs k hlt
      have b1 := HB.out k hk
      have b2 := HB.out (k + 1) hlt
      rw [HS.out] at b2
      generalize zs.getD k 0 = z at *
      generalize (zs.take k).sum = S at *
      go_wp2
      go_roundw
      case rel => exact ⟨k + 1, by omega, by go_num, by rw [HS.out], _, rfl⟩
      case measure => simp [intOf]; omega
    · have hke : zs.take k = zs := List.take_of_length_le (by omega)
      rw [hke]
      go_wp2
      go_ret
      exact ⟨rfl, n, rfl⟩

end Go.Proofs.Ytkgljfnbaoncbaa
