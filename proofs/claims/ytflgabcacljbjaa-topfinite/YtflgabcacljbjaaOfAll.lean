import Derived.RangeFuncNested
import Derived.RangeFuncBound
import Derived.RangeFuncCalls
import Derived.RangeFuncLeaves
import Derived.Shelf.Abstract
import Derived.WalkKit
import Derived.OwnWalkIn
import Derived.TacticsInMore
import Derived.LoopNIn
import Derived.LoopIn
import Derived.Test.YtflgabcacljbjaaRun1
import Derived.Deep.OwnRows
import Derived.Stop.RegionWithIn
import Derived.Laws.EntriesVeiled
/- A range over a function whose iterator keeps blocks of its own and writes into them between two rounds: the caller's law. S: the blocks that are the iterator's own. -/
namespace Go.Proofs.Ytflgabcacljbjaa
open Go.RowKit Go.Shelf

/-- Blocks of S may have turned, others not; new ones may have been laid. -/
structure Chg (S : Nat → Prop) (W W' : World) : Prop where
  os : W'.os = W.os
  tape : W'.tape = W.tape
  output : W'.output = W.output
  size : W.heap.size ≤ W'.heap.size
  block : ∀ b, b < W.heap.size → ¬ S b → W'.heap[b]? = W.heap[b]?

theorem Chg.refl (S : Nat → Prop) (W : World) : Chg S W W := ⟨rfl, rfl, rfl, Nat.le_refl _, fun _ _ _ => rfl⟩

theorem Chg.trans {S : Nat → Prop} {a b c : World} (h : Chg S a b) (k : Chg S b c) : Chg S a c :=
  ⟨k.os.trans h.os, k.tape.trans h.tape, k.output.trans h.output, Nat.le_trans h.size k.size, fun i hi hs => (k.block i (Nat.lt_of_lt_of_le hi h.size) hs).trans (h.block i hi hs)⟩

theorem Chg.mono {S S' : Nat → Prop} {a b : World} (h : Chg S a b) (hs : ∀ i, i < a.heap.size → S i → S' i) : Chg S' a b :=
  ⟨h.os, h.tape, h.output, h.size, fun i hi hn => h.block i hi (fun k => hn (hs i hi k))⟩

theorem Chg.of_below {S : Nat → Prop} {a b : World} {N : Nat} (h : Below N a b) (hN : a.heap.size ≤ N) : Chg S a b :=
  ⟨h.os, h.tape, h.output, h.size, fun i hi _ => h.block i (by omega)⟩

theorem Chg.setCell {S : Nat → Prop} {a b : World} (h : Chg S a b) {p : Addr} (hp : S p.block) (u : Value) : Chg S a (b.setCell p u) :=
  ⟨h.os, h.tape, h.output, by simp [World.setCell, h.size], fun i hi hn => (Below.heap_setCell b p u i (fun e => hn (by rw [e]; exact hp))).trans (h.block i hi hn)⟩

theorem Chg.putObj {S : Nat → Prop} {a b : World} (h : Chg S a b) {l : Nat} (hp : S l) (o : Obj) : Chg S a (b.putObj l o) :=
  ⟨h.os, h.tape, h.output, by simp [h.size], fun i hi hn => (World.putObj_heap_other (k := i) (r := l) (fun e => hn (by rw [e]; exact hp))).trans (h.block i hi hn)⟩

theorem Chg.alloc {S : Nat → Prop} {a b : World} (h : Chg S a b) (o : Obj) : Chg S a (b.alloc o) :=
  ⟨h.os, h.tape, h.output, by simp; have := h.size; omega, fun i hi hn => (Below.heap_alloc _ _ _ (Nat.lt_of_lt_of_le hi h.size)).trans (h.block i hi hn)⟩

theorem Chg.drew {S : Nat → Prop} {a b : World} (h : Chg S a b) : Chg S a b.drew := ⟨h.os, h.tape, h.output, h.size, h.block⟩

/-- The blocks of S are as they were. -/
structure Kpt (S : Nat → Prop) (W W' : World) : Prop where
  size : W.heap.size ≤ W'.heap.size
  block : ∀ b, b < W.heap.size → S b → W'.heap[b]? = W.heap[b]?

theorem Kpt.refl (S : Nat → Prop) (W : World) : Kpt S W W := ⟨Nat.le_refl _, fun _ _ _ => rfl⟩

theorem Kpt.trans {S : Nat → Prop} {a b c : World} (h : Kpt S a b) (k : Kpt S b c) : Kpt S a c :=
  ⟨Nat.le_trans h.size k.size, fun i hi hs => (k.block i (Nat.lt_of_lt_of_le hi h.size) hs).trans (h.block i hi hs)⟩

theorem Kpt.mono {S S' : Nat → Prop} {a b : World} (h : Kpt S a b) (hs : ∀ i, i < a.heap.size → S' i → S i) : Kpt S' a b :=
  ⟨h.size, fun i hi hn => h.block i hi (hs i hi hn)⟩

theorem Kpt.of_chg {S S' : Nat → Prop} {a b : World} (h : Chg S a b) (hs : ∀ i, i < a.heap.size → S' i → ¬ S i) : Kpt S' a b :=
  ⟨h.size, fun i hi hn => h.block i hi (hs i hi hn)⟩

theorem Kpt.of_below {S : Nat → Prop} {a b : World} {N : Nat} (h : Below N a b) (hN : a.heap.size ≤ N) : Kpt S a b :=
  ⟨h.size, fun i hi _ => h.block i (by omega)⟩

/-- What a caller says between two rounds abides what the iterator does with its own blocks, and new ones (which may join them). -/
def Stab {α : Type} (J : (Nat → Prop) → List α → World → Prop) : Prop :=
  ∀ S S' pre W W', J S pre W → Chg S W W' → (∀ b, S' b → S b ∨ W.heap.size ≤ b) → J S' pre W'

theorem room_wide' (k : Nat) : Fence.wide.room k := fun d h => by cases h
theorem roundIn_any {m m' : Nat} {P : Program} {l : Nat} {f : FuncId} {tmps : Array Value} {assign body : Code} {w : World} {R : Ending → World → Prop}
    (h : RoundIn Fence.wide m P l f tmps assign body w R) : RoundIn Fence.wide m' P l f tmps assign body w R := ⟨h.1, fun c cs _ => h.2 c cs (room_wide' _)⟩
theorem callsIn_any {m m' : Nat} {P : Program} {f : FuncId} {args : Array Value} {w : World} {R : Ending → World → Prop}
    (h : CallsIn Fence.wide m P f args w R) : CallsIn Fence.wide m' P f args w R := callsIn_wide.2 (callsIn_wide.1 h)

/-- How the body of a round may be left. -/
def postS {α : Type} (K : World → World → Prop) (I : List α → World → Prop) (Ix : Code → List α → World → Prop) (xs : List α) (W : World) : Exit → Act → World → Prop
  | .normal, _, W' => K W W' ∧ I xs W'
  | .ret, _, W' => K W W' ∧ Ix .ret xs W'
  | .exit id, _, W' => K W W' ∧ Ix (.exit id) xs W'
  | .goto t, _, W' => K W W' ∧ Ix (.goto t) xs W'
  | .panic _, _, _ => False
  | .outgrown, _, _ => False

/-- The marks of loops that have been. -/
def mks (rs : List Nat) : List Deferred := rs.map fun r => { target := .collected r, args := #[] }

/-- A function that leaves with such marks. -/
theorem leaves_mks {P : Program} {n : Nat} {fn : Func} {tmps : Array Value} {R : Ending → World → Prop} : ∀ (rs : List Nat) (w : World), rs.Nodup → (∀ r ∈ rs, w.heap[r]? = some (.deferred (some []))) →
    (∀ w', Chg (fun b => b ∈ rs) w w' → ∃ v, (results fn tmps).run P w' = .ok v w' ∧ R (.returned v) w') → LeavesInM Fence.wide n P fn tmps R (mks rs) .returning w
  | [], w, _, _, h => h w (Chg.refl _ _)
  | r :: rs, w, hn, hm, h => by
    have hr := hm r (by simp)
    rw [List.nodup_cons] at hn
    refine ⟨by simp, .inl ⟨r, _, rfl, run_takeDeferred hr, leaves_mks rs _ hn.2 (fun q hq => ?_) (fun w' hc => h w' ?_)⟩⟩
    · have hne : q ≠ r := fun e => hn.1 (by rw [← e]; exact hq)
      exact (World.putObj_heap_other (k := q) (r := r) hne).trans (hm q (by simp [hq]))
    · exact ((Chg.refl _ w).putObj (List.mem_cons_self ..) _).trans (hc.mono (fun i _ hi => List.mem_cons_of_mem _ hi))

end Go.Proofs.Ytflgabcacljbjaa

/- All choices of some of many things, by their numbers and by the things; a choice of few things out of joined lists lies in as few of the lists. -/
namespace Go.Proofs.Ytflgabcacljbjaa

/-- All rising lists of k of the numbers from fr to n - 1, in order. -/
def ext (n : Nat) : Nat → Nat → List (List Int)
  | 0, _ => [[]]
  | k + 1, fr => (List.range' fr (n - fr)).flatMap fun i => (ext n k (i + 1)).map ((i : Int) :: ·)

theorem ext_step {n k fr : Nat} (h : fr < n) : ext n (k + 1) fr = (ext n k (fr + 1)).map ((fr : Int) :: ·) ++ ext n (k + 1) (fr + 1) := by
  obtain ⟨d, hd⟩ : ∃ d, n - fr = d + 1 := ⟨n - fr - 1, by omega⟩
  simp only [ext]
  rw [hd, List.range'_succ, show n - (fr + 1) = d by omega]
  simp

theorem ext_end {n k fr : Nat} (h : n ≤ fr) : ext n (k + 1) fr = [] := by
  simp [ext, show n - fr = 0 by omega]

/-- All choices of k out of a list, in their order. -/
def chz {α : Type} : Nat → List α → List (List α)
  | 0, _ => [[]]
  | _ + 1, [] => []
  | k + 1, x :: xs => ((chz k xs).map (x :: ·)) ++ chz (k + 1) xs

/-- The things that have the numbers. -/
def pks {α : Type} (L : List α) (d : α) (c : List Int) : List α := c.map fun i => L.getD i.toNat d

theorem drop_cons {α : Type} (L : List α) (d : α) {fr : Nat} (h : fr < L.length) : L.drop fr = L.getD fr d :: L.drop (fr + 1) := by
  rw [List.drop_eq_getElem_cons h]; simp [h]

theorem chz_ext {α : Type} (L : List α) (d : α) : ∀ k fr, (ext L.length k fr).map (pks L d) = chz k (L.drop fr) := by
  intro k
  induction k with
  | zero => intro fr; simp [ext, chz, pks]
  | succ k ih =>
    suffices h : ∀ m fr, L.length ≤ fr + m → (ext L.length (k + 1) fr).map (pks L d) = chz (k + 1) (L.drop fr) from fun fr => h L.length fr (by omega)
    intro m
    induction m with
    | zero => intro fr h; rw [ext_end (by omega), List.drop_of_length_le (by omega)]; simp [chz]
    | succ m ihm =>
      intro fr h
      by_cases hlt : fr < L.length
      · rw [ext_step hlt, drop_cons L d hlt]
        simp only [chz, List.map_append]
        rw [ihm (fr + 1) (by omega), ← ih (fr + 1)]
        simp [pks, Function.comp_def]
      · rw [ext_end (by omega), List.drop_of_length_le (by omega)]; simp [chz]

theorem chz_mem {α : Type} : ∀ {k : Nat} {l t : List α}, t ∈ chz k l ↔ t.Sublist l ∧ t.length = k
  | 0, l, t => by
    simp only [chz, List.mem_singleton]
    exact ⟨fun h => by subst h; simp, fun h => List.eq_nil_of_length_eq_zero h.2⟩
  | k + 1, [], t => by
    simp only [chz, List.not_mem_nil, false_iff]
    rintro ⟨h, hl⟩
    have := h.length_le
    simp at this
    subst this
    simp at hl
  | k + 1, x :: xs, t => by
    simp only [chz, List.mem_append, List.mem_map]
    constructor
    · rintro (⟨a, ha, rfl⟩ | h)
      · have := chz_mem.1 ha; exact ⟨this.1.cons_cons x, by simp [this.2]⟩
      · have := chz_mem.1 h; exact ⟨this.1.cons x, this.2⟩
    · rintro ⟨h, hl⟩
      cases h with
      | cons _ h => exact .inr (chz_mem.2 ⟨h, hl⟩)
      | cons_cons _ h => exact .inl ⟨_, chz_mem.2 ⟨h, by simpa using hl⟩, rfl⟩

theorem flat_sub {α : Type} {A B : List (List α)} (h : A.Sublist B) : A.flatten.Sublist B.flatten := by
  induction h with
  | slnil => exact List.Sublist.refl _
  | cons x _ ih => simp only [List.flatten_cons]; exact ih.trans (List.sublist_append_right _ _)
  | cons_cons x _ ih => simp only [List.flatten_cons]; exact (List.Sublist.refl x).append ih

/-- What has few things, out of joined lists, lies in few of them. -/
theorem few {α : Type} : ∀ (L : List (List α)) (t : List α) (m : Nat), t.Sublist L.flatten → t.length ≤ m → ∃ A : List (List α), A.Sublist L ∧ A.length ≤ m ∧ t.Sublist A.flatten
  | [], t, m, h, _ => ⟨[], List.Sublist.refl _, by simp, h⟩
  | x :: xs, t, m, h, hm => by
    rw [List.flatten_cons] at h
    obtain ⟨a, b, rfl, ha, hb⟩ := List.sublist_append_iff.1 h
    by_cases ea : a = []
    · subst ea
      obtain ⟨A, h1, h2, h3⟩ := few xs b m hb (by simpa using hm)
      exact ⟨A, h1.cons x, h2, by simpa using h3⟩
    · have : 0 < a.length := List.length_pos_iff.2 ea
      simp only [List.length_append] at hm
      obtain ⟨A, h1, h2, h3⟩ := few xs b (m - 1) hb (by omega)
      exact ⟨x :: A, h1.cons_cons x, by simp; omega, by rw [List.flatten_cons]; exact ha.append h3⟩

theorem grow {α : Type} {A B : List α} (h : A.Sublist B) : ∀ m, A.length ≤ m → m ≤ B.length → ∃ C : List α, A.Sublist C ∧ C.Sublist B ∧ C.length = m := by
  induction h with
  | slnil => intro m h1 h2; exact ⟨[], List.Sublist.refl _, List.Sublist.refl _, by simp at h2; simp [h2]⟩
  | @cons A B x h ih =>
    intro m h1 h2
    by_cases e : m ≤ B.length
    · obtain ⟨C, c1, c2, c3⟩ := ih m h1 e
      exact ⟨C, c1, c2.cons x, c3⟩
    · exact ⟨x :: B, h.cons x, List.Sublist.refl _, by simp at h2 ⊢; omega⟩
  | @cons_cons A B x h ih =>
    intro m h1 h2
    simp only [List.length_cons] at h1 h2
    obtain ⟨C, c1, c2, c3⟩ := ih (m - 1) (by omega) (by omega)
    exact ⟨x :: C, c1.cons_cons x, c2.cons_cons x, by simp; omega⟩

/-- Three lists of many hold what three things of all hold. -/
theorem three {α : Type} (L : List (List α)) (h3 : 3 ≤ L.length) (t : List α) (ht : t.Sublist L.flatten) (hl : t.length ≤ 3) :
    ∃ c ∈ ext L.length 3 0, t.Sublist (pks L [] c).flatten := by
  obtain ⟨A, a1, a2, a3⟩ := few L t 3 ht hl
  obtain ⟨C, c1, c2, c3⟩ := grow a1 3 a2 h3
  have hm : C ∈ chz 3 L := chz_mem.2 ⟨c2, c3⟩
  have hx := chz_ext L [] 3 0
  rw [List.drop_zero] at hx
  rw [← hx] at hm
  obtain ⟨c, hc, rfl⟩ := List.mem_map.1 hm
  exact ⟨c, hc, a3.trans (flat_sub c1)⟩

end Go.Proofs.Ytflgabcacljbjaa

/- choose.Of: the walk that fills in a choice, from whatever is left to choose. -/
namespace Go.Proofs.Ytflgabcacljbjaa
open Go.RowKit Go.Shelf
attribute [local go_sem] Oper.semAt_some

/-- What the walk reads of its own. -/
structure Ox (W : World) (l n many bm by' bc bn bf ba : Nat) : Prop where
  cm : W.cell? ⟨bm, 0, none⟩ = some (.int .i64 many)
  cy : W.cell? ⟨by', 0, none⟩ = some (.func (.yield l) #[] #[])
  cc : W.cell? ⟨bc, 0, none⟩ = some (.slice (some ⟨ba, 0, none⟩) many many)
  cn : W.cell? ⟨bn, 0, none⟩ = some (.int .i64 n)
  cf : W.cell? ⟨bf, 0, none⟩ = some (.func (.func 37) #[] #[.pointer (some ⟨bm, 0, none⟩), .pointer (some ⟨by', 0, none⟩), .pointer (some ⟨bc, 0, none⟩), .pointer (some ⟨bn, 0, none⟩), .pointer (some ⟨bf, 0, none⟩)])

theorem lt_cell0 {w : World} {b : Nat} {v : Value} (h : w.cell? ⟨b, 0, none⟩ = some v) : b < w.heap.size := World.block_lt_of_cell? w ⟨b, 0, none⟩ h

theorem Ox.move {W W' : World} {l n many bm by' bc bn bf ba : Nat} (h : Ox W l n many bm by' bc bn bf ba)
    (hk : ∀ b, b = bm ∨ b = by' ∨ b = bc ∨ b = bn ∨ b = bf → b < W.heap.size → W'.heap[b]? = W.heap[b]?) : Ox W' l n many bm by' bc bn bf ba :=
  ⟨(World.cell?_of_block (w := W) (hk bm (.inl rfl) (lt_cell0 h.cm))).trans h.cm,
   (World.cell?_of_block (w := W) (hk by' (.inr (.inl rfl)) (lt_cell0 h.cy))).trans h.cy,
   (World.cell?_of_block (w := W) (hk bc (.inr (.inr (.inl rfl))) (lt_cell0 h.cc))).trans h.cc,
   (World.cell?_of_block (w := W) (hk bn (.inr (.inr (.inr (.inl rfl)))) (lt_cell0 h.cn))).trans h.cn,
   (World.cell?_of_block (w := W) (hk bf (.inr (.inr (.inr (.inr rfl)))) (lt_cell0 h.cf))).trans h.cf⟩

theorem Sl.row' {B b n : Nat} {t : TypeId} {w : World} {f : Nat → Value} (h : w.rowIs b t n f) (hn : n ≤ maxLen) {xs : List Value} (hx : xs.length = n) (hf : ∀ i, i < n → xs[i]? = some (f i)) : Sl B t w (.slice (some ⟨b, 0, none⟩) n n) xs := by
  refine ⟨some ⟨b, 0, none⟩, n, by rw [hx], by omega, hn, fun i hi => ⟨b, 0, rfl, ?_, ?_⟩, fun h => by cases h⟩
  · have := h.cell (i := i) (by omega)
    simp only [Nat.zero_add]
    rw [this, hf i (by omega)]
  · obtain ⟨c, h1, _⟩ := h
    exact Or.inr ⟨c, h1⟩

/-- The blocks of the walk's own. -/
structure Bxo (S : Nat → Prop) (bm by' bc bn bf ba : Nat) : Prop where
  m : S bm
  y : S by'
  c : S bc
  n : S bn
  f : S bf
  a : S ba
  ne : ∀ b, b = bm ∨ b = by' ∨ b = bc ∨ b = bn ∨ b = bf → b ≠ ba

theorem Bxo.of {S : Nat → Prop} {bm by' bc bn bf ba : Nat} (h : Bxo S bm by' bc bn bf ba) {b : Nat} (hb : b = bm ∨ b = by' ∨ b = bc ∨ b = bn ∨ b = bf) : S b := by
  rcases hb with rfl | rfl | rfl | rfl | rfl
  · exact h.m
  · exact h.y
  · exact h.c
  · exact h.n
  · exact h.f

end Go.Proofs.Ytflgabcacljbjaa

/- choose.Of: the walk that fills in a choice: one number more. -/
namespace Go.Proofs.Ytflgabcacljbjaa
open Go.RowKit Go.Shelf
attribute [local go_sem] Oper.semAt_some

theorem ext_cons_map {n k fr : Nat} (h : fr < n) (ix : List Int) : (ext n (k + 1) fr).map (ix ++ ·) = (ext n k (fr + 1)).map ((ix ++ [(fr : Int)]) ++ ·) ++ (ext n (k + 1) (fr + 1)).map (ix ++ ·) := by
  rw [ext_step h]
  simp [Function.comp_def]

end Go.Proofs.Ytflgabcacljbjaa

/- choose.Of: what it hands back goes through all choices. -/
namespace Go.Proofs.Ytflgabcacljbjaa
open Go.RowKit Go.Shelf
attribute [local go_sem] Oper.semAt_some

theorem alloc_new (w : World) (o : Obj) : (w.alloc o).heap[w.heap.size]? = some o := World.alloc_heap_new w o
theorem alloc_keep (w : World) (o : Obj) : Below w.heap.size w (w.alloc o) := (Below.refl _ _).alloc (Nat.le_refl _) _
theorem size_alloc (w : World) (o : Obj) : (w.alloc o).heap.size = w.heap.size + 1 := by simp
theorem cell_of {w : World} {b : Nat} {x : Value} {t : TypeId} (h : w.heap[b]? = some (.cells #[x] t (0, 0))) : w.cell? ⟨b, 0, none⟩ = some x := by simp [World.cell?, h]

/-- Four blocks, one after another. -/
theorem fourB (w : World) (o1 o2 o3 o4 : Obj) :
    ∃ W, W = (((w.alloc o1).alloc o2).alloc o3).alloc o4 ∧ W.heap[w.heap.size]? = some o1 ∧ W.heap[w.heap.size + 1]? = some o2 ∧ W.heap[w.heap.size + 1 + 1]? = some o3 ∧ W.heap[w.heap.size + 1 + 1 + 1]? = some o4 ∧ W.heap.size = w.heap.size + 4 ∧ Below w.heap.size w W := by
  obtain ⟨w1, h1⟩ : ∃ w1, w1 = w.alloc o1 := ⟨_, rfl⟩
  obtain ⟨w2, h2⟩ : ∃ w2, w2 = w1.alloc o2 := ⟨_, rfl⟩
  obtain ⟨w3, h3⟩ : ∃ w3, w3 = w2.alloc o3 := ⟨_, rfl⟩
  have s1 : w1.heap.size = w.heap.size + 1 := by rw [h1]; exact size_alloc _ _
  have s2 : w2.heap.size = w.heap.size + 2 := by rw [h2, size_alloc]; omega
  have s3 : w3.heap.size = w.heap.size + 3 := by rw [h3, size_alloc]; omega
  have n1 : w1.heap[w.heap.size]? = some o1 := by rw [h1]; exact alloc_new _ _
  have n2 : w2.heap[w.heap.size + 1]? = some o2 := by rw [h2, ← s1]; exact alloc_new _ _
  have n3 : w3.heap[w.heap.size + 1 + 1]? = some o3 := by rw [h3, show w.heap.size + 1 + 1 = w2.heap.size by omega]; exact alloc_new _ _
  have b1 : Below w.heap.size w w1 := by rw [h1]; exact alloc_keep _ _
  have b2 : Below w1.heap.size w1 w2 := by rw [h2]; exact alloc_keep _ _
  have b3 : Below w2.heap.size w2 w3 := by rw [h3]; exact alloc_keep _ _
  have b4 : Below w3.heap.size w3 (w3.alloc o4) := alloc_keep _ _
  refine ⟨w3.alloc o4, by rw [h3, h2, h1], ?_, ?_, ?_, ?_, ?_, ?_⟩
  · rw [b4.block _ (by omega), b3.block _ (by omega), b2.block _ (by omega)]; exact n1
  · rw [b4.block _ (by omega), b3.block _ (by omega)]; exact n2
  · rw [b4.block _ (by omega)]; exact n3
  · rw [show w.heap.size + 1 + 1 + 1 = w3.heap.size by omega]; exact alloc_new _ _
  · rw [size_alloc]; omega
  · exact ((b1.trans (b2.mono (by omega))).trans (b3.mono (by omega))).trans (b4.mono (by omega))

set_option maxHeartbeats 1000000 in
theorem of_any (n many : Int) (w : World) : Calls Try.prog 19 #[.int .i64 n, .int .i64 many] w fun e w' =>
    e = .returned (.func (.func 36) #[] #[.pointer (some ⟨w.heap.size + 1, 0, none⟩), .pointer (some ⟨w.heap.size, 0, none⟩)]) ∧ w' = (w.alloc (.cells #[.int .i64 n] 3)).alloc (.cells #[.int .i64 many] 3) := by
  go_enter Try.func19, Try.ntmps19
  go_wp2
  go_ret
  exact ⟨rfl, rfl⟩

end Go.Proofs.Ytflgabcacljbjaa
