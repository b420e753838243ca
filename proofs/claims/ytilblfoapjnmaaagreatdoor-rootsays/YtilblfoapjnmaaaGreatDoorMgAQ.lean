import Derived.Test.YtilblfoapjnmaaaGreatDoorRp12a
import Derived.Test.YtilblfoapjnmaaaGreatDoorRp12b
import Derived.Test.YtilblfoapjnmaaaGreatDoorRp12c
import Derived.Test.YtilblfoapjnmaaaGreatDoorRp12d
import Derived.Test.YtilblfoapjnmaaaGreatDoorMgAC
import Derived.Test.YtilblfoapjnmaaaGreatDoorMgAH
import Derived.Deep.OwnRows
import Derived.Stop.RegionWithIn
import Derived.Test.YtilblfoapjnmaaaGreatDoorMgAG
/- root.made: of all kinds. Made by mkrp12.py. -/
namespace Go.Proofs.YtilblfoapjnmaaaGreatDoor
open Go.RowKit

theorem made_any (q : UInt8 × UInt8) (hq : q ∈ kdL) (w : World) : Calls Tryz.prog 63 #[.agg #[.int .i32 (q.1.toNat : Int), .int .i64 (rkP q : Int)]] w fun e w' => e = .returned (.agg (sqA (pcL q))) ∧ Below w.heap.size w w' := by
  unfold kdL at hq
  simp only [List.mem_cons, List.not_mem_nil, or_false] at hq
  rcases hq with rfl | rfl | rfl | rfl | rfl | rfl | rfl | rfl | rfl | rfl | rfl | rfl
  · exact made_65_1 w
  · exact made_65_2 w
  · exact made_65_3 w
  · exact made_65_4 w
  · exact made_66_2 w
  · exact made_66_3 w
  · exact made_66_4 w
  · exact made_67_3 w
  · exact made_67_4 w
  · exact made_68_4 w
  · exact made_70_4 w
  · exact made_71_2 w

end Go.Proofs.YtilblfoapjnmaaaGreatDoor

/- All choices of some of many things, by their numbers and by the things; a choice of few things out of joined lists lies in as few of the lists. -/
namespace Go.Proofs.YtilblfoapjnmaaaGreatDoor

/-- All rising lists of k of the numbers from fr to n - 1, in order. -/
def ext (n : Nat) : Nat → Nat → List (List Int)
  | 0, _ => [[]]
  | k + 1, fr => (List.range' fr (n - fr)).flatMap fun i => (ext n k (i + 1)).map ((i : Int) :: ·)

theorem ext_step {n k fr : Nat} (h : fr < n) : ext n (k + 1) fr = (ext n k (fr + 1)).map ((fr : Int) :: ·) ++ ext n (k + 1) (fr + 1) := by
  obtain ⟨d, hd⟩ : ∃ d, n - fr = d + 1 := ⟨n - fr - 1, by omega⟩
  simp only [ext]
  rw [hd, List.range'_succ, show n - (fr + 1) = d by omega]
  simp

theorem ext_end {n k fr : Nat} (h : n ≤ fr) : ext n (k + 1) fr = [] := by
  simp [ext, show n - fr = 0 by omega]

/-- All choices of k out of a list, in their order. -/
def chz {α : Type} : Nat → List α → List (List α)
  | 0, _ => [[]]
  | _ + 1, [] => []
  | k + 1, x :: xs => ((chz k xs).map (x :: ·)) ++ chz (k + 1) xs

/-- The things that have the numbers. -/
def pks {α : Type} (L : List α) (d : α) (c : List Int) : List α := c.map fun i => L.getD i.toNat d

theorem drop_cons {α : Type} (L : List α) (d : α) {fr : Nat} (h : fr < L.length) : L.drop fr = L.getD fr d :: L.drop (fr + 1) := by
  rw [List.drop_eq_getElem_cons h]; simp [h]

theorem chz_ext {α : Type} (L : List α) (d : α) : ∀ k fr, (ext L.length k fr).map (pks L d) = chz k (L.drop fr) := by
  intro k
  induction k with
  | zero => intro fr; simp [ext, chz, pks]
  | succ k ih =>
    suffices h : ∀ m fr, L.length ≤ fr + m → (ext L.length (k + 1) fr).map (pks L d) = chz (k + 1) (L.drop fr) from fun fr => h L.length fr (by omega)
    intro m
    induction m with
    | zero => intro fr h; rw [ext_end (by omega), List.drop_of_length_le (by omega)]; simp [chz]
    | succ m ihm =>
      intro fr h
      by_cases hlt : fr < L.length
      · rw [ext_step hlt, drop_cons L d hlt]
        simp only [chz, List.map_append]
        rw [ihm (fr + 1) (by omega), ← ih (fr + 1)]
        simp [pks, Function.comp_def]
      · rw [ext_end (by omega), List.drop_of_length_le (by omega)]; simp [chz]

theorem chz_mem {α : Type} : ∀ {k : Nat} {l t : List α}, t ∈ chz k l ↔ t.Sublist l ∧ t.length = k
  | 0, l, t => by
    simp only [chz, List.mem_singleton]
    exact ⟨fun h => by subst h; simp, fun h => List.eq_nil_of_length_eq_zero h.2⟩
  | k + 1, [], t => by
    simp only [chz, List.not_mem_nil, false_iff]
    rintro ⟨h, hl⟩
    have := h.length_le
    simp at this
    subst this
    simp at hl
  | k + 1, x :: xs, t => by
    simp only [chz, List.mem_append, List.mem_map]
    constructor
    · rintro (⟨a, ha, rfl⟩ | h)
      · have := chz_mem.1 ha; exact ⟨this.1.cons_cons x, by simp [this.2]⟩
      · have := chz_mem.1 h; exact ⟨this.1.cons x, this.2⟩
    · rintro ⟨h, hl⟩
      cases h with
      | cons _ h => exact .inr (chz_mem.2 ⟨h, hl⟩)
      | cons_cons _ h => exact .inl ⟨_, chz_mem.2 ⟨h, by simpa using hl⟩, rfl⟩

theorem flat_sub {α : Type} {A B : List (List α)} (h : A.Sublist B) : A.flatten.Sublist B.flatten := by
  induction h with
  | slnil => exact List.Sublist.refl _
  | cons x _ ih => simp only [List.flatten_cons]; exact ih.trans (List.sublist_append_right _ _)
  | cons_cons x _ ih => simp only [List.flatten_cons]; exact (List.Sublist.refl x).append ih

/-- What has few things, out of joined lists, lies in few of them. -/
theorem few {α : Type} : ∀ (L : List (List α)) (t : List α) (m : Nat), t.Sublist L.flatten → t.length ≤ m → ∃ A : List (List α), A.Sublist L ∧ A.length ≤ m ∧ t.Sublist A.flatten
  | [], t, m, h, _ => ⟨[], List.Sublist.refl _, by simp, h⟩
  | x :: xs, t, m, h, hm => by
    rw [List.flatten_cons] at h
    obtain ⟨a, b, rfl, ha, hb⟩ := List.sublist_append_iff.1 h
    by_cases ea : a = []
    · subst ea
      obtain ⟨A, h1, h2, h3⟩ := few xs b m hb (by simpa using hm)
      exact ⟨A, h1.cons x, h2, by simpa using h3⟩
    · have : 0 < a.length := List.length_pos_iff.2 ea
      simp only [List.length_append] at hm
      obtain ⟨A, h1, h2, h3⟩ := few xs b (m - 1) hb (by omega)
      exact ⟨x :: A, h1.cons_cons x, by simp; omega, by rw [List.flatten_cons]; exact ha.append h3⟩

theorem grow {α : Type} {A B : List α} (h : A.Sublist B) : ∀ m, A.length ≤ m → m ≤ B.length → ∃ C : List α, A.Sublist C ∧ C.Sublist B ∧ C.length = m := by
  induction h with
  | slnil => intro m h1 h2; exact ⟨[], List.Sublist.refl _, List.Sublist.refl _, by simp at h2; simp [h2]⟩
  | @cons A B x h ih =>
    intro m h1 h2
    by_cases e : m ≤ B.length
    · obtain ⟨C, c1, c2, c3⟩ := ih m h1 e
      exact ⟨C, c1, c2.cons x, c3⟩
    · exact ⟨x :: B, h.cons x, List.Sublist.refl _, by simp at h2 ⊢; omega⟩
  | @cons_cons A B x h ih =>
    intro m h1 h2
    simp only [List.length_cons] at h1 h2
    obtain ⟨C, c1, c2, c3⟩ := ih (m - 1) (by omega) (by omega)
    exact ⟨x :: C, c1.cons_cons x, c2.cons_cons x, by simp; omega⟩

/-- Three lists of many hold what three things of all hold. -/
theorem three {α : Type} (L : List (List α)) (h3 : 3 ≤ L.length) (t : List α) (ht : t.Sublist L.flatten) (hl : t.length ≤ 3) :
    ∃ c ∈ ext L.length 3 0, t.Sublist (pks L [] c).flatten := by
  obtain ⟨A, a1, a2, a3⟩ := few L t 3 ht hl
  obtain ⟨C, c1, c2, c3⟩ := grow a1 3 a2 h3
  have hm : C ∈ chz 3 L := chz_mem.2 ⟨c2, c3⟩
  have hx := chz_ext L [] 3 0
  rw [List.drop_zero] at hx
  rw [← hx] at hm
  obtain ⟨c, hc, rfl⟩ := List.mem_map.1 hm
  exact ⟨c, hc, a3.trans (flat_sub c1)⟩

end Go.Proofs.YtilblfoapjnmaaaGreatDoor

/- choose.Of: the walk that fills in a choice, from whatever is left to choose. -/
namespace Go.Proofs.YtilblfoapjnmaaaGreatDoor
open Go.RowKit Go.Shelf
attribute [local go_sem] Oper.semAt_some

/-- What a choice is handed over as: a row of its own, in none of the walk's own blocks. -/
def Hand (N0 : Nat) (W : World) (S : Nat → Prop) (x : List Int) (vs : Array Value) : Prop :=
  ∃ v B0, vs = #[v] ∧ W.ownsRow B0 3 1 v x.length (ints x) ∧ (∀ b, S b → b < B0) ∧ N0 ≤ B0 ∧ B0 ≤ W.heap.size

theorem lt_cell0 {w : World} {b : Nat} {v : Value} (h : w.cell? ⟨b, 0, none⟩ = some v) : b < w.heap.size := World.block_lt_of_cell? w ⟨b, 0, none⟩ h

end Go.Proofs.YtilblfoapjnmaaaGreatDoor

/- choose.Orders: the walk that fills in an order. -/
namespace Go.Proofs.YtilblfoapjnmaaaGreatDoor
open Go.RowKit Go.Shelf
attribute [local go_sem] Oper.semAt_some

/-- The orders whose next number is q at least. -/
def ordsF (n k : Nat) (ix : List Int) (q : Nat) : List (List Int) := (List.range' q (n - q)).flatMap fun (v : Nat) => if ix.contains (v : Int) then [] else ords n k (ix ++ [(v : Int)])

theorem ordsF_zero (n k : Nat) (ix : List Int) : ordsF n k ix 0 = ords n (k + 1) ix := by simp [ordsF, ords, List.range_eq_range']
theorem ordsF_end (n k : Nat) (ix : List Int) : ordsF n k ix n = [] := by simp [ordsF]
theorem ordsF_step {n k q : Nat} (ix : List Int) (h : q < n) : ordsF n k ix q = (if ix.contains (q : Int) then [] else ords n k (ix ++ [(q : Int)])) ++ ordsF n k ix (q + 1) := by
  obtain ⟨d, hd⟩ : ∃ d, n - q = d + 1 := ⟨n - q - 1, by omega⟩
  unfold ordsF
  rw [hd, List.range'_succ, show n - (q + 1) = d by omega]
  simp

/-- What the walk reads of its own. -/
structure Oq (W : World) (l n bo bn by' bf ba : Nat) (ix : List Int) : Prop where
  co : W.heap[bo]? = some (.cells #[.slice (some ⟨ba, 0, none⟩) ix.length n] 26 (0, 0))
  cn : W.cell? ⟨bn, 0, none⟩ = some (.int .i64 n)
  cy : W.cell? ⟨by', 0, none⟩ = some (.func (.yield l) #[] #[])
  cf : W.cell? ⟨bf, 0, none⟩ = some (.func (.func 88) #[] #[.pointer (some ⟨bo, 0, none⟩), .pointer (some ⟨bn, 0, none⟩), .pointer (some ⟨by', 0, none⟩), .pointer (some ⟨bf, 0, none⟩)])
  own : W.ownsRow 0 3 1 (.slice (some ⟨ba, 0, none⟩) ix.length n) ix.length (ints ix)

theorem oq_cell {w : World} {b : Nat} {x : Value} {t : TypeId} (h : w.heap[b]? = some (.cells #[x] t (0, 0))) : w.cell? ⟨b, 0, none⟩ = some x := by simp [World.cell?, h]
theorem oq_frozen {w : World} {b : Nat} {x : Value} {t : TypeId} (h : w.heap[b]? = some (.cells #[x] t (0, 0))) : w.frozen? ⟨b, 0, none⟩ = false := by simp [World.frozen?, h]
theorem oq_set {w : World} {b : Nat} {x y : Value} {t : TypeId} (h : w.heap[b]? = some (.cells #[x] t (0, 0))) : (w.setCell ⟨b, 0, none⟩ y).heap[b]? = some (.cells #[y] t (0, 0)) := by
  simp [World.setCell, Array.getElem?_modify, h]

theorem Oq.move {W W' : World} {l n bo bn by' bf ba : Nat} {ix : List Int} (h : Oq W l n bo bn by' bf ba ix)
    (hk : ∀ b, b = bo ∨ b = bn ∨ b = by' ∨ b = bf ∨ b = ba → b < W.heap.size → W'.heap[b]? = W.heap[b]?) : Oq W' l n bo bn by' bf ba ix := by
  refine ⟨(hk bo (.inl rfl) (Array.getElem?_eq_some_iff.1 h.co).1).trans h.co, (World.cell?_of_block (w := W) (hk bn (.inr (.inl rfl)) (lt_cell0 h.cn))).trans h.cn,
   (World.cell?_of_block (w := W) (hk by' (.inr (.inr (.inl rfl))) (lt_cell0 h.cy))).trans h.cy, (World.cell?_of_block (w := W) (hk bf (.inr (.inr (.inr (.inl rfl)))) (lt_cell0 h.cf))).trans h.cf, h.own.1, ?_⟩
  rcases h.own.2 with h2 | ⟨g, cap, cur, e, hb, hh, r⟩
  · exact .inl h2
  · simp only [Value.slice.injEq, Option.some.injEq, Addr.mk.injEq] at e
    obtain ⟨⟨rfl, _⟩, _, rfl⟩ := e
    exact .inr ⟨ba, n, cur, rfl, hb, (hk ba (by simp) (Array.getElem?_eq_some_iff.1 hh).1).trans hh, r⟩

/-- The blocks of the walk's own. -/
structure Bxq (S : Nat → Prop) (bo bn by' bf ba : Nat) : Prop where
  o : S bo
  n : S bn
  y : S by'
  f : S bf
  a : S ba
  no : ∀ b, b = bn ∨ b = by' ∨ b = bf ∨ b = ba → b ≠ bo
  na : ∀ b, b = bn ∨ b = by' ∨ b = bf ∨ b = bo → b ≠ ba

theorem Bxq.of {S : Nat → Prop} {bo bn by' bf ba : Nat} (h : Bxq S bo bn by' bf ba) {b : Nat} (hb : b = bo ∨ b = bn ∨ b = by' ∨ b = bf ∨ b = ba) : S b := by
  rcases hb with rfl | rfl | rfl | rfl | rfl
  · exact h.o
  · exact h.n
  · exact h.y
  · exact h.f
  · exact h.a

/-- The order's slice told anew. -/
theorem Oq.set {W : World} {S : Nat → Prop} {l n bo bn by' bf ba : Nat} {ix iy : List Int} (h : Oq W l n bo bn by' bf ba ix) (hbx : Bxq S bo bn by' bf ba) (hown : W.ownsRow 0 3 1 (.slice (some ⟨ba, 0, none⟩) iy.length n) iy.length (ints iy)) :
    Oq (W.setCell ⟨bo, 0, none⟩ (.slice (some ⟨ba, 0, none⟩) iy.length n)) l n bo bn by' bf ba iy := by
  have hk : ∀ b, b = bn ∨ b = by' ∨ b = bf ∨ b = ba → (W.setCell ⟨bo, 0, none⟩ (.slice (some ⟨ba, 0, none⟩) iy.length n)).heap[b]? = W.heap[b]? := fun b hb => Below.heap_setCell _ _ _ _ (hbx.no b hb)
  refine ⟨oq_set h.co, (World.cell?_of_block (w := W) (hk bn (.inl rfl))).trans h.cn,
   (World.cell?_of_block (w := W) (hk by' (.inr (.inl rfl)))).trans h.cy, (World.cell?_of_block (w := W) (hk bf (.inr (.inr (.inl rfl))))).trans h.cf, hown.1, ?_⟩
  rcases hown.2 with h2 | ⟨g, cap, cur, e, hb, hh, r⟩
  · exact .inl h2
  · simp only [Value.slice.injEq, Option.some.injEq, Addr.mk.injEq] at e
    obtain ⟨⟨rfl, _⟩, _, rfl⟩ := e
    exact .inr ⟨ba, n, cur, rfl, hb, (hk ba (by simp)).trans hh, r⟩

theorem own_less {W : World} {ba n : Nat} {ix : List Int} {z : Int} (h : W.ownsRow 0 3 1 (.slice (some ⟨ba, 0, none⟩) (ix ++ [z]).length n) (ix ++ [z]).length (ints (ix ++ [z]))) : W.ownsRow 0 3 1 (.slice (some ⟨ba, 0, none⟩) ix.length n) ix.length (ints ix) := by
  refine ⟨by simp, ?_⟩
  rcases h.2 with h2 | ⟨g, cap, cur, e, hb, hh, r1, r2, r3, r4⟩
  · simp at h2
  · simp only [Value.slice.injEq, Option.some.injEq, Addr.mk.injEq] at e
    obtain ⟨⟨rfl, _⟩, _, rfl⟩ := e
    refine .inr ⟨ba, n, cur, rfl, hb, hh, by simp at r1; omega, r2, r3, ?_⟩
    have := congrArg (List.take ix.length) r4
    rw [List.take_take] at this
    simp only [Nat.mul_one, List.length_append, List.length_singleton] at this ⊢
    rw [show min ix.length (ix.length + 1) = ix.length by omega] at this
    rw [this]
    simp [ints]

def FillO (k : Nat) : Prop := ∀ (N0 l n bo bn by' bf ba : Nat) (S T : Nat → Prop) (J Jx : (Nat → Prop) → List (List Int) → World → Prop) (cs : List (List Int)), Stab J → Stab Jx → Bxq S bo bn by' bf ba → n ≤ 6 → N0 ≤ ba →
  (∀ m S pre x vs W1, J S pre W1 → (pre ++ [x]) <+: cs → Hand N0 W1 S x vs → YieldAt Fence.wide m Tryz.prog l vs W1 fun e W' => Kpt (fun b => S b ∨ T b) W1 W' ∧
      ((e = .returned (.bool true) ∧ J S (pre ++ [x]) W') ∨ (e = .returned (.bool false) ∧ Jx S (pre ++ [x]) W'))) →
  ∀ (ix : List Int) (pre : List (List Int)) (W : World), ix.length + k = n → Oq W l n bo bn by' bf ba ix →
    (∀ b, S b → b < W.heap.size) → J S pre W → (pre ++ ords n k ix) <+: cs →
    CallsIn Fence.wide 0 Tryz.prog 88 #[.pointer (some ⟨bo, 0, none⟩), .pointer (some ⟨bn, 0, none⟩), .pointer (some ⟨by', 0, none⟩), .pointer (some ⟨bf, 0, none⟩)] W fun e W' =>
      ∃ b : Bool, e = .returned (.bool b) ∧ Oq W' l n bo bn by' bf ba ix ∧ W.heap.size ≤ W'.heap.size ∧ ((b = true ∧ J S (pre ++ ords n k ix) W') ∨ (b = false ∧ ∃ q, q <+: cs ∧ Jx S q W'))

set_option maxRecDepth 100000 in
set_option maxHeartbeats 2000000 in
theorem fillO_zero : FillO 0 := by
  intro N0 l n bo bn by' bf ba S T J Jx cs hst hstx hbx hn hN0 hY ix pre W hk ho hsz hJ hpre
  have hk' : ix.length = n := by omega
  subst hk'
  have hext : ords ix.length 0 ix = [ix] := rfl
  rw [hext] at hpre ⊢
  have c1 := oq_cell ho.co
  have c2 := ho.cy
  have c3 := ho.cn
  have HV : Hid (Sl 0 3 W.drew (.slice (some ⟨ba, 0, none⟩) ix.length ix.length) (ints ix)) := (Sl.own (B := 0) ho.own).drewN 1
  have HCL : Hid (Calls Tryz.prog 89 #[.slice (some ⟨ba, 0, none⟩) ix.length ix.length] W.drew fun e w' => ∃ u, e = .returned u ∧ w'.ownsRow W.heap.size 3 1 u ix.length (ints ix) ∧ Below W.heap.size W.drew w') := clone_any 0 ix _ W.drew HV.out (by omega)
  have HYY : Hid (∀ u w1, w1.ownsRow W.heap.size 3 1 u ix.length (ints ix) → Below W.heap.size W.drew w1 → YieldAt Fence.wide 0 Tryz.prog l #[u] w1 fun e W' =>
      ∃ b, e = .returned (.bool b) ∧ Kpt (fun b => S b ∨ T b) w1 W' ∧ Below W.heap.size W.drew w1 ∧ ((b = true ∧ J S (pre ++ [ix]) W') ∨ (b = false ∧ Jx S (pre ++ [ix]) W'))) := fun u w1 h1 h2 =>
    YieldAt.mono (hY 0 S pre ix #[u] w1 (hst S S pre W w1 hJ (Chg.of_below (a := W) (N := W.heap.size) ⟨h2.os, h2.tape, h2.output, h2.size, h2.block⟩ (Nat.le_refl _)) (fun b hb => .inl hb)) hpre ⟨u, W.heap.size, rfl, h1, hsz, by have := hsz ba hbx.a; omega, h2.size⟩) fun e W' h => h.2.elim (fun ⟨a, b⟩ => ⟨true, a, h.1, h2, .inl ⟨rfl, b⟩⟩) (fun ⟨a, b⟩ => ⟨false, a, h.1, h2, .inr ⟨rfl, b⟩⟩)
  have HO : Hid (Oq W l ix.length bo bn by' bf ba ix) := ho
  have HSZ : Hid (∀ b, S b → b < W.heap.size) := hsz
  have HBX : Hid (Bxq S bo bn by' bf ba) := hbx
  have HPRE : Hid ((pre ++ [ix]) <+: cs) := hpre
  have HLT : Hid (by' < W.heap.size) := lt_cell0 c2
  clear hst hstx hY ho hsz hJ hpre hbx hext
  refine callsIn_of_wp Tryz.func88 rfl trivial ?_ rfl
  simp only [Tryz.ntmps88, List.size_toArray, List.length_cons, List.length_nil, Nat.reduceAdd, Nat.reduceSub, Array.replicate_succ, Array.replicate_zero, List.push_toArray, List.append_toArray, List.nil_append, List.cons_append]
  gi_wp2_with fail
  gi_region_with (first | (refine ⟨trivial, rfl, ?_⟩; gi_at_call 89; refine (callsIn_wide.2 HCL.out).mono ?_; rintro e w1 ⟨u, rfl, h1, h2⟩; have c2' := (h2.cell (p := ⟨by', 0, none⟩) HLT.out).trans c2; obtain ⟨fn, tmps, assign, body, hy, hR⟩ := HYY.out u w1 h1 h2; clear h1 h2) | (refine ⟨rfl, ?_⟩; refine hR.mono ?_; clear hR hy; rintro e W' ⟨b, rfl, hP⟩; have HP : Hid (Kpt (fun b => S b ∨ T b) w1 W' ∧ Below W.heap.size W.drew w1 ∧ ((b = true ∧ J S (pre ++ [ix]) W') ∨ (b = false ∧ Jx S (pre ++ [ix]) W'))) := hP; clear hP))
  all_goals
    gi_wp2
    go_ret
    obtain ⟨hkp, hb, hP⟩ := HP.out
    have hkw : ∀ b, S b → b < W.heap.size → W'.heap[b]? = W.heap[b]? := fun b hb1 hb2 => (hkp.block b (Nat.lt_of_lt_of_le hb2 hb.size) (.inl hb1)).trans (hb.block b hb2)
    refine ⟨b, rfl, HO.out.move (fun b hb1 hb2 => hkw b (HBX.out.of hb1) hb2), Nat.le_trans hb.size hkp.size, ?_⟩
    rcases hP with h | ⟨h1, h2⟩
    · exact .inl h
    · exact .inr ⟨h1, _, HPRE.out, h2⟩

end Go.Proofs.YtilblfoapjnmaaaGreatDoor
