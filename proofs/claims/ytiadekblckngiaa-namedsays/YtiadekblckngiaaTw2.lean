/- choose.Orders: the walk that fills in an order. -/
import Derived.Test.YtiadekblckngiaaRun1
import Derived.Test.YtiadekblckngiaaRfs
import Derived.Test.YtiadekblckngiaaOf1
import Derived.Test.YtiadekblckngiaaTp1
import Derived.Test.YtiadekblckngiaaTw1
import Derived.Deep.OwnRows
import Derived.Stop.RegionWithIn
namespace Go.Proofs.Ytiadekblckngiaa
open Go.RowKit Go.Shelf
attribute [local go_sem] Oper.semAt_some

/-- The orders whose next number is q at least. -/
def ordsF (n k : Nat) (ix : List Int) (q : Nat) : List (List Int) := (List.range' q (n - q)).flatMap fun (v : Nat) => if ix.contains (v : Int) then [] else ords n k (ix ++ [(v : Int)])

theorem ordsF_zero (n k : Nat) (ix : List Int) : ordsF n k ix 0 = ords n (k + 1) ix := by simp [ordsF, ords, List.range_eq_range']
theorem ordsF_end (n k : Nat) (ix : List Int) : ordsF n k ix n = [] := by simp [ordsF]
theorem ordsF_step {n k q : Nat} (ix : List Int) (h : q < n) : ordsF n k ix q = (if ix.contains (q : Int) then [] else ords n k (ix ++ [(q : Int)])) ++ ordsF n k ix (q + 1) := by
  obtain ⟨d, hd⟩ : ∃ d, n - q = d + 1 := ⟨n - q - 1, by omega⟩
  unfold ordsF
  rw [hd, List.range'_succ, show n - (q + 1) = d by omega]
  simp

/-- What the walk reads of its own. -/
structure Oq (W : World) (l n bo bn by' bf ba : Nat) (ix : List Int) : Prop where
  co : W.heap[bo]? = some (.cells #[.slice (some ⟨ba, 0, none⟩) ix.length n] 35 (0, 0))
  cn : W.cell? ⟨bn, 0, none⟩ = some (.int .i64 n)
  cy : W.cell? ⟨by', 0, none⟩ = some (.func (.yield l) #[] #[])
  cf : W.cell? ⟨bf, 0, none⟩ = some (.func (.func 32) #[] #[.pointer (some ⟨bo, 0, none⟩), .pointer (some ⟨bn, 0, none⟩), .pointer (some ⟨by', 0, none⟩), .pointer (some ⟨bf, 0, none⟩)])
  own : W.ownsRow 0 3 1 (.slice (some ⟨ba, 0, none⟩) ix.length n) ix.length (ints ix)

theorem oq_cell {w : World} {b : Nat} {x : Value} {t : TypeId} (h : w.heap[b]? = some (.cells #[x] t (0, 0))) : w.cell? ⟨b, 0, none⟩ = some x := by simp [World.cell?, h]
theorem oq_frozen {w : World} {b : Nat} {x : Value} {t : TypeId} (h : w.heap[b]? = some (.cells #[x] t (0, 0))) : w.frozen? ⟨b, 0, none⟩ = false := by simp [World.frozen?, h]
theorem oq_set {w : World} {b : Nat} {x y : Value} {t : TypeId} (h : w.heap[b]? = some (.cells #[x] t (0, 0))) : (w.setCell ⟨b, 0, none⟩ y).heap[b]? = some (.cells #[y] t (0, 0)) := by
  simp [World.setCell, Array.getElem?_modify, h]

theorem own_lt {w : World} {B g k c : Nat} {t : TypeId} {xs : List Value} (h : w.ownsRow B t 1 (.slice (some ⟨g, 0, none⟩) k c) k xs) : g < w.heap.size := (h.lt g rfl).2

theorem Oq.move {W W' : World} {l n bo bn by' bf ba : Nat} {ix : List Int} (h : Oq W l n bo bn by' bf ba ix)
    (hk : ∀ b, b = bo ∨ b = bn ∨ b = by' ∨ b = bf ∨ b = ba → b < W.heap.size → W'.heap[b]? = W.heap[b]?) : Oq W' l n bo bn by' bf ba ix := by
  refine ⟨(hk bo (.inl rfl) (Array.getElem?_eq_some_iff.1 h.co).1).trans h.co, (World.cell?_of_block (w := W) (hk bn (.inr (.inl rfl)) (lt_cell0 h.cn))).trans h.cn,
   (World.cell?_of_block (w := W) (hk by' (.inr (.inr (.inl rfl))) (lt_cell0 h.cy))).trans h.cy, (World.cell?_of_block (w := W) (hk bf (.inr (.inr (.inr (.inl rfl)))) (lt_cell0 h.cf))).trans h.cf, h.own.1, ?_⟩
  rcases h.own.2 with h2 | ⟨g, cap, cur, e, hb, hh, r⟩
  · exact .inl h2
  · simp only [Value.slice.injEq, Option.some.injEq, Addr.mk.injEq] at e
    obtain ⟨⟨rfl, _⟩, _, rfl⟩ := e
    exact .inr ⟨ba, n, cur, rfl, hb, (hk ba (by simp) (Array.getElem?_eq_some_iff.1 hh).1).trans hh, r⟩

/-- The blocks of the walk's own. -/
structure Bxq (S : Nat → Prop) (bo bn by' bf ba : Nat) : Prop where
  o : S bo
  n : S bn
  y : S by'
  f : S bf
  a : S ba
  no : ∀ b, b = bn ∨ b = by' ∨ b = bf ∨ b = ba → b ≠ bo
  na : ∀ b, b = bn ∨ b = by' ∨ b = bf ∨ b = bo → b ≠ ba

theorem Bxq.of {S : Nat → Prop} {bo bn by' bf ba : Nat} (h : Bxq S bo bn by' bf ba) {b : Nat} (hb : b = bo ∨ b = bn ∨ b = by' ∨ b = bf ∨ b = ba) : S b := by
  rcases hb with rfl | rfl | rfl | rfl | rfl
  · exact h.o
  · exact h.n
  · exact h.y
  · exact h.f
  · exact h.a

/-- The order's slice told anew. -/
theorem Oq.set {W : World} {S : Nat → Prop} {l n bo bn by' bf ba : Nat} {ix iy : List Int} (h : Oq W l n bo bn by' bf ba ix) (hbx : Bxq S bo bn by' bf ba) (hown : W.ownsRow 0 3 1 (.slice (some ⟨ba, 0, none⟩) iy.length n) iy.length (ints iy)) :
    Oq (W.setCell ⟨bo, 0, none⟩ (.slice (some ⟨ba, 0, none⟩) iy.length n)) l n bo bn by' bf ba iy := by
  have hk : ∀ b, b = bn ∨ b = by' ∨ b = bf ∨ b = ba → (W.setCell ⟨bo, 0, none⟩ (.slice (some ⟨ba, 0, none⟩) iy.length n)).heap[b]? = W.heap[b]? := fun b hb => Below.heap_setCell _ _ _ _ (hbx.no b hb)
  refine ⟨oq_set h.co, (World.cell?_of_block (w := W) (hk bn (.inl rfl))).trans h.cn,
   (World.cell?_of_block (w := W) (hk by' (.inr (.inl rfl)))).trans h.cy, (World.cell?_of_block (w := W) (hk bf (.inr (.inr (.inl rfl))))).trans h.cf, hown.1, ?_⟩
  rcases hown.2 with h2 | ⟨g, cap, cur, e, hb, hh, r⟩
  · exact .inl h2
  · simp only [Value.slice.injEq, Option.some.injEq, Addr.mk.injEq] at e
    obtain ⟨⟨rfl, _⟩, _, rfl⟩ := e
    exact .inr ⟨ba, n, cur, rfl, hb, (hk ba (by simp)).trans hh, r⟩

theorem own_less {W : World} {ba n : Nat} {ix : List Int} {z : Int} (h : W.ownsRow 0 3 1 (.slice (some ⟨ba, 0, none⟩) (ix ++ [z]).length n) (ix ++ [z]).length (ints (ix ++ [z]))) : W.ownsRow 0 3 1 (.slice (some ⟨ba, 0, none⟩) ix.length n) ix.length (ints ix) := by
  refine ⟨by simp, ?_⟩
  rcases h.2 with h2 | ⟨g, cap, cur, e, hb, hh, r1, r2, r3, r4⟩
  · simp at h2
  · simp only [Value.slice.injEq, Option.some.injEq, Addr.mk.injEq] at e
    obtain ⟨⟨rfl, _⟩, _, rfl⟩ := e
    refine .inr ⟨ba, n, cur, rfl, hb, hh, by simp at r1; omega, r2, r3, ?_⟩
    have := congrArg (List.take ix.length) r4
    rw [List.take_take] at this
    simp only [Nat.mul_one, List.length_append, List.length_singleton] at this ⊢
    rw [show min ix.length (ix.length + 1) = ix.length by omega] at this
    rw [this]
    simp [ints]

def FillO (k : Nat) : Prop := ∀ (N0 l n bo bn by' bf ba : Nat) (S T : Nat → Prop) (J Jx : (Nat → Prop) → List (List Int) → World → Prop) (cs : List (List Int)), Stab J → Stab Jx → Bxq S bo bn by' bf ba → n ≤ 6 → N0 ≤ ba →
  (∀ m S pre x vs W1, J S pre W1 → (pre ++ [x]) <+: cs → Hand N0 W1 S x vs → YieldAt Fence.wide m Try.prog l vs W1 fun e W' => Kpt (fun b => S b ∨ T b) W1 W' ∧
      ((e = .returned (.bool true) ∧ J S (pre ++ [x]) W') ∨ (e = .returned (.bool false) ∧ Jx S (pre ++ [x]) W'))) →
  ∀ (ix : List Int) (pre : List (List Int)) (W : World), ix.length + k = n → Oq W l n bo bn by' bf ba ix →
    (∀ b, S b → b < W.heap.size) → J S pre W → (pre ++ ords n k ix) <+: cs →
    CallsIn Fence.wide 0 Try.prog 32 #[.pointer (some ⟨bo, 0, none⟩), .pointer (some ⟨bn, 0, none⟩), .pointer (some ⟨by', 0, none⟩), .pointer (some ⟨bf, 0, none⟩)] W fun e W' =>
      ∃ b : Bool, e = .returned (.bool b) ∧ Oq W' l n bo bn by' bf ba ix ∧ W.heap.size ≤ W'.heap.size ∧ ((b = true ∧ J S (pre ++ ords n k ix) W') ∨ (b = false ∧ ∃ q, q <+: cs ∧ Jx S q W'))

set_option maxRecDepth 100000 in
set_option maxHeartbeats 2000000 in
theorem fillO_zero : FillO 0 := by
  intro N0 l n bo bn by' bf ba S T J Jx cs hst hstx hbx hn hN0 hY ix pre W hk ho hsz hJ hpre
  have hk' : ix.length = n := by omega
  subst hk'
  have hext : ords ix.length 0 ix = [ix] := rfl
  rw [hext] at hpre ⊢
  have c1 := oq_cell ho.co
  have c2 := ho.cy
  have c3 := ho.cn
  have HV : Hid (Sl 0 3 W.drew (.slice (some ⟨ba, 0, none⟩) ix.length ix.length) (ints ix)) := (Sl.own (B := 0) ho.own).drewN 1
  have HCL : Hid (Calls Try.prog 33 #[.slice (some ⟨ba, 0, none⟩) ix.length ix.length] W.drew fun e w' => ∃ u, e = .returned u ∧ w'.ownsRow W.heap.size 3 1 u ix.length (ints ix) ∧ Below W.heap.size W.drew w') := clone_any 0 ix _ W.drew HV.out (by omega)
  have HYY : Hid (∀ u w1, w1.ownsRow W.heap.size 3 1 u ix.length (ints ix) → Below W.heap.size W.drew w1 → YieldAt Fence.wide 0 Try.prog l #[u] w1 fun e W' =>
      ∃ b, e = .returned (.bool b) ∧ Kpt (fun b => S b ∨ T b) w1 W' ∧ Below W.heap.size W.drew w1 ∧ ((b = true ∧ J S (pre ++ [ix]) W') ∨ (b = false ∧ Jx S (pre ++ [ix]) W'))) := fun u w1 h1 h2 =>
    YieldAt.mono (hY 0 S pre ix #[u] w1 (hst S S pre W w1 hJ (Chg.of_below (a := W) (N := W.heap.size) ⟨h2.os, h2.tape, h2.output, h2.size, h2.block⟩ (Nat.le_refl _)) (fun b hb => .inl hb)) hpre ⟨u, W.heap.size, rfl, h1, hsz, by have := hsz ba hbx.a; omega, h2.size⟩) fun e W' h => h.2.elim (fun ⟨a, b⟩ => ⟨true, a, h.1, h2, .inl ⟨rfl, b⟩⟩) (fun ⟨a, b⟩ => ⟨false, a, h.1, h2, .inr ⟨rfl, b⟩⟩)
  have HO : Hid (Oq W l ix.length bo bn by' bf ba ix) := ho
  have HSZ : Hid (∀ b, S b → b < W.heap.size) := hsz
  have HBX : Hid (Bxq S bo bn by' bf ba) := hbx
  have HPRE : Hid ((pre ++ [ix]) <+: cs) := hpre
  have HLT : Hid (by' < W.heap.size) := lt_cell0 c2
  clear hst hstx hY ho hsz hJ hpre hbx hext
  refine callsIn_of_wp Try.func32 rfl trivial ?_ rfl
  simp only [Try.ntmps32, List.size_toArray, List.length_cons, List.length_nil, Nat.reduceAdd, Nat.reduceSub, Array.replicate_succ, Array.replicate_zero, List.push_toArray, List.append_toArray, List.nil_append, List.cons_append]
  gi_wp2_with fail
  gi_region_with (first | (refine ⟨trivial, rfl, ?_⟩; gi_at_call 33; refine (callsIn_wide.2 HCL.out).mono ?_; rintro e w1 ⟨u, rfl, h1, h2⟩; have c2' := (h2.cell (p := ⟨by', 0, none⟩) HLT.out).trans c2; obtain ⟨fn, tmps, assign, body, hy, hR⟩ := HYY.out u w1 h1 h2; clear h1 h2) | (refine ⟨rfl, ?_⟩; refine hR.mono ?_; clear hR hy; rintro e W' ⟨b, rfl, hP⟩; have HP : Hid (Kpt (fun b => S b ∨ T b) w1 W' ∧ Below W.heap.size W.drew w1 ∧ ((b = true ∧ J S (pre ++ [ix]) W') ∨ (b = false ∧ Jx S (pre ++ [ix]) W'))) := hP; clear hP))
  all_goals
    gi_wp2
    go_ret
    obtain ⟨hkp, hb, hP⟩ := HP.out
    have hkw : ∀ b, S b → b < W.heap.size → W'.heap[b]? = W.heap[b]? := fun b hb1 hb2 => (hkp.block b (Nat.lt_of_lt_of_le hb2 hb.size) (.inl hb1)).trans (hb.block b hb2)
    refine ⟨b, rfl, HO.out.move (fun b hb1 hb2 => hkw b (HBX.out.of hb1) hb2), Nat.le_trans hb.size hkp.size, ?_⟩
    rcases hP with h | ⟨h1, h2⟩
    · exact .inl h
    · exact .inr ⟨h1, _, HPRE.out, h2⟩

end Go.Proofs.Ytiadekblckngiaa
