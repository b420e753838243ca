/- choose.Of: the walk that fills in a choice, from whatever is left to choose. -/
import Derived.Test.YtgfnmkenpgnllaaGreatRun1
import Derived.Test.YtgfnmkenpgnllaaGreatRfs
import Derived.Test.YtgfnmkenpgnllaaGreatChz
import Derived.Deep.OwnRows
import Derived.Stop.RegionWithIn
namespace Go.Proofs.YtgfnmkenpgnllaaGreat
open Go.RowKit Go.Shelf
attribute [local go_sem] Oper.semAt_some

/-- What a choice is handed over as: a row of its own, in none of the walk's own blocks. -/
def Hand (N0 : Nat) (W : World) (S : Nat → Prop) (x : List Int) (vs : Array Value) : Prop :=
  ∃ v B0, vs = #[v] ∧ W.ownsRow B0 3 1 v x.length (ints x) ∧ (∀ b, S b → b < B0) ∧ N0 ≤ B0 ∧ B0 ≤ W.heap.size

/-- What the walk reads of its own. -/
structure Ox (W : World) (l n many bm by' bc bn bf ba : Nat) : Prop where
  cm : W.cell? ⟨bm, 0, none⟩ = some (.int .i64 many)
  cy : W.cell? ⟨by', 0, none⟩ = some (.func (.yield l) #[] #[])
  cc : W.cell? ⟨bc, 0, none⟩ = some (.slice (some ⟨ba, 0, none⟩) many many)
  cn : W.cell? ⟨bn, 0, none⟩ = some (.int .i64 n)
  cf : W.cell? ⟨bf, 0, none⟩ = some (.func (.func 87) #[] #[.pointer (some ⟨bm, 0, none⟩), .pointer (some ⟨by', 0, none⟩), .pointer (some ⟨bc, 0, none⟩), .pointer (some ⟨bn, 0, none⟩), .pointer (some ⟨bf, 0, none⟩)])

theorem lt_cell0 {w : World} {b : Nat} {v : Value} (h : w.cell? ⟨b, 0, none⟩ = some v) : b < w.heap.size := World.block_lt_of_cell? w ⟨b, 0, none⟩ h

theorem Ox.move {W W' : World} {l n many bm by' bc bn bf ba : Nat} (h : Ox W l n many bm by' bc bn bf ba)
    (hk : ∀ b, b = bm ∨ b = by' ∨ b = bc ∨ b = bn ∨ b = bf → b < W.heap.size → W'.heap[b]? = W.heap[b]?) : Ox W' l n many bm by' bc bn bf ba :=
  ⟨(World.cell?_of_block (w := W) (hk bm (.inl rfl) (lt_cell0 h.cm))).trans h.cm,
   (World.cell?_of_block (w := W) (hk by' (.inr (.inl rfl)) (lt_cell0 h.cy))).trans h.cy,
   (World.cell?_of_block (w := W) (hk bc (.inr (.inr (.inl rfl))) (lt_cell0 h.cc))).trans h.cc,
   (World.cell?_of_block (w := W) (hk bn (.inr (.inr (.inr (.inl rfl)))) (lt_cell0 h.cn))).trans h.cn,
   (World.cell?_of_block (w := W) (hk bf (.inr (.inr (.inr (.inr rfl)))) (lt_cell0 h.cf))).trans h.cf⟩

theorem Sl.row' {B b n : Nat} {t : TypeId} {w : World} {f : Nat → Value} (h : w.rowIs b t n f) (hn : n ≤ maxLen) {xs : List Value} (hx : xs.length = n) (hf : ∀ i, i < n → xs[i]? = some (f i)) : Sl B t w (.slice (some ⟨b, 0, none⟩) n n) xs := by
  refine ⟨some ⟨b, 0, none⟩, n, by rw [hx], by omega, hn, fun i hi => ⟨b, 0, rfl, ?_, ?_⟩, fun h => by cases h⟩
  · have := h.cell (i := i) (by omega)
    simp only [Nat.zero_add]
    rw [this, hf i (by omega)]
  · obtain ⟨c, h1, _⟩ := h
    exact Or.inr ⟨c, h1⟩

/-- The blocks of the walk's own. -/
structure Bxo (S : Nat → Prop) (bm by' bc bn bf ba : Nat) : Prop where
  m : S bm
  y : S by'
  c : S bc
  n : S bn
  f : S bf
  a : S ba
  ne : ∀ b, b = bm ∨ b = by' ∨ b = bc ∨ b = bn ∨ b = bf → b ≠ ba

theorem Bxo.of {S : Nat → Prop} {bm by' bc bn bf ba : Nat} (h : Bxo S bm by' bc bn bf ba) {b : Nat} (hb : b = bm ∨ b = by' ∨ b = bc ∨ b = bn ∨ b = bf) : S b := by
  rcases hb with rfl | rfl | rfl | rfl | rfl
  · exact h.m
  · exact h.y
  · exact h.c
  · exact h.n
  · exact h.f

def FillSaid (k : Nat) : Prop := ∀ (N0 l n many bm by' bc bn bf ba : Nat) (S T : Nat → Prop) (J Jx : (Nat → Prop) → List (List Int) → World → Prop) (cs : List (List Int)), Stab J → Bxo S bm by' bc bn bf ba → many ≤ 5 → n ≤ 1000 → N0 ≤ ba →
  (∀ m S pre x vs W1, J S pre W1 → (pre ++ [x]) <+: cs → Hand N0 W1 S x vs → YieldAt Fence.wide m Tryz.prog l vs W1 fun e W' => Kpt (fun b => S b ∨ T b) W1 W' ∧
      ((e = .returned (.bool true) ∧ J S (pre ++ [x]) W') ∨ (e = .returned (.bool false) ∧ Jx S (pre ++ [x]) W'))) →
  ∀ (ix : List Int) (fr : Nat) (pre : List (List Int)) (f : Nat → Value) (W : World), ix.length + k = many → fr ≤ n → Ox W l n many bm by' bc bn bf ba → W.rowIs ba 3 many f → (∀ j, j < ix.length → f j = .int .i64 (ix.getD j 0)) →
    (∀ b, S b → b < W.heap.size) → J S pre W → (pre ++ (ext n k fr).map (ix ++ ·)) <+: cs →
    CallsIn Fence.wide 0 Tryz.prog 87 #[.int .i64 ix.length, .int .i64 fr, .pointer (some ⟨bm, 0, none⟩), .pointer (some ⟨by', 0, none⟩), .pointer (some ⟨bc, 0, none⟩), .pointer (some ⟨bn, 0, none⟩), .pointer (some ⟨bf, 0, none⟩)] W fun e W' =>
      (e = .returned (.bool true) ∧ J S (pre ++ (ext n k fr).map (ix ++ ·)) W' ∧ Ox W' l n many bm by' bc bn bf ba ∧ W.heap.size ≤ W'.heap.size ∧ ∃ f', W'.rowIs ba 3 many f' ∧ ∀ j, j < ix.length → f' j = f j) ∨
      (e = .returned (.bool false) ∧ ∃ q, q <+: cs ∧ Jx S q W')

set_option maxRecDepth 100000 in
set_option maxHeartbeats 2000000 in
theorem fill_zero : FillSaid 0 := by
  intro N0 l n many bm by' bc bn bf ba S T J Jx cs hst hbx hm5 hn hN0 hY ix fr pre f W hk hfr ho hrow hf hsz hJ hpre
  have hk' : ix.length = many := by omega
  subst hk'
  have hext : (ext n 0 fr).map (ix ++ ·) = [ix] := by simp [ext]
  rw [hext] at hpre ⊢
  have c1 := ho.cm
  have c2 := ho.cy
  have c3 := ho.cc
  have HV : Hid (Sl 0 3 W.drew (.slice (some ⟨ba, 0, none⟩) ix.length ix.length) (ints ix)) := Sl.row' hrow (by unfold maxLen; omega) (by simp) (fun i hi => by rw [hf i hi, ints_get ix i hi])
  have HCL : Hid (Calls Tryz.prog 88 #[.slice (some ⟨ba, 0, none⟩) ix.length ix.length] W.drew fun e w' => ∃ u, e = .returned u ∧ w'.ownsRow W.heap.size 3 1 u ix.length (ints ix) ∧ Below W.heap.size W.drew w') := clone_any 0 ix _ W.drew HV.out (by omega)
  have HYY : Hid (∀ u w1, w1.ownsRow W.heap.size 3 1 u ix.length (ints ix) → Below W.heap.size W.drew w1 → YieldAt Fence.wide 0 Tryz.prog l #[u] w1 fun e W' =>
      ∃ b, e = .returned (.bool b) ∧ ((b = true ∧ J S (pre ++ [ix]) W' ∧ Kpt (fun b => S b ∨ T b) w1 W' ∧ Below W.heap.size W.drew w1) ∨ (b = false ∧ Jx S (pre ++ [ix]) W'))) := fun u w1 h1 h2 =>
    YieldAt.mono (hY 0 S pre ix #[u] w1 (hst S S pre W w1 hJ (Chg.of_below (a := W) (N := W.heap.size) ⟨h2.os, h2.tape, h2.output, h2.size, h2.block⟩ (Nat.le_refl _)) (fun b hb => .inl hb)) hpre ⟨u, W.heap.size, rfl, h1, hsz, by have := hsz ba hbx.a; omega, h2.size⟩) fun e W' h => h.2.elim (fun ⟨a, b⟩ => ⟨true, a, .inl ⟨rfl, b, h.1, h2⟩⟩) (fun ⟨a, b⟩ => ⟨false, a, .inr ⟨rfl, b⟩⟩)
  have HO : Hid (Ox W l n ix.length bm by' bc bn bf ba) := ho
  have HR : Hid (W.rowIs ba 3 ix.length f) := hrow
  have HSZ : Hid (∀ b, S b → b < W.heap.size) := hsz
  have HBX : Hid (Bxo S bm by' bc bn bf ba) := hbx
  have HPRE : Hid ((pre ++ [ix]) <+: cs) := hpre
  have HLT : Hid (by' < W.heap.size) := lt_cell0 c2
  clear hst hY ho hrow hf hsz hJ hpre hbx hext
  refine callsIn_of_wp Tryz.func87 rfl trivial ?_ rfl
  simp only [Tryz.ntmps87, List.size_toArray, List.length_cons, List.length_nil, Nat.reduceAdd, Nat.reduceSub, Array.replicate_succ, Array.replicate_zero, List.push_toArray, List.append_toArray, List.nil_append, List.cons_append]
  gi_wp2_with fail
  gi_region_with (first | (refine ⟨trivial, rfl, ?_⟩; gi_at_call 88; refine (callsIn_wide.2 HCL.out).mono ?_; rintro e w1 ⟨u, rfl, h1, h2⟩; have c2' := (h2.cell (p := ⟨by', 0, none⟩) HLT.out).trans c2; obtain ⟨fn, tmps, assign, body, hy, hR⟩ := HYY.out u w1 h1 h2; clear h1 h2) | (refine ⟨rfl, ?_⟩; refine hR.mono ?_; clear hR hy; rintro e W' ⟨b, rfl, hP⟩; have HP : Hid ((b = true ∧ J S (pre ++ [ix]) W' ∧ Kpt (fun b => S b ∨ T b) w1 W' ∧ Below W.heap.size W.drew w1) ∨ (b = false ∧ Jx S (pre ++ [ix]) W')) := hP; clear hP))
  all_goals
    gi_wp2
    go_ret
    rcases HP.out with ⟨rfl, hJ', hkp, hb⟩ | ⟨rfl, hJx⟩
    · have hkw : ∀ b, S b → b < W.heap.size → W'.heap[b]? = W.heap[b]? := fun b hb1 hb2 => (hkp.block b (Nat.lt_of_lt_of_le hb2 hb.size) (.inl hb1)).trans (hb.block b hb2)
      refine .inl ⟨rfl, hJ', HO.out.move (fun b hb1 hb2 => hkw b (HBX.out.of hb1) hb2), Nat.le_trans hb.size hkp.size, f, ?_, fun _ _ => rfl⟩
      obtain ⟨c, q1, q2, q3⟩ := HR.out
      exact ⟨c, (hkw ba HBX.out.a (HSZ.out ba HBX.out.a)).trans q1, q2, q3⟩
    · exact .inr ⟨rfl, _, HPRE.out, hJx⟩

end Go.Proofs.YtgfnmkenpgnllaaGreat
