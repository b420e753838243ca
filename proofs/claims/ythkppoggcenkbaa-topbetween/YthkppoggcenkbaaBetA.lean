import Derived.Test.YthkppoggcenkbaaRefs2
import Derived.Test.YthkppoggcenkbaaCycAll
/- Two lists, added. -/
namespace Go.Proofs.Ythkppoggcenkbaa
open Go.RowKit
attribute [local go_sem ↓] Go.wp_at_zero Go.wp_at_succ

def addL (a b : List Int) : List Int := (List.range a.length).map fun i => a.getD i 0 + b.getD i 0

theorem addL_length (a b : List Int) : (addL a b).length = a.length := by simp [addL]

theorem addL_snoc (a b : List Int) (k : Nat) (h : k < a.length) : (addL a b).take (k + 1) = (addL a b).take k ++ [a.getD k 0 + b.getD k 0] := by
  rw [List.take_succ_eq_append_getElem (by rw [addL_length]; exact h)]
  congr 1
  simp [addL]

set_option maxRecDepth 100000 in
set_option maxHeartbeats 1600000 in
theorem added_any (B : Nat) (a b : List Int) (u v : Value) (w : World) (hu : Sl B 3 w u (ints a)) (hv : Sl B 3 w v (ints b)) (hl : a.length ≤ b.length) (hn : a.length ≤ 100) (ha : ∀ z ∈ a, z.natAbs ≤ 1000000) (hb : ∀ z ∈ b, z.natAbs ≤ 1000000) :
    Calls Try.prog 22 #[u, v, .int .i64 1] w fun e w' => ∃ x, e = .returned x ∧ w'.ownsRow w.heap.size 3 1 x a.length (ints (addL a b)) ∧ Below w.heap.size w w' := by
  obtain ⟨i3, hi3, hz30, hz31, hz32⟩ := info_parts Try.info3
  obtain ⟨ao, cap, huu, hlc, hcm⟩ := sl_open hu
  obtain ⟨bo, cbp, hvv, hlb, hcb⟩ := sl_open hv
  subst huu hvv
  have HU : Hid (Sl B 3 w (.slice ao a.length cap) (ints a)) := hu
  have HV : Hid (Sl B 3 w (.slice bo b.length cbp) (ints b)) := hv
  have HA : Hid (∀ z ∈ a, z.natAbs ≤ 1000000) := ha
  have HBB : Hid (∀ z ∈ b, z.natAbs ≤ 1000000) := hb
  clear hu hv ha hb
  obtain ⟨M, hM⟩ : ∃ M, M = w.heap.size := ⟨_, rfl⟩
  have HM : Hid (M = w.heap.size) := hM
  rw [← hM]
  clear hM
  go_enter Try.func22, Try.ntmps22
  go_wp2
  go_loopw [7, 8] (fun x i wq => ∃ j : Nat, j ≤ a.length ∧ i = .int .i64 j ∧ wq.ownsRow M 3 1 x j (ints ((addL a b).take j)) ∧ Below M w wq) (fun _ i _ => a.length - (intOf i).toNat)
  case atStart => exact ⟨0, Nat.zero_le _, rfl, World.ownsRow_nil _ _ _ _, Below.refl _ _⟩
  case round =>
    obtain ⟨j, hj, rfl, hown, hbel⟩ := hrel
    have HO : Hid (wr.ownsRow M 3 1 u7 j (ints ((addL a b).take j))) := hown
    have HBq : Hid (Below M w wr) := hbel
    have hszq : M ≤ wr.heap.size := by have := hbel.size; rw [HM.out]; exact this
    clear hown hbel
    by_cases hjl : j < a.length
    · obtain ⟨b1, o1, cp1, hs1, hc1, hcc1a⟩ := sl_cell HU.out hjl
      simp only [Value.slice.injEq] at hs1
      obtain ⟨rfl, _, rfl⟩ := hs1
      obtain ⟨b2, o2, cp2, hs2, hc2, hcc2a⟩ := sl_cell HV.out (k := j) (by omega)
      simp only [Value.slice.injEq] at hs2
      obtain ⟨rfl, _, rfl⟩ := hs2
      have hx := HA.out (a.getD j 0) (by simp [hjl])
      have hy := HBB.out (b.getD j 0) (by simp [show j < b.length by omega])
      have HZ : Hid ((addL a b).take (j + 1) = (addL a b).take j ++ [a.getD j 0 + b.getD j 0]) := addL_snoc a b j hjl
      have HLL : Hid (((addL a b).take j).length = j) := by
        show _ = _
        rw [List.length_take, addL_length]; omega
      generalize a.getD j 0 = x at *
      generalize b.getD j 0 = y at *
      have hcc1 : wr.cell? ⟨b1, o1 + j, none⟩ = some (.int .i64 x) := (HBq.out.cell (by rw [HM.out]; exact lt_of_cell hcc1a)).trans hcc1a
      have hcc2 : wr.cell? ⟨b2, o2 + j, none⟩ = some (.int .i64 y) := (HBq.out.cell (by rw [HM.out]; exact lt_of_cell hcc2a)).trans hcc2a
      have KA : Hid (((b1 < M ∧ w.cell? ⟨b1, o1 + j, none⟩ = some (.int .i64 x)) ∧ (b2 < M ∧ w.cell? ⟨b2, o2 + j, none⟩ = some (.int .i64 y))) ∧ (b1 < M ∧ w.cell? ⟨b1, o1 + j, none⟩ = some (.int .i64 x))) := by
        rw [HM.out]; exact ⟨⟨⟨lt_of_cell hcc1a, hcc1a⟩, ⟨lt_of_cell hcc2a, hcc2a⟩⟩, ⟨lt_of_cell hcc1a, hcc1a⟩⟩
      clear hcc1a hcc2a
      have hjI : (j : Int) < (a.length : Int) := by omega
      have hjI2 : (j : Int) < (b.length : Int) := by omega
      have hjI0 : (0 : Int) ≤ (j : Int) := by omega
      have hx1 : -1000000 ≤ x := by omega
      have hx2 : x ≤ 1000000 := by omega
      have hy1 : -1000000 ≤ y := by omega
      have hy2 : y ≤ 1000000 := by omega
      clear hx hy
      have hw1 : IntKind.i64.wrap y = y := by rw [IntWalk.i64_left]; exact IntWalk.wrap64_in _ ⟨by omega, by omega⟩
      have hw2 : IntKind.i64.wrap (x + y) = x + y := by rw [IntWalk.i64_left]; exact IntWalk.wrap64_in _ ⟨by omega, by omega⟩
      go_wp2
      go_region_held3 (fun w' => w'.cell? ⟨b1, o1 + j, none⟩ = some (.int .i64 x) ∧ w'.cell? ⟨b2, o2 + j, none⟩ = some (.int .i64 y) ∧ w'.cell? ⟨b1, o1 + j, none⟩ = some (.int .i64 x)) (first | go_keep | exact KS.out)
        ((refine step_append_own (by rfl) _ _ 28 (by rfl) M 3 i3 (.int .i64 0) 1 8 Try.underlying28 hi3 hz30 hz31 hz32 rfl (by decide) _ _ _ (by rfl) (HO.out.drew.alloc _) ⟨wr.heap.size, 0, none⟩ 1 1 [.int .i64 (x + y)] (by rfl) rfl (one_new _ _ _) (one_int _) (by unfold maxLen; omega) (by omega) (by simp; omega) ?_; intro v' w3 ho hg; have RR := push3 HBq.out hszq HLL.out HO.out ho hg (hz := HZ.out); have KS := keep3 (a1 := ⟨b1, o1 + j, none⟩) (a2 := ⟨b2, o2 + j, none⟩) (a3 := ⟨b1, o1 + j, none⟩) RR.2 KA.out))
      have R1 : Hid (w3.ownsRow M 3 1 v' (j + 1) (ints ((addL a b).take (j + 1)))) := RR.1
      have R2 : Hid (Below M w w3) := RR.2
      clear RR ho hg KS
      go_wp2
      go_roundw
      case rel => exact ⟨j + 1, by omega, by go_num, R1.out, R2.out⟩
      case measure => simp [intOf]; omega
    · have hje : j = a.length := by omega
      have HOF : Hid (wr.ownsRow M 3 1 u7 a.length (ints (addL a b))) := by
        have h := HO.out
        rw [List.take_of_length_le (by rw [addL_length]; omega), hje] at h
        exact h
      clear hje
      go_wp2
      go_ret
      exact ⟨_, rfl, HOF.out, HBq.out⟩

end Go.Proofs.Ythkppoggcenkbaa

/- Cyclic's own loop. -/
namespace Go.Proofs.Ythkppoggcenkbaa
open Go.RowKit

/-- Is one of the first k points too far? -/
def cfar (n d k : Nat) : Bool := (cpts n d k).any fun x => x.any (farB · 100)

theorem cfar_succ (n d k : Nat) (h : cfar n d k = false) : cfar n d (k + 1) = (pw ((k : Int) - (n : Int) / 2) d).any (farB · 100) := by
  unfold cfar at h ⊢; simp only [cpts, List.any_append, h, List.any_cons, List.any_nil, Bool.or_false, Bool.false_or]

theorem cfar_mono (n d : Nat) {k j : Nat} (hkj : k ≤ j) (h : cfar n d k = true) : cfar n d j = true := by
  induction j with
  | zero => have : k = 0 := by omega
            subst this; exact h
  | succ j ih =>
    by_cases e : k ≤ j
    · have := ih e
      unfold cfar at this ⊢; simp only [cpts, List.any_append, this, Bool.true_or]
    · have : k = j + 1 := by omega
      subst this; exact h

/-- The answer's error, dimension and points. -/
def cE (n d : Nat) : Int := if cfar n d n then 11 else 0
def cD (n d : Nat) : Int := if cfar n d n then 0 else d
def cP (n d : Nat) : List (List Int) := if cfar n d n then [] else cpts n d n

theorem cyc_far {n d : Nat} (h : cfar n d n = true) : cE n d = 11 ∧ cD n d = 0 ∧ cP n d = [] := by simp [cE, cD, cP, h]
theorem cyc_near {n d : Nat} (h : cfar n d n = false) : cE n d = 0 ∧ cD n d = d ∧ cP n d = cpts n d n := by simp [cE, cD, cP, h]

/-- What a loop that builds a polytope's points keeps: the result's cell, the polytope's cells, the rows. -/
structure Poly (N : Nat) (d : Int) (w wr : World) (v : Value) (m : List (List Int)) : Prop where
  res : wr.heap[N]? = some (.cells #[.int .i64 0, .slice none 0 0] 42 (0, 0))
  pol : wr.heap[N + 1]? = some (.cells #[.int .i64 d, v] 42 (0, 0))
  rows : Rws N 28 3 wr v m
  bel : Below N w wr

theorem Poly.step {N : Nat} {d : Int} {w wr w1 : World} {v : Value} {m : List (List Int)} (h : Poly N d w wr v m) (hb : Below wr.heap.size wr w1) : Poly N d w w1 v m := by
  have h1 := lt_of_block h.res
  have h2 := lt_of_block h.pol
  exact ⟨(hb.block _ h1).trans h.res, (hb.block _ h2).trans h.pol, h.rows.below hb (Nat.le_refl _), h.bel.trans (hb.mono (by omega))⟩

theorem two_setCell {w : World} {b : Nat} {x y u : Value} {t : TypeId} (h : w.heap[b]? = some (.cells #[x, y] t (0, 0))) : (w.setCell ⟨b, 1, none⟩ u).heap[b]? = some (.cells #[x, u] t (0, 0)) := by
  simp [World.setCell, Array.getElem?_modify, h]

theorem two_set {w : World} {b : Nat} {x y u v : Value} {t : TypeId} (h : w.heap[b]? = some (.cells #[x, y] t (0, 0))) :
    (w.setCell ⟨b, 0, none⟩ u).cell? ⟨b, 0, none⟩ = some u ∧ ((w.setCell ⟨b, 0, none⟩ u).setCell ⟨b, 1, none⟩ v).cell? ⟨b, 1, none⟩ = some v := by
  constructor
  · simp [World.cell?, World.setCell, Array.getElem?_modify, h]
  · simp [World.cell?, World.setCell, Array.getElem?_modify, h]

/-- Behind the append and the store of its answer. -/
theorem Poly.push {N : Nat} {d : Int} {w wr w1 : World} {v v' x : Value} {m : List (List Int)} {zs : List Int} {vs : List Value} (h : Poly N d w wr v m)
    (hx : Sl N 3 wr x (ints zs)) (h1 : vs.length = m.length) (h2 : wr.ownsRow N 28 1 v m.length vs) (h3 : ∀ i, i < m.length → Sl N 3 wr (vs.getD i (.slice none 0 0)) (ints (m.getD i [])))
    (ho : w1.ownsRow N 28 1 v' (m.length + 1) (vs ++ [x])) (hg : (wr.alloc (.cells #[x] 28)).grownBy w1 v.ownBlock) :
    (w1.heap[N + 1]? = some (.cells #[.int .i64 d, v] 42 (0, 0))) ∧ Poly N d w (w1.setCell ⟨N + 1, 1, none⟩ v') v' (m ++ [zs]) := by
  have n1 := lt_of_block h.res
  have n2 := lt_of_block h.pol
  have ht := owns_typed h2 (e1 := 42) (by decide)
  have hsz : (wr.alloc (.cells #[x] 28)).heap.size = wr.heap.size + 1 := by simp
  have g1 : w1.heap[N]? = some (.cells #[.int .i64 0, .slice none 0 0] 42 (0, 0)) := by
    rw [hg.block N (by omega) (fun e => (ht N e.symm).2 _ h.res), Below.heap_alloc _ _ _ n1]; exact h.res
  have g2 : w1.heap[N + 1]? = some (.cells #[.int .i64 d, v] 42 (0, 0)) := by
    rw [hg.block (N + 1) (by omega) (fun e => (ht (N + 1) e.symm).2 _ h.pol), Below.heap_alloc _ _ _ n2]; exact h.pol
  have hr : Rws N 28 3 w1 v' (m ++ [zs]) := Rws.push (by decide) h1 (h2.alloc _) (fun i hi => (h3 i hi).alloc _) (hx.alloc _) ho hg
  refine ⟨g2, ⟨?_, two_setCell g2, ?_, ?_⟩⟩
  · rw [Below.heap_setCell _ _ _ _ (by simp)]; exact g1
  · obtain ⟨us, u1, u2, u3⟩ := hr
    refine ⟨us, u1, ownsRow_setCell_other u2 (fun e => ?_) _, fun i hi => (u3 i hi).setCell _ ⟨by simp, fun cur => by simp only; rw [g2]; simp⟩⟩
    exact (owns_typed u2 (e1 := 42) (by decide) _ e).2 _ g2
  · refine ((h.bel.alloc (by omega) _).grown hg (by omega) (fun k hk => (ht k hk).1)).setCell (by simp) _

theorem Poly.done {N : Nat} {d : Int} {w wr : World} {v : Value} {m : List (List Int)} (h : Poly N d w wr v m) (a b : Value) :
    Mat N 28 3 ((wr.setCell ⟨N, 0, none⟩ a).setCell ⟨N, 1, none⟩ b) v m := by
  obtain ⟨vs, h1, h2, h3⟩ := h.rows.mat (Nat.le_refl _)
  have g0 := h.res
  have g1 : (wr.setCell ⟨N, 0, none⟩ a).heap[N]? = some (.cells #[a, .slice none 0 0] 42 (0, 0)) := by simp [World.setCell, Array.getElem?_modify, g0]
  have k0 : ∀ e, e ≠ 42 → ∀ cur, wr.heap[N]? ≠ some (.cells cur e (0, 0)) := by
    intro e he cur; rw [g0]; simp; intro _ h; exact absurd h.symm he
  have k1 : ∀ e, e ≠ 42 → ∀ cur, (wr.setCell ⟨N, 0, none⟩ a).heap[N]? ≠ some (.cells cur e (0, 0)) := by
    intro e he cur; rw [g1]; simp; intro _ h; exact absurd h.symm he
  exact ⟨vs, h1, (h2.setCell _ ⟨Nat.le_refl _, k0 28 (by decide)⟩).setCell _ ⟨Nat.le_refl _, k1 28 (by decide)⟩,
    fun i hi => ((h3 i hi).setCell _ ⟨Nat.le_refl _, k0 3 (by decide)⟩).setCell _ ⟨Nat.le_refl _, k1 3 (by decide)⟩⟩

end Go.Proofs.Ythkppoggcenkbaa
