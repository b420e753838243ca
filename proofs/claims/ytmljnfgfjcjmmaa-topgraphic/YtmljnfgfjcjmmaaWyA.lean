import Derived.Test.YtmljnfgfjcjmmaaWay0
import Derived.Test.YtmljnfgfjcjmmaaOwnA
import Derived.Test.YtmljnfgfjcjmmaaOfAll
import Derived.Test.YtmljnfgfjcjmmaaRunD
import Derived.Lib.JoinLaws
import Derived.Test.YtmljnfgfjcjmmaaRefA
import Derived.Test.YtmljnfgfjcjmmaaStepsAll
import Derived.Test.YtmljnfgfjcjmmaaLinAll
import Derived.Test.YtmljnfgfjcjmmaaDatA
import Derived.Maps.AppendAt
/- cone.wayBy: rows laid across; the one way by just these rows. -/
namespace Go.Proofs.Ytmljnfgfjcjmmaa
open Go.RowKit
attribute [local go_sem ↓] Go.wp_at_zero Go.wp_at_succ

def acrR (rs : List (List Int)) (g : List Int) (i : Nat) : List Int := rs.map (fun r => r.getD i 0) ++ [-(g.getD i 0)]
def acrL (g : List Int) (rs : List (List Int)) : List (List Int) := (List.range g.length).map (acrR rs g)
def wayN (g : List Int) (rs : List (List Int)) : List Int := normL (rs.length + 1) (acrL g rs)
/-- Is there just one way, above 0 of each? -/
def wayB (g : List Int) (rs : List (List Int)) : Bool := normB (rs.length + 1) (acrL g rs) && !(wayN g rs).any lowB

theorem acrL_mx {g : List Int} {rs : List (List Int)} (hr : ∀ r ∈ rs, ∀ z ∈ r, z.natAbs ≤ 60) (hg : ∀ z ∈ g, z.natAbs ≤ 60) (h4 : rs.length ≤ 4) : Mx (rs.length + 1) 60 (acrL g rs) := by
  refine ⟨fun r hr => ?_, fun r h z hz => ?_, by omega, by omega, by decide, Nat.le_trans (fb_mono (by decide) (show _ ≤ 5 by omega)) (by decide)⟩
  · simp only [acrL, List.mem_map] at hr
    obtain ⟨i, _, rfl⟩ := hr
    simp [acrR]
  · simp only [acrL, List.mem_map] at h
    obtain ⟨i, _, rfl⟩ := h
    simp only [acrR, List.mem_append, List.mem_map, List.mem_singleton] at hz
    rcases hz with ⟨r, h1, rfl⟩ | rfl
    · by_cases e : i < r.length
      · exact hr r h1 _ (by simp [e])
      · simp [List.getElem?_eq_none (Nat.le_of_not_lt e)]
    · by_cases e : i < g.length
      · have := hg (g.getD i 0) (by simp [e])
        omega
      · simp [List.getElem?_eq_none (Nat.le_of_not_lt e)]

/-- Rows being laid, in the cells of block G. -/
structure Ac (w0 : World) (G n k : Nat) (m : List (List Int)) (f : Nat → Value) (w : World) : Prop where
  bel : Below w0.heap.size w0 w
  hG : w0.heap.size ≤ G
  row : w.rowIs G 22 n f
  done : ∀ j, j < k → Sl 0 3 w (f j) (ints (m.getD j []))
  free : ∀ j, k ≤ j → j < n → f j = .slice none 0 0

theorem Ac.lt {w0 w : World} {G n k : Nat} {m : List (List Int)} {f : Nat → Value} (h : Ac w0 G n k m f w) : G < w.heap.size := by
  obtain ⟨c, h1, _⟩ := h.row
  exact (Array.getElem?_eq_some_iff.1 h1).1

theorem sl_chg {w w' : World} {v : Value} {xs : List Value} {cur : Array Value} {G : Nat} (h : Sl 0 3 w v xs) (hc : Chg (fun b => b = G) w w') (hG : w.heap[G]? = some (.cells cur 22 (0, 0))) : Sl 0 3 w' v xs :=
  h.move fun b hl ht => ⟨hc.block b hl (fun e => by
    subst e
    rcases ht with ht | ⟨c, ht⟩
    · omega
    · rw [hG] at ht; simp at ht), ht⟩

/-- Within one row: t numbers are there. -/
structure Ai (wa : World) (G n k t : Nat) (f : Nat → Value) (l : List Int) (cur : Value) (w : World) : Prop where
  chg : Chg (fun b => b = G) wa w
  row : w.rowIs G 22 n (fun j => if j = k then cur else f j)
  own : w.ownsRow wa.heap.size 3 1 cur t (ints l)
  len : l.length = t

theorem Ai.push {wa w w3 : World} {G n k t : Nat} {f : Nat → Value} {l : List Int} {cur v' : Value} {z : Int} (h : Ai wa G n k t f l cur w) (hG : G < wa.heap.size) (hk : k < n)
    (ho : w3.ownsRow wa.heap.size 3 1 v' (t + 1) (ints l ++ [.int .i64 z])) (hg : (w.alloc (.cells #[.int .i64 z] 3)).grownBy w3 cur.ownBlock) :
    w3.cell? ⟨G, k, none⟩ = some cur ∧ w3.frozen? ⟨G, k, none⟩ = false ∧ Ai wa G n k (t + 1) f (l ++ [z]) v' (w3.setCell ⟨G, k, none⟩ v') := by
  have hs := h.chg.size
  have hbl : ∀ b, b < wa.heap.size → w3.heap[b]? = w.heap[b]? := fun b hb => by
    rw [hg.block b (by simp; omega) (fun e => by have := (h.own.lt b e.symm).1; omega)]
    exact Below.heap_alloc _ _ _ (by omega)
  have hr3 : w3.rowIs G 22 n (fun j => if j = k then cur else f j) := by
    obtain ⟨c, h1, h2, h3⟩ := h.row
    exact ⟨c, (hbl G hG).trans h1, h2, h3⟩
  refine ⟨?_, hr3.frozen k, ?_, ?_, ?_, ?_⟩
  · have := hr3.cell (i := k) hk
    simpa using this
  · have g0 := hg.size
    simp at g0
    refine Chg.setCell ⟨(hg.os).trans h.chg.os, (hg.tape).trans h.chg.tape, (hg.output).trans h.chg.output, by omega, fun b hb hn => (hbl b hb).trans (h.chg.block b hb hn)⟩ rfl _
  · have := hr3.set k v'
    refine cast ?_ this
    congr 1
    funext j
    by_cases e : j = k <;> simp [e]
  · rw [← ints_snoc]
    refine ownsRow_setCell_other ho (fun e => ?_) _
    have := (ho.lt _ e).1
    simp at this
    omega
  · simp [h.len]

theorem Ac.next {W0 wa w : World} {G n k T : Nat} {m : List (List Int)} {f : Nat → Value} {l : List Int} {cur : Value} (h : Ac W0 G n k m f wa) (hi : Ai wa G n k T f l cur w) (hm : m.getD k [] = l) :
    Ac W0 G n (k + 1) m (fun j => if j = k then cur else f j) w := by
  have hb := h.bel
  have hG := h.hG
  obtain ⟨cur0, h1, _⟩ := h.row
  refine ⟨⟨hi.chg.os.trans hb.os, hi.chg.tape.trans hb.tape, hi.chg.output.trans hb.output, Nat.le_trans hb.size hi.chg.size, fun b hlt => (hi.chg.block b (by have := hb.size; omega) (by omega)).trans (hb.block b hlt)⟩, hG, hi.row, fun j hj => ?_, fun j h1 h2 => ?_⟩
  · by_cases e : j = k
    · subst e
      simp only [if_true]
      rw [hm]
      exact Sl.own hi.own
    · simp only [e, if_false]
      exact sl_chg (h.done j (by omega)) hi.chg h1
  · simp only [show j ≠ k by omega, if_false]
    exact h.free j (by omega) h2

theorem Sl.cut {B n c : Nat} {w : World} {a : Addr} {zs : List Int} (h : Sl B 3 w (.slice (some a) zs.length c) (ints zs)) (hn : n ≤ zs.length) : Sl B 3 w (.slice (some a) n n) (ints (zs.take n)) := by
  obtain ⟨bo, cap, hv, h1, h2, h3, h4⟩ := h
  simp only [Value.slice.injEq] at hv
  obtain ⟨rfl, _, rfl⟩ := hv
  simp at h1
  refine ⟨some a, n, by simp; omega, by simp; omega, by omega, fun i hi => ?_, fun h => by cases h⟩
  have hi' : i < n := by simp at hi; omega
  obtain ⟨b, o, ha, hc, ht⟩ := h3 i (by simp; omega)
  refine ⟨b, o, ha, ?_, ht⟩
  rw [hc, ints_get _ _ (by omega), ints_get _ _ (by simp; omega)]
  simp [hi']

/-- Three cells of a block of another type are set. -/
theorem sl_set3 {w : World} {R : Nat} {t : TypeId} {cur : Array Value} {v : Value} {xs : List Value} (h : Sl 0 3 w v xs) (hR : w.heap[R]? = some (.cells cur t (0, 0))) (ht : t ≠ 3) (a b c : Value) :
    Sl 0 3 (((w.setCell ⟨R, 0, none⟩ a).setCell ⟨R, 1, none⟩ b).setCell ⟨R, 2, none⟩ c) v xs :=
  h.move fun k hl hk => ⟨by
    have hne : k ≠ R := fun e => by
      subst e
      rcases hk with hk | ⟨c, hk⟩
      · omega
      · rw [hR] at hk; simp at hk; exact ht hk.2
    rw [Below.heap_setCell _ _ _ _ hne, Below.heap_setCell _ _ _ _ hne, Below.heap_setCell _ _ _ _ hne], hk⟩

theorem Ac.mat {W0 w : World} {G : Nat} {g : List Int} {rs : List (List Int)} {f : Nat → Value} {B : Nat} (h : Ac W0 G g.length g.length (acrL g rs) f w) (h5 : g.length ≤ 5) : Mat B 22 3 w (.slice (some ⟨G, 0, none⟩) g.length g.length) (acrL g rs) := by
  have hl : (acrL g rs).length = g.length := by simp [acrL]
  refine ⟨(List.range g.length).map f, by simp [hl], Sl.row h.row (by simp) (by unfold maxLen; omega) (fun i hi => by simp [hi]), fun i hi => ?_⟩
  rw [hl] at hi
  have e : ((List.range g.length).map f).getD i (.slice none 0 0) = f i := by simp [hi]
  rw [e]
  exact (h.done i hi).more (Nat.zero_le _)

end Go.Proofs.Ytmljnfgfjcjmmaa

/- The program's differences of points. -/
namespace Go.Proofs.Ytmljnfgfjcjmmaa
open Go.RowKit
attribute [local go_sem ↓] Go.wp_at_zero Go.wp_at_succ

theorem Touch.below {g M : Nat} {w w2 wr : World} (h : Touch g w2 wr) (hb : Below M w w2) (hg : M ≤ g) : Below M w wr :=
  ⟨h.os.trans hb.os, h.tape.trans hb.tape, h.output.trans hb.output, by rw [h.size]; exact hb.size, fun b hlt => (h.block b (by omega)).trans (hb.block b hlt)⟩

end Go.Proofs.Ytmljnfgfjcjmmaa

/- Points of raw numbers: each is small, whatever the numbers. -/
namespace Go.Proofs.Ytmljnfgfjcjmmaa
open Go.RowKit
attribute [local go_sem ↓] Go.wp_at_zero Go.wp_at_succ

def In64 (z : Int) : Prop := -9223372036854775808 ≤ z ∧ z ≤ 9223372036854775807

set_option maxRecDepth 100000 in
set_option maxHeartbeats 400000 in
theorem pick_any (c n : Int) (w : World) (h1 : 1 ≤ n) (h2 : n ≤ 4611686018427387904) (hc : In64 c) :
    Calls Try.prog 4 #[.int .i64 c, .int .i64 n] w fun e w' => ∃ z, e = .returned (.int .i64 z) ∧ (0 ≤ z ∧ z < n) ∧ w' = w := by
  have c0 : -9223372036854775808 ≤ c := hc.1
  have c1 : c ≤ 9223372036854775807 := hc.2
  clear hc
  have hn0 : ¬ n = 0 := by omega
  by_cases hcn : c < 0
  · have e0 : (-(c + 1)).tmod n = (-(c + 1)) % n := Int.tmod_eq_emod_of_nonneg (by omega)
    have e1 := Int.emod_nonneg (-(c + 1)) hn0
    have e2 := Int.emod_lt_of_pos (-(c + 1)) (show 0 < n by omega)
    go_enter Try.func4, Try.ntmps4
    go_wp2
    go_ret
    exact ⟨_, rfl, ⟨e1, e2⟩, rfl⟩
  · have e0 : c.tmod n = c % n := Int.tmod_eq_emod_of_nonneg (by omega)
    have e1 := Int.emod_nonneg c hn0
    have e2 := Int.emod_lt_of_pos c (show 0 < n by omega)
    go_enter Try.func4, Try.ntmps4
    go_wp2
    go_ret
    exact ⟨_, rfl, ⟨e1, e2⟩, rfl⟩

/-- A call of two words within a region that draws its order. -/
theorem step_call2 {P : Program} {ops : Array Oper} {o : Oper} {a : Act} {w : World} {K : Act → World → Prop} {Q : Exit → Act → World → Prop} {E : Prop}
    (hg : o.guard = none) (f : FuncId) (x y : Operand) (t s : TypeId) (hop : o.op = Op.call { callee := Callee.value (Operand.func f), args := #[x, y], argTypes := #[t, s] }) (v u : Value) (hv : a.eval x = v) (hu : a.eval y = u) (hf : ∃ fn, P.funcs[f]? = some fn ∧ (fn.name == "runtime.NumGoroutine") = false ∧ fn.body.isNone = false)
    (hc : Calls P f #[v, u] w fun e w' => ∃ u, e = .returned u ∧ K (a.put o.dst u) w') :
    if Region.wanted o (yielded ops a.tmps) = true then Oper.wp P o a w K Q else E := by
  have hw : Region.wanted o (yielded ops a.tmps) = true := by simp [Region.wanted, hg]
  rw [if_pos hw]
  unfold Oper.wp
  obtain ⟨fn, f1, f2, f3⟩ := hf
  have e : (execOp a.eval o).run P w = .ok (.enter f #[v, u]) w := by
    have hfn : a.eval (Operand.func f) = Value.func (Fn.func f) #[] #[] := rfl
    have hcf : (callFunc f #[v, u]).run P w = .ok (.enter f #[v, u]) w := by
      unfold callFunc
      have g2 : ¬ fn.name = "runtime.NumGoroutine" := by simpa using f2
      have g3 : ¬ fn.body = none := by intro e; rw [e] at f3; simp at f3
      simp [f1, g2, g3]
    unfold execOp
    rw [hop]
    simp [resolve, invoke, hv, hu, hfn, Deferred.ofValue, hcf]
  rw [e, Oper.upon_enter]
  refine hc.mono ?_
  rintro e w' ⟨u, rfl, h⟩
  exact h

set_option maxRecDepth 100000 in
set_option maxHeartbeats 400000 in
theorem raw_any (B : Nat) (l : List Int) (v : Value) (i : Nat) (w : World) (hv : Sl B 3 w v (ints l)) (hr : ∀ z ∈ l, In64 z) (hl : l.length ≤ 1000000) (hi : i ≤ 1000000) :
    Calls Try.prog 13 #[v, .int .i64 i] w fun e w' => ∃ z, e = .returned (.int .i64 z) ∧ (0 ≤ z ∧ z ≤ 4611686018427387904) ∧ Below w.heap.size w w' := by
  obtain ⟨ao, cap, hvv, hlc, hcm⟩ := sl_open hv
  subst hvv
  by_cases h0 : l.length = 0
  · rw [h0]
    clear hv
    go_enter Try.func13, Try.ntmps13
    go_wp2
    go_ret
    exact ⟨_, rfl, by omega, Below.refl _ _⟩
  · have hk : i % l.length < l.length := Nat.mod_lt _ (by omega)
    obtain ⟨b, o, cp, hs, hc, hcc⟩ := sl_cell hv hk
    simp only [Value.slice.injEq] at hs
    obtain ⟨rfl, _, rfl⟩ := hs
    have hmem : l.getD (i % l.length) 0 ∈ l := by simp [hk]
    have hin : In64 (l.getD (i % l.length) 0) := hr _ hmem
    have HP : Hid (Calls Try.prog 4 #[.int .i64 (l.getD (i % l.length) 0), .int .i64 1000003] w.drew fun e w' => ∃ z, e = .returned (.int .i64 z) ∧ (0 ≤ z ∧ z < 1000003) ∧ w' = w.drew) := pick_any _ _ _ (by omega) (by omega) hin
    generalize hz : l.getD (i % l.length) 0 = z0 at *
    have hd0 : i / l.length ≤ 1000000 := Nat.le_trans (Nat.div_le_self _ _) hi
    have hq : (i : Int).tmod (l.length : Int) = ((i % l.length : Nat) : Int) := by rw [Int.tmod_eq_emod_of_nonneg (by omega)]; rfl
    have hqd : (i : Int).tdiv (l.length : Int) = ((i / l.length : Nat) : Int) := by rw [Int.tdiv_eq_ediv_of_nonneg (by omega)]; rfl
    clear hv hr hmem hin hz
    generalize i % l.length = k at *
    generalize i / l.length = q at *
    generalize l.length = n at *
    have hn0 : ¬ (n : Int) = 0 := by omega
    have hnb : ((n : Int) == 0) = false := by rw [beq_eq_false_iff_ne]; exact hn0
    have hk0 : (0 : Int) ≤ (k : Int) := by omega
    have hkn : (k : Int) < (n : Int) := by omega
    go_enter Try.func13, Try.ntmps13
    go_wp2
    go_region_law (refine step_call2 (o := { dst := some 17, op := _, type := _, pos := _, after := _, guard := _ }) (by rfl) 4 _ _ 3 3 (by rfl) _ _ (by rfl) (by rfl) ⟨_, Try.func4, by rfl, by rfl⟩ ?_; refine (HP.out).mono ?_; rintro e w2 ⟨z, rfl, hz, rfl⟩; refine ⟨_, rfl, ?_⟩; have hz1 := hz.1; have hz2 := hz.2; clear hz)
    all_goals
      have e1 : IntKind.i64.wrap (z + IntKind.i64.wrap (IntKind.i64.wrap (q : Int) * 7919)) = z + q * 7919 := by
        rw [IntWalk.i64_left, IntWalk.i64_left, IntWalk.i64_left, IntWalk.wrap64_in (q : Int) ⟨by omega, by omega⟩, IntWalk.wrap64_in ((q : Int) * 7919) ⟨by omega, by omega⟩, IntWalk.wrap64_in _ ⟨by omega, by omega⟩]
      go_wp2
      go_ret
      exact ⟨_, rfl, by rw [e1]; omega, Below.drew (Below.refl _ _)⟩

end Go.Proofs.Ytmljnfgfjcjmmaa

/- The row through chosen points. -/
namespace Go.Proofs.Ytmljnfgfjcjmmaa
open Go.RowKit
attribute [local go_sem ↓] Go.wp_at_zero Go.wp_at_succ

theorem getD_mem {l : List Int} {i : Nat} (h : i < l.length) : l.getD i 0 ∈ l := by simp [h]

theorem muL_len (c : Nat) (rows : List (List Int)) : (muL c rows).length = c := by simp [muL]

theorem norm_len {c : Nat} {m : List (List Int)} (h : normB c m = true) : (normL c m).length = c := by
  unfold normB at h
  unfold normL
  rw [if_pos (of_decide_eq_true h), upr_len, low_len, muL_len]

theorem upr_bd {l : List Int} {b : Nat} (h : ∀ z ∈ l, z.natAbs ≤ b) : ∀ z ∈ Lin.upr l, z.natAbs ≤ b := by
  intro z hz
  unfold Lin.upr at hz
  split at hz
  · simp only [List.mem_map] at hz
    obtain ⟨y, hy, rfl⟩ := hz
    rw [Int.natAbs_neg]; exact h y hy
  · exact h z hz

theorem mu_small {c : Nat} {m : List (List Int)} (hx : Mx c 60 m) (hl : (pickL c m).length + 1 = c) : ∀ z ∈ muL c (pickL c m), z.natAbs ≤ 1000000000000 := by
  intro z hz
  simp only [muL, List.mem_map, List.mem_range] at hz
  obtain ⟨k, hk, rfl⟩ := hz
  unfold Lin.mu
  rw [Int.natAbs_mul]
  have h2 : (Lin.ngo k).natAbs = 1 := by rw [ngo_mod]; by_cases e : k % 2 = 1 <;> simp [e]
  rw [h2, Nat.one_mul, fm_length]
  have h5 : Lin.fb 60 5 = 93312000000 := by decide
  have m2 : Lin.fb 60 (pickL c m).length ≤ Lin.fb 60 5 := fb_mono (by decide) (by have := hx.c5; omega)
  have hb := Lin.od_bd (n := (pickL c m).length) (B := 60) (Lin.cols (fm (pickL c m)) (Lin.skp k)) (fun _ => false) (fun r hr j hj => by
    simp only [Lin.cols, fm, List.mem_map] at hr
    obtain ⟨_, ⟨l, hl', rfl⟩, rfl⟩ := hr
    by_cases hi : Lin.skp k j < l.length
    · exact hx.bd l (pickL_mem hl') _ (by simp [hi])
    · simp only [List.getD_eq_getElem?_getD]; rw [List.getElem?_eq_none (by omega)]; simp) (by rw [Lin.cu_none]; simp [Lin.cols, fm])
  have hl2 : (Lin.cols (fm (pickL c m)) (Lin.skp k)).length = (pickL c m).length := by simp [Lin.cols, fm]
  rw [hl2] at hb
  omega

theorem norm_bd {c : Nat} {m : List (List Int)} (hx : Mx c 60 m) : ∀ z ∈ normL c m, z.natAbs ≤ 1000000000000 := by
  intro z hz
  unfold normL at hz
  split at hz
  · rename_i hl
    exact upr_bd (low_bd (mu_small hx hl)) z hz
  · simp at hz

end Go.Proofs.Ytmljnfgfjcjmmaa

/- The normal of rows: what it is, and when there is one; a way by rows. -/

namespace Go.Proofs.Ytmljnfgfjcjmmaa
open Lin

def V (l : List Int) : Nat → Int := fun j => l.getD j 0

theorem V_neg (l : List Int) (i : Nat) : V (l.map fun z => -z) i = - V l i := by
  simp only [V, List.getD_eq_getElem?_getD, List.getElem?_map]
  cases l[i]? <;> simp

theorem mem_fm {m : List (List Int)} {r : Nat → Int} : r ∈ fm m ↔ ∃ l ∈ m, r = V l := by
  simp only [fm, List.mem_map]
  constructor
  · rintro ⟨l, hl, rfl⟩; exact ⟨l, hl, rfl⟩
  · rintro ⟨l, hl, rfl⟩; exact ⟨l, hl, rfl⟩

/-- The normal is so many times what the minors tell. -/
theorem norm_par {d : Nat} {m : List (List Int)} (hl : (pickL d m).length + 1 = d) : ∃ k : Int, k ≠ 0 ∧ ∀ i, i < d → mu (fm (pickL d m)) i = k * V (normL d m) i := by
  have hg := pick_greedy d m
  have hl' : (fm (pickL d m)).length + 1 = d := by rw [fm_length]; exact hl
  obtain ⟨⟨p, hp, hne⟩, _, _⟩ := greedy_one hg hl'
  have hn : normL d m = upr (low (muL d (pickL d m))) := if_pos hl
  rw [hn]
  have hat : ∀ i, i < d → V (muL d (pickL d m)) i = mu (fm (pickL d m)) i := fun i hi => by simp [V, muL, hi]
  generalize muL d (pickL d m) = l at *
  have hll : ∀ i, i < d → V l i ∈ l ∨ V l i = 0 := fun i _ => by
    by_cases h : i < l.length
    · exact Or.inl (getD_mem h)
    · right; simp only [V, List.getD_eq_getElem?_getD]; rw [List.getElem?_eq_none (by omega)]; rfl
  have hdv : ∀ i, i < d → ((gc l : Nat) : Int) ∣ V l i := fun i hi => by
    rcases hll i hi with h | h
    · exact gc_dvd h
    · rw [h]; exact Int.dvd_zero _
  have hg0 : ((gc l : Nat) : Int) ≠ 0 := by
    intro h0
    have h1 := hdv p hp
    rw [h0] at h1
    have h2 := Int.zero_dvd.1 h1
    rw [hat p hp] at h2
    exact hne h2
  have hlow : ∀ i, i < d → V l i = ((gc l : Nat) : Int) * V (low l) i := fun i hi => by
    have e : V (low l) i = V l i / ((gc l : Nat) : Int) := by
      simp only [V, low, List.getD_eq_getElem?_getD, List.getElem?_map]
      cases l[i]? <;> simp
    rw [e, Int.mul_ediv_cancel' (hdv i hi)]
  unfold upr
  split
  · refine ⟨-((gc l : Nat) : Int), by omega, fun i hi => ?_⟩
    rw [V_neg, ← hat i hi, hlow i hi]; grind
  · exact ⟨((gc l : Nat) : Int), hg0, fun i hi => by rw [← hat i hi, hlow i hi]⟩


theorem upr_first (l : List Int) : 0 ≤ ((upr l).find? (fun v => v != 0)).getD 0 := by
  unfold upr
  split
  · rename_i h
    rw [find_neg]
    omega
  · rename_i h
    omega

/-- What the normal is. -/
theorem norm_spec {d : Nat} {m : List (List Int)} (hl : (pickL d m).length + 1 = d) :
    (∃ i, i < d ∧ V (normL d m) i ≠ 0) ∧ (∀ r ∈ m, dot d (V r) (V (normL d m)) = 0) ∧ ∀ u : Nat → Int, (∀ r ∈ m, dot d (V r) u = 0) → Par d u (V (normL d m)) := by
  have hl' : (fm (pickL d m)).length + 1 = d := by rw [fm_length]; exact hl
  obtain ⟨⟨p, hp, hne⟩, h1, h2⟩ := greedy_one (pick_greedy d m) hl'
  obtain ⟨k, hk, hmu⟩ := norm_par hl
  refine ⟨⟨p, hp, fun e => hne (by rw [hmu p hp, e, Int.mul_zero])⟩, fun r hr => ?_, fun u hu i j hi hj => ?_⟩
  · have h := h1 (V r) (mem_fm.2 ⟨r, hr, rfl⟩)
    have e : dot d (V r) (mu (fm (pickL d m))) = k * dot d (V r) (V (normL d m)) := by
      unfold dot
      rw [← sumN_mul]
      exact sumN_congr fun i hi => by rw [hmu i hi]; grind
    rw [e] at h
    exact (Int.mul_eq_zero.1 h).resolve_left hk
  · have h := h2 u (fun r hr => by
      obtain ⟨l, hl, rfl⟩ := mem_fm.1 hr
      exact hu l hl) i j hi hj
    rw [hmu i hi, hmu j hj] at h
    have : k * (u i * V (normL d m) j) = k * (u j * V (normL d m) i) := by grind
    exact Int.eq_of_mul_eq_mul_left hk this

/-- There is a way by just these rows: one alone, and above 0 of each. -/
theorem wayB_iff {g : List Int} {rs : List (List Int)} : wayB g rs = true ↔ ∃ a : Nat → Int, (∀ i, i < rs.length + 1 → 0 < a i) ∧ (∀ r ∈ acrL g rs, dot (rs.length + 1) (V r) a = 0) ∧
    ∀ u : Nat → Int, (∀ r ∈ acrL g rs, dot (rs.length + 1) (V r) u = 0) → Par (rs.length + 1) u a := by
  constructor
  · intro h
    unfold wayB at h
    rw [Bool.and_eq_true] at h
    obtain ⟨hb, hn⟩ := h
    have hl : (pickL (rs.length + 1) (acrL g rs)).length + 1 = rs.length + 1 := by simpa [normB] using hb
    obtain ⟨_, h1, h2⟩ := norm_spec hl
    refine ⟨V (normL (rs.length + 1) (acrL g rs)), fun i hi => ?_, h1, h2⟩
    have hlen := norm_len hb
    have hm : (normL (rs.length + 1) (acrL g rs)).getD i 0 ∈ wayN g rs := getD_mem (by unfold wayN; rw [hlen]; exact hi)
    have hn' : (wayN g rs).any lowB = false := by simpa using hn
    rw [List.any_eq_false] at hn'
    have := hn' _ hm
    simp only [lowB, decide_eq_true_eq] at this
    show 0 < (normL (rs.length + 1) (acrL g rs)).getD i 0
    omega
  · rintro ⟨a, hpos, h0, h1⟩
    have hg := pick_greedy (rs.length + 1) (acrL g rs)
    have hc := greedy_count hg (a := a) ⟨0, by omega, by have := hpos 0 (by omega); omega⟩ (fun r hr => by
      obtain ⟨l, hl, rfl⟩ := mem_fm.1 hr
      exact h0 l hl) (fun u hu => h1 u (fun r hr => hu (V r) (mem_fm.2 ⟨r, hr, rfl⟩)))
    rw [fm_length] at hc
    have hb : normB (rs.length + 1) (acrL g rs) = true := by simpa [normB] using hc
    obtain ⟨⟨p, hp, hne⟩, h2, _⟩ := norm_spec hc
    have hpar := h1 _ h2
    have hlen := norm_len hb
    have hn0 : V (normL (rs.length + 1) (acrL g rs)) 0 ≠ 0 := fun e => by
      have h3 := hpar p 0 hp (by omega)
      rw [e, Int.zero_mul] at h3
      have := hpos 0 (by omega)
      rcases Int.mul_eq_zero.1 h3 with h | h
      · exact hne h
      · omega
    have hf : 0 < V (normL (rs.length + 1) (acrL g rs)) 0 := by
      have h3 := upr_first (low (muL (rs.length + 1) (pickL (rs.length + 1) (acrL g rs))))
      have h4 : upr (low (muL (rs.length + 1) (pickL (rs.length + 1) (acrL g rs)))) = normL (rs.length + 1) (acrL g rs) := (if_pos hc).symm
      rw [h4, find_at (t := 0) (by rw [hlen]; omega) (fun i hi => absurd hi (by omega)) hn0] at h3
      have : V (normL (rs.length + 1) (acrL g rs)) 0 = (normL (rs.length + 1) (acrL g rs)).getD 0 0 := rfl
      omega
    have hall : ∀ i, i < rs.length + 1 → 0 < V (normL (rs.length + 1) (acrL g rs)) i := fun i hi => by
      have h3 := hpar i 0 hi (by omega)
      have h4 := hpos 0 (by omega)
      have h5 := hpos i hi
      have h6 : 0 < V (normL (rs.length + 1) (acrL g rs)) i * a 0 := by rw [h3]; exact Int.mul_pos hf h5
      exact Int.pos_of_mul_pos_left h6 h4
    unfold wayB
    rw [Bool.and_eq_true]
    refine ⟨hb, ?_⟩
    have : (wayN g rs).any lowB = false := by
      rw [List.any_eq_false]
      intro z hz
      obtain ⟨i, hi, rfl⟩ := List.getElem_of_mem hz
      have h3 := hall i (by unfold wayN at hi; omega)
      have h4 : V (normL (rs.length + 1) (acrL g rs)) i = (wayN g rs)[i] := by
        show (wayN g rs).getD i 0 = _
        simp [hi]
      rw [h4] at h3
      simp only [lowB, decide_eq_true_eq]
      omega
    simp [this]

end Go.Proofs.Ytmljnfgfjcjmmaa
