/- Points of raw numbers: each is small, whatever the numbers. -/
import Derived.Test.YtgfnmkenpgnllaaGreatRefs3
import Derived.Test.YtgfnmkenpgnllaaGreatStepsAll
namespace Go.Proofs.YtgfnmkenpgnllaaGreat
open Go.RowKit
attribute [local go_sem ↓] Go.wp_at_zero Go.wp_at_succ

def In64 (z : Int) : Prop := -9223372036854775808 ≤ z ∧ z ≤ 9223372036854775807

set_option maxRecDepth 100000 in
set_option maxHeartbeats 400000 in
theorem pick_any (c n : Int) (w : World) (h1 : 1 ≤ n) (h2 : n ≤ 4611686018427387904) (hc : In64 c) :
    Calls Tryz.prog 4 #[.int .i64 c, .int .i64 n] w fun e w' => ∃ z, e = .returned (.int .i64 z) ∧ (0 ≤ z ∧ z < n) ∧ w' = w := by
  have c0 : -9223372036854775808 ≤ c := hc.1
  have c1 : c ≤ 9223372036854775807 := hc.2
  clear hc
  have hn0 : ¬ n = 0 := by omega
  by_cases hcn : c < 0
  · have e0 : (-(c + 1)).tmod n = (-(c + 1)) % n := Int.tmod_eq_emod_of_nonneg (by omega)
    have e1 := Int.emod_nonneg (-(c + 1)) hn0
    have e2 := Int.emod_lt_of_pos (-(c + 1)) (show 0 < n by omega)
    go_enter Tryz.func4, Tryz.ntmps4
    go_wp2
    go_ret
    exact ⟨_, rfl, ⟨e1, e2⟩, rfl⟩
  · have e0 : c.tmod n = c % n := Int.tmod_eq_emod_of_nonneg (by omega)
    have e1 := Int.emod_nonneg c hn0
    have e2 := Int.emod_lt_of_pos c (show 0 < n by omega)
    go_enter Tryz.func4, Tryz.ntmps4
    go_wp2
    go_ret
    exact ⟨_, rfl, ⟨e1, e2⟩, rfl⟩

/-- A call of two words within a region that draws its order. -/
theorem step_call2 {P : Program} {ops : Array Oper} {o : Oper} {a : Act} {w : World} {K : Act → World → Prop} {Q : Exit → Act → World → Prop} {E : Prop}
    (hg : o.guard = none) (f : FuncId) (x y : Operand) (t s : TypeId) (hop : o.op = Op.call { callee := Callee.value (Operand.func f), args := #[x, y], argTypes := #[t, s] }) (v u : Value) (hv : a.eval x = v) (hu : a.eval y = u) (hf : ∃ fn, P.funcs[f]? = some fn ∧ (fn.name == "runtime.NumGoroutine") = false ∧ fn.body.isNone = false)
    (hc : Calls P f #[v, u] w fun e w' => ∃ u, e = .returned u ∧ K (a.put o.dst u) w') :
    if Region.wanted o (yielded ops a.tmps) = true then Oper.wp P o a w K Q else E := by
  have hw : Region.wanted o (yielded ops a.tmps) = true := by simp [Region.wanted, hg]
  rw [if_pos hw]
  unfold Oper.wp
  obtain ⟨fn, f1, f2, f3⟩ := hf
  have e : (execOp a.eval o).run P w = .ok (.enter f #[v, u]) w := by
    have hfn : a.eval (Operand.func f) = Value.func (Fn.func f) #[] #[] := rfl
    have hcf : (callFunc f #[v, u]).run P w = .ok (.enter f #[v, u]) w := by
      unfold callFunc
      have g2 : ¬ fn.name = "runtime.NumGoroutine" := by simpa using f2
      have g3 : ¬ fn.body = none := by intro e; rw [e] at f3; simp at f3
      simp [f1, g2, g3]
    unfold execOp
    rw [hop]
    simp [resolve, invoke, hv, hu, hfn, Deferred.ofValue, hcf]
  rw [e, Oper.upon_enter]
  refine hc.mono ?_
  rintro e w' ⟨u, rfl, h⟩
  exact h

set_option maxRecDepth 100000 in
set_option maxHeartbeats 400000 in
theorem raw_any (B : Nat) (l : List Int) (v : Value) (i : Nat) (w : World) (hv : Sl B 3 w v (ints l)) (hr : ∀ z ∈ l, In64 z) (hl : l.length ≤ 1000000) (hi : i ≤ 1000000) :
    Calls Tryz.prog 23 #[v, .int .i64 i] w fun e w' => ∃ z, e = .returned (.int .i64 z) ∧ (0 ≤ z ∧ z ≤ 4611686018427387904) ∧ Below w.heap.size w w' := by
  obtain ⟨ao, cap, hvv, hlc, hcm⟩ := sl_open hv
  subst hvv
  by_cases h0 : l.length = 0
  · rw [h0]
    clear hv
    go_enter Tryz.func23, Tryz.ntmps23
    go_wp2
    go_ret
    exact ⟨_, rfl, by omega, Below.refl _ _⟩
  · have hk : i % l.length < l.length := Nat.mod_lt _ (by omega)
    obtain ⟨b, o, cp, hs, hc, hcc⟩ := sl_cell hv hk
    simp only [Value.slice.injEq] at hs
    obtain ⟨rfl, _, rfl⟩ := hs
    have hmem : l.getD (i % l.length) 0 ∈ l := by simp [hk]
    have hin : In64 (l.getD (i % l.length) 0) := hr _ hmem
    have HP : Hid (Calls Tryz.prog 4 #[.int .i64 (l.getD (i % l.length) 0), .int .i64 1000003] w.drew fun e w' => ∃ z, e = .returned (.int .i64 z) ∧ (0 ≤ z ∧ z < 1000003) ∧ w' = w.drew) := pick_any _ _ _ (by omega) (by omega) hin
    generalize hz : l.getD (i % l.length) 0 = z0 at *
    have hd0 : i / l.length ≤ 1000000 := Nat.le_trans (Nat.div_le_self _ _) hi
    have hq : (i : Int).tmod (l.length : Int) = ((i % l.length : Nat) : Int) := by rw [Int.tmod_eq_emod_of_nonneg (by omega)]; rfl
    have hqd : (i : Int).tdiv (l.length : Int) = ((i / l.length : Nat) : Int) := by rw [Int.tdiv_eq_ediv_of_nonneg (by omega)]; rfl
    clear hv hr hmem hin hz
    generalize i % l.length = k at *
    generalize i / l.length = q at *
    generalize l.length = n at *
    have hn0 : ¬ (n : Int) = 0 := by omega
    have hnb : ((n : Int) == 0) = false := by rw [beq_eq_false_iff_ne]; exact hn0
    have hk0 : (0 : Int) ≤ (k : Int) := by omega
    have hkn : (k : Int) < (n : Int) := by omega
    go_enter Tryz.func23, Tryz.ntmps23
    go_wp2
    go_region_law (refine step_call2 (o := { dst := some 17, op := _, type := _, pos := _, after := _, guard := _ }) (by rfl) 4 _ _ 3 3 (by rfl) _ _ (by rfl) (by rfl) ⟨_, Tryz.func4, by rfl, by rfl⟩ ?_; refine (HP.out).mono ?_; rintro e w2 ⟨z, rfl, hz, rfl⟩; refine ⟨_, rfl, ?_⟩; have hz1 := hz.1; have hz2 := hz.2; clear hz)
    all_goals
      have e1 : IntKind.i64.wrap (z + IntKind.i64.wrap (IntKind.i64.wrap (q : Int) * 7919)) = z + q * 7919 := by
        rw [IntWalk.i64_left, IntWalk.i64_left, IntWalk.i64_left, IntWalk.wrap64_in (q : Int) ⟨by omega, by omega⟩, IntWalk.wrap64_in ((q : Int) * 7919) ⟨by omega, by omega⟩, IntWalk.wrap64_in _ ⟨by omega, by omega⟩]
      go_wp2
      go_ret
      exact ⟨_, rfl, by rw [e1]; omega, Below.drew (Below.refl _ _)⟩

/-- Rows of so many numbers, none beyond a bound. -/
def Box (n wd : Nat) (m : List (List Int)) : Prop := ∀ r ∈ m, r.length = n ∧ ∀ z ∈ r, -(wd : Int) ≤ z ∧ z ≤ wd

theorem Box.snoc {n wd : Nat} {m : List (List Int)} {r : List Int} (h : Box n wd m) (h1 : r.length = n) (h2 : ∀ z ∈ r, -(wd : Int) ≤ z ∧ z ≤ wd) : Box n wd (m ++ [r]) := by
  intro x hx
  simp only [List.mem_append, List.mem_singleton] at hx
  rcases hx with hx | rfl
  · exact h x hx
  · exact ⟨h1, h2⟩

theorem near_snoc {wd : Nat} {r : List Int} {z : Int} (h : ∀ z ∈ r, -(wd : Int) ≤ z ∧ z ≤ wd) (h0 : -(wd : Int) ≤ z ∧ z ≤ wd) : ∀ x ∈ r ++ [z], -(wd : Int) ≤ x ∧ x ≤ wd := by
  intro x hx
  simp only [List.mem_append, List.mem_singleton] at hx
  rcases hx with hx | rfl
  · exact h x hx
  · exact h0

end Go.Proofs.YtgfnmkenpgnllaaGreat
