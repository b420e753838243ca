/- The law HullMade: the walk. -/
import Derived.Test.YtfecllakhfpbaaaGreatHm23
import Derived.Test.YtfecllakhfpbaaaGreatBetC
import Derived.Test.YtfecllakhfpbaaaGreatPik
namespace Go.Proofs.YtfecllakhfpbaaaGreat
open Go.RowKit
attribute [local go_sem ↓] Go.wp_at_zero Go.wp_at_succ

/-- A call of five words within a region that draws its order. -/
theorem step_call5 {P : Program} {ops : Array Oper} {o : Oper} {a : Act} {w : World} {K : Act → World → Prop} {Q : Exit → Act → World → Prop} {E : Prop}
    (hg : o.guard = none) (f : FuncId) (x1 x2 x3 x4 x5 : Operand) (t1 t2 t3 t4 t5 : TypeId) (hop : o.op = Op.call { callee := Callee.value (Operand.func f), args := #[x1, x2, x3, x4, x5], argTypes := #[t1, t2, t3, t4, t5] }) (v1 v2 v3 v4 v5 : Value) (h1 : a.eval x1 = v1) (h2 : a.eval x2 = v2) (h3 : a.eval x3 = v3) (h4 : a.eval x4 = v4) (h5 : a.eval x5 = v5) (hf : ∃ fn, P.funcs[f]? = some fn ∧ (fn.name == "runtime.NumGoroutine") = false ∧ fn.body.isNone = false)
    (hc : Calls P f #[v1, v2, v3, v4, v5] w fun e w' => ∃ u, e = .returned u ∧ K (a.put o.dst u) w') :
    if Region.wanted o (yielded ops a.tmps) = true then Oper.wp P o a w K Q else E := by
  have hw : Region.wanted o (yielded ops a.tmps) = true := by simp [Region.wanted, hg]
  rw [if_pos hw]
  unfold Oper.wp
  obtain ⟨fn, f1, f2, f3⟩ := hf
  have e : (execOp a.eval o).run P w = .ok (.enter f #[v1, v2, v3, v4, v5]) w := by
    have hfn : a.eval (Operand.func f) = Value.func (Fn.func f) #[] #[] := rfl
    have hcf : (callFunc f #[v1, v2, v3, v4, v5]).run P w = .ok (.enter f #[v1, v2, v3, v4, v5]) w := by
      unfold callFunc
      have g2 : ¬ fn.name = "runtime.NumGoroutine" := by simpa using f2
      have g3 : ¬ fn.body = none := by intro e; rw [e] at f3; simp at f3
      simp [f1, g2, g3]
    unfold execOp
    rw [hop]
    simp [resolve, invoke, h1, h2, h3, h4, h5, hfn, Deferred.ofValue, hcf]
  rw [e, Oper.upon_enter]
  refine hc.mono ?_
  rintro e w' ⟨u, rfl, h⟩
  exact h

theorem poly_box6 {n wd : Nat} {m : List (List Int)} (hm : Box n wd m) (hw : wd ≤ 6) : Box n 6 (polyL n m) := by
  intro r hr
  simp only [polyL, List.mem_append, List.mem_singleton, List.mem_map, List.mem_range] at hr
  rcases hr with (hr | rfl) | ⟨k, hk, rfl⟩
  · refine ⟨(hm r hr).1, fun z hz => ?_⟩
    have := (hm r hr).2 z hz
    omega
  · refine ⟨by simp [zerosL], fun z hz => ?_⟩
    simp only [zerosL, List.mem_map] at hz
    obtain ⟨_, _, rfl⟩ := hz
    omega
  · refine ⟨by simp [spk], fun z hz => ?_⟩
    simp only [spk, List.mem_map] at hz
    obtain ⟨j, _, rfl⟩ := hz
    have := Nat.mod_lt k (show 0 < 2 by decide)
    split <;> omega

set_option maxRecDepth 100000 in
set_option maxHeartbeats 1600000 in
theorem hullMade_any (B : Nat) (raw xs : List Int) (d0 m0 a0 : Int) (v u : Value) (w : World) (hv : Sl B 3 w v (ints raw)) (hu : Sl B 3 w u (ints xs)) (hr : ∀ z ∈ raw, In64 z) (hrx : ∀ z ∈ xs, In64 z) (hd : In64 d0) (hm : In64 m0) (ha : In64 a0) :
    Calls Tryz.prog 3 #[v, .int .i64 d0, .int .i64 m0, .int .i64 a0, u] w fun e w' => e = .returned (.bool true) ∧ Below w.heap.size w w' := by
  obtain ⟨ao, cap, hvv, hlc, hcm⟩ := sl_open hv
  subst hvv
  obtain ⟨uo, uc, huu, _, _⟩ := sl_open hu
  subst huu
  have HV : Hid (Sl B 3 w (.slice ao raw.length cap) (ints raw)) := hv
  have HU : Hid (Sl B 3 w (.slice uo xs.length uc) (ints xs)) := hu
  have HRR : Hid (∀ z ∈ raw, In64 z) := hr
  have HRX : Hid (∀ z ∈ xs, In64 z) := hrx
  have HD : Hid (In64 d0) := hd
  have HMM : Hid (In64 m0) := hm
  have HAA : Hid (In64 a0) := ha
  clear hv hu hr hrx hd hm ha
  by_cases h1 : 256 < raw.length
  · have b1 : decide ((256 : Int) < (raw.length : Int)) = true := decide_eq_true (by omega)
    go_enter Tryz.func3, Tryz.ntmps3
    go_wp2
    go_ret
    exact ⟨rfl, Below.refl _ _⟩
  · have b1 : decide ((256 : Int) < (raw.length : Int)) = false := decide_eq_false (by omega)
    by_cases h2 : 300 < xs.length
    · have b2 : decide ((300 : Int) < (xs.length : Int)) = true := decide_eq_true (by omega)
      go_enter Tryz.func3, Tryz.ntmps3
      go_wp2
      go_ret
      exact ⟨rfl, Below.refl _ _⟩
    · have b2 : decide ((300 : Int) < (xs.length : Int)) = false := decide_eq_false (by omega)
      have HRL : Hid (raw.length ≤ 1000000) := by
        show _ ≤ _
        omega
      have HXL : Hid (xs.length ≤ 1000000) := by
        show _ ≤ _
        omega
      clear h1 h2
      go_enter Tryz.func3, Tryz.ntmps3
      go_wp2_with fail
      refine (pick_any d0 4 w (by omega) (by omega) HD.out).mono ?_
      rintro e w1 ⟨z, rfl, hz, rfl⟩
      obtain ⟨n, hn⟩ : ∃ n : Nat, (n : Int) = 1 + z := ⟨(1 + z).toNat, by omega⟩
      have hz1' := hz.1
      have hz2' := hz.2
      have HN : Hid ((n : Int) = 1 + z) := hn
      have hn1 : 1 ≤ n := by omega
      have hn4 : n ≤ 4 := by omega
      clear hz hn
      go_wp2_with fail
      rw [← HN.out]
      refine (pick_any m0 7 w1 (by omega) (by omega) HMM.out).mono ?_
      rintro e w2 ⟨y, rfl, hy, rfl⟩
      obtain ⟨k, hk⟩ : ∃ k : Nat, (k : Int) = y := ⟨y.toNat, by omega⟩
      have hk6 : k ≤ 6 := by omega
      subst hk
      clear hy hz1' hz2' HN
      go_wp2_with fail
      refine (pick_any a0 6 w2 (by omega) (by omega) HAA.out).mono ?_
      rintro e w2' ⟨y2, rfl, hy2, rfl⟩
      obtain ⟨wd, hwd⟩ : ∃ wd : Nat, (wd : Int) = 1 + y2 := ⟨(1 + y2).toNat, by omega⟩
      have hy1' := hy2.1
      have hy2' := hy2.2
      have HWD : Hid ((wd : Int) = 1 + y2) := hwd
      have hwd6 : wd ≤ 6 := by omega
      clear hy2 hwd
      go_wp2_with fail
      rw [← HWD.out]
      refine (polytopeOf_any B raw _ n k wd w2' HV.out HRR.out HRL.out hn1 hn4 (by omega) (by omega)).mono ?_
      rintro e w3 ⟨x, m, rfl, hml, hbx, hmat, hb3⟩
      obtain ⟨P, hP⟩ : ∃ P, P = polyL n m := ⟨_, rfl⟩
      have hgood : Good n P := by rw [hP]; exact poly_good hn1 hn4 hbx (by omega) (by omega)
      have hbox : Box n 6 P := by rw [hP]; exact poly_box6 hbx hwd6
      have hlen : P.length ≤ 16 := by rw [hP, poly_len]; omega
      rw [← hP] at hmat
      obtain ⟨vb, vo, xc, r1, hxv, _, _, _⟩ := mat_cell hmat (k := 0) (by have := hgood.n2; omega)
      obtain ⟨pl, hpl⟩ : ∃ pl, pl = P.length := ⟨_, rfl⟩
      rw [← hpl] at hxv
      clear hpl
      subst hxv
      have HG : Hid (Good n P) := hgood
      have HBX : Hid (Box n 6 P) := hbox
      have HPL : Hid (P.length ≤ 16) := hlen
      obtain ⟨W, hW⟩ : ∃ W, W = w3.alloc (.cells #[.int .i64 n, .slice (some ⟨vb, vo, none⟩) pl xc] 26) := ⟨_, rfl⟩
      have hbw : Below w3.heap.size w3 W := by rw [hW]; exact alloc_keep _ _
      have HW : Hid (Below w2'.heap.size w2' W) := hb3.trans (hbw.mono hb3.size)
      have HM : Hid (Mat W.heap.size 22 3 W (.slice (some ⟨vb, vo, none⟩) pl xc) P) := (hmat.below hbw (Nat.le_refl _)).any (Nat.le_refl _)
      obtain ⟨Rp, hRp⟩ : ∃ Rp, Rp = w3.heap.size := ⟨_, rfl⟩
      have c0 : W.cell? ⟨Rp, 0, none⟩ = some (.int .i64 n) := by rw [hRp, hW]; simp
      have c1 : W.cell? ⟨Rp, 1, none⟩ = some (.slice (some ⟨vb, vo, none⟩) pl xc) := by rw [hRp, hW]; simp
      have HC : Hid (∀ W', Below W.heap.size W W' → W'.cell? ⟨Rp, 0, none⟩ = some (.int .i64 n) ∧ W'.cell? ⟨Rp, 1, none⟩ = some (.slice (some ⟨vb, vo, none⟩) pl xc)) := fun W' h => ⟨(h.cell (lt_of_cell c0)).trans c0, (h.cell (lt_of_cell c1)).trans c1⟩
      have HPO : Hid (Calls Tryz.prog 7 #[.slice uo xs.length uc, .int .i64 0, .int .i64 n, .int .i64 1, .int .i64 3] W.drew fun e w' => ∃ qb qo qc ro rc q, e = .returned (.slice (some ⟨qb, qo, none⟩) 1 qc) ∧ w'.cell? ⟨qb, qo, none⟩ = some (.slice ro n rc) ∧ (Sl w'.heap.size 3 w' (.slice ro n rc) (ints q) ∧ q.length = n ∧ (∀ z ∈ q, z.natAbs ≤ 100) ∧ Below W.heap.size W w')) := by
        have huW : Sl W.heap.size 3 W.drew (.slice uo xs.length uc) (ints xs) := ((HU.out.below HW.out (Nat.le_refl _)).any (Nat.le_refl _)).drew
        refine (pointsOf_any W.heap.size xs _ 0 n 1 3 W.drew huW HRX.out HXL.out (by omega) (by omega) (by omega) (by omega)).mono ?_
        rintro e w' ⟨y, q1, rfl, hq1, hqb, hqf, hbq⟩
        have hmq : Mat w'.heap.size 22 3 w' y q1 := (hqf.rws.mat (Nat.le_refl _)).any (Nat.le_refl _)
        obtain ⟨qb, qo, qc, rq, hyv, _, hcq, hrq⟩ := mat_cell hmq (k := 0) (by omega)
        have hmem : q1.getD 0 [] ∈ q1 := by simp [show 0 < q1.length by omega]
        obtain ⟨ro, rc, hrv, _, _⟩ := sl_open hrq
        rw [(hqb _ hmem).1] at hrv
        subst hrv
        rw [hq1] at hyv
        subst hyv
        exact ⟨qb, qo, qc, ro, rc, _, rfl, hcq, hrq, (hqb _ hmem).1, fun z hz => by have := (hqb _ hmem).2 z hz; omega, ⟨hbq.os, hbq.tape, hbq.output, hbq.size, hbq.block⟩⟩
      have HHS : Hid (∀ w' ro rc q, (Sl w'.heap.size 3 w' (.slice ro n rc) (ints q) ∧ q.length = n ∧ (∀ z ∈ q, z.natAbs ≤ 100) ∧ Below W.heap.size W w') → Calls Tryz.prog 6 #[.agg #[.int .i64 n, .slice (some ⟨vb, vo, none⟩) pl xc], .slice ro n rc] w' fun e w'' => e = .returned (.bool true) ∧ Below w2'.heap.size w2' w'') := fun w' ro rc q hq => by
        have hb : Below W.heap.size W w' := hq.2.2.2
        exact (hullSays_ok n P q _ _ w' ((HM.out.below hb (Nat.le_refl _)).any (Nat.le_refl _)) hq.1 HG.out HBX.out HPL.out hq.2.1 hq.2.2.1).mono fun e w'' ⟨e1, e2⟩ => ⟨e1, (HW.out.trans (hb.mono HW.out.size)).trans (e2.mono (Nat.le_trans HW.out.size hb.size))⟩
      clear hml hbx hmat hb3 hgood hbox hlen hP hbw hy1' hy2' HWD
      go_wp2
      rw [← hW, ← hRp]
      clear hW hRp
      go_region_law (first
        | (refine step_call5 (o := { dst := some 34, op := _, type := _, pos := _, after := _, guard := _ }) (by rfl) 7 _ _ _ _ _ _ _ _ _ _ (by rfl) _ _ _ _ _ (by simp [Act.eval, Act.put]; rfl) (by simp [Act.eval]; rfl) (by simp [Act.eval, Act.put]; rfl) (by simp [Act.eval]; rfl) (by simp [Act.eval]; rfl) ⟨_, Tryz.func7, by rfl, by rfl⟩ ?_; refine HPO.out.mono ?_; rintro e w5 ⟨qb, qo, qc, ro, rc, q, rfl, hcq, hx⟩; refine ⟨_, rfl, ?_⟩; have HX5 : Hid (Sl w5.heap.size 3 w5 (.slice ro n rc) (ints q) ∧ q.length = n ∧ (∀ z ∈ q, z.natAbs ≤ 100) ∧ Below W.heap.size W w5) := hx; have f0 := (HC.out w5 hx.2.2.2).1; have f1 := (HC.out w5 hx.2.2.2).2; clear hx)
        | (refine step_call2 (o := { dst := some 37, op := _, type := _, pos := _, after := _, guard := _ }) (by rfl) 6 _ _ _ _ (by rfl) _ _ (by simp [Act.eval]; rfl) (by simp [Act.eval]; rfl) ⟨_, Tryz.func6, by rfl, by rfl⟩ ?_; refine (HHS.out w5 ro rc q HX5.out).mono ?_; rintro e w6 ⟨rfl, hb6⟩; refine ⟨_, rfl, ?_⟩; have HB6 : Hid (Below w2'.heap.size w2' w6) := hb6; clear hb6))
      all_goals
        go_wp2
        go_ret
        exact ⟨rfl, HB6.out⟩

end Go.Proofs.YtfecllakhfpbaaaGreat
