/- The law: what is between two points of a polytope is in it. -/
import Derived.Test.YtpppeffldkbhnaaBetC
import Derived.Test.YtpppeffldkbhnaaWhA
import Derived.Test.YtpppeffldkbhnaaPik
namespace Go.Proofs.Ytpppeffldkbhnaa
open Go.RowKit
attribute [local go_sem ↓] Go.wp_at_zero Go.wp_at_succ

/-- A call of three words within a region that draws its order. -/
theorem step_call3 {P : Program} {ops : Array Oper} {o : Oper} {a : Act} {w : World} {K : Act → World → Prop} {Q : Exit → Act → World → Prop} {E : Prop}
    (hg : o.guard = none) (f : FuncId) (x y z : Operand) (t s r : TypeId) (hop : o.op = Op.call { callee := Callee.value (Operand.func f), args := #[x, y, z], argTypes := #[t, s, r] }) (v u q : Value) (hv : a.eval x = v) (hu : a.eval y = u) (hq : a.eval z = q) (hf : ∃ fn, P.funcs[f]? = some fn ∧ (fn.name == "runtime.NumGoroutine") = false ∧ fn.body.isNone = false)
    (hc : Calls P f #[v, u, q] w fun e w' => ∃ u, e = .returned u ∧ K (a.put o.dst u) w') :
    if Region.wanted o (yielded ops a.tmps) = true then Oper.wp P o a w K Q else E := by
  have hw : Region.wanted o (yielded ops a.tmps) = true := by simp [Region.wanted, hg]
  rw [if_pos hw]
  unfold Oper.wp
  obtain ⟨fn, f1, f2, f3⟩ := hf
  have e : (execOp a.eval o).run P w = .ok (.enter f #[v, u, q]) w := by
    have hfn : a.eval (Operand.func f) = Value.func (Fn.func f) #[] #[] := rfl
    have hcf : (callFunc f #[v, u, q]).run P w = .ok (.enter f #[v, u, q]) w := by
      unfold callFunc
      have g2 : ¬ fn.name = "runtime.NumGoroutine" := by simpa using f2
      have g3 : ¬ fn.body = none := by intro e; rw [e] at f3; simp at f3
      simp [f1, g2, g3]
    unfold execOp
    rw [hop]
    simp [resolve, invoke, hv, hu, hq, hfn, Deferred.ofValue, hcf]
  rw [e, Oper.upon_enter]
  refine hc.mono ?_
  rintro e w' ⟨u, rfl, h⟩
  exact h

theorem dbl_snoc (P : List (List Int)) (k : Nat) (h : k < P.length) : (dblL P).take (k + 1) = (dblL P).take k ++ [addL (P.getD k []) (P.getD k [])] := by
  unfold dblL
  rw [List.take_succ_eq_append_getElem (by simpa using h)]; simp [h]

set_option maxRecDepth 100000 in
set_option maxHeartbeats 100000000 in
theorem topBetween_any (B : Nat) (raw : List Int) (d0 m0 a0 b0 : Int) (v : Value) (w : World) (hv : Sl B 3 w v (ints raw)) (hr : ∀ z ∈ raw, In64 z) (hd : In64 d0) (hm : In64 m0) (ha : In64 a0) (hb : In64 b0) :
    Calls Try.prog 3 #[v, .int .i64 d0, .int .i64 m0, .int .i64 a0, .int .i64 b0] w fun e w' => e = .returned (.bool true) ∧ Below w.heap.size w w' := by
  obtain ⟨i0, hi, hz0, hz1, hz2⟩ := info_parts Try.info22
  obtain ⟨ao, cap, hvv, hlc, hcm⟩ := sl_open hv
  subst hvv
  have HV : Hid (Sl B 3 w (.slice ao raw.length cap) (ints raw)) := hv
  have HRR : Hid (∀ z ∈ raw, In64 z) := hr
  have HD : Hid (In64 d0) := hd
  have HMM : Hid (In64 m0) := hm
  have HAA : Hid (In64 a0) := ha
  have HBB : Hid (In64 b0) := hb
  clear hv hr hd hm ha hb
  by_cases h1 : 256 < raw.length
  · have b1 : decide ((256 : Int) < (raw.length : Int)) = true := decide_eq_true (by omega)
    go_enter Try.func3, Try.ntmps3
    go_wp2
    go_ret
    exact ⟨rfl, Below.refl _ _⟩
  · have b1 : decide ((256 : Int) < (raw.length : Int)) = false := decide_eq_false (by omega)
    have HRL : Hid (raw.length ≤ 1000000) := by
      show _ ≤ _
      omega
    clear h1
    go_enter Try.func3, Try.ntmps3
    go_wp2_with fail
    refine (pick_any d0 4 w (by omega) (by omega) HD.out).mono ?_
    rintro e w1 ⟨z, rfl, hz, rfl⟩
    obtain ⟨n, hn⟩ : ∃ n : Nat, (n : Int) = 1 + z := ⟨(1 + z).toNat, by omega⟩
    have hz1' := hz.1
    have hz2' := hz.2
    have HN : Hid ((n : Int) = 1 + z) := hn
    have hn1 : 1 ≤ n := by omega
    have hn4 : n ≤ 4 := by omega
    clear hz hn
    go_wp2_with fail
    rw [← HN.out]
    refine (pick_any m0 7 w1 (by omega) (by omega) HMM.out).mono ?_
    rintro e w2 ⟨y, rfl, hy, rfl⟩
    obtain ⟨k, hk⟩ : ∃ k : Nat, (k : Int) = y := ⟨y.toNat, by omega⟩
    have hk6 : k ≤ 6 := by omega
    subst hk
    clear hy hz1' hz2' HN
    go_wp2_with fail
    refine (polytopeOf_any B raw _ n k 5 w2 HV.out HRR.out HRL.out hn1 hn4 (by omega) (by omega)).mono ?_
    rintro e w3 ⟨x, m, rfl, hml, hbx, hmat, hb3⟩
    obtain ⟨P, hP⟩ : ∃ P, P = polyL n m := ⟨_, rfl⟩
    have hgood : Good n P := by rw [hP]; exact poly_good hn1 hn4 hbx (by decide) (by omega)
    have hbox : Box n 15 P := by rw [hP]; exact poly_box hbx (by decide)
    have hspan := Go.Proofs.Ytpppeffldkbhnaa.good_span hgood
    rw [← hP] at hmat
    obtain ⟨vb, vo, xc, r1, hxv, _, _, _⟩ := mat_cell hmat (k := 0) (by have := hgood.n2; omega)
    subst hxv
    have HG : Hid (Good n P) := hgood
    have HBX : Hid (Box n 15 P) := hbox
    have HG2 : Hid (Good n (dblL P)) := dbl_good hn1 hn4 hbox hgood.n2 hgood.n24 hspan
    have hp2 : 2 ≤ P.length := hgood.n2
    have hp24 : P.length ≤ 24 := hgood.n24
    obtain ⟨W, hW⟩ : ∃ W, W = w3.alloc (.cells #[.int .i64 n, .slice (some ⟨vb, vo, none⟩) P.length xc] 26) := ⟨_, rfl⟩
    have hbw : Below w3.heap.size w3 W := by rw [hW]; exact alloc_keep _ _
    have hsW : W.heap.size = w3.heap.size + 1 := by rw [hW]; exact size_alloc _ _
    have HW : Hid (Below w2.heap.size w2 W) := hb3.trans (hbw.mono hb3.size)
    have HM : Hid (Mat w3.heap.size 22 3 W (.slice (some ⟨vb, vo, none⟩) P.length xc) P) := hmat.below hbw (Nat.le_refl _)
    obtain ⟨Rp, hRp⟩ : ∃ Rp, Rp = w3.heap.size := ⟨_, rfl⟩
    have c0 : W.cell? ⟨Rp, 0, none⟩ = some (.int .i64 n) := by rw [hRp, hW]; simp
    have c1 : W.cell? ⟨Rp, 1, none⟩ = some (.slice (some ⟨vb, vo, none⟩) P.length xc) := by rw [hRp, hW]; simp
    have HRP : Hid (Rp = w3.heap.size) := hRp
    have HSW : Hid (W.heap.size = w3.heap.size + 1) := hsW
    obtain ⟨ia, hia⟩ : ∃ ia : Nat, (ia : Int) = pickF a0 P.length := ⟨(pickF a0 P.length).toNat, by have := pickF_bd (c := a0) (n := P.length) (by omega); omega⟩
    obtain ⟨ib, hib⟩ : ∃ ib : Nat, (ib : Int) = pickF b0 P.length := ⟨(pickF b0 P.length).toNat, by have := pickF_bd (c := b0) (n := P.length) (by omega); omega⟩
    have hia2 : ia < P.length := by have := pickF_bd (c := a0) (n := P.length) (by omega); omega
    have hib2 : ib < P.length := by have := pickF_bd (c := b0) (n := P.length) (by omega); omega
    have HPA : Hid (∀ W', Calls Try.prog 4 #[.int .i64 a0, .int .i64 P.length] W' fun e w' => e = .returned (.int .i64 ia) ∧ w' = W') := fun W' => by rw [hia]; exact pick_val a0 _ W' (by omega) (by omega) HAA.out
    have HPB : Hid (∀ W', Calls Try.prog 4 #[.int .i64 b0, .int .i64 P.length] W' fun e w' => e = .returned (.int .i64 ib) ∧ w' = W') := fun W' => by rw [hib]; exact pick_val b0 _ W' (by omega) (by omega) HBB.out
    obtain ⟨_, _, _, ra, hsa, _, hca, hra⟩ := mat_cell HM.out hia2
    simp only [Value.slice.injEq, Option.some.injEq, Addr.mk.injEq, and_true, true_and] at hsa
    obtain ⟨⟨rfl, rfl⟩, rfl⟩ := hsa
    obtain ⟨_, _, _, rb, hsb, _, hcb, hrb⟩ := mat_cell HM.out hib2
    simp only [Value.slice.injEq, Option.some.injEq, Addr.mk.injEq, and_true, true_and] at hsb
    obtain ⟨⟨rfl, rfl⟩, rfl⟩ := hsb
    obtain ⟨rao, rac, hrav, _, _⟩ := sl_open hra
    obtain ⟨rbo, rbc, hrbv, _, _⟩ := sl_open hrb
    have hma : P.getD ia [] ∈ P := by simp [hia2]
    have hmb : P.getD ib [] ∈ P := by simp [hib2]
    rw [(hbox _ hma).1] at hrav
    rw [(hbox _ hmb).1] at hrbv
    subst hrav hrbv
    have HXA : Hid (Sl w3.heap.size 3 W (.slice rao n rac) (ints (P.getD ia []))) := hra
    have HXB : Hid (Sl w3.heap.size 3 W (.slice rbo n rbc) (ints (P.getD ib []))) := hrb
    have HMA : Hid (P.getD ia [] ∈ P) := hma
    have HMB : Hid (P.getD ib [] ∈ P) := hmb
    generalize P.getD ia [] = xa at *
    generalize P.getD ib [] = xb at *
    clear hml hbx hmat hb3 hgood hbox hspan hP hbw hsW hia hib hra hrb hma hmb
    go_wp2
    rw [← hW, ← hRp]
    clear hW hRp
    have hiaI : (ia : Int) < (P.length : Int) := by omega
    have hiaI0 : (0 : Int) ≤ (ia : Int) := by omega
    have hibI : (ib : Int) < (P.length : Int) := by omega
    have hibI0 : (0 : Int) ≤ (ib : Int) := by omega
    go_quiet ((go_at_call 4; exact Calls.quiet_of_same (w := W) (HPA.out _)))
    go_wp2
    obtain ⟨W5, hW5⟩ : ∃ W5, W5 = W.drewN nq := ⟨_, rfl⟩
    rw [← hW5]
    have e0 : W5.cell? ⟨Rp, 0, none⟩ = some (.int .i64 n) := by rw [hW5]; exact c0
    have e1 : W5.cell? ⟨Rp, 1, none⟩ = some (.slice (some ⟨vb, vo, none⟩) P.length xc) := by rw [hW5]; exact c1
    have eb : W5.cell? ⟨vb, vo + ib, none⟩ = some (.slice rbo n rbc) := by rw [hW5]; exact hcb
    have HW5 : Hid (Below w2.heap.size w2 W5) := by rw [hW5]; exact HW.out.trans ⟨rfl, rfl, rfl, Nat.le_refl _, fun _ _ => rfl⟩
    have HM5 : Hid (Mat w3.heap.size 22 3 W5 (.slice (some ⟨vb, vo, none⟩) P.length xc) P) := by rw [hW5]; exact HM.out.drewN nq
    have HXA5 : Hid (Sl w3.heap.size 3 W5 (.slice rao n rac) (ints xa)) := by rw [hW5]; exact HXA.out.drewN nq
    have HXB5 : Hid (Sl w3.heap.size 3 W5 (.slice rbo n rbc) (ints xb)) := by rw [hW5]; exact HXB.out.drewN nq
    have HSW5 : Hid (W5.heap.size = w3.heap.size + 1) := by rw [hW5]; exact HSW.out
    clear hW5 c0 c1 hca hcb HM HXA HXB HSW HW HPA
    go_quiet ((go_at_call 4; exact Calls.quiet_of_same (w := W5) (HPB.out _)))
    obtain ⟨W6, hW6⟩ : ∃ W6, W6 = W5.drewN nq := ⟨_, rfl⟩
    rw [← hW6]
    have f0 : W6.cell? ⟨Rp, 0, none⟩ = some (.int .i64 n) := by rw [hW6]; exact e0
    have f1 : W6.cell? ⟨Rp, 1, none⟩ = some (.slice (some ⟨vb, vo, none⟩) P.length xc) := by rw [hW6]; exact e1
    have HW6 : Hid (Below w2.heap.size w2 W6) := by rw [hW6]; exact HW5.out.trans ⟨rfl, rfl, rfl, Nat.le_refl _, fun _ _ => rfl⟩
    have HM6 : Hid (Mat w3.heap.size 22 3 W6 (.slice (some ⟨vb, vo, none⟩) P.length xc) P) := by rw [hW6]; exact HM5.out.drewN nq
    have HXA6 : Hid (Sl w3.heap.size 3 W6 (.slice rao n rac) (ints xa)) := by rw [hW6]; exact HXA5.out.drewN nq
    have HXB6 : Hid (Sl w3.heap.size 3 W6 (.slice rbo n rbc) (ints xb)) := by rw [hW6]; exact HXB5.out.drewN nq
    have HSW6 : Hid (W6.heap.size = w3.heap.size + 1) := by rw [hW6]; exact HSW5.out
    clear hW6 e0 e1 eb HM5 HXA5 HXB5 HSW5 HW5 HPB
    obtain ⟨W7, hW7⟩ : ∃ W7, W7 = W6.alloc (.cells #[.int .i64 n, .slice none 0 0] 26) := ⟨_, rfl⟩
    obtain ⟨M, hM⟩ : ∃ M, M = W6.heap.size := ⟨_, rfl⟩
    have HPS0 : Hid (PS M M n W6 W7 (.slice none 0 0) ((dblL P).take 0)) := by
      rw [hM, hW7]
      exact ⟨alloc_at _ _, Fr.nil _ _ _ _, alloc_keep _ _, Nat.le_refl _⟩
    have HME : Hid (M = W6.heap.size) := hM
    go_wp2
    rw [← hW7, ← hM]
    clear hW7 hM
    have HKEEP : Hid (∀ wr, Below M W6 wr → wr.cell? ⟨Rp, 0, none⟩ = some (.int .i64 n) ∧ wr.cell? ⟨Rp, 1, none⟩ = some (.slice (some ⟨vb, vo, none⟩) P.length xc) ∧ Mat w3.heap.size 22 3 wr (.slice (some ⟨vb, vo, none⟩) P.length xc) P ∧ Sl w3.heap.size 3 wr (.slice rao n rac) (ints xa) ∧ Sl w3.heap.size 3 wr (.slice rbo n rbc) (ints xb)) := fun wr hb => by
      rw [HME.out] at hb
      exact ⟨(hb.cell (lt_of_cell f0)).trans f0, (hb.cell (lt_of_cell f1)).trans f1, HM6.out.below hb (Nat.le_refl _), HXA6.out.below hb (Nat.le_refl _), HXB6.out.below hb (Nat.le_refl _)⟩
    clear f0 f1
    go_loopw [15] (fun i wr => ∃ j : Nat, j ≤ P.length ∧ i = .int .i64 j ∧ ∃ x, PS M M n W6 wr x ((dblL P).take j)) (fun i _ => P.length - (intOf i).toNat)
    case atStart => exact ⟨0, Nat.zero_le _, rfl, _, HPS0.out⟩
    case round =>
      obtain ⟨j, hj, rfl, x, hp⟩ := hrel
      have HP : Hid (PS M M n W6 wr x ((dblL P).take j)) := hp
      obtain ⟨g0, g1, gM, _, _⟩ := HKEEP.out wr hp.bel
      have HLN : Hid (((dblL P).take j).length = j) := by
        show _ = _
        rw [List.length_take]; simp [dblL]; omega
      obtain ⟨yo, yc, hyv, _, _⟩ := mat_open (hp.rows.rws.mat (Nat.le_refl _))
      rw [HLN.out] at hyv
      subst hyv
      have gq : wr.cell? ⟨M, 1, none⟩ = some (.slice yo j yc) := by simp [World.cell?, hp.pol]
      by_cases hjn : j < P.length
      · obtain ⟨_, _, _, rk, hsk, _, hck, hrk⟩ := mat_cell gM hjn
        simp only [Value.slice.injEq, Option.some.injEq, Addr.mk.injEq, and_true, true_and] at hsk
        obtain ⟨⟨rfl, rfl⟩, rfl⟩ := hsk
        obtain ⟨rko, rkc, hrkv, _, _⟩ := sl_open hrk
        have hmk : P.getD j [] ∈ P := by simp [hjn]
        have HLK : Hid ((P.getD j []).length = n) := (HBX.out _ hmk).1
        rw [HLK.out] at hrkv
        subst hrkv
        have HBK : Hid (∀ z ∈ P.getD j [], z.natAbs ≤ 1000000) := fun z hz => by have := (HBX.out _ hmk).2 z hz; omega
        have HSN : Hid ((dblL P).take (j + 1) = (dblL P).take j ++ [addL (P.getD j []) (P.getD j [])]) := dbl_snoc P j hjn
        generalize P.getD j [] = q at *
        have HADD : Hid (Calls Try.prog 6 #[.slice rko n rkc, .slice rko n rkc, .int .i64 1] wr.drew fun e w' => ∃ g uc, e = .returned (.slice (some ⟨g, 0, none⟩) n uc) ∧ (w'.ownsRow wr.heap.size 3 1 (.slice (some ⟨g, 0, none⟩) n uc) n (ints (addL q q)) ∧ Below wr.heap.size wr w')) := by
          refine (added_any w3.heap.size q q _ _ wr.drew (hrk.drewN 1) (hrk.drewN 1) (Nat.le_refl _) (by rw [HLK.out]; omega) HBK.out HBK.out).mono ?_
          rintro e w' ⟨u, rfl, ho, hb⟩
          rw [HLK.out] at ho
          obtain ⟨g, uc, hu⟩ := own_some ho (by omega)
          subst hu
          exact ⟨g, uc, rfl, ho, ⟨hb.os, hb.tape, hb.output, hb.size, hb.block⟩⟩
        have HAFT : Hid (∀ w2' g uc, w2'.ownsRow wr.heap.size 3 1 (.slice (some ⟨g, 0, none⟩) n uc) n (ints (addL q q)) ∧ Below wr.heap.size wr w2' → w2'.cell? ⟨M, 1, none⟩ = some (.slice yo j yc) ∧ M ≤ w2'.heap.size ∧ ∃ vs, w2'.ownsRow M 22 1 (.slice yo j yc) j vs ∧
            ∀ v' w5, w5.ownsRow M 22 1 v' (j + 1) (vs ++ [.slice (some ⟨g, 0, none⟩) n uc]) → (w2'.alloc (.cells #[.slice (some ⟨g, 0, none⟩) n uc] 22)).grownBy w5 (Value.slice yo j yc).ownBlock →
              w5.cell? ⟨M, 1, none⟩ = some (.slice yo j yc) ∧ w5.frozen? ⟨M, 1, none⟩ = false ∧ PS M M n W6 (w5.setCell ⟨M, 1, none⟩ v') v' ((dblL P).take (j + 1))) := fun w2' g uc ⟨ho, hb⟩ => by
          have hp2 := HP.out.step hb
          obtain ⟨vs, g1', g2', g3'⟩ := hp2.rows
          have hln := HLN.out
          refine ⟨by simp [World.cell?, hp2.pol], Nat.le_of_lt (lt_of_block hp2.pol), vs, by rw [hln] at g2'; exact g2', fun v' w5 ho5 hg5 => ?_⟩
          have hpp := hp2.push (Sl.own ho) g1' g2' g3' (by rw [hln]; exact ho5) hg5
          rw [HSN.out]
          exact ⟨by simp [World.cell?, hpp.1], by simp [World.frozen?, hpp.1], hpp.2⟩
        have hjI : (j : Int) < (P.length : Int) := by omega
        have hjI0 : (0 : Int) ≤ (j : Int) := by omega
        have htm : j + 1 ≤ maxLen := by unfold maxLen; omega
        clear hp gM hrk hmk HV HRR HD HMM HAA HBB HRL HG HBX HG2 HMA HMB HW6 HM6 HXA6 HXB6 HSW6 HPS0 HME HKEEP HRP HP HLK HBK HSN HLN g0 b1 hlc hcm
        go_wp2
        go_region_law (first
          | (refine step_call3 (o := { dst := some 73, op := _, type := _, pos := _, after := _, guard := _ }) (by rfl) 6 _ _ _ 22 22 3 (by rfl) _ _ _ (by rfl) (by rfl) (by rfl) ⟨_, Try.func6, by rfl, by rfl⟩ ?_; refine (HADD.out).mono ?_; rintro e w2' ⟨g, uc, rfl, hx⟩; refine ⟨_, rfl, ?_⟩; have KS1 := (HAFT.out w2' g uc hx).1; have KS2 := (HAFT.out w2' g uc hx).2.1; obtain ⟨vs, hvs, hpush⟩ := (HAFT.out w2' g uc hx).2.2; have KS3 : Hid (w2'.ownsRow M 22 1 (.slice yo j yc) j vs) := hvs; have KS4 : Hid _ := hpush; have KS5 : (w2'.alloc (.cells #[.slice (some ⟨g, 0, none⟩) n uc] 22)).cell? ⟨M, 1, none⟩ = some (.slice yo j yc) := ((alloc_keep w2' _).cell (lt_of_cell KS1)).trans KS1; clear hx hvs hpush)
          | (refine step_append_own (o := { dst := some 75, op := _, type := _, pos := _, after := _, guard := _ }) (by rfl) _ _ 24 (by rfl) M 22 i0 (.slice none 0 0) 1 24 Try.underlying24 hi hz0 hz1 hz2 rfl (by decide) _ _ _ (by rfl) (KS3.out.alloc _) ⟨w2'.heap.size, 0, none⟩ 1 1 [.slice (some ⟨g, 0, none⟩) n uc] (by rfl) rfl (one_new _ _ _) (one_slice _ _ _) htm (by omega) (Nat.le_trans KS2 (by simp)) ?_; intro v' w5 ho hg; obtain ⟨vo5, vc5, hv5⟩ := owns_form ho; subst hv5; have FF : Hid _ := KS4.out _ w5 ho hg; have LS1 := FF.out.1; have LS2 := FF.out.2.1; clear ho hg))
        all_goals
          have HNX : Hid (PS M M n W6 (w5.setCell ⟨M, 1, none⟩ (.slice vo5 (j + 1) vc5)) (.slice vo5 (j + 1) vc5) ((dblL P).take (j + 1))) := FF.out.2.2
          clear FF LS1 LS2 KS1 KS2 KS3 KS4 KS5
          go_wp2
          go_roundw
          case rel => exact ⟨j + 1, by omega, by go_num, _, HNX.out⟩
          case measure => simp [intOf]; omega
      · have hje : j = P.length := by omega
        subst hje
        have HTK : Hid ((dblL P).take P.length = dblL P) := List.take_of_length_le (by simp [dblL])
        have HQ : Hid (PS M M n W6 wr (.slice yo P.length yc) (dblL P)) := by
          have h := HP.out
          rw [HTK.out] at h
          exact h
        have gm0 : wr.cell? ⟨M, 0, none⟩ = some (.int .i64 n) := by simp [World.cell?, hp.pol]
        obtain ⟨_, _, _, gxa, gxb⟩ := HKEEP.out wr hp.bel
        have HLA : Hid (xa.length = n ∧ xb.length = n) := ⟨(HBX.out _ HMA.out).1, (HBX.out _ HMB.out).1⟩
        have HAB : Hid ((∀ z ∈ xa, z.natAbs ≤ 1000000) ∧ ∀ z ∈ xb, z.natAbs ≤ 1000000) := ⟨fun z hz => by have := (HBX.out _ HMA.out).2 z hz; omega, fun z hz => by have := (HBX.out _ HMB.out).2 z hz; omega⟩
        have HNR : Hid (((addL xa xb).any (farB · 100)) = false) := by
          show _ = _
          rw [List.any_eq_false]
          intro z hz
          simp only [addL, List.mem_map, List.mem_range] at hz
          obtain ⟨i, hi, rfl⟩ := hz
          have h1 := (HBX.out _ HMA.out).2 _ (getD_mem hi)
          have h2 := (HBX.out _ HMB.out).2 _ (getD_mem (l := xb) (i := i) (by rw [HLA.out.2, ← HLA.out.1]; exact hi))
          generalize xa.getD i 0 = p1 at *
          generalize xb.getD i 0 = p2 at *
          simp [farB]
          omega
        have HAD2 : Hid (Calls Try.prog 6 #[.slice rao n rac, .slice rbo n rbc, .int .i64 1] wr.drew fun e w' => ∃ g uc, e = .returned (.slice (some ⟨g, 0, none⟩) n uc) ∧ (w'.ownsRow wr.heap.size 3 1 (.slice (some ⟨g, 0, none⟩) n uc) n (ints (addL xa xb)) ∧ Below wr.heap.size wr w')) := by
          refine (added_any w3.heap.size xa xb _ _ wr.drew (gxa.drewN 1) (gxb.drewN 1) (by rw [HLA.out.1, HLA.out.2]; exact Nat.le_refl _) (by rw [HLA.out.1]; omega) HAB.out.1 HAB.out.2).mono ?_
          rintro e w' ⟨u, rfl, ho, hb⟩
          rw [HLA.out.1] at ho
          obtain ⟨g, uc, hu⟩ := own_some ho (by omega)
          subst hu
          exact ⟨g, uc, rfl, ho, ⟨hb.os, hb.tape, hb.output, hb.size, hb.block⟩⟩
        have HC2 : Hid (∀ w2', Below wr.heap.size wr w2' → w2'.cell? ⟨M, 0, none⟩ = some (.int .i64 n) ∧ w2'.cell? ⟨M, 1, none⟩ = some (.slice yo P.length yc)) := fun w2' hb => ⟨(hb.cell (lt_of_cell gm0)).trans gm0, (hb.cell (lt_of_cell gq)).trans gq⟩
        have HWH : Hid (∀ w2' g uc, w2'.ownsRow wr.heap.size 3 1 (.slice (some ⟨g, 0, none⟩) n uc) n (ints (addL xa xb)) ∧ Below wr.heap.size wr w2' → Calls Try.prog 7 #[.agg #[.int .i64 n, .slice yo P.length yc], .slice (some ⟨g, 0, none⟩) n uc] w2' fun e w' => ∃ at1 : Int, e = .returned (.tuple #[.int .i64 at1, .int .i64 0]) ∧ (at1 ≤ 0 ∧ Below M W6 w')) := fun w2' g uc ⟨ho, hb⟩ => by
          have hq2 := HQ.out.step hb
          have hpl : (dblL P).length = P.length := by simp [dblL]
          have hmq : Mat w2'.heap.size 22 3 w2' (.slice yo P.length yc) (dblL P) := hq2.rows.rws.mat (Nat.le_of_lt (lt_of_block hq2.pol))
          refine (whereK_ok n (dblL P) (addL xa xb) _ _ w2' hmq ((Sl.own (B := 0) ho).any (Nat.le_refl _)) HG2.out (by rw [addL_length]; exact HLA.out.1) HNR.out (rows_fit HG2.out)).mono ?_
          rintro e w' ⟨P', rows, hm1, hm2, rfl, hb'⟩
          exact ⟨_, rfl, where_mid HG2.out (fun y hy => (HBX.out y hy).1) hm1 hm2 HMA.out HMB.out, hq2.bel.trans (hb'.mono (by have := lt_of_block hq2.pol; omega))⟩
        clear hp gM gxa gxb hjn
        go_wp2
        go_region_law (first
          | (refine step_call3 (o := { dst := some 81, op := _, type := _, pos := _, after := _, guard := _ }) (by rfl) 6 _ _ _ 22 22 3 (by rfl) _ _ _ (by rfl) (by rfl) (by rfl) ⟨_, Try.func6, by rfl, by rfl⟩ ?_; refine (HAD2.out).mono ?_; rintro e w2' ⟨g, uc, rfl, hx⟩; refine ⟨_, rfl, ?_⟩; have KS1 := (HC2.out w2' hx.2).1; have KS2 := (HC2.out w2' hx.2).2; have KS3 : Hid _ := hx; clear hx)
          | (refine step_call2 (o := { dst := some 82, op := _, type := _, pos := _, after := _, guard := _ }) (by rfl) 7 _ _ 26 22 (by rfl) _ _ (by rfl) (by rfl) ⟨_, Try.func7, by rfl, by rfl⟩ ?_; refine (HWH.out w2' g uc KS3.out).mono ?_; rintro e w8 ⟨at1, rfl, hx8⟩; refine ⟨_, rfl, ?_⟩; have hat := hx8.1; have HB8 : Hid (Below M W6 w8) := hx8.2; clear hx8))
        all_goals
          obtain ⟨g0', g1', gM', gxa', gxb'⟩ := HKEEP.out w8 HB8.out
          have HMW : Hid (Mat w8.heap.size 22 3 w8 (.slice (some ⟨vb, vo, none⟩) P.length xc) P) := gM'.any (by
            have h1 := HB8.out.size
            have h2 := HSW6.out
            omega)
          have HXW : Hid (Sl w8.heap.size 3 w8 (.slice rao n rac) (ints xa)) := gxa'.any (by
            have h1 := HB8.out.size
            have h2 := HSW6.out
            omega)
          have HNA : Hid ((xa.any (farB · 100)) = false) := box_near HBX.out (by decide) HMA.out
          clear gM' gxa' gxb'
          go_wp2_with fail
          refine (whereK_ok n P xa _ _ w8 HMW.out HXW.out HG.out HLA.out.1 HNA.out (rows_fit HG.out)).mono ?_
          rintro e w9 ⟨P', rows, hm1, hm2, rfl, hb9⟩
          have hk0 : whr rows xa ≤ 0 := where_in HG.out hm1 hm2 HMA.out
          obtain ⟨kk, hkk⟩ : ∃ kk, kk = whr rows xa := ⟨_, rfl⟩
          rw [← hkk] at hk0 ⊢
          have hb89 : Below M W6 w9 := HB8.out.trans (hb9.mono (by rw [HME.out]; exact HB8.out.size))
          have HB9 : Hid (Below M W6 w9) := hb89
          obtain ⟨g0'', g1'', gM'', _, _⟩ := HKEEP.out w9 hb89
          clear hm1 hm2 hb9 hb89 hkk
          have hmk := run_make_row' (P := Try.prog) 22 3 (.int .i64 0) 8 Try.underlying22 Try.info3 rfl .i64 .i64 n (by omega) (by omega)
          have hmc : (madeCells #[.int .i64 0] n)[0]? = some (.int .i64 0) := by
            rw [← Array.getElem?_toList, toList_madeCells_one]; simp [show 0 < n by omega]
          have h0n : (0 : Int) < (n : Int) := by omega
          have h0n' : 0 < n := by omega
          obtain ⟨WX, hWX⟩ : ∃ WX, WX = w9.alloc (.cells ((madeCells #[.int .i64 0] n).setIfInBounds 0 (.int .i64 99)) 3) := ⟨_, rfl⟩
          have hbx : Below w9.heap.size w9 WX := by rw [hWX]; exact alloc_keep _ _
          have HFX : Hid (Sl WX.heap.size 3 WX (.slice (some ⟨w9.heap.size, 0, none⟩) n n) (ints (farL n))) := by
            have hrow : WX.rowIs w9.heap.size 3 n (fun j => if j = 0 then .int .i64 99 else .int .i64 0) := by
              have e : (w9.alloc (.cells (madeCells #[.int .i64 0] n) 3)).setCell ⟨w9.heap.size, 0, none⟩ (.int .i64 99) = WX := by rw [hWX]; simp [go_sem]
              rw [← e]
              exact (World.rowIs_made w9 (.int .i64 0) n 3).set 0 _
            refine Sl.row hrow (by simp [farL]) (by unfold maxLen; omega) (fun i hi => ?_)
            rw [ints_get _ _ (by simpa [farL] using hi)]
            by_cases e : i = 0
            · subst e; simp [farL, hi]
            · simp [farL, hi, e]
          have HMX : Hid (Mat WX.heap.size 22 3 WX (.slice (some ⟨vb, vo, none⟩) P.length xc) P) := (gM''.below hbx (Nat.le_refl _)).any (by
            have h1 := HB9.out.size
            have h2 := HSW6.out
            have h3 := hbx.size
            omega)
          have q0 : WX.cell? ⟨Rp, 0, none⟩ = some (.int .i64 n) := (hbx.cell (lt_of_cell g0'')).trans g0''
          have q1 : WX.cell? ⟨Rp, 1, none⟩ = some (.slice (some ⟨vb, vo, none⟩) P.length xc) := (hbx.cell (lt_of_cell g1'')).trans g1''
          have HNF : Hid (((farL n).any (farB · 100)) = false) := by
            show _ = _
            rw [List.any_eq_false]
            intro z hz
            simp only [farL, List.mem_map] at hz
            obtain ⟨i, _, rfl⟩ := hz
            simp [farB]
            split <;> omega
          have HBX9 : Hid (Below w2.heap.size w2 WX) := (HW6.out.trans (HB9.out.mono (by rw [HME.out]; exact HW6.out.size))).trans (hbx.mono (Nat.le_trans HW6.out.size HB9.out.size))
          subst hWX
          clear gM'' hbx
          go_wp2_with fail
          refine (whereK_ok n P (farL n) _ _ _ HMX.out HFX.out HG.out (by simp [farL]) HNF.out (rows_fit HG.out)).mono ?_
          rintro e wY ⟨P'', rows2, hm1, hm2, rfl, hbY⟩
          rw [where_far HG.out hm1 hm2]
          have HBY : Hid (Below w2.heap.size w2 wY) := HBX9.out.trans (hbY.mono HBX9.out.size)
          clear hm1 hm2 hbY
          go_wp2
          go_ret
          exact ⟨ret_bool (by simp), HBY.out⟩

end Go.Proofs.Ytpppeffldkbhnaa
