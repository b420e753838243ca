/- facetref.NamedOf: kind 3 (orders). -/
import Derived.Test.YtiadekblckngiaaNm10
import Derived.Test.YtiadekblckngiaaNmo
import Derived.Test.YtiadekblckngiaaBet1
import Derived.Test.YtiadekblckngiaaAp1
namespace Go.Proofs.Ytiadekblckngiaa
open Go.RowKit
attribute [local go_sem ↓] Go.wp_at_zero Go.wp_at_succ

theorem step_call3N {P : Program} {ops : Array Oper} {o : Oper} {a : Act} {w : World} {K : Act → World → Prop} {Q : Exit → Act → World → Prop} {E : Prop}
    (hg : o.guard = none) (f : FuncId) (x y z : Operand) (t s r : TypeId) (hop : o.op = Op.call { callee := Callee.value (Operand.func f), args := #[x, y, z], argTypes := #[t, s, r] }) (v u q : Value) (hv : a.eval x = v) (hu : a.eval y = u) (hq : a.eval z = q) (hf : ∃ fn, P.funcs[f]? = some fn ∧ (fn.name == "runtime.NumGoroutine") = false ∧ fn.body.isNone = false)
    (hc : Calls P f #[v, u, q] w fun e w' => ∃ u, e = .returned u ∧ K (a.put o.dst u) w') :
    if Region.wanted o (yielded ops a.tmps) = true then Oper.wp P o a w K Q else E := by
  have hw : Region.wanted o (yielded ops a.tmps) = true := by simp [Region.wanted, hg]
  rw [if_pos hw]
  unfold Oper.wp
  obtain ⟨fn, f1, f2, f3⟩ := hf
  have e : (execOp a.eval o).run P w = .ok (.enter f #[v, u, q]) w := by
    have hfn : a.eval (Operand.func f) = Value.func (Fn.func f) #[] #[] := rfl
    have hcf : (callFunc f #[v, u, q]).run P w = .ok (.enter f #[v, u, q]) w := by
      unfold callFunc
      have g2 : ¬ fn.name = "runtime.NumGoroutine" := by simpa using f2
      have g3 : ¬ fn.body = none := by intro e; rw [e] at f3; simp at f3
      simp [f1, g2, g3]
    unfold execOp
    rw [hop]
    simp [resolve, invoke, hv, hu, hq, hfn, Deferred.ofValue, hcf]
  rw [e, Oper.upon_enter]
  refine hc.mono ?_
  rintro e w' ⟨u, rfl, h⟩
  exact h

theorem addL_ones (o : List Int) (n : Nat) (h : o.length = n) : addL o (onesL n) = upL o := by
  unfold addL upL onesL
  refine List.ext_getElem (by simp) fun i h1 h2 => ?_
  simp at h1
  simp [h1, show i < n by omega]

/-- An order, one more each, without its last number. -/
def odL (n : Nat) (m : List (List Int)) : List (List Int) := m.map fun r => (upL r).take n
theorem odL_snoc (n : Nat) (m : List (List Int)) (k : Nat) (h : k < m.length) : odL n (m.take (k + 1)) = odL n (m.take k) ++ [(upL (m.getD k [])).take n] := by
  unfold odL
  rw [List.take_succ_eq_append_getElem h, List.map_append]
  rw [show m.getD k [] = m[k] by simp [h]]
  rfl
theorem odL_len (n : Nat) (m : List (List Int)) : (odL n m).length = m.length := by simp [odL]

set_option maxRecDepth 100000 in
set_option maxHeartbeats 4000000 in
theorem named3_any (d : Nat) (w : World) (h1 : 1 ≤ d) (h3 : d ≤ 3) :
    Calls Try.prog 9 #[.int .i64 3, .int .i64 (d : Int)] w fun e w' => ∃ u, e = .returned (.tuple #[.agg #[.int .i64 (d : Int), u], .int .i64 0]) ∧ Mat 0 35 3 w' u (odL d (ords (d + 1) (d + 1) [])) ∧ Below w.heap.size w w' := by
  obtain ⟨i0, hi0, hz0, hz1, hz2⟩ := info_parts infoSlN
  have d1 : ¬ (d : Int) < 1 := by omega
  have d2 : ¬ (4 : Int) < (d : Int) := by omega
  have d3 : ¬ (3 : Int) < (d : Int) := by omega
  have e1 : (d : Int) + 1 = ((d + 1 : Nat) : Int) := by omega
  have HE1 : Hid ((d : Int) + 1 = ((d + 1 : Nat) : Int)) := e1
  have HT : Hid (∀ W : World, Calls Try.prog 19 #[.int .i64 ((d : Int) + 1), .slice none 0 0] W fun e w' => ∃ uo uc, e = .returned (.slice uo (ords (d + 1) (d + 1) []).length uc) ∧ Fr W.heap.size 35 3 w' (.slice uo (ords (d + 1) (d + 1) []).length uc) (ords (d + 1) (d + 1) []) ∧ Below W.heap.size W w') := fun W => by
    rw [e1]
    refine (ordD_any (d + 1) (by omega) (d + 1) (by omega) [] (.slice none 0 0) W ⟨by simp, by simp⟩ (by simp) (Sl.nil _ _ _)).mono ?_
    rintro e w' ⟨x, rfl, hf, hb⟩
    obtain ⟨uo, uc, hx, _, _⟩ := fr_open hf
    subst hx
    exact ⟨uo, uc, rfl, hf, hb⟩
  have HROW : Hid (∀ r ∈ ords (d + 1) (d + 1) [], r.length = d + 1 ∧ ∀ z ∈ r, z.natAbs ≤ 1000000) := fun r hr => by
    obtain ⟨hio, hl⟩ := ords_is (d + 1) [] r ⟨by simp, by simp⟩ hr
    refine ⟨by simpa using hl, fun z hz => ?_⟩
    have := hio.1 z hz
    omega
  have hml : (ords (d + 1) (d + 1) []).length ≤ 1296 := Nat.le_trans (ords_len (by omega) _ _) (Nat.le_trans (Nat.pow_le_pow_right (by decide) (by omega : d + 1 ≤ 4)) (by decide))
  generalize ords (d + 1) (d + 1) [] = m at *
  have HCS : Hid (∀ k, k < m.length → odL d (m.take (k + 1)) = odL d (m.take k) ++ [(upL (m.getD k [])).take d]) := fun k hk => odL_snoc d m k hk
  have HCL : Hid (∀ k, k ≤ m.length → (odL d (m.take k)).length = k) := fun k hk => by rw [odL_len]; simp; omega
  obtain ⟨W2, hW2⟩ : ∃ W2, W2 = (w.alloc (.cells #[.int .i64 0, .slice none 0 0] 24)).alloc (.cells #[.int .i64 (d : Int), .slice none 0 0] 24) := ⟨_, rfl⟩
  have HI0 : Hid (NpI w w.heap.size (w.heap.size + 1) d (odL d (m.take 0)) W2) := by rw [hW2]; exact np_start w d
  obtain ⟨R, hR⟩ : ∃ R, R = w.heap.size := ⟨_, rfl⟩
  rw [← hR] at HI0
  clear e1
  go_enter Try.func9, Try.ntmps9
  go_wp2_with fail
  rw [← hW2, ← hR]
  refine (HT.out W2).mono ?_
  rintro e w2 ⟨lo, lc, rfl, hfl, hb2⟩
  have HI2 : Hid (NpJ w R (R + 1) d (odL d (m.take 0)) [(.slice lo m.length lc, m)] w2) := (NpJ.of HI0.out).add hb2 hfl
  clear HI0 hW2 hfl hb2 HT hR
  go_wp2
  go_loopw [14] (fun iv wr => ∃ k : Nat, k ≤ m.length ∧ iv = .int .i64 (k : Int) ∧ NpJ w R (R + 1) d (odL d (m.take k)) [(.slice lo m.length lc, m)] wr) (fun iv _ => m.length - (intOf iv).toNat)
  case atStart => exact ⟨0, Nat.zero_le _, rfl, HI2.out⟩
  case round =>
    obtain ⟨k, hk, rfl, hj⟩ := hrel
    obtain ⟨wa, rfl⟩ : ∃ wa, wa = wr := ⟨_, rfl⟩
    have HJ : Hid (NpJ w R (R + 1) d (odL d (m.take k)) [(.slice lo m.length lc, m)] wa) := hj
    clear hj HI2
    by_cases hlt : k < m.length
    · obtain ⟨b, o, cp, r1, hs, hc1, hcc, hr1⟩ := mat_cell ((HJ.out.oth (.slice lo m.length lc, m) (by simp)).1.rws.mat (Nat.le_refl _)) hlt
      simp only [Value.slice.injEq] at hs
      obtain ⟨rfl, -, rfl⟩ := hs
      obtain ⟨ro, rc, hrv, -, -⟩ := sl_open hr1
      subst hrv
      obtain ⟨hrl, hrz⟩ := HROW.out (m.getD k []) (by simp [hlt])
      have hr0 : Sl 0 3 wa (.slice ro (m.getD k []).length rc) (ints (m.getD k [])) := hr1.more (Nat.zero_le _)
      obtain ⟨sv, hbox, hfr⟩ := HJ.out.I.box
      obtain ⟨so, sc, hsv, _, _⟩ := fr_open hfr
      rw [HCL.out k hk] at hsv
      subst hsv
      have qb : wa.cell? ⟨R + 1, 1, none⟩ = some (.slice so k sc) := by simp [World.cell?, hbox]
      have HQB : Hid (wa.cell? ⟨R + 1, 1, none⟩ = some (.slice so k sc)) := qb
      obtain ⟨rj, hrj⟩ : ∃ rj, rj = m.getD k [] := ⟨_, rfl⟩
      rw [← hrj] at hrl hrz hr0 hcc
      rw [hrl] at hr0 hcc
      have HRL : Hid (rj.length = d + 1) := hrl
      have HRZ : Hid (∀ z ∈ rj, z.natAbs ≤ 1000000) := hrz
      have HR0 : Hid (Sl 0 3 wa (.slice ro (d + 1) rc) (ints rj)) := hr0
      have HCC : Hid (wa.cell? ⟨b, o + k, none⟩ = some (.slice ro (d + 1) rc)) := hcc
      have HON : Hid (Calls Try.prog 21 #[.int .i64 ((d : Int) + 1)] wa.drew fun e w' => ∃ uo uc, e = .returned (.slice uo (d + 1) uc) ∧ w'.cell? ⟨R + 1, 1, none⟩ = some (.slice so k sc) ∧ w'.cell? ⟨b, o + k, none⟩ = some (.slice ro (d + 1) rc) ∧ (Sl 0 3 w' (.slice uo (d + 1) uc) (ints (onesL (d + 1))) ∧ Below wa.heap.size wa w')) := by
        rw [HE1.out]
        refine (ones_any (d + 1) wa.drew (by omega)).mono ?_
        rintro e w' ⟨u, rfl, ho, hb⟩
        obtain ⟨uo, uc, rfl⟩ := owns_form ho
        have hb' : Below wa.heap.size wa w' := ((Below.refl _ _).drew).trans hb
        exact ⟨uo, uc, rfl, (hb'.cell (lt_of_cell HQB.out)).trans HQB.out, (hb'.cell (lt_of_cell HCC.out)).trans HCC.out, Sl.own ho, hb'⟩
      have HAD : Hid (∀ w3 uo uc, (Sl 0 3 w3 (.slice uo (d + 1) uc) (ints (onesL (d + 1))) ∧ Below wa.heap.size wa w3) → Calls Try.prog 20 #[.slice ro (d + 1) rc, .slice uo (d + 1) uc, .int .i64 1] w3 fun e w4 => ∃ a xc, e = .returned (.slice (some a) (d + 1) xc) ∧ (∀ w, (Instr.slice 35 (.slice (some a) (d + 1) xc) none (some (.int .i64 (d : Int))) none).run Try.prog w = .ok (.slice (some a) d xc) w) ∧ w4.cell? ⟨R + 1, 1, none⟩ = some (.slice so k sc) ∧ (Sl 0 3 w4 (.slice (some a) d xc) (ints ((upL rj).take d)) ∧ Below wa.heap.size wa w4)) := fun w3 uo uc ⟨hs3, hb3⟩ => by
        have hrl := HRL.out
        refine (added_any 0 rj (onesL (d + 1)) _ _ w3 (HR0.out.below hb3 (Nat.le_refl _)) hs3 (by rw [onesL_len, hrl]; exact Nat.le_refl _) (by omega) HRZ.out (fun z hz => by
          unfold onesL at hz
          simp at hz
          obtain ⟨_, rfl⟩ := hz
          decide)).mono ?_
        rintro e w4 ⟨x, rfl, ho, hb⟩
        rw [addL_ones _ _ hrl, hrl] at ho
        rcases ho.2 with ⟨_, h0⟩ | ⟨g, xc, cur, rfl, hg, hh, hn, hc, hsz, ht⟩
        · omega
        · have hb4 : Below wa.heap.size wa w4 := hb3.trans (hb.mono hb3.size)
          have hsl : Sl 0 3 w4 (.slice (some ⟨g, 0, none⟩) (d + 1) xc) (ints (upL rj)) := Sl.own ho
          have hul : (upL rj).length = d + 1 := by simp [upL, hrl]
          exact ⟨⟨g, 0, none⟩, xc, rfl, fun w => run_cut2 (by omega) hn w, (hb4.cell (lt_of_cell HQB.out)).trans HQB.out, hsl.cut (by omega) (by omega) hc, hb4⟩
      have HPU : Hid (∀ w4 a xc, (Sl 0 3 w4 (.slice (some a) d xc) (ints ((upL rj).take d)) ∧ Below wa.heap.size wa w4) → ∃ vs, w4.ownsRow (R + 1 + 1) 35 1 (.slice so k sc) k vs ∧ R + 1 + 1 ≤ (w4.alloc (.cells #[.slice (some a) d xc] 35)).heap.size ∧ (w4.alloc (.cells #[.slice (some a) d xc] 35)).cell? ⟨R + 1, 1, none⟩ = some (.slice so k sc) ∧ w4.cell? ⟨b, o + k, none⟩ = some (.slice ro (d + 1) rc) ∧ (w4.alloc (.cells #[.slice (some a) d xc] 35)).cell? ⟨b, o + k, none⟩ = some (.slice ro (d + 1) rc) ∧ ∀ v' w5, w5.ownsRow (R + 1 + 1) 35 1 v' (k + 1) (vs ++ [.slice (some a) d xc]) → (w4.alloc (.cells #[.slice (some a) d xc] 35)).grownBy w5 (Value.slice so k sc).ownBlock → (v'.ownBlock = (Value.slice so k sc).ownBlock ∨ v'.ownBlock = some (w4.heap.size + 1)) → w5.cell? ⟨R + 1, 1, none⟩ = some (.slice so k sc) ∧ w5.frozen? ⟨R + 1, 1, none⟩ = false ∧ w5.cell? ⟨b, o + k, none⟩ = some (.slice ro (d + 1) rc) ∧ (w5.setCell ⟨R + 1, 1, none⟩ v').cell? ⟨b, o + k, none⟩ = some (.slice ro (d + 1) rc) ∧ NpJ w R (R + 1) d (odL d (m.take (k + 1))) [(.slice (some ⟨b, o, none⟩) m.length lc, m)] (w5.setCell ⟨R + 1, 1, none⟩ v')) := fun w4 a xc ⟨hs4, hb4⟩ => by
        obtain ⟨so2, sc2, vs, q1, q2, q3, q4⟩ := HJ.out.push hb4 hs4
        rw [HCL.out k hk] at q1 q2 q4
        have e := (hb4.cell (lt_of_cell HQB.out)).trans HQB.out
        rw [q1] at e
        simp only [Option.some.injEq, Value.slice.injEq] at e
        obtain ⟨rfl, -, rfl⟩ := e
        rw [hrj, ← HCS.out k hlt] at q4
        have c4 : w4.cell? ⟨b, o + k, none⟩ = some (.slice ro (d + 1) rc) := (hb4.cell (lt_of_cell HCC.out)).trans HCC.out
        have c5 : (w4.alloc (.cells #[.slice (some a) d xc] 35)).cell? ⟨b, o + k, none⟩ = some (.slice ro (d + 1) rc) := (((Below.refl w4.heap.size w4).alloc (Nat.le_refl _) _).cell (lt_of_cell c4)).trans c4
        have hap := (HJ.out.oth (.slice (some ⟨b, o, none⟩) m.length lc, m) (by simp)).2 _ HQB.out
        have hbt : b ≠ R + 1 := fun e => by
          obtain ⟨_, _, u2, _⟩ := (HJ.out.oth (.slice (some ⟨b, o, none⟩) m.length lc, m) (by simp)).1
          rcases u2.2 with ⟨e1, _⟩ | ⟨g, cap, cur, e1, _, hh, _⟩
          · simp at e1
          · simp only [Value.slice.injEq, Option.some.injEq, Addr.mk.injEq] at e1
            have eg : b = g := e1.1.1
            rw [← eg, e, hbox] at hh
            simp at hh
        refine ⟨vs, q2, by simp; omega, (((Below.refl w4.heap.size w4).alloc (Nat.le_refl _) _).cell (lt_of_cell q1)).trans q1, c4, c5, fun v' w5 ho hg hat => ?_⟩
        obtain ⟨k1, k2, k3⟩ := q4 v' w5 ho hg hat
        have c6 : w5.cell? ⟨b, o + k, none⟩ = some (.slice ro (d + 1) rc) := (World.cell?_of_block (w := w4.alloc (.cells #[.slice (some a) d xc] 35)) (a := ⟨b, o + k, none⟩) (hg.block b (lt_of_cell c5) (fun e => hap b e.symm rfl))).trans c5
        exact ⟨k1, k2, c6, (World.cell?_of_block (w := w5) (a := ⟨b, o + k, none⟩) (Below.heap_setCell _ _ _ _ (by show b ≠ R + 1; exact hbt))).trans c6, k3⟩
      have kI : (k : Int) < (m.length : Int) := by omega
      have kI0 : (0 : Int) ≤ (k : Int) := by omega
      clear hr1 hr0 hrl hrz hbox hfr HJ HQB HCC HR0 hrj HRL HRZ
      go_wp2
      have hwr : IntKind.i64.wrap ((d : Int) + 1) = (d : Int) + 1 := by rw [IntWalk.i64_left]; exact IntWalk.wrap64_in _ ⟨by omega, by omega⟩
      refine wp_region_held_drew (S := fun w' => w'.cell? ⟨b, o + k, none⟩ = some (.slice ro (d + 1) rc)) (by kernel_rfl) hcc (fun hHeld => ?_)
      refine wpAnyH_tk (i := 0) (d := 133) (v := (.pointer (some ⟨R + 1, 1, none⟩))) rfl rfl (by kernel_rfl) (by kernel_rfl) (by kernel_rfl) (fun _ _ _ h => h) (.inl ⟨by rfl, by (intro wq hSw; (try dsimp only at hSw); go_simp; (try (first | rfl | omega)))⟩) hHeld ?_
      simp only [Act.put, List.setIfInBounds_toArray, List.set_cons_zero, List.set_cons_succ]
      refine wpAnyH_tk (i := 2) (d := 135) (v := (.slice (some ⟨b, o, none⟩) m.length lc)) rfl rfl (by kernel_rfl) (by kernel_rfl) (by kernel_rfl) (fun _ _ _ h => h) (.inl ⟨by rfl, by (intro wq hSw; (try dsimp only at hSw); go_simp; (try (first | rfl | omega)))⟩) hHeld ?_
      simp only [Act.put, List.setIfInBounds_toArray, List.set_cons_zero, List.set_cons_succ]
      refine wpAnyH_tk (i := 3) (d := 136) (v := (.int .i64 k)) rfl rfl (by kernel_rfl) (by kernel_rfl) (by kernel_rfl) (fun _ _ _ h => h) (.inl ⟨by rfl, by (intro wq hSw; (try dsimp only at hSw); go_simp; (try (first | rfl | omega)))⟩) hHeld ?_
      simp only [Act.put, List.setIfInBounds_toArray, List.set_cons_zero, List.set_cons_succ]
      refine wpAnyH_tk (i := 4) (d := 137) (v := (.pointer (some ⟨b, o + k, none⟩))) rfl rfl (by kernel_rfl) (by kernel_rfl) (by kernel_rfl) (fun _ _ _ h => h) (.inl ⟨by rfl, by (intro wq hSw; (try dsimp only at hSw); go_simp; (try (first | rfl | omega)))⟩) hHeld ?_
      simp only [Act.put, List.setIfInBounds_toArray, List.set_cons_zero, List.set_cons_succ]
      refine wpAnyH_tk (i := 5) (d := 138) (v := (.slice ro (d + 1) rc)) rfl rfl (by kernel_rfl) (by kernel_rfl) (by kernel_rfl) (fun _ _ _ h => h) (.inl ⟨by rfl, by (intro wq hSw; (try dsimp only at hSw); go_simp; (try (first | rfl | omega)))⟩) hHeld ?_
      simp only [Act.put, List.setIfInBounds_toArray, List.set_cons_zero, List.set_cons_succ]
      refine wpAnyH_tk (i := 6) (d := 139) (v := (.int .i64 d)) rfl rfl (by kernel_rfl) (by kernel_rfl) (by kernel_rfl) (fun _ _ _ h => h) (.inl ⟨by rfl, by (intro wq hSw; (try dsimp only at hSw); go_simp; (try (first | rfl | omega)))⟩) hHeld ?_
      simp only [Act.put, List.setIfInBounds_toArray, List.set_cons_zero, List.set_cons_succ]
      refine wpAnyH_tk (i := 7) (d := 140) (v := (.int .i64 ((d : Int) + 1))) rfl rfl (by kernel_rfl) (by kernel_rfl) (by kernel_rfl) (fun _ _ _ h => h) (.inl ⟨by rfl, by (intro wq hSw; (try dsimp only at hSw); go_simp; (try (first | rfl | omega)))⟩) hHeld ?_
      simp only [Act.put, List.setIfInBounds_toArray, List.set_cons_zero, List.set_cons_succ]
      refine wpAnyH_tk (i := 10) (d := 143) (v := (.int .i64 d)) rfl rfl (by kernel_rfl) (by kernel_rfl) (by kernel_rfl) (fun _ _ _ h => h) (.inl ⟨by rfl, by (intro wq hSw; (try dsimp only at hSw); go_simp; (try (first | rfl | omega)))⟩) hHeld ?_
      simp only [Act.put, List.setIfInBounds_toArray, List.set_cons_zero, List.set_cons_succ]
      refine wpAnyH_ready (rs := [1, 8]) (by kernel_rfl) (by simp) ?_
      refine ready_tk (i := 1) rfl (by rfl) (fun K hK => ?_) (ready_tk (i := 8) rfl (by rfl) (fun K hK => ?_) AllReadyH.nil)
      · skip
        go_simp
        refine hK.out _ _ hcc (fun hHeld => ?_)
        clear hK K
        refine wpAnyH_ready (rs := [8]) (by kernel_rfl) (by simp) ?_
        refine ready_tk (i := 8) rfl (by rfl) (fun K hK => ?_) AllReadyH.nil
        go_simp
        refine HON.out.mono ?_
        rintro e w3 ⟨uo, uc, rfl, KA, KB, hx3⟩
        have KX : Hid (Sl 0 3 w3 (.slice uo (d + 1) uc) (ints (onesL (d + 1))) ∧ Below wa.heap.size wa w3) := hx3
        refine hK.out _ _ KB (fun hHeld => ?_)
        clear hK K hx3
        refine wpAnyH_ready (rs := [9]) (by kernel_rfl) (by simp) ?_
        refine ready_tk (i := 9) rfl (by rfl) (fun K hK => ?_) AllReadyH.nil
        go_simp
        refine (HAD.out w3 uo uc KX.out).mono ?_
        rintro e w4 ⟨a, xc, rfl, KR, KC, hy4⟩
        obtain ⟨vs, q2, q3, KD, KC2, KD2, q4⟩ := HPU.out w4 a xc hy4
        have KE : Hid (w4.ownsRow (R + 1 + 1) 35 1 (.slice so k sc) k vs) := q2
        have KF : Hid (R + 1 + 1 ≤ (w4.alloc (.cells #[.slice (some a) d xc] 35)).heap.size) := q3
        have KG : Hid _ := q4
        refine hK.out _ _ KC2 (fun hHeld => ?_)
        clear hK K hy4 q2 q3 q4
        refine wpAnyH_tk (i := 11) (d := 144) (v := (.slice (some a) d xc)) rfl rfl (by kernel_rfl) (by kernel_rfl) (by kernel_rfl) (fun _ _ _ h => h) (.inl ⟨by rfl, by (intro wq hSw; (try dsimp only at hSw); go_simp; (try (first | rfl | omega)))⟩) hHeld ?_
        simp only [Act.put, List.setIfInBounds_toArray, List.set_cons_zero, List.set_cons_succ]
        refine wpAnyH_ready (rs := [12]) (by kernel_rfl) (by simp) ?_
        refine ready_tk (i := 12) rfl (by rfl) (fun K hK => ?_) AllReadyH.nil
        go_simp
        refine hK.out _ _ KD2 (fun hHeld => ?_)
        clear hK K
        refine wpAnyH_ready (rs := [13]) (by kernel_rfl) (by simp) ?_
        refine ready_tk (i := 13) rfl (by rfl) (fun K hK => ?_) AllReadyH.nil
        refine op_append_ownA (.tmp 134) (.tmp 145) 22 (by rfl) (R + 1 + 1) 35 i0 (.slice none 0 0) 1 24 Try.underlying22 hi0 hz0 hz1 hz2 rfl (by decide) _ _ _ (by rfl) (KE.out.alloc _) ⟨w4.heap.size, 0, none⟩ 1 1 [.slice (some a) d xc] (by rfl) rfl (one_new _ _ _) (one_slice _ _ _) (by unfold maxLen; omega) (by omega) KF.out ?_
        intro v' w5 ho hg hat
        obtain ⟨vo, vc, hv5⟩ := owns_form ho
        subst hv5
        obtain ⟨g1, g2, g4, g5, g3⟩ := KG.out _ w5 ho hg (by simpa using hat)
        have HF : Hid (NpJ w R (R + 1) d (odL d (m.take (k + 1))) [(.slice (some ⟨b, o, none⟩) m.length lc, m)] (w5.setCell ⟨R + 1, 1, none⟩ (.slice vo (k + 1) vc))) := g3
        refine hK.out _ _ g4 (fun hHeld => ?_)
        clear hK K g3 ho hg hat
        simp only [Act.put, List.setIfInBounds_toArray, List.set_cons_zero, List.set_cons_succ]
        refine wpAnyH_tk (i := 14) (d := 147) (v := (.pointer (some ⟨R + 1, 1, none⟩))) rfl rfl (by kernel_rfl) (by kernel_rfl) (by kernel_rfl) (fun _ _ _ h => h) (.inl ⟨by rfl, by (intro wq hSw; (try dsimp only at hSw); go_simp; (try (first | rfl | omega)))⟩) hHeld ?_
        simp only [Act.put, List.setIfInBounds_toArray, List.set_cons_zero, List.set_cons_succ]
        refine wpAnyH_ready (rs := [15]) (by kernel_rfl) (by simp) ?_
        refine ready_tk (i := 15) rfl (by rfl) (fun K hK => ?_) AllReadyH.nil
        go_simp
        refine hK.out _ _ g5 (fun hHeld => ?_)
        clear hK K
        refine wpAnyH_done (by kernel_rfl) ?_ _
        clear hHeld g1 g2 g4 g5 KE KF KG
        go_wp2
        go_roundw
        case rel => exact ⟨k + 1, by omega, by go_num, HF.out⟩
        case measure => simp [intOf]; omega
      · skip
        go_simp
        refine HON.out.mono ?_
        rintro e w3 ⟨uo, uc, rfl, KA, KB, hx3⟩
        have KX : Hid (Sl 0 3 w3 (.slice uo (d + 1) uc) (ints (onesL (d + 1))) ∧ Below wa.heap.size wa w3) := hx3
        refine hK.out _ _ KB (fun hHeld => ?_)
        clear hK K hx3
        refine wpAnyH_ready (rs := [1, 9]) (by kernel_rfl) (by simp) ?_
        refine ready_tk (i := 1) rfl (by rfl) (fun K hK => ?_) (ready_tk (i := 9) rfl (by rfl) (fun K hK => ?_) AllReadyH.nil)
        · skip
          go_simp
          refine hK.out _ _ KB (fun hHeld => ?_)
          clear hK K
          refine wpAnyH_ready (rs := [9]) (by kernel_rfl) (by simp) ?_
          refine ready_tk (i := 9) rfl (by rfl) (fun K hK => ?_) AllReadyH.nil
          go_simp
          refine (HAD.out w3 uo uc KX.out).mono ?_
          rintro e w4 ⟨a, xc, rfl, KR, KC, hy4⟩
          obtain ⟨vs, q2, q3, KD, KC2, KD2, q4⟩ := HPU.out w4 a xc hy4
          have KE : Hid (w4.ownsRow (R + 1 + 1) 35 1 (.slice so k sc) k vs) := q2
          have KF : Hid (R + 1 + 1 ≤ (w4.alloc (.cells #[.slice (some a) d xc] 35)).heap.size) := q3
          have KG : Hid _ := q4
          refine hK.out _ _ KC2 (fun hHeld => ?_)
          clear hK K hy4 q2 q3 q4
          refine wpAnyH_tk (i := 11) (d := 144) (v := (.slice (some a) d xc)) rfl rfl (by kernel_rfl) (by kernel_rfl) (by kernel_rfl) (fun _ _ _ h => h) (.inl ⟨by rfl, by (intro wq hSw; (try dsimp only at hSw); go_simp; (try (first | rfl | omega)))⟩) hHeld ?_
          simp only [Act.put, List.setIfInBounds_toArray, List.set_cons_zero, List.set_cons_succ]
          refine wpAnyH_ready (rs := [12]) (by kernel_rfl) (by simp) ?_
          refine ready_tk (i := 12) rfl (by rfl) (fun K hK => ?_) AllReadyH.nil
          go_simp
          refine hK.out _ _ KD2 (fun hHeld => ?_)
          clear hK K
          refine wpAnyH_ready (rs := [13]) (by kernel_rfl) (by simp) ?_
          refine ready_tk (i := 13) rfl (by rfl) (fun K hK => ?_) AllReadyH.nil
          refine op_append_ownA (.tmp 134) (.tmp 145) 22 (by rfl) (R + 1 + 1) 35 i0 (.slice none 0 0) 1 24 Try.underlying22 hi0 hz0 hz1 hz2 rfl (by decide) _ _ _ (by rfl) (KE.out.alloc _) ⟨w4.heap.size, 0, none⟩ 1 1 [.slice (some a) d xc] (by rfl) rfl (one_new _ _ _) (one_slice _ _ _) (by unfold maxLen; omega) (by omega) KF.out ?_
          intro v' w5 ho hg hat
          obtain ⟨vo, vc, hv5⟩ := owns_form ho
          subst hv5
          obtain ⟨g1, g2, g4, g5, g3⟩ := KG.out _ w5 ho hg (by simpa using hat)
          have HF : Hid (NpJ w R (R + 1) d (odL d (m.take (k + 1))) [(.slice (some ⟨b, o, none⟩) m.length lc, m)] (w5.setCell ⟨R + 1, 1, none⟩ (.slice vo (k + 1) vc))) := g3
          refine hK.out _ _ g4 (fun hHeld => ?_)
          clear hK K g3 ho hg hat
          simp only [Act.put, List.setIfInBounds_toArray, List.set_cons_zero, List.set_cons_succ]
          refine wpAnyH_tk (i := 14) (d := 147) (v := (.pointer (some ⟨R + 1, 1, none⟩))) rfl rfl (by kernel_rfl) (by kernel_rfl) (by kernel_rfl) (fun _ _ _ h => h) (.inl ⟨by rfl, by (intro wq hSw; (try dsimp only at hSw); go_simp; (try (first | rfl | omega)))⟩) hHeld ?_
          simp only [Act.put, List.setIfInBounds_toArray, List.set_cons_zero, List.set_cons_succ]
          refine wpAnyH_ready (rs := [15]) (by kernel_rfl) (by simp) ?_
          refine ready_tk (i := 15) rfl (by rfl) (fun K hK => ?_) AllReadyH.nil
          go_simp
          refine hK.out _ _ g5 (fun hHeld => ?_)
          clear hK K
          refine wpAnyH_done (by kernel_rfl) ?_ _
          clear hHeld g1 g2 g4 g5 KE KF KG
          go_wp2
          go_roundw
          case rel => exact ⟨k + 1, by omega, by go_num, HF.out⟩
          case measure => simp [intOf]; omega
        · skip
          go_simp
          refine (HAD.out w3 uo uc KX.out).mono ?_
          rintro e w4 ⟨a, xc, rfl, KR, KC, hy4⟩
          obtain ⟨vs, q2, q3, KD, KC2, KD2, q4⟩ := HPU.out w4 a xc hy4
          have KE : Hid (w4.ownsRow (R + 1 + 1) 35 1 (.slice so k sc) k vs) := q2
          have KF : Hid (R + 1 + 1 ≤ (w4.alloc (.cells #[.slice (some a) d xc] 35)).heap.size) := q3
          have KG : Hid _ := q4
          refine hK.out _ _ KC2 (fun hHeld => ?_)
          clear hK K hy4 q2 q3 q4
          refine wpAnyH_tk (i := 11) (d := 144) (v := (.slice (some a) d xc)) rfl rfl (by kernel_rfl) (by kernel_rfl) (by kernel_rfl) (fun _ _ _ h => h) (.inl ⟨by rfl, by (intro wq hSw; (try dsimp only at hSw); go_simp; (try (first | rfl | omega)))⟩) hHeld ?_
          simp only [Act.put, List.setIfInBounds_toArray, List.set_cons_zero, List.set_cons_succ]
          refine wpAnyH_ready (rs := [1, 12]) (by kernel_rfl) (by simp) ?_
          refine ready_tk (i := 1) rfl (by rfl) (fun K hK => ?_) (ready_tk (i := 12) rfl (by rfl) (fun K hK => ?_) AllReadyH.nil)
          · skip
            go_simp
            refine hK.out _ _ KC2 (fun hHeld => ?_)
            clear hK K
            refine wpAnyH_ready (rs := [12]) (by kernel_rfl) (by simp) ?_
            refine ready_tk (i := 12) rfl (by rfl) (fun K hK => ?_) AllReadyH.nil
            go_simp
            refine hK.out _ _ KD2 (fun hHeld => ?_)
            clear hK K
            refine wpAnyH_ready (rs := [13]) (by kernel_rfl) (by simp) ?_
            refine ready_tk (i := 13) rfl (by rfl) (fun K hK => ?_) AllReadyH.nil
            refine op_append_ownA (.tmp 134) (.tmp 145) 22 (by rfl) (R + 1 + 1) 35 i0 (.slice none 0 0) 1 24 Try.underlying22 hi0 hz0 hz1 hz2 rfl (by decide) _ _ _ (by rfl) (KE.out.alloc _) ⟨w4.heap.size, 0, none⟩ 1 1 [.slice (some a) d xc] (by rfl) rfl (one_new _ _ _) (one_slice _ _ _) (by unfold maxLen; omega) (by omega) KF.out ?_
            intro v' w5 ho hg hat
            obtain ⟨vo, vc, hv5⟩ := owns_form ho
            subst hv5
            obtain ⟨g1, g2, g4, g5, g3⟩ := KG.out _ w5 ho hg (by simpa using hat)
            have HF : Hid (NpJ w R (R + 1) d (odL d (m.take (k + 1))) [(.slice (some ⟨b, o, none⟩) m.length lc, m)] (w5.setCell ⟨R + 1, 1, none⟩ (.slice vo (k + 1) vc))) := g3
            refine hK.out _ _ g4 (fun hHeld => ?_)
            clear hK K g3 ho hg hat
            simp only [Act.put, List.setIfInBounds_toArray, List.set_cons_zero, List.set_cons_succ]
            refine wpAnyH_tk (i := 14) (d := 147) (v := (.pointer (some ⟨R + 1, 1, none⟩))) rfl rfl (by kernel_rfl) (by kernel_rfl) (by kernel_rfl) (fun _ _ _ h => h) (.inl ⟨by rfl, by (intro wq hSw; (try dsimp only at hSw); go_simp; (try (first | rfl | omega)))⟩) hHeld ?_
            simp only [Act.put, List.setIfInBounds_toArray, List.set_cons_zero, List.set_cons_succ]
            refine wpAnyH_ready (rs := [15]) (by kernel_rfl) (by simp) ?_
            refine ready_tk (i := 15) rfl (by rfl) (fun K hK => ?_) AllReadyH.nil
            go_simp
            refine hK.out _ _ g5 (fun hHeld => ?_)
            clear hK K
            refine wpAnyH_done (by kernel_rfl) ?_ _
            clear hHeld g1 g2 g4 g5 KE KF KG
            go_wp2
            go_roundw
            case rel => exact ⟨k + 1, by omega, by go_num, HF.out⟩
            case measure => simp [intOf]; omega
          · skip
            go_simp
            refine hK.out _ _ KD2 (fun hHeld => ?_)
            clear hK K
            refine wpAnyH_ready (rs := [1]) (by kernel_rfl) (by simp) ?_
            refine ready_tk (i := 1) rfl (by rfl) (fun K hK => ?_) AllReadyH.nil
            go_simp
            refine hK.out _ _ KD2 (fun hHeld => ?_)
            clear hK K
            refine wpAnyH_ready (rs := [13]) (by kernel_rfl) (by simp) ?_
            refine ready_tk (i := 13) rfl (by rfl) (fun K hK => ?_) AllReadyH.nil
            refine op_append_ownA (.tmp 134) (.tmp 145) 22 (by rfl) (R + 1 + 1) 35 i0 (.slice none 0 0) 1 24 Try.underlying22 hi0 hz0 hz1 hz2 rfl (by decide) _ _ _ (by rfl) (KE.out.alloc _) ⟨w4.heap.size, 0, none⟩ 1 1 [.slice (some a) d xc] (by rfl) rfl (one_new _ _ _) (one_slice _ _ _) (by unfold maxLen; omega) (by omega) KF.out ?_
            intro v' w5 ho hg hat
            obtain ⟨vo, vc, hv5⟩ := owns_form ho
            subst hv5
            obtain ⟨g1, g2, g4, g5, g3⟩ := KG.out _ w5 ho hg (by simpa using hat)
            have HF : Hid (NpJ w R (R + 1) d (odL d (m.take (k + 1))) [(.slice (some ⟨b, o, none⟩) m.length lc, m)] (w5.setCell ⟨R + 1, 1, none⟩ (.slice vo (k + 1) vc))) := g3
            refine hK.out _ _ g4 (fun hHeld => ?_)
            clear hK K g3 ho hg hat
            simp only [Act.put, List.setIfInBounds_toArray, List.set_cons_zero, List.set_cons_succ]
            refine wpAnyH_tk (i := 14) (d := 147) (v := (.pointer (some ⟨R + 1, 1, none⟩))) rfl rfl (by kernel_rfl) (by kernel_rfl) (by kernel_rfl) (fun _ _ _ h => h) (.inl ⟨by rfl, by (intro wq hSw; (try dsimp only at hSw); go_simp; (try (first | rfl | omega)))⟩) hHeld ?_
            simp only [Act.put, List.setIfInBounds_toArray, List.set_cons_zero, List.set_cons_succ]
            refine wpAnyH_ready (rs := [15]) (by kernel_rfl) (by simp) ?_
            refine ready_tk (i := 15) rfl (by rfl) (fun K hK => ?_) AllReadyH.nil
            go_simp
            refine hK.out _ _ g5 (fun hHeld => ?_)
            clear hK K
            refine wpAnyH_done (by kernel_rfl) ?_ _
            clear hHeld g1 g2 g4 g5 KE KF KG
            go_wp2
            go_roundw
            case rel => exact ⟨k + 1, by omega, by go_num, HF.out⟩
            case measure => simp [intOf]; omega
    · have hke : m.length = k := by omega
      subst hke
      have HK := HJ.out.I
      rw [List.take_length] at HK
      obtain ⟨bo, bc, m0, m1, r0, r1, rf0, rf1, hmat, hbel⟩ := HK.fin
      have HMT : Hid (Mat 0 35 3 ((wa.setCell ⟨R, 0, none⟩ (.int .i64 (d : Int))).setCell ⟨R, 1, none⟩ (.slice bo (odL d m).length bc)) (.slice bo (odL d m).length bc) (odL d m)) := hmat
      have HBX : Hid (Below w.heap.size w ((wa.setCell ⟨R, 0, none⟩ (.int .i64 (d : Int))).setCell ⟨R, 1, none⟩ (.slice bo (odL d m).length bc))) := hbel
      clear hmat hbel HJ HK
      generalize (odL d m).length = cl at *
      go_wp2
      exact bodyPost_ret (v := .tuple #[.agg #[.int .i64 (d : Int), .slice bo cl bc], .int .i64 0]) (by simp [results, Try.results9, go_sem, *]) rfl ⟨_, rfl, HMT.out, HBX.out⟩

end Go.Proofs.Ytiadekblckngiaa
