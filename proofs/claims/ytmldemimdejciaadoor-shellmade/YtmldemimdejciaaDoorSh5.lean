/- Which simplices may be: the document's answer. -/
import Derived.Test.YtmldemimdejciaaDoorSh4
namespace Go.Proofs.YtmldemimdejciaaDoor
open Go.RowKit
attribute [local go_sem ↓] Go.wp_at_zero Go.wp_at_succ

theorem Mat.takeM {B n c : Nat} {w : World} {ao : Option Addr} {m : List (List Int)} (h : Mat B 26 3 w (.slice ao m.length c) m) (hn : n ≤ m.length) : Mat B 26 3 w (.slice ao n c) (m.take n) := by
  obtain ⟨vs, h1, ⟨ao', cap, hv, h2, h3, h4, h5⟩, h6⟩ := h
  simp only [Value.slice.injEq] at hv
  obtain ⟨rfl, _, rfl⟩ := hv
  have hl : (m.take n).length = n := by rw [List.length_take]; omega
  have hlv : (vs.take n).length = n := by rw [List.length_take]; omega
  refine ⟨vs.take n, by rw [hlv, hl], ⟨ao, c, by rw [hlv], by rw [hlv]; omega, h3, fun i hi => ?_, h5⟩, fun i hi => ?_⟩
  · rw [hlv] at hi
    obtain ⟨b, o, q1, q2, q3⟩ := h4 i (by omega)
    exact ⟨b, o, q1, by rw [q2, List.getElem?_take_of_lt hi], q3⟩
  · rw [hl] at hi
    have e1 : (vs.take n).getD i (.slice none 0 0) = vs.getD i (.slice none 0 0) := by simp [List.getElem?_take_of_lt hi]
    have e2 : (m.take n).getD i [] = m.getD i [] := by simp [List.getElem?_take_of_lt hi]
    rw [e1, e2]
    exact h6 i (by omega)

theorem step_c2 {P : Program} {ops : Array Oper} {o : Oper} {a : Act} {w : World} {K : Act → World → Prop} {Q : Exit → Act → World → Prop} {E : Prop}
    (hg : o.guard = none) (f : FuncId) (x y : Operand) (t s : TypeId) (hop : o.op = Op.call { callee := Callee.value (Operand.func f), args := #[x, y], argTypes := #[t, s] }) (v u : Value) (hv : a.eval x = v) (hu : a.eval y = u) (hf : ∃ fn, P.funcs[f]? = some fn ∧ (fn.name == "runtime.NumGoroutine") = false ∧ fn.body.isNone = false)
    (hc : Calls P f #[v, u] w fun e w' => ∃ u, e = .returned u ∧ K (a.put o.dst u) w') :
    if Region.wanted o (yielded ops a.tmps) = true then Oper.wp P o a w K Q else E := by
  have hw : Region.wanted o (yielded ops a.tmps) = true := by simp [Region.wanted, hg]
  rw [if_pos hw]
  unfold Oper.wp
  obtain ⟨fn, f1, f2, f3⟩ := hf
  have e : (execOp a.eval o).run P w = .ok (.enter f #[v, u]) w := by
    have hfn : a.eval (Operand.func f) = Value.func (Fn.func f) #[] #[] := rfl
    have hcf : (callFunc f #[v, u]).run P w = .ok (.enter f #[v, u]) w := by
      unfold callFunc
      have g2 : ¬ fn.name = "runtime.NumGoroutine" := by simpa using f2
      have g3 : ¬ fn.body = none := by intro e; rw [e] at f3; simp at f3
      simp [f1, g2, g3]
    unfold execOp
    rw [hop]
    simp [resolve, invoke, hv, hu, hfn, Deferred.ofValue, hcf]
  rw [e, Oper.upon_enter]
  refine hc.mono ?_
  rintro e w' ⟨u, rfl, h⟩
  exact h

/-- A world that is as it was but for draws. -/
def Qt (w wr : World) : Prop := ∃ n, wr = w.drewN n

theorem Qt.refl (w : World) : Qt w w := ⟨0, rfl⟩
theorem Qt.drew {w wr : World} (h : Qt w wr) : Qt w wr.drew := by
  obtain ⟨n, rfl⟩ := h
  exact ⟨n + 1, rfl⟩
theorem Qt.drewN {w wr : World} (h : Qt w wr) (k : Nat) : Qt w (wr.drewN k) := by
  obtain ⟨n, rfl⟩ := h
  exact ⟨n + k, by rw [World.drewN_drewN]⟩
theorem Qt.trans {w wr ws : World} (h : Qt w wr) (h2 : Qt wr ws) : Qt w ws := by
  obtain ⟨k, rfl⟩ := h2
  exact h.drewN k
theorem Qt.mat {B : Nat} {w wr : World} {v : Value} {m : List (List Int)} (h : Qt w wr) (hm : Mat B 26 3 w v m) : Mat B 26 3 wr v m := by
  obtain ⟨n, rfl⟩ := h
  exact hm.drewN n
theorem Qt.sl {B : Nat} {e : TypeId} {w wr : World} {v : Value} {m : List Value} (h : Qt w wr) (hm : Sl B e w v m) : Sl B e wr v m := by
  obtain ⟨n, rfl⟩ := h
  exact hm.drewN n
theorem Qt.cell {w wr : World} (h : Qt w wr) (a : Addr) : wr.cell? a = w.cell? a := by
  obtain ⟨n, rfl⟩ := h
  simp
theorem Qt.below {N : Nat} {w wr : World} (h : Qt w wr) : Below N w wr := by
  obtain ⟨n, rfl⟩ := h
  exact bel_drewN (Below.refl _ _) n

set_option maxRecDepth 100000 in
set_option maxHeartbeats 2000000 in
theorem facetsMay_any (B : Nat) (m : List (List Int)) (v : Value) (w : World) (hv : Mat B 26 3 w v m) :
    Calls Tryd.prog 6 #[v] w fun e w' => e = .returned (.int .i64 (facetsE m)) ∧ Qt w w' := by
  obtain ⟨ao, cap, hvv, hlc, hcm⟩ := mat_open hv
  subst hvv
  have HV : Hid (Mat B 26 3 w (.slice ao m.length cap) m) := hv
  clear hv
  by_cases h1 : m.length < 1
  · have b1 : decide ((m.length : Int) < 1) = true := decide_eq_true (by omega)
    have HE : Hid (facetsE m = 2) := if_pos (by omega)
    go_enter Tryd.func6, Tryd.ntmps6
    go_wp2
    go_ret
    exact ⟨by rw [HE.out]; rfl, Qt.refl _⟩
  · have b1 : decide ((m.length : Int) < 1) = false := decide_eq_false (by omega)
    by_cases h2 : 40 < m.length
    · have b2 : decide ((40 : Int) < (m.length : Int)) = true := decide_eq_true (by omega)
      have HE : Hid (facetsE m = 2) := if_pos (by omega)
      go_enter Tryd.func6, Tryd.ntmps6
      go_wp2
      go_ret
      exact ⟨by rw [HE.out]; rfl, Qt.refl _⟩
    · have b2 : decide ((40 : Int) < (m.length : Int)) = false := decide_eq_false (by omega)
      have HE : Hid (facetsE m = firstE (simE m) m.length) := if_neg (by omega)
      go_enter Tryd.func6, Tryd.ntmps6
      go_wp2
      go_loopw [3] (fun i wr => ∃ t : Nat, t ≤ m.length ∧ i = .int .i64 t ∧ firstE (simE m) t = 0 ∧ Qt w wr) (fun i _ => m.length - (intOf i).toNat)
      case atStart => exact ⟨0, Nat.zero_le _, rfl, rfl, Qt.refl _⟩
      case round =>
        obtain ⟨t, ht, rfl, hall, hq⟩ := hrel
        rename World => wo
        have HQ : Hid (Qt w wo) := hq
        clear hq
        have HALL : Hid (firstE (simE m) t = 0) := hall
        clear hall
        by_cases htn : t < m.length
        · obtain ⟨b, o, cp, u, hs, _, hcc, hu⟩ := mat_cell (HQ.out.mat HV.out) htn
          simp only [Value.slice.injEq, true_and] at hs
          obtain ⟨rfl, rfl⟩ := hs
          obtain ⟨b0, o0, cp0, u0, hs0, _, hcc0, hu0⟩ := mat_cell (HQ.out.mat HV.out) (k := 0) (by omega)
          simp only [Value.slice.injEq, true_and, Option.some.injEq, Addr.mk.injEq, and_true] at hs0
          obtain ⟨⟨rfl, rfl⟩, rfl⟩ := hs0
          obtain ⟨uo, uc, hue, hul, hum⟩ := sl_open hu
          obtain ⟨uo0, uc0, hue0, hul0, hum0⟩ := sl_open hu0
          subst hue hue0
          have HU : Hid (Sl B 3 wo (.slice uo (m.getD t []).length uc) (ints (m.getD t []))) := hu
          have hm0I : (0 : Int) < (m.length : Int) := by omega
          have HTK : Hid (Mat B 26 3 wo (.slice (some ⟨b, o, none⟩) t cap) (m.take t)) := (HQ.out.mat HV.out).takeM (by omega)
          have HIT : Hid (simE m t ≠ 0 → facetsE m = simE m t) := fun h => by rw [HE.out]; exact firstE_hit HALL.out h _ htn
          have HSI : Hid (simE m t = if listE (m.getD 0 []).length (m.getD t []) = 0 then (if (m.take t).contains (m.getD t []) then 8 else 0) else listE (m.getD 0 []).length (m.getD t [])) := rfl
          have HLI : Hid (listE (m.getD 0 []).length (m.getD t []) = if (m.getD t []).length ≠ (m.getD 0 []).length ∨ (m.getD 0 []).length < 1 ∨ 5 < (m.getD 0 []).length then 3 else firstE (numE (m.getD t [])) (m.getD t []).length) := rfl
          simp only [Nat.add_zero] at hcc0
          have HTI0 : (0 : Int) ≤ (t : Int) := by omega
          have HTI : (t : Int) < (m.length : Int) := by omega
          generalize (m.getD 0 []).length = c at *
          generalize m.getD t [] = x at *
          clear hu hu0
          by_cases h0 : x.length = c
          · have HL : Hid (x.length = c) := h0
            have c0 : ((x.length : Int) != (c : Int)) = false := by simp [h0]
            by_cases h3 : x.length < 1
            · have c1 : decide ((x.length : Int) < 1) = true := decide_eq_true (by omega)
              have HF : Hid (facetsE m = 3) := by
                have e : listE c x = 3 := by rw [HLI.out]; exact if_pos (by omega)
                have e2 : simE m t = 3 := by rw [HSI.out, e]; exact if_neg (by decide)
                have := HIT.out (by rw [e2]; decide)
                rw [e2] at this; exact this
              clear h0
              go_wp2
              go_region
              go_wp2
              go_ret
              exact ⟨by rw [HF.out]; rfl, HQ.out.drew⟩
            · have c1 : decide ((x.length : Int) < 1) = false := decide_eq_false (by omega)
              by_cases h4 : 5 < x.length
              · have c2 : decide ((5 : Int) < (x.length : Int)) = true := decide_eq_true (by omega)
                have HF : Hid (facetsE m = 3) := by
                  have e : listE c x = 3 := by rw [HLI.out]; exact if_pos (by omega)
                  have e2 : simE m t = 3 := by rw [HSI.out, e]; exact if_neg (by decide)
                  have := HIT.out (by rw [e2]; decide)
                  rw [e2] at this; exact this
                clear h0
                go_wp2
                go_region
                go_wp2
                go_ret
                exact ⟨by rw [HF.out]; rfl, HQ.out.drew⟩
              · have c2 : decide ((5 : Int) < (x.length : Int)) = false := decide_eq_false (by omega)
                have HF : Hid (listE c x = firstE (numE x) x.length) := by show _ = _; rw [HLI.out]; exact if_neg (by omega)
                clear h0
                go_wp2
                go_region
                go_wp2
                go_loopw [4] (fun i wq => ∃ k : Nat, k ≤ x.length ∧ i = .int .i64 k ∧ firstE (numE x) k = 0 ∧ Qt wo wq) (fun i _ => x.length - (intOf i).toNat)
                case atStart => exact ⟨0, Nat.zero_le _, rfl, rfl, (Qt.refl _).drew⟩
                case round =>
                  obtain ⟨k, hk, rfl, hno, hq2⟩ := hrel
                  have HQ2 : Hid (Qt wo wr) := hq2
                  clear hq2
                  have HN : Hid (firstE (numE x) k = 0) := hno
                  clear hno
                  have hccw : wr.cell? ⟨b, o + t, none⟩ = some (.slice uo x.length uc) := (HQ2.out.cell _).trans hcc
                  by_cases hlt : k < x.length
                  · obtain ⟨b2, o2, cp2, hs2, hc2, hcc2⟩ := sl_cell (HQ2.out.sl HU.out) hlt
                    simp only [Value.slice.injEq] at hs2
                    obtain ⟨rfl, _, rfl⟩ := hs2
                    have hcc3 : wr.cell? ⟨b2, o2 + k, none⟩ = some (.int .i64 (x.getD k 0)) := hcc2
                    have HIK : Hid (numE x k ≠ 0 → facetsE m = numE x k) := fun h => by
                      have e : listE c x = numE x k := by rw [HF.out]; exact firstE_hit HN.out h _ hlt
                      have e2 : simE m t = numE x k := by rw [HSI.out, e]; exact if_neg h
                      have := HIT.out (by rw [e2]; exact h)
                      rw [e2] at this; exact this
                    have HK : Hid (numE x k = if x.getD k 0 < 0 ∨ 63 < x.getD k 0 then 4 else if 0 < k ∧ x.getD k 0 ≤ x.getD (k - 1) 0 then 3 else 0) := rfl
                    have HC2 : Hid (0 < k → wr.cell? ⟨b2, o2 + (k - 1), none⟩ = some (.int .i64 (x.getD (k - 1) 0))) := fun h0 => by
                      obtain ⟨b3, o3, cp3, hs3, _, hcc4⟩ := sl_cell (HQ2.out.sl HU.out) (show k - 1 < x.length by omega)
                      simp only [Value.slice.injEq, Option.some.injEq, Addr.mk.injEq] at hs3
                      obtain ⟨⟨rfl, rfl, _⟩, _, _⟩ := hs3
                      exact hcc4
                    clear hcc2 hcc
                    generalize x.getD k 0 = z at *
                    generalize x.getD (k - 1) 0 = y at *
                    by_cases d1 : z < 0
                    · have e1 : decide (z < 0) = true := decide_eq_true d1
                      have HG : Hid (facetsE m = 4) := by
                        have e : numE x k = 4 := by rw [HK.out]; exact if_pos (Or.inl d1)
                        have := HIK.out (by rw [e]; decide)
                        rw [e] at this; exact this
                      go_wp2
                      go_ret
                      exact ⟨by rw [HG.out]; rfl, HQ.out.trans HQ2.out⟩
                    · have e1 : decide (z < 0) = false := decide_eq_false d1
                      by_cases d2 : 63 < z
                      · have e2 : decide (63 < z) = true := decide_eq_true d2
                        have HG : Hid (facetsE m = 4) := by
                          have e : numE x k = 4 := by rw [HK.out]; exact if_pos (Or.inr d2)
                          have := HIK.out (by rw [e]; decide)
                          rw [e] at this; exact this
                        go_wp2
                        go_ret
                        exact ⟨by rw [HG.out]; rfl, HQ.out.trans HQ2.out⟩
                      · have e2 : decide (63 < z) = false := decide_eq_false d2
                        by_cases d3 : 0 < k
                        · have hcp := HC2.out d3
                          have e3 : decide ((0 : Int) < (k : Int)) = true := decide_eq_true (by omega)
                          have hk1 : (k : Int) - 1 = ((k - 1 : Nat) : Int) := by omega
                          have hkl : k - 1 < x.length := by omega
                          by_cases d4 : z ≤ y
                          · have e4 : decide (z ≤ y) = true := decide_eq_true d4
                            have HG : Hid (facetsE m = 3) := by
                              have e : numE x k = 3 := by rw [HK.out, if_neg (by omega)]; exact if_pos ⟨d3, d4⟩
                              have := HIK.out (by rw [e]; decide)
                              rw [e] at this; exact this
                            go_wp2
                            go_region
                            go_wp2
                            go_ret
                            exact ⟨by rw [HG.out]; rfl, HQ.out.trans HQ2.out.drew⟩
                          · have e4 : decide (z ≤ y) = false := decide_eq_false d4
                            have HG : Hid (numE x k = 0) := by show _ = _; rw [HK.out, if_neg (by omega)]; exact if_neg (by omega)
                            go_wp2
                            go_region
                            go_wp2
                            go_roundw
                            case rel => exact ⟨k + 1, by omega, by go_num, firstE_step HN.out HG.out, HQ2.out.drew⟩
                            case measure => simp [intOf]; omega
                        · have e3 : decide ((0 : Int) < (k : Int)) = false := decide_eq_false (by omega)
                          have HG : Hid (numE x k = 0) := by show _ = _; rw [HK.out, if_neg (by omega)]; exact if_neg (by omega)
                          go_wp2
                          go_region
                          go_wp2
                          go_roundw
                          case rel => exact ⟨k + 1, by omega, by go_num, firstE_step HN.out HG.out, HQ2.out.drew⟩
                          case measure => simp [intOf]; omega
                  · have hke : k = x.length := by omega
                    have HZ : Hid (listE c x = 0) := by show _ = _; rw [HF.out, ← hke]; exact HN.out
                    have HHO : Hid (∀ q, Calls Tryd.prog 14 #[.slice (some ⟨b, o, none⟩) t cap, .slice uo x.length uc] (wr.drewN q) fun e w' => e = .returned (.bool ((m.take t).contains x)) ∧ ∃ n, w' = (wr.drewN q).drewN n) := fun q => holds_any B x (m.take t) _ _ (wr.drewN q) ((HQ2.out.sl HU.out).drewN q) ((HQ2.out.mat HTK.out).drewN q)
                    have HZ2 : Hid (simE m t = if (m.take t).contains x then 8 else 0) := by show _ = _; rw [HSI.out, HZ.out]; exact if_pos rfl
                    generalize (m.take t).contains x = R at *
                    have hccw2 : wr.cell? ⟨b, o + t, none⟩ = some (.slice uo x.length uc) := (HQ2.out.cell _).trans hcc
                    have htc : t ≤ cap := by omega
                    clear hcc hccw
                    go_wp2
                    go_region_law (refine step_c2 (o := { dst := some 99, op := _, type := _, pos := _, after := _, guard := _ }) (by rfl) 14 _ _ 22 26 (by rfl) _ _ (by rfl) (by rfl) ⟨_, Tryd.func14, by rfl, by rfl⟩ ?_; refine (HHO.out 1).mono ?_; rintro e w2 ⟨rfl, k2, rfl⟩; refine ⟨_, rfl, ?_⟩)
                    all_goals
                      cases R
                      · go_wp2
                        go_roundw
                        case rel => exact ⟨t + 1, by omega, by go_num, firstE_step HALL.out HZ2.out, HQ.out.trans (HQ2.out.drewN _)⟩
                        case measure => simp [intOf]; omega
                      · have HG : Hid (facetsE m = 8) := by
                          have e2 : simE m t = 8 := HZ2.out
                          have := HIT.out (by rw [e2]; decide)
                          rw [e2] at this; exact this
                        go_wp2
                        go_ret
                        exact ⟨by rw [HG.out]; rfl, HQ.out.trans (HQ2.out.drewN _)⟩
          · have c0 : ((x.length : Int) != (c : Int)) = true := by rw [bne_iff_ne]; omega
            have HF : Hid (facetsE m = 3) := by
              have e : listE c x = 3 := by rw [HLI.out]; exact if_pos (by omega)
              have e2 : simE m t = 3 := by rw [HSI.out, e]; exact if_neg (by decide)
              have := HIT.out (by rw [e2]; decide)
              rw [e2] at this; exact this
            clear h0
            go_wp2
            go_region
            go_wp2
            go_ret
            exact ⟨by rw [HF.out]; rfl, HQ.out.drew⟩
        · have hte : t = m.length := by omega
          have HZ : Hid (facetsE m = 0) := by show _ = _; rw [HE.out, ← hte]; exact HALL.out
          go_wp2
          go_ret
          exact ⟨by rw [HZ.out]; rfl, HQ.out⟩
end Go.Proofs.YtmldemimdejciaaDoor
