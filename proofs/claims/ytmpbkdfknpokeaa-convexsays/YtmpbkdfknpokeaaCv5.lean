/- The document's PointsMay and WithOnes. -/
import Derived.Test.YtmpbkdfknpokeaaCv4
import Derived.Test.YtmpbkdfknpokeaaCv3
import Derived.Test.YtmpbkdfknpokeaaNmo
namespace Go.Proofs.Ytmpbkdfknpokeaa
open Go.RowKit
attribute [local go_sem ↓] Go.wp_at_zero Go.wp_at_succ

set_option maxRecDepth 100000 in
set_option maxHeartbeats 2000000 in
theorem pointsMay_any (B : Nat) (m : List (List Int)) (v : Value) (w : World) (hv : Mat B 23 3 w v m) :
    Calls Try.prog 6 #[v] w fun e w' => e = .returned (.int .i64 (pmE m)) ∧ Below w.heap.size w w' := by
  obtain ⟨ao, cap, hvv, hlc, hcm⟩ := mat_open hv
  subst hvv
  have HV : Hid (Mat B 23 3 w (.slice ao m.length cap) m) := hv
  clear hv
  by_cases h1 : m.length < 1
  · have b1 : decide ((m.length : Int) < 1) = true := decide_eq_true (by omega)
    have HE : Hid (pmE m = 2) := if_pos (by omega)
    go_enter Try.func6, Try.ntmps6
    go_wp2
    go_ret
    exact ⟨by rw [HE.out]; rfl, Below.refl _ _⟩
  · have b1 : decide ((m.length : Int) < 1) = false := decide_eq_false (by omega)
    by_cases h2 : 12 < m.length
    · have b2 : decide ((12 : Int) < (m.length : Int)) = true := decide_eq_true (by omega)
      have HE : Hid (pmE m = 2) := if_pos (by omega)
      go_enter Try.func6, Try.ntmps6
      go_wp2
      go_ret
      exact ⟨by rw [HE.out]; rfl, Below.refl _ _⟩
    · have b2 : decide ((12 : Int) < (m.length : Int)) = false := decide_eq_false (by omega)
      have HPE : Hid (pmE m = firstE (rowD (m.getD 0 []).length) m) := if_neg (by omega)
      go_enter Try.func6, Try.ntmps6
      go_wp2
      go_loopw [3] (fun i wr => ∃ t : Nat, t ≤ m.length ∧ i = .int .i64 t ∧ (∀ j, j < t → rowD (m.getD 0 []).length (m.getD j []) = 0) ∧ Below w.heap.size w wr) (fun i _ => m.length - (intOf i).toNat)
      case atStart => exact ⟨0, Nat.zero_le _, rfl, fun j hj => absurd hj (by omega), Below.refl _ _⟩
      case round =>
        obtain ⟨t, ht, rfl, hall, hbel⟩ := hrel
        have HALL : Hid (∀ j, j < t → rowD (m.getD 0 []).length (m.getD j []) = 0) := hall
        have HB : Hid (Below w.heap.size w wr) := hbel
        by_cases htn : t < m.length
        · obtain ⟨b, o, cp, u, hs, _, hcc, hu⟩ := mat_cell (HV.out.below hbel (Nat.le_refl _)) htn
          simp only [Value.slice.injEq, true_and] at hs
          obtain ⟨rfl, rfl⟩ := hs
          obtain ⟨b0, o0, cp0, u0, hs0, _, hcc0, hu0⟩ := mat_cell (HV.out.below hbel (Nat.le_refl _)) (k := 0) (by omega)
          simp only [Value.slice.injEq, true_and, Option.some.injEq, Addr.mk.injEq, and_true] at hs0
          obtain ⟨⟨rfl, rfl⟩, rfl⟩ := hs0
          obtain ⟨uo, uc, hue, hul, hum⟩ := sl_open hu
          obtain ⟨uo0, uc0, hue0, hul0, hum0⟩ := sl_open hu0
          subst hue hue0
          have HU : Hid (Sl B 3 wr (.slice uo (m.getD t []).length uc) (ints (m.getD t []))) := hu
          have hm0I : (0 : Int) < (m.length : Int) := by omega
          obtain ⟨c, hc⟩ : ∃ c, c = (m.getD 0 []).length := ⟨_, rfl⟩
          have HC : Hid (c = (m.getD 0 []).length) := hc
          rw [← hc] at hcc0 hul0
          obtain ⟨l, hl⟩ : ∃ l, l = (m.getD t []).length := ⟨_, rfl⟩
          have HL : Hid (l = (m.getD t []).length) := hl
          rw [← hl] at HU hcc hul
          simp only [Nat.add_zero] at hcc0
          have hit : rowD c (m.getD t []) ≠ 0 → pmE m = rowD c (m.getD t []) := fun h => by
            rw [HPE.out]; rw [HC.out] at h ⊢; exact firstE_hit htn HALL.out h
          have HIT : Hid (rowD c (m.getD t []) ≠ 0 → pmE m = rowD c (m.getD t [])) := hit
          have HBAD : Hid ((l < 1 ∨ 3 < l ∨ l ≠ c) → pmE m = 3) := fun h => by
            have e : rowD c (m.getD t []) = 3 := if_pos (by rw [← HL.out]; exact h)
            rw [HIT.out (by rw [e]; decide), e]
          have HTI0 : (0 : Int) ≤ (t : Int) := by omega
          have HTI : (t : Int) < (m.length : Int) := by omega
          clear hu hu0 hbel hall hc hl hit
          by_cases h3 : l < 1
          · have c1 : decide ((l : Int) < 1) = true := decide_eq_true (by omega)
            have HE : Hid (pmE m = 3) := HBAD.out (by omega)
            clear h3
            go_wp2
            go_region
            go_wp2
            go_ret
            exact ⟨by rw [HE.out]; rfl, HB.out.drew⟩
          · have c1 : decide ((l : Int) < 1) = false := decide_eq_false (by omega)
            by_cases h4 : 3 < l
            · have c2 : decide ((3 : Int) < (l : Int)) = true := decide_eq_true (by omega)
              have HE : Hid (pmE m = 3) := HBAD.out (by omega)
              clear h3 h4
              go_wp2
              go_region
              go_wp2
              go_ret
              exact ⟨by rw [HE.out]; rfl, HB.out.drew⟩
            · have c2 : decide ((3 : Int) < (l : Int)) = false := decide_eq_false (by omega)
              by_cases h0 : l = c
              · subst h0
                have c0 : ((l : Int) != (l : Int)) = false := by simp
                have HE : Hid (rowD l (m.getD t []) = if (m.getD t []).any (farB · 20) then 4 else 0) := if_neg (by have := HL.out; omega)
                clear HBAD
                go_wp2
                go_region
                go_wp2_with fail
                refine (farAny_any B (m.getD t []) _ 20 _ HU.out.drew (by decide) (by decide)).mono ?_
                rintro e w2 ⟨rfl, rfl⟩
                cases han : (m.getD t []).any (farB · 20)
                · rw [han] at HE
                  go_wp2
                  go_roundw
                  case rel =>
                    refine ⟨t + 1, by omega, by go_num, fun j hj => ?_, HB.out.drew⟩
                    by_cases e : j = t
                    · subst e; rw [← HC.out, HE.out]; rfl
                    · exact HALL.out j (by omega)
                  case measure => simp [intOf]; omega
                · rw [han] at HE
                  have HE4 : Hid (pmE m = 4) := by
                    have := HIT.out (by rw [HE.out]; decide)
                    rw [HE.out] at this; exact this
                  go_wp2
                  go_ret
                  exact ⟨by rw [HE4.out]; rfl, HB.out.drew⟩
              · have c0 : ((l : Int) != (c : Int)) = true := by rw [bne_iff_ne]; omega
                have HE : Hid (pmE m = 3) := HBAD.out (by omega)
                clear h0
                go_wp2
                go_region
                go_wp2
                go_ret
                exact ⟨by rw [HE.out]; rfl, HB.out.drew⟩
        · have HA : Hid (firstE (rowD (m.getD 0 []).length) m = 0) := firstE_all (d := []) fun i hi => HALL.out i (by omega)
          clear hbel hall
          go_wp2
          go_ret
          exact ⟨by rw [HPE.out, HA.out]; rfl, HB.out⟩

/-- A column. -/
def colT (q : List (List Int)) (k : Nat) : List Int := q.map fun r => r.getD k 0
def colsT (d : Nat) (q : List (List Int)) : List (List Int) := (List.range d).map (colT q)
theorem colT_len (q : List (List Int)) (k : Nat) : (colT q k).length = q.length := by simp [colT]
theorem colsT_len (d : Nat) (q : List (List Int)) : (colsT d q).length = d := by simp [colsT]
theorem colsT_succ (d : Nat) (q : List (List Int)) : colsT (d + 1) q = colsT d q ++ [colT q d] := by simp [colsT, List.range_succ]
theorem colT_snoc (q : List (List Int)) (k j : Nat) (h : j < q.length) : (colT q k).take (j + 1) = (colT q k).take j ++ [(q.getD j []).getD k 0] := by
  have e : q.getD j [] = q[j] := by simp [h]
  rw [List.take_succ_eq_append_getElem (by rw [colT_len]; exact h), e]; simp [colT]
theorem onesT_cols (d : Nat) (q : List (List Int)) : onesT d q = colsT d q ++ [onesL q.length] := rfl

set_option maxRecDepth 100000 in
set_option maxHeartbeats 1600000 in
theorem withOnes_any (B d : Nat) (m : List (List Int)) (v : Value) (w : World) (hv : Mat B 23 3 w v m) (hm1 : 1 ≤ m.length) (hm : m.length ≤ 100) (hd : ∀ r ∈ m, r.length = d) (hd3 : d ≤ 100) :
    Calls Try.prog 8 #[v] w fun e w' => ∃ x, e = .returned x ∧ Rws w.heap.size 23 3 w' x (onesT d m) ∧ Below w.heap.size w w' := by
  obtain ⟨i0, hi, hz0, hz1, hz2⟩ := info_parts Try.info23
  obtain ⟨i3, hi3, hz30, hz31, hz32⟩ := info_parts Try.info3
  obtain ⟨b, o, cap, r0, hvv, hlc, hcc00, hr0⟩ := mat_cell hv (k := 0) (by omega)
  subst hvv
  obtain ⟨uo0, uc0, hue0, _, _⟩ := sl_open hr0
  rw [hd _ (show m.getD 0 [] ∈ m by simp [show 0 < m.length by omega])] at hue0
  subst hue0
  simp only [Nat.add_zero] at hcc00
  have HC00 : Hid (w.cell? ⟨b, o, none⟩ = some (.slice uo0 d uc0)) := hcc00
  have HV : Hid (Mat B 23 3 w (.slice (some ⟨b, o, none⟩) m.length cap) m) := hv
  have HD : Hid (∀ r ∈ m, r.length = d) := hd
  have HON : Hid (∀ W, Calls Try.prog 23 #[.int .i64 m.length] W fun e w' => ∃ u, e = .returned u ∧ w'.ownsRow W.heap.size 3 1 u m.length (ints (onesL m.length)) ∧ Below W.heap.size W w') := fun W => ones_any m.length W hm
  have hm0I : (0 : Int) < (m.length : Int) := by omega
  clear hv hd hr0 hcc00
  go_enter Try.func8, Try.ntmps8
  go_wp2
  go_loopw [3, 4] (fun x i wr => ∃ k : Nat, k ≤ d ∧ i = .int .i64 k ∧ Rws w.heap.size 23 3 wr x (colsT k m) ∧ Below w.heap.size w wr) (fun _ i _ => d - (intOf i).toNat)
  case atStart => exact ⟨0, Nat.zero_le _, rfl, Rws.nil _ _ _ _, Below.refl _ _⟩
  case round =>
    obtain ⟨k, hk, rfl, hrw, hbel⟩ := hrel
    obtain ⟨wa, rfl⟩ : ∃ wa, wa = wr := ⟨wr, rfl⟩
    have HR : Hid (Rws w.heap.size 23 3 wa u3 (colsT k m)) := hrw
    have HB : Hid (Below w.heap.size w wa) := hbel
    have hsz : w.heap.size ≤ wa.heap.size := hbel.size
    have hc00 : wa.cell? ⟨b, o, none⟩ = some (.slice uo0 d uc0) := (hbel.cell (lt_of_cell HC00.out)).trans HC00.out
    clear hrw hbel
    by_cases hlt : k < d
    · obtain ⟨M, hM⟩ : ∃ M, M = wa.heap.size := ⟨_, rfl⟩
      have HM : Hid (M = wa.heap.size) := hM
      have hMs : w.heap.size ≤ M := by omega
      clear hM
      have hkd : (k : Int) < (d : Int) := by omega
      go_wp2
      go_loopw [5, 6] (fun x i wq => ∃ j : Nat, j ≤ m.length ∧ i = .int .i64 j ∧ wq.ownsRow M 3 1 x j (ints ((colT m k).take j)) ∧ Below M wa wq) (fun _ i _ => m.length - (intOf i).toNat)
      case atStart => exact ⟨0, Nat.zero_le _, rfl, World.ownsRow_nil _ _ _ _, Below.refl _ _⟩
      case round =>
        obtain ⟨j, hj, rfl, hown, hbel⟩ := hrel
        have HO : Hid (wr.ownsRow M 3 1 u5 j (ints ((colT m k).take j))) := hown
        have HBq : Hid (Below M wa wr) := hbel
        have hszq : M ≤ wr.heap.size := by have := hbel.size; rw [HM.out]; exact this
        clear hown hbel
        by_cases hjl : j < m.length
        · obtain ⟨b1, o1, cp1, r1, hs, hc1, hcca, hr1⟩ := mat_cell (HV.out.below HB.out (Nat.le_refl _)) hjl
          simp only [Value.slice.injEq, Option.some.injEq, Addr.mk.injEq, and_true] at hs
          obtain ⟨⟨rfl, rfl⟩, -, rfl⟩ := hs
          have hlen : (m.getD j []).length = d := HD.out _ (by simp [hjl])
          obtain ⟨b3, o3, cp3, hs3, hc3, hcc3a⟩ := sl_cell hr1 (k := k) (by omega)
          rw [hlen] at hs3
          subst hs3
          have hcc : wr.cell? ⟨b, o + j, none⟩ = some (.slice (some ⟨b3, o3, none⟩) d cp3) := (HBq.out.cell (by rw [HM.out]; exact lt_of_cell hcca)).trans hcca
          have hcc3 : wr.cell? ⟨b3, o3 + k, none⟩ = some (.int .i64 ((m.getD j []).getD k 0)) := (HBq.out.cell (by rw [HM.out]; exact lt_of_cell hcc3a)).trans hcc3a
          have HZ : Hid ((colT m k).take (j + 1) = (colT m k).take j ++ [(m.getD j []).getD k 0]) := colT_snoc m k j hjl
          have HLL : Hid (((colT m k).take j).length = j) := by show _ = _; rw [List.length_take, colT_len]; omega
          generalize (m.getD j []).getD k 0 = z at *
          have hjI : (j : Int) < (m.length : Int) := by omega
          have hkI0 : (0 : Int) ≤ (k : Int) := by omega
          have hjI0 : (0 : Int) ≤ (j : Int) := by omega
          clear hr1 hcca hcc3a hlen
          go_wp2_with (first | (at_builtin; refine wpList_append_own _ rfl _ _ 23 rfl M 3 i3 (.int .i64 0) 1 8 Try.underlying23 hi3 hz30 hz31 hz32 rfl (by decide) _ _ _ rfl (HO.out.alloc _) ⟨wr.heap.size, 0, none⟩ 1 1 [.int .i64 z] rfl rfl (one_new _ _ _) (one_int _) ?d3 ?d4 ?d5 ?_))
          case d3 => unfold maxLen; omega
          case d4 => omega
          case d5 => simp; omega
          intro v' w3 ho hg _
          have hp := owns_push (z := z) (N := j + 1) hszq (l := (colT m k).take j) (by rw [HLL.out]; exact HO.out) HBq.out (by rw [HLL.out]; exact ho) hg (by rw [HLL.out])
          rw [← HZ.out] at hp
          have HP : Hid _ := hp
          clear hp ho hg
          go_wp2
          go_roundw
          case rel => exact ⟨j + 1, by omega, by go_num, HP.out.1, HP.out.2⟩
          case measure => simp [intOf]; omega
        · have HX : Hid (Sl w.heap.size 3 wr u5 (ints (colT m k))) := by
            have h := HO.out
            rw [List.take_of_length_le (by rw [colT_len]; omega)] at h
            exact Sl.own h
          have HRq : Hid (Rws w.heap.size 23 3 wr u3 (colsT k m)) := HR.out.below HBq.out (by rw [HM.out]; exact Nat.le_refl _)
          have HBw : Hid (Below w.heap.size w wr) := HB.out.trans (HBq.out.mono hMs)
          obtain ⟨xo, xc, hxv⟩ := owns_form HO.out
          subst hxv
          obtain ⟨vs, g1, g2, g3⟩ := HRq.out
          have HLN : Hid ((colsT k m).length = k) := colsT_len k m
          rw [colsT_len] at g1 g2 g3
          have G1 : Hid (vs.length = k) := g1
          have G2 : Hid (wr.ownsRow w.heap.size 23 1 u3 k vs) := g2
          have G3 : Hid (∀ i, i < k → Sl w.heap.size 3 wr (vs.getD i (.slice none 0 0)) (ints ((colsT k m).getD i []))) := g3
          clear g1 g2 g3 HO
          go_wp2_with (first | (at_builtin; refine wpList_append_own _ rfl _ _ 22 rfl w.heap.size 23 i0 (.slice none 0 0) 1 24 Try.underlying22 hi hz0 hz1 hz2 rfl (by decide) _ _ _ rfl (G2.out.alloc _) ⟨wr.heap.size, 0, none⟩ 1 1 [.slice xo j xc] rfl rfl (one_new _ _ _) (one_slice _ _ _) ?d3 ?d4 ?d5 ?_))
          case d3 => unfold maxLen; omega
          case d4 => omega
          case d5 => simp; omega
          intro v' w3 ho hg _
          have R1 : Hid (Rws w.heap.size 23 3 w3 v' (colsT (k + 1) m)) := by
            have hp := Rws.push (e2 := 23) (e1 := 3) (m := colsT k m) (u := .slice xo j xc) (zs := colT m k) (by decide) (by rw [HLN.out]; exact G1.out) (by rw [HLN.out]; exact G2.out.alloc _)
              (fun i hi => (G3.out i (by rw [HLN.out] at hi; exact hi)).alloc _) (HX.out.alloc _) (by rw [HLN.out]; exact ho) hg
            rw [← colsT_succ] at hp
            exact hp
          have R2 : Hid (Below w.heap.size w w3) := (HBw.out.alloc (by omega) _).grown hg (by simp; omega) (fun x hx => (G2.out.lt x hx).1)
          clear ho hg
          go_wp2
          go_roundw
          case rel => exact ⟨k + 1, by omega, by go_num, R1.out, R2.out⟩
          case measure => simp [intOf]; omega
    · obtain rfl : d = k := by omega
      go_wp2_with fail
      refine (HON.out _).mono ?_
      rintro e w2 ⟨u, rfl, hou, hb2⟩
      obtain ⟨xo, xc, hxv⟩ := owns_form hou
      subst hxv
      have HX : Hid (Sl w.heap.size 3 w2 (.slice xo m.length xc) (ints (onesL m.length))) := Sl.own hou
      have hb2' : Below wa.heap.size wa w2 := hb2
      have HRq := HR.out.below hb2' (Nat.le_refl _)
      have HBw : Hid (Below w.heap.size w w2) := HB.out.trans (hb2'.mono hsz)
      have hsz2 : w.heap.size ≤ w2.heap.size := HBw.out.size
      obtain ⟨vs, g1, g2, g3⟩ := HRq
      have HLN : Hid ((colsT d m).length = d) := colsT_len d m
      rw [colsT_len] at g1 g2 g3
      have G1 : Hid (vs.length = d) := g1
      have G2 : Hid (w2.ownsRow w.heap.size 23 1 u3 d vs) := g2
      have G3 : Hid (∀ i, i < d → Sl w.heap.size 3 w2 (vs.getD i (.slice none 0 0)) (ints ((colsT d m).getD i []))) := g3
      clear g1 g2 g3 hou hb2 hb2'
      go_wp2_with (first | (at_builtin; refine wpList_append_own _ rfl _ _ 22 rfl w.heap.size 23 i0 (.slice none 0 0) 1 24 Try.underlying22 hi hz0 hz1 hz2 rfl (by decide) _ _ _ rfl (G2.out.alloc _) ⟨w2.heap.size, 0, none⟩ 1 1 [.slice xo m.length xc] rfl rfl (one_new _ _ _) (one_slice _ _ _) ?d3 ?d4 ?d5 ?_))
      case d3 => unfold maxLen; omega
      case d4 => omega
      case d5 => simp; omega
      intro v' w3 ho hg _
      have R1 : Hid (Rws w.heap.size 23 3 w3 v' (onesT d m)) := by
        have hp := Rws.push (e2 := 23) (e1 := 3) (m := colsT d m) (u := .slice xo m.length xc) (zs := onesL m.length) (by decide) (by rw [HLN.out]; exact G1.out) (by rw [HLN.out]; exact G2.out.alloc _)
          (fun i hi => (G3.out i (by rw [HLN.out] at hi; exact hi)).alloc _) (HX.out.alloc _) (by rw [HLN.out]; exact ho) hg
        rw [onesT_cols]
        exact hp
      have R2 : Hid (Below w.heap.size w w3) := (HBw.out.alloc (by omega) _).grown hg (by simp; omega) (fun x hx => (G2.out.lt x hx).1)
      clear ho hg
      go_wp2
      go_ret
      exact ⟨_, rfl, R1.out, R2.out⟩

end Go.Proofs.Ytmpbkdfknpokeaa
