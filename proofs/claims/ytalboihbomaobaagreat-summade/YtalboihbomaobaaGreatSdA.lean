import Derived.Test.YtalboihbomaobaaGreatSu0
import Derived.Test.YtalboihbomaobaaGreatHmB
import Derived.Test.YtalboihbomaobaaGreatHmA
import Derived.Test.YtalboihbomaobaaGreatSuB
import Derived.Test.YtalboihbomaobaaGreatLtA
/- The document's answer: sums of points, in order. -/
namespace Go.Proofs.YtalboihbomaobaaGreat
open Go.RowKit
attribute [local go_sem ↓] Go.wp_at_zero Go.wp_at_succ

set_option maxRecDepth 100000 in
set_option maxHeartbeats 3200000 in
theorem sumsR_any (d M0 : Nat) (P Q : List (List Int)) (u v : Value) (w : World) (hu : Mat w.heap.size 22 3 w u P) (hv : Mat w.heap.size 22 3 w v Q) (hd : d ≤ 100) (hP : Box d M0 P) (hQ : Box d M0 Q) (hM : M0 ≤ 1000) (hp : P.length ≤ 1000) (hq : Q.length ≤ 1000) :
    Calls Tryz.prog 9 #[u, v] w fun e w' => ∃ x s, e = .returned x ∧ Fr w.heap.size 22 3 w' x s ∧ SAsc s ∧ (∀ r, r ∈ s ↔ r ∈ sumP P Q) ∧ Below w.heap.size w w' := by
  obtain ⟨i0, hi, hz0, hz1, hz2⟩ := info_parts Tryz.info22
  obtain ⟨i3, hi3, hz30, hz31, hz32⟩ := info_parts Tryz.info3
  obtain ⟨po, pc, rfl, _, _⟩ := mat_open hu
  obtain ⟨qo, qc, rfl, _, _⟩ := mat_open hv
  have HU : Hid (Mat w.heap.size 22 3 w (.slice po P.length pc) P) := hu
  have HV : Hid (Mat w.heap.size 22 3 w (.slice qo Q.length qc) Q) := hv
  have HP : Hid (Box d M0 P) := hP
  have HQ : Hid (Box d M0 Q) := hQ
  clear hu hv hP hQ
  go_enter Tryz.func9, Tryz.ntmps9
  go_wp2
  go_loopw [5, 6] (fun x i wr => ∃ k : Nat, k ≤ P.length ∧ i = .int .i64 k ∧ Fr w.heap.size 22 3 wr x (sumP (P.take k) Q) ∧ Below w.heap.size w wr) (fun _ i _ => P.length - (intOf i).toNat)
  case atStart => exact ⟨0, Nat.zero_le _, rfl, Fr.nil _ _ _ _, Below.refl _ _⟩
  case round =>
    obtain ⟨k, hk, rfl, hfr, hbel⟩ := hrel
    obtain ⟨wa, hwa⟩ : ∃ wa, wa = wr := ⟨wr, rfl⟩
    rw [← hwa] at hfr hbel ⊢
    clear hwa wr
    have HF : Hid (Fr w.heap.size 22 3 wa u5 (sumP (P.take k) Q)) := hfr
    have HB : Hid (Below w.heap.size w wa) := hbel
    clear hfr hbel
    by_cases hlt : k < P.length
    · obtain ⟨pb, pf, cp2, rk, hs, hck, hcck, hrk⟩ := mat_cell HU.out hlt
      simp only [Value.slice.injEq] at hs
      obtain ⟨rfl, hxx, rfl⟩ := hs
      clear hxx
      have hmem : P.getD k [] ∈ P := by simp [hlt]
      obtain ⟨rko, rkc, hrkv, hrkl, _⟩ := sl_open hrk
      rw [(HP.out _ hmem).1] at hrkv hrkl
      subst hrkv
      have HL1 : Hid ((P.getD k []).length = d) := (HP.out _ hmem).1
      have HB1 : Hid (∀ z ∈ P.getD k [], z.natAbs ≤ 1000000) := fun z hz => by
        have := (HP.out _ hmem).2 z hz
        omega
      have HRK : Hid (Sl w.heap.size 3 w (.slice rko d rkc) (ints (P.getD k []))) := hrk
      have HCK : Hid (w.cell? ⟨pb, pf + k, none⟩ = some (.slice rko d rkc)) := hcck
      have HSN : Hid (sumP (P.take (k + 1)) Q = sumP (P.take k) Q ++ Q.map fun y => addL (P.getD k []) y) := sumP_snoc hlt
      have HLS : Hid ((sumP (P.take k) Q).length ≤ 1000000) := by
        show _ ≤ _
        rw [sumP_len, List.length_take]
        exact Nat.mul_le_mul (show min k P.length ≤ 1000 by omega) hq
      clear hrk hmem hcck
      generalize P.getD k [] = q1 at *
      have hkI : (k : Int) < (P.length : Int) := by omega
      have hkI0 : (0 : Int) ≤ (k : Int) := by omega
      go_wp2
      go_loopw [5, 7] (fun y i wq => ∃ j : Nat, j ≤ Q.length ∧ i = .int .i64 j ∧ Fr w.heap.size 22 3 wq y (sumP (P.take k) Q ++ (Q.take j).map fun y => addL q1 y) ∧ Below w.heap.size w wq) (fun _ i _ => Q.length - (intOf i).toNat)
      case atStart => exact ⟨0, Nat.zero_le _, rfl, by simpa using HF.out, HB.out⟩
      case round =>
        obtain ⟨j, hj, rfl, hfr, hbel⟩ := hrel
        obtain ⟨wb, hwb⟩ : ∃ wb, wb = wr := ⟨wr, rfl⟩
        rw [← hwb] at hfr hbel ⊢
        clear hwb wr
        have HFJ : Hid (Fr w.heap.size 22 3 wb u5 (sumP (P.take k) Q ++ (Q.take j).map fun y => addL q1 y)) := hfr
        have HBW : Hid (Below w.heap.size w wb) := hbel
        clear hfr hbel
        by_cases hjl : j < Q.length
        · obtain ⟨qb, qf, cp3, sk, hs, hcj, hccj, hsk⟩ := mat_cell HV.out hjl
          simp only [Value.slice.injEq] at hs
          obtain ⟨rfl, hxx, rfl⟩ := hs
          clear hxx
          have hmem : Q.getD j [] ∈ Q := by simp [hjl]
          obtain ⟨sko, skc, hskv, hskl, _⟩ := sl_open hsk
          rw [(HQ.out _ hmem).1] at hskv hskl
          subst hskv
          have HL0 : Hid ((Q.getD j []).length = d) := (HQ.out _ hmem).1
          have HB0 : Hid (∀ z ∈ Q.getD j [], z.natAbs ≤ 1000000) := fun z hz => by
            have := (HQ.out _ hmem).2 z hz
            omega
          have HSK : Hid (Sl w.heap.size 3 w (.slice sko d skc) (ints (Q.getD j []))) := hsk
          have HCJ : Hid (w.cell? ⟨qb, qf + j, none⟩ = some (.slice sko d skc)) := hccj
          have HSJ : Hid ((Q.take (j + 1)).map (fun y => addL q1 y) = (Q.take j).map (fun y => addL q1 y) ++ [addL q1 (Q.getD j [])]) := map_snocS hjl
          have HLN : Hid ((sumP (P.take k) Q ++ (Q.take j).map fun y => addL q1 y).length ≤ 1001000) := by
            show _ ≤ _
            have := HLS.out
            rw [List.length_append, List.length_map, List.length_take]
            omega
          clear hsk hmem hccj
          generalize Q.getD j [] = q0 at *
          have hjI : (j : Int) < (Q.length : Int) := by omega
          have hjI0 : (0 : Int) ≤ (j : Int) := by omega
          obtain ⟨M, hM⟩ : ∃ M, M = wb.heap.size := ⟨_, rfl⟩
          have HM : Hid (M = wb.heap.size) := hM
          have hMs : w.heap.size ≤ M := by rw [hM]; exact HBW.out.size
          clear hM
          have hcckb : wb.cell? ⟨pb, pf + k, none⟩ = some (.slice rko d rkc) := (HBW.out.cell (lt_of_cell HCK.out)).trans HCK.out
          have hccjb : wb.cell? ⟨qb, qf + j, none⟩ = some (.slice sko d skc) := (HBW.out.cell (lt_of_cell HCJ.out)).trans HCJ.out
          go_wp2
          go_loopw [8, 9] (fun x i wq => ∃ c : Nat, c ≤ d ∧ i = .int .i64 c ∧ wq.ownsRow M 3 1 x c (ints ((addL q1 q0).take c)) ∧ Below M wb wq) (fun _ i _ => d - (intOf i).toNat)
          case atStart => exact ⟨0, Nat.zero_le _, rfl, World.ownsRow_nil _ _ _ _, Below.refl _ _⟩
          case round =>
            obtain ⟨c, hc, rfl, hown, hbel⟩ := hrel
            have HO : Hid (wr.ownsRow M 3 1 u8 c (ints ((addL q1 q0).take c))) := hown
            have HBq : Hid (Below M wb wr) := hbel
            have hszq : M ≤ wr.heap.size := by have := hbel.size; rw [HM.out]; exact this
            have hckr : wr.cell? ⟨pb, pf + k, none⟩ = some (.slice rko d rkc) := (hbel.cell (by rw [HM.out]; exact lt_of_cell hcckb)).trans hcckb
            clear hown hbel
            by_cases hcl : c < d
            · have hcjr : wr.cell? ⟨qb, qf + j, none⟩ = some (.slice sko d skc) := (HBq.out.cell (by rw [HM.out]; exact lt_of_cell hccjb)).trans hccjb
              obtain ⟨b1, o1, cp1, hs1, _, hcc1a⟩ := sl_cell (HRK.out.below HBW.out (Nat.le_refl _)) (k := c) (by rw [HL1.out]; exact hcl)
              simp only [Value.slice.injEq] at hs1
              obtain ⟨rfl, _, rfl⟩ := hs1
              obtain ⟨b3, o3, cp3, hs3, _, hcc3a⟩ := sl_cell (HSK.out.below HBW.out (Nat.le_refl _)) (k := c) (by rw [HL0.out]; exact hcl)
              simp only [Value.slice.injEq] at hs3
              obtain ⟨rfl, _, rfl⟩ := hs3
              have hx := HB1.out (q1.getD c 0) (by simp [show c < q1.length by rw [HL1.out]; exact hcl])
              have hy := HB0.out (q0.getD c 0) (by simp [show c < q0.length by rw [HL0.out]; exact hcl])
              have HZ : Hid ((addL q1 q0).take (c + 1) = (addL q1 q0).take c ++ [q1.getD c 0 + q0.getD c 0]) := addL_snoc q1 q0 c (by rw [HL1.out]; exact hcl)
              have HLL : Hid (((addL q1 q0).take c).length = c) := by
                show _ = _
                rw [List.length_take, addL_length, HL1.out]; omega
              generalize q1.getD c 0 = x at *
              generalize q0.getD c 0 = y at *
              have hcc1 : wr.cell? ⟨b1, o1 + c, none⟩ = some (.int .i64 x) := (HBq.out.cell (by rw [HM.out]; exact lt_of_cell hcc1a)).trans hcc1a
              have hcc3 : wr.cell? ⟨b3, o3 + c, none⟩ = some (.int .i64 y) := (HBq.out.cell (by rw [HM.out]; exact lt_of_cell hcc3a)).trans hcc3a
              have KA : Hid (((pb < M ∧ wb.cell? ⟨pb, pf + k, none⟩ = some (.slice (some ⟨b1, o1, none⟩) d rkc)) ∧ (b1 < M ∧ wb.cell? ⟨b1, o1 + c, none⟩ = some (.int .i64 x))) ∧ (qb < M ∧ wb.cell? ⟨qb, qf + j, none⟩ = some (.slice (some ⟨b3, o3, none⟩) d skc)) ∧ (b3 < M ∧ wb.cell? ⟨b3, o3 + c, none⟩ = some (.int .i64 y))) := by
                rw [HM.out]; exact ⟨⟨⟨lt_of_cell hcckb, hcckb⟩, ⟨lt_of_cell hcc1a, hcc1a⟩⟩, ⟨lt_of_cell hccjb, hccjb⟩, ⟨lt_of_cell hcc3a, hcc3a⟩⟩
              clear hcc1a hcc3a
              have hcI : (c : Int) < (d : Int) := by omega
              have hcI0 : (0 : Int) ≤ (c : Int) := by omega
              have hx1 : -1000000 ≤ x := by omega
              have hx2 : x ≤ 1000000 := by omega
              have hy1 : -1000000 ≤ y := by omega
              have hy2 : y ≤ 1000000 := by omega
              clear hx hy
              have hw2 : IntKind.i64.wrap (x + y) = x + y := by rw [IntWalk.i64_left]; exact IntWalk.wrap64_in _ ⟨by omega, by omega⟩
              go_wp2
              go_region_held3 (fun w' => w'.cell? ⟨pb, pf + k, none⟩ = some (.slice (some ⟨b1, o1, none⟩) d rkc) ∧ w'.cell? ⟨b1, o1 + c, none⟩ = some (.int .i64 x) ∧ w'.cell? ⟨qb, qf + j, none⟩ = some (.slice (some ⟨b3, o3, none⟩) d skc) ∧ w'.cell? ⟨b3, o3 + c, none⟩ = some (.int .i64 y)) (first | exact KS.out | go_keep)
                ((refine step_append_own (by rfl) _ _ 22 (by rfl) M 3 i3 (.int .i64 0) 1 8 Tryz.underlying22 hi3 hz30 hz31 hz32 rfl (by decide) _ _ _ (by rfl) (HO.out.drew.alloc _) ⟨wr.heap.size, 0, none⟩ 1 1 [.int .i64 (x + y)] (by rfl) rfl (one_new _ _ _) (one_int _) (by unfold maxLen; omega) (by omega) (by simp; omega) ?_; intro v' w3 ho hg; have RR := push3 HBq.out hszq HLL.out HO.out ho hg (hz := HZ.out); have KS := keep4 (a1 := ⟨pb, pf + k, none⟩) (a2 := ⟨b1, o1 + c, none⟩) (a3 := ⟨qb, qf + j, none⟩) (a4 := ⟨b3, o3 + c, none⟩) RR.2 KA.out))
              have R1 : Hid (w3.ownsRow M 3 1 v' (c + 1) (ints ((addL q1 q0).take (c + 1)))) := RR.1
              have R2 : Hid (Below M wb w3) := RR.2
              clear RR ho hg KS
              go_wp2
              go_roundw
              case rel => exact ⟨c + 1, by omega, by go_num, R1.out, R2.out⟩
              case measure => simp [intOf]; omega
            · have HX : Hid (Sl 0 3 wr u8 (ints (addL q1 q0))) := by
                have h := HO.out
                rw [List.take_of_length_le (by rw [addL_length, HL1.out]; omega)] at h
                exact Sl.own h
              have HRq : Hid (Fr w.heap.size 22 3 wr u5 (sumP (P.take k) Q ++ (Q.take j).map fun y => addL q1 y)) := HFJ.out.below HBq.out (by rw [HM.out]; exact Nat.le_refl _)
              have HBw : Hid (Below w.heap.size w wr) := HBW.out.trans (HBq.out.mono hMs)
              obtain ⟨xo, xc, hxv⟩ := owns_form HO.out
              subst hxv
              obtain ⟨vs, g1, g2, g3⟩ := HRq.out
              obtain ⟨ol, hol⟩ : ∃ ol, ol = (sumP (P.take k) Q ++ (Q.take j).map fun y => addL q1 y).length := ⟨_, rfl⟩
              rw [← hol] at g1 g2 g3 HLN
              have HOL : Hid (ol = (sumP (P.take k) Q ++ (Q.take j).map fun y => addL q1 y).length) := hol
              have G1 : Hid (vs.length = ol) := g1
              have G2 : Hid (wr.ownsRow w.heap.size 22 1 u5 ol vs) := g2
              have G3 : Hid (∀ i, i < ol → Sl 0 3 wr (vs.getD i (.slice none 0 0)) (ints ((sumP (P.take k) Q ++ (Q.take j).map fun y => addL q1 y).getD i []))) := g3
              have hol2 : ol ≤ 1001000 := HLN.out
              have hsz2 : w.heap.size ≤ wr.heap.size := HBw.out.size
              clear g1 g2 g3 hol HO
              have hcj : decide ((c : Int) < (d : Int)) = false := by simp; omega
              go_wp2_with (first | (at_builtin; refine wpList_append_own _ rfl _ _ 25 rfl w.heap.size 22 i0 (.slice none 0 0) 1 24 Tryz.underlying25 hi hz0 hz1 hz2 rfl (by decide) _ _ _ rfl (G2.out.alloc _) ⟨wr.heap.size, 0, none⟩ 1 1 [.slice xo c xc] rfl rfl (one_new _ _ _) (one_slice _ _ _) ?d3 ?d4 ?d5 ?_))
              case d3 => unfold maxLen; omega
              case d4 => omega
              case d5 => first | exact hsz2 | omega | (simp; omega)
              intro v' w3 ho hg _
              have R1 : Hid (Fr w.heap.size 22 3 w3 v' (sumP (P.take k) Q ++ (Q.take (j + 1)).map fun y => addL q1 y)) := by
                have hp := Fr.push (e2 := 22) (e1 := 3) (m := sumP (P.take k) Q ++ (Q.take j).map fun y => addL q1 y) (u := .slice xo c xc) (zs := addL q1 q0) (by decide) (by rw [← HOL.out]; exact G1.out) (by rw [← HOL.out]; exact G2.out.alloc _)
                  (fun i hi => (G3.out i (by rw [← HOL.out] at hi; exact hi)).alloc _) (HX.out.alloc _) (by rw [← HOL.out]; exact ho) hg
                rw [List.append_assoc, ← HSJ.out] at hp
                exact hp
              have R2 : Hid (Below w.heap.size w w3) := (HBw.out.alloc hsz2 _).grown hg (by simp; omega) (fun x hx => (G2.out.lt x hx).1)
              clear ho hg
              go_wp2
              go_roundw
              case rel => exact ⟨j + 1, by omega, by go_num, R1.out, R2.out⟩
              case measure => simp [intOf]; omega
        · have hje : Q.take j = Q := List.take_of_length_le (by omega)
          have R1 : Hid (Fr w.heap.size 22 3 wb u5 (sumP (P.take (k + 1)) Q)) := by
            have h := HFJ.out
            rw [hje] at h
            rw [HSN.out]
            exact h
          clear hje HFJ
          go_wp2
          go_roundw
          case rel => exact ⟨k + 1, by omega, by go_num, R1.out, HBW.out⟩
          case measure => simp [intOf]; omega
    · have HE : Hid (P.take k = P) := List.take_of_length_le (by omega)
      have HSO : Hid (Calls Tryz.prog 18 #[u5] wa fun e w' => ∃ x c, e = .returned x ∧ (Fr wa.heap.size 22 3 w' x c ∧ SAsc c ∧ (∀ r, r ∈ c ↔ r ∈ sumP P Q) ∧ Below wa.heap.size wa w')) := by
        have h := HF.out
        rw [HE.out] at h
        have hx := sumP_box HP.out HQ.out
        refine (sortR_any wa.heap.size (sumP P Q) u5 wa (h.rws.mat HB.out.size) ?_ (fun r hr => by rw [(hx r hr).1]; omega)).mono fun e w' ⟨x2, s2, e1, e2, e3, e4, e5⟩ => ⟨x2, s2, e1, e2, e3, e4, e5⟩
        rw [sumP_len]
        exact Nat.le_trans (Nat.mul_le_mul hp hq) (by decide)
      clear HE HF
      go_wp2_with fail
      refine HSO.out.mono ?_
      rintro e w2 ⟨x2, c, rfl, hx2⟩
      have HX2 : Hid (Fr wa.heap.size 22 3 w2 x2 c ∧ SAsc c ∧ (∀ r, r ∈ c ↔ r ∈ sumP P Q) ∧ Below wa.heap.size wa w2) := hx2
      clear hx2
      go_wp2
      go_ret
      exact ⟨_, c, rfl, HX2.out.1.mono HB.out.size, HX2.out.2.1, HX2.out.2.2.1, HB.out.trans (HX2.out.2.2.2.mono HB.out.size)⟩

end Go.Proofs.YtalboihbomaobaaGreat

/- The document's answer: twice an area. -/
namespace Go.Proofs.YtalboihbomaobaaGreat
open Go.RowKit Lin
attribute [local go_sem ↓] Go.wp_at_zero Go.wp_at_succ

theorem cornersS_any (d : Nat) (P : List (List Int)) (v : Value) (w : World) (hv : Mat w.heap.size 22 3 w v P) (hg : Good d P) (hd : d ≤ 3) (hb : Box d 15 P) :
    Calls Tryz.prog 10 #[v] w fun e w' => ∃ (co : Option Addr) (cc : Nat) (s C : List (List Int)), e = .returned (.slice co C.length cc) ∧ SrC d P s C ∧ Fr w.heap.size 22 3 w' (.slice co C.length cc) C ∧ Below w.heap.size w w' := by
  refine (cornersOf_any w.heap.size d P v w hv hg.d1 hd (by have := hg.n2; omega) (by have := hg.n24; omega) hb).mono ?_
  rintro e w' ⟨x, c, s, rfl, hf, h1, h2, h3, h4, hb⟩
  obtain ⟨co, cc, rfl, _, _⟩ := mat_open (fr_mat0S hf)
  exact ⟨co, cc, s, c, rfl, ⟨hg, h2, h3, h1, h4⟩, hf, hb⟩

theorem rowsS_any (d : Nat) (P : List (List Int)) (v : Value) (w : World) (hv : Mat w.heap.size 22 3 w v P) (hg : Good d P) :
    Calls Tryz.prog 19 #[v] w fun e w' => ∃ (co : Option Addr) (cc : Nat) (s : List (List Int)), e = .returned (.slice co s.length cc) ∧ SAsc s ∧ (∀ r, r ∈ s ↔ r ∈ rowsD P d) ∧ Fr w.heap.size 22 3 w' (.slice co s.length cc) s ∧ Below w.heap.size w w' := by
  refine (rowsOf_any w.heap.size d P v w hv hg.d1 hg.d4 (by have := hg.n2; omega) (by have := hg.n24; omega) hg.box).mono ?_
  rintro e w' ⟨x, s, rfl, hf, h1, h2, hb⟩
  obtain ⟨co, cc, rfl, _, _⟩ := mat_open (fr_mat0S hf)
  exact ⟨co, cc, s, rfl, h1, h2, hf, hb⟩

theorem endL_snoc {C : List (List Int)} {r : List Int} {j : Nat} (hj : j < C.length) : endL (C.take (j + 1)) r = endL (C.take j) r ++ (if overL r (C.getD j []) = 0 then [C.getD j []] else []) := by
  have e : C.getD j [] = C[j] := by simp [hj]
  unfold endL
  rw [List.take_succ_eq_append_getElem hj, List.filter_append, e]
  by_cases h : overL r C[j] = 0 <;> simp [h]

set_option maxRecDepth 100000 in
set_option maxHeartbeats 3200000 in
theorem area_any (P : List (List Int)) (v : Value) (w : World) (hv : Mat w.heap.size 22 3 w v P) (hg : Good 2 P) (hbx : Box 2 15 P) (hn : P.length ≤ 64) :
    Calls Tryz.prog 11 #[v] w fun e w' => ∃ s C, e = .returned (.int .i64 (arS C s)) ∧ SrC 2 P s C ∧ Below w.heap.size w w' := by
  obtain ⟨i0, hi, hz0, hz1, hz2⟩ := info_parts Tryz.info22
  obtain ⟨po, pc, rfl, _, _⟩ := mat_open hv
  have HM : Hid (∀ X, Below w.heap.size w X → Mat X.heap.size 22 3 X (.slice po P.length pc) P) := fun X h => (hv.below h (Nat.le_refl _)).any (Nat.le_refl _)
  have K1 : Hid (Calls Tryz.prog 19 #[.slice po P.length pc] w fun e w' => ∃ (co : Option Addr) (cc : Nat) (s : List (List Int)), e = .returned (.slice co s.length cc) ∧ (SAsc s ∧ (∀ r, r ∈ s ↔ r ∈ rowsD P 2) ∧ Fr w.heap.size 22 3 w' (.slice co s.length cc) s ∧ Below w.heap.size w w')) := (rowsS_any 2 P _ w (HM.out w (Below.refl _ _)) hg).mono fun e w' ⟨co, cc, s, e1, e2⟩ => ⟨co, cc, s, e1, e2⟩
  have K2 : Hid (∀ X, Below w.heap.size w X → Calls Tryz.prog 10 #[.slice po P.length pc] X fun e w' => ∃ (co : Option Addr) (cc : Nat) (s C : List (List Int)), e = .returned (.slice co C.length cc) ∧ (SrC 2 P s C ∧ Fr X.heap.size 22 3 w' (.slice co C.length cc) C ∧ Below X.heap.size X w')) := fun X h => (cornersS_any 2 P _ X (HM.out X h) hg (by decide) hbx).mono fun e w' ⟨co, cc, s, C, e1, e2⟩ => ⟨co, cc, s, C, e1, e2⟩
  clear hv hg HM hbx
  go_enter Tryz.func11, Tryz.ntmps11
  go_wp2_with fail
  refine K1.out.mono ?_
  rintro e w1 ⟨ro, rc, s, rfl, hsa, hsm, hf1, hb1⟩
  have HK2 := K2.out w1 hb1
  have HM1 : Hid (∀ X, Below w1.heap.size w1 X → Mat 0 22 3 X (.slice ro s.length rc) s) := fun X h => (fr_mat0S hf1).below h (Nat.le_refl _)
  have HB1 : Hid (Below w.heap.size w w1) := hb1
  have HSA : Hid (SAsc s ∧ ∀ r, r ∈ s ↔ r ∈ rowsD P 2) := ⟨hsa, hsm⟩
  clear K1 K2 hf1 hb1 hsa hsm
  go_wp2_with fail
  refine HK2.mono ?_
  rintro e w2 ⟨co, cc, s2, C, rfl, hS2, hf2, hb2⟩
  have hS : SrC 2 P s C := by
    have : s = s2 := sasc_ext _ _ HSA.out.1 hS2.asc fun r => (HSA.out.2 r).trans (hS2.rows r).symm
    rw [this]
    exact hS2
  have HS : Hid (SrC 2 P s C) := hS
  have HC2 : Hid (∀ X, Below w2.heap.size w2 X → Mat 0 22 3 X (.slice co C.length cc) C) := fun X h => (fr_mat0S hf2).below h (Nat.le_refl _)
  have HM2 : Hid (∀ X, Below w2.heap.size w2 X → Mat 0 22 3 X (.slice ro s.length rc) s) := fun X h => (HM1.out _ hb2).below h (Nat.le_refl _)
  have HB2 : Hid (Below w.heap.size w w2) := HB1.out.trans (hb2.mono HB1.out.size)
  have hsl : s.length ≤ 16777216 := hS.many hn
  have HAB : Hid (∀ k, k ≤ s.length → 0 ≤ arS C (s.take k) ∧ arS C (s.take k) ≤ 7200 * k) := hS.arSB
  have hC2 : 2 ≤ C.length := hS.cgood.n2
  have hC64 : C.length ≤ 64 := hS.cgood.n24
  have HCB : Hid (Box 2 30 C) := hS.cgood.box
  have HOV : Hid (∀ r ∈ s, ∀ x ∈ C, ∀ (wq : World) (rv xv : Value) nn, Sl 0 3 wq rv (ints r) → Sl 0 3 wq xv (ints x) → Calls Tryz.prog 20 #[rv, xv] (wq.drewN nn) fun e w' => e = .returned (.int .i64 (overL r x)) ∧ ∃ n, w' = (wq.drewN nn).drewN n) := fun r hr x hx wq rv xv nn hrv hxv =>
    over_of (rowsD_facts hS.good.box (by decide) (by decide) r ((hS.rows r).1 hr)) (HCB.out x hx).1 (rowsD_last hS.good.box (by decide) (by decide) ((hS.rows r).1 hr)) (by decide) (box_small HCB.out hx) 0 rv xv (wq.drewN nn) (hrv.drewN nn) (hxv.drewN nn)
  have HEN : Hid (∀ r ∈ s, 2 ≤ (endL C r).length) := fun r hr => hS.ends hr
  have K4 : Hid (∀ r ∈ s, ∀ X (o : Option Addr) (c : Nat), Mat X.heap.size 22 3 X (.slice o 3 c) (m3 C r) → Calls Tryz.prog 23 #[.slice o 3 c] X fun e w' => ∃ xo xl xc, e = .returned (.slice xo xl xc) ∧ (Mat w'.heap.size 22 3 w' (.slice xo xl xc) (diffL (m3 C r)) ∧ Below X.heap.size X w')) := fun r hr X o c hM => by
    have hbx := hS.three hr
    refine (from_any X.heap.size 2 (m3 C r) _ X hM (by simp [m3]) (by simp [m3]) (by decide) (fun y hy => (hbx y hy).1) (fun y hy z hz => by have := (hbx y hy).2 z hz; omega)).mono ?_
    rintro e w' ⟨x, rfl, hx, hb⟩
    have hM := fr_mat0S hx
    obtain ⟨xo, xc, rfl, _, _⟩ := mat_open hM
    exact ⟨xo, _, xc, rfl, hM.more (Nat.zero_le _), hb⟩
  have K5 : Hid (∀ r ∈ s, ∀ X u, Mat X.heap.size 22 3 X u (diffL (m3 C r)) → Calls Tryz.prog 22 #[u] X fun e w' => e = .returned (.int .i64 (detL (diffL (m3 C r)))) ∧ Below X.heap.size X w') := fun r hr X u hu =>
    det_any 60 X.heap.size _ u X (diff_sqS (hS.three hr) rfl).2.1 hu
  have HDB : Hid (∀ r ∈ s, (detL (diffL (m3 C r))).natAbs ≤ 7200) := fun r hr => (diff_sqS (hS.three hr) rfl).2.2
  clear hS hS2 hf2 hb2 HK2 HM1 HB1 HSA
  go_wp2
  go_loopw [5, 6] (fun x i wr => ∃ k : Nat, k ≤ s.length ∧ i = .int .i64 (k : Int) ∧ x = .int .i64 (arS C (s.take k)) ∧ Below w2.heap.size w2 wr) (fun _ i _ => s.length - (intOf i).toNat)
  case atStart => exact ⟨0, Nat.zero_le _, rfl, rfl, Below.refl _ _⟩
  case round =>
    obtain ⟨k, hk, rfl, rfl, hbr⟩ := hrel
    obtain ⟨wa, hwa⟩ : ∃ wa, wa = wr := ⟨wr, rfl⟩
    rw [← hwa] at hbr ⊢
    clear hwa wr
    have HBR : Hid (Below w2.heap.size w2 wa) := hbr
    by_cases hlt : k < s.length
    · have hmem : s.getD k [] ∈ s := by simp [hlt]
      have HSN : Hid (arS C (s.take (k + 1)) = arS C (s.take k) + arR C (s.getD k [])) := arS_snoc hlt
      have HAR : Hid (arR C (s.getD k []) = ((detL (diffL (m3 C (s.getD k [])))).natAbs : Int)) := rfl
      have hab := HAB.out k hk
      have hdb := HDB.out _ hmem
      have HOR : Hid (∀ x ∈ C, ∀ (wq : World) (rv xv : Value) nn, Sl 0 3 wq rv (ints (s.getD k [])) → Sl 0 3 wq xv (ints x) → Calls Tryz.prog 20 #[rv, xv] (wq.drewN nn) fun e w' => e = .returned (.int .i64 (overL (s.getD k []) x)) ∧ ∃ n, w' = (wq.drewN nn).drewN n) := HOV.out _ hmem
      have HK4 : Hid (∀ X (o : Option Addr) (c : Nat), Mat X.heap.size 22 3 X (.slice o 3 c) (m3 C (s.getD k [])) → Calls Tryz.prog 23 #[.slice o 3 c] X fun e w' => ∃ xo xl xc, e = .returned (.slice xo xl xc) ∧ (Mat w'.heap.size 22 3 w' (.slice xo xl xc) (diffL (m3 C (s.getD k []))) ∧ Below X.heap.size X w')) := K4.out _ hmem
      have HK5 : Hid (∀ X u, Mat X.heap.size 22 3 X u (diffL (m3 C (s.getD k []))) → Calls Tryz.prog 22 #[u] X fun e w' => e = .returned (.int .i64 (detL (diffL (m3 C (s.getD k []))))) ∧ Below X.heap.size X w') := K5.out _ hmem
      have HE2 : Hid (2 ≤ (endL C (s.getD k [])).length) := HEN.out _ hmem
      obtain ⟨rb, rf, cp, rv, hs, _, hcc, hrv⟩ := mat_cell (HM2.out wa hbr) hlt
      simp only [Value.slice.injEq] at hs
      obtain ⟨rfl, hxx, rfl⟩ := hs
      clear hxx
      obtain ⟨qa, qc, hqe, _, _⟩ := sl_open hrv
      obtain ⟨rl, hrl⟩ : ∃ rl, rl = (s.getD k []).length := ⟨_, rfl⟩
      rw [← hrl] at hqe
      subst hqe
      have HRV : Hid (∀ X, Below wa.heap.size wa X → X.cell? ⟨rb, rf + k, none⟩ = some (.slice qa rl qc) ∧ Sl 0 3 X (.slice qa rl qc) (ints (s.getD k []))) := fun X h => ⟨(h.cell (lt_of_cell hcc)).trans hcc, hrv.below h (Nat.le_refl _)⟩
      clear hrv hbr hmem hcc hrl
      generalize s.getD k [] = r at *
      generalize arS C (s.take k) = T at *
      have hkI : (k : Int) < (s.length : Int) := by omega
      have hkI0 : (0 : Int) ≤ (k : Int) := by omega
      go_wp2
      go_loopw [7, 8] (fun x i wq => ∃ (j : Nat) (eo : Option Addr) (ec : Nat), j ≤ C.length ∧ i = .int .i64 j ∧ x = .slice eo (endL (C.take j) r).length ec ∧ Fr wa.heap.size 22 3 wq (.slice eo (endL (C.take j) r).length ec) (endL (C.take j) r) ∧ Below wa.heap.size wa wq) (fun _ i _ => C.length - (intOf i).toNat)
      case atStart => exact ⟨0, none, 0, Nat.zero_le _, rfl, rfl, Fr.nil _ _ _ _, Below.refl _ _⟩
      case round =>
        obtain ⟨j, eo, ec, hj, rfl, rfl, hfr, hbel⟩ := hrel
        have HFS : Hid (Fr wa.heap.size 22 3 wr (.slice eo (endL (C.take j) r).length ec) (endL (C.take j) r)) := hfr
        have HBS : Hid (Below wa.heap.size wa wr) := hbel
        have HBr : Hid (Below w2.heap.size w2 wr) := HBR.out.trans (hbel.mono HBR.out.size)
        have hszr : wa.heap.size ≤ wr.heap.size := hbel.size
        clear hfr hbel
        by_cases hjl : j < C.length
        · obtain ⟨b2, o2, cp2, xv, hs2, _, hcc2, hx2⟩ := mat_cell (HC2.out wr HBr.out) hjl
          simp only [Value.slice.injEq, true_and] at hs2
          obtain ⟨rfl, rfl⟩ := hs2
          have hmem : C.getD j [] ∈ C := by simp [hjl]
          have HON : Hid (endL (C.take (j + 1)) r = endL (C.take j) r ++ (if overL r (C.getD j []) = 0 then [C.getD j []] else [])) := endL_snoc hjl
          obtain ⟨ol, hol⟩ : ∃ ol, ol = (endL (C.take j) r).length := ⟨_, rfl⟩
          have hol2 : ol ≤ 64 := by
            rw [hol]
            unfold endL
            refine Nat.le_trans (List.length_filter_le _ _) ?_
            rw [List.length_take]
            omega
          have HOL : Hid (ol = (endL (C.take j) r).length) := hol
          rw [← hol] at HFS ⊢
          clear hol
          obtain ⟨xa, xc, hxe, _, _⟩ := sl_open hx2
          rw [(HCB.out _ hmem).1] at hxe
          subst hxe
          obtain ⟨hccR, hslR⟩ := HRV.out wr HBS.out
          have HCA : Hid (∀ nn, Calls Tryz.prog 20 #[.slice qa rl qc, .slice xa 2 xc] (wr.drewN nn) fun e w' => e = .returned (.int .i64 (overL r (C.getD j []))) ∧ ∃ n, w' = (wr.drewN nn).drewN n) := fun nn => HOR.out _ hmem wr _ _ nn hslR hx2
          have HXS : Hid (Sl 0 3 wr (.slice xa 2 xc) (ints (C.getD j []))) := hx2
          clear hx2 hmem hslR
          generalize C.getD j [] = y at *
          have hjI : (j : Int) < (C.length : Int) := by omega
          have hjI0 : (0 : Int) ≤ (j : Int) := by omega
          obtain ⟨z, hz⟩ : ∃ z, z = overL r y := ⟨_, rfl⟩
          rw [← hz] at HCA HON
          clear hz
          go_wp2
          go_quiet ((go_at_call 20; exact Calls.quiet_of (w := wr) (HCA.out _)))
          obtain ⟨Wq, hWq⟩ : ∃ Wq, Wq = wr.drewN nq := ⟨_, rfl⟩
          rw [← hWq]
          have hbq : Below wr.heap.size wr Wq := by rw [hWq]; exact ⟨rfl, rfl, rfl, Nat.le_refl _, fun _ _ => rfl⟩
          have hccq : Wq.cell? ⟨b2, o2 + j, none⟩ = some (.slice xa 2 xc) := (hbq.cell (lt_of_cell hcc2)).trans hcc2
          have HFq : Hid (Fr wa.heap.size 22 3 Wq (.slice eo ol ec) (endL (C.take j) r)) := HFS.out.below hbq (Nat.le_refl _)
          have HTq : Hid (Sl 0 3 Wq (.slice xa 2 xc) (ints y)) := HXS.out.below hbq (Nat.le_refl _)
          have HBq : Hid (Below wa.heap.size wa Wq) := HBS.out.trans (hbq.mono HBS.out.size)
          have hszq : wa.heap.size ≤ Wq.heap.size := HBq.out.size
          clear hWq hbq hcc2 hccR HFS HXS HCA
          by_cases hzz : z = 0
          · subst hzz
            rw [if_pos rfl] at HON
            obtain ⟨vs, g1, g2, g3⟩ := HFq.out
            rw [← HOL.out] at g1 g2 g3
            have G1 : Hid (vs.length = ol) := g1
            have G2 : Hid (Wq.ownsRow wa.heap.size 22 1 (.slice eo ol ec) ol vs) := g2
            have G3 : Hid (∀ i, i < ol → Sl 0 3 Wq (vs.getD i (.slice none 0 0)) (ints ((endL (C.take j) r).getD i []))) := g3
            clear g1 g2 g3
            go_wp2_with (first | (at_builtin; refine wpList_append_own _ rfl _ _ 25 rfl wa.heap.size 22 i0 (.slice none 0 0) 1 24 Tryz.underlying25 hi hz0 hz1 hz2 rfl (by decide) _ _ _ rfl (G2.out.alloc _) ⟨Wq.heap.size, 0, none⟩ 1 1 [.slice xa 2 xc] rfl rfl (one_new _ _ _) (one_slice _ _ _) ?d3 ?d4 ?d5 ?_))
            case d3 => unfold maxLen; omega
            case d4 => omega
            case d5 => first | exact hszq | omega | (simp; omega)
            intro v' w3 ho hg _
            have hRR : Fr wa.heap.size 22 3 w3 v' (endL (C.take (j + 1)) r) := by
              have hp := Fr.push (e2 := 22) (e1 := 3) (m := endL (C.take j) r) (u := .slice xa 2 xc) (zs := y) (by decide) (by rw [← HOL.out]; exact G1.out) (by rw [← HOL.out]; exact G2.out.alloc _)
                (fun i hi => (G3.out i (by rw [← HOL.out] at hi; exact hi)).alloc _) (HTq.out.alloc _) (by rw [← HOL.out]; exact ho) hg
              rw [← HON.out] at hp
              exact hp
            obtain ⟨no, nc, hnv, _, _⟩ := mat_open (fr_mat0S hRR)
            subst hnv
            have R1 : Hid (Fr wa.heap.size 22 3 w3 (.slice no (endL (C.take (j + 1)) r).length nc) (endL (C.take (j + 1)) r)) := hRR
            have R2 : Hid (Below wa.heap.size wa w3) := (HBq.out.alloc hszq _).grown hg (by simp; omega) (fun x hx => (G2.out.lt x hx).1)
            clear ho hg hRR
            go_wp2
            exact ⟨⟨j + 1, no, nc, hjl, by go_num, rfl, R1.out, R2.out⟩, by simp [intOf]; omega⟩
          · have HON2 : Hid (endL (C.take (j + 1)) r = endL (C.take j) r) := by
              have h := HON.out
              rw [if_neg hzz, List.append_nil] at h
              exact h
            have R0 : Hid (ol = (endL (C.take (j + 1)) r).length) := by
              show _ = _
              rw [HON2.out]; exact HOL.out
            have R1 : Hid (Fr wa.heap.size 22 3 Wq (.slice eo ol ec) (endL (C.take (j + 1)) r)) := by rw [HON2.out]; exact HFq.out
            have tz : (z == 0) = false := by simp [hzz]
            clear HON hzz HON2
            go_wp2
            exact ⟨⟨j + 1, eo, ec, hjl, by go_num, by rw [← R0.out], by rw [← R0.out]; exact R1.out, HBq.out⟩, by simp [intOf]; omega⟩
        · have HTE : Hid (C.take j = C) := List.take_of_length_le (by omega)
          have hMe : Mat 0 22 3 wr (.slice eo (endL C r).length ec) (endL C r) := by
            have h := fr_mat0S HFS.out
            rw [HTE.out] at h
            exact h
          rw [HTE.out]
          have he2 := HE2.out
          obtain ⟨eb, ef, ecp, e0, hse, _, hce0, hse0⟩ := mat_cell hMe (k := 0) (by omega)
          simp only [Value.slice.injEq] at hse
          obtain ⟨rfl, hxx, rfl⟩ := hse
          obtain ⟨eb', ef', ecp', e1, hse', _, hce1, hse1⟩ := mat_cell hMe (k := 1) (by omega)
          simp only [Value.slice.injEq, Option.some.injEq, Addr.mk.injEq, and_true, true_and] at hse'
          obtain ⟨⟨rfl, rfl⟩, rfl⟩ := hse'
          obtain ⟨cb, cf, ccp, c0, hsc, _, hcc0, hsc0⟩ := mat_cell (HC2.out wr HBr.out) (k := 0) (by omega)
          simp only [Value.slice.injEq] at hsc
          obtain ⟨rfl, hxx2, rfl⟩ := hsc
          obtain ⟨xo, xc, hxe, _, _⟩ := sl_open hsc0
          obtain ⟨yo, yc, hye, _, _⟩ := sl_open hse0
          obtain ⟨zo, zc, hze, _, _⟩ := sl_open hse1
          have HX0 : Hid (Sl 0 3 wr c0 (ints (C.getD 0 [])) ∧ Sl 0 3 wr e0 (ints ((endL C r).getD 0 [])) ∧ Sl 0 3 wr e1 (ints ((endL C r).getD 1 []))) := ⟨hsc0, hse0, hse1⟩
          generalize (C.getD 0 []).length = xl at hxe
          generalize ((endL C r).getD 0 []).length = yl at hye
          generalize ((endL C r).getD 1 []).length = zl at hze
          subst hxe hye hze
          have HCS : Hid (∀ X, Below wr.heap.size wr X → X.cell? ⟨cb, cf, none⟩ = some (.slice xo xl xc) ∧ X.cell? ⟨eb, ef, none⟩ = some (.slice yo yl yc) ∧ X.cell? ⟨eb, ef + 1, none⟩ = some (.slice zo zl zc)) := fun X hX => ⟨(hX.cell (lt_of_cell hcc0)).trans hcc0, (hX.cell (lt_of_cell hce0)).trans hce0, (hX.cell (lt_of_cell hce1)).trans hce1⟩
          obtain ⟨el, hel⟩ : ∃ el, el = (endL C r).length := ⟨_, rfl⟩
          rw [← hel] at he2 ⊢
          have hel0 : 0 < el := by omega
          have hel1 : 1 < el := by omega
          have helI : (1 : Int) < (el : Int) := by omega
          have helI0 : (0 : Int) < (el : Int) := by omega
          have hclI : (0 : Int) < (C.length : Int) := by omega
          clear hsc0 hse0 hse1 hcc0 hce0 hce1 hMe hel hxx hxx2 HFS HTE
          go_upto_region 13 with fail
          refine wp_region_held_drew (S := fun w' => w'.cell? ⟨cb, cf, none⟩ = some (.slice xo xl xc) ∧ w'.cell? ⟨eb, ef, none⟩ = some (.slice yo yl yc) ∧ w'.cell? ⟨eb, ef + 1, none⟩ = some (.slice zo zl zc)) (by kernel_rfl) (HCS.out _ ((Below.refl _ _).drew)) (fun hHeld => ?_)
          refine wpAnyH_tk (i := 0) (d := 43) (v := .slice (some ⟨cb, cf, none⟩) C.length cc) rfl rfl (by kernel_rfl) (by kernel_rfl) (by kernel_rfl) (fun _ _ _ h => h) (.inl ⟨by rfl, by (intro wq hSw; (try dsimp only at hSw); go_simp; (try (first | rfl | omega)))⟩) hHeld ?_
          simp only [Act.put, List.setIfInBounds_toArray, List.set_cons_zero, List.set_cons_succ]
          refine wpAnyH_tk (i := 1) (d := 44) (v := .pointer (some ⟨cb, cf, none⟩)) rfl rfl (by kernel_rfl) (by kernel_rfl) (by kernel_rfl) (fun _ _ _ h => h) (.inl ⟨by rfl, by (intro wq hSw; (try dsimp only at hSw); go_simp; (intro hCe; rw [hCe] at hclI; simp at hclI))⟩) hHeld ?_
          simp only [Act.put, List.setIfInBounds_toArray, List.set_cons_zero, List.set_cons_succ]
          refine wpAnyH_tk (i := 2) (d := 45) (v := .slice xo xl xc) rfl rfl (by kernel_rfl) (by kernel_rfl) (by kernel_rfl) (fun _ _ _ h => h) (.inl ⟨by rfl, by (intro wq hSw; (try dsimp only at hSw); go_simp; (try (first | rfl | omega)))⟩) hHeld ?_
          simp only [Act.put, List.setIfInBounds_toArray, List.set_cons_zero, List.set_cons_succ]
          refine wpAnyH_tk (i := 3) (d := 46) (v := .slice (some ⟨eb, ef, none⟩) el ec) rfl rfl (by kernel_rfl) (by kernel_rfl) (by kernel_rfl) (fun _ _ _ h => h) (.inl ⟨by rfl, by (intro wq hSw; (try dsimp only at hSw); go_simp; (try (first | rfl | omega)))⟩) hHeld ?_
          simp only [Act.put, List.setIfInBounds_toArray, List.set_cons_zero, List.set_cons_succ]
          refine wpAnyH_tk (i := 4) (d := 47) (v := .pointer (some ⟨eb, ef, none⟩)) rfl rfl (by kernel_rfl) (by kernel_rfl) (by kernel_rfl) (fun _ _ _ h => h) (.inl ⟨by rfl, by (intro wq hSw; (try dsimp only at hSw); go_simp; (try (first | rfl | omega)))⟩) hHeld ?_
          simp only [Act.put, List.setIfInBounds_toArray, List.set_cons_zero, List.set_cons_succ]
          refine wpAnyH_tk (i := 5) (d := 48) (v := .slice yo yl yc) rfl rfl (by kernel_rfl) (by kernel_rfl) (by kernel_rfl) (fun _ _ _ h => h) (.inl ⟨by rfl, by (intro wq hSw; (try dsimp only at hSw); go_simp; (try (first | rfl | omega)))⟩) hHeld ?_
          simp only [Act.put, List.setIfInBounds_toArray, List.set_cons_zero, List.set_cons_succ]
          refine wpAnyH_tk (i := 6) (d := 49) (v := .slice (some ⟨eb, ef, none⟩) el ec) rfl rfl (by kernel_rfl) (by kernel_rfl) (by kernel_rfl) (fun _ _ _ h => h) (.inl ⟨by rfl, by (intro wq hSw; (try dsimp only at hSw); go_simp; (try (first | rfl | omega)))⟩) hHeld ?_
          simp only [Act.put, List.setIfInBounds_toArray, List.set_cons_zero, List.set_cons_succ]
          refine wpAnyH_tk (i := 7) (d := 50) (v := .pointer (some ⟨eb, ef + 1, none⟩)) rfl rfl (by kernel_rfl) (by kernel_rfl) (by kernel_rfl) (fun _ _ _ h => h) (.inl ⟨by rfl, by (intro wq hSw; (try dsimp only at hSw); go_simp; (try (first | rfl | omega)))⟩) hHeld ?_
          simp only [Act.put, List.setIfInBounds_toArray, List.set_cons_zero, List.set_cons_succ]
          refine wpAnyH_tk (i := 8) (d := 51) (v := .slice zo zl zc) rfl rfl (by kernel_rfl) (by kernel_rfl) (by kernel_rfl) (fun _ _ _ h => h) (.inl ⟨by rfl, by (intro wq hSw; (try dsimp only at hSw); go_simp; (try (first | rfl | omega)))⟩) hHeld ?_
          simp only [Act.put, List.setIfInBounds_toArray, List.set_cons_zero, List.set_cons_succ]
          refine wpAnyH_ready (rs := [9]) (by kernel_rfl) (by simp) ?_
          refine ready_tk (i := 9) rfl (by rfl) (fun K hK => ?_) AllReadyH.nil
          go_simp
          obtain ⟨W9, hW9⟩ : ∃ W9, W9 = (wr.alloc (.cells #[.slice xo xl xc, .slice yo yl yc, .slice zo zl zc] 22)).drew := ⟨_, rfl⟩
          have hb9 : Below wr.heap.size wr W9 := by rw [hW9]; exact (alloc_keep _ _).drew
          have hM9 : Mat 0 22 3 W9 (.slice (some ⟨wr.heap.size, 0, none⟩) 3 3) (m3 C r) := by
            rw [hW9]
            exact (mat_three HX0.out.1 HX0.out.2.1 HX0.out.2.2).below ((Below.refl _ _).drew) (Nat.le_refl _)
          have HK9 := HK4.out W9 _ _ (hM9.more (Nat.zero_le _))
          have HB9 : Hid (Below wr.heap.size wr W9) := hb9
          rw [← hW9]
          clear hM9 hb9 hW9 HK4 HX0
          refine hK.out _ _ (HCS.out _ HB9.out) (fun hHeld => ?_)
          clear hK K
          refine wpAnyH_ready (rs := [10]) (by kernel_rfl) (by simp) ?_
          refine ready_tk (i := 10) rfl (by rfl) (fun K hK => ?_) AllReadyH.nil
          go_simp
          refine HK9.mono ?_
          rintro e wx ⟨do', dl, dc, rfl, hMx, hbx⟩
          have HKD := HK5.out wx _ hMx
          have HBX : Hid (Below wr.heap.size wr wx) := HB9.out.trans (hbx.mono HB9.out.size)
          clear hMx hbx HK9 HK5
          refine hK.out _ _ (HCS.out _ HBX.out) (fun hHeld => ?_)
          clear hK K
          generalize detL (diffL (m3 C r)) = D at *
          refine wpAnyH_ready (rs := [11]) (by kernel_rfl) (by simp) ?_
          refine ready_tk (i := 11) rfl (by rfl) (fun K hK => ?_) AllReadyH.nil
          go_simp
          refine HKD.mono ?_
          rintro e wy ⟨rfl, hby⟩
          have HBY : Hid (Below wr.heap.size wr wy) := HBX.out.trans (hby.mono HBX.out.size)
          clear hby HKD
          refine hK.out _ _ (HCS.out _ HBY.out) (fun hHeld => ?_)
          clear hK K
          refine wpAnyH_tk (i := 12) (d := 9) (v := .int .i64 D) rfl rfl (by kernel_rfl) (by kernel_rfl) (by kernel_rfl) (fun _ _ _ h => h) (.inl ⟨by rfl, by (intro wq hSw; (try dsimp only at hSw); go_simp; (try (first | rfl | omega)))⟩) hHeld ?_
          simp only [Act.put, List.setIfInBounds_toArray, List.set_cons_zero, List.set_cons_succ]
          refine wpAnyH_done (by kernel_rfl) ?_ _
          clear hHeld HCS
          have HBE : Hid (Below w2.heap.size w2 wy) := HBr.out.trans (HBY.out.mono HBr.out.size)
          have HFI : Hid (arS C (s.take (k + 1)) = T + (D.natAbs : Int)) := by
            show _ = _
            rw [HSN.out, HAR.out]
          clear HAR HSN HBY HBX HB9 HBr HBS
          by_cases hD : D < 0
          · have hw1 : IntKind.wrap .i64 (-D) = -D := by rw [IntKind.wrap_i64]; omega
            have hw2 : IntKind.wrap .i64 (T + -D) = T + -D := by rw [IntKind.wrap_i64]; omega
            have HFJ : Hid (T + -D = arS C (s.take (k + 1))) := by
              show _ = _
              rw [HFI.out]
              omega
            go_wp2
            exact ⟨⟨k + 1, hlt, by go_num, by rw [← HFJ.out], HBE.out⟩, by simp [intOf]; omega⟩
          · have hw2 : IntKind.wrap .i64 (T + D) = T + D := by rw [IntKind.wrap_i64]; omega
            have HFJ : Hid (T + D = arS C (s.take (k + 1))) := by
              show _ = _
              rw [HFI.out]
              omega
            go_wp2
            exact ⟨⟨k + 1, hlt, by go_num, by rw [← HFJ.out], HBE.out⟩, by simp [intOf]; omega⟩
    · have HTE : Hid (s.take k = s) := List.take_of_length_le (by omega)
      go_wp2
      go_ret
      exact ⟨s, C, by rw [HTE.out]; rfl, HS.out, HB2.out.trans (HBR.out.mono HB2.out.size)⟩

end Go.Proofs.YtalboihbomaobaaGreat
