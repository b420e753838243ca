import Derived.Test.YtgeajopenkkkaaaGreatRowY
import Derived.Test.YtgeajopenkkkaaaGreatBetC
import Derived.Test.YtgeajopenkkkaaaGreatSu0
/- exact.Sum: two lists, added. -/
namespace Go.Proofs.YtgeajopenkkkaaaGreat
open Go.RowKit
attribute [local go_sem ↓] Go.wp_at_zero Go.wp_at_succ

theorem addL_at {a b : List Int} {k : Nat} (h : k < a.length) : (addL a b).getD k 0 = a.getD k 0 + b.getD k 0 := by simp [addL, h]

set_option maxRecDepth 100000 in
set_option maxHeartbeats 1600000 in
theorem exSum_any (c : Nat) (q1 q0 : List Int) (u v : Value) (w : World) (hu : Sl w.heap.size 3 w u (ints q1)) (hv : Sl w.heap.size 3 w v (ints q0)) (hl1 : q1.length = c) (hl0 : q0.length = c) (hc1 : 1 ≤ c) (hc0 : c ≤ 1000) (hb1 : ∀ z ∈ q1, z.natAbs ≤ 1000000) (hb0 : ∀ z ∈ q0, z.natAbs ≤ 1000000) :
    Calls Tryz.prog 44 #[u, v] w fun e w' => ∃ g sc, e = .returned (.slice (some ⟨g, 0, none⟩) c sc) ∧ w'.ownsRow w.heap.size 3 1 (.slice (some ⟨g, 0, none⟩) c sc) c (ints (addL q1 q0)) ∧ Below w.heap.size w w' := by
  obtain ⟨rko, rkc, hrkv, _, _⟩ := sl_open hu
  subst hrkv
  have HRK : Hid (Sl w.heap.size 3 w (.slice rko q1.length rkc) (ints q1)) := hu
  have HR0 : Hid (Sl w.heap.size 3 w v (ints q0)) := hv
  have HL1 : Hid (q1.length = c) := hl1
  have HL0 : Hid (q0.length = c) := hl0
  have HB1 : Hid (∀ z ∈ q1, z.natAbs ≤ 1000000) := hb1
  have HB0 : Hid (∀ z ∈ q0, z.natAbs ≤ 1000000) := hb0
  clear hu hv hl1 hl0 hb1 hb0
  go_enter Tryz.func44, Tryz.ntmps44
  go_wp2_with fail
  refine (clone_any w.heap.size q1 _ w HRK.out (by have := HL1.out; omega)).mono ?_
  rintro e w2 ⟨u, rfl, ho2, hb2⟩
  rw [HL1.out] at ho2
  obtain ⟨g, uc, hue⟩ := own_some ho2 (by omega)
  subst hue
  obtain ⟨M, hM⟩ : ∃ M, M = w.heap.size := ⟨_, rfl⟩
  have HM : Hid (M = w.heap.size) := hM
  have hgM : M ≤ g := by rw [hM]; exact (ho2.lt g (by simp [Value.ownBlock])).1
  have hgs : g < w2.heap.size := (ho2.lt g (by simp [Value.ownBlock])).2
  have HO2 : Hid (w2.ownsRow M 3 1 (.slice (some ⟨g, 0, none⟩) c uc) c (ints q1)) := by rw [hM]; exact ho2
  have HB2 : Hid (Below M w w2) := by rw [hM]; exact hb2
  have huc : c ≤ uc ∧ uc ≤ 9223372036854775807 := by
    obtain ⟨_, h2⟩ := ho2
    rcases h2 with ⟨h, _⟩ | ⟨k, cp, cur, h, _, _, h3, h4, _⟩
    · simp at h
    · simp only [Value.slice.injEq] at h; unfold maxLen at h4; omega
  have HR0w : Hid (Sl w.heap.size 3 w2 v (ints q0)) := HR0.out.below hb2 (Nat.le_refl _)
  obtain ⟨q0o, q0c, hq0v, hq0l, hq0m⟩ := sl_open HR0.out
  have hl0 := HL0.out
  rw [hl0] at hq0v hq0l
  subst hq0v
  clear ho2 hb2 hM hl0
  go_wp2
  go_loopw [11] (fun i wq => ∃ j : Nat, j ≤ c ∧ i = .int .i64 j ∧ wq.ownsRow M 3 1 (.slice (some ⟨g, 0, none⟩) c uc) c (ints ((addL q1 q0).take j ++ q1.drop j)) ∧ Touch g w2 wq) (fun i _ => c - (intOf i).toNat)
  case atStart =>
    refine ⟨0, Nat.zero_le _, rfl, ?_, Touch.refl _ _⟩
    rw [List.take_zero, List.drop_zero, List.nil_append]; exact HO2.out
  case round =>
    obtain ⟨j, hj, rfl, hown, ht⟩ := hrel
    have HO : Hid (wr.ownsRow M 3 1 (.slice (some ⟨g, 0, none⟩) c uc) c (ints ((addL q1 q0).take j ++ q1.drop j))) := hown
    have HT : Hid (Touch g w2 wr) := ht
    have HLE : Hid (q1.length = (addL q1 q0).length) := (addL_length _ _).symm
    by_cases hjl : j < c
    · have hj1 : j < q1.length := by have := HL1.out; omega
      have hcj : wr.cell? ⟨g, j, none⟩ = some (.int .i64 (q1.getD j 0)) := by
        rw [hown.cellAt j (by omega), ints_get _ _ (by simp [addL_length]; omega), mix_at HLE.out hj1]
      obtain ⟨b3, o3, cp3, hs3, _, hcc3⟩ := sl_cell HR0w.out (k := j) (by have := HL0.out; omega)
      simp only [Value.slice.injEq] at hs3
      obtain ⟨rfl, _, rfl⟩ := hs3
      have hb3 : b3 ≠ g := by
        obtain ⟨b4, o4, cp4, hs4, _, hcc4⟩ := sl_cell HR0.out (k := j) (by have := HL0.out; omega)
        simp only [Value.slice.injEq, Option.some.injEq, Addr.mk.injEq, and_true] at hs4
        have := lt_of_cell hcc4
        have := HM.out
        omega
      have hcc3' : wr.cell? ⟨b3, o3 + j, none⟩ = some (.int .i64 (q0.getD j 0)) := (ht.cell hb3).trans hcc3
      have hfz := hown.frozenAt j
      have HST : Hid (ints ((addL q1 q0).take (j + 1) ++ q1.drop (j + 1)) = (ints ((addL q1 q0).take j ++ q1.drop j)).set j (.int .i64 (q1.getD j 0 + q0.getD j 0))) := by
        show _ = _
        rw [set_mix HLE.out hj1, addL_at hj1]
      have h1b : (q1.getD j 0).natAbs ≤ 1000000 := HB1.out _ (by simp [hj1])
      have h0b : (q0.getD j 0).natAbs ≤ 1000000 := HB0.out _ (by simp [show j < q0.length by have := HL0.out; omega])
      generalize q1.getD j 0 = x1 at *
      generalize q0.getD j 0 = x0 at *
      clear hown ht hcc3 hj1
      have hjI0 : (0 : Int) ≤ (j : Int) := by omega
      have hjI1 : (j : Int) < (c : Int) := by omega
      have h1b1 : -1000000 ≤ x1 := by omega
      have h1b2 : x1 ≤ 1000000 := by omega
      have h0b1 : -1000000 ≤ x0 := by omega
      have h0b2 : x0 ≤ 1000000 := by omega
      clear h1b h0b
      go_wp2
      go_region
      go_wp2
      go_roundw
      case rel =>
        refine ⟨j + 1, by omega, by go_num, ?_, (HT.out.setCell j _).drew⟩
        rw [HST.out]
        exact (HO.out.stored j _).1.drew
      case measure => simp [intOf]; omega
    · have HX : Hid (wr.ownsRow M 3 1 (.slice (some ⟨g, 0, none⟩) c uc) c (ints (addL q1 q0))) := by
        have h := HO.out
        rw [mix_end HLE.out (by have := HL1.out; omega)] at h
        exact h
      have HBw : Hid (Below M w wr) := HT.out.below HB2.out hgM
      clear HO hown ht
      go_wp2
      go_ret
      exact ⟨g, uc, rfl, by rw [← HM.out]; exact HX.out, by rw [← HM.out]; exact HBw.out⟩

end Go.Proofs.YtgeajopenkkkaaaGreat

/- sum.sums: each of the first with each of the second, added. -/
namespace Go.Proofs.YtgeajopenkkkaaaGreat
open Go.RowKit
attribute [local go_sem ↓] Go.wp_at_zero Go.wp_at_succ

theorem box_abs {d M : Nat} {P : List (List Int)} (h : Box d M P) (hM : M ≤ 1000) {r : List Int} (hr : r ∈ P) : ∀ z ∈ r, z.natAbs ≤ 1000000 := fun z hz => by
  have := (h r hr).2 z hz
  omega

set_option maxRecDepth 100000 in
set_option maxHeartbeats 1600000 in
theorem sums_any (d M : Nat) (P Q : List (List Int)) (u v : Value) (w : World) (hu : Mat w.heap.size 22 3 w u P) (hv : Mat w.heap.size 22 3 w v Q) (hd1 : 1 ≤ d) (hd : d ≤ 100) (hP : Box d M P) (hQ : Box d M Q) (hM : M ≤ 1000) (hp : P.length ≤ 1000) (hq : Q.length ≤ 1000) :
    Calls Tryz.prog 26 #[u, v] w fun e w' => ∃ x, e = .returned x ∧ Rws w.heap.size 22 3 w' x (sumP P Q) ∧ Below w.heap.size w w' := by
  obtain ⟨i0, hi, hz0, hz1, hz2⟩ := info_parts Tryz.info22
  obtain ⟨po, pc, rfl, _, _⟩ := mat_open hu
  obtain ⟨qo, qc, rfl, _, _⟩ := mat_open hv
  have HU : Hid (Mat w.heap.size 22 3 w (.slice po P.length pc) P) := hu
  have HV : Hid (Mat w.heap.size 22 3 w (.slice qo Q.length qc) Q) := hv
  have HP : Hid (Box d M P) := hP
  have HQ : Hid (Box d M Q) := hQ
  clear hu hv hP hQ
  go_enter Tryz.func26, Tryz.ntmps26
  go_wp2
  go_loopw [5, 12] (fun x i wr => ∃ k : Nat, k ≤ P.length ∧ i = .int .i64 k ∧ Rws w.heap.size 22 3 wr x (sumP (P.take k) Q) ∧ Below w.heap.size w wr) (fun _ i _ => P.length - (intOf i).toNat)
  case atStart => exact ⟨0, Nat.zero_le _, rfl, Rws.nil _ _ _ _, Below.refl _ _⟩
  case round =>
    obtain ⟨k, hk, rfl, hrw, hbel⟩ := hrel
    obtain ⟨wa, hwa⟩ : ∃ wa, wa = wr := ⟨wr, rfl⟩
    rw [← hwa] at hrw hbel ⊢
    clear hwa wr
    have HR : Hid (Rws w.heap.size 22 3 wa u5 (sumP (P.take k) Q)) := hrw
    have HB : Hid (Below w.heap.size w wa) := hbel
    clear hrw hbel
    by_cases hlt : k < P.length
    · obtain ⟨pb, pf, cp2, rk, hs, hck, hcck, hrk⟩ := mat_cell HU.out hlt
      simp only [Value.slice.injEq] at hs
      obtain ⟨rfl, hxx, rfl⟩ := hs
      clear hxx
      have hmem : P.getD k [] ∈ P := by simp [hlt]
      have HL1 : Hid ((P.getD k []).length = d) := (HP.out _ hmem).1
      have HB1 : Hid (∀ z ∈ P.getD k [], z.natAbs ≤ 1000000) := box_abs HP.out hM hmem
      have HRK : Hid (Sl w.heap.size 3 w rk (ints (P.getD k []))) := hrk
      have hcka : wa.cell? ⟨pb, pf + k, none⟩ = some rk := (HB.out.cell (lt_of_cell hcck)).trans hcck
      have HSN : Hid (sumP (P.take (k + 1)) Q = sumP (P.take k) Q ++ Q.map fun y => addL (P.getD k []) y) := sumP_snoc hlt
      have HLS : Hid ((sumP (P.take k) Q).length ≤ 1000000) := by
        show _ ≤ _
        rw [sumP_len, List.length_take]
        exact Nat.mul_le_mul (show min k P.length ≤ 1000 by omega) hq
      clear hrk hmem hcck
      generalize P.getD k [] = x at *
      have hkI : (k : Int) < (P.length : Int) := by omega
      go_wp2
      go_loopw [5, 18] (fun y i wq => ∃ j : Nat, j ≤ Q.length ∧ i = .int .i64 j ∧ Rws w.heap.size 22 3 wq y (sumP (P.take k) Q ++ (Q.take j).map fun y => addL x y) ∧ Below w.heap.size w wq) (fun _ i _ => Q.length - (intOf i).toNat)
      case atStart => exact ⟨0, Nat.zero_le _, rfl, by simpa using HR.out, HB.out⟩
      case round =>
        obtain ⟨j, hj, rfl, hrw, hbel⟩ := hrel
        have HRJ : Hid (Rws w.heap.size 22 3 wr u5 (sumP (P.take k) Q ++ (Q.take j).map fun y => addL x y)) := hrw
        have HBw : Hid (Below w.heap.size w wr) := hbel
        clear hrw hbel
        by_cases hjl : j < Q.length
        · obtain ⟨qb, qf, cp3, sk, hs, hcj, hccj, hsk⟩ := mat_cell (HV.out.below HBw.out (Nat.le_refl _)) hjl
          simp only [Value.slice.injEq] at hs
          obtain ⟨rfl, hxx, rfl⟩ := hs
          clear hxx
          have hmem : Q.getD j [] ∈ Q := by simp [hjl]
          have HES : Hid (Calls Tryz.prog 44 #[rk, sk] wr fun e w' => ∃ g sc, e = .returned (.slice (some ⟨g, 0, none⟩) d sc) ∧ w'.ownsRow wr.heap.size 3 1 (.slice (some ⟨g, 0, none⟩) d sc) d (ints (addL x (Q.getD j []))) ∧ Below wr.heap.size wr w') :=
            exSum_any d x (Q.getD j []) rk sk wr ((HRK.out.below HBw.out (Nat.le_refl _)).any (Nat.le_refl _)) (hsk.any (Nat.le_refl _)) HL1.out (HQ.out _ hmem).1 hd1 (by omega) HB1.out (box_abs HQ.out hM hmem)
          have HSJ : Hid ((Q.take (j + 1)).map (fun y => addL x y) = (Q.take j).map (fun y => addL x y) ++ [addL x (Q.getD j [])]) := map_snocS hjl
          have HLN : Hid ((sumP (P.take k) Q ++ (Q.take j).map fun y => addL x y).length ≤ 1001000) := by
            show _ ≤ _
            have := HLS.out
            rw [List.length_append, List.length_map, List.length_take]
            omega
          have hjI : (j : Int) < (Q.length : Int) := by omega
          clear hsk hmem
          generalize Q.getD j [] = y at *
          go_wp2_with fail
          refine HES.out.mono ?_
          rintro e w2 ⟨g, sc, rfl, ho, hb2⟩
          have HX : Hid (Sl w.heap.size 3 w2 (.slice (some ⟨g, 0, none⟩) d sc) (ints (addL x y))) := Sl.own ho
          have HB2 : Hid (Below w.heap.size w w2) := HBw.out.trans (hb2.mono HBw.out.size)
          have HR2 : Hid (Rws w.heap.size 22 3 w2 u5 (sumP (P.take k) Q ++ (Q.take j).map fun y => addL x y)) := HRJ.out.below hb2 (Nat.le_refl _)
          clear ho hb2 HES hccj HRJ
          obtain ⟨vs, g1, g2, g3⟩ := HR2.out
          obtain ⟨ol, hol⟩ : ∃ ol, ol = (sumP (P.take k) Q ++ (Q.take j).map fun y => addL x y).length := ⟨_, rfl⟩
          rw [← hol] at g1 g2 g3 HLN
          have HOL : Hid (ol = (sumP (P.take k) Q ++ (Q.take j).map fun y => addL x y).length) := hol
          have G1 : Hid (vs.length = ol) := g1
          have G2 : Hid (w2.ownsRow w.heap.size 22 1 u5 ol vs) := g2
          have G3 : Hid (∀ i, i < ol → Sl w.heap.size 3 w2 (vs.getD i (.slice none 0 0)) (ints ((sumP (P.take k) Q ++ (Q.take j).map fun y => addL x y).getD i []))) := g3
          have hol2 : ol ≤ 1001000 := HLN.out
          have hsz2 : w.heap.size ≤ w2.heap.size := HB2.out.size
          clear g1 g2 g3 hol
          go_wp2_with (first | (at_builtin; refine wpList_append_own _ rfl _ _ 25 rfl w.heap.size 22 i0 (.slice none 0 0) 1 24 Tryz.underlying25 hi hz0 hz1 hz2 rfl (by decide) _ _ _ rfl (G2.out.alloc _) ⟨w2.heap.size, 0, none⟩ 1 1 [.slice (some ⟨g, 0, none⟩) d sc] rfl rfl (one_new _ _ _) (one_slice _ _ _) ?d3 ?d4 ?d5 ?_))
          case d3 => unfold maxLen; omega
          case d4 => omega
          case d5 => first | exact hsz2 | omega | (simp; omega)
          intro v' w3 ho hg _
          have R1 : Hid (Rws w.heap.size 22 3 w3 v' (sumP (P.take k) Q ++ (Q.take (j + 1)).map fun y => addL x y)) := by
            have hp := Rws.push (e2 := 22) (e1 := 3) (m := sumP (P.take k) Q ++ (Q.take j).map fun y => addL x y) (u := .slice (some ⟨g, 0, none⟩) d sc) (zs := addL x y) (by decide) (by rw [← HOL.out]; exact G1.out) (by rw [← HOL.out]; exact G2.out.alloc _)
              (fun i hi => (G3.out i (by rw [← HOL.out] at hi; exact hi)).alloc _) (HX.out.alloc _) (by rw [← HOL.out]; exact ho) hg
            rw [List.append_assoc, ← HSJ.out] at hp
            exact hp
          have R2 : Hid (Below w.heap.size w w3) := (HB2.out.alloc hsz2 _).grown hg (by simp; omega) (fun x hx => (G2.out.lt x hx).1)
          clear ho hg
          go_wp2
          go_roundw
          case rel => exact ⟨j + 1, by omega, by go_num, R1.out, R2.out⟩
          case measure => simp [intOf]; omega
        · have hje : Q.take j = Q := List.take_of_length_le (by omega)
          have R1 : Hid (Rws w.heap.size 22 3 wr u5 (sumP (P.take (k + 1)) Q)) := by
            have h := HRJ.out
            rw [hje] at h
            rw [HSN.out]
            exact h
          clear hje HRJ
          go_wp2
          go_roundw
          case rel => exact ⟨k + 1, by omega, by go_num, R1.out, HBw.out⟩
          case measure => simp [intOf]; omega
    · have HE : Hid (P.take k = P) := List.take_of_length_le (by omega)
      go_wp2
      go_ret
      exact ⟨_, rfl, by have h := HR.out; rw [HE.out] at h; exact h, HB.out⟩

end Go.Proofs.YtgeajopenkkkaaaGreat
