/- facetref.RootsFrom: the square of some name, in some order. -/
import Derived.Test.YtkgljfnbaoncbaaWm3
namespace Go.Proofs.Ytkgljfnbaoncbaa
open Go.RowKit
attribute [local go_sem ↓] Go.wp_at_zero Go.wp_at_succ

set_option maxRecDepth 100000 in
theorem nm_rank : ∀ ps ∈ nmL, 1 ≤ (mkL ps).length ∧ (mkL ps).length ≤ 4 := by decide +kernel

theorem pm_take {o : List Int} {c : List (List Int)} {i : Nat} (hi : i < c.length) : (pmM o c).take (i + 1) = (pmM o c).take i ++ [(List.range c.length).map fun k => cE c (o.getD i 0).toNat (o.getD k 0).toNat] := by
  have hl : i < (pmM o c).length := by simp [pmM]; exact hi
  rw [List.take_succ_eq_append_getElem hl]
  simp [pmM]

set_option maxRecDepth 100000 in
set_option maxHeartbeats 6400000 in
theorem rootsFrom_any (r t : Int) (most : Nat) (w : World) (hr : In64 r) (ht : In64 t) (h1 : 1 ≤ most) (h4 : most ≤ 4) :
    Calls Try.prog 21 #[.int .i64 r, .int .i64 most, .int .i64 t] w fun e w' => ∃ x ps o, e = .returned x ∧ (ps ∈ nmL ∧ o ∈ ords (mkL ps).length (mkL ps).length []) ∧ Fr w.heap.size 26 3 w' x (pmM o (mkL ps)) ∧ Below w.heap.size w w' := by
  obtain ⟨i0, hi0, hz0, hz1, hz2⟩ := info_parts Try.info26
  obtain ⟨i3, hi3, hz30, hz31, hz32⟩ := info_parts Try.info3
  have HNF := nameFrom_any r most w hr h4
  have HTT : Hid (In64 t) := ht
  clear hr ht
  go_enter Try.func21, Try.ntmps21
  go_wp2_with fail
  refine HNF.mono ?_
  rintro e w1 ⟨ps, rfl, ⟨hp0, hp3, hpk, hps⟩, hb1⟩
  have hsum := hps h1
  have HNM : Hid (ps ∈ nmL) := mem_nm hp0 hp3 hpk (by omega)
  have HMK := makeOf_any ps w1 hp0 hp3 hpk (by omega)
  have HB1 : Hid (Below w.heap.size w w1) := hb1
  obtain ⟨hn1, hn4⟩ := nm_rank ps HNM.out
  clear HNF hp0 hp3 hpk hps hsum hb1
  go_wp2_with fail
  refine HMK.mono ?_
  rintro e w2 ⟨x, g, c, rfl, hom, hb2⟩
  have HPP : Hid (∀ (x : Value) (o : List Int) (W : World), o ∈ ords (mkL ps).length (mkL ps).length [] → Fr w.heap.size 26 3 W x (pmM o (mkL ps)) → Below w.heap.size w W → ∃ x' ps' o', Ending.returned x = Ending.returned x' ∧ (ps' ∈ nmL ∧ o' ∈ ords (mkL ps').length (mkL ps').length []) ∧ Fr w.heap.size 26 3 W x' (pmM o' (mkL ps')) ∧ Below w.heap.size w W) := fun x o W a b d => ⟨x, ps, o, rfl, ⟨HNM.out, a⟩, b, d⟩
  have HB2 : Hid (Below w.heap.size w w2) := HB1.out.trans (hb2.mono HB1.out.size)
  have HOM : Hid (OM w1.heap.size g c (mkL ps).length (mkL ps).length w2 x (mkL ps)) := hom
  obtain ⟨G, xc, hxv, _, _, _, _⟩ := hom.form hn1
  subst hxv
  clear hom hb2 HMK HNM
  generalize mkL ps = C at *
  generalize hn : C.length = n at *
  have HCN : Hid (C.length = n) := hn
  clear hn
  have HCO : Hid (Calls Try.prog 38 #[.int .i64 n, .slice none 0 0] w2 fun e w' => ∃ x, e = .returned x ∧ FrN w2.heap.size w' x (ords n n []) ∧ Below w2.heap.size w2 w') :=
    ordN_any n (by omega) n (by omega) [] _ w2 ⟨by simp, by simp⟩ (by simp) (Sl.nil _ _ _)
  have HOI : Hid (∀ o ∈ ords n n [], Od n o) := fun o ho => by
    have := ords_is n [] o ⟨by simp, by simp⟩ ho
    exact ord_od this.1 (by simpa using this.2)
  have HLN : Hid ((ords n n []).length ≤ 46656) := Nat.le_trans (ords_len (by omega) _ _) (Nat.le_trans (Nat.pow_le_pow_right (by decide) (show n ≤ 6 by omega)) (by decide))
  have HNE := ords_ne n [] ⟨by simp, by simp⟩ (by simp : [].length + n = n)
  generalize ords n n [] = os at *
  have hos := HLN.out
  have hos1 : 1 ≤ os.length := by
    cases os with
    | nil => exact absurd rfl HNE
    | cons a l => simp
  clear HNE
  go_wp2_with fail
  refine HCO.out.mono ?_
  rintro e w3 ⟨ov, rfl, hfr, hb3⟩
  have HB3 : Hid (Below w.heap.size w w3) := HB2.out.trans (hb3.mono HB2.out.size)
  have HOM3 : Hid (OM w1.heap.size g c n n w3 (.slice (some ⟨G, 0, none⟩) n xc) C) := HOM.out.below hb3 (Nat.le_refl _)
  obtain ⟨ws, f1, f2, f3⟩ := hfr.fr
  have hmat : Mat 0 26 3 w3 ov os := ⟨ws, f1, Sl.own f2, f3⟩
  obtain ⟨oo, oc, hov⟩ := owns_form f2
  subst hov
  have HMT : Hid (Mat 0 26 3 w3 (.slice oo os.length oc) os) := hmat
  have HPK := pick_any t os.length w3 (by omega) (by omega) HTT.out
  clear hfr f1 f2 f3 hmat hb3 HCO HOM
  go_wp2_with fail
  refine HPK.mono ?_
  rintro e w4 ⟨q, rfl, ⟨hq0, hq1⟩, rfl⟩
  obtain ⟨q, rfl⟩ : ∃ k : Nat, q = (k : Int) := ⟨q.toNat, by omega⟩
  have hql : q < os.length := by omega
  obtain ⟨b1, o1, cp1, pv, hs1, _, hc1, hp1⟩ := mat_cell HMT.out hql
  simp only [Value.slice.injEq, true_and] at hs1
  obtain ⟨rfl, rfl⟩ := hs1
  have HOM' : Hid (os.getD q [] ∈ os) := by show _ ∈ _; simp [hql]
  have hod := HOI.out _ HOM'.out
  generalize hoq : os.getD q [] = o at *
  clear hoq
  have HOL : Hid (Od n o) := hod
  obtain ⟨b2, o2, cp2, hs2, _, _⟩ := sl_cell hp1 (k := 0) (by rw [hod.len]; omega)
  rw [hod.len] at hs2
  subst hs2
  have HPC : Hid (∀ j, j < n → w4.cell? ⟨b2, o2 + j, none⟩ = some (.int .i64 (o.getD j 0))) := fun j hj => by
    obtain ⟨b4, o4, cp4, hs4, _, h4⟩ := sl_cell hp1 (k := j) (by rw [hod.len]; omega)
    simp only [Value.slice.injEq, Option.some.injEq, Addr.mk.injEq, and_true] at hs4
    obtain ⟨⟨rfl, rfl⟩, _⟩ := hs4
    exact h4
  clear HPK HMT hp1 hod HOI
  go_wp2
  go_loopw [11, 12, 13, 14] (fun xv iv _ _ wr => ∃ i : Nat, i ≤ n ∧ iv = .int .i64 i ∧ Fr w4.heap.size 26 3 wr xv ((pmM o C).take i) ∧ Below w4.heap.size w4 wr) (fun _ iv _ _ _ => n - (intOf iv).toNat)
  case atStart => exact ⟨0, Nat.zero_le _, rfl, Fr.nil _ _ _ _, Below.refl _ _⟩
  case round =>
    obtain ⟨i, hi, rfl, hfr, hbr⟩ := hrel
    obtain ⟨wa, rfl⟩ : ∃ wa, wa = wr := ⟨wr, rfl⟩
    have HFR : Hid (Fr w4.heap.size 26 3 wa u11 ((pmM o C).take i)) := hfr
    have HBR : Hid (Below w4.heap.size w4 wa) := hbr
    have hpl : (pmM o C).length = n := by simp [pmM, HCN.out]
    have hti : ((pmM o C).take i).length = i := by rw [List.length_take, hpl]; omega
    have HTI : Hid (((pmM o C).take i).length = i) := hti
    obtain ⟨xo, xc2, hx⟩ : ∃ xo xc, u11 = .slice xo i xc := by
      obtain ⟨vs, g1, g2, g3⟩ := hfr
      obtain ⟨a, b, h⟩ := owns_form g2
      exact ⟨a, b, by rw [hti] at h; exact h⟩
    subst hx
    have hsa : w4.heap.size ≤ wa.heap.size := hbr.size
    clear hfr hbr hti
    by_cases hlt : i < n
    · obtain ⟨pi, hpi, hpin⟩ := HOL.out.rng i hlt
      have hci := HPC.out i hlt
      rw [hpi] at hci
      have hcg : w4.cell? ⟨G, pi, none⟩ = some (.slice (some ⟨g pi, 0, none⟩) n (c pi)) := HOM3.out.cellG hpin
      have HPT : Hid ((pmM o C).take (i + 1) = (pmM o C).take i ++ [(List.range n).map fun k => cE C pi (o.getD k 0).toNat]) := by
        have h := pm_take (o := o) (c := C) (i := i) (by rw [HCN.out]; exact hlt)
        rw [hpi] at h
        rw [HCN.out] at h
        exact h
      have HCI : Hid (∀ W, Below w4.heap.size w4 W → W.cell? ⟨b2, o2 + i, none⟩ = some (.int .i64 (pi : Int)) ∧ W.cell? ⟨G, pi, none⟩ = some (.slice (some ⟨g pi, 0, none⟩) n (c pi))) := fun W h => ⟨(h.cell (lt_of_cell hci)).trans hci, (h.cell (lt_of_cell hcg)).trans hcg⟩
      clear hci hcg hpi
      go_wp2
      go_loopw [13, 14] (fun rv kv wr => ∃ k : Nat, k ≤ n ∧ kv = .int .i64 k ∧ wr.ownsRow wa.heap.size 3 1 rv k (ints ((List.range k).map fun k => cE C pi (o.getD k 0).toNat)) ∧ Below wa.heap.size wa wr) (fun _ kv _ => n - (intOf kv).toNat)
      case atStart => exact ⟨0, Nat.zero_le _, rfl, World.ownsRow_nil _ _ _ _, Below.refl _ _⟩
      case round =>
        obtain ⟨k, hk, rfl, ho, hb⟩ := hrel
        obtain ⟨ro, rc, hrv⟩ := owns_form ho
        subst hrv
        have HO : Hid (wr.ownsRow wa.heap.size 3 1 (.slice ro k rc) k (ints ((List.range k).map fun k => cE C pi (o.getD k 0).toNat))) := ho
        have HB : Hid (Below wa.heap.size wa wr) := hb
        have HBX : Hid (Below w4.heap.size w4 wr) := HBR.out.trans (hb.mono hsa)
        have hsw : wa.heap.size ≤ wr.heap.size := hb.size
        clear ho hb
        by_cases hltk : k < n
        · obtain ⟨pk, hpk, hpkn⟩ := HOL.out.rng k hltk
          have hck := HPC.out k hltk
          rw [hpk] at hck
          have hent := (HOM3.out.ent hpin hpkn).1
          obtain ⟨E, hE⟩ : ∃ E, E = cE C pi pk := ⟨_, rfl⟩
          have hE2 : ent C pi pk = E := by rw [hE]; rfl
          rw [hE2] at hent
          have HNX : Hid (((List.range (k + 1)).map fun k => cE C pi (o.getD k 0).toNat) = ((List.range k).map fun k => cE C pi (o.getD k 0).toNat) ++ [E]) := by
            show _ = _
            rw [List.range_succ, List.map_append, List.map_singleton, hpk, hE]
            rfl
          have HST : Hid (∀ W, Below w4.heap.size w4 W → (W.cell? ⟨b2, o2 + i, none⟩ = some (.int .i64 (pi : Int)) ∧ W.cell? ⟨G, pi, none⟩ = some (.slice (some ⟨g pi, 0, none⟩) n (c pi))) ∧ W.cell? ⟨b2, o2 + k, none⟩ = some (.int .i64 (pk : Int)) ∧ W.cell? ⟨g pi, pk, none⟩ = some (.int .i64 E)) := fun W h => ⟨HCI.out W h, (h.cell (lt_of_cell hck)).trans hck, (h.cell (lt_of_cell hent)).trans hent⟩
          have hLl : ((List.range k).map fun k => cE C pi (o.getD k 0).toNat).length = k := by simp
          generalize hL : ((List.range k).map fun k => cE C pi (o.getD k 0).toNat) = L at *
          clear hL hck hent hE hE2 hpk
          have HLL : Hid (L.length = k) := hLl
          have HOL2 : Hid (wr.drew.ownsRow wa.heap.size 3 1 (.slice ro k rc) L.length (ints L)) := by rw [HLL.out]; exact ⟨HO.out.1, HO.out.2⟩
          have HBD : Hid (Below wa.heap.size wa wr.drew) := ⟨HB.out.os, HB.out.tape, HB.out.output, HB.out.size, HB.out.block⟩
          have HBX2 : Hid (Below w4.heap.size w4 wr.drew) := ⟨HBX.out.os, HBX.out.tape, HBX.out.output, HBX.out.size, HBX.out.block⟩
          clear hLl
          go_wp2
          refine wp_region_held_drew (S := fun W => (W.cell? ⟨b2, o2 + i, none⟩ = some (.int .i64 (pi : Int)) ∧ W.cell? ⟨G, pi, none⟩ = some (.slice (some ⟨g pi, 0, none⟩) n (c pi))) ∧ W.cell? ⟨b2, o2 + k, none⟩ = some (.int .i64 (pk : Int)) ∧ W.cell? ⟨g pi, pk, none⟩ = some (.int .i64 E)) (by kernel_rfl) (HST.out _ HBX2.out) (fun hHeld => ?_)
          refine wpAnyH_tk (i := 0) (d := 44) (v := (.slice ro k rc)) rfl rfl (by kernel_rfl) (by kernel_rfl) (by kernel_rfl) (fun _ _ _ h => h) (.inl ⟨by rfl, by (intro wq hSw; (try dsimp only at hSw); go_simp; (try (first | rfl | omega)))⟩) hHeld ?_
          simp only [Act.put, List.setIfInBounds_toArray, List.set_cons_zero, List.set_cons_succ]
          refine wpAnyH_tk (i := 1) (d := 45) (v := (.slice (some ⟨G, 0, none⟩) n xc)) rfl rfl (by kernel_rfl) (by kernel_rfl) (by kernel_rfl) (fun _ _ _ h => h) (.inl ⟨by rfl, by (intro wq hSw; (try dsimp only at hSw); go_simp; (try (first | rfl | omega)))⟩) hHeld ?_
          simp only [Act.put, List.setIfInBounds_toArray, List.set_cons_zero, List.set_cons_succ]
          refine wpAnyH_tk (i := 2) (d := 46) (v := (.slice (some ⟨b2, o2, none⟩) n cp2)) rfl rfl (by kernel_rfl) (by kernel_rfl) (by kernel_rfl) (fun _ _ _ h => h) (.inl ⟨by rfl, by (intro wq hSw; (try dsimp only at hSw); go_simp; (try (first | rfl | omega)))⟩) hHeld ?_
          simp only [Act.put, List.setIfInBounds_toArray, List.set_cons_zero, List.set_cons_succ]
          refine wpAnyH_tk (i := 3) (d := 47) (v := (.int .i64 i)) rfl rfl (by kernel_rfl) (by kernel_rfl) (by kernel_rfl) (fun _ _ _ h => h) (.inl ⟨by rfl, by (intro wq hSw; (try dsimp only at hSw); go_simp; (try (first | rfl | omega)))⟩) hHeld ?_
          simp only [Act.put, List.setIfInBounds_toArray, List.set_cons_zero, List.set_cons_succ]
          refine wpAnyH_tk (i := 4) (d := 48) (v := (.pointer (some ⟨b2, o2 + i, none⟩))) rfl rfl (by kernel_rfl) (by kernel_rfl) (by kernel_rfl) (fun _ _ _ h => h) (.inl ⟨by rfl, by (intro wq hSw; (try dsimp only at hSw); go_simp; (try (first | rfl | omega)))⟩) hHeld ?_
          simp only [Act.put, List.setIfInBounds_toArray, List.set_cons_zero, List.set_cons_succ]
          refine wpAnyH_tk (i := 5) (d := 49) (v := (.int .i64 pi)) rfl rfl (by kernel_rfl) (by kernel_rfl) (by kernel_rfl) (fun _ _ _ h => h) (.inl ⟨by rfl, by (intro wq hSw; (try dsimp only at hSw); go_simp; (try (first | rfl | omega)))⟩) hHeld ?_
          simp only [Act.put, List.setIfInBounds_toArray, List.set_cons_zero, List.set_cons_succ]
          refine wpAnyH_tk (i := 6) (d := 50) (v := (.pointer (some ⟨G, pi, none⟩))) rfl rfl (by kernel_rfl) (by kernel_rfl) (by kernel_rfl) (fun _ _ _ h => h) (.inl ⟨by rfl, by (intro wq hSw; (try dsimp only at hSw); go_simp; (try (first | rfl | omega)))⟩) hHeld ?_
          simp only [Act.put, List.setIfInBounds_toArray, List.set_cons_zero, List.set_cons_succ]
          refine wpAnyH_tk (i := 7) (d := 51) (v := (.slice (some ⟨g pi, 0, none⟩) n (c pi))) rfl rfl (by kernel_rfl) (by kernel_rfl) (by kernel_rfl) (fun _ _ _ h => h) (.inl ⟨by rfl, by (intro wq hSw; (try dsimp only at hSw); go_simp; (try (first | rfl | omega)))⟩) hHeld ?_
          simp only [Act.put, List.setIfInBounds_toArray, List.set_cons_zero, List.set_cons_succ]
          refine wpAnyH_tk (i := 8) (d := 52) (v := (.slice (some ⟨b2, o2, none⟩) n cp2)) rfl rfl (by kernel_rfl) (by kernel_rfl) (by kernel_rfl) (fun _ _ _ h => h) (.inl ⟨by rfl, by (intro wq hSw; (try dsimp only at hSw); go_simp; (try (first | rfl | omega)))⟩) hHeld ?_
          simp only [Act.put, List.setIfInBounds_toArray, List.set_cons_zero, List.set_cons_succ]
          refine wpAnyH_tk (i := 9) (d := 53) (v := (.int .i64 k)) rfl rfl (by kernel_rfl) (by kernel_rfl) (by kernel_rfl) (fun _ _ _ h => h) (.inl ⟨by rfl, by (intro wq hSw; (try dsimp only at hSw); go_simp; (try (first | rfl | omega)))⟩) hHeld ?_
          simp only [Act.put, List.setIfInBounds_toArray, List.set_cons_zero, List.set_cons_succ]
          refine wpAnyH_tk (i := 10) (d := 54) (v := (.pointer (some ⟨b2, o2 + k, none⟩))) rfl rfl (by kernel_rfl) (by kernel_rfl) (by kernel_rfl) (fun _ _ _ h => h) (.inl ⟨by rfl, by (intro wq hSw; (try dsimp only at hSw); go_simp; (try (first | rfl | omega)))⟩) hHeld ?_
          simp only [Act.put, List.setIfInBounds_toArray, List.set_cons_zero, List.set_cons_succ]
          refine wpAnyH_tk (i := 11) (d := 55) (v := (.int .i64 pk)) rfl rfl (by kernel_rfl) (by kernel_rfl) (by kernel_rfl) (fun _ _ _ h => h) (.inl ⟨by rfl, by (intro wq hSw; (try dsimp only at hSw); go_simp; (try (first | rfl | omega)))⟩) hHeld ?_
          simp only [Act.put, List.setIfInBounds_toArray, List.set_cons_zero, List.set_cons_succ]
          refine wpAnyH_tk (i := 12) (d := 56) (v := (.pointer (some ⟨g pi, pk, none⟩))) rfl rfl (by kernel_rfl) (by kernel_rfl) (by kernel_rfl) (fun _ _ _ h => h) (.inl ⟨by rfl, by (intro wq hSw; (try dsimp only at hSw); go_simp; (try (first | rfl | omega)))⟩) hHeld ?_
          simp only [Act.put, List.setIfInBounds_toArray, List.set_cons_zero, List.set_cons_succ]
          refine wpAnyH_tk (i := 13) (d := 57) (v := (.int .i64 E)) rfl rfl (by kernel_rfl) (by kernel_rfl) (by kernel_rfl) (fun _ _ _ h => h) (.inl ⟨by rfl, by (intro wq hSw; (try dsimp only at hSw); go_simp; (try (first | rfl | omega)))⟩) hHeld ?_
          simp only [Act.put, List.setIfInBounds_toArray, List.set_cons_zero, List.set_cons_succ]
          refine wpAnyH_ready (rs := [14]) (by kernel_rfl) (by simp) ?_
          refine ready_tk (i := 14) rfl (by rfl) (fun K hK => ?_) AllReadyH.nil
          go_simp
          refine hK.out _ _ (HST.out _ (HBX2.out.alloc HBX2.out.size _)) (fun hHeld => ?_)
          clear hK K
          refine wpAnyH_ready (rs := [15]) (by kernel_rfl) (by simp) ?_
          refine ready_tk (i := 15) rfl (by rfl) (fun K hK => ?_) AllReadyH.nil
          refine op_append_ownA (.tmp 44) (.tmp 58) 26 (by rfl) wa.heap.size 3 i3 (.int .i64 0) 1 8 Try.underlying26 hi3 hz30 hz31 hz32 rfl (by decide) _ _ _ (by rfl) (HOL2.out.alloc _) ⟨wr.heap.size, 0, none⟩ 1 1 [.int .i64 E] (by rfl) rfl (one_new wr.drew _ _) (one_int _) (by rw [HLL.out]; unfold maxLen; omega) (by rw [HLL.out]; omega) (by simp; omega) ?_
          intro v1 w6 ho6 hg6 _
          have RR := owns_push (z := E) (N := L.length + 1) (w := wr.drew) hsw (l := L) (v := .slice ro k rc) HOL2.out HBD.out ho6 hg6 rfl
          have hb64 : Below w4.heap.size w4 w6 := HBR.out.trans (RR.2.mono hsa)
          refine hK.out _ _ (HST.out _ hb64) (fun hHeld => ?_)
          clear hK K
          simp only [Act.put, List.setIfInBounds_toArray, List.set_cons_zero, List.set_cons_succ]
          have S1 : Hid (w6.ownsRow wa.heap.size 3 1 v1 (k + 1) (ints (L ++ [E]))) := by
            have h := RR.1
            rw [HLL.out] at h
            exact h
          have S2 : Hid (Below wa.heap.size wa w6) := RR.2
          obtain ⟨vo, vc, hv1⟩ := owns_form S1.out
          subst hv1
          clear ho6 hg6 RR hb64
          refine wpAnyH_tk (i := 16) (d := 13) (v := (.slice vo (k + 1) vc)) rfl rfl (by kernel_rfl) (by kernel_rfl) (by kernel_rfl) (fun _ _ _ h => h) (.inl ⟨by rfl, by (intro wq hSw; (try dsimp only at hSw); go_simp; (try (first | rfl | omega)))⟩) hHeld ?_
          simp only [Act.put, List.setIfInBounds_toArray, List.set_cons_zero, List.set_cons_succ]
          refine wpAnyH_done (by kernel_rfl) ?_ _
          clear hHeld
          go_wp2
          exact ⟨⟨k + 1, by omega, by go_num, by rw [HNX.out]; exact S1.out, S2.out⟩, by simp [intOf]; omega⟩
        · have hke : k = n := by omega
          subst hke
          obtain ⟨vs, g1, g2, g3⟩ := HFR.out.below HB.out (Nat.le_refl _)
          rw [HTI.out] at g1 g2 g3
          have G1 : Hid (vs.length = i) := g1
          have G2 : Hid (wr.ownsRow w4.heap.size 26 1 (.slice xo i xc2) i vs) := g2
          have G3 : Hid (∀ q, q < i → Sl 0 3 wr (vs.getD q (.slice none 0 0)) (ints (((pmM o C).take i).getD q []))) := g3
          have HSR : Hid (Sl 0 3 wr (.slice ro k rc) (ints ((List.range k).map fun k => cE C pi (o.getD k 0).toNat))) := Sl.own HO.out
          have hs4 : w4.heap.size ≤ wr.heap.size := by omega
          clear g1 g2 g3
          go_wp2_with (first | (at_builtin; refine wpList_append_own _ rfl _ _ 22 rfl w4.heap.size 26 i0 (.slice none 0 0) 1 24 Try.underlying22 hi0 hz0 hz1 hz2 rfl (by decide) _ _ _ rfl (G2.out.alloc _) ⟨wr.heap.size, 0, none⟩ 1 1 [.slice ro k rc] rfl rfl (one_new _ _ _) (one_slice _ _ _) ?d3 ?d4 ?d5 ?_))
          case d3 => unfold maxLen; omega
          case d4 => omega
          case d5 => simp; omega
          intro v2 w6 ho hg _
          have S1 : Hid (Fr w4.heap.size 26 3 w6 v2 ((pmM o C).take (i + 1))) := by
            rw [HPT.out]
            exact Fr.push (e2 := 26) (e1 := 3) (m := (pmM o C).take i) (u := .slice ro k rc) (by decide) (by rw [HTI.out]; exact G1.out) (by rw [HTI.out]; exact G2.out.alloc _) (fun q hq => (G3.out q (by rw [HTI.out] at hq; exact hq)).alloc _) (HSR.out.alloc _) (by rw [HTI.out]; exact ho) hg
          have S2 : Hid (Below w4.heap.size w4 w6) := ((HBX.out).alloc (by omega) _).grown hg (by simp; omega) (fun x hx => (G2.out.lt x hx).1)
          obtain ⟨vo, vc, hv2⟩ := owns_form ho
          subst hv2
          clear ho hg
          go_wp2
          go_roundw
          case rel => exact ⟨i + 1, by omega, by go_num, S1.out, S2.out⟩
          case measure => simp [intOf]; omega
    · have hie : i = n := by omega
      subst hie
      have HFE : Hid (Fr w.heap.size 26 3 wa (.slice xo i xc2) (pmM o C)) := by
        have h := HFR.out
        rw [List.take_of_length_le (by omega)] at h
        obtain ⟨vs, g1, g2, g3⟩ := h
        exact ⟨vs, g1, own_low g2 HB3.out.size, g3⟩
      have HBE : Hid (Below w.heap.size w wa) := HB3.out.trans (HBR.out.mono HB3.out.size)
      clear HFR HBR
      go_wp2
      go_ret
      exact HPP.out _ o _ HOM'.out HFE.out HBE.out

end Go.Proofs.Ytkgljfnbaoncbaa
