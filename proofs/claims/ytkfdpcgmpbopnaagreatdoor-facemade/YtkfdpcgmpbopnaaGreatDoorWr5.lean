/- The rightmost of what is seen: slices.MinFunc by turn. -/
import Derived.Test.YtkfdpcgmpbopnaaGreatDoorWr4
namespace Go.Proofs.YtkfdpcgmpbopnaaGreatDoor
open Go.RowKit
open Lin
attribute [local go_sem ↓] Go.wp_at_zero Go.wp_at_succ

theorem mnF_snoc (m : Int × Int) (l : List (Int × Int)) (k : Nat) (h : k < l.length) : mnF m (l.take (k + 1)) = if trn (l.getD k (0, 0)) (mnF m (l.take k)) < 0 then l.getD k (0, 0) else mnF m (l.take k) := by
  rw [List.take_succ_eq_append_getElem h]
  unfold mnF
  rw [List.foldl_append]
  have e : l.getD k (0, 0) = l[k] := by simp [h]
  rw [e]
  rfl

set_option maxRecDepth 100000 in
set_option maxHeartbeats 1600000 in
theorem minS2_any (m0 : Int × Int) (l : List (Int × Int)) (v : Value) (w : World) (hs : Sns w.heap.size w v (m0 :: l)) (hb : ∀ s ∈ m0 :: l, s.1.natAbs ≤ 100000000 ∧ s.2.natAbs ≤ 100000000) (hl : l.length ≤ 1000) :
    Calls Tryz.prog 124 #[v, .func (.func 123) #[] #[]] w fun e w' => e = .returned (arr2 (mnF m0 l).1 (mnF m0 l).2) ∧ Below w.heap.size w w' := by
  obtain ⟨po, pc, hv, hcell⟩ := hs
  subst hv
  have hcell' : ∀ i, i < l.length + 1 → ∃ b o, po = some ⟨b, o, none⟩ ∧ b < w.heap.size ∧ w.cell? ⟨b, o + i * 2, none⟩ = some (.int .i64 ((m0 :: l).getD i (0, 0)).1) ∧ w.cell? ⟨b, o + i * 2 + 1, none⟩ = some (.int .i64 ((m0 :: l).getD i (0, 0)).2) := fun i hi => hcell i (by simpa using hi)
  obtain ⟨b, o, rfl, hbB, hc0, hc1⟩ := hcell' 0 (by omega)
  have HC : Hid (∀ W', Below w.heap.size w W' → ∀ i, i < l.length + 1 → W'.cell? ⟨b, o + i * 2, none⟩ = some (.int .i64 ((m0 :: l).getD i (0, 0)).1) ∧ W'.cell? ⟨b, o + i * 2 + 1, none⟩ = some (.int .i64 ((m0 :: l).getD i (0, 0)).2)) := fun W' h i hi => by
    obtain ⟨b', o', e, _, k0, k1⟩ := hcell' i hi
    simp only [Option.some.injEq, Addr.mk.injEq, and_true] at e
    obtain ⟨rfl, rfl⟩ := e
    exact ⟨(h.cell hbB).trans k0, (h.cell hbB).trans k1⟩
  simp only [List.getD_cons_zero, Nat.zero_mul, Nat.add_zero] at hc0 hc1
  rw [List.length_cons]
  have HBD : Hid (∀ s ∈ m0 :: l, s.1.natAbs ≤ 100000000 ∧ s.2.natAbs ≤ 100000000) := hb
  clear hcell hcell' hb
  have t1 : decide (((l.length + 1 : Nat) : Int) < 1) = false := by simp; omega
  have t2 : decide ((l.length : Int) + 1 < 1) = false := by simp; omega
  have hll : (0 : Int) < (l.length : Int) + 1 := by omega
  obtain ⟨m1, m2⟩ := m0
  go_enter Tryz.func124, Tryz.ntmps124
  go_wp2
  go_loopw [6] (fun i wr => ∃ k : Nat, k ≤ l.length ∧ i = .int .i64 (k + 1) ∧ MB w.heap.size w (mnF (m1, m2) (l.take k)) wr) (fun i _ => l.length + 1 - (intOf i).toNat)
  case atStart => exact ⟨0, Nat.zero_le _, rfl, MB.start w (m1, m2)⟩
  case round =>
    obtain ⟨k, hk, rfl, hmb⟩ := hrel
    have HM : Hid (MB w.heap.size w (mnF (m1, m2) (l.take k)) wr) := hmb
    clear hmb hc0 hc1
    by_cases hlt : k < l.length
    · obtain ⟨a0, a1⟩ := HC.out wr HM.out.bel (k + 1) (by omega)
      have HCK : Hid (∀ W', Below wr.heap.size wr W' → W'.cell? ⟨b, o + (k + 1) * 2, none⟩ = some (.int .i64 ((l.getD k (0, 0)).1)) ∧ W'.cell? ⟨b, o + (k + 1) * 2 + 1, none⟩ = some (.int .i64 ((l.getD k (0, 0)).2))) := fun W' h => HC.out W' (HM.out.bel.trans (h.mono HM.out.bel.size)) (k + 1) (by omega)
      have HSN := mnF_snoc (m1, m2) l k hlt
      have hsm : l.getD k (0, 0) ∈ (m1, m2) :: l := by
        have e : l.getD k (0, 0) = l[k] := by simp [hlt]
        rw [e]; exact List.mem_cons_of_mem _ (List.getElem_mem _)
      have hmm : mnF (m1, m2) (l.take k) ∈ (m1, m2) :: l := by
        rcases mnF_mem (l.take k) (m1, m2) with e | e
        · rw [e]; exact List.mem_cons_self
        · exact List.mem_cons_of_mem _ (List.mem_of_mem_take e)
      obtain ⟨bs1, bs2⟩ := HBD.out _ hsm
      obtain ⟨bm1, bm2⟩ := HBD.out _ hmm
      have HF : Hid (mnF (m1, m2) (l.take (k + 1)) = if trn (l.getD k (0, 0)) (mnF (m1, m2) (l.take k)) < 0 then l.getD k (0, 0) else mnF (m1, m2) (l.take k)) := HSN
      rw [List.getD_cons_succ] at a0 a1
      clear HSN hsm hmm
      generalize mnF (m1, m2) (l.take k) = mm at *
      generalize l.getD k (0, 0) = ss at *
      obtain ⟨mm1, mm2⟩ := mm
      obtain ⟨s1, s2⟩ := ss
      dsimp only at a0 a1 bs1 bs2 bm1 bm2
      have HT : Hid (∀ W', Calls Tryz.prog 123 #[.agg #[.int .i64 s1, .int .i64 s2], .agg #[.int .i64 mm1, .int .i64 mm2]] W' fun r w' => r = .returned (.int .i64 (trn (s1, s2) (mm1, mm2))) ∧ Below W'.heap.size W' w') := fun W' =>
        turn_any s1 s2 mm1 mm2 W' (by have := mul_bd8 bm1 bs2; omega) (by have := mul_bd8 bm2 bs1; omega)
      have c0 := HM.out.c0
      have c1 := HM.out.c1
      dsimp only at c0 c1
      generalize trn (s1, s2) (mm1, mm2) = T at *
      have kI : (k : Int) + 1 < (l.length : Int) + 1 := by omega
      have kI0 : (0 : Int) ≤ (k : Int) + 1 := by omega
      go_upto_region 7 with fail
      go_region_law (refine step_call2v (o := { dst := some 26, op := _, type := _, pos := _, after := _, guard := _ }) (by rfl) 123 _ _ _ 132 132 (by rfl) _ _ (by rfl) (by rfl) (by rfl) ⟨_, Tryz.func123, by rfl, by rfl⟩ ?_; refine (HT.out _).mono ?_; rintro e w2 ⟨rfl, hb2⟩; refine ⟨_, rfl, ?_⟩; have HB2 : Hid (Below wr.heap.size wr w2) := (Below.refl _ _).drew.trans hb2; clear hb2)
      all_goals
        have HM2 : Hid (MB w.heap.size w (mm1, mm2) w2) := HM.out.keep HB2.out
        obtain ⟨e0, e1⟩ := HCK.out w2 HB2.out
        have d0 := HM2.out.c0
        have d1 := HM2.out.c1
        have g0 := HM2.out.f0
        have g1 := HM2.out.f1
        dsimp only at d0 d1 e0 e1
        clear a0 a1 c0 c1
        by_cases hT : T < 0
        · have HF2 : Hid (mnF (m1, m2) (l.take (k + 1)) = (s1, s2)) := by
            show _ = _
            rw [HF.out, if_pos hT]
          clear HF
          go_wp2
          go_roundw
          case rel =>
            refine ⟨k + 1, by omega, by go_num, ?_⟩
            rw [HF2.out]
            exact HM2.out.put (s1, s2)
          case measure => simp [intOf]; omega
        · have HF2 : Hid (mnF (m1, m2) (l.take (k + 1)) = (mm1, mm2)) := by
            show _ = _
            rw [HF.out, if_neg hT]
          clear HF
          go_wp2
          go_roundw
          case rel =>
            refine ⟨k + 1, by omega, by go_num, ?_⟩
            rw [HF2.out]
            exact HM2.out
          case measure => simp [intOf]; omega
    · have hke : k = l.length := by omega
      subst hke
      rw [List.take_length] at HM
      have d0 := HM.out.c0
      have d1 := HM.out.c1
      have z0 := HM.out.z0
      have z1 := HM.out.z1
      have y0 := HM.out.y0
      have y1 := HM.out.y1
      have HB : Hid (Below w.heap.size w wr) := HM.out.bel
      clear HM
      obtain ⟨mm, hmm⟩ : ∃ mm, mm = mnF (m1, m2) l := ⟨_, rfl⟩
      rw [← hmm] at d0 d1
      have HMM : Hid (mm = mnF (m1, m2) l) := hmm
      clear hmm
      go_wp2
      refine bodyPost_ret (results_cellS (ad := ⟨w.heap.size, 0, none⟩) rfl rfl ?_) rfl ⟨rfl, (HB.out.setCell (Nat.le_refl _) _).setCell (Nat.le_refl _) _⟩
      have hsz := Tryz.sizeOf132
      have hag := Tryz.isAgg132
      go_simp
      rw [HMM.out]
      rfl

end Go.Proofs.YtkfdpcgmpbopnaaGreatDoor
