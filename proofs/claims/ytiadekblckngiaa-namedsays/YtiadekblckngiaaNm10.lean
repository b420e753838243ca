/- facetref.NamedOf: kinds 0 and 2. -/
import Derived.Test.YtiadekblckngiaaNm8
import Derived.Test.YtiadekblckngiaaNmp
namespace Go.Proofs.Ytiadekblckngiaa
open Go.RowKit
attribute [local go_sem ↓] Go.wp_at_zero Go.wp_at_succ

theorem np_start (w : World) (d : Nat) : NpI w w.heap.size (w.heap.size + 1) d [] ((w.alloc (.cells #[.int .i64 0, .slice none 0 0] 24)).alloc (.cells #[.int .i64 (d : Int), .slice none 0 0] 24)) := by
  have h := NpI.start w (w.alloc (.cells #[.int .i64 0, .slice none 0 0] 24)) w.heap.size d (Nat.le_refl _) (heap_alloc_new w _) ((Below.refl _ _).alloc (Nat.le_refl _) _)
  rw [show (w.alloc (.cells #[.int .i64 0, .slice none 0 0] 24)).heap.size = w.heap.size + 1 by simp] at h
  exact h

set_option maxRecDepth 100000 in
set_option maxHeartbeats 3200000 in
theorem named0_any (d : Nat) (w : World) (h1 : 1 ≤ d) (h4 : d ≤ 4) :
    Calls Try.prog 9 #[.int .i64 0, .int .i64 (d : Int)] w fun e w' => ∃ u, e = .returned (.tuple #[.agg #[.int .i64 (d : Int), u], .int .i64 0]) ∧ Mat 0 35 3 w' u (simT d d) ∧ Below w.heap.size w w' := by
  obtain ⟨i0, hi0, hz0, hz1, hz2⟩ := info_parts infoSlN
  have HMK : Hid (∀ w : World, (Instr.makeSlice 35 (.int .i64 (d : Int)) (.int .i64 (d : Int))).run Try.prog w = .ok (.slice (some ⟨w.heap.size, 0, none⟩) d d) (w.alloc (.cells (madeCells #[.int .i64 0] d) 3))) := mk_any d h4
  have d1 : ¬ (d : Int) < 1 := by omega
  have d2 : ¬ (4 : Int) < (d : Int) := by omega
  obtain ⟨W2, hW2⟩ : ∃ W2, W2 = (w.alloc (.cells #[.int .i64 0, .slice none 0 0] 24)).alloc (.cells #[.int .i64 (d : Int), .slice none 0 0] 24) := ⟨_, rfl⟩
  have HI0 : Hid (NpI w w.heap.size (w.heap.size + 1) d [] W2) := by rw [hW2]; exact np_start w d
  obtain ⟨R, hR⟩ : ∃ R, R = w.heap.size := ⟨_, rfl⟩
  rw [← hR] at HI0
  have hn := made_ownN W2.drew d (by unfold maxLen; omega)
  have hbn : Below W2.heap.size W2 (W2.drew.alloc (.cells (madeCells #[.int .i64 0] d) 3)) := ((Below.refl _ _).drew).alloc (Nat.le_refl _) _
  obtain ⟨W3, hW3⟩ : ∃ W3, W3 = W2.drew.alloc (.cells (madeCells #[.int .i64 0] d) 3) := ⟨_, rfl⟩
  rw [← hW3] at hn hbn
  obtain ⟨so, sc, vs, q1, q2, q3, q4⟩ := HI0.out.push hbn (Sl.own hn)
  have hMd : W2.drew.heap.size = W2.heap.size := rfl
  rw [hMd] at q4
  have HQ2 : Hid (W3.ownsRow (R + 1 + 1) 35 1 (.slice so 0 sc) 0 vs) := q2
  have HQ4 : Hid (∀ v' w5, w5.ownsRow (R + 1 + 1) 35 1 v' (0 + 1) (vs ++ [.slice (some ⟨W2.heap.size, 0, none⟩) d d]) → (W3.alloc (.cells #[.slice (some ⟨W2.heap.size, 0, none⟩) d d] 35)).grownBy w5 (Value.slice so 0 sc).ownBlock → w5.cell? ⟨R + 1, 1, none⟩ = some (.slice so 0 sc) ∧ w5.frozen? ⟨R + 1, 1, none⟩ = false ∧ NpI w R (R + 1) d (simT d 0) (w5.setCell ⟨R + 1, 1, none⟩ v')) := q4
  have p0 : W2.cell? ⟨R + 1, 1, none⟩ = some (.slice so 0 sc) := (hbn.cell (p := ⟨R + 1, 1, none⟩) HI0.out.qlt).symm.trans q1
  have p1 : (W2.alloc (.cells (madeCells #[.int .i64 0] d) 3)).cell? ⟨R + 1, 1, none⟩ = some (.slice so 0 sc) := by rw [hW3] at q1; exact q1
  have p2 : ((W2.alloc (.cells (madeCells #[.int .i64 0] d) 3)).alloc (.cells #[.slice (some ⟨W2.heap.size, 0, none⟩) d d] 35)).cell? ⟨R + 1, 1, none⟩ = some (.slice so 0 sc) := (((Below.refl _ _).alloc (Nat.le_refl _) _).cell (lt_of_cell p1)).trans p1
  have HSZ : Hid (R + 1 + 1 ≤ (W3.alloc (.cells #[.slice (some ⟨W2.heap.size, 0, none⟩) d d] 35)).heap.size) := by show _ ≤ _; simp; omega
  have HW3 : Hid (W3 = W2.drew.alloc (.cells (madeCells #[.int .i64 0] d) 3)) := hW3
  have HM3 : Hid (W3.heap.size = W2.heap.size + 1) := by rw [hW3]; show _ = _; simp
  have HOA : Hid ((W3.alloc (.cells #[.slice (some ⟨W2.heap.size, 0, none⟩) d d] 35)).ownsRow (R + 1 + 1) 35 1 (.slice so 0 sc) 0 vs) := q2.alloc _
  have HNW : Hid (∀ j u, [Value.slice (some ⟨W2.heap.size, 0, none⟩) d d][j]? = some u → (W3.alloc (.cells #[.slice (some ⟨W2.heap.size, 0, none⟩) d d] 35)).cell? ((⟨W2.heap.size + 1, 0, none⟩ : Addr).add j) = some u) := by rw [← HM3.out]; exact one_new _ _ _
  rw [hW3] at HOA HNW HSZ HQ4
  clear q1 q2 q3 q4 hn hbn hW3 HI0
  have hmk := HMK.out
  go_enter Try.func9, Try.ntmps9
  go_wp2
  rw [← hW2, ← hR]
  clear hW2 hR
  go_region_law (refine step_append_own (o := { dst := some 66, op := _, type := _, pos := _, after := _, guard := _ }) (by rfl) _ _ 22 (by rfl) (R + 1 + 1) 35 i0 (.slice none 0 0) 1 24 Try.underlying22 hi0 hz0 hz1 hz2 rfl (by decide) _ _ _ (by rfl) HOA.out ⟨W2.heap.size + 1, 0, none⟩ 1 1 [.slice (some ⟨W2.heap.size, 0, none⟩) d d] (by rfl) rfl HNW.out (one_slice _ _ _) (by unfold maxLen; omega) (by omega) HSZ.out ?_; intro v' w5 ho hg; obtain ⟨vo, vc, hv5⟩ := owns_form ho; subst hv5; obtain ⟨g1, g2, g3⟩ := HQ4.out _ w5 ho hg; have HF : Hid (NpI w R (R + 1) d (simT d 0) (w5.setCell ⟨R + 1, 1, none⟩ (.slice vo (0 + 1) vc))) := g3; clear g3 ho hg)
  all_goals
    clear p0 p1 p2 HQ2 HQ4 HSZ HOA HNW HW3 HM3 hmk
    go_wp2
    go_loopw [7] (fun iv wr => ∃ k : Nat, k ≤ d ∧ iv = .int .i64 (k : Int) ∧ NpI w R (R + 1) d (simT d k) wr) (fun iv _ => d - (intOf iv).toNat)
    case atStart => exact ⟨0, Nat.zero_le _, rfl, HF.out⟩
    case round =>
      obtain ⟨k, hk, rfl, hj⟩ := hrel

      obtain ⟨wa, rfl⟩ : ∃ wa, wa = wr := ⟨_, rfl⟩
      have HJ : Hid (NpI w R (R + 1) d (simT d k) wa) := hj
      clear hj
      by_cases hlt : k < d
      · obtain ⟨z, hz⟩ : ∃ z : Int, z = 1 := ⟨_, rfl⟩
        have HSN : Hid (simT d (k + 1) = simT d k ++ [axN d k z]) := by show _ = _; rw [hz]; exact simT_succ d k
        have HLN : Hid ((simT d k).length = (k + 1)) := simT_len d k
        obtain ⟨wb, hwb⟩ : ∃ wb, wb = wa.alloc (.cells (madeCells #[.int .i64 0] d) 3) := ⟨_, rfl⟩
        obtain ⟨M, hM⟩ : ∃ M, M = wa.heap.size := ⟨_, rfl⟩
        have ho : wb.ownsRow M 3 1 (.slice (some ⟨M, 0, none⟩) d d) d (ints (List.replicate d 0)) := by rw [hwb, hM]; exact made_ownN wa d (by unfold maxLen; omega)
        have hbb : Below M wa wb := by rw [hwb, hM]; exact (Below.refl _ _).alloc (Nat.le_refl _) _
        have hpd : k < d := by omega
        have e1 : wb.cell? ⟨M, k, none⟩ = some (.int .i64 0) := by
          rw [ho.cellAt k (by omega), ints_get _ k (by simp; omega)]
          simp [hpd]
        have e2 : wb.frozen? ⟨M, k, none⟩ = false := ho.frozenAt k
        obtain ⟨wc, hwc⟩ : ∃ wc, wc = wb.setCell ⟨M, k, none⟩ (.int .i64 z) := ⟨_, rfl⟩
        have hsl : Sl 0 3 wc (.slice (some ⟨M, 0, none⟩) d d) (ints (axN d k z)) := by
          have h := (ho.stored k (.int .i64 z)).1
          rw [← ints_setN, ← hwc] at h
          exact Sl.own h
        have hbc : Below wa.heap.size wa wc := by rw [hwc, ← hM]; exact below_setN hbb (Nat.le_refl _)
        obtain ⟨bo, bc, vs, q1, q2, q3, q4⟩ := HJ.out.push hbc hsl
        rw [HLN.out] at q1 q2 q4
        rw [← HSN.out] at q4
        have HQ2 : Hid (wc.ownsRow (R + 1 + 1) 35 1 (.slice bo (k + 1) bc) (k + 1) vs) := q2
        have HQ4 : Hid (∀ v' w5, w5.ownsRow (R + 1 + 1) 35 1 v' ((k + 1) + 1) (vs ++ [.slice (some ⟨M, 0, none⟩) d d]) → (wc.alloc (.cells #[.slice (some ⟨M, 0, none⟩) d d] 35)).grownBy w5 (Value.slice bo (k + 1) bc).ownBlock → w5.cell? ⟨R + 1, 1, none⟩ = some (.slice bo (k + 1) bc) ∧ w5.frozen? ⟨R + 1, 1, none⟩ = false ∧ NpI w R (R + 1) d (simT d (k + 1)) (w5.setCell ⟨R + 1, 1, none⟩ v')) := q4
        have q1a : (wc.alloc (.cells #[.slice (some ⟨M, 0, none⟩) d d] 35)).cell? ⟨R + 1, 1, none⟩ = some (.slice bo (k + 1) bc) := (((Below.refl wc.heap.size wc).alloc (Nat.le_refl _) _).cell (lt_of_cell q1)).trans q1
        have hszR : R + 1 + 1 ≤ wc.heap.size := q3
        have pI : (k : Int) < (d : Int) := by omega
        have pI0 : (0 : Int) ≤ (k : Int) := by omega
        have hmk2 : (Instr.makeSlice 35 (.int .i64 (d : Int)) (.int .i64 (d : Int))).run Try.prog wa = .ok (.slice (some ⟨M, 0, none⟩) d d) wb := by rw [hwb, hM]; exact HMK.out wa
        clear q2 q4 hsl hbc ho hbb HJ hwb hM
        subst hwc
        subst hz
        have HNW : Hid (∀ j u, [Value.slice (some ⟨M, 0, none⟩) d d][j]? = some u → ((wb.setCell ⟨M, k, none⟩ (.int .i64 1)).alloc (.cells #[.slice (some ⟨M, 0, none⟩) d d] 35)).cell? ((⟨wb.heap.size, 0, none⟩ : Addr).add j) = some u) := by
          have h := one_new (wb.setCell ⟨M, k, none⟩ (.int .i64 1)) (.slice (some ⟨M, 0, none⟩) d d) 35
          rw [show (wb.setCell ⟨M, k, none⟩ (.int .i64 1)).heap.size = wb.heap.size by simp [World.setCell]] at h
          exact h
        have HSR : Hid (R + 1 + 1 ≤ ((wb.setCell ⟨M, k, none⟩ (.int .i64 1)).alloc (.cells #[.slice (some ⟨M, 0, none⟩) d d] 35)).heap.size) := by show _ ≤ _; simp at hszR ⊢; omega
        go_wp2_with (first | (at_builtin; refine wpList_append_own _ rfl _ _ 22 rfl (R + 1 + 1) 35 i0 (.slice none 0 0) 1 24 Try.underlying22 hi0 hz0 hz1 hz2 rfl (by decide) _ _ _ rfl (HQ2.out.alloc _) ⟨wb.heap.size, 0, none⟩ 1 1 [.slice (some ⟨M, 0, none⟩) d d] rfl rfl HNW.out (one_slice _ _ _) ?d3 ?d4 HSR.out ?_))
        case d3 => unfold maxLen; omega
        case d4 => omega
        intro v' w5 ho hg _
        obtain ⟨vo, vc, hv5⟩ := owns_form ho
        subst hv5
        obtain ⟨g1, g2, g3⟩ := HQ4.out _ w5 ho hg
        have HF : Hid (NpI w R (R + 1) d (simT d (k + 1)) (w5.setCell ⟨R + 1, 1, none⟩ (.slice vo ((k + 1) + 1) vc))) := g3
        clear g3 ho hg q1 q1a
        go_wp2
        go_roundw
        case rel => exact ⟨k + 1, by omega, by go_num, HF.out⟩
        case measure => simp [intOf]; omega
      · have hke : d = k := by omega
        subst hke
        have HK := HJ.out
        obtain ⟨bo, bc, m0, m1, r0, r1, rf0, rf1, hmat, hbel⟩ := HK.fin
        have HMT : Hid (Mat 0 35 3 ((wa.setCell ⟨R, 0, none⟩ (.int .i64 (d : Int))).setCell ⟨R, 1, none⟩ (.slice bo (simT d d).length bc)) (.slice bo (simT d d).length bc) (simT d d)) := hmat
        have HBX : Hid (Below w.heap.size w ((wa.setCell ⟨R, 0, none⟩ (.int .i64 (d : Int))).setCell ⟨R, 1, none⟩ (.slice bo (simT d d).length bc))) := hbel
        clear hmat hbel HJ HK
        generalize (simT d d).length = cl at *
        go_wp2
        exact bodyPost_ret (v := .tuple #[.agg #[.int .i64 (d : Int), .slice bo cl bc], .int .i64 0]) (by simp [results, Try.results9, go_sem, *]) rfl ⟨_, rfl, HMT.out, HBX.out⟩

end Go.Proofs.Ytiadekblckngiaa
