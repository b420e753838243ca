/- facetref.NamedOf: kind 2. -/
import Derived.Test.YtiadekblckngiaaNm10
namespace Go.Proofs.Ytiadekblckngiaa
open Go.RowKit
attribute [local go_sem ↓] Go.wp_at_zero Go.wp_at_succ

/-- The first k points of a cross. -/
def crU (d k : Nat) : List (List Int) := crsT d (k / 2) ++ (if k % 2 = 1 then [axN d (k / 2) (-1)] else [])
theorem crU_zero (d : Nat) : crU d 0 = [] := rfl
theorem crU_all (d : Nat) : crU d (2 * d) = crsT d d := by simp [crU]
theorem crU_even (d k : Nat) (h : k % 2 = 0) : crU d (k + 1) = crU d k ++ [axN d (k / 2) (-1)] := by
  unfold crU
  rw [if_pos (by omega), if_neg (by omega), show (k + 1) / 2 = k / 2 by omega]; simp
theorem crU_odd (d k : Nat) (h : k % 2 = 1) : crU d (k + 1) = crU d k ++ [axN d (k / 2) 1] := by
  unfold crU
  rw [if_neg (by omega), if_pos h, show (k + 1) / 2 = k / 2 + 1 by omega, crsT_succ]; simp
theorem crU_len (d k : Nat) : (crU d k).length = k := by
  unfold crU
  by_cases h : k % 2 = 1
  · rw [if_pos h]; simp [crsT_len]; omega
  · rw [if_neg h]; simp [crsT_len]; omega

set_option maxRecDepth 100000 in
set_option maxHeartbeats 3200000 in
theorem named2_any (d : Nat) (w : World) (h1 : 1 ≤ d) (h4 : d ≤ 4) :
    Calls Try.prog 9 #[.int .i64 2, .int .i64 (d : Int)] w fun e w' => ∃ u, e = .returned (.tuple #[.agg #[.int .i64 (d : Int), u], .int .i64 0]) ∧ Mat 0 35 3 w' u (crsT d d) ∧ Below w.heap.size w w' := by
  obtain ⟨i0, hi0, hz0, hz1, hz2⟩ := info_parts infoSlN
  have HMK : Hid (∀ w : World, (Instr.makeSlice 35 (.int .i64 (d : Int)) (.int .i64 (d : Int))).run Try.prog w = .ok (.slice (some ⟨w.heap.size, 0, none⟩) d d) (w.alloc (.cells (madeCells #[.int .i64 0] d) 3))) := mk_any d h4
  have d1 : ¬ (d : Int) < 1 := by omega
  have d2 : ¬ (4 : Int) < (d : Int) := by omega
  obtain ⟨W2, hW2⟩ : ∃ W2, W2 = (w.alloc (.cells #[.int .i64 0, .slice none 0 0] 24)).alloc (.cells #[.int .i64 (d : Int), .slice none 0 0] 24) := ⟨_, rfl⟩
  have HI0 : Hid (NpI w w.heap.size (w.heap.size + 1) d (crU d 0) W2) := by rw [hW2]; exact np_start w d
  obtain ⟨R, hR⟩ : ∃ R, R = w.heap.size := ⟨_, rfl⟩
  rw [← hR] at HI0
  go_enter Try.func9, Try.ntmps9
  go_wp2
  rw [← hW2, ← hR]
  clear hW2 hR
  go_loopw [11] (fun iv wr => ∃ k : Nat, k ≤ 2 * d ∧ iv = .int .i64 (k : Int) ∧ NpI w R (R + 1) d (crU d k) wr) (fun iv _ => 2 * d - (intOf iv).toNat)
  case atStart => exact ⟨0, Nat.zero_le _, rfl, HI0.out⟩
  case round =>
    clear HI0
    obtain ⟨k, hk, rfl, hj⟩ := hrel

    obtain ⟨wa, rfl⟩ : ∃ wa, wa = wr := ⟨_, rfl⟩
    have HJ : Hid (NpI w R (R + 1) d (crU d k) wa) := hj
    clear hj
    by_cases hlt : k < 2 * d
    · obtain ⟨p, hp⟩ : ∃ p : Nat, p = k / 2 := ⟨_, rfl⟩
      have hpd : p < d := by omega
      have hkq : (k : Int) / 2 = (p : Int) := by omega
      have kb0 : (0 : Int) ≤ (k : Int) := by omega
      have kb8 : (k : Int) ≤ 8 := by omega
      rcases Nat.mod_two_eq_zero_or_one k with hpar | hpar
      · have hkr : (k : Int) % 2 = 0 := by omega
        have HSN : Hid (crU d (k + 1) = crU d k ++ [axN d p (-1)]) := by show _ = _; rw [hp]; exact crU_even d k hpar
        have HLN : Hid ((crU d k).length = k) := crU_len d k
        obtain ⟨wb, hwb⟩ : ∃ wb, wb = wa.alloc (.cells (madeCells #[.int .i64 0] d) 3) := ⟨_, rfl⟩
        obtain ⟨M, hM⟩ : ∃ M, M = wa.heap.size := ⟨_, rfl⟩
        have ho : wb.ownsRow M 3 1 (.slice (some ⟨M, 0, none⟩) d d) d (ints (List.replicate d 0)) := by rw [hwb, hM]; exact made_ownN wa d (by unfold maxLen; omega)
        have hbb : Below M wa wb := by rw [hwb, hM]; exact (Below.refl _ _).alloc (Nat.le_refl _) _
      
        have e1 : wb.cell? ⟨M, p, none⟩ = some (.int .i64 0) := by
          rw [ho.cellAt p (by omega), ints_get _ p (by simp; omega)]
          simp [hpd]
        have e2 : wb.frozen? ⟨M, p, none⟩ = false := ho.frozenAt p
        obtain ⟨wc, hwc⟩ : ∃ wc, wc = wb.setCell ⟨M, p, none⟩ (.int .i64 (-1)) := ⟨_, rfl⟩
        have hsl : Sl 0 3 wc (.slice (some ⟨M, 0, none⟩) d d) (ints (axN d p (-1))) := by
          have h := (ho.stored p (.int .i64 (-1))).1
          rw [← ints_setN, ← hwc] at h
          exact Sl.own h
        have hbc : Below wa.heap.size wa wc := by rw [hwc, ← hM]; exact below_setN hbb (Nat.le_refl _)
        obtain ⟨bo, bc, vs, q1, q2, q3, q4⟩ := HJ.out.push hbc hsl
        rw [HLN.out] at q1 q2 q4
        rw [← HSN.out] at q4
        have HQ2 : Hid (wc.ownsRow (R + 1 + 1) 35 1 (.slice bo k bc) k vs) := q2
        have HQ4 : Hid (∀ v' w5, w5.ownsRow (R + 1 + 1) 35 1 v' (k + 1) (vs ++ [.slice (some ⟨M, 0, none⟩) d d]) → (wc.alloc (.cells #[.slice (some ⟨M, 0, none⟩) d d] 35)).grownBy w5 (Value.slice bo k bc).ownBlock → w5.cell? ⟨R + 1, 1, none⟩ = some (.slice bo k bc) ∧ w5.frozen? ⟨R + 1, 1, none⟩ = false ∧ NpI w R (R + 1) d (crU d (k + 1)) (w5.setCell ⟨R + 1, 1, none⟩ v')) := q4
        have q1a : (wc.alloc (.cells #[.slice (some ⟨M, 0, none⟩) d d] 35)).cell? ⟨R + 1, 1, none⟩ = some (.slice bo k bc) := (((Below.refl wc.heap.size wc).alloc (Nat.le_refl _) _).cell (lt_of_cell q1)).trans q1
        have hszR : R + 1 + 1 ≤ wc.heap.size := q3
        have pI : (p : Int) < (d : Int) := by omega
        have pI0 : (0 : Int) ≤ (p : Int) := by omega
        have hmk2 : (Instr.makeSlice 35 (.int .i64 (d : Int)) (.int .i64 (d : Int))).run Try.prog wa = .ok (.slice (some ⟨M, 0, none⟩) d d) wb := by rw [hwb, hM]; exact HMK.out wa
        clear q2 q4 hsl hbc ho hbb HJ hwb hM hp hpar
        subst hwc
        have HNW : Hid (∀ j u, [Value.slice (some ⟨M, 0, none⟩) d d][j]? = some u → ((wb.setCell ⟨M, p, none⟩ (.int .i64 (-1))).alloc (.cells #[.slice (some ⟨M, 0, none⟩) d d] 35)).cell? ((⟨wb.heap.size, 0, none⟩ : Addr).add j) = some u) := by
          have h := one_new (wb.setCell ⟨M, p, none⟩ (.int .i64 (-1))) (.slice (some ⟨M, 0, none⟩) d d) 35
          rw [show (wb.setCell ⟨M, p, none⟩ (.int .i64 (-1))).heap.size = wb.heap.size by simp [World.setCell]] at h
          exact h
        have HSR : Hid (R + 1 + 1 ≤ ((wb.setCell ⟨M, p, none⟩ (.int .i64 (-1))).alloc (.cells #[.slice (some ⟨M, 0, none⟩) d d] 35)).heap.size) := by show _ ≤ _; simp at hszR ⊢; omega
        go_wp2_with (first | (at_builtin; refine wpList_append_own _ rfl _ _ 22 rfl (R + 1 + 1) 35 i0 (.slice none 0 0) 1 24 Try.underlying22 hi0 hz0 hz1 hz2 rfl (by decide) _ _ _ rfl (HQ2.out.alloc _) ⟨wb.heap.size, 0, none⟩ 1 1 [.slice (some ⟨M, 0, none⟩) d d] rfl rfl HNW.out (one_slice _ _ _) ?d3 ?d4 HSR.out ?_))
        case d3 => unfold maxLen; omega
        case d4 => omega
        intro v' w5 ho hg _
        obtain ⟨vo, vc, hv5⟩ := owns_form ho
        subst hv5
        obtain ⟨g1, g2, g3⟩ := HQ4.out _ w5 ho hg
        have HF : Hid (NpI w R (R + 1) d (crU d (k + 1)) (w5.setCell ⟨R + 1, 1, none⟩ (.slice vo (k + 1) vc))) := g3
        clear g3 ho hg q1 q1a
        go_wp2
        go_roundw
        case rel => exact ⟨k + 1, by omega, by go_num, HF.out⟩
        case measure => simp [intOf]; omega
      · have hkr : (k : Int) % 2 = 1 := by omega
        have HSN : Hid (crU d (k + 1) = crU d k ++ [axN d p 1]) := by show _ = _; rw [hp]; exact crU_odd d k hpar
        have HLN : Hid ((crU d k).length = k) := crU_len d k
        obtain ⟨wb, hwb⟩ : ∃ wb, wb = wa.alloc (.cells (madeCells #[.int .i64 0] d) 3) := ⟨_, rfl⟩
        obtain ⟨M, hM⟩ : ∃ M, M = wa.heap.size := ⟨_, rfl⟩
        have ho : wb.ownsRow M 3 1 (.slice (some ⟨M, 0, none⟩) d d) d (ints (List.replicate d 0)) := by rw [hwb, hM]; exact made_ownN wa d (by unfold maxLen; omega)
        have hbb : Below M wa wb := by rw [hwb, hM]; exact (Below.refl _ _).alloc (Nat.le_refl _) _
      
        have e1 : wb.cell? ⟨M, p, none⟩ = some (.int .i64 0) := by
          rw [ho.cellAt p (by omega), ints_get _ p (by simp; omega)]
          simp [hpd]
        have e2 : wb.frozen? ⟨M, p, none⟩ = false := ho.frozenAt p
        obtain ⟨wc, hwc⟩ : ∃ wc, wc = wb.setCell ⟨M, p, none⟩ (.int .i64 1) := ⟨_, rfl⟩
        have hsl : Sl 0 3 wc (.slice (some ⟨M, 0, none⟩) d d) (ints (axN d p 1)) := by
          have h := (ho.stored p (.int .i64 1)).1
          rw [← ints_setN, ← hwc] at h
          exact Sl.own h
        have hbc : Below wa.heap.size wa wc := by rw [hwc, ← hM]; exact below_setN hbb (Nat.le_refl _)
        obtain ⟨bo, bc, vs, q1, q2, q3, q4⟩ := HJ.out.push hbc hsl
        rw [HLN.out] at q1 q2 q4
        rw [← HSN.out] at q4
        have HQ2 : Hid (wc.ownsRow (R + 1 + 1) 35 1 (.slice bo k bc) k vs) := q2
        have HQ4 : Hid (∀ v' w5, w5.ownsRow (R + 1 + 1) 35 1 v' (k + 1) (vs ++ [.slice (some ⟨M, 0, none⟩) d d]) → (wc.alloc (.cells #[.slice (some ⟨M, 0, none⟩) d d] 35)).grownBy w5 (Value.slice bo k bc).ownBlock → w5.cell? ⟨R + 1, 1, none⟩ = some (.slice bo k bc) ∧ w5.frozen? ⟨R + 1, 1, none⟩ = false ∧ NpI w R (R + 1) d (crU d (k + 1)) (w5.setCell ⟨R + 1, 1, none⟩ v')) := q4
        have q1a : (wc.alloc (.cells #[.slice (some ⟨M, 0, none⟩) d d] 35)).cell? ⟨R + 1, 1, none⟩ = some (.slice bo k bc) := (((Below.refl wc.heap.size wc).alloc (Nat.le_refl _) _).cell (lt_of_cell q1)).trans q1
        have hszR : R + 1 + 1 ≤ wc.heap.size := q3
        have pI : (p : Int) < (d : Int) := by omega
        have pI0 : (0 : Int) ≤ (p : Int) := by omega
        have hmk2 : (Instr.makeSlice 35 (.int .i64 (d : Int)) (.int .i64 (d : Int))).run Try.prog wa = .ok (.slice (some ⟨M, 0, none⟩) d d) wb := by rw [hwb, hM]; exact HMK.out wa
        clear q2 q4 hsl hbc ho hbb HJ hwb hM hp hpar
        subst hwc
        have HNW : Hid (∀ j u, [Value.slice (some ⟨M, 0, none⟩) d d][j]? = some u → ((wb.setCell ⟨M, p, none⟩ (.int .i64 1)).alloc (.cells #[.slice (some ⟨M, 0, none⟩) d d] 35)).cell? ((⟨wb.heap.size, 0, none⟩ : Addr).add j) = some u) := by
          have h := one_new (wb.setCell ⟨M, p, none⟩ (.int .i64 1)) (.slice (some ⟨M, 0, none⟩) d d) 35
          rw [show (wb.setCell ⟨M, p, none⟩ (.int .i64 1)).heap.size = wb.heap.size by simp [World.setCell]] at h
          exact h
        have HSR : Hid (R + 1 + 1 ≤ ((wb.setCell ⟨M, p, none⟩ (.int .i64 1)).alloc (.cells #[.slice (some ⟨M, 0, none⟩) d d] 35)).heap.size) := by show _ ≤ _; simp at hszR ⊢; omega
        go_wp2_with (first | (at_builtin; refine wpList_append_own _ rfl _ _ 22 rfl (R + 1 + 1) 35 i0 (.slice none 0 0) 1 24 Try.underlying22 hi0 hz0 hz1 hz2 rfl (by decide) _ _ _ rfl (HQ2.out.alloc _) ⟨wb.heap.size, 0, none⟩ 1 1 [.slice (some ⟨M, 0, none⟩) d d] rfl rfl HNW.out (one_slice _ _ _) ?d3 ?d4 HSR.out ?_))
        case d3 => unfold maxLen; omega
        case d4 => omega
        intro v' w5 ho hg _
        obtain ⟨vo, vc, hv5⟩ := owns_form ho
        subst hv5
        obtain ⟨g1, g2, g3⟩ := HQ4.out _ w5 ho hg
        have HF : Hid (NpI w R (R + 1) d (crU d (k + 1)) (w5.setCell ⟨R + 1, 1, none⟩ (.slice vo (k + 1) vc))) := g3
        clear g3 ho hg q1 q1a
        go_wp2
        go_roundw
        case rel => exact ⟨k + 1, by omega, by go_num, HF.out⟩
        case measure => simp [intOf]; omega
    · have hke : 2 * d = k := by omega
      subst hke
      have HK := HJ.out
      rw [crU_all] at HK
      obtain ⟨bo, bc, m0, m1, r0, r1, rf0, rf1, hmat, hbel⟩ := HK.fin
      have HMT : Hid (Mat 0 35 3 ((wa.setCell ⟨R, 0, none⟩ (.int .i64 (d : Int))).setCell ⟨R, 1, none⟩ (.slice bo (crsT d d).length bc)) (.slice bo (crsT d d).length bc) (crsT d d)) := hmat
      have HBX : Hid (Below w.heap.size w ((wa.setCell ⟨R, 0, none⟩ (.int .i64 (d : Int))).setCell ⟨R, 1, none⟩ (.slice bo (crsT d d).length bc))) := hbel
      clear hmat hbel HJ HK
      generalize (crsT d d).length = cl at *
      go_wp2
      exact bodyPost_ret (v := .tuple #[.agg #[.int .i64 (d : Int), .slice bo cl bc], .int .i64 0]) (by simp [results, Try.results9, go_sem, *]) rfl ⟨_, rfl, HMT.out, HBX.out⟩

end Go.Proofs.Ytiadekblckngiaa
