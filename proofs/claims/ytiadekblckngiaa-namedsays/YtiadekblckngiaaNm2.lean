/- named.noughtsAndOnes. -/
import Derived.Test.YtiadekblckngiaaNm1
namespace Go.Proofs.Ytiadekblckngiaa
open Go.RowKit
attribute [local go_sem ↓] Go.wp_at_zero Go.wp_at_succ

theorem dig_bits : ∀ n, n < 5 → ∀ k : Nat, k < 16 → ∀ j, j < n → bits BinOp.and IntKind.i64 ((k : Int) / 2 ^ (n - 1 - j)) 1 = ((k / 2 ^ (n - 1 - j) % 2 : Nat) : Int) := by decide +kernel

set_option maxRecDepth 100000 in
set_option maxHeartbeats 1600000 in
theorem noughts_any (n : Nat) (w : World) (hn1 : 1 ≤ n) (hn : n ≤ 4) :
    Calls Try.prog 13 #[.int .i64 (n : Int)] w fun e w' => ∃ u, e = .returned u ∧ Fr w.heap.size 35 3 w' u (cubT n (2 ^ n)) ∧ Below w.heap.size w w' := by
  obtain ⟨i0, hi, hz0, hz1, hz2⟩ := info_parts infoSlN
  have hmk := mk_any n hn
  obtain ⟨tn, htn⟩ : ∃ tn : Nat, tn = 2 ^ n := ⟨_, rfl⟩
  have htI : (2 : Int) ^ n = (tn : Int) := by rw [htn]; simp
  have ht16 : tn ≤ 16 := by rw [htn]; exact Nat.pow_le_pow_right (by decide) hn
  rw [← htn]
  clear htn
  go_enter Try.func13, Try.ntmps13
  go_wp2
  go_loopw [3, 4, 5, 6, 9] (fun x _ _ _ i wr => ∃ k : Nat, k ≤ tn ∧ i = .int .i64 (k : Int) ∧ Fr w.heap.size 35 3 wr x (cubT n k) ∧ Below w.heap.size w wr) (fun _ _ _ _ i _ => tn - (intOf i).toNat)
  case atStart => exact ⟨0, Nat.zero_le _, rfl, Fr.nil _ _ _ _, Below.refl _ _⟩
  case round =>
    obtain ⟨k, hk, rfl, hf, hb⟩ := hrel
    have HF : Hid (Fr w.heap.size 35 3 wr u3 (cubT n k)) := hf
    have HB : Hid (Below w.heap.size w wr) := hb
    clear hf hb
    by_cases hlt : k < tn
    · have HSN : Hid (cubT n (k + 1) = cubT n k ++ [digL n k]) := cubT_succ n k
      have HLN : Hid ((cubT n k).length = k) := cubT_len n k
      obtain ⟨W1, hW1⟩ : ∃ W1, W1 = wr.alloc (.cells (madeCells #[.int .i64 0] n) 3) := ⟨_, rfl⟩
      obtain ⟨M, hM⟩ : ∃ M, M = wr.heap.size := ⟨_, rfl⟩
      have HO : W1.ownsRow M 3 1 (.slice (some ⟨M, 0, none⟩) n n) n (ints (digT n k 0)) := by rw [hW1, hM, digT_zero]; exact made_ownN wr n (by unfold maxLen; omega)
      have HB1 : Below M wr W1 := by rw [hW1, hM]; exact (Below.refl _ _).alloc (Nat.le_refl _) _
      have HX : Hid (W1.ownsRow M 3 1 (.slice (some ⟨M, 0, none⟩) n n) n (ints (digT n k 0)) ∧ Below M wr W1) := ⟨HO, HB1⟩
      have HM : Hid (M = wr.heap.size) := hM
      have hMw : w.heap.size ≤ M := by rw [hM]; exact HB.out.size
      clear HO HB1
      go_wp2
      rw [← hW1, ← hM]
      clear hW1 hM
      go_loopw [6, 15] (fun _ i wq => ∃ j : Nat, j ≤ n ∧ i = .int .i64 (j : Int) ∧ wq.ownsRow M 3 1 (.slice (some ⟨M, 0, none⟩) n n) n (ints (digT n k j)) ∧ Below M wr wq) (fun _ i _ => n - (intOf i).toNat)
      case atStart => exact ⟨0, Nat.zero_le _, rfl, HX.out.1, HX.out.2⟩
      case round =>
        obtain ⟨j, hj, rfl, ho, hb⟩ := hrel
        rename World => wq
        clear HX
        by_cases hlj : j < n
        · have c1 : wq.cell? ⟨M, j, none⟩ = some (.int .i64 ((digT n k j).getD j 0)) := by
            rw [ho.cellAt j (by omega), ints_get _ j (by rw [digT_len]; exact hlj)]
          have c2 : wq.frozen? ⟨M, j, none⟩ = false := ho.frozenAt j
          generalize (digT n k j).getD j 0 = old at c1
          have jI : (j : Int) < (n : Int) := by omega
          have jI0 : (0 : Int) ≤ (j : Int) := by omega
          have HS : Hid ((wq.setCell ⟨M, j, none⟩ (.int .i64 (bits BinOp.and IntKind.i64 ((k : Int) / 2 ^ (n - 1 - j)) 1))).ownsRow M 3 1 (.slice (some ⟨M, 0, none⟩) n n) n (ints (digT n k (j + 1))) ∧ Below M wr (wq.setCell ⟨M, j, none⟩ (.int .i64 (bits BinOp.and IntKind.i64 ((k : Int) / 2 ^ (n - 1 - j)) 1)))) := by
            refine ⟨?_, below_setN hb (Nat.le_refl _)⟩
            have h := (ho.stored j (.int .i64 (bits BinOp.and IntKind.i64 ((k : Int) / 2 ^ (n - 1 - j)) 1))).1
            rw [← ints_setN] at h
            rw [digT_succ, ← dig_bits n (by omega) k (by omega) j hlj]
            exact h
          clear ho hb
          go_wp2
          exact ⟨⟨j + 1, by omega, by go_num, HS.out⟩, by simp [intOf]; omega⟩
        · have hje : j = n := by omega
          subst hje
          have HX : Hid (Sl 0 3 wq (.slice (some ⟨M, 0, none⟩) j j) (ints (digL j k))) := Sl.own ho
          have HB2 : Hid (Below w.heap.size w wq) := HB.out.trans (hb.mono hMw)
          obtain ⟨vs, g1, g2, g3⟩ := HF.out.below hb (by rw [HM.out]; exact Nat.le_refl _)
          rw [HLN.out] at g1 g2 g3
          have G1 : Hid (vs.length = k) := g1
          have G2 : Hid (wq.ownsRow w.heap.size 35 1 u3 k vs) := g2
          have G3 : Hid (∀ i, i < k → Sl 0 3 wq (vs.getD i (.slice none 0 0)) (ints ((cubT j k).getD i []))) := g3
          have hsz2 : w.heap.size ≤ wq.heap.size := HB2.out.size
          clear g1 g2 g3 ho hb
          go_wp2_with (first | (at_builtin; refine wpList_append_own _ rfl _ _ 22 rfl w.heap.size 35 i0 (.slice none 0 0) 1 24 Try.underlying22 hi hz0 hz1 hz2 rfl (by decide) _ _ _ rfl (G2.out.alloc _) ⟨wq.heap.size, 0, none⟩ 1 1 [.slice (some ⟨M, 0, none⟩) j j] rfl rfl (one_new _ _ _) (one_slice _ _ _) ?d3 ?d4 ?d5 ?_))
          case d3 => unfold maxLen; omega
          case d4 => omega
          case d5 => simp; omega
          intro v' w3 ho hg _
          have R1 : Hid (Fr w.heap.size 35 3 w3 v' (cubT j (k + 1))) := by
            have hp := Fr.push (e2 := 35) (e1 := 3) (m := cubT j k) (u := .slice (some ⟨M, 0, none⟩) j j) (zs := digL j k) (by decide) (by rw [HLN.out]; exact G1.out) (by rw [HLN.out]; exact G2.out.alloc _)
              (fun i hi => (G3.out i (by rw [HLN.out] at hi; exact hi)).alloc _) (HX.out.alloc _) (by rw [HLN.out]; exact ho) hg
            rw [← HSN.out] at hp
            exact hp
          have R2 : Hid (Below w.heap.size w w3) := (HB2.out.alloc (by omega) _).grown hg (by simp; omega) (fun x hx => (G2.out.lt x hx).1)
          clear ho hg
          go_wp2
          exact ⟨⟨k + 1, by omega, by go_num, R1.out, R2.out⟩, by simp [intOf]; omega⟩
    · have hke : k = tn := by omega
      subst hke
      go_wp2
      go_ret
      exact ⟨_, rfl, HF.out, HB.out⟩

end Go.Proofs.Ytiadekblckngiaa
