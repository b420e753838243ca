/- The program's normal where no difference is left: in one dimension. -/
import Derived.Test.YthkppoggcenkbaaRun12
namespace Go.Proofs.Ythkppoggcenkbaa
open Go.RowKit Lin
attribute [local go_sem ↓] Go.wp_at_zero Go.wp_at_succ

def nil4 : Array Value := #[.slice none 0 0, .slice none 0 0, .int .i64 1, .int .i64 1]

set_option maxRecDepth 100000 in
set_option maxHeartbeats 400000 in
theorem pivot_nil (R q : Nat) (w : World) (h : w.heap[R]? = some (.cells nil4 64 (0, 0))) :
    Calls Try.prog 60 #[.pointer (some ⟨R, 0, none⟩), .int .i64 q] w fun e w' => e = .returned (.tuple #[]) ∧ w'.heap[R]? = some (.cells nil4 64 (0, 0)) ∧ Below w.heap.size w w' := by
  have hRlt := lt_of_block h
  have h0 : w.cell? ⟨R, 0, none⟩ = some (.slice none 0 0) := by simp [World.cell?, h, nil4]
  have h1 : w.cell? ⟨R, 1, none⟩ = some (.slice none 0 0) := by simp [World.cell?, h, nil4]
  have HAL : Hid (Below w.heap.size w (w.alloc (.cells #[.int .i64 q] 3))) := (Below.refl _ _).alloc (Nat.le_refl _) _
  have HE : Hid (findR [] q = -1) := rfl
  have HH : Hid (w.heap[R]? = some (.cells nil4 64 (0, 0))) := h
  clear h
  go_enter Try.func60, Try.ntmps60
  go_wp2_with fail
  refine (index103_any 0 q [] _ ⟨w.heap.size, 0, none⟩ _ ⟨[], rfl, Sl.nil _ _ _, fun i hi => absurd hi (by simp)⟩ (fun r hr => absurd hr (by simp)) (by simp)).mono ?_
  rintro e w' ⟨rfl, rfl⟩
  rw [HE.out]
  go_wp2
  exact bodyPost_ret (v := .tuple #[]) (by simp [results, Try.results60, go_sem]) rfl ⟨rfl, by rw [HAL.out.block R hRlt]; exact HH.out, HAL.out⟩

set_option maxRecDepth 100000 in
set_option maxHeartbeats 400000 in
theorem reduce_nil (ao : Option Addr) (cap : Nat) (w : World) :
    Calls Try.prog 44 #[.slice ao 0 cap, .int .i64 1] w fun e w' => e = .returned (.agg nil4) ∧ Below w.heap.size w w' := by
  go_enter Try.func44, Try.ntmps44
  go_wp2
  obtain ⟨W0, hW0⟩ : ∃ W0, W0 = (w.alloc (.cells #[.slice none 0 0, .slice none 0 0, .int .i64 0, .int .i64 0] 64)).alloc (.cells #[.slice none 0 0, .slice none 0 0, .int .i64 1, .int .i64 1] 64) := ⟨_, rfl⟩
  obtain ⟨R, hR⟩ : ∃ R, R = w.heap.size + 1 := ⟨_, rfl⟩
  rw [← hW0, ← hR]
  have HR : Hid (R = w.heap.size + 1) := hR
  have HG0 : Hid (W0.heap[R]? = some (.cells nil4 64 (0, 0))) := by
    rw [hW0, hR]
    have e : (w.alloc (.cells #[.slice none 0 0, .slice none 0 0, .int .i64 0, .int .i64 0] 64)).heap.size = w.heap.size + 1 := by simp
    rw [← e]; exact alloc_at _ _
  have HB0 : Hid (Below w.heap.size w W0) := by rw [hW0]; exact ((Below.refl _ _).alloc (Nat.le_refl _) _).alloc (by simp) _
  have HK0 : Hid (W0.heap[w.heap.size]? = some (.cells #[.slice none 0 0, .slice none 0 0, .int .i64 0, .int .i64 0] 64 (0, 0))) := by
    show _ = _
    rw [hW0, Below.heap_alloc _ _ _ (by simp)]; exact alloc_at _ _
  clear hW0 hR
  go_loopw [12, 7] (fun i _ wr => i = .int .i64 0 ∧ wr = W0) (fun _ _ _ => 0)
  case atStart => exact ⟨rfl, rfl⟩
  case round =>
    obtain ⟨rfl, rfl⟩ := hrel
    obtain ⟨wz, rfl⟩ : ∃ wz, wz = wr := ⟨wr, rfl⟩
    go_wp2
    go_loopw [25, 8] (fun i _ wx => ∃ q : Nat, q ≤ 1 ∧ i = .int .i64 q ∧ wx.heap[R]? = some (.cells nil4 64 (0, 0)) ∧ Below wz.heap.size wz wx) (fun i _ _ => 1 - (intOf i).toNat)
    case atStart => exact ⟨0, Nat.zero_le _, rfl, HG0.out, Below.refl _ _⟩
    case round =>
      obtain ⟨q, hq, rfl, hg, hb⟩ := hrel
      have HB : Hid (Below wz.heap.size wz wr) := hb
      have HG : Hid (wr.heap[R]? = some (.cells nil4 64 (0, 0))) := hg
      clear hg hb
      by_cases hq1 : q < 1
      · go_wp2_with fail
        refine (pivot_nil R q wr HG.out).mono ?_
        rintro e w2 ⟨rfl, hg2, hb2⟩
        have S1 : Hid (w2.heap[R]? = some (.cells nil4 64 (0, 0))) := hg2
        have S2 : Hid (Below wz.heap.size wz w2) := HB.out.trans (hb2.mono HB.out.size)
        clear hg2 hb2
        go_wp2
        go_roundw
        case rel => exact ⟨q + 1, by omega, by go_num, S1.out, S2.out⟩
        case measure => simp [intOf]; omega
      · have hr := HG.out
        have c0 : wr.cell? ⟨R, 0, none⟩ = some (.slice none 0 0) := by simp [World.cell?, hr, nil4]
        have c1 : wr.cell? ⟨R, 1, none⟩ = some (.slice none 0 0) := by simp [World.cell?, hr, nil4]
        have c2 : wr.cell? ⟨R, 2, none⟩ = some (.int .i64 1) := by simp [World.cell?, hr, nil4]
        have c3 : wr.cell? ⟨R, 3, none⟩ = some (.int .i64 1) := by simp [World.cell?, hr, nil4]
        have hk : wr.heap[w.heap.size]? = some (.cells #[.slice none 0 0, .slice none 0 0, .int .i64 0, .int .i64 0] 64 (0, 0)) := (HB.out.block _ (lt_of_block HK0.out)).trans HK0.out
        have k0 : wr.cell? ⟨w.heap.size, 0, none⟩ = some (.slice none 0 0) := by simp [World.cell?, hk]
        have k1 : wr.cell? ⟨w.heap.size, 1, none⟩ = some (.slice none 0 0) := by simp [World.cell?, hk]
        have k2 : wr.cell? ⟨w.heap.size, 2, none⟩ = some (.int .i64 0) := by simp [World.cell?, hk]
        have k3 : wr.cell? ⟨w.heap.size, 3, none⟩ = some (.int .i64 0) := by simp [World.cell?, hk]
        have kf : ∀ i, wr.frozen? ⟨w.heap.size, i, none⟩ = false := fun i => by simp [World.frozen?, hk]
        have f0 := kf 0
        have f1 := kf 1
        have f2 := kf 2
        have f3 := kf 3
        have HFN : Hid (∀ x0 x1 x2 x3, Below w.heap.size w ((((wr.setCell ⟨w.heap.size, 0, none⟩ x0).setCell ⟨w.heap.size, 1, none⟩ x1).setCell ⟨w.heap.size, 2, none⟩ x2).setCell ⟨w.heap.size, 3, none⟩ x3)) := by
          intro x0 x1 x2 x3
          exact ((((HB0.out.trans (HB.out.mono HB0.out.size)).setCell (by exact Nat.le_refl _) _).setCell (by exact Nat.le_refl _) _).setCell (by exact Nat.le_refl _) _).setCell (by exact Nat.le_refl _) _
        have hq' : q = 1 := by omega
        subst hq'
        clear hr hk kf hq1 hq
        go_wp2
        refine bodyPost_ret (v := .agg nil4) (by simp [results, Try.results44, go_sem, nil4, *]) rfl ?_
        exact ⟨rfl, HFN.out _ _ _ _⟩

set_option maxRecDepth 100000 in
set_option maxHeartbeats 400000 in
theorem normal_nil (ao : Option Addr) (cap : Nat) (w : World) :
    Calls Try.prog 27 #[.slice ao 0 cap, .int .i64 1] w fun e w' => ∃ x, e = .returned (.tuple #[x, .bool true]) ∧ Sl w.heap.size 3 w' x (ints [1]) ∧ Below w.heap.size w w' := by
  go_enter Try.func27, Try.ntmps27
  go_wp2_with fail
  refine (reduce_nil ao cap w).mono ?_
  rintro e w2 ⟨rfl, hb⟩
  obtain ⟨w3, hw3⟩ : ∃ w3, w3 = w2.alloc (.cells #[.slice none 0 0, .slice none 0 0, .int .i64 1, .int .i64 1] 64) := ⟨_, rfl⟩
  have HB3 : Hid (Below w.heap.size w w3) := by rw [hw3]; exact hb.alloc hb.size _
  have HC3 : Hid (w3.heap[w2.heap.size]? = some (.cells #[.slice none 0 0, .slice none 0 0, .int .i64 1, .int .i64 1] 64 (0, 0))) := by rw [hw3]; exact alloc_at _ _
  have HW3 : Hid (w3 = w2.alloc (.cells #[.slice none 0 0, .slice none 0 0, .int .i64 1, .int .i64 1] 64)) := hw3
  have HS3 : Hid (w2.heap.size < w3.heap.size) := by rw [hw3]; show _ < _; simp
  clear hb hw3
  unfold nil4
  go_wp2_with fail
  rw [← HW3.out]
  refine (free_col w2.heap.size 0 0 none _ _ _ (fun _ => 0) w.heap.size w3 (by omega) (fun b hb => by omega) HC3.out (Sl.nil _ _ _)).mono ?_
  rintro e w4 ⟨f, rfl, hfk, _, _, hw4⟩
  subst hw4
  have hf0 : f = 0 := by omega
  subst hf0
  clear HW3 hfk
  have c1 : w4.cell? ⟨w2.heap.size, 1, none⟩ = some (.slice none 0 0) := by simp [World.cell?, HC3.out]
  have c2 : w4.cell? ⟨w2.heap.size, 2, none⟩ = some (.int .i64 1) := by simp [World.cell?, HC3.out]
  have hs3 := HS3.out
  have hmk : ∀ w : World, (Instr.makeSlice 28 (.int .i64 1) (.int .i64 1)).run Try.prog w = .ok (.slice (some ⟨w.heap.size, 0, none⟩) 1 1) (w.alloc (.cells (madeCells #[.int .i64 0] 1) 3)) := run_make_row' (P := Try.prog) 28 3 (.int .i64 0) 8 Try.underlying28 Try.info3 rfl .i64 .i64 1 (by omega) (by omega)
  have hmc : (madeCells #[.int .i64 0] 1)[0]? = some (.int .i64 0) := by
    rw [← Array.getElem?_toList, toList_madeCells_one]; simp
  have hne : w2.heap.size ≠ w4.heap.size := by omega
  have hne' : w4.heap.size ≠ w2.heap.size := by omega
  have HG0 : Hid ((w4.alloc (.cells ((madeCells #[.int .i64 0] 1).setIfInBounds 0 (.int .i64 1)) 3)).rowIs w4.heap.size 3 1 (fun _ => .int .i64 1) ∧ Below w4.heap.size w4 (w4.alloc (.cells ((madeCells #[.int .i64 0] 1).setIfInBounds 0 (.int .i64 1)) 3))) := by
    have e : (w4.alloc (.cells (madeCells #[.int .i64 0] 1) 3)).setCell ⟨w4.heap.size, 0, none⟩ (.int .i64 1) = w4.alloc (.cells ((madeCells #[.int .i64 0] 1).setIfInBounds 0 (.int .i64 1)) 3) := by simp [go_sem]
    refine ⟨?_, (Below.refl _ _).alloc (Nat.le_refl _) _⟩
    rw [← e]
    exact ((World.rowIs_made w4 (.int .i64 0) 1 3).set 0 (.int .i64 1)).congr fun j hj => by simp [show j = 0 by omega]
  go_wp2
  obtain ⟨w5, hw5⟩ : ∃ w5, w5 = w4.alloc (.cells ((madeCells #[.int .i64 0] 1).setIfInBounds 0 (.int .i64 1)) 3) := ⟨_, rfl⟩
  rw [← hw5] at HG0 ⊢
  clear hw5
  go_loopw [31, 9, 10] (fun i _ _ wr => i = .int .i64 0 ∧ wr = w5) (fun _ _ _ _ => 0)
  case atStart => exact ⟨rfl, rfl⟩
  case round =>
    obtain ⟨rfl, rfl⟩ := hrel
    have HSL : Hid (∀ B, Sl B 3 wr (.slice (some ⟨w4.heap.size, 0, none⟩) 1 1) (ints [1])) := by
      intro B
      exact Sl.row HG0.out.1 (by simp) (by unfold maxLen; omega) fun i hi => by simp [ints, show i = 0 by omega]
    have HLO : Hid (Lin.low [1] = [1] ∧ Lin.upr [1] = [1]) := by
      show _ ∧ _
      decide
    go_wp2_with fail
    refine (primitive_any w.heap.size [1] _ wr (HSL.out _) (by simp) (fun z hz => by simp at hz; subst hz; decide)).mono ?_
    rintro e w6 ⟨u, rfl, hs6, hb6⟩
    rw [HLO.out.1] at hs6
    obtain ⟨uo, uc, hu, _, _⟩ := sl_open (hs6 0)
    subst hu
    go_wp2_with fail
    refine (upright_any w.heap.size [1] _ w6 (hs6 _) (by simp) (fun z hz => by simp at hz; subst hz; decide)).mono ?_
    rintro e w7 ⟨y, rfl, hs7, hb7⟩
    rw [HLO.out.2] at hs7
    obtain ⟨yo, yc, hy, _, _⟩ := sl_open hs7
    subst hy
    have HS7 : Hid (Sl w.heap.size 3 w7 (.slice yo [(1 : Int)].length yc) (ints [1])) := hs7
    have HB7 : Hid (Below w.heap.size w w7) := by
      have h3 := HB3.out
      have h4 : Below w.heap.size w4 wr := HG0.out.2.mono h3.size
      have h5 : Below w.heap.size wr w6 := hb6.mono (Nat.le_trans h3.size HG0.out.2.size)
      have h6 : Below w.heap.size w6 w7 := hb7.mono (Nat.le_trans (Nat.le_trans h3.size HG0.out.2.size) hb6.size)
      exact ((h3.trans h4).trans h5).trans h6
    clear hs6 hs7 hb6 hb7
    go_wp2
    go_ret2
    exact ⟨_, rfl, HS7.out, HB7.out⟩

end Go.Proofs.Ythkppoggcenkbaa
