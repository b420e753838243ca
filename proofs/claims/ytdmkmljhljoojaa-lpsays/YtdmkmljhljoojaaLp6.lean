/- A multiple of a list, added (the document's Added). -/
import Derived.Test.YtdmkmljhljoojaaLp5
namespace Go.Proofs.Ytdmkmljhljoojaa
open Go.RowKit
attribute [local go_sem ↓] Go.wp_at_zero Go.wp_at_succ

def addM (m : Int) (a b : List Int) : List Int := (List.range a.length).map fun i => a.getD i 0 + m * b.getD i 0

theorem addM_length (m : Int) (a b : List Int) : (addM m a b).length = a.length := by simp [addM]

theorem addM_snoc (m : Int) (a b : List Int) (k : Nat) (h : k < a.length) : (addM m a b).take (k + 1) = (addM m a b).take k ++ [a.getD k 0 + m * b.getD k 0] := by
  rw [List.take_succ_eq_append_getElem (by rw [addM_length]; exact h)]
  congr 1
  simp [addM]

set_option maxRecDepth 100000 in
set_option maxHeartbeats 1600000 in
theorem addedM_any (B : Nat) (m : Int) (a b : List Int) (u v : Value) (w : World) (hu : Sl B 3 w u (ints a)) (hv : Sl B 3 w v (ints b)) (hl : a.length ≤ b.length) (hn : a.length ≤ 100) (hmm : m.natAbs ≤ 1000000000) (ha : ∀ z ∈ a, z.natAbs ≤ 1000000000000) (hb : ∀ z ∈ b, z.natAbs ≤ 20) :
    Calls Try.prog 24 #[u, v, .int .i64 m] w fun e w' => ∃ x, e = .returned x ∧ w'.ownsRow w.heap.size 3 1 x a.length (ints (addM m a b)) ∧ Below w.heap.size w w' := by
  obtain ⟨i3, hi3, hz30, hz31, hz32⟩ := info_parts Try.info3
  obtain ⟨ao, cap, huu, hlc, hcm⟩ := sl_open hu
  obtain ⟨bo, cbp, hvv, hlb, hcb⟩ := sl_open hv
  subst huu hvv
  have HU : Hid (Sl B 3 w (.slice ao a.length cap) (ints a)) := hu
  have HV : Hid (Sl B 3 w (.slice bo b.length cbp) (ints b)) := hv
  have HA : Hid (∀ z ∈ a, z.natAbs ≤ 1000000000000) := ha
  have HBB : Hid (∀ z ∈ b, z.natAbs ≤ 20) := hb
  clear hu hv ha hb
  obtain ⟨M, hM⟩ : ∃ M, M = w.heap.size := ⟨_, rfl⟩
  have HM : Hid (M = w.heap.size) := hM
  rw [← hM]
  clear hM
  go_enter Try.func24, Try.ntmps24
  go_wp2
  go_loopw [7, 8] (fun x i wq => ∃ j : Nat, j ≤ a.length ∧ i = .int .i64 j ∧ wq.ownsRow M 3 1 x j (ints ((addM m a b).take j)) ∧ Below M w wq) (fun _ i _ => a.length - (intOf i).toNat)
  case atStart => exact ⟨0, Nat.zero_le _, rfl, World.ownsRow_nil _ _ _ _, Below.refl _ _⟩
  case round =>
    obtain ⟨j, hj, rfl, hown, hbel⟩ := hrel
    have HO : Hid (wr.ownsRow M 3 1 u7 j (ints ((addM m a b).take j))) := hown
    have HBq : Hid (Below M w wr) := hbel
    have hszq : M ≤ wr.heap.size := by have := hbel.size; rw [HM.out]; exact this
    clear hown hbel
    by_cases hjl : j < a.length
    · obtain ⟨b1, o1, cp1, hs1, hc1, hcc1a⟩ := sl_cell HU.out hjl
      simp only [Value.slice.injEq] at hs1
      obtain ⟨rfl, _, rfl⟩ := hs1
      obtain ⟨b2, o2, cp2, hs2, hc2, hcc2a⟩ := sl_cell HV.out (k := j) (by omega)
      simp only [Value.slice.injEq] at hs2
      obtain ⟨rfl, _, rfl⟩ := hs2
      have hx := HA.out (a.getD j 0) (by simp [hjl])
      have hy := HBB.out (b.getD j 0) (by simp [show j < b.length by omega])
      have HZ : Hid ((addM m a b).take (j + 1) = (addM m a b).take j ++ [a.getD j 0 + m * b.getD j 0]) := addM_snoc m a b j hjl
      have HLL : Hid (((addM m a b).take j).length = j) := by
        show _ = _
        rw [List.length_take, addM_length]; omega
      generalize a.getD j 0 = x at *
      generalize b.getD j 0 = y at *
      have hcc1 : wr.cell? ⟨b1, o1 + j, none⟩ = some (.int .i64 x) := (HBq.out.cell (by rw [HM.out]; exact lt_of_cell hcc1a)).trans hcc1a
      have hcc2 : wr.cell? ⟨b2, o2 + j, none⟩ = some (.int .i64 y) := (HBq.out.cell (by rw [HM.out]; exact lt_of_cell hcc2a)).trans hcc2a
      have KA : Hid (((b1 < M ∧ w.cell? ⟨b1, o1 + j, none⟩ = some (.int .i64 x)) ∧ (b2 < M ∧ w.cell? ⟨b2, o2 + j, none⟩ = some (.int .i64 y))) ∧ (b1 < M ∧ w.cell? ⟨b1, o1 + j, none⟩ = some (.int .i64 x))) := by
        rw [HM.out]; exact ⟨⟨⟨lt_of_cell hcc1a, hcc1a⟩, ⟨lt_of_cell hcc2a, hcc2a⟩⟩, ⟨lt_of_cell hcc1a, hcc1a⟩⟩
      clear hcc1a hcc2a
      have hjI : (j : Int) < (a.length : Int) := by omega
      have hjI2 : (j : Int) < (b.length : Int) := by omega
      have hjI0 : (0 : Int) ≤ (j : Int) := by omega
      have hxy : (m * y).natAbs ≤ 1000000000 * 20 := by rw [Int.natAbs_mul]; exact Nat.mul_le_mul hmm hy
      have hw1 : IntKind.i64.wrap (m * y) = m * y := by rw [IntWalk.i64_left]; exact IntWalk.wrap64_in _ ⟨by omega, by omega⟩
      have hw2 : IntKind.i64.wrap (x + m * y) = x + m * y := by rw [IntWalk.i64_left]; exact IntWalk.wrap64_in _ ⟨by omega, by omega⟩
      clear hx hy hxy
      go_wp2
      go_region_held3 (fun w' => w'.cell? ⟨b1, o1 + j, none⟩ = some (.int .i64 x) ∧ w'.cell? ⟨b2, o2 + j, none⟩ = some (.int .i64 y) ∧ w'.cell? ⟨b1, o1 + j, none⟩ = some (.int .i64 x)) (first | go_keep | exact KS.out)
        ((refine step_append_own (by rfl) _ _ 25 (by rfl) M 3 i3 (.int .i64 0) 1 8 Try.underlying25 hi3 hz30 hz31 hz32 rfl (by decide) _ _ _ (by rfl) (HO.out.drew.alloc _) ⟨wr.heap.size, 0, none⟩ 1 1 [.int .i64 (x + m * y)] (by rfl) rfl (one_new _ _ _) (one_int _) (by unfold maxLen; omega) (by omega) (by simp; omega) ?_; intro v' w3 ho hg; have RR := push3 HBq.out hszq HLL.out HO.out ho hg (hz := HZ.out); have KS := keep3 (a1 := ⟨b1, o1 + j, none⟩) (a2 := ⟨b2, o2 + j, none⟩) (a3 := ⟨b1, o1 + j, none⟩) RR.2 KA.out))
      have R1 : Hid (w3.ownsRow M 3 1 v' (j + 1) (ints ((addM m a b).take (j + 1)))) := RR.1
      have R2 : Hid (Below M w w3) := RR.2
      clear RR ho hg KS
      go_wp2
      go_roundw
      case rel => exact ⟨j + 1, by omega, by go_num, R1.out, R2.out⟩
      case measure => simp [intOf]; omega
    · have hje : j = a.length := by omega
      have HOF : Hid (wr.ownsRow M 3 1 u7 a.length (ints (addM m a b))) := by
        have h := HO.out
        rw [List.take_of_length_le (by rw [addM_length]; omega), hje] at h
        exact h
      clear hje
      go_wp2
      go_ret
      exact ⟨_, rfl, HOF.out, HBq.out⟩

end Go.Proofs.Ytdmkmljhljoojaa
