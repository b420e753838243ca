/- The program's products; points looked through for one beyond a row. -/
import Derived.Test.YtnjcpkodihfmdaaGreatDif1
import Derived.Test.YtnjcpkodihfmdaaGreatLinAll
import Derived.Test.YtnjcpkodihfmdaaGreatMade1
namespace Go.Proofs.YtnjcpkodihfmdaaGreat
open Go.RowKit
attribute [local go_sem ↓] Go.wp_at_zero Go.wp_at_succ

/-- The products, added. -/
def dotL (a x : List Int) : Int := Lin.sumN a.length fun i => a.getD i 0 * x.getD i 0

/-- Small enough that nothing passes 64 bits. -/
def Sm (a x : List Int) : Prop := a.length ≤ x.length ∧ a.length ≤ 8 ∧ (∀ z ∈ a, z.natAbs ≤ 1000000000000) ∧ ∀ z ∈ x, z.natAbs ≤ 1000

theorem mul_bd {a x : Int} (ha : a.natAbs ≤ 1000000000000) (hx : x.natAbs ≤ 1000) : (a * x).natAbs ≤ 1000000000000000 := by
  rw [Int.natAbs_mul]
  exact Nat.le_trans (Nat.mul_le_mul ha hx) (by decide)

theorem sum_sm {a x : List Int} (h : Sm a x) : ∀ k, k ≤ a.length → (Lin.sumN k fun i => a.getD i 0 * x.getD i 0).natAbs ≤ k * 1000000000000000 := by
  intro k
  induction k with
  | zero => intro _; simp [Lin.sumN]
  | succ k ih =>
    intro hk
    have h1 := ih (by omega)
    have h2 : (a.getD k 0 * x.getD k 0).natAbs ≤ 1000000000000000 := mul_bd (h.2.2.1 _ (by simp [show k < a.length by omega])) (h.2.2.2 _ (by simp [show k < x.length by have := h.1; omega]))
    simp only [Lin.sumN]
    omega

set_option maxRecDepth 100000 in
set_option maxHeartbeats 400000 in
theorem product_any (B : Nat) (a x : List Int) (u v : Value) (w : World) (hu : Sl B 3 w u (ints a)) (hv : Sl B 3 w v (ints x)) (hs : Sm a x) :
    Calls Tryz.prog 66 #[u, v] w fun e w' => e = .returned (.int .i64 (dotL a x)) ∧ ∃ n, w' = w.drewN n := by
  obtain ⟨ao, cap, hvv, hlc, hcm⟩ := sl_open hu
  obtain ⟨bo, cbp, huu, hlb, hcb⟩ := sl_open hv
  subst hvv huu
  have HU : Hid (Sl B 3 w (.slice ao a.length cap) (ints a)) := hu
  have HV : Hid (Sl B 3 w (.slice bo x.length cbp) (ints x)) := hv
  have HS : Hid (Sm a x) := hs
  have hle : a.length ≤ x.length := hs.1
  have hl8 : a.length ≤ 8 := hs.2.1
  clear hu hv hs
  go_enter Tryz.func66, Tryz.ntmps66
  go_wp2
  go_loopw [5, 9] (fun s i wr => ∃ k : Nat, k ≤ a.length ∧ i = .int .i64 k ∧ s = .int .i64 (Lin.sumN k fun i => a.getD i 0 * x.getD i 0) ∧ ∃ n, wr = w.drewN n) (fun _ i _ => a.length - (intOf i).toNat)
  case atStart => exact ⟨0, Nat.zero_le _, rfl, rfl, 0, rfl⟩
  case round =>
    obtain ⟨k, hk, rfl, rfl, n, rfl⟩ := hrel
    by_cases hlt : k < a.length
    · have hlt2 : k < x.length := by omega
      obtain ⟨b, o, cp, hs, hc1, hcc⟩ := sl_cell HU.out hlt
      simp only [Value.slice.injEq] at hs
      obtain ⟨rfl, _, rfl⟩ := hs
      obtain ⟨b2, o2, cp2, hs2, hc2, hcc2⟩ := sl_cell HV.out hlt2
      simp only [Value.slice.injEq] at hs2
      obtain ⟨rfl, _, rfl⟩ := hs2
      have h1 := sum_sm HS.out k hk
      have h2 := sum_sm HS.out (k + 1) (by omega)
      have h3 : (a.getD k 0 * x.getD k 0).natAbs ≤ 1000000000000000 := mul_bd (HS.out.2.2.1 _ (by simp [hlt])) (HS.out.2.2.2 _ (by simp [hlt2]))
      have HSU : Hid ((Lin.sumN (k + 1) fun i => a.getD i 0 * x.getD i 0) = (Lin.sumN k fun i => a.getD i 0 * x.getD i 0) + a.getD k 0 * x.getD k 0) := rfl
      rw [HSU.out] at h2
      generalize (Lin.sumN k fun i => a.getD i 0 * x.getD i 0) = S at *
      generalize a.getD k 0 = p at *
      generalize x.getD k 0 = q at *
      have e2 : wrap64 (S + wrap64 (p * q)) = S + p * q := by
        rw [IntWalk.wrap64_in (p * q) ⟨by omega, by omega⟩, IntWalk.wrap64_in _ ⟨by omega, by omega⟩]
      clear h1 h2 h3
      go_wp2
      go_quiet (fail)
      go_wp2
      go_roundw
      case rel => exact ⟨k + 1, by omega, by go_num, by rw [HSU.out, e2], _, rfl⟩
      case measure => simp [intOf]; omega
    · have hke : k = a.length := by omega
      subst hke
      go_wp2
      go_ret
      exact ⟨rfl, n, rfl⟩

set_option maxRecDepth 100000 in
set_option maxHeartbeats 400000 in
theorem look1_any (B : Nat) (a x : List Int) (b : Int) (u v : Value) (p1 p2 : Addr) (w : World) (hu : Sl B 3 w u (ints a)) (hv : Sl B 3 w v (ints x)) (hs : Sm a x) (h1 : w.cell? p1 = some u) (h2 : w.cell? p2 = some (.int .i64 b)) :
    Calls Tryz.prog 67 #[v, .pointer (some p1), .pointer (some p2)] w fun e w' => e = .returned (.bool (decide (b < dotL a x))) ∧ ∃ n, w' = w.drewN n := by
  obtain ⟨ao, cap, hvv, hlc, hcm⟩ := sl_open hu
  obtain ⟨bo, cbp, huu, hlb, hcb⟩ := sl_open hv
  subst hvv huu
  have HU : Hid (Sl B 3 w (.slice ao a.length cap) (ints a)) := hu
  have HV : Hid (Sl B 3 w (.slice bo x.length cbp) (ints x)) := hv
  have HS : Hid (Sm a x) := hs
  clear hu hv hs
  have HP : Hid (∀ n, Calls Tryz.prog 66 #[.slice ao a.length cap, .slice bo x.length cbp] (w.drewN n) fun e w' => e = .returned (.int .i64 (dotL a x)) ∧ ∃ k, w' = (w.drewN n).drewN k) := fun n => product_any B a x _ _ _ (HU.out.drewN n) (HV.out.drewN n) HS.out
  generalize dotL a x = D at *
  go_enter Tryz.func67, Tryz.ntmps67
  go_wp2
  go_region_law (refine step_call2 (o := { dst := some 7, op := _, type := _, pos := _, after := _, guard := _ }) (by rfl) 66 _ _ 22 22 (by rfl) _ _ (by rfl) (by rfl) ⟨_, Tryz.func66, by rfl, by rfl⟩ ?_; refine (HP.out 1).mono ?_; rintro e w2 ⟨rfl, k, rfl⟩; refine ⟨_, rfl, ?_⟩)
  all_goals
    go_wp2
    go_ret
    exact ⟨rfl, _, rfl⟩

set_option maxRecDepth 100000 in
set_option maxHeartbeats 800000 in
theorem index1_any (B : Nat) (a : List Int) (b : Int) (m : List (List Int)) (u v : Value) (p1 p2 : Addr) (w : World) (hu : Sl B 3 w u (ints a)) (hv : Mat B 22 3 w v m) (hs : ∀ x ∈ m, Sm a x) (h1 : w.cell? p1 = some u) (h2 : w.cell? p2 = some (.int .i64 b)) :
    Calls Tryz.prog 51 #[v, .func (.func 67) #[] #[.pointer (some p1), .pointer (some p2)]] w fun e w' => (∃ z, e = .returned (.int .i64 z) ∧ -1 ≤ z ∧ z < m.length ∧ decide (0 ≤ z) = m.any fun x => decide (b < dotL a x)) ∧ ∃ n, w' = w.drewN n := by
  obtain ⟨ao, cap, hvv, hlc, hcm⟩ := mat_open hv
  subst hvv
  have HU : Hid (Sl B 3 w u (ints a)) := hu
  have HV : Hid (Mat B 22 3 w (.slice ao m.length cap) m) := hv
  have HS : Hid (∀ x ∈ m, Sm a x) := hs
  have H1 : Hid (w.cell? p1 = some u) := h1
  have H2 : Hid (w.cell? p2 = some (.int .i64 b)) := h2
  clear hu hv hs h1 h2
  go_enter Tryz.func51, Tryz.ntmps51
  go_wp2
  go_loopw [8] (fun i wr => ∃ k : Nat, k ≤ m.length ∧ i = .int .i64 k ∧ (m.take k).any (fun x => decide (b < dotL a x)) = false ∧ ∃ n, wr = w.drewN n) (fun i _ => m.length - (intOf i).toNat)
  case atStart => exact ⟨0, Nat.zero_le _, rfl, by simp, 0, rfl⟩
  case round =>
    obtain ⟨k, hk, rfl, hno, n, rfl⟩ := hrel
    have HN : Hid ((m.take k).any (fun x => decide (b < dotL a x)) = false) := hno
    clear hno
    by_cases hlt : k < m.length
    · obtain ⟨b1, o, cp, r1, hs, hc1, hcc, hr1⟩ := mat_cell (HV.out.drewN n) hlt
      simp only [Value.slice.injEq] at hs
      obtain ⟨rfl, _, rfl⟩ := hs
      have HS1 : Hid ((m.take (k + 1)).any (fun x => decide (b < dotL a x)) = (fun x => decide (b < dotL a x)) (m.getD k [])) := anyR_snoc (p := fun x => decide (b < dotL a x)) hlt HN.out
      have HSM : Hid (Sm a (m.getD k [])) := HS.out _ (by simp [hlt])
      have HME : Hid (m.getD k [] ∈ m) := by
        show _ ∈ _
        simp [hlt]
      have HR1 : Hid (Sl B 3 (w.drewN n) r1 (ints (m.getD k []))) := hr1
      clear hr1
      generalize m.getD k [] = x at *
      go_wp2_with fail
      refine (look1_any B a x b u r1 p1 p2 (w.drewN n) (HU.out.drewN n) HR1.out HSM.out H1.out H2.out).mono ?_
      rintro e w' ⟨rfl, n2, rfl⟩
      cases hf : decide (b < dotL a x)
      · have HF : Hid (decide (b < dotL a x) = false) := hf
        clear hf
        go_wp2
        go_roundw
        case rel => exact ⟨k + 1, by omega, by go_num, by rw [HS1.out]; exact HF.out, _, rfl⟩
        case measure => simp [intOf]; omega
      · have HF : Hid (decide (b < dotL a x) = true) := hf
        clear hf
        go_wp2
        go_ret
        refine ⟨⟨_, rfl, by omega, by omega, ?_⟩, _, rfl⟩
        rw [decide_eq_true (by omega)]
        exact (List.any_eq_true.2 ⟨x, HME.out, HF.out⟩).symm
    · have HTK : Hid (m.take k = m) := List.take_of_length_le (by omega)
      go_wp2
      go_ret
      exact ⟨⟨-1, rfl, by omega, by omega, by rw [← HTK.out, HN.out]; rfl⟩, n, rfl⟩

set_option maxRecDepth 100000 in
theorem has1_any (B : Nat) (a : List Int) (b : Int) (m : List (List Int)) (u v : Value) (p1 p2 : Addr) (w : World) (hu : Sl B 3 w u (ints a)) (hv : Mat B 22 3 w v m) (hs : ∀ x ∈ m, Sm a x) (h1 : w.cell? p1 = some u) (h2 : w.cell? p2 = some (.int .i64 b)) :
    Calls Tryz.prog 38 #[v, .func (.func 67) #[] #[.pointer (some p1), .pointer (some p2)]] w fun e w' => e = .returned (.bool (m.any fun x => decide (b < dotL a x))) ∧ ∃ n, w' = w.drewN n := by
  have HI : Hid (Calls Tryz.prog 51 #[v, .func (.func 67) #[] #[.pointer (some p1), .pointer (some p2)]] w fun e w' => (∃ z, e = .returned (.int .i64 z) ∧ -1 ≤ z ∧ z < m.length ∧ decide (0 ≤ z) = m.any fun x => decide (b < dotL a x)) ∧ ∃ n, w' = w.drewN n) := index1_any B a b m u v p1 p2 w hu hv hs h1 h2
  obtain ⟨ao, cap, hvv, hlc, hcm⟩ := mat_open hv
  subst hvv
  clear hu hv hs h1 h2
  generalize (m.any fun x => decide (b < dotL a x)) = R at *
  go_enter Tryz.func38, Tryz.ntmps38
  go_wp2_with fail
  refine HI.out.mono ?_
  rintro e w' ⟨⟨z, rfl, hz1, hz2, hz3⟩, n, rfl⟩
  have HZ : Hid (decide (0 ≤ z) = R) := hz3
  clear hz3
  go_wp2
  go_ret
  exact ⟨ret_bool HZ.out, n, rfl⟩

set_option maxRecDepth 100000 in
set_option maxHeartbeats 400000 in
theorem look2_any (B : Nat) (a x : List Int) (b : Int) (u v : Value) (p1 p2 : Addr) (w : World) (hu : Sl B 3 w u (ints a)) (hv : Sl B 3 w v (ints x)) (hs : Sm a x) (h1 : w.cell? p1 = some u) (h2 : w.cell? p2 = some (.int .i64 b)) :
    Calls Tryz.prog 68 #[v, .pointer (some p1), .pointer (some p2)] w fun e w' => e = .returned (.bool (decide (dotL a x < b))) ∧ ∃ n, w' = w.drewN n := by
  obtain ⟨ao, cap, hvv, hlc, hcm⟩ := sl_open hu
  obtain ⟨bo, cbp, huu, hlb, hcb⟩ := sl_open hv
  subst hvv huu
  have HU : Hid (Sl B 3 w (.slice ao a.length cap) (ints a)) := hu
  have HV : Hid (Sl B 3 w (.slice bo x.length cbp) (ints x)) := hv
  have HS : Hid (Sm a x) := hs
  clear hu hv hs
  have HP : Hid (∀ n, Calls Tryz.prog 66 #[.slice ao a.length cap, .slice bo x.length cbp] (w.drewN n) fun e w' => e = .returned (.int .i64 (dotL a x)) ∧ ∃ k, w' = (w.drewN n).drewN k) := fun n => product_any B a x _ _ _ (HU.out.drewN n) (HV.out.drewN n) HS.out
  generalize dotL a x = D at *
  go_enter Tryz.func68, Tryz.ntmps68
  go_wp2
  go_region_law (refine step_call2 (o := { dst := some 7, op := _, type := _, pos := _, after := _, guard := _ }) (by rfl) 66 _ _ 22 22 (by rfl) _ _ (by rfl) (by rfl) ⟨_, Tryz.func66, by rfl, by rfl⟩ ?_; refine (HP.out 1).mono ?_; rintro e w2 ⟨rfl, k, rfl⟩; refine ⟨_, rfl, ?_⟩)
  all_goals
    go_wp2
    go_ret
    exact ⟨rfl, _, rfl⟩

set_option maxRecDepth 100000 in
set_option maxHeartbeats 800000 in
theorem index2_any (B : Nat) (a : List Int) (b : Int) (m : List (List Int)) (u v : Value) (p1 p2 : Addr) (w : World) (hu : Sl B 3 w u (ints a)) (hv : Mat B 22 3 w v m) (hs : ∀ x ∈ m, Sm a x) (h1 : w.cell? p1 = some u) (h2 : w.cell? p2 = some (.int .i64 b)) :
    Calls Tryz.prog 51 #[v, .func (.func 68) #[] #[.pointer (some p1), .pointer (some p2)]] w fun e w' => (∃ z, e = .returned (.int .i64 z) ∧ -1 ≤ z ∧ z < m.length ∧ decide (0 ≤ z) = m.any fun x => decide (dotL a x < b)) ∧ ∃ n, w' = w.drewN n := by
  obtain ⟨ao, cap, hvv, hlc, hcm⟩ := mat_open hv
  subst hvv
  have HU : Hid (Sl B 3 w u (ints a)) := hu
  have HV : Hid (Mat B 22 3 w (.slice ao m.length cap) m) := hv
  have HS : Hid (∀ x ∈ m, Sm a x) := hs
  have H1 : Hid (w.cell? p1 = some u) := h1
  have H2 : Hid (w.cell? p2 = some (.int .i64 b)) := h2
  clear hu hv hs h1 h2
  go_enter Tryz.func51, Tryz.ntmps51
  go_wp2
  go_loopw [8] (fun i wr => ∃ k : Nat, k ≤ m.length ∧ i = .int .i64 k ∧ (m.take k).any (fun x => decide (dotL a x < b)) = false ∧ ∃ n, wr = w.drewN n) (fun i _ => m.length - (intOf i).toNat)
  case atStart => exact ⟨0, Nat.zero_le _, rfl, by simp, 0, rfl⟩
  case round =>
    obtain ⟨k, hk, rfl, hno, n, rfl⟩ := hrel
    have HN : Hid ((m.take k).any (fun x => decide (dotL a x < b)) = false) := hno
    clear hno
    by_cases hlt : k < m.length
    · obtain ⟨b1, o, cp, r1, hs, hc1, hcc, hr1⟩ := mat_cell (HV.out.drewN n) hlt
      simp only [Value.slice.injEq] at hs
      obtain ⟨rfl, _, rfl⟩ := hs
      have HS1 : Hid ((m.take (k + 1)).any (fun x => decide (dotL a x < b)) = (fun x => decide (dotL a x < b)) (m.getD k [])) := anyR_snoc (p := fun x => decide (dotL a x < b)) hlt HN.out
      have HSM : Hid (Sm a (m.getD k [])) := HS.out _ (by simp [hlt])
      have HME : Hid (m.getD k [] ∈ m) := by
        show _ ∈ _
        simp [hlt]
      have HR1 : Hid (Sl B 3 (w.drewN n) r1 (ints (m.getD k []))) := hr1
      clear hr1
      generalize m.getD k [] = x at *
      go_wp2_with fail
      refine (look2_any B a x b u r1 p1 p2 (w.drewN n) (HU.out.drewN n) HR1.out HSM.out H1.out H2.out).mono ?_
      rintro e w' ⟨rfl, n2, rfl⟩
      cases hf : decide (dotL a x < b)
      · have HF : Hid (decide (dotL a x < b) = false) := hf
        clear hf
        go_wp2
        go_roundw
        case rel => exact ⟨k + 1, by omega, by go_num, by rw [HS1.out]; exact HF.out, _, rfl⟩
        case measure => simp [intOf]; omega
      · have HF : Hid (decide (dotL a x < b) = true) := hf
        clear hf
        go_wp2
        go_ret
        refine ⟨⟨_, rfl, by omega, by omega, ?_⟩, _, rfl⟩
        rw [decide_eq_true (by omega)]
        exact (List.any_eq_true.2 ⟨x, HME.out, HF.out⟩).symm
    · have HTK : Hid (m.take k = m) := List.take_of_length_le (by omega)
      go_wp2
      go_ret
      exact ⟨⟨-1, rfl, by omega, by omega, by rw [← HTK.out, HN.out]; rfl⟩, n, rfl⟩

set_option maxRecDepth 100000 in
theorem has2_any (B : Nat) (a : List Int) (b : Int) (m : List (List Int)) (u v : Value) (p1 p2 : Addr) (w : World) (hu : Sl B 3 w u (ints a)) (hv : Mat B 22 3 w v m) (hs : ∀ x ∈ m, Sm a x) (h1 : w.cell? p1 = some u) (h2 : w.cell? p2 = some (.int .i64 b)) :
    Calls Tryz.prog 38 #[v, .func (.func 68) #[] #[.pointer (some p1), .pointer (some p2)]] w fun e w' => e = .returned (.bool (m.any fun x => decide (dotL a x < b))) ∧ ∃ n, w' = w.drewN n := by
  have HI : Hid (Calls Tryz.prog 51 #[v, .func (.func 68) #[] #[.pointer (some p1), .pointer (some p2)]] w fun e w' => (∃ z, e = .returned (.int .i64 z) ∧ -1 ≤ z ∧ z < m.length ∧ decide (0 ≤ z) = m.any fun x => decide (dotL a x < b)) ∧ ∃ n, w' = w.drewN n) := index2_any B a b m u v p1 p2 w hu hv hs h1 h2
  obtain ⟨ao, cap, hvv, hlc, hcm⟩ := mat_open hv
  subst hvv
  clear hu hv hs h1 h2
  generalize (m.any fun x => decide (dotL a x < b)) = R at *
  go_enter Tryz.func38, Tryz.ntmps38
  go_wp2_with fail
  refine HI.out.mono ?_
  rintro e w' ⟨⟨z, rfl, hz1, hz2, hz3⟩, n, rfl⟩
  have HZ : Hid (decide (0 ≤ z) = R) := hz3
  clear hz3
  go_wp2
  go_ret
  exact ⟨ret_bool HZ.out, n, rfl⟩

end Go.Proofs.YtnjcpkodihfmdaaGreat
