/- facetref.Members, Size: the numbers of a set. -/
import Derived.Test.YtgfnmkenpgnllaaGreatPn1
import Derived.Test.YtgfnmkenpgnllaaGreatRefs
import Derived.Deep.DrawnRows
namespace Go.Proofs.YtgfnmkenpgnllaaGreat
open Go.RowKit
attribute [local go_sem ↓] Go.wp_at_zero Go.wp_at_succ

theorem meE_succ (s i : Nat) : memL (i + 1) s = memL i s ++ (if s.testBit i = true then [(i : Int)] else []) := by
  unfold memL
  rw [List.range_succ, List.filter_append, List.map_append]
  cases h : s.testBit i <;> simp [h]

theorem meE_len (s i : Nat) : (memL i s).length ≤ i := by
  unfold memL
  rw [List.length_map]
  exact Nat.le_trans (List.length_filter_le _ _) (by simp)

theorem meE_more {s i : Nat} (hs : s < 2 ^ i) : ∀ k, memL (i + k) s = memL i s
  | 0 => rfl
  | k + 1 => by
    rw [← Nat.add_assoc, meE_succ, meE_more hs k]
    have : s.testBit (i + k) = false := Nat.testBit_lt_two_pow (Nat.lt_of_lt_of_le hs (Nat.pow_le_pow_right (by decide) (by omega)))
    simp [this]

theorem meE_top {s i : Nat} (hs : s < 2 ^ i) (hi : i ≤ 64) : memL i s = memL 64 s := by
  have := meE_more hs (64 - i)
  rw [show i + (64 - i) = 64 by omega] at this
  exact this.symm

set_option maxRecDepth 100000 in
set_option maxHeartbeats 800000 in
theorem membersE_any (s n : Nat) (w : World) (hs : s < 2 ^ n) (hn : n ≤ 24) :
    Calls Tryz.prog 31 #[.int .i64 s] w fun e w' => ∃ u, e = .returned u ∧ w'.ownsRow w.heap.size 3 1 u (memL 64 s).length (ints (memL 64 s)) ∧ Below w.heap.size w w' := by
  obtain ⟨i3, hi3, hz30, hz31, hz32⟩ := info_parts Tryz.info3
  have HS : Hid (s < 2 ^ n) := hs
  clear hs
  go_enter Tryz.func31, Tryz.ntmps31
  go_wp2
  go_loopw [3, 4] (fun x i wr => ∃ k : Nat, k ≤ n ∧ i = .int .i64 k ∧ wr.ownsRow w.heap.size 3 1 x (memL k s).length (ints (memL k s)) ∧ Below w.heap.size w wr) (fun _ i _ => n - (intOf i).toNat)
  case atStart => exact ⟨0, Nat.zero_le _, rfl, by rw [show memL 0 s = [] from rfl]; exact World.ownsRow_nil _ _ _ _, Below.refl _ _⟩
  case round =>
    obtain ⟨k, hk, rfl, ho, hb⟩ := hrel
    have HO : Hid (wr.ownsRow w.heap.size 3 1 u3 (memL k s).length (ints (memL k s))) := ho
    have HB : Hid (Below w.heap.size w wr) := hb
    clear ho hb
    have hszr : w.heap.size ≤ wr.heap.size := HB.out.size
    have HLN : Hid ((memL k s).length ≤ 24) := Nat.le_trans (meE_len s k) (by omega)
    have eq0 : (s : Int) / 2 ^ k = ((s / 2 ^ k : Nat) : Int) := by simp
    by_cases hz : s / 2 ^ k = 0
    · have t1 : decide ((0 : Int) < (s : Int) / 2 ^ k) = false := by rw [eq0, hz]; rfl
      have HE : Hid (memL k s = memL 64 s) := meE_top (by
        have h1 := Nat.div_eq_zero_iff.1 hz
        have h2 : 0 < 2 ^ k := Nat.pow_pos (by decide)
        rcases h1 with h1 | h1
        · omega
        · exact h1) (by omega)
      clear eq0 hz
      go_wp2
      go_ret
      refine ⟨_, rfl, ?_, HB.out⟩
      rw [← HE.out]
      exact HO.out
    · have t1 : decide ((0 : Int) < (s : Int) / 2 ^ k) = true := by rw [eq0]; generalize s / 2 ^ k = q at *; exact decide_eq_true (by omega)
      have hkn : k < n := by
        refine Nat.lt_of_not_le fun hle => hz (Nat.div_eq_zero_iff.2 (Or.inr ?_))
        exact Nat.lt_of_lt_of_le HS.out (Nat.pow_le_pow_right (by decide) hle)
      have HSN : Hid (memL (k + 1) s = memL k s ++ (if s.testBit k = true then [(k : Int)] else [])) := meE_succ s k
      have hbit : s.testBit k = decide (s / 2 ^ k % 2 = 1) := Nat.testBit_eq_decide_div_mod_eq
      cases hb1 : s.testBit k
      · have t3 : (((s : Int) / 2 ^ k).tmod 2 == 1) = false := by
          rw [hb1] at hbit
          have := of_decide_eq_false hbit.symm
          rw [eq0]
          generalize s / 2 ^ k = q at *
          have e : (q : Int).tmod 2 = ((q % 2 : Nat) : Int) := by rw [Int.tmod_eq_emod_of_nonneg (by omega)]; omega
          rw [e]
          have h2 : q % 2 = 0 := by omega
          rw [h2]; rfl
        rw [hb1] at HSN
        have HS2 : Hid (memL (k + 1) s = memL k s) := by
          have h := HSN.out
          rw [if_neg (by decide), List.append_nil] at h
          exact h
        have R1 : Hid (wr.ownsRow w.heap.size 3 1 u3 (memL (k + 1) s).length (ints (memL (k + 1) s))) := by rw [HS2.out]; exact HO.out
        clear eq0 hz hbit hb1 HSN
        go_wp2
        go_roundw
        case rel => exact ⟨k + 1, hkn, by go_num, R1.out, HB.out⟩
        case measure => simp [intOf]; omega
      · have t3 : (((s : Int) / 2 ^ k).tmod 2 == 1) = true := by
          rw [hb1] at hbit
          have := of_decide_eq_true hbit.symm
          rw [eq0]
          generalize s / 2 ^ k = q at *
          have e : (q : Int).tmod 2 = ((q % 2 : Nat) : Int) := by rw [Int.tmod_eq_emod_of_nonneg (by omega)]; omega
          rw [e]
          rw [this]; rfl
        rw [hb1, if_pos rfl] at HSN
        obtain ⟨ol, hol⟩ : ∃ ol, ol = (memL k s).length := ⟨_, rfl⟩
        have HOL : Hid (ol = (memL k s).length) := hol
        rw [← hol] at HO HLN
        have hol2 : ol ≤ 24 := HLN.out
        clear eq0 hz hbit hb1 hol
        go_wp2_with (first | (at_builtin; refine wpList_append_own _ rfl _ _ 22 rfl w.heap.size 3 i3 (.int .i64 0) 1 8 Tryz.underlying22 hi3 hz30 hz31 hz32 rfl (by decide) _ _ _ rfl (HO.out.alloc _) ⟨wr.heap.size, 0, none⟩ 1 1 [.int .i64 k] rfl rfl (one_new _ _ _) (one_int _) ?c3 ?c4 ?c5 ?_))
        case c3 => unfold maxLen; omega
        case c4 => omega
        case c5 => first | exact hszr | omega | (simp; omega)
        intro v' w3 ho3 hg3 _
        have R1 : Hid (w3.ownsRow w.heap.size 3 1 v' (memL (k + 1) s).length (ints (memL (k + 1) s))) := by
          have e1 : (memL (k + 1) s).length = ol + 1 := by rw [HSN.out, List.length_append, ← HOL.out]; rfl
          have e2 : ints (memL (k + 1) s) = ints (memL k s) ++ [.int .i64 (k : Int)] := by rw [HSN.out]; simp [ints]
          show World.ownsRow _ _ _ _ _ _ _
          rw [e1, e2]
          exact ho3
        have R2 : Hid (Below w.heap.size w w3) := (HB.out.alloc hszr _).grown hg3 (by simp; omega) (fun x hx => (HO.out.lt x hx).1)
        clear ho3 hg3
        go_wp2
        go_roundw
        case rel => exact ⟨k + 1, hkn, by go_num, R1.out, R2.out⟩
        case measure => simp [intOf]; omega

theorem membersN_any (s n : Nat) (w : World) (hs : s < 2 ^ n) (hn : n ≤ 24) :
    Calls Tryz.prog 31 #[.int .i64 s] w fun e w' => ∃ u, e = .returned u ∧ w'.ownsRow w.heap.size 3 1 u (memL n s).length (ints (memL n s)) ∧ Below w.heap.size w w' := by
  have h := membersE_any s n w hs hn
  rw [← meE_top hs (by omega)] at h
  exact h

set_option maxRecDepth 100000 in
theorem sizeN_any (s n : Nat) (w : World) (hs : s < 2 ^ n) (hn : n ≤ 24) :
    Calls Tryz.prog 33 #[.int .i64 s] w fun e w' => e = .returned (.int .i64 (memL n s).length) ∧ Below w.heap.size w w' := by
  have HM : Hid (Calls Tryz.prog 31 #[.int .i64 s] w fun e w' => ∃ uo uc, e = .returned (.slice uo (memL n s).length uc) ∧ Below w.heap.size w w') := (membersN_any s n w hs hn).mono (by
    rintro e w' ⟨u, rfl, h1, h2⟩
    obtain ⟨uo, uc, rfl⟩ := owns_form h1
    exact ⟨uo, uc, rfl, h2⟩)
  generalize memL n s = l at *
  go_enter Tryz.func33, Tryz.ntmps33
  go_wp2_with fail
  refine HM.out.mono ?_
  rintro e w' ⟨uo, uc, rfl, hb⟩
  have HB : Hid (Below w.heap.size w w') := hb
  clear hb HM
  go_wp2
  go_ret
  exact ⟨rfl, HB.out⟩

end Go.Proofs.YtgfnmkenpgnllaaGreat
