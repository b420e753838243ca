/- Sets of at most eight things: their members. -/
import Derived.Test.YtkdileeahbaobaaDoorShA
import Derived.Test.YtkdileeahbaobaaDoorRefs
import Derived.Deep.DrawnRows
namespace Go.Proofs.YtkdileeahbaobaaDoor
open Go.RowKit
attribute [local go_sem ↓] Go.wp_at_zero Go.wp_at_succ

/-- The numbers of a set below i. -/
def memTo (s i : Nat) : List Int := ((List.range i).filter fun k => s.testBit k).map fun k : Nat => (k : Int)

/-- The numbers of a set. -/
def memL (s : Nat) : List Int := memTo s 64

theorem memTo_succ (s i : Nat) : memTo s (i + 1) = memTo s i ++ (if s.testBit i = true then [(i : Int)] else []) := by
  unfold memTo
  rw [List.range_succ, List.filter_append, List.map_append]
  cases h : s.testBit i <;> simp [h]

theorem memTo_len (s i : Nat) : (memTo s i).length ≤ i := by
  unfold memTo
  rw [List.length_map]
  exact Nat.le_trans (List.length_filter_le _ _) (by simp)

theorem memTo_top {s i : Nat} (hs : s < 2 ^ i) : ∀ k, memTo s (i + k) = memTo s i
  | 0 => rfl
  | k + 1 => by
    rw [← Nat.add_assoc, memTo_succ, memTo_top hs k]
    have : s.testBit (i + k) = false := Nat.testBit_lt_two_pow (Nat.lt_of_lt_of_le hs (Nat.pow_le_pow_right (by decide) (by omega)))
    simp [this]

theorem memL_top {s i : Nat} (hs : s < 2 ^ i) (hi : i ≤ 64) : memTo s i = memL s := by
  have := memTo_top hs (64 - i)
  rw [show i + (64 - i) = 64 by omega] at this
  exact this.symm

theorem mem_memL {s : Nat} (hs : s < 2 ^ 64) {x : Int} : x ∈ memL s ↔ ∃ k : Nat, x = k ∧ s.testBit k = true := by
  unfold memL memTo
  simp only [List.mem_map, List.mem_filter, List.mem_range]
  constructor
  · rintro ⟨k, ⟨_, h⟩, rfl⟩; exact ⟨k, rfl, h⟩
  · rintro ⟨k, rfl, h⟩
    refine ⟨k, ⟨?_, h⟩, rfl⟩
    refine Nat.lt_of_not_le fun hle => ?_
    have := Nat.testBit_lt_two_pow (Nat.lt_of_lt_of_le hs (Nat.pow_le_pow_right (by decide) hle))
    rw [this] at h
    exact absurd h (by decide)

set_option maxRecDepth 100000 in
set_option maxHeartbeats 800000 in
theorem membersS_any (s n : Nat) (w : World) (hs : s < 2 ^ n) (hn : n ≤ 24) :
    Calls Tryd.prog 11 #[.int .i64 s] w fun e w' => ∃ u, e = .returned u ∧ w'.ownsRow w.heap.size 3 1 u (memL s).length (ints (memL s)) ∧ Below w.heap.size w w' := by
  obtain ⟨i3, hi3, hz30, hz31, hz32⟩ := info_parts Tryd.info3
  have HS : Hid (s < 2 ^ n) := hs
  clear hs
  go_enter Tryd.func11, Tryd.ntmps11
  go_wp2
  go_loopw [3, 4] (fun x i wr => ∃ k : Nat, k ≤ n ∧ i = .int .i64 k ∧ wr.ownsRow w.heap.size 3 1 x (memTo s k).length (ints (memTo s k)) ∧ Below w.heap.size w wr) (fun _ i _ => n - (intOf i).toNat)
  case atStart => exact ⟨0, Nat.zero_le _, rfl, by rw [show memTo s 0 = [] from rfl]; exact World.ownsRow_nil _ _ _ _, Below.refl _ _⟩
  case round =>
    obtain ⟨k, hk, rfl, ho, hb⟩ := hrel
    have HO : Hid (wr.ownsRow w.heap.size 3 1 u3 (memTo s k).length (ints (memTo s k))) := ho
    have HB : Hid (Below w.heap.size w wr) := hb
    clear ho hb
    have hszr : w.heap.size ≤ wr.heap.size := HB.out.size
    have HLN : Hid ((memTo s k).length ≤ 24) := Nat.le_trans (memTo_len s k) (by omega)
    have eq0 : (s : Int) / 2 ^ k = ((s / 2 ^ k : Nat) : Int) := by simp
    by_cases hz : s / 2 ^ k = 0
    · have t1 : decide ((0 : Int) < (s : Int) / 2 ^ k) = false := by rw [eq0, hz]; rfl
      have HE : Hid (memTo s k = memL s) := memL_top (by
        have h1 := Nat.div_eq_zero_iff.1 hz
        have h2 : 0 < 2 ^ k := Nat.pow_pos (by decide)
        rcases h1 with h1 | h1
        · omega
        · exact h1) (by omega)
      clear eq0 hz
      go_wp2
      go_ret
      refine ⟨_, rfl, ?_, HB.out⟩
      rw [← HE.out]
      exact HO.out
    · have t1 : decide ((0 : Int) < (s : Int) / 2 ^ k) = true := by rw [eq0]; generalize s / 2 ^ k = q at *; exact decide_eq_true (by omega)
      have hkn : k < n := by
        refine Nat.lt_of_not_le fun hle => hz (Nat.div_eq_zero_iff.2 (Or.inr ?_))
        exact Nat.lt_of_lt_of_le HS.out (Nat.pow_le_pow_right (by decide) hle)
      have HSN : Hid (memTo s (k + 1) = memTo s k ++ (if s.testBit k = true then [(k : Int)] else [])) := memTo_succ s k
      have hbit : s.testBit k = decide (s / 2 ^ k % 2 = 1) := Nat.testBit_eq_decide_div_mod_eq
      cases hb1 : s.testBit k
      · have t3 : (((s : Int) / 2 ^ k).tmod 2 == 1) = false := by
          rw [hb1] at hbit
          have := of_decide_eq_false hbit.symm
          rw [eq0]
          generalize s / 2 ^ k = q at *
          have e : (q : Int).tmod 2 = ((q % 2 : Nat) : Int) := by rw [Int.tmod_eq_emod_of_nonneg (by omega)]; omega
          rw [e]
          have h2 : q % 2 = 0 := by omega
          rw [h2]; rfl
        rw [hb1] at HSN
        have HS2 : Hid (memTo s (k + 1) = memTo s k) := by
          have h := HSN.out
          rw [if_neg (by decide), List.append_nil] at h
          exact h
        have R1 : Hid (wr.ownsRow w.heap.size 3 1 u3 (memTo s (k + 1)).length (ints (memTo s (k + 1)))) := by rw [HS2.out]; exact HO.out
        clear eq0 hz hbit hb1 HSN
        go_wp2
        go_roundw
        case rel => exact ⟨k + 1, hkn, by go_num, R1.out, HB.out⟩
        case measure => simp [intOf]; omega
      · have t3 : (((s : Int) / 2 ^ k).tmod 2 == 1) = true := by
          rw [hb1] at hbit
          have := of_decide_eq_true hbit.symm
          rw [eq0]
          generalize s / 2 ^ k = q at *
          have e : (q : Int).tmod 2 = ((q % 2 : Nat) : Int) := by rw [Int.tmod_eq_emod_of_nonneg (by omega)]; omega
          rw [e]
          rw [this]; rfl
        rw [hb1, if_pos rfl] at HSN
        obtain ⟨ol, hol⟩ : ∃ ol, ol = (memTo s k).length := ⟨_, rfl⟩
        have HOL : Hid (ol = (memTo s k).length) := hol
        rw [← hol] at HO HLN
        have hol2 : ol ≤ 24 := HLN.out
        clear eq0 hz hbit hb1 hol
        go_wp2_with (first | (at_builtin; refine wpList_append_own _ rfl _ _ 22 rfl w.heap.size 3 i3 (.int .i64 0) 1 8 Tryd.underlying22 hi3 hz30 hz31 hz32 rfl (by decide) _ _ _ rfl (HO.out.alloc _) ⟨wr.heap.size, 0, none⟩ 1 1 [.int .i64 k] rfl rfl (one_new _ _ _) (one_int _) ?c3 ?c4 ?c5 ?_))
        case c3 => unfold maxLen; omega
        case c4 => omega
        case c5 => first | exact hszr | omega | (simp; omega)
        intro v' w3 ho3 hg3 _
        have R1 : Hid (w3.ownsRow w.heap.size 3 1 v' (memTo s (k + 1)).length (ints (memTo s (k + 1)))) := by
          have e1 : (memTo s (k + 1)).length = ol + 1 := by rw [HSN.out, List.length_append, ← HOL.out]; rfl
          have e2 : ints (memTo s (k + 1)) = ints (memTo s k) ++ [.int .i64 (k : Int)] := by rw [HSN.out]; simp [ints]
          show World.ownsRow _ _ _ _ _ _ _
          rw [e1, e2]
          exact ho3
        have R2 : Hid (Below w.heap.size w w3) := (HB.out.alloc hszr _).grown hg3 (by simp; omega) (fun x hx => (HO.out.lt x hx).1)
        clear ho3 hg3
        go_wp2
        go_roundw
        case rel => exact ⟨k + 1, hkn, by go_num, R1.out, R2.out⟩
        case measure => simp [intOf]; omega


/-- The numbers of a set of at most eight things. -/
def mem8 (s : Nat) : List Int := memTo s 8

theorem mem8_L {s : Nat} (h : s < 256) : memL s = mem8 s := (memL_top (s := s) (i := 8) h (by omega)).symm

theorem mem8_iff {s : Nat} {x : Int} : x ∈ mem8 s ↔ ∃ i : Nat, i < 8 ∧ s.testBit i = true ∧ (i : Int) = x := by
  simp [mem8, memTo, and_assoc]

theorem mem8_b64 (s : Nat) : B64 (mem8 s) := fun x hx => by
  obtain ⟨i, h1, _, rfl⟩ := mem8_iff.1 hx
  omega

theorem mem8_ris (s : Nat) : Ris (mem8 s) := by
  unfold mem8 memTo Ris
  rw [List.pairwise_map]
  refine List.Pairwise.filter _ ?_
  exact (List.pairwise_lt_range (n := 8)).imp (fun h => by omega)

theorem mem8_len (s : Nat) : (mem8 s).length ≤ 8 := by
  exact memTo_len s 8

set_option maxRecDepth 100000 in
theorem setN_mem8 : ∀ s, s < 256 → setN (mem8 s) = s := by decide +kernel

set_option maxRecDepth 100000 in
theorem ones8_any (x : Nat) (hx : x < 256) (w : World) :
    Calls Tryd.prog 39 #[.int .u64 x] w fun e w' => e = .returned (.int .i64 (mem8 x).length) ∧ w' = w := by
  go_enter Tryd.func39, Tryd.ntmps39
  go_wp2
  go_ret
  refine ⟨ret_int ?_, rfl⟩
  clear w
  revert x
  decide +kernel

set_option maxRecDepth 100000 in
theorem len8_any (x : Nat) (hx : x < 256) (w : World) :
    Calls Tryd.prog 30 #[.int .u64 x] w fun e w' => e = .returned (.int .i64 (mem8 x).length) ∧ w' = w := by
  have HO : Hid (Calls Tryd.prog 39 #[.int .u64 x] w fun e w' => e = .returned (.int .i64 (mem8 x).length) ∧ w' = w) := ones8_any x hx w
  go_enter Tryd.func30, Tryd.ntmps30
  go_wp2_with fail
  refine HO.out.mono ?_
  rintro e w' ⟨rfl, rfl⟩
  go_wp2
  go_ret
  exact ⟨rfl, rfl⟩

theorem list8_any (x : Nat) (hx : x < 256) (w : World) (hT : TabB w) :
    Calls Tryd.prog 25 #[.int .u64 x] w fun e w' => ∃ u, e = .returned u ∧ w'.ownsRow w.heap.size 3 1 u (mem8 x).length (ints (mem8 x)) ∧ Below w.heap.size w w' := by
  have h := list_any (mem8 x) w (mem8_b64 x) (mem8_ris x) hT (by have := mem8_len x; omega)
  rw [setN_mem8 x hx] at h
  exact h

theorem members8_any (s : Nat) (w : World) (hs : s < 256) :
    Calls Tryd.prog 11 #[.int .i64 s] w fun e w' => ∃ u, e = .returned u ∧ w'.ownsRow w.heap.size 3 1 u (mem8 s).length (ints (mem8 s)) ∧ Below w.heap.size w w' := by
  have h := membersS_any s 8 w hs (by omega)
  rw [mem8_L hs] at h
  exact h

set_option maxRecDepth 100000 in
theorem size8_any (s : Nat) (w : World) (hs : s < 256) :
    Calls Tryd.prog 7 #[.int .i64 s] w fun e w' => e = .returned (.int .i64 (mem8 s).length) ∧ Below w.heap.size w w' := by
  have HM : Hid (Calls Tryd.prog 11 #[.int .i64 s] w fun e w' => ∃ uo uc, e = .returned (.slice uo (mem8 s).length uc) ∧ Below w.heap.size w w') := (members8_any s w hs).mono (by
    rintro e w' ⟨u, rfl, h1, h2⟩
    obtain ⟨uo, uc, rfl⟩ := owns_form h1
    exact ⟨uo, uc, rfl, h2⟩)
  go_enter Tryd.func7, Tryd.ntmps7
  go_wp2_with fail
  refine HM.out.mono ?_
  rintro e w' ⟨uo, uc, rfl, hb⟩
  have HB : Hid (Below w.heap.size w w') := hb
  clear hb HM
  go_wp2
  go_ret
  exact ⟨rfl, HB.out⟩

end Go.Proofs.YtkdileeahbaobaaDoor
