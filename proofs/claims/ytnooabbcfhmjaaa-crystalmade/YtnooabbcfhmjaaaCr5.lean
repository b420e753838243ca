/- crystal.High. -/
import Derived.Test.YtnooabbcfhmjaaaCr4
import Derived.Deep.LoopGhost
namespace Go.Proofs.Ytnooabbcfhmjaaa
open Go.RowKit
attribute [local go_sem ↓] Go.wp_at_zero Go.wp_at_succ

/-- The highest, by the least letter that goes. -/
inductive HiR (n : Nat) : List Nat → List Nat → Prop
  | stop {x : List Nat} : (∀ j, j < n → cUp x j = none) → HiR n x x
  | step {x y z : List Nat} {i : Nat} : i < n → (∀ j, j < i → cUp x j = none) → cUp x i = some y → HiR n y z → HiR n x z

theorem HiR.one {n : Nat} {x z z' : List Nat} (h : HiR n x z) : HiR n x z' → z = z' := by
  induction h with
  | stop h1 =>
    intro h
    cases h with
    | stop _ => rfl
    | step hi _ he _ => rw [h1 _ hi] at he; cases he
  | @step x y z i hi hj he hr ih =>
    intro h
    cases h with
    | stop h1 => rw [h1 _ hi] at he; cases he
    | @step _ y' _ i' hi' hj' he' hr' =>
      have : i = i' := by
        rcases Nat.lt_trichotomy i i' with h | h | h
        · rw [hj' i h] at he; cases he
        · exact h
        · rw [hj i' h] at he'; cases he'
      subst this
      rw [he] at he'
      cases he'
      exact ih hr'

theorem HiR.len {n : Nat} {x z : List Nat} (h : HiR n x z) : z.length = x.length := by
  induction h with
  | stop _ => rfl
  | step _ _ he _ ih => rw [ih, cUp_len he]

/-- A list and what is wrong. -/
structure HighP (B : Nat) (wa : World) (n : Nat) (wd : List Nat) (e : Ending) (w : World) : Prop where
  ex : ∃ u z, e = .returned (.tuple #[u, .int .i64 0]) ∧ HiR n wd z ∧ w.ownsRow B 3 1 u z.length (ints (natsI z))
  bel : Below B wa w

/-- As far as the loop is. -/
structure HighI (w0 : World) (n : Nat) (wd : List Nat) (k : Nat) (hv iv : Value) (wr : World) (x : List Nat) (i : Nat) : Prop where
  iv : iv = .int .i64 (i : Int)
  le : i ≤ n
  k : k = x.sum * 4 + (n - i)
  lw : Lw n x
  len : x.length = wd.length
  no : ∀ j, j < i → cUp x j = none
  go : ∀ z, HiR n x z → HiR n wd z
  own : wr.ownsRow w0.heap.size 3 1 hv x.length (ints (natsI x))
  bel : Below w0.heap.size w0 wr

set_option maxRecDepth 100000 in
set_option maxHeartbeats 800000 in
theorem high_no (B : Nat) (n : Int) (m : List Int) (v : Value) (w : World) (hv : Sl B 3 w v (ints m)) (h0 : ¬ chkE n m = 0) :
    Calls Try.prog 15 #[.int .i64 n, v] w fun e w' => e = .returned (.tuple #[.slice none 0 0, .int .i64 (chkE n m)]) ∧ Below w.heap.size w w' := by
  have HC := checkK_any B n m v w hv
  obtain ⟨ao, cap, hvv, hlc, hcm⟩ := sl_open hv
  subst hvv
  clear hv
  generalize chkE n m = E at *
  go_enter Try.func15, Try.ntmps15
  go_wp2_with fail
  refine HC.mono ?_
  rintro e w1 ⟨rfl, hb⟩
  have HB : Hid (Below w.heap.size w w1) := hb
  clear HC hb
  go_wp2
  go_ret2
  exact ⟨rfl, HB.out⟩

set_option maxRecDepth 100000 in
set_option maxHeartbeats 1600000 in
theorem high_any (B : Nat) (n : Nat) (wd : List Nat) (v : Value) (w : World) (hv : Sl B 3 w v (ints (natsI wd))) (h0 : chkE n (natsI wd) = 0) (hn1 : 1 ≤ n) (hn3 : n ≤ 3) (hl : wd.length ≤ 8) (hlw : Lw n wd) :
    Calls Try.prog 15 #[.int .i64 (n : Int), v] w fun e w' => HighP w.heap.size w n wd e w' := by
  have HC := checkK_any B n (natsI wd) v w hv
  rw [h0] at HC
  have HCL : Hid (∀ W, Below w.heap.size w W → Calls Try.prog 29 #[v] W fun e w' => ∃ u, e = .returned u ∧ w'.ownsRow W.heap.size 3 1 u wd.length (ints (natsI wd)) ∧ Below W.heap.size W w') := fun W hW => by
    have := clone_any B (natsI wd) v W (hv.below hW (Nat.le_refl _)) (by rw [natsI_len]; omega)
    rw [natsI_len] at this
    exact this
  have HLW : Hid (Lw n wd) := hlw
  obtain ⟨ao, cap, hvv, hlc, hcm⟩ := sl_open hv
  subst hvv
  clear hv h0 hlw
  go_enter Try.func15, Try.ntmps15
  go_wp2_with fail
  refine HC.mono ?_
  rintro e w1 ⟨rfl, hb⟩
  have HB : Hid (Below w.heap.size w w1) := hb
  have H2 := HCL.out w1 hb
  clear HC hb HCL
  go_wp2_with fail
  refine H2.mono ?_
  rintro e w2 ⟨u, rfl, hou, hb2⟩
  have HI0 : Hid (HighI w n wd (wd.sum * 4 + n) u (.int .i64 0) w2 wd 0) := ⟨rfl, Nat.zero_le _, by simp, HLW.out, rfl, fun j hj => absurd hj (by omega), fun z h => h, own_low hou HB.out.size, HB.out.trans (hb2.mono HB.out.size)⟩
  clear hou hb2 H2 HB
  go_wp2
  go_loopg [7, 8] (wd.sum * 4 + n) (fun k hv iv wr => ∃ x i, HighI w n wd k hv iv wr x i)
  case atStart => exact ⟨wd, 0, HI0.out⟩
  case round =>
    obtain ⟨x, i, hI⟩ := hrel
    have hiv := hI.iv
    subst hiv
    have HI : Hid (HighI w n wd gk u7 (.int .i64 (i : Int)) wr x i) := hI
    have hle := hI.le
    have HUP : Hid (i < n → Calls Try.prog 23 #[u7, .int .i64 (i : Int)] wr fun e w' => TurnP wr.heap.size wr (cUp x i) e w') := fun hlt => up_any wr.heap.size x i u7 wr (Sl.own hI.own) (by rw [hI.len]; exact hl) (by omega)
    obtain ⟨xo, xc, hxv⟩ := owns_form hI.own
    subst hxv
    clear hI HI0 HLW
    by_cases hlt : i < n
    · have H3 := HUP.out hlt
      have hltI : (i : Int) < (n : Int) := by omega
      clear HUP
      go_wp2_with fail
      refine H3.mono ?_
      rintro e w3 ⟨⟨u, rfl, hu⟩, hb3⟩
      have HB3 : Hid (Below wr.heap.size wr w3) := hb3
      clear hb3 H3
      cases hc : cUp x i with
      | none =>
        have HC0 : Hid (cUp x i = none) := hc
        clear hu hc
        simp only [Option.isSome_none]
        go_wp2
        go_roundg (x.sum * 4 + (n - (i + 1)))
        case measure => rw [HI.out.k]; omega
        case rel => exact ⟨x, i + 1, by go_num, hlt, rfl, HI.out.lw, HI.out.len, fun j hj => by
          by_cases hji : j < i
          · exact HI.out.no j hji
          · rw [show j = i by omega]; exact HC0.out, HI.out.go, owns_below HI.out.own HB3.out (Nat.le_refl _), HI.out.bel.trans (HB3.out.mono HI.out.bel.size)⟩
      | some y =>
        rw [hc] at hu
        have HU : Hid (w3.ownsRow wr.heap.size 3 1 u y.length (ints (natsI y))) := hu
        have HC0 : Hid (cUp x i = some y) := hc
        clear hu hc
        obtain ⟨yo, yc, hyv⟩ := owns_form HU.out
        subst hyv
        simp only [Option.isSome_some]
        go_wp2
        go_roundg (y.sum * 4 + (n - 0))
        case measure =>
          have := cUp_sum HC0.out
          rw [HI.out.k]; omega
        case rel => exact ⟨y, 0, rfl, Nat.zero_le _, rfl, cUp_lw HI.out.lw hlt HC0.out, by rw [cUp_len HC0.out]; exact HI.out.len, fun j hj => absurd hj (by omega), fun z h => HI.out.go z (.step hlt HI.out.no HC0.out h), own_low HU.out HI.out.bel.size, HI.out.bel.trans (HB3.out.mono HI.out.bel.size)⟩
    · have hie : i = n := by omega
      subst hie
      clear HUP
      go_wp2
      go_ret2
      exact ⟨⟨_, x, rfl, HI.out.go x (.stop HI.out.no), HI.out.own⟩, HI.out.bel⟩

end Go.Proofs.Ytnooabbcfhmjaaa
