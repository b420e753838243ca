/- weyl.Check$1, IndexFunc and ContainsFunc by it, weyl.Check, checkBoth. -/
import Derived.Test.YtkpdgpdicafeiaaWz1
namespace Go.Proofs.Ytkpdgpdicafeiaa
open Go.RowKit
attribute [local go_sem ↓] Go.wp_at_zero Go.wp_at_succ

set_option maxRecDepth 100000 in
theorem chk1_any (x : Int) (n cap : Nat) (ao : Option Addr) (p : Nat) (w : World) (hx : 0 ≤ x ∧ x < n) (hc : w.cell? ⟨p, 0, none⟩ = some (.slice ao n cap)) :
    Calls Try.prog 27 #[.int .i64 x, .pointer (some ⟨p, 0, none⟩)] w fun e w' => e = .returned (.bool false) ∧ w' = w := by
  obtain ⟨h1, h2⟩ := hx
  have h3 : ¬ x < 0 := by omega
  have h4 : ¬ (n : Int) ≤ x := by omega
  go_enter Try.func27, Try.ntmps27
  go_wp2
  go_ret
  exact ⟨rfl, rfl⟩

set_option maxRecDepth 100000 in
set_option maxHeartbeats 800000 in
theorem idxC_any (B : Nat) (m : List Int) (v : Value) (p1 : Addr) (w : World) (hv : Sl B 3 w v (ints m))
    (hc : ∀ x ∈ m, Calls Try.prog 27 #[.int .i64 x, .pointer (some p1)] w fun e w' => e = .returned (.bool false) ∧ w' = w) :
    Calls Try.prog 32 #[v, .func (.func 27) #[] #[.pointer (some p1)]] w fun e w' => e = .returned (.int .i64 (-1)) ∧ w' = w := by
  obtain ⟨ao, cap, hvv, hlc, hcm⟩ := sl_open hv
  subst hvv
  have HV : Hid (Sl B 3 w (.slice ao m.length cap) (ints m)) := hv
  have HC : Hid (∀ x ∈ m, Calls Try.prog 27 #[.int .i64 x, .pointer (some p1)] w fun e w' => e = .returned (.bool false) ∧ w' = w) := hc
  have hml : m.length ≤ 9223372036854775807 := by have := hv.len; simpa [maxLen] using this
  clear hv hc
  go_enter Try.func32, Try.ntmps32
  go_wp2
  go_loopw [8] (fun i wr => ∃ k : Nat, k ≤ m.length ∧ i = .int .i64 k ∧ wr = w) (fun i _ => m.length - (intOf i).toNat)
  case atStart => exact ⟨0, Nat.zero_le _, rfl, rfl⟩
  case round =>
    obtain ⟨k, hk, rfl, hwr⟩ := hrel
    subst hwr
    by_cases hlt : k < m.length
    · obtain ⟨b1, o, cp, hs, _, hcc⟩ := sl_cell HV.out hlt
      simp only [Value.slice.injEq, true_and] at hs
      obtain ⟨rfl, rfl⟩ := hs
      have HME : Hid (m.getD k 0 ∈ m) := by
        show _ ∈ _
        simp [hlt]
      have HCA := HC.out _ HME.out
      generalize m.getD k 0 = x at *
      go_wp2_with fail
      refine HCA.mono ?_
      rintro e w2 ⟨rfl, rfl⟩
      go_wp2
      go_roundw
      case rel => exact ⟨k + 1, by omega, by go_num, by trivial⟩
      case measure => simp [intOf]; omega
    · go_wp2
      go_ret
      exact ⟨rfl, rfl⟩

set_option maxRecDepth 100000 in
theorem hasC_any (B : Nat) (m : List Int) (v : Value) (p1 : Addr) (w : World) (hv : Sl B 3 w v (ints m))
    (hc : ∀ x ∈ m, Calls Try.prog 27 #[.int .i64 x, .pointer (some p1)] w fun e w' => e = .returned (.bool false) ∧ w' = w) :
    Calls Try.prog 26 #[v, .func (.func 27) #[] #[.pointer (some p1)]] w fun e w' => e = .returned (.bool false) ∧ w' = w := by
  have HI : Hid (Calls Try.prog 32 #[v, .func (.func 27) #[] #[.pointer (some p1)]] w fun e w' => e = .returned (.int .i64 (-1)) ∧ w' = w) := idxC_any B m v p1 w hv hc
  obtain ⟨ao, cap, hvv, hlc, hcm⟩ := sl_open hv
  subst hvv
  clear hv hc
  go_enter Try.func26, Try.ntmps26
  go_wp2_with fail
  refine HI.out.mono ?_
  rintro e w' ⟨rfl, rfl⟩
  go_wp2
  go_ret
  exact ⟨rfl, rfl⟩

/-- A word of letters. -/
structure Gdw (n : Nat) (l : List Int) : Prop where
  len : l.length ≤ 40
  let' : ∀ x ∈ l, 0 ≤ x ∧ x < n

set_option maxRecDepth 100000 in
set_option maxHeartbeats 800000 in
theorem checkW_any (n : Nat) (c : List (List Int)) (l : List Int) (cv lv : Value) (w : World) (hg : Gdc n c) (hl : Gdw n l) (hm : Mat w.heap.size 23 3 w cv c) (hlv : Sl w.heap.size 3 w lv (ints l)) :
    Calls Try.prog 13 #[cv, lv] w fun e w' => e = .returned (.int .i64 0) ∧ Below w.heap.size w w' := by
  obtain ⟨ao, cap, hvv, _, hcm⟩ := mat_open hm
  subst hvv
  obtain ⟨lo, lc, hlvv, _, hlcm⟩ := sl_open hlv
  subst hlvv
  have HCL : Hid (c.length = n) := hg.sq.len
  have hl40 := hl.len
  rw [HCL.out] at hm
  obtain ⟨W, hW⟩ : ∃ W, W = w.alloc (.cells #[.slice ao n cap] 22) := ⟨_, rfl⟩
  have hbW : Below w.heap.size w W := by rw [hW]; exact (Below.refl _ _).alloc (Nat.le_refl _) _
  have HBW : Hid (Below w.heap.size w W) := hbW
  have hcW : W.cell? ⟨w.heap.size, 0, none⟩ = some (.slice ao n cap) := by rw [hW]; simp [go_sem]
  have HC : Hid (Calls Try.prog 25 #[.slice ao n cap] W fun e w' => e = .returned (.int .i64 0) ∧ Below W.heap.size W w') := checkR_any n c _ W hg ((hm.below hbW (Nat.le_refl _)).any (Nat.le_refl _))
  have HH : Hid (∀ W', Below W.heap.size W W' → Calls Try.prog 26 #[.slice lo l.length lc, .func (.func 27) #[] #[.pointer (some ⟨w.heap.size, 0, none⟩)]] W' fun e w' => e = .returned (.bool false) ∧ w' = W') := fun W' h =>
    hasC_any w.heap.size l _ _ W' ((hlv.below hbW (Nat.le_refl _)).below h (Nat.le_refl _)) (fun x hx => chk1_any x n cap ao w.heap.size W' (hl.let' x hx) ((h.cell (lt_of_cell hcW)).trans hcW))
  have lI : ¬ (40 : Int) < (l.length : Int) := by omega
  rw [HCL.out]
  rw [hW] at HC
  clear hg hl hm hlv hbW hcW
  go_enter Try.func13, Try.ntmps13
  go_wp2_with fail
  refine HC.out.mono ?_
  rintro e w1 ⟨rfl, hb⟩
  rw [← hW] at hb
  have HB1 : Hid (Below w.heap.size w w1) := HBW.out.trans (hb.mono HBW.out.size)
  have HH1 := HH.out w1 hb
  clear HC hb
  go_wp2_with fail
  refine HH1.mono ?_
  rintro e w2 ⟨rfl, rfl⟩
  clear HH1
  go_wp2
  go_ret
  exact ⟨rfl, HB1.out⟩

set_option maxRecDepth 100000 in
theorem checkBothW_any (n : Nat) (c : List (List Int)) (l k : List Int) (cv lv kv : Value) (w : World) (hg : Gdc n c) (hl : Gdw n l) (hk : Gdw n k) (hm : Mat w.heap.size 23 3 w cv c) (hlv : Sl w.heap.size 3 w lv (ints l)) (hkv : Sl w.heap.size 3 w kv (ints k)) :
    Calls Try.prog 28 #[cv, lv, kv] w fun e w' => e = .returned (.int .i64 0) ∧ Below w.heap.size w w' := by
  obtain ⟨ao, cap, hvv, _, hcm⟩ := mat_open hm
  subst hvv
  obtain ⟨lo, lc, hlvv, _, hlcm⟩ := sl_open hlv
  subst hlvv
  obtain ⟨ko, kc, hkvv, _, hkcm⟩ := sl_open hkv
  subst hkvv
  have H1 : Hid (Calls Try.prog 13 #[.slice ao c.length cap, .slice lo l.length lc] w fun e w' => e = .returned (.int .i64 0) ∧ Below w.heap.size w w') := checkW_any n c l _ _ w hg hl hm hlv
  have H2 : Hid (∀ W, Below w.heap.size w W → Calls Try.prog 13 #[.slice ao c.length cap, .slice ko k.length kc] W fun e w' => e = .returned (.int .i64 0) ∧ Below W.heap.size W w') := fun W h =>
    checkW_any n c k _ _ W hg hk ((hm.below h (Nat.le_refl _)).any (Nat.le_refl _)) ((hkv.below h (Nat.le_refl _)).any (Nat.le_refl _))
  clear hg hl hk hm hlv hkv
  go_enter Try.func28, Try.ntmps28
  go_wp2_with fail
  refine H1.out.mono ?_
  rintro e w1 ⟨rfl, hb1⟩
  have HB1 : Hid (Below w.heap.size w w1) := hb1
  have H21 := H2.out w1 hb1
  clear hb1
  go_wp2_with fail
  refine H21.mono ?_
  rintro e w2 ⟨rfl, hb2⟩
  have HB2 : Hid (Below w.heap.size w w2) := HB1.out.trans (hb2.mono HB1.out.size)
  clear hb2 H21
  go_wp2
  go_ret
  exact ⟨rfl, HB2.out⟩

end Go.Proofs.Ytkpdgpdicafeiaa
