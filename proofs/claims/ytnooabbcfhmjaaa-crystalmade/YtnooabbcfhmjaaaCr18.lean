/- The law CrystalSays. -/
import Derived.Test.YtnooabbcfhmjaaaCr15
import Derived.Test.YtnooabbcfhmjaaaCr17
import Derived.Test.YtnooabbcfhmjaaaLs1
namespace Go.Proofs.Ytnooabbcfhmjaaa
open Go.RowKit
attribute [local go_sem ↓] Go.wp_at_zero Go.wp_at_succ

set_option maxRecDepth 100000 in
theorem list_no (E : Int) (hE : ¬ E = 0) (w : World) :
    Calls Try.prog 17 #[.slice none 0 0, .int .i64 E, .slice none 0 0, .int .i64 E] w fun x w' => x = .returned (.bool true) ∧ w' = w := by
  go_enter Try.func17, Try.ntmps17
  go_wp2
  go_ret
  exact ⟨rfl, rfl⟩

set_option maxRecDepth 100000 in
theorem lists_no (E : Int) (hE : ¬ E = 0) (w : World) :
    Calls Try.prog 18 #[.slice none 0 0, .int .i64 E, .slice none 0 0, .int .i64 E] w fun x w' => x = .returned (.bool true) ∧ w' = w := by
  go_enter Try.func18, Try.ntmps18
  go_wp2
  go_ret
  exact ⟨rfl, rfl⟩

set_option maxRecDepth 100000 in
theorem listsK_same (B : Nat) (x : List (List Int)) (u v : Value) (w : World) (hu : Mat B 22 3 w u x) (hv : Mat B 22 3 w v x) :
    Calls Try.prog 18 #[u, .int .i64 0, v, .int .i64 0] w fun x w' => x = .returned (.bool true) ∧ Below w.heap.size w w' := by
  obtain ⟨uo, uc, rfl, _, _⟩ := mat_open hu
  obtain ⟨vo, vc, rfl, _, _⟩ := mat_open hv
  have HU : Hid (Mat B 22 3 w (.slice uo x.length uc) x) := hu
  have HV : Hid (Mat B 22 3 w (.slice vo x.length vc) x) := hv
  clear hu hv
  go_enter Try.func18, Try.ntmps18
  go_wp2_with fail
  refine (sameAll_any B x x _ _ w HU.out HV.out).mono ?_
  rintro e w' ⟨rfl, n, rfl⟩
  have hxx : (x == x) = true := by simp
  rw [hxx]
  go_wp2
  go_ret
  exact ⟨rfl, ⟨rfl, rfl, rfl, Nat.le_refl _, fun _ _ => rfl⟩⟩

theorem OptW.sl {B : Nat} {w : World} {u : Value} {o : Option (List Nat)} (h : OptW B w u o) : Sl 0 3 w u (ints (natsI (o.getD []))) := by
  cases o with
  | none =>
    have h : u = .slice none 0 0 := h
    subst h
    exact Sl.nil _ _ _
  | some x => exact Sl.own h

theorem Fr.m0 {B : Nat} {w : World} {v : Value} {m : List (List Int)} (h : Fr B 22 3 w v m) : Mat 0 22 3 w v m := by
  obtain ⟨vs, g1, g2, g3⟩ := h
  exact ⟨vs, g1, Sl.own g2, g3⟩

theorem all_both {n : Nat} {w : List Nat} {L L2 : List (List Nat)} {s s2 : List (List Int)} (h1 : All n w L) (h2 : All n w L2) (hs : SAsc s) (hs2 : SAsc s2) (hm : ∀ r, r ∈ s ↔ r ∈ L.map natsI) (hm2 : ∀ r, r ∈ s2 ↔ r ∈ L2.map natsI) : s = s2 := by
  refine sasc_ext s s2 hs hs2 fun r => ?_
  rw [hm, hm2]
  simp only [List.mem_map]
  constructor
  · rintro ⟨x, hx, rfl⟩; exact ⟨x, (h2.mem x).2 ((h1.mem x).1 hx), rfl⟩
  · rintro ⟨x, hx, rfl⟩; exact ⟨x, (h1.mem x).2 ((h2.mem x).1 hx), rfl⟩

theorem all_not {n : Nat} {w : List Nat} {L M : List (List Nat)} (h1 : All n w L) (hl : L.length ≤ 400) (hn : M.Nodup) (hr : ∀ x ∈ M, Rch n w x) (hm : 400 < M.length) : False := by
  have := nodup_le M L hn fun x hx => (h1.mem x).2 (hr x hx)
  omega

set_option maxRecDepth 100000 in
set_option maxHeartbeats 3200000 in
theorem says_no (B : Nat) (n : Int) (m : List Int) (i : Int) (v : Value) (w : World) (hv : Sl B 3 w v (ints m)) (h3 : m.length ≤ 300) (h0 : ¬ chkE n m = 0) :
    Calls Try.prog 3 #[.int .i64 n, v, .int .i64 i] w fun e w' => e = .returned (.bool true) ∧ Below w.heap.size w w' := by
  have HV : Hid (∀ W, Below w.heap.size w W → Sl B 3 W v (ints m)) := fun W hW => hv.below hW (Nat.le_refl _)
  have H1 := lettersMay_any B n m v w hv
  have hP : chkP n m i = chkE n m := by unfold chkP; rw [if_neg h0]
  have HUP : Hid (∀ W, Below w.heap.size w W → Calls Try.prog 7 #[.int .i64 n, v, .int .i64 i] W fun e w' => TurnQ W.heap.size W none (chkE n m) e w') := fun W hW => by
    have := Up_any B n m i v W (HV.out W hW)
    rw [hP, if_neg h0] at this
    exact this
  have HDN : Hid (∀ W, Below w.heap.size w W → Calls Try.prog 8 #[.int .i64 n, v, .int .i64 i] W fun e w' => TurnQ W.heap.size W none (chkE n m) e w') := fun W hW => by
    have := Down_any B n m i v W (HV.out W hW)
    rw [hP, if_neg h0] at this
    exact this
  have HCK : Hid (∀ W, Below w.heap.size w W → Calls Try.prog 9 #[.int .i64 n, v] W fun e w' => e = .returned (.int .i64 (chkE n m)) ∧ Below W.heap.size W w') := fun W hW => checkK_any B n m v W (HV.out W hW)
  have HMK : Hid (∀ W, Below w.heap.size w W → Calls Try.prog 14 #[.int .i64 n, v] W fun e w' => e = .returned (.tuple #[.slice none 0 0, .int .i64 (chkE n m)]) ∧ Below W.heap.size W w') := fun W hW => mark_no B n m v W (HV.out W hW) h0
  have HHI : Hid (∀ W, Below w.heap.size w W → Calls Try.prog 15 #[.int .i64 n, v] W fun e w' => e = .returned (.tuple #[.slice none 0 0, .int .i64 (chkE n m)]) ∧ Below W.heap.size W w') := fun W hW => high_no B n m v W (HV.out W hW) h0
  have HAL : Hid (∀ W, Below w.heap.size w W → Calls Try.prog 16 #[.int .i64 n, v] W fun e w' => e = .returned (.tuple #[.slice none 0 0, .int .i64 (chkE n m)]) ∧ Below W.heap.size W w') := fun W hW => all_no B n m v W (HV.out W hW) h0
  have HLN : Hid (∀ W, Calls Try.prog 17 #[.slice none 0 0, .int .i64 (chkE n m), .slice none 0 0, .int .i64 (chkE n m)] W fun x w' => x = .returned (.bool true) ∧ w' = W) := fun W => list_no _ h0 W
  have HLS : Hid (∀ W, Calls Try.prog 18 #[.slice none 0 0, .int .i64 (chkE n m), .slice none 0 0, .int .i64 (chkE n m)] W fun x w' => x = .returned (.bool true) ∧ w' = W) := fun W => lists_no _ h0 W
  have HSM : Hid (∀ W, Calls Try.prog 10 #[.slice none 0 0, .slice none 0 0] W fun e w' => e = .returned (.bool true) ∧ ∃ n, w' = W.drewN n) := fun W => same_any 0 [] [] _ _ W (Sl.nil _ _ _) (Sl.nil _ _ _)
  obtain ⟨ao, cap, hvv, hlc, hcm⟩ := sl_open hv
  subst hvv
  have h3I : ¬ (300 : Int) < (m.length : Int) := by omega
  generalize chkE n m = E at *
  have hEb : (E == 0) = false := by simp [h0]
  clear hv hP
  go_enter Try.func3, Try.ntmps3
  go_wp2_with fail
  refine H1.mono ?_
  rintro e w1 ⟨rfl, hb1⟩
  have HB1 : Hid (Below w.heap.size w w1) := hb1
  have H2 := HUP.out w1 hb1
  clear hb1 H1
  go_wp2_with fail
  refine H2.mono ?_
  rintro e w2 ⟨⟨u, rfl, hu⟩, hb⟩
  have hu : u = .slice none 0 0 := hu
  subst hu
  have HB2 : Hid (Below w.heap.size w w2) := HB1.out.trans (hb.mono HB1.out.size)
  have H3 := HDN.out w2 HB2.out
  clear hb H2 HB1
  simp only [Option.isSome_none]
  go_wp2_with fail
  refine H3.mono ?_
  rintro e w3 ⟨⟨u, rfl, hu⟩, hb⟩
  have hu : u = .slice none 0 0 := hu
  subst hu
  have HB3 : Hid (Below w.heap.size w w3) := HB2.out.trans (hb.mono HB2.out.size)
  have H4 := HCK.out w3 HB3.out
  clear hb H3 HB2
  simp only [Option.isSome_none]
  go_wp2_with fail
  refine H4.mono ?_
  rintro e w4 ⟨rfl, hb⟩
  have HB4 : Hid (Below w.heap.size w w4) := HB3.out.trans (hb.mono HB3.out.size)
  clear hb H4 HB3
  go_wp2_with fail
  refine (HSM.out w4).mono ?_
  rintro e w5 ⟨rfl, q5, rfl⟩
  go_wp2_with fail
  refine (HSM.out _).mono ?_
  rintro e w6 ⟨rfl, q6, rfl⟩
  obtain ⟨w6, hw6⟩ : ∃ W, W = (w4.drewN q5).drewN q6 := ⟨_, rfl⟩
  have HB6 : Hid (Below w.heap.size w w6) := by rw [hw6]; exact HB4.out.trans ⟨rfl, rfl, rfl, Nat.le_refl _, fun _ _ => rfl⟩
  rw [← hw6]
  have H7 := HMK.out w6 HB6.out
  clear hw6 HB4
  go_wp2_with fail
  refine H7.mono ?_
  rintro e w7 ⟨rfl, hb⟩
  have HB7 : Hid (Below w.heap.size w w7) := HB6.out.trans (hb.mono HB6.out.size)
  have H8 := HHI.out w7 HB7.out
  clear hb H7 HB6
  go_wp2_with fail
  refine H8.mono ?_
  rintro e w8 ⟨rfl, hb⟩
  have HB8 : Hid (Below w.heap.size w w8) := HB7.out.trans (hb.mono HB7.out.size)
  have H9 := HAL.out w8 HB8.out
  clear hb H8 HB7
  go_wp2_with fail
  refine H9.mono ?_
  rintro e w9 ⟨rfl, hb⟩
  have HB9 : Hid (Below w.heap.size w w9) := HB8.out.trans (hb.mono HB8.out.size)
  clear hb H9 HB8
  go_wp2_with fail
  refine (HLN.out w9).mono ?_
  rintro e w10 ⟨rfl, rfl⟩
  go_wp2_with fail
  refine (HLN.out _).mono ?_
  rintro e w11 ⟨rfl, rfl⟩
  go_wp2_with fail
  refine (HLS.out _).mono ?_
  rintro e w12 ⟨rfl, rfl⟩
  go_wp2
  go_ret
  exact ⟨rfl, HB9.out⟩

end Go.Proofs.Ytnooabbcfhmjaaa
