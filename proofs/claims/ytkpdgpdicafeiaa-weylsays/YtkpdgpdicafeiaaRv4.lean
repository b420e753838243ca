/- facetlaw.WeylSays of any square and any words. Made by mkrv4.py. -/
import Derived.Test.YtkpdgpdicafeiaaRvA
import Derived.Test.YtkpdgpdicafeiaaDo8
import Derived.Test.YtkpdgpdicafeiaaHvA
namespace Go.Proofs.Ytkpdgpdicafeiaa
open Go.RowKit
attribute [local go_sem ↓] Go.wp_at_zero Go.wp_at_succ

set_option maxRecDepth 100000 in
theorem weylSays_long (c : List (List Int)) (la lb : List Int) (cv av bv : Value) (w : World) (h : 60 < la.length ∨ 60 < lb.length) (hm : Mat w.heap.size 23 3 w cv c) (hav : Sl w.heap.size 3 w av (ints la)) (hbv : Sl w.heap.size 3 w bv (ints lb)) :
    Calls Try.prog 3 #[cv, av, bv] w fun e w' => e = .returned (.bool true) ∧ Below w.heap.size w w' := by
  have HHV := heavy_any w.heap.size c cv w hm
  obtain ⟨ao, cap, hvv, _, _⟩ := mat_open hm
  subst hvv
  obtain ⟨xo, xc, hxvv, _, _⟩ := sl_open hav
  subst hxvv
  obtain ⟨yo, yc, hyvv, _, _⟩ := sl_open hbv
  subst hyvv
  clear hm hav hbv
  by_cases h1 : 60 < la.length
  · have e60 : decide ((60 : Int) < (la.length : Int)) = true := decide_eq_true (by omega)
    clear h
    go_enter Try.func3, Try.ntmps3
    go_wp2_with fail
    refine HHV.mono ?_
    rintro e w0 ⟨hb, rfl, _, rfl⟩
    cases hb <;> (go_wp2; go_ret; exact ⟨rfl, Below.refl _ _⟩)
  · have e60 : decide ((60 : Int) < (la.length : Int)) = false := decide_eq_false (by omega)
    have e61 : decide ((60 : Int) < (lb.length : Int)) = true := decide_eq_true (by omega)
    clear h
    go_enter Try.func3, Try.ntmps3
    go_wp2_with fail
    refine HHV.mono ?_
    rintro e w0 ⟨hb, rfl, _, rfl⟩
    cases hb <;> (go_wp2; go_ret; exact ⟨rfl, Below.refl _ _⟩)

set_option maxRecDepth 100000 in
set_option maxHeartbeats 1600000 in
theorem weylSays_e1 (c : List (List Int)) (la lb : List Int) (cv av bv : Value) (w : World) (hla : la.length ≤ 60) (hlb : lb.length ≤ 60) (hne : ¬ wmE c la = 0) (hm : Mat w.heap.size 23 3 w cv c) (hav : Sl w.heap.size 3 w av (ints la)) (hbv : Sl w.heap.size 3 w bv (ints lb)) :
    Calls Try.prog 3 #[cv, av, bv] w fun e w' => e = .returned (.bool true) ∧ Below w.heap.size w w' := by
  have HHV := heavy_any w.heap.size c cv w hm
  have hMat : ∀ W, Below w.heap.size w W → Mat W.heap.size 23 3 W cv c := fun W hW => (hm.below hW (Nat.le_refl _)).any (Nat.le_refl _)
  have hAv : ∀ W, Below w.heap.size w W → Sl W.heap.size 3 W av (ints la) := fun W hW => (hav.below hW (Nat.le_refl _)).any (Nat.le_refl _)
  have hBv : ∀ W, Below w.heap.size w W → Sl W.heap.size 3 W bv (ints lb) := fun W hW => (hbv.below hW (Nat.le_refl _)).any (Nat.le_refl _)
  have hbe : bthE c la lb = wmE c la := by unfold bthE; rw [if_neg hne]
  have HMA : Hid (∀ W, Below w.heap.size w W → Calls Try.prog 5 #[cv, av] W fun e w' => e = .returned (.int .i64 (wmE c la)) ∧ Below W.heap.size W w') := fun W hW => wordMayX_any c la cv av W (hMat W hW) (hAv W hW)
  have HPR : Hid (∀ W, Below w.heap.size w W → Calls Try.prog 11 #[cv, av] W fun e w' => e = .returned (.tuple #[.slice none 0 0, .int .i64 (wmE c la)]) ∧ Below W.heap.size W w') := fun W hW => reduceX_any c la cv av W hne (hMat W hW) (hAv W hW)
  have HPE : Hid (∀ W, Below w.heap.size w W → Calls Try.prog 12 #[cv, av] W fun e w' => e = .returned (.tuple #[.slice none 0 0, .int .i64 (wmE c la)]) ∧ Below W.heap.size W w') := fun W hW => endsX_any c la cv av W hne (hMat W hW) (hAv W hW)
  have HPC : Hid (∀ W, Below w.heap.size w W → Calls Try.prog 13 #[cv, av] W fun e w' => e = .returned (.int .i64 (wmE c la)) ∧ Below W.heap.size W w') := fun W hW => checkWX_any c la cv av W (hMat W hW) (hAv W hW)
  have HPB : Hid (∀ W, Below w.heap.size w W → Calls Try.prog 15 #[cv, av, bv] W fun e w' => e = .returned (.tuple #[.bool false, .int .i64 (wmE c la)]) ∧ Below W.heap.size W w') := fun W hW => by
    have := belowX_any c la lb cv av bv W (by rw [hbe]; exact hne) (hMat W hW) (hAv W hW) (hBv W hW)
    rw [hbe] at this; exact this
  have HPS : Hid (∀ W, Below w.heap.size w W → Calls Try.prog 16 #[cv, av, bv] W fun e w' => e = .returned (.tuple #[.bool false, .int .i64 (wmE c la)]) ∧ Below W.heap.size W w') := fun W hW => by
    have := sameX_any c la lb cv av bv W (by rw [hbe]; exact hne) (hMat W hW) (hAv W hW) (hBv W hW)
    rw [hbe] at this; exact this
  have HLN : Hid (∀ W, Calls Try.prog 14 #[.slice none 0 0, .int .i64 (wmE c la), .slice none 0 0, .int .i64 (wmE c la)] W fun x w' => x = .returned (.bool true) ∧ w' = W) := fun W => listV_no _ hne W
  obtain ⟨ao, cap, hvv, _, _⟩ := mat_open hm
  subst hvv
  obtain ⟨xo, xc, hxvv, _, _⟩ := sl_open hav
  subst hxvv
  obtain ⟨yo, yc, hyvv, _, _⟩ := sl_open hbv
  subst hyvv
  clear hm hav hbv hMat hAv hBv hbe
  have e60 : decide ((60 : Int) < (la.length : Int)) = false := decide_eq_false (by omega)
  have e61 : decide ((60 : Int) < (lb.length : Int)) = false := decide_eq_false (by omega)
  generalize c.length = n at *
  generalize wmE c la = E at *
  generalize la.length = lA at *
  generalize lb.length = lB at *
  have hE : (E == 0) = false := by simpa using hne
  have hE2 : (E != 0) = true := by rw [bne, hE]; rfl
  clear hla hlb
  go_enter Try.func3, Try.ntmps3
  go_wp2_with fail
  refine HHV.mono ?_
  rintro e w0 ⟨hb, rfl, _, rfl⟩
  clear HHV
  cases hb
  · have B0 : Hid (Below w0.heap.size w0 w0) := Below.refl _ _
    go_wp2_with fail
    refine (HMA.out w0 B0.out).mono ?_
    rintro e w1 ⟨rfl, hb⟩
    have B1 : Hid (Below w0.heap.size w0 w1) := B0.out.trans (hb.mono B0.out.size)
    clear hb HMA
    go_wp2_with fail
    refine (HPR.out w1 B1.out).mono ?_
    rintro e w2 ⟨rfl, hb⟩
    have B2 : Hid (Below w0.heap.size w0 w2) := B1.out.trans (hb.mono B1.out.size)
    clear hb HPR
    go_wp2_with fail
    refine (HPE.out w2 B2.out).mono ?_
    rintro e w3 ⟨rfl, hb⟩
    have B3 : Hid (Below w0.heap.size w0 w3) := B2.out.trans (hb.mono B2.out.size)
    clear hb HPE
    go_wp2_with fail
    refine (HPC.out w3 B3.out).mono ?_
    rintro e w4 ⟨rfl, hb⟩
    have B4 : Hid (Below w0.heap.size w0 w4) := B3.out.trans (hb.mono B3.out.size)
    clear hb HPC
    go_wp2_with fail
    refine (HLN.out w4).mono ?_
    rintro e wl ⟨rfl, hw⟩
    obtain rfl := hw.symm
    clear hw
    go_wp2_with fail
    refine (HLN.out w4).mono ?_
    rintro e wl ⟨rfl, hw⟩
    obtain rfl := hw.symm
    clear hw
    go_wp2_with fail
    refine (HPB.out w4 B4.out).mono ?_
    rintro e w5 ⟨rfl, hb⟩
    have B5 : Hid (Below w0.heap.size w0 w5) := B4.out.trans (hb.mono B4.out.size)
    clear hb HPB
    have qL : ∀ (w : World) (a : Option Addr) (n c n' c' : Nat), (binOp .eql 23 (.slice a n c) (.slice none n' c')).run Try.prog w = .ok (.bool a.isNone) w := fun w a n c n' c' => Lib.run_eql_slice_nil w _ _ a n c n' c' Try.underlying23
    cases yo with
    | none =>
      have qn : (none : Option Addr).isNone = true := rfl
      clear HPS
      go_wp2
      go_ret
      exact ⟨rfl, B5.out⟩
    | some ya =>
      have qs : (some ya).isNone = false := rfl
      go_wp2_with fail
      refine (HPS.out w5 B5.out).mono ?_
      rintro e w6 ⟨rfl, hb⟩
      have B6 : Hid (Below w0.heap.size w0 w6) := B5.out.trans (hb.mono B5.out.size)
      clear hb HPS
      go_wp2
      go_ret
      exact ⟨ret_bool (by first | rfl | decide | simp), B6.out⟩
  · go_wp2
    go_ret
    exact ⟨rfl, Below.refl _ _⟩

set_option maxRecDepth 100000 in
set_option maxHeartbeats 3200000 in
theorem weylSays_e2 (n : Nat) (c R d : List (List Int)) (t : Nat → Int) (wa : List Nat) (lb : List Int) (cv av bv : Value) (w : World) (h : Wg n c R d t) (hla : Lt c wa) (hal : wa.length ≤ 40) (hlb : lb.length ≤ 60) (h0 : wmE c (natsI wa) = 0) (hne : ¬ wmE c lb = 0) (hm : Mat w.heap.size 23 3 w cv c) (hav : Sl w.heap.size 3 w av (ints (natsI wa))) (hbv : Sl w.heap.size 3 w bv (ints lb)) :
    Calls Try.prog 3 #[cv, av, bv] w fun e w' => e = .returned (.bool true) ∧ Below w.heap.size w w' := by
  have hcl := h.g.g.sq.len
  have hgc := h.g.g
  have HHV := heavy_any w.heap.size c cv w hm
  have hMat : ∀ W, Below w.heap.size w W → Mat W.heap.size 23 3 W cv c := fun W hW => (hm.below hW (Nat.le_refl _)).any (Nat.le_refl _)
  have hAv : ∀ W, Below w.heap.size w W → Sl W.heap.size 3 W av (ints (natsI wa)) := fun W hW => (hav.below hW (Nat.le_refl _)).any (Nat.le_refl _)
  have hBv : ∀ W, Below w.heap.size w W → Sl W.heap.size 3 W bv (ints lb) := fun W hW => (hbv.below hW (Nat.le_refl _)).any (Nat.le_refl _)
  have hbe : bthE c (natsI wa) lb = wmE c lb := by unfold bthE; rw [if_pos h0]
  have HMA : Hid (∀ W, Below w.heap.size w W → Calls Try.prog 5 #[cv, av] W fun e w' => e = .returned (.int .i64 0) ∧ Below W.heap.size W w') := fun W hW => by
    have := wordMayX_any c (natsI wa) cv av W (hMat W hW) (hAv W hW)
    rw [h0] at this; exact this
  have HMB : Hid (∀ W, Below w.heap.size w W → Calls Try.prog 5 #[cv, bv] W fun e w' => e = .returned (.int .i64 (wmE c lb)) ∧ Below W.heap.size W w') := fun W hW => wordMayX_any c lb cv bv W (hMat W hW) (hBv W hW)
  have HRA : Hid (∀ W, Below w.heap.size w W → Calls Try.prog 6 #[cv, av] W fun e w' => ∃ u, e = .returned u ∧ w'.ownsRow W.heap.size 3 1 u (rdW c wa).length (ints (natsI (rdW c wa))) ∧ Below W.heap.size W w') := fun W hW => reducedD_any n c R d t wa cv av W h hla (by omega) (hMat W hW) (hAv W hW)
  have HEA : Hid (∀ W, Below w.heap.size w W → Calls Try.prog 7 #[cv, av] W fun e w' => ∃ u, e = .returned u ∧ w'.ownsRow W.heap.size 3 1 u (enL (fwd c wa (ones n)) n).length (ints (natsI (enL (fwd c wa (ones n)) n))) ∧ Below W.heap.size W w') := fun W hW => endsD_any n c R d t wa cv av W h hla (by omega) (hMat W hW) (hAv W hW)
  have HPR : Hid (∀ W, Below w.heap.size w W → Calls Try.prog 11 #[cv, av] W fun e w' => ∃ u, e = .returned (.tuple #[u, .int .i64 0]) ∧ w'.ownsRow W.heap.size 3 1 u (rdW c wa).length (ints (natsI (rdW c wa))) ∧ Below W.heap.size W w') := fun W hW => reduceW_any n c R wa cv av W h.g hla hal (hMat W hW) (hAv W hW)
  have HPE : Hid (∀ W, Below w.heap.size w W → Calls Try.prog 12 #[cv, av] W fun e w' => ∃ u, e = .returned (.tuple #[u, .int .i64 0]) ∧ w'.ownsRow W.heap.size 3 1 u (enL (fwd c wa (ones n)) n).length (ints (natsI (enL (fwd c wa (ones n)) n))) ∧ Below W.heap.size W w') := fun W hW => endsW_any n c R wa cv av W h.g hla hal (hMat W hW) (hAv W hW)
  have HPC : Hid (∀ W, Below w.heap.size w W → Calls Try.prog 13 #[cv, av] W fun e w' => e = .returned (.int .i64 0) ∧ Below W.heap.size W w') := fun W hW => checkW_any n c _ cv av W hgc (gdw_of hcl hla hal) (hMat W hW) (hAv W hW)
  have HPB : Hid (∀ W, Below w.heap.size w W → Calls Try.prog 15 #[cv, av, bv] W fun e w' => e = .returned (.tuple #[.bool false, .int .i64 (wmE c lb)]) ∧ Below W.heap.size W w') := fun W hW => by
    have := belowX_any c (natsI wa) lb cv av bv W (by rw [hbe]; exact hne) (hMat W hW) (hAv W hW) (hBv W hW)
    rw [hbe] at this; exact this
  have HPS : Hid (∀ W, Below w.heap.size w W → Calls Try.prog 16 #[cv, av, bv] W fun e w' => e = .returned (.tuple #[.bool false, .int .i64 (wmE c lb)]) ∧ Below W.heap.size W w') := fun W hW => by
    have := sameX_any c (natsI wa) lb cv av bv W (by rw [hbe]; exact hne) (hMat W hW) (hAv W hW) (hBv W hW)
    rw [hbe] at this; exact this
  obtain ⟨ao, cap, hvv, _, _⟩ := mat_open hm
  subst hvv
  obtain ⟨xo, xc, hxvv, _, _⟩ := sl_open hav
  subst hxvv
  obtain ⟨yo, yc, hyvv, _, _⟩ := sl_open hbv
  subst hyvv
  rw [natsI_len] at HMA HRA HEA HPR HPE HPC HPB HPS ⊢
  rw [hcl] at *
  have e60 : decide ((60 : Int) < (wa.length : Int)) = false := decide_eq_false (by omega)
  have e61 : decide ((60 : Int) < (lb.length : Int)) = false := decide_eq_false (by omega)
  generalize rdW c wa = XA at *
  generalize enL (fwd c wa (ones n)) n = E at *
  generalize wmE c lb = Eb at *
  generalize wa.length = lA at *
  generalize lb.length = lB at *
  have hE : (Eb == 0) = false := by simpa using hne
  have hE2 : (Eb != 0) = true := by rw [bne, hE]; rfl
  clear h hgc hla hm hav hbv hMat hAv hBv hbe hal hlb h0
  go_enter Try.func3, Try.ntmps3
  go_wp2_with fail
  refine HHV.mono ?_
  rintro e w0 ⟨hb, rfl, _, rfl⟩
  clear HHV
  cases hb
  · have B0 : Hid (Below w0.heap.size w0 w0) := Below.refl _ _
    go_wp2_with fail
    refine (HMA.out w0 B0.out).mono ?_
    rintro e w1 ⟨rfl, hb⟩
    have B1 : Hid (Below w0.heap.size w0 w1) := B0.out.trans (hb.mono B0.out.size)
    clear hb HMA
    go_wp2_with fail
    refine (HMB.out w1 B1.out).mono ?_
    rintro e w2 ⟨rfl, hb⟩
    have B2 : Hid (Below w0.heap.size w0 w2) := B1.out.trans (hb.mono B1.out.size)
    clear hb HMB
    go_wp2_with fail
    refine (HRA.out w2 B2.out).mono ?_
    rintro e w3 ⟨u3, rfl, ho3, hb3⟩
    obtain ⟨so, sc3, hs3⟩ := owns_form ho3
    subst hs3
    have S3 : Hid (Sl 0 3 w3 (.slice so XA.length sc3) (ints (natsI XA))) := Sl.own ho3
    have B3 : Hid (Below w0.heap.size w0 w3) := B2.out.trans (hb3.mono B2.out.size)
    clear HRA ho3 hb3
    go_wp2_with fail
    refine (HEA.out w3 B3.out).mono ?_
    rintro e w4 ⟨u4, rfl, ho4, hb4⟩
    obtain ⟨eo, ec4, he4⟩ := owns_form ho4
    subst he4
    have E4 : Hid (Sl 0 3 w4 (.slice eo E.length ec4) (ints (natsI E))) := Sl.own ho4
    have S4 : Hid (Sl 0 3 w4 (.slice so XA.length sc3) (ints (natsI XA))) := S3.out.below hb4 (Nat.le_refl _)
    have B4 : Hid (Below w0.heap.size w0 w4) := B3.out.trans (hb4.mono B3.out.size)
    clear HEA ho4 hb4 S3
    go_wp2_with fail
    refine (HPR.out w4 B4.out).mono ?_
    rintro e w10 ⟨u10, rfl, ho10, hb10⟩
    obtain ⟨lo10, lc10, hl10⟩ := owns_form ho10
    subst hl10
    have L10 : Hid (Sl 0 3 w10 (.slice lo10 XA.length lc10) (ints (natsI XA))) := Sl.own ho10
    have E10 : Hid (Sl 0 3 w10 (.slice eo E.length ec4) (ints (natsI E))) := E4.out.below hb10 (Nat.le_refl _)
    have S10 : Hid (Sl 0 3 w10 (.slice so XA.length sc3) (ints (natsI XA))) := S4.out.below hb10 (Nat.le_refl _)
    have B10 : Hid (Below w0.heap.size w0 w10) := B4.out.trans (hb10.mono B4.out.size)
    clear HPR ho10 hb10 S4 E4
    go_wp2_with fail
    refine (HPE.out w10 B10.out).mono ?_
    rintro e w11 ⟨u11, rfl, ho11, hb11⟩
    obtain ⟨no11, nc11, hn11⟩ := owns_form ho11
    subst hn11
    have N11 : Hid (Sl 0 3 w11 (.slice no11 E.length nc11) (ints (natsI E))) := Sl.own ho11
    have L11 : Hid (Sl 0 3 w11 (.slice lo10 XA.length lc10) (ints (natsI XA))) := L10.out.below hb11 (Nat.le_refl _)
    have E11 : Hid (Sl 0 3 w11 (.slice eo E.length ec4) (ints (natsI E))) := E10.out.below hb11 (Nat.le_refl _)
    have S11 : Hid (Sl 0 3 w11 (.slice so XA.length sc3) (ints (natsI XA))) := S10.out.below hb11 (Nat.le_refl _)
    have B11 : Hid (Below w0.heap.size w0 w11) := B10.out.trans (hb11.mono B10.out.size)
    clear HPE ho11 hb11 S10 E10 L10
    go_wp2_with fail
    refine (HPC.out w11 B11.out).mono ?_
    rintro e w12 ⟨rfl, hb12⟩
    have N12 : Hid (Sl 0 3 w12 (.slice no11 E.length nc11) (ints (natsI E))) := N11.out.below hb12 (Nat.le_refl _)
    have E12 : Hid (Sl 0 3 w12 (.slice eo E.length ec4) (ints (natsI E))) := E11.out.below hb12 (Nat.le_refl _)
    have B12 : Hid (Below w0.heap.size w0 w12) := B11.out.trans (hb12.mono B11.out.size)
    have C13 := list_same 0 (natsI XA) (.slice lo10 XA.length lc10) (.slice so XA.length sc3) w12 (L11.out.below hb12 (Nat.le_refl _)) (S11.out.below hb12 (Nat.le_refl _))
    clear HPC hb12 S11 E11 L11 N11
    go_wp2_with fail
    refine C13.mono ?_
    rintro e w13 ⟨rfl, hb13⟩
    have B13 : Hid (Below w0.heap.size w0 w13) := B12.out.trans (hb13.mono B12.out.size)
    have C14 := list_same 0 (natsI E) (.slice no11 E.length nc11) (.slice eo E.length ec4) w13 (N12.out.below hb13 (Nat.le_refl _)) (E12.out.below hb13 (Nat.le_refl _))
    clear C13 hb13 N12 E12
    go_wp2_with fail
    refine C14.mono ?_
    rintro e w14 ⟨rfl, hb14⟩
    have B14 : Hid (Below w0.heap.size w0 w14) := B13.out.trans (hb14.mono B13.out.size)
    clear C14 hb14
    go_wp2_with fail
    refine (HPB.out w14 B14.out).mono ?_
    rintro e w15 ⟨rfl, hb⟩
    have B15 : Hid (Below w0.heap.size w0 w15) := B14.out.trans (hb.mono B14.out.size)
    clear hb HPB
    have qL : ∀ (w : World) (a : Option Addr) (n c n' c' : Nat), (binOp .eql 23 (.slice a n c) (.slice none n' c')).run Try.prog w = .ok (.bool a.isNone) w := fun w a n c n' c' => Lib.run_eql_slice_nil w _ _ a n c n' c' Try.underlying23
    cases yo with
    | none =>
      have qn : (none : Option Addr).isNone = true := rfl
      clear HPS
      go_wp2
      go_ret
      exact ⟨rfl, B15.out⟩
    | some ya =>
      have qs : (some ya).isNone = false := rfl
      go_wp2_with fail
      refine (HPS.out w15 B15.out).mono ?_
      rintro e w16 ⟨rfl, hb⟩
      have B16 : Hid (Below w0.heap.size w0 w16) := B15.out.trans (hb.mono B15.out.size)
      clear hb HPS
      go_wp2
      go_ret
      exact ⟨ret_bool (by first | rfl | decide | simp), B16.out⟩
  · go_wp2
    go_ret
    exact ⟨rfl, Below.refl _ _⟩

set_option maxRecDepth 100000 in
set_option maxHeartbeats 6400000 in
theorem weylSays_few (n : Nat) (c R d : List (List Int)) (t : Nat → Int) (wa wb : List Nat) (cv av bv : Value) (w : World) (h : Wg n c R d t) (hla : Lt c wa) (hlb : Lt c wb) (hal : wa.length ≤ 40) (hbl : wb.length ≤ 40) (h9 : (rdW c wb).length ≤ 9) (hm : Mat w.heap.size 23 3 w cv c) (hav : Sl w.heap.size 3 w av (ints (natsI wa))) (hbv : Sl w.heap.size 3 w bv (ints (natsI wb))) :
    Calls Try.prog 3 #[cv, av, bv] w fun e w' => e = .returned (.bool true) ∧ Below w.heap.size w w' := by
  have hcl := h.g.g.sq.len
  have hgc := h.g.g
  have HHV := heavy_any w.heap.size c cv w hm
  have hMat : ∀ W, Below w.heap.size w W → Mat W.heap.size 23 3 W cv c := fun W hW => (hm.below hW (Nat.le_refl _)).any (Nat.le_refl _)
  have hAv : ∀ W, Below w.heap.size w W → Sl W.heap.size 3 W av (ints (natsI wa)) := fun W hW => (hav.below hW (Nat.le_refl _)).any (Nat.le_refl _)
  have hBv : ∀ W, Below w.heap.size w W → Sl W.heap.size 3 W bv (ints (natsI wb)) := fun W hW => (hbv.below hW (Nat.le_refl _)).any (Nat.le_refl _)
  have hra := rd_all h.g hla
  have hrb := rd_all h.g hlb
  have hrla := rd_len_le h.g hla
  have hrlb := rd_len_le h.g hlb
  have HMA : Hid (∀ W, Below w.heap.size w W → Calls Try.prog 5 #[cv, av] W fun e w' => e = .returned (.int .i64 0) ∧ Below W.heap.size W w') := fun W hW => wordMay_any n c wa cv av W hgc h.pos h.u.rd.nod hla hal (hMat W hW) (hAv W hW)
  have HMB : Hid (∀ W, Below w.heap.size w W → Calls Try.prog 5 #[cv, bv] W fun e w' => e = .returned (.int .i64 0) ∧ Below W.heap.size W w') := fun W hW => wordMay_any n c wb cv bv W hgc h.pos h.u.rd.nod hlb (by omega) (hMat W hW) (hBv W hW)
  have HRA : Hid (∀ W, Below w.heap.size w W → Calls Try.prog 6 #[cv, av] W fun e w' => ∃ u, e = .returned u ∧ w'.ownsRow W.heap.size 3 1 u (rdW c wa).length (ints (natsI (rdW c wa))) ∧ Below W.heap.size W w') := fun W hW => reducedD_any n c R d t wa cv av W h hla (by omega) (hMat W hW) (hAv W hW)
  have HRB : Hid (∀ W, Below w.heap.size w W → Calls Try.prog 6 #[cv, bv] W fun e w' => ∃ u, e = .returned u ∧ w'.ownsRow W.heap.size 3 1 u (rdW c wb).length (ints (natsI (rdW c wb))) ∧ Below W.heap.size W w') := fun W hW => reducedD_any n c R d t wb cv bv W h hlb (by omega) (hMat W hW) (hBv W hW)
  have HEA : Hid (∀ W, Below w.heap.size w W → Calls Try.prog 7 #[cv, av] W fun e w' => ∃ u, e = .returned u ∧ w'.ownsRow W.heap.size 3 1 u (enL (fwd c wa (ones n)) n).length (ints (natsI (enL (fwd c wa (ones n)) n))) ∧ Below W.heap.size W w') := fun W hW => endsD_any n c R d t wa cv av W h hla (by omega) (hMat W hW) (hAv W hW)
  have HDA : Hid (∀ W, Below w.heap.size w W → Calls Try.prog 9 #[cv, av] W fun e w' => ∃ u, e = .returned u ∧ w'.ownsRow W.heap.size 3 1 u (n * n) (ints (dnW d wa)) ∧ Below W.heap.size W w') := fun W hW => done_any n c R d t wa cv av W h hla (by omega) (hMat W hW) (hAv W hW)
  have HDB : Hid (∀ W, Below w.heap.size w W → Calls Try.prog 9 #[cv, bv] W fun e w' => ∃ u, e = .returned u ∧ w'.ownsRow W.heap.size 3 1 u (n * n) (ints (dnW d wb)) ∧ Below W.heap.size W w') := fun W hW => done_any n c R d t wb cv bv W h hlb (by omega) (hMat W hW) (hBv W hW)
  have HBL : Hid (∀ W u x, Below w.heap.size w W → Sl 0 3 W u (ints (natsI (rdW c wa))) → Sl 0 3 W x (ints (natsI (rdW c wb))) → Calls Try.prog 10 #[cv, u, x] W fun e w' => e = .returned (.bool (blB c wa wb)) ∧ Below W.heap.size W w') := fun W u x hW h1 h2 => by
    refine (belowD_any n c R d t (rdW c wa) (rdW c wb) cv u x W h hra.2.1 hrb.2.1 (by omega) (by omega) (hMat W hW) (h1.more (Nat.zero_le _)) (h2.more (Nat.zero_le _))).mono ?_
    rintro e w' ⟨q, rfl, hq, hb⟩
    refine ⟨?_, hb⟩
    have e1 : dnW d (rdW c wa) = dnW d wa := (dn_iff h.u hra.2.1 hla).2 hra.2.2.1
    rw [e1] at hq
    have hq2 := bl_iff h.g h.u hla hlb
    have : q = blB c wa wb := by rw [Bool.eq_iff_iff, hq, hq2]
    rw [this]
  have HPR : Hid (∀ W, Below w.heap.size w W → Calls Try.prog 11 #[cv, av] W fun e w' => ∃ u, e = .returned (.tuple #[u, .int .i64 0]) ∧ w'.ownsRow W.heap.size 3 1 u (rdW c wa).length (ints (natsI (rdW c wa))) ∧ Below W.heap.size W w') := fun W hW => reduceW_any n c R wa cv av W h.g hla hal (hMat W hW) (hAv W hW)
  have HPE : Hid (∀ W, Below w.heap.size w W → Calls Try.prog 12 #[cv, av] W fun e w' => ∃ u, e = .returned (.tuple #[u, .int .i64 0]) ∧ w'.ownsRow W.heap.size 3 1 u (enL (fwd c wa (ones n)) n).length (ints (natsI (enL (fwd c wa (ones n)) n))) ∧ Below W.heap.size W w') := fun W hW => endsW_any n c R wa cv av W h.g hla hal (hMat W hW) (hAv W hW)
  have HPC : Hid (∀ W, Below w.heap.size w W → Calls Try.prog 13 #[cv, av] W fun e w' => e = .returned (.int .i64 0) ∧ Below W.heap.size W w') := fun W hW => checkW_any n c _ cv av W hgc (gdw_of hcl hla hal) (hMat W hW) (hAv W hW)
  have HPB : Hid (∀ W, Below w.heap.size w W → Calls Try.prog 15 #[cv, av, bv] W fun e w' => e = .returned (.tuple #[.bool (blB c wa wb), .int .i64 0]) ∧ Below W.heap.size W w') := fun W hW => belowW_any n c R wa wb cv av bv W h.g hla hlb hal (by omega) (hMat W hW) (hAv W hW) (hBv W hW)
  have HPS : Hid (∀ W, Below w.heap.size w W → Calls Try.prog 16 #[cv, av, bv] W fun e w' => e = .returned (.tuple #[.bool (dnW d wa == dnW d wb), .int .i64 0]) ∧ Below W.heap.size W w') := fun W hW => by
    have := sameW_any n c R wa wb cv av bv W h.g hla hlb hal (by omega) (hMat W hW) (hAv W hW) (hBv W hW)
    have e : (tak c wa (ones n) == tak c wb (ones n)) = (dnW d wa == dnW d wb) := by
      have hi := dn_iff h.u hla hlb
      rw [hcl] at hi
      rw [Bool.eq_iff_iff, beq_iff_eq, beq_iff_eq]
      exact hi.symm
    rw [e] at this
    exact this
  obtain ⟨ao, cap, hvv, _, _⟩ := mat_open hm
  subst hvv
  obtain ⟨xo, xc, hxvv, _, _⟩ := sl_open hav
  subst hxvv
  obtain ⟨yo, yc, hyvv, _, _⟩ := sl_open hbv
  subst hyvv
  rw [natsI_len] at HMA HRA HEA HDA HPR HPE HPC HPB HPS ⊢
  rw [natsI_len] at HMB HRB HDB HPB HPS ⊢
  rw [hcl] at *
  have hab := h9
  have hee : (enL (fwd c wa (ones n)) n).length ≤ n := enL_le _ _
  generalize rdW c wa = XA at *
  generalize rdW c wb = XB at *
  generalize enL (fwd c wa (ones n)) n = E at *
  generalize hDA : dnW d wa = DA at *
  generalize hDB : dnW d wb = DB at *
  generalize blB c wa wb = bl at *
  clear h hgc hla hlb hm hav hbv hMat hAv hBv hra hrb hrla hrlb hDA hDB h9
  generalize hNN : n * n = NN at *
  clear hNN
  have e60 : decide ((60 : Int) < (wa.length : Int)) = false := decide_eq_false (by omega)
  have e61 : decide ((60 : Int) < (wb.length : Int)) = false := decide_eq_false (by omega)
  go_enter Try.func3, Try.ntmps3
  go_wp2_with fail
  refine HHV.mono ?_
  rintro e w0 ⟨hb, rfl, _, rfl⟩
  clear HHV
  cases hb
  · have C1 := HMA.out w0 (Below.refl _ _)
    clear HMA
    go_wp2_with fail
    refine C1.mono ?_
    rintro e w1 ⟨rfl, hb1⟩
    have B1 : Hid (Below w0.heap.size w0 w1) := hb1
    have C2 := HMB.out w1 hb1
    clear C1 HMB hb1
    go_wp2_with fail
    refine C2.mono ?_
    rintro e w2 ⟨rfl, hb2⟩
    have B2 : Hid (Below w0.heap.size w0 w2) := B1.out.trans (hb2.mono B1.out.size)
    have C3 := HRA.out w2 B2.out
    clear C2 HRA hb2 B1
    go_wp2_with fail
    refine C3.mono ?_
    rintro e w3 ⟨u3, rfl, ho3, hb3⟩
    obtain ⟨so, sc3, hs3⟩ := owns_form ho3
    subst hs3
    have S3 : Hid (Sl 0 3 w3 (.slice so XA.length sc3) (ints (natsI XA))) := Sl.own ho3
    have B3 : Hid (Below w0.heap.size w0 w3) := B2.out.trans (hb3.mono B2.out.size)
    have C4 := HEA.out w3 B3.out
    clear C3 HEA ho3 hb3 B2
    go_wp2_with fail
    refine C4.mono ?_
    rintro e w4 ⟨u4, rfl, ho4, hb4⟩
    obtain ⟨eo, ec4, he4⟩ := owns_form ho4
    subst he4
    have E4 : Hid (Sl 0 3 w4 (.slice eo E.length ec4) (ints (natsI E))) := Sl.own ho4
    have S4 : Hid (Sl 0 3 w4 (.slice so XA.length sc3) (ints (natsI XA))) := S3.out.below hb4 (Nat.le_refl _)
    have B4 : Hid (Below w0.heap.size w0 w4) := B3.out.trans (hb4.mono B3.out.size)
    have C5 := HDA.out w4 B4.out
    clear C4 HDA ho4 hb4 B3 S3
    go_wp2_with fail
    refine C5.mono ?_
    rintro e w5 ⟨u5, rfl, ho5, hb5⟩
    obtain ⟨do5, dc5, hd5⟩ := owns_form ho5
    subst hd5
    have D5 : Hid (Sl 0 3 w5 (.slice do5 NN dc5) (ints DA)) := Sl.own ho5
    have E5 : Hid (Sl 0 3 w5 (.slice eo E.length ec4) (ints (natsI E))) := E4.out.below hb5 (Nat.le_refl _)
    have S5 : Hid (Sl 0 3 w5 (.slice so XA.length sc3) (ints (natsI XA))) := S4.out.below hb5 (Nat.le_refl _)
    have B5 : Hid (Below w0.heap.size w0 w5) := B4.out.trans (hb5.mono B4.out.size)
    have C6 := HDB.out w5 B5.out
    clear C5 HDB ho5 hb5 B4 S4 E4
    go_wp2_with fail
    refine C6.mono ?_
    rintro e w6 ⟨u6, rfl, ho6, hb6⟩
    obtain ⟨do6, dc6, hd6⟩ := owns_form ho6
    subst hd6
    have E6 : Hid (Sl 0 3 w6 (.slice eo E.length ec4) (ints (natsI E))) := E5.out.below hb6 (Nat.le_refl _)
    have S6 : Hid (Sl 0 3 w6 (.slice so XA.length sc3) (ints (natsI XA))) := S5.out.below hb6 (Nat.le_refl _)
    have B6 : Hid (Below w0.heap.size w0 w6) := B5.out.trans (hb6.mono B5.out.size)
    have C7 := same_any 0 DA DB (.slice do5 NN dc5) (.slice do6 NN dc6) w6 (D5.out.below hb6 (Nat.le_refl _)) (Sl.own ho6)
    obtain ⟨sm', hsm⟩ : ∃ sm', sm' = (DA == DB) := ⟨_, rfl⟩
    rw [← hsm] at C7 HPS
    clear C6 ho6 hb6 B5 S5 E5 D5 hsm
    go_wp2_with fail
    refine C7.mono ?_
    rintro e w7' ⟨rfl, n7, rfl⟩
    have hq7 : Below w6.heap.size w6 (w6.drewN n7) := ⟨rfl, rfl, rfl, Nat.le_refl _, fun _ _ => rfl⟩
    have E7 : Hid (Sl 0 3 (w6.drewN n7) (.slice eo E.length ec4) (ints (natsI E))) := E6.out.below hq7 (Nat.le_refl _)
    have S7 : Hid (Sl 0 3 (w6.drewN n7) (.slice so XA.length sc3) (ints (natsI XA))) := S6.out.below hq7 (Nat.le_refl _)
    have B7 : Hid (Below w0.heap.size w0 (w6.drewN n7)) := B6.out.trans (hq7.mono B6.out.size)
    have C8 := HRB.out (w6.drewN n7) B7.out
    clear C7 HRB hq7 B6 S6 E6
    generalize w6.drewN n7 = w7 at *
    go_wp2_with fail
    refine C8.mono ?_
    rintro e w8 ⟨u8, rfl, ho8, hb8⟩
    obtain ⟨xo8, xc8, hx8⟩ := owns_form ho8
    subst hx8
    have X8 : Hid (Sl 0 3 w8 (.slice xo8 XB.length xc8) (ints (natsI XB))) := Sl.own ho8
    have E8 : Hid (Sl 0 3 w8 (.slice eo E.length ec4) (ints (natsI E))) := E7.out.below hb8 (Nat.le_refl _)
    have S8 : Hid (Sl 0 3 w8 (.slice so XA.length sc3) (ints (natsI XA))) := S7.out.below hb8 (Nat.le_refl _)
    have B8 : Hid (Below w0.heap.size w0 w8) := B7.out.trans (hb8.mono B7.out.size)
    have e9 : decide ((9 : Int) < (XB.length : Int)) = false := decide_eq_false (by omega)
    have C9 := HBL.out w8 _ _ B8.out S8.out X8.out
    clear C8 HBL ho8 hb8 B7 S7 E7 X8
    go_wp2_with fail
    refine C9.mono ?_
    rintro e w9 ⟨rfl, hb9⟩
    have E9 : Hid (Sl 0 3 w9 (.slice eo E.length ec4) (ints (natsI E))) := E8.out.below hb9 (Nat.le_refl _)
    have S9 : Hid (Sl 0 3 w9 (.slice so XA.length sc3) (ints (natsI XA))) := S8.out.below hb9 (Nat.le_refl _)
    have B9 : Hid (Below w0.heap.size w0 w9) := B8.out.trans (hb9.mono B8.out.size)
    have C10 := HPR.out w9 B9.out
    clear C9 HPR hb9 B8 S8 E8
    go_wp2_with fail
    refine C10.mono ?_
    rintro e w10 ⟨u10, rfl, ho10, hb10⟩
    obtain ⟨lo10, lc10, hl10⟩ := owns_form ho10
    subst hl10
    have L10 : Hid (Sl 0 3 w10 (.slice lo10 XA.length lc10) (ints (natsI XA))) := Sl.own ho10
    have E10 : Hid (Sl 0 3 w10 (.slice eo E.length ec4) (ints (natsI E))) := E9.out.below hb10 (Nat.le_refl _)
    have S10 : Hid (Sl 0 3 w10 (.slice so XA.length sc3) (ints (natsI XA))) := S9.out.below hb10 (Nat.le_refl _)
    have B10 : Hid (Below w0.heap.size w0 w10) := B9.out.trans (hb10.mono B9.out.size)
    have C11 := HPE.out w10 B10.out
    clear C10 HPE ho10 hb10 B9 S9 E9
    go_wp2_with fail
    refine C11.mono ?_
    rintro e w11 ⟨u11, rfl, ho11, hb11⟩
    obtain ⟨no11, nc11, hn11⟩ := owns_form ho11
    subst hn11
    have N11 : Hid (Sl 0 3 w11 (.slice no11 E.length nc11) (ints (natsI E))) := Sl.own ho11
    have L11 : Hid (Sl 0 3 w11 (.slice lo10 XA.length lc10) (ints (natsI XA))) := L10.out.below hb11 (Nat.le_refl _)
    have E11 : Hid (Sl 0 3 w11 (.slice eo E.length ec4) (ints (natsI E))) := E10.out.below hb11 (Nat.le_refl _)
    have S11 : Hid (Sl 0 3 w11 (.slice so XA.length sc3) (ints (natsI XA))) := S10.out.below hb11 (Nat.le_refl _)
    have B11 : Hid (Below w0.heap.size w0 w11) := B10.out.trans (hb11.mono B10.out.size)
    have C12 := HPC.out w11 B11.out
    clear C11 HPC ho11 hb11 B10 S10 E10 L10
    go_wp2_with fail
    refine C12.mono ?_
    rintro e w12 ⟨rfl, hb12⟩
    have N12 : Hid (Sl 0 3 w12 (.slice no11 E.length nc11) (ints (natsI E))) := N11.out.below hb12 (Nat.le_refl _)
    have E12 : Hid (Sl 0 3 w12 (.slice eo E.length ec4) (ints (natsI E))) := E11.out.below hb12 (Nat.le_refl _)
    have B12 : Hid (Below w0.heap.size w0 w12) := B11.out.trans (hb12.mono B11.out.size)
    have C13 := list_same 0 (natsI XA) (.slice lo10 XA.length lc10) (.slice so XA.length sc3) w12 (L11.out.below hb12 (Nat.le_refl _)) (S11.out.below hb12 (Nat.le_refl _))
    clear C12 hb12 B11 S11 E11 L11 N11
    go_wp2_with fail
    refine C13.mono ?_
    rintro e w13 ⟨rfl, hb13⟩
    have B13 : Hid (Below w0.heap.size w0 w13) := B12.out.trans (hb13.mono B12.out.size)
    have C14 := list_same 0 (natsI E) (.slice no11 E.length nc11) (.slice eo E.length ec4) w13 (N12.out.below hb13 (Nat.le_refl _)) (E12.out.below hb13 (Nat.le_refl _))
    clear C13 hb13 B12 N12 E12
    go_wp2_with fail
    refine C14.mono ?_
    rintro e w14 ⟨rfl, hb14⟩
    have B14 : Hid (Below w0.heap.size w0 w14) := B13.out.trans (hb14.mono B13.out.size)
    have C15 := HPB.out w14 B14.out
    clear C14 hb14 HPB B13
    go_wp2_with fail
    refine C15.mono ?_
    rintro e w15 ⟨rfl, hb15⟩
    have B15 : Hid (Below w0.heap.size w0 w15) := B14.out.trans (hb15.mono B14.out.size)
    have C16 := HPS.out w15 B15.out
    clear C15 hb15 HPS B14
    have qL : ∀ (w : World) (a : Option Addr) (n c n' c' : Nat), (binOp .eql 23 (.slice a n c) (.slice none n' c')).run Try.prog w = .ok (.bool a.isNone) w := fun w a n c n' c' => Lib.run_eql_slice_nil w _ _ a n c n' c' Try.underlying23
    cases yo with
    | none =>
      have qn : (none : Option Addr).isNone = true := rfl
      clear C16
      cases bl
      · go_wp2
        go_ret
        exact ⟨rfl, B15.out⟩
      · go_wp2
        go_ret
        exact ⟨rfl, B15.out⟩
    | some ya =>
      have qs : (some ya).isNone = false := rfl
      cases bl
      · go_wp2_with fail
        refine C16.mono ?_
        rintro e w16 ⟨rfl, hb16⟩
        have B16 : Hid (Below w0.heap.size w0 w16) := B15.out.trans (hb16.mono B15.out.size)
        clear hb16 C16
        cases sm'
        · go_wp2
          go_ret
          exact ⟨ret_bool (by first | rfl | decide | simp), B16.out⟩
        · go_wp2
          go_ret
          exact ⟨ret_bool (by first | rfl | decide | simp), B16.out⟩
      · go_wp2_with fail
        refine C16.mono ?_
        rintro e w16 ⟨rfl, hb16⟩
        have B16 : Hid (Below w0.heap.size w0 w16) := B15.out.trans (hb16.mono B15.out.size)
        clear hb16 C16
        cases sm'
        · go_wp2
          go_ret
          exact ⟨ret_bool (by first | rfl | decide | simp), B16.out⟩
        · go_wp2
          go_ret
          exact ⟨ret_bool (by first | rfl | decide | simp), B16.out⟩
  · go_wp2
    go_ret
    exact ⟨rfl, Below.refl _ _⟩

theorem nB_ones {n : Nat} {c R : List (List Int)} (h : Gda n c R) : nB c.length R (tak c [] (ones c.length)) = 0 := by
  show nB c.length R (ones c.length) = 0
  unfold nB
  rw [List.countP_eq_zero]
  intro b hb
  have hp := h.rt.pos b hb
  have e : pr c.length (ones c.length) b = sm c.length fun k => b.getD k 0 := by
    unfold pr
    refine sm_congr _ fun k hk => ?_
    unfold ones
    simp [hk]
  rw [e]
  simp only [decide_eq_true_eq]
  omega

theorem sl_cap {B : Nat} {e : TypeId} {w : World} {ao : Option Addr} {n cap : Nat} {xs : List Value} (h : Sl B e w (.slice ao n cap) xs) : n ≤ cap := by
  obtain ⟨ao', cap', hv, h2, _⟩ := h
  simp only [Value.slice.injEq] at hv
  omega

theorem sl_cut0 {B : Nat} {e : TypeId} {w : World} {ao : Option Addr} {n cap : Nat} {xs : List Value} (h : Sl B e w (.slice ao n cap) xs) : Sl B e w (.slice ao 0 cap) [] := by
  obtain ⟨ao', cap', hv, h2, h3, _, h5⟩ := h
  simp only [Value.slice.injEq] at hv
  obtain ⟨rfl, _, rfl⟩ := hv
  exact ⟨_, _, rfl, Nat.zero_le _, h3, fun i hi => absurd hi (Nat.not_lt_zero i), h5⟩

set_option maxRecDepth 100000 in
set_option maxHeartbeats 6400000 in
theorem weylSays_many (n : Nat) (c R d : List (List Int)) (t : Nat → Int) (wa wb : List Nat) (cv av bv : Value) (w : World) (h : Wg n c R d t) (hla : Lt c wa) (hlb : Lt c wb) (hal : wa.length ≤ 40) (hbl : wb.length ≤ 40) (h9 : ¬ (rdW c wb).length ≤ 9) (hm : Mat w.heap.size 23 3 w cv c) (hav : Sl w.heap.size 3 w av (ints (natsI wa))) (hbv : Sl w.heap.size 3 w bv (ints (natsI wb))) :
    Calls Try.prog 3 #[cv, av, bv] w fun e w' => e = .returned (.bool true) ∧ Below w.heap.size w w' := by
  have hcl := h.g.g.sq.len
  have hgc := h.g.g
  have HHV := heavy_any w.heap.size c cv w hm
  have hMat : ∀ W, Below w.heap.size w W → Mat W.heap.size 23 3 W cv c := fun W hW => (hm.below hW (Nat.le_refl _)).any (Nat.le_refl _)
  have hAv : ∀ W, Below w.heap.size w W → Sl W.heap.size 3 W av (ints (natsI wa)) := fun W hW => (hav.below hW (Nat.le_refl _)).any (Nat.le_refl _)
  have hBv : ∀ W, Below w.heap.size w W → Sl W.heap.size 3 W bv (ints (natsI wb)) := fun W hW => (hbv.below hW (Nat.le_refl _)).any (Nat.le_refl _)
  have hra := rd_all h.g hla
  have hrb := rd_all h.g hlb
  have hrla := rd_len_le h.g hla
  have hrlb := rd_len_le h.g hlb
  have HMA : Hid (∀ W, Below w.heap.size w W → Calls Try.prog 5 #[cv, av] W fun e w' => e = .returned (.int .i64 0) ∧ Below W.heap.size W w') := fun W hW => wordMay_any n c wa cv av W hgc h.pos h.u.rd.nod hla hal (hMat W hW) (hAv W hW)
  have HMB : Hid (∀ W, Below w.heap.size w W → Calls Try.prog 5 #[cv, bv] W fun e w' => e = .returned (.int .i64 0) ∧ Below W.heap.size W w') := fun W hW => wordMay_any n c wb cv bv W hgc h.pos h.u.rd.nod hlb (by omega) (hMat W hW) (hBv W hW)
  have HRA : Hid (∀ W, Below w.heap.size w W → Calls Try.prog 6 #[cv, av] W fun e w' => ∃ u, e = .returned u ∧ w'.ownsRow W.heap.size 3 1 u (rdW c wa).length (ints (natsI (rdW c wa))) ∧ Below W.heap.size W w') := fun W hW => reducedD_any n c R d t wa cv av W h hla (by omega) (hMat W hW) (hAv W hW)
  have HRB : Hid (∀ W, Below w.heap.size w W → Calls Try.prog 6 #[cv, bv] W fun e w' => ∃ u, e = .returned u ∧ w'.ownsRow W.heap.size 3 1 u (rdW c wb).length (ints (natsI (rdW c wb))) ∧ Below W.heap.size W w') := fun W hW => reducedD_any n c R d t wb cv bv W h hlb (by omega) (hMat W hW) (hBv W hW)
  have HEA : Hid (∀ W, Below w.heap.size w W → Calls Try.prog 7 #[cv, av] W fun e w' => ∃ u, e = .returned u ∧ w'.ownsRow W.heap.size 3 1 u (enL (fwd c wa (ones n)) n).length (ints (natsI (enL (fwd c wa (ones n)) n))) ∧ Below W.heap.size W w') := fun W hW => endsD_any n c R d t wa cv av W h hla (by omega) (hMat W hW) (hAv W hW)
  have HDA : Hid (∀ W, Below w.heap.size w W → Calls Try.prog 9 #[cv, av] W fun e w' => ∃ u, e = .returned u ∧ w'.ownsRow W.heap.size 3 1 u (n * n) (ints (dnW d wa)) ∧ Below W.heap.size W w') := fun W hW => done_any n c R d t wa cv av W h hla (by omega) (hMat W hW) (hAv W hW)
  have HDB : Hid (∀ W, Below w.heap.size w W → Calls Try.prog 9 #[cv, bv] W fun e w' => ∃ u, e = .returned u ∧ w'.ownsRow W.heap.size 3 1 u (n * n) (ints (dnW d wb)) ∧ Below W.heap.size W w') := fun W hW => done_any n c R d t wb cv bv W h hlb (by omega) (hMat W hW) (hBv W hW)
  have HBL : Hid (∀ W u x, Below w.heap.size w W → Sl 0 3 W u (ints (natsI (rdW c wa))) → Sl 0 3 W x (ints (natsI [])) → Calls Try.prog 10 #[cv, u, x] W fun e w' => e = .returned (.bool (blB c wa [])) ∧ Below W.heap.size W w') := fun W u x hW h1 h2 => by
    have hl0 : Lt c [] := fun r hr => by cases hr
    refine (belowD_any n c R d t (rdW c wa) [] cv u x W h hra.2.1 hl0 (by omega) (by simp) (hMat W hW) (h1.more (Nat.zero_le _)) (h2.more (Nat.zero_le _))).mono ?_
    rintro e w' ⟨q, rfl, hq, hb⟩
    refine ⟨?_, hb⟩
    have e1 : dnW d (rdW c wa) = dnW d wa := (dn_iff h.u hra.2.1 hla).2 hra.2.2.1
    rw [e1] at hq
    have hq2 := bl_iff h.g h.u hla hl0
    have e2 : rdW c [] = [] := rd_nil h.g hl0 (nB_ones h.g)
    rw [e2] at hq2
    have : q = blB c wa [] := by rw [Bool.eq_iff_iff, hq, hq2]
    rw [this]
  have HPR : Hid (∀ W, Below w.heap.size w W → Calls Try.prog 11 #[cv, av] W fun e w' => ∃ u, e = .returned (.tuple #[u, .int .i64 0]) ∧ w'.ownsRow W.heap.size 3 1 u (rdW c wa).length (ints (natsI (rdW c wa))) ∧ Below W.heap.size W w') := fun W hW => reduceW_any n c R wa cv av W h.g hla hal (hMat W hW) (hAv W hW)
  have HPE : Hid (∀ W, Below w.heap.size w W → Calls Try.prog 12 #[cv, av] W fun e w' => ∃ u, e = .returned (.tuple #[u, .int .i64 0]) ∧ w'.ownsRow W.heap.size 3 1 u (enL (fwd c wa (ones n)) n).length (ints (natsI (enL (fwd c wa (ones n)) n))) ∧ Below W.heap.size W w') := fun W hW => endsW_any n c R wa cv av W h.g hla hal (hMat W hW) (hAv W hW)
  have HPC : Hid (∀ W, Below w.heap.size w W → Calls Try.prog 13 #[cv, av] W fun e w' => e = .returned (.int .i64 0) ∧ Below W.heap.size W w') := fun W hW => checkW_any n c _ cv av W hgc (gdw_of hcl hla hal) (hMat W hW) (hAv W hW)
  have HPB : Hid (∀ W, Below w.heap.size w W → Calls Try.prog 15 #[cv, av, .slice none 0 0] W fun e w' => e = .returned (.tuple #[.bool (blB c wa []), .int .i64 0]) ∧ Below W.heap.size W w') := fun W hW => belowW_any n c R wa [] cv av (.slice none 0 0) W h.g hla (fun r hr => by cases hr) hal (by simp) (hMat W hW) (hAv W hW) (Sl.nil _ _ _)
  obtain ⟨ao, cap, hvv, _, _⟩ := mat_open hm
  subst hvv
  obtain ⟨xo, xc, hxvv, _, _⟩ := sl_open hav
  subst hxvv
  obtain ⟨yo, yc, hyvv, _, _⟩ := sl_open hbv
  subst hyvv
  rw [natsI_len] at HMA HRA HEA HDA HPR HPE HPC HPB ⊢
  rw [natsI_len] at HMB HRB HDB ⊢
  rw [hcl] at *
  have hab := h9
  have hxb : (rdW c wb).length ≤ 40 := by omega
  have hee : (enL (fwd c wa (ones n)) n).length ≤ n := enL_le _ _
  generalize rdW c wa = XA at *
  generalize rdW c wb = XB at *
  generalize enL (fwd c wa (ones n)) n = E at *
  generalize hDA : dnW d wa = DA at *
  generalize hDB : dnW d wb = DB at *
  generalize blB c wa [] = bl at *
  clear h hgc hla hlb hm hav hbv hMat hAv hBv hra hrb hrla hrlb hDA hDB h9
  generalize hNN : n * n = NN at *
  clear hNN
  have e60 : decide ((60 : Int) < (wa.length : Int)) = false := decide_eq_false (by omega)
  have e61 : decide ((60 : Int) < (wb.length : Int)) = false := decide_eq_false (by omega)
  go_enter Try.func3, Try.ntmps3
  go_wp2_with fail
  refine HHV.mono ?_
  rintro e w0 ⟨hb, rfl, _, rfl⟩
  clear HHV
  cases hb
  · have C1 := HMA.out w0 (Below.refl _ _)
    clear HMA
    go_wp2_with fail
    refine C1.mono ?_
    rintro e w1 ⟨rfl, hb1⟩
    have B1 : Hid (Below w0.heap.size w0 w1) := hb1
    have C2 := HMB.out w1 hb1
    clear C1 HMB hb1
    go_wp2_with fail
    refine C2.mono ?_
    rintro e w2 ⟨rfl, hb2⟩
    have B2 : Hid (Below w0.heap.size w0 w2) := B1.out.trans (hb2.mono B1.out.size)
    have C3 := HRA.out w2 B2.out
    clear C2 HRA hb2 B1
    go_wp2_with fail
    refine C3.mono ?_
    rintro e w3 ⟨u3, rfl, ho3, hb3⟩
    obtain ⟨so, sc3, hs3⟩ := owns_form ho3
    subst hs3
    have S3 : Hid (Sl 0 3 w3 (.slice so XA.length sc3) (ints (natsI XA))) := Sl.own ho3
    have B3 : Hid (Below w0.heap.size w0 w3) := B2.out.trans (hb3.mono B2.out.size)
    have C4 := HEA.out w3 B3.out
    clear C3 HEA ho3 hb3 B2
    go_wp2_with fail
    refine C4.mono ?_
    rintro e w4 ⟨u4, rfl, ho4, hb4⟩
    obtain ⟨eo, ec4, he4⟩ := owns_form ho4
    subst he4
    have E4 : Hid (Sl 0 3 w4 (.slice eo E.length ec4) (ints (natsI E))) := Sl.own ho4
    have S4 : Hid (Sl 0 3 w4 (.slice so XA.length sc3) (ints (natsI XA))) := S3.out.below hb4 (Nat.le_refl _)
    have B4 : Hid (Below w0.heap.size w0 w4) := B3.out.trans (hb4.mono B3.out.size)
    have C5 := HDA.out w4 B4.out
    clear C4 HDA ho4 hb4 B3 S3
    go_wp2_with fail
    refine C5.mono ?_
    rintro e w5 ⟨u5, rfl, ho5, hb5⟩
    obtain ⟨do5, dc5, hd5⟩ := owns_form ho5
    subst hd5
    have D5 : Hid (Sl 0 3 w5 (.slice do5 NN dc5) (ints DA)) := Sl.own ho5
    have E5 : Hid (Sl 0 3 w5 (.slice eo E.length ec4) (ints (natsI E))) := E4.out.below hb5 (Nat.le_refl _)
    have S5 : Hid (Sl 0 3 w5 (.slice so XA.length sc3) (ints (natsI XA))) := S4.out.below hb5 (Nat.le_refl _)
    have B5 : Hid (Below w0.heap.size w0 w5) := B4.out.trans (hb5.mono B4.out.size)
    have C6 := HDB.out w5 B5.out
    clear C5 HDB ho5 hb5 B4 S4 E4
    go_wp2_with fail
    refine C6.mono ?_
    rintro e w6 ⟨u6, rfl, ho6, hb6⟩
    obtain ⟨do6, dc6, hd6⟩ := owns_form ho6
    subst hd6
    have E6 : Hid (Sl 0 3 w6 (.slice eo E.length ec4) (ints (natsI E))) := E5.out.below hb6 (Nat.le_refl _)
    have S6 : Hid (Sl 0 3 w6 (.slice so XA.length sc3) (ints (natsI XA))) := S5.out.below hb6 (Nat.le_refl _)
    have B6 : Hid (Below w0.heap.size w0 w6) := B5.out.trans (hb6.mono B5.out.size)
    have C7 := same_any 0 DA DB (.slice do5 NN dc5) (.slice do6 NN dc6) w6 (D5.out.below hb6 (Nat.le_refl _)) (Sl.own ho6)
    obtain ⟨sm', hsm⟩ : ∃ sm', sm' = (DA == DB) := ⟨_, rfl⟩
    rw [← hsm] at C7
    clear C6 ho6 hb6 B5 S5 E5 D5 hsm
    go_wp2_with fail
    refine C7.mono ?_
    rintro e w7' ⟨rfl, n7, rfl⟩
    have hq7 : Below w6.heap.size w6 (w6.drewN n7) := ⟨rfl, rfl, rfl, Nat.le_refl _, fun _ _ => rfl⟩
    have E7 : Hid (Sl 0 3 (w6.drewN n7) (.slice eo E.length ec4) (ints (natsI E))) := E6.out.below hq7 (Nat.le_refl _)
    have S7 : Hid (Sl 0 3 (w6.drewN n7) (.slice so XA.length sc3) (ints (natsI XA))) := S6.out.below hq7 (Nat.le_refl _)
    have B7 : Hid (Below w0.heap.size w0 (w6.drewN n7)) := B6.out.trans (hq7.mono B6.out.size)
    have C8 := HRB.out (w6.drewN n7) B7.out
    clear C7 HRB hq7 B6 S6 E6
    generalize w6.drewN n7 = w7 at *
    go_wp2_with fail
    refine C8.mono ?_
    rintro e w8 ⟨u8, rfl, ho8, hb8⟩
    obtain ⟨xo8, xc8, hx8⟩ := owns_form ho8
    subst hx8
    have X8 : Hid (Sl 0 3 w8 (.slice xo8 XB.length xc8) (ints (natsI XB))) := Sl.own ho8
    have E8 : Hid (Sl 0 3 w8 (.slice eo E.length ec4) (ints (natsI E))) := E7.out.below hb8 (Nat.le_refl _)
    have S8 : Hid (Sl 0 3 w8 (.slice so XA.length sc3) (ints (natsI XA))) := S7.out.below hb8 (Nat.le_refl _)
    have B8 : Hid (Below w0.heap.size w0 w8) := B7.out.trans (hb8.mono B7.out.size)
    have e9 : decide ((9 : Int) < (XB.length : Int)) = true := decide_eq_true (by omega)
    have HX8 : Hid (Sl 0 3 w8 (.slice xo8 0 xc8) (ints (natsI []))) := sl_cut0 X8.out
    have hxc8 : XB.length ≤ xc8 := sl_cap X8.out
    have C9 := HBL.out w8 _ _ B8.out S8.out HX8.out
    clear C8 HBL ho8 hb8 B7 S7 E7 X8
    go_wp2_with fail
    refine C9.mono ?_
    rintro e w9 ⟨rfl, hb9⟩
    have E9 : Hid (Sl 0 3 w9 (.slice eo E.length ec4) (ints (natsI E))) := E8.out.below hb9 (Nat.le_refl _)
    have S9 : Hid (Sl 0 3 w9 (.slice so XA.length sc3) (ints (natsI XA))) := S8.out.below hb9 (Nat.le_refl _)
    have B9 : Hid (Below w0.heap.size w0 w9) := B8.out.trans (hb9.mono B8.out.size)
    have C10 := HPR.out w9 B9.out
    clear C9 HPR hb9 B8 S8 E8
    go_wp2_with fail
    refine C10.mono ?_
    rintro e w10 ⟨u10, rfl, ho10, hb10⟩
    obtain ⟨lo10, lc10, hl10⟩ := owns_form ho10
    subst hl10
    have L10 : Hid (Sl 0 3 w10 (.slice lo10 XA.length lc10) (ints (natsI XA))) := Sl.own ho10
    have E10 : Hid (Sl 0 3 w10 (.slice eo E.length ec4) (ints (natsI E))) := E9.out.below hb10 (Nat.le_refl _)
    have S10 : Hid (Sl 0 3 w10 (.slice so XA.length sc3) (ints (natsI XA))) := S9.out.below hb10 (Nat.le_refl _)
    have B10 : Hid (Below w0.heap.size w0 w10) := B9.out.trans (hb10.mono B9.out.size)
    have C11 := HPE.out w10 B10.out
    clear C10 HPE ho10 hb10 B9 S9 E9
    go_wp2_with fail
    refine C11.mono ?_
    rintro e w11 ⟨u11, rfl, ho11, hb11⟩
    obtain ⟨no11, nc11, hn11⟩ := owns_form ho11
    subst hn11
    have N11 : Hid (Sl 0 3 w11 (.slice no11 E.length nc11) (ints (natsI E))) := Sl.own ho11
    have L11 : Hid (Sl 0 3 w11 (.slice lo10 XA.length lc10) (ints (natsI XA))) := L10.out.below hb11 (Nat.le_refl _)
    have E11 : Hid (Sl 0 3 w11 (.slice eo E.length ec4) (ints (natsI E))) := E10.out.below hb11 (Nat.le_refl _)
    have S11 : Hid (Sl 0 3 w11 (.slice so XA.length sc3) (ints (natsI XA))) := S10.out.below hb11 (Nat.le_refl _)
    have B11 : Hid (Below w0.heap.size w0 w11) := B10.out.trans (hb11.mono B10.out.size)
    have C12 := HPC.out w11 B11.out
    clear C11 HPC ho11 hb11 B10 S10 E10 L10
    go_wp2_with fail
    refine C12.mono ?_
    rintro e w12 ⟨rfl, hb12⟩
    have N12 : Hid (Sl 0 3 w12 (.slice no11 E.length nc11) (ints (natsI E))) := N11.out.below hb12 (Nat.le_refl _)
    have E12 : Hid (Sl 0 3 w12 (.slice eo E.length ec4) (ints (natsI E))) := E11.out.below hb12 (Nat.le_refl _)
    have B12 : Hid (Below w0.heap.size w0 w12) := B11.out.trans (hb12.mono B11.out.size)
    have C13 := list_same 0 (natsI XA) (.slice lo10 XA.length lc10) (.slice so XA.length sc3) w12 (L11.out.below hb12 (Nat.le_refl _)) (S11.out.below hb12 (Nat.le_refl _))
    clear C12 hb12 B11 S11 E11 L11 N11
    go_wp2_with fail
    refine C13.mono ?_
    rintro e w13 ⟨rfl, hb13⟩
    have B13 : Hid (Below w0.heap.size w0 w13) := B12.out.trans (hb13.mono B12.out.size)
    have C14 := list_same 0 (natsI E) (.slice no11 E.length nc11) (.slice eo E.length ec4) w13 (N12.out.below hb13 (Nat.le_refl _)) (E12.out.below hb13 (Nat.le_refl _))
    clear C13 hb13 B12 N12 E12
    go_wp2_with fail
    refine C14.mono ?_
    rintro e w14 ⟨rfl, hb14⟩
    have B14 : Hid (Below w0.heap.size w0 w14) := B13.out.trans (hb14.mono B13.out.size)
    have C15 := HPB.out w14 B14.out
    clear C14 hb14 HPB B13
    go_wp2_with fail
    refine C15.mono ?_
    rintro e w15 ⟨rfl, hb15⟩
    have B15 : Hid (Below w0.heap.size w0 w15) := B14.out.trans (hb15.mono B14.out.size)
    clear C15 hb15 B14
    have qL : ∀ (w : World) (a : Option Addr) (n c n' c' : Nat), (binOp .eql 23 (.slice a n c) (.slice none n' c')).run Try.prog w = .ok (.bool a.isNone) w := fun w a n c n' c' => Lib.run_eql_slice_nil w _ _ a n c n' c' Try.underlying23
    have qn : (none : Option Addr).isNone = true := rfl
    cases bl
    · go_wp2
      go_ret
      exact ⟨rfl, B15.out⟩
    · go_wp2
      go_ret
      exact ⟨rfl, B15.out⟩
  · go_wp2
    go_ret
    exact ⟨rfl, Below.refl _ _⟩

/-- The law, of any square and words. -/
theorem weylSays_all (c : List (List Int)) (la lb : List Int) (cv av bv : Value) (w : World) (hm : Mat w.heap.size 23 3 w cv c) (hav : Sl w.heap.size 3 w av (ints la)) (hbv : Sl w.heap.size 3 w bv (ints lb)) :
    Calls Try.prog 3 #[cv, av, bv] w fun e w' => e = .returned (.bool true) ∧ Below w.heap.size w w' := by
  by_cases h60 : 60 < la.length ∨ 60 < lb.length
  · exact weylSays_long c la lb cv av bv w h60 hm hav hbv
  by_cases ha : wmE c la = 0
  · obtain ⟨wa, rfl, hla, hal⟩ := wm_zero ha
    obtain ⟨d, t, hw⟩ := wg_ck (wm_ck ha)
    by_cases hb : wmE c lb = 0
    · obtain ⟨wb, rfl, hlb, hbl⟩ := wm_zero hb
      by_cases h9 : (rdW c wb).length ≤ 9
      · exact weylSays_few c.length c _ d t wa wb cv av bv w hw hla hlb hal hbl h9 hm hav hbv
      · exact weylSays_many c.length c _ d t wa wb cv av bv w hw hla hlb hal hbl h9 hm hav hbv
    · exact weylSays_e2 c.length c _ d t wa lb cv av bv w hw hla hal (by omega) ha hb hm hav hbv
  · exact weylSays_e1 c la lb cv av bv w (by omega) (by omega) ha hm hav hbv

end Go.Proofs.Ytkpdgpdicafeiaa
