/- A list by itself; the law over raw numbers. -/
import Derived.Test.YthbjdgpkcekafaaRun19
import Derived.Test.YthbjdgpkcekafaaMade1
namespace Go.Proofs.Ythbjdgpkcekafaa
open Go.RowKit
attribute [local go_sem ↓] Go.wp_at_zero Go.wp_at_succ

theorem mat_one {B : Nat} {w : World} {v : Value} {l : List Int} (h : Sl B 3 w v (ints l)) : Mat B 28 3 (w.alloc (.cells #[v] 28)) (.slice (some ⟨w.heap.size, 0, none⟩) 1 1) [l] := by
  refine ⟨[v], rfl, ?_, fun i hi => ?_⟩
  · have h := World.ownsRow_lit (base := w.heap.size) (e := 28) (size := 1) w #[v] 1 (by simp) (by simp [maxLen]) (by simp)
    exact Sl.own (by simpa using h)
  · have : i = 0 := by simp at hi; omega
    subst this
    exact h.alloc _

def primA (l : List Int) : List Int := if vecE [l] = 0 then Lin.low l else []

theorem vec_one {l : List Int} (h : vecE [l] = 0) : l.length ≤ 5 ∧ ∀ z ∈ l, z.natAbs ≤ 60 := by
  obtain ⟨_, _, hx⟩ := vec_ok h
  exact ⟨hx.c5, hx.bd l (by simp)⟩

set_option maxRecDepth 100000 in
set_option maxHeartbeats 400000 in
theorem vecPrimitive_any (B : Nat) (l : List Int) (v : Value) (w : World) (hv : Sl B 3 w v (ints l)) :
    Calls Try.prog 17 #[v] w fun e w' => ∃ uo uc, e = .returned (.tuple #[.slice uo (primA l).length uc, .int .i64 (vecE [l])]) ∧ Sl w'.heap.size 3 w' (.slice uo (primA l).length uc) (ints (primA l)) ∧ Below w.heap.size w w' := by
  obtain ⟨ao, cap, hvv, hlc, hcm⟩ := sl_open hv
  subst hvv
  have HV : Hid (Sl B 3 w (.slice ao l.length cap) (ints l)) := hv
  clear hv
  go_enter Try.func17, Try.ntmps17
  go_wp2_with fail
  refine (check_any B [l] _ _ (mat_one HV.out)).mono ?_
  rintro e w1 ⟨rfl, hb1⟩
  have hbw : Below w.heap.size w w1 := ((Below.refl w.heap.size w).alloc (Nat.le_refl _) _).trans (hb1.mono (by simp))
  have HB : Hid (Below w.heap.size w w1) := hbw
  have HV1 : Hid (Sl B 3 w1 (.slice ao l.length cap) (ints l)) := HV.out.below hbw (Nat.le_refl _)
  clear hb1 hbw
  obtain ⟨x, hx⟩ : ∃ x, x = vecE [l] := ⟨_, rfl⟩
  have HX : Hid (x = vecE [l]) := hx
  rw [← hx]
  by_cases hx0 : x = 0
  · have HO := vec_one (l := l) (by rw [← hx]; exact hx0)
    have hxb : (x != 0) = false := by simp [hx0]
    have HR : Hid (primA l = Lin.low l) := if_pos (by rw [← hx]; exact hx0)
    have HX0 : Hid (x = 0) := hx0
    have HL5 : Hid (l.length ≤ 5) := HO.1
    have HL6 : Hid (∀ z ∈ l, z.natAbs ≤ 60) := HO.2
    clear hx hx0 HO
    go_wp2_with fail
    refine (primitive_any B l _ w1 HV1.out (by have := HL5.out; omega) (fun z hz => by have := HL6.out z hz; omega)).mono ?_
    rintro e w2 ⟨u, rfl, hs2, hb2⟩
    have HB2 : Hid (Below w.heap.size w w2) := HB.out.trans (hb2.mono HB.out.size)
    obtain ⟨yo, yc, hy, _, _⟩ := sl_open (hs2 0)
    subst hy
    have HS2 : Hid (Sl w2.heap.size 3 w2 (.slice yo (Lin.low l).length yc) (ints (Lin.low l))) := hs2 _
    clear hb2 hs2
    obtain ⟨nl, hnl⟩ : ∃ nl, nl = (Lin.low l).length := ⟨_, rfl⟩
    have HNL : Hid (nl = (Lin.low l).length) := hnl
    rw [← hnl] at HS2 ⊢
    clear hnl
    go_wp2
    go_ret2
    exact ⟨yo, yc, by rw [HR.out, ← HX.out, HX0.out, ← HNL.out]; rfl, by rw [HR.out, ← HNL.out]; exact HS2.out, HB2.out⟩
  · have hxb : (x != 0) = true := by simp [hx0]
    have HR : Hid (primA l = []) := if_neg (by rw [← hx]; exact hx0)
    clear hx hx0
    go_wp2
    go_ret2
    exact ⟨none, 0, by rw [HR.out, ← HX.out]; rfl, by rw [HR.out]; exact Sl.nil _ _ _, HB.out⟩

theorem vecSays_any (B : Nat) (m : List (List Int)) (v : Value) (w : World) (hv : Mat B 28 3 w v m) :
    Calls Try.prog 3 #[v] w fun e w' => e = .returned (.bool true) ∧ Below w.heap.size w w' := by
  by_cases h : vecE m = 0
  · exact vecSays_good B m v w hv h
  · exact vecSays_bad B m v w hv h

set_option maxRecDepth 100000 in
set_option maxHeartbeats 1600000 in
theorem vecMade_any (B : Nat) (raw l : List Int) (r c : Int) (v u : Value) (w : World) (hv : Sl B 3 w v (ints raw)) (hu : Sl B 3 w u (ints l)) (hr : ∀ z ∈ raw, In64 z) (hri : In64 r) (hci : In64 c) :
    Calls Try.prog 4 #[v, .int .i64 r, .int .i64 c, u] w fun e w' => e = .returned (.bool true) ∧ Below w.heap.size w w' := by
  obtain ⟨ao, cap, hvv, hlc, hcm⟩ := sl_open hv
  obtain ⟨bo, cbp, huu, hlb, hcb⟩ := sl_open hu
  subst hvv huu
  have HV : Hid (Sl B 3 w (.slice ao raw.length cap) (ints raw)) := hv
  have HU : Hid (Sl B 3 w (.slice bo l.length cbp) (ints l)) := hu
  have HRI : Hid (In64 r) := hri
  have HCI : Hid (In64 c) := hci
  have HRR : Hid (∀ z ∈ raw, In64 z) := hr
  clear hv hu hri hci hr
  by_cases h1 : 256 < raw.length
  · have b1 : decide ((256 : Int) < (raw.length : Int)) = true := decide_eq_true (by omega)
    go_enter Try.func4, Try.ntmps4
    go_wp2
    go_ret
    exact ⟨rfl, Below.refl _ _⟩
  · have b1 : decide ((256 : Int) < (raw.length : Int)) = false := decide_eq_false (by omega)
    by_cases h2 : 300 < l.length
    · have b2 : decide ((300 : Int) < (l.length : Int)) = true := decide_eq_true (by omega)
      go_enter Try.func4, Try.ntmps4
      go_wp2
      go_ret
      exact ⟨rfl, Below.refl _ _⟩
    · have b2 : decide ((300 : Int) < (l.length : Int)) = false := decide_eq_false (by omega)
      have HRL : Hid (raw.length ≤ 1000000) := by
        show _ ≤ _
        omega
      clear h1 h2
      go_enter Try.func4, Try.ntmps4
      go_wp2_with fail
      refine (vecMay_any B [l] _ _ (mat_one HU.out)).mono ?_
      rintro e w1 ⟨rfl, hb1⟩
      have hbw : Below w.heap.size w w1 := ((Below.refl w.heap.size w).alloc (Nat.le_refl _) _).trans (hb1.mono (by simp))
      have HB1 : Hid (Below w.heap.size w w1) := hbw
      have HU1 : Hid (Sl B 3 w1 (.slice bo l.length cbp) (ints l)) := HU.out.below hbw (Nat.le_refl _)
      clear hb1 hbw
      obtain ⟨x, hx⟩ : ∃ x, x = vecE [l] := ⟨_, rfl⟩
      have HX : Hid (x = vecE [l]) := hx
      rw [← hx]
      by_cases hx0 : x = 0
      · have HO := vec_one (l := l) (by rw [← hx]; exact hx0)
        have hxb : (x == 0) = true := by simp [hx0]
        have HP : Hid (primA l = Lin.low l) := if_pos (by rw [← hx]; exact hx0)
        have HX0 : Hid (x = 0) := hx0
        have HL5 : Hid (l.length ≤ 5) := HO.1
        have HL6 : Hid (∀ z ∈ l, z.natAbs ≤ 60) := HO.2
        clear hx hx0 HO
        go_wp2_with fail
        refine (lowered_any B l _ w1 HU1.out (by have := HL5.out; omega) (fun z hz => by have := HL6.out z hz; omega)).mono ?_
        rintro e w2 ⟨u, rfl, ho2, hb2⟩
        have HB2 : Hid (Below w.heap.size w w2) := HB1.out.trans (hb2.mono HB1.out.size)
        have HW2 : Hid (Sl w2.heap.size 3 w2 u (ints (Lin.low l))) := Sl.own ho2
        have HU2 : Hid (Sl B 3 w2 (.slice bo l.length cbp) (ints l)) := HU1.out.below hb2 (Nat.le_refl _)
        obtain ⟨yo, yc, hy, _, _⟩ := sl_open HW2.out
        subst hy
        clear hb2 ho2
        go_wp2_with fail
        refine (vecPrimitive_any B l _ w2 HU2.out).mono ?_
        rintro e w3 ⟨uo, uc, rfl, hs3, hb3⟩
        rw [HP.out] at hs3 ⊢
        have HB3 : Hid (Below w.heap.size w w3) := HB2.out.trans (hb3.mono HB2.out.size)
        have HW3 : Hid (Sl w3.heap.size 3 w3 (.slice yo (Lin.low l).length yc) (ints (Lin.low l))) := (HW2.out.below hb3 (Nat.le_refl _)).any (Nat.le_refl _)
        have HS3 : Hid (Sl w3.heap.size 3 w3 (.slice uo (Lin.low l).length uc) (ints (Lin.low l))) := hs3
        rw [← HX.out, HX0.out]
        clear hs3 hb3
        go_wp2_with fail
        refine (list_same _ (Lin.low l) _ _ w3 HS3.out HW3.out).mono ?_
        rintro e w4 ⟨rfl, hb4⟩
        have HB4 : Hid (Below w.heap.size w w4) := HB3.out.trans (hb4.mono HB3.out.size)
        have hsl : True := trivial
        clear hsl hb4
        go_wp2_with fail
        refine (pick_any c 5 w4 (by omega) (by omega) HCI.out).mono ?_
        rintro e w5 ⟨z, rfl, hz, rfl⟩
        obtain ⟨n, hn⟩ : ∃ n : Nat, (n : Int) = 1 + z := ⟨(1 + z).toNat, by omega⟩
        have hz1 := hz.1
        have hz2 := hz.2
        have HN : Hid ((n : Int) = 1 + z) := hn
        have hn5 : n ≤ 5 := by omega
        clear hz hn
        go_wp2_with fail
        refine (pick_any r 6 w5 (by omega) (by omega) HRI.out).mono ?_
        rintro e w6 ⟨y, rfl, hy, rfl⟩
        obtain ⟨k, hk⟩ : ∃ k : Nat, (k : Int) = 1 + y := ⟨(1 + y).toNat, by omega⟩
        have hy1 := hy.1
        have hy2 := hy.2
        have HK : Hid ((k : Int) = 1 + y) := hk
        have hk6 : k ≤ 6 := by omega
        clear hy hk
        have HV6 : Hid (Sl B 3 w6 (.slice ao raw.length cap) (ints raw)) := HV.out.below HB4.out (Nat.le_refl _)
        go_wp2_with fail
        rw [← HN.out, ← HK.out]
        refine (pointsOf_any B raw _ 0 n k 4 w6 HV6.out HRR.out HRL.out (by omega) (by omega) (by omega) (by omega)).mono ?_
        rintro e w7 ⟨p, m, rfl, -, -, hm7, hb7⟩
        have HB7 : Hid (Below w.heap.size w w7) := HB4.out.trans (hb7.mono HB4.out.size)
        have HM7 : Hid (Mat w7.heap.size 28 3 w7 p m) := hm7.rws.mat hb7.size
        obtain ⟨po, pc, hp, _, _⟩ := mat_open HM7.out
        subst hp
        clear hm7 hb7
        go_wp2_with fail
        refine (vecSays_any _ m _ w7 HM7.out).mono ?_
        rintro e w8 ⟨rfl, hb8⟩
        have HB8 : Hid (Below w.heap.size w w8) := HB7.out.trans (hb8.mono HB7.out.size)
        have HV8 : Hid (Sl B 3 w8 (.slice ao raw.length cap) (ints raw)) := HV.out.below HB8.out (Nat.le_refl _)
        clear hb8 HB7 HM7
        go_wp2_with fail
        refine (pointsOf_any B raw _ 9 n n 9 w8 HV8.out HRR.out HRL.out (by omega) (by omega) (by omega) (by omega)).mono ?_
        rintro e w9 ⟨q, m2, rfl, -, -, hm9, hb9⟩
        have HB9 : Hid (Below w.heap.size w w9) := HB8.out.trans (hb9.mono HB8.out.size)
        have HM9 : Hid (Mat w9.heap.size 28 3 w9 q m2) := hm9.rws.mat hb9.size
        obtain ⟨qo, qc, hq, _, _⟩ := mat_open HM9.out
        subst hq
        clear hm9 hb9
        go_wp2_with fail
        refine (vecSays_any _ m2 _ w9 HM9.out).mono ?_
        rintro e w10 ⟨rfl, hb10⟩
        have HB10 : Hid (Below w.heap.size w w10) := HB9.out.trans (hb10.mono HB9.out.size)
        clear hb10 HB9 HM9
        go_wp2
        go_ret
        exact ⟨rfl, HB10.out⟩
      · have hxb : (x == 0) = false := by simp [hx0]
        have HP : Hid (primA l = []) := if_neg (by rw [← hx]; exact hx0)
        have HX0 : Hid (x ≠ 0) := hx0
        clear hx hx0
        go_wp2_with fail
        refine (vecPrimitive_any B l _ w1 HU1.out).mono ?_
        rintro e w3 ⟨uo, uc, rfl, hs3, hb3⟩
        rw [HP.out] at hs3 ⊢
        have HB3 : Hid (Below w.heap.size w w3) := HB1.out.trans (hb3.mono HB1.out.size)
        rw [← HX.out]
        clear hs3 hb3
        go_wp2_with fail
        refine (list_err _ _ _ x w3 HX0.out).mono ?_
        rintro e w4 ⟨rfl, hw4⟩
        subst hw4
        have HB4 : Hid (Below w.heap.size w w4) := HB3.out
        have hsl : True := trivial
        have hb4 : True := trivial
        clear hsl hb4
        go_wp2_with fail
        refine (pick_any c 5 w4 (by omega) (by omega) HCI.out).mono ?_
        rintro e w5 ⟨z, rfl, hz, rfl⟩
        obtain ⟨n, hn⟩ : ∃ n : Nat, (n : Int) = 1 + z := ⟨(1 + z).toNat, by omega⟩
        have hz1 := hz.1
        have hz2 := hz.2
        have HN : Hid ((n : Int) = 1 + z) := hn
        have hn5 : n ≤ 5 := by omega
        clear hz hn
        go_wp2_with fail
        refine (pick_any r 6 w5 (by omega) (by omega) HRI.out).mono ?_
        rintro e w6 ⟨y, rfl, hy, rfl⟩
        obtain ⟨k, hk⟩ : ∃ k : Nat, (k : Int) = 1 + y := ⟨(1 + y).toNat, by omega⟩
        have hy1 := hy.1
        have hy2 := hy.2
        have HK : Hid ((k : Int) = 1 + y) := hk
        have hk6 : k ≤ 6 := by omega
        clear hy hk
        have HV6 : Hid (Sl B 3 w6 (.slice ao raw.length cap) (ints raw)) := HV.out.below HB4.out (Nat.le_refl _)
        go_wp2_with fail
        rw [← HN.out, ← HK.out]
        refine (pointsOf_any B raw _ 0 n k 4 w6 HV6.out HRR.out HRL.out (by omega) (by omega) (by omega) (by omega)).mono ?_
        rintro e w7 ⟨p, m, rfl, -, -, hm7, hb7⟩
        have HB7 : Hid (Below w.heap.size w w7) := HB4.out.trans (hb7.mono HB4.out.size)
        have HM7 : Hid (Mat w7.heap.size 28 3 w7 p m) := hm7.rws.mat hb7.size
        obtain ⟨po, pc, hp, _, _⟩ := mat_open HM7.out
        subst hp
        clear hm7 hb7
        go_wp2_with fail
        refine (vecSays_any _ m _ w7 HM7.out).mono ?_
        rintro e w8 ⟨rfl, hb8⟩
        have HB8 : Hid (Below w.heap.size w w8) := HB7.out.trans (hb8.mono HB7.out.size)
        have HV8 : Hid (Sl B 3 w8 (.slice ao raw.length cap) (ints raw)) := HV.out.below HB8.out (Nat.le_refl _)
        clear hb8 HB7 HM7
        go_wp2_with fail
        refine (pointsOf_any B raw _ 9 n n 9 w8 HV8.out HRR.out HRL.out (by omega) (by omega) (by omega) (by omega)).mono ?_
        rintro e w9 ⟨q, m2, rfl, -, -, hm9, hb9⟩
        have HB9 : Hid (Below w.heap.size w w9) := HB8.out.trans (hb9.mono HB8.out.size)
        have HM9 : Hid (Mat w9.heap.size 28 3 w9 q m2) := hm9.rws.mat hb9.size
        obtain ⟨qo, qc, hq, _, _⟩ := mat_open HM9.out
        subst hq
        clear hm9 hb9
        go_wp2_with fail
        refine (vecSays_any _ m2 _ w9 HM9.out).mono ?_
        rintro e w10 ⟨rfl, hb10⟩
        have HB10 : Hid (Below w.heap.size w w10) := HB9.out.trans (hb10.mono HB9.out.size)
        clear hb10 HB9 HM9
        go_wp2
        go_ret
        exact ⟨rfl, HB10.out⟩

end Go.Proofs.Ythbjdgpkcekafaa
