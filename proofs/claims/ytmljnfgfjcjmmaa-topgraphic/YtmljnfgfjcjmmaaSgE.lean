import Derived.Test.YtmljnfgfjcjmmaaRkW
import Derived.Test.YtmljnfgfjcjmmaaSgC
import Derived.Test.YtmljnfgfjcjmmaaWiA
/- Is there a plane that ..: by checkOne's closure, whose contract is given (out of mkhas.py). -/
namespace Go.Proofs.Ytmljnfgfjcjmmaa
open Go.RowKit
attribute [local go_sem ↓] Go.wp_at_zero Go.wp_at_succ

set_option maxRecDepth 100000 in
set_option maxHeartbeats 800000 in
theorem idxS_any (B : Nat) (f : List Int → Bool) (m : List (List Int)) (v : Value) (p1 p2 : Addr) (w : World) (hv : Mat B 22 3 w v m)
    (hc : ∀ r ∈ m, ∀ (W : World) (rv : Value), Below w.heap.size w W → Sl B 3 W rv (ints r) → Calls Try.prog 35 #[rv, .pointer (some p1), .pointer (some p2)] W fun e w' => e = .returned (.bool (f r)) ∧ Below w.heap.size w w') :
    Calls Try.prog 52 #[v, .func (.func 35) #[] #[.pointer (some p1), .pointer (some p2)]] w fun e w' => (∃ z, e = .returned (.int .i64 z) ∧ -1 ≤ z ∧ z < m.length ∧ decide (0 ≤ z) = m.any f) ∧ Below w.heap.size w w' := by
  obtain ⟨ao, cap, hvv, hlc, hcm⟩ := mat_open hv
  subst hvv
  have HV : Hid (Mat B 22 3 w (.slice ao m.length cap) m) := hv
  have HC : Hid (∀ r ∈ m, ∀ (W : World) (rv : Value), Below w.heap.size w W → Sl B 3 W rv (ints r) → Calls Try.prog 35 #[rv, .pointer (some p1), .pointer (some p2)] W fun e w' => e = .returned (.bool (f r)) ∧ Below w.heap.size w w') := hc
  clear hv hc
  go_enter Try.func52, Try.ntmps52
  go_wp2
  go_loopw [8] (fun i wr => ∃ k : Nat, k ≤ m.length ∧ i = .int .i64 k ∧ (m.take k).any f = false ∧ Below w.heap.size w wr) (fun i _ => m.length - (intOf i).toNat)
  case atStart => exact ⟨0, Nat.zero_le _, rfl, by simp, Below.refl _ _⟩
  case round =>
    obtain ⟨k, hk, rfl, hno, hb⟩ := hrel
    have HN : Hid ((m.take k).any f = false) := hno
    have HB : Hid (Below w.heap.size w wr) := hb
    clear hno hb
    by_cases hlt : k < m.length
    · obtain ⟨b1, o, cp, r1, hs, hc1, hcc, hr1⟩ := mat_cell (HV.out.below HB.out (Nat.le_refl _)) hlt
      simp only [Value.slice.injEq] at hs
      obtain ⟨rfl, hxx, rfl⟩ := hs
      clear hxx
      have HS1 : Hid ((m.take (k + 1)).any f = f (m.getD k [])) := anyR_snoc (p := f) hlt HN.out
      have HME : Hid (m.getD k [] ∈ m) := by
        show _ ∈ _
        simp [hlt]
      have HCA : Hid (Calls Try.prog 35 #[r1, .pointer (some p1), .pointer (some p2)] wr fun e w' => e = .returned (.bool (f (m.getD k []))) ∧ Below w.heap.size w w') := HC.out _ HME.out wr r1 HB.out hr1
      clear hr1
      generalize m.getD k [] = x at *
      obtain ⟨fb, hfb⟩ : ∃ fb, fb = f x := ⟨_, rfl⟩
      have HFB : Hid (fb = f x) := hfb
      rw [← hfb] at HCA
      clear hfb
      go_wp2_with fail
      refine HCA.out.mono ?_
      rintro e w2 ⟨rfl, hb2⟩
      have HB2 : Hid (Below w.heap.size w w2) := hb2
      clear hb2 HCA
      cases hf : fb
      · have HF : Hid (f x = false) := by rw [← hf]; exact HFB.out.symm
        clear hf
        go_wp2
        go_roundw
        case rel => exact ⟨k + 1, by omega, by go_num, by rw [HS1.out]; exact HF.out, HB2.out⟩
        case measure => simp [intOf]; omega
      · have HF : Hid (f x = true) := by rw [← hf]; exact HFB.out.symm
        clear hf
        go_wp2
        go_ret
        refine ⟨⟨_, rfl, by omega, by omega, ?_⟩, HB2.out⟩
        rw [decide_eq_true (by omega)]
        exact (List.any_eq_true.2 ⟨x, HME.out, HF.out⟩).symm
    · have HTK : Hid (m.take k = m) := List.take_of_length_le (by omega)
      go_wp2
      go_ret
      exact ⟨⟨-1, rfl, by omega, by omega, by rw [← HTK.out, HN.out]; rfl⟩, HB.out⟩

set_option maxRecDepth 100000 in
theorem hasS_any (B : Nat) (f : List Int → Bool) (m : List (List Int)) (v : Value) (p1 p2 : Addr) (w : World) (hv : Mat B 22 3 w v m)
    (hc : ∀ r ∈ m, ∀ (W : World) (rv : Value), Below w.heap.size w W → Sl B 3 W rv (ints r) → Calls Try.prog 35 #[rv, .pointer (some p1), .pointer (some p2)] W fun e w' => e = .returned (.bool (f r)) ∧ Below w.heap.size w w') :
    Calls Try.prog 36 #[v, .func (.func 35) #[] #[.pointer (some p1), .pointer (some p2)]] w fun e w' => e = .returned (.bool (m.any f)) ∧ Below w.heap.size w w' := by
  have HI : Hid (Calls Try.prog 52 #[v, .func (.func 35) #[] #[.pointer (some p1), .pointer (some p2)]] w fun e w' => (∃ z, e = .returned (.int .i64 z) ∧ -1 ≤ z ∧ z < m.length ∧ decide (0 ≤ z) = m.any f) ∧ Below w.heap.size w w') := idxS_any B f m v p1 p2 w hv hc
  obtain ⟨ao, cap, hvv, hlc, hcm⟩ := mat_open hv
  subst hvv
  clear hv hc
  generalize m.any f = R at *
  go_enter Try.func36, Try.ntmps36
  go_wp2_with fail
  refine HI.out.mono ?_
  rintro e w' ⟨⟨z, rfl, hz1, hz2, hz3⟩, hb⟩
  have HZ : Hid (decide (0 ≤ z) = R) := hz3
  have HB : Hid (Below w.heap.size w w') := hb
  clear hz3 hb
  go_wp2
  go_ret
  exact ⟨ret_bool HZ.out, HB.out⟩

end Go.Proofs.Ytmljnfgfjcjmmaa

/- plane.Check and plane.Faces of planes that may be. -/
namespace Go.Proofs.Ytmljnfgfjcjmmaa
open Go.RowKit Lin
attribute [local go_sem ↓] Go.wp_at_zero Go.wp_at_succ

theorem mat_one {w : World} {u : Value} {p : List Int} (h : Sl 0 3 w u (ints p)) : Mat 0 22 3 (w.alloc (.cells #[u] 22)) (.slice (some ⟨w.heap.size, 0, none⟩) 1 1) [p] := by
  have hh := heap_alloc_new w (.cells #[u] 22)
  refine ⟨[u], rfl, ⟨some ⟨w.heap.size, 0, none⟩, 1, rfl, by simp, by unfold maxLen; omega, fun i hi => ⟨w.heap.size, 0, rfl, ?_, .inr ⟨_, hh⟩⟩, fun e => by cases e⟩, fun i hi => ?_⟩
  · have : i = 0 := by simpa using hi
    subst this
    unfold World.cell?
    rw [hh]
    rfl
  · have : i = 0 := by simpa using hi
    subst this
    exact h.alloc _

theorem mat_two {w : World} {u x : Value} {p o : List Int} (h : Sl 0 3 w u (ints p)) (h2 : Sl 0 3 w x (ints o)) : Mat 0 22 3 (w.alloc (.cells #[u, x] 22)) (.slice (some ⟨w.heap.size, 0, none⟩) 2 2) [p, o] := by
  have hh := heap_alloc_new w (.cells #[u, x] 22)
  refine ⟨[u, x], rfl, ⟨some ⟨w.heap.size, 0, none⟩, 2, rfl, by simp, by unfold maxLen; omega, fun i hi => ⟨w.heap.size, 0, rfl, ?_, .inr ⟨_, hh⟩⟩, fun e => by cases e⟩, fun i hi => ?_⟩
  · rcases (show i = 0 ∨ i = 1 by simp at hi; omega) with rfl | rfl
    · unfold World.cell?
      rw [hh]
      rfl
    · unfold World.cell?
      rw [hh]
      rfl
  · rcases (show i = 0 ∨ i = 1 by simp at hi; omega) with rfl | rfl
    · exact h.alloc _
    · exact h2.alloc _

theorem mx_few {d : Nat} {m : List (List Int)} (h1 : 1 ≤ d) (h3 : d ≤ 3) (h : ∀ p ∈ m, p.length = d + 1 ∧ ∀ z ∈ p, z.natAbs ≤ 20) : Mx (d + 1) 60 m := by
  refine ⟨fun r hr => (h r hr).1, fun r hr z hz => by have := (h r hr).2 z hz; omega, by omega, by omega, by decide, ?_⟩
  rcases (show d = 1 ∨ d = 2 ∨ d = 3 by omega) with rfl | rfl | rfl <;> decide

/-- Planes that may be. -/
structure PlG (d : Nat) (P : List (List Int)) : Prop where
  row : ∀ p ∈ P, p.length = d + 1 ∧ ∀ z ∈ p, z.natAbs ≤ 20
  one : ∀ p ∈ P, (pickL d [p]).length ≠ 0
  two : ∀ i k, i < k → k < P.length → (pickL (d + 1) [P.getD k [], P.getD i []]).length ≠ 1

set_option maxRecDepth 100000 in
theorem same1_any (d : Nat) (p o : List Int) (u x : Value) (q1 q2 : Nat) (w : World) (hd1 : 1 ≤ d) (hd3 : d ≤ 3) (hp : p.length = d + 1 ∧ ∀ z ∈ p, z.natAbs ≤ 20) (ho : o.length = d + 1 ∧ ∀ z ∈ o, z.natAbs ≤ 20) (hu : Sl 0 3 w u (ints p)) (hx : Sl 0 3 w x (ints o)) (c1 : w.cell? ⟨q1, 0, none⟩ = some u) (c2 : w.cell? ⟨q2, 0, none⟩ = some (.int .i64 d)) :
    Calls Try.prog 35 #[x, .pointer (some ⟨q1, 0, none⟩), .pointer (some ⟨q2, 0, none⟩)] w fun e w' => e = .returned (.bool (decide ((pickL (d + 1) [p, o]).length = 1))) ∧ Below w.heap.size w w' := by
  have HR : Hid (Calls Try.prog 25 #[.slice (some ⟨w.heap.size, 0, none⟩) 2 2, .int .i64 ((d : Int) + 1)] (w.alloc (.cells #[u, x] 22)) fun e w' => e = .returned (.int .i64 ((pickL (d + 1) [p, o]).length : Nat)) ∧ Below w.heap.size w w') := by
    refine (rankW_any 0 (d + 1) (d + 1) [p, o] _ _ (Nat.le_refl _) (by omega) (mx_few hd1 hd3 (fun r hr => ?_)) (mat_two hu hx) (by simp)).mono ?_
    · simp only [List.mem_cons, List.not_mem_nil, or_false] at hr
      rcases hr with rfl | rfl
      · exact hp
      · exact ho
    · rintro e w' ⟨rfl, hb⟩
      exact ⟨rfl, ((Below.refl _ _).alloc (Nat.le_refl _) _).trans (hb.mono (by simp))⟩
  have hlt1 := lt_of_cell c1
  have hlt2 := lt_of_cell c2
  have b2 : (w.alloc (.cells #[u, x] 22)).cell? ⟨q2, 0, none⟩ = some (.int .i64 d) := ((alloc_keep w (.cells #[u, x] 22)).cell (p := ⟨q2, 0, none⟩) hlt2).trans c2
  obtain ⟨uo, uc, hue, _, _⟩ := sl_open hu
  obtain ⟨xo, xc, hxe, _, _⟩ := sl_open hx
  rw [hp.1] at hue
  rw [ho.1] at hxe
  subst hue hxe
  generalize (pickL (d + 1) [p, o]).length = rk at *
  clear hu hx hp ho hlt1 hlt2
  go_enter Try.func35, Try.ntmps35
  go_wp2_with fail
  refine HR.out.mono ?_
  rintro e w2 ⟨rfl, hb⟩
  have HB : Hid (Below w.heap.size w w2) := hb
  clear hb
  go_wp2
  go_ret
  refine ⟨ret_bool ?_, HB.out⟩
  by_cases h : rk = 1
  · subst h; rfl
  · have h2 : ((rk : Int) == 1) = false := by simp; omega
    simp [h, h2]

set_option maxRecDepth 100000 in
set_option maxHeartbeats 1600000 in
theorem checkOne_any (d : Nat) (p : List Int) (A : List (List Int)) (u v : Value) (w : World) (hd1 : 1 ≤ d) (hd3 : d ≤ 3) (hp : p.length = d + 1 ∧ ∀ z ∈ p, z.natAbs ≤ 20) (hA : ∀ o ∈ A, o.length = d + 1 ∧ ∀ z ∈ o, z.natAbs ≤ 20) (h1 : (pickL d [p]).length ≠ 0) (h2 : ∀ o ∈ A, (pickL (d + 1) [p, o]).length ≠ 1)
    (hu : Sl 0 3 w u (ints p)) (hv : Mat 0 22 3 w v A) :
    Calls Try.prog 20 #[.int .i64 d, u, v] w fun e w' => e = .returned (.int .i64 0) ∧ Below w.heap.size w w' := by
  obtain ⟨ao, ac, rfl, _, _⟩ := mat_open hv
  obtain ⟨W, hW⟩ : ∃ W, W = (w.alloc (.cells #[.int .i64 d] 3)).alloc (.cells #[u] 22) := ⟨_, rfl⟩
  have hs1 : (w.alloc (.cells #[.int .i64 d] 3)).heap.size = w.heap.size + 1 := by simp
  have hbW : Below w.heap.size w W := by rw [hW]; exact ((Below.refl _ _).alloc (Nat.le_refl _) _).alloc (by simp) _
  have hk0 : W.heap[w.heap.size]? = some (.cells #[.int .i64 d] 3 (0, 0)) := by
    rw [hW]
    exact (Below.heap_alloc _ _ _ (by simp)).trans (heap_alloc_new w _)
  have hk1 : W.heap[w.heap.size + 1]? = some (.cells #[u] 22 (0, 0)) := by
    rw [hW]
    have := heap_alloc_new (w.alloc (.cells #[.int .i64 d] 3)) (.cells #[u] 22)
    rwa [hs1] at this
  have hsW : W.heap.size = w.heap.size + 1 + 1 := by rw [hW]; simp
  have HWW : Hid (W = (w.alloc (.cells #[.int .i64 d] 3)).alloc (.cells #[u] 22)) := hW
  have HBW : Hid (∀ X, Below W.heap.size W X → Below w.heap.size w X) := fun X hX => hbW.trans (hX.mono hbW.size)
  have HCC : Hid (∀ X, Below W.heap.size W X → X.cell? ⟨w.heap.size, 0, none⟩ = some (.int .i64 d) ∧ X.cell? ⟨w.heap.size + 1, 0, none⟩ = some u) := fun X hX => by
    have q0 := (hX.block w.heap.size (by omega)).trans hk0
    have q1 := (hX.block (w.heap.size + 1) (by omega)).trans hk1
    exact ⟨by simp [World.cell?, q0], by simp [World.cell?, q1]⟩
  have HL : Hid (∀ X, Below W.heap.size W X → Calls Try.prog 34 #[u, .int .i64 ((d : Int) + 1), .int .i64 20] X fun e w' => e = .returned (.int .i64 0) ∧ Below W.heap.size W w') := fun X hX => by
    refine (chkL_any 0 (d + 1) 20 p u X (hu.below (HBW.out X hX) (Nat.le_refl _)) (by decide) (by decide)).mono ?_
    rintro e w' ⟨rfl, hb⟩
    refine ⟨?_, hX.trans (hb.mono hX.size)⟩
    rw [if_neg (by simp [hp.1]), if_neg (by rw [far20 hp.2]; decide)]
  have HR : Hid (∀ X, Below W.heap.size W X → Calls Try.prog 25 #[.slice (some ⟨X.heap.size, 0, none⟩) 1 1, .int .i64 (d : Int)] (X.alloc (.cells #[u] 22)) fun e w' => e = .returned (.int .i64 ((pickL d [p]).length : Nat)) ∧ Below W.heap.size W w') := fun X hX => by
    refine (rankW_any 0 (d + 1) d [p] _ _ (by omega) (by omega) (mx_few hd1 hd3 (fun r hr => ?_)) (mat_one (hu.below (HBW.out X hX) (Nat.le_refl _))) (by simp)).mono ?_
    · simp only [List.mem_cons, List.not_mem_nil, or_false] at hr
      subst hr
      exact hp
    · rintro e w' ⟨rfl, hb⟩
      exact ⟨rfl, (hX.alloc hX.size _).trans (hb.mono (by have := hX.size; simp; omega))⟩
  have HS : Hid (∀ X, Below W.heap.size W X → Calls Try.prog 36 #[.slice ao A.length ac, .func (.func 35) #[] #[.pointer (some ⟨w.heap.size + 1, 0, none⟩), .pointer (some ⟨w.heap.size, 0, none⟩)]] X fun e w' => e = .returned (.bool false) ∧ Below W.heap.size W w') := fun X hX => by
    refine (hasS_any 0 (fun o => decide ((pickL (d + 1) [p, o]).length = 1)) A _ ⟨w.heap.size + 1, 0, none⟩ ⟨w.heap.size, 0, none⟩ X (hv.below (HBW.out X hX) (Nat.le_refl _)) (fun o ho Y ov hY hov => ?_)).mono ?_
    · have hXY : Below W.heap.size W Y := hX.trans (hY.mono hX.size)
      obtain ⟨c0, c1⟩ := HCC.out Y hXY
      refine (same1_any d p o u ov _ _ Y hd1 hd3 hp (hA o ho) (hu.below (HBW.out Y hXY) (Nat.le_refl _)) hov c1 c0).mono ?_
      rintro e w' ⟨rfl, hb⟩
      exact ⟨rfl, hY.trans (hb.mono hY.size)⟩
    · rintro e w' ⟨rfl, hb⟩
      refine ⟨ret_bool ?_, hX.trans (hb.mono hX.size)⟩
      rw [List.any_eq_false]
      intro o ho
      simp [h2 o ho]
  have hrk : (((pickL d [p]).length : Nat) : Int) ≠ 0 := by omega
  obtain ⟨uo, uc, hue, _, _⟩ := sl_open hu
  rw [hp.1] at hue
  subst hue
  obtain ⟨c0, c1⟩ := HCC.out W (Below.refl _ _)
  generalize (pickL d [p]).length = rk at *
  have hrb : ((rk : Int) == 0) = false := by simpa using hrk
  clear hu hv hp hA h1 h2 hW hbW hk0 hk1 hsW hs1
  go_enter Try.func20, Try.ntmps20
  go_upto_region 1 with fail
  rw [← HWW.out]
  go_wp2_with fail
  refine (HL.out W (Below.refl _ _)).mono ?_
  rintro e w1 ⟨rfl, hb1⟩
  have HB1 : Hid (Below W.heap.size W w1) := hb1
  clear c0 c1
  obtain ⟨c0, c1⟩ := HCC.out w1 hb1
  obtain ⟨c0', c1'⟩ := HCC.out (w1.alloc (.cells #[.slice uo (d + 1) uc] 22)) (hb1.alloc hb1.size _)
  clear hb1
  go_wp2_with fail
  refine (HR.out w1 HB1.out).mono ?_
  rintro e w2 ⟨rfl, hb2⟩
  have HB2 : Hid (Below W.heap.size W w2) := hb2
  clear c0 c1 c0' c1' hb2
  go_wp2_with fail
  refine (HS.out w2 HB2.out).mono ?_
  rintro e w3 ⟨rfl, hb3⟩
  have HB3 : Hid (Below W.heap.size W w3) := hb3
  clear hb3
  go_wp2
  go_ret
  exact ⟨rfl, HBW.out _ HB3.out⟩

set_option maxRecDepth 100000 in
set_option maxHeartbeats 1600000 in
theorem planeCheck_any (d : Nat) (P : List (List Int)) (v : Value) (w : World) (hd1 : 1 ≤ d) (hd3 : d ≤ 3) (hG : PlG d P) (h6 : P.length ≤ 6) (hv : Mat 0 22 3 w v P) :
    Calls Try.prog 14 #[.int .i64 d, v] w fun e w' => e = .returned (.int .i64 0) ∧ Below w.heap.size w w' := by
  obtain ⟨ro, rc, rfl, hlc, hcm⟩ := mat_open hv
  have HV : Hid (∀ k, k < P.length → ∃ pb po pv, ro = some ⟨pb, po, none⟩ ∧ ∀ X, Below w.heap.size w X → X.cell? ⟨pb, po + k, none⟩ = some pv ∧ Calls Try.prog 20 #[.int .i64 d, pv, .slice (some ⟨pb, po, none⟩) k rc] X fun e w' => e = .returned (.int .i64 0) ∧ Below w.heap.size w w') := fun k hk => by
    obtain ⟨pb, po, cap, u, e1, _, h1, h2⟩ := mat_cell hv hk
    simp only [Value.slice.injEq] at e1
    obtain ⟨hro, _, rfl⟩ := e1
    subst hro
    refine ⟨pb, po, u, rfl, fun X hX => ⟨(hX.cell (lt_of_cell h1)).trans h1, ?_⟩⟩
    have hm : P.getD k [] ∈ P := getD_memR hk
    have hcut : Mat 0 22 3 X (.slice (some ⟨pb, po, none⟩) k rc) (P.take k) := by
      obtain ⟨vs, a1, ⟨ao, cap, e, a2, a3, a4, a5⟩, a6⟩ := hv.below hX (Nat.le_refl _)
      simp only [Value.slice.injEq] at e
      obtain ⟨rfl, _, rfl⟩ := e
      have hlt : (vs.take k).length = k := by rw [List.length_take]; omega
      refine ⟨vs.take k, by rw [hlt, List.length_take]; omega, ⟨some ⟨pb, po, none⟩, rc, by rw [hlt], by rw [hlt]; omega, a3, fun i hi => ?_, a5⟩, fun i hi => ?_⟩
      · rw [hlt] at hi
        obtain ⟨b, o, q1, q2, q3⟩ := a4 i (by omega)
        exact ⟨b, o, q1, by rw [q2, List.getElem?_take_of_lt hi], q3⟩
      · rw [List.length_take] at hi
        have := a6 i (by omega)
        rw [List.getD_eq_getElem?_getD, List.getD_eq_getElem?_getD, List.getElem?_take_of_lt (by omega), List.getElem?_take_of_lt (by omega), ← List.getD_eq_getElem?_getD, ← List.getD_eq_getElem?_getD]
        exact this
    refine (checkOne_any d (P.getD k []) (P.take k) u _ X hd1 hd3 (hG.row _ hm) (fun o ho => hG.row o (List.mem_of_mem_take ho)) (hG.one _ hm) (fun o ho => ?_) (h2.below hX (Nat.le_refl _)) hcut).mono ?_
    · obtain ⟨i, hi, e⟩ := List.getElem_of_mem ho
      rw [List.length_take] at hi
      have := hG.two i k (by omega) hk
      rw [show P.getD i [] = o by rw [← e]; simp [show i < P.length by omega]] at this
      exact this
    · rintro e w' ⟨rfl, hb⟩
      exact ⟨rfl, hX.trans (hb.mono hX.size)⟩
  have hcutr : ∀ (pb po k : Nat), k ≤ P.length → ∀ X, (Instr.slice 26 (.slice (some ⟨pb, po, none⟩) P.length rc) none (some (.int .i64 (k : Int))) none).run Try.prog X = .ok (.slice (some ⟨pb, po, none⟩) k rc) X := fun pb po k hk X => by
    have e1 : (0 : Int) ≤ (k : Int) ∧ (k : Int) ≤ (rc : Int) := by omega
    have e2 : k ≤ rc := by omega
    have hz : ∀ w, (Go.sizeOf 22).run Try.prog w = .ok 1 w := fun w => by kernel_rfl
    simp [Instr.slice, Instr.sliceBounds, Instr.sliceBound, run_underlying Try.underlying26, asIntOf, e1, e2, hz, Addr.add, go_sem]
  have HCR : Hid (∀ (pb po k : Nat), k ≤ P.length → ∀ X, (Instr.slice 26 (.slice (some ⟨pb, po, none⟩) P.length rc) none (some (.int .i64 (k : Int))) none).run Try.prog X = .ok (.slice (some ⟨pb, po, none⟩) k rc) X) := hcutr
  clear hv hG hcutr
  go_enter Try.func14, Try.ntmps14
  go_wp2
  go_loopw [19] (fun i wr => ∃ k : Nat, k ≤ P.length ∧ i = .int .i64 (k : Int) ∧ Below w.heap.size w wr) (fun i _ => P.length - (intOf i).toNat)
  case atStart => exact ⟨0, Nat.zero_le _, rfl, Below.refl _ _⟩
  case round =>
    obtain ⟨k, hk, rfl, hb⟩ := hrel
    by_cases hlt : k < P.length
    · obtain ⟨pb, po, pv, hro, hx⟩ := HV.out k hlt
      subst hro
      obtain ⟨c1, hcall⟩ := hx wr hb
      have HC : Hid (Calls Try.prog 20 #[.int .i64 d, pv, .slice (some ⟨pb, po, none⟩) k rc] wr fun e w' => e = .returned (.int .i64 0) ∧ Below w.heap.size w w') := hcall
      have hcr := HCR.out pb po k hk
      have hkI : (k : Int) < (P.length : Int) := by omega
      have hkI0 : (0 : Int) ≤ (k : Int) := by omega
      clear hx hcall hb HV HCR
      go_wp2_with fail
      refine HC.out.mono ?_
      rintro e w2 ⟨rfl, hb2⟩
      have HB2 : Hid (Below w.heap.size w w2) := hb2
      clear hb2 c1
      go_wp2
      go_roundw
      case rel => exact ⟨k + 1, by omega, by go_num, HB2.out⟩
      case measure => simp [intOf]; omega
    · have HB : Hid (Below w.heap.size w wr) := hb
      clear hb HV HCR
      go_wp2
      go_ret
      exact ⟨rfl, HB.out⟩

end Go.Proofs.Ytmljnfgfjcjmmaa
