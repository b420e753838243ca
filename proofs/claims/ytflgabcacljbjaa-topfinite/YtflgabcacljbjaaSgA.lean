import Derived.Test.YtflgabcacljbjaaRkW
import Derived.Test.YtflgabcacljbjaaSg4
import Derived.Test.YtflgabcacljbjaaWi1
import Derived.Test.YtflgabcacljbjaaCutB
/- Is there a plane that ..: by checkOne's closure, whose contract is given (out of mkhas.py). -/
namespace Go.Proofs.Ytflgabcacljbjaa
open Go.RowKit
attribute [local go_sem ↓] Go.wp_at_zero Go.wp_at_succ

set_option maxRecDepth 100000 in
set_option maxHeartbeats 800000 in
theorem idxS_any (B : Nat) (f : List Int → Bool) (m : List (List Int)) (v : Value) (p1 p2 : Addr) (w : World) (hv : Mat B 22 3 w v m)
    (hc : ∀ r ∈ m, ∀ (W : World) (rv : Value), Below w.heap.size w W → Sl B 3 W rv (ints r) → Calls Try.prog 32 #[rv, .pointer (some p1), .pointer (some p2)] W fun e w' => e = .returned (.bool (f r)) ∧ Below w.heap.size w w') :
    Calls Try.prog 48 #[v, .func (.func 32) #[] #[.pointer (some p1), .pointer (some p2)]] w fun e w' => (∃ z, e = .returned (.int .i64 z) ∧ -1 ≤ z ∧ z < m.length ∧ decide (0 ≤ z) = m.any f) ∧ Below w.heap.size w w' := by
  obtain ⟨ao, cap, hvv, hlc, hcm⟩ := mat_open hv
  subst hvv
  have HV : Hid (Mat B 22 3 w (.slice ao m.length cap) m) := hv
  have HC : Hid (∀ r ∈ m, ∀ (W : World) (rv : Value), Below w.heap.size w W → Sl B 3 W rv (ints r) → Calls Try.prog 32 #[rv, .pointer (some p1), .pointer (some p2)] W fun e w' => e = .returned (.bool (f r)) ∧ Below w.heap.size w w') := hc
  clear hv hc
  go_enter Try.func48, Try.ntmps48
  go_wp2
  go_loopw [8] (fun i wr => ∃ k : Nat, k ≤ m.length ∧ i = .int .i64 k ∧ (m.take k).any f = false ∧ Below w.heap.size w wr) (fun i _ => m.length - (intOf i).toNat)
  case atStart => exact ⟨0, Nat.zero_le _, rfl, by simp, Below.refl _ _⟩
  case round =>
    obtain ⟨k, hk, rfl, hno, hb⟩ := hrel
    have HN : Hid ((m.take k).any f = false) := hno
    have HB : Hid (Below w.heap.size w wr) := hb
    clear hno hb
    by_cases hlt : k < m.length
    · obtain ⟨b1, o, cp, r1, hs, hc1, hcc, hr1⟩ := mat_cell (HV.out.below HB.out (Nat.le_refl _)) hlt
      simp only [Value.slice.injEq] at hs
      obtain ⟨rfl, hxx, rfl⟩ := hs
      clear hxx
      have HS1 : Hid ((m.take (k + 1)).any f = f (m.getD k [])) := anyR_snoc (p := f) hlt HN.out
      have HME : Hid (m.getD k [] ∈ m) := by
        show _ ∈ _
        simp [hlt]
      have HCA : Hid (Calls Try.prog 32 #[r1, .pointer (some p1), .pointer (some p2)] wr fun e w' => e = .returned (.bool (f (m.getD k []))) ∧ Below w.heap.size w w') := HC.out _ HME.out wr r1 HB.out hr1
      clear hr1
      generalize m.getD k [] = x at *
      obtain ⟨fb, hfb⟩ : ∃ fb, fb = f x := ⟨_, rfl⟩
      have HFB : Hid (fb = f x) := hfb
      rw [← hfb] at HCA
      clear hfb
      go_wp2_with fail
      refine HCA.out.mono ?_
      rintro e w2 ⟨rfl, hb2⟩
      have HB2 : Hid (Below w.heap.size w w2) := hb2
      clear hb2 HCA
      cases hf : fb
      · have HF : Hid (f x = false) := by rw [← hf]; exact HFB.out.symm
        clear hf
        go_wp2
        go_roundw
        case rel => exact ⟨k + 1, by omega, by go_num, by rw [HS1.out]; exact HF.out, HB2.out⟩
        case measure => simp [intOf]; omega
      · have HF : Hid (f x = true) := by rw [← hf]; exact HFB.out.symm
        clear hf
        go_wp2
        go_ret
        refine ⟨⟨_, rfl, by omega, by omega, ?_⟩, HB2.out⟩
        rw [decide_eq_true (by omega)]
        exact (List.any_eq_true.2 ⟨x, HME.out, HF.out⟩).symm
    · have HTK : Hid (m.take k = m) := List.take_of_length_le (by omega)
      go_wp2
      go_ret
      exact ⟨⟨-1, rfl, by omega, by omega, by rw [← HTK.out, HN.out]; rfl⟩, HB.out⟩

set_option maxRecDepth 100000 in
theorem hasS_any (B : Nat) (f : List Int → Bool) (m : List (List Int)) (v : Value) (p1 p2 : Addr) (w : World) (hv : Mat B 22 3 w v m)
    (hc : ∀ r ∈ m, ∀ (W : World) (rv : Value), Below w.heap.size w W → Sl B 3 W rv (ints r) → Calls Try.prog 32 #[rv, .pointer (some p1), .pointer (some p2)] W fun e w' => e = .returned (.bool (f r)) ∧ Below w.heap.size w w') :
    Calls Try.prog 33 #[v, .func (.func 32) #[] #[.pointer (some p1), .pointer (some p2)]] w fun e w' => e = .returned (.bool (m.any f)) ∧ Below w.heap.size w w' := by
  have HI : Hid (Calls Try.prog 48 #[v, .func (.func 32) #[] #[.pointer (some p1), .pointer (some p2)]] w fun e w' => (∃ z, e = .returned (.int .i64 z) ∧ -1 ≤ z ∧ z < m.length ∧ decide (0 ≤ z) = m.any f) ∧ Below w.heap.size w w') := idxS_any B f m v p1 p2 w hv hc
  obtain ⟨ao, cap, hvv, hlc, hcm⟩ := mat_open hv
  subst hvv
  clear hv hc
  generalize m.any f = R at *
  go_enter Try.func33, Try.ntmps33
  go_wp2_with fail
  refine HI.out.mono ?_
  rintro e w' ⟨⟨z, rfl, hz1, hz2, hz3⟩, hb⟩
  have HZ : Hid (decide (0 ≤ z) = R) := hz3
  have HB : Hid (Below w.heap.size w w') := hb
  clear hz3 hb
  go_wp2
  go_ret
  exact ⟨ret_bool HZ.out, HB.out⟩

end Go.Proofs.Ytflgabcacljbjaa

/- plane.Check and plane.Faces of planes that may be. -/
namespace Go.Proofs.Ytflgabcacljbjaa
open Go.RowKit Lin
attribute [local go_sem ↓] Go.wp_at_zero Go.wp_at_succ

theorem mat_one {w : World} {u : Value} {p : List Int} (h : Sl 0 3 w u (ints p)) : Mat 0 22 3 (w.alloc (.cells #[u] 22)) (.slice (some ⟨w.heap.size, 0, none⟩) 1 1) [p] := by
  have hh := heap_alloc_new w (.cells #[u] 22)
  refine ⟨[u], rfl, ⟨some ⟨w.heap.size, 0, none⟩, 1, rfl, by simp, by unfold maxLen; omega, fun i hi => ⟨w.heap.size, 0, rfl, ?_, .inr ⟨_, hh⟩⟩, fun e => by cases e⟩, fun i hi => ?_⟩
  · have : i = 0 := by simpa using hi
    subst this
    unfold World.cell?
    rw [hh]
    rfl
  · have : i = 0 := by simpa using hi
    subst this
    exact h.alloc _

theorem mat_two {w : World} {u x : Value} {p o : List Int} (h : Sl 0 3 w u (ints p)) (h2 : Sl 0 3 w x (ints o)) : Mat 0 22 3 (w.alloc (.cells #[u, x] 22)) (.slice (some ⟨w.heap.size, 0, none⟩) 2 2) [p, o] := by
  have hh := heap_alloc_new w (.cells #[u, x] 22)
  refine ⟨[u, x], rfl, ⟨some ⟨w.heap.size, 0, none⟩, 2, rfl, by simp, by unfold maxLen; omega, fun i hi => ⟨w.heap.size, 0, rfl, ?_, .inr ⟨_, hh⟩⟩, fun e => by cases e⟩, fun i hi => ?_⟩
  · rcases (show i = 0 ∨ i = 1 by simp at hi; omega) with rfl | rfl
    · unfold World.cell?
      rw [hh]
      rfl
    · unfold World.cell?
      rw [hh]
      rfl
  · rcases (show i = 0 ∨ i = 1 by simp at hi; omega) with rfl | rfl
    · exact h.alloc _
    · exact h2.alloc _

theorem mx_few {d : Nat} {m : List (List Int)} (h1 : 1 ≤ d) (h3 : d ≤ 3) (h : ∀ p ∈ m, p.length = d + 1 ∧ ∀ z ∈ p, z.natAbs ≤ 20) : Mx (d + 1) 60 m := by
  refine ⟨fun r hr => (h r hr).1, fun r hr z hz => by have := (h r hr).2 z hz; omega, by omega, by omega, by decide, ?_⟩
  rcases (show d = 1 ∨ d = 2 ∨ d = 3 by omega) with rfl | rfl | rfl <;> decide

/-- Planes that may be. -/
structure PlG (d : Nat) (P : List (List Int)) : Prop where
  row : ∀ p ∈ P, p.length = d + 1 ∧ ∀ z ∈ p, z.natAbs ≤ 20
  one : ∀ p ∈ P, (pickL d [p]).length ≠ 0
  two : ∀ i k, i < k → k < P.length → (pickL (d + 1) [P.getD k [], P.getD i []]).length ≠ 1

set_option maxRecDepth 100000 in
theorem same1_any (d : Nat) (p o : List Int) (u x : Value) (q1 q2 : Nat) (w : World) (hd1 : 1 ≤ d) (hd3 : d ≤ 3) (hp : p.length = d + 1 ∧ ∀ z ∈ p, z.natAbs ≤ 20) (ho : o.length = d + 1 ∧ ∀ z ∈ o, z.natAbs ≤ 20) (hu : Sl 0 3 w u (ints p)) (hx : Sl 0 3 w x (ints o)) (c1 : w.cell? ⟨q1, 0, none⟩ = some u) (c2 : w.cell? ⟨q2, 0, none⟩ = some (.int .i64 d)) :
    Calls Try.prog 32 #[x, .pointer (some ⟨q1, 0, none⟩), .pointer (some ⟨q2, 0, none⟩)] w fun e w' => e = .returned (.bool (decide ((pickL (d + 1) [p, o]).length = 1))) ∧ Below w.heap.size w w' := by
  have HR : Hid (Calls Try.prog 21 #[.slice (some ⟨w.heap.size, 0, none⟩) 2 2, .int .i64 ((d : Int) + 1)] (w.alloc (.cells #[u, x] 22)) fun e w' => e = .returned (.int .i64 ((pickL (d + 1) [p, o]).length : Nat)) ∧ Below w.heap.size w w') := by
    refine (rankW_any 0 (d + 1) (d + 1) [p, o] _ _ (Nat.le_refl _) (by omega) (mx_few hd1 hd3 (fun r hr => ?_)) (mat_two hu hx) (by simp)).mono ?_
    · simp only [List.mem_cons, List.not_mem_nil, or_false] at hr
      rcases hr with rfl | rfl
      · exact hp
      · exact ho
    · rintro e w' ⟨rfl, hb⟩
      exact ⟨rfl, ((Below.refl _ _).alloc (Nat.le_refl _) _).trans (hb.mono (by simp))⟩
  have hlt1 := lt_of_cell c1
  have hlt2 := lt_of_cell c2
  have b2 : (w.alloc (.cells #[u, x] 22)).cell? ⟨q2, 0, none⟩ = some (.int .i64 d) := ((alloc_keep w (.cells #[u, x] 22)).cell (p := ⟨q2, 0, none⟩) hlt2).trans c2
  obtain ⟨uo, uc, hue, _, _⟩ := sl_open hu
  obtain ⟨xo, xc, hxe, _, _⟩ := sl_open hx
  rw [hp.1] at hue
  rw [ho.1] at hxe
  subst hue hxe
  generalize (pickL (d + 1) [p, o]).length = rk at *
  clear hu hx hp ho hlt1 hlt2
  go_enter Try.func32, Try.ntmps32
  go_wp2_with fail
  refine HR.out.mono ?_
  rintro e w2 ⟨rfl, hb⟩
  have HB : Hid (Below w.heap.size w w2) := hb
  clear hb
  go_wp2
  go_ret
  refine ⟨ret_bool ?_, HB.out⟩
  by_cases h : rk = 1
  · subst h; rfl
  · have h2 : ((rk : Int) == 1) = false := by simp; omega
    simp [h, h2]

set_option maxRecDepth 100000 in
set_option maxHeartbeats 1600000 in
theorem checkOne_any (d : Nat) (p : List Int) (A : List (List Int)) (u v : Value) (w : World) (hd1 : 1 ≤ d) (hd3 : d ≤ 3) (hp : p.length = d + 1 ∧ ∀ z ∈ p, z.natAbs ≤ 20) (hA : ∀ o ∈ A, o.length = d + 1 ∧ ∀ z ∈ o, z.natAbs ≤ 20) (h1 : (pickL d [p]).length ≠ 0) (h2 : ∀ o ∈ A, (pickL (d + 1) [p, o]).length ≠ 1)
    (hu : Sl 0 3 w u (ints p)) (hv : Mat 0 22 3 w v A) :
    Calls Try.prog 16 #[.int .i64 d, u, v] w fun e w' => e = .returned (.int .i64 0) ∧ Below w.heap.size w w' := by
  obtain ⟨ao, ac, rfl, _, _⟩ := mat_open hv
  obtain ⟨W, hW⟩ : ∃ W, W = (w.alloc (.cells #[.int .i64 d] 3)).alloc (.cells #[u] 22) := ⟨_, rfl⟩
  have hs1 : (w.alloc (.cells #[.int .i64 d] 3)).heap.size = w.heap.size + 1 := by simp
  have hbW : Below w.heap.size w W := by rw [hW]; exact ((Below.refl _ _).alloc (Nat.le_refl _) _).alloc (by simp) _
  have hk0 : W.heap[w.heap.size]? = some (.cells #[.int .i64 d] 3 (0, 0)) := by
    rw [hW]
    exact (Below.heap_alloc _ _ _ (by simp)).trans (heap_alloc_new w _)
  have hk1 : W.heap[w.heap.size + 1]? = some (.cells #[u] 22 (0, 0)) := by
    rw [hW]
    have := heap_alloc_new (w.alloc (.cells #[.int .i64 d] 3)) (.cells #[u] 22)
    rwa [hs1] at this
  have hsW : W.heap.size = w.heap.size + 1 + 1 := by rw [hW]; simp
  have HWW : Hid (W = (w.alloc (.cells #[.int .i64 d] 3)).alloc (.cells #[u] 22)) := hW
  have HBW : Hid (∀ X, Below W.heap.size W X → Below w.heap.size w X) := fun X hX => hbW.trans (hX.mono hbW.size)
  have HCC : Hid (∀ X, Below W.heap.size W X → X.cell? ⟨w.heap.size, 0, none⟩ = some (.int .i64 d) ∧ X.cell? ⟨w.heap.size + 1, 0, none⟩ = some u) := fun X hX => by
    have q0 := (hX.block w.heap.size (by omega)).trans hk0
    have q1 := (hX.block (w.heap.size + 1) (by omega)).trans hk1
    exact ⟨by simp [World.cell?, q0], by simp [World.cell?, q1]⟩
  have HL : Hid (∀ X, Below W.heap.size W X → Calls Try.prog 31 #[u, .int .i64 ((d : Int) + 1), .int .i64 20] X fun e w' => e = .returned (.int .i64 0) ∧ Below W.heap.size W w') := fun X hX => by
    refine (chkL_any 0 (d + 1) 20 p u X (hu.below (HBW.out X hX) (Nat.le_refl _)) (by decide) (by decide)).mono ?_
    rintro e w' ⟨rfl, hb⟩
    refine ⟨?_, hX.trans (hb.mono hX.size)⟩
    rw [if_neg (by simp [hp.1]), if_neg (by rw [far20 hp.2]; decide)]
  have HR : Hid (∀ X, Below W.heap.size W X → Calls Try.prog 21 #[.slice (some ⟨X.heap.size, 0, none⟩) 1 1, .int .i64 (d : Int)] (X.alloc (.cells #[u] 22)) fun e w' => e = .returned (.int .i64 ((pickL d [p]).length : Nat)) ∧ Below W.heap.size W w') := fun X hX => by
    refine (rankW_any 0 (d + 1) d [p] _ _ (by omega) (by omega) (mx_few hd1 hd3 (fun r hr => ?_)) (mat_one (hu.below (HBW.out X hX) (Nat.le_refl _))) (by simp)).mono ?_
    · simp only [List.mem_cons, List.not_mem_nil, or_false] at hr
      subst hr
      exact hp
    · rintro e w' ⟨rfl, hb⟩
      exact ⟨rfl, (hX.alloc hX.size _).trans (hb.mono (by have := hX.size; simp; omega))⟩
  have HS : Hid (∀ X, Below W.heap.size W X → Calls Try.prog 33 #[.slice ao A.length ac, .func (.func 32) #[] #[.pointer (some ⟨w.heap.size + 1, 0, none⟩), .pointer (some ⟨w.heap.size, 0, none⟩)]] X fun e w' => e = .returned (.bool false) ∧ Below W.heap.size W w') := fun X hX => by
    refine (hasS_any 0 (fun o => decide ((pickL (d + 1) [p, o]).length = 1)) A _ ⟨w.heap.size + 1, 0, none⟩ ⟨w.heap.size, 0, none⟩ X (hv.below (HBW.out X hX) (Nat.le_refl _)) (fun o ho Y ov hY hov => ?_)).mono ?_
    · have hXY : Below W.heap.size W Y := hX.trans (hY.mono hX.size)
      obtain ⟨c0, c1⟩ := HCC.out Y hXY
      refine (same1_any d p o u ov _ _ Y hd1 hd3 hp (hA o ho) (hu.below (HBW.out Y hXY) (Nat.le_refl _)) hov c1 c0).mono ?_
      rintro e w' ⟨rfl, hb⟩
      exact ⟨rfl, hY.trans (hb.mono hY.size)⟩
    · rintro e w' ⟨rfl, hb⟩
      refine ⟨ret_bool ?_, hX.trans (hb.mono hX.size)⟩
      rw [List.any_eq_false]
      intro o ho
      simp [h2 o ho]
  have hrk : (((pickL d [p]).length : Nat) : Int) ≠ 0 := by omega
  obtain ⟨uo, uc, hue, _, _⟩ := sl_open hu
  rw [hp.1] at hue
  subst hue
  obtain ⟨c0, c1⟩ := HCC.out W (Below.refl _ _)
  generalize (pickL d [p]).length = rk at *
  have hrb : ((rk : Int) == 0) = false := by simpa using hrk
  clear hu hv hp hA h1 h2 hW hbW hk0 hk1 hsW hs1
  go_enter Try.func16, Try.ntmps16
  go_upto_region 1 with fail
  rw [← HWW.out]
  go_wp2_with fail
  refine (HL.out W (Below.refl _ _)).mono ?_
  rintro e w1 ⟨rfl, hb1⟩
  have HB1 : Hid (Below W.heap.size W w1) := hb1
  clear c0 c1
  obtain ⟨c0, c1⟩ := HCC.out w1 hb1
  obtain ⟨c0', c1'⟩ := HCC.out (w1.alloc (.cells #[.slice uo (d + 1) uc] 22)) (hb1.alloc hb1.size _)
  clear hb1
  go_wp2_with fail
  refine (HR.out w1 HB1.out).mono ?_
  rintro e w2 ⟨rfl, hb2⟩
  have HB2 : Hid (Below W.heap.size W w2) := hb2
  clear c0 c1 c0' c1' hb2
  go_wp2_with fail
  refine (HS.out w2 HB2.out).mono ?_
  rintro e w3 ⟨rfl, hb3⟩
  have HB3 : Hid (Below W.heap.size W w3) := hb3
  clear hb3
  go_wp2
  go_ret
  exact ⟨rfl, HBW.out _ HB3.out⟩

set_option maxRecDepth 100000 in
set_option maxHeartbeats 1600000 in
theorem planeCheck_any (d : Nat) (P : List (List Int)) (v : Value) (w : World) (hd1 : 1 ≤ d) (hd3 : d ≤ 3) (hG : PlG d P) (h6 : P.length ≤ 6) (hv : Mat 0 22 3 w v P) :
    Calls Try.prog 12 #[.int .i64 d, v] w fun e w' => e = .returned (.int .i64 0) ∧ Below w.heap.size w w' := by
  obtain ⟨ro, rc, rfl, hlc, hcm⟩ := mat_open hv
  have HV : Hid (∀ k, k < P.length → ∃ pb po pv, ro = some ⟨pb, po, none⟩ ∧ ∀ X, Below w.heap.size w X → X.cell? ⟨pb, po + k, none⟩ = some pv ∧ Calls Try.prog 16 #[.int .i64 d, pv, .slice (some ⟨pb, po, none⟩) k rc] X fun e w' => e = .returned (.int .i64 0) ∧ Below w.heap.size w w') := fun k hk => by
    obtain ⟨pb, po, cap, u, e1, _, h1, h2⟩ := mat_cell hv hk
    simp only [Value.slice.injEq] at e1
    obtain ⟨hro, _, rfl⟩ := e1
    subst hro
    refine ⟨pb, po, u, rfl, fun X hX => ⟨(hX.cell (lt_of_cell h1)).trans h1, ?_⟩⟩
    have hm : P.getD k [] ∈ P := getD_memR hk
    have hcut : Mat 0 22 3 X (.slice (some ⟨pb, po, none⟩) k rc) (P.take k) := by
      obtain ⟨vs, a1, ⟨ao, cap, e, a2, a3, a4, a5⟩, a6⟩ := hv.below hX (Nat.le_refl _)
      simp only [Value.slice.injEq] at e
      obtain ⟨rfl, _, rfl⟩ := e
      have hlt : (vs.take k).length = k := by rw [List.length_take]; omega
      refine ⟨vs.take k, by rw [hlt, List.length_take]; omega, ⟨some ⟨pb, po, none⟩, rc, by rw [hlt], by rw [hlt]; omega, a3, fun i hi => ?_, a5⟩, fun i hi => ?_⟩
      · rw [hlt] at hi
        obtain ⟨b, o, q1, q2, q3⟩ := a4 i (by omega)
        exact ⟨b, o, q1, by rw [q2, List.getElem?_take_of_lt hi], q3⟩
      · rw [List.length_take] at hi
        have := a6 i (by omega)
        rw [List.getD_eq_getElem?_getD, List.getD_eq_getElem?_getD, List.getElem?_take_of_lt (by omega), List.getElem?_take_of_lt (by omega), ← List.getD_eq_getElem?_getD, ← List.getD_eq_getElem?_getD]
        exact this
    refine (checkOne_any d (P.getD k []) (P.take k) u _ X hd1 hd3 (hG.row _ hm) (fun o ho => hG.row o (List.mem_of_mem_take ho)) (hG.one _ hm) (fun o ho => ?_) (h2.below hX (Nat.le_refl _)) hcut).mono ?_
    · obtain ⟨i, hi, e⟩ := List.getElem_of_mem ho
      rw [List.length_take] at hi
      have := hG.two i k (by omega) hk
      rw [show P.getD i [] = o by rw [← e]; simp [show i < P.length by omega]] at this
      exact this
    · rintro e w' ⟨rfl, hb⟩
      exact ⟨rfl, hX.trans (hb.mono hX.size)⟩
  have hcutr : ∀ (pb po k : Nat), k ≤ P.length → ∀ X, (Instr.slice 24 (.slice (some ⟨pb, po, none⟩) P.length rc) none (some (.int .i64 (k : Int))) none).run Try.prog X = .ok (.slice (some ⟨pb, po, none⟩) k rc) X := fun pb po k hk X => by
    have e1 : (0 : Int) ≤ (k : Int) ∧ (k : Int) ≤ (rc : Int) := by omega
    have e2 : k ≤ rc := by omega
    have hz : ∀ w, (Go.sizeOf 22).run Try.prog w = .ok 1 w := fun w => by kernel_rfl
    simp [Instr.slice, Instr.sliceBounds, Instr.sliceBound, run_underlying Try.underlying24, asIntOf, e1, e2, hz, Addr.add, go_sem]
  have HCR : Hid (∀ (pb po k : Nat), k ≤ P.length → ∀ X, (Instr.slice 24 (.slice (some ⟨pb, po, none⟩) P.length rc) none (some (.int .i64 (k : Int))) none).run Try.prog X = .ok (.slice (some ⟨pb, po, none⟩) k rc) X) := hcutr
  clear hv hG hcutr
  go_enter Try.func12, Try.ntmps12
  go_wp2
  go_loopw [19] (fun i wr => ∃ k : Nat, k ≤ P.length ∧ i = .int .i64 (k : Int) ∧ Below w.heap.size w wr) (fun i _ => P.length - (intOf i).toNat)
  case atStart => exact ⟨0, Nat.zero_le _, rfl, Below.refl _ _⟩
  case round =>
    obtain ⟨k, hk, rfl, hb⟩ := hrel
    by_cases hlt : k < P.length
    · obtain ⟨pb, po, pv, hro, hx⟩ := HV.out k hlt
      subst hro
      obtain ⟨c1, hcall⟩ := hx wr hb
      have HC : Hid (Calls Try.prog 16 #[.int .i64 d, pv, .slice (some ⟨pb, po, none⟩) k rc] wr fun e w' => e = .returned (.int .i64 0) ∧ Below w.heap.size w w') := hcall
      have hcr := HCR.out pb po k hk
      have hkI : (k : Int) < (P.length : Int) := by omega
      have hkI0 : (0 : Int) ≤ (k : Int) := by omega
      clear hx hcall hb HV HCR
      go_wp2_with fail
      refine HC.out.mono ?_
      rintro e w2 ⟨rfl, hb2⟩
      have HB2 : Hid (Below w.heap.size w w2) := hb2
      clear hb2 c1
      go_wp2
      go_roundw
      case rel => exact ⟨k + 1, by omega, by go_num, HB2.out⟩
      case measure => simp [intOf]; omega
    · have HB : Hid (Below w.heap.size w wr) := hb
      clear hb HV HCR
      go_wp2
      go_ret
      exact ⟨rfl, HB.out⟩

end Go.Proofs.Ytflgabcacljbjaa

/- facetref.PlanesOf: its planes may be. -/
namespace Go.Proofs.Ytflgabcacljbjaa
open Go.RowKit Lin
attribute [local go_sem ↓] Go.wp_at_zero Go.wp_at_succ

theorem pick_ne {d j : Nat} {p : List Int} (hj : j < d) (h : p.getD j 0 ≠ 0) : (pickL d [p]).length ≠ 0 := by
  intro h0
  have hg := pick_greedy d [p]
  have hn : pickL d [p] = [] := List.length_eq_zero_iff.1 h0
  rw [hn] at hg
  obtain ⟨e, l, he, hd⟩ := hg.dep (fun i => p.getD i 0) (by simp [fm])
  have := hd j hj
  have hz : comb (fm ([] : List (List Int))).length l (row (fm [])) j = 0 := by simp [fm, comb, sumN]
  rw [hz] at this
  rcases Int.mul_eq_zero.1 this with q | q
  · exact he q
  · exact h q

theorem SlN.put {B : Nat} {w : World} {b o n c : Nat} {p : List Int} (h : SlN B w (.slice (some ⟨b, o, none⟩) n c) (ints p)) {k : Nat} (hk : k < p.length) (z : Int) :
    (∃ q, w.cell? ⟨b, o + k, none⟩ = some q) ∧ w.frozen? ⟨b, o + k, none⟩ = false ∧ B ≤ b ∧ SlN B (w.setCell ⟨b, o + k, none⟩ (.int .i64 z)) (.slice (some ⟨b, o, none⟩) n c) (ints (p.set k z)) := by
  obtain ⟨⟨ao, cap, e, h1, h2, h3, h4⟩, h5⟩ := h
  have hB := h5 b o n c rfl
  simp only [Value.slice.injEq] at e
  obtain ⟨rfl, rfl, rfl⟩ := e
  obtain ⟨b', o', e', hc, ht⟩ := h3 k (by simpa using hk)
  simp only [Option.some.injEq, Addr.mk.injEq] at e'
  obtain ⟨rfl, rfl, _⟩ := e'
  obtain ⟨cur, hcur⟩ : ∃ cur, w.heap[b]? = some (.cells cur 3 (0, 0)) := by
    rcases ht with ht | ht
    · omega
    · exact ht
  have hcell : ∀ i, i < p.length → cur[o + i]? = some (.int .i64 (p.getD i 0)) := fun i hi => by
    obtain ⟨b2, o2, e2, hc2, _⟩ := h3 i (by simpa using hi)
    simp only [Option.some.injEq, Addr.mk.injEq] at e2
    obtain ⟨rfl, rfl, _⟩ := e2
    rw [ints_get _ _ hi] at hc2
    simpa [World.cell?, hcur] using hc2
  have hlt : o + k < cur.size := (Array.getElem?_eq_some_iff.1 (hcell k hk)).1
  have hset : (w.setCell ⟨b, o + k, none⟩ (.int .i64 z)).heap[b]? = some (.cells (cur.setIfInBounds (o + k) (.int .i64 z)) 3 (0, 0)) := by simp [World.setCell, Array.getElem?_modify, hcur]
  refine ⟨⟨_, by simpa [World.cell?, hcur] using hcell k hk⟩, by simp [World.frozen?, hcur], hB, ⟨some ⟨b, o, none⟩, c, by simp, by simpa using h1, h2, fun i hi => ⟨b, o, rfl, ?_, .inr ⟨_, hset⟩⟩, fun e => by cases e⟩, h5⟩
  have hi' : i < p.length := by simpa using hi
  rw [ints_get _ _ (by simpa using hi')]
  have : (w.setCell ⟨b, o + k, none⟩ (.int .i64 z)).cell? ⟨b, o + i, none⟩ = (cur.setIfInBounds (o + k) (.int .i64 z))[o + i]? := by simp [World.cell?, hset]
  rw [this]
  by_cases e : i = k
  · subst e
    simp [hlt, hi']
  · rw [Array.getElem?_setIfInBounds_ne (by omega), hcell i hi']
    simp [List.getD_eq_getElem?_getD, List.getElem?_set_ne (Ne.symm e)]

/-- As many of the first planes are others. -/
def othB (d : Nat) (p : List Int) (P : List (List Int)) (k : Nat) : Bool := (List.range k).all fun i => (pickL (d + 1) [p, P.getD i []]).length == 2

theorem othB_succ (d : Nat) (p : List Int) (P : List (List Int)) (k : Nat) : othB d p P (k + 1) = (othB d p P k && ((pickL (d + 1) [p, P.getD k []]).length == 2)) := by
  simp [othB, List.range_succ]

theorem PlG.nil (d : Nat) : PlG d [] := ⟨fun p hp => absurd hp (by simp), fun p hp => absurd hp (by simp), fun i k _ hk => absurd hk (by simp)⟩

theorem PlG.push {d : Nat} {P : List (List Int)} {p : List Int} (h : PlG d P) (hp : p.length = d + 1 ∧ ∀ z ∈ p, z.natAbs ≤ 20) (h1 : (pickL d [p]).length ≠ 0) (h2 : othB d p P P.length = true) : PlG d (P ++ [p]) := by
  refine ⟨fun q hq => ?_, fun q hq => ?_, fun i k hik hk => ?_⟩
  · rcases List.mem_append.1 hq with hq | hq
    · exact h.row q hq
    · simp only [List.mem_singleton] at hq; subst hq; exact hp
  · rcases List.mem_append.1 hq with hq | hq
    · exact h.one q hq
    · simp only [List.mem_singleton] at hq; subst hq; exact h1
  · simp only [List.length_append, List.length_cons, List.length_nil] at hk
    rw [getD_snoc, getD_snoc, if_pos (by omega : i < P.length)]
    by_cases hkl : k < P.length
    · rw [if_pos hkl]
      exact h.two i k hik hkl
    · rw [if_neg hkl, if_pos (by omega)]
      have := List.all_eq_true.1 h2 i (List.mem_range.2 (by omega))
      have e2 : (pickL (d + 1) [p, P.getD i []]).length = 2 := eq_of_beq this
      rw [e2]; decide

/-- Planes of small numbers. -/
def P3 (P : List (List Int)) : Prop := ∀ p ∈ P, ∀ z ∈ p, z.natAbs ≤ 3

set_option maxRecDepth 100000 in
set_option maxHeartbeats 3200000 in
theorem planesOf3_any (B : Nat) (l : List Int) (d many : Nat) (v : Value) (w : World) (hv : Sl B 3 w v (ints l)) (hr : ∀ z ∈ l, In64 z) (hl : l.length ≤ 1000000) (hd1 : 1 ≤ d) (hd3 : d ≤ 3) (hm : many ≤ 6) :
    Calls Try.prog 5 #[v, .int .i64 d, .int .i64 many] w fun e w' => ∃ uo uc P, e = .returned (.slice uo P.length uc) ∧ Mat 0 22 3 w' (.slice uo P.length uc) P ∧ P.length ≤ many ∧ (PlG d P ∧ P3 P) ∧ Below w.heap.size w w' := by
  obtain ⟨i0, hi0, hz0, hz1, hz2⟩ := info_parts infoSlC
  obtain ⟨vo, vc, rfl, hvc, hvm⟩ := sl_open hv
  have HP : Hid (∀ (k : Nat) (X : World), k ≤ 6 → Below w.heap.size w X → Calls Try.prog 9 #[.slice vo l.length vc, .int .i64 ((k : Int) * ((d : Int) + 1)), .int .i64 ((d : Int) + 1), .int .i64 1, .int .i64 3] X fun e w' => ∃ g gc b o c p, e = .returned (.slice (some ⟨g, 0, none⟩) 1 gc) ∧ w'.cell? ⟨g, 0, none⟩ = some (.slice (some ⟨b, o, none⟩) (d + 1) c) ∧ SlN X.heap.size w' (.slice (some ⟨b, o, none⟩) (d + 1) c) (ints p) ∧ p.length = d + 1 ∧ (∀ z ∈ p, z.natAbs ≤ 3) ∧ Below X.heap.size X w') := fun k X hk hX => by
    have e1 : (k : Int) * ((d : Int) + 1) = ((k * (d + 1) : Nat) : Int) := by simp
    have e2 : ((d : Int) + 1) = ((d + 1 : Nat) : Int) := by simp
    rw [e1, e2]
    refine (pointsOf_new B l _ (k * (d + 1)) (d + 1) 1 3 X (hv.below hX (Nat.le_refl _)) hr (by omega) ?_ (by omega) (by decide) (by decide)).mono ?_
    · have := Nat.mul_le_mul hk (show d + 1 ≤ 4 by omega)
      omega
    · rintro e w' ⟨x, m, rfl, h1, h2, ⟨vs, h3, h4, h5⟩, h6⟩
      rw [h1] at h3 h4 h5
      obtain ⟨g, gc, rfl⟩ := own_some h4 (by decide)
      match m, h1 with
      | [p], _ =>
        obtain ⟨hpl, hpb⟩ := h2 p (by simp)
        have hs := h5 0 (by decide)
        match vs, h3 with
        | [u], _ =>
          have hs : SlN X.heap.size w' u (ints p) := hs
          obtain ⟨uo, uc, hu, _, _⟩ := sl_open hs.1
          rw [hpl] at hu
          subst hu
          obtain ⟨b, o, rfl⟩ : ∃ b o, uo = some ⟨b, o, none⟩ := by
            obtain ⟨ao, cap, e1, _, _, h3, _⟩ := hs.1
            obtain ⟨b, o, e, _⟩ := h3 0 (by simp; omega)
            simp only [Value.slice.injEq] at e1
            exact ⟨b, o, e1.1.trans e⟩
          refine ⟨g, gc, b, o, uc, p, rfl, ?_, hs, hpl, fun z hz => by have := hpb z hz; omega, h6⟩
          obtain ⟨ao, cap, e1, _, _, h8, _⟩ := Sl.own (B := 0) h4
          obtain ⟨b2, o2, e2, h9, _⟩ := h8 0 (by simp)
          simp only [Value.slice.injEq] at e1
          have e3 := e1.1.trans e2
          simp only [Option.some.injEq, Addr.mk.injEq] at e3
          obtain ⟨rfl, rfl, _⟩ := e3
          simpa using h9
  have HRW : Hid (∀ (k : Nat) X, k ≤ 100 → Below w.heap.size w X → Calls Try.prog 10 #[.slice vo l.length vc, .int .i64 (k : Int)] X fun e w' => ∃ z, e = .returned (.int .i64 z) ∧ (0 ≤ z ∧ z ≤ 4611686018427387904) ∧ Below X.heap.size X w') := fun k X hk hX => raw_any B l _ k X (hv.below hX (Nat.le_refl _)) hr hl (by omega)
  have HPK : Hid (∀ (c : Int) (n : Nat) X, 1 ≤ n → n ≤ 3 → 0 ≤ c → c ≤ 4611686018427387904 → Calls Try.prog 4 #[.int .i64 c, .int .i64 (n : Int)] X fun e w' => ∃ z : Nat, e = .returned (.int .i64 (z : Int)) ∧ z < n ∧ w' = X) := fun c n X h1 h2 h3 h4 => by
    refine (pick_any c n X (by omega) (by omega) ⟨by omega, by omega⟩).mono ?_
    rintro e w' ⟨z, rfl, hz, hw⟩
    exact ⟨z.toNat, by rw [show ((z.toNat : Nat) : Int) = z by omega], by omega, hw⟩
  clear hv hr
  go_enter Try.func5, Try.ntmps5
  go_wp2
  go_loopw [7, 8] (fun x i wr => ∃ (k : Nat) (P : List (List Int)) (xo : Option Addr) (xc : Nat), k ≤ many ∧ i = .int .i64 (k : Int) ∧ P.length ≤ k ∧ (PlG d P ∧ P3 P) ∧ x = .slice xo P.length xc ∧ Fr w.heap.size 22 3 wr (.slice xo P.length xc) P ∧ Below w.heap.size w wr) (fun _ i _ => many - (intOf i).toNat)
  case atStart => exact ⟨0, [], none, 0, Nat.zero_le _, rfl, Nat.le_refl _, ⟨PlG.nil d, fun p hp => absurd hp (by simp)⟩, rfl, Fr.nil _ _ _ _, Below.refl _ _⟩
  case round =>
    obtain ⟨k, P, xo, xc, hk, rfl, hPk, hG, rfl, hfr, hb⟩ := hrel
    have HG : Hid (PlG d P) := hG.1
    have HG3 : Hid (P3 P) := hG.2
    have HB : Hid (Below w.heap.size w wr) := hb
    have HF : Hid (Fr w.heap.size 22 3 wr (.slice xo P.length xc) P) := hfr
    clear hG hb hfr
    by_cases hlt : k < many
    · obtain ⟨w0, rfl⟩ : ∃ w0, w0 = wr := ⟨wr, rfl⟩
      have hw1 : wrap64 ((k : Int) * ((d : Int) + 1)) = (k : Int) * ((d : Int) + 1) := by
        have h1 : k * (d + 1) ≤ 6 * 4 := Nat.mul_le_mul (by omega) (by omega)
        have h2 : ((k * (d + 1) : Nat) : Int) = (k : Int) * ((d : Int) + 1) := by simp
        exact IntWalk.wrap64_in _ ⟨by rw [← h2]; omega, by rw [← h2]; omega⟩
      have HW1 : Hid (wrap64 ((k : Int) * ((d : Int) + 1)) = (k : Int) * ((d : Int) + 1)) := hw1
      have hkI : (k : Int) < (many : Int) := by omega
      have HPY := HP.out k w0 (by omega) HB.out
      have HPZ : Hid (Calls Try.prog 9 #[.slice vo l.length vc, .int .i64 (wrap64 ((k : Int) * ((d : Int) + 1))), .int .i64 ((d : Int) + 1), .int .i64 1, .int .i64 3] w0 fun e w' => ∃ g gc b o c p, e = .returned (.slice (some ⟨g, 0, none⟩) 1 gc) ∧ w'.cell? ⟨g, 0, none⟩ = some (.slice (some ⟨b, o, none⟩) (d + 1) c) ∧ SlN w0.heap.size w' (.slice (some ⟨b, o, none⟩) (d + 1) c) (ints p) ∧ p.length = d + 1 ∧ (∀ z ∈ p, z.natAbs ≤ 3) ∧ Below w0.heap.size w0 w') := by rw [hw1]; exact HPY
      clear HPY hw1
      go_wp2_with fail
      refine HPZ.out.mono ?_
      rintro e w1 ⟨g, gc, b, o, c, p, rfl, hcg, hsl, hpl, hpb, hb1⟩
      have HSL : Hid (SlN w0.heap.size w1 (.slice (some ⟨b, o, none⟩) (d + 1) c) (ints p)) := hsl
      have HPP : Hid (p.length = d + 1 ∧ ∀ z ∈ p, z.natAbs ≤ 3) := ⟨hpl, hpb⟩
      have HB1 : Hid (Below w0.heap.size w0 w1) := hb1
      have HBW : Hid (∀ X, Below w0.heap.size w0 X → Below w.heap.size w X) := fun X hX => HB.out.trans (hX.mono HB.out.size)
      have hk100 : k ≤ 100 := by omega
      have hk107 : k + 7 ≤ 100 := by omega
      clear hsl hpl hpb hb1 HPZ HP
      go_wp2_with fail
      refine (HRW.out k w1 hk100 (HBW.out _ HB1.out)).mono ?_
      rintro e w2 ⟨z1, rfl, ⟨hz1a, hz1b⟩, hb2⟩
      have HB2 : Hid (Below w0.heap.size w0 w2) := HB1.out.trans (hb2.mono HB1.out.size)
      have HSL2 : Hid (SlN w0.heap.size w2 (.slice (some ⟨b, o, none⟩) (d + 1) c) (ints p)) := HSL.out.below hb2 (Nat.le_refl _)
      clear hb2 HSL hcg
      go_wp2_with fail
      refine (HPK.out z1 d w2 hd1 hd3 hz1a hz1b).mono ?_
      rintro e w3 ⟨j, rfl, hj, rfl⟩
      have HRY := HRW.out (k + 7) w3 hk107 (HBW.out _ HB2.out)
      have HRZ : Hid (Calls Try.prog 10 #[.slice vo l.length vc, .int .i64 ((k : Int) + 7)] w3 fun e w' => ∃ z, e = .returned (.int .i64 z) ∧ (0 ≤ z ∧ z ≤ 4611686018427387904) ∧ Below w3.heap.size w3 w') := HRY
      clear HRY hz1a hz1b
      go_wp2_with fail
      refine HRZ.out.mono ?_
      rintro e w4 ⟨z2, rfl, ⟨hz2a, hz2b⟩, hb4⟩
      have HB4 : Hid (Below w0.heap.size w0 w4) := HB2.out.trans (hb4.mono HB2.out.size)
      have HSL4 : Hid (SlN w0.heap.size w4 (.slice (some ⟨b, o, none⟩) (d + 1) c) (ints p)) := HSL2.out.below hb4 (Nat.le_refl _)
      clear hb4 HSL2 HRZ
      go_wp2_with fail
      refine (HPK.out z2 2 w4 (by decide) (by decide) hz2a hz2b).mono ?_
      rintro e w5 ⟨y, rfl, hy, rfl⟩
      have hjl : j < p.length := by rw [HPP.out.1]; omega
      obtain ⟨⟨qv, hq1⟩, hq2, hq3, hq4⟩ := HSL4.out.put hjl (1 + (y : Int))
      obtain ⟨P1, hP1⟩ : ∃ P1, P1 = p.set j (1 + (y : Int)) := ⟨_, rfl⟩
      rw [← hP1] at hq4
      have HPL : Hid (P1.length = d + 1 ∧ (∀ z ∈ P1, z.natAbs ≤ 3) ∧ (pickL d [P1]).length ≠ 0) := by
        refine ⟨by rw [hP1]; simp [HPP.out.1], fun z hz => ?_, pick_ne hj ?_⟩
        · rw [hP1] at hz
          rcases List.mem_or_eq_of_mem_set hz with h | h
          · have := HPP.out.2 z h; omega
          · omega
        · rw [hP1]
          simp [hjl]
          omega
      obtain ⟨w6, hw6⟩ : ∃ w6, w6 = w5.setCell ⟨b, o + j, none⟩ (.int .i64 (1 + (y : Int))) := ⟨_, rfl⟩
      rw [← hw6] at hq4
      have HW6 : Hid (w6 = w5.setCell ⟨b, o + j, none⟩ (.int .i64 (1 + (y : Int)))) := hw6
      have HS6 : Hid (SlN w0.heap.size w6 (.slice (some ⟨b, o, none⟩) (d + 1) c) (ints P1)) := hq4
      have HB6 : Hid (Below w0.heap.size w0 w6) := by
        show Below _ _ _
        rw [hw6]; exact HB4.out.setCell hq3 _
      have hyb : (y : Int) ≤ 1 := by omega
      have hjI : (j : Int) < ((d : Int) + 1) := by omega
      clear hq3 hq4 hw6 hP1 HSL4 HPP hjl hz2a hz2b
      go_wp2
      rw [← HW6.out]
      clear hq1 hq2
      go_loopw [10, 11] (fun x i wq => ∃ n : Nat, n ≤ P.length ∧ i = .int .i64 (n : Int) ∧ x = .bool (othB d P1 P n) ∧ Below w0.heap.size w0 wq ∧ SlN w0.heap.size wq (.slice (some ⟨b, o, none⟩) (d + 1) c) (ints P1)) (fun _ i _ => P.length - (intOf i).toNat)
      case atStart => exact ⟨0, Nat.zero_le _, rfl, rfl, HB6.out, HS6.out⟩
      case round =>
        obtain ⟨n, hn, rfl, rfl, hbq, hsq⟩ := hrel
        have HBQ : Hid (Below w0.heap.size w0 wr) := hbq
        have HSQ : Hid (SlN w0.heap.size wr (.slice (some ⟨b, o, none⟩) (d + 1) c) (ints P1)) := hsq
        clear hbq hsq HB6 HS6 HW6
        by_cases hnl : n < P.length
        · have HSU : Hid (othB d P1 P (n + 1) = (othB d P1 P n && ((pickL (d + 1) [P1, P.getD n []]).length == 2))) := othB_succ d P1 P n
          have hnI : (n : Int) < (P.length : Int) := by omega
          have hnI0 : (0 : Int) ≤ (n : Int) := by omega
          generalize othB d P1 P n = ob at *
          cases ob with
          | false =>
            have HSV : Hid (othB d P1 P (n + 1) = false) := by
              show _ = _
              rw [HSU.out]; rfl
            clear HSU
            go_wp2
            go_roundw
            case rel => exact ⟨n + 1, by omega, by go_num, by rw [HSV.out], HBQ.out, HSQ.out⟩
            case measure => simp [intOf]; omega
          | true =>
            obtain ⟨vs, f1, f2, f3⟩ := HF.out
            have hmat : Mat 0 22 3 w0 (.slice xo P.length xc) P := ⟨vs, f1, Sl.own f2, f3⟩
            obtain ⟨xb, xf, cap, rv, e1, _, hc1, hs1⟩ := mat_cell (hmat.below HBQ.out (Nat.le_refl _)) hnl
            simp only [Value.slice.injEq] at e1
            obtain ⟨rfl, -, -⟩ := e1
            have hrow := HG.out.row (P.getD n []) (getD_memR hnl)
            obtain ⟨ra, rca, hrv, _, _⟩ := sl_open hs1
            rw [hrow.1] at hrv
            subst hrv
            have HRK : Hid (Calls Try.prog 11 #[.slice (some ⟨wr.heap.size, 0, none⟩) 2 2] (wr.alloc (.cells #[.slice (some ⟨b, o, none⟩) (d + 1) c, .slice ra (d + 1) rca] 22)) fun e w' => e = .returned (.int .i64 ((pickL (d + 1) [P1, P.getD n []]).length : Nat)) ∧ Below wr.heap.size wr w') := by
              refine (rankR_any (d + 1) 60 0 [P1, P.getD n []] _ _ (mx_few hd1 hd3 (fun r hr => ?_)) (mat_two HSQ.out.1 hs1) (by simp)).mono ?_
              · simp only [List.mem_cons, List.not_mem_nil, or_false] at hr
                rcases hr with rfl | rfl
                · exact ⟨HPL.out.1, fun z hz => Nat.le_trans (HPL.out.2.1 z hz) (by decide)⟩
                · exact hrow
              · rintro e w' ⟨rfl, hb⟩
                exact ⟨rfl, ((Below.refl _ _).alloc (Nat.le_refl _) _).trans (hb.mono (by simp))⟩
            generalize hrk : (pickL (d + 1) [P1, P.getD n []]).length = rk at *
            have HSV : Hid (othB d P1 P (n + 1) = (rk == 2)) := by
              show _ = _
              rw [HSU.out]; rfl
            clear hrk HSU hs1 hrow f1 f2 f3 hmat
            go_wp2_with fail
            refine HRK.out.mono ?_
            rintro e w8 ⟨rfl, hb8⟩
            have HB8 : Hid (Below w0.heap.size w0 w8) := HBQ.out.trans (hb8.mono HBQ.out.size)
            have HS8 : Hid (SlN w0.heap.size w8 (.slice (some ⟨b, o, none⟩) (d + 1) c) (ints P1)) := HSQ.out.below hb8 (Nat.le_refl _)
            have HRB : Hid (((rk : Int) == 2) = (rk == 2)) := by
              show _ = _
              rw [Bool.eq_iff_iff]; simp; omega
            clear hb8 HRK hc1
            cases h2 : ((rk : Int) == 2) with
            | true =>
              have HSW : Hid (othB d P1 P (n + 1) = true) := by
                show _ = _
                rw [HSV.out, ← HRB.out, h2]
              clear HSV HRB
              go_wp2
              go_roundw
              case rel => exact ⟨n + 1, by omega, by go_num, by rw [HSW.out], HB8.out, HS8.out⟩
              case measure => simp [intOf]; omega
            | false =>
              have HSW : Hid (othB d P1 P (n + 1) = false) := by
                show _ = _
                rw [HSV.out, ← HRB.out, h2]
              clear HSV HRB
              go_wp2
              go_roundw
              case rel => exact ⟨n + 1, by omega, by go_num, by rw [HSW.out], HB8.out, HS8.out⟩
              case measure => simp [intOf]; omega
        · have hne : n = P.length := by omega
          subst hne
          obtain ⟨vs, f1, f2, f3⟩ := HF.out
          have F1 : Hid (vs.length = P.length) := f1
          have F2 : Hid (wr.ownsRow w.heap.size 22 1 (.slice xo P.length xc) P.length vs) := owns_below f2 HBQ.out (Nat.le_refl _)
          have F3 : Hid (∀ i, i < P.length → Sl 0 3 wr (vs.getD i (.slice none 0 0)) (ints (P.getD i []))) := fun i hi => (f3 i hi).below HBQ.out (Nat.le_refl _)
          have HBZ : Hid (Below w.heap.size w wr) := HBW.out _ HBQ.out
          have hszr : w.heap.size ≤ wr.heap.size := HBZ.out.size
          clear f1 f2 f3
          cases hob : othB d P1 P P.length with
          | false =>
            have HFZ : Hid (Fr w.heap.size 22 3 wr (.slice xo P.length xc) P) := ⟨vs, F1.out, F2.out, F3.out⟩
            clear hob
            go_wp2
            go_roundw
            case rel => exact ⟨k + 1, P, xo, xc, by omega, by go_num, by omega, ⟨HG.out, HG3.out⟩, rfl, HFZ.out, HBZ.out⟩
            case measure => simp [intOf]; omega
          | true =>
            have HGN : Hid (PlG d (P ++ [P1])) := HG.out.push ⟨HPL.out.1, fun z hz => Nat.le_trans (HPL.out.2.1 z hz) (by decide)⟩ HPL.out.2.2 hob
            have HG4 : Hid (P3 (P ++ [P1])) := fun p hp => by
              rcases List.mem_append.1 hp with hp | hp
              · exact HG3.out p hp
              · rw [List.mem_singleton.1 hp]; exact HPL.out.2.1
            have hpl6 : P.length ≤ 6 := by omega
            clear hob
            go_wp2_with (first | (at_builtin; refine wpList_append_own _ rfl _ _ 24 rfl w.heap.size 22 i0 (.slice none 0 0) 1 24 Try.underlying24 hi0 hz0 hz1 hz2 rfl (by decide) _ _ _ rfl (F2.out.alloc _) ⟨wr.heap.size, 0, none⟩ 1 1 [.slice (some ⟨b, o, none⟩) (d + 1) c] rfl rfl (one_new _ _ _) (one_slice _ _ _) ?d3 ?d4 ?d5 ?_))
            case d3 => unfold maxLen; omega
            case d4 => omega
            case d5 => first | exact hszr | omega | (simp; omega)
            intro v' w9 ho hg _
            have R1 : Hid (Fr w.heap.size 22 3 w9 v' (P ++ [P1])) := Fr.push (e2 := 22) (e1 := 3) (by decide) F1.out (F2.out.alloc _) (fun i hi => (F3.out i hi).alloc _) (HSQ.out.1.alloc _) ho hg
            have R2 : Hid (Below w.heap.size w w9) := (HBZ.out.alloc hszr _).grown hg (by simp; omega) (fun x hx => (F2.out.lt x hx).1)
            obtain ⟨yo, yc, hyv⟩ := owns_form ho
            subst hyv
            have hln : (P ++ [P1]).length = P.length + 1 := by simp
            have HLN : Hid ((P ++ [P1]).length = P.length + 1) := hln
            clear ho hg hln
            go_wp2
            go_roundw
            case rel => exact ⟨k + 1, P ++ [P1], yo, yc, by omega, by go_num, by rw [HLN.out]; omega, ⟨HGN.out, HG4.out⟩, by rw [HLN.out], by rw [HLN.out]; exact R1.out, R2.out⟩
            case measure => simp [intOf]; omega
    · obtain ⟨vs, f1, f2, f3⟩ := HF.out
      have HM : Hid (Mat 0 22 3 wr (.slice xo P.length xc) P) := ⟨vs, f1, Sl.own f2, f3⟩
      clear f1 f2 f3
      go_wp2
      go_ret
      exact ⟨xo, xc, P, rfl, HM.out, by omega, ⟨HG.out, HG3.out⟩, HB.out⟩

end Go.Proofs.Ytflgabcacljbjaa
