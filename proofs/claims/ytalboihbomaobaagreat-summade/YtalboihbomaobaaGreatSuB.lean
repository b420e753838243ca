import Derived.Test.YtalboihbomaobaaGreatSu0
import Derived.Test.YtalboihbomaobaaGreatHmz
import Derived.Test.YtalboihbomaobaaGreatRunB
import Derived.Test.YtalboihbomaobaaGreatRgI
import Derived.Test.YtalboihbomaobaaGreatRgA
/- The corners that a row meets: DeleteFunc by twiceArea's closure. -/
namespace Go.Proofs.YtalboihbomaobaaGreat
open Go.RowKit
attribute [local go_sem ↓] Go.wp_at_zero Go.wp_at_succ

set_option maxRecDepth 100000 in
set_option maxHeartbeats 400000 in
theorem off_any (B : Nat) (r x : List Int) (xv rv : Value) (g : Nat) (w : World) (hx : Sl B 3 w xv (ints x)) (h1 : w.cell? ⟨g, 0, none⟩ = some rv) (hr : Sl B 3 w rv (ints r)) (hl : r.length = x.length + 1) (hs : Sm (r.take x.length) x) :
    Calls Tryz.prog 46 #[xv, .pointer (some ⟨g, 0, none⟩)] w fun e w' => e = .returned (.bool (!decide (overL r x = 0))) ∧ Below w.heap.size w w' := by
  have HC1 : Hid (Calls Tryz.prog 47 #[rv, xv] w fun e w' => e = .returned (.int .i64 (agn r x)) ∧ Below w.heap.size w w') := against_any B r x rv xv w hr hx hl hs
  have HA : Hid (decide (agn r x = 0) = decide (overL r x = 0)) := by
    show _ = _
    rw [agn_over]
    by_cases h1 : 0 < overL r x
    · rw [if_pos h1]; simp; omega
    · rw [if_neg h1]
      by_cases h2 : overL r x = 0
      · rw [if_pos h2]; simp [h2]
      · rw [if_neg h2]; simp [h2]
  clear hx hr hl hs
  generalize agn r x = a at *
  go_enter Tryz.func46, Tryz.ntmps46
  go_wp2_with fail
  refine HC1.out.mono ?_
  rintro e w1 ⟨rfl, hb1⟩
  have HB1 : Hid (Below w.heap.size w w1) := hb1
  clear hb1 HC1 h1
  go_wp2
  go_ret
  refine ⟨?_, HB1.out⟩
  rw [← HA.out]
  by_cases ha : a = 0 <;> simp [ha]

set_option maxRecDepth 100000 in
set_option maxHeartbeats 800000 in
theorem idxA_any (B : Nat) (f : List Int → Bool) (m : List (List Int)) (v : Value) (p1 : Addr) (w : World) (hv : Mat B 22 3 w v m) (hBw : B ≤ w.heap.size)
    (hc : ∀ r ∈ m, ∀ (W : World) (rv : Value), Below B w W → Sl B 3 W rv (ints r) → Calls Tryz.prog 46 #[rv, .pointer (some p1)] W fun e w' => e = .returned (.bool (f r)) ∧ Below W.heap.size W w') :
    Calls Tryz.prog 70 #[v, .func (.func 46) #[] #[.pointer (some p1)]] w fun e w' => (∃ z, e = .returned (.int .i64 z) ∧ ((z = -1 ∧ m.any f = false) ∨ ∃ k : Nat, z = k ∧ k < m.length ∧ (m.take k).any f = false ∧ f (m.getD k []) = true)) ∧ Below w.heap.size w w' := by
  obtain ⟨ao, cap, hvv, hlc, hcm⟩ := mat_open hv
  subst hvv
  have HV : Hid (Mat B 22 3 w (.slice ao m.length cap) m) := hv
  have HC : Hid (∀ r ∈ m, ∀ (W : World) (rv : Value), Below w.heap.size w W → Sl B 3 W rv (ints r) → Calls Tryz.prog 46 #[rv, .pointer (some p1)] W fun e w' => e = .returned (.bool (f r)) ∧ Below w.heap.size w w') := fun r hr W rv hW hs => (hc r hr W rv (hW.mono hBw) hs).mono fun e w' h => ⟨h.1, hW.trans (h.2.mono hW.size)⟩
  clear hv hc hBw
  go_enter Tryz.func70, Tryz.ntmps70
  go_wp2
  go_loopw [8] (fun i wr => ∃ k : Nat, k ≤ m.length ∧ i = .int .i64 k ∧ (m.take k).any f = false ∧ Below w.heap.size w wr) (fun i _ => m.length - (intOf i).toNat)
  case atStart => exact ⟨0, Nat.zero_le _, rfl, by simp, Below.refl _ _⟩
  case round =>
    obtain ⟨k, hk, rfl, hno, hb⟩ := hrel
    have HN : Hid ((m.take k).any f = false) := hno
    have HB : Hid (Below w.heap.size w wr) := hb
    clear hno hb
    by_cases hlt : k < m.length
    · obtain ⟨b1, o, cp, r1, hs, hc1, hcc, hr1⟩ := mat_cell (HV.out.below HB.out (Nat.le_refl _)) hlt
      simp only [Value.slice.injEq] at hs
      obtain ⟨rfl, hxx, rfl⟩ := hs
      clear hxx
      have HS1 : Hid ((m.take (k + 1)).any f = f (m.getD k [])) := anyR_snoc (p := f) hlt HN.out
      have HME : Hid (m.getD k [] ∈ m) := by
        show _ ∈ _
        simp [hlt]
      have HCA : Hid (Calls Tryz.prog 46 #[r1, .pointer (some p1)] wr fun e w' => e = .returned (.bool (f (m.getD k []))) ∧ Below w.heap.size w w') := HC.out _ HME.out wr r1 HB.out hr1
      clear hr1
      obtain ⟨x, hx⟩ : ∃ x, x = m.getD k [] := ⟨_, rfl⟩
      have HX : Hid (x = m.getD k []) := hx
      rw [← hx] at HS1 HME HCA
      clear hx
      obtain ⟨fb, hfb⟩ : ∃ fb, fb = f x := ⟨_, rfl⟩
      have HFB : Hid (fb = f x) := hfb
      rw [← hfb] at HCA
      clear hfb
      go_wp2_with fail
      refine HCA.out.mono ?_
      rintro e w2 ⟨rfl, hb2⟩
      have HB2 : Hid (Below w.heap.size w w2) := hb2
      clear hb2 HCA
      cases hf : fb
      · have HF : Hid (f x = false) := by rw [← hf]; exact HFB.out.symm
        clear hf
        go_wp2
        go_roundw
        case rel => exact ⟨k + 1, by omega, by go_num, by rw [HS1.out]; exact HF.out, HB2.out⟩
        case measure => simp [intOf]; omega
      · have HF : Hid (f x = true) := by rw [← hf]; exact HFB.out.symm
        clear hf
        go_wp2
        go_ret
        exact ⟨⟨_, rfl, Or.inr ⟨k, rfl, hlt, HN.out, by rw [← HX.out]; exact HF.out⟩⟩, HB2.out⟩
    · have HTK : Hid (m.take k = m) := List.take_of_length_le (by omega)
      go_wp2
      go_ret
      exact ⟨⟨-1, rfl, Or.inl ⟨rfl, by rw [← HTK.out, HN.out]⟩⟩, HB.out⟩

set_option maxRecDepth 100000 in
set_option maxHeartbeats 1600000 in
theorem deleteA_any (B : Nat) (f : List Int → Bool) (m : List (List Int)) (v : Value) (p1 : Addr) (w : World) (hv : Fr B 22 3 w v m) (hBw : B ≤ w.heap.size) (hml : m.length ≤ 1000000)
    (hc : ∀ r ∈ m, ∀ (W : World) (rv : Value), Below B w W → Sl B 3 W rv (ints r) → Calls Tryz.prog 46 #[rv, .pointer (some p1)] W fun e w' => e = .returned (.bool (f r)) ∧ Below W.heap.size W w') :
    Calls Tryz.prog 48 #[v, .func (.func 46) #[] #[.pointer (some p1)]] w fun e w' => ∃ u, e = .returned u ∧ Fr B 22 3 w' u (m.filter fun r => !f r) ∧ Below B w w' := by
  have HI : Hid (Calls Tryz.prog 70 #[v, .func (.func 46) #[] #[.pointer (some p1)]] w fun e w' => (∃ z, e = .returned (.int .i64 z) ∧ ((z = -1 ∧ m.any f = false) ∨ ∃ k : Nat, z = k ∧ k < m.length ∧ (m.take k).any f = false ∧ f (m.getD k []) = true)) ∧ Below w.heap.size w w') := idxA_any B f m v p1 w (hv.rws.mat (Nat.le_refl _)) hBw hc
  obtain ⟨ao, cap, hvv, hlc, hcm⟩ := mat_open (hv.rws.mat (Nat.le_refl _))
  subst hvv
  have HV : Hid (Fr B 22 3 w (.slice ao m.length cap) m) := hv
  have HC : Hid (∀ r ∈ m, ∀ (W : World) (rv : Value), Below B w W → Sl B 3 W rv (ints r) → Calls Tryz.prog 46 #[rv, .pointer (some p1)] W fun e w' => e = .returned (.bool (f r)) ∧ Below W.heap.size W w') := hc
  have HBW : Hid (B ≤ w.heap.size) := hBw
  clear hv hc hBw
  go_enter Tryz.func48, Tryz.ntmps48
  go_wp2_with fail
  refine HI.out.mono ?_
  rintro e w1 ⟨⟨z, rfl, hz⟩, hb⟩
  have HB1 : Hid (Below w.heap.size w w1) := hb
  clear hb HI
  rcases hz with ⟨rfl, hno⟩ | ⟨k, rfl, hk, hno, hyes⟩
  · have HFI : Hid ((m.filter fun r => !f r) = m) := by
      show _ = _
      rw [List.filter_eq_self]
      intro r hr
      have := List.any_eq_false.1 hno r hr
      simpa using this
    clear hno
    go_wp2
    go_ret
    exact ⟨_, rfl, by rw [HFI.out]; exact HV.out.below HB1.out (Nat.le_refl _), HB1.out.mono HBW.out⟩
  · obtain ⟨g, cap2, F, hvv, hBg, hc1, hc2, hrow, hin⟩ := (HV.out.below HB1.out (Nat.le_refl _)).rowZ (by omega)
    simp only [Value.slice.injEq] at hvv
    obtain ⟨rfl, hxx, rfl⟩ := hvv
    clear hxx
    have HDM : Hid (DmZ B w g cap m f (k + 1) k F w1) := by
      have hft : ((m.take k).filter fun r => !f r) = m.take k := by
        rw [List.filter_eq_self]
        intro r hr
        have := List.any_eq_false.1 hno r hr
        simpa using this
      have e := filt_snoc (f := f) hk
      rw [if_pos hyes, List.append_nil, hft] at e
      refine ⟨hrow, by rw [e, List.length_take]; omega, fun i hi => ?_, fun i h1 h2 => hin i h2, by omega, HB1.out.mono HBW.out, hBg⟩
      rw [e]
      have e2 : (m.take k).getD i [] = m.getD i [] := by
        simp only [List.getD_eq_getElem?_getD]; rw [List.getElem?_take_of_lt hi]
      rw [e2]
      exact hin i (by omega)
    clear hrow hin hno hyes
    have tk : ((k : Int) == -1) = false := by simp
    go_wp2
    go_loopw [5, 6, 7] (fun x1 x2 _ wr => ∃ (j c : Nat) (F : Nat → Value), j ≤ m.length ∧ x2 = .int .i64 j ∧ x1 = .int .i64 c ∧ DmZ B w g cap m f j c F wr) (fun _ x2 _ _ => m.length - (intOf x2).toNat)
    case atStart => exact ⟨k + 1, k, F, by omega, by go_num, rfl, HDM.out⟩
    case round =>
      obtain ⟨j, c, F2, hj, rfl, rfl, hdm⟩ := hrel
      have HD : Hid (DmZ B w g cap m f j c F2 wr) := hdm
      have hclt := hdm.lt
      by_cases hjn : j < m.length
      · have d1 := hdm.row.cell (i := j) (by omega)
        have HRJ : Hid (Sl 0 3 wr (F2 j) (ints (m.getD j []))) := hdm.rest j (Nat.le_refl _) hjn
        obtain ⟨xo, xc, hfx, _, _⟩ := sl_open HRJ.out
        obtain ⟨xl, hxl⟩ : ∃ xl, xl = (m.getD j []).length := ⟨_, rfl⟩
        rw [← hxl] at hfx
        clear hxl
        have HFX : Hid (F2 j = .slice xo xl xc) := hfx
        have HCA : Hid (Calls Tryz.prog 46 #[F2 j, .pointer (some p1)] wr fun e w' => e = .returned (.bool (f (m.getD j []))) ∧ Below wr.heap.size wr w') := HC.out _ (by simp [hjn]) wr _ HD.out.bel (HRJ.out.more (Nat.zero_le _))
        rw [hfx] at d1 HCA
        obtain ⟨fb, hfb⟩ : ∃ fb, fb = f (m.getD j []) := ⟨_, rfl⟩
        have HFB : Hid (fb = f (m.getD j [])) := hfb
        rw [← hfb] at HCA
        clear hfb hfx hdm
        have hjI : (j : Int) < (m.length : Int) := by omega
        go_wp2_with fail
        refine HCA.out.mono ?_
        rintro e w2 ⟨rfl, hb2⟩
        have HD2 : Hid (DmZ B w g cap m f j c F2 w2) := HD.out.below hb2
        clear hb2 HCA d1
        cases hf : fb
        · have HNX : Hid (DmZ B w g cap m f (j + 1) (c + 1) (fun i => if i = c then .slice xo xl xc else F2 i) (w2.setCell ⟨g, c, none⟩ (.slice xo xl xc))) := by
            have h := HD2.out.next hjn (by rw [← HFB.out]; exact hf)
            rw [HFX.out] at h
            exact h
          have d3 := HD2.out.row.cell (i := c) (by omega)
          have d4 := HD2.out.row.frozen c
          generalize F2 c = fc at d3
          have hcI : (c : Int) < (m.length : Int) := by omega
          clear hf
          go_wp2
          go_roundw
          case rel => exact ⟨j + 1, c + 1, _, by omega, by go_num, by go_num, HNX.out⟩
          case measure => simp [intOf]; omega
        · have HSK : Hid (DmZ B w g cap m f (j + 1) c F2 w2) := HD2.out.skip hjn (by rw [← HFB.out]; exact hf)
          clear hf
          go_wp2
          go_roundw
          case rel => exact ⟨j + 1, c, F2, by omega, by go_num, rfl, HSK.out⟩
          case measure => simp [intOf]; omega
      · have hje : j = m.length := by omega
        have HFN : Hid (Fr B 22 3 (wr.setCells g c (List.replicate (m.length - c) (.slice none 0 0))) (.slice (some ⟨g, 0, none⟩) c cap) (m.filter fun r => !f r) ∧ Below B w (wr.setCells g c (List.replicate (m.length - c) (.slice none 0 0)))) := HD.out.fin hje hc1 hc2
        have hclr : ∀ ty, (Builtin.clear_ #[25] ty #[.slice (some ⟨g, c, none⟩) (m.length - c) (cap - c)]).run Tryz.prog wr = .ok (.tuple #[]) (wr.setCells g c (List.replicate (m.length - c) (.slice none 0 0))) :=
          fun ty => Lib.run_clear_slice wr 25 22 ty (.slice none 0 0) Tryz.underlying25 Tryz.zero22 rfl rfl g c (m.length - c) (cap - c) (by omega) (fun q hq => by rw [hdm.row.cell (by omega)]; rfl) (fun q hq => hdm.row.frozen _)
        have hcI : (c : Int) ≤ (m.length : Int) := by omega
        have hcI0 : (0 : Int) ≤ (c : Int) := by omega
        have hcc : c < cap := by omega
        have hcm2 : c ≤ m.length := by omega
        have hcc2 : c ≤ cap := by omega
        have hjI : decide ((j : Int) < (m.length : Int)) = false := by simp; omega
        clear hdm hje
        go_wp2
        go_ret
        exact ⟨_, rfl, HFN.out.1, HFN.out.2⟩

end Go.Proofs.YtalboihbomaobaaGreat

/- sum.twiceArea. -/
namespace Go.Proofs.YtalboihbomaobaaGreat
open Go.RowKit Lin
attribute [local go_sem ↓] Go.wp_at_zero Go.wp_at_succ

theorem fr_mat0S {B : Nat} {w : World} {v : Value} {m : List (List Int)} (h : Fr B 22 3 w v m) : Mat 0 22 3 w v m := by
  obtain ⟨vs, h1, h2, h3⟩ := h
  exact ⟨vs, h1, Sl.own h2, h3⟩

theorem srC_of {d : Nat} {P P' rows : List (List Int)} (hg : Good d P) (hP : Inor P' P) (hr : Inw rows (rowsC P' [] d P')) : SrC d P rows (P'.filter fun x => !twin rows P' x) := by
  have hm : ∀ r, r ∈ rows ↔ r ∈ rowsD P d := fun r => by
    rw [hr.mem r, mem_rowsD]
    exact rows_same hg hP.mem r
  refine ⟨hg, hr.asc, hm, List.Pairwise.filter _ hP.asc, fun y => ?_⟩
  unfold crn
  rw [List.mem_filter, List.mem_filter, hP.mem y]
  refine and_congr_right fun hy => ?_
  have hrl : ∀ r ∈ rows, r.length = d + 1 := fun r hr' => (rowsC_fit hg.box hg.d1 (by have := hg.d4; omega) hP.mem ((hr.mem r).1 hr')).len
  have h1 := twin_iff (d := d) (m := rows) (P := P') (x := y) hrl (fun z hz => (hg.box z ((hP.mem z).1 hz)).1) (hg.box y hy).1
  have h2 := corner_iff hg hP.mem hy
  have h3 := corner_rank hg hP.mem hm hy
  simp only [Bool.not_eq_true', decide_eq_true_eq]
  rw [h1, h3, ← h2]
  constructor
  · intro h z hz hne
    obtain ⟨r, hr1, hr2⟩ := h z ((hP.mem z).2 hz) hne
    exact ⟨r, (hr.mem r).1 hr1, hr2⟩
  · intro h z hz hne
    obtain ⟨r, hr1, hr2⟩ := h z ((hP.mem z).1 hz) hne
    exact ⟨r, (hr.mem r).2 hr1, hr2⟩

theorem wrapC_any (d : Nat) (P : List (List Int)) (v : Value) (w : World) (hv : Mat w.heap.size 22 3 w v P) (hg : Good d P) :
    Calls Tryz.prog 25 #[v] w fun e w' => ∃ (co : Option Addr) (cc : Nat) (s C : List (List Int)), e = .returned (.slice co C.length cc) ∧ SrC d P s C ∧ Fr w.heap.size 22 3 w' (.slice co C.length cc) C ∧ Below w.heap.size w w' := by
  refine (wrapCorners_any d P v w hv hg).mono ?_
  rintro e w' ⟨u, P', rows, rfl, hf, h1, h2, hb⟩
  obtain ⟨co, cc, rfl, _, _⟩ := mat_open (fr_mat0S hf)
  exact ⟨co, cc, rows, _, rfl, srC_of hg h1 h2, hf, hb⟩

theorem wrapR_any (d : Nat) (P : List (List Int)) (v : Value) (w : World) (hv : Mat w.heap.size 22 3 w v P) (hg : Good d P) :
    Calls Tryz.prog 45 #[v] w fun e w' => ∃ (co : Option Addr) (cc : Nat) (s C : List (List Int)), e = .returned (.slice co s.length cc) ∧ SrC d P s C ∧ Fr w.heap.size 22 3 w' (.slice co s.length cc) s ∧ Below w.heap.size w w' := by
  refine (wrapRows_any d P v w hv hg).mono ?_
  rintro e w' ⟨u, P', rows, rfl, hf, h1, h2, hb⟩
  obtain ⟨co, cc, rfl, _, _⟩ := mat_open (fr_mat0S hf)
  exact ⟨co, cc, rows, _, rfl, srC_of hg h1 h2, hf, hb⟩

theorem heap_new (w : World) (o : Obj) : (w.alloc o).heap[w.heap.size]? = some o := by
  show (w.heap.push o)[w.heap.size]? = some o
  simp

theorem sl_three (w : World) (x y z : Value) : Sl 0 22 (w.alloc (.cells #[x, y, z] 22)) (.slice (some ⟨w.heap.size, 0, none⟩) 3 3) [x, y, z] := by
  refine ⟨some ⟨w.heap.size, 0, none⟩, 3, rfl, by simp, by simp [maxLen], fun i hi => ⟨w.heap.size, 0, rfl, ?_, Or.inr ⟨#[x, y, z], heap_new _ _⟩⟩, by simp⟩
  have : i = 0 ∨ i = 1 ∨ i = 2 := by simp at hi; omega
  rcases this with rfl | rfl | rfl <;> simp

theorem mat_three {w : World} {x y z : Value} {a b c : List Int} (hx : Sl 0 3 w x (ints a)) (hy : Sl 0 3 w y (ints b)) (hz : Sl 0 3 w z (ints c)) : Mat 0 22 3 (w.alloc (.cells #[x, y, z] 22)) (.slice (some ⟨w.heap.size, 0, none⟩) 3 3) [a, b, c] := by
  have hb : Below w.heap.size w (w.alloc (.cells #[x, y, z] 22)) := alloc_keep _ _
  refine ⟨[x, y, z], rfl, sl_three w x y z, fun i hi => ?_⟩
  have : i = 0 ∨ i = 1 ∨ i = 2 := by simp at hi; omega
  rcases this with rfl | rfl | rfl
  · exact hx.below hb (Nat.le_refl _)
  · exact hy.below hb (Nat.le_refl _)
  · exact hz.below hb (Nat.le_refl _)

/-- The triangle over a row. -/
def m3 (C : List (List Int)) (r : List Int) : List (List Int) := [C.getD 0 [], (endL C r).getD 0 [], (endL C r).getD 1 []]

set_option maxRecDepth 100000 in
set_option maxHeartbeats 3200000 in
theorem twice_any (P : List (List Int)) (v : Value) (w : World) (hv : Mat w.heap.size 22 3 w v P) (hg : Good 2 P) (hn : P.length ≤ 64) :
    Calls Tryz.prog 27 #[v] w fun e w' => ∃ s C, e = .returned (.int .i64 (arS C s)) ∧ SrC 2 P s C ∧ Below w.heap.size w w' := by
  obtain ⟨po, pc, rfl, _, _⟩ := mat_open hv
  have HM : Hid (∀ X, Below w.heap.size w X → Mat X.heap.size 22 3 X (.slice po P.length pc) P) := fun X h => (hv.below h (Nat.le_refl _)).any (Nat.le_refl _)
  have HG : Hid (Good 2 P) := hg
  have K1 : Hid (Calls Tryz.prog 25 #[.slice po P.length pc] w fun e w' => ∃ (co : Option Addr) (cc : Nat) (s C : List (List Int)), e = .returned (.slice co C.length cc) ∧ (SrC 2 P s C ∧ Fr w.heap.size 22 3 w' (.slice co C.length cc) C ∧ Below w.heap.size w w')) := (wrapC_any 2 P _ w (HM.out w (Below.refl _ _)) hg).mono fun e w' ⟨co, cc, s, C, e1, e2⟩ => ⟨co, cc, s, C, e1, e2⟩
  have K2 : Hid (∀ X, Below w.heap.size w X → Calls Tryz.prog 45 #[.slice po P.length pc] X fun e w' => ∃ (co : Option Addr) (cc : Nat) (s C : List (List Int)), e = .returned (.slice co s.length cc) ∧ (SrC 2 P s C ∧ Fr X.heap.size 22 3 w' (.slice co s.length cc) s ∧ Below X.heap.size X w')) := fun X h => (wrapR_any 2 P _ X (HM.out X h) hg).mono fun e w' ⟨co, cc, s, C, e1, e2⟩ => ⟨co, cc, s, C, e1, e2⟩
  clear hv hg HM
  go_enter Tryz.func27, Tryz.ntmps27
  go_wp2_with fail
  refine K1.out.mono ?_
  rintro e w1 ⟨co, cc, s1, C, rfl, hS1, hf1, hb1⟩
  have HK2 := K2.out w1 hb1
  have HM1 : Hid (∀ X, Below w1.heap.size w1 X → Mat 0 22 3 X (.slice co C.length cc) C) := fun X h => (fr_mat0S hf1).below h (Nat.le_refl _)
  have HB1 : Hid (Below w.heap.size w w1) := hb1
  have HS1 : Hid (SrC 2 P s1 C) := hS1
  clear K1 K2 hf1 hb1 hS1
  go_wp2_with fail
  refine HK2.mono ?_
  rintro e w2 ⟨ro, rc, s, C2, rfl, hS2, hf2, hb2⟩
  have hS : SrC 2 P s C := by
    obtain ⟨e1, e2⟩ := HS1.out.other hS2 (fun _ => Iff.rfl)
    rw [e1]
    exact HS1.out
  have HS : Hid (SrC 2 P s C) := hS
  have HM2 : Hid (∀ X, Below w2.heap.size w2 X → Mat 0 22 3 X (.slice ro s.length rc) s) := fun X h => (fr_mat0S hf2).below h (Nat.le_refl _)
  have HC2 : Hid (∀ X, Below w2.heap.size w2 X → Mat 0 22 3 X (.slice co C.length cc) C) := fun X h => (HM1.out _ hb2).below h (Nat.le_refl _)
  have HB2 : Hid (Below w.heap.size w w2) := HB1.out.trans (hb2.mono HB1.out.size)
  have hsl : s.length ≤ 16777216 := hS.many hn
  have HAB : Hid (∀ k, k ≤ s.length → 0 ≤ arS C (s.take k) ∧ arS C (s.take k) ≤ 7200 * k) := hS.arSB
  have hC2 : 2 ≤ C.length := hS.cgood.n2
  have HCB : Hid (Box 2 30 C) := hS.cgood.box
  have K3 : Hid (∀ r ∈ s, ∀ X (g : Nat) (rv : Value), X.cell? ⟨g, 0, none⟩ = some rv → Sl X.heap.size 3 X rv (ints r) → Below w2.heap.size w2 X → Calls Tryz.prog 49 #[.slice co C.length cc] X fun e w' => ∃ u, e = .returned u ∧ (Below X.heap.size X w' ∧ Calls Tryz.prog 48 #[u, .func (.func 46) #[] #[.pointer (some ⟨g, 0, none⟩)]] w' fun e w'' => ∃ (eo : Option Addr) (ec : Nat), e = .returned (.slice eo (endL C r).length ec) ∧ (Mat 0 22 3 w'' (.slice eo (endL C r).length ec) (endL C r) ∧ Below X.heap.size X w''))) := fun r hr X g rv hc hrv hX => by
    have hrow := rowsD_facts hS.good.box (by decide) (by decide) r ((hS.rows r).1 hr)
    refine (cloneZ_any C _ X (HC2.out X hX) (by have := hS.cgood.n24; omega)).mono ?_
    rintro e w' ⟨u, rfl, hu, hb⟩
    refine ⟨u, rfl, hb, ?_⟩
    refine (deleteA_any X.heap.size (fun x => !decide (overL r x = 0)) C u ⟨g, 0, none⟩ w' hu hb.size (by have := hS.cgood.n24; omega) fun x hx W xv hW hxv => ?_).mono ?_
    · have hXW : Below X.heap.size X W := hb.trans hW
      have h1 := sm_of hrow (by decide) (HCB.out x hx).1 (box_small HCB.out hx)
      exact off_any X.heap.size r x xv rv g W hxv ((hXW.cell (lt_of_cell hc)).trans hc) (hrv.below hXW (Nat.le_refl _)) h1.1 h1.2
    · rintro e w'' ⟨u2, rfl, hf, hb3⟩
      have hff : (C.filter fun x => !(!decide (overL r x = 0))) = endL C r := by
        unfold endL
        congr 1
        funext x
        simp
      rw [hff] at hf
      obtain ⟨eo, ec, rfl, _, _⟩ := mat_open (fr_mat0S hf)
      exact ⟨eo, ec, rfl, fr_mat0S hf, hb.trans hb3⟩
  have HEN : Hid (∀ r ∈ s, 2 ≤ (endL C r).length) := fun r hr => hS.ends hr
  have HEB : Hid (∀ r ∈ s, ∀ y ∈ endL C r, y.length = 2) := fun r hr y hy => (HCB.out y (List.mem_filter.1 hy).1).1
  have K4 : Hid (∀ r ∈ s, ∀ X (o : Option Addr) (c : Nat), Mat X.heap.size 22 3 X (.slice o 3 c) (m3 C r) → Calls Tryz.prog 51 #[.slice o 3 c] X fun e w' => ∃ xo xl xc, e = .returned (.slice xo xl xc) ∧ (Mat w'.heap.size 22 3 w' (.slice xo xl xc) (diffL (m3 C r)) ∧ Below X.heap.size X w')) := fun r hr X o c hM => by
    have hbx := hS.three hr
    refine (differences_any X.heap.size 2 (m3 C r) _ X hM (by simp [m3]) (by simp [m3]) (by decide) (by decide) (fun y hy => (hbx y hy).1) (fun y hy z hz => by have := (hbx y hy).2 z hz; omega)).mono ?_
    rintro e w' ⟨x, rfl, hx, hb⟩
    have hM := hx.mat (B' := w'.heap.size) hb.size
    obtain ⟨xo, xc, rfl, _, _⟩ := mat_open hM
    exact ⟨xo, _, xc, rfl, hM, hb⟩
  have K5 : Hid (∀ r ∈ s, ∀ X u, Mat X.heap.size 22 3 X u (diffL (m3 C r)) → Calls Tryz.prog 50 #[u] X fun e w' => e = .returned (.int .i64 (detL (diffL (m3 C r)))) ∧ Below X.heap.size X w') := fun r hr X u hu => by
    have hd := diff_sqS (hS.three hr) rfl
    exact detP_any X.heap.size (diffL (m3 C r)) u X hd.1 hu (by simp [m3, diffL])
  have HDB : Hid (∀ r ∈ s, (detL (diffL (m3 C r))).natAbs ≤ 7200) := fun r hr => (diff_sqS (hS.three hr) rfl).2.2
  clear hS hS2 hf2 hb2 HK2 HM1 HB1 HS1 HG
  go_wp2
  go_loopw [4, 15] (fun x i wr => ∃ k : Nat, k ≤ s.length ∧ i = .int .i64 (k : Int) ∧ x = .int .i64 (arS C (s.take k)) ∧ Below w2.heap.size w2 wr) (fun _ i _ => s.length - (intOf i).toNat)
  case atStart => exact ⟨0, Nat.zero_le _, rfl, rfl, Below.refl _ _⟩
  case round =>
    obtain ⟨k, hk, rfl, rfl, hbr⟩ := hrel
    have HBR : Hid (Below w2.heap.size w2 wr) := hbr
    by_cases hlt : k < s.length
    · obtain ⟨rb, rf, cp, rv, hs, _, hcc, hrv⟩ := mat_cell (HM2.out wr hbr) hlt
      simp only [Value.slice.injEq] at hs
      obtain ⟨rfl, hxx, rfl⟩ := hs
      clear hxx
      have hmem : s.getD k [] ∈ s := by simp [hlt]
      have HSN : Hid (arS C (s.take (k + 1)) = arS C (s.take k) + arR C (s.getD k [])) := arS_snoc hlt
      have HAR : Hid (arR C (s.getD k []) = ((detL (diffL (m3 C (s.getD k [])))).natAbs : Int)) := rfl
      have hab := HAB.out k hk
      have hdb := HDB.out _ hmem
      have HK3 : Hid (∀ X (g : Nat) (rv : Value), X.cell? ⟨g, 0, none⟩ = some rv → Sl X.heap.size 3 X rv (ints (s.getD k [])) → Below w2.heap.size w2 X → Calls Tryz.prog 49 #[.slice co C.length cc] X fun e w' => ∃ u, e = .returned u ∧ (Below X.heap.size X w' ∧ Calls Tryz.prog 48 #[u, .func (.func 46) #[] #[.pointer (some ⟨g, 0, none⟩)]] w' fun e w'' => ∃ (eo : Option Addr) (ec : Nat), e = .returned (.slice eo (endL C (s.getD k [])).length ec) ∧ (Mat 0 22 3 w'' (.slice eo (endL C (s.getD k [])).length ec) (endL C (s.getD k [])) ∧ Below X.heap.size X w''))) := K3.out _ hmem
      have HK4 : Hid (∀ X (o : Option Addr) (c : Nat), Mat X.heap.size 22 3 X (.slice o 3 c) (m3 C (s.getD k [])) → Calls Tryz.prog 51 #[.slice o 3 c] X fun e w' => ∃ xo xl xc, e = .returned (.slice xo xl xc) ∧ (Mat w'.heap.size 22 3 w' (.slice xo xl xc) (diffL (m3 C (s.getD k []))) ∧ Below X.heap.size X w')) := K4.out _ hmem
      have HK5 : Hid (∀ X u, Mat X.heap.size 22 3 X u (diffL (m3 C (s.getD k []))) → Calls Tryz.prog 50 #[u] X fun e w' => e = .returned (.int .i64 (detL (diffL (m3 C (s.getD k []))))) ∧ Below X.heap.size X w') := K5.out _ hmem
      have HE2 : Hid (2 ≤ (endL C (s.getD k [])).length) := HEN.out _ hmem
      have HEL : Hid (∀ y ∈ endL C (s.getD k []), y.length = 2) := HEB.out _ hmem
      obtain ⟨qa, qc, hqe, _, _⟩ := sl_open hrv
      obtain ⟨rl, hrl⟩ : ∃ rl, rl = (s.getD k []).length := ⟨_, rfl⟩
      rw [← hrl] at hqe
      subst hqe
      have HRV : Hid (Sl 0 3 wr (.slice qa rl qc) (ints (s.getD k []))) := hrv
      clear hrv hbr hmem hrl
      generalize s.getD k [] = r at *
      generalize arS C (s.take k) = T at *
      have hkI : (k : Int) < (s.length : Int) := by omega
      obtain ⟨W, hW⟩ : ∃ W, W = wr.alloc (.cells #[.slice qa rl qc] 22) := ⟨_, rfl⟩
      have hbW : Below wr.heap.size wr W := by rw [hW]; exact alloc_keep _ _
      have HBW : Hid (Below w2.heap.size w2 W) := HBR.out.trans (hbW.mono HBR.out.size)
      have kW : W.cell? ⟨wr.heap.size, 0, none⟩ = some (.slice qa rl qc) := by rw [hW]; simp
      have HKC := HK3.out W wr.heap.size _ kW (((HRV.out.below hbW (Nat.le_refl _)).more (Nat.zero_le _))) HBW.out
      clear HK3 hbW kW
      go_wp2_with fail
      rw [← hW]
      clear hW
      refine HKC.mono ?_
      rintro e w3 ⟨u3, rfl, hb3, HKD⟩
      clear hb3 HKC
      go_wp2_with fail
      refine HKD.mono ?_
      rintro e w4 ⟨eo, ec, rfl, hMe, hb4⟩
      have HB4 : Hid (Below w2.heap.size w2 w4) := HBW.out.trans (hb4.mono HBW.out.size)
      have he2 := HE2.out
      obtain ⟨eb, ef, ecp, e0, hse, _, hce0, hse0⟩ := mat_cell hMe (k := 0) (by omega)
      simp only [Value.slice.injEq] at hse
      obtain ⟨rfl, hxx, rfl⟩ := hse
      obtain ⟨eb', ef', ecp', e1, hse', _, hce1, hse1⟩ := mat_cell hMe (k := 1) (by omega)
      simp only [Value.slice.injEq, Option.some.injEq, Addr.mk.injEq, and_true, true_and] at hse'
      obtain ⟨⟨rfl, rfl⟩, rfl⟩ := hse'
      obtain ⟨cb, cf, ccp, c0, hsc, _, hcc0, hsc0⟩ := mat_cell (HC2.out w4 HB4.out) (k := 0) (by omega)
      simp only [Value.slice.injEq] at hsc
      obtain ⟨rfl, hxx2, rfl⟩ := hsc
      obtain ⟨xo, xc, hxe, _, _⟩ := sl_open hsc0
      obtain ⟨yo, yc, hye, _, _⟩ := sl_open hse0
      obtain ⟨zo, zc, hze, _, _⟩ := sl_open hse1
      have HX0 : Hid (Sl 0 3 w4 c0 (ints (C.getD 0 [])) ∧ Sl 0 3 w4 e0 (ints ((endL C r).getD 0 [])) ∧ Sl 0 3 w4 e1 (ints ((endL C r).getD 1 []))) := ⟨hsc0, hse0, hse1⟩
      generalize (C.getD 0 []).length = xl at hxe
      generalize ((endL C r).getD 0 []).length = yl at hye
      generalize ((endL C r).getD 1 []).length = zl at hze
      subst hxe hye hze
      have HCS : Hid (∀ X, Below w4.heap.size w4 X → X.cell? ⟨cb, cf, none⟩ = some (.slice xo xl xc) ∧ X.cell? ⟨eb, ef, none⟩ = some (.slice yo yl yc) ∧ X.cell? ⟨eb, ef + 1, none⟩ = some (.slice zo zl zc)) := fun X hX => ⟨(hX.cell (lt_of_cell hcc0)).trans hcc0, (hX.cell (lt_of_cell hce0)).trans hce0, (hX.cell (lt_of_cell hce1)).trans hce1⟩
      obtain ⟨el, hel⟩ : ∃ el, el = (endL C r).length := ⟨_, rfl⟩
      rw [← hel] at he2 ⊢
      have hel0 : 0 < el := by omega
      have hel1 : 1 < el := by omega
      have helI : (1 : Int) < (el : Int) := by omega
      have helI0 : (0 : Int) < (el : Int) := by omega
      have hclI : (0 : Int) < (C.length : Int) := by omega
      clear hsc0 hse0 hse1 hcc0 hce0 hce1 hMe hb4 HKD hel hxx hxx2
      go_upto_region 8 with fail
      refine wp_region_held_drew (S := fun w' => w'.cell? ⟨cb, cf, none⟩ = some (.slice xo xl xc) ∧ w'.cell? ⟨eb, ef, none⟩ = some (.slice yo yl yc) ∧ w'.cell? ⟨eb, ef + 1, none⟩ = some (.slice zo zl zc)) (by kernel_rfl) (HCS.out _ ((Below.refl _ _).drew)) (fun hHeld => ?_)
      refine wpAnyH_tk (i := 0) (d := 24) (v := .slice (some ⟨cb, cf, none⟩) C.length cc) rfl rfl (by kernel_rfl) (by kernel_rfl) (by kernel_rfl) (fun _ _ _ h => h) (.inl ⟨by rfl, by (intro wq hSw; (try dsimp only at hSw); go_simp; (try (first | rfl | omega)))⟩) hHeld ?_
      simp only [Act.put, List.setIfInBounds_toArray, List.set_cons_zero, List.set_cons_succ]
      refine wpAnyH_tk (i := 1) (d := 25) (v := .pointer (some ⟨cb, cf, none⟩)) rfl rfl (by kernel_rfl) (by kernel_rfl) (by kernel_rfl) (fun _ _ _ h => h) (.inl ⟨by rfl, by (intro wq hSw; (try dsimp only at hSw); go_simp; (intro hCe; rw [hCe] at hclI; simp at hclI))⟩) hHeld ?_
      simp only [Act.put, List.setIfInBounds_toArray, List.set_cons_zero, List.set_cons_succ]
      refine wpAnyH_tk (i := 2) (d := 26) (v := .slice xo xl xc) rfl rfl (by kernel_rfl) (by kernel_rfl) (by kernel_rfl) (fun _ _ _ h => h) (.inl ⟨by rfl, by (intro wq hSw; (try dsimp only at hSw); go_simp; (try (first | rfl | omega)))⟩) hHeld ?_
      simp only [Act.put, List.setIfInBounds_toArray, List.set_cons_zero, List.set_cons_succ]
      refine wpAnyH_tk (i := 3) (d := 27) (v := .slice (some ⟨eb, ef, none⟩) el ec) rfl rfl (by kernel_rfl) (by kernel_rfl) (by kernel_rfl) (fun _ _ _ h => h) (.inl ⟨by rfl, by (intro wq hSw; (try dsimp only at hSw); go_simp; (try (first | rfl | omega)))⟩) hHeld ?_
      simp only [Act.put, List.setIfInBounds_toArray, List.set_cons_zero, List.set_cons_succ]
      refine wpAnyH_tk (i := 4) (d := 28) (v := .pointer (some ⟨eb, ef, none⟩)) rfl rfl (by kernel_rfl) (by kernel_rfl) (by kernel_rfl) (fun _ _ _ h => h) (.inl ⟨by rfl, by (intro wq hSw; (try dsimp only at hSw); go_simp; (try (first | rfl | omega)))⟩) hHeld ?_
      simp only [Act.put, List.setIfInBounds_toArray, List.set_cons_zero, List.set_cons_succ]
      refine wpAnyH_tk (i := 5) (d := 29) (v := .slice yo yl yc) rfl rfl (by kernel_rfl) (by kernel_rfl) (by kernel_rfl) (fun _ _ _ h => h) (.inl ⟨by rfl, by (intro wq hSw; (try dsimp only at hSw); go_simp; (try (first | rfl | omega)))⟩) hHeld ?_
      simp only [Act.put, List.setIfInBounds_toArray, List.set_cons_zero, List.set_cons_succ]
      refine wpAnyH_tk (i := 6) (d := 30) (v := .slice (some ⟨eb, ef, none⟩) el ec) rfl rfl (by kernel_rfl) (by kernel_rfl) (by kernel_rfl) (fun _ _ _ h => h) (.inl ⟨by rfl, by (intro wq hSw; (try dsimp only at hSw); go_simp; (try (first | rfl | omega)))⟩) hHeld ?_
      simp only [Act.put, List.setIfInBounds_toArray, List.set_cons_zero, List.set_cons_succ]
      refine wpAnyH_tk (i := 7) (d := 31) (v := .pointer (some ⟨eb, ef + 1, none⟩)) rfl rfl (by kernel_rfl) (by kernel_rfl) (by kernel_rfl) (fun _ _ _ h => h) (.inl ⟨by rfl, by (intro wq hSw; (try dsimp only at hSw); go_simp; (try (first | rfl | omega)))⟩) hHeld ?_
      simp only [Act.put, List.setIfInBounds_toArray, List.set_cons_zero, List.set_cons_succ]
      refine wpAnyH_tk (i := 8) (d := 32) (v := .slice zo zl zc) rfl rfl (by kernel_rfl) (by kernel_rfl) (by kernel_rfl) (fun _ _ _ h => h) (.inl ⟨by rfl, by (intro wq hSw; (try dsimp only at hSw); go_simp; (try (first | rfl | omega)))⟩) hHeld ?_
      simp only [Act.put, List.setIfInBounds_toArray, List.set_cons_zero, List.set_cons_succ]
      refine wpAnyH_ready (rs := [9]) (by kernel_rfl) (by simp) ?_
      refine ready_tk (i := 9) rfl (by rfl) (fun K hK => ?_) AllReadyH.nil
      go_simp
      obtain ⟨W9, hW9⟩ : ∃ W9, W9 = (w4.alloc (.cells #[.slice xo xl xc, .slice yo yl yc, .slice zo zl zc] 22)).drew := ⟨_, rfl⟩
      have hb9 : Below w4.heap.size w4 W9 := by rw [hW9]; exact (alloc_keep _ _).drew
      have hM9 : Mat 0 22 3 W9 (.slice (some ⟨w4.heap.size, 0, none⟩) 3 3) (m3 C r) := by
        rw [hW9]
        exact (mat_three HX0.out.1 HX0.out.2.1 HX0.out.2.2).below ((Below.refl _ _).drew) (Nat.le_refl _)
      have HK9 := HK4.out W9 _ _ (hM9.more (Nat.zero_le _))
      have HB9 : Hid (Below w4.heap.size w4 W9) := hb9
      rw [← hW9]
      clear hM9 hb9 hW9 HK4 HX0
      refine hK.out _ _ (HCS.out _ HB9.out) (fun hHeld => ?_)
      clear hK K
      refine wpAnyH_ready (rs := [10]) (by kernel_rfl) (by simp) ?_
      refine ready_tk (i := 10) rfl (by rfl) (fun K hK => ?_) AllReadyH.nil
      go_simp
      refine HK9.mono ?_
      rintro e wx ⟨do', dl, dc, rfl, hMx, hbx⟩
      have HKD := HK5.out wx _ hMx
      have HBX : Hid (Below w4.heap.size w4 wx) := HB9.out.trans (hbx.mono HB9.out.size)
      clear hMx hbx HK9 HK5
      refine hK.out _ _ (HCS.out _ HBX.out) (fun hHeld => ?_)
      clear hK K
      generalize detL (diffL (m3 C r)) = D at *
      refine wpAnyH_ready (rs := [11]) (by kernel_rfl) (by simp) ?_
      refine ready_tk (i := 11) rfl (by rfl) (fun K hK => ?_) AllReadyH.nil
      go_simp
      refine HKD.mono ?_
      rintro e wy ⟨rfl, hby⟩
      have HBY : Hid (Below w4.heap.size w4 wy) := HBX.out.trans (hby.mono HBX.out.size)
      clear hby HKD
      refine hK.out _ _ (HCS.out _ HBY.out) (fun hHeld => ?_)
      clear hK K
      refine wpAnyH_tk (i := 12) (d := 9) (v := .int .i64 D) rfl rfl (by kernel_rfl) (by kernel_rfl) (by kernel_rfl) (fun _ _ _ h => h) (.inl ⟨by rfl, by (intro wq hSw; (try dsimp only at hSw); go_simp; (try (first | rfl | omega)))⟩) hHeld ?_
      simp only [Act.put, List.setIfInBounds_toArray, List.set_cons_zero, List.set_cons_succ]
      refine wpAnyH_done (by kernel_rfl) ?_ _
      clear hHeld HCS
      have HBE : Hid (Below w2.heap.size w2 wy) := HB4.out.trans (HBY.out.mono HB4.out.size)
      have HFI : Hid (T + max D (-D) = arS C (s.take (k + 1))) := by
        show _ = _
        rw [HSN.out, HAR.out]
        omega
      have hw1 : IntKind.wrap .i64 (-D) = -D := by rw [IntKind.wrap_i64]; omega
      have hw2 : IntKind.wrap .i64 (T + max D (-D)) = T + max D (-D) := by rw [IntKind.wrap_i64]; omega
      clear HAR HSN HBY HBX HB9 HB4 HBW HBR
      go_wp2
      exact ⟨⟨k + 1, hlt, by go_num, by rw [HFI.out], HBE.out⟩, by simp [intOf]; omega⟩
    · have HTE : Hid (s.take k = s) := List.take_of_length_le (by omega)
      go_wp2
      go_ret
      exact ⟨s, C, by rw [HTE.out]; rfl, HS.out, HB2.out.trans (HBR.out.mono HB2.out.size)⟩

end Go.Proofs.YtalboihbomaobaaGreat
