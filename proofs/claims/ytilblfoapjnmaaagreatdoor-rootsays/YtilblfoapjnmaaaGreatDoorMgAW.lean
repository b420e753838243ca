import Derived.Test.YtilblfoapjnmaaaGreatDoorMgAT
import Derived.Test.YtilblfoapjnmaaaGreatDoorMgAV
import Derived.Test.YtilblfoapjnmaaaGreatDoorDo4
import Derived.Test.YtilblfoapjnmaaaGreatDoorMgAU
import Derived.Test.YtilblfoapjnmaaaGreatDoorMgAF
import Derived.Test.YtilblfoapjnmaaaGreatDoorRq8
/- facetlaw.RootSays for a good square: the walk. -/
namespace Go.Proofs.YtilblfoapjnmaaaGreatDoor
open Go.RowKit
attribute [local go_sem ↓] Go.wp_at_zero Go.wp_at_succ

set_option maxRecDepth 100000 in
theorem listR_no (E : Int) (hE : ¬ E = 0) (w : World) :
    Calls Tryz.prog 17 #[.slice none 0 0, .int .i64 E, .slice none 0 0, .int .i64 E] w fun x w' => x = .returned (.bool true) ∧ w' = w := by
  go_enter Tryz.func17, Tryz.ntmps17
  go_wp2
  go_ret
  exact ⟨rfl, rfl⟩

set_option maxRecDepth 100000 in
theorem listsR_same (B : Nat) (x : List (List Int)) (u v : Value) (w : World) (hu : Mat B 26 3 w u x) (hv : Mat B 26 3 w v x) :
    Calls Tryz.prog 16 #[u, .int .i64 0, v, .int .i64 0] w fun x w' => x = .returned (.bool true) ∧ Below w.heap.size w w' := by
  obtain ⟨uo, uc, rfl, _, _⟩ := mat_open hu
  obtain ⟨vo, vc, rfl, _, _⟩ := mat_open hv
  have HU : Hid (Mat B 26 3 w (.slice uo x.length uc) x) := hu
  have HV : Hid (Mat B 26 3 w (.slice vo x.length vc) x) := hv
  clear hu hv
  go_enter Tryz.func16, Tryz.ntmps16
  go_wp2_with fail
  refine (sameAll_any B x x _ _ w HU.out HV.out).mono ?_
  rintro e w' ⟨rfl, n, rfl⟩
  have hxx : (x == x) = true := by simp
  rw [hxx]
  go_wp2
  go_ret
  exact ⟨rfl, ⟨rfl, rfl, rfl, Nat.le_refl _, fun _ _ => rfl⟩⟩

theorem FrR.m0 {B : Nat} {w : World} {v : Value} {m : List (List Int)} (h : Fr B 26 3 w v m) : Mat 0 26 3 w v m := by
  obtain ⟨vs, g1, g2, g3⟩ := h
  exact ⟨vs, g1, Sl.own g2, g3⟩

set_option maxRecDepth 100000 in
set_option maxHeartbeats 3200000 in
theorem rootSays_any (n : Nat) (c : List (List Int)) (cv : Value) (w : World) (hg : Gdc n c) (hp : ∀ b ∈ abL c, (∀ k, 0 ≤ b.getD k 0) ∧ 1 ≤ b.sum) (hnod : (abL c).Nodup) (hrt : rtB c n = true) (hm : Mat w.heap.size 26 3 w cv c) :
    Calls Tryz.prog 3 #[cv] w fun e w' => e = .returned (.bool true) ∧ Below w.heap.size w w' := by
  have HM : Hid (∀ X, Below w.heap.size w X → Mat X.heap.size 26 3 X cv c) := fun X hX => (hm.below hX (Nat.le_refl _)).any (Nat.le_refl _)
  have HND : Hid ((abL c).Nodup) := hnod
  have HL0 : Hid (0 < (abL c).length) := ab_some hg
  have HL24 : Hid ((abL c).length ≤ 24) := hg.many
  obtain ⟨hle, hln, hna⟩ := rt_pre hrt
  have hn1 := hg.n1
  have HHV : Hid (Calls Tryz.prog 5 #[cv] w fun e w' => ∃ b, e = .returned (.bool b) ∧ (b = false → c.length ≤ 300) ∧ w' = w) := heavy_any _ c cv w hm
  have HMY : Hid (∀ X, Below w.heap.size w X → Calls Tryz.prog 6 #[cv] X fun e w' => e = .returned (.int .i64 0) ∧ Below X.heap.size X w') := fun X hX => rootsMay_any n c cv X hg hp hnod (HM.out X hX)
  have HRO : Hid (∀ X, Below w.heap.size w X → Calls Tryz.prog 7 #[cv] X fun e w' => ∃ u, e = .returned u ∧ ∃ L : List (List Int), Fr X.heap.size 26 3 w' u L ∧ L.Perm (abL c) ∧ AscH L ∧ Below X.heap.size X w') := fun X hX => rootsOfH_any n c cv X hg hp hnod (HM.out X hX)
  have HLO : Hid (∀ X, Below w.heap.size w X → Calls Tryz.prog 8 #[cv] X fun e w' => ∃ g, e = .returned (.slice (some ⟨g, 0, none⟩) n n) ∧ Sl 0 3 w' (.slice (some ⟨g, 0, none⟩) n n) (ints (ouI c n (paL c).length)) ∧ Below X.heap.size X w') := fun X hX => lengthsOf_any n c cv X hg.sq hn1 hln (HM.out X hX)
  have hpos : ∀ t, t < (paL c).length → 0 < (prN c n t).length := fun t ht => by
    unfold lnB at hln
    have h := List.all_eq_true.1 hln t (List.mem_range.2 ht)
    rw [Bool.and_eq_true, decide_eq_true_eq] at h
    exact h.2
  have hne : 0 < (paL c).length := by
    unfold naB at hna
    rw [Bool.and_eq_true, Bool.not_eq_true', List.isEmpty_eq_false_iff] at hna
    exact List.length_pos_iff.2 hna.1
  have HPI : Hid ((prI c n n).length = (paL c).length) := by
    show _ = _
    unfold prI paL
    rw [hg.sq.len, List.length_map]
  obtain ⟨NB, hNB⟩ : ∃ NB, NB = joI (nmI c n (paL c).length) (paL c).length := ⟨_, rfl⟩
  obtain ⟨LN, hLN⟩ : ∃ LN, LN = leL c := ⟨_, rfl⟩
  have hLN2 : ouI c n (paL c).length = LN := by rw [hLN, rt_len hrt]
  rw [hLN2] at HLO
  have HNO : Hid (∀ X, Below w.heap.size w X → Calls Tryz.prog 9 #[cv] X fun e w' => e = .returned (.string NB) ∧ Below X.heap.size X w') := fun X hX => by rw [hNB]; exact nameOf_any n c cv X hg.sq hn1 hpos (HM.out X hX)
  have HPS : Hid (∀ X, Below w.heap.size w X → Calls Tryz.prog 10 #[cv] X fun e w' => ∃ uo uc, e = .returned (.slice uo (paL c).length uc) ∧ Below X.heap.size X w') := fun X hX => by
    refine (partsOf_any n c cv X hg.sq (HM.out X hX)).mono ?_
    rintro e w' ⟨u, rfl, hf, hb⟩
    obtain ⟨vs, g1, g2, g3⟩ := hf
    obtain ⟨uo, uc, rfl⟩ := owns_form g2
    rw [HPI.out]
    exact ⟨uo, uc, rfl, hb⟩
  have HPO : Hid (∀ X, Below w.heap.size w X → Calls Tryz.prog 11 #[cv] X fun e w' => ∃ u, e = .returned (.tuple #[u, .int .i64 0]) ∧ ∃ m : List (List Int), m.Perm (abL c) ∧ AscH m ∧ Fr X.heap.size 26 3 w' u m ∧ Below X.heap.size X w') := fun X hX => by
    refine (positive_any n c cv X hg (HM.out X hX)).mono ?_
    exact fun e w' h => h
  have HNM : Hid (∀ X, Below w.heap.size w X → Calls Tryz.prog 12 #[cv] X fun e w' => e = .returned (.tuple #[.string NB, .int .i64 0]) ∧ Below X.heap.size X w') := fun X hX => by
    have h := nameR_any n c cv X hg hna (HM.out X hX)
    rw [rt_name hrt, ← hNB] at h
    exact h
  have HHI : Hid (∀ X, Below w.heap.size w X → Calls Tryz.prog 13 #[cv] X fun e w' => ((1 < (paL c).length → e = .returned (.tuple #[.slice none 0 0, .int .i64 3])) ∧ ((paL c).length = 1 → ∃ ro rc r, e = .returned (.tuple #[.slice ro n rc, .int .i64 0]) ∧ Sl 0 3 w' (.slice ro n rc) (ints r) ∧ r.length = n ∧ ∀ m', m'.Perm (abL c) → AscH m' → r = m'.getD (m'.length - 1) [])) ∧ Below X.heap.size X w') := fun X hX => highest_any n c cv X hg (HM.out X hX)
  have HLE : Hid (∀ X, Below w.heap.size w X → Calls Tryz.prog 14 #[cv] X fun e w' => ∃ g, e = .returned (.tuple #[.slice (some ⟨g, 0, none⟩) n n, .int .i64 0]) ∧ Sl 0 3 w' (.slice (some ⟨g, 0, none⟩) n n) (ints LN) ∧ Below X.heap.size X w') := fun X hX => by rw [hLN]; exact lengths_any n c cv X hg hle (HM.out X hX)
  have HCH : Hid (∀ X, Below w.heap.size w X → Calls Tryz.prog 15 #[cv] X fun e w' => e = .returned (.int .i64 0) ∧ Below X.heap.size X w') := fun X hX => checkR_any n c cv X hg (HM.out X hX)
  obtain ⟨m, hmm⟩ : ∃ m, m = (paL c).length := ⟨_, rfl⟩
  rw [← hmm] at HPS HHI hne
  clear hmm hg hp hnod hrt hm hle hln hna hpos hNB hLN hLN2 HM HPI
  go_enter Tryz.func3, Tryz.ntmps3
  go_wp2_with fail
  refine HHV.out.mono ?_
  rintro e w0 ⟨b, rfl, _, rfl⟩
  cases b with
  | true =>
    go_wp2
    go_ret
    exact ⟨rfl, Below.refl _ _⟩
  | false =>
    have hb0 : Below w0.heap.size w0 w0 := Below.refl _ _
    go_wp2_with fail
    refine (HMY.out w0 hb0).mono ?_
    rintro e w1 ⟨rfl, hb⟩
    have HB1 : Hid (Below w0.heap.size w0 w1) := hb
    clear hb hb0 HMY HHV
    go_wp2_with fail
    refine (HRO.out w1 HB1.out).mono ?_
    rintro e w2 ⟨u, rfl, L, hf, hL1, hL2, hb⟩
    have HB2 : Hid (Below w0.heap.size w0 w2) := HB1.out.trans (hb.mono HB1.out.size)
    have HFR : Hid (Mat 0 26 3 w2 u L ∧ L.Perm (abL c) ∧ AscH L) := ⟨FrR.m0 hf, hL1, hL2⟩
    obtain ⟨uo, uc, rfl, _, _⟩ := mat_open (FrR.m0 hf)
    clear hf hL1 hL2 hb HRO
    go_wp2_with fail
    refine (HLO.out w2 HB2.out).mono ?_
    rintro e w3 ⟨g3, rfl, hs3, hb⟩
    have HB3 : Hid (Below w0.heap.size w0 w3) := HB2.out.trans (hb.mono HB2.out.size)
    have H23 : Hid (Below w2.heap.size w2 w3) := hb
    have HS3 : Hid (Sl 0 3 w3 (.slice (some ⟨g3, 0, none⟩) n n) (ints LN)) := hs3
    clear hs3 hb HLO
    go_wp2_with fail
    refine (HNO.out w3 HB3.out).mono ?_
    rintro e w4 ⟨rfl, hb⟩
    have HB4 : Hid (Below w0.heap.size w0 w4) := HB3.out.trans (hb.mono HB3.out.size)
    have H34 : Hid (Below w3.heap.size w3 w4) := hb
    clear hb HNO
    go_wp2_with fail
    refine (HPS.out w4 HB4.out).mono ?_
    rintro e w5 ⟨po, pc, rfl, hb⟩
    have HB5 : Hid (Below w0.heap.size w0 w5) := HB4.out.trans (hb.mono HB4.out.size)
    have H45 : Hid (Below w4.heap.size w4 w5) := hb
    clear hb HPS
    by_cases h1 : (1 : Int) < (m : Int)
    · go_wp2_with fail
      refine (HPO.out w5 HB5.out).mono ?_
      rintro e w6 ⟨ru, rfl, L', hq1, hq2, hq3, hb⟩
      have HB6 : Hid (Below w0.heap.size w0 w6) := HB5.out.trans (hb.mono HB5.out.size)
      have H56 : Hid (Below w5.heap.size w5 w6) := hb
      have HEQ : Hid (L' = L) := ascH_ext hq2 HFR.out.2.2 (hq1.trans HFR.out.2.1.symm) (hq1.nodup_iff.2 HND.out)
      have HM6 : Hid (Mat 0 26 3 w6 ru L) := by
        have h := FrR.m0 hq3
        rw [HEQ.out] at h
        exact h
      obtain ⟨ro, rc, rfl, _, _⟩ := mat_open HM6.out
      clear hq1 hq2 hq3 hb HPO
      go_wp2_with fail
      refine (HNM.out w6 HB6.out).mono ?_
      rintro e w7 ⟨rfl, hb⟩
      have HB7 : Hid (Below w0.heap.size w0 w7) := HB6.out.trans (hb.mono HB6.out.size)
      have H67 : Hid (Below w6.heap.size w6 w7) := hb
      clear hb HNM
      go_wp2_with fail
      refine (HHI.out w7 HB7.out).mono ?_
      rintro e w8 ⟨hh, hb⟩
      have hh1 := hh.1 (by omega)
      subst hh1
      have HB8 : Hid (Below w0.heap.size w0 w8) := HB7.out.trans (hb.mono HB7.out.size)
      have H78 : Hid (Below w7.heap.size w7 w8) := hb
      clear hb hh HHI
      go_wp2_with fail
      refine (HLE.out w8 HB8.out).mono ?_
      rintro e w9 ⟨g9, rfl, hs9, hb⟩
      have HB9 : Hid (Below w0.heap.size w0 w9) := HB8.out.trans (hb.mono HB8.out.size)
      have H89 : Hid (Below w8.heap.size w8 w9) := hb
      have HS9 : Hid (Sl 0 3 w9 (.slice (some ⟨g9, 0, none⟩) n n) (ints LN)) := hs9
      clear hb hs9 HLE
      go_wp2_with fail
      refine (HCH.out w9 HB9.out).mono ?_
      rintro e w10 ⟨rfl, hb⟩
      have HB10 : Hid (Below w0.heap.size w0 w10) := HB9.out.trans (hb.mono HB9.out.size)
      have H90 : Hid (Below w9.heap.size w9 w10) := hb
      clear hb HCH
      have K6 : Below w6.heap.size w6 w10 := by
        have t := H67.out
        have t2 := t.trans (H78.out.mono t.size)
        have t3 := t2.trans (H89.out.mono t2.size)
        exact t3.trans (H90.out.mono t3.size)
      have K3 : Below w3.heap.size w3 w10 := by
        have t := H34.out
        have t2 := t.trans (H45.out.mono t.size)
        have t3 := t2.trans (H56.out.mono t2.size)
        exact t3.trans (K6.mono t3.size)
      have K2 : Below w2.heap.size w2 w10 := H23.out.trans (K3.mono H23.out.size)
      have HLL := listsR_same 0 L _ _ w10 (HM6.out.below K6 (Nat.le_refl _)) (HFR.out.1.below K2 (Nat.le_refl _))
      have HK9 : Hid (Sl 0 3 w10 (.slice (some ⟨g9, 0, none⟩) n n) (ints LN)) := HS9.out.below H90.out (Nat.le_refl _)
      have HK3 : Hid (Sl 0 3 w10 (.slice (some ⟨g3, 0, none⟩) n n) (ints LN)) := HS3.out.below K3 (Nat.le_refl _)
      clear K6 K3 K2
      go_wp2_with fail
      refine HLL.mono ?_
      rintro e w11 ⟨rfl, hb⟩
      have HB11 : Hid (Below w0.heap.size w0 w11) := HB10.out.trans (hb.mono HB10.out.size)
      have HJ9 : Hid (Sl 0 3 w11 (.slice (some ⟨g9, 0, none⟩) n n) (ints LN)) := HK9.out.below hb (Nat.le_refl _)
      have HJ3 : Hid (Sl 0 3 w11 (.slice (some ⟨g3, 0, none⟩) n n) (ints LN)) := HK3.out.below hb (Nat.le_refl _)
      clear hb HLL HK9 HK3
      go_wp2_with fail
      refine (listR_no 3 (by decide) w11).mono ?_
      rintro e w12 ⟨rfl, hw⟩
      obtain rfl := hw.symm
      clear hw
      go_wp2_with fail
      refine (list_same 0 LN _ _ w11 HJ9.out HJ3.out).mono ?_
      rintro e w13 ⟨rfl, hb13⟩
      have HB13 : Hid (Below w0.heap.size w0 w13) := HB11.out.trans (hb13.mono HB11.out.size)
      clear hb13
      go_wp2
      go_ret
      exact ⟨rfl, HB13.out⟩
    · have hm1 : m = 1 := by omega
      have hLl : L.length = (abL c).length := HFR.out.2.1.length_eq
      obtain ⟨q, hq⟩ : ∃ q, L.length = q + 1 := ⟨L.length - 1, by have := HL0.out; omega⟩
      have hq24 : q ≤ 23 := by have := HL24.out; omega
      obtain ⟨lb, lof, lcp, lu, hs, _, hlc, hlr⟩ := mat_cell HFR.out.1 (k := q) (by omega)
      simp only [Value.slice.injEq, true_and] at hs
      obtain ⟨rfl, rfl⟩ := hs
      obtain ⟨lo, ll, lc, rfl⟩ : ∃ lo ll lc, lu = .slice lo ll lc := by
        obtain ⟨a, b, h, _⟩ := sl_open hlr
        exact ⟨a, _, b, h⟩
      have HLA : Hid (Sl 0 3 w2 (.slice lo ll lc) (ints (L.getD q []))) := hlr
      have K25 : Below w2.heap.size w2 w5 := by
        have t := H23.out
        have t2 := t.trans (H34.out.mono t.size)
        exact t2.trans (H45.out.mono t2.size)
      have cl : w5.cell? ⟨lb, lof + q, none⟩ = some (.slice lo ll lc) := (K25.cell (lt_of_cell hlc)).trans hlc
      have hqI : ((L.length : Nat) : Int) - 1 = (q : Int) := by omega
      have hqJ : (q : Int) < (L.length : Int) := by omega
      have hqK : (0 : Int) ≤ (q : Int) := by omega
      have hqL : ((L.length : Nat) : Int) ≤ 24 := by omega
      have HQ : Hid (L.length = q + 1) := hq
      clear hlr hlc K25 hLl hq
      go_wp2_with fail
      refine (HPO.out w5 HB5.out).mono ?_
      rintro e w6 ⟨ru, rfl, L', hq1, hq2, hq3, hb⟩
      have HB6 : Hid (Below w0.heap.size w0 w6) := HB5.out.trans (hb.mono HB5.out.size)
      have H56 : Hid (Below w5.heap.size w5 w6) := hb
      have HEQ : Hid (L' = L) := ascH_ext hq2 HFR.out.2.2 (hq1.trans HFR.out.2.1.symm) (hq1.nodup_iff.2 HND.out)
      have HM6 : Hid (Mat 0 26 3 w6 ru L) := by
        have h := FrR.m0 hq3
        rw [HEQ.out] at h
        exact h
      obtain ⟨ro, rc, rfl, _, _⟩ := mat_open HM6.out
      clear hq1 hq2 hq3 hb HPO
      go_wp2_with fail
      refine (HNM.out w6 HB6.out).mono ?_
      rintro e w7 ⟨rfl, hb⟩
      have HB7 : Hid (Below w0.heap.size w0 w7) := HB6.out.trans (hb.mono HB6.out.size)
      have H67 : Hid (Below w6.heap.size w6 w7) := hb
      clear hb HNM
      go_wp2_with fail
      refine (HHI.out w7 HB7.out).mono ?_
      rintro e w8 ⟨hh, hb⟩
      obtain ⟨ho, hc', r, rfl, hrs, hrl, hrr⟩ := hh.2 hm1
      have HRR : Hid (r = L.getD q []) := by
        have h := hrr L HFR.out.2.1 HFR.out.2.2
        rw [HQ.out] at h
        exact h
      have HRS : Hid (Sl 0 3 w8 (.slice ho n hc') (ints r)) := hrs
      clear hrs hrl hrr
      have HB8 : Hid (Below w0.heap.size w0 w8) := HB7.out.trans (hb.mono HB7.out.size)
      have H78 : Hid (Below w7.heap.size w7 w8) := hb
      clear hb hh HHI
      go_wp2_with fail
      refine (HLE.out w8 HB8.out).mono ?_
      rintro e w9 ⟨g9, rfl, hs9, hb⟩
      have HB9 : Hid (Below w0.heap.size w0 w9) := HB8.out.trans (hb.mono HB8.out.size)
      have H89 : Hid (Below w8.heap.size w8 w9) := hb
      have HS9 : Hid (Sl 0 3 w9 (.slice (some ⟨g9, 0, none⟩) n n) (ints LN)) := hs9
      clear hb hs9 HLE
      go_wp2_with fail
      refine (HCH.out w9 HB9.out).mono ?_
      rintro e w10 ⟨rfl, hb⟩
      have HB10 : Hid (Below w0.heap.size w0 w10) := HB9.out.trans (hb.mono HB9.out.size)
      have H90 : Hid (Below w9.heap.size w9 w10) := hb
      clear hb HCH
      have K6 : Below w6.heap.size w6 w10 := by
        have t := H67.out
        have t2 := t.trans (H78.out.mono t.size)
        have t3 := t2.trans (H89.out.mono t2.size)
        exact t3.trans (H90.out.mono t3.size)
      have K3 : Below w3.heap.size w3 w10 := by
        have t := H34.out
        have t2 := t.trans (H45.out.mono t.size)
        have t3 := t2.trans (H56.out.mono t2.size)
        exact t3.trans (K6.mono t3.size)
      have K2 : Below w2.heap.size w2 w10 := H23.out.trans (K3.mono H23.out.size)
      have HLL := listsR_same 0 L _ _ w10 (HM6.out.below K6 (Nat.le_refl _)) (HFR.out.1.below K2 (Nat.le_refl _))
      have HK9 : Hid (Sl 0 3 w10 (.slice (some ⟨g9, 0, none⟩) n n) (ints LN)) := HS9.out.below H90.out (Nat.le_refl _)
      have HK3 : Hid (Sl 0 3 w10 (.slice (some ⟨g3, 0, none⟩) n n) (ints LN)) := HS3.out.below K3 (Nat.le_refl _)
      have K8 : Below w8.heap.size w8 w10 := H89.out.trans (H90.out.mono H89.out.size)
      have HR1 : Hid (Sl 0 3 w10 (.slice ho n hc') (ints r)) := HRS.out.below K8 (Nat.le_refl _)
      have HR2 : Hid (Sl 0 3 w10 (.slice lo ll lc) (ints r)) := by
        rw [HRR.out]
        exact HLA.out.below K2 (Nat.le_refl _)
      clear K6 K3 K2 K8
      go_wp2_with fail
      refine HLL.mono ?_
      rintro e w11 ⟨rfl, hb⟩
      have HB11 : Hid (Below w0.heap.size w0 w11) := HB10.out.trans (hb.mono HB10.out.size)
      have HJ9 : Hid (Sl 0 3 w11 (.slice (some ⟨g9, 0, none⟩) n n) (ints LN)) := HK9.out.below hb (Nat.le_refl _)
      have HJ3 : Hid (Sl 0 3 w11 (.slice (some ⟨g3, 0, none⟩) n n) (ints LN)) := HK3.out.below hb (Nat.le_refl _)
      have HLH := list_same 0 r _ _ w11 (HR1.out.below hb (Nat.le_refl _)) (HR2.out.below hb (Nat.le_refl _))
      clear hb HLL HK9 HK3
      go_wp2_with fail
      refine HLH.mono ?_
      rintro e w12 ⟨rfl, hb12⟩
      have HB12 : Hid (Below w0.heap.size w0 w12) := HB11.out.trans (hb12.mono HB11.out.size)
      have HN9 : Hid (Sl 0 3 w12 (.slice (some ⟨g9, 0, none⟩) n n) (ints LN)) := HJ9.out.below hb12 (Nat.le_refl _)
      have HN3 : Hid (Sl 0 3 w12 (.slice (some ⟨g3, 0, none⟩) n n) (ints LN)) := HJ3.out.below hb12 (Nat.le_refl _)
      clear hb12 HLH HJ9 HJ3
      go_wp2_with fail
      refine (list_same 0 LN _ _ w12 HN9.out HN3.out).mono ?_
      rintro e w13 ⟨rfl, hb13⟩
      have HB13 : Hid (Below w0.heap.size w0 w13) := HB12.out.trans (hb13.mono HB12.out.size)
      clear hb13
      go_wp2
      go_ret
      exact ⟨rfl, HB13.out⟩

end Go.Proofs.YtilblfoapjnmaaaGreatDoor

/- facetlaw.RootSays of a square that may not be: every function says the same error. -/
namespace Go.Proofs.YtilblfoapjnmaaaGreatDoor
open Go.RowKit
attribute [local go_sem ↓] Go.wp_at_zero Go.wp_at_succ

set_option maxRecDepth 100000 in
theorem listsR_no (E : Int) (hE : ¬ E = 0) (w : World) :
    Calls Tryz.prog 16 #[.slice none 0 0, .int .i64 E, .slice none 0 0, .int .i64 E] w fun x w' => x = .returned (.bool true) ∧ w' = w := by
  go_enter Tryz.func16, Tryz.ntmps16
  go_wp2
  go_ret
  exact ⟨rfl, rfl⟩

set_option maxRecDepth 100000 in
set_option maxHeartbeats 1600000 in
theorem rootSaysX_any (c : List (List Int)) (cv : Value) (w : World) (hne : ¬ ckE c = 0) (hm : Mat w.heap.size 26 3 w cv c) :
    Calls Tryz.prog 3 #[cv] w fun e w' => e = .returned (.bool true) ∧ Below w.heap.size w w' := by
  have HM : Hid (∀ X, Below w.heap.size w X → Mat X.heap.size 26 3 X cv c) := fun X hX => (hm.below hX (Nat.le_refl _)).any (Nat.le_refl _)
  have HHV := heavy_any _ c cv w hm
  have HMY : Hid (∀ X, Below w.heap.size w X → Calls Tryz.prog 6 #[cv] X fun e w' => e = .returned (.int .i64 (ckE c)) ∧ Below X.heap.size X w') := fun X hX => rootsMayX_any c cv X hne (HM.out X hX)
  have HPO : Hid (∀ X, Below w.heap.size w X → Calls Tryz.prog 11 #[cv] X fun e w' => e = .returned (.tuple #[.slice none 0 0, .int .i64 (ckE c)]) ∧ Below X.heap.size X w') := fun X hX => positiveX_any c cv X hne (HM.out X hX)
  have HNM : Hid (∀ X, Below w.heap.size w X → Calls Tryz.prog 12 #[cv] X fun e w' => e = .returned (.tuple #[.string ⟨#[]⟩, .int .i64 (ckE c)]) ∧ Below X.heap.size X w') := fun X hX => nameX_any c cv X hne (HM.out X hX)
  have HHI : Hid (∀ X, Below w.heap.size w X → Calls Tryz.prog 13 #[cv] X fun e w' => e = .returned (.tuple #[.slice none 0 0, .int .i64 (ckE c)]) ∧ Below X.heap.size X w') := fun X hX => highestX_any c cv X hne (HM.out X hX)
  have HLE : Hid (∀ X, Below w.heap.size w X → Calls Tryz.prog 14 #[cv] X fun e w' => e = .returned (.tuple #[.slice none 0 0, .int .i64 (ckE c)]) ∧ Below X.heap.size X w') := fun X hX => lengthsX_any c cv X hne (HM.out X hX)
  have HCH : Hid (∀ X, Below w.heap.size w X → Calls Tryz.prog 15 #[cv] X fun e w' => e = .returned (.int .i64 (ckE c)) ∧ Below X.heap.size X w') := fun X hX => checkX_any c cv X hne (HM.out X hX)
  obtain ⟨ao, cap, hvv, _, _⟩ := mat_open hm
  subst hvv
  generalize c.length = cl at *
  generalize ckE c = E at *
  have hE : (E == 0) = false := by simpa using hne
  have hL2 : ∀ W, Calls Tryz.prog 16 #[.slice none 0 0, .int .i64 E, .slice none 0 0, .int .i64 E] W fun x w' => x = .returned (.bool true) ∧ w' = W := fun W => listsR_no E hne W
  have HL2 : Hid (∀ W, Calls Tryz.prog 16 #[.slice none 0 0, .int .i64 E, .slice none 0 0, .int .i64 E] W fun x w' => x = .returned (.bool true) ∧ w' = W) := hL2
  have HL1 : Hid (∀ W, Calls Tryz.prog 17 #[.slice none 0 0, .int .i64 E, .slice none 0 0, .int .i64 E] W fun x w' => x = .returned (.bool true) ∧ w' = W) := fun W => listR_no E hne W
  clear hm HM hL2
  go_enter Tryz.func3, Tryz.ntmps3
  go_wp2_with fail
  refine HHV.mono ?_
  rintro e w0 ⟨b, rfl, _, rfl⟩
  cases b with
  | true =>
    go_wp2
    go_ret
    exact ⟨rfl, Below.refl _ _⟩
  | false =>
    have hb0 : Below w0.heap.size w0 w0 := Below.refl _ _
    clear HHV
    go_wp2_with fail
    refine (HMY.out w0 hb0).mono ?_
    rintro e w1 ⟨rfl, hb⟩
    have HB1 : Hid (Below w0.heap.size w0 w1) := hb
    clear hb hb0 HMY
    go_wp2_with fail
    refine (HPO.out w1 HB1.out).mono ?_
    rintro e w6 ⟨rfl, hb⟩
    have HB6 : Hid (Below w0.heap.size w0 w6) := HB1.out.trans (hb.mono HB1.out.size)
    clear hb HPO
    go_wp2_with fail
    refine (HNM.out w6 HB6.out).mono ?_
    rintro e w7 ⟨rfl, hb⟩
    have HB7 : Hid (Below w0.heap.size w0 w7) := HB6.out.trans (hb.mono HB6.out.size)
    clear hb HNM
    go_wp2_with fail
    refine (HHI.out w7 HB7.out).mono ?_
    rintro e w8 ⟨rfl, hb⟩
    have HB8 : Hid (Below w0.heap.size w0 w8) := HB7.out.trans (hb.mono HB7.out.size)
    clear hb HHI
    go_wp2_with fail
    refine (HLE.out w8 HB8.out).mono ?_
    rintro e w9 ⟨rfl, hb⟩
    have HB9 : Hid (Below w0.heap.size w0 w9) := HB8.out.trans (hb.mono HB8.out.size)
    clear hb HLE
    go_wp2_with fail
    refine (HCH.out w9 HB9.out).mono ?_
    rintro e w10 ⟨rfl, hb⟩
    have HB10 : Hid (Below w0.heap.size w0 w10) := HB9.out.trans (hb.mono HB9.out.size)
    clear hb HCH
    go_wp2_with fail
    refine (HL2.out w10).mono ?_
    rintro e w11 ⟨rfl, hw⟩
    obtain rfl := hw.symm
    clear hw
    go_wp2_with fail
    refine (HL1.out w10).mono ?_
    rintro e w11 ⟨rfl, hw⟩
    obtain rfl := hw.symm
    clear hw
    go_wp2_with fail
    refine (HL1.out w10).mono ?_
    rintro e w11 ⟨rfl, hw⟩
    obtain rfl := hw.symm
    clear hw
    go_wp2
    go_ret
    exact ⟨rfl, HB10.out⟩

end Go.Proofs.YtilblfoapjnmaaaGreatDoor
