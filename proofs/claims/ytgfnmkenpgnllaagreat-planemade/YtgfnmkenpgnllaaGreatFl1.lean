/- plane.isFlat. -/
import Derived.Test.YtgfnmkenpgnllaaGreatPn1
import Derived.Test.YtgfnmkenpgnllaaGreatCcM
import Derived.Test.YtgfnmkenpgnllaaGreatSg5
import Derived.Test.YtgfnmkenpgnllaaGreatPkd
import Derived.Test.YtgfnmkenpgnllaaGreatCni
namespace Go.Proofs.YtgfnmkenpgnllaaGreat
open Go.RowKit Lin
attribute [local go_sem ↓] Go.wp_at_zero Go.wp_at_succ

theorem concat2_any (B : Nat) (m : List (List Int)) (p : List Int) (zv ov : Value) (w : World) (hz : Mat B 22 3 w zv m) (ho : Sl B 3 w ov (ints p)) (hm : m.length ≤ 100) :
    Calls Tryz.prog 90 #[.slice (some ⟨w.heap.size + 1, 0, none⟩) 2 2] ((w.alloc (.cells #[ov] 22)).alloc (.cells #[zv, .slice (some ⟨w.heap.size, 0, none⟩) 1 1] 25)) fun e w' => ∃ uo uc, e = .returned (.slice uo (m.length + 1) uc) ∧ Mat B 22 3 w' (.slice uo (m.length + 1) uc) (m ++ [p]) ∧ Below w.heap.size w w' := by
  obtain ⟨W, hW⟩ : ∃ W, W = (w.alloc (.cells #[ov] 22)).alloc (.cells #[zv, .slice (some ⟨w.heap.size, 0, none⟩) 1 1] 25) := ⟨_, rfl⟩
  have hb : Below w.heap.size w W := by rw [hW]; exact ((Below.refl _ _).alloc (Nat.le_refl _) _).alloc (by simp) _
  have k0 : W.heap[w.heap.size]? = some (.cells #[ov] 22 (0, 0)) := by
    rw [hW]
    exact (Below.heap_alloc _ _ _ (by simp)).trans (heap_alloc_new w _)
  have k1 : W.heap[w.heap.size + 1]? = some (.cells #[zv, .slice (some ⟨w.heap.size, 0, none⟩) 1 1] 25 (0, 0)) := by
    rw [hW]
    have := heap_alloc_new (w.alloc (.cells #[ov] 22)) (.cells #[zv, .slice (some ⟨w.heap.size, 0, none⟩) 1 1] 25)
    simpa using this
  rw [← hW]
  obtain ⟨vs, h1, h2, h3⟩ := hz
  have hone : ∀ u ∈ vs ++ [ov], u.oneCell' = true := by
    intro u hu
    rcases List.mem_append.1 hu with hu | hu
    · obtain ⟨i, hi, he⟩ := List.getElem_of_mem hu
      obtain ⟨a, c, h4, _⟩ := h3 i (by omega)
      rw [show vs.getD i (.slice none 0 0) = u by rw [← he]; simp [hi]] at h4
      rw [h4]; rfl
    · obtain ⟨a, c, h4, _⟩ := ho
      rw [List.mem_singleton.1 hu, h4]; rfl
  have hso : Sl B 22 W (.slice (some ⟨w.heap.size, 0, none⟩) 1 1) [ov] := by
    refine ⟨some ⟨w.heap.size, 0, none⟩, 1, rfl, by simp, by unfold maxLen; omega, fun i hi => ⟨w.heap.size, 0, rfl, ?_, .inr ⟨_, k0⟩⟩, fun e => by cases e⟩
    have : i = 0 := by simpa using hi
    subst this
    simp [World.cell?, k0]
  refine (concatM_any B [vs, [ov]] [zv, .slice (some ⟨w.heap.size, 0, none⟩) 1 1] _ W rfl ?_ (fun i hi => ?_) (fun i hi => ?_) (by simp) (by simp [totV]) (by simp [totV]; omega)).mono ?_
  · refine ⟨some ⟨w.heap.size + 1, 0, none⟩, 2, rfl, by simp, by unfold maxLen; omega, fun i hi => ⟨w.heap.size + 1, 0, rfl, ?_, .inr ⟨_, k1⟩⟩, fun e => by cases e⟩
    rcases (show i = 0 ∨ i = 1 by simp at hi; omega) with rfl | rfl <;> simp [World.cell?, k1]
  · rcases (show i = 0 ∨ i = 1 by simp at hi; omega) with rfl | rfl
    · exact h2.below hb (Nat.le_refl _)
    · exact hso
  · rcases (show i = 0 ∨ i = 1 by simp at hi; omega) with rfl | rfl
    · exact fun u hu => hone u (List.mem_append_left _ hu)
    · exact fun u hu => hone u (List.mem_append_right _ hu)
  · rintro e w' ⟨u, rfl, hown, hb2⟩
    have e1 : totV [vs, [ov]] = m.length + 1 := by simp [totV, h1]
    have e2 : ([vs, [ov]] : List (List Value)).flatten = vs ++ [ov] := by simp
    rw [e1, e2] at hown
    obtain ⟨uo, uc, rfl⟩ := owns_form hown
    have hbb : Below w.heap.size w w' := hb.trans (hb2.mono hb.size)
    refine ⟨uo, uc, rfl, ⟨vs ++ [ov], by simp [h1], Sl.own hown, fun i hi => ?_⟩, hbb⟩
    rw [List.length_append, List.length_singleton] at hi
    by_cases q : i < m.length
    · have := (h3 i q).below hbb (Nat.le_refl _)
      rw [List.getD_eq_getElem?_getD, List.getElem?_append_left (by omega), ← List.getD_eq_getElem?_getD, List.getD_eq_getElem?_getD (l := m ++ [p]), List.getElem?_append_left q, ← List.getD_eq_getElem?_getD]
      exact this
    · have hie : i = m.length := by omega
      subst hie
      have e3 : (vs ++ [ov]).getD m.length (.slice none 0 0) = ov := by rw [← h1]; simp
      have e4 : (m ++ [p]).getD m.length [] = p := by simp
      rw [e3, e4]
      exact ho.below hbb (Nat.le_refl _)

/-- What isFlat has looked at. -/
def flT (d : Nat) (P : List (List Int)) (s k : Nat) : Bool := (List.range k).all fun i => s.testBit i || !thr d P s i

theorem flT_succ (d : Nat) (P : List (List Int)) (s k : Nat) : flT d P s (k + 1) = (flT d P s k && (s.testBit k || !thr d P s k)) := by
  simp [flT, List.range_succ]

theorem flT_le {d : Nat} {P : List (List Int)} {s k n : Nat} (hk : k ≤ n) (h : flT d P s k = false) : flT d P s n = false := by
  unfold flT at h ⊢
  rw [List.all_eq_false] at h ⊢
  obtain ⟨i, hi, h⟩ := h
  exact ⟨i, List.mem_range.2 (by have := List.mem_range.1 hi; omega), h⟩


set_option maxRecDepth 100000 in
set_option maxHeartbeats 1600000 in
theorem isFlat_any (d : Nat) (P : List (List Int)) (c : List Int) (v u : Value) (w : World) (hd1 : 1 ≤ d) (hd3 : d ≤ 3) (hG : ∀ p ∈ P, p.length = d + 1 ∧ ∀ z ∈ p, z.natAbs ≤ 20) (h6 : P.length ≤ 6) (hc : c ∈ extA P.length) (hv : Mat 0 22 3 w v P) (hu : Sl 0 3 w u (ints c)) :
    Calls Tryz.prog 57 #[.int .i64 d, v, u] w fun e w' => e = .returned (.bool (flB d P (setN c))) ∧ Below w.heap.size w w' := by
  obtain ⟨vo, vc, rfl, _, _⟩ := mat_open hv
  obtain ⟨uo, uc, rfl, _, _⟩ := sl_open hu
  obtain ⟨hs, hce, hcb⟩ := (xt_all h6).1 c hc
  obtain ⟨s, hsd⟩ : ∃ s, s = setN c := ⟨_, rfl⟩
  have hT : pks P [] c = plS P s := by rw [hsd]; exact pks_plS h6 hc
  have hbit : ∀ i, i < P.length → c.contains (i : Int) = s.testBit i := fun i hi => by rw [hsd]; exact mem_bit h6 hc hi
  have hcl : c.length ≤ 6 := by
    rw [hce]
    unfold memL
    rw [List.length_map]
    exact Nat.le_trans (List.length_filter_le _ _) (by simpa using h6)
  have hpl : (plS P s).length = c.length := by rw [← hT]; simp [pks]
  have hrow : ∀ p ∈ plS P s, p.length = d + 1 ∧ ∀ z ∈ p, z.natAbs ≤ 20 := fun p hp => by
    obtain ⟨i, h1, _, rfl⟩ := mem_plS.1 hp
    exact hG _ (getD_memR h1)
  have HPK : Hid (Calls Tryz.prog 59 #[.slice vo P.length vc, .slice uo c.length uc] w fun e w' => ∃ zo zc, e = .returned (.slice zo c.length zc) ∧ Mat w.heap.size 22 3 w' (.slice zo c.length zc) (plS P s) ∧ Below w.heap.size w w') := by
    refine (pickedK_any 0 P c _ _ w hv hu (fun i hi => hcb _ (by simp [hi])) (by omega)).mono ?_
    rintro e w' ⟨z, rfl, hz, hb⟩
    have hz2 : Mat w.heap.size 22 3 w' z (pks P [] c) := hz.mat (Nat.le_refl _)
    rw [hT] at hz2
    obtain ⟨zo, zc, rfl, _, _⟩ := mat_open hz2
    rw [hpl] at hz2 ⊢
    exact ⟨zo, zc, rfl, hz2, hb⟩
  have HRK : Hid (∀ (wd : Nat) (z : Value) X, 1 ≤ wd → wd ≤ d + 1 → Mat w.heap.size 22 3 X z (plS P s) → Calls Tryz.prog 58 #[z, .int .i64 wd] X fun e w' => e = .returned (.int .i64 (rk wd (plS P s) : Nat)) ∧ Below X.heap.size X w') := fun wd z X h1 h2 hz =>
    rankW_any w.heap.size (d + 1) wd (plS P s) z X h2 h1 (mx_few hd1 hd3 hrow) hz (by omega)
  have HRN : Hid (∀ (i : Nat) (z : Value) X, i < P.length → Mat w.heap.size 22 3 X z (plS P s ++ [P.getD i []]) → Calls Tryz.prog 58 #[z, .int .i64 ((d : Int) + 1)] X fun e w' => e = .returned (.int .i64 (rk (d + 1) (plS P s ++ [P.getD i []]) : Nat)) ∧ Below X.heap.size X w') := fun i z X hi hz => by
    have := rankW_any w.heap.size (d + 1) (d + 1) (plS P s ++ [P.getD i []]) z X (Nat.le_refl _) (by omega) (mx_few hd1 hd3 fun p hp => by
      rcases List.mem_append.1 hp with hp | hp
      · exact hrow p hp
      · rw [List.mem_singleton.1 hp]; exact hG _ (getD_memR hi)) hz (by simp; omega)
    exact this
  have HCN : Hid (∀ (i : Nat) X, i < P.length → Below w.heap.size w X → Calls Tryz.prog 89 #[.slice uo c.length uc, .int .i64 (i : Int)] X fun e w' => e = .returned (.bool (s.testBit i)) ∧ w' = X) := fun i X hi hX => by
    rw [← hbit i hi]
    exact containsK_any 0 i c _ X (hu.below hX (Nat.le_refl _))
  have HCC : Hid (∀ (i : Nat) (z ov : Value) X, i < P.length → Mat w.heap.size 22 3 X z (plS P s) → Sl w.heap.size 3 X ov (ints (P.getD i [])) → Calls Tryz.prog 90 #[.slice (some ⟨X.heap.size + 1, 0, none⟩) 2 2] ((X.alloc (.cells #[ov] 22)).alloc (.cells #[z, .slice (some ⟨X.heap.size, 0, none⟩) 1 1] 25)) fun e w' => ∃ yo yc, e = .returned (.slice yo (c.length + 1) yc) ∧ Mat w.heap.size 22 3 w' (.slice yo (c.length + 1) yc) (plS P s ++ [P.getD i []]) ∧ Below X.heap.size X w') := fun i z ov X hi hz ho => by
    have := concat2_any w.heap.size (plS P s) (P.getD i []) z ov X hz ho (by omega)
    rw [hpl] at this
    exact this
  have HRO : Hid (∀ i, i < P.length → ∃ b o ov, vo = some ⟨b, o, none⟩ ∧ (∃ oo oc, ov = .slice oo (d + 1) oc) ∧ ∀ X, Below w.heap.size w X → X.cell? ⟨b, o + i, none⟩ = some ov ∧ Sl w.heap.size 3 X ov (ints (P.getD i []))) := fun i hi => by
    obtain ⟨b, o, cp, ov, e1, _, h1, h2⟩ := mat_cell hv hi
    simp only [Value.slice.injEq] at e1
    obtain ⟨oo, oc, he, _, _⟩ := sl_open h2
    rw [(hG _ (getD_memR hi)).1] at he
    exact ⟨b, o, ov, e1.1, ⟨oo, oc, he⟩, fun X hX => ⟨(hX.cell (lt_of_cell h1)).trans h1, (h2.below hX (Nat.le_refl _)).more (Nat.zero_le _)⟩⟩
  have HTH : Hid (∀ i, thr d P s i = (rk (d + 1) (plS P s ++ [P.getD i []]) == rk (d + 1) (plS P s))) := fun i => rfl
  have HFL : Hid (flB d P s = (cen d P s && flT d P s P.length)) := rfl
  have HCE : Hid (cen d P s = !decide (rk d (plS P s) < rk (d + 1) (plS P s))) := by
    show (rk d (plS P s) == rk (d + 1) (plS P s)) = _
    have := rk_wide d (plS P s)
    rw [Bool.eq_iff_iff]
    simp
    omega
  rw [← hsd]
  have hr4 := rk_cap (d + 1) (plS P s)
  have hr5 := rk_cap d (plS P s)
  have HR6 : Hid (∀ i, rk (d + 1) (plS P s ++ [P.getD i []]) ≤ d + 1) := fun i => rk_cap _ _
  have HPK2 := HPK
  clear hv hu hs hce hcb hsd hT hbit hpl hrow hc HPK
  generalize hRD : rk d (plS P s) = rd at *
  generalize hRE : rk (d + 1) (plS P s) = re at *
  go_enter Tryz.func57, Tryz.ntmps57
  go_wp2_with fail
  refine HPK2.out.mono ?_
  rintro e w1 ⟨zo, zc, rfl, hz1, hb1⟩
  have K1 := HRK.out (d + 1) _ w1 (by omega) (by omega) hz1
  rw [hRE] at K1
  have HK1 : Hid (Calls Tryz.prog 58 #[.slice zo c.length zc, .int .i64 ((d : Int) + 1)] w1 fun e w' => e = .returned (.int .i64 (re : Nat)) ∧ Below w1.heap.size w1 w') := K1
  have HK2 : Hid (∀ X, Below w1.heap.size w1 X → Calls Tryz.prog 58 #[.slice zo c.length zc, .int .i64 (d : Int)] X fun e w' => e = .returned (.int .i64 (rd : Nat)) ∧ Below X.heap.size X w') := fun X hX => by
    have := HRK.out d _ X hd1 (by omega) (hz1.below hX (Nat.le_refl _))
    rw [hRD] at this
    exact this
  have HZ : Hid (Mat w.heap.size 22 3 w1 (.slice zo c.length zc) (plS P s)) := hz1
  have HB1 : Hid (Below w.heap.size w w1) := hb1
  clear K1 hz1 hb1 HPK2 HRK
  go_wp2_with fail
  refine HK1.out.mono ?_
  rintro e w2 ⟨rfl, hb2⟩
  have HB2 : Hid (Below w1.heap.size w1 w2) := hb2
  clear hb2 HK1
  go_wp2_with fail
  refine (HK2.out w2 HB2.out).mono ?_
  rintro e w3 ⟨rfl, hb3⟩
  have HB3 : Hid (Below w1.heap.size w1 w3) := HB2.out.trans (hb3.mono HB2.out.size)
  clear hb3 HK2 HB2
  by_cases hlt : rd < re
  · have hltI : (rd : Int) < (re : Int) := by omega
    have HF : Hid (flB d P s = false) := by
      show _ = _
      rw [HFL.out, HCE.out]; simp [hlt]
    have HBB : Hid (Below w.heap.size w w3) := HB1.out.trans (HB3.out.mono HB1.out.size)
    clear HFL HCE hlt HRN HCN HCC HRO HTH HR6
    go_wp2
    go_ret
    exact ⟨ret_bool HF.out.symm, HBB.out⟩
  have hltI : ¬ (rd : Int) < (re : Int) := by omega
  have hltD : decide (rd < re) = false := decide_eq_false hlt
  have HF : Hid (flB d P s = flT d P s P.length) := by
    show _ = _
    rw [HFL.out, HCE.out]; simp [hlt]
  clear HFL HCE hlt
  go_wp2
  go_loopw [25, 9, 10] (fun i _ _ wr => ∃ k : Nat, k ≤ P.length ∧ i = .int .i64 (k : Int) ∧ flT d P s k = true ∧ Below w1.heap.size w1 wr) (fun i _ _ _ => P.length - (intOf i).toNat)
  case atStart => exact ⟨0, Nat.zero_le _, rfl, rfl, HB3.out⟩
  case round =>
    obtain ⟨k, hk, rfl, hfk, hb⟩ := hrel
    have HFK : Hid (flT d P s k = true) := hfk
    have HB : Hid (Below w1.heap.size w1 wr) := hb
    have HBW : Hid (Below w.heap.size w wr) := HB1.out.trans (hb.mono HB1.out.size)
    clear hfk hb
    by_cases hlt : k < P.length
    · obtain ⟨b, o, ov, hvo, ⟨oo, oc, hov⟩, hx⟩ := HRO.out k hlt
      subst hvo hov
      obtain ⟨c1, hs1⟩ := hx wr HBW.out
      have HCK := HCN.out k wr hlt HBW.out
      have hkI : (k : Int) < (P.length : Int) := by omega
      have HSC := flT_succ d P s k
      have HC2 := HCC.out k _ _ wr hlt (HZ.out.below HB.out (Nat.le_refl _)) hs1
      have HTK := HTH.out k
      rw [HFK.out, Bool.true_and] at HSC
      clear hs1 hx
      cases hbt : s.testBit k
      · rw [hbt] at HCK HSC
        rw [Bool.false_or, HTK] at HSC
        have HS2 : Hid (flT d P s (k + 1) = !(rk (d + 1) (plS P s ++ [P.getD k []]) == re)) := HSC
        clear HSC HTK
        have hr7 := HR6.out k
        have HRN2 : Hid (∀ (z : Value) X, Mat w.heap.size 22 3 X z (plS P s ++ [P.getD k []]) → Calls Tryz.prog 58 #[z, .int .i64 ((d : Int) + 1)] X fun e w' => e = .returned (.int .i64 (rk (d + 1) (plS P s ++ [P.getD k []]) : Nat)) ∧ Below X.heap.size X w') := fun z X hz => HRN.out k z X hlt hz
        generalize rk (d + 1) (plS P s ++ [P.getD k []]) = rn at *
        go_wp2_with fail
        refine HCK.mono ?_
        rintro e w5 ⟨rfl, hw5⟩
        subst hw5
        clear HCK
        go_wp2_with fail
        refine HC2.mono ?_
        rintro e w6 ⟨yo, yc, rfl, hm6, hb6⟩
        have HR8 := HRN2.out _ w6 hm6
        have HB6 : Hid (Below w1.heap.size w1 w6) := HB.out.trans (hb6.mono HB.out.size)
        clear hm6 hb6 HC2
        go_wp2_with fail
        refine HR8.mono ?_
        rintro e w7 ⟨rfl, hb7⟩
        have HB7 : Hid (Below w1.heap.size w1 w7) := HB6.out.trans (hb7.mono HB6.out.size)
        clear HR8 hb7 HB6
        by_cases hq : rn = re
        · have hqI : ((rn : Int) == (re : Int)) = true := by simp [hq]
          have HF2 : Hid (flB d P s = false) := by
            show _ = _
            rw [HF.out]
            refine flT_le (k := k + 1) (by omega) ?_
            rw [HS2.out]; simp [hq]
          have HBB : Hid (Below w.heap.size w w7) := HB1.out.trans (HB7.out.mono HB1.out.size)
          clear hq
          go_wp2
          go_ret
          exact ⟨ret_bool HF2.out.symm, HBB.out⟩
        · have hqI : ((rn : Int) == (re : Int)) = false := by simp; omega
          have HS3 : Hid (flT d P s (k + 1) = true) := by
            show _ = _
            rw [HS2.out]; simp [hq]
          clear hq
          go_wp2
          go_roundw
          case rel => exact ⟨k + 1, by omega, by go_num, HS3.out, HB7.out⟩
          case measure => simp [intOf]; omega
      · rw [hbt] at HCK HSC
        have HS2 : Hid (flT d P s (k + 1) = true) := by rw [HSC]; rfl
        clear HSC HTK HC2
        go_wp2_with fail
        refine HCK.mono ?_
        rintro e w5 ⟨rfl, hw5⟩
        subst hw5
        clear HCK
        go_wp2
        go_roundw
        case rel => exact ⟨k + 1, by omega, by go_num, HS2.out, HB.out⟩
        case measure => simp [intOf]; omega
    · have hke : k = P.length := by omega
      subst hke
      go_wp2
      go_ret
      exact ⟨ret_bool (by rw [HF.out, HFK.out]), HBW.out⟩

end Go.Proofs.YtgfnmkenpgnllaaGreat
