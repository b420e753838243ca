/- TopWords: the law's walk. -/
import Derived.Test.YteddigbjmhnfbaaWp0
import Derived.Test.YteddigbjmhnfbaaWm4
import Derived.Test.YteddigbjmhnfbaaWk9
import Derived.Test.YteddigbjmhnfbaaWn7
import Derived.Test.YteddigbjmhnfbaaTw1
namespace Go.Proofs.Yteddigbjmhnfbaa
open Go.RowKit
attribute [local go_sem ↓] Go.wp_at_zero Go.wp_at_succ

theorem fr_mat {B : Nat} {w : World} {v : Value} {m : List (List Int)} (h : Fr B 22 3 w v m) : Mat w.heap.size 22 3 w v m := by
  obtain ⟨vs, h1, h2, h3⟩ := h
  exact ⟨vs, h1, Sl.own h2, fun i hi => (h3 i hi).more (Nat.zero_le _)⟩

theorem two_new (w : World) (x : Value) (t : TypeId) : ∀ j u, [x, x][j]? = some u → (w.alloc (.cells #[x, x] t)).cell? ((⟨w.heap.size, 0, none⟩ : Addr).add j) = some u := by
  intro j u hj
  match j, hj with
  | 0, hj => simp at hj; subst hj; simp [Addr.add]
  | 1, hj => simp at hj; subst hj; simp [Addr.add]

theorem two_int (x : Int) : ∀ u ∈ [Value.int .i64 x, Value.int .i64 x], u.oneCell' = true := by
  intro u hu; simp at hu; subst hu; rfl

set_option maxRecDepth 100000 in
set_option maxHeartbeats 6400000 in
theorem topWords_any (B : Nat) (raw : List Int) (d0 m0 a0 b0 : Int) (v : Value) (w : World) (hv : Sl B 3 w v (ints raw)) (hr : ∀ z ∈ raw, In64 z) (hd : In64 d0) (hm : In64 m0) (ha : In64 a0) (hb : In64 b0) :
    Calls Try.prog 3 #[v, .int .i64 d0, .int .i64 m0, .int .i64 a0, .int .i64 b0] w fun e w' => e = .returned (.bool true) ∧ Below w.heap.size w w' := by
  obtain ⟨i3, hi3, hz30, hz31, hz32⟩ := info_parts Try.info3
  obtain ⟨ao, cap, hvv, hlc, hcm⟩ := sl_open hv
  subst hvv
  by_cases hlen : 256 < raw.length
  · have hl2 : (256 : Int) < (raw.length : Int) := by omega
    clear hv hr
    go_enter Try.func3, Try.ntmps3
    go_wp2
    go_ret
    exact ⟨rfl, Below.refl _ _⟩
  · have hl2 : ¬ (256 : Int) < (raw.length : Int) := by omega
    have HV : Hid (Sl B 3 w (.slice ao raw.length cap) (ints raw)) := hv
    have HRR : Hid (∀ z ∈ raw, In64 z) := hr
    have HRF := rootsFrom_any d0 m0 4 w hd hm (by decide) (by decide)
    have HPA : Hid (∀ W, Calls Try.prog 6 #[.int .i64 a0, .int .i64 20] W fun e w' => ∃ z, e = .returned (.int .i64 z) ∧ (0 ≤ z ∧ z < 20) ∧ w' = W) := fun W => pick_any a0 20 W (by decide) (by decide) ha
    have HPB : Hid (∀ (n : Nat) W, 1 ≤ n → n ≤ 4 → Calls Try.prog 6 #[.int .i64 b0, .int .i64 n] W fun e w' => ∃ z, e = .returned (.int .i64 z) ∧ (0 ≤ z ∧ z < n) ∧ w' = W) := fun n W h1 h2 => pick_any b0 n W (by omega) (by omega) hb
    clear hv hr hd hm ha hb
    go_enter Try.func3, Try.ntmps3
    go_wp2_with fail
    refine HRF.mono ?_
    rintro e w1 ⟨x, ps, o, rfl, ⟨hnm, hoo⟩, hfr, hb1⟩
    have hgd := gd_all hnm hoo
    generalize (mkL ps).length = n at hgd
    generalize posR (pmM o (mkL ps)) = R at hgd
    generalize pmM o (mkL ps) = c at *
    have HG : Hid (Gda n c R) := hgd
    have hcl : c.length = n := hgd.g.sq.len
    have hn1 := hgd.g.n1
    have hn4 := hgd.g.sq.n4
    have HCL : Hid (c.length = n) := hcl
    have HB1 : Hid (Below w.heap.size w w1) := hb1
    have HM1 : Hid (Mat w1.heap.size 22 3 w1 x c) := fr_mat hfr
    obtain ⟨co, cc, hxv⟩ : ∃ co cc, x = .slice co n cc := by
      obtain ⟨vs, g1, g2, g3⟩ := hfr
      obtain ⟨a, b, h⟩ := owns_form g2
      exact ⟨a, b, by rw [← hcl]; exact h⟩
    subst hxv
    have HPA1 := HPA.out w1
    clear HRF hnm hoo hfr hgd hcl hb1
    go_wp2_with fail
    refine HPA1.mono ?_
    rintro e w2 ⟨mz, rfl, ⟨hm0, hm1⟩, rfl⟩
    obtain ⟨many, rfl⟩ : ∃ k : Nat, mz = (k : Int) := ⟨mz.toNat, by omega⟩
    have HWF := wordFrom_any B raw (.slice ao raw.length cap) n many w2 (HV.out.below HB1.out (Nat.le_refl _)) HRR.out (by omega) hn1 (by omega) (by omega)
    clear HPA1 HPA
    go_wp2_with fail
    refine HWF.mono ?_
    rintro e w3 ⟨wv, wd, rfl, hwl, hwn, how, hb3⟩
    have HLT : Hid (Lt c wd) := fun r hr => by rw [HCL.out]; exact hwn r hr
    have HWL : Hid (wd.length = many) := hwl
    have HB3 : Hid (Below w2.heap.size w2 w3) := hb3
    have HM3 : Hid (Mat w3.heap.size 22 3 w3 (.slice co n cc) c) := (HM1.out.below hb3 (Nat.le_refl _)).any (Nat.le_refl _)
    have HS3 : Hid (Sl 0 3 w3 wv (ints (natsI wd))) := Sl.own how
    have HBW3 : Hid (Below w.heap.size w w3) := HB1.out.trans (hb3.mono HB1.out.size)
    obtain ⟨wo, wc, hwv⟩ := owns_form how
    subst hwv
    have HPB1 := HPB.out n w3 hn1 hn4
    clear HWF hwl hwn how hb3 HPB HV HRR
    go_wp2_with fail
    refine HPB1.mono ?_
    rintro e w4 ⟨sz, rfl, ⟨hs0, hs1⟩, rfl⟩
    obtain ⟨s, rfl⟩ : ∃ k : Nat, sz = (k : Int) := ⟨sz.toNat, by omega⟩
    have hsn : s < n := by omega
    -- the calls from here on, over whatever world lies above w4
    have HMA : Hid (∀ W, Below w4.heap.size w4 W → Mat W.heap.size 22 3 W (.slice co n cc) c) := fun W h => (HM3.out.below h (Nat.le_refl _)).any (Nat.le_refl _)
    have HSA : Hid (∀ W, Below w4.heap.size w4 W → Sl W.heap.size 3 W (.slice wo many wc) (ints (natsI wd))) := fun W h => (HS3.out.below h (Nat.le_refl _)).more (Nat.zero_le _)
    have HRE : Hid (∀ W l lv, Below w4.heap.size w4 W → Lt c l → l.length ≤ 40 → Sl 0 3 W lv (ints (natsI l)) → Calls Try.prog 7 #[.slice co n cc, lv] W fun e w' => ∃ u, e = .returned (.tuple #[u, .int .i64 0]) ∧ w'.ownsRow W.heap.size 3 1 u (rdW c l).length (ints (natsI (rdW c l))) ∧ Below W.heap.size W w') := fun W l lv h1 h2 h3 h4 => reduceW_any n c R l _ lv W HG.out h2 h3 (HMA.out W h1) (h4.more (Nat.zero_le _))
    have HR1 := HRE.out w4 wd _ (Below.refl _ _) HLT.out (by rw [HWL.out]; omega) HS3.out
    have hsc : s < c.length := by rw [HCL.out]; exact hsn
    have HLS : Hid (Lt c (wd ++ [s])) := lt_app HLT.out (fun r hr => by rw [List.mem_singleton] at hr; omega)
    have HLSS : Hid (Lt c (wd ++ [s, s])) := lt_app HLT.out (fun r hr => by simp at hr; omega)
    have hxl : (rdW c wd).length ≤ many := by have := rd_len_le HG.out HLT.out; rw [HWL.out] at this; exact this
    have HXT : Hid (Lt c (rdW c wd)) := (rd_all HG.out HLT.out).2.1
    have HSM : Hid (∀ W xv, Below w4.heap.size w4 W → Sl 0 3 W xv (ints (natsI (rdW c wd))) → Calls Try.prog 8 #[.slice co n cc, .slice wo many wc, xv] W fun e w' => e = .returned (.tuple #[.bool true, .int .i64 0]) ∧ Below W.heap.size W w') := fun W xv h1 h2 => by
      have h := sameW_any n c R wd (rdW c wd) (.slice co n cc) (.slice wo many wc) xv W HG.out HLT.out HXT.out (by rw [HWL.out]; omega) (by omega) (HMA.out W h1) (HSA.out W h1) (h2.more (Nat.zero_le _))
      have e : (tak c wd (ones n) == tak c (rdW c wd) (ones n)) = true := by
        have := (rd_all HG.out HLT.out).2.2.1
        rw [HCL.out] at this
        rw [this]
        simp
      rw [e] at h
      exact h
    have HNL : Hid ((natsI wd).length = many) := by rw [natsI_len]; exact HWL.out
    have HCP : Hid (∀ W, Below w4.heap.size w4 W → Calls Try.prog 9 #[.slice wo many wc] W fun e w' => ∃ u, e = .returned u ∧ w'.ownsRow W.heap.size 3 1 u many (ints (natsI wd)) ∧ Below W.heap.size W w') := fun W h => by
      have h := copy_any W.heap.size (natsI wd) (.slice wo many wc) W (HSA.out W h) (by rw [HNL.out]; omega)
      rw [HNL.out] at h
      exact h
    have HEN : Hid (∀ W, Below w4.heap.size w4 W → Calls Try.prog 10 #[.slice co n cc, .slice wo many wc] W fun e w' => ∃ u, e = .returned (.tuple #[u, .int .i64 0]) ∧ w'.ownsRow W.heap.size 3 1 u (enL (fwd c wd (ones n)) n).length (ints (natsI (enL (fwd c wd (ones n)) n))) ∧ Below W.heap.size W w') := fun W h => endsW_any n c R wd _ _ W HG.out HLT.out (by rw [HWL.out]; omega) (HMA.out W h) (HSA.out W h)
    have HRY : Hid (∀ W lv, Below w4.heap.size w4 W → Sl 0 3 W lv (ints (natsI (wd ++ [s]))) → Calls Try.prog 7 #[.slice co n cc, lv] W fun e w' => ∃ u, e = .returned (.tuple #[u, .int .i64 0]) ∧ w'.ownsRow W.heap.size 3 1 u (rdW c (wd ++ [s])).length (ints (natsI (rdW c (wd ++ [s])))) ∧ Below W.heap.size W w') := fun W lv h1 h2 => HRE.out W _ lv h1 HLS.out (by rw [List.length_append, HWL.out]; simp; omega) h2
    have HRZ : Hid (∀ W lv, Below w4.heap.size w4 W → Sl 0 3 W lv (ints (natsI (wd ++ [s, s]))) → Calls Try.prog 7 #[.slice co n cc, lv] W fun e w' => ∃ u, e = .returned (.tuple #[u, .int .i64 0]) ∧ w'.ownsRow W.heap.size 3 1 u (rdW c wd).length (ints (natsI (rdW c wd))) ∧ Below W.heap.size W w') := fun W lv h1 h2 => by
      have h := HRE.out W _ lv h1 HLSS.out (by rw [List.length_append, HWL.out]; simp; omega) h2
      rw [rd_twice HG.out wd hsc] at h
      exact h
    obtain ⟨hy1, hy2⟩ := rd_ends HG.out HLT.out hsn
    have HY1 : Hid _ := hy1
    have HY2 : Hid _ := hy2
    have HSPL : Hid (ints (natsI (wd ++ [s])) = ints (natsI wd) ++ [.int .i64 (s : Int)]) := by show _ = _; simp [ints, natsI]
    have HSPL2 : Hid (ints (natsI (wd ++ [s, s])) = ints (natsI wd) ++ [.int .i64 (s : Int), .int .i64 (s : Int)]) := by show _ = _; simp [ints, natsI]
    generalize rdW c (wd ++ [s]) = Y at *
    generalize rdW c wd = X at *
    generalize enL (fwd c wd (ones n)) n = E at *
    clear HPB1 HRE HLS HLSS HXT hy1 hy2 HMA HSA hsc HM3 HM1
    go_wp2_with fail
    refine HR1.mono ?_
    rintro e w5 ⟨xv, rfl, hox, hb5⟩
    obtain ⟨xo, xc, hxv⟩ := owns_form hox
    subst hxv
    have HX5 : Hid (Sl 0 3 w5 (.slice xo X.length xc) (ints (natsI X))) := Sl.own hox
    have HB5 : Hid (Below w4.heap.size w4 w5) := hb5
    have HC1 := HSM.out w5 _ hb5 HX5.out
    clear hox hb5 HR1 HSM
    go_wp2_with fail
    refine HC1.mono ?_
    rintro e w6 ⟨rfl, hb6⟩
    have HX6 : Hid (Sl 0 3 w6 (.slice xo X.length xc) (ints (natsI X))) := HX5.out.below hb6 (Nat.le_refl _)
    have HB6 : Hid (Below w4.heap.size w4 w6) := HB5.out.trans (hb6.mono HB5.out.size)
    have HC2 := HCP.out w6 HB6.out
    clear hb6 HC1 HX5 HB5
    go_wp2_with fail
    refine HC2.mono ?_
    rintro e w7 ⟨uv, rfl, hou, hb7⟩
    obtain ⟨uo, uc, huv⟩ := owns_form hou
    subst huv
    have HU7 : Hid (w7.ownsRow w6.heap.size 3 1 (.slice uo many uc) many (ints (natsI wd))) := hou
    have HX7 : Hid (Sl 0 3 w7 (.slice xo X.length xc) (ints (natsI X))) := HX6.out.below hb7 (Nat.le_refl _)
    have HB7 : Hid (Below w6.heap.size w6 w7) := hb7
    have hsz7 : w6.heap.size ≤ w7.heap.size := hb7.size
    have HX6L : Hid (∀ W, Below w6.heap.size w6 W → Sl 0 3 W (.slice xo X.length xc) (ints (natsI X))) := fun W h => HX6.out.below h (Nat.le_refl _)
    clear hou hb7 HC2
    go_wp2_with (first | (at_builtin; refine wpList_append_own _ rfl _ _ 22 rfl w6.heap.size 3 i3 (.int .i64 0) 1 8 Try.underlying22 hi3 hz30 hz31 hz32 rfl (by decide) _ _ _ rfl (HU7.out.alloc _) ⟨w7.heap.size, 0, none⟩ 1 1 [.int .i64 (s : Int)] rfl rfl (one_new _ _ _) (one_int _) ?c3 ?c4 ?c5 ?_))
    case c3 => unfold maxLen; omega
    case c4 => omega
    case c5 => simp; omega
    intro v8 w8 ho8 hg8 _
    have hb8 : Below w6.heap.size w6 w8 := (HB7.out.alloc hsz7 _).grown hg8 (by simp; omega) (fun x hx => (HU7.out.lt x hx).1)
    have HB8 : Hid (Below w4.heap.size w4 w8) := HB6.out.trans (hb8.mono HB6.out.size)
    have HX8 : Hid (Sl 0 3 w8 (.slice xo X.length xc) (ints (natsI X))) := HX6L.out w8 hb8
    have hv8 : Sl 0 3 w8 v8 (ints (natsI (wd ++ [s]))) := by rw [HSPL.out]; exact Sl.own ho8
    have HC3 := HRY.out w8 v8 HB8.out hv8
    obtain ⟨vo8, vc8, hvv8⟩ := owns_form ho8
    subst hvv8
    clear ho8 hg8 hb8 hv8 HU7 HX7 HX6 HB7 HRY HX6L HB6
    go_wp2_with fail
    refine HC3.mono ?_
    rintro e w9 ⟨yv, rfl, hoy, hb9⟩
    obtain ⟨yo, yc, hyv⟩ := owns_form hoy
    subst hyv
    have HB9 : Hid (Below w4.heap.size w4 w9) := HB8.out.trans (hb9.mono HB8.out.size)
    have HX9 : Hid (Sl 0 3 w9 (.slice xo X.length xc) (ints (natsI X))) := HX8.out.below hb9 (Nat.le_refl _)
    have HC4 := HCP.out w9 HB9.out
    clear hoy hb9 HC3 HB8 HX8
    go_wp2_with fail
    refine HC4.mono ?_
    rintro e w10 ⟨uv, rfl, hou, hb10⟩
    obtain ⟨uo2, uc2, huv⟩ := owns_form hou
    subst huv
    have HU10 : Hid (w10.ownsRow w9.heap.size 3 1 (.slice uo2 many uc2) many (ints (natsI wd))) := hou
    have HB10 : Hid (Below w9.heap.size w9 w10) := hb10
    have hsz10 : w9.heap.size ≤ w10.heap.size := hb10.size
    clear hou hb10 HC4
    go_wp2_with (first | (at_builtin; refine wpList_append_own _ rfl _ _ 22 rfl w9.heap.size 3 i3 (.int .i64 0) 1 8 Try.underlying22 hi3 hz30 hz31 hz32 rfl (by decide) _ _ _ rfl (HU10.out.alloc _) ⟨w10.heap.size, 0, none⟩ 2 2 [.int .i64 (s : Int), .int .i64 (s : Int)] rfl rfl (two_new _ _ _) (two_int _) ?c3 ?c4 ?c5 ?_))
    case c3 => unfold maxLen; omega
    case c4 => omega
    case c5 => simp; omega
    intro v11 w11 ho11 hg11 _
    have hb11 : Below w9.heap.size w9 w11 := (HB10.out.alloc hsz10 _).grown hg11 (by simp; omega) (fun x hx => (HU10.out.lt x hx).1)
    have HB11 : Hid (Below w4.heap.size w4 w11) := HB9.out.trans (hb11.mono HB9.out.size)
    have HX11 : Hid (Sl 0 3 w11 (.slice xo X.length xc) (ints (natsI X))) := HX9.out.below hb11 (Nat.le_refl _)
    have hv11 : Sl 0 3 w11 v11 (ints (natsI (wd ++ [s, s]))) := by rw [HSPL2.out]; exact Sl.own ho11
    have HC5 := HRZ.out w11 v11 HB11.out hv11
    obtain ⟨vo11, vc11, hvv11⟩ := owns_form ho11
    subst hvv11
    clear ho11 hg11 hb11 hv11 HU10 HX9 HB10 HRZ HB9 HCP
    go_wp2_with fail
    refine HC5.mono ?_
    rintro e w12 ⟨zv, rfl, hoz, hb12⟩
    obtain ⟨zo, zc, hzv⟩ := owns_form hoz
    subst hzv
    have HB12 : Hid (Below w4.heap.size w4 w12) := HB11.out.trans (hb12.mono HB11.out.size)
    have HX12 : Hid (Sl 0 3 w12 (.slice xo X.length xc) (ints (natsI X))) := HX11.out.below hb12 (Nat.le_refl _)
    have HZ12 : Hid (Sl 0 3 w12 (.slice zo X.length zc) (ints (natsI X))) := Sl.own hoz
    have HC6 := HEN.out w12 HB12.out
    clear hoz hb12 HC5 HB11 HX11 HEN
    go_wp2_with fail
    refine HC6.mono ?_
    rintro e w13 ⟨ev, rfl, hoe, hb13⟩
    obtain ⟨eo, ec, hev⟩ := owns_form hoe
    subst hev
    have HB13 : Hid (Below w4.heap.size w4 w13) := HB12.out.trans (hb13.mono HB12.out.size)
    have HX13 : Hid (Sl 0 3 w13 (.slice xo X.length xc) (ints (natsI X))) := HX12.out.below hb13 (Nat.le_refl _)
    have HZ13 : Hid (Sl 0 3 w13 (.slice zo X.length zc) (ints (natsI X))) := HZ12.out.below hb13 (Nat.le_refl _)
    have HE13 : Hid (Sl 0 3 w13 (.slice eo E.length ec) (ints (natsI E))) := Sl.own hoe
    have HC7 : Hid (Calls Try.prog 11 #[.slice xo X.length xc, .slice zo X.length zc] w13 fun e w' => e = .returned (.bool true) ∧ ∃ n, w' = w13.drewN n) := by
      have h := same_any 0 (natsI X) (natsI X) _ _ w13 HX13.out HZ13.out
      show Calls _ _ _ _ _
      simpa using h
    have hXI : ¬ (many : Int) < (X.length : Int) := by omega
    clear hoe hb13 HC6 HB12 HX12 HZ12
    go_wp2_with fail
    refine HC7.out.mono ?_
    rintro e w14 ⟨rfl, k, rfl⟩
    have HB14 : Hid (Below w4.heap.size w4 (w13.drewN k)) := HB13.out.trans ⟨rfl, rfl, rfl, Nat.le_refl _, fun _ _ => rfl⟩
    have HBF : Hid (Below w.heap.size w (w13.drewN k)) := HBW3.out.trans (HB14.out.mono HBW3.out.size)
    have HC8 := inT_any 0 (s : Int) (natsI E) (.slice eo E.length ec) (w13.drewN k) (HE13.out.drewN k)
    rw [natsI_mem] at HC8
    clear HC7 HX13 HZ13 HE13 HB13 HB14
    by_cases hin : s ∈ E
    · rw [decide_eq_true hin] at HC8
      have hyx := HY1.out hin
      clear hin
      go_wp2_with fail
      refine HC8.mono ?_
      rintro e w15 ⟨rfl, rfl⟩
      go_wp2
      go_ret
      exact ⟨ret_bool (by first | rfl | (rw [beq_iff_eq]; omega) | (simp; omega)), HBF.out⟩
    · rw [decide_eq_false hin] at HC8
      have hyx := HY2.out hin
      clear hin
      go_wp2_with fail
      refine HC8.mono ?_
      rintro e w15 ⟨rfl, rfl⟩
      go_wp2
      go_ret
      exact ⟨ret_bool (by first | rfl | (rw [beq_iff_eq]; omega) | (simp; omega)), HBF.out⟩

end Go.Proofs.Yteddigbjmhnfbaa
