/- TopBruhat: the law's walk. -/
import Derived.Test.YtekifompoefhbaaBr3
import Derived.Test.YtekifompoefhbaaWm4
import Derived.Test.YtekifompoefhbaaWk9
import Derived.Test.YtekifompoefhbaaWn7
import Derived.Test.YtekifompoefhbaaTw1
namespace Go.Proofs.Ytekifompoefhbaa
open Go.RowKit
attribute [local go_sem ↓] Go.wp_at_zero Go.wp_at_succ

theorem fr_mat {B : Nat} {w : World} {v : Value} {m : List (List Int)} (h : Fr B 22 3 w v m) : Mat w.heap.size 22 3 w v m := by
  obtain ⟨vs, h1, h2, h3⟩ := h
  exact ⟨vs, h1, Sl.own h2, fun i hi => (h3 i hi).more (Nat.zero_le _)⟩

theorem wrap_in64 (z : Int) : In64 (wrap64 z) := by
  unfold In64 wrap64; omega

theorem take_snoc {l : List Nat} {k : Nat} (hk : k < l.length) : l.take (k + 1) = l.take k ++ [l.getD k 0] := by
  rw [List.take_succ_eq_append_getElem hk]
  simp [hk]

set_option maxRecDepth 100000 in
set_option maxHeartbeats 6400000 in
theorem topBruhat_any (B : Nat) (raw : List Int) (d0 m0 a0 b0 : Int) (v : Value) (w : World) (hv : Sl B 3 w v (ints raw)) (hr : ∀ z ∈ raw, In64 z) (hd : In64 d0) (hm : In64 m0) (ha : In64 a0) :
    Calls Try.prog 3 #[v, .int .i64 d0, .int .i64 m0, .int .i64 a0, .int .i64 b0] w fun e w' => e = .returned (.bool true) ∧ Below w.heap.size w w' := by
  obtain ⟨i3, hi3, hz30, hz31, hz32⟩ := info_parts Try.info3
  obtain ⟨ao, cap, hvv, hlc, hcm⟩ := sl_open hv
  subst hvv
  by_cases hlen : 256 < raw.length
  · have hl2 : (256 : Int) < (raw.length : Int) := by omega
    clear hv hr
    go_enter Try.func3, Try.ntmps3
    go_wp2
    go_ret
    exact ⟨rfl, Below.refl _ _⟩
  · have hl2 : ¬ (256 : Int) < (raw.length : Int) := by omega
    have HV : Hid (Sl B 3 w (.slice ao raw.length cap) (ints raw)) := hv
    have HRR : Hid (∀ z ∈ raw, In64 z) := hr
    have HRF := rootsFrom_any d0 m0 3 w hd hm (by decide) (by decide)
    have HPA : Hid (∀ W, Calls Try.prog 7 #[.int .i64 a0, .int .i64 12] W fun e w' => ∃ z, e = .returned (.int .i64 z) ∧ (0 ≤ z ∧ z < 12) ∧ w' = W) := fun W => pick_any a0 12 W (by decide) (by decide) ha
    have HPB : Hid (∀ z W, In64 z → Calls Try.prog 7 #[.int .i64 z, .int .i64 3] W fun e w' => ∃ z, e = .returned (.int .i64 z) ∧ (0 ≤ z ∧ z < 3) ∧ w' = W) := fun z W h => pick_any _ 3 W (by decide) (by decide) h
    clear hv hr hd hm ha
    go_enter Try.func3, Try.ntmps3
    go_wp2_with fail
    refine HRF.mono ?_
    rintro e w1 ⟨x, ps, o, rfl, ⟨hnm, hoo⟩, hfr, hb1⟩
    have hgd := gd_all hnm hoo
    generalize (mkL ps).length = n at hgd
    generalize posR (pmM o (mkL ps)) = R at hgd
    generalize pmM o (mkL ps) = c at *
    have HG : Hid (Gda n c R) := hgd
    have hcl : c.length = n := hgd.g.sq.len
    have hn1 := hgd.g.n1
    have hn4 := hgd.g.sq.n4
    have HCL : Hid (c.length = n) := hcl
    have HB1 : Hid (Below w.heap.size w w1) := hb1
    have HM1 : Hid (Mat w1.heap.size 22 3 w1 x c) := fr_mat hfr
    obtain ⟨co, cc, hxv⟩ : ∃ co cc, x = .slice co n cc := by
      obtain ⟨vs, g1, g2, g3⟩ := hfr
      obtain ⟨a, b, h⟩ := owns_form g2
      exact ⟨a, b, by rw [← hcl]; exact h⟩
    subst hxv
    have HPA1 := HPA.out w1
    clear HRF hnm hoo hfr hgd hcl hb1
    go_wp2_with fail
    refine HPA1.mono ?_
    rintro e w2 ⟨mz, rfl, ⟨hm0, hm1⟩, rfl⟩
    obtain ⟨many, rfl⟩ : ∃ k : Nat, mz = (k : Int) := ⟨mz.toNat, by omega⟩
    have HWF := wordFrom_any B raw (.slice ao raw.length cap) n many w2 (HV.out.below HB1.out (Nat.le_refl _)) HRR.out (by omega) hn1 (by omega) (by omega)
    clear HPA1 HPA
    go_wp2_with fail
    refine HWF.mono ?_
    rintro e w3 ⟨wv, wd, rfl, hwl, hwn, how, hb3⟩
    have HLT : Hid (Lt c wd) := fun r hr => by rw [HCL.out]; exact hwn r hr
    have HWL : Hid (wd.length = many) := hwl
    have HM3 : Hid (Mat w3.heap.size 22 3 w3 (.slice co n cc) c) := (HM1.out.below hb3 (Nat.le_refl _)).any (Nat.le_refl _)
    have HBW3 : Hid (Below w.heap.size w w3) := HB1.out.trans (hb3.mono HB1.out.size)
    have HR1 := reduceW_any n c R wd (.slice co n cc) wv w3 HG.out HLT.out (by rw [HWL.out]; omega) HM3.out ((Sl.own how).more (Nat.zero_le _))
    have hxl : (rdW c wd).length ≤ many := by have := rd_len_le HG.out HLT.out; rw [HWL.out] at this; exact this
    have HXT : Hid (Lt c (rdW c wd)) := (rd_all HG.out HLT.out).2.1
    have HXR : Hid (rdW c (rdW c wd) = rdW c wd) := rd_rd HG.out HLT.out
    obtain ⟨wo, wc, hwv⟩ := owns_form how
    subst hwv
    generalize rdW c wd = X at *
    clear HWF hwl hwn how hb3 HV HRR HM1
    go_wp2_with fail
    refine HR1.mono ?_
    rintro e w4 ⟨xv, rfl, hox, hb4⟩
    obtain ⟨xo, xc, hxv⟩ := owns_form hox
    subst hxv
    have HX4 : Hid (Sl 0 3 w4 (.slice xo X.length xc) (ints (natsI X))) := Sl.own hox
    have HB4 : Hid (Below w.heap.size w w4) := HBW3.out.trans (hb4.mono HBW3.out.size)
    have HM4 : Hid (Mat w4.heap.size 22 3 w4 (.slice co n cc) c) := (HM3.out.below hb4 (Nat.le_refl _)).any (Nat.le_refl _)
    clear hox hb4 HR1 HM3 HBW3 HB1
    go_wp2
    go_loopw [14, 15] (fun lv iv wr => ∃ (k : Nat) (l : List Nat), k ≤ X.length ∧ iv = .int .i64 k ∧ l.Sublist (X.take k) ∧ wr.ownsRow w4.heap.size 3 1 lv l.length (ints (natsI l)) ∧ Below w4.heap.size w4 wr) (fun _ iv _ => X.length - (intOf iv).toNat)
    case atStart => exact ⟨0, [], Nat.zero_le _, rfl, List.Sublist.refl _, World.ownsRow_nil _ _ _ _, Below.refl _ _⟩
    case round =>
      obtain ⟨k, l, hk, rfl, hsub, hot, hbr⟩ := hrel
      have HBR : Hid (Below w4.heap.size w4 wr) := hbr
      have hszr : w4.heap.size ≤ wr.heap.size := hbr.size
      obtain ⟨to, tc, htv⟩ := owns_form hot
      subst htv
      have HOT : Hid (wr.ownsRow w4.heap.size 3 1 (.slice to l.length tc) l.length (ints (natsI l))) := hot
      have HSU : Hid (l.Sublist (X.take k)) := hsub
      have hll : l.length ≤ k := by have := hsub.length_le; rw [List.length_take] at this; omega
      clear hot hbr hsub
      by_cases hlt : k < X.length
      · have HSX : Hid (Sl 0 3 wr (.slice xo X.length xc) (ints (natsI X))) := HX4.out.below HBR.out (Nat.le_refl _)
        obtain ⟨bo, oo, co', hs0, _, hck0⟩ := sl_cell HSX.out (k := k) (by rw [natsI_len]; exact hlt)
        have HTS : Hid (X.take (k + 1) = X.take k ++ [X.getD k 0]) := take_snoc hlt
        rw [natsI_at hlt] at hck0
        generalize X.getD k 0 = z at *
        have hs1 : xo = some ⟨bo, oo, none⟩ := by
          have := hs0
          simp only [Value.slice.injEq] at this
          exact this.1
        subst hs1
        clear hs0
        go_wp2_with fail
        have HPZ := HPB.out (wrap64 (b0 + wrap64 ((k : Int) * (k : Int)))) wr (wrap_in64 _)
        generalize wrap64 (b0 + wrap64 ((k : Int) * (k : Int))) = zz at *
        refine HPZ.mono ?_
        clear HPZ
        rintro e w5 ⟨pz, rfl, ⟨hp0, hp1⟩, rfl⟩
        by_cases hp : 0 < pz
        · have G2 : Hid (w5.ownsRow w4.heap.size 3 1 (.slice to l.length tc) (natsI l).length (ints (natsI l))) := by rw [natsI_len]; exact HOT.out
          have HNL : Hid ((natsI l).length = l.length) := natsI_len l
          go_wp2_with (first | (at_builtin; refine wpList_append_own _ rfl _ _ 22 rfl w4.heap.size 3 i3 (.int .i64 0) 1 8 Try.underlying22 hi3 hz30 hz31 hz32 rfl (by decide) _ _ _ rfl (G2.out.alloc _) ⟨w5.heap.size, 0, none⟩ 1 1 [.int .i64 (z : Int)] rfl rfl (one_new _ _ _) (one_int _) ?c3 ?c4 ?c5 ?_))
          case c3 => rw [HNL.out]; unfold maxLen; omega
          case c4 => rw [HNL.out]; omega
          case c5 => simp; omega
          intro v2 w6 ho hg _
          have RR := owns_push (z := (z : Int)) (N := (natsI l).length + 1) hszr (l := natsI l) G2.out HBR.out ho hg rfl
          have S1 : Hid (w6.ownsRow w4.heap.size 3 1 v2 (l ++ [z]).length (ints (natsI (l ++ [z])))) := by
            have h1 := RR.1
            rw [HNL.out] at h1
            show w6.ownsRow _ _ _ _ _ _
            simpa [natsI] using h1
          have S2 : Hid (Below w4.heap.size w4 w6) := RR.2
          have S3 : Hid ((l ++ [z]).Sublist (X.take (k + 1))) := by rw [HTS.out]; exact HSU.out.append (List.Sublist.refl _)
          obtain ⟨vo, vc, hv2⟩ := owns_form ho
          subst hv2
          clear ho hg RR
          go_wp2
          go_roundw
          case rel => exact ⟨k + 1, l ++ [z], by omega, by go_num, S3.out, S1.out, S2.out⟩
          case measure => simp [intOf]; omega
        · have S3 : Hid (l.Sublist (X.take (k + 1))) := by rw [HTS.out]; exact HSU.out.trans (List.sublist_append_left _ _)
          go_wp2
          go_roundw
          case rel => exact ⟨k + 1, l, by omega, by go_num, S3.out, HOT.out, HBR.out⟩
          case measure => simp [intOf]; omega
      · have hke : k = X.length := by omega
        subst hke
        have HSB : Hid (l.Sublist X) := by have := HSU.out; rw [List.take_length] at this; exact this
        have HLL : Hid (Lt c l) := lt_sub HSB.out HXT.out
        have hl40 : l.length ≤ 40 := by omega
        have HMA : Hid (∀ W, Below wr.heap.size wr W → Mat W.heap.size 22 3 W (.slice co n cc) c) := fun W h => (HM4.out.below (HBR.out.trans (h.mono hszr)) (Nat.le_refl _)).any (Nat.le_refl _)
        have HXA : Hid (∀ W, Below wr.heap.size wr W → Sl W.heap.size 3 W (.slice xo X.length xc) (ints (natsI X))) := fun W h => (HX4.out.below (HBR.out.trans (h.mono hszr)) (Nat.le_refl _)).more (Nat.zero_le _)
        have HLA : Hid (∀ W, Below wr.heap.size wr W → Sl W.heap.size 3 W (.slice to l.length tc) (ints (natsI l))) := fun W h => ((Sl.own HOT.out).below h (Nat.le_refl _)).more (Nat.zero_le _)
        obtain ⟨x0, hx0, ex0⟩ := long_some HG.out.rt
        have hx40 : (rdW c x0).length ≤ 40 := by
          have h1 := (rd_all HG.out hx0).1
          have h2 : nB c.length R (tak c x0 (ones c.length)) ≤ R.length := List.countP_le_length
          have := HG.out.rl
          omega
        obtain ⟨q, hq⟩ : ∃ q, q = (tak c X (ones n) == tak c l (ones n)) := ⟨_, rfl⟩
        have HC1 : Hid (∀ W, Below wr.heap.size wr W → Calls Try.prog 8 #[.slice co n cc, .slice to l.length tc, .slice xo X.length xc] W fun e w' => e = .returned (.tuple #[.bool true, .int .i64 0]) ∧ Below W.heap.size W w') := fun W h => by
          have := below_any n c R l X _ _ _ W HG.out HLL.out HXT.out hl40 (by omega) (HMA.out W h) (HLA.out W h) (HXA.out W h)
          rw [bl_part HG.out HXT.out HXR.out HSB.out] at this
          exact this
        have HC2 : Hid (∀ W, Below wr.heap.size wr W → Calls Try.prog 8 #[.slice co n cc, .slice xo X.length xc, .slice to l.length tc] W fun e w' => e = .returned (.tuple #[.bool q, .int .i64 0]) ∧ Below W.heap.size W w') := fun W h => by
          have := below_any n c R X l _ _ _ W HG.out HXT.out HLL.out (by omega) hl40 (HMA.out W h) (HXA.out W h) (HLA.out W h)
          rw [bl_same HG.out HXT.out HXR.out HSB.out, ← hq] at this
          exact this
        have HC3 : Hid (∀ W, Below wr.heap.size wr W → Calls Try.prog 9 #[.slice co n cc] W fun e w' => ∃ u, e = .returned (.tuple #[u, .int .i64 0]) ∧ w'.ownsRow W.heap.size 3 1 u (rdW c x0).length (ints (natsI (rdW c x0))) ∧ Below W.heap.size W w') := fun W h => longest_any n c R x0 _ W HG.out hx0 ex0 (HMA.out W h)
        have HC4 : Hid (∀ W u, Below wr.heap.size wr W → Sl 0 3 W u (ints (natsI (rdW c x0))) → Calls Try.prog 8 #[.slice co n cc, .slice xo X.length xc, u] W fun e w' => e = .returned (.tuple #[.bool true, .int .i64 0]) ∧ Below W.heap.size W w') := fun W u h h2 => by
          have := below_any n c R X (rdW c x0) _ _ u W HG.out HXT.out (rd_all HG.out hx0).2.1 (by omega) hx40 (HMA.out W h) (HXA.out W h) (h2.more (Nat.zero_le _))
          rw [bl_long HG.out HXT.out hx0 ex0] at this
          exact this
        have HC5 : Hid (∀ W, Below wr.heap.size wr W → Calls Try.prog 10 #[.slice co n cc, .slice xo X.length xc, .slice to l.length tc] W fun e w' => e = .returned (.tuple #[.bool q, .int .i64 0]) ∧ Below W.heap.size W w') := fun W h => by
          have := sameW_any n c R X l _ _ _ W HG.out HXT.out HLL.out (by omega) hl40 (HMA.out W h) (HXA.out W h) (HLA.out W h)
          rw [← hq] at this
          exact this
        have HBF : Hid (Below w.heap.size w wr) := HB4.out.trans (HBR.out.mono HB4.out.size)
        generalize rdW c x0 = T at *
        clear hx0 ex0 hx40 hq HMA HXA HLA HG HM4 HX4 HOT HSU HSB HLL HXT HXR HPB HB4 HBR
        have D1 := HC1.out wr (Below.refl _ _)
        clear HC1
        go_wp2_with fail
        refine D1.mono ?_
        rintro e u1 ⟨rfl, hb1⟩
        have E1 : Hid (Below wr.heap.size wr u1) := hb1
        have D2 := HC2.out u1 hb1
        clear hb1 D1 HC2
        go_wp2_with fail
        refine D2.mono ?_
        rintro e u2 ⟨rfl, hb2⟩
        have E2 : Hid (Below wr.heap.size wr u2) := E1.out.trans (hb2.mono E1.out.size)
        have D3 := HC3.out u2 E2.out
        clear hb2 D2 HC3 E1
        go_wp2_with fail
        refine D3.mono ?_
        rintro e u3 ⟨uu, rfl, hou, hb3⟩
        have E3 : Hid (Below wr.heap.size wr u3) := E2.out.trans (hb3.mono E2.out.size)
        have D4 := HC4.out u3 uu E3.out (Sl.own hou)
        obtain ⟨uo, uc, huv⟩ := owns_form hou
        subst huv
        clear hou hb3 D3 HC4 E2
        go_wp2_with fail
        refine D4.mono ?_
        rintro e u4 ⟨rfl, hb4⟩
        have E4 : Hid (Below wr.heap.size wr u4) := E3.out.trans (hb4.mono E3.out.size)
        have D5 := HC5.out u4 E4.out
        clear hb4 D4 HC5 E3
        go_wp2_with fail
        refine D5.mono ?_
        rintro e u5 ⟨rfl, hb5⟩
        have E5 : Hid (Below w.heap.size w u5) := HBF.out.trans ((E4.out.trans (hb5.mono E4.out.size)).mono HBF.out.size)
        clear hb5 D5 E4
        cases q with
        | false =>
          go_wp2
          go_ret
          exact ⟨ret_bool (by first | rfl | decide | simp), E5.out⟩
        | true =>
          go_wp2
          go_ret
          exact ⟨ret_bool (by first | rfl | decide | simp), E5.out⟩

end Go.Proofs.Ytekifompoefhbaa
