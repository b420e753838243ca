import Derived.Test.YtkgljfnbaoncbaaDo6
import Derived.Test.YtkgljfnbaoncbaaMgAB
import Derived.Deep.RegionHeld3
import Derived.Deep.RegionLaw
import Derived.Maps.AppendAt
/- The document's Reduced and EndsOf. -/
namespace Go.Proofs.Ytkgljfnbaoncbaa
open Go.RowKit
attribute [local go_sem ↓] Go.wp_at_zero Go.wp_at_succ

theorem fneg_first {v : List Int} {i : Nat} (hi : i < v.length) (hn : v.getD i 0 < 0) (h : ∀ j, j < i → 0 ≤ v.getD j 0) : fneg v = some i := by
  unfold fneg
  rw [List.findIdx?_eq_some_iff_getElem]
  refine ⟨hi, by simpa [hi] using hn, fun j hj => ?_⟩
  have := h j hj
  have hjl : j < v.length := by omega
  simp only [List.getD_eq_getElem?_getD, List.getElem?_eq_getElem hjl, Option.getD_some] at this
  simp; omega

theorem nB_cons {c R : List (List Int)} (h : Rt c R) {w : List Nat} {i : Nat} (hi : i < c.length) (hw : Lt c w) : nB c.length R (tak c (i :: w) (ones c.length)) < nB c.length R (tak c w (ones c.length)) ↔ (tak c w (ones c.length)).getD i 0 < 0 := by
  have h1 := nB_ov h (tak c w (ones c.length)) hi
  have h2 := tak_no0 h hi hw
  have e : tak c (i :: w) (ones c.length) = ovL c (tak c w (ones c.length)) i := rfl
  rw [e]
  constructor
  · intro hl
    refine Classical.byContradiction fun hn => ?_
    have := h1.1 (by omega)
    omega
  · intro hl
    have := h1.2 hl
    omega

theorem some_neg {c R : List (List Int)} (h : Rt c R) {v : List Int} (h0 : 0 < nB c.length R v) : ∃ k, k < c.length ∧ v.getD k 0 < 0 := by
  refine Classical.byContradiction fun hno => ?_
  have := dom_nB h (v := v) fun k hk => by
    have h1 : ¬ v.getD k 0 < 0 := fun h2 => hno ⟨k, hk, h2⟩
    omega
  omega

theorem natsI_cons (i : Nat) (l : List Nat) : ints (natsI (i :: l)) = [.int .i64 (i : Int)] ++ ints (natsI l) := rfl

theorem natsI_app (l : List Nat) (i : Nat) : ints (natsI (l ++ [i])) = ints (natsI l) ++ [.int .i64 (i : Int)] := by simp [ints, natsI]

set_option maxRecDepth 100000 in
set_option maxHeartbeats 3200000 in
theorem reducedD_any (n : Nat) (c R d : List (List Int)) (t : Nat → Int) (wd : List Nat) (cv wv : Value) (w : World) (h : Wg n c R d t) (hw : Lt c wd) (hwl : wd.length ≤ 900) (hm : Mat w.heap.size 26 3 w cv c) (hwv : Sl w.heap.size 3 w wv (ints (natsI wd))) :
    Calls Try.prog 17 #[cv, wv] w fun e w' => ∃ u, e = .returned u ∧ w'.ownsRow w.heap.size 3 1 u (rdW c wd).length (ints (natsI (rdW c wd))) ∧ Below w.heap.size w w' := by
  obtain ⟨i3, hi3, hz30, hz31, hz32⟩ := info_parts Try.info3
  have hcl := h.g.g.sq.len
  have hn1 := h.g.g.n1
  have hn4 := h.g.g.sq.n4
  have HSH : Hid (∀ x xv W, Below w.heap.size w W → Lt c x → x.length ≤ 1000 → Sl W.heap.size 3 W xv (ints (natsI x)) → Calls Try.prog 15 #[cv, xv] W fun e w' => e = .returned (.int .i64 (nB c.length R (tak c x (ones c.length)) : Nat)) ∧ Below W.heap.size W w') := fun x xv W h1 h2 h3 h4 => short_any n c R d t x cv xv W h h2 h3 ((hm.below h1 (Nat.le_refl _)).any (Nat.le_refl _)) h4
  have H0 : Hid (Calls Try.prog 15 #[cv, wv] w fun e w' => e = .returned (.int .i64 (nB c.length R (tak c wd (ones c.length)) : Nat)) ∧ Below w.heap.size w w') := short_any n c R d t wd cv wv w h hw (by omega) hm hwv
  have HG : Hid (Gda n c R) := h.g
  have HLW : Hid (Lt c wd) := hw
  have HCL : Hid (c.length = n) := hcl
  obtain ⟨ao, cap, hvv, _, _⟩ := mat_open hm
  subst hvv
  obtain ⟨wo, wc, hwvv, _, _⟩ := sl_open hwv
  subst hwvv
  have HWV : Hid (Sl w.heap.size 3 w (.slice wo (natsI wd).length wc) (ints (natsI wd))) := hwv
  rw [natsI_len] at HWV H0 ⊢
  clear h hw hm hwv
  obtain ⟨ln, hln⟩ : ∃ ln : List Nat → Nat, ln = fun x => nB c.length R (tak c x (ones c.length)) := ⟨_, rfl⟩
  have HLE : Hid (∀ x, nB c.length R (tak c x (ones c.length)) = ln x) := fun x => by rw [hln]
  have HLB : Hid (∀ x, ln x ≤ 24) := fun x => by rw [hln]; exact Nat.le_trans List.countP_le_length HG.out.rl
  have HSH2 : Hid (∀ x xv W, Below w.heap.size w W → Lt c x → x.length ≤ 1000 → Sl W.heap.size 3 W xv (ints (natsI x)) → Calls Try.prog 15 #[.slice ao n cap, xv] W fun e w' => e = .returned (.int .i64 (ln x : Nat)) ∧ Below W.heap.size W w') := fun x xv W h1 h2 h3 h4 => by
    have := HSH.out x xv W h1 h2 h3 h4
    rw [HLE.out, HCL.out] at this
    exact this
  rw [HLE.out] at H0
  rw [HCL.out] at H0 ⊢
  have HNC : Hid (∀ x i, Lt c x → i < n → (ln (i :: x) < ln x ↔ (tak c x (ones c.length)).getD i 0 < 0)) := fun x i h1 h2 => by
    rw [← HLE.out, ← HLE.out]
    exact nB_cons HG.out.rt (by rw [HCL.out]; exact h2) h1
  have HSN : Hid (∀ x, 0 < ln x → ∃ k, k < n ∧ (tak c x (ones c.length)).getD k 0 < 0) := fun x h0 => by
    rw [← HLE.out] at h0
    obtain ⟨k, h1, h2⟩ := some_neg HG.out.rt h0
    exact ⟨k, by rw [← HCL.out]; exact h1, h2⟩
  have HTL : Hid (∀ x, (tak c x (ones c.length)).length = n) := fun x => by rw [← HCL.out]; exact tak_len (by simp [ones]) x
  have HNI : Hid (ln [] = 0) := by
    rw [← HLE.out]; exact ones_nB HG.out.rt
  have HRN : Hid (∀ x, Lt c x → ln x = 0 → rdW c x = []) := fun x h1 h2 => rd_nil HG.out h1 (by rw [HLE.out]; exact h2)
  have HLN : Hid (∀ x, nB c.length R (tak c x (ones c.length)) = ln x) := HLE.out
  clear hln HSH HLE
  go_enter Try.func17, Try.ntmps17
  go_wp2_with fail
  refine H0.out.mono ?_
  rintro e w1 ⟨rfl, hb1⟩
  have HB1 : Hid (Below w.heap.size w w1) := hb1
  have HW1 : Hid (Sl w1.heap.size 3 w1 (.slice wo wd.length wc) (ints (natsI wd))) := (HWV.out.below hb1 (Nat.le_refl _)).any (Nat.le_refl _)
  clear hb1 H0
  go_wp2
  go_loopw [1, 5, 6, 7, 8, 9] (fun xv ov nv _ _ _ wr => ∃ cur out : List Nat, Lt c cur ∧ cur.length = wd.length + out.length ∧ out.length + ln cur = ln wd ∧ out ++ rdW c cur = rdW c wd ∧ nv = .int .i64 (ln cur : Nat) ∧ Sl wr.heap.size 3 wr xv (ints (natsI cur)) ∧ wr.ownsRow w.heap.size 3 1 ov out.length (ints (natsI out)) ∧ Below w.heap.size w wr) (fun _ _ nv _ _ _ _ => (intOf nv).toNat)
  case atStart => exact ⟨wd, [], HLW.out, by simp, by simp, by simp, rfl, HW1.out, World.ownsRow_nil _ _ _ _, HB1.out⟩
  case round =>
    obtain ⟨cur, out, hlc, hle, hlo, hrd, rfl, hxs, hos, hbr⟩ := hrel
    have HLC : Hid (Lt c cur) := hlc
    have HRD : Hid (out ++ rdW c cur = rdW c wd) := hrd
    have hlb := HLB.out wd
    have hcb : cur.length ≤ 930 := by omega
    have HLL : Hid (cur.length = wd.length + out.length) := hle
    have HLO : Hid (out.length + ln cur = ln wd) := hlo
    have hob : out.length ≤ 24 := by omega
    clear hle hlo
    obtain ⟨xo, xc, hxv, _, _⟩ := sl_open hxs
    subst hxv
    rw [natsI_len] at hxs ⊢
    have HXS : Hid (Sl wr.heap.size 3 wr (.slice xo cur.length xc) (ints (natsI cur))) := hxs
    obtain ⟨oo, oc, hov⟩ := owns_form hos
    subst hov
    have HOS : Hid (wr.ownsRow w.heap.size 3 1 (.slice oo out.length oc) out.length (ints (natsI out))) := hos
    have HBR : Hid (Below w.heap.size w wr) := hbr
    have hsz : w.heap.size ≤ wr.heap.size := hbr.size
    clear hlc hrd hxs hos hbr
    by_cases h0 : 0 < ln cur
    · have hcu : 0 < cur.length := by
        rcases Nat.eq_zero_or_pos cur.length with e | e
        · have : cur = [] := List.eq_nil_of_length_eq_zero e
          rw [this, HNI.out] at h0
          omega
        · exact e
      obtain ⟨b3, o3, cp3, hs3, _, _⟩ := sl_cell HXS.out (k := 0) (by rw [natsI_len]; exact hcu)
      rw [natsI_len] at hs3
      simp only [Value.slice.injEq, true_and] at hs3
      obtain ⟨rfl, rfl⟩ := hs3
      obtain ⟨kn, hkn1, hkn2⟩ := HSN.out cur h0
      have HKN : Hid ((tak c cur (ones c.length)).getD kn 0 < 0) := hkn2
      clear hkn2
      generalize hC : ln cur = C at *
      have HC : Hid (ln cur = C) := hC
      clear hC
      have h0I : (0 : Int) < (C : Int) := by omega
      go_wp2
      go_loopw [1, 5, 6, 7, 8, 9] (fun xv ov nv iv _ _ wq => ∃ i : Nat, i ≤ n ∧ iv = .int .i64 i ∧ xv = .slice (some ⟨b3, o3, none⟩) cur.length xc ∧ ov = .slice oo out.length oc ∧ nv = .int .i64 (C : Nat) ∧ (∀ j, j < i → 0 ≤ (tak c cur (ones c.length)).getD j 0) ∧ Below wr.heap.size wr wq) (fun _ _ _ iv _ _ _ => n - (intOf iv).toNat)
      case atStart => exact ⟨0, Nat.zero_le _, rfl, rfl, rfl, rfl, fun j hj => absurd hj (by omega), Below.refl _ _⟩
      case round =>
        rename World => wa
        obtain ⟨i, hi, rfl, rfl, rfl, rfl, hno, hba⟩ := hrel
        have HNO : Hid (∀ j, j < i → 0 ≤ (tak c cur (ones c.length)).getD j 0) := hno
        have HBA : Hid (Below wr.heap.size wr wa) := hba
        have hsza : wr.heap.size ≤ wa.heap.size := hba.size
        have HBWA : Hid (Below w.heap.size w wa) := HBR.out.trans (hba.mono hsz)
        clear hno hba
        by_cases hlt : i < n
        · have HXA : Hid (Sl wa.heap.size 3 wa (.slice (some ⟨b3, o3, none⟩) cur.length xc) (ints (natsI cur))) := (HXS.out.below HBA.out (Nat.le_refl _)).any (Nat.le_refl _)
          have HLI : Hid (Lt c (i :: cur)) := lt_cons (by rw [HCL.out]; exact hlt) HLC.out
          have HIF : Hid (ln (i :: cur) < C ↔ (tak c cur (ones c.length)).getD i 0 < 0) := by
            have := HNC.out cur i HLC.out hlt
            rw [HC.out] at this
            exact this
          have HG0 : Hid ((wa.alloc (.cells #[.int .i64 (i : Int)] 3)).ownsRow wa.heap.size 3 1 (.slice (some ⟨wa.heap.size, 0, none⟩) 1 1) 1 [.int .i64 (i : Int)]) := World.ownsRow_lit wa #[.int .i64 (i : Int)] 1 (Nat.le_refl _) (by decide) rfl
          have HCC : Hid (∀ j u, (ints (natsI cur))[j]? = some u → (wa.alloc (.cells #[.int .i64 (i : Int)] 3)).cell? ((⟨b3, o3, none⟩ : Addr).add j) = some u) := sl_cells HXA.out _
          have HNL : Hid ((ints (natsI cur)).length = cur.length) := by
            show _ = _
            rw [ints_length, natsI_len]
          go_wp2_with (first | (at_builtin; refine wpList_append_own _ rfl _ _ 26 rfl wa.heap.size 3 i3 (.int .i64 0) 1 8 Try.underlying26 hi3 hz30 hz31 hz32 rfl (by decide) _ _ _ rfl HG0.out ⟨b3, o3, none⟩ cur.length xc (ints (natsI cur)) rfl ?e1 HCC.out (ints_oneCell' _) ?c3 ?c4 ?c5 ?_))
          case e1 => first | exact natsI_len cur | (rw [HNL.out]; omega)
          case c3 => unfold maxLen; omega
          case c4 => omega
          case c5 => first | (simp; done) | (simp; omega)
          intro v2 w4 ho hg _
          have HS4 : Hid (Sl w4.heap.size 3 w4 v2 (ints (natsI (i :: cur)))) := by
            rw [natsI_cons]
            exact Sl.own ho
          have HB4 : Hid (Below wa.heap.size wa w4) := ((Below.refl wa.heap.size wa).alloc (Nat.le_refl _) _).grown hg (by first | (simp; done) | (simp; omega)) (fun k hk => by simp [Value.ownBlock] at hk; try omega)
          have HOX : Hid (w4.ownsRow wa.heap.size 3 1 v2 (1 + cur.length) (ints (natsI (i :: cur)))) := by rw [natsI_cons]; exact ho
          obtain ⟨vo, vc, hv2⟩ := owns_form ho
          subst hv2
          have HB4W : Hid (Below w.heap.size w w4) := HBWA.out.trans (HB4.out.mono (Nat.le_trans hsz hsza))
          have HSC := HSH2.out (i :: cur) (.slice vo (1 + cur.length) vc) w4 HB4W.out HLI.out (by simp; omega) HS4.out
          clear ho hg HG0 HCC
          obtain ⟨K, hK⟩ : ∃ K, K = ln (i :: cur) := ⟨_, rfl⟩
          rw [← hK] at HSC HIF
          have HK : Hid (K = ln (i :: cur)) := hK
          clear hK
          go_wp2_with fail
          refine HSC.mono ?_
          rintro e w5 ⟨rfl, hb5⟩
          have HB5W : Hid (Below w.heap.size w w5) := HB4W.out.trans (hb5.mono HB4W.out.size)
          have HB5A : Hid (Below wa.heap.size wa w5) := HB4.out.trans (hb5.mono HB4.out.size)
          have HS5 : Hid (Sl w5.heap.size 3 w5 (.slice vo (1 + cur.length) vc) (ints (natsI (i :: cur)))) := (HS4.out.below hb5 (Nat.le_refl _)).any (Nat.le_refl _)
          have HOX5 : Hid (w5.ownsRow wa.heap.size 3 1 (.slice vo (1 + cur.length) vc) (1 + cur.length) (ints (natsI (i :: cur)))) := owns_below HOX.out hb5 (Nat.le_refl _)
          have HO5 : Hid (w5.ownsRow w.heap.size 3 1 (.slice oo out.length oc) out.length (ints (natsI out))) := owns_below (owns_below HOS.out HBA.out (Nat.le_refl _)) HB5A.out (Nat.le_refl _)
          have hsz5 : w.heap.size ≤ w5.heap.size := HB5W.out.size
          clear hb5 HSC HS4 HB4 HB4W
          by_cases hkc : K < C
          · have HNG : Hid ((tak c cur (ones c.length)).getD i 0 < 0) := HIF.out.1 hkc
            have HFN : Hid (fneg (tak c cur (ones c.length)) = some i) := fneg_first (by rw [HTL.out]; exact hlt) HNG.out HNO.out
            have HRC : Hid ((out ++ [i]) ++ rdW c (i :: cur) = rdW c wd) := by
              show _ = _
              rw [← HRD.out, rd_cons HG.out HLC.out HFN.out]; simp
            have hk1 : K + 1 = C := by
              have h1 := (nB_ov HG.out.rt (tak c cur (ones c.length)) (r := i) (by rw [HCL.out]; exact hlt)).2 HNG.out
              have h2 := HLN.out (i :: cur)
              have h3 := HLN.out cur
              rw [HK.out, ← HC.out, ← h2, ← h3]
              exact h1
            have hkcI : (K : Int) < (C : Int) := by omega
            have G2 : Hid (w5.ownsRow w.heap.size 3 1 (.slice oo out.length oc) (natsI out).length (ints (natsI out))) := by rw [natsI_len]; exact HO5.out
            have HOL : Hid ((natsI out).length = out.length) := natsI_len out
            go_wp2_with (first | (at_builtin; refine wpList_append_own _ rfl _ _ 26 rfl w.heap.size 3 i3 (.int .i64 0) 1 8 Try.underlying26 hi3 hz30 hz31 hz32 rfl (by decide) _ _ _ rfl (G2.out.alloc _) ⟨w5.heap.size, 0, none⟩ 1 1 [.int .i64 (i : Int)] rfl rfl (one_new _ _ _) (one_int _) ?c3 ?c4 ?c5 ?_))
            case c3 => rw [HOL.out]; unfold maxLen; omega
            case c4 => rw [HOL.out]; omega
            case c5 => simp; omega
            intro v7 w7 ho hg _
            have RR := owns_push (z := (i : Int)) (N := (natsI out).length + 1) hsz5 (l := natsI out) G2.out HB5W.out ho hg rfl
            have S1 : Hid (w7.ownsRow w.heap.size 3 1 v7 (out ++ [i]).length (ints (natsI (out ++ [i])))) := by
              have h1 := RR.1
              rw [HOL.out] at h1
              show w7.ownsRow _ _ _ _ _ _
              simpa [natsI] using h1
            have S2 : Hid (Below w.heap.size w w7) := RR.2
            have S3 : Hid (Sl w7.heap.size 3 w7 (.slice vo (1 + cur.length) vc) (ints (natsI (i :: cur)))) := by
              have hk := (HOX5.out.alloc _).kept hg (by
                cases hx : (Value.slice vo (1 + cur.length) vc).ownBlock with
                | none => exact Or.inl rfl
                | some k =>
                  refine Or.inr fun e => ?_
                  have h1 := (HOX5.out.lt k hx).1
                  have h2 := (HOS.out.lt k e.symm).2
                  omega)
              exact Sl.own hk
            obtain ⟨vo7, vc7, hv7⟩ := owns_form ho
            subst hv7
            clear ho hg RR
            go_wp2
            go_roundw
            case rel => exact ⟨i :: cur, out ++ [i], HLI.out, by have := HLL.out; simp; omega, by have := HLO.out; rw [← HK.out]; simp; omega, HRC.out, by rw [HK.out], S3.out, S1.out, S2.out⟩
            case measure => simp [intOf]; omega
          · have HNG : Hid (0 ≤ (tak c cur (ones c.length)).getD i 0) := by
              show _ ≤ _
              have : ¬ (tak c cur (ones c.length)).getD i 0 < 0 := fun h => hkc (HIF.out.2 h)
              omega
            have hkcI : ¬ (K : Int) < (C : Int) := by omega
            have HB6 : Hid (Below wr.heap.size wr w5) := HBA.out.trans (HB5A.out.mono hsza)
            go_wp2
            go_roundw
            case rel => exact ⟨i + 1, by omega, by go_num, rfl, rfl, rfl, fun j hj => by
              by_cases e : j = i
              · subst e; exact HNG.out
              · exact HNO.out j (by omega), HB6.out⟩
            case measure => simp [intOf]; omega
        · exact absurd HKN.out (by have := HNO.out kn (by omega); omega)
    · have HRE : Hid (rdW c wd = out) := by
        show _ = _
        rw [← HRD.out, HRN.out cur HLC.out (by omega)]; simp
      have HOE : Hid (wr.ownsRow w.heap.size 3 1 (.slice oo out.length oc) (rdW c wd).length (ints (natsI (rdW c wd)))) := by rw [HRE.out]; exact HOS.out
      have h0I : ¬ (0 : Int) < (ln cur : Int) := by omega
      generalize ln cur = C at *
      go_wp2
      go_ret
      exact ⟨_, rfl, HOE.out, HBR.out⟩

end Go.Proofs.Ytkgljfnbaoncbaa

/- The document's BelowOf: what parts of a word do, each once. -/
namespace Go.Proofs.Ytkgljfnbaoncbaa
open Go.RowKit
attribute [local go_sem ↓] Go.wp_at_zero Go.wp_at_succ

/-- Two lists of lists, each in a block of its own. -/
structure F2 (B : Nat) (w0 wr : World) (hv ov : Value) (HV WS : List (List Int)) : Prop where
  h : Fr B 26 3 wr hv HV
  o : Fr B 26 3 wr ov WS
  ap : Apart hv ov
  bel : Below B w0 wr

theorem F2.low {B : Nat} {w0 wr w' : World} {hv ov : Value} {HV WS : List (List Int)} (h : F2 B w0 wr hv ov HV WS) (hB : B ≤ wr.heap.size) (hb : Below wr.heap.size wr w') : F2 B w0 w' hv ov HV WS :=
  ⟨h.h.below hb (Nat.le_refl _), h.o.below hb (Nat.le_refl _), h.ap, h.bel.trans (hb.mono hB)⟩

theorem F2.push {B : Nat} {w0 wr w5 : World} {hv ov v' u : Value} {HV WS : List (List Int)} {vs : List Value} {zs : List Int} {ob : Obj} (h : F2 B w0 wr hv ov HV WS) (hB : B ≤ wr.heap.size)
    (g1 : vs.length = HV.length) (g2 : wr.ownsRow B 26 1 hv HV.length vs) (g3 : ∀ i, i < HV.length → Sl 0 3 wr (vs.getD i (.slice none 0 0)) (ints (HV.getD i []))) (hu : Sl 0 3 wr u (ints zs))
    (ho : w5.ownsRow B 26 1 v' (HV.length + 1) (vs ++ [u])) (hg : (wr.alloc ob).grownBy w5 hv.ownBlock) (hat : v'.ownBlock = hv.ownBlock ∨ v'.ownBlock = some (wr.heap.size + 1)) : F2 B w0 w5 v' ov (HV ++ [zs]) WS := by
  refine ⟨Fr.push (e2 := 26) (e1 := 3) (by decide) g1 (g2.alloc _) (fun i hi => (g3 i hi).alloc _) (hu.alloc _) ho hg, (h.o.alloc _).kept (by decide) (g2.alloc _) hg h.ap, fun g k1 k2 => ?_, (h.bel.alloc hB _).grown hg (by simp; omega) (fun x hx => (g2.lt x hx).1)⟩
  rcases hat with e | e
  · rw [e] at k1; exact h.ap g k1 k2
  · rw [e] at k1
    simp only [Option.some.injEq] at k1
    obtain ⟨_, _, q2, _⟩ := h.o
    have := (q2.lt g k2).2
    omega

theorem map_getD {ws : List (List Nat)} {q : Nat} (hq : q < ws.length) (f : List Nat → List Int) : (ws.map f).getD q [] = f (ws.getD q []) := by simp [hq]

theorem pre_getW8 {L M : List (List Nat)} {i : Nat} (h : L <+: M) (hi : i < L.length) : M.getD i [] = L.getD i [] := by
  obtain ⟨t, rfl⟩ := h
  simp only [List.getD_eq_getElem?_getD]
  rw [List.getElem?_append_left hi]

end Go.Proofs.Ytkgljfnbaoncbaa
