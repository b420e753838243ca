/- The law CrystalSays, of words that may be. -/
import Derived.Test.YtnooabbcfhmjaaaCr18
namespace Go.Proofs.Ytnooabbcfhmjaaa
open Go.RowKit
attribute [local go_sem ↓] Go.wp_at_zero Go.wp_at_succ

theorem RwI.sl {g : Nat} {w0 wr : World} {n : Nat} {f : Nat → Int} (h : RwI g w0 n f wr) : Sl 0 3 wr (.slice (some ⟨g, 0, none⟩) n n) (ints (mkR n f)) := Sl.own h.own

theorem MkI.sl {w0 wr : World} {n : Nat} {f : Nat → Int} (h : MkI w0 n f wr) : Sl 0 3 wr (.slice (some ⟨w0.heap.size, 0, none⟩) n n) (ints (mkR n f)) := Sl.own h.own

set_option maxRecDepth 100000 in
set_option maxHeartbeats 3200000 in
theorem says_ok (B : Nat) (n : Nat) (wd : List Nat) (i : Int) (v : Value) (w : World) (hv : Sl B 3 w v (ints (natsI wd))) (h0 : chkE n (natsI wd) = 0) (hn1 : 1 ≤ n) (hn3 : n ≤ 3) (hl : wd.length ≤ 8) (hlw : Lw n wd) :
    Calls Try.prog 3 #[.int .i64 (n : Int), v, .int .i64 i] w fun e w' => e = .returned (.bool true) ∧ Below w.heap.size w w' := by
  have HV : Hid (∀ W, Below w.heap.size w W → Sl B 3 W v (ints (natsI wd))) := fun W hW => hv.below hW (Nat.le_refl _)
  have H1 := lettersMay_any B n (natsI wd) v w hv
  rw [h0] at H1
  have HCK : Hid (∀ W, Below w.heap.size w W → Calls Try.prog 9 #[.int .i64 (n : Int), v] W fun e w' => e = .returned (.int .i64 0) ∧ Below W.heap.size W w') := fun W hW => by
    have := checkK_any B n (natsI wd) v W (HV.out W hW)
    rw [h0] at this
    exact this
  have HMD : Hid (∀ W, Below w.heap.size w W → Calls Try.prog 11 #[.int .i64 (n : Int), v] W fun e w' => e = .returned (.slice (some ⟨W.heap.size, 0, none⟩) n n) ∧ MkI W n (mkM wd wd.length) w') := fun W hW => markD_any B n wd v W (HV.out W hW) hn3 hl
  have HHD : Hid (∀ W, Below w.heap.size w W → Calls Try.prog 12 #[.int .i64 (n : Int), v] W fun e w' => HighD W.heap.size W n wd e w') := fun W hW => highOf_any B n wd v W (HV.out W hW) hn3 hl
  have HAD : Hid (∀ W, Below w.heap.size w W → Calls Try.prog 13 #[.int .i64 (n : Int), v] W fun e w' => AllD W n wd e w') := fun W hW => allOf_any B n wd v W (HV.out W hW) hn1 hn3 hl hlw
  have HMK : Hid (∀ W, Below w.heap.size w W → Calls Try.prog 14 #[.int .i64 (n : Int), v] W fun e w' => ∃ g, e = .returned (.tuple #[.slice (some ⟨g, 0, none⟩) n n, .int .i64 0]) ∧ RwI g W n (mkM wd wd.length) w') := fun W hW => mark_any B n wd v W (HV.out W hW) h0 hn3 hl hlw
  have HHI : Hid (∀ W, Below w.heap.size w W → Calls Try.prog 15 #[.int .i64 (n : Int), v] W fun e w' => HighP W.heap.size W n wd e w') := fun W hW => high_any B n wd v W (HV.out W hW) h0 hn1 hn3 hl hlw
  have HAL : Hid (∀ W, Below w.heap.size w W → Calls Try.prog 16 #[.int .i64 (n : Int), v] W fun e w' => AllR W n wd e w') := fun W hW => all_any B n wd v W (HV.out W hW) h0 hn3 hl hlw
  have HUP : Hid (∀ W, Below w.heap.size w W → Calls Try.prog 7 #[.int .i64 (n : Int), v, .int .i64 i] W fun e w' => TurnQ W.heap.size W (if chkP n (natsI wd) i = 0 then cUp wd i.toNat else none) (chkP n (natsI wd) i) e w') := fun W hW => by
    have := Up_any B n (natsI wd) i v W (HV.out W hW)
    rw [show natOf (natsI wd) = wd from natsI_inj (chkE_may h0).eq] at this
    exact this
  have HDN : Hid (∀ W, Below w.heap.size w W → Calls Try.prog 8 #[.int .i64 (n : Int), v, .int .i64 i] W fun e w' => TurnQ W.heap.size W (if chkP n (natsI wd) i = 0 then cDn wd i.toNat else none) (chkP n (natsI wd) i) e w') := fun W hW => by
    have := Down_any B n (natsI wd) i v W (HV.out W hW)
    rw [show natOf (natsI wd) = wd from natsI_inj (chkE_may h0).eq] at this
    exact this
  have hPe : chkP n (natsI wd) i = if i < 0 ∨ (n : Int) ≤ i then 9 else 0 := by unfold chkP; rw [if_pos h0]
  obtain ⟨ao, cap, hvv, hlc, hcm⟩ := sl_open hv
  subst hvv
  rw [natsI_len] at *
  have h3I : ¬ (300 : Int) < (wd.length : Int) := by omega
  clear hv
  by_cases hi : i < 0 ∨ (n : Int) ≤ i
  · rw [if_pos hi] at hPe
    rw [hPe, if_neg (by decide)] at HUP HDN
    clear hPe
    have HSM : Hid (∀ W, Calls Try.prog 10 #[.slice none 0 0, .slice none 0 0] W fun e w' => e = .returned (.bool true) ∧ ∃ n, w' = W.drewN n) := fun W => same_any 0 [] [] _ _ W (Sl.nil _ _ _) (Sl.nil _ _ _)
    by_cases hi0 : i < 0
    · clear hi
      go_enter Try.func3, Try.ntmps3
      go_wp2_with fail
      refine H1.mono ?_
      rintro e w1 ⟨rfl, hb1⟩
      have HB1 : Hid (Below w.heap.size w w1) := hb1
      have H2 := HUP.out w1 hb1
      clear hb1 H1
      go_wp2_with fail
      refine H2.mono ?_
      rintro e w2 ⟨⟨u, rfl, hu⟩, hb⟩
      have hu : u = .slice none 0 0 := hu
      subst hu
      have HB2 : Hid (Below w.heap.size w w2) := HB1.out.trans (hb.mono HB1.out.size)
      have H3 := HDN.out w2 HB2.out
      clear hb H2 HB1
      simp only [Option.isSome_none]
      go_wp2_with fail
      refine H3.mono ?_
      rintro e w3 ⟨⟨u, rfl, hu⟩, hb⟩
      have hu : u = .slice none 0 0 := hu
      subst hu
      have HB3 : Hid (Below w.heap.size w w3) := HB2.out.trans (hb.mono HB2.out.size)
      have H4 := HCK.out w3 HB3.out
      clear hb H3 HB2
      simp only [Option.isSome_none]
      go_wp2_with fail
      refine H4.mono ?_
      rintro e w4 ⟨rfl, hb⟩
      have HB4 : Hid (Below w.heap.size w w4) := HB3.out.trans (hb.mono HB3.out.size)
      clear hb H4 HB3
      go_wp2_with fail
      refine (HSM.out w4).mono ?_
      rintro e w5 ⟨rfl, q5, rfl⟩
      go_wp2_with fail
      refine (HSM.out _).mono ?_
      rintro e w6 ⟨rfl, q6, rfl⟩
      obtain ⟨wS, hwS⟩ : ∃ W, W = (w4.drewN q5).drewN q6 := ⟨_, rfl⟩
      have HBS : Hid (Below w.heap.size w wS) := by rw [hwS]; exact HB4.out.trans ⟨rfl, rfl, rfl, Nat.le_refl _, fun _ _ => rfl⟩
      rw [← hwS]
      clear hwS HB4
      have K1 := HMD.out wS HBS.out
      go_wp2_with fail
      refine K1.mono ?_
      rintro e wA ⟨rfl, hmk⟩
      have HBSA : Hid (Below wS.heap.size wS wA) := hmk.bel
      have HBA : Hid (Below w.heap.size w wA) := HBS.out.trans (hmk.bel.mono HBS.out.size)
      have HMA : Hid (∀ W, Below wA.heap.size wA W → Sl 0 3 W (.slice (some ⟨wS.heap.size, 0, none⟩) n n) (ints (mkR n (mkM wd wd.length)))) := fun W hW => hmk.sl.below hW (Nat.le_refl _)
      have K2 := HHD.out wA HBA.out
      clear K1 hmk HBS HBSA
      generalize wS.heap.size = gS at *
      go_wp2_with fail
      refine K2.mono ?_
      rintro e wB ⟨⟨uB, zB, rfl, hzB, hoB⟩, hbB⟩
      have HBAB : Hid (Below wA.heap.size wA wB) := hbB
      have HBB : Hid (Below w.heap.size w wB) := HBA.out.trans (hbB.mono HBA.out.size)
      have HHB : Hid (HiR n wd zB) := hzB
      have HHS : Hid (∀ W, Below wB.heap.size wB W → Sl 0 3 W uB (ints (natsI zB))) := fun W hW => (Sl.own hoB).below hW (Nat.le_refl _)
      have K3 := HAD.out wB HBB.out
      clear K2 hzB hoB hbB HBA
      go_wp2_with fail
      refine K3.mono ?_
      rintro e wC ⟨hex, hbC⟩
      have HBBC : Hid (Below wB.heap.size wB wC) := hbC
      have HBC : Hid (Below w.heap.size w wC) := HBB.out.trans (hbC.mono HBB.out.size)
      have K4 := HMK.out wC HBC.out
      clear K3 hbC HBB
      rcases hex with ⟨uC, L, s, rfl, hAll, hLl, hfr, hsa, hms⟩ | ⟨M, rfl, hMn, hMr, hMl⟩
      · have HC1 : Hid (All n wd L ∧ L.length ≤ 400 ∧ SAsc s ∧ ∀ r, r ∈ s ↔ r ∈ L.map natsI) := ⟨hAll, hLl, hsa, hms⟩
        have HC2 : Hid (∀ W, Below wC.heap.size wC W → Mat 0 22 3 W uC s) := fun W hW => hfr.m0.below hW (Nat.le_refl _)
        clear hAll hLl hfr hsa hms
        go_wp2_with fail
        refine K4.mono ?_
        rintro e wD ⟨gD, rfl, hmk⟩
        have HBCD : Hid (Below wC.heap.size wC wD) := hmk.bel
        have HBD : Hid (Below w.heap.size w wD) := HBC.out.trans (hmk.bel.mono HBC.out.size)
        have HMB : Hid (∀ W, Below wD.heap.size wD W → Sl 0 3 W (.slice (some ⟨gD, 0, none⟩) n n) (ints (mkR n (mkM wd wd.length)))) := fun W hW => hmk.sl.below hW (Nat.le_refl _)
        have K5 := HHI.out wD HBD.out
        clear K4 hmk HBC
        go_wp2_with fail
        refine K5.mono ?_
        rintro e wE ⟨⟨uE, zE, rfl, hzE, hoE⟩, hbE⟩
        have hzz : zE = zB := hzE.one HHB.out
        subst hzz
        have HBDE : Hid (Below wD.heap.size wD wE) := hbE
        have HBE : Hid (Below w.heap.size w wE) := HBD.out.trans (hbE.mono HBD.out.size)
        have HHT : Hid (∀ W, Below wE.heap.size wE W → Sl 0 3 W uE (ints (natsI zE))) := fun W hW => (Sl.own hoE).below hW (Nat.le_refl _)
        have K6 := HAL.out wE HBE.out
        clear K5 hzE hoE hbE HBD
        go_wp2_with fail
        refine K6.mono ?_
        rintro e wF ⟨hex, hbF⟩
        have HBEF : Hid (Below wE.heap.size wE wF) := hbF
        have HBF : Hid (Below w.heap.size w wF) := HBE.out.trans (hbF.mono HBE.out.size)
        have HBDF : Hid (Below wD.heap.size wD wF) := HBDE.out.trans (hbF.mono HBDE.out.size)
        have HBCF : Hid (Below wC.heap.size wC wF) := HBCD.out.trans (HBDF.out.mono HBCD.out.size)
        have HBBF : Hid (Below wB.heap.size wB wF) := HBBC.out.trans (HBCF.out.mono HBBC.out.size)
        have HBAF : Hid (Below wA.heap.size wA wF) := HBAB.out.trans (HBBF.out.mono HBAB.out.size)
        have K7 := list_same 0 (mkR n (mkM wd wd.length)) _ _ wF (HMB.out wF HBDF.out) (HMA.out wF HBAF.out)
        have HK8 : Hid (∀ W, Below wF.heap.size wF W → Calls Try.prog 17 #[uE, .int .i64 0, uB, .int .i64 0] W fun x w' => x = .returned (.bool true) ∧ Below W.heap.size W w') := fun W hW => list_same 0 (natsI zE) uE uB W (HHT.out W (HBEF.out.trans (hW.mono HBEF.out.size))) (HHS.out W (HBBF.out.trans (hW.mono HBBF.out.size)))
        clear K6 hbF HMA HMB HHS HHT
        rcases hex with ⟨uF, L2, s2, rfl, hAll, hLl, hfr, hsa, hms⟩ | ⟨M, rfl, hMn, hMr, hMl⟩
        · have hss : s2 = s := all_both hAll HC1.out.1 hsa HC1.out.2.2.1 hms HC1.out.2.2.2
          subst hss
          have HLL : Hid (∀ W, Below wF.heap.size wF W → Calls Try.prog 18 #[uF, .int .i64 0, uC, .int .i64 0] W fun x w' => x = .returned (.bool true) ∧ Below W.heap.size W w') := fun W hW => listsK_same 0 s2 uF uC W (hfr.m0.below hW (Nat.le_refl _)) (HC2.out W (HBCF.out.trans (hW.mono HBCF.out.size)))
          clear hAll hLl hfr hsa hms
          go_wp2_with fail
          refine K7.mono ?_
          rintro e wG ⟨rfl, hbG⟩
          have HBFG : Hid (Below wF.heap.size wF wG) := hbG
          have K8 := HK8.out wG hbG
          clear hbG K7 HK8
          go_wp2_with fail
          refine K8.mono ?_
          rintro e wH ⟨rfl, hbH⟩
          have HBFH : Hid (Below wF.heap.size wF wH) := HBFG.out.trans (hbH.mono HBFG.out.size)
          have K9 := HLL.out wH HBFH.out
          clear hbH K8 HLL
          go_wp2_with fail
          refine K9.mono ?_
          rintro e wI ⟨rfl, hbI⟩
          have HBI : Hid (Below w.heap.size w wI) := (HBF.out.trans (HBFH.out.mono HBF.out.size)).trans (hbI.mono (HBF.out.trans (HBFH.out.mono HBF.out.size)).size)
          clear hbI K9
          go_wp2
          go_ret
          exact ⟨rfl, HBI.out⟩
        · exact (all_not HC1.out.1 HC1.out.2.1 hMn hMr hMl).elim
      · have HC1 : Hid (M.Nodup ∧ (∀ x ∈ M, Rch n wd x) ∧ 400 < M.length) := ⟨hMn, hMr, hMl⟩
        clear hMn hMr hMl
        go_wp2_with fail
        refine K4.mono ?_
        rintro e wD ⟨gD, rfl, hmk⟩
        have HBCD : Hid (Below wC.heap.size wC wD) := hmk.bel
        have HBD : Hid (Below w.heap.size w wD) := HBC.out.trans (hmk.bel.mono HBC.out.size)
        have HMB : Hid (∀ W, Below wD.heap.size wD W → Sl 0 3 W (.slice (some ⟨gD, 0, none⟩) n n) (ints (mkR n (mkM wd wd.length)))) := fun W hW => hmk.sl.below hW (Nat.le_refl _)
        have K5 := HHI.out wD HBD.out
        clear K4 hmk HBC
        go_wp2_with fail
        refine K5.mono ?_
        rintro e wE ⟨⟨uE, zE, rfl, hzE, hoE⟩, hbE⟩
        have hzz : zE = zB := hzE.one HHB.out
        subst hzz
        have HBDE : Hid (Below wD.heap.size wD wE) := hbE
        have HBE : Hid (Below w.heap.size w wE) := HBD.out.trans (hbE.mono HBD.out.size)
        have HHT : Hid (∀ W, Below wE.heap.size wE W → Sl 0 3 W uE (ints (natsI zE))) := fun W hW => (Sl.own hoE).below hW (Nat.le_refl _)
        have K6 := HAL.out wE HBE.out
        clear K5 hzE hoE hbE HBD
        go_wp2_with fail
        refine K6.mono ?_
        rintro e wF ⟨hex, hbF⟩
        have HBEF : Hid (Below wE.heap.size wE wF) := hbF
        have HBF : Hid (Below w.heap.size w wF) := HBE.out.trans (hbF.mono HBE.out.size)
        have HBDF : Hid (Below wD.heap.size wD wF) := HBDE.out.trans (hbF.mono HBDE.out.size)
        have HBCF : Hid (Below wC.heap.size wC wF) := HBCD.out.trans (HBDF.out.mono HBCD.out.size)
        have HBBF : Hid (Below wB.heap.size wB wF) := HBBC.out.trans (HBCF.out.mono HBBC.out.size)
        have HBAF : Hid (Below wA.heap.size wA wF) := HBAB.out.trans (HBBF.out.mono HBAB.out.size)
        have K7 := list_same 0 (mkR n (mkM wd wd.length)) _ _ wF (HMB.out wF HBDF.out) (HMA.out wF HBAF.out)
        have HK8 : Hid (∀ W, Below wF.heap.size wF W → Calls Try.prog 17 #[uE, .int .i64 0, uB, .int .i64 0] W fun x w' => x = .returned (.bool true) ∧ Below W.heap.size W w') := fun W hW => list_same 0 (natsI zE) uE uB W (HHT.out W (HBEF.out.trans (hW.mono HBEF.out.size))) (HHS.out W (HBBF.out.trans (hW.mono HBBF.out.size)))
        clear K6 hbF HMA HMB HHS HHT
        rcases hex with ⟨uF, L2, s2, rfl, hAll, hLl, hfr, hsa, hms⟩ | ⟨M2, rfl, hMn, hMr, hMl⟩
        · exact (all_not hAll hLl HC1.out.1 HC1.out.2.1 HC1.out.2.2).elim
        · have HLL : Hid (∀ W, Below wF.heap.size wF W → Calls Try.prog 18 #[.slice none 0 0, .int .i64 11, .slice none 0 0, .int .i64 11] W fun x w' => x = .returned (.bool true) ∧ Below W.heap.size W w') := fun W hW => (lists_no 11 (by decide) W).mono fun e w' ⟨h1, h2⟩ => ⟨h1, by rw [h2]; exact Below.refl _ _⟩
          clear hMn hMr hMl
          go_wp2_with fail
          refine K7.mono ?_
          rintro e wG ⟨rfl, hbG⟩
          have HBFG : Hid (Below wF.heap.size wF wG) := hbG
          have K8 := HK8.out wG hbG
          clear hbG K7 HK8
          go_wp2_with fail
          refine K8.mono ?_
          rintro e wH ⟨rfl, hbH⟩
          have HBFH : Hid (Below wF.heap.size wF wH) := HBFG.out.trans (hbH.mono HBFG.out.size)
          have K9 := HLL.out wH HBFH.out
          clear hbH K8 HLL
          go_wp2_with fail
          refine K9.mono ?_
          rintro e wI ⟨rfl, hbI⟩
          have HBI : Hid (Below w.heap.size w wI) := (HBF.out.trans (HBFH.out.mono HBF.out.size)).trans (hbI.mono (HBF.out.trans (HBFH.out.mono HBF.out.size)).size)
          clear hbI K9
          go_wp2
          go_ret
          exact ⟨rfl, HBI.out⟩
    · have hi1 : (n : Int) ≤ i := by omega
      clear hi
      go_enter Try.func3, Try.ntmps3
      go_wp2_with fail
      refine H1.mono ?_
      rintro e w1 ⟨rfl, hb1⟩
      have HB1 : Hid (Below w.heap.size w w1) := hb1
      have H2 := HUP.out w1 hb1
      clear hb1 H1
      go_wp2_with fail
      refine H2.mono ?_
      rintro e w2 ⟨⟨u, rfl, hu⟩, hb⟩
      have hu : u = .slice none 0 0 := hu
      subst hu
      have HB2 : Hid (Below w.heap.size w w2) := HB1.out.trans (hb.mono HB1.out.size)
      have H3 := HDN.out w2 HB2.out
      clear hb H2 HB1
      simp only [Option.isSome_none]
      go_wp2_with fail
      refine H3.mono ?_
      rintro e w3 ⟨⟨u, rfl, hu⟩, hb⟩
      have hu : u = .slice none 0 0 := hu
      subst hu
      have HB3 : Hid (Below w.heap.size w w3) := HB2.out.trans (hb.mono HB2.out.size)
      have H4 := HCK.out w3 HB3.out
      clear hb H3 HB2
      simp only [Option.isSome_none]
      go_wp2_with fail
      refine H4.mono ?_
      rintro e w4 ⟨rfl, hb⟩
      have HB4 : Hid (Below w.heap.size w w4) := HB3.out.trans (hb.mono HB3.out.size)
      clear hb H4 HB3
      go_wp2_with fail
      refine (HSM.out w4).mono ?_
      rintro e w5 ⟨rfl, q5, rfl⟩
      go_wp2_with fail
      refine (HSM.out _).mono ?_
      rintro e w6 ⟨rfl, q6, rfl⟩
      obtain ⟨wS, hwS⟩ : ∃ W, W = (w4.drewN q5).drewN q6 := ⟨_, rfl⟩
      have HBS : Hid (Below w.heap.size w wS) := by rw [hwS]; exact HB4.out.trans ⟨rfl, rfl, rfl, Nat.le_refl _, fun _ _ => rfl⟩
      rw [← hwS]
      clear hwS HB4
      have K1 := HMD.out wS HBS.out
      go_wp2_with fail
      refine K1.mono ?_
      rintro e wA ⟨rfl, hmk⟩
      have HBSA : Hid (Below wS.heap.size wS wA) := hmk.bel
      have HBA : Hid (Below w.heap.size w wA) := HBS.out.trans (hmk.bel.mono HBS.out.size)
      have HMA : Hid (∀ W, Below wA.heap.size wA W → Sl 0 3 W (.slice (some ⟨wS.heap.size, 0, none⟩) n n) (ints (mkR n (mkM wd wd.length)))) := fun W hW => hmk.sl.below hW (Nat.le_refl _)
      have K2 := HHD.out wA HBA.out
      clear K1 hmk HBS HBSA
      generalize wS.heap.size = gS at *
      go_wp2_with fail
      refine K2.mono ?_
      rintro e wB ⟨⟨uB, zB, rfl, hzB, hoB⟩, hbB⟩
      have HBAB : Hid (Below wA.heap.size wA wB) := hbB
      have HBB : Hid (Below w.heap.size w wB) := HBA.out.trans (hbB.mono HBA.out.size)
      have HHB : Hid (HiR n wd zB) := hzB
      have HHS : Hid (∀ W, Below wB.heap.size wB W → Sl 0 3 W uB (ints (natsI zB))) := fun W hW => (Sl.own hoB).below hW (Nat.le_refl _)
      have K3 := HAD.out wB HBB.out
      clear K2 hzB hoB hbB HBA
      go_wp2_with fail
      refine K3.mono ?_
      rintro e wC ⟨hex, hbC⟩
      have HBBC : Hid (Below wB.heap.size wB wC) := hbC
      have HBC : Hid (Below w.heap.size w wC) := HBB.out.trans (hbC.mono HBB.out.size)
      have K4 := HMK.out wC HBC.out
      clear K3 hbC HBB
      rcases hex with ⟨uC, L, s, rfl, hAll, hLl, hfr, hsa, hms⟩ | ⟨M, rfl, hMn, hMr, hMl⟩
      · have HC1 : Hid (All n wd L ∧ L.length ≤ 400 ∧ SAsc s ∧ ∀ r, r ∈ s ↔ r ∈ L.map natsI) := ⟨hAll, hLl, hsa, hms⟩
        have HC2 : Hid (∀ W, Below wC.heap.size wC W → Mat 0 22 3 W uC s) := fun W hW => hfr.m0.below hW (Nat.le_refl _)
        clear hAll hLl hfr hsa hms
        go_wp2_with fail
        refine K4.mono ?_
        rintro e wD ⟨gD, rfl, hmk⟩
        have HBCD : Hid (Below wC.heap.size wC wD) := hmk.bel
        have HBD : Hid (Below w.heap.size w wD) := HBC.out.trans (hmk.bel.mono HBC.out.size)
        have HMB : Hid (∀ W, Below wD.heap.size wD W → Sl 0 3 W (.slice (some ⟨gD, 0, none⟩) n n) (ints (mkR n (mkM wd wd.length)))) := fun W hW => hmk.sl.below hW (Nat.le_refl _)
        have K5 := HHI.out wD HBD.out
        clear K4 hmk HBC
        go_wp2_with fail
        refine K5.mono ?_
        rintro e wE ⟨⟨uE, zE, rfl, hzE, hoE⟩, hbE⟩
        have hzz : zE = zB := hzE.one HHB.out
        subst hzz
        have HBDE : Hid (Below wD.heap.size wD wE) := hbE
        have HBE : Hid (Below w.heap.size w wE) := HBD.out.trans (hbE.mono HBD.out.size)
        have HHT : Hid (∀ W, Below wE.heap.size wE W → Sl 0 3 W uE (ints (natsI zE))) := fun W hW => (Sl.own hoE).below hW (Nat.le_refl _)
        have K6 := HAL.out wE HBE.out
        clear K5 hzE hoE hbE HBD
        go_wp2_with fail
        refine K6.mono ?_
        rintro e wF ⟨hex, hbF⟩
        have HBEF : Hid (Below wE.heap.size wE wF) := hbF
        have HBF : Hid (Below w.heap.size w wF) := HBE.out.trans (hbF.mono HBE.out.size)
        have HBDF : Hid (Below wD.heap.size wD wF) := HBDE.out.trans (hbF.mono HBDE.out.size)
        have HBCF : Hid (Below wC.heap.size wC wF) := HBCD.out.trans (HBDF.out.mono HBCD.out.size)
        have HBBF : Hid (Below wB.heap.size wB wF) := HBBC.out.trans (HBCF.out.mono HBBC.out.size)
        have HBAF : Hid (Below wA.heap.size wA wF) := HBAB.out.trans (HBBF.out.mono HBAB.out.size)
        have K7 := list_same 0 (mkR n (mkM wd wd.length)) _ _ wF (HMB.out wF HBDF.out) (HMA.out wF HBAF.out)
        have HK8 : Hid (∀ W, Below wF.heap.size wF W → Calls Try.prog 17 #[uE, .int .i64 0, uB, .int .i64 0] W fun x w' => x = .returned (.bool true) ∧ Below W.heap.size W w') := fun W hW => list_same 0 (natsI zE) uE uB W (HHT.out W (HBEF.out.trans (hW.mono HBEF.out.size))) (HHS.out W (HBBF.out.trans (hW.mono HBBF.out.size)))
        clear K6 hbF HMA HMB HHS HHT
        rcases hex with ⟨uF, L2, s2, rfl, hAll, hLl, hfr, hsa, hms⟩ | ⟨M, rfl, hMn, hMr, hMl⟩
        · have hss : s2 = s := all_both hAll HC1.out.1 hsa HC1.out.2.2.1 hms HC1.out.2.2.2
          subst hss
          have HLL : Hid (∀ W, Below wF.heap.size wF W → Calls Try.prog 18 #[uF, .int .i64 0, uC, .int .i64 0] W fun x w' => x = .returned (.bool true) ∧ Below W.heap.size W w') := fun W hW => listsK_same 0 s2 uF uC W (hfr.m0.below hW (Nat.le_refl _)) (HC2.out W (HBCF.out.trans (hW.mono HBCF.out.size)))
          clear hAll hLl hfr hsa hms
          go_wp2_with fail
          refine K7.mono ?_
          rintro e wG ⟨rfl, hbG⟩
          have HBFG : Hid (Below wF.heap.size wF wG) := hbG
          have K8 := HK8.out wG hbG
          clear hbG K7 HK8
          go_wp2_with fail
          refine K8.mono ?_
          rintro e wH ⟨rfl, hbH⟩
          have HBFH : Hid (Below wF.heap.size wF wH) := HBFG.out.trans (hbH.mono HBFG.out.size)
          have K9 := HLL.out wH HBFH.out
          clear hbH K8 HLL
          go_wp2_with fail
          refine K9.mono ?_
          rintro e wI ⟨rfl, hbI⟩
          have HBI : Hid (Below w.heap.size w wI) := (HBF.out.trans (HBFH.out.mono HBF.out.size)).trans (hbI.mono (HBF.out.trans (HBFH.out.mono HBF.out.size)).size)
          clear hbI K9
          go_wp2
          go_ret
          exact ⟨rfl, HBI.out⟩
        · exact (all_not HC1.out.1 HC1.out.2.1 hMn hMr hMl).elim
      · have HC1 : Hid (M.Nodup ∧ (∀ x ∈ M, Rch n wd x) ∧ 400 < M.length) := ⟨hMn, hMr, hMl⟩
        clear hMn hMr hMl
        go_wp2_with fail
        refine K4.mono ?_
        rintro e wD ⟨gD, rfl, hmk⟩
        have HBCD : Hid (Below wC.heap.size wC wD) := hmk.bel
        have HBD : Hid (Below w.heap.size w wD) := HBC.out.trans (hmk.bel.mono HBC.out.size)
        have HMB : Hid (∀ W, Below wD.heap.size wD W → Sl 0 3 W (.slice (some ⟨gD, 0, none⟩) n n) (ints (mkR n (mkM wd wd.length)))) := fun W hW => hmk.sl.below hW (Nat.le_refl _)
        have K5 := HHI.out wD HBD.out
        clear K4 hmk HBC
        go_wp2_with fail
        refine K5.mono ?_
        rintro e wE ⟨⟨uE, zE, rfl, hzE, hoE⟩, hbE⟩
        have hzz : zE = zB := hzE.one HHB.out
        subst hzz
        have HBDE : Hid (Below wD.heap.size wD wE) := hbE
        have HBE : Hid (Below w.heap.size w wE) := HBD.out.trans (hbE.mono HBD.out.size)
        have HHT : Hid (∀ W, Below wE.heap.size wE W → Sl 0 3 W uE (ints (natsI zE))) := fun W hW => (Sl.own hoE).below hW (Nat.le_refl _)
        have K6 := HAL.out wE HBE.out
        clear K5 hzE hoE hbE HBD
        go_wp2_with fail
        refine K6.mono ?_
        rintro e wF ⟨hex, hbF⟩
        have HBEF : Hid (Below wE.heap.size wE wF) := hbF
        have HBF : Hid (Below w.heap.size w wF) := HBE.out.trans (hbF.mono HBE.out.size)
        have HBDF : Hid (Below wD.heap.size wD wF) := HBDE.out.trans (hbF.mono HBDE.out.size)
        have HBCF : Hid (Below wC.heap.size wC wF) := HBCD.out.trans (HBDF.out.mono HBCD.out.size)
        have HBBF : Hid (Below wB.heap.size wB wF) := HBBC.out.trans (HBCF.out.mono HBBC.out.size)
        have HBAF : Hid (Below wA.heap.size wA wF) := HBAB.out.trans (HBBF.out.mono HBAB.out.size)
        have K7 := list_same 0 (mkR n (mkM wd wd.length)) _ _ wF (HMB.out wF HBDF.out) (HMA.out wF HBAF.out)
        have HK8 : Hid (∀ W, Below wF.heap.size wF W → Calls Try.prog 17 #[uE, .int .i64 0, uB, .int .i64 0] W fun x w' => x = .returned (.bool true) ∧ Below W.heap.size W w') := fun W hW => list_same 0 (natsI zE) uE uB W (HHT.out W (HBEF.out.trans (hW.mono HBEF.out.size))) (HHS.out W (HBBF.out.trans (hW.mono HBBF.out.size)))
        clear K6 hbF HMA HMB HHS HHT
        rcases hex with ⟨uF, L2, s2, rfl, hAll, hLl, hfr, hsa, hms⟩ | ⟨M2, rfl, hMn, hMr, hMl⟩
        · exact (all_not hAll hLl HC1.out.1 HC1.out.2.1 HC1.out.2.2).elim
        · have HLL : Hid (∀ W, Below wF.heap.size wF W → Calls Try.prog 18 #[.slice none 0 0, .int .i64 11, .slice none 0 0, .int .i64 11] W fun x w' => x = .returned (.bool true) ∧ Below W.heap.size W w') := fun W hW => (lists_no 11 (by decide) W).mono fun e w' ⟨h1, h2⟩ => ⟨h1, by rw [h2]; exact Below.refl _ _⟩
          clear hMn hMr hMl
          go_wp2_with fail
          refine K7.mono ?_
          rintro e wG ⟨rfl, hbG⟩
          have HBFG : Hid (Below wF.heap.size wF wG) := hbG
          have K8 := HK8.out wG hbG
          clear hbG K7 HK8
          go_wp2_with fail
          refine K8.mono ?_
          rintro e wH ⟨rfl, hbH⟩
          have HBFH : Hid (Below wF.heap.size wF wH) := HBFG.out.trans (hbH.mono HBFG.out.size)
          have K9 := HLL.out wH HBFH.out
          clear hbH K8 HLL
          go_wp2_with fail
          refine K9.mono ?_
          rintro e wI ⟨rfl, hbI⟩
          have HBI : Hid (Below w.heap.size w wI) := (HBF.out.trans (HBFH.out.mono HBF.out.size)).trans (hbI.mono (HBF.out.trans (HBFH.out.mono HBF.out.size)).size)
          clear hbI K9
          go_wp2
          go_ret
          exact ⟨rfl, HBI.out⟩
  · have hi0 : 0 ≤ i := by omega
    obtain ⟨j, rfl⟩ : ∃ j : Nat, i = (j : Int) := ⟨i.toNat, by omega⟩
    rw [if_neg hi] at hPe
    rw [hPe, if_pos rfl, Int.toNat_natCast] at HUP HDN
    clear hPe hi0
    have HT1 : Hid (∀ W, Below w.heap.size w W → Calls Try.prog 6 #[.slice ao wd.length cap, .int .i64 (j : Int), .bool true] W fun e w' => TurnP W.heap.size W (cUp wd j) e w') := fun W hW => turnW_any B true wd j _ W (HV.out W hW) hl (by omega)
    have HT2 : Hid (∀ W, Below w.heap.size w W → Calls Try.prog 6 #[.slice ao wd.length cap, .int .i64 (j : Int), .bool false] W fun e w' => TurnP W.heap.size W (cDn wd j) e w') := fun W hW => turnW_any B false wd j _ W (HV.out W hW) hl (by omega)
    have hi1 : ¬ (j : Int) < 0 := by omega
    have hi2 : ¬ (n : Int) ≤ (j : Int) := by omega
    generalize cUp wd j = O1 at *
    generalize cDn wd j = O2 at *
    go_enter Try.func3, Try.ntmps3
    go_wp2_with fail
    refine H1.mono ?_
    rintro e w1 ⟨rfl, hb1⟩
    have HB1 : Hid (Below w.heap.size w w1) := hb1
    have H2 := HT1.out w1 hb1
    clear hb1 H1
    go_wp2_with fail
    refine H2.mono ?_
    rintro e w2 ⟨⟨u1, rfl, hu⟩, hb⟩
    have HB2 : Hid (Below w.heap.size w w2) := HB1.out.trans (hb.mono HB1.out.size)
    have HU1 : Hid (∀ W, Below w2.heap.size w2 W → Sl 0 3 W u1 (ints (natsI (O1.getD [])))) := fun W hW => hu.sl.below hW (Nat.le_refl _)
    have H3 := HT2.out w2 HB2.out
    clear hb H2 HB1
    go_wp2_with fail
    refine H3.mono ?_
    rintro e w3 ⟨⟨u2, rfl, hu2⟩, hb⟩
    have HB23 : Hid (Below w2.heap.size w2 w3) := hb
    have HB3 : Hid (Below w.heap.size w w3) := HB2.out.trans (hb.mono HB2.out.size)
    have HU2 : Hid (∀ W, Below w3.heap.size w3 W → Sl 0 3 W u2 (ints (natsI (O2.getD [])))) := fun W hW => hu2.sl.below hW (Nat.le_refl _)
    have H4 := HUP.out w3 HB3.out
    clear hb H3 hu hu2
    go_wp2_with fail
    refine H4.mono ?_
    rintro e w4 ⟨⟨u3, rfl, hu3⟩, hb⟩
    have HB34 : Hid (Below w3.heap.size w3 w4) := hb
    have HB4 : Hid (Below w.heap.size w w4) := HB3.out.trans (hb.mono HB3.out.size)
    have HU3 : Hid (∀ W, Below w4.heap.size w4 W → Sl 0 3 W u3 (ints (natsI (O1.getD [])))) := fun W hW => hu3.sl.below hW (Nat.le_refl _)
    have H5 := HDN.out w4 HB4.out
    clear hb H4 hu3
    go_wp2_with fail
    refine H5.mono ?_
    rintro e w5 ⟨⟨u4, rfl, hu4⟩, hb⟩
    have HB45 : Hid (Below w4.heap.size w4 w5) := hb
    have HB5 : Hid (Below w.heap.size w w5) := HB4.out.trans (hb.mono HB4.out.size)
    have HU4 : Hid (∀ W, Below w5.heap.size w5 W → Sl 0 3 W u4 (ints (natsI (O2.getD [])))) := fun W hW => hu4.sl.below hW (Nat.le_refl _)
    have H6 := HCK.out w5 HB5.out
    clear hb H5 hu4
    generalize O1.isSome = q1 at *
    generalize O2.isSome = q2 at *
    go_wp2_with fail
    refine H6.mono ?_
    rintro e w6 ⟨rfl, hb⟩
    have HB6 : Hid (Below w.heap.size w w6) := HB5.out.trans (hb.mono HB5.out.size)
    have HB46 : Hid (Below w4.heap.size w4 w6) := HB45.out.trans (hb.mono HB45.out.size)
    have HB36 : Hid (Below w3.heap.size w3 w6) := HB34.out.trans (HB46.out.mono HB34.out.size)
    have HB26 : Hid (Below w2.heap.size w2 w6) := HB23.out.trans (HB36.out.mono HB23.out.size)
    have HB56 : Hid (Below w5.heap.size w5 w6) := hb
    have H7 := same_any 0 (natsI (O1.getD [])) (natsI (O1.getD [])) u3 u1 w6 (HU3.out w6 HB46.out) (HU1.out w6 HB26.out)
    have H8 : Hid (∀ q, Calls Try.prog 10 #[u4, u2] (w6.drewN q) fun e w' => e = .returned (.bool true) ∧ ∃ n, w' = (w6.drewN q).drewN n) := fun q => by
      have := same_any 0 (natsI (O2.getD [])) (natsI (O2.getD [])) u4 u2 (w6.drewN q) ((HU4.out w6 HB56.out).drewN q) ((HU2.out w6 HB36.out).drewN q)
      rw [beq_self_eq_true] at this
      exact this
    rw [beq_self_eq_true] at H7
    clear hb H6 HB2 HB3 HB4 HB5 HB46 HB36 HB26 HB56 HB23 HB34 HB45 HU1 HU2 HU3 HU4
    go_wp2_with fail
    refine H7.mono ?_
    rintro e w7 ⟨rfl, q7, rfl⟩
    have H9 := H8.out q7
    clear H7 H8
    go_wp2_with fail
    refine H9.mono ?_
    rintro e w8 ⟨rfl, q8, rfl⟩
    clear H9
    obtain ⟨wS, hwS⟩ : ∃ W, W = (w6.drewN q7).drewN q8 := ⟨_, rfl⟩
    have HBS : Hid (Below w.heap.size w wS) := by rw [hwS]; exact HB6.out.trans ⟨rfl, rfl, rfl, Nat.le_refl _, fun _ _ => rfl⟩
    rw [← hwS]
    clear hwS HB6 HT1 HT2
    have K1 := HMD.out wS HBS.out
    go_wp2_with fail
    refine K1.mono ?_
    rintro e wA ⟨rfl, hmk⟩
    have HBSA : Hid (Below wS.heap.size wS wA) := hmk.bel
    have HBA : Hid (Below w.heap.size w wA) := HBS.out.trans (hmk.bel.mono HBS.out.size)
    have HMA : Hid (∀ W, Below wA.heap.size wA W → Sl 0 3 W (.slice (some ⟨wS.heap.size, 0, none⟩) n n) (ints (mkR n (mkM wd wd.length)))) := fun W hW => hmk.sl.below hW (Nat.le_refl _)
    have K2 := HHD.out wA HBA.out
    clear K1 hmk HBS HBSA
    generalize wS.heap.size = gS at *
    go_wp2_with fail
    refine K2.mono ?_
    rintro e wB ⟨⟨uB, zB, rfl, hzB, hoB⟩, hbB⟩
    have HBAB : Hid (Below wA.heap.size wA wB) := hbB
    have HBB : Hid (Below w.heap.size w wB) := HBA.out.trans (hbB.mono HBA.out.size)
    have HHB : Hid (HiR n wd zB) := hzB
    have HHS : Hid (∀ W, Below wB.heap.size wB W → Sl 0 3 W uB (ints (natsI zB))) := fun W hW => (Sl.own hoB).below hW (Nat.le_refl _)
    have K3 := HAD.out wB HBB.out
    clear K2 hzB hoB hbB HBA
    go_wp2_with fail
    refine K3.mono ?_
    rintro e wC ⟨hex, hbC⟩
    have HBBC : Hid (Below wB.heap.size wB wC) := hbC
    have HBC : Hid (Below w.heap.size w wC) := HBB.out.trans (hbC.mono HBB.out.size)
    have K4 := HMK.out wC HBC.out
    clear K3 hbC HBB
    rcases hex with ⟨uC, L, s, rfl, hAll, hLl, hfr, hsa, hms⟩ | ⟨M, rfl, hMn, hMr, hMl⟩
    · have HC1 : Hid (All n wd L ∧ L.length ≤ 400 ∧ SAsc s ∧ ∀ r, r ∈ s ↔ r ∈ L.map natsI) := ⟨hAll, hLl, hsa, hms⟩
      have HC2 : Hid (∀ W, Below wC.heap.size wC W → Mat 0 22 3 W uC s) := fun W hW => hfr.m0.below hW (Nat.le_refl _)
      clear hAll hLl hfr hsa hms
      go_wp2_with fail
      refine K4.mono ?_
      rintro e wD ⟨gD, rfl, hmk⟩
      have HBCD : Hid (Below wC.heap.size wC wD) := hmk.bel
      have HBD : Hid (Below w.heap.size w wD) := HBC.out.trans (hmk.bel.mono HBC.out.size)
      have HMB : Hid (∀ W, Below wD.heap.size wD W → Sl 0 3 W (.slice (some ⟨gD, 0, none⟩) n n) (ints (mkR n (mkM wd wd.length)))) := fun W hW => hmk.sl.below hW (Nat.le_refl _)
      have K5 := HHI.out wD HBD.out
      clear K4 hmk HBC
      go_wp2_with fail
      refine K5.mono ?_
      rintro e wE ⟨⟨uE, zE, rfl, hzE, hoE⟩, hbE⟩
      have hzz : zE = zB := hzE.one HHB.out
      subst hzz
      have HBDE : Hid (Below wD.heap.size wD wE) := hbE
      have HBE : Hid (Below w.heap.size w wE) := HBD.out.trans (hbE.mono HBD.out.size)
      have HHT : Hid (∀ W, Below wE.heap.size wE W → Sl 0 3 W uE (ints (natsI zE))) := fun W hW => (Sl.own hoE).below hW (Nat.le_refl _)
      have K6 := HAL.out wE HBE.out
      clear K5 hzE hoE hbE HBD
      go_wp2_with fail
      refine K6.mono ?_
      rintro e wF ⟨hex, hbF⟩
      have HBEF : Hid (Below wE.heap.size wE wF) := hbF
      have HBF : Hid (Below w.heap.size w wF) := HBE.out.trans (hbF.mono HBE.out.size)
      have HBDF : Hid (Below wD.heap.size wD wF) := HBDE.out.trans (hbF.mono HBDE.out.size)
      have HBCF : Hid (Below wC.heap.size wC wF) := HBCD.out.trans (HBDF.out.mono HBCD.out.size)
      have HBBF : Hid (Below wB.heap.size wB wF) := HBBC.out.trans (HBCF.out.mono HBBC.out.size)
      have HBAF : Hid (Below wA.heap.size wA wF) := HBAB.out.trans (HBBF.out.mono HBAB.out.size)
      have K7 := list_same 0 (mkR n (mkM wd wd.length)) _ _ wF (HMB.out wF HBDF.out) (HMA.out wF HBAF.out)
      have HK8 : Hid (∀ W, Below wF.heap.size wF W → Calls Try.prog 17 #[uE, .int .i64 0, uB, .int .i64 0] W fun x w' => x = .returned (.bool true) ∧ Below W.heap.size W w') := fun W hW => list_same 0 (natsI zE) uE uB W (HHT.out W (HBEF.out.trans (hW.mono HBEF.out.size))) (HHS.out W (HBBF.out.trans (hW.mono HBBF.out.size)))
      clear K6 hbF HMA HMB HHS HHT
      rcases hex with ⟨uF, L2, s2, rfl, hAll, hLl, hfr, hsa, hms⟩ | ⟨M, rfl, hMn, hMr, hMl⟩
      · have hss : s2 = s := all_both hAll HC1.out.1 hsa HC1.out.2.2.1 hms HC1.out.2.2.2
        subst hss
        have HLL : Hid (∀ W, Below wF.heap.size wF W → Calls Try.prog 18 #[uF, .int .i64 0, uC, .int .i64 0] W fun x w' => x = .returned (.bool true) ∧ Below W.heap.size W w') := fun W hW => listsK_same 0 s2 uF uC W (hfr.m0.below hW (Nat.le_refl _)) (HC2.out W (HBCF.out.trans (hW.mono HBCF.out.size)))
        clear hAll hLl hfr hsa hms
        go_wp2_with fail
        refine K7.mono ?_
        rintro e wG ⟨rfl, hbG⟩
        have HBFG : Hid (Below wF.heap.size wF wG) := hbG
        have K8 := HK8.out wG hbG
        clear hbG K7 HK8
        go_wp2_with fail
        refine K8.mono ?_
        rintro e wH ⟨rfl, hbH⟩
        have HBFH : Hid (Below wF.heap.size wF wH) := HBFG.out.trans (hbH.mono HBFG.out.size)
        have K9 := HLL.out wH HBFH.out
        clear hbH K8 HLL
        go_wp2_with fail
        refine K9.mono ?_
        rintro e wI ⟨rfl, hbI⟩
        have HBI : Hid (Below w.heap.size w wI) := (HBF.out.trans (HBFH.out.mono HBF.out.size)).trans (hbI.mono (HBF.out.trans (HBFH.out.mono HBF.out.size)).size)
        clear hbI K9
        go_wp2
        go_ret
        exact ⟨rfl, HBI.out⟩
      · exact (all_not HC1.out.1 HC1.out.2.1 hMn hMr hMl).elim
    · have HC1 : Hid (M.Nodup ∧ (∀ x ∈ M, Rch n wd x) ∧ 400 < M.length) := ⟨hMn, hMr, hMl⟩
      clear hMn hMr hMl
      go_wp2_with fail
      refine K4.mono ?_
      rintro e wD ⟨gD, rfl, hmk⟩
      have HBCD : Hid (Below wC.heap.size wC wD) := hmk.bel
      have HBD : Hid (Below w.heap.size w wD) := HBC.out.trans (hmk.bel.mono HBC.out.size)
      have HMB : Hid (∀ W, Below wD.heap.size wD W → Sl 0 3 W (.slice (some ⟨gD, 0, none⟩) n n) (ints (mkR n (mkM wd wd.length)))) := fun W hW => hmk.sl.below hW (Nat.le_refl _)
      have K5 := HHI.out wD HBD.out
      clear K4 hmk HBC
      go_wp2_with fail
      refine K5.mono ?_
      rintro e wE ⟨⟨uE, zE, rfl, hzE, hoE⟩, hbE⟩
      have hzz : zE = zB := hzE.one HHB.out
      subst hzz
      have HBDE : Hid (Below wD.heap.size wD wE) := hbE
      have HBE : Hid (Below w.heap.size w wE) := HBD.out.trans (hbE.mono HBD.out.size)
      have HHT : Hid (∀ W, Below wE.heap.size wE W → Sl 0 3 W uE (ints (natsI zE))) := fun W hW => (Sl.own hoE).below hW (Nat.le_refl _)
      have K6 := HAL.out wE HBE.out
      clear K5 hzE hoE hbE HBD
      go_wp2_with fail
      refine K6.mono ?_
      rintro e wF ⟨hex, hbF⟩
      have HBEF : Hid (Below wE.heap.size wE wF) := hbF
      have HBF : Hid (Below w.heap.size w wF) := HBE.out.trans (hbF.mono HBE.out.size)
      have HBDF : Hid (Below wD.heap.size wD wF) := HBDE.out.trans (hbF.mono HBDE.out.size)
      have HBCF : Hid (Below wC.heap.size wC wF) := HBCD.out.trans (HBDF.out.mono HBCD.out.size)
      have HBBF : Hid (Below wB.heap.size wB wF) := HBBC.out.trans (HBCF.out.mono HBBC.out.size)
      have HBAF : Hid (Below wA.heap.size wA wF) := HBAB.out.trans (HBBF.out.mono HBAB.out.size)
      have K7 := list_same 0 (mkR n (mkM wd wd.length)) _ _ wF (HMB.out wF HBDF.out) (HMA.out wF HBAF.out)
      have HK8 : Hid (∀ W, Below wF.heap.size wF W → Calls Try.prog 17 #[uE, .int .i64 0, uB, .int .i64 0] W fun x w' => x = .returned (.bool true) ∧ Below W.heap.size W w') := fun W hW => list_same 0 (natsI zE) uE uB W (HHT.out W (HBEF.out.trans (hW.mono HBEF.out.size))) (HHS.out W (HBBF.out.trans (hW.mono HBBF.out.size)))
      clear K6 hbF HMA HMB HHS HHT
      rcases hex with ⟨uF, L2, s2, rfl, hAll, hLl, hfr, hsa, hms⟩ | ⟨M2, rfl, hMn, hMr, hMl⟩
      · exact (all_not hAll hLl HC1.out.1 HC1.out.2.1 HC1.out.2.2).elim
      · have HLL : Hid (∀ W, Below wF.heap.size wF W → Calls Try.prog 18 #[.slice none 0 0, .int .i64 11, .slice none 0 0, .int .i64 11] W fun x w' => x = .returned (.bool true) ∧ Below W.heap.size W w') := fun W hW => (lists_no 11 (by decide) W).mono fun e w' ⟨h1, h2⟩ => ⟨h1, by rw [h2]; exact Below.refl _ _⟩
        clear hMn hMr hMl
        go_wp2_with fail
        refine K7.mono ?_
        rintro e wG ⟨rfl, hbG⟩
        have HBFG : Hid (Below wF.heap.size wF wG) := hbG
        have K8 := HK8.out wG hbG
        clear hbG K7 HK8
        go_wp2_with fail
        refine K8.mono ?_
        rintro e wH ⟨rfl, hbH⟩
        have HBFH : Hid (Below wF.heap.size wF wH) := HBFG.out.trans (hbH.mono HBFG.out.size)
        have K9 := HLL.out wH HBFH.out
        clear hbH K8 HLL
        go_wp2_with fail
        refine K9.mono ?_
        rintro e wI ⟨rfl, hbI⟩
        have HBI : Hid (Below w.heap.size w wI) := (HBF.out.trans (HBFH.out.mono HBF.out.size)).trans (hbI.mono (HBF.out.trans (HBFH.out.mono HBF.out.size)).size)
        clear hbI K9
        go_wp2
        go_ret
        exact ⟨rfl, HBI.out⟩
end Go.Proofs.Ytnooabbcfhmjaaa
