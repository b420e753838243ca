/- crystal.All: the walk. -/
import Derived.Test.YtnooabbcfhmjaaaCr14
namespace Go.Proofs.Ytnooabbcfhmjaaa
open Go.RowKit
attribute [local go_sem ↓] Go.wp_at_zero Go.wp_at_succ

set_option maxRecDepth 100000 in
set_option maxHeartbeats 800000 in
theorem all_no (B : Nat) (n : Int) (m : List Int) (v : Value) (w : World) (hv : Sl B 3 w v (ints m)) (h0 : ¬ chkE n m = 0) :
    Calls Try.prog 16 #[.int .i64 n, v] w fun e w' => e = .returned (.tuple #[.slice none 0 0, .int .i64 (chkE n m)]) ∧ Below w.heap.size w w' := by
  have HC := checkK_any B n m v w hv
  obtain ⟨ao, cap, hvv, hlc, hcm⟩ := sl_open hv
  subst hvv
  clear hv
  generalize chkE n m = E at *
  go_enter Try.func16, Try.ntmps16
  go_wp2_with fail
  refine HC.mono ?_
  rintro e w1 ⟨rfl, hb⟩
  have HB : Hid (Below w.heap.size w w1) := hb
  clear HC hb
  go_wp2
  go_ret2
  exact ⟨rfl, HB.out⟩

set_option maxRecDepth 100000 in
set_option maxHeartbeats 3200000 in
theorem all_any (B : Nat) (n : Nat) (wd : List Nat) (v : Value) (w : World) (hv : Sl B 3 w v (ints (natsI wd))) (h0 : chkE n (natsI wd) = 0) (hn3 : n ≤ 3) (hl : wd.length ≤ 8) (hlw : Lw n wd) :
    Calls Try.prog 16 #[.int .i64 (n : Int), v] w fun e w' => AllR w n wd e w' := by
  obtain ⟨i0, hi0, hz0, hz1, hz2⟩ := info_parts Try.info22
  have HC := checkK_any B n (natsI wd) v w hv
  rw [h0] at HC
  have HCL : Hid (∀ W, Below w.heap.size w W → Calls Try.prog 29 #[v] W fun e w' => ∃ u, e = .returned u ∧ w'.ownsRow W.heap.size 3 1 u wd.length (ints (natsI wd)) ∧ Below W.heap.size W w') := fun W hW => by
    have := clone_any B (natsI wd) v W (hv.below hW (Nat.le_refl _)) (by rw [natsI_len]; omega)
    rw [natsI_len] at this
    exact this
  have HLE : Hid (∀ W, Below w.heap.size w W → Calls Try.prog 30 #[v] W fun e w' => e = .returned (octV wd) ∧ Below W.heap.size W w') := fun W hW => letters_any B wd v W (hv.below hW (Nat.le_refl _)) hl
  have HLW : Hid (Lw n wd) := hlw
  have HINJ : Hid (∀ x y, Lw n x → x.length = wd.length → Lw n y → y.length = wd.length → octL x = octL y → x = y) := fun x y h1 h2 h3 h4 h5 => oct_inj h1 h3 hn3 (by omega) (by omega) h5
  have HGD : Hid (∀ x, Rch n wd x → Lw n x ∧ x.length = wd.length) := fun x hx => rch_good hlw hx
  obtain ⟨ao, cap, hvv, hlc, hcm⟩ := sl_open hv
  subst hvv
  clear hv h0 hlw
  have hmm := @run_makeMap Try.prog
  go_enter Try.func16, Try.ntmps16
  go_wp2_with fail
  refine HC.mono ?_
  rintro e w1 ⟨rfl, hb⟩
  have HB : Hid (Below w.heap.size w w1) := hb
  have H2 := HCL.out w1 hb
  clear HC hb HCL
  go_wp2_with fail
  refine H2.mono ?_
  rintro e w2 ⟨u, rfl, hou, hb2⟩
  have HB2 : Hid (Below w.heap.size w w2) := HB.out.trans (hb2.mono HB.out.size)
  obtain ⟨uo, uc, huv⟩ := owns_form hou
  subst huv
  have HOU : Hid (w2.ownsRow w1.heap.size 3 1 (.slice uo wd.length uc) wd.length (ints (natsI wd))) := hou
  clear hou hb2 H2 HB
  have hsz2 : w.heap.size ≤ w2.heap.size := HB2.out.size
  obtain ⟨W3, hW3⟩ : ∃ W3, W3 = (w2.alloc (.cells #[.slice uo wd.length uc] 22)).alloc (.map #[] 0) := ⟨_, rfl⟩
  have hb3 : Below w.heap.size w W3 := by rw [hW3]; exact (HB2.out.alloc hsz2 _).alloc (by simp; omega) _
  have H3 := HLE.out W3 hb3
  have HF3 : Hid (Fr w.heap.size 22 3 W3 (.slice (some ⟨w2.heap.size, 0, none⟩) 1 1) ([wd].map natsI)) := by
    rw [hW3]
    refine Fr.alloc ?_ _
    refine ⟨[.slice uo wd.length uc], rfl, ?_, fun i hi => ?_⟩
    · have h := World.ownsRow_lit (base := w.heap.size) (e := 22) (size := 1) w2 #[.slice uo wd.length uc] 1 hsz2 (by simp [maxLen]) (by simp)
      simpa using h
    · have hi0 : i = 0 := by simpa using hi
      subst hi0
      exact (Sl.own HOU.out).alloc _
  have HM3 : Hid (W3.ownsMap Try.prog S8.kt S8.R (w2.heap.size + 1) 0 (.map [])) := by
    rw [hW3]
    have := World.ownsMap_made (w2.alloc (.cells #[.slice uo wd.length uc] 22)) Try.prog S8.kt S8.R
    rw [World.size_alloc] at this
    exact this
  have HB3 : Hid (Below w.heap.size w W3) := hb3
  rw [hW3] at H3
  clear hb3 HLE HOU HB2
  go_wp2_with fail
  rw [← hW3] at H3 ⊢
  clear hW3 hmm
  refine H3.mono ?_
  rintro e w4 ⟨rfl, hb4⟩
  have hm4 : w4.ownsMap Try.prog S8.kt S8.R (w2.heap.size + 1) 0 (.map []) := HM3.out.kept (row := none) ⟨hb4.os, hb4.tape, hb4.output, hb4.size, fun k hk _ => hb4.block k hk⟩ (by simp)
  obtain ⟨w5, hrun5, ho5, hg5⟩ := hm4.update (val := .agg #[]) (d := .agg []) (ps := []) keyed8 map56 (by unfold maxLen; omega) (oct_key HLW.out hn3) unitElem_mk
  have HA5 : Hid (AllI S8 w n wd.length [wd] [wd] (.slice (some ⟨w2.heap.size, 0, none⟩) 1 1) (w2.heap.size + 1) w5) :=
    AllI.start (HF3.out.below hb4 (Nat.le_refl _)) hm4 (by omega) (by simp [Value.ownBlock]) (HB3.out.trans (hb4.mono HB3.out.size)) HLW.out (octL_key wd) (fun z h1 h2 h3 => HINJ.out z wd h1 h2 HLW.out rfl h3) ho5 hg5
  generalize w2.heap.size + 1 = b at *
  generalize (some ⟨w2.heap.size, 0, none⟩ : Option Addr) = vo at *
  clear hm4 ho5 hg5 hb4 H3 HF3 HM3 HB3
  clear HLW
  have HO5 : Hid (OutI w n wd b (.slice vo 1 1) (.int .i64 0) w5 [wd] 0) := ⟨rfl, AllP.start n wd, by simp, HA5.out⟩
  clear HA5
  go_wp2
  clear hrun5
  go_loopw [7, 9] (fun lv iv wr => ∃ L k, OutI w n wd b lv iv wr L k) (fun _ iv _ => 401 - (intOf iv).toNat)
  case atStart => exact ⟨[wd], 0, HO5.out⟩
  case round =>
    obtain ⟨L, k, hI⟩ := hrel
    have hiv := hI.iv
    subst hiv
    have HI : Hid (OutI w n wd b u7 (.int .i64 (k : Int)) wr L k) := hI
    have hle := hI.p.le
    have hlen := hI.len
    clear HO5
    by_cases hlt : k < L.length
    · have hltI : (k : Int) < (L.length : Int) := by omega
      obtain ⟨b1, o1, c1, r1, hs1, _, hc1, hr1⟩ := mat_cell (hI.ai.fr.rws.mat (Nat.le_refl _)) (k := k) (by simpa using hlt)
      rw [List.length_map] at hs1
      subst hs1
      have exk : (L.map natsI).getD k [] = natsI (L.getD k []) := by simp [hlt]
      rw [exk] at hr1
      obtain ⟨x, hx⟩ : ∃ x, L.getD k [] = x := ⟨_, rfl⟩
      rw [hx] at hr1
      have hxm : x ∈ L := by rw [← hx]; simp [hlt]
      obtain ⟨hx1, hx2⟩ := HGD.out x (hI.p.hit x hxm)
      have H3 := near_any w.heap.size n x r1 wr hr1 hn3 (by omega)
      have HGX : Hid (L.getD k [] = x) := hx
      have HRX : Hid (∀ y ∈ nearL x n, Rch n wd y) := fun y hy => rch_near (hI.p.hit x hxm) hy
      have hnl := nearL_len x n
      obtain ⟨xo, xc, hxv, _, _⟩ := sl_open hr1
      subst hxv
      clear hI hr1 exk hx hxm hx1 hx2
      go_wp2_with fail
      refine H3.mono ?_
      rintro e w6 ⟨nv, rfl, hnw⟩
      have hbn : Below wr.heap.size wr w6 := hnw.bel
      have HIN0 : Hid (InI w n wd x (nearL x n) k L.length b nv (.slice (some ⟨b1, o1, none⟩) L.length c1) (.int .i64 0) w6 L 0) :=
        ⟨rfl, Nat.zero_le _, HI.out.p, hlt, HGX.out, by omega, fun i hi => absurd hi (by omega), HI.out.ai.low hbn, hnw.fr.base0 HI.out.ai.bel.size,
          fun e => by
            have h1 := (hnw.fr.blk b e).1
            obtain ⟨es, c, h2⟩ := HI.out.ai.mapAt
            have := (Array.getElem?_eq_some_iff.1 h2).1
            omega,
          fun g h1 h2 => by
            have h3 := (hnw.fr.blk g h2).1
            have h4 := (HI.out.ai.fr.blk g h1).2
            omega⟩
      have hofn : ∃ ao c, nv = .slice ao (nearL x n).length c := by
        obtain ⟨vs, _, h2, _⟩ := hnw.fr
        rw [List.length_map] at h2
        exact owns_form h2
      obtain ⟨no, nc, hnv⟩ := hofn
      subst hnv
      clear hnw hbn H3 HI HGX hc1
      obtain ⟨N, hN⟩ : ∃ N, nearL x n = N := ⟨_, rfl⟩
      have HN : Hid (nearL x n = N) := hN
      rw [hN] at HIN0 HRX hnl ⊢
      clear hN
      go_wp2
      go_loopw [7, 41] (fun lv iv wq => ∃ L2 j, InI w n wd x N k L.length b (.slice no N.length nc) lv iv wq L2 j) (fun _ iv _ => N.length - (intOf iv).toNat)
      case atStart => exact ⟨L, 0, HIN0.out⟩
      case round =>
        obtain ⟨L2, j, hI⟩ := hrel
        rename World => wq
        have hiv := hI.iv
        subst hiv
        have HI : Hid (InI w n wd x N k L.length b (.slice no N.length nc) u7 (.int .i64 (j : Int)) wq L2 j) := hI
        have hjle := hI.le
        have hl2 := hI.len
        clear HIN0
        by_cases hltj : j < N.length
        · have hltjI : (j : Int) < (N.length : Int) := by omega
          have HM0 : Hid (Mat 0 22 3 wq (.slice no N.length nc) (N.map natsI)) := by
            obtain ⟨vs, g1, g2, g3⟩ := hI.nr
            exact ⟨vs, g1, Sl.own g2, g3⟩
          obtain ⟨b2, o2, c2, r2, hs2, _, hc2, hr2⟩ := mat_cell HM0.out (k := j) (by simpa using hltj)
          rw [List.length_map] at hs2
          simp only [Value.slice.injEq, true_and] at hs2
          obtain ⟨rfl, rfl⟩ := hs2
          have eyj : (N.map natsI).getD j [] = natsI (N.getD j []) := by simp [hltj]
          rw [eyj] at hr2
          obtain ⟨y, hy⟩ : ∃ y, N.getD j [] = y := ⟨_, rfl⟩
          rw [hy] at hr2
          have hym : y ∈ N := by rw [← hy]; simp [hltj]
          have hyr := HRX.out y hym
          obtain ⟨hy1, hy2⟩ := HGD.out y hyr
          have HYJ : Hid (N.getD j [] = y) := hy
          have HY : Hid (Rch n wd y ∧ Lw n y ∧ y.length = wd.length) := ⟨hyr, hy1, hy2⟩
          have HR2 : Hid (∀ W, Below wq.heap.size wq W → Sl 0 3 W r2 (ints (natsI y))) := fun W hW => hr2.below hW (Nat.le_refl _)
          have H3 := letters_any 0 y r2 wq hr2 (by omega)
          have HLT : Hid (∀ W, Below wq.heap.size wq W → Calls Try.prog 30 #[r2] W fun e w' => e = .returned (octV y) ∧ Below W.heap.size W w') := fun W hW => letters_any 0 y r2 W (HR2.out W hW) (by have := HY.out.2.2; omega)
          obtain ⟨yo, yc, hyv, _, _⟩ := sl_open hr2
          subst hyv
          rw [natsI_len] at *
          clear HM0 hI hr2 eyj hy hym hyr hy1 hy2
          go_wp2_with fail
          refine H3.mono ?_
          rintro e w7 ⟨rfl, hb7⟩
          have HA7 : Hid (AllI S8 w n wd.length L2 L2 u7 b w7) := HI.out.ai.low hb7
          have HNR7 : Hid (Fr w.heap.size 22 3 w7 (.slice (some ⟨b2, o2, none⟩) N.length nc) (N.map natsI)) := HI.out.nr.below hb7 (Nat.le_refl _)
          have HB7 : Hid (Below wq.heap.size wq w7) := hb7
          obtain ⟨D, hD, hVD⟩ := HA7.out.mp
          have hhas := (hVD y HY.out.2.1 HY.out.2.2).1
          have HD : Hid (w7.ownsMap Try.prog S8.kt S8.R b L2.length D) := hD
          have HVD : Hid (∀ x, Lw n x → x.length = wd.length → Maps.has D (S8.kl x) = decide (x ∈ L2) ∧ (x ∈ L2 → D.atKey (S8.kl x) S8.z0 = S8.d1)) := hVD
          have HHAS : Hid (Maps.has D (octL y) = decide (y ∈ L2)) := hhas
          clear hb7 H3 hD hVD hhas
          by_cases hmem : y ∈ L2
          · have hq : Maps.has D (octL y) = true := by rw [HHAS.out]; simp [hmem]
            have HNX : Hid (∀ W, Below w7.heap.size w7 W → InI w n wd x N k L.length b (.slice (some ⟨b2, o2, none⟩) N.length nc) u7 (.int .i64 ((j + 1 : Nat) : Int)) W L2 (j + 1)) := fun W hW =>
              ⟨rfl, by omega, HI.out.p, HI.out.kl, HI.out.gx, by have := HI.out.len; omega, fun i hi => by
                by_cases e : i = j
                · rw [e, HYJ.out]; exact hmem
                · exact HI.out.got i (by omega), HA7.out.low hW, HNR7.out.below hW (Nat.le_refl _), HI.out.nb, HI.out.ap⟩
            clear HLT HR2 HVD HHAS HA7 HNR7 hmem
            go_wp2_with (first | (at_lookup; refine wpList_lookup_own_unit _ rfl _ _ 56 rfl 53 55 keyed8 map56 (zeroE _) b L2.length D rfl HD.out _ _ rfl (oct_key HY.out.2.1 hn3) ?_))
            go_roundw
            case rel => exact ⟨L2, j + 1, by
              have := HNX.out _ ((Below.refl _ w7).alloc (Nat.le_refl _) (.cells #[] 55))
              exact ⟨by go_num, this.le, this.p, this.kl, this.gx, this.len, this.got, this.ai, this.nr, this.nb, this.ap⟩⟩
            case measure => simp [intOf]; omega
          · have hq : Maps.has D (octL y) = false := by rw [HHAS.out]; simp [hmem]
            have HMEM : Hid (y ∉ L2) := hmem
            clear hmem HHAS
            have hb8 : Below wq.heap.size wq (w7.alloc (.cells #[] 55)) := HB7.out.alloc HB7.out.size _
            have H8 := HLT.out _ hb8
            have HB8 : Hid (Below wq.heap.size wq (w7.alloc (.cells #[] 55))) := hb8
            clear hb8 HLT
            go_wp2_with (first | (at_lookup; refine wpList_lookup_own_unit _ rfl _ _ 56 rfl 53 55 keyed8 map56 (zeroE _) b L2.length D rfl HD.out _ _ rfl (oct_key HY.out.2.1 hn3) ?_))
            refine H8.mono ?_
            rintro e w9 ⟨rfl, hb9⟩
            have hb79 : Below w7.heap.size w7 w9 := ((Below.refl _ w7).alloc (Nat.le_refl _) _).trans (hb9.mono (by simp))
            have HA9 : Hid (AllI S8 w n wd.length L2 L2 u7 b w9) := HA7.out.low hb79
            have HNR9 : Hid (Fr w.heap.size 22 3 w9 (.slice (some ⟨b2, o2, none⟩) N.length nc) (N.map natsI)) := HNR7.out.below hb79 (Nat.le_refl _)
            have HD9 : Hid (w9.ownsMap Try.prog S8.kt S8.R b L2.length D) := HD.out.kept (row := none) ⟨hb79.os, hb79.tape, hb79.output, hb79.size, fun k hk _ => hb79.block k hk⟩ (by simp)
            have HSL9 : Hid (Sl 0 3 w9 (.slice yo y.length yc) (ints (natsI y))) := HR2.out w9 (HB7.out.trans (hb79.mono HB7.out.size))
            clear hb9 hb79 H8 HD hq HA7 HNR7 HR2 HB8 HB7
            go_wp2_with (first | (at_mapUpdate; refine wpList_mapUpdate_own _ rfl _ _ _ 56 rfl 53 55 keyed8 map56 S8.R b L2.length D rfl HD9.out (by unfold maxLen; omega) _ _ (octL y) rfl rfl (oct_key HY.out.2.1 hn3) (.agg []) [] unitElem_mk ?_))
            intro w10 ho10 hg10
            have HA10 : Hid (AllI S8 w n wd.length L2 (L2 ++ [y]) u7 b w10) := HA9.out.put HD9.out HVD.out HY.out.2.1 HY.out.2.2 (octL_key y) (fun z h1 h2 h3 => HINJ.out z y h1 h2 HY.out.2.1 HY.out.2.2 h3) ho10 hg10
            have HNR10 : Hid (Fr w.heap.size 22 3 w10 (.slice (some ⟨b2, o2, none⟩) N.length nc) (N.map natsI)) := HNR9.out.mapG hg10 HA9.out.mapAt HI.out.nb
            have HSL10 : Hid (Sl 0 3 w10 (.slice yo y.length yc) (ints (natsI y))) := HSL9.out.grown hg10 (fun k hk => ⟨Nat.zero_le _, fun cur e => by
              obtain ⟨es, c, hm⟩ := HA9.out.mapAt
              simp only [Option.some.injEq] at hk
              subst hk
              rw [hm] at e
              simp at e⟩)
            have hsz10 : w.heap.size ≤ w10.heap.size := HA10.out.bel.size
            clear ho10 hg10 HA9 HNR9 HSL9 HD9 HVD
            obtain ⟨vs, lo, lc, hlv, hown, hpu⟩ := HA10.out.opn
            have HOW : Hid (w10.ownsRow w.heap.size 22 1 u7 L2.length vs) := hown
            have HFIN : Hid (∀ v' w3, w3.ownsRow w.heap.size 22 1 v' (L2.length + 1) (vs ++ [.slice yo y.length yc]) → (w10.alloc (.cells #[.slice yo y.length yc] 22)).grownBy w3 u7.ownBlock → (v'.ownBlock = u7.ownBlock ∨ v'.ownBlock = some (w10.heap.size + 1)) → InI w n wd x N k L.length b (.slice (some ⟨b2, o2, none⟩) N.length nc) v' (.int .i64 ((j + 1 : Nat) : Int)) w3 (L2 ++ [y]) (j + 1)) := fun v' w3 h1 h2 h3 => by
              have ha := hpu y _ HSL10.out v' w3 h1 h2 h3
              refine ⟨rfl, by omega, HI.out.p.push HY.out.1 HMEM.out, by have := HI.out.kl; simp; omega, ?_, by have := HI.out.len; simp; omega, fun i hi => ?_, ⟨ha.fr, by have := ha.mp; exact this, ha.bb, ha.ne, ha.bel⟩, ?_, HI.out.nb, ?_⟩
              · rw [← HI.out.gx]
                simp only [List.getD_eq_getElem?_getD]; rw [List.getElem?_append_left HI.out.kl]
              · by_cases e : i = j
                · rw [e, HYJ.out]; simp
                · exact List.mem_append_left _ (HI.out.got i (by omega))
              · exact Fr.kept (by decide) (HNR10.out.alloc _) (HOW.out.alloc _) h2 HI.out.ap
              · intro g hg1 hg2
                rcases h3 with e | e
                · exact HI.out.ap g (by rw [← e]; exact hg1) hg2
                · rw [e] at hg1
                  have := (HNR10.out.blk g hg2).2
                  simp only [Option.some.injEq] at hg1
                  omega
            subst hlv
            clear hown hpu HA10 HNR10 HSL10
            go_wp2_with (first | (at_builtin; refine wpList_append_own_at _ rfl _ _ 30 rfl w.heap.size 22 i0 (.slice none 0 0) 1 24 Try.underlying30 hi0 hz0 hz1 hz2 rfl (by decide) _ _ _ rfl (HOW.out.alloc _) ⟨w10.heap.size, 0, none⟩ 1 1 [.slice yo y.length yc] rfl rfl (one_new _ _ _) (word_one _ yo y.length yc rfl) ?c3 ?c4 ?c5 ?_))
            case c3 => unfold maxLen; omega
            case c4 => omega
            case c5 => first | exact Nat.le_trans hsz10 (Nat.le_succ _) | (simp; omega)
            intro v11 w11 ho11 hg11 _ hat11
            have H11 : Hid (InI w n wd x N k L.length b (.slice (some ⟨b2, o2, none⟩) N.length nc) v11 (.int .i64 ((j + 1 : Nat) : Int)) w11 (L2 ++ [y]) (j + 1)) := HFIN.out v11 w11 ho11 hg11 hat11
            clear ho11 hg11 hat11 HFIN HOW
            go_wp2
            go_roundw
            case rel => exact ⟨L2 ++ [y], j + 1, by
              have := H11.out
              exact ⟨by go_num, this.le, this.p, this.kl, this.gx, this.len, this.got, this.ai, this.nr, this.nb, this.ap⟩⟩
            case measure => simp [intOf]; omega
        · have hje : j = N.length := by omega
          have HPN : Hid (AllP n wd L2 (k + 1)) := hI.p.next hI.kl (fun y hy => by
            rw [hI.gx, HN.out] at hy
            obtain ⟨i, hi, rfl⟩ := List.mem_iff_getElem.1 hy
            have := hI.got i (by omega)
            simpa [hi] using this)
          have HA : Hid (AllI S8 w n wd.length L2 L2 u7 b wq) := hI.ai
          obtain ⟨lo, lc, hlv⟩ : ∃ lo lc, u7 = .slice lo L2.length lc := by
            obtain ⟨vs, _, h2, _⟩ := hI.ai.fr
            rw [List.length_map] at h2
            exact owns_form h2
          subst hlv
          clear hI HI
          by_cases h400 : 400 < L2.length
          · have h4I : (400 : Int) < (L2.length : Int) := by omega
            go_wp2
            go_ret2
            exact ⟨Or.inr ⟨L2, rfl, HPN.out.nod, HPN.out.hit, h400⟩, HA.out.bel⟩
          · have h4I : ¬ (400 : Int) < (L2.length : Int) := by omega
            go_wp2
            go_roundw
            case rel => exact ⟨L2, k + 1, by go_num, HPN.out, by omega, HA.out⟩
            case measure => simp [intOf]; omega
    · have hke : k = L.length := by omega
      have HP : Hid (AllP n wd L L.length) := by rw [hke] at hI; exact hI.p
      have HA : Hid (AllI S8 w n wd.length L L u7 b wr) := hI.ai
      obtain ⟨lo, lc, hlv⟩ : ∃ lo lc, u7 = .slice lo L.length lc := by
        obtain ⟨vs, _, h2, _⟩ := hI.ai.fr
        rw [List.length_map] at h2
        exact owns_form h2
      subst hlv
      have HS := sort_any w.heap.size (L.map natsI) (.slice lo L.length lc) wr hI.ai.fr (by simp; omega)
      have hltI : ¬ (k : Int) < (L.length : Int) := by omega
      clear hI HI
      go_wp2_with fail
      refine HS.mono ?_
      rintro e w6 ⟨rfl, s, hp, hs, hf, hb⟩
      have HFIN : Hid (AllR w n wd (.returned (.tuple #[.slice lo L.length lc, .int .i64 0])) w6) := by
        refine ⟨Or.inl ⟨_, L, s, rfl, HP.out.done, hlen, hf, nodup_asc ?_ (fun i j h1 h2 => by have := hs i j h1 h2; omega), fun r => hp.mem_iff⟩, HA.out.bel.trans hb⟩
        refine hp.nodup_iff.2 ?_
        exact List.pairwise_map.2 (HP.out.nod.imp fun hne e => hne (natsI_inj e))
      clear hp hs hf hb HS
      go_wp2
      go_ret2
      exact HFIN.out

end Go.Proofs.Ytnooabbcfhmjaaa
