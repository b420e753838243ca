/- The document's AllOf. -/
import Derived.Test.YtnooabbcfhmjaaaCr14
import Derived.Test.YtnooabbcfhmjaaaCr16
namespace Go.Proofs.Ytnooabbcfhmjaaa
open Go.RowKit
attribute [local go_sem ↓] Go.wp_at_zero Go.wp_at_succ

noncomputable def SS : KeyS := ⟨9, plainElem Try.prog 4, kyL, .lit (.bool false), .lit (.bool true)⟩

theorem str_keyed : Maps.Keyed Try.prog 9 := Maps.string_keyed (by kernel_rfl)

theorem map50 : Try.prog.underlying 50 = some (.map 9 4) := by kernel_rfl

theorem boolB : Try.prog.underlying 4 = some .bool := by kernel_rfl

theorem zeroB (w : World) : (zeroValue 4).run Try.prog w = .ok (.bool false) w := by kernel_rfl

theorem kyL_key (x : List Nat) : WideAt.IsKeyLit (kyL x) := trivial

theorem plainElem_bool_inv {v : Value} {q : Bool} {ps : List MemPlace} (h : plainElem (H := Unit) Try.prog 4 v = some (.lit (.bool q), ps)) : v = .bool q := by
  unfold plainElem at h
  rw [boolB] at h
  cases v <;> simp at h
  rw [h.1]

/-- As far as the inner loop is. -/
structure InJ (w : World) (n : Nat) (wd x : List Nat) (k b : Nat) (v iv : Value) (wq : World) (L : List (List Nat)) (i : Nat) : Prop where
  iv : iv = .int .i64 (i : Int)
  le : i ≤ 2 * n
  p : AllP n wd L k
  kl : k < L.length
  gx : L.getD k [] = x
  len : L.length ≤ 400
  got : ∀ t, t < i → ∀ y, turn (t % 2 == 0) x (t / 2) = some y → y ∈ L
  ai : AllI SS w n wd.length L L v b wq

structure OutJ (w : World) (n : Nat) (wd : List Nat) (b : Nat) (v iv : Value) (wq : World) (L : List (List Nat)) (k : Nat) : Prop where
  iv : iv = .int .i64 (k : Int)
  p : AllP n wd L k
  len : L.length ≤ 400
  ai : AllI SS w n wd.length L L v b wq

structure AllD (w : World) (n : Nat) (wd : List Nat) (e : Ending) (w' : World) : Prop where
  ex : (∃ u L s, e = .returned (.tuple #[u, .bool true]) ∧ All n wd L ∧ L.length ≤ 400 ∧ Fr w.heap.size 22 3 w' u s ∧ SAsc s ∧ ∀ r, r ∈ s ↔ r ∈ L.map natsI) ∨ ∃ M : List (List Nat), e = .returned (.tuple #[.slice none 0 0, .bool false]) ∧ M.Nodup ∧ (∀ x ∈ M, Rch n wd x) ∧ 400 < M.length
  bel : Below w.heap.size w w'

theorem turn_near {n t : Nat} {x y : List Nat} (ht : t < 2 * n) (h : turn (t % 2 == 0) x (t / 2) = some y) : y ∈ nearL x n := by
  unfold turn at h
  split at h
  · exact mem_nearL.2 ⟨t / 2, by omega, Or.inr h⟩
  · exact mem_nearL.2 ⟨t / 2, by omega, Or.inl h⟩

theorem near_turn {n : Nat} {x y : List Nat} (h : y ∈ nearL x n) : ∃ t, t < 2 * n ∧ turn (t % 2 == 0) x (t / 2) = some y := by
  obtain ⟨i, hi, h1 | h1⟩ := mem_nearL.1 h
  · refine ⟨2 * i + 1, by omega, ?_⟩
    have e1 : ((2 * i + 1) % 2 == 0) = false := by
      have : (2 * i + 1) % 2 = 1 := by omega
      rw [this]; rfl
    have e2 : (2 * i + 1) / 2 = i := by omega
    rw [e1, e2]
    exact h1
  · refine ⟨2 * i, by omega, ?_⟩
    have e1 : (2 * i % 2 == 0) = true := by
      have : 2 * i % 2 = 0 := by omega
      rw [this]; rfl
    have e2 : 2 * i / 2 = i := by omega
    rw [e1, e2]
    exact h1

set_option maxRecDepth 100000 in
set_option maxHeartbeats 1600000 in
theorem allOf_any (B : Nat) (n : Nat) (wd : List Nat) (v : Value) (w : World) (hv : Sl B 3 w v (ints (natsI wd))) (hn1 : 1 ≤ n) (hn3 : n ≤ 3) (hl : wd.length ≤ 8) (hlw : Lw n wd) :
    Calls Try.prog 13 #[.int .i64 (n : Int), v] w fun e w' => AllD w n wd e w' := by
  obtain ⟨i0, hi0, hz0, hz1, hz2⟩ := info_parts Try.info22
  have HCL := copy_any B (natsI wd) v w hv (by rw [natsI_len]; omega)
  rw [natsI_len] at HCL
  have HLE : Hid (∀ W, Below w.heap.size w W → Calls Try.prog 27 #[v] W fun e w' => e = .returned (kyV wd) ∧ Below W.heap.size W w') := fun W hW => key_any B wd v W (hv.below hW (Nat.le_refl _)) hl (fun z hz => by have := hlw z hz; omega)
  have HLW : Hid (Lw n wd) := hlw
  have HINJ : Hid (∀ x y, Lw n x → x.length = wd.length → Lw n y → y.length = wd.length → kyL x = kyL y → x = y) := fun x y h1 h2 h3 h4 h5 => ky_inj (fun z hz => by have := h1 z hz; omega) (fun z hz => by have := h3 z hz; omega) h5
  have HGD : Hid (∀ x, Rch n wd x → Lw n x ∧ x.length = wd.length) := fun x hx => rch_good hlw hx
  obtain ⟨ao, cap, hvv, hlc, hcm⟩ := sl_open hv
  subst hvv
  clear hv hlw
  have hmm := @run_makeMap Try.prog
  go_enter Try.func13, Try.ntmps13
  go_wp2_with fail
  refine HCL.mono ?_
  rintro e w2 ⟨u, rfl, hou, hb2⟩
  have HB2 : Hid (Below w.heap.size w w2) := hb2
  obtain ⟨uo, uc, huv⟩ := owns_form hou
  subst huv
  have HOU : Hid (w2.ownsRow w.heap.size 3 1 (.slice uo wd.length uc) wd.length (ints (natsI wd))) := hou
  clear hou hb2 HCL
  have hsz2 : w.heap.size ≤ w2.heap.size := HB2.out.size
  obtain ⟨W3, hW3⟩ : ∃ W3, W3 = (w2.alloc (.cells #[.slice uo wd.length uc] 22)).alloc (.map #[] 0) := ⟨_, rfl⟩
  have hb3 : Below w.heap.size w W3 := by rw [hW3]; exact (HB2.out.alloc hsz2 _).alloc (by simp; omega) _
  have H3 := HLE.out W3 hb3
  have HF3 : Hid (Fr w.heap.size 22 3 W3 (.slice (some ⟨w2.heap.size, 0, none⟩) 1 1) ([wd].map natsI)) := by
    rw [hW3]
    refine Fr.alloc ?_ _
    refine ⟨[.slice uo wd.length uc], rfl, ?_, fun i hi => ?_⟩
    · have h := World.ownsRow_lit (base := w.heap.size) (e := 22) (size := 1) w2 #[.slice uo wd.length uc] 1 hsz2 (by simp [maxLen]) (by simp)
      simpa using h
    · have hi0 : i = 0 := by simpa using hi
      subst hi0
      exact (Sl.own HOU.out).alloc _
  have HM3 : Hid (W3.ownsMap Try.prog SS.kt SS.R (w2.heap.size + 1) 0 (.map [])) := by
    rw [hW3]
    have := World.ownsMap_made (w2.alloc (.cells #[.slice uo wd.length uc] 22)) Try.prog SS.kt SS.R
    rw [World.size_alloc] at this
    exact this
  have HB3 : Hid (Below w.heap.size w W3) := hb3
  rw [hW3] at H3
  clear hb3 HLE HOU HB2
  go_wp2_with fail
  rw [← hW3] at H3 ⊢
  clear hW3 hmm
  refine H3.mono ?_
  rintro e w4 ⟨rfl, hb4⟩
  have hm4 : w4.ownsMap Try.prog SS.kt SS.R (w2.heap.size + 1) 0 (.map []) := HM3.out.kept (row := none) ⟨hb4.os, hb4.tape, hb4.output, hb4.size, fun k hk _ => hb4.block k hk⟩ (by simp)
  obtain ⟨w5, hrun5, ho5, hg5⟩ := hm4.update (val := .bool true) (d := .lit (.bool true)) (ps := []) str_keyed map50 (by unfold maxLen; omega) (ky_key wd hl) (plainElem_bool boolB true)
  have HA5 : Hid (AllI SS w n wd.length [wd] [wd] (.slice (some ⟨w2.heap.size, 0, none⟩) 1 1) (w2.heap.size + 1) w5) :=
    AllI.start (HF3.out.below hb4 (Nat.le_refl _)) hm4 (by omega) (by simp [Value.ownBlock]) (HB3.out.trans (hb4.mono HB3.out.size)) HLW.out (kyL_key wd) (fun z h1 h2 h3 => HINJ.out z wd h1 h2 HLW.out rfl h3) ho5 hg5
  generalize w2.heap.size + 1 = b at *
  generalize (some ⟨w2.heap.size, 0, none⟩ : Option Addr) = vo at *
  clear hm4 ho5 hg5 hb4 H3 HF3 HM3 HB3 HLW
  have HO5 : Hid (OutJ w n wd b (.slice vo 1 1) (.int .i64 0) w5 [wd] 0) := ⟨rfl, AllP.start n wd, by simp, HA5.out⟩
  clear HA5
  go_wp2
  clear hrun5
  go_loopw [6, 8] (fun lv iv wr => ∃ L k, OutJ w n wd b lv iv wr L k) (fun _ iv _ => 401 - (intOf iv).toNat)
  case atStart => exact ⟨[wd], 0, HO5.out⟩
  case round =>
    obtain ⟨L, k, hI⟩ := hrel
    have hiv := hI.iv
    subst hiv
    have HI : Hid (OutJ w n wd b u6 (.int .i64 (k : Int)) wr L k) := hI
    have hle := hI.p.le
    have hlen := hI.len
    clear HO5
    by_cases hlt : k < L.length
    · have hltI : (k : Int) < (L.length : Int) := by omega
      obtain ⟨x, hx⟩ : ∃ x, L.getD k [] = x := ⟨_, rfl⟩
      have HIN0 : Hid (InJ w n wd x k b u6 (.int .i64 0) wr L 0) := ⟨rfl, Nat.zero_le _, hI.p, hlt, hx, hlen, fun t ht => absurd ht (by omega), hI.ai⟩
      have hxm : x ∈ L := by rw [← hx]; simp [hlt]
      have HXR : Hid (Rch n wd x) := hI.p.hit x hxm
      obtain ⟨lo, lc, hlv⟩ : ∃ lo lc, u6 = .slice lo L.length lc := by
        obtain ⟨vs, _, h2, _⟩ := hI.ai.fr
        rw [List.length_map] at h2
        exact owns_form h2
      subst hlv
      clear hI HI hxm hx
      go_wp2
      go_loopw [6, 9] (fun lv iv wq => ∃ L2 i, InJ w n wd x k b lv iv wq L2 i) (fun _ iv _ => 2 * n - (intOf iv).toNat)
      case atStart => exact ⟨L, 0, HIN0.out⟩
      case round =>
        obtain ⟨L2, i, hI⟩ := hrel
        rename World => wq
        have hiv := hI.iv
        subst hiv
        have HI : Hid (InJ w n wd x k b u6 (.int .i64 (i : Int)) wq L2 i) := hI
        have hile := hI.le
        have hl2 := hI.len
        have hkl2 := hI.kl
        obtain ⟨lo2, lc2, hlv2⟩ : ∃ lo lc, u6 = .slice lo L2.length lc := by
          obtain ⟨vs, _, h2, _⟩ := hI.ai.fr
          rw [List.length_map] at h2
          exact owns_form h2
        subst hlv2
        clear HIN0
        by_cases hlti : i < 2 * n
        · have hltiI : (i : Int) < 2 * (n : Int) := by omega
          have HM0 : Hid (Mat 0 22 3 wq (.slice lo2 L2.length lc2) (L2.map natsI)) := by
            obtain ⟨vs, g1, g2, g3⟩ := hI.ai.fr
            exact ⟨vs, g1, Sl.own g2, g3⟩
          obtain ⟨b1, o1, c1, r1, hs1, _, hc1, hr1⟩ := mat_cell HM0.out (k := k) (by simpa using hkl2)
          rw [List.length_map] at hs1
          simp only [Value.slice.injEq, true_and] at hs1
          obtain ⟨rfl, rfl⟩ := hs1
          have exk : (L2.map natsI).getD k [] = natsI (L2.getD k []) := by simp [hkl2]
          rw [exk, hI.gx] at hr1
          obtain ⟨hx1, hx2⟩ := HGD.out x HXR.out
          have H3 := turnW_any 0 (i % 2 == 0) x (i / 2) r1 wq hr1 (by omega) (by omega)
          obtain ⟨xo, xc, hxv, _, _⟩ := sl_open hr1
          subst hxv
          obtain ⟨ih, hih⟩ : ∃ ih, i / 2 = ih := ⟨_, rfl⟩
          have hdq : Int.tdiv (i : Int) 2 = (ih : Int) := by rw [← hih]; exact rfl
          have hqI : ((i : Int) % 2 == 0) = (i % 2 == 0) := by
            rcases Nat.mod_two_eq_zero_or_one i with h | h
            · have h2 : (i : Int) % 2 = 0 := by omega
              rw [h, h2]; rfl
            · have h2 : (i : Int) % 2 = 1 := by omega
              rw [h, h2]; rfl
          have HTN : Hid (∀ y, turn (i % 2 == 0) x ih = some y → Rch n wd y) := fun y hy => rch_near HXR.out (turn_near hlti (by rw [hih]; exact hy))
          have HGT : Hid (∀ L3 : List (List Nat), (∀ t, t < i → ∀ y, turn (t % 2 == 0) x (t / 2) = some y → y ∈ L3) → (∀ y, turn (i % 2 == 0) x ih = some y → y ∈ L3) → ∀ t, t < i + 1 → ∀ y, turn (t % 2 == 0) x (t / 2) = some y → y ∈ L3) := fun L3 h1 h2 t ht y hy => by
            by_cases e : t = i
            · subst e; rw [hih] at hy; exact h2 y hy
            · exact h1 t (by omega) y hy
          rw [hih, ← hqI] at H3
          rw [← hqI] at HTN HGT
          have hkI : (k : Int) < (L2.length : Int) := by omega
          have hihb : ih ≤ 3 := by omega
          clear HM0 hI exk hr1 hih hqI
          go_wp2_with fail
          generalize ((i : Int) % 2 == 0) = q at H3 HTN HGT ⊢
          refine H3.mono ?_
          rintro e w6 ⟨⟨u, rfl, hu⟩, hb6⟩
          have HA6 : Hid (AllI SS w n wd.length L2 L2 (.slice (some ⟨b1, o1, none⟩) L2.length lc2) b w6) := HI.out.ai.low hb6
          clear hb6 H3 hdq hc1
          cases hT : turn q x ih with
          | none =>
            have HNX : Hid (InJ w n wd x k b (.slice (some ⟨b1, o1, none⟩) L2.length lc2) (.int .i64 ((i + 1 : Nat) : Int)) w6 L2 (i + 1)) := ⟨rfl, by omega, HI.out.p, HI.out.kl, HI.out.gx, HI.out.len, HGT.out L2 HI.out.got (fun y hy => by rw [hT] at hy; cases hy), HA6.out⟩
            clear hu hT HA6
            simp only [Option.isSome_none]
            go_wp2
            go_roundw
            case rel => exact ⟨L2, i + 1, by have := HNX.out; exact ⟨by go_num, this.le, this.p, this.kl, this.gx, this.len, this.got, this.ai⟩⟩
            case measure => simp [intOf]; omega
          | some y =>
            rw [hT] at hu
            have hyr := HTN.out y hT
            obtain ⟨hy1, hy2⟩ := HGD.out y hyr
            have HY : Hid (Rch n wd y ∧ Lw n y ∧ y.length = wd.length) := ⟨hyr, hy1, hy2⟩
            have HGY : Hid (∀ L3 : List (List Nat), (∀ t, t < i → ∀ z, turn (t % 2 == 0) x (t / 2) = some z → z ∈ L3) → y ∈ L3 → ∀ t, t < i + 1 → ∀ z, turn (t % 2 == 0) x (t / 2) = some z → z ∈ L3) := fun L3 h1 h2 => HGT.out L3 h1 (fun z hz => by rw [hT] at hz; cases hz; exact h2)
            have hus : Sl 0 3 w6 u (ints (natsI y)) := Sl.own hu
            have HUS : Hid (∀ W, Below w6.heap.size w6 W → Sl 0 3 W u (ints (natsI y))) := fun W hW => hus.below hW (Nat.le_refl _)
            have HKY : Hid (∀ W, Below w6.heap.size w6 W → Calls Try.prog 27 #[u] W fun e w' => e = .returned (kyV y) ∧ Below W.heap.size W w') := fun W hW => key_any 0 y u W (HUS.out W hW) (by have := HY.out.2.2; omega) (fun z hz => by have := HY.out.2.1 z hz; omega)
            have H4 := HKY.out w6 (Below.refl _ _)
            obtain ⟨yo, yc, hyv⟩ := owns_form hu
            subst hyv
            clear hu hus hT hyr hy1 hy2 HTN HGT
            simp only [Option.isSome_some]
            go_wp2_with fail
            refine H4.mono ?_
            rintro e w7 ⟨rfl, hb7⟩
            have HA7 : Hid (AllI SS w n wd.length L2 L2 (.slice (some ⟨b1, o1, none⟩) L2.length lc2) b w7) := HA6.out.low hb7
            have HB7 : Hid (Below w6.heap.size w6 w7) := hb7
            obtain ⟨D, hD, hVD⟩ := HA7.out.mp
            have HD : Hid (w7.ownsMap Try.prog SS.kt SS.R b L2.length D) := hD
            have HVD : Hid (∀ x, Lw n x → x.length = wd.length → Maps.has D (SS.kl x) = decide (x ∈ L2) ∧ (x ∈ L2 → D.atKey (SS.kl x) SS.z0 = SS.d1)) := hVD
            have hv1 := hVD y HY.out.2.1 HY.out.2.2
            obtain ⟨vv, ps, hrun7, hR⟩ := hD.lookup str_keyed map50 (zeroB w7) (plainElem_bool boolB false) (ky_key y (by have := HY.out.2.2; omega))
            clear hb7 H4 hD hVD HA6
            by_cases hmem : y ∈ L2
            · have e1 : D.atKey (kyL y) (.lit (.bool false)) = .lit (.bool true) := hv1.2 hmem
              rw [e1] at hR
              have e2 := plainElem_bool_inv hR
              subst e2
              have HNX : Hid (InJ w n wd x k b (.slice (some ⟨b1, o1, none⟩) L2.length lc2) (.int .i64 ((i + 1 : Nat) : Int)) w7 L2 (i + 1)) := ⟨rfl, by omega, HI.out.p, HI.out.kl, HI.out.gx, HI.out.len, HGY.out L2 HI.out.got hmem, HA7.out⟩
              clear hv1 e1 hR hmem HVD HD HA7 HKY HUS
              go_wp2
              go_roundw
              case rel => exact ⟨L2, i + 1, by have := HNX.out; exact ⟨by go_num, this.le, this.p, this.kl, this.gx, this.len, this.got, this.ai⟩⟩
              case measure => simp [intOf]; omega
            · have e0 : Maps.has D (kyL y) = false := by rw [show Maps.has D (kyL y) = decide (y ∈ L2) from hv1.1]; simp [hmem]
              have e1 : D.atKey (kyL y) (.lit (.bool false)) = .lit (.bool false) := Maps.atKey_of_not_has e0 _
              rw [e1] at hR
              have e2 := plainElem_bool_inv hR
              subst e2
              have HMEM : Hid (y ∉ L2) := hmem
              have H8 := HKY.out w7 HB7.out
              clear hv1 e0 e1 hR hmem HKY
              go_wp2_with fail
              refine H8.mono ?_
              rintro e w9 ⟨rfl, hb9⟩
              have HA9 : Hid (AllI SS w n wd.length L2 L2 (.slice (some ⟨b1, o1, none⟩) L2.length lc2) b w9) := HA7.out.low hb9
              have HD9 : Hid (w9.ownsMap Try.prog SS.kt SS.R b L2.length D) := HD.out.kept (row := none) ⟨hb9.os, hb9.tape, hb9.output, hb9.size, fun k hk _ => hb9.block k hk⟩ (by simp)
              have HSL9 : Hid (Sl 0 3 w9 (.slice yo y.length yc) (ints (natsI y))) := HUS.out w9 (HB7.out.trans (hb9.mono HB7.out.size))
              have hy8 : y.length ≤ 8 := by have := HY.out.2.2; omega
              clear hb9 H8 HD HA7 HUS HB7 hrun7
              go_wp2_with (first | (at_mapUpdate; refine wpList_mapUpdate_own _ rfl _ _ _ 50 rfl 9 4 str_keyed map50 SS.R b L2.length D rfl HD9.out (by unfold maxLen; omega) _ _ (kyL y) rfl rfl (ky_key y hy8) (.lit (.bool true)) [] (plainElem_bool boolB true) ?_))
              intro w10 ho10 hg10
              have HA10 : Hid (AllI SS w n wd.length L2 (L2 ++ [y]) (.slice (some ⟨b1, o1, none⟩) L2.length lc2) b w10) := HA9.out.put HD9.out HVD.out HY.out.2.1 HY.out.2.2 (kyL_key y) (fun z h1 h2 h3 => HINJ.out z y h1 h2 HY.out.2.1 HY.out.2.2 h3) ho10 hg10
              have HSL10 : Hid (Sl 0 3 w10 (.slice yo y.length yc) (ints (natsI y))) := HSL9.out.grown hg10 (fun k hk => ⟨Nat.zero_le _, fun cur e => by
                obtain ⟨es, c, hm⟩ := HA9.out.mapAt
                simp only [Option.some.injEq] at hk
                subst hk
                rw [hm] at e
                simp at e⟩)
              have hsz10 : w.heap.size ≤ w10.heap.size := HA10.out.bel.size
              clear ho10 hg10 HA9 HSL9 HD9 HVD
              obtain ⟨vs, lo3, lc3, hlv, hown, hpu⟩ := HA10.out.opn
              have HOW : Hid (w10.ownsRow w.heap.size 22 1 (.slice (some ⟨b1, o1, none⟩) L2.length lc2) L2.length vs) := hown
              have HFIN : Hid (∀ v' w3, w3.ownsRow w.heap.size 22 1 v' (L2.length + 1) (vs ++ [.slice yo y.length yc]) → (w10.alloc (.cells #[.slice yo y.length yc] 22)).grownBy w3 (Value.slice (some ⟨b1, o1, none⟩) L2.length lc2).ownBlock → (v'.ownBlock = (Value.slice (some ⟨b1, o1, none⟩) L2.length lc2).ownBlock ∨ v'.ownBlock = some (w10.heap.size + 1)) → AllI SS w n wd.length (L2 ++ [y]) (L2 ++ [y]) v' b w3) := fun v' w3 h1 h2 h3 => hpu y _ HSL10.out v' w3 h1 h2 h3
              clear hown hpu HA10 HSL10 hlv
              go_wp2_with (first | (at_builtin; refine wpList_append_own_at _ rfl _ _ 30 rfl w.heap.size 22 i0 (.slice none 0 0) 1 24 Try.underlying30 hi0 hz0 hz1 hz2 rfl (by decide) _ _ _ rfl (HOW.out.alloc _) ⟨w10.heap.size, 0, none⟩ 1 1 [.slice yo y.length yc] rfl rfl (one_new _ _ _) (word_one _ yo y.length yc rfl) ?c3 ?c4 ?c5 ?_))
              case c3 => unfold maxLen; omega
              case c4 => omega
              case c5 => first | exact Nat.le_trans hsz10 (Nat.le_succ _) | (simp; omega)
              intro v11 w11 ho11 hg11 _ hat11
              have HA11 : Hid (AllI SS w n wd.length (L2 ++ [y]) (L2 ++ [y]) v11 b w11) := HFIN.out v11 w11 ho11 hg11 hat11
              obtain ⟨vo11, vc11, hv11⟩ := owns_form ho11
              subst hv11
              have HP11 : Hid (AllP n wd (L2 ++ [y]) k) := HI.out.p.push HY.out.1 HMEM.out
              have HGG : Hid ((L2 ++ [y]).getD k [] = x ∧ ∀ t, t < i + 1 → ∀ z, turn (t % 2 == 0) x (t / 2) = some z → z ∈ L2 ++ [y]) := ⟨by
                rw [← HI.out.gx]
                simp only [List.getD_eq_getElem?_getD]; rw [List.getElem?_append_left HI.out.kl], HGY.out (L2 ++ [y]) (fun t ht z hz => List.mem_append_left _ (HI.out.got t ht z hz)) (by simp)⟩
              clear ho11 hg11 hat11 HFIN HOW HGY HI HMEM
              by_cases h400 : 400 < L2.length + 1
              · have h4I : (400 : Int) < ((L2.length + 1 : Nat) : Int) := by omega
                go_wp2
                go_ret2
                exact ⟨Or.inr ⟨L2 ++ [y], rfl, HP11.out.nod, HP11.out.hit, by simp; omega⟩, HA11.out.bel⟩
              · have h4I : ¬ (400 : Int) < ((L2.length + 1 : Nat) : Int) := by omega
                go_wp2
                go_roundw
                case rel => exact ⟨L2 ++ [y], i + 1, by go_num, by omega, HP11.out, by simp; omega, HGG.out.1, by simp; omega, HGG.out.2, HA11.out⟩
                case measure => simp [intOf]; omega
        · have hie : i = 2 * n := by omega
          have hltiI : ¬ (i : Int) < 2 * (n : Int) := by omega
          have HPN : Hid (AllP n wd L2 (k + 1)) := hI.p.next hI.kl (fun y hy => by
            rw [hI.gx] at hy
            obtain ⟨t, ht, h1⟩ := near_turn hy
            exact hI.got t (by omega) y h1)
          have HA : Hid (AllI SS w n wd.length L2 L2 (.slice lo2 L2.length lc2) b wq) := hI.ai
          clear hI HI
          go_wp2
          go_roundw
          case rel => exact ⟨L2, k + 1, by go_num, HPN.out, by omega, HA.out⟩
          case measure => simp [intOf]; omega
    · have hke : k = L.length := by omega
      have HP : Hid (AllP n wd L L.length) := by rw [hke] at hI; exact hI.p
      have HA : Hid (AllI SS w n wd.length L L u6 b wr) := hI.ai
      obtain ⟨lo, lc, hlv⟩ : ∃ lo lc, u6 = .slice lo L.length lc := by
        obtain ⟨vs, _, h2, _⟩ := hI.ai.fr
        rw [List.length_map] at h2
        exact owns_form h2
      subst hlv
      have HS := sortR_any w.heap.size (L.map natsI) (.slice lo L.length lc) wr (hI.ai.fr.rws.mat (Nat.le_refl _)) (by simp; omega) (fun r hr => by
        obtain ⟨x, hx, rfl⟩ := List.mem_map.1 hr
        rw [natsI_len]
        have := (HGD.out x (hI.p.hit x hx)).2
        omega)
      have hltI : ¬ (k : Int) < (L.length : Int) := by omega
      clear hI HI
      go_wp2_with fail
      refine HS.mono ?_
      rintro e w6 ⟨su, s, rfl, hf, hs, hm, hb⟩
      have HFIN : Hid (AllD w n wd (.returned (.tuple #[su, .bool true])) w6) := by
        have hsz := HA.out.bel.size
        exact ⟨Or.inl ⟨_, L, s, rfl, HP.out.done, hlen, hf.base0 hsz, hs, hm⟩, HA.out.bel.trans (hb.mono hsz)⟩
      clear hs hm hf hb HS
      go_wp2
      go_ret2
      exact HFIN.out

end Go.Proofs.Ytnooabbcfhmjaaa
