/- Simplices one behind the other: the document's answer. -/
import Derived.Test.YtmldemimdejciaaDoorShC
namespace Go.Proofs.YtmldemimdejciaaDoor
open Go.RowKit
attribute [local go_sem ↓] Go.wp_at_zero Go.wp_at_succ

/-- Is what x has in common with o in one of the sides? -/
def okAt (x : List Int) (sides : List (List Int)) (o : List Int) : Bool := sides.any (fun s => decide ((sharedL (sharedL x o) s).length = (sharedL x o).length))

theorem sides_snoc (x : List Int) (m : List (List Int)) (k : Nat) (h : k < m.length) : sidesL x (m.take (k + 1)) = sidesStep x (sidesL x (m.take k)) (m.getD k []) := by
  unfold sidesL
  rw [List.take_succ_eq_append_getElem h, List.foldl_append]
  simp [h]

theorem sides_le (x : List Int) : ∀ (l : List (List Int)) (acc : List (List Int)), (l.foldl (sidesStep x) acc).length ≤ acc.length + l.length
  | [], acc => by simp
  | o :: l, acc => by
    rw [List.foldl_cons]
    have := sides_le x l (sidesStep x acc o)
    have h2 : (sidesStep x acc o).length ≤ acc.length + 1 := by
      unfold sidesStep
      split <;> simp
    simp only [List.length_cons]
    omega

theorem shared_le (x o : List Int) : (sharedL x o).length ≤ x.length := List.length_filter_le _ _

theorem okB_at {x : List Int} {ahead sides : List (List Int)} : okB x ahead sides = ahead.all (okAt x sides) := rfl

theorem okB_true {x : List Int} {m sides : List (List Int)} {i : Nat} (h : ∀ k, k < i → okAt x sides (m.getD k []) = true) : okB x (m.take i) sides = true := by
  rw [okB_at, List.all_eq_true]
  intro o ho
  obtain ⟨j, hj, hji, rfl⟩ := sim_take i o ho
  exact h j hji

theorem okB_false {x : List Int} {m sides : List (List Int)} {i k : Nat} (hi : i ≤ m.length) (hk : k < i) (h : okAt x sides (m.getD k []) = false) : okB x (m.take i) sides = false := by
  rw [okB_at, List.all_eq_false]
  refine ⟨m.getD k [], ?_, by rw [h]; simp⟩
  rw [List.mem_take_iff_getElem]
  exact ⟨k, by omega, by simp [show k < m.length by omega]⟩

set_option maxRecDepth 100000 in
set_option maxHeartbeats 4000000 in
theorem shellsOf_any (B : Nat) (m : List (List Int)) (v : Value) (w : World) (hv : Mat B 26 3 w v m) (hS : Sim m) :
    Calls Tryd.prog 7 #[v] w fun e w' => ∃ u, e = .returned (.tuple #[.bool (allOk m m.length), u]) ∧ Sl w'.heap.size 3 w' u (ints (shellA m)) ∧ Below w.heap.size w w' := by
  obtain ⟨i3, hi3, hz30, hz31, hz32⟩ := info_parts Tryd.info26
  have HS : Hid (Sim m) := hS
  obtain ⟨ao, cap, hvv, hlc, hcm⟩ := mat_open hv
  subst hvv
  have HV : Hid (Mat B 26 3 w (.slice ao m.length cap) m) := hv
  clear hv hS
  have hm1 := HS.out.n1
  have hm40 := HS.out.n40
  have hc1 := HS.out.c1
  have hc5 := HS.out.c5
  obtain ⟨b0, o0, cp0, u0, hs0, _, hcc0, hu0⟩ := mat_cell HV.out (k := 0) (by omega)
  simp only [Value.slice.injEq, true_and] at hs0
  obtain ⟨rfl, rfl⟩ := hs0
  obtain ⟨uo0, uc0, hue0, hul0, hum0⟩ := sl_open hu0
  subst hue0
  simp only [Nat.add_zero] at hcc0
  clear hu0
  have hm0 : 0 < m.length := by omega
  have HSA : Hid (shellA m = if allOk m m.length then cntL (m.getD 0 []).length (shN m) m.length else []) := rfl
  have HLEN : Hid (∀ i, i < m.length → (m.getD i []).length = (m.getD 0 []).length) := HS.out.len
  have HCL : Hid (∀ k, (cntL (m.getD 0 []).length (shN m) k).length = (m.getD 0 []).length + 1) := cntL_len _ _
  obtain ⟨c, hc⟩ : ∃ c, c = (m.getD 0 []).length := ⟨_, rfl⟩
  rw [← hc] at HSA HLEN HCL hul0 hcc0 hc1 hc5
  clear hc
  have hmk : (Instr.makeSlice 26 (.int .i64 ((c : Int) + 1)) (.int .i64 ((c : Int) + 1))).run Tryd.prog w = .ok (.slice (some ⟨w.heap.size, 0, none⟩) (c + 1) (c + 1)) (w.alloc (.cells (madeCells #[.int .i64 0] (c + 1)) 3)) := by
    rw [show (c : Int) + 1 = ((c + 1 : Nat) : Int) by omega]
    exact run_make_row' (P := Tryd.prog) 26 3 (.int .i64 0) 8 Tryd.underlying26 Tryd.info3 rfl .i64 .i64 (c + 1) (by omega) (by omega) w
  have HBK0 : Hid (Blk w.heap.size (w.alloc (.cells (madeCells #[.int .i64 0] (c + 1)) 3)) (cntL c (shN m) 0)) := Blk.made w (c + 1)
  have HBA : Hid (Below w.heap.size w (w.alloc (.cells (madeCells #[.int .i64 0] (c + 1)) 3))) := (Below.refl _ _).alloc (Nat.le_refl _) _
  have hszA : w.heap.size < (w.alloc (.cells (madeCells #[.int .i64 0] (c + 1)) 3)).heap.size := by simp
  go_enter Tryd.func7, Tryd.ntmps7
  go_wp2
  generalize w.alloc (.cells (madeCells #[.int .i64 0] (c + 1)) 3) = wA at *
  obtain ⟨N, hN⟩ : ∃ N, N = w.heap.size := ⟨_, rfl⟩
  have HN : Hid (N = w.heap.size) := hN
  rw [← hN] at HBK0 hszA
  rw [← hN]
  clear hN hmk
  go_loopw [5] (fun i wr => ∃ k : Nat, k ≤ m.length ∧ i = .int .i64 k ∧ allOk m k = true ∧ Blk N wr (cntL c (shN m) k) ∧ Below w.heap.size w wr ∧ N < wr.heap.size) (fun i _ => m.length - (intOf i).toNat)
  case atStart => exact ⟨0, Nat.zero_le _, rfl, rfl, HBK0.out, HBA.out, hszA⟩
  case round =>
    obtain ⟨i, hi, rfl, hall, hbk, hb, hsz⟩ := hrel
    rename World => wo
    have HALL : Hid (allOk m i = true) := hall
    have HBK : Hid (Blk N wo (cntL c (shN m) i)) := hbk
    have HB : Hid (Below w.heap.size w wo) := hb
    clear hall hbk hb
    by_cases hlt : i < m.length
    · obtain ⟨b, o, cp, u, hs, _, hcc, hu⟩ := mat_cell (HV.out.below HB.out (Nat.le_refl _)) hlt
      simp only [Value.slice.injEq, true_and, Option.some.injEq, Addr.mk.injEq, and_true] at hs
      obtain ⟨⟨rfl, rfl⟩, rfl⟩ := hs
      obtain ⟨uo, uc, hue, hul, hum⟩ := sl_open hu
      subst hue
      have HU : Hid (Sl B 3 wo (.slice uo (m.getD i []).length uc) (ints (m.getD i []))) := hu
      have hxc := HLEN.out i hlt
      have HMO : Hid (Mat B 26 3 wo (.slice (some ⟨b0, o0, none⟩) m.length cap) m) := HV.out.below HB.out (Nat.le_refl _)
      have HOK : Hid (shOk m i = okB (m.getD i []) (m.take i) (sidesL (m.getD i []) (m.take i))) := met_ok (HS.out.ris i hlt) (by rw [hxc]; omega) (HS.out.ahd hlt)
      have HSN : Hid (shN m i = (sidesL (m.getD i []) (m.take i)).length) := met_len (HS.out.ris i hlt) (by rw [hxc]; omega) (HS.out.ahd hlt)
      have HNL : Hid (shN m i ≤ c) := by show _ ≤ _; rw [← hxc]; exact met_le _
      have HCC : Hid (∀ wq, Below wo.heap.size wo wq → wq.cell? ⟨b0, o0 + i, none⟩ = some (.slice uo (m.getD i []).length uc)) := fun wq hq => (hq.cell (lt_of_cell hcc)).trans hcc
      clear hu hcc
      generalize m.getD i [] = x at *
      rw [hxc] at HU HCC hul
      have HXC : Hid (x.length = c) := hxc
      clear hxc
      go_wp2
      go_loopw [6, 7] (fun s q wr => ∃ k : Nat, k ≤ i ∧ q = .int .i64 k ∧ Fr wo.heap.size 26 3 wr s (sidesL x (m.take k)) ∧ Below wo.heap.size wo wr) (fun _ q _ => i - (intOf q).toNat)
      case atStart => exact ⟨0, Nat.zero_le _, rfl, Fr.nil _ _ _ _, Below.refl _ _⟩
      case round =>
        obtain ⟨k, hk, rfl, hf, hbq⟩ := hrel
        have HF : Hid (Fr wo.heap.size 26 3 wr u6 (sidesL x (m.take k))) := hf
        have HBQ : Hid (Below wo.heap.size wo wr) := hbq
        have hszq : wo.heap.size ≤ wr.heap.size := hbq.size
        have hcx := HCC.out wr hbq
        clear hf hbq
        by_cases hki : k < i
        · obtain ⟨b1, o1, cp1, r1, hs1, _, hcc1, hr1⟩ := mat_cell (HMO.out.below HBQ.out (Nat.le_refl _)) (show k < m.length by omega)
          simp only [Value.slice.injEq, true_and, Option.some.injEq, Addr.mk.injEq, and_true] at hs1
          obtain ⟨⟨rfl, rfl⟩, rfl⟩ := hs1
          have hkm : k < m.length := by omega
          have HSS : Hid (sidesL x (m.take (k + 1)) = sidesStep x (sidesL x (m.take k)) (m.getD k [])) := sides_snoc x m k hkm
          have HSLE : Hid ((sidesL x (m.take k)).length ≤ 40) := by
            have := sides_le x (m.take k) []
            show _ ≤ _
            unfold sidesL
            simp only [List.length_nil, List.length_take] at this
            omega
          have HSH : Hid (∀ q, Calls Tryd.prog 15 #[.slice uo c uc, r1] (wr.drewN q) fun e w' => ∃ z, e = .returned z ∧ w'.ownsRow wr.heap.size 3 1 z (sharedL x (m.getD k [])).length (ints (sharedL x (m.getD k []))) ∧ Below wr.heap.size wr w') := fun q => (shared_any B x (m.getD k []) _ r1 (wr.drewN q) (by have := (HU.out.below HBQ.out (Nat.le_refl _)).drewN q; exact this) (hr1.drewN q) (by rw [HXC.out]; omega)).mono (fun e w' h => by obtain ⟨z, h1, h2, h3⟩ := h; exact ⟨z, h1, h2, (bel_drewN (Below.refl _ _) q).trans h3⟩)
          have HSL : Hid ((sharedL x (m.getD k [])).length ≤ c) := by show _ ≤ _; rw [← HXC.out]; exact shared_le _ _
          clear hr1
          generalize m.getD k [] = y at *
          have hiI : (i : Int) < (m.length : Int) := by omega
          have hkI : (k : Int) < (m.length : Int) := by omega
          go_wp2
          go_region_law (refine step_c2 (o := { dst := some 38, op := _, type := _, pos := _, after := _, guard := _ }) (by rfl) 15 _ _ 26 26 (by rfl) _ _ (by rfl) (by rfl) ⟨_, Tryd.func15, by rfl, by rfl⟩ ?_; refine (HSH.out 1).mono ?_; rintro e w2 ⟨z, rfl, hz, hb2⟩; refine ⟨_, rfl, ?_⟩)
          all_goals
            obtain ⟨zo, zc, hzv⟩ := owns_form hz
            subst hzv
            have HZ : Hid (Sl 0 3 w2 (.slice zo (sharedL x y).length zc) (ints (sharedL x y))) := Sl.own hz
            have HF2 : Hid (Fr wo.heap.size 26 3 w2 u6 (sidesL x (m.take k))) := HF.out.below hb2 (Nat.le_refl _)
            have HB2 : Hid (Below wo.heap.size wo w2) := HBQ.out.trans (hb2.mono hszq)
            have hsz2 : wo.heap.size ≤ w2.heap.size := Nat.le_trans hszq hb2.size
            have hcx2 := HCC.out w2 HB2.out
            have HST : Hid (sidesStep x (sidesL x (m.take k)) y = if (sharedL x y).length = x.length - 1 ∧ sharedL x y ∉ sidesL x (m.take k) then sidesL x (m.take k) ++ [sharedL x y] else sidesL x (m.take k)) := rfl
            rw [HXC.out] at HST
            rw [HST.out] at HSS
            clear hz hb2 HF HBQ hszq hcx HST HSH
            generalize sidesL x (m.take k) = Sd at *
            generalize sharedL x y = sh at *
            obtain ⟨L, hL⟩ : ∃ L, L = sh.length := ⟨_, rfl⟩
            have HL : Hid (L = sh.length) := hL
            rw [← hL] at HZ HSL HSS
            rw [← hL]
            clear hL
            have hLc := HSL.out
            by_cases hq : L = c - 1
            · have hqI : ((L : Int) == (c : Int) - 1) = true := by rw [beq_iff_eq]; omega
              have HQ : Hid (L = c - 1) := hq
              clear hq
              go_wp2_with fail
              refine (holds_any wo.heap.size sh Sd _ _ w2 (HZ.out.more (Nat.zero_le _)) (HF2.out.rws.mat (Nat.le_refl _))).mono ?_
              rintro e w3 ⟨rfl, n3, rfl⟩
              have HZ3 : Hid (Sl 0 3 (w2.drewN n3) (.slice zo L zc) (ints sh)) := HZ.out
              have HF3 : Hid (Fr wo.heap.size 26 3 (w2.drewN n3) u6 Sd) := HF2.out
              have HB3 : Hid (Below wo.heap.size wo (w2.drewN n3)) := bel_drewN HB2.out n3
              have hsz3 : wo.heap.size ≤ (w2.drewN n3).heap.size := hsz2
              clear HZ HF2 HB2 hsz2 hcx2
              generalize w2.drewN n3 = w3 at *
              cases hct : Sd.contains sh
              · have HSE : Hid (sidesL x (m.take (k + 1)) = Sd ++ [sh]) := by
                  show _ = _
                  rw [HSS.out]
                  exact if_pos ⟨HQ.out, fun h => by rw [List.contains_iff_mem.2 h] at hct; cases hct⟩
                clear hct
                obtain ⟨vs, g1, g2, g3⟩ := HF3.out
                have G1 : Hid (vs.length = Sd.length) := g1
                have G2 : Hid (w3.ownsRow wo.heap.size 26 1 u6 Sd.length vs) := g2
                have G3 : Hid (∀ i, i < Sd.length → Sl 0 3 w3 (vs.getD i (.slice none 0 0)) (ints (Sd.getD i []))) := g3
                clear g1 g2 g3 HF3
                go_wp2_with (first | (at_builtin; refine wpList_append_own _ rfl _ _ 22 rfl wo.heap.size 26 i3 (.slice none 0 0) 1 24 Tryd.underlying22 hi3 hz30 hz31 hz32 rfl (by decide) _ _ _ rfl (G2.out.alloc _) ⟨w3.heap.size, 0, none⟩ 1 1 [.slice zo L zc] rfl rfl (one_new _ _ _) (one_slice _ _ _) ?d3 ?d4 ?d5 ?_))
                case d3 => have := HSLE.out; unfold maxLen; omega
                case d4 => have := HSLE.out; omega
                case d5 => simp; omega
                intro v' w4 ho hg _
                have S1 : Hid (Fr wo.heap.size 26 3 w4 v' (sidesL x (m.take (k + 1)))) := by
                  have hp := Fr.push (e2 := 26) (e1 := 3) (m := Sd) (u := .slice zo L zc) (zs := sh) (by decide) G1.out (G2.out.alloc _) (fun i hi => (G3.out i hi).alloc _) (HZ3.out.alloc _) ho hg
                  show Fr _ _ _ _ _ _
                  rw [HSE.out]
                  exact hp
                have S2 : Hid (Below wo.heap.size wo w4) := (HB3.out.alloc hsz3 _).grown hg (by simp; omega) (fun x hx => (G2.out.lt x hx).1)
                clear ho hg G1 G2 G3 HZ3 HB3
                go_wp2
                go_roundw
                case rel => exact ⟨k + 1, by omega, by go_num, S1.out, S2.out⟩
                case measure => simp [intOf]; omega
              · have HSE : Hid (sidesL x (m.take (k + 1)) = Sd) := by
                  show _ = _
                  rw [HSS.out]
                  exact if_neg (fun h => h.2 (List.contains_iff_mem.1 hct))
                clear hct
                go_wp2
                go_roundw
                case rel => exact ⟨k + 1, by omega, by go_num, by rw [HSE.out]; exact HF3.out, HB3.out⟩
                case measure => simp [intOf]; omega
            · have hqI : ((L : Int) == (c : Int) - 1) = false := by rw [beq_eq_false_iff_ne]; omega
              have HSE : Hid (sidesL x (m.take (k + 1)) = Sd) := by show _ = _; rw [HSS.out]; exact if_neg (fun h => hq h.1)
              clear hq
              go_wp2
              go_roundw
              case rel => exact ⟨k + 1, by omega, by go_num, by rw [HSE.out]; exact HF2.out, HB2.out⟩
              case measure => simp [intOf]; omega
        · have hke : k = i := by omega
          subst hke
          obtain ⟨so, sc, hsv, hsl, hsm⟩ := mat_open (HF.out.rws.mat (Nat.le_refl _))
          subst hsv
          have HSLE : Hid ((sidesL x (m.take k)).length ≤ 40) := by
            have := sides_le x (m.take k) []
            show _ ≤ _
            unfold sidesL
            simp only [List.length_nil, List.length_take] at this
            omega
          generalize sidesL x (m.take k) = Sd at *
          rename World => wp
          go_wp2
          go_loopw [9] (fun q wr => ∃ j : Nat, j ≤ k ∧ q = .int .i64 j ∧ (∀ l, l < j → okAt x Sd (m.getD l []) = true) ∧ Below wp.heap.size wp wr) (fun q _ => k - (intOf q).toNat)
          case atStart => exact ⟨0, Nat.zero_le _, rfl, fun l hl => absurd hl (by omega), Below.refl _ _⟩
          case round =>
            obtain ⟨j, hj, rfl, hok, hbw⟩ := hrel
            have HOKS : Hid (∀ l, l < j → okAt x Sd (m.getD l []) = true) := hok
            have HBP : Hid (Below wp.heap.size wp wr) := hbw
            have hszp : wp.heap.size ≤ wr.heap.size := hbw.size
            have HBW : Hid (Below wo.heap.size wo wr) := HBQ.out.trans (hbw.mono hszq)
            have hszw : wo.heap.size ≤ wr.heap.size := Nat.le_trans hszq hbw.size
            have hcx3 := HCC.out wr HBW.out
            have HFW : Hid (Fr wo.heap.size 26 3 wr (.slice so Sd.length sc) Sd) := HF.out.below hbw (Nat.le_refl _)
            clear hok hbw
            by_cases hjk : j < k
            · obtain ⟨b1, o1, cp1, r1, hs1, _, hcc1, hr1⟩ := mat_cell (HMO.out.below HBW.out (Nat.le_refl _)) (show j < m.length by omega)
              simp only [Value.slice.injEq, true_and, Option.some.injEq, Addr.mk.injEq, and_true] at hs1
              obtain ⟨⟨rfl, rfl⟩, rfl⟩ := hs1
              have hjm : j < m.length := by omega
              have HSH : Hid (∀ q, Calls Tryd.prog 15 #[.slice uo c uc, r1] (wr.drewN q) fun e w' => ∃ z, e = .returned z ∧ w'.ownsRow wr.heap.size 3 1 z (sharedL x (m.getD j [])).length (ints (sharedL x (m.getD j []))) ∧ Below wr.heap.size wr w') := fun q => (shared_any B x (m.getD j []) _ r1 (wr.drewN q) (by have := (HU.out.below HBW.out (Nat.le_refl _)).drewN q; exact this) (hr1.drewN q) (by rw [HXC.out]; omega)).mono (fun e w' h => by obtain ⟨z, h1, h2, h3⟩ := h; exact ⟨z, h1, h2, (bel_drewN (Below.refl _ _) q).trans h3⟩)
              have HSL : Hid ((sharedL x (m.getD j [])).length ≤ c) := by show _ ≤ _; rw [← HXC.out]; exact shared_le _ _
              have HAT : Hid (okAt x Sd (m.getD j []) = Sd.any (fun s => decide ((sharedL (sharedL x (m.getD j [])) s).length = (sharedL x (m.getD j [])).length))) := rfl
              have HBAD : Hid (okAt x Sd (m.getD j []) = false → shOk m k = false) := fun h => by rw [HOK.out]; exact okB_false hi hjk h
              have HNX : Hid (okAt x Sd (m.getD j []) = true → ∀ l, l < j + 1 → okAt x Sd (m.getD l []) = true) := fun h l hl => by
                by_cases e : l = j
                · subst e; exact h
                · exact HOKS.out l (by omega)
              clear hr1
              generalize okAt x Sd (m.getD j []) = OA at *
              generalize m.getD j [] = y at *
              go_wp2
              go_region_law (refine step_c2 (o := { dst := some 71, op := _, type := _, pos := _, after := _, guard := _ }) (by rfl) 15 _ _ 26 26 (by rfl) _ _ (by rfl) (by rfl) ⟨_, Tryd.func15, by rfl, by rfl⟩ ?_; refine (HSH.out 1).mono ?_; rintro e w2 ⟨z, rfl, hz, hb2⟩; refine ⟨_, rfl, ?_⟩)
              all_goals
                obtain ⟨zo, zc, hzv⟩ := owns_form hz
                subst hzv
                have HZ : Hid (Sl 0 3 w2 (.slice zo (sharedL x y).length zc) (ints (sharedL x y))) := Sl.own hz
                have HF2 : Hid (Fr wo.heap.size 26 3 w2 (.slice so Sd.length sc) Sd) := HFW.out.below hb2 (Nat.le_refl _)
                have HBP2 : Hid (Below wp.heap.size wp w2) := HBP.out.trans (hb2.mono hszp)
                have hszp2 : wp.heap.size ≤ w2.heap.size := Nat.le_trans hszp hb2.size
                clear hz hb2 HFW HBW hszw hcx3 HSH HBP hszp
                generalize sharedL x y = sh at *
                have HSHL : Hid (sh.length ≤ 1000) := by have := HSL.out; show _ ≤ _; omega
                obtain ⟨L, hL⟩ : ∃ L, L = sh.length := ⟨_, rfl⟩
                have HL : Hid (L = sh.length) := hL
                rw [← hL] at HZ HSL HAT
                rw [← hL]
                clear hL
                generalize hP : (fun s => decide ((sharedL sh s).length = L)) = P at *
                have HP : Hid ((fun s => decide ((sharedL sh s).length = L)) = P) := hP
                clear hP
                go_wp2
                go_loopw [11, 12] (fun t q ws => ∃ e : Nat, e ≤ Sd.length ∧ q = .int .i64 e ∧ t = .bool ((Sd.take e).any P) ∧ Below w2.heap.size w2 ws) (fun _ q _ => Sd.length - (intOf q).toNat)
                case atStart => exact ⟨0, Nat.zero_le _, rfl, rfl, Below.refl _ _⟩
                case round =>
                  obtain ⟨e, he, rfl, rfl, hbs⟩ := hrel
                  have HBS : Hid (Below w2.heap.size w2 wr) := hbs
                  have HZS : Hid (Sl 0 3 wr (.slice zo L zc) (ints sh)) := HZ.out.below hbs (Nat.le_refl _)
                  have HFS : Hid (Fr wo.heap.size 26 3 wr (.slice so Sd.length sc) Sd) := HF2.out.below hbs (Nat.le_refl _)
                  have hszs : w2.heap.size ≤ wr.heap.size := hbs.size
                  have HBPS : Hid (Below wp.heap.size wp wr) := HBP2.out.trans (hbs.mono hszp2)
                  clear hbs
                  by_cases hes : e < Sd.length
                  · cases hany : (Sd.take e).any P
                    · have HS1 : Hid ((Sd.take (e + 1)).any P = P (Sd.getD e [])) := any_take_snoc (p := P) hes hany
                      clear hany
                      obtain ⟨b2, o2, cp2, r2, hs2, _, hcc2, hr2⟩ := mat_cell (HFS.out.rws.mat (Nat.le_refl _)) hes
                      simp only [Value.slice.injEq, true_and] at hs2
                      obtain ⟨rfl, rfl⟩ := hs2
                      have HR2 : Hid (Sl wo.heap.size 3 wr r2 (ints (Sd.getD e []))) := hr2
                      have HPS : Hid ((((sharedL sh (Sd.getD e [])).length : Int) == (L : Int)) = P (Sd.getD e [])) := by
                        show _ = _
                        rw [← HP.out, Bool.eq_iff_iff]
                        simp only [beq_iff_eq, decide_eq_true_eq]
                        omega
                      clear hr2
                      generalize Sd.getD e [] = s at *
                      go_wp2_with fail
                      refine (shared_any wo.heap.size sh s _ r2 wr (HZS.out.more (Nat.zero_le _)) HR2.out HSHL.out).mono ?_
                      rintro e2 w5 ⟨z5, rfl, hz5, hb5⟩
                      obtain ⟨zo5, zc5, hzv5⟩ := owns_form hz5
                      subst hzv5
                      have HB5 : Hid (Below w2.heap.size w2 w5) := HBS.out.trans (hb5.mono hszs)
                      clear hz5 hb5
                      generalize (sharedL sh s).length = L5 at *
                      go_wp2
                      go_roundw
                      case rel => exact ⟨e + 1, by omega, by go_num, by rw [HS1.out, HPS.out], HB5.out⟩
                      case measure => simp [intOf]; omega
                    · have HS1 : Hid ((Sd.take (e + 1)).any P = true) := by
                        show _ = _
                        rw [List.take_succ_eq_append_getElem hes, List.any_append, hany]; rfl
                      clear hany
                      go_wp2
                      go_roundw
                      case rel => exact ⟨e + 1, by omega, by go_num, by rw [HS1.out], HBS.out⟩
                      case measure => simp [intOf]; omega
                  · have hee : Sd.take e = Sd := List.take_of_length_le (by omega)
                    rw [hee, ← HAT.out]
                    clear hee
                    cases hoa : OA
                    · have HBF : Hid (shOk m k = false) := HBAD.out hoa
                      have HF0 : Hid (allOk m m.length = false) := allOk_bad HBF.out _ hlt
                      have HF1 : Hid (shellA m = []) := by show _ = _; rw [HSA.out, HF0.out]; rfl
                      have HBF2 : Hid (Below w.heap.size w wr) := HB.out.trans ((HBQ.out.trans (HBPS.out.mono hszq)).mono HB.out.size)
                      clear hoa
                      go_wp2
                      exact bodyPost_ret (v := .tuple #[.bool false, .slice none 0 0]) (by simp [results, Tryd.results7, go_sem]) rfl ⟨_, by rw [HF0.out], by rw [HF1.out]; exact Sl.nil _ _ _, HBF2.out⟩
                    · have HN2 := HNX.out hoa
                      have HNN : Hid (∀ l, l < j + 1 → okAt x Sd (m.getD l []) = true) := HN2
                      clear hoa HN2
                      go_wp2
                      go_roundw
                      case rel => exact ⟨j + 1, by omega, by go_num, HNN.out, HBPS.out⟩
                      case measure => simp [intOf]; omega
            · have hje : j = k := by omega
              subst hje
              have HOKT : Hid (shOk m j = true) := by show _ = _; rw [HOK.out]; exact okB_true HOKS.out
              have HBK2 : Hid (Blk N wr (cntL c (shN m) j)) := HBK.out.keep HBW.out hsz
              have HBW2 : Hid (Below w.heap.size w wr) := HB.out.trans (HBW.out.mono HB.out.size)
              have hle : shN m j < c + 1 := by have := HNL.out; omega
              have hcl := HBK2.out.cell (j := shN m j) (by rw [HCL.out]; exact hle)
              have hfz := HBK2.out.frozen (shN m j)
              have hbd := cntL_le c (shN m) j (shN m j)
              have HST : Hid (∀ z, z = (cntL c (shN m) j).getD (shN m j) 0 + 1 → Blk N (wr.setCell ⟨N, shN m j, none⟩ (.int .i64 z)) (cntL c (shN m) (j + 1))) := fun z hz => by
                subst hz
                exact HBK2.out.set _ _
              have HBS : Hid (∀ u, Below w.heap.size w (wr.setCell ⟨N, shN m j, none⟩ u)) := fun u => HBW2.out.setCell (by show _ ≤ N; rw [HN.out]; exact Nat.le_refl _) _
              have hszN : ∀ u, N < (wr.setCell ⟨N, shN m j, none⟩ u).heap.size := fun u => by simp; omega
              rw [← HSN.out]
              generalize (cntL c (shN m) j).getD (shN m j) 0 = q at *
              generalize shN m j = t at *
              have hq1 : wrap64 (q + 1) = q + 1 := IntWalk.wrap64_in _ ⟨by omega, by omega⟩
              have hti : (t : Int) < (c : Int) + 1 := by omega
              go_wp2
              go_roundw
              case rel => exact ⟨j + 1, by omega, by go_num, allOk_step HALL.out HOKT.out, HST.out _ rfl, HBS.out _, hszN _⟩
              case measure => simp [intOf]; omega
    · have hke : i = m.length := by omega
      subst hke
      have HF2 : Hid (shellA m = cntL c (shN m) m.length) := by show _ = _; rw [HSA.out, HALL.out]; rfl
      go_wp2
      exact bodyPost_ret (v := .tuple #[.bool true, .slice (some ⟨N, 0, none⟩) (c + 1) (c + 1)]) (by simp [results, Tryd.results7, go_sem]) rfl ⟨_, by rw [HALL.out], by rw [HF2.out]; have := HBK.out.sl (B := wo.heap.size) (by rw [HCL.out]; omega); rw [HCL.out] at this; exact this, HB.out⟩
end Go.Proofs.YtmldemimdejciaaDoor
