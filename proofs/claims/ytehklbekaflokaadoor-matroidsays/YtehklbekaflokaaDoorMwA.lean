import Derived.Test.YtehklbekaflokaaDoorMpA
/- MatroidSays: the walk (an error). -/
namespace Go.Proofs.YtehklbekaflokaaDoor
open Go.RowKit
attribute [local go_sem ↓] Go.wp_at_zero Go.wp_at_succ

set_option maxRecDepth 100000 in
set_option maxHeartbeats 8000000 in
theorem says_err (N s i E : Int) (ao : Option Addr) (LN cap : Nat) (w W0 : World) (hW : W0 = w.alloc (.cells #[.int .i64 N, .slice ao LN cap] 24)) (hF : Fx W0 (.agg #[.int .i64 N, .slice ao LN cap]) s i E 0 E E 0 0 [] [] [] [] []) (hln : LN ≤ 300) (hE : E ≠ 0) :
    Calls Tryd.prog 3 #[.agg #[.int .i64 N, .slice ao LN cap], .int .i64 s, .int .i64 i] w fun e w' => e = .returned (.bool true) ∧ Below w.heap.size w w' := by
  have HF : Hid (Fx W0 (.agg #[.int .i64 N, .slice ao LN cap]) s i E 0 E E 0 0 [] [] [] [] []) := hF
  have HBA : Hid (Below w.heap.size w W0) := by rw [hW]; exact (Below.refl _ _).alloc (Nat.le_refl _) _
  have a0 : W0.heap[w.heap.size]? = some (.cells #[.int .i64 N, .slice ao LN cap] 24 (0, 0)) := by rw [hW]; exact heap_alloc_new w _
  have HSW : Hid (W0.heap.size = w.heap.size + 1) := by rw [hW]; show _ = _; simp
  have HC : Hid (∀ W', Below W0.heap.size W0 W' → W'.cell? ⟨w.heap.size, 0, none⟩ = some (.int .i64 N) ∧ W'.cell? ⟨w.heap.size, 1, none⟩ = some (.slice ao LN cap) ∧ Below w.heap.size w W') := fun W' h => by
    have := (h.block _ (by rw [HSW.out]; omega)).trans a0
    exact ⟨by simp [World.cell?, this], by simp [World.cell?, this], HBA.out.trans (h.mono HBA.out.size)⟩
  have b300 : decide ((300 : Int) < (LN : Int)) = false := decide_eq_false (by omega)
  have bEE : (E != E) = false := by simp
  obtain ⟨d0, d1, -⟩ := HC.out W0 (Below.refl _ _)
  have hW' := hW
  rw [hW] at d0 d1
  clear hF a0
  go_enter Tryd.func3, Tryd.ntmps3
  go_wp2_with fail
  rw [← hW]
  clear d0 d1 hW hW'
  refine (HF.out.may W0 (Below.refl _ _)).mono ?_
  rintro e w1 ⟨rfl, hb1⟩
  have HB1 : Hid (Below W0.heap.size W0 w1) := hb1
  obtain ⟨d0, d1, -⟩ := HC.out w1 hb1
  clear hb1
  go_wp2_with fail
  refine (HF.out.chk w1 HB1.out).mono ?_
  rintro e w2 ⟨rfl, hb2⟩
  have HB2 : Hid (Below W0.heap.size W0 w2) := HB1.out.trans (hb2.mono HB1.out.size)
  clear hb2 d0 d1 HB1
  obtain ⟨wx, hwx⟩ : ∃ wx, wx = w2.alloc (.cells #[.int .i64 0, .slice none 0 0] 24) := ⟨_, rfl⟩
  obtain ⟨wy, hwy⟩ : ∃ wy, wy = wx.alloc (.cells #[.int .i64 0, .slice none 0 0] 24) := ⟨_, rfl⟩
  obtain ⟨wz, hwz⟩ : ∃ wz, wz = wy.alloc (.cells #[.int .i64 0, .slice none 0 0] 24) := ⟨_, rfl⟩
  have sx : wx.heap.size = w2.heap.size + 1 := by rw [hwx]; simp
  have sy : wy.heap.size = w2.heap.size + 2 := by rw [hwy]; simp [sx]
  have HX : Hid (Sx w2.heap.size w2 wz #[.int .i64 0, .slice none 0 0] #[.int .i64 0, .slice none 0 0] #[.int .i64 0, .slice none 0 0] []) := by
    refine ⟨?_, ?_, ?_, ?_, fun p hp => by simp at hp⟩
    · rw [hwz, hwy, hwx]; exact (((Below.refl _ _).alloc (Nat.le_refl _) _).alloc (by simp) _).alloc (by simp; omega) _
    · rw [hwz]; refine (Below.heap_alloc _ _ _ (by omega)).trans ?_
      rw [hwy]; refine (Below.heap_alloc _ _ _ (by omega)).trans ?_
      rw [hwx]; exact heap_alloc_new w2 _
    · rw [hwz]; refine (Below.heap_alloc _ _ _ (by omega)).trans ?_
      rw [hwy, ← sx]; exact heap_alloc_new wx _
    · rw [hwz, ← sy]; exact heap_alloc_new wy _
  have HWZ : Hid (wz = ((w2.alloc (.cells #[.int .i64 0, .slice none 0 0] 24)).alloc (.cells #[.int .i64 0, .slice none 0 0] 24)).alloc (.cells #[.int .i64 0, .slice none 0 0] 24)) := by rw [hwz, hwy, hwx]; rfl
  have HLOW : Hid (∀ W', Below w2.heap.size w2 W' → Below W0.heap.size W0 W') := fun W' h => HB2.out.trans (h.mono HB2.out.size)
  clear hwx hwy hwz sx sy
  obtain ⟨d0, d1, -⟩ := HC.out wz (HLOW.out wz HX.out.bel)
  rw [HWZ.out] at d0 d1
  have q0 : (E == 0) = false := by rw [beq_eq_false_iff_ne]; exact hE
  clear hE
  go_wp2_with fail
  rw [← HWZ.out]
  clear d0 d1 HWZ
  obtain ⟨wt, hwt⟩ : ∃ wt, wt = wz := ⟨_, rfl⟩
  rw [← hwt]
  have HS : Hid (Sx w2.heap.size w2 wt #[.int .i64 0, .slice none 0 0] #[.int .i64 0, .slice none 0 0] #[.int .i64 0, .slice none 0 0] [((.slice none 0 0 : Value), ([] : List Int)), (.slice none 0 0, []), (.slice none 0 0, []), (.slice none 0 0, []), (.slice none 0 0, [])]) := by
    rw [hwt]
    exact ((((HX.out.add (Sl.nil _ _ _)).add (Sl.nil _ _ _)).add (Sl.nil _ _ _)).add (Sl.nil _ _ _)).add (Sl.nil _ _ _)
  clear hwt HX
  refine (HF.out.rank wt (HLOW.out wt HS.out.bel)).mono ?_
  rintro e w7 ⟨rfl, hb7⟩
  have HS7 : Hid (Sx w2.heap.size w2 w7 #[.int .i64 0, (.slice none 0 0)] #[.int .i64 0, (.slice none 0 0)] #[.int .i64 0, (.slice none 0 0)] [((.slice none 0 0), []), ((.slice none 0 0), []), ((.slice none 0 0), []), ((.slice none 0 0), []), ((.slice none 0 0), [])]) := HS.out.low hb7
  obtain ⟨d0, d1, -⟩ := HC.out w7 (HLOW.out w7 HS7.out.bel)
  clear hb7 HS
  go_wp2_with fail
  refine (HF.out.circ w7 (HLOW.out w7 HS7.out.bel)).mono ?_
  rintro e w8 ⟨cu, rfl, hs8, hb8⟩
  have HS8 : Hid (Sx w2.heap.size w2 w8 #[.int .i64 0, (.slice none 0 0)] #[.int .i64 0, (.slice none 0 0)] #[.int .i64 0, (.slice none 0 0)] [(cu, []), ((.slice none 0 0), []), ((.slice none 0 0), []), ((.slice none 0 0), []), ((.slice none 0 0), []), ((.slice none 0 0), [])]) := (HS7.out.low hb8).add hs8
  obtain ⟨d0, d1, -⟩ := HC.out w8 (HLOW.out w8 HS8.out.bel)
  clear hb8 hs8 HS7
  go_wp2_with fail
  refine (HF.out.flat w8 (HLOW.out w8 HS8.out.bel)).mono ?_
  rintro e w9 ⟨fu, rfl, hs9, hb9⟩
  have HS9 : Hid (Sx w2.heap.size w2 w9 #[.int .i64 0, (.slice none 0 0)] #[.int .i64 0, (.slice none 0 0)] #[.int .i64 0, (.slice none 0 0)] [(fu, []), (cu, []), ((.slice none 0 0), []), ((.slice none 0 0), []), ((.slice none 0 0), []), ((.slice none 0 0), []), ((.slice none 0 0), [])]) := (HS8.out.low hb9).add hs9
  clear hb9 hs9 HS8 d0 d1
  go_wp2_with fail
  refine (num_true 0 E 0 E w9 rfl HF.out.hR (fun _ => rfl)).mono ?_
  rintro e w10 ⟨rfl, hw10⟩
  subst hw10
  go_wp2_with fail
  refine (listT_any [] E cu (.slice none 0 0) w10 (HS9.out.sl (cu, []) (by simp)) (HS9.out.sl ((.slice none 0 0), []) (by simp)) (fun h => (HF.out.hE h).1)).mono ?_
  rintro e w11 ⟨rfl, hb11⟩
  have HS11 : Hid (Sx w2.heap.size w2 w11 #[.int .i64 0, (.slice none 0 0)] #[.int .i64 0, (.slice none 0 0)] #[.int .i64 0, (.slice none 0 0)] [(fu, []), (cu, []), ((.slice none 0 0), []), ((.slice none 0 0), []), ((.slice none 0 0), []), ((.slice none 0 0), []), ((.slice none 0 0), [])]) := HS9.out.low hb11
  clear hb11 HS9
  go_wp2_with fail
  refine (listT_any [] E fu (.slice none 0 0) w11 (HS11.out.sl (fu, []) (by simp)) (HS11.out.sl ((.slice none 0 0), []) (by simp)) (fun h => (HF.out.hE h).2.1)).mono ?_
  rintro e w12 ⟨rfl, hb12⟩
  have HS12 : Hid (Sx w2.heap.size w2 w12 #[.int .i64 0, (.slice none 0 0)] #[.int .i64 0, (.slice none 0 0)] #[.int .i64 0, (.slice none 0 0)] [((.slice none 0 0), []), ((.slice none 0 0), []), ((.slice none 0 0), [])]) := by
    have h := HS11.out.low hb12
    exact ⟨h.bel, h.b0, h.b1, h.b2, fun p hp => h.sl p (by simp at hp ⊢; rcases hp with rfl | rfl | rfl <;> simp)⟩
  obtain ⟨d0, d1, -⟩ := HC.out w12 (HLOW.out w12 HS12.out.bel)
  clear hb12 HS11
  go_wp2_with fail
  refine (HF.out.dual w12 (HLOW.out w12 HS12.out.bel)).mono ?_
  rintro e w13 ⟨du0, rfl, hs13, hb13⟩
  obtain ⟨duo, duc, hduv, _, _⟩ := sl_open hs13
  (try simp only [List.length_nil] at hduv)
  subst hduv
  have HS13 : Hid (Sx w2.heap.size w2 w13 #[.int .i64 0, (.slice none 0 0)] #[.int .i64 0, (.slice none 0 0)] #[.int .i64 0, (.slice none 0 0)] [((.slice duo 0 duc), []), ((.slice none 0 0), []), ((.slice none 0 0), []), ((.slice none 0 0), [])]) := (HS12.out.low hb13).add hs13
  obtain ⟨wD, hwD⟩ : ∃ wD, wD = w13.alloc (.cells #[.int .i64 0, (.slice duo 0 duc)] 24) := ⟨_, rfl⟩
  have hbD : Below w13.heap.size w13 wD := by rw [hwD]; exact (Below.refl _ _).alloc (Nat.le_refl _) _
  have HSD : Hid (Sx w2.heap.size w2 wD #[.int .i64 0, (.slice none 0 0)] #[.int .i64 0, (.slice none 0 0)] #[.int .i64 0, (.slice none 0 0)] [((.slice duo 0 duc), []), ((.slice none 0 0), []), ((.slice none 0 0), []), ((.slice none 0 0), [])]) := HS13.out.low hbD
  have HD : Hid (wD.heap[w13.heap.size]? = some (.cells #[.int .i64 0, (.slice duo 0 duc)] 24 (0, 0))) := by rw [hwD]; exact heap_alloc_new w13 _
  obtain ⟨d0, d1, -⟩ := HC.out wD (HLOW.out wD HSD.out.bel)
  rw [hwD] at d0 d1
  clear hs13 hb13 hbD HS12 HS13
  go_wp2_with fail
  rw [← hwD]
  clear hwD d0 d1
  refine (HF.out.del wD (HLOW.out wD HSD.out.bel)).mono ?_
  rintro e w14 ⟨lu0, rfl, hs14, hb14⟩
  obtain ⟨luo, luc, hluv, _, _⟩ := sl_open hs14
  (try simp only [List.length_nil] at hluv)
  subst hluv
  have HS14 : Hid (Sx w2.heap.size w2 w14 #[.int .i64 0, (.slice none 0 0)] #[.int .i64 0, (.slice none 0 0)] #[.int .i64 0, (.slice none 0 0)] [((.slice luo 0 luc), []), ((.slice duo 0 duc), []), ((.slice none 0 0), []), ((.slice none 0 0), []), ((.slice none 0 0), [])]) := (HSD.out.low hb14).add hs14
  have HD14 : Hid (w14.heap[w13.heap.size]? = some (.cells #[.int .i64 0, (.slice duo 0 duc)] 24 (0, 0))) := (hb14.block _ (Array.getElem?_eq_some_iff.1 HD.out).1).trans HD.out
  obtain ⟨wL, hwL⟩ : ∃ wL, wL = w14.alloc (.cells #[.int .i64 0, (.slice luo 0 luc)] 24) := ⟨_, rfl⟩
  have hbL : Below w14.heap.size w14 wL := by rw [hwL]; exact (Below.refl _ _).alloc (Nat.le_refl _) _
  have HSL : Hid (Sx w2.heap.size w2 wL #[.int .i64 0, (.slice none 0 0)] #[.int .i64 0, (.slice none 0 0)] #[.int .i64 0, (.slice none 0 0)] [((.slice luo 0 luc), []), ((.slice duo 0 duc), []), ((.slice none 0 0), []), ((.slice none 0 0), []), ((.slice none 0 0), [])]) := HS14.out.low hbL
  have HDL : Hid (wL.heap[w13.heap.size]? = some (.cells #[.int .i64 0, (.slice duo 0 duc)] 24 (0, 0))) := (hbL.block _ (Array.getElem?_eq_some_iff.1 HD14.out).1).trans HD14.out
  have HL : Hid (wL.heap[w14.heap.size]? = some (.cells #[.int .i64 0, (.slice luo 0 luc)] 24 (0, 0))) := by rw [hwL]; exact heap_alloc_new w14 _
  obtain ⟨d0, d1, -⟩ := HC.out wL (HLOW.out wL HSL.out.bel)
  rw [hwL] at d0 d1
  clear hs14 hb14 hbL HSD HD HS14 HD14
  go_wp2_with fail
  rw [← hwL]
  clear hwL d0 d1
  refine (HF.out.con wL (HLOW.out wL HSL.out.bel)).mono ?_
  rintro e w15 ⟨xu0, rfl, hs15, hb15⟩
  obtain ⟨xuo, xuc, hxuv, _, _⟩ := sl_open hs15
  (try simp only [List.length_nil] at hxuv)
  subst hxuv
  have HS15 : Hid (Sx w2.heap.size w2 w15 #[.int .i64 0, (.slice none 0 0)] #[.int .i64 0, (.slice none 0 0)] #[.int .i64 0, (.slice none 0 0)] [((.slice xuo 0 xuc), []), ((.slice luo 0 luc), []), ((.slice duo 0 duc), []), ((.slice none 0 0), []), ((.slice none 0 0), []), ((.slice none 0 0), [])]) := (HSL.out.low hb15).add hs15
  have HD15 : Hid (w15.heap[w13.heap.size]? = some (.cells #[.int .i64 0, (.slice duo 0 duc)] 24 (0, 0))) := (hb15.block _ (Array.getElem?_eq_some_iff.1 HDL.out).1).trans HDL.out
  have HL15 : Hid (w15.heap[w14.heap.size]? = some (.cells #[.int .i64 0, (.slice luo 0 luc)] 24 (0, 0))) := (hb15.block _ (Array.getElem?_eq_some_iff.1 HL.out).1).trans HL.out
  obtain ⟨wX, hwX⟩ : ∃ wX, wX = w15.alloc (.cells #[.int .i64 0, (.slice xuo 0 xuc)] 24) := ⟨_, rfl⟩
  have hbX : Below w15.heap.size w15 wX := by rw [hwX]; exact (Below.refl _ _).alloc (Nat.le_refl _) _
  have HSX : Hid (Sx w2.heap.size w2 wX #[.int .i64 0, (.slice none 0 0)] #[.int .i64 0, (.slice none 0 0)] #[.int .i64 0, (.slice none 0 0)] [((.slice xuo 0 xuc), []), ((.slice luo 0 luc), []), ((.slice duo 0 duc), []), ((.slice none 0 0), []), ((.slice none 0 0), []), ((.slice none 0 0), [])]) := HS15.out.low hbX
  have HDX : Hid (wX.heap[w13.heap.size]? = some (.cells #[.int .i64 0, (.slice duo 0 duc)] 24 (0, 0))) := (hbX.block _ (Array.getElem?_eq_some_iff.1 HD15.out).1).trans HD15.out
  have HLX : Hid (wX.heap[w14.heap.size]? = some (.cells #[.int .i64 0, (.slice luo 0 luc)] 24 (0, 0))) := (hbX.block _ (Array.getElem?_eq_some_iff.1 HL15.out).1).trans HL15.out
  have HXX : Hid (wX.heap[w15.heap.size]? = some (.cells #[.int .i64 0, (.slice xuo 0 xuc)] 24 (0, 0))) := by rw [hwX]; exact heap_alloc_new w15 _
  have HQ : Hid (∀ W', Below wX.heap.size wX W' → (W'.cell? ⟨w13.heap.size, 0, none⟩ = some (.int .i64 0) ∧ W'.cell? ⟨w13.heap.size, 1, none⟩ = some (.slice duo 0 duc)) ∧ (W'.cell? ⟨w14.heap.size, 0, none⟩ = some (.int .i64 0) ∧ W'.cell? ⟨w14.heap.size, 1, none⟩ = some (.slice luo 0 luc)) ∧ (W'.cell? ⟨w15.heap.size, 0, none⟩ = some (.int .i64 0) ∧ W'.cell? ⟨w15.heap.size, 1, none⟩ = some (.slice xuo 0 xuc)) ∧
      (W'.cell? ⟨w2.heap.size, 0, none⟩ = some (.int .i64 0) ∧ W'.cell? ⟨w2.heap.size, 1, none⟩ = some (.slice none 0 0)) ∧ (W'.cell? ⟨w2.heap.size + 1, 0, none⟩ = some (.int .i64 0) ∧ W'.cell? ⟨w2.heap.size + 1, 1, none⟩ = some (.slice none 0 0)) ∧ (W'.cell? ⟨w2.heap.size + 1 + 1, 0, none⟩ = some (.int .i64 0) ∧ W'.cell? ⟨w2.heap.size + 1 + 1, 1, none⟩ = some (.slice none 0 0)) ∧
      Sx w2.heap.size w2 W' #[.int .i64 0, (.slice none 0 0)] #[.int .i64 0, (.slice none 0 0)] #[.int .i64 0, (.slice none 0 0)] [((.slice xuo 0 xuc), []), ((.slice luo 0 luc), []), ((.slice duo 0 duc), []), ((.slice none 0 0), []), ((.slice none 0 0), []), ((.slice none 0 0), [])]) := fun W' h => by
    have hX := HSX.out.low h
    have k1 := (h.block _ (Array.getElem?_eq_some_iff.1 HDX.out).1).trans HDX.out
    have k2 := (h.block _ (Array.getElem?_eq_some_iff.1 HLX.out).1).trans HLX.out
    have k3 := (h.block _ (Array.getElem?_eq_some_iff.1 HXX.out).1).trans HXX.out
    have k4 := hX.b0
    have k5 := hX.b1
    have k6 : W'.heap[w2.heap.size + 1 + 1]? = some (.cells #[.int .i64 0, (.slice none 0 0)] 24 (0, 0)) := hX.b2
    exact ⟨⟨by simp [World.cell?, k1], by simp [World.cell?, k1]⟩, ⟨by simp [World.cell?, k2], by simp [World.cell?, k2]⟩, ⟨by simp [World.cell?, k3], by simp [World.cell?, k3]⟩, ⟨by simp [World.cell?, k4], by simp [World.cell?, k4]⟩, ⟨by simp [World.cell?, k5], by simp [World.cell?, k5]⟩, ⟨by simp [World.cell?, k6], by simp [World.cell?, k6]⟩, hX⟩
  obtain ⟨⟨p0, p1⟩, -, -, ⟨p2, p3⟩, -, -, -⟩ := HQ.out wX (Below.refl _ _)
  rw [hwX] at p0 p1 p2 p3
  clear hs15 hb15 hbX HSL HDL HL HS15 HD15 HL15 HDX HLX HXX
  go_wp2_with fail
  rw [← hwX]
  clear hwX p0 p1 p2 p3
  refine (sameT_any [] 0 E (.slice duo 0 duc) (.slice none 0 0) wX (HSX.out.sl ((.slice duo 0 duc), []) (by simp)) (HSX.out.sl ((.slice none 0 0), []) (by simp)) (fun h => ⟨(HF.out.hE h).2.2.1, (HF.out.hE h).2.2.2⟩)).mono ?_
  rintro e w16 ⟨rfl, hb16⟩
  have HB16 : Hid (Below wX.heap.size wX w16) := hb16
  obtain ⟨-, ⟨p0, p1⟩, -, -, ⟨p2, p3⟩, -, hX16⟩ := HQ.out w16 hb16
  have HX16 : Hid (Sx w2.heap.size w2 w16 #[.int .i64 0, (.slice none 0 0)] #[.int .i64 0, (.slice none 0 0)] #[.int .i64 0, (.slice none 0 0)] [((.slice xuo 0 xuc), []), ((.slice luo 0 luc), []), ((.slice duo 0 duc), []), ((.slice none 0 0), []), ((.slice none 0 0), []), ((.slice none 0 0), [])]) := hX16
  clear hb16 hX16
  go_wp2_with fail
  refine (sameT_any [] 0 E (.slice luo 0 luc) (.slice none 0 0) w16 (HX16.out.sl ((.slice luo 0 luc), []) (by simp)) (HX16.out.sl ((.slice none 0 0), []) (by simp)) (fun h => ⟨(HF.out.hT h).1, (HF.out.hT h).2.1⟩)).mono ?_
  rintro e w17 ⟨rfl, hb17⟩
  have HB17 : Hid (Below wX.heap.size wX w17) := HB16.out.trans (hb17.mono HB16.out.size)
  obtain ⟨-, -, ⟨p4, p5⟩, -, -, ⟨p6, p7⟩, hX17⟩ := HQ.out w17 HB17.out
  have HX17 : Hid (Sx w2.heap.size w2 w17 #[.int .i64 0, (.slice none 0 0)] #[.int .i64 0, (.slice none 0 0)] #[.int .i64 0, (.slice none 0 0)] [((.slice xuo 0 xuc), []), ((.slice luo 0 luc), []), ((.slice duo 0 duc), []), ((.slice none 0 0), []), ((.slice none 0 0), []), ((.slice none 0 0), [])]) := hX17
  clear hb17 hX17 p0 p1 p2 p3
  go_wp2_with fail
  refine (sameT_any [] 0 E (.slice xuo 0 xuc) (.slice none 0 0) w17 (HX17.out.sl ((.slice xuo 0 xuc), []) (by simp)) (HX17.out.sl ((.slice none 0 0), []) (by simp)) (fun h => ⟨(HF.out.hT h).1, (HF.out.hT h).2.2⟩)).mono ?_
  rintro e w18 ⟨rfl, hb18⟩
  have HB18 : Hid (Below w.heap.size w w18) := by
    have h1 := HX17.out.low hb18
    exact (HC.out w18 (HLOW.out w18 h1.bel)).2.2
  clear hb18
  go_wp2
  go_ret
  exact ⟨rfl, HB18.out⟩

end Go.Proofs.YtehklbekaflokaaDoor

/- MatroidSays: the walk (neg, neg). -/
namespace Go.Proofs.YtehklbekaflokaaDoor
open Go.RowKit
attribute [local go_sem ↓] Go.wp_at_zero Go.wp_at_succ

set_option maxRecDepth 100000 in
set_option maxHeartbeats 8000000 in
theorem says_neg_neg (n : Nat) (DN : Int) (s i : Int) (CL FL DB : List Int) (ao : Option Addr) (LN cap : Nat) (w W0 : World) (hW : W0 = w.alloc (.cells #[.int .i64 (n : Int), .slice ao LN cap] 24)) (hF : Fx W0 (.agg #[.int .i64 (n : Int), .slice ao LN cap]) s i 0 0 4 9 0 DN CL FL DB [] []) (hln : LN ≤ 300) (hn8 : n ≤ 8) (hG : Gx W0 (.agg #[.int .i64 (n : Int), .slice ao LN cap]) DN CL FL DB) (hs : s < 0) (hi : i < 0) :
    Calls Tryd.prog 3 #[.agg #[.int .i64 (n : Int), .slice ao LN cap], .int .i64 s, .int .i64 i] w fun e w' => e = .returned (.bool true) ∧ Below w.heap.size w w' := by
  have HF : Hid (Fx W0 (.agg #[.int .i64 (n : Int), .slice ao LN cap]) s i 0 0 4 9 0 DN CL FL DB [] []) := hF
  have HBA : Hid (Below w.heap.size w W0) := by rw [hW]; exact (Below.refl _ _).alloc (Nat.le_refl _) _
  have a0 : W0.heap[w.heap.size]? = some (.cells #[.int .i64 (n : Int), .slice ao LN cap] 24 (0, 0)) := by rw [hW]; exact heap_alloc_new w _
  have HSW : Hid (W0.heap.size = w.heap.size + 1) := by rw [hW]; show _ = _; simp
  have HC : Hid (∀ W', Below W0.heap.size W0 W' → W'.cell? ⟨w.heap.size, 0, none⟩ = some (.int .i64 (n : Int)) ∧ W'.cell? ⟨w.heap.size, 1, none⟩ = some (.slice ao LN cap) ∧ Below w.heap.size w W') := fun W' h => by
    have := (h.block _ (by rw [HSW.out]; omega)).trans a0
    exact ⟨by simp [World.cell?, this], by simp [World.cell?, this], HBA.out.trans (h.mono HBA.out.size)⟩
  have b300 : decide ((300 : Int) < (LN : Int)) = false := decide_eq_false (by omega)
  have bEE : (0 != 0) = false := by simp
  obtain ⟨d0, d1, -⟩ := HC.out W0 (Below.refl _ _)
  have hW' := hW
  rw [hW] at d0 d1
  clear hF a0
  go_enter Tryd.func3, Tryd.ntmps3
  go_wp2_with fail
  rw [← hW]
  clear d0 d1 hW hW'
  refine (HF.out.may W0 (Below.refl _ _)).mono ?_
  rintro e w1 ⟨rfl, hb1⟩
  have HB1 : Hid (Below W0.heap.size W0 w1) := hb1
  obtain ⟨d0, d1, -⟩ := HC.out w1 hb1
  clear hb1
  go_wp2_with fail
  refine (HF.out.chk w1 HB1.out).mono ?_
  rintro e w2 ⟨rfl, hb2⟩
  have HB2 : Hid (Below W0.heap.size W0 w2) := HB1.out.trans (hb2.mono HB1.out.size)
  clear hb2 d0 d1 HB1
  obtain ⟨wx, hwx⟩ : ∃ wx, wx = w2.alloc (.cells #[.int .i64 0, .slice none 0 0] 24) := ⟨_, rfl⟩
  obtain ⟨wy, hwy⟩ : ∃ wy, wy = wx.alloc (.cells #[.int .i64 0, .slice none 0 0] 24) := ⟨_, rfl⟩
  obtain ⟨wz, hwz⟩ : ∃ wz, wz = wy.alloc (.cells #[.int .i64 0, .slice none 0 0] 24) := ⟨_, rfl⟩
  have sx : wx.heap.size = w2.heap.size + 1 := by rw [hwx]; simp
  have sy : wy.heap.size = w2.heap.size + 2 := by rw [hwy]; simp [sx]
  have HX : Hid (Sx w2.heap.size w2 wz #[.int .i64 0, .slice none 0 0] #[.int .i64 0, .slice none 0 0] #[.int .i64 0, .slice none 0 0] []) := by
    refine ⟨?_, ?_, ?_, ?_, fun p hp => by simp at hp⟩
    · rw [hwz, hwy, hwx]; exact (((Below.refl _ _).alloc (Nat.le_refl _) _).alloc (by simp) _).alloc (by simp; omega) _
    · rw [hwz]; refine (Below.heap_alloc _ _ _ (by omega)).trans ?_
      rw [hwy]; refine (Below.heap_alloc _ _ _ (by omega)).trans ?_
      rw [hwx]; exact heap_alloc_new w2 _
    · rw [hwz]; refine (Below.heap_alloc _ _ _ (by omega)).trans ?_
      rw [hwy, ← sx]; exact heap_alloc_new wx _
    · rw [hwz, ← sy]; exact heap_alloc_new wy _
  have HWZ : Hid (wz = ((w2.alloc (.cells #[.int .i64 0, .slice none 0 0] 24)).alloc (.cells #[.int .i64 0, .slice none 0 0] 24)).alloc (.cells #[.int .i64 0, .slice none 0 0] 24)) := by rw [hwz, hwy, hwx]; rfl
  have HLOW : Hid (∀ W', Below w2.heap.size w2 W' → Below W0.heap.size W0 W') := fun W' h => HB2.out.trans (h.mono HB2.out.size)
  clear hwx hwy hwz sx sy
  obtain ⟨d0, d1, -⟩ := HC.out wz (HLOW.out wz HX.out.bel)
  rw [HWZ.out] at d0 d1
  have HG : Hid (Gx W0 (.agg #[.int .i64 (n : Int), .slice ao LN cap]) DN CL FL DB) := hG
  obtain ⟨tn, htn⟩ : ∃ tn : Nat, tn = 2 ^ n := ⟨_, rfl⟩
  have hti : (2 : Int) ^ n = (tn : Int) := by rw [htn]; simp
  have htl : tn ≤ 256 := by rw [htn]; exact show 2 ^ n ≤ 2 ^ 8 from Nat.pow_le_pow_right (by omega) hn8
  have hwt8 : IntKind.i64.wrap (tn : Int) = (tn : Int) := wrap_small (by omega)
  have qs0 : decide (s < 0) = true := decide_eq_true hs
  have qi0 : decide (i < 0) = true := decide_eq_true hi
  clear htn
  go_wp2_with fail
  rw [← HWZ.out]
  clear d0 d1 HWZ
  refine (HG.out.circ wz (HLOW.out wz HX.out.bel)).mono ?_
  rintro e w3 ⟨cv, rfl, hs3, hb3⟩
  have HX3 : Hid (Sx w2.heap.size w2 w3 #[.int .i64 0, .slice none 0 0] #[.int .i64 0, .slice none 0 0] #[.int .i64 0, .slice none 0 0] [(cv, CL)]) := (HX.out.low hb3).add hs3
  obtain ⟨d0, d1, -⟩ := HC.out w3 (HLOW.out w3 HX3.out.bel)
  clear hs3 hb3 HX
  go_wp2_with fail
  refine (HG.out.flat w3 (HLOW.out w3 HX3.out.bel)).mono ?_
  rintro e w4 ⟨fv, rfl, hs4, hb4⟩
  have HX4 : Hid (Sx w2.heap.size w2 w4 #[.int .i64 0, .slice none 0 0] #[.int .i64 0, .slice none 0 0] #[.int .i64 0, .slice none 0 0] [(fv, FL), (cv, CL)]) := (HX3.out.low hb4).add hs4
  obtain ⟨d0, d1, -⟩ := HC.out w4 (HLOW.out w4 HX4.out.bel)
  clear hs4 hb4 HX3
  go_wp2_with fail
  refine (HG.out.dual w4 (HLOW.out w4 HX4.out.bel)).mono ?_
  rintro e w5 ⟨dv, rfl, hs5, hb5⟩
  have HX5 : Hid (Sx w2.heap.size w2 w5 #[.int .i64 0, .slice none 0 0] #[.int .i64 0, .slice none 0 0] #[.int .i64 0, .slice none 0 0] [(dv, DB), (fv, FL), (cv, CL)]) := (HX4.out.low hb5).add hs5
  obtain ⟨wS, hwS⟩ : ∃ wS, wS = (w5.setCell ⟨w2.heap.size, 0, none⟩ (.int .i64 DN)).setCell ⟨w2.heap.size, 1, none⟩ dv := ⟨_, rfl⟩
  have HXS : Hid (Sx w2.heap.size w2 wS #[.int .i64 DN, dv] #[.int .i64 0, .slice none 0 0] #[.int .i64 0, .slice none 0 0] [(dv, DB), (fv, FL), (cv, CL)]) := by rw [hwS]; exact HX5.out.set0 _ _
  have o0 : w5.cell? ⟨w2.heap.size, 0, none⟩ = some (.int .i64 0) := by have := HX5.out.b0; simp [World.cell?, this]
  have o1 : w5.cell? ⟨w2.heap.size, 1, none⟩ = some (.slice none 0 0) := by have := HX5.out.b0; simp [World.cell?, this]
  have o2 : w5.frozen? ⟨w2.heap.size, 0, none⟩ = false := by have := HX5.out.b0; simp [World.frozen?, this]
  have o3 : w5.frozen? ⟨w2.heap.size, 1, none⟩ = false := by have := HX5.out.b0; simp [World.frozen?, this]
  obtain ⟨do', dc, hdv, _, _⟩ := sl_open hs5
  subst hdv
  obtain ⟨d0, d1, -⟩ := HC.out wS (HLOW.out wS HXS.out.bel)
  rw [hwS] at d0 d1
  clear hs5 hb5 HX4 HX5
  go_wp2_with fail
  rw [← hwS]
  clear hwS d0 d1 o0 o1 o2 o3
  obtain ⟨wt, hwt⟩ : ∃ wt, wt = wS := ⟨_, rfl⟩
  rw [← hwt]
  have HS : Hid (Sx w2.heap.size w2 wt #[.int .i64 DN, (.slice do' DB.length dc)] #[.int .i64 0, .slice none 0 0] #[.int .i64 0, .slice none 0 0] [((.slice do' DB.length dc), DB), (.slice none 0 0, []), (.slice none 0 0, []), (cv, CL), (fv, FL)]) := by
    rw [hwt]
    have h := (HXS.out.add (v := .slice none 0 0) (xs := []) (Sl.nil _ _ _)).add (v := .slice none 0 0) (xs := []) (Sl.nil _ _ _)
    exact ⟨h.bel, h.b0, h.b1, h.b2, fun p hp => h.sl p (by simp at hp ⊢; rcases hp with rfl | rfl | rfl | rfl <;> simp)⟩
  clear hwt HXS
  refine (HF.out.rank wt (HLOW.out wt HS.out.bel)).mono ?_
  rintro e w7 ⟨rfl, hb7⟩
  have HS7 : Hid (Sx w2.heap.size w2 w7 #[.int .i64 DN, (.slice do' DB.length dc)] #[.int .i64 0, (.slice none 0 0)] #[.int .i64 0, (.slice none 0 0)] [((.slice do' DB.length dc), DB), ((.slice none 0 0), []), ((.slice none 0 0), []), (cv, CL), (fv, FL)]) := HS.out.low hb7
  obtain ⟨d0, d1, -⟩ := HC.out w7 (HLOW.out w7 HS7.out.bel)
  clear hb7 HS
  go_wp2_with fail
  refine (HF.out.circ w7 (HLOW.out w7 HS7.out.bel)).mono ?_
  rintro e w8 ⟨cu, rfl, hs8, hb8⟩
  have HS8 : Hid (Sx w2.heap.size w2 w8 #[.int .i64 DN, (.slice do' DB.length dc)] #[.int .i64 0, (.slice none 0 0)] #[.int .i64 0, (.slice none 0 0)] [(cu, CL), ((.slice do' DB.length dc), DB), ((.slice none 0 0), []), ((.slice none 0 0), []), (cv, CL), (fv, FL)]) := (HS7.out.low hb8).add hs8
  obtain ⟨d0, d1, -⟩ := HC.out w8 (HLOW.out w8 HS8.out.bel)
  clear hb8 hs8 HS7
  go_wp2_with fail
  refine (HF.out.flat w8 (HLOW.out w8 HS8.out.bel)).mono ?_
  rintro e w9 ⟨fu, rfl, hs9, hb9⟩
  have HS9 : Hid (Sx w2.heap.size w2 w9 #[.int .i64 DN, (.slice do' DB.length dc)] #[.int .i64 0, (.slice none 0 0)] #[.int .i64 0, (.slice none 0 0)] [(fu, FL), (cu, CL), ((.slice do' DB.length dc), DB), ((.slice none 0 0), []), ((.slice none 0 0), []), (cv, CL), (fv, FL)]) := (HS8.out.low hb9).add hs9
  clear hb9 hs9 HS8 d0 d1
  go_wp2_with fail
  refine (num_true 0 4 0 4 w9 rfl HF.out.hR (fun _ => rfl)).mono ?_
  rintro e w10 ⟨rfl, hw10⟩
  subst hw10
  go_wp2_with fail
  refine (listT_any CL 0 cu cv w10 (HS9.out.sl (cu, CL) (by simp)) (HS9.out.sl (cv, CL) (by simp)) (fun h => (HF.out.hE h).1)).mono ?_
  rintro e w11 ⟨rfl, hb11⟩
  have HS11 : Hid (Sx w2.heap.size w2 w11 #[.int .i64 DN, (.slice do' DB.length dc)] #[.int .i64 0, (.slice none 0 0)] #[.int .i64 0, (.slice none 0 0)] [(fu, FL), (cu, CL), ((.slice do' DB.length dc), DB), ((.slice none 0 0), []), ((.slice none 0 0), []), (cv, CL), (fv, FL)]) := HS9.out.low hb11
  clear hb11 HS9
  go_wp2_with fail
  refine (listT_any FL 0 fu fv w11 (HS11.out.sl (fu, FL) (by simp)) (HS11.out.sl (fv, FL) (by simp)) (fun h => (HF.out.hE h).2.1)).mono ?_
  rintro e w12 ⟨rfl, hb12⟩
  have HS12 : Hid (Sx w2.heap.size w2 w12 #[.int .i64 DN, (.slice do' DB.length dc)] #[.int .i64 0, (.slice none 0 0)] #[.int .i64 0, (.slice none 0 0)] [((.slice do' DB.length dc), DB), ((.slice none 0 0), []), ((.slice none 0 0), [])]) := by
    have h := HS11.out.low hb12
    exact ⟨h.bel, h.b0, h.b1, h.b2, fun p hp => h.sl p (by simp at hp ⊢; rcases hp with rfl | rfl | rfl <;> simp)⟩
  obtain ⟨d0, d1, -⟩ := HC.out w12 (HLOW.out w12 HS12.out.bel)
  clear hb12 HS11
  go_wp2_with fail
  refine (HF.out.dual w12 (HLOW.out w12 HS12.out.bel)).mono ?_
  rintro e w13 ⟨du0, rfl, hs13, hb13⟩
  obtain ⟨duo, duc, hduv, _, _⟩ := sl_open hs13
  (try simp only [List.length_nil] at hduv)
  subst hduv
  have HS13 : Hid (Sx w2.heap.size w2 w13 #[.int .i64 DN, (.slice do' DB.length dc)] #[.int .i64 0, (.slice none 0 0)] #[.int .i64 0, (.slice none 0 0)] [((.slice duo DB.length duc), DB), ((.slice do' DB.length dc), DB), ((.slice none 0 0), []), ((.slice none 0 0), [])]) := (HS12.out.low hb13).add hs13
  obtain ⟨wD, hwD⟩ : ∃ wD, wD = w13.alloc (.cells #[.int .i64 DN, (.slice duo DB.length duc)] 24) := ⟨_, rfl⟩
  have hbD : Below w13.heap.size w13 wD := by rw [hwD]; exact (Below.refl _ _).alloc (Nat.le_refl _) _
  have HSD : Hid (Sx w2.heap.size w2 wD #[.int .i64 DN, (.slice do' DB.length dc)] #[.int .i64 0, (.slice none 0 0)] #[.int .i64 0, (.slice none 0 0)] [((.slice duo DB.length duc), DB), ((.slice do' DB.length dc), DB), ((.slice none 0 0), []), ((.slice none 0 0), [])]) := HS13.out.low hbD
  have HD : Hid (wD.heap[w13.heap.size]? = some (.cells #[.int .i64 DN, (.slice duo DB.length duc)] 24 (0, 0))) := by rw [hwD]; exact heap_alloc_new w13 _
  obtain ⟨d0, d1, -⟩ := HC.out wD (HLOW.out wD HSD.out.bel)
  rw [hwD] at d0 d1
  clear hs13 hb13 hbD HS12 HS13
  go_wp2_with fail
  rw [← hwD]
  clear hwD d0 d1
  refine (HF.out.del wD (HLOW.out wD HSD.out.bel)).mono ?_
  rintro e w14 ⟨lu0, rfl, hs14, hb14⟩
  obtain ⟨luo, luc, hluv, _, _⟩ := sl_open hs14
  (try simp only [List.length_nil] at hluv)
  subst hluv
  have HS14 : Hid (Sx w2.heap.size w2 w14 #[.int .i64 DN, (.slice do' DB.length dc)] #[.int .i64 0, (.slice none 0 0)] #[.int .i64 0, (.slice none 0 0)] [((.slice luo 0 luc), []), ((.slice duo DB.length duc), DB), ((.slice do' DB.length dc), DB), ((.slice none 0 0), []), ((.slice none 0 0), [])]) := (HSD.out.low hb14).add hs14
  have HD14 : Hid (w14.heap[w13.heap.size]? = some (.cells #[.int .i64 DN, (.slice duo DB.length duc)] 24 (0, 0))) := (hb14.block _ (Array.getElem?_eq_some_iff.1 HD.out).1).trans HD.out
  obtain ⟨wL, hwL⟩ : ∃ wL, wL = w14.alloc (.cells #[.int .i64 0, (.slice luo 0 luc)] 24) := ⟨_, rfl⟩
  have hbL : Below w14.heap.size w14 wL := by rw [hwL]; exact (Below.refl _ _).alloc (Nat.le_refl _) _
  have HSL : Hid (Sx w2.heap.size w2 wL #[.int .i64 DN, (.slice do' DB.length dc)] #[.int .i64 0, (.slice none 0 0)] #[.int .i64 0, (.slice none 0 0)] [((.slice luo 0 luc), []), ((.slice duo DB.length duc), DB), ((.slice do' DB.length dc), DB), ((.slice none 0 0), []), ((.slice none 0 0), [])]) := HS14.out.low hbL
  have HDL : Hid (wL.heap[w13.heap.size]? = some (.cells #[.int .i64 DN, (.slice duo DB.length duc)] 24 (0, 0))) := (hbL.block _ (Array.getElem?_eq_some_iff.1 HD14.out).1).trans HD14.out
  have HL : Hid (wL.heap[w14.heap.size]? = some (.cells #[.int .i64 0, (.slice luo 0 luc)] 24 (0, 0))) := by rw [hwL]; exact heap_alloc_new w14 _
  obtain ⟨d0, d1, -⟩ := HC.out wL (HLOW.out wL HSL.out.bel)
  rw [hwL] at d0 d1
  clear hs14 hb14 hbL HSD HD HS14 HD14
  go_wp2_with fail
  rw [← hwL]
  clear hwL d0 d1
  refine (HF.out.con wL (HLOW.out wL HSL.out.bel)).mono ?_
  rintro e w15 ⟨xu0, rfl, hs15, hb15⟩
  obtain ⟨xuo, xuc, hxuv, _, _⟩ := sl_open hs15
  (try simp only [List.length_nil] at hxuv)
  subst hxuv
  have HS15 : Hid (Sx w2.heap.size w2 w15 #[.int .i64 DN, (.slice do' DB.length dc)] #[.int .i64 0, (.slice none 0 0)] #[.int .i64 0, (.slice none 0 0)] [((.slice xuo 0 xuc), []), ((.slice luo 0 luc), []), ((.slice duo DB.length duc), DB), ((.slice do' DB.length dc), DB), ((.slice none 0 0), []), ((.slice none 0 0), [])]) := (HSL.out.low hb15).add hs15
  have HD15 : Hid (w15.heap[w13.heap.size]? = some (.cells #[.int .i64 DN, (.slice duo DB.length duc)] 24 (0, 0))) := (hb15.block _ (Array.getElem?_eq_some_iff.1 HDL.out).1).trans HDL.out
  have HL15 : Hid (w15.heap[w14.heap.size]? = some (.cells #[.int .i64 0, (.slice luo 0 luc)] 24 (0, 0))) := (hb15.block _ (Array.getElem?_eq_some_iff.1 HL.out).1).trans HL.out
  obtain ⟨wX, hwX⟩ : ∃ wX, wX = w15.alloc (.cells #[.int .i64 0, (.slice xuo 0 xuc)] 24) := ⟨_, rfl⟩
  have hbX : Below w15.heap.size w15 wX := by rw [hwX]; exact (Below.refl _ _).alloc (Nat.le_refl _) _
  have HSX : Hid (Sx w2.heap.size w2 wX #[.int .i64 DN, (.slice do' DB.length dc)] #[.int .i64 0, (.slice none 0 0)] #[.int .i64 0, (.slice none 0 0)] [((.slice xuo 0 xuc), []), ((.slice luo 0 luc), []), ((.slice duo DB.length duc), DB), ((.slice do' DB.length dc), DB), ((.slice none 0 0), []), ((.slice none 0 0), [])]) := HS15.out.low hbX
  have HDX : Hid (wX.heap[w13.heap.size]? = some (.cells #[.int .i64 DN, (.slice duo DB.length duc)] 24 (0, 0))) := (hbX.block _ (Array.getElem?_eq_some_iff.1 HD15.out).1).trans HD15.out
  have HLX : Hid (wX.heap[w14.heap.size]? = some (.cells #[.int .i64 0, (.slice luo 0 luc)] 24 (0, 0))) := (hbX.block _ (Array.getElem?_eq_some_iff.1 HL15.out).1).trans HL15.out
  have HXX : Hid (wX.heap[w15.heap.size]? = some (.cells #[.int .i64 0, (.slice xuo 0 xuc)] 24 (0, 0))) := by rw [hwX]; exact heap_alloc_new w15 _
  have HQ : Hid (∀ W', Below wX.heap.size wX W' → (W'.cell? ⟨w13.heap.size, 0, none⟩ = some (.int .i64 DN) ∧ W'.cell? ⟨w13.heap.size, 1, none⟩ = some (.slice duo DB.length duc)) ∧ (W'.cell? ⟨w14.heap.size, 0, none⟩ = some (.int .i64 0) ∧ W'.cell? ⟨w14.heap.size, 1, none⟩ = some (.slice luo 0 luc)) ∧ (W'.cell? ⟨w15.heap.size, 0, none⟩ = some (.int .i64 0) ∧ W'.cell? ⟨w15.heap.size, 1, none⟩ = some (.slice xuo 0 xuc)) ∧
      (W'.cell? ⟨w2.heap.size, 0, none⟩ = some (.int .i64 DN) ∧ W'.cell? ⟨w2.heap.size, 1, none⟩ = some (.slice do' DB.length dc)) ∧ (W'.cell? ⟨w2.heap.size + 1, 0, none⟩ = some (.int .i64 0) ∧ W'.cell? ⟨w2.heap.size + 1, 1, none⟩ = some (.slice none 0 0)) ∧ (W'.cell? ⟨w2.heap.size + 1 + 1, 0, none⟩ = some (.int .i64 0) ∧ W'.cell? ⟨w2.heap.size + 1 + 1, 1, none⟩ = some (.slice none 0 0)) ∧
      Sx w2.heap.size w2 W' #[.int .i64 DN, (.slice do' DB.length dc)] #[.int .i64 0, (.slice none 0 0)] #[.int .i64 0, (.slice none 0 0)] [((.slice xuo 0 xuc), []), ((.slice luo 0 luc), []), ((.slice duo DB.length duc), DB), ((.slice do' DB.length dc), DB), ((.slice none 0 0), []), ((.slice none 0 0), [])]) := fun W' h => by
    have hX := HSX.out.low h
    have k1 := (h.block _ (Array.getElem?_eq_some_iff.1 HDX.out).1).trans HDX.out
    have k2 := (h.block _ (Array.getElem?_eq_some_iff.1 HLX.out).1).trans HLX.out
    have k3 := (h.block _ (Array.getElem?_eq_some_iff.1 HXX.out).1).trans HXX.out
    have k4 := hX.b0
    have k5 := hX.b1
    have k6 : W'.heap[w2.heap.size + 1 + 1]? = some (.cells #[.int .i64 0, (.slice none 0 0)] 24 (0, 0)) := hX.b2
    exact ⟨⟨by simp [World.cell?, k1], by simp [World.cell?, k1]⟩, ⟨by simp [World.cell?, k2], by simp [World.cell?, k2]⟩, ⟨by simp [World.cell?, k3], by simp [World.cell?, k3]⟩, ⟨by simp [World.cell?, k4], by simp [World.cell?, k4]⟩, ⟨by simp [World.cell?, k5], by simp [World.cell?, k5]⟩, ⟨by simp [World.cell?, k6], by simp [World.cell?, k6]⟩, hX⟩
  obtain ⟨⟨p0, p1⟩, -, -, ⟨p2, p3⟩, -, -, -⟩ := HQ.out wX (Below.refl _ _)
  rw [hwX] at p0 p1 p2 p3
  clear hs15 hb15 hbX HSL HDL HL HS15 HD15 HL15 HDX HLX HXX
  go_wp2_with fail
  rw [← hwX]
  clear hwX p0 p1 p2 p3
  refine (sameT_any DB DN 0 (.slice duo DB.length duc) (.slice do' DB.length dc) wX (HSX.out.sl ((.slice duo DB.length duc), DB) (by simp)) (HSX.out.sl ((.slice do' DB.length dc), DB) (by simp)) (fun h => ⟨(HF.out.hE h).2.2.1, (HF.out.hE h).2.2.2⟩)).mono ?_
  rintro e w16 ⟨rfl, hb16⟩
  have HB16 : Hid (Below wX.heap.size wX w16) := hb16
  obtain ⟨-, ⟨p0, p1⟩, -, -, ⟨p2, p3⟩, -, hX16⟩ := HQ.out w16 hb16
  have HX16 : Hid (Sx w2.heap.size w2 w16 #[.int .i64 DN, (.slice do' DB.length dc)] #[.int .i64 0, (.slice none 0 0)] #[.int .i64 0, (.slice none 0 0)] [((.slice xuo 0 xuc), []), ((.slice luo 0 luc), []), ((.slice duo DB.length duc), DB), ((.slice do' DB.length dc), DB), ((.slice none 0 0), []), ((.slice none 0 0), [])]) := hX16
  clear hb16 hX16
  go_wp2_with fail
  refine (sameT_any [] 0 9 (.slice luo 0 luc) (.slice none 0 0) w16 (HX16.out.sl ((.slice luo 0 luc), []) (by simp)) (HX16.out.sl ((.slice none 0 0), []) (by simp)) (fun h => ⟨(HF.out.hT h).1, (HF.out.hT h).2.1⟩)).mono ?_
  rintro e w17 ⟨rfl, hb17⟩
  have HB17 : Hid (Below wX.heap.size wX w17) := HB16.out.trans (hb17.mono HB16.out.size)
  obtain ⟨-, -, ⟨p4, p5⟩, -, -, ⟨p6, p7⟩, hX17⟩ := HQ.out w17 HB17.out
  have HX17 : Hid (Sx w2.heap.size w2 w17 #[.int .i64 DN, (.slice do' DB.length dc)] #[.int .i64 0, (.slice none 0 0)] #[.int .i64 0, (.slice none 0 0)] [((.slice xuo 0 xuc), []), ((.slice luo 0 luc), []), ((.slice duo DB.length duc), DB), ((.slice do' DB.length dc), DB), ((.slice none 0 0), []), ((.slice none 0 0), [])]) := hX17
  clear hb17 hX17 p0 p1 p2 p3
  go_wp2_with fail
  refine (sameT_any [] 0 9 (.slice xuo 0 xuc) (.slice none 0 0) w17 (HX17.out.sl ((.slice xuo 0 xuc), []) (by simp)) (HX17.out.sl ((.slice none 0 0), []) (by simp)) (fun h => ⟨(HF.out.hT h).1, (HF.out.hT h).2.2⟩)).mono ?_
  rintro e w18 ⟨rfl, hb18⟩
  have HB18 : Hid (Below w.heap.size w w18) := by
    have h1 := HX17.out.low hb18
    exact (HC.out w18 (HLOW.out w18 h1.bel)).2.2
  clear hb18
  go_wp2
  go_ret
  exact ⟨rfl, HB18.out⟩

end Go.Proofs.YtehklbekaflokaaDoor

/- MatroidSays: the walk (neg, big). -/
namespace Go.Proofs.YtehklbekaflokaaDoor
open Go.RowKit
attribute [local go_sem ↓] Go.wp_at_zero Go.wp_at_succ

set_option maxRecDepth 100000 in
set_option maxHeartbeats 8000000 in
theorem says_neg_big (n : Nat) (DN : Int) (s i : Int) (CL FL DB : List Int) (ao : Option Addr) (LN cap : Nat) (w W0 : World) (hW : W0 = w.alloc (.cells #[.int .i64 (n : Int), .slice ao LN cap] 24)) (hF : Fx W0 (.agg #[.int .i64 (n : Int), .slice ao LN cap]) s i 0 0 4 9 0 DN CL FL DB [] []) (hln : LN ≤ 300) (hn8 : n ≤ 8) (hG : Gx W0 (.agg #[.int .i64 (n : Int), .slice ao LN cap]) DN CL FL DB) (hs : s < 0) (hi0 : 0 ≤ i) (hi : (n : Int) ≤ i) :
    Calls Tryd.prog 3 #[.agg #[.int .i64 (n : Int), .slice ao LN cap], .int .i64 s, .int .i64 i] w fun e w' => e = .returned (.bool true) ∧ Below w.heap.size w w' := by
  have HF : Hid (Fx W0 (.agg #[.int .i64 (n : Int), .slice ao LN cap]) s i 0 0 4 9 0 DN CL FL DB [] []) := hF
  have HBA : Hid (Below w.heap.size w W0) := by rw [hW]; exact (Below.refl _ _).alloc (Nat.le_refl _) _
  have a0 : W0.heap[w.heap.size]? = some (.cells #[.int .i64 (n : Int), .slice ao LN cap] 24 (0, 0)) := by rw [hW]; exact heap_alloc_new w _
  have HSW : Hid (W0.heap.size = w.heap.size + 1) := by rw [hW]; show _ = _; simp
  have HC : Hid (∀ W', Below W0.heap.size W0 W' → W'.cell? ⟨w.heap.size, 0, none⟩ = some (.int .i64 (n : Int)) ∧ W'.cell? ⟨w.heap.size, 1, none⟩ = some (.slice ao LN cap) ∧ Below w.heap.size w W') := fun W' h => by
    have := (h.block _ (by rw [HSW.out]; omega)).trans a0
    exact ⟨by simp [World.cell?, this], by simp [World.cell?, this], HBA.out.trans (h.mono HBA.out.size)⟩
  have b300 : decide ((300 : Int) < (LN : Int)) = false := decide_eq_false (by omega)
  have bEE : (0 != 0) = false := by simp
  obtain ⟨d0, d1, -⟩ := HC.out W0 (Below.refl _ _)
  have hW' := hW
  rw [hW] at d0 d1
  clear hF a0
  go_enter Tryd.func3, Tryd.ntmps3
  go_wp2_with fail
  rw [← hW]
  clear d0 d1 hW hW'
  refine (HF.out.may W0 (Below.refl _ _)).mono ?_
  rintro e w1 ⟨rfl, hb1⟩
  have HB1 : Hid (Below W0.heap.size W0 w1) := hb1
  obtain ⟨d0, d1, -⟩ := HC.out w1 hb1
  clear hb1
  go_wp2_with fail
  refine (HF.out.chk w1 HB1.out).mono ?_
  rintro e w2 ⟨rfl, hb2⟩
  have HB2 : Hid (Below W0.heap.size W0 w2) := HB1.out.trans (hb2.mono HB1.out.size)
  clear hb2 d0 d1 HB1
  obtain ⟨wx, hwx⟩ : ∃ wx, wx = w2.alloc (.cells #[.int .i64 0, .slice none 0 0] 24) := ⟨_, rfl⟩
  obtain ⟨wy, hwy⟩ : ∃ wy, wy = wx.alloc (.cells #[.int .i64 0, .slice none 0 0] 24) := ⟨_, rfl⟩
  obtain ⟨wz, hwz⟩ : ∃ wz, wz = wy.alloc (.cells #[.int .i64 0, .slice none 0 0] 24) := ⟨_, rfl⟩
  have sx : wx.heap.size = w2.heap.size + 1 := by rw [hwx]; simp
  have sy : wy.heap.size = w2.heap.size + 2 := by rw [hwy]; simp [sx]
  have HX : Hid (Sx w2.heap.size w2 wz #[.int .i64 0, .slice none 0 0] #[.int .i64 0, .slice none 0 0] #[.int .i64 0, .slice none 0 0] []) := by
    refine ⟨?_, ?_, ?_, ?_, fun p hp => by simp at hp⟩
    · rw [hwz, hwy, hwx]; exact (((Below.refl _ _).alloc (Nat.le_refl _) _).alloc (by simp) _).alloc (by simp; omega) _
    · rw [hwz]; refine (Below.heap_alloc _ _ _ (by omega)).trans ?_
      rw [hwy]; refine (Below.heap_alloc _ _ _ (by omega)).trans ?_
      rw [hwx]; exact heap_alloc_new w2 _
    · rw [hwz]; refine (Below.heap_alloc _ _ _ (by omega)).trans ?_
      rw [hwy, ← sx]; exact heap_alloc_new wx _
    · rw [hwz, ← sy]; exact heap_alloc_new wy _
  have HWZ : Hid (wz = ((w2.alloc (.cells #[.int .i64 0, .slice none 0 0] 24)).alloc (.cells #[.int .i64 0, .slice none 0 0] 24)).alloc (.cells #[.int .i64 0, .slice none 0 0] 24)) := by rw [hwz, hwy, hwx]; rfl
  have HLOW : Hid (∀ W', Below w2.heap.size w2 W' → Below W0.heap.size W0 W') := fun W' h => HB2.out.trans (h.mono HB2.out.size)
  clear hwx hwy hwz sx sy
  obtain ⟨d0, d1, -⟩ := HC.out wz (HLOW.out wz HX.out.bel)
  rw [HWZ.out] at d0 d1
  have HG : Hid (Gx W0 (.agg #[.int .i64 (n : Int), .slice ao LN cap]) DN CL FL DB) := hG
  obtain ⟨tn, htn⟩ : ∃ tn : Nat, tn = 2 ^ n := ⟨_, rfl⟩
  have hti : (2 : Int) ^ n = (tn : Int) := by rw [htn]; simp
  have htl : tn ≤ 256 := by rw [htn]; exact show 2 ^ n ≤ 2 ^ 8 from Nat.pow_le_pow_right (by omega) hn8
  have hwt8 : IntKind.i64.wrap (tn : Int) = (tn : Int) := wrap_small (by omega)
  have qs0 : decide (s < 0) = true := decide_eq_true hs
  have qi0 : decide (i < 0) = false := decide_eq_false (by omega)
  have qi1 : decide ((n : Int) ≤ i) = true := decide_eq_true (by omega)
  clear htn
  go_wp2_with fail
  rw [← HWZ.out]
  clear d0 d1 HWZ
  refine (HG.out.circ wz (HLOW.out wz HX.out.bel)).mono ?_
  rintro e w3 ⟨cv, rfl, hs3, hb3⟩
  have HX3 : Hid (Sx w2.heap.size w2 w3 #[.int .i64 0, .slice none 0 0] #[.int .i64 0, .slice none 0 0] #[.int .i64 0, .slice none 0 0] [(cv, CL)]) := (HX.out.low hb3).add hs3
  obtain ⟨d0, d1, -⟩ := HC.out w3 (HLOW.out w3 HX3.out.bel)
  clear hs3 hb3 HX
  go_wp2_with fail
  refine (HG.out.flat w3 (HLOW.out w3 HX3.out.bel)).mono ?_
  rintro e w4 ⟨fv, rfl, hs4, hb4⟩
  have HX4 : Hid (Sx w2.heap.size w2 w4 #[.int .i64 0, .slice none 0 0] #[.int .i64 0, .slice none 0 0] #[.int .i64 0, .slice none 0 0] [(fv, FL), (cv, CL)]) := (HX3.out.low hb4).add hs4
  obtain ⟨d0, d1, -⟩ := HC.out w4 (HLOW.out w4 HX4.out.bel)
  clear hs4 hb4 HX3
  go_wp2_with fail
  refine (HG.out.dual w4 (HLOW.out w4 HX4.out.bel)).mono ?_
  rintro e w5 ⟨dv, rfl, hs5, hb5⟩
  have HX5 : Hid (Sx w2.heap.size w2 w5 #[.int .i64 0, .slice none 0 0] #[.int .i64 0, .slice none 0 0] #[.int .i64 0, .slice none 0 0] [(dv, DB), (fv, FL), (cv, CL)]) := (HX4.out.low hb5).add hs5
  obtain ⟨wS, hwS⟩ : ∃ wS, wS = (w5.setCell ⟨w2.heap.size, 0, none⟩ (.int .i64 DN)).setCell ⟨w2.heap.size, 1, none⟩ dv := ⟨_, rfl⟩
  have HXS : Hid (Sx w2.heap.size w2 wS #[.int .i64 DN, dv] #[.int .i64 0, .slice none 0 0] #[.int .i64 0, .slice none 0 0] [(dv, DB), (fv, FL), (cv, CL)]) := by rw [hwS]; exact HX5.out.set0 _ _
  have o0 : w5.cell? ⟨w2.heap.size, 0, none⟩ = some (.int .i64 0) := by have := HX5.out.b0; simp [World.cell?, this]
  have o1 : w5.cell? ⟨w2.heap.size, 1, none⟩ = some (.slice none 0 0) := by have := HX5.out.b0; simp [World.cell?, this]
  have o2 : w5.frozen? ⟨w2.heap.size, 0, none⟩ = false := by have := HX5.out.b0; simp [World.frozen?, this]
  have o3 : w5.frozen? ⟨w2.heap.size, 1, none⟩ = false := by have := HX5.out.b0; simp [World.frozen?, this]
  obtain ⟨do', dc, hdv, _, _⟩ := sl_open hs5
  subst hdv
  obtain ⟨d0, d1, -⟩ := HC.out wS (HLOW.out wS HXS.out.bel)
  rw [hwS] at d0 d1
  clear hs5 hb5 HX4 HX5
  go_wp2_with fail
  rw [← hwS]
  clear hwS d0 d1 o0 o1 o2 o3
  obtain ⟨wt, hwt⟩ : ∃ wt, wt = wS := ⟨_, rfl⟩
  rw [← hwt]
  have HS : Hid (Sx w2.heap.size w2 wt #[.int .i64 DN, (.slice do' DB.length dc)] #[.int .i64 0, .slice none 0 0] #[.int .i64 0, .slice none 0 0] [((.slice do' DB.length dc), DB), (.slice none 0 0, []), (.slice none 0 0, []), (cv, CL), (fv, FL)]) := by
    rw [hwt]
    have h := (HXS.out.add (v := .slice none 0 0) (xs := []) (Sl.nil _ _ _)).add (v := .slice none 0 0) (xs := []) (Sl.nil _ _ _)
    exact ⟨h.bel, h.b0, h.b1, h.b2, fun p hp => h.sl p (by simp at hp ⊢; rcases hp with rfl | rfl | rfl | rfl <;> simp)⟩
  clear hwt HXS
  refine (HF.out.rank wt (HLOW.out wt HS.out.bel)).mono ?_
  rintro e w7 ⟨rfl, hb7⟩
  have HS7 : Hid (Sx w2.heap.size w2 w7 #[.int .i64 DN, (.slice do' DB.length dc)] #[.int .i64 0, (.slice none 0 0)] #[.int .i64 0, (.slice none 0 0)] [((.slice do' DB.length dc), DB), ((.slice none 0 0), []), ((.slice none 0 0), []), (cv, CL), (fv, FL)]) := HS.out.low hb7
  obtain ⟨d0, d1, -⟩ := HC.out w7 (HLOW.out w7 HS7.out.bel)
  clear hb7 HS
  go_wp2_with fail
  refine (HF.out.circ w7 (HLOW.out w7 HS7.out.bel)).mono ?_
  rintro e w8 ⟨cu, rfl, hs8, hb8⟩
  have HS8 : Hid (Sx w2.heap.size w2 w8 #[.int .i64 DN, (.slice do' DB.length dc)] #[.int .i64 0, (.slice none 0 0)] #[.int .i64 0, (.slice none 0 0)] [(cu, CL), ((.slice do' DB.length dc), DB), ((.slice none 0 0), []), ((.slice none 0 0), []), (cv, CL), (fv, FL)]) := (HS7.out.low hb8).add hs8
  obtain ⟨d0, d1, -⟩ := HC.out w8 (HLOW.out w8 HS8.out.bel)
  clear hb8 hs8 HS7
  go_wp2_with fail
  refine (HF.out.flat w8 (HLOW.out w8 HS8.out.bel)).mono ?_
  rintro e w9 ⟨fu, rfl, hs9, hb9⟩
  have HS9 : Hid (Sx w2.heap.size w2 w9 #[.int .i64 DN, (.slice do' DB.length dc)] #[.int .i64 0, (.slice none 0 0)] #[.int .i64 0, (.slice none 0 0)] [(fu, FL), (cu, CL), ((.slice do' DB.length dc), DB), ((.slice none 0 0), []), ((.slice none 0 0), []), (cv, CL), (fv, FL)]) := (HS8.out.low hb9).add hs9
  clear hb9 hs9 HS8 d0 d1
  go_wp2_with fail
  refine (num_true 0 4 0 4 w9 rfl HF.out.hR (fun _ => rfl)).mono ?_
  rintro e w10 ⟨rfl, hw10⟩
  subst hw10
  go_wp2_with fail
  refine (listT_any CL 0 cu cv w10 (HS9.out.sl (cu, CL) (by simp)) (HS9.out.sl (cv, CL) (by simp)) (fun h => (HF.out.hE h).1)).mono ?_
  rintro e w11 ⟨rfl, hb11⟩
  have HS11 : Hid (Sx w2.heap.size w2 w11 #[.int .i64 DN, (.slice do' DB.length dc)] #[.int .i64 0, (.slice none 0 0)] #[.int .i64 0, (.slice none 0 0)] [(fu, FL), (cu, CL), ((.slice do' DB.length dc), DB), ((.slice none 0 0), []), ((.slice none 0 0), []), (cv, CL), (fv, FL)]) := HS9.out.low hb11
  clear hb11 HS9
  go_wp2_with fail
  refine (listT_any FL 0 fu fv w11 (HS11.out.sl (fu, FL) (by simp)) (HS11.out.sl (fv, FL) (by simp)) (fun h => (HF.out.hE h).2.1)).mono ?_
  rintro e w12 ⟨rfl, hb12⟩
  have HS12 : Hid (Sx w2.heap.size w2 w12 #[.int .i64 DN, (.slice do' DB.length dc)] #[.int .i64 0, (.slice none 0 0)] #[.int .i64 0, (.slice none 0 0)] [((.slice do' DB.length dc), DB), ((.slice none 0 0), []), ((.slice none 0 0), [])]) := by
    have h := HS11.out.low hb12
    exact ⟨h.bel, h.b0, h.b1, h.b2, fun p hp => h.sl p (by simp at hp ⊢; rcases hp with rfl | rfl | rfl <;> simp)⟩
  obtain ⟨d0, d1, -⟩ := HC.out w12 (HLOW.out w12 HS12.out.bel)
  clear hb12 HS11
  go_wp2_with fail
  refine (HF.out.dual w12 (HLOW.out w12 HS12.out.bel)).mono ?_
  rintro e w13 ⟨du0, rfl, hs13, hb13⟩
  obtain ⟨duo, duc, hduv, _, _⟩ := sl_open hs13
  (try simp only [List.length_nil] at hduv)
  subst hduv
  have HS13 : Hid (Sx w2.heap.size w2 w13 #[.int .i64 DN, (.slice do' DB.length dc)] #[.int .i64 0, (.slice none 0 0)] #[.int .i64 0, (.slice none 0 0)] [((.slice duo DB.length duc), DB), ((.slice do' DB.length dc), DB), ((.slice none 0 0), []), ((.slice none 0 0), [])]) := (HS12.out.low hb13).add hs13
  obtain ⟨wD, hwD⟩ : ∃ wD, wD = w13.alloc (.cells #[.int .i64 DN, (.slice duo DB.length duc)] 24) := ⟨_, rfl⟩
  have hbD : Below w13.heap.size w13 wD := by rw [hwD]; exact (Below.refl _ _).alloc (Nat.le_refl _) _
  have HSD : Hid (Sx w2.heap.size w2 wD #[.int .i64 DN, (.slice do' DB.length dc)] #[.int .i64 0, (.slice none 0 0)] #[.int .i64 0, (.slice none 0 0)] [((.slice duo DB.length duc), DB), ((.slice do' DB.length dc), DB), ((.slice none 0 0), []), ((.slice none 0 0), [])]) := HS13.out.low hbD
  have HD : Hid (wD.heap[w13.heap.size]? = some (.cells #[.int .i64 DN, (.slice duo DB.length duc)] 24 (0, 0))) := by rw [hwD]; exact heap_alloc_new w13 _
  obtain ⟨d0, d1, -⟩ := HC.out wD (HLOW.out wD HSD.out.bel)
  rw [hwD] at d0 d1
  clear hs13 hb13 hbD HS12 HS13
  go_wp2_with fail
  rw [← hwD]
  clear hwD d0 d1
  refine (HF.out.del wD (HLOW.out wD HSD.out.bel)).mono ?_
  rintro e w14 ⟨lu0, rfl, hs14, hb14⟩
  obtain ⟨luo, luc, hluv, _, _⟩ := sl_open hs14
  (try simp only [List.length_nil] at hluv)
  subst hluv
  have HS14 : Hid (Sx w2.heap.size w2 w14 #[.int .i64 DN, (.slice do' DB.length dc)] #[.int .i64 0, (.slice none 0 0)] #[.int .i64 0, (.slice none 0 0)] [((.slice luo 0 luc), []), ((.slice duo DB.length duc), DB), ((.slice do' DB.length dc), DB), ((.slice none 0 0), []), ((.slice none 0 0), [])]) := (HSD.out.low hb14).add hs14
  have HD14 : Hid (w14.heap[w13.heap.size]? = some (.cells #[.int .i64 DN, (.slice duo DB.length duc)] 24 (0, 0))) := (hb14.block _ (Array.getElem?_eq_some_iff.1 HD.out).1).trans HD.out
  obtain ⟨wL, hwL⟩ : ∃ wL, wL = w14.alloc (.cells #[.int .i64 0, (.slice luo 0 luc)] 24) := ⟨_, rfl⟩
  have hbL : Below w14.heap.size w14 wL := by rw [hwL]; exact (Below.refl _ _).alloc (Nat.le_refl _) _
  have HSL : Hid (Sx w2.heap.size w2 wL #[.int .i64 DN, (.slice do' DB.length dc)] #[.int .i64 0, (.slice none 0 0)] #[.int .i64 0, (.slice none 0 0)] [((.slice luo 0 luc), []), ((.slice duo DB.length duc), DB), ((.slice do' DB.length dc), DB), ((.slice none 0 0), []), ((.slice none 0 0), [])]) := HS14.out.low hbL
  have HDL : Hid (wL.heap[w13.heap.size]? = some (.cells #[.int .i64 DN, (.slice duo DB.length duc)] 24 (0, 0))) := (hbL.block _ (Array.getElem?_eq_some_iff.1 HD14.out).1).trans HD14.out
  have HL : Hid (wL.heap[w14.heap.size]? = some (.cells #[.int .i64 0, (.slice luo 0 luc)] 24 (0, 0))) := by rw [hwL]; exact heap_alloc_new w14 _
  obtain ⟨d0, d1, -⟩ := HC.out wL (HLOW.out wL HSL.out.bel)
  rw [hwL] at d0 d1
  clear hs14 hb14 hbL HSD HD HS14 HD14
  go_wp2_with fail
  rw [← hwL]
  clear hwL d0 d1
  refine (HF.out.con wL (HLOW.out wL HSL.out.bel)).mono ?_
  rintro e w15 ⟨xu0, rfl, hs15, hb15⟩
  obtain ⟨xuo, xuc, hxuv, _, _⟩ := sl_open hs15
  (try simp only [List.length_nil] at hxuv)
  subst hxuv
  have HS15 : Hid (Sx w2.heap.size w2 w15 #[.int .i64 DN, (.slice do' DB.length dc)] #[.int .i64 0, (.slice none 0 0)] #[.int .i64 0, (.slice none 0 0)] [((.slice xuo 0 xuc), []), ((.slice luo 0 luc), []), ((.slice duo DB.length duc), DB), ((.slice do' DB.length dc), DB), ((.slice none 0 0), []), ((.slice none 0 0), [])]) := (HSL.out.low hb15).add hs15
  have HD15 : Hid (w15.heap[w13.heap.size]? = some (.cells #[.int .i64 DN, (.slice duo DB.length duc)] 24 (0, 0))) := (hb15.block _ (Array.getElem?_eq_some_iff.1 HDL.out).1).trans HDL.out
  have HL15 : Hid (w15.heap[w14.heap.size]? = some (.cells #[.int .i64 0, (.slice luo 0 luc)] 24 (0, 0))) := (hb15.block _ (Array.getElem?_eq_some_iff.1 HL.out).1).trans HL.out
  obtain ⟨wX, hwX⟩ : ∃ wX, wX = w15.alloc (.cells #[.int .i64 0, (.slice xuo 0 xuc)] 24) := ⟨_, rfl⟩
  have hbX : Below w15.heap.size w15 wX := by rw [hwX]; exact (Below.refl _ _).alloc (Nat.le_refl _) _
  have HSX : Hid (Sx w2.heap.size w2 wX #[.int .i64 DN, (.slice do' DB.length dc)] #[.int .i64 0, (.slice none 0 0)] #[.int .i64 0, (.slice none 0 0)] [((.slice xuo 0 xuc), []), ((.slice luo 0 luc), []), ((.slice duo DB.length duc), DB), ((.slice do' DB.length dc), DB), ((.slice none 0 0), []), ((.slice none 0 0), [])]) := HS15.out.low hbX
  have HDX : Hid (wX.heap[w13.heap.size]? = some (.cells #[.int .i64 DN, (.slice duo DB.length duc)] 24 (0, 0))) := (hbX.block _ (Array.getElem?_eq_some_iff.1 HD15.out).1).trans HD15.out
  have HLX : Hid (wX.heap[w14.heap.size]? = some (.cells #[.int .i64 0, (.slice luo 0 luc)] 24 (0, 0))) := (hbX.block _ (Array.getElem?_eq_some_iff.1 HL15.out).1).trans HL15.out
  have HXX : Hid (wX.heap[w15.heap.size]? = some (.cells #[.int .i64 0, (.slice xuo 0 xuc)] 24 (0, 0))) := by rw [hwX]; exact heap_alloc_new w15 _
  have HQ : Hid (∀ W', Below wX.heap.size wX W' → (W'.cell? ⟨w13.heap.size, 0, none⟩ = some (.int .i64 DN) ∧ W'.cell? ⟨w13.heap.size, 1, none⟩ = some (.slice duo DB.length duc)) ∧ (W'.cell? ⟨w14.heap.size, 0, none⟩ = some (.int .i64 0) ∧ W'.cell? ⟨w14.heap.size, 1, none⟩ = some (.slice luo 0 luc)) ∧ (W'.cell? ⟨w15.heap.size, 0, none⟩ = some (.int .i64 0) ∧ W'.cell? ⟨w15.heap.size, 1, none⟩ = some (.slice xuo 0 xuc)) ∧
      (W'.cell? ⟨w2.heap.size, 0, none⟩ = some (.int .i64 DN) ∧ W'.cell? ⟨w2.heap.size, 1, none⟩ = some (.slice do' DB.length dc)) ∧ (W'.cell? ⟨w2.heap.size + 1, 0, none⟩ = some (.int .i64 0) ∧ W'.cell? ⟨w2.heap.size + 1, 1, none⟩ = some (.slice none 0 0)) ∧ (W'.cell? ⟨w2.heap.size + 1 + 1, 0, none⟩ = some (.int .i64 0) ∧ W'.cell? ⟨w2.heap.size + 1 + 1, 1, none⟩ = some (.slice none 0 0)) ∧
      Sx w2.heap.size w2 W' #[.int .i64 DN, (.slice do' DB.length dc)] #[.int .i64 0, (.slice none 0 0)] #[.int .i64 0, (.slice none 0 0)] [((.slice xuo 0 xuc), []), ((.slice luo 0 luc), []), ((.slice duo DB.length duc), DB), ((.slice do' DB.length dc), DB), ((.slice none 0 0), []), ((.slice none 0 0), [])]) := fun W' h => by
    have hX := HSX.out.low h
    have k1 := (h.block _ (Array.getElem?_eq_some_iff.1 HDX.out).1).trans HDX.out
    have k2 := (h.block _ (Array.getElem?_eq_some_iff.1 HLX.out).1).trans HLX.out
    have k3 := (h.block _ (Array.getElem?_eq_some_iff.1 HXX.out).1).trans HXX.out
    have k4 := hX.b0
    have k5 := hX.b1
    have k6 : W'.heap[w2.heap.size + 1 + 1]? = some (.cells #[.int .i64 0, (.slice none 0 0)] 24 (0, 0)) := hX.b2
    exact ⟨⟨by simp [World.cell?, k1], by simp [World.cell?, k1]⟩, ⟨by simp [World.cell?, k2], by simp [World.cell?, k2]⟩, ⟨by simp [World.cell?, k3], by simp [World.cell?, k3]⟩, ⟨by simp [World.cell?, k4], by simp [World.cell?, k4]⟩, ⟨by simp [World.cell?, k5], by simp [World.cell?, k5]⟩, ⟨by simp [World.cell?, k6], by simp [World.cell?, k6]⟩, hX⟩
  obtain ⟨⟨p0, p1⟩, -, -, ⟨p2, p3⟩, -, -, -⟩ := HQ.out wX (Below.refl _ _)
  rw [hwX] at p0 p1 p2 p3
  clear hs15 hb15 hbX HSL HDL HL HS15 HD15 HL15 HDX HLX HXX
  go_wp2_with fail
  rw [← hwX]
  clear hwX p0 p1 p2 p3
  refine (sameT_any DB DN 0 (.slice duo DB.length duc) (.slice do' DB.length dc) wX (HSX.out.sl ((.slice duo DB.length duc), DB) (by simp)) (HSX.out.sl ((.slice do' DB.length dc), DB) (by simp)) (fun h => ⟨(HF.out.hE h).2.2.1, (HF.out.hE h).2.2.2⟩)).mono ?_
  rintro e w16 ⟨rfl, hb16⟩
  have HB16 : Hid (Below wX.heap.size wX w16) := hb16
  obtain ⟨-, ⟨p0, p1⟩, -, -, ⟨p2, p3⟩, -, hX16⟩ := HQ.out w16 hb16
  have HX16 : Hid (Sx w2.heap.size w2 w16 #[.int .i64 DN, (.slice do' DB.length dc)] #[.int .i64 0, (.slice none 0 0)] #[.int .i64 0, (.slice none 0 0)] [((.slice xuo 0 xuc), []), ((.slice luo 0 luc), []), ((.slice duo DB.length duc), DB), ((.slice do' DB.length dc), DB), ((.slice none 0 0), []), ((.slice none 0 0), [])]) := hX16
  clear hb16 hX16
  go_wp2_with fail
  refine (sameT_any [] 0 9 (.slice luo 0 luc) (.slice none 0 0) w16 (HX16.out.sl ((.slice luo 0 luc), []) (by simp)) (HX16.out.sl ((.slice none 0 0), []) (by simp)) (fun h => ⟨(HF.out.hT h).1, (HF.out.hT h).2.1⟩)).mono ?_
  rintro e w17 ⟨rfl, hb17⟩
  have HB17 : Hid (Below wX.heap.size wX w17) := HB16.out.trans (hb17.mono HB16.out.size)
  obtain ⟨-, -, ⟨p4, p5⟩, -, -, ⟨p6, p7⟩, hX17⟩ := HQ.out w17 HB17.out
  have HX17 : Hid (Sx w2.heap.size w2 w17 #[.int .i64 DN, (.slice do' DB.length dc)] #[.int .i64 0, (.slice none 0 0)] #[.int .i64 0, (.slice none 0 0)] [((.slice xuo 0 xuc), []), ((.slice luo 0 luc), []), ((.slice duo DB.length duc), DB), ((.slice do' DB.length dc), DB), ((.slice none 0 0), []), ((.slice none 0 0), [])]) := hX17
  clear hb17 hX17 p0 p1 p2 p3
  go_wp2_with fail
  refine (sameT_any [] 0 9 (.slice xuo 0 xuc) (.slice none 0 0) w17 (HX17.out.sl ((.slice xuo 0 xuc), []) (by simp)) (HX17.out.sl ((.slice none 0 0), []) (by simp)) (fun h => ⟨(HF.out.hT h).1, (HF.out.hT h).2.2⟩)).mono ?_
  rintro e w18 ⟨rfl, hb18⟩
  have HB18 : Hid (Below w.heap.size w w18) := by
    have h1 := HX17.out.low hb18
    exact (HC.out w18 (HLOW.out w18 h1.bel)).2.2
  clear hb18
  go_wp2
  go_ret
  exact ⟨rfl, HB18.out⟩

end Go.Proofs.YtehklbekaflokaaDoor

/- MatroidSays: the walk (neg, good). -/
namespace Go.Proofs.YtehklbekaflokaaDoor
open Go.RowKit
attribute [local go_sem ↓] Go.wp_at_zero Go.wp_at_succ

set_option maxRecDepth 100000 in
set_option maxHeartbeats 8000000 in
theorem says_neg_good (n : Nat) (MN0 DN : Int) (s : Int) (zi : Nat) (CL FL DB LB WB : List Int) (ao : Option Addr) (LN cap : Nat) (w W0 : World) (hW : W0 = w.alloc (.cells #[.int .i64 (n : Int), .slice ao LN cap] 24)) (hF : Fx W0 (.agg #[.int .i64 (n : Int), .slice ao LN cap]) s (zi : Int) 0 0 4 0 MN0 DN CL FL DB LB WB) (hln : LN ≤ 300) (hn8 : n ≤ 8) (hG : Gx W0 (.agg #[.int .i64 (n : Int), .slice ao LN cap]) DN CL FL DB) (hs : s < 0) (hi : zi < n) (hMD : ∀ W', Below W0.heap.size W0 W' → Calls Tryd.prog 11 #[.agg #[.int .i64 (n : Int), .slice ao LN cap], .int .i64 (zi : Int), .bool false] W' fun e w' => ∃ u, e = .returned (.agg #[.int .i64 MN0, u]) ∧ Sl 0 3 w' u (ints LB) ∧ Below W'.heap.size W' w') (hMC : ∀ W', Below W0.heap.size W0 W' → Calls Tryd.prog 11 #[.agg #[.int .i64 (n : Int), .slice ao LN cap], .int .i64 (zi : Int), .bool true] W' fun e w' => ∃ u, e = .returned (.agg #[.int .i64 MN0, u]) ∧ Sl 0 3 w' u (ints WB) ∧ Below W'.heap.size W' w') :
    Calls Tryd.prog 3 #[.agg #[.int .i64 (n : Int), .slice ao LN cap], .int .i64 s, .int .i64 (zi : Int)] w fun e w' => e = .returned (.bool true) ∧ Below w.heap.size w w' := by
  have HF : Hid (Fx W0 (.agg #[.int .i64 (n : Int), .slice ao LN cap]) s (zi : Int) 0 0 4 0 MN0 DN CL FL DB LB WB) := hF
  have HBA : Hid (Below w.heap.size w W0) := by rw [hW]; exact (Below.refl _ _).alloc (Nat.le_refl _) _
  have a0 : W0.heap[w.heap.size]? = some (.cells #[.int .i64 (n : Int), .slice ao LN cap] 24 (0, 0)) := by rw [hW]; exact heap_alloc_new w _
  have HSW : Hid (W0.heap.size = w.heap.size + 1) := by rw [hW]; show _ = _; simp
  have HC : Hid (∀ W', Below W0.heap.size W0 W' → W'.cell? ⟨w.heap.size, 0, none⟩ = some (.int .i64 (n : Int)) ∧ W'.cell? ⟨w.heap.size, 1, none⟩ = some (.slice ao LN cap) ∧ Below w.heap.size w W') := fun W' h => by
    have := (h.block _ (by rw [HSW.out]; omega)).trans a0
    exact ⟨by simp [World.cell?, this], by simp [World.cell?, this], HBA.out.trans (h.mono HBA.out.size)⟩
  have b300 : decide ((300 : Int) < (LN : Int)) = false := decide_eq_false (by omega)
  have bEE : (0 != 0) = false := by simp
  obtain ⟨d0, d1, -⟩ := HC.out W0 (Below.refl _ _)
  have hW' := hW
  rw [hW] at d0 d1
  clear hF a0
  go_enter Tryd.func3, Tryd.ntmps3
  go_wp2_with fail
  rw [← hW]
  clear d0 d1 hW hW'
  refine (HF.out.may W0 (Below.refl _ _)).mono ?_
  rintro e w1 ⟨rfl, hb1⟩
  have HB1 : Hid (Below W0.heap.size W0 w1) := hb1
  obtain ⟨d0, d1, -⟩ := HC.out w1 hb1
  clear hb1
  go_wp2_with fail
  refine (HF.out.chk w1 HB1.out).mono ?_
  rintro e w2 ⟨rfl, hb2⟩
  have HB2 : Hid (Below W0.heap.size W0 w2) := HB1.out.trans (hb2.mono HB1.out.size)
  clear hb2 d0 d1 HB1
  obtain ⟨wx, hwx⟩ : ∃ wx, wx = w2.alloc (.cells #[.int .i64 0, .slice none 0 0] 24) := ⟨_, rfl⟩
  obtain ⟨wy, hwy⟩ : ∃ wy, wy = wx.alloc (.cells #[.int .i64 0, .slice none 0 0] 24) := ⟨_, rfl⟩
  obtain ⟨wz, hwz⟩ : ∃ wz, wz = wy.alloc (.cells #[.int .i64 0, .slice none 0 0] 24) := ⟨_, rfl⟩
  have sx : wx.heap.size = w2.heap.size + 1 := by rw [hwx]; simp
  have sy : wy.heap.size = w2.heap.size + 2 := by rw [hwy]; simp [sx]
  have HX : Hid (Sx w2.heap.size w2 wz #[.int .i64 0, .slice none 0 0] #[.int .i64 0, .slice none 0 0] #[.int .i64 0, .slice none 0 0] []) := by
    refine ⟨?_, ?_, ?_, ?_, fun p hp => by simp at hp⟩
    · rw [hwz, hwy, hwx]; exact (((Below.refl _ _).alloc (Nat.le_refl _) _).alloc (by simp) _).alloc (by simp; omega) _
    · rw [hwz]; refine (Below.heap_alloc _ _ _ (by omega)).trans ?_
      rw [hwy]; refine (Below.heap_alloc _ _ _ (by omega)).trans ?_
      rw [hwx]; exact heap_alloc_new w2 _
    · rw [hwz]; refine (Below.heap_alloc _ _ _ (by omega)).trans ?_
      rw [hwy, ← sx]; exact heap_alloc_new wx _
    · rw [hwz, ← sy]; exact heap_alloc_new wy _
  have HWZ : Hid (wz = ((w2.alloc (.cells #[.int .i64 0, .slice none 0 0] 24)).alloc (.cells #[.int .i64 0, .slice none 0 0] 24)).alloc (.cells #[.int .i64 0, .slice none 0 0] 24)) := by rw [hwz, hwy, hwx]; rfl
  have HLOW : Hid (∀ W', Below w2.heap.size w2 W' → Below W0.heap.size W0 W') := fun W' h => HB2.out.trans (h.mono HB2.out.size)
  clear hwx hwy hwz sx sy
  obtain ⟨d0, d1, -⟩ := HC.out wz (HLOW.out wz HX.out.bel)
  rw [HWZ.out] at d0 d1
  have HMD : Hid (∀ W', Below W0.heap.size W0 W' → Calls Tryd.prog 11 #[.agg #[.int .i64 (n : Int), .slice ao LN cap], .int .i64 (zi : Int), .bool false] W' fun e w' => ∃ u, e = .returned (.agg #[.int .i64 MN0, u]) ∧ Sl 0 3 w' u (ints LB) ∧ Below W'.heap.size W' w') := hMD
  have HMC : Hid (∀ W', Below W0.heap.size W0 W' → Calls Tryd.prog 11 #[.agg #[.int .i64 (n : Int), .slice ao LN cap], .int .i64 (zi : Int), .bool true] W' fun e w' => ∃ u, e = .returned (.agg #[.int .i64 MN0, u]) ∧ Sl 0 3 w' u (ints WB) ∧ Below W'.heap.size W' w') := hMC
  clear hMD hMC
  have HG : Hid (Gx W0 (.agg #[.int .i64 (n : Int), .slice ao LN cap]) DN CL FL DB) := hG
  obtain ⟨tn, htn⟩ : ∃ tn : Nat, tn = 2 ^ n := ⟨_, rfl⟩
  have hti : (2 : Int) ^ n = (tn : Int) := by rw [htn]; simp
  have htl : tn ≤ 256 := by rw [htn]; exact show 2 ^ n ≤ 2 ^ 8 from Nat.pow_le_pow_right (by omega) hn8
  have hwt8 : IntKind.i64.wrap (tn : Int) = (tn : Int) := wrap_small (by omega)
  have qs0 : decide (s < 0) = true := decide_eq_true hs
  have qi0 : decide ((zi : Int) < 0) = false := decide_eq_false (by omega)
  have qi1 : decide ((n : Int) ≤ (zi : Int)) = false := decide_eq_false (by omega)
  have qi2 : decide (n ≤ zi) = false := decide_eq_false (by omega)
  clear htn
  go_wp2_with fail
  rw [← HWZ.out]
  clear d0 d1 HWZ
  refine (HG.out.circ wz (HLOW.out wz HX.out.bel)).mono ?_
  rintro e w3 ⟨cv, rfl, hs3, hb3⟩
  have HX3 : Hid (Sx w2.heap.size w2 w3 #[.int .i64 0, .slice none 0 0] #[.int .i64 0, .slice none 0 0] #[.int .i64 0, .slice none 0 0] [(cv, CL)]) := (HX.out.low hb3).add hs3
  obtain ⟨d0, d1, -⟩ := HC.out w3 (HLOW.out w3 HX3.out.bel)
  clear hs3 hb3 HX
  go_wp2_with fail
  refine (HG.out.flat w3 (HLOW.out w3 HX3.out.bel)).mono ?_
  rintro e w4 ⟨fv, rfl, hs4, hb4⟩
  have HX4 : Hid (Sx w2.heap.size w2 w4 #[.int .i64 0, .slice none 0 0] #[.int .i64 0, .slice none 0 0] #[.int .i64 0, .slice none 0 0] [(fv, FL), (cv, CL)]) := (HX3.out.low hb4).add hs4
  obtain ⟨d0, d1, -⟩ := HC.out w4 (HLOW.out w4 HX4.out.bel)
  clear hs4 hb4 HX3
  go_wp2_with fail
  refine (HG.out.dual w4 (HLOW.out w4 HX4.out.bel)).mono ?_
  rintro e w5 ⟨dv, rfl, hs5, hb5⟩
  have HX5 : Hid (Sx w2.heap.size w2 w5 #[.int .i64 0, .slice none 0 0] #[.int .i64 0, .slice none 0 0] #[.int .i64 0, .slice none 0 0] [(dv, DB), (fv, FL), (cv, CL)]) := (HX4.out.low hb5).add hs5
  obtain ⟨wS, hwS⟩ : ∃ wS, wS = (w5.setCell ⟨w2.heap.size, 0, none⟩ (.int .i64 DN)).setCell ⟨w2.heap.size, 1, none⟩ dv := ⟨_, rfl⟩
  have HXS : Hid (Sx w2.heap.size w2 wS #[.int .i64 DN, dv] #[.int .i64 0, .slice none 0 0] #[.int .i64 0, .slice none 0 0] [(dv, DB), (fv, FL), (cv, CL)]) := by rw [hwS]; exact HX5.out.set0 _ _
  have o0 : w5.cell? ⟨w2.heap.size, 0, none⟩ = some (.int .i64 0) := by have := HX5.out.b0; simp [World.cell?, this]
  have o1 : w5.cell? ⟨w2.heap.size, 1, none⟩ = some (.slice none 0 0) := by have := HX5.out.b0; simp [World.cell?, this]
  have o2 : w5.frozen? ⟨w2.heap.size, 0, none⟩ = false := by have := HX5.out.b0; simp [World.frozen?, this]
  have o3 : w5.frozen? ⟨w2.heap.size, 1, none⟩ = false := by have := HX5.out.b0; simp [World.frozen?, this]
  obtain ⟨do', dc, hdv, _, _⟩ := sl_open hs5
  subst hdv
  obtain ⟨d0, d1, -⟩ := HC.out wS (HLOW.out wS HXS.out.bel)
  rw [hwS] at d0 d1
  clear hs5 hb5 HX4 HX5
  go_wp2_with fail
  rw [← hwS]
  clear hwS d0 d1 o0 o1 o2 o3
  refine (HMD.out wS (HLOW.out wS HXS.out.bel)).mono ?_
  rintro e wL1 ⟨lv, rfl, hs6, hb6⟩
  have HX6 : Hid (Sx w2.heap.size w2 wL1 #[.int .i64 DN, (.slice do' DB.length dc)] #[.int .i64 0, .slice none 0 0] #[.int .i64 0, .slice none 0 0] [(lv, LB), ((.slice do' DB.length dc), DB), (fv, FL), (cv, CL)]) := (HXS.out.low hb6).add hs6
  obtain ⟨wT, hwT⟩ : ∃ wT, wT = (wL1.setCell ⟨w2.heap.size + 1, 0, none⟩ (.int .i64 MN0)).setCell ⟨w2.heap.size + 1, 1, none⟩ lv := ⟨_, rfl⟩
  have HXT : Hid (Sx w2.heap.size w2 wT #[.int .i64 DN, (.slice do' DB.length dc)] #[.int .i64 MN0, lv] #[.int .i64 0, .slice none 0 0] [(lv, LB), ((.slice do' DB.length dc), DB), (fv, FL), (cv, CL)]) := by rw [hwT]; exact HX6.out.set1 _ _
  have o0 : wL1.cell? ⟨w2.heap.size + 1, 0, none⟩ = some (.int .i64 0) := by have := HX6.out.b1; simp [World.cell?, this]
  have o1 : wL1.cell? ⟨w2.heap.size + 1, 1, none⟩ = some (.slice none 0 0) := by have := HX6.out.b1; simp [World.cell?, this]
  have o2 : wL1.frozen? ⟨w2.heap.size + 1, 0, none⟩ = false := by have := HX6.out.b1; simp [World.frozen?, this]
  have o3 : wL1.frozen? ⟨w2.heap.size + 1, 1, none⟩ = false := by have := HX6.out.b1; simp [World.frozen?, this]
  obtain ⟨lo', lc, hlv, _, _⟩ := sl_open hs6
  subst hlv
  obtain ⟨d0, d1, -⟩ := HC.out wT (HLOW.out wT HXT.out.bel)
  rw [hwT] at d0 d1
  clear hs6 hb6 HX6 HXS
  go_wp2_with fail
  rw [← hwT]
  clear hwT d0 d1 o0 o1 o2 o3
  refine (HMC.out wT (HLOW.out wT HXT.out.bel)).mono ?_
  rintro e wW1 ⟨wv, rfl, hs6, hb6⟩
  have HX6 : Hid (Sx w2.heap.size w2 wW1 #[.int .i64 DN, (.slice do' DB.length dc)] #[.int .i64 MN0, (.slice lo' LB.length lc)] #[.int .i64 0, .slice none 0 0] [(wv, WB), ((.slice lo' LB.length lc), LB), ((.slice do' DB.length dc), DB), (fv, FL), (cv, CL)]) := (HXT.out.low hb6).add hs6
  obtain ⟨wt, hwt⟩ : ∃ wt, wt = (wW1.setCell ⟨w2.heap.size + 1 + 1, 0, none⟩ (.int .i64 MN0)).setCell ⟨w2.heap.size + 1 + 1, 1, none⟩ wv := ⟨_, rfl⟩
  have HXU : Hid (Sx w2.heap.size w2 wt #[.int .i64 DN, (.slice do' DB.length dc)] #[.int .i64 MN0, (.slice lo' LB.length lc)] #[.int .i64 MN0, wv] [(wv, WB), ((.slice lo' LB.length lc), LB), ((.slice do' DB.length dc), DB), (fv, FL), (cv, CL)]) := by rw [hwt]; exact HX6.out.set2 _ _
  have k6 : wW1.heap[w2.heap.size + 1 + 1]? = some (.cells #[.int .i64 0, .slice none 0 0] 24 (0, 0)) := HX6.out.b2
  have o0 : wW1.cell? ⟨w2.heap.size + 1 + 1, 0, none⟩ = some (.int .i64 0) := by simp [World.cell?, k6]
  have o1 : wW1.cell? ⟨w2.heap.size + 1 + 1, 1, none⟩ = some (.slice none 0 0) := by simp [World.cell?, k6]
  have o2 : wW1.frozen? ⟨w2.heap.size + 1 + 1, 0, none⟩ = false := by simp [World.frozen?, k6]
  have o3 : wW1.frozen? ⟨w2.heap.size + 1 + 1, 1, none⟩ = false := by simp [World.frozen?, k6]
  obtain ⟨wo', wc, hwv, _, _⟩ := sl_open hs6
  subst hwv
  obtain ⟨d0, d1, -⟩ := HC.out wt (HLOW.out wt HXU.out.bel)
  rw [hwt] at d0 d1
  clear hs6 hb6 HX6 HXT k6
  go_wp2_with fail
  rw [← hwt]
  clear hwt d0 d1 o0 o1 o2 o3
  have HS : Hid (Sx w2.heap.size w2 wt #[.int .i64 DN, (.slice do' DB.length dc)] #[.int .i64 MN0, (.slice lo' LB.length lc)] #[.int .i64 MN0, (.slice wo' WB.length wc)] [((.slice do' DB.length dc), DB), ((.slice lo' LB.length lc), LB), ((.slice wo' WB.length wc), WB), (cv, CL), (fv, FL)]) :=
    ⟨HXU.out.bel, HXU.out.b0, HXU.out.b1, HXU.out.b2, fun p hp => HXU.out.sl p (by simp at hp ⊢; rcases hp with rfl | rfl | rfl | rfl | rfl <;> simp)⟩
  clear HXU
  refine (HF.out.rank wt (HLOW.out wt HS.out.bel)).mono ?_
  rintro e w7 ⟨rfl, hb7⟩
  have HS7 : Hid (Sx w2.heap.size w2 w7 #[.int .i64 DN, (.slice do' DB.length dc)] #[.int .i64 MN0, (.slice lo' LB.length lc)] #[.int .i64 MN0, (.slice wo' WB.length wc)] [((.slice do' DB.length dc), DB), ((.slice lo' LB.length lc), LB), ((.slice wo' WB.length wc), WB), (cv, CL), (fv, FL)]) := HS.out.low hb7
  obtain ⟨d0, d1, -⟩ := HC.out w7 (HLOW.out w7 HS7.out.bel)
  clear hb7 HS
  go_wp2_with fail
  refine (HF.out.circ w7 (HLOW.out w7 HS7.out.bel)).mono ?_
  rintro e w8 ⟨cu, rfl, hs8, hb8⟩
  have HS8 : Hid (Sx w2.heap.size w2 w8 #[.int .i64 DN, (.slice do' DB.length dc)] #[.int .i64 MN0, (.slice lo' LB.length lc)] #[.int .i64 MN0, (.slice wo' WB.length wc)] [(cu, CL), ((.slice do' DB.length dc), DB), ((.slice lo' LB.length lc), LB), ((.slice wo' WB.length wc), WB), (cv, CL), (fv, FL)]) := (HS7.out.low hb8).add hs8
  obtain ⟨d0, d1, -⟩ := HC.out w8 (HLOW.out w8 HS8.out.bel)
  clear hb8 hs8 HS7
  go_wp2_with fail
  refine (HF.out.flat w8 (HLOW.out w8 HS8.out.bel)).mono ?_
  rintro e w9 ⟨fu, rfl, hs9, hb9⟩
  have HS9 : Hid (Sx w2.heap.size w2 w9 #[.int .i64 DN, (.slice do' DB.length dc)] #[.int .i64 MN0, (.slice lo' LB.length lc)] #[.int .i64 MN0, (.slice wo' WB.length wc)] [(fu, FL), (cu, CL), ((.slice do' DB.length dc), DB), ((.slice lo' LB.length lc), LB), ((.slice wo' WB.length wc), WB), (cv, CL), (fv, FL)]) := (HS8.out.low hb9).add hs9
  clear hb9 hs9 HS8 d0 d1
  go_wp2_with fail
  refine (num_true 0 4 0 4 w9 rfl HF.out.hR (fun _ => rfl)).mono ?_
  rintro e w10 ⟨rfl, hw10⟩
  subst hw10
  go_wp2_with fail
  refine (listT_any CL 0 cu cv w10 (HS9.out.sl (cu, CL) (by simp)) (HS9.out.sl (cv, CL) (by simp)) (fun h => (HF.out.hE h).1)).mono ?_
  rintro e w11 ⟨rfl, hb11⟩
  have HS11 : Hid (Sx w2.heap.size w2 w11 #[.int .i64 DN, (.slice do' DB.length dc)] #[.int .i64 MN0, (.slice lo' LB.length lc)] #[.int .i64 MN0, (.slice wo' WB.length wc)] [(fu, FL), (cu, CL), ((.slice do' DB.length dc), DB), ((.slice lo' LB.length lc), LB), ((.slice wo' WB.length wc), WB), (cv, CL), (fv, FL)]) := HS9.out.low hb11
  clear hb11 HS9
  go_wp2_with fail
  refine (listT_any FL 0 fu fv w11 (HS11.out.sl (fu, FL) (by simp)) (HS11.out.sl (fv, FL) (by simp)) (fun h => (HF.out.hE h).2.1)).mono ?_
  rintro e w12 ⟨rfl, hb12⟩
  have HS12 : Hid (Sx w2.heap.size w2 w12 #[.int .i64 DN, (.slice do' DB.length dc)] #[.int .i64 MN0, (.slice lo' LB.length lc)] #[.int .i64 MN0, (.slice wo' WB.length wc)] [((.slice do' DB.length dc), DB), ((.slice lo' LB.length lc), LB), ((.slice wo' WB.length wc), WB)]) := by
    have h := HS11.out.low hb12
    exact ⟨h.bel, h.b0, h.b1, h.b2, fun p hp => h.sl p (by simp at hp ⊢; rcases hp with rfl | rfl | rfl <;> simp)⟩
  obtain ⟨d0, d1, -⟩ := HC.out w12 (HLOW.out w12 HS12.out.bel)
  clear hb12 HS11
  go_wp2_with fail
  refine (HF.out.dual w12 (HLOW.out w12 HS12.out.bel)).mono ?_
  rintro e w13 ⟨du0, rfl, hs13, hb13⟩
  obtain ⟨duo, duc, hduv, _, _⟩ := sl_open hs13
  (try simp only [List.length_nil] at hduv)
  subst hduv
  have HS13 : Hid (Sx w2.heap.size w2 w13 #[.int .i64 DN, (.slice do' DB.length dc)] #[.int .i64 MN0, (.slice lo' LB.length lc)] #[.int .i64 MN0, (.slice wo' WB.length wc)] [((.slice duo DB.length duc), DB), ((.slice do' DB.length dc), DB), ((.slice lo' LB.length lc), LB), ((.slice wo' WB.length wc), WB)]) := (HS12.out.low hb13).add hs13
  obtain ⟨wD, hwD⟩ : ∃ wD, wD = w13.alloc (.cells #[.int .i64 DN, (.slice duo DB.length duc)] 24) := ⟨_, rfl⟩
  have hbD : Below w13.heap.size w13 wD := by rw [hwD]; exact (Below.refl _ _).alloc (Nat.le_refl _) _
  have HSD : Hid (Sx w2.heap.size w2 wD #[.int .i64 DN, (.slice do' DB.length dc)] #[.int .i64 MN0, (.slice lo' LB.length lc)] #[.int .i64 MN0, (.slice wo' WB.length wc)] [((.slice duo DB.length duc), DB), ((.slice do' DB.length dc), DB), ((.slice lo' LB.length lc), LB), ((.slice wo' WB.length wc), WB)]) := HS13.out.low hbD
  have HD : Hid (wD.heap[w13.heap.size]? = some (.cells #[.int .i64 DN, (.slice duo DB.length duc)] 24 (0, 0))) := by rw [hwD]; exact heap_alloc_new w13 _
  obtain ⟨d0, d1, -⟩ := HC.out wD (HLOW.out wD HSD.out.bel)
  rw [hwD] at d0 d1
  clear hs13 hb13 hbD HS12 HS13
  go_wp2_with fail
  rw [← hwD]
  clear hwD d0 d1
  refine (HF.out.del wD (HLOW.out wD HSD.out.bel)).mono ?_
  rintro e w14 ⟨lu0, rfl, hs14, hb14⟩
  obtain ⟨luo, luc, hluv, _, _⟩ := sl_open hs14
  (try simp only [List.length_nil] at hluv)
  subst hluv
  have HS14 : Hid (Sx w2.heap.size w2 w14 #[.int .i64 DN, (.slice do' DB.length dc)] #[.int .i64 MN0, (.slice lo' LB.length lc)] #[.int .i64 MN0, (.slice wo' WB.length wc)] [((.slice luo LB.length luc), LB), ((.slice duo DB.length duc), DB), ((.slice do' DB.length dc), DB), ((.slice lo' LB.length lc), LB), ((.slice wo' WB.length wc), WB)]) := (HSD.out.low hb14).add hs14
  have HD14 : Hid (w14.heap[w13.heap.size]? = some (.cells #[.int .i64 DN, (.slice duo DB.length duc)] 24 (0, 0))) := (hb14.block _ (Array.getElem?_eq_some_iff.1 HD.out).1).trans HD.out
  obtain ⟨wL, hwL⟩ : ∃ wL, wL = w14.alloc (.cells #[.int .i64 MN0, (.slice luo LB.length luc)] 24) := ⟨_, rfl⟩
  have hbL : Below w14.heap.size w14 wL := by rw [hwL]; exact (Below.refl _ _).alloc (Nat.le_refl _) _
  have HSL : Hid (Sx w2.heap.size w2 wL #[.int .i64 DN, (.slice do' DB.length dc)] #[.int .i64 MN0, (.slice lo' LB.length lc)] #[.int .i64 MN0, (.slice wo' WB.length wc)] [((.slice luo LB.length luc), LB), ((.slice duo DB.length duc), DB), ((.slice do' DB.length dc), DB), ((.slice lo' LB.length lc), LB), ((.slice wo' WB.length wc), WB)]) := HS14.out.low hbL
  have HDL : Hid (wL.heap[w13.heap.size]? = some (.cells #[.int .i64 DN, (.slice duo DB.length duc)] 24 (0, 0))) := (hbL.block _ (Array.getElem?_eq_some_iff.1 HD14.out).1).trans HD14.out
  have HL : Hid (wL.heap[w14.heap.size]? = some (.cells #[.int .i64 MN0, (.slice luo LB.length luc)] 24 (0, 0))) := by rw [hwL]; exact heap_alloc_new w14 _
  obtain ⟨d0, d1, -⟩ := HC.out wL (HLOW.out wL HSL.out.bel)
  rw [hwL] at d0 d1
  clear hs14 hb14 hbL HSD HD HS14 HD14
  go_wp2_with fail
  rw [← hwL]
  clear hwL d0 d1
  refine (HF.out.con wL (HLOW.out wL HSL.out.bel)).mono ?_
  rintro e w15 ⟨xu0, rfl, hs15, hb15⟩
  obtain ⟨xuo, xuc, hxuv, _, _⟩ := sl_open hs15
  (try simp only [List.length_nil] at hxuv)
  subst hxuv
  have HS15 : Hid (Sx w2.heap.size w2 w15 #[.int .i64 DN, (.slice do' DB.length dc)] #[.int .i64 MN0, (.slice lo' LB.length lc)] #[.int .i64 MN0, (.slice wo' WB.length wc)] [((.slice xuo WB.length xuc), WB), ((.slice luo LB.length luc), LB), ((.slice duo DB.length duc), DB), ((.slice do' DB.length dc), DB), ((.slice lo' LB.length lc), LB), ((.slice wo' WB.length wc), WB)]) := (HSL.out.low hb15).add hs15
  have HD15 : Hid (w15.heap[w13.heap.size]? = some (.cells #[.int .i64 DN, (.slice duo DB.length duc)] 24 (0, 0))) := (hb15.block _ (Array.getElem?_eq_some_iff.1 HDL.out).1).trans HDL.out
  have HL15 : Hid (w15.heap[w14.heap.size]? = some (.cells #[.int .i64 MN0, (.slice luo LB.length luc)] 24 (0, 0))) := (hb15.block _ (Array.getElem?_eq_some_iff.1 HL.out).1).trans HL.out
  obtain ⟨wX, hwX⟩ : ∃ wX, wX = w15.alloc (.cells #[.int .i64 MN0, (.slice xuo WB.length xuc)] 24) := ⟨_, rfl⟩
  have hbX : Below w15.heap.size w15 wX := by rw [hwX]; exact (Below.refl _ _).alloc (Nat.le_refl _) _
  have HSX : Hid (Sx w2.heap.size w2 wX #[.int .i64 DN, (.slice do' DB.length dc)] #[.int .i64 MN0, (.slice lo' LB.length lc)] #[.int .i64 MN0, (.slice wo' WB.length wc)] [((.slice xuo WB.length xuc), WB), ((.slice luo LB.length luc), LB), ((.slice duo DB.length duc), DB), ((.slice do' DB.length dc), DB), ((.slice lo' LB.length lc), LB), ((.slice wo' WB.length wc), WB)]) := HS15.out.low hbX
  have HDX : Hid (wX.heap[w13.heap.size]? = some (.cells #[.int .i64 DN, (.slice duo DB.length duc)] 24 (0, 0))) := (hbX.block _ (Array.getElem?_eq_some_iff.1 HD15.out).1).trans HD15.out
  have HLX : Hid (wX.heap[w14.heap.size]? = some (.cells #[.int .i64 MN0, (.slice luo LB.length luc)] 24 (0, 0))) := (hbX.block _ (Array.getElem?_eq_some_iff.1 HL15.out).1).trans HL15.out
  have HXX : Hid (wX.heap[w15.heap.size]? = some (.cells #[.int .i64 MN0, (.slice xuo WB.length xuc)] 24 (0, 0))) := by rw [hwX]; exact heap_alloc_new w15 _
  have HQ : Hid (∀ W', Below wX.heap.size wX W' → (W'.cell? ⟨w13.heap.size, 0, none⟩ = some (.int .i64 DN) ∧ W'.cell? ⟨w13.heap.size, 1, none⟩ = some (.slice duo DB.length duc)) ∧ (W'.cell? ⟨w14.heap.size, 0, none⟩ = some (.int .i64 MN0) ∧ W'.cell? ⟨w14.heap.size, 1, none⟩ = some (.slice luo LB.length luc)) ∧ (W'.cell? ⟨w15.heap.size, 0, none⟩ = some (.int .i64 MN0) ∧ W'.cell? ⟨w15.heap.size, 1, none⟩ = some (.slice xuo WB.length xuc)) ∧
      (W'.cell? ⟨w2.heap.size, 0, none⟩ = some (.int .i64 DN) ∧ W'.cell? ⟨w2.heap.size, 1, none⟩ = some (.slice do' DB.length dc)) ∧ (W'.cell? ⟨w2.heap.size + 1, 0, none⟩ = some (.int .i64 MN0) ∧ W'.cell? ⟨w2.heap.size + 1, 1, none⟩ = some (.slice lo' LB.length lc)) ∧ (W'.cell? ⟨w2.heap.size + 1 + 1, 0, none⟩ = some (.int .i64 MN0) ∧ W'.cell? ⟨w2.heap.size + 1 + 1, 1, none⟩ = some (.slice wo' WB.length wc)) ∧
      Sx w2.heap.size w2 W' #[.int .i64 DN, (.slice do' DB.length dc)] #[.int .i64 MN0, (.slice lo' LB.length lc)] #[.int .i64 MN0, (.slice wo' WB.length wc)] [((.slice xuo WB.length xuc), WB), ((.slice luo LB.length luc), LB), ((.slice duo DB.length duc), DB), ((.slice do' DB.length dc), DB), ((.slice lo' LB.length lc), LB), ((.slice wo' WB.length wc), WB)]) := fun W' h => by
    have hX := HSX.out.low h
    have k1 := (h.block _ (Array.getElem?_eq_some_iff.1 HDX.out).1).trans HDX.out
    have k2 := (h.block _ (Array.getElem?_eq_some_iff.1 HLX.out).1).trans HLX.out
    have k3 := (h.block _ (Array.getElem?_eq_some_iff.1 HXX.out).1).trans HXX.out
    have k4 := hX.b0
    have k5 := hX.b1
    have k6 : W'.heap[w2.heap.size + 1 + 1]? = some (.cells #[.int .i64 MN0, (.slice wo' WB.length wc)] 24 (0, 0)) := hX.b2
    exact ⟨⟨by simp [World.cell?, k1], by simp [World.cell?, k1]⟩, ⟨by simp [World.cell?, k2], by simp [World.cell?, k2]⟩, ⟨by simp [World.cell?, k3], by simp [World.cell?, k3]⟩, ⟨by simp [World.cell?, k4], by simp [World.cell?, k4]⟩, ⟨by simp [World.cell?, k5], by simp [World.cell?, k5]⟩, ⟨by simp [World.cell?, k6], by simp [World.cell?, k6]⟩, hX⟩
  obtain ⟨⟨p0, p1⟩, -, -, ⟨p2, p3⟩, -, -, -⟩ := HQ.out wX (Below.refl _ _)
  rw [hwX] at p0 p1 p2 p3
  clear hs15 hb15 hbX HSL HDL HL HS15 HD15 HL15 HDX HLX HXX
  go_wp2_with fail
  rw [← hwX]
  clear hwX p0 p1 p2 p3
  refine (sameT_any DB DN 0 (.slice duo DB.length duc) (.slice do' DB.length dc) wX (HSX.out.sl ((.slice duo DB.length duc), DB) (by simp)) (HSX.out.sl ((.slice do' DB.length dc), DB) (by simp)) (fun h => ⟨(HF.out.hE h).2.2.1, (HF.out.hE h).2.2.2⟩)).mono ?_
  rintro e w16 ⟨rfl, hb16⟩
  have HB16 : Hid (Below wX.heap.size wX w16) := hb16
  obtain ⟨-, ⟨p0, p1⟩, -, -, ⟨p2, p3⟩, -, hX16⟩ := HQ.out w16 hb16
  have HX16 : Hid (Sx w2.heap.size w2 w16 #[.int .i64 DN, (.slice do' DB.length dc)] #[.int .i64 MN0, (.slice lo' LB.length lc)] #[.int .i64 MN0, (.slice wo' WB.length wc)] [((.slice xuo WB.length xuc), WB), ((.slice luo LB.length luc), LB), ((.slice duo DB.length duc), DB), ((.slice do' DB.length dc), DB), ((.slice lo' LB.length lc), LB), ((.slice wo' WB.length wc), WB)]) := hX16
  clear hb16 hX16
  go_wp2_with fail
  refine (sameT_any LB MN0 0 (.slice luo LB.length luc) (.slice lo' LB.length lc) w16 (HX16.out.sl ((.slice luo LB.length luc), LB) (by simp)) (HX16.out.sl ((.slice lo' LB.length lc), LB) (by simp)) (fun h => ⟨(HF.out.hT h).1, (HF.out.hT h).2.1⟩)).mono ?_
  rintro e w17 ⟨rfl, hb17⟩
  have HB17 : Hid (Below wX.heap.size wX w17) := HB16.out.trans (hb17.mono HB16.out.size)
  obtain ⟨-, -, ⟨p4, p5⟩, -, -, ⟨p6, p7⟩, hX17⟩ := HQ.out w17 HB17.out
  have HX17 : Hid (Sx w2.heap.size w2 w17 #[.int .i64 DN, (.slice do' DB.length dc)] #[.int .i64 MN0, (.slice lo' LB.length lc)] #[.int .i64 MN0, (.slice wo' WB.length wc)] [((.slice xuo WB.length xuc), WB), ((.slice luo LB.length luc), LB), ((.slice duo DB.length duc), DB), ((.slice do' DB.length dc), DB), ((.slice lo' LB.length lc), LB), ((.slice wo' WB.length wc), WB)]) := hX17
  clear hb17 hX17 p0 p1 p2 p3
  go_wp2_with fail
  refine (sameT_any WB MN0 0 (.slice xuo WB.length xuc) (.slice wo' WB.length wc) w17 (HX17.out.sl ((.slice xuo WB.length xuc), WB) (by simp)) (HX17.out.sl ((.slice wo' WB.length wc), WB) (by simp)) (fun h => ⟨(HF.out.hT h).1, (HF.out.hT h).2.2⟩)).mono ?_
  rintro e w18 ⟨rfl, hb18⟩
  have HB18 : Hid (Below w.heap.size w w18) := by
    have h1 := HX17.out.low hb18
    exact (HC.out w18 (HLOW.out w18 h1.bel)).2.2
  clear hb18
  go_wp2
  go_ret
  exact ⟨rfl, HB18.out⟩

end Go.Proofs.YtehklbekaflokaaDoor

/- MatroidSays: the walk (big, neg). -/
namespace Go.Proofs.YtehklbekaflokaaDoor
open Go.RowKit
attribute [local go_sem ↓] Go.wp_at_zero Go.wp_at_succ

set_option maxRecDepth 100000 in
set_option maxHeartbeats 8000000 in
theorem says_big_neg (n : Nat) (DN : Int) (s i : Int) (CL FL DB : List Int) (ao : Option Addr) (LN cap : Nat) (w W0 : World) (hW : W0 = w.alloc (.cells #[.int .i64 (n : Int), .slice ao LN cap] 24)) (hF : Fx W0 (.agg #[.int .i64 (n : Int), .slice ao LN cap]) s i 0 0 4 9 0 DN CL FL DB [] []) (hln : LN ≤ 300) (hn8 : n ≤ 8) (hG : Gx W0 (.agg #[.int .i64 (n : Int), .slice ao LN cap]) DN CL FL DB) (hs0 : 0 ≤ s) (hs : (2 : Int) ^ n ≤ s) (hi : i < 0) :
    Calls Tryd.prog 3 #[.agg #[.int .i64 (n : Int), .slice ao LN cap], .int .i64 s, .int .i64 i] w fun e w' => e = .returned (.bool true) ∧ Below w.heap.size w w' := by
  have HF : Hid (Fx W0 (.agg #[.int .i64 (n : Int), .slice ao LN cap]) s i 0 0 4 9 0 DN CL FL DB [] []) := hF
  have HBA : Hid (Below w.heap.size w W0) := by rw [hW]; exact (Below.refl _ _).alloc (Nat.le_refl _) _
  have a0 : W0.heap[w.heap.size]? = some (.cells #[.int .i64 (n : Int), .slice ao LN cap] 24 (0, 0)) := by rw [hW]; exact heap_alloc_new w _
  have HSW : Hid (W0.heap.size = w.heap.size + 1) := by rw [hW]; show _ = _; simp
  have HC : Hid (∀ W', Below W0.heap.size W0 W' → W'.cell? ⟨w.heap.size, 0, none⟩ = some (.int .i64 (n : Int)) ∧ W'.cell? ⟨w.heap.size, 1, none⟩ = some (.slice ao LN cap) ∧ Below w.heap.size w W') := fun W' h => by
    have := (h.block _ (by rw [HSW.out]; omega)).trans a0
    exact ⟨by simp [World.cell?, this], by simp [World.cell?, this], HBA.out.trans (h.mono HBA.out.size)⟩
  have b300 : decide ((300 : Int) < (LN : Int)) = false := decide_eq_false (by omega)
  have bEE : (0 != 0) = false := by simp
  obtain ⟨d0, d1, -⟩ := HC.out W0 (Below.refl _ _)
  have hW' := hW
  rw [hW] at d0 d1
  clear hF a0
  go_enter Tryd.func3, Tryd.ntmps3
  go_wp2_with fail
  rw [← hW]
  clear d0 d1 hW hW'
  refine (HF.out.may W0 (Below.refl _ _)).mono ?_
  rintro e w1 ⟨rfl, hb1⟩
  have HB1 : Hid (Below W0.heap.size W0 w1) := hb1
  obtain ⟨d0, d1, -⟩ := HC.out w1 hb1
  clear hb1
  go_wp2_with fail
  refine (HF.out.chk w1 HB1.out).mono ?_
  rintro e w2 ⟨rfl, hb2⟩
  have HB2 : Hid (Below W0.heap.size W0 w2) := HB1.out.trans (hb2.mono HB1.out.size)
  clear hb2 d0 d1 HB1
  obtain ⟨wx, hwx⟩ : ∃ wx, wx = w2.alloc (.cells #[.int .i64 0, .slice none 0 0] 24) := ⟨_, rfl⟩
  obtain ⟨wy, hwy⟩ : ∃ wy, wy = wx.alloc (.cells #[.int .i64 0, .slice none 0 0] 24) := ⟨_, rfl⟩
  obtain ⟨wz, hwz⟩ : ∃ wz, wz = wy.alloc (.cells #[.int .i64 0, .slice none 0 0] 24) := ⟨_, rfl⟩
  have sx : wx.heap.size = w2.heap.size + 1 := by rw [hwx]; simp
  have sy : wy.heap.size = w2.heap.size + 2 := by rw [hwy]; simp [sx]
  have HX : Hid (Sx w2.heap.size w2 wz #[.int .i64 0, .slice none 0 0] #[.int .i64 0, .slice none 0 0] #[.int .i64 0, .slice none 0 0] []) := by
    refine ⟨?_, ?_, ?_, ?_, fun p hp => by simp at hp⟩
    · rw [hwz, hwy, hwx]; exact (((Below.refl _ _).alloc (Nat.le_refl _) _).alloc (by simp) _).alloc (by simp; omega) _
    · rw [hwz]; refine (Below.heap_alloc _ _ _ (by omega)).trans ?_
      rw [hwy]; refine (Below.heap_alloc _ _ _ (by omega)).trans ?_
      rw [hwx]; exact heap_alloc_new w2 _
    · rw [hwz]; refine (Below.heap_alloc _ _ _ (by omega)).trans ?_
      rw [hwy, ← sx]; exact heap_alloc_new wx _
    · rw [hwz, ← sy]; exact heap_alloc_new wy _
  have HWZ : Hid (wz = ((w2.alloc (.cells #[.int .i64 0, .slice none 0 0] 24)).alloc (.cells #[.int .i64 0, .slice none 0 0] 24)).alloc (.cells #[.int .i64 0, .slice none 0 0] 24)) := by rw [hwz, hwy, hwx]; rfl
  have HLOW : Hid (∀ W', Below w2.heap.size w2 W' → Below W0.heap.size W0 W') := fun W' h => HB2.out.trans (h.mono HB2.out.size)
  clear hwx hwy hwz sx sy
  obtain ⟨d0, d1, -⟩ := HC.out wz (HLOW.out wz HX.out.bel)
  rw [HWZ.out] at d0 d1
  have HG : Hid (Gx W0 (.agg #[.int .i64 (n : Int), .slice ao LN cap]) DN CL FL DB) := hG
  obtain ⟨tn, htn⟩ : ∃ tn : Nat, tn = 2 ^ n := ⟨_, rfl⟩
  have hti : (2 : Int) ^ n = (tn : Int) := by rw [htn]; simp
  have htl : tn ≤ 256 := by rw [htn]; exact show 2 ^ n ≤ 2 ^ 8 from Nat.pow_le_pow_right (by omega) hn8
  have hwt8 : IntKind.i64.wrap (tn : Int) = (tn : Int) := wrap_small (by omega)
  have qs0 : decide (s < 0) = false := decide_eq_false (by omega)
  have qs1 : decide ((tn : Int) ≤ s) = true := decide_eq_true (by omega)
  have qi0 : decide (i < 0) = true := decide_eq_true hi
  clear htn
  go_wp2_with fail
  rw [← HWZ.out]
  clear d0 d1 HWZ
  refine (HG.out.circ wz (HLOW.out wz HX.out.bel)).mono ?_
  rintro e w3 ⟨cv, rfl, hs3, hb3⟩
  have HX3 : Hid (Sx w2.heap.size w2 w3 #[.int .i64 0, .slice none 0 0] #[.int .i64 0, .slice none 0 0] #[.int .i64 0, .slice none 0 0] [(cv, CL)]) := (HX.out.low hb3).add hs3
  obtain ⟨d0, d1, -⟩ := HC.out w3 (HLOW.out w3 HX3.out.bel)
  clear hs3 hb3 HX
  go_wp2_with fail
  refine (HG.out.flat w3 (HLOW.out w3 HX3.out.bel)).mono ?_
  rintro e w4 ⟨fv, rfl, hs4, hb4⟩
  have HX4 : Hid (Sx w2.heap.size w2 w4 #[.int .i64 0, .slice none 0 0] #[.int .i64 0, .slice none 0 0] #[.int .i64 0, .slice none 0 0] [(fv, FL), (cv, CL)]) := (HX3.out.low hb4).add hs4
  obtain ⟨d0, d1, -⟩ := HC.out w4 (HLOW.out w4 HX4.out.bel)
  clear hs4 hb4 HX3
  go_wp2_with fail
  refine (HG.out.dual w4 (HLOW.out w4 HX4.out.bel)).mono ?_
  rintro e w5 ⟨dv, rfl, hs5, hb5⟩
  have HX5 : Hid (Sx w2.heap.size w2 w5 #[.int .i64 0, .slice none 0 0] #[.int .i64 0, .slice none 0 0] #[.int .i64 0, .slice none 0 0] [(dv, DB), (fv, FL), (cv, CL)]) := (HX4.out.low hb5).add hs5
  obtain ⟨wS, hwS⟩ : ∃ wS, wS = (w5.setCell ⟨w2.heap.size, 0, none⟩ (.int .i64 DN)).setCell ⟨w2.heap.size, 1, none⟩ dv := ⟨_, rfl⟩
  have HXS : Hid (Sx w2.heap.size w2 wS #[.int .i64 DN, dv] #[.int .i64 0, .slice none 0 0] #[.int .i64 0, .slice none 0 0] [(dv, DB), (fv, FL), (cv, CL)]) := by rw [hwS]; exact HX5.out.set0 _ _
  have o0 : w5.cell? ⟨w2.heap.size, 0, none⟩ = some (.int .i64 0) := by have := HX5.out.b0; simp [World.cell?, this]
  have o1 : w5.cell? ⟨w2.heap.size, 1, none⟩ = some (.slice none 0 0) := by have := HX5.out.b0; simp [World.cell?, this]
  have o2 : w5.frozen? ⟨w2.heap.size, 0, none⟩ = false := by have := HX5.out.b0; simp [World.frozen?, this]
  have o3 : w5.frozen? ⟨w2.heap.size, 1, none⟩ = false := by have := HX5.out.b0; simp [World.frozen?, this]
  obtain ⟨do', dc, hdv, _, _⟩ := sl_open hs5
  subst hdv
  obtain ⟨d0, d1, -⟩ := HC.out wS (HLOW.out wS HXS.out.bel)
  rw [hwS] at d0 d1
  clear hs5 hb5 HX4 HX5
  go_wp2_with fail
  rw [← hwS]
  clear hwS d0 d1 o0 o1 o2 o3
  obtain ⟨wt, hwt⟩ : ∃ wt, wt = wS := ⟨_, rfl⟩
  rw [← hwt]
  have HS : Hid (Sx w2.heap.size w2 wt #[.int .i64 DN, (.slice do' DB.length dc)] #[.int .i64 0, .slice none 0 0] #[.int .i64 0, .slice none 0 0] [((.slice do' DB.length dc), DB), (.slice none 0 0, []), (.slice none 0 0, []), (cv, CL), (fv, FL)]) := by
    rw [hwt]
    have h := (HXS.out.add (v := .slice none 0 0) (xs := []) (Sl.nil _ _ _)).add (v := .slice none 0 0) (xs := []) (Sl.nil _ _ _)
    exact ⟨h.bel, h.b0, h.b1, h.b2, fun p hp => h.sl p (by simp at hp ⊢; rcases hp with rfl | rfl | rfl | rfl <;> simp)⟩
  clear hwt HXS
  refine (HF.out.rank wt (HLOW.out wt HS.out.bel)).mono ?_
  rintro e w7 ⟨rfl, hb7⟩
  have HS7 : Hid (Sx w2.heap.size w2 w7 #[.int .i64 DN, (.slice do' DB.length dc)] #[.int .i64 0, (.slice none 0 0)] #[.int .i64 0, (.slice none 0 0)] [((.slice do' DB.length dc), DB), ((.slice none 0 0), []), ((.slice none 0 0), []), (cv, CL), (fv, FL)]) := HS.out.low hb7
  obtain ⟨d0, d1, -⟩ := HC.out w7 (HLOW.out w7 HS7.out.bel)
  clear hb7 HS
  go_wp2_with fail
  refine (HF.out.circ w7 (HLOW.out w7 HS7.out.bel)).mono ?_
  rintro e w8 ⟨cu, rfl, hs8, hb8⟩
  have HS8 : Hid (Sx w2.heap.size w2 w8 #[.int .i64 DN, (.slice do' DB.length dc)] #[.int .i64 0, (.slice none 0 0)] #[.int .i64 0, (.slice none 0 0)] [(cu, CL), ((.slice do' DB.length dc), DB), ((.slice none 0 0), []), ((.slice none 0 0), []), (cv, CL), (fv, FL)]) := (HS7.out.low hb8).add hs8
  obtain ⟨d0, d1, -⟩ := HC.out w8 (HLOW.out w8 HS8.out.bel)
  clear hb8 hs8 HS7
  go_wp2_with fail
  refine (HF.out.flat w8 (HLOW.out w8 HS8.out.bel)).mono ?_
  rintro e w9 ⟨fu, rfl, hs9, hb9⟩
  have HS9 : Hid (Sx w2.heap.size w2 w9 #[.int .i64 DN, (.slice do' DB.length dc)] #[.int .i64 0, (.slice none 0 0)] #[.int .i64 0, (.slice none 0 0)] [(fu, FL), (cu, CL), ((.slice do' DB.length dc), DB), ((.slice none 0 0), []), ((.slice none 0 0), []), (cv, CL), (fv, FL)]) := (HS8.out.low hb9).add hs9
  clear hb9 hs9 HS8 d0 d1
  go_wp2_with fail
  refine (num_true 0 4 0 4 w9 rfl HF.out.hR (fun _ => rfl)).mono ?_
  rintro e w10 ⟨rfl, hw10⟩
  subst hw10
  go_wp2_with fail
  refine (listT_any CL 0 cu cv w10 (HS9.out.sl (cu, CL) (by simp)) (HS9.out.sl (cv, CL) (by simp)) (fun h => (HF.out.hE h).1)).mono ?_
  rintro e w11 ⟨rfl, hb11⟩
  have HS11 : Hid (Sx w2.heap.size w2 w11 #[.int .i64 DN, (.slice do' DB.length dc)] #[.int .i64 0, (.slice none 0 0)] #[.int .i64 0, (.slice none 0 0)] [(fu, FL), (cu, CL), ((.slice do' DB.length dc), DB), ((.slice none 0 0), []), ((.slice none 0 0), []), (cv, CL), (fv, FL)]) := HS9.out.low hb11
  clear hb11 HS9
  go_wp2_with fail
  refine (listT_any FL 0 fu fv w11 (HS11.out.sl (fu, FL) (by simp)) (HS11.out.sl (fv, FL) (by simp)) (fun h => (HF.out.hE h).2.1)).mono ?_
  rintro e w12 ⟨rfl, hb12⟩
  have HS12 : Hid (Sx w2.heap.size w2 w12 #[.int .i64 DN, (.slice do' DB.length dc)] #[.int .i64 0, (.slice none 0 0)] #[.int .i64 0, (.slice none 0 0)] [((.slice do' DB.length dc), DB), ((.slice none 0 0), []), ((.slice none 0 0), [])]) := by
    have h := HS11.out.low hb12
    exact ⟨h.bel, h.b0, h.b1, h.b2, fun p hp => h.sl p (by simp at hp ⊢; rcases hp with rfl | rfl | rfl <;> simp)⟩
  obtain ⟨d0, d1, -⟩ := HC.out w12 (HLOW.out w12 HS12.out.bel)
  clear hb12 HS11
  go_wp2_with fail
  refine (HF.out.dual w12 (HLOW.out w12 HS12.out.bel)).mono ?_
  rintro e w13 ⟨du0, rfl, hs13, hb13⟩
  obtain ⟨duo, duc, hduv, _, _⟩ := sl_open hs13
  (try simp only [List.length_nil] at hduv)
  subst hduv
  have HS13 : Hid (Sx w2.heap.size w2 w13 #[.int .i64 DN, (.slice do' DB.length dc)] #[.int .i64 0, (.slice none 0 0)] #[.int .i64 0, (.slice none 0 0)] [((.slice duo DB.length duc), DB), ((.slice do' DB.length dc), DB), ((.slice none 0 0), []), ((.slice none 0 0), [])]) := (HS12.out.low hb13).add hs13
  obtain ⟨wD, hwD⟩ : ∃ wD, wD = w13.alloc (.cells #[.int .i64 DN, (.slice duo DB.length duc)] 24) := ⟨_, rfl⟩
  have hbD : Below w13.heap.size w13 wD := by rw [hwD]; exact (Below.refl _ _).alloc (Nat.le_refl _) _
  have HSD : Hid (Sx w2.heap.size w2 wD #[.int .i64 DN, (.slice do' DB.length dc)] #[.int .i64 0, (.slice none 0 0)] #[.int .i64 0, (.slice none 0 0)] [((.slice duo DB.length duc), DB), ((.slice do' DB.length dc), DB), ((.slice none 0 0), []), ((.slice none 0 0), [])]) := HS13.out.low hbD
  have HD : Hid (wD.heap[w13.heap.size]? = some (.cells #[.int .i64 DN, (.slice duo DB.length duc)] 24 (0, 0))) := by rw [hwD]; exact heap_alloc_new w13 _
  obtain ⟨d0, d1, -⟩ := HC.out wD (HLOW.out wD HSD.out.bel)
  rw [hwD] at d0 d1
  clear hs13 hb13 hbD HS12 HS13
  go_wp2_with fail
  rw [← hwD]
  clear hwD d0 d1
  refine (HF.out.del wD (HLOW.out wD HSD.out.bel)).mono ?_
  rintro e w14 ⟨lu0, rfl, hs14, hb14⟩
  obtain ⟨luo, luc, hluv, _, _⟩ := sl_open hs14
  (try simp only [List.length_nil] at hluv)
  subst hluv
  have HS14 : Hid (Sx w2.heap.size w2 w14 #[.int .i64 DN, (.slice do' DB.length dc)] #[.int .i64 0, (.slice none 0 0)] #[.int .i64 0, (.slice none 0 0)] [((.slice luo 0 luc), []), ((.slice duo DB.length duc), DB), ((.slice do' DB.length dc), DB), ((.slice none 0 0), []), ((.slice none 0 0), [])]) := (HSD.out.low hb14).add hs14
  have HD14 : Hid (w14.heap[w13.heap.size]? = some (.cells #[.int .i64 DN, (.slice duo DB.length duc)] 24 (0, 0))) := (hb14.block _ (Array.getElem?_eq_some_iff.1 HD.out).1).trans HD.out
  obtain ⟨wL, hwL⟩ : ∃ wL, wL = w14.alloc (.cells #[.int .i64 0, (.slice luo 0 luc)] 24) := ⟨_, rfl⟩
  have hbL : Below w14.heap.size w14 wL := by rw [hwL]; exact (Below.refl _ _).alloc (Nat.le_refl _) _
  have HSL : Hid (Sx w2.heap.size w2 wL #[.int .i64 DN, (.slice do' DB.length dc)] #[.int .i64 0, (.slice none 0 0)] #[.int .i64 0, (.slice none 0 0)] [((.slice luo 0 luc), []), ((.slice duo DB.length duc), DB), ((.slice do' DB.length dc), DB), ((.slice none 0 0), []), ((.slice none 0 0), [])]) := HS14.out.low hbL
  have HDL : Hid (wL.heap[w13.heap.size]? = some (.cells #[.int .i64 DN, (.slice duo DB.length duc)] 24 (0, 0))) := (hbL.block _ (Array.getElem?_eq_some_iff.1 HD14.out).1).trans HD14.out
  have HL : Hid (wL.heap[w14.heap.size]? = some (.cells #[.int .i64 0, (.slice luo 0 luc)] 24 (0, 0))) := by rw [hwL]; exact heap_alloc_new w14 _
  obtain ⟨d0, d1, -⟩ := HC.out wL (HLOW.out wL HSL.out.bel)
  rw [hwL] at d0 d1
  clear hs14 hb14 hbL HSD HD HS14 HD14
  go_wp2_with fail
  rw [← hwL]
  clear hwL d0 d1
  refine (HF.out.con wL (HLOW.out wL HSL.out.bel)).mono ?_
  rintro e w15 ⟨xu0, rfl, hs15, hb15⟩
  obtain ⟨xuo, xuc, hxuv, _, _⟩ := sl_open hs15
  (try simp only [List.length_nil] at hxuv)
  subst hxuv
  have HS15 : Hid (Sx w2.heap.size w2 w15 #[.int .i64 DN, (.slice do' DB.length dc)] #[.int .i64 0, (.slice none 0 0)] #[.int .i64 0, (.slice none 0 0)] [((.slice xuo 0 xuc), []), ((.slice luo 0 luc), []), ((.slice duo DB.length duc), DB), ((.slice do' DB.length dc), DB), ((.slice none 0 0), []), ((.slice none 0 0), [])]) := (HSL.out.low hb15).add hs15
  have HD15 : Hid (w15.heap[w13.heap.size]? = some (.cells #[.int .i64 DN, (.slice duo DB.length duc)] 24 (0, 0))) := (hb15.block _ (Array.getElem?_eq_some_iff.1 HDL.out).1).trans HDL.out
  have HL15 : Hid (w15.heap[w14.heap.size]? = some (.cells #[.int .i64 0, (.slice luo 0 luc)] 24 (0, 0))) := (hb15.block _ (Array.getElem?_eq_some_iff.1 HL.out).1).trans HL.out
  obtain ⟨wX, hwX⟩ : ∃ wX, wX = w15.alloc (.cells #[.int .i64 0, (.slice xuo 0 xuc)] 24) := ⟨_, rfl⟩
  have hbX : Below w15.heap.size w15 wX := by rw [hwX]; exact (Below.refl _ _).alloc (Nat.le_refl _) _
  have HSX : Hid (Sx w2.heap.size w2 wX #[.int .i64 DN, (.slice do' DB.length dc)] #[.int .i64 0, (.slice none 0 0)] #[.int .i64 0, (.slice none 0 0)] [((.slice xuo 0 xuc), []), ((.slice luo 0 luc), []), ((.slice duo DB.length duc), DB), ((.slice do' DB.length dc), DB), ((.slice none 0 0), []), ((.slice none 0 0), [])]) := HS15.out.low hbX
  have HDX : Hid (wX.heap[w13.heap.size]? = some (.cells #[.int .i64 DN, (.slice duo DB.length duc)] 24 (0, 0))) := (hbX.block _ (Array.getElem?_eq_some_iff.1 HD15.out).1).trans HD15.out
  have HLX : Hid (wX.heap[w14.heap.size]? = some (.cells #[.int .i64 0, (.slice luo 0 luc)] 24 (0, 0))) := (hbX.block _ (Array.getElem?_eq_some_iff.1 HL15.out).1).trans HL15.out
  have HXX : Hid (wX.heap[w15.heap.size]? = some (.cells #[.int .i64 0, (.slice xuo 0 xuc)] 24 (0, 0))) := by rw [hwX]; exact heap_alloc_new w15 _
  have HQ : Hid (∀ W', Below wX.heap.size wX W' → (W'.cell? ⟨w13.heap.size, 0, none⟩ = some (.int .i64 DN) ∧ W'.cell? ⟨w13.heap.size, 1, none⟩ = some (.slice duo DB.length duc)) ∧ (W'.cell? ⟨w14.heap.size, 0, none⟩ = some (.int .i64 0) ∧ W'.cell? ⟨w14.heap.size, 1, none⟩ = some (.slice luo 0 luc)) ∧ (W'.cell? ⟨w15.heap.size, 0, none⟩ = some (.int .i64 0) ∧ W'.cell? ⟨w15.heap.size, 1, none⟩ = some (.slice xuo 0 xuc)) ∧
      (W'.cell? ⟨w2.heap.size, 0, none⟩ = some (.int .i64 DN) ∧ W'.cell? ⟨w2.heap.size, 1, none⟩ = some (.slice do' DB.length dc)) ∧ (W'.cell? ⟨w2.heap.size + 1, 0, none⟩ = some (.int .i64 0) ∧ W'.cell? ⟨w2.heap.size + 1, 1, none⟩ = some (.slice none 0 0)) ∧ (W'.cell? ⟨w2.heap.size + 1 + 1, 0, none⟩ = some (.int .i64 0) ∧ W'.cell? ⟨w2.heap.size + 1 + 1, 1, none⟩ = some (.slice none 0 0)) ∧
      Sx w2.heap.size w2 W' #[.int .i64 DN, (.slice do' DB.length dc)] #[.int .i64 0, (.slice none 0 0)] #[.int .i64 0, (.slice none 0 0)] [((.slice xuo 0 xuc), []), ((.slice luo 0 luc), []), ((.slice duo DB.length duc), DB), ((.slice do' DB.length dc), DB), ((.slice none 0 0), []), ((.slice none 0 0), [])]) := fun W' h => by
    have hX := HSX.out.low h
    have k1 := (h.block _ (Array.getElem?_eq_some_iff.1 HDX.out).1).trans HDX.out
    have k2 := (h.block _ (Array.getElem?_eq_some_iff.1 HLX.out).1).trans HLX.out
    have k3 := (h.block _ (Array.getElem?_eq_some_iff.1 HXX.out).1).trans HXX.out
    have k4 := hX.b0
    have k5 := hX.b1
    have k6 : W'.heap[w2.heap.size + 1 + 1]? = some (.cells #[.int .i64 0, (.slice none 0 0)] 24 (0, 0)) := hX.b2
    exact ⟨⟨by simp [World.cell?, k1], by simp [World.cell?, k1]⟩, ⟨by simp [World.cell?, k2], by simp [World.cell?, k2]⟩, ⟨by simp [World.cell?, k3], by simp [World.cell?, k3]⟩, ⟨by simp [World.cell?, k4], by simp [World.cell?, k4]⟩, ⟨by simp [World.cell?, k5], by simp [World.cell?, k5]⟩, ⟨by simp [World.cell?, k6], by simp [World.cell?, k6]⟩, hX⟩
  obtain ⟨⟨p0, p1⟩, -, -, ⟨p2, p3⟩, -, -, -⟩ := HQ.out wX (Below.refl _ _)
  rw [hwX] at p0 p1 p2 p3
  clear hs15 hb15 hbX HSL HDL HL HS15 HD15 HL15 HDX HLX HXX
  go_wp2_with fail
  rw [← hwX]
  clear hwX p0 p1 p2 p3
  refine (sameT_any DB DN 0 (.slice duo DB.length duc) (.slice do' DB.length dc) wX (HSX.out.sl ((.slice duo DB.length duc), DB) (by simp)) (HSX.out.sl ((.slice do' DB.length dc), DB) (by simp)) (fun h => ⟨(HF.out.hE h).2.2.1, (HF.out.hE h).2.2.2⟩)).mono ?_
  rintro e w16 ⟨rfl, hb16⟩
  have HB16 : Hid (Below wX.heap.size wX w16) := hb16
  obtain ⟨-, ⟨p0, p1⟩, -, -, ⟨p2, p3⟩, -, hX16⟩ := HQ.out w16 hb16
  have HX16 : Hid (Sx w2.heap.size w2 w16 #[.int .i64 DN, (.slice do' DB.length dc)] #[.int .i64 0, (.slice none 0 0)] #[.int .i64 0, (.slice none 0 0)] [((.slice xuo 0 xuc), []), ((.slice luo 0 luc), []), ((.slice duo DB.length duc), DB), ((.slice do' DB.length dc), DB), ((.slice none 0 0), []), ((.slice none 0 0), [])]) := hX16
  clear hb16 hX16
  go_wp2_with fail
  refine (sameT_any [] 0 9 (.slice luo 0 luc) (.slice none 0 0) w16 (HX16.out.sl ((.slice luo 0 luc), []) (by simp)) (HX16.out.sl ((.slice none 0 0), []) (by simp)) (fun h => ⟨(HF.out.hT h).1, (HF.out.hT h).2.1⟩)).mono ?_
  rintro e w17 ⟨rfl, hb17⟩
  have HB17 : Hid (Below wX.heap.size wX w17) := HB16.out.trans (hb17.mono HB16.out.size)
  obtain ⟨-, -, ⟨p4, p5⟩, -, -, ⟨p6, p7⟩, hX17⟩ := HQ.out w17 HB17.out
  have HX17 : Hid (Sx w2.heap.size w2 w17 #[.int .i64 DN, (.slice do' DB.length dc)] #[.int .i64 0, (.slice none 0 0)] #[.int .i64 0, (.slice none 0 0)] [((.slice xuo 0 xuc), []), ((.slice luo 0 luc), []), ((.slice duo DB.length duc), DB), ((.slice do' DB.length dc), DB), ((.slice none 0 0), []), ((.slice none 0 0), [])]) := hX17
  clear hb17 hX17 p0 p1 p2 p3
  go_wp2_with fail
  refine (sameT_any [] 0 9 (.slice xuo 0 xuc) (.slice none 0 0) w17 (HX17.out.sl ((.slice xuo 0 xuc), []) (by simp)) (HX17.out.sl ((.slice none 0 0), []) (by simp)) (fun h => ⟨(HF.out.hT h).1, (HF.out.hT h).2.2⟩)).mono ?_
  rintro e w18 ⟨rfl, hb18⟩
  have HB18 : Hid (Below w.heap.size w w18) := by
    have h1 := HX17.out.low hb18
    exact (HC.out w18 (HLOW.out w18 h1.bel)).2.2
  clear hb18
  go_wp2
  go_ret
  exact ⟨rfl, HB18.out⟩

end Go.Proofs.YtehklbekaflokaaDoor
