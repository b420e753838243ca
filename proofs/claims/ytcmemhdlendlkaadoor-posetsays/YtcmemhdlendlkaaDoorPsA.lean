import Derived.Test.YtcmemhdlendlkaaDoorPs1
/- poset.setsThat, by one closure. -/
namespace Go.Proofs.YtcmemhdlendlkaaDoor
open Go.RowKit
attribute [local go_sem ↓] Go.wp_at_zero Go.wp_at_succ

set_option maxRecDepth 100000 in
set_option maxHeartbeats 3200000 in
theorem setsThat_fil (n : Nat) (es : List (Nat × Nat)) (pv : Value) (w : World) (hv : Prs w pv (npL es)) (hG : GdO n es) (hT : TabB w) :
    Calls Tryd.prog 31 #[.agg #[.int .i64 (n : Int), pv], .func (.func 32) #[] #[]] w fun e w' => ∃ u, e = .returned (.tuple #[u, .int .i64 0]) ∧ w'.ownsRow w.heap.size 3 1 u (stTo filQ (upF n es) (2 ^ n)).length (ints (stTo filQ (upF n es) (2 ^ n))) ∧ Below w.heap.size w w' := by
  obtain ⟨i3, hi3, hz30, hz31, hz32⟩ := info_parts Tryd.info3
  obtain ⟨W1, hW1⟩ : ∃ W1, W1 = w.alloc (.cells #[.int .i64 (n : Int), pv] 24) := ⟨_, rfl⟩
  have HB1 : Below w.heap.size w W1 := by rw [hW1]; exact (Below.refl _ _).alloc (Nat.le_refl _) _
  have hs1 : W1.heap.size = w.heap.size + 1 := by rw [hW1]; simp
  have d0 : W1.cell? ⟨w.heap.size, 0, none⟩ = some (.int .i64 (n : Int)) := by rw [hW1]; simp
  have HRD : Hid (Calls Tryd.prog 27 #[.agg #[.int .i64 (n : Int), pv]] W1 fun e w' => ∃ g, e = .returned (.tuple #[.slice (some ⟨g, 0, none⟩) n n, .int .i64 0]) ∧ AbR w' g n (upF n es) ∧ Below w.heap.size w w' ∧ w'.cell? ⟨w.heap.size, 0, none⟩ = some (.int .i64 (n : Int))) := (read_ok n es pv W1 (hv.below HB1 (Nat.le_refl _)) hG.bd hG.n1 hG.n6 hG.len hG.irr).mono (by
    rintro e w' ⟨g, h1, h2, h3, h4⟩
    exact ⟨g, h1, h2, HB1.trans (h3.mono HB1.size), (h3.cell (lt_of_cell d0)).trans d0⟩)
  have HX : Hid (∀ i, i < n → upF n es i < 64) := fun i hi => hG.b64 hi
  have hn1 := hG.n1
  have hn := hG.n6
  have hN64 : 2 ^ n ≤ 64 := (Nat.pow_le_pow_right (by omega) hn : 2 ^ n ≤ 2 ^ 6)
  have HQ : Hid (∀ (s a : Nat) W, s < 64 → a < 64 → Calls Tryd.prog 32 #[.int .u64 (s : Int), .int .u64 (a : Int)] W fun e w' => e = .returned (.bool (filQ s a)) ∧ w' = W) := fun s a W h1 h2 => fil1_any s a W h1 h2
  have HTW : Hid (∀ W, Below w.heap.size w W → TabB W) := fun W h => hT.below h
  have HM8 : Hid (∀ s k, s < 2 ^ n → k < (mem8 s).length → ∃ i : Nat, (mem8 s).getD k 0 = (i : Int) ∧ i < n) := fun s k h1 h2 => mem8_at h1 h2
  have eN : IntKind.i64.wrap ((2 : Int) ^ n) = ((2 ^ n : Nat) : Int) := by
    have e : ((2 : Int) ^ n) = ((2 ^ n : Nat) : Int) := by simp
    rw [e, IntWalk.i64_left]
    generalize 2 ^ n = q2 at *
    exact IntWalk.wrap64_in _ ⟨by omega, by omega⟩
  have eN2 : (2 : Int) ^ n = ((2 ^ n : Nat) : Int) := by simp
  have HSU : Hid (∀ k, stTo filQ (upF n es) (k + 1) = stTo filQ (upF n es) k ++ if stB filQ (upF n es) k then [(k : Int)] else []) := stTo_succ filQ (upF n es)
  have HSL : Hid (∀ k, (stTo filQ (upF n es) k).length ≤ k) := stTo_len filQ (upF n es)
  have HS0 : Hid (stTo filQ (upF n es) 0 = []) := rfl
  have HSB : Hid (∀ s, stB filQ (upF n es) s = (mem8 s).all fun x => filQ s (upF n es x.toNat)) := fun _ => rfl
  clear hG hv HB1 hs1 d0 hT
  generalize upF n es = f at *
  obtain ⟨N2, hN2⟩ : ∃ N2, N2 = 2 ^ n := ⟨_, rfl⟩
  rw [← hN2] at eN eN2 hN64 HM8
  rw [← hN2]
  clear hN2
  go_enter Tryd.func31, Tryd.ntmps31
  go_wp2
  try rw [← hW1]
  go_step3
  go_wp2_with fail
  try rw [← hW1]
  refine HRD.out.mono ?_
  rintro e w2 ⟨a, rfl, ha, hb2, d0⟩
  clear HRD hW1
  have HA2 : Hid (AbR w2 a n f) := ha
  have HB2 : Hid (Below w.heap.size w w2) := hb2
  have hsz2 : w.heap.size ≤ w2.heap.size := hb2.size
  clear ha hb2
  go_wp2
  go_step3
  go_wp2
  have HO0 : Hid (w2.ownsRow w.heap.size 3 1 (.slice none 0 0) (stTo filQ f 0).length (ints (stTo filQ f 0))) := by rw [HS0.out]; exact World.ownsRow_nil _ _ _ _
  go_loopw [8, 24] (fun sv iv wr => ∃ k : Nat, k ≤ N2 ∧ iv = .int .i64 (k : Int) ∧ wr.ownsRow w.heap.size 3 1 sv (stTo filQ f k).length (ints (stTo filQ f k)) ∧ AbR wr a n f ∧ Below w.heap.size w wr) (fun _ iv _ => N2 - (intOf iv).toNat)
  case atStart => exact ⟨0, Nat.zero_le _, rfl, HO0.out, HA2.out, HB2.out⟩
  case round =>
    obtain ⟨k, hk, rfl, ho, ha, hb⟩ := hrel
    clear HO0 HA2 HB2
    obtain ⟨so, sc, hsv⟩ := owns_form ho
    subst hsv
    have hszr : w.heap.size ≤ wr.heap.size := hb.size
    by_cases hlt : k < N2
    · have HLI := list8_any k (by omega) wr (HTW.out wr hb)
      have hw64 : IntKind.u64.wrap (k : Int) = (k : Int) := by
        rw [IntKind.wrap_u64]
        omega
      have HO : Hid (wr.ownsRow w.heap.size 3 1 (.slice so (stTo filQ f k).length sc) (stTo filQ f k).length (ints (stTo filQ f k))) := ho
      have HA : Hid (AbR wr a n f) := ha
      have HB : Hid (Below w.heap.size w wr) := hb
      have HS1 := HSU.out k
      have hLk := HSL.out k
      have HM : Hid (∀ j, j < (mem8 k).length → ∃ i : Nat, (mem8 k).getD j 0 = (i : Int) ∧ i < n) := fun j hj => HM8.out k j hlt hj
      have HAL := HSB.out k
      have hL8 := mem8_len k
      clear ho ha hb d0
      generalize mem8 k = L at *
      generalize stTo filQ f k = S at *
      obtain ⟨sl, hsl⟩ : ∃ sl, sl = S.length := ⟨_, rfl⟩
      have HSLN : Hid (sl = S.length) := hsl
      rw [← hsl] at HO hLk
      rw [← hsl]
      clear hsl
      obtain ⟨S1, hS1⟩ : ∃ S1, S1 = stTo filQ f (k + 1) := ⟨_, rfl⟩
      rw [← hS1] at HS1
      have HSE : Hid (S1 = stTo filQ f (k + 1)) := hS1
      have HSV : Hid (S1 = S ++ if stB filQ f k then [(k : Int)] else []) := HS1
      have HAV : Hid (stB filQ f k = L.all fun x => filQ k (f x.toNat)) := HAL
      clear hS1 HS1 HAL
      have kI : (k : Int) < (N2 : Int) := by omega
      have hk64 : k < 64 := by omega
      go_wp2_with fail
      refine HLI.mono ?_
      rintro e w3 ⟨u, rfl, hu, hb3⟩
      obtain ⟨uo, uc, huv⟩ := owns_form hu
      subst huv
      have HU : Hid (Sl 0 3 w3 (.slice uo L.length uc) (ints L)) := Sl.own hu
      have HO3 : Hid (w3.ownsRow w.heap.size 3 1 (.slice so sl sc) sl (ints S)) := owns_below HO.out hb3 (Nat.le_refl _)
      have HA3 : Hid (AbR w3 a n f) := HA.out.below hb3 (Nat.le_refl _)
      have HB3 : Hid (Below w.heap.size w w3) := HB.out.trans (hb3.mono HB.out.size)
      have hsz3 : w.heap.size ≤ w3.heap.size := HB3.out.size
      clear hu hb3 HLI HO HA HB hw64
      go_wp2
      go_loop [32] (fun jv => ∃ j : Nat, j ≤ L.length ∧ jv = .int .i64 (j : Int) ∧ ∀ j', j' < j → filQ k (f (L.getD j' 0).toNat) = true) (fun jv => L.length - (intOf jv).toNat)
      case atStart => exact ⟨0, Nat.zero_le _, rfl, fun j' h => by omega⟩
      case round =>
        obtain ⟨j, hj, rfl, hall⟩ := hrel
        have HALL : Hid (∀ j', j' < j → filQ k (f (L.getD j' 0).toNat) = true) := hall
        clear hall
        by_cases hlj : j < L.length
        · obtain ⟨i, hi, hin⟩ := HM.out j hlj
          obtain ⟨b, o, cp, hs, _, hcc⟩ := sl_cell HU.out hlj
          simp only [Value.slice.injEq, true_and] at hs
          obtain ⟨rfl, rfl⟩ := hs
          have HNO : Hid (filQ k (f i) = false → S1 = S) := fun h => by
            have h1 : (L.all fun x => filQ k (f x.toNat)) = false := by
              rw [List.all_eq_false]
              refine ⟨L.getD j 0, by simp [hlj], ?_⟩
              rw [hi, Int.toNat_natCast, h]
              exact Bool.false_ne_true
            have h2 := HSV.out
            rw [HAV.out, h1] at h2
            simpa using h2
          have HYES : Hid (filQ k (f i) = true → ∀ j', j' < j + 1 → filQ k (f (L.getD j' 0).toNat) = true) := fun h j' hj' => by
            by_cases e : j' = j
            · subst e
              rw [hi, Int.toNat_natCast]
              exact h
            · exact HALL.out j' (by omega)
          rw [hi] at hcc
          have ca := HA3.out.cell hin
          have hfi := HX.out i hin
          have HQX := HQ.out k (f i) w3 hk64 hfi
          generalize f i = fi at *
          have iI : (i : Int) < (n : Int) := by omega
          have iI0 : (0 : Int) ≤ (i : Int) := by omega
          have jI : (j : Int) < (L.length : Int) := by omega
          have jI0 : (0 : Int) ≤ (j : Int) := by omega
          clear hi
          generalize filQ k fi = qb at *
          cases qb
          · have HE1 := HNO.out rfl
            have HOX : Hid (w3.ownsRow w.heap.size 3 1 (.slice so sl sc) (stTo filQ f (k + 1)).length (ints (stTo filQ f (k + 1)))) := by
              rw [← HSE.out, HE1, ← HSLN.out]
              exact HO3.out
            clear HNO HYES HE1
            go_wp2_with fail
            refine HQX.mono ?_
            rintro e w4 ⟨rfl, hw⟩
            subst hw
            go_wp2
            go_roundw
            case rel => exact ⟨k + 1, by omega, by go_num, HOX.out, HA3.out, HB3.out⟩
            case measure => simp [intOf]; omega
          · have HE1 : Hid (∀ j', j' < j + 1 → filQ k (f (L.getD j' 0).toNat) = true) := HYES.out rfl
            clear HNO HYES
            go_wp2_with fail
            refine HQX.mono ?_
            rintro e w4 ⟨rfl, hw⟩
            subst hw
            go_wp2
            go_round
            case rel => exact ⟨j + 1, by omega, by go_num, HE1.out⟩
            case measure => simp [intOf]; omega
        · have hje : L.length = j := by omega
          have h1 : (L.all fun x => filQ k (f x.toNat)) = true := by
            rw [List.all_eq_true]
            intro x hx
            obtain ⟨m, hm, rfl⟩ := List.getElem_of_mem hx
            have := HALL.out m (by omega)
            have e2 : L.getD m 0 = L[m] := by simp [hm]
            rw [e2] at this
            exact this
          have HS2 : Hid (S1 = S ++ [(k : Int)]) := by
            have h2 := HSV.out
            rw [HAV.out, h1] at h2
            show _ = _
            simpa using h2
          have hjI : ¬ (j : Int) < (L.length : Int) := by omega
          clear h1 hje
          go_wp2_with (first | (at_builtin; refine wpList_append_own _ rfl _ _ 27 rfl w.heap.size 3 i3 (.int .i64 0) 1 8 Tryd.underlying27 hi3 hz30 hz31 hz32 rfl (by decide) _ _ _ rfl (HO3.out.alloc _) ⟨w3.heap.size, 0, none⟩ 1 1 [.int .i64 (k : Int)] rfl rfl (one_new _ _ _) (one_int _) ?c3 ?c4 ?c5 ?_))
          case c3 => unfold maxLen; omega
          case c4 => omega
          case c5 => first | exact hsz3 | omega | (simp; omega)
          intro v2 w4 ho hg _
          have R1 : Hid (w4.ownsRow w.heap.size 3 1 v2 (stTo filQ f (k + 1)).length (ints (stTo filQ f (k + 1)))) := by
            have e1 : (S ++ [(k : Int)]).length = sl + 1 := by rw [List.length_append, ← HSLN.out]; rfl
            have e2 : ints (S ++ [(k : Int)]) = ints S ++ [.int .i64 (k : Int)] := by simp [ints]
            show World.ownsRow _ _ _ _ _ _ _
            rw [← HSE.out, HS2.out, e1, e2]
            exact ho
          have R2 : Hid (AbR w4 a n f) := AbR.grown (World.rowIs.alloc HA3.out _) (HO3.out.alloc _) hg
          have R3 : Hid (Below w.heap.size w w4) := (HB3.out.alloc hsz3 _).grown hg (by simp; omega) (fun x hx => (HO3.out.lt x hx).1)
          clear ho hg
          go_wp2
          go_roundw
          case rel => exact ⟨k + 1, by omega, by go_num, R1.out, R2.out, R3.out⟩
          case measure => simp [intOf]; omega
    · have hke : N2 = k := by omega
      subst hke
      have HO : Hid (wr.ownsRow w.heap.size 3 1 (.slice so (stTo filQ f N2).length sc) (stTo filQ f N2).length (ints (stTo filQ f N2))) := ho
      have HB : Hid (Below w.heap.size w wr) := hb
      clear ho ha hb hlt hk
      go_wp2
      try rw [Exit.noGoto_ret]
      go_ret2
      exact ⟨_, rfl, HO.out, HB.out⟩

end Go.Proofs.YtcmemhdlendlkaaDoor

/- poset.setsThat, by one closure. -/
namespace Go.Proofs.YtcmemhdlendlkaaDoor
open Go.RowKit
attribute [local go_sem ↓] Go.wp_at_zero Go.wp_at_succ

set_option maxRecDepth 100000 in
set_option maxHeartbeats 3200000 in
theorem setsThat_apa (n : Nat) (es : List (Nat × Nat)) (pv : Value) (w : World) (hv : Prs w pv (npL es)) (hG : GdO n es) (hT : TabB w) :
    Calls Tryd.prog 31 #[.agg #[.int .i64 (n : Int), pv], .func (.func 34) #[] #[]] w fun e w' => ∃ u, e = .returned (.tuple #[u, .int .i64 0]) ∧ w'.ownsRow w.heap.size 3 1 u (stTo apaQ (upF n es) (2 ^ n)).length (ints (stTo apaQ (upF n es) (2 ^ n))) ∧ Below w.heap.size w w' := by
  obtain ⟨i3, hi3, hz30, hz31, hz32⟩ := info_parts Tryd.info3
  obtain ⟨W1, hW1⟩ : ∃ W1, W1 = w.alloc (.cells #[.int .i64 (n : Int), pv] 24) := ⟨_, rfl⟩
  have HB1 : Below w.heap.size w W1 := by rw [hW1]; exact (Below.refl _ _).alloc (Nat.le_refl _) _
  have hs1 : W1.heap.size = w.heap.size + 1 := by rw [hW1]; simp
  have d0 : W1.cell? ⟨w.heap.size, 0, none⟩ = some (.int .i64 (n : Int)) := by rw [hW1]; simp
  have HRD : Hid (Calls Tryd.prog 27 #[.agg #[.int .i64 (n : Int), pv]] W1 fun e w' => ∃ g, e = .returned (.tuple #[.slice (some ⟨g, 0, none⟩) n n, .int .i64 0]) ∧ AbR w' g n (upF n es) ∧ Below w.heap.size w w' ∧ w'.cell? ⟨w.heap.size, 0, none⟩ = some (.int .i64 (n : Int))) := (read_ok n es pv W1 (hv.below HB1 (Nat.le_refl _)) hG.bd hG.n1 hG.n6 hG.len hG.irr).mono (by
    rintro e w' ⟨g, h1, h2, h3, h4⟩
    exact ⟨g, h1, h2, HB1.trans (h3.mono HB1.size), (h3.cell (lt_of_cell d0)).trans d0⟩)
  have HX : Hid (∀ i, i < n → upF n es i < 64) := fun i hi => hG.b64 hi
  have hn1 := hG.n1
  have hn := hG.n6
  have hN64 : 2 ^ n ≤ 64 := (Nat.pow_le_pow_right (by omega) hn : 2 ^ n ≤ 2 ^ 6)
  have HQ : Hid (∀ (s a : Nat) W, s < 64 → a < 64 → Calls Tryd.prog 34 #[.int .u64 (s : Int), .int .u64 (a : Int)] W fun e w' => e = .returned (.bool (apaQ s a)) ∧ w' = W) := fun s a W h1 h2 => apa1_any s a W h1 h2
  have HTW : Hid (∀ W, Below w.heap.size w W → TabB W) := fun W h => hT.below h
  have HM8 : Hid (∀ s k, s < 2 ^ n → k < (mem8 s).length → ∃ i : Nat, (mem8 s).getD k 0 = (i : Int) ∧ i < n) := fun s k h1 h2 => mem8_at h1 h2
  have eN : IntKind.i64.wrap ((2 : Int) ^ n) = ((2 ^ n : Nat) : Int) := by
    have e : ((2 : Int) ^ n) = ((2 ^ n : Nat) : Int) := by simp
    rw [e, IntWalk.i64_left]
    generalize 2 ^ n = q2 at *
    exact IntWalk.wrap64_in _ ⟨by omega, by omega⟩
  have eN2 : (2 : Int) ^ n = ((2 ^ n : Nat) : Int) := by simp
  have HSU : Hid (∀ k, stTo apaQ (upF n es) (k + 1) = stTo apaQ (upF n es) k ++ if stB apaQ (upF n es) k then [(k : Int)] else []) := stTo_succ apaQ (upF n es)
  have HSL : Hid (∀ k, (stTo apaQ (upF n es) k).length ≤ k) := stTo_len apaQ (upF n es)
  have HS0 : Hid (stTo apaQ (upF n es) 0 = []) := rfl
  have HSB : Hid (∀ s, stB apaQ (upF n es) s = (mem8 s).all fun x => apaQ s (upF n es x.toNat)) := fun _ => rfl
  clear hG hv HB1 hs1 d0 hT
  generalize upF n es = f at *
  obtain ⟨N2, hN2⟩ : ∃ N2, N2 = 2 ^ n := ⟨_, rfl⟩
  rw [← hN2] at eN eN2 hN64 HM8
  rw [← hN2]
  clear hN2
  go_enter Tryd.func31, Tryd.ntmps31
  go_wp2
  try rw [← hW1]
  go_step3
  go_wp2_with fail
  try rw [← hW1]
  refine HRD.out.mono ?_
  rintro e w2 ⟨a, rfl, ha, hb2, d0⟩
  clear HRD hW1
  have HA2 : Hid (AbR w2 a n f) := ha
  have HB2 : Hid (Below w.heap.size w w2) := hb2
  have hsz2 : w.heap.size ≤ w2.heap.size := hb2.size
  clear ha hb2
  go_wp2
  go_step3
  go_wp2
  have HO0 : Hid (w2.ownsRow w.heap.size 3 1 (.slice none 0 0) (stTo apaQ f 0).length (ints (stTo apaQ f 0))) := by rw [HS0.out]; exact World.ownsRow_nil _ _ _ _
  go_loopw [8, 24] (fun sv iv wr => ∃ k : Nat, k ≤ N2 ∧ iv = .int .i64 (k : Int) ∧ wr.ownsRow w.heap.size 3 1 sv (stTo apaQ f k).length (ints (stTo apaQ f k)) ∧ AbR wr a n f ∧ Below w.heap.size w wr) (fun _ iv _ => N2 - (intOf iv).toNat)
  case atStart => exact ⟨0, Nat.zero_le _, rfl, HO0.out, HA2.out, HB2.out⟩
  case round =>
    obtain ⟨k, hk, rfl, ho, ha, hb⟩ := hrel
    clear HO0 HA2 HB2
    obtain ⟨so, sc, hsv⟩ := owns_form ho
    subst hsv
    have hszr : w.heap.size ≤ wr.heap.size := hb.size
    by_cases hlt : k < N2
    · have HLI := list8_any k (by omega) wr (HTW.out wr hb)
      have hw64 : IntKind.u64.wrap (k : Int) = (k : Int) := by
        rw [IntKind.wrap_u64]
        omega
      have HO : Hid (wr.ownsRow w.heap.size 3 1 (.slice so (stTo apaQ f k).length sc) (stTo apaQ f k).length (ints (stTo apaQ f k))) := ho
      have HA : Hid (AbR wr a n f) := ha
      have HB : Hid (Below w.heap.size w wr) := hb
      have HS1 := HSU.out k
      have hLk := HSL.out k
      have HM : Hid (∀ j, j < (mem8 k).length → ∃ i : Nat, (mem8 k).getD j 0 = (i : Int) ∧ i < n) := fun j hj => HM8.out k j hlt hj
      have HAL := HSB.out k
      have hL8 := mem8_len k
      clear ho ha hb d0
      generalize mem8 k = L at *
      generalize stTo apaQ f k = S at *
      obtain ⟨sl, hsl⟩ : ∃ sl, sl = S.length := ⟨_, rfl⟩
      have HSLN : Hid (sl = S.length) := hsl
      rw [← hsl] at HO hLk
      rw [← hsl]
      clear hsl
      obtain ⟨S1, hS1⟩ : ∃ S1, S1 = stTo apaQ f (k + 1) := ⟨_, rfl⟩
      rw [← hS1] at HS1
      have HSE : Hid (S1 = stTo apaQ f (k + 1)) := hS1
      have HSV : Hid (S1 = S ++ if stB apaQ f k then [(k : Int)] else []) := HS1
      have HAV : Hid (stB apaQ f k = L.all fun x => apaQ k (f x.toNat)) := HAL
      clear hS1 HS1 HAL
      have kI : (k : Int) < (N2 : Int) := by omega
      have hk64 : k < 64 := by omega
      go_wp2_with fail
      refine HLI.mono ?_
      rintro e w3 ⟨u, rfl, hu, hb3⟩
      obtain ⟨uo, uc, huv⟩ := owns_form hu
      subst huv
      have HU : Hid (Sl 0 3 w3 (.slice uo L.length uc) (ints L)) := Sl.own hu
      have HO3 : Hid (w3.ownsRow w.heap.size 3 1 (.slice so sl sc) sl (ints S)) := owns_below HO.out hb3 (Nat.le_refl _)
      have HA3 : Hid (AbR w3 a n f) := HA.out.below hb3 (Nat.le_refl _)
      have HB3 : Hid (Below w.heap.size w w3) := HB.out.trans (hb3.mono HB.out.size)
      have hsz3 : w.heap.size ≤ w3.heap.size := HB3.out.size
      clear hu hb3 HLI HO HA HB hw64
      go_wp2
      go_loop [32] (fun jv => ∃ j : Nat, j ≤ L.length ∧ jv = .int .i64 (j : Int) ∧ ∀ j', j' < j → apaQ k (f (L.getD j' 0).toNat) = true) (fun jv => L.length - (intOf jv).toNat)
      case atStart => exact ⟨0, Nat.zero_le _, rfl, fun j' h => by omega⟩
      case round =>
        obtain ⟨j, hj, rfl, hall⟩ := hrel
        have HALL : Hid (∀ j', j' < j → apaQ k (f (L.getD j' 0).toNat) = true) := hall
        clear hall
        by_cases hlj : j < L.length
        · obtain ⟨i, hi, hin⟩ := HM.out j hlj
          obtain ⟨b, o, cp, hs, _, hcc⟩ := sl_cell HU.out hlj
          simp only [Value.slice.injEq, true_and] at hs
          obtain ⟨rfl, rfl⟩ := hs
          have HNO : Hid (apaQ k (f i) = false → S1 = S) := fun h => by
            have h1 : (L.all fun x => apaQ k (f x.toNat)) = false := by
              rw [List.all_eq_false]
              refine ⟨L.getD j 0, by simp [hlj], ?_⟩
              rw [hi, Int.toNat_natCast, h]
              exact Bool.false_ne_true
            have h2 := HSV.out
            rw [HAV.out, h1] at h2
            simpa using h2
          have HYES : Hid (apaQ k (f i) = true → ∀ j', j' < j + 1 → apaQ k (f (L.getD j' 0).toNat) = true) := fun h j' hj' => by
            by_cases e : j' = j
            · subst e
              rw [hi, Int.toNat_natCast]
              exact h
            · exact HALL.out j' (by omega)
          rw [hi] at hcc
          have ca := HA3.out.cell hin
          have hfi := HX.out i hin
          have HQX := HQ.out k (f i) w3 hk64 hfi
          generalize f i = fi at *
          have iI : (i : Int) < (n : Int) := by omega
          have iI0 : (0 : Int) ≤ (i : Int) := by omega
          have jI : (j : Int) < (L.length : Int) := by omega
          have jI0 : (0 : Int) ≤ (j : Int) := by omega
          clear hi
          generalize apaQ k fi = qb at *
          cases qb
          · have HE1 := HNO.out rfl
            have HOX : Hid (w3.ownsRow w.heap.size 3 1 (.slice so sl sc) (stTo apaQ f (k + 1)).length (ints (stTo apaQ f (k + 1)))) := by
              rw [← HSE.out, HE1, ← HSLN.out]
              exact HO3.out
            clear HNO HYES HE1
            go_wp2_with fail
            refine HQX.mono ?_
            rintro e w4 ⟨rfl, hw⟩
            subst hw
            go_wp2
            go_roundw
            case rel => exact ⟨k + 1, by omega, by go_num, HOX.out, HA3.out, HB3.out⟩
            case measure => simp [intOf]; omega
          · have HE1 : Hid (∀ j', j' < j + 1 → apaQ k (f (L.getD j' 0).toNat) = true) := HYES.out rfl
            clear HNO HYES
            go_wp2_with fail
            refine HQX.mono ?_
            rintro e w4 ⟨rfl, hw⟩
            subst hw
            go_wp2
            go_round
            case rel => exact ⟨j + 1, by omega, by go_num, HE1.out⟩
            case measure => simp [intOf]; omega
        · have hje : L.length = j := by omega
          have h1 : (L.all fun x => apaQ k (f x.toNat)) = true := by
            rw [List.all_eq_true]
            intro x hx
            obtain ⟨m, hm, rfl⟩ := List.getElem_of_mem hx
            have := HALL.out m (by omega)
            have e2 : L.getD m 0 = L[m] := by simp [hm]
            rw [e2] at this
            exact this
          have HS2 : Hid (S1 = S ++ [(k : Int)]) := by
            have h2 := HSV.out
            rw [HAV.out, h1] at h2
            show _ = _
            simpa using h2
          have hjI : ¬ (j : Int) < (L.length : Int) := by omega
          clear h1 hje
          go_wp2_with (first | (at_builtin; refine wpList_append_own _ rfl _ _ 27 rfl w.heap.size 3 i3 (.int .i64 0) 1 8 Tryd.underlying27 hi3 hz30 hz31 hz32 rfl (by decide) _ _ _ rfl (HO3.out.alloc _) ⟨w3.heap.size, 0, none⟩ 1 1 [.int .i64 (k : Int)] rfl rfl (one_new _ _ _) (one_int _) ?c3 ?c4 ?c5 ?_))
          case c3 => unfold maxLen; omega
          case c4 => omega
          case c5 => first | exact hsz3 | omega | (simp; omega)
          intro v2 w4 ho hg _
          have R1 : Hid (w4.ownsRow w.heap.size 3 1 v2 (stTo apaQ f (k + 1)).length (ints (stTo apaQ f (k + 1)))) := by
            have e1 : (S ++ [(k : Int)]).length = sl + 1 := by rw [List.length_append, ← HSLN.out]; rfl
            have e2 : ints (S ++ [(k : Int)]) = ints S ++ [.int .i64 (k : Int)] := by simp [ints]
            show World.ownsRow _ _ _ _ _ _ _
            rw [← HSE.out, HS2.out, e1, e2]
            exact ho
          have R2 : Hid (AbR w4 a n f) := AbR.grown (World.rowIs.alloc HA3.out _) (HO3.out.alloc _) hg
          have R3 : Hid (Below w.heap.size w w4) := (HB3.out.alloc hsz3 _).grown hg (by simp; omega) (fun x hx => (HO3.out.lt x hx).1)
          clear ho hg
          go_wp2
          go_roundw
          case rel => exact ⟨k + 1, by omega, by go_num, R1.out, R2.out, R3.out⟩
          case measure => simp [intOf]; omega
    · have hke : N2 = k := by omega
      subst hke
      have HO : Hid (wr.ownsRow w.heap.size 3 1 (.slice so (stTo apaQ f N2).length sc) (stTo apaQ f N2).length (ints (stTo apaQ f N2))) := ho
      have HB : Hid (Below w.heap.size w wr) := hb
      clear ho ha hb hlt hk
      go_wp2
      try rw [Exit.noGoto_ret]
      go_ret2
      exact ⟨_, rfl, HO.out, HB.out⟩

end Go.Proofs.YtcmemhdlendlkaaDoor
