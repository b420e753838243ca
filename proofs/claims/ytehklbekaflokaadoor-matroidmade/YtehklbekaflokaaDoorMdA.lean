import Derived.Test.YtehklbekaflokaaDoorMs0
import Derived.Test.YtehklbekaflokaaDoorTk1
/- facetref.CircuitsOf. -/
namespace Go.Proofs.YtehklbekaflokaaDoor
open Go.RowKit
attribute [local go_sem ↓] Go.wp_at_zero Go.wp_at_succ

/-- Each thing of a set taken out leaves a free one: the first things. -/
def leD (bs : List Int) (s k : Nat) : Bool := ((mem8 s).take k).all fun i => freeB bs (outN s (2 ^ i.toNat))

theorem leD_succ {bs : List Int} {s k : Nat} (h : k < (mem8 s).length) : leD bs s (k + 1) = (leD bs s k && freeB bs (outN s (2 ^ ((mem8 s).getD k 0).toNat))) := by
  unfold leD
  rw [List.take_succ_eq_append_getElem h, List.all_append]
  simp [h]

theorem circ_free {bs : List Int} {s : Nat} (h : freeB bs s = true) : circB bs s = false := by
  unfold circB; rw [h]; rfl

theorem circ_hang {bs : List Int} {s : Nat} (h : freeB bs s = false) : circB bs s = leD bs s (mem8 s).length := by
  unfold circB leD
  rw [h, List.take_length, List.not_any_eq_all_not]
  simp

theorem circ_zero {bs : List Int} (h : 0 < bs.length) : circB bs 0 = false :=
  circ_free (free_iff.2 ⟨0, h, fun i hi => by simp at hi⟩)

set_option maxRecDepth 100000 in
set_option maxHeartbeats 3200000 in
theorem circD_any (n : Nat) (bs : List Int) (v : Value) (w : World) (hv : Sl w.heap.size 3 w v (ints bs)) (h8 : B8 bs) (hn : n ≤ 8) (hl0 : 0 < bs.length) :
    Calls Tryd.prog 7 #[.agg #[.int .i64 n, v]] w fun e w' => ∃ u, e = .returned u ∧ Sl 0 3 w' u (ints (setsTo (circB bs) (2 ^ n))) ∧ Below w.heap.size w w' := by
  obtain ⟨i3, hi3, hz30, hz31, hz32⟩ := info_parts Tryd.info3
  obtain ⟨ao, cap, hvv, hlc, hcm⟩ := sl_open hv
  subst hvv
  obtain ⟨W, hW⟩ : ∃ W, W = w.alloc (.cells #[.int .i64 n, .slice ao bs.length cap] 24) := ⟨_, rfl⟩
  have HBA : Hid (Below w.heap.size w W) := by rw [hW]; exact (Below.refl _ _).alloc (Nat.le_refl _) _
  have c0 : W.cell? ⟨w.heap.size, 0, none⟩ = some (.int .i64 n) := by rw [hW]; simp
  have c1 : W.cell? ⟨w.heap.size, 1, none⟩ = some (.slice ao bs.length cap) := by rw [hW]; simp
  have HC : Hid (∀ W', Below W.heap.size W W' → W'.cell? ⟨w.heap.size, 0, none⟩ = some (.int .i64 n) ∧ W'.cell? ⟨w.heap.size, 1, none⟩ = some (.slice ao bs.length cap)) := fun W' h =>
    ⟨(h.cell (lt_of_cell c0)).trans c0, (h.cell (lt_of_cell c1)).trans c1⟩
  have HFR : Hid (∀ W' (t : Nat), Below W.heap.size W W' → t < 256 → Calls Tryd.prog 28 #[.agg #[.int .i64 n, .slice ao bs.length cap], .int .i64 t] W' fun e w' => e = .returned (.bool (freeB bs t)) ∧ Below W'.heap.size W' w') := fun W' t h ht =>
    isFree_any n bs t _ W' (((hv.below HBA.out (Nat.le_refl _)).below h (Nat.le_refl _)).more (Nat.le_trans HBA.out.size h.size)) h8 ht
  obtain ⟨tn, htn⟩ : ∃ tn : Nat, tn = 2 ^ n := ⟨_, rfl⟩
  have hti : (2 : Int) ^ n = (tn : Int) := by rw [htn]; simp
  have htl : tn ≤ 256 := by rw [htn]; exact show 2 ^ n ≤ 2 ^ 8 from Nat.pow_le_pow_right (by omega) hn
  have ht1 : 1 ≤ tn := by rw [htn]; exact Nat.one_le_two_pow
  have hwt : IntKind.i64.wrap (tn : Int) = (tn : Int) := wrap_small (by omega)
  rw [← htn]
  have HS1 : Hid (setsTo (circB bs) 1 = []) := by
    show _ = _
    rw [setsTo_succ, circ_zero hl0]
    rfl
  clear hv h8 htn hl0
  go_enter Tryd.func7, Tryd.ntmps7
  go_wp2
  rw [← hW]
  clear hW c0 c1
  go_loopw [3, 4, 5, 6, 7] (fun gv x _ _ _ wr => ∃ k : Nat, k ≤ tn ∧ 1 ≤ k ∧ x = .int .i64 k ∧ wr.ownsRow W.heap.size 3 1 gv (setsTo (circB bs) k).length (ints (setsTo (circB bs) k)) ∧ Below W.heap.size W wr) (fun _ x _ _ _ _ => tn - (intOf x).toNat)
  case atStart => exact ⟨1, ht1, Nat.le_refl _, rfl, by rw [HS1.out]; exact World.ownsRow_nil _ _ _ _, Below.refl _ _⟩
  case round =>
    obtain ⟨k, hk, hk1, rfl, ho, hbr⟩ := hrel
    have HO : Hid (wr.ownsRow W.heap.size 3 1 u3 (setsTo (circB bs) k).length (ints (setsTo (circB bs) k))) := ho
    have HBR : Hid (Below W.heap.size W wr) := hbr
    obtain ⟨d0, d1⟩ := HC.out wr hbr
    have hsz : W.heap.size ≤ wr.heap.size := hbr.size
    have hkl := setsTo_len (circB bs) k
    clear ho hbr
    by_cases hlt : k < tn
    · have kI : (k : Int) < (tn : Int) := by omega
      have HSS : Hid (setsTo (circB bs) (k + 1) = setsTo (circB bs) k ++ (if circB bs k = true then [(k : Int)] else [])) := setsTo_succ _ k
      have HC1 : Hid (freeB bs k = true → circB bs k = false) := circ_free
      have HC2 : Hid (freeB bs k = false → circB bs k = leD bs k (mem8 k).length) := circ_hang
      have HFK : Hid (Calls Tryd.prog 28 #[.agg #[.int .i64 n, .slice ao bs.length cap], .int .i64 k] wr fun e w' => e = .returned (.bool (freeB bs k)) ∧ Below wr.heap.size wr w') := HFR.out wr k HBR.out (by omega)
      generalize setsTo (circB bs) k = L at *
      obtain ⟨xo, xc, hxv⟩ := owns_form HO.out
      subst hxv
      generalize freeB bs k = fk at *
      go_wp2_with fail
      refine HFK.out.mono ?_
      rintro e w2 ⟨rfl, hb2⟩
      have HO2 : Hid (w2.ownsRow W.heap.size 3 1 (.slice xo L.length xc) L.length (ints L)) := owns_below HO.out hb2 (Nat.le_refl _)
      have HB2 : Hid (Below W.heap.size W w2) := HBR.out.trans (hb2.mono hsz)
      clear hb2 HFK d0 d1 HO
      cases fk
      · have HMM : Hid (Calls Tryd.prog 24 #[.int .i64 k] w2 fun e w' => ∃ u, e = .returned u ∧ w'.ownsRow w2.heap.size 3 1 u (mem8 k).length (ints (mem8 k)) ∧ Below w2.heap.size w2 w') := members8_any k w2 (by omega)
        go_wp2_with fail
        refine HMM.out.mono ?_
        rintro e w3 ⟨mv, rfl, hmo, hb3⟩
        obtain ⟨mo, mc, hmv⟩ := owns_form hmo
        subst hmv
        have HM3 : Hid (Sl 0 3 w3 (.slice mo (mem8 k).length mc) (ints (mem8 k))) := Sl.own hmo
        have HO3 : Hid (w3.ownsRow W.heap.size 3 1 (.slice xo L.length xc) L.length (ints L)) := owns_below HO2.out hb3 (Nat.le_refl _)
        have HB3 : Hid (Below W.heap.size W w3) := HB2.out.trans (hb3.mono HB2.out.size)
        have hk256 : k < 256 := by omega
        have hm8 := mem8_len k
        clear hmo hb3 HO2 HMM
        go_wp2
        go_loopw [5, 7] (fun okv iv wq => ∃ i : Nat, i ≤ (mem8 k).length ∧ iv = .int .i64 i ∧ okv = .bool (leD bs k i) ∧ Below w3.heap.size w3 wq) (fun _ iv _ => (mem8 k).length - (intOf iv).toNat)
        case atStart => exact ⟨0, Nat.zero_le _, rfl, rfl, Below.refl _ _⟩
        case round =>
          obtain ⟨i, hi, rfl, rfl, hbq⟩ := hrel
          obtain ⟨wb, rfl⟩ : ∃ wb, wb = wr := ⟨wr, rfl⟩
          have HBQ : Hid (Below w3.heap.size w3 wb) := hbq
          have HBW : Hid (Below W.heap.size W wb) := HB3.out.trans (hbq.mono HB3.out.size)
          obtain ⟨d0, d1⟩ := HC.out wb HBW.out
          clear hbq
          by_cases hin : i < (mem8 k).length
          · have iI : (i : Int) < ((mem8 k).length : Int) := by omega
            have i0 : (0 : Int) ≤ (i : Int) := by omega
            have HL1 : Hid (leD bs k (i + 1) = (leD bs k i && freeB bs (outN k (2 ^ ((mem8 k).getD i 0).toNat)))) := leD_succ hin
            generalize hfd : leD bs k i = fd at *
            clear hfd
            cases fd
            · have HL2 : Hid (leD bs k (i + 1) = false) := by show _ = _; rw [HL1.out]; rfl
              clear HL1
              go_wp2
              refine wp_region_held_drew (S := fun _ => True) (by kernel_rfl) trivial (fun hHeld => ?_)
              refine wpAnyH_tk (i := 0) (d := 26) (v := (.bool false)) rfl rfl (by kernel_rfl) (by kernel_rfl) (by kernel_rfl) (fun _ _ _ h => h) (.inl ⟨by rfl, by (intro wq hSw; (try dsimp only at hSw); go_simp)⟩) hHeld ?_
              simp only [Act.put, List.setIfInBounds_toArray, List.set_cons_zero, List.set_cons_succ]
              refine wpAnyH_tk (i := 1) (d := 27) (v := (.bool false)) rfl rfl (by kernel_rfl) (by kernel_rfl) (by kernel_rfl) (fun _ _ _ h => h) (.inl ⟨by rfl, by (intro wq hSw; (try dsimp only at hSw); go_simp)⟩) hHeld ?_
              simp only [Act.put, List.setIfInBounds_toArray, List.set_cons_zero, List.set_cons_succ]
              refine wpAnyH_tk (i := 2) (d := 28) (v := undef) rfl rfl (by kernel_rfl) (by kernel_rfl) (by kernel_rfl) (fun _ _ _ h => h) (.inr ⟨by rfl, rfl⟩) hHeld ?_
              simp only [Act.put, List.setIfInBounds_toArray, List.set_cons_zero, List.set_cons_succ]
              refine wpAnyH_tk (i := 3) (d := 29) (v := undef) rfl rfl (by kernel_rfl) (by kernel_rfl) (by kernel_rfl) (fun _ _ _ h => h) (.inr ⟨by rfl, rfl⟩) hHeld ?_
              simp only [Act.put, List.setIfInBounds_toArray, List.set_cons_zero, List.set_cons_succ]
              refine wpAnyH_tk (i := 4) (d := 30) (v := undef) rfl rfl (by kernel_rfl) (by kernel_rfl) (by kernel_rfl) (fun _ _ _ h => h) (.inr ⟨by rfl, rfl⟩) hHeld ?_
              simp only [Act.put, List.setIfInBounds_toArray, List.set_cons_zero, List.set_cons_succ]
              refine wpAnyH_tk (i := 5) (d := 31) (v := undef) rfl rfl (by kernel_rfl) (by kernel_rfl) (by kernel_rfl) (fun _ _ _ h => h) (.inr ⟨by rfl, rfl⟩) hHeld ?_
              simp only [Act.put, List.setIfInBounds_toArray, List.set_cons_zero, List.set_cons_succ]
              refine wpAnyH_tk (i := 6) (d := 32) (v := undef) rfl rfl (by kernel_rfl) (by kernel_rfl) (by kernel_rfl) (fun _ _ _ h => h) (.inr ⟨by rfl, rfl⟩) hHeld ?_
              simp only [Act.put, List.setIfInBounds_toArray, List.set_cons_zero, List.set_cons_succ]
              refine wpAnyH_tk (i := 7) (d := 33) (v := undef) rfl rfl (by kernel_rfl) (by kernel_rfl) (by kernel_rfl) (fun _ _ _ h => h) (.inr ⟨by rfl, rfl⟩) hHeld ?_
              simp only [Act.put, List.setIfInBounds_toArray, List.set_cons_zero, List.set_cons_succ]
              refine wpAnyH_tk (i := 8) (d := 34) (v := undef) rfl rfl (by kernel_rfl) (by kernel_rfl) (by kernel_rfl) (fun _ _ _ h => h) (.inr ⟨by rfl, rfl⟩) hHeld ?_
              simp only [Act.put, List.setIfInBounds_toArray, List.set_cons_zero, List.set_cons_succ]
              refine wpAnyH_tk (i := 9) (d := 35) (v := undef) rfl rfl (by kernel_rfl) (by kernel_rfl) (by kernel_rfl) (fun _ _ _ h => h) (.inr ⟨by rfl, rfl⟩) hHeld ?_
              simp only [Act.put, List.setIfInBounds_toArray, List.set_cons_zero, List.set_cons_succ]
              refine wpAnyH_tk (i := 10) (d := 36) (v := undef) rfl rfl (by kernel_rfl) (by kernel_rfl) (by kernel_rfl) (fun _ _ _ h => h) (.inr ⟨by rfl, rfl⟩) hHeld ?_
              simp only [Act.put, List.setIfInBounds_toArray, List.set_cons_zero, List.set_cons_succ]
              refine wpAnyH_tk (i := 11) (d := 37) (v := (.bool false)) rfl rfl (by kernel_rfl) (by kernel_rfl) (by kernel_rfl) (fun _ _ _ h => h) (.inl ⟨by rfl, by (intro wq hSw; (try dsimp only at hSw); go_simp)⟩) hHeld ?_
              simp only [Act.put, List.setIfInBounds_toArray, List.set_cons_zero, List.set_cons_succ]
              refine wpAnyH_tk (i := 12) (d := 5) (v := (.bool false)) rfl rfl (by kernel_rfl) (by kernel_rfl) (by kernel_rfl) (fun _ _ _ h => h) (.inl ⟨by rfl, by (intro wq hSw; (try dsimp only at hSw); go_simp)⟩) hHeld ?_
              simp only [Act.put, List.setIfInBounds_toArray, List.set_cons_zero, List.set_cons_succ]
              refine wpAnyH_done (by kernel_rfl) ?_ _
              clear hHeld
              go_wp2
              go_roundw
              case rel => exact ⟨i + 1, by omega, by go_num, by rw [HL2.out], Below.drew HBQ.out⟩
              case measure => simp [intOf]; omega
            · obtain ⟨gb, gq, gcc, hs, _, hcc⟩ := sl_cell (HM3.out.below HBQ.out (Nat.le_refl _)) hin
              simp only [Value.slice.injEq] at hs
              obtain ⟨rfl, -, rfl⟩ := hs
              obtain ⟨x, hx8, hxb, hx⟩ := mem8_iff.1 (show (mem8 k).getD i 0 ∈ mem8 k by simp [hin])
              obtain ⟨hsub, hple⟩ := out_sub8 k hk256 x hx8 hxb
              have HL2 : Hid (leD bs k (i + 1) = freeB bs (outN k (2 ^ x))) := by show _ = _; rw [HL1.out, ← hx, Int.toNat_natCast, Bool.true_and]
              rw [← hx] at hcc
              obtain ⟨pw, hpw⟩ : ∃ pw : Nat, pw = 2 ^ x := ⟨_, rfl⟩
              have hpI : (2 : Int) ^ x = (pw : Int) := by rw [hpw]; simp
              obtain ⟨z, hz⟩ : ∃ z : Nat, z = outN k (2 ^ x) := ⟨_, rfl⟩
              have hz8 : z < 256 := by rw [hz]; exact outN_lt8 hk256
              rw [← hpw] at hsub hple hz
              have hpw0 : IntKind.i64.wrap (pw : Int) = (pw : Int) := wrap_small (by omega)
              have hpw1 : IntKind.i64.wrap ((k : Int) - (pw : Int)) = (z : Int) := by
                rw [show (k : Int) - (pw : Int) = (z : Int) by rw [hz, ← hsub]; omega]; exact wrap_small (by omega)
              rw [← hpw, ← hz] at HL2
              have HFZ : Hid (∀ W', Below W.heap.size W W' → Calls Tryd.prog 28 #[.agg #[.int .i64 n, .slice ao bs.length cap], .int .i64 z] W' fun e w' => e = .returned (.bool (freeB bs z)) ∧ Below W'.heap.size W' w') := fun W' h => HFR.out W' z h hz8
              have x0 : (0 : Int) ≤ (x : Int) := by omega
              have hpz : IntKind.i64.wrap ((2 : Int) ^ x) = (pw : Int) := by rw [hpI]; exact hpw0
              clear HL1 hx hxb hsub hple hpw hz
              generalize freeB bs z = fz at *
              go_wp2
              refine wp_region_held_drew (S := fun w' => w'.cell? ⟨w.heap.size, 0, none⟩ = some (.int .i64 n) ∧ w'.cell? ⟨w.heap.size, 1, none⟩ = some (.slice ao bs.length cap) ∧ w'.cell? ⟨gb, gq + i, none⟩ = some (.int .i64 x)) (by kernel_rfl) ⟨d0, d1, hcc⟩ (fun hHeld => ?_)
              refine wpAnyH_tk (i := 0) (d := 26) (v := (.bool true)) rfl rfl (by kernel_rfl) (by kernel_rfl) (by kernel_rfl) (fun _ _ _ h => h) (.inl ⟨by rfl, by (intro wq hSw; (try dsimp only at hSw); go_simp)⟩) hHeld ?_
              simp only [Act.put, List.setIfInBounds_toArray, List.set_cons_zero, List.set_cons_succ]
              refine wpAnyH_tk (i := 1) (d := 27) (v := (.bool true)) rfl rfl (by kernel_rfl) (by kernel_rfl) (by kernel_rfl) (fun _ _ _ h => h) (.inl ⟨by rfl, by (intro wq hSw; (try dsimp only at hSw); go_simp)⟩) hHeld ?_
              simp only [Act.put, List.setIfInBounds_toArray, List.set_cons_zero, List.set_cons_succ]
              refine wpAnyH_tk (i := 2) (d := 28) (v := (.agg #[.int .i64 n, .slice ao bs.length cap])) rfl rfl (by kernel_rfl) (by kernel_rfl) (by kernel_rfl) (fun _ _ _ h => h) (.inl ⟨by rfl, by (intro wq hSw; (try dsimp only at hSw); go_simp)⟩) hHeld ?_
              simp only [Act.put, List.setIfInBounds_toArray, List.set_cons_zero, List.set_cons_succ]
              refine wpAnyH_tk (i := 3) (d := 29) (v := (.int .i64 k)) rfl rfl (by kernel_rfl) (by kernel_rfl) (by kernel_rfl) (fun _ _ _ h => h) (.inl ⟨by rfl, by (intro wq hSw; (try dsimp only at hSw); go_simp)⟩) hHeld ?_
              simp only [Act.put, List.setIfInBounds_toArray, List.set_cons_zero, List.set_cons_succ]
              refine wpAnyH_tk (i := 4) (d := 30) (v := (.slice (some ⟨gb, gq, none⟩) (mem8 k).length mc)) rfl rfl (by kernel_rfl) (by kernel_rfl) (by kernel_rfl) (fun _ _ _ h => h) (.inl ⟨by rfl, by (intro wq hSw; (try dsimp only at hSw); go_simp)⟩) hHeld ?_
              simp only [Act.put, List.setIfInBounds_toArray, List.set_cons_zero, List.set_cons_succ]
              refine wpAnyH_tk (i := 5) (d := 31) (v := (.int .i64 i)) rfl rfl (by kernel_rfl) (by kernel_rfl) (by kernel_rfl) (fun _ _ _ h => h) (.inl ⟨by rfl, by (intro wq hSw; (try dsimp only at hSw); go_simp)⟩) hHeld ?_
              simp only [Act.put, List.setIfInBounds_toArray, List.set_cons_zero, List.set_cons_succ]
              refine wpAnyH_tk (i := 6) (d := 32) (v := (.pointer (some ⟨gb, gq + i, none⟩))) rfl rfl (by kernel_rfl) (by kernel_rfl) (by kernel_rfl) (fun _ _ _ h => h) (.inl ⟨by rfl, by (intro wq hSw; (try dsimp only at hSw); go_simp)⟩) hHeld ?_
              simp only [Act.put, List.setIfInBounds_toArray, List.set_cons_zero, List.set_cons_succ]
              refine wpAnyH_tk (i := 7) (d := 33) (v := (.int .i64 x)) rfl rfl (by kernel_rfl) (by kernel_rfl) (by kernel_rfl) (fun _ _ _ h => h) (.inl ⟨by rfl, by (intro wq hSw; (try dsimp only at hSw); go_simp)⟩) hHeld ?_
              simp only [Act.put, List.setIfInBounds_toArray, List.set_cons_zero, List.set_cons_succ]
              refine wpAnyH_tk (i := 8) (d := 34) (v := (.int .i64 pw)) rfl rfl (by kernel_rfl) (by kernel_rfl) (by kernel_rfl) (fun _ _ _ h => h) (.inl ⟨by rfl, by (intro wq hSw; (try dsimp only at hSw); go_simp)⟩) hHeld ?_
              simp only [Act.put, List.setIfInBounds_toArray, List.set_cons_zero, List.set_cons_succ]
              refine wpAnyH_tk (i := 9) (d := 35) (v := (.int .i64 z)) rfl rfl (by kernel_rfl) (by kernel_rfl) (by kernel_rfl) (fun _ _ _ h => h) (.inl ⟨by rfl, by (intro wq hSw; (try dsimp only at hSw); go_simp)⟩) hHeld ?_
              simp only [Act.put, List.setIfInBounds_toArray, List.set_cons_zero, List.set_cons_succ]
              refine wpAnyH_ready (rs := [10]) (by kernel_rfl) (by simp) ?_
              refine ready_tk (i := 10) rfl (by rfl) (fun K hK => ?_) AllReadyH.nil
              go_simp
              refine (HFZ.out _ (Below.drew HBW.out)).mono ?_
              rintro e w4 ⟨rfl, hb4⟩
              have HB4 : Hid (Below wb.heap.size wb w4) := ⟨hb4.os, hb4.tape, hb4.output, hb4.size, hb4.block⟩
              have HB4W : Hid (Below w3.heap.size w3 w4) := HBQ.out.trans (HB4.out.mono HBQ.out.size)
              clear hb4
              refine hK.out _ _ ⟨(HB4.out.cell (lt_of_cell d0)).trans d0, (HB4.out.cell (lt_of_cell d1)).trans d1, (HB4.out.cell (lt_of_cell hcc)).trans hcc⟩ (fun hHeld => ?_)
              clear hK K
              refine wpAnyH_tk (i := 11) (d := 37) (v := (.bool fz)) rfl rfl (by kernel_rfl) (by kernel_rfl) (by kernel_rfl) (fun _ _ _ h => h) (.inl ⟨by rfl, by (intro wq hSw; (try dsimp only at hSw); go_simp)⟩) hHeld ?_
              simp only [Act.put, List.setIfInBounds_toArray, List.set_cons_zero, List.set_cons_succ]
              refine wpAnyH_tk (i := 12) (d := 5) (v := (.bool fz)) rfl rfl (by kernel_rfl) (by kernel_rfl) (by kernel_rfl) (fun _ _ _ h => h) (.inl ⟨by rfl, by (intro wq hSw; (try dsimp only at hSw); go_simp)⟩) hHeld ?_
              simp only [Act.put, List.setIfInBounds_toArray, List.set_cons_zero, List.set_cons_succ]
              refine wpAnyH_done (by kernel_rfl) ?_ _
              clear hHeld
              go_wp2
              go_roundw
              case rel => exact ⟨i + 1, by omega, by go_num, by rw [HL2.out], HB4W.out⟩
              case measure => simp [intOf]; omega
          · have hie : i = (mem8 k).length := by omega
            have HO4 : Hid (wb.ownsRow W.heap.size 3 1 (.slice xo L.length xc) L.length (ints L)) := owns_below HO3.out HBQ.out (Nat.le_refl _)
            have iD : decide ((i : Int) < ((mem8 k).length : Int)) = false := decide_eq_false (by omega)
            have HFE : Hid (circB bs k = leD bs k i) := by rw [hie]; first | exact HC2.out rfl | exact HC2.out trivial
            have hsz2 : W.heap.size ≤ wb.heap.size := HBW.out.size
            clear hie HC1 HC2 d0 d1 HBQ
            generalize leD bs k i = fd at *
            cases fd
            · have HS2 : Hid (setsTo (circB bs) (k + 1) = L) := by show _ = _; rw [HSS.out, HFE.out]; simp
              clear HSS
              go_wp2
              go_roundw
              case rel => exact ⟨k + 1, by omega, by omega, by go_num, by rw [HS2.out]; exact HO4.out, HBW.out⟩
              case measure => simp [intOf]; omega
            · have HS2 : Hid (setsTo (circB bs) (k + 1) = L ++ [(k : Int)]) := by show _ = _; rw [HSS.out, HFE.out]; simp
              clear HSS
              go_wp2_with (first | (at_builtin; refine wpList_append_own _ rfl _ _ 22 rfl W.heap.size 3 i3 (.int .i64 0) 1 8 Tryd.underlying22 hi3 hz30 hz31 hz32 rfl (by decide) _ _ _ rfl (HO4.out.alloc _) ⟨wb.heap.size, 0, none⟩ 1 1 [.int .i64 k] rfl rfl (one_new _ _ _) (one_int _) ?c3 ?c4 ?c5 ?_))
              case c3 => unfold maxLen; omega
              case c4 => omega
              case c5 => first | exact hsz2 | (simp; omega)
              intro v' w7 ho hg _
              have R := owns_push (z := (k : Int)) (N := L.length + 1) hsz2 (l := L) HO4.out HBW.out ho hg rfl
              have R1 : Hid (w7.ownsRow W.heap.size 3 1 v' (setsTo (circB bs) (k + 1)).length (ints (setsTo (circB bs) (k + 1)))) := by
                have h := R.1
                show World.ownsRow _ _ _ _ _ _ _
                rw [HS2.out, List.length_append, List.length_singleton]
                exact h
              have R2 : Hid (Below W.heap.size W w7) := R.2
              clear R ho hg
              go_wp2
              go_roundw
              case rel => exact ⟨k + 1, by omega, by omega, by go_num, R1.out, R2.out⟩
              case measure => simp [intOf]; omega
      · have HS2 : Hid (setsTo (circB bs) (k + 1) = L) := by show _ = _; rw [HSS.out, show circB bs k = false by first | exact HC1.out rfl | exact HC1.out trivial]; simp
        clear HSS HC1 HC2
        go_wp2
        go_roundw
        case rel => exact ⟨k + 1, by omega, by omega, by go_num, by rw [HS2.out]; exact HO2.out, HB2.out⟩
        case measure => simp [intOf]; omega
    · have hke : tn = k := by omega
      subst hke
      have HB9 : Hid (Below w.heap.size w wr) := HBA.out.trans (HBR.out.mono HBA.out.size)
      go_wp2
      go_ret
      exact ⟨_, rfl, Sl.own HO.out, HB9.out⟩

end Go.Proofs.YtehklbekaflokaaDoor

/- facetref.Ranks. -/
namespace Go.Proofs.YtehklbekaflokaaDoor
open Go.RowKit
attribute [local go_sem ↓] Go.wp_at_zero Go.wp_at_succ

/-- Ranks under way: the first ones are there, one grows, the others are 0. -/
def rkF (bs : List Int) (k j s : Nat) : Nat := if s < k then rkN bs s else if s = k then rkTo bs s j else 0

theorem rkF_set {bs : List Int} {k j s q : Nat} (h : q = rkTo bs k (j + 1)) : (if s = k then (.int .i64 (q : Int) : Value) else .int .i64 (rkF bs k j s : Int)) = .int .i64 (rkF bs k (j + 1) s : Int) := by
  by_cases e : s = k
  · subst e
    rw [if_pos rfl, h]
    simp [rkF]
  · rw [if_neg e]
    simp [rkF, e]

theorem rkF_keep {bs : List Int} {k j s : Nat} (h : rkTo bs k (j + 1) = rkTo bs k j) : rkF bs k j s = rkF bs k (j + 1) s := by
  unfold rkF
  by_cases e : s = k
  · subst e; simp [h]
  · simp [e]

theorem rkF_next (bs : List Int) (k s : Nat) : rkF bs k bs.length s = rkF bs (k + 1) 0 s := by
  unfold rkF
  by_cases e : s = k
  · subst e; simp [rkN]
  · by_cases h : s < k
    · simp [h, show s < k + 1 by omega]
    · by_cases h2 : s = k + 1
      · subst h2; simp [rkTo, show ¬ k + 1 < k by omega]
      · simp [h, e, h2, show ¬ s < k + 1 by omega]

set_option maxRecDepth 100000 in
set_option maxHeartbeats 1600000 in
theorem ranks_any (n : Nat) (bs : List Int) (v : Value) (w : World) (hv : Sl w.heap.size 3 w v (ints bs)) (h8 : B8 bs) (hn : n ≤ 8) :
    Calls Tryd.prog 29 #[.agg #[.int .i64 n, v]] w fun e w' => ∃ b, e = .returned (.slice (some ⟨b, 0, none⟩) (2 ^ n) (2 ^ n)) ∧ w'.rowIs b 3 (2 ^ n) (fun s => .int .i64 (rkN bs s : Int)) ∧ w.heap.size ≤ b ∧ Below w.heap.size w w' := by
  obtain ⟨i3, hi3, hz30, hz31, hz32⟩ := info_parts Tryd.info3
  obtain ⟨ao, cap, hvv, hlc, hcm⟩ := sl_open hv
  subst hvv
  obtain ⟨tn, htn⟩ : ∃ tn : Nat, tn = 2 ^ n := ⟨_, rfl⟩
  have hti : (2 : Int) ^ n = (tn : Int) := by rw [htn]; simp
  have htl : tn ≤ 256 := by rw [htn]; exact show 2 ^ n ≤ 2 ^ 8 from Nat.pow_le_pow_right (by omega) hn
  have hwt : IntKind.i64.wrap (tn : Int) = (tn : Int) := wrap_small (by omega)
  rw [← htn]
  have hmk : ∀ w : World, (Instr.makeSlice 22 (.int .i64 (tn : Int)) (.int .i64 (tn : Int))).run Tryd.prog w = .ok (.slice (some ⟨w.heap.size, 0, none⟩) tn tn) (w.alloc (.cells (madeCells #[.int .i64 0] tn) 3)) := run_make_row' (P := Tryd.prog) 22 3 (.int .i64 0) 8 Tryd.underlying22 (by kernel_rfl) rfl .i64 .i64 tn (by omega) (by omega)
  obtain ⟨W, hW⟩ : ∃ W, W = w.alloc (.cells #[.int .i64 n, .slice ao bs.length cap] 24) := ⟨_, rfl⟩
  have HBA : Hid (Below w.heap.size w W) := by rw [hW]; exact (Below.refl _ _).alloc (Nat.le_refl _) _
  have c0 : W.cell? ⟨w.heap.size, 0, none⟩ = some (.int .i64 n) := by rw [hW]; simp
  have c1 : W.cell? ⟨w.heap.size, 1, none⟩ = some (.slice ao bs.length cap) := by rw [hW]; simp
  have HC : Hid (∀ W', Below W.heap.size W W' → W'.cell? ⟨w.heap.size, 1, none⟩ = some (.slice ao bs.length cap) ∧ Sl w.heap.size 3 W' (.slice ao bs.length cap) (ints bs)) := fun W' h =>
    ⟨(h.cell (lt_of_cell c1)).trans c1, (hv.below HBA.out (Nat.le_refl _)).below h (Nat.le_refl _)⟩
  have H8 : Hid (B8 bs) := h8
  obtain ⟨W1, hW1⟩ : ∃ W1, W1 = W.alloc (.cells (madeCells #[.int .i64 0] tn) 3) := ⟨_, rfl⟩
  have HB1 : Hid (Below W.heap.size W W1) := by rw [hW1]; exact (Below.refl _ _).alloc (Nat.le_refl _) _
  have HWS : Hid (W.heap.size = w.heap.size + 1) := by rw [hW]; show _ = _; simp
  have HR1 : Hid (W1.rowIs (w.heap.size + 1) 3 tn (fun _ => .int .i64 0)) := by rw [hW1, ← HWS.out]; exact World.rowIs_made W (.int .i64 0) tn 3
  clear hv h8 htn
  go_enter Tryd.func29, Tryd.ntmps29
  go_wp2
  rw [← hW, ← hW1]
  clear hW hW1 c0 c1 hmk
  go_loopw [4, 5, 6] (fun i _ _ wr => ∃ k : Nat, k ≤ tn ∧ i = .int .i64 k ∧ wr.rowIs (w.heap.size + 1) 3 tn (fun s => .int .i64 (rkF bs k 0 s : Int)) ∧ Below W.heap.size W wr) (fun i _ _ _ => tn - (intOf i).toNat)
  case atStart => exact ⟨0, Nat.zero_le _, rfl, HR1.out.congr (fun i hi => by unfold rkF; by_cases h : i = 0 <;> simp [h, rkTo]), HB1.out⟩
  case round =>
    obtain ⟨k, hk, rfl, hrw, hbr⟩ := hrel
    have HRW : Hid (wr.rowIs (w.heap.size + 1) 3 tn (fun s => .int .i64 (rkF bs k 0 s : Int))) := hrw
    have HBR : Hid (Below W.heap.size W wr) := hbr
    clear hrw hbr
    by_cases hlt : k < tn
    · have kI : (k : Int) < (tn : Int) := by omega
      go_wp2
      clear kI
      go_loopw [5, 6] (fun i _ wq => ∃ j : Nat, j ≤ bs.length ∧ i = .int .i64 j ∧ wq.rowIs (w.heap.size + 1) 3 tn (fun s => .int .i64 (rkF bs k j s : Int)) ∧ Below W.heap.size W wq) (fun i _ _ => bs.length - (intOf i).toNat)
      case atStart => exact ⟨0, Nat.zero_le _, rfl, HRW.out, HBR.out⟩
      case round =>
        obtain ⟨j, hj, rfl, hrq, hbq⟩ := hrel
        have HRQ : Hid (wr.rowIs (w.heap.size + 1) 3 tn (fun s => .int .i64 (rkF bs k j s : Int))) := hrq
        have HBQ : Hid (Below W.heap.size W wr) := hbq
        obtain ⟨d1, hsl⟩ := HC.out wr hbq
        clear hrq hbq
        by_cases hjl : j < bs.length
        · obtain ⟨gb, gq, gcc, hs, _, hcc⟩ := sl_cell hsl hjl
          simp only [Value.slice.injEq] at hs
          obtain ⟨rfl, -, rfl⟩ := hs
          obtain ⟨hx0, hx8⟩ := H8.out (bs.getD j 0) (by simp [hjl])
          obtain ⟨y, hy⟩ : ∃ y : Nat, bs.getD j 0 = (y : Int) := ⟨(bs.getD j 0).toNat, by omega⟩
          have hy8 : y < 256 := by omega
          obtain ⟨z, hz⟩ : ∃ z : Nat, z = y &&& k := ⟨_, rfl⟩
          have hz8 : z < 256 := by rw [hz]; exact Nat.lt_of_le_of_lt Nat.and_le_left hy8
          have e1 : bits .and .i64 (y : Int) (k : Int) = (z : Int) := by rw [hz]; exact bits_and_i64_nat y k (by omega) (by omega)
          have HRT : Hid (rkTo bs k (j + 1) = max (rkTo bs k j) (szN z)) := by
            show _ = _
            simp only [rkTo]
            rw [hy, Int.toNat_natCast, hz, Nat.and_comm]
          have HFK : Hid (rkF bs k j k = rkTo bs k j) := by show _ = _; simp [rkF]
          have HSZ : Hid (Calls Tryd.prog 23 #[.int .i64 z] wr fun e w' => e = .returned (.int .i64 (szN z)) ∧ Below wr.heap.size wr w') := size8_any z wr hz8
          rw [hy] at hcc
          have jI : (j : Int) < (bs.length : Int) := by omega
          have jI0 : (0 : Int) ≤ (j : Int) := by omega
          clear hx0 hx8 hy hz hsl
          go_wp2_with fail
          refine HSZ.out.mono ?_
          rintro e w2 ⟨rfl, hb2⟩
          have HR2 : Hid (w2.rowIs (w.heap.size + 1) 3 tn (fun s => .int .i64 (rkF bs k j s : Int))) := HRQ.out.of_block (hb2.block _ HRQ.out.lt)
          have HB2 : Hid (Below W.heap.size W w2) := HBQ.out.trans (hb2.mono HBQ.out.size)
          have hst := HR2.out.cell hlt
          have hfz := HR2.out.frozen k
          simp only [HFK.out] at hst
          have kI : (k : Int) < (tn : Int) := by omega
          have kI0 : (0 : Int) ≤ (k : Int) := by omega
          clear hb2 hcc HFK
          have h8a := szN_le z
          have h8b := rkTo_le8 bs k j
          generalize szN z = q at *
          by_cases hgt : rkTo bs k j < q
          · have qI : decide (((rkTo bs k j : Nat) : Int) < (q : Int)) = true := decide_eq_true (by omega)
            have HN : Hid ((w2.setCell ⟨w.heap.size + 1, k, none⟩ (.int .i64 (q : Int))).rowIs (w.heap.size + 1) 3 tn (fun s => .int .i64 (rkF bs k (j + 1) s : Int)) ∧ Below W.heap.size W (w2.setCell ⟨w.heap.size + 1, k, none⟩ (.int .i64 (q : Int)))) := by
              refine ⟨(HR2.out.set k (.int .i64 (q : Int))).congr fun i hi => rkF_set (by rw [HRT.out]; omega), ?_⟩
              exact ⟨HB2.out.os, HB2.out.tape, HB2.out.output, by simp only [World.setCell, Array.size_modify]; exact HB2.out.size, fun b hb => (Below.heap_setCell _ _ _ _ (by have := HWS.out; show b ≠ w.heap.size + 1; omega)).trans (HB2.out.block b hb)⟩
            clear HRT
            generalize rkTo bs k j = R at *
            go_wp2
            exact ⟨⟨j + 1, by omega, by go_num, HN.out.1, HN.out.2⟩, by simp [intOf]; omega⟩
          · have qI : decide (((rkTo bs k j : Nat) : Int) < (q : Int)) = false := decide_eq_false (by omega)
            have HN : Hid (w2.rowIs (w.heap.size + 1) 3 tn (fun s => .int .i64 (rkF bs k (j + 1) s : Int))) := HR2.out.congr fun i hi => by
              rw [rkF_keep (j := j) (by rw [HRT.out]; omega)]
            clear HRT
            generalize rkTo bs k j = R at *
            go_wp2
            exact ⟨⟨j + 1, by omega, by go_num, HN.out, HB2.out⟩, by simp [intOf]; omega⟩
        · have hje : j = bs.length := by omega
          subst hje
          have HN : Hid (wr.rowIs (w.heap.size + 1) 3 tn (fun s => .int .i64 (rkF bs (k + 1) 0 s : Int))) := HRQ.out.congr fun i hi => by rw [rkF_next]
          clear hsl
          go_wp2
          exact ⟨⟨k + 1, by omega, by go_num, HN.out, HBQ.out⟩, by simp [intOf]; omega⟩
    · have hke : tn = k := by omega
      subst hke
      have HN : Hid (wr.rowIs (w.heap.size + 1) 3 tn (fun s => .int .i64 (rkN bs s : Int))) := HRW.out.congr fun i hi => by simp [rkF, hi]
      have HBW : Hid (Below w.heap.size w wr) := HBA.out.trans (HBR.out.mono HBA.out.size)
      have hws : w.heap.size ≤ w.heap.size + 1 := Nat.le_succ _
      go_wp2
      go_ret
      exact ⟨_, rfl, HN.out, hws, HBW.out⟩

end Go.Proofs.YtehklbekaflokaaDoor

/- facetref.FlatsOf. -/
namespace Go.Proofs.YtehklbekaflokaaDoor
open Go.RowKit
attribute [local go_sem ↓] Go.wp_at_zero Go.wp_at_succ

theorem bitD0 (s k : Nat) : (((s : Int) / 2 ^ k).tmod 2 == 0) = !s.testBit k := by
  have eq0 : (s : Int) / 2 ^ k = ((s / 2 ^ k : Nat) : Int) := by simp
  rw [eq0, Nat.testBit_eq_decide_div_mod_eq]
  generalize s / 2 ^ k = q
  have h2 : ((q : Int)).tmod 2 = ((q % 2 : Nat) : Int) := by rw [Int.tmod_eq_emod_of_nonneg (by omega)]; omega
  rw [h2]
  rcases Nat.mod_two_eq_zero_or_one q with h | h <;> rw [h] <;> rfl

set_option maxRecDepth 100000 in
set_option maxHeartbeats 3200000 in
theorem flatsD_any (n : Nat) (bs : List Int) (v : Value) (w : World) (hv : Sl w.heap.size 3 w v (ints bs)) (h8 : B8 bs) (hn : n ≤ 8) :
    Calls Tryd.prog 8 #[.agg #[.int .i64 n, v]] w fun e w' => ∃ u, e = .returned u ∧ Sl 0 3 w' u (ints (setsTo (flatB n bs) (2 ^ n))) ∧ Below w.heap.size w w' := by
  obtain ⟨i3, hi3, hz30, hz31, hz32⟩ := info_parts Tryd.info3
  obtain ⟨ao, cap, hvv, hlc, hcm⟩ := sl_open hv
  subst hvv
  obtain ⟨W, hW⟩ : ∃ W, W = w.alloc (.cells #[.int .i64 n, .slice ao bs.length cap] 24) := ⟨_, rfl⟩
  have HBA : Hid (Below w.heap.size w W) := by rw [hW]; exact (Below.refl _ _).alloc (Nat.le_refl _) _
  have c0 : W.cell? ⟨w.heap.size, 0, none⟩ = some (.int .i64 n) := by rw [hW]; simp
  have HRK := ranks_any n bs (.slice ao bs.length cap) W ((hv.below HBA.out (Nat.le_refl _)).more HBA.out.size) h8 hn
  obtain ⟨tn, htn⟩ : ∃ tn : Nat, tn = 2 ^ n := ⟨_, rfl⟩
  have HTN : Hid (tn = 2 ^ n) := htn
  have hti : (2 : Int) ^ n = (tn : Int) := by rw [htn]; simp
  have htl : tn ≤ 256 := by rw [htn]; exact show 2 ^ n ≤ 2 ^ 8 from Nat.pow_le_pow_right (by omega) hn
  have hwt : IntKind.i64.wrap (tn : Int) = (tn : Int) := wrap_small (by omega)
  rw [← htn] at HRK ⊢
  have HRKH : Hid (Calls Tryd.prog 29 #[.agg #[.int .i64 n, .slice ao bs.length cap]] W fun e w' => ∃ b, e = .returned (.slice (some ⟨b, 0, none⟩) tn tn) ∧ w'.rowIs b 3 tn (fun s => .int .i64 (rkN bs s : Int)) ∧ W.heap.size ≤ b ∧ Below W.heap.size W w') := HRK
  clear hv h8 htn HRK
  go_enter Tryd.func8, Tryd.ntmps8
  go_wp2_with fail
  rw [← hW]
  clear hW
  refine HRKH.out.mono ?_
  rintro e w1 ⟨rb, rfl, hrow, hrb, hb1⟩
  have HROW : Hid (w1.rowIs rb 3 tn (fun s => .int .i64 (rkN bs s : Int))) := hrow
  have HB1 : Hid (Below W.heap.size W w1) := hb1
  have d0 : w1.cell? ⟨w.heap.size, 0, none⟩ = some (.int .i64 n) := (hb1.cell (lt_of_cell c0)).trans c0
  have HC : Hid (∀ W', Below w1.heap.size w1 W' → W'.cell? ⟨w.heap.size, 0, none⟩ = some (.int .i64 n) ∧ ∀ s, s < tn → W'.cell? ⟨rb, s, none⟩ = some (.int .i64 (rkN bs s : Int))) := fun W' h => by
    refine ⟨(h.cell (lt_of_cell d0)).trans d0, fun s hs => ?_⟩
    have := hrow.cell hs
    exact (h.cell (lt_of_cell this)).trans this
  have HBW : Hid (Below w.heap.size w w1) := HBA.out.trans (hb1.mono HBA.out.size)
  clear hrow hb1 hrb HRKH c0 d0
  go_wp2
  go_loopw [4, 5, 6, 7] (fun gv x _ _ wr => ∃ k : Nat, k ≤ tn ∧ x = .int .i64 k ∧ wr.ownsRow w1.heap.size 3 1 gv (setsTo (flatB n bs) k).length (ints (setsTo (flatB n bs) k)) ∧ Below w1.heap.size w1 wr) (fun _ x _ _ _ => tn - (intOf x).toNat)
  case atStart => exact ⟨0, Nat.zero_le _, rfl, World.ownsRow_nil _ _ _ _, Below.refl _ _⟩
  case round =>
    obtain ⟨k, hk, rfl, ho, hbr⟩ := hrel
    have HO : Hid (wr.ownsRow w1.heap.size 3 1 u4 (setsTo (flatB n bs) k).length (ints (setsTo (flatB n bs) k))) := ho
    have HBR : Hid (Below w1.heap.size w1 wr) := hbr
    obtain ⟨d0, -⟩ := HC.out wr hbr
    have hsz : w1.heap.size ≤ wr.heap.size := hbr.size
    have hkl := setsTo_len (flatB n bs) k
    clear ho hbr
    by_cases hlt : k < tn
    · have kI : (k : Int) < (tn : Int) := by omega
      have HSS : Hid (setsTo (flatB n bs) (k + 1) = setsTo (flatB n bs) k ++ (if flatB n bs k = true then [(k : Int)] else [])) := setsTo_succ _ k
      have HFE : Hid (flatB n bs k = flatD bs k n) := flat_eq hn (by omega)
      generalize setsTo (flatB n bs) k = L at *
      obtain ⟨xo, xc, hxv⟩ := owns_form HO.out
      subst hxv
      go_wp2
      go_loopw [6, 7] (fun okv iv wq => ∃ i : Nat, i ≤ n ∧ iv = .int .i64 i ∧ okv = .bool (flatD bs k i) ∧ ∃ q, wq = wr.drewN q) (fun _ iv _ => n - (intOf iv).toNat)
      case atStart => exact ⟨0, Nat.zero_le _, rfl, rfl, 0, rfl⟩
      case round =>
        obtain ⟨i, hi, rfl, rfl, q, rfl⟩ := hrel
        obtain ⟨wb, hwb⟩ : ∃ wb, wb = wr.drewN q := ⟨_, rfl⟩
        rw [← hwb]
        have d1 : wb.cell? ⟨w.heap.size, 0, none⟩ = some (.int .i64 n) := by rw [hwb]; exact d0
        have HQ : Hid (∃ q, wb = wr.drewN q) := ⟨q, hwb⟩
        have HCE : Hid (∀ s, s < tn → wb.cell? ⟨rb, s, none⟩ = some (.int .i64 (rkN bs s : Int))) := fun s hs => by rw [hwb]; exact (HC.out wr HBR.out).2 s hs
        clear hwb
        by_cases hin : i < n
        · have iI : (i : Int) < (n : Int) := by omega
          have i0 : (0 : Int) ≤ (i : Int) := by omega
          have tb := bitD0 k i
          have hi8 : i < 8 := by omega
          have HFD : Hid (flatD bs k (i + 1) = if k.testBit i = false ∧ rkN bs (k + 2 ^ i) = rkN bs k then false else flatD bs k i) := rfl
          have HA := or_add8 k (by omega) i hi8
          have HPL : Hid (k.testBit i = false → k + 2 ^ i < tn) := fun h => by
            rw [HA h, HTN.out]
            exact Nat.or_lt_two_pow (by rw [← HTN.out]; exact hlt) (Nat.pow_lt_pow_right (by omega) hin)
          clear HA
          cases hb : k.testBit i
          · have hpl := HPL.out hb
            rw [hb] at tb HFD
            obtain ⟨pw, hpw⟩ : ∃ pw : Nat, pw = 2 ^ i := ⟨_, rfl⟩
            have hpI : (2 : Int) ^ i = (pw : Int) := by rw [hpw]; simp
            rw [← hpw] at hpl HFD
            rw [hpI] at tb
            have hpw0 : IntKind.i64.wrap (pw : Int) = (pw : Int) := wrap_small (by omega)
            have hpw1 : IntKind.i64.wrap ((k : Int) + (pw : Int)) = ((k + pw : Nat) : Int) := by rw [← Int.natCast_add]; exact wrap_small (by omega)
            have x1 := HCE.out (k + pw) hpl
            have x2 := HCE.out k hlt
            have z0 : (0 : Int) ≤ ((k + pw : Nat) : Int) := by omega
            have z1 : ((k + pw : Nat) : Int) < (tn : Int) := by omega
            have hz2 : (0 : Int) ≤ (k : Int) := by omega
            clear hpw hb HPL
            generalize flatD bs k i = fd at *
            generalize rkN bs (k + pw) = R1 at *
            generalize rkN bs k = R2 at *
            generalize k + pw = kp at *
            by_cases hR : R1 = R2
            · have qR : ((R1 : Int) == (R2 : Int)) = true := by rw [hR]; simp
              have HF2 : Hid (flatD bs k (i + 1) = false) := by show _ = _; rw [HFD.out, if_pos ⟨rfl, hR⟩]
              clear HFD hR
              go_wp2
              refine wp_region_held_drew (S := fun w' => w'.cell? ⟨rb, kp, none⟩ = some (.int .i64 (R1 : Int)) ∧ w'.cell? ⟨rb, k, none⟩ = some (.int .i64 (R2 : Int))) (by kernel_rfl) ⟨x1, x2⟩ (fun hHeld => ?_)
              refine wpAnyH_tk (i := 0) (d := 23) (v := (.int .i64 k)) rfl rfl (by kernel_rfl) (by kernel_rfl) (by kernel_rfl) (fun _ _ _ h => h) (.inl ⟨by rfl, by (intro wq hSw; (try dsimp only at hSw); go_simp)⟩) hHeld ?_
              simp only [Act.put, List.setIfInBounds_toArray, List.set_cons_zero, List.set_cons_succ]
              refine wpAnyH_tk (i := 1) (d := 24) (v := (.int .i64 i)) rfl rfl (by kernel_rfl) (by kernel_rfl) (by kernel_rfl) (fun _ _ _ h => h) (.inl ⟨by rfl, by (intro wq hSw; (try dsimp only at hSw); go_simp)⟩) hHeld ?_
              simp only [Act.put, List.setIfInBounds_toArray, List.set_cons_zero, List.set_cons_succ]
              refine wpAnyH_tk (i := 2) (d := 25) (v := (.int .i64 ((k : Int) / (pw : Int)))) rfl rfl (by kernel_rfl) (by kernel_rfl) (by kernel_rfl) (fun _ _ _ h => h) (.inl ⟨by rfl, by (intro wq hSw; (try dsimp only at hSw); go_simp)⟩) hHeld ?_
              simp only [Act.put, List.setIfInBounds_toArray, List.set_cons_zero, List.set_cons_succ]
              refine wpAnyH_tk (i := 3) (d := 26) (v := (.int .i64 (((k : Int) / (pw : Int)).tmod 2))) rfl rfl (by kernel_rfl) (by kernel_rfl) (by kernel_rfl) (fun _ _ _ h => h) (.inl ⟨by rfl, by (intro wq hSw; (try dsimp only at hSw); go_simp)⟩) hHeld ?_
              simp only [Act.put, List.setIfInBounds_toArray, List.set_cons_zero, List.set_cons_succ]
              refine wpAnyH_tk (i := 4) (d := 27) (v := (.bool true)) rfl rfl (by kernel_rfl) (by kernel_rfl) (by kernel_rfl) (fun _ _ _ h => h) (.inl ⟨by rfl, by (intro wq hSw; (try dsimp only at hSw); go_simp)⟩) hHeld ?_
              simp only [Act.put, List.setIfInBounds_toArray, List.set_cons_zero, List.set_cons_succ]
              refine wpAnyH_tk (i := 5) (d := 28) (v := (.bool true)) rfl rfl (by kernel_rfl) (by kernel_rfl) (by kernel_rfl) (fun _ _ _ h => h) (.inl ⟨by rfl, by (intro wq hSw; (try dsimp only at hSw); go_simp)⟩) hHeld ?_
              simp only [Act.put, List.setIfInBounds_toArray, List.set_cons_zero, List.set_cons_succ]
              refine wpAnyH_tk (i := 6) (d := 29) (v := (.slice (some ⟨rb, 0, none⟩) tn tn)) rfl rfl (by kernel_rfl) (by kernel_rfl) (by kernel_rfl) (fun _ _ _ h => h) (.inl ⟨by rfl, by (intro wq hSw; (try dsimp only at hSw); go_simp)⟩) hHeld ?_
              simp only [Act.put, List.setIfInBounds_toArray, List.set_cons_zero, List.set_cons_succ]
              refine wpAnyH_tk (i := 7) (d := 30) (v := (.int .i64 k)) rfl rfl (by kernel_rfl) (by kernel_rfl) (by kernel_rfl) (fun _ _ _ h => h) (.inl ⟨by rfl, by (intro wq hSw; (try dsimp only at hSw); go_simp)⟩) hHeld ?_
              simp only [Act.put, List.setIfInBounds_toArray, List.set_cons_zero, List.set_cons_succ]
              refine wpAnyH_tk (i := 8) (d := 31) (v := (.int .i64 i)) rfl rfl (by kernel_rfl) (by kernel_rfl) (by kernel_rfl) (fun _ _ _ h => h) (.inl ⟨by rfl, by (intro wq hSw; (try dsimp only at hSw); go_simp)⟩) hHeld ?_
              simp only [Act.put, List.setIfInBounds_toArray, List.set_cons_zero, List.set_cons_succ]
              refine wpAnyH_tk (i := 9) (d := 32) (v := (.int .i64 pw)) rfl rfl (by kernel_rfl) (by kernel_rfl) (by kernel_rfl) (fun _ _ _ h => h) (.inl ⟨by rfl, by (intro wq hSw; (try dsimp only at hSw); go_simp)⟩) hHeld ?_
              simp only [Act.put, List.setIfInBounds_toArray, List.set_cons_zero, List.set_cons_succ]
              refine wpAnyH_tk (i := 10) (d := 33) (v := (.int .i64 kp)) rfl rfl (by kernel_rfl) (by kernel_rfl) (by kernel_rfl) (fun _ _ _ h => h) (.inl ⟨by rfl, by (intro wq hSw; (try dsimp only at hSw); go_simp)⟩) hHeld ?_
              simp only [Act.put, List.setIfInBounds_toArray, List.set_cons_zero, List.set_cons_succ]
              refine wpAnyH_tk (i := 11) (d := 34) (v := (.pointer (some ⟨rb, kp, none⟩))) rfl rfl (by kernel_rfl) (by kernel_rfl) (by kernel_rfl) (fun _ _ _ h => h) (.inl ⟨by rfl, by (intro wq hSw; (try dsimp only at hSw); go_simp)⟩) hHeld ?_
              simp only [Act.put, List.setIfInBounds_toArray, List.set_cons_zero, List.set_cons_succ]
              refine wpAnyH_tk (i := 12) (d := 35) (v := (.int .i64 R1)) rfl rfl (by kernel_rfl) (by kernel_rfl) (by kernel_rfl) (fun _ _ _ h => h) (.inl ⟨by rfl, by (intro wq hSw; (try dsimp only at hSw); go_simp)⟩) hHeld ?_
              simp only [Act.put, List.setIfInBounds_toArray, List.set_cons_zero, List.set_cons_succ]
              refine wpAnyH_tk (i := 13) (d := 36) (v := (.slice (some ⟨rb, 0, none⟩) tn tn)) rfl rfl (by kernel_rfl) (by kernel_rfl) (by kernel_rfl) (fun _ _ _ h => h) (.inl ⟨by rfl, by (intro wq hSw; (try dsimp only at hSw); go_simp)⟩) hHeld ?_
              simp only [Act.put, List.setIfInBounds_toArray, List.set_cons_zero, List.set_cons_succ]
              refine wpAnyH_tk (i := 14) (d := 37) (v := (.int .i64 k)) rfl rfl (by kernel_rfl) (by kernel_rfl) (by kernel_rfl) (fun _ _ _ h => h) (.inl ⟨by rfl, by (intro wq hSw; (try dsimp only at hSw); go_simp)⟩) hHeld ?_
              simp only [Act.put, List.setIfInBounds_toArray, List.set_cons_zero, List.set_cons_succ]
              refine wpAnyH_tk (i := 15) (d := 38) (v := (.pointer (some ⟨rb, k, none⟩))) rfl rfl (by kernel_rfl) (by kernel_rfl) (by kernel_rfl) (fun _ _ _ h => h) (.inl ⟨by rfl, by (intro wq hSw; (try dsimp only at hSw); go_simp)⟩) hHeld ?_
              simp only [Act.put, List.setIfInBounds_toArray, List.set_cons_zero, List.set_cons_succ]
              refine wpAnyH_tk (i := 16) (d := 39) (v := (.int .i64 R2)) rfl rfl (by kernel_rfl) (by kernel_rfl) (by kernel_rfl) (fun _ _ _ h => h) (.inl ⟨by rfl, by (intro wq hSw; (try dsimp only at hSw); go_simp)⟩) hHeld ?_
              simp only [Act.put, List.setIfInBounds_toArray, List.set_cons_zero, List.set_cons_succ]
              refine wpAnyH_tk (i := 17) (d := 40) (v := (.bool true)) rfl rfl (by kernel_rfl) (by kernel_rfl) (by kernel_rfl) (fun _ _ _ h => h) (.inl ⟨by rfl, by (intro wq hSw; (try dsimp only at hSw); go_simp)⟩) hHeld ?_
              simp only [Act.put, List.setIfInBounds_toArray, List.set_cons_zero, List.set_cons_succ]
              refine wpAnyH_tk (i := 18) (d := 41) (v := (.bool true)) rfl rfl (by kernel_rfl) (by kernel_rfl) (by kernel_rfl) (fun _ _ _ h => h) (.inl ⟨by rfl, by (intro wq hSw; (try dsimp only at hSw); go_simp)⟩) hHeld ?_
              simp only [Act.put, List.setIfInBounds_toArray, List.set_cons_zero, List.set_cons_succ]
              refine wpAnyH_done (by kernel_rfl) ?_ _
              clear hHeld x1 x2
              go_wp2
              go_roundw
              case rel => exact ⟨i + 1, by omega, by go_num, by rw [HF2.out], HQ.out.elim fun q hq => ⟨q + 1, by rw [hq]; rfl⟩⟩
              case measure => simp [intOf]; omega
            · have qR : ((R1 : Int) == (R2 : Int)) = false := by rw [beq_eq_false_iff_ne]; omega
              have HF2 : Hid (flatD bs k (i + 1) = fd) := by show _ = _; rw [HFD.out, if_neg (fun h => hR h.2)]
              clear HFD hR
              go_wp2
              refine wp_region_held_drew (S := fun w' => w'.cell? ⟨rb, kp, none⟩ = some (.int .i64 (R1 : Int)) ∧ w'.cell? ⟨rb, k, none⟩ = some (.int .i64 (R2 : Int))) (by kernel_rfl) ⟨x1, x2⟩ (fun hHeld => ?_)
              refine wpAnyH_tk (i := 0) (d := 23) (v := (.int .i64 k)) rfl rfl (by kernel_rfl) (by kernel_rfl) (by kernel_rfl) (fun _ _ _ h => h) (.inl ⟨by rfl, by (intro wq hSw; (try dsimp only at hSw); go_simp)⟩) hHeld ?_
              simp only [Act.put, List.setIfInBounds_toArray, List.set_cons_zero, List.set_cons_succ]
              refine wpAnyH_tk (i := 1) (d := 24) (v := (.int .i64 i)) rfl rfl (by kernel_rfl) (by kernel_rfl) (by kernel_rfl) (fun _ _ _ h => h) (.inl ⟨by rfl, by (intro wq hSw; (try dsimp only at hSw); go_simp)⟩) hHeld ?_
              simp only [Act.put, List.setIfInBounds_toArray, List.set_cons_zero, List.set_cons_succ]
              refine wpAnyH_tk (i := 2) (d := 25) (v := (.int .i64 ((k : Int) / (pw : Int)))) rfl rfl (by kernel_rfl) (by kernel_rfl) (by kernel_rfl) (fun _ _ _ h => h) (.inl ⟨by rfl, by (intro wq hSw; (try dsimp only at hSw); go_simp)⟩) hHeld ?_
              simp only [Act.put, List.setIfInBounds_toArray, List.set_cons_zero, List.set_cons_succ]
              refine wpAnyH_tk (i := 3) (d := 26) (v := (.int .i64 (((k : Int) / (pw : Int)).tmod 2))) rfl rfl (by kernel_rfl) (by kernel_rfl) (by kernel_rfl) (fun _ _ _ h => h) (.inl ⟨by rfl, by (intro wq hSw; (try dsimp only at hSw); go_simp)⟩) hHeld ?_
              simp only [Act.put, List.setIfInBounds_toArray, List.set_cons_zero, List.set_cons_succ]
              refine wpAnyH_tk (i := 4) (d := 27) (v := (.bool true)) rfl rfl (by kernel_rfl) (by kernel_rfl) (by kernel_rfl) (fun _ _ _ h => h) (.inl ⟨by rfl, by (intro wq hSw; (try dsimp only at hSw); go_simp)⟩) hHeld ?_
              simp only [Act.put, List.setIfInBounds_toArray, List.set_cons_zero, List.set_cons_succ]
              refine wpAnyH_tk (i := 5) (d := 28) (v := (.bool true)) rfl rfl (by kernel_rfl) (by kernel_rfl) (by kernel_rfl) (fun _ _ _ h => h) (.inl ⟨by rfl, by (intro wq hSw; (try dsimp only at hSw); go_simp)⟩) hHeld ?_
              simp only [Act.put, List.setIfInBounds_toArray, List.set_cons_zero, List.set_cons_succ]
              refine wpAnyH_tk (i := 6) (d := 29) (v := (.slice (some ⟨rb, 0, none⟩) tn tn)) rfl rfl (by kernel_rfl) (by kernel_rfl) (by kernel_rfl) (fun _ _ _ h => h) (.inl ⟨by rfl, by (intro wq hSw; (try dsimp only at hSw); go_simp)⟩) hHeld ?_
              simp only [Act.put, List.setIfInBounds_toArray, List.set_cons_zero, List.set_cons_succ]
              refine wpAnyH_tk (i := 7) (d := 30) (v := (.int .i64 k)) rfl rfl (by kernel_rfl) (by kernel_rfl) (by kernel_rfl) (fun _ _ _ h => h) (.inl ⟨by rfl, by (intro wq hSw; (try dsimp only at hSw); go_simp)⟩) hHeld ?_
              simp only [Act.put, List.setIfInBounds_toArray, List.set_cons_zero, List.set_cons_succ]
              refine wpAnyH_tk (i := 8) (d := 31) (v := (.int .i64 i)) rfl rfl (by kernel_rfl) (by kernel_rfl) (by kernel_rfl) (fun _ _ _ h => h) (.inl ⟨by rfl, by (intro wq hSw; (try dsimp only at hSw); go_simp)⟩) hHeld ?_
              simp only [Act.put, List.setIfInBounds_toArray, List.set_cons_zero, List.set_cons_succ]
              refine wpAnyH_tk (i := 9) (d := 32) (v := (.int .i64 pw)) rfl rfl (by kernel_rfl) (by kernel_rfl) (by kernel_rfl) (fun _ _ _ h => h) (.inl ⟨by rfl, by (intro wq hSw; (try dsimp only at hSw); go_simp)⟩) hHeld ?_
              simp only [Act.put, List.setIfInBounds_toArray, List.set_cons_zero, List.set_cons_succ]
              refine wpAnyH_tk (i := 10) (d := 33) (v := (.int .i64 kp)) rfl rfl (by kernel_rfl) (by kernel_rfl) (by kernel_rfl) (fun _ _ _ h => h) (.inl ⟨by rfl, by (intro wq hSw; (try dsimp only at hSw); go_simp)⟩) hHeld ?_
              simp only [Act.put, List.setIfInBounds_toArray, List.set_cons_zero, List.set_cons_succ]
              refine wpAnyH_tk (i := 11) (d := 34) (v := (.pointer (some ⟨rb, kp, none⟩))) rfl rfl (by kernel_rfl) (by kernel_rfl) (by kernel_rfl) (fun _ _ _ h => h) (.inl ⟨by rfl, by (intro wq hSw; (try dsimp only at hSw); go_simp)⟩) hHeld ?_
              simp only [Act.put, List.setIfInBounds_toArray, List.set_cons_zero, List.set_cons_succ]
              refine wpAnyH_tk (i := 12) (d := 35) (v := (.int .i64 R1)) rfl rfl (by kernel_rfl) (by kernel_rfl) (by kernel_rfl) (fun _ _ _ h => h) (.inl ⟨by rfl, by (intro wq hSw; (try dsimp only at hSw); go_simp)⟩) hHeld ?_
              simp only [Act.put, List.setIfInBounds_toArray, List.set_cons_zero, List.set_cons_succ]
              refine wpAnyH_tk (i := 13) (d := 36) (v := (.slice (some ⟨rb, 0, none⟩) tn tn)) rfl rfl (by kernel_rfl) (by kernel_rfl) (by kernel_rfl) (fun _ _ _ h => h) (.inl ⟨by rfl, by (intro wq hSw; (try dsimp only at hSw); go_simp)⟩) hHeld ?_
              simp only [Act.put, List.setIfInBounds_toArray, List.set_cons_zero, List.set_cons_succ]
              refine wpAnyH_tk (i := 14) (d := 37) (v := (.int .i64 k)) rfl rfl (by kernel_rfl) (by kernel_rfl) (by kernel_rfl) (fun _ _ _ h => h) (.inl ⟨by rfl, by (intro wq hSw; (try dsimp only at hSw); go_simp)⟩) hHeld ?_
              simp only [Act.put, List.setIfInBounds_toArray, List.set_cons_zero, List.set_cons_succ]
              refine wpAnyH_tk (i := 15) (d := 38) (v := (.pointer (some ⟨rb, k, none⟩))) rfl rfl (by kernel_rfl) (by kernel_rfl) (by kernel_rfl) (fun _ _ _ h => h) (.inl ⟨by rfl, by (intro wq hSw; (try dsimp only at hSw); go_simp)⟩) hHeld ?_
              simp only [Act.put, List.setIfInBounds_toArray, List.set_cons_zero, List.set_cons_succ]
              refine wpAnyH_tk (i := 16) (d := 39) (v := (.int .i64 R2)) rfl rfl (by kernel_rfl) (by kernel_rfl) (by kernel_rfl) (fun _ _ _ h => h) (.inl ⟨by rfl, by (intro wq hSw; (try dsimp only at hSw); go_simp)⟩) hHeld ?_
              simp only [Act.put, List.setIfInBounds_toArray, List.set_cons_zero, List.set_cons_succ]
              refine wpAnyH_tk (i := 17) (d := 40) (v := (.bool false)) rfl rfl (by kernel_rfl) (by kernel_rfl) (by kernel_rfl) (fun _ _ _ h => h) (.inl ⟨by rfl, by (intro wq hSw; (try dsimp only at hSw); go_simp)⟩) hHeld ?_
              simp only [Act.put, List.setIfInBounds_toArray, List.set_cons_zero, List.set_cons_succ]
              refine wpAnyH_tk (i := 18) (d := 41) (v := (.bool false)) rfl rfl (by kernel_rfl) (by kernel_rfl) (by kernel_rfl) (fun _ _ _ h => h) (.inl ⟨by rfl, by (intro wq hSw; (try dsimp only at hSw); go_simp)⟩) hHeld ?_
              simp only [Act.put, List.setIfInBounds_toArray, List.set_cons_zero, List.set_cons_succ]
              refine wpAnyH_done (by kernel_rfl) ?_ _
              clear hHeld x1 x2
              go_wp2
              go_roundw
              case rel => exact ⟨i + 1, by omega, by go_num, by rw [HF2.out], HQ.out.elim fun q hq => ⟨q + 1, by rw [hq]; rfl⟩⟩
              case measure => simp [intOf]; omega
          · rw [hb] at tb HFD
            have HF2 : Hid (flatD bs k (i + 1) = flatD bs k i) := by show _ = _; rw [HFD.out, if_neg (fun h => by cases h.1)]
            clear hb HPL HFD
            generalize flatD bs k i = fd at *
            go_wp2
            refine wp_region_held_drew (S := fun _ => True) (by kernel_rfl) trivial (fun hHeld => ?_)
            refine wpAnyH_tk (i := 0) (d := 23) (v := (.int .i64 k)) rfl rfl (by kernel_rfl) (by kernel_rfl) (by kernel_rfl) (fun _ _ _ h => h) (.inl ⟨by rfl, by (intro wq hSw; (try dsimp only at hSw); go_simp)⟩) hHeld ?_
            simp only [Act.put, List.setIfInBounds_toArray, List.set_cons_zero, List.set_cons_succ]
            refine wpAnyH_tk (i := 1) (d := 24) (v := (.int .i64 i)) rfl rfl (by kernel_rfl) (by kernel_rfl) (by kernel_rfl) (fun _ _ _ h => h) (.inl ⟨by rfl, by (intro wq hSw; (try dsimp only at hSw); go_simp)⟩) hHeld ?_
            simp only [Act.put, List.setIfInBounds_toArray, List.set_cons_zero, List.set_cons_succ]
            refine wpAnyH_tk (i := 2) (d := 25) (v := (.int .i64 ((k : Int) / 2 ^ i))) rfl rfl (by kernel_rfl) (by kernel_rfl) (by kernel_rfl) (fun _ _ _ h => h) (.inl ⟨by rfl, by (intro wq hSw; (try dsimp only at hSw); go_simp)⟩) hHeld ?_
            simp only [Act.put, List.setIfInBounds_toArray, List.set_cons_zero, List.set_cons_succ]
            refine wpAnyH_tk (i := 3) (d := 26) (v := (.int .i64 (((k : Int) / 2 ^ i).tmod 2))) rfl rfl (by kernel_rfl) (by kernel_rfl) (by kernel_rfl) (fun _ _ _ h => h) (.inl ⟨by rfl, by (intro wq hSw; (try dsimp only at hSw); go_simp)⟩) hHeld ?_
            simp only [Act.put, List.setIfInBounds_toArray, List.set_cons_zero, List.set_cons_succ]
            refine wpAnyH_tk (i := 4) (d := 27) (v := (.bool false)) rfl rfl (by kernel_rfl) (by kernel_rfl) (by kernel_rfl) (fun _ _ _ h => h) (.inl ⟨by rfl, by (intro wq hSw; (try dsimp only at hSw); go_simp)⟩) hHeld ?_
            simp only [Act.put, List.setIfInBounds_toArray, List.set_cons_zero, List.set_cons_succ]
            refine wpAnyH_tk (i := 5) (d := 28) (v := (.bool false)) rfl rfl (by kernel_rfl) (by kernel_rfl) (by kernel_rfl) (fun _ _ _ h => h) (.inl ⟨by rfl, by (intro wq hSw; (try dsimp only at hSw); go_simp)⟩) hHeld ?_
            simp only [Act.put, List.setIfInBounds_toArray, List.set_cons_zero, List.set_cons_succ]
            refine wpAnyH_tk (i := 6) (d := 29) (v := undef) rfl rfl (by kernel_rfl) (by kernel_rfl) (by kernel_rfl) (fun _ _ _ h => h) (.inr ⟨by rfl, rfl⟩) hHeld ?_
            simp only [Act.put, List.setIfInBounds_toArray, List.set_cons_zero, List.set_cons_succ]
            refine wpAnyH_tk (i := 7) (d := 30) (v := undef) rfl rfl (by kernel_rfl) (by kernel_rfl) (by kernel_rfl) (fun _ _ _ h => h) (.inr ⟨by rfl, rfl⟩) hHeld ?_
            simp only [Act.put, List.setIfInBounds_toArray, List.set_cons_zero, List.set_cons_succ]
            refine wpAnyH_tk (i := 8) (d := 31) (v := undef) rfl rfl (by kernel_rfl) (by kernel_rfl) (by kernel_rfl) (fun _ _ _ h => h) (.inr ⟨by rfl, rfl⟩) hHeld ?_
            simp only [Act.put, List.setIfInBounds_toArray, List.set_cons_zero, List.set_cons_succ]
            refine wpAnyH_tk (i := 9) (d := 32) (v := undef) rfl rfl (by kernel_rfl) (by kernel_rfl) (by kernel_rfl) (fun _ _ _ h => h) (.inr ⟨by rfl, rfl⟩) hHeld ?_
            simp only [Act.put, List.setIfInBounds_toArray, List.set_cons_zero, List.set_cons_succ]
            refine wpAnyH_tk (i := 10) (d := 33) (v := undef) rfl rfl (by kernel_rfl) (by kernel_rfl) (by kernel_rfl) (fun _ _ _ h => h) (.inr ⟨by rfl, rfl⟩) hHeld ?_
            simp only [Act.put, List.setIfInBounds_toArray, List.set_cons_zero, List.set_cons_succ]
            refine wpAnyH_tk (i := 11) (d := 34) (v := undef) rfl rfl (by kernel_rfl) (by kernel_rfl) (by kernel_rfl) (fun _ _ _ h => h) (.inr ⟨by rfl, rfl⟩) hHeld ?_
            simp only [Act.put, List.setIfInBounds_toArray, List.set_cons_zero, List.set_cons_succ]
            refine wpAnyH_tk (i := 12) (d := 35) (v := undef) rfl rfl (by kernel_rfl) (by kernel_rfl) (by kernel_rfl) (fun _ _ _ h => h) (.inr ⟨by rfl, rfl⟩) hHeld ?_
            simp only [Act.put, List.setIfInBounds_toArray, List.set_cons_zero, List.set_cons_succ]
            refine wpAnyH_tk (i := 13) (d := 36) (v := undef) rfl rfl (by kernel_rfl) (by kernel_rfl) (by kernel_rfl) (fun _ _ _ h => h) (.inr ⟨by rfl, rfl⟩) hHeld ?_
            simp only [Act.put, List.setIfInBounds_toArray, List.set_cons_zero, List.set_cons_succ]
            refine wpAnyH_tk (i := 14) (d := 37) (v := undef) rfl rfl (by kernel_rfl) (by kernel_rfl) (by kernel_rfl) (fun _ _ _ h => h) (.inr ⟨by rfl, rfl⟩) hHeld ?_
            simp only [Act.put, List.setIfInBounds_toArray, List.set_cons_zero, List.set_cons_succ]
            refine wpAnyH_tk (i := 15) (d := 38) (v := undef) rfl rfl (by kernel_rfl) (by kernel_rfl) (by kernel_rfl) (fun _ _ _ h => h) (.inr ⟨by rfl, rfl⟩) hHeld ?_
            simp only [Act.put, List.setIfInBounds_toArray, List.set_cons_zero, List.set_cons_succ]
            refine wpAnyH_tk (i := 16) (d := 39) (v := undef) rfl rfl (by kernel_rfl) (by kernel_rfl) (by kernel_rfl) (fun _ _ _ h => h) (.inr ⟨by rfl, rfl⟩) hHeld ?_
            simp only [Act.put, List.setIfInBounds_toArray, List.set_cons_zero, List.set_cons_succ]
            refine wpAnyH_tk (i := 17) (d := 40) (v := undef) rfl rfl (by kernel_rfl) (by kernel_rfl) (by kernel_rfl) (fun _ _ _ h => h) (.inr ⟨by rfl, rfl⟩) hHeld ?_
            simp only [Act.put, List.setIfInBounds_toArray, List.set_cons_zero, List.set_cons_succ]
            refine wpAnyH_tk (i := 18) (d := 41) (v := (.bool false)) rfl rfl (by kernel_rfl) (by kernel_rfl) (by kernel_rfl) (fun _ _ _ h => h) (.inl ⟨by rfl, by (intro wq hSw; (try dsimp only at hSw); go_simp)⟩) hHeld ?_
            simp only [Act.put, List.setIfInBounds_toArray, List.set_cons_zero, List.set_cons_succ]
            refine wpAnyH_done (by kernel_rfl) ?_ _
            clear hHeld
            go_wp2
            go_roundw
            case rel => exact ⟨i + 1, by omega, by go_num, by rw [HF2.out], HQ.out.elim fun q hq => ⟨q + 1, by rw [hq]; rfl⟩⟩
            case measure => simp [intOf]; omega
        · have hie : n = i := by omega
          have iD : decide ((i : Int) < (n : Int)) = false := decide_eq_false (by omega)
          have HFE2 : Hid (flatB n bs k = flatD bs k i) := by rw [← hie]; exact HFE.out
          have HO2 : Hid (wb.ownsRow w1.heap.size 3 1 (.slice xo L.length xc) L.length (ints L)) := HQ.out.elim fun q hq => by rw [hq]; exact HO.out
          have HB2 : Hid (Below w1.heap.size w1 wb) := HQ.out.elim fun q hq => by rw [hq]; exact ⟨HBR.out.os, HBR.out.tape, HBR.out.output, HBR.out.size, HBR.out.block⟩
          have hsz2 : w1.heap.size ≤ wb.heap.size := HB2.out.size
          clear HFE hie HQ
          generalize flatD bs k i = fd at *
          cases fd
          · have HS2 : Hid (setsTo (flatB n bs) (k + 1) = L) := by show _ = _; rw [HSS.out, HFE2.out]; simp
            clear HSS
            go_wp2
            go_roundw
            case rel => exact ⟨k + 1, by omega, by go_num, by rw [HS2.out]; exact HO2.out, HB2.out⟩
            case measure => simp [intOf]; omega
          · have HS2 : Hid (setsTo (flatB n bs) (k + 1) = L ++ [(k : Int)]) := by show _ = _; rw [HSS.out, HFE2.out]; simp
            clear HSS
            go_wp2_with (first | (at_builtin; refine wpList_append_own _ rfl _ _ 22 rfl w1.heap.size 3 i3 (.int .i64 0) 1 8 Tryd.underlying22 hi3 hz30 hz31 hz32 rfl (by decide) _ _ _ rfl (HO2.out.alloc _) ⟨wb.heap.size, 0, none⟩ 1 1 [.int .i64 k] rfl rfl (one_new _ _ _) (one_int _) ?c3 ?c4 ?c5 ?_))
            case c3 => unfold maxLen; omega
            case c4 => omega
            case c5 => first | exact hsz2 | (simp; omega)
            intro v' w7 ho hg _
            have R := owns_push (z := (k : Int)) (N := L.length + 1) hsz2 (l := L) HO2.out HB2.out ho hg rfl
            have R1 : Hid (w7.ownsRow w1.heap.size 3 1 v' (setsTo (flatB n bs) (k + 1)).length (ints (setsTo (flatB n bs) (k + 1)))) := by
              have h := R.1
              show World.ownsRow _ _ _ _ _ _ _
              rw [HS2.out, List.length_append, List.length_singleton]
              exact h
            have R2 : Hid (Below w1.heap.size w1 w7) := R.2
            clear R ho hg
            go_wp2
            go_roundw
            case rel => exact ⟨k + 1, by omega, by go_num, R1.out, R2.out⟩
            case measure => simp [intOf]; omega
    · have hke : tn = k := by omega
      subst hke
      have HB9 : Hid (Below w.heap.size w wr) := HBW.out.trans (HBR.out.mono HBW.out.size)
      go_wp2
      go_ret
      exact ⟨_, rfl, Sl.own HO.out, HB9.out⟩

end Go.Proofs.YtehklbekaflokaaDoor

/- facetref.RankOf. -/
namespace Go.Proofs.YtehklbekaflokaaDoor
open Go.RowKit
attribute [local go_sem ↓] Go.wp_at_zero Go.wp_at_succ

set_option maxRecDepth 100000 in
set_option maxHeartbeats 1600000 in
theorem rankD_any (N : Int) (bs : List Int) (s : Nat) (v : Value) (w : World) (hv : Sl w.heap.size 3 w v (ints bs)) (h8 : B8 bs) (hs : s < 256) :
    Calls Tryd.prog 10 #[.agg #[.int .i64 N, v], .int .i64 s] w fun e w' => e = .returned (.int .i64 (rkN bs s)) ∧ Below w.heap.size w w' := by
  obtain ⟨ao, cap, hvv, hlc, hcm⟩ := sl_open hv
  subst hvv
  obtain ⟨W, hW⟩ : ∃ W, W = w.alloc (.cells #[.int .i64 N, .slice ao bs.length cap] 24) := ⟨_, rfl⟩
  have HBA : Hid (Below w.heap.size w W) := by rw [hW]; exact (Below.refl _ _).alloc (Nat.le_refl _) _
  have c0 : W.cell? ⟨w.heap.size, 0, none⟩ = some (.int .i64 N) := by rw [hW]; simp
  have c1 : W.cell? ⟨w.heap.size, 1, none⟩ = some (.slice ao bs.length cap) := by rw [hW]; simp
  have HC : Hid (∀ W', Below W.heap.size W W' → W'.cell? ⟨w.heap.size, 0, none⟩ = some (.int .i64 N) ∧ W'.cell? ⟨w.heap.size, 1, none⟩ = some (.slice ao bs.length cap)) := fun W' h =>
    ⟨(h.cell (lt_of_cell c0)).trans c0, (h.cell (lt_of_cell c1)).trans c1⟩
  have HFR : Hid (∀ W' (t : Nat), Below W.heap.size W W' → t < 256 → Calls Tryd.prog 28 #[.agg #[.int .i64 N, .slice ao bs.length cap], .int .i64 t] W' fun e w' => e = .returned (.bool (freeB bs t)) ∧ Below W'.heap.size W' w') := fun W' t h ht =>
    isFree_any N bs t _ W' (((hv.below HBA.out (Nat.le_refl _)).below h (Nat.le_refl _)).more (Nat.le_trans HBA.out.size h.size)) h8 ht
  clear hv h8
  go_enter Tryd.func10, Tryd.ntmps10
  go_wp2
  rw [← hW]
  clear hW c0 c1
  go_loopw [5, 6] (fun b i wr => ∃ k : Nat, k ≤ s + 1 ∧ i = .int .i64 k ∧ b = .int .i64 (rdTo bs s k) ∧ Below W.heap.size W wr) (fun _ i _ => s + 1 - (intOf i).toNat)
  case atStart => exact ⟨0, Nat.zero_le _, rfl, rfl, Below.refl _ _⟩
  case round =>
    obtain ⟨k, hk, rfl, rfl, hbr⟩ := hrel
    have HBR : Hid (Below W.heap.size W wr) := hbr
    clear hbr
    by_cases hlt : k < s + 1
    · have kI : (k : Int) ≤ (s : Int) := by omega
      have e1 : bits .and .i64 (k : Int) (s : Int) = ((k &&& s : Nat) : Int) := bits_and_i64_nat k s (by omega) (by omega)
      have HS1 : Hid (rdTo bs s (k + 1) = if ((k &&& s) == k) = true ∧ rdTo bs s k < szN k ∧ freeB bs k = true then szN k else rdTo bs s k) := rfl
      have HSZ : Hid (∀ W', Calls Tryd.prog 23 #[.int .i64 k] W' fun e w' => e = .returned (.int .i64 (szN k)) ∧ Below W'.heap.size W' w') := fun W' => size8_any k W' (by omega)
      have hk8 : k < 256 := by omega
      have hq8 := szN_le k
      have hr8 := rdTo_le8 bs s k
      obtain ⟨g0, g1⟩ := HC.out wr HBR.out
      generalize szN k = q at *
      generalize rdTo bs s k = R at *
      by_cases h1 : ((k &&& s) == k) = true
      · have q1 : (((k &&& s : Nat) : Int) == (k : Int)) = true := by rw [beq_iff_eq] at h1 ⊢; omega
        rw [h1] at HS1
        clear h1
        generalize k &&& s = ks at *
        by_cases h2 : R < q
        · have q2 : (R : Int) < (q : Int) := by omega
          go_wp2_with fail
          refine (HSZ.out wr).mono ?_
          rintro e w2 ⟨rfl, hb2⟩
          have HB2 : Hid (Below W.heap.size W w2) := HBR.out.trans (hb2.mono HBR.out.size)
          obtain ⟨f0, f1⟩ := HC.out w2 HB2.out
          have HFK := HFR.out w2 k HB2.out hk8
          have HFKH : Hid (Calls Tryd.prog 28 #[.agg #[.int .i64 N, .slice ao bs.length cap], .int .i64 k] w2 fun e w' => e = .returned (.bool (freeB bs k)) ∧ Below w2.heap.size w2 w') := HFK
          clear hb2 HFK
          generalize freeB bs k = fb at *
          go_wp2_with fail
          refine HFKH.out.mono ?_
          rintro e w3 ⟨rfl, hb3⟩
          have HB3 : Hid (Below W.heap.size W w3) := HB2.out.trans (hb3.mono HB2.out.size)
          clear hb3
          cases fb
          · have HS2 : Hid (rdTo bs s (k + 1) = R) := by show _ = _; rw [HS1.out]; simp
            go_wp2
            go_roundw
            case rel => exact ⟨k + 1, by omega, by go_num, by rw [HS2.out], HB3.out⟩
            case measure => simp [intOf]; omega
          · have HS2 : Hid (rdTo bs s (k + 1) = q) := by show _ = _; rw [HS1.out]; simp [h2]
            go_wp2_with fail
            refine (HSZ.out w3).mono ?_
            rintro e w4 ⟨rfl, hb4⟩
            have HB4 : Hid (Below W.heap.size W w4) := HB3.out.trans (hb4.mono HB3.out.size)
            clear hb4
            go_wp2
            go_roundw
            case rel => exact ⟨k + 1, by omega, by go_num, by rw [HS2.out], HB4.out⟩
            case measure => simp [intOf]; omega
        · have q2 : decide ((R : Int) < (q : Int)) = false := decide_eq_false (by omega)
          have HS2 : Hid (rdTo bs s (k + 1) = R) := by show _ = _; rw [HS1.out]; simp [h2]
          go_wp2_with fail
          refine (HSZ.out wr).mono ?_
          rintro e w2 ⟨rfl, hb2⟩
          have HB2 : Hid (Below W.heap.size W w2) := HBR.out.trans (hb2.mono HBR.out.size)
          clear hb2
          go_wp2
          go_roundw
          case rel => exact ⟨k + 1, by omega, by go_num, by rw [HS2.out], HB2.out⟩
          case measure => simp [intOf]; omega
      · rw [Bool.not_eq_true] at h1
        have q1 : (((k &&& s : Nat) : Int) == (k : Int)) = false := by rw [beq_eq_false_iff_ne] at h1 ⊢; omega
        have HS2 : Hid (rdTo bs s (k + 1) = R) := by show _ = _; rw [HS1.out, h1]; simp
        clear h1 HS1
        generalize k &&& s = ks at *
        go_wp2
        go_roundw
        case rel => exact ⟨k + 1, by omega, by go_num, by rw [HS2.out], HBR.out⟩
        case measure => simp [intOf]; omega
    · have hke : k = s + 1 := by omega
      subst hke
      have kD : decide (((s + 1 : Nat) : Int) ≤ (s : Int)) = false := decide_eq_false (by omega)
      have HRR : Hid (rdTo bs s (s + 1) = rkN bs s) := rd_rk
      have HBW : Hid (Below w.heap.size w wr) := HBA.out.trans (HBR.out.mono HBA.out.size)
      go_wp2
      go_ret
      exact ⟨by rw [HRR.out]; rfl, HBW.out⟩

end Go.Proofs.YtehklbekaflokaaDoor
