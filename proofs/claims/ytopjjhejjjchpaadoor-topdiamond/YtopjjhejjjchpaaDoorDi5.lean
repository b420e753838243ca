/- The law TopDiamond: the walk. -/
import Derived.Test.YtopjjhejjjchpaaDoorDiY
import Derived.Test.YtopjjhejjjchpaaDoorGY
import Derived.Test.YtopjjhejjjchpaaDoorVo2
import Derived.Test.YtopjjhejjjchpaaDoorTwA
import Derived.Test.YtopjjhejjjchpaaDoorBet3
import Derived.Test.YtopjjhejjjchpaaDoorLtZ
import Derived.Test.YtopjjhejjjchpaaDoorRgA
namespace Go.Proofs.YtopjjhejjjchpaaDoor
open Go.RowKit Lin
attribute [local go_sem ↓] Go.wp_at_zero Go.wp_at_succ

theorem wrap_inD (z : Int) : In64 (wrap64 z) := by
  unfold In64 wrap64; omega

/-- A level's row, and its set. -/
theorem lev_row {d : Nat} {LV : Nat → List (List Int)} (h : DiaL d LV) {t : Nat} (ht : t < d + 2) {ro : Option Addr} {rc : Nat} {X : World} (hM : Mat X.heap.size 22 3 X (.slice ro (LV t).length rc) (LV t)) {i : Nat} (hi : i < (LV t).length) :
    ∃ rb of so sl sc, ro = some ⟨rb, of, none⟩ ∧ X.cell? ⟨rb, of + i, none⟩ = some (.slice so sl sc) ∧ setN ((LV t).getD i []) < 1024 ∧ ∀ q, Calls Tryd.prog 7 #[.slice so sl sc] (X.drewN q) fun e w' => e = .returned (.int .i64 (setN ((LV t).getD i []) : Nat)) ∧ w' = X.drewN q := by
  obtain ⟨rb, of, cp, rv, hs, _, hc, hsl⟩ := mat_cell hM hi
  simp only [Value.slice.injEq, true_and] at hs
  obtain ⟨hro, _⟩ := hs
  obtain ⟨so, sc, rfl, _, _⟩ := sl_open hsl
  exact ⟨rb, of, so, _, sc, hro, hc, setN_ltn (n := 10) _ (h.ent t ht i hi), fun q => setR_any X.heap.size _ _ (X.drewN q) (hsl.drewN q) (h.ent t ht i hi)⟩

theorem lev_rows {d : Nat} {LV : Nat → List (List Int)} (h : DiaL d LV) {t : Nat} (ht : t < d + 2) {ro : Option Addr} {rc : Nat} {X : World} (hM : Mat X.heap.size 22 3 X (.slice ro (LV t).length rc) (LV t)) :
    ∃ rb of, ro = some ⟨rb, of, none⟩ ∧ ∀ i, i < (LV t).length → ∃ so sl sc, X.cell? ⟨rb, of + i, none⟩ = some (.slice so sl sc) ∧ setN ((LV t).getD i []) < 1024 ∧ Calls Tryd.prog 7 #[.slice so sl sc] X fun e w' => e = .returned (.int .i64 (setN ((LV t).getD i []) : Nat)) ∧ w' = X := by
  obtain ⟨rb, of, _, _, _, h0, _⟩ := lev_row h ht hM (h.pos t ht)
  refine ⟨rb, of, h0, fun i hi => ?_⟩
  obtain ⟨rb', of', so, sl, sc, h1, h2, h3, h4⟩ := lev_row h ht hM hi
  rw [h0] at h1
  simp only [Option.some.injEq, Addr.mk.injEq, and_true] at h1
  obtain ⟨rfl, rfl⟩ := h1
  exact ⟨so, sl, sc, h2, h3, h4 0⟩

set_option maxRecDepth 100000 in
set_option maxHeartbeats 6400000 in
theorem topDiamond_any (B : Nat) (raw : List Int) (d0 m0 a0 b0 : Int) (v : Value) (w : World) (hv : Sl B 3 w v (ints raw)) (hr : ∀ z ∈ raw, In64 z) (hd : In64 d0) (hm : In64 m0) (ha : In64 a0) (hb : In64 b0) (hT : TabB w) :
    Calls Tryd.prog 3 #[v, .int .i64 d0, .int .i64 m0, .int .i64 a0, .int .i64 b0] w fun e w' => e = .returned (.bool true) ∧ Below w.heap.size w w' := by
  obtain ⟨ao, cap, hvv, hlc, hcm⟩ := sl_open hv
  subst hvv
  have HV : Hid (Sl B 3 w (.slice ao raw.length cap) (ints raw)) := hv
  have HRR : Hid (∀ z ∈ raw, In64 z) := hr
  have HD : Hid (In64 d0) := hd
  have HMM : Hid (In64 m0) := hm
  have HAA : Hid (In64 a0) := ha
  have HBB : Hid (In64 b0) := hb
  have HT : Hid (TabB w) := hT
  clear hv hr hd hm ha hb hT
  by_cases h1 : 256 < raw.length
  · have b1 : decide ((256 : Int) < (raw.length : Int)) = true := decide_eq_true (by omega)
    go_enter Tryd.func3, Tryd.ntmps3
    go_wp2
    go_ret
    exact ⟨rfl, Below.refl _ _⟩
  · have b1 : decide ((256 : Int) < (raw.length : Int)) = false := decide_eq_false (by omega)
    have HRL : Hid (raw.length ≤ 1000000) := by
      show _ ≤ _
      omega
    clear h1
    go_enter Tryd.func3, Tryd.ntmps3
    go_wp2_with fail
    refine (pick_any d0 4 w (by omega) (by omega) HD.out).mono ?_
    rintro e w1 ⟨z, rfl, hz, rfl⟩
    obtain ⟨n, hn⟩ : ∃ n : Nat, (n : Int) = 1 + z := ⟨(1 + z).toNat, by omega⟩
    have hz1' := hz.1
    have hz2' := hz.2
    have HN : Hid ((n : Int) = 1 + z) := hn
    have hn1 : 1 ≤ n := by omega
    have hn4 : n ≤ 4 := by omega
    clear hz hn
    go_wp2_with fail
    rw [← HN.out]
    refine (pick_any m0 6 w1 (by omega) (by omega) HMM.out).mono ?_
    rintro e w2 ⟨y, rfl, hy, rfl⟩
    obtain ⟨k5, hk⟩ : ∃ k : Nat, (k : Int) = y := ⟨y.toNat, by omega⟩
    have hk5 : k5 ≤ 5 := by omega
    subst hk
    clear hy hz1' hz2' HN
    go_wp2_with fail
    refine (polytopeOf_any B raw _ n k5 3 w2 HV.out HRR.out HRL.out hn1 hn4 (by omega) (by omega)).mono ?_
    rintro e w3 ⟨x, m, rfl, hml, hbx, hmat, hb3⟩
    have hgood : Good n (polyL n m) := poly_good hn1 hn4 hbx (by omega) (by omega)
    have hlen : (polyL n m).length ≤ 10 := by rw [poly_len]; omega
    have HLA := latticeP_any n (polyL n m) x w3 (hmat.any (Nat.le_refl _)) hgood hlen (HT.out.below hb3)
    have HB3 : Hid (Below w2.heap.size w2 w3) := hb3
    obtain ⟨xo, xc, hxv, _, _⟩ := mat_open hmat
    subst hxv
    clear hml hbx hmat hb3 hgood hlen HV HRR HRL HD HMM HT
    go_wp2_with fail
    refine HLA.mono ?_
    clear HLA
    rintro e w4 ⟨u, C, s, A, rfl, hF, hL, hb4⟩
    obtain ⟨LV, hLV, hIn⟩ := hL.named
    have HDI : Hid (DiaL n LV) := hF.dia hIn
    obtain ⟨lo, lc, hu, hrw⟩ := hLV.rows
    subst hu
    obtain ⟨b, o, _, _, hlo, _, _⟩ := hrw w4 0 (Below.refl _ _) (by omega)
    subst hlo
    have HC : Hid (∀ X t, Below w4.heap.size w4 X → t < n + 2 → ∃ ro rc, X.cell? ⟨b, o + t, none⟩ = some (.slice ro (LV t).length rc) ∧ Mat X.heap.size 22 3 X (.slice ro (LV t).length rc) (LV t)) := fun X t hX ht => by
      obtain ⟨b', o', ro, rc, e1, e2, e3⟩ := hrw X t hX ht
      simp only [Option.some.injEq, Addr.mk.injEq, and_true] at e1
      obtain ⟨rfl, rfl⟩ := e1
      exact ⟨ro, rc, e2, e3⟩
    have HB4 : Hid (Below w2.heap.size w2 w4) := HB3.out.trans (hb4.mono HB3.out.size)
    clear hF hL hIn hLV hrw hb4 HB3
    obtain ⟨k, hk⟩ : ∃ k : Nat, (k : Int) = pickF a0 n := ⟨(pickF a0 n).toNat, by have := pickF_bd (c := a0) (n := n) (by omega); omega⟩
    have hkn : k < n := by have := pickF_bd (c := a0) (n := n) (by omega); omega
    have HPA : Hid (∀ X, Calls Tryd.prog 4 #[.int .i64 a0, .int .i64 n] X fun e w' => e = .returned (.int .i64 k) ∧ w' = X) := fun X => by rw [hk]; exact pick_val a0 _ X (by omega) (by omega) HAA.out
    clear hk
    obtain ⟨r0, c0, hc0, hM0⟩ := HC.out w4 k (Below.refl _ _) (by omega)
    obtain ⟨r1, c1, hc1, hM1⟩ := HC.out w4 (k + 1) (Below.refl _ _) (by omega)
    obtain ⟨r2, c2, hc2, hM2⟩ := HC.out w4 (k + 2) (Below.refl _ _) (by omega)
    have hp0 := HDI.out.pos k (by omega)
    have hp1 := HDI.out.pos (k + 1) (by omega)
    have hp2 := HDI.out.pos (k + 2) (by omega)
    have hq0 := HDI.out.small k (by omega)
    have hq1 := HDI.out.small (k + 1) (by omega)
    have hq2 := HDI.out.small (k + 2) (by omega)
    obtain ⟨i0, hi0⟩ : ∃ i0 : Nat, (i0 : Int) = pickF b0 (LV k).length := ⟨(pickF b0 (LV k).length).toNat, by have := pickF_bd (c := b0) (n := (LV k).length) (by omega); omega⟩
    have hi0l : i0 < (LV k).length := by have := pickF_bd (c := b0) (n := (LV k).length) (by omega); omega
    have HPB : Hid (∀ X, Calls Tryd.prog 4 #[.int .i64 b0, .int .i64 (LV k).length] X fun e w' => e = .returned (.int .i64 i0) ∧ w' = X) := fun X => by rw [hi0]; exact pick_val b0 _ X (by omega) (by omega) HBB.out
    obtain ⟨rb0, of0, so0, sl0, sc0, hr0, hcr0, hx1024, hset0⟩ := lev_row HDI.out (by omega) hM0 hi0l
    subst hr0
    have HSX : Hid (∀ q, Calls Tryd.prog 7 #[.slice so0 sl0 sc0] (w4.drewN q) fun e w' => e = .returned (.int .i64 (setN ((LV k).getD i0 []) : Nat)) ∧ w' = w4.drewN q) := hset0
    have HTW : Hid (∀ i2, i2 < (LV (k + 2)).length → setN ((LV k).getD i0 []) &&& setN ((LV (k + 2)).getD i2 []) = setN ((LV k).getD i0 []) → ((LV (k + 1)).filter (btD (setN ((LV k).getD i0 [])) (setN ((LV (k + 2)).getD i2 [])))).length = 2) := fun i2 h2 hs => HDI.out.two k i0 i2 hkn hi0l h2 hs
    generalize setN ((LV k).getD i0 []) = x at *
    have hi0I : (i0 : Int) < ((LV k).length : Int) := by omega
    have hi0I0 : (0 : Int) ≤ (i0 : Int) := by omega
    have HM1 : Hid (Mat w4.heap.size 22 3 w4 (.slice r1 (LV (k + 1)).length c1) (LV (k + 1))) := hM1
    have HM2 : Hid (Mat w4.heap.size 22 3 w4 (.slice r2 (LV (k + 2)).length c2) (LV (k + 2))) := hM2
    obtain ⟨l0, hl0⟩ : ∃ l0, l0 = (LV k).length := ⟨_, rfl⟩
    obtain ⟨l1, hl1⟩ : ∃ l1, l1 = (LV (k + 1)).length := ⟨_, rfl⟩
    obtain ⟨l2, hl2⟩ : ∃ l2, l2 = (LV (k + 2)).length := ⟨_, rfl⟩
    have HL1 : Hid (l1 = (LV (k + 1)).length) := hl1
    have HL2 : Hid (l2 = (LV (k + 2)).length) := hl2
    rw [← hl0] at hc0 hp0 hq0 hi0I hi0l HPB
    rw [← hl1] at hc1 hp1 hq1
    rw [← hl2] at hc2 hp2 hq2
    have z0 : ((l0 : Int) == 0) = false := by simp; omega
    have z1 : ((l1 : Int) == 0) = false := by simp; omega
    have z2 : ((l2 : Int) == 0) = false := by simp; omega
    have y0 : ¬ l0 = 0 := by omega
    have y1 : ¬ l1 = 0 := by omega
    have y2 : ¬ l2 = 0 := by omega
    have x0 : (0 : Int) ≤ (k : Int) + 1 ∧ (k : Int) + 1 < (n : Int) + 2 := by omega
    have x1 : (0 : Int) ≤ (k : Int) + 2 ∧ (k : Int) + 2 < (n : Int) + 2 := by omega
    clear hl0 hl1 hl2 hM0 hM1 hM2 hset0 hi0
    go_wp2_with fail
    refine (HPA.out w4).mono ?_
    rintro e w5 ⟨rfl, rfl⟩
    clear HPA
    go_wp2_with fail
    go_quiet ((first | (go_at_call 4; exact Calls.quiet_of_same (w := w5) (HPB.out _)) | (go_at_call 7; exact Calls.quiet_of_same (w := w5) (HSX.out _))))
    obtain ⟨W5, hW5⟩ : ∃ W5, W5 = w5.drewN nq := ⟨_, rfl⟩
    rw [← hW5]
    have e1 : W5.cell? ⟨b, o + (k + 1), none⟩ = some (.slice r1 l1 c1) := by rw [hW5]; exact hc1
    have e2 : W5.cell? ⟨b, o + (k + 2), none⟩ = some (.slice r2 l2 c2) := by rw [hW5]; exact hc2
    have HB5 : Hid (Below w5.heap.size w5 W5) := by rw [hW5]; exact ⟨rfl, rfl, rfl, Nat.le_refl _, fun _ _ => rfl⟩
    have hN1 : Mat W5.heap.size 22 3 W5 (.slice r1 (LV (k + 1)).length c1) (LV (k + 1)) := by rw [hW5]; exact HM1.out.drewN nq
    have hN2 : Mat W5.heap.size 22 3 W5 (.slice r2 (LV (k + 2)).length c2) (LV (k + 2)) := by rw [hW5]; exact HM2.out.drewN nq
    obtain ⟨rb1, of1, hr1, hR1⟩ := lev_rows HDI.out (by omega) hN1
    obtain ⟨rb2, of2, hr2, hR2⟩ := lev_rows HDI.out (by omega) hN2
    have HBW : Hid (Below w2.heap.size w2 W5) := HB4.out.trans (HB5.out.mono HB4.out.size)
    obtain ⟨L1, hL1⟩ : ∃ L1, L1 = LV (k + 1) := ⟨_, rfl⟩
    obtain ⟨L2, hL2⟩ : ∃ L2, L2 = LV (k + 2) := ⟨_, rfl⟩
    rw [← hL1] at hR1 HL1
    rw [← hL2] at hR2 HL2
    have HTW2 : Hid (∀ i2, i2 < L2.length → x &&& setN (L2.getD i2 []) = x → (L1.filter (btD x (setN (L2.getD i2 [])))).length = 2) := by rw [hL1, hL2]; exact HTW.out
    rw [← HL1.out] at hR1
    rw [← HL2.out] at hR2
    subst hr1 hr2
    have HR1 : Hid (∀ i, i < l1 → ∃ so sl sc, W5.cell? ⟨rb1, of1 + i, none⟩ = some (.slice so sl sc) ∧ setN (L1.getD i []) < 1024 ∧ Calls Tryd.prog 7 #[.slice so sl sc] W5 fun e w' => e = .returned (.int .i64 (setN (L1.getD i []) : Nat)) ∧ w' = W5) := hR1
    have HR2 : Hid (∀ i, i < l2 → ∃ so sl sc, W5.cell? ⟨rb2, of2 + i, none⟩ = some (.slice so sl sc) ∧ setN (L2.getD i []) < 1024 ∧ Calls Tryd.prog 7 #[.slice so sl sc] W5 fun e w' => e = .returned (.int .i64 (setN (L2.getD i []) : Nat)) ∧ w' = W5) := hR2
    have HC5 : Hid (∀ X t, Below W5.heap.size W5 X → t < n + 2 → ∃ ro rc, X.cell? ⟨b, o + t, none⟩ = some (.slice ro (LV t).length rc) ∧ Mat X.heap.size 22 3 X (.slice ro (LV t).length rc) (LV t)) := fun X t hX ht => HC.out X t (HB5.out.trans (hX.mono HB5.out.size)) ht
    clear hW5 hc0 hc1 hc2 hcr0 hN1 hN2 hR1 hR2 HM1 HM2 HTW HSX HPB hL1 hL2 HC HB4 HB5 hi0I hi0I0 hi0l z0 z1 z2 y0 y1 y2
    go_wp2
    go_loopw [15] (fun iv wr => ∃ i : Nat, i ≤ l2 ∧ iv = .int .i64 (i : Int) ∧ wr = W5) (fun iv _ => l2 - (intOf iv).toNat)
    case atStart => exact ⟨0, Nat.zero_le _, rfl, rfl⟩
    case round =>
      obtain ⟨i, hi, rfl, rfl⟩ := hrel
      by_cases hlt : i < l2
      · obtain ⟨so, sl, sc, hcs, hy, hset⟩ := HR2.out i hlt
        have HTY : Hid (x &&& setN (L2.getD i []) = x → (L1.filter (btD x (setN (L2.getD i [])))).length = 2) := HTW2.out i (by rw [← HL2.out]; exact hlt)
        generalize setN (L2.getD i []) = y at *
        have hiI : (i : Int) < (l2 : Int) := by omega
        have hiI0 : (0 : Int) ≤ (i : Int) := by omega
        have hand : bits .and .i64 (x : Int) (y : Int) = ((x &&& y : Nat) : Int) := bits_and_i64_nat _ _ (by omega) (by omega)
        obtain ⟨xy, hxy⟩ : ∃ xy : Nat, xy = x &&& y := ⟨_, rfl⟩
        rw [← hxy] at hand HTY
        clear hxy HR2 HTW2 HDI HC5
        go_wp2_with fail
        refine hset.mono ?_
        rintro e w6 ⟨rfl, rfl⟩
        by_cases hxe : xy = x
        · have hne : ((xy : Int) != (x : Int)) = false := by simp [hxe]
          have HCT : Hid ((L1.filter (btD x y)).length = 2) := HTY.out hxe
          clear HTY hset hcs hxe
          go_wp2
          go_loopw [17, 18] (fun nv jv wr => ∃ j : Nat, j ≤ l1 ∧ jv = .int .i64 (j : Int) ∧ nv = .int .i64 (ctD L1 x y j : Nat) ∧ wr = w6) (fun _ jv _ => l1 - (intOf jv).toNat)
          case atStart => exact ⟨0, Nat.zero_le _, rfl, rfl, rfl⟩
          case round =>
            obtain ⟨j, hj, rfl, rfl, rfl⟩ := hrel
            have hcl : ctD L1 x y j ≤ 1024 := by have := ctD_le L1 x y j; have := HL1.out; omega
            by_cases hjl : j < l1
            · obtain ⟨so1, sl1, sc1, hcs1, hz1, hset1⟩ := HR1.out j hjl
              have HSU : Hid (ctD L1 x y (j + 1) = ctD L1 x y j + if btD x y (L1.getD j []) then 1 else 0) := ctD_succ (by rw [← HL1.out]; exact hjl)
              have HBT : Hid (btD x y (L1.getD j []) = (decide (x &&& setN (L1.getD j []) = x) && decide (setN (L1.getD j []) &&& y = setN (L1.getD j [])))) := rfl
              generalize btD x y (L1.getD j []) = bt at *
              generalize setN (L1.getD j []) = zz at *
              have hjI : (j : Int) < (l1 : Int) := by omega
              have hjI0 : (0 : Int) ≤ (j : Int) := by omega
              have hand1 : bits .and .i64 (x : Int) (zz : Int) = ((x &&& zz : Nat) : Int) := bits_and_i64_nat _ _ (by omega) (by omega)
              have hand2 : bits .and .i64 (zz : Int) (y : Int) = ((zz &&& y : Nat) : Int) := bits_and_i64_nat _ _ (by omega) (by omega)
              obtain ⟨xz, hxz⟩ : ∃ xz : Nat, xz = x &&& zz := ⟨_, rfl⟩
              obtain ⟨zy, hzy⟩ : ∃ zy : Nat, zy = zz &&& y := ⟨_, rfl⟩
              rw [← hxz] at hand1 HBT
              rw [← hzy] at hand2 HBT
              obtain ⟨ct, hct⟩ : ∃ ct, ct = ctD L1 x y j := ⟨_, rfl⟩
              rw [← hct] at HSU hcl ⊢
              clear hxz hzy hct HR1 HCT
              go_wp2_with fail
              refine hset1.mono ?_
              rintro e w7 ⟨rfl, rfl⟩
              clear hset1 hcs1
              by_cases q1 : xz = x
              · by_cases q2 : zy = zz
                · have d1 : ((xz : Int) == (x : Int)) = true := by simp [q1]
                  have d2 : ((zy : Int) == (zz : Int)) = true := by simp [q2]
                  have HNX : Hid (ctD L1 x y (j + 1) = ct + 1) := by
                    show _ = _
                    rw [HSU.out, HBT.out, decide_eq_true q1, decide_eq_true q2]; rfl
                  clear q1 q2 HSU HBT
                  go_wp2
                  exact ⟨⟨j + 1, hjl, by go_num, by rw [HNX.out]; go_num, trivial⟩, by simp [intOf]; omega⟩
                · have d1 : ((xz : Int) == (x : Int)) = true := by simp [q1]
                  have d2 : ((zy : Int) == (zz : Int)) = false := by simp; omega
                  have HNX : Hid (ctD L1 x y (j + 1) = ct) := by
                    show _ = _
                    rw [HSU.out, HBT.out, decide_eq_true q1, decide_eq_false q2]; rfl
                  clear q1 q2 HSU HBT
                  go_wp2
                  exact ⟨⟨j + 1, hjl, by go_num, by rw [HNX.out], trivial⟩, by simp [intOf]; omega⟩
              · have d1 : ((xz : Int) == (x : Int)) = false := by simp; omega
                have HNX : Hid (ctD L1 x y (j + 1) = ct) := by
                  show _ = _
                  rw [HSU.out, HBT.out, decide_eq_false q1]; rfl
                clear q1 HSU HBT
                go_wp2
                exact ⟨⟨j + 1, hjl, by go_num, by rw [HNX.out], trivial⟩, by simp [intOf]; omega⟩
            · have HE : Hid (ctD L1 x y j = 2) := by
                show _ = _
                rw [ctD_all (by rw [← HL1.out]; exact hjl), HCT.out]
              rw [HE.out]
              clear HCT HR1 hcl
              go_wp2
              exact ⟨⟨i + 1, hlt, by go_num, trivial⟩, by simp [intOf]; omega⟩
        · have hne : ((xy : Int) != (x : Int)) = true := by simp; omega
          clear HTY hset hcs hxe
          go_wp2
          exact ⟨⟨i + 1, hlt, by go_num, trivial⟩, by simp [intOf]; omega⟩
      · have HC6 : Hid (∀ X t, Below wr.heap.size wr X → t < n + 2 → ∃ ro rc, X.cell? ⟨b, o + t, none⟩ = some (.slice ro (LV t).length rc) ∧ Mat X.heap.size 22 3 X (.slice ro (LV t).length rc) (LV t)) := HC5.out
        have HBV : Hid (Below w2.heap.size w2 wr) := HBW.out
        obtain ⟨t7, ht7⟩ : ∃ t7 : Nat, (t7 : Int) = pickF (wrap64 (a0.tdiv 7)) n := ⟨(pickF (wrap64 (a0.tdiv 7)) n).toNat, by have := pickF_bd (c := wrap64 (a0.tdiv 7)) (n := n) (by omega); omega⟩
        have ht7n : t7 < n := by have := pickF_bd (c := wrap64 (a0.tdiv 7)) (n := n) (by omega); omega
        have HP7 : Hid (Calls Tryd.prog 4 #[.int .i64 (wrap64 (a0.tdiv 7)), .int .i64 n] wr fun e w' => e = .returned (.int .i64 t7) ∧ w' = wr) := by
          show Calls _ _ _ _ _
          rw [ht7]; exact pick_val _ _ wr (by omega) (by omega) (wrap_inD _)
        obtain ⟨rg, cg, hcg, hMg⟩ := HC6.out wr (1 + t7) (Below.refl _ _) (by omega)
        obtain ⟨rh, ch, hch, hMh⟩ := HC6.out wr n (Below.refl _ _) (by omega)
        have hpg := HDI.out.pos (1 + t7) (by omega)
        have hph := HDI.out.pos n (by omega)
        have hqg := HDI.out.small (1 + t7) (by omega)
        have hqh := HDI.out.small n (by omega)
        obtain ⟨ig, hig⟩ : ∃ ig : Nat, (ig : Int) = pickF (wrap64 (b0.tdiv 7)) (LV (1 + t7)).length := ⟨(pickF (wrap64 (b0.tdiv 7)) (LV (1 + t7)).length).toNat, by have := pickF_bd (c := wrap64 (b0.tdiv 7)) (n := (LV (1 + t7)).length) (by omega); omega⟩
        have higl : ig < (LV (1 + t7)).length := by have := pickF_bd (c := wrap64 (b0.tdiv 7)) (n := (LV (1 + t7)).length) (by omega); omega
        obtain ⟨ih, hih⟩ : ∃ ih : Nat, (ih : Int) = pickF (wrap64 (wrap64 (a0.tdiv 3) + b0)) (LV n).length := ⟨(pickF (wrap64 (wrap64 (a0.tdiv 3) + b0)) (LV n).length).toNat, by have := pickF_bd (c := wrap64 (wrap64 (a0.tdiv 3) + b0)) (n := (LV n).length) (by omega); omega⟩
        have hihl : ih < (LV n).length := by have := pickF_bd (c := wrap64 (wrap64 (a0.tdiv 3) + b0)) (n := (LV n).length) (by omega); omega
        have HPG : Hid (∀ X, Calls Tryd.prog 4 #[.int .i64 (wrap64 (b0.tdiv 7)), .int .i64 (LV (1 + t7)).length] X fun e w' => e = .returned (.int .i64 ig) ∧ w' = X) := fun X => by
          rw [hig]; exact pick_val _ _ X (by omega) (by omega) (wrap_inD _)
        have HPH : Hid (∀ X, Calls Tryd.prog 4 #[.int .i64 (wrap64 (wrap64 (a0.tdiv 3) + b0)), .int .i64 (LV n).length] X fun e w' => e = .returned (.int .i64 ih) ∧ w' = X) := fun X => by
          rw [hih]; exact pick_val _ _ X (by omega) (by omega) (wrap_inD _)
        obtain ⟨rbg, ofg, sog, slg, scg, hrg, hcrg, hgl, hsetg⟩ := lev_row HDI.out (by omega) hMg higl
        obtain ⟨rbh, ofh, soh, slh, sch, hrh, hcrh, hhl, hseth⟩ := lev_row HDI.out (by omega) hMh hihl
        subst hrg hrh
        obtain ⟨tt, htt, hmm⟩ := HDI.out.com (1 + t7) n ig ih (by omega) (by omega) higl hihl
        have HSG : Hid (∀ q, Calls Tryd.prog 7 #[.slice sog slg scg] (wr.drewN q) fun e w' => e = .returned (.int .i64 (setN ((LV (1 + t7)).getD ig []) : Nat)) ∧ w' = wr.drewN q) := hsetg
        have HSH : Hid (∀ q, Calls Tryd.prog 7 #[.slice soh slh sch] (wr.drewN q) fun e w' => e = .returned (.int .i64 (setN ((LV n).getD ih []) : Nat)) ∧ w' = wr.drewN q) := hseth
        generalize setN ((LV (1 + t7)).getD ig []) = xg at *
        generalize setN ((LV n).getD ih []) = xh at *
        have hand : bits .and .i64 (xg : Int) (xh : Int) = ((xg &&& xh : Nat) : Int) := bits_and_i64_nat _ _ (by omega) (by omega)
        have hul : xg &&& xh < 1024 := Nat.lt_of_le_of_lt Nat.and_le_left hgl
        generalize xg &&& xh = u at *
        have HMM : Hid (memL u ∈ LV tt) := hmm
        have HUL : Hid (u < 2 ^ 10) := hul
        obtain ⟨lg, hlg⟩ : ∃ lg, lg = (LV (1 + t7)).length := ⟨_, rfl⟩
        obtain ⟨lh, hlh⟩ : ∃ lh, lh = (LV n).length := ⟨_, rfl⟩
        rw [← hlg] at hcg hpg hqg higl HPG
        rw [← hlh] at hch hph hqh hihl HPH
        have higI : (ig : Int) < (lg : Int) := by omega
        have higI0 : (0 : Int) ≤ (ig : Int) := by omega
        have hihI : (ih : Int) < (lh : Int) := by omega
        have hihI0 : (0 : Int) ≤ (ih : Int) := by omega
        have v0 : (0 : Int) ≤ 1 + (t7 : Int) ∧ 1 + (t7 : Int) < (n : Int) + 2 := by omega
        have v1 : (0 : Int) ≤ (n : Int) ∧ (n : Int) < (n : Int) + 2 := by omega
        have u7 : (7 : Int) ≠ 0 := by decide
        have u3 : (3 : Int) ≠ 0 := by decide
        clear HR1 HR2 HTW2 e1 HC5 HBW hmm hul hsetg hseth hig hih hMg hMh hlg hlh ht7
        go_wp2_with fail
        refine HP7.out.mono ?_
        rintro e w6 ⟨rfl, rfl⟩
        clear HP7
        go_wp2_with fail
        go_quiet ((first | (go_at_call 4; with_reducible exact Calls.quiet_of_same (w := w6) (HPG.out _)) | (go_at_call 4; with_reducible exact Calls.quiet_of_same (w := w6) (HPH.out _)) | (go_at_call 7; with_reducible exact Calls.quiet_of_same (w := w6) (HSG.out _)) | (go_at_call 7; with_reducible exact Calls.quiet_of_same (w := w6) (HSH.out _))))
        obtain ⟨W6, hW6⟩ : ∃ W6, W6 = w6.drewN nq := ⟨_, rfl⟩
        rw [← hW6]
        have HB6 : Hid (Below w6.heap.size w6 W6) := by rw [hW6]; exact ⟨rfl, rfl, rfl, Nat.le_refl _, fun _ _ => rfl⟩
        have HC7 : Hid (∀ X t, Below W6.heap.size W6 X → t < n + 2 → ∃ ro rc, X.cell? ⟨b, o + t, none⟩ = some (.slice ro (LV t).length rc) ∧ Mat X.heap.size 22 3 X (.slice ro (LV t).length rc) (LV t)) := fun X t hX ht => HC6.out X t (HB6.out.trans (hX.mono HB6.out.size)) ht
        have HBU : Hid (Below w2.heap.size w2 W6) := HBV.out.trans (HB6.out.mono HBV.out.size)
        clear hW6 HB6 HC6 HBV HPG HPH HSG HSH hcg hch hcrg hcrh e2 higI higI0 hihI hihI0 v0 v1 HDI
        go_wp2
        go_loopw [22] (fun iv wr => ∃ i : Nat, i ≤ tt ∧ iv = .int .i64 (i : Int) ∧ Below W6.heap.size W6 wr) (fun iv _ => n + 2 - (intOf iv).toNat)
        case atStart => exact ⟨0, Nat.zero_le _, rfl, Below.refl _ _⟩
        case round =>
          obtain ⟨j, hj, rfl, hbr⟩ := hrel
          obtain ⟨ro, rc, hcc, hMM⟩ := HC7.out wr j hbr (by omega)
          have HM7 : Hid (∀ X, Below wr.heap.size wr X → X.cell? ⟨b, o + j, none⟩ = some (.slice ro (LV j).length rc) ∧ Mat X.heap.size 22 3 X (.slice ro (LV j).length rc) (LV j)) := fun X hX => ⟨(hX.cell (lt_of_cell hcc)).trans hcc, (hMM.below hX (Nat.le_refl _)).any (Nat.le_refl _)⟩
          have HBR : Hid (Below W6.heap.size W6 wr) := hbr
          have HNF : Hid ((LV j).any (fun r => r == memL u) = false → j < tt) := fun h => by
            refine Nat.lt_of_le_of_ne hj fun e => ?_
            subst e
            have := List.any_eq_false.1 h _ HMM.out
            simp at this
          have hjI : (j : Int) < (n : Int) + 2 := by omega
          have hjI0 : (0 : Int) ≤ (j : Int) := by omega
          clear hbr hMM HC7 HMM
          go_upto_region 30 with fail
          refine wp_region_held_drew (S := fun w' => w'.cell? ⟨b, o + j, none⟩ = some (.slice ro (LV j).length rc)) (by kernel_rfl) (HM7.out _ ((Below.refl _ _).drew)).1 (fun hHeld => ?_)
          refine wpAnyH_tk (i := 0) (d := 188) (v := .slice (some ⟨b, o, none⟩) (n + 2) lc) rfl rfl (by kernel_rfl) (by kernel_rfl) (by kernel_rfl) (fun _ _ _ h => h) (.inl ⟨by rfl, by (intro wq hSw; (try dsimp only at hSw); go_simp; (try (first | rfl | omega)))⟩) hHeld ?_
          simp only [Act.put, List.setIfInBounds_toArray, List.set_cons_zero, List.set_cons_succ]
          refine wpAnyH_tk (i := 1) (d := 189) (v := .int .i64 j) rfl rfl (by kernel_rfl) (by kernel_rfl) (by kernel_rfl) (fun _ _ _ h => h) (.inl ⟨by rfl, by (intro wq hSw; (try dsimp only at hSw); go_simp; (try (first | rfl | omega)))⟩) hHeld ?_
          simp only [Act.put, List.setIfInBounds_toArray, List.set_cons_zero, List.set_cons_succ]
          refine wpAnyH_tk (i := 2) (d := 190) (v := .pointer (some ⟨b, o + j, none⟩)) rfl rfl (by kernel_rfl) (by kernel_rfl) (by kernel_rfl) (fun _ _ _ h => h) (.inl ⟨by rfl, by (intro wq hSw; (try dsimp only at hSw); go_simp; (try (first | rfl | omega)))⟩) hHeld ?_
          simp only [Act.put, List.setIfInBounds_toArray, List.set_cons_zero, List.set_cons_succ]
          refine wpAnyH_tk (i := 3) (d := 191) (v := .slice ro (LV j).length rc) rfl rfl (by kernel_rfl) (by kernel_rfl) (by kernel_rfl) (fun _ _ _ h => h) (.inl ⟨by rfl, by (intro wq hSw; (try dsimp only at hSw); go_simp; (try (first | rfl | omega)))⟩) hHeld ?_
          simp only [Act.put, List.setIfInBounds_toArray, List.set_cons_zero, List.set_cons_succ]
          refine wpAnyH_tk (i := 4) (d := 192) (v := .int .i64 u) rfl rfl (by kernel_rfl) (by kernel_rfl) (by kernel_rfl) (fun _ _ _ h => h) (.inl ⟨by rfl, by (intro wq hSw; (try dsimp only at hSw); go_simp; (try (first | rfl | omega)))⟩) hHeld ?_
          simp only [Act.put, List.setIfInBounds_toArray, List.set_cons_zero, List.set_cons_succ]
          refine wpAnyH_ready (rs := [5]) (by kernel_rfl) (by simp) ?_
          refine ready_tk (i := 5) rfl (by rfl) (fun K hK => ?_) AllReadyH.nil
          go_simp
          refine (members_any u 10 _ HUL.out (by omega)).mono ?_
          rintro e w8 ⟨mv, rfl, hmo, hb8⟩
          have hb8' : Below wr.heap.size wr w8 := (Below.refl _ _).drew.trans hb8
          obtain ⟨mo, mc, hmv⟩ := owns_form hmo
          subst hmv
          have HHO := holdsD_any w8.heap.size (memL u) (LV j) _ _ w8 ((Sl.own (B := 0) hmo).more (Nat.zero_le _)) (HM7.out w8 hb8').2
          have HB8 : Hid (Below wr.heap.size wr w8) := hb8'
          clear hmo hb8 hb8'
          refine hK.out _ _ (HM7.out _ HB8.out).1 (fun hHeld => ?_)
          clear hK K
          refine wpAnyH_ready (rs := [6]) (by kernel_rfl) (by simp) ?_
          refine ready_tk (i := 6) rfl (by rfl) (fun K hK => ?_) AllReadyH.nil
          go_simp
          refine HHO.mono ?_
          rintro e w9 ⟨rfl, nn, hw9⟩
          have HB9 : Hid (Below wr.heap.size wr w9) := by rw [hw9]; exact below_drewN HB8.out nn
          clear hw9 HHO
          refine hK.out _ _ (HM7.out _ HB9.out).1 (fun hHeld => ?_)
          clear hK K
          refine wpAnyH_done (by kernel_rfl) ?_ _
          clear hHeld
          have HBX : Hid (Below W6.heap.size W6 w9) := HBR.out.trans (HB9.out.mono HBR.out.size)
          have HBY : Hid (Below w2.heap.size w2 w9) := HBU.out.trans (HBX.out.mono HBU.out.size)
          generalize (LV j).any (fun r => r == memL u) = bv at *
          clear HM7 hcc
          cases bv
          · have hjt := HNF.out rfl
            clear HNF
            go_wp2
            exact ⟨⟨j + 1, hjt, by go_num, HBX.out⟩, by simp [intOf]; omega⟩
          · clear HNF
            go_wp2
            go_ret
            exact ⟨rfl, HBY.out⟩

end Go.Proofs.YtopjjhejjjchpaaDoor
