import Derived.Test.YtobcdcmmeabecaaGreatCtH
/- The document's way by differences: bounds and lists. -/
namespace Go.Proofs.YtobcdcmmeabecaaGreat
open Go.RowKit

theorem dfN_bd {d : Nat} {G : Nat → Int} {B : Nat} (h : ∀ i, i ≤ d → (G i).natAbs ≤ B) : ∀ j i, j + i ≤ d → (dfN G j i).natAbs ≤ 2 ^ j * B
  | 0, i, hi => by have := h i (by omega); simpa [dfN] using this
  | j + 1, i, hi => by
    have h1 := dfN_bd h j (i + 1) (by omega)
    have h2 := dfN_bd h j i (by omega)
    show (dfN G j (i + 1) - dfN G j i).natAbs ≤ _
    have e : 2 ^ (j + 1) * B = 2 ^ j * B + 2 ^ j * B := by rw [Nat.pow_succ, Nat.mul_comm (2 ^ j) 2, Nat.mul_assoc]; omega
    rw [e]
    generalize 2 ^ j * B = q at *
    omega

theorem fcN_bd {j : Nat} : ∀ t, j + t ≤ 3 → (fcN j t).natAbs ≤ 3 ^ t
  | 0, _ => by simp [fcN]
  | t + 1, h => by
    show (fcN j t * ((j : Int) + t + 1)).natAbs ≤ _
    rw [Int.natAbs_mul, Nat.pow_succ]
    exact Nat.mul_le_mul (fcN_bd t (by omega)) (by omega)

theorem eterm_bd {d j p : Nat} {G : Nat → Int} (hd : d ≤ 3) (hj : j ≤ d) (h : ∀ i, i ≤ d → (G i).natAbs ≤ 20000000000000) : (dfN G j 0 * fcN j (d - j)).natAbs ≤ 5000000000000000 ∧ (dfN G j 0 * fcN j (d - j) * flN 0 j p).natAbs ≤ 400000000000000000 := by
  have h1 : (dfN G j 0).natAbs ≤ 160000000000000 := Nat.le_trans (dfN_bd h j 0 (by omega)) (Nat.le_trans (Nat.mul_le_mul_right _ (Nat.pow_le_pow_right (by decide) (show j ≤ 3 by omega))) (by decide))
  have h2 : (fcN j (d - j)).natAbs ≤ 27 := Nat.le_trans (fcN_bd (d - j) (by omega)) (Nat.le_trans (Nat.pow_le_pow_right (by decide) (show d - j ≤ 3 by omega)) (by decide))
  have h3 : (flN 0 j p).natAbs ≤ 64 := Nat.le_trans (flN_bd (by decide) (by decide) j p (by omega)) (Nat.le_trans (Nat.pow_le_pow_right (by decide) (show j ≤ 3 by omega)) (by decide))
  have h4 : (dfN G j 0 * fcN j (d - j)).natAbs ≤ 5000000000000000 := by
    rw [Int.natAbs_mul]
    exact Nat.le_trans (Nat.mul_le_mul h1 h2) (by decide)
  refine ⟨h4, ?_⟩
  rw [Int.natAbs_mul]
  exact Nat.le_trans (Nat.mul_le_mul h4 h3) (by decide)

theorem eoS_bd {d p : Nat} {G : Nat → Int} (hd : d ≤ 3) (h : ∀ i, i ≤ d → (G i).natAbs ≤ 20000000000000) : ∀ j, j ≤ d + 1 → (eoS d G j p).natAbs ≤ j * 400000000000000000
  | 0, _ => by simp [eoS]
  | j + 1, hj => by
    have h1 := eoS_bd (p := p) hd h j (by omega)
    have h2 := (eterm_bd (p := p) hd (show j ≤ d by omega) h).2
    show (eoS d G j p + dfN G j 0 * fcN j (d - j) * flN 0 j p).natAbs ≤ _
    generalize dfN G j 0 * fcN j (d - j) * flN 0 j p = q at *
    generalize eoS d G j p = z at *
    omega

/-- The j-th differences, n of them. -/
def dfL (G : Nat → Int) (j n : Nat) : List Int := (List.range n).map (dfN G j)

theorem dfL_len (G : Nat → Int) (j n : Nat) : (dfL G j n).length = n := by simp [dfL]

theorem dfL_get {G : Nat → Int} {j n k : Nat} (hk : k < n) : (dfL G j n).getD k 0 = dfN G j k := by
  unfold dfL
  rw [List.getD_eq_getElem?_getD, List.getElem?_map, List.getElem?_range hk]
  rfl

/-- The next base, as far as i numbers of this one have been gone through. -/
def moS (j i p : Nat) : Int := if p < i then flN 0 (j + 1) p else if p = i then (if i = 0 then 0 else flN 0 j (i - 1)) else 0

theorem moS_zero (j p : Nat) : moS j 0 p = 0 := by
  unfold moS
  rw [if_neg (by omega)]
  by_cases h : p = 0 <;> simp [h]

theorem moS_end (j p : Nat) (hp : p ≤ j + 1) : moS j (j + 1) p = flN 0 (j + 1) p := by
  unfold moS
  by_cases h : p < j + 1
  · rw [if_pos h]
  · rw [if_neg h, if_pos (by omega), if_neg (by omega), show p = j + 1 by omega]
    show flN 0 j j = flN 0 j (j + 1) * (0 - (j : Int)) + flN 0 j j
    rw [flN_none 0 j (j + 1) (by omega)]
    simp

/-- What a round makes of the number at i, and of the one behind it. -/
theorem moS_step (j i p : Nat) : moS j (i + 1) p = if p = i then moS j i i - (j : Int) * flN 0 j i else if p = i + 1 then flN 0 j i else moS j i p := by
  unfold moS
  by_cases h1 : p = i
  · rw [if_pos (by omega), if_pos h1, if_neg (by omega), if_pos rfl, h1]
    cases i with
    | zero =>
      show flN 0 j 0 * (0 - (j : Int)) = _
      rw [if_pos rfl, Int.zero_sub, Int.mul_neg, Int.mul_comm, Int.zero_sub]
    | succ i =>
      show flN 0 j (i + 1) * (0 - (j : Int)) + flN 0 j i = _
      rw [if_neg (by omega), Int.zero_sub, Int.mul_neg, Int.mul_comm, Nat.add_sub_cancel]
      generalize (j : Int) * flN 0 j (i + 1) = q
      omega
  · rw [if_neg h1]
    by_cases h2 : p = i + 1
    · rw [if_neg (by omega), if_pos h2, if_neg (by omega), if_pos h2, Nat.add_sub_cancel]
    · by_cases h3 : p < i
      · simp only [if_neg h2, if_pos h3, if_pos (show p < i + 1 by omega)]
      · simp only [if_neg h1, if_neg h2, if_neg h3, if_neg (show ¬ p < i + 1 by omega)]

theorem moS_next (j i : Nat) : moS j i (i + 1) = 0 := by
  unfold moS
  rw [if_neg (by omega), if_neg (by omega)]

theorem moS_bd {j i p : Nat} (hj : j ≤ 3) : (moS j i p).natAbs ≤ 256 := by
  have hf : ∀ q, (flN 0 j q).natAbs ≤ 64 := fun q => Nat.le_trans (flN_bd (by decide) (by decide) j q hj) (Nat.le_trans (Nat.pow_le_pow_right (by decide) hj) (by decide))
  have hm : ∀ q, (flN 0 j q * (0 - (j : Int))).natAbs ≤ 64 * 3 := fun q => by
    rw [Int.natAbs_mul]
    exact Nat.mul_le_mul (hf q) (by omega)
  unfold moS
  split
  · cases p with
    | zero =>
      show (flN 0 j 0 * (0 - (j : Int))).natAbs ≤ _
      have := hm 0
      omega
    | succ p =>
      show (flN 0 j (p + 1) * (0 - (j : Int)) + flN 0 j p).natAbs ≤ _
      have h1 := hm (p + 1)
      have h2 := hf p
      generalize flN 0 j (p + 1) * (0 - (j : Int)) = q at *
      omega
  · split
    · split
      · simp
      · have := hf (i - 1); omega
    · simp

end Go.Proofs.YtobcdcmmeabecaaGreat

/- The document's answer: Ehrhart's polynomial by differences. -/
namespace Go.Proofs.YtobcdcmmeabecaaGreat
open Go.RowKit
attribute [local go_sem ↓] Go.wp_at_zero Go.wp_at_succ

theorem small6 {j k d p : Nat} (a : j + k = d + 1) (b : p + 1 = k) (c : d ≤ 3) : p ≤ 6 := by omega

set_option maxRecDepth 100000 in
set_option maxHeartbeats 1600000 in
theorem ehrhartOf_any (B d : Nat) (l : List Int) (v : Value) (w : World) (hv : Sl B 3 w v (ints l)) (hl : l.length = d + 1) (hd : d ≤ 3) (hb : ∀ i, i ≤ d → (l.getD i 0).natAbs ≤ 20000000000000) :
    Calls Tryz.prog 17 #[v] w fun e w' => ∃ u, e = .returned u ∧ Sl w'.heap.size 3 w' u (ints (eoL d (fun i => l.getD i 0))) ∧ Below w.heap.size w w' := by
  obtain ⟨i3, hi3, hz30, hz31, hz32⟩ := info_parts Tryz.info3
  have hmk : ∀ (n : Nat), n ≤ 100 → ∀ w : World, (Instr.makeSlice 22 (.int .i64 ((n : Int) + 1)) (.int .i64 ((n : Int) + 1))).run Tryz.prog w = .ok (.slice (some ⟨w.heap.size, 0, none⟩) (n + 1) (n + 1)) (w.alloc (.cells (madeCells #[.int .i64 0] (n + 1)) 3)) := fun n hn w => by
    have h := run_make_row' (P := Tryz.prog) 22 3 (.int .i64 0) 8 Tryz.underlying22 Tryz.info3 rfl .i64 .i64 (n + 1) (by omega) (by omega) w
    rw [show ((n + 1 : Nat) : Int) = (n : Int) + 1 by omega] at h
    exact h
  have HMK : Hid (∀ (n : Nat), n ≤ 100 → ∀ w : World, (Instr.makeSlice 22 (.int .i64 ((n : Int) + 1)) (.int .i64 ((n : Int) + 1))).run Tryz.prog w = .ok (.slice (some ⟨w.heap.size, 0, none⟩) (n + 1) (n + 1)) (w.alloc (.cells (madeCells #[.int .i64 0] (n + 1)) 3))) := hmk
  have hmk2 := hmk d (by omega)
  obtain ⟨ao, cap, hvv, hlc, hcm⟩ := sl_open hv
  rw [hl] at hvv hlc
  subst hvv
  obtain ⟨G, hG⟩ : ∃ G : Nat → Int, G = fun i => l.getD i 0 := ⟨_, rfl⟩
  have HGB : Hid (∀ i, i ≤ d → (G i).natAbs ≤ 20000000000000) := fun i hi => by rw [hG]; exact hb i hi
  have hlG : l = dfL G 0 (d + 1) := by
    apply List.ext_getElem?
    intro i
    by_cases hi : i < d + 1
    · have := dfL_get (G := G) (j := 0) hi
      rw [List.getElem?_eq_getElem (by omega), List.getElem?_eq_getElem (by rw [dfL_len]; exact hi)]
      rw [List.getD_eq_getElem?_getD, List.getElem?_eq_getElem (by rw [dfL_len]; exact hi)] at this
      simp only [Option.getD_some] at this
      rw [this, hG]
      simp [dfN, List.getD_eq_getElem?_getD, show i < l.length by omega]
    · rw [List.getElem?_eq_none (by omega), List.getElem?_eq_none (by rw [dfL_len]; omega)]
  rw [← hG]
  obtain ⟨W, hW⟩ : ∃ W, W = w.alloc (.cells (madeCells #[.int .i64 0] (d + 1)) 3) := ⟨_, rfl⟩
  have hbW : Below w.heap.size w W := by rw [hW]; exact (Below.refl _ _).alloc (Nat.le_refl _) _
  have hrW : W.rowIs w.heap.size 3 (d + 1) (fun _ => .int .i64 0) := by rw [hW]; exact World.rowIs_made w (.int .i64 0) (d + 1) 3
  have HRM : Hid (W.rowIs w.heap.size 3 (d + 1) (fun _ => .int .i64 0) ∧ Below w.heap.size w W) := ⟨hrW, hbW⟩
  have HCP : Hid (Calls Tryz.prog 30 #[.slice ao (d + 1) cap] W fun e w' => ∃ u, e = .returned u ∧ w'.ownsRow W.heap.size 3 1 u (d + 1) (ints (dfL G 0 (d + 1))) ∧ Below W.heap.size W w') := by
    have h := copy_any B l _ W (hv.below hbW (by first | exact Nat.le_refl _ | omega)) (by omega)
    rw [hl, hlG] at h
    exact h
  have hdp : wrap64 ((d : Int) + 1) = (d : Int) + 1 := IntWalk.wrap64_in _ ⟨by omega, by omega⟩
  clear hv hl hG hb hlG hbW hrW hmk
  go_enter Tryz.func17, Tryz.ntmps17
  go_wp2_with fail
  rw [← hW]
  clear hW hmk2
  refine HCP.out.mono ?_
  rintro e w1 ⟨u, rfl, ho1, hb1⟩
  obtain ⟨W2, hW2⟩ : ∃ W2, W2 = w1.alloc (.cells #[.int .i64 1] 3) := ⟨_, rfl⟩
  have HIN : Hid (W2.rowIs w.heap.size 3 (d + 1) (fun _ => .int .i64 0) ∧ W2.ownsRow W.heap.size 3 1 u (d + 1) (ints (dfL G 0 (d + 1))) ∧ W2.ownsRow W.heap.size 3 1 (.slice (some ⟨w1.heap.size, 0, none⟩) 1 1) 1 (ints (flL 0 0 1)) ∧ Below w.heap.size w W2) := by
    have h1 : Below w1.heap.size w1 W2 := by rw [hW2]; exact (Below.refl _ _).alloc (Nat.le_refl _) _
    have h2 : Below W.heap.size W W2 := hb1.trans (h1.mono hb1.size)
    refine ⟨HRM.out.1.of_block (h2.block _ HRM.out.1.lt), owns_below ho1 h1 (Nat.le_refl _), ?_, HRM.out.2.trans (h2.mono HRM.out.2.size)⟩
    rw [hW2]
    exact World.ownsRow_lit (base := W.heap.size) (e := 3) (size := 1) w1 #[.int .i64 1] 1 hb1.size (by decide) rfl
  have HLT : Hid (w.heap.size < W.heap.size) := HRM.out.1.lt
  clear ho1 hb1
  go_wp2
  rw [← hW2]
  clear hW2
  go_loopw [5, 6, 7, 8, 9, 10, 11, 12, 13, 14] (fun x y i _ _ _ _ _ _ _ wr => ∃ (j k : Nat) (F : Nat → Value), j + k = d + 1 ∧ i = .int .i64 j ∧ wr.rowIs w.heap.size 3 (d + 1) F ∧ (∀ q, q < d + 1 → F q = .int .i64 (eoS d G j q)) ∧ wr.ownsRow W.heap.size 3 1 x k (ints (dfL G j k)) ∧ wr.ownsRow W.heap.size 3 1 y (j + 1) (ints (flL 0 j (j + 1))) ∧ Below w.heap.size w wr) (fun _ _ i _ _ _ _ _ _ _ _ => d + 1 - (intOf i).toNat)
  case atStart => exact ⟨0, d + 1, _, by omega, rfl, HIN.out.1, fun q hq => rfl, HIN.out.2.1, HIN.out.2.2.1, HIN.out.2.2.2⟩
  case round =>
    obtain ⟨j, k, F, hjk, rfl, hrow, hF, ho5, ho6, hbel⟩ := hrel
    obtain ⟨xo, xc, hx5⟩ := owns_form ho5
    obtain ⟨yo, yc, hx6⟩ := owns_form ho6
    subst hx5 hx6
    rename World => wa
    have HR : Hid (wa.rowIs w.heap.size 3 (d + 1) F ∧ (∀ q, q < d + 1 → F q = .int .i64 (eoS d G j q))) := ⟨hrow, hF⟩
    have HO : Hid (wa.ownsRow W.heap.size 3 1 (.slice xo k xc) k (ints (dfL G j k)) ∧ wa.ownsRow W.heap.size 3 1 (.slice yo (j + 1) yc) (j + 1) (ints (flL 0 j (j + 1)))) := ⟨ho5, ho6⟩
    have HB : Hid (Below w.heap.size w wa) := hbel
    have HJK : Hid (j + k = d + 1) := hjk
    clear hrow hF ho5 ho6 hbel
    by_cases hjd : j ≤ d
    · have hjI : (j : Int) ≤ (d : Int) := by omega
      have HFB : Hid (∀ t, j + t ≤ d → (fcN j t).natAbs ≤ 27) := fun t ht => Nat.le_trans (fcN_bd t (by omega)) (Nat.le_trans (Nat.pow_le_pow_right (by decide) (show t ≤ 3 by omega)) (by decide))
      clear hjk
      go_wp2
      go_loopw [8, 9] (fun f i wq => ∃ t : Nat, j + t ≤ d ∧ f = .int .i64 (fcN j t) ∧ i = .int .i64 (((j + 1 + t : Nat)) : Int) ∧ wq = wa) (fun _ i _ => d + 1 - (intOf i).toNat)
      case atStart => exact ⟨0, hjd, rfl, by go_num, rfl⟩
      case round =>
        obtain ⟨t, ht, rfl, rfl, rfl⟩ := hrel
        have hfb := HFB.out t ht
        by_cases htd : j + t < d
        · have hfb2 := HFB.out (t + 1) (by omega)
          have HFC : Hid (fcN j (t + 1) = fcN j t * (((j + 1 + t : Nat)) : Int)) := by
            show fcN j t * ((j : Int) + t + 1) = _
            congr 1
            omega
          rw [HFC.out] at hfb2
          obtain ⟨s1, hs1⟩ : ∃ s1, s1 = j + 1 + t := ⟨_, rfl⟩
          rw [← hs1] at hfb2 HFC ⊢
          have hsd : (s1 : Int) ≤ (d : Int) := by omega
          have HS1 : Hid (s1 = j + 1 + t) := hs1
          have hw1 : wrap64 (fcN j t * (s1 : Int)) = fcN j t * (s1 : Int) := IntWalk.wrap64_in _ ⟨by omega, by omega⟩
          have HW1 : Hid (wrap64 (fcN j t * (s1 : Int)) = fcN j t * (s1 : Int)) := hw1
          clear hs1 hfb2 hw1
          go_wp2
          exact ⟨⟨t + 1, by omega, by rw [HFC.out, HW1.out], by have := HS1.out; go_num, trivial⟩, by have := HS1.out; simp [intOf]; omega⟩
        · have hsd : ¬ ((((j + 1 + t : Nat)) : Int) ≤ (d : Int)) := by omega
          have htj : t = d - j := by omega
          have HTJ : Hid (t = d - j) := htj
          have HK1 : Hid (1 ≤ k) := by have := HJK.out; show 1 ≤ k; omega
          obtain ⟨s1, hs1⟩ : ∃ s1, s1 = j + 1 + t := ⟨_, rfl⟩
          rw [← hs1] at hsd ⊢
          clear hs1 htj
          go_wp2
          go_loopw [10] (fun i wq => ∃ (p : Nat) (F : Nat → Value), p ≤ j + 1 ∧ i = .int .i64 p ∧ wq.rowIs w.heap.size 3 (d + 1) F ∧ (∀ q, q < d + 1 → F q = .int .i64 (if q < p then eoS d G (j + 1) q else eoS d G j q)) ∧ wq.ownsRow W.heap.size 3 1 (.slice xo k xc) k (ints (dfL G j k)) ∧ wq.ownsRow W.heap.size 3 1 (.slice yo (j + 1) yc) (j + 1) (ints (flL 0 j (j + 1))) ∧ Below w.heap.size w wq) (fun i _ => j + 1 - (intOf i).toNat)
          case atStart => exact ⟨0, F, Nat.zero_le _, rfl, HR.out.1, fun q hq => by rw [if_neg (by omega)]; exact HR.out.2 q hq, HO.out.1, HO.out.2, HB.out⟩
          case round =>
            obtain ⟨p, F2, hp, rfl, hrow, hF, ho5, ho6, hbel⟩ := hrel
            have HR2 : Hid (wr.rowIs w.heap.size 3 (d + 1) F2) := hrow
            have HF2 : Hid (∀ q, q < d + 1 → F2 q = .int .i64 (if q < p then eoS d G (j + 1) q else eoS d G j q)) := hF
            have HO5 : Hid (wr.ownsRow W.heap.size 3 1 (.slice xo k xc) k (ints (dfL G j k))) := ho5
            have HO6 : Hid (wr.ownsRow W.heap.size 3 1 (.slice yo (j + 1) yc) (j + 1) (ints (flL 0 j (j + 1)))) := ho6
            have HB2 : Hid (Below w.heap.size w wr) := hbel
            clear hrow hF ho5 ho6 hbel
            by_cases hpj : p ≤ j
            · obtain ⟨b2, o2, c2, hs2, _, hcc2⟩ := sl_cell ((Sl.own (B := 0) HO6.out).any (Nat.le_refl _)) (k := p) (by rw [flL_len]; omega)
              rw [flL_len] at hs2
              simp only [Value.slice.injEq, true_and] at hs2
              obtain ⟨rfl, rfl⟩ := hs2
              rw [flL_get (by omega)] at hcc2
              obtain ⟨b1, o1, c1, hs1, _, hcc1⟩ := sl_cell ((Sl.own (B := 0) HO5.out).any (Nat.le_refl _)) (k := 0) (by rw [dfL_len]; exact HK1.out)
              rw [dfL_len] at hs1
              simp only [Value.slice.injEq, true_and] at hs1
              obtain ⟨rfl, rfl⟩ := hs1
              rw [dfL_get HK1.out, Nat.add_zero] at hcc1
              have ca := HR2.out.cell (i := p) (by omega)
              have cf := HR2.out.frozen p
              rw [HF2.out _ (by omega), if_neg (by omega)] at ca
              obtain ⟨z1, z2⟩ := eterm_bd (p := p) hd hjd HGB.out
              have z3 := eoS_bd (p := p) hd HGB.out j (by omega)
              have z3' : (eoS d G j p).natAbs ≤ 4 * 400000000000000000 := Nat.le_trans z3 (Nat.mul_le_mul_right _ (by omega))
              have HES : Hid (eoS d G (j + 1) p = eoS d G j p + dfN G j 0 * fcN j t * flN 0 j p) := by rw [HTJ.out]; rfl
              rw [← HTJ.out] at z1 z2
              have R1 : Hid ((wr.setCell ⟨w.heap.size, p, none⟩ (.int .i64 (eoS d G j p + dfN G j 0 * fcN j t * flN 0 j p))).drew.rowIs w.heap.size 3 (d + 1) (fun i => if i = p then .int .i64 (eoS d G j p + dfN G j 0 * fcN j t * flN 0 j p) else F2 i)) := (HR2.out.set p _).drew
              have R2 : Hid (∀ q, q < d + 1 → (if q = p then Value.int .i64 (eoS d G j p + dfN G j 0 * fcN j t * flN 0 j p) else F2 q) = .int .i64 (if q < p + 1 then eoS d G (j + 1) q else eoS d G j q)) := fun q hq => by
                by_cases h1 : q = p
                · rw [if_pos h1, if_pos (by omega), h1, HES.out]
                · rw [if_neg h1, HF2.out q hq]
                  by_cases h2 : q < p
                  · rw [if_pos h2, if_pos (by omega)]
                  · rw [if_neg h2, if_neg (by omega)]
              have R3 : Hid (Below w.heap.size w (wr.setCell ⟨w.heap.size, p, none⟩ (.int .i64 (eoS d G j p + dfN G j 0 * fcN j t * flN 0 j p))).drew) := Below.drew (((Touch.refl _ _).setCell p _).below HB2.out (Nat.le_refl _))
              have R4 : Hid ((wr.setCell ⟨w.heap.size, p, none⟩ (.int .i64 (eoS d G j p + dfN G j 0 * fcN j t * flN 0 j p))).drew.ownsRow W.heap.size 3 1 (.slice (some ⟨b1, o1, none⟩) k xc) k (ints (dfL G j k)) ∧ (wr.setCell ⟨w.heap.size, p, none⟩ (.int .i64 (eoS d G j p + dfN G j 0 * fcN j t * flN 0 j p))).drew.ownsRow W.heap.size 3 1 (.slice (some ⟨b2, o2, none⟩) (j + 1) yc) (j + 1) (ints (flL 0 j (j + 1)))) := ⟨owns_set HO5.out HLT.out, owns_set HO6.out HLT.out⟩
              generalize eoS d G j p = za at *
              generalize dfN G j 0 = zd at *
              generalize flN 0 j p = zb at *
              generalize fcN j t = zf at *
              have hw1 : wrap64 (zd * zf) = zd * zf := IntWalk.wrap64_in _ ⟨by omega, by omega⟩
              have hw2 : wrap64 (zd * zf * zb) = zd * zf * zb := IntWalk.wrap64_in _ ⟨by omega, by omega⟩
              have hw3 : wrap64 (za + zd * zf * zb) = za + zd * zf * zb := IntWalk.wrap64_in _ ⟨by omega, by omega⟩
              have h1I : (p : Int) < (d : Int) + 1 := by omega
              have h1J : (p : Int) < (j : Int) + 1 := by omega
              have h1I0 : (0 : Int) ≤ (p : Int) := by omega
              have h1N : p < d + 1 := by omega
              have h1M : p < j + 1 := by omega
              have hk1 : (0 : Int) < (k : Int) := by have := HK1.out; omega
              have hk2 : 0 < k := HK1.out
              clear z1 z2 z3 z3' hpj hfb
              go_wp2
              go_region
              go_wp2
              exact ⟨⟨p + 1, _, h1M, by go_num, R1.out, R2.out, R4.out.1, R4.out.2, R3.out⟩, by simp [intOf]; omega⟩
            · have hpe : p = j + 1 := by omega
              have HF3 : Hid (∀ q, q < d + 1 → F2 q = .int .i64 (eoS d G (j + 1) q)) := fun q hq => by
                rw [HF2.out q hq]
                by_cases h1 : q < p
                · rw [if_pos h1]
                · rw [if_neg h1]
                  show _ = Value.int .i64 (eoS d G j q + dfN G j 0 * fcN j (d - j) * flN 0 j q)
                  rw [flN_none 0 j q (by omega), Int.mul_zero, Int.add_zero]
              have hpI : ¬ ((p : Int) < (j : Int) + 1) := by omega
              rename World => wb
              have hszb : w.heap.size ≤ wb.heap.size := HB2.out.size
              clear hpe hp hpj hfb
              go_wp2
              go_loopw [11, 12] (fun x i wq => ∃ p : Nat, p + 1 ≤ k ∧ i = .int .i64 p ∧ wq.ownsRow wb.heap.size 3 1 x p (ints (dfL G (j + 1) p)) ∧ Below wb.heap.size wb wq) (fun _ i _ => k - (intOf i).toNat)
              case atStart => exact ⟨0, HK1.out, rfl, World.ownsRow_nil _ _ _ _, Below.refl _ _⟩
              case round =>
                obtain ⟨p2, hp2, rfl, ho, hbel⟩ := hrel
                have HN : Hid (wr.ownsRow wb.heap.size 3 1 u11 p2 (ints (dfL G (j + 1) p2))) := ho
                have HB3 : Hid (Below wb.heap.size wb wr) := hbel
                clear ho hbel
                by_cases hpk : p2 + 1 < k
                · obtain ⟨b1, o1, c1, hs1, _, hcc1⟩ := sl_cell ((Sl.own (B := 0) HO5.out).any (Nat.le_refl _)) (k := p2) (by rw [dfL_len]; omega)
                  rw [dfL_len] at hs1
                  simp only [Value.slice.injEq, true_and] at hs1
                  obtain ⟨rfl, rfl⟩ := hs1
                  rw [dfL_get (by omega)] at hcc1
                  obtain ⟨b2, o2, c2, hs2, _, hcc2⟩ := sl_cell ((Sl.own (B := 0) HO5.out).any (Nat.le_refl _)) (k := p2 + 1) (by rw [dfL_len]; omega)
                  rw [dfL_len] at hs2
                  simp only [Value.slice.injEq, Option.some.injEq, Addr.mk.injEq, and_true, true_and] at hs2
                  obtain ⟨⟨rfl, rfl⟩, hcx⟩ := hs2
                  clear hcx
                  rw [dfL_get hpk] at hcc2
                  have hjk := HJK.out
                  have dbd : ∀ i, j + i ≤ d → (dfN G j i).natAbs ≤ 160000000000000 := fun i hi => Nat.le_trans (dfN_bd HGB.out j i hi) (Nat.le_trans (Nat.mul_le_mul_right _ (Nat.pow_le_pow_right (by decide) (show j ≤ 3 by omega))) (by decide))
                  have hx := dbd (p2 + 1) (by omega)
                  have hy := dbd p2 (by omega)
                  have HZ : Hid (dfL G (j + 1) (p2 + 1) = dfL G (j + 1) p2 ++ [dfN G j (p2 + 1) - dfN G j p2]) := by
                    show _ = _
                    unfold dfL
                    rw [List.range_succ, List.map_append]
                    rfl
                  have HLL : Hid ((dfL G (j + 1) p2).length = p2) := dfL_len _ _ _
                  generalize dfN G j (p2 + 1) = x at *
                  generalize dfN G j p2 = y at *
                  have HK2 : Hid (∀ W', Below wb.heap.size wb W' → W'.cell? ⟨b1, o1 + p2, none⟩ = some (.int .i64 y) ∧ W'.cell? ⟨b1, o1 + (p2 + 1), none⟩ = some (.int .i64 x)) := fun W' h => ⟨(h.cell (lt_of_cell hcc1)).trans hcc1, (h.cell (lt_of_cell hcc2)).trans hcc2⟩
                  obtain ⟨hc1, hc2⟩ := HK2.out wr HB3.out
                  have hszq : wb.heap.size ≤ wr.heap.size := HB3.out.size
                  have hkI : (p2 : Int) + 1 < (k : Int) := by omega
                  have hkI0 : (0 : Int) ≤ (p2 : Int) + 1 := by omega
                  have hkJ : (p2 : Int) < (k : Int) := by omega
                  have hkJ0 : (0 : Int) ≤ (p2 : Int) := by omega
                  have hkN : p2 < k := by omega
                  have hw1 : IntKind.i64.wrap ((p2 : Int) + 1) = (p2 : Int) + 1 := by rw [IntKind.wrap_i64]; omega
                  have hw2 : IntKind.i64.wrap (x - y) = x - y := by rw [IntKind.wrap_i64]; omega
                  have hp6 : p2 ≤ 6 := by omega
                  clear hx hy dbd hcc1 hcc2 hjk
                  go_wp2
                  go_region_held3 (fun w' => w'.cell? ⟨b1, o1 + p2, none⟩ = some (.int .i64 y) ∧ w'.cell? ⟨b1, o1 + (p2 + 1), none⟩ = some (.int .i64 x)) (first | exact KS.out | go_keep)
                    ((refine step_append_own (by rfl) _ _ 22 (by rfl) wb.heap.size 3 i3 (.int .i64 0) 1 8 Tryz.underlying22 hi3 hz30 hz31 hz32 rfl (by decide) _ _ _ (by rfl) (HN.out.drew.alloc _) ⟨wr.heap.size, 0, none⟩ 1 1 [.int .i64 (x - y)] (by rfl) rfl (one_new _ _ _) (one_int _) (by unfold maxLen; omega) (by omega) (by simp; omega) ?_; intro v' w3 ho hg; have RR := push3 HB3.out hszq HLL.out HN.out ho hg (hz := HZ.out); have KS : Hid (w3.cell? ⟨b1, o1 + p2, none⟩ = some (.int .i64 y) ∧ w3.cell? ⟨b1, o1 + (p2 + 1), none⟩ = some (.int .i64 x)) := HK2.out w3 RR.2))
                  have R1 : Hid (w3.ownsRow wb.heap.size 3 1 v' (p2 + 1) (ints (dfL G (j + 1) (p2 + 1)))) := RR.1
                  have R2 : Hid (Below wb.heap.size wb w3) := RR.2
                  clear RR ho hg KS
                  go_wp2
                  go_roundw
                  case rel => exact ⟨p2 + 1, by omega, by go_num, R1.out, R2.out⟩
                  case measure => simp [intOf]; omega
                · have hkI : ¬ ((p2 : Int) + 1 < (k : Int)) := by omega
                  have hke : p2 + 1 = k := by omega
                  have HKE : Hid (p2 + 1 = k) := hke
                  have HWB : Hid (W.heap.size ≤ wb.heap.size) := by
                    obtain ⟨g6, _, _, _, hge, hrw, _⟩ := own_row HO6.out (by omega)
                    have := hrw.lt
                    show _ ≤ _
                    omega
                  have hmk3 : ∀ w : World, (Instr.makeSlice 22 (.int .i64 ((j : Int) + 1 + 1)) (.int .i64 ((j : Int) + 1 + 1))).run Tryz.prog w = .ok (.slice (some ⟨w.heap.size, 0, none⟩) (j + 1 + 1) (j + 1 + 1)) (w.alloc (.cells (madeCells #[.int .i64 0] (j + 1 + 1)) 3)) := fun w => by
                    have h := HMK.out (j + 1) (by omega) w
                    rw [show ((j + 1 : Nat) : Int) = (j : Int) + 1 by omega] at h
                    exact h
                  have hjp : wrap64 ((j : Int) + 1 + 1) = (j : Int) + 1 + 1 := IntWalk.wrap64_in _ ⟨by omega, by omega⟩
                  rename World => wc
                  obtain ⟨Wm, hWm⟩ : ∃ Wm, Wm = wc.alloc (.cells (madeCells #[.int .i64 0] (j + 1 + 1)) 3) := ⟨_, rfl⟩
                  have HMM : Hid (Wm.rowIs wc.heap.size 3 (j + 1 + 1) (fun _ => .int .i64 0) ∧ Below wc.heap.size wc Wm) := by
                    rw [hWm]
                    exact ⟨World.rowIs_made wc (.int .i64 0) (j + 1 + 1) 3, (Below.refl _ _).alloc (Nat.le_refl _) _⟩
                  have hp6 : p2 ≤ 6 := small6 HJK.out HKE.out hd
                  clear hp2 hpk hke
                  go_wp2
                  rw [← hWm]
                  clear hWm hmk3 hjp
                  go_loopw [14] (fun i wq => ∃ (q : Nat) (F : Nat → Value), q ≤ j + 1 ∧ i = .int .i64 q ∧ wq.rowIs wc.heap.size 3 (j + 1 + 1) F ∧ (∀ r, r < j + 1 + 1 → F r = .int .i64 (moS j q r)) ∧ Below wc.heap.size wc wq) (fun i _ => j + 1 - (intOf i).toNat)
                  case atStart => exact ⟨0, _, Nat.zero_le _, rfl, HMM.out.1, fun r hr => by rw [moS_zero], HMM.out.2⟩
                  case round =>
                    obtain ⟨q, F4, hq, rfl, hrow, hF, hbel⟩ := hrel
                    have HR4 : Hid (wr.rowIs wc.heap.size 3 (j + 1 + 1) F4) := hrow
                    have HF4 : Hid (∀ r, r < j + 1 + 1 → F4 r = .int .i64 (moS j q r)) := hF
                    have HB4 : Hid (Below wc.heap.size wc wr) := hbel
                    clear hrow hF hbel
                    by_cases hqj : q ≤ j
                    · obtain ⟨b2, o2, c2, hs2, _, hcc2⟩ := sl_cell ((Sl.own (B := 0) (owns_below HO6.out HB3.out (Nat.le_refl _))).any (Nat.le_refl _)) (k := q) (by rw [flL_len]; omega)
                      rw [flL_len] at hs2
                      simp only [Value.slice.injEq, true_and] at hs2
                      obtain ⟨rfl, rfl⟩ := hs2
                      rw [flL_get (by omega)] at hcc2
                      have hbl : b2 < wc.heap.size := lt_of_cell hcc2
                      have hc2 : wr.cell? ⟨b2, o2 + q, none⟩ = some (.int .i64 (flN 0 j q)) := (HB4.out.cell hbl).trans hcc2
                      have hfb : (flN 0 j q).natAbs ≤ 64 := Nat.le_trans (flN_bd (by decide) (by decide) j q (by omega)) (Nat.le_trans (Nat.pow_le_pow_right (by decide) (show j ≤ 3 by omega)) (by decide))
                      have hmb := moS_bd (j := j) (i := q) (p := q) (by omega)
                      have hjf : ((j : Int) * flN 0 j q).natAbs ≤ 3 * 64 := by
                        rw [Int.natAbs_mul]
                        exact Nat.mul_le_mul (by omega) hfb
                      have ca := HR4.out.cell (i := q + 1) (by omega)
                      have cf := HR4.out.frozen (q + 1)
                      rw [HF4.out _ (by omega), moS_next] at ca
                      have HST : Hid (∀ r, moS j (q + 1) r = if r = q then moS j q q - (j : Int) * flN 0 j q else if r = q + 1 then flN 0 j q else moS j q r) := fun r => moS_step j q r
                      obtain ⟨Z, hZ⟩ : ∃ Z, Z = (wr.setCell ⟨wc.heap.size, q + 1, none⟩ (.int .i64 (flN 0 j q))).drew := ⟨_, rfl⟩
                      have HRZ : Hid (Z.rowIs wc.heap.size 3 (j + 1 + 1) (fun i => if i = q + 1 then .int .i64 (flN 0 j q) else F4 i)) := by rw [hZ]; exact (HR4.out.set (q + 1) _).drew
                      have HBZ : Hid (Below wc.heap.size wc Z) := by rw [hZ]; exact Below.drew (((Touch.refl _ _).setCell (q + 1) _).below HB4.out (Nat.le_refl _))
                      have zc : Z.cell? ⟨wc.heap.size, q, none⟩ = some (.int .i64 (moS j q q)) := by rw [HRZ.out.cell (i := q) (by omega), if_neg (by omega), HF4.out q (by omega)]
                      have zf := HRZ.out.frozen q
                      have zb : Z.cell? ⟨b2, o2 + q, none⟩ = some (.int .i64 (flN 0 j q)) := (HBZ.out.cell hbl).trans hcc2
                      have R1 : Hid ((Z.setCell ⟨wc.heap.size, q, none⟩ (.int .i64 (moS j q q - (j : Int) * flN 0 j q))).drew.rowIs wc.heap.size 3 (j + 1 + 1) (fun i => if i = q then .int .i64 (moS j q q - (j : Int) * flN 0 j q) else if i = q + 1 then .int .i64 (flN 0 j q) else F4 i)) := (HRZ.out.set q _).drew
                      have R3 : Hid (Below wc.heap.size wc (Z.setCell ⟨wc.heap.size, q, none⟩ (.int .i64 (moS j q q - (j : Int) * flN 0 j q))).drew) := Below.drew (((Touch.refl _ _).setCell q _).below HBZ.out (Nat.le_refl _))
                      have R2 : Hid (∀ r, r < j + 1 + 1 → (if r = q then Value.int .i64 (moS j q q - (j : Int) * flN 0 j q) else if r = q + 1 then .int .i64 (flN 0 j q) else F4 r) = .int .i64 (moS j (q + 1) r)) := fun r hr => by
                        rw [HST.out r]
                        by_cases h1 : r = q
                        · rw [if_pos h1, if_pos h1]
                        · rw [if_neg h1, if_neg h1]
                          by_cases h2 : r = q + 1
                          · rw [if_pos h2, if_pos h2]
                          · rw [if_neg h2, if_neg h2, HF4.out r hr]
                      generalize moS j q q = zm at *
                      generalize flN 0 j q = zz at *
                      have hw1 : wrap64 ((j : Int) * zz) = (j : Int) * zz := IntWalk.wrap64_in _ ⟨by omega, by omega⟩
                      have hw2 : wrap64 (zm - (j : Int) * zz) = zm - (j : Int) * zz := IntWalk.wrap64_in _ ⟨by omega, by omega⟩
                      have hq1 : (q : Int) < (j : Int) + 1 := by omega
                      have hq0 : (0 : Int) ≤ (q : Int) := by omega
                      have hq2 : (q : Int) + 1 < (j : Int) + 1 + 1 := by omega
                      have hq3 : (q : Int) < (j : Int) + 1 + 1 := by omega
                      have hq4 : (0 : Int) ≤ (q : Int) + 1 := by omega
                      have hq5 : q + 1 < j + 1 + 1 := by omega
                      have hq6 : q < j + 1 + 1 := by omega
                      have hq7 : q < j + 1 := by omega
                      have hz1 : -64 ≤ zz := by omega
                      have hz2 : zz ≤ 64 := by omega
                      clear hmb hjf hfb hqj
                      go_wp2
                      go_region
                      try rw [← hZ]
                      clear hZ ca cf hc2
                      go_wp2
                      go_region
                      go_wp2
                      exact ⟨⟨q + 1, _, hq7, by go_num, R1.out, R2.out, R3.out⟩, by simp [intOf]; omega⟩
                    · have hqe : q = j + 1 := by omega
                      have hqI : ¬ ((q : Int) < (j : Int) + 1) := by omega
                      have HBwr : Hid (Below wb.heap.size wb wr) := HB3.out.trans (HB4.out.mono HB3.out.size)
                      have T1 : Hid (wr.rowIs w.heap.size 3 (d + 1) F2) := HR2.out.of_block (HBwr.out.block _ HR2.out.lt)
                      have T2 : Hid (wr.ownsRow W.heap.size 3 1 u11 p2 (ints (dfL G (j + 1) p2))) := (owns_below HN.out HB4.out (Nat.le_refl _)).mono HWB.out
                      have T3 : Hid (wr.ownsRow W.heap.size 3 1 (.slice (some ⟨wc.heap.size, 0, none⟩) (j + 1 + 1) (j + 1 + 1)) (j + 1 + 1) (ints (flL 0 (j + 1) (j + 1 + 1)))) :=
                        row_own (l := flL 0 (j + 1) (j + 1 + 1)) HR4.out (Nat.le_trans HWB.out HB3.out.size) (flL_len _ _ _) (fun i hi => by rw [flL_get hi, HF4.out i hi, hqe, moS_end j i (by omega)]) (Nat.le_refl _) (by omega)
                      have T4 : Hid (Below w.heap.size w wr) := HB2.out.trans (HBwr.out.mono hszb)
                      have T5 : Hid (j + 1 + p2 = d + 1) := by have := HJK.out; have := HKE.out; show _ = _; omega
                      clear hqe hq hqj
                      go_wp2
                      exact ⟨⟨j + 1, p2, F2, T5.out, by go_num, T1.out, HF3.out, T2.out, T3.out, T4.out⟩, by simp [intOf]; omega⟩
    · have hje : j = d + 1 := by omega
      have hjI : ¬ ((j : Int) ≤ (d : Int)) := by omega
      have HSF : Hid (Sl wa.heap.size 3 wa (.slice (some ⟨w.heap.size, 0, none⟩) (d + 1) (d + 1)) (ints (eoL d G))) := by
        unfold eoL
        refine ⟨some ⟨w.heap.size, 0, none⟩, d + 1, by simp, by simp, by unfold maxLen; omega, fun i hi => ?_, fun h => by cases h⟩
        have hi' : i < d + 1 := by simpa using hi
        refine ⟨w.heap.size, 0, rfl, ?_, Or.inl HR.out.1.lt⟩
        rw [Nat.zero_add, HR.out.1.cell (by omega), HR.out.2 i hi', ints_get _ _ (by simpa using hi'), hje]
        simp [hi']
      clear hje hjk hjd
      go_wp2
      go_ret
      exact ⟨_, rfl, HSF.out, HB.out⟩

end Go.Proofs.YtobcdcmmeabecaaGreat
