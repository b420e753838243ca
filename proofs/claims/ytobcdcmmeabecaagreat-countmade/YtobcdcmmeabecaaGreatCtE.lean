import Derived.Test.YtobcdcmmeabecaaGreatCtD
/- The document's answer: n over k. -/
namespace Go.Proofs.YtobcdcmmeabecaaGreat
open Go.RowKit
attribute [local go_sem ↓] Go.wp_at_zero Go.wp_at_succ

/-- Each and the one ahead. -/
def upF (F : Nat → Int) : Nat → Int := fun i => if i = 0 then F 0 else F i + F (i - 1)

def upN : Nat → (Nat → Int) → Nat → Int
  | 0, F => F
  | t + 1, F => upF (upN t F)

def unt : Nat → Int := fun i => if i = 0 then 1 else 0

theorem upN_bd : ∀ t i, (upN t unt i).natAbs ≤ 2 ^ t
  | 0, i => by simp only [upN, unt]; split <;> simp
  | t + 1, i => by
    have h1 := upN_bd t i
    have h2 := upN_bd t (i - 1)
    have h0 := upN_bd t 0
    have e : 2 ^ (t + 1) = 2 ^ t + 2 ^ t := by rw [Nat.pow_succ]; omega
    show (upF (upN t unt) i).natAbs ≤ _
    unfold upF
    rw [e]
    generalize 2 ^ t = q at *
    split <;> omega

/-- n over k, as it is reckoned. -/
def wy (n k : Nat) : Int := upN n unt k

set_option maxRecDepth 100000 in
set_option maxHeartbeats 800000 in
theorem ways_any (n k : Nat) (w : World) (hn : n ≤ 5) (hk : k ≤ n) :
    Calls Tryz.prog 29 #[.int .i64 n, .int .i64 k] w fun e w' => e = .returned (.int .i64 (wy n k)) ∧ Below w.heap.size w w' := by
  have hmk := run_make_row' (P := Tryz.prog) 22 3 (.int .i64 0) 8 Tryz.underlying22 Tryz.info3 rfl .i64 .i64 (n + 1) (by omega) (by omega)
  have hmk2 : ∀ w : World, (Instr.makeSlice 22 (.int .i64 ((n : Int) + 1)) (.int .i64 ((n : Int) + 1))).run Tryz.prog w = .ok (.slice (some ⟨w.heap.size, 0, none⟩) (n + 1) (n + 1)) (w.alloc (.cells (madeCells #[.int .i64 0] (n + 1)) 3)) := fun w => by
    have h := hmk w
    rw [show ((n + 1 : Nat) : Int) = (n : Int) + 1 by omega] at h
    exact h
  have HUB : Hid (∀ t i, t ≤ 5 → (upN t unt i).natAbs ≤ 32) := fun t i ht => Nat.le_trans (upN_bd t i) (Nat.le_trans (Nat.pow_le_pow_right (by decide) ht) (by decide))
  obtain ⟨W, hW⟩ : ∃ W, W = (w.alloc (.cells (madeCells #[.int .i64 0] (n + 1)) 3)).setCell ⟨w.heap.size, 0, none⟩ (.int .i64 1) := ⟨_, rfl⟩
  have HRM : Hid (W.rowIs w.heap.size 3 (n + 1) (fun i => .int .i64 (unt i)) ∧ Below w.heap.size w W) := by
    rw [hW]
    refine ⟨?_, ((Touch.refl _ _).setCell 0 _).below ((Below.refl _ _).alloc (Nat.le_refl _) _) (Nat.le_refl _)⟩
    refine ((World.rowIs_made w (.int .i64 0) (n + 1) 3).set 0 (.int .i64 1)).congr fun i hi => ?_
    unfold unt
    by_cases h : i = 0
    · simp [h]
    · simp [h]
  have HW2 : Hid (w.alloc (.cells ((madeCells #[.int .i64 0] (n + 1)).setIfInBounds 0 (.int .i64 1)) 3) = W) := by
    show _ = _
    rw [hW]; simp [go_sem]
  clear hW
  have k0 : ¬ ((k : Int) < 0) := by omega
  have k1 : ¬ ((n : Int) < (k : Int)) := by omega
  have hnp : wrap64 ((n : Int) + 1) = (n : Int) + 1 := IntWalk.wrap64_in _ ⟨by omega, by omega⟩
  have h0c : (w.alloc (.cells (madeCells #[.int .i64 0] (n + 1)) 3)).cell? ⟨w.heap.size, 0, none⟩ = some (.int .i64 0) := (World.rowIs_made w (.int .i64 0) (n + 1) 3).cell (i := 0) (by omega)
  have h0f : (w.alloc (.cells (madeCells #[.int .i64 0] (n + 1)) 3)).frozen? ⟨w.heap.size, 0, none⟩ = false := (World.rowIs_made w (.int .i64 0) (n + 1) 3).frozen 0
  have h0I : (0 : Int) < (n : Int) + 1 := by omega
  have h0N : 0 < n + 1 := by omega
  clear hmk
  go_enter Tryz.func29, Tryz.ntmps29
  go_wp2
  rw [HW2.out]
  clear HW2 hmk2 h0c h0f
  go_loopw [6, 7] (fun i _ wr => ∃ (t : Nat) (F : Nat → Value), t ≤ n ∧ i = .int .i64 t ∧ wr.rowIs w.heap.size 3 (n + 1) F ∧ (∀ i, i < n + 1 → F i = .int .i64 (upN t unt i)) ∧ Below w.heap.size w wr) (fun i _ _ => n - (intOf i).toNat)
  case atStart => exact ⟨0, _, Nat.zero_le _, rfl, HRM.out.1, fun i hi => rfl, HRM.out.2⟩
  case round =>
    obtain ⟨t, F, htt, rfl, hrow, hF, hbel⟩ := hrel
    have HR : Hid (wr.rowIs w.heap.size 3 (n + 1) F) := hrow
    have HF : Hid (∀ i, i < n + 1 → F i = .int .i64 (upN t unt i)) := hF
    have HB : Hid (Below w.heap.size w wr) := hbel
    clear hrow hF hbel
    by_cases hlt : t < n
    · have htI : (t : Int) < (n : Int) := by omega
      rename World => wa
      go_wp2
      go_loopw [7] (fun i wr => ∃ (j : Nat) (F : Nat → Value), j ≤ n ∧ i = .int .i64 j ∧ wr.rowIs w.heap.size 3 (n + 1) F ∧ (∀ i, i < n + 1 → F i = .int .i64 (if j < i then upN (t + 1) unt i else upN t unt i)) ∧ Below w.heap.size w wr) (fun i _ => (intOf i).toNat)
      case atStart => exact ⟨n, F, Nat.le_refl _, rfl, HR.out, fun i hi => by rw [if_neg (by omega)]; exact HF.out i hi, HB.out⟩
      case round =>
        obtain ⟨j, F2, hj, rfl, hrow, hF, hbel⟩ := hrel
        have HR2 : Hid (wr.rowIs w.heap.size 3 (n + 1) F2) := hrow
        have HF2 : Hid (∀ i, i < n + 1 → F2 i = .int .i64 (if j < i then upN (t + 1) unt i else upN t unt i)) := hF
        have HB2 : Hid (Below w.heap.size w wr) := hbel
        clear hrow hF hbel
        by_cases hj0 : 0 < j
        · obtain ⟨j1, hj1⟩ : ∃ j1, j = j1 + 1 := ⟨j - 1, by omega⟩
          subst hj1
          have ca := HR2.out.cell (i := j1 + 1) (by omega)
          have cb := HR2.out.cell (i := j1) (by omega)
          have cf := HR2.out.frozen (j1 + 1)
          rw [HF2.out _ (by omega), if_neg (by omega)] at ca
          rw [HF2.out _ (by omega), if_neg (by omega)] at cb
          have HLS : Hid (upN (t + 1) unt (j1 + 1) = upN t unt (j1 + 1) + upN t unt j1) := by
            show upF (upN t unt) (j1 + 1) = _
            unfold upF
            rw [if_neg (by omega), Nat.add_sub_cancel]
          have hb1 := HUB.out t (j1 + 1) (by omega)
          have hb2 := HUB.out t j1 (by omega)
          have R1 : Hid ((wr.setCell ⟨w.heap.size, j1 + 1, none⟩ (.int .i64 (upN t unt (j1 + 1) + upN t unt j1))).drew.rowIs w.heap.size 3 (n + 1) (fun i => if i = j1 + 1 then .int .i64 (upN t unt (j1 + 1) + upN t unt j1) else F2 i)) := (HR2.out.set (j1 + 1) _).drew
          have R2 : Hid (∀ i, i < n + 1 → (if i = j1 + 1 then Value.int .i64 (upN t unt (j1 + 1) + upN t unt j1) else F2 i) = .int .i64 (if j1 < i then upN (t + 1) unt i else upN t unt i)) := fun i hi => by
            by_cases h1 : i = j1 + 1
            · rw [if_pos h1, if_pos (by omega), h1, HLS.out]
            · rw [if_neg h1, HF2.out i hi]
              by_cases h2 : j1 + 1 < i
              · rw [if_pos h2, if_pos (by omega)]
              · rw [if_neg h2, if_neg (by omega)]
          have R3 : Hid (Below w.heap.size w (wr.setCell ⟨w.heap.size, j1 + 1, none⟩ (.int .i64 (upN t unt (j1 + 1) + upN t unt j1))).drew) := Below.drew (((Touch.refl _ _).setCell (j1 + 1) _).below HB2.out (Nat.le_refl _))
          generalize upN t unt (j1 + 1) = za at *
          generalize upN t unt j1 = zb at *
          have h1I : (j1 : Int) + 1 < (n : Int) + 1 := by omega
          have h1I0 : (0 : Int) ≤ (j1 : Int) + 1 := by omega
          have h1N : j1 + 1 < n + 1 := by omega
          have h2N : j1 < n + 1 := by omega
          have h2I : (j1 : Int) < (n : Int) + 1 := by omega
          have h2I0 : (0 : Int) ≤ (j1 : Int) := by omega
          have h3 : (0 : Int) < (j1 : Int) + 1 := by omega
          clear hj0
          go_wp2
          go_region
          go_wp2
          exact ⟨⟨j1, _, by omega, by go_num, R1.out, R2.out, R3.out⟩, by simp [intOf]⟩
        · have R2 : Hid (∀ i, i < n + 1 → F2 i = .int .i64 (upN (t + 1) unt i)) := fun i hi => by
            rw [HF2.out i hi]
            by_cases h1 : j < i
            · rw [if_pos h1]
            · rw [if_neg h1, show i = 0 by omega]
              rfl
          have hjI : ¬ ((0 : Int) < (j : Int)) := by omega
          clear hj hj0
          go_wp2
          exact ⟨⟨t + 1, F2, hlt, by go_num, HR2.out, R2.out, HB2.out⟩, by simp [intOf]; omega⟩
    · obtain rfl : t = n := by omega
      have ck := HR.out.cell (i := k) (by omega)
      rw [HF.out k (by omega)] at ck
      have HWK : Hid (wy t k = upN t unt k) := rfl
      generalize upN t unt k = z at *
      have hkI : (k : Int) < (t : Int) + 1 := by omega
      have hkN : k < t + 1 := by omega
      have hkI0 : (0 : Int) ≤ (k : Int) := by omega
      clear htt hlt
      go_wp2
      go_ret
      exact ⟨ret_int HWK.out.symm, HB.out⟩

end Go.Proofs.YtobcdcmmeabecaaGreat

/- The document's answer: Stanley's numbers. -/
namespace Go.Proofs.YtobcdcmmeabecaaGreat
open Go.RowKit
attribute [local go_sem ↓] Go.wp_at_zero Go.wp_at_succ

def sg : Nat → Int
  | 0 => 1
  | j + 1 => - sg j

theorem sg_or : ∀ j, sg j = 1 ∨ sg j = -1
  | 0 => Or.inl rfl
  | j + 1 => by
    have h := sg_or j
    show - sg j = 1 ∨ - sg j = -1
    omega

/-- The first j terms of the i-th number. -/
def dlT (d : Nat) (G : Nat → Int) (i : Nat) : Nat → Int
  | 0 => 0
  | j + 1 => dlT d G i j + sg j * wy (d + 1) j * G (i - j)

def dlL (d : Nat) (G : Nat → Int) (n : Nat) : List Int := (List.range n).map fun i => dlT d G i (i + 1)

theorem dlL_succ (d : Nat) (G : Nat → Int) (n : Nat) : dlL d G (n + 1) = dlL d G n ++ [dlT d G n (n + 1)] := by
  unfold dlL
  rw [List.range_succ, List.map_append]
  rfl

theorem wy_bd {d j : Nat} (hd : d ≤ 4) : (wy (d + 1) j).natAbs ≤ 32 := Nat.le_trans (upN_bd (d + 1) j) (Nat.le_trans (Nat.pow_le_pow_right (by decide) (show d + 1 ≤ 5 by omega)) (by decide))

theorem dterm_bd {d i j : Nat} {G : Nat → Int} (hd : d ≤ 4) (hG : ∀ i, i ≤ d → (G i).natAbs ≤ 100000000000000) (hi : i ≤ d) : (sg j * wy (d + 1) j * G (i - j)).natAbs ≤ 3200000000000000 ∧ (sg j * wy (d + 1) j).natAbs ≤ 32 := by
  have h1 : (sg j * wy (d + 1) j).natAbs ≤ 32 := by
    rw [Int.natAbs_mul]
    have := wy_bd (j := j) hd
    rcases sg_or j with h | h <;> rw [h] <;> simp <;> exact this
  refine ⟨?_, h1⟩
  rw [Int.natAbs_mul]
  exact Nat.le_trans (Nat.mul_le_mul h1 (hG (i - j) (by omega))) (by decide)

theorem dlT_bd {d i : Nat} {G : Nat → Int} (hd : d ≤ 4) (hG : ∀ i, i ≤ d → (G i).natAbs ≤ 100000000000000) (hi : i ≤ d) : ∀ j, (dlT d G i j).natAbs ≤ j * 3200000000000000
  | 0 => by simp [dlT]
  | j + 1 => by
    have h1 := dlT_bd hd hG hi j
    have h2 := (dterm_bd (j := j) hd hG hi).1
    show (dlT d G i j + sg j * wy (d + 1) j * G (i - j)).natAbs ≤ _
    generalize sg j * wy (d + 1) j * G (i - j) = q at *
    generalize dlT d G i j = p at *
    omega

set_option maxRecDepth 100000 in
set_option maxHeartbeats 1600000 in
theorem deltaOf_any (B d : Nat) (l : List Int) (v : Value) (w : World) (hv : Sl B 3 w v (ints l)) (hl : l.length = d + 1) (hd : d ≤ 4) (hb : ∀ i, i ≤ d → (l.getD i 0).natAbs ≤ 100000000000000) :
    Calls Tryz.prog 16 #[v] w fun e w' => ∃ u, e = .returned u ∧ Sl w'.heap.size 3 w' u (ints (dlL d (fun i => l.getD i 0) (d + 1))) ∧ Below w.heap.size w w' := by
  obtain ⟨i3, hi3, hz30, hz31, hz32⟩ := info_parts Tryz.info3
  obtain ⟨ao, cap, hvv, hlc, hcm⟩ := sl_open hv
  rw [hl] at hvv hlc
  subst hvv
  have HV : Hid (Sl w.heap.size 3 w (.slice ao (d + 1) cap) (ints l)) := hv.any (Nat.le_refl _)
  have HL : Hid (l.length = d + 1) := hl
  obtain ⟨G, hG⟩ : ∃ G : Nat → Int, G = fun i => l.getD i 0 := ⟨_, rfl⟩
  have HG : Hid (∀ i, G i = l.getD i 0) := fun i => by rw [hG]
  have HGB : Hid (∀ i, i ≤ d → (G i).natAbs ≤ 100000000000000) := fun i hi => by rw [hG]; exact hb i hi
  rw [← hG]
  have HWY : Hid (∀ (j : Nat) W, j ≤ d + 1 → Calls Tryz.prog 29 #[.int .i64 ((d : Int) + 1), .int .i64 j] W fun e w' => e = .returned (.int .i64 (wy (d + 1) j)) ∧ Below W.heap.size W w') := fun j W hj => by
    have h := ways_any (d + 1) j W (by omega) hj
    rw [show ((d + 1 : Nat) : Int) = (d : Int) + 1 by omega] at h
    exact h
  clear hv hl hG hb
  go_enter Tryz.func16, Tryz.ntmps16
  go_wp2
  go_loopw [4, 5] (fun x i wr => ∃ q : Nat, q ≤ d + 1 ∧ i = .int .i64 q ∧ wr.ownsRow w.heap.size 3 1 x q (ints (dlL d G q)) ∧ Below w.heap.size w wr) (fun _ i _ => d + 1 - (intOf i).toNat)
  case atStart => exact ⟨0, Nat.zero_le _, rfl, World.ownsRow_nil _ _ _ _, Below.refl _ _⟩
  case round =>
    obtain ⟨q, hq, rfl, ho, hbel⟩ := hrel
    rename World => wa
    have HO : Hid (wa.ownsRow w.heap.size 3 1 u4 q (ints (dlL d G q))) := ho
    have HB : Hid (Below w.heap.size w wa) := hbel
    have hsza : w.heap.size ≤ wa.heap.size := hbel.size
    clear ho hbel
    by_cases hqd : q ≤ d
    · have hqI : (q : Int) ≤ (d : Int) := by omega
      go_wp2
      go_loopw [6, 7, 8] (fun x y i wr => ∃ j : Nat, j ≤ q + 1 ∧ i = .int .i64 j ∧ x = .int .i64 (dlT d G q j) ∧ y = .int .i64 (sg j) ∧ Below wa.heap.size wa wr) (fun _ _ i _ => q + 1 - (intOf i).toNat)
      case atStart => exact ⟨0, Nat.zero_le _, rfl, rfl, rfl, Below.refl _ _⟩
      case round =>
        obtain ⟨j, hj, rfl, rfl, rfl, hbel⟩ := hrel
        have HBa : Hid (Below wa.heap.size wa wr) := hbel
        have HBw : Hid (Below w.heap.size w wr) := HB.out.trans (hbel.mono hsza)
        clear hbel
        by_cases hjq : j ≤ q
        · obtain ⟨b1, o1, c1, hs1, _, hcc1⟩ := sl_cell (HV.out.below HBw.out (Nat.le_refl _)) (k := q - j) (by rw [HL.out]; omega)
          rw [HL.out] at hs1
          simp only [Value.slice.injEq, true_and] at hs1
          obtain ⟨rfl, rfl⟩ := hs1
          obtain ⟨t, ht⟩ : ∃ t, q = j + t := ⟨q - j, by omega⟩
          rw [← HG.out] at hcc1
          have hb1 := dterm_bd (j := j) hd HGB.out hqd
          have hb2 := dlT_bd hd HGB.out hqd j
          have hb3 := dlT_bd hd HGB.out hqd (j + 1)
          have HDT : Hid (dlT d G q (j + 1) = dlT d G q j + sg j * wy (d + 1) j * G (q - j)) := rfl
          rw [HDT.out] at hb3
          have hsg := sg_or j
          have hsb : (sg j).natAbs ≤ 1 := by rcases hsg with h | h <;> rw [h] <;> decide
          have HSG : Hid (sg (j + 1) = - sg j) := rfl
          have hqj : q - j = t := by omega
          rw [hqj] at hcc1 hb1 hb3 HDT
          have hbt := HGB.out t (by omega)
          have hwd : IntKind.i64.wrap ((d : Int) + 1) = (d : Int) + 1 := by rw [IntKind.wrap_i64]; omega
          have HWJ : Hid (∀ W, Calls Tryz.prog 29 #[.int .i64 (IntKind.i64.wrap ((d : Int) + 1)), .int .i64 j] W fun e w' => e = .returned (.int .i64 (wy (d + 1) j)) ∧ Below W.heap.size W w') := fun W => by
            rw [hwd]
            exact HWY.out j W (by omega)
          clear hwd
          have HCC : Hid (∀ W, Below wr.heap.size wr W → W.cell? ⟨b1, o1 + t, none⟩ = some (.int .i64 (G t))) := fun W h => (h.cell (lt_of_cell hcc1)).trans hcc1
          generalize dlT d G q j = S at *
          generalize sg j = g at *
          generalize wy (d + 1) j = wv at *
          generalize G t = z at *
          have hw1 : wrap64 (g * wv) = g * wv := IntWalk.wrap64_in _ ⟨by omega, by omega⟩
          have hw2 : wrap64 (g * wv * z) = g * wv * z := IntWalk.wrap64_in _ ⟨by omega, by omega⟩
          have hjb : j * 3200000000000000 ≤ 6 * 3200000000000000 := Nat.mul_le_mul_right _ (by omega)
          have hjb2 : (j + 1) * 3200000000000000 ≤ 6 * 3200000000000000 := Nat.mul_le_mul_right _ (by omega)
          have hw3 : wrap64 (S + g * wv * z) = S + g * wv * z := IntWalk.wrap64_in _ ⟨by omega, by omega⟩
          have HW3 : Hid (wrap64 (S + g * wv * z) = S + g * wv * z) := hw3
          have hm1 : IntKind.i64.wrap (g * wv) = g * wv := by rw [IntKind.wrap_i64]; omega
          have hm2 : IntKind.i64.wrap (g * wv * z) = g * wv * z := by rw [IntKind.wrap_i64]; omega
          have hm3 : IntKind.i64.wrap (S + g * wv * z) = S + g * wv * z := by rw [IntKind.wrap_i64]; omega
          have hjI : (j : Int) ≤ (q : Int) := by omega
          have HQT : Hid (q = j + t) := ht
          have htI : (t : Int) < (d : Int) + 1 := by omega
          have htI0 : (0 : Int) ≤ (t : Int) := by omega
          have htN : t < d + 1 := by omega
          clear hb1 hb2 hb3 hsg hqj hjb hjb2 hbt
          have hqj3 : (q : Int) - (j : Int) = (t : Int) := by omega
          have hqj5 : IntKind.i64.wrap ((q : Int) - (j : Int)) = (t : Int) := by rw [hqj3, IntKind.wrap_i64]; omega
          have hqj6 : IntKind.i64.wrap (t : Int) = (t : Int) := by rw [IntKind.wrap_i64]; omega
          clear HV HG HGB HWY HL ht hqd
          go_wp2
          go_region_held3 (fun w' => w'.cell? ⟨b1, o1 + t, none⟩ = some (.int .i64 z)) (first | exact KS.out | go_keep)
            (first | (go_at_call 29; refine (HWJ.out _).mono ?_; rintro e w3 ⟨rfl, hb3⟩; have HB3 : Hid (Below wr.heap.size wr w3) := ⟨hb3.os, hb3.tape, hb3.output, hb3.size, hb3.block⟩; clear hb3; have KS : Hid _ := HCC.out w3 HB3.out))
          all_goals
            have R2 : Hid (Below wa.heap.size wa w3) := HBa.out.trans (HB3.out.mono HBa.out.size)
            clear KS
            go_wp2
            exact ⟨⟨j + 1, by omega, by go_num, by rw [HDT.out], by rw [HSG.out], R2.out⟩, by simp [intOf]; omega⟩
        · have hje : j = q + 1 := by omega
          have HSN : Hid (ints (dlL d G (q + 1)) = ints (dlL d G q) ++ [.int .i64 (dlT d G q (q + 1))]) := by
            show _ = _
            rw [dlL_succ]
            simp [ints]
          rw [hje]
          have hjI : ¬ (((q + 1 : Nat) : Int) ≤ (q : Int)) := by omega
          have hjI2 : ¬ ((q : Int) + 1 ≤ (q : Int)) := by omega
          have HOr : Hid (wr.ownsRow w.heap.size 3 1 u4 q (ints (dlL d G q))) := owns_below HO.out HBa.out (Nat.le_refl _)
          have hszr : w.heap.size ≤ wr.heap.size := HBw.out.size
          generalize dlT d G q (q + 1) = S at *
          clear hje hj hjq
          go_wp2_with (first | (at_builtin; refine wpList_append_own _ rfl _ _ 22 rfl w.heap.size 3 i3 (.int .i64 0) 1 8 Tryz.underlying22 hi3 hz30 hz31 hz32 rfl (by decide) _ _ _ rfl (HOr.out.alloc _) ⟨wr.heap.size, 0, none⟩ 1 1 [.int .i64 S] rfl rfl (one_new _ _ _) (one_int _) ?c3 ?c4 ?c5 ?_))
          case c3 => unfold maxLen; omega
          case c4 => omega
          case c5 => first | exact hszr | omega | (simp; omega)
          intro v' w3 ho3 hg3 _
          have R1 : Hid (w3.ownsRow w.heap.size 3 1 v' (q + 1) (ints (dlL d G (q + 1)))) := by
            show World.ownsRow _ _ _ _ _ _ _
            rw [HSN.out]
            exact ho3
          have R2 : Hid (Below w.heap.size w w3) := (HBw.out.alloc hszr _).grown hg3 (by simp; omega) (fun x hx => (HOr.out.lt x hx).1)
          clear ho3 hg3
          go_wp2
          exact ⟨⟨q + 1, by omega, by go_num, R1.out, R2.out⟩, by simp [intOf]; omega⟩
    · have hqe : q = d + 1 := by omega
      have HSF : Hid (Sl wa.heap.size 3 wa u4 (ints (dlL d G (d + 1)))) := by
        have h := HO.out
        rw [hqe] at h
        exact (Sl.own (B := 0) h).any (Nat.le_refl _)
      have hqI : ¬ ((q : Int) ≤ (d : Int)) := by omega
      clear hqe hq hqd
      go_wp2
      go_ret
      exact ⟨_, rfl, HSF.out, HB.out⟩

end Go.Proofs.YtobcdcmmeabecaaGreat
