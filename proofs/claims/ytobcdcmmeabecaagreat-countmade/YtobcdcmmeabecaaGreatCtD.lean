import Derived.Test.YtobcdcmmeabecaaGreatCtC
/- The document's answer: the first counts. -/
namespace Go.Proofs.YtobcdcmmeabecaaGreat
open Go.RowKit
attribute [local go_sem ↓] Go.wp_at_zero Go.wp_at_succ

/-- The counts of 0, 1, .. times the polytope. -/
def fsL (d : Nat) (P s : List (List Int)) (n : Nat) : List Int := (List.range n).map fun k => plA k d P s d []

theorem fsL_succ (d : Nat) (P s : List (List Int)) (n : Nat) : fsL d P s (n + 1) = fsL d P s n ++ [plA n d P s d []] := by
  unfold fsL
  rw [List.range_succ, List.map_append]
  rfl

theorem fsL_len (d : Nat) (P s : List (List Int)) (n : Nat) : (fsL d P s n).length = n := by simp [fsL]

set_option maxRecDepth 100000 in
set_option maxHeartbeats 800000 in
theorem firsts_any (d : Nat) (P s : List (List Int)) (v : Value) (w : World) (hv : Mat w.heap.size 22 3 w v P) (h : Sml d P) (hs : SAsc s) (hm : ∀ r, r ∈ s ↔ r ∈ rowsD P d) :
    Calls Tryz.prog 15 #[.agg #[.int .i64 d, v]] w fun e w' => ∃ u, e = .returned (.tuple #[u, .int .i64 0]) ∧ Sl w'.heap.size 3 w' u (ints (fsL d P s (d + 1))) ∧ Below w.heap.size w w' := by
  have hn := h.good.n2
  have hd3 := h.d3
  obtain ⟨i3, hi3, hz30, hz31, hz32⟩ := info_parts Tryz.info3
  obtain ⟨b, o, cap, r1, hvv, hlc, _, _⟩ := mat_cell hv (k := 0) (by omega)
  obtain ⟨vl, hvl⟩ : ∃ vl, vl = P.length := ⟨_, rfl⟩
  rw [← hvl] at hvv
  clear hvl
  subst hvv
  obtain ⟨W, hW⟩ : ∃ W, W = w.alloc (.cells #[.int .i64 d, .slice (some ⟨b, o, none⟩) vl cap] 27) := ⟨_, rfl⟩
  have hbw : Below w.heap.size w W := by rw [hW]; exact (Below.refl _ _).alloc (Nat.le_refl _) _
  have HW : Hid (Below w.heap.size w W) := hbw
  have hsW : W.heap.size = w.heap.size + 1 := by rw [hW]; simp
  have HSW : Hid (w.heap.size ≤ W.heap.size) := by show _ ≤ _; omega
  have c0 : W.cell? ⟨w.heap.size, 0, none⟩ = some (.int .i64 d) := by rw [hW]; simp
  have c1 : W.cell? ⟨w.heap.size, 1, none⟩ = some (.slice (some ⟨b, o, none⟩) vl cap) := by rw [hW]; simp
  have HKC : Hid (∀ W', Below W.heap.size W W' → W'.cell? ⟨w.heap.size, 0, none⟩ = some (.int .i64 d) ∧ W'.cell? ⟨w.heap.size, 1, none⟩ = some (.slice (some ⟨b, o, none⟩) vl cap)) := fun W' h => ⟨(h.cell (lt_of_cell c0)).trans c0, (h.cell (lt_of_cell c1)).trans c1⟩
  have hvW : Mat W.heap.size 22 3 W (.slice (some ⟨b, o, none⟩) vl cap) P := (hv.below hbw (Nat.le_refl _)).any (Nat.le_refl _)
  have HMA : Hid (∀ W' (k : Nat), k ≤ 4 → Below W.heap.size W W' → Calls Tryz.prog 9 #[.agg #[.int .i64 d, .slice (some ⟨b, o, none⟩) vl cap], .int .i64 k, .int .i64 0] W' fun e w' => e = .returned (.int .i64 0) ∧ Below W'.heap.size W' w') := fun W' k hk hb =>
    (countMay_any d k 0 P _ W' ((hvW.below hb (Nat.le_refl _)).any (Nat.le_refl _)) h hk).mono fun e w' ⟨e1, e2⟩ => ⟨by rw [e1, if_neg (by omega)], e2⟩
  have HPL : Hid (∀ W' (k : Nat), k ≤ 4 → Below W.heap.size W W' → Calls Tryz.prog 10 #[.slice (some ⟨b, o, none⟩) vl cap, .int .i64 k] W' fun e w' => e = .returned (.tuple #[.int .i64 (plA k d P s d []), .int .i64 (plI k d P s d [])]) ∧ Below W'.heap.size W' w') := fun W' k hk hb =>
    placesAll_any d k P s _ W' ((hvW.below hb (Nat.le_refl _)).any (Nat.le_refl _)) h.good h.box6 h.n16 (by omega) hs hm
  clear hv hbw hsW hvW
  go_enter Tryz.func15, Tryz.ntmps15
  go_wp2
  rw [← hW]
  clear hW
  go_loopw [2, 3, 5, 6] (fun _ _ i _ wr => ∃ j : Nat, j ≤ d + 1 ∧ i = .int .i64 j ∧ Below W.heap.size W wr) (fun _ _ i _ _ => d + 1 - (intOf i).toNat)
  case atStart => exact ⟨0, Nat.zero_le _, rfl, Below.refl _ _⟩
  case round =>
    obtain ⟨j, hj, rfl, hbel⟩ := hrel
    have HB : Hid (Below W.heap.size W wr) := hbel
    have k0 := (HKC.out wr hbel).1
    have k1 := (HKC.out wr hbel).2
    clear hbel
    by_cases hjd : j ≤ d
    · have hjI : (j : Int) ≤ (d : Int) := by omega
      have hj4 : j ≤ 4 := by omega
      go_wp2_with fail
      refine (HMA.out wr j hj4 HB.out).mono ?_
      rintro e w2 ⟨rfl, hb2⟩
      have HB2 : Hid (Below W.heap.size W w2) := HB.out.trans (hb2.mono HB.out.size)
      clear hb2 k0 k1
      go_wp2
      exact ⟨⟨j + 1, by omega, by go_num, HB2.out⟩, by simp [intOf]; omega⟩
    · have hjI : ¬ ((j : Int) ≤ (d : Int)) := by omega
      rename World => wa
      have hsza : W.heap.size ≤ wa.heap.size := HB.out.size
      clear c0 c1 k1 hj hjd
      go_wp2
      go_loopw [4, 7, 8, 9] (fun x i _ _ wr => ∃ j : Nat, j ≤ d + 1 ∧ i = .int .i64 j ∧ wr.ownsRow wa.heap.size 3 1 x j (ints (fsL d P s j)) ∧ Below wa.heap.size wa wr) (fun _ i _ _ _ => d + 1 - (intOf i).toNat)
      case atStart => exact ⟨0, Nat.zero_le _, rfl, World.ownsRow_nil _ _ _ _, Below.refl _ _⟩
      case round =>
        obtain ⟨q, hq, rfl, ho, hbel⟩ := hrel
        have HO : Hid (wr.ownsRow wa.heap.size 3 1 u4 q (ints (fsL d P s q))) := ho
        have HBa : Hid (Below wa.heap.size wa wr) := hbel
        have HBW : Hid (Below W.heap.size W wr) := HB.out.trans (hbel.mono hsza)
        have k0r := (HKC.out wr HBW.out).1
        have k1r := (HKC.out wr HBW.out).2
        clear ho hbel
        by_cases hqd : q ≤ d
        · have hqI : (q : Int) ≤ (d : Int) := by omega
          have hq4 : q ≤ 4 := by omega
          have HSN : Hid (ints (fsL d P s (q + 1)) = ints (fsL d P s q) ++ [.int .i64 (plA q d P s d [])]) := by
            show _ = _
            rw [fsL_succ]
            simp [ints]
          have HPQ := HPL.out wr q hq4 HBW.out
          have HPQ2 : Hid (Calls Tryz.prog 10 #[.slice (some ⟨b, o, none⟩) vl cap, .int .i64 q] wr fun e w' => e = .returned (.tuple #[.int .i64 (plA q d P s d []), .int .i64 (plI q d P s d [])]) ∧ Below wr.heap.size wr w') := HPQ
          clear HPQ
          generalize plA q d P s d [] = pa at *
          generalize plI q d P s d [] = pi at *
          go_wp2_with fail
          refine HPQ2.out.mono ?_
          rintro e w2 ⟨rfl, hb2⟩
          have HO2 : Hid (w2.ownsRow wa.heap.size 3 1 u4 q (ints (fsL d P s q))) := owns_below HO.out hb2 (Nat.le_refl _)
          have HB2 : Hid (Below wa.heap.size wa w2) := HBa.out.trans (hb2.mono HBa.out.size)
          have hsz2 : wa.heap.size ≤ w2.heap.size := HB2.out.size
          clear hb2 k0r k1r HPQ2
          go_wp2_with (first | (at_builtin; refine wpList_append_own _ rfl _ _ 22 rfl wa.heap.size 3 i3 (.int .i64 0) 1 8 Tryz.underlying22 hi3 hz30 hz31 hz32 rfl (by decide) _ _ _ rfl (HO2.out.alloc _) ⟨w2.heap.size, 0, none⟩ 1 1 [.int .i64 pa] rfl rfl (one_new _ _ _) (one_int _) ?c3 ?c4 ?c5 ?_))
          case c3 => unfold maxLen; omega
          case c4 => omega
          case c5 => first | exact hsz2 | omega | (simp; omega)
          intro v' w3 ho3 hg3 _
          have R1 : Hid (w3.ownsRow wa.heap.size 3 1 v' (q + 1) (ints (fsL d P s (q + 1)))) := by
            show World.ownsRow _ _ _ _ _ _ _
            rw [HSN.out]
            exact ho3
          have R2 : Hid (Below wa.heap.size wa w3) := (HB2.out.alloc hsz2 _).grown hg3 (by simp; omega) (fun x hx => (HO2.out.lt x hx).1)
          clear ho3 hg3
          go_wp2
          exact ⟨⟨q + 1, by omega, by go_num, R1.out, R2.out⟩, by simp [intOf]; omega⟩
        · have hqe : q = d + 1 := by omega
          have HSF : Hid (Sl wr.heap.size 3 wr u4 (ints (fsL d P s (d + 1)))) := by
            have h := HO.out
            rw [hqe] at h
            exact (Sl.own (B := 0) h).any (Nat.le_refl _)
          have hqI : ¬ ((q : Int) ≤ (d : Int)) := by omega
          have HBF : Hid (Below w.heap.size w wr) := HW.out.trans (HBW.out.mono HSW.out)
          clear hqe hq hqd k1r
          go_wp2
          go_ret2
          exact ⟨_, rfl, HSF.out, HBF.out⟩

end Go.Proofs.YtobcdcmmeabecaaGreat

/- Each number less the one ahead, so many times over: the program. -/
namespace Go.Proofs.YtobcdcmmeabecaaGreat
open Go.RowKit
attribute [local go_sem ↓] Go.wp_at_zero Go.wp_at_succ

/-- Each less the one ahead. -/
def lsF (F : Nat → Int) : Nat → Int := fun i => if i = 0 then F 0 else F i - F (i - 1)

def lsN : Nat → (Nat → Int) → Nat → Int
  | 0, F => F
  | t + 1, F => lsF (lsN t F)

theorem lsN_bd {n : Nat} {F : Nat → Int} {B : Nat} (h : ∀ i, i < n → (F i).natAbs ≤ B) : ∀ t i, i < n → (lsN t F i).natAbs ≤ 2 ^ t * B
  | 0, i, hi => by simpa [lsN] using h i hi
  | t + 1, i, hi => by
    have h1 := lsN_bd h t i hi
    have e : 2 ^ (t + 1) * B = 2 ^ t * B + 2 ^ t * B := by rw [Nat.pow_succ]; grind
    show (lsF (lsN t F) i).natAbs ≤ _
    unfold lsF
    rw [e]
    split
    · rename_i h0
      subst h0
      generalize 2 ^ t * B = q at *
      omega
    · have h2 := lsN_bd h t (i - 1) (by omega)
      generalize 2 ^ t * B = q at *
      omega

set_option maxRecDepth 100000 in
set_option maxHeartbeats 800000 in
theorem less_any (B n times : Nat) (l : List Int) (v : Value) (w : World) (hv : Sl B 3 w v (ints l)) (hn : l.length = n) (hn1 : 1 ≤ n) (hn5 : n ≤ 5) (ht : times ≤ 5) (hb : ∀ i, i < n → (l.getD i 0).natAbs ≤ 1000000000000000) :
    Calls Tryz.prog 33 #[v, .int .i64 times] w fun e w' => ∃ u, e = .returned u ∧ Sl w'.heap.size 3 w' u (ints ((List.range n).map (lsN times fun i => l.getD i 0))) ∧ Below w.heap.size w w' := by
  have HCL : Hid (Calls Tryz.prog 48 #[v] w fun e w' => ∃ g cap, e = .returned (.slice (some ⟨g, 0, none⟩) n cap) ∧ ((∃ F : Nat → Value, w'.rowIs g 3 cap F ∧ ∀ i, i < n → F i = .int .i64 (l.getD i 0)) ∧ n ≤ cap ∧ cap ≤ 9223372036854775807 ∧ w.heap.size ≤ g ∧ Below w.heap.size w w')) := by
    refine (clone_any B l v w hv (by omega)).mono ?_
    rintro e w' ⟨u, rfl, ho, hb'⟩
    obtain ⟨h1, h2⟩ := ho
    rcases h2 with ⟨_, h0⟩ | ⟨g, cap, cur, hu, hg, hh, hnc, hcm, hs, htk⟩
    · omega
    · rw [hn] at hu hnc htk
      subst hu
      refine ⟨g, cap, rfl, ⟨fun i => cur.toList.getD i (.int .i64 0), ⟨cur, hh, by omega, fun i hi => ?_⟩, fun i hi => ?_⟩, hnc, by unfold maxLen at hcm; exact hcm, hg, hb'⟩
      · show cur[i]? = some (cur.toList.getD i (.int .i64 0))
        rw [← Array.getElem?_toList, List.getD_eq_getElem?_getD, List.getElem?_eq_getElem (by simp; omega)]; rfl
      · have e1 : cur.toList.getD i (.int .i64 0) = (ints l).getD i (.int .i64 0) := by
          rw [← htk]
          simp only [List.getD_eq_getElem?_getD]
          rw [List.getElem?_take_of_lt (by omega)]
        show cur.toList.getD i (.int .i64 0) = _
        rw [e1]
        simp [ints, show i < l.length by omega]
  have HLB : Hid (∀ t i, t ≤ 5 → i < n → (lsN t (fun i => l.getD i 0) i).natAbs ≤ 100000000000000000) := fun t i ht hi => by
    have h1 := lsN_bd hb t i hi
    have h2 : 2 ^ t ≤ 2 ^ 5 := Nat.pow_le_pow_right (by decide) ht
    have h3 := Nat.mul_le_mul_right 1000000000000000 h2
    exact Nat.le_trans h1 (Nat.le_trans h3 (by decide))
  obtain ⟨ao, cap0, hvv, _, _⟩ := sl_open hv
  rw [hn] at hvv
  subst hvv
  clear hv hb
  obtain ⟨G, hG⟩ : ∃ G : Nat → Int, G = fun i => l.getD i 0 := ⟨_, rfl⟩
  rw [← hG] at HLB ⊢
  have HG : Hid (∀ i, G i = l.getD i 0) := fun i => by rw [hG]
  clear hG
  go_enter Tryz.func33, Tryz.ntmps33
  go_wp2_with fail
  refine HCL.out.mono ?_
  rintro e w1 ⟨g, cap, rfl, ⟨F0, hrow0, hF0⟩, hnc, hcm, hgw, hb1⟩
  have HRW : Hid (w1.rowIs g 3 cap F0 ∧ ∀ i, i < n → F0 i = .int .i64 (lsN 0 G i)) := ⟨hrow0, fun i hi => by rw [hF0 i hi]; show _ = Value.int .i64 (G i); rw [HG.out]⟩
  have HB1 : Hid (Below w.heap.size w w1) := hb1
  have HGW : Hid (w.heap.size ≤ g) := hgw
  clear hrow0 hF0 hb1 hgw HCL
  go_wp2
  go_loopw [6, 10] (fun _ i wr => ∃ (t : Nat) (F : Nat → Value), t ≤ times ∧ i = .int .i64 t ∧ wr.rowIs g 3 cap F ∧ (∀ i, i < n → F i = .int .i64 (lsN t G i)) ∧ Below w.heap.size w wr) (fun _ i _ => times - (intOf i).toNat)
  case atStart => exact ⟨0, F0, Nat.zero_le _, rfl, HRW.out.1, HRW.out.2, HB1.out⟩
  case round =>
    obtain ⟨t, F, htt, rfl, hrow, hF, hbel⟩ := hrel
    have HR : Hid (wr.rowIs g 3 cap F) := hrow
    have HF : Hid (∀ i, i < n → F i = .int .i64 (lsN t G i)) := hF
    have HB : Hid (Below w.heap.size w wr) := hbel
    clear hrow hF hbel
    by_cases hlt : t < times
    · have htI : (t : Int) < (times : Int) := by omega
      rename World => wa
      go_wp2
      go_loopw [6] (fun i wr => ∃ (j : Nat) (F : Nat → Value), j < n ∧ i = .int .i64 j ∧ wr.rowIs g 3 cap F ∧ (∀ i, i < n → F i = .int .i64 (if j < i then lsN (t + 1) G i else lsN t G i)) ∧ Below w.heap.size w wr) (fun i _ => (intOf i).toNat)
      case atStart => exact ⟨n - 1, F, by omega, by congr 1; omega, HR.out, fun i hi => by rw [if_neg (by omega)]; exact HF.out i hi, HB.out⟩
      case round =>
        obtain ⟨j, F2, hj, rfl, hrow, hF, hbel⟩ := hrel
        have HR2 : Hid (wr.rowIs g 3 cap F2) := hrow
        have HF2 : Hid (∀ i, i < n → F2 i = .int .i64 (if j < i then lsN (t + 1) G i else lsN t G i)) := hF
        have HB2 : Hid (Below w.heap.size w wr) := hbel
        clear hrow hF hbel
        by_cases hj0 : 0 < j
        · obtain ⟨j1, hj1⟩ : ∃ j1, j = j1 + 1 := ⟨j - 1, by omega⟩
          subst hj1
          have ca := HR2.out.cell (i := j1 + 1) (by omega)
          have cb := HR2.out.cell (i := j1) (by omega)
          have cf := HR2.out.frozen (j1 + 1)
          rw [HF2.out _ hj, if_neg (by omega)] at ca
          rw [HF2.out _ (by omega), if_neg (by omega)] at cb
          have HLS : Hid (lsN (t + 1) G (j1 + 1) = lsN t G (j1 + 1) - lsN t G j1) := by
            show lsF (lsN t G) (j1 + 1) = _
            unfold lsF
            rw [if_neg (by omega), Nat.add_sub_cancel]
          have hb1 := HLB.out t (j1 + 1) (by omega) hj
          have hb2 := HLB.out t j1 (by omega) (by omega)
          have R1 : Hid ((wr.setCell ⟨g, j1 + 1, none⟩ (.int .i64 (lsN t G (j1 + 1) - lsN t G j1))).drew.rowIs g 3 cap (fun i => if i = j1 + 1 then .int .i64 (lsN t G (j1 + 1) - lsN t G j1) else F2 i)) := (HR2.out.set (j1 + 1) _).drew
          have R2 : Hid (∀ i, i < n → (if i = j1 + 1 then Value.int .i64 (lsN t G (j1 + 1) - lsN t G j1) else F2 i) = .int .i64 (if j1 < i then lsN (t + 1) G i else lsN t G i)) := fun i hi => by
            by_cases h1 : i = j1 + 1
            · rw [if_pos h1, if_pos (by omega), h1, HLS.out]
            · rw [if_neg h1, HF2.out i hi]
              by_cases h2 : j1 + 1 < i
              · rw [if_pos h2, if_pos (by omega)]
              · rw [if_neg h2, if_neg (by omega)]
          have R3 : Hid (Below w.heap.size w (wr.setCell ⟨g, j1 + 1, none⟩ (.int .i64 (lsN t G (j1 + 1) - lsN t G j1))).drew) := Below.drew (((Touch.refl _ _).setCell (j1 + 1) _).below HB2.out HGW.out)
          generalize lsN t G (j1 + 1) = za at *
          generalize lsN t G j1 = zb at *
          have h1I : (j1 : Int) + 1 < (n : Int) := by omega
          have h1I0 : (0 : Int) ≤ (j1 : Int) + 1 := by omega
          have h2I : (j1 : Int) < (n : Int) := by omega
          have h2I0 : (0 : Int) ≤ (j1 : Int) := by omega
          have h3 : (0 : Int) < (j1 : Int) + 1 := by omega
          clear hj0
          go_wp2
          go_region
          go_wp2
          exact ⟨⟨j1, _, by omega, by go_num, R1.out, R2.out, R3.out⟩, by simp [intOf]⟩
        · have hje : j = 0 := by omega
          have R2 : Hid (∀ i, i < n → F2 i = .int .i64 (lsN (t + 1) G i)) := fun i hi => by
            rw [HF2.out i hi]
            by_cases h1 : j < i
            · rw [if_pos h1]
            · rw [if_neg h1, show i = 0 by omega]
              rfl
          have hjI : ¬ ((0 : Int) < (j : Int)) := by omega
          clear hje hj hj0
          go_wp2
          exact ⟨⟨t + 1, F2, hlt, by go_num, HR2.out, R2.out, HB2.out⟩, by simp [intOf]; omega⟩
    · obtain rfl : t = times := by omega
      have HSF : Hid (Sl wr.heap.size 3 wr (.slice (some ⟨g, 0, none⟩) n cap) (ints ((List.range n).map (lsN t G)))) := by
        refine ⟨some ⟨g, 0, none⟩, cap, by simp, by simpa using hnc, by unfold maxLen; exact hcm, fun i hi => ?_, fun h => by cases h⟩
        have hi' : i < n := by simpa using hi
        refine ⟨g, 0, rfl, ?_, Or.inl HR.out.lt⟩
        rw [Nat.zero_add, HR.out.cell (by omega), HF.out i hi', ints_get _ _ (by simpa using hi')]
        simp [hi']
      clear htt hlt
      go_wp2
      go_ret
      exact ⟨_, rfl, HSF.out, HB.out⟩

end Go.Proofs.YtobcdcmmeabecaaGreat
