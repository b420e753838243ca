/- facetref.Without: rows without their k-th number. -/
import Derived.Test.YtknomkajibfmlaaGreatMgAR
import Derived.Test.YtknomkajibfmlaaGreatMgAT
import Derived.Test.YtknomkajibfmlaaGreatDsq
import Derived.Test.YtknomkajibfmlaaGreatMgAM
namespace Go.Proofs.YtknomkajibfmlaaGreat
open Go.RowKit
attribute [local go_sem ↓] Go.wp_at_zero Go.wp_at_succ

def dwOne (k : Nat) (f : List Int) : List (List Int) := if f.getD k 0 = 0 then [dropK f k] else []
def dwTwo (k : Nat) (f s : List Int) : List (List Int) := if 0 < f.getD k 0 ∧ s.getD k 0 < 0 then [dropK (combL (-(s.getD k 0)) f (f.getD k 0) s) k] else []
def dwIn (rows : List (List Int)) (k : Nat) (f : List Int) (j : Nat) : List (List Int) := (rows.take j).flatMap (dwTwo k f)
def dwRow (rows : List (List Int)) (k : Nat) (f : List Int) : List (List Int) := dwOne k f ++ dwIn rows k f rows.length
def dwAll (rows : List (List Int)) (k i : Nat) : List (List Int) := (rows.take i).flatMap (dwRow rows k)
def kpD (r : List Int) : List (List Int) := if sayB (Lin.low r) then [] else [Lin.low r]

theorem kp_keep (k : Nat) (r : List Int) : kpD (dropK r k) = keepL k r := rfl

theorem dw_one (k : Nat) (f : List Int) : (dwOne k f).flatMap kpD = woOne k f := by
  unfold dwOne woOne
  split <;> simp [kp_keep]

theorem dw_two (k : Nat) (f s : List Int) : (dwTwo k f s).flatMap kpD = woTwo k f s := by
  unfold dwTwo woTwo
  split <;> simp [kp_keep]

theorem dw_wo (rows : List (List Int)) (k i : Nat) : (dwAll rows k i).flatMap kpD = woAll rows k i := by
  unfold dwAll woAll
  rw [List.flatMap_assoc]
  congr 1
  funext f
  unfold dwRow woRow
  rw [List.flatMap_append, dw_one]
  congr 1
  unfold dwIn woIn
  rw [List.flatMap_assoc]
  congr 1
  funext s
  exact dw_two k f s

theorem dwIn_succ {rows : List (List Int)} {k : Nat} {f : List Int} {j : Nat} (h : j < rows.length) : dwIn rows k f (j + 1) = dwIn rows k f j ++ dwTwo k f (rows.getD j []) := by
  unfold dwIn
  rw [List.take_succ_eq_append_getElem h, List.flatMap_append]
  simp [h]

theorem dwAll_succ {rows : List (List Int)} {k i : Nat} (h : i < rows.length) : dwAll rows k (i + 1) = dwAll rows k i ++ dwRow rows k (rows.getD i []) := by
  unfold dwAll
  rw [List.take_succ_eq_append_getElem h, List.flatMap_append]
  simp [h]

theorem dwTwo_len (k : Nat) (f s : List Int) : (dwTwo k f s).length ≤ 1 := by unfold dwTwo; split <;> simp
theorem dwOne_len (k : Nat) (f : List Int) : (dwOne k f).length ≤ 1 := by unfold dwOne; split <;> simp
theorem dwIn_len (rows : List (List Int)) (k : Nat) (f : List Int) (j : Nat) : (dwIn rows k f j).length ≤ rows.length := by
  have h := flat_bd (g := dwTwo k f) (b := 1) (dwTwo_len k f) (rows.take j)
  unfold dwIn
  simp only [List.length_take] at h
  omega
theorem dwAll_len {rows : List (List Int)} {k i : Nat} (h : rows.length ≤ 12) : (dwAll rows k i).length ≤ 156 := by
  have h1 := flat_bd (g := dwRow rows k) (b := 13) (fun f => by
    unfold dwRow
    have a := dwOne_len k f
    have b := dwIn_len rows k f rows.length
    rw [List.length_append]; omega) (rows.take i)
  unfold dwAll
  simp only [List.length_take] at h1
  omega

theorem comb_small {v u : Int} {f s : List Int} {n : Nat} (hf : f.length = n) (hv : v.natAbs ≤ 20) (hu : u.natAbs ≤ 20) (hfb : ∀ z ∈ f, z.natAbs ≤ 20) (hsb : ∀ z ∈ s, z.natAbs ≤ 20) : (combL v f u s).length = n ∧ ∀ z ∈ combL v f u s, z.natAbs ≤ 1000000 := by
  refine ⟨by rw [combL_len, hf], fun z hz => ?_⟩
  simp only [combL, List.mem_map, List.mem_range] at hz
  obtain ⟨i, hi, rfl⟩ := hz
  have a := mul20 hv (getD_bd (k := i) hfb)
  have b := mul20 hu (getD_bd (k := i) hsb)
  omega

/-- Rows of the length d, of small numbers. -/
def Smd (d : Nat) (m : List (List Int)) : Prop := ∀ r ∈ m, r.length = d ∧ ∀ z ∈ r, z.natAbs ≤ 1000000

theorem dropK_smd {d k : Nat} {r : List Int} (hl : r.length = d + 1) (hk : k < d) (hb : ∀ z ∈ r, z.natAbs ≤ 1000000) : (dropK r k).length = d ∧ ∀ z ∈ dropK r k, z.natAbs ≤ 1000000 := by
  refine ⟨by rw [dropK_len (by omega), hl]; omega, fun z hz => ?_⟩
  unfold dropK at hz
  rcases List.mem_append.1 hz with h | h
  · exact hb z (List.mem_of_mem_take h)
  · exact hb z (List.mem_of_mem_drop h)

theorem dwAll_smd {d k i : Nat} {rows : List (List Int)} (hc : CutF d rows) (hk : k < d) : Smd d (dwAll rows k i) := fun r hr => by
  unfold dwAll at hr
  obtain ⟨f, hf, hr⟩ := List.mem_flatMap.1 hr
  have hfm := List.mem_of_mem_take hf
  unfold dwRow at hr
  rcases List.mem_append.1 hr with h | h
  · unfold dwOne at h
    split at h
    · simp only [List.mem_singleton] at h
      rw [h]
      exact dropK_smd (hc.len f hfm) hk fun z hz => by have := hc.bd f hfm z hz; omega
    · cases h
  · unfold dwIn at h
    obtain ⟨s, hs, h⟩ := List.mem_flatMap.1 h
    have hsm := List.mem_of_mem_take hs
    unfold dwTwo at h
    split at h
    · simp only [List.mem_singleton] at h
      rw [h]
      have c := comb_small (v := -(s.getD k 0)) (u := f.getD k 0) (f := f) (s := s) (hc.len f hfm) (by rw [Int.natAbs_neg]; exact getD_bd (hc.bd s hsm)) (getD_bd (hc.bd f hfm)) (hc.bd f hfm) (hc.bd s hsm)
      exact dropK_smd c.1 hk c.2
    · cases h

theorem wo_len {d k : Nat} {rows : List (List Int)} (hc : CutF d rows) (hk : k < d) {r : List Int} (hr : r ∈ woAll rows k rows.length) : r.length = d := by
  rw [← dw_wo] at hr
  obtain ⟨z, hz, h⟩ := List.mem_flatMap.1 hr
  unfold kpD at h
  split at h
  · cases h
  · simp only [List.mem_singleton] at h
    rw [h, low_len]
    exact (dwAll_smd hc hk z hz).1

/-- One row more, behind an append. -/
theorem fr_more {w W w3 : World} {x u v' : Value} {m : List (List Int)} {vs : List Value} {zs : List Int} (hb : Below w.heap.size w W) (g1 : vs.length = m.length) (g2 : W.ownsRow w.heap.size 38 1 x m.length vs) (g3 : ∀ i, i < m.length → Sl 0 3 W (vs.getD i (.slice none 0 0)) (ints (m.getD i []))) (hu : Sl 0 3 W u (ints zs))
    (ho : w3.ownsRow w.heap.size 38 1 v' (m.length + 1) (vs ++ [u])) (hg : (W.alloc (.cells #[u] 38)).grownBy w3 x.ownBlock) : Fr w.heap.size 38 3 w3 v' (m ++ [zs]) ∧ Below w.heap.size w w3 :=
  ⟨Fr.push (e2 := 38) (e1 := 3) (m := m) (u := u) (zs := zs) (by decide) g1 (g2.alloc _) (fun i hi => (g3 i hi).alloc _) (hu.alloc _) ho hg,
   (hb.alloc hb.size _).grown hg (by have := hb.size; simp; omega) (fun x hx => (g2.lt x hx).1)⟩

set_option maxRecDepth 100000 in
set_option maxHeartbeats 4000000 in
theorem withoutR_any (d k : Nat) (rows : List (List Int)) (v : Value) (w : World) {B0 : Nat} (hv : Mat B0 38 3 w v rows) (hc : CutF d rows) (hk : k < d) :
    Calls Tryz.prog 9 #[v, .int .i64 k] w fun e w' => ∃ x s, e = .returned x ∧ Fr w.heap.size 38 3 w' x s ∧ SAsc s ∧ (∀ r, r ∈ s ↔ r ∈ woAll rows k rows.length) ∧ Below w.heap.size w w' := by
  obtain ⟨i0, hi, hz0, hz1, hz2⟩ := info_parts Tryz.info38
  obtain ⟨i3, hi3, hz30, hz31, hz32⟩ := info_parts Tryz.info3
  obtain ⟨ro, rc, hvv, hlc, hcm⟩ := mat_open hv
  subst hvv
  have HV : Hid (Mat B0 38 3 w (.slice ro rows.length rc) rows) := hv
  have HC : Hid (CutF d rows) := hc
  have hn12 := hc.n12
  have hd3 := hc.d4
  clear hv hc
  go_enter Tryz.func9, Tryz.ntmps9
  go_wp2
  go_loopw [5, 6] (fun x i wr => ∃ p : Nat, p ≤ rows.length ∧ i = .int .i64 p ∧ Fr w.heap.size 38 3 wr x (dwAll rows k p) ∧ Below w.heap.size w wr) (fun _ i _ => rows.length - (intOf i).toNat)
  case atStart => exact ⟨0, Nat.zero_le _, rfl, Fr.nil _ _ _ _, Below.refl _ _⟩
  case round =>
    obtain ⟨p, hp, rfl, hfr, hbel⟩ := hrel
    obtain ⟨wa, rfl⟩ : ∃ wa, wa = wr := ⟨_, rfl⟩
    have HB : Hid (Below w.heap.size w wa) := hbel
    have hsza : w.heap.size ≤ wa.heap.size := hbel.size
    by_cases hlt : p < rows.length
    · have HAS : Hid (dwAll rows k (p + 1) = dwAll rows k p ++ dwRow rows k (rows.getD p [])) := dwAll_succ hlt
      have HAL : Hid ((dwAll rows k p).length ≤ 156) := dwAll_len hn12
      obtain ⟨b, o, cp, fv, hs, _, hfc, hfv⟩ := mat_cell HV.out hlt
      simp only [Value.slice.injEq] at hs
      obtain ⟨rfl, -, rfl⟩ := hs
      have hfm : rows.getD p [] ∈ rows := by rw [List.getD_eq_getElem?_getD, List.getElem?_eq_getElem hlt]; exact List.getElem_mem _
      obtain ⟨f, hf⟩ : ∃ f, f = rows.getD p [] := ⟨_, rfl⟩
      rw [← hf] at hfv hfm HAS
      clear hf
      have HFL : Hid (f.length = d + 1) := HC.out.len f hfm
      have HFB : Hid (∀ z ∈ f, z.natAbs ≤ 20) := HC.out.bd f hfm
      obtain ⟨fb, fo, fc, hfs, hfc1, hfk⟩ := sl_cell hfv (k := k) (by rw [HFL.out]; omega)
      rw [HFL.out] at hfs hfc1
      subst hfs
      have HFV : Hid (∀ W, Below w.heap.size w W → Sl B0 3 W (.slice (some ⟨fb, fo, none⟩) (d + 1) fc) (ints f)) := fun W hb => hfv.below hb (Nat.le_refl _)
      have HFC : Hid (∀ W, Below w.heap.size w W → W.cell? ⟨b, o + p, none⟩ = some (.slice (some ⟨fb, fo, none⟩) (d + 1) fc) ∧ W.cell? ⟨fb, fo + k, none⟩ = some (.int .i64 (f.getD k 0))) := fun W hb => ⟨(hb.cell (lt_of_cell hfc)).trans hfc, (hb.cell (lt_of_cell hfk)).trans hfk⟩
      have HON : Hid (dwOne k f = if f.getD k 0 = 0 then [dropK f k] else []) := rfl
      have HTW : Hid (∀ s, dwTwo k f s = if 0 < f.getD k 0 ∧ s.getD k 0 < 0 then [dropK (combL (-(s.getD k 0)) f (f.getD k 0) s) k] else []) := fun _ => rfl
      have HDR : Hid (∀ (r : List Int) (so : Option Addr) (sc : Nat) (W : World), r.length = d + 1 → Sl B0 3 W (.slice so (d + 1) sc) (ints r) → Calls Tryz.prog 22 #[.slice so (d + 1) sc, .int .i64 k] W fun e w' => ∃ uo uc, e = .returned (.slice uo d uc) ∧ Sl 0 3 w' (.slice uo d uc) (ints (dropK r k)) ∧ Below W.heap.size W w') := fun r so sc W hl hs => by
        refine (drop_own k r _ W hs (by omega) (by omega)).mono ?_
        rintro e w' ⟨u, rfl, ho, hb⟩
        rw [hl, show d + 1 - 1 = d by omega] at ho
        obtain ⟨uo, uc, rfl⟩ := owns_form ho
        exact ⟨uo, uc, rfl, Sl.own ho, hb⟩
      have hfkb : (f.getD k 0).natAbs ≤ 20 := getD_bd HFB.out
      obtain ⟨a0, a1⟩ := HFC.out wa HB.out
      obtain ⟨vs, g1, g2, g3⟩ := hfr
      have HFA : Hid (Fr w.heap.size 38 3 wa u5 (dwAll rows k p)) := ⟨vs, g1, g2, g3⟩
      clear hbel hfc hfv hfk hfm g1 g2 g3 vs
      generalize f.getD k 0 = fk at *
      generalize dwAll rows k p = A at *
      have hpI : (p : Int) < (rows.length : Int) := by omega
      have hpI0 : (0 : Int) ≤ (p : Int) := by omega
      have hkI0 : (0 : Int) ≤ (k : Int) := by omega
      have hkI : (k : Int) < (d : Int) + 1 := by omega
      by_cases h0 : fk = 0
      case' pos =>
        have HAO : Hid (A ++ dwOne k f = A ++ [dropK f k]) := by show _ = _; rw [HON.out, if_pos h0]
        have h0b : (fk == 0) = true := by simpa using h0
        go_wp2_with fail
        refine (HDR.out f _ _ wa HFL.out (HFV.out wa HB.out)).mono ?_
        rintro e w2 ⟨uo, uc, rfl, hu2, hb2⟩
        have HB2 : Hid (Below w.heap.size w w2) := HB.out.trans (hb2.mono hsza)
        obtain ⟨vs, g1, g2, g3⟩ := HFA.out.below hb2 (Nat.le_refl _)
        have G2 : Hid (w2.ownsRow w.heap.size 38 1 u5 A.length vs) := g2
        have HMO : Hid (∀ v' w3, w3.ownsRow w.heap.size 38 1 v' (A.length + 1) (vs ++ [.slice uo d uc]) → (w2.alloc (.cells #[.slice uo d uc] 38)).grownBy w3 u5.ownBlock → Fr w.heap.size 38 3 w3 v' (A ++ [dropK f k]) ∧ Below w.heap.size w w3) := fun v' w3 ho hg => fr_more HB2.out g1 g2 g3 hu2 ho hg
        have hsz2 : w.heap.size ≤ w2.heap.size := HB2.out.size
        have hal := HAL.out
        clear hu2 hb2 g1 g2 g3 a0 a1
        go_wp2_with (first | (at_builtin; refine wpList_append_own _ rfl _ _ 22 rfl w.heap.size 38 i0 (.slice none 0 0) 1 24 Tryz.underlying22 hi hz0 hz1 hz2 rfl (by decide) _ _ _ rfl (G2.out.alloc _) ⟨w2.heap.size, 0, none⟩ 1 1 [.slice uo d uc] rfl rfl (one_new _ _ _) (one_slice _ _ _) ?d3 ?d4 ?d5 ?_))
        case d3 => unfold maxLen; omega
        case d4 => omega
        case d5 => first | omega | (simp; omega)
        intro x5 W ho hg _
        obtain ⟨q1, q2⟩ := HMO.out x5 W ho hg
        have HF5 : Hid (Fr w.heap.size 38 3 W x5 (A ++ dwOne k f)) := by show Fr _ _ _ _ _ _; rw [HAO.out]; exact q1
        have HB5 : Hid (Below w.heap.size w W) := q2
        clear q1 q2 ho hg HMO G2
        go_wp2
      case' neg =>
        have HAO : Hid (A ++ dwOne k f = A) := by show _ = _; rw [HON.out, if_neg h0, List.append_nil]
        have h0b : (fk == 0) = false := by simpa using h0
        go_wp2
        obtain ⟨x5, hx5⟩ : ∃ x5, x5 = u5 := ⟨_, rfl⟩
        rw [← hx5] at HFA ⊢
        clear hx5
        have HF5 : Hid (Fr w.heap.size 38 3 wa x5 (A ++ dwOne k f)) := by show Fr _ _ _ _ _ _; rw [HAO.out]; exact HFA.out
        have HB5 : Hid (Below w.heap.size w wa) := HB.out
        obtain ⟨W, rfl⟩ : ∃ W, W = wa := ⟨_, rfl⟩
        clear a0 a1
      all_goals
        clear HAO h0 h0b HFA HON
        have HDL : Hid ((dwOne k f).length ≤ 1) := dwOne_len k f
        obtain ⟨D1, hD1⟩ : ∃ D1, D1 = dwOne k f := ⟨_, rfl⟩
        have HD1 : Hid (dwOne k f = D1) := hD1.symm
        rw [← hD1] at HDL HF5
        clear hD1
        go_loopw [5, 7] (fun x j wq => ∃ q : Nat, q ≤ rows.length ∧ j = .int .i64 q ∧ Fr w.heap.size 38 3 wq x (A ++ D1 ++ dwIn rows k f q) ∧ Below w.heap.size w wq) (fun _ j _ => rows.length - (intOf j).toNat)
        case atStart => exact ⟨0, Nat.zero_le _, rfl, (by have h := HF5.out; simp only [dwIn, List.take_zero, List.flatMap_nil, List.append_nil]; exact h), HB5.out⟩
        case round =>
          clear HF5 HB5
          obtain ⟨q, hq, rfl, hfr, hbel⟩ := hrel
          obtain ⟨wq, rfl⟩ : ∃ wq, wq = wr := ⟨_, rfl⟩
          have HBQ : Hid (Below w.heap.size w wq) := hbel
          have HFQ : Hid (Fr w.heap.size 38 3 wq u5 (A ++ D1 ++ dwIn rows k f q)) := hfr
          have hszq : w.heap.size ≤ wq.heap.size := hbel.size
          obtain ⟨a0, a1⟩ := HFC.out wq hbel
          clear hbel hfr
          by_cases hlq : q < rows.length
          · have HIS : Hid (dwIn rows k f (q + 1) = dwIn rows k f q ++ dwTwo k f (rows.getD q [])) := dwIn_succ hlq
            have HIL : Hid ((dwIn rows k f q).length ≤ rows.length) := dwIn_len rows k f q
            obtain ⟨b', o', cp', sv, hs, _, hsc, hsv⟩ := mat_cell HV.out hlq
            simp only [Value.slice.injEq, Option.some.injEq, Addr.mk.injEq, and_true] at hs
            obtain ⟨⟨rfl, rfl⟩, -, -⟩ := hs
            have hsm : rows.getD q [] ∈ rows := by rw [List.getD_eq_getElem?_getD, List.getElem?_eq_getElem hlq]; exact List.getElem_mem _
            obtain ⟨s, hs⟩ : ∃ s, s = rows.getD q [] := ⟨_, rfl⟩
            rw [← hs] at hsv hsm HIS
            clear hs
            have HSL : Hid (s.length = d + 1) := HC.out.len s hsm
            have HSB : Hid (∀ z ∈ s, z.natAbs ≤ 20) := HC.out.bd s hsm
            obtain ⟨sb, so, sc, hss, hsc1, hsk⟩ := sl_cell hsv (k := k) (by rw [HSL.out]; omega)
            rw [HSL.out] at hss hsc1
            subst hss
            have HSV : Hid (∀ W, Below w.heap.size w W → Sl B0 3 W (.slice (some ⟨sb, so, none⟩) (d + 1) sc) (ints s)) := fun W hb => hsv.below hb (Nat.le_refl _)
            have HSC : Hid (∀ W, Below w.heap.size w W → W.cell? ⟨b, o + q, none⟩ = some (.slice (some ⟨sb, so, none⟩) (d + 1) sc) ∧ W.cell? ⟨sb, so + k, none⟩ = some (.int .i64 (s.getD k 0))) := fun W hb => ⟨(hb.cell (lt_of_cell hsc)).trans hsc, (hb.cell (lt_of_cell hsk)).trans hsk⟩
            have hskb : (s.getD k 0).natAbs ≤ 20 := getD_bd HSB.out
            have HT2 := HTW.out s
            have HT3 : Hid (dwTwo k f s = if 0 < fk ∧ s.getD k 0 < 0 then [dropK (combL (-(s.getD k 0)) f fk s) k] else []) := HT2
            obtain ⟨e0, e1⟩ := HSC.out wq HBQ.out
            clear HT2 hsc hsv hsk hsm
            generalize s.getD k 0 = sk at *
            have hqI : (q : Int) < (rows.length : Int) := by omega
            have hqI0 : (0 : Int) ≤ (q : Int) := by omega
            by_cases hfp : 0 < fk
            · have hfpb : decide (0 < fk) = true := decide_eq_true hfp
              by_cases hsn : sk < 0
              · have hsnb : decide (sk < 0) = true := decide_eq_true hsn
                have HTT : Hid (dwIn rows k f (q + 1) = dwIn rows k f q ++ [dropK (combL (-sk) f fk s) k]) := by show _ = _; rw [HIS.out, HT3.out, if_pos ⟨hfp, hsn⟩]
                have hcs := comb_small (v := -sk) (u := fk) (f := f) (s := s) HFL.out (by rw [Int.natAbs_neg]; exact hskb) hfkb HFB.out HSB.out
                have HCLN : Hid ((combL (-sk) f fk s).length = d + 1) := hcs.1
                have HCAT : Hid (∀ t, t < d + 1 → (combL (-sk) f fk s).getD t 0 = -sk * f.getD t 0 + fk * s.getD t 0) := fun t ht => combL_at (by rw [HFL.out]; exact ht)
                clear hcs HT3 HIS
                generalize combL (-sk) f fk s = cb at *
                go_wp2
                go_loopw [8, 9] (fun x c wz => ∃ t : Nat, t ≤ d + 1 ∧ c = .int .i64 t ∧ wz.ownsRow wq.heap.size 3 1 x t (ints (cb.take t)) ∧ Below wq.heap.size wq wz) (fun _ c _ => d + 1 - (intOf c).toNat)
                case atStart => exact ⟨0, Nat.zero_le _, rfl, World.ownsRow_nil _ _ _ _, Below.refl _ _⟩
                case round =>
                  clear a0 a1 e0 e1
                  obtain ⟨t, ht, rfl, hot, hbt⟩ := hrel
                  obtain ⟨wz, rfl⟩ : ∃ wz, wz = wr := ⟨_, rfl⟩
                  have HBT : Hid (Below wq.heap.size wq wz) := hbt
                  have HBZ : Hid (Below w.heap.size w wz) := HBQ.out.trans (hbt.mono hszq)
                  have HOT : Hid (wz.ownsRow wq.heap.size 3 1 u8 t (ints (cb.take t))) := hot
                  obtain ⟨a0, a1⟩ := HFC.out wz HBZ.out
                  obtain ⟨e0, e1⟩ := HSC.out wz HBZ.out
                  obtain ⟨xo, xc, hxv⟩ := owns_form hot
                  subst hxv
                  clear hbt hot
                  by_cases hlt2 : t < d + 1
                  · have HTS : Hid (ints (cb.take (t + 1)) = ints (cb.take t) ++ [.int .i64 (-sk * f.getD t 0 + fk * s.getD t 0)]) := by
                      show _ = _
                      rw [take_snoc_int cb t (by rw [HCLN.out]; exact hlt2), HCAT.out t hlt2]
                      simp [ints]
                    obtain ⟨fb', fo', fc', hfs', _, hft⟩ := sl_cell (HFV.out wz HBZ.out) (k := t) (by rw [HFL.out]; exact hlt2)
                    simp only [Value.slice.injEq, Option.some.injEq, Addr.mk.injEq, and_true] at hfs'
                    obtain ⟨⟨rfl, rfl⟩, -, -⟩ := hfs'
                    obtain ⟨sb', so', sc', hss', _, hst⟩ := sl_cell (HSV.out wz HBZ.out) (k := t) (by rw [HSL.out]; exact hlt2)
                    simp only [Value.slice.injEq, Option.some.injEq, Addr.mk.injEq, and_true] at hss'
                    obtain ⟨⟨rfl, rfl⟩, -, -⟩ := hss'
                    have hftb : (f.getD t 0).natAbs ≤ 20 := getD_bd HFB.out
                    have hstb : (s.getD t 0).natAbs ≤ 20 := getD_bd HSB.out
                    obtain ⟨ft, hfe⟩ : ∃ ft, ft = f.getD t 0 := ⟨_, rfl⟩
                    obtain ⟨st, hse⟩ : ∃ st, st = s.getD t 0 := ⟨_, rfl⟩
                    have HFT : Hid (f.getD t 0 = ft) := hfe.symm
                    have HST : Hid (s.getD t 0 = st) := hse.symm
                    rw [← hfe] at hft hftb HTS
                    rw [← hse] at hst hstb HTS
                    clear hfe hse
                    have m1 := mul20 (a := -sk) (b := ft) (by rw [Int.natAbs_neg]; exact hskb) hftb
                    have m2 := mul20 (a := fk) (b := st) hfkb hstb
                    obtain ⟨P1, hP1⟩ : ∃ P1, P1 = -sk * ft := ⟨_, rfl⟩
                    obtain ⟨P2, hP2⟩ : ∃ P2, P2 = fk * st := ⟨_, rfl⟩
                    rw [← hP1] at m1 HTS
                    rw [← hP2] at m2 HTS
                    have n1 : IntKind.i64.wrap (-sk) = -sk := by rw [IntKind.wrap_i64]; omega
                    have n2 : wrap64 (-sk) = -sk := IntWalk.wrap64_in _ ⟨by omega, by omega⟩
                    have n3 : IntKind.i64.wrap (-sk * ft) = P1 := by rw [IntKind.wrap_i64]; omega
                    have n4 : wrap64 (-sk * ft) = P1 := by rw [← hP1]; exact IntWalk.wrap64_in _ ⟨by omega, by omega⟩
                    have n5 : IntKind.i64.wrap (fk * st) = P2 := by rw [IntKind.wrap_i64]; omega
                    have n6 : wrap64 (fk * st) = P2 := by rw [← hP2]; exact IntWalk.wrap64_in _ ⟨by omega, by omega⟩
                    have n7 : IntKind.i64.wrap (P1 + P2) = P1 + P2 := by rw [IntKind.wrap_i64]; omega
                    have n8 : wrap64 (P1 + P2) = P1 + P2 := IntWalk.wrap64_in _ ⟨by omega, by omega⟩
                    have HSS : Hid (∀ W', Below wz.heap.size wz W' → W'.cell? ⟨b, o + p, none⟩ = some (.slice (some ⟨fb, fo, none⟩) (d + 1) fc) ∧ W'.cell? ⟨b, o + q, none⟩ = some (.slice (some ⟨sb, so, none⟩) (d + 1) sc) ∧ W'.cell? ⟨fb, fo + k, none⟩ = some (.int .i64 fk) ∧ W'.cell? ⟨sb, so + k, none⟩ = some (.int .i64 sk) ∧ W'.cell? ⟨fb, fo + t, none⟩ = some (.int .i64 ft) ∧ W'.cell? ⟨sb, so + t, none⟩ = some (.int .i64 st)) := fun W' h => ⟨(h.cell (lt_of_cell a0)).trans a0, (h.cell (lt_of_cell e0)).trans e0, (h.cell (lt_of_cell a1)).trans a1, (h.cell (lt_of_cell e1)).trans e1, (h.cell (lt_of_cell hft)).trans hft, (h.cell (lt_of_cell hst)).trans hst⟩
                    have HOD : Hid ((wz.drew).ownsRow wq.heap.size 3 1 (.slice xo t xc) t (ints (cb.take t))) := owns_below HOT.out (Below.drew (Below.refl _ _)) (Nat.le_refl _)
                    have HBD : Hid (Below wq.heap.size wq wz.drew) := Below.drew HBT.out
                    have HOA : Hid (((wz.drew).alloc (.cells #[.int .i64 (P1 + P2)] 3)).ownsRow wq.heap.size 3 1 (.slice xo t xc) t (ints (cb.take t))) := HOD.out.alloc _
                    have HSZ1 : Hid (wq.heap.size ≤ ((wz.drew).alloc (.cells #[.int .i64 (P1 + P2)] 3)).heap.size) := by show _ ≤ _; have := HBD.out.size; simp; simp at this; omega
                    have HBA2 : Hid (Below wz.heap.size wz ((wz.drew).alloc (.cells #[.int .i64 (P1 + P2)] 3))) := (Below.drew (Below.refl _ _)).alloc (Nat.le_refl _) _
                    have hdz : wq.heap.size ≤ (wz.drew).heap.size := HBD.out.size
                    have HFIN : Hid (∀ v' w5, w5.ownsRow wq.heap.size 3 1 v' (t + 1) (ints (cb.take t) ++ [.int .i64 (P1 + P2)]) → ((wz.drew).alloc (.cells #[.int .i64 (P1 + P2)] 3)).grownBy w5 (Value.slice xo t xc).ownBlock → w5.ownsRow wq.heap.size 3 1 v' (t + 1) (ints (cb.take (t + 1))) ∧ Below wq.heap.size wq w5 ∧ (w5.cell? ⟨b, o + p, none⟩ = some (.slice (some ⟨fb, fo, none⟩) (d + 1) fc) ∧ w5.cell? ⟨b, o + q, none⟩ = some (.slice (some ⟨sb, so, none⟩) (d + 1) sc) ∧ w5.cell? ⟨fb, fo + k, none⟩ = some (.int .i64 fk) ∧ w5.cell? ⟨sb, so + k, none⟩ = some (.int .i64 sk) ∧ w5.cell? ⟨fb, fo + t, none⟩ = some (.int .i64 ft) ∧ w5.cell? ⟨sb, so + t, none⟩ = some (.int .i64 st))) := fun v' w5 ho5 hg5 => by
                      have R2 : Below wq.heap.size wq w5 := (HBD.out.alloc hdz _).grown hg5 HSZ1.out (fun x hx => (HOD.out.lt x hx).1)
                      have R3 : Below w.heap.size w w5 := HBQ.out.trans (R2.mono hszq)
                      obtain ⟨c0, c1⟩ := HFC.out w5 R3
                      obtain ⟨c2, c3⟩ := HSC.out w5 R3
                      refine ⟨by rw [HTS.out]; exact ho5, R2, c0, c2, c1, c3, ?_, ?_⟩
                      · obtain ⟨fb', fo', fc', hfs', _, hft⟩ := sl_cell (HFV.out w5 R3) (k := t) (by rw [HFL.out]; exact hlt2)
                        simp only [Value.slice.injEq, Option.some.injEq, Addr.mk.injEq, and_true] at hfs'
                        obtain ⟨⟨rfl, rfl⟩, -, -⟩ := hfs'
                        rw [HFT.out] at hft
                        exact hft
                      · obtain ⟨sb', so', sc', hss', _, hst⟩ := sl_cell (HSV.out w5 R3) (k := t) (by rw [HSL.out]; exact hlt2)
                        simp only [Value.slice.injEq, Option.some.injEq, Addr.mk.injEq, and_true] at hss'
                        obtain ⟨⟨rfl, rfl⟩, -, -⟩ := hss'
                        rw [HST.out] at hst
                        exact hst
                    have htI : (t : Int) < (d : Int) + 1 := by omega
                    have htI0 : (0 : Int) ≤ (t : Int) := by omega
                    clear HOT HBT m1 m2 hP1 hP2
                    go_upto_region 15 with fail
                    refine wp_region_held_drew (S := fun W' => W'.cell? ⟨b, o + p, none⟩ = some (.slice (some ⟨fb, fo, none⟩) (d + 1) fc) ∧ W'.cell? ⟨b, o + q, none⟩ = some (.slice (some ⟨sb, so, none⟩) (d + 1) sc) ∧ W'.cell? ⟨fb, fo + k, none⟩ = some (.int .i64 fk) ∧ W'.cell? ⟨sb, so + k, none⟩ = some (.int .i64 sk) ∧ W'.cell? ⟨fb, fo + t, none⟩ = some (.int .i64 ft) ∧ W'.cell? ⟨sb, so + t, none⟩ = some (.int .i64 st)) (by kernel_rfl) (HSS.out _ (Below.drew (Below.refl _ _))) (fun hHeld => ?_)
                    refine wpAnyH_tk (i := 0) (d := 72) (v := (.slice xo t xc)) rfl rfl (by kernel_rfl) (by kernel_rfl) (by kernel_rfl) (fun _ _ _ h => h) (.inl ⟨by rfl, by (intro wq hSw; (try dsimp only at hSw); go_simp; (try (first | rfl | omega)))⟩) hHeld ?_
                    simp only [Act.put, List.setIfInBounds_toArray, List.set_cons_zero, List.set_cons_succ]
                    refine wpAnyH_tk (i := 1) (d := 73) (v := (.slice (some ⟨b, o, none⟩) rows.length rc)) rfl rfl (by kernel_rfl) (by kernel_rfl) (by kernel_rfl) (fun _ _ _ h => h) (.inl ⟨by rfl, by (intro wq hSw; (try dsimp only at hSw); go_simp; (try (first | rfl | omega)))⟩) hHeld ?_
                    simp only [Act.put, List.setIfInBounds_toArray, List.set_cons_zero, List.set_cons_succ]
                    refine wpAnyH_tk (i := 2) (d := 74) (v := (.int .i64 q)) rfl rfl (by kernel_rfl) (by kernel_rfl) (by kernel_rfl) (fun _ _ _ h => h) (.inl ⟨by rfl, by (intro wq hSw; (try dsimp only at hSw); go_simp; (try (first | rfl | omega)))⟩) hHeld ?_
                    simp only [Act.put, List.setIfInBounds_toArray, List.set_cons_zero, List.set_cons_succ]
                    refine wpAnyH_tk (i := 3) (d := 75) (v := (.pointer (some ⟨b, o + q, none⟩))) rfl rfl (by kernel_rfl) (by kernel_rfl) (by kernel_rfl) (fun _ _ _ h => h) (.inl ⟨by rfl, by (intro wq hSw; (try dsimp only at hSw); go_simp; (try (first | rfl | omega)))⟩) hHeld ?_
                    simp only [Act.put, List.setIfInBounds_toArray, List.set_cons_zero, List.set_cons_succ]
                    refine wpAnyH_tk (i := 4) (d := 76) (v := (.slice (some ⟨sb, so, none⟩) (d + 1) sc)) rfl rfl (by kernel_rfl) (by kernel_rfl) (by kernel_rfl) (fun _ _ _ h => h) (.inl ⟨by rfl, by (intro wq hSw; (try dsimp only at hSw); go_simp; (try (first | rfl | omega)))⟩) hHeld ?_
                    simp only [Act.put, List.setIfInBounds_toArray, List.set_cons_zero, List.set_cons_succ]
                    refine wpAnyH_tk (i := 5) (d := 77) (v := (.int .i64 k)) rfl rfl (by kernel_rfl) (by kernel_rfl) (by kernel_rfl) (fun _ _ _ h => h) (.inl ⟨by rfl, by (intro wq hSw; (try dsimp only at hSw); go_simp; (try (first | rfl | omega)))⟩) hHeld ?_
                    simp only [Act.put, List.setIfInBounds_toArray, List.set_cons_zero, List.set_cons_succ]
                    refine wpAnyH_tk (i := 6) (d := 78) (v := (.pointer (some ⟨sb, so + k, none⟩))) rfl rfl (by kernel_rfl) (by kernel_rfl) (by kernel_rfl) (fun _ _ _ h => h) (.inl ⟨by rfl, by (intro wq hSw; (try dsimp only at hSw); go_simp; (try (first | rfl | omega)))⟩) hHeld ?_
                    simp only [Act.put, List.setIfInBounds_toArray, List.set_cons_zero, List.set_cons_succ]
                    refine wpAnyH_tk (i := 7) (d := 79) (v := (.int .i64 sk)) rfl rfl (by kernel_rfl) (by kernel_rfl) (by kernel_rfl) (fun _ _ _ h => h) (.inl ⟨by rfl, by (intro wq hSw; (try dsimp only at hSw); go_simp; (try (first | rfl | omega)))⟩) hHeld ?_
                    simp only [Act.put, List.setIfInBounds_toArray, List.set_cons_zero, List.set_cons_succ]
                    refine wpAnyH_tk (i := 8) (d := 80) (v := (.int .i64 (-sk))) rfl rfl (by kernel_rfl) (by kernel_rfl) (by kernel_rfl) (fun _ _ _ h => h) (.inl ⟨by rfl, by (intro wq hSw; (try dsimp only at hSw); go_simp; (try (first | rfl | omega)))⟩) hHeld ?_
                    simp only [Act.put, List.setIfInBounds_toArray, List.set_cons_zero, List.set_cons_succ]
                    refine wpAnyH_tk (i := 9) (d := 81) (v := (.slice (some ⟨b, o, none⟩) rows.length rc)) rfl rfl (by kernel_rfl) (by kernel_rfl) (by kernel_rfl) (fun _ _ _ h => h) (.inl ⟨by rfl, by (intro wq hSw; (try dsimp only at hSw); go_simp; (try (first | rfl | omega)))⟩) hHeld ?_
                    simp only [Act.put, List.setIfInBounds_toArray, List.set_cons_zero, List.set_cons_succ]
                    refine wpAnyH_tk (i := 10) (d := 82) (v := (.int .i64 p)) rfl rfl (by kernel_rfl) (by kernel_rfl) (by kernel_rfl) (fun _ _ _ h => h) (.inl ⟨by rfl, by (intro wq hSw; (try dsimp only at hSw); go_simp; (try (first | rfl | omega)))⟩) hHeld ?_
                    simp only [Act.put, List.setIfInBounds_toArray, List.set_cons_zero, List.set_cons_succ]
                    refine wpAnyH_tk (i := 11) (d := 83) (v := (.pointer (some ⟨b, o + p, none⟩))) rfl rfl (by kernel_rfl) (by kernel_rfl) (by kernel_rfl) (fun _ _ _ h => h) (.inl ⟨by rfl, by (intro wq hSw; (try dsimp only at hSw); go_simp; (try (first | rfl | omega)))⟩) hHeld ?_
                    simp only [Act.put, List.setIfInBounds_toArray, List.set_cons_zero, List.set_cons_succ]
                    refine wpAnyH_tk (i := 12) (d := 84) (v := (.slice (some ⟨fb, fo, none⟩) (d + 1) fc)) rfl rfl (by kernel_rfl) (by kernel_rfl) (by kernel_rfl) (fun _ _ _ h => h) (.inl ⟨by rfl, by (intro wq hSw; (try dsimp only at hSw); go_simp; (try (first | rfl | omega)))⟩) hHeld ?_
                    simp only [Act.put, List.setIfInBounds_toArray, List.set_cons_zero, List.set_cons_succ]
                    refine wpAnyH_tk (i := 13) (d := 85) (v := (.int .i64 t)) rfl rfl (by kernel_rfl) (by kernel_rfl) (by kernel_rfl) (fun _ _ _ h => h) (.inl ⟨by rfl, by (intro wq hSw; (try dsimp only at hSw); go_simp; (try (first | rfl | omega)))⟩) hHeld ?_
                    simp only [Act.put, List.setIfInBounds_toArray, List.set_cons_zero, List.set_cons_succ]
                    refine wpAnyH_tk (i := 14) (d := 86) (v := (.pointer (some ⟨fb, fo + t, none⟩))) rfl rfl (by kernel_rfl) (by kernel_rfl) (by kernel_rfl) (fun _ _ _ h => h) (.inl ⟨by rfl, by (intro wq hSw; (try dsimp only at hSw); go_simp; (try (first | rfl | omega)))⟩) hHeld ?_
                    simp only [Act.put, List.setIfInBounds_toArray, List.set_cons_zero, List.set_cons_succ]
                    refine wpAnyH_tk (i := 15) (d := 87) (v := (.int .i64 ft)) rfl rfl (by kernel_rfl) (by kernel_rfl) (by kernel_rfl) (fun _ _ _ h => h) (.inl ⟨by rfl, by (intro wq hSw; (try dsimp only at hSw); go_simp; (try (first | rfl | omega)))⟩) hHeld ?_
                    simp only [Act.put, List.setIfInBounds_toArray, List.set_cons_zero, List.set_cons_succ]
                    refine wpAnyH_tk (i := 16) (d := 88) (v := (.int .i64 P1)) rfl rfl (by kernel_rfl) (by kernel_rfl) (by kernel_rfl) (fun _ _ _ h => h) (.inl ⟨by rfl, by (intro wq hSw; (try dsimp only at hSw); go_simp; (try (first | rfl | omega)))⟩) hHeld ?_
                    simp only [Act.put, List.setIfInBounds_toArray, List.set_cons_zero, List.set_cons_succ]
                    refine wpAnyH_tk (i := 17) (d := 89) (v := (.slice (some ⟨b, o, none⟩) rows.length rc)) rfl rfl (by kernel_rfl) (by kernel_rfl) (by kernel_rfl) (fun _ _ _ h => h) (.inl ⟨by rfl, by (intro wq hSw; (try dsimp only at hSw); go_simp; (try (first | rfl | omega)))⟩) hHeld ?_
                    simp only [Act.put, List.setIfInBounds_toArray, List.set_cons_zero, List.set_cons_succ]
                    refine wpAnyH_tk (i := 18) (d := 90) (v := (.int .i64 p)) rfl rfl (by kernel_rfl) (by kernel_rfl) (by kernel_rfl) (fun _ _ _ h => h) (.inl ⟨by rfl, by (intro wq hSw; (try dsimp only at hSw); go_simp; (try (first | rfl | omega)))⟩) hHeld ?_
                    simp only [Act.put, List.setIfInBounds_toArray, List.set_cons_zero, List.set_cons_succ]
                    refine wpAnyH_tk (i := 19) (d := 91) (v := (.pointer (some ⟨b, o + p, none⟩))) rfl rfl (by kernel_rfl) (by kernel_rfl) (by kernel_rfl) (fun _ _ _ h => h) (.inl ⟨by rfl, by (intro wq hSw; (try dsimp only at hSw); go_simp; (try (first | rfl | omega)))⟩) hHeld ?_
                    simp only [Act.put, List.setIfInBounds_toArray, List.set_cons_zero, List.set_cons_succ]
                    refine wpAnyH_tk (i := 20) (d := 92) (v := (.slice (some ⟨fb, fo, none⟩) (d + 1) fc)) rfl rfl (by kernel_rfl) (by kernel_rfl) (by kernel_rfl) (fun _ _ _ h => h) (.inl ⟨by rfl, by (intro wq hSw; (try dsimp only at hSw); go_simp; (try (first | rfl | omega)))⟩) hHeld ?_
                    simp only [Act.put, List.setIfInBounds_toArray, List.set_cons_zero, List.set_cons_succ]
                    refine wpAnyH_tk (i := 21) (d := 93) (v := (.int .i64 k)) rfl rfl (by kernel_rfl) (by kernel_rfl) (by kernel_rfl) (fun _ _ _ h => h) (.inl ⟨by rfl, by (intro wq hSw; (try dsimp only at hSw); go_simp; (try (first | rfl | omega)))⟩) hHeld ?_
                    simp only [Act.put, List.setIfInBounds_toArray, List.set_cons_zero, List.set_cons_succ]
                    refine wpAnyH_tk (i := 22) (d := 94) (v := (.pointer (some ⟨fb, fo + k, none⟩))) rfl rfl (by kernel_rfl) (by kernel_rfl) (by kernel_rfl) (fun _ _ _ h => h) (.inl ⟨by rfl, by (intro wq hSw; (try dsimp only at hSw); go_simp; (try (first | rfl | omega)))⟩) hHeld ?_
                    simp only [Act.put, List.setIfInBounds_toArray, List.set_cons_zero, List.set_cons_succ]
                    refine wpAnyH_tk (i := 23) (d := 95) (v := (.int .i64 fk)) rfl rfl (by kernel_rfl) (by kernel_rfl) (by kernel_rfl) (fun _ _ _ h => h) (.inl ⟨by rfl, by (intro wq hSw; (try dsimp only at hSw); go_simp; (try (first | rfl | omega)))⟩) hHeld ?_
                    simp only [Act.put, List.setIfInBounds_toArray, List.set_cons_zero, List.set_cons_succ]
                    refine wpAnyH_tk (i := 24) (d := 96) (v := (.slice (some ⟨b, o, none⟩) rows.length rc)) rfl rfl (by kernel_rfl) (by kernel_rfl) (by kernel_rfl) (fun _ _ _ h => h) (.inl ⟨by rfl, by (intro wq hSw; (try dsimp only at hSw); go_simp; (try (first | rfl | omega)))⟩) hHeld ?_
                    simp only [Act.put, List.setIfInBounds_toArray, List.set_cons_zero, List.set_cons_succ]
                    refine wpAnyH_tk (i := 25) (d := 97) (v := (.int .i64 q)) rfl rfl (by kernel_rfl) (by kernel_rfl) (by kernel_rfl) (fun _ _ _ h => h) (.inl ⟨by rfl, by (intro wq hSw; (try dsimp only at hSw); go_simp; (try (first | rfl | omega)))⟩) hHeld ?_
                    simp only [Act.put, List.setIfInBounds_toArray, List.set_cons_zero, List.set_cons_succ]
                    refine wpAnyH_tk (i := 26) (d := 98) (v := (.pointer (some ⟨b, o + q, none⟩))) rfl rfl (by kernel_rfl) (by kernel_rfl) (by kernel_rfl) (fun _ _ _ h => h) (.inl ⟨by rfl, by (intro wq hSw; (try dsimp only at hSw); go_simp; (try (first | rfl | omega)))⟩) hHeld ?_
                    simp only [Act.put, List.setIfInBounds_toArray, List.set_cons_zero, List.set_cons_succ]
                    refine wpAnyH_tk (i := 27) (d := 99) (v := (.slice (some ⟨sb, so, none⟩) (d + 1) sc)) rfl rfl (by kernel_rfl) (by kernel_rfl) (by kernel_rfl) (fun _ _ _ h => h) (.inl ⟨by rfl, by (intro wq hSw; (try dsimp only at hSw); go_simp; (try (first | rfl | omega)))⟩) hHeld ?_
                    simp only [Act.put, List.setIfInBounds_toArray, List.set_cons_zero, List.set_cons_succ]
                    refine wpAnyH_tk (i := 28) (d := 100) (v := (.int .i64 t)) rfl rfl (by kernel_rfl) (by kernel_rfl) (by kernel_rfl) (fun _ _ _ h => h) (.inl ⟨by rfl, by (intro wq hSw; (try dsimp only at hSw); go_simp; (try (first | rfl | omega)))⟩) hHeld ?_
                    simp only [Act.put, List.setIfInBounds_toArray, List.set_cons_zero, List.set_cons_succ]
                    refine wpAnyH_tk (i := 29) (d := 101) (v := (.pointer (some ⟨sb, so + t, none⟩))) rfl rfl (by kernel_rfl) (by kernel_rfl) (by kernel_rfl) (fun _ _ _ h => h) (.inl ⟨by rfl, by (intro wq hSw; (try dsimp only at hSw); go_simp; (try (first | rfl | omega)))⟩) hHeld ?_
                    simp only [Act.put, List.setIfInBounds_toArray, List.set_cons_zero, List.set_cons_succ]
                    refine wpAnyH_tk (i := 30) (d := 102) (v := (.int .i64 st)) rfl rfl (by kernel_rfl) (by kernel_rfl) (by kernel_rfl) (fun _ _ _ h => h) (.inl ⟨by rfl, by (intro wq hSw; (try dsimp only at hSw); go_simp; (try (first | rfl | omega)))⟩) hHeld ?_
                    simp only [Act.put, List.setIfInBounds_toArray, List.set_cons_zero, List.set_cons_succ]
                    refine wpAnyH_tk (i := 31) (d := 103) (v := (.int .i64 P2)) rfl rfl (by kernel_rfl) (by kernel_rfl) (by kernel_rfl) (fun _ _ _ h => h) (.inl ⟨by rfl, by (intro wq hSw; (try dsimp only at hSw); go_simp; (try (first | rfl | omega)))⟩) hHeld ?_
                    simp only [Act.put, List.setIfInBounds_toArray, List.set_cons_zero, List.set_cons_succ]
                    refine wpAnyH_tk (i := 32) (d := 104) (v := (.int .i64 (P1 + P2))) rfl rfl (by kernel_rfl) (by kernel_rfl) (by kernel_rfl) (fun _ _ _ h => h) (.inl ⟨by rfl, by (intro wq hSw; (try dsimp only at hSw); go_simp; (try (first | rfl | omega)))⟩) hHeld ?_
                    simp only [Act.put, List.setIfInBounds_toArray, List.set_cons_zero, List.set_cons_succ]
                    refine wpAnyH_ready (rs := [33]) (by kernel_rfl) (by simp) ?_
                    refine ready_tk (i := 33) rfl (by rfl) (fun K hK => ?_) AllReadyH.nil
                    go_simp
                    refine hK.out _ _ (HSS.out _ HBA2.out) (fun hHeld => ?_)
                    clear hK K
                    refine wpAnyH_ready (rs := [34]) (by kernel_rfl) (by simp) ?_
                    refine ready_tk (i := 34) rfl (by rfl) (fun K hK => ?_) AllReadyH.nil
                    refine op_append_ownA (.tmp 72) (.tmp 105) 38 (by rfl) wq.heap.size 3 i3 (.int .i64 0) 1 8 Tryz.underlying38 hi3 hz30 hz31 hz32 rfl (by decide) _ _ _ (by rfl) HOA.out ⟨wz.heap.size, 0, none⟩ 1 1 [.int .i64 (P1 + P2)] (by rfl) rfl (one_new _ _ _) (one_int _) (by unfold maxLen; omega) (by omega) HSZ1.out ?_
                    intro v' w5 ho5 hg5 _
                    obtain ⟨R1, R2, R3⟩ := HFIN.out v' w5 ho5 hg5
                    have HR1 : Hid (w5.ownsRow wq.heap.size 3 1 v' (t + 1) (ints (cb.take (t + 1)))) := R1
                    have HR2 : Hid (Below wq.heap.size wq w5) := R2
                    refine hK.out _ _ R3 (fun hHeld => ?_)
                    clear hK K hg5 R1 R2 R3
                    simp only [Act.put, List.setIfInBounds_toArray, List.set_cons_zero, List.set_cons_succ]
                    obtain ⟨vo, vc, hvv5⟩ := owns_form ho5
                    subst hvv5
                    clear ho5
                    refine wpAnyH_tk (i := 35) (d := 8) (v := (.slice vo (t + 1) vc)) rfl rfl (by kernel_rfl) (by kernel_rfl) (by kernel_rfl) (fun _ _ _ h => h) (.inl ⟨by rfl, by (intro wq hSw; (try dsimp only at hSw); go_simp; (try (first | rfl | omega)))⟩) hHeld ?_
                    simp only [Act.put, List.setIfInBounds_toArray, List.set_cons_zero, List.set_cons_succ]
                    refine wpAnyH_done (by kernel_rfl) ?_ _
                    clear hHeld
                    go_wp2
                    exact ⟨⟨t + 1, by omega, by go_num, HR1.out, HR2.out⟩, by simp [intOf]; omega⟩
                  · have hte : t = d + 1 := by omega
                    subst hte
                    have HCT : Hid (cb.take (d + 1) = cb) := List.take_of_length_le (by rw [HCLN.out]; exact Nat.le_refl _)
                    have hsl : Sl 0 3 wz (.slice xo (d + 1) xc) (ints cb) := by have := Sl.own (B := 0) HOT.out; rw [HCT.out] at this; exact this
                    have HDC : Hid (Calls Tryz.prog 22 #[.slice xo (d + 1) xc, .int .i64 k] wz fun e w' => ∃ uo uc, e = .returned (.slice uo d uc) ∧ Sl 0 3 w' (.slice uo d uc) (ints (dropK cb k)) ∧ Below wz.heap.size wz w') := HDR.out cb _ _ wz HCLN.out (hsl.more (Nat.zero_le _))
                    have htb : decide ((d : Int) + 1 < (d : Int) + 1) = false := by simp
                    clear hsl HOT
                    go_wp2_with fail
                    refine HDC.out.mono ?_
                    rintro e w2 ⟨uo, uc, rfl, hu2, hb2⟩
                    have HB2 : Hid (Below w.heap.size w w2) := HBZ.out.trans (hb2.mono HBZ.out.size)
                    have hbq2 : Below wq.heap.size wq w2 := HBT.out.trans (hb2.mono HBT.out.size)
                    obtain ⟨M, hM⟩ : ∃ M, M = A ++ D1 ++ dwIn rows k f q := ⟨_, rfl⟩
                    have HMM : Hid (A ++ D1 ++ dwIn rows k f (q + 1) = M ++ [dropK cb k]) := by show _ = _; rw [HTT.out, ← List.append_assoc, hM]
                    have hml : M.length ≤ 1000 := by rw [hM, List.length_append, List.length_append]; have := HAL.out; have := HDL.out; have := HIL.out; omega
                    have hfq := HFQ.out
                    rw [← hM] at hfq
                    obtain ⟨vs, g1, g2, g3⟩ := hfq.below hbq2 (Nat.le_refl _)
                    have G2 : Hid (w2.ownsRow w.heap.size 38 1 u5 M.length vs) := g2
                    have HMO : Hid (∀ v' w3, w3.ownsRow w.heap.size 38 1 v' (M.length + 1) (vs ++ [.slice uo d uc]) → (w2.alloc (.cells #[.slice uo d uc] 38)).grownBy w3 u5.ownBlock → Fr w.heap.size 38 3 w3 v' (M ++ [dropK cb k]) ∧ Below w.heap.size w w3) := fun v' w3 ho hg => fr_more HB2.out g1 g2 g3 hu2 ho hg
                    have hsz2 : w.heap.size ≤ w2.heap.size := HB2.out.size
                    clear hu2 hb2 hbq2 g1 g2 g3 hM hfq a0 a1 e0 e1
                    go_wp2_with (first | (at_builtin; refine wpList_append_own _ rfl _ _ 22 rfl w.heap.size 38 i0 (.slice none 0 0) 1 24 Tryz.underlying22 hi hz0 hz1 hz2 rfl (by decide) _ _ _ rfl (G2.out.alloc _) ⟨w2.heap.size, 0, none⟩ 1 1 [.slice uo d uc] rfl rfl (one_new _ _ _) (one_slice _ _ _) ?d3 ?d4 ?d5 ?_))
                    case d3 => unfold maxLen; omega
                    case d4 => omega
                    case d5 => first | omega | (simp; omega)
                    intro x6 w3 ho hg _
                    obtain ⟨q1, q2⟩ := HMO.out x6 w3 ho hg
                    have R1 : Hid (Fr w.heap.size 38 3 w3 x6 (A ++ D1 ++ dwIn rows k f (q + 1))) := by show Fr _ _ _ _ _ _; rw [HMM.out]; exact q1
                    have R2 : Hid (Below w.heap.size w w3) := q2
                    clear q1 q2 ho hg HMO G2
                    go_wp2
                    exact ⟨⟨q + 1, by omega, by go_num, R1.out, R2.out⟩, by simp [intOf]; omega⟩
              · have hsnb : decide (sk < 0) = false := decide_eq_false hsn
                have HTT : Hid (dwIn rows k f (q + 1) = dwIn rows k f q) := by show _ = _; rw [HIS.out, HT3.out, if_neg (fun h => hsn h.2), List.append_nil]
                clear HT3 HIS
                go_wp2
                exact ⟨⟨q + 1, by omega, by go_num, by rw [HTT.out]; exact HFQ.out, HBQ.out⟩, by simp [intOf]; omega⟩
            · have hfpb : decide (0 < fk) = false := decide_eq_false hfp
              have HTT : Hid (dwIn rows k f (q + 1) = dwIn rows k f q) := by show _ = _; rw [HIS.out, HT3.out, if_neg (fun h => hfp h.1), List.append_nil]
              clear HT3 HIS
              go_wp2
              exact ⟨⟨q + 1, by omega, by go_num, by rw [HTT.out]; exact HFQ.out, HBQ.out⟩, by simp [intOf]; omega⟩
          · have hqe : q = rows.length := by omega
            subst hqe
            have R1 : Hid (Fr w.heap.size 38 3 wq u5 (dwAll rows k (p + 1))) := by
              show Fr _ _ _ _ _ _
              rw [HAS.out]
              unfold dwRow
              rw [← List.append_assoc, HD1.out]
              exact HFQ.out
            go_wp2
            exact ⟨⟨p + 1, by omega, by go_num, R1.out, HBQ.out⟩, by simp [intOf]; omega⟩
    · have hpe : p = rows.length := by omega
      subst hpe
      obtain ⟨A, hA⟩ : ∃ A, A = dwAll rows k rows.length := ⟨_, rfl⟩
      have HWO : Hid (A.flatMap kpD = woAll rows k rows.length) := by show _ = _; rw [hA]; exact dw_wo rows k rows.length
      have HSM : Hid (Smd d A) := by show Smd _ _; rw [hA]; exact dwAll_smd HC.out hk
      have hal : A.length ≤ 156 := by rw [hA]; exact dwAll_len hn12
      rw [← hA] at hfr
      have HFA : Hid (Fr w.heap.size 38 3 wa u5 A) := hfr
      obtain ⟨xo, xc, hx5, _, _⟩ := fr_open hfr
      subst hx5
      obtain ⟨e, he⟩ : ∃ e, d = e + 1 := ⟨d - 1, by omega⟩
      have hde : (d : Int) - 1 = (e : Int) := by omega
      have he3 : e ≤ 3 := by omega
      have HDE : Hid (d = e + 1) := he
      clear hbel hfr hA he
      go_wp2
      go_loopw [10, 11] (fun x i wr => ∃ j : Nat, j ≤ A.length ∧ i = .int .i64 j ∧ Fr wa.heap.size 38 3 wr x ((A.take j).flatMap kpD) ∧ Below wa.heap.size wa wr) (fun _ i _ => A.length - (intOf i).toNat)
      case atStart => exact ⟨0, Nat.zero_le _, rfl, Fr.nil _ _ _ _, Below.refl _ _⟩
      case round =>
        obtain ⟨j, hj, rfl, hfr, hbel⟩ := hrel
        obtain ⟨wb, rfl⟩ : ∃ wb, wb = wr := ⟨_, rfl⟩
        have HBB : Hid (Below wa.heap.size wa wb) := hbel
        have HFB : Hid (Fr wa.heap.size 38 3 wb u10 ((A.take j).flatMap kpD)) := hfr
        have hszb : wa.heap.size ≤ wb.heap.size := hbel.size
        clear hbel hfr
        by_cases hlj : j < A.length
        · obtain ⟨b2, o2, cp2, rv, hs, _, hrc, hrv⟩ := mat_cell (HFA.out.rws.mat (Nat.le_refl _)) hlj
          simp only [Value.slice.injEq] at hs
          obtain ⟨rfl, -, rfl⟩ := hs
          have hzm : A.getD j [] ∈ A := by simp [hlj]
          have HKS : Hid ((A.take (j + 1)).flatMap kpD = (A.take j).flatMap kpD ++ kpD (A.getD j [])) := by
            show _ = _
            rw [List.take_succ_eq_append_getElem hlj, List.flatMap_append]
            simp [hlj]
          obtain ⟨z, hz⟩ : ∃ z, z = A.getD j [] := ⟨_, rfl⟩
          rw [← hz] at hrv hzm HKS
          clear hz
          obtain ⟨hzl, hzb⟩ := HSM.out z hzm
          obtain ⟨zo, zc, hzv, _, _⟩ := sl_open hrv
          rw [hzl] at hzv
          subst hzv
          have hcell : wb.cell? ⟨b2, o2 + j, none⟩ = some (.slice zo d zc) := (HBB.out.cell (lt_of_cell hrc)).trans hrc
          have HLL : Hid ((Lin.low z).length = d) := by show _ = _; rw [low_len, hzl]
          have HLW : Hid (Calls Tryz.prog 23 #[.slice zo d zc] wb fun e w' => ∃ uo uc, e = .returned (.slice uo d uc) ∧ Sl 0 3 w' (.slice uo d uc) (ints (Lin.low z)) ∧ Below wb.heap.size wb w') := by
            refine (lowered_any w.heap.size z _ wb (hrv.below HBB.out (Nat.le_refl _)) (by omega) (fun q hq => by have := hzb q hq; omega)).mono ?_
            rintro e w' ⟨u, rfl, ho, hb⟩
            rw [hzl] at ho
            obtain ⟨uo, uc, rfl⟩ := owns_form ho
            exact ⟨uo, uc, rfl, Sl.own ho, hb⟩
          have HKP : Hid (kpD z = if sayB (Lin.low z) then [] else [Lin.low z]) := rfl
          have HSY : Hid (sayB (Lin.low z) = (decide (0 ≤ (Lin.low z).getD e 0) && ((Lin.low z).take e).all (· == 0))) := by
            show _ = _
            unfold sayB
            rw [HLL.out, show d - 1 = e by have := HDE.out; omega]
            congr 1
            rw [Bool.eq_iff_iff, Bool.not_eq_true', List.any_eq_false, List.all_eq_true]
            simp
          have HFL2 : Hid (((A.take j).flatMap kpD).length ≤ 156) := by
            have h := flat_bd (g := kpD) (b := 1) (fun r => by unfold kpD; split <;> simp) (A.take j)
            simp only [List.length_take] at h
            show _ ≤ _
            omega
          clear hrc hrv hzl hzb hzm
          generalize Lin.low z = l at *
          generalize (A.take j).flatMap kpD = F at *
          have hjI : (j : Int) < (A.length : Int) := by omega
          have hjI0 : (0 : Int) ≤ (j : Int) := by omega
          go_wp2_with fail
          refine HLW.out.mono ?_
          rintro ee w2 ⟨uo, uc, rfl, hu2, hb2⟩
          have HB2 : Hid (Below wa.heap.size wa w2) := HBB.out.trans (hb2.mono hszb)
          have HF2 : Hid (Fr wa.heap.size 38 3 w2 u10 F) := HFB.out.below hb2 (Nat.le_refl _)
          have HU2 : Hid (Sl 0 3 w2 (.slice uo d uc) (ints l)) := hu2
          obtain ⟨ub, uf, uc2, hus, _, hud⟩ := sl_cell hu2 (k := e) (by rw [HLL.out]; have := HDE.out; omega)
          rw [HLL.out] at hus
          simp only [Value.slice.injEq] at hus
          obtain ⟨rfl, -, rfl⟩ := hus
          clear hu2 hb2 HLW hcell HFB
          go_wp2
          go_loopw [14, 15] (fun x c wz => ∃ t : Nat, t ≤ e ∧ c = .int .i64 t ∧ x = .bool ((l.take t).all (· == 0)) ∧ wz = w2) (fun _ c _ => e - (intOf c).toNat)
          case atStart => exact ⟨0, Nat.zero_le _, rfl, rfl, rfl⟩
          case round =>
            obtain ⟨t, ht, rfl, rfl, hwz⟩ := hrel
            subst hwz
            by_cases hlt2 : t < e
            · obtain ⟨ub', uf', uc', hus', _, hut⟩ := sl_cell HU2.out (k := t) (by rw [HLL.out]; have := HDE.out; omega)
              rw [HLL.out] at hus'
              simp only [Value.slice.injEq, Option.some.injEq, Addr.mk.injEq, and_true] at hus'
              obtain ⟨⟨rfl, rfl⟩, -⟩ := hus'
              have HTS : Hid ((l.take (t + 1)).all (· == 0) = ((l.take t).all (· == 0) && (l.getD t 0 == 0))) := by
                show _ = _
                rw [List.take_succ_eq_append_getElem (by rw [HLL.out]; have := HDE.out; omega), List.all_append]
                simp [show t < l.length by rw [HLL.out]; have := HDE.out; omega]
              generalize l.getD t 0 = lt at *
              have htI : (t : Int) < (e : Int) := by omega
              have htI2 : (t : Int) < (d : Int) := by omega
              have htI0 : (0 : Int) ≤ (t : Int) := by omega
              cases hb : (l.take t).all (· == 0) with
              | true =>
                rw [hb] at HTS
                have HTV : Hid ((l.take (t + 1)).all (· == 0) = (lt == 0)) := by show _ = _; rw [HTS.out]; rfl
                clear hb HTS
                go_wp2
                exact ⟨⟨t + 1, by omega, by go_num, by rw [HTV.out], trivial⟩, by simp [intOf]; omega⟩
              | false =>
                rw [hb] at HTS
                have HTV : Hid ((l.take (t + 1)).all (· == 0) = false) := by show _ = _; rw [HTS.out]; rfl
                clear hb HTS
                go_wp2
                exact ⟨⟨t + 1, by omega, by go_num, by rw [HTV.out], trivial⟩, by simp [intOf]; omega⟩
            · have hte : t = e := by omega
              subst hte
              have hdI : (t : Int) < (d : Int) := by omega
              have hdI0 : (0 : Int) ≤ (t : Int) := by omega
              have hszw : wa.heap.size ≤ wr.heap.size := HB2.out.size
              obtain ⟨vs, g1, g2, g3⟩ := HF2.out
              have G2 : Hid (wr.ownsRow wa.heap.size 38 1 u10 F.length vs) := g2
              have HMO : Hid (∀ v' w3, w3.ownsRow wa.heap.size 38 1 v' (F.length + 1) (vs ++ [.slice (some ⟨ub, uf, none⟩) d uc]) → (wr.alloc (.cells #[.slice (some ⟨ub, uf, none⟩) d uc] 38)).grownBy w3 u10.ownBlock → Fr wa.heap.size 38 3 w3 v' (F ++ [l]) ∧ Below wa.heap.size wa w3) := fun v' w3 ho hg => fr_more HB2.out g1 g2 g3 HU2.out ho hg
              have hfl := HFL2.out
              clear g1 g2 g3
              generalize l.getD t 0 = ld at *
              generalize (l.take t).all (· == 0) = zb at *
              by_cases hkeep : zb = true ∧ 0 ≤ ld
              · have HKE : Hid ((A.take (j + 1)).flatMap kpD = F) := by show _ = _; rw [HKS.out, HKP.out, HSY.out, hkeep.1, decide_eq_true hkeep.2]; simp
                obtain ⟨rfl, hk2⟩ := hkeep
                have hldb : decide (ld < 0) = false := decide_eq_false (by omega)
                clear G2 HMO HKS HKP HSY
                go_wp2
                exact ⟨⟨j + 1, by omega, by go_num, by rw [HKE.out]; exact HF2.out, HB2.out⟩, by simp [intOf]; omega⟩
              · have HKE : Hid ((A.take (j + 1)).flatMap kpD = F ++ [l]) := by
                  show _ = _
                  rw [HKS.out, HKP.out, HSY.out]
                  have : (decide (0 ≤ ld) && zb) = false := by
                    rw [Bool.and_eq_false_iff]
                    by_cases hz : zb = true
                    · left; exact decide_eq_false fun h => hkeep ⟨hz, h⟩
                    · right; simpa using hz
                  rw [this]
                  simp
                cases zb with
                | true =>
                  have hldb : decide (ld < 0) = true := decide_eq_true (by
                    by_cases h : ld < 0
                    · exact h
                    · exact absurd ⟨rfl, by omega⟩ hkeep)
                  clear hkeep HKS HKP HSY
                  go_wp2_with (first | (at_builtin; refine wpList_append_own _ rfl _ _ 22 rfl wa.heap.size 38 i0 (.slice none 0 0) 1 24 Tryz.underlying22 hi hz0 hz1 hz2 rfl (by decide) _ _ _ rfl (G2.out.alloc _) ⟨wr.heap.size, 0, none⟩ 1 1 [.slice (some ⟨ub, uf, none⟩) d uc] rfl rfl (one_new _ _ _) (one_slice _ _ _) ?d3 ?d4 ?d5 ?_))
                  case d3 => unfold maxLen; omega
                  case d4 => omega
                  case d5 => first | omega | (simp; omega)
                  intro x6 w3 ho hg _
                  obtain ⟨q1, q2⟩ := HMO.out x6 w3 ho hg
                  have R1 : Hid (Fr wa.heap.size 38 3 w3 x6 ((A.take (j + 1)).flatMap kpD)) := by show Fr _ _ _ _ _ _; rw [HKE.out]; exact q1
                  have R2 : Hid (Below wa.heap.size wa w3) := q2
                  clear q1 q2 ho hg HMO G2
                  go_wp2
                  exact ⟨⟨j + 1, by omega, by go_num, R1.out, R2.out⟩, by simp [intOf]; omega⟩
                | false =>
                  clear hkeep HKS HKP HSY
                  go_wp2_with (first | (at_builtin; refine wpList_append_own _ rfl _ _ 22 rfl wa.heap.size 38 i0 (.slice none 0 0) 1 24 Tryz.underlying22 hi hz0 hz1 hz2 rfl (by decide) _ _ _ rfl (G2.out.alloc _) ⟨wr.heap.size, 0, none⟩ 1 1 [.slice (some ⟨ub, uf, none⟩) d uc] rfl rfl (one_new _ _ _) (one_slice _ _ _) ?d3 ?d4 ?d5 ?_))
                  case d3 => unfold maxLen; omega
                  case d4 => omega
                  case d5 => first | omega | (simp; omega)
                  intro x6 w3 ho hg _
                  obtain ⟨q1, q2⟩ := HMO.out x6 w3 ho hg
                  have R1 : Hid (Fr wa.heap.size 38 3 w3 x6 ((A.take (j + 1)).flatMap kpD)) := by show Fr _ _ _ _ _ _; rw [HKE.out]; exact q1
                  have R2 : Hid (Below wa.heap.size wa w3) := q2
                  clear q1 q2 ho hg HMO G2
                  go_wp2
                  exact ⟨⟨j + 1, by omega, by go_num, R1.out, R2.out⟩, by simp [intOf]; omega⟩
        · have hje : j = A.length := by omega
          subst hje
          have hF : (A.take A.length).flatMap kpD = woAll rows k rows.length := by rw [List.take_length]; exact HWO.out
          have HF3 : Hid (Fr w.heap.size 38 3 wb u10 (woAll rows k rows.length)) := by
            have h := HFB.out
            rw [hF] at h
            exact h.mono HB.out.size
          have HSO : Hid (Calls Tryz.prog 24 #[u10] wb fun e w' => ∃ xo xc s, e = .returned (.slice xo s.length xc) ∧ Fr w.heap.size 38 3 w' (.slice xo s.length xc) s ∧ SAsc s ∧ (∀ r, r ∈ s ↔ r ∈ woAll rows k rows.length) ∧ Below w.heap.size w w') := by
            have hbw : Below w.heap.size w wb := HB.out.trans (HBB.out.mono HB.out.size)
            refine (sortR_any w.heap.size (woAll rows k rows.length) u10 wb (HF3.out.rws.mat (Nat.le_refl _)) (by have := woAll_len rows k rows.length hn12; omega) (fun r hr => by have := wo_len HC.out hk hr; omega)).mono ?_
            rintro e w' ⟨x, s, rfl, h1, h2, h3, h4⟩
            obtain ⟨xo, xc, rfl, _, _⟩ := fr_open h1
            exact ⟨xo, xc, s, rfl, h1.mono hbw.size, h2, h3, hbw.trans (h4.mono hbw.size)⟩
          clear hF
          go_wp2_with fail
          refine HSO.out.mono ?_
          rintro ee w2 ⟨xo2, xc2, s2, rfl, h1, h2, h3, h4⟩
          have HH : Hid (Fr w.heap.size 38 3 w2 (.slice xo2 s2.length xc2) s2 ∧ SAsc s2 ∧ (∀ r, r ∈ s2 ↔ r ∈ woAll rows k rows.length) ∧ Below w.heap.size w w2) := ⟨h1, h2, h3, h4⟩
          clear h1 h2 h3 h4 HSO
          go_wp2
          go_ret
          exact ⟨_, s2, rfl, HH.out⟩
end Go.Proofs.YtknomkajibfmlaaGreat
