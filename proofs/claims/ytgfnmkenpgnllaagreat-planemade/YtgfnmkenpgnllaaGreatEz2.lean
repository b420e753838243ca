/- facetref.eased: rows without their k-th number, marks kept. -/
import Derived.Test.YtgfnmkenpgnllaaGreatEz2a
namespace Go.Proofs.YtgfnmkenpgnllaaGreat
open Go.RowKit
attribute [local go_sem ↓] Go.wp_at_zero Go.wp_at_succ

def dwOne (k : Nat) (f : List Int) : List (List Int) := if f.getD k 0 = 0 then [drE f k] else []
def dwTwo (k : Nat) (f s : List Int) : List (List Int) := if 0 < f.getD k 0 ∧ s.getD k 0 < 0 then [drE (cmE (-(s.getD k 0)) f (f.getD k 0) s) k] else []
def dwIn (rows : List (List Int)) (k : Nat) (f : List Int) (j : Nat) : List (List Int) := (rows.take j).flatMap (dwTwo k f)
def dwRow (rows : List (List Int)) (k : Nat) (f : List Int) : List (List Int) := dwOne k f ++ dwIn rows k f rows.length
def dwAll (rows : List (List Int)) (k i : Nat) : List (List Int) := (rows.take i).flatMap (dwRow rows k)
theorem dwIn_succ {rows : List (List Int)} {k : Nat} {f : List Int} {j : Nat} (h : j < rows.length) : dwIn rows k f (j + 1) = dwIn rows k f j ++ dwTwo k f (rows.getD j []) := by
  unfold dwIn
  rw [List.take_succ_eq_append_getElem h, List.flatMap_append]
  simp [h]

theorem dwAll_succ {rows : List (List Int)} {k i : Nat} (h : i < rows.length) : dwAll rows k (i + 1) = dwAll rows k i ++ dwRow rows k (rows.getD i []) := by
  unfold dwAll
  rw [List.take_succ_eq_append_getElem h, List.flatMap_append]
  simp [h]

theorem dwTwo_len (k : Nat) (f s : List Int) : (dwTwo k f s).length ≤ 1 := by unfold dwTwo; split <;> simp
theorem dwOne_len (k : Nat) (f : List Int) : (dwOne k f).length ≤ 1 := by unfold dwOne; split <;> simp
theorem dwIn_len (rows : List (List Int)) (k : Nat) (f : List Int) (j : Nat) : (dwIn rows k f j).length ≤ rows.length := by
  have h := flat_bdE (g := dwTwo k f) (b := 1) (rows.take j) (fun s _ => dwTwo_len k f s)
  unfold dwIn
  simp only [List.length_take] at h
  omega
theorem dwAllE_len {rows : List (List Int)} {k i : Nat} (h : rows.length ≤ 4096) : (dwAll rows k i).length ≤ 16781312 := by
  have h1 := flat_bdE (g := dwRow rows k) (b := 4097) (rows.take i) (fun f _ => by
    unfold dwRow
    have a := dwOne_len k f
    have b := dwIn_len rows k f rows.length
    rw [List.length_append]; omega)
  unfold dwAll
  simp only [List.length_take] at h1
  have h2 : min i rows.length * 4097 ≤ 4096 * 4097 := Nat.mul_le_mul_right _ (by omega)
  omega

theorem dw_eaO (rows : List (List Int)) (k : Nat) : dwAll rows k rows.length = eaO k rows := by
  unfold dwAll eaO dwRow dwIn
  rw [List.take_length]
  rfl

theorem mulE {a b : Int} (ha : a.natAbs ≤ 1000) (hb : b.natAbs ≤ 1000) : -1000000 ≤ a * b ∧ a * b ≤ 1000000 := by
  have := mulB ha hb
  omega

theorem combE_small {v u : Int} {f s : List Int} {n : Nat} (hf : f.length = n) (hv : v.natAbs ≤ 1000) (hu : u.natAbs ≤ 1000) (hfb : ∀ z ∈ f, z.natAbs ≤ 1000) (hsb : ∀ z ∈ s, z.natAbs ≤ 1000) : (cmE v f u s).length = n ∧ ∀ z ∈ cmE v f u s, z.natAbs ≤ 2000000 :=
  ⟨by rw [cmE_len, hf], fun z hz => by have := cmE_bd hv hu hfb hsb z hz; omega⟩

/-- One row more, behind an append. -/
theorem fr_more {w W w3 : World} {x u v' : Value} {m : List (List Int)} {vs : List Value} {zs : List Int} (hb : Below w.heap.size w W) (g1 : vs.length = m.length) (g2 : W.ownsRow w.heap.size 22 1 x m.length vs) (g3 : ∀ i, i < m.length → Sl 0 3 W (vs.getD i (.slice none 0 0)) (ints (m.getD i []))) (hu : Sl 0 3 W u (ints zs))
    (ho : w3.ownsRow w.heap.size 22 1 v' (m.length + 1) (vs ++ [u])) (hg : (W.alloc (.cells #[u] 22)).grownBy w3 x.ownBlock) : Fr w.heap.size 22 3 w3 v' (m ++ [zs]) ∧ Below w.heap.size w w3 :=
  ⟨Fr.push (e2 := 22) (e1 := 3) (m := m) (u := u) (zs := zs) (by decide) g1 (g2.alloc _) (fun i hi => (g3 i hi).alloc _) (hu.alloc _) ho hg,
   (hb.alloc hb.size _).grown hg (by have := hb.size; simp; omega) (fun x hx => (g2.lt x hx).1)⟩

set_option maxRecDepth 100000 in
set_option maxHeartbeats 4000000 in
theorem eased_any (d k : Nat) (rows : List (List Int)) (v : Value) (w : World) (hv : Mat 0 22 3 w v rows) (hc : ∀ r ∈ rows, r.length = d + 1 ∧ ∀ z ∈ r, z.natAbs ≤ 1000) (hdk : d = k + 2) (hd3 : d ≤ 4) (hn12 : rows.length ≤ 4096) :
    Calls Tryz.prog 46 #[v, .int .i64 k] w fun e w' => ∃ x s, e = .returned x ∧ Fr w.heap.size 22 3 w' x s ∧ SAsc s ∧ (∀ r, r ∈ s ↔ r ∈ (eaO k rows).map lmE) ∧ Below w.heap.size w w' := by
  obtain ⟨i0, hi, hz0, hz1, hz2⟩ := info_parts Tryz.info22
  obtain ⟨i3, hi3, hz30, hz31, hz32⟩ := info_parts Tryz.info3
  obtain ⟨ro, rc, hvv, hlc, hcm⟩ := mat_open hv
  subst hvv
  have HV : Hid (Mat 0 22 3 w (.slice ro rows.length rc) rows) := hv
  have HC : Hid (∀ r ∈ rows, r.length = d + 1 ∧ ∀ z ∈ r, z.natAbs ≤ 1000) := hc
  have hk : k < d := by omega
  have HDK : Hid (d = k + 2) := hdk
  clear hv hc hdk
  go_enter Tryz.func46, Tryz.ntmps46
  go_wp2
  go_loopw [5, 6] (fun x i wr => ∃ p : Nat, p ≤ rows.length ∧ i = .int .i64 p ∧ Fr w.heap.size 22 3 wr x (dwAll rows k p) ∧ Below w.heap.size w wr) (fun _ i _ => rows.length - (intOf i).toNat)
  case atStart => exact ⟨0, Nat.zero_le _, rfl, Fr.nil _ _ _ _, Below.refl _ _⟩
  case round =>
    obtain ⟨p, hp, rfl, hfr, hbel⟩ := hrel
    obtain ⟨wa, rfl⟩ : ∃ wa, wa = wr := ⟨_, rfl⟩
    have HB : Hid (Below w.heap.size w wa) := hbel
    have hsza : w.heap.size ≤ wa.heap.size := hbel.size
    by_cases hlt : p < rows.length
    · have HAS : Hid (dwAll rows k (p + 1) = dwAll rows k p ++ dwRow rows k (rows.getD p [])) := dwAll_succ hlt
      have HAL : Hid ((dwAll rows k p).length ≤ 16781312) := dwAllE_len hn12
      obtain ⟨b, o, cp, fv, hs, _, hfc, hfv⟩ := mat_cell HV.out hlt
      simp only [Value.slice.injEq] at hs
      obtain ⟨rfl, -, rfl⟩ := hs
      have hfm : rows.getD p [] ∈ rows := by rw [List.getD_eq_getElem?_getD, List.getElem?_eq_getElem hlt]; exact List.getElem_mem _
      obtain ⟨f, hf⟩ : ∃ f, f = rows.getD p [] := ⟨_, rfl⟩
      rw [← hf] at hfv hfm HAS
      clear hf
      have HFL : Hid (f.length = d + 1) := (HC.out f hfm).1
      have HFB : Hid (∀ z ∈ f, z.natAbs ≤ 1000) := (HC.out f hfm).2
      obtain ⟨fb, fo, fc, hfs, hfc1, hfk⟩ := sl_cell hfv (k := k) (by rw [HFL.out]; omega)
      rw [HFL.out] at hfs hfc1
      subst hfs
      have HFV : Hid (∀ W, Below w.heap.size w W → Sl 0 3 W (.slice (some ⟨fb, fo, none⟩) (d + 1) fc) (ints f)) := fun W hb => hfv.below hb (Nat.le_refl _)
      have HFC : Hid (∀ W, Below w.heap.size w W → W.cell? ⟨b, o + p, none⟩ = some (.slice (some ⟨fb, fo, none⟩) (d + 1) fc) ∧ W.cell? ⟨fb, fo + k, none⟩ = some (.int .i64 (f.getD k 0))) := fun W hb => ⟨(hb.cell (lt_of_cell hfc)).trans hfc, (hb.cell (lt_of_cell hfk)).trans hfk⟩
      have HON : Hid (dwOne k f = if f.getD k 0 = 0 then [drE f k] else []) := rfl
      have HTW : Hid (∀ s, dwTwo k f s = if 0 < f.getD k 0 ∧ s.getD k 0 < 0 then [drE (cmE (-(s.getD k 0)) f (f.getD k 0) s) k] else []) := fun _ => rfl
      have HDR : Hid (∀ (r : List Int) (so : Option Addr) (sc : Nat) (W : World), r.length = d + 1 → Sl 0 3 W (.slice so (d + 1) sc) (ints r) → Calls Tryz.prog 73 #[.slice so (d + 1) sc, .int .i64 k] W fun e w' => ∃ uo uc, e = .returned (.slice uo d uc) ∧ Sl 0 3 w' (.slice uo d uc) (ints (drE r k)) ∧ Below W.heap.size W w') := fun r so sc W hl hs => by
        refine (dropE_own k r _ W hs (by omega) (by omega)).mono ?_
        rintro e w' ⟨u, rfl, ho, hb⟩
        rw [hl, show d + 1 - 1 = d by omega] at ho
        obtain ⟨uo, uc, rfl⟩ := owns_form ho
        exact ⟨uo, uc, rfl, Sl.own ho, hb⟩
      have hfkb : (f.getD k 0).natAbs ≤ 1000 := getB HFB.out
      obtain ⟨a0, a1⟩ := HFC.out wa HB.out
      obtain ⟨vs, g1, g2, g3⟩ := hfr
      have HFA : Hid (Fr w.heap.size 22 3 wa u5 (dwAll rows k p)) := ⟨vs, g1, g2, g3⟩
      clear hbel hfc hfv hfk hfm g1 g2 g3 vs
      generalize f.getD k 0 = fk at *
      generalize dwAll rows k p = A at *
      have hpI : (p : Int) < (rows.length : Int) := by omega
      have hpI0 : (0 : Int) ≤ (p : Int) := by omega
      have hkI0 : (0 : Int) ≤ (k : Int) := by omega
      have hkI : (k : Int) < (d : Int) + 1 := by omega
      by_cases h0 : fk = 0
      case' pos =>
        have HAO : Hid (A ++ dwOne k f = A ++ [drE f k]) := by show _ = _; rw [HON.out, if_pos h0]
        have h0b : (fk == 0) = true := by simpa using h0
        go_wp2_with fail
        refine (HDR.out f _ _ wa HFL.out (HFV.out wa HB.out)).mono ?_
        rintro e w2 ⟨uo, uc, rfl, hu2, hb2⟩
        have HB2 : Hid (Below w.heap.size w w2) := HB.out.trans (hb2.mono hsza)
        obtain ⟨vs, g1, g2, g3⟩ := HFA.out.below hb2 (Nat.le_refl _)
        have G2 : Hid (w2.ownsRow w.heap.size 22 1 u5 A.length vs) := g2
        have HMO : Hid (∀ v' w3, w3.ownsRow w.heap.size 22 1 v' (A.length + 1) (vs ++ [.slice uo d uc]) → (w2.alloc (.cells #[.slice uo d uc] 22)).grownBy w3 u5.ownBlock → Fr w.heap.size 22 3 w3 v' (A ++ [drE f k]) ∧ Below w.heap.size w w3) := fun v' w3 ho hg => fr_more HB2.out g1 g2 g3 hu2 ho hg
        have hsz2 : w.heap.size ≤ w2.heap.size := HB2.out.size
        have hal := HAL.out
        clear hu2 hb2 g1 g2 g3 a0 a1
        go_wp2_with (first | (at_builtin; refine wpList_append_own _ rfl _ _ 25 rfl w.heap.size 22 i0 (.slice none 0 0) 1 24 Tryz.underlying25 hi hz0 hz1 hz2 rfl (by decide) _ _ _ rfl (G2.out.alloc _) ⟨w2.heap.size, 0, none⟩ 1 1 [.slice uo d uc] rfl rfl (one_new _ _ _) (one_slice _ _ _) ?d3 ?d4 ?d5 ?_))
        case d3 => unfold maxLen; omega
        case d4 => omega
        case d5 => first | omega | (simp; omega)
        intro x5 W ho hg _
        obtain ⟨q1, q2⟩ := HMO.out x5 W ho hg
        have HF5 : Hid (Fr w.heap.size 22 3 W x5 (A ++ dwOne k f)) := by show Fr _ _ _ _ _ _; rw [HAO.out]; exact q1
        have HB5 : Hid (Below w.heap.size w W) := q2
        clear q1 q2 ho hg HMO G2
        go_wp2
      case' neg =>
        have HAO : Hid (A ++ dwOne k f = A) := by show _ = _; rw [HON.out, if_neg h0, List.append_nil]
        have h0b : (fk == 0) = false := by simpa using h0
        go_wp2
        obtain ⟨x5, hx5⟩ : ∃ x5, x5 = u5 := ⟨_, rfl⟩
        rw [← hx5] at HFA ⊢
        clear hx5
        have HF5 : Hid (Fr w.heap.size 22 3 wa x5 (A ++ dwOne k f)) := by show Fr _ _ _ _ _ _; rw [HAO.out]; exact HFA.out
        have HB5 : Hid (Below w.heap.size w wa) := HB.out
        obtain ⟨W, rfl⟩ : ∃ W, W = wa := ⟨_, rfl⟩
        clear a0 a1
      all_goals
        clear HAO h0 h0b HFA HON
        have HDL : Hid ((dwOne k f).length ≤ 1) := dwOne_len k f
        obtain ⟨D1, hD1⟩ : ∃ D1, D1 = dwOne k f := ⟨_, rfl⟩
        have HD1 : Hid (dwOne k f = D1) := hD1.symm
        rw [← hD1] at HDL HF5
        clear hD1
        go_loopw [5, 7] (fun x j wq => ∃ q : Nat, q ≤ rows.length ∧ j = .int .i64 q ∧ Fr w.heap.size 22 3 wq x (A ++ D1 ++ dwIn rows k f q) ∧ Below w.heap.size w wq) (fun _ j _ => rows.length - (intOf j).toNat)
        case atStart => exact ⟨0, Nat.zero_le _, rfl, (by have h := HF5.out; simp only [dwIn, List.take_zero, List.flatMap_nil, List.append_nil]; exact h), HB5.out⟩
        case round =>
          clear HF5 HB5
          obtain ⟨q, hq, rfl, hfr, hbel⟩ := hrel
          obtain ⟨wq, rfl⟩ : ∃ wq, wq = wr := ⟨_, rfl⟩
          have HBQ : Hid (Below w.heap.size w wq) := hbel
          have HFQ : Hid (Fr w.heap.size 22 3 wq u5 (A ++ D1 ++ dwIn rows k f q)) := hfr
          have hszq : w.heap.size ≤ wq.heap.size := hbel.size
          obtain ⟨a0, a1⟩ := HFC.out wq hbel
          clear hbel hfr
          by_cases hlq : q < rows.length
          · have HIS : Hid (dwIn rows k f (q + 1) = dwIn rows k f q ++ dwTwo k f (rows.getD q [])) := dwIn_succ hlq
            have HIL : Hid ((dwIn rows k f q).length ≤ rows.length) := dwIn_len rows k f q
            obtain ⟨b', o', cp', sv, hs, _, hsc, hsv⟩ := mat_cell HV.out hlq
            simp only [Value.slice.injEq, Option.some.injEq, Addr.mk.injEq, and_true] at hs
            obtain ⟨⟨rfl, rfl⟩, -, -⟩ := hs
            have hsm : rows.getD q [] ∈ rows := by rw [List.getD_eq_getElem?_getD, List.getElem?_eq_getElem hlq]; exact List.getElem_mem _
            obtain ⟨s, hs⟩ : ∃ s, s = rows.getD q [] := ⟨_, rfl⟩
            rw [← hs] at hsv hsm HIS
            clear hs
            have HSL : Hid (s.length = d + 1) := (HC.out s hsm).1
            have HSB : Hid (∀ z ∈ s, z.natAbs ≤ 1000) := (HC.out s hsm).2
            obtain ⟨sb, so, sc, hss, hsc1, hsk⟩ := sl_cell hsv (k := k) (by rw [HSL.out]; omega)
            rw [HSL.out] at hss hsc1
            subst hss
            have HSV : Hid (∀ W, Below w.heap.size w W → Sl 0 3 W (.slice (some ⟨sb, so, none⟩) (d + 1) sc) (ints s)) := fun W hb => hsv.below hb (Nat.le_refl _)
            have HSC : Hid (∀ W, Below w.heap.size w W → W.cell? ⟨b, o + q, none⟩ = some (.slice (some ⟨sb, so, none⟩) (d + 1) sc) ∧ W.cell? ⟨sb, so + k, none⟩ = some (.int .i64 (s.getD k 0))) := fun W hb => ⟨(hb.cell (lt_of_cell hsc)).trans hsc, (hb.cell (lt_of_cell hsk)).trans hsk⟩
            have hskb : (s.getD k 0).natAbs ≤ 1000 := getB HSB.out
            have HT2 := HTW.out s
            have HT3 : Hid (dwTwo k f s = if 0 < fk ∧ s.getD k 0 < 0 then [drE (cmE (-(s.getD k 0)) f fk s) k] else []) := HT2
            obtain ⟨e0, e1⟩ := HSC.out wq HBQ.out
            clear HT2 hsc hsv hsk hsm
            generalize s.getD k 0 = sk at *
            have hqI : (q : Int) < (rows.length : Int) := by omega
            have hqI0 : (0 : Int) ≤ (q : Int) := by omega
            by_cases hfp : 0 < fk
            · have hfpb : decide (0 < fk) = true := decide_eq_true hfp
              by_cases hsn : sk < 0
              · have hsnb : decide (sk < 0) = true := decide_eq_true hsn
                have HTT : Hid (dwIn rows k f (q + 1) = dwIn rows k f q ++ [drE (cmE (-sk) f fk s) k]) := by show _ = _; rw [HIS.out, HT3.out, if_pos ⟨hfp, hsn⟩]
                have hcs := combE_small (v := -sk) (u := fk) (f := f) (s := s) HFL.out (by rw [Int.natAbs_neg]; exact hskb) hfkb HFB.out HSB.out
                have HCLN : Hid ((cmE (-sk) f fk s).length = d + 1) := hcs.1
                have HCAT : Hid (∀ t, t < d + 1 → (cmE (-sk) f fk s).getD t 0 = -sk * f.getD t 0 + fk * s.getD t 0) := fun t ht => cmE_at (by rw [HFL.out]; exact ht)
                clear hcs HT3 HIS
                generalize cmE (-sk) f fk s = cb at *
                go_wp2
                go_loopw [8, 9] (fun x c wz => ∃ t : Nat, t ≤ d + 1 ∧ c = .int .i64 t ∧ wz.ownsRow wq.heap.size 3 1 x t (ints (cb.take t)) ∧ Below wq.heap.size wq wz) (fun _ c _ => d + 1 - (intOf c).toNat)
                case atStart => exact ⟨0, Nat.zero_le _, rfl, World.ownsRow_nil _ _ _ _, Below.refl _ _⟩
                case round =>
                  clear a0 a1 e0 e1
                  obtain ⟨t, ht, rfl, hot, hbt⟩ := hrel
                  obtain ⟨wz, rfl⟩ : ∃ wz, wz = wr := ⟨_, rfl⟩
                  have HBT : Hid (Below wq.heap.size wq wz) := hbt
                  have HBZ : Hid (Below w.heap.size w wz) := HBQ.out.trans (hbt.mono hszq)
                  have HOT : Hid (wz.ownsRow wq.heap.size 3 1 u8 t (ints (cb.take t))) := hot
                  obtain ⟨a0, a1⟩ := HFC.out wz HBZ.out
                  obtain ⟨e0, e1⟩ := HSC.out wz HBZ.out
                  obtain ⟨xo, xc, hxv⟩ := owns_form hot
                  subst hxv
                  clear hbt hot
                  by_cases hlt2 : t < d + 1
                  · have HTS : Hid (ints (cb.take (t + 1)) = ints (cb.take t) ++ [.int .i64 (-sk * f.getD t 0 + fk * s.getD t 0)]) := by
                      show _ = _
                      rw [take_snoc_int cb t (by rw [HCLN.out]; exact hlt2), HCAT.out t hlt2]
                      simp [ints]
                    obtain ⟨fb', fo', fc', hfs', _, hft⟩ := sl_cell (HFV.out wz HBZ.out) (k := t) (by rw [HFL.out]; exact hlt2)
                    simp only [Value.slice.injEq, Option.some.injEq, Addr.mk.injEq, and_true] at hfs'
                    obtain ⟨⟨rfl, rfl⟩, -, -⟩ := hfs'
                    obtain ⟨sb', so', sc', hss', _, hst⟩ := sl_cell (HSV.out wz HBZ.out) (k := t) (by rw [HSL.out]; exact hlt2)
                    simp only [Value.slice.injEq, Option.some.injEq, Addr.mk.injEq, and_true] at hss'
                    obtain ⟨⟨rfl, rfl⟩, -, -⟩ := hss'
                    have hftb : (f.getD t 0).natAbs ≤ 1000 := getB HFB.out
                    have hstb : (s.getD t 0).natAbs ≤ 1000 := getB HSB.out
                    obtain ⟨ft, hfe⟩ : ∃ ft, ft = f.getD t 0 := ⟨_, rfl⟩
                    obtain ⟨st, hse⟩ : ∃ st, st = s.getD t 0 := ⟨_, rfl⟩
                    have HFT : Hid (f.getD t 0 = ft) := hfe.symm
                    have HST : Hid (s.getD t 0 = st) := hse.symm
                    rw [← hfe] at hft hftb HTS
                    rw [← hse] at hst hstb HTS
                    clear hfe hse
                    have m1 := mulE (a := -sk) (b := ft) (by rw [Int.natAbs_neg]; exact hskb) hftb
                    have m2 := mulE (a := fk) (b := st) hfkb hstb
                    obtain ⟨P1, hP1⟩ : ∃ P1, P1 = -sk * ft := ⟨_, rfl⟩
                    obtain ⟨P2, hP2⟩ : ∃ P2, P2 = fk * st := ⟨_, rfl⟩
                    rw [← hP1] at m1 HTS
                    rw [← hP2] at m2 HTS
                    have n1 : IntKind.i64.wrap (-sk) = -sk := by rw [IntKind.wrap_i64]; omega
                    have n2 : wrap64 (-sk) = -sk := IntWalk.wrap64_in _ ⟨by omega, by omega⟩
                    have n3 : IntKind.i64.wrap (-sk * ft) = P1 := by rw [IntKind.wrap_i64]; omega
                    have n4 : wrap64 (-sk * ft) = P1 := by rw [← hP1]; exact IntWalk.wrap64_in _ ⟨by omega, by omega⟩
                    have n5 : IntKind.i64.wrap (fk * st) = P2 := by rw [IntKind.wrap_i64]; omega
                    have n6 : wrap64 (fk * st) = P2 := by rw [← hP2]; exact IntWalk.wrap64_in _ ⟨by omega, by omega⟩
                    have n7 : IntKind.i64.wrap (P1 + P2) = P1 + P2 := by rw [IntKind.wrap_i64]; omega
                    have n8 : wrap64 (P1 + P2) = P1 + P2 := IntWalk.wrap64_in _ ⟨by omega, by omega⟩
                    have HSS : Hid (∀ W', Below wz.heap.size wz W' → W'.cell? ⟨b, o + p, none⟩ = some (.slice (some ⟨fb, fo, none⟩) (d + 1) fc) ∧ W'.cell? ⟨b, o + q, none⟩ = some (.slice (some ⟨sb, so, none⟩) (d + 1) sc) ∧ W'.cell? ⟨fb, fo + k, none⟩ = some (.int .i64 fk) ∧ W'.cell? ⟨sb, so + k, none⟩ = some (.int .i64 sk) ∧ W'.cell? ⟨fb, fo + t, none⟩ = some (.int .i64 ft) ∧ W'.cell? ⟨sb, so + t, none⟩ = some (.int .i64 st)) := fun W' h => ⟨(h.cell (lt_of_cell a0)).trans a0, (h.cell (lt_of_cell e0)).trans e0, (h.cell (lt_of_cell a1)).trans a1, (h.cell (lt_of_cell e1)).trans e1, (h.cell (lt_of_cell hft)).trans hft, (h.cell (lt_of_cell hst)).trans hst⟩
                    have HOD : Hid ((wz.drew).ownsRow wq.heap.size 3 1 (.slice xo t xc) t (ints (cb.take t))) := owns_below HOT.out (Below.drew (Below.refl _ _)) (Nat.le_refl _)
                    have HBD : Hid (Below wq.heap.size wq wz.drew) := Below.drew HBT.out
                    have HOA : Hid (((wz.drew).alloc (.cells #[.int .i64 (P1 + P2)] 3)).ownsRow wq.heap.size 3 1 (.slice xo t xc) t (ints (cb.take t))) := HOD.out.alloc _
                    have HSZ1 : Hid (wq.heap.size ≤ ((wz.drew).alloc (.cells #[.int .i64 (P1 + P2)] 3)).heap.size) := by show _ ≤ _; have := HBD.out.size; simp; simp at this; omega
                    have HBA2 : Hid (Below wz.heap.size wz ((wz.drew).alloc (.cells #[.int .i64 (P1 + P2)] 3))) := (Below.drew (Below.refl _ _)).alloc (Nat.le_refl _) _
                    have hdz : wq.heap.size ≤ (wz.drew).heap.size := HBD.out.size
                    have HFIN : Hid (∀ v' w5, w5.ownsRow wq.heap.size 3 1 v' (t + 1) (ints (cb.take t) ++ [.int .i64 (P1 + P2)]) → ((wz.drew).alloc (.cells #[.int .i64 (P1 + P2)] 3)).grownBy w5 (Value.slice xo t xc).ownBlock → w5.ownsRow wq.heap.size 3 1 v' (t + 1) (ints (cb.take (t + 1))) ∧ Below wq.heap.size wq w5 ∧ (w5.cell? ⟨b, o + p, none⟩ = some (.slice (some ⟨fb, fo, none⟩) (d + 1) fc) ∧ w5.cell? ⟨b, o + q, none⟩ = some (.slice (some ⟨sb, so, none⟩) (d + 1) sc) ∧ w5.cell? ⟨fb, fo + k, none⟩ = some (.int .i64 fk) ∧ w5.cell? ⟨sb, so + k, none⟩ = some (.int .i64 sk) ∧ w5.cell? ⟨fb, fo + t, none⟩ = some (.int .i64 ft) ∧ w5.cell? ⟨sb, so + t, none⟩ = some (.int .i64 st))) := fun v' w5 ho5 hg5 => by
                      have R2 : Below wq.heap.size wq w5 := (HBD.out.alloc hdz _).grown hg5 HSZ1.out (fun x hx => (HOD.out.lt x hx).1)
                      have R3 : Below w.heap.size w w5 := HBQ.out.trans (R2.mono hszq)
                      obtain ⟨c0, c1⟩ := HFC.out w5 R3
                      obtain ⟨c2, c3⟩ := HSC.out w5 R3
                      refine ⟨by rw [HTS.out]; exact ho5, R2, c0, c2, c1, c3, ?_, ?_⟩
                      · obtain ⟨fb', fo', fc', hfs', _, hft⟩ := sl_cell (HFV.out w5 R3) (k := t) (by rw [HFL.out]; exact hlt2)
                        simp only [Value.slice.injEq, Option.some.injEq, Addr.mk.injEq, and_true] at hfs'
                        obtain ⟨⟨rfl, rfl⟩, -, -⟩ := hfs'
                        rw [HFT.out] at hft
                        exact hft
                      · obtain ⟨sb', so', sc', hss', _, hst⟩ := sl_cell (HSV.out w5 R3) (k := t) (by rw [HSL.out]; exact hlt2)
                        simp only [Value.slice.injEq, Option.some.injEq, Addr.mk.injEq, and_true] at hss'
                        obtain ⟨⟨rfl, rfl⟩, -, -⟩ := hss'
                        rw [HST.out] at hst
                        exact hst
                    have htI : (t : Int) < (d : Int) + 1 := by omega
                    have htI0 : (0 : Int) ≤ (t : Int) := by omega
                    clear HOT HBT m1 m2 hP1 hP2
                    go_upto_region 15 with fail
                    refine wp_region_held_drew (S := fun W' => W'.cell? ⟨b, o + p, none⟩ = some (.slice (some ⟨fb, fo, none⟩) (d + 1) fc) ∧ W'.cell? ⟨b, o + q, none⟩ = some (.slice (some ⟨sb, so, none⟩) (d + 1) sc) ∧ W'.cell? ⟨fb, fo + k, none⟩ = some (.int .i64 fk) ∧ W'.cell? ⟨sb, so + k, none⟩ = some (.int .i64 sk) ∧ W'.cell? ⟨fb, fo + t, none⟩ = some (.int .i64 ft) ∧ W'.cell? ⟨sb, so + t, none⟩ = some (.int .i64 st)) (by kernel_rfl) (HSS.out _ (Below.drew (Below.refl _ _))) (fun hHeld => ?_)
                    refine wpAnyH_tk (i := 0) (d := 71) (v := (.slice xo t xc)) rfl rfl (by kernel_rfl) (by kernel_rfl) (by kernel_rfl) (fun _ _ _ h => h) (.inl ⟨by rfl, by (intro wq hSw; (try dsimp only at hSw); go_simp; (try (first | rfl | omega)))⟩) hHeld ?_
                    simp only [Act.put, List.setIfInBounds_toArray, List.set_cons_zero, List.set_cons_succ]
                    refine wpAnyH_tk (i := 1) (d := 72) (v := (.slice (some ⟨b, o, none⟩) rows.length rc)) rfl rfl (by kernel_rfl) (by kernel_rfl) (by kernel_rfl) (fun _ _ _ h => h) (.inl ⟨by rfl, by (intro wq hSw; (try dsimp only at hSw); go_simp; (try (first | rfl | omega)))⟩) hHeld ?_
                    simp only [Act.put, List.setIfInBounds_toArray, List.set_cons_zero, List.set_cons_succ]
                    refine wpAnyH_tk (i := 2) (d := 73) (v := (.int .i64 q)) rfl rfl (by kernel_rfl) (by kernel_rfl) (by kernel_rfl) (fun _ _ _ h => h) (.inl ⟨by rfl, by (intro wq hSw; (try dsimp only at hSw); go_simp; (try (first | rfl | omega)))⟩) hHeld ?_
                    simp only [Act.put, List.setIfInBounds_toArray, List.set_cons_zero, List.set_cons_succ]
                    refine wpAnyH_tk (i := 3) (d := 74) (v := (.pointer (some ⟨b, o + q, none⟩))) rfl rfl (by kernel_rfl) (by kernel_rfl) (by kernel_rfl) (fun _ _ _ h => h) (.inl ⟨by rfl, by (intro wq hSw; (try dsimp only at hSw); go_simp; (try (first | rfl | omega)))⟩) hHeld ?_
                    simp only [Act.put, List.setIfInBounds_toArray, List.set_cons_zero, List.set_cons_succ]
                    refine wpAnyH_tk (i := 4) (d := 75) (v := (.slice (some ⟨sb, so, none⟩) (d + 1) sc)) rfl rfl (by kernel_rfl) (by kernel_rfl) (by kernel_rfl) (fun _ _ _ h => h) (.inl ⟨by rfl, by (intro wq hSw; (try dsimp only at hSw); go_simp; (try (first | rfl | omega)))⟩) hHeld ?_
                    simp only [Act.put, List.setIfInBounds_toArray, List.set_cons_zero, List.set_cons_succ]
                    refine wpAnyH_tk (i := 5) (d := 76) (v := (.int .i64 k)) rfl rfl (by kernel_rfl) (by kernel_rfl) (by kernel_rfl) (fun _ _ _ h => h) (.inl ⟨by rfl, by (intro wq hSw; (try dsimp only at hSw); go_simp; (try (first | rfl | omega)))⟩) hHeld ?_
                    simp only [Act.put, List.setIfInBounds_toArray, List.set_cons_zero, List.set_cons_succ]
                    refine wpAnyH_tk (i := 6) (d := 77) (v := (.pointer (some ⟨sb, so + k, none⟩))) rfl rfl (by kernel_rfl) (by kernel_rfl) (by kernel_rfl) (fun _ _ _ h => h) (.inl ⟨by rfl, by (intro wq hSw; (try dsimp only at hSw); go_simp; (try (first | rfl | omega)))⟩) hHeld ?_
                    simp only [Act.put, List.setIfInBounds_toArray, List.set_cons_zero, List.set_cons_succ]
                    refine wpAnyH_tk (i := 7) (d := 78) (v := (.int .i64 sk)) rfl rfl (by kernel_rfl) (by kernel_rfl) (by kernel_rfl) (fun _ _ _ h => h) (.inl ⟨by rfl, by (intro wq hSw; (try dsimp only at hSw); go_simp; (try (first | rfl | omega)))⟩) hHeld ?_
                    simp only [Act.put, List.setIfInBounds_toArray, List.set_cons_zero, List.set_cons_succ]
                    refine wpAnyH_tk (i := 8) (d := 79) (v := (.int .i64 (-sk))) rfl rfl (by kernel_rfl) (by kernel_rfl) (by kernel_rfl) (fun _ _ _ h => h) (.inl ⟨by rfl, by (intro wq hSw; (try dsimp only at hSw); go_simp; (try (first | rfl | omega)))⟩) hHeld ?_
                    simp only [Act.put, List.setIfInBounds_toArray, List.set_cons_zero, List.set_cons_succ]
                    refine wpAnyH_tk (i := 9) (d := 80) (v := (.slice (some ⟨b, o, none⟩) rows.length rc)) rfl rfl (by kernel_rfl) (by kernel_rfl) (by kernel_rfl) (fun _ _ _ h => h) (.inl ⟨by rfl, by (intro wq hSw; (try dsimp only at hSw); go_simp; (try (first | rfl | omega)))⟩) hHeld ?_
                    simp only [Act.put, List.setIfInBounds_toArray, List.set_cons_zero, List.set_cons_succ]
                    refine wpAnyH_tk (i := 10) (d := 81) (v := (.int .i64 p)) rfl rfl (by kernel_rfl) (by kernel_rfl) (by kernel_rfl) (fun _ _ _ h => h) (.inl ⟨by rfl, by (intro wq hSw; (try dsimp only at hSw); go_simp; (try (first | rfl | omega)))⟩) hHeld ?_
                    simp only [Act.put, List.setIfInBounds_toArray, List.set_cons_zero, List.set_cons_succ]
                    refine wpAnyH_tk (i := 11) (d := 82) (v := (.pointer (some ⟨b, o + p, none⟩))) rfl rfl (by kernel_rfl) (by kernel_rfl) (by kernel_rfl) (fun _ _ _ h => h) (.inl ⟨by rfl, by (intro wq hSw; (try dsimp only at hSw); go_simp; (try (first | rfl | omega)))⟩) hHeld ?_
                    simp only [Act.put, List.setIfInBounds_toArray, List.set_cons_zero, List.set_cons_succ]
                    refine wpAnyH_tk (i := 12) (d := 83) (v := (.slice (some ⟨fb, fo, none⟩) (d + 1) fc)) rfl rfl (by kernel_rfl) (by kernel_rfl) (by kernel_rfl) (fun _ _ _ h => h) (.inl ⟨by rfl, by (intro wq hSw; (try dsimp only at hSw); go_simp; (try (first | rfl | omega)))⟩) hHeld ?_
                    simp only [Act.put, List.setIfInBounds_toArray, List.set_cons_zero, List.set_cons_succ]
                    refine wpAnyH_tk (i := 13) (d := 84) (v := (.int .i64 t)) rfl rfl (by kernel_rfl) (by kernel_rfl) (by kernel_rfl) (fun _ _ _ h => h) (.inl ⟨by rfl, by (intro wq hSw; (try dsimp only at hSw); go_simp; (try (first | rfl | omega)))⟩) hHeld ?_
                    simp only [Act.put, List.setIfInBounds_toArray, List.set_cons_zero, List.set_cons_succ]
                    refine wpAnyH_tk (i := 14) (d := 85) (v := (.pointer (some ⟨fb, fo + t, none⟩))) rfl rfl (by kernel_rfl) (by kernel_rfl) (by kernel_rfl) (fun _ _ _ h => h) (.inl ⟨by rfl, by (intro wq hSw; (try dsimp only at hSw); go_simp; (try (first | rfl | omega)))⟩) hHeld ?_
                    simp only [Act.put, List.setIfInBounds_toArray, List.set_cons_zero, List.set_cons_succ]
                    refine wpAnyH_tk (i := 15) (d := 86) (v := (.int .i64 ft)) rfl rfl (by kernel_rfl) (by kernel_rfl) (by kernel_rfl) (fun _ _ _ h => h) (.inl ⟨by rfl, by (intro wq hSw; (try dsimp only at hSw); go_simp; (try (first | rfl | omega)))⟩) hHeld ?_
                    simp only [Act.put, List.setIfInBounds_toArray, List.set_cons_zero, List.set_cons_succ]
                    refine wpAnyH_tk (i := 16) (d := 87) (v := (.int .i64 P1)) rfl rfl (by kernel_rfl) (by kernel_rfl) (by kernel_rfl) (fun _ _ _ h => h) (.inl ⟨by rfl, by (intro wq hSw; (try dsimp only at hSw); go_simp; (try (first | rfl | omega)))⟩) hHeld ?_
                    simp only [Act.put, List.setIfInBounds_toArray, List.set_cons_zero, List.set_cons_succ]
                    refine wpAnyH_tk (i := 17) (d := 88) (v := (.slice (some ⟨b, o, none⟩) rows.length rc)) rfl rfl (by kernel_rfl) (by kernel_rfl) (by kernel_rfl) (fun _ _ _ h => h) (.inl ⟨by rfl, by (intro wq hSw; (try dsimp only at hSw); go_simp; (try (first | rfl | omega)))⟩) hHeld ?_
                    simp only [Act.put, List.setIfInBounds_toArray, List.set_cons_zero, List.set_cons_succ]
                    refine wpAnyH_tk (i := 18) (d := 89) (v := (.int .i64 p)) rfl rfl (by kernel_rfl) (by kernel_rfl) (by kernel_rfl) (fun _ _ _ h => h) (.inl ⟨by rfl, by (intro wq hSw; (try dsimp only at hSw); go_simp; (try (first | rfl | omega)))⟩) hHeld ?_
                    simp only [Act.put, List.setIfInBounds_toArray, List.set_cons_zero, List.set_cons_succ]
                    refine wpAnyH_tk (i := 19) (d := 90) (v := (.pointer (some ⟨b, o + p, none⟩))) rfl rfl (by kernel_rfl) (by kernel_rfl) (by kernel_rfl) (fun _ _ _ h => h) (.inl ⟨by rfl, by (intro wq hSw; (try dsimp only at hSw); go_simp; (try (first | rfl | omega)))⟩) hHeld ?_
                    simp only [Act.put, List.setIfInBounds_toArray, List.set_cons_zero, List.set_cons_succ]
                    refine wpAnyH_tk (i := 20) (d := 91) (v := (.slice (some ⟨fb, fo, none⟩) (d + 1) fc)) rfl rfl (by kernel_rfl) (by kernel_rfl) (by kernel_rfl) (fun _ _ _ h => h) (.inl ⟨by rfl, by (intro wq hSw; (try dsimp only at hSw); go_simp; (try (first | rfl | omega)))⟩) hHeld ?_
                    simp only [Act.put, List.setIfInBounds_toArray, List.set_cons_zero, List.set_cons_succ]
                    refine wpAnyH_tk (i := 21) (d := 92) (v := (.int .i64 k)) rfl rfl (by kernel_rfl) (by kernel_rfl) (by kernel_rfl) (fun _ _ _ h => h) (.inl ⟨by rfl, by (intro wq hSw; (try dsimp only at hSw); go_simp; (try (first | rfl | omega)))⟩) hHeld ?_
                    simp only [Act.put, List.setIfInBounds_toArray, List.set_cons_zero, List.set_cons_succ]
                    refine wpAnyH_tk (i := 22) (d := 93) (v := (.pointer (some ⟨fb, fo + k, none⟩))) rfl rfl (by kernel_rfl) (by kernel_rfl) (by kernel_rfl) (fun _ _ _ h => h) (.inl ⟨by rfl, by (intro wq hSw; (try dsimp only at hSw); go_simp; (try (first | rfl | omega)))⟩) hHeld ?_
                    simp only [Act.put, List.setIfInBounds_toArray, List.set_cons_zero, List.set_cons_succ]
                    refine wpAnyH_tk (i := 23) (d := 94) (v := (.int .i64 fk)) rfl rfl (by kernel_rfl) (by kernel_rfl) (by kernel_rfl) (fun _ _ _ h => h) (.inl ⟨by rfl, by (intro wq hSw; (try dsimp only at hSw); go_simp; (try (first | rfl | omega)))⟩) hHeld ?_
                    simp only [Act.put, List.setIfInBounds_toArray, List.set_cons_zero, List.set_cons_succ]
                    refine wpAnyH_tk (i := 24) (d := 95) (v := (.slice (some ⟨b, o, none⟩) rows.length rc)) rfl rfl (by kernel_rfl) (by kernel_rfl) (by kernel_rfl) (fun _ _ _ h => h) (.inl ⟨by rfl, by (intro wq hSw; (try dsimp only at hSw); go_simp; (try (first | rfl | omega)))⟩) hHeld ?_
                    simp only [Act.put, List.setIfInBounds_toArray, List.set_cons_zero, List.set_cons_succ]
                    refine wpAnyH_tk (i := 25) (d := 96) (v := (.int .i64 q)) rfl rfl (by kernel_rfl) (by kernel_rfl) (by kernel_rfl) (fun _ _ _ h => h) (.inl ⟨by rfl, by (intro wq hSw; (try dsimp only at hSw); go_simp; (try (first | rfl | omega)))⟩) hHeld ?_
                    simp only [Act.put, List.setIfInBounds_toArray, List.set_cons_zero, List.set_cons_succ]
                    refine wpAnyH_tk (i := 26) (d := 97) (v := (.pointer (some ⟨b, o + q, none⟩))) rfl rfl (by kernel_rfl) (by kernel_rfl) (by kernel_rfl) (fun _ _ _ h => h) (.inl ⟨by rfl, by (intro wq hSw; (try dsimp only at hSw); go_simp; (try (first | rfl | omega)))⟩) hHeld ?_
                    simp only [Act.put, List.setIfInBounds_toArray, List.set_cons_zero, List.set_cons_succ]
                    refine wpAnyH_tk (i := 27) (d := 98) (v := (.slice (some ⟨sb, so, none⟩) (d + 1) sc)) rfl rfl (by kernel_rfl) (by kernel_rfl) (by kernel_rfl) (fun _ _ _ h => h) (.inl ⟨by rfl, by (intro wq hSw; (try dsimp only at hSw); go_simp; (try (first | rfl | omega)))⟩) hHeld ?_
                    simp only [Act.put, List.setIfInBounds_toArray, List.set_cons_zero, List.set_cons_succ]
                    refine wpAnyH_tk (i := 28) (d := 99) (v := (.int .i64 t)) rfl rfl (by kernel_rfl) (by kernel_rfl) (by kernel_rfl) (fun _ _ _ h => h) (.inl ⟨by rfl, by (intro wq hSw; (try dsimp only at hSw); go_simp; (try (first | rfl | omega)))⟩) hHeld ?_
                    simp only [Act.put, List.setIfInBounds_toArray, List.set_cons_zero, List.set_cons_succ]
                    refine wpAnyH_tk (i := 29) (d := 100) (v := (.pointer (some ⟨sb, so + t, none⟩))) rfl rfl (by kernel_rfl) (by kernel_rfl) (by kernel_rfl) (fun _ _ _ h => h) (.inl ⟨by rfl, by (intro wq hSw; (try dsimp only at hSw); go_simp; (try (first | rfl | omega)))⟩) hHeld ?_
                    simp only [Act.put, List.setIfInBounds_toArray, List.set_cons_zero, List.set_cons_succ]
                    refine wpAnyH_tk (i := 30) (d := 101) (v := (.int .i64 st)) rfl rfl (by kernel_rfl) (by kernel_rfl) (by kernel_rfl) (fun _ _ _ h => h) (.inl ⟨by rfl, by (intro wq hSw; (try dsimp only at hSw); go_simp; (try (first | rfl | omega)))⟩) hHeld ?_
                    simp only [Act.put, List.setIfInBounds_toArray, List.set_cons_zero, List.set_cons_succ]
                    refine wpAnyH_tk (i := 31) (d := 102) (v := (.int .i64 P2)) rfl rfl (by kernel_rfl) (by kernel_rfl) (by kernel_rfl) (fun _ _ _ h => h) (.inl ⟨by rfl, by (intro wq hSw; (try dsimp only at hSw); go_simp; (try (first | rfl | omega)))⟩) hHeld ?_
                    simp only [Act.put, List.setIfInBounds_toArray, List.set_cons_zero, List.set_cons_succ]
                    refine wpAnyH_tk (i := 32) (d := 103) (v := (.int .i64 (P1 + P2))) rfl rfl (by kernel_rfl) (by kernel_rfl) (by kernel_rfl) (fun _ _ _ h => h) (.inl ⟨by rfl, by (intro wq hSw; (try dsimp only at hSw); go_simp; (try (first | rfl | omega)))⟩) hHeld ?_
                    simp only [Act.put, List.setIfInBounds_toArray, List.set_cons_zero, List.set_cons_succ]
                    refine wpAnyH_ready (rs := [33]) (by kernel_rfl) (by simp) ?_
                    refine ready_tk (i := 33) rfl (by rfl) (fun K hK => ?_) AllReadyH.nil
                    go_simp
                    refine hK.out _ _ (HSS.out _ HBA2.out) (fun hHeld => ?_)
                    clear hK K
                    refine wpAnyH_ready (rs := [34]) (by kernel_rfl) (by simp) ?_
                    refine ready_tk (i := 34) rfl (by rfl) (fun K hK => ?_) AllReadyH.nil
                    refine op_append_ownA (.tmp 71) (.tmp 104) 22 (by rfl) wq.heap.size 3 i3 (.int .i64 0) 1 8 Tryz.underlying22 hi3 hz30 hz31 hz32 rfl (by decide) _ _ _ (by rfl) HOA.out ⟨wz.heap.size, 0, none⟩ 1 1 [.int .i64 (P1 + P2)] (by rfl) rfl (one_new _ _ _) (one_int _) (by unfold maxLen; omega) (by omega) HSZ1.out ?_
                    intro v' w5 ho5 hg5 _
                    obtain ⟨R1, R2, R3⟩ := HFIN.out v' w5 ho5 hg5
                    have HR1 : Hid (w5.ownsRow wq.heap.size 3 1 v' (t + 1) (ints (cb.take (t + 1)))) := R1
                    have HR2 : Hid (Below wq.heap.size wq w5) := R2
                    refine hK.out _ _ R3 (fun hHeld => ?_)
                    clear hK K hg5 R1 R2 R3
                    simp only [Act.put, List.setIfInBounds_toArray, List.set_cons_zero, List.set_cons_succ]
                    obtain ⟨vo, vc, hvv5⟩ := owns_form ho5
                    subst hvv5
                    clear ho5
                    refine wpAnyH_tk (i := 35) (d := 8) (v := (.slice vo (t + 1) vc)) rfl rfl (by kernel_rfl) (by kernel_rfl) (by kernel_rfl) (fun _ _ _ h => h) (.inl ⟨by rfl, by (intro wq hSw; (try dsimp only at hSw); go_simp; (try (first | rfl | omega)))⟩) hHeld ?_
                    simp only [Act.put, List.setIfInBounds_toArray, List.set_cons_zero, List.set_cons_succ]
                    refine wpAnyH_done (by kernel_rfl) ?_ _
                    clear hHeld
                    go_wp2
                    exact ⟨⟨t + 1, by omega, by go_num, HR1.out, HR2.out⟩, by simp [intOf]; omega⟩
                  · have hte : t = d + 1 := by omega
                    subst hte
                    have HCT : Hid (cb.take (d + 1) = cb) := List.take_of_length_le (by rw [HCLN.out]; exact Nat.le_refl _)
                    have hsl : Sl 0 3 wz (.slice xo (d + 1) xc) (ints cb) := by have := Sl.own (B := 0) HOT.out; rw [HCT.out] at this; exact this
                    have HDC : Hid (Calls Tryz.prog 73 #[.slice xo (d + 1) xc, .int .i64 k] wz fun e w' => ∃ uo uc, e = .returned (.slice uo d uc) ∧ Sl 0 3 w' (.slice uo d uc) (ints (drE cb k)) ∧ Below wz.heap.size wz w') := HDR.out cb _ _ wz HCLN.out hsl
                    have htb : decide ((d : Int) + 1 < (d : Int) + 1) = false := by simp
                    clear hsl HOT
                    go_wp2_with fail
                    refine HDC.out.mono ?_
                    rintro e w2 ⟨uo, uc, rfl, hu2, hb2⟩
                    have HB2 : Hid (Below w.heap.size w w2) := HBZ.out.trans (hb2.mono HBZ.out.size)
                    have hbq2 : Below wq.heap.size wq w2 := HBT.out.trans (hb2.mono HBT.out.size)
                    obtain ⟨M, hM⟩ : ∃ M, M = A ++ D1 ++ dwIn rows k f q := ⟨_, rfl⟩
                    have HMM : Hid (A ++ D1 ++ dwIn rows k f (q + 1) = M ++ [drE cb k]) := by show _ = _; rw [HTT.out, ← List.append_assoc, hM]
                    have hml : M.length ≤ 16790000 := by rw [hM, List.length_append, List.length_append]; have := HAL.out; have := HDL.out; have := HIL.out; omega
                    have hfq := HFQ.out
                    rw [← hM] at hfq
                    obtain ⟨vs, g1, g2, g3⟩ := hfq.below hbq2 (Nat.le_refl _)
                    have G2 : Hid (w2.ownsRow w.heap.size 22 1 u5 M.length vs) := g2
                    have HMO : Hid (∀ v' w3, w3.ownsRow w.heap.size 22 1 v' (M.length + 1) (vs ++ [.slice uo d uc]) → (w2.alloc (.cells #[.slice uo d uc] 22)).grownBy w3 u5.ownBlock → Fr w.heap.size 22 3 w3 v' (M ++ [drE cb k]) ∧ Below w.heap.size w w3) := fun v' w3 ho hg => fr_more HB2.out g1 g2 g3 hu2 ho hg
                    have hsz2 : w.heap.size ≤ w2.heap.size := HB2.out.size
                    clear hu2 hb2 hbq2 g1 g2 g3 hM hfq a0 a1 e0 e1
                    go_wp2_with (first | (at_builtin; refine wpList_append_own _ rfl _ _ 25 rfl w.heap.size 22 i0 (.slice none 0 0) 1 24 Tryz.underlying25 hi hz0 hz1 hz2 rfl (by decide) _ _ _ rfl (G2.out.alloc _) ⟨w2.heap.size, 0, none⟩ 1 1 [.slice uo d uc] rfl rfl (one_new _ _ _) (one_slice _ _ _) ?d3 ?d4 ?d5 ?_))
                    case d3 => unfold maxLen; omega
                    case d4 => omega
                    case d5 => first | omega | (simp; omega)
                    intro x6 w3 ho hg _
                    obtain ⟨q1, q2⟩ := HMO.out x6 w3 ho hg
                    have R1 : Hid (Fr w.heap.size 22 3 w3 x6 (A ++ D1 ++ dwIn rows k f (q + 1))) := by show Fr _ _ _ _ _ _; rw [HMM.out]; exact q1
                    have R2 : Hid (Below w.heap.size w w3) := q2
                    clear q1 q2 ho hg HMO G2
                    go_wp2
                    exact ⟨⟨q + 1, by omega, by go_num, R1.out, R2.out⟩, by simp [intOf]; omega⟩
              · have hsnb : decide (sk < 0) = false := decide_eq_false hsn
                have HTT : Hid (dwIn rows k f (q + 1) = dwIn rows k f q) := by show _ = _; rw [HIS.out, HT3.out, if_neg (fun h => hsn h.2), List.append_nil]
                clear HT3 HIS
                go_wp2
                exact ⟨⟨q + 1, by omega, by go_num, by rw [HTT.out]; exact HFQ.out, HBQ.out⟩, by simp [intOf]; omega⟩
            · have hfpb : decide (0 < fk) = false := decide_eq_false hfp
              have HTT : Hid (dwIn rows k f (q + 1) = dwIn rows k f q) := by show _ = _; rw [HIS.out, HT3.out, if_neg (fun h => hfp h.1), List.append_nil]
              clear HT3 HIS
              go_wp2
              exact ⟨⟨q + 1, by omega, by go_num, by rw [HTT.out]; exact HFQ.out, HBQ.out⟩, by simp [intOf]; omega⟩
          · have hqe : q = rows.length := by omega
            subst hqe
            have R1 : Hid (Fr w.heap.size 22 3 wq u5 (dwAll rows k (p + 1))) := by
              show Fr _ _ _ _ _ _
              rw [HAS.out]
              unfold dwRow
              rw [← List.append_assoc, HD1.out]
              exact HFQ.out
            go_wp2
            exact ⟨⟨p + 1, by omega, by go_num, R1.out, HBQ.out⟩, by simp [intOf]; omega⟩
    · have hpe : p = rows.length := by omega
      subst hpe
      obtain ⟨A, hA⟩ : ∃ A, A = dwAll rows k rows.length := ⟨_, rfl⟩
      have HWO : Hid (A = eaO k rows) := by show _ = _; rw [hA]; exact dw_eaO rows k
      have HSM : Hid (∀ r ∈ A, r.length = k + 2 ∧ ∀ z ∈ r, z.natAbs ≤ 2000000) := by
        show ∀ r ∈ A, _
        rw [hA, dw_eaO]
        intro r hr
        refine ⟨eaO_len (fun r hr => by have := (HC.out r hr).1; have := HDK.out; omega) hr, fun z hz => ?_⟩
        have := eaO_bd (n := 1000) (fun r hr => (HC.out r hr).2) (by decide) hr z hz
        omega
      have hal : A.length ≤ 16777216 := by
        rw [hA, dw_eaO]
        have h1 := eaO_n k rows
        have h2 : rows.length * rows.length ≤ 4096 * 4096 := Nat.mul_le_mul hn12 hn12
        omega
      rw [← hA] at hfr
      have HFA : Hid (Fr w.heap.size 22 3 wa u5 A) := hfr
      obtain ⟨xo, xc, hx5, _, _⟩ := fr_open hfr
      subst hx5
      have hk2 : k ≤ 2 := by have := HDK.out; omega
      clear hbel hfr hA hn12 hd3 hk
      go_wp2
      go_loopw [10, 11] (fun x i wr => ∃ j : Nat, j ≤ A.length ∧ i = .int .i64 j ∧ Fr wa.heap.size 22 3 wr x ((A.take j).map lmE) ∧ Below wa.heap.size wa wr) (fun _ i _ => A.length - (intOf i).toNat)
      case atStart => exact ⟨0, Nat.zero_le _, rfl, Fr.nil _ _ _ _, Below.refl _ _⟩
      case round =>
        obtain ⟨j, hj, rfl, hfr, hbel⟩ := hrel
        obtain ⟨wb, rfl⟩ : ∃ wb, wb = wr := ⟨_, rfl⟩
        have HBB : Hid (Below wa.heap.size wa wb) := hbel
        have HFB : Hid (Fr wa.heap.size 22 3 wb u10 ((A.take j).map lmE)) := hfr
        have hszb : wa.heap.size ≤ wb.heap.size := hbel.size
        clear hbel hfr
        by_cases hlj : j < A.length
        · obtain ⟨b2, o2, cp2, rv, hs, _, hrc, hrv⟩ := mat_cell (HFA.out.rws.mat (Nat.le_refl _)) hlj
          simp only [Value.slice.injEq] at hs
          obtain ⟨rfl, -, rfl⟩ := hs
          have hzm : A.getD j [] ∈ A := by simp [hlj]
          have HKS : Hid ((A.take (j + 1)).map lmE = (A.take j).map lmE ++ [lmE (A.getD j [])]) := by
            show _ = _
            rw [List.take_succ_eq_append_getElem hlj, List.map_append]
            simp [hlj]
          obtain ⟨z, hz⟩ : ∃ z, z = A.getD j [] := ⟨_, rfl⟩
          rw [← hz] at hrv hzm HKS
          clear hz
          obtain ⟨hzl, hzb⟩ := HSM.out z hzm
          obtain ⟨zb, zo, zc, hzv, hzc1, hzk⟩ := sl_cell hrv (k := k + 1) (by rw [hzl]; omega)
          rw [hzl] at hzv hzc1
          subst hzv
          have hcell : wb.cell? ⟨b2, o2 + j, none⟩ = some (.slice (some ⟨zb, zo, none⟩) (k + 2) zc) := (HBB.out.cell (lt_of_cell hrc)).trans hrc
          have HMC : Hid (∀ W, Below wb.heap.size wb W → W.cell? ⟨zb, zo + (k + 1), none⟩ = some (.int .i64 (z.getD (k + 1) 0)) ∧ W.cell? ⟨b2, o2 + j, none⟩ = some (.slice (some ⟨zb, zo, none⟩) (k + 2) zc)) := fun W hb => by
            have h1 := (HBB.out.cell (lt_of_cell hzk)).trans hzk
            exact ⟨(hb.cell (lt_of_cell h1)).trans h1, (hb.cell (lt_of_cell hcell)).trans hcell⟩
          have HLW : Hid (Calls Tryz.prog 74 #[.slice (some ⟨zb, zo, none⟩) (k + 1) zc] wb fun e w' => ∃ uo uc, e = .returned (.slice uo (k + 1) uc) ∧ w'.ownsRow wb.heap.size 3 1 (.slice uo (k + 1) uc) (k + 1) (ints (Lin.low (z.take (k + 1)))) ∧ Below wb.heap.size wb w') := by
            have hv' := hrv.below HBB.out (Nat.le_refl _)
            have hl1 : (z.take (k + 1)).length = k + 1 := by rw [List.length_take, hzl]; omega
            have h1 : Sl w.heap.size 3 wb (.slice (some ⟨zb, zo, none⟩) (k + 1) zc) (ints (z.take (k + 1))) := Sl.takeE (by rw [hzl]; exact hv') (by omega)
            refine (lowered_any w.heap.size (z.take (k + 1)) _ wb h1 (by omega) (fun q hq => by have := hzb q (List.mem_of_mem_take hq); omega)).mono ?_
            rintro e w' ⟨u, rfl, ho, hb⟩
            rw [hl1] at ho
            obtain ⟨uo, uc, rfl⟩ := owns_form ho
            exact ⟨uo, uc, rfl, ho, hb⟩
          have HLM : Hid (lmE z = Lin.low (z.take (k + 1)) ++ [if 0 < z.getD (k + 1) 0 then 1 else 0]) := by
            show _ = _
            unfold lmE
            rw [hzl]
            rfl
          have HFL2 : Hid (((A.take j).map lmE).length ≤ 16777216) := by
            show _ ≤ _
            rw [List.length_map, List.length_take]; omega
          have hmb : (z.getD (k + 1) 0).natAbs ≤ 2000000 := getB hzb
          clear hrc hrv hzl hzb hzm hzk
          generalize z.getD (k + 1) 0 = mz at *
          generalize Lin.low (z.take (k + 1)) = l at *
          generalize (A.take j).map lmE = F at *
          have hjI : (j : Int) < (A.length : Int) := by omega
          have hjI0 : (0 : Int) ≤ (j : Int) := by omega
          have hkI1 : (k : Int) + 2 - 1 = (k : Int) + 1 := by omega
          have hkI2 : (0 : Int) ≤ (k : Int) + 1 := by omega
          have hkI3 : (k : Int) + 1 < (k : Int) + 2 := by omega
          have hkI4 : (k : Int) + 1 ≤ (zc : Int) := by omega
          have hkt : ((k : Int) + 1).toNat = k + 1 := by omega
          have hkw1 : wrap64 ((k : Int) + 1) = (k : Int) + 1 := IntWalk.wrap64_in _ ⟨by omega, by omega⟩
          go_wp2_with fail
          refine HLW.out.mono ?_
          rintro ee w2 ⟨uo, uc, rfl, ho2, hb2⟩
          have HO2 : Hid (w2.ownsRow wb.heap.size 3 1 (.slice uo (k + 1) uc) (k + 1) (ints l)) := ho2
          have hsz2 : wb.heap.size ≤ w2.heap.size := hb2.size
          obtain ⟨cm1, cm2⟩ := HMC.out w2 hb2
          have HAP : Hid (∀ (mk : Int) (v' : Value) (w3 : World), w3.ownsRow wb.heap.size 3 1 v' (k + 1 + 1) (ints l ++ [.int .i64 mk]) → (w2.alloc (.cells #[.int .i64 mk] 3)).grownBy w3 (Value.slice uo (k + 1) uc).ownBlock → Sl 0 3 w3 v' (ints (l ++ [mk])) ∧ Below wb.heap.size wb w3 ∧ Fr wa.heap.size 22 3 w3 u10 F) := fun mk v' w3 ho hg => by
            have hb3 : Below wb.heap.size wb w3 := (hb2.alloc hsz2 _).grown hg (by simp; omega) (fun x hx => (ho2.lt x hx).1)
            refine ⟨?_, hb3, HFB.out.below hb3 (Nat.le_refl _)⟩
            have := Sl.own (B := 0) ho
            simpa [ints] using this
          clear ho2 hb2 HLW hcell HMC
          by_cases hm : 0 < mz
          · have hmbt : decide (0 < mz) = true := decide_eq_true hm
            have HLF : Hid (F ++ [l ++ [1]] = (A.take (j + 1)).map lmE) := by show _ = _; rw [HKS.out, HLM.out, if_pos hm]
            go_wp2_with (first | (at_builtin; refine wpList_append_own _ rfl _ _ 22 rfl wb.heap.size 3 i3 (.int .i64 0) 1 8 Tryz.underlying22 hi3 hz30 hz31 hz32 rfl (by decide) _ _ _ rfl (HO2.out.alloc _) ⟨w2.heap.size, 0, none⟩ 1 1 [.int .i64 1] rfl rfl (one_new _ _ _) (one_int _) ?d3 ?d4 ?d5 ?_))
            case d3 => clear hkw1; unfold maxLen; omega
            case d4 => clear hkw1; omega
            case d5 => clear hkw1; first | omega | (simp; omega)
            intro v3 w3 ho3 hg3 _
            obtain ⟨q0, q1, q2⟩ := HAP.out 1 _ w3 ho3 hg3
            obtain ⟨vo, vc, hvv3⟩ := owns_form ho3
            subst hvv3
            obtain ⟨vs, g1, g2, g3⟩ := q2
            have G2 : Hid (w3.ownsRow wa.heap.size 22 1 u10 F.length vs) := g2
            have HB3 : Hid (Below wa.heap.size wa w3) := HBB.out.trans (q1.mono hszb)
            have HMO : Hid (∀ v' w4, w4.ownsRow wa.heap.size 22 1 v' (F.length + 1) (vs ++ [.slice vo (k + 1 + 1) vc]) → (w3.alloc (.cells #[.slice vo (k + 1 + 1) vc] 22)).grownBy w4 u10.ownBlock → Fr wa.heap.size 22 3 w4 v' (F ++ [l ++ [1]]) ∧ Below wa.heap.size wa w4) := fun v' w4 ho hg => fr_more HB3.out g1 g2 g3 q0 ho hg
            have hsz3 : wa.heap.size ≤ w3.heap.size := HB3.out.size
            have hfl := HFL2.out
            clear q0 q1 g1 g2 g3 ho3 hg3 cm1 cm2
            go_wp2_with (first | (at_builtin; refine wpList_append_own _ rfl _ _ 25 rfl wa.heap.size 22 i0 (.slice none 0 0) 1 24 Tryz.underlying25 hi hz0 hz1 hz2 rfl (by decide) _ _ _ rfl (G2.out.alloc _) ⟨w3.heap.size, 0, none⟩ 1 1 [.slice vo (k + 1 + 1) vc] rfl rfl (one_new _ _ _) (one_slice _ _ _) ?d3 ?d4 ?d5 ?_))
            case d3 => clear hkw1; unfold maxLen; omega
            case d4 => clear hkw1; omega
            case d5 => clear hkw1; first | omega | (simp; omega)
            intro x6 w4 ho hg _
            obtain ⟨q1, q2⟩ := HMO.out x6 w4 ho hg
            have R1 : Hid (Fr wa.heap.size 22 3 w4 x6 ((A.take (j + 1)).map lmE)) := by show Fr _ _ _ _ _ _; rw [← HLF.out]; exact q1
            have R2 : Hid (Below wa.heap.size wa w4) := q2
            clear q1 q2 ho hg HMO G2
            clear hkw1
            go_wp2
            exact ⟨⟨j + 1, by omega, by go_num, R1.out, R2.out⟩, by simp [intOf]; omega⟩
          · have hmbt : decide (0 < mz) = false := decide_eq_false hm
            have HLF : Hid (F ++ [l ++ [0]] = (A.take (j + 1)).map lmE) := by show _ = _; rw [HKS.out, HLM.out, if_neg hm]
            go_wp2_with (first | (at_builtin; refine wpList_append_own _ rfl _ _ 22 rfl wb.heap.size 3 i3 (.int .i64 0) 1 8 Tryz.underlying22 hi3 hz30 hz31 hz32 rfl (by decide) _ _ _ rfl (HO2.out.alloc _) ⟨w2.heap.size, 0, none⟩ 1 1 [.int .i64 0] rfl rfl (one_new _ _ _) (one_int _) ?d3 ?d4 ?d5 ?_))
            case d3 => clear hkw1; unfold maxLen; omega
            case d4 => clear hkw1; omega
            case d5 => clear hkw1; first | omega | (simp; omega)
            intro v3 w3 ho3 hg3 _
            obtain ⟨q0, q1, q2⟩ := HAP.out 0 _ w3 ho3 hg3
            obtain ⟨vo, vc, hvv3⟩ := owns_form ho3
            subst hvv3
            obtain ⟨vs, g1, g2, g3⟩ := q2
            have G2 : Hid (w3.ownsRow wa.heap.size 22 1 u10 F.length vs) := g2
            have HB3 : Hid (Below wa.heap.size wa w3) := HBB.out.trans (q1.mono hszb)
            have HMO : Hid (∀ v' w4, w4.ownsRow wa.heap.size 22 1 v' (F.length + 1) (vs ++ [.slice vo (k + 1 + 1) vc]) → (w3.alloc (.cells #[.slice vo (k + 1 + 1) vc] 22)).grownBy w4 u10.ownBlock → Fr wa.heap.size 22 3 w4 v' (F ++ [l ++ [0]]) ∧ Below wa.heap.size wa w4) := fun v' w4 ho hg => fr_more HB3.out g1 g2 g3 q0 ho hg
            have hsz3 : wa.heap.size ≤ w3.heap.size := HB3.out.size
            have hfl := HFL2.out
            clear q0 q1 g1 g2 g3 ho3 hg3 cm1 cm2
            go_wp2_with (first | (at_builtin; refine wpList_append_own _ rfl _ _ 25 rfl wa.heap.size 22 i0 (.slice none 0 0) 1 24 Tryz.underlying25 hi hz0 hz1 hz2 rfl (by decide) _ _ _ rfl (G2.out.alloc _) ⟨w3.heap.size, 0, none⟩ 1 1 [.slice vo (k + 1 + 1) vc] rfl rfl (one_new _ _ _) (one_slice _ _ _) ?d3 ?d4 ?d5 ?_))
            case d3 => clear hkw1; unfold maxLen; omega
            case d4 => clear hkw1; omega
            case d5 => clear hkw1; first | omega | (simp; omega)
            intro x6 w4 ho hg _
            obtain ⟨q1, q2⟩ := HMO.out x6 w4 ho hg
            have R1 : Hid (Fr wa.heap.size 22 3 w4 x6 ((A.take (j + 1)).map lmE)) := by show Fr _ _ _ _ _ _; rw [← HLF.out]; exact q1
            have R2 : Hid (Below wa.heap.size wa w4) := q2
            clear q1 q2 ho hg HMO G2
            clear hkw1
            go_wp2
            exact ⟨⟨j + 1, by omega, by go_num, R1.out, R2.out⟩, by simp [intOf]; omega⟩
        · have hje : j = A.length := by omega
          subst hje
          have HF3 : Hid (Fr w.heap.size 22 3 wb u10 ((eaO k rows).map lmE)) := by
            have h := HFB.out
            rw [List.take_length, HWO.out] at h
            exact h.mono HB.out.size
          have HSO : Hid (Calls Tryz.prog 32 #[u10] wb fun e w' => ∃ xo xc s, e = .returned (.slice xo s.length xc) ∧ Fr w.heap.size 22 3 w' (.slice xo s.length xc) s ∧ SAsc s ∧ (∀ r, r ∈ s ↔ r ∈ (eaO k rows).map lmE) ∧ Below w.heap.size w w') := by
            have hbw : Below w.heap.size w wb := HB.out.trans (HBB.out.mono HB.out.size)
            refine (sortR_any w.heap.size ((eaO k rows).map lmE) u10 wb (HF3.out.rws.mat (Nat.le_refl _)) (by rw [List.length_map, ← HWO.out]; omega) (fun r hr => ?_)).mono ?_
            · obtain ⟨x, hx, rfl⟩ := List.mem_map.1 hr
              rw [← HWO.out] at hx
              have h2 := (HSM.out x hx).1
              rw [lmE_len (by omega)]; omega
            rintro e w' ⟨x, s, rfl, h1, h2, h3, h4⟩
            obtain ⟨xo, xc, rfl, _, _⟩ := fr_open h1
            exact ⟨xo, xc, s, rfl, h1.mono hbw.size, h2, h3, hbw.trans (h4.mono hbw.size)⟩
          go_wp2_with fail
          refine HSO.out.mono ?_
          rintro ee w2 ⟨xo2, xc2, s2, rfl, h1, h2, h3, h4⟩
          have HH : Hid (Fr w.heap.size 22 3 w2 (.slice xo2 s2.length xc2) s2 ∧ SAsc s2 ∧ (∀ r, r ∈ s2 ↔ r ∈ (eaO k rows).map lmE) ∧ Below w.heap.size w w2) := ⟨h1, h2, h3, h4⟩
          clear h1 h2 h3 h4 HSO
          go_wp2
          go_ret
          exact ⟨_, s2, rfl, HH.out⟩
end Go.Proofs.YtgfnmkenpgnllaaGreat
