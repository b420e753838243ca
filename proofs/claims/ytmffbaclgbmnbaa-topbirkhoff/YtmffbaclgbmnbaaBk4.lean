/- Sums of orders are even. -/
import Derived.Test.YtmffbaclgbmnbaaBk2
import Derived.Test.YtmffbaclgbmnbaaMade1
import Derived.Test.YtmffbaclgbmnbaaNp3
namespace Go.Proofs.Ytmffbaclgbmnbaa
open Go.RowKit
attribute [local go_sem ↓] Go.wp_at_zero Go.wp_at_succ

theorem made_own (w : World) (n : Nat) (hn : n ≤ maxLen) : (w.alloc (.cells (madeCells #[.int .i64 0] n) 3)).ownsRow w.heap.size 3 1 (.slice (some ⟨w.heap.size, 0, none⟩) n n) n (ints (List.replicate n 0)) := by
  have h := World.ownsRow_lit (base := w.heap.size) (e := 3) (size := 1) w (madeCells #[.int .i64 0] n) n (Nat.le_refl _) hn (by rw [← Array.length_toList, toList_madeCells_one]; simp)
  rw [toList_madeCells_one] at h
  have e : ints (List.replicate n 0) = List.replicate n (.int .i64 0) := by simp [ints]
  rw [e]
  exact h

/-- While orders are added. -/
structure EQ (w w2 : World) (N1 n : Nat) (g c : Nat → Nat) (lv : Value) (R : List (List Int)) (bd : Int) (wr : World) : Prop where
  bel : Below w.heap.size w wr
  mid : ∀ b, N1 ≤ b → b < w2.heap.size → wr.heap[b]? = w2.heap[b]?
  left : OM w.heap.size g c n n wr lv R
  sz : w2.heap.size ≤ wr.heap.size
  bds : ∀ i j, 0 ≤ ent R i j ∧ ent R i j ≤ bd

theorem EQ.below {w w2 : World} {N1 n : Nat} {g c : Nat → Nat} {lv : Value} {R : List (List Int)} {bd : Int} {wr wq : World} (h : EQ w w2 N1 n g c lv R bd wr) (hb : Below wr.heap.size wr wq) : EQ w w2 N1 n g c lv R bd wq :=
  ⟨h.bel.trans (hb.mono h.bel.size), fun b h1 h2 => (hb.block b (by have := h.sz; omega)).trans (h.mid b h1 h2), h.left.below hb (Nat.le_refl _), Nat.le_trans h.sz hb.size, h.bds⟩

theorem EQ.set {w w2 : World} {N1 n : Nat} {g c : Nat → Nat} {lv : Value} {R : List (List Int)} {bd bd' : Int} {wr : World} (h : EQ w w2 N1 n g c lv R bd wr) (hN : ∀ i, i < n → g i < N1) {i j : Nat} (hi : i < n) (hj : j < n) {z : Int} (hz : 0 ≤ z ∧ z ≤ bd') (hb : bd ≤ bd') :
    EQ w w2 N1 n g c lv (setM R i j z) bd' (wr.setCell ⟨g i, j, none⟩ (.int .i64 z)) := by
  have hg := hN i hi
  have hB : w.heap.size ≤ g i := ((h.left.row i hi).lt _ rfl).1
  have hoth : ∀ b, b ≠ g i → (wr.setCell ⟨g i, j, none⟩ (.int .i64 z)).heap[b]? = wr.heap[b]? := fun b hb => Below.heap_setCell wr _ _ b hb
  refine ⟨h.bel.trans ⟨rfl, rfl, rfl, by simp [World.setCell], fun b hb => hoth b (by omega)⟩, fun b h1 h2 => (hoth b (by omega)).trans (h.mid b h1 h2), h.left.set hi z, by simp [World.setCell]; exact h.sz, fun a b => ?_⟩
  rw [setM_ent (by rw [h.left.num]; exact hi) (by rw [h.left.len i hi]; exact hj)]
  split
  · exact hz
  · have := h.bds a b; omega

set_option maxRecDepth 100000 in
set_option maxHeartbeats 3200000 in
theorem evenOf_ev (B : Nat) (raw : List Int) (v : Value) (n many : Nat) (w : World) (hv : Sl B 3 w v (ints raw)) (hr : ∀ z ∈ raw, In64 z) (hl : raw.length ≤ 1000000) (h1 : 1 ≤ n) (h6 : n ≤ 6) (hm : many ≤ 100) :
    Calls Try.prog 5 #[v, .int .i64 n, .int .i64 many] w fun e w' => ∃ x m, e = .returned x ∧ (∃ g c, OM w.heap.size g c n n w' x m) ∧ SqN n m ∧ (∃ T, EvT n m T) ∧ Below w.heap.size w w' := by
  obtain ⟨i0, hi0, hz0, hz1, hz2⟩ := info_parts Try.info22
  obtain ⟨ro, rc, hvv, hlc, hcm⟩ := sl_open hv
  subst hvv
  have HV : Hid (Sl B 3 w (.slice ro raw.length rc) (ints raw)) := hv
  have HRR : Hid (∀ z ∈ raw, In64 z) := hr
  have HRL : Hid (raw.length ≤ 1000000) := hl
  clear hv hr hl hlc hcm
  have hmk := run_make_row' (P := Try.prog) 22 3 (.int .i64 0) 8 Try.underlying22 Try.info3 rfl .i64 .i64 n (by omega) (by omega)
  go_enter Try.func5, Try.ntmps5
  go_wp2
  go_loopw [7, 8] (fun x i wr => ∃ (k : Nat) (g c : Nat → Nat) (R : List (List Int)), k ≤ n ∧ i = .int .i64 k ∧ OM w.heap.size g c k n wr x R ∧ (∀ i j, 0 ≤ ent R i j ∧ ent R i j ≤ 0) ∧ Below w.heap.size w wr) (fun _ i _ => n - (intOf i).toNat)
  case atStart => exact ⟨0, fun _ => 0, fun _ => 0, [], Nat.zero_le _, rfl, ⟨rfl, fun i hi => by omega, World.ownsRow_nil _ _ _ _, fun i hi => by omega, fun i j hi => by omega⟩, fun i j => by simp [ent], Below.refl _ _⟩
  case round =>
    obtain ⟨k, g, c, R, hk, rfl, hom, hent, hb⟩ := hrel
    obtain ⟨wa, rfl⟩ : ∃ wa, wa = wr := ⟨wr, rfl⟩
    have HOM : Hid (OM w.heap.size g c k n wa u7 R) := hom
    have HB2 : Hid (Below w.heap.size w wa) := hb
    have HEN : Hid (∀ i j, 0 ≤ ent R i j ∧ ent R i j ≤ 0) := hent
    clear hb hent
    obtain ⟨xo, xc, hx⟩ : ∃ xo xc, u7 = .slice xo k xc := owns_form hom.out
    subst hx
    clear hom
    by_cases hlt : k < n
    · obtain ⟨w1, hw1⟩ : ∃ w1, w1 = wa.alloc (.cells (madeCells #[.int .i64 0] n) 3) := ⟨_, rfl⟩
      have HW1 : Hid (w1 = wa.alloc (.cells (madeCells #[.int .i64 0] n) 3)) := hw1
      have HU : Hid (w1.ownsRow wa.heap.size 3 1 (.slice (some ⟨wa.heap.size, 0, none⟩) n n) n (ints (List.replicate n 0))) := by rw [hw1]; exact made_own wa n (by unfold maxLen; omega)
      have HBW : Hid (Below wa.heap.size wa w1) := by rw [hw1]; exact (Below.refl _ _).alloc (Nat.le_refl _) _
      have HO1 : Hid (w1.ownsRow w.heap.size 22 1 (.slice xo k xc) k (rowsV g c n k)) := owns_below HOM.out.out HBW.out (Nat.le_refl _)
      have HSS : Hid (w.heap.size ≤ w1.heap.size) := Nat.le_trans HB2.out.size HBW.out.size
      have hs1 : w1.heap.size = wa.heap.size + 1 := by rw [hw1]; simp
      have HNEW : Hid (∀ j u, [Value.slice (some ⟨wa.heap.size, 0, none⟩) n n][j]? = some u → (w1.alloc (.cells #[.slice (some ⟨wa.heap.size, 0, none⟩) n n] 22)).cell? ((⟨wa.heap.size + 1, 0, none⟩ : Addr).add j) = some u) := by
        rw [← hs1]; exact one_new _ _ _
      rw [hw1] at HNEW HO1 HSS HU HBW
      clear hw1 hs1 HW1
      go_wp2_with (first | (at_builtin; refine wpList_append_own _ rfl _ _ 24 rfl w.heap.size 22 i0 (.slice none 0 0) 1 24 Try.underlying24 hi0 hz0 hz1 hz2 rfl (by decide) _ _ _ rfl (HO1.out.alloc _) ⟨wa.heap.size + 1, 0, none⟩ 1 1 [.slice (some ⟨wa.heap.size, 0, none⟩) n n] rfl rfl HNEW.out (one_slice _ _ _) ?c3 ?c4 ?c5 ?_))
      case c3 => unfold maxLen; omega
      case c4 => omega
      case c5 => have := HSS.out; simp at this ⊢; omega
      intro v2 w3 ho3 hg3 _
      have HNX : Hid (OM w.heap.size (updN g k wa.heap.size) (updN c k n) (k + 1) n w3 v2 (R ++ [List.replicate n 0])) := HOM.out.push HB2.out.size (by simp) HU.out HBW.out ho3 hg3
      have HB3 : Hid (Below w.heap.size w w3) := ((HB2.out.trans (HBW.out.mono HB2.out.size)).alloc HSS.out _).grown hg3 (by have := HSS.out; simp at this ⊢; omega) (fun b hx => (HO1.out.lt b hx).1)
      have HEN2 : Hid (∀ i j, 0 ≤ ent (R ++ [List.replicate n 0]) i j ∧ ent (R ++ [List.replicate n 0]) i j ≤ 0) := fun i j => by
        by_cases e : i < R.length
        · have e1 : ent (R ++ [List.replicate n 0]) i j = ent R i j := by
            unfold ent
            rw [List.getD_eq_getElem?_getD (l := R ++ _), List.getElem?_append_left e, ← List.getD_eq_getElem?_getD]
          rw [e1]; exact HEN.out i j
        · have e1 : ent (R ++ [List.replicate n 0]) i j = 0 := by
            unfold ent
            by_cases e2 : i = R.length
            · subst e2
              by_cases e3 : j < n
              · simp [List.getD_eq_getElem?_getD, e3]
              · simp [List.getD_eq_getElem?_getD, e3]
            · have : (R ++ [List.replicate n (0 : Int)]).getD i [] = [] := by
                rw [List.getD_eq_getElem?_getD, List.getElem?_eq_none (by simp; omega)]; rfl
              rw [this]; simp
          rw [e1]; omega
      clear ho3 hg3
      go_wp2
      go_roundw
      case rel => exact ⟨k + 1, _, _, _, by omega, by go_num, HNX.out, HEN2.out, HB3.out⟩
      case measure => simp [intOf]; omega
    · have hke : k = n := by omega
      subst hke
      obtain ⟨G, cap, hG, _, _, _, _⟩ := HOM.out.form h1
      simp only [Value.slice.injEq] at hG
      obtain ⟨rfl, -, rfl⟩ := hG
      have HCO : Hid (Calls Try.prog 8 #[.int .i64 k, .slice none 0 0] wa fun e w' => ∃ x, e = .returned x ∧ FrN wa.heap.size w' x (ords k k []) ∧ Below wa.heap.size wa w') :=
        ordN_any k h6 k h6 [] _ wa ⟨by simp, by simp⟩ (by simp) (Sl.nil _ _ _)
      have HOI : Hid (∀ o ∈ ords k k [], Od k o) := fun o ho => by
        have := ords_is k [] o ⟨by simp, by simp⟩ ho
        exact ord_od this.1 (by simpa using this.2)
      have HOJ : Hid (∀ o ∈ ords k k [], Ins k (oF o)) := fun o ho => by
        have := ords_is k [] o ⟨by simp, by simp⟩ ho
        exact ord_ins this.1 (by simpa using this.2)
      have HLN : Hid ((ords k k []).length ≤ 46656) := Nat.le_trans (ords_len h6 _ _) (Nat.le_trans (Nat.pow_le_pow_right (by decide) h6) (by decide))
      have HNE := ords_ne k [] ⟨by simp, by simp⟩ (by simp : [].length + k = k)
      obtain ⟨n, hn⟩ : ∃ n, n = k := ⟨_, rfl⟩
      subst hn
      clear hlt hk
      generalize ords n n [] = os at *
      have hos := HLN.out
      go_wp2_with fail
      refine HCO.out.mono ?_
      rintro e w2 ⟨x, rfl, ⟨ws, f1, f2, f3⟩, hb2⟩
      obtain ⟨xb, xcc, hx⟩ : ∃ xb xc, x = .slice (some ⟨xb, 0, none⟩) os.length xc := by
        rcases f2.2 with ⟨_, h0⟩ | ⟨g', xc, cur, rfl, _⟩
        · exact absurd (List.eq_nil_of_length_eq_zero h0) HNE
        · exact ⟨_, _, rfl⟩
      subst hx
      have HXB : Hid (wa.heap.size ≤ xb ∧ xb < w2.heap.size) := f2.lt xb rfl
      have HROW : Hid (∀ k, k < os.length → ∃ ob oq oc, (∀ wq : World, (∀ b, wa.heap.size ≤ b → b < w2.heap.size → wq.heap[b]? = w2.heap[b]?) → wq.cell? ⟨xb, k, none⟩ = some (.slice (some ⟨ob, oq, none⟩) n oc) ∧ ∀ j, j < n → wq.cell? ⟨ob, oq + j, none⟩ = some (.int .i64 ((os.getD k []).getD j 0)))) := fun k hk => by
        have hmem : os.getD k [] ∈ os := by simp [hk]
        have hod := HOI.out _ hmem
        have hs := f3 k hk
        obtain ⟨ob, oq, oc, hv, _, hc0⟩ := sl_cell hs.1 (k := 0) (by rw [hod.len]; omega)
        rw [hod.len] at hv
        refine ⟨ob, oq, oc, fun wq hq => ⟨?_, fun j hj => ?_⟩⟩
        · have e : wq.cell? ⟨xb, k, none⟩ = w2.cell? ⟨xb, k, none⟩ := World.cell?_of_block (w := w2) (hq xb HXB.out.1 HXB.out.2)
          rw [e, f2.cellAt k (by omega), ← hv, List.getD_eq_getElem?_getD]
          have : k < ws.length := by omega
          simp [this]
        · have h2 := hs.mid hq
          obtain ⟨ob', oq', oc', hv', _, hcj⟩ := sl_cell h2 (k := j) (by rw [hod.len]; exact hj)
          rw [hv] at hv'
          simp only [Value.slice.injEq, Option.some.injEq, Addr.mk.injEq] at hv'
          obtain ⟨⟨rfl, rfl, -⟩, -⟩ := hv'
          exact hcj
      have HEV0 : Hid (∃ T, EvT n R T) := ⟨0, fun i _ => Lin.sumN_zero fun j _ => by have := HEN.out i j; omega, fun j _ => Lin.sumN_zero fun i _ => by have := HEN.out i j; omega⟩
      have hosl : 1 ≤ os.length := by
        rcases Nat.eq_zero_or_pos os.length with h | h
        · exact absurd (List.eq_nil_of_length_eq_zero h) HNE
        · exact h
      have HE0 : Hid (EQ w w2 wa.heap.size n g c (.slice (some ⟨G, 0, none⟩) n xc) R (100 * ((0 : Nat) : Int)) w2) :=
        ⟨HB2.out.trans (hb2.mono HB2.out.size), fun _ _ _ => rfl, HOM.out.below hb2 (Nat.le_refl _), Nat.le_refl _, HEN.out⟩
      have HGL : Hid (∀ i, i < n → g i < wa.heap.size) := fun i hi => ((HOM.out.row i hi).lt _ rfl).2
      clear f1 f2 f3 hb2 HCO HNE
      go_wp2
      go_loopw [10, 11, 12, 13] (fun i _ _ _ wr => ∃ (k : Nat) (R : List (List Int)), k ≤ many ∧ i = .int .i64 k ∧ EQ w w2 wa.heap.size n g c (.slice (some ⟨G, 0, none⟩) n xc) R (100 * (k : Int)) wr ∧ ∃ T, EvT n R T) (fun i _ _ _ _ => many - (intOf i).toNat)
      case atStart => exact ⟨0, R, Nat.zero_le _, rfl, HE0.out, HEV0.out⟩
      case round =>
        obtain ⟨k, R2, hk, rfl, heq, hev⟩ := hrel
        have HEV : Hid (∃ T, EvT n R2 T) := hev
        clear HE0 HEV0 hev
        obtain ⟨wb, rfl⟩ : ∃ wb, wb = wr := ⟨wr, rfl⟩
        have HEQ : Hid (EQ w w2 wa.heap.size n g c (.slice (some ⟨G, 0, none⟩) n xc) R2 (100 * (k : Int)) wb) := heq
        clear heq
        by_cases hlt : k < many
        · have HVW : Hid (∀ wq, Below w.heap.size w wq → Sl B 3 wq (.slice ro raw.length rc) (ints raw)) := fun wq hb => HV.out.below hb (Nat.le_refl _)
          have HR1 : Hid (Calls Try.prog 9 #[.slice ro raw.length rc, .int .i64 (2 * (k : Int))] wb fun e w' => ∃ z, e = .returned (.int .i64 z) ∧ (0 ≤ z ∧ z ≤ 4611686018427387904) ∧ Below wb.heap.size wb w') := by
            have := raw_any B raw _ (2 * k) wb (HVW.out wb HEQ.out.bel) HRR.out HRL.out (by omega)
            rw [show ((2 * k : Nat) : Int) = 2 * (k : Int) by omega] at this
            exact this
          have HR2 : Hid (∀ wq, Below wb.heap.size wb wq → Calls Try.prog 9 #[.slice ro raw.length rc, .int .i64 (2 * (k : Int) + 1)] wq fun e w' => ∃ z, e = .returned (.int .i64 z) ∧ (0 ≤ z ∧ z ≤ 4611686018427387904) ∧ Below wq.heap.size wq w') := fun wq hb => by
            have := raw_any B raw _ (2 * k + 1) wq (HVW.out wq (HEQ.out.bel.trans (hb.mono HEQ.out.bel.size))) HRR.out HRL.out (by omega)
            rw [show ((2 * k + 1 : Nat) : Int) = 2 * (k : Int) + 1 by omega] at this
            exact this
          go_wp2_with fail
          refine HR1.out.mono ?_
          rintro e w3 ⟨z1, rfl, hz1', hb3⟩
          have HB3 : Hid (Below wb.heap.size wb w3) := hb3
          clear hb3 HR1
          have hz1a := hz1'.1
          have hz1b := hz1'.2
          clear hz1'
          go_wp2_with fail
          refine (pick_any z1 os.length w3 (by omega) (by omega) ⟨by omega, by omega⟩).mono ?_
          rintro e w3' ⟨q, rfl, hq, hw3⟩
          rw [hw3]
          obtain ⟨qn, hqn⟩ : ∃ qn : Nat, q = (qn : Int) := ⟨q.toNat, by omega⟩
          subst hqn
          have hqn1 : qn < os.length := by omega
          obtain ⟨ob, oq, oc, hrow⟩ := HROW.out qn hqn1
          have HR : Hid (∀ wq : World, (∀ b, wa.heap.size ≤ b → b < w2.heap.size → wq.heap[b]? = w2.heap[b]?) → wq.cell? ⟨xb, qn, none⟩ = some (.slice (some ⟨ob, oq, none⟩) n oc) ∧ ∀ j, j < n → wq.cell? ⟨ob, oq + j, none⟩ = some (.int .i64 ((os.getD qn []).getD j 0))) := hrow
          have HOD : Hid (Od n (os.getD qn [])) := HOI.out _ (by simp [hqn1])
          have HOS : Hid (Ins n (oF (os.getD qn []))) := HOJ.out _ (by simp [hqn1])
          have HEQ3 : Hid (EQ w w2 wa.heap.size n g c (.slice (some ⟨G, 0, none⟩) n xc) R2 (100 * (k : Int)) w3) := HEQ.out.below HB3.out
          have x0 := (hrow w3 HEQ3.out.mid).1
          have qI : (qn : Int) < (os.length : Int) := by omega
          have qI0 : (0 : Int) ≤ (qn : Int) := by omega
          clear hrow hw3 w3' hq
          generalize os.getD qn [] = o at *
          go_wp2_with fail
          refine (HR2.out w3 HB3.out).mono ?_
          rintro e w4 ⟨z2, rfl, hz2', hb4⟩
          have HB4 : Hid (Below w3.heap.size w3 w4) := hb4
          have hz2a := hz2'.1
          have hz2b := hz2'.2
          clear hb4 HR2 hz2' x0
          go_wp2_with fail
          refine (pick_any z2 5 w4 (by omega) (by omega) ⟨by omega, by omega⟩).mono ?_
          rintro e w4' ⟨y, rfl, hy, hw4⟩
          rw [hw4]
          have hy1 := hy.1
          have hy2 := hy.2
          have HEQ4 : Hid (EQ w w2 wa.heap.size n g c (.slice (some ⟨G, 0, none⟩) n xc) R2 (100 * (k : Int) + 5 * ((0 : Nat) : Int)) w4) := by
            have := HEQ3.out.below HB4.out
            show EQ _ _ _ _ _ _ _ _ _ _
            simpa using this
          have HSQ2 : Hid (R2.length = n ∧ ∀ i, i < n → (R2.getD i []).length = n) := ⟨HEQ4.out.left.num, HEQ4.out.left.len⟩
          clear hw4 w4' hy HEQ3 HEQ HB3 HB4
          go_wp2
          go_loopw [13] (fun i wq => ∃ (p : Nat) (R3 : List (List Int)), p ≤ n ∧ i = .int .i64 p ∧ EQ w w2 wa.heap.size n g c (.slice (some ⟨G, 0, none⟩) n xc) R3 (100 * (k : Int) + 5 * (p : Int)) wq ∧ R3 = takeTo R2 o (-(1 + y)) p) (fun i _ => n - (intOf i).toNat)
          case atStart => exact ⟨0, R2, Nat.zero_le _, rfl, HEQ4.out, rfl⟩
          case round =>
            obtain ⟨p, R3, hp, rfl, hpw, hR3⟩ := hrel
            have HR3 : Hid (R3 = takeTo R2 o (-(1 + y)) p) := hR3
            clear hR3
            clear HEQ4
            by_cases hpl : p < n
            · obtain ⟨j, hj, hjn⟩ := HOD.out.rng p hpl
              obtain ⟨y0, y1⟩ := HR.out wr hpw.mid
              have y2 := y1 p hpl
              rw [hj] at y2
              have y3 := hpw.left.cellG (i := p) hpl
              obtain ⟨y4, y5⟩ := hpw.left.ent (i := p) (j := j) hpl hjn
              have hbe := hpw.bds p j
              have HNX : Hid (EQ w w2 wa.heap.size n g c (.slice (some ⟨G, 0, none⟩) n xc) (setM R3 p j (ent R3 p j + (1 + y))) (100 * (k : Int) + 5 * ((p + 1 : Nat) : Int)) (wr.setCell ⟨g p, j, none⟩ (.int .i64 (ent R3 p j + (1 + y))))) :=
                hpw.set HGL.out hpl hjn (by omega) (by omega)
              have HTN : Hid (setM R3 p j (ent R3 p j + (1 + y)) = takeTo R2 o (-(1 + y)) (p + 1)) := by
                show _ = setM (takeTo R2 o (-(1 + y)) p) p (o.getD p 0).toNat (ent (takeTo R2 o (-(1 + y)) p) p (o.getD p 0).toNat - -(1 + y))
                rw [← HR3.out, hj, Int.sub_neg]; rfl
              have pI : (p : Int) < (n : Int) := by omega
              have pI0 : (0 : Int) ≤ (p : Int) := by omega
              have jI : (j : Int) < (n : Int) := by omega
              have jI0 : (0 : Int) ≤ (j : Int) := by omega
              clear y1 hj hpw
              generalize ent R3 p j = E at *
              go_wp2_with fail
              go_big_region
              all_goals
                go_wp2
                exact ⟨⟨p + 1, _, by omega, by go_num, HNX.out.below ⟨rfl, rfl, rfl, Nat.le_refl _, fun _ _ => rfl⟩, HTN.out⟩, by simp [intOf]; omega⟩
            · have hpe : p = n := by omega
              subst hpe
              have HNX : Hid (EQ w w2 wa.heap.size p g c (.slice (some ⟨G, 0, none⟩) p xc) R3 (100 * ((k + 1 : Nat) : Int)) wr) :=
                ⟨hpw.bel, hpw.mid, hpw.left, hpw.sz, fun i j => by have := hpw.bds i j; omega⟩
              have HEN3 : Hid (∃ T, EvT p R3 T) := by
                obtain ⟨T, hT⟩ := HEV.out
                exact ⟨_, by rw [HR3.out]; exact take_even _ HSQ2.out.1 HSQ2.out.2 HOS.out hT⟩
              clear hpw
              go_wp2
              go_roundw
              case rel => exact ⟨k + 1, R3, by omega, by go_num, HNX.out, HEN3.out⟩
              case measure => simp [intOf]; omega
        · have HMT : Hid ((∃ g c, OM w.heap.size g c n n wb (.slice (some ⟨G, 0, none⟩) n xc) R2) ∧ SqN n R2 ∧ (∃ T, EvT n R2 T) ∧ Below w.heap.size w wb) :=
            ⟨⟨g, c, HEQ.out.left⟩, ⟨HEQ.out.left.num, HEQ.out.left.len, fun i j => by have := HEQ.out.bds i j; omega⟩, HEV.out, HEQ.out.bel⟩
          go_wp2
          go_ret
          exact ⟨_, R2, rfl, HMT.out⟩

end Go.Proofs.Ytmffbaclgbmnbaa
