import Derived.Test.YtalboihbomaobaaGreatRefA
import Derived.Test.YtalboihbomaobaaGreatMade1
import Derived.Test.YtalboihbomaobaaGreatOrdAll
import Derived.Test.YtalboihbomaobaaGreatHulY
/- Rows that lie in new blocks. -/
namespace Go.Proofs.YtalboihbomaobaaGreat
open Go.RowKit

/-- A slice that lies in no block below B. -/
def SlN (B : Nat) (w : World) (v : Value) (xs : List Value) : Prop := Sl 0 3 w v xs ∧ ∀ b o n c, v = .slice (some ⟨b, o, none⟩) n c → B ≤ b

theorem SlN.below {B N : Nat} {w w' : World} {v : Value} {xs : List Value} (h : SlN B w v xs) (hb : Below N w w') (hN : w.heap.size ≤ N) : SlN B w' v xs := ⟨h.1.below hb hN, h.2⟩
theorem SlN.alloc {B : Nat} {w : World} {v : Value} {xs : List Value} (h : SlN B w v xs) (o : Obj) : SlN B (w.alloc o) v xs := ⟨h.1.alloc o, h.2⟩
theorem SlN.mono {B B' : Nat} {w : World} {v : Value} {xs : List Value} (h : SlN B w v xs) (hB : B' ≤ B) : SlN B' w v xs := ⟨h.1, fun b o n c e => Nat.le_trans hB (h.2 b o n c e)⟩
theorem SlN.own {B n : Nat} {w : World} {v : Value} {l : List Int} (h : w.ownsRow B 3 1 v n (ints l)) : SlN B w v (ints l) := by
  refine ⟨Sl.own h, fun b o k c e => ?_⟩
  subst e
  exact (h.lt b rfl).1

def FrN (B : Nat) (w : World) (v : Value) (m : List (List Int)) : Prop :=
  ∃ vs, vs.length = m.length ∧ w.ownsRow B 22 1 v m.length vs ∧ ∀ i, i < m.length → SlN B w (vs.getD i (.slice none 0 0)) (ints (m.getD i []))

theorem FrN.fr {B : Nat} {w : World} {v : Value} {m : List (List Int)} (h : FrN B w v m) : Fr B 22 3 w v m := by
  obtain ⟨vs, h1, h2, h3⟩ := h
  exact ⟨vs, h1, h2, fun i hi => (h3 i hi).1⟩
theorem FrN.nil (B : Nat) (w : World) : FrN B w (.slice none 0 0) [] := ⟨[], rfl, World.ownsRow_nil _ _ _ _, fun i hi => absurd hi (by simp)⟩
theorem FrN.below {B N : Nat} {w w' : World} {v : Value} {m : List (List Int)} (h : FrN B w v m) (hb : Below N w w') (hN : w.heap.size ≤ N) : FrN B w' v m := by
  obtain ⟨vs, h1, h2, h3⟩ := h
  exact ⟨vs, h1, owns_below h2 hb hN, fun i hi => (h3 i hi).below hb hN⟩
theorem FrN.alloc {B : Nat} {w : World} {v : Value} {m : List (List Int)} (h : FrN B w v m) (o : Obj) : FrN B (w.alloc o) v m := by
  obtain ⟨vs, h1, h2, h3⟩ := h
  exact ⟨vs, h1, h2.alloc o, fun i hi => (h3 i hi).alloc o⟩
theorem FrN.push {B : Nat} {w w' : World} {v v' u : Value} {m : List (List Int)} {vs : List Value} {zs : List Int}
    (h1 : vs.length = m.length) (h2 : w.ownsRow B 22 1 v m.length vs) (h3 : ∀ i, i < m.length → SlN B w (vs.getD i (.slice none 0 0)) (ints (m.getD i []))) (hu : SlN B w u (ints zs))
    (ho : w'.ownsRow B 22 1 v' (m.length + 1) (vs ++ [u])) (hg : w.grownBy w' v.ownBlock) : FrN B w' v' (m ++ [zs]) := by
  have ht : ∀ k, v.ownBlock = some k → 0 ≤ k ∧ ∀ cur, w.heap[k]? ≠ some (.cells cur 3 (0, 0)) := fun k hk => ⟨Nat.zero_le _, (owns_typed h2 (by decide) k hk).2⟩
  refine ⟨vs ++ [u], by simp [h1], by simpa using ho, fun i hi => ?_⟩
  by_cases hlt : i < m.length
  · have e1' : (vs ++ [u]).getD i (.slice none 0 0) = vs.getD i (.slice none 0 0) := by
      simp only [List.getD_eq_getElem?_getD]; rw [List.getElem?_append_left (by omega)]
    have e2' : (m ++ [zs]).getD i [] = m.getD i [] := by
      simp only [List.getD_eq_getElem?_getD]; rw [List.getElem?_append_left (by omega)]
    rw [e1', e2']
    exact ⟨(h3 i hlt).1.grown hg ht, (h3 i hlt).2⟩
  · have hi' : i = m.length := by simp at hi; omega
    subst hi'
    have e1' : (vs ++ [u]).getD m.length (.slice none 0 0) = u := by
      rw [← h1]; simp
    have e2' : (m ++ [zs]).getD m.length [] = zs := by simp
    rw [e1', e2']
    exact ⟨hu.1.grown hg ht, hu.2⟩

end Go.Proofs.YtalboihbomaobaaGreat

/- Points whose rows are new. -/
namespace Go.Proofs.YtalboihbomaobaaGreat
open Go.RowKit
attribute [local go_sem ↓] Go.wp_at_zero Go.wp_at_succ

set_option maxRecDepth 100000 in
set_option maxHeartbeats 400000 in
theorem raw_big (B : Nat) (l : List Int) (v : Value) (i : Nat) (w : World) (hv : Sl B 3 w v (ints l)) (hr : ∀ z ∈ l, In64 z) (hl : l.length ≤ 9223372036854775807) (hi : i ≤ 1000000) :
    Calls Tryz.prog 29 #[v, .int .i64 i] w fun e w' => ∃ z, e = .returned (.int .i64 z) ∧ (0 ≤ z ∧ z ≤ 4611686018427387904) ∧ Below w.heap.size w w' := by
  obtain ⟨ao, cap, hvv, hlc, hcm⟩ := sl_open hv
  subst hvv
  by_cases h0 : l.length = 0
  · rw [h0]
    clear hv
    go_enter Tryz.func29, Tryz.ntmps29
    go_wp2
    go_ret
    exact ⟨_, rfl, by omega, Below.refl _ _⟩
  · have hk : i % l.length < l.length := Nat.mod_lt _ (by omega)
    obtain ⟨b, o, cp, hs, hc, hcc⟩ := sl_cell hv hk
    simp only [Value.slice.injEq] at hs
    obtain ⟨rfl, _, rfl⟩ := hs
    have hmem : l.getD (i % l.length) 0 ∈ l := by simp [hk]
    have hin : In64 (l.getD (i % l.length) 0) := hr _ hmem
    have HP : Hid (Calls Tryz.prog 4 #[.int .i64 (l.getD (i % l.length) 0), .int .i64 1000003] w.drew fun e w' => ∃ z, e = .returned (.int .i64 z) ∧ (0 ≤ z ∧ z < 1000003) ∧ w' = w.drew) := pick_any _ _ _ (by omega) (by omega) hin
    generalize hz : l.getD (i % l.length) 0 = z0 at *
    have hd0 : i / l.length ≤ 1000000 := Nat.le_trans (Nat.div_le_self _ _) hi
    have hq : (i : Int).tmod (l.length : Int) = ((i % l.length : Nat) : Int) := by rw [Int.tmod_eq_emod_of_nonneg (by omega)]; rfl
    have hqd : (i : Int).tdiv (l.length : Int) = ((i / l.length : Nat) : Int) := by rw [Int.tdiv_eq_ediv_of_nonneg (by omega)]; rfl
    clear hv hr hmem hin hz
    generalize i % l.length = k at *
    generalize i / l.length = q at *
    generalize l.length = n at *
    have hn0 : ¬ (n : Int) = 0 := by omega
    have hnb : ((n : Int) == 0) = false := by rw [beq_eq_false_iff_ne]; exact hn0
    have hk0 : (0 : Int) ≤ (k : Int) := by omega
    have hkn : (k : Int) < (n : Int) := by omega
    go_enter Tryz.func29, Tryz.ntmps29
    go_wp2
    go_region_law (refine step_call2 (o := { dst := some 17, op := _, type := _, pos := _, after := _, guard := _ }) (by rfl) 4 _ _ 3 3 (by rfl) _ _ (by rfl) (by rfl) ⟨_, Tryz.func4, by rfl, by rfl⟩ ?_; refine (HP.out).mono ?_; rintro e w2 ⟨z, rfl, hz, rfl⟩; refine ⟨_, rfl, ?_⟩; have hz1 := hz.1; have hz2 := hz.2; clear hz)
    all_goals
      have e1 : IntKind.i64.wrap (z + IntKind.i64.wrap (IntKind.i64.wrap (q : Int) * 7919)) = z + q * 7919 := by
        rw [IntWalk.i64_left, IntWalk.i64_left, IntWalk.i64_left, IntWalk.wrap64_in (q : Int) ⟨by omega, by omega⟩, IntWalk.wrap64_in ((q : Int) * 7919) ⟨by omega, by omega⟩, IntWalk.wrap64_in _ ⟨by omega, by omega⟩]
      go_wp2
      go_ret
      exact ⟨_, rfl, by rw [e1]; omega, Below.drew (Below.refl _ _)⟩

set_option maxRecDepth 100000 in
set_option maxHeartbeats 1600000 in
theorem pointsOf_new (B : Nat) (l : List Int) (v : Value) (fr n many wd : Nat) (w : World) (hv : Sl B 3 w v (ints l)) (hr : ∀ z ∈ l, In64 z) (hl : l.length ≤ 9223372036854775807) (hfr : fr ≤ 1000) (hn : n ≤ 100) (hmy : many ≤ 100) (hwd : wd ≤ 1000000) :
    Calls Tryz.prog 16 #[v, .int .i64 fr, .int .i64 n, .int .i64 many, .int .i64 wd] w fun e w' => ∃ x m, e = .returned x ∧ m.length = many ∧ Box n wd m ∧ FrN w.heap.size w' x m ∧ Below w.heap.size w w' := by
  obtain ⟨i0, hi, hz0, hz1, hz2⟩ := info_parts Tryz.info22
  obtain ⟨i3, hi3, hz30, hz31, hz32⟩ := info_parts Tryz.info3
  obtain ⟨ao, cap, hvv, hlc, hcm⟩ := sl_open hv
  subst hvv
  have HV : Hid (Sl B 3 w (.slice ao l.length cap) (ints l)) := hv
  have HR : Hid (∀ z ∈ l, In64 z) := hr
  have HLL : Hid (l.length ≤ 9223372036854775807) := hl
  clear hv hr hl
  go_enter Tryz.func16, Tryz.ntmps16
  go_wp2
  go_loopw [11, 12] (fun x i wr => ∃ (k : Nat) (m : List (List Int)), k ≤ many ∧ i = .int .i64 k ∧ m.length = k ∧ Box n wd m ∧ FrN w.heap.size wr x m ∧ Below w.heap.size w wr) (fun _ i _ => many - (intOf i).toNat)
  case atStart => exact ⟨0, [], Nat.zero_le _, rfl, rfl, (fun r hr => absurd hr (by simp)), FrN.nil _ _, Below.refl _ _⟩
  case round =>
    obtain ⟨k, m, hk, rfl, hml, hbx, hrw, hbel⟩ := hrel
    obtain ⟨wa, rfl⟩ : ∃ wa, wa = wr := ⟨wr, rfl⟩
    have HML : Hid (m.length = k) := hml
    have HBX : Hid (Box n wd m) := hbx
    have HRW : Hid (FrN w.heap.size wa u11 m) := hrw
    have HB : Hid (Below w.heap.size w wa) := hbel
    have hsz : w.heap.size ≤ wa.heap.size := hbel.size
    clear hrw hbel hml hbx
    by_cases hlt : k < many
    · have HVa : Hid (Sl B 3 wa (.slice ao l.length cap) (ints l)) := HV.out.below HB.out (Nat.le_refl _)
      have hkn : k * n ≤ 10000 := Nat.le_trans (Nat.mul_le_mul (show k ≤ 100 by omega) hn) (by decide)
      obtain ⟨kn, hkne⟩ : ∃ kn, kn = k * n := ⟨_, rfl⟩
      have hkI : (k : Int) * (n : Int) = (kn : Int) := by rw [hkne]; simp
      rw [← hkne] at hkn
      clear hkne
      obtain ⟨M, hM⟩ : ∃ M, M = wa.heap.size := ⟨_, rfl⟩
      have HM : Hid (M = wa.heap.size) := hM
      have hMs : w.heap.size ≤ M := by omega
      clear hM
      go_wp2
      go_loopw [13, 14] (fun x i wq => ∃ (j : Nat) (r : List Int), j ≤ n ∧ i = .int .i64 j ∧ r.length = j ∧ (∀ z ∈ r, -(wd : Int) ≤ z ∧ z ≤ wd) ∧ wq.ownsRow M 3 1 x j (ints r) ∧ Below M wa wq) (fun _ i _ => n - (intOf i).toNat)
      case atStart => exact ⟨0, [], Nat.zero_le _, rfl, rfl, (fun r hr => absurd hr (by simp)), World.ownsRow_nil _ _ _ _, Below.refl _ _⟩
      case round =>
        obtain ⟨j, r, hj, rfl, hrl, hrb, hown, hbel⟩ := hrel
        obtain ⟨wb, rfl⟩ : ∃ wb, wb = wr := ⟨wr, rfl⟩
        have HO : Hid (wb.ownsRow M 3 1 u13 j (ints r)) := hown
        have HBq : Hid (Below M wa wb) := hbel
        have HRL : Hid (r.length = j) := hrl
        have HRB : Hid (∀ z ∈ r, -(wd : Int) ≤ z ∧ z ≤ wd) := hrb
        have hszq : M ≤ wb.heap.size := by have := hbel.size; rw [HM.out]; exact this
        clear hown hbel hrl hrb
        obtain ⟨xo, xc, hxv⟩ := owns_form HO.out
        subst hxv
        by_cases hjl : j < n
        · have HVb : Hid (Sl B 3 wb (.slice ao l.length cap) (ints l)) := HVa.out.below HBq.out (by rw [HM.out]; exact Nat.le_refl _)
          have HIX : Hid ((fr : Int) + kn + j = ((fr + kn + j : Nat) : Int)) := by
            show _ = _
            omega
          go_wp2_with fail
          rw [HIX.out]
          refine (raw_big B l _ (fr + kn + j) wb HVb.out HR.out HLL.out (by omega)).mono ?_
          rintro e w1 ⟨c, rfl, hc, hb1⟩
          have HC : Hid (In64 c) := ⟨by have := hc.1; omega, by have := hc.2; omega⟩
          have HB1 : Hid (Below wb.heap.size wb w1) := hb1
          clear hc hb1
          go_wp2_with fail
          refine (pick_any c (2 * (wd : Int) + 1) w1 (by omega) (by omega) HC.out).mono ?_
          rintro e w2 ⟨z, rfl, hz, rfl⟩
          have hz1 := hz.1
          have hz2 := hz.2
          have HZ : Hid (-(wd : Int) ≤ z - wd ∧ z - wd ≤ wd) := ⟨by omega, by omega⟩
          have hzI : -1000000 ≤ z - wd := by omega
          have hzJ : z - wd ≤ 1000000 := by omega
          have HO1 : Hid (w2.ownsRow M 3 1 (.slice xo j xc) j (ints r)) := owns_below HO.out HB1.out (Nat.le_refl _)
          have HBq1 : Hid (Below M wa w2) := HBq.out.trans (HB1.out.mono hszq)
          have hsz2 : M ≤ w2.heap.size := Nat.le_trans hszq HB1.out.size
          clear hz HO HBq HB1 HC
          go_wp2_with (first | (at_builtin; refine wpList_append_own _ rfl _ _ 22 rfl M 3 i3 (.int .i64 0) 1 8 Tryz.underlying22 hi3 hz30 hz31 hz32 rfl (by decide) _ _ _ rfl (HO1.out.alloc _) ⟨w2.heap.size, 0, none⟩ 1 1 [.int .i64 (z - wd)] rfl rfl (one_new _ _ _) (one_int _) ?c3 ?c4 ?c5 ?_))
          case c3 => unfold maxLen; omega
          case c4 => omega
          case c5 => simp; omega
          intro v' w3 ho hg _
          have R := owns_push (z := z - wd) (N := j + 1) hsz2 (l := r) (by rw [HRL.out]; exact HO1.out) HBq1.out (by rw [HRL.out]; exact ho) hg (by rw [HRL.out])
          have R1 : Hid (w3.ownsRow M 3 1 v' (j + 1) (ints (r ++ [z - wd]))) := R.1
          have R2 : Hid (Below M wa w3) := R.2
          clear R ho hg
          go_wp2
          go_roundw
          case rel => exact ⟨j + 1, r ++ [z - wd], by omega, by go_num, by simp [HRL.out], near_snoc HRB.out HZ.out, R1.out, R2.out⟩
          case measure => simp [intOf]; omega
        · have hjn : j = n := by omega
          subst hjn
          have HX : Hid (SlN w.heap.size wb (.slice xo j xc) (ints r)) := (SlN.own HO.out).mono hMs
          have HRq : Hid (FrN w.heap.size wb u11 m) := HRW.out.below HBq.out (by rw [HM.out]; exact Nat.le_refl _)
          have HBw : Hid (Below w.heap.size w wb) := HB.out.trans (HBq.out.mono hMs)
          obtain ⟨vs, g1, g2, g3⟩ := HRq.out
          have hml := HML.out
          rw [hml] at g1 g2 g3
          have G1 : Hid (vs.length = k) := g1
          have G2 : Hid (wb.ownsRow w.heap.size 22 1 u11 k vs) := g2
          have G3 : Hid (∀ i, i < k → SlN w.heap.size wb (vs.getD i (.slice none 0 0)) (ints (m.getD i []))) := g3
          clear g1 g2 g3 hml HO hjl
          go_wp2_with (first | (at_builtin; refine wpList_append_own _ rfl _ _ 25 rfl w.heap.size 22 i0 (.slice none 0 0) 1 24 Tryz.underlying25 hi hz0 hz1 hz2 rfl (by decide) _ _ _ rfl (G2.out.alloc _) ⟨wb.heap.size, 0, none⟩ 1 1 [.slice xo j xc] rfl rfl (one_new _ _ _) (one_slice _ _ _) ?d3 ?d4 ?d5 ?_))
          case d3 => unfold maxLen; omega
          case d4 => omega
          case d5 => simp; omega
          intro v' w3 ho hg _
          have R1 : Hid (FrN w.heap.size w3 v' (m ++ [r])) :=
            FrN.push (m := m) (u := .slice xo j xc) (zs := r) (by rw [HML.out]; exact G1.out) (by rw [HML.out]; exact G2.out.alloc _)
              (fun i hi => (G3.out i (by rw [HML.out] at hi; exact hi)).alloc _) (HX.out.alloc _) (by rw [HML.out]; exact ho) hg
          have R2 : Hid (Below w.heap.size w w3) := (HBw.out.alloc (by omega) _).grown hg (by simp; omega) (fun x hx => (G2.out.lt x hx).1)
          clear ho hg
          go_wp2
          go_roundw
          case rel => exact ⟨k + 1, m ++ [r], by omega, by go_num, by simp [HML.out], HBX.out.snoc HRL.out HRB.out, R1.out, R2.out⟩
          case measure => simp [intOf]; omega
    · have hkm : k = many := by omega
      subst hkm
      clear hlt
      go_wp2
      go_ret
      exact ⟨_, m, rfl, HML.out, HBX.out, HRW.out, HB.out⟩


end Go.Proofs.YtalboihbomaobaaGreat

/- The polytope of raw numbers, from a place on. -/
namespace Go.Proofs.YtalboihbomaobaaGreat
open Go.RowKit
attribute [local go_sem ↓] Go.wp_at_zero Go.wp_at_succ

set_option maxRecDepth 100000 in
set_option maxHeartbeats 3200000 in
theorem polytopeOfF_any (B : Nat) (l : List Int) (v : Value) (fr n many wd : Nat) (w : World) (hv : Sl B 3 w v (ints l)) (hr : ∀ z ∈ l, In64 z) (hl : l.length ≤ 9223372036854775807) (hfr : fr ≤ 1000) (hn1 : 1 ≤ n) (hn : n ≤ 4) (hmy : many ≤ 10) (hwd : wd ≤ 100) :
    Calls Tryz.prog 6 #[v, .int .i64 fr, .int .i64 n, .int .i64 many, .int .i64 wd] w fun e w' => ∃ x m, e = .returned (.agg #[.int .i64 n, x]) ∧ m.length = many ∧ Box n wd m ∧ Mat w'.heap.size 22 3 w' x (polyL n m) ∧ Below w.heap.size w w' := by
  obtain ⟨i0, hi, hz0, hz1, hz2⟩ := info_parts Tryz.info22
  obtain ⟨ao, cap, hvv, hlc, hcm⟩ := sl_open hv
  subst hvv
  have HV : Hid (Sl B 3 w (.slice ao l.length cap) (ints l)) := hv
  have HR : Hid (∀ z ∈ l, In64 z) := hr
  have HL : Hid (l.length ≤ 9223372036854775807) := hl
  clear hv hr hl
  have hmk := run_make_row' (P := Tryz.prog) 22 3 (.int .i64 0) 8 Tryz.underlying22 Tryz.info3 rfl .i64 .i64 n (by omega) (by omega)
  go_enter Tryz.func6, Tryz.ntmps6
  go_wp2_with fail
  obtain ⟨w1, hw1⟩ : ∃ w1, w1 = w.alloc (.cells #[.int .i64 0, .slice none 0 0] 27) := ⟨_, rfl⟩
  rw [← hw1]
  have hs1 : w1.heap.size = w.heap.size + 1 := by rw [hw1]; simp
  have HS1 : Hid (w1.heap.size = w.heap.size + 1) := hs1
  have HB1 : Hid (Below w.heap.size w w1) := by rw [hw1]; exact (Below.refl _ _).alloc (Nat.le_refl _) _
  have HK1 : Hid (w1.heap[w.heap.size]? = some (.cells #[.int .i64 0, .slice none 0 0] 27 (0, 0))) := by rw [hw1]; exact alloc_at _ _
  have HV1 : Hid (Sl B 3 w1 (.slice ao l.length cap) (ints l)) := HV.out.below HB1.out (Nat.le_refl _)
  clear hw1 hs1
  refine (pointsOf_new B l _ fr n many wd w1 HV1.out HR.out HL.out (by omega) (by omega) (by omega) (by omega)).mono ?_
  rintro e w2 ⟨x, m, rfl, hml, hbx, hrwN, hb2⟩
  have hrw := hrwN.fr
  clear hrwN
  have HML : Hid (m.length = many) := hml
  have HBX : Hid (Box n wd m) := hbx
  obtain ⟨xo, xc, hxv, _, _⟩ := mat_open (hrw.rws.mat (Nat.le_refl _))
  subst hxv
  obtain ⟨N, hN⟩ : ∃ N, N = w1.heap.size := ⟨_, rfl⟩
  obtain ⟨R, hRe⟩ : ∃ R, R = w2.heap.size := ⟨_, rfl⟩
  have HNE : Hid (N = w1.heap.size) := hN
  have hps : PS N R n w1 (w2.alloc (.cells #[.int .i64 n, .slice xo m.length xc] 27)) (.slice xo m.length xc) m := by
    rw [hN, hRe]
    exact ⟨alloc_at _ _, hrw.alloc _, hb2.alloc hb2.size _, hb2.size⟩
  obtain ⟨w3, hw3⟩ : ∃ w3, w3 = w2.alloc (.cells #[.int .i64 n, .slice xo m.length xc] 27) := ⟨_, rfl⟩
  rw [← hw3] at hps
  have HPS : Hid (PS N R n w1 w3 (.slice xo m.length xc) m) := hps
  rw [hml] at hw3 HPS ⊢
  clear hml hbx hrw hb2 hps hN
  go_wp2
  rw [← hw3, ← hRe]
  clear hw3 hRe
  have c1 : w3.cell? ⟨R, 1, none⟩ = some (.slice xo many xc) := by simp [World.cell?, HPS.out.pol]
  obtain ⟨Wm, hWm⟩ : ∃ Wm, Wm = w3.drew.alloc (.cells (madeCells #[.int .i64 0] n) 3) := ⟨_, rfl⟩
  have hbm : Below w3.heap.size w3 Wm := by rw [hWm]; exact (Below.drew (Below.refl _ _)).alloc (Nat.le_refl _) _
  have hsm : Wm.heap.size = w3.heap.size + 1 := by rw [hWm]; show (w3.alloc _).heap.size = _; simp
  have HPM : Hid (PS N R n w1 Wm (.slice xo many xc) m) := HPS.out.step hbm
  have HXZ : Hid (Sl 0 3 Wm (.slice (some ⟨w3.heap.size, 0, none⟩) n n) (ints (zerosL n))) := by
    have hrow : Wm.rowIs w3.heap.size 3 n (fun _ => .int .i64 0) := by rw [hWm]; exact World.rowIs_made w3.drew (.int .i64 0) n 3
    exact Sl.row hrow (by simp [zerosL]) (by unfold maxLen; omega) (fun i hi => by rw [ints_get _ _ (by simpa [zerosL] using hi)]; simp [zerosL, hi])
  obtain ⟨vs, g1, g2, g3⟩ := HPM.out.rows
  have hml := HML.out
  have HG2 : Hid (Wm.ownsRow N 22 1 (.slice xo many xc) many vs) := by rw [← hml]; rw [← hml] at g2; exact g2
  have HPU : Hid (∀ v' w5, w5.ownsRow N 22 1 v' (many + 1) (vs ++ [.slice (some ⟨w3.heap.size, 0, none⟩) n n]) → (Wm.alloc (.cells #[.slice (some ⟨w3.heap.size, 0, none⟩) n n] 22)).grownBy w5 (Value.slice xo many xc).ownBlock →
      w5.cell? ⟨R, 1, none⟩ = some (.slice xo many xc) ∧ w5.frozen? ⟨R, 1, none⟩ = false ∧ PS N R n w1 (w5.setCell ⟨R, 1, none⟩ v') v' (m ++ [zerosL n])) := fun v' w5 ho hg => by
    have hp := HPM.out.push HXZ.out g1 g2 g3 (by rw [hml]; exact ho) hg
    exact ⟨by simp [World.cell?, hp.1], by simp [World.frozen?, hp.1], hp.2⟩
  have HNEW : Hid (∀ j u, [Value.slice (some ⟨w3.heap.size, 0, none⟩) n n][j]? = some u → (Wm.alloc (.cells #[.slice (some ⟨w3.heap.size, 0, none⟩) n n] 22)).cell? ((⟨w3.heap.size + 1, 0, none⟩ : Addr).add j) = some u) := by
    rw [← hsm]; exact one_new _ _ _
  have HNS : Hid (N ≤ (Wm.alloc (.cells #[.slice (some ⟨w3.heap.size, 0, none⟩) n n] 22)).heap.size) := by
    show _ ≤ _
    have h1 := HPM.out.bel.size
    have h2 := HNE.out
    simp; omega
  have c2 : (w3.alloc (.cells (madeCells #[.int .i64 0] n) 3)).cell? ⟨R, 1, none⟩ = some (.slice xo many xc) := (((Below.refl w3.heap.size w3).alloc (Nat.le_refl _) _).cell (lt_of_block HPS.out.pol)).trans c1
  have c3 : ((w3.alloc (.cells (madeCells #[.int .i64 0] n) 3)).alloc (.cells #[.slice (some ⟨w3.heap.size, 0, none⟩) n n] 22)).cell? ⟨R, 1, none⟩ = some (.slice xo many xc) := (((Below.refl _ (w3.alloc (.cells (madeCells #[.int .i64 0] n) 3))).alloc (Nat.le_refl _) _).cell (lt_of_cell c2)).trans c2
  have htm : many + 1 ≤ maxLen := by unfold maxLen; omega
  rw [hWm] at HG2 HPU HNEW HNS
  clear g1 g2 g3 hWm hbm hsm hml
  go_region_law (refine step_append_own (o := { dst := some 27, op := _, type := _, pos := _, after := _, guard := _ }) (by rfl) _ _ 25 (by rfl) N 22 i0 (.slice none 0 0) 1 24 Tryz.underlying25 hi hz0 hz1 hz2 rfl (by decide) _ _ _ (by rfl) (HG2.out.alloc _) ⟨w3.heap.size + 1, 0, none⟩ 1 1 [.slice (some ⟨w3.heap.size, 0, none⟩) n n] (by rfl) rfl HNEW.out (one_slice _ _ _) htm (by omega) HNS.out ?_; intro v' w5 ho hg; obtain ⟨vo, vc, hv'⟩ := owns_form ho; subst hv'; have FF : Hid _ := HPU.out _ w5 ho hg; have LS1 := FF.out.1; have LS2 := FF.out.2.1; clear ho hg)
  all_goals
    have HP0 : Hid (∃ x, PS N R n w1 (w5.setCell ⟨R, 1, none⟩ (.slice vo (many + 1) vc)) x (m ++ [zerosL n] ++ (List.range 0).map (spk n))) := ⟨_, by simpa using FF.out.2.2⟩
    clear FF LS1 LS2 c1 c2 c3
    go_wp2
    go_loopw [12] (fun i wr => ∃ k : Nat, k ≤ n ∧ i = .int .i64 k ∧ ∃ x, PS N R n w1 wr x (m ++ [zerosL n] ++ (List.range k).map (spk n))) (fun i _ => n - (intOf i).toNat)
    case atStart => exact ⟨0, Nat.zero_le _, rfl, HP0.out⟩
    case round =>
      obtain ⟨k, hk, rfl, x, hp⟩ := hrel
      have HP : Hid (PS N R n w1 wr x (m ++ [zerosL n] ++ (List.range k).map (spk n))) := hp
      have HLN : Hid ((m ++ [zerosL n] ++ (List.range k).map (spk n)).length = many + 1 + k) := by
        show _ = _
        simp [HML.out]; omega
      obtain ⟨yo, yc, hyv, _, _⟩ := mat_open (hp.rows.rws.mat (Nat.le_refl _))
      rw [HLN.out] at hyv
      subst hyv
      clear hp
      by_cases hkn : k < n
      · obtain ⟨Wq, hWq⟩ : ∃ Wq, Wq = wr.alloc (.cells ((madeCells #[.int .i64 0] n).setIfInBounds k (.int .i64 (1 + ((k % 2 : Nat) : Int)))) 3) := ⟨_, rfl⟩
        have hbq : Below wr.heap.size wr Wq := by rw [hWq]; exact (Below.refl _ _).alloc (Nat.le_refl _) _
        have hsq : Wq.heap.size = wr.heap.size + 1 := by rw [hWq]; simp
        have HPQ : Hid (PS N R n w1 Wq (.slice yo (many + 1 + k) yc) (m ++ [zerosL n] ++ (List.range k).map (spk n))) := HP.out.step hbq
        have HXK : Hid (Sl 0 3 Wq (.slice (some ⟨wr.heap.size, 0, none⟩) n n) (ints (spk n k))) := by
          have hrow : Wq.rowIs wr.heap.size 3 n (fun j => if j = k then .int .i64 (1 + ((k % 2 : Nat) : Int)) else .int .i64 0) := by
            have e : (wr.alloc (.cells (madeCells #[.int .i64 0] n) 3)).setCell ⟨wr.heap.size, k, none⟩ (.int .i64 (1 + ((k % 2 : Nat) : Int))) = Wq := by rw [hWq]; simp [go_sem]
            rw [← e]
            exact (World.rowIs_made wr (.int .i64 0) n 3).set k _
          refine Sl.row hrow (by simp [spk]) (by unfold maxLen; omega) (fun i hi => ?_)
          rw [ints_get _ _ (by simpa [spk] using hi)]
          by_cases e : i = k
          · subst e; simp [spk, hi]
          · simp [spk, hi, e]
        have hmc : (madeCells #[.int .i64 0] n)[k]? = some (.int .i64 0) := by
          rw [← Array.getElem?_toList, toList_madeCells_one]; simp [hkn]
        have hkm : (k : Int).tmod 2 = ((k % 2 : Nat) : Int) := by rw [Int.tmod_eq_emod_of_nonneg (by omega)]; rfl
        have hkI : (k : Int) < (n : Int) := by omega
        have hkI0 : (0 : Int) ≤ (k : Int) := by omega
        have hk2 : k % 2 < 2 := Nat.mod_lt _ (by decide)
        generalize hq2 : k % 2 = q2 at *
        have d1 : wr.cell? ⟨R, 1, none⟩ = some (.slice yo (many + 1 + k) yc) := by simp [World.cell?, HP.out.pol]
        have d2 : Wq.cell? ⟨R, 1, none⟩ = some (.slice yo (many + 1 + k) yc) := by simp [World.cell?, HPQ.out.pol]
        obtain ⟨vs2, g1, g2, g3⟩ := HPQ.out.rows
        have hln := HLN.out
        have G2 : Hid (Wq.ownsRow N 22 1 (.slice yo (many + 1 + k) yc) (many + 1 + k) vs2) := by rw [← hln]; rw [← hln] at g2; exact g2
        have HSN : Hid (m ++ [zerosL n] ++ (List.range (k + 1)).map (spk n) = m ++ [zerosL n] ++ (List.range k).map (spk n) ++ [spk n k]) := by
          show _ = _
          rw [List.range_succ, List.map_append]; simp
        have HPU2 : Hid (∀ v' w6, w6.ownsRow N 22 1 v' (many + 1 + k + 1) (vs2 ++ [.slice (some ⟨wr.heap.size, 0, none⟩) n n]) → (Wq.alloc (.cells #[.slice (some ⟨wr.heap.size, 0, none⟩) n n] 22)).grownBy w6 (Value.slice yo (many + 1 + k) yc).ownBlock →
            w6.cell? ⟨R, 1, none⟩ = some (.slice yo (many + 1 + k) yc) ∧ w6.frozen? ⟨R, 1, none⟩ = false ∧ PS N R n w1 (w6.setCell ⟨R, 1, none⟩ v') v' (m ++ [zerosL n] ++ (List.range (k + 1)).map (spk n))) := fun v' w6 ho hg => by
          have hp := HPQ.out.push HXK.out g1 g2 g3 (by rw [hln]; exact ho) hg
          rw [HSN.out]
          exact ⟨by simp [World.cell?, hp.1], by simp [World.frozen?, hp.1], hp.2⟩
        have HNEW2 : Hid (∀ j u, [Value.slice (some ⟨wr.heap.size, 0, none⟩) n n][j]? = some u → (Wq.alloc (.cells #[.slice (some ⟨wr.heap.size, 0, none⟩) n n] 22)).cell? ((⟨wr.heap.size + 1, 0, none⟩ : Addr).add j) = some u) := by
          rw [← hsq]; exact one_new _ _ _
        have HNS2 : Hid (N ≤ (Wq.alloc (.cells #[.slice (some ⟨wr.heap.size, 0, none⟩) n n] 22)).heap.size) := by
          show _ ≤ _
          have h1 := HPQ.out.bel.size
          have h2 := HNE.out
          simp; omega
        clear g1 g2 g3 hln hbq hsq HXK
        subst hWq
        go_wp2_with (first | (at_builtin; refine wpList_append_own _ rfl _ _ 25 rfl N 22 i0 (.slice none 0 0) 1 24 Tryz.underlying25 hi hz0 hz1 hz2 rfl (by decide) _ _ _ rfl (G2.out.alloc _) ⟨wr.heap.size + 1, 0, none⟩ 1 1 [.slice (some ⟨wr.heap.size, 0, none⟩) n n] rfl rfl HNEW2.out (one_slice _ _ _) ?d3 ?d4 ?d5 ?_))
        case d3 => unfold maxLen; omega
        case d4 => omega
        case d5 => exact HNS2.out
        intro v' w6 ho hg _
        obtain ⟨vo2, vc2, hv2⟩ := owns_form ho
        subst hv2
        have FF := HPU2.out _ w6 ho hg
        have LS1 := FF.1
        have LS2 := FF.2.1
        have HNX : Hid (PS N R n w1 (w6.setCell ⟨R, 1, none⟩ (.slice vo2 (many + 1 + k + 1) vc2)) (.slice vo2 (many + 1 + k + 1) vc2) (m ++ [zerosL n] ++ (List.range (k + 1)).map (spk n))) := FF.2.2
        clear ho hg FF
        go_wp2
        go_roundw
        case rel => exact ⟨k + 1, by omega, by go_num, _, HNX.out⟩
        case measure => simp [intOf]; omega
      · have hke : k = n := by omega
        subst hke
        have hpol := HP.out.pol
        have c0 : wr.cell? ⟨R, 0, none⟩ = some (.int .i64 k) := by simp [World.cell?, hpol]
        have c1 : wr.cell? ⟨R, 1, none⟩ = some (.slice yo (many + 1 + k) yc) := by simp [World.cell?, hpol]
        have hres : wr.heap[w.heap.size]? = some (.cells #[.int .i64 0, .slice none 0 0] 27 (0, 0)) := (HP.out.bel.block _ (by rw [HNE.out, HS1.out]; omega)).trans HK1.out
        have k0 : wr.cell? ⟨w.heap.size, 0, none⟩ = some (.int .i64 0) := by simp [World.cell?, hres]
        have k1 : wr.cell? ⟨w.heap.size, 1, none⟩ = some (.slice none 0 0) := by simp [World.cell?, hres]
        have f0 : wr.frozen? ⟨w.heap.size, 0, none⟩ = false := by simp [World.frozen?, hres]
        have f1 : wr.frozen? ⟨w.heap.size, 1, none⟩ = false := by simp [World.frozen?, hres]
        have HFIN : Hid (∀ a b : Value, Mat ((wr.setCell ⟨w.heap.size, 0, none⟩ a).setCell ⟨w.heap.size, 1, none⟩ b).heap.size 22 3 ((wr.setCell ⟨w.heap.size, 0, none⟩ a).setCell ⟨w.heap.size, 1, none⟩ b) (.slice yo (many + 1 + k) yc) (polyL k m) ∧ Below w.heap.size w ((wr.setCell ⟨w.heap.size, 0, none⟩ a).setCell ⟨w.heap.size, 1, none⟩ b)) := fun a b => by
          have e1 : ((wr.setCell ⟨w.heap.size, 0, none⟩ a).setCell ⟨w.heap.size, 1, none⟩ b).heap.size = wr.heap.size := by simp [World.setCell]
          have g0 : (wr.setCell ⟨w.heap.size, 0, none⟩ a).heap[w.heap.size]? = some (.cells #[a, .slice none 0 0] 27 (0, 0)) := by simp [World.setCell, Array.getElem?_modify, hres]
          have kk : ∀ e, e ≠ 27 → ∀ cur, wr.heap[w.heap.size]? ≠ some (.cells cur e (0, 0)) := by
            intro e he cur; rw [hres]; simp; intro _ h; exact absurd h.symm he
          have kk2 : ∀ e, e ≠ 27 → ∀ cur, (wr.setCell ⟨w.heap.size, 0, none⟩ a).heap[w.heap.size]? ≠ some (.cells cur e (0, 0)) := by
            intro e he cur; rw [g0]; simp; intro _ h; exact absurd h.symm he
          obtain ⟨us, u1, u2, u3⟩ := HP.out.rows
          have hN : w.heap.size < N := by rw [HNE.out, HS1.out]; omega
          refine ⟨⟨us, u1, ?_, fun i hi => ?_⟩, ?_⟩
          · exact Sl.any (B := 0) (((Sl.own (B := 0) u2).setCell _ ⟨Nat.zero_le _, kk 22 (by decide)⟩).setCell _ ⟨Nat.zero_le _, kk2 22 (by decide)⟩) (Nat.le_refl _)
          · exact Sl.any (B := 0) (((u3 i hi).setCell _ ⟨Nat.zero_le _, kk 3 (by decide)⟩).setCell _ ⟨Nat.zero_le _, kk2 3 (by decide)⟩) (Nat.le_refl _)
          · have hb : Below w.heap.size w wr := HB1.out.trans (HP.out.bel.mono (by omega))
            exact (hb.setCell (Nat.le_refl _) _).setCell (Nat.le_refl _) _
        go_wp2
        refine bodyPost_ret (v := .agg #[.int .i64 k, .slice yo (many + 1 + k) yc]) (by simp [results, Tryz.results6, go_sem, *]) rfl ?_
        exact ⟨_, m, rfl, HML.out, HBX.out, (HFIN.out _ _).1, (HFIN.out _ _).2⟩

end Go.Proofs.YtalboihbomaobaaGreat
