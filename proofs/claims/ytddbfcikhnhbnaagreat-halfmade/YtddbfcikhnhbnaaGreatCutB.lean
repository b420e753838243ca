import Derived.Test.YtddbfcikhnhbnaaGreatRefA
import Derived.Test.YtddbfcikhnhbnaaGreatMade1
import Derived.Test.YtddbfcikhnhbnaaGreatOrdAll
import Derived.Test.YtddbfcikhnhbnaaGreatEmp1
/- Rows that lie in new blocks. -/
namespace Go.Proofs.YtddbfcikhnhbnaaGreat
open Go.RowKit

/-- A slice that lies in no block below B. -/
def SlN (B : Nat) (w : World) (v : Value) (xs : List Value) : Prop := Sl 0 3 w v xs ∧ ∀ b o n c, v = .slice (some ⟨b, o, none⟩) n c → B ≤ b

theorem SlN.below {B N : Nat} {w w' : World} {v : Value} {xs : List Value} (h : SlN B w v xs) (hb : Below N w w') (hN : w.heap.size ≤ N) : SlN B w' v xs := ⟨h.1.below hb hN, h.2⟩
theorem SlN.alloc {B : Nat} {w : World} {v : Value} {xs : List Value} (h : SlN B w v xs) (o : Obj) : SlN B (w.alloc o) v xs := ⟨h.1.alloc o, h.2⟩
theorem SlN.mono {B B' : Nat} {w : World} {v : Value} {xs : List Value} (h : SlN B w v xs) (hB : B' ≤ B) : SlN B' w v xs := ⟨h.1, fun b o n c e => Nat.le_trans hB (h.2 b o n c e)⟩
theorem SlN.own {B n : Nat} {w : World} {v : Value} {l : List Int} (h : w.ownsRow B 3 1 v n (ints l)) : SlN B w v (ints l) := by
  refine ⟨Sl.own h, fun b o k c e => ?_⟩
  subst e
  exact (h.lt b rfl).1

def FrN (B : Nat) (w : World) (v : Value) (m : List (List Int)) : Prop :=
  ∃ vs, vs.length = m.length ∧ w.ownsRow B 22 1 v m.length vs ∧ ∀ i, i < m.length → SlN B w (vs.getD i (.slice none 0 0)) (ints (m.getD i []))

theorem FrN.fr {B : Nat} {w : World} {v : Value} {m : List (List Int)} (h : FrN B w v m) : Fr B 22 3 w v m := by
  obtain ⟨vs, h1, h2, h3⟩ := h
  exact ⟨vs, h1, h2, fun i hi => (h3 i hi).1⟩
theorem FrN.nil (B : Nat) (w : World) : FrN B w (.slice none 0 0) [] := ⟨[], rfl, World.ownsRow_nil _ _ _ _, fun i hi => absurd hi (by simp)⟩
theorem FrN.below {B N : Nat} {w w' : World} {v : Value} {m : List (List Int)} (h : FrN B w v m) (hb : Below N w w') (hN : w.heap.size ≤ N) : FrN B w' v m := by
  obtain ⟨vs, h1, h2, h3⟩ := h
  exact ⟨vs, h1, owns_below h2 hb hN, fun i hi => (h3 i hi).below hb hN⟩
theorem FrN.alloc {B : Nat} {w : World} {v : Value} {m : List (List Int)} (h : FrN B w v m) (o : Obj) : FrN B (w.alloc o) v m := by
  obtain ⟨vs, h1, h2, h3⟩ := h
  exact ⟨vs, h1, h2.alloc o, fun i hi => (h3 i hi).alloc o⟩
theorem FrN.push {B : Nat} {w w' : World} {v v' u : Value} {m : List (List Int)} {vs : List Value} {zs : List Int}
    (h1 : vs.length = m.length) (h2 : w.ownsRow B 22 1 v m.length vs) (h3 : ∀ i, i < m.length → SlN B w (vs.getD i (.slice none 0 0)) (ints (m.getD i []))) (hu : SlN B w u (ints zs))
    (ho : w'.ownsRow B 22 1 v' (m.length + 1) (vs ++ [u])) (hg : w.grownBy w' v.ownBlock) : FrN B w' v' (m ++ [zs]) := by
  have ht : ∀ k, v.ownBlock = some k → 0 ≤ k ∧ ∀ cur, w.heap[k]? ≠ some (.cells cur 3 (0, 0)) := fun k hk => ⟨Nat.zero_le _, (owns_typed h2 (by decide) k hk).2⟩
  refine ⟨vs ++ [u], by simp [h1], by simpa using ho, fun i hi => ?_⟩
  by_cases hlt : i < m.length
  · have e1' : (vs ++ [u]).getD i (.slice none 0 0) = vs.getD i (.slice none 0 0) := by
      simp only [List.getD_eq_getElem?_getD]; rw [List.getElem?_append_left (by omega)]
    have e2' : (m ++ [zs]).getD i [] = m.getD i [] := by
      simp only [List.getD_eq_getElem?_getD]; rw [List.getElem?_append_left (by omega)]
    rw [e1', e2']
    exact ⟨(h3 i hlt).1.grown hg ht, (h3 i hlt).2⟩
  · have hi' : i = m.length := by simp at hi; omega
    subst hi'
    have e1' : (vs ++ [u]).getD m.length (.slice none 0 0) = u := by
      rw [← h1]; simp
    have e2' : (m ++ [zs]).getD m.length [] = zs := by simp
    rw [e1', e2']
    exact ⟨hu.1.grown hg ht, hu.2⟩

end Go.Proofs.YtddbfcikhnhbnaaGreat

/- Points whose rows are new. -/
namespace Go.Proofs.YtddbfcikhnhbnaaGreat
open Go.RowKit
attribute [local go_sem ↓] Go.wp_at_zero Go.wp_at_succ

set_option maxRecDepth 100000 in
set_option maxHeartbeats 400000 in
theorem raw_big (B : Nat) (l : List Int) (v : Value) (i : Nat) (w : World) (hv : Sl B 3 w v (ints l)) (hr : ∀ z ∈ l, In64 z) (hl : l.length ≤ 9223372036854775807) (hi : i ≤ 1000000) :
    Calls Tryz.prog 35 #[v, .int .i64 i] w fun e w' => ∃ z, e = .returned (.int .i64 z) ∧ (0 ≤ z ∧ z ≤ 4611686018427387904) ∧ Below w.heap.size w w' := by
  obtain ⟨ao, cap, hvv, hlc, hcm⟩ := sl_open hv
  subst hvv
  by_cases h0 : l.length = 0
  · rw [h0]
    clear hv
    go_enter Tryz.func35, Tryz.ntmps35
    go_wp2
    go_ret
    exact ⟨_, rfl, by omega, Below.refl _ _⟩
  · have hk : i % l.length < l.length := Nat.mod_lt _ (by omega)
    obtain ⟨b, o, cp, hs, hc, hcc⟩ := sl_cell hv hk
    simp only [Value.slice.injEq] at hs
    obtain ⟨rfl, _, rfl⟩ := hs
    have hmem : l.getD (i % l.length) 0 ∈ l := by simp [hk]
    have hin : In64 (l.getD (i % l.length) 0) := hr _ hmem
    have HP : Hid (Calls Tryz.prog 4 #[.int .i64 (l.getD (i % l.length) 0), .int .i64 1000003] w.drew fun e w' => ∃ z, e = .returned (.int .i64 z) ∧ (0 ≤ z ∧ z < 1000003) ∧ w' = w.drew) := pick_any _ _ _ (by omega) (by omega) hin
    generalize hz : l.getD (i % l.length) 0 = z0 at *
    have hd0 : i / l.length ≤ 1000000 := Nat.le_trans (Nat.div_le_self _ _) hi
    have hq : (i : Int).tmod (l.length : Int) = ((i % l.length : Nat) : Int) := by rw [Int.tmod_eq_emod_of_nonneg (by omega)]; rfl
    have hqd : (i : Int).tdiv (l.length : Int) = ((i / l.length : Nat) : Int) := by rw [Int.tdiv_eq_ediv_of_nonneg (by omega)]; rfl
    clear hv hr hmem hin hz
    generalize i % l.length = k at *
    generalize i / l.length = q at *
    generalize l.length = n at *
    have hn0 : ¬ (n : Int) = 0 := by omega
    have hnb : ((n : Int) == 0) = false := by rw [beq_eq_false_iff_ne]; exact hn0
    have hk0 : (0 : Int) ≤ (k : Int) := by omega
    have hkn : (k : Int) < (n : Int) := by omega
    go_enter Tryz.func35, Tryz.ntmps35
    go_wp2
    go_region_law (refine step_call2 (o := { dst := some 17, op := _, type := _, pos := _, after := _, guard := _ }) (by rfl) 4 _ _ 3 3 (by rfl) _ _ (by rfl) (by rfl) ⟨_, Tryz.func4, by rfl, by rfl⟩ ?_; refine (HP.out).mono ?_; rintro e w2 ⟨z, rfl, hz, rfl⟩; refine ⟨_, rfl, ?_⟩; have hz1 := hz.1; have hz2 := hz.2; clear hz)
    all_goals
      have e1 : IntKind.i64.wrap (z + IntKind.i64.wrap (IntKind.i64.wrap (q : Int) * 7919)) = z + q * 7919 := by
        rw [IntWalk.i64_left, IntWalk.i64_left, IntWalk.i64_left, IntWalk.wrap64_in (q : Int) ⟨by omega, by omega⟩, IntWalk.wrap64_in ((q : Int) * 7919) ⟨by omega, by omega⟩, IntWalk.wrap64_in _ ⟨by omega, by omega⟩]
      go_wp2
      go_ret
      exact ⟨_, rfl, by rw [e1]; omega, Below.drew (Below.refl _ _)⟩

set_option maxRecDepth 100000 in
set_option maxHeartbeats 1600000 in
theorem pointsOf_new (B : Nat) (l : List Int) (v : Value) (fr n many wd : Nat) (w : World) (hv : Sl B 3 w v (ints l)) (hr : ∀ z ∈ l, In64 z) (hl : l.length ≤ 9223372036854775807) (hfr : fr ≤ 1000) (hn : n ≤ 100) (hmy : many ≤ 100) (hwd : wd ≤ 1000000) :
    Calls Tryz.prog 17 #[v, .int .i64 fr, .int .i64 n, .int .i64 many, .int .i64 wd] w fun e w' => ∃ x m, e = .returned x ∧ m.length = many ∧ Box n wd m ∧ FrN w.heap.size w' x m ∧ Below w.heap.size w w' := by
  obtain ⟨i0, hi, hz0, hz1, hz2⟩ := info_parts Tryz.info22
  obtain ⟨i3, hi3, hz30, hz31, hz32⟩ := info_parts Tryz.info3
  obtain ⟨ao, cap, hvv, hlc, hcm⟩ := sl_open hv
  subst hvv
  have HV : Hid (Sl B 3 w (.slice ao l.length cap) (ints l)) := hv
  have HR : Hid (∀ z ∈ l, In64 z) := hr
  have HLL : Hid (l.length ≤ 9223372036854775807) := hl
  clear hv hr hl
  go_enter Tryz.func17, Tryz.ntmps17
  go_wp2
  go_loopw [11, 12] (fun x i wr => ∃ (k : Nat) (m : List (List Int)), k ≤ many ∧ i = .int .i64 k ∧ m.length = k ∧ Box n wd m ∧ FrN w.heap.size wr x m ∧ Below w.heap.size w wr) (fun _ i _ => many - (intOf i).toNat)
  case atStart => exact ⟨0, [], Nat.zero_le _, rfl, rfl, (fun r hr => absurd hr (by simp)), FrN.nil _ _, Below.refl _ _⟩
  case round =>
    obtain ⟨k, m, hk, rfl, hml, hbx, hrw, hbel⟩ := hrel
    obtain ⟨wa, rfl⟩ : ∃ wa, wa = wr := ⟨wr, rfl⟩
    have HML : Hid (m.length = k) := hml
    have HBX : Hid (Box n wd m) := hbx
    have HRW : Hid (FrN w.heap.size wa u11 m) := hrw
    have HB : Hid (Below w.heap.size w wa) := hbel
    have hsz : w.heap.size ≤ wa.heap.size := hbel.size
    clear hrw hbel hml hbx
    by_cases hlt : k < many
    · have HVa : Hid (Sl B 3 wa (.slice ao l.length cap) (ints l)) := HV.out.below HB.out (Nat.le_refl _)
      have hkn : k * n ≤ 10000 := Nat.le_trans (Nat.mul_le_mul (show k ≤ 100 by omega) hn) (by decide)
      obtain ⟨kn, hkne⟩ : ∃ kn, kn = k * n := ⟨_, rfl⟩
      have hkI : (k : Int) * (n : Int) = (kn : Int) := by rw [hkne]; simp
      rw [← hkne] at hkn
      clear hkne
      obtain ⟨M, hM⟩ : ∃ M, M = wa.heap.size := ⟨_, rfl⟩
      have HM : Hid (M = wa.heap.size) := hM
      have hMs : w.heap.size ≤ M := by omega
      clear hM
      go_wp2
      go_loopw [13, 14] (fun x i wq => ∃ (j : Nat) (r : List Int), j ≤ n ∧ i = .int .i64 j ∧ r.length = j ∧ (∀ z ∈ r, -(wd : Int) ≤ z ∧ z ≤ wd) ∧ wq.ownsRow M 3 1 x j (ints r) ∧ Below M wa wq) (fun _ i _ => n - (intOf i).toNat)
      case atStart => exact ⟨0, [], Nat.zero_le _, rfl, rfl, (fun r hr => absurd hr (by simp)), World.ownsRow_nil _ _ _ _, Below.refl _ _⟩
      case round =>
        obtain ⟨j, r, hj, rfl, hrl, hrb, hown, hbel⟩ := hrel
        obtain ⟨wb, rfl⟩ : ∃ wb, wb = wr := ⟨wr, rfl⟩
        have HO : Hid (wb.ownsRow M 3 1 u13 j (ints r)) := hown
        have HBq : Hid (Below M wa wb) := hbel
        have HRL : Hid (r.length = j) := hrl
        have HRB : Hid (∀ z ∈ r, -(wd : Int) ≤ z ∧ z ≤ wd) := hrb
        have hszq : M ≤ wb.heap.size := by have := hbel.size; rw [HM.out]; exact this
        clear hown hbel hrl hrb
        obtain ⟨xo, xc, hxv⟩ := owns_form HO.out
        subst hxv
        by_cases hjl : j < n
        · have HVb : Hid (Sl B 3 wb (.slice ao l.length cap) (ints l)) := HVa.out.below HBq.out (by rw [HM.out]; exact Nat.le_refl _)
          have HIX : Hid ((fr : Int) + kn + j = ((fr + kn + j : Nat) : Int)) := by
            show _ = _
            omega
          go_wp2_with fail
          rw [HIX.out]
          refine (raw_big B l _ (fr + kn + j) wb HVb.out HR.out HLL.out (by omega)).mono ?_
          rintro e w1 ⟨c, rfl, hc, hb1⟩
          have HC : Hid (In64 c) := ⟨by have := hc.1; omega, by have := hc.2; omega⟩
          have HB1 : Hid (Below wb.heap.size wb w1) := hb1
          clear hc hb1
          go_wp2_with fail
          refine (pick_any c (2 * (wd : Int) + 1) w1 (by omega) (by omega) HC.out).mono ?_
          rintro e w2 ⟨z, rfl, hz, rfl⟩
          have hz1 := hz.1
          have hz2 := hz.2
          have HZ : Hid (-(wd : Int) ≤ z - wd ∧ z - wd ≤ wd) := ⟨by omega, by omega⟩
          have hzI : -1000000 ≤ z - wd := by omega
          have hzJ : z - wd ≤ 1000000 := by omega
          have HO1 : Hid (w2.ownsRow M 3 1 (.slice xo j xc) j (ints r)) := owns_below HO.out HB1.out (Nat.le_refl _)
          have HBq1 : Hid (Below M wa w2) := HBq.out.trans (HB1.out.mono hszq)
          have hsz2 : M ≤ w2.heap.size := Nat.le_trans hszq HB1.out.size
          clear hz HO HBq HB1 HC
          go_wp2_with (first | (at_builtin; refine wpList_append_own _ rfl _ _ 22 rfl M 3 i3 (.int .i64 0) 1 8 Tryz.underlying22 hi3 hz30 hz31 hz32 rfl (by decide) _ _ _ rfl (HO1.out.alloc _) ⟨w2.heap.size, 0, none⟩ 1 1 [.int .i64 (z - wd)] rfl rfl (one_new _ _ _) (one_int _) ?c3 ?c4 ?c5 ?_))
          case c3 => unfold maxLen; omega
          case c4 => omega
          case c5 => simp; omega
          intro v' w3 ho hg _
          have R := owns_push (z := z - wd) (N := j + 1) hsz2 (l := r) (by rw [HRL.out]; exact HO1.out) HBq1.out (by rw [HRL.out]; exact ho) hg (by rw [HRL.out])
          have R1 : Hid (w3.ownsRow M 3 1 v' (j + 1) (ints (r ++ [z - wd]))) := R.1
          have R2 : Hid (Below M wa w3) := R.2
          clear R ho hg
          go_wp2
          go_roundw
          case rel => exact ⟨j + 1, r ++ [z - wd], by omega, by go_num, by simp [HRL.out], near_snoc HRB.out HZ.out, R1.out, R2.out⟩
          case measure => simp [intOf]; omega
        · have hjn : j = n := by omega
          subst hjn
          have HX : Hid (SlN w.heap.size wb (.slice xo j xc) (ints r)) := (SlN.own HO.out).mono hMs
          have HRq : Hid (FrN w.heap.size wb u11 m) := HRW.out.below HBq.out (by rw [HM.out]; exact Nat.le_refl _)
          have HBw : Hid (Below w.heap.size w wb) := HB.out.trans (HBq.out.mono hMs)
          obtain ⟨vs, g1, g2, g3⟩ := HRq.out
          have hml := HML.out
          rw [hml] at g1 g2 g3
          have G1 : Hid (vs.length = k) := g1
          have G2 : Hid (wb.ownsRow w.heap.size 22 1 u11 k vs) := g2
          have G3 : Hid (∀ i, i < k → SlN w.heap.size wb (vs.getD i (.slice none 0 0)) (ints (m.getD i []))) := g3
          clear g1 g2 g3 hml HO hjl
          go_wp2_with (first | (at_builtin; refine wpList_append_own _ rfl _ _ 25 rfl w.heap.size 22 i0 (.slice none 0 0) 1 24 Tryz.underlying25 hi hz0 hz1 hz2 rfl (by decide) _ _ _ rfl (G2.out.alloc _) ⟨wb.heap.size, 0, none⟩ 1 1 [.slice xo j xc] rfl rfl (one_new _ _ _) (one_slice _ _ _) ?d3 ?d4 ?d5 ?_))
          case d3 => unfold maxLen; omega
          case d4 => omega
          case d5 => simp; omega
          intro v' w3 ho hg _
          have R1 : Hid (FrN w.heap.size w3 v' (m ++ [r])) :=
            FrN.push (m := m) (u := .slice xo j xc) (zs := r) (by rw [HML.out]; exact G1.out) (by rw [HML.out]; exact G2.out.alloc _)
              (fun i hi => (G3.out i (by rw [HML.out] at hi; exact hi)).alloc _) (HX.out.alloc _) (by rw [HML.out]; exact ho) hg
          have R2 : Hid (Below w.heap.size w w3) := (HBw.out.alloc (by omega) _).grown hg (by simp; omega) (fun x hx => (G2.out.lt x hx).1)
          clear ho hg
          go_wp2
          go_roundw
          case rel => exact ⟨k + 1, m ++ [r], by omega, by go_num, by simp [HML.out], HBX.out.snoc HRL.out HRB.out, R1.out, R2.out⟩
          case measure => simp [intOf]; omega
    · have hkm : k = many := by omega
      subst hkm
      clear hlt
      go_wp2
      go_ret
      exact ⟨_, m, rfl, HML.out, HBX.out, HRW.out, HB.out⟩


end Go.Proofs.YtddbfcikhnhbnaaGreat

/- Which of n things a raw number speaks of. -/
namespace Go.Proofs.YtddbfcikhnhbnaaGreat
open Go.RowKit

def pickF (c n : Int) : Int := if c < 0 then (-(c + 1)) % n else c % n

theorem pickF_bd {c n : Int} (h : 1 ≤ n) : 0 ≤ pickF c n ∧ pickF c n < n := by
  unfold pickF
  split
  · exact ⟨Int.emod_nonneg _ (by omega), Int.emod_lt_of_pos _ (by omega)⟩
  · exact ⟨Int.emod_nonneg _ (by omega), Int.emod_lt_of_pos _ (by omega)⟩

set_option maxRecDepth 100000 in
set_option maxHeartbeats 400000 in
theorem pick_val (c n : Int) (w : World) (h1 : 1 ≤ n) (h2 : n ≤ 4611686018427387904) (hc : In64 c) :
    Calls Tryz.prog 4 #[.int .i64 c, .int .i64 n] w fun e w' => e = .returned (.int .i64 (pickF c n)) ∧ w' = w := by
  have c0 : -9223372036854775808 ≤ c := hc.1
  have c1 : c ≤ 9223372036854775807 := hc.2
  clear hc
  have hn0 : ¬ n = 0 := by omega
  by_cases hcn : c < 0
  · have HE : Hid (pickF c n = (-(c + 1)) % n) := if_pos hcn
    have e0 : (-(c + 1)).tmod n = (-(c + 1)) % n := Int.tmod_eq_emod_of_nonneg (by omega)
    have e1 := Int.emod_nonneg (-(c + 1)) hn0
    have e2 := Int.emod_lt_of_pos (-(c + 1)) (show 0 < n by omega)
    go_enter Tryz.func4, Tryz.ntmps4
    go_wp2
    go_ret
    exact ⟨by rw [HE.out]; rfl, rfl⟩
  · have HE : Hid (pickF c n = c % n) := if_neg hcn
    have e0 : c.tmod n = c % n := Int.tmod_eq_emod_of_nonneg (by omega)
    have e1 := Int.emod_nonneg c hn0
    have e2 := Int.emod_lt_of_pos c (show 0 < n by omega)
    go_enter Tryz.func4, Tryz.ntmps4
    go_wp2
    go_ret
    exact ⟨by rw [HE.out]; rfl, rfl⟩

end Go.Proofs.YtddbfcikhnhbnaaGreat

/- The fact that below -1 and above 0 there is nothing; lists of cuts. -/
namespace Go.Proofs.YtddbfcikhnhbnaaGreat
open Go.RowKit

theorem empT : empB 1 [[1, -1], [-1, 0]] = true := by decide +kernel
theorem empF : empB 1 [[1, 1], [-1, 0]] = false := by decide +kernel

theorem sl_two {w : World} {b : Nat} {t : TypeId} {x y : Value} (h : w.heap[b]? = some (.cells #[x, y] t (0, 0))) : Sl 0 t w (.slice (some ⟨b, 0, none⟩) 2 2) [x, y] := by
  refine ⟨some ⟨b, 0, none⟩, 2, rfl, by simp, by simp [maxLen], fun i hi => ⟨b, 0, rfl, ?_, .inr ⟨_, h⟩⟩, fun h => by cases h⟩
  have : i = 0 ∨ i = 1 := by simp at hi; omega
  rcases this with rfl | rfl <;> simp [World.cell?, h]

theorem mat_two {w : World} {g b c : Nat} {x0 x1 y0 y1 : Int} (hg : w.heap[g]? = some (.cells #[.slice (some ⟨b, 0, none⟩) 2 2, .slice (some ⟨c, 0, none⟩) 2 2] 22 (0, 0)))
    (hb : w.heap[b]? = some (.cells #[.int .i64 x0, .int .i64 x1] 3 (0, 0))) (hc : w.heap[c]? = some (.cells #[.int .i64 y0, .int .i64 y1] 3 (0, 0))) : Mat 0 22 3 w (.slice (some ⟨g, 0, none⟩) 2 2) [[x0, x1], [y0, y1]] := by
  refine ⟨[.slice (some ⟨b, 0, none⟩) 2 2, .slice (some ⟨c, 0, none⟩) 2 2], rfl, sl_two hg, fun i hi => ?_⟩
  have : i = 0 ∨ i = 1 := by simp at hi; omega
  rcases this with rfl | rfl
  · exact sl_two hb
  · exact sl_two hc

theorem threeB (w : World) (o1 o2 o3 : Obj) :
    ∃ W, W = ((w.alloc o1).alloc o2).alloc o3 ∧ W.heap[w.heap.size]? = some o1 ∧ W.heap[w.heap.size + 1]? = some o2 ∧ W.heap[w.heap.size + 1 + 1]? = some o3 ∧ W.heap.size = w.heap.size + 3 ∧ Below w.heap.size w W := by
  obtain ⟨w1, h1⟩ : ∃ w1, w1 = w.alloc o1 := ⟨_, rfl⟩
  obtain ⟨w2, h2⟩ : ∃ w2, w2 = w1.alloc o2 := ⟨_, rfl⟩
  have s1 : w1.heap.size = w.heap.size + 1 := by rw [h1]; exact size_alloc _ _
  have s2 : w2.heap.size = w.heap.size + 2 := by rw [h2, size_alloc]; omega
  have n1 : w1.heap[w.heap.size]? = some o1 := by rw [h1]; exact alloc_new _ _
  have n2 : w2.heap[w.heap.size + 1]? = some o2 := by rw [h2, ← s1]; exact alloc_new _ _
  have b1 : Below w.heap.size w w1 := by rw [h1]; exact alloc_keep _ _
  have b2 : Below w1.heap.size w1 w2 := by rw [h2]; exact alloc_keep _ _
  have b3 : Below w2.heap.size w2 (w2.alloc o3) := alloc_keep _ _
  refine ⟨w2.alloc o3, by rw [h2, h1], ?_, ?_, ?_, ?_, ?_⟩
  · rw [b3.block _ (by omega), b2.block _ (by omega)]; exact n1
  · rw [b3.block _ (by omega)]; exact n2
  · rw [show w.heap.size + 1 + 1 = w2.heap.size by omega]; exact alloc_new _ _
  · rw [size_alloc]; omega
  · exact (b1.trans (b2.mono (by omega))).trans (b3.mono (by omega))

theorem cut_two {x0 x1 y0 y1 : Int} (h0 : x0.natAbs ≤ 20) (h1 : x1.natAbs ≤ 20) (h2 : y0.natAbs ≤ 20) (h3 : y1.natAbs ≤ 20) : CutOk 1 [[x0, x1], [y0, y1]] := by
  refine ⟨by omega, by omega, by simp, fun r hr => ?_, fun r hr z hz => ?_⟩
  · simp at hr; rcases hr with rfl | rfl <;> rfl
  · simp at hr; rcases hr with rfl | rfl <;> simp at hz <;> rcases hz with rfl | rfl <;> assumption

theorem emptyTwo (w : World) (x0 x1 y0 y1 : Int) (h0 : x0.natAbs ≤ 20) (h1 : x1.natAbs ≤ 20) (h2 : y0.natAbs ≤ 20) (h3 : y1.natAbs ≤ 20) :
    Calls Tryz.prog 10 #[.agg #[.int .i64 1, .slice (some ⟨w.heap.size + 1 + 1, 0, none⟩) 2 2]] (((w.alloc (.cells #[.int .i64 x0, .int .i64 x1] 3)).alloc (.cells #[.int .i64 y0, .int .i64 y1] 3)).alloc (.cells #[.slice (some ⟨w.heap.size, 0, none⟩) 2 2, .slice (some ⟨w.heap.size + 1, 0, none⟩) 2 2] 22)) fun e w' =>
      e = .returned (.tuple #[.bool (empB 1 [[x0, x1], [y0, y1]]), .int .i64 0]) ∧ Below w.heap.size w w' := by
  obtain ⟨W, hW, e1, e2, e3, hs, hb⟩ := threeB w (.cells #[.int .i64 x0, .int .i64 x1] 3) (.cells #[.int .i64 y0, .int .i64 y1] 3) (.cells #[.slice (some ⟨w.heap.size, 0, none⟩) 2 2, .slice (some ⟨w.heap.size + 1, 0, none⟩) 2 2] 22)
  rw [← hW]
  have h := empty_ok 1 [[x0, x1], [y0, y1]] (.slice (some ⟨w.heap.size + 1 + 1, 0, none⟩) 2 2) W ((mat_two e3 e1 e2).more (Nat.zero_le _)) (cut_two h0 h1 h2 h3)
  exact h.mono fun e w' ⟨h1, h2⟩ => ⟨h1, hb.trans (h2.mono hb.size)⟩

end Go.Proofs.YtddbfcikhnhbnaaGreat

/- Lists of cuts, and rows put together, in memory. -/
namespace Go.Proofs.YtddbfcikhnhbnaaGreat
open Go.RowKit

theorem Tryz.info27 : (Tryz.prog.info? 27).map (fun i => (i.zero, i.size, i.bytes)) = some (some (.agg #[.int .i64 0, .slice none 0 0]), 2, 32) := by kernel_rfl

def cutVs (vs : List Value) : List Value := vs.flatMap fun x => [.int .i64 2, x]

theorem cutVs_snoc (vs : List Value) (x : Value) : cutVs (vs ++ [x]) = cutVs vs ++ [.int .i64 2, x] := by simp [cutVs]

theorem cutVs_at : ∀ (vs : List Value) (j : Nat) (x : Value), vs[j]? = some x → (cutVs vs)[j * 2 + 1]? = some x
  | [], j, x, h => by simp at h
  | v :: vs, 0, x, h => by simpa [cutVs] using h
  | v :: vs, j + 1, x, h => by
    have := cutVs_at vs j x (by simpa using h)
    rw [show (j + 1) * 2 + 1 = (j * 2 + 1) + 2 by omega]
    simpa [cutVs] using this

/-- A list of cuts of the call's own. -/
structure Cts (w : World) (base : Nat) (v : Value) (vs : List Value) (L : List (List (List Int))) : Prop where
  own : w.ownsRow base 27 2 v vs.length (cutVs vs)
  len : L.length = vs.length
  mat : ∀ i, i < vs.length → Mat 0 22 3 w (vs.getD i (.slice none 0 0)) (L.getD i [])
  box : ∀ i, i < vs.length → (L.getD i []).length = 2 ∧ Box 3 4 (L.getD i [])

theorem mat_typed {w w' : World} {v : Value} {m : List (List Int)} (h : Mat 0 22 3 w v m) (hk : ∀ (b : Nat) (cur : Array Value) (t : TypeId), (t = 22 ∨ t = 3) → w.heap[b]? = some (Obj.cells cur t (0, 0)) → w'.heap[b]? = w.heap[b]?) : Mat 0 22 3 w' v m := by
  obtain ⟨vs, h1, h2, h3⟩ := h
  refine ⟨vs, h1, h2.move fun b hl ht => ⟨?_, ht⟩, fun i hi => (h3 i hi).move fun b hl ht => ⟨?_, ht⟩⟩
  · rcases ht with ht | ⟨c, ht⟩
    · omega
    · exact hk b c _ (.inl rfl) ht
  · rcases ht with ht | ⟨c, ht⟩
    · omega
    · exact hk b c _ (.inr rfl) ht

theorem owns_typed2 {B z : Nat} {e : TypeId} {w : World} {v : Value} {n : Nat} {xs : List Value} (h : w.ownsRow B e z v n xs) :
    ∀ k, v.ownBlock = some k → B ≤ k ∧ ∃ cur, w.heap[k]? = some (.cells cur e (0, 0)) := by
  intro k hk
  obtain ⟨_, h2⟩ := h
  rcases h2 with ⟨rfl, rfl⟩ | ⟨g, cap, cur, rfl, hg, hh, _⟩
  · simp [Value.ownBlock] at hk
  · simp [Value.ownBlock] at hk
    subst hk
    exact ⟨hg, cur, hh⟩

theorem Cts.below {w w' : World} {base N : Nat} {v : Value} {vs : List Value} {L : List (List (List Int))} (h : Cts w base v vs L) (hb : Below N w w') (hN : w.heap.size ≤ N) : Cts w' base v vs L :=
  ⟨h.own.kept (row := none) ⟨hb.os, hb.tape, hb.output, hb.size, fun k hk _ => hb.block k (by omega)⟩ (by cases hv : v.ownBlock <;> simp), h.len, fun i hi => (h.mat i hi).below hb hN, h.box⟩

theorem Cts.nil (w : World) (base : Nat) : Cts w base (.slice none 0 0) [] [] :=
  ⟨World.ownsRow_nil _ _ _ _, rfl, fun i hi => absurd hi (by simp), fun i hi => absurd hi (by simp)⟩

theorem fr_mat {B : Nat} {w : World} {v : Value} {m : List (List Int)} (h : Fr B 22 3 w v m) : Mat 0 22 3 w v m := by
  obtain ⟨vs, h1, h2, h3⟩ := h
  exact ⟨vs, h1, Sl.own h2, h3⟩

theorem getD_left {α : Type} {a b : List α} {i : Nat} {d : α} (h : i < a.length) : (a ++ b).getD i d = a.getD i d := by
  simp only [List.getD_eq_getElem?_getD]; rw [List.getElem?_append_left h]

theorem getD_right {α : Type} {a b : List α} {i : Nat} {d : α} (h : a.length ≤ i) : (a ++ b).getD i d = b.getD (i - a.length) d := by
  simp only [List.getD_eq_getElem?_getD]; rw [List.getElem?_append_right h]

/-- One cut more. -/
theorem Cts.push {w w3 : World} {base : Nat} {v v' x : Value} {vs : List Value} {L : List (List (List Int))} {m : List (List Int)} (h : Cts w base v vs L) (hx : Mat 0 22 3 w x m) (hm : m.length = 2) (hbx : Box 3 4 m)
    (ho : w3.ownsRow base 27 2 v' (vs.length + 1) (cutVs vs ++ [.int .i64 2, x])) (hg : (w.alloc (.cells #[.int .i64 2, x] 27)).grownBy w3 v.ownBlock) : Cts w3 base v' (vs ++ [x]) (L ++ [m]) := by
  have hmv : ∀ {y : Value} {q : List (List Int)}, Mat 0 22 3 w y q → Mat 0 22 3 w3 y q := fun hq => mat_typed hq fun b cur t ht hb => by
    have hl := (Array.getElem?_eq_some_iff.1 hb).1
    refine (hg.block b (by simp; omega) (fun e => ?_)).trans (Below.heap_alloc _ _ _ hl)
    obtain ⟨_, c2, h2⟩ := owns_typed2 h.own b e.symm
    rw [h2] at hb
    cases hb
    rcases ht with ht | ht <;> exact absurd ht (by decide)
  have hl := h.len
  refine ⟨by rw [cutVs_snoc]; simpa using ho, by simp [hl], fun i hi => ?_, fun i hi => ?_⟩
  · by_cases e : i < vs.length
    · rw [getD_left e, getD_left (by omega)]; exact hmv (h.mat i e)
    · have : i = vs.length := by simp at hi; omega
      subst this
      rw [getD_right (Nat.le_refl _), getD_right (by omega), hl]
      simpa using hmv hx
  · by_cases e : i < vs.length
    · rw [getD_left (by omega)]; exact h.box i e
    · have : i = vs.length := by simp at hi; omega
      subst this
      rw [getD_right (by omega), hl]
      simpa using ⟨hm, hbx⟩

/-- Where the rows of a cut lie. -/
theorem Cts.cell {w : World} {base : Nat} {v : Value} {vs : List Value} {L : List (List (List Int))} (h : Cts w base v vs L) {j : Nat} (hj : j < vs.length) :
    ∃ g cap, v = .slice (some ⟨g, 0, none⟩) vs.length cap ∧ vs.length ≤ cap ∧ w.cell? ⟨g, j * 2 + 1, none⟩ = some (vs.getD j (.slice none 0 0)) := by
  obtain ⟨h1, h2⟩ := h.own
  rcases h2 with ⟨rfl, h0⟩ | ⟨g, cap, cur, rfl, hg, hh, hn, hc, hs, ht⟩
  · omega
  · refine ⟨g, cap, rfl, hn, ?_⟩
    have hx : vs[j]? = some (vs.getD j (.slice none 0 0)) := by simp [hj]
    have := cutVs_at vs j _ hx
    rw [← ht, List.getElem?_take] at this
    split at this
    · simp [World.cell?, hh]
      simpa using this
    · cases this

/-- Rows put together in the cut at block X. -/
structure XS (N X : Nat) (w wr : World) (v : Value) (m : List (List Int)) : Prop where
  cut : wr.heap[X]? = some (.cells #[.int .i64 2, v] 27 (0, 0))
  rows : Fr N 22 3 wr v m
  bel : Below N w wr
  nX : N ≤ X

theorem two_set {w : World} {b : Nat} {x y u : Value} {t : TypeId} (h : w.heap[b]? = some (.cells #[x, y] t (0, 0))) : (w.setCell ⟨b, 1, none⟩ u).heap[b]? = some (.cells #[x, u] t (0, 0)) := by
  simp [World.setCell, Array.getElem?_modify, h]

theorem XS.push {N X : Nat} {w wr w1 : World} {v v' : Value} {m ms : List (List Int)} {vs us : List Value} (h : XS N X w wr v m) (hN : N ≤ wr.heap.size)
    (h1 : vs.length = m.length) (h2 : wr.ownsRow N 22 1 v m.length vs) (h3 : ∀ i, i < m.length → Sl 0 3 wr (vs.getD i (.slice none 0 0)) (ints (m.getD i [])))
    (hu : us.length = ms.length) (hus : ∀ i, i < ms.length → Sl 0 3 wr (us.getD i (.slice none 0 0)) (ints (ms.getD i [])))
    (ho : w1.ownsRow N 22 1 v' (m.length + ms.length) (vs ++ us)) (hg : wr.grownBy w1 v.ownBlock) :
    (w1.heap[X]? = some (.cells #[.int .i64 2, v] 27 (0, 0))) ∧ XS N X w (w1.setCell ⟨X, 1, none⟩ v') v' (m ++ ms) := by
  have n2 := (Array.getElem?_eq_some_iff.1 h.cut).1
  have ht := owns_typed h2 (e1 := 3) (by decide)
  have hc := owns_typed h2 (e1 := 27) (by decide)
  have g2 : w1.heap[X]? = some (.cells #[.int .i64 2, v] 27 (0, 0)) := by
    rw [hg.block X n2 (fun e => (hc X e.symm).2 _ h.cut)]; exact h.cut
  have mv : ∀ {y : Value} {xs : List Value}, Sl 0 3 wr y xs → Sl 0 3 w1 y xs := fun hs => hs.grown hg (fun k hk => ⟨Nat.zero_le _, (ht k hk).2⟩)
  have hr : Fr N 22 3 w1 v' (m ++ ms) := by
    refine ⟨vs ++ us, by simp [h1, hu], by simpa using ho, fun i hi => ?_⟩
    by_cases e : i < m.length
    · rw [getD_left (by omega), getD_left e]; exact mv (h3 i e)
    · have hi' : i - m.length < ms.length := by simp at hi; omega
      rw [getD_right (by omega), getD_right (by omega), h1]; exact mv (hus _ hi')
  refine ⟨g2, ⟨two_set g2, ?_, ?_, h.nX⟩⟩
  · obtain ⟨us', u1, u2, u3⟩ := hr
    refine ⟨us', u1, ownsRow_setCell_other u2 (fun e => ?_) _, fun i hi => (u3 i hi).setCell _ ⟨Nat.zero_le _, fun cur => by simp only; rw [g2]; simp⟩⟩
    exact (owns_typed u2 (e1 := 27) (by decide) _ e).2 _ g2
  · exact (h.bel.grown hg hN (fun k hk => (ht k hk).1)).setCell h.nX _

end Go.Proofs.YtddbfcikhnhbnaaGreat

/- Rows that are written into. -/
namespace Go.Proofs.YtddbfcikhnhbnaaGreat
open Go.RowKit

/-- A number written into some row: each row has its old numbers, or that one. -/
theorem Sl.setI {w : World} {v : Value} {r : List Int} {b q : Nat} {z : Int} {cur : Array Value} (h : Sl 0 3 w v (ints r)) (hb : w.heap[b]? = some (.cells cur 3 (0, 0))) :
    ∃ r', r'.length = r.length ∧ (∀ y ∈ r', y ∈ r ∨ y = z) ∧ Sl 0 3 (w.setCell ⟨b, q, none⟩ (.int .i64 z)) v (ints r') := by
  obtain ⟨ao, cap, hv, h1, h2, h3, h4⟩ := h
  subst hv
  refine ⟨(List.range r.length).map fun i => match ao with | some a => if a.block = b ∧ a.off + i = q then z else r.getD i 0 | none => r.getD i 0, by simp, ?_, ao, cap, by simp, by simpa using h1, h2, ?_, fun e => by have := h4 e; simpa using this⟩
  · intro y hy
    simp only [List.mem_map, List.mem_range] at hy
    obtain ⟨i, hi, rfl⟩ := hy
    have hm : r.getD i 0 ∈ r := by
      rw [List.getD_eq_getElem?_getD, List.getElem?_eq_getElem hi]; exact List.getElem_mem _
    split
    · split
      · exact .inr rfl
      · exact .inl hm
    · exact .inl hm
  · intro i hi
    have hi' : i < r.length := by simpa using hi
    obtain ⟨b0, o0, ha, hc, ht⟩ := h3 i (by simpa using hi')
    subst ha
    refine ⟨b0, o0, rfl, ?_, ?_⟩
    · rw [ints_get _ _ (by simpa using hi')]
      rw [ints_get _ _ hi'] at hc
      have e0 : ((List.range r.length).map fun i => if b0 = b ∧ o0 + i = q then z else r.getD i 0).getD i 0 = if b0 = b ∧ o0 + i = q then z else r.getD i 0 := by simp [hi']
      refine Eq.trans ?_ (congrArg (fun t => some (Value.int .i64 t)) e0.symm)
      by_cases e : b0 = b ∧ o0 + i = q
      · obtain ⟨rfl, rfl⟩ := e
        rw [if_pos ⟨rfl, rfl⟩]
        exact World.cell?_setCell_same _ _ _ hc
      · rw [if_neg e]
        have hne : (⟨b, q, none⟩ : Addr) ≠ ⟨b0, o0 + i, none⟩ := fun h => by
          simp only [Addr.mk.injEq] at h
          exact e ⟨h.1.symm, h.2.1.symm⟩
        exact Eq.trans (World.cell?_setCell_other _ _ _ _ hne) hc
    · right
      rcases ht with ht | ⟨c0, ht⟩
      · omega
      · by_cases e : b0 = b
        · subst e
          exact ⟨cur.setIfInBounds q (.int .i64 z), by simp [World.setCell, Array.getElem?_modify, hb]⟩
        · exact ⟨c0, (Below.heap_setCell w _ _ b0 e).trans ht⟩

/-- Rows in the cut at block R. -/
structure CS (N R d : Nat) (w wr : World) (v : Value) (m : List (List Int)) : Prop where
  cut : wr.heap[R]? = some (.cells #[.int .i64 d, v] 27 (0, 0))
  rows : FrN N wr v m
  bel : Below N w wr
  nR : N ≤ R

/-- A cut's row, in memory. -/
theorem CS.row {N R d : Nat} {w wr : World} {v : Value} {m : List (List Int)} (h : CS N R d w wr v m) {i q : Nat} (hi : i < m.length) (hq : q < (m.getD i []).length) :
    ∃ g go gc b o c cur, v = .slice (some ⟨g, go, none⟩) m.length gc ∧ wr.cell? ⟨g, go + i, none⟩ = some (.slice (some ⟨b, o, none⟩) (m.getD i []).length c) ∧ wr.cell? ⟨b, o + q, none⟩ = some (.int .i64 ((m.getD i []).getD q 0)) ∧ N ≤ b ∧ wr.heap[b]? = some (.cells cur 3 (0, 0)) ∧ (m.getD i []).length ≤ c := by
  obtain ⟨vs, h1, h2, h3⟩ := h.rows
  obtain ⟨s1, s2⟩ := h3 i hi
  obtain ⟨b, o, c, hs, hc, hcell⟩ := sl_cell s1 (k := q) hq
  obtain ⟨ao, cap, hv, _, _, h5, _⟩ := s1
  rw [hs] at hv
  simp only [Value.slice.injEq] at hv
  obtain ⟨rfl, _, rfl⟩ := hv
  obtain ⟨b', o', ha, _, ht⟩ := h5 q (by simpa using hq)
  simp only [Option.some.injEq, Addr.mk.injEq] at ha
  obtain ⟨rfl, rfl, _⟩ := ha
  rcases ht with ht | ⟨cur, ht⟩
  · omega
  obtain ⟨g, go, gc, hg, _, _, hgc⟩ := (Sl.own (B := 0) h2).at (by omega)
  refine ⟨g, go, gc, b, o, c, cur, ?_, ?_, hcell, ?_, ht, hc⟩
  · rw [hg, h1]
  · rw [hgc i (by omega), ← hs]
    rw [List.getD_eq_getElem?_getD, List.getElem?_eq_getElem (by omega)]; rfl
  · exact s2 b o _ c hs

/-- A number written into a row of a cut. -/
theorem CS.set {N R d : Nat} {w wr : World} {v : Value} {m : List (List Int)} (h : CS N R d w wr v m) {b q : Nat} {z : Int} {cur : Array Value} (hN : N ≤ b) (hb : wr.heap[b]? = some (.cells cur 3 (0, 0))) :
    ∃ m', m'.length = m.length ∧ (∀ i, i < m.length → (m'.getD i []).length = (m.getD i []).length ∧ ∀ y ∈ m'.getD i [], y ∈ m.getD i [] ∨ y = z) ∧ CS N R d w (wr.setCell ⟨b, q, none⟩ (.int .i64 z)) v m' := by
  obtain ⟨vs, h1, h2, h3⟩ := h.rows
  have hx : ∀ i, ∃ r', i < m.length → r'.length = (m.getD i []).length ∧ (∀ y ∈ r', y ∈ m.getD i [] ∨ y = z) ∧ SlN N (wr.setCell ⟨b, q, none⟩ (.int .i64 z)) (vs.getD i (.slice none 0 0)) (ints r') := fun i => by
    by_cases hi : i < m.length
    · obtain ⟨r', g1, g2, g3⟩ := Sl.setI (q := q) (z := z) (h3 i hi).1 hb
      exact ⟨r', fun _ => ⟨g1, g2, g3, (h3 i hi).2⟩⟩
    · exact ⟨[], fun h => absurd h hi⟩
  obtain ⟨F, hF⟩ := Classical.axiomOfChoice hx
  have hg : ∀ i, i < m.length → ((List.range m.length).map F).getD i [] = F i := fun i hi => by simp [hi]
  refine ⟨(List.range m.length).map F, by simp, fun i hi => ?_, ?_⟩
  · rw [hg i hi]; exact ⟨(hF i hi).1, (hF i hi).2.1⟩
  · have hne : R ≠ b := fun e => by
      have := h.cut
      rw [e, hb] at this
      simp at this
    refine ⟨(Below.heap_setCell wr _ _ R hne).trans h.cut, ⟨vs, by simpa using h1, ?_, fun i hi => ?_⟩, h.bel.setCell hN _, h.nR⟩
    · have := ownsRow_setCell_other (a := ⟨b, q, none⟩) h2 (fun e => (owns_typed h2 (e1 := 3) (by decide) b e).2 _ hb) (.int .i64 z)
      simpa using this
    · have hi' : i < m.length := by simpa using hi
      rw [hg i hi']
      exact (hF i hi').2.2

/-- One more row. -/
theorem CS.push {N R d : Nat} {w wr w1 : World} {v v' u : Value} {m : List (List Int)} {zs : List Int} {vs : List Value} (h : CS N R d w wr v m) (hN : N ≤ wr.heap.size)
    (h1 : vs.length = m.length) (h2 : wr.ownsRow N 22 1 v m.length vs) (h3 : ∀ i, i < m.length → SlN N wr (vs.getD i (.slice none 0 0)) (ints (m.getD i []))) (hu : SlN N wr u (ints zs))
    (ho : w1.ownsRow N 22 1 v' (m.length + 1) (vs ++ [u])) (hg : wr.grownBy w1 v.ownBlock) :
    (w1.heap[R]? = some (.cells #[.int .i64 d, v] 27 (0, 0))) ∧ CS N R d w (w1.setCell ⟨R, 1, none⟩ v') v' (m ++ [zs]) := by
  have n2 := (Array.getElem?_eq_some_iff.1 h.cut).1
  have ht := owns_typed h2 (e1 := 3) (by decide)
  have hc := owns_typed h2 (e1 := 27) (by decide)
  have g2 : w1.heap[R]? = some (.cells #[.int .i64 d, v] 27 (0, 0)) := by
    rw [hg.block R n2 (fun e => (hc R e.symm).2 _ h.cut)]; exact h.cut
  have hr : FrN N w1 v' (m ++ [zs]) := FrN.push h1 h2 h3 hu ho hg
  refine ⟨g2, ⟨two_set g2, ?_, ?_, h.nR⟩⟩
  · obtain ⟨us', u1, u2, u3⟩ := hr
    refine ⟨us', u1, ownsRow_setCell_other u2 (fun e => ?_) _, fun i hi => ⟨(u3 i hi).1.setCell _ ⟨Nat.zero_le _, fun cur => by simp only; rw [g2]; simp⟩, (u3 i hi).2⟩⟩
    exact (owns_typed u2 (e1 := 27) (by decide) _ e).2 _ g2
  · exact (h.bel.grown hg hN (fun k hk => (ht k hk).1)).setCell h.nR _

end Go.Proofs.YtddbfcikhnhbnaaGreat

/- facetref.CutOf. -/
namespace Go.Proofs.YtddbfcikhnhbnaaGreat
open Go.RowKit
attribute [local go_sem ↓] Go.wp_at_zero Go.wp_at_succ

/-- Rows as many and as long as asked, and small. -/
structure RowsOk (d n b : Nat) (m : List (List Int)) : Prop where
  num : m.length = n
  row : ∀ i, i < m.length → (m.getD i []).length = d + 1 ∧ ∀ z ∈ m.getD i [], z.natAbs ≤ b

theorem RowsOk.cut {d n : Nat} {m : List (List Int)} (h : RowsOk d n 20 m) (h1 : 1 ≤ d) (h3 : d ≤ 3) (hn : n ≤ 12) : CutOk d m := by
  have hx : ∀ r ∈ m, r.length = d + 1 ∧ ∀ z ∈ r, z.natAbs ≤ 20 := fun r hr => by
    obtain ⟨i, hi, rfl⟩ := List.getElem_of_mem hr
    have := h.row i hi
    rw [List.getD_eq_getElem?_getD, List.getElem?_eq_getElem hi] at this
    exact this
  exact ⟨h1, h3, by rw [h.num]; exact hn, fun r hr => (hx r hr).1, fun r hr => (hx r hr).2⟩

/-- A row of the box. -/
def boxR (d q s : Nat) : List Int := (List.range (d + 1)).map fun i => if i = d then 5 else if i = q then 1 - 2 * (s : Int) else 0

set_option maxRecDepth 100000 in
set_option maxHeartbeats 1600000 in
theorem cutOf_box (B : Nat) (raw : List Int) (v : Value) (d many box : Nat) (w : World) (hv : Sl B 3 w v (ints raw)) (hr : ∀ z ∈ raw, In64 z) (hl : raw.length ≤ 9223372036854775807) (hd1 : 1 ≤ d) (hd : d ≤ 3) (hm : many ≤ 4) (_hbx : box ≤ 7) :
    Calls Tryz.prog 6 #[v, .int .i64 d, .int .i64 many, .int .i64 box] w fun e w' => ∃ x rows, e = .returned (.agg #[.int .i64 d, x]) ∧ Mat 0 22 3 w' x rows ∧ (CutOk d rows ∧ ∀ i, i < 2 * d → i < box → boxR d (i / 2) (i % 2) ∈ rows) ∧ Below w.heap.size w w' := by
  obtain ⟨i0, hi0, hz0, hz1, hz2⟩ := info_parts Tryz.info22
  obtain ⟨ao, cap, hvv, hlc, hcm⟩ := sl_open hv
  subst hvv
  have HV : Hid (Sl B 3 w (.slice ao raw.length cap) (ints raw)) := hv
  have HR : Hid (∀ z ∈ raw, In64 z) := hr
  obtain ⟨W, hW⟩ : ∃ W, W = w.alloc (.cells #[.int .i64 0, .slice none 0 0] 27) := ⟨_, rfl⟩
  obtain ⟨N, hN⟩ : ∃ N, N = w.heap.size + 1 := ⟨_, rfl⟩
  have hsW : W.heap.size = N := by rw [hW, hN]; simp
  have hbW : Below w.heap.size w W := by rw [hW]; exact alloc_keep _ _
  have hkW : W.heap[w.heap.size]? = some (.cells #[.int .i64 0, .slice none 0 0] 27 (0, 0)) := by rw [hW]; exact alloc_new _ _
  have HPT : Hid (Calls Tryz.prog 17 #[.slice ao raw.length cap, .int .i64 0, .int .i64 ((d : Int) + 1), .int .i64 many, .int .i64 4] W fun e w' => ∃ xo xc m, e = .returned (.slice xo many xc) ∧ RowsOk d many 4 m ∧ FrN N w' (.slice xo many xc) m ∧ Below N W w') := by
    have h := pointsOf_new B raw _ 0 (d + 1) many 4 W (hv.below hbW (Nat.le_refl _)) hr (by omega) (by omega) (by omega) (by omega) (by omega)
    rw [show ((d + 1 : Nat) : Int) = (d : Int) + 1 by omega] at h
    refine Calls.mono h ?_
    rintro e w' ⟨x, m, rfl, g1, g2, g3, g4⟩
    rw [hsW] at g3 g4
    obtain ⟨vs, q1, q2, q3⟩ := g3
    have q2' := q2
    rw [g1] at q2'
    obtain ⟨xo, xc, rfl⟩ := owns_form q2'
    refine ⟨xo, xc, m, rfl, ⟨g1, fun i hi => ?_⟩, ⟨vs, q1, q2, q3⟩, g4⟩
    have hm : m.getD i [] ∈ m := by
      rw [List.getD_eq_getElem?_getD, List.getElem?_eq_getElem hi]; exact List.getElem_mem _
    have := g2 _ hm
    exact ⟨this.1, fun z hz => by have := this.2 z hz; omega⟩
  have HW : Hid (W = w.alloc (.cells #[.int .i64 0, .slice none 0 0] 27)) := hW
  have HN : Hid (N = w.heap.size + 1) := hN
  have HSW : Hid (W.heap.size = N) := hsW
  have HBW : Hid (Below w.heap.size w W) := hbW
  have HKW : Hid (W.heap[w.heap.size]? = some (.cells #[.int .i64 0, .slice none 0 0] 27 (0, 0))) := hkW
  clear hv hr hsW hbW hkW hW hN
  go_enter Tryz.func6, Tryz.ntmps6
  go_wp2_with fail
  rw [← HW.out]
  refine HPT.out.mono ?_
  rintro e w1 ⟨xo, xc, m, rfl, hm1, hm2, hm3⟩
  obtain ⟨R, hR⟩ : ∃ R, R = w1.heap.size := ⟨_, rfl⟩
  have HRR : Hid (R = w1.heap.size) := hR
  have HCS : Hid (CS N R d W (w1.alloc (.cells #[.int .i64 d, .slice xo many xc] 27)) (.slice xo many xc) m) := ⟨by rw [hR]; exact alloc_new _ _, hm2.alloc _, hm3.trans ((alloc_keep _ _).mono (by have := hm3.size; rw [HSW.out] at this; exact this)), by rw [hR]; have := hm3.size; rw [HSW.out] at this; exact this⟩
  have HRO : Hid (RowsOk d many 4 m) := hm1
  clear hm1 hm2 hm3 hR HPT
  go_wp2
  rw [← HRR.out]
  go_loopw [10] (fun i wr => ∃ (k : Nat) (m : List (List Int)), k ≤ many ∧ i = .int .i64 k ∧ CS N R d W wr (.slice xo many xc) m ∧ RowsOk d many (4 + 3 * k) m) (fun i _ => many - (intOf i).toNat)
  case atStart => exact ⟨0, m, Nat.zero_le _, rfl, HCS.out, HRO.out⟩
  case round =>
    clear HCS HRO
    obtain ⟨k, m, hk, rfl, hcs, hro⟩ := hrel
    obtain ⟨wa, rfl⟩ : ∃ wa, wa = wr := ⟨wr, rfl⟩
    have HCS : Hid (CS N R d W wa (.slice xo many xc) m) := hcs
    have HRO : Hid (RowsOk d many (4 + 3 * k) m) := hro
    have c1 : wa.cell? ⟨R, 1, none⟩ = some (.slice xo many xc) := by simp [World.cell?, hcs.cut]
    clear hcs hro
    by_cases hlt : k < many
    · have hkm : k < m.length := by rw [HRO.out.num]; exact hlt
      have hrl := (HRO.out.row k hkm).1
      obtain ⟨g, go, gc, b, o, c, cur, hv, h1, h2, h3, h4, h5⟩ := HCS.out.row hkm (q := d) (by omega)
      simp only [Value.slice.injEq] at hv
      obtain ⟨rfl, -, rfl⟩ := hv
      obtain ⟨z, hz⟩ : ∃ z, z = (m.getD k []).getD d 0 := ⟨_, rfl⟩
      rw [← hz] at h2
      rw [hrl] at h1 h5
      have hzb : z.natAbs ≤ 4 + 3 * k := by
        rw [hz]
        refine (HRO.out.row k hkm).2 _ ?_
        have hdl : d < (m.getD k []).length := by omega
        generalize m.getD k [] = q at hdl
        rw [List.getD_eq_getElem?_getD, List.getElem?_eq_getElem hdl]; exact List.getElem_mem _
      have HST : Hid (∃ m', CS N R d W (wa.setCell ⟨b, o + d, none⟩ (.int .i64 (z + 3))).drew (.slice (some ⟨g, go, none⟩) many xc) m' ∧ RowsOk d many (4 + 3 * (k + 1)) m') := by
        have h0 := HCS.out
        obtain ⟨m', q1, q2, q3⟩ := h0.set (q := o + d) (z := z + 3) h3 h4
        refine ⟨m', ⟨q3.cut, q3.rows, q3.bel.drew, q3.nR⟩, by rw [q1, HRO.out.num], fun i hi => ?_⟩
        rw [q1] at hi
        have hr := HRO.out.row i hi
        refine ⟨by rw [(q2 i hi).1]; exact hr.1, fun y hy => ?_⟩
        rcases (q2 i hi).2 y hy with h | h
        · have := hr.2 y h; omega
        · omega
      have hf : wa.frozen? ⟨b, o + d, none⟩ = false := by simp [World.frozen?, h4]
      have hkI : (k : Int) < (many : Int) := by omega
      have hkI0 : (0 : Int) ≤ (k : Int) := by omega
      have hdI0 : (0 : Int) ≤ (d : Int) := by omega
      have hdI : (d : Int) < ((d + 1 : Nat) : Int) := by omega
      have hdJ : (d : Int) < (d : Int) + 1 := by omega
      have hzI : -100 ≤ z + 3 := by omega
      have hzJ : z + 3 ≤ 100 := by omega
      have hwz : IntKind.i64.wrap (z + 3) = z + 3 := by rw [IntKind.wrap_i64]; omega
      clear hz hrl h3 h4 hzb
      go_wp2_with fail
      go_region
      all_goals
        obtain ⟨m', q1, q2⟩ := HST.out
        have HN1 : Hid (CS N R d W (wa.setCell ⟨b, o + d, none⟩ (.int .i64 (z + 3))).drew (.slice (some ⟨g, go, none⟩) many xc) m') := q1
        have HN2 : Hid (RowsOk d many (4 + 3 * (k + 1)) m') := q2
        clear q1 q2 c1 h1 h2 hf
        go_wp2
        go_roundw
        case rel => exact ⟨k + 1, m', by omega, by go_num, HN1.out, HN2.out⟩
        case measure => simp [intOf]; omega
    · have hke : k = many := by omega
      subst hke
      have HR2 : Hid (RowsOk d (k + 0) 20 m) := ⟨HRO.out.num, fun i hi => ⟨(HRO.out.row i hi).1, fun z hz => by have := (HRO.out.row i hi).2 z hz; omega⟩⟩
      clear c1 HRO
      go_wp2
      go_loopw [11] (fun i wr => ∃ (j : Nat) (x : Value) (m : List (List Int)), j ≤ 6 ∧ i = .int .i64 j ∧ CS N R d W wr x m ∧ RowsOk d (k + j) 20 m ∧ ∀ i, i < j → boxR d (i / 2) (i % 2) ∈ m) (fun i _ => 6 - (intOf i).toNat)
      case atStart => exact ⟨0, _, m, by omega, rfl, HCS.out, HR2.out, fun i hi => by omega⟩
      case round =>
        clear HCS HR2
        obtain ⟨j, x, m, hj, rfl, hcs, hro, hbi⟩ := hrel
        have HBI : Hid (∀ i, i < j → boxR d (i / 2) (i % 2) ∈ m) := hbi
        clear hbi
        obtain ⟨wb, rfl⟩ : ∃ wb, wb = wr := ⟨wr, rfl⟩
        have HRO : Hid (RowsOk d (k + j) 20 m) := hro
        obtain ⟨vs, g1, g2, g3⟩ := hcs.rows
        have hml := hro.num
        rw [hml] at g2
        obtain ⟨yo, yc, hyv⟩ := owns_form g2
        subst hyv
        have HCS : Hid (CS N R d W wb (.slice yo (k + j) yc) m) := hcs
        have c1 : wb.cell? ⟨R, 1, none⟩ = some (.slice yo (k + j) yc) := by simp [World.cell?, hcs.cut]
        have c0 : wb.cell? ⟨R, 0, none⟩ = some (.int .i64 d) := by simp [World.cell?, hcs.cut]
        clear hcs hro g1 g2 g3 hml vs
        by_cases hjb : j < 2 * d ∧ j < box
        · obtain ⟨hjd, hjb⟩ := hjb
          obtain ⟨q, hq⟩ : ∃ q, q = j / 2 := ⟨_, rfl⟩
          obtain ⟨s, hs⟩ : ∃ s, s = j % 2 := ⟨_, rfl⟩
          have hqI : (j : Int).tdiv 2 = (q : Int) := by rw [hq, Int.tdiv_eq_ediv_of_nonneg (by omega)]; omega
          have hsI : (j : Int).tmod 2 = (s : Int) := by rw [hs, Int.tmod_eq_emod_of_nonneg (by omega)]; omega
          have hq1 : q < d := by omega
          have hs1 : s < 2 := by omega
          have HBJ : Hid (∀ i, i < j + 1 → boxR d (i / 2) (i % 2) ∈ m ++ [boxR d q s]) := fun i hi => by
            by_cases e : i = j
            · rw [e, hq, hs]; simp
            · exact List.mem_append_left _ (HBI.out i (by omega))
          clear hq hs
          obtain ⟨cs, hcs⟩ : ∃ cs, cs = ((madeCells #[.int .i64 0] (d + 1)).setIfInBounds q (.int .i64 (1 - 2 * (s : Int)))).setIfInBounds d (.int .i64 5) := ⟨_, rfl⟩
          obtain ⟨Wq, hWq⟩ : ∃ Wq, Wq = wb.alloc (.cells cs 3) := ⟨_, rfl⟩
          have hbq : Below wb.heap.size wb Wq := by rw [hWq]; exact alloc_keep _ _
          have hsq : Wq.heap.size = wb.heap.size + 1 := by rw [hWq]; simp
          have hNw : N ≤ wb.heap.size := by have := HCS.out.bel.size; rw [HSW.out] at this; exact this
          have HPQ : Hid (CS N R d W Wq (.slice yo (k + j) yc) m) := ⟨(hbq.block R (Array.getElem?_eq_some_iff.1 HCS.out.cut).1).trans HCS.out.cut, HCS.out.rows.below hbq (Nat.le_refl _), HCS.out.bel.trans (hbq.mono hNw), HCS.out.nR⟩
          have HXK : Hid (SlN N Wq (.slice (some ⟨wb.heap.size, 0, none⟩) (d + 1) (d + 1)) (ints (boxR d q s))) := by
            refine ⟨?_, fun b o n c e => by simp only [Value.slice.injEq, Option.some.injEq, Addr.mk.injEq] at e; omega⟩
            have hrow : Wq.rowIs wb.heap.size 3 (d + 1) (fun j => if j = d then .int .i64 5 else if j = q then .int .i64 (1 - 2 * (s : Int)) else .int .i64 0) := by
              have e : ((wb.alloc (.cells (madeCells #[.int .i64 0] (d + 1)) 3)).setCell ⟨wb.heap.size, q, none⟩ (.int .i64 (1 - 2 * (s : Int)))).setCell ⟨wb.heap.size, d, none⟩ (.int .i64 5) = Wq := by rw [hWq, hcs]; simp [go_sem]
              rw [← e]
              exact ((World.rowIs_made wb (.int .i64 0) (d + 1) 3).set q _).set d _
            refine Sl.row hrow (by simp [boxR]) (by unfold maxLen; omega) (fun i hi => ?_)
            rw [ints_get _ _ (by simpa [boxR] using hi)]
            by_cases e1 : i = d
            · subst e1; simp [boxR]
            · by_cases e2 : i = q
              · subst e2; simp [boxR, hi, e1]
              · simp [boxR, hi, e1, e2]
          have HRN : Hid (RowsOk d (k + (j + 1)) 20 (m ++ [boxR d q s])) := by
            refine ⟨by simp [HRO.out.num]; omega, fun i hi => ?_⟩
            by_cases hil : i < m.length
            · rw [getD_left hil]; exact HRO.out.row i hil
            · have : i = m.length := by simp at hi; omega
              subst this
              rw [getD_right (Nat.le_refl _)]
              simp only [Nat.sub_self, List.getD_cons_zero]
              refine ⟨by simp [boxR], fun z hz => ?_⟩
              simp only [boxR, List.mem_map, List.mem_range] at hz
              obtain ⟨i, _, rfl⟩ := hz
              split
              · decide
              · split
                · omega
                · decide
          obtain ⟨vs2, g1, g2, g3⟩ := HPQ.out.rows
          have hln := HRO.out.num
          have G2 : Hid (Wq.ownsRow N 22 1 (.slice yo (k + j) yc) (k + j) vs2) := by rw [hln] at g2; exact g2
          have HPU2 : Hid (∀ v' w6, w6.ownsRow N 22 1 v' (k + j + 1) (vs2 ++ [.slice (some ⟨wb.heap.size, 0, none⟩) (d + 1) (d + 1)]) → (Wq.alloc (.cells #[.slice (some ⟨wb.heap.size, 0, none⟩) (d + 1) (d + 1)] 22)).grownBy w6 (Value.slice yo (k + j) yc).ownBlock →
              w6.cell? ⟨R, 1, none⟩ = some (.slice yo (k + j) yc) ∧ w6.frozen? ⟨R, 1, none⟩ = false ∧ CS N R d W (w6.setCell ⟨R, 1, none⟩ v') v' (m ++ [boxR d q s])) := fun v' w6 ho hg => by
            have hba := alloc_keep Wq (.cells #[.slice (some ⟨wb.heap.size, 0, none⟩) (d + 1) (d + 1)] 22)
            have hNq : N ≤ Wq.heap.size := by omega
            have h0 : CS N R d W (Wq.alloc (.cells #[.slice (some ⟨wb.heap.size, 0, none⟩) (d + 1) (d + 1)] 22)) (.slice yo (k + j) yc) m := ⟨(hba.block R (Array.getElem?_eq_some_iff.1 HPQ.out.cut).1).trans HPQ.out.cut, HPQ.out.rows.alloc _, HPQ.out.bel.trans (hba.mono hNq), HPQ.out.nR⟩
            have hp := h0.push (by simp; omega) g1 (g2.alloc _) (fun i hi => (g3 i hi).alloc _) (HXK.out.alloc _) (by rw [hln]; exact ho) hg
            exact ⟨by simp [World.cell?, hp.1], by simp [World.frozen?, hp.1], hp.2⟩
          have HNEW2 : Hid (∀ j u, [Value.slice (some ⟨wb.heap.size, 0, none⟩) (d + 1) (d + 1)][j]? = some u → (Wq.alloc (.cells #[.slice (some ⟨wb.heap.size, 0, none⟩) (d + 1) (d + 1)] 22)).cell? ((⟨wb.heap.size + 1, 0, none⟩ : Addr).add j) = some u) := by
            rw [← hsq]; exact one_new _ _ _
          have HNS2 : Hid (N ≤ (Wq.alloc (.cells #[.slice (some ⟨wb.heap.size, 0, none⟩) (d + 1) (d + 1)] 22)).heap.size) := by
            show _ ≤ _
            simp; omega
          have d2 : Wq.cell? ⟨R, 1, none⟩ = some (.slice yo (k + j) yc) := by simp [World.cell?, HPQ.out.cut]
          have hmc : (madeCells #[.int .i64 0] (d + 1))[q]? = some (.int .i64 0) := by
            rw [← Array.getElem?_toList, toList_madeCells_one, List.getElem?_replicate, if_pos (by omega)]
          have hmd : ((madeCells #[.int .i64 0] (d + 1)).setIfInBounds q (.int .i64 (1 - 2 * (s : Int))))[d]? = some (.int .i64 0) := by
            have h1 : (madeCells #[.int .i64 0] (d + 1))[d]? = some (.int .i64 0) := by
              rw [← Array.getElem?_toList, toList_madeCells_one]; simp
            rw [Array.getElem?_setIfInBounds_ne (by omega), h1]
          have hqI1 : (q : Int) < (d : Int) + 1 := by omega
          have hqI0 : (0 : Int) ≤ (q : Int) := by omega
          have hjI : (j : Int) < 2 * (d : Int) := by omega
          have hjJ : (j : Int) < (box : Int) := by omega
          have hkj : (k : Int) + (j : Int) < 12 := by omega
          have hdI0 : (0 : Int) ≤ (d : Int) := by omega
          have hdJ : (d : Int) < (d : Int) + 1 := by omega
          have hmk : ∀ w : World, (Instr.makeSlice 22 (.int .i64 ((d : Int) + 1)) (.int .i64 ((d : Int) + 1))).run Tryz.prog w = .ok (.slice (some ⟨w.heap.size, 0, none⟩) (d + 1) (d + 1)) (w.alloc (.cells (madeCells #[.int .i64 0] (d + 1)) 3)) := by
            rw [show (d : Int) + 1 = ((d + 1 : Nat) : Int) by omega]
            exact run_make_row' (P := Tryz.prog) 22 3 (.int .i64 0) 8 Tryz.underlying22 Tryz.info3 rfl .i64 .i64 (d + 1) (by omega) (by omega)
          clear g1 g2 g3 hln hbq hsq HXK
          subst hWq
          subst hcs
          go_wp2_with (first | (at_builtin; refine wpList_append_own _ rfl _ _ 25 rfl N 22 i0 (.slice none 0 0) 1 24 Tryz.underlying25 hi0 hz0 hz1 hz2 rfl (by decide) _ _ _ rfl (G2.out.alloc _) ⟨wb.heap.size + 1, 0, none⟩ 1 1 [.slice (some ⟨wb.heap.size, 0, none⟩) (d + 1) (d + 1)] rfl rfl HNEW2.out (one_slice _ _ _) ?d3 ?d4 ?d5 ?_))
          case d3 => unfold maxLen; omega
          case d4 => omega
          case d5 => exact HNS2.out
          intro v' w6 ho hg _
          obtain ⟨vo2, vc2, hv2⟩ := owns_form ho
          subst hv2
          have FF := HPU2.out _ w6 ho hg
          have LS1 := FF.1
          have LS2 := FF.2.1
          have HNX : Hid (CS N R d W (w6.setCell ⟨R, 1, none⟩ (.slice vo2 (k + j + 1) vc2)) (.slice vo2 (k + j + 1) vc2) (m ++ [boxR d q s])) := FF.2.2
          clear ho hg FF
          go_wp2
          go_roundw
          case rel => exact ⟨j + 1, _, _, by omega, by go_num, HNX.out, HRN.out, HBJ.out⟩
          case measure => simp [intOf]; omega
        · by_cases hjd : j < 2 * d
          · have hjb' : ¬ j < box := fun h => hjb ⟨hjd, h⟩
            have hjI : (j : Int) < 2 * (d : Int) := by omega
            have hjJ : ¬ (j : Int) < (box : Int) := by omega
            have hres : wb.heap[w.heap.size]? = some (.cells #[.int .i64 0, .slice none 0 0] 27 (0, 0)) := (HCS.out.bel.block _ (by rw [HN.out]; omega)).trans HKW.out
            have k0 : wb.cell? ⟨w.heap.size, 0, none⟩ = some (.int .i64 0) := by simp [World.cell?, hres]
            have k1 : wb.cell? ⟨w.heap.size, 1, none⟩ = some (.slice none 0 0) := by simp [World.cell?, hres]
            have f0 : wb.frozen? ⟨w.heap.size, 0, none⟩ = false := by simp [World.frozen?, hres]
            have f1 : wb.frozen? ⟨w.heap.size, 1, none⟩ = false := by simp [World.frozen?, hres]
            have HFIN : Hid (∀ a b : Value, Mat 0 22 3 ((wb.setCell ⟨w.heap.size, 0, none⟩ a).setCell ⟨w.heap.size, 1, none⟩ b) (.slice yo (k + j) yc) m ∧ Below w.heap.size w ((wb.setCell ⟨w.heap.size, 0, none⟩ a).setCell ⟨w.heap.size, 1, none⟩ b)) := fun a b => by
              have g0 : (wb.setCell ⟨w.heap.size, 0, none⟩ a).heap[w.heap.size]? = some (.cells #[a, .slice none 0 0] 27 (0, 0)) := by simp [World.setCell, Array.getElem?_modify, hres]
              have kk : ∀ e, e ≠ 27 → ∀ cur, wb.heap[w.heap.size]? ≠ some (.cells cur e (0, 0)) := by
                intro e he cur; rw [hres]; simp; intro _ h; exact absurd h.symm he
              have kk2 : ∀ e, e ≠ 27 → ∀ cur, (wb.setCell ⟨w.heap.size, 0, none⟩ a).heap[w.heap.size]? ≠ some (.cells cur e (0, 0)) := by
                intro e he cur; rw [g0]; simp; intro _ h; exact absurd h.symm he
              obtain ⟨us, u1, u2, u3⟩ := HCS.out.rows
              refine ⟨⟨us, u1, ?_, fun i hi => ?_⟩, ?_⟩
              · exact ((Sl.own (B := 0) u2).setCell _ ⟨Nat.zero_le _, kk 22 (by decide)⟩).setCell _ ⟨Nat.zero_le _, kk2 22 (by decide)⟩
              · exact ((u3 i hi).1.setCell _ ⟨Nat.zero_le _, kk 3 (by decide)⟩).setCell _ ⟨Nat.zero_le _, kk2 3 (by decide)⟩
              · have hb : Below w.heap.size w wb := HBW.out.trans (HCS.out.bel.mono (by rw [HN.out]; omega))
                exact (hb.setCell (Nat.le_refl _) _).setCell (Nat.le_refl _) _
            clear hres
            go_wp2
            refine bodyPost_ret (v := .agg #[.int .i64 d, .slice yo (k + j) yc]) (by simp [results, Tryz.results6, go_sem, *]) rfl ?_
            exact ⟨_, rfl, m, (HFIN.out _ _).1, ⟨HRO.out.cut hd1 hd (by omega), fun i _ _ => HBI.out i (by omega)⟩, (HFIN.out _ _).2⟩
          · have hjI : ¬ (j : Int) < 2 * (d : Int) := by omega
            have hres : wb.heap[w.heap.size]? = some (.cells #[.int .i64 0, .slice none 0 0] 27 (0, 0)) := (HCS.out.bel.block _ (by rw [HN.out]; omega)).trans HKW.out
            have k0 : wb.cell? ⟨w.heap.size, 0, none⟩ = some (.int .i64 0) := by simp [World.cell?, hres]
            have k1 : wb.cell? ⟨w.heap.size, 1, none⟩ = some (.slice none 0 0) := by simp [World.cell?, hres]
            have f0 : wb.frozen? ⟨w.heap.size, 0, none⟩ = false := by simp [World.frozen?, hres]
            have f1 : wb.frozen? ⟨w.heap.size, 1, none⟩ = false := by simp [World.frozen?, hres]
            have HFIN : Hid (∀ a b : Value, Mat 0 22 3 ((wb.setCell ⟨w.heap.size, 0, none⟩ a).setCell ⟨w.heap.size, 1, none⟩ b) (.slice yo (k + j) yc) m ∧ Below w.heap.size w ((wb.setCell ⟨w.heap.size, 0, none⟩ a).setCell ⟨w.heap.size, 1, none⟩ b)) := fun a b => by
              have g0 : (wb.setCell ⟨w.heap.size, 0, none⟩ a).heap[w.heap.size]? = some (.cells #[a, .slice none 0 0] 27 (0, 0)) := by simp [World.setCell, Array.getElem?_modify, hres]
              have kk : ∀ e, e ≠ 27 → ∀ cur, wb.heap[w.heap.size]? ≠ some (.cells cur e (0, 0)) := by
                intro e he cur; rw [hres]; simp; intro _ h; exact absurd h.symm he
              have kk2 : ∀ e, e ≠ 27 → ∀ cur, (wb.setCell ⟨w.heap.size, 0, none⟩ a).heap[w.heap.size]? ≠ some (.cells cur e (0, 0)) := by
                intro e he cur; rw [g0]; simp; intro _ h; exact absurd h.symm he
              obtain ⟨us, u1, u2, u3⟩ := HCS.out.rows
              refine ⟨⟨us, u1, ?_, fun i hi => ?_⟩, ?_⟩
              · exact ((Sl.own (B := 0) u2).setCell _ ⟨Nat.zero_le _, kk 22 (by decide)⟩).setCell _ ⟨Nat.zero_le _, kk2 22 (by decide)⟩
              · exact ((u3 i hi).1.setCell _ ⟨Nat.zero_le _, kk 3 (by decide)⟩).setCell _ ⟨Nat.zero_le _, kk2 3 (by decide)⟩
              · have hb : Below w.heap.size w wb := HBW.out.trans (HCS.out.bel.mono (by rw [HN.out]; omega))
                exact (hb.setCell (Nat.le_refl _) _).setCell (Nat.le_refl _) _
            clear hres
            go_wp2
            refine bodyPost_ret (v := .agg #[.int .i64 d, .slice yo (k + j) yc]) (by simp [results, Tryz.results6, go_sem, *]) rfl ?_
            exact ⟨_, rfl, m, (HFIN.out _ _).1, ⟨HRO.out.cut hd1 hd (by omega), fun i _ _ => HBI.out i (by omega)⟩, (HFIN.out _ _).2⟩

theorem cutOf_any (B : Nat) (raw : List Int) (v : Value) (d many box : Nat) (w : World) (hv : Sl B 3 w v (ints raw)) (hr : ∀ z ∈ raw, In64 z) (hl : raw.length ≤ 9223372036854775807) (hd1 : 1 ≤ d) (hd : d ≤ 3) (hm : many ≤ 4) (hbx : box ≤ 7) :
    Calls Tryz.prog 6 #[v, .int .i64 d, .int .i64 many, .int .i64 box] w fun e w' => ∃ x rows, e = .returned (.agg #[.int .i64 d, x]) ∧ Mat 0 22 3 w' x rows ∧ CutOk d rows ∧ Below w.heap.size w w' := by
  refine (cutOf_box B raw v d many box w hv hr hl hd1 hd hm hbx).mono ?_
  rintro e w' ⟨x, rows, h1, h2, h3, h4⟩
  exact ⟨x, rows, h1, h2, h3.1, h4⟩

end Go.Proofs.YtddbfcikhnhbnaaGreat
