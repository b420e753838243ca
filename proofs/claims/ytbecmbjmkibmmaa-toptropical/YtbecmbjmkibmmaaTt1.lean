/- TopTropical: as many roots as the degree; prices show the least choice. -/
import Derived.Test.YtbecmbjmkibmmaaTt0
import Derived.Deep.QuietTactic
import Derived.BigQuiet
namespace Go.Proofs.Ytbecmbjmkibmmaa
open Go.RowKit
attribute [local go_sem ↓] Go.wp_at_zero Go.wp_at_succ
attribute [local go_sem] Try.sizeOfT Try.isAggT

theorem tight {M : List (List Int)} (h : sqE M = 0) {i : Nat} (hi : i < M.length) : (prR M).getD i 0 + (prC M).getD ((leastQ M).2.getD i 0).toNat 0 = ent M i ((leastQ M).2.getD i 0).toNat := by
  unfold prR prC
  rw [if_pos h, if_pos h]
  unfold prU
  rw [show ∀ (f : Nat → Int), ((List.range M.length).map f).getD i 0 = f i by intro f; simp [hi]]
  omega

theorem nodup_in {c : List Int} (h : c.Nodup) {i : Nat} (hi : i < c.length) : (c.take i).contains (c.getD i 0) = false := by
  have e : c.getD i 0 = c[i] := by simp [hi]
  rw [e]
  cases hx : (c.take i).contains c[i] with
  | false => rfl
  | true =>
    rw [List.contains_iff_mem] at hx
    rw [List.mem_take_iff_getElem] at hx
    obtain ⟨j, hj, hj2⟩ := hx
    exact absurd hj2 (List.pairwise_iff_getElem.1 h j i (by omega) hi (by omega))

theorem Sl.takeT {B n c : Nat} {w : World} {ao : Option Addr} {zs : List Int} (h : Sl B 3 w (.slice ao zs.length c) (ints zs)) (hn : n ≤ zs.length) : Sl B 3 w (.slice ao n c) (ints (zs.take n)) := by
  obtain ⟨bo, cap, hv, h1, h2, h3, h4⟩ := h
  simp only [Value.slice.injEq] at hv
  obtain ⟨rfl, _, rfl⟩ := hv
  refine ⟨ao, c, by simp; omega, by simp at h1 ⊢; omega, h2, fun i hi => ?_, h4⟩
  have hi' : i < n := by simp at hi; omega
  obtain ⟨b, o, ha, hc, ht⟩ := h3 i (by simp; omega)
  refine ⟨b, o, ha, ?_, ht⟩
  rw [hc, ints_get _ _ (by omega), ints_get _ _ (by simp; omega)]
  simp [hi']

set_option maxRecDepth 100000 in
set_option maxHeartbeats 8000000 in
theorem topTropical_any (l raw : List Int) (n0 t0 : Int) (v rv : Value) (w : World) (hv : Sl w.heap.size 3 w v (ints l)) (hr : Sl w.heap.size 3 w rv (ints raw)) (hri : ∀ z ∈ raw, In64 z) (hn : In64 n0) (ht : In64 t0) :
    Calls Try.prog 3 #[v, rv, .int .i64 n0, .int .i64 t0] w fun e w' => e = .returned (.bool true) ∧ Below w.heap.size w w' := by
  obtain ⟨po, pc, hvv, hlc, hcm⟩ := sl_open hv
  subst hvv
  obtain ⟨ro, rc, hrr, hrlc, hrcm⟩ := sl_open hr
  subst hrr
  have HV : Hid (Sl w.heap.size 3 w (.slice po l.length pc) (ints l)) := hv
  have HR : Hid (Sl w.heap.size 3 w (.slice ro raw.length rc) (ints raw)) := hr
  have HRI : Hid (∀ z ∈ raw, In64 z) := hri
  have HN0 : Hid (In64 n0) := hn
  have HT0 : Hid (In64 t0) := ht
  clear hv hr hri hn ht hlc hcm hrlc hrcm
  by_cases h1 : 100 < l.length
  · have b1 : decide ((100 : Int) < (l.length : Int)) = true := decide_eq_true (by omega)
    clear h1
    go_enter Try.func3, Try.ntmps3
    go_wp2
    go_ret
    exact ⟨rfl, Below.refl _ _⟩
  have b1 : decide ((100 : Int) < (l.length : Int)) = false := decide_eq_false (by omega)
  by_cases h2 : 256 < raw.length
  · have b2 : decide ((256 : Int) < (raw.length : Int)) = true := decide_eq_true (by omega)
    clear h1 h2
    go_enter Try.func3, Try.ntmps3
    go_wp2
    go_ret
    exact ⟨rfl, Below.refl _ _⟩
  have b2 : decide ((256 : Int) < (raw.length : Int)) = false := decide_eq_false (by omega)
  have HRL : Hid (raw.length ≤ 1000000) := by
    show _ ≤ _
    omega
  clear h1 h2
  have HROOT : Hid (Calls Try.prog 4 #[.slice po l.length pc] w fun e w' => RootsPost l w e w') := roots_any l _ w HV.out
  go_enter Try.func3, Try.ntmps3
  go_wp2_with fail
  refine HROOT.out.mono ?_
  rintro e w1 ⟨mv, m, rfl, ho, hz, hok, hb1⟩
  have HB1 : Hid (Below w.heap.size w w1) := hb1
  clear hb1 HROOT
  by_cases hq : listTE l = 0
  · obtain ⟨hperm, hasc⟩ := hok hq
    have HL : Hid (Lst l) := list_okT hq
    have HP : Hid (m.Perm (rootsU l)) := hperm
    have HA : Hid (AscT m) := hasc
    obtain ⟨mo, mc, hmv, hm1, hm2⟩ := met_form ho
    subst hmv
    have HO : Hid (w1.ownsRow w.heap.size 29 3 (.slice mo m.length mc) m.length (m.flatMap encT)) := ho
    have hml : m.length ≤ 1000 := by rw [hperm.length_eq]; exact rootsU_len HL.out
    rw [hq]
    clear hperm hasc ho hz hok hq
    go_wp2
    go_loopw [11, 12] (fun a i wr => ∃ k : Nat, k ≤ m.length ∧ i = .int .i64 k ∧ a = .int .i64 (manyT m k) ∧ ∃ d, wr = w1.drewN d) (fun _ i _ => m.length - (intOf i).toNat)
    case atStart => exact ⟨0, Nat.zero_le _, rfl, rfl, 0, rfl⟩
    case round =>
      obtain ⟨k, hk, rfl, rfl, d, rfl⟩ := hrel
      by_cases hlt : k < m.length
      · obtain ⟨g, cap, hs, hB, hg, hcell⟩ := met_cells HO.out (by omega)
        simp only [Value.slice.injEq] at hs
        obtain ⟨rfl, -, rfl⟩ := hs
        obtain ⟨c0, c1, c2⟩ := hcell k hlt
        obtain ⟨⟨e1, e2⟩, ⟨e3, e4⟩, e5, e6⟩ := roots_each HL.out HP.out (mem_getT m k hlt)
        have HS : Hid (manyT m (k + 1) = manyT m k + (m.getD k (0, 1, 0)).2.2) := manyT_succ hlt
        obtain ⟨mb1, mb2⟩ := manyT_bd (m := m) (fun t ht => by have := roots_each HL.out HP.out ht; omega) k
        have hkI : (k : Int) < (m.length : Int) := by omega
        have hkI0 : (0 : Int) ≤ (k : Int) := by omega
        cases k with
        | zero =>
          clear hcell
          generalize (m.getD 0 (0, 1, 0)).1 = x0 at *
          generalize (m.getD 0 (0, 1, 0)).2.1 = x1 at *
          generalize (m.getD 0 (0, 1, 0)).2.2 = x2 at *
          generalize manyT m 0 = M0 at *
          have q1 : decide (x2 < 1) = false := decide_eq_false (by omega)
          have q2 : decide (x1 < 1) = false := decide_eq_false (by omega)
          have q3 : decide ((0 : Int) < ((0 : Nat) : Int)) = false := rfl
          go_wp2_with fail
          go_big_quiet (fail)
          have c2' : ((w1.drewN d).drewN nq).cell? ⟨g, 0 * 3 + 2, none⟩ = some (.int .i64 x2) := c2
          go_wp2
          go_roundw
          case rel => exact ⟨1, by omega, by go_num, by rw [HS.out], _, rfl⟩
          case measure => simp [intOf]; omega
        | succ p =>
          obtain ⟨p0, p1, -⟩ := hcell p (by omega)
          have hri := roots_rise HP.out HA.out (i := p) (j := p + 1) (by omega) hlt
          obtain ⟨⟨f1, f2⟩, ⟨f3, f4⟩, -⟩ := roots_each HL.out HP.out (mem_getT m p (by omega))
          have hb1 := prod_bd (x := (m.getD p (0, 1, 0)).1) (y := (m.getD (p + 1) (0, 1, 0)).2.1) ⟨f3, f4⟩ ⟨e1, e2⟩
          have hb2 := prod_bd (x := (m.getD (p + 1) (0, 1, 0)).1) (y := (m.getD p (0, 1, 0)).2.1) ⟨e3, e4⟩ ⟨f1, f2⟩
          clear hcell
          generalize (m.getD (p + 1) (0, 1, 0)).1 = x0 at *
          generalize (m.getD (p + 1) (0, 1, 0)).2.1 = x1 at *
          generalize (m.getD (p + 1) (0, 1, 0)).2.2 = x2 at *
          generalize (m.getD p (0, 1, 0)).1 = y0 at *
          generalize (m.getD p (0, 1, 0)).2.1 = y1 at *
          generalize manyT m (p + 1) = M0 at *
          have q1 : decide (x2 < 1) = false := decide_eq_false (by omega)
          have q2 : decide (x1 < 1) = false := decide_eq_false (by omega)
          have q3 : decide ((0 : Int) < ((p + 1 : Nat) : Int)) = true := decide_eq_true (by omega)
          have q3' : decide ((0 : Int) < (p : Int) + 1) = true := decide_eq_true (by omega)
          have q4 : decide (x0 * y1 ≤ y0 * x1) = false := decide_eq_false (by omega)
          have hpI : (p : Int) < (m.length : Int) := by omega
          have hpI0 : (0 : Int) ≤ (p : Int) := by omega
          go_wp2_with fail
          go_big_quiet (fail)
          have c2' : ((w1.drewN d).drewN nq).cell? ⟨g, (p + 1) * 3 + 2, none⟩ = some (.int .i64 x2) := c2
          go_wp2
          go_roundw
          case rel => exact ⟨p + 1 + 1, by omega, by go_num, by rw [HS.out], _, rfl⟩
          case measure => simp [intOf]; omega
      · have hke : k = m.length := by omega
        subst hke
        have hsum : manyT m m.length = (l.length : Int) - 1 := by
          unfold manyT
          rw [List.take_length]
          exact roots_sum HL.out.n1 HP.out
        rw [hsum]
        obtain ⟨w2, hw2⟩ : ∃ w2, w2 = w1.drewN d := ⟨_, rfl⟩
        have HB2 : Hid (Below w.heap.size w w2) := by
          rw [hw2]
          exact HB1.out.trans ⟨rfl, rfl, rfl, Nat.le_refl _, fun _ _ => rfl⟩
        rw [← hw2]
        have h20 := HL.out.n20
        have hn1' := HL.out.n1
        clear hw2 hsum hlt hk HO HA HP
        go_wp2_with fail
        refine (pick_any n0 5 w2 (by omega) (by omega) HN0.out).mono ?_
        rintro e w3 ⟨z, rfl, hz, hw3⟩
        rw [hw3]
        obtain ⟨n, hn⟩ : ∃ n : Nat, (n : Int) = 1 + z := ⟨(1 + z).toNat, by omega⟩
        have hz1' := hz.1
        have hz2' := hz.2
        have HN : Hid ((n : Int) = 1 + z) := hn
        have hn5 : n ≤ 5 := by omega
        have hn1 : 1 ≤ n := by omega
        clear hz hn hw3 w3
        go_wp2_with fail
        rw [← HN.out]
        refine (pointsOf_any w.heap.size raw _ 0 n n 20 w2 (HR.out.below HB2.out (Nat.le_refl _)) HRI.out HRL.out (by omega) (by omega) (by omega) (by omega)).mono ?_
        rintro e w4 ⟨x, M, rfl, hml, hbox, hfr, hb4⟩
        have hsq : sqE M = 0 := box_sq hn1 hn5 hml hbox
        have hmt : Mat w4.heap.size 22 3 w4 x M := hfr.rws.mat hb4.size
        have HB4 : Hid (Below w.heap.size w w4) := HB2.out.trans (hb4.mono HB2.out.size)
        have HML : Hid (M.length = n) := hml
        have HF : Hid (Fair M) := fair_ok hsq
        have HTI : Hid (∀ i, i < n → (prR M).getD i 0 + (prC M).getD ((leastQ M).2.getD i 0).toNat 0 = ent M i ((leastQ M).2.getD i 0).toNat) := fun i hi => tight hsq (by omega)
        obtain ⟨hlc, hlv⟩ := leastC_ok hsq
        have HLC : Hid (LeastC M (leastQ M).2) := hlc
        have HLV : Hid ((leastQ M).1 = cst M M.length (leastQ M).2) := hlv
        have HLE : Hid (Calls Try.prog 8 #[x] w4 fun e w' => ∃ co cc, e = .returned (.tuple #[.int .i64 (leastQ M).1, .slice co n cc, .int .i64 0]) ∧ Sl 0 3 w' (.slice co n cc) (ints (leastQ M).2) ∧ Below w4.heap.size w4 w') :=
          (least_any M _ w4 hmt).mono (by
            rintro e w' ⟨cv, rfl, h1, h2⟩
            rw [hsq]
            rw [hlc.len, hml] at h1
            obtain ⟨co, cc, rfl⟩ := owns_form h1
            exact ⟨co, cc, rfl, Sl.own h1, h2⟩)
        have HPX : Hid (∀ w1, Below w4.heap.size w4 w1 → Calls Try.prog 9 #[x] w1 fun e w' => ∃ uo uc co cc, e = .returned (.tuple #[.slice uo n uc, .slice co n cc, .int .i64 0]) ∧ Sl 0 3 w' (.slice uo n uc) (ints (prR M)) ∧ Sl 0 3 w' (.slice co n cc) (ints (prC M)) ∧ Below w1.heap.size w1 w') := fun w1 hb =>
          (prices_any M _ w1 ((hmt.below hb (Nat.le_refl _)).more hb.size)).mono (by
            rintro e w' ⟨u, cv, rfl, h1, h2, h3⟩
            rw [HF.out.rl, hml] at h1
            rw [HF.out.cl, hml] at h2
            rw [hsq]
            obtain ⟨uo, uc, rfl⟩ := owns_form h1
            obtain ⟨co, cc, rfl⟩ := owns_form h2
            exact ⟨uo, uc, co, cc, rfl, Sl.own h1, Sl.own h2, h3⟩)
        obtain ⟨xo, xc, hx, -, -⟩ := mat_open hmt
        rw [hml] at hx
        subst hx
        have HMT : Hid (Mat w4.heap.size 22 3 w4 (.slice xo n xc) M) := hmt
        clear hfr hb4 hml hbox hsq hmt hlc hlv HN hz1' hz2' HL HB2
        generalize hZ : (leastQ M).1 = Z at *
        generalize hc : (leastQ M).2 = c at *
        clear hZ hc
        go_wp2_with fail
        refine HLE.out.mono ?_
        rintro e w5 ⟨co, cc, rfl, hs5, hb5⟩
        have HS5 : Hid (Sl 0 3 w5 (.slice co n cc) (ints c)) := hs5
        have HB5 : Hid (Below w4.heap.size w4 w5) := hb5
        clear hs5 hb5 HLE
        go_wp2_with fail
        refine (HPX.out w5 HB5.out).mono ?_
        rintro e w6 ⟨uo, uc, vo, vc, rfl, hu6, hv6, hb6⟩
        have HB6 : Hid (Below w4.heap.size w4 w6) := HB5.out.trans (hb6.mono HB5.out.size)
        have HS6 : Hid (Sl 0 3 w6 (.slice co n cc) (ints c)) := HS5.out.below hb6 (Nat.le_refl _)
        have HU6 : Hid (Sl 0 3 w6 (.slice uo n uc) (ints (prR M))) := hu6
        have HV6 : Hid (Sl 0 3 w6 (.slice vo n vc) (ints (prC M))) := hv6
        have HM6 : Hid (Mat w4.heap.size 22 3 w6 (.slice xo n xc) M) := HMT.out.below HB6.out (Nat.le_refl _)
        have HFU : Hid (Calls Try.prog 10 #[.slice uo n uc, .int .i64 1000000000] w6 fun e w' => e = .returned (.bool false) ∧ w' = w6) :=
          (farAny_any 0 (prR M) _ 1000000000 w6 hu6 (by decide) (by decide)).mono (by
            rintro e w' ⟨rfl, rfl⟩
            refine ⟨ret_bool ?_, rfl⟩
            rw [List.any_eq_false]
            intro z hz
            have := HF.out.rb z hz
            simp [farB]
            omega)
        have HFV : Hid (Calls Try.prog 10 #[.slice vo n vc, .int .i64 1000000000] w6 fun e w' => e = .returned (.bool false) ∧ w' = w6) :=
          (farAny_any 0 (prC M) _ 1000000000 w6 hv6 (by decide) (by decide)).mono (by
            rintro e w' ⟨rfl, rfl⟩
            refine ⟨ret_bool ?_, rfl⟩
            rw [List.any_eq_false]
            intro z hz
            have := HF.out.cb z hz
            simp [farB]
            omega)
        clear hb6 hu6 hv6 HPX HS5 HB5 HMT
        have hnn : ((n : Int) != (n : Int)) = false := by simp
        go_wp2_with fail
        refine HFU.out.mono ?_
        rintro e w' ⟨rfl, hww⟩
        rw [hww]
        clear hww w' HFU
        go_wp2_with fail
        refine HFV.out.mono ?_
        rintro e w' ⟨rfl, hww⟩
        rw [hww]
        clear hww w' HFV
        have HT1 : Hid (pickF t0 1 = 0) := by
          have := pickF_bd (c := t0) (n := 1) (by omega)
          show _ = _
          omega
        have htb := pickF_bd (c := t0) (n := (n : Int)) (by omega)
        obtain ⟨T, hT⟩ : ∃ T : Nat, (T : Int) = pickF t0 n := ⟨(pickF t0 n).toNat, by omega⟩
        have HPG : Hid (∀ W' x, 1 ≤ x → x ≤ 5 → Calls Try.prog 6 #[.int .i64 t0, .int .i64 x] W' fun e w' => e = .returned (.int .i64 (pickF t0 x)) ∧ w' = W') := fun W' x h1 h2 => pick_val t0 x W' h1 (by omega) HT0.out
        have HT2 : Hid (pickF t0 n = T) := hT.symm
        have hTn : T < n := by omega
        clear htb hT
        go_wp2
        go_loopw [19, 20, 21] (fun ot su i wr => ∃ k : Nat, k ≤ n ∧ i = .int .i64 k ∧ su = .int .i64 (costF M (fun i => (c.getD i 0).toNat) k) ∧ ot = .int .i64 (costF M (fun i => (i + T) % n) k) ∧ ∃ d, wr = w6.drewN d) (fun _ _ i _ => n - (intOf i).toNat)
        case atStart => exact ⟨0, Nat.zero_le _, rfl, rfl, rfl, 0, rfl⟩
        case round =>
          obtain ⟨k, hk, rfl, rfl, rfl, d, rfl⟩ := hrel
          by_cases hlt : k < n
          · have hMk : k < M.length := by rw [HML.out]; exact hlt
            have hcl : c.length = n := by rw [HLC.out.len, HML.out]
            have hord := HLC.out.ord
            have hmem : c.getD k 0 ∈ c := by simp [show k < c.length by omega]
            have hrng := hord.1 _ hmem
            rw [HML.out] at hrng
            obtain ⟨j, hj⟩ : ∃ j : Nat, j = (c.getD k 0).toNat := ⟨_, rfl⟩
            have hcj : c.getD k 0 = (j : Int) := by omega
            have hjn : j < n := by omega
            have HS1 : Hid (costF M (fun i => (c.getD i 0).toNat) (k + 1) = costF M (fun i => (c.getD i 0).toNat) k + ent M k j) := by
              show costF M (fun i => (c.getD i 0).toNat) k + ent M k (c.getD k 0).toNat = _
              rw [← hj]
            have HS2 : Hid (costF M (fun i => (i + T) % n) (k + 1) = costF M (fun i => (i + T) % n) k + ent M k ((k + T) % n)) := rfl
            have htn : (k + T) % n < n := Nat.mod_lt _ (by omega)
            have hti := HTI.out k hlt
            rw [← hj] at hti
            obtain ⟨W, hW⟩ : ∃ W, W = w6.drewN d := ⟨_, rfl⟩
            have HIN : Hid (∀ q, Calls Try.prog 11 #[.int .i64 j, .slice co k cc] (W.drewN q) fun e w' => e = .returned (.bool false) ∧ w' = W.drewN q) := fun q => by
              have h0 : Sl 0 3 (W.drewN q) (.slice co c.length cc) (ints c) := by rw [hcl, hW]; exact (HS6.out.drewN d).drewN q
              have h1 := inT_any 0 (j : Int) (c.take k) (.slice co k cc) (W.drewN q) (h0.takeT (by omega))
              rw [← hcj, nodup_in hord.2 (by omega), hcj] at h1
              exact h1
            obtain ⟨cb, cq, ccp, hs, hcap, hcc⟩ := sl_cell HS6.out (k := k) (by omega)
            simp only [Value.slice.injEq] at hs
            obtain ⟨rfl, -, rfl⟩ := hs
            have hkc : k ≤ cc := by omega
            have hkcI : (k : Int) ≤ (cc : Int) := by omega
            clear hcap
            rw [hcj] at hcc
            have hU := HU6.out
            have hV := HV6.out
            obtain ⟨b1, o1, c1, hs1, _, hcc1⟩ := sl_cell hU (k := k) (by rw [HF.out.rl]; exact hMk)
            simp only [Value.slice.injEq] at hs1
            obtain ⟨rfl, -, rfl⟩ := hs1
            obtain ⟨b2, o2, c2, hs2, _, hcc2⟩ := sl_cell hV (k := j) (by rw [HF.out.cl, HML.out]; exact hjn)
            simp only [Value.slice.injEq] at hs2
            obtain ⟨rfl, -, rfl⟩ := hs2
            obtain ⟨b3, o3, c3, r, hs3, _, hcc3, hr⟩ := mat_cell HM6.out (k := k) hMk
            simp only [Value.slice.injEq] at hs3
            obtain ⟨rfl, -, rfl⟩ := hs3
            have hrl : (M.getD k []).length = n := by
              have e : M.getD k [] = M[k]'hMk := by simp [hMk]
              rw [e, HLC.out.sq.len _ (List.getElem_mem _), HML.out]
            obtain ⟨b4, o4, c4, hs4, _, hcc4⟩ := sl_cell hr (k := j) (by omega)
            obtain ⟨b5, o5, c5, hs5, _, hcc5⟩ := sl_cell hr (k := (k + T) % n) (by omega)
            subst hs4
            simp only [Value.slice.injEq, Option.some.injEq, Addr.mk.injEq] at hs5
            obtain ⟨⟨rfl, rfl, -⟩, -, rfl⟩ := hs5
            rw [hrl] at hcc3
            rw [show (M.getD k []).getD j 0 = ent M k j from rfl] at hcc4
            rw [show (M.getD k []).getD ((k + T) % n) 0 = ent M k ((k + T) % n) from rfl] at hcc5
            have be1 := HLC.out.sq.ent (i := k) (j := j)
            have be2 := HLC.out.sq.ent (i := k) (j := (k + T) % n)
            have bx := HF.out.rb ((prR M).getD k 0) (by simp [show k < (prR M).length by rw [HF.out.rl]; exact hMk])
            have by' := HF.out.cb ((prC M).getD j 0) (by simp [show j < (prC M).length by rw [HF.out.cl, HML.out]; exact hjn])
            have bc1 := costF_bd HLC.out.sq (fun i => (c.getD i 0).toNat) k
            have bc2 := costF_bd HLC.out.sq (fun i => (i + T) % n) k
            have hrem : ((k : Int) + (T : Int)).tmod (n : Int) = (((k + T) % n : Nat) : Int) := by
              rw [Int.tmod_eq_emod_of_nonneg (by omega)]; simp
            rw [← hW]
            have d0 : W.cell? ⟨cb, cq + k, none⟩ = some (.int .i64 j) := by rw [hW]; exact hcc
            have d1 : W.cell? ⟨b1, o1 + k, none⟩ = some (.int .i64 ((prR M).getD k 0)) := by rw [hW]; exact hcc1
            have d2 : W.cell? ⟨b2, o2 + j, none⟩ = some (.int .i64 ((prC M).getD j 0)) := by rw [hW]; exact hcc2
            have d3 : W.cell? ⟨b3, o3 + k, none⟩ = some (.slice (some ⟨b4, o4, none⟩) n c4) := by rw [hW]; exact hcc3
            have d4 : W.cell? ⟨b4, o4 + j, none⟩ = some (.int .i64 (ent M k j)) := by rw [hW]; exact hcc4
            have d5 : W.cell? ⟨b4, o4 + (k + T) % n, none⟩ = some (.int .i64 (ent M k ((k + T) % n))) := by rw [hW]; exact hcc5
            have HWD : Hid (W = w6.drewN d) := hW
            clear hcc hcc1 hcc2 hcc3 hcc4 hcc5 hW hord hmem hrng hj hcj hU hV hr hrl hMk hcl
            generalize (k + T) % n = t at *
            generalize ent M k j = E at *
            generalize ent M k t = E2 at *
            generalize (prR M).getD k 0 = X at *
            generalize (prC M).getD j 0 = Y at *
            generalize costF M (fun i => (c.getD i 0).toNat) k = C1 at *
            generalize costF M (fun i => (i + T) % n) k = C2 at *
            have bx1 : -130000 ≤ X ∧ X ≤ 130000 := by omega
            have by1 : -130000 ≤ Y ∧ Y ≤ 130000 := by omega
            have bq1 : -100000 ≤ C1 ∧ C1 ≤ 100000 := by omega
            have bq2 : -100000 ≤ C2 ∧ C2 ≤ 100000 := by omega
            clear bx by' bc1 bc2
            have kI : (k : Int) < (n : Int) := by omega
            have kI0 : (0 : Int) ≤ (k : Int) := by omega
            have jI : (j : Int) < (n : Int) := by omega
            have jI0 : (0 : Int) ≤ (j : Int) := by omega
            have tI : (t : Int) < (n : Int) := by omega
            have tI0 : (0 : Int) ≤ (t : Int) := by omega
            have q1 : decide ((j : Int) < 0) = false := decide_eq_false (by omega)
            have q2 : decide ((n : Int) ≤ (j : Int)) = false := decide_eq_false (by omega)
            have q2n : decide (n ≤ j) = false := decide_eq_false (by omega)
            have q3 : (X + Y != E) = false := by rw [hti]; simp
            have q4 : ((n : Int) == 0) = false := by rw [beq_eq_false_iff_ne]; omega
            clear hti
            go_wp2_with fail
            go_big_quiet ((go_at_call 11; exact Calls.quiet_of_same (w := W) (HIN.out _)))
            obtain ⟨W2, hW2⟩ : ∃ W2, W2 = W.drewN nq := ⟨_, rfl⟩
            rw [← hW2]
            have HW2 : Hid (∃ d', W2 = w6.drewN d') := ⟨d + nq, by rw [hW2, HWD.out, World.drewN_drewN]⟩
            have g0 : W2.cell? ⟨cb, cq + k, none⟩ = some (.int .i64 j) := by rw [hW2]; exact d0
            have g3 : W2.cell? ⟨b3, o3 + k, none⟩ = some (.slice (some ⟨b4, o4, none⟩) n c4) := by rw [hW2]; exact d3
            have g4 : W2.cell? ⟨b4, o4 + j, none⟩ = some (.int .i64 E) := by rw [hW2]; exact d4
            have g5 : W2.cell? ⟨b4, o4 + t, none⟩ = some (.int .i64 E2) := by rw [hW2]; exact d5
            clear d0 d1 d2 d3 d4 d5 hW2 HIN HWD
            go_wp2_with fail
            go_big_quiet (fail)
            obtain ⟨W3, hW3⟩ : ∃ W3, W3 = W2.drewN nq := ⟨_, rfl⟩
            rw [← hW3]
            have HW3 : Hid (∃ d', W3 = w6.drewN d') := by
              obtain ⟨d', hd'⟩ := HW2.out
              exact ⟨d' + nq, by rw [hW3, hd', World.drewN_drewN]⟩
            have k3 : W3.cell? ⟨b3, o3 + k, none⟩ = some (.slice (some ⟨b4, o4, none⟩) n c4) := by rw [hW3]; exact g3
            have k5 : W3.cell? ⟨b4, o4 + t, none⟩ = some (.int .i64 E2) := by rw [hW3]; exact g5
            clear g0 g3 g4 g5 hW3 HW2
            have hp1 := HT1.out
            have hp2 := HT2.out
            go_wp2_with fail
            go_big_quiet ((go_at_call 6; exact Calls.quiet_of_same (w := W3) (HPG.out _ _ (by omega) (by omega))))
            go_wp2
            go_roundw
            case rel =>
              obtain ⟨d', hd'⟩ := HW3.out
              exact ⟨k + 1, by omega, by go_num, by rw [HS1.out], by rw [HS2.out], _, by rw [hd', World.drewN_drewN]⟩
            case measure => simp [intOf]; omega
          · have hke : k = n := by omega
            subst hke
            have hz1 : Z = costF M (fun i => (c.getD i 0).toNat) k := by
              rw [HLV.out, HML.out]; rfl
            have hz2 : Z ≤ costF M (fun i => (i + T) % k) k := by
              rw [hz1]
              have := HLC.out.min (fun i => (i + T) % k) (by rw [HML.out]; exact ins_turn hn1)
              rw [HML.out] at this
              exact this
            rw [← hz1]
            generalize costF M (fun i => (i + T) % k) k = C2 at *
            have q1 : decide (Z ≤ C2) = true := decide_eq_true hz2
            have HE : Hid (Below w.heap.size w (w6.drewN d)) := (HB4.out.trans (HB6.out.mono HB4.out.size)).trans ⟨rfl, rfl, rfl, Nat.le_refl _, fun _ _ => rfl⟩
            clear hz1
            go_wp2
            go_ret
            exact ⟨rfl, HE.out⟩
  · have hm0 := hz hq
    subst hm0
    obtain ⟨mo, mc, hmv, hm1, hm2⟩ := met_form ho
    subst hmv
    have hqn : (listTE l != 0) = true := by simpa using hq
    have HCT : Hid (Calls Try.prog 5 #[.slice po l.length pc] w1 fun e w' => e = .returned (.int .i64 (listTE l)) ∧ Below w.heap.size w w') :=
      (checkT_any w.heap.size l _ w1 (HV.out.below HB1.out (Nat.le_refl _))).mono (by
        rintro e w' ⟨h1, h2⟩
        exact ⟨h1, HB1.out.trans (h2.mono HB1.out.size)⟩)
    clear ho hz hok hq
    generalize listTE l = q at *
    simp only [List.length_nil]
    go_wp2_with fail
    refine HCT.out.mono ?_
    rintro e w2 ⟨rfl, hb2⟩
    have HB2 : Hid (Below w.heap.size w w2) := hb2
    clear hb2 HCT
    go_wp2
    go_ret
    exact ⟨ret_bool (by simp), HB2.out⟩

end Go.Proofs.Ytbecmbjmkibmmaa
