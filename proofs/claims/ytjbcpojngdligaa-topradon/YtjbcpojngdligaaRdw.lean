/- TopRadon: the law's walk. -/
import Derived.Test.YtjbcpojngdligaaRdp
import Derived.Test.YtjbcpojngdligaaCutA
import Derived.Test.YtjbcpojngdligaaWhA
import Derived.Test.YtjbcpojngdligaaTwA
namespace Go.Proofs.Ytjbcpojngdligaa
open Go.RowKit Lin
attribute [local go_sem ↓] Go.wp_at_zero Go.wp_at_succ

/-- Is one of the first numbers above 0? -/
def posB (l : List Int) (i : Nat) : Bool := (l.take i).any fun z => decide (0 < z)
theorem posB_succ {l : List Int} {i : Nat} (hi : i < l.length) : posB l (i + 1) = (posB l i || decide (0 < l.getD i 0)) := by
  unfold posB
  rw [List.take_succ_eq_append_getElem hi, List.any_append]
  simp [hi]
theorem posB_all {l : List Int} {i : Nat} (hi : i < l.length) (h : 0 < V l i) : posB l l.length = true := by
  unfold posB
  rw [List.take_length, List.any_eq_true]
  exact ⟨V l i, by simp [V, hi], by simpa using h⟩

theorem fr_matR {B : Nat} {w : World} {v : Value} {m : List (List Int)} (h : Fr B 22 3 w v m) : Mat 0 22 3 w v m := by
  obtain ⟨vs, h1, h2, h3⟩ := h
  exact ⟨vs, h1, Sl.own h2, h3⟩

theorem rd_sum_bd {d : Nat} {p : List (List Int)} {l : List Int} (hb : Box d 4 p) (hl : p.length = d + 2) (hf : RdF d p l) (k : Nat) : ∀ i, i ≤ d + 2 → (sumN i (fun i => V l i * (p.getD i []).getD k 0)).natAbs ≤ i * 24576 := fun i => by
  induction i with
  | zero => intro _; simp [sumN]
  | succ i ih =>
    intro hi
    have h1 := ih (by omega)
    have h2 : (V l i).natAbs ≤ 6144 := hf.bd _ (getD_mem (by rw [hf.len]; omega))
    have h3 : ((p.getD i []).getD k 0).natAbs ≤ 4 := by
      have hm : p.getD i [] ∈ p := by simp [show i < p.length by omega]
      by_cases hk : k < (p.getD i []).length
      · have := (hb _ hm).2 ((p.getD i []).getD k 0) (getD_mem hk)
        omega
      · rw [List.getD_eq_getElem?_getD (l := p.getD i []), List.getElem?_eq_none (by omega)]
        decide
    have h4 : (V l i * (p.getD i []).getD k 0).natAbs ≤ 24576 := by
      rw [Int.natAbs_mul]
      exact Nat.le_trans (Nat.mul_le_mul h2 h3) (by decide)
    simp only [sumN]
    omega

set_option maxRecDepth 100000 in
set_option maxHeartbeats 8000000 in
theorem topRadon_any (B : Nat) (raw xs : List Int) (d0 m0 : Int) (v u : Value) (w : World) (hv : Sl B 3 w v (ints raw)) (hu : Sl B 3 w u (ints xs)) (hr : ∀ z ∈ raw, In64 z) (hx : ∀ z ∈ xs, In64 z) (hd : In64 d0) (hm : In64 m0) :
    Calls Try.prog 3 #[v, .int .i64 d0, .int .i64 m0, u] w fun e w' => e = .returned (.bool true) ∧ Below w.heap.size w w' := by
  obtain ⟨ao, cap, hvv, hlc, hcm⟩ := sl_open hv
  subst hvv
  obtain ⟨bo, cbp, huu, hlb, hcb⟩ := sl_open hu
  subst huu
  have HV : Hid (Sl B 3 w (.slice ao raw.length cap) (ints raw)) := hv
  have HU : Hid (Sl B 3 w (.slice bo xs.length cbp) (ints xs)) := hu
  have HR : Hid (∀ z ∈ raw, In64 z) := hr
  have HX : Hid (∀ z ∈ xs, In64 z) := hx
  have HM : Hid (In64 m0) := hm
  have HD : Hid (In64 d0) := hd
  clear hv hu hr hx hm hd
  obtain ⟨sv, hsv⟩ : ∃ sv, IntKind.i64.wrap ((raw.length : Int) + (xs.length : Int)) = sv := ⟨_, rfl⟩
  have hrl : raw.length ≤ 9223372036854775807 := by omega
  have hxl : xs.length ≤ 9223372036854775807 := by omega
  by_cases hb : 256 < sv
  · go_enter Try.func3, Try.ntmps3
    go_wp2
    go_ret
    exact ⟨rfl, Below.refl _ _⟩
  have hpk : ∀ (c n : Int) (w : World), In64 c → 1 ≤ n → n ≤ 100 → ∃ p : Nat, (p : Int) < n ∧ ∀ w : World, Calls Try.prog 4 #[.int .i64 c, .int .i64 n] w fun e w' => e = .returned (.int .i64 p) ∧ w' = w := fun c n w hc h1 h2 => by
    have hb := pickF_bd (c := c) (n := n) h1
    refine ⟨(pickF c n).toNat, by omega, fun w => ?_⟩
    rw [show (((pickF c n).toNat : Nat) : Int) = pickF c n by omega]
    exact pick_val c n w h1 (by omega) hc
  obtain ⟨p3, hp3, H3⟩ := hpk d0 3 w HD.out (by omega) (by omega)
  obtain ⟨p5, hp5, H5⟩ := hpk m0 5 w HM.out (by omega) (by omega)
  obtain ⟨d, hd⟩ : ∃ d : Nat, d = 1 + p3 := ⟨_, rfl⟩
  have hdI : 1 + (p3 : Int) = (d : Int) := by omega
  have hd1 : 1 ≤ d := by omega
  have hd3 : d ≤ 3 := by omega
  have HP3 : Hid (∀ w : World, Calls Try.prog 4 #[.int .i64 d0, .int .i64 3] w fun e w' => e = .returned (.int .i64 p3) ∧ w' = w) := H3
  have HP5 : Hid (∀ w : World, Calls Try.prog 4 #[.int .i64 m0, .int .i64 5] w fun e w' => e = .returned (.int .i64 p5) ∧ w' = w) := H5
  have HPP : Hid (∀ W, Below w.heap.size w W → Calls Try.prog 5 #[.slice ao raw.length cap, .int .i64 0, .int .i64 d, .int .i64 ((d : Int) + 2), .int .i64 4] W fun e w' => ∃ yo yc p, e = .returned (.slice yo (d + 2) yc) ∧ p.length = d + 2 ∧ Box d 4 p ∧ Mat 0 22 3 w' (.slice yo (d + 2) yc) p ∧ Below W.heap.size W w') := fun W hb => by
    have h := pointsOf_new B raw (.slice ao raw.length cap) 0 d (d + 2) 4 W (HV.out.below hb (Nat.le_refl _)) HR.out (by omega) (by omega) (by omega) (by omega) (by omega)
    rw [show ((d + 2 : Nat) : Int) = (d : Int) + 2 by omega] at h
    refine h.mono ?_
    rintro e w' ⟨x, m, rfl, g1, g2, g3, g4⟩
    have g5 := fr_matR g3.fr
    obtain ⟨yo, yc, rfl, _, _⟩ := mat_open g5
    rw [g1] at g5 ⊢
    exact ⟨yo, yc, m, rfl, g1, g2, g5, g4⟩
  have HPO : Hid (∀ W, Below w.heap.size w W → Calls Try.prog 9 #[.slice ao raw.length cap, .int .i64 9, .int .i64 d, .int .i64 p5, .int .i64 3] W fun e w' => ∃ xo xc P, e = .returned (.agg #[.int .i64 d, .slice xo P.length xc]) ∧ Mat w'.heap.size 22 3 w' (.slice xo P.length xc) P ∧ Good d P ∧ PmOk d P ∧ Below W.heap.size W w') := fun W hb => by
    refine (polytopeOfF_any B raw _ 9 d p5 3 W (HV.out.below hb (Nat.le_refl _)) HR.out (by omega) (by omega) hd1 (by omega) (by omega) (by omega)).mono ?_
    rintro e w' ⟨x, m, rfl, g1, g2, g3, g4⟩
    obtain ⟨xo, xc, rfl, _, _⟩ := mat_open g3
    have hbx := poly_box g2 (by decide)
    refine ⟨xo, xc, _, rfl, g3, poly_good hd1 (by omega) g2 (by decide) (by omega), ⟨?_, ?_, hd1, hd3, fun r hr => (hbx r hr).1, fun r hr z hz => by have := (hbx r hr).2 z hz; omega⟩, g4⟩
    · rw [poly_len]; omega
    · rw [poly_len]; omega
  have HPX : Hid (∀ W, Below w.heap.size w W → Calls Try.prog 5 #[.slice bo xs.length cbp, .int .i64 0, .int .i64 d, .int .i64 1, .int .i64 3] W fun e w' => ∃ yo yc y, e = .returned (.slice yo 1 yc) ∧ y.length = d ∧ (∀ z ∈ y, z.natAbs ≤ 3) ∧ Mat 0 22 3 w' (.slice yo 1 yc) [y] ∧ Below W.heap.size W w') := fun W hb => by
    refine (pointsOf_new B xs _ 0 d 1 3 W (HU.out.below hb (Nat.le_refl _)) HX.out (by omega) (by omega) (by omega) (by omega) (by omega)).mono ?_
    rintro e w' ⟨x, m, rfl, g1, g2, g3, g4⟩
    rcases m with _ | ⟨y, _ | ⟨q, m⟩⟩
    · simp at g1
    · have h := g2 y (by simp)
      have g5 := fr_matR g3.fr
      obtain ⟨yo, yc, rfl, _, _⟩ := mat_open g5
      exact ⟨yo, yc, y, rfl, h.1, fun z hz => by have := h.2 z hz; omega, g5, g4⟩
    · simp at g1
  clear H3 H5 hpk hd
  go_enter Try.func3, Try.ntmps3
  go_wp2_with fail
  refine (HP3.out _).mono ?_
  rintro e w2 ⟨rfl, he⟩
  rw [he]
  clear he w2
  go_wp2_with fail
  refine (HPP.out w (Below.refl _ _)).mono ?_
  rintro e w1 ⟨po, pc, p, rfl, hp1, hp2, hp4, hp5'⟩
  have HB1 : Hid (Below w.heap.size w w1) := hp5'
  have HBX : Hid (Box d 4 p) := hp2
  have HPL : Hid (p.length = d + 2) := hp1
  have HMP : Hid (Mat 0 22 3 w1 (.slice po (d + 2) pc) p) := hp4
  obtain ⟨hE, hF⟩ := radon_facts hp2 hp1 hd1 hd3
  have HRA : Hid (Calls Try.prog 6 #[.slice po (d + 2) pc] w1 fun e w' => ∃ lo lc, e = .returned (.tuple #[.slice lo (radL p).length lc, .int .i64 (radE p)]) ∧ Sl 0 3 w' (.slice lo (radL p).length lc) (ints (radL p)) ∧ Below w1.heap.size w1 w') := by
    refine (radon_any p _ w1 (hp4.more (Nat.zero_le _))).mono ?_
    rintro e w' ⟨x, rfl, h1, h2⟩
    obtain ⟨lo, lc, rfl, _, _⟩ := sl_open h1
    exact ⟨lo, lc, rfl, h1, h2⟩
  clear hp1 hp2 hp4 hp5' HPP HP3
  go_wp2_with fail
  refine HRA.out.mono ?_
  rintro e W ⟨lo, lc, rfl, hl, hbW⟩
  have HBW0 : Hid (Below w.heap.size w W) := HB1.out.trans (hbW.mono HB1.out.size)
  have HL : Hid (Sl 0 3 W (.slice lo (radL p).length lc) (ints (radL p))) := hl
  have HMW : Hid (Mat 0 22 3 W (.slice po (d + 2) pc) p) := HMP.out.below hbW (Nat.le_refl _)
  clear hl hbW HRA HMP HB1
  rcases hE with hE | hE
  · have hf := hF hE
    rw [hE]
    obtain ⟨l, hl⟩ : ∃ l, l = radL p := ⟨_, rfl⟩
    rw [← hl] at hf HL ⊢
    have HF : Hid (RdF d p l) := hf
    have hll := hf.len
    rw [hll] at HL ⊢
    have HSU : Hid (Calls Try.prog 7 #[.slice lo (d + 2) lc] W fun e w' => e = .returned (.int .i64 0) ∧ ∃ n, w' = W.drewN n) := by
      refine (sumT_any 0 l _ W HL.out (by omega) (fun z hz => by have := hf.bd z hz; omega)).mono ?_
      rintro e w' ⟨rfl, n, rfl⟩
      exact ⟨by rw [hf.sum], n, rfl⟩
    have HFA : Hid (∀ X, (∃ n, X = W.drewN n) → Calls Try.prog 8 #[.slice lo (d + 2) lc, .int .i64 1000000] X fun e w' => e = .returned (.bool false) ∧ w' = X) := fun X ⟨n, hX⟩ => by
      subst hX
      refine (farAny_any 0 l _ 1000000 (W.drewN n) (HL.out.drewN n) (by omega) (by omega)).mono ?_
      rintro e w' ⟨rfl, rfl⟩
      refine ⟨?_, rfl⟩
      have : (l.any (farB · 1000000)) = false := by
        rw [List.any_eq_false]
        intro z hz
        have := hf.bd z hz
        simp [farB]
        omega
      rw [this]
    have HPOS : Hid (posB l (d + 2) = true) := by
      obtain ⟨i, hi, hp⟩ := hf.pos
      show _ = _
      rw [← hll]
      exact posB_all (by omega) hp
    have HLL : Hid (l.length = d + 2) := hll
    have HSB : Hid (∀ k i, i ≤ d + 2 → (sumN i (fun i => V l i * (p.getD i []).getD k 0)).natAbs ≤ 122880) := fun k i hi => by
      have := rd_sum_bd HBX.out HPL.out hf k i hi
      omega
    clear hE hF hf hl hll
    go_wp2_with fail
    refine HSU.out.mono ?_
    rintro e w2 ⟨rfl, n1, rfl⟩
    go_wp2_with fail
    refine (HFA.out _ ⟨n1, rfl⟩).mono ?_
    rintro e w2 ⟨rfl, rfl⟩
    clear HSU HFA
    go_wp2
    go_loopw [13, 12, 14, 15] (fun k mr _ _ wr => ∃ kk : Nat, kk ≤ d ∧ k = .int .i64 kk ∧ mr = .bool (decide (0 < kk)) ∧ ∃ n, wr = W.drewN n) (fun k _ _ _ _ => d - (intOf k).toNat)
    case atStart => exact ⟨0, by omega, rfl, rfl, n1, rfl⟩
    case round =>
      obtain ⟨kk, hkk, rfl, rfl, n, rfl⟩ := hrel
      by_cases hlt : kk < d
      · have hltI : (kk : Int) < (d : Int) := by omega
        have HCO : Hid (sumN (d + 2) (fun i => V l i * (p.getD i []).getD kk 0) = 0) := HF.out.col kk hlt
        obtain ⟨m0', hm0'⟩ : ∃ m0' : Bool, m0' = decide (0 < kk) := ⟨_, rfl⟩
        rw [← hm0']
        clear hm0'
        go_wp2
        go_loopw [12, 14, 15] (fun mr s i wr => ∃ j : Nat, j ≤ d + 2 ∧ i = .int .i64 j ∧ s = .int .i64 (sumN j (fun i => V l i * (p.getD i []).getD kk 0)) ∧ mr = .bool (m0' || posB l j) ∧ ∃ n, wr = W.drewN n) (fun _ _ i _ => d + 2 - (intOf i).toNat)
        case atStart => exact ⟨0, by omega, rfl, rfl, by simp [posB], n, rfl⟩
        case round =>
          obtain ⟨j, hj, rfl, rfl, rfl, n', rfl⟩ := hrel
          by_cases hjl : j < d + 2
          · obtain ⟨lb, lo', lcp, hls, _, hlc'⟩ := sl_cell HL.out (k := j) (by rw [HLL.out]; exact hjl)
            rw [HLL.out] at hls
            simp only [Value.slice.injEq] at hls
            obtain ⟨rfl, -, rfl⟩ := hls
            obtain ⟨qb, qo, qcp, q1, hqs, _, hqc, hq1⟩ := mat_cell HMW.out (k := j) (by rw [HPL.out]; exact hjl)
            rw [HPL.out] at hqs
            simp only [Value.slice.injEq] at hqs
            obtain ⟨rfl, -, rfl⟩ := hqs
            have hjm : p.getD j [] ∈ p := by simp [show j < p.length by have := HPL.out; omega]
            have hjlen := (HBX.out _ hjm).1
            obtain ⟨rb, ro, rcp, rfl, _, hrc⟩ := sl_cell hq1 (k := kk) (by omega)
            rw [hjlen] at hqc
            have hb1 := HSB.out kk j hj
            have hb2 := HSB.out kk (j + 1) hjl
            have HS1 : Hid (sumN (j + 1) (fun i => V l i * (p.getD i []).getD kk 0) = sumN j (fun i => V l i * (p.getD i []).getD kk 0) + V l j * (p.getD j []).getD kk 0) := rfl
            rw [HS1.out] at hb2
            have hvl : V l j = l.getD j 0 := rfl
            rw [hvl] at HS1 hb2
            have HPS : Hid (posB l (j + 1) = (posB l j || decide (0 < l.getD j 0))) := posB_succ (by rw [HLL.out]; exact hjl)
            have hb3 : (l.getD j 0 * (p.getD j []).getD kk 0).natAbs ≤ 245760 := by omega
            have hlbd : (l.getD j 0).natAbs ≤ 6144 := HF.out.bd _ (getD_mem (by rw [HLL.out]; exact hjl))
            generalize l.getD j 0 = lj at *
            generalize (p.getD j []).getD kk 0 = pj at *
            generalize sumN j (fun i => V l i * (p.getD i []).getD kk 0) = S at *
            generalize posB l j = pb at *
            have e2 : wrap64 (S + wrap64 (lj * pj)) = S + lj * pj := by
              rw [IntWalk.wrap64_in (lj * pj) ⟨by omega, by omega⟩, IntWalk.wrap64_in _ ⟨by omega, by omega⟩]
            have hjI : (j : Int) < (d : Int) + 2 := by omega
            have hj0 : (0 : Int) ≤ (j : Int) := by omega
            have hk0 : (0 : Int) ≤ (kk : Int) := by omega
            clear hb1 hb2 hb3 hjm hjlen hvl hq1
            go_wp2
            go_quiet (fail)
            cases hmb : (m0' || pb)
            · have HME : Hid ((m0' || posB l (j + 1)) = decide (0 < lj)) := by
                show _ = _
                rw [HPS.out, ← Bool.or_assoc, hmb, Bool.false_or]
              clear hmb
              go_wp2
              go_roundw
              case rel => exact ⟨j + 1, by omega, by go_num, by rw [HS1.out, e2], by rw [HME.out], _, rfl⟩
              case measure => simp [intOf]; omega
            · have HME : Hid ((m0' || posB l (j + 1)) = true) := by
                show _ = _
                rw [HPS.out, ← Bool.or_assoc, hmb, Bool.true_or]
              clear hmb
              go_wp2
              go_roundw
              case rel => exact ⟨j + 1, by omega, by go_num, by rw [HS1.out, e2], by rw [HME.out], _, rfl⟩
              case measure => simp [intOf]; omega
          · have hje : j = d + 2 := by omega
            subst hje
            rw [HCO.out, HPOS.out, Bool.or_true]
            go_wp2
            go_roundw
            case rel => exact ⟨kk + 1, by omega, by go_num, by simp, _, rfl⟩
            case measure => simp [intOf]; omega
      · have hke : d = kk := by omega
        subst hke
        have hdk : decide (0 < d) = true := decide_eq_true (by omega)
        rw [hdk]
        have HBN : Hid (Below w.heap.size w (W.drewN n)) := HBW0.out.trans ⟨rfl, rfl, rfl, Nat.le_refl _, fun _ _ => rfl⟩
        obtain ⟨WX, hWX⟩ : ∃ WX, WX = W.drewN n := ⟨_, rfl⟩
        rw [← hWX] at HBN ⊢
        clear hWX HL HMW HPOS HSB hlt hdk HF HLL HBW0
        have HBW0 := HBN
        clear HBN
        go_wp2_with fail
        refine (HP5.out _).mono ?_
        rintro e w2 ⟨rfl, he⟩
        rw [he]
        clear he w2
        go_wp2_with fail
        refine (HPO.out WX HBW0.out).mono ?_
        rintro e w3 ⟨xo, xc, P, rfl, hP1, hP2, hP3, hP4⟩
        obtain ⟨R, hR⟩ : ∃ R, R = w3.heap.size := ⟨_, rfl⟩
        obtain ⟨W4, hW4⟩ : ∃ W4, W4 = w3.alloc (.cells #[.int .i64 d, .slice xo P.length xc] 32) := ⟨_, rfl⟩
        have hb4 : Below w3.heap.size w3 W4 := by rw [hW4]; exact alloc_keep _ _
        have hk4 : W4.heap[R]? = some (.cells #[.int .i64 d, .slice xo P.length xc] 32 (0, 0)) := by rw [hW4, hR]; exact alloc_new _ _
        have HG : Hid (Good d P) := hP2
        have HPM : Hid (PmOk d P) := hP3
        have HB4 : Hid (Below w.heap.size w W4) := HBW0.out.trans ((hP4.trans (hb4.mono hP4.size)).mono HBW0.out.size)
        have HM4 : Hid (∀ X, Below W4.heap.size W4 X → Mat X.heap.size 22 3 X (.slice xo P.length xc) P) := fun X hX => ((hP1.below hb4 (Nat.le_refl _)).any (Nat.le_refl _) |>.below hX (Nat.le_refl _)).any (Nat.le_refl _)
        have HC4 : Hid (∀ X, Below W4.heap.size W4 X → X.cell? ⟨R, 0, none⟩ = some (.int .i64 d) ∧ X.cell? ⟨R, 1, none⟩ = some (.slice xo P.length xc)) := fun X hX => by
          have h0 := (hX.block R (Array.getElem?_eq_some_iff.1 hk4).1).trans hk4
          exact ⟨by simp [World.cell?, h0], by simp [World.cell?, h0]⟩
        have HW4 : Hid (W4 = w3.alloc (.cells #[.int .i64 d, .slice xo P.length xc] 32)) := hW4
        have HRR : Hid (R = w3.heap.size) := hR
        clear hP1 hP2 hP3 hP4 hb4 hk4 hR hW4
        go_upto_region 26 with fail
        rw [← HW4.out]
        rw [← HRR.out]
        clear HW4 HRR
        go_wp2_with fail
        refine (HPX.out W4 HB4.out).mono ?_
        rintro e W5 ⟨yo, yc, y, rfl, hy1, hy2, hy3, hy4⟩
        obtain ⟨yb, yo', yc', yv, hys, _, hyc, hyv⟩ := mat_cell hy3 (k := 0) (by simp)
        simp only [Value.slice.injEq] at hys
        obtain ⟨rfl, -, rfl⟩ := hys
        have hyv' : Sl 0 3 W5 yv (ints y) := hyv
        obtain ⟨go, gc, rfl, _, _⟩ := sl_open hyv'
        rw [hy1] at hyv' hyc
        rw [Nat.add_zero] at hyc
        have HB45 : Hid (Below W4.heap.size W4 W5) := hy4
        have HBW5 : Hid (∀ X, Below W5.heap.size W5 X → Below w.heap.size w X) := fun X hX => (HB4.out.trans (hy4.mono HB4.out.size)).trans (hX.mono (Nat.le_trans HB4.out.size hy4.size))
        have HYS : Hid (∀ X, Below W5.heap.size W5 X → Sl 0 3 X (.slice go d gc) (ints y)) := fun X hX => hyv'.below hX (Nat.le_refl _)
        have hfar : (y.any (farB · 100)) = false := by
          rw [List.any_eq_false]
          intro z hz
          have := hy2 z hz
          simp [farB]
          omega
        have hx0 : xE d y = 0 := by
          unfold xE
          rw [if_neg (by omega), if_neg]
          intro h
          have h20 : (y.any (farB · 20)) = false := far_iff.2 fun z hz => by have := hy2 z hz; omega
          rw [h20] at h
          cases h
        have hbt0 : btwE P y = 0 := by
          obtain ⟨e1, e2⟩ := pm_of HPM.out
          unfold btwE
          rw [if_neg (by simp [e1]), e2]
          exact hx0
        obtain ⟨bw, hbw⟩ : ∃ bw : Bool, bw = !decide (waysL (P.map oneR) (oneR y) = []) := ⟨_, rfl⟩
        have HBT : Hid (∀ X, Below W5.heap.size W5 X → Calls Try.prog 10 #[.slice xo P.length xc, .slice go d gc] X fun e w' => ∃ (co : Option Addr) (n : Nat) (cc : Nat) (po : Option Addr) (pc : Nat) (z : Int), e = .returned (.tuple #[.agg #[.slice co n cc, .slice po n pc, .int .i64 z], .bool bw, .int .i64 0]) ∧ n ≤ d + 1 ∧ Below X.heap.size X w') := fun X hX => by
          have hX4 : Below W4.heap.size W4 X := HB45.out.trans (hX.mono HB45.out.size)
          refine (between_any P y _ _ X (HM4.out X hX4) ((HYS.out X hX).more (Nat.zero_le _))).mono ?_
          rintro e w' ⟨tv, b, rfl, hr, hb⟩
          rw [hbt0] at hr ⊢
          rcases hr with ⟨hn, _⟩ | ⟨_, hr⟩
          · exact absurd rfl hn
          · rcases hr with ⟨h1, rfl, rfl⟩ | ⟨c, l, co, cc, po, pc, h1, rfl, rfl, _, _⟩
            · refine ⟨none, 0, 0, none, 0, 0, ?_, by omega, hb⟩
              rw [hbw, h1]
              simp [nilT]
            · refine ⟨co, c.length, cc, po, pc, (wayN (oneR y) (pks (P.map oneR) [] c)).getD c.length 0, ?_, ?_, hb⟩
              · rw [hbw, h1]
                simp
              · have := ways_len (rows := P.map oneR) (g := oneR y) (c := c) (by rw [h1]; simp)
                rw [oneR_len, hy1] at this
                exact this
        have HWH : Hid (∀ X, Below W5.heap.size W5 X → Calls Try.prog 11 #[.agg #[.int .i64 d, .slice xo P.length xc], .slice go d gc] X fun e w' => ∃ q : Int, e = .returned (.tuple #[.int .i64 q, .int .i64 0]) ∧ decide (q ≤ 0) = bw ∧ Below X.heap.size X w') := fun X hX => by
          have hX4 : Below W4.heap.size W4 X := HB45.out.trans (hX.mono HB45.out.size)
          refine (whereK_ok d P y _ _ X (HM4.out X hX4) ((HYS.out X hX).more (Nat.zero_le _)) HG.out hy1 hfar (rows_fit HG.out)).mono ?_
          rintro e w' ⟨P', rows, hm, hr, rfl, hb⟩
          refine ⟨_, rfl, ?_, hb⟩
          have h := ways_where HG.out hm hr hy1
          rw [hbw]
          by_cases hw : whr rows y ≤ 0
          · have : ¬ waysL (P.map oneR) (oneR y) = [] := fun e => (h.1 e) hw
            simp [hw, this]
          · have := h.2 hw
            simp [hw, this]
        obtain ⟨c0, c1⟩ := HC4.out W5 HB45.out
        clear hy1 hy2 hy3 hy4 hyv hyv' hfar hx0 hbt0 hbw
        go_wp2_with fail
        refine (HBT.out W5 (Below.refl _ _)).mono ?_
        rintro e w6 ⟨co, tn, cc, po, pc, tz, rfl, htn, hb6⟩
        have HB6 : Hid (Below W5.heap.size W5 w6) := hb6
        obtain ⟨w7, hw7⟩ : ∃ w7, w7 = w6.alloc (.cells #[.slice co tn cc, .slice po tn pc, .int .i64 tz] 35) := ⟨_, rfl⟩
        have hb67 : Below w6.heap.size w6 w7 := by rw [hw7]; exact alloc_keep _ _
        have hk7 : w7.heap[w6.heap.size]? = some (.cells #[.slice co tn cc, .slice po tn pc, .int .i64 tz] 35 (0, 0)) := by rw [hw7]; exact alloc_new _ _
        have HB7 : Hid (Below W5.heap.size W5 w7) := HB6.out.trans (hb67.mono HB6.out.size)
        have HW7 : Hid (w7 = w6.alloc (.cells #[.slice co tn cc, .slice po tn pc, .int .i64 tz] 35)) := hw7
        obtain ⟨tb, htb⟩ : ∃ tb, tb = w6.heap.size := ⟨_, rfl⟩
        have HTC : Hid (∀ X, Below w7.heap.size w7 X → X.cell? ⟨tb, 0, none⟩ = some (.slice co tn cc)) := fun X hX => by
          have h0 := (hX.block _ (Array.getElem?_eq_some_iff.1 hk7).1).trans hk7
          rw [← htb] at h0
          simp [World.cell?, h0]
        clear hb6 hw7 hb67 hk7 c0 c1 HBT hyc
        go_upto_region 28 with fail
        rw [← HW7.out, ← htb]
        clear HW7 htb
        obtain ⟨c0, c1⟩ := HC4.out w7 (HB45.out.trans (HB7.out.mono HB45.out.size))
        go_wp2_with fail
        refine (HWH.out w7 HB7.out).mono ?_
        rintro e w8 ⟨q, rfl, hq, hb8⟩
        have hc8 := HTC.out w8 hb8
        have HB8 : Hid (Below W5.heap.size W5 w8) := HB7.out.trans (hb8.mono HB7.out.size)
        have htd : decide ((tn : Int) ≤ (d : Int) + 1) = true := decide_eq_true (by omega)
        clear hb8 c0 c1 HWH HTC
        by_cases hq0 : q ≤ 0
        case' pos =>
          have hbt : bw = true := by rw [← hq]; exact decide_eq_true hq0
        case' neg =>
          have hbt : bw = false := by rw [← hq]; exact decide_eq_false hq0
          have hq1 : 0 < q := by omega
          clear hq0
        all_goals
          subst hbt
          clear hq
          go_wp2
          go_ret
          exact ⟨rfl, HBW5.out _ HB8.out⟩
  · have hl0 : (radL p).length = 0 := by unfold radL; rw [if_neg (by omega)]; rfl
    rw [hl0, hE]
    clear hE hF HL hl0 HMW
    go_wp2_with fail
    refine (HP5.out _).mono ?_
    rintro e w2 ⟨rfl, he⟩
    rw [he]
    clear he w2
    go_wp2_with fail
    refine (HPO.out W HBW0.out).mono ?_
    rintro e w3 ⟨xo, xc, P, rfl, hP1, hP2, hP3, hP4⟩
    obtain ⟨R, hR⟩ : ∃ R, R = w3.heap.size := ⟨_, rfl⟩
    obtain ⟨W4, hW4⟩ : ∃ W4, W4 = w3.alloc (.cells #[.int .i64 d, .slice xo P.length xc] 32) := ⟨_, rfl⟩
    have hb4 : Below w3.heap.size w3 W4 := by rw [hW4]; exact alloc_keep _ _
    have hk4 : W4.heap[R]? = some (.cells #[.int .i64 d, .slice xo P.length xc] 32 (0, 0)) := by rw [hW4, hR]; exact alloc_new _ _
    have HG : Hid (Good d P) := hP2
    have HPM : Hid (PmOk d P) := hP3
    have HB4 : Hid (Below w.heap.size w W4) := HBW0.out.trans ((hP4.trans (hb4.mono hP4.size)).mono HBW0.out.size)
    have HM4 : Hid (∀ X, Below W4.heap.size W4 X → Mat X.heap.size 22 3 X (.slice xo P.length xc) P) := fun X hX => ((hP1.below hb4 (Nat.le_refl _)).any (Nat.le_refl _) |>.below hX (Nat.le_refl _)).any (Nat.le_refl _)
    have HC4 : Hid (∀ X, Below W4.heap.size W4 X → X.cell? ⟨R, 0, none⟩ = some (.int .i64 d) ∧ X.cell? ⟨R, 1, none⟩ = some (.slice xo P.length xc)) := fun X hX => by
      have h0 := (hX.block R (Array.getElem?_eq_some_iff.1 hk4).1).trans hk4
      exact ⟨by simp [World.cell?, h0], by simp [World.cell?, h0]⟩
    have HW4 : Hid (W4 = w3.alloc (.cells #[.int .i64 d, .slice xo P.length xc] 32)) := hW4
    have HRR : Hid (R = w3.heap.size) := hR
    clear hP1 hP2 hP3 hP4 hb4 hk4 hR hW4
    go_upto_region 26 with fail
    rw [← HW4.out]
    rw [← HRR.out]
    clear HW4 HRR
    go_wp2_with fail
    refine (HPX.out W4 HB4.out).mono ?_
    rintro e W5 ⟨yo, yc, y, rfl, hy1, hy2, hy3, hy4⟩
    obtain ⟨yb, yo', yc', yv, hys, _, hyc, hyv⟩ := mat_cell hy3 (k := 0) (by simp)
    simp only [Value.slice.injEq] at hys
    obtain ⟨rfl, -, rfl⟩ := hys
    have hyv' : Sl 0 3 W5 yv (ints y) := hyv
    obtain ⟨go, gc, rfl, _, _⟩ := sl_open hyv'
    rw [hy1] at hyv' hyc
    rw [Nat.add_zero] at hyc
    have HB45 : Hid (Below W4.heap.size W4 W5) := hy4
    have HBW5 : Hid (∀ X, Below W5.heap.size W5 X → Below w.heap.size w X) := fun X hX => (HB4.out.trans (hy4.mono HB4.out.size)).trans (hX.mono (Nat.le_trans HB4.out.size hy4.size))
    have HYS : Hid (∀ X, Below W5.heap.size W5 X → Sl 0 3 X (.slice go d gc) (ints y)) := fun X hX => hyv'.below hX (Nat.le_refl _)
    have hfar : (y.any (farB · 100)) = false := by
      rw [List.any_eq_false]
      intro z hz
      have := hy2 z hz
      simp [farB]
      omega
    have hx0 : xE d y = 0 := by
      unfold xE
      rw [if_neg (by omega), if_neg]
      intro h
      have h20 : (y.any (farB · 20)) = false := far_iff.2 fun z hz => by have := hy2 z hz; omega
      rw [h20] at h
      cases h
    have hbt0 : btwE P y = 0 := by
      obtain ⟨e1, e2⟩ := pm_of HPM.out
      unfold btwE
      rw [if_neg (by simp [e1]), e2]
      exact hx0
    obtain ⟨bw, hbw⟩ : ∃ bw : Bool, bw = !decide (waysL (P.map oneR) (oneR y) = []) := ⟨_, rfl⟩
    have HBT : Hid (∀ X, Below W5.heap.size W5 X → Calls Try.prog 10 #[.slice xo P.length xc, .slice go d gc] X fun e w' => ∃ (co : Option Addr) (n : Nat) (cc : Nat) (po : Option Addr) (pc : Nat) (z : Int), e = .returned (.tuple #[.agg #[.slice co n cc, .slice po n pc, .int .i64 z], .bool bw, .int .i64 0]) ∧ n ≤ d + 1 ∧ Below X.heap.size X w') := fun X hX => by
      have hX4 : Below W4.heap.size W4 X := HB45.out.trans (hX.mono HB45.out.size)
      refine (between_any P y _ _ X (HM4.out X hX4) ((HYS.out X hX).more (Nat.zero_le _))).mono ?_
      rintro e w' ⟨tv, b, rfl, hr, hb⟩
      rw [hbt0] at hr ⊢
      rcases hr with ⟨hn, _⟩ | ⟨_, hr⟩
      · exact absurd rfl hn
      · rcases hr with ⟨h1, rfl, rfl⟩ | ⟨c, l, co, cc, po, pc, h1, rfl, rfl, _, _⟩
        · refine ⟨none, 0, 0, none, 0, 0, ?_, by omega, hb⟩
          rw [hbw, h1]
          simp [nilT]
        · refine ⟨co, c.length, cc, po, pc, (wayN (oneR y) (pks (P.map oneR) [] c)).getD c.length 0, ?_, ?_, hb⟩
          · rw [hbw, h1]
            simp
          · have := ways_len (rows := P.map oneR) (g := oneR y) (c := c) (by rw [h1]; simp)
            rw [oneR_len, hy1] at this
            exact this
    have HWH : Hid (∀ X, Below W5.heap.size W5 X → Calls Try.prog 11 #[.agg #[.int .i64 d, .slice xo P.length xc], .slice go d gc] X fun e w' => ∃ q : Int, e = .returned (.tuple #[.int .i64 q, .int .i64 0]) ∧ decide (q ≤ 0) = bw ∧ Below X.heap.size X w') := fun X hX => by
      have hX4 : Below W4.heap.size W4 X := HB45.out.trans (hX.mono HB45.out.size)
      refine (whereK_ok d P y _ _ X (HM4.out X hX4) ((HYS.out X hX).more (Nat.zero_le _)) HG.out hy1 hfar (rows_fit HG.out)).mono ?_
      rintro e w' ⟨P', rows, hm, hr, rfl, hb⟩
      refine ⟨_, rfl, ?_, hb⟩
      have h := ways_where HG.out hm hr hy1
      rw [hbw]
      by_cases hw : whr rows y ≤ 0
      · have : ¬ waysL (P.map oneR) (oneR y) = [] := fun e => (h.1 e) hw
        simp [hw, this]
      · have := h.2 hw
        simp [hw, this]
    obtain ⟨c0, c1⟩ := HC4.out W5 HB45.out
    clear hy1 hy2 hy3 hy4 hyv hyv' hfar hx0 hbt0 hbw
    go_wp2_with fail
    refine (HBT.out W5 (Below.refl _ _)).mono ?_
    rintro e w6 ⟨co, tn, cc, po, pc, tz, rfl, htn, hb6⟩
    have HB6 : Hid (Below W5.heap.size W5 w6) := hb6
    obtain ⟨w7, hw7⟩ : ∃ w7, w7 = w6.alloc (.cells #[.slice co tn cc, .slice po tn pc, .int .i64 tz] 35) := ⟨_, rfl⟩
    have hb67 : Below w6.heap.size w6 w7 := by rw [hw7]; exact alloc_keep _ _
    have hk7 : w7.heap[w6.heap.size]? = some (.cells #[.slice co tn cc, .slice po tn pc, .int .i64 tz] 35 (0, 0)) := by rw [hw7]; exact alloc_new _ _
    have HB7 : Hid (Below W5.heap.size W5 w7) := HB6.out.trans (hb67.mono HB6.out.size)
    have HW7 : Hid (w7 = w6.alloc (.cells #[.slice co tn cc, .slice po tn pc, .int .i64 tz] 35)) := hw7
    obtain ⟨tb, htb⟩ : ∃ tb, tb = w6.heap.size := ⟨_, rfl⟩
    have HTC : Hid (∀ X, Below w7.heap.size w7 X → X.cell? ⟨tb, 0, none⟩ = some (.slice co tn cc)) := fun X hX => by
      have h0 := (hX.block _ (Array.getElem?_eq_some_iff.1 hk7).1).trans hk7
      rw [← htb] at h0
      simp [World.cell?, h0]
    clear hb6 hw7 hb67 hk7 c0 c1 HBT hyc
    go_upto_region 28 with fail
    rw [← HW7.out, ← htb]
    clear HW7 htb
    obtain ⟨c0, c1⟩ := HC4.out w7 (HB45.out.trans (HB7.out.mono HB45.out.size))
    go_wp2_with fail
    refine (HWH.out w7 HB7.out).mono ?_
    rintro e w8 ⟨q, rfl, hq, hb8⟩
    have hc8 := HTC.out w8 hb8
    have HB8 : Hid (Below W5.heap.size W5 w8) := HB7.out.trans (hb8.mono HB7.out.size)
    have htd : decide ((tn : Int) ≤ (d : Int) + 1) = true := decide_eq_true (by omega)
    clear hb8 c0 c1 HWH HTC
    by_cases hq0 : q ≤ 0
    case' pos =>
      have hbt : bw = true := by rw [← hq]; exact decide_eq_true hq0
    case' neg =>
      have hbt : bw = false := by rw [← hq]; exact decide_eq_false hq0
      have hq1 : 0 < q := by omega
      clear hq0
    all_goals
      subst hbt
      clear hq
      go_wp2
      go_ret
      exact ⟨rfl, HBW5.out _ HB8.out⟩
end Go.Proofs.Ytjbcpojngdligaa
