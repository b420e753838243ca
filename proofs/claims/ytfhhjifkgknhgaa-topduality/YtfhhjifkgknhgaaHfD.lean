import Derived.Test.YtfhhjifkgknhgaaEmA
import Derived.Test.YtfhhjifkgknhgaaHfC
import Derived.Test.YtfhhjifkgknhgaaCutB
/- facetref.Dot of a row by a point that is shorter, facettop.holds. -/
namespace Go.Proofs.Ytfhhjifkgknhgaa
open Go.RowKit
attribute [local go_sem ↓] Go.wp_at_zero Go.wp_at_succ

theorem sum_swg {a x : List Int} (ha : ∀ z ∈ a, z.natAbs ≤ 1000) (hx : ∀ z ∈ x, z.natAbs ≤ 1000) (hl : x.length ≤ a.length) : ∀ k, k ≤ x.length → (Lin.sumN k fun i => a.getD i 0 * x.getD i 0).natAbs ≤ k * 1000000000000000 := by
  intro k
  induction k with
  | zero => intro _; simp [Lin.sumN]
  | succ k ih =>
    intro hk
    have h1 := ih (by omega)
    have h3 : (a.getD k 0 * x.getD k 0).natAbs ≤ 1000000000000000 := mul_bwe (ha _ (by simp [show k < a.length by omega])) (by have := hx (x.getD k 0) (by simp [show k < x.length by omega]); omega)
    have e : (Lin.sumN (k + 1) fun i => a.getD i 0 * x.getD i 0) = (Lin.sumN k fun i => a.getD i 0 * x.getD i 0) + a.getD k 0 * x.getD k 0 := rfl
    rw [e]
    omega

set_option maxRecDepth 100000 in
set_option maxHeartbeats 400000 in
theorem dotG_any (B : Nat) (a x : List Int) (u v : Value) (w : World) (hu : Sl B 3 w u (ints a)) (hv : Sl B 3 w v (ints x)) (ha : ∀ z ∈ a, z.natAbs ≤ 1000) (hx : ∀ z ∈ x, z.natAbs ≤ 1000) (hl : x.length < a.length) (hl8 : x.length ≤ 8) :
    Calls Try.prog 13 #[u, v] w fun e w' => e = .returned (.int .i64 (dotL x a)) ∧ ∃ n, w' = w.drewN n := by
  obtain ⟨ao, cap, hvv, hlc, hcm⟩ := sl_open hu
  obtain ⟨bo, cbp, huu, hlb, hcb⟩ := sl_open hv
  subst hvv huu
  have HU : Hid (Sl B 3 w (.slice ao a.length cap) (ints a)) := hu
  have HV : Hid (Sl B 3 w (.slice bo x.length cbp) (ints x)) := hv
  have HA : Hid (∀ z ∈ a, z.natAbs ≤ 1000) := ha
  have HX : Hid (∀ z ∈ x, z.natAbs ≤ 1000) := hx
  have HEND : Hid ((Lin.sumN x.length fun i => a.getD i 0 * x.getD i 0) = dotL x a) := by
    show _ = _
    unfold dotL
    exact Lin.sumN_congr fun i _ => Int.mul_comm _ _
  clear hu hv ha hx
  go_enter Try.func13, Try.ntmps13
  go_wp2
  go_loopw [5, 6] (fun s i wr => ∃ k : Nat, k ≤ x.length ∧ i = .int .i64 k ∧ s = .int .i64 (Lin.sumN k fun i => a.getD i 0 * x.getD i 0) ∧ ∃ n, wr = w.drewN n) (fun _ i _ => x.length - (intOf i).toNat)
  case atStart => exact ⟨0, Nat.zero_le _, rfl, rfl, 0, rfl⟩
  case round =>
    obtain ⟨k, hk, rfl, rfl, n, rfl⟩ := hrel
    by_cases hlt : k < x.length
    · have hlt2 : k < a.length := by omega
      obtain ⟨b, o, cp, hs, hc1, hcc⟩ := sl_cell HU.out hlt2
      simp only [Value.slice.injEq] at hs
      obtain ⟨rfl, _, rfl⟩ := hs
      obtain ⟨b2, o2, cp2, hs2, hc2, hcc2⟩ := sl_cell HV.out hlt
      simp only [Value.slice.injEq] at hs2
      obtain ⟨rfl, _, rfl⟩ := hs2
      have h1 := sum_swg HA.out HX.out (by omega) k hk
      have h2 := sum_swg HA.out HX.out (by omega) (k + 1) (by omega)
      have h3 : (a.getD k 0 * x.getD k 0).natAbs ≤ 1000000000000000 := mul_bwe (HA.out _ (by simp [hlt2])) (by have := HX.out (x.getD k 0) (by simp [hlt]); omega)
      have HSU : Hid ((Lin.sumN (k + 1) fun i => a.getD i 0 * x.getD i 0) = (Lin.sumN k fun i => a.getD i 0 * x.getD i 0) + a.getD k 0 * x.getD k 0) := rfl
      rw [HSU.out] at h2
      clear HEND
      generalize (Lin.sumN k fun i => a.getD i 0 * x.getD i 0) = S at *
      generalize a.getD k 0 = p at *
      generalize x.getD k 0 = q at *
      have e2 : wrap64 (S + wrap64 (p * q)) = S + p * q := by
        rw [IntWalk.wrap64_in (p * q) ⟨by omega, by omega⟩, IntWalk.wrap64_in _ ⟨by omega, by omega⟩]
      have hkI : (k : Int) < (a.length : Int) := by omega
      have hkI2 : (k : Int) < (x.length : Int) := by omega
      have hkI0 : (0 : Int) ≤ (k : Int) := by omega
      clear h1 h2 h3
      go_wp2
      go_quiet (fail)
      go_wp2
      go_roundw
      case rel => exact ⟨k + 1, by omega, by go_num, by rw [HSU.out, e2], _, rfl⟩
      case measure => simp [intOf]; omega
    · have hke : k = x.length := by omega
      subst hke
      have hkI : (x.length : Int) < (a.length : Int) := by omega
      rw [HEND.out]
      clear HEND
      go_wp2
      go_ret
      exact ⟨rfl, n, rfl⟩

/-- Do the first rows hold at a point? -/
def hoB (rows : List (List Int)) (x : List Int) : Bool := rows.all fun r => decide (dotL x r ≤ r.getD x.length 0)

theorem hoB_iff {rows : List (List Int)} {x : List Int} : hoB rows x = true ↔ ∀ r ∈ rows, dotL x r ≤ r.getD x.length 0 := by simp [hoB]

theorem hoB_take {rows : List (List Int)} {x : List Int} {k : Nat} (hk : k < rows.length) : hoB (rows.take (k + 1)) x = (hoB (rows.take k) x && decide (dotL x (rows.getD k []) ≤ (rows.getD k []).getD x.length 0)) := by
  unfold hoB
  rw [List.take_succ_eq_append_getElem hk, List.all_append]
  simp [hk]

theorem hoB_no {rows : List (List Int)} {x : List Int} {k : Nat} (hk : k < rows.length) (h : ¬ dotL x (rows.getD k []) ≤ (rows.getD k []).getD x.length 0) : hoB rows x = false := by
  unfold hoB
  rw [List.all_eq_false]
  exact ⟨rows.getD k [], by simp [hk], by simpa using h⟩

set_option maxRecDepth 100000 in
set_option maxHeartbeats 1600000 in
theorem holds_any (rows : List (List Int)) (x : List Int) (v u : Value) (w : World) (hv : Mat 0 22 3 w v rows) (hu : Sl 0 3 w u (ints x)) (hc : CutOk x.length rows) (hx : ∀ z ∈ x, z.natAbs ≤ 1000) :
    Calls Try.prog 14 #[v, u] w fun e w' => e = .returned (.bool (hoB rows x)) ∧ Below w.heap.size w w' := by
  obtain ⟨ro, rc, hvv, hlc, hcm⟩ := mat_open hv
  obtain ⟨xo, xc, huu, hlb, hcb⟩ := sl_open hu
  subst hvv huu
  have HV : Hid (Mat 0 22 3 w (.slice ro rows.length rc) rows) := hv
  have HU : Hid (Sl 0 3 w (.slice xo x.length xc) (ints x)) := hu
  have HC : Hid (CutOk x.length rows) := hc
  have HX : Hid (∀ z ∈ x, z.natAbs ≤ 1000) := hx
  have hn12 := hc.n12
  have hd3 := hc.d3
  clear hv hu hc hx
  go_enter Try.func14, Try.ntmps14
  go_wp2
  go_loopw [5] (fun i wr => ∃ k : Nat, k ≤ rows.length ∧ i = .int .i64 k ∧ hoB (rows.take k) x = true ∧ Below w.heap.size w wr) (fun i _ => rows.length - (intOf i).toNat)
  case atStart => exact ⟨0, Nat.zero_le _, rfl, by simp [hoB], Below.refl _ _⟩
  case round =>
    obtain ⟨k, hk, rfl, hho, hbb⟩ := hrel
    obtain ⟨wb, rfl⟩ : ∃ wb, wb = wr := ⟨_, rfl⟩
    have HHO : Hid (hoB (rows.take k) x = true) := hho
    have HBB : Hid (Below w.heap.size w wb) := hbb
    clear hbb hho
    by_cases hlt : k < rows.length
    · obtain ⟨r, hr⟩ : ∃ r, r = rows.getD k [] := ⟨_, rfl⟩
      have hrm : r ∈ rows := by rw [hr, List.getD_eq_getElem?_getD, List.getElem?_eq_getElem hlt]; exact List.getElem_mem _
      have hrl := HC.out.len r hrm
      have hrb := HC.out.bd r hrm
      obtain ⟨b', o', c', rv, hs', _, hrcell, hrv⟩ := mat_cell (HV.out.below HBB.out (Nat.le_refl _)) hlt
      simp only [Value.slice.injEq] at hs'
      obtain ⟨rfl, -, rfl⟩ := hs'
      rw [← hr] at hrv
      obtain ⟨rb, ro2, rc2, hrs, hrc, hrd⟩ := sl_cell hrv (k := x.length) (by rw [hrl]; omega)
      have HDT : Hid (∀ n, Calls Try.prog 13 #[.slice (some ⟨rb, ro2, none⟩) (x.length + 1) rc2, .slice xo x.length xc] (wb.drewN n) fun e w' => e = .returned (.int .i64 (dotL x r)) ∧ ∃ k, w' = (wb.drewN n).drewN k) := fun n => by
        rw [hrs, hrl] at hrv
        exact dotG_any 0 r x _ _ _ (hrv.drewN n) ((HU.out.below HBB.out (Nat.le_refl _)).drewN n) (fun z hz => by have := hrb z hz; omega) HX.out (by rw [hrl]; omega) (by omega)
      rw [hrl] at hrs hrc
      subst hrs
      have HTK : Hid (dotL x r ≤ r.getD x.length 0 → hoB (rows.take (k + 1)) x = true) := fun h => by
        rw [hoB_take hlt, HHO.out, ← hr]; simpa using h
      have HNO : Hid (¬ dotL x r ≤ r.getD x.length 0 → hoB rows x = false) := fun h => hoB_no hlt (by rw [← hr]; exact h)
      clear hr hrm hrl hrb hrv
      generalize r.getD x.length 0 = q at *
      generalize dotL x r = T at *
      generalize x.length = D at *
      have hkI : (k : Int) < (rows.length : Int) := by omega
      have hkI0 : (0 : Int) ≤ (k : Int) := by omega
      have hDI : (D : Int) < (D : Int) + 1 := by omega
      have hD0 : (0 : Int) ≤ (D : Int) := by omega
      have hne : (((D : Int) + 1) != ((D : Int) + 1)) = false := by simp
      by_cases hle : T ≤ q
      · have hTq : decide (q < T) = false := decide_eq_false (by omega)
        have HTK2 : Hid (hoB (rows.take (k + 1)) x = true) := HTK.out hle
        clear HTK HNO hle
        go_wp2_with fail
        go_big_quiet ((go_at_call 13; exact Calls.quiet_of (w := wb) (HDT.out _)))
        go_wp2
        go_roundw
        case rel => exact ⟨k + 1, by omega, by go_num, HTK2.out, (by first | exact HBB.out.trans (Qe.below ⟨_, rfl⟩) | exact HBB.out.drew | exact (HBB.out.trans (Qe.below ⟨_, rfl⟩)).drew)⟩
        case measure => simp [intOf]; omega
      · have hTq : decide (q < T) = true := decide_eq_true (by omega)
        have HNO2 : Hid (hoB rows x = false) := HNO.out hle
        clear HTK HNO hle
        go_wp2_with fail
        go_big_quiet ((go_at_call 13; exact Calls.quiet_of (w := wb) (HDT.out _)))
        go_wp2
        go_ret
        exact ⟨by rw [HNO2.out]; rfl, (by first | exact HBB.out.trans (Qe.below ⟨_, rfl⟩) | exact HBB.out.drew | exact (HBB.out.trans (Qe.below ⟨_, rfl⟩)).drew)⟩
    · have hke : k = rows.length := by omega
      subst hke
      have HE : Hid (hoB rows x = true) := by
        have := HHO.out
        rw [List.take_length] at this
        exact this
      go_wp2
      go_ret
      exact ⟨by rw [HE.out]; rfl, HBB.out⟩
end Go.Proofs.Ytfhhjifkgknhgaa

/- TopDuality. -/
namespace Go.Proofs.Ytfhhjifkgknhgaa
open Go.RowKit Lin
attribute [local go_sem ↓] Go.wp_at_zero Go.wp_at_succ

theorem mul_b7 {p q : Int} (hp : p.natAbs ≤ 100000000) (hq : q.natAbs ≤ 1296000) : (p * q).natAbs ≤ 129600000000000 := by
  rw [Int.natAbs_mul]
  exact Nat.le_trans (Nat.mul_le_mul hp hq) (by decide)

/-- Is what is greatest met by one of the first corners? -/
def meB (d : Nat) (g : List Int) (a b : Int) (m : List (List Int)) (k : Nat) : Bool := (m.take k).any fun z => decide (dotL g z * b = a * z.getD d 0)

theorem meB_succ {d : Nat} {g : List Int} {a b : Int} {m : List (List Int)} {k : Nat} (hk : k < m.length) : meB d g a b m (k + 1) = (meB d g a b m k || decide (dotL g (m.getD k []) * b = a * (m.getD k []).getD d 0)) := by
  unfold meB
  rw [List.take_succ_eq_append_getElem hk, List.any_append]
  simp [hk]

theorem meB_all {d : Nat} {g : List Int} {a b : Int} {m : List (List Int)} (h : DuP d g a b m) : meB d g a b m m.length = true := by
  unfold meB
  rw [List.take_length, List.any_eq_true]
  obtain ⟨z, hz, e⟩ := h.met
  exact ⟨z, hz, by simpa using e⟩

set_option maxRecDepth 100000 in
set_option maxHeartbeats 8000000 in
theorem topDuality_any (B : Nat) (raw xs : List Int) (d0 m0 : Int) (v u : Value) (w : World) (hv : Sl B 3 w v (ints raw)) (hu : Sl B 3 w u (ints xs)) (hr : ∀ z ∈ raw, In64 z) (hx : ∀ z ∈ xs, In64 z) (hd : In64 d0) (hm : In64 m0) :
    Calls Try.prog 3 #[v, .int .i64 d0, .int .i64 m0, u] w fun e w' => e = .returned (.bool true) ∧ Below w.heap.size w w' := by
  obtain ⟨ao, cap, hvv, hlc, hcm⟩ := sl_open hv
  subst hvv
  obtain ⟨bo, cbp, huu, hlb, hcb⟩ := sl_open hu
  subst huu
  have HV : Hid (Sl B 3 w (.slice ao raw.length cap) (ints raw)) := hv
  have HU : Hid (Sl B 3 w (.slice bo xs.length cbp) (ints xs)) := hu
  have HR : Hid (∀ z ∈ raw, In64 z) := hr
  have HX : Hid (∀ z ∈ xs, In64 z) := hx
  have HM : Hid (In64 m0) := hm
  have HD : Hid (In64 d0) := hd
  clear hv hu hr hx hm hd
  obtain ⟨sv, hsv⟩ : ∃ sv, IntKind.i64.wrap ((raw.length : Int) + (xs.length : Int)) = sv := ⟨_, rfl⟩
  have hrl : raw.length ≤ 9223372036854775807 := by omega
  have hxl : xs.length ≤ 9223372036854775807 := by omega
  by_cases hb : 256 < sv
  · go_enter Try.func3, Try.ntmps3
    go_wp2
    go_ret
    exact ⟨rfl, Below.refl _ _⟩
  have hpk : ∀ (c n : Int) (w : World), In64 c → 1 ≤ n → n ≤ 100 → ∃ p : Nat, (p : Int) < n ∧ ∀ w : World, Calls Try.prog 4 #[.int .i64 c, .int .i64 n] w fun e w' => e = .returned (.int .i64 p) ∧ w' = w := fun c n w hc h1 h2 => by
    have hb := pickF_bd (c := c) (n := n) h1
    refine ⟨(pickF c n).toNat, by omega, fun w => ?_⟩
    rw [show (((pickF c n).toNat : Nat) : Int) = pickF c n by omega]
    exact pick_val c n w h1 (by omega) hc
  obtain ⟨p3, hp3, H3⟩ := hpk d0 3 w HD.out (by omega) (by omega)
  obtain ⟨p5, hp5, H5⟩ := hpk m0 5 w HM.out (by omega) (by omega)
  obtain ⟨d, hd⟩ : ∃ d : Nat, d = 1 + p3 := ⟨_, rfl⟩
  have hdI : 1 + (p3 : Int) = (d : Int) := by omega
  have hd1 : 1 ≤ d := by omega
  have hd3 : d ≤ 3 := by omega
  have HP3 : Hid (∀ w : World, Calls Try.prog 4 #[.int .i64 d0, .int .i64 3] w fun e w' => e = .returned (.int .i64 p3) ∧ w' = w) := H3
  have HP5 : Hid (∀ w : World, Calls Try.prog 4 #[.int .i64 m0, .int .i64 5] w fun e w' => e = .returned (.int .i64 p5) ∧ w' = w) := H5
  have HCT : Hid (∀ W, Below w.heap.size w W → Calls Try.prog 5 #[.slice ao raw.length cap, .int .i64 d, .int .i64 p5, .int .i64 (2 * (d : Int))] W fun e w' => ∃ xo xc rows, e = .returned (.agg #[.int .i64 d, .slice xo rows.length xc]) ∧ Mat 0 22 3 w' (.slice xo rows.length xc) rows ∧ CutOk d rows ∧ BxA d rows ∧ Below W.heap.size W w') := fun W hb => by
    have h := cutOf_box B raw _ d p5 (2 * d) W (HV.out.below hb (Nat.le_refl _)) HR.out hrl hd1 hd3 (by omega) (by omega)
    rw [show ((2 * d : Nat) : Int) = 2 * (d : Int) by omega] at h
    refine Calls.mono h ?_
    rintro e w' ⟨x, rows, rfl, g1, ⟨g2, g4⟩, g3⟩
    obtain ⟨xo, xc, rfl, _, _⟩ := mat_open g1
    exact ⟨xo, xc, rows, rfl, g1, g2, fun i hi => g4 i hi hi, g3⟩
  have HPG : Hid (∀ W, Below w.heap.size w W → Calls Try.prog 6 #[.slice ao raw.length cap, .int .i64 33, .int .i64 d, .int .i64 1, .int .i64 4] W fun e w' => ∃ yo yc y, e = .returned (.slice yo 1 yc) ∧ y.length = d ∧ (∀ z ∈ y, z.natAbs ≤ 4) ∧ Mat 0 22 3 w' (.slice yo 1 yc) [y] ∧ Below W.heap.size W w') := fun W hb => by
    refine (pointsOf_new B raw _ 33 d 1 4 W (HV.out.below hb (Nat.le_refl _)) HR.out (by omega) (by omega) (by omega) (by omega) (by omega)).mono ?_
    rintro e w' ⟨x, m, rfl, g1, g2, g3, g4⟩
    rcases m with _ | ⟨y, _ | ⟨q, m⟩⟩
    · simp at g1
    · have h := g2 y (by simp)
      have g5 := fr_mat g3.fr
      obtain ⟨yo, yc, rfl, _, _⟩ := mat_open g5
      exact ⟨yo, yc, y, rfl, h.1, fun z hz => by have := h.2 z hz; omega, g5, g4⟩
    · simp at g1
  have HPX : Hid (∀ W, Below w.heap.size w W → Calls Try.prog 6 #[.slice bo xs.length cbp, .int .i64 0, .int .i64 d, .int .i64 1, .int .i64 3] W fun e w' => ∃ yo yc y, e = .returned (.slice yo 1 yc) ∧ y.length = d ∧ (∀ z ∈ y, z.natAbs ≤ 3) ∧ Mat 0 22 3 w' (.slice yo 1 yc) [y] ∧ Below W.heap.size W w') := fun W hb => by
    refine (pointsOf_new B xs _ 0 d 1 3 W (HU.out.below hb (Nat.le_refl _)) HX.out (by omega) (by omega) (by omega) (by omega) (by omega)).mono ?_
    rintro e w' ⟨x, m, rfl, g1, g2, g3, g4⟩
    rcases m with _ | ⟨y, _ | ⟨q, m⟩⟩
    · simp at g1
    · have h := g2 y (by simp)
      have g5 := fr_mat g3.fr
      obtain ⟨yo, yc, rfl, _, _⟩ := mat_open g5
      exact ⟨yo, yc, y, rfl, h.1, fun z hz => by have := h.2 z hz; omega, g5, g4⟩
    · simp at g1
  clear H3 H5 hpk hd
  go_enter Try.func3, Try.ntmps3
  go_wp2_with fail
  refine (HP3.out _).mono ?_
  rintro e w2 ⟨rfl, he⟩
  rw [he]
  clear he w2
  go_wp2_with fail
  refine (HP5.out _).mono ?_
  rintro e w2 ⟨rfl, he⟩
  rw [he]
  clear he w2
  go_wp2_with fail
  refine (HCT.out w (Below.refl _ _)).mono ?_
  rintro e w1 ⟨ro, rc, rows, rfl, hm1, hm2, hm4, hm3⟩
  obtain ⟨R, hR⟩ : ∃ R, R = w1.heap.size := ⟨_, rfl⟩
  obtain ⟨W3, hW3⟩ : ∃ W3, W3 = w1.alloc (.cells #[.int .i64 d, .slice ro rows.length rc] 26) := ⟨_, rfl⟩
  have hb3 : Below w1.heap.size w1 W3 := by rw [hW3]; exact alloc_keep _ _
  have hs3 : W3.heap.size = R + 1 := by rw [hW3, hR]; simp
  have hk3 : W3.heap[R]? = some (.cells #[.int .i64 d, .slice ro rows.length rc] 26 (0, 0)) := by rw [hW3, hR]; exact alloc_new _ _
  have HC : Hid (CutOk d rows) := hm2
  have HBX : Hid (BxA d rows) := hm4
  have HM3 : Hid (Mat 0 22 3 W3 (.slice ro rows.length rc) rows) := hm1.below hb3 (Nat.le_refl _)
  have HB3 : Hid (Below w.heap.size w W3) := hm3.trans (hb3.mono hm3.size)
  have HK3 : Hid (W3.heap[R]? = some (.cells #[.int .i64 d, .slice ro rows.length rc] 26 (0, 0))) := hk3
  have HS3 : Hid (W3.heap.size = R + 1) := hs3
  have HRR : Hid (R = w1.heap.size) := hR
  have HW3 : Hid (W3 = w1.alloc (.cells #[.int .i64 d, .slice ro rows.length rc] 26)) := hW3
  clear hm1 hm2 hm3 hm4 hb3 hs3 hk3 hR hW3
  go_wp2_with fail
  rw [← HW3.out]
  rw [← HRR.out]
  clear HW3 HRR
  refine (HPG.out W3 HB3.out).mono ?_
  rintro e W ⟨yo, yc, g, rfl, hy1, hy2, hy3, hy4⟩
  obtain ⟨yb, yo', yc', yv, hys, _, hyc, hyv⟩ := mat_cell hy3 (k := 0) (by simp)
  simp only [Value.slice.injEq] at hys
  obtain ⟨rfl, -, rfl⟩ := hys
  have hyv' : Sl 0 3 W yv (ints g) := hyv
  obtain ⟨go, gc, rfl, _, _⟩ := sl_open hyv'
  rw [hy1] at hyv' hyc
  rw [Nat.add_zero] at hyc
  have HGL : Hid (g.length = d) := hy1
  have HGB : Hid (∀ z ∈ g, z.natAbs ≤ 20) := fun z hz => by have := hy2 z hz; omega
  have HBW : Hid (∀ X, Below W.heap.size W X → Below w.heap.size w X) := fun X hX => (HB3.out.trans (hy4.mono HB3.out.size)).trans (hX.mono (Nat.le_trans HB3.out.size hy4.size))
  have HCC : Hid (∀ X, Below W.heap.size W X → X.cell? ⟨R, 0, none⟩ = some (.int .i64 d) ∧ X.cell? ⟨R, 1, none⟩ = some (.slice ro rows.length rc)) := fun X hX => by
    have h0 : X.heap[R]? = some (.cells #[.int .i64 d, .slice ro rows.length rc] 26 (0, 0)) := (hX.block R (by have := hy4.size; have := HS3.out; omega)).trans ((hy4.block R (by have := HS3.out; omega)).trans HK3.out)
    exact ⟨by simp [World.cell?, h0], by simp [World.cell?, h0]⟩
  have HVW : Hid (∀ X, Below W.heap.size W X → Mat 0 22 3 X (.slice ro rows.length rc) rows) := fun X hX => (HM3.out.below hy4 (Nat.le_refl _)).below hX (Nat.le_refl _)
  have HGW : Hid (∀ X, Below W.heap.size W X → Sl 0 3 X (.slice go d gc) (ints g)) := fun X hX => hyv'.below hX (Nat.le_refl _)
  have HRW : Hid (R < W.heap.size) := by show _ < _; have := hy4.size; have := HS3.out; omega
  have HBE : Hid (∀ X, Below W.heap.size W X → Calls Try.prog 7 #[.agg #[.int .i64 d, .slice ro rows.length rc], .slice go d gc] X fun e w' => ∃ a b, e = .returned (.tuple #[.int .i64 a, .int .i64 b, .int .i64 (gmE d rows g)]) ∧ BestV d rows g a b ∧ Below X.heap.size X w') := fun X hX => best_any d rows g _ _ X (HVW.out X hX) (HGW.out X hX) HC.out HGL.out HGB.out
  have HSH : Hid (∀ X, Below W.heap.size W X → Calls Try.prog 8 #[.agg #[.int .i64 d, .slice ro rows.length rc], .slice go d gc] X fun e w' => ∃ tv, e = .returned (.tuple #[tv, .int .i64 (gmE d rows g)]) ∧ LwV d rows g w' tv ∧ Below X.heap.size X w') := fun X hX => shows_any d rows g _ _ X (HVW.out X hX) (HGW.out X hX) HC.out HGL.out HGB.out
  have HFA : Hid (∀ X, Below W.heap.size W X → Calls Try.prog 10 #[.agg #[.int .i64 d, .slice ro rows.length rc]] X fun e w' => ∃ tv E, e = .returned (.tuple #[tv, .int .i64 E]) ∧ FkV d rows w' tv E ∧ Below X.heap.size X w') := fun X hX => farkasL_any d rows _ X (HVW.out X hX) HC.out
  have HCO : Hid (∀ X, Below W.heap.size W X → Calls Try.prog 9 #[.agg #[.int .i64 d, .slice ro rows.length rc]] X fun e w' => ∃ u E, e = .returned (.tuple #[u, .int .i64 E]) ∧ CoV d rows w' u E ∧ Below X.heap.size X w') := fun X hX => halfCorners_ok d rows _ X (HVW.out X hX) HC.out HBX.out.op
  obtain ⟨c0, c1⟩ := HCC.out W (Below.refl _ _)
  clear hy1 hy2 hy3 hy4 hyv hyv'
  have hgm := HBX.out.gm HGL.out
  cases he : empB d rows with
  | true =>
    rw [he] at hgm
    simp only [if_true] at hgm
    have HE : Hid (empB d rows = true) := he
    have HNE : Hid (gmE d rows g ≠ 0) := by show _ ≠ _; rw [hgm]; decide
    have HBE2 : Hid (∀ X, Below W.heap.size W X → Calls Try.prog 7 #[.agg #[.int .i64 d, .slice ro rows.length rc], .slice go d gc] X fun e w' => e = .returned (.tuple #[.int .i64 0, .int .i64 0, .int .i64 6]) ∧ Below X.heap.size X w') := fun X hX => by
      refine (HBE.out X hX).mono ?_
      rintro e w' ⟨a', b', rfl, hv, hb⟩
      rw [hgm]
      rcases hv with ⟨_, rfl, rfl⟩ | ⟨y', hn, _⟩
      · exact ⟨rfl, hb⟩
      · exact absurd hn HNE.out
    have HSH2 : Hid (∀ X, Below W.heap.size W X → Calls Try.prog 8 #[.agg #[.int .i64 d, .slice ro rows.length rc], .slice go d gc] X fun e w' => e = .returned (.tuple #[.agg #[.slice none 0 0, .slice none 0 0, .int .i64 0], .int .i64 6]) ∧ Below X.heap.size X w') := fun X hX => by
      refine (HSH.out X hX).mono ?_
      rintro e w' ⟨tv, rfl, hv, hb⟩
      rw [hgm]
      rcases hv with ⟨_, rfl⟩ | ⟨y', co, cc, po, pc, hn, _⟩
      · exact ⟨rfl, hb⟩
      · exact absurd hn HNE.out
    have HCO2 : Hid (∀ X, Below W.heap.size W X → Calls Try.prog 9 #[.agg #[.int .i64 d, .slice ro rows.length rc]] X fun e w' => e = .returned (.tuple #[.slice none 0 0, .int .i64 6]) ∧ Below X.heap.size X w') := fun X hX => by
      refine (HCO.out X hX).mono ?_
      rintro e w' ⟨u, E, rfl, hv, hb⟩
      rcases hv with ⟨_, rfl, rfl⟩ | ⟨hn, _⟩
      · exact ⟨rfl, hb⟩
      · rw [HE.out] at hn; cases hn
    have HFA2 : Hid (∀ X, Below W.heap.size W X → Calls Try.prog 10 #[.agg #[.int .i64 d, .slice ro rows.length rc]] X fun e w' => ∃ (co : Option Addr) (cc : Nat) (po : Option Addr) (pc : Nat) (c : List Int), e = .returned (.tuple #[.agg #[.slice co c.length cc, .slice po c.length pc, .int .i64 1], .int .i64 0]) ∧ Below X.heap.size X w' ∧ ∀ Y, Below w'.heap.size w' Y → Calls Try.prog 11 #[.agg #[.int .i64 d, .slice ro rows.length rc], .agg #[.slice co c.length cc, .slice po c.length pc, .int .i64 1]] Y fun e w' => e = .returned (.bool true) ∧ Below Y.heap.size Y w') := fun X hX => by
      refine (HFA.out X hX).mono ?_
      rintro e w' ⟨tv, E, rfl, hfv, hb⟩
      rcases hfv with ⟨hn, _⟩ | ⟨c, l, co, cc, po, pc, hw, rfl, rfl, hs1, hs2⟩
      · exact absurd hn ((emp_ways d rows).2 HE.out)
      have hcm2 : c ∈ waysL rows (refG d) := by rw [hw]; simp
      refine ⟨co, cc, po, pc, c, rfl, hb, fun Y hY => ?_⟩
      obtain ⟨x1, x2, x3⟩ := ref_ok HC.out hcm2
      exact refuted_ok d rows c (low ((wayN (refG d) (pks rows [] c)).take c.length)) _ co po cc pc c.length Y (HVW.out Y (hX.trans ((hb.trans (hY.mono hb.size)).mono hX.size))) (hs1.below hY (Nat.le_refl _)) (hs2.below hY (Nat.le_refl _)) HC.out.rw HC.out.d1 HC.out.d3 x1 rfl x2 x3
    clear hgm he HBE HSH HCO HFA
    go_wp2_with fail
    refine (HBE2.out W (Below.refl _ _)).mono ?_
    rintro e w3 ⟨rfl, hb3⟩
    have HB3' : Hid (Below W.heap.size W w3) := hb3
    clear hb3 c0 c1 HBE2 hyc
    obtain ⟨c0, c1⟩ := HCC.out w3 HB3'.out
    go_wp2_with fail
    refine (HSH2.out w3 HB3'.out).mono ?_
    rintro e w4 ⟨rfl, hb4⟩
    have HB4 : Hid (Below W.heap.size W w4) := HB3'.out.trans (hb4.mono HB3'.out.size)
    clear hb4 c0 c1 HSH2
    obtain ⟨w5, hw5⟩ : ∃ w5, w5 = w4.alloc (.cells #[.slice none 0 0, .slice none 0 0, .int .i64 0] 33) := ⟨_, rfl⟩
    have hb45 : Below w4.heap.size w4 w5 := by rw [hw5]; exact alloc_keep _ _
    have HB5 : Hid (Below W.heap.size W w5) := HB4.out.trans (hb45.mono HB4.out.size)
    have HW5 : Hid (w5 = w4.alloc (.cells #[.slice none 0 0, .slice none 0 0, .int .i64 0] 33)) := hw5
    obtain ⟨c0, c1⟩ := HCC.out w5 HB5.out
    clear hw5 hb45
    go_upto_region 8 with fail
    rw [← HW5.out]
    clear HW5
    go_wp2_with fail
    refine (HCO2.out w5 HB5.out).mono ?_
    rintro e w6 ⟨rfl, hb6⟩
    have HB6 : Hid (Below W.heap.size W w6) := HB5.out.trans (hb6.mono HB5.out.size)
    clear hb6 c0 c1 HCO2
    obtain ⟨c0, c1⟩ := HCC.out w6 HB6.out
    go_wp2_with fail
    refine (HFA2.out w6 HB6.out).mono ?_
    rintro e w7 ⟨co, cc, po, pc, c, rfl, hb7, hrf⟩
    have HB7 : Hid (Below W.heap.size W w7) := HB6.out.trans (hb7.mono HB6.out.size)
    obtain ⟨w8, hw8⟩ : ∃ w8, w8 = w7.alloc (.cells #[.slice co c.length cc, .slice po c.length pc, .int .i64 1] 33) := ⟨_, rfl⟩
    have hb78 : Below w7.heap.size w7 w8 := by rw [hw8]; exact alloc_keep _ _
    have hk8 : w8.heap[w7.heap.size]? = some (.cells #[.slice co c.length cc, .slice po c.length pc, .int .i64 1] 33 (0, 0)) := by rw [hw8]; exact alloc_new _ _
    have HB8 : Hid (Below W.heap.size W w8) := HB7.out.trans (hb78.mono HB7.out.size)
    have HRF : Hid (Calls Try.prog 11 #[.agg #[.int .i64 d, .slice ro rows.length rc], .agg #[.slice co c.length cc, .slice po c.length pc, .int .i64 1]] w8 fun e w' => e = .returned (.bool true) ∧ Below w8.heap.size w8 w') := hrf w8 hb78
    have HW8 : Hid (w8 = w7.alloc (.cells #[.slice co c.length cc, .slice po c.length pc, .int .i64 1] 33)) := hw8
    have s0 : w8.cell? ⟨w7.heap.size, 0, none⟩ = some (.slice co c.length cc) := by simp [World.cell?, hk8]
    have s1 : w8.cell? ⟨w7.heap.size, 1, none⟩ = some (.slice po c.length pc) := by simp [World.cell?, hk8]
    have s2 : w8.cell? ⟨w7.heap.size, 2, none⟩ = some (.int .i64 1) := by simp [World.cell?, hk8]
    obtain ⟨tb, htb⟩ : ∃ tb, tb = w7.heap.size := ⟨_, rfl⟩
    clear hb7 hrf hw8 hb78 hk8 c0 c1 HFA2
    obtain ⟨c0, c1⟩ := HCC.out w8 HB8.out
    go_upto_region 10 with fail
    rw [← HW8.out]
    rw [← htb] at s0 s1 s2 ⊢
    clear htb HW8
    go_wp2_with fail
    refine HRF.out.mono ?_
    rintro e w9 ⟨rfl, hb9⟩
    have HB9 : Hid (Below W.heap.size W w9) := HB8.out.trans (hb9.mono HB8.out.size)
    clear hb9
    go_wp2
    go_ret
    exact ⟨rfl, HBW.out _ HB9.out⟩
  | false =>
    rw [he] at hgm
    simp only [Bool.false_eq_true, if_false] at hgm
    have HE : Hid (empB d rows = false) := he
    obtain ⟨y, hy⟩ : ∃ y, lwO d rows g (waysL rows g) = some y := by
      cases hl : lwO d rows g (waysL rows g) with
      | none => exact absurd (lwO_none.1 hl) (HBX.out.ways HGL.out)
      | some y => exact ⟨y, rfl⟩
    obtain ⟨a, b, hab⟩ := low_two (sdL rows d y (mW rows g y)) (uW rows g y)
    have hym := lwO_mem hy
    have hup := uW_pos hym
    have hok := way_ok HC.out HGL.out HGB.out hym
    have hub := hok.ub
    have hsb := sdL_bd hok HC.out.rw
    obtain ⟨x1, x2, _⟩ := low_cross hab
    have x3 := low_b hab hup
    have hbp := low_pos hab hup
    have HBE2 : Hid (∀ X, Below W.heap.size W X → Calls Try.prog 7 #[.agg #[.int .i64 d, .slice ro rows.length rc], .slice go d gc] X fun e w' => e = .returned (.tuple #[.int .i64 a, .int .i64 b, .int .i64 0]) ∧ Below X.heap.size X w') := fun X hX => by
      refine (HBE.out X hX).mono ?_
      rintro e w' ⟨a', b', rfl, hv, hb⟩
      rw [hgm]
      rcases hv with ⟨hn, _⟩ | ⟨y', _, hy', hl'⟩
      · exact absurd hgm hn
      · rw [hy] at hy'
        simp only [Option.some.injEq] at hy'
        subst hy'
        rw [hab] at hl'
        simp only [List.cons.injEq, and_true] at hl'
        rw [hl'.1, hl'.2]
        exact ⟨rfl, hb⟩
    have HSH2 : Hid (∀ X, Below W.heap.size W X → Calls Try.prog 8 #[.agg #[.int .i64 d, .slice ro rows.length rc], .slice go d gc] X fun e w' => ∃ co cc po pc, e = .returned (.tuple #[.agg #[.slice co y.length cc, .slice po y.length pc, .int .i64 (uW rows g y)], .int .i64 0]) ∧ Sl 0 3 w' (.slice co y.length cc) (ints y) ∧ Sl 0 3 w' (.slice po y.length pc) (ints (mW rows g y)) ∧ Below X.heap.size X w') := fun X hX => by
      refine (HSH.out X hX).mono ?_
      rintro e w' ⟨tv, rfl, hv, hb⟩
      rw [hgm]
      rcases hv with ⟨hn, _⟩ | ⟨y', co, cc, po, pc, _, hy', rfl, h1, h2⟩
      · exact absurd hgm hn
      · rw [hy] at hy'
        simp only [Option.some.injEq] at hy'
        subst hy'
        exact ⟨co, cc, po, pc, rfl, h1, h2, hb⟩
    have HSN : Hid (∀ X, Below W.heap.size W X → ∀ co cc po pc, Sl 0 3 X (.slice co y.length cc) (ints y) → Sl 0 3 X (.slice po y.length pc) (ints (mW rows g y)) → Calls Try.prog 12 #[.agg #[.int .i64 d, .slice ro rows.length rc], .slice go d gc, .agg #[.slice co y.length cc, .slice po y.length pc, .int .i64 (uW rows g y)], .int .i64 a, .int .i64 b] X fun e w' => e = .returned (.bool true) ∧ Below X.heap.size X w') := fun X hX co cc po pc h1 h2 =>
      shown_ok d rows y (mW rows g y) _ co po cc pc y.length g _ (uW rows g y) a b X (HVW.out X hX) h1 h2 HC.out.rw HC.out.d1 HC.out.d3 (wyg_least HC.out HGL.out HGB.out hym) rfl (HGW.out X hX) HGL.out HGB.out (by omega) (by omega) (by omega) (by omega) (fun i hi => sm_goal HGL.out hym hi) (by rw [sm_last]; exact x1)
    have HCO2 : Hid (∀ X, Below W.heap.size W X → Calls Try.prog 9 #[.agg #[.int .i64 d, .slice ro rows.length rc]] X fun e w' => ∃ (lo : Option Addr) (lc : Nat) (m : List (List Int)), e = .returned (.tuple #[.slice lo m.length lc, .int .i64 0]) ∧ Mat 0 22 3 w' (.slice lo m.length lc) m ∧ DuP d g a b m ∧ m.length ≤ 1000000 ∧ Below X.heap.size X w') := fun X hX => by
      refine (HCO.out X hX).mono ?_
      rintro e w' ⟨u, E, rfl, hv, hb⟩
      rcases hv with ⟨hn, _⟩ | ⟨_, rfl, m, h1, h2⟩
      · rw [HE.out] at hn; cases hn
      · obtain ⟨lo, lc, rfl, _, _⟩ := mat_open h1
        refine ⟨lo, lc, m, rfl, h1, du_ok HC.out HBX.out HGL.out HE.out hy hab h2.mem, Nat.le_trans h2.len (Nat.le_trans (crL_len d rows _) ?_), hb⟩
        have h3 : (ext rows.length d 0).length = (chz d rows).length := by
          have := congrArg List.length (chz_ext rows [] d 0)
          simpa using this
        rw [h3, ← chs_chz]
        refine Nat.le_trans (chs_len _ _) ?_
        exact Nat.le_trans (Nat.pow_le_pow_left (show rows.length + 1 ≤ 25 by have := HC.out.n12; omega) d) (Nat.le_trans (Nat.pow_le_pow_right (by decide) (show d ≤ 4 by omega)) (by decide))
    have HFA2 : Hid (∀ X, Below W.heap.size W X → Calls Try.prog 10 #[.agg #[.int .i64 d, .slice ro rows.length rc]] X fun e w' => e = .returned (.tuple #[.agg #[.slice none 0 0, .slice none 0 0, .int .i64 0], .int .i64 3]) ∧ Below X.heap.size X w') := fun X hX => by
      refine (HFA.out X hX).mono ?_
      rintro e w' ⟨tv, E, rfl, hfv, hb⟩
      obtain ⟨rfl, rfl⟩ := hfv.no HE.out
      exact ⟨rfl, hb⟩
    have HAT : Hid (∀ x : List Int, x.length = d → hoB rows x = true → dotL g x * b ≤ a) := fun x hx hh => du_at HGL.out hy hab hx (fun r hr => by have := hoB_iff.1 hh r hr; rw [hx] at this; exact this)
    have ha8 : a.natAbs ≤ 100000000 := by omega
    have hb6 : b.natAbs ≤ 1296000 := by omega
    have hb1 : 1 ≤ b := by omega
    have hb1b : decide (b < 1) = false := decide_eq_false (by omega)
    clear hgm he HBE HSH HCO HFA hy hab hym hup hok hub hsb x1 x2 x3 hbp HE
    generalize uW rows g y = uy at *
    go_wp2_with fail
    refine (HBE2.out W (Below.refl _ _)).mono ?_
    rintro e w3 ⟨rfl, hb3⟩
    have HB3' : Hid (Below W.heap.size W w3) := hb3
    clear hb3 c0 c1 HBE2 hyc
    obtain ⟨c0, c1⟩ := HCC.out w3 HB3'.out
    go_wp2_with fail
    refine (HSH2.out w3 HB3'.out).mono ?_
    rintro e w4 ⟨co, cc, po, pc, rfl, hs1, hs2, hb4⟩
    have HB4 : Hid (Below W.heap.size W w4) := HB3'.out.trans (hb4.mono HB3'.out.size)
    clear hb4 c0 c1 HSH2
    obtain ⟨w5, hw5⟩ : ∃ w5, w5 = w4.alloc (.cells #[.slice co y.length cc, .slice po y.length pc, .int .i64 uy] 33) := ⟨_, rfl⟩
    have hb45 : Below w4.heap.size w4 w5 := by rw [hw5]; exact alloc_keep _ _
    have hk5 : w5.heap[w4.heap.size]? = some (.cells #[.slice co y.length cc, .slice po y.length pc, .int .i64 uy] 33 (0, 0)) := by rw [hw5]; exact alloc_new _ _
    have HB5 : Hid (Below W.heap.size W w5) := HB4.out.trans (hb45.mono HB4.out.size)
    have HSN5 : Hid (∀ X, Below w5.heap.size w5 X → Calls Try.prog 12 #[.agg #[.int .i64 d, .slice ro rows.length rc], .slice go d gc, .agg #[.slice co y.length cc, .slice po y.length pc, .int .i64 uy], .int .i64 a, .int .i64 b] X fun e w' => e = .returned (.bool true) ∧ Below X.heap.size X w') := fun X hX => HSN.out X (HB5.out.trans (hX.mono HB5.out.size)) co cc po pc ((hs1.below hb45 (Nat.le_refl _)).below hX (Nat.le_refl _)) ((hs2.below hb45 (Nat.le_refl _)).below hX (Nat.le_refl _))
    have HW5 : Hid (w5 = w4.alloc (.cells #[.slice co y.length cc, .slice po y.length pc, .int .i64 uy] 33)) := hw5
    obtain ⟨tb, htb⟩ : ∃ tb, tb = w4.heap.size := ⟨_, rfl⟩
    have HTC : Hid (∀ X, Below w5.heap.size w5 X → X.cell? ⟨tb, 0, none⟩ = some (.slice co y.length cc) ∧ X.cell? ⟨tb, 1, none⟩ = some (.slice po y.length pc) ∧ X.cell? ⟨tb, 2, none⟩ = some (.int .i64 uy)) := fun X hX => by
      have h0 := (hX.block _ (Array.getElem?_eq_some_iff.1 hk5).1).trans hk5
      rw [← htb] at h0
      exact ⟨by simp [World.cell?, h0], by simp [World.cell?, h0], by simp [World.cell?, h0]⟩
    obtain ⟨c0, c1⟩ := HCC.out w5 HB5.out
    clear hw5 hb45 hk5 hs1 hs2 HSN
    go_upto_region 8 with fail
    rw [← HW5.out, ← htb]
    clear HW5 htb
    go_wp2_with fail
    refine (HCO2.out w5 HB5.out).mono ?_
    rintro e w6 ⟨lo, lc, m, rfl, hm6, hdu, hml, hb6'⟩
    have HB56 : Hid (Below w5.heap.size w5 w6) := hb6'
    have HB6 : Hid (Below W.heap.size W w6) := HB5.out.trans (hb6'.mono HB5.out.size)
    have HM6 : Hid (∀ X, Below w6.heap.size w6 X → Mat 0 22 3 X (.slice lo m.length lc) m) := fun X hX => hm6.below hX (Nat.le_refl _)
    have HDU : Hid (DuP d g a b m) := hdu
    clear hb6' c0 c1 HCO2 hm6 hdu
    obtain ⟨c0, c1⟩ := HCC.out w6 HB6.out
    go_wp2_with fail
    refine (HFA2.out w6 HB6.out).mono ?_
    rintro e w7 ⟨rfl, hb7⟩
    obtain ⟨w8, hw8⟩ : ∃ w8, w8 = w7.alloc (.cells #[.slice none 0 0, .slice none 0 0, .int .i64 0] 33) := ⟨_, rfl⟩
    have hb78 : Below w7.heap.size w7 w8 := by rw [hw8]; exact alloc_keep _ _
    have HB68 : Hid (Below w6.heap.size w6 w8) := hb7.trans (hb78.mono hb7.size)
    have HB58 : Hid (Below w5.heap.size w5 w8) := HB56.out.trans (HB68.out.mono HB56.out.size)
    have HB8 : Hid (Below W.heap.size W w8) := HB6.out.trans (HB68.out.mono HB6.out.size)
    have HW8 : Hid (w8 = w7.alloc (.cells #[.slice none 0 0, .slice none 0 0, .int .i64 0] 33)) := hw8
    have HS8 : Hid (Calls Try.prog 12 #[.agg #[.int .i64 d, .slice ro rows.length rc], .slice go d gc, .agg #[.slice co y.length cc, .slice po y.length pc, .int .i64 uy], .int .i64 a, .int .i64 b] w8 fun e w' => e = .returned (.bool true) ∧ Below w8.heap.size w8 w') := HSN5.out w8 HB58.out
    obtain ⟨s0, s1, s2⟩ := HTC.out w8 HB58.out
    clear hb7 hw8 hb78 c0 c1 HFA2 HSN5
    obtain ⟨c0, c1⟩ := HCC.out w8 HB8.out
    go_upto_region 10 with fail
    rw [← HW8.out]
    clear HW8
    go_wp2_with fail
    refine HS8.out.mono ?_
    rintro e w9 ⟨rfl, hb9⟩
    have HB69 : Hid (Below w6.heap.size w6 w9) := HB68.out.trans (hb9.mono HB68.out.size)
    have HB9 : Hid (Below W.heap.size W w9) := HB8.out.trans (hb9.mono HB8.out.size)
    clear hb9 s0 s1 s2 c0 c1 HS8
    go_wp2
    go_loopw [20, 21] (fun x i wr => ∃ j : Nat, j ≤ m.length ∧ i = .int .i64 j ∧ x = .bool (meB d g a b m j) ∧ Below w9.heap.size w9 wr) (fun _ i _ => m.length - (intOf i).toNat)
    case atStart => exact ⟨0, Nat.zero_le _, rfl, rfl, Below.refl _ _⟩
    case round =>
      obtain ⟨j, hj, rfl, rfl, hbl⟩ := hrel
      obtain ⟨wa, rfl⟩ : ∃ wa, wa = wr := ⟨wr, rfl⟩
      have HBA : Hid (Below w9.heap.size w9 wa) := hbl
      have HB6A : Hid (Below w6.heap.size w6 wa) := HB69.out.trans (hbl.mono HB69.out.size)
      have HBWA : Hid (Below W.heap.size W wa) := HB9.out.trans (hbl.mono HB9.out.size)
      clear hbl
      by_cases hlt : j < m.length
      · obtain ⟨z, hz⟩ : ∃ z, z = m.getD j [] := ⟨_, rfl⟩
        have hzm : z ∈ m := by rw [hz, List.getD_eq_getElem?_getD, List.getElem?_eq_getElem hlt]; exact List.getElem_mem _
        have hzl := HDU.out.len z hzm
        have hzb := HDU.out.bd z hzm
        have hzp := HDU.out.pos z hzm
        have hle := HDU.out.le z hzm
        have hzd := hzb (z.getD d 0) (getD_mem (by rw [hzl]; omega))
        obtain ⟨lb, lo', lc', zv, hls, _, hlcell, hzv⟩ := mat_cell (HM6.out wa HB6A.out) hlt
        simp only [Value.slice.injEq] at hls
        obtain ⟨rfl, -, rfl⟩ := hls
        rw [← hz] at hzv
        obtain ⟨zb, zo, zc, hzs, hzc, hzD⟩ := sl_cell hzv (k := d) (by rw [hzl]; omega)
        rw [hzl] at hzs hzc
        subst hzs
        have hT := dot_bd4 (g := g) (y := z) (by rw [HGL.out]; omega) (by rw [HGL.out, hzl]; omega) HGB.out hzb
        have HDT : Hid (Calls Try.prog 13 #[.slice go d gc, .slice (some ⟨zb, zo, none⟩) (d + 1) zc] wa fun e w' => e = .returned (.int .i64 (dotL g z)) ∧ ∃ n, w' = wa.drewN n) := dotE_any 0 g z _ _ wa (HGW.out wa HBWA.out) hzv ⟨by rw [HGL.out, hzl]; omega, by rw [HGL.out]; omega, fun q hq => by have := HGB.out q hq; omega, fun q hq => by have := hzb q hq; omega⟩
        have HSU : Hid (meB d g a b m (j + 1) = (meB d g a b m j || decide (dotL g z * b = a * z.getD d 0))) := by
          show _ = _
          rw [meB_succ hlt, ← hz]
        clear hz hzm hzl hzb hzv
        generalize dotL g z = T at *
        generalize z.getD d 0 = q at *
        have hTb := mul_b7 (p := T) (q := b) (by omega) hb6
        have haq := mul_b7 (p := a) (q := q) ha8 hzd
        obtain ⟨p1, hp1⟩ : ∃ p1, p1 = T * b := ⟨_, rfl⟩
        obtain ⟨p2, hp2⟩ : ∃ p2, p2 = a * q := ⟨_, rfl⟩
        have hw1 : IntKind.i64.wrap (T * b) = p1 := by rw [IntKind.wrap_i64]; omega
        have hw2 : IntKind.i64.wrap (a * q) = p2 := by rw [IntKind.wrap_i64]; omega
        have hw3 : wrap64 (T * b) = p1 := by rw [hp1]; exact IntWalk.wrap64_in _ ⟨by omega, by omega⟩
        have hw4 : wrap64 (a * q) = p2 := by rw [hp2]; exact IntWalk.wrap64_in _ ⟨by omega, by omega⟩
        rw [← hp1, ← hp2] at HSU hle
        have hqb : decide (q < 1) = false := decide_eq_false (by omega)
        have hleb : decide (p2 < p1) = false := decide_eq_false (by omega)
        have hjI : (j : Int) < (m.length : Int) := by omega
        have hjI0 : (0 : Int) ≤ (j : Int) := by omega
        have hdJ : (d : Int) < (d : Int) + 1 := by omega
        have hdJ0 : (0 : Int) ≤ (d : Int) := by omega
        clear hTb haq hp1 hp2 hle hzd hzp hT
        go_wp2_with fail
        refine HDT.out.mono ?_
        rintro e wd ⟨rfl, nq, hwd⟩
        have hbd : Below wa.heap.size wa wd := by rw [hwd]; exact Qe.below ⟨nq, rfl⟩
        have HBD : Hid (Below w9.heap.size w9 wd) := HBA.out.trans (hbd.mono HBA.out.size)
        have k1 : wd.cell? ⟨lb, lo' + j, none⟩ = some (.slice (some ⟨zb, zo, none⟩) (d + 1) zc) := (hbd.cell (lt_of_cell hlcell)).trans hlcell
        have k2 : wd.cell? ⟨zb, zo + d, none⟩ = some (.int .i64 q) := (hbd.cell (lt_of_cell hzD)).trans hzD
        clear hwd hbd hlcell hzD HDT
        cases hme : meB d g a b m j with
        | true =>
          rw [hme] at HSU
          have HSV : Hid (meB d g a b m (j + 1) = true) := by show _ = _; rw [HSU.out]; rfl
          clear hme HSU
          go_wp2
          go_roundw
          case rel => exact ⟨j + 1, by omega, by go_num, by rw [HSV.out], HBD.out⟩
          case measure => simp [intOf]; omega
        | false =>
          rw [hme] at HSU
          have HSV : Hid (meB d g a b m (j + 1) = decide (p1 = p2)) := by show _ = _; rw [HSU.out]; rfl
          clear hme HSU
          go_wp2
          go_roundw
          case rel => exact ⟨j + 1, by omega, by go_num, by rw [HSV.out]; rfl, HBD.out⟩
          case measure => simp [intOf]; omega
      · have hje : j = m.length := by omega
        subst hje
        have HPA : Hid (Calls Try.prog 6 #[.slice bo xs.length cbp, .int .i64 0, .int .i64 d, .int .i64 1, .int .i64 3] wa fun e w' => ∃ (yo : Option Addr) (yc : Nat) (y : List Int), e = .returned (.slice yo 1 yc) ∧ y.length = d ∧ (∀ z ∈ y, z.natAbs ≤ 3) ∧ Mat 0 22 3 w' (.slice yo 1 yc) [y] ∧ Below wa.heap.size wa w') := HPX.out wa (HBW.out wa HBWA.out)
        rw [meB_all HDU.out]
        clear HPX HPG
        go_wp2_with fail
        refine HPA.out.mono ?_
        rintro e wp ⟨po2, pc2, x, rfl, hx1, hx2, hx3, hx4⟩
        obtain ⟨xb, xo', xc', xv, hxs, _, hxc, hxv⟩ := mat_cell hx3 (k := 0) (by simp)
        simp only [Value.slice.injEq] at hxs
        obtain ⟨rfl, -, rfl⟩ := hxs
        have hxv' : Sl 0 3 wp xv (ints x) := hxv
        obtain ⟨xo, xcc, rfl, _, _⟩ := sl_open hxv'
        rw [hx1] at hxv' hxc
        rw [Nat.add_zero] at hxc
        have HBP : Hid (Below W.heap.size W wp) := HBWA.out.trans (hx4.mono HBWA.out.size)
        obtain ⟨c0, c1⟩ := HCC.out wp HBP.out
        have HHO : Hid (Calls Try.prog 14 #[.slice ro rows.length rc, .slice xo d xcc] wp fun e w' => e = .returned (.bool (hoB rows x)) ∧ Below wp.heap.size wp w') := holds_any rows x _ _ wp (HVW.out wp HBP.out) hxv' (by rw [hx1]; exact HC.out) (fun z hz => by have := hx2 z hz; omega)
        have HDX : Hid (∀ X, Below wp.heap.size wp X → Calls Try.prog 13 #[.slice go d gc, .slice xo d xcc] X fun e w' => e = .returned (.int .i64 (dotL g x)) ∧ ∃ n, w' = X.drewN n) := fun X hX => dotE_any 0 g x _ _ X (HGW.out X (HBP.out.trans (hX.mono HBP.out.size))) (hxv'.below hX (Nat.le_refl _)) ⟨by rw [HGL.out, hx1]; omega, by rw [HGL.out]; omega, fun q hq => by have := HGB.out q hq; omega, fun q hq => by have := hx2 q hq; omega⟩
        have hTx := dot_bd4 (g := g) (y := x) (by rw [HGL.out]; omega) (by rw [HGL.out, hx1]; omega) HGB.out (fun q hq => by have := hx2 q hq; omega)
        have hle : hoB rows x = true → dotL g x * b ≤ a := HAT.out x hx1
        clear hx1 hx2 hx3 hx4 hxv hxv' HPA
        generalize hoB rows x = hb0 at *
        generalize dotL g x = T at *
        cases hb0 with
        | false =>
          clear hTx hle HDX
          go_wp2_with fail
          refine HHO.out.mono ?_
          rintro e wz ⟨rfl, hbz⟩
          have HBZ : Hid (Below W.heap.size W wz) := HBP.out.trans (hbz.mono HBP.out.size)
          clear hbz
          go_wp2
          go_ret
          exact ⟨rfl, HBW.out _ HBZ.out⟩
        | true =>
          have hTb := mul_b7 (p := T) (q := b) (by omega) hb6
          have hle2 := hle rfl
          obtain ⟨p1, hp1⟩ : ∃ p1, p1 = T * b := ⟨_, rfl⟩
          have hw1 : IntKind.i64.wrap (T * b) = p1 := by rw [IntKind.wrap_i64]; omega
          have hw3 : wrap64 (T * b) = p1 := by rw [hp1]; exact IntWalk.wrap64_in _ ⟨by omega, by omega⟩
          rw [← hp1] at hle2
          have hleb : decide (p1 ≤ a) = true := decide_eq_true hle2
          clear hTb hle hp1 hTx
          go_wp2_with fail
          refine HHO.out.mono ?_
          rintro e wz ⟨rfl, hbz⟩
          have HBZ : Hid (Below W.heap.size W wz) := HBP.out.trans (hbz.mono HBP.out.size)
          have HDZ : Hid (Calls Try.prog 13 #[.slice go d gc, .slice xo d xcc] wz fun e w' => e = .returned (.int .i64 T) ∧ ∃ n, w' = wz.drewN n) := HDX.out wz hbz
          clear hbz HDX
          go_wp2_with fail
          refine HDZ.out.mono ?_
          rintro e wy ⟨rfl, nq, hwy⟩
          have HBY : Hid (Below W.heap.size W wy) := by show Below _ _ _; rw [hwy]; exact HBZ.out.trans (Qe.below ⟨nq, rfl⟩)
          clear hwy
          go_wp2
          go_ret
          exact ⟨rfl, HBW.out _ HBY.out⟩
end Go.Proofs.Ytfhhjifkgknhgaa
