import Derived.Test.YtgjlnhfjgkljdaaRaA
/- A point against a row; whether a point may be. -/
namespace Go.Proofs.Ytgjlnhfjgkljdaa
open Go.RowKit
attribute [local go_sem ↓] Go.wp_at_zero Go.wp_at_succ

theorem box_near {d k : Nat} {P : List (List Int)} (h : Box d k P) (hk : k ≤ 100) {x : List Int} (hx : x ∈ P) : (x.any (farB · 100)) = false := by
  rw [List.any_eq_false]
  intro z hz
  have := (h x hx).2 z hz
  simp [farB]
  omega

set_option maxRecDepth 100000 in
theorem checkPoint_ok (B d : Nat) (x : List Int) (v : Value) (w : World) (hv : Sl B 3 w v (ints x)) (hd : x.length = d) (hn : (x.any (farB · 100)) = false) :
    Calls Try.prog 26 #[v, .int .i64 d, .int .i64 100] w fun e w' => e = .returned (.int .i64 0) ∧ Below w.heap.size w w' := by
  obtain ⟨ao, cap, hvv, hlc, hcm⟩ := sl_open hv
  subst hvv
  have HV : Hid (Sl B 3 w (.slice ao x.length cap) (ints x)) := hv
  have HN : Hid ((x.any (farB · 100)) = false) := hn
  subst hd
  clear hv hn
  have hb : ((x.length : Int) != (x.length : Int)) = false := by simp
  go_enter Try.func26, Try.ntmps26
  go_wp2_with fail
  refine (anyBeyond_any B x _ 100 w HV.out (by omega) (by omega)).mono ?_
  rintro e w1 ⟨rfl, hb1⟩
  rw [HN.out]
  have HB : Hid (Below w.heap.size w w1) := hb1
  clear hb1
  go_wp2
  go_ret
  exact ⟨rfl, HB.out⟩

theorem Sl.take {B n c : Nat} {w : World} {ao : Option Addr} {zs : List Int} (h : Sl B 3 w (.slice ao zs.length c) (ints zs)) (hn : n ≤ zs.length) : Sl B 3 w (.slice ao n c) (ints (zs.take n)) := by
  obtain ⟨bo, cap, hv, h1, h2, h3, h4⟩ := h
  simp only [Value.slice.injEq] at hv
  obtain ⟨rfl, _, rfl⟩ := hv
  refine ⟨ao, c, by simp; omega, by simp at h1 ⊢; omega, h2, fun i hi => ?_, h4⟩
  have hi' : i < n := by simp at hi; omega
  obtain ⟨b, o, ha, hc, ht⟩ := h3 i (by simp; omega)
  refine ⟨b, o, ha, ?_, ht⟩
  rw [hc, ints_get _ _ (by omega), ints_get _ _ (by simp; omega)]
  simp [hi']

/-- Beyond a row (1), on it (0), or within (-1). -/
def agn (r x : List Int) : Int := cmpI (dotL (r.take x.length) x) (r.getD x.length 0)

set_option maxRecDepth 100000 in
set_option maxHeartbeats 800000 in
theorem against_any (B : Nat) (r x : List Int) (u v : Value) (w : World) (hu : Sl B 3 w u (ints r)) (hv : Sl B 3 w v (ints x)) (hl : r.length = x.length + 1) (hs : Sm (r.take x.length) x) :
    Calls Try.prog 59 #[u, v] w fun e w' => e = .returned (.int .i64 (agn r x)) ∧ Below w.heap.size w w' := by
  obtain ⟨ao, cap, huu, hlc, hcm⟩ := sl_open hu
  obtain ⟨bo, cbp, hvv, hlb, hcb⟩ := sl_open hv
  subst huu hvv
  have HU : Hid (Sl B 3 w (.slice ao r.length cap) (ints r)) := hu
  have HV : Hid (Sl B 3 w (.slice bo x.length cbp) (ints x)) := hv
  have HS : Hid (Sm (r.take x.length) x) := hs
  have hTK := Sl.take (n := x.length) hu (by omega)
  obtain ⟨b, o, cp, hs1, hc1, hcc⟩ := sl_cell hu (k := x.length) (by omega)
  simp only [Value.slice.injEq] at hs1
  obtain ⟨rfl, _, rfl⟩ := hs1
  have HTK : Hid (Sl B 3 w (.slice (some ⟨b, o, none⟩) x.length cap) (ints (r.take x.length))) := hTK
  have HP : Hid (∀ n, Calls Try.prog 51 #[.slice (some ⟨b, o, none⟩) x.length cap, .slice bo x.length cbp] (w.drewN n) fun e w' => e = .returned (.int .i64 (dotL (r.take x.length) x)) ∧ ∃ k, w' = (w.drewN n).drewN k) := fun n =>
    product_any B _ x _ _ _ (HTK.out.drewN n) (HV.out.drewN n) HS.out
  have HAG : Hid (agn r x = cmpI (dotL (r.take x.length) x) (r.getD x.length 0)) := rfl
  generalize dotL (r.take x.length) x = D at *
  generalize r.getD x.length 0 = q at *
  rw [hl] at hlc
  rw [hl]
  clear hu hv hs hTK
  have HC : Hid (∀ n, Calls Try.prog 72 #[.int .i64 D, .int .i64 q] (w.drewN n) fun e w' => e = .returned (.int .i64 (cmpI D q)) ∧ w' = w.drewN n) := fun n => cmpI_any D q _
  generalize cmpI D q = R at *
  generalize hxl : x.length = xl at *
  have hx0 : (0 : Int) ≤ (xl : Int) := by omega
  have hx1 : (xl : Int) < (xl : Int) + 1 := by omega
  have hx2 : xl ≤ cap := by omega
  have hx3 : (xl : Int) ≤ (cap : Int) := by omega
  go_enter Try.func59, Try.ntmps59
  go_wp2
  go_quiet (first | (go_at_call 51; exact Calls.quiet_of (w := w) (HP.out _)) | (go_at_call 72; exact Calls.quiet_of_same (w := w) (HC.out _)))
  go_wp2
  go_ret
  exact ⟨by rw [HAG.out]; rfl, ⟨rfl, rfl, rfl, Nat.le_refl _, fun _ _ => rfl⟩⟩

end Go.Proofs.Ytgjlnhfjgkljdaa

/- A polytope that may be; where a point is. -/
namespace Go.Proofs.Ytgjlnhfjgkljdaa
open Go.RowKit
attribute [local go_sem ↓] Go.wp_at_zero Go.wp_at_succ

/-- A polytope of small numbers that does not lie flat. -/
structure Good (d : Nat) (P : List (List Int)) : Prop where
  d1 : 1 ≤ d
  d4 : d ≤ 4
  n2 : 2 ≤ P.length
  n24 : P.length ≤ 24
  box : Box d 30 P
  full : (pickL d (diffL P)).length = d

set_option maxRecDepth 100000 in
set_option maxHeartbeats 1600000 in
theorem hullCheck_ok (d : Nat) (P : List (List Int)) (v : Value) (w : World) (hv : Mat w.heap.size 22 3 w v P) (hg : Good d P) :
    Calls Try.prog 14 #[.agg #[.int .i64 d, v]] w fun e w' => e = .returned (.int .i64 0) ∧ Below w.heap.size w w' := by
  obtain ⟨b, o, cap, r1, hvv, hlc, _, _⟩ := mat_cell hv (k := 0) (by have := hg.n2; omega)
  subst hvv
  have HG : Hid (Good d P) := hg
  have h1 := hg.d1
  have h4 := hg.d4
  have h2 := hg.n2
  have h24 := hg.n24
  obtain ⟨W, hW⟩ : ∃ W, W = w.alloc (.cells #[.int .i64 d, .slice (some ⟨b, o, none⟩) P.length cap] 26) := ⟨_, rfl⟩
  have hbw : Below w.heap.size w W := by rw [hW]; exact alloc_keep _ _
  have HW : Hid (Below w.heap.size w W) := hbw
  have HV : Hid (Mat w.heap.size 22 3 W (.slice (some ⟨b, o, none⟩) P.length cap) P) := hv.below hbw (Nat.le_refl _)
  have hsW : W.heap.size = w.heap.size + 1 := by rw [hW]; exact size_alloc _ _
  have c0 : W.cell? ⟨w.heap.size, 0, none⟩ = some (.int .i64 d) := by rw [hW]; simp
  have c1 : W.cell? ⟨w.heap.size, 1, none⟩ = some (.slice (some ⟨b, o, none⟩) P.length cap) := by rw [hW]; simp
  have HC : Hid (∀ W', Below W.heap.size W W' → W'.cell? ⟨w.heap.size, 0, none⟩ = some (.int .i64 d) ∧ W'.cell? ⟨w.heap.size, 1, none⟩ = some (.slice (some ⟨b, o, none⟩) P.length cap)) := fun W' h => ⟨(h.cell (lt_of_cell c0)).trans c0, (h.cell (lt_of_cell c1)).trans c1⟩
  clear hv hg hbw
  have t1 : decide ((d : Int) < 1) = false := by simp; omega
  have t2 : decide ((4 : Int) < (d : Int)) = false := by simp; omega
  have t3 : decide ((P.length : Int) < 1) = false := by simp; omega
  have t4 : decide ((24 : Int) < (P.length : Int)) = false := by simp; omega
  go_enter Try.func14, Try.ntmps14
  go_wp2
  rw [← hW]
  clear hW
  go_loopw [27] (fun i wr => ∃ k : Nat, k ≤ P.length ∧ i = .int .i64 k ∧ Below W.heap.size W wr) (fun i _ => P.length - (intOf i).toNat)
  case atStart => exact ⟨0, Nat.zero_le _, rfl, Below.refl _ _⟩
  case round =>
    obtain ⟨k, hk, rfl, hbel⟩ := hrel
    have HB : Hid (Below W.heap.size W wr) := hbel
    have e0 := (HC.out wr hbel).1
    have e1 := (HC.out wr hbel).2
    clear hbel
    by_cases hlt : k < P.length
    · obtain ⟨b2, o2, cp2, rk, hs, hc1, hcc, hrk⟩ := mat_cell (HV.out.below HB.out (Nat.le_refl _)) hlt
      simp only [Value.slice.injEq, Option.some.injEq, Addr.mk.injEq, and_true, true_and] at hs
      obtain ⟨⟨rfl, rfl⟩, rfl⟩ := hs
      obtain ⟨ro, rc, hrv, _, _⟩ := sl_open hrk
      subst hrv
      have hmem : P.getD k [] ∈ P := by simp [hlt]
      have HRK : Hid (Sl w.heap.size 3 wr (.slice ro (P.getD k []).length rc) (ints (P.getD k []))) := hrk
      have HL : Hid ((P.getD k []).length = d) := (HG.out.box _ hmem).1
      have HN : Hid (((P.getD k []).any (farB · 100)) = false) := box_near HG.out.box (by decide) hmem
      clear hrk hmem
      generalize P.getD k [] = q at *
      generalize hql : q.length = ql at *
      have HQ : Hid (q.length = ql) := hql
      clear hql
      go_wp2_with fail
      refine (checkPoint_ok w.heap.size d q _ wr HRK.out (by rw [HQ.out]; exact HL.out) HN.out).mono ?_
      rintro e w2 ⟨rfl, hb2⟩
      have HB2 : Hid (Below W.heap.size W w2) := HB.out.trans (hb2.mono HB.out.size)
      clear hb2
      go_wp2
      go_roundw
      case rel => exact ⟨k + 1, by omega, by go_num, HB2.out⟩
      case measure => simp [intOf]; omega
    · have HRW : Hid (∀ r ∈ P, r.length = d) := fun r hr => (HG.out.box r hr).1
      have HRB : Hid (∀ r ∈ P, ∀ z ∈ r, z.natAbs ≤ 1000000) := fun r hr z hz => by have := box_small HG.out.box hr z hz; omega
      have HVr : Hid (Mat w.heap.size 22 3 wr (.slice (some ⟨b, o, none⟩) P.length cap) P) := HV.out.below HB.out (Nat.le_refl _)
      have HDF : Hid (Calls Try.prog 28 #[.slice (some ⟨b, o, none⟩) P.length cap] wr.drew fun e w' => ∃ xo xl xc, e = .returned (.slice xo xl xc) ∧ (Mat w'.heap.size 22 3 w' (.slice xo xl xc) (diffL P) ∧ Below W.heap.size W w')) := by
        refine (differences_any w.heap.size d P _ wr.drew (HVr.out.drewN 1) (by omega) (by omega) h1 (by omega) HRW.out HRB.out).mono ?_
        rintro e w' ⟨x, rfl, hx, hb⟩
        have hM := hx.mat (B' := w'.heap.size) hb.size
        obtain ⟨xo, xc, hxv, _, _⟩ := mat_open hM
        subst hxv
        exact ⟨xo, _, xc, rfl, hM, HB.out.drew.trans (hb.mono HB.out.size)⟩
      have HRK : Hid (∀ w' xo xl xc, Mat w'.heap.size 22 3 w' (.slice xo xl xc) (diffL P) → Below W.heap.size W w' → Calls Try.prog 27 #[.slice xo xl xc, .int .i64 d] w' fun e w'' => e = .returned (.int .i64 d) ∧ Below W.heap.size W w'') := fun w' xo xl xc hM hb => by
        have hmx := diff_mx HG.out.box h1 (show d ≤ 5 by omega)
        refine (rankP_any w'.heap.size d (diffL P) _ w' hmx hM (by rw [diffL_length]; omega) (by rw [diffL_length]; omega)).mono ?_
        rintro e w'' ⟨rfl, hb2⟩
        exact ⟨by rw [HG.out.full], hb.trans (hb2.mono hb.size)⟩
      have hdd : decide ((d : Int) < (d : Int)) = false := by simp
      go_wp2
      go_region_law (first
        | (refine step_call (o := { dst := some 41, op := _, type := _, pos := _, after := _, guard := _ }) (by rfl) 28 _ 24 (by rfl) _ (by rfl) ⟨_, Try.func28, by rfl, by rfl⟩ ?_; refine (HDF.out).mono ?_; rintro e w2 ⟨xo, xl, xc, rfl, hx⟩; refine ⟨_, rfl, ?_⟩; have HX2 : Hid (Mat w2.heap.size 22 3 w2 (.slice xo xl xc) (diffL P) ∧ Below W.heap.size W w2) := hx; have f0 := (HC.out w2 hx.2).1; clear hx)
        | (refine step_call2 (o := { dst := some 44, op := _, type := _, pos := _, after := _, guard := _ }) (by rfl) 27 _ _ 24 3 (by rfl) _ _ (by rfl) (by rfl) ⟨_, Try.func27, by rfl, by rfl⟩ ?_; refine (HRK.out w2 xo xl xc HX2.out.1 HX2.out.2).mono ?_; rintro e w3 ⟨rfl, hb3⟩; refine ⟨_, rfl, ?_⟩; have HB3 : Hid (Below W.heap.size W w3) := hb3; have g0 := (HC.out w3 hb3).1; clear hb3))
      all_goals
        go_wp2
        go_ret
        exact ⟨rfl, HW.out.trans (HB3.out.mono HW.out.size)⟩

end Go.Proofs.Ytgjlnhfjgkljdaa

/- Where a point is. -/
namespace Go.Proofs.Ytgjlnhfjgkljdaa
open Go.RowKit
attribute [local go_sem ↓] Go.wp_at_zero Go.wp_at_succ

/-- The greatest of what the rows say. -/
def whr (rows : List (List Int)) (x : List Int) : Int := rows.foldl (fun p r => max p (agn r x)) (-1)

theorem whr_snoc (rows : List (List Int)) (x : List Int) (k : Nat) (h : k < rows.length) : whr (rows.take (k + 1)) x = max (whr (rows.take k) x) (agn (rows.getD k []) x) := by
  rw [List.take_succ_eq_append_getElem h]
  unfold whr
  rw [List.foldl_append]; simp [h]

theorem agn_bd (r x : List Int) : -1 ≤ agn r x ∧ agn r x ≤ 1 := by
  unfold agn cmpI
  split
  · omega
  · split <;> omega

theorem whr_bd (rows : List (List Int)) (x : List Int) : ∀ k, k ≤ rows.length → -1 ≤ whr (rows.take k) x ∧ whr (rows.take k) x ≤ 1 := by
  intro k
  induction k with
  | zero => intro _; simp [whr]
  | succ k ih =>
    intro hk
    rw [whr_snoc _ _ _ (by omega)]
    have h1 := ih (by omega)
    have h2 := agn_bd (rows.getD k []) x
    omega

/-- What is held of rows, so that products with them are small. -/
def RowsFit (d : Nat) (rows : List (List Int)) : Prop := ∀ r ∈ rows, r.length = d + 1 ∧ ∀ z ∈ r.take d, z.natAbs ≤ 1000000000000

end Go.Proofs.Ytgjlnhfjgkljdaa
