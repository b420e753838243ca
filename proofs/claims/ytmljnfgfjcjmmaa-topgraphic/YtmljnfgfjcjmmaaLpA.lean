import Derived.Test.YtmljnfgfjcjmmaaWiA
import Derived.Test.YtmljnfgfjcjmmaaWyA
/- lp.said, and which of two ways says less. -/
namespace Go.Proofs.Ytmljnfgfjcjmmaa
open Go.RowKit Lin
attribute [local go_sem ↓] Go.wp_at_zero Go.wp_at_succ

/-- So much of the rows' last numbers, added. -/
def sdT (rows : List (List Int)) (d : Nat) (y a : List Int) (k : Nat) : Int := sumN k fun i => a.getD i 0 * (rows.getD (y.getD i 0).toNat []).getD d 0
def sdL (rows : List (List Int)) (d : Nat) (y a : List Int) : Int := sdT rows d y a y.length

/-- A way, and numbers that are not great. -/
structure WyOk (rows : List (List Int)) (y a : List Int) (u : Int) : Prop where
  len : a.length = y.length
  l3 : y.length ≤ 3
  mem : ∀ z ∈ y, 0 ≤ z ∧ z < (rows.length : Int)
  bd : ∀ z ∈ a, z.natAbs ≤ 1296000
  ub : u.natAbs ≤ 1296000

theorem getD_memR {l : List (List Int)} {i : Nat} (h : i < l.length) : l.getD i [] ∈ l := by simp [h]

theorem sdT_bd {rows : List (List Int)} {d : Nat} {y a : List Int} {u : Int} (h : WyOk rows y a u) (hx : RwE d rows) : ∀ k, k ≤ y.length → (sdT rows d y a k).natAbs ≤ k * 25920000 ∧ (k < y.length → (a.getD k 0 * (rows.getD (y.getD k 0).toNat []).getD d 0).natAbs ≤ 25920000) := by
  have hb : ∀ k, k < y.length → (a.getD k 0 * (rows.getD (y.getD k 0).toNat []).getD d 0).natAbs ≤ 25920000 := fun k hk => by
    have h1 := h.bd _ (getD_mem (l := a) (i := k) (by rw [h.len]; exact hk))
    have h2 := h.mem _ (getD_mem (l := y) (i := k) hk)
    have h3 : (y.getD k 0).toNat < rows.length := by omega
    have h4 := hx (rows.getD (y.getD k 0).toNat []) (getD_memR h3)
    have h5 := h4.2 _ (getD_mem (l := rows.getD (y.getD k 0).toNat []) (i := d) (by rw [h4.1]; omega))
    rw [Int.natAbs_mul]
    exact Nat.le_trans (Nat.mul_le_mul h1 h5) (by decide)
  intro k
  induction k with
  | zero => intro _; exact ⟨by simp [sdT, sumN], hb 0⟩
  | succ k ih =>
    intro hk
    refine ⟨?_, hb (k + 1)⟩
    have h1 := (ih (by omega)).1
    have h2 := hb k (by omega)
    have := Int.natAbs_add_le (sdT rows d y a k) (a.getD k 0 * (rows.getD (y.getD k 0).toNat []).getD d 0)
    unfold sdT at *
    rw [sumN]
    omega

theorem sdL_bd {rows : List (List Int)} {d : Nat} {y a : List Int} {u : Int} (h : WyOk rows y a u) (hx : RwE d rows) : (sdL rows d y a).natAbs ≤ 77760000 := by
  have := (sdT_bd h hx y.length (Nat.le_refl _)).1
  have := h.l3
  unfold sdL
  omega

set_option maxRecDepth 100000 in
set_option maxHeartbeats 1600000 in
theorem said_any (d : Nat) (rows : List (List Int)) (y a : List Int) (u : Int) (v : Value) (yo ao : Option Addr) (yc ac ny : Nat) (w : World) (hv : Mat 0 22 3 w v rows) (hy : Sl 0 3 w (.slice yo ny yc) (ints y)) (ha : Sl 0 3 w (.slice ao ny ac) (ints a)) (hx : RwE d rows) (ho : WyOk rows y a u) (hny : ny = y.length) :
    Calls Try.prog 80 #[.agg #[.int .i64 d, v], .agg #[.slice yo ny yc, .slice ao ny ac, .int .i64 u]] w fun e w' => e = .returned (.int .i64 (sdL rows d y a)) ∧ Below w.heap.size w w' := by
  obtain ⟨ro, rc, hvv, hlc, hcm⟩ := mat_open hv
  subst hvv
  obtain ⟨W0, hW0, hb0, hs0, hc0⟩ := cut_box w d (.slice ro rows.length rc)
  obtain ⟨W, hW⟩ : ∃ W, W = W0.alloc (.cells #[.slice yo ny yc, .slice ao ny ac, .int .i64 u] 117) := ⟨_, rfl⟩
  have hbW : Below W0.heap.size W0 W := by rw [hW]; exact alloc_keep _ _
  have hkW : W.heap[W0.heap.size]? = some (.cells #[.slice yo ny yc, .slice ao ny ac, .int .i64 u] 117 (0, 0)) := by rw [hW]; exact alloc_new _ _
  have HKK : Hid (∀ X, Below W.heap.size W X → X.cell? ⟨w.heap.size + 1, 0, none⟩ = some (.slice yo ny yc) ∧ X.cell? ⟨w.heap.size + 1, 1, none⟩ = some (.slice ao ny ac)) := fun X hX => by
    have h1 := (hX.block W0.heap.size (by rw [hW, size_alloc]; omega)).trans hkW
    rw [hs0] at h1
    exact ⟨by simp [World.cell?, h1], by simp [World.cell?, h1]⟩
  have HCC : Hid (∀ X, Below W.heap.size W X → X.cell? ⟨w.heap.size, 0, none⟩ = some (.int .i64 d) ∧ X.cell? ⟨w.heap.size, 1, none⟩ = some (.slice ro rows.length rc)) := fun X hX => hc0 X (hbW.trans (hX.mono hbW.size))
  have HBW : Hid (∀ X, Below W.heap.size W X → Below w.heap.size w X) := fun X hX => hb0.trans ((hbW.trans (hX.mono hbW.size)).mono hb0.size)
  have HRW : Hid (∀ X, Below W.heap.size W X → Mat 0 22 3 X (.slice ro rows.length rc) rows) := fun X hX => hv.below (HBW.out X hX) (Nat.le_refl _)
  have HYW : Hid (∀ X, Below W.heap.size W X → Sl 0 3 X (.slice yo ny yc) (ints y)) := fun X hX => hy.below (HBW.out X hX) (Nat.le_refl _)
  have HAW : Hid (∀ X, Below W.heap.size W X → Sl 0 3 X (.slice ao ny ac) (ints a)) := fun X hX => ha.below (HBW.out X hX) (Nat.le_refl _)
  have HX : Hid (RwE d rows) := hx
  have HO : Hid (WyOk rows y a u) := ho
  have HWW : Hid (W = (w.alloc (.cells #[.int .i64 d, .slice ro rows.length rc] 69)).alloc (.cells #[.slice yo ny yc, .slice ao ny ac, .int .i64 u] 117)) := by show _ = _; rw [hW, hW0]
  have HBD : Hid (∀ k, k ≤ ny → (sdT rows d y a k).natAbs ≤ k * 25920000 ∧ (k < ny → (a.getD k 0 * (rows.getD (y.getD k 0).toNat []).getD d 0).natAbs ≤ 25920000)) := by rw [hny]; exact sdT_bd ho hx
  have h3 : ny ≤ 3 := by rw [hny]; exact ho.l3
  have HAL : Hid (a.length = ny) := by rw [hny]; exact ho.len
  have HSD : Hid (sdL rows d y a = sdT rows d y a ny) := by show _ = _; rw [hny]; rfl
  have HNY : Hid (ny = y.length) := hny
  obtain ⟨k0, k1⟩ := HKK.out W (Below.refl _ _)
  clear hv hy ha hx ho hW0 hb0 hs0 hc0 hW hbW hkW hny
  go_enter Try.func80, Try.ntmps80
  go_upto_region 2 with fail
  rw [← HWW.out]
  go_wp2
  go_loopw [5, 11] (fun s i X => ∃ k : Nat, k ≤ ny ∧ i = .int .i64 k ∧ s = .int .i64 (sdT rows d y a k) ∧ Below W.heap.size W X) (fun _ i _ => ny - (intOf i).toNat)
  case atStart => exact ⟨0, Nat.zero_le _, rfl, rfl, Below.refl _ _⟩
  case round =>
    clear k0 k1
    obtain ⟨k, hk, rfl, rfl, hb⟩ := hrel
    have HB : Hid (Below W.heap.size W wr) := hb
    clear hb
    by_cases hlt : k < ny
    · obtain ⟨k0, k1⟩ := HKK.out wr HB.out
      obtain ⟨c0, c1⟩ := HCC.out wr HB.out
      obtain ⟨b1, o1, cp1, e1, _, m1⟩ := sl_cell (HYW.out wr HB.out) (k := k) (by rw [← HNY.out]; exact hlt)
      simp only [Value.slice.injEq] at e1
      obtain ⟨rfl, -, rfl⟩ := e1
      obtain ⟨b2, o2, cp2, e2, _, m2⟩ := sl_cell (HAW.out wr HB.out) (k := k) (by rw [HAL.out]; exact hlt)
      simp only [Value.slice.injEq] at e2
      obtain ⟨rfl, -, rfl⟩ := e2
      have hmm := HO.out.mem _ (getD_mem (l := y) (i := k) (by rw [← HNY.out]; exact hlt))
      have hb1 := (HBD.out k hk).1
      have hb2 := (HBD.out k hk).2 hlt
      have HS1 : Hid (sdT rows d y a (k + 1) = sdT rows d y a k + a.getD k 0 * (rows.getD (y.getD k 0).toNat []).getD d 0) := rfl
      obtain ⟨q, hq⟩ : ∃ q : Nat, y.getD k 0 = (q : Int) := ⟨(y.getD k 0).toNat, by omega⟩
      rw [hq] at m1 hmm hb2 HS1
      rw [show ((q : Int)).toNat = q by omega] at hb2 HS1
      have hqr : q < rows.length := by omega
      obtain ⟨b3, o3, cp3, rv, e3, _, m3, hr3⟩ := mat_cell (HRW.out wr HB.out) hqr
      simp only [Value.slice.injEq] at e3
      obtain ⟨rfl, -, rfl⟩ := e3
      have hrl := HX.out (rows.getD q []) (by simp [hqr])
      obtain ⟨b4, o4, cp4, e4, _, m4⟩ := sl_cell hr3 (k := d) (by rw [hrl.1]; omega)
      subst e4
      rw [hrl.1] at m3
      clear hr3 hrl hq
      generalize sdT rows d y a k = s0 at *
      generalize a.getD k 0 = x1 at *
      generalize (rows.getD q []).getD d 0 = x2 at *
      have hw1 : wrap64 (x1 * x2) = x1 * x2 := IntWalk.wrap64_in _ ⟨by omega, by omega⟩
      have hw2 : wrap64 (s0 + x1 * x2) = s0 + x1 * x2 := IntWalk.wrap64_in _ ⟨by omega, by omega⟩
      have hkI : (k : Int) < (ny : Int) := by omega
      have hkI0 : (0 : Int) ≤ (k : Int) := by omega
      have hqI : (q : Int) < (rows.length : Int) := by omega
      have hqI0 : (0 : Int) ≤ (q : Int) := by omega
      have hdI : (d : Int) < (d : Int) + 1 := by omega
      have hdI0 : (0 : Int) ≤ (d : Int) := by omega
      clear hb1 hb2 hmm
      go_wp2
      go_region
      go_wp2
      go_roundw
      case rel => exact ⟨k + 1, by omega, by go_num, by rw [HS1.out, hw2], HB.out.drew⟩
      case measure => simp [intOf]; omega
    · obtain rfl : ny = k := by omega
      go_wp2
      go_ret
      exact ⟨by rw [HSD.out]; rfl, HBW.out _ HB.out⟩

set_option maxRecDepth 100000 in
set_option maxHeartbeats 1600000 in
theorem less_any (d : Nat) (rows : List (List Int)) (y a y2 a2 : List Int) (u u2 : Int) (v : Value) (yo ao yo2 ao2 : Option Addr) (yc ac yc2 ac2 ny ny2 : Nat) (bx : Nat) (w : World) (hv : Mat 0 22 3 w v rows) (hbx : w.heap[bx]? = some (.cells #[.int .i64 d, v] 69 (0, 0)))
    (hy : Sl 0 3 w (.slice yo ny yc) (ints y)) (ha : Sl 0 3 w (.slice ao ny ac) (ints a)) (hy2 : Sl 0 3 w (.slice yo2 ny2 yc2) (ints y2)) (ha2 : Sl 0 3 w (.slice ao2 ny2 ac2) (ints a2)) (hx : RwE d rows) (ho : WyOk rows y a u) (ho2 : WyOk rows y2 a2 u2) (hny : ny = y.length) (hny2 : ny2 = y2.length) :
    Calls Try.prog 84 #[.agg #[.slice yo ny yc, .slice ao ny ac, .int .i64 u], .agg #[.slice yo2 ny2 yc2, .slice ao2 ny2 ac2, .int .i64 u2], .pointer (some ⟨bx, 0, none⟩)] w fun e w' => e = .returned (.bool (decide (sdL rows d y a * u2 < sdL rows d y2 a2 * u))) ∧ Below w.heap.size w w' := by
  obtain ⟨W1, hW1⟩ : ∃ W1, W1 = w.alloc (.cells #[.slice yo ny yc, .slice ao ny ac, .int .i64 u] 117) := ⟨_, rfl⟩
  obtain ⟨W, hW⟩ : ∃ W, W = W1.alloc (.cells #[.slice yo2 ny2 yc2, .slice ao2 ny2 ac2, .int .i64 u2] 117) := ⟨_, rfl⟩
  have hb1 : Below w.heap.size w W1 := by rw [hW1]; exact alloc_keep _ _
  have hb2 : Below W1.heap.size W1 W := by rw [hW]; exact alloc_keep _ _
  have hs1 : W1.heap.size = w.heap.size + 1 := by rw [hW1]; exact size_alloc _ _
  have hs2 : W.heap.size = w.heap.size + 2 := by rw [hW, size_alloc, hs1]
  have hk1 : W1.heap[w.heap.size]? = some (.cells #[.slice yo ny yc, .slice ao ny ac, .int .i64 u] 117 (0, 0)) := by rw [hW1]; exact alloc_new _ _
  have hk2 : W.heap[w.heap.size + 1]? = some (.cells #[.slice yo2 ny2 yc2, .slice ao2 ny2 ac2, .int .i64 u2] 117 (0, 0)) := by rw [hW, ← hs1]; exact alloc_new _ _
  have HBW : Hid (∀ X, Below W.heap.size W X → Below w.heap.size w X) := fun X hX => hb1.trans ((hb2.trans (hX.mono hb2.size)).mono hb1.size)
  have hbl := (Array.getElem?_eq_some_iff.1 hbx).1
  have HCE : Hid (∀ X, Below W.heap.size W X → X.cell? ⟨bx, 0, none⟩ = some (.int .i64 d) ∧ X.cell? ⟨bx, 1, none⟩ = some v ∧ X.cell? ⟨w.heap.size, 0, none⟩ = some (.slice yo ny yc) ∧ X.cell? ⟨w.heap.size, 1, none⟩ = some (.slice ao ny ac) ∧ X.cell? ⟨w.heap.size, 2, none⟩ = some (.int .i64 u) ∧ X.cell? ⟨w.heap.size + 1, 0, none⟩ = some (.slice yo2 ny2 yc2) ∧ X.cell? ⟨w.heap.size + 1, 1, none⟩ = some (.slice ao2 ny2 ac2) ∧ X.cell? ⟨w.heap.size + 1, 2, none⟩ = some (.int .i64 u2)) := fun X hX => by
    have q0 := ((HBW.out X hX).block bx hbl).trans hbx
    have q1 := (hX.block w.heap.size (by omega)).trans ((hb2.block w.heap.size (by omega)).trans hk1)
    have q2 := (hX.block (w.heap.size + 1) (by omega)).trans hk2
    exact ⟨by simp [World.cell?, q0], by simp [World.cell?, q0], by simp [World.cell?, q1], by simp [World.cell?, q1], by simp [World.cell?, q1], by simp [World.cell?, q2], by simp [World.cell?, q2], by simp [World.cell?, q2]⟩
  have HS1 : Hid (∀ X, Below W.heap.size W X → Calls Try.prog 80 #[.agg #[.int .i64 d, v], .agg #[.slice yo ny yc, .slice ao ny ac, .int .i64 u]] X fun e w' => e = .returned (.int .i64 (sdL rows d y a)) ∧ Below X.heap.size X w') := fun X hX =>
    said_any d rows y a u v yo ao yc ac ny X (hv.below (HBW.out X hX) (Nat.le_refl _)) (hy.below (HBW.out X hX) (Nat.le_refl _)) (ha.below (HBW.out X hX) (Nat.le_refl _)) hx ho hny
  have HS2 : Hid (∀ X, Below W.heap.size W X → Calls Try.prog 80 #[.agg #[.int .i64 d, v], .agg #[.slice yo2 ny2 yc2, .slice ao2 ny2 ac2, .int .i64 u2]] X fun e w' => e = .returned (.int .i64 (sdL rows d y2 a2)) ∧ Below X.heap.size X w') := fun X hX =>
    said_any d rows y2 a2 u2 v yo2 ao2 yc2 ac2 ny2 X (hv.below (HBW.out X hX) (Nat.le_refl _)) (hy2.below (HBW.out X hX) (Nat.le_refl _)) (ha2.below (HBW.out X hX) (Nat.le_refl _)) hx ho2 hny2
  have HWW : Hid (W = (w.alloc (.cells #[.slice yo ny yc, .slice ao ny ac, .int .i64 u] 117)).alloc (.cells #[.slice yo2 ny2 yc2, .slice ao2 ny2 ac2, .int .i64 u2] 117)) := by show _ = _; rw [hW, hW1]
  have hb1' := sdL_bd ho hx
  have hb2' := sdL_bd ho2 hx
  have hp1 : (sdL rows d y a * u2).natAbs ≤ 77760000 * 1296000 := by rw [Int.natAbs_mul]; exact Nat.mul_le_mul hb1' ho2.ub
  have hp2 : (sdL rows d y2 a2 * u).natAbs ≤ 77760000 * 1296000 := by rw [Int.natAbs_mul]; exact Nat.mul_le_mul hb2' ho.ub
  obtain ⟨vo, vl, vc, hvv⟩ : ∃ vo vl vc, v = .slice vo vl vc := by obtain ⟨ro, rc, h, _⟩ := mat_open hv; exact ⟨_, _, _, h⟩
  clear hv hbx hy ha hy2 ha2 hx ho ho2 hny hny2 hW1 hW hb1 hb2 hs1 hk1 hk2 hbl hb1' hb2'
  generalize sdL rows d y a = s1 at *
  generalize sdL rows d y2 a2 = s2 at *
  have hw1 : wrap64 (s1 * u2) = s1 * u2 := IntWalk.wrap64_in _ ⟨by omega, by omega⟩
  have hw2 : wrap64 (s2 * u) = s2 * u := IntWalk.wrap64_in _ ⟨by omega, by omega⟩
  have hw1' : IntKind.i64.wrap (s1 * u2) = s1 * u2 := by rw [IntWalk.i64_left]; exact hw1
  have hw2' : IntKind.i64.wrap (s2 * u) = s2 * u := by rw [IntWalk.i64_left]; exact hw2
  subst hvv
  clear hp1 hp2
  go_enter Try.func84, Try.ntmps84
  go_upto_region 1 with fail
  rw [← HWW.out]
  refine wp_region_held_drew (S := fun X => X.cell? ⟨bx, 0, none⟩ = some (.int .i64 d) ∧ X.cell? ⟨bx, 1, none⟩ = some (.slice vo vl vc) ∧ X.cell? ⟨w.heap.size, 0, none⟩ = some (.slice yo ny yc) ∧ X.cell? ⟨w.heap.size, 1, none⟩ = some (.slice ao ny ac) ∧ X.cell? ⟨w.heap.size, 2, none⟩ = some (.int .i64 u) ∧ X.cell? ⟨w.heap.size + 1, 0, none⟩ = some (.slice yo2 ny2 yc2) ∧ X.cell? ⟨w.heap.size + 1, 1, none⟩ = some (.slice ao2 ny2 ac2) ∧ X.cell? ⟨w.heap.size + 1, 2, none⟩ = some (.int .i64 u2)) (by kernel_rfl) (HCE.out W (Below.refl _ _)) (fun hHeld => ?_)
  refine wpAnyH_tk (i := 0) (d := 6) (v := (.agg #[.int .i64 d, .slice vo vl vc])) rfl rfl (by kernel_rfl) (by kernel_rfl) (by kernel_rfl) (fun _ _ _ h => h) (.inl ⟨by rfl, by (intro wq hSw; (try dsimp only at hSw); go_simp; (try (first | rfl | omega)))⟩) hHeld ?_
  simp only [Act.put, List.setIfInBounds_toArray, List.set_cons_zero, List.set_cons_succ]
  refine wpAnyH_tk (i := 1) (d := 7) (v := (.agg #[.slice yo ny yc, .slice ao ny ac, .int .i64 u])) rfl rfl (by kernel_rfl) (by kernel_rfl) (by kernel_rfl) (fun _ _ _ h => h) (.inl ⟨by rfl, by (intro wq hSw; (try dsimp only at hSw); go_simp; (try (first | rfl | omega)))⟩) hHeld ?_
  simp only [Act.put, List.setIfInBounds_toArray, List.set_cons_zero, List.set_cons_succ]
  refine wpAnyH_tk (i := 3) (d := 9) (v := (.pointer (some ⟨w.heap.size + 1, 2, none⟩))) rfl rfl (by kernel_rfl) (by kernel_rfl) (by kernel_rfl) (fun _ _ _ h => h) (.inl ⟨by rfl, by (intro wq hSw; (try dsimp only at hSw); go_simp; (try (first | rfl | omega)))⟩) hHeld ?_
  simp only [Act.put, List.setIfInBounds_toArray, List.set_cons_zero, List.set_cons_succ]
  refine wpAnyH_tk (i := 4) (d := 10) (v := (.int .i64 u2)) rfl rfl (by kernel_rfl) (by kernel_rfl) (by kernel_rfl) (fun _ _ _ h => h) (.inl ⟨by rfl, by (intro wq hSw; (try dsimp only at hSw); go_simp; (try (first | rfl | omega)))⟩) hHeld ?_
  simp only [Act.put, List.setIfInBounds_toArray, List.set_cons_zero, List.set_cons_succ]
  refine wpAnyH_tk (i := 6) (d := 12) (v := (.agg #[.int .i64 d, .slice vo vl vc])) rfl rfl (by kernel_rfl) (by kernel_rfl) (by kernel_rfl) (fun _ _ _ h => h) (.inl ⟨by rfl, by (intro wq hSw; (try dsimp only at hSw); go_simp; (try (first | rfl | omega)))⟩) hHeld ?_
  simp only [Act.put, List.setIfInBounds_toArray, List.set_cons_zero, List.set_cons_succ]
  refine wpAnyH_tk (i := 7) (d := 13) (v := (.agg #[.slice yo2 ny2 yc2, .slice ao2 ny2 ac2, .int .i64 u2])) rfl rfl (by kernel_rfl) (by kernel_rfl) (by kernel_rfl) (fun _ _ _ h => h) (.inl ⟨by rfl, by (intro wq hSw; (try dsimp only at hSw); go_simp; (try (first | rfl | omega)))⟩) hHeld ?_
  simp only [Act.put, List.setIfInBounds_toArray, List.set_cons_zero, List.set_cons_succ]
  refine wpAnyH_tk (i := 9) (d := 15) (v := (.pointer (some ⟨w.heap.size, 2, none⟩))) rfl rfl (by kernel_rfl) (by kernel_rfl) (by kernel_rfl) (fun _ _ _ h => h) (.inl ⟨by rfl, by (intro wq hSw; (try dsimp only at hSw); go_simp; (try (first | rfl | omega)))⟩) hHeld ?_
  simp only [Act.put, List.setIfInBounds_toArray, List.set_cons_zero, List.set_cons_succ]
  refine wpAnyH_tk (i := 10) (d := 16) (v := (.int .i64 u)) rfl rfl (by kernel_rfl) (by kernel_rfl) (by kernel_rfl) (fun _ _ _ h => h) (.inl ⟨by rfl, by (intro wq hSw; (try dsimp only at hSw); go_simp; (try (first | rfl | omega)))⟩) hHeld ?_
  simp only [Act.put, List.setIfInBounds_toArray, List.set_cons_zero, List.set_cons_succ]
  refine wpAnyH_ready (rs := [2]) (by kernel_rfl) (by simp) ?_
  refine ready_tk (i := 2) rfl (by rfl) (fun K hK => ?_) AllReadyH.nil
  go_simp
  refine (HS1.out W.drew (Below.refl _ _).drew).mono ?_
  rintro e w5 ⟨rfl, hb5⟩
  have hbW5 : Below W.heap.size W w5 := (Below.refl _ _).drew.trans hb5
  refine hK.out _ _ (HCE.out w5 hbW5) (fun hHeld => ?_)
  clear hK K
  refine wpAnyH_tk (i := 5) (d := 11) (v := (.int .i64 (s1 * u2))) rfl rfl (by kernel_rfl) (by kernel_rfl) (by kernel_rfl) (fun _ _ _ h => h) (.inl ⟨by rfl, by (intro wq hSw; (try dsimp only at hSw); go_simp; (try (first | rfl | omega)))⟩) hHeld ?_
  simp only [Act.put, List.setIfInBounds_toArray, List.set_cons_zero, List.set_cons_succ]
  refine wpAnyH_ready (rs := [8]) (by kernel_rfl) (by simp) ?_
  refine ready_tk (i := 8) rfl (by rfl) (fun K hK => ?_) AllReadyH.nil
  go_simp
  refine (HS2.out w5 hbW5).mono ?_
  rintro e w6 ⟨rfl, hb6⟩
  have hbW6 : Below W.heap.size W w6 := hbW5.trans (hb6.mono hbW5.size)
  refine hK.out _ _ (HCE.out w6 hbW6) (fun hHeld => ?_)
  clear hK K
  refine wpAnyH_tk (i := 11) (d := 17) (v := (.int .i64 (s2 * u))) rfl rfl (by kernel_rfl) (by kernel_rfl) (by kernel_rfl) (fun _ _ _ h => h) (.inl ⟨by rfl, by (intro wq hSw; (try dsimp only at hSw); go_simp; (try (first | rfl | omega)))⟩) hHeld ?_
  simp only [Act.put, List.setIfInBounds_toArray, List.set_cons_zero, List.set_cons_succ]
  refine wpAnyH_tk (i := 12) (d := 18) (v := (.bool (decide (s1 * u2 < s2 * u)))) rfl rfl (by kernel_rfl) (by kernel_rfl) (by kernel_rfl) (fun _ _ _ h => h) (.inl ⟨by rfl, by (intro wq hSw; (try dsimp only at hSw); go_simp; (try (first | rfl | omega)))⟩) hHeld ?_
  simp only [Act.put, List.setIfInBounds_toArray, List.set_cons_zero, List.set_cons_succ]
  refine wpAnyH_tk (i := 13) (d := 5) (v := (.bool (decide (s1 * u2 < s2 * u)))) rfl rfl (by kernel_rfl) (by kernel_rfl) (by kernel_rfl) (fun _ _ _ h => h) (.inl ⟨by rfl, by (intro wq hSw; (try dsimp only at hSw); go_simp; (try (first | rfl | omega)))⟩) hHeld ?_
  simp only [Act.put, List.setIfInBounds_toArray, List.set_cons_zero, List.set_cons_succ]
  refine wpAnyH_done (by kernel_rfl) ?_ _
  have HB6 : Hid (Below w.heap.size w w6) := HBW.out w6 hbW6
  clear hHeld hbW5 hbW6 hb5 hb6
  go_wp2
  go_ret
  exact ⟨rfl, HB6.out⟩

end Go.Proofs.Ytmljnfgfjcjmmaa

/- lp.checkGoal, and lp.Farkas, of cuts that may be. -/
namespace Go.Proofs.Ytmljnfgfjcjmmaa
open Go.RowKit Lin
attribute [local go_sem ↓] Go.wp_at_zero Go.wp_at_succ

set_option maxRecDepth 100000 in
set_option maxHeartbeats 1600000 in
theorem checkGoal_ok (d : Nat) (rows : List (List Int)) (g : List Int) (v gv : Value) (w : World) (hv : Mat 0 22 3 w v rows) (hg : Sl 0 3 w gv (ints g)) (hc : CutOk d rows) (hgl : g.length = d) (hgb : ∀ z ∈ g, z.natAbs ≤ 20) :
    Calls Try.prog 83 #[.agg #[.int .i64 d, v], gv] w fun e w' => e = .returned (.int .i64 (if empB d rows = true then 6 else 0)) ∧ Below w.heap.size w w' := by
  obtain ⟨ro, rc, hvv, hlc, hcm⟩ := mat_open hv
  obtain ⟨go, gc, hgg, _, _⟩ := sl_open hg
  rw [hgl] at hgg
  subst hvv hgg
  obtain ⟨W, hW, hb0, hs0, hc0⟩ := cut_box w d (.slice ro rows.length rc)
  have HWW : Hid (W = w.alloc (.cells #[.int .i64 d, .slice ro rows.length rc] 69)) := hW
  have HBW : Hid (∀ X, Below W.heap.size W X → Below w.heap.size w X) := fun X hX => hb0.trans (hX.mono hb0.size)
  have HCC : Hid (∀ X, Below W.heap.size W X → X.cell? ⟨w.heap.size, 0, none⟩ = some (.int .i64 d) ∧ X.cell? ⟨w.heap.size, 1, none⟩ = some (.slice ro rows.length rc)) := hc0
  have H1 : Hid (Calls Try.prog 88 #[.agg #[.int .i64 d, .slice ro rows.length rc]] W fun e w' => e = .returned (.int .i64 0) ∧ Below W.heap.size W w') := halfCheck_ok d rows _ W ((hv.below hb0 (Nat.le_refl _)).more (Nat.zero_le _)) hc
  have H2 : Hid (∀ X, Below W.heap.size W X → Calls Try.prog 34 #[.slice go d gc, .int .i64 d, .int .i64 20] X fun e w' => e = .returned (.int .i64 0) ∧ Below X.heap.size X w') := fun X hX =>
    list_ok 0 g _ d X (hg.below (HBW.out X hX) (Nat.le_refl _)) (by rw [hgl]) (far20 hgb)
  have H3 : Hid (∀ X, Below W.heap.size W X → Calls Try.prog 89 #[.agg #[.int .i64 d, .slice ro rows.length rc]] X fun e w' => e = .returned (.tuple #[.bool (empB d rows), .int .i64 0]) ∧ Below X.heap.size X w') := fun X hX =>
    empty_ok d rows _ X ((hv.below (HBW.out X hX) (Nat.le_refl _)).more (Nat.zero_le _)) hc
  clear hv hg hc hgl hgb hW hb0 hs0 hc0
  obtain ⟨c0, c1⟩ := HCC.out W (Below.refl _ _)
  generalize empB d rows = eb at *
  go_enter Try.func83, Try.ntmps83
  go_upto_region 1 with fail
  rw [← HWW.out]
  go_wp2_with fail
  refine H1.out.mono ?_
  rintro e w1 ⟨rfl, hb1⟩
  have HB1 : Hid (Below W.heap.size W w1) := hb1
  clear hb1 c0 c1
  obtain ⟨c0, c1⟩ := HCC.out w1 HB1.out
  go_wp2_with fail
  refine (H2.out w1 HB1.out).mono ?_
  rintro e w2 ⟨rfl, hb2⟩
  have HB2 : Hid (Below W.heap.size W w2) := HB1.out.trans (hb2.mono HB1.out.size)
  clear hb2 c0 c1
  obtain ⟨c0, c1⟩ := HCC.out w2 HB2.out
  go_wp2_with fail
  refine (H3.out w2 HB2.out).mono ?_
  rintro e w3 ⟨rfl, hb3⟩
  have HB3 : Hid (Below w.heap.size w w3) := HBW.out _ (HB2.out.trans (hb3.mono HB2.out.size))
  clear hb3 c0 c1
  cases eb
  · go_wp2
    go_ret
    exact ⟨rfl, HB3.out⟩
  · go_wp2
    go_ret
    exact ⟨rfl, HB3.out⟩

/-- The five cells of Farkas: its cut, and what comes out. -/
theorem cut_res (w : World) (d : Nat) (v : Value) : ∃ W, W = (w.alloc (.cells #[.int .i64 d, v] 69)).alloc (.cells #[.slice none 0 0, .slice none 0 0, .int .i64 0] 117) ∧ Below w.heap.size w W ∧ W.heap.size = w.heap.size + 2 ∧ W.heap[w.heap.size]? = some (.cells #[.int .i64 d, v] 69 (0, 0)) ∧ W.heap[w.heap.size + 1]? = some (.cells #[.slice none 0 0, .slice none 0 0, .int .i64 0] 117 (0, 0)) := by
  have k1 := alloc_keep w (.cells #[.int .i64 d, v] 69)
  have k2 := alloc_keep (w.alloc (.cells #[.int .i64 d, v] 69)) (.cells #[.slice none 0 0, .slice none 0 0, .int .i64 0] 117)
  refine ⟨_, rfl, k1.trans (k2.mono k1.size), by rw [size_alloc, size_alloc], (k2.block _ (by rw [size_alloc]; omega)).trans (alloc_new _ _), ?_⟩
  have := alloc_new (w.alloc (.cells #[.int .i64 d, v] 69)) (.cells #[.slice none 0 0, .slice none 0 0, .int .i64 0] 117)
  rw [size_alloc] at this
  exact this

end Go.Proofs.Ytmljnfgfjcjmmaa

/- What is divided by what divides all of it (pure; the same as in Pq3: not beside it). -/
namespace Go.Proofs.Ytmljnfgfjcjmmaa
open Lin

theorem low_mul (l : List Int) : (low l).map ((gc l : Int) * ·) = l := by
  unfold low
  rw [List.map_map]
  have : ∀ z ∈ l, (((gc l : Int) * ·) ∘ (· / (gc l : Int))) z = z := fun z hz => by
    show (gc l : Int) * (z / (gc l : Int)) = z
    exact Int.mul_ediv_cancel' (gc_dvd hz)
  rw [List.map_congr_left this, List.map_id']

end Go.Proofs.Ytmljnfgfjcjmmaa

/- Duality (von Neumann): what is greatest in a cut is the least that ways say (pure). -/
namespace Go.Proofs.Ytmljnfgfjcjmmaa
open Lin

theorem way_nums {g : List Int} {t : List (List Int)} (h : wayB g t = true) : (wayN g t).length = t.length + 1 ∧ (∀ i, i < t.length + 1 → 0 < V (wayN g t) i) ∧ ∀ j, j < g.length → sv t (V (wayN g t)) j = V (wayN g t) t.length * V g j := by
  unfold wayB at h
  rw [Bool.and_eq_true] at h
  have hl := norm_len h.1
  have hpl : (pickL (t.length + 1) (acrL g t)).length + 1 = t.length + 1 := by simpa [normB] using h.1
  obtain ⟨_, hk, _⟩ := norm_spec hpl
  refine ⟨hl, fun i hi => ?_, rep_iff.1 hk⟩
  have hany : (wayN g t).any lowB = false := by simpa using h.2
  have hm : (wayN g t).getD i 0 ∈ wayN g t := getD_mem (by unfold wayN; rw [hl]; exact hi)
  have := List.any_eq_false.1 hany _ hm
  simp only [lowB, decide_eq_true_eq] at this
  show 0 < (wayN g t).getD i 0
  omega

/-- What a way says. -/
def wS (g : List Int) (t : List (List Int)) : Int := sv t (V (wayN g t)) g.length
def wU (g : List Int) (t : List (List Int)) : Int := V (wayN g t) t.length

theorem wU_pos {g : List Int} {t : List (List Int)} (h : wayB g t = true) : 0 < wU g t := (way_nums h).2.1 _ (by omega)

theorem way_ratio {g : List Int} {t : List (List Int)} (h : wayB g t = true) {a : Nat → Int} (hr : ∀ j, j < g.length → sv t a j = a t.length * V g j) : wS g t * a t.length = sv t a g.length * wU g t := by
  obtain ⟨b, hb, hbr, hpar⟩ := way_iff.1 h
  obtain ⟨_, hN, hNr⟩ := way_nums h
  have p1 := hpar _ hNr
  have p2 := hpar a hr
  have key : ∀ i, i < t.length + 1 → V (wayN g t) i * a t.length = V (wayN g t) t.length * a i := fun i hi => by
    have e1 := p1 i t.length hi (by omega)
    have e2 := p2 i t.length hi (by omega)
    have hbn := hb t.length (by omega)
    have e3 : b t.length * (V (wayN g t) i * a t.length) = b t.length * (V (wayN g t) t.length * a i) := by
      have : b t.length * (V (wayN g t) i * a t.length) = (V (wayN g t) i * b t.length) * a t.length := by grind
      rw [this, e1]
      have : b t.length * (V (wayN g t) t.length * a i) = V (wayN g t) t.length * (a i * b t.length) := by grind
      rw [this, e2]; grind
    exact Int.eq_of_mul_eq_mul_left (by omega) e3
  unfold wS wU
  rw [sv_eq, sv_eq, ← sumN_mul_right, ← sumN_mul_right]
  refine sumN_congr fun i hi => ?_
  have := key i (by omega)
  grind

/-- A sum of so much of rows, with a place. -/
theorem sv_dot (d : Nat) (t : List (List Int)) (a x : Nat → Int) : dot d (sv t a) x = sumN t.length fun i => a i * dot d (V (t.getD i [])) x := by
  have h := dot_sm d x (t.map V) a
  rw [dot_comm]
  show dot d x (sm (t.map V) a) = _
  rw [h, List.length_map]
  refine sumN_congr fun i hi => ?_
  have e2 : (t.map V).getD i (fun _ => 0) = V (t.getD i []) := by simp [hi]
  rw [e2, dot_comm]

theorem sv_fea {d : Nat} {rows t : List (List Int)} {x : Nat → Int} {w : Int} (hf : Fea d rows x w) (hs : ∀ r ∈ t, r ∈ rows) {a : Nat → Int} (ha : ∀ i, i < t.length → 0 ≤ a i) : dot d (sv t a) x ≤ sv t a d * w := by
  rw [sv_dot, sv_eq, ← sumN_mul_right]
  have : 0 ≤ sumN t.length fun i => (a i * V (t.getD i []) d * w) + -(a i * dot d (V (t.getD i [])) x) := sumN_nonneg fun i hi => by
    have h1 := hf.2 _ (hs (t.getD i []) (by simp [hi]))
    have h2 := Int.mul_nonneg (ha i hi) (show 0 ≤ V (t.getD i []) d * w - dot d (V (t.getD i [])) x by omega)
    have e : a i * V (t.getD i []) d * w + -(a i * dot d (V (t.getD i [])) x) = a i * (V (t.getD i []) d * w - dot d (V (t.getD i [])) x) := by grind
    omega
  rw [sumN_add, sumN_neg] at this
  omega

theorem sv_goal {d : Nat} {t : List (List Int)} {a x : Nat → Int} {g : List Int} (hg : g.length = d) (hr : ∀ j, j < g.length → sv t a j = a t.length * V g j) : dot d (sv t a) x = a t.length * dot d (V g) x := by
  have : dot d (sv t a) x = dot d (fun j => a t.length * V g j) x := dot_congr (fun i hi => hr i (by omega)) fun _ _ => rfl
  rw [this]
  unfold dot
  rw [← sumN_mul]
  exact sumN_congr fun i _ => by grind

/-- No place has more than a way says. -/
theorem weak {d : Nat} {rows t : List (List Int)} {x : Nat → Int} {w : Int} {g : List Int} (hg : g.length = d) (hf : Fea d rows x w) (hs : ∀ r ∈ t, r ∈ rows) (hw : wayB g t = true) : dot d (V g) x * wU g t ≤ wS g t * w := by
  obtain ⟨_, hp, hr⟩ := way_nums hw
  have h1 := sv_fea hf hs (a := V (wayN g t)) fun i hi => Int.le_of_lt (hp i (by omega))
  rw [sv_goal hg hr] at h1
  unfold wS wU
  rw [hg, Int.mul_comm (dot d (V g) x)]
  exact h1

/-- The least that ways say is met at a place where so many rows and axes meet. -/
theorem opt_at {d : Nat} {rows tb : List (List Int)} {g : List Int} (hg : g.length = d) {x0 : Nat → Int} {w0 : Int} (hf : Fea d rows x0 w0) (hsb : tb.Sublist rows) (hwb : wayB g tb = true)
    (hmin : ∀ t, t.Sublist rows → wayB g t = true → wS g tb * wU g t ≤ wS g t * wU g tb) :
    ∃ x w, Fea d rows x w ∧ dot d (V g) x * wU g tb = wS g tb * w ∧ ∀ v : Nat → Int, (∀ r ∈ rows, dot d (V r) x = V r d * w → dot d (V r) v = 0) → dot d (V g) v = 0 := by
  have hU := wU_pos hwb
  have hcyc : ∀ t : List (List Int), t.Sublist rows → ∀ w : Nat → Int, (∀ i, i < t.length → 0 ≤ w i) → (∀ j, j < g.length → sv t w j = 0) → 0 ≤ sv t w g.length := fun t ht w hw hz => by
    have h1 := sv_fea hf (fun r hr => ht.subset hr) hw
    have h2 : dot d (sv t w) x0 = 0 := dot_zero fun i hi => hz i (by omega)
    rw [h2] at h1
    rw [hg]
    rcases Int.lt_or_le (sv t w d) 0 with h | h
    · have := Int.mul_neg_of_neg_of_pos h hf.1; omega
    · exact h
  -- a place that has as much
  have hex : ∃ x w, Fea d rows x w ∧ wS g tb * w ≤ dot d (V g) x * wU g tb := by
    obtain ⟨rs, hrs⟩ : ∃ rs : List Int, rs = ((List.range d).map fun j => -(wU g tb * V g j)) ++ [-(wS g tb)] := ⟨_, rfl⟩
    have v1 : ∀ j, j < d → V rs j = -(wU g tb * V g j) := fun j hj => by
      rw [hrs]; unfold V
      rw [List.getD_eq_getElem?_getD, List.getElem?_append_left (by simpa using hj)]
      simp [hj]
    have v2 : V rs d = -(wS g tb) := by
      rw [hrs]; unfold V
      rw [List.getD_eq_getElem?_getD, List.getElem?_append_right (by simp)]; simp
    have hdr : ∀ x, dot d (V rs) x = -(wU g tb * dot d (V g) x) := fun x => by
      unfold dot
      rw [← sumN_mul, ← sumN_neg]
      exact sumN_congr fun i hi => by rw [v1 i hi]; grind
    cases he : empB d (rs :: rows) with
    | false =>
      obtain ⟨x, w, hw, h⟩ := emp_fea.1 he
      refine ⟨x, w, ⟨hw, fun r hr => h r (List.mem_cons_of_mem _ hr)⟩, ?_⟩
      have := h rs (List.mem_cons_self ..)
      rw [hdr, v2] at this
      have e1 : dot d (V g) x * wU g tb = wU g tb * dot d (V g) x := Int.mul_comm _ _
      have e2 : -(wS g tb) * w = -(wS g tb * w) := by grind
      omega
    | true =>
      exfalso
      have hne : waysL (rs :: rows) (refG d) ≠ [] := fun h => by unfold empB at he; rw [h] at he; cases he
      obtain ⟨t, hts, htw⟩ := ways_some.1 hne
      obtain ⟨a, hp, hr, _⟩ := way_iff.1 htw
      have r0 : ∀ j, j < d → V (refG d) j = 0 := fun j hj => by simp [V, refG, show j < d + 1 by omega, show ¬ j = d by omega]
      have rd : V (refG d) d = -1 := by simp [V, refG]
      have hn := hp t.length (by omega)
      have hz : ∀ j, j < d → sv t a j = 0 := fun j hj => by rw [hr j (by rw [refG_len]; omega), r0 j hj]; omega
      have hd : sv t a d = -(a t.length) := by rw [hr d (by rw [refG_len]; omega), rd]; omega
      have noRow : ∀ (t : List (List Int)) (a : Nat → Int), (∀ r ∈ t, r ∈ rows) → (∀ i, i < t.length → 0 ≤ a i) → (∀ j, j < d → sv t a j = 0) → sv t a d < 0 → False := fun t a ht ha hz hd => by
        have h1 := sv_fea hf ht ha
        have h2 : dot d (sv t a) x0 = 0 := dot_zero fun i hi => hz i hi
        rw [h2] at h1
        have := Int.mul_neg_of_neg_of_pos hd hf.1
        omega
      rcases List.sublist_cons_iff.1 hts with hts1 | ⟨t1, rfl, hts1⟩
      · exact noRow t a (fun r hr => hts1.subset hr) (fun i hi => Int.le_of_lt (hp i (by omega))) hz (by omega)
      · have ha0 := hp 0 (by simp)
        have hs1 : ∀ j, sv t1 (fun i => a (i + 1)) j = sv (rs :: t1) a j - a 0 * V rs j := fun j => by rw [sv_cons]; omega
        have hrep : ∀ j, j < g.length → sv t1 (fun i => if i = t1.length then a 0 * wU g tb else a (i + 1)) j = (a 0 * wU g tb) * V g j := fun j hj => by
          rw [sv_congr (b := fun i => a (i + 1)) (fun i hi => by rw [if_neg (by omega)]), hs1, hz j (by omega), v1 j (by omega)]
          grind
        obtain ⟨t', a', k1, k2, k3, k4, k5⟩ := cara hcyc t1.length t1 (fun i => if i = t1.length then a 0 * wU g tb else a (i + 1)) (Nat.le_refl _) hts1 (fun i hi => by
            by_cases e : i = t1.length
            · simp only [e, if_true]; exact Int.mul_pos ha0 hU
            · simp only [e, if_false]; exact hp (i + 1) (by simp; omega)) (fun j hj => by simp only [if_true]; exact hrep j hj)
        simp only [if_true] at k5
        rw [sv_congr (t := t1) (b := fun i => a (i + 1)) (fun i hi => by rw [if_neg (by omega)]), hs1, hg, hd, v2] at k5
        have hr' := way_ratio k2 k4
        have hm := hmin t' k1 k2
        have hA := k3 t'.length (by omega)
        have hU' := wU_pos k2
        rw [hg] at hr'
        -- S U' <= S' U, S' A = s' U', s' a0 U <= (a0 S - n) A
        have e1 : wS g tb * wU g t' * (a' t'.length * a 0) ≤ wS g t' * wU g tb * (a' t'.length * a 0) := Int.mul_le_mul_of_nonneg_right hm (Int.le_of_lt (Int.mul_pos hA ha0))
        have e2 : wS g t' * wU g tb * (a' t'.length * a 0) = (wS g t' * a' t'.length) * (wU g tb * a 0) := by grind
        rw [e2, hr'] at e1
        have e3 : sv t' a' d * wU g t' * (wU g tb * a 0) = (sv t' a' d * (a 0 * wU g tb)) * wU g t' := by grind
        rw [e3] at e1
        have e4 := Int.mul_le_mul_of_nonneg_right k5 (Int.le_of_lt hU')
        have e5 : (-(a (rs :: t1).length) - a 0 * -wS g tb) * a' t'.length * wU g t' = wS g tb * wU g t' * (a' t'.length * a 0) - a (rs :: t1).length * (a' t'.length * wU g t') := by grind
        have e6 : 0 < a (rs :: t1).length * (a' t'.length * wU g t') := Int.mul_pos hn (Int.mul_pos hA hU')
        omega
  obtain ⟨x, w, hfx, hge⟩ := hex
  have hle := weak hg hfx (fun r hr => hsb.subset hr) hwb
  have heq : dot d (V g) x * wU g tb = wS g tb * w := by omega
  obtain ⟨_, hp, hr⟩ := way_nums hwb
  -- all rows of the way are met
  have htight : ∀ i, i < tb.length → dot d (V (tb.getD i [])) x = V (tb.getD i []) d * w := by
    have hsum : sumN tb.length (fun i => V (wayN g tb) i * (V (tb.getD i []) d * w - dot d (V (tb.getD i [])) x)) = 0 := by
      have e1 : sumN tb.length (fun i => V (wayN g tb) i * (V (tb.getD i []) d * w - dot d (V (tb.getD i [])) x)) = sumN tb.length (fun i => V (wayN g tb) i * V (tb.getD i []) d * w + -(V (wayN g tb) i * dot d (V (tb.getD i [])) x)) := sumN_congr fun i _ => by grind
      rw [e1, sumN_add, sumN_neg, sumN_mul_right, ← sv_eq, ← sv_dot, sv_goal hg hr]
      have : sv tb (V (wayN g tb)) d = wS g tb := by unfold wS; rw [hg]
      rw [this]
      have : V (wayN g tb) tb.length = wU g tb := rfl
      rw [this]
      have := Int.mul_comm (wU g tb) (dot d (V g) x)
      omega
    have hnn : ∀ i, i < tb.length → 0 ≤ V (wayN g tb) i * (V (tb.getD i []) d * w - dot d (V (tb.getD i [])) x) := fun i hi => by
      have := hfx.2 _ (hsb.subset (show tb.getD i [] ∈ tb by simp [hi]))
      exact Int.mul_nonneg (Int.le_of_lt (hp i (by omega))) (by omega)
    have hall : ∀ (n : Nat) (f : Nat → Int), (∀ i, i < n → 0 ≤ f i) → sumN n f = 0 → ∀ i, i < n → f i = 0 := by
      intro n
      induction n with
      | zero => intro f _ _ i hi; omega
      | succ n ih =>
        intro f h0 hs i hi
        have h1 := sumN_nonneg (n := n) (f := f) fun i hi => h0 i (by omega)
        have h2 := h0 n (by omega)
        have h3 : sumN n f + f n = 0 := hs
        by_cases e : i = n
        · rw [e]; omega
        · exact ih f (fun i hi => h0 i (by omega)) (by omega) i (by omega)
    intro i hi
    have := hall _ _ hnn hsum i hi
    have hpi := hp i (by omega)
    rcases Int.mul_eq_zero.1 this with h | h
    · omega
    · omega
  refine ⟨x, w, hfx, heq, fun v hv => ?_⟩
  have h1 : wU g tb * dot d (V g) v = 0 := by
    have := sv_goal (x := v) hg hr
    rw [sv_dot] at this
    have h2 : sumN tb.length (fun i => V (wayN g tb) i * dot d (V (tb.getD i [])) v) = 0 := sumN_zero fun i hi => by
      rw [hv _ (hsb.subset (show tb.getD i [] ∈ tb by simp [hi])) (htight i hi), Int.mul_zero]
    rw [h2] at this
    exact this.symm
  rcases Int.mul_eq_zero.1 h1 with h | h
  · omega
  · exact h

end Go.Proofs.Ytmljnfgfjcjmmaa
