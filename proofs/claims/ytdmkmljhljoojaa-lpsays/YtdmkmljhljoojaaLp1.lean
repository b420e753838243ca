/- lp.said, and which of two ways says less. -/
import Derived.Test.YtdmkmljhljoojaaMgAM
namespace Go.Proofs.Ytdmkmljhljoojaa
open Go.RowKit Lin
attribute [local go_sem ↓] Go.wp_at_zero Go.wp_at_succ

/-- So much of the rows' last numbers, added. -/
def sdT (rows : List (List Int)) (d : Nat) (y a : List Int) (k : Nat) : Int := sumN k fun i => a.getD i 0 * (rows.getD (y.getD i 0).toNat []).getD d 0
def sdL (rows : List (List Int)) (d : Nat) (y a : List Int) : Int := sdT rows d y a y.length

/-- A way, and numbers that are not great. -/
structure WyOk (rows : List (List Int)) (y a : List Int) (u : Int) : Prop where
  len : a.length = y.length
  l3 : y.length ≤ 4
  mem : ∀ z ∈ y, 0 ≤ z ∧ z < (rows.length : Int)
  bd : ∀ z ∈ a, z.natAbs ≤ 3840000
  ub : u.natAbs ≤ 3840000

theorem getD_memR {l : List (List Int)} {i : Nat} (h : i < l.length) : l.getD i [] ∈ l := by simp [h]

theorem sdT_bd {rows : List (List Int)} {d : Nat} {y a : List Int} {u : Int} (h : WyOk rows y a u) (hx : RwE d rows) : ∀ k, k ≤ y.length → (sdT rows d y a k).natAbs ≤ k * 76800000 ∧ (k < y.length → (a.getD k 0 * (rows.getD (y.getD k 0).toNat []).getD d 0).natAbs ≤ 76800000) := by
  have hb : ∀ k, k < y.length → (a.getD k 0 * (rows.getD (y.getD k 0).toNat []).getD d 0).natAbs ≤ 76800000 := fun k hk => by
    have h1 := h.bd _ (getD_mem (l := a) (i := k) (by rw [h.len]; exact hk))
    have h2 := h.mem _ (getD_mem (l := y) (i := k) hk)
    have h3 : (y.getD k 0).toNat < rows.length := by omega
    have h4 := hx (rows.getD (y.getD k 0).toNat []) (getD_memR h3)
    have h5 := h4.2 _ (getD_mem (l := rows.getD (y.getD k 0).toNat []) (i := d) (by rw [h4.1]; omega))
    rw [Int.natAbs_mul]
    exact Nat.le_trans (Nat.mul_le_mul h1 h5) (by decide)
  intro k
  induction k with
  | zero => intro _; exact ⟨by simp [sdT, sumN], hb 0⟩
  | succ k ih =>
    intro hk
    refine ⟨?_, hb (k + 1)⟩
    have h1 := (ih (by omega)).1
    have h2 := hb k (by omega)
    have := Int.natAbs_add_le (sdT rows d y a k) (a.getD k 0 * (rows.getD (y.getD k 0).toNat []).getD d 0)
    unfold sdT at *
    rw [sumN]
    omega

theorem sdL_bd {rows : List (List Int)} {d : Nat} {y a : List Int} {u : Int} (h : WyOk rows y a u) (hx : RwE d rows) : (sdL rows d y a).natAbs ≤ 307200000 := by
  have := (sdT_bd h hx y.length (Nat.le_refl _)).1
  have := h.l3
  unfold sdL
  omega

set_option maxRecDepth 100000 in
set_option maxHeartbeats 1600000 in
theorem said_any (d : Nat) (rows : List (List Int)) (y a : List Int) (u : Int) (v : Value) (yo ao : Option Addr) (yc ac ny : Nat) (w : World) {B0 : Nat} (hv : Mat B0 25 3 w v rows) (hy : Sl 0 3 w (.slice yo ny yc) (ints y)) (ha : Sl 0 3 w (.slice ao ny ac) (ints a)) (hx : RwE d rows) (ho : WyOk rows y a u) (hny : ny = y.length) :
    Calls Try.prog 23 #[.agg #[.int .i64 d, v], .agg #[.slice yo ny yc, .slice ao ny ac, .int .i64 u]] w fun e w' => e = .returned (.int .i64 (sdL rows d y a)) ∧ Below w.heap.size w w' := by
  obtain ⟨ro, rc, hvv, hlc, hcm⟩ := mat_open hv
  subst hvv
  obtain ⟨W0, hW0, hb0, hs0, hc0⟩ := cut_box w d (.slice ro rows.length rc)
  obtain ⟨W, hW⟩ : ∃ W, W = W0.alloc (.cells #[.slice yo ny yc, .slice ao ny ac, .int .i64 u] 34) := ⟨_, rfl⟩
  have hbW : Below W0.heap.size W0 W := by rw [hW]; exact alloc_keep _ _
  have hkW : W.heap[W0.heap.size]? = some (.cells #[.slice yo ny yc, .slice ao ny ac, .int .i64 u] 34 (0, 0)) := by rw [hW]; exact alloc_new _ _
  have HKK : Hid (∀ X, Below W.heap.size W X → X.cell? ⟨w.heap.size + 1, 0, none⟩ = some (.slice yo ny yc) ∧ X.cell? ⟨w.heap.size + 1, 1, none⟩ = some (.slice ao ny ac)) := fun X hX => by
    have h1 := (hX.block W0.heap.size (by rw [hW, size_alloc]; omega)).trans hkW
    rw [hs0] at h1
    exact ⟨by simp [World.cell?, h1], by simp [World.cell?, h1]⟩
  have HCC : Hid (∀ X, Below W.heap.size W X → X.cell? ⟨w.heap.size, 0, none⟩ = some (.int .i64 d) ∧ X.cell? ⟨w.heap.size, 1, none⟩ = some (.slice ro rows.length rc)) := fun X hX => hc0 X (hbW.trans (hX.mono hbW.size))
  have HBW : Hid (∀ X, Below W.heap.size W X → Below w.heap.size w X) := fun X hX => hb0.trans ((hbW.trans (hX.mono hbW.size)).mono hb0.size)
  have HRW : Hid (∀ X, Below W.heap.size W X → Mat B0 25 3 X (.slice ro rows.length rc) rows) := fun X hX => hv.below (HBW.out X hX) (Nat.le_refl _)
  have HYW : Hid (∀ X, Below W.heap.size W X → Sl 0 3 X (.slice yo ny yc) (ints y)) := fun X hX => hy.below (HBW.out X hX) (Nat.le_refl _)
  have HAW : Hid (∀ X, Below W.heap.size W X → Sl 0 3 X (.slice ao ny ac) (ints a)) := fun X hX => ha.below (HBW.out X hX) (Nat.le_refl _)
  have HX : Hid (RwE d rows) := hx
  have HO : Hid (WyOk rows y a u) := ho
  have HWW : Hid (W = (w.alloc (.cells #[.int .i64 d, .slice ro rows.length rc] 24)).alloc (.cells #[.slice yo ny yc, .slice ao ny ac, .int .i64 u] 34)) := by show _ = _; rw [hW, hW0]
  have HBD : Hid (∀ k, k ≤ ny → (sdT rows d y a k).natAbs ≤ k * 76800000 ∧ (k < ny → (a.getD k 0 * (rows.getD (y.getD k 0).toNat []).getD d 0).natAbs ≤ 76800000)) := by rw [hny]; exact sdT_bd ho hx
  have h3 : ny ≤ 4 := by rw [hny]; exact ho.l3
  have HAL : Hid (a.length = ny) := by rw [hny]; exact ho.len
  have HSD : Hid (sdL rows d y a = sdT rows d y a ny) := by show _ = _; rw [hny]; rfl
  have HNY : Hid (ny = y.length) := hny
  obtain ⟨k0, k1⟩ := HKK.out W (Below.refl _ _)
  clear hv hy ha hx ho hW0 hb0 hs0 hc0 hW hbW hkW hny
  go_enter Try.func23, Try.ntmps23
  go_upto_region 2 with fail
  rw [← HWW.out]
  go_wp2
  go_loopw [5, 11] (fun s i X => ∃ k : Nat, k ≤ ny ∧ i = .int .i64 k ∧ s = .int .i64 (sdT rows d y a k) ∧ Below W.heap.size W X) (fun _ i _ => ny - (intOf i).toNat)
  case atStart => exact ⟨0, Nat.zero_le _, rfl, rfl, Below.refl _ _⟩
  case round =>
    clear k0 k1
    obtain ⟨k, hk, rfl, rfl, hb⟩ := hrel
    have HB : Hid (Below W.heap.size W wr) := hb
    clear hb
    by_cases hlt : k < ny
    · obtain ⟨k0, k1⟩ := HKK.out wr HB.out
      obtain ⟨c0, c1⟩ := HCC.out wr HB.out
      obtain ⟨b1, o1, cp1, e1, _, m1⟩ := sl_cell (HYW.out wr HB.out) (k := k) (by rw [← HNY.out]; exact hlt)
      simp only [Value.slice.injEq] at e1
      obtain ⟨rfl, -, rfl⟩ := e1
      obtain ⟨b2, o2, cp2, e2, _, m2⟩ := sl_cell (HAW.out wr HB.out) (k := k) (by rw [HAL.out]; exact hlt)
      simp only [Value.slice.injEq] at e2
      obtain ⟨rfl, -, rfl⟩ := e2
      have hmm := HO.out.mem _ (getD_mem (l := y) (i := k) (by rw [← HNY.out]; exact hlt))
      have hb1 := (HBD.out k hk).1
      have hb2 := (HBD.out k hk).2 hlt
      have HS1 : Hid (sdT rows d y a (k + 1) = sdT rows d y a k + a.getD k 0 * (rows.getD (y.getD k 0).toNat []).getD d 0) := rfl
      obtain ⟨q, hq⟩ : ∃ q : Nat, y.getD k 0 = (q : Int) := ⟨(y.getD k 0).toNat, by omega⟩
      rw [hq] at m1 hmm hb2 HS1
      rw [show ((q : Int)).toNat = q by omega] at hb2 HS1
      have hqr : q < rows.length := by omega
      obtain ⟨b3, o3, cp3, rv, e3, _, m3, hr3⟩ := mat_cell (HRW.out wr HB.out) hqr
      simp only [Value.slice.injEq] at e3
      obtain ⟨rfl, -, rfl⟩ := e3
      have hrl := HX.out (rows.getD q []) (by simp [hqr])
      obtain ⟨b4, o4, cp4, e4, _, m4⟩ := sl_cell hr3 (k := d) (by rw [hrl.1]; omega)
      subst e4
      rw [hrl.1] at m3
      clear hr3 hrl hq
      generalize sdT rows d y a k = s0 at *
      generalize a.getD k 0 = x1 at *
      generalize (rows.getD q []).getD d 0 = x2 at *
      have hw1 : wrap64 (x1 * x2) = x1 * x2 := IntWalk.wrap64_in _ ⟨by omega, by omega⟩
      have hw2 : wrap64 (s0 + x1 * x2) = s0 + x1 * x2 := IntWalk.wrap64_in _ ⟨by omega, by omega⟩
      have hkI : (k : Int) < (ny : Int) := by omega
      have hkI0 : (0 : Int) ≤ (k : Int) := by omega
      have hqI : (q : Int) < (rows.length : Int) := by omega
      have hqI0 : (0 : Int) ≤ (q : Int) := by omega
      have hdI : (d : Int) < (d : Int) + 1 := by omega
      have hdI0 : (0 : Int) ≤ (d : Int) := by omega
      clear hb1 hb2 hmm
      go_wp2
      go_region
      go_wp2
      go_roundw
      case rel => exact ⟨k + 1, by omega, by go_num, by rw [HS1.out, hw2], HB.out.drew⟩
      case measure => simp [intOf]; omega
    · obtain rfl : ny = k := by omega
      go_wp2
      go_ret
      exact ⟨by rw [HSD.out]; rfl, HBW.out _ HB.out⟩

set_option maxRecDepth 100000 in
set_option maxHeartbeats 1600000 in
theorem less_any (d : Nat) (rows : List (List Int)) (y a y2 a2 : List Int) (u u2 : Int) (v : Value) (yo ao yo2 ao2 : Option Addr) (yc ac yc2 ac2 ny ny2 : Nat) (bx : Nat) (w : World) {B0 : Nat} (hv : Mat B0 25 3 w v rows) (hbx : w.heap[bx]? = some (.cells #[.int .i64 d, v] 24 (0, 0)))
    (hy : Sl 0 3 w (.slice yo ny yc) (ints y)) (ha : Sl 0 3 w (.slice ao ny ac) (ints a)) (hy2 : Sl 0 3 w (.slice yo2 ny2 yc2) (ints y2)) (ha2 : Sl 0 3 w (.slice ao2 ny2 ac2) (ints a2)) (hx : RwE d rows) (ho : WyOk rows y a u) (ho2 : WyOk rows y2 a2 u2) (hny : ny = y.length) (hny2 : ny2 = y2.length) :
    Calls Try.prog 33 #[.agg #[.slice yo ny yc, .slice ao ny ac, .int .i64 u], .agg #[.slice yo2 ny2 yc2, .slice ao2 ny2 ac2, .int .i64 u2], .pointer (some ⟨bx, 0, none⟩)] w fun e w' => e = .returned (.bool (decide (sdL rows d y a * u2 < sdL rows d y2 a2 * u))) ∧ Below w.heap.size w w' := by
  obtain ⟨W1, hW1⟩ : ∃ W1, W1 = w.alloc (.cells #[.slice yo ny yc, .slice ao ny ac, .int .i64 u] 34) := ⟨_, rfl⟩
  obtain ⟨W, hW⟩ : ∃ W, W = W1.alloc (.cells #[.slice yo2 ny2 yc2, .slice ao2 ny2 ac2, .int .i64 u2] 34) := ⟨_, rfl⟩
  have hb1 : Below w.heap.size w W1 := by rw [hW1]; exact alloc_keep _ _
  have hb2 : Below W1.heap.size W1 W := by rw [hW]; exact alloc_keep _ _
  have hs1 : W1.heap.size = w.heap.size + 1 := by rw [hW1]; exact size_alloc _ _
  have hs2 : W.heap.size = w.heap.size + 2 := by rw [hW, size_alloc, hs1]
  have hk1 : W1.heap[w.heap.size]? = some (.cells #[.slice yo ny yc, .slice ao ny ac, .int .i64 u] 34 (0, 0)) := by rw [hW1]; exact alloc_new _ _
  have hk2 : W.heap[w.heap.size + 1]? = some (.cells #[.slice yo2 ny2 yc2, .slice ao2 ny2 ac2, .int .i64 u2] 34 (0, 0)) := by rw [hW, ← hs1]; exact alloc_new _ _
  have HBW : Hid (∀ X, Below W.heap.size W X → Below w.heap.size w X) := fun X hX => hb1.trans ((hb2.trans (hX.mono hb2.size)).mono hb1.size)
  have hbl := (Array.getElem?_eq_some_iff.1 hbx).1
  have HCE : Hid (∀ X, Below W.heap.size W X → X.cell? ⟨bx, 0, none⟩ = some (.int .i64 d) ∧ X.cell? ⟨bx, 1, none⟩ = some v ∧ X.cell? ⟨w.heap.size, 0, none⟩ = some (.slice yo ny yc) ∧ X.cell? ⟨w.heap.size, 1, none⟩ = some (.slice ao ny ac) ∧ X.cell? ⟨w.heap.size, 2, none⟩ = some (.int .i64 u) ∧ X.cell? ⟨w.heap.size + 1, 0, none⟩ = some (.slice yo2 ny2 yc2) ∧ X.cell? ⟨w.heap.size + 1, 1, none⟩ = some (.slice ao2 ny2 ac2) ∧ X.cell? ⟨w.heap.size + 1, 2, none⟩ = some (.int .i64 u2)) := fun X hX => by
    have q0 := ((HBW.out X hX).block bx hbl).trans hbx
    have q1 := (hX.block w.heap.size (by omega)).trans ((hb2.block w.heap.size (by omega)).trans hk1)
    have q2 := (hX.block (w.heap.size + 1) (by omega)).trans hk2
    exact ⟨by simp [World.cell?, q0], by simp [World.cell?, q0], by simp [World.cell?, q1], by simp [World.cell?, q1], by simp [World.cell?, q1], by simp [World.cell?, q2], by simp [World.cell?, q2], by simp [World.cell?, q2]⟩
  have HS1 : Hid (∀ X, Below W.heap.size W X → Calls Try.prog 23 #[.agg #[.int .i64 d, v], .agg #[.slice yo ny yc, .slice ao ny ac, .int .i64 u]] X fun e w' => e = .returned (.int .i64 (sdL rows d y a)) ∧ Below X.heap.size X w') := fun X hX =>
    said_any d rows y a u v yo ao yc ac ny X (hv.below (HBW.out X hX) (Nat.le_refl _)) (hy.below (HBW.out X hX) (Nat.le_refl _)) (ha.below (HBW.out X hX) (Nat.le_refl _)) hx ho hny
  have HS2 : Hid (∀ X, Below W.heap.size W X → Calls Try.prog 23 #[.agg #[.int .i64 d, v], .agg #[.slice yo2 ny2 yc2, .slice ao2 ny2 ac2, .int .i64 u2]] X fun e w' => e = .returned (.int .i64 (sdL rows d y2 a2)) ∧ Below X.heap.size X w') := fun X hX =>
    said_any d rows y2 a2 u2 v yo2 ao2 yc2 ac2 ny2 X (hv.below (HBW.out X hX) (Nat.le_refl _)) (hy2.below (HBW.out X hX) (Nat.le_refl _)) (ha2.below (HBW.out X hX) (Nat.le_refl _)) hx ho2 hny2
  have HWW : Hid (W = (w.alloc (.cells #[.slice yo ny yc, .slice ao ny ac, .int .i64 u] 34)).alloc (.cells #[.slice yo2 ny2 yc2, .slice ao2 ny2 ac2, .int .i64 u2] 34)) := by show _ = _; rw [hW, hW1]
  have hb1' := sdL_bd ho hx
  have hb2' := sdL_bd ho2 hx
  have hp1 : (sdL rows d y a * u2).natAbs ≤ 307200000 * 3840000 := by rw [Int.natAbs_mul]; exact Nat.mul_le_mul hb1' ho2.ub
  have hp2 : (sdL rows d y2 a2 * u).natAbs ≤ 307200000 * 3840000 := by rw [Int.natAbs_mul]; exact Nat.mul_le_mul hb2' ho.ub
  obtain ⟨vo, vl, vc, hvv⟩ : ∃ vo vl vc, v = .slice vo vl vc := by obtain ⟨ro, rc, h, _⟩ := mat_open hv; exact ⟨_, _, _, h⟩
  clear hv hbx hy ha hy2 ha2 hx ho ho2 hny hny2 hW1 hW hb1 hb2 hs1 hk1 hk2 hbl hb1' hb2'
  generalize sdL rows d y a = s1 at *
  generalize sdL rows d y2 a2 = s2 at *
  have hw1 : wrap64 (s1 * u2) = s1 * u2 := IntWalk.wrap64_in _ ⟨by omega, by omega⟩
  have hw2 : wrap64 (s2 * u) = s2 * u := IntWalk.wrap64_in _ ⟨by omega, by omega⟩
  have hw1' : IntKind.i64.wrap (s1 * u2) = s1 * u2 := by rw [IntWalk.i64_left]; exact hw1
  have hw2' : IntKind.i64.wrap (s2 * u) = s2 * u := by rw [IntWalk.i64_left]; exact hw2
  subst hvv
  clear hp1 hp2
  go_enter Try.func33, Try.ntmps33
  go_upto_region 1 with fail
  rw [← HWW.out]
  refine wp_region_held_drew (S := fun X => X.cell? ⟨bx, 0, none⟩ = some (.int .i64 d) ∧ X.cell? ⟨bx, 1, none⟩ = some (.slice vo vl vc) ∧ X.cell? ⟨w.heap.size, 0, none⟩ = some (.slice yo ny yc) ∧ X.cell? ⟨w.heap.size, 1, none⟩ = some (.slice ao ny ac) ∧ X.cell? ⟨w.heap.size, 2, none⟩ = some (.int .i64 u) ∧ X.cell? ⟨w.heap.size + 1, 0, none⟩ = some (.slice yo2 ny2 yc2) ∧ X.cell? ⟨w.heap.size + 1, 1, none⟩ = some (.slice ao2 ny2 ac2) ∧ X.cell? ⟨w.heap.size + 1, 2, none⟩ = some (.int .i64 u2)) (by kernel_rfl) (HCE.out W (Below.refl _ _)) (fun hHeld => ?_)
  refine wpAnyH_tk (i := 0) (d := 6) (v := (.agg #[.int .i64 d, .slice vo vl vc])) rfl rfl (by kernel_rfl) (by kernel_rfl) (by kernel_rfl) (fun _ _ _ h => h) (.inl ⟨by rfl, by (intro wq hSw; (try dsimp only at hSw); go_simp; (try (first | rfl | omega)))⟩) hHeld ?_
  simp only [Act.put, List.setIfInBounds_toArray, List.set_cons_zero, List.set_cons_succ]
  refine wpAnyH_tk (i := 1) (d := 7) (v := (.agg #[.slice yo ny yc, .slice ao ny ac, .int .i64 u])) rfl rfl (by kernel_rfl) (by kernel_rfl) (by kernel_rfl) (fun _ _ _ h => h) (.inl ⟨by rfl, by (intro wq hSw; (try dsimp only at hSw); go_simp; (try (first | rfl | omega)))⟩) hHeld ?_
  simp only [Act.put, List.setIfInBounds_toArray, List.set_cons_zero, List.set_cons_succ]
  refine wpAnyH_tk (i := 3) (d := 9) (v := (.pointer (some ⟨w.heap.size + 1, 2, none⟩))) rfl rfl (by kernel_rfl) (by kernel_rfl) (by kernel_rfl) (fun _ _ _ h => h) (.inl ⟨by rfl, by (intro wq hSw; (try dsimp only at hSw); go_simp; (try (first | rfl | omega)))⟩) hHeld ?_
  simp only [Act.put, List.setIfInBounds_toArray, List.set_cons_zero, List.set_cons_succ]
  refine wpAnyH_tk (i := 4) (d := 10) (v := (.int .i64 u2)) rfl rfl (by kernel_rfl) (by kernel_rfl) (by kernel_rfl) (fun _ _ _ h => h) (.inl ⟨by rfl, by (intro wq hSw; (try dsimp only at hSw); go_simp; (try (first | rfl | omega)))⟩) hHeld ?_
  simp only [Act.put, List.setIfInBounds_toArray, List.set_cons_zero, List.set_cons_succ]
  refine wpAnyH_tk (i := 6) (d := 12) (v := (.agg #[.int .i64 d, .slice vo vl vc])) rfl rfl (by kernel_rfl) (by kernel_rfl) (by kernel_rfl) (fun _ _ _ h => h) (.inl ⟨by rfl, by (intro wq hSw; (try dsimp only at hSw); go_simp; (try (first | rfl | omega)))⟩) hHeld ?_
  simp only [Act.put, List.setIfInBounds_toArray, List.set_cons_zero, List.set_cons_succ]
  refine wpAnyH_tk (i := 7) (d := 13) (v := (.agg #[.slice yo2 ny2 yc2, .slice ao2 ny2 ac2, .int .i64 u2])) rfl rfl (by kernel_rfl) (by kernel_rfl) (by kernel_rfl) (fun _ _ _ h => h) (.inl ⟨by rfl, by (intro wq hSw; (try dsimp only at hSw); go_simp; (try (first | rfl | omega)))⟩) hHeld ?_
  simp only [Act.put, List.setIfInBounds_toArray, List.set_cons_zero, List.set_cons_succ]
  refine wpAnyH_tk (i := 9) (d := 15) (v := (.pointer (some ⟨w.heap.size, 2, none⟩))) rfl rfl (by kernel_rfl) (by kernel_rfl) (by kernel_rfl) (fun _ _ _ h => h) (.inl ⟨by rfl, by (intro wq hSw; (try dsimp only at hSw); go_simp; (try (first | rfl | omega)))⟩) hHeld ?_
  simp only [Act.put, List.setIfInBounds_toArray, List.set_cons_zero, List.set_cons_succ]
  refine wpAnyH_tk (i := 10) (d := 16) (v := (.int .i64 u)) rfl rfl (by kernel_rfl) (by kernel_rfl) (by kernel_rfl) (fun _ _ _ h => h) (.inl ⟨by rfl, by (intro wq hSw; (try dsimp only at hSw); go_simp; (try (first | rfl | omega)))⟩) hHeld ?_
  simp only [Act.put, List.setIfInBounds_toArray, List.set_cons_zero, List.set_cons_succ]
  refine wpAnyH_ready (rs := [2]) (by kernel_rfl) (by simp) ?_
  refine ready_tk (i := 2) rfl (by rfl) (fun K hK => ?_) AllReadyH.nil
  go_simp
  refine (HS1.out W.drew (Below.refl _ _).drew).mono ?_
  rintro e w5 ⟨rfl, hb5⟩
  have hbW5 : Below W.heap.size W w5 := (Below.refl _ _).drew.trans hb5
  refine hK.out _ _ (HCE.out w5 hbW5) (fun hHeld => ?_)
  clear hK K
  refine wpAnyH_tk (i := 5) (d := 11) (v := (.int .i64 (s1 * u2))) rfl rfl (by kernel_rfl) (by kernel_rfl) (by kernel_rfl) (fun _ _ _ h => h) (.inl ⟨by rfl, by (intro wq hSw; (try dsimp only at hSw); go_simp; (try (first | rfl | omega)))⟩) hHeld ?_
  simp only [Act.put, List.setIfInBounds_toArray, List.set_cons_zero, List.set_cons_succ]
  refine wpAnyH_ready (rs := [8]) (by kernel_rfl) (by simp) ?_
  refine ready_tk (i := 8) rfl (by rfl) (fun K hK => ?_) AllReadyH.nil
  go_simp
  refine (HS2.out w5 hbW5).mono ?_
  rintro e w6 ⟨rfl, hb6⟩
  have hbW6 : Below W.heap.size W w6 := hbW5.trans (hb6.mono hbW5.size)
  refine hK.out _ _ (HCE.out w6 hbW6) (fun hHeld => ?_)
  clear hK K
  refine wpAnyH_tk (i := 11) (d := 17) (v := (.int .i64 (s2 * u))) rfl rfl (by kernel_rfl) (by kernel_rfl) (by kernel_rfl) (fun _ _ _ h => h) (.inl ⟨by rfl, by (intro wq hSw; (try dsimp only at hSw); go_simp; (try (first | rfl | omega)))⟩) hHeld ?_
  simp only [Act.put, List.setIfInBounds_toArray, List.set_cons_zero, List.set_cons_succ]
  refine wpAnyH_tk (i := 12) (d := 18) (v := (.bool (decide (s1 * u2 < s2 * u)))) rfl rfl (by kernel_rfl) (by kernel_rfl) (by kernel_rfl) (fun _ _ _ h => h) (.inl ⟨by rfl, by (intro wq hSw; (try dsimp only at hSw); go_simp; (try (first | rfl | omega)))⟩) hHeld ?_
  simp only [Act.put, List.setIfInBounds_toArray, List.set_cons_zero, List.set_cons_succ]
  refine wpAnyH_tk (i := 13) (d := 5) (v := (.bool (decide (s1 * u2 < s2 * u)))) rfl rfl (by kernel_rfl) (by kernel_rfl) (by kernel_rfl) (fun _ _ _ h => h) (.inl ⟨by rfl, by (intro wq hSw; (try dsimp only at hSw); go_simp; (try (first | rfl | omega)))⟩) hHeld ?_
  simp only [Act.put, List.setIfInBounds_toArray, List.set_cons_zero, List.set_cons_succ]
  refine wpAnyH_done (by kernel_rfl) ?_ _
  have HB6 : Hid (Below w.heap.size w w6) := HBW.out w6 hbW6
  clear hHeld hbW5 hbW6 hb5 hb6
  go_wp2
  go_ret
  exact ⟨rfl, HB6.out⟩

end Go.Proofs.Ytdmkmljhljoojaa
