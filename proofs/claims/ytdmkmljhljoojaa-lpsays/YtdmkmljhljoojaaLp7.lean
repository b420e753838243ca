/- The document's Shown and Refuted, of ways that hold. -/
import Derived.Test.YtdmkmljhljoojaaLp6
namespace Go.Proofs.Ytdmkmljhljoojaa
open Go.RowKit Lin
attribute [local go_sem ↓] Go.wp_at_zero Go.wp_at_succ

/-- The first k rows of a way, so much of each, added. -/
def smT (rows : List (List Int)) (d : Nat) (y a : List Int) (k : Nat) : List Int := (List.range (d + 1)).map fun i => sumN k fun q => a.getD q 0 * (rows.getD (y.getD q 0).toNat []).getD i 0
def smL (rows : List (List Int)) (d : Nat) (y a : List Int) : List Int := smT rows d y a y.length

theorem smT_len (rows : List (List Int)) (d : Nat) (y a : List Int) (k : Nat) : (smT rows d y a k).length = d + 1 := by simp [smT]
theorem smT_get {rows : List (List Int)} {d : Nat} {y a : List Int} {k i : Nat} (h : i < d + 1) : (smT rows d y a k).getD i 0 = sumN k fun q => a.getD q 0 * (rows.getD (y.getD q 0).toNat []).getD i 0 := by
  simp [smT, h]

theorem smT_succ {rows : List (List Int)} {d : Nat} {y a : List Int} {k : Nat} : smT rows d y a (k + 1) = addM (a.getD k 0) (smT rows d y a k) (rows.getD (y.getD k 0).toNat []) := by
  unfold addM
  rw [smT_len]
  conv => lhs; unfold smT
  refine List.map_congr_left fun i hi => ?_
  rw [smT_get (List.mem_range.1 hi)]
  rfl

/-- A way that may be told: rows that rise, none of it below 0, none great. -/
structure WyG (rows : List (List Int)) (y a : List Int) : Prop where
  len : a.length = y.length
  l4 : y.length ≤ 5
  mem : ∀ z ∈ y, 0 ≤ z ∧ z < (rows.length : Int)
  rise : ∀ i j, i < j → j < y.length → y.getD i 0 < y.getD j 0
  bd : ∀ z ∈ a, 0 ≤ z ∧ z ≤ 1000000000

theorem smT_bd {rows : List (List Int)} {d : Nat} {y a : List Int} (h : WyG rows y a) (hx : RwE d rows) : ∀ k, k ≤ y.length → ∀ z ∈ smT rows d y a k, z.natAbs ≤ k * 20000000000 := by
  intro k hk z hz
  simp only [smT, List.mem_map, List.mem_range] at hz
  obtain ⟨i, hi, rfl⟩ := hz
  have key : ∀ j, j ≤ k → (sumN j fun q => a.getD q 0 * (rows.getD (y.getD q 0).toNat []).getD i 0).natAbs ≤ j * 20000000000 := by
    intro j
    induction j with
    | zero => intro _; simp [sumN]
    | succ j ih =>
      intro hj
      have h1 := ih (by omega)
      have hb := h.bd _ (getD_mem (l := a) (i := j) (by rw [h.len]; omega))
      have h2 := h.mem _ (getD_mem (l := y) (i := j) (by omega))
      have h3 : (y.getD j 0).toNat < rows.length := by omega
      have h4 := hx (rows.getD (y.getD j 0).toNat []) (getD_memR h3)
      have h5 := h4.2 _ (getD_mem (l := rows.getD (y.getD j 0).toNat []) (i := i) (by rw [h4.1]; omega))
      have h6 : (a.getD j 0 * (rows.getD (y.getD j 0).toNat []).getD i 0).natAbs ≤ 20000000000 := by
        rw [Int.natAbs_mul]
        exact Nat.le_trans (Nat.mul_le_mul (show (a.getD j 0).natAbs ≤ 1000000000 by omega) h5) (by decide)
      rw [sumN]
      have := Int.natAbs_add_le (sumN j fun q => a.getD q 0 * (rows.getD (y.getD q 0).toNat []).getD i 0) (a.getD j 0 * (rows.getD (y.getD j 0).toNat []).getD i 0)
      omega
  exact key k (Nat.le_refl _)

theorem zero_row {w : World} {d : Nat} (hd : d ≤ 100) {rows : List (List Int)} {y a : List Int} : Sl 0 3 (w.alloc (.cells (madeCells #[.int .i64 0] (d + 1)) 3)) (.slice (some ⟨w.heap.size, 0, none⟩) (d + 1) (d + 1)) (ints (smT rows d y a 0)) := by
  have n3 := alloc_new w (.cells (madeCells #[.int .i64 0] (d + 1)) 3)
  have hgrow : (w.alloc (.cells (madeCells #[.int .i64 0] (d + 1)) 3)).rowIs w.heap.size 3 (d + 1) (fun _ => .int .i64 0) := by
    refine ⟨_, n3, ?_, fun i hi => ?_⟩
    · rw [← Array.length_toList, toList_madeCells_one]; simp
    · rw [← Array.getElem?_toList, toList_madeCells_one]
      simp [hi]
  refine Sl.row' hgrow (by unfold maxLen; omega) (by simp [ints, smT]) (fun i hi => ?_)
  rw [ints_get _ _ (by rw [smT_len]; exact hi)]
  have := smT_get (rows := rows) (y := y) (a := a) (k := 0) hi
  rw [this]
  rfl

theorem cut_way (w : World) (d : Nat) (v p q : Value) (u : Int) : ∃ W, W = (w.alloc (.cells #[.int .i64 d, v] 24)).alloc (.cells #[p, q, .int .i64 u] 34) ∧ Below w.heap.size w W ∧ ∀ X, Below W.heap.size W X → X.cell? ⟨w.heap.size, 0, none⟩ = some (.int .i64 d) ∧ X.cell? ⟨w.heap.size, 1, none⟩ = some v ∧ X.cell? ⟨w.heap.size + 1, 0, none⟩ = some p ∧ X.cell? ⟨w.heap.size + 1, 1, none⟩ = some q ∧ X.cell? ⟨w.heap.size + 1, 2, none⟩ = some (.int .i64 u) := by
  have k1 := alloc_keep w (.cells #[.int .i64 d, v] 24)
  have k2 := alloc_keep (w.alloc (.cells #[.int .i64 d, v] 24)) (.cells #[p, q, .int .i64 u] 34)
  refine ⟨_, rfl, k1.trans (k2.mono k1.size), fun X hX => ?_⟩
  have q1 := (hX.block w.heap.size (by rw [size_alloc, size_alloc]; omega)).trans ((k2.block _ (by rw [size_alloc]; omega)).trans (alloc_new _ _))
  have n2 := alloc_new (w.alloc (.cells #[.int .i64 d, v] 24)) (.cells #[p, q, .int .i64 u] 34)
  rw [size_alloc] at n2
  have q2 := (hX.block (w.heap.size + 1) (by rw [size_alloc, size_alloc]; omega)).trans n2
  exact ⟨by simp [World.cell?, q1], by simp [World.cell?, q1], by simp [World.cell?, q2], by simp [World.cell?, q2], by simp [World.cell?, q2]⟩

set_option maxRecDepth 100000 in
set_option maxHeartbeats 4000000 in
theorem shown_ok (d : Nat) (rows : List (List Int)) (y a : List Int) (v : Value) (yo ao : Option Addr) (yc ac ny : Nat) (g : List Int) (gv : Value) (u ov un : Int) (w : World) {B0 : Nat} (hv : Mat B0 25 3 w v rows) (hy : Sl 0 3 w (.slice yo ny yc) (ints y)) (ha : Sl 0 3 w (.slice ao ny ac) (ints a)) (hx : RwE d rows) (hd1 : 1 ≤ d) (hd3 : d ≤ 4) (ho : WyG rows y a) (hny : ny = y.length)
    {B1 : Nat} (hgs : Sl B1 3 w gv (ints g)) (hgl : g.length = d) (hgb : ∀ z ∈ g, z.natAbs ≤ 20) (hu1 : 1 ≤ u) (hu2 : u ≤ 1000000000) (hob : ov.natAbs ≤ 1000000000) (hub : un.natAbs ≤ 10000000) (h1 : ∀ i, i < d → (smL rows d y a).getD i 0 = g.getD i 0 * u) (h2 : (smL rows d y a).getD d 0 * un = ov * u) :
    Calls Try.prog 9 #[.agg #[.int .i64 d, v], gv, .agg #[.slice yo ny yc, .slice ao ny ac, .int .i64 u], .int .i64 ov, .int .i64 un] w fun e w' => e = .returned (.bool true) ∧ Below w.heap.size w w' := by
  obtain ⟨ro, rc, hvv, hlc, hcm⟩ := mat_open hv
  subst hvv
  obtain ⟨W, hW, hbW, hcW⟩ := cut_way w d (.slice ro rows.length rc) (.slice yo ny yc) (.slice ao ny ac) u
  have HWW : Hid (W = (w.alloc (.cells #[.int .i64 d, .slice ro rows.length rc] 24)).alloc (.cells #[.slice yo ny yc, .slice ao ny ac, .int .i64 u] 34)) := hW
  have HBW : Hid (∀ X, Below W.heap.size W X → Below w.heap.size w X) := fun X hX => hbW.trans (hX.mono hbW.size)
  have HCC : Hid (∀ X, Below W.heap.size W X → X.cell? ⟨w.heap.size, 0, none⟩ = some (.int .i64 d) ∧ X.cell? ⟨w.heap.size, 1, none⟩ = some (.slice ro rows.length rc) ∧ X.cell? ⟨w.heap.size + 1, 0, none⟩ = some (.slice yo ny yc) ∧ X.cell? ⟨w.heap.size + 1, 1, none⟩ = some (.slice ao ny ac) ∧ X.cell? ⟨w.heap.size + 1, 2, none⟩ = some (.int .i64 u)) := hcW
  have HRW : Hid (∀ X, Below W.heap.size W X → Mat B0 25 3 X (.slice ro rows.length rc) rows) := fun X hX => hv.below (HBW.out X hX) (Nat.le_refl _)
  have HYW : Hid (∀ X, Below W.heap.size W X → Sl 0 3 X (.slice yo ny yc) (ints y)) := fun X hX => hy.below (HBW.out X hX) (Nat.le_refl _)
  have HAW : Hid (∀ X, Below W.heap.size W X → Sl 0 3 X (.slice ao ny ac) (ints a)) := fun X hX => ha.below (HBW.out X hX) (Nat.le_refl _)
  obtain ⟨go, gc, hgg, _, _⟩ := sl_open hgs
  rw [hgl] at hgg
  subst hgg
  have HGW : Hid (∀ X, Below W.heap.size W X → Sl B1 3 X (.slice go d gc) (ints g)) := fun X hX => hgs.below (HBW.out X hX) (Nat.le_refl _)
  have HGL : Hid (g.length = d) := hgl
  have HGB : Hid (∀ z ∈ g, z.natAbs ≤ 20) := hgb
  have HH1 : Hid (∀ i, i < d → (smL rows d y a).getD i 0 = g.getD i 0 * u) := h1
  have HH2 : Hid ((smL rows d y a).getD d 0 * un = ov * u) := h2
  clear hgs hgl hgb h1 h2
  have HX : Hid (RwE d rows) := hx
  have HO : Hid (WyG rows y a) := ho
  have HBD : Hid (∀ k, k ≤ ny → ∀ z ∈ smT rows d y a k, z.natAbs ≤ k * 20000000000) := by rw [hny]; exact smT_bd ho hx
  have h4 : ny ≤ 5 := by rw [hny]; exact ho.l4
  have HAL : Hid (a.length = ny) := by rw [hny]; exact ho.len
  have HNY : Hid (ny = y.length) := hny
  have HSM : Hid (smL rows d y a = smT rows d y a ny) := by rw [hny]; rfl
  have hmk := run_make_row' (P := Try.prog) 25 3 (.int .i64 0) 8 Try.underlying25 Try.info3 rfl .i64 .i64 (d + 1) (by omega) (by omega)
  rw [show (((d + 1 : Nat) : Int)) = (d : Int) + 1 by omega] at hmk
  obtain ⟨c0, c1, c2, c3, c4⟩ := hcW W (Below.refl _ _)
  clear hv hy ha hx ho hW hbW hcW hny
  have p1 : decide (u < 1) = false := decide_eq_false (by omega)
  have p2 : decide ((1000000000 : Int) < u) = false := decide_eq_false (by omega)
  go_enter Try.func9, Try.ntmps9
  go_upto_region 1 with fail
  rw [← HWW.out]
  go_upto_region 4 with fail
  obtain ⟨W1, hW1⟩ : ∃ W1, W1 = W.alloc (.cells (madeCells #[.int .i64 0] (d + 1)) 3) := ⟨_, rfl⟩
  rw [← hW1]
  have HZR : Hid (Sl 0 3 W1 (.slice (some ⟨W.heap.size, 0, none⟩) (d + 1) (d + 1)) (ints (smT rows d y a 0))) := by rw [hW1]; exact zero_row (by omega)
  have HB1 : Hid (Below W.heap.size W W1) := by rw [hW1]; exact alloc_keep _ _
  clear c0 c1 c2 c3 c4 hW1
  go_wp2
  go_loopw [11, 12] (fun x i X => ∃ k : Nat, k ≤ ny ∧ i = .int .i64 k ∧ (∃ uo uc, x = .slice uo (d + 1) uc) ∧ Sl 0 3 X x (ints (smT rows d y a k)) ∧ Below W.heap.size W X) (fun _ i _ => ny - (intOf i).toNat)
  case atStart => exact ⟨0, Nat.zero_le _, rfl, ⟨_, _, rfl⟩, HZR.out, HB1.out⟩
  case round =>
    obtain ⟨k, hk, rfl, ⟨uo, uc, rfl⟩, hsm, hb⟩ := hrel
    have HSS : Hid (Sl 0 3 wr (.slice uo (d + 1) uc) (ints (smT rows d y a k))) := hsm
    have HB : Hid (Below W.heap.size W wr) := hb
    obtain ⟨c0, c1, c2, c3, c4⟩ := HCC.out wr hb
    clear hsm hb HZR
    by_cases hlt : k < ny
    · obtain ⟨b1, o1, cp1, e1, _, m1⟩ := sl_cell (HYW.out wr HB.out) (k := k) (by rw [← HNY.out]; exact hlt)
      simp only [Value.slice.injEq] at e1
      obtain ⟨rfl, -, rfl⟩ := e1
      obtain ⟨b2, o2, cp2, e2, _, m2⟩ := sl_cell (HAW.out wr HB.out) (k := k) (by rw [HAL.out]; exact hlt)
      simp only [Value.slice.injEq] at e2
      obtain ⟨rfl, -, rfl⟩ := e2
      have hmm := HO.out.mem _ (getD_mem (l := y) (i := k) (by rw [← HNY.out]; exact hlt))
      have hab := HO.out.bd _ (getD_mem (l := a) (i := k) (by rw [HAL.out]; exact hlt))
      obtain ⟨q, hq⟩ : ∃ q : Nat, y.getD k 0 = (q : Int) := ⟨(y.getD k 0).toNat, by omega⟩
      have HS1 : Hid (smT rows d y a (k + 1) = addM (a.getD k 0) (smT rows d y a k) (rows.getD q [])) := by
        have := smT_succ (rows := rows) (d := d) (y := y) (a := a) (k := k)
        rw [hq, show ((q : Int)).toNat = q by omega] at this
        exact this
      have HPV : Hid (∀ k', k = k' + 1 → ∃ z : Int, wr.cell? ⟨b1, o1 + k', none⟩ = some (.int .i64 z) ∧ z < (q : Int)) := fun k' e => by
        obtain ⟨b1', o1', cp1', e1, _, m1'⟩ := sl_cell (HYW.out wr HB.out) (k := k') (by rw [← HNY.out]; omega)
        simp only [Value.slice.injEq, Option.some.injEq, Addr.mk.injEq, and_true] at e1
        obtain ⟨⟨rfl, rfl⟩, -, rfl⟩ := e1
        refine ⟨_, m1', ?_⟩
        have := HO.out.rise k' k (by omega) (by rw [← HNY.out]; exact hlt)
        rw [hq] at this
        exact this
      rw [hq] at m1 hmm
      have hqr : q < rows.length := by omega
      obtain ⟨b3, o3, cp3, rv, e3, _, m3, hr3⟩ := mat_cell (HRW.out wr HB.out) hqr
      simp only [Value.slice.injEq] at e3
      obtain ⟨rfl, -, rfl⟩ := e3
      have hrl := HX.out (rows.getD q []) (getD_memR hqr)
      obtain ⟨zo, zc, hrv, _, _⟩ := sl_open hr3
      rw [hrl.1] at hrv
      subst hrv
      have HAD : Hid (∀ X, Below W.heap.size W X → Below wr.heap.size wr X → Calls Try.prog 24 #[.slice uo (d + 1) uc, .slice zo (d + 1) zc, .int .i64 (a.getD k 0)] X fun e w' => ∃ uo uc, e = .returned (.slice uo (d + 1) uc) ∧ Sl 0 3 w' (.slice uo (d + 1) uc) (ints (smT rows d y a (k + 1))) ∧ Below X.heap.size X w') := fun X hX hX2 => by
        refine (addedM_any B0 (a.getD k 0) (smT rows d y a k) (rows.getD q []) _ _ X ((HSS.out.below hX2 (Nat.le_refl _)).more (Nat.zero_le _)) (hr3.below hX2 (Nat.le_refl _)) (by rw [smT_len, hrl.1]; exact Nat.le_refl _) (by rw [smT_len]; omega) (by omega) (fun z hz => by have := HBD.out k hk z hz; omega) (fun z hz => hrl.2 z hz)).mono ?_
        rintro e w' ⟨x, rfl, ho, hb⟩
        rw [smT_len, ← HS1.out] at ho
        obtain ⟨uo, uc, rfl⟩ := owns_form ho
        exact ⟨uo, uc, rfl, Sl.own ho, hb⟩
      clear hrl hq HS1
      generalize a.getD k 0 = x1 at *
      have hkI : (k : Int) < (ny : Int) := by omega
      have hkI0 : (0 : Int) ≤ (k : Int) := by omega
      have hqI : (q : Int) < (rows.length : Int) := by omega
      have hqI0 : (0 : Int) ≤ (q : Int) := by omega
      have t1 : decide ((q : Int) < 0) = false := decide_eq_false (by omega)
      have t2 : decide ((rows.length : Int) ≤ (q : Int)) = false := decide_eq_false (by omega)
      have t3 : decide (x1 < 0) = false := decide_eq_false (by omega)
      have t4 : decide ((1000000000 : Int) < x1) = false := decide_eq_false (by omega)
      have HSL : Hid (∀ X, Below W.heap.size W X → Below wr.heap.size wr X → X.cell? ⟨w.heap.size, 1, none⟩ = some (.slice (some ⟨b3, o3, none⟩) rows.length rc) ∧ X.cell? ⟨b3, o3 + q, none⟩ = some (.slice zo (d + 1) zc) ∧ X.cell? ⟨w.heap.size + 1, 1, none⟩ = some (.slice (some ⟨b2, o2, none⟩) ny ac) ∧ X.cell? ⟨b2, o2 + k, none⟩ = some (.int .i64 x1)) := fun X hX hX2 => by
        obtain ⟨-, d1, -, d3, -⟩ := HCC.out X hX
        exact ⟨d1, (hX2.cell (lt_of_cell m3)).trans m3, d3, (hX2.cell (lt_of_cell m2)).trans m2⟩
      clear hr3 hab hmm hqr
      by_cases hk0 : k = 0
      · have t5 : decide ((0 : Int) < (k : Int)) = false := decide_eq_false (by omega)
        have t6 : decide (0 < k) = false := decide_eq_false (by omega)
        clear hk0
        go_upto_region 10 with fail
        refine wp_region_held_drew (S := fun X => Below W.heap.size W X ∧ Below wr.heap.size wr X ∧ X.cell? ⟨w.heap.size, 1, none⟩ = some (.slice (some ⟨b3, o3, none⟩) rows.length rc) ∧ X.cell? ⟨b3, o3 + q, none⟩ = some (.slice zo (d + 1) zc) ∧ X.cell? ⟨w.heap.size + 1, 1, none⟩ = some (.slice (some ⟨b2, o2, none⟩) ny ac) ∧ X.cell? ⟨b2, o2 + k, none⟩ = some (.int .i64 x1)) (by kernel_rfl) ⟨HB.out.drew, (Below.refl _ _).drew, HSL.out _ HB.out.drew (Below.refl _ _).drew⟩ (fun hHeld => ?_)
        refine wpAnyH_tk (i := 0) (d := 87) (v := (.slice uo (d + 1) uc)) rfl rfl (by kernel_rfl) (by kernel_rfl) (by kernel_rfl) (fun _ _ _ h => h) (.inl ⟨by rfl, by (intro wq hSw; (try dsimp only at hSw); go_simp; (try (first | rfl | omega)))⟩) hHeld ?_
        simp only [Act.put, List.setIfInBounds_toArray, List.set_cons_zero, List.set_cons_succ]
        refine wpAnyH_tk (i := 1) (d := 88) (v := (.pointer (some ⟨w.heap.size, 1, none⟩))) rfl rfl (by kernel_rfl) (by kernel_rfl) (by kernel_rfl) (fun _ _ _ h => h) (.inl ⟨by rfl, by (intro wq hSw; (try dsimp only at hSw); go_simp; (try (first | rfl | omega)))⟩) hHeld ?_
        simp only [Act.put, List.setIfInBounds_toArray, List.set_cons_zero, List.set_cons_succ]
        refine wpAnyH_tk (i := 2) (d := 89) (v := (.slice (some ⟨b3, o3, none⟩) rows.length rc)) rfl rfl (by kernel_rfl) (by kernel_rfl) (by kernel_rfl) (fun _ _ _ h => h) (.inl ⟨by rfl, by (intro wq hSw; (try dsimp only at hSw); go_simp; (try (first | rfl | omega)))⟩) hHeld ?_
        simp only [Act.put, List.setIfInBounds_toArray, List.set_cons_zero, List.set_cons_succ]
        refine wpAnyH_tk (i := 3) (d := 90) (v := (.int .i64 q)) rfl rfl (by kernel_rfl) (by kernel_rfl) (by kernel_rfl) (fun _ _ _ h => h) (.inl ⟨by rfl, by (intro wq hSw; (try dsimp only at hSw); go_simp; (try (first | rfl | omega)))⟩) hHeld ?_
        simp only [Act.put, List.setIfInBounds_toArray, List.set_cons_zero, List.set_cons_succ]
        refine wpAnyH_tk (i := 4) (d := 91) (v := (.pointer (some ⟨b3, o3 + q, none⟩))) rfl rfl (by kernel_rfl) (by kernel_rfl) (by kernel_rfl) (fun _ _ _ h => h) (.inl ⟨by rfl, by (intro wq hSw; (try dsimp only at hSw); go_simp; (try (first | rfl | omega)))⟩) hHeld ?_
        simp only [Act.put, List.setIfInBounds_toArray, List.set_cons_zero, List.set_cons_succ]
        refine wpAnyH_tk (i := 5) (d := 92) (v := (.slice zo (d + 1) zc)) rfl rfl (by kernel_rfl) (by kernel_rfl) (by kernel_rfl) (fun _ _ _ h => h) (.inl ⟨by rfl, by (intro wq hSw; (try dsimp only at hSw); go_simp; (try (first | rfl | omega)))⟩) hHeld ?_
        simp only [Act.put, List.setIfInBounds_toArray, List.set_cons_zero, List.set_cons_succ]
        refine wpAnyH_tk (i := 6) (d := 93) (v := (.pointer (some ⟨w.heap.size + 1, 1, none⟩))) rfl rfl (by kernel_rfl) (by kernel_rfl) (by kernel_rfl) (fun _ _ _ h => h) (.inl ⟨by rfl, by (intro wq hSw; (try dsimp only at hSw); go_simp; (try (first | rfl | omega)))⟩) hHeld ?_
        simp only [Act.put, List.setIfInBounds_toArray, List.set_cons_zero, List.set_cons_succ]
        refine wpAnyH_tk (i := 7) (d := 94) (v := (.slice (some ⟨b2, o2, none⟩) ny ac)) rfl rfl (by kernel_rfl) (by kernel_rfl) (by kernel_rfl) (fun _ _ _ h => h) (.inl ⟨by rfl, by (intro wq hSw; (try dsimp only at hSw); go_simp; (try (first | rfl | omega)))⟩) hHeld ?_
        simp only [Act.put, List.setIfInBounds_toArray, List.set_cons_zero, List.set_cons_succ]
        refine wpAnyH_tk (i := 8) (d := 95) (v := (.int .i64 k)) rfl rfl (by kernel_rfl) (by kernel_rfl) (by kernel_rfl) (fun _ _ _ h => h) (.inl ⟨by rfl, by (intro wq hSw; (try dsimp only at hSw); go_simp; (try (first | rfl | omega)))⟩) hHeld ?_
        simp only [Act.put, List.setIfInBounds_toArray, List.set_cons_zero, List.set_cons_succ]
        refine wpAnyH_tk (i := 9) (d := 96) (v := (.pointer (some ⟨b2, o2 + k, none⟩))) rfl rfl (by kernel_rfl) (by kernel_rfl) (by kernel_rfl) (fun _ _ _ h => h) (.inl ⟨by rfl, by (intro wq hSw; (try dsimp only at hSw); go_simp; (try (first | rfl | omega)))⟩) hHeld ?_
        simp only [Act.put, List.setIfInBounds_toArray, List.set_cons_zero, List.set_cons_succ]
        refine wpAnyH_tk (i := 10) (d := 97) (v := (.int .i64 x1)) rfl rfl (by kernel_rfl) (by kernel_rfl) (by kernel_rfl) (fun _ _ _ h => h) (.inl ⟨by rfl, by (intro wq hSw; (try dsimp only at hSw); go_simp; (try (first | rfl | omega)))⟩) hHeld ?_
        simp only [Act.put, List.setIfInBounds_toArray, List.set_cons_zero, List.set_cons_succ]
        refine wpAnyH_ready (rs := [11]) (by kernel_rfl) (by simp) ?_
        refine ready_tk (i := 11) rfl (by rfl) (fun K hK => ?_) AllReadyH.nil
        go_simp
        refine (HAD.out wr.drew HB.out.drew (Below.refl _ _).drew).mono ?_
        rintro e w5 ⟨uo', uc', rfl, hs5, hb5⟩
        have hbr5 : Below wr.heap.size wr w5 := (Below.refl _ _).drew.trans hb5
        have hbW5 : Below W.heap.size W w5 := HB.out.trans (hbr5.mono HB.out.size)
        refine hK.out _ _ ⟨hbW5, hbr5, HSL.out w5 hbW5 hbr5⟩ (fun hHeld => ?_)
        clear hK K
        refine wpAnyH_tk (i := 12) (d := 11) (v := (.slice uo' (d + 1) uc')) rfl rfl (by kernel_rfl) (by kernel_rfl) (by kernel_rfl) (fun _ _ _ h => h) (.inl ⟨by rfl, by (intro wq hSw; (try dsimp only at hSw); go_simp; (try (first | rfl | omega)))⟩) hHeld ?_
        simp only [Act.put, List.setIfInBounds_toArray, List.set_cons_zero, List.set_cons_succ]
        refine wpAnyH_done (by kernel_rfl) ?_ _
        have HS5 : Hid (Sl 0 3 w5 (.slice uo' (d + 1) uc') (ints (smT rows d y a (k + 1)))) := hs5
        have HB5 : Hid (Below W.heap.size W w5) := hbW5
        clear hHeld hs5 hb5 hbr5 hbW5 m1 m2 m3 c0 c1 c2 c3 c4
        go_wp2
        exact ⟨⟨k + 1, hlt, by go_num, ⟨_, _, rfl⟩, HS5.out, HB5.out⟩, by simp [intOf]; omega⟩
      · obtain ⟨k', rfl⟩ : ∃ k', k = k' + 1 := ⟨k - 1, by omega⟩
        obtain ⟨zp, mp, hzp⟩ := HPV.out k' rfl
        have t5 : decide ((q : Int) ≤ zp) = false := decide_eq_false (by omega)
        have hk1 : wrap64 (((k' + 1 : Nat) : Int) - 1) = (k' : Int) := by rw [IntWalk.wrap64_in _ ⟨by omega, by omega⟩]; omega
        have hk2 : ((k' + 1 : Nat) : Int) - 1 = (k' : Int) := by omega
        have hkp : (0 : Int) < ((k' + 1 : Nat) : Int) := by omega
        have hk3 : (k' : Int) < (ny : Int) := by omega
        have hk4 : (0 : Int) ≤ (k' : Int) := by omega
        clear hk0
        go_upto_region 10 with fail
        refine wp_region_held_drew (S := fun X => Below W.heap.size W X ∧ Below wr.heap.size wr X ∧ X.cell? ⟨w.heap.size, 1, none⟩ = some (.slice (some ⟨b3, o3, none⟩) rows.length rc) ∧ X.cell? ⟨b3, o3 + q, none⟩ = some (.slice zo (d + 1) zc) ∧ X.cell? ⟨w.heap.size + 1, 1, none⟩ = some (.slice (some ⟨b2, o2, none⟩) ny ac) ∧ X.cell? ⟨b2, o2 + (k' + 1), none⟩ = some (.int .i64 x1)) (by kernel_rfl) ⟨HB.out.drew, (Below.refl _ _).drew, HSL.out _ HB.out.drew (Below.refl _ _).drew⟩ (fun hHeld => ?_)
        refine wpAnyH_tk (i := 0) (d := 87) (v := (.slice uo (d + 1) uc)) rfl rfl (by kernel_rfl) (by kernel_rfl) (by kernel_rfl) (fun _ _ _ h => h) (.inl ⟨by rfl, by (intro wq hSw; (try dsimp only at hSw); go_simp; (try (first | rfl | omega)))⟩) hHeld ?_
        simp only [Act.put, List.setIfInBounds_toArray, List.set_cons_zero, List.set_cons_succ]
        refine wpAnyH_tk (i := 1) (d := 88) (v := (.pointer (some ⟨w.heap.size, 1, none⟩))) rfl rfl (by kernel_rfl) (by kernel_rfl) (by kernel_rfl) (fun _ _ _ h => h) (.inl ⟨by rfl, by (intro wq hSw; (try dsimp only at hSw); go_simp; (try (first | rfl | omega)))⟩) hHeld ?_
        simp only [Act.put, List.setIfInBounds_toArray, List.set_cons_zero, List.set_cons_succ]
        refine wpAnyH_tk (i := 2) (d := 89) (v := (.slice (some ⟨b3, o3, none⟩) rows.length rc)) rfl rfl (by kernel_rfl) (by kernel_rfl) (by kernel_rfl) (fun _ _ _ h => h) (.inl ⟨by rfl, by (intro wq hSw; (try dsimp only at hSw); go_simp; (try (first | rfl | omega)))⟩) hHeld ?_
        simp only [Act.put, List.setIfInBounds_toArray, List.set_cons_zero, List.set_cons_succ]
        refine wpAnyH_tk (i := 3) (d := 90) (v := (.int .i64 q)) rfl rfl (by kernel_rfl) (by kernel_rfl) (by kernel_rfl) (fun _ _ _ h => h) (.inl ⟨by rfl, by (intro wq hSw; (try dsimp only at hSw); go_simp; (try (first | rfl | omega)))⟩) hHeld ?_
        simp only [Act.put, List.setIfInBounds_toArray, List.set_cons_zero, List.set_cons_succ]
        refine wpAnyH_tk (i := 4) (d := 91) (v := (.pointer (some ⟨b3, o3 + q, none⟩))) rfl rfl (by kernel_rfl) (by kernel_rfl) (by kernel_rfl) (fun _ _ _ h => h) (.inl ⟨by rfl, by (intro wq hSw; (try dsimp only at hSw); go_simp; (try (first | rfl | omega)))⟩) hHeld ?_
        simp only [Act.put, List.setIfInBounds_toArray, List.set_cons_zero, List.set_cons_succ]
        refine wpAnyH_tk (i := 5) (d := 92) (v := (.slice zo (d + 1) zc)) rfl rfl (by kernel_rfl) (by kernel_rfl) (by kernel_rfl) (fun _ _ _ h => h) (.inl ⟨by rfl, by (intro wq hSw; (try dsimp only at hSw); go_simp; (try (first | rfl | omega)))⟩) hHeld ?_
        simp only [Act.put, List.setIfInBounds_toArray, List.set_cons_zero, List.set_cons_succ]
        refine wpAnyH_tk (i := 6) (d := 93) (v := (.pointer (some ⟨w.heap.size + 1, 1, none⟩))) rfl rfl (by kernel_rfl) (by kernel_rfl) (by kernel_rfl) (fun _ _ _ h => h) (.inl ⟨by rfl, by (intro wq hSw; (try dsimp only at hSw); go_simp; (try (first | rfl | omega)))⟩) hHeld ?_
        simp only [Act.put, List.setIfInBounds_toArray, List.set_cons_zero, List.set_cons_succ]
        refine wpAnyH_tk (i := 7) (d := 94) (v := (.slice (some ⟨b2, o2, none⟩) ny ac)) rfl rfl (by kernel_rfl) (by kernel_rfl) (by kernel_rfl) (fun _ _ _ h => h) (.inl ⟨by rfl, by (intro wq hSw; (try dsimp only at hSw); go_simp; (try (first | rfl | omega)))⟩) hHeld ?_
        simp only [Act.put, List.setIfInBounds_toArray, List.set_cons_zero, List.set_cons_succ]
        refine wpAnyH_tk (i := 8) (d := 95) (v := (.int .i64 ((k' + 1 : Nat) : Int))) rfl rfl (by kernel_rfl) (by kernel_rfl) (by kernel_rfl) (fun _ _ _ h => h) (.inl ⟨by rfl, by (intro wq hSw; (try dsimp only at hSw); go_simp; (try (first | rfl | omega)))⟩) hHeld ?_
        simp only [Act.put, List.setIfInBounds_toArray, List.set_cons_zero, List.set_cons_succ]
        refine wpAnyH_tk (i := 9) (d := 96) (v := (.pointer (some ⟨b2, o2 + (k' + 1), none⟩))) rfl rfl (by kernel_rfl) (by kernel_rfl) (by kernel_rfl) (fun _ _ _ h => h) (.inl ⟨by rfl, by (intro wq hSw; (try dsimp only at hSw); go_simp; (try (first | rfl | omega)))⟩) hHeld ?_
        simp only [Act.put, List.setIfInBounds_toArray, List.set_cons_zero, List.set_cons_succ]
        refine wpAnyH_tk (i := 10) (d := 97) (v := (.int .i64 x1)) rfl rfl (by kernel_rfl) (by kernel_rfl) (by kernel_rfl) (fun _ _ _ h => h) (.inl ⟨by rfl, by (intro wq hSw; (try dsimp only at hSw); go_simp; (try (first | rfl | omega)))⟩) hHeld ?_
        simp only [Act.put, List.setIfInBounds_toArray, List.set_cons_zero, List.set_cons_succ]
        refine wpAnyH_ready (rs := [11]) (by kernel_rfl) (by simp) ?_
        refine ready_tk (i := 11) rfl (by rfl) (fun K hK => ?_) AllReadyH.nil
        go_simp
        refine (HAD.out wr.drew HB.out.drew (Below.refl _ _).drew).mono ?_
        rintro e w5 ⟨uo', uc', rfl, hs5, hb5⟩
        have hbr5 : Below wr.heap.size wr w5 := (Below.refl _ _).drew.trans hb5
        have hbW5 : Below W.heap.size W w5 := HB.out.trans (hbr5.mono HB.out.size)
        refine hK.out _ _ ⟨hbW5, hbr5, HSL.out w5 hbW5 hbr5⟩ (fun hHeld => ?_)
        clear hK K
        refine wpAnyH_tk (i := 12) (d := 11) (v := (.slice uo' (d + 1) uc')) rfl rfl (by kernel_rfl) (by kernel_rfl) (by kernel_rfl) (fun _ _ _ h => h) (.inl ⟨by rfl, by (intro wq hSw; (try dsimp only at hSw); go_simp; (try (first | rfl | omega)))⟩) hHeld ?_
        simp only [Act.put, List.setIfInBounds_toArray, List.set_cons_zero, List.set_cons_succ]
        refine wpAnyH_done (by kernel_rfl) ?_ _
        have HS5 : Hid (Sl 0 3 w5 (.slice uo' (d + 1) uc') (ints (smT rows d y a (k' + 1 + 1)))) := hs5
        have HB5 : Hid (Below W.heap.size W w5) := hbW5
        clear hHeld hs5 hb5 hbr5 hbW5 m1 m2 m3 c0 c1 c2 c3 c4
        go_wp2
        exact ⟨⟨k' + 1 + 1, hlt, by go_num, ⟨_, _, rfl⟩, HS5.out, HB5.out⟩, by simp [intOf]; omega⟩
    · obtain rfl : k = ny := by omega
      obtain ⟨wa, hwa⟩ : ∃ wa, wa = wr := ⟨_, rfl⟩
      subst hwa
      have HCW : Hid (∀ X, Qe wa X → X.cell? ⟨w.heap.size, 0, none⟩ = some (.int .i64 d) ∧ X.cell? ⟨w.heap.size + 1, 2, none⟩ = some (.int .i64 u)) := fun X hq => by
        obtain ⟨-, d1, -, d3, d4⟩ := HCC.out X (HB.out.trans hq.below)
        exact ⟨(HCC.out X (HB.out.trans hq.below)).1, d4⟩
      have HSX : Hid (∀ X, Qe wa X → Sl 0 3 X (.slice uo (d + 1) uc) (ints (smT rows d y a k))) := fun X hq => HSS.out.below hq.below (Nat.le_refl _)
      have HBX : Hid (∀ X, Qe wa X → Below w.heap.size w X) := fun X hq => HBW.out X (HB.out.trans hq.below)
      have HSB : Hid (∀ z ∈ smT rows d y a k, z.natAbs ≤ 100000000000) := fun z hz => by have := HBD.out k hk z hz; omega
      have HGX : Hid (∀ X, Qe wa X → Sl B1 3 X (.slice go d gc) (ints g)) := fun X hq => HGW.out X (HB.out.trans hq.below)
      rw [HSM.out] at HH1 HH2
      go_wp2
      clear c0 c1 c2 c3 c4
      go_loopw [14] (fun i X => ∃ j : Nat, j ≤ d ∧ i = .int .i64 j ∧ Qe wa X) (fun i _ => d - (intOf i).toNat)
      case atStart => exact ⟨0, Nat.zero_le _, rfl, Qe.refl _⟩
      case round =>
        obtain ⟨j, hj, rfl, hqe⟩ := hrel
        have HQ : Hid (Qe wa wr) := hqe
        obtain ⟨c0, c4⟩ := HCW.out wr hqe
        obtain ⟨b6, o6, cp6, e6, _, m6⟩ := sl_cell (HSX.out wr hqe) (k := j) (by rw [smT_len]; omega)
        simp only [Value.slice.injEq] at e6
        obtain ⟨rfl, -, rfl⟩ := e6
        have hjI : (j : Int) < (d : Int) + 1 := by omega
        have hjI0 : (0 : Int) ≤ (j : Int) := by omega
        by_cases hjl : j < d
        · have hjd : (j : Int) < (d : Int) := by omega
          obtain ⟨b7, o7, cp7, e7, _, m7⟩ := sl_cell (HGX.out wr hqe) (k := j) (by rw [HGL.out]; exact hjl)
          simp only [Value.slice.injEq] at e7
          obtain ⟨rfl, -, rfl⟩ := e7
          have hgj := HGB.out (g.getD j 0) (getD_mem (by rw [HGL.out]; exact hjl))
          rw [HH1.out j hjl] at m6
          have hpb : (g.getD j 0 * u).natAbs ≤ 20 * 1000000000 := by rw [Int.natAbs_mul]; exact Nat.mul_le_mul hgj (by omega)
          generalize g.getD j 0 = gj at *
          have hw1 : wrap64 (gj * u) = gj * u := IntWalk.wrap64_in _ ⟨by omega, by omega⟩
          have hw2 : IntKind.i64.wrap (gj * u) = gj * u := by rw [IntWalk.i64_left]; exact hw1
          clear hpb hgj hqe
          go_wp2
          go_region
          go_wp2
          go_roundw
          case rel => exact ⟨j + 1, by omega, by go_num, HQ.out.drewN 1⟩
          case measure => simp [intOf]; omega
        · obtain rfl : j = d := by omega
          have hdb := HSB.out ((smT rows j y a k).getD j 0) (getD_mem (by rw [smT_len]; omega))
          have hh2 := HH2.out
          have hpb : ((smT rows j y a k).getD j 0 * un).natAbs ≤ 100000000000 * 10000000 := by rw [Int.natAbs_mul]; exact Nat.mul_le_mul hdb hub
          have hpc : (ov * u).natAbs ≤ 1000000000 * 1000000000 := by rw [Int.natAbs_mul]; exact Nat.mul_le_mul hob (by omega)
          generalize (smT rows j y a k).getD j 0 = sd at *
          have hw1 : wrap64 (sd * un) = sd * un := IntWalk.wrap64_in _ ⟨by omega, by omega⟩
          have hw2 : wrap64 (ov * u) = ov * u := IntWalk.wrap64_in _ ⟨by omega, by omega⟩
          have HEQ : Hid ((sd * un == ov * u) = true) := by show _ = _; rw [hh2]; simp
          have heq := HEQ.out
          clear hpb hpc hh2 hqe hdb
          go_wp2
          go_region
          go_wp2
          go_ret
          exact ⟨rfl, HBX.out _ (HQ.out.drewN 1)⟩

set_option maxRecDepth 100000 in
set_option maxHeartbeats 4000000 in
theorem refuted_ok (d : Nat) (rows : List (List Int)) (y a : List Int) (v : Value) (yo ao : Option Addr) (yc ac ny : Nat) (w : World) {B0 : Nat} (hv : Mat B0 25 3 w v rows) (hy : Sl 0 3 w (.slice yo ny yc) (ints y)) (ha : Sl 0 3 w (.slice ao ny ac) (ints a)) (hx : RwE d rows) (hd1 : 1 ≤ d) (hd3 : d ≤ 4) (ho : WyG rows y a) (hny : ny = y.length)
    (h1 : ∀ i, i < d → (smL rows d y a).getD i 0 = 0) (h2 : (smL rows d y a).getD d 0 < 0) :
    Calls Try.prog 13 #[.agg #[.int .i64 d, v], .agg #[.slice yo ny yc, .slice ao ny ac, .int .i64 1]] w fun e w' => e = .returned (.bool true) ∧ Below w.heap.size w w' := by
  obtain ⟨ro, rc, hvv, hlc, hcm⟩ := mat_open hv
  subst hvv
  obtain ⟨W, hW, hbW, hcW⟩ := cut_way w d (.slice ro rows.length rc) (.slice yo ny yc) (.slice ao ny ac) 1
  have HWW : Hid (W = (w.alloc (.cells #[.int .i64 d, .slice ro rows.length rc] 24)).alloc (.cells #[.slice yo ny yc, .slice ao ny ac, .int .i64 1] 34)) := hW
  have HBW : Hid (∀ X, Below W.heap.size W X → Below w.heap.size w X) := fun X hX => hbW.trans (hX.mono hbW.size)
  have HCC : Hid (∀ X, Below W.heap.size W X → X.cell? ⟨w.heap.size, 0, none⟩ = some (.int .i64 d) ∧ X.cell? ⟨w.heap.size, 1, none⟩ = some (.slice ro rows.length rc) ∧ X.cell? ⟨w.heap.size + 1, 0, none⟩ = some (.slice yo ny yc) ∧ X.cell? ⟨w.heap.size + 1, 1, none⟩ = some (.slice ao ny ac) ∧ X.cell? ⟨w.heap.size + 1, 2, none⟩ = some (.int .i64 1)) := hcW
  have HRW : Hid (∀ X, Below W.heap.size W X → Mat B0 25 3 X (.slice ro rows.length rc) rows) := fun X hX => hv.below (HBW.out X hX) (Nat.le_refl _)
  have HYW : Hid (∀ X, Below W.heap.size W X → Sl 0 3 X (.slice yo ny yc) (ints y)) := fun X hX => hy.below (HBW.out X hX) (Nat.le_refl _)
  have HAW : Hid (∀ X, Below W.heap.size W X → Sl 0 3 X (.slice ao ny ac) (ints a)) := fun X hX => ha.below (HBW.out X hX) (Nat.le_refl _)
  have HH1 : Hid (∀ i, i < d → (smL rows d y a).getD i 0 = 0) := h1
  have HH2 : Hid ((smL rows d y a).getD d 0 < 0) := h2
  clear h1 h2
  have HX : Hid (RwE d rows) := hx
  have HO : Hid (WyG rows y a) := ho
  have HBD : Hid (∀ k, k ≤ ny → ∀ z ∈ smT rows d y a k, z.natAbs ≤ k * 20000000000) := by rw [hny]; exact smT_bd ho hx
  have h4 : ny ≤ 5 := by rw [hny]; exact ho.l4
  have HAL : Hid (a.length = ny) := by rw [hny]; exact ho.len
  have HNY : Hid (ny = y.length) := hny
  have HSM : Hid (smL rows d y a = smT rows d y a ny) := by rw [hny]; rfl
  have hmk := run_make_row' (P := Try.prog) 25 3 (.int .i64 0) 8 Try.underlying25 Try.info3 rfl .i64 .i64 (d + 1) (by omega) (by omega)
  rw [show (((d + 1 : Nat) : Int)) = (d : Int) + 1 by omega] at hmk
  obtain ⟨c0, c1, c2, c3, c4⟩ := hcW W (Below.refl _ _)
  clear hv hy ha hx ho hW hbW hcW hny
  skip
  go_enter Try.func13, Try.ntmps13
  go_upto_region 1 with fail
  rw [← HWW.out]
  go_upto_region 4 with fail
  obtain ⟨W1, hW1⟩ : ∃ W1, W1 = W.alloc (.cells (madeCells #[.int .i64 0] (d + 1)) 3) := ⟨_, rfl⟩
  rw [← hW1]
  have HZR : Hid (Sl 0 3 W1 (.slice (some ⟨W.heap.size, 0, none⟩) (d + 1) (d + 1)) (ints (smT rows d y a 0))) := by rw [hW1]; exact zero_row (by omega)
  have HB1 : Hid (Below W.heap.size W W1) := by rw [hW1]; exact alloc_keep _ _
  clear c0 c1 c2 c3 c4 hW1
  go_wp2
  go_loopw [5, 6] (fun x i X => ∃ k : Nat, k ≤ ny ∧ i = .int .i64 k ∧ (∃ uo uc, x = .slice uo (d + 1) uc) ∧ Sl 0 3 X x (ints (smT rows d y a k)) ∧ Below W.heap.size W X) (fun _ i _ => ny - (intOf i).toNat)
  case atStart => exact ⟨0, Nat.zero_le _, rfl, ⟨_, _, rfl⟩, HZR.out, HB1.out⟩
  case round =>
    obtain ⟨k, hk, rfl, ⟨uo, uc, rfl⟩, hsm, hb⟩ := hrel
    have HSS : Hid (Sl 0 3 wr (.slice uo (d + 1) uc) (ints (smT rows d y a k))) := hsm
    have HB : Hid (Below W.heap.size W wr) := hb
    obtain ⟨c0, c1, c2, c3, c4⟩ := HCC.out wr hb
    clear hsm hb HZR
    by_cases hlt : k < ny
    · obtain ⟨b1, o1, cp1, e1, _, m1⟩ := sl_cell (HYW.out wr HB.out) (k := k) (by rw [← HNY.out]; exact hlt)
      simp only [Value.slice.injEq] at e1
      obtain ⟨rfl, -, rfl⟩ := e1
      obtain ⟨b2, o2, cp2, e2, _, m2⟩ := sl_cell (HAW.out wr HB.out) (k := k) (by rw [HAL.out]; exact hlt)
      simp only [Value.slice.injEq] at e2
      obtain ⟨rfl, -, rfl⟩ := e2
      have hmm := HO.out.mem _ (getD_mem (l := y) (i := k) (by rw [← HNY.out]; exact hlt))
      have hab := HO.out.bd _ (getD_mem (l := a) (i := k) (by rw [HAL.out]; exact hlt))
      obtain ⟨q, hq⟩ : ∃ q : Nat, y.getD k 0 = (q : Int) := ⟨(y.getD k 0).toNat, by omega⟩
      have HS1 : Hid (smT rows d y a (k + 1) = addM (a.getD k 0) (smT rows d y a k) (rows.getD q [])) := by
        have := smT_succ (rows := rows) (d := d) (y := y) (a := a) (k := k)
        rw [hq, show ((q : Int)).toNat = q by omega] at this
        exact this
      have HPV : Hid (∀ k', k = k' + 1 → ∃ z : Int, wr.cell? ⟨b1, o1 + k', none⟩ = some (.int .i64 z) ∧ z < (q : Int)) := fun k' e => by
        obtain ⟨b1', o1', cp1', e1, _, m1'⟩ := sl_cell (HYW.out wr HB.out) (k := k') (by rw [← HNY.out]; omega)
        simp only [Value.slice.injEq, Option.some.injEq, Addr.mk.injEq, and_true] at e1
        obtain ⟨⟨rfl, rfl⟩, -, rfl⟩ := e1
        refine ⟨_, m1', ?_⟩
        have := HO.out.rise k' k (by omega) (by rw [← HNY.out]; exact hlt)
        rw [hq] at this
        exact this
      rw [hq] at m1 hmm
      have hqr : q < rows.length := by omega
      obtain ⟨b3, o3, cp3, rv, e3, _, m3, hr3⟩ := mat_cell (HRW.out wr HB.out) hqr
      simp only [Value.slice.injEq] at e3
      obtain ⟨rfl, -, rfl⟩ := e3
      have hrl := HX.out (rows.getD q []) (getD_memR hqr)
      obtain ⟨zo, zc, hrv, _, _⟩ := sl_open hr3
      rw [hrl.1] at hrv
      subst hrv
      have HAD : Hid (∀ X, Below W.heap.size W X → Below wr.heap.size wr X → Calls Try.prog 24 #[.slice uo (d + 1) uc, .slice zo (d + 1) zc, .int .i64 (a.getD k 0)] X fun e w' => ∃ uo uc, e = .returned (.slice uo (d + 1) uc) ∧ Sl 0 3 w' (.slice uo (d + 1) uc) (ints (smT rows d y a (k + 1))) ∧ Below X.heap.size X w') := fun X hX hX2 => by
        refine (addedM_any B0 (a.getD k 0) (smT rows d y a k) (rows.getD q []) _ _ X ((HSS.out.below hX2 (Nat.le_refl _)).more (Nat.zero_le _)) (hr3.below hX2 (Nat.le_refl _)) (by rw [smT_len, hrl.1]; exact Nat.le_refl _) (by rw [smT_len]; omega) (by omega) (fun z hz => by have := HBD.out k hk z hz; omega) (fun z hz => hrl.2 z hz)).mono ?_
        rintro e w' ⟨x, rfl, ho, hb⟩
        rw [smT_len, ← HS1.out] at ho
        obtain ⟨uo, uc, rfl⟩ := owns_form ho
        exact ⟨uo, uc, rfl, Sl.own ho, hb⟩
      clear hrl hq HS1
      generalize a.getD k 0 = x1 at *
      have hkI : (k : Int) < (ny : Int) := by omega
      have hkI0 : (0 : Int) ≤ (k : Int) := by omega
      have hqI : (q : Int) < (rows.length : Int) := by omega
      have hqI0 : (0 : Int) ≤ (q : Int) := by omega
      have t1 : decide ((q : Int) < 0) = false := decide_eq_false (by omega)
      have t2 : decide ((rows.length : Int) ≤ (q : Int)) = false := decide_eq_false (by omega)
      have t3 : decide (x1 < 0) = false := decide_eq_false (by omega)
      have t4 : decide ((1000000000 : Int) < x1) = false := decide_eq_false (by omega)
      have HSL : Hid (∀ X, Below W.heap.size W X → Below wr.heap.size wr X → X.cell? ⟨w.heap.size, 1, none⟩ = some (.slice (some ⟨b3, o3, none⟩) rows.length rc) ∧ X.cell? ⟨b3, o3 + q, none⟩ = some (.slice zo (d + 1) zc) ∧ X.cell? ⟨w.heap.size + 1, 1, none⟩ = some (.slice (some ⟨b2, o2, none⟩) ny ac) ∧ X.cell? ⟨b2, o2 + k, none⟩ = some (.int .i64 x1)) := fun X hX hX2 => by
        obtain ⟨-, d1, -, d3, -⟩ := HCC.out X hX
        exact ⟨d1, (hX2.cell (lt_of_cell m3)).trans m3, d3, (hX2.cell (lt_of_cell m2)).trans m2⟩
      clear hr3 hab hmm hqr
      by_cases hk0 : k = 0
      · have t5 : decide ((0 : Int) < (k : Int)) = false := decide_eq_false (by omega)
        have t6 : decide (0 < k) = false := decide_eq_false (by omega)
        clear hk0
        go_upto_region 10 with fail
        refine wp_region_held_drew (S := fun X => Below W.heap.size W X ∧ Below wr.heap.size wr X ∧ X.cell? ⟨w.heap.size, 1, none⟩ = some (.slice (some ⟨b3, o3, none⟩) rows.length rc) ∧ X.cell? ⟨b3, o3 + q, none⟩ = some (.slice zo (d + 1) zc) ∧ X.cell? ⟨w.heap.size + 1, 1, none⟩ = some (.slice (some ⟨b2, o2, none⟩) ny ac) ∧ X.cell? ⟨b2, o2 + k, none⟩ = some (.int .i64 x1)) (by kernel_rfl) ⟨HB.out.drew, (Below.refl _ _).drew, HSL.out _ HB.out.drew (Below.refl _ _).drew⟩ (fun hHeld => ?_)
        refine wpAnyH_tk (i := 0) (d := 76) (v := (.slice uo (d + 1) uc)) rfl rfl (by kernel_rfl) (by kernel_rfl) (by kernel_rfl) (fun _ _ _ h => h) (.inl ⟨by rfl, by (intro wq hSw; (try dsimp only at hSw); go_simp; (try (first | rfl | omega)))⟩) hHeld ?_
        simp only [Act.put, List.setIfInBounds_toArray, List.set_cons_zero, List.set_cons_succ]
        refine wpAnyH_tk (i := 1) (d := 77) (v := (.pointer (some ⟨w.heap.size, 1, none⟩))) rfl rfl (by kernel_rfl) (by kernel_rfl) (by kernel_rfl) (fun _ _ _ h => h) (.inl ⟨by rfl, by (intro wq hSw; (try dsimp only at hSw); go_simp; (try (first | rfl | omega)))⟩) hHeld ?_
        simp only [Act.put, List.setIfInBounds_toArray, List.set_cons_zero, List.set_cons_succ]
        refine wpAnyH_tk (i := 2) (d := 78) (v := (.slice (some ⟨b3, o3, none⟩) rows.length rc)) rfl rfl (by kernel_rfl) (by kernel_rfl) (by kernel_rfl) (fun _ _ _ h => h) (.inl ⟨by rfl, by (intro wq hSw; (try dsimp only at hSw); go_simp; (try (first | rfl | omega)))⟩) hHeld ?_
        simp only [Act.put, List.setIfInBounds_toArray, List.set_cons_zero, List.set_cons_succ]
        refine wpAnyH_tk (i := 3) (d := 79) (v := (.int .i64 q)) rfl rfl (by kernel_rfl) (by kernel_rfl) (by kernel_rfl) (fun _ _ _ h => h) (.inl ⟨by rfl, by (intro wq hSw; (try dsimp only at hSw); go_simp; (try (first | rfl | omega)))⟩) hHeld ?_
        simp only [Act.put, List.setIfInBounds_toArray, List.set_cons_zero, List.set_cons_succ]
        refine wpAnyH_tk (i := 4) (d := 80) (v := (.pointer (some ⟨b3, o3 + q, none⟩))) rfl rfl (by kernel_rfl) (by kernel_rfl) (by kernel_rfl) (fun _ _ _ h => h) (.inl ⟨by rfl, by (intro wq hSw; (try dsimp only at hSw); go_simp; (try (first | rfl | omega)))⟩) hHeld ?_
        simp only [Act.put, List.setIfInBounds_toArray, List.set_cons_zero, List.set_cons_succ]
        refine wpAnyH_tk (i := 5) (d := 81) (v := (.slice zo (d + 1) zc)) rfl rfl (by kernel_rfl) (by kernel_rfl) (by kernel_rfl) (fun _ _ _ h => h) (.inl ⟨by rfl, by (intro wq hSw; (try dsimp only at hSw); go_simp; (try (first | rfl | omega)))⟩) hHeld ?_
        simp only [Act.put, List.setIfInBounds_toArray, List.set_cons_zero, List.set_cons_succ]
        refine wpAnyH_tk (i := 6) (d := 82) (v := (.pointer (some ⟨w.heap.size + 1, 1, none⟩))) rfl rfl (by kernel_rfl) (by kernel_rfl) (by kernel_rfl) (fun _ _ _ h => h) (.inl ⟨by rfl, by (intro wq hSw; (try dsimp only at hSw); go_simp; (try (first | rfl | omega)))⟩) hHeld ?_
        simp only [Act.put, List.setIfInBounds_toArray, List.set_cons_zero, List.set_cons_succ]
        refine wpAnyH_tk (i := 7) (d := 83) (v := (.slice (some ⟨b2, o2, none⟩) ny ac)) rfl rfl (by kernel_rfl) (by kernel_rfl) (by kernel_rfl) (fun _ _ _ h => h) (.inl ⟨by rfl, by (intro wq hSw; (try dsimp only at hSw); go_simp; (try (first | rfl | omega)))⟩) hHeld ?_
        simp only [Act.put, List.setIfInBounds_toArray, List.set_cons_zero, List.set_cons_succ]
        refine wpAnyH_tk (i := 8) (d := 84) (v := (.int .i64 k)) rfl rfl (by kernel_rfl) (by kernel_rfl) (by kernel_rfl) (fun _ _ _ h => h) (.inl ⟨by rfl, by (intro wq hSw; (try dsimp only at hSw); go_simp; (try (first | rfl | omega)))⟩) hHeld ?_
        simp only [Act.put, List.setIfInBounds_toArray, List.set_cons_zero, List.set_cons_succ]
        refine wpAnyH_tk (i := 9) (d := 85) (v := (.pointer (some ⟨b2, o2 + k, none⟩))) rfl rfl (by kernel_rfl) (by kernel_rfl) (by kernel_rfl) (fun _ _ _ h => h) (.inl ⟨by rfl, by (intro wq hSw; (try dsimp only at hSw); go_simp; (try (first | rfl | omega)))⟩) hHeld ?_
        simp only [Act.put, List.setIfInBounds_toArray, List.set_cons_zero, List.set_cons_succ]
        refine wpAnyH_tk (i := 10) (d := 86) (v := (.int .i64 x1)) rfl rfl (by kernel_rfl) (by kernel_rfl) (by kernel_rfl) (fun _ _ _ h => h) (.inl ⟨by rfl, by (intro wq hSw; (try dsimp only at hSw); go_simp; (try (first | rfl | omega)))⟩) hHeld ?_
        simp only [Act.put, List.setIfInBounds_toArray, List.set_cons_zero, List.set_cons_succ]
        refine wpAnyH_ready (rs := [11]) (by kernel_rfl) (by simp) ?_
        refine ready_tk (i := 11) rfl (by rfl) (fun K hK => ?_) AllReadyH.nil
        go_simp
        refine (HAD.out wr.drew HB.out.drew (Below.refl _ _).drew).mono ?_
        rintro e w5 ⟨uo', uc', rfl, hs5, hb5⟩
        have hbr5 : Below wr.heap.size wr w5 := (Below.refl _ _).drew.trans hb5
        have hbW5 : Below W.heap.size W w5 := HB.out.trans (hbr5.mono HB.out.size)
        refine hK.out _ _ ⟨hbW5, hbr5, HSL.out w5 hbW5 hbr5⟩ (fun hHeld => ?_)
        clear hK K
        refine wpAnyH_tk (i := 12) (d := 5) (v := (.slice uo' (d + 1) uc')) rfl rfl (by kernel_rfl) (by kernel_rfl) (by kernel_rfl) (fun _ _ _ h => h) (.inl ⟨by rfl, by (intro wq hSw; (try dsimp only at hSw); go_simp; (try (first | rfl | omega)))⟩) hHeld ?_
        simp only [Act.put, List.setIfInBounds_toArray, List.set_cons_zero, List.set_cons_succ]
        refine wpAnyH_done (by kernel_rfl) ?_ _
        have HS5 : Hid (Sl 0 3 w5 (.slice uo' (d + 1) uc') (ints (smT rows d y a (k + 1)))) := hs5
        have HB5 : Hid (Below W.heap.size W w5) := hbW5
        clear hHeld hs5 hb5 hbr5 hbW5 m1 m2 m3 c0 c1 c2 c3 c4
        go_wp2
        exact ⟨⟨k + 1, hlt, by go_num, ⟨_, _, rfl⟩, HS5.out, HB5.out⟩, by simp [intOf]; omega⟩
      · obtain ⟨k', rfl⟩ : ∃ k', k = k' + 1 := ⟨k - 1, by omega⟩
        obtain ⟨zp, mp, hzp⟩ := HPV.out k' rfl
        have t5 : decide ((q : Int) ≤ zp) = false := decide_eq_false (by omega)
        have hk1 : wrap64 (((k' + 1 : Nat) : Int) - 1) = (k' : Int) := by rw [IntWalk.wrap64_in _ ⟨by omega, by omega⟩]; omega
        have hk2 : ((k' + 1 : Nat) : Int) - 1 = (k' : Int) := by omega
        have hkp : (0 : Int) < ((k' + 1 : Nat) : Int) := by omega
        have hk3 : (k' : Int) < (ny : Int) := by omega
        have hk4 : (0 : Int) ≤ (k' : Int) := by omega
        clear hk0
        go_upto_region 10 with fail
        refine wp_region_held_drew (S := fun X => Below W.heap.size W X ∧ Below wr.heap.size wr X ∧ X.cell? ⟨w.heap.size, 1, none⟩ = some (.slice (some ⟨b3, o3, none⟩) rows.length rc) ∧ X.cell? ⟨b3, o3 + q, none⟩ = some (.slice zo (d + 1) zc) ∧ X.cell? ⟨w.heap.size + 1, 1, none⟩ = some (.slice (some ⟨b2, o2, none⟩) ny ac) ∧ X.cell? ⟨b2, o2 + (k' + 1), none⟩ = some (.int .i64 x1)) (by kernel_rfl) ⟨HB.out.drew, (Below.refl _ _).drew, HSL.out _ HB.out.drew (Below.refl _ _).drew⟩ (fun hHeld => ?_)
        refine wpAnyH_tk (i := 0) (d := 76) (v := (.slice uo (d + 1) uc)) rfl rfl (by kernel_rfl) (by kernel_rfl) (by kernel_rfl) (fun _ _ _ h => h) (.inl ⟨by rfl, by (intro wq hSw; (try dsimp only at hSw); go_simp; (try (first | rfl | omega)))⟩) hHeld ?_
        simp only [Act.put, List.setIfInBounds_toArray, List.set_cons_zero, List.set_cons_succ]
        refine wpAnyH_tk (i := 1) (d := 77) (v := (.pointer (some ⟨w.heap.size, 1, none⟩))) rfl rfl (by kernel_rfl) (by kernel_rfl) (by kernel_rfl) (fun _ _ _ h => h) (.inl ⟨by rfl, by (intro wq hSw; (try dsimp only at hSw); go_simp; (try (first | rfl | omega)))⟩) hHeld ?_
        simp only [Act.put, List.setIfInBounds_toArray, List.set_cons_zero, List.set_cons_succ]
        refine wpAnyH_tk (i := 2) (d := 78) (v := (.slice (some ⟨b3, o3, none⟩) rows.length rc)) rfl rfl (by kernel_rfl) (by kernel_rfl) (by kernel_rfl) (fun _ _ _ h => h) (.inl ⟨by rfl, by (intro wq hSw; (try dsimp only at hSw); go_simp; (try (first | rfl | omega)))⟩) hHeld ?_
        simp only [Act.put, List.setIfInBounds_toArray, List.set_cons_zero, List.set_cons_succ]
        refine wpAnyH_tk (i := 3) (d := 79) (v := (.int .i64 q)) rfl rfl (by kernel_rfl) (by kernel_rfl) (by kernel_rfl) (fun _ _ _ h => h) (.inl ⟨by rfl, by (intro wq hSw; (try dsimp only at hSw); go_simp; (try (first | rfl | omega)))⟩) hHeld ?_
        simp only [Act.put, List.setIfInBounds_toArray, List.set_cons_zero, List.set_cons_succ]
        refine wpAnyH_tk (i := 4) (d := 80) (v := (.pointer (some ⟨b3, o3 + q, none⟩))) rfl rfl (by kernel_rfl) (by kernel_rfl) (by kernel_rfl) (fun _ _ _ h => h) (.inl ⟨by rfl, by (intro wq hSw; (try dsimp only at hSw); go_simp; (try (first | rfl | omega)))⟩) hHeld ?_
        simp only [Act.put, List.setIfInBounds_toArray, List.set_cons_zero, List.set_cons_succ]
        refine wpAnyH_tk (i := 5) (d := 81) (v := (.slice zo (d + 1) zc)) rfl rfl (by kernel_rfl) (by kernel_rfl) (by kernel_rfl) (fun _ _ _ h => h) (.inl ⟨by rfl, by (intro wq hSw; (try dsimp only at hSw); go_simp; (try (first | rfl | omega)))⟩) hHeld ?_
        simp only [Act.put, List.setIfInBounds_toArray, List.set_cons_zero, List.set_cons_succ]
        refine wpAnyH_tk (i := 6) (d := 82) (v := (.pointer (some ⟨w.heap.size + 1, 1, none⟩))) rfl rfl (by kernel_rfl) (by kernel_rfl) (by kernel_rfl) (fun _ _ _ h => h) (.inl ⟨by rfl, by (intro wq hSw; (try dsimp only at hSw); go_simp; (try (first | rfl | omega)))⟩) hHeld ?_
        simp only [Act.put, List.setIfInBounds_toArray, List.set_cons_zero, List.set_cons_succ]
        refine wpAnyH_tk (i := 7) (d := 83) (v := (.slice (some ⟨b2, o2, none⟩) ny ac)) rfl rfl (by kernel_rfl) (by kernel_rfl) (by kernel_rfl) (fun _ _ _ h => h) (.inl ⟨by rfl, by (intro wq hSw; (try dsimp only at hSw); go_simp; (try (first | rfl | omega)))⟩) hHeld ?_
        simp only [Act.put, List.setIfInBounds_toArray, List.set_cons_zero, List.set_cons_succ]
        refine wpAnyH_tk (i := 8) (d := 84) (v := (.int .i64 ((k' + 1 : Nat) : Int))) rfl rfl (by kernel_rfl) (by kernel_rfl) (by kernel_rfl) (fun _ _ _ h => h) (.inl ⟨by rfl, by (intro wq hSw; (try dsimp only at hSw); go_simp; (try (first | rfl | omega)))⟩) hHeld ?_
        simp only [Act.put, List.setIfInBounds_toArray, List.set_cons_zero, List.set_cons_succ]
        refine wpAnyH_tk (i := 9) (d := 85) (v := (.pointer (some ⟨b2, o2 + (k' + 1), none⟩))) rfl rfl (by kernel_rfl) (by kernel_rfl) (by kernel_rfl) (fun _ _ _ h => h) (.inl ⟨by rfl, by (intro wq hSw; (try dsimp only at hSw); go_simp; (try (first | rfl | omega)))⟩) hHeld ?_
        simp only [Act.put, List.setIfInBounds_toArray, List.set_cons_zero, List.set_cons_succ]
        refine wpAnyH_tk (i := 10) (d := 86) (v := (.int .i64 x1)) rfl rfl (by kernel_rfl) (by kernel_rfl) (by kernel_rfl) (fun _ _ _ h => h) (.inl ⟨by rfl, by (intro wq hSw; (try dsimp only at hSw); go_simp; (try (first | rfl | omega)))⟩) hHeld ?_
        simp only [Act.put, List.setIfInBounds_toArray, List.set_cons_zero, List.set_cons_succ]
        refine wpAnyH_ready (rs := [11]) (by kernel_rfl) (by simp) ?_
        refine ready_tk (i := 11) rfl (by rfl) (fun K hK => ?_) AllReadyH.nil
        go_simp
        refine (HAD.out wr.drew HB.out.drew (Below.refl _ _).drew).mono ?_
        rintro e w5 ⟨uo', uc', rfl, hs5, hb5⟩
        have hbr5 : Below wr.heap.size wr w5 := (Below.refl _ _).drew.trans hb5
        have hbW5 : Below W.heap.size W w5 := HB.out.trans (hbr5.mono HB.out.size)
        refine hK.out _ _ ⟨hbW5, hbr5, HSL.out w5 hbW5 hbr5⟩ (fun hHeld => ?_)
        clear hK K
        refine wpAnyH_tk (i := 12) (d := 5) (v := (.slice uo' (d + 1) uc')) rfl rfl (by kernel_rfl) (by kernel_rfl) (by kernel_rfl) (fun _ _ _ h => h) (.inl ⟨by rfl, by (intro wq hSw; (try dsimp only at hSw); go_simp; (try (first | rfl | omega)))⟩) hHeld ?_
        simp only [Act.put, List.setIfInBounds_toArray, List.set_cons_zero, List.set_cons_succ]
        refine wpAnyH_done (by kernel_rfl) ?_ _
        have HS5 : Hid (Sl 0 3 w5 (.slice uo' (d + 1) uc') (ints (smT rows d y a (k' + 1 + 1)))) := hs5
        have HB5 : Hid (Below W.heap.size W w5) := hbW5
        clear hHeld hs5 hb5 hbr5 hbW5 m1 m2 m3 c0 c1 c2 c3 c4
        go_wp2
        exact ⟨⟨k' + 1 + 1, hlt, by go_num, ⟨_, _, rfl⟩, HS5.out, HB5.out⟩, by simp [intOf]; omega⟩
    · obtain rfl : k = ny := by omega
      obtain ⟨wa, hwa⟩ : ∃ wa, wa = wr := ⟨_, rfl⟩
      subst hwa
      have HCW : Hid (∀ X, Qe wa X → X.cell? ⟨w.heap.size, 0, none⟩ = some (.int .i64 d) ∧ X.cell? ⟨w.heap.size + 1, 2, none⟩ = some (.int .i64 1)) := fun X hq => by
        obtain ⟨-, d1, -, d3, d4⟩ := HCC.out X (HB.out.trans hq.below)
        exact ⟨(HCC.out X (HB.out.trans hq.below)).1, d4⟩
      have HSX : Hid (∀ X, Qe wa X → Sl 0 3 X (.slice uo (d + 1) uc) (ints (smT rows d y a k))) := fun X hq => HSS.out.below hq.below (Nat.le_refl _)
      have HBX : Hid (∀ X, Qe wa X → Below w.heap.size w X) := fun X hq => HBW.out X (HB.out.trans hq.below)
      have HSB : Hid (∀ z ∈ smT rows d y a k, z.natAbs ≤ 100000000000) := fun z hz => by have := HBD.out k hk z hz; omega
      rw [HSM.out] at HH1 HH2
      go_wp2
      clear c0 c1 c2 c3 c4
      go_loopw [8] (fun i X => ∃ j : Nat, j ≤ d ∧ i = .int .i64 j ∧ Qe wa X) (fun i _ => d - (intOf i).toNat)
      case atStart => exact ⟨0, Nat.zero_le _, rfl, Qe.refl _⟩
      case round =>
        obtain ⟨j, hj, rfl, hqe⟩ := hrel
        have HQ : Hid (Qe wa wr) := hqe
        obtain ⟨c0, c4⟩ := HCW.out wr hqe
        obtain ⟨b6, o6, cp6, e6, _, m6⟩ := sl_cell (HSX.out wr hqe) (k := j) (by rw [smT_len]; omega)
        simp only [Value.slice.injEq] at e6
        obtain ⟨rfl, -, rfl⟩ := e6
        have hjI : (j : Int) < (d : Int) + 1 := by omega
        have hjI0 : (0 : Int) ≤ (j : Int) := by omega
        by_cases hjl : j < d
        · have hjd : (j : Int) < (d : Int) := by omega
          rw [HH1.out j hjl] at m6
          clear hqe
          go_wp2
          go_roundw
          case rel => exact ⟨j + 1, by omega, by go_num, HQ.out⟩
          case measure => simp [intOf]; omega
        · obtain rfl : j = d := by omega
          have hdb := HSB.out ((smT rows j y a k).getD j 0) (getD_mem (by rw [smT_len]; omega))
          have hh2 := HH2.out
          generalize (smT rows j y a k).getD j 0 = sd at *
          have hdt : decide (sd < 0) = true := decide_eq_true hh2
          clear hqe hdb
          go_wp2
          go_ret
          exact ⟨rfl, HBX.out _ HQ.out⟩

end Go.Proofs.Ytdmkmljhljoojaa
