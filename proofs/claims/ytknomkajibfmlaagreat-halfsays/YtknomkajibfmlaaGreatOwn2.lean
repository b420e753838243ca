/- The program's kernel and normal: rows of the call's own. -/
import Derived.Test.YtknomkajibfmlaaGreatMgAG
namespace Go.Proofs.YtknomkajibfmlaaGreat
open Go.RowKit Lin
attribute [local go_sem ↓] Go.wp_at_zero Go.wp_at_succ

theorem low_len (l : List Int) : (low l).length = l.length := by simp [low]
theorem upr_len (l : List Int) : (upr l).length = l.length := by unfold upr; split <;> simp

/-- Rows that grow in a row of the call's own, each of the call's own. -/
def Rwo (B : Nat) (w : World) (v : Value) (m : List (List Int)) : Prop :=
  ∃ vs, vs.length = m.length ∧ w.ownsRow B 38 1 v m.length vs ∧ ∀ i, i < m.length → w.ownsRow B 3 1 (vs.getD i (.slice none 0 0)) (m.getD i []).length (ints (m.getD i []))

theorem Rwo.nil (B : Nat) (w : World) : Rwo B w (.slice none 0 0) [] := ⟨[], rfl, World.ownsRow_nil _ _ _ _, fun i hi => absurd hi (by simp)⟩
theorem Rwo.below {B N : Nat} {w w' : World} {v : Value} {m : List (List Int)} (h : Rwo B w v m) (hb : Below N w w') (hN : w.heap.size ≤ N) : Rwo B w' v m := by
  obtain ⟨vs, h1, h2, h3⟩ := h
  exact ⟨vs, h1, owns_below h2 hb hN, fun i hi => owns_below (h3 i hi) hb hN⟩
theorem Rwo.low {B B' : Nat} {w : World} {v : Value} {m : List (List Int)} (h : Rwo B w v m) (hB : B' ≤ B) : Rwo B' w v m := by
  obtain ⟨vs, h1, h2, h3⟩ := h
  exact ⟨vs, h1, owns_lowK h2 hB, fun i hi => owns_lowK (h3 i hi) hB⟩
theorem own_grownK {B n n2 : Nat} {w w' : World} {v u : Value} {xs ys : List Value} (h : w.ownsRow B 38 1 v n xs) (hu : w.ownsRow B 3 1 u n2 ys) (hg : w.grownBy w' v.ownBlock) : w'.ownsRow B 3 1 u n2 ys := by
  refine ⟨hu.1, ?_⟩
  rcases hu.2 with q | ⟨b, cap, cur, rfl, r1, r2, r3⟩
  · exact Or.inl q
  · refine Or.inr ⟨b, cap, cur, rfl, r1, ?_, r3⟩
    rw [hg.block b (lt_of_block r2) (fun e => ?_)]
    · exact r2
    · rcases h.2 with ⟨f1, _⟩ | ⟨b', cap', cur', f1, s1, s2, _⟩
      · rw [f1] at e; simp [Value.ownBlock] at e
      · rw [f1] at e
        simp [Value.ownBlock] at e
        subst e
        rw [r2] at s2; simp at s2
theorem Rwo.push {B : Nat} {w w' : World} {v v' u : Value} {m : List (List Int)} {vs : List Value} {zs : List Int} (h1 : vs.length = m.length) (h2 : w.ownsRow B 38 1 v m.length vs)
    (h3 : ∀ i, i < m.length → w.ownsRow B 3 1 (vs.getD i (.slice none 0 0)) (m.getD i []).length (ints (m.getD i []))) (hu : w.ownsRow B 3 1 u zs.length (ints zs))
    (ho : w'.ownsRow B 38 1 v' (m.length + 1) (vs ++ [u])) (hg : w.grownBy w' v.ownBlock) : Rwo B w' v' (m ++ [zs]) := by
  refine ⟨vs ++ [u], by simp [h1], by simpa using ho, fun i hi => ?_⟩
  by_cases hlt : i < m.length
  · have e1' : (vs ++ [u]).getD i (.slice none 0 0) = vs.getD i (.slice none 0 0) := by
      simp only [List.getD_eq_getElem?_getD]; rw [List.getElem?_append_left (by omega)]
    have e2' : (m ++ [zs]).getD i [] = m.getD i [] := by
      simp only [List.getD_eq_getElem?_getD]; rw [List.getElem?_append_left (by omega)]
    rw [e1', e2']
    exact own_grownK h2 (h3 i hlt) hg
  · have hi' : i = m.length := by simp at hi; omega
    subst hi'
    have e1' : (vs ++ [u]).getD m.length (.slice none 0 0) = u := by
      rw [← h1]; simp
    have e2' : (m ++ [zs]).getD m.length [] = zs := by simp
    rw [e1', e2']
    exact own_grownK h2 hu hg

/-- What the kernel's walk asks: few columns or few rows, and bounds. -/
structure KrG (c : Nat) (m : List (List Int)) : Prop where
  row : ∀ r ∈ m, r.length = c
  c20 : c ≤ 20
  c1 : 1 ≤ c
  few : c ≤ 6 ∨ m.length ≤ 5
  bdd : Bd (mOf m) m.length c
  val : ∀ {M' : Nat → Nat → Int} {C : Nat → Nat} {k : Nat} {sgn : Int}, Red (mOf m) m.length c M' C k sgn → k < c → (dk M' C k).natAbs ≤ 1000000000000 ∧ ∀ i, i < m.length → ∀ j, j < c → (rr M' C k i j).natAbs ≤ 1000000000000

theorem val_of {c B K : Nat} {m : List (List Int)} (hB : 1 ≤ B) (hent : ∀ {q : Nat} {M' : Nat → Nat → Int} {C : Nat → Nat} {k : Nat} {sgn : Int}, Red (mOf m) m.length q M' C k sgn → ∀ i, i < m.length → ∀ j, j < c → (M' i j).natAbs ≤ B) (hK : c ≤ K + 1 ∨ m.length ≤ K) (hf : 2 * fb B (K + 1) ≤ 1000000000000)
    {M' : Nat → Nat → Int} {C : Nat → Nat} {k : Nat} {sgn : Int} (hred : Red (mOf m) m.length c M' C k sgn) (hkc : k < c) : (dk M' C k).natAbs ≤ 1000000000000 ∧ ∀ i, i < m.length → ∀ j, j < c → (rr M' C k i j).natAbs ≤ 1000000000000 := by
  have hkn := hred.done.kn
  have m1 : fb B k ≤ fb B (K + 1) := fb_mono hB (by omega)
  have m2 : fb B (k + 1) ≤ fb B (K + 1) := fb_mono hB (by omega)
  have hb := dk_bd (B := B) (k := k) (M := M') (C := C) (fun i hi b hb => hent hred i (by omega) _ (hred.done.rise.2 b hb))
  refine ⟨by omega, fun i hi j hj => ?_⟩
  have := rr_bd (B := B) (n := m.length) (c := c) (k := k) (i := i) (j := j) (M := M') (C := C) hB (hent hred) hkn hred.done.rise.2 hi hj
  omega

theorem KrG.of {c : Nat} {m : List (List Int)} (hx : Mx c 60 m) : KrG c m := ⟨hx.row, Nat.le_trans hx.c5 (by decide), hx.c1, .inl (Nat.le_trans hx.c5 (by decide)), bd60 hx, fun h hk => val_of (K := 4) (by decide) (fun h => red_entry hx h) (.inl hx.c5) (by decide) h hk⟩

/-- Six columns of small numbers. -/
structure MxS (c : Nat) (m : List (List Int)) : Prop where
  row : ∀ r ∈ m, r.length = c
  bd : ∀ r ∈ m, ∀ z ∈ r, z.natAbs ≤ 20
  c6 : c ≤ 6
  c1 : 1 ≤ c
  m5 : m.length ≤ 5

theorem red_entryS {m : List (List Int)} {c q : Nat} {M' : Nat → Nat → Int} {C : Nat → Nat} {k : Nat} {sgn : Int} (hx : MxS c m) (h : Red (mOf m) m.length q M' C k sgn) : ∀ i, i < m.length → ∀ j, j < c → (M' i j).natAbs ≤ 20 := by
  intro i hi j hj
  obtain ⟨i', h1, h2⟩ := h.sub i hi
  rw [h2]
  unfold mOf
  have hm : m.getD i' [] ∈ m := by rw [List.getD_eq_getElem?_getD, List.getElem?_eq_getElem h1]; exact List.getElem_mem h1
  have hl := hx.row _ hm
  refine hx.bd _ hm _ ?_
  generalize m.getD i' [] = r at hl ⊢
  have hjr : j < r.length := by omega
  have e : r.getD j 0 = r[j] := by simp [hjr]
  rw [e]; exact List.getElem_mem hjr

theorem bdS {c : Nat} {m : List (List Int)} (hx : MxS c m) : Bd (mOf m) m.length c := by
  intro q M' C k sgn hq h i hi j hj
  have hent := red_entryS hx h
  have hm5 := hx.m5
  have hkn := h.done.kn
  have hCc : ∀ b, b < k + 1 → C b < c := fun b hb => Nat.lt_of_lt_of_le (h.done.rise.2 b hb) hq
  have h34 : fb 20 4 * (fb 20 5 + fb 20 6) ≤ 9223372036854775807 := by decide
  have h1 := rr_bd (B := 20) (n := m.length) (c := c) (k := k + 1) (i := i) (j := j) (M := M') (C := C) (by decide) hent hkn hCc hi hj
  have h2 := dk_bd (B := 20) (k := k) (M := M') (C := C) (fun i hi b hb => hent i (by omega) _ (hCc b (by omega)))
  have m1 : fb 20 (k + 1) ≤ fb 20 5 := fb_mono (by decide) (by omega)
  have m2 : fb 20 (k + 1 + 1) ≤ fb 20 6 := fb_mono (by decide) (by omega)
  have m3 : fb 20 k ≤ fb 20 4 := fb_mono (by decide) (by omega)
  have o3 := fb_one 20 (by decide) 4
  have hp : (dk M' C k * rr M' C (k + 1) i j).natAbs ≤ fb 20 4 * (fb 20 5 + fb 20 6) := by
    rw [Int.natAbs_mul]
    exact Nat.mul_le_mul (by omega) (by omega)
  have hq : (rr M' C (k + 1) i j).natAbs ≤ fb 20 4 * (fb 20 5 + fb 20 6) :=
    Nat.le_trans (show (rr M' C (k + 1) i j).natAbs ≤ 1 * (fb 20 5 + fb 20 6) by omega) (Nat.mul_le_mul_right _ o3)
  omega

theorem MxS.krg {c : Nat} {m : List (List Int)} (hx : MxS c m) : KrG c m := ⟨hx.row, Nat.le_trans hx.c6 (by decide), hx.c1, .inl hx.c6, bdS hx, fun h hk => val_of (K := 5) (by decide) (fun h => red_entryS hx h) (.inl hx.c6) (by decide) h hk⟩

set_option maxRecDepth 100000 in
set_option maxHeartbeats 2000000 in
theorem kernelG_own (B c : Nat) (m : List (List Int)) (v : Value) (w : World) (hx : KrG c m) (hv : Mat B 38 3 w v m) (hm : m.length ≤ 500) (hm0 : 1 ≤ m.length) :
    Calls Tryz.prog 82 #[v, .int .i64 c] w fun e w' => ∃ M' C k sgn, Red (mOf m) m.length c M' C k sgn ∧ ∃ u, e = .returned u ∧ Rwo w.heap.size w' u ((freesT k C c).map (kvec M' C c k)) ∧ (∀ l ∈ (freesT k C c).map (kvec M' C c k), l.length = c ∧ ∀ z ∈ l, z.natAbs ≤ 1000000000000) ∧ Below w.heap.size w w' := by
  obtain ⟨i3, hi3, hz30, hz31, hz32⟩ := info_parts Tryz.info38
  obtain ⟨ao, cap, hvv, hlc, hcm⟩ := mat_open hv
  subst hvv
  have hc5 := hx.c20
  have hfew := hx.few
  have hc1 := hx.c1
  have HR : Hid (Calls Tryz.prog 96 #[.slice ao m.length cap, .int .i64 c] w fun e w' => ∃ M' C k sgn, Red (mOf m) m.length c M' C k sgn ∧ ∃ ro rc po pc, e = .returned (.agg #[.slice ro m.length rc, .slice po k pc, .int .i64 (dk M' C k), .int .i64 sgn]) ∧
      Mat w.heap.size 38 3 w' (.slice ro m.length rc) (rowsOf m.length c (rr M' C k)) ∧ Sl w.heap.size 3 w' (.slice po k pc) (ints ((List.range k).map fun b => (C b : Int))) ∧ Below w.heap.size w w') := by
    refine (reduce_any B c m _ w hv hm hm0 hc1 (by omega) hx.row (hx.bdd)).mono ?_
    rintro e w' ⟨M', C, k, sgn, hr, rv, pv, rfl, h1, h2, h3⟩
    obtain ⟨ro, rc, e1, _, _⟩ := mat_open h1
    obtain ⟨po, pc, e2, _, _⟩ := sl_open h2
    simp only [List.length_map, List.length_range, rowsOf] at e1 e2
    subst e1 e2
    exact ⟨M', C, k, sgn, hr, ro, rc, po, pc, rfl, h1, h2, h3⟩
  have HX : Hid (KrG c m) := hx
  clear hv hx
  go_enter Tryz.func82, Tryz.ntmps82
  go_wp2_with fail
  refine (HR.out).mono ?_
  rintro e w2 ⟨M', C, k, sgn, hred, ro, rc, po, pc, rfl, hmat, hpiv, hb⟩
  obtain ⟨_, _, hq1, hq2, hq3⟩ := mat_open hmat
  simp only [Value.slice.injEq, rowsOf, List.length_map, List.length_range] at hq1 hq2
  obtain ⟨rfl, _, rfl⟩ := hq1
  have HRD : Hid (Red (mOf m) m.length c M' C k sgn) := hred
  have hkn := hred.done.kn
  have hkc := rising_le hred.done.rise
  have hrk := red_rank hred
  have HRK : Hid (k = (pickL c m).length) := hrk
  have HVB : Hid (k < c → (dk M' C k).natAbs ≤ 1000000000000 ∧ ∀ i, i < m.length → ∀ j, j < c → (rr M' C k i j).natAbs ≤ 1000000000000) := fun hkc => HX.out.val hred hkc
  obtain ⟨w3, hw3⟩ : ∃ w3, w3 = w2.alloc (.cells #[.slice ro m.length rc, .slice po k pc, .int .i64 (dk M' C k), .int .i64 sgn] 104) := ⟨_, rfl⟩
  have HB3 : Hid (Below w.heap.size w w3) := by rw [hw3]; exact hb.alloc hb.size _
  have HM3 : Hid (Mat w.heap.size 38 3 w3 (.slice ro m.length rc) (rowsOf m.length c (rr M' C k))) := by rw [hw3]; exact hmat.below ((Below.refl _ _).alloc (Nat.le_refl _) _) (Nat.le_refl _)
  have HP3 : Hid (Sl w.heap.size 3 w3 (.slice po k pc) (ints ((List.range k).map fun b => (C b : Int)))) := by rw [hw3]; exact hpiv.alloc _
  have HC3 : Hid (w3.heap[w2.heap.size]? = some (.cells #[.slice ro m.length rc, .slice po k pc, .int .i64 (dk M' C k), .int .i64 sgn] 104 (0, 0))) := by rw [hw3]; exact alloc_at _ _
  have HW3 : Hid (w3 = w2.alloc (.cells #[.slice ro m.length rc, .slice po k pc, .int .i64 (dk M' C k), .int .i64 sgn] 104)) := hw3
  have HS3 : Hid (w2.heap.size < w3.heap.size) := by rw [hw3]; show _ < _; simp
  clear hred hmat hpiv hb hrk hw3
  have hkc' : k ≤ c := hkc
  have c0 : w3.cell? ⟨w2.heap.size, 0, none⟩ = some (.slice ro m.length rc) := by simp [World.cell?, HC3.out]
  have c1 : w3.cell? ⟨w2.heap.size, 1, none⟩ = some (.slice po k pc) := by simp [World.cell?, HC3.out]
  have c2 : w3.cell? ⟨w2.heap.size, 2, none⟩ = some (.int .i64 (dk M' C k)) := by simp [World.cell?, HC3.out]
  have hs3 := HS3.out
  obtain ⟨R, hR⟩ : ∃ R, R = w2.heap.size := ⟨_, rfl⟩
  obtain ⟨val, hval⟩ : ∃ val, val = dk M' C k := ⟨_, rfl⟩
  have HVAL : Hid (val = dk M' C k) := hval
  have hww := HW3.out
  rw [← hval] at c2 hww
  rw [← hR] at c0 c1 c2 hs3
  clear HC3 HS3 HW3
  have hmk := run_make_row' (P := Tryz.prog) 38 3 (.int .i64 0) 8 Tryz.underlying38 Tryz.info3 rfl .i64 .i64 c (by omega) (by omega)
  rw [← hval]
  clear hval
  go_wp2
  rw [← hww, ← hR]
  clear hww hR
  go_loopw [15, 6, 7, 8, 9, 10] (fun i o _ _ _ _ wr => ∃ q : Nat, q ≤ c ∧ i = .int .i64 q ∧ Below w3.heap.size w3 wr ∧ Rwo w3.heap.size wr o ((freesT k C q).map (kvec M' C c k)) ∧ (freesT k C q).length ≤ q ∧ ∀ l ∈ (freesT k C q).map (kvec M' C c k), l.length = c ∧ ∀ z ∈ l, z.natAbs ≤ 1000000000000) (fun i _ _ _ _ _ _ => c - (intOf i).toNat)
  case atStart => exact ⟨0, Nat.zero_le _, rfl, Below.refl _ _, Rwo.nil _ _, by simp [freesT], fun l hl => by simp [freesT] at hl⟩
  case round =>
    obtain ⟨q, hq, rfl, hbel, hrw, hfl, hok⟩ := hrel
    have HBQ : Hid (Below w3.heap.size w3 wr) := hbel
    have HRQ : Hid (Rwo w3.heap.size wr u6 ((freesT k C q).map (kvec M' C c k))) := hrw
    have HOK : Hid (∀ l ∈ (freesT k C q).map (kvec M' C c k), l.length = c ∧ ∀ z ∈ l, z.natAbs ≤ 1000000000000) := hok
    have d0 : wr.cell? ⟨R, 0, none⟩ = some (.slice ro m.length rc) := (hbel.cell hs3).trans c0
    have d1 : wr.cell? ⟨R, 1, none⟩ = some (.slice po k pc) := (hbel.cell hs3).trans c1
    have d2 : wr.cell? ⟨R, 2, none⟩ = some (.int .i64 val) := (hbel.cell hs3).trans c2
    have hRw : R < wr.heap.size := Nat.lt_of_lt_of_le hs3 hbel.size
    clear hbel hrw hok
    by_cases hqc : q < c
    · have hqI : (q : Int) < (c : Int) := by omega
      have HCN : Hid (Calls Tryz.prog 97 #[.slice po k pc, .int .i64 q] wr fun e w' => e = .returned (.bool (((List.range k).map fun b => (C b : Int)).contains (q : Int))) ∧ w' = wr) :=
        containsK_any w.heap.size q _ _ wr (HP3.out.below HBQ.out (Nat.le_refl _))
      cases hcn : ((List.range k).map fun b => (C b : Int)).contains (q : Int) with
      | true =>
        have HF : Hid (freesT k C (q + 1) = freesT k C q) := freesT_in hcn
        rw [hcn] at HCN
        clear hcn
        go_wp2_with fail
        refine HCN.out.mono ?_
        rintro e w4 ⟨rfl, rfl⟩
        go_wp2
        go_roundw
        case rel => exact ⟨q + 1, by omega, by go_num, HBQ.out, by rw [HF.out]; exact HRQ.out, by rw [HF.out]; omega, by rw [HF.out]; exact HOK.out⟩
        case measure => simp [intOf]; omega
      | false =>
        have HF : Hid (freesT k C (q + 1) = freesT k C q ++ [q]) := freesT_out hcn
        have HNP : Hid (∀ b, b < k → C b ≠ q) := fun b hb e => by rw [pivot_has.2 ⟨b, hb, e⟩] at hcn; simp at hcn
        have HK4 : Hid (k < c) := by
          have h1 := freesT_len HRD.out.done.rise
          have h2 : q ∈ freesT k C c := by unfold freesT; rw [List.mem_filter]; exact ⟨by simpa using hqc, by simp only [hcn]; rfl⟩
          have h3 := List.length_pos_of_mem h2
          show _ < _
          omega
        rw [hcn] at HCN
        clear hcn
        have hmc : (madeCells #[.int .i64 0] c)[q]? = some (.int .i64 0) := by
          rw [← Array.getElem?_toList, toList_madeCells_one]; simp [hqc]
        have hne : R ≠ wr.heap.size := by omega
        have hne' : wr.heap.size ≠ R := by omega
        have HG0 : Hid ((wr.alloc (.cells ((madeCells #[.int .i64 0] c).setIfInBounds q (.int .i64 val)) 3)).rowIs wr.heap.size 3 c (fun j => .int .i64 (nv val q (fun a => rr M' C k a q) C 0 j)) ∧ Below wr.heap.size wr (wr.alloc (.cells ((madeCells #[.int .i64 0] c).setIfInBounds q (.int .i64 val)) 3))) := by
          have e : (wr.alloc (.cells (madeCells #[.int .i64 0] c) 3)).setCell ⟨wr.heap.size, q, none⟩ (.int .i64 val) = wr.alloc (.cells ((madeCells #[.int .i64 0] c).setIfInBounds q (.int .i64 val)) 3) := by simp [go_sem]
          refine ⟨?_, (Below.refl _ _).alloc (Nat.le_refl _) _⟩
          rw [← e]
          exact ((World.rowIs_made wr (.int .i64 0) c 3).set q (.int .i64 val)).congr fun j hj => by unfold nv; by_cases e : j = q <;> simp [e]
        obtain ⟨w4, hw4⟩ : ∃ w4, w4 = wr := ⟨_, rfl⟩
        rw [← hw4] at d0 d1 d2 hRw hne hne' HG0 HCN ⊢
        have HBQ4 : Hid (Below w3.heap.size w3 w4) := by rw [hw4]; exact HBQ.out
        have HRQ4 : Hid (Rwo w3.heap.size w4 u6 ((freesT k C q).map (kvec M' C c k))) := by rw [hw4]; exact HRQ.out
        clear HBQ HRQ hw4
        go_wp2_with fail
        refine HCN.out.mono ?_
        rintro e w5 ⟨rfl, rfl⟩
        clear HCN
        go_wp2
        go_loopw [32, 9, 10] (fun i _ _ wr => ∃ t : Nat, t ≤ k ∧ i = .int .i64 t ∧ Below w5.heap.size w5 wr ∧ wr.rowIs w5.heap.size 3 c (fun j => .int .i64 (nv val q (fun a => rr M' C k a q) C t j))) (fun i _ _ _ => k - (intOf i).toNat)
        case atStart => exact ⟨0, Nat.zero_le _, rfl, HG0.out.2, HG0.out.1⟩
        case round =>
          obtain ⟨t, ht, rfl, hbel, hrow⟩ := hrel
          have HB : Hid (Below w5.heap.size w5 wr) := hbel
          have HRW : Hid (wr.rowIs w5.heap.size 3 c (fun j => .int .i64 (nv val q (fun a => rr M' C k a q) C t j))) := hrow
          have e0 : wr.cell? ⟨R, 0, none⟩ = some (.slice ro m.length rc) := (hbel.cell hRw).trans d0
          by_cases htk : t < k
          · obtain ⟨pb, po2, pcp, hs, hp1, hpc⟩ := sl_cell ((HP3.out.below HBQ4.out (Nat.le_refl _)).below hbel (Nat.le_refl _)) (k := t) (by simpa using htk)
            simp only [Value.slice.injEq, List.length_map, List.length_range] at hs
            obtain ⟨rfl, _, rfl⟩ := hs
            have hg : ((List.range k).map fun b => (C b : Int)).getD t 0 = (C t : Int) := by simp [htk]
            rw [hg] at hpc
            have hCt : C t < c := HRD.out.done.rise.2 t htk
            obtain ⟨rb, ro2, rcp, u, hs2, _, hrc, hru⟩ := mat_cell ((HM3.out.below HBQ4.out (Nat.le_refl _)).below hbel (Nat.le_refl _)) (k := t) (by simp [rowsOf]; omega)
            simp only [Value.slice.injEq, rowsOf, List.length_map, List.length_range, true_and] at hs2
            obtain ⟨rfl, rfl⟩ := hs2
            rw [rows_at (by omega)] at hru
            obtain ⟨xb, xo, xcp, hs3', hxl, hxc⟩ := sl_cell hru (k := q) (by simpa using hqc)
            have hg2 : ((List.range c).map (rr M' C k t)).getD q 0 = rr M' C k t q := by simp [hqc]
            rw [hg2] at hxc
            simp only [List.length_map, List.length_range] at hs3' hxl
            subst hs3'
            have hcl := hrow.cell (i := C t) hCt
            have hfz := hrow.frozen (C t)
            have HBX := (HVB.out HK4.out).2 t (by omega) q hqc
            obtain ⟨ct, hct⟩ : ∃ ct, ct = C t := ⟨_, rfl⟩
            obtain ⟨x, hxx⟩ : ∃ x, x = rr M' C k t q := ⟨_, rfl⟩
            have HCT : Hid (ct = C t) := hct
            have HXX : Hid (x = rr M' C k t q) := hxx
            rw [← hct] at hpc hCt hcl hfz
            rw [← hxx] at hxc HBX
            generalize nv val q (fun a => rr M' C k a q) C t ct = old at hcl
            clear hg hg2 hct hxx hrow hbel hru
            go_wp2
            go_roundw
            case rel =>
              refine ⟨t + 1, by omega, by go_num, HB.out.setCell (by exact Nat.le_refl _) _, ?_⟩
              refine (HRW.out.set ct _).congr fun j _ => ?_
              show _ = Value.int .i64 (if j = C t then - rr M' C k t q else nv val q (fun a => rr M' C k a q) C t j)
              rw [← HCT.out, ← HXX.out]
              by_cases e : j = ct <;> simp [e]
            case measure => simp [intOf]; omega
          · have htk' : t = k := by omega
            subst htk'
            have HB1 : Hid (∀ z ∈ (List.range c).map (nv val q (fun a => rr M' C t a q) C t), z.natAbs ≤ 1000000000000) := by
              intro z hz
              rw [List.mem_map] at hz
              obtain ⟨j, _, rfl⟩ := hz
              have hv := HVB.out HK4.out
              exact nv_bd (by rw [HVAL.out]; exact hv.1) fun a ha => hv.2 a (by omega) q hqc
            obtain ⟨L, hLL⟩ : ∃ L, L = (List.range c).map (nv val q (fun a => rr M' C t a q) C t) := ⟨_, rfl⟩
            have HLN : Hid (L.length = c) := by show _ = _; rw [hLL]; simp
            have HKV : Hid (kvec M' C c t q = low L) := by show _ = _; rw [hLL, HVAL.out]; rfl
            have HSL : Hid (∀ B, Sl B 3 wr (.slice (some ⟨w5.heap.size, 0, none⟩) c c) (ints L)) := by
              intro B
              refine Sl.row HRW.out (by simp [HLN.out]) (by unfold maxLen; omega) fun i hi => ?_
              rw [ints_get _ _ (by rw [HLN.out]; exact hi), hLL]; simp [hi]
            rw [← hLL] at HB1
            have HB4 : Hid (Below w3.heap.size w3 wr) := HBQ4.out.trans (HB.out.mono HBQ4.out.size)
            have HR4 : Hid (Rwo w3.heap.size wr u6 ((freesT t C q).map (kvec M' C c t))) := HRQ4.out.below HB.out (Nat.le_refl _)
            have HLL : Hid ((low L).length = c ∧ ∀ z ∈ low L, z.natAbs ≤ 1000000000000) := ⟨by simp [low, HLN.out], low_bd HB1.out⟩
            clear hrow hbel hLL HRW HBQ4 HRQ4 d0 d1 d2 e0
            go_wp2_with fail
            refine (primitive_own w.heap.size L _ wr (HSL.out _) (by rw [HLN.out]; omega) (fun z hz => Nat.le_trans (HB1.out z hz) (by decide))).mono ?_
            rintro e w6 ⟨u, rfl, hs6, hb6⟩
            obtain ⟨uo, uc, hu⟩ := owns_form hs6
            rw [HLN.out] at hu
            subst hu
            have HS6 : Hid (w6.ownsRow w3.heap.size 3 1 (.slice uo c uc) (low L).length (ints (low L))) := by rw [HLL.out.1]; rw [HLN.out] at hs6; exact owns_lowK hs6 HB4.out.size
            have HB6 : Hid (Below w3.heap.size w3 w6) := HB4.out.trans (hb6.mono HB4.out.size)
            obtain ⟨vs, g1, g2, g3⟩ := HR4.out.below hb6 (Nat.le_refl _)
            have hl0 : ((freesT t C q).map (kvec M' C c t)).length = (freesT t C q).length := by simp
            have HML : Hid (((freesT t C q).map (kvec M' C c t)).length = (freesT t C q).length) := hl0
            rw [hl0] at g1 g2 g3
            obtain ⟨fl, hfl2⟩ : ∃ fl, fl = (freesT t C q).length := ⟨_, rfl⟩
            rw [← hfl2] at g1 g2 g3 HML hfl
            have G1 : Hid (vs.length = fl) := g1
            have G2 : Hid (w6.ownsRow w3.heap.size 38 1 u6 fl vs) := g2
            have G3 : Hid (∀ i, i < fl → w6.ownsRow w3.heap.size 3 1 (vs.getD i (.slice none 0 0)) (((freesT t C q).map (kvec M' C c t)).getD i []).length (ints (((freesT t C q).map (kvec M' C c t)).getD i []))) := g3
            have HFL : Hid (fl = (freesT t C q).length) := hfl2
            have hsz6 : w3.heap.size ≤ w6.heap.size := HB6.out.size
            clear hs6 hb6 g1 g2 g3 hl0 hfl2
            go_wp2_with (first | (at_builtin; refine wpList_append_own _ rfl _ _ 22 rfl w3.heap.size 38 i3 (.slice none 0 0) 1 24 Tryz.underlying22 hi3 hz30 hz31 hz32 rfl (by decide) _ _ _ rfl (G2.out.alloc _) ⟨w6.heap.size, 0, none⟩ 1 1 [.slice uo c uc] rfl rfl (one_new _ _ _) (one_slice _ _ _) ?d3 ?d4 ?d5 ?_))
            case d3 => unfold maxLen; omega
            case d4 => omega
            case d5 => simp; omega
            intro v' w7 ho hg _
            have R1 : Hid (Rwo w3.heap.size w7 v' ((freesT t C (q + 1)).map (kvec M' C c t))) := by
              have hp := Rwo.push (m := (freesT t C q).map (kvec M' C c t)) (u := .slice uo c uc) (zs := low L) (by rw [HML.out]; exact G1.out) (by rw [HML.out]; exact G2.out.alloc _)
                (fun i hi => (G3.out i (by rw [HML.out] at hi; exact hi)).alloc _) (HS6.out.alloc _) (by rw [HML.out]; exact ho) hg
              show Rwo _ _ _ _
              rw [HF.out, List.map_append, List.map_cons, List.map_nil, HKV.out]
              exact hp
            have R2 : Hid (Below w3.heap.size w3 w7) := (HB6.out.alloc hsz6 _).grown hg (by simp; omega) (fun x hx => (G2.out.lt x hx).1)
            clear ho hg
            go_wp2
            go_roundw
            case rel =>
              refine ⟨q + 1, by omega, by go_num, R2.out, R1.out, by rw [HF.out]; simp; have := HFL.out; omega, ?_⟩
              rw [HF.out, List.map_append, List.map_cons, List.map_nil, HKV.out]
              intro l hl
              rcases List.mem_append.1 hl with h | h
              · exact HOK.out l h
              · rw [List.mem_singleton] at h; subst h; exact HLL.out
            case measure => simp [intOf]; omega
    · have hqc' : q = c := by omega
      subst hqc'
      go_wp2
      go_ret
      refine ⟨M', C, k, sgn, HRD.out, _, rfl, ?_, HOK.out, HB3.out.trans (HBQ.out.mono HB3.out.size)⟩
      exact HRQ.out.low HB3.out.size

set_option maxRecDepth 100000 in
set_option maxHeartbeats 2000000 in
theorem normalG_own (B c : Nat) (m : List (List Int)) (v : Value) (w : World) (hx : KrG c m) (hv : Mat B 38 3 w v m) (hm : m.length ≤ 500) (hm0 : 1 ≤ m.length) :
    Calls Tryz.prog 67 #[v, .int .i64 c] w fun e w' => ∃ x, e = .returned (.tuple #[x, .bool (normB c m)]) ∧ w'.ownsRow w.heap.size 3 1 x (normL c m).length (ints (normL c m)) ∧ Below w.heap.size w w' := by
  obtain ⟨ao, cap, hvv, hlc, hcm⟩ := mat_open hv
  subst hvv
  have hc5 := hx.c20
  have hfew := hx.few
  have hc1 := hx.c1
  have HR : Hid (Calls Tryz.prog 82 #[.slice ao m.length cap, .int .i64 c] w fun e w' => ∃ (n : Nat) (ls : List (List Int)) (uo : Option Addr) (uc : Nat), e = .returned (.slice uo n uc) ∧ ls.length = n ∧ n ≤ uc ∧ n ≤ 20 ∧ Rwo w.heap.size w' (.slice uo n uc) ls ∧ (∀ l ∈ ls, l.length = c ∧ ∀ z ∈ l, z.natAbs ≤ 1000000000000) ∧ normB c m = (n == 1) ∧ (n = 1 → upr (ls.getD 0 []) = normL c m) ∧ (n ≠ 1 → normL c m = []) ∧ Below w.heap.size w w') := by
    refine (kernelG_own B c m _ w hx hv hm hm0).mono ?_
    rintro e w' ⟨M', C, k, sgn, hr, u, rfl, h1, h2, h3⟩
    obtain ⟨vs, g1, g2, g3⟩ := h1
    have hmt : Mat 0 38 3 w' u ((freesT k C c).map (kvec M' C c k)) := ⟨vs, g1, Sl.own g2, fun i hi => Sl.own (g3 i hi)⟩
    obtain ⟨uo, uc, hu, q1, q2⟩ := mat_open hmt
    have hl := freesT_len hr.done.rise
    have hk := red_rank hr
    have hlm : ((freesT k C c).map (kvec M' C c k)).length = (freesT k C c).length := by simp
    rw [hlm] at hu q1
    subst hu
    refine ⟨_, _, uo, uc, rfl, hlm, q1, by omega, ⟨vs, g1, g2, g3⟩, h2, ?_, fun h => ?_, fun h => ?_, h3⟩
    · show decide _ = _
      by_cases h : (pickL c m).length + 1 = c
      · rw [decide_eq_true h]; symm; rw [beq_iff_eq]; omega
      · rw [decide_eq_false h]; symm; rw [beq_eq_false_iff_ne]; omega
    · obtain ⟨l, e1, e2⟩ := kernel_one hr (by omega)
      rw [e1]; exact e2
    · exact if_neg (by omega)
  clear hv hx
  go_enter Tryz.func67, Tryz.ntmps67
  go_wp2_with fail
  refine (HR.out).mono ?_
  rintro e w2 ⟨n, ls, uo, uc, rfl, hln, hnu, hn5, hmat, hok, hnb, hn1, hn0, hb⟩
  have HB : Hid (Below w.heap.size w w2) := hb
  have HNB : Hid (normB c m = (n == 1)) := hnb
  by_cases h1 : n = 1
  · subst h1
    obtain ⟨vs, g1, g2, g3⟩ := hmat
    have hsl := g3 0 (by omega)
    rw [hln] at g2
    obtain ⟨b, hb0⟩ : ∃ b, uo = some ⟨b, 0, none⟩ := by
      rcases g2.2 with ⟨_, h0⟩ | ⟨b, cap', cur', h1, _⟩
      · omega
      · simp only [Value.slice.injEq] at h1; exact ⟨b, h1.1⟩
    subst hb0
    have hcc : w2.cell? ⟨b, 0, none⟩ = some (vs.getD 0 (.slice none 0 0)) := by
      have h0 := g2.cellAt 0 (by omega)
      rw [h0, List.getD_eq_getElem?_getD, List.getElem?_eq_getElem (by omega)]; rfl
    generalize vs.getD 0 (.slice none 0 0) = uv at hsl hcc
    have hl0 := hok (ls.getD 0 []) (by rw [List.getD_eq_getElem?_getD, List.getElem?_eq_getElem (by omega)]; exact List.getElem_mem _)
    obtain ⟨yo, yc, hy⟩ := owns_form hsl
    rw [hl0.1] at hy
    subst hy
    have HUP : Hid (Calls Tryz.prog 83 #[.slice yo c yc] w2 fun e w' => ∃ u, e = .returned u ∧ w'.ownsRow w.heap.size 3 1 u (normL c m).length (ints (normL c m)) ∧ Below w2.heap.size w2 w') := by
      refine (upright_own w.heap.size (ls.getD 0 []) _ w2 hsl hb.size (by omega) (fun z hz => Nat.le_trans (hl0.2 z hz) (by decide))).mono ?_
      rintro e w3 ⟨u, rfl, a1, a2⟩
      exact ⟨u, rfl, by rw [← hn1 rfl, upr_len]; exact a1, a2⟩
    clear hok hnb hn1 hn0 hb hsl hl0 hln g1 g2 g3
    go_wp2_with fail
    refine HUP.out.mono ?_
    rintro e w3 ⟨u, rfl, hs3, hb3⟩
    have HS3 : Hid (w3.ownsRow w.heap.size 3 1 u (normL c m).length (ints (normL c m))) := hs3
    have HB3 : Hid (Below w.heap.size w w3) := HB.out.trans (hb3.mono HB.out.size)
    clear hs3 hb3
    go_wp2
    go_ret2
    exact ⟨_, by rw [HNB.out]; rfl, HS3.out, HB3.out⟩
  · have htest : ((n : Int) != 1) = true := by rw [bne_iff_ne]; omega
    have HN0 : Hid (normL c m = []) := hn0 h1
    have HNF : Hid (normB c m = false) := by show _ = _; rw [hnb, beq_eq_false_iff_ne]; exact h1
    clear hmat hok hnb hn1 hn0 hb hln
    go_wp2
    go_ret2
    exact ⟨_, by rw [HNF.out]; rfl, by rw [HN0.out]; exact World.ownsRow_nil _ _ _ _, HB.out⟩

theorem normalP_own (B c : Nat) (m : List (List Int)) (v : Value) (w : World) (hx : Mx c 60 m) (hv : Mat B 38 3 w v m) (hm : m.length ≤ 500) (hm0 : 1 ≤ m.length) :
    Calls Tryz.prog 67 #[v, .int .i64 c] w fun e w' => ∃ x, e = .returned (.tuple #[x, .bool (normB c m)]) ∧ w'.ownsRow w.heap.size 3 1 x (normL c m).length (ints (normL c m)) ∧ Below w.heap.size w w' :=
  normalG_own B c m v w (KrG.of hx) hv hm hm0

end Go.Proofs.YtknomkajibfmlaaGreat
