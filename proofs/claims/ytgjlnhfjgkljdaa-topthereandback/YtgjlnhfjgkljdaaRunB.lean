import Derived.Test.YtgjlnhfjgkljdaaLinB
/- The program's rank and determinant. -/
namespace Go.Proofs.Ytgjlnhfjgkljdaa
open Go.RowKit Lin
attribute [local go_sem ↓] Go.wp_at_zero Go.wp_at_succ

theorem bd60 {c : Nat} {m : List (List Int)} (hx : Mx c 60 m) : Bd (mOf m) m.length c := bd_of hx (by decide) had60

theorem field1 (a b c d : Value) (w : World) : (Instr.field 70 (.agg #[a, b, c, d]) 1).run Try.prog w = .ok b w := by kernel_rfl

set_option maxRecDepth 100000 in
set_option maxHeartbeats 800000 in
theorem rankP_any (B c : Nat) (m : List (List Int)) (v : Value) (w : World) (hx : Mx c 60 m) (hv : Mat B 22 3 w v m) (hm : m.length ≤ 500) (hm0 : 1 ≤ m.length) :
    Calls Try.prog 27 #[v, .int .i64 c] w fun e w' => e = .returned (.int .i64 ((pickL c m).length : Nat)) ∧ Below w.heap.size w w' := by
  obtain ⟨ao, cap, hvv, hlc, hcm⟩ := mat_open hv
  subst hvv
  have hc5 := hx.c5
  have hc1 := hx.c1
  have HR : Hid (Calls Try.prog 47 #[.slice ao m.length cap, .int .i64 c] w fun e w' => ∃ ro rc po pc val sgn, e = .returned (.agg #[.slice ro m.length rc, .slice po (pickL c m).length pc, .int .i64 val, .int .i64 sgn]) ∧ Below w.heap.size w w') := by
    refine (reduce_any B c m _ w hv hm hm0 hc1 (by omega) hx.row (bd60 hx)).mono ?_
    rintro e w' ⟨M', C, k, sgn, hr, rv, pv, rfl, h1, h2, h3⟩
    obtain ⟨ro, rc, e1, _, _⟩ := mat_open h1
    obtain ⟨po, pc, e2, _, _⟩ := sl_open h2
    have hk := red_rank hr
    simp only [List.length_map, List.length_range, rowsOf] at e1 e2
    rw [hk] at e2
    exact ⟨ro, rc, po, pc, _, _, by rw [e1, e2], h3⟩
  clear hv
  go_enter Try.func27, Try.ntmps27
  go_wp2_with fail
  refine (HR.out).mono ?_
  rintro e w2 ⟨ro, rc, po, pc, val, sgn, rfl, hb⟩
  have HB : Hid (Below w.heap.size w w2) := hb
  clear hb
  have hfl := field1 (.slice ro m.length rc) (.slice po (pickL c m).length pc) (.int .i64 val) (.int .i64 sgn) w2
  go_wp2
  go_ret
  exact ⟨rfl, HB.out⟩

end Go.Proofs.Ytgjlnhfjgkljdaa

/- The program's column without a pivot. -/
namespace Go.Proofs.Ytgjlnhfjgkljdaa
open Go.RowKit Lin
attribute [local go_sem ↓] Go.wp_at_zero Go.wp_at_succ

set_option maxRecDepth 100000 in
set_option maxHeartbeats 800000 in
theorem free_col (R k pc : Nat) (po : Option Addr) (a0 a2 a3 : Value) (C : Nat → Nat) (B : Nat) (w : World) (hk : k ≤ 500) (hC : ∀ b, b < k → C b < 1000) (hR : w.heap[R]? = some (.cells #[a0, .slice po k pc, a2, a3] 70 (0, 0))) (hv : Sl B 3 w (.slice po k pc) (ints ((List.range k).map fun b => (C b : Int)))) :
    Calls Try.prog 68 #[.pointer (some ⟨R, 0, none⟩)] w fun e w' => ∃ f : Nat, e = .returned (.int .i64 f) ∧ f ≤ k ∧ (∀ b, b < f → C b = b) ∧ (f < k → C f ≠ f) ∧ w' = w := by
  have h1 : w.cell? ⟨R, 1, none⟩ = some (.slice po k pc) := by simp [World.cell?, hR]
  have HV : Hid (Sl B 3 w (.slice po k pc) (ints ((List.range k).map fun b => (C b : Int)))) := hv
  have HC : Hid (∀ b, b < k → C b < 1000) := hC
  clear hv hC hR
  go_enter Try.func68, Try.ntmps68
  go_wp2
  go_loopw [3] (fun i wr => ∃ f : Nat, i = .int .i64 f ∧ wr = w ∧ f ≤ k ∧ ∀ b, b < f → C b = b) (fun i _ => k - (intOf i).toNat)
  case atStart => exact ⟨0, rfl, rfl, Nat.zero_le _, fun b hb => absurd hb (by omega)⟩
  case round =>
    obtain ⟨f, rfl, rfl, hf, hall⟩ := hrel
    have HALL : Hid (∀ b, b < f → C b = b) := hall
    clear hall
    by_cases hfk : f < k
    · obtain ⟨b, o, cp, hs, hc1, hcc⟩ := sl_cell HV.out (k := f) (by simpa using hfk)
      simp only [Value.slice.injEq, List.length_map, List.length_range] at hs
      obtain ⟨rfl, _, rfl⟩ := hs
      have hg : ((List.range k).map fun b => (C b : Int)).getD f 0 = (C f : Int) := by simp [hfk]
      rw [hg] at hcc
      have hfI : (f : Int) < (k : Int) := by omega
      have hcf := HC.out f hfk
      obtain ⟨cf, hcf2⟩ : ∃ cf, cf = C f := ⟨_, rfl⟩
      have HCF : Hid (cf = C f) := hcf2
      rw [← hcf2] at hcc hcf
      clear hcf2 hg
      by_cases he : cf = f
      · have HE : Hid (cf = f) := he
        have heb : ((cf : Int) == (f : Int)) = true := by rw [beq_iff_eq]; omega
        clear he
        go_wp2
        go_roundw
        case rel =>
          refine ⟨f + 1, by go_num, trivial, by omega, fun b hb => ?_⟩
          by_cases e : b = f
          · subst e; rw [← HCF.out]; exact HE.out
          · exact HALL.out b (by omega)
        case measure => simp [intOf]; omega
      · have HE : Hid (cf ≠ f) := he
        have heb : ((cf : Int) == (f : Int)) = false := by rw [beq_eq_false_iff_ne]; omega
        clear he
        go_wp2
        go_ret
        exact ⟨f, rfl, hf, HALL.out, fun _ => by rw [← HCF.out]; exact HE.out, rfl⟩
    · have hfI : ¬ (f : Int) < (k : Int) := by omega
      go_wp2
      go_ret
      exact ⟨f, rfl, hf, HALL.out, fun h => absurd h hfk, rfl⟩

end Go.Proofs.Ytgjlnhfjgkljdaa

/- The program's normal. -/
namespace Go.Proofs.Ytgjlnhfjgkljdaa
open Go.RowKit Lin
attribute [local go_sem ↓] Go.wp_at_zero Go.wp_at_succ

/-- The list while it is filled: the place of the free column, then those of the first t pivots. -/
def nv (val : Int) (f : Nat) (D : Nat → Int) (C : Nat → Nat) : Nat → Nat → Int
  | 0 => fun j => if j = f then val else 0
  | t + 1 => fun j => if j = C t then - D t else nv val f D C t j

theorem nv_off {val : Int} {f : Nat} {D : Nat → Int} {C : Nat → Nat} {j : Nat} : ∀ {t}, (∀ a, a < t → C a ≠ j) → nv val f D C t j = if j = f then val else 0
  | 0, _ => rfl
  | t + 1, h => by
    unfold nv
    rw [if_neg (fun e => h t (by omega) e.symm)]
    exact nv_off fun a ha => h a (by omega)

theorem nv_at {val : Int} {f : Nat} {D : Nat → Int} {C : Nat → Nat} : ∀ {t a}, a < t → (∀ a b, a < b → b < t → C a < C b) → nv val f D C t (C a) = - D a
  | t + 1, a, ha, h => by
    unfold nv
    by_cases e : a = t
    · subst e; rw [if_pos rfl]
    · have := h a t (by omega) (by omega)
      rw [if_neg (by omega)]
      exact nv_at (by omega) fun a b h1 h2 => h a b h1 (by omega)

theorem nv_bd {val : Int} {f : Nat} {D : Nat → Int} {C : Nat → Nat} {b : Nat} : ∀ {t j}, val.natAbs ≤ b → (∀ a, a < t → (D a).natAbs ≤ b) → (nv val f D C t j).natAbs ≤ b
  | 0, j, h, _ => by unfold nv; split; exact h; simp
  | t + 1, j, h, hd => by
    unfold nv
    split
    · have := hd t (by omega); omega
    · exact nv_bd h fun a ha => hd a (by omega)

/-- All columns but one are pivots': the free one is told. -/
theorem nu_of {M' : Nat → Nat → Int} {c k f : Nat} {C : Nat → Nat} (hr : Rising k c C) (hk : k + 1 = c) (hf : f ≤ k) (h1 : ∀ b, b < f → C b = b) (h2 : f < k → C f ≠ f) : Nu M' c k C f (nv (dk M' C k) f (fun a => rr M' C k a f) C k) := by
  have hge : ∀ i, i < k → i ≤ C i := by
    intro i
    induction i with
    | zero => intro _; omega
    | succ i ih =>
      intro hi
      have := ih (by omega)
      have := hr.1 i (i + 1) (by omega) hi
      omega
  have hgt : ∀ d, f + d < k → f + d + 1 ≤ C (f + d) := by
    intro d
    induction d with
    | zero => intro h; have := hge f (by omega); have := h2 (by omega); simp at *; omega
    | succ d ih =>
      intro h
      have := ih (by omega)
      have := hr.1 (f + d) (f + (d + 1)) (by omega) h
      omega
  have hle : ∀ d, d < k → C (k - 1 - d) + d + 1 ≤ k + 0 + 1 := by
    intro d
    induction d with
    | zero => intro h; have := hr.2 (k - 1) (by omega); simp; omega
    | succ d ih =>
      intro h
      have := ih (by omega)
      have := hr.1 (k - 1 - (d + 1)) (k - 1 - d) (by omega) (by omega)
      omega
  have heq : ∀ i, f ≤ i → i < k → C i = i + 1 := by
    intro i a b
    have e1 := hgt (i - f) (by omega)
    have e2 := hle (k - 1 - i) (by omega)
    rw [show f + (i - f) = i by omega] at e1
    rw [show k - 1 - (k - 1 - i) = i by omega] at e2
    omega
  have hoff : ∀ a, a < k → C a ≠ f := by
    intro a ha
    by_cases h : a < f
    · rw [h1 a h]; omega
    · rw [heq a (by omega) ha]; omega
  refine ⟨by omega, hoff, fun j hj => ?_, ?_, fun a ha => nv_at ha hr.1⟩
  · by_cases e : j = f
    · exact Or.inl e
    · refine Or.inr ?_
      by_cases h : j < f
      · exact ⟨j, by omega, h1 j h⟩
      · exact ⟨j - 1, by omega, by rw [heq (j - 1) (by omega) (by omega)]; omega⟩
  · rw [nv_off hoff, if_pos rfl]

theorem rows_at {n c : Nat} {mat : Nat → Nat → Int} {i : Nat} (h : i < n) : (rowsOf n c mat).getD i [] = (List.range c).map (mat i) := by simp [rowsOf, h]

set_option maxRecDepth 100000 in
set_option maxHeartbeats 2000000 in
theorem normalP_any (B c : Nat) (m : List (List Int)) (v : Value) (w : World) (hx : Mx c 60 m) (hv : Mat B 22 3 w v m) (hm : m.length ≤ 500) (hm0 : 1 ≤ m.length) :
    Calls Try.prog 50 #[v, .int .i64 c] w fun e w' => ∃ x, e = .returned (.tuple #[x, .bool (normB c m)]) ∧ Sl w.heap.size 3 w' x (ints (normL c m)) ∧ Below w.heap.size w w' := by
  obtain ⟨ao, cap, hvv, hlc, hcm⟩ := mat_open hv
  subst hvv
  have hc5 := hx.c5
  have hc1 := hx.c1
  have HR : Hid (Calls Try.prog 47 #[.slice ao m.length cap, .int .i64 c] w fun e w' => ∃ M' C k sgn, Red (mOf m) m.length c M' C k sgn ∧ ∃ ro rc po pc, e = .returned (.agg #[.slice ro m.length rc, .slice po k pc, .int .i64 (dk M' C k), .int .i64 sgn]) ∧
      Mat w.heap.size 22 3 w' (.slice ro m.length rc) (rowsOf m.length c (rr M' C k)) ∧ Sl w.heap.size 3 w' (.slice po k pc) (ints ((List.range k).map fun b => (C b : Int))) ∧ Below w.heap.size w w') := by
    refine (reduce_any B c m _ w hv hm hm0 hc1 (by omega) hx.row (bd60 hx)).mono ?_
    rintro e w' ⟨M', C, k, sgn, hr, rv, pv, rfl, h1, h2, h3⟩
    obtain ⟨ro, rc, e1, _, _⟩ := mat_open h1
    obtain ⟨po, pc, e2, _, _⟩ := sl_open h2
    simp only [List.length_map, List.length_range, rowsOf] at e1 e2
    subst e1 e2
    exact ⟨M', C, k, sgn, hr, ro, rc, po, pc, rfl, h1, h2, h3⟩
  have HX : Hid (Mx c 60 m) := hx
  clear hv hx
  go_enter Try.func50, Try.ntmps50
  go_wp2_with fail
  refine (HR.out).mono ?_
  rintro e w2 ⟨M', C, k, sgn, hred, ro, rc, po, pc, rfl, hmat, hpiv, hb⟩
  obtain ⟨_, _, hq1, hq2, hq3⟩ := mat_open hmat
  simp only [Value.slice.injEq, rowsOf, List.length_map, List.length_range] at hq1 hq2
  obtain ⟨rfl, _, rfl⟩ := hq1
  have HRD : Hid (Red (mOf m) m.length c M' C k sgn) := hred
  have hkn := hred.done.kn
  have hkc := rising_le hred.done.rise
  have hrk := red_rank hred
  have HRK : Hid (k = (pickL c m).length) := hrk
  have HVB : Hid (k ≤ 4 → (dk M' C k).natAbs ≤ 1000000000000 ∧ ∀ i, i < m.length → ∀ j, j < c → (rr M' C k i j).natAbs ≤ 1000000000000) := by
    intro hk4
    have h5 : fb 60 5 = 93312000000 := by decide
    have h4 : fb 60 4 = 311040000 := by decide
    have m1 : fb 60 k ≤ fb 60 4 := fb_mono (by decide) hk4
    have m2 : fb 60 (k + 1) ≤ fb 60 5 := fb_mono (by decide) (by omega)
    have hb := dk_bd (B := 60) (k := k) (M := M') (C := C) (fun i hi b hb => red_entry HX.out hred i (by omega) _ (hred.done.rise.2 b hb))
    refine ⟨by omega, fun i hi j hj => ?_⟩
    have := rr_bd (B := 60) (n := m.length) (c := c) (k := k) (i := i) (j := j) (M := M') (C := C) (by decide) (red_entry HX.out hred) hkn hred.done.rise.2 hi hj
    omega
  obtain ⟨w3, hw3⟩ : ∃ w3, w3 = w2.alloc (.cells #[.slice ro m.length rc, .slice po k pc, .int .i64 (dk M' C k), .int .i64 sgn] 70) := ⟨_, rfl⟩
  have HB3 : Hid (Below w.heap.size w w3) := by rw [hw3]; exact hb.alloc hb.size _
  have HM3 : Hid (Mat w.heap.size 22 3 w3 (.slice ro m.length rc) (rowsOf m.length c (rr M' C k))) := by rw [hw3]; exact hmat.below ((Below.refl _ _).alloc (Nat.le_refl _) _) (Nat.le_refl _)
  have HP3 : Hid (Sl w.heap.size 3 w3 (.slice po k pc) (ints ((List.range k).map fun b => (C b : Int)))) := by rw [hw3]; exact hpiv.alloc _
  have HC3 : Hid (w3.heap[w2.heap.size]? = some (.cells #[.slice ro m.length rc, .slice po k pc, .int .i64 (dk M' C k), .int .i64 sgn] 70 (0, 0))) := by rw [hw3]; exact alloc_at _ _
  have HW3 : Hid (w3 = w2.alloc (.cells #[.slice ro m.length rc, .slice po k pc, .int .i64 (dk M' C k), .int .i64 sgn] 70)) := hw3
  have HS3 : Hid (w2.heap.size < w3.heap.size) := by rw [hw3]; show _ < _; simp
  clear hred hmat hpiv hb hrk hw3
  by_cases hkc1 : k + 1 = c
  · have htest : ((k : Int) != (c : Int) - 1) = false := by rw [bne_eq_false_iff_eq]; omega
    go_wp2_with fail
    rw [← HW3.out]
    refine (free_col w2.heap.size k pc po _ _ _ C w.heap.size w3 (by omega) (fun b hb => by have := HRD.out.done.rise.2 b hb; omega) HC3.out HP3.out).mono ?_
    rintro e w4 ⟨f, rfl, hfk, hf1, hf2, hw4⟩
    subst hw4
    have HF1 : Hid (∀ b, b < f → C b = b) := hf1
    have HF2 : Hid (f < k → C f ≠ f) := hf2
    clear hf1 hf2 HW3
    have c0 : w4.cell? ⟨w2.heap.size, 0, none⟩ = some (.slice ro m.length rc) := by simp [World.cell?, HC3.out]
    have c1 : w4.cell? ⟨w2.heap.size, 1, none⟩ = some (.slice po k pc) := by simp [World.cell?, HC3.out]
    have c2 : w4.cell? ⟨w2.heap.size, 2, none⟩ = some (.int .i64 (dk M' C k)) := by simp [World.cell?, HC3.out]
    have hs3 := HS3.out
    obtain ⟨R, hR⟩ : ∃ R, R = w2.heap.size := ⟨_, rfl⟩
    rw [← hR] at c0 c1 c2 hs3 ⊢
    obtain ⟨val, hval⟩ : ∃ val, val = dk M' C k := ⟨_, rfl⟩
    have HVAL : Hid (val = dk M' C k) := hval
    rw [← hval] at c2
    have HSR : Hid (w4.heap[R]? = some (.cells #[.slice ro m.length rc, .slice po k pc, .int .i64 val, .int .i64 sgn] 70 (0, 0))) := by rw [hR, hval]; exact HC3.out
    clear hval hR HC3 HS3
    have hfc : f < c := by omega
    have hmk := run_make_row' (P := Try.prog) 22 3 (.int .i64 0) 8 Try.underlying22 Try.info3 rfl .i64 .i64 c (by omega) (by omega)
    have hmc : (madeCells #[.int .i64 0] c)[f]? = some (.int .i64 0) := by
      rw [← Array.getElem?_toList, toList_madeCells_one]; simp [hfc]
    have hne : R ≠ w4.heap.size := by omega
    have hne' : w4.heap.size ≠ R := by omega
    have HG0 : Hid (w4.heap.size ≤ (w4.alloc (.cells ((madeCells #[.int .i64 0] c).setIfInBounds f (.int .i64 val)) 3)).heap.size ∧ (w4.alloc (.cells ((madeCells #[.int .i64 0] c).setIfInBounds f (.int .i64 val)) 3)).rowIs w4.heap.size 3 c (fun j => .int .i64 (nv val f (fun a => rr M' C k a f) C 0 j)) ∧ Below w4.heap.size w4 (w4.alloc (.cells ((madeCells #[.int .i64 0] c).setIfInBounds f (.int .i64 val)) 3))) := by
      have e : (w4.alloc (.cells (madeCells #[.int .i64 0] c) 3)).setCell ⟨w4.heap.size, f, none⟩ (.int .i64 val) = w4.alloc (.cells ((madeCells #[.int .i64 0] c).setIfInBounds f (.int .i64 val)) 3) := by simp [go_sem]
      refine ⟨by simp, ?_, (Below.refl _ _).alloc (Nat.le_refl _) _⟩
      rw [← e]
      exact ((World.rowIs_made w4 (.int .i64 0) c 3).set f (.int .i64 val)).congr fun j hj => by unfold nv; by_cases e : j = f <;> simp [e]
    go_wp2
    go_loopw [31, 9, 10] (fun i _ _ wr => ∃ t : Nat, t ≤ k ∧ i = .int .i64 t ∧ Below w4.heap.size w4 wr ∧ wr.rowIs w4.heap.size 3 c (fun j => .int .i64 (nv val f (fun a => rr M' C k a f) C t j))) (fun i _ _ _ => k - (intOf i).toNat)
    case atStart => exact ⟨0, Nat.zero_le _, rfl, HG0.out.2.2, HG0.out.2.1⟩
    case round =>
      obtain ⟨t, ht, rfl, hbel, hrow⟩ := hrel
      have HB : Hid (Below w4.heap.size w4 wr) := hbel
      have HRW : Hid (wr.rowIs w4.heap.size 3 c (fun j => .int .i64 (nv val f (fun a => rr M' C k a f) C t j))) := hrow
      have d0 : wr.cell? ⟨R, 0, none⟩ = some (.slice ro m.length rc) := (hbel.cell hs3).trans c0
      by_cases htk : t < k
      · obtain ⟨pb, po2, pcp, hs, hp1, hpc⟩ := sl_cell (HP3.out.below hbel (Nat.le_refl _)) (k := t) (by simpa using htk)
        simp only [Value.slice.injEq, List.length_map, List.length_range] at hs
        obtain ⟨rfl, _, rfl⟩ := hs
        have hg : ((List.range k).map fun b => (C b : Int)).getD t 0 = (C t : Int) := by simp [htk]
        rw [hg] at hpc
        have hCt : C t < c := HRD.out.done.rise.2 t htk
        obtain ⟨rb, ro2, rcp, u, hs2, _, hrc, hru⟩ := mat_cell (HM3.out.below hbel (Nat.le_refl _)) (k := t) (by simp [rowsOf]; omega)
        simp only [Value.slice.injEq, rowsOf, List.length_map, List.length_range, true_and] at hs2
        obtain ⟨rfl, rfl⟩ := hs2
        rw [rows_at (by omega)] at hru
        obtain ⟨xb, xo, xcp, hs3', hxl, hxc⟩ := sl_cell hru (k := f) (by simpa using hfc)
        have hg2 : ((List.range c).map (rr M' C k t)).getD f 0 = rr M' C k t f := by simp [hfc]
        rw [hg2] at hxc
        simp only [List.length_map, List.length_range] at hs3' hxl
        subst hs3'
        have hcl := hrow.cell (i := C t) hCt
        have hfz := hrow.frozen (C t)
        have HBX := (HVB.out (by omega)).2 t (by omega) f hfc
        obtain ⟨ct, hct⟩ : ∃ ct, ct = C t := ⟨_, rfl⟩
        obtain ⟨x, hxx⟩ : ∃ x, x = rr M' C k t f := ⟨_, rfl⟩
        have HCT : Hid (ct = C t) := hct
        have HXX : Hid (x = rr M' C k t f) := hxx
        rw [← hct] at hpc hCt hcl hfz
        rw [← hxx] at hxc HBX
        generalize nv val f (fun a => rr M' C k a f) C t ct = old at hcl
        clear hg hg2 hct hxx hrow hbel hru
        go_wp2
        go_roundw
        case rel =>
          refine ⟨t + 1, by omega, by go_num, HB.out.setCell (by exact Nat.le_refl _) _, ?_⟩
          refine (HRW.out.set ct _).congr fun j _ => ?_
          show _ = Value.int .i64 (if j = C t then - rr M' C k t f else nv val f (fun a => rr M' C k a f) C t j)
          rw [← HCT.out, ← HXX.out]
          by_cases e : j = ct <;> simp [e]
        case measure => simp [intOf]; omega
      · have htk' : t = k := by omega
        subst htk'
        have HL : Hid (upr (low ((List.range c).map (nv val f (fun a => rr M' C t a f) C t))) = normL c m) := by
          rw [HVAL.out]; exact red_norm HRD.out hkc1 (nu_of HRD.out.done.rise hkc1 hfk HF1.out HF2.out)
        have HNB : Hid (normB c m = true) := by
          have := HRK.out
          exact decide_eq_true (by omega)
        have HB1 : Hid (∀ z ∈ (List.range c).map (nv val f (fun a => rr M' C t a f) C t), z.natAbs ≤ 1000000000000) := by
          intro z hz
          rw [List.mem_map] at hz
          obtain ⟨j, _, rfl⟩ := hz
          have hv := HVB.out (by omega)
          exact nv_bd (by rw [HVAL.out]; exact hv.1) fun a ha => hv.2 a (by omega) f hfc
        obtain ⟨L, hLL⟩ : ∃ L, L = (List.range c).map (nv val f (fun a => rr M' C t a f) C t) := ⟨_, rfl⟩
        have HLN : Hid (L.length = c) := by show _ = _; rw [hLL]; simp
        have HSL : Hid (∀ B, Sl B 3 wr (.slice (some ⟨w4.heap.size, 0, none⟩) c c) (ints L)) := by
          intro B
          refine Sl.row HRW.out (by simp [HLN.out]) (by unfold maxLen; omega) fun i hi => ?_
          rw [ints_get _ _ (by rw [HLN.out]; exact hi), hLL]; simp [hi]
        rw [← hLL] at HL HB1
        clear hrow hbel hLL HRW
        go_wp2_with fail
        refine (primitive_any w.heap.size L _ wr (HSL.out _) (by rw [HLN.out]; omega) (fun z hz => Nat.le_trans (HB1.out z hz) (by decide))).mono ?_
        rintro e w5 ⟨u, rfl, hs5, hb5⟩
        obtain ⟨uo, uc, hu, _, _⟩ := sl_open (hs5 0)
        subst hu
        go_wp2_with fail
        refine (upright_any w.heap.size (low L) _ w5 (hs5 _) (by simp [low, HLN.out]; omega) (fun z hz => Nat.le_trans (low_bd HB1.out z hz) (by decide))).mono ?_
        rintro e w6 ⟨y, rfl, hs6, hb6⟩
        obtain ⟨yo, yc, hy, _, _⟩ := sl_open hs6
        subst hy
        have HS6 : Hid (Sl w.heap.size 3 w6 (.slice yo (upr (low L)).length yc) (ints (upr (low L)))) := hs6
        have HB6 : Hid (Below w.heap.size w w6) := by
          have h3 := HB3.out
          have h4 : Below w.heap.size w4 wr := HB.out.mono h3.size
          have h5 : Below w.heap.size wr w5 := hb5.mono (Nat.le_trans h3.size HB.out.size)
          have h6 : Below w.heap.size w5 w6 := hb6.mono (Nat.le_trans (Nat.le_trans h3.size HB.out.size) hb5.size)
          exact ((h3.trans h4).trans h5).trans h6
        generalize hgl : (upr (low L)).length = yl at *
        clear hs5 hs6 hb5 hb6 hgl
        go_wp2
        go_ret2
        exact ⟨_, by rw [HNB.out]; rfl, by rw [← HL.out]; exact HS6.out, HB6.out⟩
  · have htest : ((k : Int) != (c : Int) - 1) = true := by rw [bne_iff_ne]; omega
    have HNB : Hid (normB c m = false ∧ normL c m = []) := by
      have := HRK.out
      exact ⟨decide_eq_false (by omega), if_neg (by omega)⟩
    have HBQ : Hid (Below w.heap.size w (w2.alloc (.cells #[.slice ro m.length rc, .slice po k pc, .int .i64 (dk M' C k), .int .i64 sgn] 70))) := by rw [← HW3.out]; exact HB3.out
    go_wp2
    go_ret2
    exact ⟨_, by rw [HNB.out.1]; rfl, by rw [HNB.out.2]; exact Sl.nil _ _ _, HBQ.out⟩

end Go.Proofs.Ytgjlnhfjgkljdaa
