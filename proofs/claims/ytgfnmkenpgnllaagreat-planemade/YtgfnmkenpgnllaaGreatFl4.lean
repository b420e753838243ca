/- plane.moebius: a map from sets to numbers, gone through in whatever order. -/
import Derived.Test.YtgfnmkenpgnllaaGreatFl3
import Derived.Test.YtgfnmkenpgnllaaGreatSh2
import Derived.Maps.RangeWalk
import Derived.Maps.OwnOps
namespace Go.Proofs.YtgfnmkenpgnllaaGreat
open Go.RowKit Go.Maps Lin
attribute [local go_sem ↓] Go.wp_at_zero Go.wp_at_succ

/-- The numbers of the sets M. -/
structure NmI (W : World) (b : Nat) (M : List Nat) (f : Nat → Int) (D : DataW Unit) : Prop where
  own : W.ownsMap Tryz.prog 94 (plainElem Tryz.prog 3) b M.length D
  has : ∀ x : Nat, Maps.has D (.int .u64 (x : Int)) = decide (x ∈ M)
  val : ∀ x : Nat, x ∈ M → D.atKey (.int .u64 (x : Int)) (.lit (.int .i64 0)) = .lit (.int .i64 (f x))

theorem keyedF : Keyed Tryz.prog 94 := int_keyed (q := .u64) (by kernel_rfl)
theorem underS : Tryz.prog.underlying 94 = some (.int .u64) := by kernel_rfl

theorem keyF {x : Nat} (hx : x < 2 ^ 64) : keyOf Tryz.prog 94 (.int .u64 (x : Int)) = some (.int .u64 (x : Int)) :=
  keyOf_int_mk (q := .u64) (by kernel_rfl) (by
    simp [Lit.wf, IntKind.min, IntKind.max, IntKind.signed, IntKind.bits]
    omega)

theorem mapF : Tryz.prog.underlying 91 = some (.map 94 3) := by kernel_rfl

theorem NmI.below {W W' : World} {b : Nat} {M : List Nat} {f : Nat → Int} {D : DataW Unit} (h : NmI W b M f D) (hb : Below W.heap.size W W') : NmI W' b M f D :=
  ⟨h.own.kept (row := none) ⟨hb.os, hb.tape, hb.output, hb.size, fun k hk _ => hb.block k hk⟩ (by simp), h.has, h.val⟩

/-- One number more. -/
theorem NmI.put {W : World} {b : Nat} {M : List Nat} {f : Nat → Int} {D : DataW Unit} (h : NmI W b M f D) {x : Nat} (hx : x < 2 ^ 64) (hM : M.length ≤ 5000) (hf : (f x).natAbs ≤ 1000000) :
    ∃ w2, (Instr.mapUpdate 91 (.map (some b)) (.int .u64 (x : Int)) (.int .i64 (f x))).run Tryz.prog W = .ok () w2 ∧ (∃ D', NmI w2 b (M ++ [x]) f D') ∧ W.grownBy w2 (some b) := by
  obtain ⟨w2, hrun, ho, hg⟩ := h.own.update keyedF mapF (by unfold maxLen; omega) (keyF hx) (val := .int .i64 (f x)) (d := .lit (.int .i64 (f x))) (ps := []) (plainElem_int (q := .i64) (by kernel_rfl) (by
    simp [Lit.wf, IntKind.min, IntKind.max, IntKind.signed, IntKind.bits]
    omega))
  refine ⟨w2, hrun, ⟨_, by rw [List.length_append, List.length_singleton]; exact ho, fun y => ?_, fun y hy => ?_⟩, hg⟩
  · by_cases e : y = x
    · subst e
      rw [Maps.has_put_same h.own.isMap (by trivial)]
      simp
    · have hne : (Lit.int .u64 (y : Int)) ≠ Lit.int .u64 (x : Int) := fun e2 => e (by simp only [Lit.int.injEq, true_and] at e2; omega)
      rw [Maps.has_put_other hne, h.has y]
      simp [e]
  · by_cases e : y = x
    · subst e
      rw [Maps.atKey_put_same h.own.isMap (by trivial)]
    · have hne : (Lit.int .u64 (y : Int)) ≠ Lit.int .u64 (x : Int) := fun e2 => e (by simp only [Lit.int.injEq, true_and] at e2; omega)
      rw [Maps.atKey_put_other hne]
      refine h.val y ?_
      rcases List.mem_append.1 hy with hy | hy
      · exact hy
      · exact absurd (List.mem_singleton.1 hy) e

/-- What has been added, of the sets that are no longer to come. -/
def seL (M : List Nat) (f : Nat → Int) (F : Nat) (left : Lit → Bool) : Int := (M.map fun (x : Nat) => if left (.int .u64 (x : Int)) then 0 else if x &&& F = x then f x else 0).sum

theorem seL_start {M : List Nat} {f : Nat → Int} {F : Nat} {left : Lit → Bool} (h : ∀ x ∈ M, left (.int .u64 (x : Int)) = true) : seL M f F left = 0 := by
  induction M with
  | nil => rfl
  | cons a M ih =>
    have h1 := ih fun x hx => h x (List.mem_cons_of_mem _ hx)
    unfold seL at h1 ⊢
    rw [List.map_cons, List.sum_cons, h1, if_pos (h a (by simp))]
    rfl

theorem seL_end {M : List Nat} {f : Nat → Int} {F : Nat} {left : Lit → Bool} (h : ∀ kl, left kl = false) : seL M f F left = (M.map fun x => if x &&& F = x then f x else 0).sum := by
  unfold seL
  congr 1
  refine List.map_congr_left fun x _ => ?_
  rw [h]; rfl

theorem seL_step {f : Nat → Int} {F : Nat} {left : Lit → Bool} {y : Nat} (hl : left (.int .u64 (y : Int)) = true) : ∀ {M : List Nat}, M.Nodup → seL M f F (fun z => left z && !z.sameKey (.int .u64 (y : Int))) = seL M f F left + (if y ∈ M then (if y &&& F = y then f y else 0) else 0)
  | [], _ => rfl
  | a :: M, hn => by
    have ih := seL_step (f := f) (F := F) hl (List.nodup_cons.1 hn).2
    unfold seL at ih ⊢
    rw [List.map_cons, List.sum_cons, List.map_cons, List.sum_cons, ih]
    by_cases e : a = y
    · subst e
      have h1 : (Lit.int .u64 (a : Int)).sameKey (.int .u64 (a : Int)) = true := by simp [Lit.sameKey]
      simp only [hl, h1, Bool.not_true, Bool.and_false]
      simp [(List.nodup_cons.1 hn).1]
      omega
    · have h1 : (Lit.int .u64 (a : Int)).sameKey (.int .u64 (y : Int)) = false := by
        simp [Lit.sameKey]
        omega
      have h2 : (y ∈ a :: M) ↔ y ∈ M := by
        rw [List.mem_cons]
        exact ⟨fun h => h.resolve_left fun h => e h.symm, .inr⟩
      simp only [h1, Bool.not_false, Bool.and_true, h2]
      omega

theorem seL_abs {M : List Nat} {f : Nat → Int} {F : Nat} {left : Lit → Bool} (hf : ∀ x, (f x).natAbs ≤ 64) (hM : M.length ≤ 64) : (seL M f F left).natAbs ≤ 4096 := by
  refine Nat.le_trans (list_abs (B := 64) M fun x _ => ?_) (by omega)
  split
  · decide
  · split
    · exact hf x
    · decide

theorem in_and (x y : Nat) : (outN x y == 0) = decide (x &&& y = x) := by
  rw [Bool.eq_iff_iff, beq_iff_eq, decide_eq_true_iff, and_sub]
  constructor
  · intro h i hi
    have := outN_bit x y i
    rw [h, hi] at this
    simpa using this
  · intro h
    apply Nat.eq_of_testBit_eq
    intro i
    rw [outN_bit, Nat.zero_testBit]
    cases hx : x.testBit i
    · rfl
    · simp [h i hx]

set_option maxRecDepth 100000 in
set_option maxHeartbeats 3200000 in
theorem moebius_any (b : Nat) (M : List Nat) (f : Nat → Int) (D : DataW Unit) (c : List Int) (r : Nat) (u : Value) (w : World) (hm : NmI w b M f D) (hM : M.length ≤ 64) (hMn : M.Nodup) (hMl : ∀ x ∈ M, x < 64) (hf : ∀ x, (f x).natAbs ≤ 64) (hu : Sl 0 3 w u (ints c)) (hb : B64 c) :
    Calls Tryz.prog 65 #[.map (some b), .agg #[u, .int .i64 (r : Nat)]] w fun e w' => e = .returned (.int .i64 (if r = 0 then 1 else - (M.map fun x => if x &&& setN c = x then f x else 0).sum)) ∧ Below w.heap.size w w' := by
  obtain ⟨W, hW⟩ : ∃ W, W = w.alloc (.cells #[u, .int .i64 (r : Nat)] 68) := ⟨_, rfl⟩
  have hbW : Below w.heap.size w W := by rw [hW]; exact alloc_keep _ _
  have hsW : W.heap.size = w.heap.size + 1 := by rw [hW]; exact size_alloc _ _
  have hk : W.heap[w.heap.size]? = some (.cells #[u, .int .i64 (r : Nat)] 68 (0, 0)) := by rw [hW]; exact alloc_new _ _
  have HCE : Hid (∀ X, Below W.heap.size W X → X.cell? ⟨w.heap.size, 0, none⟩ = some u ∧ X.cell? ⟨w.heap.size, 1, none⟩ = some (.int .i64 (r : Nat))) := fun X hX => by
    have q := (hX.block w.heap.size (by omega)).trans hk
    exact ⟨by simp [World.cell?, q], by simp [World.cell?, q]⟩
  obtain ⟨uo, uc, rfl, _, _⟩ := sl_open hu
  have HOF : Hid (∀ X, Below W.heap.size W X → Calls Tryz.prog 66 #[.slice uo c.length uc] X fun e w' => e = .returned (.int .u64 (setN c : Nat)) ∧ ∃ n, w' = X.drewN n) := fun X hX => setOf_any 0 c _ X ((hu.below hbW (Nat.le_refl _)).below hX (Nat.le_refl _)) hb
  have hF64 := setN_lt' hb
  have HIN : Hid (∀ (x : Nat) X, x < 64 → Calls Tryz.prog 95 #[.int .u64 (x : Int), .int .u64 (setN c : Nat)] X fun e w' => e = .returned (.bool (decide (x &&& setN c = x))) ∧ w' = X) := fun x X hx => by
    rw [← in_and]
    exact in_any x (setN c) X (by omega) hF64
  have HOW : Hid (W.ownsMap Tryz.prog 94 (plainElem Tryz.prog 3) b M.length D) := (hm.own.kept (row := none) ⟨hbW.os, hbW.tape, hbW.output, hbW.size, fun k hk _ => hbW.block k hk⟩ (by simp))
  have HHA : Hid (∀ x : Nat, Maps.has D (.int .u64 (x : Int)) = decide (x ∈ M)) := hm.has
  have HVA : Hid (∀ x : Nat, x ∈ M → D.atKey (.int .u64 (x : Int)) (.lit (.int .i64 0)) = .lit (.int .i64 (f x))) := hm.val
  have HWW : Hid (W = w.alloc (.cells #[.slice uo c.length uc, .int .i64 (r : Nat)] 68)) := hW
  have HBW : Hid (∀ X, Below W.heap.size W X → Below w.heap.size w X) := fun X hX => hbW.trans (hX.mono hbW.size)
  have HMN : Hid M.Nodup := hMn
  have HML : Hid (∀ x ∈ M, x < 64) := hMl
  have HF : Hid (∀ x, (f x).natAbs ≤ 64) := hf
  obtain ⟨F, hFF⟩ : ∃ F, F = setN c := ⟨_, rfl⟩
  rw [← hFF] at HOF HIN ⊢
  obtain ⟨RS, hRS⟩ : ∃ RS : Int, RS = if r = 0 then 1 else - (M.map fun x => if x &&& F = x then f x else 0).sum := ⟨_, rfl⟩
  rw [← hRS]
  have HRS : Hid (RS = if r = 0 then 1 else - (M.map fun x => if x &&& F = x then f x else 0).sum) := hRS
  clear hRS
  obtain ⟨h1, h2⟩ := HCE.out W (Below.refl _ _)
  clear hm hMn hMl hf hu hb hbW hk hW hF64 hFF
  by_cases hr0 : r = 0
  · have HR : Hid (r = 0) := hr0
    have hrI : ((r : Int) == 0) = true := by simp [hr0]
    clear hr0 HOF HIN HOW HHA HVA
    go_enter Tryz.func65, Tryz.ntmps65
    go_upto_region 1 with fail
    rw [← HWW.out]
    go_wp2
    go_ret
    exact ⟨by rw [HRS.out, if_pos HR.out]; rfl, HBW.out _ (Below.refl _ _)⟩
  have HR : Hid (r ≠ 0) := hr0
  have hrI : ((r : Int) == 0) = false := by simp [hr0]
  obtain ⟨R0, hR0⟩ : ∃ R0, R0 = W.heap.size := ⟨_, rfl⟩
  clear hr0 hsW
  go_enter Tryz.func65, Tryz.ntmps65
  go_upto_region 1 with fail
  rw [← HWW.out]
  go_wp2_with (first
    | (at_range; refine wpList_range_own _ rfl _ 91 rfl 94 3 keyedF mapF _ b M.length _ rfl HOW.out ?_; intro w0 hrg0 hg0 hs0)
    | go_in)
  go_frame
  have HG0 : Hid (W.grownBy w0 none) := hg0
  have HBB : Hid (∀ X, W.heap.size ≤ X.heap.size → (∀ k, k < W.heap.size → X.heap[k]? = W.heap[k]?) → X.os = W.os → X.tape = W.tape → X.output = W.output → Below W.heap.size W X) := fun X h1 h2 h3 h4 h5 => ⟨h3, h4, h5, h1, fun k hk => h2 k hk⟩
  have HB0 : Hid (Below W.heap.size W w0) := HBB.out w0 hg0.size (fun k hk => hg0.block k hk (by simp)) hg0.os hg0.tape hg0.output
  have HRG : Hid (w0.ranges Tryz.prog 94 (plainElem Tryz.prog 3) b W.heap.size M.length D (Maps.has D) (Maps.size D)) := hrg0
  clear hg0 hs0 hrg0 hR0 h1 h2
  go_loopw [5] (fun s wr => ∃ (left : Lit → Bool) (cnt : Nat), wr.ranges Tryz.prog 94 (plainElem (H := Unit) Tryz.prog 3) b W.heap.size M.length D left cnt ∧ s = .int .i64 (seL M f F left) ∧ (∀ x : Nat, left (.int .u64 (x : Int)) = true → x ∈ M) ∧ Below W.heap.size W wr)
    (fun _ wr => wr.rangeLeft b W.heap.size)
  case atStart => exact ⟨_, _, HRG.out, by rw [seL_start fun x hx => by rw [HHA.out]; simp [hx]], fun x hx => by rw [HHA.out] at hx; simpa using hx, HB0.out⟩
  case round =>
    obtain ⟨left, cnt, hrg, rfl, hsub, hb⟩ := hrel
    have HRG2 : Hid (wr.ranges Tryz.prog 94 (plainElem (H := Unit) Tryz.prog 3) b W.heap.size M.length D left cnt) := hrg
    have HRG5 : Hid (wr.ranges Tryz.prog 94 (plainElem (H := Unit) Tryz.prog 3) b W.heap.size M.length D left cnt) := hrg
    have HSU : Hid (∀ x : Nat, left (.int .u64 (x : Int)) = true → x ∈ M) := hsub
    have HB : Hid (Below W.heap.size W wr) := hb
    have hsa := seL_abs (F := F) (left := left) HF.out hM
    obtain ⟨sm, hsm⟩ : ∃ sm, sm = seL M f F left := ⟨_, rfl⟩
    rw [← hsm] at hsa ⊢
    have HSM : Hid (sm = seL M f F left) := hsm
    clear hrg hsub hb hsm
    go_wp2_with (first
      | (at_next; refine wpList_next_ranges_ii _ rfl _ rfl 94 3 .u64 .i64 keyedF underS Tryz.underlying3 b W.heap.size M.length _ _ _ rfl HRG2.out ?_ ?_)
      | go_in)
    · intro _ hl0
      have HE : Hid (RS = -sm) := by
        show _ = _
        rw [HRS.out, if_neg HR.out, HSM.out, seL_end hl0]
      clear hl0
      go_wp2
      go_ret
      exact ⟨ret_int HE.out.symm, HBW.out _ HB.out⟩
    · intro x0 cx w1 cnt1 hwx hwc hlx hat hrg1 hlt hg1 hs1 hen
      obtain ⟨x, hx⟩ : ∃ x : Nat, x0 = (x : Int) := by
        have : 0 ≤ x0 := by
          simp [Lit.wf, IntKind.min, IntKind.max, IntKind.signed, IntKind.bits] at hwx
          omega
        exact ⟨x0.toNat, by omega⟩
      subst hx
      have hxM : x ∈ M := HSU.out x hlx
      have hcx : cx = f x := by
        have h1 := hat (.lit (.int .i64 0))
        rw [HVA.out x hxM] at h1
        simpa using h1.symm
      subst hcx
      have hx64 := HML.out x hxM
      have hB1 : Below W.heap.size W w1 := HBB.out w1 (by rw [hs1]; exact HB.out.size) (fun k hk => (hg1.block k (by have := HB.out.size; omega) (fun e => by simp at e; omega)).trans (HB.out.block k hk)) (hg1.os.trans HB.out.os) (hg1.tape.trans HB.out.tape) (hg1.output.trans HB.out.output)
      have HST : Hid (seL M f F (fun z => left z && !z.sameKey (.int .u64 (x : Int))) = sm + (if x &&& F = x then f x else 0)) := by
        show _ = _
        rw [seL_step hlx HMN.out, if_pos hxM, HSM.out]
      have HRG3 : Hid (w1.ranges Tryz.prog 94 (plainElem (H := Unit) Tryz.prog 3) b W.heap.size M.length D (fun z => left z && !z.sameKey (.int .u64 (x : Int))) cnt1) := hrg1
      have HSU2 : Hid (∀ y : Nat, (left (.int .u64 (y : Int)) && !(Lit.int .u64 (y : Int)).sameKey (.int .u64 (x : Int))) = true → y ∈ M) := fun y hy => HSU.out y (by simp at hy; exact hy.1)
      have HLT : Hid (cnt1 < cnt) := hlt
      have HB1 : Hid (Below W.heap.size W w1) := hB1
      have hfx := HF.out x
      obtain ⟨q1, q2⟩ := HCE.out w1 hB1
      have HI2 := HIN.out x
      have HOF2 := HOF.out w1 hB1
      clear hwx hwc hlx hat hrg1 hlt hg1 hs1 hB1 hxM HVA HSU HRG2 HSM
      generalize f x = fx at *
      go_wp2_with fail
      refine HOF2.mono ?_
      rintro e w2 ⟨rfl, nq, hw2⟩
      subst hw2
      clear HOF2
      go_wp2_with fail
      refine (HI2 _ hx64).mono ?_
      rintro e w3 ⟨rfl, hw3⟩
      subst hw3
      have HR4 : Hid ((w1.drewN nq).ranges Tryz.prog 94 (plainElem (H := Unit) Tryz.prog 3) b W.heap.size M.length D (fun z => left z && !z.sameKey (.int .u64 (x : Int))) cnt1) := by
        exact HRG3.out
      have HB4 : Hid (Below W.heap.size W (w1.drewN nq)) := by
        obtain ⟨h1, h2, h3, h4, h5⟩ := HB1.out
        exact ⟨h1, h2, h3, h4, h5⟩
      have HME : Hid ((w1.drewN nq).rangeLeft b W.heap.size < wr.rangeLeft b W.heap.size) := by
        show _ < _
        rw [HR4.out.left_eq, HRG5.out.left_eq]
        exact HLT.out
      clear HRG3 HB1 HI2 q1 q2 hen
      by_cases hin : x &&& F = x
      · rw [if_pos hin] at HST
        have hid : decide (x &&& F = x) = true := decide_eq_true hin
        have hbd : -9000 ≤ sm + fx ∧ sm + fx ≤ 9000 := by omega
        obtain ⟨hbd1, hbd2⟩ := hbd
        clear hin
        generalize decide (x &&& F = x) = di at *
        subst hid
        go_wp2
        go_roundw
        case rel => exact ⟨_, cnt1, HR4.out, by rw [HST.out], HSU2.out, HB4.out⟩
        case measure => exact HME.out
      · rw [if_neg hin, Int.add_zero] at HST
        have hid : decide (x &&& F = x) = false := decide_eq_false hin
        clear hin
        generalize decide (x &&& F = x) = di at *
        subst hid
        go_wp2
        go_roundw
        case rel => exact ⟨_, cnt1, HR4.out, by rw [HST.out], HSU2.out, HB4.out⟩
        case measure => exact HME.out

end Go.Proofs.YtgfnmkenpgnllaaGreat
