import Derived.Test.YtmljnfgfjcjmmaaFlC
import Derived.Test.YtmljnfgfjcjmmaaSh2
import Derived.Maps.RangeWalk
import Derived.Maps.OwnOps
/- plane.moebius: a map from sets to numbers, gone through in whatever order. -/
namespace Go.Proofs.Ytmljnfgfjcjmmaa
open Go.RowKit Go.Maps Lin
attribute [local go_sem ↓] Go.wp_at_zero Go.wp_at_succ

/-- The numbers of the sets M. -/
structure NmI (W : World) (b : Nat) (M : List Nat) (f : Nat → Int) (D : DataW Unit) : Prop where
  own : W.ownsMap Try.prog 54 (plainElem Try.prog 3) b M.length D
  has : ∀ x : Nat, Maps.has D (.int .u64 (x : Int)) = decide (x ∈ M)
  val : ∀ x : Nat, x ∈ M → D.atKey (.int .u64 (x : Int)) (.lit (.int .i64 0)) = .lit (.int .i64 (f x))

theorem keyedF : Keyed Try.prog 54 := int_keyed (q := .u64) (by kernel_rfl)
theorem underS : Try.prog.underlying 54 = some (.int .u64) := by kernel_rfl

theorem keyF {x : Nat} (hx : x < 2 ^ 64) : keyOf Try.prog 54 (.int .u64 (x : Int)) = some (.int .u64 (x : Int)) :=
  keyOf_int_mk (q := .u64) (by kernel_rfl) (by
    simp [Lit.wf, IntKind.min, IntKind.max, IntKind.signed, IntKind.bits]
    omega)

theorem mapF : Try.prog.underlying 49 = some (.map 54 3) := by kernel_rfl

theorem NmI.below {W W' : World} {b : Nat} {M : List Nat} {f : Nat → Int} {D : DataW Unit} (h : NmI W b M f D) (hb : Below W.heap.size W W') : NmI W' b M f D :=
  ⟨h.own.kept (row := none) ⟨hb.os, hb.tape, hb.output, hb.size, fun k hk _ => hb.block k hk⟩ (by simp), h.has, h.val⟩

/-- One number more. -/
theorem NmI.put {W : World} {b : Nat} {M : List Nat} {f : Nat → Int} {D : DataW Unit} (h : NmI W b M f D) {x : Nat} (hx : x < 2 ^ 64) (hM : M.length ≤ 5000) (hf : (f x).natAbs ≤ 1000000) :
    ∃ w2, (Instr.mapUpdate 49 (.map (some b)) (.int .u64 (x : Int)) (.int .i64 (f x))).run Try.prog W = .ok () w2 ∧ (∃ D', NmI w2 b (M ++ [x]) f D') ∧ W.grownBy w2 (some b) := by
  obtain ⟨w2, hrun, ho, hg⟩ := h.own.update keyedF mapF (by unfold maxLen; omega) (keyF hx) (val := .int .i64 (f x)) (d := .lit (.int .i64 (f x))) (ps := []) (plainElem_int (q := .i64) (by kernel_rfl) (by
    simp [Lit.wf, IntKind.min, IntKind.max, IntKind.signed, IntKind.bits]
    omega))
  refine ⟨w2, hrun, ⟨_, by rw [List.length_append, List.length_singleton]; exact ho, fun y => ?_, fun y hy => ?_⟩, hg⟩
  · by_cases e : y = x
    · subst e
      rw [Maps.has_put_same h.own.isMap (by trivial)]
      simp
    · have hne : (Lit.int .u64 (y : Int)) ≠ Lit.int .u64 (x : Int) := fun e2 => e (by simp only [Lit.int.injEq, true_and] at e2; omega)
      rw [Maps.has_put_other hne, h.has y]
      simp [e]
  · by_cases e : y = x
    · subst e
      rw [Maps.atKey_put_same h.own.isMap (by trivial)]
    · have hne : (Lit.int .u64 (y : Int)) ≠ Lit.int .u64 (x : Int) := fun e2 => e (by simp only [Lit.int.injEq, true_and] at e2; omega)
      rw [Maps.atKey_put_other hne]
      refine h.val y ?_
      rcases List.mem_append.1 hy with hy | hy
      · exact hy
      · exact absurd (List.mem_singleton.1 hy) e

/-- What has been added, of the sets that are no longer to come. -/
def seL (M : List Nat) (f : Nat → Int) (F : Nat) (left : Lit → Bool) : Int := (M.map fun (x : Nat) => if left (.int .u64 (x : Int)) then 0 else if x &&& F = x then f x else 0).sum

theorem seL_start {M : List Nat} {f : Nat → Int} {F : Nat} {left : Lit → Bool} (h : ∀ x ∈ M, left (.int .u64 (x : Int)) = true) : seL M f F left = 0 := by
  induction M with
  | nil => rfl
  | cons a M ih =>
    have h1 := ih fun x hx => h x (List.mem_cons_of_mem _ hx)
    unfold seL at h1 ⊢
    rw [List.map_cons, List.sum_cons, h1, if_pos (h a (by simp))]
    rfl

theorem seL_end {M : List Nat} {f : Nat → Int} {F : Nat} {left : Lit → Bool} (h : ∀ kl, left kl = false) : seL M f F left = (M.map fun x => if x &&& F = x then f x else 0).sum := by
  unfold seL
  congr 1
  refine List.map_congr_left fun x _ => ?_
  rw [h]; rfl

theorem seL_step {f : Nat → Int} {F : Nat} {left : Lit → Bool} {y : Nat} (hl : left (.int .u64 (y : Int)) = true) : ∀ {M : List Nat}, M.Nodup → seL M f F (fun z => left z && !z.sameKey (.int .u64 (y : Int))) = seL M f F left + (if y ∈ M then (if y &&& F = y then f y else 0) else 0)
  | [], _ => rfl
  | a :: M, hn => by
    have ih := seL_step (f := f) (F := F) hl (List.nodup_cons.1 hn).2
    unfold seL at ih ⊢
    rw [List.map_cons, List.sum_cons, List.map_cons, List.sum_cons, ih]
    by_cases e : a = y
    · subst e
      have h1 : (Lit.int .u64 (a : Int)).sameKey (.int .u64 (a : Int)) = true := by simp [Lit.sameKey]
      simp only [hl, h1, Bool.not_true, Bool.and_false]
      simp [(List.nodup_cons.1 hn).1]
      omega
    · have h1 : (Lit.int .u64 (a : Int)).sameKey (.int .u64 (y : Int)) = false := by
        simp [Lit.sameKey]
        omega
      have h2 : (y ∈ a :: M) ↔ y ∈ M := by
        rw [List.mem_cons]
        exact ⟨fun h => h.resolve_left fun h => e h.symm, .inr⟩
      simp only [h1, Bool.not_false, Bool.and_true, h2]
      omega

theorem seL_abs {M : List Nat} {f : Nat → Int} {F : Nat} {left : Lit → Bool} (hf : ∀ x, (f x).natAbs ≤ 64) (hM : M.length ≤ 64) : (seL M f F left).natAbs ≤ 4096 := by
  refine Nat.le_trans (list_abs (B := 64) M fun x _ => ?_) (by omega)
  split
  · decide
  · split
    · exact hf x
    · decide

theorem in_and (x y : Nat) : (outN x y == 0) = decide (x &&& y = x) := by
  rw [Bool.eq_iff_iff, beq_iff_eq, decide_eq_true_iff, and_sub]
  constructor
  · intro h i hi
    have := outN_bit x y i
    rw [h, hi] at this
    simpa using this
  · intro h
    apply Nat.eq_of_testBit_eq
    intro i
    rw [outN_bit, Nat.zero_testBit]
    cases hx : x.testBit i
    · rfl
    · simp [h i hx]

set_option maxRecDepth 100000 in
set_option maxHeartbeats 3200000 in
theorem moebius_any (b : Nat) (M : List Nat) (f : Nat → Int) (D : DataW Unit) (c : List Int) (r : Nat) (u : Value) (w : World) (hm : NmI w b M f D) (hM : M.length ≤ 64) (hMn : M.Nodup) (hMl : ∀ x ∈ M, x < 64) (hf : ∀ x, (f x).natAbs ≤ 64) (hu : Sl 0 3 w u (ints c)) (hb : B64 c) :
    Calls Try.prog 21 #[.map (some b), .agg #[u, .int .i64 (r : Nat)]] w fun e w' => e = .returned (.int .i64 (if r = 0 then 1 else - (M.map fun x => if x &&& setN c = x then f x else 0).sum)) ∧ Below w.heap.size w w' := by
  obtain ⟨W, hW⟩ : ∃ W, W = w.alloc (.cells #[u, .int .i64 (r : Nat)] 51) := ⟨_, rfl⟩
  have hbW : Below w.heap.size w W := by rw [hW]; exact alloc_keep _ _
  have hsW : W.heap.size = w.heap.size + 1 := by rw [hW]; exact size_alloc _ _
  have hk : W.heap[w.heap.size]? = some (.cells #[u, .int .i64 (r : Nat)] 51 (0, 0)) := by rw [hW]; exact alloc_new _ _
  have HCE : Hid (∀ X, Below W.heap.size W X → X.cell? ⟨w.heap.size, 0, none⟩ = some u ∧ X.cell? ⟨w.heap.size, 1, none⟩ = some (.int .i64 (r : Nat))) := fun X hX => by
    have q := (hX.block w.heap.size (by omega)).trans hk
    exact ⟨by simp [World.cell?, q], by simp [World.cell?, q]⟩
  obtain ⟨uo, uc, rfl, _, _⟩ := sl_open hu
  have HOF : Hid (∀ X, Below W.heap.size W X → Calls Try.prog 22 #[.slice uo c.length uc] X fun e w' => e = .returned (.int .u64 (setN c : Nat)) ∧ ∃ n, w' = X.drewN n) := fun X hX => setOf_any 0 c _ X ((hu.below hbW (Nat.le_refl _)).below hX (Nat.le_refl _)) hb
  have hF64 := setN_lt' hb
  have HIN : Hid (∀ (x : Nat) X, x < 64 → Calls Try.prog 37 #[.int .u64 (x : Int), .int .u64 (setN c : Nat)] X fun e w' => e = .returned (.bool (decide (x &&& setN c = x))) ∧ w' = X) := fun x X hx => by
    rw [← in_and]
    exact in_any x (setN c) X (by omega) hF64
  have HOW : Hid (W.ownsMap Try.prog 54 (plainElem Try.prog 3) b M.length D) := (hm.own.kept (row := none) ⟨hbW.os, hbW.tape, hbW.output, hbW.size, fun k hk _ => hbW.block k hk⟩ (by simp))
  have HHA : Hid (∀ x : Nat, Maps.has D (.int .u64 (x : Int)) = decide (x ∈ M)) := hm.has
  have HVA : Hid (∀ x : Nat, x ∈ M → D.atKey (.int .u64 (x : Int)) (.lit (.int .i64 0)) = .lit (.int .i64 (f x))) := hm.val
  have HWW : Hid (W = w.alloc (.cells #[.slice uo c.length uc, .int .i64 (r : Nat)] 51)) := hW
  have HBW : Hid (∀ X, Below W.heap.size W X → Below w.heap.size w X) := fun X hX => hbW.trans (hX.mono hbW.size)
  have HMN : Hid M.Nodup := hMn
  have HML : Hid (∀ x ∈ M, x < 64) := hMl
  have HF : Hid (∀ x, (f x).natAbs ≤ 64) := hf
  obtain ⟨F, hFF⟩ : ∃ F, F = setN c := ⟨_, rfl⟩
  rw [← hFF] at HOF HIN ⊢
  obtain ⟨RS, hRS⟩ : ∃ RS : Int, RS = if r = 0 then 1 else - (M.map fun x => if x &&& F = x then f x else 0).sum := ⟨_, rfl⟩
  rw [← hRS]
  have HRS : Hid (RS = if r = 0 then 1 else - (M.map fun x => if x &&& F = x then f x else 0).sum) := hRS
  clear hRS
  obtain ⟨h1, h2⟩ := HCE.out W (Below.refl _ _)
  clear hm hMn hMl hf hu hb hbW hk hW hF64 hFF
  by_cases hr0 : r = 0
  · have HR : Hid (r = 0) := hr0
    have hrI : ((r : Int) == 0) = true := by simp [hr0]
    clear hr0 HOF HIN HOW HHA HVA
    go_enter Try.func21, Try.ntmps21
    go_upto_region 1 with fail
    rw [← HWW.out]
    go_wp2
    go_ret
    exact ⟨by rw [HRS.out, if_pos HR.out]; rfl, HBW.out _ (Below.refl _ _)⟩
  have HR : Hid (r ≠ 0) := hr0
  have hrI : ((r : Int) == 0) = false := by simp [hr0]
  obtain ⟨R0, hR0⟩ : ∃ R0, R0 = W.heap.size := ⟨_, rfl⟩
  clear hr0 hsW
  go_enter Try.func21, Try.ntmps21
  go_upto_region 1 with fail
  rw [← HWW.out]
  go_wp2_with (first
    | (at_range; refine wpList_range_own _ rfl _ 49 rfl 54 3 keyedF mapF _ b M.length _ rfl HOW.out ?_; intro w0 hrg0 hg0 hs0)
    | go_in)
  go_frame
  have HG0 : Hid (W.grownBy w0 none) := hg0
  have HBB : Hid (∀ X, W.heap.size ≤ X.heap.size → (∀ k, k < W.heap.size → X.heap[k]? = W.heap[k]?) → X.os = W.os → X.tape = W.tape → X.output = W.output → Below W.heap.size W X) := fun X h1 h2 h3 h4 h5 => ⟨h3, h4, h5, h1, fun k hk => h2 k hk⟩
  have HB0 : Hid (Below W.heap.size W w0) := HBB.out w0 hg0.size (fun k hk => hg0.block k hk (by simp)) hg0.os hg0.tape hg0.output
  have HRG : Hid (w0.ranges Try.prog 54 (plainElem Try.prog 3) b W.heap.size M.length D (Maps.has D) (Maps.size D)) := hrg0
  clear hg0 hs0 hrg0 hR0 h1 h2
  go_loopw [5] (fun s wr => ∃ (left : Lit → Bool) (cnt : Nat), wr.ranges Try.prog 54 (plainElem (H := Unit) Try.prog 3) b W.heap.size M.length D left cnt ∧ s = .int .i64 (seL M f F left) ∧ (∀ x : Nat, left (.int .u64 (x : Int)) = true → x ∈ M) ∧ Below W.heap.size W wr)
    (fun _ wr => wr.rangeLeft b W.heap.size)
  case atStart => exact ⟨_, _, HRG.out, by rw [seL_start fun x hx => by rw [HHA.out]; simp [hx]], fun x hx => by rw [HHA.out] at hx; simpa using hx, HB0.out⟩
  case round =>
    obtain ⟨left, cnt, hrg, rfl, hsub, hb⟩ := hrel
    have HRG2 : Hid (wr.ranges Try.prog 54 (plainElem (H := Unit) Try.prog 3) b W.heap.size M.length D left cnt) := hrg
    have HRG5 : Hid (wr.ranges Try.prog 54 (plainElem (H := Unit) Try.prog 3) b W.heap.size M.length D left cnt) := hrg
    have HSU : Hid (∀ x : Nat, left (.int .u64 (x : Int)) = true → x ∈ M) := hsub
    have HB : Hid (Below W.heap.size W wr) := hb
    have hsa := seL_abs (F := F) (left := left) HF.out hM
    obtain ⟨sm, hsm⟩ : ∃ sm, sm = seL M f F left := ⟨_, rfl⟩
    rw [← hsm] at hsa ⊢
    have HSM : Hid (sm = seL M f F left) := hsm
    clear hrg hsub hb hsm
    go_wp2_with (first
      | (at_next; refine wpList_next_ranges_ii _ rfl _ rfl 54 3 .u64 .i64 keyedF underS Try.underlying3 b W.heap.size M.length _ _ _ rfl HRG2.out ?_ ?_)
      | go_in)
    · intro _ hl0
      have HE : Hid (RS = -sm) := by
        show _ = _
        rw [HRS.out, if_neg HR.out, HSM.out, seL_end hl0]
      clear hl0
      go_wp2
      go_ret
      exact ⟨ret_int HE.out.symm, HBW.out _ HB.out⟩
    · intro x0 cx w1 cnt1 hwx hwc hlx hat hrg1 hlt hg1 hs1 hen
      obtain ⟨x, hx⟩ : ∃ x : Nat, x0 = (x : Int) := by
        have : 0 ≤ x0 := by
          simp [Lit.wf, IntKind.min, IntKind.max, IntKind.signed, IntKind.bits] at hwx
          omega
        exact ⟨x0.toNat, by omega⟩
      subst hx
      have hxM : x ∈ M := HSU.out x hlx
      have hcx : cx = f x := by
        have h1 := hat (.lit (.int .i64 0))
        rw [HVA.out x hxM] at h1
        simpa using h1.symm
      subst hcx
      have hx64 := HML.out x hxM
      have hB1 : Below W.heap.size W w1 := HBB.out w1 (by rw [hs1]; exact HB.out.size) (fun k hk => (hg1.block k (by have := HB.out.size; omega) (fun e => by simp at e; omega)).trans (HB.out.block k hk)) (hg1.os.trans HB.out.os) (hg1.tape.trans HB.out.tape) (hg1.output.trans HB.out.output)
      have HST : Hid (seL M f F (fun z => left z && !z.sameKey (.int .u64 (x : Int))) = sm + (if x &&& F = x then f x else 0)) := by
        show _ = _
        rw [seL_step hlx HMN.out, if_pos hxM, HSM.out]
      have HRG3 : Hid (w1.ranges Try.prog 54 (plainElem (H := Unit) Try.prog 3) b W.heap.size M.length D (fun z => left z && !z.sameKey (.int .u64 (x : Int))) cnt1) := hrg1
      have HSU2 : Hid (∀ y : Nat, (left (.int .u64 (y : Int)) && !(Lit.int .u64 (y : Int)).sameKey (.int .u64 (x : Int))) = true → y ∈ M) := fun y hy => HSU.out y (by simp at hy; exact hy.1)
      have HLT : Hid (cnt1 < cnt) := hlt
      have HB1 : Hid (Below W.heap.size W w1) := hB1
      have hfx := HF.out x
      obtain ⟨q1, q2⟩ := HCE.out w1 hB1
      have HI2 := HIN.out x
      have HOF2 := HOF.out w1 hB1
      clear hwx hwc hlx hat hrg1 hlt hg1 hs1 hB1 hxM HVA HSU HRG2 HSM
      generalize f x = fx at *
      go_wp2_with fail
      refine HOF2.mono ?_
      rintro e w2 ⟨rfl, nq, hw2⟩
      subst hw2
      clear HOF2
      go_wp2_with fail
      refine (HI2 _ hx64).mono ?_
      rintro e w3 ⟨rfl, hw3⟩
      subst hw3
      have HR4 : Hid ((w1.drewN nq).ranges Try.prog 54 (plainElem (H := Unit) Try.prog 3) b W.heap.size M.length D (fun z => left z && !z.sameKey (.int .u64 (x : Int))) cnt1) := by
        exact HRG3.out
      have HB4 : Hid (Below W.heap.size W (w1.drewN nq)) := by
        obtain ⟨h1, h2, h3, h4, h5⟩ := HB1.out
        exact ⟨h1, h2, h3, h4, h5⟩
      have HME : Hid ((w1.drewN nq).rangeLeft b W.heap.size < wr.rangeLeft b W.heap.size) := by
        show _ < _
        rw [HR4.out.left_eq, HRG5.out.left_eq]
        exact HLT.out
      clear HRG3 HB1 HI2 q1 q2 hen
      by_cases hin : x &&& F = x
      · rw [if_pos hin] at HST
        have hid : decide (x &&& F = x) = true := decide_eq_true hin
        have hbd : -9000 ≤ sm + fx ∧ sm + fx ≤ 9000 := by omega
        obtain ⟨hbd1, hbd2⟩ := hbd
        clear hin
        generalize decide (x &&& F = x) = di at *
        subst hid
        go_wp2
        go_roundw
        case rel => exact ⟨_, cnt1, HR4.out, by rw [HST.out], HSU2.out, HB4.out⟩
        case measure => exact HME.out
      · rw [if_neg hin, Int.add_zero] at HST
        have hid : decide (x &&& F = x) = false := decide_eq_false hin
        clear hin
        generalize decide (x &&& F = x) = di at *
        subst hid
        go_wp2
        go_roundw
        case rel => exact ⟨_, cnt1, HR4.out, by rw [HST.out], HSU2.out, HB4.out⟩
        case measure => exact HME.out

end Go.Proofs.Ytmljnfgfjcjmmaa

/- plane.polynomial, plane.Poly. -/
namespace Go.Proofs.Ytmljnfgfjcjmmaa
open Go.RowKit Go.Maps Lin
attribute [local go_sem ↓] Go.wp_at_zero Go.wp_at_succ

theorem FlR.cells {B : Nat} {w : World} {uo : Option Addr} {n uc : Nat} {T : List FlT} (h : FlR B w (.slice uo n uc) T) {k : Nat} (hk : k < T.length) : ∃ g, uo = some ⟨g, 0, none⟩ ∧ B ≤ g ∧ g < w.heap.size ∧ w.cell? ⟨g, k * 2, none⟩ = some (T.getD k (.slice none 0 0, [], 0)).1 ∧ w.cell? ⟨g, k * 2 + 1, none⟩ = some (.int .i64 ((T.getD k (.slice none 0 0, [], 0)).2.2 : Nat)) := by
  rcases h.own.2 with ⟨_, h0⟩ | ⟨g, cap, cur, he, hB, hh, h1, _, h3, h4⟩
  · omega
  · simp only [Value.slice.injEq] at he
    obtain ⟨rfl, _, rfl⟩ := he
    have hc : ∀ t, t < T.length * 2 → w.cell? ⟨g, t, none⟩ = (encF (T.getD (t / 2) (.slice none 0 0, [], 0)))[t % 2]? := fun t ht => by
      rw [← flatF_get T t ht, ← h4, List.getElem?_take_of_lt ht, Array.getElem?_toList]
      simp [World.cell?, hh]
    refine ⟨g, rfl, hB, (Array.getElem?_eq_some_iff.1 hh).1, ?_, ?_⟩
    · rw [hc (k * 2) (by omega), Nat.mul_div_cancel _ (by decide), Nat.mul_mod_left]
      rfl
    · rw [hc (k * 2 + 1) (by omega), show (k * 2 + 1) / 2 = k by omega, show (k * 2 + 1) % 2 = 1 by omega]
      rfl

/-- Between the flats. -/
structure PoI (w : World) (d : Nat) (P : List (List Int)) (m : List (List Int × Nat)) (k : Nat) (W : World) : Prop where
  row : ∃ F, W.rowIs w.heap.size 3 (d + 1) F ∧ ∀ i, i < d + 1 → F i = .int .i64 ((coF d P m k).getD i 0)
  mp : ∃ D, NmI W (w.heap.size + 1) ((msk m).take k) (wf d P) D
  bel : Below w.heap.size w W
  size : w.heap.size + 2 ≤ W.heap.size

theorem PoI.below {w W W' : World} {d : Nat} {P : List (List Int)} {m : List (List Int × Nat)} {k : Nat} (h : PoI w d P m k W) (hb : Below W.heap.size W W') : PoI w d P m k W' := by
  have hs := h.size
  obtain ⟨F, h1, h2⟩ := h.row
  obtain ⟨D, h3⟩ := h.mp
  exact ⟨⟨F, h1.of_block (hb.block _ (by omega)), h2⟩, ⟨D, h3.below hb⟩, h.bel.trans (hb.mono h.bel.size), Nat.le_trans hs hb.size⟩

theorem coV_abs {d : Nat} {P : List (List Int)} {m : List (List Int × Nat)} {k j : Nat} (h6 : P.length ≤ 6) (hm : m.length ≤ 64) : (coV d P m k j).natAbs ≤ 4096 := by
  refine Nat.le_trans (list_abs (B := 64) _ fun x _ => ?_) ?_
  · split
    · exact wf_abs h6 _
    · decide
  · rw [List.length_take]
    have : min k m.length ≤ 64 := by omega
    exact Nat.le_trans (Nat.mul_le_mul_right 64 this) (by decide)

set_option maxRecDepth 100000 in
set_option maxHeartbeats 3200000 in
theorem polynomial_any (d B : Nat) (P : List (List Int)) (T : List FlT) (uo : Option Addr) (uc : Nat) (w : World) (hd1 : 1 ≤ d) (hd3 : d ≤ 3) (h6 : P.length ≤ 6) (hP : ∀ i, i < P.length → ∃ j, j < d ∧ V (P.getD i []) j ≠ 0) (hT : FlR B w (.slice uo T.length uc) T) (hS : FlS d P (T.map fun t => t.2)) :
    Calls Try.prog 15 #[.int .i64 d, .slice uo T.length uc] w fun e w' => ∃ co cc, e = .returned (.slice co (d + 1) cc) ∧ Sl 0 3 w' (.slice co (d + 1) cc) (ints ((List.range (d + 1)).map (whC d P))) ∧ Below w.heap.size w w' := by
  obtain ⟨m, hm⟩ : ∃ m, m = T.map fun t => t.2 := ⟨_, rfl⟩
  rw [← hm] at hS
  have hml : m.length = T.length := by rw [hm]; simp
  have hmg : ∀ k, k < T.length → (T.getD k (.slice none 0 0, [], 0)).2 = m.getD k ([], 0) := fun k hk => by rw [hm]; simp [hk]
  have hT64 : T.length ≤ 64 := by
    have h1 := hS.nodup h6
    have h2 : (msk m).length ≤ 2 ^ P.length := by
      have h3 : (msk m).length ≤ (List.range (2 ^ P.length)).length := List.Nodup.length_le_of_subset h1 fun x hx => by
        obtain ⟨y, hy, rfl⟩ := List.mem_map.1 hx
        exact List.mem_range.2 (hS.mem h6 hy).2.2.2
      simpa using h3
    have h3 : 2 ^ P.length ≤ 2 ^ 6 := Nat.pow_le_pow_right (by decide) h6
    have h4 : (msk m).length = m.length := by simp [msk]
    omega
  have hr3 : ∀ k, k < T.length → (m.getD k ([], 0)).2 ≤ d := fun k hk => by
    have hx : m.getD k ([], 0) ∈ m := by simp [hml, hk]
    obtain ⟨h1, h2, h3, h4⟩ := hS.mem h6 hx
    rw [h3, ← rS_rk (fl_iff.1 h2).1]
    exact rk_cap _ _
  have HMO : Hid (∀ k X, k < T.length → (∃ D, NmI X (w.heap.size + 1) ((msk m).take k) (wf d P) D) → Below w.heap.size w X → Calls Try.prog 21 #[.map (some (w.heap.size + 1)), .agg #[(T.getD k (.slice none 0 0, [], 0)).1, .int .i64 ((m.getD k ([], 0)).2 : Nat)]] X fun e w' => e = .returned (.int .i64 (wf d P (setN (m.getD k ([], 0)).1))) ∧ Below X.heap.size X w') := fun k X hk hD hX => by
    obtain ⟨D, hD⟩ := hD
    have hx : m.getD k ([], 0) ∈ m := by simp [hml, hk]
    obtain ⟨h1, h2, h3, h4⟩ := hS.mem h6 hx
    have hmk : ∀ x ∈ (msk m).take k, x < 64 := fun x hx => by
      obtain ⟨y, hy, rfl⟩ := List.mem_map.1 (List.mem_of_mem_take hx)
      exact Nat.lt_of_lt_of_le (hS.mem h6 hy).2.2.2 (Nat.le_trans (Nat.pow_le_pow_right (by decide) h6) (by decide))
    have hb64 : B64 (m.getD k ([], 0)).1 := fun z hz => by
      have := ((xt_all h6).1 _ h1).2.2 z hz
      omega
    have hsl : Sl 0 3 X (T.getD k (.slice none 0 0, [], 0)).1 (ints (m.getD k ([], 0)).1) := by
      have := (hT.inn _ (mem_getF T k hk)).below hX (Nat.le_refl _)
      rw [hmg k hk] at this
      exact this
    refine (moebius_any (w.heap.size + 1) ((msk m).take k) (wf d P) D (m.getD k ([], 0)).1 (m.getD k ([], 0)).2 _ X hD (by rw [List.length_take]; simp [msk]; omega) (List.Nodup.sublist (List.take_sublist _ _) (hS.nodup h6)) hmk (fun x => wf_abs h6 x) hsl hb64).mono ?_
    rintro e w' ⟨rfl, hb⟩
    refine ⟨ret_int ?_, hb⟩
    by_cases hr : (m.getD k ([], 0)).2 = 0
    · rw [if_pos hr]
      have h5 := rS_zero hP h4 (by rw [← h3]; exact hr)
      rw [h5]
      exact (wf_zero h6 hP).symm
    · rw [if_neg hr]
      exact hS.moe h6 (by omega) hr
  have HOF : Hid (∀ k X, k < T.length → Below w.heap.size w X → Calls Try.prog 22 #[(T.getD k (.slice none 0 0, [], 0)).1] X fun e w' => e = .returned (.int .u64 (setN (m.getD k ([], 0)).1 : Nat)) ∧ ∃ n, w' = X.drewN n) := fun k X hk hX => by
    have hx : m.getD k ([], 0) ∈ m := by simp [hml, hk]
    obtain ⟨h1, h2, h3, h4⟩ := hS.mem h6 hx
    have hsl : Sl 0 3 X (T.getD k (.slice none 0 0, [], 0)).1 (ints (m.getD k ([], 0)).1) := by
      have := (hT.inn _ (mem_getF T k hk)).below hX (Nat.le_refl _)
      rw [hmg k hk] at this
      exact this
    exact setOf_any 0 _ _ X hsl fun z hz => by
      have := ((xt_all h6).1 _ h1).2.2 z hz
      omega
  have HPU : Hid (∀ k X, k < T.length → (∃ D, NmI X (w.heap.size + 1) ((msk m).take k) (wf d P) D) → ∃ w2, (Instr.mapUpdate 49 (.map (some (w.heap.size + 1))) (.int .u64 (setN (m.getD k ([], 0)).1 : Nat)) (.int .i64 (wf d P (setN (m.getD k ([], 0)).1)))).run Try.prog X = .ok () w2 ∧ (∃ D', NmI w2 (w.heap.size + 1) ((msk m).take (k + 1)) (wf d P) D') ∧ X.grownBy w2 (some (w.heap.size + 1))) := fun k X hk hD => by
    obtain ⟨D, hD⟩ := hD
    have hx : m.getD k ([], 0) ∈ m := by simp [hml, hk]
    obtain ⟨h1, h2, h3, h4⟩ := hS.mem h6 hx
    have hlt : setN (m.getD k ([], 0)).1 < 64 := Nat.lt_of_lt_of_le h4 (Nat.le_trans (Nat.pow_le_pow_right (by decide) h6) (by decide))
    have := hD.put (x := setN (m.getD k ([], 0)).1) (by omega) (by rw [List.length_take]; simp [msk]; omega) (Nat.le_trans (wf_abs h6 _) (by decide))
    have e : (msk m).take (k + 1) = (msk m).take k ++ [setN (m.getD k ([], 0)).1] := by
      have hk2 : k < (msk m).length := by simp [msk]; omega
      rw [List.take_succ_eq_append_getElem hk2]
      simp [msk, show k < m.length by omega]
    rw [e]
    exact this
  have HSC : Hid (∀ k, k < T.length → coF d P m (k + 1) = (coF d P m k).set (d - (m.getD k ([], 0)).2) ((coF d P m k).getD (d - (m.getD k ([], 0)).2) 0 + wf d P (setN (m.getD k ([], 0)).1))) := fun k hk => coF_succ (by omega)
  have HCA : Hid (∀ k j, j < d + 1 → ((coF d P m k).getD j 0).natAbs ≤ 4096) := fun k j hj => by
    rw [coF_get hj]
    exact coV_abs h6 (by omega)
  have HWA : Hid (∀ F, (wf d P F).natAbs ≤ 64) := fun F => wf_abs h6 F
  have HCO : Hid (coF d P m m.length = (List.range (d + 1)).map (whC d P)) := hS.coef h6
  have HCL : Hid (∀ k X, k < T.length → Below w.heap.size w X → ∃ g, uo = some ⟨g, 0, none⟩ ∧ g < w.heap.size ∧ X.cell? ⟨g, k * 2, none⟩ = some (T.getD k (.slice none 0 0, [], 0)).1 ∧ X.cell? ⟨g, k * 2 + 1, none⟩ = some (.int .i64 ((m.getD k ([], 0)).2 : Nat))) := fun k X hk hX => by
    obtain ⟨g, h1, h2, h3, h4, h5⟩ := hT.cells hk
    rw [hmg k hk] at h5
    exact ⟨g, h1, h3, (hX.cell (p := ⟨g, k * 2, none⟩) h3).trans h4, (hX.cell (p := ⟨g, k * 2 + 1, none⟩) h3).trans h5⟩
  have HR3 : Hid (∀ k, k < T.length → (m.getD k ([], 0)).2 ≤ d) := hr3
  have HTF : Hid (∀ k, k < T.length → ∃ so n sc, (T.getD k (.slice none 0 0, [], 0)).1 = .slice so n sc) := fun k hk => by
    obtain ⟨so, sc, h, _, _⟩ := sl_open (hT.inn _ (mem_getF T k hk))
    exact ⟨so, _, sc, h⟩
  have HML : Hid (m.length = T.length) := hml
  have HZ : Hid (coF d P m 0 = List.replicate (d + 1) 0) := coF_zero d P m
  have hmk := run_make_row' (P := Try.prog) 22 3 (.int .i64 0) 8 Try.underlying22 Try.info3 rfl .i64 .i64 (d + 1) (by omega) (by omega)
  have hde : ((d + 1 : Nat) : Int) = (d : Int) + 1 := by omega
  simp only [hde] at hmk
  have hmm := @run_makeMap Try.prog
  clear hde
  clear hT hS hm hml hmg hr3 hP
  go_enter Try.func15, Try.ntmps15
  go_wp2
  obtain ⟨W2, hW2⟩ : ∃ W2, W2 = (w.alloc (.cells (madeCells #[.int .i64 0] (d + 1)) 3)).alloc (.map #[] 0) := ⟨_, rfl⟩
  have HI0 : Hid (PoI w d P m 0 W2) := by
    have hb1 : Below w.heap.size w (w.alloc (.cells (madeCells #[.int .i64 0] (d + 1)) 3)) := alloc_keep _ _
    have hb2 : Below w.heap.size w W2 := by rw [hW2]; exact hb1.alloc (by simp) _
    refine ⟨⟨fun _ => .int .i64 0, ⟨madeCells #[.int .i64 0] (d + 1), ?_, by rw [size_madeCells], fun i hi => ?_⟩, fun i hi => ?_⟩, ⟨.map [], ?_, fun x => ?_, fun x hx => absurd hx (by simp)⟩, hb2, by rw [hW2]; simp⟩
    · rw [hW2]
      exact (Below.heap_alloc _ _ _ (by simp)).trans (heap_alloc_new _ _)
    · rw [← Array.getElem?_toList, toList_madeCells_one]; simp [hi]
    · rw [HZ.out]
      simp [hi]
    · have := World.ownsMap_made (w.alloc (.cells (madeCells #[.int .i64 0] (d + 1)) 3)) Try.prog 54 (plainElem (H := Unit) Try.prog 3)
      rw [size_alloc] at this
      rw [hW2]
      exact this
    · simp [Maps.has]
  rw [← hW2]
  clear hW2 hmk hmm HZ
  go_loopw [8, 9, 16] (fun _ _ i wr => ∃ k : Nat, k ≤ T.length ∧ i = .int .i64 (k : Int) ∧ PoI w d P m k wr) (fun _ _ i _ => T.length - (intOf i).toNat)
  case atStart => exact ⟨0, Nat.zero_le _, rfl, HI0.out⟩
  case round =>
    obtain ⟨k, hk, rfl, hI⟩ := hrel
    have HI : Hid (PoI w d P m k wr) := hI
    have hsz := hI.size
    by_cases hlt : k < T.length
    · obtain ⟨g, hg, hgl, c1, c2⟩ := HCL.out k wr hlt hI.bel
      subst hg
      obtain ⟨so, sn, sc, hsf⟩ := HTF.out k hlt
      have hkI : (k : Int) < (T.length : Int) := by omega
      have hrd := HR3.out k hlt
      have HM2 := fun X => HMO.out k X hlt
      have HO2 := fun X => HOF.out k X hlt
      have HP2 := fun X => HPU.out k X hlt
      have HS2 := HSC.out k hlt
      rw [hsf] at c1 HM2 HO2
      clear hsf hI HMO HOF HPU HSC HCL HTF
      have HW2 := HWA.out (setN (m.getD k ([], 0)).1)
      generalize wf d P (setN (m.getD k ([], 0)).1) = wv at *
      generalize setN (m.getD k ([], 0)).1 = Fk at *
      generalize (m.getD k ([], 0)).2 = rk' at *
      have HM3 : Hid (∀ X, (∃ D, NmI X (w.heap.size + 1) ((msk m).take k) (wf d P) D) → Below w.heap.size w X → Calls Try.prog 21 #[.map (some (w.heap.size + 1)), .agg #[.slice so sn sc, .int .i64 (rk' : Nat)]] X fun e w' => e = .returned (.int .i64 wv) ∧ Below X.heap.size X w') := HM2
      have HO3 : Hid (∀ X, Below w.heap.size w X → Calls Try.prog 22 #[.slice so sn sc] X fun e w' => e = .returned (.int .u64 (Fk : Nat)) ∧ ∃ n, w' = X.drewN n) := HO2
      have HP3 : Hid (∀ X, (∃ D, NmI X (w.heap.size + 1) ((msk m).take k) (wf d P) D) → ∃ w2, (Instr.mapUpdate 49 (.map (some (w.heap.size + 1))) (.int .u64 (Fk : Nat)) (.int .i64 wv)).run Try.prog X = .ok () w2 ∧ (∃ D', NmI w2 (w.heap.size + 1) ((msk m).take (k + 1)) (wf d P) D') ∧ X.grownBy w2 (some (w.heap.size + 1))) := HP2
      have HS3 : Hid (coF d P m (k + 1) = (coF d P m k).set (d - rk') ((coF d P m k).getD (d - rk') 0 + wv)) := HS2
      clear HM2 HO2 HP2 HS2
      obtain ⟨X1, hX1⟩ : ∃ X1, X1 = wr.alloc (.cells #[.slice so sn sc, .int .i64 (rk' : Nat)] 51) := ⟨_, rfl⟩
      have hbX : Below wr.heap.size wr X1 := by rw [hX1]; exact alloc_keep _ _
      have hkX : X1.heap[wr.heap.size]? = some (.cells #[.slice so sn sc, .int .i64 (rk' : Nat)] 51 (0, 0)) := by rw [hX1]; exact alloc_new _ _
      have hsX : X1.heap.size = wr.heap.size + 1 := by rw [hX1]; exact size_alloc _ _
      have HIX := HI.out.below hbX
      have HM4 := HM3.out X1 HIX.mp HIX.bel
      have HXX : Hid (X1 = wr.alloc (.cells #[.slice so sn sc, .int .i64 (rk' : Nat)] 51)) := hX1
      have HBX : Hid (Below wr.heap.size wr X1 ∧ X1.heap.size = wr.heap.size + 1 ∧ X1.heap[wr.heap.size]? = some (.cells #[.slice so sn sc, .int .i64 (rk' : Nat)] 51 (0, 0))) := ⟨hbX, hsX, hkX⟩
      clear hbX hkX hsX hX1 HIX HM3
      go_wp2_with fail
      rw [← HXX.out]
      refine HM4.mono ?_
      rintro e w2 ⟨rfl, hb2⟩
      have hbW : Below wr.heap.size wr w2 := HBX.out.1.trans (hb2.mono HBX.out.1.size)
      have HI2 := HI.out.below hbW
      have hk2 : w2.heap[wr.heap.size]? = some (.cells #[.slice so sn sc, .int .i64 (rk' : Nat)] 51 (0, 0)) := (hb2.block _ (by have := HBX.out.2.1; omega)).trans HBX.out.2.2
      have c3 : w2.cell? ⟨wr.heap.size, 0, none⟩ = some (.slice so sn sc) := by simp [World.cell?, hk2]
      have HK2 : Hid (w2.heap[wr.heap.size]? = some (.cells #[.slice so sn sc, .int .i64 (rk' : Nat)] 51 (0, 0))) := hk2
      have HIW : Hid (PoI w d P m k w2) := HI2
      have HO4 := HO3.out w2 HI2.bel
      clear hb2 hbW HI2 hk2 HM4 HXX HBX c1 c2
      go_wp2_with fail
      refine HO4.mono ?_
      rintro e w3 ⟨rfl, nq, hw3⟩
      have h3h : w3.heap = w2.heap := by rw [hw3]; rfl
      have HI3 : PoI w d P m k w3 := by
        rw [hw3]
        obtain ⟨⟨F, p1, p2⟩, ⟨D, p3⟩, p4, p5⟩ := HIW.out
        obtain ⟨q1, q2, q3, q4, q5⟩ := p4
        exact ⟨⟨F, p1, p2⟩, ⟨D, p3.own, p3.has, p3.val⟩, ⟨q1, q2, q3, q4, q5⟩, p5⟩
      obtain ⟨w4, hp4, hm4, hg4⟩ := HP3.out w3 HI3.mp
      obtain ⟨F, hF1, hF2⟩ := HI3.row
      have hs3 := HI3.size
      have hF4 : w4.rowIs w.heap.size 3 (d + 1) F := hF1.of_block (hg4.block _ (by omega) (by simp))
      have hk4 : w4.heap[wr.heap.size]? = some (.cells #[.slice so sn sc, .int .i64 (rk' : Nat)] 51 (0, 0)) := by
        rw [hg4.block _ (by rw [h3h]; exact (Array.getElem?_eq_some_iff.1 HK2.out).1) (by simp; omega), h3h]
        exact HK2.out
      obtain ⟨j, hj⟩ : ∃ j, j = d - rk' := ⟨_, rfl⟩
      have hjI : (d : Int) - (rk' : Int) = (j : Int) := by omega
      have hjd : j < d + 1 := by omega
      have hjdI : (j : Int) < (d : Int) + 1 := by omega
      have c4 : w4.cell? ⟨wr.heap.size, 1, none⟩ = some (.int .i64 (rk' : Nat)) := by simp [World.cell?, hk4]
      have c5 : w4.cell? ⟨w.heap.size, j, none⟩ = some (.int .i64 ((coF d P m k).getD j 0)) := by rw [hF4.cell hjd, hF2 j hjd]
      have c6 : w4.frozen? ⟨w.heap.size, j, none⟩ = false := hF4.frozen j
      have hca := HCA.out k j hjd
      have HFI : Hid (PoI w d P m (k + 1) (w4.setCell ⟨w.heap.size, j, none⟩ (.int .i64 ((coF d P m k).getD j 0 + wv)))) := by
        refine ⟨⟨_, hF4.set j _, fun i hi => ?_⟩, ?_, ?_, ?_⟩
        · rw [HS3.out, ← hj]
          by_cases e : i = j
          · subst e
            have hl : i < (coF d P m k).length := by rw [coF_len]; omega
            simp [hl]
          · have e2 : ((coF d P m k).set j ((coF d P m k).getD j 0 + wv)).getD i 0 = (coF d P m k).getD i 0 := by
              rw [List.getD_eq_getElem?_getD, List.getElem?_set_ne (Ne.symm e), ← List.getD_eq_getElem?_getD]
            rw [if_neg e, hF2 i hi, e2]
        · obtain ⟨D', hD⟩ := hm4
          refine ⟨D', hD.own.kept (row := some w.heap.size) ?_ (by simp), hD.has, hD.val⟩
          exact ⟨rfl, rfl, rfl, by simp [World.setCell], fun b hb hne => Below.heap_setCell _ _ _ _ (fun e => hne (by rw [e]))⟩
        · have hb5 : Below w.heap.size w w4 := HI3.bel.grown hg4 HI3.bel.size (fun x hx => by simp at hx; omega)
          exact hb5.setCell (by show w.heap.size ≤ w.heap.size; omega) _
        · have := hg4.size
          simp [World.setCell]
          omega
      have HGS : Hid True := trivial
      clear HI3 hm4 hg4 hF1 hF2 hF4 hk4 HS3 hj HIW HO4 HO3 HP3 h3h c3 HK2
      subst hw3
      generalize (coF d P m k).getD j 0 = av at *
      go_wp2
      exact ⟨⟨k + 1, by omega, by go_num, HFI.out⟩, by simp [intOf]; omega⟩
    · have hke : k = T.length := by omega
      subst hke
      obtain ⟨F, hF1, hF2⟩ := hI.row
      have HSL : Hid (Sl 0 3 wr (.slice (some ⟨w.heap.size, 0, none⟩) (d + 1) (d + 1)) (ints ((List.range (d + 1)).map (whC d P)))) := by
        rw [← HCO.out, HML.out]
        exact row_slT hF1 hF2 (coF_len _ _ _ _) (Nat.le_refl _) (by omega)
      have HBE : Hid (Below w.heap.size w wr) := hI.bel
      clear hF1 hF2 hI HMO HOF HPU HSC HCL HTF
      go_wp2
      go_ret
      exact ⟨_, _, rfl, HSL.out, HBE.out⟩

set_option maxRecDepth 100000 in
theorem poly_any (d : Nat) (P : List (List Int)) (v : Value) (w : World) (hd1 : 1 ≤ d) (hd3 : d ≤ 3) (hG : PlG d P) (h5 : P.length ≤ 6) (hv : Mat 0 22 3 w v P) :
    Calls Try.prog 8 #[.int .i64 d, v] w fun e w' => ∃ co cc, e = .returned (.tuple #[.slice co (d + 1) cc, .int .i64 0]) ∧ Sl 0 3 w' (.slice co (d + 1) cc) (ints ((List.range (d + 1)).map (whC d P))) ∧ Below w.heap.size w w' := by
  have hP : ∀ i, i < P.length → ∃ j, j < d ∧ V (P.getD i []) j ≠ 0 := fun i hi => by
    refine Classical.byContradiction fun hn => hG.one _ (getD_memR hi) ?_
    have h0 : ∀ j, j < d → V (P.getD i []) j = 0 := fun j hj => Classical.byContradiction fun h => hn ⟨j, hj, h⟩
    have h1 : rk d [P.getD i []] ≤ rk d [] := rk_le fun u _ r hr => by
      rw [List.mem_singleton.1 hr]
      exact dot_zero h0
    have h2 : rk d ([] : List (List Int)) = 0 := rfl
    unfold rk at h1 h2
    omega
  have H1 : Hid (Calls Try.prog 14 #[.int .i64 d, v] w fun e w' => e = .returned (.int .i64 0) ∧ Below w.heap.size w w') := planeCheck_any d P v w hd1 hd3 hG (by omega) hv
  have H2 : Hid (∀ X, Below w.heap.size w X → Calls Try.prog 16 #[.int .i64 d, v] X fun e w' => ∃ uo uc T, e = .returned (.slice uo T.length uc) ∧ FlR (X.heap.size + 3) w' (.slice uo T.length uc) T ∧ FlS d P (T.map fun t => t.2) ∧ Below X.heap.size X w') := fun X hX => flats_any d P v X hd1 hd3 hG.row (flat_none hP) h5 (hv.below hX (Nat.le_refl _))
  have H3 : Hid (∀ (B : Nat) (T : List FlT) uo uc X, FlR B X (.slice uo T.length uc) T → FlS d P (T.map fun t => t.2) → Calls Try.prog 15 #[.int .i64 d, .slice uo T.length uc] X fun e w' => ∃ co cc, e = .returned (.slice co (d + 1) cc) ∧ Sl 0 3 w' (.slice co (d + 1) cc) (ints ((List.range (d + 1)).map (whC d P))) ∧ Below X.heap.size X w') := fun B T uo uc X h1 h2 => polynomial_any d B P T uo uc X hd1 hd3 (by omega) hP h1 h2
  clear hv hG hP
  go_enter Try.func8, Try.ntmps8
  go_wp2_with fail
  refine H1.out.mono ?_
  rintro e w1 ⟨rfl, hb1⟩
  have HB1 : Hid (Below w.heap.size w w1) := hb1
  clear hb1
  go_wp2_with fail
  refine (H2.out w1 HB1.out).mono ?_
  rintro e w2 ⟨uo, uc, T, rfl, hf, hs, hb2⟩
  have HK := H3.out _ T uo uc w2 hf hs
  have HB2 : Hid (Below w.heap.size w w2) := HB1.out.trans (hb2.mono HB1.out.size)
  clear hf hs hb2
  go_wp2_with fail
  refine HK.mono ?_
  rintro e w3 ⟨co, cc, rfl, hsl, hb3⟩
  have HSL : Hid (Sl 0 3 w3 (.slice co (d + 1) cc) (ints ((List.range (d + 1)).map (whC d P)))) := hsl
  have HB3 : Hid (Below w.heap.size w w3) := HB2.out.trans (hb3.mono HB2.out.size)
  clear hsl hb3 HK
  go_wp2
  refine bodyPost_ret (v := .tuple #[.slice co (d + 1) cc, .int .i64 0]) (by simp [results, Try.results8, go_sem]) rfl ⟨co, cc, rfl, HSL.out, HB3.out⟩

end Go.Proofs.Ytmljnfgfjcjmmaa
