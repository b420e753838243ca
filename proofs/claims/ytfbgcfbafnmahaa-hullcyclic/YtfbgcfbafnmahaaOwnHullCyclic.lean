/- HullCyclic: at any two numbers the program's Cyclic and the document's answer agree in error, dimension and points; no condition. -/
import Derived.Test.YtfbgcfbafnmahaaCycB
import Derived.ProofKit
import Derived.OpenShut
import Derived.ChangeOld
import Derived.Below
namespace Go.Proofs.Ytfbgcfbafnmahaa.HullCyclic
open Go.ChangeShapes Go.WideShapes Go.ChangeAt Go.RowKit

/-- What a call that makes a polytope comes to. -/
def Makes (f : FuncId) (d n D E : Int) (P : List (List Int)) : Prop :=
  ∀ w : World, Calls Try.prog f #[.int .i64 d, .int .i64 n] w fun e w' =>
    (∃ v, e = .returned (.tuple #[.agg #[.int .i64 D, v], .int .i64 E]) ∧ Mat w.heap.size 28 3 w' v P) ∧ Below w.heap.size w w'

theorem makes_none {f : FuncId} {d n E : Int} (h : ∀ w : World, Calls Try.prog f #[.int .i64 d, .int .i64 n] w fun e w' => e = .returned (.tuple #[.agg #[.int .i64 0, .slice none 0 0], .int .i64 E]) ∧ Below w.heap.size w w') : Makes f d n 0 E [] :=
  fun w => (h w).mono fun _ _ ⟨he, hb⟩ => ⟨⟨_, he, [], rfl, Sl.nil _ _ _, fun i hi => absurd hi (by simp)⟩, hb⟩

theorem both (d n : Int) : ∃ D E P, Makes 33 d n D E P ∧ Makes 34 d n D E P := by
  by_cases hd : d < 1 ∨ 4 < d
  · exact ⟨0, 1, [], makes_none fun w => cyclic_dim d n w hd, makes_none fun w => cyclicOf_dim d n w hd⟩
  · by_cases hn : n ≤ d ∨ 24 < n
    · exact ⟨0, 2, [], makes_none fun w => cyclic_count d n w (by omega) (by omega) hn, makes_none fun w => cyclicOf_count d n w (by omega) (by omega) hn⟩
    · obtain ⟨a, rfl⟩ := Int.eq_ofNat_of_zero_le (show 0 ≤ d by omega)
      obtain ⟨b, rfl⟩ := Int.eq_ofNat_of_zero_le (show 0 ≤ n by omega)
      exact ⟨cD b a, cE b a, cP b a, fun w => cyclic_main a b w (by omega) (by omega) (by omega) (by omega), fun w => cyclicOf_main a b w (by omega) (by omega) (by omega) (by omega)⟩

set_option maxRecDepth 100000 in
set_option maxHeartbeats 400000 in
theorem walk (d n : Int) (w : World) :
    Calls Try.prog 6 #[.int .i64 d, .int .i64 n] w fun e w' => e = .returned (.bool true) ∧ Below w.heap.size w w' := by
  obtain ⟨D, E, P, hc, ho⟩ := both d n
  go_enter Try.func6, Try.ntmps6
  go_wp2_with fail
  refine (hc w).mono ?_
  rintro e w1 ⟨⟨v, rfl, hm⟩, hb⟩
  have HM : Hid (Mat w.heap.size 28 3 w1 v P) := hm
  have HB : Hid (Below w.heap.size w w1) := hb
  clear hm hb
  obtain ⟨vo, vc, hv, -, -⟩ := mat_open HM.out
  subst hv
  go_wp2_with fail
  obtain ⟨W, hW⟩ : ∃ W, W = w1.alloc (.cells #[.int .i64 D, .slice vo P.length vc] 42) := ⟨_, rfl⟩
  have hWs : W.heap.size = w1.heap.size + 1 := by rw [hW]; simp
  have c0 : W.cell? ⟨w1.heap.size, 0, none⟩ = some (.int .i64 D) := by rw [hW]; simp
  have c1 : W.cell? ⟨w1.heap.size, 1, none⟩ = some (.slice vo P.length vc) := by rw [hW]; simp
  have HMW : Hid (Mat w.heap.size 28 3 W (.slice vo P.length vc) P) := by
    rw [hW]; exact HM.out.below ((Below.refl w1.heap.size w1).alloc (Nat.le_refl _) _) (Nat.le_refl _)
  have HBW : Hid (Below w.heap.size w W) := by rw [hW]; exact HB.out.alloc HB.out.size _
  rw [← hW]
  clear hW HM HB
  refine (ho W).mono ?_
  rintro e w2 ⟨⟨u, rfl, hm⟩, hb⟩
  have d0 : w2.cell? ⟨w1.heap.size, 0, none⟩ = some (.int .i64 D) := (hb.cell (by rw [hWs]; simp)).trans c0
  have d1 : w2.cell? ⟨w1.heap.size, 1, none⟩ = some (.slice vo P.length vc) := (hb.cell (by rw [hWs]; simp)).trans c1
  have hs2 : w1.heap.size < w2.heap.size := by have := hb.size; omega
  have HN1 : Hid (Mat w.heap.size 28 3 w2 (.slice vo P.length vc) P) := HMW.out.below hb (Nat.le_refl _)
  have HN2 : Hid (Mat W.heap.size 28 3 w2 u P) := hm
  have HB2 : Hid (Below w.heap.size w w2) := HBW.out.trans (hb.mono (HBW.out.size))
  have hs3 : w.heap.size ≤ w2.heap.size := HB2.out.size
  clear hm hb c0 c1 HMW HBW hc ho
  obtain ⟨uo, uc, hu, -, -⟩ := mat_open HN2.out
  subst hu
  go_wp2_with fail
  have hal := (Below.refl w2.heap.size w2).alloc (Nat.le_refl _) (.cells #[.int .i64 D, .slice uo P.length uc] 42)
  refine (sameAll_any (w2.heap.size + 1) P P _ _ _ ((HN1.out.below hal (Nat.le_refl _)).any (by simp)) ((HN2.out.below hal (Nat.le_refl _)).any (by simp))).mono ?_
  rintro e w3 ⟨rfl, m, rfl⟩
  have HAL : Hid (Below w.heap.size w (w2.alloc (.cells #[.int .i64 D, .slice uo P.length uc] 42))) := HB2.out.alloc hs3 _
  clear hal
  go_wp2
  go_ret
  exact ⟨rfl, HAL.out.trans ⟨rfl, rfl, rfl, Nat.le_refl _, fun _ _ => rfl⟩⟩

theorem own : ownKnob Try.prog.godebug = none := by kernel_rfl

set_option maxRecDepth 100000 in
theorem lifted (os : Os) (started : os.Started) (H : Type) (enc : TypeId × Value → H) :
    ReturnsInHanded {} Try.checked os 6 .any (Rows.hullCyclicSpec.pre6 enc Try.prog Try.f6 Rows.hullCyclicRow.domain false) (Rows.hullCyclicSpec.post enc Try.prog Try.f6 false true false false) := by
  refine returnsInHanded_of_change (C := Try.checked) own started (by kernel_rfl) Try.func6
    (ChangeSpec.witness6 (enc := enc) (C := Try.checked) false ⟨#[], #[.int .i64 0, .int .i64 0], []⟩ 8 (by kernel_rfl) (by kernel_rfl) (by kernel_rfl) (by kernel_rfl)) ?_
  intro W base args ds gs before hval0 hW hcnd _
  have hval : ∀ (j : Nat) t v, Try.f6.params[j]? = some t → args[j]? = some v → Value.okWide Try.prog W .any base t v := hval0
  have hW' := hW
  obtain ⟨p, q, hA0, hV, rfl, hfz, hnd⟩ := hW
  have hA : DataW.TrodAll enc Try.prog W 0 (fun _ => true) true Try.f6.params.toList args.toList ds p := hA0
  rw [Try.params6] at hA hval
  obtain ⟨v0, vs0, d0, ds0, p0, q0, hargs, rfl, rfl, h0, r0⟩ := trodAll_cons hA
  obtain ⟨v1, vs1, d1, ds1, p1, q1, rfl, rfl, rfl, h1, r1⟩ := trodAll_cons r0
  obtain ⟨rfl, rfl, rfl⟩ := trodAll_nil r1
  obtain rfl : args = #[v0, v1] := by cases args; simp_all
  obtain ⟨rfl, rfl⟩ := trodVars_none hV
  obtain ⟨a0, rfl, rfl, rfl, w0⟩ := open_int Try.underlying3 (hval 0 3 v0 rfl rfl) h0
  obtain ⟨a1, rfl, rfl, rfl, w1⟩ := open_int Try.underlying3 (hval 1 3 v1 rfl rfl) h1
  clear hA0 hval0
  refine (walk a0 a1 W).mono fun e W' ⟨he, bel⟩ => ?_
  subst he
  exact ⟨_, rfl, _, _, _, [], _, [], hW', trodAll_mk1 (shut_bool Try.underlying4 _), (trodAll_cons_mk (shut_int Try.underlying3 w0) (trodAll_cons_mk (shut_int Try.underlying3 w1) trodAll_mk0)), rfl, bel.frame _, fun h => by cases h⟩

theorem over : Rows.hullCyclicRow.holds Try.pinned (OpenSpec.ofChange Rows.hullCyclicSpec) :=
  OpenClaim.holds_of_wide 6 Try.f6 rfl rfl rfl rfl rfl rfl rfl ⟨rfl, rfl, rfl, rfl, rfl⟩ rfl rfl rfl rfl rfl (by kernel_rfl) Try.func6 (by kernel_rfl)
    (of_decide_eq_true (by kernel_rfl)) (by unfold Func.isWrapper; first | (rw [if_pos (by decide +kernel)]; kernel_rfl) | (rw [if_neg (by decide +kernel)]; exact ⟨rfl, rfl⟩))
    (fun os started H enc _ => lifted os started H enc)

end Go.Proofs.Ytfbgcfbafnmahaa.HullCyclic

namespace Go.Proofs.Ytfbgcfbafnmahaa

theorem hullCyclic_holds : Rows.HullCyclicSaid := HullCyclic.over
#print axioms hullCyclic_holds

end Go.Proofs.Ytfbgcfbafnmahaa
