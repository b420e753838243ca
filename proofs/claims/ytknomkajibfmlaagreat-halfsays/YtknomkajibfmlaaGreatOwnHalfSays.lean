/- HalfSays: whatever cut and number are handed in, the program says, and answers, what the document does: whether it may be, whether nothing is in it, what it is without a direction, and its corners, errors as well. -/
import Derived.Test.YtknomkajibfmlaaGreatRows
import Derived.Test.YtknomkajibfmlaaGreatMgAZ
import Derived.ProofKit
import Derived.Deep.Slices
import Derived.ChangeSame
import Derived.OpenShut
import Derived.ChangeOld
import Derived.Below
namespace Go.Proofs.YtknomkajibfmlaaGreat.HalfSays
open Go.ChangeShapes Go.WideShapes Go.ChangeAt Go.RowKit Go.Deep

theorem own : ownKnob Tryz.prog.godebug = none := by kernel_rfl

theorem cellsW : Tryz.prog.cellsOf 24 = 2 := by kernel_rfl

theorem cellsM : Tryz.prog.cellsOf 22 = 1 := by kernel_rfl

set_option maxRecDepth 100000 in
/-- A number and rows as they are handed in. -/
theorem open_cut {H : Type} {enc : TypeId × Value → H} {w : World} {cs : Array Value} {d : DataW H} {p : List MemPlace} (hcs : cs.size = Tryz.prog.cellsOf 24) (h : DataW.Trod enc Tryz.prog w 0 (fun _ => true) true 24 (.agg cs) d p) : ∃ N v m, cs = #[.int .i64 N, v] ∧ Mat w.heap.size 38 3 w v m := by
  obtain ⟨fuel, hf⟩ := h
  obtain ⟨y0, y1, n, _, _, h0, h1⟩ := trod_struct2 Tryz.underlying24 hf
  rw [cellsW] at hcs
  have hl : cs.toList.length = 2 := by simp [hcs]
  have e : (Value.agg cs).cells.toList = cs.toList := rfl
  rw [e] at h0 h1
  obtain ⟨x0, x1, hx⟩ : ∃ x0 x1, cs = #[x0, x1] := by
    rcases cs with ⟨l⟩
    match l, hl with
    | [x0, x1], _ => exact ⟨x0, x1, rfl⟩
  subst hx
  obtain ⟨N, hN, _⟩ := DataW.trod_int (P := Tryz.prog) Tryz.underlying3 h0
  rw [Tryz.cells3] at hN
  simp only [List.drop_zero, List.take_succ_cons, List.take_zero, List.cons.injEq, and_true] at hN
  subst hN
  rw [cellsM] at h1
  have h1' : DataW.trod enc Tryz.prog w 0 (fun _ => true) true n 22 [x1] = some y1 := h1
  rcases open_int_rows Tryz.underlying22 Tryz.underlying38 Tryz.underlying3 Tryz.cells38 Tryz.cells3 h1' with ⟨hc, _⟩ | ⟨a, len, cap, A, L, C, Z, hc, _⟩
  · simp only [List.cons.injEq, and_true] at hc
    subst hc
    exact ⟨N, _, [], rfl, [], rfl, Sl.nil _ _ _, fun i hi => absurd hi (by simp)⟩
  · simp only [List.cons.injEq, and_true] at hc
    subst hc
    obtain ⟨m, hm⟩ := open_mat (p := y1.2) (d := y1.1) ⟨n, h1'⟩
    exact ⟨N, _, m, rfl, hm⟩

set_option maxRecDepth 100000 in
theorem lifted (os : Os) (started : os.Started) (H : Type) (enc : TypeId × Value → H) :
    ReturnsInHanded {} Tryz.checked os 3 .any (Rows.halfSaysSpec.pre6 enc Tryz.prog Tryz.f3 Rows.halfSaysRow.domain false) (Rows.halfSaysSpec.post enc Tryz.prog Tryz.f3 false true false false) := by
  refine returnsInHanded_of_change (C := Tryz.checked) own started (by kernel_rfl) Tryz.func3
    (ChangeSpec.witness6 (enc := enc) (C := Tryz.checked) false ⟨#[], #[.agg #[.int .i64 0, .slice none 0 0], .int .i64 0], []⟩ 8 (by kernel_rfl) (by kernel_rfl) (by kernel_rfl) (by kernel_rfl)) ?_
  intro W base args ds gs before hval0 hW hcnd _
  have hval : ∀ (j : Nat) t v, Tryz.f3.params[j]? = some t → args[j]? = some v → Value.okWide Tryz.prog W .any base t v := hval0
  have hW' := hW
  obtain ⟨p, q, hA0, hV, rfl, hfz, hnd⟩ := hW
  have hA : DataW.TrodAll enc Tryz.prog W 0 (fun _ => true) true Tryz.f3.params.toList args.toList ds p := hA0
  rw [Tryz.params3] at hA hval
  obtain ⟨v0, vs0, d0, ds0, p0, q0, hargs, rfl, rfl, h0, r0⟩ := trodAll_cons hA
  obtain ⟨v1, vs1, d1, ds1, p1, q1, rfl, rfl, rfl, h1, r1⟩ := trodAll_cons r0
  obtain ⟨rfl, rfl, rfl⟩ := trodAll_nil r1
  obtain rfl : args = #[v0, v1] := by cases args; simp_all
  obtain ⟨rfl, rfl⟩ := trodVars_none hV
  obtain ⟨cs0, rfl, hcs0⟩ := okWide_struct Tryz.underlying24 (hval 0 24 v0 rfl rfl)
  obtain ⟨N0, u0, x0, rfl, hx0⟩ := open_cut hcs0 h0
  obtain ⟨n1, rfl, rfl, rfl, w1⟩ := open_int Tryz.underlying3 (hval 1 3 v1 rfl rfl) h1
  have hlt0 : ∀ x ∈ p0, x.block < W.heap.size := fun x hx => hW'.lt x (by simp [hx])
  clear hA0 hval0
  refine (halfSays_any N0 x0 n1 _ W hx0).mono fun e W' ⟨he, bel⟩ => ?_
  subst he
  exact ⟨_, rfl, _, _, _, [], _, [], hW', trodAll_mk1 (shut_bool Tryz.underlying4 _), (trodAll_cons_mk (Below.trod Tryz.laidOut (by kernel_rfl) (of_decide_eq_true (by kernel_rfl)) h0 bel hlt0) (trodAll_cons_mk (shut_int Tryz.underlying3 w1) trodAll_mk0)), rfl, bel.frame _, fun h => by cases h⟩

theorem over : Rows.halfSaysRow.holds Tryz.pinned (OpenSpec.ofChange Rows.halfSaysSpec) :=
  OpenClaim.holds_of_wide 3 Tryz.f3 rfl rfl rfl rfl rfl rfl rfl ⟨rfl, rfl, rfl, rfl, rfl⟩ rfl rfl rfl rfl rfl (by kernel_rfl) Tryz.func3 (by kernel_rfl)
    (of_decide_eq_true (by kernel_rfl)) (by unfold Func.isWrapper; first | (rw [if_pos (by decide +kernel)]; kernel_rfl) | (rw [if_neg (by decide +kernel)]; exact ⟨rfl, rfl⟩))
    (fun os started H enc _ => lifted os started H enc)

end Go.Proofs.YtknomkajibfmlaaGreat.HalfSays

namespace Go.Proofs.YtknomkajibfmlaaGreat

theorem halfSays_holds : Rows.HalfSaysSaid := HalfSays.over
#print axioms halfSays_holds

end Go.Proofs.YtknomkajibfmlaaGreat
