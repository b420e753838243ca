/- LpSays: whatever cut and goal are handed in, the program shows, and answers, what the document does: the greatest, what shows it, and what refutes a cut, errors as well. -/
import Derived.Test.YtdmkmljhljoojaaRows
import Derived.Test.YtdmkmljhljoojaaLe4
import Derived.Test.YtdmkmljhljoojaaArgsAll
import Derived.ProofKit
import Derived.Deep.Slices
import Derived.ChangeSame
import Derived.OpenShut
import Derived.ChangeOld
import Derived.Below
namespace Go.Proofs.Ytdmkmljhljoojaa.LpSays
open Go.ChangeShapes Go.WideShapes Go.ChangeAt Go.RowKit Go.Deep

theorem own : ownKnob Try.prog.godebug = none := by kernel_rfl

theorem cellsW : Try.prog.cellsOf 24 = 2 := by kernel_rfl

theorem cellsM : Try.prog.cellsOf 22 = 1 := by kernel_rfl

/-- A number and rows as they are handed in. -/
theorem open_cut {H : Type} {enc : TypeId × Value → H} {w : World} {cs : Array Value} {d : DataW H} {p : List MemPlace} (hcs : cs.size = Try.prog.cellsOf 24) (h : DataW.Trod enc Try.prog w 0 (fun _ => true) true 24 (.agg cs) d p) : ∃ N v m, cs = #[.int .i64 N, v] ∧ Mat w.heap.size 25 3 w v m := by
  obtain ⟨fuel, hf⟩ := h
  obtain ⟨y0, y1, n, _, _, h0, h1⟩ := trod_struct2 Try.underlying24 hf
  rw [cellsW] at hcs
  have hl : cs.toList.length = 2 := by simp [hcs]
  have e : (Value.agg cs).cells.toList = cs.toList := rfl
  rw [e] at h0 h1
  obtain ⟨x0, x1, hx⟩ : ∃ x0 x1, cs = #[x0, x1] := by
    rcases cs with ⟨l⟩
    match l, hl with
    | [x0, x1], _ => exact ⟨x0, x1, rfl⟩
  subst hx
  obtain ⟨N, hN, _⟩ := DataW.trod_int (P := Try.prog) Try.underlying3 h0
  rw [Try.cells3] at hN
  simp only [List.drop_zero, List.take_succ_cons, List.take_zero, List.cons.injEq, and_true] at hN
  subst hN
  rw [cellsM] at h1
  have h1' : DataW.trod enc Try.prog w 0 (fun _ => true) true n 22 [x1] = some y1 := h1
  rcases open_int_rows Try.underlying22 Try.underlying25 Try.underlying3 Try.cells25 Try.cells3 h1' with ⟨hc, _⟩ | ⟨a, len, cap, A, L, C, Z, hc, _⟩
  · simp only [List.cons.injEq, and_true] at hc
    subst hc
    exact ⟨N, _, [], rfl, [], rfl, Sl.nil _ _ _, fun i hi => absurd hi (by simp)⟩
  · simp only [List.cons.injEq, and_true] at hc
    subst hc
    obtain ⟨m, hm⟩ := open_mat (p := y1.2) (d := y1.1) ⟨n, h1'⟩
    exact ⟨N, _, m, rfl, hm⟩

set_option maxRecDepth 100000 in
theorem lifted (os : Os) (started : os.Started) (H : Type) (enc : TypeId × Value → H) :
    ReturnsInHanded {} Try.checked os 3 .any (Rows.lpSaysSpec.pre6 enc Try.prog Try.f3 Rows.lpSaysRow.domain false) (Rows.lpSaysSpec.post enc Try.prog Try.f3 false true false false) := by
  refine returnsInHanded_of_change (C := Try.checked) own started (by kernel_rfl) Try.func3
    (ChangeSpec.witness6 (enc := enc) (C := Try.checked) false ⟨#[], #[.agg #[.int .i64 0, .slice none 0 0], .slice none 0 0], []⟩ 8 (by kernel_rfl) (by kernel_rfl) (by kernel_rfl) (by kernel_rfl)) ?_
  intro W base args ds gs before hval0 hW hcnd _
  have hval : ∀ (j : Nat) t v, Try.f3.params[j]? = some t → args[j]? = some v → Value.okWide Try.prog W .any base t v := hval0
  have hW' := hW
  obtain ⟨p, q, hA0, hV, rfl, hfz, hnd⟩ := hW
  have hA : DataW.TrodAll enc Try.prog W 0 (fun _ => true) true Try.f3.params.toList args.toList ds p := hA0
  rw [Try.params3] at hA hval
  obtain ⟨v0, vs0, d0, ds0, p0, q0, hargs, rfl, rfl, h0, r0⟩ := trodAll_cons hA
  obtain ⟨v1, vs1, d1, ds1, p1, q1, rfl, rfl, rfl, h1, r1⟩ := trodAll_cons r0
  obtain ⟨rfl, rfl, rfl⟩ := trodAll_nil r1
  obtain rfl : args = #[v0, v1] := by cases args; simp_all
  obtain ⟨rfl, rfl⟩ := trodVars_none hV
  obtain ⟨cs0, rfl, hcs0⟩ := okWide_struct Try.underlying24 (hval 0 24 v0 rfl rfl)
  obtain ⟨N0, u0, x0, rfl, hx0⟩ := open_cut hcs0 h0
  obtain ⟨a1, l1, c1, rfl⟩ := okWide_slice Try.underlying25 (hval 1 25 v1 rfl rfl)
  obtain ⟨x1, hx1⟩ := open_list h1
  have hlt0 : ∀ x ∈ p0, x.block < W.heap.size := fun x hx => hW'.lt x (by simp [hx])
  have hlt1 : ∀ x ∈ p1, x.block < W.heap.size := fun x hx => hW'.lt x (by simp [hx])
  clear hA0 hval0
  refine (lpSays_all N0 x0 x1 _ _ W hx0 hx1).mono fun e W' ⟨he, bel⟩ => ?_
  subst he
  exact ⟨_, rfl, _, _, _, [], _, [], hW', trodAll_mk1 (shut_bool Try.underlying4 _), (trodAll_cons_mk (Below.trod Try.laidOut (by kernel_rfl) (of_decide_eq_true (by kernel_rfl)) h0 bel hlt0) (trodAll_cons_mk (Below.trod Try.laidOut (by kernel_rfl) (of_decide_eq_true (by kernel_rfl)) h1 bel hlt1) trodAll_mk0)), rfl, bel.frame _, fun h => by cases h⟩

theorem over : Rows.lpSaysRow.holds Try.pinned (OpenSpec.ofChange Rows.lpSaysSpec) :=
  OpenClaim.holds_of_wide 3 Try.f3 rfl rfl rfl rfl rfl rfl rfl ⟨rfl, rfl, rfl, rfl, rfl⟩ rfl rfl rfl rfl rfl (by kernel_rfl) Try.func3 (by kernel_rfl)
    (of_decide_eq_true (by kernel_rfl)) (by unfold Func.isWrapper; first | (rw [if_pos (by decide +kernel)]; kernel_rfl) | (rw [if_neg (by decide +kernel)]; exact ⟨rfl, rfl⟩))
    (fun os started H enc _ => lifted os started H enc)

end Go.Proofs.Ytdmkmljhljoojaa.LpSays

namespace Go.Proofs.Ytdmkmljhljoojaa

theorem lpSays_holds : Rows.LpSaysSaid := LpSays.over
#print axioms lpSays_holds

end Go.Proofs.Ytdmkmljhljoojaa
