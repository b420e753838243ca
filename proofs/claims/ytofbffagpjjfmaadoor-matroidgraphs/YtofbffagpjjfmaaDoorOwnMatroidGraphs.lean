/- MatroidGraphs: whatever number of nodes and edges are handed in, the program's Graph answers the matroid or the error that the document tells: edges lead nowhere around just where each joins two parts. The one condition: math/bits' table deBruijn64tab starts as the library's text lays it, and the card ties that to the program's text. -/
import Derived.Test.YtofbffagpjjfmaaDoorCards
import Derived.Test.YtofbffagpjjfmaaDoorTie
import Derived.Test.YtofbffagpjjfmaaDoorGp13
import Derived.Test.YtofbffagpjjfmaaDoorArgsAll
import Derived.Lib.LaidTab
import Derived.ProofKit
import Derived.Deep.Slices
import Derived.ChangeSame
import Derived.OpenShut
import Derived.ChangeOld
import Derived.Below
import Derived.LaidMore
import Derived.Stop.Joined
import Derived.SevenTiedAt
namespace Go.Proofs.YtofbffagpjjfmaaDoor.MatroidGraphs
open Go.ChangeShapes Go.WideShapes Go.ChangeAt Go.RowKit

theorem cellsE : Tryd.prog.cellsOf 33 = 2 := by kernel_rfl

theorem und2 : Tryd.prog.underlying 33 = some (.array 2 3) := by kernel_rfl

/-- A list of pairs as it is handed in. -/
theorem open_pairs {H : Type} {enc : TypeId × Value → H} {w : World} {v : Value} {fuel : Nat} {x : DataW H × List MemPlace} (h : DataW.trod enc Tryd.prog w 0 (fun _ => true) true fuel 22 [v] = some x) : ∃ zs, Pri w v zs := by
  rcases Go.Deep.open_slice Tryd.underlying22 h with ⟨hc, _⟩ | ⟨a, len, cap, m, n, D, Pl, hc, _, hl, hm, hmm, _, hx⟩
  · simp only [List.cons.injEq, and_true] at hc
    subst hc
    exact ⟨[], none, 0, rfl, fun i hi => by simp at hi⟩
  · simp only [List.cons.injEq, and_true] at hc
    subst hc
    simp only [if_true] at hmm
    subst hmm
    have each : ∀ i : Nat, ∃ z : Int × Int, i < len → w.cell? ((a.add (i * 2)).add 0) = some (.int .i64 z.1) ∧ w.cell? ((a.add (i * 2)).add 1) = some (.int .i64 z.2) := fun i => by
      by_cases hi : i < len
      · obtain ⟨cs, h1, h2⟩ := hx i (by omega)
        rw [cellsE] at h1
        obtain ⟨_, hlen, hcell⟩ := World.cells?_some h1
        obtain ⟨xs, k, _, _, _, hxl, hf⟩ := DataW.trod_array und2 h2
        match cs, hlen with
        | [v0, v1], _ =>
          have g0 := hf 0 (by omega)
          have g1 := hf 1 (by omega)
          rw [Tryd.cells3] at g0 g1
          match xs, hxl with
          | [y0, y1], _ =>
            have q0 : DataW.trod enc Tryd.prog w 0 (fun _ => true) true k 3 [v0] = some y0 := by simpa using g0
            have q1 : DataW.trod enc Tryd.prog w 0 (fun _ => true) true k 3 [v1] = some y1 := by simpa using g1
            obtain ⟨z0, e0, _⟩ := DataW.trod_int (P := Tryd.prog) Tryd.underlying3 q0
            obtain ⟨z1, e1, _⟩ := DataW.trod_int (P := Tryd.prog) Tryd.underlying3 q1
            simp only [List.cons.injEq, and_true] at e0 e1
            subst e0
            subst e1
            have c0 := hcell 0 (by omega)
            have c1 := hcell 1 (by omega)
            exact ⟨(z0, z1), fun _ => ⟨by simpa using c0, by simpa using c1⟩⟩
      · exact ⟨(0, 0), fun h => absurd h hi⟩
    have hch : ∃ Z : Nat → Int × Int, ∀ i, i < len → w.cell? ((a.add (i * 2)).add 0) = some (.int .i64 (Z i).1) ∧ w.cell? ((a.add (i * 2)).add 1) = some (.int .i64 (Z i).2) := ⟨fun i => Classical.choose (each i), fun i => Classical.choose_spec (each i)⟩
    obtain ⟨Z, hZ⟩ := hch
    refine ⟨(List.range len).map Z, some a, m, by simp, fun i hi => ?_⟩
    have hi2 : i < len := by simpa using hi
    have ha : a = ⟨a.block, a.off, none⟩ := by
      have h0 := (hZ 0 (by omega)).1
      have e : (a.add (0 * 2)).add 0 = a := by
        obtain ⟨ab, ao, sp⟩ := a
        unfold Addr.add
        simp
      rw [e] at h0
      exact addr_none h0
    obtain ⟨c0, c1⟩ := hZ i hi2
    have e : ((List.range len).map Z).getD i (0, 0) = Z i := by simp [hi2]
    rw [e]
    obtain ⟨ab, ao, sp⟩ := a
    simp only [Addr.mk.injEq, true_and] at ha
    subst ha
    have f0 : ((⟨ab, ao, none⟩ : Addr).add (i * 2)).add 0 = ⟨ab, ao + i * 2, none⟩ := by
      unfold Addr.add
      by_cases e : i * 2 = 0
      · simp [e]
      · simp [e]
    have f1 : ((⟨ab, ao, none⟩ : Addr).add (i * 2)).add 1 = ⟨ab, ao + i * 2 + 1, none⟩ := by
      unfold Addr.add
      by_cases e : i * 2 = 0
      · simp [e]
      · simp [e]
    rw [f0] at c0
    rw [f1] at c1
    exact ⟨ab, ao, rfl, c0, c1⟩

theorem open_edges {H : Type} {enc : TypeId × Value → H} {w : World} {v : Value} {d : DataW H} {p : List MemPlace} (hv : v.cells.toList = [v]) (h : DataW.Trod enc Tryd.prog w 0 (fun _ => true) true 22 v d p) : ∃ zs, Pri w v zs := by
  obtain ⟨fuel, hf⟩ := h
  rw [hv] at hf
  exact open_pairs hf

theorem own : ownKnob Tryd.prog.godebug = none := by kernel_rfl

abbrev laidS : List (String × DataW Unit) := [("math/bits.deBruijn64tab", Rows.laid_math_bits_deBruijn64tab)]

theorem gTab : Tryd.prog.globalNamed "math/bits.deBruijn64tab" = some 0 := by kernel_rfl

theorem door_met (os : Os) (args : Array Value) : laidMetH Tryd.prog laidS ((World.doorLaid Tryd.prog 400 os).forCall (fun _ _ => 0) ⟨#[], args, []⟩).memory :=
  laidMetH_of_parts3 (fuel := 8) (laidMet_of_run' 8 (by kernel_rfl) (by kernel_rfl)) (by kernel_rfl) (by kernel_rfl)

theorem tab_is : (Rows.laid_math_bits_deBruijn64tab : DataW Unit) = Lib.tabData .u8 (Lib.deBruijn64tab.map (fun n : Nat => (n : Int))) := by kernel_rfl

theorem of_laid {W : World} (h : laidMetH Tryd.prog laidS W) : TabB W := by
  rw [MakeChecks.laidMetH_plain _ _ _ (by kernel_rfl)] at h
  rw [show laidS = [("math/bits.deBruijn64tab", Lib.tabData .u8 (Lib.deBruijn64tab.map (fun n : Nat => (n : Int))))] by unfold laidS; rw [tab_is]] at h
  have ht := Lib.tabIs_of_head (k := .u8) gTab (t := 50) (e := 5) (n := 64) (by kernel_rfl) (by kernel_rfl) (by kernel_rfl) (by kernel_rfl) (by kernel_rfl) h
  intro j hj
  have hl : Lib.deBruijn64tab.length = 64 := by decide
  have e : (Lib.deBruijn64tab.map (fun n : Nat => (n : Int))).getD j 0 = ((Lib.deBruijn64tab.getD j 0 : Nat) : Int) := by
    simp only [List.getD_eq_getElem?_getD, List.getElem?_map]
    rw [List.getElem?_eq_getElem (show j < Lib.deBruijn64tab.length by omega)]
    rfl
  rw [ht.cell gTab j (by rw [List.length_map, hl]; exact hj), e]

set_option maxRecDepth 100000 in
theorem lifted (os : Os) (started : os.Started) (H : Type) (enc : TypeId × Value → H) :
    ReturnsInHanded {} Tryd.checked os 3 .any (fun w args => (Rows.matroidGraphsSpec.pre enc Tryd.prog Tryd.f3 [] false w args ∧ laidMetH Tryd.prog laidS w) ∧ sizedMet enc Tryd.prog Tryd.f3 (OpenSpec.ofChange Rows.matroidGraphsSpec) false w args)
      (Rows.matroidGraphsSpec.post enc Tryd.prog Tryd.f3 false true false false) := by
  refine returnsInHanded_of_change_and (C := Tryd.checked) (X := fun w _ => laidMetH Tryd.prog laidS w) (fun _ _ _ hh h => h.of_heap hh) own started (by kernel_rfl) Tryd.func3
    (ChangeSpec.witness_shaped (enc := enc) (C := Tryd.checked) (os := os) (X := fun w _ => laidMetH Tryd.prog laidS w) false (World.doorLaid Tryd.prog 400 os) #[.int .i64 0, .slice none 0 0] 8 rfl (World.shaped_of_RefB (by kernel_rfl) (by kernel_rfl)) (by kernel_rfl) (by kernel_rfl) (by kernel_rfl) (door_met os _)) ?_
  intro W base args ds gs before hval0 hW _ _ hL _
  have hval : ∀ (j : Nat) t v, Tryd.f3.params[j]? = some t → args[j]? = some v → Value.okWide Tryd.prog W .any base t v := hval0
  have hW' := hW
  obtain ⟨p, q, hA0, hV, rfl, hfz, hnd⟩ := hW
  have hA : DataW.TrodAll enc Tryd.prog W 0 (fun _ => true) true Tryd.f3.params.toList args.toList ds p := hA0
  rw [Tryd.params3] at hA hval
  obtain ⟨v0, vs0, d0, ds0, p0, q0, hargs, rfl, rfl, h0, r0⟩ := trodAll_cons hA
  obtain ⟨v1, vs1, d1, ds1, p1, q1, rfl, rfl, rfl, h1, r1⟩ := trodAll_cons r0
  obtain ⟨rfl, rfl, rfl⟩ := trodAll_nil r1
  obtain rfl : args = #[v0, v1] := by cases args; simp_all
  obtain ⟨rfl, rfl⟩ := trodVars_none hV
  obtain ⟨n0, rfl, rfl, rfl, w0⟩ := open_int Tryd.underlying3 (hval 0 3 v0 rfl rfl) h0
  obtain ⟨a1, l1, c1, rfl⟩ := okWide_slice Tryd.underlying22 (hval 1 22 v1 rfl rfl)
  obtain ⟨zs, hz⟩ := open_edges rfl h1
  have hlt : ∀ x ∈ p1, x.block < W.heap.size := fun x hx => hW'.lt x (by simp [hx])
  have hT := of_laid hL
  clear hA0 hval0
  refine (matGraphs_any n0 zs _ W hz hT).mono fun e W' ⟨he, bel⟩ => ?_
  subst he
  exact ⟨_, rfl, _, _, _, [], _, [], hW', trodAll_mk1 (shut_bool Tryd.underlying4 _), (trodAll_cons_mk (shut_int Tryd.underlying3 w0) (trodAll_cons_mk (Below.trod Tryd.laidOut (by kernel_rfl) (of_decide_eq_true (by kernel_rfl)) h1 bel hlt) trodAll_mk0)), rfl, bel.frame _, fun h => by cases h⟩

theorem over : Rows.matroidGraphsRow.holds Tryd.pinned (OpenSpec.ofChange Rows.matroidGraphsSpec) :=
  OpenClaim.holds_of_wide 3 Tryd.f3 rfl rfl rfl rfl rfl rfl rfl ⟨rfl, rfl, rfl, rfl, rfl⟩ rfl rfl rfl rfl rfl (by kernel_rfl) Tryd.func3 (by kernel_rfl)
    (of_decide_eq_true (by kernel_rfl)) (by unfold Func.isWrapper; first | (rw [if_pos (by decide +kernel)]; kernel_rfl) | (rw [if_neg (by decide +kernel)]; exact ⟨rfl, rfl⟩))
    (fun os started H enc _ => lifted os started H enc)

end Go.Proofs.YtofbffagpjjfmaaDoor.MatroidGraphs

namespace Go.Proofs.YtofbffagpjjfmaaDoor
open Go

theorem matroidGraphs_card_holds : Rows.MatroidGraphsCardSaid :=
  Claim7.holds_tied_plain_at .later [] [.data] true (true, "ea9a410480e00443ff31464d54d56a4a85e1214c9f74e50ce8e9756dec65c3de") false
    MatroidGraphs.over (fun _ h => by cases h) (by kernel_rfl) (fun _ h => by cases h) matroidGraphs_row_tie rfl ⟨rfl, rfl⟩ (by kernel_rfl) rfl
    (fun f fn hf hfn => by
      obtain rfl : f = 3 := Option.some.inj ((show Tryd.prog.funcNamed "facet/facetlaw.MatroidGraphs" = some 3 by kernel_rfl).symm.trans hf) |>.symm
      obtain rfl : fn = Tryd.f3 := (Option.some.inj (Tryd.func3.symm.trans hfn)).symm
      exact ⟨by kernel_rfl, fun j t ht => by
        rw [Tryd.params3] at ht
        have h3 : t = 3 ∨ t = 22 := by
          rcases j with _ | _ | j
          · exact .inl (by simpa using ht.symm)
          · exact .inr (by simpa using ht.symm)
          · simp at ht
        rcases h3 with rfl | rfl
        · exact (show Tryd.prog.wantsStandIn 3 = false by kernel_rfl)
        · exact (show Tryd.prog.wantsStandIn 22 = false by kernel_rfl)⟩)
    (by kernel_rfl)
#print axioms matroidGraphs_card_holds

end Go.Proofs.YtofbffagpjjfmaaDoor
