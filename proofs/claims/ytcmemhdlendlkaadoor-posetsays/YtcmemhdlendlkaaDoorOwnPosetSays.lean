/- PosetSays: whatever order and number are handed in, the program's Check, Above, Orders, Filters, Apart, Moebius, Order, Chain and Maps answer what the document's do, errors as well. The one condition: math/bits' table deBruijn64tab starts as the library's text lays it, and the card ties that to the program's text. -/
import Derived.Test.YtcmemhdlendlkaaDoorCards
import Derived.Test.YtcmemhdlendlkaaDoorTie
import Derived.Test.YtcmemhdlendlkaaDoorLa8
import Derived.Test.YtcmemhdlendlkaaDoorArgsAll
import Derived.Lib.LaidTab
import Derived.ProofKit
import Derived.Deep.Slices
import Derived.ChangeSame
import Derived.OpenShut
import Derived.ChangeOld
import Derived.Below
import Derived.LaidMore
import Derived.Stop.Joined
import Derived.SevenTiedAt
namespace Go.Proofs.YtcmemhdlendlkaaDoor.PosetSays
open Go.ChangeShapes Go.WideShapes Go.ChangeAt Go.RowKit

theorem cellsW : Tryd.prog.cellsOf 24 = 2 := by kernel_rfl

theorem cellsE : Tryd.prog.cellsOf 50 = 2 := by kernel_rfl

theorem cellsS : Tryd.prog.cellsOf 22 = 1 := by kernel_rfl

theorem und2 : Tryd.prog.underlying 50 = some (.array 2 3) := by kernel_rfl

/-- A list of pairs as it is handed in. -/
theorem open_pairs {H : Type} {enc : TypeId × Value → H} {w : World} {v : Value} {fuel : Nat} {x : DataW H × List MemPlace} (h : DataW.trod enc Tryd.prog w 0 (fun _ => true) true fuel 22 [v] = some x) : ∃ zs, Prs w v zs := by
  rcases Go.Deep.open_slice Tryd.underlying22 h with ⟨hc, _⟩ | ⟨a, len, cap, m, n, D, Pl, hc, _, hl, hm, hmm, _, hx⟩
  · simp only [List.cons.injEq, and_true] at hc
    subst hc
    exact ⟨[], none, 0, rfl, fun i hi => by simp at hi⟩
  · simp only [List.cons.injEq, and_true] at hc
    subst hc
    simp only [if_true] at hmm
    subst hmm
    have each : ∀ i : Nat, ∃ z : Int × Int, i < len → w.cell? ((a.add (i * 2)).add 0) = some (.int .i64 z.1) ∧ w.cell? ((a.add (i * 2)).add 1) = some (.int .i64 z.2) := fun i => by
      by_cases hi : i < len
      · obtain ⟨cs, h1, h2⟩ := hx i (by omega)
        rw [cellsE] at h1
        obtain ⟨_, hlen, hcell⟩ := World.cells?_some h1
        obtain ⟨xs, k, _, _, _, hxl, hf⟩ := DataW.trod_array und2 h2
        match cs, hlen with
        | [v0, v1], _ =>
          have g0 := hf 0 (by omega)
          have g1 := hf 1 (by omega)
          rw [Tryd.cells3] at g0 g1
          match xs, hxl with
          | [y0, y1], _ =>
            have q0 : DataW.trod enc Tryd.prog w 0 (fun _ => true) true k 3 [v0] = some y0 := by simpa using g0
            have q1 : DataW.trod enc Tryd.prog w 0 (fun _ => true) true k 3 [v1] = some y1 := by simpa using g1
            obtain ⟨z0, e0, _⟩ := DataW.trod_int (P := Tryd.prog) Tryd.underlying3 q0
            obtain ⟨z1, e1, _⟩ := DataW.trod_int (P := Tryd.prog) Tryd.underlying3 q1
            simp only [List.cons.injEq, and_true] at e0 e1
            subst e0
            subst e1
            have c0 := hcell 0 (by omega)
            have c1 := hcell 1 (by omega)
            exact ⟨(z0, z1), fun _ => ⟨by simpa using c0, by simpa using c1⟩⟩
      · exact ⟨(0, 0), fun h => absurd h hi⟩
    have hch : ∃ Z : Nat → Int × Int, ∀ i, i < len → w.cell? ((a.add (i * 2)).add 0) = some (.int .i64 (Z i).1) ∧ w.cell? ((a.add (i * 2)).add 1) = some (.int .i64 (Z i).2) := ⟨fun i => Classical.choose (each i), fun i => Classical.choose_spec (each i)⟩
    obtain ⟨Z, hZ⟩ := hch
    refine ⟨(List.range len).map Z, some a, m, by simp, fun i hi => ?_⟩
    have hi2 : i < len := by simpa using hi
    have ha : a = ⟨a.block, a.off, none⟩ := by
      have h0 := (hZ 0 (by omega)).1
      have e : (a.add (0 * 2)).add 0 = a := by
        obtain ⟨ab, ao, sp⟩ := a
        unfold Addr.add
        simp
      rw [e] at h0
      exact addr_none h0
    obtain ⟨c0, c1⟩ := hZ i hi2
    have e : ((List.range len).map Z).getD i (0, 0) = Z i := by simp [hi2]
    rw [e]
    obtain ⟨ab, ao, sp⟩ := a
    simp only [Addr.mk.injEq, true_and] at ha
    subst ha
    have f0 : ((⟨ab, ao, none⟩ : Addr).add (i * 2)).add 0 = ⟨ab, ao + i * 2, none⟩ := by
      unfold Addr.add
      by_cases e : i * 2 = 0
      · simp [e]
      · simp [e]
    have f1 : ((⟨ab, ao, none⟩ : Addr).add (i * 2)).add 1 = ⟨ab, ao + i * 2 + 1, none⟩ := by
      unfold Addr.add
      by_cases e : i * 2 = 0
      · simp [e]
      · simp [e]
    rw [f0] at c0
    rw [f1] at c1
    exact ⟨ab, ao, rfl, c0, c1⟩

/-- An order as it is handed in: a number, and a list of pairs. -/
theorem open_poset {H : Type} {enc : TypeId × Value → H} {w : World} {cs : Array Value} {d : DataW H} {p : List MemPlace} (hcs : cs.size = Tryd.prog.cellsOf 24) (h : DataW.Trod enc Tryd.prog w 0 (fun _ => true) true 24 (.agg cs) d p) : ∃ N v zs, cs = #[.int .i64 N, v] ∧ Prs w v zs := by
  obtain ⟨fuel, hf⟩ := h
  obtain ⟨y0, y1, n, _, _, h0, h1⟩ := trod_struct2 Tryd.underlying24 hf
  rw [cellsW] at hcs
  have hl : cs.toList.length = 2 := by simp [hcs]
  have e : (Value.agg cs).cells.toList = cs.toList := rfl
  rw [e] at h0 h1
  obtain ⟨x0, x1, hx⟩ : ∃ x0 x1, cs = #[x0, x1] := by
    rcases cs with ⟨l⟩
    match l, hl with
    | [x0, x1], _ => exact ⟨x0, x1, rfl⟩
  subst hx
  obtain ⟨N, hN, _⟩ := DataW.trod_int (P := Tryd.prog) Tryd.underlying3 h0
  rw [Tryd.cells3] at hN
  simp only [List.drop_zero, List.take_succ_cons, List.take_zero, List.cons.injEq, and_true] at hN
  subst hN
  rw [cellsS] at h1
  have h1' : DataW.trod enc Tryd.prog w 0 (fun _ => true) true n 22 [x1] = some y1 := h1
  obtain ⟨zs, hz⟩ := open_pairs h1'
  exact ⟨N, x1, zs, rfl, hz⟩

theorem own : ownKnob Tryd.prog.godebug = none := by kernel_rfl

abbrev laidS : List (String × DataW Unit) := [("math/bits.deBruijn64tab", Rows.laid_math_bits_deBruijn64tab)]

theorem gTab : Tryd.prog.globalNamed "math/bits.deBruijn64tab" = some 0 := by kernel_rfl

theorem door_met (os : Os) (args : Array Value) : laidMetH Tryd.prog laidS ((World.doorLaid Tryd.prog 400 os).forCall (fun _ _ => 0) ⟨#[], args, []⟩).memory :=
  laidMetH_of_parts3 (fuel := 8) (laidMet_of_run' 8 (by kernel_rfl) (by kernel_rfl)) (by kernel_rfl) (by kernel_rfl)

theorem tab_is : (Rows.laid_math_bits_deBruijn64tab : DataW Unit) = Lib.tabData .u8 (Lib.deBruijn64tab.map (fun n : Nat => (n : Int))) := by kernel_rfl

theorem of_laid {W : World} (h : laidMetH Tryd.prog laidS W) : TabB W := by
  rw [MakeChecks.laidMetH_plain _ _ _ (by kernel_rfl)] at h
  rw [show laidS = [("math/bits.deBruijn64tab", Lib.tabData .u8 (Lib.deBruijn64tab.map (fun n : Nat => (n : Int))))] by unfold laidS; rw [tab_is]] at h
  have ht := Lib.tabIs_of_head (k := .u8) gTab (t := 80) (e := 5) (n := 64) (by kernel_rfl) (by kernel_rfl) (by kernel_rfl) (by kernel_rfl) (by kernel_rfl) h
  intro j hj
  have hl : Lib.deBruijn64tab.length = 64 := by decide
  have e : (Lib.deBruijn64tab.map (fun n : Nat => (n : Int))).getD j 0 = ((Lib.deBruijn64tab.getD j 0 : Nat) : Int) := by
    simp only [List.getD_eq_getElem?_getD, List.getElem?_map]
    rw [List.getElem?_eq_getElem (show j < Lib.deBruijn64tab.length by omega)]
    rfl
  rw [ht.cell gTab j (by rw [List.length_map, hl]; exact hj), e]

set_option maxRecDepth 100000 in
theorem lifted (os : Os) (started : os.Started) (H : Type) (enc : TypeId × Value → H) :
    ReturnsInHanded {} Tryd.checked os 3 .any (fun w args => (Rows.posetSaysSpec.pre enc Tryd.prog Tryd.f3 [] false w args ∧ laidMetH Tryd.prog laidS w) ∧ sizedMet enc Tryd.prog Tryd.f3 (OpenSpec.ofChange Rows.posetSaysSpec) false w args)
      (Rows.posetSaysSpec.post enc Tryd.prog Tryd.f3 false true false false) := by
  refine returnsInHanded_of_change_and (C := Tryd.checked) (X := fun w _ => laidMetH Tryd.prog laidS w) (fun _ _ _ hh h => h.of_heap hh) own started (by kernel_rfl) Tryd.func3
    (ChangeSpec.witness_shaped (enc := enc) (C := Tryd.checked) (os := os) (X := fun w _ => laidMetH Tryd.prog laidS w) false (World.doorLaid Tryd.prog 400 os) #[.agg #[.int .i64 0, .slice none 0 0], .int .i64 0] 8 rfl (World.shaped_of_RefB (by kernel_rfl) (by kernel_rfl)) (by kernel_rfl) (by kernel_rfl) (by kernel_rfl) (door_met os _)) ?_
  intro W base args ds gs before hval0 hW _ _ hL _
  have hval : ∀ (j : Nat) t v, Tryd.f3.params[j]? = some t → args[j]? = some v → Value.okWide Tryd.prog W .any base t v := hval0
  have hW' := hW
  obtain ⟨p, q, hA0, hV, rfl, hfz, hnd⟩ := hW
  have hA : DataW.TrodAll enc Tryd.prog W 0 (fun _ => true) true Tryd.f3.params.toList args.toList ds p := hA0
  rw [Tryd.params3] at hA hval
  obtain ⟨v0, vs0, d0, ds0, p0, q0, hargs, rfl, rfl, h0, r0⟩ := trodAll_cons hA
  obtain ⟨v1, vs1, d1, ds1, p1, q1, rfl, rfl, rfl, h1, r1⟩ := trodAll_cons r0
  obtain ⟨rfl, rfl, rfl⟩ := trodAll_nil r1
  obtain rfl : args = #[v0, v1] := by cases args; simp_all
  obtain ⟨rfl, rfl⟩ := trodVars_none hV
  obtain ⟨cs, rfl, hcs⟩ := okWide_struct Tryd.underlying24 (hval 0 24 v0 rfl rfl)
  obtain ⟨N, v, zs, rfl, hz⟩ := open_poset hcs h0
  obtain ⟨n1, rfl, rfl, rfl, w1⟩ := open_int Tryd.underlying3 (hval 1 3 v1 rfl rfl) h1
  have hlt : ∀ x ∈ p0, x.block < W.heap.size := fun x hx => hW'.lt x (by simp [hx])
  have hT := of_laid hL
  clear hA0 hval0
  refine (posetSays_any N n1 zs v W hz hT).mono fun e W' ⟨he, bel⟩ => ?_
  subst he
  exact ⟨_, rfl, _, _, _, [], _, [], hW', trodAll_mk1 (shut_bool Tryd.underlying4 _), (trodAll_cons_mk (Below.trod Tryd.laidOut (by kernel_rfl) (of_decide_eq_true (by kernel_rfl)) h0 bel hlt) (trodAll_cons_mk (shut_int Tryd.underlying3 w1) trodAll_mk0)), rfl, bel.frame _, fun h => by cases h⟩

theorem over : Rows.posetSaysRow.holds Tryd.pinned (OpenSpec.ofChange Rows.posetSaysSpec) :=
  OpenClaim.holds_of_wide 3 Tryd.f3 rfl rfl rfl rfl rfl rfl rfl ⟨rfl, rfl, rfl, rfl, rfl⟩ rfl rfl rfl rfl rfl (by kernel_rfl) Tryd.func3 (by kernel_rfl)
    (of_decide_eq_true (by kernel_rfl)) (by unfold Func.isWrapper; first | (rw [if_pos (by decide +kernel)]; kernel_rfl) | (rw [if_neg (by decide +kernel)]; exact ⟨rfl, rfl⟩))
    (fun os started H enc _ => lifted os started H enc)

end Go.Proofs.YtcmemhdlendlkaaDoor.PosetSays

namespace Go.Proofs.YtcmemhdlendlkaaDoor
open Go

theorem posetSays_card_holds : Rows.PosetSaysCardSaid :=
  Claim7.holds_tied_plain_at .later [] [.data] true (true, "94583fe51aead727a8eb0ee08fe5c78cab3a9e3fed8e9f93193e1ba42dea7ee8") false
    PosetSays.over (fun _ h => by cases h) (by kernel_rfl) (fun _ h => by cases h) posetSays_row_tie rfl ⟨rfl, rfl⟩ (by kernel_rfl) rfl
    (fun f fn hf hfn => by
      obtain rfl : f = 3 := Option.some.inj ((show Tryd.prog.funcNamed "facet/facetlaw.PosetSays" = some 3 by kernel_rfl).symm.trans hf) |>.symm
      obtain rfl : fn = Tryd.f3 := (Option.some.inj (Tryd.func3.symm.trans hfn)).symm
      exact ⟨by kernel_rfl, fun j t ht => by
        rw [Tryd.params3] at ht
        have h3 : t = 24 ∨ t = 3 := by
          rcases j with _ | _ | j
          · exact .inl (by simpa using ht.symm)
          · exact .inr (by simpa using ht.symm)
          · simp at ht
        rcases h3 with rfl | rfl
        · exact (show Tryd.prog.wantsStandIn 24 = false by kernel_rfl)
        · exact (show Tryd.prog.wantsStandIn 3 = false by kernel_rfl)⟩)
    (by kernel_rfl)
#print axioms posetSays_card_holds

end Go.Proofs.YtcmemhdlendlkaaDoor
