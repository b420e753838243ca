import Derived.Test.YtkgljfnbaoncbaaMgAT
import Derived.Test.YtkgljfnbaoncbaaRq8
import Derived.Test.YtkgljfnbaoncbaaMgAN
import Derived.Test.YtkgljfnbaoncbaaMgAG
import Derived.Test.YtkgljfnbaoncbaaMgAB
import Derived.Test.YtkgljfnbaoncbaaMgAC
import Derived.Deep.RegionHeld3
import Derived.Deep.RegionLaw
import Derived.Deep.DrawnRows
import Derived.Laws.AppendOwn
import Derived.Test.YtkgljfnbaoncbaaMgAE
import Derived.Test.YtkgljfnbaoncbaaMgAI
/- weyl.Reduce, Ends, Below, Same of a square or word that may not be. Made by mkrv3.py. -/
namespace Go.Proofs.Ytkgljfnbaoncbaa
open Go.RowKit
attribute [local go_sem ↓] Go.wp_at_zero Go.wp_at_succ

set_option maxRecDepth 100000 in
theorem listV_no (E : Int) (hE : ¬ E = 0) (w : World) :
    Calls Try.prog 11 #[.slice none 0 0, .int .i64 E, .slice none 0 0, .int .i64 E] w fun x w' => x = .returned (.bool true) ∧ w' = w := by
  go_enter Try.func11, Try.ntmps11
  go_wp2
  go_ret
  exact ⟨rfl, rfl⟩

end Go.Proofs.Ytkgljfnbaoncbaa

/- What the laws don't look at, and how they hold two numbers against each other. -/
namespace Go.Proofs.Ytkgljfnbaoncbaa
open Go.RowKit
attribute [local go_sem ↓] Go.wp_at_zero Go.wp_at_succ

set_option maxRecDepth 100000 in
set_option maxHeartbeats 800000 in
theorem heavy_any (B : Nat) (m : List (List Int)) (v : Value) (w : World) (hv : Mat B 26 3 w v m) :
    Calls Try.prog 5 #[v] w fun e w' => ∃ b, e = .returned (.bool b) ∧ (b = false → m.length ≤ 300) ∧ w' = w := by
  obtain ⟨ao, cap, hvv, hlc, hcm⟩ := mat_open hv
  subst hvv
  have HV : Hid (Mat B 26 3 w (.slice ao m.length cap) m) := hv
  clear hv
  by_cases h1 : 300 < m.length
  · have b1 : decide ((300 : Int) < (m.length : Int)) = true := decide_eq_true (by omega)
    go_enter Try.func5, Try.ntmps5
    go_wp2
    go_ret
    exact ⟨true, rfl, (fun h => absurd h (by decide)), rfl⟩
  · have b1 : decide ((300 : Int) < (m.length : Int)) = false := decide_eq_false (by omega)
    have HL : Hid (m.length ≤ 300) := by show _ ≤ _; omega
    go_enter Try.func5, Try.ntmps5
    go_wp2
    go_loopw [3, 4] (fun n i wr => ∃ t s : Nat, t ≤ m.length ∧ s ≤ 300 * t ∧ n = .int .i64 s ∧ i = .int .i64 t ∧ wr = w) (fun _ i _ => m.length - (intOf i).toNat)
    case atStart => exact ⟨0, 0, Nat.zero_le _, Nat.le_refl _, rfl, rfl, rfl⟩
    case round =>
      obtain ⟨t, s, ht, hs, rfl, rfl, rfl⟩ := hrel
      by_cases htn : t < m.length
      · obtain ⟨b, o, cp, u, hs, _, hcc, hu⟩ := mat_cell HV.out htn
        simp only [Value.slice.injEq, true_and] at hs
        obtain ⟨rfl, rfl⟩ := hs
        obtain ⟨uo, uc, hue, hul, hum⟩ := sl_open hu
        subst hue
        generalize (m.getD t []).length = l at *
        clear hu
        by_cases hl : 300 < l
        · have b2 : decide ((300 : Int) < (l : Int)) = true := decide_eq_true (by omega)
          go_wp2
          go_ret
          exact ⟨true, rfl, (fun h => absurd h (by decide)), rfl⟩
        · have b2 : decide ((300 : Int) < (l : Int)) = false := decide_eq_false (by omega)
          go_wp2
          go_roundw
          case rel => exact ⟨t + 1, s + l, by omega, by omega, by go_num, by go_num, trivial⟩
          case measure => simp [intOf]; omega
      · go_wp2
        go_ret
        exact ⟨_, rfl, fun _ => HL.out, rfl⟩

end Go.Proofs.Ytkgljfnbaoncbaa

/- The law's own looks: two lists that are the same. -/
namespace Go.Proofs.Ytkgljfnbaoncbaa
open Go.RowKit
attribute [local go_sem ↓] Go.wp_at_zero Go.wp_at_succ

set_option maxRecDepth 100000 in
theorem list_same (B : Nat) (x : List Int) (u v : Value) (w : World) (hu : Sl B 3 w u (ints x)) (hv : Sl B 3 w v (ints x)) :
    Calls Try.prog 11 #[u, .int .i64 0, v, .int .i64 0] w fun x w' => x = .returned (.bool true) ∧ Below w.heap.size w w' := by
  obtain ⟨uo, uc, rfl, _, _⟩ := sl_open hu
  obtain ⟨vo, vc, rfl, _, _⟩ := sl_open hv
  have HU : Hid (Sl B 3 w (.slice uo x.length uc) (ints x)) := hu
  have HV : Hid (Sl B 3 w (.slice vo x.length vc) (ints x)) := hv
  clear hu hv
  go_enter Try.func11, Try.ntmps11
  go_wp2_with fail
  refine (same_any B x x _ _ w HU.out HV.out).mono ?_
  rintro e w' ⟨rfl, n, rfl⟩
  have hxx : (x == x) = true := by simp
  rw [hxx]
  go_wp2
  go_ret
  exact ⟨rfl, ⟨rfl, rfl, rfl, Nat.le_refl _, fun _ _ => rfl⟩⟩

end Go.Proofs.Ytkgljfnbaoncbaa

/- append of a make: zeros behind a row of one's own. -/
namespace Go.Proofs.Ytkgljfnbaoncbaa
open Go.RowKit

theorem zeroCells_one (z : Value) (m : Nat) : Builtin.zeroCells #[z] m = (List.replicate m z).toArray := by
  apply Array.ext'
  unfold Builtin.zeroCells
  simp only [List.size_toArray, List.length_singleton, Nat.mul_one, Nat.mod_one]
  refine List.ext_getElem? fun k => ?_
  by_cases hk : k < m
  · simp [hk]
  · rw [List.getElem?_eq_none (by simp; omega), List.getElem?_eq_none (by simp; omega)]

theorem run_app_zero {P : Program} (w : World) (base : Nat) (t u ty e : TypeId) (i : TypeInfo) (z : Value) (ik : IntKind) (ht : P.underlying t = some (.slice e)) (hu : P.underlying u = some (.int ik)) (hi : P.info? e = some i) (hz : i.zero = some z) (hzc : z.cells = #[z]) (hz1 : z.oneCell' = true)
    (hsize : i.size = 1) (hby : i.bytes = 8) (g n cap m : Nat) (xs : List Value) (hown : w.ownsRow base e 1 (.slice (some ⟨g, 0, none⟩) n cap) n xs) (hm : 1 ≤ m) (hnm : n + m ≤ 1000000) (hbase : base ≤ w.heap.size) :
    ∃ v' w', (Builtin.append_ #[t, u] ty #[.slice (some ⟨g, 0, none⟩) n cap, .int .i64 (m : Int)]).run P w = .ok v' w' ∧ w'.ownsRow base e 1 v' (n + m) (xs ++ List.replicate m z) ∧ w.grownBy w' (some g) ∧ ∃ g' cap', v' = .slice (some ⟨g', 0, none⟩) (n + m) cap' ∧ (g' = g ∨ g' = w.heap.size) := by
  have hlen : (xs ++ List.replicate m z).length = (n + m) * 1 := by rw [List.length_append, hown.1, List.length_replicate]; omega
  have hw64 : IntKind.i64.wrap (m : Int) = (m : Int) := by rw [IntWalk.i64_left]; exact IntWalk.wrap64_in _ ⟨by omega, by omega⟩
  have hneg : ¬ (m : Int) < 0 := by omega
  have h48 : ¬ (281474976710656 : Int) < (m : Int) * 8 := by omega
  have hm0 : ¬ m = 0 := by omega
  rcases hown.2 with ⟨h, _⟩ | ⟨g', cap', cur, hv, hbg, hg, hnc, hcm, hcs, htake⟩
  · simp at h
  · simp only [Value.slice.injEq, Option.some.injEq, Addr.mk.injEq, and_true, true_and] at hv
    obtain ⟨rfl, rfl⟩ := hv
    simp only [Nat.mul_one] at hcs htake
    by_cases hroom : n + m ≤ cap
    · have hst := run_storeCells_at P g n e (List.replicate m z) 0 cur w hg (by rw [List.length_replicate]; omega) (fun u hu => by rw [List.mem_replicate] at hu; rw [hu.2]; exact hz1)
      simp only [Nat.add_zero] at hst
      refine ⟨.slice (some ⟨g, 0, none⟩) (n + m) cap, w.setRow g (cur.toList.take n ++ List.replicate m z ++ cur.toList.drop (n + m)).toArray, ?_, ⟨hlen, .inr ⟨g, cap, _, rfl, hbg, setRow_heap w g cur _ e _ hg, hroom, hcm, ?_, ?_⟩⟩, ⟨rfl, rfl, rfl, by simp, fun k _ hk => setRow_other w g k _ (fun e => hk (by simp [e]))⟩, ⟨g, cap, rfl, .inl rfl⟩⟩
      · simp [Builtin.append_, run_underlying ht, run_underlying hu, sizeOf, typeInfo, zeroValue, hi, hz, hsize, hby, asInt, asIntOf, hw64, hneg, h48, hm0, hroom, hzc, zeroCells_one, Addr.add_lit, hst]
      · simp only [List.size_toArray, List.length_append, List.length_take, List.length_drop, Array.length_toList, List.length_replicate]
        omega
      · rw [htake, ← hlen]
        exact List.take_left
    · have hge := grownCap_ge w (n + m) cap e
      have hcm' : grownCap w (n + m) cap e ≤ maxLen := grownCap_le_maxLen w (n + m) cap e (by unfold maxLen; omega)
      have holds : ∀ j u, xs[j]? = some u → w.cell? ((⟨g, 0, none⟩ : Addr).add j) = some u := hown.cells (g := g) rfl
      have hfo := run_firstCells_some (P := P) w.drew 1 n ⟨g, 0, none⟩ n cap xs hown.1 (by simpa using holds)
      have hfit := growslice_fits (bytes := 8) (show cap < n + m by omega) (by omega)
      have h63' : ¬ (9223372036854775807 < ((n : Int) + (m : Int))) := by omega
      have h48' : ¬ (281474976710656 < Builtin.nextslicecap (n + m) cap * 8) := by omega
      refine ⟨.slice (some ⟨w.heap.size, 0, none⟩) (n + m) (grownCap w (n + m) cap e), w.drew.alloc (.cells (xs.toArray ++ (List.replicate m z).toArray ++ Builtin.zeroCells z.cells (grownCap w (n + m) cap e - (n + m))) e), ?_, ⟨hlen, .inr ⟨w.heap.size, _, _, rfl, hbase, heap_alloc_new w.drew _, hge, hcm', ?_, ?_⟩⟩, ⟨rfl, rfl, rfl, by simp, fun k hk _ => Below.heap_alloc w.drew _ k hk⟩, ⟨_, _, rfl, .inr rfl⟩⟩
      · simp [Builtin.append_, run_underlying ht, run_underlying hu, sizeOf, typeInfo, zeroValue, hi, hz, hsize, hby, asInt, asIntOf, hw64, hneg, h48, hm0, hroom, hzc, zeroCells_one, h63', h48', Question.forced, hfo, newRow, grownCap]
      · simp only [Array.size_append, List.size_toArray, size_zeroCells, hzc, List.length_singleton, List.length_replicate]
        have := hown.1
        omega
      · simp only [Array.toList_append, List.append_assoc]
        rw [← List.append_assoc, ← hlen]
        exact List.take_left

theorem wp_app_zero {P : Program} (w : World) {o : Oper} {a : Act} {K : Act → World → Prop} {Q : Exit → Act → World → Prop} (s x : Operand) (t u : TypeId)
    (ho : o.op = .call { callee := .builtin .append, args := #[s, x], argTypes := #[t, u] })
    (base : Nat) (e : TypeId) (i : TypeInfo) (z : Value) (ik : IntKind) (ht : P.underlying t = some (.slice e)) (hu : P.underlying u = some (.int ik)) (hi : P.info? e = some i) (hz : i.zero = some z) (hzc : z.cells = #[z]) (hz1 : z.oneCell' = true)
    (hsize : i.size = 1) (hby : i.bytes = 8) (g n cap m : Nat) (xs : List Value) (hs : a.eval s = .slice (some ⟨g, 0, none⟩) n cap) (hx : a.eval x = .int .i64 (m : Int)) (hown : w.ownsRow base e 1 (.slice (some ⟨g, 0, none⟩) n cap) n xs) (hm : 1 ≤ m) (hnm : n + m ≤ 1000000) (hbase : base ≤ w.heap.size)
    (h : ∀ g' cap' w', w'.ownsRow base e 1 (.slice (some ⟨g', 0, none⟩) (n + m) cap') (n + m) (xs ++ List.replicate m z) → w.grownBy w' (some g) → (g' = g ∨ g' = w.heap.size) → K (a.put o.dst (.slice (some ⟨g', 0, none⟩) (n + m) cap')) w') : o.wp P a w K Q := by
  obtain ⟨v', w', hr, h2, h3, g', cap', rfl, h4⟩ := run_app_zero (P := P) w base t u o.type e i z ik ht hu hi hz hzc hz1 hsize hby g n cap m xs hown hm hnm hbase
  unfold Oper.wp execOp
  simp only [ho, resolve, invoke, builtin, Sem.run_bind, Sem.run_pure, Result.andThen_ok, List.map_toArray, List.map_cons, List.map_nil, hs, hx, hr]
  exact h g' cap' w' h2 h3 h4

theorem wpList_app_zero {P : Program} (w : World) {ops : Array Oper} {rest : List Oper} {o : Oper} {a : Act} {Q : Exit → Act → World → Prop} (hgd : o.guard = none) (s x : Operand) (t u : TypeId)
    (ho : o.op = .call { callee := .builtin .append, args := #[s, x], argTypes := #[t, u] })
    (base : Nat) (e : TypeId) (i : TypeInfo) (z : Value) (ik : IntKind) (ht : P.underlying t = some (.slice e)) (hu : P.underlying u = some (.int ik)) (hi : P.info? e = some i) (hz : i.zero = some z) (hzc : z.cells = #[z]) (hz1 : z.oneCell' = true)
    (hsize : i.size = 1) (hby : i.bytes = 8) (g n cap m : Nat) (xs : List Value) (hs : a.eval s = .slice (some ⟨g, 0, none⟩) n cap) (hx : a.eval x = .int .i64 (m : Int)) (hown : w.ownsRow base e 1 (.slice (some ⟨g, 0, none⟩) n cap) n xs) (hm : 1 ≤ m) (hnm : n + m ≤ 1000000) (hbase : base ≤ w.heap.size)
    (h : ∀ g' cap' w', w'.ownsRow base e 1 (.slice (some ⟨g', 0, none⟩) (n + m) cap') (n + m) (xs ++ List.replicate m z) → w.grownBy w' (some g) → (g' = g ∨ g' = w.heap.size) → wpList P ops Q rest (a.put o.dst (.slice (some ⟨g', 0, none⟩) (n + m) cap')) w') : wpList P ops Q (o :: rest) a w :=
  wpList_plain hgd fun _ hK => wp_app_zero w s x t u ho base e i z ik ht hu hi hz hzc hz1 hsize hby g n cap m xs hs hx hown hm hnm hbase fun g' c' w' h2 h3 h4 => hK _ _ (h g' c' w' h2 h3 h4)

end Go.Proofs.Ytkgljfnbaoncbaa

/- Rows of one's own of any lengths; a row made longer. -/
namespace Go.Proofs.Ytkgljfnbaoncbaa
open Go.RowKit

def gmV (g c : Nat → Nat) (R : List (List Int)) : List Value := (List.range R.length).map fun i => .slice (some ⟨g i, 0, none⟩) (R.getD i []).length (c i)

structure GM (B : Nat) (g c : Nat → Nat) (w : World) (v : Value) (R : List (List Int)) : Prop where
  out : w.ownsRow B 26 1 v R.length (gmV g c R)
  row : ∀ i, i < R.length → w.ownsRow B 3 1 (.slice (some ⟨g i, 0, none⟩) (R.getD i []).length (c i)) (R.getD i []).length (ints (R.getD i []))
  apart : ∀ i j, i < R.length → j < R.length → g i = g j → i = j

theorem OM.gm {B : Nat} {g c : Nat → Nat} {k n : Nat} {w : World} {v : Value} {R : List (List Int)} (h : OM B g c k n w v R) : GM B g c w v R := by
  have e : gmV g c R = rowsV g c n k := by
    unfold gmV rowsV
    rw [h.num]
    refine List.map_congr_left fun i hi => ?_
    rw [h.len i (List.mem_range.1 hi)]
  refine ⟨by rw [e, h.num]; exact h.out, fun i hi => ?_, fun i j hi hj => h.apart i j (by rw [← h.num]; exact hi) (by rw [← h.num]; exact hj)⟩
  rw [h.num] at hi
  rw [h.len i hi]
  exact h.row i hi

theorem GM.om {B : Nat} {g c : Nat → Nat} {w : World} {v : Value} {R : List (List Int)} {n : Nat} (h : GM B g c w v R) (hl : ∀ i, i < R.length → (R.getD i []).length = n) : OM B g c R.length n w v R := by
  have e : gmV g c R = rowsV g c n R.length := by
    unfold gmV rowsV
    refine List.map_congr_left fun i hi => ?_
    rw [hl i (List.mem_range.1 hi)]
  refine ⟨rfl, hl, by rw [← e]; exact h.out, fun i hi => ?_, h.apart⟩
  have := h.row i hi
  rw [hl i hi] at this
  exact this

theorem GM.cellG {B : Nat} {g c : Nat → Nat} {G cap : Nat} {w : World} {R : List (List Int)} (h : GM B g c w (.slice (some ⟨G, 0, none⟩) R.length cap) R) {i : Nat} (hi : i < R.length) : w.cell? ⟨G, i, none⟩ = some (.slice (some ⟨g i, 0, none⟩) (R.getD i []).length (c i)) ∧ w.frozen? ⟨G, i, none⟩ = false := by
  refine ⟨?_, h.out.frozenAt i⟩
  rw [h.out.cellAt i (by omega)]
  simp [gmV, hi]

/-- A row made longer, and laid in its place. -/
theorem GM.ext {B : Nat} {g c : Nat → Nat} {G cap : Nat} {w w' : World} {R : List (List Int)} {k g' c' m : Nat} (h : GM B g c w (.slice (some ⟨G, 0, none⟩) R.length cap) R) (hk : k < R.length)
    (ho : w'.ownsRow B 3 1 (.slice (some ⟨g', 0, none⟩) ((R.getD k []).length + m) c') ((R.getD k []).length + m) (ints (R.getD k []) ++ List.replicate m (.int .i64 0))) (hg : w.grownBy w' (some (g k))) (hor : g' = g k ∨ g' = w.heap.size) :
    GM B (updN g k g') (updN c k c') (w'.setCell ⟨G, k, none⟩ (.slice (some ⟨g', 0, none⟩) ((R.getD k []).length + m) c')) (.slice (some ⟨G, 0, none⟩) R.length cap) (R.set k (R.getD k [] ++ List.replicate m 0)) := by
  have hGk : ∃ cur, w.heap[G]? = some (.cells cur 26 (0, 0)) := own_heap h.out
  obtain ⟨curG, hG⟩ := hGk
  have hgR : ∀ i, i < R.length → g i < w.heap.size ∧ g i ≠ G := fun i hi => by
    refine ⟨((h.row i hi).lt _ rfl).2, fun e => ?_⟩
    obtain ⟨cur, hc⟩ := own_heap (h.row i hi)
    rw [e, hG] at hc
    simp at hc
  have hGl : G < w.heap.size := (h.out.lt G rfl).2
  have hg'G : g' ≠ G := by
    rcases hor with e | e
    · rw [e]; exact (hgR k hk).2
    · omega
  have hout : w'.ownsRow B 26 1 (.slice (some ⟨G, 0, none⟩) R.length cap) R.length (gmV g c R) := own_keepB h.out (fun b hb => by
    simp only [Value.ownBlock, Option.some.injEq] at hb
    subst hb
    exact hg.block _ hGl (by simp only [ne_eq, Option.some.injEq]; exact fun e => (hgR k hk).2 e.symm))
  have hst := (hout.stored k (.slice (some ⟨g', 0, none⟩) ((R.getD k []).length + m) c')).1
  have hoth : ∀ b, b ≠ G → (w'.setCell ⟨G, k, none⟩ (.slice (some ⟨g', 0, none⟩) ((R.getD k []).length + m) c')).heap[b]? = w'.heap[b]? := fun b hb => Below.heap_setCell w' _ _ b hb
  have hrl : ∀ i, i < R.length → i ≠ k → (R.set k (R.getD k [] ++ List.replicate m 0)).getD i [] = R.getD i [] := fun i hi hne => by
    simp [List.getD_eq_getElem?_getD, Ne.symm hne]
  have hrk : (R.set k (R.getD k [] ++ List.replicate m 0)).getD k [] = R.getD k [] ++ List.replicate m 0 := by
    simp [List.getD_eq_getElem?_getD, hk]
  refine ⟨?_, fun i hi => ?_, fun i j hi hj e => ?_⟩
  · have e : gmV (updN g k g') (updN c k c') (R.set k (R.getD k [] ++ List.replicate m 0)) = (gmV g c R).set k (.slice (some ⟨g', 0, none⟩) ((R.getD k []).length + m) c') := by
      refine List.ext_getElem? fun i => ?_
      by_cases hi : i < R.length
      · by_cases e : i = k
        · subst e
          simp only [gmV, List.length_set, List.getElem?_map, List.getElem?_range hi, Option.map_some, hrk]
          simp [updN, hi]
        · rw [List.getElem?_set_ne (Ne.symm e)]
          simp only [gmV, List.length_set, List.getElem?_map, List.getElem?_range hi, Option.map_some, hrl i hi e]
          simp [updN, e]
      · rw [List.getElem?_eq_none (by simp [gmV]; omega), List.getElem?_eq_none (by simp [gmV]; omega)]
    rw [e, List.length_set]
    exact hst
  · rw [List.length_set] at hi
    by_cases e : i = k
    · subst e
      rw [hrk]
      simp only [updN, if_true, List.length_append, List.length_replicate]
      have e2 : ints (R.getD i [] ++ List.replicate m 0) = ints (R.getD i []) ++ List.replicate m (.int .i64 0) := by simp [ints]
      rw [e2]
      exact own_keepB ho (fun b hb => by
        simp only [Value.ownBlock, Option.some.injEq] at hb
        subst hb
        exact hoth _ hg'G)
    · rw [hrl i hi e]
      simp only [updN, if_neg e]
      exact own_keepB (h.row i hi) (fun b hb => by
        simp only [Value.ownBlock, Option.some.injEq] at hb
        subst hb
        exact (hoth _ (hgR i hi).2).trans (hg.block _ (hgR i hi).1 (by
          simp only [ne_eq, Option.some.injEq]
          exact fun e2 => e (h.apart i k hi hk e2))))
  · rw [List.length_set] at hi hj
    unfold updN at e
    by_cases e1 : i = k
    · by_cases e2 : j = k
      · omega
      · rw [if_pos e1, if_neg e2] at e
        rcases hor with h1 | h1
        · exact absurd (h.apart k j hk hj (by rw [← h1]; exact e)) (fun x => e2 x.symm)
        · have := (hgR j hj).1; omega
    · by_cases e2 : j = k
      · rw [if_neg e1, if_pos e2] at e
        rcases hor with h1 | h1
        · exact absurd (h.apart i k hi hk (by rw [← h1]; exact e)) e1
        · have := (hgR i hi).1; omega
      · rw [if_neg e1, if_neg e2] at e
        exact h.apart i j hi hj e

end Go.Proofs.Ytkgljfnbaoncbaa
