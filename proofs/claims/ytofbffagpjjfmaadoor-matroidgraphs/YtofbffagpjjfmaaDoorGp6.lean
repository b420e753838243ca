/- choose.Picked over pairs. -/
import Derived.Test.YtofbffagpjjfmaaDoorGp1
import Derived.Test.YtofbffagpjjfmaaDoorAp1
import Derived.Test.YtofbffagpjjfmaaDoorMade1
namespace Go.Proofs.YtofbffagpjjfmaaDoor
open Go.RowKit
attribute [local go_sem ↓] Go.wp_at_zero Go.wp_at_succ

def ecP (es : List (Nat × Nat)) : List Value := es.flatMap fun e => [.int .i64 (e.1 : Int), .int .i64 (e.2 : Int)]

theorem ecP_len : ∀ es : List (Nat × Nat), (ecP es).length = es.length * 2
  | [] => rfl
  | e :: es => by
    have := ecP_len es
    unfold ecP at this ⊢
    simp only [List.flatMap_cons, List.length_append, List.length_cons, List.length_nil]
    omega

theorem ecP_get : ∀ (es : List (Nat × Nat)) (i : Nat) (e : Nat × Nat), es[i]? = some e → (ecP es)[i * 2]? = some (.int .i64 (e.1 : Int)) ∧ (ecP es)[i * 2 + 1]? = some (.int .i64 (e.2 : Int))
  | [], i, e, h => by simp at h
  | x :: es, 0, e, h => by
    simp only [List.getElem?_cons_zero, Option.some.injEq] at h
    subst h
    exact ⟨rfl, rfl⟩
  | x :: es, i + 1, e, h => by
    simp only [List.getElem?_cons_succ] at h
    have := ecP_get es i e h
    have e1 : (i + 1) * 2 = i * 2 + 1 + 1 := by omega
    have e2 : ecP (x :: es) = .int .i64 (x.1 : Int) :: .int .i64 (x.2 : Int) :: ecP es := rfl
    rw [e1, e2]
    exact this


theorem infoE3 : (Tryd.prog.info? 33).map (fun i => (i.zero, i.size, i.bytes)) = some (some (.agg #[.int .i64 0, .int .i64 0]), 2, 16) := by kernel_rfl


theorem two_newE (w : World) (x y : Value) (t : TypeId) : ∀ j u, [x, y][j]? = some u → (w.alloc (.cells #[x, y] t)).cell? ((⟨w.heap.size, 0, none⟩ : Addr).add j) = some u := fun j u hj => by
  rcases j with _ | _ | j
  · simp at hj; subst hj; simp [Addr.add]
  · simp at hj; subst hj; simp [Addr.add]
  · simp at hj

theorem two_intE (a b : Int) : ∀ u ∈ [Value.int .i64 a, .int .i64 b], u.oneCell' = true := fun u hu => by
  simp at hu
  rcases hu with rfl | rfl <;> rfl

/-- A row of pairs that is one's own is a list of edges. -/
theorem Eds.own {B : Nat} {w : World} {v : Value} {es : List (Nat × Nat)} (h : w.ownsRow B 33 2 v es.length (ecP es)) : Eds w.heap.size w v es := by
  rcases h.2 with ⟨e, h0⟩ | ⟨g, cap, cur, e1, h2, h3, h4, h5, h6, h7⟩
  · exact ⟨none, 0, by rw [e, h0], fun i hi => by omega⟩
  · refine ⟨some ⟨g, 0, none⟩, cap, e1, fun i hi => ⟨g, 0, rfl, (Array.getElem?_eq_some_iff.1 h3).1, ?_⟩⟩
    obtain ⟨k1, k2⟩ := ecP_get es i es[i] (List.getElem?_eq_getElem hi)
    have hel := ecP_len es
    have hce : ∀ j u, (ecP es)[j]? = some u → w.cell? ⟨g, 0 + j, none⟩ = some u := fun j u hj => by
      have hj2 := (List.getElem?_eq_some_iff.1 hj).1
      rw [← h7, List.getElem?_take_of_lt (by omega), Array.getElem?_toList] at hj
      simp [World.cell?, h3, hj]
    have e2 : es.getD i (0, 0) = es[i] := by simp [hi]
    rw [e2]
    exact ⟨hce _ _ k1, hce _ _ k2⟩

set_option maxRecDepth 100000 in
set_option maxHeartbeats 800000 in
theorem pickedE_any (es : List (Nat × Nat)) (x : List Int) (v u : Value) (w : World) (he : Eds w.heap.size w v es) (hu : Sl w.heap.size 3 w u (ints x)) (hx : ∀ i, i < x.length → 0 ≤ x.getD i 0 ∧ x.getD i 0 < es.length) (hl : x.length ≤ 1000) :
    Calls Tryd.prog 12 #[v, u] w fun e w' => ∃ z, e = .returned z ∧ Eds w'.heap.size w' z (x.map fun z => es.getD z.toNat (0, 0)) ∧ Below w.heap.size w w' := by
  obtain ⟨i2, hi2, hz20, hz21, hz22⟩ := info_parts infoE3
  have HE0 : Hid (∀ W', Below w.heap.size w W' → Eds w.heap.size W' v es) := fun W' h => he.below h (Nat.le_refl _)
  obtain ⟨po, ec, rfl, -⟩ := he
  obtain ⟨bo, cbp, huu, hlb, hcb⟩ := sl_open hu
  subst huu
  have HU : Hid (∀ W', Below w.heap.size w W' → Sl w.heap.size 3 W' (.slice bo x.length cbp) (ints x)) := fun W' h => hu.below h (Nat.le_refl _)
  have HX : Hid (∀ i, i < x.length → 0 ≤ x.getD i 0 ∧ x.getD i 0 < es.length) := hx
  clear hu hx
  have hmk : (Instr.makeSlice 22 (.int .i64 0) (.int .i64 (x.length : Int))).run Tryd.prog w = .ok (.slice (some ⟨w.heap.size, 0, none⟩) 0 x.length) (w.alloc (.cells (madeCells #[.int .i64 0, .int .i64 0] (x.length * 2)) 33)) := by
    have := run_make (P := Tryd.prog) w 22 33 i2 (.agg #[.int .i64 0, .int .i64 0]) Tryd.underlying22 hi2 hz20 .i64 .i64 0 x.length (by omega) (by omega) (by rw [hz22]; omega) (by omega)
    rw [hz21, show (Value.agg #[.int .i64 0, .int .i64 0]).cells = #[.int .i64 0, .int .i64 0] from rfl] at this
    simpa using this
  obtain ⟨wA, hW⟩ : ∃ wA, wA = w.alloc (.cells (madeCells #[.int .i64 0, .int .i64 0] (x.length * 2)) 33) := ⟨_, rfl⟩
  have HO0 : Hid (wA.ownsRow w.heap.size 33 2 (.slice (some ⟨w.heap.size, 0, none⟩) 0 x.length) 0 []) := by
    rw [hW]
    exact World.ownsRow_made w _ x.length (Nat.le_refl _) (by unfold maxLen; omega) (by rw [size_madeCells])
  have HB0 : Hid (Below w.heap.size w wA) := by rw [hW]; exact (Below.refl _ _).alloc (Nat.le_refl _) _
  rw [← hW] at hmk
  clear hW
  go_enter Tryd.func12, Tryd.ntmps12
  go_wp2
  go_loopw [5, 13] (fun s i wr => ∃ (k : Nat) (L : List (Nat × Nat)), k ≤ x.length ∧ i = .int .i64 k ∧ L = (x.take k).map (fun z => es.getD z.toNat (0, 0)) ∧ wr.ownsRow w.heap.size 33 2 s k (ecP L) ∧ Below w.heap.size w wr) (fun _ i _ => x.length - (intOf i).toNat)
  case atStart => exact ⟨0, [], Nat.zero_le _, rfl, by simp, HO0.out, HB0.out⟩
  case round =>
    obtain ⟨k, L, hk, rfl, hL, ho, hb⟩ := hrel
    have HL : Hid (L = (x.take k).map (fun z => es.getD z.toNat (0, 0))) := hL
    have HO : Hid (wr.ownsRow w.heap.size 33 2 u5 k (ecP L)) := ho
    have HB : Hid (Below w.heap.size w wr) := hb
    have hsz : w.heap.size ≤ wr.heap.size := hb.size
    clear hL ho hb HO0 HB0
    by_cases hlt : k < x.length
    · obtain ⟨b, o, cp, hs, hc1, hcc⟩ := sl_cell (HU.out wr HB.out) hlt
      simp only [Value.slice.injEq] at hs
      obtain ⟨rfl, _, rfl⟩ := hs
      obtain ⟨hx0, hx1⟩ := HX.out k hlt
      have HSN : Hid ((x.take (k + 1)).map (fun z => es.getD z.toNat (0, 0)) = L ++ [es.getD (x.getD k 0).toNat (0, 0)]) := by
        show _ = _
        rw [take_snoc_int x k hlt, List.map_append, HL.out]; rfl
      obtain ⟨q, hq⟩ : ∃ q : Nat, x.getD k 0 = (q : Int) := ⟨(x.getD k 0).toNat, by omega⟩
      rw [hq] at hcc hx0 hx1 HSN
      rw [show ((q : Int)).toNat = q by omega] at HSN
      clear hq
      obtain ⟨po', ec', hpe, hcell⟩ := HE0.out wr HB.out
      simp only [Value.slice.injEq, true_and] at hpe
      obtain ⟨rfl, rfl⟩ := hpe
      obtain ⟨eb, eo, hpo, _, hc2, hc3⟩ := hcell q (by omega)
      subst hpo
      clear hcell
      generalize es.getD q (0, 0) = cd at *
      obtain ⟨c, d⟩ := cd
      dsimp only at hc2 hc3
      have kI : (k : Int) < (x.length : Int) := by omega
      have kI0 : (0 : Int) ≤ (k : Int) := by omega
      go_wp2_with (first | (at_builtin; refine wpList_append_own _ rfl _ _ 22 rfl w.heap.size 33 i2 (.agg #[.int .i64 0, .int .i64 0]) 2 16 Tryd.underlying22 hi2 hz20 hz21 hz22 rfl (by decide) _ _ _ rfl (HO.out.alloc _) ⟨wr.heap.size, 0, none⟩ 1 1 [.int .i64 (c : Int), .int .i64 (d : Int)] rfl rfl (two_newE _ _ _ _) (two_intE _ _) ?c3 ?c4 ?c5 ?_))
      case c3 => unfold maxLen; omega
      case c4 => omega
      case c5 => first | exact hsz | omega | (simp; omega)
      intro v' w7 ho7 hg7 _
      have R1 : Hid (w7.ownsRow w.heap.size 33 2 v' (k + 1) (ecP (L ++ [(c, d)]))) := by
        have e2 : ecP (L ++ [(c, d)]) = ecP L ++ [.int .i64 (c : Int), .int .i64 (d : Int)] := by simp [ecP]
        show World.ownsRow _ _ _ _ _ _ _
        rw [e2]
        exact ho7
      have R2 : Hid (Below w.heap.size w w7) := (HB.out.alloc hsz _).grown hg7 (by simp; omega) (fun x hx => (HO.out.lt x hx).1)
      clear ho7 hg7
      go_wp2
      exact ⟨⟨k + 1, _, by omega, by go_num, HSN.out.symm, R1.out, R2.out⟩, by simp [intOf]; omega⟩
    · have hke : k = x.length := by omega
      subst hke
      have HLX : Hid (L = x.map (fun z => es.getD z.toNat (0, 0))) := by
        show _ = _
        rw [HL.out, List.take_length]
      have HED : Hid (Eds wr.heap.size wr u5 (x.map fun z => es.getD z.toNat (0, 0))) := by
        have h := HO.out
        rw [HLX.out] at h
        refine Eds.own (B := w.heap.size) ?_
        rw [List.length_map]
        exact h
      go_wp2
      go_ret
      exact ⟨_, rfl, HED.out, HB.out⟩

end Go.Proofs.YtofbffagpjjfmaaDoor
