import Derived.Test.YtehklbekaflokaaDoorGt2
import Derived.Test.YtehklbekaflokaaDoorMade1
import Derived.Test.YtehklbekaflokaaDoorPik
/- facetref.GraphOf, GraphEdges: they come to their end. -/
namespace Go.Proofs.YtehklbekaflokaaDoor
open Go.RowKit
attribute [local go_sem ↓] Go.wp_at_zero Go.wp_at_succ

theorem Edg.below {B : Nat} {w w' : World} {v : Value} {m nodes : Nat} (h : Edg B w v m nodes) (hb : Below B w w') : Edg B w' v m nodes := by
  obtain ⟨eb, eo, ec, h1, h2, h3, h4⟩ := h
  refine ⟨eb, eo, ec, h1, h2, Nat.le_trans h3 hb.size, fun i hi => ?_⟩
  obtain ⟨a, b, k1, k2, k3, k4⟩ := h4 i hi
  exact ⟨a, b, k1, k2, (hb.cell h2).trans k3, (hb.cell h2).trans k4⟩

theorem Edg.more {B B' : Nat} {w : World} {v : Value} {m nodes : Nat} (h : Edg B w v m nodes) (h1 : B ≤ B') (h2 : B' ≤ w.heap.size) : Edg B' w v m nodes := by
  obtain ⟨eb, eo, ec, k1, k2, k3, k4⟩ := h
  exact ⟨eb, eo, ec, k1, by omega, h2, k4⟩

set_option maxRecDepth 100000 in
set_option maxHeartbeats 800000 in
theorem graphOf_any (nodes m : Nat) (v : Value) (w : World) (he : Edg w.heap.size w v m nodes) (hm : m ≤ 8) (hn : nodes ≤ 8) :
    Calls Tryd.prog 47 #[.int .i64 nodes, v] w fun e w' => ∃ u xs, e = .returned (.agg #[.int .i64 m, u]) ∧ Sl 0 3 w' u (ints xs) ∧ Below w.heap.size w w' := by
  obtain ⟨i3, hi3, hz30, hz31, hz32⟩ := info_parts Tryd.info3
  have HE0 : Hid (Edg w.heap.size w v m nodes) := he
  obtain ⟨eb, eo, ec, hvv, -⟩ := he
  subst hvv
  obtain ⟨W, hW⟩ : ∃ W, W = w.alloc (.cells #[.int .i64 0, .slice none 0 0] 24) := ⟨_, rfl⟩
  have HBA : Hid (Below w.heap.size w W) := by rw [hW]; exact (Below.refl _ _).alloc (Nat.le_refl _) _
  have HR0 : Hid (W.heap[w.heap.size]? = some (.cells #[.int .i64 0, .slice none 0 0] 24 (0, 0))) := by rw [hW]; exact heap_alloc_new w _
  have HWS : Hid (W.heap.size = w.heap.size + 1) := by rw [hW]; show _ = _; simp
  obtain ⟨tn, htn⟩ : ∃ tn : Nat, tn = 2 ^ m := ⟨_, rfl⟩
  have hti : (2 : Int) ^ m = (tn : Int) := by rw [htn]; simp
  have htl : tn ≤ 256 := by rw [htn]; exact show 2 ^ m ≤ 2 ^ 8 from Nat.pow_le_pow_right (by omega) hm
  have hwt : IntKind.i64.wrap (tn : Int) = (tn : Int) := wrap_small (by omega)
  have HAR : Hid (∀ W' (s : Nat), Below w.heap.size w W' → s < tn → Calls Tryd.prog 60 #[.int .i64 nodes, .slice (some ⟨eb, eo, none⟩) m ec, .int .i64 s] W' fun e w' => ∃ b, e = .returned (.bool b) ∧ Below W'.heap.size W' w') := fun W' s h hs =>
    around_any nodes m s _ W' ((HE0.out.below h).more h.size (Nat.le_refl _)) (by rw [← htn]; exact hs) hm hn
  clear htn
  go_enter Tryd.func47, Tryd.ntmps47
  go_wp2
  rw [← hW]
  clear hW
  go_loopw [5, 6] (fun gv x wr => ∃ (k : Nat) (xs : List Int), k ≤ tn ∧ x = .int .i64 k ∧ wr.ownsRow W.heap.size 3 1 gv xs.length (ints xs) ∧ xs.length ≤ k ∧ (∀ z ∈ xs, 0 ≤ z ∧ z < 256) ∧ Below W.heap.size W wr) (fun _ x _ => tn - (intOf x).toNat)
  case atStart => exact ⟨0, [], Nat.zero_le _, rfl, World.ownsRow_nil _ _ _ _, Nat.le_refl _, fun z hz => by simp at hz, Below.refl _ _⟩
  case round =>
    obtain ⟨k, xs, hk, rfl, ho, hxl, hz, hbr⟩ := hrel
    have HO : Hid (wr.ownsRow W.heap.size 3 1 u5 xs.length (ints xs)) := ho
    have HZ : Hid (∀ z ∈ xs, 0 ≤ z ∧ z < 256) := hz
    have HB : Hid (Below W.heap.size W wr) := hbr
    have HBW : Hid (Below w.heap.size w wr) := HBA.out.trans (HB.out.mono HBA.out.size)
    clear ho hz hbr
    by_cases hlt : k < tn
    · have kI : (k : Int) < (tn : Int) := by omega
      go_wp2_with fail
      refine (HAR.out wr k HBW.out hlt).mono ?_
      rintro e w3 ⟨b, rfl, hb3⟩
      have HB3 : Hid (Below W.heap.size W w3) := HB.out.trans (hb3.mono HB.out.size)
      have HO3 : Hid (w3.ownsRow W.heap.size 3 1 u5 xs.length (ints xs)) := by
        refine ⟨HO.out.1, ?_⟩
        rcases HO.out.2 with h1 | ⟨g, cap, cur, e1, h2, h3, h4⟩
        · exact .inl h1
        · exact .inr ⟨g, cap, cur, e1, h2, (hb3.block g (Array.getElem?_eq_some_iff.1 h3).1).trans h3, h4⟩
      clear hb3
      have hszr : W.heap.size ≤ w3.heap.size := HB3.out.size
      cases b
      · go_wp2_with (first | (at_builtin; refine wpList_append_own _ rfl _ _ 22 rfl W.heap.size 3 i3 (.int .i64 0) 1 8 Tryd.underlying22 hi3 hz30 hz31 hz32 rfl (by decide) _ _ _ rfl (HO3.out.alloc _) ⟨w3.heap.size, 0, none⟩ 1 1 [.int .i64 k] rfl rfl (one_new _ _ _) (one_int _) ?c3 ?c4 ?c5 ?_))
        case c3 => unfold maxLen; omega
        case c4 => omega
        case c5 => first | exact hszr | omega | (simp; omega)
        intro v' w5 ho5 hg5 _
        have R1 : Hid (w5.ownsRow W.heap.size 3 1 v' (xs ++ [(k : Int)]).length (ints (xs ++ [(k : Int)]))) := by
          have e2 : ints (xs ++ [(k : Int)]) = ints xs ++ [.int .i64 (k : Int)] := by simp [ints]
          show World.ownsRow _ _ _ _ _ _ _
          rw [e2, List.length_append, List.length_singleton]
          exact ho5
        have R2 : Hid (Below W.heap.size W w5) := (HB3.out.alloc hszr _).grown hg5 (by simp; omega) (fun x hx => (HO3.out.lt x hx).1)
        have R3 : Hid (∀ z ∈ xs ++ [(k : Int)], 0 ≤ z ∧ z < 256) := fun z hz => by
          rcases List.mem_append.1 hz with hz | hz
          · exact HZ.out z hz
          · have : z = (k : Int) := by simpa using hz
            omega
        clear ho5 hg5
        go_wp2
        exact ⟨⟨k + 1, _, by omega, by go_num, R1.out, by rw [List.length_append, List.length_singleton]; omega, R3.out, R2.out⟩, by simp [intOf]; omega⟩
      · go_wp2
        exact ⟨⟨k + 1, xs, by omega, by go_num, HO3.out, by omega, HZ.out, HB3.out⟩, by simp [intOf]; omega⟩
    · have hke : tn = k := by omega
      subst hke
      obtain ⟨go, gc, hu⟩ := owns_form HO.out
      subst hu
      have HGR : Hid (Calls Tryd.prog 61 #[.int .i64 m, .slice go xs.length gc] wr fun e w' => ∃ u ys, e = .returned (.agg #[.int .i64 m, u]) ∧ Sl 0 3 w' u (ints ys) ∧ Below wr.heap.size wr w') := greatest_any m xs _ wr ((Sl.own (B := 0) HO.out).more (Nat.zero_le _)) (by omega) HZ.out
      go_wp2_with fail
      refine HGR.out.mono ?_
      rintro e w3 ⟨u, ys, rfl, hs3, hb3⟩
      have HS3 : Hid (Sl 0 3 w3 u (ints ys)) := hs3
      have hres : w3.heap[w.heap.size]? = some (.cells #[.int .i64 0, .slice none 0 0] 24 (0, 0)) := by
        have h1 := HB.out.size
        have h2 := HWS.out
        exact ((hb3.block _ (by omega)).trans (HB.out.block _ (by omega))).trans HR0.out
      have r0 : w3.cell? ⟨w.heap.size, 0, none⟩ = some (.int .i64 0) := by simp [World.cell?, hres]
      have r1 : w3.cell? ⟨w.heap.size, 1, none⟩ = some (.slice none 0 0) := by simp [World.cell?, hres]
      have rf0 : w3.frozen? ⟨w.heap.size, 0, none⟩ = false := by simp [World.frozen?, hres]
      have rf1 : w3.frozen? ⟨w.heap.size, 1, none⟩ = false := by simp [World.frozen?, hres]
      obtain ⟨yo, yc, hyv, _, _⟩ := sl_open hs3
      subst hyv
      have HB3 : Hid (Below w.heap.size w w3) := HBW.out.trans (hb3.mono HBW.out.size)
      have HTY : Hid (w3.heap[w.heap.size]? = some (.cells #[.int .i64 0, .slice none 0 0] 24 (0, 0))) := hres
      have HBX : Hid (Below w.heap.size w ((w3.setCell ⟨w.heap.size, 0, none⟩ (.int .i64 m)).setCell ⟨w.heap.size, 1, none⟩ (.slice yo ys.length yc))) := (HB3.out.setCell (by simp) _).setCell (by simp) _
      have HSX : Hid (Sl 0 3 ((w3.setCell ⟨w.heap.size, 0, none⟩ (.int .i64 m)).setCell ⟨w.heap.size, 1, none⟩ (.slice yo ys.length yc)) (.slice yo ys.length yc) (ints ys)) := by
        refine HS3.out.move fun b hb ht => ?_
        rcases ht with ht | ⟨cur, ht⟩
        · omega
        · have hne : b ≠ w.heap.size := fun e => by
            rw [e, HTY.out] at ht
            simp at ht
          exact ⟨(Below.heap_setCell _ _ _ _ (by show b ≠ w.heap.size; exact hne)).trans (Below.heap_setCell _ _ _ _ (by show b ≠ w.heap.size; exact hne)), .inr ⟨cur, ht⟩⟩
      clear hs3 hb3 hres
      go_wp2
      exact bodyPost_ret (v := .agg #[.int .i64 m, .slice yo ys.length yc]) (by simp [results, Tryd.results47, go_sem, *]) rfl ⟨_, ys, rfl, HSX.out, HBX.out⟩

end Go.Proofs.YtehklbekaflokaaDoor

/- facetref.GraphEdges: it comes to its end, and gives edges between the nodes. -/
namespace Go.Proofs.YtehklbekaflokaaDoor
open Go.RowKit
attribute [local go_sem ↓] Go.wp_at_zero Go.wp_at_succ

theorem infoE2 : (Tryd.prog.info? 79).map (fun i => (i.zero, i.size, i.bytes)) = some (some (.agg #[.int .i64 0, .int .i64 0]), 2, 16) := by kernel_rfl

/-- The cells of the edges. -/
def ecL (es : List (Nat × Nat)) : List Value := es.flatMap fun e => [.int .i64 (e.1 : Int), .int .i64 (e.2 : Int)]

theorem ecL_len : ∀ es : List (Nat × Nat), (ecL es).length = es.length * 2
  | [] => rfl
  | e :: es => by
    have := ecL_len es
    unfold ecL at this ⊢
    simp only [List.flatMap_cons, List.length_append, List.length_cons, List.length_nil]
    omega

theorem ecL_get : ∀ (es : List (Nat × Nat)) (i : Nat) (e : Nat × Nat), es[i]? = some e → (ecL es)[i * 2]? = some (.int .i64 (e.1 : Int)) ∧ (ecL es)[i * 2 + 1]? = some (.int .i64 (e.2 : Int))
  | [], i, e, h => by simp at h
  | x :: es, 0, e, h => by
    simp only [List.getElem?_cons_zero, Option.some.injEq] at h
    subst h
    exact ⟨rfl, rfl⟩
  | x :: es, i + 1, e, h => by
    simp only [List.getElem?_cons_succ] at h
    have := ecL_get es i e h
    have e1 : (i + 1) * 2 = i * 2 + 1 + 1 := by omega
    have e2 : ecL (x :: es) = .int .i64 (x.1 : Int) :: .int .i64 (x.2 : Int) :: ecL es := rfl
    rw [e1, e2]
    exact this

set_option maxRecDepth 100000 in
set_option maxHeartbeats 800000 in
theorem graphEdges_any (nodes many : Nat) (raw : List Int) (v : Value) (w : World) (hv : Sl w.heap.size 3 w v (ints raw)) (hr : ∀ z ∈ raw, In64 z) (hl : raw.length ≤ 256) (hn1 : 1 ≤ nodes) (hn : nodes ≤ 8) (hm : many ≤ 8) (hm1 : 1 ≤ many) :
    Calls Tryd.prog 48 #[v, .int .i64 0, .int .i64 nodes, .int .i64 many] w fun e w' => ∃ u, e = .returned u ∧ Edg w'.heap.size w' u many nodes ∧ Below w.heap.size w w' := by
  obtain ⟨i2, hi2, hz20, hz21, hz22⟩ := info_parts infoE2
  obtain ⟨lo, lc, hvv, hlc, hcm⟩ := sl_open hv
  subst hvv
  have HRW : Hid (∀ W' (i : Nat), Below w.heap.size w W' → i ≤ 1000 → Calls Tryd.prog 49 #[.slice lo raw.length lc, .int .i64 i] W' fun e w' => ∃ z, e = .returned (.int .i64 z) ∧ (0 ≤ z ∧ z ≤ 4611686018427387904) ∧ Below w.heap.size w w' ∧ Below W'.heap.size W' w') := fun W' i h hi =>
    (raw_any w.heap.size raw _ i W' (hv.below h (Nat.le_refl _)) hr (by omega) (by omega)).mono (by
      rintro e w' ⟨z, h1, h2, h3⟩
      exact ⟨z, h1, h2, h.trans (h3.mono h.size), h3⟩)
  have HPK : Hid (∀ W' z, 0 ≤ z ∧ z ≤ 4611686018427387904 → ∃ a : Nat, a < nodes ∧ Calls Tryd.prog 21 #[.int .i64 z, .int .i64 nodes] W' fun e w' => e = .returned (.int .i64 a) ∧ w' = W') := fun W' z hz => by
    obtain ⟨k1, k2⟩ := pickF_bd (c := z) (n := (nodes : Int)) (by omega)
    refine ⟨(pickF z nodes).toNat, by omega, ?_⟩
    rw [Int.toNat_of_nonneg k1]
    exact pick_val z nodes W' (by omega) (by omega) ⟨by omega, by omega⟩
  clear hv hr
  go_enter Tryd.func48, Tryd.ntmps48
  go_wp2
  go_loopw [9, 10] (fun ev x wr => ∃ (k : Nat) (es : List (Nat × Nat)), k ≤ many ∧ x = .int .i64 k ∧ es.length = k ∧ (∀ e ∈ es, e.1 < nodes ∧ e.2 < nodes) ∧ wr.ownsRow w.heap.size 79 2 ev k (ecL es) ∧ Below w.heap.size w wr) (fun _ x _ => many - (intOf x).toNat)
  case atStart => exact ⟨0, [], Nat.zero_le _, rfl, rfl, fun e he => by simp at he, World.ownsRow_nil _ _ _ _, Below.refl _ _⟩
  case round =>
    obtain ⟨k, es, hk, rfl, hel, hes, ho, hbr⟩ := hrel
    have HO : Hid (wr.ownsRow w.heap.size 79 2 u9 k (ecL es)) := ho
    have HES : Hid (∀ e ∈ es, e.1 < nodes ∧ e.2 < nodes) := hes
    have HEL : Hid (es.length = k) := hel
    have HB : Hid (Below w.heap.size w wr) := hbr
    clear ho hes hel hbr
    by_cases hlt : k < many
    · have kI : (k : Int) < (many : Int) := by omega
      have a1 : IntKind.i64.wrap (2 * (k : Int)) = ((2 * k : Nat) : Int) := by
        rw [show (2 * (k : Int)) = ((2 * k : Nat) : Int) by omega]; exact wrap_small (by omega)
      have a2 : IntKind.i64.wrap ((2 * k : Nat) : Int) = ((2 * k : Nat) : Int) := wrap_small (by omega)
      obtain ⟨k2, hk2⟩ : ∃ k2 : Nat, k2 = 2 * k := ⟨_, rfl⟩
      obtain ⟨k3, hk3⟩ : ∃ k3 : Nat, k3 = 2 * k + 1 := ⟨_, rfl⟩
      rw [← hk2] at a1 a2
      have a3 : IntKind.i64.wrap ((k2 : Int) + 1) = (k3 : Int) := by
        rw [show ((k2 : Int) + 1) = (k3 : Int) by omega]; exact wrap_small (by omega)
      have h2 : k2 ≤ 1000 := by omega
      have h3 : k3 ≤ 1000 := by omega
      clear hk2 hk3
      go_wp2_with fail
      refine (HRW.out wr k2 HB.out h2).mono ?_
      rintro e w3 ⟨z, rfl, hz, hb3, hbx3⟩
      obtain ⟨a, ha, hca⟩ := HPK.out w3 z hz
      have HCA : Hid (Calls Tryd.prog 21 #[.int .i64 z, .int .i64 nodes] w3 fun e w' => e = .returned (.int .i64 a) ∧ w' = w3) := hca
      have HB3 : Hid (Below w.heap.size w w3) := hb3
      have HX3 : Hid (Below wr.heap.size wr w3) := hbx3
      clear hca hb3 hbx3
      go_wp2_with fail
      refine HCA.out.mono ?_
      rintro e w4 ⟨rfl, hw4⟩
      subst hw4
      go_wp2_with fail
      refine (HRW.out w4 k3 HB3.out h3).mono ?_
      rintro e w5 ⟨z2, rfl, hz2, hb5, hbx5⟩
      obtain ⟨b, hb, hcb⟩ := HPK.out w5 z2 hz2
      have HCB : Hid (Calls Tryd.prog 21 #[.int .i64 z2, .int .i64 nodes] w5 fun e w' => e = .returned (.int .i64 b) ∧ w' = w5) := hcb
      have HB5 : Hid (Below w.heap.size w w5) := hb5
      have HX5 : Hid (Below wr.heap.size wr w5) := HX3.out.trans (hbx5.mono HX3.out.size)
      clear hcb hb5 hbx5
      go_wp2_with fail
      refine HCB.out.mono ?_
      rintro e w6 ⟨rfl, hw6⟩
      subst hw6
      have HO6 : Hid (w6.ownsRow w.heap.size 79 2 u9 k (ecL es)) := by
        refine ⟨HO.out.1, ?_⟩
        rcases HO.out.2 with h1 | ⟨g, cap, cur, e1, h2, h3, h4⟩
        · exact .inl h1
        · exact .inr ⟨g, cap, cur, e1, h2, (HX5.out.block g (Array.getElem?_eq_some_iff.1 h3).1).trans h3, h4⟩
      have hszr : w.heap.size ≤ w6.heap.size := HB5.out.size
      have HNW : Hid (∀ j u, [Value.int .i64 (a : Int), .int .i64 (b : Int)][j]? = some u → (w6.alloc (.cells #[.int .i64 (a : Int), .int .i64 (b : Int)] 79)).cell? ((⟨w6.heap.size, 0, none⟩ : Addr).add j) = some u) := fun j u hj => by
        rcases j with _ | _ | j
        · simp at hj; subst hj; simp [Addr.add]
        · simp at hj; subst hj; simp [Addr.add]
        · simp at hj
      have HOC : Hid (∀ u ∈ [Value.int .i64 (a : Int), .int .i64 (b : Int)], u.oneCell' = true) := fun u hu => by
        simp at hu
        rcases hu with rfl | rfl <;> rfl
      go_wp2_with (first | (at_builtin; refine wpList_append_own _ rfl _ _ 68 rfl w.heap.size 79 i2 (.agg #[.int .i64 0, .int .i64 0]) 2 16 Tryd.underlying68 hi2 hz20 hz21 hz22 rfl (by decide) _ _ _ rfl (HO6.out.alloc _) ⟨w6.heap.size, 0, none⟩ 1 1 [.int .i64 (a : Int), .int .i64 (b : Int)] rfl rfl HNW.out HOC.out ?c3 ?c4 ?c5 ?_))
      case c3 => unfold maxLen; omega
      case c4 => omega
      case c5 => first | exact hszr | omega | (simp; omega)
      intro v' w7 ho7 hg7 _
      have R1 : Hid (w7.ownsRow w.heap.size 79 2 v' (k + 1) (ecL (es ++ [(a, b)]))) := by
        have e2 : ecL (es ++ [(a, b)]) = ecL es ++ [.int .i64 (a : Int), .int .i64 (b : Int)] := by simp [ecL]
        show World.ownsRow _ _ _ _ _ _ _
        rw [e2]
        exact ho7
      have R2 : Hid (Below w.heap.size w w7) := (HB5.out.alloc hszr _).grown hg7 (by simp; omega) (fun x hx => (HO6.out.lt x hx).1)
      have R3 : Hid (∀ e ∈ es ++ [(a, b)], e.1 < nodes ∧ e.2 < nodes) := fun e he => by
        rcases List.mem_append.1 he with he | he
        · exact HES.out e he
        · have : e = (a, b) := by simpa using he
          subst this
          exact ⟨ha, hb⟩
      have R4 : Hid ((es ++ [(a, b)]).length = k + 1) := by
        show _ = _
        rw [List.length_append, HEL.out]; rfl
      clear ho7 hg7
      go_wp2
      exact ⟨⟨k + 1, _, by omega, by go_num, R4.out, R3.out, R1.out, R2.out⟩, by simp [intOf]; omega⟩
    · have hke : many = k := by omega
      subst hke
      have HED : Hid (Edg wr.heap.size wr u9 many nodes) := by
        rcases HO.out.2 with ⟨_, h0⟩ | ⟨g, cap, cur, e1, h2, h3, h4, h5, h6, h7⟩
        · omega
        · refine ⟨g, 0, cap, e1, (Array.getElem?_eq_some_iff.1 h3).1, Nat.le_refl _, fun i hi => ?_⟩
          have hil : i < es.length := by rw [HEL.out]; exact hi
          obtain ⟨k1, k2⟩ := ecL_get es i es[i] (List.getElem?_eq_getElem hil)
          have hel := ecL_len es
          rw [HEL.out] at hel
          have hce : ∀ j u, (ecL es)[j]? = some u → wr.cell? ⟨g, 0 + j, none⟩ = some u := fun j u hj => by
            have hj2 := (List.getElem?_eq_some_iff.1 hj).1
            rw [← h7, List.getElem?_take_of_lt (by omega), Array.getElem?_toList] at hj
            simp [World.cell?, h3, hj]
          obtain ⟨n1, n2⟩ := HES.out es[i] (List.getElem_mem hil)
          exact ⟨_, _, n1, n2, hce _ _ k1, hce _ _ k2⟩
      go_wp2
      go_ret
      exact ⟨_, rfl, HED.out, HB.out⟩

end Go.Proofs.YtehklbekaflokaaDoor
