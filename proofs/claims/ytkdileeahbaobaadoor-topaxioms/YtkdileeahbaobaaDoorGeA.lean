import Derived.Test.YtkdileeahbaobaaDoorGe0
/- facetref.GraphEdges: what it gives. -/
namespace Go.Proofs.YtkdileeahbaobaaDoor
open Go.RowKit
attribute [local go_sem ↓] Go.wp_at_zero Go.wp_at_succ

set_option maxRecDepth 100000 in
set_option maxHeartbeats 800000 in
theorem graphEdges_is (nodes many : Nat) (raw : List Int) (v : Value) (w : World) (hv : Sl w.heap.size 3 w v (ints raw)) (hr : ∀ z ∈ raw, In64 z) (hl : raw.length ≤ 256) (hn1 : 1 ≤ nodes) (hn : nodes ≤ 8) (hm : many ≤ 8) :
    Calls Tryd.prog 13 #[v, .int .i64 0, .int .i64 nodes, .int .i64 many] w fun e w' => ∃ u es, e = .returned u ∧ es.length = many ∧ (∀ e ∈ es, e.1 < nodes ∧ e.2 < nodes) ∧ Eds w'.heap.size w' u es ∧ Below w.heap.size w w' := by
  obtain ⟨i2, hi2, hz20, hz21, hz22⟩ := info_parts infoE3
  obtain ⟨lo, lc, hvv, hlc, hcm⟩ := sl_open hv
  subst hvv
  have HRW : Hid (∀ W' (i : Nat), Below w.heap.size w W' → i ≤ 1000 → Calls Tryd.prog 14 #[.slice lo raw.length lc, .int .i64 i] W' fun e w' => ∃ z, e = .returned (.int .i64 z) ∧ (0 ≤ z ∧ z ≤ 4611686018427387904) ∧ Below w.heap.size w w' ∧ Below W'.heap.size W' w') := fun W' i h hi =>
    (raw_any w.heap.size raw _ i W' (hv.below h (Nat.le_refl _)) hr (by omega) (by omega)).mono (by
      rintro e w' ⟨z, h1, h2, h3⟩
      exact ⟨z, h1, h2, h.trans (h3.mono h.size), h3⟩)
  have HPK : Hid (∀ W' z, 0 ≤ z ∧ z ≤ 4611686018427387904 → ∃ a : Nat, a < nodes ∧ Calls Tryd.prog 4 #[.int .i64 z, .int .i64 nodes] W' fun e w' => e = .returned (.int .i64 a) ∧ w' = W') := fun W' z hz => by
    obtain ⟨k1, k2⟩ := pickF_bd (c := z) (n := (nodes : Int)) (by omega)
    refine ⟨(pickF z nodes).toNat, by omega, ?_⟩
    rw [Int.toNat_of_nonneg k1]
    exact pick_val z nodes W' (by omega) (by omega) ⟨by omega, by omega⟩
  clear hv hr
  go_enter Tryd.func13, Tryd.ntmps13
  go_wp2
  go_loopw [9, 10] (fun ev x wr => ∃ (k : Nat) (es : List (Nat × Nat)), k ≤ many ∧ x = .int .i64 k ∧ es.length = k ∧ (∀ e ∈ es, e.1 < nodes ∧ e.2 < nodes) ∧ wr.ownsRow w.heap.size 61 2 ev k (ecP es) ∧ Below w.heap.size w wr) (fun _ x _ => many - (intOf x).toNat)
  case atStart => exact ⟨0, [], Nat.zero_le _, rfl, rfl, fun e he => by simp at he, World.ownsRow_nil _ _ _ _, Below.refl _ _⟩
  case round =>
    obtain ⟨k, es, hk, rfl, hel, hes, ho, hbr⟩ := hrel
    have HO : Hid (wr.ownsRow w.heap.size 61 2 u9 k (ecP es)) := ho
    have HES : Hid (∀ e ∈ es, e.1 < nodes ∧ e.2 < nodes) := hes
    have HEL : Hid (es.length = k) := hel
    have HB : Hid (Below w.heap.size w wr) := hbr
    clear ho hes hel hbr
    by_cases hlt : k < many
    · have kI : (k : Int) < (many : Int) := by omega
      have a1 : IntKind.i64.wrap (2 * (k : Int)) = ((2 * k : Nat) : Int) := by
        rw [show (2 * (k : Int)) = ((2 * k : Nat) : Int) by omega]; exact wrap_small (by omega)
      have a2 : IntKind.i64.wrap ((2 * k : Nat) : Int) = ((2 * k : Nat) : Int) := wrap_small (by omega)
      obtain ⟨k2, hk2⟩ : ∃ k2 : Nat, k2 = 2 * k := ⟨_, rfl⟩
      obtain ⟨k3, hk3⟩ : ∃ k3 : Nat, k3 = 2 * k + 1 := ⟨_, rfl⟩
      rw [← hk2] at a1 a2
      have a3 : IntKind.i64.wrap ((k2 : Int) + 1) = (k3 : Int) := by
        rw [show ((k2 : Int) + 1) = (k3 : Int) by omega]; exact wrap_small (by omega)
      have h2 : k2 ≤ 1000 := by omega
      have h3 : k3 ≤ 1000 := by omega
      clear hk2 hk3
      go_wp2_with fail
      refine (HRW.out wr k2 HB.out h2).mono ?_
      rintro e w3 ⟨z, rfl, hz, hb3, hbx3⟩
      obtain ⟨a, ha, hca⟩ := HPK.out w3 z hz
      have HCA : Hid (Calls Tryd.prog 4 #[.int .i64 z, .int .i64 nodes] w3 fun e w' => e = .returned (.int .i64 a) ∧ w' = w3) := hca
      have HB3 : Hid (Below w.heap.size w w3) := hb3
      have HX3 : Hid (Below wr.heap.size wr w3) := hbx3
      clear hca hb3 hbx3
      go_wp2_with fail
      refine HCA.out.mono ?_
      rintro e w4 ⟨rfl, hw4⟩
      subst hw4
      go_wp2_with fail
      refine (HRW.out w4 k3 HB3.out h3).mono ?_
      rintro e w5 ⟨z2, rfl, hz2, hb5, hbx5⟩
      obtain ⟨b, hb, hcb⟩ := HPK.out w5 z2 hz2
      have HCB : Hid (Calls Tryd.prog 4 #[.int .i64 z2, .int .i64 nodes] w5 fun e w' => e = .returned (.int .i64 b) ∧ w' = w5) := hcb
      have HB5 : Hid (Below w.heap.size w w5) := hb5
      have HX5 : Hid (Below wr.heap.size wr w5) := HX3.out.trans (hbx5.mono HX3.out.size)
      clear hcb hb5 hbx5
      go_wp2_with fail
      refine HCB.out.mono ?_
      rintro e w6 ⟨rfl, hw6⟩
      subst hw6
      have HO6 : Hid (w6.ownsRow w.heap.size 61 2 u9 k (ecP es)) := by
        refine ⟨HO.out.1, ?_⟩
        rcases HO.out.2 with h1 | ⟨g, cap, cur, e1, h2, h3, h4⟩
        · exact .inl h1
        · exact .inr ⟨g, cap, cur, e1, h2, (HX5.out.block g (Array.getElem?_eq_some_iff.1 h3).1).trans h3, h4⟩
      have hszr : w.heap.size ≤ w6.heap.size := HB5.out.size
      have HNW : Hid (∀ j u, [Value.int .i64 (a : Int), .int .i64 (b : Int)][j]? = some u → (w6.alloc (.cells #[.int .i64 (a : Int), .int .i64 (b : Int)] 61)).cell? ((⟨w6.heap.size, 0, none⟩ : Addr).add j) = some u) := fun j u hj => by
        rcases j with _ | _ | j
        · simp at hj; subst hj; simp [Addr.add]
        · simp at hj; subst hj; simp [Addr.add]
        · simp at hj
      have HOC : Hid (∀ u ∈ [Value.int .i64 (a : Int), .int .i64 (b : Int)], u.oneCell' = true) := fun u hu => by
        simp at hu
        rcases hu with rfl | rfl <;> rfl
      go_wp2_with (first | (at_builtin; refine wpList_append_own _ rfl _ _ 39 rfl w.heap.size 61 i2 (.agg #[.int .i64 0, .int .i64 0]) 2 16 Tryd.underlying39 hi2 hz20 hz21 hz22 rfl (by decide) _ _ _ rfl (HO6.out.alloc _) ⟨w6.heap.size, 0, none⟩ 1 1 [.int .i64 (a : Int), .int .i64 (b : Int)] rfl rfl HNW.out HOC.out ?c3 ?c4 ?c5 ?_))
      case c3 => unfold maxLen; omega
      case c4 => omega
      case c5 => first | exact hszr | omega | (simp; omega)
      intro v' w7 ho7 hg7 _
      have R1 : Hid (w7.ownsRow w.heap.size 61 2 v' (k + 1) (ecP (es ++ [(a, b)]))) := by
        have e2 : ecP (es ++ [(a, b)]) = ecP es ++ [.int .i64 (a : Int), .int .i64 (b : Int)] := by simp [ecP]
        show World.ownsRow _ _ _ _ _ _ _
        rw [e2]
        exact ho7
      have R2 : Hid (Below w.heap.size w w7) := (HB5.out.alloc hszr _).grown hg7 (by simp; omega) (fun x hx => (HO6.out.lt x hx).1)
      have R3 : Hid (∀ e ∈ es ++ [(a, b)], e.1 < nodes ∧ e.2 < nodes) := fun e he => by
        rcases List.mem_append.1 he with he | he
        · exact HES.out e he
        · have : e = (a, b) := by simpa using he
          subst this
          exact ⟨ha, hb⟩
      have R4 : Hid ((es ++ [(a, b)]).length = k + 1) := by
        show _ = _
        rw [List.length_append, HEL.out]; rfl
      clear ho7 hg7
      go_wp2
      exact ⟨⟨k + 1, _, by omega, by go_num, R4.out, R3.out, R1.out, R2.out⟩, by simp [intOf]; omega⟩
    · have hke : many = k := by omega
      subst hke
      have HED : Hid (Eds wr.heap.size wr u9 es) := by
        have h := HO.out
        rw [← HEL.out] at h
        exact Eds.own h
      go_wp2
      go_ret
      exact ⟨_, es, rfl, HEL.out, HES.out, HED.out, HB.out⟩

end Go.Proofs.YtkdileeahbaobaaDoor

/- facetref.MatroidFrom, of a graph. -/
namespace Go.Proofs.YtkdileeahbaobaaDoor
open Go.RowKit
attribute [local go_sem ↓] Go.wp_at_zero Go.wp_at_succ

set_option maxRecDepth 100000 in
set_option maxHeartbeats 1600000 in
theorem from0_is (n : Nat) (kind : Int) (raw : List Int) (v : Value) (w : World) (hv : Sl w.heap.size 3 w v (ints raw)) (hr : ∀ z ∈ raw, In64 z) (hl : raw.length ≤ 256) (hn1 : 1 ≤ n) (hn : n ≤ 7) (HP0 : Hid (∀ W', Calls Tryd.prog 4 #[.int .i64 kind, .int .i64 3] W' fun e w' => e = .returned (.int .i64 0) ∧ w' = W')) :
    Calls Tryd.prog 5 #[v, .int .i64 0, .int .i64 kind, .int .i64 n] w fun e w' => ∃ u bs, e = .returned (.agg #[.int .i64 n, u]) ∧ Sl 0 3 w' u (ints bs) ∧ matE (n : Int) bs = 0 ∧ Below w.heap.size w w' := by
  obtain ⟨i3, hi3, hz30, hz31, hz32⟩ := info_parts Tryd.info3
  obtain ⟨i0, hi0, hz0, hz1, hz2⟩ := info_parts infoRow
  obtain ⟨lo, lc, hvv, hlc, hcm⟩ := sl_open hv
  subst hvv
  have HV : Hid (∀ W', Below w.heap.size w W' → Sl w.heap.size 3 W' (.slice lo raw.length lc) (ints raw)) := fun W' h => hv.below h (Nat.le_refl _)
  have HRA : Hid (∀ z ∈ raw, In64 z) := hr
  have HRW : Hid (∀ W' (i : Nat), Below w.heap.size w W' → i ≤ 1000 → Calls Tryd.prog 14 #[.slice lo raw.length lc, .int .i64 i] W' fun e w' => ∃ z, e = .returned (.int .i64 z) ∧ (0 ≤ z ∧ z ≤ 4611686018427387904) ∧ Below W'.heap.size W' w') := fun W' i h hi =>
    raw_any w.heap.size raw _ i W' (HV.out W' h) hr (by omega) (by omega)
  have HPK : Hid (∀ W' z (q : Nat), 0 ≤ z ∧ z ≤ 4611686018427387904 → 1 ≤ q → q ≤ 100 → ∃ a : Nat, a < q ∧ Calls Tryd.prog 4 #[.int .i64 z, .int .i64 q] W' fun e w' => e = .returned (.int .i64 a) ∧ w' = W') := fun W' z q hz hq hq2 => by
    obtain ⟨k1, k2⟩ := pickF_bd (c := z) (n := (q : Int)) (by omega)
    refine ⟨(pickF z q).toNat, by omega, ?_⟩
    rw [Int.toNat_of_nonneg k1]
    exact pick_val z q W' (by omega) (by omega) ⟨by omega, by omega⟩
  obtain ⟨W, hW⟩ : ∃ W, W = w.alloc (.cells #[.int .i64 0, .slice none 0 0] 25) := ⟨_, rfl⟩
  have HBA : Hid (Below w.heap.size w W) := by rw [hW]; exact (Below.refl _ _).alloc (Nat.le_refl _) _
  have HR0 : Hid (W.heap[w.heap.size]? = some (.cells #[.int .i64 0, .slice none 0 0] 25 (0, 0))) := by rw [hW]; exact heap_alloc_new w _
  have HWS : Hid (W.heap.size = w.heap.size + 1) := by rw [hW]; show _ = _; simp
  have HRES : Hid (∀ W', Below W.heap.size W W' → W'.heap[w.heap.size]? = some (.cells #[.int .i64 0, .slice none 0 0] 25 (0, 0)) ∧ Below w.heap.size w W') := fun W' h => ⟨(h.block _ (by rw [HWS.out]; omega)).trans HR0.out, HBA.out.trans (h.mono HBA.out.size)⟩
  clear hv hr
  go_enter Tryd.func5, Tryd.ntmps5
  go_wp2_with fail
  rw [← hW]
  clear hW
  refine (HP0.out W).mono ?_
  rintro e w1 ⟨rfl, hw1⟩
  subst hw1
  obtain ⟨hf, hhf⟩ : ∃ hf : Nat, hf = n / 2 := ⟨_, rfl⟩
  obtain ⟨nd, hnd⟩ : ∃ nd : Nat, nd = 1 + hf := ⟨_, rfl⟩
  have q1 : (n : Int).tdiv 2 = (hf : Int) := by
    rw [Int.tdiv_eq_ediv_of_nonneg (by omega)]; omega
  have q2 : IntKind.i64.wrap (hf : Int) = (hf : Int) := wrap_small (by omega)
  have q3 : IntKind.i64.wrap (1 + (hf : Int)) = (nd : Int) := by
    rw [show (1 + (hf : Int)) = (nd : Int) by omega]; exact wrap_small (by omega)
  have HGE : Hid (Calls Tryd.prog 13 #[.slice lo raw.length lc, .int .i64 0, .int .i64 nd, .int .i64 n] w1 fun e w' => ∃ u es, e = .returned u ∧ es.length = n ∧ (∀ e ∈ es, e.1 < nd ∧ e.2 < nd) ∧ Eds w'.heap.size w' u es ∧ Below w1.heap.size w1 w') := graphEdges_is nd n raw _ w1 ((HV.out w1 HBA.out).more HBA.out.size) HRA.out hl (by omega) (by omega) (by omega)
  have bh : hf ≤ 3 := by omega
  have bn : nd ≤ 4 := by omega
  have bn1 : 1 ≤ nd := by omega
  clear hhf hnd
  go_wp2_with fail
  refine HGE.out.mono ?_
  rintro e w3 ⟨u, es, rfl, hel, hes, hed, hb3⟩
  have HGO : Hid (Calls Tryd.prog 12 #[.int .i64 nd, u] w3 fun e w' => ∃ u, e = .returned (.agg #[.int .i64 n, u]) ∧ Sl 0 3 w' u (ints (grB es)) ∧ Below w3.heap.size w3 w') := by
    have h := graphOf_is nd es u w3 hed hes (by omega) (by omega)
    rw [hel] at h
    exact h
  have HMT : Hid (matE (n : Int) (grB es) = 0) := by
    have h := (graph_grw hes (by omega)).mat (by omega)
    rw [hel] at h
    unfold grB
    rw [hel]
    exact h
  generalize grB es = ys at *
  clear hel hes
  have HB3 : Hid (Below w1.heap.size w1 w3) := hb3
  clear hed hb3
  go_wp2_with fail
  refine HGO.out.mono ?_
  rintro e w5 ⟨u2, rfl, hs5, hb5⟩
  obtain ⟨hres, hbw⟩ := HRES.out w5 (HB3.out.trans (hb5.mono HB3.out.size))
  obtain ⟨yo, yc, hyv, _, _⟩ := sl_open hs5
  subst hyv
  obtain ⟨e1, e2⟩ := box_fin (N := n) hres hs5 hbw
  have HBX : Hid _ := e1
  have HSX : Hid _ := e2
  have r0 : w5.cell? ⟨w.heap.size, 0, none⟩ = some (.int .i64 0) := by simp [World.cell?, hres]
  have r1 : w5.cell? ⟨w.heap.size, 1, none⟩ = some (.slice none 0 0) := by simp [World.cell?, hres]
  have rf0 : w5.frozen? ⟨w.heap.size, 0, none⟩ = false := by simp [World.frozen?, hres]
  have rf1 : w5.frozen? ⟨w.heap.size, 1, none⟩ = false := by simp [World.frozen?, hres]
  clear hs5 hb5 hres hbw e1 e2
  go_wp2
  exact bodyPost_ret (v := .agg #[.int .i64 n, .slice yo ys.length yc]) (by simp [results, Tryd.results5, go_sem, *]) rfl ⟨_, ys, rfl, HSX.out, HMT.out, HBX.out⟩

end Go.Proofs.YtkdileeahbaobaaDoor
