import Derived.Test.YtmljnfgfjcjmmaaGx3
import Derived.Test.YtmljnfgfjcjmmaaGxB
import Derived.Test.YtmljnfgfjcjmmaaFlD
import Derived.Test.YtmljnfgfjcjmmaaVl1
import Derived.Test.YtmljnfgfjcjmmaaSg8
import Derived.Maps.AppendAt
/- STANLEY: GraphEdges as a list of pairs; the planes of edges. Made by mkgx5.py. -/
namespace Go.Proofs.Ytmljnfgfjcjmmaa
open Go.RowKit Lin
attribute [local go_sem ↓] Go.wp_at_zero Go.wp_at_succ

def gxT : Bool := [2, 3, 4].all fun n => (List.range n).all fun a => (List.range n).all fun b => a == b || ((pickL (n - 1) [gxR n a b]).length != 0 && (List.range n).all fun c => (List.range n).all fun e => c == e || gxR n c e == gxR n a b || (gxR n a b).map (fun z => -z) == gxR n c e || (pickL (n - 1 + 1) [gxR n c e, gxR n a b]).length != 1)
theorem gxT_t : gxT = true := by decide +kernel

theorem gxR_len (n a b : Nat) : (gxR n a b).length = n := by simp [gxR]

theorem gxR_small (n a b : Nat) : ∀ z ∈ gxR n a b, z.natAbs ≤ 1 := fun z hz => by
  obtain ⟨i, _, rfl⟩ := List.mem_map.1 hz
  split
  · decide
  · split <;> split <;> decide

/-- Pairs whose planes are parted. -/
def Dpl (n : Nat) (es : List (Nat × Nat)) : Prop := ∀ i k, i < k → k < es.length → gxR n (es.getD k (0, 0)).1 (es.getD k (0, 0)).2 ≠ gxR n (es.getD i (0, 0)).1 (es.getD i (0, 0)).2 ∧ gxR n (es.getD i (0, 0)).1 (es.getD i (0, 0)).2 ≠ (gxR n (es.getD k (0, 0)).1 (es.getD k (0, 0)).2).map fun z => -z

theorem plG_gx {n : Nat} {es : List (Nat × Nat)} (hn : 2 ≤ n) (hn4 : n ≤ 4) (hes : ∀ e ∈ es, e.1 < n ∧ e.2 < n ∧ e.1 ≠ e.2) (hd : Dpl n es) : PlG (n - 1) (gxP n es) := by
  have hT := gxT_t
  unfold gxT at hT
  have hT2 := List.all_eq_true.1 hT n (by rcases (show n = 2 ∨ n = 3 ∨ n = 4 by omega) with rfl | rfl | rfl <;> simp)
  have hT3 : ∀ a b, a < n → b < n → a ≠ b → (pickL (n - 1) [gxR n a b]).length ≠ 0 ∧ ∀ c e, c < n → e < n → c ≠ e → gxR n c e ≠ gxR n a b → (gxR n a b).map (fun z => -z) ≠ gxR n c e → (pickL (n - 1 + 1) [gxR n c e, gxR n a b]).length ≠ 1 := fun a b ha hb hab => by
    have h1 := List.all_eq_true.1 (List.all_eq_true.1 hT2 a (List.mem_range.2 ha)) b (List.mem_range.2 hb)
    rw [beq_eq_false_iff_ne.2 hab, Bool.false_or, Bool.and_eq_true] at h1
    obtain ⟨h1, h2⟩ := h1
    refine ⟨by simpa using h1, fun c e hc he hce g1 g2 => ?_⟩
    have h3 := List.all_eq_true.1 (List.all_eq_true.1 h2 c (List.mem_range.2 hc)) e (List.mem_range.2 he)
    rw [beq_eq_false_iff_ne.2 hce, beq_eq_false_iff_ne.2 g1, beq_eq_false_iff_ne.2 g2] at h3
    simpa using h3
  refine ⟨fun p hp => ?_, fun p hp => ?_, fun i k hik hk => ?_⟩
  · obtain ⟨e, _, rfl⟩ := List.mem_map.1 hp
    refine ⟨by rw [gxR_len]; omega, fun z hz => ?_⟩
    have := gxR_small n e.1 e.2 z hz
    omega
  · obtain ⟨e, he, rfl⟩ := List.mem_map.1 hp
    obtain ⟨h1, h2, h3⟩ := hes e he
    exact (hT3 e.1 e.2 h1 h2 h3).1
  · rw [gxP_len] at hk
    obtain ⟨d1, d2⟩ := hd i k hik hk
    rw [gxP_get hk, gxP_get (by omega)]
    have m1 : es.getD k (0, 0) ∈ es := pair_mem hk
    have m2 : es.getD i (0, 0) ∈ es := pair_mem (by omega)
    obtain ⟨a1, a2, a3⟩ := hes _ m1
    obtain ⟨b1, b2, b3⟩ := hes _ m2
    refine (hT3 _ _ b1 b2 b3).2 _ _ a1 a2 a3 d1 fun h => d2 ?_
    rw [← h]
    generalize gxR n (es.getD i (0, 0)).1 (es.getD i (0, 0)).2 = l
    rw [List.map_map]
    exact ((List.map_congr_left fun z _ => by simp).trans (List.map_id l)).symm

set_option maxRecDepth 100000 in
set_option maxHeartbeats 800000 in
theorem graphEdgesL_any (nodes many : Nat) (raw : List Int) (v : Value) (w : World) (hv : Sl w.heap.size 3 w v (ints raw)) (hr : ∀ z ∈ raw, In64 z) (hl : raw.length ≤ 256) (hn1 : 1 ≤ nodes) (hn : nodes ≤ 8) (hm : many ≤ 8) :
    Calls Try.prog 5 #[v, .int .i64 0, .int .i64 nodes, .int .i64 many] w fun e w' => ∃ u es, e = .returned u ∧ es.length = many ∧ (∀ e ∈ es, e.1 < nodes ∧ e.2 < nodes) ∧ Eds w'.heap.size w' u es ∧ Below w.heap.size w w' := by
  obtain ⟨i2, hi2, hz20, hz21, hz22⟩ := info_parts infoE2
  obtain ⟨lo, lc, hvv, hlc, hcm⟩ := sl_open hv
  subst hvv
  have HRW : Hid (∀ W' (i : Nat), Below w.heap.size w W' → i ≤ 1000 → Calls Try.prog 13 #[.slice lo raw.length lc, .int .i64 i] W' fun e w' => ∃ z, e = .returned (.int .i64 z) ∧ (0 ≤ z ∧ z ≤ 4611686018427387904) ∧ Below w.heap.size w w' ∧ Below W'.heap.size W' w') := fun W' i h hi =>
    (raw_any w.heap.size raw _ i W' (hv.below h (Nat.le_refl _)) hr (by omega) (by omega)).mono (by
      rintro e w' ⟨z, h1, h2, h3⟩
      exact ⟨z, h1, h2, h.trans (h3.mono h.size), h3⟩)
  have HPK : Hid (∀ W' z, 0 ≤ z ∧ z ≤ 4611686018427387904 → ∃ a : Nat, a < nodes ∧ Calls Try.prog 4 #[.int .i64 z, .int .i64 nodes] W' fun e w' => e = .returned (.int .i64 a) ∧ w' = W') := fun W' z hz => by
    obtain ⟨k1, k2⟩ := pickF_bd (c := z) (n := (nodes : Int)) (by omega)
    refine ⟨(pickF z nodes).toNat, by omega, ?_⟩
    rw [Int.toNat_of_nonneg k1]
    exact pick_val z nodes W' (by omega) (by omega) ⟨by omega, by omega⟩
  clear hv hr
  go_enter Try.func5, Try.ntmps5
  go_wp2
  go_loopw [9, 10] (fun ev x wr => ∃ (k : Nat) (es : List (Nat × Nat)), k ≤ many ∧ x = .int .i64 k ∧ es.length = k ∧ (∀ e ∈ es, e.1 < nodes ∧ e.2 < nodes) ∧ wr.ownsRow w.heap.size 27 2 ev k (ecL es) ∧ Below w.heap.size w wr) (fun _ x _ => many - (intOf x).toNat)
  case atStart => exact ⟨0, [], Nat.zero_le _, rfl, rfl, fun e he => by simp at he, World.ownsRow_nil _ _ _ _, Below.refl _ _⟩
  case round =>
    obtain ⟨k, es, hk, rfl, hel, hes, ho, hbr⟩ := hrel
    have HO : Hid (wr.ownsRow w.heap.size 27 2 u9 k (ecL es)) := ho
    have HES : Hid (∀ e ∈ es, e.1 < nodes ∧ e.2 < nodes) := hes
    have HEL : Hid (es.length = k) := hel
    have HB : Hid (Below w.heap.size w wr) := hbr
    clear ho hes hel hbr
    by_cases hlt : k < many
    · have kI : (k : Int) < (many : Int) := by omega
      have a1 : IntKind.i64.wrap (2 * (k : Int)) = ((2 * k : Nat) : Int) := by
        rw [show (2 * (k : Int)) = ((2 * k : Nat) : Int) by omega]; exact wrap_small (by omega)
      have a2 : IntKind.i64.wrap ((2 * k : Nat) : Int) = ((2 * k : Nat) : Int) := wrap_small (by omega)
      obtain ⟨k2, hk2⟩ : ∃ k2 : Nat, k2 = 2 * k := ⟨_, rfl⟩
      obtain ⟨k3, hk3⟩ : ∃ k3 : Nat, k3 = 2 * k + 1 := ⟨_, rfl⟩
      rw [← hk2] at a1 a2
      have a3 : IntKind.i64.wrap ((k2 : Int) + 1) = (k3 : Int) := by
        rw [show ((k2 : Int) + 1) = (k3 : Int) by omega]; exact wrap_small (by omega)
      have h2 : k2 ≤ 1000 := by omega
      have h3 : k3 ≤ 1000 := by omega
      clear hk2 hk3
      go_wp2_with fail
      refine (HRW.out wr k2 HB.out h2).mono ?_
      rintro e w3 ⟨z, rfl, hz, hb3, hbx3⟩
      obtain ⟨a, ha, hca⟩ := HPK.out w3 z hz
      have HCA : Hid (Calls Try.prog 4 #[.int .i64 z, .int .i64 nodes] w3 fun e w' => e = .returned (.int .i64 a) ∧ w' = w3) := hca
      have HB3 : Hid (Below w.heap.size w w3) := hb3
      have HX3 : Hid (Below wr.heap.size wr w3) := hbx3
      clear hca hb3 hbx3
      go_wp2_with fail
      refine HCA.out.mono ?_
      rintro e w4 ⟨rfl, hw4⟩
      subst hw4
      go_wp2_with fail
      refine (HRW.out w4 k3 HB3.out h3).mono ?_
      rintro e w5 ⟨z2, rfl, hz2, hb5, hbx5⟩
      obtain ⟨b, hb, hcb⟩ := HPK.out w5 z2 hz2
      have HCB : Hid (Calls Try.prog 4 #[.int .i64 z2, .int .i64 nodes] w5 fun e w' => e = .returned (.int .i64 b) ∧ w' = w5) := hcb
      have HB5 : Hid (Below w.heap.size w w5) := hb5
      have HX5 : Hid (Below wr.heap.size wr w5) := HX3.out.trans (hbx5.mono HX3.out.size)
      clear hcb hb5 hbx5
      go_wp2_with fail
      refine HCB.out.mono ?_
      rintro e w6 ⟨rfl, hw6⟩
      subst hw6
      have HO6 : Hid (w6.ownsRow w.heap.size 27 2 u9 k (ecL es)) := by
        refine ⟨HO.out.1, ?_⟩
        rcases HO.out.2 with h1 | ⟨g, cap, cur, e1, h2, h3, h4⟩
        · exact .inl h1
        · exact .inr ⟨g, cap, cur, e1, h2, (HX5.out.block g (Array.getElem?_eq_some_iff.1 h3).1).trans h3, h4⟩
      have hszr : w.heap.size ≤ w6.heap.size := HB5.out.size
      have HNW : Hid (∀ j u, [Value.int .i64 (a : Int), .int .i64 (b : Int)][j]? = some u → (w6.alloc (.cells #[.int .i64 (a : Int), .int .i64 (b : Int)] 27)).cell? ((⟨w6.heap.size, 0, none⟩ : Addr).add j) = some u) := fun j u hj => by
        rcases j with _ | _ | j
        · simp at hj; subst hj; simp [Addr.add]
        · simp at hj; subst hj; simp [Addr.add]
        · simp at hj
      have HOC : Hid (∀ u ∈ [Value.int .i64 (a : Int), .int .i64 (b : Int)], u.oneCell' = true) := fun u hu => by
        simp at hu
        rcases hu with rfl | rfl <;> rfl
      go_wp2_with (first | (at_builtin; refine wpList_append_own _ rfl _ _ 24 rfl w.heap.size 27 i2 (.agg #[.int .i64 0, .int .i64 0]) 2 16 Try.underlying24 hi2 hz20 hz21 hz22 rfl (by decide) _ _ _ rfl (HO6.out.alloc _) ⟨w6.heap.size, 0, none⟩ 1 1 [.int .i64 (a : Int), .int .i64 (b : Int)] rfl rfl HNW.out HOC.out ?c3 ?c4 ?c5 ?_))
      case c3 => unfold maxLen; omega
      case c4 => omega
      case c5 => first | exact hszr | omega | (simp; omega)
      intro v' w7 ho7 hg7 _
      have R1 : Hid (w7.ownsRow w.heap.size 27 2 v' (k + 1) (ecL (es ++ [(a, b)]))) := by
        have e2 : ecL (es ++ [(a, b)]) = ecL es ++ [.int .i64 (a : Int), .int .i64 (b : Int)] := by simp [ecL]
        show World.ownsRow _ _ _ _ _ _ _
        rw [e2]
        exact ho7
      have R2 : Hid (Below w.heap.size w w7) := (HB5.out.alloc hszr _).grown hg7 (by simp; omega) (fun x hx => (HO6.out.lt x hx).1)
      have R3 : Hid (∀ e ∈ es ++ [(a, b)], e.1 < nodes ∧ e.2 < nodes) := fun e he => by
        rcases List.mem_append.1 he with he | he
        · exact HES.out e he
        · have : e = (a, b) := by simpa using he
          subst this
          exact ⟨ha, hb⟩
      have R4 : Hid ((es ++ [(a, b)]).length = k + 1) := by
        show _ = _
        rw [List.length_append, HEL.out]; rfl
      clear ho7 hg7
      go_wp2
      exact ⟨⟨k + 1, _, by omega, by go_num, R4.out, R3.out, R1.out, R2.out⟩, by simp [intOf]; omega⟩
    · have hke : many = k := by omega
      subst hke
      have HED : Hid (Eds wr.heap.size wr u9 es) := Eds.own (B := w.heap.size) (by rw [HEL.out]; exact HO.out)
      go_wp2
      go_ret
      exact ⟨_, _, rfl, HEL.out, HES.out, HED.out, HB.out⟩

end Go.Proofs.Ytmljnfgfjcjmmaa

/- STANLEY: what the law's first loop keeps: the pairs and their planes side by side. -/
namespace Go.Proofs.Ytmljnfgfjcjmmaa
open Go.RowKit Lin

theorem own_not {B s n : Nat} {e e' : TypeId} {w : World} {v : Value} {xs : List Value} (h : w.ownsRow B e s v n xs) (hne : e ≠ e') : ∀ k, v.ownBlock = some k → ∀ cur, w.heap[k]? ≠ some (.cells cur e' (0, 0)) := fun k hk cur hc => by
  rcases h.2 with ⟨rfl, _⟩ | ⟨g, cap, cu, rfl, _, hh, _⟩
  · simp [Value.ownBlock] at hk
  · simp [Value.ownBlock] at hk
    subst hk
    rw [hh] at hc
    simp only [Option.some.injEq, Obj.cells.injEq] at hc
    exact hne hc.2.1

theorem own_apart {B B' s s' n n' : Nat} {e e' : TypeId} {w : World} {v u : Value} {xs ys : List Value} (h : w.ownsRow B e s v n xs) (g : w.ownsRow B' e' s' u n' ys) (hne : e ≠ e') : v.ownBlock = none ∨ v.ownBlock ≠ u.ownBlock := by
  rcases h.2 with ⟨rfl, _⟩ | ⟨b, cap, cu, rfl, _, hh, _⟩
  · exact .inl rfl
  · refine .inr fun he => ?_
    exact own_not g (Ne.symm hne) b (by rw [← he]; rfl) cu hh

theorem Fr.grownX {B B' s n : Nat} {e : TypeId} {w w' : World} {x v : Value} {xs : List Value} {m : List (List Int)} (h : Fr B 22 3 w v m) (hx : w.ownsRow B' e s x n xs) (h1 : e ≠ 22) (h2 : e ≠ 3) (hg : w.grownBy w' x.ownBlock) : Fr B 22 3 w' v m := by
  obtain ⟨vs, g1, g2, g3⟩ := h
  exact ⟨vs, g1, g2.kept hg (own_apart g2 hx (Ne.symm h1)), fun i hi => (g3 i hi).grown hg fun k hk => ⟨Nat.zero_le _, own_not hx h2 k hk⟩⟩

theorem own_next {B s n : Nat} {e : TypeId} {w w' : World} {v : Value} {xs : List Value} (h : w.ownsRow B e s v n xs) (hb : Below w.heap.size w w') : w'.ownsRow B e s v n xs := by
  refine ⟨h.1, ?_⟩
  rcases h.2 with h1 | ⟨g, cap, cur, e1, h2, h3, h4⟩
  · exact .inl h1
  · exact .inr ⟨g, cap, cur, e1, h2, (hb.block g (Array.getElem?_eq_some_iff.1 h3).1).trans h3, h4⟩

/-- The pairs that were kept, and their planes. -/
structure Gs (n : Nat) (w0 w : World) (ev pv : Value) (ks : List (Nat × Nat)) : Prop where
  e : w.ownsRow w0.heap.size 27 2 ev ks.length (ecP ks)
  p : Fr w0.heap.size 22 3 w pv (gxP n ks)
  bel : Below w0.heap.size w0 w

theorem Gs.nil (n : Nat) (w : World) : Gs n w w (.slice none 0 0) (.slice none 0 0) [] := ⟨World.ownsRow_nil _ _ _ _, Fr.nil _ _ _ _, Below.refl _ _⟩

theorem Gs.next {n : Nat} {w0 w w' : World} {ev pv : Value} {ks : List (Nat × Nat)} (h : Gs n w0 w ev pv ks) (hb : Below w.heap.size w w') : Gs n w0 w' ev pv ks :=
  ⟨own_next h.e hb, h.p.below hb (Nat.le_refl _), h.bel.trans (hb.mono h.bel.size)⟩

theorem Gs.opens {n : Nat} {w0 w : World} {ev pv : Value} {ks : List (Nat × Nat)} (h : Gs n w0 w ev pv ks) :
    ∃ vs, vs.length = ks.length ∧ w.ownsRow w0.heap.size 22 1 pv ks.length vs ∧ ∀ i, i < ks.length → Sl 0 3 w (vs.getD i (.slice none 0 0)) (ints (gxR n (ks.getD i (0, 0)).1 (ks.getD i (0, 0)).2)) := by
  obtain ⟨vs, g1, g2, g3⟩ := h.p
  rw [gxP_len] at g1 g2 g3
  exact ⟨vs, g1, g2, fun i hi => by rw [← gxP_get hi]; exact g3 i hi⟩

theorem Gs.push1 {n a b : Nat} {w0 w w5 : World} {ev pv v' u : Value} {ks : List (Nat × Nat)} {vs : List Value} {ob : Obj} (h : Gs n w0 w ev pv ks)
    (q1 : vs.length = ks.length) (q2 : w.ownsRow w0.heap.size 22 1 pv ks.length vs) (q3 : ∀ i, i < ks.length → Sl 0 3 w (vs.getD i (.slice none 0 0)) (ints (gxR n (ks.getD i (0, 0)).1 (ks.getD i (0, 0)).2)))
    (hu : Sl 0 3 w u (ints (gxR n a b))) (ho : w5.ownsRow w0.heap.size 22 1 v' (ks.length + 1) (vs ++ [u])) (hg : (w.alloc ob).grownBy w5 pv.ownBlock) :
    w5.ownsRow w0.heap.size 27 2 ev ks.length (ecP ks) ∧ Fr w0.heap.size 22 3 w5 v' (gxP n (ks ++ [(a, b)])) ∧ Below w0.heap.size w0 w5 := by
  have e1 : gxP n (ks ++ [(a, b)]) = gxP n ks ++ [gxR n a b] := by simp [gxP]
  refine ⟨(h.e.alloc ob).kept hg (own_apart (h.e.alloc ob) (q2.alloc ob) (by decide)), ?_, ?_⟩
  · rw [e1]
    refine Fr.push (e2 := 22) (e1 := 3) (vs := vs) (by decide) (by rw [gxP_len]; exact q1) (by rw [gxP_len]; exact q2.alloc ob) (fun i hi => ?_) (hu.alloc ob) (by rw [gxP_len]; exact ho) hg
    rw [gxP_len] at hi
    rw [gxP_get hi]
    exact (q3 i hi).alloc ob
  · exact (h.bel.alloc h.bel.size _).grown hg (by have := h.bel.size; simp; omega) (fun x hx => (q2.lt x hx).1)

theorem Gs.push2 {n a b : Nat} {w0 w5 w6 : World} {ev pv v2 : Value} {ks : List (Nat × Nat)} {ob : Obj} (h : w5.ownsRow w0.heap.size 27 2 ev ks.length (ecP ks) ∧ Fr w0.heap.size 22 3 w5 pv (gxP n (ks ++ [(a, b)])) ∧ Below w0.heap.size w0 w5)
    (ho : w6.ownsRow w0.heap.size 27 2 v2 (ks.length + 1) (ecP ks ++ [.int .i64 (a : Int), .int .i64 (b : Int)])) (hg : (w5.alloc ob).grownBy w6 ev.ownBlock) : Gs n w0 w6 v2 pv (ks ++ [(a, b)]) := by
  obtain ⟨h1, h2, h3⟩ := h
  have e1 : ecP (ks ++ [(a, b)]) = ecP ks ++ [.int .i64 (a : Int), .int .i64 (b : Int)] := by simp [ecP]
  refine ⟨by rw [e1, List.length_append]; exact ho, (h2.alloc ob).grownX (h1.alloc ob) (by decide) (by decide) hg, (h3.alloc h3.size _).grown hg (by have := h3.size; simp; omega) (fun x hx => (h1.lt x hx).1)⟩

/-- One of the first planes is this one, or turned. -/
def smB (P : List (List Int)) (x : List Int) (j : Nat) : Bool := (P.take j).any fun p => p == x || p == x.map fun z => -z

theorem smB_succ {P : List (List Int)} {x : List Int} {j : Nat} (hj : j < P.length) : smB P x (j + 1) = (smB P x j || (P.getD j [] == x || P.getD j [] == x.map fun z => -z)) := by
  unfold smB
  rw [List.take_succ_eq_append_getElem hj, List.any_append]
  simp [hj]

theorem smB_no {P : List (List Int)} {x : List Int} (h : smB P x P.length = false) : ∀ i, i < P.length → P.getD i [] ≠ x ∧ P.getD i [] ≠ x.map fun z => -z := fun i hi => by
  unfold smB at h
  rw [List.take_length, List.any_eq_false] at h
  have := h _ (getD_memR hi)
  simpa using this

theorem dpl_push {n a b : Nat} {ks : List (Nat × Nat)} (h : Dpl n ks) (h2 : smB (gxP n ks) (gxR n a b) ks.length = false) : Dpl n (ks ++ [(a, b)]) := by
  have h3 := smB_no (P := gxP n ks) (x := gxR n a b) (by rw [gxP_len]; exact h2)
  rw [gxP_len] at h3
  intro i k hik hk
  have hk2 : k < ks.length + 1 := by simpa using hk
  have ei : (ks ++ [(a, b)]).getD i (0, 0) = ks.getD i (0, 0) := by
    simp only [List.getD_eq_getElem?_getD]; rw [List.getElem?_append_left (by omega)]
  rw [ei]
  by_cases hlt : k < ks.length
  · have ek : (ks ++ [(a, b)]).getD k (0, 0) = ks.getD k (0, 0) := by
      simp only [List.getD_eq_getElem?_getD]; rw [List.getElem?_append_left hlt]
    rw [ek]
    exact h i k hik hlt
  · have hke : k = ks.length := by omega
    subst hke
    have ek : (ks ++ [(a, b)]).getD ks.length (0, 0) = (a, b) := by simp
    rw [ek]
    obtain ⟨g1, g2⟩ := h3 i hik
    rw [gxP_get hik] at g1 g2
    exact ⟨fun e => g1 e.symm, g2⟩

/-- Making a pair's plane. -/
theorem gx_made {n a b : Nat} (hn : 2 ≤ n) (ha : a < n) (hb : b < n) (hab : a ≠ b) : (((List.replicate n (0 : Int)).set a 1).set b (-1)).set (n - 1) 0 = gxR n a b := by
  refine List.ext_getElem (by simp [gxR]) fun i h1 h2 => ?_
  have hi : i < n := by simpa using h1
  simp only [gxR, List.getElem_map, List.getElem_range, List.getElem_set, List.getElem_replicate]
  repeat' split
  all_goals omega

end Go.Proofs.Ytmljnfgfjcjmmaa

/- STANLEY: a turn's pairs in a poset's box. -/
namespace Go.Proofs.Ytmljnfgfjcjmmaa
open Go.RowKit Lin

theorem prs_ownG {B : Nat} {w : World} {v : Value} {es : List (Nat × Nat)} (h : w.ownsRow B 27 2 v es.length (ecP es)) : Prs w v (npL es) := by
  obtain ⟨po, pc, h1, h2⟩ := Eds.own h
  refine ⟨po, pc, by rw [npL_len]; exact h1, fun i hi => ?_⟩
  rw [npL_len] at hi
  obtain ⟨b, o, e, _, c1, c2⟩ := h2 i hi
  exact ⟨b, o, e, by rw [npL_at hi]; exact c1, by rw [npL_at hi]; exact c2⟩

theorem owns_formG {B : Nat} {e : TypeId} {w : World} {v : Value} {n : Nat} {xs : List Value} (h : w.ownsRow B e 2 v n xs) : ∃ vo vc, v = .slice vo n vc := by
  rcases h.2 with ⟨h1, h0⟩ | ⟨g, cap, cur, hv, _⟩
  · exact ⟨_, _, by rw [h1, h0]⟩
  · exact ⟨_, _, hv⟩

theorem alloc_newG (w : World) (o : Obj) : (w.alloc o).heap[w.heap.size]? = some o := World.alloc_heap_new w o

/-- A poset's box, and the row of its pairs. -/
structure PgI (w : World) (R n : Nat) (es : List (Nat × Nat)) (wr : World) : Prop where
  lo : w.heap.size ≤ R
  box : ∃ sv, wr.heap[R]? = some (.cells #[.int .i64 (n : Int), sv] 37 (0, 0)) ∧ wr.ownsRow (R + 1) 27 2 sv es.length (ecP es)
  bel : Below w.heap.size w wr
  sz : R + 1 ≤ wr.heap.size

theorem PgI.start {w0 w : World} (n : Nat) (h : Below w0.heap.size w0 w) : PgI w0 w.heap.size n [] (w.alloc (.cells #[.int .i64 (n : Int), .slice none 0 0] 37)) :=
  ⟨h.size, ⟨.slice none 0 0, alloc_newG _ _, World.ownsRow_nil _ _ _ _⟩, h.alloc h.size _, by simp⟩

theorem own2_belowG {B N n : Nat} {e : TypeId} {w w' : World} {v : Value} {xs : List Value} (h : w.ownsRow B e 2 v n xs) (hb : Below N w w') (hN : w.heap.size ≤ N) : w'.ownsRow B e 2 v n xs := by
  refine ⟨h.1, ?_⟩
  rcases h.2 with h1 | ⟨g, cap, cur, e1, h2, h3, h4⟩
  · exact .inl h1
  · have := (Array.getElem?_eq_some_iff.1 h3).1
    exact .inr ⟨g, cap, cur, e1, h2, (hb.block g (by omega)).trans h3, h4⟩

theorem PgI.below {w wr w2 : World} {R n N : Nat} {es : List (Nat × Nat)} (h : PgI w R n es wr) (hb : Below N wr w2) (hN : wr.heap.size ≤ N) : PgI w R n es w2 := by
  obtain ⟨sv, h1, h2⟩ := h.box
  have hsz := h.sz
  have hb0 := h.bel.size
  exact ⟨h.lo, ⟨sv, (hb.block _ (by omega)).trans h1, own2_belowG h2 hb hN⟩, h.bel.trans (hb.mono (by omega)), Nat.le_trans hsz hb.size⟩

theorem PgI.opens {w wr : World} {R n : Nat} {es : List (Nat × Nat)} (h : PgI w R n es wr) : ∃ so sc, wr.cell? ⟨R, 0, none⟩ = some (.int .i64 (n : Int)) ∧ wr.cell? ⟨R, 1, none⟩ = some (.slice so es.length sc) ∧ wr.frozen? ⟨R, 1, none⟩ = false ∧ wr.ownsRow (R + 1) 27 2 (.slice so es.length sc) es.length (ecP es) ∧ Prs wr (.slice so es.length sc) (npL es) := by
  obtain ⟨sv, hbox, hown⟩ := h.box
  obtain ⟨so, sc, rfl⟩ := owns_formG hown
  exact ⟨so, sc, by simp [World.cell?, hbox], by simp [World.cell?, hbox], by simp [World.frozen?, hbox], hown, prs_ownG hown⟩

/-- One pair more. -/
theorem PgI.push {w wr wx w5 : World} {R n : Nat} {es : List (Nat × Nat)} {sv v' : Value} (h : PgI w R n es wr) (a b : Nat) (hx : Below wr.heap.size wr wx) (hs : wr.cell? ⟨R, 1, none⟩ = some sv)
    (ho : w5.ownsRow (R + 1) 27 2 v' (es.length + 1) (ecP es ++ [.int .i64 (a : Int), .int .i64 (b : Int)])) (hg : wx.grownBy w5 sv.ownBlock) :
    w5.cell? ⟨R, 1, none⟩ = some sv ∧ w5.frozen? ⟨R, 1, none⟩ = false ∧ PgI w R n (es ++ [(a, b)]) (w5.setCell ⟨R, 1, none⟩ v') := by
  have hX := h.below hx (Nat.le_refl _)
  obtain ⟨sv2, hbox, hown⟩ := h.box
  have : sv2 = sv := by simpa [World.cell?, hbox] using hs
  subst this
  have hboxx := (hx.block _ (by have := h.sz; omega)).trans hbox
  have hownx := own2_belowG hown hx (Nat.le_refl _)
  have hsz := hX.sz
  have hlo := h.lo
  have hne : ∀ b, b < R + 1 → w5.heap[b]? = wx.heap[b]? := fun b hb => hg.block b (by omega) (fun e => by
    have := (hownx.lt b e.symm).1
    omega)
  have hb5 := (hne _ (by omega)).trans hboxx
  have hbl : Below w.heap.size w w5 := ⟨hg.os.trans hX.bel.os, hg.tape.trans hX.bel.tape, hg.output.trans hX.bel.output, Nat.le_trans hX.bel.size hg.size, fun b hb => (hne b (by omega)).trans (hX.bel.block b hb)⟩
  refine ⟨by simp [World.cell?, hb5], by simp [World.frozen?, hb5], hlo, ⟨v', ?_, ?_⟩, hbl.setCell (by show _ ≤ R; omega) _, ?_⟩
  · simp [World.setCell, Array.getElem?_modify, hb5]
  · have e1 : ecP (es ++ [(a, b)]) = ecP es ++ [.int .i64 (a : Int), .int .i64 (b : Int)] := by simp [ecP]
    rw [e1, List.length_append, List.length_singleton]
    refine ⟨ho.1, ?_⟩
    rcases ho.2 with h1 | ⟨g, cap, cur, f1, f2, f3, f4⟩
    · exact .inl h1
    · exact .inr ⟨g, cap, cur, f1, f2, (Below.heap_setCell _ _ _ _ (by show g ≠ R; omega)).trans f3, f4⟩
  · simp only [World.setCell, Array.size_modify]
    exact Nat.le_trans hsz hg.size

theorem ortL_len (es : List (Nat × Nat)) (s : Nat) : (ortL es s).length = es.length := by simp [ortL]

theorem ortL_take {es : List (Nat × Nat)} {s j : Nat} (hj : j < es.length) : (ortL es s).take (j + 1) = (ortL es s).take j ++ [if s.testBit j then ((es.getD j (0, 0)).2, (es.getD j (0, 0)).1) else es.getD j (0, 0)] := by
  rw [List.take_succ_eq_append_getElem (by rw [ortL_len]; exact hj)]
  simp [ortL]

theorem ortL_take_len {es : List (Nat × Nat)} {s j : Nat} (hj : j ≤ es.length) : ((ortL es s).take j).length = j := by
  rw [List.length_take, ortL_len]; omega

theorem ortL_all (es : List (Nat × Nat)) (s : Nat) : (ortL es s).take es.length = ortL es s := by
  rw [List.take_of_length_le (by rw [ortL_len]; exact Nat.le_refl _)]

end Go.Proofs.Ytmljnfgfjcjmmaa
