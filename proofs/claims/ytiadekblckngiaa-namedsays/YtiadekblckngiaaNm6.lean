/- named.orders: a range over choose.Orders whose body writes into what is handed over. -/
import Derived.Test.YtiadekblckngiaaNm1
import Derived.Test.YtiadekblckngiaaTwF
import Derived.Test.YtiadekblckngiaaDso
import Derived.Maps.OwnIn
import Derived.Deep.Onto
namespace Go.Proofs.Ytiadekblckngiaa
open Go.RowKit Go.Shelf
attribute [local go_sem] Oper.semAt_some

theorem own_keepG {B e s n : Nat} {w W : World} {v : Value} {xs : List Value} (h : w.ownsRow B e s v n xs) (hk : ∀ g, v.ownBlock = some g → W.heap[g]? = w.heap[g]?) : W.ownsRow B e s v n xs := by
  refine ⟨h.1, ?_⟩
  rcases h.2 with h2 | ⟨g, cap, cur, rfl, hb, hh, r⟩
  · exact .inl h2
  · exact .inr ⟨g, cap, cur, rfl, hb, (hk g rfl).trans hh, r⟩

theorem ownsG_putObj {B e s n : Nat} {w : World} {v : Value} {xs : List Value} {l : Nat} {r : Loop} (h : w.ownsRow B e s v n xs) (o : Obj) (hl : w.heap[l]? = some (.loop r)) : (w.putObj l o).ownsRow B e s v n xs := by
  refine own_keepG h (fun g hg => World.putObj_heap_other (k := g) (r := l) (fun e => ?_))
  subst e
  rcases h.2 with ⟨e, _⟩ | ⟨g', cap, cur, e, _, hh, _⟩
  · rw [e] at hg; simp [Value.ownBlock] at hg
  · rw [e] at hg
    simp only [Value.ownBlock, Option.some.injEq] at hg
    subst hg
    rw [hl] at hh
    cases hh

theorem handG_below (N0 : Nat) (W0 W : World) (S : Nat → Prop) (x : List Int) (vs : Array Value) (W' : World) (h : HandF N0 W0 W S x vs) (hb : Below W.heap.size W W') : HandF N0 W0 W' S x vs := by
  obtain ⟨v, h1, h2, h3, h4, h5, h6⟩ := h
  exact ⟨v, h1, owns_below h2 hb (Nat.le_refl _), h3, h4, Nat.le_trans h5 hb.size, fun b cur t f hc => by
    have := h6 b cur t f hc
    exact (hb.block b (Array.getElem?_eq_some_iff.1 this).1).trans this⟩

theorem handG_put (N0 : Nat) (W0 W : World) (S : Nat → Prop) (x : List Int) (vs : Array Value) (l : Nat) (r : Loop) (o : Obj) (h : HandF N0 W0 W S x vs) (hl : W.heap[l]? = some (.loop r)) : HandF N0 W0 (W.putObj l o) S x vs := by
  obtain ⟨v, h1, h2, h3, h4, h5, h6⟩ := h
  refine ⟨v, h1, ownsG_putObj h2 _ hl, h3, h4, by simpa using h5, fun b cur t f hc => ?_⟩
  have := h6 b cur t f hc
  have hne : b ≠ l := fun e => by rw [e, hl] at this; cases this
  exact (World.putObj_heap_other (k := b) (r := l) hne).trans this

/-- The rows so far: told in box s; B: from where on they lie; none lies in a block of S. -/
structure OrT (s B n : Nat) (m : List (List Int)) (S : Nat → Prop) (W : World) (rv : Value) (vs : List Value) : Prop where
  box : W.heap[s]? = some (.cells #[rv] 22 (0, 0))
  len : vs.length = m.length
  own : W.ownsRow B 35 1 rv m.length vs
  off : ∀ g, rv.ownBlock = some g → ¬ S g
  row : ∀ i, i < m.length → ∃ gi ci, vs.getD i (.slice none 0 0) = .slice (some ⟨gi, 0, none⟩) n ci ∧ W.ownsRow B 3 1 (.slice (some ⟨gi, 0, none⟩) n ci) n (ints (m.getD i [])) ∧ ¬ S gi

theorem own_heapG {B e s n : Nat} {w : World} {g cap : Nat} {xs : List Value} (h : w.ownsRow B e s (.slice (some ⟨g, 0, none⟩) n cap) n xs) : ∃ cur, w.heap[g]? = some (.cells cur e (0, 0)) := by
  rcases h.2 with ⟨h1, _⟩ | ⟨g', cap', cur, h1, _, h2, _⟩
  · simp at h1
  · simp only [Value.slice.injEq, Option.some.injEq, Addr.mk.injEq, and_true, true_and] at h1
    obtain ⟨rfl, rfl⟩ := h1
    exact ⟨cur, h2⟩

/-- From one world to another: what lies in cells is kept, but for blocks that are not among these. -/
theorem OrT.keep {s B n : Nat} {m : List (List Int)} {S S' : Nat → Prop} {W W' : World} {rv : Value} {vs : List Value} (h : OrT s B n m S W rv vs)
    (hk : ∀ b cur t f, b < W.heap.size → W.heap[b]? = some (.cells cur t f) → (b = s ∨ ¬ S b) → W'.heap[b]? = some (.cells cur t f)) (hS : ∀ b, b < W.heap.size → S' b → S b) : OrT s B n m S' W' rv vs := by
  have key : ∀ g cur e, W.heap[g]? = some (.cells cur e (0, 0)) → ¬ S g → W'.heap[g]? = W.heap[g]? := fun g cur e hg hs => (hk g _ _ _ (lt_of_block hg) hg (.inr hs)).trans hg.symm
  refine ⟨hk _ _ _ _ (lt_of_block h.box) h.box (.inl rfl), h.len, own_keepG h.own (fun g hg => ?_), fun g hg hx => h.off g hg (hS g (h.own.lt g hg).2 hx), fun i hi => ?_⟩
  · rcases h.own.2 with ⟨e, _⟩ | ⟨g', cap, cur, e, _, hh, _⟩
    · rw [e] at hg; simp [Value.ownBlock] at hg
    · rw [e] at hg
      simp only [Value.ownBlock, Option.some.injEq] at hg
      subst hg
      exact key _ _ _ hh (h.off _ (by rw [e]; rfl))
  · obtain ⟨gi, ci, k1, k2, k3⟩ := h.row i hi
    obtain ⟨cur, hc⟩ := own_heapG k2
    refine ⟨gi, ci, k1, own_keepG k2 (fun g hg => ?_), fun hx => k3 (hS gi (lt_of_block hc) hx)⟩
    simp only [Value.ownBlock, Option.some.injEq] at hg
    subst hg
    exact key _ _ _ hc k3

/-- Between the rounds. -/
structure OrI (w : World) (n : Nat) (S : Nat → Prop) (pre : List (List Int)) (W : World) : Prop where
  sn : ∀ b, S b → w.heap.size + 1 ≤ b
  size : w.heap.size + 2 ≤ W.heap.size
  os : W.os = w.os
  tape : W.tape = w.tape
  output : W.output = w.output
  low : ∀ b, b < w.heap.size → W.heap[b]? = w.heap[b]?
  two : ∃ rv vs, OrT w.heap.size (w.heap.size + 2) n (pre.map upL) S W rv vs

theorem OrI.stab {w : World} {n : Nat} {S S' : Nat → Prop} {pre : List (List Int)} {W W' : World} (h : OrI w n S pre W) (hc : Chg S W W') (hs : ∀ b, S' b → S b ∨ W.heap.size ≤ b) : OrI w n S' pre W' := by
  have hsz := h.size
  have hl : ∀ b, b < w.heap.size + 1 → ¬ S b := fun b hb hx => by have := h.sn b hx; omega
  refine ⟨fun b hb => ?_, Nat.le_trans hsz hc.size, hc.os.trans h.os, hc.tape.trans h.tape, hc.output.trans h.output, fun b hb => (hc.block b (by omega) (hl b (by omega))).trans (h.low b hb), ?_⟩
  · rcases hs b hb with hx | hx
    · exact h.sn b hx
    · omega
  · obtain ⟨rv, vs, ht⟩ := h.two
    refine ⟨rv, vs, ht.keep (fun b cur t f hb hg hx => ?_) (fun b hb hx => (hs b hx).resolve_right (by omega))⟩
    rcases hx with rfl | hx
    · exact (hc.block _ hb (hl _ (by omega))).trans hg
    · exact (hc.block b hb hx).trans hg

theorem oq_cellG {w : World} {b : Nat} {x : Value} {t : TypeId} (h : w.heap[b]? = some (.cells #[x] t (0, 0))) : w.cell? ⟨b, 0, none⟩ = some x := by simp [World.cell?, h]
theorem oq_frozenG {w : World} {b : Nat} {x : Value} {t : TypeId} (h : w.heap[b]? = some (.cells #[x] t (0, 0))) : w.frozen? ⟨b, 0, none⟩ = false := by simp [World.frozen?, h]

set_option maxRecDepth 100000 in
set_option maxHeartbeats 8000000 in
theorem ordersN_any (n : Nat) (w : World) (hn1 : 1 ≤ n) (hn : n ≤ 3) :
    Calls Try.prog 15 #[.int .i64 (n : Int)] w fun e w' => ∃ u, e = .returned u ∧ Fr w.heap.size 35 3 w' u ((ords (n + 1) (n + 1) []).map upL) ∧ Below w.heap.size w w' := by
  obtain ⟨i0, hi0, hz0, hz1, hz2⟩ := info_parts infoSlN
  have e1 : (n : Int) + 1 = ((n + 1 : Nat) : Int) := by omega
  obtain ⟨N, hN⟩ : ∃ N, N = n + 1 := ⟨_, rfl⟩
  rw [← hN] at e1 ⊢
  have hN4 : N ≤ 4 := by omega
  have hN1 : 1 ≤ N := by omega
  clear hN
  obtain ⟨WB, hWB⟩ : ∃ WB, WB = w.alloc (.cells #[.slice none 0 0] 22) := ⟨_, rfl⟩
  obtain ⟨WN, hWN⟩ : ∃ WN, WN = WB.alloc (.cells #[.int .i64 (N : Int)] 3) := ⟨_, rfl⟩
  have hsB : WB.heap.size = w.heap.size + 1 := by rw [hWB]; simp
  have hsN : WN.heap.size = w.heap.size + 2 := by rw [hWN]; simp [hsB]
  have hbB : Below w.heap.size w WB := by rw [hWB]; exact (Below.refl _ _).alloc (Nat.le_refl _) _
  have hbN : Below w.heap.size w WN := by rw [hWN]; exact hbB.alloc hbB.size _
  have n1 : WN.heap[w.heap.size]? = some (.cells #[.slice none 0 0] 22 (0, 0)) := by
    rw [hWN]
    refine (Below.heap_alloc _ _ _ (by omega)).trans ?_
    rw [hWB]; exact heap_alloc_new _ _
  have n2 : WN.heap[w.heap.size + 1]? = some (.cells #[.int .i64 (N : Int)] 3 (0, 0)) := by
    rw [hWN, ← hsB]; exact heap_alloc_new _ _
  have HSQ := orders_seqF N (w.heap.size + 1) WN (by omega) (oq_cellG n2)
  have HI0 : Hid (OrI w N (fun b => b = w.heap.size + 1) [] WN) := ⟨fun b hb => by omega, by omega, hbN.os, hbN.tape, hbN.output, hbN.block, .slice none 0 0, [], n1, rfl, World.ownsRow_nil _ _ _ _, fun g hg => by simp [Value.ownBlock] at hg, fun i hi => absurd hi (by simp)⟩
  have HSZ : Hid (WN.heap.size = w.heap.size + 2) := hsN
  have HWN : Hid (WN = WB.alloc (.cells #[.int .i64 (N : Int)] 3)) := hWN
  have HSB0 : Hid (WB.heap.size = w.heap.size + 1) := hsB
  clear n1 n2 hbN hbB hsB hWN
  refine callsIn_wide (n := 0).1 ?_
  refine callsIn_of_wp_marks Try.func15 rfl trivial ?_ rfl
  simp only [Try.ntmps15, List.size_toArray, List.length_cons, List.length_nil, Nat.reduceAdd, Nat.reduceSub, Array.replicate_succ, Array.replicate_zero, List.push_toArray, List.append_toArray, List.nil_append, List.cons_append]
  gi_wp2_with (refine ⟨trivial, rfl, ?_⟩; gi_at_call 26; refine (callsIn_wide.2 (ordsIt_any _ _)).mono ?_; rintro e w' ⟨rfl, rfl⟩)
  rw [← hWB, ← HWN.out]
  clear HWN hWB
  refine range_f (R := HandF WN.heap.size) (cs := ords N N []) (T := fun _ => False) (S0 := fun b => b = w.heap.size + 1) (gf := 31) (lb := #[.pointer (some ⟨w.heap.size + 1, 0, none⟩)]) rfl (enters_of Try.func31 (by kernel_rfl) rfl) HSQ (fun b hb => by have := HSZ.out; omega)
    (fun W0 W' S x vs ⟨v, h1, _⟩ => by rw [h1]; rfl) (handG_below _) (handG_put _)
    (fun S pre W' => OrI w N S pre W')
    (fun c S pre W' => False)
    (fun S S' pre W' W'' h hc hs => h.stab hc hs) (fun c S S' pre W' W'' h hc hs => h) HI0.out
    (fun vs a' W' => ∃ v, vs = #[v] ∧ a' = { tmps := #[.int .i64 n, undef, .slice none 0 0, .pointer (some ⟨w.heap.size, 0, none⟩), v, undef, .int .i64 n, .int .i64 N, .func (.func 31) #[] #[.pointer (some ⟨w.heap.size + 1, 0, none⟩)], v, undef, undef, undef, undef, undef, undef, undef, undef, undef, undef, undef, undef, undef, undef, undef, undef, undef], defers := [] })
    (fun vs a' W' l r o h _ => h) ?assign ?body (fun h => h) ?done ?stop
  case assign =>
    rintro S x vs W0 W' K ⟨v, rfl, h2, h3, h4⟩ hK
    gi_wp2
    exact hK _ _ (Below.refl _ _) ⟨v, rfl, rfl⟩
  case stop =>
    rintro c S pre W' hpre h
    exact h.elim
  case body =>
    rintro S pre x vs a' W1 hi hSD hSL hlt1 hdf hlp hpre ⟨S1, Wz, hiz, hh, hS1⟩ ⟨v, hvs', rfl⟩
    subst hvs'
    have hcm' : x ∈ ords N N [] := hpre.subset (by simp)
    obtain ⟨hio, hxl⟩ := ords_is N [] x ⟨by simp, by simp⟩ hcm'
    simp only [List.length_nil, Nat.zero_add] at hxl
    have hxb : ∀ j, j < N → 0 ≤ x.getD j 0 ∧ x.getD j 0 ≤ 6 := fun j hj => by
      have hm : x.getD j 0 ∈ x := by simp [show j < x.length by omega]
      have := hio.1 _ hm
      omega
    have HXB : Hid (∀ j, j < N → 0 ≤ x.getD j 0 ∧ x.getD j 0 ≤ 6) := hxb
    have hpl : pre.length ≤ 1296 := by
      have q1 := hpre.length_le
      have q2 : (ords N N []).length ≤ 1296 := Nat.le_trans (ords_len (by omega) _ _) (Nat.le_trans (Nat.pow_le_pow_right (by decide) hN4) (by decide))
      simp only [List.length_append, List.length_singleton] at q1
      omega
    obtain ⟨u, hu, hown, hB0, hN0, hBW, hkc⟩ := hh
    have hu' : v = u := by simpa using hu
    subst hu'
    rw [hxl] at hown
    obtain ⟨lr, hlp⟩ := hlp
    obtain ⟨gv, cv, hvf⟩ : ∃ gv cv, v = .slice (some ⟨gv, 0, none⟩) N cv := by
      rcases hown.2 with ⟨_, h2⟩ | ⟨gv, cv, cur, h1, _⟩
      · omega
      · exact ⟨gv, cv, h1⟩
    subst hvf
    have hgv := hown.lt gv rfl
    have hsz := HSZ.out
    have hnS : ¬ S gv := fun hx => by
      obtain ⟨cur, hcur⟩ := own_heapG hown
      rcases (hS1 _).1 hx with hx | hx | hx
      · have := hB0 _ hx; omega
      · rw [hx, hdf] at hcur; cases hcur
      · rw [hx, hlp] at hcur; cases hcur
    have hSB : ∀ b, S b → b < W1.heap.size := fun b hx => by
      rcases (hS1 _).1 hx with hx | hx | hx
      · have := hB0 _ hx; omega
      · omega
      · omega
    obtain ⟨rv, rvs, htz⟩ := hiz.two
    have hszz := hiz.size
    have ht : OrT w.heap.size (w.heap.size + 2) N (pre.map upL) S W1 rv rvs := htz.keep (fun b cur t f hb hg _ => hkc b cur t f hg) (fun b hb hx => hx)
    have hrlt : ∀ g, rv.ownBlock = some g → g < Wz.heap.size := fun g hg => (htz.own.lt g hg).2
    have hglt : ∀ i, i < (pre.map upL).length → ∀ gi ci, rvs.getD i (.slice none 0 0) = .slice (some ⟨gi, 0, none⟩) N ci → gi < Wz.heap.size := fun i hi gi ci e => by
      obtain ⟨g', c', k1, k2, _⟩ := htz.row i hi
      rw [e] at k1
      simp only [Value.slice.injEq, Option.some.injEq, Addr.mk.injEq, and_true, true_and] at k1
      obtain ⟨rfl, rfl⟩ := k1
      exact (k2.lt _ rfl).2
    have HX : Hid (Wz.heap.size ≤ gv ∧ gv < W1.heap.size ∧ ¬ S gv ∧ w.heap.size + 2 ≤ Wz.heap.size) := ⟨hgv.1, hgv.2, hnS, hszz⟩
    have HO0 : Hid (W1.ownsRow (w.heap.size + 2) 3 1 (.slice (some ⟨gv, 0, none⟩) N cv) N (ints (upT x 0))) := by
      rw [upT_zero]
      exact hown.mono hszz
    have HT : Hid (OrT w.heap.size (w.heap.size + 2) N (pre.map upL) S W1 rv rvs) := ht
    have HRL : Hid (∀ g, rv.ownBlock = some g → g < Wz.heap.size) := hrlt
    have HGL : Hid (∀ i, i < (pre.map upL).length → ∀ gi ci, rvs.getD i (.slice none 0 0) = .slice (some ⟨gi, 0, none⟩) N ci → gi < Wz.heap.size) := hglt
    have HII : Hid (OrI w N S pre W1) := hi
    have HSB : Hid (∀ b, S b → b < W1.heap.size) := hSB
    have HXL : Hid (x.length = N) := hxl
    have hcN : N ≤ cv ∧ cv ≤ 9223372036854775807 := by
      rcases hown.2 with ⟨h2, _⟩ | ⟨g', c', cur, h1, _, _, h3, h4, _⟩
      · simp at h2
      · simp only [Value.slice.injEq, Option.some.injEq, Addr.mk.injEq, and_true, true_and] at h1
        obtain ⟨_, rfl⟩ := h1
        unfold maxLen at h4
        exact ⟨h3, h4⟩
    obtain ⟨hcN1, hcN2⟩ := hcN
    clear hi hiz hpre hown hB0 hN0 hBW hkc hS1 hcm' hdf hlp HSQ hSD hSL hio hxl ht htz hgv hu hxb hnS hSB hrlt hglt hszz hsz HI0
    gi_wp2
    gi_loopw [5, 12] (fun _ i wq => ∃ j : Nat, j ≤ N ∧ i = .int .i64 (j : Int) ∧ wq.ownsRow (w.heap.size + 2) 3 1 (.slice (some ⟨gv, 0, none⟩) N cv) N (ints (upT x j)) ∧ Touch gv W1 wq) (fun _ i _ => N - (intOf i).toNat)
    case atStart => exact ⟨0, Nat.zero_le _, rfl, HO0.out, Touch.refl _ _⟩
    case round =>
      obtain ⟨j, hj, rfl, ho, htc⟩ := hrel
      rename World => wq
      clear HO0
      by_cases hlj : j < N
      · have c1 : wq.cell? ⟨gv, j, none⟩ = some (.int .i64 (x.getD j 0)) := by
          rw [ho.cellAt j (by omega), ints_get _ j (by rw [upT_len _ _ (by have := HXL.out; omega), HXL.out]; exact hlj), upT_at x j (by rw [HXL.out]; exact hlj)]
        have c2 : wq.frozen? ⟨gv, j, none⟩ = false := ho.frozenAt j
        have hxj := HXB.out j hlj
        have HS : Hid ((wq.setCell ⟨gv, j, none⟩ (.int .i64 (x.getD j 0 + 1))).ownsRow (w.heap.size + 2) 3 1 (.slice (some ⟨gv, 0, none⟩) N cv) N (ints (upT x (j + 1))) ∧ Touch gv W1 (wq.setCell ⟨gv, j, none⟩ (.int .i64 (x.getD j 0 + 1)))) := by
          refine ⟨?_, htc.setCell j _⟩
          have h := (ho.stored j (.int .i64 (x.getD j 0 + 1))).1
          rw [← ints_setN] at h
          rw [upT_succ x j (by rw [HXL.out]; exact hlj)]
          exact h
        have jI : (j : Int) < (N : Int) := by omega
        have jI0 : (0 : Int) ≤ (j : Int) := by omega
        clear ho htc
        generalize x.getD j 0 = xj at *
        gi_wp2
        go_roundw
        case rel => exact ⟨j + 1, by omega, by go_num, HS.out⟩
        case measure => simp [intOf]; omega
      · have hje : j = N := by omega
        subst hje
        have hoU : wq.ownsRow (w.heap.size + 2) 3 1 (.slice (some ⟨gv, 0, none⟩) j cv) j (ints (upL x)) := by
          have h := ho
          have e := upT_all x
          rw [HXL.out] at e
          rw [e] at h
          exact h
        obtain ⟨hx1, hx2, hx3, hx4⟩ := HX.out
        have hT2 : OrT w.heap.size (w.heap.size + 2) j (pre.map upL) S wq rv rvs := by
          refine ⟨(htc.block _ (by omega)).trans HT.out.box, HT.out.len, own_keepG HT.out.own (fun g hg => htc.block g (by have := HRL.out g hg; omega)), HT.out.off, fun i hi => ?_⟩
          obtain ⟨gi, ci, k1, k2, k3⟩ := HT.out.row i hi
          refine ⟨gi, ci, k1, own_keepG k2 (fun g hg => htc.block g ?_), k3⟩
          simp only [Value.ownBlock, Option.some.injEq] at hg
          have := HGL.out i hi gi ci k1
          omega
        have d1 : wq.cell? ⟨w.heap.size, 0, none⟩ = some rv := oq_cellG hT2.box
        have hszq : w.heap.size + 2 ≤ wq.heap.size := by rw [htc.size]; omega
        obtain ⟨ro, rc, hrf⟩ := owns_form hT2.own
        have hml : (pre.map upL).length = pre.length := by simp
        rw [hml] at hrf
        subst hrf
        have G2 : Hid (wq.ownsRow (w.heap.size + 2) 35 1 (.slice ro pre.length rc) pre.length rvs) := by have h := hT2.own; rw [hml] at h; exact h
        have HFIN : Hid (∀ v' w8, w8.ownsRow (w.heap.size + 2) 35 1 v' (pre.length + 1) (rvs ++ [.slice (some ⟨gv, 0, none⟩) j cv]) → (wq.alloc (.cells #[.slice (some ⟨gv, 0, none⟩) j cv] 35)).grownBy w8 (Value.slice ro pre.length rc).ownBlock → (v'.ownBlock = (Value.slice ro pre.length rc).ownBlock ∨ v'.ownBlock = some (wq.heap.size + 1)) →
            w8.cell? ⟨w.heap.size, 0, none⟩ = some (.slice ro pre.length rc) ∧ w8.frozen? ⟨w.heap.size, 0, none⟩ = false ∧ Kpt (fun b => S b ∨ False) W1 (w8.setCell ⟨w.heap.size, 0, none⟩ v') ∧ OrI w j S (pre ++ [x]) (w8.setCell ⟨w.heap.size, 0, none⟩ v')) := fun v' w8 ho8 hg8 hat => by
          have hs8 := hg8.size
          simp only [World.size_alloc] at hs8
          have hbk : ∀ b, b < wq.heap.size → (∀ g, (Value.slice ro pre.length rc).ownBlock = some g → b ≠ g) → w8.heap[b]? = wq.heap[b]? := fun b hb hne => (hg8.block b (by simp; omega) (fun e => hne b e.symm rfl)).trans (Below.heap_alloc _ _ _ hb)
          have hbr : ∀ g, (Value.slice ro pre.length rc).ownBlock = some g → w.heap.size + 2 ≤ g := fun g hg => (G2.out.lt g hg).1
          have hb8 : w8.heap[w.heap.size]? = some (.cells #[.slice ro pre.length rc] 22 (0, 0)) := (hbk _ (by omega) (fun g hg => by have := hbr g hg; omega)).trans hT2.box
          have hset : ∀ b, b ≠ w.heap.size → (w8.setCell ⟨w.heap.size, 0, none⟩ v').heap[b]? = w8.heap[b]? := fun b hb => Below.heap_setCell _ _ _ _ hb
          have hqs := htc.size
          have hgi : ∀ i, i < (pre.map upL).length → ∀ gi ci, rvs.getD i (.slice none 0 0) = .slice (some ⟨gi, 0, none⟩) j ci → wq.ownsRow (w.heap.size + 2) 3 1 (.slice (some ⟨gi, 0, none⟩) j ci) j (ints ((pre.map upL).getD i [])) → (w8.setCell ⟨w.heap.size, 0, none⟩ v').ownsRow (w.heap.size + 2) 3 1 (.slice (some ⟨gi, 0, none⟩) j ci) j (ints ((pre.map upL).getD i [])) := fun i hi gi ci e k2 => by
            refine own_keepG k2 (fun g hg => ?_)
            have hl := k2.lt g hg
            refine (hset g (by omega)).trans (hbk g hl.2 (fun g2 hg2 e2 => ?_))
            subst e2
            simp only [Value.ownBlock, Option.some.injEq] at hg
            subst hg
            obtain ⟨c1, hc1⟩ := own_heapG k2
            exact (owns_typed G2.out (e1 := 3) (by decide) _ hg2).2 _ hc1
          have hgv8 : (w8.setCell ⟨w.heap.size, 0, none⟩ v').ownsRow (w.heap.size + 2) 3 1 (.slice (some ⟨gv, 0, none⟩) j cv) j (ints (upL x)) := by
            refine own_keepG hoU (fun g hg => ?_)
            have hl := hoU.lt g hg
            refine (hset g (by omega)).trans (hbk g hl.2 (fun g2 hg2 e2 => ?_))
            subst e2
            simp only [Value.ownBlock, Option.some.injEq] at hg
            subst hg
            obtain ⟨c1, hc1⟩ := own_heapG hoU
            exact (owns_typed G2.out (e1 := 3) (by decide) _ hg2).2 _ hc1
          refine ⟨oq_cellG hb8, oq_frozenG hb8, ⟨by simp [World.setCell]; omega, fun b hb hs => ?_⟩, ⟨HII.out.sn, by simp [World.setCell]; omega, ?_, ?_, ?_, fun b hb => ?_, v', rvs ++ [.slice (some ⟨gv, 0, none⟩) j cv], ?_⟩⟩
          · have hs' : S b := hs.elim id False.elim
            have hsn := HII.out.sn b hs'
            refine (hset b (by omega)).trans ((hbk b (by omega) (fun g hg e => ?_)).trans (htc.block b (fun e => hx3 (by rw [← e]; exact hs'))))
            subst e
            exact hT2.off _ hg hs'
          · exact hg8.os.trans (htc.os.trans HII.out.os)
          · exact hg8.tape.trans (htc.tape.trans HII.out.tape)
          · exact hg8.output.trans (htc.output.trans HII.out.output)
          · exact (hset b (by omega)).trans ((hbk b (by omega) (fun g hg => by have := hbr g hg; omega)).trans ((htc.block b (by omega)).trans (HII.out.low b hb)))
          · refine ⟨by simp [World.setCell, Array.getElem?_modify, hb8], by simp [hT2.len], ?_, fun g hg hx => ?_, fun i hi => ?_⟩
            · have h := own_keepG ho8 (W := w8.setCell ⟨w.heap.size, 0, none⟩ v') (fun g hg => hset g (by have := (ho8.lt g hg).1; omega))
              simpa using h
            · rcases hat with e | e
              · rw [e] at hg; exact hT2.off g hg hx
              · rw [e] at hg
                simp only [Option.some.injEq] at hg
                have := HSB.out g hx
                omega
            · by_cases hip : i < (pre.map upL).length
              · obtain ⟨gi, ci, k1, k2, k3⟩ := hT2.row i hip
                have e1 : (rvs ++ [Value.slice (some ⟨gv, 0, none⟩) j cv]).getD i (.slice none 0 0) = rvs.getD i (.slice none 0 0) := by
                  simp only [List.getD_eq_getElem?_getD]; rw [List.getElem?_append_left (by rw [hT2.len]; exact hip)]
                have e2 : ((pre ++ [x]).map upL).getD i [] = (pre.map upL).getD i [] := by
                  rw [List.map_append]
                  simp only [List.getD_eq_getElem?_getD]; rw [List.getElem?_append_left hip]
                rw [e1, e2]
                exact ⟨gi, ci, k1, hgi i hip gi ci k1 k2, k3⟩
              · have hie : i = (pre.map upL).length := by simp at hi hip ⊢; omega
                have e1 : (rvs ++ [Value.slice (some ⟨gv, 0, none⟩) j cv]).getD i (.slice none 0 0) = .slice (some ⟨gv, 0, none⟩) j cv := by
                  rw [hie, ← hT2.len]; simp
                have e2 : ((pre ++ [x]).map upL).getD i [] = upL x := by
                  rw [hie, List.map_append]; simp
                rw [e1, e2]
                exact ⟨gv, cv, rfl, hgv8, hx3⟩
        clear ho htc hoU hT2 HT HRL HGL HII HSB HX hx1 hx2 hx3 hx4 hml
        gi_wp2_with (first | (gi_at_builtin; refine wpListIn_append_own_at _ rfl _ _ 22 rfl (w.heap.size + 2) 35 i0 (.slice none 0 0) 1 24 Try.underlying22 hi0 hz0 hz1 hz2 rfl (by decide) _ _ _ rfl (G2.out.alloc _) ⟨wq.heap.size, 0, none⟩ 1 1 [.slice (some ⟨gv, 0, none⟩) j cv] rfl rfl (one_new _ _ _) (one_slice _ _ _) ?d3 ?d4 ?d5 ?_))
        case d3 => unfold maxLen; omega
        case d4 => omega
        case d5 => simp; omega
        intro v' w8 ho hg _ hat
        obtain ⟨vo8, vc8, hv8⟩ := owns_form ho
        subst hv8
        obtain ⟨hc8, hf8, hk8, hi8⟩ := HFIN.out _ w8 ho hg (by simpa using hat)
        have HK8 : Hid _ := hk8
        have HI8 : Hid _ := hi8
        clear ho hg hat HFIN hk8 hi8
        gi_wp2
        exact ⟨HK8.out, HI8.out⟩
  case done =>
    rintro S W' hi hSD hdf
    have hsz := HSZ.out
    obtain ⟨rv, rvs, ht⟩ := hi.two
    have k0 : W'.cell? ⟨w.heap.size, 0, none⟩ = some rv := oq_cellG ht.box
    have HI : Hid (OrI w N S (ords N N []) W') := hi
    have HT : Hid (OrT w.heap.size (w.heap.size + 2) N ((ords N N []).map upL) S W' rv rvs) := ht
    have HDF : Hid (W'.heap[WN.heap.size]? = some (.deferred (some []))) := hdf
    obtain ⟨ro, rc, hrf⟩ := owns_form ht.own
    subst hrf
    clear hi hdf ht HSQ HI0
    generalize ((ords N N []).map upL).length = ml at *
    gi_wp2
    refine leaves_mks [WN.heap.size] W' (by simp) (fun r hr => ?_) (fun w' hc => ⟨.slice ro ml rc, ?_, ?_⟩)
    · simp only [List.mem_singleton] at hr
      subst hr
      exact HDF.out
    · simp [results, Try.results15, go_sem]
    · have hl := HI.out.size
      have hbk : ∀ (b : Nat) (cur : Array Value) (e : TypeId), W'.heap[b]? = some (Obj.cells cur e (0, 0)) → w'.heap[b]? = W'.heap[b]? := fun b cur e hb => hc.block b (lt_of_block hb) (fun e2 => by
        simp only [List.mem_singleton] at e2
        rw [e2, HDF.out] at hb
        cases hb)
      refine ⟨_, rfl, ⟨rvs, HT.out.len, ?_, fun i hi => ?_⟩, hc.os.trans HI.out.os, hc.tape.trans HI.out.tape, hc.output.trans HI.out.output, by have := hc.size; omega, fun b hb => (hc.block b (by omega) (by simp; omega)).trans (HI.out.low b hb)⟩
      · have h := HT.out.own
        refine (own_keepG h (fun g hg => ?_)).mono (by omega)
        rcases h.2 with ⟨e, _⟩ | ⟨g', cap, cur, e, _, hh, _⟩
        · rw [e] at hg; simp [Value.ownBlock] at hg
        · rw [e] at hg
          simp only [Value.ownBlock, Option.some.injEq] at hg
          subst hg
          exact hbk _ _ _ hh
      · obtain ⟨gi, ci, k1, k2, _⟩ := HT.out.row i hi
        rw [k1]
        obtain ⟨c1, hc1⟩ := own_heapG k2
        refine Sl.own (own_keepG k2 (fun g hg => ?_))
        simp only [Value.ownBlock, Option.some.injEq] at hg
        subst hg
        exact hbk _ _ _ hc1

end Go.Proofs.Ytiadekblckngiaa
