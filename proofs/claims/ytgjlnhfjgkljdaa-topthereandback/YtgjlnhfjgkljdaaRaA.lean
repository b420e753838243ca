import Derived.Test.YtgjlnhfjgkljdaaOrdAll
import Derived.Test.YtgjlnhfjgkljdaaOfAll
import Derived.Test.YtgjlnhfjgkljdaaRowA
import Derived.Test.YtgjlnhfjgkljdaaRow3
import Derived.Maps.OwnIn
/- The rows around points: all choices, by the iterator. -/
namespace Go.Proofs.Ytgjlnhfjgkljdaa
open Go.RowKit Go.Shelf
attribute [local go_sem] Oper.semAt_some
attribute [local go_sem ↓] Go.wp_at_zero Go.wp_at_succ

theorem pks_snocP (P : List (List Int)) (x : List Int) (k : Nat) (h : k < x.length) : pks P [] (x.take (k + 1)) = pks P [] (x.take k) ++ [P.getD (x.getD k 0).toNat []] := by
  rw [take_snoc_int x k h]
  simp [pks]

set_option maxRecDepth 100000 in
set_option maxHeartbeats 800000 in
theorem pickedP_any (B : Nat) (P : List (List Int)) (x : List Int) (v u : Value) (w : World) (hv : Mat B 22 3 w v P) (hu : Sl B 3 w u (ints x)) (hx : ∀ i, i < x.length → 0 ≤ x.getD i 0 ∧ x.getD i 0 < P.length) (hl : x.length ≤ 1000) :
    Calls Try.prog 31 #[v, u] w fun e w' => ∃ z, e = .returned z ∧ Rws w.heap.size 22 3 w' z (pks P [] x) ∧ Below w.heap.size w w' := by
  obtain ⟨i0, hi, hz0, hz1, hz2⟩ := info_parts Try.info22
  obtain ⟨ao, cap, hvv, hlc, hcm⟩ := mat_open hv
  obtain ⟨bo, cbp, huu, hlb, hcb⟩ := sl_open hu
  subst hvv huu
  have HV : Hid (Mat w.heap.size 22 3 w (.slice ao P.length cap) P) := hv.any (Nat.le_refl _)
  have HU : Hid (Sl B 3 w (.slice bo x.length cbp) (ints x)) := hu
  have HX : Hid (∀ i, i < x.length → 0 ≤ x.getD i 0 ∧ x.getD i 0 < P.length) := hx
  clear hv hu hx
  go_enter Try.func31, Try.ntmps31
  go_wp2
  go_loopw [5, 10] (fun s i wr => ∃ k : Nat, k ≤ x.length ∧ i = .int .i64 k ∧ Rws w.heap.size 22 3 wr s (pks P [] (x.take k)) ∧ Below w.heap.size w wr) (fun _ i _ => x.length - (intOf i).toNat)
  case atStart => exact ⟨0, Nat.zero_le _, rfl, Rws.nil _ _ _ _, Below.refl _ _⟩
  case round =>
    obtain ⟨k, hk, rfl, hr, hb⟩ := hrel
    have HR : Hid (Rws w.heap.size 22 3 wr u5 (pks P [] (x.take k))) := hr
    have HB : Hid (Below w.heap.size w wr) := hb
    have hsz : w.heap.size ≤ wr.heap.size := hb.size
    clear hr hb
    by_cases hlt : k < x.length
    · obtain ⟨b, o, cp, hs, hc1, hcc⟩ := sl_cell (HU.out.below HB.out (Nat.le_refl _)) hlt
      simp only [Value.slice.injEq] at hs
      obtain ⟨rfl, _, rfl⟩ := hs
      obtain ⟨hx0, hx1⟩ := HX.out k hlt
      have HSN : Hid (pks P [] (x.take (k + 1)) = pks P [] (x.take k) ++ [P.getD (x.getD k 0).toNat []]) := pks_snocP P x k hlt
      have HLN : Hid ((pks P [] (x.take k)).length = k) := by show _ = _; simp [pks]; omega
      obtain ⟨q, hq⟩ : ∃ q : Nat, x.getD k 0 = (q : Int) := ⟨(x.getD k 0).toNat, by omega⟩
      rw [hq] at hcc hx0 hx1 HSN
      rw [show ((q : Int)).toNat = q by omega] at HSN
      clear hq
      have hqP : q < P.length := by omega
      obtain ⟨b2, o2, cp2, r2, hs2, _, hcc2, hr2⟩ := mat_cell (HV.out.below HB.out (Nat.le_refl _)) hqP
      simp only [Value.slice.injEq, true_and] at hs2
      obtain ⟨rfl, rfl⟩ := hs2
      obtain ⟨ro, rc, hrv, _, _⟩ := sl_open hr2
      subst hrv
      have HR2 : Hid (Sl w.heap.size 3 wr (.slice ro (P.getD q []).length rc) (ints (P.getD q []))) := hr2
      clear hr2
      generalize P.getD q [] = y at *
      generalize hyl : y.length = yl at *
      clear hyl
      obtain ⟨vs, g1, g2, g3⟩ := HR.out
      have hlen := HLN.out
      rw [hlen] at g1 g2 g3
      have G1 : Hid (vs.length = k) := g1
      have G2 : Hid (wr.ownsRow w.heap.size 22 1 u5 k vs) := g2
      have G3 : Hid (∀ i, i < k → Sl w.heap.size 3 wr (vs.getD i (.slice none 0 0)) (ints ((pks P [] (x.take k)).getD i []))) := g3
      clear g1 g2 g3 hlen
      go_wp2_with (first | (at_builtin; refine wpList_append_own _ rfl _ _ 24 rfl w.heap.size 22 i0 (.slice none 0 0) 1 24 Try.underlying24 hi hz0 hz1 hz2 rfl (by decide) _ _ _ rfl (G2.out.alloc _) ⟨wr.heap.size, 0, none⟩ 1 1 [.slice ro yl rc] rfl rfl (one_new _ _ _) (one_slice _ _ _) ?d3 ?d4 ?d5 ?_))
      case d3 => unfold maxLen; omega
      case d4 => omega
      case d5 => simp; omega
      intro v' w3 ho hg _
      have R1 : Hid (Rws w.heap.size 22 3 w3 v' (pks P [] (x.take (k + 1)))) := by
        have hp := Rws.push (e2 := 22) (e1 := 3) (m := pks P [] (x.take k)) (u := .slice ro yl rc) (zs := y) (by decide) (by rw [HLN.out]; exact G1.out) (by rw [HLN.out]; exact G2.out.alloc _)
          (fun i hi => (G3.out i (by rw [HLN.out] at hi; exact hi)).alloc _) (HR2.out.alloc _) (by rw [HLN.out]; exact ho) hg
        rw [← HSN.out] at hp
        exact hp
      have R2 : Hid (Below w.heap.size w w3) := (HB.out.alloc hsz _).grown hg (by simp; omega) (fun x hx => (G2.out.lt x hx).1)
      clear ho hg
      go_wp2
      go_roundw
      case rel => exact ⟨k + 1, by omega, by go_num, R1.out, R2.out⟩
      case measure => simp [intOf]; omega
    · have hke : x.take k = x := List.take_of_length_le (by omega)
      have HR' : Hid (Rws w.heap.size 22 3 wr u5 (pks P [] x)) := by have := HR.out; rw [hke] at this; exact this
      clear HR
      go_wp2
      go_ret
      exact ⟨_, rfl, HR'.out, HB.out⟩
end Go.Proofs.Ytgjlnhfjgkljdaa

/- The rows around points: all choices, by the iterator: the walk. -/
namespace Go.Proofs.Ytgjlnhfjgkljdaa
open Go.RowKit Go.Shelf
attribute [local go_sem] Oper.semAt_some

theorem handA_below (N0 : Nat) (W : World) (S : Nat → Prop) (x : List Int) (vs : Array Value) (W' : World) (h : Hand N0 W S x vs) (hb : Below W.heap.size W W') : Hand N0 W' S x vs := by
  obtain ⟨v, B0, h1, h2, h3, h4, h5⟩ := h
  exact ⟨v, B0, h1, owns_below h2 hb (Nat.le_refl _), h3, h4, Nat.le_trans h5 hb.size⟩

theorem handA_put (N0 : Nat) (W : World) (S : Nat → Prop) (x : List Int) (vs : Array Value) (l : Nat) (r : Loop) (o : Obj) (h : Hand N0 W S x vs) (hl : W.heap[l]? = some (.loop r)) : Hand N0 (W.putObj l o) S x vs := by
  obtain ⟨v, B0, h1, h2, h3, h4, h5⟩ := h
  exact ⟨v, B0, h1, ownsRow_putObj h2 _ hl rfl, h3, h4, by simpa using h5⟩

/-- The rows of the choices so far. -/
def raL (P : List (List Int)) (pre : List (List Int)) : List (List Int) := pre.flatMap fun c => (rowT (pks P [] c) P).toList

theorem raL_snoc (P pre : List (List Int)) (c : List Int) : raL P (pre ++ [c]) = raL P pre ++ (rowT (pks P [] c) P).toList := by simp [raL]

theorem raL_len (P : List (List Int)) : ∀ pre, (raL P pre).length ≤ pre.length
  | [] => by simp [raL]
  | c :: pre => by
    have h := raL_len P pre
    have : (rowT (pks P [] c) P).toList.length ≤ 1 := by cases rowT (pks P [] c) P <;> simp
    simp only [raL, List.flatMap_cons, List.length_append, List.length_cons] at *
    omega

/-- Rows that lie off the blocks of S. -/
structure FrO (S : Nat → Prop) (B : Nat) (W : World) (v : Value) (m : List (List Int)) (vs : List Value) : Prop where
  len : vs.length = m.length
  own : W.ownsRow B 22 1 v m.length vs
  off : ∀ g, v.ownBlock = some g → ¬ S g
  sl : ∀ i, i < m.length → Sl 0 3 W (vs.getD i (.slice none 0 0)) (ints (m.getD i []))
  so : ∀ i, i < m.length → 0 < (m.getD i []).length → ∃ a n c, vs.getD i (.slice none 0 0) = .slice (some a) n c ∧ ¬ S a.block

theorem FrO.fr {S : Nat → Prop} {B : Nat} {W : World} {v : Value} {m : List (List Int)} {vs : List Value} (h : FrO S B W v m vs) : Fr B 22 3 W v m := ⟨vs, h.len, h.own, h.sl⟩

theorem sl_pos_keep {w W : World} {v : Value} {xs : List Int} (h : Sl 0 3 w v (ints xs)) (hk : 0 < xs.length → ∀ a n c, v = .slice (some a) n c → W.heap[a.block]? = w.heap[a.block]?) : Sl 0 3 W v (ints xs) := by
  obtain ⟨ao, cap, rfl, h1, h2, h3, h4⟩ := h
  refine ⟨ao, cap, rfl, h1, h2, fun i hi => ?_, h4⟩
  obtain ⟨b, o, rfl, hc, ht⟩ := h3 i hi
  have k1 := hk (by simpa using (Nat.lt_of_le_of_lt (Nat.zero_le _) hi)) _ _ _ rfl
  refine ⟨b, o, rfl, (World.cell?_of_block (w := w) (a := ⟨b, o + i, none⟩) k1).trans hc, ?_⟩
  rcases ht with ht | ⟨cur, ht⟩
  · omega
  · exact .inr ⟨cur, k1.trans ht⟩

theorem sl_block {w : World} {a : Addr} {n c : Nat} {xs : List Int} (h : Sl 0 3 w (.slice (some a) n c) (ints xs)) (hp : 0 < xs.length) : a.block < w.heap.size := by
  obtain ⟨ao, cap, hv, _, _, h3, _⟩ := h
  simp only [Value.slice.injEq] at hv
  obtain ⟨rfl, _, _⟩ := hv
  obtain ⟨b, o, ha, hc, _⟩ := h3 0 (by simpa using hp)
  cases ha
  have hx : (ints xs)[0]? = some (.int .i64 (xs.getD 0 0)) := ints_get _ _ hp
  exact lt_of_cell (hc.trans hx)

theorem FrO.keep {S S' : Nat → Prop} {B : Nat} {W W' : World} {v : Value} {m : List (List Int)} {vs : List Value} (h : FrO S B W v m vs) (hc : ∀ b, b < W.heap.size → ¬ S b → W'.heap[b]? = W.heap[b]?) (hs : ∀ b, S' b → S b ∨ W.heap.size ≤ b) : FrO S' B W' v m vs := by
  refine ⟨h.len, ⟨h.own.1, ?_⟩, fun g hg hx => ?_, fun i hi => sl_pos_keep (h.sl i hi) (fun hp a n c e => ?_), fun i hi hp => ?_⟩
  · rcases h.own.2 with h2 | ⟨g, cap, cur, rfl, hb, hh, r⟩
    · exact Or.inl h2
    · exact Or.inr ⟨g, cap, cur, rfl, hb, (hc g (lt_of_block hh) (h.off g rfl)).trans hh, r⟩
  · rcases hs g hx with h1 | h1
    · exact h.off g hg h1
    · have := (h.own.lt g hg).2; omega
  · obtain ⟨a', n', c', e', hn⟩ := h.so i hi hp
    rw [e] at e'
    cases e'
    have hsl := h.sl i hi
    rw [e] at hsl
    exact hc _ (sl_block hsl hp) hn
  · obtain ⟨a, n, c, e, hn⟩ := h.so i hi hp
    refine ⟨a, n, c, e, fun hx => ?_⟩
    have hsl := h.sl i hi
    rw [e] at hsl
    rcases hs _ hx with h1 | h1
    · exact hn h1
    · have := sl_block hsl hp; omega

/-- Between the rounds. -/
structure RaI (w WN : World) (P : List (List Int)) (S : Nat → Prop) (pre : List (List Int)) (W : World) : Prop where
  sn : ∀ b, S b → w.heap.size + 2 ≤ b
  kp : Kpt (fun b => b < w.heap.size + 1) WN W
  os : W.os = w.os
  tape : W.tape = w.tape
  output : W.output = w.output
  rv : ∃ v vs, W.heap[w.heap.size + 1]? = some (.cells #[v] 24 (0, 0)) ∧ FrO S (w.heap.size + 6) W v (raL P pre) vs

theorem RaI.stab {w WN W W' : World} {P : List (List Int)} {pre : List (List Int)} {S S' : Nat → Prop} (h : RaI w WN P S pre W) (hN : w.heap.size + 2 ≤ WN.heap.size) (hc : Chg S W W') (hs : ∀ b, S' b → S b ∨ W.heap.size ≤ b) : RaI w WN P S' pre W' := by
  have h0 := h.kp.size
  obtain ⟨v, vs, h1, h2⟩ := h.rv
  refine ⟨fun b hb => ?_, h.kp.trans (Kpt.of_chg hc fun i _ hi hsi => ?_), hc.os.trans h.os, hc.tape.trans h.tape, hc.output.trans h.output, v, vs, (hc.block _ (by omega) (fun hx => by have := h.sn _ hx; omega)).trans h1, h2.keep (fun b hb hn => hc.block b hb hn) hs⟩
  · rcases hs b hb with h1 | h1
    · exact h.sn b h1
    · omega
  · have := h.sn i hsi
    omega

/-- One row more. -/
theorem FrO.push {S : Nat → Prop} {B : Nat} {W W' : World} {v v' u : Value} {m : List (List Int)} {vs : List Value} {zs : List Int} (h : FrO S B W v m vs) (hu : Sl 0 3 W u (ints zs)) (hun : 0 < zs.length → ∃ a n c, u = .slice (some a) n c ∧ ¬ S a.block)
    (ho : W'.ownsRow B 22 1 v' (m.length + 1) (vs ++ [u])) (hg : W.grownBy W' v.ownBlock) (hn : ∀ g, v'.ownBlock = some g → ¬ S g) : FrO S B W' v' (m ++ [zs]) (vs ++ [u]) := by
  have hp := Fr.push (e2 := 22) (e1 := 3) (m := m) (u := u) (zs := zs) (by decide) h.len h.own h.sl hu ho hg
  have ht : ∀ k, v.ownBlock = some k → 0 ≤ k ∧ ∀ cur, W.heap[k]? ≠ some (.cells cur 3 (0, 0)) := fun k hk => ⟨Nat.zero_le _, (owns_typed h.own (by decide) k hk).2⟩
  refine ⟨by simp [h.len], by simpa using ho, hn, fun i hi => ?_, fun i hi hpos => ?_⟩
  · by_cases hlt : i < m.length
    · have e1' : (vs ++ [u]).getD i (.slice none 0 0) = vs.getD i (.slice none 0 0) := by
        simp only [List.getD_eq_getElem?_getD]; rw [List.getElem?_append_left (by have := h.len; omega)]
      have e2' : (m ++ [zs]).getD i [] = m.getD i [] := by
        simp only [List.getD_eq_getElem?_getD]; rw [List.getElem?_append_left (by omega)]
      rw [e1', e2']
      exact (h.sl i hlt).grown hg ht
    · have hi' : i = m.length := by simp at hi; omega
      subst hi'
      have e1' : (vs ++ [u]).getD m.length (.slice none 0 0) = u := by
        rw [← h.len]; simp
      have e2' : (m ++ [zs]).getD m.length [] = zs := by simp
      rw [e1', e2']
      exact hu.grown hg ht
  · by_cases hlt : i < m.length
    · have e1' : (vs ++ [u]).getD i (.slice none 0 0) = vs.getD i (.slice none 0 0) := by
        simp only [List.getD_eq_getElem?_getD]; rw [List.getElem?_append_left (by have := h.len; omega)]
      have e2' : (m ++ [zs]).getD i [] = m.getD i [] := by
        simp only [List.getD_eq_getElem?_getD]; rw [List.getElem?_append_left (by omega)]
      rw [e2'] at hpos
      rw [e1']
      exact h.so i hlt hpos
    · have hi' : i = m.length := by simp at hi; omega
      subst hi'
      have e1' : (vs ++ [u]).getD m.length (.slice none 0 0) = u := by
        rw [← h.len]; simp
      have e2' : (m ++ [zs]).getD m.length [] = zs := by simp
      rw [e2'] at hpos
      rw [e1']
      exact hun hpos
end Go.Proofs.Ytgjlnhfjgkljdaa

/- The rows around points: hull.rowsAround. -/
namespace Go.Proofs.Ytgjlnhfjgkljdaa
open Go.RowKit Go.Shelf
attribute [local go_sem] Oper.semAt_some

theorem mat_keepA {B : Nat} {w W : World} {v : Value} {m : List (List Int)} (h : Mat B 22 3 w v m) (hk : ∀ b, b < w.heap.size → W.heap[b]? = w.heap[b]?) : Mat B 22 3 W v m := by
  obtain ⟨vs, h1, h2, h3⟩ := h
  exact ⟨vs, h1, h2.move fun b hl ht => ⟨hk b hl, ht⟩, fun i hi => (h3 i hi).move fun b hl ht => ⟨hk b hl, ht⟩⟩

theorem FrO.set {S : Nat → Prop} {B b j : Nat} {t : TypeId} {w : World} {v u : Value} {m : List (List Int)} {vs : List Value} {cur : Array Value} (h : FrO S B w v m vs) (hb : b < B) (hR : w.heap[b]? = some (.cells cur t (0, 0))) (ht : t ≠ 3) : FrO S B (w.setCell ⟨b, j, none⟩ u) v m vs := by
  refine ⟨h.len, owns_set h.own hb, h.off, fun i hi => (h.sl i hi).setCell u ⟨Nat.zero_le _, fun cur' e => ?_⟩, h.so⟩
  have e' : w.heap[b]? = some (.cells cur' 3 (0, 0)) := e
  rw [hR] at e'
  simp at e'
  exact ht e'.2

theorem pks_len (P : List (List Int)) (c : List Int) : (pks P [] c).length = c.length := by simp [pks]

theorem pks_box {d Bd : Nat} {P : List (List Int)} {c : List Int} (hP : Box d Bd P) (hc : ∀ i, i < c.length → 0 ≤ c.getD i 0 ∧ c.getD i 0 < P.length) : Box d Bd (pks P [] c) := by
  intro r hr
  simp only [pks, List.mem_map] at hr
  obtain ⟨z, hz, rfl⟩ := hr
  obtain ⟨t, ht, rfl⟩ := List.getElem_of_mem hz
  have h1 := hc t ht
  have e : c.getD t 0 = c[t] := by simp [ht]
  rw [e] at h1
  exact hP _ (by rw [List.getD_eq_getElem?_getD, List.getElem?_eq_getElem (by omega)]; exact List.getElem_mem _)

set_option maxRecDepth 100000 in
set_option maxHeartbeats 8000000 in
theorem rowsAround_any (d : Nat) (P : List (List Int)) (v : Value) (w : World) (hv : Mat w.heap.size 22 3 w v P) (hfit : Box d 30 P) (h1 : 1 ≤ d) (h4 : d ≤ 4) (h24 : P.length ≤ 24) (_hP1 : 1 ≤ P.length) :
    Calls Try.prog 15 #[.int .i64 d, v] w fun e w' => ∃ u m', e = .returned u ∧ Fr w.heap.size 22 3 w' u m' ∧ Inor m' (rowsC P [] d P) ∧ Below w.heap.size w w' := by
  obtain ⟨i0, hi0, hz0, hz1, hz2⟩ := info_parts Try.info22
  obtain ⟨po, pc, hvv, hlc, hcm⟩ := mat_open hv
  subst hvv
  have HV : Hid (Mat w.heap.size 22 3 w (.slice po P.length pc) P) := hv
  have HFIT : Hid (Box d 30 P) := hfit
  clear hv hfit
  refine callsIn_wide (n := 0).1 ?_
  refine callsIn_of_wp_marks Try.func15 rfl trivial ?_ rfl
  simp only [Try.ntmps15, List.size_toArray, List.length_cons, List.length_nil, Nat.reduceAdd, Nat.reduceSub, Array.replicate_succ, Array.replicate_zero, List.push_toArray, List.append_toArray, List.nil_append, List.cons_append]
  gi_wp2_with (refine ⟨trivial, rfl, ?_⟩; gi_at_call 29; refine (callsIn_wide.2 (of_any _ _ _)).mono ?_; rintro e w' ⟨rfl, rfl⟩)
  obtain ⟨WN, hWN, n1, n2, n3, n4, hsN, hbN⟩ := fourB w (.cells #[.slice po P.length pc] 24) (.cells #[.slice none 0 0] 24) (.cells #[.int .i64 P.length] 3) (.cells #[.int .i64 d] 3)
  rw [← hWN]
  clear hWN
  have HSQ := of_seq P.length d (w.heap.size + 1 + 1 + 1) (w.heap.size + 1 + 1) WN (by omega) (by omega) (cell_of n4) (cell_of n3)
  have HSZ : Hid (WN.heap.size = w.heap.size + 4) := hsN
  have HI0 : Hid (RaI w WN P (fun b => b = w.heap.size + 1 + 1 + 1 ∨ b = w.heap.size + 1 + 1) [] WN) := ⟨fun b hb => by omega, Kpt.refl _ _, hbN.os, hbN.tape, hbN.output, .slice none 0 0, [], n2, ⟨rfl, World.ownsRow_nil _ _ _ _, fun g hg => by simp [Value.ownBlock] at hg, fun i hi => absurd hi (by simp [raL]), fun i hi => absurd hi (by simp [raL])⟩⟩
  have HN1 : Hid (WN.heap[w.heap.size]? = some (.cells #[.slice po P.length pc] 24 (0, 0))) := n1
  have HBN : Hid (Below w.heap.size w WN) := hbN
  clear n1 n2 n3 n4 hbN
  refine range_s (R := Hand WN.heap.size) (cs := ext P.length d 0) (T := fun _ => False) (S0 := fun b => b = w.heap.size + 1 + 1 + 1 ∨ b = w.heap.size + 1 + 1) (gf := 48) (lb := #[.pointer (some ⟨w.heap.size + 1 + 1 + 1, 0, none⟩), .pointer (some ⟨w.heap.size + 1 + 1, 0, none⟩)]) rfl (enters_of Try.func48 (by kernel_rfl) rfl) HSQ (fun b hb => by omega)
    (fun W' S x vs ⟨v, B0, h1, _⟩ => by rw [h1]; rfl) (handA_below _) (handA_put _)
    (fun S pre W' => RaI w WN P S pre W')
    (fun c S pre W' => False)
    (fun S S' pre W' W'' h hc hs => h.stab (by have := HSZ.out; omega) hc hs) (fun c S S' pre W' W'' h hc hs => h) HI0.out
    (fun vs a' W' => ∃ v, vs = #[v] ∧ a' = { tmps := #[.int .i64 d, .slice po P.length pc, undef, .pointer (some ⟨w.heap.size, 0, none⟩), .slice none 0 0, .pointer (some ⟨w.heap.size + 1, 0, none⟩), v, undef, undef, .slice po P.length pc, .int .i64 P.length, .int .i64 d, .func (.func 48) #[] #[.pointer (some ⟨w.heap.size + 1 + 1 + 1, 0, none⟩), .pointer (some ⟨w.heap.size + 1 + 1, 0, none⟩)], v, undef, undef, undef, undef, undef, undef, undef, undef, undef, undef, undef, undef, undef, undef, undef], defers := [] })
    (fun vs a' W' l r o h _ => h) ?assign ?body (fun h => h) ?done ?stop
  case assign =>
    rintro S x vs W' K ⟨v, B0, rfl, h2, h3, h4⟩ hK
    gi_wp2
    exact hK _ _ (Below.refl _ _) ⟨v, rfl, rfl⟩
  case stop =>
    rintro c S pre W' hpre h
    exact h.elim
  case body =>
    rintro S pre c vs a' W1 hi hSD hSL hlt1 hdf hlp hpre ⟨S1, ⟨v, B0, hvs, hown, hB0, hN0, hBW⟩, hS1⟩ ⟨v', hvs', rfl⟩
    have hvv : v = v' := by rw [hvs] at hvs'; simpa using hvs'
    subst hvv
    have hcm' : c ∈ ext P.length d 0 := hpre.subset (by simp)
    obtain ⟨hr1, hr2, _⟩ := ext_rise hcm'
    have hsz := HSZ.out
    have hws := hi.kp.size
    have e1 : W1.heap[w.heap.size]? = some (.cells #[.slice po P.length pc] 24 (0, 0)) := (hi.kp.block _ (by omega) (by omega)).trans HN1.out
    have hlow : ∀ b, b < w.heap.size → W1.heap[b]? = w.heap[b]? := fun b hb => (hi.kp.block b (by omega) (by omega)).trans (HBN.out.block b hb)
    obtain ⟨rv, rvs, hrv, hfr⟩ := hi.rv
    have HSB : Hid (∀ b, S b → b < W1.heap.size) := fun b hx => by
      rcases (hS1 _).1 hx with hx | hx | hx
      · have := hB0 _ hx; omega
      · omega
      · omega
    have hrl : ∀ i, i < c.length → 0 ≤ c.getD i 0 ∧ c.getD i 0 < P.length := fun i hi => by have := hr2 i (by omega); exact ⟨by omega, this.2⟩
    obtain ⟨vo, vc, hvf⟩ := owns_form hown
    subst hvf
    have HMP : Hid (Mat w.heap.size 22 3 W1 (.slice po P.length pc) P) := mat_keepA HV.out hlow
    have hcell : W1.cell? ⟨w.heap.size, 0, none⟩ = some (.slice po P.length pc) := cell_of e1
    have HPK : Hid (Calls Try.prog 31 #[.slice po P.length pc, .slice vo c.length vc] W1.drew fun e w' => ∃ zo zc, e = .returned (.slice zo d zc) ∧ w'.cell? ⟨w.heap.size, 0, none⟩ = some (.slice po P.length pc) ∧
        Calls Try.prog 30 #[.slice zo d zc, .slice po P.length pc] w' fun e w'' => ∃ xo xc, e = .returned (.tuple #[.slice xo ((rowT (pks P [] c) P).getD []).length xc, .bool (rowT (pks P [] c) P).isSome]) ∧ w''.ownsRow W1.heap.size 3 1 (.slice xo ((rowT (pks P [] c) P).getD []).length xc) ((rowT (pks P [] c) P).getD []).length (ints ((rowT (pks P [] c) P).getD [])) ∧ Below W1.heap.size W1 w'') := by
      have h := pickedP_any (max W1.heap.size w.heap.size) P c _ _ W1.drew ((HMP.out.more (by omega)).drewN 1) ((Sl.own hown).drewN 1) hrl (by omega)
      refine h.mono ?_
      rintro e w' ⟨z, rfl, hz, hb⟩
      obtain ⟨zo, zc, rfl, _, _⟩ := mat_open (hz.mat (Nat.le_refl _))
      rw [pks_len, hr1]
      have hb' : Below W1.heap.size W1 w' := ((Below.refl _ _).drew (B := W1.heap.size)).trans hb
      refine ⟨zo, zc, rfl, (hb'.cell (lt_of_cell hcell)).trans hcell, ?_⟩
      have ht := rowThrough_own w'.heap.size (pks P [] c) P (.slice zo d zc) (.slice po P.length pc) w' (by rw [pks_len, hr1] at hz; exact (hz.mat (Nat.le_refl _)).any (Nat.le_refl _)) ((HMP.out.below hb' (Nat.le_refl _)).any (Nat.le_refl _)) (by rw [pks_len, hr1]; exact pks_box HFIT.out hrl) (by rw [pks_len, hr1]; exact HFIT.out) (by rw [pks_len, hr1]; exact h1) (by rw [pks_len, hr1]; exact h4)
      refine ht.mono ?_
      rintro e w'' ⟨x, rfl, hx, hb2⟩
      have hx' := hx.mono hb'.size
      obtain ⟨xo, xc, rfl⟩ := owns_form hx'
      exact ⟨xo, xc, rfl, hx', hb'.trans (hb2.mono hb'.size)⟩
    obtain ⟨lr, hlp⟩ := hlp
    have HIS : Hid (∀ w7, Below W1.heap.size W1 w7 → RaI w WN P S pre w7) := fun w7 hb => hi.stab (by omega) (Chg.of_below hb (Nat.le_refl _)) (fun b hb => .inl hb)
    have HSN : Hid (∀ b, S b → w.heap.size + 2 ≤ b) := hi.sn
    have HFR : Hid (FrO S (w.heap.size + 6) W1 rv (raL P pre) rvs) := hfr
    have HRV : Hid (W1.heap[w.heap.size + 1]? = some (.cells #[rv] 24 (0, 0))) := hrv
    have HRL : Hid ((raL P pre).length ≤ 1000000) := by
      have hl := raL_len P pre
      have h2 : pre.length ≤ (ext P.length d 0).length := by
        have := hpre.length_le
        simp only [List.length_append, List.length_cons, List.length_nil] at this
        omega
      have h3 : (ext P.length d 0).length = (chz d P).length := by
        have := congrArg List.length (chz_ext P [] d 0)
        simpa using this
      have h5 : (chz d P).length ≤ 1000000 := by
        rw [← chs_chz]
        refine Nat.le_trans (chs_len _ _) ?_
        exact Nat.le_trans (Nat.pow_le_pow_left (show P.length + 1 ≤ 25 by omega) d) (Nat.le_trans (Nat.pow_le_pow_right (by decide) h4) (by decide))
      show _ ≤ _
      omega
    have HSN1 : Hid (raL P (pre ++ [c]) = raL P pre ++ (rowT (pks P [] c) P).toList) := raL_snoc P pre c
    have hs2 : w.heap.size + 6 ≤ W1.heap.size := by omega
    clear hi hpre hown hB0 hN0 hBW hS1 hcm' hr1 hr2 hdf hlp hvs hvs' hrl hlow hrv hfr hsz hws e1 HMP HSQ
    cases hrt : rowT (pks P [] c) P with
    | none =>
      rw [hrt] at HPK HSN1
      simp only [Option.getD_none, Option.isSome_none, List.length_nil, Option.toList_none, List.append_nil] at HPK HSN1
      clear hrt
      have HFN : Hid (∀ w7, Below W1.heap.size W1 w7 → Kpt (fun b => S b ∨ False) W1 w7 ∧ RaI w WN P S (pre ++ [c]) w7) := fun w7 hb => by
        refine ⟨Kpt.of_below hb (Nat.le_refl _), ?_⟩
        have h := HIS.out w7 hb
        obtain ⟨q1, q2, q3, q4, q5, q6⟩ := h
        refine ⟨q1, q2, q3, q4, q5, ?_⟩
        rw [HSN1.out]
        exact q6
      obtain ⟨RT, HRTC, HPK2⟩ : ∃ RT : Option Addr → Nat → World → Prop, Hid (∀ zo zc w', RT zo zc w' → Calls Try.prog 30 #[.slice zo d zc, .slice po P.length pc] w' fun e w'' => ∃ xo xc, e = .returned (.tuple #[.slice xo 0 xc, .bool false]) ∧ Below W1.heap.size W1 w'') ∧
          Hid (Calls Try.prog 31 #[.slice po P.length pc, .slice vo c.length vc] W1.drew fun e w' => ∃ zo zc, e = .returned (.slice zo d zc) ∧ w'.cell? ⟨w.heap.size, 0, none⟩ = some (.slice po P.length pc) ∧ RT zo zc w') := by
        refine ⟨_, fun zo zc w' h => h, HPK.out.mono ?_⟩
        rintro e w' ⟨zo, zc, h1, h2, h3⟩
        refine ⟨zo, zc, h1, h2, h3.mono ?_⟩
        rintro e w'' ⟨xo, xc, h4, _, h5⟩
        exact ⟨xo, xc, h4, h5⟩
      clear HPK
      gi_wp2
      gi_region_with (first | (refine ⟨trivial, rfl, ?_⟩; gi_at_call 31; refine (CallsIn.inRound _ (callsIn_wide.2 HPK2.out)).mono ?_; rintro e w6 ⟨zo, zc, rfl, hc6, hrt6⟩) | (refine ⟨trivial, rfl, ?_⟩; gi_at_call 30; refine (CallsIn.inRound _ (callsIn_wide.2 (HRTC.out _ _ _ hrt6))).mono ?_; rintro e w7 ⟨xo, xc, rfl, hb7⟩))
      all_goals
        have HF := HFN.out w7 hb7
        clear HFN hb7 HRTC HPK2
        gi_wp2
        exact HF
    | some r =>
      rw [hrt] at HPK HSN1
      simp only [Option.getD_some, Option.isSome_some, Option.toList_some] at HPK HSN1
      clear hrt
      obtain ⟨L, hL⟩ : ∃ L, L = r.length := ⟨_, rfl⟩
      have HL : Hid (L = r.length) := hL
      rw [← hL] at HPK
      clear hL
      obtain ⟨RT, XT, HXT, HRTC, HPK2⟩ : ∃ (RT : Option Addr → Nat → World → Prop) (XT : Option Addr → Nat → World → Prop), Hid (∀ xo xc w7, XT xo xc w7 → w7.ownsRow W1.heap.size 3 1 (.slice xo L xc) L (ints r) ∧ Below W1.heap.size W1 w7) ∧
          Hid (∀ zo zc w', RT zo zc w' → Calls Try.prog 30 #[.slice zo d zc, .slice po P.length pc] w' fun e w'' => ∃ xo xc, e = .returned (.tuple #[.slice xo L xc, .bool true]) ∧ w''.cell? ⟨w.heap.size + 1, 0, none⟩ = some rv ∧ XT xo xc w'') ∧
          Hid (Calls Try.prog 31 #[.slice po P.length pc, .slice vo c.length vc] W1.drew fun e w' => ∃ zo zc, e = .returned (.slice zo d zc) ∧ w'.cell? ⟨w.heap.size, 0, none⟩ = some (.slice po P.length pc) ∧ RT zo zc w') := by
        refine ⟨_, _, fun xo xc w7 h => h, fun zo zc w' h => h, HPK.out.mono ?_⟩
        rintro e w' ⟨zo, zc, h1, h2, h3⟩
        refine ⟨zo, zc, h1, h2, h3.mono ?_⟩
        rintro e w'' ⟨xo, xc, h4, h5, h6⟩
        exact ⟨xo, xc, h4, cell_of ((h6.block _ (by omega)).trans HRV.out), h5, h6⟩
      clear HPK
      have HOWN : Hid (∀ xo xc w7, XT xo xc w7 → w7.ownsRow (w.heap.size + 6) 22 1 rv (raL P pre).length rvs ∧ w.heap.size + 6 ≤ w7.heap.size) := fun xo xc w7 hx => by
        obtain ⟨_, hb⟩ := HXT.out xo xc w7 hx
        refine ⟨owns_below HFR.out.own hb (Nat.le_refl _), by have := hb.size; omega⟩
      have HFIN : Hid (∀ xo xc w7, XT xo xc w7 → ∀ v' w8, w8.ownsRow (w.heap.size + 6) 22 1 v' ((raL P pre).length + 1) (rvs ++ [.slice xo L xc]) → (w7.alloc (.cells #[.slice xo L xc] 22)).grownBy w8 rv.ownBlock → (v'.ownBlock = rv.ownBlock ∨ v'.ownBlock = some (w7.heap.size + 1)) →
          w8.cell? ⟨w.heap.size + 1, 0, none⟩ = some rv ∧ w8.frozen? ⟨w.heap.size + 1, 0, none⟩ = false ∧ Kpt (fun b => S b ∨ False) W1 (w8.setCell ⟨w.heap.size + 1, 0, none⟩ v') ∧ RaI w WN P S (pre ++ [c]) (w8.setCell ⟨w.heap.size + 1, 0, none⟩ v')) := fun xo xc w7 hx v' w8 ho hg hat => by
        obtain ⟨hxo, hb⟩ := HXT.out xo xc w7 hx
        have hbs := hb.size
        have hblk : ∀ b, b < W1.heap.size → (∀ g, rv.ownBlock = some g → b ≠ g) → w8.heap[b]? = W1.heap[b]? := fun b hb1 hne =>
          (hg.block b (by simp; omega) (fun e => hne b e.symm rfl)).trans ((Below.heap_alloc _ _ _ (by omega)).trans (hb.block b hb1))
        have hrn : ∀ g, rv.ownBlock = some g → w.heap.size + 1 ≠ g := fun g hg1 => by have := (HFR.out.own.lt g hg1).1; omega
        have h8 : w8.heap[w.heap.size + 1]? = some (.cells #[rv] 24 (0, 0)) := (hblk _ (by omega) hrn).trans HRV.out
        have hg7 := hg.size
        simp only [World.size_alloc] at hg7
        have hnew : ∀ b, W1.heap.size ≤ b → ¬ S b := fun b hb1 hs => by have := HSB.out b hs; omega
        refine ⟨cell_of h8, by simp [World.frozen?, h8], ⟨by simp [World.setCell]; omega, fun b hb1 hs => ?_⟩, ?_⟩
        · have hs' : S b := hs.elim id False.elim
          refine (Below.heap_setCell _ _ _ _ (by show b ≠ w.heap.size + 1; have := HSN.out b hs'; omega)).trans (hblk b hb1 (fun g hg1 e => ?_))
          subst e
          exact HFR.out.off _ hg1 hs'
        · have hI7 := HIS.out w7 hb
          have hFR7 : FrO S (w.heap.size + 6) (w7.alloc (.cells #[.slice xo L xc] 22)) rv (raL P pre) rvs := HFR.out.keep (fun b hb1 hn => (Below.heap_alloc _ _ _ (by omega)).trans (hb.block b hb1)) (fun b hb => .inl hb)
          have hpush := hFR7.push (u := .slice xo L xc) (zs := r) ((Sl.own hxo).alloc _) (fun hp => by
            rcases hxo.2 with ⟨h1, h2⟩ | ⟨g, cap, cur, h1, h2, h3, _⟩
            · have := HL.out; omega
            · simp only [Value.slice.injEq] at h1
              exact ⟨_, _, _, by rw [h1.1], hnew _ h2⟩) ho hg (fun g hg1 => by
            rcases hat with h | h
            · rw [h] at hg1; exact HFR.out.off g hg1
            · rw [h] at hg1
              simp only [Option.some.injEq] at hg1
              exact hnew g (by omega))
          have hset := hpush.set (b := w.heap.size + 1) (j := 0) (u := v') (by omega) h8 (by decide)
          obtain ⟨q1, q2, q3, q4, q5, _⟩ := hI7
          refine ⟨q1, q2.trans ⟨?_, fun b hb1 hlt => ?_⟩, ?_, ?_, ?_, v', rvs ++ [.slice xo L xc], ?_, by rw [HSN1.out]; exact hset⟩
          · simp [World.setCell]; omega
          · have hbW : b < W1.heap.size := by have := HSZ.out; omega
            refine (Below.heap_setCell _ _ _ _ (by show b ≠ w.heap.size + 1; omega)).trans ((hblk b hbW (fun g hg1 e => ?_)).trans (hb.block b hbW).symm)
            have := (HFR.out.own.lt g hg1).1
            omega
          · exact hg.os.trans q3
          · exact hg.tape.trans q4
          · exact hg.output.trans q5
          · exact set_one h8
      clear HXT HRV HFR HIS
      have hrl := HRL.out
      gi_wp2
      gi_region_with (first | (refine ⟨trivial, rfl, ?_⟩; gi_at_call 31; refine (CallsIn.inRound _ (callsIn_wide.2 HPK2.out)).mono ?_; rintro e w6 ⟨zo, zc, rfl, hc6, hrt6⟩) | (refine ⟨trivial, rfl, ?_⟩; gi_at_call 30; refine (CallsIn.inRound _ (callsIn_wide.2 (HRTC.out _ _ _ hrt6))).mono ?_; rintro e w7 ⟨xo, xc, rfl, hc7, hx7⟩))
      all_goals
        have HO := HOWN.out _ _ _ hx7
        have HFF : Hid _ := HFIN.out _ _ _ hx7
        have HOO : Hid (w7.ownsRow (w.heap.size + 6) 22 1 rv (raL P pre).length rvs) := HO.1
        have hsz7 := HO.2
        clear HO HFIN HOWN hx7 HRTC HPK2
        gi_wp2_with (first | (gi_at_builtin; refine wpListIn_append_own_at _ rfl _ _ 24 rfl (w.heap.size + 6) 22 i0 (.slice none 0 0) 1 24 Try.underlying24 hi0 hz0 hz1 hz2 rfl (by decide) _ _ _ rfl (HOO.out.alloc _) ⟨w7.heap.size, 0, none⟩ 1 1 [.slice xo L xc] rfl rfl (one_new _ _ _) (one_slice _ _ _) ?d3 ?d4 ?d5 ?_))
        case d3 => unfold maxLen; omega
        case d4 => omega
        case d5 => simp; omega
        intro v' w8 ho hg _ hat
        obtain ⟨vo8, vc8, hv8⟩ := owns_form ho
        subst hv8
        obtain ⟨hc8, hf8, hk8, hi8⟩ := HFF.out _ w8 ho hg hat
        have HK8 : Hid _ := hk8
        have HI8 : Hid _ := hi8
        clear ho hg hat HFF hk8 hi8
        gi_wp2
        exact ⟨HK8.out, HI8.out⟩
  case done =>
    rintro S W' hi hSD hdf
    have hsz := HSZ.out
    have hws := hi.kp.size
    obtain ⟨rv, rvs, hrv, hfr⟩ := hi.rv
    have hrows : raL P (ext P.length d 0) = rowsC P [] d P := rows_ext P d
    rw [hrows] at hfr
    have HLEN : Hid ((rowsC P [] d P).length ≤ 1000000) := by
      refine Nat.le_trans (rowsC_len _ _ _ _) (Nat.le_trans (chs_len _ _) ?_)
      exact Nat.le_trans (Nat.pow_le_pow_left (show P.length + 1 ≤ 25 by omega) d) (Nat.le_trans (Nat.pow_le_pow_right (by decide) h4) (by decide))
    have HIO : Hid (Calls Try.prog 32 #[rv] W' fun e w' => ∃ u m', e = .returned u ∧ Fr (w.heap.size + 6) 22 3 w' u m' ∧ Inor m' (rowsC P [] d P) ∧ Below (w.heap.size + 6) W' w') := inOrder_any (w.heap.size + 6) (rowsC P [] d P) rv W' hfr.fr HLEN.out
    have k0 : W'.cell? ⟨w.heap.size + 1, 0, none⟩ = some rv := cell_of hrv
    have HI : Hid (RaI w WN P S (ext P.length d 0) W') := hi
    have HDF : Hid (W'.heap[WN.heap.size]? = some (.deferred (some []))) := hdf
    obtain ⟨ro, rc, hrf⟩ := owns_form hfr.own
    subst hrf
    clear hi hdf hrv hfr HSQ hrows hsN hsz hws
    gi_wp2_with (refine ⟨trivial, rfl, ?_⟩; gi_at_call 32; refine (callsIn_wide.2 HIO.out).mono ?_; rintro e w4 ⟨u, m', rfl, hf4, hin4, hb4⟩; obtain ⟨xo, xc, hxx, _, _⟩ := fr_open hf4; subst hxx)
    have hsz := HSZ.out
    have hws := HI.out.kp.size
    have hlow : ∀ b, b < w.heap.size → W'.heap[b]? = w.heap[b]? := fun b hb => (HI.out.kp.block b (by omega) (by omega)).trans (HBN.out.block b hb)
    refine leaves_mks [WN.heap.size] w4 (by simp) (fun r hr => ?_) (fun w' hc => ⟨.slice xo m'.length xc, ?_, ?_⟩)
    · simp only [List.mem_singleton] at hr
      subst hr
      exact (hb4.block _ (by omega)).trans HDF.out
    · simp [results, Try.results15, go_sem]
    · have hb4s := hb4.size
      refine ⟨_, m', rfl, ?_, hin4, hc.os.trans (hb4.os.trans HI.out.os), hc.tape.trans (hb4.tape.trans HI.out.tape), hc.output.trans (hb4.output.trans HI.out.output), by have := hc.size; omega, fun b hb => ?_⟩
      · obtain ⟨vs, f1, f2, f3⟩ := hf4
        have hD : w4.heap[WN.heap.size]? = some (.deferred (some [])) := (hb4.block _ (by omega)).trans HDF.out
        refine ⟨vs, f1, ⟨f2.1, ?_⟩, fun i hi => (f3 i hi).move fun b hl ht => ⟨hc.block b hl (fun e => ?_), ht⟩⟩
        · rcases f2.2 with h2 | ⟨g, cap, cur, h5, hbb, hh, r⟩
          · exact Or.inl h2
          · refine Or.inr ⟨g, cap, cur, h5, by omega, (hc.block g (lt_of_block hh) (fun e => ?_)).trans hh, r⟩
            simp only [List.mem_singleton] at e
            omega
        · simp only [List.mem_singleton] at e
          subst e
          rcases ht with ht | ⟨c, ht⟩
          · omega
          · rw [hD] at ht; cases ht
      · exact (hc.block b (by omega) (by simp; omega)).trans ((hb4.block b (by omega)).trans (hlow b hb))
end Go.Proofs.Ytgjlnhfjgkljdaa
