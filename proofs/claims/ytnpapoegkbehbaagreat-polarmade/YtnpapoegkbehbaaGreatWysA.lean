import Derived.Test.YtnpapoegkbehbaaGreatOfAll
import Derived.Test.YtnpapoegkbehbaaGreatWiA
import Derived.Test.YtnpapoegkbehbaaGreatStepsAll
import Derived.Lib.JoinLaws
import Derived.Test.YtnpapoegkbehbaaGreatWyY
import Derived.Test.YtnpapoegkbehbaaGreatRowA
/- choose.Picked over rows, with a capacity. -/
namespace Go.Proofs.YtnpapoegkbehbaaGreat
open Go.RowKit

theorem pkd_snoc (P : List (List Int)) (x : List Int) (k : Nat) (h : k < x.length) : pks P [] (x.take (k + 1)) = pks P [] (x.take k) ++ [P.getD (x.getD k 0).toNat []] := by
  rw [take_snoc_int x k h]
  simp [pks]

set_option maxRecDepth 100000 in
set_option maxHeartbeats 800000 in
theorem pickedK_any (B : Nat) (P : List (List Int)) (x : List Int) (v u : Value) (w : World) (hv : Mat B 22 3 w v P) (hu : Sl B 3 w u (ints x)) (hx : ∀ i, i < x.length → 0 ≤ x.getD i 0 ∧ x.getD i 0 < P.length) (hl : x.length ≤ 1000) :
    Calls Tryz.prog 62 #[v, u] w fun e w' => ∃ z, e = .returned z ∧ Rws w.heap.size 22 3 w' z (pks P [] x) ∧ Below w.heap.size w w' := by
  obtain ⟨i0, hi, hz0, hz1, hz2⟩ := info_parts Tryz.info22
  obtain ⟨ao, cap, hvv, hlc, hcm⟩ := mat_open hv
  obtain ⟨bo, cbp, huu, hlb, hcb⟩ := sl_open hu
  subst hvv huu
  have HV : Hid (Mat w.heap.size 22 3 w (.slice ao P.length cap) P) := hv.any (Nat.le_refl _)
  have HU : Hid (Sl B 3 w (.slice bo x.length cbp) (ints x)) := hu
  have HX : Hid (∀ i, i < x.length → 0 ≤ x.getD i 0 ∧ x.getD i 0 < P.length) := hx
  clear hv hu hx
  have hmk := run_make_room (P := Tryz.prog) 24 22 (.slice none 0 0) 24 Tryz.underlying24 Tryz.info22 rfl .i64 .i64 x.length (by omega) (by omega)
  have HO0 : Hid (Rws w.heap.size 22 3 (w.alloc (.cells (madeCells #[.slice none 0 0] x.length) 22)) (.slice (some ⟨w.heap.size, 0, none⟩) 0 x.length) []) :=
    ⟨[], rfl, World.ownsRow_made w _ x.length (Nat.le_refl _) (by unfold maxLen; omega) (by rw [size_madeCells]; omega), fun i hi => absurd hi (by simp)⟩
  have HB0 : Hid (Below w.heap.size w (w.alloc (.cells (madeCells #[.slice none 0 0] x.length) 22))) := alloc_keep _ _
  go_enter Tryz.func62, Tryz.ntmps62
  go_wp2
  go_loopw [5, 13, 7] (fun s i _ wr => ∃ k : Nat, k ≤ x.length ∧ i = .int .i64 k ∧ Rws w.heap.size 22 3 wr s (pks P [] (x.take k)) ∧ Below w.heap.size w wr) (fun _ i _ _ => x.length - (intOf i).toNat)
  case atStart => exact ⟨0, Nat.zero_le _, rfl, HO0.out, HB0.out⟩
  case round =>
    obtain ⟨k, hk, rfl, hr, hb⟩ := hrel
    have HR : Hid (Rws w.heap.size 22 3 wr u5 (pks P [] (x.take k))) := hr
    have HB : Hid (Below w.heap.size w wr) := hb
    have hsz : w.heap.size ≤ wr.heap.size := hb.size
    clear hr hb
    by_cases hlt : k < x.length
    · obtain ⟨b, o, cp, hs, hc1, hcc⟩ := sl_cell (HU.out.below HB.out (Nat.le_refl _)) hlt
      simp only [Value.slice.injEq] at hs
      obtain ⟨rfl, _, rfl⟩ := hs
      obtain ⟨hx0, hx1⟩ := HX.out k hlt
      have HSN : Hid (pks P [] (x.take (k + 1)) = pks P [] (x.take k) ++ [P.getD (x.getD k 0).toNat []]) := pkd_snoc P x k hlt
      have HLN : Hid ((pks P [] (x.take k)).length = k) := by show _ = _; simp [pks]; omega
      obtain ⟨q, hq⟩ : ∃ q : Nat, x.getD k 0 = (q : Int) := ⟨(x.getD k 0).toNat, by omega⟩
      rw [hq] at hcc hx0 hx1 HSN
      rw [show ((q : Int)).toNat = q by omega] at HSN
      clear hq
      have hqP : q < P.length := by omega
      obtain ⟨b2, o2, cp2, r2, hs2, _, hcc2, hr2⟩ := mat_cell (HV.out.below HB.out (Nat.le_refl _)) hqP
      simp only [Value.slice.injEq, true_and] at hs2
      obtain ⟨rfl, rfl⟩ := hs2
      obtain ⟨ro, rc, hrv, _, _⟩ := sl_open hr2
      subst hrv
      have HR2 : Hid (Sl w.heap.size 3 wr (.slice ro (P.getD q []).length rc) (ints (P.getD q []))) := hr2
      clear hr2
      generalize P.getD q [] = y at *
      generalize hyl : y.length = yl at *
      clear hyl
      obtain ⟨vs, g1, g2, g3⟩ := HR.out
      have hlen := HLN.out
      rw [hlen] at g1 g2 g3
      have G1 : Hid (vs.length = k) := g1
      have G2 : Hid (wr.ownsRow w.heap.size 22 1 u5 k vs) := g2
      have G3 : Hid (∀ i, i < k → Sl w.heap.size 3 wr (vs.getD i (.slice none 0 0)) (ints ((pks P [] (x.take k)).getD i []))) := g3
      clear g1 g2 g3 hlen
      go_wp2_with (first | (at_builtin; refine wpList_append_own _ rfl _ _ 24 rfl w.heap.size 22 i0 (.slice none 0 0) 1 24 Tryz.underlying24 hi hz0 hz1 hz2 rfl (by decide) _ _ _ rfl (G2.out.alloc _) ⟨wr.heap.size, 0, none⟩ 1 1 [.slice ro yl rc] rfl rfl (one_new _ _ _) (one_slice _ _ _) ?d3 ?d4 ?d5 ?_))
      case d3 => unfold maxLen; omega
      case d4 => omega
      case d5 => simp; omega
      intro v' w3 ho hg _
      have R1 : Hid (Rws w.heap.size 22 3 w3 v' (pks P [] (x.take (k + 1)))) := by
        have hp := Rws.push (e2 := 22) (e1 := 3) (m := pks P [] (x.take k)) (u := .slice ro yl rc) (zs := y) (by decide) (by rw [HLN.out]; exact G1.out) (by rw [HLN.out]; exact G2.out.alloc _)
          (fun i hi => (G3.out i (by rw [HLN.out] at hi; exact hi)).alloc _) (HR2.out.alloc _) (by rw [HLN.out]; exact ho) hg
        rw [← HSN.out] at hp
        exact hp
      have R2 : Hid (Below w.heap.size w w3) := (HB.out.alloc hsz _).grown hg (by simp; omega) (fun x hx => (G2.out.lt x hx).1)
      clear ho hg
      go_wp2
      go_roundw
      case rel => exact ⟨k + 1, by omega, by go_num, R1.out, R2.out⟩
      case measure => simp [intOf]; omega
    · have hke : x.take k = x := List.take_of_length_le (by omega)
      have HR' : Hid (Rws w.heap.size 22 3 wr u5 (pks P [] x)) := by have := HR.out; rw [hke] at this; exact this
      clear HR
      go_wp2
      go_ret
      exact ⟨_, rfl, HR'.out, HB.out⟩
end Go.Proofs.YtnpapoegkbehbaaGreat

/- cone.acrossOf. -/
namespace Go.Proofs.YtnpapoegkbehbaaGreat
open Go.RowKit
attribute [local go_sem ↓] Go.wp_at_zero Go.wp_at_succ

theorem acr_snoc {rs : List (List Int)} {t : Nat} (h : t < rs.length) (i : Nat) :
    (rs.take (t + 1)).map (fun r => r.getD i 0) = (rs.take t).map (fun r => r.getD i 0) ++ [(rs.getD t []).getD i 0] := by
  rw [List.take_succ_eq_append_getElem h, List.map_append, List.getD_eq_getElem?_getD (l := rs), List.getElem?_eq_getElem h]
  rfl

theorem acrL_at {g : List Int} {rs : List (List Int)} {k : Nat} (h : k < g.length) : (acrL g rs).getD k [] = acrR rs g k := by simp [acrL, h]

end Go.Proofs.YtnpapoegkbehbaaGreat

/- cone.wayBy, walked. -/
namespace Go.Proofs.YtnpapoegkbehbaaGreat
open Go.RowKit
attribute [local go_sem ↓] Go.wp_at_zero Go.wp_at_succ

def isC (w : World) (b : Nat) : Prop := ∃ cur t, w.heap[b]? = some (.cells cur t (0, 0))

theorem isC.lt {w : World} {b : Nat} (h : isC w b) : b < w.heap.size := by
  obtain ⟨c, t, h⟩ := h
  exact (Array.getElem?_eq_some_iff.1 h).1

theorem isC.keep {w w' : World} {b : Nat} (h : isC w b) (hk : w'.heap[b]? = w.heap[b]?) : isC w' b := by
  obtain ⟨c, t, h⟩ := h
  exact ⟨c, t, hk.trans h⟩

/-- What a way is told as. -/
def WayV (N : Nat) (w : World) (tv u : Value) (c g : List Int) (rs : List (List Int)) : Prop :=
  (wayB g rs = true ∧ ∃ mo mc, tv = .agg #[u, .slice mo c.length mc, .int .i64 ((wayN g rs).getD c.length 0)] ∧ Sl 0 3 w (.slice mo c.length mc) (ints ((wayN g rs).take c.length)) ∧ ∀ a, mo = some a → N ≤ a.block ∧ isC w a.block) ∨
  (wayB g rs = false ∧ tv = .agg #[.slice none 0 0, .slice none 0 0, .int .i64 0])

theorem set3_block {w : World} {R k : Nat} (a b c : Value) (h : k ≠ R) : (((w.setCell ⟨R, 0, none⟩ a).setCell ⟨R, 1, none⟩ b).setCell ⟨R, 2, none⟩ c).drew.heap[k]? = w.heap[k]? := by
  show (((w.setCell ⟨R, 0, none⟩ a).setCell ⟨R, 1, none⟩ b).setCell ⟨R, 2, none⟩ c).heap[k]? = w.heap[k]?
  rw [Below.heap_setCell _ _ _ _ h, Below.heap_setCell _ _ _ _ h, Below.heap_setCell _ _ _ _ h]

end Go.Proofs.YtnpapoegkbehbaaGreat

/- cone.Ways: all ways, one after another. -/
namespace Go.Proofs.YtnpapoegkbehbaaGreat
open Go.RowKit Go.Shelf
attribute [local go_sem] Oper.semAt_some

def waysTo (rows : List (List Int)) (g : List Int) (k : Nat) : List (List Int) :=
  (List.range k).flatMap fun m => (ext rows.length m 0).filter fun c => wayB g (pks rows [] c)

/-- The numbers of rows by which there is a way, in order. -/
def waysL (rows : List (List Int)) (g : List Int) : List (List Int) := waysTo rows g (min g.length rows.length + 1)

theorem waysTo_succ (rows : List (List Int)) (g : List Int) (k : Nat) : waysTo rows g (k + 1) = waysTo rows g k ++ (ext rows.length k 0).filter fun c => wayB g (pks rows [] c) := by
  simp [waysTo, List.range_succ]

theorem waysTo_pre (rows : List (List Int)) (g : List Int) {k m : Nat} (h : k ≤ m) : waysTo rows g k <+: waysTo rows g m := by
  induction m with
  | zero => have : k = 0 := by omega
            subst this; exact List.prefix_refl _
  | succ m ih =>
    by_cases e : k = m + 1
    · subst e; exact List.prefix_refl _
    · exact (ih (by omega)).trans (by rw [waysTo_succ]; exact List.prefix_append _ _)

theorem filter_pre {α : Type} {p : α → Bool} {a b : List α} (h : a <+: b) : a.filter p <+: b.filter p := by
  obtain ⟨t, rfl⟩ := h
  rw [List.filter_append]
  exact List.prefix_append _ _

/-- A way, handed over. -/
def HandW (rows : List (List Int)) (g : List Int) (W : World) (S : Nat → Prop) (c : List Int) (vs : Array Value) : Prop :=
  ∃ co cc mo mc, vs = #[.agg #[.slice co c.length cc, .slice mo c.length mc, .int .i64 ((wayN g (pks rows [] c)).getD c.length 0)]] ∧ wayB g (pks rows [] c) = true ∧ Sl 0 3 W (.slice co c.length cc) (ints c) ∧ Sl 0 3 W (.slice mo c.length mc) (ints ((wayN g (pks rows [] c)).take c.length)) ∧
    (∀ a, co = some a → ¬ S a.block ∧ isC W a.block) ∧ (∀ a, mo = some a → ¬ S a.block ∧ isC W a.block) ∧ ∀ b, S b → b < W.heap.size

/-- What holds when the choices of fewer than k have been gone through. -/
structure WyK (rows : List (List Int)) (g : List Int) (T : Nat → Prop) (gb rb D0 : Nat) (W0 : World) (J : (Nat → Prop) → List (List Int) → World → Prop) (k : Nat) (rs : List Nat) (wr : World) : Prop where
  nd : rs.Nodup
  mark : ∀ r ∈ rs, wr.heap[r]? = some (.deferred (some []))
  kp : Kpt (fun b => b = gb ∨ b = rb ∨ b = D0 ∨ T b) W0 wr
  j : J (fun b => b = gb ∨ b = rb ∨ b = D0 ∨ b ∈ rs) (waysTo rows g k) wr

/-- .. and, of those of k, some (in world WN the walk over them began). -/
structure WyI (rows : List (List Int)) (g : List Int) (T : Nat → Prop) (gb rb D0 : Nat) (WN : World) (J : (Nat → Prop) → List (List Int) → World → Prop) (rs : List Nat) (N : Nat) (S : Nat → Prop) (q : List (List Int)) (W : World) : Prop where
  sn : ∀ b, S b → N ≤ b
  kp : Kpt (fun b => b < N ∧ (b = gb ∨ b = rb ∨ b = D0 ∨ T b ∨ b ∈ rs)) WN W
  j : J (fun b => S b ∨ b = gb ∨ b = rb ∨ b = D0 ∨ b ∈ rs) q W
  sz : N ≤ W.heap.size

theorem WyI.stab {rows : List (List Int)} {g : List Int} {T : Nat → Prop} {gb rb D0 : Nat} {WN : World} {J : (Nat → Prop) → List (List Int) → World → Prop} {rs : List Nat} {N : Nat} {S S' : Nat → Prop} {q : List (List Int)} {W W' : World} (hst : Stab J)
    (h : WyI rows g T gb rb D0 WN J rs N S q W) (hc : Chg S W W') (hs : ∀ b, S' b → S b ∨ W.heap.size ≤ b) : WyI rows g T gb rb D0 WN J rs N S' q W' := by
  have h0 := h.sz
  refine ⟨fun b hb => ?_, h.kp.trans (Kpt.of_chg hc fun i _ hi hsi => ?_), hst _ _ q W W' h.j (hc.mono fun i _ hi => .inl hi) (fun b hb => ?_), Nat.le_trans h0 hc.size⟩
  · rcases hs b hb with h1 | h1
    · exact h.sn b h1
    · omega
  · have := h.sn i hsi
    have := hi.1
    omega
  · rcases hb with hb | hb
    · rcases hs b hb with h1 | h1
      · exact .inl (.inl h1)
      · exact .inr h1
    · exact .inl (.inr hb)

theorem hand_below (N0 : Nat) (W : World) (S : Nat → Prop) (x : List Int) (vs : Array Value) (W' : World) (h : Hand N0 W S x vs) (hb : Below W.heap.size W W') : Hand N0 W' S x vs := by
  obtain ⟨v, B0, h1, h2, h3, h4, h5⟩ := h
  exact ⟨v, B0, h1, owns_below h2 hb (Nat.le_refl _), h3, h4, Nat.le_trans h5 hb.size⟩

theorem hand_put (N0 : Nat) (W : World) (S : Nat → Prop) (x : List Int) (vs : Array Value) (l : Nat) (r : Loop) (o : Obj) (h : Hand N0 W S x vs) (hl : W.heap[l]? = some (.loop r)) : Hand N0 (W.putObj l o) S x vs := by
  obtain ⟨v, B0, h1, h2, h3, h4, h5⟩ := h
  exact ⟨v, B0, h1, ownsRow_putObj h2 _ hl rfl, h3, h4, by simpa using h5⟩

/-- A row of one's own does not lie where there are no cells. -/
theorem own_off {W : World} {B0 n : Nat} {vo : Option Addr} {vc b : Nat} {xs : List Value} {o : Obj} (h : W.ownsRow B0 3 1 (.slice vo n vc) n xs) (hb : W.heap[b]? = some o) (ho : o.isCells = false) : ∀ a, vo = some a → B0 ≤ a.block ∧ a.block ≠ b ∧ isC W a.block := by
  intro a ha
  rcases h.2 with ⟨h1, _⟩ | ⟨g', cap', cur', h1, h2, h3, _⟩
  · simp only [Value.slice.injEq] at h1; rw [h1.1] at ha; cases ha
  · simp only [Value.slice.injEq] at h1
    rw [h1.1] at ha
    cases ha
    refine ⟨h2, fun e => ?_, _, _, h3⟩
    rw [← e, h3] at hb
    cases hb
    simp [Obj.isCells] at ho

end Go.Proofs.YtnpapoegkbehbaaGreat

/- cone.Refuted: the first way, if there is one. -/
namespace Go.Proofs.YtnpapoegkbehbaaGreat
open Go.RowKit Go.Shelf
attribute [local go_sem] Oper.semAt_some

theorem sl_keep {B : Nat} {e : TypeId} {w W : World} {v : Value} {xs : List Value} (h : Sl B e w v xs) (hk : ∀ b, b < w.heap.size → W.heap[b]? = w.heap[b]?) : Sl B e W v xs :=
  h.move fun b hl ht => ⟨hk b hl, ht⟩

theorem mat_keep {B : Nat} {w W : World} {v : Value} {m : List (List Int)} (h : Mat B 22 3 w v m) (hk : ∀ b, b < w.heap.size → W.heap[b]? = w.heap[b]?) : Mat B 22 3 W v m := by
  obtain ⟨vs, h1, h2, h3⟩ := h
  exact ⟨vs, h1, sl_keep h2 hk, fun i hi => sl_keep (h3 i hi) hk⟩

/-- 0 everywhere, and -1 last. -/
def refG (d : Nat) : List Int := (List.range (d + 1)).map fun j => if j = d then -1 else 0

theorem refG_len (d : Nat) : (refG d).length = d + 1 := by simp [refG]

/-- What is told where rows are refuted. -/
def RefV (rows : List (List Int)) (d : Nat) (w : World) (tv : Value) : Prop :=
  (waysL rows (refG d) = [] ∧ tv = .agg #[.slice none 0 0, .slice none 0 0, .int .i64 0]) ∨
  ∃ c l co cc po pc, waysL rows (refG d) = c :: l ∧ tv = .agg #[.slice co c.length cc, .slice po c.length pc, .int .i64 1] ∧ Sl 0 3 w (.slice co c.length cc) (ints c) ∧ Sl 0 3 w (.slice po c.length pc) (ints (Lin.low ((wayN (refG d) (pks rows [] c)).take c.length)))

/-- Only where the slice lies must be as it was. -/
theorem sl_at_keep {e : TypeId} {w W : World} {ao : Option Addr} {n c : Nat} {xs : List Value} (h : Sl 0 e w (.slice ao n c) xs) (hk : ∀ a, ao = some a → a.block < w.heap.size → W.heap[a.block]? = w.heap[a.block]?) : Sl 0 e W (.slice ao n c) xs := by
  obtain ⟨ao', cap, hv, h1, h2, h3, h4⟩ := h
  simp only [Value.slice.injEq] at hv
  obtain ⟨rfl, hn, rfl⟩ := hv
  refine ⟨ao, c, by rw [hn], h1, h2, fun i hi => ?_, h4⟩
  obtain ⟨b, o, ha, hc, ht⟩ := h3 i hi
  have hx : xs[i]? = some xs[i] := List.getElem?_eq_getElem hi
  have hb := lt_of_cell (hc.trans hx)
  have k1 := hk _ ha hb
  refine ⟨b, o, ha, (World.cell?_of_block (w := w) (a := ⟨b, o + i, none⟩) k1).trans hc, ?_⟩
  rcases ht with ht | ⟨cur, ht⟩
  · omega
  · exact .inr ⟨cur, k1.trans ht⟩

theorem fiveB (w : World) (o1 o2 o3 o4 o5 : Obj) :
    ∃ W, W = ((((w.alloc o1).alloc o2).alloc o3).alloc o4).alloc o5 ∧ W.heap[w.heap.size]? = some o1 ∧ W.heap[w.heap.size + 1]? = some o2 ∧ W.heap[w.heap.size + 1 + 1]? = some o3 ∧ W.heap[w.heap.size + 1 + 1 + 1]? = some o4 ∧ W.heap[w.heap.size + 1 + 1 + 1 + 1]? = some o5 ∧ W.heap.size = w.heap.size + 5 ∧ Below w.heap.size w W := by
  obtain ⟨W, hW, e1, e2, e3, e4, hs, hb⟩ := fourB w o1 o2 o3 o4
  have hk := alloc_keep W o5
  refine ⟨W.alloc o5, by rw [hW], (hk.block _ (by omega)).trans e1, (hk.block _ (by omega)).trans e2, (hk.block _ (by omega)).trans e3, (hk.block _ (by omega)).trans e4, ?_, by rw [size_alloc]; omega, hb.trans (hk.mono (by omega))⟩
  rw [show w.heap.size + 1 + 1 + 1 + 1 = W.heap.size by omega]; exact alloc_new _ _

/-- Between the rounds: nothing has been told yet. -/
structure RfI (w WN : World) (S : Nat → Prop) (W : World) : Prop where
  sn : ∀ b, S b → w.heap.size + 3 ≤ b
  kp : Kpt (fun b => b < w.heap.size + 3) WN W
  os : W.os = w.os
  tape : W.tape = w.tape
  output : W.output = w.output

theorem RfI.stab {w WN W W' : World} {S S' : Nat → Prop} (h : RfI w WN S W) (hN : w.heap.size + 3 ≤ WN.heap.size) (hc : Chg S W W') (hs : ∀ b, S' b → S b ∨ W.heap.size ≤ b) : RfI w WN S' W' := by
  have h0 := h.kp.size
  refine ⟨fun b hb => ?_, h.kp.trans (Kpt.of_chg hc fun i _ hi hsi => ?_), hc.os.trans h.os, hc.tape.trans h.tape, hc.output.trans h.output⟩
  · rcases hs b hb with h1 | h1
    · exact h.sn b h1
    · omega
  · have := h.sn i hsi
    omega

theorem handW_below (rows : List (List Int)) (g : List Int) (W : World) (S : Nat → Prop) (x : List Int) (vs : Array Value) (W' : World) (h : HandW rows g W S x vs) (hb : Below W.heap.size W W') : HandW rows g W' S x vs := by
  obtain ⟨co, cc, mo, mc, h1, h2, h3, h4, h5, h6, h7⟩ := h
  exact ⟨co, cc, mo, mc, h1, h2, h3.below hb (Nat.le_refl _), h4.below hb (Nat.le_refl _), fun a ha => ⟨(h5 a ha).1, (h5 a ha).2.keep (hb.block _ (h5 a ha).2.lt)⟩, fun a ha => ⟨(h6 a ha).1, (h6 a ha).2.keep (hb.block _ (h6 a ha).2.lt)⟩, fun b hb' => Nat.lt_of_lt_of_le (h7 b hb') hb.size⟩

theorem sl_put {W : World} {v : Value} {xs : List Value} {l : Nat} {r : Loop} (o : Obj) (h : Sl 0 3 W v xs) (hl : W.heap[l]? = some (.loop r)) : Sl 0 3 (W.putObj l o) v xs :=
  h.move fun b hb ht => ⟨World.putObj_heap_other (fun e => by
    subst e
    rcases ht with ht | ⟨c, ht⟩
    · omega
    · rw [hl] at ht; cases ht), ht⟩

theorem handW_put (rows : List (List Int)) (g : List Int) (W : World) (S : Nat → Prop) (x : List Int) (vs : Array Value) (l : Nat) (r : Loop) (o : Obj) (h : HandW rows g W S x vs) (hl : W.heap[l]? = some (.loop r)) : HandW rows g (W.putObj l o) S x vs := by
  obtain ⟨co, cc, mo, mc, h1, h2, h3, h4, h5, h6, h7⟩ := h
  have hp : ∀ b, isC W b → isC (W.putObj l o) b := fun b hb => hb.keep (World.putObj_heap_other (fun e => by
    subst e
    obtain ⟨c, t, hb⟩ := hb
    rw [hl] at hb; cases hb))
  exact ⟨co, cc, mo, mc, h1, h2, sl_put o h3 hl, sl_put o h4 hl, fun a ha => ⟨(h5 a ha).1, hp _ (h5 a ha).2⟩, fun a ha => ⟨(h6 a ha).1, hp _ (h6 a ha).2⟩, fun b hb => by simpa using h7 b hb⟩

end Go.Proofs.YtnpapoegkbehbaaGreat
