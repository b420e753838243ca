/- cone.Refuted: the first way, if there is one. -/
import Derived.Test.YtkfdpcgmpbopnaaGreatDoorWys1
import Derived.Test.YtkfdpcgmpbopnaaGreatDoorRow3
namespace Go.Proofs.YtkfdpcgmpbopnaaGreatDoor
open Go.RowKit Go.Shelf
attribute [local go_sem] Oper.semAt_some

theorem sl_keep {B : Nat} {e : TypeId} {w W : World} {v : Value} {xs : List Value} (h : Sl B e w v xs) (hk : ∀ b, b < w.heap.size → W.heap[b]? = w.heap[b]?) : Sl B e W v xs :=
  h.move fun b hl ht => ⟨hk b hl, ht⟩

theorem mat_keep {B : Nat} {w W : World} {v : Value} {m : List (List Int)} (h : Mat B 22 3 w v m) (hk : ∀ b, b < w.heap.size → W.heap[b]? = w.heap[b]?) : Mat B 22 3 W v m := by
  obtain ⟨vs, h1, h2, h3⟩ := h
  exact ⟨vs, h1, sl_keep h2 hk, fun i hi => sl_keep (h3 i hi) hk⟩

/-- 0 everywhere, and -1 last. -/
def refG (d : Nat) : List Int := (List.range (d + 1)).map fun j => if j = d then -1 else 0

theorem refG_len (d : Nat) : (refG d).length = d + 1 := by simp [refG]

/-- What is told where rows are refuted. -/
def RefV (rows : List (List Int)) (d : Nat) (w : World) (tv : Value) : Prop :=
  (waysL rows (refG d) = [] ∧ tv = .agg #[.slice none 0 0, .slice none 0 0, .int .i64 0]) ∨
  ∃ c l co cc po pc, waysL rows (refG d) = c :: l ∧ tv = .agg #[.slice co c.length cc, .slice po c.length pc, .int .i64 1] ∧ Sl 0 3 w (.slice co c.length cc) (ints c) ∧ Sl 0 3 w (.slice po c.length pc) (ints (Lin.low ((wayN (refG d) (pks rows [] c)).take c.length)))

/-- Only where the slice lies must be as it was. -/
theorem sl_at_keep {e : TypeId} {w W : World} {ao : Option Addr} {n c : Nat} {xs : List Value} (h : Sl 0 e w (.slice ao n c) xs) (hk : ∀ a, ao = some a → a.block < w.heap.size → W.heap[a.block]? = w.heap[a.block]?) : Sl 0 e W (.slice ao n c) xs := by
  obtain ⟨ao', cap, hv, h1, h2, h3, h4⟩ := h
  simp only [Value.slice.injEq] at hv
  obtain ⟨rfl, hn, rfl⟩ := hv
  refine ⟨ao, c, by rw [hn], h1, h2, fun i hi => ?_, h4⟩
  obtain ⟨b, o, ha, hc, ht⟩ := h3 i hi
  have hx : xs[i]? = some xs[i] := List.getElem?_eq_getElem hi
  have hb := lt_of_cell (hc.trans hx)
  have k1 := hk _ ha hb
  refine ⟨b, o, ha, (World.cell?_of_block (w := w) (a := ⟨b, o + i, none⟩) k1).trans hc, ?_⟩
  rcases ht with ht | ⟨cur, ht⟩
  · omega
  · exact .inr ⟨cur, k1.trans ht⟩

theorem fiveB (w : World) (o1 o2 o3 o4 o5 : Obj) :
    ∃ W, W = ((((w.alloc o1).alloc o2).alloc o3).alloc o4).alloc o5 ∧ W.heap[w.heap.size]? = some o1 ∧ W.heap[w.heap.size + 1]? = some o2 ∧ W.heap[w.heap.size + 1 + 1]? = some o3 ∧ W.heap[w.heap.size + 1 + 1 + 1]? = some o4 ∧ W.heap[w.heap.size + 1 + 1 + 1 + 1]? = some o5 ∧ W.heap.size = w.heap.size + 5 ∧ Below w.heap.size w W := by
  obtain ⟨W, hW, e1, e2, e3, e4, hs, hb⟩ := fourB w o1 o2 o3 o4
  have hk := alloc_keep W o5
  refine ⟨W.alloc o5, by rw [hW], (hk.block _ (by omega)).trans e1, (hk.block _ (by omega)).trans e2, (hk.block _ (by omega)).trans e3, (hk.block _ (by omega)).trans e4, ?_, by rw [size_alloc]; omega, hb.trans (hk.mono (by omega))⟩
  rw [show w.heap.size + 1 + 1 + 1 + 1 = W.heap.size by omega]; exact alloc_new _ _

/-- Between the rounds: nothing has been told yet. -/
structure RfI (w WN : World) (S : Nat → Prop) (W : World) : Prop where
  sn : ∀ b, S b → w.heap.size + 3 ≤ b
  kp : Kpt (fun b => b < w.heap.size + 3) WN W
  os : W.os = w.os
  tape : W.tape = w.tape
  output : W.output = w.output

theorem RfI.stab {w WN W W' : World} {S S' : Nat → Prop} (h : RfI w WN S W) (hN : w.heap.size + 3 ≤ WN.heap.size) (hc : Chg S W W') (hs : ∀ b, S' b → S b ∨ W.heap.size ≤ b) : RfI w WN S' W' := by
  have h0 := h.kp.size
  refine ⟨fun b hb => ?_, h.kp.trans (Kpt.of_chg hc fun i _ hi hsi => ?_), hc.os.trans h.os, hc.tape.trans h.tape, hc.output.trans h.output⟩
  · rcases hs b hb with h1 | h1
    · exact h.sn b h1
    · omega
  · have := h.sn i hsi
    omega

theorem handW_below (rows : List (List Int)) (g : List Int) (W : World) (S : Nat → Prop) (x : List Int) (vs : Array Value) (W' : World) (h : HandW rows g W S x vs) (hb : Below W.heap.size W W') : HandW rows g W' S x vs := by
  obtain ⟨co, cc, mo, mc, h1, h2, h3, h4, h5, h6, h7⟩ := h
  exact ⟨co, cc, mo, mc, h1, h2, h3.below hb (Nat.le_refl _), h4.below hb (Nat.le_refl _), fun a ha => ⟨(h5 a ha).1, (h5 a ha).2.keep (hb.block _ (h5 a ha).2.lt)⟩, fun a ha => ⟨(h6 a ha).1, (h6 a ha).2.keep (hb.block _ (h6 a ha).2.lt)⟩, fun b hb' => Nat.lt_of_lt_of_le (h7 b hb') hb.size⟩

theorem sl_put {W : World} {v : Value} {xs : List Value} {l : Nat} {r : Loop} (o : Obj) (h : Sl 0 3 W v xs) (hl : W.heap[l]? = some (.loop r)) : Sl 0 3 (W.putObj l o) v xs :=
  h.move fun b hb ht => ⟨World.putObj_heap_other (fun e => by
    subst e
    rcases ht with ht | ⟨c, ht⟩
    · omega
    · rw [hl] at ht; cases ht), ht⟩

theorem handW_put (rows : List (List Int)) (g : List Int) (W : World) (S : Nat → Prop) (x : List Int) (vs : Array Value) (l : Nat) (r : Loop) (o : Obj) (h : HandW rows g W S x vs) (hl : W.heap[l]? = some (.loop r)) : HandW rows g (W.putObj l o) S x vs := by
  obtain ⟨co, cc, mo, mc, h1, h2, h3, h4, h5, h6, h7⟩ := h
  have hp : ∀ b, isC W b → isC (W.putObj l o) b := fun b hb => hb.keep (World.putObj_heap_other (fun e => by
    subst e
    obtain ⟨c, t, hb⟩ := hb
    rw [hl] at hb; cases hb))
  exact ⟨co, cc, mo, mc, h1, h2, sl_put o h3 hl, sl_put o h4 hl, fun a ha => ⟨(h5 a ha).1, hp _ (h5 a ha).2⟩, fun a ha => ⟨(h6 a ha).1, hp _ (h6 a ha).2⟩, fun b hb => by simpa using h7 b hb⟩

end Go.Proofs.YtkfdpcgmpbopnaaGreatDoor
