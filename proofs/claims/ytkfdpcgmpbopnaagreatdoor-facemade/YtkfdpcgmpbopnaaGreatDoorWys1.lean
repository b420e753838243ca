/- cone.Ways: all ways, one after another. -/
import Derived.Test.YtkfdpcgmpbopnaaGreatDoorWay2
import Derived.Test.YtkfdpcgmpbopnaaGreatDoorOf3
namespace Go.Proofs.YtkfdpcgmpbopnaaGreatDoor
open Go.RowKit Go.Shelf
attribute [local go_sem] Oper.semAt_some

def waysTo (rows : List (List Int)) (g : List Int) (k : Nat) : List (List Int) :=
  (List.range k).flatMap fun m => (ext rows.length m 0).filter fun c => wayB g (pks rows [] c)

/-- The numbers of rows by which there is a way, in order. -/
def waysL (rows : List (List Int)) (g : List Int) : List (List Int) := waysTo rows g (min g.length rows.length + 1)

theorem waysTo_succ (rows : List (List Int)) (g : List Int) (k : Nat) : waysTo rows g (k + 1) = waysTo rows g k ++ (ext rows.length k 0).filter fun c => wayB g (pks rows [] c) := by
  simp [waysTo, List.range_succ]

theorem waysTo_pre (rows : List (List Int)) (g : List Int) {k m : Nat} (h : k ≤ m) : waysTo rows g k <+: waysTo rows g m := by
  induction m with
  | zero => have : k = 0 := by omega
            subst this; exact List.prefix_refl _
  | succ m ih =>
    by_cases e : k = m + 1
    · subst e; exact List.prefix_refl _
    · exact (ih (by omega)).trans (by rw [waysTo_succ]; exact List.prefix_append _ _)

theorem filter_pre {α : Type} {p : α → Bool} {a b : List α} (h : a <+: b) : a.filter p <+: b.filter p := by
  obtain ⟨t, rfl⟩ := h
  rw [List.filter_append]
  exact List.prefix_append _ _

/-- A way, handed over. -/
def HandW (rows : List (List Int)) (g : List Int) (W : World) (S : Nat → Prop) (c : List Int) (vs : Array Value) : Prop :=
  ∃ co cc mo mc, vs = #[.agg #[.slice co c.length cc, .slice mo c.length mc, .int .i64 ((wayN g (pks rows [] c)).getD c.length 0)]] ∧ wayB g (pks rows [] c) = true ∧ Sl 0 3 W (.slice co c.length cc) (ints c) ∧ Sl 0 3 W (.slice mo c.length mc) (ints ((wayN g (pks rows [] c)).take c.length)) ∧
    (∀ a, co = some a → ¬ S a.block ∧ isC W a.block) ∧ (∀ a, mo = some a → ¬ S a.block ∧ isC W a.block) ∧ ∀ b, S b → b < W.heap.size

/-- What holds when the choices of fewer than k have been gone through. -/
structure WyK (rows : List (List Int)) (g : List Int) (T : Nat → Prop) (gb rb D0 : Nat) (W0 : World) (J : (Nat → Prop) → List (List Int) → World → Prop) (k : Nat) (rs : List Nat) (wr : World) : Prop where
  nd : rs.Nodup
  mark : ∀ r ∈ rs, wr.heap[r]? = some (.deferred (some []))
  kp : Kpt (fun b => b = gb ∨ b = rb ∨ b = D0 ∨ T b) W0 wr
  j : J (fun b => b = gb ∨ b = rb ∨ b = D0 ∨ b ∈ rs) (waysTo rows g k) wr

/-- .. and, of those of k, some (in world WN the walk over them began). -/
structure WyI (rows : List (List Int)) (g : List Int) (T : Nat → Prop) (gb rb D0 : Nat) (WN : World) (J : (Nat → Prop) → List (List Int) → World → Prop) (rs : List Nat) (N : Nat) (S : Nat → Prop) (q : List (List Int)) (W : World) : Prop where
  sn : ∀ b, S b → N ≤ b
  kp : Kpt (fun b => b < N ∧ (b = gb ∨ b = rb ∨ b = D0 ∨ T b ∨ b ∈ rs)) WN W
  j : J (fun b => S b ∨ b = gb ∨ b = rb ∨ b = D0 ∨ b ∈ rs) q W
  sz : N ≤ W.heap.size

theorem WyI.stab {rows : List (List Int)} {g : List Int} {T : Nat → Prop} {gb rb D0 : Nat} {WN : World} {J : (Nat → Prop) → List (List Int) → World → Prop} {rs : List Nat} {N : Nat} {S S' : Nat → Prop} {q : List (List Int)} {W W' : World} (hst : Stab J)
    (h : WyI rows g T gb rb D0 WN J rs N S q W) (hc : Chg S W W') (hs : ∀ b, S' b → S b ∨ W.heap.size ≤ b) : WyI rows g T gb rb D0 WN J rs N S' q W' := by
  have h0 := h.sz
  refine ⟨fun b hb => ?_, h.kp.trans (Kpt.of_chg hc fun i _ hi hsi => ?_), hst _ _ q W W' h.j (hc.mono fun i _ hi => .inl hi) (fun b hb => ?_), Nat.le_trans h0 hc.size⟩
  · rcases hs b hb with h1 | h1
    · exact h.sn b h1
    · omega
  · have := h.sn i hsi
    have := hi.1
    omega
  · rcases hb with hb | hb
    · rcases hs b hb with h1 | h1
      · exact .inl (.inl h1)
      · exact .inr h1
    · exact .inl (.inr hb)

theorem hand_below (N0 : Nat) (W : World) (S : Nat → Prop) (x : List Int) (vs : Array Value) (W' : World) (h : Hand N0 W S x vs) (hb : Below W.heap.size W W') : Hand N0 W' S x vs := by
  obtain ⟨v, B0, h1, h2, h3, h4, h5⟩ := h
  exact ⟨v, B0, h1, owns_below h2 hb (Nat.le_refl _), h3, h4, Nat.le_trans h5 hb.size⟩

theorem hand_put (N0 : Nat) (W : World) (S : Nat → Prop) (x : List Int) (vs : Array Value) (l : Nat) (r : Loop) (o : Obj) (h : Hand N0 W S x vs) (hl : W.heap[l]? = some (.loop r)) : Hand N0 (W.putObj l o) S x vs := by
  obtain ⟨v, B0, h1, h2, h3, h4, h5⟩ := h
  exact ⟨v, B0, h1, ownsRow_putObj h2 _ hl rfl, h3, h4, by simpa using h5⟩

/-- A row of one's own does not lie where there are no cells. -/
theorem own_off {W : World} {B0 n : Nat} {vo : Option Addr} {vc b : Nat} {xs : List Value} {o : Obj} (h : W.ownsRow B0 3 1 (.slice vo n vc) n xs) (hb : W.heap[b]? = some o) (ho : o.isCells = false) : ∀ a, vo = some a → B0 ≤ a.block ∧ a.block ≠ b ∧ isC W a.block := by
  intro a ha
  rcases h.2 with ⟨h1, _⟩ | ⟨g', cap', cur', h1, h2, h3, _⟩
  · simp only [Value.slice.injEq] at h1; rw [h1.1] at ha; cases ha
  · simp only [Value.slice.injEq] at h1
    rw [h1.1] at ha
    cases ha
    refine ⟨h2, fun e => ?_, _, _, h3⟩
    rw [← e, h3] at hb
    cases hb
    simp [Obj.isCells] at ho

end Go.Proofs.YtkfdpcgmpbopnaaGreatDoor
