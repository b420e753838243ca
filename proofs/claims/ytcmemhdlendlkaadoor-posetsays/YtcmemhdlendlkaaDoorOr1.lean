/- poset.aboveAny; the boxes that poset.grown keeps. -/
import Derived.Test.YtcmemhdlendlkaaDoorWa0
import Derived.Test.YtcmemhdlendlkaaDoorOr0
import Derived.Test.YtcmemhdlendlkaaDoorRun1
import Derived.Test.YtcmemhdlendlkaaDoorRefA
namespace Go.Proofs.YtcmemhdlendlkaaDoor
open Go.RowKit
attribute [local go_sem ↓] Go.wp_at_zero Go.wp_at_succ

/-- What is above those ahead. -/
def abvT (f : Nat → Nat) (l : List Int) : Nat := l.foldl (fun a x => a ||| f x.toNat) 0

theorem abvT_snoc (f : Nat → Nat) (l : List Int) (x : Int) : abvT f (l ++ [x]) = abvT f l ||| f x.toNat := by simp [abvT, List.foldl_append]

theorem abvT_lt {f : Nat → Nat} : ∀ {l : List Int}, (∀ x ∈ l, f x.toNat < 64) → abvT f l < 64 := by
  have key : ∀ (l : List Int) (a : Nat), a < 64 → (∀ x ∈ l, f x.toNat < 64) → l.foldl (fun a x => a ||| f x.toNat) a < 64 := by
    intro l
    induction l with
    | nil => intro a ha _; exact ha
    | cons y l ih =>
      intro a ha h
      rw [List.foldl_cons]
      refine ih _ ?_ (fun x hx => h x (by simp [hx]))
      exact Nat.or_lt_two_pow (n := 6) ha (h y (by simp))
  intro l h
  exact key l 0 (by omega) h

set_option maxRecDepth 100000 in
set_option maxHeartbeats 1600000 in
theorem aboveAny_any (a n s : Nat) (f : Nat → Nat) (w : World) (hn : n ≤ 6) (hs : s < 2 ^ n) (hf : ∀ i, i < n → f i < 64) (ha : AbR w a n f) (hT : TabB w) :
    Calls Tryd.prog 47 #[.slice (some ⟨a, 0, none⟩) n n, .int .u64 (s : Int)] w fun e w' => e = .returned (.int .u64 ((abvF f s : Nat) : Int)) ∧ Below w.heap.size w w' := by
  have hs64 : s < 64 := Nat.lt_of_lt_of_le hs (Nat.pow_le_pow_right (by omega) hn : 2 ^ n ≤ 2 ^ 6)
  have HLI := list8_any s (by omega) w hT
  have HM : Hid (∀ j, j < (mem8 s).length → ∃ i : Nat, (mem8 s).getD j 0 = (i : Int) ∧ i < n) := fun j hj => mem8_at hs hj
  have HTL : Hid (∀ j, abvT f ((mem8 s).take j) < 64) := fun j => abvT_lt fun x hx => by
    obtain ⟨m, hm, rfl⟩ := List.getElem_of_mem (List.mem_of_mem_take hx)
    obtain ⟨i, hi, hin⟩ := mem8_at hs hm
    have e2 : (mem8 s).getD m 0 = (mem8 s)[m] := by simp [hm]
    rw [← e2, hi, Int.toNat_natCast]
    exact hf i hin
  have HE : Hid (abvF f s = abvT f (mem8 s)) := rfl
  rw [HE.out]
  have hL8 := mem8_len s
  have HA : Hid (AbR w a n f) := ha
  have HFX : Hid (∀ i, i < n → f i < 64) := hf
  clear hs hf ha hT HE
  generalize mem8 s = L at *
  go_enter Tryd.func47, Tryd.ntmps47
  go_wp2_with fail
  refine HLI.mono ?_
  rintro e w3 ⟨u, rfl, hu, hb3⟩
  obtain ⟨ul, lc, huv⟩ := owns_form hu
  subst huv
  have HU : Hid (Sl 0 3 w3 (.slice ul L.length lc) (ints L)) := Sl.own hu
  have HA3 : Hid (AbR w3 a n f) := HA.out.below hb3 (Nat.le_refl _)
  have HB3 : Hid (Below w.heap.size w w3) := hb3
  clear hu hb3 HLI
  go_wp2
  go_loop [5, 11] (fun sv jv => ∃ j : Nat, j ≤ L.length ∧ jv = .int .i64 (j : Int) ∧ sv = .int .u64 ((abvT f (L.take j) : Nat) : Int)) (fun _ jv => L.length - (intOf jv).toNat)
  case atStart => exact ⟨0, Nat.zero_le _, rfl, rfl⟩
  case round =>
    obtain ⟨j, hj, rfl, rfl⟩ := hrel
    by_cases hlj : j < L.length
    · obtain ⟨i, hi, hin⟩ := HM.out j hlj
      obtain ⟨lb, lo, lc2, hs2, _, hcc⟩ := sl_cell HU.out hlj
      simp only [Value.slice.injEq, true_and] at hs2
      obtain ⟨rfl, rfl⟩ := hs2
      have HN1 : Hid (abvT f (L.take (j + 1)) = abvT f (L.take j) ||| f i) := by
        show _ = _
        rw [take_snoc_int L j hlj, abvT_snoc, hi, Int.toNat_natCast]
      rw [hi] at hcc
      have ca := HA3.out.cell hin
      have h1 := HTL.out j
      have h2 := HFX.out i hin
      have e1 := or64 h1 h2
      rw [← HN1.out] at e1
      generalize abvT f (L.take j) = A at *
      generalize f i = fi at *
      have iI : (i : Int) < (n : Int) := by omega
      have iI0 : (0 : Int) ≤ (i : Int) := by omega
      have jI : (j : Int) < (L.length : Int) := by omega
      have jI0 : (0 : Int) ≤ (j : Int) := by omega
      clear hi HN1
      go_wp2
      go_round
      case rel => exact ⟨j + 1, by omega, by go_num, rfl⟩
      case measure => simp [intOf]; omega
    · have hje : j = L.length := by omega
      subst hje
      rw [List.take_length]
      go_wp2
      go_ret
      exact ⟨rfl, HB3.out⟩

/-- What grown$1 is handed. -/
def grA (b : Nat) : Array Value := #[.pointer (some ⟨b + 1, 0, none⟩), .pointer (some ⟨b + 3, 0, none⟩), .pointer (some ⟨b, 0, none⟩), .pointer (some ⟨b + 4, 0, none⟩)]

/-- The boxes: what is above, the lists, the list that grows, grow. -/
structure GrI (w : World) (b a n : Nat) (f : Nat → Nat) (h : List Int) (ls : List (List Int)) (wr : World) : Prop where
  lo : w.heap.size ≤ b
  al : a < b
  bel : Below w.heap.size w wr
  ab : wr.heap[b]? = some (.cells #[.slice (some ⟨a, 0, none⟩) n n] 53 (0, 0))
  fn : wr.heap[b + 4]? = some (.cells #[.func (.func 45) #[] (grA b)] 73 (0, 0))
  ar : AbR wr a n f
  sz : b + 5 ≤ wr.heap.size
  two : ∃ ov lv vs, wr.heap[b + 3]? = some (.cells #[ov] 27 (0, 0)) ∧ wr.ownsRow (b + 2) 3 1 ov h.length (ints h) ∧ wr.heap[b + 1]? = some (.cells #[lv] 28 (0, 0)) ∧ vs.length = ls.length ∧ wr.ownsRow (b + 2) 27 1 lv ls.length vs ∧ lv.ownBlock ≠ some (b + 3) ∧ ∀ i, i < ls.length → wr.ownsRow (b + 2) 3 1 (vs.getD i (.slice none 0 0)) (ls.getD i []).length (ints (ls.getD i [])) ∧ (vs.getD i (.slice none 0 0)).ownBlock ≠ ov.ownBlock

theorem own_at {B m : Nat} {e : TypeId} {w w' : World} {v : Value} {xs : List Value} (h : w.ownsRow B e 1 v m xs) (hk : ∀ x, v.ownBlock = some x → w'.heap[x]? = w.heap[x]?) : w'.ownsRow B e 1 v m xs := by
  refine ⟨h.1, ?_⟩
  rcases h.2 with h1 | ⟨g, cap, cur, e1, h2, h3, h4⟩
  · exact .inl h1
  · exact .inr ⟨g, cap, cur, e1, h2, (hk g (by rw [e1]; rfl)).trans h3, h4⟩

/-- A row of a type lies in no block of another. -/
theorem own_not {B m g : Nat} {e e1 : TypeId} {w : World} {v : Value} {xs : List Value} {c : Array Value} (h : w.ownsRow B e 1 v m xs) (hg : w.heap[g]? = some (.cells c e1 (0, 0))) (hne : e ≠ e1) : v.ownBlock ≠ some g := fun e2 => (owns_typed h hne g e2).2 c hg

theorem own_two {B m m2 : Nat} {e e1 : TypeId} {w : World} {v u : Value} {xs ys : List Value} (h : w.ownsRow B e 1 v m xs) (h2 : w.ownsRow B e1 1 u m2 ys) (hne : e ≠ e1) {g : Nat} (hv : v.ownBlock = some g) : u.ownBlock ≠ some g := fun e2 => by
  rcases h2.2 with ⟨q, _⟩ | ⟨g2, cap, cur, f1, f2, f3, _⟩
  · rw [q] at e2
    cases e2
  · rw [f1] at e2
    have : g2 = g := by simpa [Value.ownBlock] using e2
    subst this
    exact (owns_typed h hne g2 hv).2 cur f3

/-- From a world in which all that it names is as it was, but for the list that grows. -/
theorem GrI.move {w wr w2 : World} {b a n : Nat} {f : Nat → Nat} {h : List Int} {ls : List (List Int)} (H : GrI w b a n f h ls wr) (hb : Below wr.heap.size wr w2) : GrI w b a n f h ls w2 := by
  obtain ⟨ov, lv, vs, t1, t2, t3, t4, t5, t6, t7⟩ := H.two
  have hsz := H.sz
  have hal := H.al
  have hk : ∀ (x : Nat), x < wr.heap.size → w2.heap[x]? = wr.heap[x]? := fun x hx => hb.block x hx
  refine ⟨H.lo, hal, H.bel.trans (hb.mono H.bel.size), (hk _ (by omega)).trans H.ab, (hk _ (by omega)).trans H.fn, H.ar.below hb (Nat.le_refl _), Nat.le_trans hsz hb.size, ov, lv, vs, (hk _ (by omega)).trans t1, owns_below t2 hb (Nat.le_refl _), (hk _ (by omega)).trans t3, t4, owns_below t5 hb (Nat.le_refl _), t6, fun i hi => ⟨owns_below (t7 i hi).1 hb (Nat.le_refl _), (t7 i hi).2⟩⟩

/-- A block that is none of the boxes' and none of their rows'. -/
structure Sep (b : Nat) (wr : World) (x : Nat) : Prop where
  lt : x < wr.heap.size
  n1 : x ≠ b + 1
  n3 : x ≠ b + 3
  o3 : ∀ sv, wr.cell? ⟨b + 3, 0, none⟩ = some sv → sv.ownBlock ≠ some x
  o1 : ∀ sv, wr.cell? ⟨b + 1, 0, none⟩ = some sv → sv.ownBlock ≠ some x

/-- All such blocks stay as they are. -/
def GrF (b : Nat) (wr w2 : World) : Prop := ∀ x, Sep b wr x → w2.heap[x]? = wr.heap[x]? ∧ Sep b w2 x

theorem GrF.refl (b : Nat) (w : World) : GrF b w w := fun _ h => ⟨rfl, h⟩

theorem GrF.trans {b : Nat} {w1 w2 w3 : World} (h1 : GrF b w1 w2) (h2 : GrF b w2 w3) : GrF b w1 w3 := fun x h => by
  obtain ⟨a1, a2⟩ := h1 x h
  obtain ⟨b1, b2⟩ := h2 x a2
  exact ⟨b1.trans a1, b2⟩

theorem GrF.below {b : Nat} {w1 w2 : World} (hb : Below w1.heap.size w1 w2) (h3 : b + 3 < w1.heap.size) : GrF b w1 w2 := fun x h => by
  refine ⟨hb.block x h.lt, Nat.lt_of_lt_of_le h.lt hb.size, h.n1, h.n3, fun sv hs => h.o3 sv ?_, fun sv hs => h.o1 sv ?_⟩
  · rw [← hs]
    exact (World.cell?_of_block (w := w1) (a := ⟨b + 3, 0, none⟩) (hb.block _ h3)).symm
  · rw [← hs]
    exact (World.cell?_of_block (w := w1) (a := ⟨b + 1, 0, none⟩) (hb.block _ (by show b + 1 < _; omega))).symm

/-- A box is written into, its row's block being the old one or a new one. -/
theorem GrF.box {b i : Nat} {w1 w5 : World} {ov v' : Value} {S : Nat} (hi : i = b + 1 ∨ i = b + 3) (h3 : b + 3 < w1.heap.size) (hc : w1.cell? ⟨i, 0, none⟩ = some ov) (h5 : ∀ x, x < w1.heap.size → ov.ownBlock ≠ some x → w5.heap[x]? = w1.heap[x]?) (hss : w1.heap.size ≤ w5.heap.size) (hS : w1.heap.size ≤ S) (hat : v'.ownBlock = ov.ownBlock ∨ v'.ownBlock = some S) (hex : ∃ c t, w5.heap[i]? = some (.cells #[c] t (0, 0))) (hother : ∀ k, (k = b + 1 ∨ k = b + 3) → k ≠ i → ov.ownBlock ≠ some k) : GrF b w1 (w5.setCell ⟨i, 0, none⟩ v') := fun x h => by
  have hxi : x ≠ i := by
    rcases hi with rfl | rfl
    · exact h.n1
    · exact h.n3
  have hox : ov.ownBlock ≠ some x := by
    rcases hi with rfl | rfl
    · exact h.o1 ov hc
    · exact h.o3 ov hc
  have hk : ∀ y, y ≠ i → (w5.setCell ⟨i, 0, none⟩ v').heap[y]? = w5.heap[y]? := fun y hy => Below.heap_setCell _ _ _ _ hy
  have hnew : (w5.setCell ⟨i, 0, none⟩ v').cell? ⟨i, 0, none⟩ = some v' := by
    obtain ⟨c, t, he⟩ := hex
    simp [World.cell?, World.setCell, Array.getElem?_modify, he]
  have hv : v'.ownBlock ≠ some x := fun e => by
    rcases hat with q | q
    · exact hox (q.symm.trans e)
    · have h9 := Option.some.inj (q.symm.trans e)
      have := h.lt
      omega
  have hsame : ∀ k, (k = b + 1 ∨ k = b + 3) → k ≠ i → (w5.setCell ⟨i, 0, none⟩ v').cell? ⟨k, 0, none⟩ = w1.cell? ⟨k, 0, none⟩ := fun k hk1 hk2 => World.cell?_of_block (w := w1) (a := ⟨k, 0, none⟩) ((hk k hk2).trans (h5 k (by omega) (hother k hk1 hk2)))
  refine ⟨(hk x hxi).trans (h5 x h.lt hox), by simp only [World.setCell, Array.size_modify]; have := h.lt; omega, h.n1, h.n3, fun sv hs => ?_, fun sv hs => ?_⟩
  · by_cases e : b + 3 = i
    · rw [e, hnew] at hs
      cases hs
      exact hv
    · rw [hsame _ (.inr rfl) e] at hs
      exact h.o3 sv hs
  · by_cases e : b + 1 = i
    · rw [e, hnew] at hs
      cases hs
      exact hv
    · rw [hsame _ (.inl rfl) e] at hs
      exact h.o1 sv hs

/-- The list that grows, one more. -/
theorem GrI.push {w wr : World} {b a n : Nat} {f : Nat → Nat} {h : List Int} {ls : List (List Int)} (H : GrI w b a n f h ls wr) (z : Int) :
    ∃ so sc, wr.cell? ⟨b + 3, 0, none⟩ = some (.slice so h.length sc) ∧ wr.ownsRow (b + 2) 3 1 (.slice so h.length sc) h.length (ints h) ∧ ∀ v' w5, w5.ownsRow (b + 2) 3 1 v' (h.length + 1) (ints h ++ [.int .i64 z]) → (wr.alloc (.cells #[.int .i64 z] 3)).grownBy w5 (Value.slice so h.length sc).ownBlock → (v'.ownBlock = (Value.slice so h.length sc).ownBlock ∨ v'.ownBlock = some (wr.alloc (.cells #[.int .i64 z] 3)).heap.size) → w5.cell? ⟨b + 3, 0, none⟩ = some (.slice so h.length sc) ∧ w5.frozen? ⟨b + 3, 0, none⟩ = false ∧ GrI w b a n f (h ++ [z]) ls (w5.setCell ⟨b + 3, 0, none⟩ v') ∧ GrF b wr (w5.setCell ⟨b + 3, 0, none⟩ v') := by
  obtain ⟨ov, lv, vs, t1, t2, t3, t4, t5, t6, t7⟩ := H.two
  obtain ⟨so, sc, rfl⟩ := owns_form t2
  have hsz := H.sz
  have hal := H.al
  have hlo := H.lo
  refine ⟨so, sc, by simp [World.cell?, t1], t2, fun v' w5 ho hg hat => ?_⟩
  have hne : ∀ x, x < wr.heap.size → (Value.slice so h.length sc).ownBlock ≠ some x → w5.heap[x]? = wr.heap[x]? := fun x hx e => (hg.block x (by simp; omega) (fun e2 => e e2.symm)).trans (Below.heap_alloc wr _ x hx)
  have hlow : ∀ x, x < b + 2 → w5.heap[x]? = wr.heap[x]? := fun x hx => hne x (by omega) fun e => by
    have := (t2.lt x e).1
    omega
  have h3 := (hne (b + 3) (by omega) (own_not t2 t1 (by decide))).trans t1
  have h4 := (hne (b + 4) (by omega) (own_not t2 H.fn (by decide))).trans H.fn
  have hss : wr.heap.size ≤ w5.heap.size := Nat.le_trans (by simp) hg.size
  have hb5 : Below w.heap.size w w5 := ⟨hg.os.trans H.bel.os, hg.tape.trans H.bel.tape, hg.output.trans H.bel.output, Nat.le_trans H.bel.size hss, fun x hx => (hlow x (by omega)).trans (H.bel.block x hx)⟩
  have hk : ∀ x, x ≠ b + 3 → (w5.setCell ⟨b + 3, 0, none⟩ v').heap[x]? = w5.heap[x]? := fun x hx => Below.heap_setCell _ _ _ _ hx
  have hty : ∀ {B m : Nat} {e : TypeId} {W : World} {v : Value} {xs : List Value} {c : Array Value}, W.ownsRow B e 1 v m xs → W.heap[b + 3]? = some (.cells c 27 (0, 0)) → e ≠ 27 → v.ownBlock ≠ some (b + 3) := fun ho hc hne => own_not ho hc hne
  have hfr : GrF b wr (w5.setCell ⟨b + 3, 0, none⟩ v') := GrF.box (ov := .slice so h.length sc) (.inr rfl) (by omega) (by simp [World.cell?, t1]) (fun x hx e => hne x hx e) hss (by simp) hat ⟨_, _, h3⟩ (fun k hk1 hk2 e => by
    rcases hk1 with rfl | rfl
    · have := (t2.lt _ e).1
      omega
    · exact hk2 rfl)
  refine ⟨by simp [World.cell?, h3], by simp [World.frozen?, h3], ⟨hlo, hal, below_set hb5 (by show _ ≤ b + 3; omega), (hk _ (by omega)).trans ((hlow _ (by omega)).trans H.ab), (hk _ (by omega)).trans h4, World.rowIs.setOther (World.rowIs.of_block H.ar (hlow a (by omega))) (by show a ≠ b + 3; omega) _, by simp only [World.setCell, Array.size_modify]; omega, v', lv, vs, ?_, ?_, (hk _ (by omega)).trans ((hlow _ (by omega)).trans t3), t4, ?_, t6, fun i hi => ?_⟩, hfr⟩
  · simp [World.setCell, Array.getElem?_modify, h3]
  · have e1 : ints (h ++ [z]) = ints h ++ [.int .i64 z] := by simp [ints]
    rw [e1, List.length_append, List.length_singleton]
    exact own_at ho fun x hx => hk x fun e => hty ho h3 (by decide) (e ▸ hx)
  · refine own_at t5 fun x hx => ?_
    have hxs := (t5.lt x hx).2
    refine (hk x fun e => t6 (e ▸ hx)).trans (hne x hxs ?_)
    exact own_two t5 t2 (by decide) hx
  · obtain ⟨r1, r2⟩ := t7 i hi
    refine ⟨own_at r1 fun x hx => ?_, fun e => ?_⟩
    · have hxs := (r1.lt x hx).2
      refine (hk x fun e => hty r1 t1 (by decide) (e ▸ hx)).trans (hne x hxs fun e => r2 (hx.trans e.symm))
    · rcases hat with q | q
      · exact r2 (e.trans q)
      · have hb6 := e.trans q
        have := (r1.lt _ hb6).2
        simp at this
        omega

/-- The last one taken back. -/
theorem GrI.pop {w wr : World} {b a n : Nat} {f : Nat → Nat} {h : List Int} {z : Int} {ls : List (List Int)} (H : GrI w b a n f (h ++ [z]) ls wr) :
    ∃ so sc, wr.cell? ⟨b + 3, 0, none⟩ = some (.slice so (h.length + 1) sc) ∧ h.length + 1 ≤ sc ∧ sc ≤ maxLen ∧ wr.frozen? ⟨b + 3, 0, none⟩ = false ∧ GrI w b a n f h ls (wr.setCell ⟨b + 3, 0, none⟩ (.slice so h.length sc)) ∧ GrF b wr (wr.setCell ⟨b + 3, 0, none⟩ (.slice so h.length sc)) := by
  obtain ⟨ov, lv, vs, t1, t2, t3, t4, t5, t6, t7⟩ := H.two
  rw [List.length_append, List.length_singleton] at t2
  obtain ⟨so, sc, rfl⟩ := owns_form t2
  have hsz := H.sz
  have hal := H.al
  have hlo := H.lo
  have e1 : ints (h ++ [z]) = ints h ++ [.int .i64 z] := by simp [ints]
  have h3 : h.length + 1 ≤ sc ∧ sc ≤ maxLen := by
    rcases t2.2 with ⟨_, h0⟩ | ⟨x, cap, cur, f1, f2, f3, f4, f5, f6, f7⟩
    · omega
    · simp only [Value.slice.injEq] at f1
      omega
  have hk : ∀ x, x ≠ b + 3 → (wr.setCell ⟨b + 3, 0, none⟩ (.slice so h.length sc)).heap[x]? = wr.heap[x]? := fun x hx => Below.heap_setCell _ _ _ _ hx
  rw [e1] at t2
  have hpop : wr.ownsRow (b + 2) 3 1 (.slice so h.length sc) h.length (ints h) := owns_pop t2 (by simp)
  have hfr : GrF b wr (wr.setCell ⟨b + 3, 0, none⟩ (.slice so h.length sc)) := GrF.box (ov := .slice so (h.length + 1) sc) (S := wr.heap.size) (.inr rfl) (by omega) (by simp [World.cell?, t1]) (fun x _ _ => rfl) (Nat.le_refl _) (Nat.le_refl _) (.inl (by cases so <;> rfl)) ⟨_, _, t1⟩ (fun k hk1 hk2 e => by
    rcases hk1 with rfl | rfl
    · have := (t2.lt _ e).1
      omega
    · exact hk2 rfl)
  refine ⟨so, sc, by simp [World.cell?, t1], h3.1, h3.2, by simp [World.frozen?, t1], ⟨hlo, hal, below_set H.bel (by show _ ≤ b + 3; omega), (hk _ (by omega)).trans H.ab, (hk _ (by omega)).trans H.fn, World.rowIs.setOther H.ar (by show a ≠ b + 3; omega) _, by simp only [World.setCell, Array.size_modify]; exact hsz, .slice so h.length sc, lv, vs, ?_, ?_, (hk _ (by omega)).trans t3, t4, ?_, t6, fun i hi => ?_⟩, hfr⟩
  · simp [World.setCell, Array.getElem?_modify, t1]
  · exact own_at hpop fun x hx => hk x fun e => own_not hpop t1 (by decide) (e ▸ hx)
  · exact own_at t5 fun x hx => hk x fun e => t6 (e ▸ hx)
  · obtain ⟨r1, r2⟩ := t7 i hi
    exact ⟨own_at r1 fun x hx => hk x fun e => own_not r1 t1 (by decide) (e ▸ hx), by cases so <;> exact r2⟩

/-- One list more. -/
theorem GrI.list {w wr : World} {b a n : Nat} {f : Nat → Nat} {h : List Int} {ls : List (List Int)} {u : Value} (H : GrI w b a n f h ls wr) (wc : World) (hc : Below wr.heap.size wr wc) (hu : wc.ownsRow wr.heap.size 3 1 u h.length (ints h)) (hp : 0 < h.length) :
    ∃ ov lo lc, wr.cell? ⟨b + 3, 0, none⟩ = some ov ∧ wr.cell? ⟨b + 1, 0, none⟩ = some (.slice lo ls.length lc) ∧ wc.cell? ⟨b + 1, 0, none⟩ = some (.slice lo ls.length lc) ∧ (∃ vs : List Value, wc.ownsRow (b + 2) 27 1 (.slice lo ls.length lc) ls.length vs ∧ ∀ v' w5, w5.ownsRow (b + 2) 27 1 v' (ls.length + 1) (vs ++ [u]) → (wc.alloc (.cells #[u] 27)).grownBy w5 (Value.slice lo ls.length lc).ownBlock → (v'.ownBlock = (Value.slice lo ls.length lc).ownBlock ∨ v'.ownBlock = some (wc.alloc (.cells #[u] 27)).heap.size) → w5.cell? ⟨b + 1, 0, none⟩ = some (.slice lo ls.length lc) ∧ w5.frozen? ⟨b + 1, 0, none⟩ = false ∧ (w5.setCell ⟨b + 1, 0, none⟩ v').cell? ⟨b + 3, 0, none⟩ = some ov ∧ GrI w b a n f h (ls ++ [h]) (w5.setCell ⟨b + 1, 0, none⟩ v') ∧ GrF b wr (w5.setCell ⟨b + 1, 0, none⟩ v')) := by
  have HC := H.move hc
  obtain ⟨ov, lv, vs, t1, t2, t3, t4, t5, t6, t7⟩ := H.two
  obtain ⟨lo, lc, rfl⟩ := owns_form t5
  have hsz := H.sz
  have hal := H.al
  have hlo := H.lo
  have hk0 : ∀ (x : Nat), x < wr.heap.size → wc.heap[x]? = wr.heap[x]? := fun x hx => hc.block x hx
  have c1 := (hk0 (b + 1) (by omega)).trans t3
  have c3 := (hk0 (b + 3) (by omega)).trans t1
  have o5 := owns_below t5 hc (Nat.le_refl _)
  have o2 := owns_below t2 hc (Nat.le_refl _)
  have hcs : wr.heap.size ≤ wc.heap.size := hc.size
  refine ⟨ov, lo, lc, by simp [World.cell?, t1], by simp [World.cell?, t3], by simp [World.cell?, c1], vs, o5, fun v' w5 ho hg hat => ?_⟩
  have hne : ∀ x, x < wc.heap.size → (Value.slice lo ls.length lc).ownBlock ≠ some x → w5.heap[x]? = wc.heap[x]? := fun x hx e => (hg.block x (by simp; omega) (fun e2 => e e2.symm)).trans (Below.heap_alloc wc _ x hx)
  have hlow : ∀ x, x < b + 2 → w5.heap[x]? = wc.heap[x]? := fun x hx => hne x (by omega) fun e => by
    have := (o5.lt x e).1
    omega
  have h1 := (hlow (b + 1) (by omega)).trans c1
  have h3 := (hne (b + 3) (by omega) t6).trans c3
  have h4 := (hne (b + 4) (by omega) (own_not o5 HC.fn (by decide))).trans HC.fn
  have hss : wc.heap.size ≤ w5.heap.size := Nat.le_trans (by simp) hg.size
  have hb5 : Below w.heap.size w w5 := ⟨hg.os.trans HC.bel.os, hg.tape.trans HC.bel.tape, hg.output.trans HC.bel.output, Nat.le_trans HC.bel.size hss, fun x hx => (hlow x (by omega)).trans (HC.bel.block x hx)⟩
  have hk : ∀ x, x ≠ b + 1 → (w5.setCell ⟨b + 1, 0, none⟩ v').heap[x]? = w5.heap[x]? := fun x hx => Below.heap_setCell _ _ _ _ hx
  have hI1 : ∀ {m : Nat} {v : Value} {xs : List Value}, wc.ownsRow (b + 2) 3 1 v m xs → (w5.setCell ⟨b + 1, 0, none⟩ v').ownsRow (b + 2) 3 1 v m xs := fun {m v xs} hr => own_at hr fun x hx => by
    have hxs := hr.lt x hx
    refine (hk x (by omega)).trans (hne x hxs.2 ?_)
    exact own_two hr o5 (by decide) hx
  have hul : wc.ownsRow (b + 2) 3 1 u h.length (ints h) := by
    refine ⟨hu.1, ?_⟩
    rcases hu.2 with q | ⟨g, cap, cur, f1, f2, f3⟩
    · exact .inl q
    · exact .inr ⟨g, cap, cur, f1, by omega, f3⟩
  have hfr : GrF b wr (w5.setCell ⟨b + 1, 0, none⟩ v') := (GrF.below hc (by omega)).trans (GrF.box (ov := .slice lo ls.length lc) (.inl rfl) (by omega) (by simp [World.cell?, c1]) (fun x hx e => hne x hx e) hss (by simp) hat ⟨_, _, h1⟩ (fun k hk1 hk2 e => by
    rcases hk1 with rfl | rfl
    · exact hk2 rfl
    · exact t6 e))
  refine ⟨by simp [World.cell?, h1], by simp [World.frozen?, h1], ?_, ⟨hlo, hal, below_set hb5 (by show _ ≤ b + 1; omega), (hk _ (by omega)).trans ((hlow _ (by omega)).trans HC.ab), (hk _ (by omega)).trans h4, World.rowIs.setOther (World.rowIs.of_block HC.ar (hlow a (by omega))) (by show a ≠ b + 1; omega) _, by simp only [World.setCell, Array.size_modify]; omega, ov, v', vs ++ [u], (hk _ (by omega)).trans h3, hI1 o2, ?_, by simp [t4], ?_, ?_, fun i hi => ?_⟩, hfr⟩
  · have := (hk (b + 3) (by omega)).trans h3
    simp [World.cell?, this]
  · simp [World.setCell, Array.getElem?_modify, h1]
  · rw [List.length_append, List.length_singleton]
    refine own_at ho fun x hx => hk x fun e => ?_
    have := (ho.lt x hx).1
    omega
  · rcases hat with q | q
    · rw [q]; exact t6
    · rw [q]
      simp
      omega
  · rw [List.length_append, List.length_singleton] at hi
    by_cases hlt : i < ls.length
    · have e1 : (vs ++ [u]).getD i (.slice none 0 0) = vs.getD i (.slice none 0 0) := by
        simp only [List.getD_eq_getElem?_getD]; rw [List.getElem?_append_left (by omega)]
      have e2 : (ls ++ [h]).getD i [] = ls.getD i [] := by
        simp only [List.getD_eq_getElem?_getD]; rw [List.getElem?_append_left (by omega)]
      rw [e1, e2]
      exact ⟨hI1 (owns_below (t7 i hlt).1 hc (Nat.le_refl _)), (t7 i hlt).2⟩
    · have hi2 : i = ls.length := by omega
      subst hi2
      have e1 : (vs ++ [u]).getD ls.length (.slice none 0 0) = u := by rw [← t4]; simp
      have e2 : (ls ++ [h]).getD ls.length [] = h := by simp
      rw [e1, e2]
      refine ⟨hI1 hul, fun e => ?_⟩
      rcases hu.2 with ⟨_, q⟩ | ⟨g, cap, cur, f1, f2, f3⟩
      · omega
      · rw [f1] at e
        have := (t2.lt g (by rw [← e]; rfl)).2
        omega

end Go.Proofs.YtcmemhdlendlkaaDoor
