/- What comes of a word, found one after another, pure; a list of words and a map that has them. -/
import Derived.Test.YtnooabbcfhmjaaaCr12
import Derived.Maps.AppendAt
import Derived.Maps.Views
namespace Go.Proofs.Ytnooabbcfhmjaaa
open Go.RowKit

theorem mem_nearL {wd y : List Nat} {n : Nat} : y ∈ nearL wd n ↔ ∃ i, i < n ∧ (cDn wd i = some y ∨ cUp wd i = some y) := by
  unfold nearL
  simp only [List.mem_flatMap, List.mem_range, List.mem_append, Option.mem_toList]

theorem rch_good {n : Nat} {w x : List Nat} (hw : Lw n w) (h : Rch n w x) : Lw n x ∧ x.length = w.length := by
  induction h with
  | start => exact ⟨hw, rfl⟩
  | up _ hi e ih => exact ⟨cUp_lw ih.1 hi e, by rw [cUp_len e]; exact ih.2⟩
  | dn _ hi e ih => exact ⟨cDn_lw ih.1 hi e, by rw [cDn_len e]; exact ih.2⟩

theorem rch_near {n : Nat} {w x y : List Nat} (h : Rch n w x) (hy : y ∈ nearL x n) : Rch n w y := by
  obtain ⟨i, hi, h1 | h1⟩ := mem_nearL.1 hy
  · exact .dn h hi h1
  · exact .up h hi h1

/-- Found so far: what is near to the first k is there. -/
structure AllP (n : Nat) (w : List Nat) (L : List (List Nat)) (k : Nat) : Prop where
  nod : L.Nodup
  hit : ∀ x ∈ L, Rch n w x
  st : w ∈ L
  le : k ≤ L.length
  cl : ∀ j, j < k → ∀ y ∈ nearL (L.getD j []) n, y ∈ L

theorem AllP.start (n : Nat) (w : List Nat) : AllP n w [w] 0 := ⟨by simp, fun x hx => by simp at hx; subst hx; exact .start, by simp, by simp, fun j hj => absurd hj (by omega)⟩

theorem AllP.push {n : Nat} {w y : List Nat} {L : List (List Nat)} {k : Nat} (h : AllP n w L k) (hy : Rch n w y) (hn : y ∉ L) : AllP n w (L ++ [y]) k := by
  refine ⟨?_, fun x hx => ?_, by simp [h.st], by have := h.le; simp; omega, fun j hj z hz => ?_⟩
  · rw [List.nodup_append]
    exact ⟨h.nod, by simp, fun a ha b hb => by simp at hb; subst hb; exact fun e => hn (e ▸ ha)⟩
  · rcases List.mem_append.1 hx with h1 | h1
    · exact h.hit x h1
    · simp at h1; subst h1; exact hy
  · have hjl : j < L.length := by have := h.le; omega
    have e : (L ++ [y]).getD j [] = L.getD j [] := by
      simp only [List.getD_eq_getElem?_getD]; rw [List.getElem?_append_left hjl]
    rw [e] at hz
    exact List.mem_append_left _ (h.cl j hj z hz)

theorem AllP.next {n : Nat} {w : List Nat} {L : List (List Nat)} {k : Nat} (h : AllP n w L k) (hk : k < L.length) (hc : ∀ y ∈ nearL (L.getD k []) n, y ∈ L) : AllP n w L (k + 1) :=
  ⟨h.nod, h.hit, h.st, hk, fun j hj => by
    by_cases e : j = k
    · subst e; exact hc
    · exact h.cl j (by omega)⟩

theorem AllP.done {n : Nat} {w : List Nat} {L : List (List Nat)} (h : AllP n w L L.length) : All n w L := by
  have h1 : ∀ x ∈ L, ∀ y ∈ nearL x n, y ∈ L := fun x hx y hy => by
    obtain ⟨j, hj, rfl⟩ := List.mem_iff_getElem.1 hx
    have e : L.getD j [] = L[j] := by simp [hj]
    exact h.cl j hj y (by rw [e]; exact hy)
  exact ⟨h.nod, h.hit, h.st, fun x hx i y hi e => h1 x hx y (mem_nearL.2 ⟨i, hi, Or.inr e⟩), fun x hx i y hi e => h1 x hx y (mem_nearL.2 ⟨i, hi, Or.inl e⟩)⟩

theorem Fr.mapG {B b : Nat} {w w' : World} {v : Value} {m : List (List Int)} (h : Fr B 22 3 w v m) (hg : w.grownBy w' (some b)) (hm : ∃ es c, w.heap[b]? = some (.map es c)) (hne : v.ownBlock ≠ some b) : Fr B 22 3 w' v m := by
  obtain ⟨vs, h1, h2, h3⟩ := h
  obtain ⟨es, c, hm⟩ := hm
  refine ⟨vs, h1, h2.kept hg (Or.inr hne), fun i hi => (h3 i hi).grown hg (fun k hk => ⟨Nat.zero_le _, fun cur e => ?_⟩)⟩
  simp only [Option.some.injEq] at hk
  subst hk
  rw [hm] at e
  simp at e

/-- Of keys: a kind, what is read of an element, the key of a word, what a word that is not there reads as, what one that is there does. -/
structure KeyS where
  kt : TypeId
  R : Value → Option (DataW Unit × List MemPlace)
  kl : List Nat → Lit
  z0 : DataW Unit
  d1 : DataW Unit

/-- Words in a list of the call's own and a map that has the keys of words. -/
structure AllI (S : KeyS) (w0 : World) (n len : Nat) (L M : List (List Nat)) (v : Value) (b : Nat) (wr : World) : Prop where
  fr : Fr w0.heap.size 22 3 wr v (L.map natsI)
  mp : ∃ D : DataW Unit, wr.ownsMap Try.prog S.kt S.R b M.length D ∧ ∀ x, Lw n x → x.length = len → Maps.has D (S.kl x) = decide (x ∈ M) ∧ (x ∈ M → D.atKey (S.kl x) S.z0 = S.d1)
  bb : w0.heap.size ≤ b
  ne : v.ownBlock ≠ some b
  bel : Below w0.heap.size w0 wr

theorem AllI.low {S : KeyS} {w0 wr w2 : World} {n len b : Nat} {L M : List (List Nat)} {v : Value} (h : AllI S w0 n len L M v b wr) (hb : Below wr.heap.size wr w2) : AllI S w0 n len L M v b w2 := by
  obtain ⟨D, h1, h2⟩ := h.mp
  exact ⟨h.fr.below hb (Nat.le_refl _), ⟨D, h1.kept (row := none) ⟨hb.os, hb.tape, hb.output, hb.size, fun k hk _ => hb.block k hk⟩ (by simp), h2⟩, h.bb, h.ne, h.bel.trans (hb.mono h.bel.size)⟩

theorem AllI.mapAt {S : KeyS} {w0 wr : World} {n len b : Nat} {L M : List (List Nat)} {v : Value} (h : AllI S w0 n len L M v b wr) : ∃ es c, wr.heap[b]? = some (.map es c) := by
  obtain ⟨D, ⟨es, c, h1, _⟩, _⟩ := h.mp
  exact ⟨es, c, h1⟩

/-- A word's key is put. -/
theorem AllI.put {S : KeyS} {w0 wr w2 : World} {n len b : Nat} {L : List (List Nat)} {M : List (List Nat)} {v : Value} {y : List Nat} {D : DataW Unit} (h : AllI S w0 n len L M v b wr) (hD : wr.ownsMap Try.prog S.kt S.R b M.length D)
    (hV : ∀ x, Lw n x → x.length = len → Maps.has D (S.kl x) = decide (x ∈ M) ∧ (x ∈ M → D.atKey (S.kl x) S.z0 = S.d1))
    (hy1 : Lw n y) (hy2 : y.length = len) (hk : WideAt.IsKeyLit (S.kl y)) (hinj : ∀ x, Lw n x → x.length = len → S.kl x = S.kl y → x = y)
    (ho : w2.ownsMap Try.prog S.kt S.R b (M.length + 1) (D.put (S.kl y) S.d1)) (hg : wr.grownBy w2 (some b)) : AllI S w0 n len L (M ++ [y]) v b w2 := by
  refine ⟨h.fr.mapG hg h.mapAt h.ne, ⟨_, by rw [List.length_append, List.length_singleton]; exact ho, fun x hx1 hx2 => ?_⟩, h.bb, h.ne, h.bel.grown hg h.bel.size (fun k hk => by simp at hk; have := h.bb; omega)⟩
  by_cases e : x = y
  · subst e
    rw [Maps.has_put_same hD.isMap hk, Maps.atKey_put_same hD.isMap hk]
    exact ⟨by simp, fun _ => rfl⟩
  · have hne : S.kl x ≠ S.kl y := fun e2 => e (hinj x hx1 hx2 e2)
    obtain ⟨h1, h2⟩ := hV x hx1 hx2
    rw [Maps.has_put_other hne, Maps.atKey_put_other hne, h1]
    refine ⟨by simp [e], fun hm => h2 ?_⟩
    simpa [e] using hm

/-- Opened for an append. -/
theorem AllI.opn {S : KeyS} {w0 wr : World} {n len b : Nat} {L M : List (List Nat)} {v : Value} (h : AllI S w0 n len L M v b wr) : ∃ vs ao c, v = .slice ao L.length c ∧ wr.ownsRow w0.heap.size 22 1 v L.length vs ∧
    ∀ (x : List Nat) (u : Value), Sl 0 3 wr u (ints (natsI x)) → ∀ v' w3, w3.ownsRow w0.heap.size 22 1 v' (L.length + 1) (vs ++ [u]) → (wr.alloc (.cells #[u] 22)).grownBy w3 v.ownBlock → (v'.ownBlock = v.ownBlock ∨ v'.ownBlock = some (wr.heap.size + 1)) → AllI S w0 n len (L ++ [x]) M v' b w3 := by
  obtain ⟨vs, h1, h2, h3⟩ := h.fr
  rw [List.length_map] at h1 h2
  obtain ⟨ao, c, hv⟩ := owns_form h2
  refine ⟨vs, ao, c, hv, h2, fun x u hu v' w3 ho hg hat => ?_⟩
  obtain ⟨D, hD, hV⟩ := h.mp
  have hbl := hD.lt
  refine ⟨?_, ⟨D, (hD.alloc _).kept hg (fun e => h.ne e.symm), hV⟩, h.bb, ?_, (h.bel.alloc h.bel.size _).grown hg (by have := h.bel.size; simp; omega) (fun x hx => (h2.lt x hx).1)⟩
  · rw [List.map_append, List.map_singleton]
    exact Fr.push (m := L.map natsI) (by decide) (by rw [List.length_map]; exact h1) (by rw [List.length_map]; exact h2.alloc _) (fun i hi => (h3 i hi).alloc _) (hu.alloc _) (by rw [List.length_map]; exact ho) hg
  · rcases hat with e | e
    · rw [e]; exact h.ne
    · rw [e]
      intro e2
      simp only [Option.some.injEq] at e2
      omega

/-- At the start. -/
theorem AllI.start {S : KeyS} {w0 wr w2 : World} {n b : Nat} {x : List Nat} {v : Value} (hf : Fr w0.heap.size 22 3 wr v ([x].map natsI)) (hm : wr.ownsMap Try.prog S.kt S.R b 0 (.map [])) (hb : w0.heap.size ≤ b) (hne : v.ownBlock ≠ some b) (hbel : Below w0.heap.size w0 wr)
    (hx : Lw n x) (hk : WideAt.IsKeyLit (S.kl x)) (hinj : ∀ z, Lw n z → z.length = x.length → S.kl z = S.kl x → z = x)
    (ho : w2.ownsMap Try.prog S.kt S.R b 1 ((DataW.map []).put (S.kl x) S.d1)) (hg : wr.grownBy w2 (some b)) : AllI S w0 n x.length [x] [x] v b w2 :=
  AllI.put (M := []) (y := x) (D := .map []) ⟨hf, ⟨_, hm, fun z _ _ => ⟨by simp [Maps.has], fun h => by simp at h⟩⟩, hb, hne, hbel⟩ hm (fun z _ _ => ⟨by simp [Maps.has], fun h => by simp at h⟩) hx rfl hk hinj ho hg

end Go.Proofs.Ytnooabbcfhmjaaa
