/- named.Parts, between the orders. -/
import Derived.Test.YtmffbaclgbmnbaaNp7
import Derived.Test.YtmffbaclgbmnbaaTwF
namespace Go.Proofs.Ytmffbaclgbmnbaa
open Go.RowKit

/-- The two lists that grow: told in the boxes s and s + 1. -/
structure T2 (s bn n : Nat) (st : PSt) (S : Nat → Prop) (W : World) (ov mv : Value) (vs : List Value) : Prop where
  bo : W.heap[s]? = some (.cells #[ov] 24 (0, 0))
  bm : W.heap[s + 1]? = some (.cells #[mv] 22 (0, 0))
  len : vs.length = st.ords.length
  oo : W.ownsRow (bn + 1) 22 1 ov st.ords.length vs
  om : W.ownsRow (bn + 1) 3 1 mv st.many.length (ints st.many)
  rows : ∀ i, i < st.ords.length → ∃ gi, (vs.getD i (.slice none 0 0)).ownBlock = some gi ∧ W.ownsRow (bn + 1) 3 1 (vs.getD i (.slice none 0 0)) n (ints (st.ords.getD i [])) ∧ ¬ S gi ∧ mv.ownBlock ≠ some gi
  so : ∀ b, ov.ownBlock = some b → ¬ S b
  sm : ∀ b, mv.ownBlock = some b → ¬ S b

theorem T2.move {s bn n : Nat} {st : PSt} {S S' : Nat → Prop} {W W' : World} {ov mv : Value} {vs : List Value} (h : T2 s bn n st S W ov mv vs) (hs : ¬ S s) (hs1 : ¬ S (s + 1))
    (hk : ∀ b, b < W.heap.size → ¬ S b → (b = s ∨ b = s + 1 ∨ bn + 1 ≤ b) → W'.heap[b]? = W.heap[b]?) (hS : ∀ b, b < W.heap.size → S' b → S b) : T2 s bn n st S' W' ov mv vs := by
  have l0 := (Array.getElem?_eq_some_iff.1 h.bo).1
  have l1 := (Array.getElem?_eq_some_iff.1 h.bm).1
  refine ⟨(hk s l0 hs (.inl rfl)).trans h.bo, (hk _ l1 hs1 (.inr (.inl rfl))).trans h.bm, h.len, own_keepB h.oo (fun b hb => ?_), own_keepB h.om (fun b hb => ?_), fun i hi => ?_, fun b hb hx => ?_, fun b hb hx => ?_⟩
  · have hl := h.oo.lt b hb
    exact hk b hl.2 (h.so b hb) (.inr (.inr hl.1))
  · have hl := h.om.lt b hb
    exact hk b hl.2 (h.sm b hb) (.inr (.inr hl.1))
  · obtain ⟨gi, k1, k2, k3, k4⟩ := h.rows i hi
    have hl := k2.lt gi k1
    refine ⟨gi, k1, own_keepB k2 (fun b hb => ?_), fun hx => k3 (hS gi hl.2 hx), k4⟩
    rw [k1] at hb
    simp only [Option.some.injEq] at hb
    subst hb
    exact hk gi hl.2 k3 (.inr (.inr hl.1))
  · exact h.so b hb (hS b (h.oo.lt b hb).2 hx)
  · exact h.sm b hb (hS b (h.om.lt b hb).2 hx)

structure NI (w WN : World) (s6 bn n : Nat) (m : List (List Int)) (g c : Nat → Nat) (rv : Value) (S : Nat → Prop) (pre : List (List Int)) (W : World) : Prop where
  sn : ∀ b, S b → bn ≤ b
  size : WN.heap.size ≤ W.heap.size
  os : W.os = w.os
  tape : W.tape = w.tape
  output : W.output = w.output
  low : ∀ b, b < w.heap.size → W.heap[b]? = w.heap[b]?
  box6 : W.heap[s6]? = some (.cells #[rv] 24 (0, 0))
  rest : OM (s6 + 1) g c n n W rv (pFold n m pre).rest
  two : ∃ ov mv vs, T2 w.heap.size bn n (pFold n m pre) S W ov mv vs

theorem NI.stab {w WN : World} {s6 bn n : Nat} {m : List (List Int)} {g c : Nat → Nat} {rv : Value} {S S' : Nat → Prop} {pre : List (List Int)} {W W' : World} (h : NI w WN s6 bn n m g c rv S pre W) (h1 : w.heap.size + 2 ≤ s6) (h2 : s6 < bn) (h3 : WN.heap.size = bn + 1)
    (hO : ∀ b, (rv.ownBlock = some b ∨ ∃ i, i < n ∧ b = g i) → b < bn) (hc : Chg S W W') (hs : ∀ b, S' b → S b ∨ W.heap.size ≤ b) : NI w WN s6 bn n m g c rv S' pre W' := by
  have hsz := h.size
  have hlow : ∀ b, b < bn → ¬ S b := fun b hb hx => by have := h.sn b hx; omega
  refine ⟨fun b hb => ?_, Nat.le_trans hsz hc.size, hc.os.trans h.os, hc.tape.trans h.tape, hc.output.trans h.output, fun b hb => (hc.block b (by omega) (hlow b (by omega))).trans (h.low b hb), (hc.block s6 (by omega) (hlow _ h2)).trans h.box6, h.rest.keep (fun b hb => hc.block b (h.rest.lt b hb).2 (hlow b (hO b hb))), ?_⟩
  · rcases hs b hb with hx | hx
    · exact h.sn b hx
    · omega
  · obtain ⟨ov, mv, vs, ht⟩ := h.two
    exact ⟨ov, mv, vs, ht.move (hlow _ (by omega)) (hlow _ (by omega)) (fun b hb hx _ => hc.block b hb hx) (fun b hb hx => (hs b hx).resolve_right (by omega))⟩

/-- What is handed over is newer than the numbers so far. -/
theorem hand_new {w WN : World} {s6 bn n : Nat} {m : List (List Int)} {g c : Nat → Nat} {rv : Value} {S S0 S1 : Nat → Prop} {pre : List (List Int)} {W0 W : World} {x : List Int} {N0 : Nat} {v : Value} {ov mv : Value} {vs : List Value}
    (h0 : NI w WN s6 bn n m g c rv S0 pre W0) (ht : T2 w.heap.size bn n (pFold n m pre) S W ov mv vs) (hh : HandF N0 W0 W S1 x #[v]) : ∀ b, mv.ownBlock = some b → v.ownBlock ≠ some b := by
  obtain ⟨u, hu, ho, _, _, _, hk⟩ := hh
  have hu' : v = u := by simpa using hu
  subst hu'
  intro b hb hx
  obtain ⟨ov0, mv0, vs0, t0⟩ := h0.two
  have e := hk _ _ _ _ t0.bm
  rw [ht.bm] at e
  simp only [Option.some.injEq, Obj.cells.injEq, Array.mk.injEq, List.cons.injEq, and_true] at e
  have e1 : mv = mv0 := e
  subst e1
  have h1 := (t0.om.lt b hb).2
  have h2 := (ho.lt b hx).1
  omega

/-- Behind the round: both lists have one more. -/
theorem NI.step {w WN : World} {s6 bn n : Nat} {m : List (List Int)} {g c : Nat → Nat} {rv : Value} {S : Nat → Prop} {pre : List (List Int)} {w3 w4 : World} {x : List Int} {z : Int} {v ov mv x44 x48 x43 x47 : Value} {vs : List Value} {R' : List (List Int)}
    (h1 : w.heap.size + 2 ≤ s6) (h2 : s6 < bn) (h3 : WN.heap.size = bn + 1) (hO : ∀ b, (rv.ownBlock = some b ∨ ∃ i, i < n ∧ b = g i) → b < bn)
    (hsn : ∀ b, S b → bn ≤ b) (hSw : ∀ b, S b → b < w3.heap.size) (hsz : WN.heap.size ≤ w3.heap.size) (hos : w3.os = w.os) (htp : w3.tape = w.tape) (hout : w3.output = w.output) (hlow : ∀ b, b < w.heap.size → w3.heap[b]? = w.heap[b]?) (hb6 : w3.heap[s6]? = some (.cells #[rv] 24 (0, 0)))
    (hom : OM (s6 + 1) g c n n w3 rv R') (ht : T2 w.heap.size bn n (pFold n m pre) S w3 ov mv vs)
    (hv : w3.ownsRow (bn + 1) 3 1 v n (ints x)) (hvS : ∀ b, v.ownBlock = some b → ¬ S b) (hvm : ∀ b, mv.ownBlock = some b → v.ownBlock ≠ some b) (hvs : ∃ gv, v.ownBlock = some gv)
    (hst : pFold n m (pre ++ [x]) = ⟨R', (pFold n m pre).ords ++ [x], (pFold n m pre).many ++ [z]⟩)
    (hA : RA (bn + 1) w3.heap.size w.heap.size 22 24 ov v (pFold n m pre).ords.length vs w4 true true true x43 x44)
    (hB : RA (bn + 1) w3.heap.size (w.heap.size + 1) 3 22 mv (.int .i64 z) (pFold n m pre).many.length (ints (pFold n m pre).many) w4 true true true x47 x48)
    (hR : RO w3.heap.size w.heap.size (w.heap.size + 1) ov mv w3 w4) : NI w WN s6 bn n m g c rv S (pre ++ [x]) w4 ∧ Kpt (fun b => S b ∨ False) w3 w4 := by
  have hovb : ∀ b, ov.ownBlock = some b → bn + 1 ≤ b := fun b hb => (ht.oo.lt b hb).1
  have hmvb : ∀ b, mv.ownBlock = some b → bn + 1 ≤ b := fun b hb => (ht.om.lt b hb).1
  have keepL : ∀ b, b ≤ bn → b ≠ w.heap.size → b ≠ w.heap.size + 1 → w4.heap[b]? = w3.heap[b]? := fun b hb n1 n2 => hR.block b (by omega) n1 n2 (fun e => by have := hovb b e; omega) (fun e => by have := hmvb b e; omega)
  have keepI : ∀ (u : Value) (l : List Int) (b : Nat), w3.ownsRow (bn + 1) 3 1 u n (ints l) → u.ownBlock = some b → mv.ownBlock ≠ some b → w4.heap[b]? = w3.heap[b]? := fun u l b hu hb hm => by
    have hl := hu.lt b hb
    exact hR.block b hl.2 (by omega) (by omega) (fun e => own_apart ht.oo hu b e hb) hm
  obtain ⟨gv, hgv⟩ := hvs
  have hvm' : mv.ownBlock ≠ some gv := fun e => hvm gv e hgv
  have hgl := hv.lt gv hgv
  have hx48 : ∀ b, b < w3.heap.size → mv.ownBlock ≠ some b → x48.ownBlock ≠ some b := fun b hb hm e => by
    rcases (hB.app rfl).2 with k | ⟨q, k1, k2⟩
    · rw [e] at k; exact hm k.symm
    · rw [e] at k1
      simp only [Option.some.injEq] at k1
      omega
  refine ⟨⟨hsn, Nat.le_trans hsz hR.size, hR.os.trans hos, hR.tape.trans htp, hR.output.trans hout, fun b hb => (keepL b (by omega) (by omega) (by omega)).trans (hlow b hb), (keepL s6 (by omega) (by omega) (by omega)).trans hb6, ?_, x44, x48, vs ++ [v], ?_⟩, ⟨hR.size, fun b hb hs => ?_⟩⟩
  · rw [hst]
    exact hom.keep (fun b hb => by
      have q1 := hO b hb
      have q2 := (hom.lt b hb).1
      exact keepL b (by omega) (by omega) (by omega))
  · rw [hst]
    refine ⟨hA.box1 rfl, hB.box1 rfl, by simp [ht.len], ?_, ?_, fun i hi => ?_, fun b hb hs => ?_, fun b hb hs => ?_⟩
    · simpa using (hA.app rfl).1
    · have e : ints ((pFold n m pre).many ++ [z]) = ints (pFold n m pre).many ++ [.int .i64 z] := by simp [ints]
      rw [e]
      simpa using (hB.app rfl).1
    · by_cases e : i < (pFold n m pre).ords.length
      · obtain ⟨gi, k1, k2, k3, k4⟩ := ht.rows i e
        have e1 : (vs ++ [v]).getD i (.slice none 0 0) = vs.getD i (.slice none 0 0) := by
          simp only [List.getD_eq_getElem?_getD]; rw [List.getElem?_append_left (by have := ht.len; omega)]
        have e2 : ((pFold n m pre).ords ++ [x]).getD i [] = (pFold n m pre).ords.getD i [] := by
          simp only [List.getD_eq_getElem?_getD]; rw [List.getElem?_append_left e]
        simp only
        rw [e1, e2]
        refine ⟨gi, k1, own_keepB k2 (fun b hb => ?_), k3, hx48 gi (k2.lt gi k1).2 k4⟩
        rw [k1] at hb
        simp only [Option.some.injEq] at hb
        subst hb
        exact keepI _ _ gi k2 k1 k4
      · have hi' : i = (pFold n m pre).ords.length := by simp at hi; omega
        subst hi'
        have e1 : (vs ++ [v]).getD (pFold n m pre).ords.length (.slice none 0 0) = v := by rw [← ht.len]; simp
        have e2 : ((pFold n m pre).ords ++ [x]).getD (pFold n m pre).ords.length [] = x := by simp
        simp only
        rw [e1, e2]
        refine ⟨gv, hgv, own_keepB hv (fun b hb => ?_), hvS gv hgv, hx48 gv hgl.2 hvm'⟩
        rw [hgv] at hb
        simp only [Option.some.injEq] at hb
        subst hb
        exact keepI _ _ gv hv hgv hvm'
    · rcases (hA.app rfl).2 with k | ⟨q, k1, k2⟩
      · rw [k] at hb; exact ht.so b hb hs
      · rw [hb] at k1
        simp only [Option.some.injEq] at k1
        have := hSw b hs
        omega
    · rcases (hB.app rfl).2 with k | ⟨q, k1, k2⟩
      · rw [k] at hb; exact ht.sm b hb hs
      · rw [hb] at k1
        simp only [Option.some.injEq] at k1
        have := hSw b hs
        omega
  · have hs' : S b := hs.elim id False.elim
    have q := hsn b hs'
    exact hR.block b hb (by omega) (by omega) (fun e => ht.so b e hs') (fun e => ht.sm b e hs')

end Go.Proofs.Ytmffbaclgbmnbaa
