/- TopBirkhoff: an even square is the sum of its parts. -/
import Derived.Test.YtmffbaclgbmnbaaBk3
import Derived.Test.YtmffbaclgbmnbaaBk4
import Derived.Test.YtmffbaclgbmnbaaNp8
namespace Go.Proofs.Ytmffbaclgbmnbaa
open Go.RowKit
attribute [local go_sem ↓] Go.wp_at_zero Go.wp_at_succ

theorem ev_ok {n : Nat} {m : List (List Int)} {T : Int} (hS : SqN n m) (hT : EvT n m T) (h1 : 1 ≤ n) (h6 : n ≤ 6) : evE m = 0 := by
  have hc : cntE m = 0 := by
    unfold cntE
    rw [if_neg (by rw [hS.num]; omega)]
    refine rowsN_all fun i hi => ?_
    have hi' : i < n := by rw [← hS.num]; exact hi
    have hb := fun j => hS.bd i j
    have hl := hS.len i hi'
    unfold ent at hb
    generalize m.getD i [] = r at *
    unfold rowN withE
    rw [if_neg (by rw [hS.num]; exact fun h => h hl), if_neg]
    rw [Bool.not_eq_true, List.any_eq_false]
    intro z hz
    obtain ⟨j, hj, rfl⟩ := List.getElem_of_mem hz
    have h2 := hb j
    rw [List.getD_eq_getElem?_getD, List.getElem?_eq_getElem hj, Option.getD_some] at h2
    simp only [outB]
    simp
    omega
  have hev : evenB m = true := by
    unfold evenB
    rw [List.all_eq_true]
    intro i hi
    rw [List.mem_range, hS.num] at hi
    unfold csm rsm
    rw [hS.num, sumF_N, sumF_N, sumF_N, hT.row i hi, hT.row 0 (by omega), hT.col i hi]
    simp
  unfold evE
  rw [if_neg (by rw [hc]; simp), if_pos hev]

/-- What is known of the parts. -/
structure BP (n : Nat) (m os : List (List Int)) (ks : List Int) : Prop where
  len : ks.length = os.length
  pos : ∀ i, i < os.length → 1 ≤ ks.getD i 0 ∧ ks.getD i 0 ≤ 10000
  ins : ∀ o ∈ os, o.length = n ∧ IsOrd n o
  few : os.length ≤ (n - 1) * (n - 1) + 1
  zero : ∀ i j, i < n → j < n → ent (subTo n m os ks os.length) i j = 0

theorem bp {n : Nat} {m : List (List Int)} {T : Int} (hS : SqN n m) (hT : EvT n m T) (h1 : 1 ≤ n) (h6 : n ≤ 6) : BP n m (prO m) (prM m) := by
  have he := ev_ok hS hT h1 h6
  have hP := pFold_PF h1 hS hT (ords n n []) (fun o ho => by
    have := ords_is n [] o ⟨by simp, by simp⟩ ho
    exact ⟨by simpa using this.2, this.1⟩)
  have e1 : prO m = (pFold n m (ords n n [])).ords := by unfold prO; rw [if_pos he, hS.num]
  have e2 : prM m = (pFold n m (ords n n [])).many := by unfold prM; rw [if_pos he, hS.num]
  rw [e1, e2]
  refine ⟨hP.len.symm, fun i hi => hP.pos i (by rw [← hP.len]; exact hi), hP.ins, parts_few h1 hP, fun i j hi hj => ?_⟩
  rw [hP.len, pFold_sub]
  exact rest_zero hP i j hi hj

theorem nodup_inB {c : List Int} (h : c.Nodup) {i : Nat} (hi : i < c.length) : (c.take i).contains (c.getD i 0) = false := by
  have e : c.getD i 0 = c[i] := by simp [hi]
  rw [e]
  cases hx : (c.take i).contains c[i] with
  | false => rfl
  | true =>
    rw [List.contains_iff_mem] at hx
    rw [List.mem_take_iff_getElem] at hx
    obtain ⟨j, hj, hj2⟩ := hx
    exact absurd hj2 (List.pairwise_iff_getElem.1 h j i (by omega) hi (by omega))

theorem Sl.takeB {B n c : Nat} {w : World} {ao : Option Addr} {zs : List Int} (h : Sl B 3 w (.slice ao zs.length c) (ints zs)) (hn : n ≤ zs.length) : Sl B 3 w (.slice ao n c) (ints (zs.take n)) := by
  obtain ⟨bo, cap, hv, h1, h2, h3, h4⟩ := h
  simp only [Value.slice.injEq] at hv
  obtain ⟨rfl, _, rfl⟩ := hv
  refine ⟨ao, c, by simp; omega, by simp at h1 ⊢; omega, h2, fun i hi => ?_, h4⟩
  have hi' : i < n := by simp at hi; omega
  obtain ⟨b, o, ha, hc, ht⟩ := h3 i (by simp; omega)
  refine ⟨b, o, ha, ?_, ht⟩
  rw [hc, ints_get _ _ (by omega), ints_get _ _ (by simp; omega)]
  simp [hi']

/-- While parts are taken away. -/
structure LB (w w4 : World) (N1 n : Nat) (g c : Nat → Nat) (lv : Value) (R : List (List Int)) (bd : Int) (wr : World) : Prop where
  bel : Below w.heap.size w wr
  mid : ∀ b, N1 ≤ b → b < w4.heap.size → wr.heap[b]? = w4.heap[b]?
  left : OM w.heap.size g c n n wr lv R
  sz : w4.heap.size ≤ wr.heap.size
  bds : ∀ i j, -bd ≤ ent R i j ∧ ent R i j ≤ bd

theorem LB.below {w w2 : World} {N1 n : Nat} {g c : Nat → Nat} {lv : Value} {R : List (List Int)} {bd : Int} {wr wq : World} (h : LB w w2 N1 n g c lv R bd wr) (hb : Below wr.heap.size wr wq) : LB w w2 N1 n g c lv R bd wq :=
  ⟨h.bel.trans (hb.mono h.bel.size), fun b h1 h2 => (hb.block b (by have := h.sz; omega)).trans (h.mid b h1 h2), h.left.below hb (Nat.le_refl _), Nat.le_trans h.sz hb.size, h.bds⟩

theorem LB.set {w w2 : World} {N1 n : Nat} {g c : Nat → Nat} {lv : Value} {R : List (List Int)} {bd bd' : Int} {wr : World} (h : LB w w2 N1 n g c lv R bd wr) (hN : ∀ i, i < n → g i < N1) {i j : Nat} (hi : i < n) (hj : j < n) {z : Int} (hz : -bd' ≤ z ∧ z ≤ bd') (hb : bd ≤ bd') :
    LB w w2 N1 n g c lv (setM R i j z) bd' (wr.setCell ⟨g i, j, none⟩ (.int .i64 z)) := by
  have hg := hN i hi
  have hB : w.heap.size ≤ g i := ((h.left.row i hi).lt _ rfl).1
  have hoth : ∀ b, b ≠ g i → (wr.setCell ⟨g i, j, none⟩ (.int .i64 z)).heap[b]? = wr.heap[b]? := fun b hb => Below.heap_setCell wr _ _ b hb
  refine ⟨h.bel.trans ⟨rfl, rfl, rfl, by simp [World.setCell], fun b hb => hoth b (by omega)⟩, fun b h1 h2 => (hoth b (by omega)).trans (h.mid b h1 h2), h.left.set hi z, by simp [World.setCell]; exact h.sz, fun a b => ?_⟩
  rw [setM_ent (by rw [h.left.num]; exact hi) (by rw [h.left.len i hi]; exact hj)]
  split
  · exact hz
  · have := h.bds a b; omega

/-- Where the parts lie. -/
structure LP (N1 n : Nat) (w4 : World) (os : List (List Int)) (ks : List Int) (xo yo : Option Addr) : Prop where
  row : ∀ k, k < os.length → ∃ xb ob oq oc, xo = some ⟨xb, 0, none⟩ ∧ n ≤ oc ∧ ∀ wq : World, (∀ b, N1 ≤ b → b < w4.heap.size → wq.heap[b]? = w4.heap[b]?) → wq.cell? ⟨xb, k, none⟩ = some (.slice (some ⟨ob, oq, none⟩) n oc) ∧ (∀ j, j < n → wq.cell? ⟨ob, oq + j, none⟩ = some (.int .i64 ((os.getD k []).getD j 0))) ∧ Sl 0 3 wq (.slice (some ⟨ob, oq, none⟩) n oc) (ints (os.getD k []))
  num : ∀ k, k < os.length → ∃ yb, yo = some ⟨yb, 0, none⟩ ∧ ∀ wq : World, (∀ b, N1 ≤ b → b < w4.heap.size → wq.heap[b]? = w4.heap[b]?) → wq.cell? ⟨yb, k, none⟩ = some (.int .i64 (ks.getD k 0))

theorem lp_of {N1 n xc yc : Nat} {w4 : World} {os : List (List Int)} {ks : List Int} {xo yo : Option Addr} (h1 : 1 ≤ n) (hf : FrN N1 w4 (.slice xo os.length xc) os) (hk : w4.ownsRow N1 3 1 (.slice yo os.length yc) os.length (ints ks)) (hl : ks.length = os.length) (hi : ∀ o ∈ os, o.length = n) : LP N1 n w4 os ks xo yo := by
  obtain ⟨ws, f1, f2, f3⟩ := hf
  refine ⟨fun k hk' => ?_, fun k hk' => ?_⟩
  · rcases f2.2 with ⟨_, h0⟩ | ⟨xb, cap, cur, hv, hB, hh, _⟩
    · omega
    · simp only [Value.slice.injEq] at hv
      obtain ⟨rfl, -, rfl⟩ := hv
      have hXB := f2.lt xb rfl
      have hlen : (os.getD k []).length = n := hi _ (by simp [hk'])
      have hs := f3 k hk'
      obtain ⟨ob, oq, oc, hv, hcap, hc0⟩ := sl_cell hs.1 (k := 0) (by rw [hlen]; omega)
      rw [hlen] at hv
      refine ⟨xb, ob, oq, oc, rfl, by omega, fun wq hq => ⟨?_, fun j hj => ?_, ?_⟩⟩
      · have e : wq.cell? ⟨xb, k, none⟩ = w4.cell? ⟨xb, k, none⟩ := World.cell?_of_block (w := w4) (hq xb hXB.1 hXB.2)
        rw [e, f2.cellAt k (by omega), ← hv, List.getD_eq_getElem?_getD]
        have : k < ws.length := by omega
        simp [this]
      · have h2 := hs.mid hq
        obtain ⟨ob', oq', oc', hv', _, hcj⟩ := sl_cell h2 (k := j) (by rw [hlen]; exact hj)
        rw [hv] at hv'
        simp only [Value.slice.injEq, Option.some.injEq, Addr.mk.injEq] at hv'
        obtain ⟨⟨rfl, rfl, -⟩, -⟩ := hv'
        exact hcj
      · have h2 := hs.mid hq
        rw [hv] at h2
        exact h2
  · rcases hk.2 with ⟨_, h0⟩ | ⟨yb, cap, cur, hv, hB, hh, _⟩
    · omega
    · simp only [Value.slice.injEq] at hv
      obtain ⟨rfl, -, rfl⟩ := hv
      have hYB := hk.lt yb rfl
      refine ⟨yb, rfl, fun wq hq => ?_⟩
      have e : wq.cell? ⟨yb, k, none⟩ = w4.cell? ⟨yb, k, none⟩ := World.cell?_of_block (w := w4) (hq yb hYB.1 hYB.2)
      rw [e, hk.cellAt k (by omega)]
      exact ints_get _ _ (by omega)

end Go.Proofs.Ytmffbaclgbmnbaa
