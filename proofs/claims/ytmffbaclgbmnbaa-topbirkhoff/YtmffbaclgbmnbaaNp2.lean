/- Squares whose rows are the call's own, each in a block of its own, and are written into; named.room, named.take. -/
import Derived.Test.YtmffbaclgbmnbaaNp1
import Derived.Test.YtmffbaclgbmnbaaRefs
import Derived.Deep.QuietTactic
import Derived.BigQuiet
namespace Go.Proofs.Ytmffbaclgbmnbaa
open Go.RowKit
attribute [local go_sem ↓] Go.wp_at_zero Go.wp_at_succ

def rowsV (g c : Nat → Nat) (n k : Nat) : List Value := (List.range k).map fun i => .slice (some ⟨g i, 0, none⟩) n (c i)

theorem rowsV_get {g c : Nat → Nat} {n k i : Nat} (h : i < k) : (rowsV g c n k)[i]? = some (.slice (some ⟨g i, 0, none⟩) n (c i)) := by simp [rowsV, h]
theorem rowsV_succ (g c : Nat → Nat) (n k : Nat) : rowsV g c n (k + 1) = rowsV g c n k ++ [.slice (some ⟨g k, 0, none⟩) n (c k)] := by simp [rowsV, List.range_succ]
theorem rowsV_len (g c : Nat → Nat) (n k : Nat) : (rowsV g c n k).length = k := by simp [rowsV]

structure OM (B : Nat) (g c : Nat → Nat) (k n : Nat) (w : World) (v : Value) (R : List (List Int)) : Prop where
  num : R.length = k
  len : ∀ i, i < k → (R.getD i []).length = n
  out : w.ownsRow B 22 1 v k (rowsV g c n k)
  row : ∀ i, i < k → w.ownsRow B 3 1 (.slice (some ⟨g i, 0, none⟩) n (c i)) n (ints (R.getD i []))
  apart : ∀ i j, i < k → j < k → g i = g j → i = j

theorem own_heap {B e s n : Nat} {w : World} {g cap : Nat} {xs : List Value} (h : w.ownsRow B e s (.slice (some ⟨g, 0, none⟩) n cap) n xs) : ∃ cur, w.heap[g]? = some (.cells cur e (0, 0)) := by
  rcases h.2 with ⟨h', _⟩ | ⟨g', cap', cur, h', hb, hg, _⟩
  · simp at h'
  · simp only [Value.slice.injEq, Option.some.injEq, Addr.mk.injEq, and_true, true_and] at h'
    obtain ⟨rfl, rfl⟩ := h'
    exact ⟨cur, hg⟩

theorem own_keepB {B e s n : Nat} {w W : World} {v : Value} {xs : List Value} (h : w.ownsRow B e s v n xs) (hk : ∀ g, v.ownBlock = some g → W.heap[g]? = w.heap[g]?) : W.ownsRow B e s v n xs := by
  refine ⟨h.1, ?_⟩
  rcases h.2 with h2 | ⟨g, cap, cur, rfl, hb, hh, r⟩
  · exact Or.inl h2
  · exact Or.inr ⟨g, cap, cur, rfl, hb, (hk g rfl).trans hh, r⟩

theorem OM.form {B : Nat} {g c : Nat → Nat} {k n : Nat} {w : World} {v : Value} {R : List (List Int)} (h : OM B g c k n w v R) (hk : 1 ≤ k) : ∃ G cap, v = .slice (some ⟨G, 0, none⟩) k cap ∧ B ≤ G ∧ G < w.heap.size ∧ k ≤ cap ∧ cap ≤ 9223372036854775807 := by
  rcases h.out.2 with ⟨_, h0⟩ | ⟨G, cap, cur, hv, hb, hh, h1, h2, _⟩
  · omega
  · exact ⟨G, cap, hv, hb, (h.out.lt G (by rw [hv]; rfl)).2, h1, by simpa [maxLen] using h2⟩

theorem OM.cellG {B : Nat} {g c : Nat → Nat} {k n G cap : Nat} {w : World} {R : List (List Int)} (h : OM B g c k n w (.slice (some ⟨G, 0, none⟩) k cap) R) {i : Nat} (hi : i < k) : w.cell? ⟨G, i, none⟩ = some (.slice (some ⟨g i, 0, none⟩) n (c i)) := by
  rw [h.out.cellAt i (by omega), rowsV_get hi]

theorem OM.ent {B : Nat} {g c : Nat → Nat} {k n : Nat} {w : World} {v : Value} {R : List (List Int)} (h : OM B g c k n w v R) {i j : Nat} (hi : i < k) (hj : j < n) : w.cell? ⟨g i, j, none⟩ = some (.int .i64 (ent R i j)) ∧ w.frozen? ⟨g i, j, none⟩ = false := by
  refine ⟨?_, (h.row i hi).frozenAt j⟩
  rw [(h.row i hi).cellAt j (by omega), ints_get _ _ (by rw [h.len i hi]; exact hj)]
  rfl

theorem OM.keep {B : Nat} {g c : Nat → Nat} {k n : Nat} {w W : World} {v : Value} {R : List (List Int)} (h : OM B g c k n w v R) (hk : ∀ b, (v.ownBlock = some b ∨ ∃ i, i < k ∧ b = g i) → W.heap[b]? = w.heap[b]?) : OM B g c k n W v R :=
  ⟨h.num, h.len, own_keepB h.out (fun b hb => hk b (Or.inl hb)), fun i hi => own_keepB (h.row i hi) (fun b hb => hk b (Or.inr ⟨i, hi, by simpa [Value.ownBlock] using hb.symm⟩)), h.apart⟩

theorem OM.lt {B : Nat} {g c : Nat → Nat} {k n : Nat} {w : World} {v : Value} {R : List (List Int)} (h : OM B g c k n w v R) : ∀ b, (v.ownBlock = some b ∨ ∃ i, i < k ∧ b = g i) → B ≤ b ∧ b < w.heap.size := by
  rintro b (hb | ⟨i, hi, rfl⟩)
  · exact h.out.lt b hb
  · exact (h.row i hi).lt _ rfl

theorem OM.below {B N : Nat} {g c : Nat → Nat} {k n : Nat} {w W : World} {v : Value} {R : List (List Int)} (h : OM B g c k n w v R) (hb : Below N w W) (hN : w.heap.size ≤ N) : OM B g c k n W v R :=
  h.keep fun b hx => hb.block b (by have := (h.lt b hx).2; omega)

theorem ints_set (l : List Int) (j : Nat) (z : Int) : ints (l.set j z) = (ints l).set j (.int .i64 z) := by simp [ints, List.map_set]

theorem OM.set {B : Nat} {g c : Nat → Nat} {k n : Nat} {w : World} {v : Value} {R : List (List Int)} (h : OM B g c k n w v R) {i j : Nat} (hi : i < k) (z : Int) : OM B g c k n (w.setCell ⟨g i, j, none⟩ (.int .i64 z)) v (setM R i j z) := by
  have hoth : ∀ b, b ≠ g i → (w.setCell ⟨g i, j, none⟩ (.int .i64 z)).heap[b]? = w.heap[b]? := fun b hb => Below.heap_setCell w _ _ b hb
  obtain ⟨cur, hcur⟩ := own_heap (h.row i hi)
  refine ⟨by rw [setM_len]; exact h.num, fun a ha => by rw [setM_row]; exact h.len a ha, own_keepB h.out (fun b hb => hoth b fun e => ?_), fun a ha => ?_, h.apart⟩
  · subst e
    rcases h.out.2 with ⟨rfl, _⟩ | ⟨G, cap, cur', rfl, _, hh, _⟩
    · simp [Value.ownBlock] at hb
    · simp only [Value.ownBlock, Option.some.injEq] at hb
      subst hb
      rw [hcur] at hh
      simp at hh
  · by_cases e : a = i
    · subst e
      have h1 := ((h.row a ha).stored j (.int .i64 z)).1
      have e2 : (setM R a j z).getD a [] = (R.getD a []).set j z := by
        unfold setM
        have : a < R.length := by rw [h.num]; exact ha
        simp [List.getD_eq_getElem?_getD, this]
      rw [e2, ints_set]
      exact h1
    · have e2 : (setM R i j z).getD a [] = R.getD a [] := by
        unfold setM
        simp [List.getD_eq_getElem?_getD, List.getElem?_set_ne (Ne.symm e)]
      rw [e2]
      exact own_keepB (h.row a ha) (fun b hb => hoth b fun e3 => e (by
        simp only [Value.ownBlock, Option.some.injEq] at hb
        exact h.apart a i ha hi (by omega)))

/-- An order of n numbers. -/
structure Od (n : Nat) (o : List Int) : Prop where
  len : o.length = n
  rng : ∀ i, i < n → ∃ j : Nat, o.getD i 0 = (j : Int) ∧ j < n

set_option maxRecDepth 100000 in
set_option maxHeartbeats 800000 in
theorem room_any (B : Nat) (g c : Nat → Nat) (n : Nat) (R : List (List Int)) (o : List Int) (v ov : Value) (w : World) (h1 : 1 ≤ n) (h6 : n ≤ 6) (hR : OM B g c n n w v R) (hS : SqN n R) (ho : Od n o) (hov : Sl 0 3 w ov (ints o)) :
    Calls Try.prog 13 #[v, ov] w fun e w' => e = .returned (.int .i64 (roomTo R o n)) ∧ ∃ q, w' = w.drewN q := by
  obtain ⟨G, cap, rfl, hG1, hG2, hG3, hG4⟩ := hR.form h1
  obtain ⟨oo, oc, hoe, holc, hocm⟩ := sl_open hov
  rw [ho.len] at hoe
  subst hoe
  have HR : Hid (OM B g c n n w (.slice (some ⟨G, 0, none⟩) n cap) R) := hR
  have HS : Hid (SqN n R) := hS
  have HO : Hid (Od n o) := ho
  have HOV : Hid (Sl 0 3 w (.slice oo n oc) (ints o)) := hov
  obtain ⟨j0, hj0, hj0n⟩ := ho.rng 0 (by omega)
  have x0 := hR.cellG (i := 0) (by omega)
  have x1 := (hR.ent (i := 0) (j := j0) (by omega) hj0n).1
  obtain ⟨ob, oq, ocp, hs, _, hcc⟩ := sl_cell hov (k := 0) (by rw [ho.len]; omega)
  simp only [Value.slice.injEq] at hs
  obtain ⟨rfl, -, rfl⟩ := hs
  rw [hj0, Nat.add_zero] at hcc
  have HR0 : Hid (ent R 0 j0 = roomTo R o 0) := by
    show _ = ent R 0 (o.getD 0 0).toNat
    rw [hj0]; rfl
  rw [HR0.out] at x1
  have hn0 : (0 : Int) < (n : Int) := by omega
  have hjI : (j0 : Int) < (n : Int) := by omega
  have hjI0 : (0 : Int) ≤ (j0 : Int) := by omega
  clear hR hS ho hov hj0 HR0 holc hocm
  go_enter Try.func13, Try.ntmps13
  go_wp2_with fail
  go_big_quiet (fail)
  obtain ⟨W, hW⟩ : ∃ W, W = w.drewN nq := ⟨_, rfl⟩
  have HW : Hid (W = w.drewN nq) := hW
  rw [← hW]
  clear hW x0 x1 hcc hjI hjI0
  go_wp2
  go_loopw [5, 6, 7, 18] (fun m _ _ i wr => ∃ k : Nat, k ≤ n ∧ i = .int .i64 k ∧ m = .int .i64 (roomTo R o k) ∧ wr = W) (fun _ _ _ i _ => n - (intOf i).toNat)
  case atStart => exact ⟨0, Nat.zero_le _, rfl, rfl, rfl⟩
  case round =>
    obtain ⟨k, hk, rfl, rfl, rfl⟩ := hrel
    by_cases hlt : k < n
    · obtain ⟨j, hj, hjn⟩ := HO.out.rng k hlt
      have x0 : wr.cell? ⟨G, k, none⟩ = some (.slice (some ⟨g k, 0, none⟩) n (c k)) := by rw [HW.out]; exact HR.out.cellG hlt
      have x1 : wr.cell? ⟨g k, j, none⟩ = some (.int .i64 (ent R k j)) := by rw [HW.out]; exact (HR.out.ent hlt hjn).1
      obtain ⟨ob', oq', ocp', hs', _, hcc'⟩ := sl_cell HOV.out (k := k) (by rw [HO.out.len]; omega)
      simp only [Value.slice.injEq, Option.some.injEq, Addr.mk.injEq] at hs'
      obtain ⟨⟨rfl, rfl, -⟩, -, rfl⟩ := hs'
      rw [hj] at hcc'
      have x2 : wr.cell? ⟨ob, oq + k, none⟩ = some (.int .i64 j) := by rw [HW.out]; exact hcc'
      have HST : Hid (roomTo R o (k + 1) = if ent R k j < roomTo R o k then ent R k j else roomTo R o k) := by
        show (if ent R k (o.getD k 0).toNat < roomTo R o k then ent R k (o.getD k 0).toNat else roomTo R o k) = _
        rw [hj]; rfl
      clear hcc' hj
      generalize ent R k j = x at *
      generalize roomTo R o k = m at *
      go_wp2
      go_roundw
      case rel => exact ⟨k + 1, by omega, by go_num, by rw [HST.out], trivial⟩
      case measure => simp [intOf]; omega
    · have hke : k = n := by omega
      subst hke
      go_wp2
      go_ret
      exact ⟨rfl, _, HW.out⟩

/-- Only these blocks are written into. -/
structure Wrt (S : Nat → Prop) (w W : World) : Prop where
  os : W.os = w.os
  tape : W.tape = w.tape
  output : W.output = w.output
  size : W.heap.size = w.heap.size
  block : ∀ b, ¬ S b → W.heap[b]? = w.heap[b]?

theorem Wrt.refl (S : Nat → Prop) (w : World) : Wrt S w w := ⟨rfl, rfl, rfl, rfl, fun _ _ => rfl⟩
theorem Wrt.set {S : Nat → Prop} {w W : World} (h : Wrt S w W) {b j : Nat} (hb : S b) (u : Value) : Wrt S w (W.setCell ⟨b, j, none⟩ u) :=
  ⟨h.os, h.tape, h.output, by rw [← h.size]; simp [World.setCell], fun x hx => (Below.heap_setCell W _ _ x (fun e => hx (by rw [show x = b from e]; exact hb))).trans (h.block x hx)⟩

set_option maxRecDepth 100000 in
set_option maxHeartbeats 800000 in
theorem take_any (B : Nat) (g c : Nat → Nat) (n : Nat) (R : List (List Int)) (o : List Int) (z : Int) (v ov : Value) (w : World) (h1 : 1 ≤ n) (h6 : n ≤ 6) (hR : OM B g c n n w v R) (hS : SqN n R) (ho : Od n o) (hov : Sl 0 3 w ov (ints o)) (hoff : ∀ a l c', ov = .slice (some a) l c' → ∀ i, i < n → a.block ≠ g i) (hz : 0 ≤ z) (hle : ∀ i, i < n → z ≤ ent R i (o.getD i 0).toNat) :
    Calls Try.prog 14 #[v, ov, .int .i64 z] w fun e w' => e = .returned (.tuple #[]) ∧ OM B g c n n w' v (takeTo R o z n) ∧ Wrt (fun b => ∃ i, i < n ∧ b = g i) w w' := by
  obtain ⟨G, cap, rfl, hG1, hG2, hG3, hG4⟩ := hR.form h1
  obtain ⟨oo, oc, hoe, holc, hocm⟩ := sl_open hov
  rw [ho.len] at hoe
  subst hoe
  have hz2 : z ≤ 10000 := by
    have a := hle 0 (by omega)
    have b := hS.bd 0 (o.getD 0 0).toNat
    omega
  have HTF : Hid (∀ k, k ≤ n → SqN n (takeTo R o z k)) := fun k hk => (takeTo_fact hS (fun i hi => by obtain ⟨j, hj, hjn⟩ := ho.rng i hi; rw [hj]; simpa using hjn) hz hle k hk).1
  have HR : Hid (OM B g c n n w (.slice (some ⟨G, 0, none⟩) n cap) R) := hR
  have HO : Hid (Od n o) := ho
  have HOV : Hid (Sl 0 3 w (.slice oo n oc) (ints o)) := hov
  have HOF : Hid (∀ a l c', Value.slice oo n oc = .slice (some a) l c' → ∀ i, i < n → a.block ≠ g i) := hoff
  clear hR hS ho hov holc hocm hoff hle
  go_enter Try.func14, Try.ntmps14
  go_wp2
  go_loopw [6, 7, 10] (fun _ _ i wr => ∃ k : Nat, k ≤ n ∧ i = .int .i64 k ∧ OM B g c n n wr (.slice (some ⟨G, 0, none⟩) n cap) (takeTo R o z k) ∧ Wrt (fun b => ∃ i, i < n ∧ b = g i) w wr) (fun _ _ i _ => n - (intOf i).toNat)
  case atStart => exact ⟨0, Nat.zero_le _, rfl, HR.out, Wrt.refl _ _⟩
  case round =>
    obtain ⟨k, hk, rfl, hom, hwr⟩ := hrel
    have HOM : Hid (OM B g c n n wr (.slice (some ⟨G, 0, none⟩) n cap) (takeTo R o z k)) := hom
    have HWR : Hid (Wrt (fun b => ∃ i, i < n ∧ b = g i) w wr) := hwr
    by_cases hlt : k < n
    · obtain ⟨j, hj, hjn⟩ := HO.out.rng k hlt
      have x0 := hom.cellG hlt
      obtain ⟨x1, x3⟩ := hom.ent hlt hjn
      obtain ⟨ob', oq', ocp', hs', _, hcc'⟩ := sl_cell HOV.out (k := k) (by rw [HO.out.len]; omega)
      simp only [Value.slice.injEq] at hs'
      obtain ⟨rfl, -, rfl⟩ := hs'
      rw [hj] at hcc'
      have x2 : wr.cell? ⟨ob', oq' + k, none⟩ = some (.int .i64 j) := by
        refine (World.cell?_of_block (w := w) (a := ⟨ob', oq' + k, none⟩) (hwr.block _ ?_)).trans hcc'
        rintro ⟨i, hi, e⟩
        exact HOF.out ⟨ob', oq', none⟩ _ _ rfl i hi e
      have HNX : Hid (OM B g c n n (wr.setCell ⟨g k, j, none⟩ (.int .i64 (ent (takeTo R o z k) k j - z))) (.slice (some ⟨G, 0, none⟩) n cap) (takeTo R o z (k + 1))) := by
        have e : takeTo R o z (k + 1) = setM (takeTo R o z k) k j (ent (takeTo R o z k) k j - z) := by
          show setM (takeTo R o z k) k (o.getD k 0).toNat (ent (takeTo R o z k) k (o.getD k 0).toNat - z) = _
          rw [hj]; rfl
        show OM _ _ _ _ _ _ _ _
        rw [e]
        exact hom.set hlt _
      have HWX : Hid (∀ u, Wrt (fun b => ∃ i, i < n ∧ b = g i) w (wr.setCell ⟨g k, j, none⟩ u)) := fun u => hwr.set ⟨k, hlt, rfl⟩ u
      have hbd := (HTF.out k hk).bd k j
      clear hom hwr hcc' hj
      generalize ent (takeTo R o z k) k j = x at *
      go_wp2
      go_roundw
      case rel => exact ⟨k + 1, by omega, by go_num, HNX.out, HWX.out _⟩
      case measure => simp [intOf]; omega
    · have hke : k = n := by omega
      subst hke
      clear hom hwr
      go_wp2
      go_end0
      exact ⟨rfl, HOM.out, HWR.out⟩

end Go.Proofs.Ytmffbaclgbmnbaa
