/- What is done with each choice: its row, if there is one, is kept. -/
import Derived.Test.YtfbgcfbafnmahaaRow3
namespace Go.Proofs.Ytfbgcfbafnmahaa
open Go.RowKit
attribute [local go_sem ↓] Go.wp_at_zero Go.wp_at_succ

/-- All below M is as it was, but block R. -/
structure But (M R : Nat) (w w' : World) : Prop where
  os : w'.os = w.os
  tape : w'.tape = w.tape
  output : w'.output = w.output
  size : w.heap.size ≤ w'.heap.size
  block : ∀ b, b < M → b ≠ R → w'.heap[b]? = w.heap[b]?

theorem But.of_below {M R : Nat} {w w' : World} (h : Below M w w') : But M R w w' := ⟨h.os, h.tape, h.output, h.size, fun b hb _ => h.block b hb⟩

theorem But.setCell {M R j : Nat} {w w' : World} (h : But M R w w') (u : Value) : But M R w (w'.setCell ⟨R, j, none⟩ u) :=
  ⟨h.os, h.tape, h.output, by simp [World.setCell, h.size], fun b hb hne => (Below.heap_setCell _ _ _ _ hne).trans (h.block b hb hne)⟩

theorem set_one {w : World} {b : Nat} {x u : Value} {t : TypeId} (h : w.heap[b]? = some (.cells #[x] t (0, 0))) : (w.setCell ⟨b, 0, none⟩ u).heap[b]? = some (.cells #[u] t (0, 0)) := by
  simp [World.setCell, Array.getElem?_modify, h]

theorem owns_set {B R n j : Nat} {e : TypeId} {w : World} {v u : Value} {xs : List Value} (h : w.ownsRow B e 1 v n xs) (hR : R < B) : (w.setCell ⟨R, j, none⟩ u).ownsRow B e 1 v n xs := by
  refine ⟨h.1, ?_⟩
  rcases h.2 with h2 | ⟨k, cap, cur, rfl, hb, hh, r⟩
  · exact Or.inl h2
  · exact Or.inr ⟨k, cap, cur, rfl, hb, (Below.heap_setCell w _ u k (by show k ≠ R; omega)).trans hh, r⟩

/-- Behind a store into a block of another element type. -/
theorem Fr.set {B b j : Nat} {t : TypeId} {w : World} {v u : Value} {m : List (List Int)} {cur : Array Value} (h : Fr B 28 3 w v m) (hb : b < B) (hR : w.heap[b]? = some (.cells cur t (0, 0))) (ht : t ≠ 3) : Fr B 28 3 (w.setCell ⟨b, j, none⟩ u) v m := by
  obtain ⟨vs, h1, h2, h3⟩ := h
  refine ⟨vs, h1, owns_set h2 hb, fun i hi => (h3 i hi).setCell u ⟨Nat.zero_le _, fun cur' e => ?_⟩⟩
  have e' : w.heap[b]? = some (.cells cur' 3 (0, 0)) := e
  rw [hR] at e'
  simp at e'
  exact ht e'.2

set_option maxRecDepth 100000 in
set_option maxHeartbeats 1600000 in
theorem look_any (B M R : Nat) (t P rs : List (List Int)) (u v rv : Value) (pp : Addr) (w : World) (hu : Mat B 28 3 w u t) (hv : Mat B 28 3 w v P) (ht : Box t.length 30 t) (hP : Box t.length 30 P) (h1 : 1 ≤ t.length) (h4 : t.length ≤ 4)
    (hpp : w.cell? pp = some v) (hR : w.heap[R]? = some (.cells #[rv] 22 (0, 0))) (hRM : R < M) (hM : M ≤ w.heap.size) (hrs : Fr M 28 3 w rv rs) (hn : rs.length ≤ 1000000) :
    Calls Try.prog 76 #[u, .pointer (some pp), .pointer (some ⟨R, 0, none⟩)] w fun e w' => e = .returned (.tuple #[]) ∧ ∃ rv', w'.heap[R]? = some (.cells #[rv'] 22 (0, 0)) ∧ Fr M 28 3 w' rv' (rs ++ (rowT t P).toList) ∧ But M R w w' := by
  obtain ⟨i0, hi, hz0, hz1, hz2⟩ := info_parts Try.info28
  obtain ⟨ao, cap, huu, hlc, hcm⟩ := mat_open hu
  obtain ⟨bo, cbp, hvv, hlb, hcb⟩ := mat_open hv
  subst huu hvv
  have HRT : Hid (Calls Try.prog 77 #[.slice ao t.length cap, .slice bo P.length cbp] w fun e w' => ∃ x, e = .returned (.tuple #[x, .bool (rowT t P).isSome]) ∧ (∀ B, Sl B 3 w' x (ints ((rowT t P).getD []))) ∧ Below w.heap.size w w') := rowThrough_any B t P _ _ w hu hv ht hP h1 h4
  have HR : Hid (w.heap[R]? = some (.cells #[rv] 22 (0, 0))) := hR
  have HRS : Hid (Fr M 28 3 w rv rs) := hrs
  clear hu hv ht hP hR hrs
  go_enter Try.func76, Try.ntmps76
  go_wp2_with fail
  refine HRT.out.mono ?_
  rintro e w1 ⟨x, rfl, hx, hb1⟩
  obtain ⟨xo, xc, hxv, _, _⟩ := sl_open (hx 0)
  subst hxv
  have HR1 : Hid (w1.heap[R]? = some (.cells #[rv] 22 (0, 0))) := (hb1.block R (by omega)).trans HR.out
  have HRS1 : Hid (Fr M 28 3 w1 rv rs) := HRS.out.below hb1 (Nat.le_refl _)
  have HBT : Hid (But M R w w1) := But.of_below (hb1.mono hM)
  have hsz1 : M ≤ w1.heap.size := Nat.le_trans hM hb1.size
  have HX : Hid (Sl 0 3 w1 (.slice xo ((rowT t P).getD []).length xc) (ints ((rowT t P).getD []))) := hx 0
  clear hx hb1 HRT
  obtain ⟨rr, hrr⟩ : ∃ rr, rr = rowT t P := ⟨_, rfl⟩
  have HRR : Hid (rr = rowT t P) := hrr
  rw [← hrr] at HX ⊢
  clear hrr
  cases rr with
  | none =>
    have HT : Hid (rs ++ (rowT t P).toList = rs) := by show _ = _; rw [← HRR.out]; simp
    go_wp2
    go_end0
    exact ⟨rfl, rv, HR1.out, by rw [HT.out]; exact HRS1.out, HBT.out⟩
  | some r =>
    have HX2 : Hid (Sl 0 3 w1 (.slice xo r.length xc) (ints r)) := HX.out
    have hc1 : w1.cell? ⟨R, 0, none⟩ = some rv := by simp [World.cell?, HR1.out]
    obtain ⟨vs, g1, g2, g3⟩ := HRS1.out
    have G1 : Hid (vs.length = rs.length) := g1
    have G2 : Hid (w1.ownsRow M 28 1 rv rs.length vs) := g2
    have G3 : Hid (∀ i, i < rs.length → Sl 0 3 w1 (vs.getD i (.slice none 0 0)) (ints (rs.getD i []))) := g3
    have HT : Hid (rs ++ (rowT t P).toList = rs ++ [r]) := by show _ = _; rw [← HRR.out]; rfl
    obtain ⟨rvo, rvc, hrv⟩ := owns_form g2
    subst hrv
    simp only [Option.getD_some, Option.isSome_some]
    clear g1 g2 g3 HX
    generalize hrl : r.length = rl at *
    go_wp2_with (first | (at_builtin; refine wpList_append_own _ rfl _ _ 22 rfl M 28 i0 (.slice none 0 0) 1 24 Try.underlying22 hi hz0 hz1 hz2 rfl (by decide) _ _ _ rfl (G2.out.alloc _) ⟨w1.heap.size, 0, none⟩ 1 1 [.slice xo rl xc] rfl rfl (one_new _ _ _) (one_slice _ _ _) ?d3 ?d4 ?d5 ?_))
    case d3 => unfold maxLen; omega
    case d4 => omega
    case d5 => simp; omega
    intro v' w3 ho hg _
    have R1 := Fr.push (e2 := 28) (e1 := 3) (m := rs) (u := .slice xo rl xc) (zs := r) (by decide) G1.out (G2.out.alloc _) (fun i hi => (G3.out i hi).alloc _) (HX2.out.alloc _) ho hg
    have HB3 : Hid (Below M w1 w3) := ((Below.refl M w1).alloc hsz1 _).grown hg (by simp; omega) (fun x hx => (G2.out.lt x hx).1)
    have HR3 : Hid (w3.heap[R]? = some (.cells #[.slice rvo rs.length rvc] 22 (0, 0))) := (HB3.out.block R hRM).trans HR1.out
    have hq1 : w3.cell? ⟨R, 0, none⟩ = some (.slice rvo rs.length rvc) := by simp [World.cell?, HR3.out]
    have hq2 : w3.frozen? ⟨R, 0, none⟩ = false := by simp [World.frozen?, HR3.out]
    obtain ⟨vo, vc, hv'⟩ := owns_form ho
    subst hv'
    have HRF : Hid (Fr M 28 3 (w3.setCell ⟨R, 0, none⟩ (.slice vo (rs.length + 1) vc)) (.slice vo (rs.length + 1) vc) (rs ++ [r])) := R1.set hRM HR3.out (by decide)
    have HBF : Hid (But M R w (w3.setCell ⟨R, 0, none⟩ (.slice vo (rs.length + 1) vc))) := by
      have h := HBT.out
      refine But.setCell ⟨HB3.out.os.trans h.os, HB3.out.tape.trans h.tape, HB3.out.output.trans h.output, Nat.le_trans h.size HB3.out.size, fun b hb hne => (HB3.out.block b hb).trans (h.block b hb hne)⟩ _
    clear ho hg R1
    go_wp2
    go_end0
    exact ⟨rfl, _, set_one HR3.out, by rw [HT.out]; exact HRF.out, HBF.out⟩

end Go.Proofs.Ytfbgcfbafnmahaa
