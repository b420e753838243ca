/- tropic.Least: what a choice costs, and what holds between the rounds. -/
import Derived.Test.YthocinibieefkaaTw4
namespace Go.Proofs.Ythocinibieefkaa
open Go.RowKit Go.Shelf
attribute [local go_sem ↓] Go.wp_at_zero Go.wp_at_succ

theorem costF_bd {M : List (List Int)} (h : Sqr M) (f : Nat → Nat) : ∀ k, -((10000 * k : Nat) : Int) ≤ costF M f k ∧ costF M f k ≤ ((10000 * k : Nat) : Int)
  | 0 => by simp [costF]
  | k + 1 => by
    have h1 := costF_bd h f k
    have h2 := h.ent (i := k) (j := f k)
    simp only [costF]
    omega

theorem ord_at {n : Nat} {o : List Int} (h : IsOrd n o) (hl : o.length = n) {k : Nat} (hk : k < n) : ∃ t : Nat, o.getD k 0 = t ∧ t < n := by
  have e : o.getD k 0 = o[k]'(by omega) := by simp [show k < o.length by omega]
  have := h.1 _ (List.getElem_mem (show k < o.length by omega))
  exact ⟨(o.getD k 0).toNat, by omega, by omega⟩

set_option maxRecDepth 100000 in
set_option maxHeartbeats 800000 in
theorem sumOf_any (B b : Nat) (M : List (List Int)) (o : List Int) (po : Option Addr) (pc : Nat) (v : Value) (w : World) (hM : Sqr M) (hv : Mat B 26 3 w (.slice po M.length pc) M) (ho : Sl B 3 w v (ints o)) (hor : IsOrd M.length o) (hol : o.length = M.length)
    (hc : w.cell? ⟨b, 0, none⟩ = some (.slice po M.length pc)) :
    Calls Try.prog 18 #[v, .pointer (some ⟨b, 0, none⟩)] w fun e w' => e = .returned (.int .i64 (cst M M.length o)) ∧ w' = w := by
  obtain ⟨ao, cap, hvv, hlc, hcm⟩ := sl_open ho
  subst hvv
  have HV : Hid (Mat B 26 3 w (.slice po M.length pc) M) := hv
  have HO : Hid (Sl B 3 w (.slice ao o.length cap) (ints o)) := ho
  have HOR : Hid (IsOrd M.length o) := hor
  have HM : Hid (Sqr M) := hM
  have h6 := hM.n6
  clear hv ho hor hM
  rw [show o.length = M.length from hol] at HO hlc ⊢
  have HOL : Hid (o.length = M.length) := hol
  clear hol
  unfold cst
  generalize hn : M.length = n at *
  have HN : Hid (M.length = n) := hn
  clear hn
  go_enter Try.func18, Try.ntmps18
  go_wp2
  go_loopw [4, 9, 5, 6] (fun s i _ _ wr => ∃ k : Nat, k ≤ n ∧ i = .int .i64 k ∧ s = .int .i64 (costF M (fun i => (o.getD i 0).toNat) k) ∧ wr = w) (fun _ i _ _ _ => n - (intOf i).toNat)
  case atStart => exact ⟨0, Nat.zero_le _, rfl, rfl, rfl⟩
  case round =>
    obtain ⟨k, hk, rfl, rfl, rfl⟩ := hrel
    by_cases hlt : k < n
    · have hb1 := costF_bd HM.out (fun i => (o.getD i 0).toNat) k
      have hb2 := HM.out.ent (i := k) (j := (o.getD k 0).toNat)
      have HS : Hid (costF M (fun i => (o.getD i 0).toNat) (k + 1) = costF M (fun i => (o.getD i 0).toNat) k + ent M k (o.getD k 0).toNat) := rfl
      obtain ⟨t, ht, htn⟩ := ord_at HOR.out HOL.out hlt
      have HO' := HO.out
      rw [← HOL.out] at HO' 
      obtain ⟨b1, o1, c1, hs1, hc1, hcc1⟩ := sl_cell HO' (k := k) (by rw [HOL.out]; exact hlt)
      simp only [Value.slice.injEq] at hs1
      obtain ⟨rfl, _, rfl⟩ := hs1
      have hvm := HV.out
      rw [← HN.out] at hvm
      obtain ⟨b2, o2, c2, u, hs2, _, hcc2, hu⟩ := mat_cell hvm (k := k) (by rw [HN.out]; exact hlt)
      simp only [Value.slice.injEq, true_and] at hs2
      obtain ⟨rfl, rfl⟩ := hs2
      have hrl : (M.getD k []).length = n := by
        have e : M.getD k [] = M[k]'(by rw [HN.out]; exact hlt) := by simp [show k < M.length by rw [HN.out]; exact hlt]
        rw [e, HM.out.len _ (List.getElem_mem _), HN.out]
      obtain ⟨b3, o3, c3, hs3, hc3, hcc3⟩ := sl_cell hu (k := t) (by omega)
      subst hs3
      have he : (M.getD k []).getD t 0 = ent M k (o.getD k 0).toNat := by rw [ht]; rfl
      rw [he] at hcc3
      rw [ht] at hcc1
      rw [hrl] at hcc2 hc3
      clear hu HO' hvm hrl he
      generalize ent M k (o.getD k 0).toNat = E at *
      generalize hC : costF M (fun i => (o.getD i 0).toNat) k = C at *
      clear hC ht
      have hb3 : -60000 ≤ C ∧ C ≤ 60000 := by omega
      clear hb1
      go_wp2
      go_roundw
      case rel => exact ⟨k + 1, by omega, by go_num, by rw [HS.out], trivial⟩
      case measure => simp [intOf]; omega
    · have hke : k = n := by omega
      subst hke
      go_wp2
      go_ret
      exact ⟨rfl, rfl⟩

/-- What Least answers. -/
def leastQ (M : List (List Int)) : Int × List Int := if sqE M = 0 then leastP M M.length (ords M.length M.length []) else (0, [])

/-- Between the rounds. -/
structure LsI (w WN : World) (s1 : Nat) (M : List (List Int)) (n : Nat) (S : Nat → Prop) (pre : List (List Int)) (W : World) : Prop where
  sn : ∀ b, S b → s1 + 1 ≤ b
  kp : Kpt (fun b => b ≠ w.heap.size + 1 ∧ b ≠ w.heap.size + 2 ∧ b ≤ s1) WN W
  os : W.os = w.os
  tape : W.tape = w.tape
  output : W.output = w.output
  sm : W.heap[w.heap.size + 1]? = some (.cells #[.int .i64 (leastP M n pre).1] 3 (0, 0))
  ch : ∃ cv, W.heap[w.heap.size + 2]? = some (.cells #[cv] 26 (0, 0)) ∧ W.ownsRow (s1 + 2) 3 1 cv (leastP M n pre).2.length (ints (leastP M n pre).2) ∧ (∀ g, cv.ownBlock = some g → ¬ S g) ∧ ((leastP M n pre).2 = [] → cv = .slice none 0 0)

theorem LsI.stab {w WN W W' : World} {s1 n : Nat} {M : List (List Int)} {pre : List (List Int)} {S S' : Nat → Prop} (h : LsI w WN s1 M n S pre W) (h3 : w.heap.size + 3 ≤ s1) (hN : WN.heap.size = s1 + 2) (hc : Chg S W W') (hs : ∀ b, S' b → S b ∨ W.heap.size ≤ b) : LsI w WN s1 M n S' pre W' := by
  have h0 := h.kp.size
  obtain ⟨cv, k1, k2, k3, k4⟩ := h.ch
  have hlow : ∀ b, b < s1 + 1 → ¬ S b := fun b hb hx => by have := h.sn b hx; omega
  refine ⟨fun b hb => ?_, h.kp.trans (Kpt.of_chg hc fun i _ hi hsi => hlow i (by omega) hsi), hc.os.trans h.os, hc.tape.trans h.tape, hc.output.trans h.output, (hc.block _ (by omega) (hlow _ (by omega))).trans h.sm, cv, (hc.block _ (by omega) (hlow _ (by omega))).trans k1, ⟨k2.1, ?_⟩, fun g hg hx => ?_, k4⟩
  · rcases hs b hb with h1 | h1
    · exact h.sn b h1
    · omega
  · rcases k2.2 with h2 | ⟨g, cap, cur, rfl, hb, hh, r⟩
    · exact Or.inl h2
    · exact Or.inr ⟨g, cap, cur, rfl, hb, (hc.block g (Array.getElem?_eq_some_iff.1 hh).1 (k3 g rfl)).trans hh, r⟩
  · rcases hs g hx with h1 | h1
    · exact k3 g hg h1
    · have := (k2.lt g hg).2; omega

end Go.Proofs.Ythocinibieefkaa
