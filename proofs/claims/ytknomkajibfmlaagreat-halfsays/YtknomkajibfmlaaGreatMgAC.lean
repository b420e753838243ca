import Derived.Test.YtknomkajibfmlaaGreatMgAB
import Derived.Test.YtknomkajibfmlaaGreatLinAll
import Derived.Deep.DrawnRows
/- The program's elimination: one row cleared. -/
namespace Go.Proofs.YtknomkajibfmlaaGreat
open Go.RowKit
attribute [local go_sem ↓] Go.wp_at_zero Go.wp_at_succ

/-- Nothing but block g has been written. -/
structure Touch (g : Nat) (w w' : World) : Prop where
  os : w'.os = w.os
  tape : w'.tape = w.tape
  output : w'.output = w.output
  size : w'.heap.size = w.heap.size
  block : ∀ b, b ≠ g → w'.heap[b]? = w.heap[b]?

theorem Touch.refl (g : Nat) (w : World) : Touch g w w := ⟨rfl, rfl, rfl, rfl, fun _ _ => rfl⟩
theorem Touch.drewN {g : Nat} {w w' : World} (h : Touch g w w') (n : Nat) : Touch g w (w'.drewN n) := ⟨h.os, h.tape, h.output, h.size, h.block⟩
theorem Touch.drew {g : Nat} {w w' : World} (h : Touch g w w') : Touch g w w'.drew := ⟨h.os, h.tape, h.output, h.size, h.block⟩
theorem Touch.setCell {g : Nat} {w w' : World} (h : Touch g w w') (j : Nat) (u : Value) : Touch g w (w'.setCell ⟨g, j, none⟩ u) :=
  ⟨h.os, h.tape, h.output, by simp [World.setCell, h.size], fun b hb => (Below.heap_setCell _ _ _ _ hb).trans (h.block b hb)⟩
theorem Touch.cell {g : Nat} {w w' : World} (h : Touch g w w') {a : Addr} (ha : a.block ≠ g) : w'.cell? a = w.cell? a := World.cell?_of_block (w := w) (h.block _ ha)
theorem Touch.owns {g B n : Nat} {e : TypeId} {w w' : World} {v : Value} {xs : List Value} (h : Touch g w w') (ho : w.ownsRow B e 1 v n xs) (hv : v.ownBlock ≠ some g) : w'.ownsRow B e 1 v n xs := by
  obtain ⟨h1, h2⟩ := ho
  refine ⟨h1, ?_⟩
  rcases h2 with h2 | ⟨k, cap, cur, rfl, hb, hh, r⟩
  · exact Or.inl h2
  · exact Or.inr ⟨k, cap, cur, rfl, hb, (h.block k (fun e => hv (by simp [Value.ownBlock, e]))).trans hh, r⟩

/-- The quotient that comes out even. -/
theorem quo_even {k r t p d q : Int} (hd : d ≠ 0) (he : k * r - t * p = d * q) (hb : -9223372036854775808 < d * q ∧ d * q ≤ 9223372036854775807) (hq : -9223372036854775808 ≤ q ∧ q ≤ 9223372036854775807) :
    wrap64 ((wrap64 (wrap64 (k * r) - wrap64 (t * p))).tdiv d) = q := by
  have e1 : wrap64 (wrap64 (k * r) - wrap64 (t * p)) = d * q := by
    have e2 : wrap64 (wrap64 (k * r) - wrap64 (t * p)) = wrap64 (k * r - t * p) := by unfold wrap64; omega
    rw [e2, he]
    exact IntWalk.wrap64_in _ ⟨by omega, by omega⟩
  rw [e1, Int.mul_tdiv_cancel_left q hd]
  exact IntWalk.wrap64_in _ hq

set_option maxRecDepth 100000 in
set_option maxHeartbeats 1600000 in
theorem clear_any (B g gp c cap capp q : Nat) (r p nr : List Int) (d : Int) (w : World) (hr : w.ownsRow B 3 1 (.slice (some ⟨g, 0, none⟩) c cap) c (ints r)) (hp : w.ownsRow B 3 1 (.slice (some ⟨gp, 0, none⟩) c capp) c (ints p))
    (hgp : gp ≠ g) (hq : q < c) (hd : d ≠ 0) (hrl : r.length = c) (hpl : p.length = c) (hnl : nr.length = c)
    (he : ∀ j, j < c → p.getD q 0 * r.getD j 0 - r.getD q 0 * p.getD j 0 = d * nr.getD j 0)
    (hb : ∀ j, j < c → (d * nr.getD j 0).natAbs ≤ 9223372036854775807 ∧ (nr.getD j 0).natAbs ≤ 9223372036854775807) :
    Calls Tryz.prog 108 #[.slice (some ⟨g, 0, none⟩) c cap, .slice (some ⟨gp, 0, none⟩) c capp, .int .i64 q, .int .i64 d] w fun e w' =>
      e = .returned (.tuple #[]) ∧ w'.ownsRow B 3 1 (.slice (some ⟨g, 0, none⟩) c cap) c (ints nr) ∧ Touch g w w' := by
  have hcq1 : w.cell? ⟨gp, q, none⟩ = some (.int .i64 (p.getD q 0)) := by rw [hp.cellAt q (by omega), ints_get _ _ (by omega)]
  have hcq2 : w.cell? ⟨g, q, none⟩ = some (.int .i64 (r.getD q 0)) := by rw [hr.cellAt q (by omega), ints_get _ _ (by omega)]
  have HR : Hid (w.ownsRow B 3 1 (.slice (some ⟨g, 0, none⟩) c cap) c (ints r)) := hr
  have HP : Hid (w.ownsRow B 3 1 (.slice (some ⟨gp, 0, none⟩) c capp) c (ints p)) := hp
  have HE : Hid (∀ j, j < c → p.getD q 0 * r.getD j 0 - r.getD q 0 * p.getD j 0 = d * nr.getD j 0) := he
  have HBD : Hid (∀ j, j < c → (d * nr.getD j 0).natAbs ≤ 9223372036854775807 ∧ (nr.getD j 0).natAbs ≤ 9223372036854775807) := hb
  have HRL : Hid (r.length = c ∧ p.length = c ∧ nr.length = c) := ⟨hrl, hpl, hnl⟩
  have hcc : c ≤ cap ∧ cap ≤ 9223372036854775807 := by
    obtain ⟨_, h2⟩ := hr
    rcases h2 with ⟨h, _⟩ | ⟨k, cp, cur, h, _, _, h3, h4, _⟩
    · simp at h
    · simp only [Value.slice.injEq] at h; unfold maxLen at h4; omega
  have hccp : c ≤ capp ∧ capp ≤ 9223372036854775807 := by
    obtain ⟨_, h2⟩ := hp
    rcases h2 with ⟨h, _⟩ | ⟨k, cp, cur, h, _, _, h3, h4, _⟩
    · simp at h
    · simp only [Value.slice.injEq] at h; unfold maxLen at h4; omega
  clear hr hp he hb hrl hpl hnl
  generalize hkp : p.getD q 0 = kp at *
  generalize htk : r.getD q 0 = tk at *
  clear hkp htk
  have hqI0 : (0 : Int) ≤ (q : Int) := by omega
  have hqI1 : (q : Int) < (c : Int) := by omega
  go_enter Tryz.func108, Tryz.ntmps108
  go_wp2
  go_quiet (fail)
  go_wp2
  go_loopw [21] (fun i wr => ∃ k : Nat, k ≤ c ∧ i = .int .i64 k ∧ wr.ownsRow B 3 1 (.slice (some ⟨g, 0, none⟩) c cap) c (ints (nr.take k ++ r.drop k)) ∧ Touch g w wr) (fun i _ => c - (intOf i).toNat)
  case atStart =>
    refine ⟨0, Nat.zero_le _, rfl, ?_, (Touch.refl _ _).drewN _⟩
    rw [List.take_zero, List.drop_zero, List.nil_append]; exact HR.out
  case round =>
    obtain ⟨k, hk, rfl, hown, ht⟩ := hrel
    have HO : Hid (wr.ownsRow B 3 1 (.slice (some ⟨g, 0, none⟩) c cap) c (ints (nr.take k ++ r.drop k))) := hown
    have HT : Hid (Touch g w wr) := ht
    obtain ⟨hl1, hl2, hl3⟩ := HRL.out
    by_cases hlt : k < c
    · have e1 : (nr.take k ++ r.drop k).getD k 0 = r.getD k 0 := by
        simp only [List.getD_eq_getElem?_getD]; rw [List.getElem?_append_right (by simp; omega)]; simp [show k - min k nr.length = 0 by omega]
      have hck : wr.cell? ⟨g, k, none⟩ = some (.int .i64 (r.getD k 0)) := by
        rw [hown.cellAt k (by omega), ints_get _ _ (by simp; omega), e1]
      have hcp : wr.cell? ⟨gp, k, none⟩ = some (.int .i64 (p.getD k 0)) := by
        rw [ht.cell hgp, HP.out.cellAt k (by omega), ints_get _ _ (by omega)]
      have hfz := hown.frozenAt k
      have hee := HE.out k hlt
      have hbb := HBD.out k hlt
      have HEE : Hid (kp * r.getD k 0 - tk * p.getD k 0 = d * nr.getD k 0) := hee
      have HST : Hid (ints (nr.take (k + 1) ++ r.drop (k + 1)) = (ints (nr.take k ++ r.drop k)).set k (.int .i64 (nr.getD k 0))) := by
        show _ = _
        apply List.ext_getElem?
        intro i
        rw [List.getElem?_set, ints_length]
        simp only [ints, List.getElem?_map]
        by_cases hik : i < k
        · rw [List.getElem?_append_left (by simp; omega), List.getElem?_append_left (by simp; omega), if_neg (by omega)]
          simp [hik, show i < k + 1 by omega]
        · by_cases hik2 : i = k
          · subst hik2
            rw [List.getElem?_append_left (by simp; omega), if_pos rfl, if_pos (by simp; omega)]
            simp [show i < nr.length by omega]
          · rw [List.getElem?_append_right (by simp; omega), List.getElem?_append_right (by simp; omega), if_neg (by omega)]
            simp only [List.length_take, List.getElem?_drop]
            rw [show k + 1 + (i - min (k + 1) nr.length) = i by omega, show k + (i - min k nr.length) = i by omega]
      generalize r.getD k 0 = rk at *
      generalize p.getD k 0 = pk at *
      generalize nr.getD k 0 = nk at *
      clear hown ht e1 hee hl1 hl2 hl3 hcq1 hcq2
      have hkI0 : (0 : Int) ≤ (k : Int) := by omega
      have hkI1 : (k : Int) < (c : Int) := by omega
      have hdb : (d == 0) = false := beq_eq_false_iff_ne.2 hd
      go_wp2
      go_region
      rw [quo_even hd HEE.out ⟨by omega, by omega⟩ ⟨by omega, by omega⟩]
      go_wp2
      go_roundw
      case rel =>
        refine ⟨k + 1, by omega, by go_num, ?_, (HT.out.setCell k _).drew⟩
        rw [HST.out]
        exact (HO.out.stored k _).1.drew
      case measure => simp [intOf]; omega
    · clear hown ht hcq1 hcq2
      have HN : Hid (nr.take k ++ r.drop k = nr) := by
        show _ = _
        rw [List.take_of_length_le (by omega), List.drop_eq_nil_of_le (by omega), List.append_nil]
      clear hl1 hl2 hl3
      go_wp2
      go_end0
      exact ⟨rfl, by rw [← HN.out]; exact HO.out, HT.out⟩

end Go.Proofs.YtknomkajibfmlaaGreat

/- The program's elimination: a column looked through. -/
namespace Go.Proofs.YtknomkajibfmlaaGreat
open Go.RowKit

set_option maxRecDepth 100000 in
set_option maxHeartbeats 400000 in
theorem piv1_any (B q : Nat) (r : List Int) (v : Value) (a : Addr) (w : World) (hv : Sl B 3 w v (ints r)) (hq : q < r.length) (hc : w.cell? a = some (.int .i64 q)) :
    Calls Tryz.prog 107 #[v, .pointer (some a)] w fun e w' => e = .returned (.bool (r.getD q 0 != 0)) ∧ w' = w := by
  obtain ⟨ao, cap, hvv, hlc, hcm⟩ := sl_open hv
  subst hvv
  obtain ⟨b, o, cp, hs, hc1, hcc⟩ := sl_cell hv hq
  simp only [Value.slice.injEq] at hs
  obtain ⟨rfl, _, rfl⟩ := hs
  clear hv
  generalize r.getD q 0 = x at *
  go_enter Tryz.func107, Tryz.ntmps107
  go_wp2
  go_ret
  exact ⟨rfl, rfl⟩

/-- The first row with a number that is not 0 at q, or -1. -/
def findR (m : List (List Int)) (q : Nat) : Int := if m.any (fun r => r.getD q 0 != 0) then (m.findIdx (fun r => r.getD q 0 != 0) : Int) else -1

theorem anyR_snoc {p : List Int → Bool} {l : List (List Int)} {k : Nat} (h : k < l.length) (h0 : (l.take k).any p = false) : (l.take (k + 1)).any p = p (l.getD k []) := by
  rw [List.take_succ_eq_append_getElem h, List.any_append, h0]; simp [h]

theorem findR_hit {l : List (List Int)} {q k : Nat} (h : k < l.length) (h0 : (l.take k).any (fun r => r.getD q 0 != 0) = false) (h1 : ((l.getD k []).getD q 0 != 0) = true) : findR l q = k := by
  have hk : l.getD k [] = l[k] := by simp [h]
  have ha : l.any (fun r => r.getD q 0 != 0) = true := List.any_eq_true.2 ⟨l[k], List.getElem_mem h, by rw [← hk]; exact h1⟩
  have hi : l.findIdx (fun r => r.getD q 0 != 0) = k := by
    rw [List.findIdx_eq h]
    refine ⟨by rw [← hk]; exact h1, fun j hj => ?_⟩
    have := List.any_eq_false.1 h0 l[j] (by rw [List.mem_take_iff_getElem]; exact ⟨j, by omega, rfl⟩)
    simpa using this
  unfold findR; rw [ha, hi]; rfl

theorem findR_none {l : List (List Int)} {q : Nat} (h0 : l.any (fun r => r.getD q 0 != 0) = false) : findR l q = -1 := by
  unfold findR; rw [h0]; rfl

set_option maxRecDepth 100000 in
set_option maxHeartbeats 800000 in
theorem index103_any (B q : Nat) (m : List (List Int)) (v : Value) (a : Addr) (w : World) (hv : Mat B 38 3 w v m) (hr : ∀ r ∈ m, q < r.length) (hc : w.cell? a = some (.int .i64 q)) :
    Calls Tryz.prog 84 #[v, .func (.func 107) #[] #[.pointer (some a)]] w fun e w' => e = .returned (.int .i64 (findR m q)) ∧ w' = w := by
  obtain ⟨ao, cap, hvv, hlc, hcm⟩ := mat_open hv
  subst hvv
  have HV : Hid (Mat B 38 3 w (.slice ao m.length cap) m) := hv
  have HR : Hid (∀ r ∈ m, q < r.length) := hr
  have HC : Hid (w.cell? a = some (.int .i64 q)) := hc
  clear hv hr hc
  go_enter Tryz.func84, Tryz.ntmps84
  go_wp2
  go_loop [8] (fun i => ∃ k : Nat, k ≤ m.length ∧ i = .int .i64 k ∧ (m.take k).any (fun r => r.getD q 0 != 0) = false) (fun i => m.length - (intOf i).toNat)
  case atStart => exact ⟨0, Nat.zero_le _, rfl, by simp⟩
  case round =>
    obtain ⟨k, hk, rfl, hno⟩ := hrel
    have HN : Hid ((m.take k).any (fun r => r.getD q 0 != 0) = false) := hno
    clear hno
    by_cases hlt : k < m.length
    · obtain ⟨b, o, cp, r1, hs, hc1, hcc, hr1⟩ := mat_cell HV.out hlt
      simp only [Value.slice.injEq] at hs
      obtain ⟨rfl, _, rfl⟩ := hs
      have HS1 : Hid ((m.take (k + 1)).any (fun r => r.getD q 0 != 0) = ((m.getD k []).getD q 0 != 0)) := anyR_snoc (p := fun r => r.getD q 0 != 0) hlt HN.out
      have HH : Hid (((m.getD k []).getD q 0 != 0) = true → findR m q = k) := fun h => findR_hit hlt HN.out h
      have HQ : Hid (q < (m.getD k []).length) := HR.out _ (by simp [hlt])
      have HR1 : Hid (Sl B 3 w r1 (ints (m.getD k []))) := hr1
      clear hr1
      generalize m.getD k [] = r at *
      go_wp2_with fail
      refine (piv1_any B q r r1 a w HR1.out HQ.out HC.out).mono ?_
      rintro e w' ⟨rfl, rfl⟩
      generalize r.getD q 0 = x at *
      by_cases hx : x = 0
      · have hxb : (x != 0) = false := by simp [hx]
        clear hx
        go_wp2
        go_round
        case rel => exact ⟨k + 1, by omega, by go_num, by rw [HS1.out, hxb]⟩
        case measure => simp [intOf]; omega
      · have hxb : (x != 0) = true := by simp [hx]
        clear hx
        go_wp2
        go_ret
        exact ⟨ret_int (HH.out hxb).symm, rfl⟩
    · have HTK : Hid (m.take k = m) := List.take_of_length_le (by omega)
      go_wp2
      go_ret
      exact ⟨ret_int (findR_none (by rw [← HN.out, HTK.out])).symm, rfl⟩

/-- What elimination holds in memory: the struct at block R, its rows, its pivots. -/
structure RS (B R n c : Nat) (mat : Nat → Nat → Int) (piv : List Int) (val sgn : Int) (go capo : Nat) (pv : Value) (bs caps : Nat → Nat) (w : World) : Prop where
  st : w.heap[R]? = some (.cells #[.slice (some ⟨go, 0, none⟩) n capo, pv, .int .i64 val, .int .i64 sgn] 104 (0, 0))
  out : w.ownsRow B 38 1 (.slice (some ⟨go, 0, none⟩) n capo) n ((List.range n).map fun i => .slice (some ⟨bs i, 0, none⟩) c (caps i))
  row : ∀ i, i < n → w.ownsRow B 3 1 (.slice (some ⟨bs i, 0, none⟩) c (caps i)) c (ints ((List.range c).map (mat i)))
  inj : ∀ i j, i < n → j < n → i ≠ j → bs i ≠ bs j
  piv : w.ownsRow B 3 1 pv piv.length (ints piv)
  off : ∀ g, pv.ownBlock = some g → ∀ i, i < n → bs i ≠ g

def rowsOf (n c : Nat) (mat : Nat → Nat → Int) : List (List Int) := (List.range n).map fun i => (List.range c).map (mat i)

end Go.Proofs.YtknomkajibfmlaaGreat
