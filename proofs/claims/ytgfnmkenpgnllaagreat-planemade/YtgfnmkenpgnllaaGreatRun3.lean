/- The program's elimination: a column looked through. -/
import Derived.Test.YtgfnmkenpgnllaaGreatRun2
namespace Go.Proofs.YtgfnmkenpgnllaaGreat
open Go.RowKit

set_option maxRecDepth 100000 in
set_option maxHeartbeats 400000 in
theorem piv1_any (B q : Nat) (r : List Int) (v : Value) (a : Addr) (w : World) (hv : Sl B 3 w v (ints r)) (hq : q < r.length) (hc : w.cell? a = some (.int .i64 q)) :
    Calls Tryz.prog 137 #[v, .pointer (some a)] w fun e w' => e = .returned (.bool (r.getD q 0 != 0)) ∧ w' = w := by
  obtain ⟨ao, cap, hvv, hlc, hcm⟩ := sl_open hv
  subst hvv
  obtain ⟨b, o, cp, hs, hc1, hcc⟩ := sl_cell hv hq
  simp only [Value.slice.injEq] at hs
  obtain ⟨rfl, _, rfl⟩ := hs
  clear hv
  generalize r.getD q 0 = x at *
  go_enter Tryz.func137, Tryz.ntmps137
  go_wp2
  go_ret
  exact ⟨rfl, rfl⟩

/-- The first row with a number that is not 0 at q, or -1. -/
def findR (m : List (List Int)) (q : Nat) : Int := if m.any (fun r => r.getD q 0 != 0) then (m.findIdx (fun r => r.getD q 0 != 0) : Int) else -1

theorem anyR_snoc {p : List Int → Bool} {l : List (List Int)} {k : Nat} (h : k < l.length) (h0 : (l.take k).any p = false) : (l.take (k + 1)).any p = p (l.getD k []) := by
  rw [List.take_succ_eq_append_getElem h, List.any_append, h0]; simp [h]

theorem findR_hit {l : List (List Int)} {q k : Nat} (h : k < l.length) (h0 : (l.take k).any (fun r => r.getD q 0 != 0) = false) (h1 : ((l.getD k []).getD q 0 != 0) = true) : findR l q = k := by
  have hk : l.getD k [] = l[k] := by simp [h]
  have ha : l.any (fun r => r.getD q 0 != 0) = true := List.any_eq_true.2 ⟨l[k], List.getElem_mem h, by rw [← hk]; exact h1⟩
  have hi : l.findIdx (fun r => r.getD q 0 != 0) = k := by
    rw [List.findIdx_eq h]
    refine ⟨by rw [← hk]; exact h1, fun j hj => ?_⟩
    have := List.any_eq_false.1 h0 l[j] (by rw [List.mem_take_iff_getElem]; exact ⟨j, by omega, rfl⟩)
    simpa using this
  unfold findR; rw [ha, hi]; rfl

theorem findR_none {l : List (List Int)} {q : Nat} (h0 : l.any (fun r => r.getD q 0 != 0) = false) : findR l q = -1 := by
  unfold findR; rw [h0]; rfl

set_option maxRecDepth 100000 in
set_option maxHeartbeats 800000 in
theorem index103_any (B q : Nat) (m : List (List Int)) (v : Value) (a : Addr) (w : World) (hv : Mat B 22 3 w v m) (hr : ∀ r ∈ m, q < r.length) (hc : w.cell? a = some (.int .i64 q)) :
    Calls Tryz.prog 98 #[v, .func (.func 137) #[] #[.pointer (some a)]] w fun e w' => e = .returned (.int .i64 (findR m q)) ∧ w' = w := by
  obtain ⟨ao, cap, hvv, hlc, hcm⟩ := mat_open hv
  subst hvv
  have HV : Hid (Mat B 22 3 w (.slice ao m.length cap) m) := hv
  have HR : Hid (∀ r ∈ m, q < r.length) := hr
  have HC : Hid (w.cell? a = some (.int .i64 q)) := hc
  clear hv hr hc
  go_enter Tryz.func98, Tryz.ntmps98
  go_wp2
  go_loop [8] (fun i => ∃ k : Nat, k ≤ m.length ∧ i = .int .i64 k ∧ (m.take k).any (fun r => r.getD q 0 != 0) = false) (fun i => m.length - (intOf i).toNat)
  case atStart => exact ⟨0, Nat.zero_le _, rfl, by simp⟩
  case round =>
    obtain ⟨k, hk, rfl, hno⟩ := hrel
    have HN : Hid ((m.take k).any (fun r => r.getD q 0 != 0) = false) := hno
    clear hno
    by_cases hlt : k < m.length
    · obtain ⟨b, o, cp, r1, hs, hc1, hcc, hr1⟩ := mat_cell HV.out hlt
      simp only [Value.slice.injEq] at hs
      obtain ⟨rfl, _, rfl⟩ := hs
      have HS1 : Hid ((m.take (k + 1)).any (fun r => r.getD q 0 != 0) = ((m.getD k []).getD q 0 != 0)) := anyR_snoc (p := fun r => r.getD q 0 != 0) hlt HN.out
      have HH : Hid (((m.getD k []).getD q 0 != 0) = true → findR m q = k) := fun h => findR_hit hlt HN.out h
      have HQ : Hid (q < (m.getD k []).length) := HR.out _ (by simp [hlt])
      have HR1 : Hid (Sl B 3 w r1 (ints (m.getD k []))) := hr1
      clear hr1
      generalize m.getD k [] = r at *
      go_wp2_with fail
      refine (piv1_any B q r r1 a w HR1.out HQ.out HC.out).mono ?_
      rintro e w' ⟨rfl, rfl⟩
      generalize r.getD q 0 = x at *
      by_cases hx : x = 0
      · have hxb : (x != 0) = false := by simp [hx]
        clear hx
        go_wp2
        go_round
        case rel => exact ⟨k + 1, by omega, by go_num, by rw [HS1.out, hxb]⟩
        case measure => simp [intOf]; omega
      · have hxb : (x != 0) = true := by simp [hx]
        clear hx
        go_wp2
        go_ret
        exact ⟨ret_int (HH.out hxb).symm, rfl⟩
    · have HTK : Hid (m.take k = m) := List.take_of_length_le (by omega)
      go_wp2
      go_ret
      exact ⟨ret_int (findR_none (by rw [← HN.out, HTK.out])).symm, rfl⟩

/-- What elimination holds in memory: the struct at block R, its rows, its pivots. -/
structure RS (B R n c : Nat) (mat : Nat → Nat → Int) (piv : List Int) (val sgn : Int) (go capo : Nat) (pv : Value) (bs caps : Nat → Nat) (w : World) : Prop where
  st : w.heap[R]? = some (.cells #[.slice (some ⟨go, 0, none⟩) n capo, pv, .int .i64 val, .int .i64 sgn] 113 (0, 0))
  out : w.ownsRow B 22 1 (.slice (some ⟨go, 0, none⟩) n capo) n ((List.range n).map fun i => .slice (some ⟨bs i, 0, none⟩) c (caps i))
  row : ∀ i, i < n → w.ownsRow B 3 1 (.slice (some ⟨bs i, 0, none⟩) c (caps i)) c (ints ((List.range c).map (mat i)))
  inj : ∀ i j, i < n → j < n → i ≠ j → bs i ≠ bs j
  piv : w.ownsRow B 3 1 pv piv.length (ints piv)
  off : ∀ g, pv.ownBlock = some g → ∀ i, i < n → bs i ≠ g

def rowsOf (n c : Nat) (mat : Nat → Nat → Int) : List (List Int) := (List.range n).map fun i => (List.range c).map (mat i)

end Go.Proofs.YtgfnmkenpgnllaaGreat
