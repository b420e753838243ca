/- The document's Next of digits; Ones, Added. -/
import Derived.Test.YtiadekblckngiaaNm1
import Derived.Test.YtiadekblckngiaaDso
import Derived.Test.YtiadekblckngiaaStepsAll
namespace Go.Proofs.Ytiadekblckngiaa
open Go.RowKit
attribute [local go_sem ↓] Go.wp_at_zero Go.wp_at_succ

/-- The digits of x, the last q of them 0. -/
def cyL (n x q : Nat) : List Int := (digL n x).take (n - q) ++ List.replicate q 0
theorem cyL_zero (n x : Nat) : cyL n x 0 = digL n x := by
  unfold cyL
  rw [Nat.sub_zero, List.take_of_length_le (by rw [digL, digT_len]; exact Nat.le_refl _)]
  simp
def cyB (n x q : Nat) : Bool := (x % 2 ^ q != 2 ^ q - 1) || ((cyL n x q).getD (n - 1 - q) 0 == 0 && (cyL n x q).set (n - 1 - q) 1 == digL n (x + 1) && decide (x + 1 < 2 ^ n)) || ((cyL n x q).getD (n - 1 - q) 0 == 1 && ((cyL n x q).set (n - 1 - q) 2).set (n - 1 - q) 0 == cyL n x (q + 1) && x % 2 ^ (q + 1) == 2 ^ (q + 1) - 1)
theorem cyB_all : ∀ n, n < 5 → ∀ x, x < 2 ^ n → ∀ q, q < n → cyB n x q = true := by decide +kernel
theorem cy_all (n : Nat) (hn : n < 5) (x : Nat) (hx : x < 2 ^ n) (q : Nat) (hq : q < n) (h : x % 2 ^ q = 2 ^ q - 1) :
    ((cyL n x q).getD (n - 1 - q) 0 = 0 ∧ (cyL n x q).set (n - 1 - q) 1 = digL n (x + 1) ∧ x + 1 < 2 ^ n) ∨ ((cyL n x q).getD (n - 1 - q) 0 = 1 ∧ ((cyL n x q).set (n - 1 - q) 2).set (n - 1 - q) 0 = cyL n x (q + 1) ∧ x % 2 ^ (q + 1) = 2 ^ (q + 1) - 1) := by
  have hb := cyB_all n hn x hx q hq
  unfold cyB at hb
  simp only [Bool.or_eq_true, Bool.and_eq_true, beq_iff_eq, bne_iff_ne, decide_eq_true_eq] at hb
  rcases hb with (hb | ⟨⟨h1, h2⟩, h3⟩) | ⟨⟨h1, h2⟩, h3⟩
  · exact absurd h hb
  · exact .inl ⟨h1, h2, h3⟩
  · exact .inr ⟨h1, h2, h3⟩
theorem cy_end : ∀ n, n < 5 → ∀ x, x < 2 ^ n → x % 2 ^ n = 2 ^ n - 1 → x + 1 = 2 ^ n ∧ cyL n x n = digL n 0 := by decide +kernel
theorem cyL_len : ∀ n, n < 5 → ∀ x, x < 2 ^ n → ∀ q, q < n + 1 → (cyL n x q).length = n := by decide +kernel

set_option maxRecDepth 100000 in
set_option maxHeartbeats 1600000 in
theorem next_any (B n x g cap : Nat) (w : World) (hn1 : 1 ≤ n) (hn : n ≤ 4) (hx : x < 2 ^ n) (ho : w.ownsRow B 3 1 (.slice (some ⟨g, 0, none⟩) n cap) n (ints (digL n x))) :
    Calls Try.prog 18 #[.slice (some ⟨g, 0, none⟩) n cap, .int .i64 2] w fun e w' => (e = .returned (.bool true) ∧ x + 1 < 2 ^ n ∧ w'.ownsRow B 3 1 (.slice (some ⟨g, 0, none⟩) n cap) n (ints (digL n (x + 1))) ∧ Touch g w w') ∨ (e = .returned (.bool false) ∧ x + 1 = 2 ^ n ∧ Touch g w w') := by
  have hcap : n ≤ cap ∧ cap ≤ 9223372036854775807 := by
    rcases ho.2 with ⟨h2, _⟩ | ⟨g', c', cur, h1, _, _, h3, h4, _⟩
    · simp at h2
    · simp only [Value.slice.injEq, Option.some.injEq, Addr.mk.injEq, and_true, true_and] at h1
      obtain ⟨_, rfl⟩ := h1
      unfold maxLen at h4
      exact ⟨h3, h4⟩
  obtain ⟨hc1, hc2⟩ := hcap
  have HO : Hid (w.ownsRow B 3 1 (.slice (some ⟨g, 0, none⟩) n cap) n (ints (cyL n x 0))) := by rw [cyL_zero]; exact ho
  have HCY : Hid (∀ q, q < n → x % 2 ^ q = 2 ^ q - 1 → ((cyL n x q).getD (n - 1 - q) 0 = 0 ∧ (cyL n x q).set (n - 1 - q) 1 = digL n (x + 1) ∧ x + 1 < 2 ^ n) ∨ ((cyL n x q).getD (n - 1 - q) 0 = 1 ∧ ((cyL n x q).set (n - 1 - q) 2).set (n - 1 - q) 0 = cyL n x (q + 1) ∧ x % 2 ^ (q + 1) = 2 ^ (q + 1) - 1)) := fun q hq h => cy_all n (by omega) x hx q hq h
  have HCE : Hid (x % 2 ^ n = 2 ^ n - 1 → x + 1 = 2 ^ n) := fun h => (cy_end n (by omega) x hx h).1
  have HCL : Hid (∀ q, q < n + 1 → (cyL n x q).length = n) := fun q hq => cyL_len n (by omega) x hx q hq
  clear ho hx
  go_enter Try.func18, Try.ntmps18
  go_wp2
  go_loopw [5] (fun iv wr => ∃ q : Nat, q ≤ n ∧ iv = .int .i64 ((n : Int) - 1 - (q : Int)) ∧ x % 2 ^ q = 2 ^ q - 1 ∧ wr.ownsRow B 3 1 (.slice (some ⟨g, 0, none⟩) n cap) n (ints (cyL n x q)) ∧ Touch g w wr) (fun iv _ => (intOf iv + 1).toNat)
  case atStart => exact ⟨0, Nat.zero_le _, by simp, by simp [Nat.mod_one], HO.out, Touch.refl _ _⟩
  case round =>
    obtain ⟨q, hq, rfl, hm, hr, ht⟩ := hrel
    have HM : Hid (x % 2 ^ q = 2 ^ q - 1) := hm
    have HR : Hid (wr.ownsRow B 3 1 (.slice (some ⟨g, 0, none⟩) n cap) n (ints (cyL n x q))) := hr
    have HT : Hid (Touch g w wr) := ht
    clear hm hr ht HO
    by_cases hlt : q < n
    · obtain ⟨i, hi⟩ : ∃ i : Nat, i = n - 1 - q := ⟨_, rfl⟩
      have hiI : (n : Int) - 1 - (q : Int) = (i : Int) := by omega
      have hin : i < n := by omega
      have c1 : wr.cell? ⟨g, i, none⟩ = some (.int .i64 ((cyL n x q).getD i 0)) := by
        rw [HR.out.cellAt i (by omega), ints_get _ i (by rw [HCL.out q (by omega)]; exact hin)]
      have c2 : wr.frozen? ⟨g, i, none⟩ = false := HR.out.frozenAt i
      have hcy := HCY.out q hlt HM.out
      rw [← hi] at hcy
      have iI : (i : Int) < (n : Int) := by omega
      have iI0 : (0 : Int) ≤ (i : Int) := by omega
      rw [hiI]
      rcases hcy with ⟨e1, e2, e3⟩ | ⟨e1, e2, e3⟩
      · rw [e1] at c1
        have HS : Hid ((wr.setCell ⟨g, i, none⟩ (.int .i64 1)).ownsRow B 3 1 (.slice (some ⟨g, 0, none⟩) n cap) n (ints (digL n (x + 1))) ∧ Touch g w (wr.setCell ⟨g, i, none⟩ (.int .i64 1))) := by
          refine ⟨?_, HT.out.setCell i _⟩
          have h := (HR.out.stored i (.int .i64 1)).1
          rw [← ints_setN, e2] at h
          exact h
        have HE3 : Hid (x + 1 < 2 ^ n) := e3
        clear e1 e2 e3 HR HT HM hi hiI
        go_wp2
        go_ret
        exact Or.inl ⟨rfl, HE3.out, HS.out⟩
      · rw [e1] at c1
        have HS : Hid (((wr.setCell ⟨g, i, none⟩ (.int .i64 2)).setCell ⟨g, i, none⟩ (.int .i64 0)).ownsRow B 3 1 (.slice (some ⟨g, 0, none⟩) n cap) n (ints (cyL n x (q + 1))) ∧ Touch g w ((wr.setCell ⟨g, i, none⟩ (.int .i64 2)).setCell ⟨g, i, none⟩ (.int .i64 0))) := by
          refine ⟨?_, (HT.out.setCell i _).setCell i _⟩
          have h := ((HR.out.stored i (.int .i64 2)).1.stored i (.int .i64 0)).1
          rw [← ints_setN, ← ints_setN, e2] at h
          exact h
        have HE3 : Hid (x % 2 ^ (q + 1) = 2 ^ (q + 1) - 1) := e3
        have HII : Hid ((i : Int) - 1 = (n : Int) - 1 - ((q + 1 : Nat) : Int)) := by show _ = _; omega
        clear e1 e2 e3 HR HT HM hi hiI
        go_wp2
        exact ⟨⟨q + 1, by omega, by rw [HII.out], HE3.out, HS.out⟩, by simp [intOf]⟩
    · have hqe : q = n := by omega
      subst hqe
      have hneg : ¬ (0 : Int) ≤ (q : Int) - 1 - (q : Int) := by omega
      have HE : Hid (x + 1 = 2 ^ q) := HCE.out HM.out
      clear HM
      go_wp2
      go_ret
      exact Or.inr ⟨rfl, HE.out, HT.out⟩

end Go.Proofs.Ytiadekblckngiaa
