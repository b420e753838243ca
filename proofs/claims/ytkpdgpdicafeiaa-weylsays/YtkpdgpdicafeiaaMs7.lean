/- slices.Backward over a list of numbers: what it hands over. -/
import Derived.Test.YtkpdgpdicafeiaaRfs
import Derived.Test.YtkpdgpdicafeiaaDatA
namespace Go.Proofs.Ytkpdgpdicafeiaa
open Go.RowKit Go.Shelf
attribute [local go_sem] Oper.semAt_some

/-- What is handed over: a place and what is there. -/
def HandB (l : List Int) (_ : World) (S : Nat → Prop) (x : Nat) (vs : Array Value) : Prop := vs = #[.int .i64 x, .int .i64 (l.getD x 0)] ∧ ∀ b, ¬ S b

def dnL (n : Nat) : List Nat := (List.range n).reverse

theorem dnL_len (n : Nat) : (dnL n).length = n := by simp [dnL]

theorem dnL_get {n k : Nat} (h : k < n) : (dnL n).take (k + 1) = (dnL n).take k ++ [n - 1 - k] := by
  rw [List.take_succ_eq_append_getElem (by rw [dnL_len]; exact h)]
  simp [dnL]

set_option maxRecDepth 100000 in
set_option maxHeartbeats 4000000 in
theorem back_seq (l : List Int) (v : Value) (bp N : Nat) (w0 : World) (hcp : w0.heap[bp]? = some (.cells #[v] 23 (0, 0))) (hll : l.length ≤ 1000000)
    (hv : ∀ W', (∀ b, b < N → W'.heap[b]? = w0.heap[b]?) → Sl N 3 W' v (ints l)) (hN : N ≤ w0.heap.size) :
    SeqS Try.prog 42 #[.pointer (some ⟨bp, 0, none⟩)] (HandB l) (dnL l.length) (fun b => b < N ∨ b = bp) (fun _ => False) w0 := by
  intro lp J Jx W hW hst hstx hY hJ
  have hbp : bp < w0.heap.size := (Array.getElem?_eq_some_iff.1 hcp).1
  obtain ⟨ao, cap, hvv, hlc, hcm⟩ := sl_open (hv w0 (fun _ _ => rfl))
  subst hvv
  have HK0 : Hid (∀ b, b < N ∨ b = bp → b < w0.heap.size) := fun b hb => by rcases hb with h | h <;> omega
  have HKW : Hid (∀ b, b < N ∨ b = bp → W.heap[b]? = w0.heap[b]?) := fun b hb => hW.block b (HK0.out b hb)
  have HCE : Hid (∀ W', (∀ b, b < N ∨ b = bp → W'.heap[b]? = w0.heap[b]?) → W'.cell? ⟨bp, 0, none⟩ = some (.slice ao l.length cap) ∧ Sl N 3 W' (.slice ao l.length cap) (ints l)) := fun W' h =>
    ⟨by have := (h bp (.inr rfl)).trans hcp; simp [World.cell?, this], hv W' fun b hb => h b (.inl hb)⟩
  have HSZ : Hid (w0.heap.size ≤ W.heap.size) := hW.size
  have HY : Hid (∀ pre x W1, J (fun _ => False) pre W1 → (pre ++ [x]) <+: dnL l.length → YieldAt Fence.wide 0 Try.prog lp #[.int .i64 (x : Nat), .int .i64 (l.getD x 0)] W1 fun e W' => ∃ b, e = .returned (.bool b) ∧ Kpt (fun b => b < N ∨ b = bp) W1 W' ∧ ((b = true ∧ J (fun _ => False) (pre ++ [x]) W') ∨ (b = false ∧ Jx (fun _ => False) (pre ++ [x]) W'))) := fun pre x W1 h1 h2 =>
    YieldAt.mono (hY 0 (fun _ => False) pre x _ W1 h1 h2 ⟨rfl, fun _ h => h⟩) fun e W' h => by
      have hk : Kpt (fun b => b < N ∨ b = bp) W1 W' := h.1.mono (fun i _ hi => .inr hi)
      rcases h.2 with ⟨h1, h2⟩ | ⟨h1, h2⟩
      · exact ⟨true, h1, hk, .inl ⟨rfl, h2⟩⟩
      · exact ⟨false, h1, hk, .inr ⟨rfl, h2⟩⟩
  have HJ : Hid (J (fun _ => False) [] W) := hJ
  have d0 := (HCE.out W HKW.out).1
  clear hst hstx hY hJ hW hcp hv hN hbp
  refine callsIn_of_wp Try.func42 rfl trivial ?_ rfl
  simp only [Try.ntmps42, List.size_toArray, List.length_cons, List.length_nil, Nat.reduceAdd, Nat.reduceSub, Array.replicate_succ, Array.replicate_zero, List.push_toArray, List.append_toArray, List.nil_append, List.cons_append]
  gi_wp2
  gi_loopw [3] (fun i wr => ∃ k : Nat, k ≤ l.length ∧ i = .int .i64 ((l.length : Int) - 1 - k) ∧ J (fun _ => False) ((dnL l.length).take k) wr ∧ (∀ b, b < N ∨ b = bp → wr.heap[b]? = w0.heap[b]?) ∧ w0.heap.size ≤ wr.heap.size) (fun i _ => (intOf i + 1).toNat)
  case atStart => exact ⟨0, Nat.zero_le _, by first | rfl | simp, by simpa using HJ.out, HKW.out, HSZ.out⟩
  case round =>
    obtain ⟨k, hk, rfl, hj, hkp, hsz⟩ := hrel
    have HJ2 : Hid (J (fun _ => False) ((dnL l.length).take k) wr) := hj
    have HKP : Hid (∀ b, b < N ∨ b = bp → wr.heap[b]? = w0.heap[b]?) := hkp
    have HS2 : Hid (w0.heap.size ≤ wr.heap.size) := hsz
    obtain ⟨d0, hsl⟩ := HCE.out wr hkp
    clear hj hkp hsz
    by_cases hlt : k < l.length
    · obtain ⟨x, hx⟩ : ∃ x : Nat, x = l.length - 1 - k := ⟨_, rfl⟩
      have hxI : (l.length : Int) - 1 - k = (x : Int) := by omega
      have HTK : Hid ((dnL l.length).take (k + 1) = (dnL l.length).take k ++ [x]) := by rw [hx]; exact dnL_get hlt
      have hxl : x < l.length := by omega
      have hnx : (x : Int) - 1 = (l.length : Int) - 1 - ((k + 1 : Nat) : Int) := by omega
      rw [hxI]
      obtain ⟨gb, gq, gcc, hs, _, hcc⟩ := sl_cell hsl hxl
      simp only [Value.slice.injEq] at hs
      obtain ⟨rfl, -, rfl⟩ := hs
      obtain ⟨fn, tmps, assign, body, hy, hR⟩ := HY.out ((dnL l.length).take k) x wr HJ2.out (by rw [← HTK.out]; exact List.take_prefix _ _)
      have xI : (x : Int) < (l.length : Int) := by omega
      have xI0 : (0 : Int) ≤ (x : Int) := by omega
      have xD : decide ((0 : Int) ≤ (x : Int)) = true := decide_eq_true (by omega)
      have HNX : Hid ((x : Int) - 1 = (l.length : Int) - 1 - ((k + 1 : Nat) : Int)) := hnx
      clear hsl hx hxI hnx
      generalize l.getD x 0 = y at *
      gi_wp2_with (refine ⟨rfl, ?_⟩; refine hR.mono ?_; clear hR hy; rintro e W' ⟨b, rfl, hk2, (⟨rfl, hj⟩ | ⟨rfl, hj⟩)⟩)
      · have HJ3 : Hid (J (fun _ => False) ((dnL l.length).take (k + 1)) W') := by rw [HTK.out]; exact hj
        have HK3 : Hid (Kpt (fun b => b < N ∨ b = bp) wr W') := hk2
        exact ⟨⟨k + 1, by omega, by rw [HNX.out], HJ3.out, fun b hb => (HK3.out.block b (Nat.lt_of_lt_of_le (HK0.out b hb) HS2.out) hb).trans (HKP.out b hb), Nat.le_trans HS2.out HK3.out.size⟩, by first | (simp [intOf]; done) | (simp [intOf]; omega)⟩
      · (try simp only [Exit.inBlock, Exit.then])
        refine bodyPost_ret (results_none rfl _ _ _) rfl ?_
        exact ⟨⟨_, rfl⟩, .inr ⟨_, _, by rw [← HTK.out]; exact List.take_prefix _ _, hj⟩⟩
    · have hke : k = l.length := by omega
      subst hke
      have HJ3 : Hid (J (fun _ => False) (dnL l.length) wr) := by
        have := HJ2.out
        rw [List.take_of_length_le (by rw [dnL_len]; exact Nat.le_refl _)] at this
        exact this
      have xD : decide ((0 : Int) ≤ (l.length : Int) - 1 - (l.length : Int)) = false := decide_eq_false (by omega)
      clear hsl
      gi_wp2
      go_end0
      exact ⟨⟨_, rfl⟩, .inl ⟨_, HJ3.out⟩⟩

end Go.Proofs.Ytkpdgpdicafeiaa
