import Derived.Test.YtkdileeahbaobaaDoorRfs
import Derived.Test.YtkdileeahbaobaaDoorReads
import Derived.Test.YtkdileeahbaobaaDoorMsA
import Derived.Maps.OwnIn
import Derived.Laws.EntriesVeiled
/- slices.Backward over a list of numbers: what it hands over. -/
namespace Go.Proofs.YtkdileeahbaobaaDoor
open Go.RowKit Go.Shelf
attribute [local go_sem] Oper.semAt_some

/-- What is handed over: a place and what is there. -/
def HandB (l : List Int) (_ : World) (S : Nat → Prop) (x : Nat) (vs : Array Value) : Prop := vs = #[.int .i64 x, .int .i64 (l.getD x 0)] ∧ ∀ b, ¬ S b

def dnL (n : Nat) : List Nat := (List.range n).reverse

theorem dnL_len (n : Nat) : (dnL n).length = n := by simp [dnL]

theorem dnL_get {n k : Nat} (h : k < n) : (dnL n).take (k + 1) = (dnL n).take k ++ [n - 1 - k] := by
  rw [List.take_succ_eq_append_getElem (by rw [dnL_len]; exact h)]
  simp [dnL]

set_option maxRecDepth 100000 in
set_option maxHeartbeats 4000000 in
theorem back_seq (l : List Int) (v : Value) (bp N : Nat) (w0 : World) (hcp : w0.heap[bp]? = some (.cells #[v] 22 (0, 0))) (hll : l.length ≤ 1000000)
    (hv : ∀ W', (∀ b, b < N → W'.heap[b]? = w0.heap[b]?) → Sl N 3 W' v (ints l)) (hN : N ≤ w0.heap.size) :
    SeqS Tryd.prog 32 #[.pointer (some ⟨bp, 0, none⟩)] (HandB l) (dnL l.length) (fun b => b < N ∨ b = bp) (fun _ => False) w0 := by
  intro lp J Jx W hW hst hstx hY hJ
  have hbp : bp < w0.heap.size := (Array.getElem?_eq_some_iff.1 hcp).1
  obtain ⟨ao, cap, hvv, hlc, hcm⟩ := sl_open (hv w0 (fun _ _ => rfl))
  subst hvv
  have HK0 : Hid (∀ b, b < N ∨ b = bp → b < w0.heap.size) := fun b hb => by rcases hb with h | h <;> omega
  have HKW : Hid (∀ b, b < N ∨ b = bp → W.heap[b]? = w0.heap[b]?) := fun b hb => hW.block b (HK0.out b hb)
  have HCE : Hid (∀ W', (∀ b, b < N ∨ b = bp → W'.heap[b]? = w0.heap[b]?) → W'.cell? ⟨bp, 0, none⟩ = some (.slice ao l.length cap) ∧ Sl N 3 W' (.slice ao l.length cap) (ints l)) := fun W' h =>
    ⟨by have := (h bp (.inr rfl)).trans hcp; simp [World.cell?, this], hv W' fun b hb => h b (.inl hb)⟩
  have HSZ : Hid (w0.heap.size ≤ W.heap.size) := hW.size
  have HY : Hid (∀ pre x W1, J (fun _ => False) pre W1 → (pre ++ [x]) <+: dnL l.length → YieldAt Fence.wide 0 Tryd.prog lp #[.int .i64 (x : Nat), .int .i64 (l.getD x 0)] W1 fun e W' => ∃ b, e = .returned (.bool b) ∧ Kpt (fun b => b < N ∨ b = bp) W1 W' ∧ ((b = true ∧ J (fun _ => False) (pre ++ [x]) W') ∨ (b = false ∧ Jx (fun _ => False) (pre ++ [x]) W'))) := fun pre x W1 h1 h2 =>
    YieldAt.mono (hY 0 (fun _ => False) pre x _ W1 h1 h2 ⟨rfl, fun _ h => h⟩) fun e W' h => by
      have hk : Kpt (fun b => b < N ∨ b = bp) W1 W' := h.1.mono (fun i _ hi => .inr hi)
      rcases h.2 with ⟨h1, h2⟩ | ⟨h1, h2⟩
      · exact ⟨true, h1, hk, .inl ⟨rfl, h2⟩⟩
      · exact ⟨false, h1, hk, .inr ⟨rfl, h2⟩⟩
  have HJ : Hid (J (fun _ => False) [] W) := hJ
  have d0 := (HCE.out W HKW.out).1
  clear hst hstx hY hJ hW hcp hv hN hbp
  refine callsIn_of_wp Tryd.func32 rfl trivial ?_ rfl
  simp only [Tryd.ntmps32, List.size_toArray, List.length_cons, List.length_nil, Nat.reduceAdd, Nat.reduceSub, Array.replicate_succ, Array.replicate_zero, List.push_toArray, List.append_toArray, List.nil_append, List.cons_append]
  gi_wp2
  gi_loopw [3] (fun i wr => ∃ k : Nat, k ≤ l.length ∧ i = .int .i64 ((l.length : Int) - 1 - k) ∧ J (fun _ => False) ((dnL l.length).take k) wr ∧ (∀ b, b < N ∨ b = bp → wr.heap[b]? = w0.heap[b]?) ∧ w0.heap.size ≤ wr.heap.size) (fun i _ => (intOf i + 1).toNat)
  case atStart => exact ⟨0, Nat.zero_le _, by first | rfl | simp, by simpa using HJ.out, HKW.out, HSZ.out⟩
  case round =>
    obtain ⟨k, hk, rfl, hj, hkp, hsz⟩ := hrel
    have HJ2 : Hid (J (fun _ => False) ((dnL l.length).take k) wr) := hj
    have HKP : Hid (∀ b, b < N ∨ b = bp → wr.heap[b]? = w0.heap[b]?) := hkp
    have HS2 : Hid (w0.heap.size ≤ wr.heap.size) := hsz
    obtain ⟨d0, hsl⟩ := HCE.out wr hkp
    clear hj hkp hsz
    by_cases hlt : k < l.length
    · obtain ⟨x, hx⟩ : ∃ x : Nat, x = l.length - 1 - k := ⟨_, rfl⟩
      have hxI : (l.length : Int) - 1 - k = (x : Int) := by omega
      have HTK : Hid ((dnL l.length).take (k + 1) = (dnL l.length).take k ++ [x]) := by rw [hx]; exact dnL_get hlt
      have hxl : x < l.length := by omega
      have hnx : (x : Int) - 1 = (l.length : Int) - 1 - ((k + 1 : Nat) : Int) := by omega
      rw [hxI]
      obtain ⟨gb, gq, gcc, hs, _, hcc⟩ := sl_cell hsl hxl
      simp only [Value.slice.injEq] at hs
      obtain ⟨rfl, -, rfl⟩ := hs
      obtain ⟨fn, tmps, assign, body, hy, hR⟩ := HY.out ((dnL l.length).take k) x wr HJ2.out (by rw [← HTK.out]; exact List.take_prefix _ _)
      have xI : (x : Int) < (l.length : Int) := by omega
      have xI0 : (0 : Int) ≤ (x : Int) := by omega
      have xD : decide ((0 : Int) ≤ (x : Int)) = true := decide_eq_true (by omega)
      have HNX : Hid ((x : Int) - 1 = (l.length : Int) - 1 - ((k + 1 : Nat) : Int)) := hnx
      clear hsl hx hxI hnx
      generalize l.getD x 0 = y at *
      gi_wp2_with (refine ⟨rfl, ?_⟩; refine hR.mono ?_; clear hR hy; rintro e W' ⟨b, rfl, hk2, (⟨rfl, hj⟩ | ⟨rfl, hj⟩)⟩)
      · have HJ3 : Hid (J (fun _ => False) ((dnL l.length).take (k + 1)) W') := by rw [HTK.out]; exact hj
        have HK3 : Hid (Kpt (fun b => b < N ∨ b = bp) wr W') := hk2
        exact ⟨⟨k + 1, by omega, by rw [HNX.out], HJ3.out, fun b hb => (HK3.out.block b (Nat.lt_of_lt_of_le (HK0.out b hb) HS2.out) hb).trans (HKP.out b hb), Nat.le_trans HS2.out HK3.out.size⟩, by first | (simp [intOf]; done) | (simp [intOf]; omega)⟩
      · (try simp only [Exit.inBlock, Exit.then])
        refine bodyPost_ret (results_none rfl _ _ _) rfl ?_
        exact ⟨⟨_, rfl⟩, .inr ⟨_, _, by rw [← HTK.out]; exact List.take_prefix _ _, hj⟩⟩
    · have hke : k = l.length := by omega
      subst hke
      have HJ3 : Hid (J (fun _ => False) (dnL l.length) wr) := by
        have := HJ2.out
        rw [List.take_of_length_le (by rw [dnL_len]; exact Nat.le_refl _)] at this
        exact this
      have xD : decide ((0 : Int) ≤ (l.length : Int) - 1 - (l.length : Int)) = false := decide_eq_false (by omega)
      clear hsl
      gi_wp2
      go_end0
      exact ⟨⟨_, rfl⟩, .inl ⟨_, HJ3.out⟩⟩

end Go.Proofs.YtkdileeahbaobaaDoor

/- matroid.Dual. -/
namespace Go.Proofs.YtkdileeahbaobaaDoor
open Go.RowKit Go.Shelf
attribute [local go_sem] Oper.semAt_some

/-- What the bases, from the last one on, leave. -/
def duF (tn : Nat) (bs : List Int) (x : Nat) : Int := (outN (tn - 1) (bs.getD x 0).toNat : Nat)

/-- What holds between two rounds. -/
structure DuI (w WN : World) (a n : Nat) (f : Nat → Int) (S : Nat → Prop) (pre : List Nat) (W : World) : Prop where
  sn : ∀ b, S b → a + 3 ≤ b
  size : a + 3 ≤ W.heap.size
  kp : ∀ b, b < a + 3 → b ≠ a + 1 → W.heap[b]? = WN.heap[b]?
  os : W.os = w.os
  tape : W.tape = w.tape
  output : W.output = w.output
  box : ∃ sv, W.heap[a + 1]? = some (.cells #[.int .i64 n, sv] 25 (0, 0)) ∧ W.ownsRow (a + 3) 3 1 sv (pre.map f).length (ints (pre.map f)) ∧ ∀ g, sv.ownBlock = some g → ¬ S g

theorem DuI.stab {w WN : World} {a n : Nat} {f : Nat → Int} {S S' : Nat → Prop} {pre : List Nat} {W W' : World} (h : DuI w WN a n f S pre W) (hc : Chg S W W') (hs : ∀ b, S' b → S b ∨ W.heap.size ≤ b) : DuI w WN a n f S' pre W' := by
  have hns : ∀ b, b < a + 3 → ¬ S b := fun b hb hS => by have := h.sn b hS; omega
  have hsz := h.size
  refine ⟨fun b hb => ?_, Nat.le_trans hsz hc.size, fun b hb hn => (hc.block b (by omega) (hns b hb)).trans (h.kp b hb hn), hc.os.trans h.os, hc.tape.trans h.tape, hc.output.trans h.output, ?_⟩
  · rcases hs b hb with k | k
    · exact h.sn b k
    · omega
  · obtain ⟨sv, g1, g2, g3⟩ := h.box
    refine ⟨sv, (hc.block _ (by omega) (hns _ (by omega))).trans g1, own_keepS g2 fun b hb => hc.block b (g2.lt b hb).2 (g3 b hb), fun g hg hS => ?_⟩
    rcases hs g hS with k | k
    · exact g3 g hg k
    · have := (g2.lt g hg).2
      omega

/-- One more. -/
theorem DuI.push {w WN W w5 : World} {a n : Nat} {f : Nat → Int} {S : Nat → Prop} {pre : List Nat} {x : Nat} {sv v' : Value} {z : Int} {T : Nat → Prop} (h : DuI w WN a n f S pre W) (hz : f x = z) (hT : ∀ b, T b → b < a + 3 ∧ b ≠ a + 1)
    (g1 : W.heap[a + 1]? = some (.cells #[.int .i64 n, sv] 25 (0, 0))) (g2 : W.ownsRow (a + 3) 3 1 sv (pre.map f).length (ints (pre.map f))) (g3 : ∀ g, sv.ownBlock = some g → ¬ S g) (hSW : ∀ b, S b → b < W.heap.size)
    (ho : w5.ownsRow (a + 3) 3 1 v' ((pre.map f).length + 1) (ints (pre.map f) ++ [.int .i64 z])) (hg : (W.alloc (.cells #[.int .i64 z] 3)).grownBy w5 sv.ownBlock) (hat : v'.ownBlock = sv.ownBlock ∨ v'.ownBlock = some (W.heap.size + 1)) :
    w5.cell? ⟨a + 1, 1, none⟩ = some sv ∧ w5.frozen? ⟨a + 1, 1, none⟩ = false ∧ Kpt (fun b => S b ∨ T b) W (w5.setCell ⟨a + 1, 1, none⟩ v') ∧ DuI w WN a n f S (pre ++ [x]) (w5.setCell ⟨a + 1, 1, none⟩ v') := by
  have hsz := h.size
  have hgs : W.heap.size ≤ w5.heap.size := Nat.le_trans (by simp) hg.size
  have hlo : ∀ b, b < a + 3 → w5.heap[b]? = W.heap[b]? := fun b hb => by
    refine (hg.block b (by simp; omega) (fun e => ?_)).trans (Below.heap_alloc _ _ _ (by omega))
    have := (g2.lt b e.symm).1
    omega
  have hS : ∀ b, b < W.heap.size → S b → w5.heap[b]? = W.heap[b]? := fun b hb hs => (hg.block b (by simp; omega) (fun e => g3 b e.symm hs)).trans (Below.heap_alloc _ _ _ hb)
  have hset : ∀ b, b ≠ a + 1 → (w5.setCell ⟨a + 1, 1, none⟩ v').heap[b]? = w5.heap[b]? := fun b hb => Below.heap_setCell _ _ _ _ hb
  have hbx : w5.heap[a + 1]? = some (.cells #[.int .i64 n, sv] 25 (0, 0)) := (hlo _ (by omega)).trans g1
  have hsz2 : (w5.setCell ⟨a + 1, 1, none⟩ v').heap.size = w5.heap.size := by simp [World.setCell]
  refine ⟨by simp [World.cell?, hbx], by simp [World.frozen?, hbx], ⟨by omega, fun b hb hs => ?_⟩, h.sn, by omega, fun b hb hn => (hset b hn).trans ((hlo b hb).trans (h.kp b hb hn)), hg.os.trans h.os, hg.tape.trans h.tape, hg.output.trans h.output, v', ?_, ?_, ?_⟩
  · rcases hs with hs | hs
    · exact (hset b (by have := h.sn b hs; omega)).trans (hS b hb hs)
    · have := hT b hs
      exact (hset b this.2).trans (hlo b this.1)
  · simp [World.setCell, Array.getElem?_modify, hbx]
  · have e1 : (pre ++ [x]).map f = pre.map f ++ [z] := by simp [hz]
    have e2 : ints (pre.map f ++ [z]) = ints (pre.map f) ++ [.int .i64 z] := by simp [ints]
    rw [e1, e2, List.length_append, List.length_singleton]
    exact own_keepS ho fun b hb => hset b (by have := (ho.lt b hb).1; omega)
  · intro g hg2 hs
    rcases hat with hat | hat
    · exact g3 g (by rw [← hat]; exact hg2) hs
    · rw [hat] at hg2
      simp only [Option.some.injEq] at hg2
      have := hSW g hs
      omega

theorem backIt_any (a : Option Addr) (n c : Nat) (w : World) : Calls Tryd.prog 19 #[.slice a n c] w fun e w' =>
    e = .returned (.func (.func 32) #[] #[.pointer (some ⟨w.heap.size, 0, none⟩)]) ∧ w' = w.alloc (.cells #[.slice a n c] 22) := by
  go_enter Tryd.func19, Tryd.ntmps19
  go_wp2
  go_ret
  exact ⟨rfl, rfl⟩

/-- What Dual answers. -/
def duB (N : Int) (bs : List Int) : List Int := if matE N bs = 0 then (dnL bs.length).map (duF (2 ^ N.toNat) bs) else []
def duN (N : Int) (bs : List Int) : Int := if matE N bs = 0 then N else 0

set_option maxRecDepth 100000 in
set_option maxHeartbeats 8000000 in
theorem dual_any (N : Int) (bs : List Int) (v : Value) (w : World) (hv : Sl w.heap.size 3 w v (ints bs)) (hl : bs.length ≤ 1000000) (hT : TabB w) :
    Calls Tryd.prog 8 #[.agg #[.int .i64 N, v]] w fun e w' => ∃ u, e = .returned (.tuple #[.agg #[.int .i64 (duN N bs), u], .int .i64 (matE N bs)]) ∧ Sl 0 3 w' u (ints (duB N bs)) ∧ Below w.heap.size w w' := by
  obtain ⟨i3, hi3, hz30, hz31, hz32⟩ := info_parts Tryd.info3
  obtain ⟨ao, cap, hvv, hlc, hcm⟩ := sl_open hv
  subst hvv
  obtain ⟨w0, hw0⟩ : ∃ w0, w0 = w.alloc (.cells #[.int .i64 N, .slice ao bs.length cap] 25) := ⟨_, rfl⟩
  obtain ⟨W, hW⟩ : ∃ W, W = w0.alloc (.cells #[.int .i64 0, .slice none 0 0] 25) := ⟨_, rfl⟩
  have hs0 : w0.heap.size = w.heap.size + 1 := by rw [hw0]; simp
  have hsW : W.heap.size = w.heap.size + 2 := by rw [hW]; simp [hs0]
  have hb0 : Below w.heap.size w w0 := by rw [hw0]; exact (Below.refl _ _).alloc (Nat.le_refl _) _
  have HBA : Hid (Below w.heap.size w W) := by rw [hW]; exact hb0.alloc (by omega) _
  have a0 : W.heap[w.heap.size]? = some (.cells #[.int .i64 N, .slice ao bs.length cap] 25 (0, 0)) := by
    rw [hW]; exact (Below.heap_alloc _ _ _ (by omega)).trans (by rw [hw0]; exact heap_alloc_new w _)
  have a1 : W.heap[w.heap.size + 1]? = some (.cells #[.int .i64 0, .slice none 0 0] 25 (0, 0)) := by
    rw [hW, ← hs0]; exact heap_alloc_new w0 _
  have HSL : Hid (∀ W', (∀ b, b < w.heap.size → W'.heap[b]? = w.heap[b]?) → Sl w.heap.size 3 W' (.slice ao bs.length cap) (ints bs)) := fun W' h => hv.move fun b hb ht => ⟨h b hb, ht⟩
  have HCK : Hid (Calls Tryd.prog 16 #[.agg #[.int .i64 N, .slice ao bs.length cap]] W fun e w' => e = .returned (.int .i64 (matE N bs)) ∧ Below W.heap.size W w') :=
    checkM_any N bs _ W ((hv.below HBA.out (Nat.le_refl _)).more HBA.out.size) hl (hT.below HBA.out)
  have HWW : Hid (W = (w.alloc (.cells #[.int .i64 N, .slice ao bs.length cap] 25)).alloc (.cells #[.int .i64 0, .slice none 0 0] 25)) := by rw [hW, hw0]; rfl
  have HA : Hid (∀ W', Below W.heap.size W W' → W'.heap[w.heap.size]? = some (.cells #[.int .i64 N, .slice ao bs.length cap] 25 (0, 0)) ∧ W'.heap[w.heap.size + 1]? = some (.cells #[.int .i64 0, .slice none 0 0] 25 (0, 0)) ∧ Below w.heap.size w W' ∧ w.heap.size + 2 ≤ W'.heap.size) := fun W' h =>
    ⟨(h.block _ (by omega)).trans a0, (h.block _ (by omega)).trans a1, HBA.out.trans (h.mono HBA.out.size), by have := h.size; omega⟩
  have gA0 : ((w.alloc (.cells #[.int .i64 N, .slice ao bs.length cap] 25)).alloc (.cells #[.int .i64 0, .slice none 0 0] 25)).cell? ⟨w.heap.size, 0, none⟩ = some (.int .i64 N) := by
    rw [← HWW.out]; simp [World.cell?, a0]
  have gA1 : ((w.alloc (.cells #[.int .i64 N, .slice ao bs.length cap] 25)).alloc (.cells #[.int .i64 0, .slice none 0 0] 25)).cell? ⟨w.heap.size, 1, none⟩ = some (.slice ao bs.length cap) := by
    rw [← HWW.out]; simp [World.cell?, a0]
  clear hv hT hb0 a0 a1 hW hw0 hs0 hsW
  refine callsIn_wide (n := 0).1 ?_
  refine callsIn_of_wp_marks Tryd.func8 rfl trivial ?_ rfl
  simp only [Tryd.ntmps8, List.size_toArray, List.length_cons, List.length_nil, Nat.reduceAdd, Nat.reduceSub, Array.replicate_succ, Array.replicate_zero, List.push_toArray, List.append_toArray, List.nil_append, List.cons_append]
  gi_wp2_with fail
  refine ⟨trivial, rfl, ?_⟩
  rw [← HWW.out]
  refine (callsIn_wide.2 HCK.out).mono ?_
  rintro e w1 ⟨rfl, hb1⟩
  obtain ⟨r0, r1, hbw, hs1⟩ := HA.out w1 hb1
  have HR0 : Hid (w1.heap[w.heap.size]? = some (.cells #[.int .i64 N, .slice ao bs.length cap] 25 (0, 0))) := r0
  have HR1 : Hid (w1.heap[w.heap.size + 1]? = some (.cells #[.int .i64 0, .slice none 0 0] 25 (0, 0))) := r1
  have HBW : Hid (Below w.heap.size w w1) := hbw
  have HS1 : Hid (w.heap.size + 2 ≤ w1.heap.size) := hs1
  have d0 : w1.cell? ⟨w.heap.size, 0, none⟩ = some (.int .i64 N) := by simp [World.cell?, r0]
  have d1 : w1.cell? ⟨w.heap.size, 1, none⟩ = some (.slice ao bs.length cap) := by simp [World.cell?, r0]
  have x0 : w1.cell? ⟨w.heap.size + 1, 0, none⟩ = some (.int .i64 0) := by simp [World.cell?, r1]
  have x1 : w1.cell? ⟨w.heap.size + 1, 1, none⟩ = some (.slice none 0 0) := by simp [World.cell?, r1]
  have y0 : w1.frozen? ⟨w.heap.size + 1, 0, none⟩ = false := by simp [World.frozen?, r1]
  have y1 : w1.frozen? ⟨w.heap.size + 1, 1, none⟩ = false := by simp [World.frozen?, r1]
  clear r0 r1 hbw hs1 hb1 HCK HWW HA gA0 gA1 HBA
  by_cases hm : matE N bs = 0
  · obtain ⟨hb8, hN0, hN8⟩ := mat_b8 hm
    have HB8 : Hid (B8 bs) := hb8
    obtain ⟨n, rfl⟩ : ∃ n : Nat, N = (n : Int) := ⟨N.toNat, by omega⟩
    have hn8 : n ≤ 8 := by omega
    obtain ⟨tn, htn⟩ : ∃ tn : Nat, tn = 2 ^ n := ⟨_, rfl⟩
    have HDB : Hid (duB (n : Int) bs = (dnL bs.length).map (duF tn bs)) := by rw [htn]; exact if_pos hm
    have HDN : Hid (duN (n : Int) bs = n) := if_pos hm
    have HM0 : Hid (matE (n : Int) bs = 0) := hm
    have hti : (2 : Int) ^ n = (tn : Int) := by rw [htn]; simp
    have htl : tn ≤ 256 := by rw [htn]; exact show 2 ^ n ≤ 2 ^ 8 from Nat.pow_le_pow_right (by omega) hn8
    have ht1 : 1 ≤ tn := by rw [htn]; exact Nat.one_le_two_pow
    have hwt : IntKind.i64.wrap (tn : Int) = (tn : Int) := wrap_small (by omega)
    obtain ⟨tm, htm⟩ : ∃ tm : Nat, tm = tn - 1 := ⟨_, rfl⟩
    have hw1 : IntKind.i64.wrap ((tn : Int) - 1) = (tm : Int) := by rw [show (tn : Int) - 1 = (tm : Int) by omega]; exact wrap_small (by omega)
    have hm8 : tm < 256 := by omega
    have HTM : Hid (tm = tn - 1) := htm
    rw [hm]
    clear hm htm htn hb8 hN0 hN8
    obtain ⟨wA, hwA⟩ : ∃ wA, wA = w1.alloc (.cells #[.int .i64 tm] 3) := ⟨_, rfl⟩
    obtain ⟨wD, hwD⟩ : ∃ wD, wD = wA.alloc (.cells #[.int .i64 n, .slice none 0 0] 25) := ⟨_, rfl⟩
    obtain ⟨WN, hWN⟩ : ∃ WN, WN = wD.alloc (.cells #[.slice ao bs.length cap] 22) := ⟨_, rfl⟩
    have sA : wA.heap.size = w1.heap.size + 1 := by rw [hwA]; simp
    have sD : wD.heap.size = w1.heap.size + 1 + 1 := by rw [hwD]; simp [sA]
    have sN : WN.heap.size = w1.heap.size + 3 := by rw [hWN]; simp [sD]
    have bA : Below w1.heap.size w1 wA := by rw [hwA]; exact (Below.refl _ _).alloc (Nat.le_refl _) _
    have bD : Below w1.heap.size w1 wD := by rw [hwD]; exact bA.alloc (by omega) _
    have bN : Below w1.heap.size w1 WN := by rw [hWN]; exact bD.alloc (by omega) _
    have nA : WN.heap[w1.heap.size]? = some (.cells #[.int .i64 tm] 3 (0, 0)) := by
      rw [hWN]; refine (Below.heap_alloc _ _ _ (by omega)).trans ?_
      rw [hwD]; refine (Below.heap_alloc _ _ _ (by omega)).trans ?_
      rw [hwA]; exact heap_alloc_new w1 _
    have nD : WN.heap[w1.heap.size + 1]? = some (.cells #[.int .i64 n, .slice none 0 0] 25 (0, 0)) := by
      rw [hWN]; refine (Below.heap_alloc _ _ _ (by omega)).trans ?_
      rw [hwD, ← sA]; exact heap_alloc_new wA _
    have nP : WN.heap[w1.heap.size + 1 + 1]? = some (.cells #[.slice ao bs.length cap] 22 (0, 0)) := by
      rw [hWN, ← sD]; exact heap_alloc_new wD _
    have HWN : Hid (WN = ((w1.alloc (.cells #[.int .i64 tm] 3)).alloc (.cells #[.int .i64 n, .slice none 0 0] 25)).alloc (.cells #[.slice ao bs.length cap] 22)) := by rw [hWN, hwD, hwA]; rfl
    have e0 : (w1.alloc (.cells #[.int .i64 tm] 3)).cell? ⟨w.heap.size, 0, none⟩ = some (.int .i64 n) := by
      rw [← hwA]; exact (bA.cell (lt_of_cell d0)).trans d0
    have e1 : ((w1.alloc (.cells #[.int .i64 tm] 3)).alloc (.cells #[.int .i64 n, .slice none 0 0] 25)).cell? ⟨w.heap.size, 1, none⟩ = some (.slice ao bs.length cap) := by
      rw [← hwA, ← hwD]; exact (bD.cell (lt_of_cell d1)).trans d1
    have HSN : Hid (WN.heap.size = w1.heap.size + 3) := sN
    have HBN : Hid (Below w1.heap.size w1 WN) := bN
    have HNA : Hid (WN.heap[w1.heap.size]? = some (.cells #[.int .i64 tm] 3 (0, 0))) := nA
    have HND : Hid (WN.heap[w1.heap.size + 1]? = some (.cells #[.int .i64 n, .slice none 0 0] 25 (0, 0))) := nD
    have HSQ := back_seq bs (.slice ao bs.length cap) (w1.heap.size + 1 + 1) w.heap.size WN nP hl (fun W' h => HSL.out W' fun b hb => (h b hb).trans ((bN.block b (by have := HS1.out; omega)).trans (HBW.out.block b hb))) (by have := HS1.out; omega)
    clear nA nD nP bA bD bN sA sD sN hwA hwD hWN
    gi_wp2_with (refine ⟨trivial, rfl, ?_⟩; gi_at_call 19; refine (callsIn_wide.2 (backIt_any _ _ _ _)).mono ?_; rintro e w' ⟨rfl, rfl⟩)
    rw [← HWN.out]
    have HI0 : Hid (DuI w WN w1.heap.size n (duF tn bs) (fun _ => False) [] WN) := by
      have hs1 := HS1.out
      have hsn := HSN.out
      refine ⟨fun b hb => hb.elim, by omega, fun b hb hn => rfl, HBN.out.os.trans HBW.out.os, HBN.out.tape.trans HBW.out.tape, HBN.out.output.trans HBW.out.output, .slice none 0 0, HND.out, World.ownsRow_nil _ _ _ _, fun g hg => by simp [Value.ownBlock] at hg⟩
    refine range_s (R := HandB bs) (cs := dnL bs.length) (T := fun b => b < w.heap.size ∨ b = w1.heap.size + 1 + 1) (S0 := fun _ => False) (gf := 32) (lb := #[.pointer (some ⟨w1.heap.size + 1 + 1, 0, none⟩)]) rfl (enters_of Tryd.func32 (by kernel_rfl) rfl) HSQ (fun b hb => hb.elim)
      (fun W' S x vs h => by rw [h.1]; rfl) (fun W S x vs W' h _ => h) (fun W S x vs l r o h _ => h)
      (fun S pre W' => DuI w WN w1.heap.size n (duF tn bs) S pre W')
      (fun c S pre W' => False)
      (fun S S' pre W' W'' h hc hs => h.stab hc hs) (fun c S S' pre W' W'' h hc hs => h) HI0.out
      (fun vs a' W' => ∃ x : Nat, vs = #[.int .i64 (x : Nat), .int .i64 (bs.getD x 0)] ∧ a' = { tmps := #[.agg #[.int .i64 n, .slice ao bs.length cap], .pointer (some ⟨w.heap.size, 0, none⟩), .pointer (some ⟨w.heap.size + 1, 0, none⟩), .int .i64 0, .int .i64 0, .pointer (some ⟨w1.heap.size, 0, none⟩), .pointer (some ⟨w1.heap.size + 1, 0, none⟩), undef, .int .i64 (bs.getD x 0), .agg #[.int .i64 n, .slice ao bs.length cap], .int .i64 0, .int .i64 0, .bool false, undef, undef, .pointer (some ⟨w.heap.size, 0, none⟩), .int .i64 n, .int .i64 tn, .int .i64 tm, .pointer (some ⟨w.heap.size, 0, none⟩), .int .i64 n, .agg #[.int .i64 n, .slice none 0 0], .pointer (some ⟨w.heap.size, 1, none⟩), .slice ao bs.length cap, .func (.func 32) #[] #[.pointer (some ⟨w1.heap.size + 1 + 1, 0, none⟩)], .int .i64 (x : Nat), .int .i64 (bs.getD x 0), undef, undef, undef, undef, undef, undef, undef, undef, undef], defers := [] })
      (fun vs a' W' l r o h _ => h) ?assign ?body (fun h => by have := HSN.out; have := HS1.out; rcases h with h | h <;> omega) ?done ?stop
    case assign =>
      rintro S x vs W' K hR hK
      have hR' : vs = #[.int .i64 (x : Nat), .int .i64 (bs.getD x 0)] := hR.1
      subst hR'
      gi_wp2
      exact hK _ _ (Below.refl _ _) ⟨x, rfl, rfl⟩
    case stop =>
      rintro c S pre W' hpre h
      exact h.elim
    case body =>
      rintro S pre x vs a' W1 hi hSD hSL hlt1 hdf hlp hpre ⟨S1, hR, hS1⟩ ⟨x', hvs', rfl⟩
      have hxx : x = x' := by
        have h1 := hR.1
        rw [hvs'] at h1
        simp only [List.toArray_eq_iff, List.cons.injEq, Value.int.injEq, true_and, and_true] at h1
        have := h1.1
        omega
      subst hxx
      have hxl : x < bs.length := by
        have : x ∈ dnL bs.length := hpre.subset (by simp)
        simpa [dnL] using this
      have hSW : ∀ b, S b → b < W1.heap.size := fun b hb => by
        rcases (hS1 b).1 hb with h | h | h
        · exact (hR.2 b h).elim
        · omega
        · omega
      obtain ⟨hx0, hx8⟩ := HB8.out (bs.getD x 0) (by simp [hxl])
      obtain ⟨y, hy⟩ : ∃ y : Nat, bs.getD x 0 = (y : Int) := ⟨(bs.getD x 0).toNat, by omega⟩
      have hy8 : y < 256 := by omega
      obtain ⟨z, hz⟩ : ∃ z : Nat, z = outN tm y := ⟨_, rfl⟩
      have e1 : bits .andNot .i64 (tm : Int) (y : Int) = (z : Int) := by rw [hz]; exact bits_andNot_i64_nat tm y (by omega) (by omega)
      have HFX : Hid (duF tn bs x = (z : Int)) := by
        show _ = _
        rw [hz, duF, hy, Int.toNat_natCast, HTM.out]
      rw [hy]
      obtain ⟨sv, g1, g2, g3⟩ := hi.box
      have HPU : Hid (∀ (v' : Value) (w5 : World), w5.ownsRow (w1.heap.size + 3) 3 1 v' ((pre.map (duF tn bs)).length + 1) (ints (pre.map (duF tn bs)) ++ [.int .i64 z]) → (W1.alloc (.cells #[.int .i64 z] 3)).grownBy w5 sv.ownBlock → (v'.ownBlock = sv.ownBlock ∨ v'.ownBlock = some (W1.heap.size + 1)) →
          w5.cell? ⟨w1.heap.size + 1, 1, none⟩ = some sv ∧ w5.frozen? ⟨w1.heap.size + 1, 1, none⟩ = false ∧ Kpt (fun b => S b ∨ (b < w.heap.size ∨ b = w1.heap.size + 1 + 1)) W1 (w5.setCell ⟨w1.heap.size + 1, 1, none⟩ v') ∧ DuI w WN w1.heap.size n (duF tn bs) S (pre ++ [x]) (w5.setCell ⟨w1.heap.size + 1, 1, none⟩ v')) := fun v' w5 h1 h2 h3 =>
        hi.push HFX.out (fun b hb => by have := HS1.out; rcases hb with h | h <;> omega) g1 g2 g3 hSW h1 h2 h3
      have m0 : W1.cell? ⟨w1.heap.size, 0, none⟩ = some (.int .i64 tm) := by
        have := (hi.kp w1.heap.size (by omega) (by omega)).trans HNA.out
        simp [World.cell?, this]
      have m1 : W1.cell? ⟨w1.heap.size + 1, 1, none⟩ = some sv := by simp [World.cell?, g1]
      have HOW : Hid (W1.ownsRow (w1.heap.size + 3) 3 1 sv (pre.map (duF tn bs)).length (ints (pre.map (duF tn bs)))) := g2
      have hpl : (pre.map (duF tn bs)).length ≤ bs.length := by
        rw [List.length_map]
        have := hpre.length_le
        rw [dnL_len, List.length_append] at this
        omega
      have hsz := hi.size
      have hz8 : z < 256 := by rw [hz]; exact outN_lt8 hm8
      clear hi hpre hR hS1 hvs' hSD hSL hlt1 hdf hlp hSW hx0 hx8 hy hz g1 g2 g3 HSQ HI0
      generalize pre.map (duF tn bs) = L at *
      obtain ⟨so, sc, hsv⟩ := owns_form HOW.out
      subst hsv
      gi_wp2_with (first | (gi_at_builtin; refine wpListIn_append_own_at _ rfl _ _ 22 rfl (w1.heap.size + 3) 3 i3 (.int .i64 0) 1 8 Tryd.underlying22 hi3 hz30 hz31 hz32 rfl (by decide) _ _ _ rfl (HOW.out.alloc _) ⟨W1.heap.size, 0, none⟩ 1 1 [.int .i64 z] rfl rfl (one_new _ _ _) (one_int _) ?c3 ?c4 ?c5 ?_))
      case c3 => unfold maxLen; omega
      case c4 => omega
      case c5 => first | exact hsz | omega | (simp; omega)
      intro v' w5 ho5 hg5 _ hat5
      obtain ⟨p1, p2, p3, p4⟩ := HPU.out v' w5 ho5 hg5 hat5
      obtain ⟨vo, vc, hvv5⟩ := owns_form ho5
      subst hvv5
      have P3 : Hid (Kpt (fun b => S b ∨ (b < w.heap.size ∨ b = w1.heap.size + 1 + 1)) W1 (w5.setCell ⟨w1.heap.size + 1, 1, none⟩ (.slice vo (L.length + 1) vc))) := p3
      have P4 : Hid (DuI w WN w1.heap.size n (duF tn bs) S (pre ++ [x]) (w5.setCell ⟨w1.heap.size + 1, 1, none⟩ (.slice vo (L.length + 1) vc))) := p4
      clear HPU HOW ho5 hg5 hat5 p3 p4
      gi_wp2
      exact ⟨P3.out, P4.out⟩
    case done =>
      rintro S W' hi hSD hdf
      have hs1 := HS1.out
      have hsn := HSN.out
      obtain ⟨sv, g1, g2, g3⟩ := hi.box
      have r1 : W'.heap[w.heap.size + 1]? = some (.cells #[.int .i64 0, .slice none 0 0] 25 (0, 0)) := (hi.kp _ (by omega) (by omega)).trans ((HBN.out.block _ (by omega)).trans HR1.out)
      have HW1 : Hid (W'.heap[w.heap.size + 1]? = some (.cells #[.int .i64 0, .slice none 0 0] 25 (0, 0))) := r1
      have x0 : W'.cell? ⟨w.heap.size + 1, 0, none⟩ = some (.int .i64 0) := by simp [World.cell?, r1]
      have x1 : W'.cell? ⟨w.heap.size + 1, 1, none⟩ = some (.slice none 0 0) := by simp [World.cell?, r1]
      have y0 : W'.frozen? ⟨w.heap.size + 1, 0, none⟩ = false := by simp [World.frozen?, r1]
      have y1 : W'.frozen? ⟨w.heap.size + 1, 1, none⟩ = false := by simp [World.frozen?, r1]
      have m0 : W'.cell? ⟨w1.heap.size + 1, 0, none⟩ = some (.int .i64 n) := by simp [World.cell?, g1]
      have m1 : W'.cell? ⟨w1.heap.size + 1, 1, none⟩ = some sv := by simp [World.cell?, g1]
      have HI : Hid (DuI w WN w1.heap.size n (duF tn bs) S (dnL bs.length) W') := hi
      have HG2 : Hid (W'.ownsRow (w1.heap.size + 3) 3 1 sv ((dnL bs.length).map (duF tn bs)).length (ints ((dnL bs.length).map (duF tn bs)))) := g2
      have HG3 : Hid (∀ g, sv.ownBlock = some g → ¬ S g) := g3
      have HSD : Hid (S WN.heap.size) := hSD
      have HDF : Hid (W'.heap[WN.heap.size]? = some (.deferred (some []))) := hdf
      obtain ⟨so, sc, hsv⟩ := owns_form g2
      subst hsv
      clear hi hSD hdf g1 g2 g3 HSQ HI0 r1 hs1 hsn
      generalize hL : (dnL bs.length).map (duF tn bs) = L at *
      clear hL
      gi_wp2
      have hs1 := HS1.out
      have hsn := HSN.out
      have hsz := HI.out.size
      obtain ⟨W9, hW9⟩ : ∃ W9, W9 = (W'.setCell ⟨w.heap.size + 1, 0, none⟩ (.int .i64 n)).setCell ⟨w.heap.size + 1, 1, none⟩ (.slice so L.length sc) := ⟨_, rfl⟩
      rw [← hW9]
      have q1 : W9.heap[w.heap.size + 1]? = some (.cells #[.int .i64 n, .slice so L.length sc] 25 (0, 0)) := by
        rw [hW9]
        simp [World.setCell, Array.getElem?_modify, HW1.out]
      have q3 : ∀ b, b ≠ w.heap.size + 1 → W9.heap[b]? = W'.heap[b]? := fun b h1 => by
        rw [hW9]; exact (Below.heap_setCell _ _ _ _ h1).trans (Below.heap_setCell _ _ _ _ h1)
      have q4 : W9.heap.size = W'.heap.size := by rw [hW9]; simp [World.setCell]
      have q5 : W9.os = W'.os ∧ W9.tape = W'.tape ∧ W9.output = W'.output := by rw [hW9]; exact ⟨rfl, rfl, rfl⟩
      clear hW9
      refine leaves_mks [WN.heap.size] W9 (by simp) (fun r hr => ?_) (fun w' hc => ⟨.tuple #[.agg #[.int .i64 n, .slice so L.length sc], .int .i64 0], ?_, ?_⟩)
      · simp only [List.mem_singleton] at hr
        subst hr
        exact (q3 _ (by omega)).trans HDF.out
      · have r1 : w'.heap[w.heap.size + 1]? = some (.cells #[.int .i64 n, .slice so L.length sc] 25 (0, 0)) := (hc.block _ (by omega) (by simp; omega)).trans q1
        have c0 : w'.cell? ⟨w.heap.size + 1, 0, none⟩ = some (.int .i64 n) := by simp [World.cell?, r1]
        have c1 : w'.cell? ⟨w.heap.size + 1, 1, none⟩ = some (.slice so L.length sc) := by simp [World.cell?, r1]
        simp [results, Tryd.results8, go_sem, c0, c1]
      · refine ⟨.slice so L.length sc, by rw [HDN.out, HM0.out], ?_, hc.os.trans (q5.1.trans HI.out.os), hc.tape.trans (q5.2.1.trans HI.out.tape), hc.output.trans (q5.2.2.trans HI.out.output), by have := hc.size; omega, fun b hb => ?_⟩
        · rw [HDB.out]
          refine Sl.own (own_keepS HG2.out fun b hb => ?_)
          have h1 := HG2.out.lt b hb
          have h2 := HG3.out b hb
          refine (hc.block b (by omega) (fun e => ?_)).trans (q3 b (by omega))
          simp only [List.mem_singleton] at e
          subst e
          exact h2 HSD.out
        · exact (hc.block b (by omega) (by simp; omega)).trans ((q3 b (by omega)).trans ((HI.out.kp b (by omega) (by omega)).trans ((HBN.out.block b (by omega)).trans (HBW.out.block b hb))))
  · have HLQ : Hid (duB N bs = []) := if_neg hm
    have HDN : Hid (duN N bs = 0) := if_neg hm
    have hq' : (matE N bs != 0) = true := by simpa using hm
    clear hm
    gi_wp2
    have hs3 := HS1.out
    obtain ⟨W9, hW9⟩ : ∃ W9, W9 = (w1.setCell ⟨w.heap.size + 1, 0, none⟩ (.int .i64 0)).setCell ⟨w.heap.size + 1, 1, none⟩ (.slice none 0 0) := ⟨_, rfl⟩
    rw [← hW9]
    have q1 : W9.heap[w.heap.size + 1]? = some (.cells #[.int .i64 0, .slice none 0 0] 25 (0, 0)) := by
      rw [hW9]
      simp [World.setCell, Array.getElem?_modify, HR1.out]
    have q3 : ∀ b, b ≠ w.heap.size + 1 → W9.heap[b]? = w1.heap[b]? := fun b h1 => by
      rw [hW9]; exact (Below.heap_setCell _ _ _ _ h1).trans (Below.heap_setCell _ _ _ _ h1)
    have q4 : W9.heap.size = w1.heap.size := by rw [hW9]; simp [World.setCell]
    have q5 : W9.os = w1.os ∧ W9.tape = w1.tape ∧ W9.output = w1.output := by rw [hW9]; exact ⟨rfl, rfl, rfl⟩
    clear hW9
    refine leaves_mks [] W9 (by simp) (fun r hr => by simp at hr) (fun w' hc => ⟨.tuple #[.agg #[.int .i64 0, .slice none 0 0], .int .i64 (matE N bs)], ?_, ?_⟩)
    · have r1 : w'.heap[w.heap.size + 1]? = some (.cells #[.int .i64 0, .slice none 0 0] 25 (0, 0)) := (hc.block _ (by omega) (by simp)).trans q1
      have c0 : w'.cell? ⟨w.heap.size + 1, 0, none⟩ = some (.int .i64 0) := by simp [World.cell?, r1]
      have c1 : w'.cell? ⟨w.heap.size + 1, 1, none⟩ = some (.slice none 0 0) := by simp [World.cell?, r1]
      simp [results, Tryd.results8, go_sem, c0, c1]
    · refine ⟨.slice none 0 0, by rw [HDN.out], ?_, hc.os.trans (q5.1.trans HBW.out.os), hc.tape.trans (q5.2.1.trans HBW.out.tape), hc.output.trans (q5.2.2.trans HBW.out.output), by have := hc.size; omega, fun b hb => ?_⟩
      · rw [HLQ.out]; exact Sl.nil _ _ _
      · exact (hc.block b (by omega) (by simp)).trans ((q3 b (by omega)).trans (HBW.out.block b hb))

end Go.Proofs.YtkdileeahbaobaaDoor
