import Derived.Test.YtehklbekaflokaaDoorMsB
import Derived.Test.YtehklbekaflokaaDoorMs11
import Derived.Test.YtehklbekaflokaaDoorMd4
import Derived.Test.YtehklbekaflokaaDoorMd7
import Derived.Test.YtehklbekaflokaaDoorMsA
import Derived.Test.YtehklbekaflokaaDoorMdA
import Derived.Test.YtehklbekaflokaaDoorHv1
import Derived.Test.YtehklbekaflokaaDoorMt9
/- What both sides answer is the same: dual bases, and bases without a thing. -/
namespace Go.Proofs.YtehklbekaflokaaDoor
open Go.RowKit

theorem mat_st {n : Nat} {bs : List Int} (h : matE (n : Int) bs = 0) : Ris bs ∧ Bn (2 ^ n) bs ∧ 0 < bs.length := by
  obtain ⟨-, hN0, hN8⟩ := mat_b8 h
  have hn8 : n ≤ 8 := by omega
  have hl : 0 < bs.length := by
    rcases Nat.eq_zero_or_pos bs.length with h0 | h0
    · exfalso
      unfold matE at h
      rw [h0] at h
      simp at h
      omega
    · exact h0
  have hst : ∀ i, i < bs.length → stepE n bs i = 0 := by
    rw [matE_ok hn8 hl] at h
    by_cases hs : scanE (stepE n bs) bs.length ≠ 0
    · rw [if_pos hs] at h
      exact absurd h hs
    · intro i hi
      have hs0 : scanE (stepE n bs) bs.length = 0 := by omega
      rcases Classical.em (∃ k, k < bs.length ∧ stepE n bs k ≠ 0) with ⟨k, hk, hne⟩ | hno
      · exfalso
        have hex : ∃ k, k < bs.length ∧ stepE n bs k ≠ 0 ∧ ∀ i, i < k → stepE n bs i = 0 := by
          induction k using Nat.strongRecOn with
          | ind k ih =>
            rcases Classical.em (∃ j, j < k ∧ stepE n bs j ≠ 0) with ⟨j, hj, hj2⟩ | hn
            · exact ih j hj (by omega) hj2
            · exact ⟨k, hk, hne, fun i hi => Classical.byContradiction fun h => hn ⟨i, hi, h⟩⟩
        obtain ⟨k, hk, hne, hall⟩ := hex
        have := scan_hit (f := stepE n bs) hall hne hk
        rw [hs0] at this
        exact hne this.symm
      · exact Classical.byContradiction fun h => hno ⟨i, hi, h⟩
  refine ⟨st_ris hst, fun b hb => ?_, hl⟩
  obtain ⟨k, hk, rfl⟩ := List.getElem_of_mem hb
  have h0 := step0.1 (hst k hk)
  have h1 := h0.lo
  have h2 := h0.hi
  rw [show bs.getD k 0 = bs[k] by simp [hk]] at h1 h2
  exact ⟨h1, by simpa using h2⟩

theorem duF_eq {n : Nat} {bs : List Int} (hn : n ≤ 8) (hb : Bn (2 ^ n) bs) {x : Nat} (hx : x < bs.length) : duF (2 ^ n) bs x = leaI (2 ^ n) (bs.getD x 0) := by
  have h := hb (bs.getD x 0) (by simp [hx])
  unfold duF leaI
  rw [full_sub8 n hn _ (by omega)]

theorem du_ris {n : Nat} {bs : List Int} (hn : n ≤ 8) (hr : Ris bs) (hb : Bn (2 ^ n) bs) : Ris ((dnL bs.length).map (duF (2 ^ n) bs)) := by
  unfold Ris
  rw [List.pairwise_map]
  unfold dnL
  rw [List.pairwise_reverse]
  refine List.Pairwise.imp_of_mem (fun {i j} hi hj hij => ?_) (List.pairwise_lt_range (n := bs.length))
  simp only [List.mem_range] at hi hj
  rw [duF_eq hn hb hi, duF_eq hn hb hj]
  have h1 := hb (bs.getD i 0) (by simp [hi])
  have h2 := hb (bs.getD j 0) (by simp [hj])
  have h3 := ris_get hr hij hj
  unfold leaI
  omega

theorem du_mem {n : Nat} {bs : List Int} (hn : n ≤ 8) (hb : Bn (2 ^ n) bs) (x : Int) : x ∈ duL (2 ^ n) bs bs.length ↔ x ∈ (dnL bs.length).map (duF (2 ^ n) bs) := by
  unfold duL dnL
  rw [List.take_length]
  simp only [List.mem_map, List.mem_reverse, List.mem_range]
  constructor
  · rintro ⟨b, hb2, rfl⟩
    obtain ⟨k, hk, rfl⟩ := List.getElem_of_mem hb2
    exact ⟨k, hk, by rw [duF_eq hn hb hk, show bs.getD k 0 = bs[k] by simp [hk]]⟩
  · rintro ⟨k, hk, rfl⟩
    exact ⟨bs[k], List.getElem_mem _, by rw [duF_eq hn hb hk, show bs.getD k 0 = bs[k] by simp [hk]]⟩

theorem wiP_del (i : Nat) : wiP false i = dlP i := by
  funext b
  unfold wiP dlP
  cases b.toNat.testBit i <;> rfl

theorem wiP_con (i : Nat) : wiP true i = cnP i := by
  funext b
  unfold wiP cnP
  cases b.toNat.testBit i <;> rfl

theorem les_ris {bs : List Int} {i : Nat} (hi : i < 8) (hr : Ris bs) (hb : B8 bs) {c : Bool} (hc : ∀ b ∈ bs, b.toNat.testBit i = c) : Ris (bs.map (lesI i)) := by
  unfold Ris
  rw [List.pairwise_map]
  refine List.Pairwise.imp_of_mem (fun {a b} ha hb2 hab => ?_) hr
  have h1 := hb a ha
  have h2 := hb b hb2
  have := lesN_rise (a := a.toNat) (b := b.toNat) hi (by omega) (by rw [hc a ha, hc b hb2])
  unfold lesI
  omega

theorem mn_ris {bs : List Int} {i : Nat} {wi : Bool} (hi : i < 8) (hr : Ris bs) (hb : B8 bs) : Ris (mnL bs i (wiP wi i)) := by
  unfold mnL
  split
  · rename_i h
    unfold kpL at h
    rw [List.take_length, List.length_map] at h
    have hf : bs.filter (wiP wi i) = [] := List.eq_nil_of_length_eq_zero h
    rw [List.filter_eq_nil_iff] at hf
    unfold alL
    rw [List.take_length]
    refine les_ris hi hr hb (c := !wi) fun b hb2 => ?_
    have := hf b hb2
    unfold wiP at this
    revert this
    cases b.toNat.testBit i <;> cases wi <;> simp
  · unfold kpL
    rw [List.take_length]
    refine les_ris hi (List.Pairwise.filter _ hr) (fun b hb2 => hb b (List.mem_filter.1 hb2).1) (c := wi) fun b hb2 => ?_
    have := (List.mem_filter.1 hb2).2
    unfold wiP at this
    simpa using this

end Go.Proofs.YtehklbekaflokaaDoor

/- The law's own looks, and the document's dual and minors as the program has them. -/
namespace Go.Proofs.YtehklbekaflokaaDoor
open Go.RowKit
attribute [local go_sem ↓] Go.wp_at_zero Go.wp_at_succ

set_option maxRecDepth 100000 in
theorem listT_any (x : List Int) (E : Int) (u v : Value) (w : World) (hu : Sl 0 3 w u (ints x)) (hv : Sl 0 3 w v (ints x)) (hE : E ≠ 0 → x = []) :
    Calls Tryd.prog 16 #[u, .int .i64 E, v, .int .i64 E] w fun x w' => x = .returned (.bool true) ∧ Below w.heap.size w w' := by
  obtain ⟨uo, uc, rfl, _, _⟩ := sl_open hu
  obtain ⟨vo, vc, rfl, _, _⟩ := sl_open hv
  by_cases h0 : E = 0
  · subst h0
    have HU : Hid (Sl 0 3 w (.slice uo x.length uc) (ints x)) := hu
    have HV : Hid (Sl 0 3 w (.slice vo x.length vc) (ints x)) := hv
    clear hu hv hE
    go_enter Tryd.func16, Tryd.ntmps16
    go_wp2_with fail
    refine (same_any 0 x x _ _ w HU.out HV.out).mono ?_
    rintro e w' ⟨rfl, n, rfl⟩
    have hxx : (x == x) = true := by simp
    rw [hxx]
    go_wp2
    go_ret
    exact ⟨rfl, ⟨rfl, rfl, rfl, Nat.le_refl _, fun _ _ => rfl⟩⟩
  · have hx := hE h0
    subst hx
    have hb : (E != 0) = true := by simp [h0]
    have hbe : (E == E) = true := by simp
    clear hu hv hE h0
    go_enter Tryd.func16, Tryd.ntmps16
    go_wp2
    go_ret
    exact ⟨ret_bool (by simp), Below.refl _ _⟩

set_option maxRecDepth 100000 in
set_option maxHeartbeats 800000 in
theorem sameT_any (x : List Int) (N E : Int) (u v : Value) (w : World) (hu : Sl 0 3 w u (ints x)) (hv : Sl 0 3 w v (ints x)) (hE : E ≠ 0 → N = 0 ∧ x = []) :
    Calls Tryd.prog 20 #[.agg #[.int .i64 N, u], .int .i64 E, .agg #[.int .i64 N, v], .int .i64 E] w fun x w' => x = .returned (.bool true) ∧ Below w.heap.size w w' := by
  obtain ⟨uo, uc, rfl, _, _⟩ := sl_open hu
  obtain ⟨vo, vc, rfl, _, _⟩ := sl_open hv
  obtain ⟨wa, hwa⟩ : ∃ wa, wa = w.alloc (.cells #[.int .i64 N, .slice uo x.length uc] 24) := ⟨_, rfl⟩
  obtain ⟨W, hW⟩ : ∃ W, W = wa.alloc (.cells #[.int .i64 N, .slice vo x.length vc] 24) := ⟨_, rfl⟩
  have hsa : wa.heap.size = w.heap.size + 1 := by rw [hwa]; simp
  have HBA : Hid (Below w.heap.size w W) := by rw [hW, hwa]; exact ((Below.refl _ _).alloc (Nat.le_refl _) _).alloc (by simp) _
  have a0 : W.heap[w.heap.size]? = some (.cells #[.int .i64 N, .slice uo x.length uc] 24 (0, 0)) := by
    rw [hW]; exact (Below.heap_alloc _ _ _ (by omega)).trans (by rw [hwa]; exact heap_alloc_new w _)
  have a1 : W.heap[w.heap.size + 1]? = some (.cells #[.int .i64 N, .slice vo x.length vc] 24 (0, 0)) := by
    rw [hW, ← hsa]; exact heap_alloc_new wa _
  have HWW : Hid (W = (w.alloc (.cells #[.int .i64 N, .slice uo x.length uc] 24)).alloc (.cells #[.int .i64 N, .slice vo x.length vc] 24)) := by rw [hW, hwa]; rfl
  have g0 : ((w.alloc (.cells #[.int .i64 N, .slice uo x.length uc] 24)).alloc (.cells #[.int .i64 N, .slice vo x.length vc] 24)).cell? ⟨w.heap.size, 0, none⟩ = some (.int .i64 N) := by rw [← HWW.out]; simp [World.cell?, a0]
  have g1 : ((w.alloc (.cells #[.int .i64 N, .slice uo x.length uc] 24)).alloc (.cells #[.int .i64 N, .slice vo x.length vc] 24)).cell? ⟨w.heap.size, 1, none⟩ = some (.slice uo x.length uc) := by rw [← HWW.out]; simp [World.cell?, a0]
  have g2 : ((w.alloc (.cells #[.int .i64 N, .slice uo x.length uc] 24)).alloc (.cells #[.int .i64 N, .slice vo x.length vc] 24)).cell? ⟨w.heap.size + 1, 0, none⟩ = some (.int .i64 N) := by rw [← HWW.out]; simp [World.cell?, a1]
  have g3 : ((w.alloc (.cells #[.int .i64 N, .slice uo x.length uc] 24)).alloc (.cells #[.int .i64 N, .slice vo x.length vc] 24)).cell? ⟨w.heap.size + 1, 1, none⟩ = some (.slice vo x.length vc) := by rw [← HWW.out]; simp [World.cell?, a1]
  have HU : Hid (Sl 0 3 W (.slice uo x.length uc) (ints x)) := hu.below HBA.out (Nat.le_refl _)
  have HV : Hid (Sl 0 3 W (.slice vo x.length vc) (ints x)) := hv.below HBA.out (Nat.le_refl _)
  clear hu hv hW hwa hsa a0 a1
  by_cases h0 : E = 0
  · subst h0
    have hNN : (N == N) = true := by simp
    clear hE
    go_enter Tryd.func20, Tryd.ntmps20
    go_wp2_with fail
    rw [← HWW.out]
    refine (same_any 0 x x _ _ W HU.out HV.out).mono ?_
    rintro e w' ⟨rfl, n, hw'⟩
    have HBB : Hid (Below w.heap.size w w') := by rw [hw']; exact ⟨HBA.out.os, HBA.out.tape, HBA.out.output, HBA.out.size, HBA.out.block⟩
    have hxx : (x == x) = true := by simp
    rw [hxx]
    clear hw' g0 g1 g2 g3
    go_wp2
    go_ret
    exact ⟨rfl, HBB.out⟩
  · obtain ⟨hN, hx⟩ := hE h0
    subst hN hx
    have hb : (E != 0) = true := by simp [h0]
    have hbe : (E == E) = true := by simp
    have hbc := HBA.out
    rw [HWW.out] at hbc
    have HBC : Hid (Below w.heap.size w ((w.alloc (.cells #[.int .i64 0, .slice uo 0 uc] 24)).alloc (.cells #[.int .i64 0, .slice vo 0 vc] 24))) := hbc
    clear hE h0 hbc
    go_enter Tryd.func20, Tryd.ntmps20
    go_wp2
    go_ret
    exact ⟨ret_bool (by first | rfl | simp), HBC.out⟩

theorem dualE_any (n : Nat) (bs : List Int) (v : Value) (w : World) (hv : Sl w.heap.size 3 w v (ints bs)) (hl : bs.length ≤ 1000) (h0 : matE (n : Int) bs = 0) :
    Calls Tryd.prog 9 #[.agg #[.int .i64 n, v]] w fun e w' => ∃ u, e = .returned (.agg #[.int .i64 (duN n bs), u]) ∧ Sl 0 3 w' u (ints (duB n bs)) ∧ Below w.heap.size w w' := by
  obtain ⟨-, _, hN8⟩ := mat_b8 h0
  have hn8 : n ≤ 8 := by omega
  obtain ⟨hr, hb, _⟩ := mat_st h0
  refine (dualD_any n bs v w hv hl hb hn8).mono ?_
  rintro e w' ⟨u, out, rfl, h1, h2, h3, h4⟩
  have e1 : duN (n : Int) bs = n := if_pos h0
  have e2 : duB (n : Int) bs = (dnL bs.length).map (duF (2 ^ n) bs) := by unfold duB; rw [if_pos h0, Int.toNat_natCast]
  have e3 : out = duB (n : Int) bs := by
    rw [e2]
    exact ris_eq _ _ h2 (du_ris hn8 hr hb) fun x => (h3 x).trans (du_mem hn8 hb x)
  exact ⟨u, by rw [e1], by rw [← e3]; exact h1, h4⟩

theorem minorE_any (n : Nat) (bs : List Int) (I : Nat) (wi : Bool) (P : Nat → Int → Bool) (v : Value) (w : World) (hv : Sl w.heap.size 3 w v (ints bs)) (hl : bs.length ≤ 1000) (h0 : matE (n : Int) bs = 0) (hI : I < n) (hP : wiP wi I = P I) :
    Calls Tryd.prog 11 #[.agg #[.int .i64 n, v], .int .i64 I, .bool wi] w fun e w' => ∃ u, e = .returned (.agg #[.int .i64 (mnN n bs I), u]) ∧ Sl 0 3 w' u (ints (mnB n bs I P)) ∧ Below w.heap.size w w' := by
  obtain ⟨hb8, _, hN8⟩ := mat_b8 h0
  have hn8 : n ≤ 8 := by omega
  obtain ⟨hr, hb, _⟩ := mat_st h0
  refine (minor_any n bs I wi v w hv hl hb8 hn8 hI).mono ?_
  rintro e w' ⟨u, out, rfl, h1, h2, h3, h4⟩
  have et : thE (n : Int) bs (I : Int) = 0 := by
    unfold thE
    rw [if_neg (by omega), if_neg (by omega)]
  have e1 : mnN (n : Int) bs (I : Int) = ((n - 1 : Nat) : Int) := by unfold mnN; rw [if_pos et]; omega
  have e2 : mnB (n : Int) bs (I : Int) P = mnL bs I (wiP wi I) := by unfold mnB; rw [if_pos et, Int.toNat_natCast, hP]
  have e3 : out = mnB (n : Int) bs (I : Int) P := by
    rw [e2]
    exact ris_eq _ _ h2 (mn_ris (by omega) hr hb8) h3
  exact ⟨u, by rw [e1], by rw [← e3]; exact h1, h4⟩

theorem circE_any (n : Nat) (bs : List Int) (v : Value) (w : World) (hv : Sl w.heap.size 3 w v (ints bs)) (h0 : matE (n : Int) bs = 0) :
    Calls Tryd.prog 7 #[.agg #[.int .i64 n, v]] w fun e w' => ∃ u, e = .returned u ∧ Sl 0 3 w' u (ints (circL n bs)) ∧ Below w.heap.size w w' := by
  obtain ⟨hb8, _, hN8⟩ := mat_b8 h0
  have e : circL (n : Int) bs = setsTo (circB bs) (2 ^ n) := by unfold circL; rw [if_pos h0, Int.toNat_natCast]
  rw [e]
  exact circD_any n bs v w hv hb8 (by omega) (mat_st h0).2.2

theorem flatE_any (n : Nat) (bs : List Int) (v : Value) (w : World) (hv : Sl w.heap.size 3 w v (ints bs)) (h0 : matE (n : Int) bs = 0) :
    Calls Tryd.prog 8 #[.agg #[.int .i64 n, v]] w fun e w' => ∃ u, e = .returned u ∧ Sl 0 3 w' u (ints (flatL n bs)) ∧ Below w.heap.size w w' := by
  obtain ⟨hb8, _, hN8⟩ := mat_b8 h0
  have e : flatL (n : Int) bs = setsTo (flatB n bs) (2 ^ n) := by unfold flatL; rw [if_pos h0, Int.toNat_natCast]
  rw [e]
  exact flatsD_any n bs v w hv hb8 (by omega)

/-- Three boxes of the law's own, and lists that lie apart from them. -/
structure Sx (a : Nat) (w2 W : World) (c0 c1 c2 : Array Value) (sls : List (Value × List Int)) : Prop where
  bel : Below a w2 W
  b0 : W.heap[a]? = some (.cells c0 24 (0, 0))
  b1 : W.heap[a + 1]? = some (.cells c1 24 (0, 0))
  b2 : W.heap[a + 2]? = some (.cells c2 24 (0, 0))
  sl : ∀ p ∈ sls, Sl 0 3 W p.1 (ints p.2)

theorem Sx.lt {a : Nat} {w2 W : World} {c0 c1 c2 : Array Value} {sls : List (Value × List Int)} (h : Sx a w2 W c0 c1 c2 sls) : a + 3 ≤ W.heap.size := by
  have := (Array.getElem?_eq_some_iff.1 h.b2).1
  omega

theorem Sx.low {a : Nat} {w2 W W' : World} {c0 c1 c2 : Array Value} {sls : List (Value × List Int)} (h : Sx a w2 W c0 c1 c2 sls) (hb : Below W.heap.size W W') : Sx a w2 W' c0 c1 c2 sls := by
  have := h.lt
  exact ⟨h.bel.trans (hb.mono (by omega)), (hb.block _ (by omega)).trans h.b0, (hb.block _ (by omega)).trans h.b1, (hb.block _ (by omega)).trans h.b2, fun p hp => (h.sl p hp).below hb (Nat.le_refl _)⟩

theorem Sx.add {a : Nat} {w2 W : World} {c0 c1 c2 : Array Value} {sls : List (Value × List Int)} {v : Value} {xs : List Int} (h : Sx a w2 W c0 c1 c2 sls) (hs : Sl 0 3 W v (ints xs)) : Sx a w2 W c0 c1 c2 ((v, xs) :: sls) :=
  ⟨h.bel, h.b0, h.b1, h.b2, fun p hp => by
    rcases List.mem_cons.1 hp with rfl | hp
    · exact hs
    · exact h.sl p hp⟩

theorem sl_box {W : World} {v : Value} {xs : List Int} {b : Nat} {c : Array Value} (hs : Sl 0 3 W v (ints xs)) (hb : W.heap[b]? = some (.cells c 24 (0, 0))) (x y : Value) : Sl 0 3 ((W.setCell ⟨b, 0, none⟩ x).setCell ⟨b, 1, none⟩ y) v (ints xs) :=
  hs.move fun g hg ht => by
    rcases ht with ht | ⟨cur, ht⟩
    · omega
    · have hne : g ≠ b := fun e => by
        rw [e, hb] at ht
        simp at ht
      exact ⟨(Below.heap_setCell _ _ _ _ (by show g ≠ b; exact hne)).trans (Below.heap_setCell _ _ _ _ (by show g ≠ b; exact hne)), .inr ⟨cur, ht⟩⟩

theorem box_set {W : World} {b : Nat} {p q : Value} (hb : W.heap[b]? = some (.cells #[p, q] 24 (0, 0))) (x y : Value) : ((W.setCell ⟨b, 0, none⟩ x).setCell ⟨b, 1, none⟩ y).heap[b]? = some (.cells #[x, y] 24 (0, 0)) := by
  simp [World.setCell, Array.getElem?_modify, hb]

theorem box_oth {W : World} {b g : Nat} (h : g ≠ b) (x y : Value) : ((W.setCell ⟨b, 0, none⟩ x).setCell ⟨b, 1, none⟩ y).heap[g]? = W.heap[g]? :=
  (Below.heap_setCell _ _ _ _ h).trans (Below.heap_setCell _ _ _ _ h)

theorem Sx.set0 {a : Nat} {w2 W : World} {p q : Value} {c1 c2 : Array Value} {sls : List (Value × List Int)} (h : Sx a w2 W #[p, q] c1 c2 sls) (x y : Value) : Sx a w2 ((W.setCell ⟨a, 0, none⟩ x).setCell ⟨a, 1, none⟩ y) #[x, y] c1 c2 sls :=
  ⟨(h.bel.setCell (by simp) _).setCell (by simp) _, box_set h.b0 x y, (box_oth (by omega) x y).trans h.b1, (box_oth (by omega) x y).trans h.b2, fun r hr => sl_box (h.sl r hr) h.b0 x y⟩

theorem Sx.set1 {a : Nat} {w2 W : World} {p q : Value} {c0 c2 : Array Value} {sls : List (Value × List Int)} (h : Sx a w2 W c0 #[p, q] c2 sls) (x y : Value) : Sx a w2 ((W.setCell ⟨a + 1, 0, none⟩ x).setCell ⟨a + 1, 1, none⟩ y) c0 #[x, y] c2 sls :=
  ⟨(h.bel.setCell (by simp) _).setCell (by simp) _, (box_oth (by omega) x y).trans h.b0, box_set h.b1 x y, (box_oth (by omega) x y).trans h.b2, fun r hr => sl_box (h.sl r hr) h.b1 x y⟩

theorem Sx.set2 {a : Nat} {w2 W : World} {p q : Value} {c0 c1 : Array Value} {sls : List (Value × List Int)} (h : Sx a w2 W c0 c1 #[p, q] sls) (x y : Value) : Sx a w2 ((W.setCell ⟨a + 2, 0, none⟩ x).setCell ⟨a + 2, 1, none⟩ y) c0 c1 #[x, y] sls :=
  ⟨(h.bel.setCell (by simp) _).setCell (by simp) _, (box_oth (by omega) x y).trans h.b0, (box_oth (by omega) x y).trans h.b1, box_set h.b2 x y, fun r hr => sl_box (h.sl r hr) h.b2 x y⟩

end Go.Proofs.YtehklbekaflokaaDoor

/- MatroidSays: what the calls of the law come to, in one saying. -/
namespace Go.Proofs.YtehklbekaflokaaDoor
open Go.RowKit

/-- The program's calls. -/
structure Fx (W0 : World) (ms : Value) (s i E RK RE TE MN DN : Int) (CL FL DB LB WB : List Int) : Prop where
  may : ∀ W', Below W0.heap.size W0 W' → Calls Tryd.prog 5 #[ms] W' fun e w' => e = .returned (.int .i64 E) ∧ Below W'.heap.size W' w'
  chk : ∀ W', Below W0.heap.size W0 W' → Calls Tryd.prog 6 #[ms] W' fun e w' => e = .returned (.int .i64 E) ∧ Below W'.heap.size W' w'
  rank : ∀ W', Below W0.heap.size W0 W' → Calls Tryd.prog 12 #[ms, .int .i64 s] W' fun e w' => e = .returned (.tuple #[.int .i64 RK, .int .i64 RE]) ∧ Below W'.heap.size W' w'
  circ : ∀ W', Below W0.heap.size W0 W' → Calls Tryd.prog 13 #[ms] W' fun e w' => ∃ u, e = .returned (.tuple #[u, .int .i64 E]) ∧ Sl 0 3 w' u (ints CL) ∧ Below W'.heap.size W' w'
  flat : ∀ W', Below W0.heap.size W0 W' → Calls Tryd.prog 14 #[ms] W' fun e w' => ∃ u, e = .returned (.tuple #[u, .int .i64 E]) ∧ Sl 0 3 w' u (ints FL) ∧ Below W'.heap.size W' w'
  dual : ∀ W', Below W0.heap.size W0 W' → Calls Tryd.prog 17 #[ms] W' fun e w' => ∃ u, e = .returned (.tuple #[.agg #[.int .i64 DN, u], .int .i64 E]) ∧ Sl 0 3 w' u (ints DB) ∧ Below W'.heap.size W' w'
  del : ∀ W', Below W0.heap.size W0 W' → Calls Tryd.prog 18 #[ms, .int .i64 i] W' fun e w' => ∃ u, e = .returned (.tuple #[.agg #[.int .i64 MN, u], .int .i64 TE]) ∧ Sl 0 3 w' u (ints LB) ∧ Below W'.heap.size W' w'
  con : ∀ W', Below W0.heap.size W0 W' → Calls Tryd.prog 19 #[ms, .int .i64 i] W' fun e w' => ∃ u, e = .returned (.tuple #[.agg #[.int .i64 MN, u], .int .i64 TE]) ∧ Sl 0 3 w' u (ints WB) ∧ Below W'.heap.size W' w'
  hE : E ≠ 0 → CL = [] ∧ FL = [] ∧ DN = 0 ∧ DB = []
  hT : TE ≠ 0 → MN = 0 ∧ LB = [] ∧ WB = []
  hR : RE ≠ 0 → RK = 0

/-- The document's. -/
structure Gx (W0 : World) (ms : Value) (DN : Int) (CL FL DB : List Int) : Prop where
  circ : ∀ W', Below W0.heap.size W0 W' → Calls Tryd.prog 7 #[ms] W' fun e w' => ∃ u, e = .returned u ∧ Sl 0 3 w' u (ints CL) ∧ Below W'.heap.size W' w'
  flat : ∀ W', Below W0.heap.size W0 W' → Calls Tryd.prog 8 #[ms] W' fun e w' => ∃ u, e = .returned u ∧ Sl 0 3 w' u (ints FL) ∧ Below W'.heap.size W' w'
  dual : ∀ W', Below W0.heap.size W0 W' → Calls Tryd.prog 9 #[ms] W' fun e w' => ∃ u, e = .returned (.agg #[.int .i64 DN, u]) ∧ Sl 0 3 w' u (ints DB) ∧ Below W'.heap.size W' w'

theorem fx_all (N s i : Int) (bs : List Int) (v : Value) (w W0 : World) (hv : Sl w.heap.size 3 w v (ints bs)) (hl : bs.length ≤ 300) (hT : TabB w) (hb : Below w.heap.size w W0) :
    Fx W0 (.agg #[.int .i64 N, v]) s i (matE N bs) (rkA N bs s) (rkE N bs s) (thE N bs i) (mnN N bs i) (duN N bs) (circL N bs) (flatL N bs) (duB N bs) (mnB N bs i dlP) (mnB N bs i cnP) := by
  have hs : ∀ W', Below W0.heap.size W0 W' → Sl W'.heap.size 3 W' v (ints bs) ∧ TabB W' := fun W' h => by
    have h2 : Below w.heap.size w W' := hb.trans (h.mono hb.size)
    exact ⟨(hv.below h2 (Nat.le_refl _)).more h2.size, hT.below h2⟩
  refine ⟨fun W' h => mayM_any N bs v W' (hs W' h).1 (by omega), fun W' h => checkM_any N bs v W' (hs W' h).1 (by omega) (hs W' h).2, fun W' h => rank_any N bs s v W' (hs W' h).1 (by omega) (hs W' h).2,
    fun W' h => circuits_any N bs v W' (hs W' h).1 (by omega) (hs W' h).2, fun W' h => flats_any N bs v W' (hs W' h).1 (by omega) (hs W' h).2, fun W' h => dual_any N bs v W' (hs W' h).1 (by omega) (hs W' h).2,
    fun W' h => delete_any N bs i v W' (hs W' h).1 (by omega) (hs W' h).2, fun W' h => contract_any N bs i v W' (hs W' h).1 (by omega) (hs W' h).2, fun h => ⟨if_neg h, if_neg h, if_neg h, if_neg h⟩, fun h => ⟨if_neg h, if_neg h, if_neg h⟩, fun h => if_neg h⟩

theorem gx_all (n : Nat) (bs : List Int) (v : Value) (w W0 : World) (hv : Sl w.heap.size 3 w v (ints bs)) (hl : bs.length ≤ 300) (hb : Below w.heap.size w W0) (h0 : matE (n : Int) bs = 0) :
    Gx W0 (.agg #[.int .i64 n, v]) (duN n bs) (circL n bs) (flatL n bs) (duB n bs) := by
  have hs : ∀ W', Below W0.heap.size W0 W' → Sl W'.heap.size 3 W' v (ints bs) := fun W' h => by
    have h2 : Below w.heap.size w W' := hb.trans (h.mono hb.size)
    exact (hv.below h2 (Nat.le_refl _)).more h2.size
  exact ⟨fun W' h => circE_any n bs v W' (hs W' h) h0, fun W' h => flatE_any n bs v W' (hs W' h) h0, fun W' h => dualE_any n bs v W' (hs W' h) (by omega) h0⟩

end Go.Proofs.YtehklbekaflokaaDoor
