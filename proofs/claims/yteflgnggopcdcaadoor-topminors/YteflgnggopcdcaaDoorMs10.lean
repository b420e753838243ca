/- matroid.ofOthers by Contract; matroid.Contract. -/
import Derived.Test.YteflgnggopcdcaaDoorMsA
namespace Go.Proofs.YteflgnggopcdcaaDoor
open Go.RowKit
attribute [local go_sem ↓] Go.wp_at_zero Go.wp_at_succ

set_option maxRecDepth 100000 in
set_option maxHeartbeats 3200000 in
theorem othC_any (N : Int) (bs : List Int) (i : Int) (bp : Nat) (v : Value) (w : World) (hv : Sl w.heap.size 3 w v (ints bs)) (hl : bs.length ≤ 1000000) (hT : TabB w) (hp : w.cell? ⟨bp, 0, none⟩ = some (.int .i64 i)) :
    Calls Tryd.prog 17 #[.agg #[.int .i64 N, v], .int .i64 i, .func (.func 19) #[] #[.pointer (some ⟨bp, 0, none⟩)]] w fun e w' => ∃ u, e = .returned (.tuple #[.agg #[.int .i64 (mnN N bs i), u], .int .i64 (thE N bs i)]) ∧ Sl 0 3 w' u (ints (mnB N bs i cnP)) ∧ Below w.heap.size w w' := by
  obtain ⟨i3, hi3, hz30, hz31, hz32⟩ := info_parts Tryd.info3
  obtain ⟨ao, cap, hvv, hlc, hcm⟩ := sl_open hv
  subst hvv
  obtain ⟨w0, hw0⟩ : ∃ w0, w0 = w.alloc (.cells #[.int .i64 N, .slice ao bs.length cap] 25) := ⟨_, rfl⟩
  obtain ⟨W, hW⟩ : ∃ W, W = w0.alloc (.cells #[.int .i64 0, .slice none 0 0] 25) := ⟨_, rfl⟩
  have hs0 : w0.heap.size = w.heap.size + 1 := by rw [hw0]; simp
  have hsW : W.heap.size = w.heap.size + 2 := by rw [hW]; simp [hs0]
  have hb0 : Below w.heap.size w w0 := by rw [hw0]; exact (Below.refl _ _).alloc (Nat.le_refl _) _
  have HBA : Hid (Below w.heap.size w W) := by rw [hW]; exact hb0.alloc (by omega) _
  have a0 : W.heap[w.heap.size]? = some (.cells #[.int .i64 N, .slice ao bs.length cap] 25 (0, 0)) := by
    rw [hW]; exact (Below.heap_alloc _ _ _ (by omega)).trans (by rw [hw0]; exact heap_alloc_new w _)
  have a1 : W.heap[w.heap.size + 1]? = some (.cells #[.int .i64 0, .slice none 0 0] 25 (0, 0)) := by
    rw [hW, ← hs0]; exact heap_alloc_new w0 _
  have hpb := lt_of_cell hp
  have HC : Hid (∀ W', Below W.heap.size W W' → W'.heap[w.heap.size]? = some (.cells #[.int .i64 N, .slice ao bs.length cap] 25 (0, 0)) ∧ W'.heap[w.heap.size + 1]? = some (.cells #[.int .i64 0, .slice none 0 0] 25 (0, 0)) ∧ Sl w.heap.size 3 W' (.slice ao bs.length cap) (ints bs) ∧ W'.cell? ⟨bp, 0, none⟩ = some (.int .i64 i) ∧ Below w.heap.size w W') := fun W' h =>
    have hb : Below w.heap.size w W' := HBA.out.trans (h.mono HBA.out.size)
    ⟨(h.block _ (by omega)).trans a0, (h.block _ (by omega)).trans a1, hv.below hb (Nat.le_refl _), (hb.cell hpb).trans hp, hb⟩
  have HCK : Hid (Calls Tryd.prog 15 #[.agg #[.int .i64 N, .slice ao bs.length cap]] W fun e w' => e = .returned (.int .i64 (matE N bs)) ∧ Below W.heap.size W w') :=
    checkM_any N bs _ W ((hv.below HBA.out (Nat.le_refl _)).more HBA.out.size) hl (hT.below HBA.out)
  have HFIN : Hid (∀ (W' : World) (z : Int) (u : Value) (xs : List Int), W'.heap[w.heap.size + 1]? = some (.cells #[.int .i64 0, .slice none 0 0] 25 (0, 0)) → Below w.heap.size w W' → Sl 0 3 W' u (ints xs) →
      Sl 0 3 ((W'.setCell ⟨w.heap.size + 1, 0, none⟩ (.int .i64 z)).setCell ⟨w.heap.size + 1, 1, none⟩ u) u (ints xs) ∧ Below w.heap.size w ((W'.setCell ⟨w.heap.size + 1, 0, none⟩ (.int .i64 z)).setCell ⟨w.heap.size + 1, 1, none⟩ u)) := fun W' z u xs hr hb hs => by
    refine ⟨hs.move fun b hb ht => ?_, (hb.setCell (by simp) _).setCell (by simp) _⟩
    rcases ht with ht | ⟨cur, ht⟩
    · omega
    · have hne : b ≠ w.heap.size + 1 := fun e => by
        rw [e, hr] at ht
        simp at ht
      exact ⟨(Below.heap_setCell _ _ _ _ (by show b ≠ w.heap.size + 1; exact hne)).trans (Below.heap_setCell _ _ _ _ (by show b ≠ w.heap.size + 1; exact hne)), .inr ⟨cur, ht⟩⟩
  have cA0 : (w.alloc (.cells #[.int .i64 N, .slice ao bs.length cap] 25)).cell? ⟨w.heap.size, 0, none⟩ = some (.int .i64 N) := by simp
  clear hv hT hp hb0 a0 a1 hpb
  go_enter Tryd.func17, Tryd.ntmps17
  have hWW : W = (w.alloc (.cells #[.int .i64 N, .slice ao bs.length cap] 25)).alloc (.cells #[.int .i64 0, .slice none 0 0] 25) := by rw [hW, hw0]
  have HWW : Hid (W = (w.alloc (.cells #[.int .i64 N, .slice ao bs.length cap] 25)).alloc (.cells #[.int .i64 0, .slice none 0 0] 25)) := hWW
  have gA0 : ((w.alloc (.cells #[.int .i64 N, .slice ao bs.length cap] 25)).alloc (.cells #[.int .i64 0, .slice none 0 0] 25)).cell? ⟨w.heap.size, 0, none⟩ = some (.int .i64 N) := by
    rw [← hWW]; have := (HC.out W (Below.refl _ _)).1; simp [World.cell?, this]
  have gA1 : ((w.alloc (.cells #[.int .i64 N, .slice ao bs.length cap] 25)).alloc (.cells #[.int .i64 0, .slice none 0 0] 25)).cell? ⟨w.heap.size, 1, none⟩ = some (.slice ao bs.length cap) := by
    rw [← hWW]; have := (HC.out W (Below.refl _ _)).1; simp [World.cell?, this]
  clear hWW hW hw0 hs0 cA0
  have HSW : Hid (W.heap.size = w.heap.size + 2) := hsW
  clear hsW
  go_wp2_with fail
  rw [← HWW.out]
  clear gA0 gA1 HWW
  refine HCK.out.mono ?_
  rintro e w1 ⟨rfl, hb1⟩
  have HB1 : Hid (Below W.heap.size W w1) := hb1
  obtain ⟨r0, r1, -, -, hbw⟩ := HC.out w1 hb1
  have HBF : Hid (Below w.heap.size w w1) := hbw
  have HR1 : Hid (w1.heap[w.heap.size + 1]? = some (.cells #[.int .i64 0, .slice none 0 0] 25 (0, 0))) := r1
  have d0 : w1.cell? ⟨w.heap.size, 0, none⟩ = some (.int .i64 N) := by simp [World.cell?, r0]
  have d1 : w1.cell? ⟨w.heap.size, 1, none⟩ = some (.slice ao bs.length cap) := by simp [World.cell?, r0]
  have x0 : w1.cell? ⟨w.heap.size + 1, 0, none⟩ = some (.int .i64 0) := by simp [World.cell?, r1]
  have x1 : w1.cell? ⟨w.heap.size + 1, 1, none⟩ = some (.slice none 0 0) := by simp [World.cell?, r1]
  have y0 : w1.frozen? ⟨w.heap.size + 1, 0, none⟩ = false := by simp [World.frozen?, r1]
  have y1 : w1.frozen? ⟨w.heap.size + 1, 1, none⟩ = false := by simp [World.frozen?, r1]
  clear hb1 HCK hbw r0 r1
  by_cases hm : matE N bs ≠ 0
  · have HE : Hid (thE N bs i = matE N bs) := if_pos hm
    have HA : Hid (mnN N bs i = 0) := if_neg (by rw [HE.out]; exact hm)
    have HL : Hid (mnB N bs i cnP = []) := if_neg (by rw [HE.out]; exact hm)
    have q1 : (matE N bs != 0) = true := by simpa using hm
    obtain ⟨k1, k2⟩ := HFIN.out w1 0 (.slice none 0 0) [] HR1.out HBF.out (Sl.nil _ _ _)
    have K1 : Hid _ := k1
    have K2 : Hid _ := k2
    clear hm k1 k2
    generalize matE N bs = E at *
    go_wp2
    exact bodyPost_ret (v := .tuple #[.agg #[.int .i64 0, .slice none 0 0], .int .i64 E]) (by simp [results, Tryd.results17, go_sem, *]) rfl ⟨_, by rw [HA.out, HE.out], by rw [HL.out]; exact K1.out, K2.out⟩
  have hm0 : matE N bs = 0 := by omega
  obtain ⟨hb8, hN0, hN8⟩ := mat_b8 hm0
  have HB8 : Hid (B8 bs) := hb8
  obtain ⟨n, rfl⟩ : ∃ n : Nat, N = (n : Int) := ⟨N.toNat, by omega⟩
  have hn8 : n ≤ 8 := by omega
  have HE : Hid (thE (n : Int) bs i = if i < 0 ∨ (n : Int) ≤ i then 9 else 0) := if_neg hm
  rw [hm0]
  clear hm hm0 hb8 hN0 hN8
  by_cases hbad : i < 0 ∨ (n : Int) ≤ i
  · have HE9 : Hid (thE (n : Int) bs i = 9) := by rw [HE.out, if_pos hbad]; rfl
    have HA : Hid (mnN (n : Int) bs i = 0) := if_neg (by rw [HE9.out]; decide)
    have HL : Hid (mnB (n : Int) bs i cnP = []) := if_neg (by rw [HE9.out]; decide)
    obtain ⟨k1, k2⟩ := HFIN.out w1 0 (.slice none 0 0) [] HR1.out HBF.out (Sl.nil _ _ _)
    have K1 : Hid _ := k1
    have K2 : Hid _ := k2
    clear k1 k2 HE
    by_cases hneg : i < 0
    · have q2 : decide (i < 0) = true := decide_eq_true hneg
      clear hbad hneg
      go_wp2
      exact bodyPost_ret (v := .tuple #[.agg #[.int .i64 0, .slice none 0 0], .int .i64 9]) (by simp [results, Tryd.results17, go_sem, *]) rfl ⟨_, by rw [HA.out, HE9.out], by rw [HL.out]; exact K1.out, K2.out⟩
    · have q2 : decide (i < 0) = false := decide_eq_false hneg
      have q3 : decide ((n : Int) ≤ i) = true := decide_eq_true (by omega)
      clear hbad hneg
      go_wp2
      exact bodyPost_ret (v := .tuple #[.agg #[.int .i64 0, .slice none 0 0], .int .i64 9]) (by simp [results, Tryd.results17, go_sem, *]) rfl ⟨_, by rw [HA.out, HE9.out], by rw [HL.out]; exact K1.out, K2.out⟩
  obtain ⟨I, rfl⟩ : ∃ I : Nat, i = (I : Int) := ⟨i.toNat, by omega⟩
  have hI : I < n := by omega
  have HE0 : Hid (thE (n : Int) bs (I : Int) = 0) := by rw [HE.out, if_neg hbad]; rfl
  have HA : Hid (mnN (n : Int) bs (I : Int) = ((n - 1 : Nat) : Int)) := by show _ = _; rw [mnN, if_pos HE0.out]; omega
  have HL : Hid (mnB (n : Int) bs (I : Int) cnP = mnL bs I (cnP I)) := if_pos HE0.out
  have q2 : decide ((I : Int) < 0) = false := decide_eq_false (by omega)
  have q3 : decide ((n : Int) ≤ (I : Int)) = false := decide_eq_false (by omega)
  have q3' : decide (n ≤ I) = false := decide_eq_false (by omega)
  have q4 : IntKind.i64.wrap ((n : Int) - 1) = ((n - 1 : Nat) : Int) := by rw [show (n : Int) - 1 = ((n - 1 : Nat) : Int) by omega]; exact wrap_small (by omega)
  have HWO : Hid (∀ W' (b : Nat), b < 256 → Calls Tryd.prog 28 #[.int .i64 b, .int .i64 I] W' fun e w' => e = .returned (.int .i64 (lesI I b)) ∧ w' = W') := fun W' b hb => without_any b I W' hb (by omega)
  have HCL : Hid (∀ W' (b : Nat), b < 256 → Below W.heap.size W W' → Calls Tryd.prog 19 #[.int .i64 b, .pointer (some ⟨bp, 0, none⟩)] W' fun e w' => e = .returned (.bool (cnP I b)) ∧ w' = W') := fun W' b hb h => con1_any b I bp W' hb (by omega) (HC.out W' h).2.2.2.1
  clear hbad HE x0 x1 y0 y1
  have hsz1 : W.heap.size ≤ w1.heap.size := HB1.out.size
  go_wp2
  go_loopw [9, 10, 12, 31] (fun kv av _ x wr => ∃ k : Nat, k ≤ bs.length ∧ x = .int .i64 k ∧ Two w1.heap.size w1 wr kv av (kpL bs I (cnP I) k) (alL bs I k)) (fun _ _ _ x _ => bs.length - (intOf x).toNat)
  case atStart => exact ⟨0, Nat.zero_le _, rfl, World.ownsRow_nil _ _ _ _, World.ownsRow_nil _ _ _ _, (fun g h => by simp [Value.ownBlock] at h), Below.refl _ _⟩
  case round =>
    obtain ⟨k, hk, rfl, htw⟩ := hrel
    have HTW : Hid (Two w1.heap.size w1 wr u9 u10 (kpL bs I (cnP I) k) (alL bs I k)) := htw
    have hsz : w1.heap.size ≤ wr.heap.size := htw.bel.size
    have HBW : Hid (Below W.heap.size W wr) := HB1.out.trans (htw.bel.mono hsz1)
    have hkl := kpL_len bs I k (cnP I)
    have hal := alL_len bs I k
    obtain ⟨r0, r1, hsl, -, hbw⟩ := HC.out wr HBW.out
    clear htw
    by_cases hlt : k < bs.length
    · obtain ⟨gb, gq, gcc, hs, _, hcc⟩ := sl_cell hsl hlt
      simp only [Value.slice.injEq] at hs
      obtain ⟨rfl, -, rfl⟩ := hs
      obtain ⟨hx0, hx8⟩ := HB8.out (bs.getD k 0) (by simp [hlt])
      obtain ⟨y, hy⟩ : ∃ y : Nat, bs.getD k 0 = (y : Int) := ⟨(bs.getD k 0).toNat, by omega⟩
      have hy8 : y < 256 := by omega
      have HKS : Hid (kpL bs I (cnP I) (k + 1) = kpL bs I (cnP I) k ++ (if cnP I (y : Int) = true then [lesI I (y : Int)] else [])) := by rw [← hy]; exact kpL_succ hlt
      have HAS : Hid (alL bs I (k + 1) = alL bs I k ++ [lesI I (y : Int)]) := by rw [← hy]; exact alL_succ hlt
      rw [hy] at hcc
      have kI : (k : Int) < (bs.length : Int) := by omega
      have kI0 : (0 : Int) ≤ (k : Int) := by omega
      have HWY := HWO.out wr y hy8
      have HWYH : Hid (∀ W', Calls Tryd.prog 28 #[.int .i64 y, .int .i64 I] W' fun e w' => e = .returned (.int .i64 (lesI I y)) ∧ w' = W') := fun W' => HWO.out W' y hy8
      have HCY : Hid (∀ W', Below W.heap.size W W' → Calls Tryd.prog 19 #[.int .i64 y, .pointer (some ⟨bp, 0, none⟩)] W' fun e w' => e = .returned (.bool (cnP I y)) ∧ w' = W') := fun W' h => HCL.out W' y hy8 h
      clear hx0 hx8 hy hsl HWY r0 r1 hbw
      generalize kpL bs I (cnP I) k = K at *
      generalize alL bs I k = A at *
      generalize lesI I (y : Int) = L at *
      obtain ⟨xo, xc, hxv⟩ := owns_form HTW.out.a
      subst hxv
      obtain ⟨ko, kc, hkv⟩ := owns_form HTW.out.k
      subst hkv
      go_wp2_with fail
      refine (HWYH.out wr).mono ?_
      rintro e w2 ⟨rfl, hw2⟩
      subst hw2
      have HOA : Hid (w2.ownsRow w1.heap.size 3 1 (.slice xo A.length xc) A.length (ints A)) := HTW.out.a
      go_wp2_with (first | (at_builtin; refine wpList_append_own_at _ rfl _ _ 22 rfl w1.heap.size 3 i3 (.int .i64 0) 1 8 Tryd.underlying22 hi3 hz30 hz31 hz32 rfl (by decide) _ _ _ rfl (HOA.out.alloc _) ⟨w2.heap.size, 0, none⟩ 1 1 [.int .i64 L] rfl rfl (one_new _ _ _) (one_int _) ?c3 ?c4 ?c5 ?_))
      case c3 => unfold maxLen; omega
      case c4 => omega
      case c5 => first | exact hsz | (simp; omega)
      intro v' w5 ho5 hg5 _ hat5
      have HT5 : Hid (Two w1.heap.size w1 w5 (.slice ko K.length kc) v' K (A ++ [L])) := HTW.out.pushA hsz ho5 hg5 hat5
      have hsz5 : w1.heap.size ≤ w5.heap.size := HT5.out.bel.size
      have HB5 : Hid (Below W.heap.size W w5) := HB1.out.trans (HT5.out.bel.mono hsz1)
      clear ho5 hg5 hat5 HTW HOA hcc
      have hof := owns_form HT5.out.a
      rw [List.length_append, List.length_singleton] at hof
      obtain ⟨vo, vc, hvv5⟩ := hof
      subst hvv5
      go_wp2_with fail
      refine (HCY.out w5 HB5.out).mono ?_
      rintro e w6 ⟨rfl, hw6⟩
      subst hw6
      generalize cnP I (y : Int) = fb at *
      cases fb
      · have HK2 : Hid (kpL bs I (cnP I) (k + 1) = K) := by show _ = _; rw [HKS.out]; simp
        clear HKS
        go_wp2
        exact ⟨⟨k + 1, by omega, by go_num, by rw [HK2.out, HAS.out]; exact HT5.out⟩, by simp [intOf]; omega⟩
      · have HK2 : Hid (kpL bs I (cnP I) (k + 1) = K ++ [L]) := by show _ = _; rw [HKS.out]; simp
        clear HKS
        have HOK : Hid (w6.ownsRow w1.heap.size 3 1 (.slice ko K.length kc) K.length (ints K)) := HT5.out.k
        go_wp2_with fail
        refine (HWYH.out w6).mono ?_
        rintro e w7 ⟨rfl, hw7⟩
        subst hw7
        go_wp2_with (first | (at_builtin; refine wpList_append_own_at _ rfl _ _ 22 rfl w1.heap.size 3 i3 (.int .i64 0) 1 8 Tryd.underlying22 hi3 hz30 hz31 hz32 rfl (by decide) _ _ _ rfl (HOK.out.alloc _) ⟨w7.heap.size, 0, none⟩ 1 1 [.int .i64 L] rfl rfl (one_new _ _ _) (one_int _) ?c3 ?c4 ?c5 ?_))
        case c3 => unfold maxLen; omega
        case c4 => omega
        case c5 => first | exact hsz5 | (simp; omega)
        intro v9 w9 ho9 hg9 _ hat9
        have HT9 : Hid (Two w1.heap.size w1 w9 v9 (.slice vo (A.length + 1) vc) (K ++ [L]) (A ++ [L])) := (HT5.out.swap.pushA hsz5 ho9 hg9 hat9).swap
        clear ho9 hg9 hat9 HT5 HOK
        go_wp2
        exact ⟨⟨k + 1, by omega, by go_num, by rw [HK2.out, HAS.out]; exact HT9.out⟩, by simp [intOf]; omega⟩
    · have hke : k = bs.length := by omega
      subst hke
      have HMN : Hid (mnL bs I (cnP I) = if (kpL bs I (cnP I) bs.length).length = 0 then alL bs I bs.length else kpL bs I (cnP I) bs.length) := rfl
      have d0 : wr.cell? ⟨w.heap.size, 0, none⟩ = some (.int .i64 n) := by simp [World.cell?, r0]
      have x0 : wr.cell? ⟨w.heap.size + 1, 0, none⟩ = some (.int .i64 0) := by simp [World.cell?, r1]
      have x1 : wr.cell? ⟨w.heap.size + 1, 1, none⟩ = some (.slice none 0 0) := by simp [World.cell?, r1]
      have y0 : wr.frozen? ⟨w.heap.size + 1, 0, none⟩ = false := by simp [World.frozen?, r1]
      have y1 : wr.frozen? ⟨w.heap.size + 1, 1, none⟩ = false := by simp [World.frozen?, r1]
      have HR9 : Hid (wr.heap[w.heap.size + 1]? = some (.cells #[.int .i64 0, .slice none 0 0] 25 (0, 0))) := r1
      have HB9 : Hid (Below w.heap.size w wr) := hbw
      clear r0 r1 hbw hsl hlt
      generalize kpL bs I (cnP I) bs.length = K at *
      generalize alL bs I bs.length = A at *
      obtain ⟨xo, xc, hxv⟩ := owns_form HTW.out.a
      subst hxv
      obtain ⟨ko, kc, hkv⟩ := owns_form HTW.out.k
      subst hkv
      by_cases hK : K.length = 0
      · have HM2 : Hid (mnL bs I (cnP I) = A) := by show _ = _; rw [HMN.out, if_pos hK]
        have q5 : ((K.length : Int) == 0) = true := by rw [hK]; rfl
        obtain ⟨k1, k2⟩ := HFIN.out wr ((n - 1 : Nat) : Int) (.slice xo A.length xc) A HR9.out HB9.out (Sl.own HTW.out.a)
        have K1 : Hid _ := k1
        have K2 : Hid _ := k2
        clear k1 k2 hK HTW HMN
        go_wp2
        exact bodyPost_ret (v := .tuple #[.agg #[.int .i64 ((n - 1 : Nat) : Int), .slice xo A.length xc], .int .i64 0]) (by simp [results, Tryd.results17, go_sem, *]) rfl ⟨_, by rw [HA.out, HE0.out], by rw [HL.out, HM2.out]; exact K1.out, K2.out⟩
      · have HM2 : Hid (mnL bs I (cnP I) = K) := by show _ = _; rw [HMN.out, if_neg hK]
        have q5 : ((K.length : Int) == 0) = false := by rw [beq_eq_false_iff_ne]; omega
        obtain ⟨k1, k2⟩ := HFIN.out wr ((n - 1 : Nat) : Int) (.slice ko K.length kc) K HR9.out HB9.out (Sl.own HTW.out.k)
        have K1 : Hid _ := k1
        have K2 : Hid _ := k2
        clear k1 k2 hK HTW HMN
        go_wp2
        exact bodyPost_ret (v := .tuple #[.agg #[.int .i64 ((n - 1 : Nat) : Int), .slice ko K.length kc], .int .i64 0]) (by simp [results, Tryd.results17, go_sem, *]) rfl ⟨_, by rw [HA.out, HE0.out], by rw [HL.out, HM2.out]; exact K1.out, K2.out⟩

set_option maxRecDepth 100000 in
set_option maxHeartbeats 800000 in
theorem contract_any (N : Int) (bs : List Int) (i : Int) (v : Value) (w : World) (hv : Sl w.heap.size 3 w v (ints bs)) (hl : bs.length ≤ 1000000) (hT : TabB w) :
    Calls Tryd.prog 8 #[.agg #[.int .i64 N, v], .int .i64 i] w fun e w' => ∃ u, e = .returned (.tuple #[.agg #[.int .i64 (mnN N bs i), u], .int .i64 (thE N bs i)]) ∧ Sl 0 3 w' u (ints (mnB N bs i cnP)) ∧ Below w.heap.size w w' := by
  obtain ⟨ao, cap, hvv, hlc, hcm⟩ := sl_open hv
  subst hvv
  obtain ⟨wa, hwa⟩ : ∃ wa, wa = w.alloc (.cells #[.int .i64 N, .slice ao bs.length cap] 25) := ⟨_, rfl⟩
  obtain ⟨wb, hwb⟩ : ∃ wb, wb = wa.alloc (.cells #[.int .i64 i] 3) := ⟨_, rfl⟩
  obtain ⟨W, hW⟩ : ∃ W, W = wb.alloc (.cells #[.int .i64 0, .slice none 0 0] 25) := ⟨_, rfl⟩
  have hsa : wa.heap.size = w.heap.size + 1 := by rw [hwa]; simp
  have hsb : wb.heap.size = w.heap.size + 1 + 1 := by rw [hwb]; simp [hsa]
  have hb0 : Below w.heap.size w wb := by rw [hwb, hwa]; exact ((Below.refl _ _).alloc (Nat.le_refl _) _).alloc (by simp) _
  have HBA : Hid (Below w.heap.size w W) := by rw [hW]; exact hb0.alloc (by omega) _
  have a0 : W.heap[w.heap.size]? = some (.cells #[.int .i64 N, .slice ao bs.length cap] 25 (0, 0)) := by
    rw [hW]; refine (Below.heap_alloc _ _ _ (by omega)).trans ?_
    rw [hwb]; refine (Below.heap_alloc _ _ _ (by omega)).trans ?_
    rw [hwa]; exact heap_alloc_new w _
  have a1 : W.heap[w.heap.size + 1]? = some (.cells #[.int .i64 i] 3 (0, 0)) := by
    rw [hW]; refine (Below.heap_alloc _ _ _ (by omega)).trans ?_
    rw [hwb, ← hsa]; exact heap_alloc_new wa _
  have a2 : W.heap[w.heap.size + 1 + 1]? = some (.cells #[.int .i64 0, .slice none 0 0] 25 (0, 0)) := by
    rw [hW, ← hsb]; exact heap_alloc_new wb _
  have hsW : W.heap.size = w.heap.size + 3 := by rw [hW]; simp [hsb]
  have HWW : Hid (W = ((w.alloc (.cells #[.int .i64 N, .slice ao bs.length cap] 25)).alloc (.cells #[.int .i64 i] 3)).alloc (.cells #[.int .i64 0, .slice none 0 0] 25)) := by rw [hW, hwb, hwa]; rfl
  have HOT : Hid (Calls Tryd.prog 17 #[.agg #[.int .i64 N, .slice ao bs.length cap], .int .i64 i, .func (.func 19) #[] #[.pointer (some ⟨w.heap.size + 1, 0, none⟩)]] W fun e w' => ∃ u, e = .returned (.tuple #[.agg #[.int .i64 (mnN N bs i), u], .int .i64 (thE N bs i)]) ∧ Sl 0 3 w' u (ints (mnB N bs i cnP)) ∧ Below W.heap.size W w') :=
    othC_any N bs i (w.heap.size + 1) _ W ((hv.below HBA.out (Nat.le_refl _)).more HBA.out.size) hl (hT.below HBA.out) (by simp [World.cell?, a1])
  have HA2 : Hid (∀ W', Below W.heap.size W W' → W'.heap[w.heap.size + 1 + 1]? = some (.cells #[.int .i64 0, .slice none 0 0] 25 (0, 0)) ∧ Below w.heap.size w W') := fun W' h => ⟨(h.block _ (by omega)).trans a2, HBA.out.trans (h.mono HBA.out.size)⟩
  have g0 : (((w.alloc (.cells #[.int .i64 N, .slice ao bs.length cap] 25)).alloc (.cells #[.int .i64 i] 3)).alloc (.cells #[.int .i64 0, .slice none 0 0] 25)).cell? ⟨w.heap.size, 0, none⟩ = some (.int .i64 N) := by rw [← HWW.out]; simp [World.cell?, a0]
  have g1 : (((w.alloc (.cells #[.int .i64 N, .slice ao bs.length cap] 25)).alloc (.cells #[.int .i64 i] 3)).alloc (.cells #[.int .i64 0, .slice none 0 0] 25)).cell? ⟨w.heap.size, 1, none⟩ = some (.slice ao bs.length cap) := by rw [← HWW.out]; simp [World.cell?, a0]
  have g2 : (((w.alloc (.cells #[.int .i64 N, .slice ao bs.length cap] 25)).alloc (.cells #[.int .i64 i] 3)).alloc (.cells #[.int .i64 0, .slice none 0 0] 25)).cell? ⟨w.heap.size + 1, 0, none⟩ = some (.int .i64 i) := by rw [← HWW.out]; simp [World.cell?, a1]
  clear hv hT hb0 a0 a1 a2 hW hwa hwb hsa hsb hsW
  generalize mnN N bs i = NN at *
  generalize thE N bs i = EE at *
  generalize mnB N bs i cnP = LL at *
  go_enter Tryd.func8, Tryd.ntmps8
  go_wp2_with fail
  rw [← HWW.out]
  clear g0 g1 g2 HWW
  refine HOT.out.mono ?_
  rintro e w1 ⟨u, rfl, hs1, hb1⟩
  obtain ⟨r1, hbw⟩ := HA2.out w1 hb1
  obtain ⟨uo, uc, huv, _, _⟩ := sl_open hs1
  subst huv
  have x0 : w1.cell? ⟨w.heap.size + 1 + 1, 0, none⟩ = some (.int .i64 0) := by simp [World.cell?, r1]
  have x1 : w1.cell? ⟨w.heap.size + 1 + 1, 1, none⟩ = some (.slice none 0 0) := by simp [World.cell?, r1]
  have y0 : w1.frozen? ⟨w.heap.size + 1 + 1, 0, none⟩ = false := by simp [World.frozen?, r1]
  have y1 : w1.frozen? ⟨w.heap.size + 1 + 1, 1, none⟩ = false := by simp [World.frozen?, r1]
  have K1 : Hid (Sl 0 3 ((w1.setCell ⟨w.heap.size + 1 + 1, 0, none⟩ (.int .i64 NN)).setCell ⟨w.heap.size + 1 + 1, 1, none⟩ (.slice uo LL.length uc)) (.slice uo LL.length uc) (ints LL)) := hs1.move fun b hb ht => by
    rcases ht with ht | ⟨cur, ht⟩
    · omega
    · have hne : b ≠ w.heap.size + 1 + 1 := fun e => by
        rw [e, r1] at ht
        simp at ht
      exact ⟨(Below.heap_setCell _ _ _ _ (by show b ≠ w.heap.size + 1 + 1; exact hne)).trans (Below.heap_setCell _ _ _ _ (by show b ≠ w.heap.size + 1 + 1; exact hne)), .inr ⟨cur, ht⟩⟩
  have K2 : Hid (Below w.heap.size w ((w1.setCell ⟨w.heap.size + 1 + 1, 0, none⟩ (.int .i64 NN)).setCell ⟨w.heap.size + 1 + 1, 1, none⟩ (.slice uo LL.length uc))) := (hbw.setCell (by simp; omega) _).setCell (by simp; omega) _
  clear hs1 hb1 hbw r1 HOT HA2
  go_wp2
  exact bodyPost_ret (v := .tuple #[.agg #[.int .i64 NN, .slice uo LL.length uc], .int .i64 EE]) (by simp [results, Tryd.results8, go_sem, *]) rfl ⟨_, rfl, K1.out, K2.out⟩

set_option maxRecDepth 100000 in
set_option maxHeartbeats 800000 in
theorem delete_any (N : Int) (bs : List Int) (i : Int) (v : Value) (w : World) (hv : Sl w.heap.size 3 w v (ints bs)) (hl : bs.length ≤ 1000000) (hT : TabB w) :
    Calls Tryd.prog 7 #[.agg #[.int .i64 N, v], .int .i64 i] w fun e w' => ∃ u, e = .returned (.tuple #[.agg #[.int .i64 (mnN N bs i), u], .int .i64 (thE N bs i)]) ∧ Sl 0 3 w' u (ints (mnB N bs i dlP)) ∧ Below w.heap.size w w' := by
  obtain ⟨ao, cap, hvv, hlc, hcm⟩ := sl_open hv
  subst hvv
  obtain ⟨wa, hwa⟩ : ∃ wa, wa = w.alloc (.cells #[.int .i64 N, .slice ao bs.length cap] 25) := ⟨_, rfl⟩
  obtain ⟨wb, hwb⟩ : ∃ wb, wb = wa.alloc (.cells #[.int .i64 i] 3) := ⟨_, rfl⟩
  obtain ⟨W, hW⟩ : ∃ W, W = wb.alloc (.cells #[.int .i64 0, .slice none 0 0] 25) := ⟨_, rfl⟩
  have hsa : wa.heap.size = w.heap.size + 1 := by rw [hwa]; simp
  have hsb : wb.heap.size = w.heap.size + 1 + 1 := by rw [hwb]; simp [hsa]
  have hb0 : Below w.heap.size w wb := by rw [hwb, hwa]; exact ((Below.refl _ _).alloc (Nat.le_refl _) _).alloc (by simp) _
  have HBA : Hid (Below w.heap.size w W) := by rw [hW]; exact hb0.alloc (by omega) _
  have a0 : W.heap[w.heap.size]? = some (.cells #[.int .i64 N, .slice ao bs.length cap] 25 (0, 0)) := by
    rw [hW]; refine (Below.heap_alloc _ _ _ (by omega)).trans ?_
    rw [hwb]; refine (Below.heap_alloc _ _ _ (by omega)).trans ?_
    rw [hwa]; exact heap_alloc_new w _
  have a1 : W.heap[w.heap.size + 1]? = some (.cells #[.int .i64 i] 3 (0, 0)) := by
    rw [hW]; refine (Below.heap_alloc _ _ _ (by omega)).trans ?_
    rw [hwb, ← hsa]; exact heap_alloc_new wa _
  have a2 : W.heap[w.heap.size + 1 + 1]? = some (.cells #[.int .i64 0, .slice none 0 0] 25 (0, 0)) := by
    rw [hW, ← hsb]; exact heap_alloc_new wb _
  have hsW : W.heap.size = w.heap.size + 3 := by rw [hW]; simp [hsb]
  have HWW : Hid (W = ((w.alloc (.cells #[.int .i64 N, .slice ao bs.length cap] 25)).alloc (.cells #[.int .i64 i] 3)).alloc (.cells #[.int .i64 0, .slice none 0 0] 25)) := by rw [hW, hwb, hwa]; rfl
  have HOT : Hid (Calls Tryd.prog 17 #[.agg #[.int .i64 N, .slice ao bs.length cap], .int .i64 i, .func (.func 18) #[] #[.pointer (some ⟨w.heap.size + 1, 0, none⟩)]] W fun e w' => ∃ u, e = .returned (.tuple #[.agg #[.int .i64 (mnN N bs i), u], .int .i64 (thE N bs i)]) ∧ Sl 0 3 w' u (ints (mnB N bs i dlP)) ∧ Below W.heap.size W w') :=
    othD_any N bs i (w.heap.size + 1) _ W ((hv.below HBA.out (Nat.le_refl _)).more HBA.out.size) hl (hT.below HBA.out) (by simp [World.cell?, a1])
  have HA2 : Hid (∀ W', Below W.heap.size W W' → W'.heap[w.heap.size + 1 + 1]? = some (.cells #[.int .i64 0, .slice none 0 0] 25 (0, 0)) ∧ Below w.heap.size w W') := fun W' h => ⟨(h.block _ (by omega)).trans a2, HBA.out.trans (h.mono HBA.out.size)⟩
  have g0 : (((w.alloc (.cells #[.int .i64 N, .slice ao bs.length cap] 25)).alloc (.cells #[.int .i64 i] 3)).alloc (.cells #[.int .i64 0, .slice none 0 0] 25)).cell? ⟨w.heap.size, 0, none⟩ = some (.int .i64 N) := by rw [← HWW.out]; simp [World.cell?, a0]
  have g1 : (((w.alloc (.cells #[.int .i64 N, .slice ao bs.length cap] 25)).alloc (.cells #[.int .i64 i] 3)).alloc (.cells #[.int .i64 0, .slice none 0 0] 25)).cell? ⟨w.heap.size, 1, none⟩ = some (.slice ao bs.length cap) := by rw [← HWW.out]; simp [World.cell?, a0]
  have g2 : (((w.alloc (.cells #[.int .i64 N, .slice ao bs.length cap] 25)).alloc (.cells #[.int .i64 i] 3)).alloc (.cells #[.int .i64 0, .slice none 0 0] 25)).cell? ⟨w.heap.size + 1, 0, none⟩ = some (.int .i64 i) := by rw [← HWW.out]; simp [World.cell?, a1]
  clear hv hT hb0 a0 a1 a2 hW hwa hwb hsa hsb hsW
  generalize mnN N bs i = NN at *
  generalize thE N bs i = EE at *
  generalize mnB N bs i dlP = LL at *
  go_enter Tryd.func7, Tryd.ntmps7
  go_wp2_with fail
  rw [← HWW.out]
  clear g0 g1 g2 HWW
  refine HOT.out.mono ?_
  rintro e w1 ⟨u, rfl, hs1, hb1⟩
  obtain ⟨r1, hbw⟩ := HA2.out w1 hb1
  obtain ⟨uo, uc, huv, _, _⟩ := sl_open hs1
  subst huv
  have x0 : w1.cell? ⟨w.heap.size + 1 + 1, 0, none⟩ = some (.int .i64 0) := by simp [World.cell?, r1]
  have x1 : w1.cell? ⟨w.heap.size + 1 + 1, 1, none⟩ = some (.slice none 0 0) := by simp [World.cell?, r1]
  have y0 : w1.frozen? ⟨w.heap.size + 1 + 1, 0, none⟩ = false := by simp [World.frozen?, r1]
  have y1 : w1.frozen? ⟨w.heap.size + 1 + 1, 1, none⟩ = false := by simp [World.frozen?, r1]
  have K1 : Hid (Sl 0 3 ((w1.setCell ⟨w.heap.size + 1 + 1, 0, none⟩ (.int .i64 NN)).setCell ⟨w.heap.size + 1 + 1, 1, none⟩ (.slice uo LL.length uc)) (.slice uo LL.length uc) (ints LL)) := hs1.move fun b hb ht => by
    rcases ht with ht | ⟨cur, ht⟩
    · omega
    · have hne : b ≠ w.heap.size + 1 + 1 := fun e => by
        rw [e, r1] at ht
        simp at ht
      exact ⟨(Below.heap_setCell _ _ _ _ (by show b ≠ w.heap.size + 1 + 1; exact hne)).trans (Below.heap_setCell _ _ _ _ (by show b ≠ w.heap.size + 1 + 1; exact hne)), .inr ⟨cur, ht⟩⟩
  have K2 : Hid (Below w.heap.size w ((w1.setCell ⟨w.heap.size + 1 + 1, 0, none⟩ (.int .i64 NN)).setCell ⟨w.heap.size + 1 + 1, 1, none⟩ (.slice uo LL.length uc))) := (hbw.setCell (by simp; omega) _).setCell (by simp; omega) _
  clear hs1 hb1 hbw r1 HOT HA2
  go_wp2
  exact bodyPost_ret (v := .tuple #[.agg #[.int .i64 NN, .slice uo LL.length uc], .int .i64 EE]) (by simp [results, Tryd.results7, go_sem, *]) rfl ⟨_, rfl, K1.out, K2.out⟩

end Go.Proofs.YteflgnggopcdcaaDoor
