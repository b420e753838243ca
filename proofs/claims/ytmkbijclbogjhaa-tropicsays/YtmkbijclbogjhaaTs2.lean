/- tropic.rootOf. -/
import Derived.Test.YtmkbijclbogjhaaTs1
import Derived.Test.YtmkbijclbogjhaaRfs
import Derived.Deep.RegionHeld3
import Derived.Laws.EntriesVeiled
namespace Go.Proofs.Ytmkbijclbogjhaa
open Go.RowKit
attribute [local go_sem ↓] Go.wp_at_zero Go.wp_at_succ

theorem low_two (a b : Int) : Lin.low [a, b] = [a / (Lin.gc [a, b] : Int), b / (Lin.gc [a, b] : Int)] := rfl

/-- Where the terms i and k are alike: so much by so much. -/
def q0T (l : List Int) (i k : Nat) : Int := (l.getD i 0 - l.getD k 0) / (Lin.gc [l.getD i 0 - l.getD k 0, (k : Int) - i] : Int)
def q1T (l : List Int) (i k : Nat) : Int := ((k : Int) - i) / (Lin.gc [l.getD i 0 - l.getD k 0, (k : Int) - i] : Int)

theorem lowT (l : List Int) (i k : Nat) : Lin.low [l.getD i 0 - l.getD k 0, (k : Int) - i] = [q0T l i k, q1T l i k] := rfl

theorem q_fact {l : List Int} {i k : Nat} (h : i < k) : ∃ g : Int, 1 ≤ g ∧ l.getD i 0 - l.getD k 0 = g * q0T l i k ∧ (k : Int) - i = g * q1T l i k ∧ 1 ≤ q1T l i k := by
  obtain ⟨g, hg⟩ : ∃ g, g = Lin.gc [l.getD i 0 - l.getD k 0, (k : Int) - i] := ⟨_, rfl⟩
  have d1 : (g : Int) ∣ (l.getD i 0 - l.getD k 0) := by rw [hg]; exact Lin.gc_dvd (by simp)
  have d2 : (g : Int) ∣ ((k : Int) - i) := by rw [hg]; exact Lin.gc_dvd (by simp)
  have hg0 : 1 ≤ (g : Int) := by
    rcases Nat.eq_zero_or_pos g with h0 | h0
    · rw [h0] at d2
      have := Int.zero_dvd.1 d2
      omega
    · omega
  have e1 : (g : Int) * q0T l i k = l.getD i 0 - l.getD k 0 := by unfold q0T; rw [← hg]; exact Int.mul_ediv_cancel' d1
  have e2 : (g : Int) * q1T l i k = (k : Int) - i := by unfold q1T; rw [← hg]; exact Int.mul_ediv_cancel' d2
  refine ⟨g, hg0, e1.symm, e2.symm, ?_⟩
  refine Int.not_lt.1 (fun hlt => ?_)
  have : (g : Int) * q1T l i k ≤ 0 := Int.mul_nonpos_of_nonneg_of_nonpos (by omega) (by omega)
  omega

theorem mul_bdT {g x y : Int} (hg : 1 ≤ g) (h : y = g * x) : x.natAbs ≤ y.natAbs := by
  rw [h, Int.natAbs_mul]
  exact Nat.le_mul_of_pos_left _ (by omega)

theorem q_bd {l : List Int} {i k : Nat} (hl : Lst l) (h : i < k) (hk : k < l.length) : (-20000 ≤ q0T l i k ∧ q0T l i k ≤ 20000) ∧ (1 ≤ q1T l i k ∧ q1T l i k ≤ 19) := by
  obtain ⟨g, h1, h2, h3, h4⟩ := q_fact (l := l) h
  have a := mul_bdT h1 h2
  have b := mul_bdT h1 h3
  have c := hl.at i
  have d := hl.at k
  have e := hl.n20
  omega

/-- All terms where i and k are alike. -/
def tT (l : List Int) (i k : Nat) : List Int := tmL l (q0T l i k) (q1T l i k)

/-- i is the first, and none behind k is one, of the least. -/
def rtB (l : List Int) (i k : Nat) : Bool := (findI (· == minL (tT l i k)) (tT l i k) == (i : Int)) && !(((tT l i k).drop (k + 1)).any (· == minL (tT l i k)))

/-- The root of i and k, if they are it; else nothing. -/
def rtV (l : List Int) (i k : Nat) : Int × Int × Int := if rtB l i k then (q0T l i k, q1T l i k, (k : Int) - i) else (0, 0, 0)

theorem three_set {w : World} {b : Nat} {p q r x y z : Value} {t : TypeId} (h : w.heap[b]? = some (.cells #[p, q, r] t (0, 0))) : (((w.setCell ⟨b, 0, none⟩ x).setCell ⟨b, 1, none⟩ y).setCell ⟨b, 2, none⟩ z).heap[b]? = some (.cells #[x, y, z] t (0, 0)) := by
  simp [World.setCell, Array.getElem?_modify, h]

theorem three_below {w w0 : World} {b : Nat} {x y z : Value} (h : Below b w0 w) : Below b w0 (((w.setCell ⟨b, 0, none⟩ x).setCell ⟨b, 1, none⟩ y).setCell ⟨b, 2, none⟩ z) :=
  ((h.setCell (Nat.le_refl _) _).setCell (Nat.le_refl _) _).setCell (Nat.le_refl _) _

theorem sl_drop {B b o n c k : Nat} {w : World} {zs : List Int} (h : Sl B 3 w (.slice (some ⟨b, o, none⟩) n c) (ints zs)) (hn : zs.length = n) (hk : k ≤ n) : Sl B 3 w (.slice (some ⟨b, o + k, none⟩) (n - k) (c - k)) (ints (zs.drop k)) := by
  obtain ⟨ao, cap, hv, h1, h2, h3, h4⟩ := h
  simp only [Value.slice.injEq] at hv
  obtain ⟨rfl, _, rfl⟩ := hv
  refine ⟨some ⟨b, o + k, none⟩, c - k, by simp [hn], by simp at h1 ⊢; omega, by omega, fun i hi => ?_, fun h => by cases h⟩
  simp at hi
  obtain ⟨b', o', e, hc, ht⟩ := h3 (k + i) (by simp; omega)
  simp only [Option.some.injEq, Addr.mk.injEq, and_true] at e
  obtain ⟨rfl, rfl⟩ := e
  refine ⟨b, o + k, rfl, ?_, ht⟩
  rw [Nat.add_assoc, hc]
  simp [ints]

theorem run_tailT {b o n c k : Nat} (h1 : k + 1 ≤ n) (h2 : n ≤ c) : ∃ p : Addr, (∀ w : World, (Instr.slice 22 (.slice (some ⟨b, o, none⟩) n c) (some (.int .i64 ((k : Int) + 1))) none none).run Try.prog w = .ok (.slice (some p) (n - (k + 1)) (c - (k + 1))) w) ∧ (k + 1 < n → p = ⟨b, o + (k + 1), none⟩) := by
  have e1 : (0 : Int) ≤ (k : Int) + 1 ∧ (k : Int) + 1 ≤ (n : Int) := by omega
  have e2 : ((k : Int) + 1).toNat = k + 1 := by omega
  have hz : ∀ w, (Go.sizeOf 3).run Try.prog w = .ok 1 w := fun w => by kernel_rfl
  by_cases e3 : c = k + 1
  · refine ⟨⟨b, o, none⟩, fun w => ?_, fun h => by omega⟩
    have e4 : n = k + 1 := by omega
    subst e3
    subst e4
    simp [Instr.slice, Instr.sliceBounds, Instr.sliceBound, run_underlying Try.underlying22, asIntOf, e1, e2, hz, Addr.add, go_sem]
  · refine ⟨⟨b, o + (k + 1), none⟩, fun w => ?_, fun _ => rfl⟩
    simp [Instr.slice, Instr.sliceBounds, Instr.sliceBound, run_underlying Try.underlying22, asIntOf, e1, e2, e3, hz, Addr.add, go_sem]

set_option maxRecDepth 100000 in
set_option maxHeartbeats 1600000 in
theorem rootOf_any (B : Nat) (l : List Int) (i k : Nat) (v : Value) (w : World) (hl : Lst l) (hv : Sl B 3 w v (ints l)) (hB : B ≤ w.heap.size) (hik : i < k) (hk : k < l.length) :
    Calls Try.prog 14 #[v, .int .i64 i, .int .i64 k] w fun e w' =>
      e = .returned (.tuple #[.agg #[.int .i64 (rtV l i k).1, .int .i64 (rtV l i k).2.1, .int .i64 (rtV l i k).2.2], .bool (rtB l i k)]) ∧ Below w.heap.size w w' := by
  obtain ⟨ao, cap, hvv, hlc, hcm⟩ := sl_open hv
  subst hvv
  have hqb := q_bd hl hik hk
  obtain ⟨W0, hW0⟩ : ∃ W0, W0 = w.alloc (.cells #[.int .i64 0, .int .i64 0, .int .i64 0] 30) := ⟨_, rfl⟩
  have HW0 : Hid (W0 = w.alloc (.cells #[.int .i64 0, .int .i64 0, .int .i64 0] 30)) := hW0
  have hs0 : W0.heap.size = w.heap.size + 1 := by rw [hW0]; simp
  have hb0 : Below w.heap.size w W0 := by rw [hW0]; exact (Below.refl _ _).alloc (Nat.le_refl _) _
  have hm0 : W0.heap[w.heap.size]? = some (.cells #[.int .i64 0, .int .i64 0, .int .i64 0] 30 (0, 0)) := by rw [hW0]; exact World.alloc_heap_new _ _
  have hv0 : Sl B 3 W0 (.slice ao l.length cap) (ints l) := hv.below hb0 (Nat.le_refl _)
  have HL : Hid (Lst l) := hl
  have h20 := hl.n20
  obtain ⟨b1, o1, c1, hs1, _, hcc1⟩ := sl_cell hv0 (k := i) (by omega)
  simp only [Value.slice.injEq] at hs1
  obtain ⟨rfl, _, rfl⟩ := hs1
  obtain ⟨b2, o2, c2, hs2, _, hcc2⟩ := sl_cell hv0 (k := k) hk
  simp only [Value.slice.injEq, Option.some.injEq, Addr.mk.injEq] at hs2
  obtain ⟨⟨rfl, rfl, _⟩, _, rfl⟩ := hs2
  have hxi := hl.at i
  have hxk := hl.at k
  have HPR : Hid (Calls Try.prog 25 #[.slice (some ⟨W0.heap.size, 0, none⟩) 2 2] (W0.drew.alloc (.cells #[.int .i64 (l.getD i 0 - l.getD k 0), .int .i64 ((k : Int) - i)] 3)) fun e w' => ∃ uo uc, e = .returned (.slice uo 2 uc) ∧ (Sl 0 3 w' (.slice uo 2 uc) (ints [q0T l i k, q1T l i k])) ∧ Below W0.heap.size W0 w') := by
    have hsl : Sl 0 3 (W0.drew.alloc (.cells #[.int .i64 (l.getD i 0 - l.getD k 0), .int .i64 ((k : Int) - i)] 3)) (.slice (some ⟨W0.heap.size, 0, none⟩) 2 2) (ints [l.getD i 0 - l.getD k 0, (k : Int) - i]) := by
      have h := World.ownsRow_lit (base := W0.heap.size) (e := 3) (size := 1) W0.drew #[.int .i64 (l.getD i 0 - l.getD k 0), .int .i64 ((k : Int) - i)] 2 (by simp) (by simp [maxLen]) (by simp)
      exact Sl.own (by simpa [ints] using h)
    have h := primitive_any 0 [l.getD i 0 - l.getD k 0, (k : Int) - i] _ _ hsl (by simp) (by
      intro z hz
      simp only [List.mem_cons, List.not_mem_nil, or_false] at hz
      rcases hz with rfl | rfl <;> omega)
    refine h.mono ?_
    rintro e w' ⟨u, rfl, hu, hb⟩
    have hu0 := hu 0
    rw [lowT] at hu0
    obtain ⟨uo, uc, rfl, _, _⟩ := sl_open hu0
    refine ⟨uo, uc, rfl, hu0, ?_⟩
    have hx : Below W0.heap.size W0 (W0.drew.alloc (.cells #[.int .i64 (l.getD i 0 - l.getD k 0), .int .i64 ((k : Int) - i)] 3)) := ((Below.refl _ _).drew).alloc (Nat.le_refl _) _
    exact hx.trans (hb.mono (by simp))
  have KA : Hid (b1 < W0.heap.size ∧ W0.cell? ⟨b1, o1 + i, none⟩ = some (.int .i64 (l.getD i 0)) ∧ W0.cell? ⟨b1, o1 + k, none⟩ = some (.int .i64 (l.getD k 0))) := ⟨lt_of_cell hcc1, hcc1, hcc2⟩
  have HV0 : Hid (Sl B 3 W0 (.slice (some ⟨b1, o1, none⟩) l.length cap) (ints l)) := hv0
  have HM0 : Hid (W0.heap[w.heap.size]? = some (.cells #[.int .i64 0, .int .i64 0, .int .i64 0] 30 (0, 0))) := hm0
  have HB0 : Hid (Below w.heap.size w W0) := hb0
  have HS0 : Hid (W0.heap.size = w.heap.size + 1) := hs0
  have HBB : Hid (B ≤ w.heap.size) := hB
  have HTL : Hid ((tT l i k).length = l.length) := tmL_len _ _ _
  have hwx : IntKind.i64.wrap (l.getD i 0 - l.getD k 0) = l.getD i 0 - l.getD k 0 := by rw [IntWalk.i64_left]; exact IntWalk.wrap64_in _ ⟨by omega, by omega⟩
  have hwk : IntKind.i64.wrap ((k : Int) - i) = (k : Int) - i := by rw [IntWalk.i64_left]; exact IntWalk.wrap64_in _ ⟨by omega, by omega⟩
  clear hv hv0 hl hW0 hs0 hb0 hm0 hB
  have hiI : (i : Int) < (l.length : Int) := by omega
  have hkI : (k : Int) < (l.length : Int) := by omega
  go_enter Try.func14, Try.ntmps14
  go_wp2
  rw [← HW0.out]
  generalize l.getD i 0 = x at *
  generalize l.getD k 0 = y at *
  go_region_held3 (fun w' => w'.cell? ⟨b1, o1 + i, none⟩ = some (.int .i64 x) ∧ w'.cell? ⟨b1, o1 + k, none⟩ = some (.int .i64 y)) (first | exact KS.out | go_keep)
    ((go_at_call 25; refine HPR.out.mono ?_; rintro e w2 ⟨uo, uc, rfl, hu2, hb2⟩; have KS : Hid (w2.cell? ⟨b1, o1 + i, none⟩ = some (.int .i64 x) ∧ w2.cell? ⟨b1, o1 + k, none⟩ = some (.int .i64 y)) := ⟨(hb2.cell (p := ⟨b1, o1 + i, none⟩) KA.out.1).trans KA.out.2.1, (hb2.cell (p := ⟨b1, o1 + k, none⟩) KA.out.1).trans KA.out.2.2⟩))
  have HU2 : Hid (Sl 0 3 w2 (.slice uo 2 uc) (ints [q0T l i k, q1T l i k])) := hu2
  have HB2 : Hid (Below W0.heap.size W0 w2) := hb2
  have hbw2 : Below w.heap.size w w2 := HB0.out.trans (hb2.mono (by have := HS0.out; omega))
  have HBW2 : Hid (Below w.heap.size w w2) := hbw2
  obtain ⟨b3, o3, c3, hs3, _, hcc3⟩ := sl_cell hu2 (k := 0) (by simp)
  simp only [Value.slice.injEq] at hs3
  obtain ⟨rfl, _, rfl⟩ := hs3
  obtain ⟨b4, o4, c4, hs4, _, hcc4⟩ := sl_cell hu2 (k := 1) (by simp)
  simp only [Value.slice.injEq, Option.some.injEq, Addr.mk.injEq] at hs4
  obtain ⟨⟨rfl, rfl, _⟩, _, rfl⟩ := hs4
  simp only [List.getD_cons_zero, List.getD_cons_succ, Nat.add_zero] at hcc3 hcc4
  have HTE : Hid (Calls Try.prog 20 #[.slice (some ⟨b1, o1, none⟩) l.length cap, .int .i64 (q0T l i k), .int .i64 (q1T l i k)] w2.drew fun e w' => ∃ to' tc, e = .returned (.slice to' l.length tc) ∧ w'.ownsRow w2.heap.size 3 1 (.slice to' l.length tc) l.length (ints (tT l i k)) ∧ Below w2.heap.size w2 w') := by
    have h := terms_any B l (q0T l i k) (q1T l i k) _ w2.drew HL.out ((HV0.out.below hb2 (Nat.le_refl _)).drewN 1) (by have := HBB.out; have := hbw2.size; show B ≤ w2.heap.size; omega) ⟨by omega, by omega⟩ ⟨by omega, by omega⟩
    refine h.mono ?_
    rintro e w' ⟨u, rfl, h1, h2⟩
    obtain ⟨to', tc, rfl⟩ := owns_form h1
    exact ⟨to', tc, rfl, h1, ((Below.refl _ _).drew).trans h2⟩
  have KB : Hid (b3 < w2.heap.size ∧ w2.cell? ⟨b3, o3, none⟩ = some (.int .i64 (q0T l i k)) ∧ w2.cell? ⟨b3, o3 + 1, none⟩ = some (.int .i64 (q1T l i k))) := ⟨lt_of_cell hcc3, hcc3, hcc4⟩
  clear hu2 hb2 hbw2 KS HPR
  have HRT : Hid (rtB l i k = ((findI (· == minL (tT l i k)) (tT l i k) == (i : Int)) && !(((tT l i k).drop (k + 1)).any (· == minL (tT l i k))))) := rfl
  generalize hrr : rtB l i k = R at *
  generalize hq0 : q0T l i k = Q0 at *
  generalize hq1 : q1T l i k = Q1 at *
  generalize tT l i k = T at *
  have HRR : Hid (rtB l i k = R) := hrr
  have HVV : Hid (rtV l i k = if R then (Q0, Q1, (k : Int) - i) else (0, 0, 0)) := by
    show _ = _
    unfold rtV
    rw [hrr, hq0, hq1]
  clear hq0 hq1 hrr
  go_wp2
  go_region_held3 (fun w' => w'.cell? ⟨b3, o3, none⟩ = some (.int .i64 Q0) ∧ w'.cell? ⟨b3, o3 + 1, none⟩ = some (.int .i64 Q1)) (first | exact KS.out | go_keep)
    ((go_at_call 20; refine HTE.out.mono ?_; rintro e w3 ⟨to', tc, rfl, hu3, hb3⟩; have KS : Hid (w3.cell? ⟨b3, o3, none⟩ = some (.int .i64 Q0) ∧ w3.cell? ⟨b3, o3 + 1, none⟩ = some (.int .i64 Q1)) := ⟨(hb3.cell (p := ⟨b3, o3, none⟩) KB.out.1).trans KB.out.2.1, (hb3.cell (p := ⟨b3, o3 + 1, none⟩) KB.out.1).trans KB.out.2.2⟩))
  obtain ⟨n, hn⟩ : ∃ n, n = l.length := ⟨_, rfl⟩
  have HNL : Hid (l.length = n) := hn.symm
  obtain ⟨g, hg⟩ : ∃ g, to' = some ⟨g, 0, none⟩ := by
    rcases hu3.2 with ⟨_, h2⟩ | ⟨g, cp, cur, h1, _⟩
    · omega
    · simp only [Value.slice.injEq] at h1
      exact ⟨g, h1.1⟩
  subst hg
  rw [← hn] at hu3 hk h20 HTL ⊢
  rw [← hn] at hiI hkI hlc
  clear hn
  obtain ⟨W4, hW4⟩ : ∃ W4, W4 = w3.alloc (.cells #[.int .i64 (minL T)] 3) := ⟨_, rfl⟩
  have HW4 : Hid (W4 = w3.alloc (.cells #[.int .i64 (minL T)] 3)) := hW4
  have hm4 : W4.heap[w3.heap.size]? = some (.cells #[.int .i64 (minL T)] 3 (0, 0)) := by rw [hW4]; exact World.alloc_heap_new _ _
  have hc4 : W4.cell? ⟨w3.heap.size, 0, none⟩ = some (.int .i64 (minL T)) := by simp [World.cell?, hm4]
  have hb34 : Below w3.heap.size w3 W4 := by rw [hW4]; exact (Below.refl _ _).alloc (Nat.le_refl _) _
  have hbw3 : Below w.heap.size w w3 := HBW2.out.trans (hb3.mono HBW2.out.size)
  have HBW4 : Hid (Below w.heap.size w W4) := hbw3.trans (hb34.mono hbw3.size)
  have hT4 : Sl 0 3 W4 (.slice (some ⟨g, 0, none⟩) n tc) (ints T) := (Sl.own hu3).below hb34 (Nat.le_refl _)
  have HMI : Hid (Calls Try.prog 19 #[.slice (some ⟨g, 0, none⟩) n tc] w3 fun e w' => e = .returned (.int .i64 (minL T)) ∧ w' = w3) := minT_any 0 T _ w3 (Sl.own hu3) (by rw [HTL.out]; omega)
  have HIX : Hid (Calls Try.prog 27 #[.slice (some ⟨g, 0, none⟩) n tc, .func (.func 26) #[] #[.pointer (some ⟨w3.heap.size, 0, none⟩)]] W4 fun e w' => e = .returned (.int .i64 (findI (· == minL T) T)) ∧ w' = W4) := indexL_any 0 w3.heap.size (minL T) T _ W4 hT4 hc4
  have hntc : n ≤ tc := by
    rcases hu3.2 with ⟨_, h2⟩ | ⟨g', cp, cur, h1, _, _, h4, _⟩
    · omega
    · simp only [Value.slice.injEq] at h1
      omega
  obtain ⟨p, hsl, hps⟩ := run_tailT (b := g) (o := 0) (n := n) (c := tc) (k := k) (by omega) hntc
  have HCX : Hid (Calls Try.prog 28 #[.slice (some p) (n - (k + 1)) (tc - (k + 1)), .func (.func 26) #[] #[.pointer (some ⟨w3.heap.size, 0, none⟩)]] W4 fun e w' => e = .returned (.bool ((T.drop (k + 1)).any (· == minL T))) ∧ w' = W4) := by
    refine containsL_any 0 w3.heap.size (minL T) (T.drop (k + 1)) _ W4 ?_ hc4
    by_cases hkn : k + 1 < n
    · rw [hps hkn]
      exact sl_drop hT4 HTL.out (by omega)
    · have e : T.drop (k + 1) = [] := List.drop_of_length_le (by rw [HTL.out]; omega)
      rw [e, show n - (k + 1) = 0 by omega]
      have hmx : tc ≤ maxLen := by
        rcases hu3.2 with ⟨_, h2⟩ | ⟨g', cp, cur, h1, _, _, _, h5, _⟩
        · omega
        · simp only [Value.slice.injEq] at h1
          omega
      exact ⟨some p, tc - (k + 1), rfl, by simp [ints], by omega, fun i hi => absurd hi (by simp [ints]), fun h => by cases h⟩
  have hm0 : W4.heap[w.heap.size]? = some (.cells #[.int .i64 0, .int .i64 0, .int .i64 0] 30 (0, 0)) := by
    have h1 := HS0.out
    have h2 := HB2.out.size
    have h3 := hb3.size
    exact (hb34.block _ (by omega)).trans ((hb3.block _ (by omega)).trans ((HB2.out.block _ (by omega)).trans HM0.out))
  have HM4 : Hid (W4.heap[w.heap.size]? = some (.cells #[.int .i64 0, .int .i64 0, .int .i64 0] 30 (0, 0))) := hm0
  have e0 : W4.cell? ⟨w.heap.size, 0, none⟩ = some (.int .i64 0) := by simp [World.cell?, hm0]
  have e1 : W4.cell? ⟨w.heap.size, 1, none⟩ = some (.int .i64 0) := by simp [World.cell?, hm0]
  have e2 : W4.cell? ⟨w.heap.size, 2, none⟩ = some (.int .i64 0) := by simp [World.cell?, hm0]
  have f0 : W4.frozen? ⟨w.heap.size, 0, none⟩ = false := by simp [World.frozen?, hm0]
  have f1 : W4.frozen? ⟨w.heap.size, 1, none⟩ = false := by simp [World.frozen?, hm0]
  have f2 : W4.frozen? ⟨w.heap.size, 2, none⟩ = false := by simp [World.frozen?, hm0]
  have g0 : W4.cell? ⟨b3, o3, none⟩ = some (.int .i64 Q0) := (hb34.cell (p := ⟨b3, o3, none⟩) (Nat.lt_of_lt_of_le KB.out.1 hb3.size)).trans KS.out.1
  have g1 : W4.cell? ⟨b3, o3 + 1, none⟩ = some (.int .i64 Q1) := (hb34.cell (p := ⟨b3, o3 + 1, none⟩) (Nat.lt_of_lt_of_le KB.out.1 hb3.size)).trans KS.out.2
  have HTC : Hid (n ≤ tc) := by
    rcases hu3.2 with ⟨_, h2⟩ | ⟨g', cp, cur, h1, _, _, h4, _⟩
    · show _ ≤ _; omega
    · simp only [Value.slice.injEq] at h1
      show _ ≤ _
      omega
  have htc := HTC.out
  clear hu3 hb3 hbw3 hT4 hm0 hW4 hm4 hc4 hb34 KS KB HTE hcc3 hcc4
  generalize minL T = m at *
  generalize findI (· == m) T = fi at *
  generalize (T.drop (k + 1)).any (· == m) = cb at *
  go_wp2_with fail
  refine HMI.out.mono ?_
  rintro e w' ⟨rfl, hww⟩
  rw [hww]
  clear hww w' HMI
  by_cases hfi : fi = (i : Int)
  · subst hfi
    have hk1 : IntKind.i64.wrap ((k : Int) + 1) = (k : Int) + 1 := by rw [IntWalk.i64_left]; exact IntWalk.wrap64_in _ ⟨by omega, by omega⟩
    go_wp2_with fail
    rw [← HW4.out]
    refine HIX.out.mono ?_
    rintro e w' ⟨rfl, hww⟩
    rw [hww]
    clear hww w' HIX
    cases cb
    · have HR : Hid (R = true) := by
        show _ = _
        rw [HRT.out]
        simp
      go_wp2_with (go_at_call 28; refine HCX.out.mono ?_; rintro e w' ⟨rfl, hww⟩; rw [hww]; clear hww w')
      go_region
      all_goals
        go_wp2
        obtain ⟨W9, hW9⟩ : ∃ W9, W9 = (((W4.setCell ⟨w.heap.size, 0, none⟩ (.int .i64 Q0)).setCell ⟨w.heap.size, 1, none⟩ (.int .i64 Q1)).setCell ⟨w.heap.size, 2, none⟩ (.int .i64 ((k : Int) - i))).drew := ⟨_, rfl⟩
        rw [← hW9]
        have h9 : W9.heap[w.heap.size]? = some (.cells #[.int .i64 Q0, .int .i64 Q1, .int .i64 ((k : Int) - i)] 30 (0, 0)) := by rw [hW9]; exact three_set HM4.out
        have hb9 : Below w.heap.size w W9 := by rw [hW9]; exact (three_below HBW4.out).drew
        have c0 : W9.cell? ⟨w.heap.size, 0, none⟩ = some (.int .i64 Q0) := by simp [World.cell?, h9]
        have c1 : W9.cell? ⟨w.heap.size, 1, none⟩ = some (.int .i64 Q1) := by simp [World.cell?, h9]
        have c2 : W9.cell? ⟨w.heap.size, 2, none⟩ = some (.int .i64 ((k : Int) - i)) := by simp [World.cell?, h9]
        clear hW9
        exact bodyPost_ret (v := .tuple #[.agg #[.int .i64 Q0, .int .i64 Q1, .int .i64 ((k : Int) - i)], .bool true]) (by simp [results, Try.results14, go_sem, c0, c1, c2]) rfl ⟨by rw [HVV.out, HRR.out, HR.out]; rfl, hb9⟩
    · have HR : Hid (R = false) := by
        show _ = _
        rw [HRT.out]
        simp
      go_wp2_with (go_at_call 28; refine HCX.out.mono ?_; rintro e w' ⟨rfl, hww⟩; rw [hww]; clear hww w')
      obtain ⟨W9, hW9⟩ : ∃ W9, W9 = ((W4.setCell ⟨w.heap.size, 0, none⟩ (.int .i64 0)).setCell ⟨w.heap.size, 1, none⟩ (.int .i64 0)).setCell ⟨w.heap.size, 2, none⟩ (.int .i64 0) := ⟨_, rfl⟩
      rw [← hW9]
      have h9 : W9.heap[w.heap.size]? = some (.cells #[.int .i64 0, .int .i64 0, .int .i64 0] 30 (0, 0)) := by rw [hW9]; exact three_set HM4.out
      have hb9 : Below w.heap.size w W9 := by rw [hW9]; exact three_below HBW4.out
      have c0 : W9.cell? ⟨w.heap.size, 0, none⟩ = some (.int .i64 0) := by simp [World.cell?, h9]
      have c1 : W9.cell? ⟨w.heap.size, 1, none⟩ = some (.int .i64 0) := by simp [World.cell?, h9]
      have c2 : W9.cell? ⟨w.heap.size, 2, none⟩ = some (.int .i64 0) := by simp [World.cell?, h9]
      clear hW9
      exact bodyPost_ret (v := .tuple #[.agg #[.int .i64 0, .int .i64 0, .int .i64 0], .bool false]) (by simp [results, Try.results14, go_sem, c0, c1, c2]) rfl ⟨by rw [HVV.out, HRR.out, HR.out]; rfl, hb9⟩
  · have hfb : (fi != (i : Int)) = true := by simpa using hfi
    have HR : Hid (R = false) := by
      show _ = _
      rw [HRT.out, beq_eq_false_iff_ne.2 hfi]
      rfl
    clear hfi
    go_wp2_with fail
    rw [← HW4.out]
    refine HIX.out.mono ?_
    rintro e w' ⟨rfl, hww⟩
    rw [hww]
    clear hww w' HIX
    go_wp2
    obtain ⟨W9, hW9⟩ : ∃ W9, W9 = ((W4.setCell ⟨w.heap.size, 0, none⟩ (.int .i64 0)).setCell ⟨w.heap.size, 1, none⟩ (.int .i64 0)).setCell ⟨w.heap.size, 2, none⟩ (.int .i64 0) := ⟨_, rfl⟩
    rw [← hW9]
    have h9 : W9.heap[w.heap.size]? = some (.cells #[.int .i64 0, .int .i64 0, .int .i64 0] 30 (0, 0)) := by rw [hW9]; exact three_set HM4.out
    have hb9 : Below w.heap.size w W9 := by rw [hW9]; exact three_below HBW4.out
    have c0 : W9.cell? ⟨w.heap.size, 0, none⟩ = some (.int .i64 0) := by simp [World.cell?, h9]
    have c1 : W9.cell? ⟨w.heap.size, 1, none⟩ = some (.int .i64 0) := by simp [World.cell?, h9]
    have c2 : W9.cell? ⟨w.heap.size, 2, none⟩ = some (.int .i64 0) := by simp [World.cell?, h9]
    clear hW9
    exact bodyPost_ret (v := .tuple #[.agg #[.int .i64 0, .int .i64 0, .int .i64 0], .bool false]) (by simp [results, Try.results14, go_sem, c0, c1, c2]) rfl ⟨by rw [HVV.out, HRR.out, HR.out]; rfl, hb9⟩

end Go.Proofs.Ytmkbijclbogjhaa
