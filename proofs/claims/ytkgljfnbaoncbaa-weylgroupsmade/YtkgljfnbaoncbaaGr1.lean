/- facetref.Product: of all 1 + t + .. + t^(d - 1). -/
import Derived.Test.YtkgljfnbaoncbaaWy6
namespace Go.Proofs.Ytkgljfnbaoncbaa
open Go.RowKit
attribute [local go_sem ↓] Go.wp_at_zero Go.wp_at_succ

/-- A number of the product when so many rounds are done. -/
def pdF (o : List Int) (q k j i : Nat) : Int := (sm k fun k' => if k' ≤ i ∧ i < k' + q then o.getD k' 0 else 0) + (if k ≤ i ∧ i < k + j then o.getD k 0 else 0)

def pdS (o : List Int) (q : Nat) : List Int := (List.range (o.length + q - 1)).map fun i => pdF o q o.length 0 i

def prL (l : List Int) : List Int := l.foldl (fun o z => pdS o z.toNat) [1]

theorem pdF_0 (o : List Int) (q i : Nat) : pdF o q 0 0 i = 0 := by simp [pdF, sm]

theorem pdF_j (o : List Int) {q k j i : Nat} (h : i ≠ k + j) : pdF o q k (j + 1) i = pdF o q k j i := by
  unfold pdF
  congr 1
  by_cases h1 : k ≤ i ∧ i < k + j
  · rw [if_pos h1, if_pos (by omega)]
  · rw [if_neg h1, if_neg (by omega)]

theorem pdF_at (o : List Int) (q k j : Nat) : pdF o q k (j + 1) (k + j) = pdF o q k j (k + j) + o.getD k 0 := by
  unfold pdF
  rw [if_pos (by omega), if_neg (by omega)]
  omega

theorem pdF_k (o : List Int) (q k i : Nat) : pdF o q (k + 1) 0 i = pdF o q k q i := by
  unfold pdF
  rw [if_neg (by omega : ¬ (k + 1 ≤ i ∧ i < k + 1 + 0)), Int.add_zero]
  rfl

theorem pdF_bd {o : List Int} {M : Int} (h : ∀ k, 0 ≤ o.getD k 0 ∧ o.getD k 0 ≤ M) (q j i : Nat) : ∀ k, 0 ≤ pdF o q k j i ∧ pdF o q k j i ≤ (k + 1) * M := by
  have hs : ∀ k : Nat, 0 ≤ (sm k fun k' => if k' ≤ i ∧ i < k' + q then o.getD k' 0 else 0) ∧ (sm k fun k' => if k' ≤ i ∧ i < k' + q then o.getD k' 0 else 0) ≤ k * M := fun k => by
    induction k with
    | zero => simp [sm]
    | succ k ih =>
      have hk := h k
      simp only [sm]
      rw [show ((k + 1 : Nat) : Int) * M = k * M + M by rw [Int.natCast_add, Int.add_mul]; simp]
      split <;> omega
  intro k
  have h1 := hs k
  have h2 := h k
  unfold pdF
  rw [Int.add_mul]
  split <;> omega

theorem pdS_len (o : List Int) (q : Nat) : (pdS o q).length = o.length + q - 1 := by simp [pdS]

theorem pdS_bd {o : List Int} {M : Int} (h : ∀ k, 0 ≤ o.getD k 0 ∧ o.getD k 0 ≤ M) (q i : Nat) : 0 ≤ (pdS o q).getD i 0 ∧ (pdS o q).getD i 0 ≤ (o.length + 1) * M := by
  by_cases hi : i < o.length + q - 1
  · unfold pdS
    rw [getD_range hi]
    exact pdF_bd h q 0 i o.length
  · have e : (pdS o q).getD i 0 = 0 := by rw [List.getD_eq_getElem?_getD, List.getElem?_eq_none (by rw [pdS_len]; omega)]; rfl
    have hM := h 0
    rw [e]
    refine ⟨by omega, Int.mul_nonneg (by omega) (by omega)⟩

/-- What is told of a product of few. -/
structure PrB (t : Nat) (o : List Int) : Prop where
  l1 : 1 ≤ o.length
  l : o.length ≤ 1 + 11 * t
  b : ∀ k, 0 ≤ o.getD k 0 ∧ o.getD k 0 ≤ 60 ^ t

theorem PrB.step {t : Nat} {o : List Int} (h : PrB t o) (ht : t ≤ 4) {q : Nat} (h1 : 1 ≤ q) (h2 : q ≤ 12) : PrB (t + 1) (pdS o q) := by
  have hl1 := h.l1
  have hl := h.l
  refine ⟨by rw [pdS_len]; omega, by rw [pdS_len]; omega, fun k => ?_⟩
  have hb := pdS_bd h.b q k
  refine ⟨hb.1, Int.le_trans hb.2 ?_⟩
  rw [Int.pow_succ, Int.mul_comm]
  exact Int.mul_le_mul_of_nonneg_left (by omega) (Int.le_trans (h.b 0).1 (h.b 0).2)

theorem prb_one : PrB 0 [1] := ⟨by simp, by simp, fun k => by cases k <;> simp⟩

theorem prL_snoc {l : List Int} {i : Nat} (hi : i < l.length) : prL (l.take (i + 1)) = pdS (prL (l.take i)) (l.getD i 0).toNat := by
  rw [List.take_succ_eq_append_getElem hi]
  unfold prL
  rw [List.foldl_append]
  simp [hi]

theorem prL_b {l : List Int} (hn : l.length ≤ 4) (hb : ∀ k, k < l.length → 1 ≤ l.getD k 0 ∧ l.getD k 0 ≤ 12) : ∀ i, i ≤ l.length → PrB i (prL (l.take i))
  | 0, _ => prb_one
  | i + 1, hi => by
    have hq := hb i (by omega)
    rw [prL_snoc (by omega)]
    exact (prL_b hn hb i (by omega)).step (by omega) (by omega) (by omega)

theorem rowIs_bel {w w' : World} {b N n : Nat} {t : TypeId} {f : Nat → Value} (h : w.rowIs b t n f) (hb : Below N w w') (hN : w.heap.size ≤ N) : w'.rowIs b t n f := by
  obtain ⟨c, h1, h2, h3⟩ := h
  exact ⟨c, (hb.block b (by have := lt_of_block h1; omega)).trans h1, h2, h3⟩

set_option maxRecDepth 100000 in
set_option maxHeartbeats 1600000 in
theorem product_any (l : List Int) (lv : Value) (w : World) (hl : Sl w.heap.size 3 w lv (ints l)) (hn : l.length ≤ 4) (hb : ∀ k, k < l.length → 1 ≤ l.getD k 0 ∧ l.getD k 0 ≤ 12) :
    Calls Try.prog 8 #[lv] w fun e w' => ∃ u, e = .returned u ∧ w'.ownsRow w.heap.size 3 1 u (prL l).length (ints (prL l)) ∧ Below w.heap.size w w' := by
  obtain ⟨ao, cap, hvv, _, _⟩ := sl_open hl
  subst hvv
  have HL : Hid (Sl w.heap.size 3 w (.slice ao l.length cap) (ints l)) := hl
  have HQ : Hid (∀ k, k < l.length → 1 ≤ l.getD k 0 ∧ l.getD k 0 ≤ 12) := hb
  have HPB : Hid (∀ i, i ≤ l.length → PrB i (prL (l.take i))) := prL_b hn hb
  clear hl hb
  go_enter Try.func8, Try.ntmps8
  have hmk : ∀ (N : Nat) (w : World), N ≤ 1000 → (Instr.makeSlice 26 (.int .i64 (N : Int)) (.int .i64 (N : Int))).run Try.prog w = .ok (.slice (some ⟨w.heap.size, 0, none⟩) N N) (w.alloc (.cells (madeCells #[.int .i64 0] N) 3)) := fun N w h => run_make_row' (P := Try.prog) 26 3 (.int .i64 0) 8 Try.underlying26 Try.info3 rfl .i64 .i64 N (by omega) (by omega) w
  go_wp2
  go_loopw [3, 4] (fun ov iv wr => ∃ i : Nat, i ≤ l.length ∧ iv = .int .i64 i ∧ wr.ownsRow w.heap.size 3 1 ov (prL (l.take i)).length (ints (prL (l.take i))) ∧ Below w.heap.size w wr) (fun _ iv _ => l.length - (intOf iv).toNat)
  case atStart =>
    refine ⟨0, Nat.zero_le _, rfl, ?_, (Below.refl _ _).alloc (Nat.le_refl _) _⟩
    exact World.ownsRow_lit w #[.int .i64 1] 1 (Nat.le_refl _) (by decide) rfl
  case round =>
    obtain ⟨i, hi, rfl, hown, hbel⟩ := hrel
    obtain ⟨w2, rfl⟩ : ∃ w2, w2 = wr := ⟨_, rfl⟩
    have HB : Hid (Below w.heap.size w w2) := hbel
    have hpb := HPB.out i hi
    obtain ⟨o, ho⟩ : ∃ o, o = prL (l.take i) := ⟨_, rfl⟩
    rw [← ho] at hown hpb
    have HHO : Hid (o = prL (l.take i)) := ho
    have ol1 := hpb.l1
    have ol2 := hpb.l
    by_cases hlt : i < l.length
    · obtain ⟨g0, cp0, F0, hov, hg0, hr0, hF0, hn0, hm0⟩ := own_rw hown (by omega)
      subst hov
      obtain ⟨b1, o1, cp1, hs1, _, hc1⟩ := sl_cell (HL.out.below HB.out (Nat.le_refl _)) hlt
      simp only [Value.slice.injEq, true_and] at hs1
      obtain ⟨rfl, rfl⟩ := hs1
      have hq := HQ.out i hlt
      obtain ⟨q, hqz⟩ : ∃ q : Nat, l.getD i 0 = (q : Int) := ⟨(l.getD i 0).toNat, by omega⟩
      rw [hqz] at hc1 hq
      have HO1 : Hid (prL (l.take (i + 1)) = pdS o q) := by
        show _ = _
        rw [prL_snoc hlt, ← ho, hqz, Int.toNat_natCast]
      have hpb' := hpb
      clear ho hown hpb hqz
      obtain ⟨N, hN⟩ : ∃ N, N = o.length + q - 1 := ⟨_, rfl⟩
      have m1 : IntKind.i64.wrap ((o.length : Int) + (q : Int)) = (o.length : Int) + (q : Int) := by rw [IntWalk.i64_left]; exact IntWalk.wrap64_in _ ⟨by omega, by omega⟩
      have m2 : IntKind.i64.wrap ((o.length : Int) + (q : Int) - 1) = (N : Int) := by rw [IntWalk.i64_left, IntWalk.wrap64_in _ ⟨by omega, by omega⟩]; omega
      have hmN := hmk N w2 (by omega)
      have HN : Hid (N = o.length + q - 1) := hN
      have hN40 : N ≤ 60 := by omega
      clear hN
      clear hmk
      have HR0 : Hid (w2.rowIs g0 3 cp0 F0) := hr0
      have HF0 : Hid (∀ i, i < o.length → F0 i = .int .i64 (o.getD i 0)) := hF0
      have HG0 : Hid (w.heap.size ≤ g0) := hg0
      have hlt0 : g0 < w2.heap.size := hr0.lt
      have HPO : Hid (PrB i o) := hpb'
      obtain ⟨W1, hW1⟩ : ∃ W1, W1 = w2.alloc (.cells (madeCells #[.int .i64 0] N) 3) := ⟨_, rfl⟩
      have HW1 : Hid (W1 = w2.alloc (.cells (madeCells #[.int .i64 0] N) 3)) := hW1
      obtain ⟨g, hgg⟩ : ∃ g, g = w2.heap.size := ⟨_, rfl⟩
      have HRN : Hid (W1.rowIs g 3 N (fun k => .int .i64 (pdF o q 0 0 k))) := by
        show World.rowIs _ _ _ _ _
        rw [hW1, hgg]
        refine ⟨madeCells #[.int .i64 0] N, heap_alloc_new w2 _, by simp [madeCells], fun k hk => ?_⟩
        show _ = some (Value.int .i64 (pdF o q 0 0 k))
        rw [pdF_0, ← Array.getElem?_toList, toList_madeCells_one]
        simp [hk]
      have HGG : Hid (g = w2.heap.size) := hgg
      have HGL : Hid (g0 < g) := by rw [hgg]; exact hlt0
      have HB1 : Hid (Below w.heap.size w W1) := by rw [hW1]; exact HB.out.alloc HB.out.size _
      have HR1 : Hid (W1.rowIs g0 3 cp0 F0) := rowIs_bel (N := w2.heap.size) hr0 (by rw [hW1]; exact (Below.refl _ _).alloc (Nat.le_refl _) _) (Nat.le_refl _)
      rw [← hgg, ← hW1] at hmN
      clear hgg hW1 hr0 hF0 hg0 hlt0 hpb'
      go_wp2
      go_loopw [6] (fun kv wr => ∃ k : Nat, k ≤ o.length ∧ kv = .int .i64 k ∧ wr.rowIs g 3 N (fun i => .int .i64 (pdF o q k 0 i)) ∧ Only g W1 wr) (fun kv _ => o.length - (intOf kv).toNat)
      case atStart => exact ⟨0, Nat.zero_le _, rfl, HRN.out, Only.refl _ _⟩
      case round =>
        obtain ⟨k, hk, rfl, hrk, hok⟩ := hrel
        have HRK : Hid (wr.rowIs g 3 N (fun i => .int .i64 (pdF o q k 0 i))) := hrk
        have HOK : Hid (Only g W1 wr) := hok
        clear hrk hok
        by_cases hkl : k < o.length
        · have hX := HPO.out.b k
          have HXX : Hid (F0 k = .int .i64 (o.getD k 0)) := HF0.out k hkl
          have HPD : Hid (∀ j s, 0 ≤ pdF o q k j s ∧ pdF o q k j s ≤ (k + 1) * 60 ^ i) := fun j s => pdF_bd HPO.out.b q j s k
          have h60 : (60 : Int) ^ i ≤ 12960000 := by
            have : i ≤ 4 := by omega
            rcases (show i = 0 ∨ i = 1 ∨ i = 2 ∨ i = 3 ∨ i = 4 by omega) with e | e | e | e | e <;> subst e <;> decide
          have HAG : Hid (∀ W', Only g W1 W' → W'.cell? ⟨b1, o1 + i, none⟩ = some (.int .i64 (q : Int)) ∧ W'.cell? ⟨g0, k, none⟩ = some (.int .i64 (o.getD k 0))) := fun W' h => by
            have hb1 : b1 < w2.heap.size := lt_of_cell hc1
            have hgg := HGG.out
            have hbW : Below w2.heap.size w2 W1 := by rw [HW1.out]; exact (Below.refl _ _).alloc (Nat.le_refl _) _
            refine ⟨?_, ?_⟩
            · exact (World.cell?_of_block (w := W1) (h.block b1 (by omega))).trans ((hbW.cell hb1).trans hc1)
            · have e0 : W1.cell? ⟨g0, k, none⟩ = some (.int .i64 (o.getD k 0)) := by rw [HR1.out.cell (by omega), HXX.out]
              exact (World.cell?_of_block (w := W1) (h.block g0 (by have := HGL.out; omega))).trans e0
          obtain ⟨X, hXe⟩ : ∃ X, X = o.getD k 0 := ⟨_, rfl⟩
          rw [← hXe] at hX HAG
          have HXE : Hid (X = o.getD k 0) := hXe
          obtain ⟨M, hM⟩ : ∃ M, M = (60 : Int) ^ i := ⟨_, rfl⟩
          rw [← hM] at hX HPD h60
          obtain ⟨x1, x2⟩ := HAG.out wr HOK.out
          clear hXe hM hc1
          go_wp2
          go_loopw [7] (fun jv wr => ∃ j : Nat, j ≤ q ∧ jv = .int .i64 j ∧ wr.rowIs g 3 N (fun i => .int .i64 (pdF o q k j i)) ∧ Only g W1 wr) (fun jv _ => q - (intOf jv).toNat)
          case atStart => exact ⟨0, Nat.zero_le _, rfl, HRK.out, HOK.out⟩
          case round =>
            clear x1 x2 HRK HOK
            obtain ⟨j, hj, rfl, hrj, hoj⟩ := hrel
            have HRJ : Hid (wr.rowIs g 3 N (fun i => .int .i64 (pdF o q k j i))) := hrj
            have HOJ : Hid (Only g W1 wr) := hoj
            obtain ⟨x1, x2⟩ := HAG.out wr hoj
            clear hrj hoj
            by_cases hjq : j < q
            · obtain ⟨s, hs⟩ : ∃ s, s = k + j := ⟨_, rfl⟩
              have hsN : s < N := by have := HN.out; omega
              have m0 : IntKind.i64.wrap ((k : Int) + (j : Int)) = (s : Int) := by rw [IntWalk.i64_left, IntWalk.wrap64_in _ ⟨by omega, by omega⟩]; omega
              obtain ⟨Y, hY⟩ : ∃ Y, Y = pdF o q k j s := ⟨_, rfl⟩
              have hYb := HPD.out j s
              rw [← hY] at hYb
              have hYc : 0 ≤ Y ∧ Y ≤ 1000000000 := by
                have hk60 : (k : Int) + 1 ≤ 60 := by omega
                have := Int.mul_le_mul_of_nonneg_right hk60 (show 0 ≤ M by omega)
                omega
              have xY : wr.drew.cell? ⟨g, s, none⟩ = some (.int .i64 Y) := by
                show wr.cell? _ = _
                rw [HRJ.out.cell hsN, hY]
              have xF : wr.drew.frozen? ⟨g, s, none⟩ = false := HRJ.out.frozen s
              have m3 : IntKind.i64.wrap (Y + X) = Y + X := by rw [IntWalk.i64_left]; exact IntWalk.wrap64_in _ ⟨by omega, by omega⟩
              have HN1 : Hid ((wr.drew.setCell ⟨g, s, none⟩ (.int .i64 (Y + X))).rowIs g 3 N (fun i => .int .i64 (pdF o q k (j + 1) i))) := by
                refine ((World.rowIs.of_block (w := wr) (w' := wr.drew) HRJ.out rfl).set s (.int .i64 (Y + X))).congr fun i _ => ?_
                by_cases e : i = s
                · subst e
                  rw [if_pos rfl, hY, HXE.out, hs, pdF_at]
                · rw [if_neg e, pdF_j o (by omega)]
              have HN2 : Hid (Only g W1 (wr.drew.setCell ⟨g, s, none⟩ (.int .i64 (Y + X)))) := HOJ.out.drew.set _ _
              have HCS := (HAG.out _ HN2.out).2
              have HCT := (HAG.out _ HN2.out).1
              have x2d : wr.drew.cell? ⟨g0, k, none⟩ = some (.int .i64 X) := x2
              clear hY hYb
              have HSS : Hid (s = k + j) := hs
              clear hs
              go_wp2
              refine wp_region_held_drew (S := fun w' => w'.cell? ⟨g0, k, none⟩ = some (.int .i64 X)) (by kernel_rfl) x2d (fun hHeld => ?_)
              refine wpAnyH_tk (i := 0) (d := 38) (v := (.slice (some ⟨g, 0, none⟩) N N)) rfl rfl (by kernel_rfl) (by kernel_rfl) (by kernel_rfl) (fun _ _ _ h => h) (.inl ⟨by rfl, by (intro wq hSw; (try dsimp only at hSw); go_simp; (try (first | rfl | omega)))⟩) hHeld ?_
              simp only [Act.put, List.setIfInBounds_toArray, List.set_cons_zero, List.set_cons_succ]
              refine wpAnyH_tk (i := 1) (d := 39) (v := (.int .i64 k)) rfl rfl (by kernel_rfl) (by kernel_rfl) (by kernel_rfl) (fun _ _ _ h => h) (.inl ⟨by rfl, by (intro wq hSw; (try dsimp only at hSw); go_simp; (try (first | rfl | omega)))⟩) hHeld ?_
              simp only [Act.put, List.setIfInBounds_toArray, List.set_cons_zero, List.set_cons_succ]
              refine wpAnyH_tk (i := 2) (d := 40) (v := (.int .i64 j)) rfl rfl (by kernel_rfl) (by kernel_rfl) (by kernel_rfl) (fun _ _ _ h => h) (.inl ⟨by rfl, by (intro wq hSw; (try dsimp only at hSw); go_simp; (try (first | rfl | omega)))⟩) hHeld ?_
              simp only [Act.put, List.setIfInBounds_toArray, List.set_cons_zero, List.set_cons_succ]
              refine wpAnyH_tk (i := 3) (d := 41) (v := (.int .i64 s)) rfl rfl (by kernel_rfl) (by kernel_rfl) (by kernel_rfl) (fun _ _ _ h => h) (.inl ⟨by rfl, by (intro wq hSw; (try dsimp only at hSw); go_simp; (try (first | rfl | omega)))⟩) hHeld ?_
              simp only [Act.put, List.setIfInBounds_toArray, List.set_cons_zero, List.set_cons_succ]
              refine wpAnyH_tk (i := 4) (d := 42) (v := (.slice (some ⟨g, 0, none⟩) N N)) rfl rfl (by kernel_rfl) (by kernel_rfl) (by kernel_rfl) (fun _ _ _ h => h) (.inl ⟨by rfl, by (intro wq hSw; (try dsimp only at hSw); go_simp; (try (first | rfl | omega)))⟩) hHeld ?_
              simp only [Act.put, List.setIfInBounds_toArray, List.set_cons_zero, List.set_cons_succ]
              refine wpAnyH_tk (i := 5) (d := 43) (v := (.int .i64 k)) rfl rfl (by kernel_rfl) (by kernel_rfl) (by kernel_rfl) (fun _ _ _ h => h) (.inl ⟨by rfl, by (intro wq hSw; (try dsimp only at hSw); go_simp; (try (first | rfl | omega)))⟩) hHeld ?_
              simp only [Act.put, List.setIfInBounds_toArray, List.set_cons_zero, List.set_cons_succ]
              refine wpAnyH_tk (i := 6) (d := 44) (v := (.int .i64 j)) rfl rfl (by kernel_rfl) (by kernel_rfl) (by kernel_rfl) (fun _ _ _ h => h) (.inl ⟨by rfl, by (intro wq hSw; (try dsimp only at hSw); go_simp; (try (first | rfl | omega)))⟩) hHeld ?_
              simp only [Act.put, List.setIfInBounds_toArray, List.set_cons_zero, List.set_cons_succ]
              refine wpAnyH_tk (i := 7) (d := 45) (v := (.int .i64 s)) rfl rfl (by kernel_rfl) (by kernel_rfl) (by kernel_rfl) (fun _ _ _ h => h) (.inl ⟨by rfl, by (intro wq hSw; (try dsimp only at hSw); go_simp; (try (first | rfl | omega)))⟩) hHeld ?_
              simp only [Act.put, List.setIfInBounds_toArray, List.set_cons_zero, List.set_cons_succ]
              refine wpAnyH_tk (i := 8) (d := 46) (v := (.pointer (some ⟨g, s, none⟩))) rfl rfl (by kernel_rfl) (by kernel_rfl) (by kernel_rfl) (fun _ _ _ h => h) (.inl ⟨by rfl, by (intro wq hSw; (try dsimp only at hSw); go_simp; (try (first | rfl | omega)))⟩) hHeld ?_
              simp only [Act.put, List.setIfInBounds_toArray, List.set_cons_zero, List.set_cons_succ]
              refine wpAnyH_tk (i := 10) (d := 48) (v := (.slice (some ⟨g0, 0, none⟩) o.length cp0)) rfl rfl (by kernel_rfl) (by kernel_rfl) (by kernel_rfl) (fun _ _ _ h => h) (.inl ⟨by rfl, by (intro wq hSw; (try dsimp only at hSw); go_simp; (try (first | rfl | omega)))⟩) hHeld ?_
              simp only [Act.put, List.setIfInBounds_toArray, List.set_cons_zero, List.set_cons_succ]
              refine wpAnyH_tk (i := 11) (d := 49) (v := (.int .i64 k)) rfl rfl (by kernel_rfl) (by kernel_rfl) (by kernel_rfl) (fun _ _ _ h => h) (.inl ⟨by rfl, by (intro wq hSw; (try dsimp only at hSw); go_simp; (try (first | rfl | omega)))⟩) hHeld ?_
              simp only [Act.put, List.setIfInBounds_toArray, List.set_cons_zero, List.set_cons_succ]
              refine wpAnyH_tk (i := 12) (d := 50) (v := (.pointer (some ⟨g0, k, none⟩))) rfl rfl (by kernel_rfl) (by kernel_rfl) (by kernel_rfl) (fun _ _ _ h => h) (.inl ⟨by rfl, by (intro wq hSw; (try dsimp only at hSw); go_simp; (try (first | rfl | omega)))⟩) hHeld ?_
              simp only [Act.put, List.setIfInBounds_toArray, List.set_cons_zero, List.set_cons_succ]
              refine wpAnyH_tk (i := 13) (d := 51) (v := (.int .i64 X)) rfl rfl (by kernel_rfl) (by kernel_rfl) (by kernel_rfl) (fun _ _ _ h => h) (.inl ⟨by rfl, by (intro wq hSw; (try dsimp only at hSw); go_simp; (try (first | rfl | omega)))⟩) hHeld ?_
              simp only [Act.put, List.setIfInBounds_toArray, List.set_cons_zero, List.set_cons_succ]
              refine wpAnyH_ready (rs := [9]) (by kernel_rfl) (by simp) ?_
              refine ready_tk (i := 9) rfl (by rfl) (fun K hK => ?_) AllReadyH.nil
              go_simp
              refine hK.out _ _ x2d (fun hHeld => ?_)
              clear hK K
              refine wpAnyH_tk (i := 14) (d := 52) (v := (.int .i64 (Y + X))) rfl rfl (by kernel_rfl) (by kernel_rfl) (by kernel_rfl) (fun _ _ _ h => h) (.inl ⟨by rfl, by (intro wq hSw; (try dsimp only at hSw); go_simp; (try (first | rfl | omega)))⟩) hHeld ?_
              simp only [Act.put, List.setIfInBounds_toArray, List.set_cons_zero, List.set_cons_succ]
              refine wpAnyH_tk (i := 15) (d := 53) (v := (.pointer (some ⟨g, s, none⟩))) rfl rfl (by kernel_rfl) (by kernel_rfl) (by kernel_rfl) (fun _ _ _ h => h) (.inl ⟨by rfl, by (intro wq hSw; (try dsimp only at hSw); go_simp; (try (first | rfl | omega)))⟩) hHeld ?_
              simp only [Act.put, List.setIfInBounds_toArray, List.set_cons_zero, List.set_cons_succ]
              refine wpAnyH_ready (rs := [16]) (by kernel_rfl) (by simp) ?_
              refine ready_tk (i := 16) rfl (by rfl) (fun K hK => ?_) AllReadyH.nil
              go_simp
              refine hK.out _ _ HCS (fun hHeld => ?_)
              clear hK K
              refine wpAnyH_done (by kernel_rfl) ?_ _
              clear hHeld
              go_wp2
              exact ⟨⟨j + 1, by omega, by go_num, HN1.out, HN2.out⟩, by simp [intOf]; omega⟩
            · have HNK : Hid (wr.rowIs g 3 N (fun i => .int .i64 (pdF o q (k + 1) 0 i))) := HRJ.out.congr fun i _ => by
                rw [pdF_k, show j = q by omega]
              go_wp2
              exact ⟨⟨k + 1, by omega, by go_num, HNK.out, HOJ.out⟩, by simp [intOf]; omega⟩
        · have hke : k = o.length := by omega
          have HOW : Hid (wr.ownsRow w.heap.size 3 1 (.slice (some ⟨g, 0, none⟩) N N) (prL (l.take (i + 1))).length (ints (prL (l.take (i + 1))))) := by
            rw [HO1.out]
            have hlen : (pdS o q).length = N := by rw [pdS_len, HN.out]
            obtain ⟨cur, h1, h2, h3⟩ := HRK.out
            refine ⟨by rw [ints_length]; omega, .inr ⟨g, N, cur, by rw [hlen], by have := HGG.out; have := HB.out.size; omega, h1, by omega, by unfold maxLen; omega, by omega, ?_⟩⟩
            refine List.ext_getElem? fun t => ?_
            by_cases ht : t < N
            · rw [List.getElem?_take_of_lt (by omega), Array.getElem?_toList, h3 t (by omega), ints_get _ _ (by omega)]
              unfold pdS
              rw [getD_range (by have := HN.out; omega), hke]
            · rw [List.getElem?_eq_none (by simp; omega), List.getElem?_eq_none (by rw [ints_length]; omega)]
          have HBW : Hid (Below w.heap.size w wr) := ⟨HOK.out.os.trans HB1.out.os, HOK.out.tape.trans HB1.out.tape, HOK.out.output.trans HB1.out.output, by rw [HOK.out.size]; exact HB1.out.size, fun a ha => (HOK.out.block a (by have := HGG.out; have := HB.out.size; omega)).trans (HB1.out.block a ha)⟩
          go_wp2
          exact ⟨⟨i + 1, by omega, by go_num, HOW.out, HBW.out⟩, by simp [intOf]; omega⟩
    · have hie : i = l.length := by omega
      obtain ⟨g0, cp0, hov⟩ := owns_form hown
      subst hov
      have HOW : Hid (w2.ownsRow w.heap.size 3 1 (.slice g0 o.length cp0) (prL l).length (ints (prL l))) := by
        have e : prL l = o := by rw [HHO.out, hie, List.take_length]
        rw [e]; exact hown
      clear ho hown hpb hie
      go_wp2
      go_ret
      exact ⟨_, rfl, HOW.out, HB.out⟩

end Go.Proofs.Ytkgljfnbaoncbaa
