import Derived.Test.YtkgljfnbaoncbaaGr1
import Derived.Test.YtkgljfnbaoncbaaGr6
import Derived.Test.YtkgljfnbaoncbaaMgAD
import Derived.Shelf.SlSortCmp.NoneTotal
import Derived.Shelf.SlGeneric
import Derived.Ground.SlsfProg
import Derived.Test.YtkgljfnbaoncbaaMgAG
import Derived.Test.YtkgljfnbaoncbaaMgAC
/- facetref.LengthsCount: how many words there are of each length. -/
namespace Go.Proofs.Ytkgljfnbaoncbaa
open Go.RowKit
attribute [local go_sem ↓] Go.wp_at_zero Go.wp_at_succ

def lcF (ls : List Nat) (i k : Nat) : Nat := (ls.take i).countP fun x => x == k
/-- How many of each length, up to the last one's. -/
def lcL (ls : List Nat) : List Int := (List.range (ls.getD (ls.length - 1) 0 + 1)).map fun k => (lcF ls ls.length k : Int)

theorem lcF_succ {ls : List Nat} {i : Nat} (hi : i < ls.length) (k : Nat) : lcF ls (i + 1) k = lcF ls i k + if ls.getD i 0 = k then 1 else 0 := by
  unfold lcF
  rw [List.take_succ_eq_append_getElem hi, List.countP_append]
  have e : ls.getD i 0 = ls[i] := by simp [hi]
  rw [e]
  by_cases h : ls[i] = k
  · rw [if_pos h]; simp [h]
  · rw [if_neg h]; simp [h]

theorem lcF_le (ls : List Nat) (i k : Nat) : lcF ls i k ≤ i := by
  unfold lcF
  exact Nat.le_trans List.countP_le_length (by simp; omega)

set_option maxRecDepth 100000 in
set_option maxHeartbeats 3200000 in
theorem lengthsCount_any (ws : List (List Nat)) (v : Value) (w : World) (hm : Mat w.heap.size 26 3 w v (ws.map natsI)) (h0 : 0 < ws.length) (h2 : ws.length ≤ 200) (hl : ∀ i, i < ws.length → (ws.getD i []).length ≤ (ws.getD (ws.length - 1) []).length) (hk : (ws.getD (ws.length - 1) []).length ≤ 500) :
    Calls Try.prog 19 #[v] w fun e w' => ∃ u, e = .returned u ∧ w'.ownsRow w.heap.size 3 1 u (lcL (ws.map List.length)).length (ints (lcL (ws.map List.length))) ∧ Below w.heap.size w w' := by
  obtain ⟨ao, cap, hvv, _, _⟩ := mat_open hm
  subst hvv
  have HM : Hid (Mat w.heap.size 26 3 w (.slice ao (ws.map natsI).length cap) (ws.map natsI)) := hm
  have hml : (ws.map natsI).length = ws.length := List.length_map _
  rw [hml] at HM ⊢
  have HRW : Hid (∀ i, i < ws.length → ∃ b o r c, ao = some ⟨b, o, none⟩ ∧ w.cell? ⟨b, o + i, none⟩ = some (.slice r (ws.getD i []).length c)) := fun i hi => by
    obtain ⟨b1, o1, cp1, r1, hs1, _, hc1, hr1⟩ := mat_cell HM.out (k := i) (by rw [hml]; exact hi)
    rw [hml] at hs1
    simp only [Value.slice.injEq, true_and] at hs1
    rw [map_getD hi] at hr1
    obtain ⟨ro, rc, hrv, _, _⟩ := sl_open hr1
    rw [natsI_len] at hrv
    exact ⟨b1, o1, ro, rc, hs1.1, by rw [hc1, hrv]⟩
  have HLL : Hid (∀ i, i < ws.length → (ws.getD i []).length ≤ (ws.getD (ws.length - 1) []).length) := hl
  have HGL : Hid (∀ i, i < ws.length → (ws.map List.length).getD i 0 = (ws.getD i []).length) := fun i hi => by simp [hi]
  obtain ⟨K, hK⟩ : ∃ K, K = (ws.getD (ws.length - 1) []).length := ⟨_, rfl⟩
  rw [← hK] at HLL hk
  obtain ⟨b0, o0, r0, c0, hao, hcl⟩ := HRW.out (ws.length - 1) (by omega)
  rw [← hK] at hcl
  subst hao
  obtain ⟨Lm, hLm⟩ : ∃ Lm, Lm = ws.length - 1 := ⟨_, rfl⟩
  rw [← hLm] at hcl
  have m1 : IntKind.i64.wrap ((ws.length : Int) - 1) = (Lm : Int) := by rw [IntWalk.i64_left, IntWalk.wrap64_in _ ⟨by omega, by omega⟩]; omega
  have hLl : (Lm : Int) < (ws.length : Int) := by omega
  have hLl2 : Lm < ws.length := by omega
  obtain ⟨N, hN⟩ : ∃ N, N = K + 1 := ⟨_, rfl⟩
  have m2 : IntKind.i64.wrap ((K : Int) + 1) = (N : Int) := by rw [IntWalk.i64_left, IntWalk.wrap64_in _ ⟨by omega, by omega⟩]; omega
  have hmN : (Instr.makeSlice 26 (.int .i64 (N : Int)) (.int .i64 (N : Int))).run Try.prog w = .ok (.slice (some ⟨w.heap.size, 0, none⟩) N N) (w.alloc (.cells (madeCells #[.int .i64 0] N) 3)) := run_make_row' (P := Try.prog) 26 3 (.int .i64 0) 8 Try.underlying26 Try.info3 rfl .i64 .i64 N (by omega) (by omega) w
  have HN : Hid (N = K + 1) := hN
  obtain ⟨ls, hls⟩ : ∃ ls, ls = ws.map List.length := ⟨_, rfl⟩
  have HLS : Hid (ls.length = ws.length) := by rw [hls]; exact List.length_map _
  rw [← hls] at HGL ⊢
  have HKL : Hid (ls.getD (ls.length - 1) 0 = K) := by
    show _ = _
    rw [HLS.out, HGL.out _ (by omega), hK]
  obtain ⟨W1, hW1⟩ : ∃ W1, W1 = w.alloc (.cells (madeCells #[.int .i64 0] N) 3) := ⟨_, rfl⟩
  obtain ⟨g, hgg⟩ : ∃ g, g = w.heap.size := ⟨_, rfl⟩
  have HRN : Hid (W1.rowIs g 3 N (fun k => .int .i64 (lcF ls 0 k : Nat))) := by
    show World.rowIs _ _ _ _ _
    rw [hW1, hgg]
    refine ⟨madeCells #[.int .i64 0] N, heap_alloc_new w _, by simp [madeCells], fun k hk => ?_⟩
    show _ = some (Value.int .i64 (lcF ls 0 k : Nat))
    rw [← Array.getElem?_toList, toList_madeCells_one]
    simp [hk, lcF]
  have HGG : Hid (g = w.heap.size) := hgg
  have HB1 : Hid (Below w.heap.size w W1) := by rw [hW1]; exact (Below.refl _ _).alloc (Nat.le_refl _) _
  rw [← hgg, ← hW1] at hmN
  clear hgg hW1 hm hN hLm hK hl hml hls
  go_enter Try.func19, Try.ntmps19
  go_wp2
  go_loopw [4] (fun iv wr => ∃ i : Nat, i ≤ ws.length ∧ iv = .int .i64 i ∧ wr.rowIs g 3 N (fun k => .int .i64 (lcF ls i k : Nat)) ∧ Only g W1 wr) (fun iv _ => ws.length - (intOf iv).toNat)
  case atStart => exact ⟨0, Nat.zero_le _, rfl, HRN.out, Only.refl _ _⟩
  case round =>
    obtain ⟨i, hi, rfl, hri, hoi⟩ := hrel
    have HRI : Hid (wr.rowIs g 3 N (fun k => .int .i64 (lcF ls i k : Nat))) := hri
    have HOI : Hid (Only g W1 wr) := hoi
    clear hri hoi
    by_cases hlt : i < ws.length
    · obtain ⟨b, o, r, cc, hao, hc⟩ := HRW.out i hlt
      simp only [Option.some.injEq, Addr.mk.injEq, and_true] at hao
      obtain ⟨rfl, rfl⟩ := hao
      have hq := HLL.out i hlt
      have HQL : Hid (ls.getD i 0 = (ws.getD i []).length) := HGL.out i hlt
      obtain ⟨q, hqq⟩ : ∃ q, q = (ws.getD i []).length := ⟨_, rfl⟩
      rw [← hqq] at hc hq HQL
      have hqN : q < N := by have := HN.out; omega
      have HAG : Hid (∀ W', Only g W1 W' → W'.cell? ⟨b0, o0 + i, none⟩ = some (.slice r q cc)) := fun W' h => by
        have hb1 : b0 < w.heap.size := lt_of_cell hc
        have := HGG.out
        exact (World.cell?_of_block (w := W1) (h.block b0 (by omega))).trans ((HB1.out.cell hb1).trans hc)
      have hle := lcF_le ls i q
      have x1 : wr.drew.cell? ⟨b0, o0 + i, none⟩ = some (.slice r q cc) := HAG.out _ HOI.out.drew
      obtain ⟨Y, hY⟩ : ∃ Y, Y = lcF ls i q := ⟨_, rfl⟩
      rw [← hY] at hle
      have xY : wr.drew.cell? ⟨g, q, none⟩ = some (.int .i64 (Y : Nat)) := by
        show wr.cell? _ = _
        rw [HRI.out.cell hqN, hY]
      have xF : wr.drew.frozen? ⟨g, q, none⟩ = false := HRI.out.frozen q
      have m3 : IntKind.i64.wrap ((Y : Int) + 1) = (Y : Int) + 1 := by rw [IntWalk.i64_left]; exact IntWalk.wrap64_in _ ⟨by omega, by omega⟩
      have HN1 : Hid ((wr.drew.setCell ⟨g, q, none⟩ (.int .i64 ((Y : Int) + 1))).rowIs g 3 N (fun k => .int .i64 (lcF ls (i + 1) k : Nat))) := by
        refine World.rowIs.congr ((World.rowIs.of_block (w := wr) (w' := wr.drew) HRI.out rfl).set q (.int .i64 ((Y : Int) + 1))) fun k _ => ?_
        rw [lcF_succ (by rw [HLS.out]; exact hlt), HQL.out]
        by_cases e : k = q
        · subst e
          rw [if_pos rfl, if_pos rfl, hY]
          rfl
        · rw [if_neg e, if_neg (fun h => e h.symm)]
          rfl
      have HN2 : Hid (Only g W1 (wr.drew.setCell ⟨g, q, none⟩ (.int .i64 ((Y : Int) + 1)))) := HOI.out.drew.set _ _
      have x2 : (wr.drew.setCell ⟨g, q, none⟩ (.int .i64 ((Y : Int) + 1))).cell? ⟨b0, o0 + i, none⟩ = some (.slice r q cc) := HAG.out _ HN2.out
      have iI : (i : Int) < (ws.length : Int) := by omega
      have iI0 : (0 : Int) ≤ (i : Int) := by omega
      have qI : (q : Int) < (N : Int) := by omega
      have qI0 : (0 : Int) ≤ (q : Int) := by omega
      clear hY hqq hc
      go_wp2
      refine wp_region_held_drew (S := fun w' => w'.cell? ⟨b0, o0 + i, none⟩ = some (.slice r q cc)) (by kernel_rfl) x1 (fun hHeld => ?_)
      refine wpAnyH_tk (i := 0) (d := 20) (v := (.slice (some ⟨g, 0, none⟩) N N)) rfl rfl (by kernel_rfl) (by kernel_rfl) (by kernel_rfl) (fun _ _ _ h => h) (.inl ⟨by rfl, by (intro wq hSw; (try dsimp only at hSw); go_simp; (try (first | rfl | omega)))⟩) hHeld ?_
      simp only [Act.put, List.setIfInBounds_toArray, List.set_cons_zero, List.set_cons_succ]
      refine wpAnyH_tk (i := 1) (d := 21) (v := (.slice (some ⟨b0, o0, none⟩) ws.length cap)) rfl rfl (by kernel_rfl) (by kernel_rfl) (by kernel_rfl) (fun _ _ _ h => h) (.inl ⟨by rfl, by (intro wq hSw; (try dsimp only at hSw); go_simp; (try (first | rfl | omega)))⟩) hHeld ?_
      simp only [Act.put, List.setIfInBounds_toArray, List.set_cons_zero, List.set_cons_succ]
      refine wpAnyH_tk (i := 2) (d := 22) (v := (.int .i64 i)) rfl rfl (by kernel_rfl) (by kernel_rfl) (by kernel_rfl) (fun _ _ _ h => h) (.inl ⟨by rfl, by (intro wq hSw; (try dsimp only at hSw); go_simp; (try (first | rfl | omega)))⟩) hHeld ?_
      simp only [Act.put, List.setIfInBounds_toArray, List.set_cons_zero, List.set_cons_succ]
      refine wpAnyH_tk (i := 3) (d := 23) (v := (.pointer (some ⟨b0, o0 + i, none⟩))) rfl rfl (by kernel_rfl) (by kernel_rfl) (by kernel_rfl) (fun _ _ _ h => h) (.inl ⟨by rfl, by (intro wq hSw; (try dsimp only at hSw); go_simp; (try (first | rfl | omega)))⟩) hHeld ?_
      simp only [Act.put, List.setIfInBounds_toArray, List.set_cons_zero, List.set_cons_succ]
      refine wpAnyH_tk (i := 4) (d := 24) (v := (.slice r q cc)) rfl rfl (by kernel_rfl) (by kernel_rfl) (by kernel_rfl) (fun _ _ _ h => h) (.inl ⟨by rfl, by (intro wq hSw; (try dsimp only at hSw); go_simp; (try (first | rfl | omega)))⟩) hHeld ?_
      simp only [Act.put, List.setIfInBounds_toArray, List.set_cons_zero, List.set_cons_succ]
      refine wpAnyH_tk (i := 5) (d := 25) (v := (.int .i64 q)) rfl rfl (by kernel_rfl) (by kernel_rfl) (by kernel_rfl) (fun _ _ _ h => h) (.inl ⟨by rfl, by (intro wq hSw; (try dsimp only at hSw); go_simp; (try (first | rfl | omega)))⟩) hHeld ?_
      simp only [Act.put, List.setIfInBounds_toArray, List.set_cons_zero, List.set_cons_succ]
      refine wpAnyH_tk (i := 6) (d := 26) (v := (.slice (some ⟨g, 0, none⟩) N N)) rfl rfl (by kernel_rfl) (by kernel_rfl) (by kernel_rfl) (fun _ _ _ h => h) (.inl ⟨by rfl, by (intro wq hSw; (try dsimp only at hSw); go_simp; (try (first | rfl | omega)))⟩) hHeld ?_
      simp only [Act.put, List.setIfInBounds_toArray, List.set_cons_zero, List.set_cons_succ]
      refine wpAnyH_tk (i := 7) (d := 27) (v := (.slice (some ⟨b0, o0, none⟩) ws.length cap)) rfl rfl (by kernel_rfl) (by kernel_rfl) (by kernel_rfl) (fun _ _ _ h => h) (.inl ⟨by rfl, by (intro wq hSw; (try dsimp only at hSw); go_simp; (try (first | rfl | omega)))⟩) hHeld ?_
      simp only [Act.put, List.setIfInBounds_toArray, List.set_cons_zero, List.set_cons_succ]
      refine wpAnyH_tk (i := 8) (d := 28) (v := (.int .i64 i)) rfl rfl (by kernel_rfl) (by kernel_rfl) (by kernel_rfl) (fun _ _ _ h => h) (.inl ⟨by rfl, by (intro wq hSw; (try dsimp only at hSw); go_simp; (try (first | rfl | omega)))⟩) hHeld ?_
      simp only [Act.put, List.setIfInBounds_toArray, List.set_cons_zero, List.set_cons_succ]
      refine wpAnyH_tk (i := 9) (d := 29) (v := (.pointer (some ⟨b0, o0 + i, none⟩))) rfl rfl (by kernel_rfl) (by kernel_rfl) (by kernel_rfl) (fun _ _ _ h => h) (.inl ⟨by rfl, by (intro wq hSw; (try dsimp only at hSw); go_simp; (try (first | rfl | omega)))⟩) hHeld ?_
      simp only [Act.put, List.setIfInBounds_toArray, List.set_cons_zero, List.set_cons_succ]
      refine wpAnyH_tk (i := 10) (d := 30) (v := (.slice r q cc)) rfl rfl (by kernel_rfl) (by kernel_rfl) (by kernel_rfl) (fun _ _ _ h => h) (.inl ⟨by rfl, by (intro wq hSw; (try dsimp only at hSw); go_simp; (try (first | rfl | omega)))⟩) hHeld ?_
      simp only [Act.put, List.setIfInBounds_toArray, List.set_cons_zero, List.set_cons_succ]
      refine wpAnyH_tk (i := 11) (d := 31) (v := (.int .i64 q)) rfl rfl (by kernel_rfl) (by kernel_rfl) (by kernel_rfl) (fun _ _ _ h => h) (.inl ⟨by rfl, by (intro wq hSw; (try dsimp only at hSw); go_simp; (try (first | rfl | omega)))⟩) hHeld ?_
      simp only [Act.put, List.setIfInBounds_toArray, List.set_cons_zero, List.set_cons_succ]
      refine wpAnyH_tk (i := 12) (d := 32) (v := (.pointer (some ⟨g, q, none⟩))) rfl rfl (by kernel_rfl) (by kernel_rfl) (by kernel_rfl) (fun _ _ _ h => h) (.inl ⟨by rfl, by (intro wq hSw; (try dsimp only at hSw); go_simp; (try (first | rfl | omega)))⟩) hHeld ?_
      simp only [Act.put, List.setIfInBounds_toArray, List.set_cons_zero, List.set_cons_succ]
      refine wpAnyH_ready (rs := [13]) (by kernel_rfl) (by simp) ?_
      refine ready_tk (i := 13) rfl (by rfl) (fun K hK => ?_) AllReadyH.nil
      go_simp
      refine hK.out _ _ x1 (fun hHeld => ?_)
      clear hK K
      refine wpAnyH_tk (i := 14) (d := 34) (v := (.int .i64 ((Y : Int) + 1))) rfl rfl (by kernel_rfl) (by kernel_rfl) (by kernel_rfl) (fun _ _ _ h => h) (.inl ⟨by rfl, by (intro wq hSw; (try dsimp only at hSw); go_simp; (try (first | rfl | omega)))⟩) hHeld ?_
      simp only [Act.put, List.setIfInBounds_toArray, List.set_cons_zero, List.set_cons_succ]
      refine wpAnyH_tk (i := 15) (d := 35) (v := (.pointer (some ⟨g, q, none⟩))) rfl rfl (by kernel_rfl) (by kernel_rfl) (by kernel_rfl) (fun _ _ _ h => h) (.inl ⟨by rfl, by (intro wq hSw; (try dsimp only at hSw); go_simp; (try (first | rfl | omega)))⟩) hHeld ?_
      simp only [Act.put, List.setIfInBounds_toArray, List.set_cons_zero, List.set_cons_succ]
      refine wpAnyH_ready (rs := [16]) (by kernel_rfl) (by simp) ?_
      refine ready_tk (i := 16) rfl (by rfl) (fun K hK => ?_) AllReadyH.nil
      go_simp
      refine hK.out _ _ x2 (fun hHeld => ?_)
      clear hK K
      refine wpAnyH_done (by kernel_rfl) ?_ _
      clear hHeld
      go_wp2
      exact ⟨⟨i + 1, by omega, by go_num, HN1.out, HN2.out⟩, by simp [intOf]; omega⟩
    · have hie : i = ws.length := by omega
      have HOW : Hid (wr.ownsRow w.heap.size 3 1 (.slice (some ⟨g, 0, none⟩) N N) (lcL ls).length (ints (lcL ls))) := by
        have hlen : (lcL ls).length = N := by unfold lcL; rw [HKL.out, HN.out]; simp
        obtain ⟨cur, h1, h2, h3⟩ := HRI.out
        refine ⟨by rw [ints_length]; omega, .inr ⟨g, N, cur, by rw [hlen], by have := HGG.out; omega, h1, by omega, by have := HN.out; unfold maxLen; omega, by omega, ?_⟩⟩
        refine List.ext_getElem? fun t => ?_
        by_cases ht : t < N
        · rw [List.getElem?_take_of_lt (by omega), Array.getElem?_toList, h3 t (by omega), ints_get _ _ (by omega)]
          unfold lcL
          rw [getD_range (by rw [HKL.out]; have := HN.out; omega), hie, HLS.out]
        · rw [List.getElem?_eq_none (by simp; omega), List.getElem?_eq_none (by rw [ints_length]; omega)]
      have HBW : Hid (Below w.heap.size w wr) := ⟨HOI.out.os.trans HB1.out.os, HOI.out.tape.trans HB1.out.tape, HOI.out.output.trans HB1.out.output, by rw [HOI.out.size]; exact HB1.out.size, fun a ha => (HOI.out.block a (by have := HGG.out; omega)).trans (HB1.out.block a ha)⟩
      go_wp2
      go_ret
      exact ⟨_, rfl, HOW.out, HBW.out⟩

end Go.Proofs.Ytkgljfnbaoncbaa

/- The library's sort, as this program calls it. -/
namespace Go.Proofs
open Go.Shelf Go.RowKit Go.Lib Go.Sort
shelf_lay_g SlLaysF.n6 Slsf 6 at Try 45 as Try.sortM
end Go.Proofs

/- exact.Total, cmp.Or, root.byHeight. -/
namespace Go.Proofs.Ytkgljfnbaoncbaa
open Go.RowKit
attribute [local go_sem ↓] Go.wp_at_zero Go.wp_at_succ

set_option maxRecDepth 100000 in
set_option maxHeartbeats 400000 in
theorem totalX_any (B : Nat) (zs : List Int) (v : Value) (w : World) (hv : Sl B 3 w v (ints zs)) (hl : zs.length ≤ 1000) (hb : ∀ z ∈ zs, z.natAbs ≤ 1000000000) :
    Calls Try.prog 47 #[v] w fun e w' => e = .returned (.int .i64 zs.sum) ∧ w' = w := by
  obtain ⟨ao, cap, hvv, hlc, hcm⟩ := sl_open hv
  subst hvv
  have HV : Hid (Sl B 3 w (.slice ao zs.length cap) (ints zs)) := hv
  have HB : Hid (∀ k, k ≤ zs.length → -1000000000000 ≤ (zs.take k).sum ∧ (zs.take k).sum ≤ 1000000000000) := fun k hk => by
    have := sumL_bd k hk hb
    have : 1000000000 * k ≤ 1000000000 * 1000 := Nat.mul_le_mul_left _ (by omega)
    omega
  clear hv hb
  go_enter Try.func47, Try.ntmps47
  go_wp2
  go_loopw [3, 5, 8] (fun s _ i wr => ∃ k : Nat, k ≤ zs.length ∧ i = .int .i64 k ∧ s = .int .i64 (zs.take k).sum ∧ wr = w) (fun _ _ i _ => zs.length - (intOf i).toNat)
  case atStart => exact ⟨0, Nat.zero_le _, rfl, by simp, rfl⟩
  case round =>
    obtain ⟨k, hk, rfl, rfl, rfl⟩ := hrel
    by_cases hlt : k < zs.length
    · obtain ⟨b, o, cp, hs, hc1, hcc⟩ := sl_cell HV.out hlt
      simp only [Value.slice.injEq] at hs
      obtain ⟨rfl, _, rfl⟩ := hs
      have HS : Hid ((zs.take (k + 1)).sum = (zs.take k).sum + zs.getD k 0) := sumL_snoc zs k hlt
      have b1 := HB.out k hk
      have b2 := HB.out (k + 1) hlt
      rw [HS.out] at b2
      generalize zs.getD k 0 = z at *
      generalize (zs.take k).sum = S at *
      go_wp2
      go_roundw
      case rel => exact ⟨k + 1, by omega, by go_num, by rw [HS.out], trivial⟩
      case measure => simp [intOf]; omega
    · have hke : zs.take k = zs := List.take_of_length_le (by omega)
      rw [hke]
      go_wp2
      go_ret
      exact ⟨rfl, rfl⟩

/-- The first that is not 0. -/
def orL : List Int → Int
  | [] => 0
  | z :: l => if z = 0 then orL l else z

theorem orL_zero : ∀ {l : List Int}, (∀ z ∈ l, z = 0) → orL l = 0
  | [], _ => rfl
  | z :: l, h => by
    unfold orL
    rw [if_pos (h z (by simp))]
    exact orL_zero fun x hx => h x (by simp [hx])

theorem orL_at : ∀ {l : List Int} {k : Nat}, k < l.length → (∀ z ∈ l.take k, z = 0) → l.getD k 0 ≠ 0 → orL l = l.getD k 0
  | z :: l, 0, _, _, h => by
    unfold orL
    rw [if_neg (by simpa using h)]
    rfl
  | z :: l, k + 1, hk, h0, h => by
    unfold orL
    rw [if_pos (h0 z (by simp))]
    exact orL_at (k := k) (by simpa using hk) (fun x hx => h0 x (by simp [hx])) (by simpa using h)

set_option maxRecDepth 100000 in
set_option maxHeartbeats 400000 in
theorem orI_any (B : Nat) (zs : List Int) (v : Value) (w : World) (hv : Sl B 3 w v (ints zs)) :
    Calls Try.prog 59 #[v] w fun e w' => e = .returned (.int .i64 (orL zs)) ∧ w' = w := by
  obtain ⟨ao, cap, hvv, hlc, hcm⟩ := sl_open hv
  subst hvv
  have HV : Hid (Sl B 3 w (.slice ao zs.length cap) (ints zs)) := hv
  clear hv
  go_enter Try.func59, Try.ntmps59
  go_wp2
  go_loopw [5, 8] (fun _ i wr => ∃ k : Nat, k ≤ zs.length ∧ i = .int .i64 k ∧ (∀ z ∈ zs.take k, z = 0) ∧ wr = w) (fun _ i _ => zs.length - (intOf i).toNat)
  case atStart => exact ⟨0, Nat.zero_le _, rfl, by simp, rfl⟩
  case round =>
    obtain ⟨k, hk, rfl, hno, rfl⟩ := hrel
    have HN : Hid (∀ z ∈ zs.take k, z = 0) := hno
    clear hno
    by_cases hlt : k < zs.length
    · obtain ⟨b, o, cp, hs, hc1, hcc⟩ := sl_cell HV.out hlt
      simp only [Value.slice.injEq] at hs
      obtain ⟨rfl, _, rfl⟩ := hs
      have HS1 : Hid (zs.getD k 0 = 0 → ∀ z ∈ zs.take (k + 1), z = 0) := fun h z hz => by
        have e : zs.getD k 0 = zs[k] := by simp [hlt]
        rw [List.take_succ_eq_append_getElem hlt, List.mem_append, List.mem_singleton] at hz
        rcases hz with hz | hz
        · exact HN.out z hz
        · rw [hz, ← e, h]
      have HG : Hid (zs.getD k 0 ≠ 0 → orL zs = zs.getD k 0) := fun h => orL_at hlt HN.out h
      generalize zs.getD k 0 = z at *
      cases hf : (z == 0)
      · have hne : z ≠ 0 := by simpa using hf
        have HF : Hid (z ≠ 0) := hne
        clear hne
        go_wp2
        go_ret
        exact ⟨by rw [HG.out HF.out]; rfl, rfl⟩
      · have hf2 : z = 0 := by simpa using hf
        clear hf
        subst hf2
        go_wp2
        go_roundw
        case rel => exact ⟨k + 1, by omega, by go_num, HS1.out rfl, trivial⟩
        case measure => simp [intOf]; omega
    · have hke : zs.take k = zs := List.take_of_length_le (by omega)
      have HE : Hid (orL zs = 0) := orL_zero (by rw [← hke]; exact HN.out)
      go_wp2
      go_ret
      exact ⟨by rw [HE.out]; rfl, rfl⟩

/-- By heights, then in order. -/
def hcf (x y : List Int) : Int := orL [cmpI x.sum y.sum, cmpL x y]

theorem two_sl {B : Nat} {w : World} {a b : Int} : Sl B 3 (w.alloc (.cells #[.int .i64 a, .int .i64 b] 3)) (.slice (some ⟨w.heap.size, 0, none⟩) 2 2) (ints [a, b]) := by
  have hr : (w.alloc (.cells #[.int .i64 a, .int .i64 b] 3)).rowIs w.heap.size 3 2 (fun i => .int .i64 ([a, b].getD i 0)) := by
    refine ⟨#[.int .i64 a, .int .i64 b], heap_alloc_new w _, rfl, fun i hi => ?_⟩
    match i, hi with
    | 0, _ => rfl
    | 1, _ => rfl
  exact row_slT (n := 2) hr (fun i _ => rfl) rfl (Nat.le_refl _) (by decide)

set_option maxRecDepth 100000 in
set_option maxHeartbeats 400000 in
theorem byHeight_any (B : Nat) (x y : List Int) (u v : Value) (w : World) (hu : Sl B 3 w u (ints x)) (hv : Sl B 3 w v (ints y)) (hx : x.length ≤ 1000 ∧ ∀ z ∈ x, z.natAbs ≤ 1000000000) (hy : y.length ≤ 1000 ∧ ∀ z ∈ y, z.natAbs ≤ 1000000000) :
    Calls Try.prog 46 #[u, v] w fun e w' => e = .returned (.int .i64 (hcf x y)) ∧ w' = w.alloc (.cells #[.int .i64 (cmpI x.sum y.sum), .int .i64 (cmpL x y)] 3) := by
  have H1 := totalX_any B x u w hu hx.1 hx.2
  have H2 := totalX_any B y v w hv hy.1 hy.2
  have H3 := cmpI_any x.sum y.sum w
  have H4 := compare_any B x y u v w hu hv
  have H5 := orI_any B [cmpI x.sum y.sum, cmpL x y] _ _ (two_sl (w := w))
  have HH : Hid (hcf x y = orL [cmpI x.sum y.sum, cmpL x y]) := rfl
  obtain ⟨ao, cap, hvv, hlc, hcm⟩ := sl_open hu
  subst hvv
  obtain ⟨bo, cb, hbb, hlb, hcb⟩ := sl_open hv
  subst hbb
  clear hu hv hx hy
  generalize cmpL x y = cl at *
  generalize cmpI x.sum y.sum = ci at *
  generalize x.sum = sx at *
  generalize y.sum = sy at *
  go_enter Try.func46, Try.ntmps46
  go_wp2_with fail
  refine H1.mono ?_
  rintro e w1 ⟨rfl, rfl⟩
  go_wp2_with fail
  refine H2.mono ?_
  rintro e w2 ⟨rfl, rfl⟩
  go_wp2_with fail
  refine H3.mono ?_
  rintro e w3 ⟨rfl, rfl⟩
  go_wp2_with fail
  refine H4.mono ?_
  rintro e w4 ⟨rfl, rfl⟩
  go_wp2_with fail
  refine H5.mono ?_
  rintro e w5 ⟨rfl, rfl⟩
  go_wp2
  go_ret
  exact ⟨by rw [HH.out]; rfl, rfl⟩

theorem cmpI_lt {a b : Int} : cmpI a b < 0 ↔ a < b := by
  unfold cmpI
  by_cases h1 : a < b
  · rw [if_pos h1]; exact ⟨fun _ => h1, fun _ => by decide⟩
  · rw [if_neg h1]
    by_cases h2 : b < a
    · rw [if_pos h2]; exact ⟨fun h => absurd h (by decide), fun h => absurd h h1⟩
    · rw [if_neg h2]; exact ⟨fun h => absurd h (by decide), fun h => absurd h h1⟩

theorem cmpI_zero {a b : Int} : cmpI a b = 0 ↔ a = b := by
  unfold cmpI
  by_cases h1 : a < b
  · rw [if_pos h1]; exact ⟨fun h => absurd h (by decide), fun h => by omega⟩
  · rw [if_neg h1]
    by_cases h2 : b < a
    · rw [if_pos h2]; exact ⟨fun h => absurd h (by decide), fun h => by omega⟩
    · rw [if_neg h2]; exact ⟨fun _ => by omega, fun _ => rfl⟩

theorem hcf_lt (x y : List Int) : hcf x y < 0 ↔ x.sum < y.sum ∨ (x.sum = y.sum ∧ cmpL x y < 0) := by
  unfold hcf orL
  by_cases h : cmpI x.sum y.sum = 0
  · rw [if_pos h]
    have e := cmpI_zero.1 h
    have e2 : orL [cmpL x y] = cmpL x y := by
      unfold orL
      by_cases h2 : cmpL x y = 0
      · rw [if_pos h2, h2]; rfl
      · rw [if_neg h2]
    rw [e2]
    constructor
    · intro h3; exact Or.inr ⟨e, h3⟩
    · rintro (h3 | ⟨_, h3⟩)
      · omega
      · exact h3
  · rw [if_neg h, cmpI_lt]
    have h2 : x.sum ≠ y.sum := fun e => h (cmpI_zero.2 e)
    constructor
    · exact Or.inl
    · rintro (h3 | ⟨h3, _⟩)
      · exact h3
      · exact absurd h3 h2

end Go.Proofs.Ytkgljfnbaoncbaa
