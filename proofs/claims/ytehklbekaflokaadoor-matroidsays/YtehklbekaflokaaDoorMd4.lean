/- facetref.DualOf. -/
import Derived.Test.YtehklbekaflokaaDoorMs0
import Derived.Test.YtehklbekaflokaaDoorRd2
import Derived.Test.YtehklbekaflokaaDoorAp1
import Derived.Test.YtehklbekaflokaaDoorTk1
namespace Go.Proofs.YtehklbekaflokaaDoor
open Go.RowKit
attribute [local go_sem ↓] Go.wp_at_zero Go.wp_at_succ

/-- What a basis leaves. -/
def leaI (tn : Nat) (b : Int) : Int := ((tn - 1 - b.toNat : Nat) : Int)
def duL (tn : Nat) (bs : List Int) (k : Nat) : List Int := (bs.take k).map (leaI tn)

theorem duL_succ {tn : Nat} {bs : List Int} {k : Nat} (h : k < bs.length) : duL tn bs (k + 1) = duL tn bs k ++ [leaI tn (bs.getD k 0)] := by
  unfold duL
  rw [List.take_succ_eq_append_getElem h, List.map_append]
  have e : bs.getD k 0 = bs[k] := by simp [h]
  rw [e]
  rfl

theorem duL_len (tn : Nat) (bs : List Int) (k : Nat) : (duL tn bs k).length ≤ bs.length := by
  unfold duL
  rw [List.length_map, List.length_take]; omega

/-- Bases below a bound. -/
def Bn (tn : Nat) (bs : List Int) : Prop := ∀ b ∈ bs, 0 ≤ b ∧ b < (tn : Int)

set_option maxRecDepth 100000 in
set_option maxHeartbeats 3200000 in
theorem dualD_any (n : Nat) (bs : List Int) (v : Value) (w : World) (hv : Sl w.heap.size 3 w v (ints bs)) (hl : bs.length ≤ 1000) (h8 : Bn (2 ^ n) bs) (hn : n ≤ 8) :
    Calls Tryd.prog 9 #[.agg #[.int .i64 n, v]] w fun e w' => ∃ u out, e = .returned (.agg #[.int .i64 n, u]) ∧ Sl 0 3 w' u (ints out) ∧ Ris out ∧ (∀ x, x ∈ out ↔ x ∈ duL (2 ^ n) bs bs.length) ∧ Below w.heap.size w w' := by
  obtain ⟨i3, hi3, hz30, hz31, hz32⟩ := info_parts Tryd.info3
  obtain ⟨ao, cap, hvv, hlc, hcm⟩ := sl_open hv
  subst hvv
  obtain ⟨tn, htn⟩ : ∃ tn : Nat, tn = 2 ^ n := ⟨_, rfl⟩
  have hti : (2 : Int) ^ n = (tn : Int) := by rw [htn]; simp
  have htl : tn ≤ 256 := by rw [htn]; exact show 2 ^ n ≤ 2 ^ 8 from Nat.pow_le_pow_right (by omega) hn
  have ht1 : 1 ≤ tn := by rw [htn]; exact Nat.one_le_two_pow
  have hwt : IntKind.i64.wrap (tn : Int) = (tn : Int) := wrap_small (by omega)
  have hwp : IntKind.i64.wrap ((2 : Int) ^ n) = (tn : Int) := by rw [hti]; exact hwt
  have hw1 : IntKind.i64.wrap ((tn : Int) - 1) = ((tn - 1 : Nat) : Int) := by rw [show (tn : Int) - 1 = ((tn - 1 : Nat) : Int) by omega]; exact wrap_small (by omega)
  rw [← htn] at h8 ⊢
  obtain ⟨w0, hw0⟩ : ∃ w0, w0 = w.alloc (.cells #[.int .i64 n, .slice ao bs.length cap] 24) := ⟨_, rfl⟩
  obtain ⟨W, hW⟩ : ∃ W, W = w0.alloc (.cells #[.int .i64 0, .slice none 0 0] 24) := ⟨_, rfl⟩
  have hs0 : w0.heap.size = w.heap.size + 1 := by rw [hw0]; simp
  have hsW : W.heap.size = w.heap.size + 2 := by rw [hW]; simp [hs0]
  have hb0 : Below w.heap.size w w0 := by rw [hw0]; exact (Below.refl _ _).alloc (Nat.le_refl _) _
  have HBA : Hid (Below w.heap.size w W) := by rw [hW]; exact hb0.alloc (by omega) _
  have a0 : W.heap[w.heap.size]? = some (.cells #[.int .i64 n, .slice ao bs.length cap] 24 (0, 0)) := by
    rw [hW]; exact (Below.heap_alloc _ _ _ (by omega)).trans (by rw [hw0]; exact heap_alloc_new w _)
  have a1 : W.heap[w.heap.size + 1]? = some (.cells #[.int .i64 0, .slice none 0 0] 24 (0, 0)) := by
    rw [hW, ← hs0]; exact heap_alloc_new w0 _
  have HC : Hid (∀ W', Below W.heap.size W W' → W'.heap[w.heap.size]? = some (.cells #[.int .i64 n, .slice ao bs.length cap] 24 (0, 0)) ∧ W'.heap[w.heap.size + 1]? = some (.cells #[.int .i64 0, .slice none 0 0] 24 (0, 0)) ∧ Sl w.heap.size 3 W' (.slice ao bs.length cap) (ints bs) ∧ Below w.heap.size w W') := fun W' h =>
    have hb : Below w.heap.size w W' := HBA.out.trans (h.mono HBA.out.size)
    ⟨(h.block _ (by omega)).trans a0, (h.block _ (by omega)).trans a1, hv.below hb (Nat.le_refl _), hb⟩
  have HFIN : Hid (∀ (W' : World) (z : Int) (u : Value) (xs : List Int), W'.heap[w.heap.size + 1]? = some (.cells #[.int .i64 0, .slice none 0 0] 24 (0, 0)) → Below w.heap.size w W' → Sl 0 3 W' u (ints xs) →
      Sl 0 3 ((W'.setCell ⟨w.heap.size + 1, 0, none⟩ (.int .i64 z)).setCell ⟨w.heap.size + 1, 1, none⟩ u) u (ints xs) ∧ Below w.heap.size w ((W'.setCell ⟨w.heap.size + 1, 0, none⟩ (.int .i64 z)).setCell ⟨w.heap.size + 1, 1, none⟩ u)) := fun W' z u xs hr hb hs => by
    refine ⟨hs.move fun b hb ht => ?_, (hb.setCell (by simp) _).setCell (by simp) _⟩
    rcases ht with ht | ⟨cur, ht⟩
    · omega
    · have hne : b ≠ w.heap.size + 1 := fun e => by
        rw [e, hr] at ht
        simp at ht
      exact ⟨(Below.heap_setCell _ _ _ _ (by show b ≠ w.heap.size + 1; exact hne)).trans (Below.heap_setCell _ _ _ _ (by show b ≠ w.heap.size + 1; exact hne)), .inr ⟨cur, ht⟩⟩
  have HB8 : Hid (Bn tn bs) := h8
  have HWW : Hid (W = (w.alloc (.cells #[.int .i64 n, .slice ao bs.length cap] 24)).alloc (.cells #[.int .i64 0, .slice none 0 0] 24)) := by rw [hW, hw0]; rfl
  have HSW : Hid (W.heap.size = w.heap.size + 2) := hsW
  have HCC : Hid (∀ W', Below W.heap.size W W' → W'.cell? ⟨w.heap.size, 0, none⟩ = some (.int .i64 n) ∧ W'.cell? ⟨w.heap.size, 1, none⟩ = some (.slice ao bs.length cap)) := fun W' h => by
    have := (HC.out W' h).1
    exact ⟨by simp [World.cell?, this], by simp [World.cell?, this]⟩
  clear hv h8 hb0 a0 a1 hW hw0 hs0 hsW htn
  go_enter Tryd.func9, Tryd.ntmps9
  go_wp2
  rw [← HWW.out]
  clear HWW
  go_loopw [3, 4] (fun av x wr => ∃ k : Nat, k ≤ bs.length ∧ x = .int .i64 k ∧ wr.ownsRow W.heap.size 3 1 av (duL tn bs k).length (ints (duL tn bs k)) ∧ Below W.heap.size W wr) (fun _ x _ => bs.length - (intOf x).toNat)
  case atStart => exact ⟨0, Nat.zero_le _, rfl, World.ownsRow_nil _ _ _ _, Below.refl _ _⟩
  case round =>
    obtain ⟨k, hk, rfl, ho, hbr⟩ := hrel
    have HO : Hid (wr.ownsRow W.heap.size 3 1 u3 (duL tn bs k).length (ints (duL tn bs k))) := ho
    have HBR : Hid (Below W.heap.size W wr) := hbr
    have hsz : W.heap.size ≤ wr.heap.size := hbr.size
    have hal := duL_len tn bs k
    obtain ⟨r0, r1, hsl, hbw⟩ := HC.out wr hbr
    obtain ⟨d0, d1⟩ := HCC.out wr hbr
    clear ho hbr
    by_cases hlt : k < bs.length
    · obtain ⟨gb, gq, gcc, hs, _, hcc⟩ := sl_cell hsl hlt
      simp only [Value.slice.injEq] at hs
      obtain ⟨rfl, -, rfl⟩ := hs
      obtain ⟨hx0, hx8⟩ := HB8.out (bs.getD k 0) (by simp [hlt])
      obtain ⟨y, hy⟩ : ∃ y : Nat, bs.getD k 0 = (y : Int) := ⟨(bs.getD k 0).toNat, by omega⟩
      have hy8 : y < tn := by omega
      have HAS : Hid (duL tn bs (k + 1) = duL tn bs k ++ [((tn - 1 - y : Nat) : Int)]) := by
        show _ = _
        rw [duL_succ hlt, hy]; rfl
      have HY : Hid (bs.getD k 0 = (y : Int)) := hy
      rw [hy] at hcc
      have kI : (k : Int) < (bs.length : Int) := by omega
      have kI0 : (0 : Int) ≤ (k : Int) := by omega
      obtain ⟨z, hz⟩ : ∃ z : Nat, z = tn - 1 - y := ⟨_, rfl⟩
      have hw2 : IntKind.i64.wrap (((tn - 1 : Nat) : Int) - (y : Int)) = (z : Int) := by rw [show ((tn - 1 : Nat) : Int) - (y : Int) = (z : Int) by omega]; exact wrap_small (by omega)
      rw [← hz] at HAS
      obtain ⟨tm, htm⟩ : ∃ tm : Nat, tm = tn - 1 := ⟨_, rfl⟩
      rw [← htm] at hw2
      have hw1' : IntKind.i64.wrap ((tn : Int) - 1) = (tm : Int) := by rw [htm]; exact hw1
      have hwp' : IntKind.i64.wrap ((2 : Int) ^ n) = (tn : Int) := hwp
      have htm8 : tm ≤ 256 := by omega
      have hz8 : z ≤ 256 := by omega
      clear hx0 hx8 hy hsl r0 r1 hbw hz htm hw1 hwp
      generalize duL tn bs k = A at *
      obtain ⟨xo, xc, hxv⟩ := owns_form HO.out
      subst hxv
      have HS3 : Hid (∀ W', Below W.heap.size W W' → W'.cell? ⟨w.heap.size, 0, none⟩ = some (.int .i64 n) ∧ W'.cell? ⟨w.heap.size, 1, none⟩ = some (.slice (some ⟨gb, gq, none⟩) bs.length cap) ∧ W'.cell? ⟨gb, gq + k, none⟩ = some (.int .i64 y)) := fun W' h => by
        obtain ⟨g0, g1⟩ := HCC.out W' h
        obtain ⟨-, -, hsl5, -⟩ := HC.out W' h
        refine ⟨g0, g1, ?_⟩
        obtain ⟨g2, q2, c2, hs2, _, hc2⟩ := sl_cell hsl5 hlt
        simp only [Value.slice.injEq, Option.some.injEq, Addr.mk.injEq, and_true] at hs2
        obtain ⟨⟨rfl, rfl⟩, -, -⟩ := hs2
        rw [HY.out] at hc2
        exact hc2
      have HOD : Hid ((wr.drew).ownsRow W.heap.size 3 1 (.slice xo A.length xc) A.length (ints A)) := owns_below HO.out (Below.drew (Below.refl _ _)) (Nat.le_refl _)
      have HBD : Hid (Below W.heap.size W wr.drew) := Below.drew HBR.out
      have HOA : Hid (((wr.drew).alloc (.cells #[.int .i64 (z : Int)] 3)).ownsRow W.heap.size 3 1 (.slice xo A.length xc) A.length (ints A)) := HOD.out.alloc _
      have HSZ1 : Hid (W.heap.size ≤ ((wr.drew).alloc (.cells #[.int .i64 (z : Int)] 3)).heap.size) := by show _ ≤ _; simp; omega
      have HBA2 : Hid (Below W.heap.size W ((wr.drew).alloc (.cells #[.int .i64 (z : Int)] 3))) := HBD.out.alloc HBD.out.size _
      have hdz : W.heap.size ≤ (wr.drew).heap.size := HBD.out.size
      clear HO HBR
      go_wp2
      refine wp_region_held_drew (S := fun w' => w'.cell? ⟨w.heap.size, 0, none⟩ = some (.int .i64 n) ∧ w'.cell? ⟨w.heap.size, 1, none⟩ = some (.slice (some ⟨gb, gq, none⟩) bs.length cap) ∧ w'.cell? ⟨gb, gq + k, none⟩ = some (.int .i64 y)) (by kernel_rfl) ⟨d0, d1, hcc⟩ (fun hHeld => ?_)
      refine wpAnyH_tk (i := 0) (d := 12) (v := (.slice xo A.length xc)) rfl rfl (by kernel_rfl) (by kernel_rfl) (by kernel_rfl) (fun _ _ _ h => h) (.inl ⟨by rfl, by (intro wq hSw; (try dsimp only at hSw); go_simp)⟩) hHeld ?_
      simp only [Act.put, List.setIfInBounds_toArray, List.set_cons_zero, List.set_cons_succ]
      refine wpAnyH_tk (i := 1) (d := 13) (v := (.pointer (some ⟨w.heap.size, 0, none⟩))) rfl rfl (by kernel_rfl) (by kernel_rfl) (by kernel_rfl) (fun _ _ _ h => h) (.inl ⟨by rfl, by (intro wq hSw; (try dsimp only at hSw); go_simp)⟩) hHeld ?_
      simp only [Act.put, List.setIfInBounds_toArray, List.set_cons_zero, List.set_cons_succ]
      refine wpAnyH_tk (i := 2) (d := 14) (v := (.int .i64 n)) rfl rfl (by kernel_rfl) (by kernel_rfl) (by kernel_rfl) (fun _ _ _ h => h) (.inl ⟨by rfl, by (intro wq hSw; (try dsimp only at hSw); go_simp)⟩) hHeld ?_
      simp only [Act.put, List.setIfInBounds_toArray, List.set_cons_zero, List.set_cons_succ]
      refine wpAnyH_tk (i := 3) (d := 15) (v := (.int .i64 tn)) rfl rfl (by kernel_rfl) (by kernel_rfl) (by kernel_rfl) (fun _ _ _ h => h) (.inl ⟨by rfl, by (intro wq hSw; (try dsimp only at hSw); go_simp)⟩) hHeld ?_
      simp only [Act.put, List.setIfInBounds_toArray, List.set_cons_zero, List.set_cons_succ]
      refine wpAnyH_tk (i := 4) (d := 16) (v := (.int .i64 tm)) rfl rfl (by kernel_rfl) (by kernel_rfl) (by kernel_rfl) (fun _ _ _ h => h) (.inl ⟨by rfl, by (intro wq hSw; (try dsimp only at hSw); go_simp)⟩) hHeld ?_
      simp only [Act.put, List.setIfInBounds_toArray, List.set_cons_zero, List.set_cons_succ]
      refine wpAnyH_tk (i := 5) (d := 17) (v := (.pointer (some ⟨w.heap.size, 1, none⟩))) rfl rfl (by kernel_rfl) (by kernel_rfl) (by kernel_rfl) (fun _ _ _ h => h) (.inl ⟨by rfl, by (intro wq hSw; (try dsimp only at hSw); go_simp)⟩) hHeld ?_
      simp only [Act.put, List.setIfInBounds_toArray, List.set_cons_zero, List.set_cons_succ]
      refine wpAnyH_tk (i := 6) (d := 18) (v := (.slice (some ⟨gb, gq, none⟩) bs.length cap)) rfl rfl (by kernel_rfl) (by kernel_rfl) (by kernel_rfl) (fun _ _ _ h => h) (.inl ⟨by rfl, by (intro wq hSw; (try dsimp only at hSw); go_simp)⟩) hHeld ?_
      simp only [Act.put, List.setIfInBounds_toArray, List.set_cons_zero, List.set_cons_succ]
      refine wpAnyH_tk (i := 7) (d := 19) (v := (.int .i64 k)) rfl rfl (by kernel_rfl) (by kernel_rfl) (by kernel_rfl) (fun _ _ _ h => h) (.inl ⟨by rfl, by (intro wq hSw; (try dsimp only at hSw); go_simp)⟩) hHeld ?_
      simp only [Act.put, List.setIfInBounds_toArray, List.set_cons_zero, List.set_cons_succ]
      refine wpAnyH_tk (i := 8) (d := 20) (v := (.pointer (some ⟨gb, gq + k, none⟩))) rfl rfl (by kernel_rfl) (by kernel_rfl) (by kernel_rfl) (fun _ _ _ h => h) (.inl ⟨by rfl, by (intro wq hSw; (try dsimp only at hSw); go_simp)⟩) hHeld ?_
      simp only [Act.put, List.setIfInBounds_toArray, List.set_cons_zero, List.set_cons_succ]
      refine wpAnyH_tk (i := 9) (d := 21) (v := (.int .i64 y)) rfl rfl (by kernel_rfl) (by kernel_rfl) (by kernel_rfl) (fun _ _ _ h => h) (.inl ⟨by rfl, by (intro wq hSw; (try dsimp only at hSw); go_simp)⟩) hHeld ?_
      simp only [Act.put, List.setIfInBounds_toArray, List.set_cons_zero, List.set_cons_succ]
      refine wpAnyH_tk (i := 10) (d := 22) (v := (.int .i64 z)) rfl rfl (by kernel_rfl) (by kernel_rfl) (by kernel_rfl) (fun _ _ _ h => h) (.inl ⟨by rfl, by (intro wq hSw; (try dsimp only at hSw); go_simp)⟩) hHeld ?_
      simp only [Act.put, List.setIfInBounds_toArray, List.set_cons_zero, List.set_cons_succ]
      refine wpAnyH_ready (rs := [11]) (by kernel_rfl) (by simp) ?_
      refine ready_tk (i := 11) rfl (by rfl) (fun K hK => ?_) AllReadyH.nil
      go_simp
      refine hK.out _ _ (HS3.out _ HBA2.out) (fun hHeld => ?_)
      clear hK K
      refine wpAnyH_ready (rs := [12]) (by kernel_rfl) (by simp) ?_
      refine ready_tk (i := 12) rfl (by rfl) (fun K hK => ?_) AllReadyH.nil
      refine op_append_ownA (.tmp 12) (.tmp 23) 22 (by rfl) W.heap.size 3 i3 (.int .i64 0) 1 8 Tryd.underlying22 hi3 hz30 hz31 hz32 rfl (by decide) _ _ _ (by rfl) HOA.out ⟨wr.heap.size, 0, none⟩ 1 1 [.int .i64 z] (by rfl) rfl (one_new _ _ _) (one_int _) (by unfold maxLen; omega) (by omega) HSZ1.out ?_
      intro v' w5 ho5 hg5 _
      have R := owns_push (z := (z : Int)) (N := A.length + 1) hdz (l := A) HOD.out HBD.out ho5 hg5 rfl
      have R1 : Hid (w5.ownsRow W.heap.size 3 1 v' (duL tn bs (k + 1)).length (ints (duL tn bs (k + 1)))) := by
        have h := R.1
        show World.ownsRow _ _ _ _ _ _ _
        rw [HAS.out, List.length_append, List.length_singleton]
        exact h
      have R2 : Hid (Below W.heap.size W w5) := R.2
      refine hK.out _ _ (HS3.out w5 R.2) (fun hHeld => ?_)
      clear hK K R hg5
      simp only [Act.put, List.setIfInBounds_toArray, List.set_cons_zero, List.set_cons_succ]
      obtain ⟨vo, vc, hvv5⟩ := owns_form ho5
      subst hvv5
      clear ho5
      refine wpAnyH_tk (i := 13) (d := 3) (v := (.slice vo (A.length + 1) vc)) rfl rfl (by kernel_rfl) (by kernel_rfl) (by kernel_rfl) (fun _ _ _ h => h) (.inl ⟨by rfl, by (intro wq hSw; (try dsimp only at hSw); go_simp)⟩) hHeld ?_
      simp only [Act.put, List.setIfInBounds_toArray, List.set_cons_zero, List.set_cons_succ]
      refine wpAnyH_done (by kernel_rfl) ?_ _
      clear hHeld
      go_wp2
      exact ⟨⟨k + 1, by omega, by go_num, R1.out, R2.out⟩, by simp [intOf]; omega⟩
    · have hke : k = bs.length := by omega
      subst hke
      clear r0 r1 hbw hsl hlt
      generalize hA : duL tn bs bs.length = A at *
      have HAE : Hid (duL tn bs bs.length = A) := hA
      clear hA
      obtain ⟨xo, xc, hxv⟩ := owns_form HO.out
      subst hxv
      have HRI : Hid (Calls Tryd.prog 30 #[.slice xo A.length xc] wr.drew fun e w' => ∃ uo uc, ∃ out : List Int, e = .returned (.slice uo out.length uc) ∧ Sl 0 3 w' (.slice uo out.length uc) (ints out) ∧ Ris out ∧ (∀ x, x ∈ out ↔ x ∈ A) ∧ Below W.heap.size W w') := by
        have hs2 : Sl wr.drew.heap.size 3 wr.drew (.slice xo A.length xc) (ints A) := ((Sl.own (B := 0) HO.out).drewN 1).more (Nat.zero_le _)
        refine (rising_any A _ wr.drew hs2 (by omega)).mono ?_
        rintro e w' ⟨u, out, rfl, h1, h2, h3, _, h5⟩
        obtain ⟨uo, uc, rfl⟩ := owns_form h1
        exact ⟨uo, uc, out, rfl, Sl.own h1, h2, h3, HBR.out.trans ((show Below wr.heap.size wr w' from ⟨h5.os, h5.tape, h5.output, h5.size, h5.block⟩).mono HBR.out.size)⟩
      clear HO
      go_wp2
      refine wp_region_held_drew (S := fun w' => w'.cell? ⟨w.heap.size, 0, none⟩ = some (.int .i64 n)) (by kernel_rfl) d0 (fun hHeld => ?_)
      refine wpAnyH_tk (i := 0) (d := 25) (v := (.pointer (some ⟨w.heap.size, 0, none⟩))) rfl rfl (by kernel_rfl) (by kernel_rfl) (by kernel_rfl) (fun _ _ _ h => h) (.inl ⟨by rfl, by (intro wq hSw; (try dsimp only at hSw); go_simp)⟩) hHeld ?_
      simp only [Act.put, List.setIfInBounds_toArray, List.set_cons_zero, List.set_cons_succ]
      refine wpAnyH_tk (i := 1) (d := 26) (v := (.int .i64 n)) rfl rfl (by kernel_rfl) (by kernel_rfl) (by kernel_rfl) (fun _ _ _ h => h) (.inl ⟨by rfl, by (intro wq hSw; (try dsimp only at hSw); go_simp)⟩) hHeld ?_
      simp only [Act.put, List.setIfInBounds_toArray, List.set_cons_zero, List.set_cons_succ]
      refine wpAnyH_tk (i := 2) (d := 27) (v := (.slice xo A.length xc)) rfl rfl (by kernel_rfl) (by kernel_rfl) (by kernel_rfl) (fun _ _ _ h => h) (.inl ⟨by rfl, by (intro wq hSw; (try dsimp only at hSw); go_simp)⟩) hHeld ?_
      simp only [Act.put, List.setIfInBounds_toArray, List.set_cons_zero, List.set_cons_succ]
      refine wpAnyH_ready (rs := [3]) (by kernel_rfl) (by simp) ?_
      refine ready_tk (i := 3) rfl (by rfl) (fun K hK => ?_) AllReadyH.nil
      go_simp
      refine HRI.out.mono ?_
      rintro e w4 ⟨uo, uc, out, rfl, hs4, hris, hmem, hb4⟩
      obtain ⟨r0, r1, -, hbw⟩ := HC.out w4 hb4
      obtain ⟨k1, k2⟩ := HFIN.out w4 (n : Int) (.slice uo out.length uc) out r1 hbw hs4
      have K1 : Hid _ := k1
      have K2 : Hid _ := k2
      have x0 : w4.cell? ⟨w.heap.size + 1, 0, none⟩ = some (.int .i64 0) := by simp [World.cell?, r1]
      have x1 : w4.cell? ⟨w.heap.size + 1, 1, none⟩ = some (.slice none 0 0) := by simp [World.cell?, r1]
      have y0 : w4.frozen? ⟨w.heap.size + 1, 0, none⟩ = false := by simp [World.frozen?, r1]
      have y1 : w4.frozen? ⟨w.heap.size + 1, 1, none⟩ = false := by simp [World.frozen?, r1]
      have HOUT : Hid (Ris out ∧ (∀ x, x ∈ out ↔ x ∈ duL tn bs bs.length)) := ⟨hris, fun x => by rw [HAE.out]; exact hmem x⟩
      have HCE : Hid (((w4.setCell ⟨w.heap.size + 1, 0, none⟩ (.int .i64 n)).setCell ⟨w.heap.size + 1, 1, none⟩ (.slice uo out.length uc)).cell? ⟨w.heap.size, 0, none⟩ = some (.int .i64 n)) := by
        show _ = _
        have : ((w4.setCell ⟨w.heap.size + 1, 0, none⟩ (.int .i64 n)).setCell ⟨w.heap.size + 1, 1, none⟩ (.slice uo out.length uc)).heap[w.heap.size]? = w4.heap[w.heap.size]? := (Below.heap_setCell _ _ _ _ (by show w.heap.size ≠ w.heap.size + 1; omega)).trans (Below.heap_setCell _ _ _ _ (by show w.heap.size ≠ w.heap.size + 1; omega))
        simp [World.cell?, this, r0]
      refine hK.out _ _ (HCC.out w4 hb4).1 (fun hHeld => ?_)
      clear hK K hs4 hris hmem hb4 r0 r1 hbw k1 k2
      refine wpAnyH_tk (i := 4) (d := 29) (v := (.agg #[.int .i64 n, .slice uo out.length uc])) rfl rfl (by kernel_rfl) (by kernel_rfl) (by kernel_rfl) (fun _ _ _ h => h) (.inl ⟨by rfl, by (intro wq hSw; (try dsimp only at hSw); go_simp)⟩) hHeld ?_
      simp only [Act.put, List.setIfInBounds_toArray, List.set_cons_zero, List.set_cons_succ]
      refine wpAnyH_ready (rs := [5]) (by kernel_rfl) (by simp) ?_
      refine ready_tk (i := 5) rfl (by rfl) (fun K hK => ?_) AllReadyH.nil
      go_simp
      refine hK.out _ _ HCE.out (fun hHeld => ?_)
      clear hK K
      refine wpAnyH_done (by kernel_rfl) ?_ _
      clear hHeld
      go_wp2
      exact bodyPost_ret (v := .agg #[.int .i64 n, .slice uo out.length uc]) (by simp [results, Tryd.results9, go_sem, *]) rfl ⟨_, out, rfl, K1.out, HOUT.out.1, HOUT.out.2, K2.out⟩

end Go.Proofs.YtehklbekaflokaaDoor
