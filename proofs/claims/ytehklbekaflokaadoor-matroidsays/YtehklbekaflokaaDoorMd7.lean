/- facetref.MinorOf. -/
import Derived.Test.YtehklbekaflokaaDoorMd5
import Derived.Test.YtehklbekaflokaaDoorTk1
namespace Go.Proofs.YtehklbekaflokaaDoor
open Go.RowKit
attribute [local go_sem ↓] Go.wp_at_zero Go.wp_at_succ

def wiP (wi : Bool) (i : Nat) (b : Int) : Bool := b.toNat.testBit i == wi

theorem bitD1 (s k : Nat) : (((s : Int) / 2 ^ k).tmod 2 == 1) = s.testBit k := by
  have eq0 : (s : Int) / 2 ^ k = ((s / 2 ^ k : Nat) : Int) := by simp
  rw [eq0, Nat.testBit_eq_decide_div_mod_eq]
  generalize s / 2 ^ k = q
  have h2 : ((q : Int)).tmod 2 = ((q % 2 : Nat) : Int) := by rw [Int.tmod_eq_emod_of_nonneg (by omega)]; omega
  rw [h2]
  rcases Nat.mod_two_eq_zero_or_one q with h | h <;> rw [h] <;> rfl

theorem mnL_len (bs : List Int) (i : Nat) (p : Int → Bool) : (mnL bs i p).length ≤ bs.length := by
  unfold mnL
  split
  · exact alL_len _ _ _
  · exact kpL_len _ _ _ _

set_option maxRecDepth 100000 in
set_option maxHeartbeats 3200000 in
theorem minor_any (n : Nat) (bs : List Int) (I : Nat) (wi : Bool) (v : Value) (w : World) (hv : Sl w.heap.size 3 w v (ints bs)) (hl : bs.length ≤ 1000) (h8 : B8 bs) (hn : n ≤ 8) (hI : I < n) :
    Calls Tryd.prog 11 #[.agg #[.int .i64 n, v], .int .i64 I, .bool wi] w fun e w' => ∃ u out, e = .returned (.agg #[.int .i64 ((n - 1 : Nat) : Int), u]) ∧ Sl 0 3 w' u (ints out) ∧ Ris out ∧ (∀ x, x ∈ out ↔ x ∈ mnL bs I (wiP wi I)) ∧ Below w.heap.size w w' := by
  obtain ⟨i3, hi3, hz30, hz31, hz32⟩ := info_parts Tryd.info3
  obtain ⟨ao, cap, hvv, hlc, hcm⟩ := sl_open hv
  subst hvv
  obtain ⟨w0, hw0⟩ : ∃ w0, w0 = w.alloc (.cells #[.int .i64 n, .slice ao bs.length cap] 24) := ⟨_, rfl⟩
  obtain ⟨W, hW⟩ : ∃ W, W = w0.alloc (.cells #[.int .i64 0, .slice none 0 0] 24) := ⟨_, rfl⟩
  have hs0 : w0.heap.size = w.heap.size + 1 := by rw [hw0]; simp
  have hsW : W.heap.size = w.heap.size + 2 := by rw [hW]; simp [hs0]
  have hb0 : Below w.heap.size w w0 := by rw [hw0]; exact (Below.refl _ _).alloc (Nat.le_refl _) _
  have HBA : Hid (Below w.heap.size w W) := by rw [hW]; exact hb0.alloc (by omega) _
  have a0 : W.heap[w.heap.size]? = some (.cells #[.int .i64 n, .slice ao bs.length cap] 24 (0, 0)) := by
    rw [hW]; exact (Below.heap_alloc _ _ _ (by omega)).trans (by rw [hw0]; exact heap_alloc_new w _)
  have a1 : W.heap[w.heap.size + 1]? = some (.cells #[.int .i64 0, .slice none 0 0] 24 (0, 0)) := by
    rw [hW, ← hs0]; exact heap_alloc_new w0 _
  have HC : Hid (∀ W', Below W.heap.size W W' → W'.heap[w.heap.size]? = some (.cells #[.int .i64 n, .slice ao bs.length cap] 24 (0, 0)) ∧ W'.heap[w.heap.size + 1]? = some (.cells #[.int .i64 0, .slice none 0 0] 24 (0, 0)) ∧ Sl w.heap.size 3 W' (.slice ao bs.length cap) (ints bs) ∧ Below w.heap.size w W') := fun W' h =>
    have hb : Below w.heap.size w W' := HBA.out.trans (h.mono HBA.out.size)
    ⟨(h.block _ (by omega)).trans a0, (h.block _ (by omega)).trans a1, hv.below hb (Nat.le_refl _), hb⟩
  have HFIN : Hid (∀ (W' : World) (z : Int) (u : Value) (xs : List Int), W'.heap[w.heap.size + 1]? = some (.cells #[.int .i64 0, .slice none 0 0] 24 (0, 0)) → Below w.heap.size w W' → Sl 0 3 W' u (ints xs) →
      Sl 0 3 ((W'.setCell ⟨w.heap.size + 1, 0, none⟩ (.int .i64 z)).setCell ⟨w.heap.size + 1, 1, none⟩ u) u (ints xs) ∧ Below w.heap.size w ((W'.setCell ⟨w.heap.size + 1, 0, none⟩ (.int .i64 z)).setCell ⟨w.heap.size + 1, 1, none⟩ u)) := fun W' z u xs hr hb hs => by
    refine ⟨hs.move fun b hb ht => ?_, (hb.setCell (by simp) _).setCell (by simp) _⟩
    rcases ht with ht | ⟨cur, ht⟩
    · omega
    · have hne : b ≠ w.heap.size + 1 := fun e => by
        rw [e, hr] at ht
        simp at ht
      exact ⟨(Below.heap_setCell _ _ _ _ (by show b ≠ w.heap.size + 1; exact hne)).trans (Below.heap_setCell _ _ _ _ (by show b ≠ w.heap.size + 1; exact hne)), .inr ⟨cur, ht⟩⟩
  have HB8 : Hid (B8 bs) := h8
  have HWW : Hid (W = (w.alloc (.cells #[.int .i64 n, .slice ao bs.length cap] 24)).alloc (.cells #[.int .i64 0, .slice none 0 0] 24)) := by rw [hW, hw0]; rfl
  have q4 : IntKind.i64.wrap ((n : Int) - 1) = ((n - 1 : Nat) : Int) := by rw [show (n : Int) - 1 = ((n - 1 : Nat) : Int) by omega]; exact wrap_small (by omega)
  have HLS : Hid (∀ W' (b : Nat), b < 256 → Calls Tryd.prog 31 #[.int .i64 b, .int .i64 I] W' fun e w' => e = .returned (.int .i64 (lesI I b)) ∧ Below W'.heap.size W' w') := fun W' b hb => lesser_any b I W' hb (by omega)
  have HSW : Hid (W.heap.size = w.heap.size + 2) := hsW
  clear hv h8 hb0 a0 a1 hW hw0 hs0 hsW
  go_enter Tryd.func11, Tryd.ntmps11
  go_wp2
  rw [← HWW.out]
  clear HWW
  go_loopw [7, 8, 9, 10] (fun kv av x _ wr => ∃ k : Nat, k ≤ bs.length ∧ x = .int .i64 k ∧ Two W.heap.size W wr kv av (kpL bs I (wiP wi I) k) (alL bs I k)) (fun _ _ x _ _ => bs.length - (intOf x).toNat)
  case atStart => exact ⟨0, Nat.zero_le _, rfl, World.ownsRow_nil _ _ _ _, World.ownsRow_nil _ _ _ _, (fun g h => by simp [Value.ownBlock] at h), Below.refl _ _⟩
  case round =>
    obtain ⟨k, hk, rfl, htw⟩ := hrel
    have HTW : Hid (Two W.heap.size W wr u7 u8 (kpL bs I (wiP wi I) k) (alL bs I k)) := htw
    have hsz : W.heap.size ≤ wr.heap.size := htw.bel.size
    have hkl := kpL_len bs I k (wiP wi I)
    have hal := alL_len bs I k
    obtain ⟨r0, r1, hsl, hbw⟩ := HC.out wr htw.bel
    have d1 : wr.cell? ⟨w.heap.size, 1, none⟩ = some (.slice ao bs.length cap) := by simp [World.cell?, r0]
    clear htw
    by_cases hlt : k < bs.length
    · obtain ⟨gb, gq, gcc, hs, _, hcc⟩ := sl_cell hsl hlt
      simp only [Value.slice.injEq] at hs
      obtain ⟨rfl, -, rfl⟩ := hs
      obtain ⟨hx0, hx8⟩ := HB8.out (bs.getD k 0) (by simp [hlt])
      obtain ⟨y, hy⟩ : ∃ y : Nat, bs.getD k 0 = (y : Int) := ⟨(bs.getD k 0).toNat, by omega⟩
      have hy8 : y < 256 := by omega
      have HKS : Hid (kpL bs I (wiP wi I) (k + 1) = kpL bs I (wiP wi I) k ++ (if (y.testBit I == wi) = true then [lesI I (y : Int)] else [])) := by
        have := kpL_succ (i := I) (p := wiP wi I) hlt
        rw [hy] at this
        exact this
      have HAS : Hid (alL bs I (k + 1) = alL bs I k ++ [lesI I (y : Int)]) := by rw [← hy]; exact alL_succ hlt
      rw [hy] at hcc
      have kI : (k : Int) < (bs.length : Int) := by omega
      have kI0 : (0 : Int) ≤ (k : Int) := by omega
      have HLY : Hid (Calls Tryd.prog 31 #[.int .i64 y, .int .i64 I] wr fun e w' => e = .returned (.int .i64 (lesI I y)) ∧ Below wr.heap.size wr w') := HLS.out wr y hy8
      have tb := bitD1 y I
      have HY : Hid (bs.getD k 0 = (y : Int)) := hy
      have hI64 : I < 64 := by omega
      clear hx0 hx8 hy hsl r0 r1 hbw
      generalize kpL bs I (wiP wi I) k = K at *
      generalize alL bs I k = A at *
      generalize lesI I (y : Int) = L at *
      generalize y.testBit I = bt at *
      obtain ⟨xo, xc, hxv⟩ := owns_form HTW.out.a
      subst hxv
      obtain ⟨ko, kc, hkv⟩ := owns_form HTW.out.k
      subst hkv
      go_wp2_with fail
      refine HLY.out.mono ?_
      rintro e w2 ⟨rfl, hb2⟩
      have HT2 : Hid (Two W.heap.size W w2 (.slice ko K.length kc) (.slice xo A.length xc) K A) := HTW.out.low hsz hb2
      have hsz2 : W.heap.size ≤ w2.heap.size := HT2.out.bel.size
      clear hb2 HTW HLY hcc d1
      have HOA : Hid (w2.ownsRow W.heap.size 3 1 (.slice xo A.length xc) A.length (ints A)) := HT2.out.a
      go_wp2_with (first | (at_builtin; refine wpList_append_own_at _ rfl _ _ 22 rfl W.heap.size 3 i3 (.int .i64 0) 1 8 Tryd.underlying22 hi3 hz30 hz31 hz32 rfl (by decide) _ _ _ rfl (HOA.out.alloc _) ⟨w2.heap.size, 0, none⟩ 1 1 [.int .i64 L] rfl rfl (one_new _ _ _) (one_int _) ?c3 ?c4 ?c5 ?_))
      case c3 => unfold maxLen; omega
      case c4 => omega
      case c5 => first | exact hsz2 | (simp; omega)
      intro v' w5 ho5 hg5 _ hat5
      have HT5 : Hid (Two W.heap.size W w5 (.slice ko K.length kc) v' K (A ++ [L])) := HT2.out.pushA hsz2 ho5 hg5 hat5
      have hsz5 : W.heap.size ≤ w5.heap.size := HT5.out.bel.size
      clear ho5 hg5 hat5 HT2 HOA
      have hof := owns_form HT5.out.a
      rw [List.length_append, List.length_singleton] at hof
      obtain ⟨vo, vc, hvv5⟩ := hof
      subst hvv5
      obtain ⟨r0, -, hsl5, -⟩ := HC.out w5 HT5.out.bel
      have d1 : w5.cell? ⟨w.heap.size, 1, none⟩ = some (.slice (some ⟨gb, gq, none⟩) bs.length cap) := by simp [World.cell?, r0]
      have HCY : Hid (w5.cell? ⟨gb, gq + k, none⟩ = some (.int .i64 y)) := by
        obtain ⟨g2, q2, c2, hs2, _, hc2⟩ := sl_cell hsl5 hlt
        simp only [Value.slice.injEq, Option.some.injEq, Addr.mk.injEq, and_true] at hs2
        obtain ⟨⟨rfl, rfl⟩, -, -⟩ := hs2
        rw [HY.out] at hc2
        exact hc2
      have hcy := HCY.out
      clear r0 hsl5
      have qb : (bt == wi) = (bt == wi) := rfl
      cases hbw : (bt == wi)
      · have HK2 : Hid (kpL bs I (wiP wi I) (k + 1) = K) := by show _ = _; rw [HKS.out, hbw]; simp
        clear HKS qb
        go_wp2
        exact ⟨⟨k + 1, by omega, by go_num, by rw [HK2.out, HAS.out]; exact HT5.out⟩, by simp [intOf]; omega⟩
      · have HK2 : Hid (kpL bs I (wiP wi I) (k + 1) = K ++ [L]) := by show _ = _; rw [HKS.out, hbw]; simp
        clear HKS qb
        have HOK : Hid (w5.ownsRow W.heap.size 3 1 (.slice ko K.length kc) K.length (ints K)) := HT5.out.k
        go_wp2_with (first | (at_builtin; refine wpList_append_own_at _ rfl _ _ 22 rfl W.heap.size 3 i3 (.int .i64 0) 1 8 Tryd.underlying22 hi3 hz30 hz31 hz32 rfl (by decide) _ _ _ rfl (HOK.out.alloc _) ⟨w5.heap.size, 0, none⟩ 1 1 [.int .i64 L] rfl rfl (one_new _ _ _) (one_int _) ?c3 ?c4 ?c5 ?_))
        case c3 => unfold maxLen; omega
        case c4 => omega
        case c5 => first | exact hsz5 | (simp; omega)
        intro v9 w9 ho9 hg9 _ hat9
        have HT9 : Hid (Two W.heap.size W w9 v9 (.slice vo (A.length + 1) vc) (K ++ [L]) (A ++ [L])) := (HT5.out.swap.pushA hsz5 ho9 hg9 hat9).swap
        clear ho9 hg9 hat9 HT5 HOK
        go_wp2
        exact ⟨⟨k + 1, by omega, by go_num, by rw [HK2.out, HAS.out]; exact HT9.out⟩, by simp [intOf]; omega⟩
    · have hke : k = bs.length := by omega
      subst hke
      have HMN : Hid (mnL bs I (wiP wi I) = if (kpL bs I (wiP wi I) bs.length).length = 0 then alL bs I bs.length else kpL bs I (wiP wi I) bs.length) := rfl
      have d0 : wr.cell? ⟨w.heap.size, 0, none⟩ = some (.int .i64 n) := by simp [World.cell?, r0]
      have HBR : Hid (Below W.heap.size W wr) := HTW.out.bel
      clear r0 r1 hbw hsl hlt
      generalize kpL bs I (wiP wi I) bs.length = K at *
      generalize alL bs I bs.length = A at *
      obtain ⟨xo, xc, hxv⟩ := owns_form HTW.out.a
      subst hxv
      obtain ⟨ko, kc, hkv⟩ := owns_form HTW.out.k
      subst hkv
      have HEND : Hid (∀ (so : Option Addr) (sc : Nat) (R : List Int), mnL bs I (wiP wi I) = R → R.length ≤ 1000 → Sl 0 3 wr (.slice so R.length sc) (ints R) → Calls Tryd.prog 30 #[.slice so R.length sc] wr.drew fun e w' => ∃ uo uc, ∃ out : List Int, e = .returned (.slice uo out.length uc) ∧ Sl 0 3 w' (.slice uo out.length uc) (ints out) ∧ Ris out ∧ (∀ x, x ∈ out ↔ x ∈ R) ∧ Below W.heap.size W w') := fun so sc R _ hR hs => by
        have hs2 : Sl wr.drew.heap.size 3 wr.drew (.slice so R.length sc) (ints R) := (hs.drewN 1).more (Nat.zero_le _)
        refine (rising_any R _ wr.drew hs2 hR).mono ?_
        rintro e w' ⟨u, out, rfl, h1, h2, h3, _, h5⟩
        obtain ⟨uo, uc, rfl⟩ := owns_form h1
        exact ⟨uo, uc, out, rfl, Sl.own h1, h2, h3, HBR.out.trans ((show Below wr.heap.size wr w' from ⟨h5.os, h5.tape, h5.output, h5.size, h5.block⟩).mono HBR.out.size)⟩
      have HCC : Hid (∀ W', Below W.heap.size W W' → W'.cell? ⟨w.heap.size, 0, none⟩ = some (.int .i64 n)) := fun W' h => by
        have := (HC.out W' h).1
        simp [World.cell?, this]
      by_cases hK : K.length = 0
      · have HM2 : Hid (mnL bs I (wiP wi I) = A) := by show _ = _; rw [HMN.out, if_pos hK]
        have q5 : ((K.length : Int) == 0) = true := by rw [hK]; rfl
        have q6 : (K.length == 0) = true := by rw [hK]; rfl
        have HRI : Hid (Calls Tryd.prog 30 #[.slice xo A.length xc] wr.drew fun e w' => ∃ uo uc, ∃ out : List Int, e = .returned (.slice uo out.length uc) ∧ Sl 0 3 w' (.slice uo out.length uc) (ints out) ∧ Ris out ∧ (∀ x, x ∈ out ↔ x ∈ A) ∧ Below W.heap.size W w') := HEND.out xo xc A HM2.out (by omega) (Sl.own HTW.out.a)
        clear hK HTW HMN HEND
        go_wp2
        refine wp_region_held_drew (S := fun w' => w'.cell? ⟨w.heap.size, 0, none⟩ = some (.int .i64 n)) (by kernel_rfl) d0 (fun hHeld => ?_)
        refine wpAnyH_tk (i := 0) (d := 48) (v := (.pointer (some ⟨w.heap.size, 0, none⟩))) rfl rfl (by kernel_rfl) (by kernel_rfl) (by kernel_rfl) (fun _ _ _ h => h) (.inl ⟨by rfl, by (intro wq hSw; (try dsimp only at hSw); go_simp)⟩) hHeld ?_
        simp only [Act.put, List.setIfInBounds_toArray, List.set_cons_zero, List.set_cons_succ]
        refine wpAnyH_tk (i := 1) (d := 49) (v := (.int .i64 n)) rfl rfl (by kernel_rfl) (by kernel_rfl) (by kernel_rfl) (fun _ _ _ h => h) (.inl ⟨by rfl, by (intro wq hSw; (try dsimp only at hSw); go_simp)⟩) hHeld ?_
        simp only [Act.put, List.setIfInBounds_toArray, List.set_cons_zero, List.set_cons_succ]
        refine wpAnyH_tk (i := 2) (d := 50) (v := (.int .i64 ((n - 1 : Nat) : Int))) rfl rfl (by kernel_rfl) (by kernel_rfl) (by kernel_rfl) (fun _ _ _ h => h) (.inl ⟨by rfl, by (intro wq hSw; (try dsimp only at hSw); go_simp)⟩) hHeld ?_
        simp only [Act.put, List.setIfInBounds_toArray, List.set_cons_zero, List.set_cons_succ]
        refine wpAnyH_tk (i := 3) (d := 51) (v := (.slice xo A.length xc)) rfl rfl (by kernel_rfl) (by kernel_rfl) (by kernel_rfl) (fun _ _ _ h => h) (.inl ⟨by rfl, by (intro wq hSw; (try dsimp only at hSw); go_simp)⟩) hHeld ?_
        simp only [Act.put, List.setIfInBounds_toArray, List.set_cons_zero, List.set_cons_succ]
        refine wpAnyH_ready (rs := [4]) (by kernel_rfl) (by simp) ?_
        refine ready_tk (i := 4) rfl (by rfl) (fun K hK => ?_) AllReadyH.nil
        go_simp
        refine HRI.out.mono ?_
        rintro e w4 ⟨uo, uc, out, rfl, hs4, hris, hmem, hb4⟩
        obtain ⟨r0, r1, -, hbw⟩ := HC.out w4 hb4
        obtain ⟨k1, k2⟩ := HFIN.out w4 ((n - 1 : Nat) : Int) (.slice uo out.length uc) out r1 hbw hs4
        have K1 : Hid _ := k1
        have K2 : Hid _ := k2
        have x0 : w4.cell? ⟨w.heap.size + 1, 0, none⟩ = some (.int .i64 0) := by simp [World.cell?, r1]
        have x1 : w4.cell? ⟨w.heap.size + 1, 1, none⟩ = some (.slice none 0 0) := by simp [World.cell?, r1]
        have y0 : w4.frozen? ⟨w.heap.size + 1, 0, none⟩ = false := by simp [World.frozen?, r1]
        have y1 : w4.frozen? ⟨w.heap.size + 1, 1, none⟩ = false := by simp [World.frozen?, r1]
        have HOUT : Hid (Ris out ∧ (∀ x, x ∈ out ↔ x ∈ mnL bs I (wiP wi I))) := ⟨hris, fun x => by rw [HM2.out]; exact hmem x⟩
        have HCE : Hid (((w4.setCell ⟨w.heap.size + 1, 0, none⟩ (.int .i64 ((n - 1 : Nat) : Int))).setCell ⟨w.heap.size + 1, 1, none⟩ (.slice uo out.length uc)).cell? ⟨w.heap.size, 0, none⟩ = some (.int .i64 n)) := by
          show _ = _
          have : ((w4.setCell ⟨w.heap.size + 1, 0, none⟩ (.int .i64 ((n - 1 : Nat) : Int))).setCell ⟨w.heap.size + 1, 1, none⟩ (.slice uo out.length uc)).heap[w.heap.size]? = w4.heap[w.heap.size]? := (Below.heap_setCell _ _ _ _ (by show w.heap.size ≠ w.heap.size + 1; omega)).trans (Below.heap_setCell _ _ _ _ (by show w.heap.size ≠ w.heap.size + 1; omega))
          simp [World.cell?, this, r0]
        refine hK.out _ _ (HCC.out w4 hb4) (fun hHeld => ?_)
        clear hK K hs4 hris hmem hb4 r0 r1 hbw k1 k2
        refine wpAnyH_tk (i := 5) (d := 53) (v := (.agg #[.int .i64 ((n - 1 : Nat) : Int), .slice uo out.length uc])) rfl rfl (by kernel_rfl) (by kernel_rfl) (by kernel_rfl) (fun _ _ _ h => h) (.inl ⟨by rfl, by (intro wq hSw; (try dsimp only at hSw); go_simp)⟩) hHeld ?_
        simp only [Act.put, List.setIfInBounds_toArray, List.set_cons_zero, List.set_cons_succ]
        refine wpAnyH_ready (rs := [6]) (by kernel_rfl) (by simp) ?_
        refine ready_tk (i := 6) rfl (by rfl) (fun K hK => ?_) AllReadyH.nil
        go_simp
        refine hK.out _ _ HCE.out (fun hHeld => ?_)
        clear hK K
        refine wpAnyH_done (by kernel_rfl) ?_ _
        clear hHeld
        go_wp2
        exact bodyPost_ret (v := .agg #[.int .i64 ((n - 1 : Nat) : Int), .slice uo out.length uc]) (by simp [results, Tryd.results11, go_sem, *]) rfl ⟨_, out, rfl, K1.out, HOUT.out.1, HOUT.out.2, K2.out⟩
      · have HM2 : Hid (mnL bs I (wiP wi I) = K) := by show _ = _; rw [HMN.out, if_neg hK]
        have q5 : ((K.length : Int) == 0) = false := by rw [beq_eq_false_iff_ne]; omega
        have q6 : (K.length == 0) = false := by rw [beq_eq_false_iff_ne]; exact hK
        have HRI : Hid (Calls Tryd.prog 30 #[.slice ko K.length kc] wr.drew fun e w' => ∃ uo uc, ∃ out : List Int, e = .returned (.slice uo out.length uc) ∧ Sl 0 3 w' (.slice uo out.length uc) (ints out) ∧ Ris out ∧ (∀ x, x ∈ out ↔ x ∈ K) ∧ Below W.heap.size W w') := HEND.out ko kc K HM2.out (by omega) (Sl.own HTW.out.k)
        clear hK HTW HMN HEND
        go_wp2
        refine wp_region_held_drew (S := fun w' => w'.cell? ⟨w.heap.size, 0, none⟩ = some (.int .i64 n)) (by kernel_rfl) d0 (fun hHeld => ?_)
        refine wpAnyH_tk (i := 0) (d := 48) (v := (.pointer (some ⟨w.heap.size, 0, none⟩))) rfl rfl (by kernel_rfl) (by kernel_rfl) (by kernel_rfl) (fun _ _ _ h => h) (.inl ⟨by rfl, by (intro wq hSw; (try dsimp only at hSw); go_simp)⟩) hHeld ?_
        simp only [Act.put, List.setIfInBounds_toArray, List.set_cons_zero, List.set_cons_succ]
        refine wpAnyH_tk (i := 1) (d := 49) (v := (.int .i64 n)) rfl rfl (by kernel_rfl) (by kernel_rfl) (by kernel_rfl) (fun _ _ _ h => h) (.inl ⟨by rfl, by (intro wq hSw; (try dsimp only at hSw); go_simp)⟩) hHeld ?_
        simp only [Act.put, List.setIfInBounds_toArray, List.set_cons_zero, List.set_cons_succ]
        refine wpAnyH_tk (i := 2) (d := 50) (v := (.int .i64 ((n - 1 : Nat) : Int))) rfl rfl (by kernel_rfl) (by kernel_rfl) (by kernel_rfl) (fun _ _ _ h => h) (.inl ⟨by rfl, by (intro wq hSw; (try dsimp only at hSw); go_simp)⟩) hHeld ?_
        simp only [Act.put, List.setIfInBounds_toArray, List.set_cons_zero, List.set_cons_succ]
        refine wpAnyH_tk (i := 3) (d := 51) (v := (.slice ko K.length kc)) rfl rfl (by kernel_rfl) (by kernel_rfl) (by kernel_rfl) (fun _ _ _ h => h) (.inl ⟨by rfl, by (intro wq hSw; (try dsimp only at hSw); go_simp)⟩) hHeld ?_
        simp only [Act.put, List.setIfInBounds_toArray, List.set_cons_zero, List.set_cons_succ]
        refine wpAnyH_ready (rs := [4]) (by kernel_rfl) (by simp) ?_
        refine ready_tk (i := 4) rfl (by rfl) (fun K hK => ?_) AllReadyH.nil
        go_simp
        refine HRI.out.mono ?_
        rintro e w4 ⟨uo, uc, out, rfl, hs4, hris, hmem, hb4⟩
        obtain ⟨r0, r1, -, hbw⟩ := HC.out w4 hb4
        obtain ⟨k1, k2⟩ := HFIN.out w4 ((n - 1 : Nat) : Int) (.slice uo out.length uc) out r1 hbw hs4
        have K1 : Hid _ := k1
        have K2 : Hid _ := k2
        have x0 : w4.cell? ⟨w.heap.size + 1, 0, none⟩ = some (.int .i64 0) := by simp [World.cell?, r1]
        have x1 : w4.cell? ⟨w.heap.size + 1, 1, none⟩ = some (.slice none 0 0) := by simp [World.cell?, r1]
        have y0 : w4.frozen? ⟨w.heap.size + 1, 0, none⟩ = false := by simp [World.frozen?, r1]
        have y1 : w4.frozen? ⟨w.heap.size + 1, 1, none⟩ = false := by simp [World.frozen?, r1]
        have HOUT : Hid (Ris out ∧ (∀ x, x ∈ out ↔ x ∈ mnL bs I (wiP wi I))) := ⟨hris, fun x => by rw [HM2.out]; exact hmem x⟩
        have HCE : Hid (((w4.setCell ⟨w.heap.size + 1, 0, none⟩ (.int .i64 ((n - 1 : Nat) : Int))).setCell ⟨w.heap.size + 1, 1, none⟩ (.slice uo out.length uc)).cell? ⟨w.heap.size, 0, none⟩ = some (.int .i64 n)) := by
          show _ = _
          have : ((w4.setCell ⟨w.heap.size + 1, 0, none⟩ (.int .i64 ((n - 1 : Nat) : Int))).setCell ⟨w.heap.size + 1, 1, none⟩ (.slice uo out.length uc)).heap[w.heap.size]? = w4.heap[w.heap.size]? := (Below.heap_setCell _ _ _ _ (by show w.heap.size ≠ w.heap.size + 1; omega)).trans (Below.heap_setCell _ _ _ _ (by show w.heap.size ≠ w.heap.size + 1; omega))
          simp [World.cell?, this, r0]
        refine hK.out _ _ (HCC.out w4 hb4) (fun hHeld => ?_)
        clear hK K hs4 hris hmem hb4 r0 r1 hbw k1 k2
        refine wpAnyH_tk (i := 5) (d := 53) (v := (.agg #[.int .i64 ((n - 1 : Nat) : Int), .slice uo out.length uc])) rfl rfl (by kernel_rfl) (by kernel_rfl) (by kernel_rfl) (fun _ _ _ h => h) (.inl ⟨by rfl, by (intro wq hSw; (try dsimp only at hSw); go_simp)⟩) hHeld ?_
        simp only [Act.put, List.setIfInBounds_toArray, List.set_cons_zero, List.set_cons_succ]
        refine wpAnyH_ready (rs := [6]) (by kernel_rfl) (by simp) ?_
        refine ready_tk (i := 6) rfl (by rfl) (fun K hK => ?_) AllReadyH.nil
        go_simp
        refine hK.out _ _ HCE.out (fun hHeld => ?_)
        clear hK K
        refine wpAnyH_done (by kernel_rfl) ?_ _
        clear hHeld
        go_wp2
        exact bodyPost_ret (v := .agg #[.int .i64 ((n - 1 : Nat) : Int), .slice uo out.length uc]) (by simp [results, Tryd.results11, go_sem, *]) rfl ⟨_, out, rfl, K1.out, HOUT.out.1, HOUT.out.2, K2.out⟩

end Go.Proofs.YtehklbekaflokaaDoor
