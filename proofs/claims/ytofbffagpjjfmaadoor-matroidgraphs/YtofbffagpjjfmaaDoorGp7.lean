/- matroid.Graph's closure; setsThat over it. -/
import Derived.Test.YtofbffagpjjfmaaDoorGp5
import Derived.Test.YtofbffagpjjfmaaDoorGp6
import Derived.Test.YtofbffagpjjfmaaDoorMs0
import Derived.Test.YtofbffagpjjfmaaDoorTk1
import Derived.Laws.EntriesVeiled
namespace Go.Proofs.YtofbffagpjjfmaaDoor
open Go.RowKit
attribute [local go_sem ↓] Go.wp_at_zero Go.wp_at_succ

/-- Do the edges of a set lead nowhere around? -/
def fwE (es : List (Nat × Nat)) (s : Nat) : Bool := fsB (pkE es s) fun v => v

theorem mem8_pl {s m : Nat} (hs : s < 2 ^ m) : ∀ i, i < (mem8 s).length → 0 ≤ (mem8 s).getD i 0 ∧ (mem8 s).getD i 0 < m := fun i hi => by
  have hz : (mem8 s).getD i 0 ∈ mem8 s := by simp [hi]
  obtain ⟨k, _, h2, h3⟩ := mem8_iff.1 hz
  have := bit_lt hs h2
  omega

set_option maxRecDepth 100000 in
set_option maxHeartbeats 800000 in
theorem graph1_any (B nodes s : Nat) (es : List (Nat × Nat)) (v : Value) (b1 b2 : Nat) (w : World) (he : Eds B w v es) (hB : B ≤ w.heap.size) (hes : ∀ e ∈ es, e.1 < nodes ∧ e.2 < nodes) (hs : s < 2 ^ es.length) (hm : es.length ≤ 8) (hn : nodes ≤ 16) (hT : TabB w)
    (h1 : w.cell? ⟨b1, 0, none⟩ = some (.int .i64 nodes)) (h2 : w.cell? ⟨b2, 0, none⟩ = some v) :
    Calls Tryd.prog 10 #[.int .u64 s, .pointer (some ⟨b1, 0, none⟩), .pointer (some ⟨b2, 0, none⟩)] w fun e w' => e = .returned (.bool (fwE es s)) ∧ Below w.heap.size w w' := by
  have hs8 : s < 256 := Nat.lt_of_lt_of_le hs (show 2 ^ es.length ≤ 2 ^ 8 from Nat.pow_le_pow_right (by omega) hm)
  have HCC : Hid (∀ W', Below w.heap.size w W' → W'.cell? ⟨b1, 0, none⟩ = some (.int .i64 nodes) ∧ W'.cell? ⟨b2, 0, none⟩ = some v) := fun W' h => ⟨(h.cell (lt_of_cell h1)).trans h1, (h.cell (lt_of_cell h2)).trans h2⟩
  have HLI : Hid (∀ W', Below w.heap.size w W' → Calls Tryd.prog 13 #[.int .u64 s] W' fun e w' => ∃ u, e = .returned u ∧ w'.ownsRow W'.heap.size 3 1 u (mem8 s).length (ints (mem8 s)) ∧ Below W'.heap.size W' w') := fun W' h => list8_any s hs8 W' (hT.below h)
  have HPK : Hid (∀ W' u, Below w.heap.size w W' → Sl W'.heap.size 3 W' u (ints (mem8 s)) → Calls Tryd.prog 12 #[v, u] W' fun e w' => ∃ z, e = .returned z ∧ Eds w'.heap.size w' z (pkE es s) ∧ Below W'.heap.size W' w') := fun W' u h hu =>
    pickedE_any es (mem8 s) v u W' ((he.below h hB).more (Nat.le_trans hB h.size)) hu (mem8_pl hs) (by have := mem8_len s; omega)
  have HIF : Hid (∀ W' z, Eds W'.heap.size W' z (pkE es s) → Calls Tryd.prog 11 #[.int .i64 nodes, z] W' fun e w' => e = .returned (.bool (fwE es s)) ∧ Below W'.heap.size W' w') := fun W' z h =>
    isForest_any nodes (pkE es s) z W' h (pkE_lt hs hes) (by rw [pkE_len]; have := mem8_len s; omega) hn
  obtain ⟨po, ec, hvv, -⟩ := he
  subst hvv
  generalize fwE es s = fb at *
  clear hT hs hes
  go_enter Tryd.func10, Tryd.ntmps10
  go_wp2
  refine wp_region_held_drew (S := fun w' => w'.cell? ⟨b1, 0, none⟩ = some (.int .i64 nodes) ∧ w'.cell? ⟨b2, 0, none⟩ = some (.slice po es.length ec)) (by kernel_rfl) ⟨h1, h2⟩ (fun hHeld => ?_)
  refine wpAnyH_tk (i := 0) (d := 5) (v := (.int .i64 nodes)) rfl rfl (by kernel_rfl) (by kernel_rfl) (by kernel_rfl) (fun _ _ _ h => h) (.inl ⟨by rfl, by (intro wq hSw; (try dsimp only at hSw); go_simp; (try (first | rfl | omega)))⟩) hHeld ?_
  simp only [Act.put, List.setIfInBounds_toArray, List.set_cons_zero, List.set_cons_succ]
  refine wpAnyH_tk (i := 1) (d := 6) (v := (.slice po es.length ec)) rfl rfl (by kernel_rfl) (by kernel_rfl) (by kernel_rfl) (fun _ _ _ h => h) (.inl ⟨by rfl, by (intro wq hSw; (try dsimp only at hSw); go_simp; (try (first | rfl | omega)))⟩) hHeld ?_
  simp only [Act.put, List.setIfInBounds_toArray, List.set_cons_zero, List.set_cons_succ]
  refine wpAnyH_tk (i := 2) (d := 7) (v := (.int .u64 s)) rfl rfl (by kernel_rfl) (by kernel_rfl) (by kernel_rfl) (fun _ _ _ h => h) (.inl ⟨by rfl, by (intro wq hSw; (try dsimp only at hSw); go_simp; (try (first | rfl | omega)))⟩) hHeld ?_
  simp only [Act.put, List.setIfInBounds_toArray, List.set_cons_zero, List.set_cons_succ]
  refine wpAnyH_ready (rs := [3]) (by kernel_rfl) (by simp) ?_
  refine ready_tk (i := 3) rfl (by rfl) (fun K hK => ?_) AllReadyH.nil
  go_simp
  have HBD : Hid (Below w.heap.size w w.drew) := Below.drew (Below.refl _ _)
  refine (HLI.out _ HBD.out).mono ?_
  rintro e w3 ⟨u, rfl, hu, hb3⟩
  have HB3 : Hid (Below w.heap.size w w3) := HBD.out.trans (hb3.mono HBD.out.size)
  have HU : Hid (Sl w3.heap.size 3 w3 u (ints (mem8 s))) := (Sl.own (B := 0) hu).more (Nat.zero_le _)
  obtain ⟨uo, uc, huu⟩ := owns_form hu
  subst huu
  clear hb3 hu
  refine hK.out _ _ (HCC.out w3 HB3.out) (fun hHeld => ?_)
  clear hK K
  refine wpAnyH_ready (rs := [4]) (by kernel_rfl) (by simp) ?_
  refine ready_tk (i := 4) rfl (by rfl) (fun K hK => ?_) AllReadyH.nil
  go_simp
  refine (HPK.out _ _ HB3.out HU.out).mono ?_
  rintro e w4 ⟨z, rfl, hz, hb4⟩
  have HB4 : Hid (Below w.heap.size w w4) := HB3.out.trans (hb4.mono HB3.out.size)
  have HZ : Hid (Eds w4.heap.size w4 z (pkE es s)) := hz
  obtain ⟨zo, zc, hzz, -⟩ := hz
  subst hzz
  clear hb4
  refine hK.out _ _ (HCC.out w4 HB4.out) (fun hHeld => ?_)
  clear hK K
  refine wpAnyH_ready (rs := [5]) (by kernel_rfl) (by simp) ?_
  refine ready_tk (i := 5) rfl (by rfl) (fun K hK => ?_) AllReadyH.nil
  go_simp
  refine (HIF.out _ _ HZ.out).mono ?_
  rintro e w5 ⟨rfl, hb5⟩
  have HB5 : Hid (Below w.heap.size w w5) := HB4.out.trans (hb5.mono HB4.out.size)
  clear hb5
  refine hK.out _ _ (HCC.out w5 HB5.out) (fun hHeld => ?_)
  clear hK K
  refine wpAnyH_tk (i := 6) (d := 4) (v := (.bool fb)) rfl rfl (by kernel_rfl) (by kernel_rfl) (by kernel_rfl) (fun _ _ _ h => h) (.inl ⟨by rfl, by (intro wq hSw; (try dsimp only at hSw); go_simp; (try (first | rfl | omega)))⟩) hHeld ?_
  simp only [Act.put, List.setIfInBounds_toArray, List.set_cons_zero, List.set_cons_succ]
  refine wpAnyH_done (by kernel_rfl) ?_ _
  clear hHeld
  go_wp2
  go_ret
  exact ⟨rfl, HB5.out⟩

set_option maxRecDepth 100000 in
set_option maxHeartbeats 800000 in
theorem setsG1_any (n : Nat) (p : Nat → Bool) (b1 b2 : Nat) (w : World) (hn : n ≤ 8)
    (hc : ∀ s : Nat, s < 2 ^ n → ∀ W', Below w.heap.size w W' → Calls Tryd.prog 10 #[.int .u64 s, .pointer (some ⟨b1, 0, none⟩), .pointer (some ⟨b2, 0, none⟩)] W' fun e w' => e = .returned (.bool (p s)) ∧ Below W'.heap.size W' w') :
    Calls Tryd.prog 20 #[.int .i64 n, .func (.func 10) #[] #[.pointer (some ⟨b1, 0, none⟩), .pointer (some ⟨b2, 0, none⟩)]] w fun e w' => ∃ u, e = .returned u ∧ w'.ownsRow w.heap.size 3 1 u (setsTo p (2 ^ n)).length (ints (setsTo p (2 ^ n))) ∧ Below w.heap.size w w' := by
  obtain ⟨i3, hi3, hz30, hz31, hz32⟩ := info_parts Tryd.info3
  obtain ⟨tn, htn⟩ : ∃ tn : Nat, tn = 2 ^ n := ⟨_, rfl⟩
  have hti : (2 : Int) ^ n = (tn : Int) := by rw [htn]; simp
  have htl : tn ≤ 256 := by rw [htn]; exact show 2 ^ n ≤ 2 ^ 8 from Nat.pow_le_pow_right (by omega) hn
  have hwt : IntKind.i64.wrap (tn : Int) = (tn : Int) := wrap_small (by omega)
  rw [← htn] at hc ⊢
  have HIL : Hid (∀ s : Nat, s < tn → ∀ W', Below w.heap.size w W' → Calls Tryd.prog 10 #[.int .u64 s, .pointer (some ⟨b1, 0, none⟩), .pointer (some ⟨b2, 0, none⟩)] W' fun e w' => e = .returned (.bool (p s)) ∧ Below W'.heap.size W' w') := hc
  clear hc htn
  go_enter Tryd.func20, Tryd.ntmps20
  go_wp2
  go_loopw [5, 6, 9] (fun gv _ x wr => ∃ k : Nat, k ≤ tn ∧ x = .int .i64 k ∧ wr.ownsRow w.heap.size 3 1 gv (setsTo p k).length (ints (setsTo p k)) ∧ Below w.heap.size w wr) (fun _ _ x _ => tn - (intOf x).toNat)
  case atStart => exact ⟨0, Nat.zero_le _, rfl, World.ownsRow_nil _ _ _ _, Below.refl _ _⟩
  case round =>
    obtain ⟨k, hk, rfl, ho, hbr⟩ := hrel
    have HO : Hid (wr.ownsRow w.heap.size 3 1 u5 (setsTo p k).length (ints (setsTo p k))) := ho
    have HBR : Hid (Below w.heap.size w wr) := hbr
    have hsz : w.heap.size ≤ wr.heap.size := hbr.size
    have hkl := setsTo_len p k
    clear ho hbr
    by_cases hlt : k < tn
    · have kI : (k : Int) < (tn : Int) := by omega
      have qk : IntKind.u64.wrap (k : Int) = (k : Int) := by rw [IntKind.wrap_u64]; omega
      have HIX : Hid (Calls Tryd.prog 10 #[.int .u64 k, .pointer (some ⟨b1, 0, none⟩), .pointer (some ⟨b2, 0, none⟩)] wr fun e w' => e = .returned (.bool (p k)) ∧ Below wr.heap.size wr w') := HIL.out k (by omega) wr HBR.out
      have HSS : Hid (setsTo p (k + 1) = setsTo p k ++ (if p k = true then [(k : Int)] else [])) := setsTo_succ p k
      generalize p k = fb at *
      generalize setsTo p k = L at *
      obtain ⟨xo, xc, hxv⟩ := owns_form HO.out
      subst hxv
      go_wp2_with fail
      refine HIX.out.mono ?_
      rintro e w2 ⟨rfl, hb2⟩
      have HO2 : Hid (w2.ownsRow w.heap.size 3 1 (.slice xo L.length xc) L.length (ints L)) := owns_below HO.out hb2 (Nat.le_refl _)
      have HB2 : Hid (Below w.heap.size w w2) := HBR.out.trans (hb2.mono hsz)
      have hsz2 : w.heap.size ≤ w2.heap.size := HB2.out.size
      clear hb2 HO HBR
      cases fb
      · have HS2 : Hid (setsTo p (k + 1) = L) := by show _ = _; rw [HSS.out]; simp
        clear HSS
        go_wp2
        go_roundw
        case rel => exact ⟨k + 1, by omega, by go_num, by rw [HS2.out]; exact HO2.out, HB2.out⟩
        case measure => simp [intOf]; omega
      · have HS2 : Hid (setsTo p (k + 1) = L ++ [(k : Int)]) := by show _ = _; rw [HSS.out]; simp
        clear HSS
        go_wp2_with (first | (at_builtin; refine wpList_append_own _ rfl _ _ 25 rfl w.heap.size 3 i3 (.int .i64 0) 1 8 Tryd.underlying25 hi3 hz30 hz31 hz32 rfl (by decide) _ _ _ rfl (HO2.out.alloc _) ⟨w2.heap.size, 0, none⟩ 1 1 [.int .i64 k] rfl rfl (one_new _ _ _) (one_int _) ?c3 ?c4 ?c5 ?_))
        case c3 => unfold maxLen; omega
        case c4 => omega
        case c5 => first | exact hsz2 | (simp; omega)
        intro v' w7 ho hg _
        have R := owns_push (z := (k : Int)) (N := L.length + 1) hsz2 (l := L) HO2.out HB2.out ho hg rfl
        have R1 : Hid (w7.ownsRow w.heap.size 3 1 v' (setsTo p (k + 1)).length (ints (setsTo p (k + 1)))) := by
          have h := R.1
          show World.ownsRow _ _ _ _ _ _ _
          rw [HS2.out, List.length_append, List.length_singleton]
          exact h
        have R2 : Hid (Below w.heap.size w w7) := R.2
        clear R ho hg
        go_wp2
        go_roundw
        case rel => exact ⟨k + 1, by omega, by go_num, R1.out, R2.out⟩
        case measure => simp [intOf]; omega
    · have hke : tn = k := by omega
      subst hke
      go_wp2
      go_ret
      exact ⟨_, rfl, HO.out, HBR.out⟩

end Go.Proofs.YtofbffagpjjfmaaDoor
