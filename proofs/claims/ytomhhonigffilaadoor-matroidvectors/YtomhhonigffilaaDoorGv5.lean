/- matroid.made over Vectors's closure. -/
import Derived.Test.YtomhhonigffilaaDoorGp3
import Derived.Test.YtomhhonigffilaaDoorGv4
import Derived.Test.YtomhhonigffilaaDoorGp8
import Derived.Test.YtomhhonigffilaaDoorMade1
namespace Go.Proofs.YtomhhonigffilaaDoor
open Go.RowKit
attribute [local go_sem ↓] Go.wp_at_zero Go.wp_at_succ

theorem mxS_ge (l : List Int) : ∀ k i, i < k → (mem8 (l.getD i 0).toNat).length ≤ mxS l k
  | 0, _, h => by omega
  | k + 1, i, h => by
    by_cases e : i = k
    · subst e; simp only [mxS]; omega
    · have := mxS_ge l k i (by omega)
      simp only [mxS]; omega

theorem mxS_le8 (l : List Int) : ∀ k, mxS l k ≤ 8
  | 0 => by simp [mxS]
  | k + 1 => by
    have := mxS_le8 l k
    have := mem8_len (l.getD k 0).toNat
    simp only [mxS]; omega

theorem del_gre (l : List Int) : (l.filter fun r => !lsQ (mxS l l.length) r) = greL l := by
  unfold greL grF
  rw [List.take_length]
  refine List.filter_congr fun x hx => ?_
  obtain ⟨i, hi, rfl⟩ := List.getElem_of_mem hx
  have := mxS_ge l l.length i hi
  rw [show l.getD i 0 = l[i] by simp [hi]] at this
  unfold lsQ
  by_cases c : (mem8 (l[i]).toNat).length = mxS l l.length
  · simp [c]
  · have : (mem8 (l[i]).toNat).length < mxS l l.length := by omega
    simp [c, this]

theorem setsTo_b9 (p : Nat → Bool) (k : Nat) (h : k ≤ 256) : ∀ z ∈ setsTo p k, 0 ≤ z ∧ z < 256 := fun z hz => by
  unfold setsTo at hz
  obtain ⟨i, hi, rfl⟩ := List.mem_map.1 hz
  have := List.mem_range.1 (List.mem_filter.1 hi).1
  omega

/-- What the loop of made holds: the box of the rank, and the row of the sets. -/
structure MdI (W w1 : World) (v : Value) (L : List Int) (q : Nat) (wr : World) : Prop where
  box : wr.heap[w1.heap.size]? = some (.cells #[.int .i64 q] 3 (0, 0))
  own : wr.ownsRow W.heap.size 3 1 v L.length (ints L)
  bel : Below W.heap.size W wr

set_option maxRecDepth 100000 in
set_option maxHeartbeats 1600000 in
theorem madeV_any (n : Nat) (p : Nat → Bool) (b1 b2 : Nat) (w : World) (hn : n ≤ 8)
    (hc : ∀ s : Nat, s < 2 ^ n → ∀ W', Below w.heap.size w W' → Calls Tryd.prog 15 #[.int .u64 s, .pointer (some ⟨b1, 0, none⟩), .pointer (some ⟨b2, 0, none⟩)] W' fun e w' => e = .returned (.bool (p s)) ∧ Below W'.heap.size W' w') :
    Calls Tryd.prog 19 #[.int .i64 n, .func (.func 15) #[] #[.pointer (some ⟨b1, 0, none⟩), .pointer (some ⟨b2, 0, none⟩)]] w fun e w' => ∃ u, e = .returned (.agg #[.int .i64 n, u]) ∧ Sl 0 3 w' u (ints (greL (setsTo p (2 ^ n)))) ∧ Below w.heap.size w w' := by
  obtain ⟨W, hW⟩ : ∃ W, W = w.alloc (.cells #[.int .i64 0, .slice none 0 0] 28) := ⟨_, rfl⟩
  have HBA : Hid (Below w.heap.size w W) := by rw [hW]; exact (Below.refl _ _).alloc (Nat.le_refl _) _
  have HR0 : Hid (W.heap[w.heap.size]? = some (.cells #[.int .i64 0, .slice none 0 0] 28 (0, 0))) := by rw [hW]; exact heap_alloc_new w _
  have HWS : Hid (W.heap.size = w.heap.size + 1) := by rw [hW]; show _ = _; simp
  have HSG : Hid (Calls Tryd.prog 31 #[.int .i64 n, .func (.func 15) #[] #[.pointer (some ⟨b1, 0, none⟩), .pointer (some ⟨b2, 0, none⟩)]] W fun e w' => ∃ u, e = .returned u ∧ w'.ownsRow W.heap.size 3 1 u (setsTo p (2 ^ n)).length (ints (setsTo p (2 ^ n))) ∧ Below W.heap.size W w') :=
    setsV1_any n p b1 b2 W hn fun s hs W' h => hc s hs W' (HBA.out.trans (h.mono HBA.out.size))
  have h256 : 2 ^ n ≤ 256 := show 2 ^ n ≤ 2 ^ 8 from Nat.pow_le_pow_right (by omega) hn
  have HL8 : Hid (∀ z ∈ setsTo p (2 ^ n), 0 ≤ z ∧ z < 256) := setsTo_b9 p _ h256
  have hll := setsTo_len p (2 ^ n)
  generalize setsTo p (2 ^ n) = L at *
  clear hc
  go_enter Tryd.func19, Tryd.ntmps19
  go_wp2_with fail
  rw [← hW]
  clear hW
  refine HSG.out.mono ?_
  rintro e w1 ⟨u, rfl, hu, hb1⟩
  have HU : Hid (w1.ownsRow W.heap.size 3 1 u L.length (ints L)) := hu
  have HB1 : Hid (Below W.heap.size W w1) := hb1
  have hs1 : W.heap.size ≤ w1.heap.size := hb1.size
  obtain ⟨uo, uc, huu⟩ := owns_form hu
  subst huu
  have HNB : Hid ((Value.slice uo L.length uc).ownBlock ≠ some w1.heap.size) := fun e => by
    have := (HU.out.lt _ e).2
    omega
  clear hu hb1 HSG
  have HM0 : Hid (MdI W w1 (.slice uo L.length uc) L 0 (w1.alloc (.cells #[.int .i64 0] 3))) := ⟨heap_alloc_new w1 _, HU.out.alloc _, HB1.out.alloc hs1 _⟩
  have HLEN : Hid (∀ W' (x : Nat), x < 256 → Calls Tryd.prog 29 #[.int .u64 x] W' fun e w' => e = .returned (.int .i64 (mem8 x).length) ∧ w' = W') := fun W' x hx => len8_any x hx W'
  go_wp2
  go_loopw [15] (fun x wr => ∃ k : Nat, k ≤ L.length ∧ x = .int .i64 k ∧ MdI W w1 (.slice uo L.length uc) L (mxS L k) wr) (fun x _ => L.length - (intOf x).toNat)
  case atStart => exact ⟨0, Nat.zero_le _, rfl, HM0.out⟩
  case round =>
    obtain ⟨k, hk, rfl, hmd⟩ := hrel
    have HMD : Hid (MdI W w1 (.slice uo L.length uc) L (mxS L k) wr) := hmd
    have hbox := hmd.box
    have hq8 := mxS_le8 L k
    clear hmd HM0
    by_cases hlt : k < L.length
    · obtain ⟨lb, lq, _, hs, _, hcx⟩ := sl_cell (Sl.own (B := 0) HMD.out.own) hlt
      simp only [Value.slice.injEq] at hs
      obtain ⟨rfl, -, -⟩ := hs
      obtain ⟨hx0, hx1⟩ := HL8.out (L.getD k 0) (by simp [hlt])
      obtain ⟨x, hx⟩ : ∃ x : Nat, L.getD k 0 = (x : Int) := ⟨(L.getD k 0).toNat, by omega⟩
      have HMX : Hid (mxS L (k + 1) = max (mxS L k) (mem8 x).length) := by
        show max (mxS L k) (mem8 (L.getD k 0).toNat).length = _
        rw [hx]; rfl
      rw [hx] at hcx hx0 hx1
      clear hx
      have hx8 : x < 256 := by omega
      have qk : IntKind.u64.wrap (x : Int) = (x : Int) := by rw [IntKind.wrap_u64]; omega
      have HLX : Hid (∀ W', Calls Tryd.prog 29 #[.int .u64 x] W' fun e w' => e = .returned (.int .i64 (mem8 x).length) ∧ w' = W') := fun W' => HLEN.out W' x hx8
      generalize hm1 : mxS L (k + 1) = q1 at *
      have HQ1 : Hid (mxS L (k + 1) = q1) := hm1
      clear hm1
      generalize mxS L k = q at *
      generalize (mem8 x).length = sx at *
      have c6 : wr.cell? ⟨w1.heap.size, 0, none⟩ = some (.int .i64 q) := by simp [World.cell?, hbox]
      have f6 : wr.frozen? ⟨w1.heap.size, 0, none⟩ = false := by simp [World.frozen?, hbox]
      have HN : Hid (∀ z : Nat, MdI W w1 (.slice (some ⟨lb, lq, none⟩) L.length uc) L z (wr.drew.setCell ⟨w1.heap.size, 0, none⟩ (.int .i64 z))) := fun z => by
        refine ⟨?_, ⟨HMD.out.own.1, ?_⟩, ?_⟩
        · have hb' : wr.drew.heap[w1.heap.size]? = some (.cells #[.int .i64 q] 3 (0, 0)) := hbox
          simp [World.setCell, Array.getElem?_modify, hb']
        · rcases HMD.out.own.2 with h1 | ⟨g, cap, cur, e1, h2, h3, h4⟩
          · exact .inl h1
          · exact .inr ⟨g, cap, cur, e1, h2, (Below.heap_setCell _ _ _ _ (by
              show g ≠ w1.heap.size
              intro e
              exact HNB.out (by simp only [Value.slice.injEq] at e1; rw [e1.1, e]; rfl))).trans h3, h4⟩
        · have hb := HMD.out.bel
          exact ⟨hb.os, hb.tape, hb.output, by simp only [World.setCell, Array.size_modify]; exact hb.size, fun b hbb => (Below.heap_setCell _ _ _ _ (by show b ≠ w1.heap.size; omega)).trans (hb.block b hbb)⟩
      have HNQ := HN.out q1
      have kI : (k : Int) < (L.length : Int) := by omega
      have kI0 : (0 : Int) ≤ (k : Int) := by omega
      have HG : Hid (MdI W w1 (.slice (some ⟨lb, lq, none⟩) L.length uc) L q1 (wr.drew.setCell ⟨w1.heap.size, 0, none⟩ (.int .i64 q1))) := HNQ
      have HMI : Hid ((if q < sx then (sx : Int) else (q : Int)) = (q1 : Int)) := by
        show _ = _
        rw [HMX.out]
        by_cases c : q < sx
        · rw [if_pos c]; omega
        · rw [if_neg c]; omega
      clear HN HNQ hbox
      go_wp2
      refine wp_region_held_drew (S := fun _ => True) (by kernel_rfl) trivial (fun hHeld => ?_)
      refine wpAnyH_tk (i := 1) (d := 20) (v := (.int .i64 x)) rfl rfl (by kernel_rfl) (by kernel_rfl) (by kernel_rfl) (fun _ _ _ h => h) (.inl ⟨by rfl, by (intro wq hSw; (try dsimp only at hSw); go_simp; (try (first | rfl | omega)))⟩) hHeld ?_
      simp only [Act.put, List.setIfInBounds_toArray, List.set_cons_zero, List.set_cons_succ]
      refine wpAnyH_tk (i := 2) (d := 21) (v := (.int .u64 x)) rfl rfl (by kernel_rfl) (by kernel_rfl) (by kernel_rfl) (fun _ _ _ h => h) (.inl ⟨by rfl, by (intro wq hSw; (try dsimp only at hSw); go_simp; (try (first | rfl | omega)))⟩) hHeld ?_
      simp only [Act.put, List.setIfInBounds_toArray, List.set_cons_zero, List.set_cons_succ]
      have c6d : wr.drew.cell? ⟨w1.heap.size, 0, none⟩ = some (.int .i64 q) := c6
      refine wpAnyH_ready (rs := [0, 3]) (by kernel_rfl) (by simp) ?_
      refine ready_tk (i := 0) rfl (by rfl) (fun K hK => ?_) (ready_tk (i := 3) rfl (by rfl) (fun K hK => ?_) AllReadyH.nil)
      · skip
        go_simp
        refine hK.out _ _ trivial (fun hHeld => ?_)
        clear hK K
        refine wpAnyH_ready (rs := [3]) (by kernel_rfl) (by simp) ?_
        refine ready_tk (i := 3) rfl (by rfl) (fun K hK => ?_) AllReadyH.nil
        go_simp
        refine (HLX.out _).mono ?_
        rintro e w3 ⟨rfl, hw3⟩
        subst hw3
        refine hK.out _ _ trivial (fun hHeld => ?_)
        clear hK K
        refine wpAnyH_ready (rs := [4]) (by kernel_rfl) (by simp) ?_
        refine ready_tk (i := 4) rfl (by rfl) (fun K hK => ?_) AllReadyH.nil
        go_simp
        rw [HMI.out]
        refine hK.out _ _ trivial (fun hHeld => ?_)
        clear hK K
        refine wpAnyH_ready (rs := [5]) (by kernel_rfl) (by simp) ?_
        refine ready_tk (i := 5) rfl (by rfl) (fun K hK => ?_) AllReadyH.nil
        go_simp
        refine hK.out _ _ trivial (fun hHeld => ?_)
        clear hK K
        refine wpAnyH_done (by kernel_rfl) ?_ _
        clear hHeld
        go_wp2
        exact ⟨⟨k + 1, by omega, by go_num, by rw [HQ1.out]; exact HG.out⟩, by simp [intOf]; omega⟩
      · skip
        go_simp
        refine (HLX.out _).mono ?_
        rintro e w3 ⟨rfl, hw3⟩
        subst hw3
        refine hK.out _ _ trivial (fun hHeld => ?_)
        clear hK K
        refine wpAnyH_ready (rs := [0]) (by kernel_rfl) (by simp) ?_
        refine ready_tk (i := 0) rfl (by rfl) (fun K hK => ?_) AllReadyH.nil
        go_simp
        refine hK.out _ _ trivial (fun hHeld => ?_)
        clear hK K
        refine wpAnyH_ready (rs := [4]) (by kernel_rfl) (by simp) ?_
        refine ready_tk (i := 4) rfl (by rfl) (fun K hK => ?_) AllReadyH.nil
        go_simp
        rw [HMI.out]
        refine hK.out _ _ trivial (fun hHeld => ?_)
        clear hK K
        refine wpAnyH_ready (rs := [5]) (by kernel_rfl) (by simp) ?_
        refine ready_tk (i := 5) rfl (by rfl) (fun K hK => ?_) AllReadyH.nil
        go_simp
        refine hK.out _ _ trivial (fun hHeld => ?_)
        clear hK K
        refine wpAnyH_done (by kernel_rfl) ?_ _
        clear hHeld
        go_wp2
        exact ⟨⟨k + 1, by omega, by go_num, by rw [HQ1.out]; exact HG.out⟩, by simp [intOf]; omega⟩
    · have hke : k = L.length := by omega
      subst hke
      have c6 : wr.cell? ⟨w1.heap.size, 0, none⟩ = some (.int .i64 (mxS L L.length)) := by simp [World.cell?, hbox]
      have HDL : Hid (Calls Tryd.prog 33 #[.slice uo L.length uc, .func (.func 32) #[] #[.pointer (some ⟨w1.heap.size, 0, none⟩)]] wr fun e w' => ∃ u, e = .returned u ∧ w'.ownsRow W.heap.size 3 1 u (greL L).length (ints (greL L)) ∧ Below W.heap.size wr w') := by
        have h := deleteI_any W.heap.size (mxS L L.length) w1.heap.size L _ wr HMD.out.own HMD.out.bel.size (by omega) HL8.out c6 HNB.out
        rw [del_gre] at h
        exact h
      generalize hys : greL L = ys at *
      have HYE : Hid (greL L = ys) := hys
      clear hys
      clear c6 hbox
      go_wp2_with fail
      refine HDL.out.mono ?_
      rintro e w3 ⟨u, rfl, hu, hb3⟩
      obtain ⟨yo, yc, hyv⟩ := owns_form hu
      subst hyv
      have HB3 : Hid (Below W.heap.size W w3) := HMD.out.bel.trans hb3
      have hres : w3.heap[w.heap.size]? = some (.cells #[.int .i64 0, .slice none 0 0] 28 (0, 0)) := (HB3.out.block _ (by rw [HWS.out]; omega)).trans HR0.out
      have r0 : w3.cell? ⟨w.heap.size, 0, none⟩ = some (.int .i64 0) := by simp [World.cell?, hres]
      have r1 : w3.cell? ⟨w.heap.size, 1, none⟩ = some (.slice none 0 0) := by simp [World.cell?, hres]
      have rf0 : w3.frozen? ⟨w.heap.size, 0, none⟩ = false := by simp [World.frozen?, hres]
      have rf1 : w3.frozen? ⟨w.heap.size, 1, none⟩ = false := by simp [World.frozen?, hres]
      have HBW : Hid (Below w.heap.size w w3) := HBA.out.trans (HB3.out.mono HBA.out.size)
      have HBX : Hid (Below w.heap.size w ((w3.setCell ⟨w.heap.size, 0, none⟩ (.int .i64 n)).setCell ⟨w.heap.size, 1, none⟩ (.slice yo ys.length yc))) := (HBW.out.setCell (by simp) _).setCell (by simp) _
      have HSX : Hid (Sl 0 3 ((w3.setCell ⟨w.heap.size, 0, none⟩ (.int .i64 n)).setCell ⟨w.heap.size, 1, none⟩ (.slice yo ys.length yc)) (.slice yo ys.length yc) (ints ys)) := by
        have h1 : ((w3.setCell ⟨w.heap.size, 0, none⟩ (.int .i64 n)).setCell ⟨w.heap.size, 1, none⟩ (.slice yo ys.length yc)).ownsRow W.heap.size 3 1 (.slice yo ys.length yc) ys.length (ints ys) := by
          refine ⟨hu.1, ?_⟩
          rcases hu.2 with h1 | ⟨g, cap, cur, e1, h2, h3, h4⟩
          · exact .inl h1
          · have := HWS.out
            exact .inr ⟨g, cap, cur, e1, h2, (Below.heap_setCell _ _ _ _ (by show g ≠ w.heap.size; omega)).trans ((Below.heap_setCell _ _ _ _ (by show g ≠ w.heap.size; omega)).trans h3), h4⟩
        exact Sl.own h1
      clear hu hb3 hres
      go_wp2
      exact bodyPost_ret (v := .agg #[.int .i64 n, .slice yo ys.length yc]) (by simp [results, Tryd.results19, go_sem, *]) rfl ⟨_, rfl, by rw [HYE.out]; exact HSX.out, HBX.out⟩

end Go.Proofs.YtomhhonigffilaaDoor
