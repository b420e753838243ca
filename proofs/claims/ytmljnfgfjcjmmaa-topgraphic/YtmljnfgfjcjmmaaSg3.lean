/- plane.closed (made by mksg3.py out of Sg3.head). -/
import Derived.Test.YtmljnfgfjcjmmaaSgB
import Derived.Laws.RangeString
import Derived.Deep.LoopGhost
namespace Go.Proofs.Ytmljnfgfjcjmmaa
open Go.RowKit Lin
attribute [local go_sem ↓] Go.wp_at_zero Go.wp_at_succ

/-- The cut's box beside the iterator over the text. -/
structure CtK (w : World) (d : Nat) (M : List (List Int)) (B : ByteArray) (k : Nat) (wr : World) : Prop where
  I : CtI w w.heap.size (w.heap.size + 1) d M wr
  it : wr.heap[w.heap.size + 1 + 1]? = some (.stringIter B k)

theorem CtK.below {w wr w2 : World} {d k : Nat} {M : List (List Int)} {B : ByteArray} (h : CtK w d M B k wr) (hb : Below wr.heap.size wr w2) : CtK w d M B k w2 :=
  ⟨h.I.below hb (Nat.le_refl _), (hb.block _ (Array.getElem?_eq_some_iff.1 h.it).1).trans h.it⟩

theorem CtK.boxc {w wr : World} {d k : Nat} {M : List (List Int)} {B : ByteArray} (h : CtK w d M B k wr) : ∃ so sc, wr.cell? ⟨w.heap.size + 1, 1, none⟩ = some (.slice so M.length sc) := by
  obtain ⟨sv, hbox, vs, f1, f2, f3⟩ := h.I.box
  obtain ⟨so, sc, rfl⟩ := owns_form f2
  exact ⟨so, sc, by simp [World.cell?, hbox]⟩

theorem one_atC {w : World} {q : Nat} {x : Value} {t : TypeId} (h : w.heap[q]? = some (.cells #[x] t (0, 0))) : ∀ j u, [x][j]? = some u → w.cell? ((⟨q, 0, none⟩ : Addr).add j) = some u := by
  intro j u hj
  rcases j with _ | j
  · simp at hj
    subst hj
    simp [World.cell?, Addr.add, h]
  · simp at hj

theorem CtK.push {w wr wx : World} {d k : Nat} {M : List (List Int)} {B : ByteArray} {u : Value} {zs : List Int} (h : CtK w d M B k wr) (hx : Below wr.heap.size wr wx) (hu : Sl 0 3 wx u (ints zs)) :
    ∃ so sc vs, wx.cell? ⟨w.heap.size + 1, 1, none⟩ = some (.slice so M.length sc) ∧ (wx.alloc (.cells #[u] 22)).cell? ⟨w.heap.size + 1, 1, none⟩ = some (.slice so M.length sc) ∧ (∀ j y, [u][j]? = some y → (wx.alloc (.cells #[u] 22)).cell? ((⟨wx.heap.size, 0, none⟩ : Addr).add j) = some y) ∧ (Below w.heap.size w (wx.alloc (.cells #[u] 22)) ∧ Below w.heap.size w wx) ∧ (wx.alloc (.cells #[u] 22)).ownsRow (w.heap.size + 1 + 1) 22 1 (.slice so M.length sc) M.length vs ∧ w.heap.size + 1 + 1 ≤ (wx.alloc (.cells #[u] 22)).heap.size ∧
      ∀ v' w5, w5.ownsRow (w.heap.size + 1 + 1) 22 1 v' (M.length + 1) (vs ++ [u]) → (wx.alloc (.cells #[u] 22)).grownBy w5 (Value.slice so M.length sc).ownBlock → w5.cell? ⟨w.heap.size + 1, 1, none⟩ = some (.slice so M.length sc) ∧ w5.frozen? ⟨w.heap.size + 1, 1, none⟩ = false ∧ CtK w d (M ++ [zs]) B k (w5.setCell ⟨w.heap.size + 1, 1, none⟩ v') ∧ Below w.heap.size w w5 := by
  obtain ⟨so, sc, vs, h1, h2, h3, h4⟩ := h.I.push hx hu
  have hX := h.below hx
  have hlt : w.heap.size + 1 + 1 < wx.heap.size := (Array.getElem?_eq_some_iff.1 hX.it).1
  have hbx : Below w.heap.size w wx := hX.I.bel
  have hba : Below w.heap.size w (wx.alloc (.cells #[u] 22)) := hbx.alloc hbx.size _
  have hc1 : (wx.alloc (.cells #[u] 22)).cell? ⟨w.heap.size + 1, 1, none⟩ = some (.slice so M.length sc) := ((alloc_keep wx (.cells #[u] 22)).cell (p := ⟨w.heap.size + 1, 1, none⟩) (by show w.heap.size + 1 < _; omega)).trans h1
  refine ⟨so, sc, vs, h1, hc1, one_atC (heap_alloc_new wx _), ⟨hba, hbx⟩, h2.alloc _, by simp; omega, fun v' w5 ho hg => ?_⟩
  obtain ⟨k1, k2, k3⟩ := h4 v' w5 ho hg
  refine ⟨k1, k2, ⟨k3, ?_⟩, ?_⟩
  · refine (Below.heap_setCell _ _ _ _ (by show w.heap.size + 1 + 1 ≠ w.heap.size + 1; omega)).trans ?_
    refine (hg.block _ (by simp; omega) (fun e => ?_)).trans ((Below.heap_alloc wx _ _ hlt).trans hX.it)
    rcases h2.2 with ⟨q, _⟩ | ⟨g, cap, cur, q, _, q2, _⟩
    · rw [q] at e; simp [Value.ownBlock] at e
    · rw [q] at e
      simp [Value.ownBlock] at e
      rw [← e, hX.it] at q2
      cases q2
  · refine hba.trans ⟨hg.os, hg.tape, hg.output, Nat.le_trans (by simp) hg.size, fun b hb => hg.block b (by simp; omega) (fun e => ?_)⟩
    have := (h2.lt b e.symm).1
    omega

set_option maxRecDepth 100000 in
set_option maxHeartbeats 3200000 in
theorem closed_any (d : Nat) (P : List (List Int)) (s : List UInt8) (v : Value) (w : World) (hv : Mat 0 22 3 w v P) (hP : ∀ p ∈ P, p.length = d + 1 ∧ ∀ z ∈ p, z.natAbs ≤ 20) (hd3 : d ≤ 3) (hs : s.length ≤ P.length) (hs6 : P.length ≤ 6) (hc : ∀ c ∈ s, c = 43 ∨ c = 45 ∨ c = 48) :
    Calls Try.prog 33 #[.int .i64 d, v, .string ⟨s.toArray⟩] w fun e w' => ∃ xo xc, e = .returned (.agg #[.int .i64 d, .slice xo (clR P s).length xc]) ∧ Mat 0 22 3 w' (.slice xo (clR P s).length xc) (clR P s) ∧ Below w.heap.size w w' := by
  obtain ⟨i0, hi0, hz0, hz1, hz2⟩ := info_parts infoSlC
  obtain ⟨ro, rc, hvv, hlc, hcm⟩ := mat_open hv
  subst hvv
  obtain ⟨B, hB⟩ : ∃ B : ByteArray, B = ⟨s.toArray⟩ := ⟨_, rfl⟩
  have HBS : Hid (B.size = s.length) := (by rw [hB]; rfl : B.size = s.length)
  have HBK : Hid (∀ k, k < s.length → ∃ c : UInt8, (c = 43 ∨ c = 45 ∨ c = 48) ∧ s.getD k 0 = c ∧ ∀ (X : World) (t ty : Nat), X.heap[t]? = some (.stringIter B k) → (Instr.next (.pointer (some ⟨t, 0, none⟩)) true ty).run Try.prog X = .ok (.tuple #[.bool true, .int .i64 (k : Int), .int .i32 (c.toNat : Int)]) (X.iterAt t B (k + 1))) := fun k hk => by
    have e : s.getD k 0 = s[k] := by simp [hk]
    have hm : s[k] ∈ s := List.getElem_mem hk
    refine ⟨s[k], hc _ hm, e, fun X t ty hX => ?_⟩
    have hlt : k < B.size := by rw [HBS.out]; exact hk
    have hb : B[k]'hlt = s[k] := by subst hB; rfl
    have ha : (B[k]'hlt).toNat < 128 := by
      rw [hb]
      rcases hc _ hm with q | q | q <;> rw [q] <;> decide
    rw [Lib.run_next_ascii_at X t B k ty hX hlt ha, hb]
  have HBE : Hid (∀ (X : World) (t ty : Nat), X.heap[t]? = some (.stringIter B s.length) → (Instr.next (.pointer (some ⟨t, 0, none⟩)) true ty).run Try.prog X = .ok (.tuple #[.bool false]) X) := fun X t ty hX =>
    Lib.run_next_end_at X t B s.length ty hX (by rw [HBS.out]; omega)
  have HV : Hid (∀ k, k < s.length → ∃ pb po ra rca, ro = some ⟨pb, po, none⟩ ∧ ∀ X, Below w.heap.size w X → X.cell? ⟨pb, po + k, none⟩ = some (.slice ra (d + 1) rca) ∧ Sl 0 3 X (.slice ra (d + 1) rca) (ints (P.getD k []))) := fun k hk => by
    have hkP : k < P.length := by omega
    obtain ⟨pb, po, cap, u, e1, _, h1, h2⟩ := mat_cell hv hkP
    simp only [Value.slice.injEq] at e1
    obtain ⟨ra, rca, rfl, _, _⟩ := sl_open h2
    have hl := (hP (P.getD k []) (getD_memR hkP)).1
    rw [hl] at h1 h2
    exact ⟨pb, po, ra, rca, e1.1, fun X hX => ⟨(hX.cell (lt_of_cell h1)).trans h1, h2.below hX (Nat.le_refl _)⟩⟩
  have HN : Hid (∀ k, k < s.length → ∀ X u, Below w.heap.size w X → Sl 0 3 X u (ints (P.getD k [])) → Calls Try.prog 49 #[u] X fun e w' => ∃ no nc, e = .returned (.slice no (d + 1) nc) ∧ Sl 0 3 w' (.slice no (d + 1) nc) (ints (ngL (P.getD k []))) ∧ Below X.heap.size X w') := fun k hk X u hX hu => by
    obtain ⟨hl, hb⟩ := hP (P.getD k []) (getD_memR (by omega))
    refine (negated_own 0 _ _ X hu (by omega) (fun z hz => by have := hb z hz; omega)).mono ?_
    rintro e w' ⟨u2, rfl, ho, hb2⟩
    have hs2 : Sl 0 3 w' u2 (ints (ngL (P.getD k []))) := Sl.own ho
    obtain ⟨no, nc, rfl, _, _⟩ := sl_open hs2
    have hl2 : (ngL (P.getD k [])).length = d + 1 := by simp only [ngL, List.length_map]; exact hl
    rw [hl2] at hs2 ⊢
    exact ⟨no, nc, rfl, hs2, hb2⟩
  have HLN : Hid (∀ k, k ≤ s.length → (clT P s k).length ≤ 12) := fun k hk => by
    have := clT_len P s k
    omega
  rw [← hB]
  clear hB hv hP hc
  have HI0 : Hid (CtK w d [] B 0 (((w.alloc (.cells #[.int .i64 0, .slice none 0 0] 69)).alloc (.cells #[.int .i64 d, .slice none 0 0] 69)).iter B 0)) := by
    have h0 := CtI.start w (w.alloc (.cells #[.int .i64 0, .slice none 0 0] 69)) w.heap.size d (Nat.le_refl _) (heap_alloc_new w _) ((Below.refl _ _).alloc (Nat.le_refl _) _)
    have e : (w.alloc (.cells #[.int .i64 0, .slice none 0 0] 69)).heap.size = w.heap.size + 1 := by simp
    rw [e] at h0
    refine ⟨h0.below ((Below.refl _ _).alloc (Nat.le_refl _) _) (Nat.le_refl _), ?_⟩
    have := World.iter_heap ((w.alloc (.cells #[.int .i64 0, .slice none 0 0] 69)).alloc (.cells #[.int .i64 d, .slice none 0 0] 69)) B 0
    simpa using this
  go_enter Try.func33, Try.ntmps33
  go_wp2
  go_loopg [8, 9] s.length (fun gk _ _ wr => ∃ k, k ≤ s.length ∧ gk = s.length - k ∧ CtK w d (clT P s k) B k wr)
  case atStart => exact ⟨0, Nat.zero_le _, rfl, HI0.out⟩
  case round =>
    obtain ⟨k, hk, hgk, hck⟩ := hrel
    have HGK : Hid (gk = s.length - k) := hgk
    by_cases hlt : k < s.length
    · obtain ⟨c, hcc, hcs, hnx⟩ := HBK.out k hlt
      have hnx := hnx wr (w.heap.size + 1 + 1)
      have hnx := fun ty => hnx ty hck.it
      obtain ⟨W1, hW1⟩ : ∃ W1, W1 = wr.iterAt (w.heap.size + 1 + 1) B (k + 1) := ⟨_, rfl⟩
      rw [← hW1] at hnx
      obtain ⟨M, hM⟩ : ∃ M, M = clT P s k := ⟨_, rfl⟩
      have hMl := HLN.out k hk
      rw [← hM] at hck hMl
      have HCK : Hid (CtK w d M B (k + 1) W1) := by
        rw [hW1]
        exact ⟨hck.I.iterAt hck.it (k + 1) (by omega), Lib.iterAt_heap wr _ B k (k + 1) hck.it⟩
      obtain ⟨pb, po, ra, rca, hro, hrc⟩ := HV.out k hlt
      subst hro
      have HRC : Hid (∀ X, Below w.heap.size w X → X.cell? ⟨pb, po + k, none⟩ = some (.slice ra (d + 1) rca) ∧ Sl 0 3 X (.slice ra (d + 1) rca) (ints (P.getD k []))) := hrc
      have HNG : Hid (∀ X, Below w.heap.size w X → Calls Try.prog 49 #[.slice ra (d + 1) rca] X fun e w' => ∃ no nc, e = .returned (.slice no (d + 1) nc) ∧ Sl 0 3 w' (.slice no (d + 1) nc) (ints (ngL (P.getD k []))) ∧ Below X.heap.size X w') := fun X hX => HN.out k hlt X _ hX (hrc X hX).2
      have HCQ : Hid (clT P s k = M ∧ s.getD k 0 = c) := ⟨hM.symm, hcs⟩
      have hkP : (k : Int) < (P.length : Int) := by omega
      have hk0 : (0 : Int) ≤ (k : Int) := by omega
      clear hrc hgk hck hW1 hM hcs HV HN HI0 HBK HBE
      rcases hcc with rfl | rfl | rfl
      · have hnx : ∀ ty, (Instr.next (.pointer (some ⟨w.heap.size + 1 + 1, 0, none⟩)) true ty).run Try.prog wr = .ok (.tuple #[.bool true, .int .i64 (k : Int), .int .i32 43]) W1 := hnx
        go_upto_region 8 with fail
        have hb0 := HCK.out.boxc
        obtain ⟨so0, sc0, hb0⟩ := hb0
        · refine wp_region_held (S := fun X => X.cell? ⟨pb, po + k, none⟩ = some (.slice ra (d + 1) rca)) (by kernel_rfl) ?_
          show wpAnyH _ _ _ _ _ _ _ _ W1.drew
          have hHeld := (HRC.out W1.drew (HCK.out.I.bel.trans ((Below.refl W1.heap.size W1).drew.mono HCK.out.I.bel.size))).1
          have hbd : W1.drew.cell? ⟨w.heap.size + 1, 1, none⟩ = some (.slice so0 M.length sc0) := hb0
          refine wpAnyH_tk (i := 0) (d := 31) (v := (.pointer (some ⟨w.heap.size + 1, 1, none⟩))) rfl rfl (by kernel_rfl) (by kernel_rfl) (by kernel_rfl) (fun _ _ _ h => h) (.inl ⟨by rfl, by (intro wq hSw; (try dsimp only at hSw); go_simp; (try (first | rfl | omega)))⟩) hHeld ?_
          simp only [Act.put, List.setIfInBounds_toArray, List.set_cons_zero, List.set_cons_succ]
          refine wpAnyH_tk (i := 2) (d := 33) (v := (.slice (some ⟨pb, po, none⟩) P.length rc)) rfl rfl (by kernel_rfl) (by kernel_rfl) (by kernel_rfl) (fun _ _ _ h => h) (.inl ⟨by rfl, by (intro wq hSw; (try dsimp only at hSw); go_simp; (try (first | rfl | omega)))⟩) hHeld ?_
          simp only [Act.put, List.setIfInBounds_toArray, List.set_cons_zero, List.set_cons_succ]
          refine wpAnyH_tk (i := 3) (d := 34) (v := (.int .i64 (k : Int))) rfl rfl (by kernel_rfl) (by kernel_rfl) (by kernel_rfl) (fun _ _ _ h => h) (.inl ⟨by rfl, by (intro wq hSw; (try dsimp only at hSw); go_simp; (try (first | rfl | omega)))⟩) hHeld ?_
          simp only [Act.put, List.setIfInBounds_toArray, List.set_cons_zero, List.set_cons_succ]
          refine wpAnyH_tk (i := 4) (d := 35) (v := (.pointer (some ⟨pb, po + k, none⟩))) rfl rfl (by kernel_rfl) (by kernel_rfl) (by kernel_rfl) (fun _ _ _ h => h) (.inl ⟨by rfl, by (intro wq hSw; (try dsimp only at hSw); go_simp; (try (first | rfl | omega)))⟩) hHeld ?_
          simp only [Act.put, List.setIfInBounds_toArray, List.set_cons_zero, List.set_cons_succ]
          refine wpAnyH_tk (i := 5) (d := 36) (v := (.slice ra (d + 1) rca)) rfl rfl (by kernel_rfl) (by kernel_rfl) (by kernel_rfl) (fun _ _ _ h => h) (.inl ⟨by rfl, by (intro wq hSw; (try dsimp only at hSw); go_simp; (try (first | rfl | omega)))⟩) hHeld ?_
          simp only [Act.put, List.setIfInBounds_toArray, List.set_cons_zero, List.set_cons_succ]
          refine wpAnyH_ready (rs := [1, 6]) (by kernel_rfl) (by simp) ?_
          refine ready_tk (i := 1) rfl (by rfl) (fun K hK => ?_) (ready_tk (i := 6) rfl (by rfl) (fun K hK => ?_) AllReadyH.nil)
          · go_simp
            refine hK.out _ _ hHeld (fun hHeld => ?_)
            clear hK K
            try simp only [Act.put, List.setIfInBounds_toArray, List.set_cons_zero, List.set_cons_succ]
            refine wpAnyH_ready (rs := [6]) (by kernel_rfl) (by simp) ?_
            refine ready_tk (i := 6) rfl (by rfl) (fun K hK => ?_) AllReadyH.nil

            go_simp
            refine (HNG.out _ (HCK.out.I.bel.trans ((Below.refl W1.heap.size W1).drew.mono HCK.out.I.bel.size))).mono ?_
            rintro e wx ⟨uo, uc, rfl, hsl, hxb0⟩
            have hxb : Below W1.heap.size W1 wx := (Below.refl _ _).drew.trans hxb0
            obtain ⟨zs, hzs⟩ : ∃ zs, zs = ngL (P.getD k []) := ⟨_, rfl⟩
            rw [← hzs] at hsl
            have HZS : Hid (zs = ngL (P.getD k [])) := hzs

            obtain ⟨so, sc, vs, e1, e2, e3, e4, e5, e6, e7⟩ := HCK.out.push hxb hsl
            obtain ⟨W5, hW5⟩ : ∃ W5, W5 = wx.alloc (.cells #[.slice uo (d + 1) uc] 22) := ⟨_, rfl⟩
            rw [← hW5] at e2 e3 e4 e5 e6 e7
            have HW5 : Hid (W5 = wx.alloc (.cells #[.slice uo (d + 1) uc] 22)) := hW5
            have HOW : Hid (W5.ownsRow (w.heap.size + 1 + 1) 22 1 (.slice so M.length sc) M.length vs) := e5
            have HNW : Hid (∀ j u, [Value.slice uo (d + 1) uc][j]? = some u → W5.cell? ((⟨wx.heap.size, 0, none⟩ : Addr).add j) = some u) := e3
            have HSZ : Hid (w.heap.size + 1 + 1 ≤ W5.heap.size) := e6
            have HPU : Hid (∀ v' w5, w5.ownsRow (w.heap.size + 1 + 1) 22 1 v' (M.length + 1) (vs ++ [.slice uo (d + 1) uc]) → W5.grownBy w5 (Value.slice so M.length sc).ownBlock → w5.cell? ⟨w.heap.size + 1, 1, none⟩ = some (.slice so M.length sc) ∧ w5.frozen? ⟨w.heap.size + 1, 1, none⟩ = false ∧ CtK w d (M ++ [zs]) B (k + 1) (w5.setCell ⟨w.heap.size + 1, 1, none⟩ v') ∧ Below w.heap.size w w5) := e7
            have HW5B : Hid (Below w.heap.size w W5) := e4.1
            have HXB : Hid (Below w.heap.size w wx) := e4.2
            have b1 := e1
            have b2 := e2
            clear e1 e2 e3 e4 e5 e6 e7 hW5

            have hxbq : Hid (Below W1.heap.size W1 wx) := hxb
            clear hsl hxb hxb0 hzs
            refine hK.out _ _ (HRC.out _ HXB.out).1 (fun hHeld => ?_)
            clear hK K
            try simp only [Act.put, List.setIfInBounds_toArray, List.set_cons_zero, List.set_cons_succ]

            have hsame : Value.slice so0 M.length sc0 = .slice so M.length sc := by
              have q := (hxbq.cell (p := ⟨w.heap.size + 1, 1, none⟩) (lt_of_cell hb0)).trans hb0
              rw [b1] at q
              exact (Option.some.inj q).symm
            rw [hsame]

            refine wpAnyH_ready (rs := [7]) (by kernel_rfl) (by simp) ?_
            refine ready_tk (i := 7) rfl (by rfl) (fun K hK => ?_) AllReadyH.nil

            go_simp
            rw [← HW5.out]
            refine hK.out _ _ (HRC.out _ HW5B.out).1 (fun hHeld => ?_)
            clear hK K
            try simp only [Act.put, List.setIfInBounds_toArray, List.set_cons_zero, List.set_cons_succ]

            refine wpAnyH_ready (rs := [8]) (by kernel_rfl) (by simp) ?_
            refine ready_tk (i := 8) rfl (by rfl) (fun K hK => ?_) AllReadyH.nil
            refine op_append_ownA _ _ 26 rfl (w.heap.size + 1 + 1) 22 i0 (.slice none 0 0) 1 24 Try.underlying26 hi0 hz0 hz1 hz2 rfl (by decide) (.slice so M.length sc) M.length vs rfl HOW.out ⟨wx.heap.size, 0, none⟩ 1 1 [.slice uo (d + 1) uc] rfl rfl HNW.out (one_slice _ _ _) (by unfold maxLen; omega) (by omega) HSZ.out ?_
            intro v' w6 ho hg _
            obtain ⟨vo8, vc8, hv8⟩ := owns_form ho
            subst hv8
            obtain ⟨k1, k2, k3, k4⟩ := HPU.out (.slice vo8 (M.length + 1) vc8) w6 ho hg
            have K3 : Hid (CtK w d (M ++ [zs]) B (k + 1) (w6.setCell ⟨w.heap.size + 1, 1, none⟩ (.slice vo8 (M.length + 1) vc8))) := k3
            have K5 : Hid (w6.cell? ⟨pb, po + k, none⟩ = some (.slice ra (d + 1) rca) ∧ (w6.setCell ⟨w.heap.size + 1, 1, none⟩ (.slice vo8 (M.length + 1) vc8)).cell? ⟨pb, po + k, none⟩ = some (.slice ra (d + 1) rca)) := ⟨(HRC.out _ k4).1, (HRC.out _ k3.I.bel).1⟩
            clear k3 k4 ho hg
            refine hK.out _ _ K5.out.1 (fun hHeld => ?_)
            clear hK K
            try simp only [Act.put, List.setIfInBounds_toArray, List.set_cons_zero, List.set_cons_succ]
            refine wpAnyH_tk (i := 9) (d := 40) (v := (.pointer (some ⟨w.heap.size + 1, 1, none⟩))) rfl rfl (by kernel_rfl) (by kernel_rfl) (by kernel_rfl) (fun _ _ _ h => h) (.inl ⟨by rfl, by (intro wq hSw; (try dsimp only at hSw); go_simp; (try (first | rfl | omega)))⟩) hHeld ?_
            simp only [Act.put, List.setIfInBounds_toArray, List.set_cons_zero, List.set_cons_succ]
            refine wpAnyH_ready (rs := [10]) (by kernel_rfl) (by simp) ?_
            refine ready_tk (i := 10) rfl (by rfl) (fun K hK => ?_) AllReadyH.nil
            go_simp
            refine hK.out _ _ K5.out.2 (fun hHeld => ?_)
            clear hK K
            refine wpAnyH_done (by kernel_rfl) ?_ _
            clear hHeld
            have HF : Hid (CtK w d (clT P s (k + 1)) B (k + 1) (w6.setCell ⟨w.heap.size + 1, 1, none⟩ (.slice vo8 (M.length + 1) vc8))) := by
              have h9 := K3.out
              show CtK w d (clT P s (k + 1)) B (k + 1) _
              rw [HZS.out] at h9
              have e2 : M ++ [ngL (P.getD k [])] = M ++ clO (P.getD k []) 43 := by simp [clO]
              rw [e2] at h9
              rw [clT_succ, HCQ.out.1, HCQ.out.2]; exact h9
            have hgm : s.length - (k + 1) < gk := by rw [HGK.out]; omega
            clear K3 K5
            go_wp2
            go_roundg (s.length - (k + 1))
            case measure => exact hgm
            case rel => exact ⟨k + 1, by omega, rfl, HF.out⟩
          · go_simp
            refine (HNG.out _ (HCK.out.I.bel.trans ((Below.refl W1.heap.size W1).drew.mono HCK.out.I.bel.size))).mono ?_
            rintro e wx ⟨uo, uc, rfl, hsl, hxb0⟩
            have hxb : Below W1.heap.size W1 wx := (Below.refl _ _).drew.trans hxb0
            obtain ⟨zs, hzs⟩ : ∃ zs, zs = ngL (P.getD k []) := ⟨_, rfl⟩
            rw [← hzs] at hsl
            have HZS : Hid (zs = ngL (P.getD k [])) := hzs

            obtain ⟨so, sc, vs, e1, e2, e3, e4, e5, e6, e7⟩ := HCK.out.push hxb hsl
            obtain ⟨W5, hW5⟩ : ∃ W5, W5 = wx.alloc (.cells #[.slice uo (d + 1) uc] 22) := ⟨_, rfl⟩
            rw [← hW5] at e2 e3 e4 e5 e6 e7
            have HW5 : Hid (W5 = wx.alloc (.cells #[.slice uo (d + 1) uc] 22)) := hW5
            have HOW : Hid (W5.ownsRow (w.heap.size + 1 + 1) 22 1 (.slice so M.length sc) M.length vs) := e5
            have HNW : Hid (∀ j u, [Value.slice uo (d + 1) uc][j]? = some u → W5.cell? ((⟨wx.heap.size, 0, none⟩ : Addr).add j) = some u) := e3
            have HSZ : Hid (w.heap.size + 1 + 1 ≤ W5.heap.size) := e6
            have HPU : Hid (∀ v' w5, w5.ownsRow (w.heap.size + 1 + 1) 22 1 v' (M.length + 1) (vs ++ [.slice uo (d + 1) uc]) → W5.grownBy w5 (Value.slice so M.length sc).ownBlock → w5.cell? ⟨w.heap.size + 1, 1, none⟩ = some (.slice so M.length sc) ∧ w5.frozen? ⟨w.heap.size + 1, 1, none⟩ = false ∧ CtK w d (M ++ [zs]) B (k + 1) (w5.setCell ⟨w.heap.size + 1, 1, none⟩ v') ∧ Below w.heap.size w w5) := e7
            have HW5B : Hid (Below w.heap.size w W5) := e4.1
            have HXB : Hid (Below w.heap.size w wx) := e4.2
            have b1 := e1
            have b2 := e2
            clear e1 e2 e3 e4 e5 e6 e7 hW5

            have hxbq : Hid (Below W1.heap.size W1 wx) := hxb
            clear hsl hxb hxb0 hzs
            refine hK.out _ _ (HRC.out _ HXB.out).1 (fun hHeld => ?_)
            clear hK K
            try simp only [Act.put, List.setIfInBounds_toArray, List.set_cons_zero, List.set_cons_succ]

            refine wpAnyH_ready (rs := [1, 7]) (by kernel_rfl) (by simp) ?_
            refine ready_tk (i := 1) rfl (by rfl) (fun K hK => ?_) (ready_tk (i := 7) rfl (by rfl) (fun K hK => ?_) AllReadyH.nil)
            · go_simp
              refine hK.out _ _ (HRC.out _ HXB.out).1 (fun hHeld => ?_)
              clear hK K
              try simp only [Act.put, List.setIfInBounds_toArray, List.set_cons_zero, List.set_cons_succ]

              refine wpAnyH_ready (rs := [7]) (by kernel_rfl) (by simp) ?_
              refine ready_tk (i := 7) rfl (by rfl) (fun K hK => ?_) AllReadyH.nil

              go_simp
              rw [← HW5.out]
              refine hK.out _ _ (HRC.out _ HW5B.out).1 (fun hHeld => ?_)
              clear hK K
              try simp only [Act.put, List.setIfInBounds_toArray, List.set_cons_zero, List.set_cons_succ]

              refine wpAnyH_ready (rs := [8]) (by kernel_rfl) (by simp) ?_
              refine ready_tk (i := 8) rfl (by rfl) (fun K hK => ?_) AllReadyH.nil
              refine op_append_ownA _ _ 26 rfl (w.heap.size + 1 + 1) 22 i0 (.slice none 0 0) 1 24 Try.underlying26 hi0 hz0 hz1 hz2 rfl (by decide) (.slice so M.length sc) M.length vs rfl HOW.out ⟨wx.heap.size, 0, none⟩ 1 1 [.slice uo (d + 1) uc] rfl rfl HNW.out (one_slice _ _ _) (by unfold maxLen; omega) (by omega) HSZ.out ?_
              intro v' w6 ho hg _
              obtain ⟨vo8, vc8, hv8⟩ := owns_form ho
              subst hv8
              obtain ⟨k1, k2, k3, k4⟩ := HPU.out (.slice vo8 (M.length + 1) vc8) w6 ho hg
              have K3 : Hid (CtK w d (M ++ [zs]) B (k + 1) (w6.setCell ⟨w.heap.size + 1, 1, none⟩ (.slice vo8 (M.length + 1) vc8))) := k3
              have K5 : Hid (w6.cell? ⟨pb, po + k, none⟩ = some (.slice ra (d + 1) rca) ∧ (w6.setCell ⟨w.heap.size + 1, 1, none⟩ (.slice vo8 (M.length + 1) vc8)).cell? ⟨pb, po + k, none⟩ = some (.slice ra (d + 1) rca)) := ⟨(HRC.out _ k4).1, (HRC.out _ k3.I.bel).1⟩
              clear k3 k4 ho hg
              refine hK.out _ _ K5.out.1 (fun hHeld => ?_)
              clear hK K
              try simp only [Act.put, List.setIfInBounds_toArray, List.set_cons_zero, List.set_cons_succ]
              refine wpAnyH_tk (i := 9) (d := 40) (v := (.pointer (some ⟨w.heap.size + 1, 1, none⟩))) rfl rfl (by kernel_rfl) (by kernel_rfl) (by kernel_rfl) (fun _ _ _ h => h) (.inl ⟨by rfl, by (intro wq hSw; (try dsimp only at hSw); go_simp; (try (first | rfl | omega)))⟩) hHeld ?_
              simp only [Act.put, List.setIfInBounds_toArray, List.set_cons_zero, List.set_cons_succ]
              refine wpAnyH_ready (rs := [10]) (by kernel_rfl) (by simp) ?_
              refine ready_tk (i := 10) rfl (by rfl) (fun K hK => ?_) AllReadyH.nil
              go_simp
              refine hK.out _ _ K5.out.2 (fun hHeld => ?_)
              clear hK K
              refine wpAnyH_done (by kernel_rfl) ?_ _
              clear hHeld
              have HF : Hid (CtK w d (clT P s (k + 1)) B (k + 1) (w6.setCell ⟨w.heap.size + 1, 1, none⟩ (.slice vo8 (M.length + 1) vc8))) := by
                have h9 := K3.out
                show CtK w d (clT P s (k + 1)) B (k + 1) _
                rw [HZS.out] at h9
                have e2 : M ++ [ngL (P.getD k [])] = M ++ clO (P.getD k []) 43 := by simp [clO]
                rw [e2] at h9
                rw [clT_succ, HCQ.out.1, HCQ.out.2]; exact h9
              have hgm : s.length - (k + 1) < gk := by rw [HGK.out]; omega
              clear K3 K5
              go_wp2
              go_roundg (s.length - (k + 1))
              case measure => exact hgm
              case rel => exact ⟨k + 1, by omega, rfl, HF.out⟩
            · go_simp
              rw [← HW5.out]
              refine hK.out _ _ (HRC.out _ HW5B.out).1 (fun hHeld => ?_)
              clear hK K
              try simp only [Act.put, List.setIfInBounds_toArray, List.set_cons_zero, List.set_cons_succ]

              refine wpAnyH_ready (rs := [1]) (by kernel_rfl) (by simp) ?_
              refine ready_tk (i := 1) rfl (by rfl) (fun K hK => ?_) AllReadyH.nil

              go_simp
              refine hK.out _ _ (HRC.out _ HW5B.out).1 (fun hHeld => ?_)
              clear hK K
              try simp only [Act.put, List.setIfInBounds_toArray, List.set_cons_zero, List.set_cons_succ]

              refine wpAnyH_ready (rs := [8]) (by kernel_rfl) (by simp) ?_
              refine ready_tk (i := 8) rfl (by rfl) (fun K hK => ?_) AllReadyH.nil
              refine op_append_ownA _ _ 26 rfl (w.heap.size + 1 + 1) 22 i0 (.slice none 0 0) 1 24 Try.underlying26 hi0 hz0 hz1 hz2 rfl (by decide) (.slice so M.length sc) M.length vs rfl HOW.out ⟨wx.heap.size, 0, none⟩ 1 1 [.slice uo (d + 1) uc] rfl rfl HNW.out (one_slice _ _ _) (by unfold maxLen; omega) (by omega) HSZ.out ?_
              intro v' w6 ho hg _
              obtain ⟨vo8, vc8, hv8⟩ := owns_form ho
              subst hv8
              obtain ⟨k1, k2, k3, k4⟩ := HPU.out (.slice vo8 (M.length + 1) vc8) w6 ho hg
              have K3 : Hid (CtK w d (M ++ [zs]) B (k + 1) (w6.setCell ⟨w.heap.size + 1, 1, none⟩ (.slice vo8 (M.length + 1) vc8))) := k3
              have K5 : Hid (w6.cell? ⟨pb, po + k, none⟩ = some (.slice ra (d + 1) rca) ∧ (w6.setCell ⟨w.heap.size + 1, 1, none⟩ (.slice vo8 (M.length + 1) vc8)).cell? ⟨pb, po + k, none⟩ = some (.slice ra (d + 1) rca)) := ⟨(HRC.out _ k4).1, (HRC.out _ k3.I.bel).1⟩
              clear k3 k4 ho hg
              refine hK.out _ _ K5.out.1 (fun hHeld => ?_)
              clear hK K
              try simp only [Act.put, List.setIfInBounds_toArray, List.set_cons_zero, List.set_cons_succ]
              refine wpAnyH_tk (i := 9) (d := 40) (v := (.pointer (some ⟨w.heap.size + 1, 1, none⟩))) rfl rfl (by kernel_rfl) (by kernel_rfl) (by kernel_rfl) (fun _ _ _ h => h) (.inl ⟨by rfl, by (intro wq hSw; (try dsimp only at hSw); go_simp; (try (first | rfl | omega)))⟩) hHeld ?_
              simp only [Act.put, List.setIfInBounds_toArray, List.set_cons_zero, List.set_cons_succ]
              refine wpAnyH_ready (rs := [10]) (by kernel_rfl) (by simp) ?_
              refine ready_tk (i := 10) rfl (by rfl) (fun K hK => ?_) AllReadyH.nil
              go_simp
              refine hK.out _ _ K5.out.2 (fun hHeld => ?_)
              clear hK K
              refine wpAnyH_done (by kernel_rfl) ?_ _
              clear hHeld
              have HF : Hid (CtK w d (clT P s (k + 1)) B (k + 1) (w6.setCell ⟨w.heap.size + 1, 1, none⟩ (.slice vo8 (M.length + 1) vc8))) := by
                have h9 := K3.out
                show CtK w d (clT P s (k + 1)) B (k + 1) _
                rw [HZS.out] at h9
                have e2 : M ++ [ngL (P.getD k [])] = M ++ clO (P.getD k []) 43 := by simp [clO]
                rw [e2] at h9
                rw [clT_succ, HCQ.out.1, HCQ.out.2]; exact h9
              have hgm : s.length - (k + 1) < gk := by rw [HGK.out]; omega
              clear K3 K5
              go_wp2
              go_roundg (s.length - (k + 1))
              case measure => exact hgm
              case rel => exact ⟨k + 1, by omega, rfl, HF.out⟩
      · have hnx : ∀ ty, (Instr.next (.pointer (some ⟨w.heap.size + 1 + 1, 0, none⟩)) true ty).run Try.prog wr = .ok (.tuple #[.bool true, .int .i64 (k : Int), .int .i32 45]) W1 := hnx
        obtain ⟨zs, hzs⟩ : ∃ zs, zs = P.getD k [] := ⟨_, rfl⟩
        go_upto_region 6 with fail
        go_cut [8, 41] from 20 (fun x y wx => x = .int .i64 (k : Int) ∧ y = undef ∧ CtK w d (M ++ [P.getD k []]) B (k + 1) wx)
        case first =>
          have HZS : Hid (zs = P.getD k []) := hzs
          obtain ⟨wx, hwx⟩ : ∃ wx, wx = W1.drew := ⟨_, rfl⟩
          have hxb : Below W1.heap.size W1 wx := by rw [hwx]; exact (Below.refl _ _).drew
          have hsl : Sl 0 3 wx (.slice ra (d + 1) rca) (ints zs) := by rw [hzs]; exact (HRC.out _ (HCK.out.I.bel.trans (hxb.mono HCK.out.I.bel.size))).2
          obtain ⟨so, sc, vs, e1, e2, e3, e4, e5, e6, e7⟩ := HCK.out.push hxb hsl
          obtain ⟨W5, hW5⟩ : ∃ W5, W5 = wx.alloc (.cells #[.slice ra (d + 1) rca] 22) := ⟨_, rfl⟩
          rw [← hW5] at e2 e3 e4 e5 e6 e7
          have HW5 : Hid (W5 = wx.alloc (.cells #[.slice ra (d + 1) rca] 22)) := hW5
          have HOW : Hid (W5.ownsRow (w.heap.size + 1 + 1) 22 1 (.slice so M.length sc) M.length vs) := e5
          have HNW : Hid (∀ j u, [Value.slice ra (d + 1) rca][j]? = some u → W5.cell? ((⟨wx.heap.size, 0, none⟩ : Addr).add j) = some u) := e3
          have HSZ : Hid (w.heap.size + 1 + 1 ≤ W5.heap.size) := e6
          have HPU : Hid (∀ v' w5, w5.ownsRow (w.heap.size + 1 + 1) 22 1 v' (M.length + 1) (vs ++ [.slice ra (d + 1) rca]) → W5.grownBy w5 (Value.slice so M.length sc).ownBlock → w5.cell? ⟨w.heap.size + 1, 1, none⟩ = some (.slice so M.length sc) ∧ w5.frozen? ⟨w.heap.size + 1, 1, none⟩ = false ∧ CtK w d (M ++ [zs]) B (k + 1) (w5.setCell ⟨w.heap.size + 1, 1, none⟩ v') ∧ Below w.heap.size w w5) := e7
          have HW5B : Hid (Below w.heap.size w W5) := e4.1
          have HXB : Hid (Below w.heap.size w wx) := e4.2
          have b1 := e1
          have b2 := e2
          clear e1 e2 e3 e4 e5 e6 e7 hW5

          clear hsl hxb hzs
          refine wp_region_held (S := fun X => X.cell? ⟨pb, po + k, none⟩ = some (.slice ra (d + 1) rca)) (by kernel_rfl) ?_
          show wpAnyH _ _ _ _ _ _ _ _ W1.drew
          rw [← hwx]
          have hHeld := (HRC.out _ HXB.out).1
          clear hwx
          refine wpAnyH_tk (i := 0) (d := 20) (v := (.pointer (some ⟨w.heap.size + 1, 1, none⟩))) rfl rfl (by kernel_rfl) (by kernel_rfl) (by kernel_rfl) (fun _ _ _ h => h) (.inl ⟨by rfl, by (intro wq hSw; (try dsimp only at hSw); go_simp; (try (first | rfl | omega)))⟩) hHeld ?_
          simp only [Act.put, List.setIfInBounds_toArray, List.set_cons_zero, List.set_cons_succ]
          refine wpAnyH_tk (i := 2) (d := 22) (v := (.slice (some ⟨pb, po, none⟩) P.length rc)) rfl rfl (by kernel_rfl) (by kernel_rfl) (by kernel_rfl) (fun _ _ _ h => h) (.inl ⟨by rfl, by (intro wq hSw; (try dsimp only at hSw); go_simp; (try (first | rfl | omega)))⟩) hHeld ?_
          simp only [Act.put, List.setIfInBounds_toArray, List.set_cons_zero, List.set_cons_succ]
          refine wpAnyH_tk (i := 3) (d := 23) (v := (.int .i64 (k : Int))) rfl rfl (by kernel_rfl) (by kernel_rfl) (by kernel_rfl) (fun _ _ _ h => h) (.inl ⟨by rfl, by (intro wq hSw; (try dsimp only at hSw); go_simp; (try (first | rfl | omega)))⟩) hHeld ?_
          simp only [Act.put, List.setIfInBounds_toArray, List.set_cons_zero, List.set_cons_succ]
          refine wpAnyH_tk (i := 4) (d := 24) (v := (.pointer (some ⟨pb, po + k, none⟩))) rfl rfl (by kernel_rfl) (by kernel_rfl) (by kernel_rfl) (fun _ _ _ h => h) (.inl ⟨by rfl, by (intro wq hSw; (try dsimp only at hSw); go_simp; (try (first | rfl | omega)))⟩) hHeld ?_
          simp only [Act.put, List.setIfInBounds_toArray, List.set_cons_zero, List.set_cons_succ]
          refine wpAnyH_tk (i := 5) (d := 25) (v := (.slice ra (d + 1) rca)) rfl rfl (by kernel_rfl) (by kernel_rfl) (by kernel_rfl) (fun _ _ _ h => h) (.inl ⟨by rfl, by (intro wq hSw; (try dsimp only at hSw); go_simp; (try (first | rfl | omega)))⟩) hHeld ?_
          simp only [Act.put, List.setIfInBounds_toArray, List.set_cons_zero, List.set_cons_succ]
          refine wpAnyH_ready (rs := [1, 6]) (by kernel_rfl) (by simp) ?_
          refine ready_tk (i := 1) rfl (by rfl) (fun K hK => ?_) (ready_tk (i := 6) rfl (by rfl) (fun K hK => ?_) AllReadyH.nil)
          · go_simp
            refine hK.out _ _ (HRC.out _ HXB.out).1 (fun hHeld => ?_)
            clear hK K
            try simp only [Act.put, List.setIfInBounds_toArray, List.set_cons_zero, List.set_cons_succ]

            refine wpAnyH_ready (rs := [6]) (by kernel_rfl) (by simp) ?_
            refine ready_tk (i := 6) rfl (by rfl) (fun K hK => ?_) AllReadyH.nil

            go_simp
            rw [← HW5.out]
            refine hK.out _ _ (HRC.out _ HW5B.out).1 (fun hHeld => ?_)
            clear hK K
            try simp only [Act.put, List.setIfInBounds_toArray, List.set_cons_zero, List.set_cons_succ]

            refine wpAnyH_ready (rs := [7]) (by kernel_rfl) (by simp) ?_
            refine ready_tk (i := 7) rfl (by rfl) (fun K hK => ?_) AllReadyH.nil
            refine op_append_ownA _ _ 26 rfl (w.heap.size + 1 + 1) 22 i0 (.slice none 0 0) 1 24 Try.underlying26 hi0 hz0 hz1 hz2 rfl (by decide) (.slice so M.length sc) M.length vs rfl HOW.out ⟨wx.heap.size, 0, none⟩ 1 1 [.slice ra (d + 1) rca] rfl rfl HNW.out (one_slice _ _ _) (by unfold maxLen; omega) (by omega) HSZ.out ?_
            intro v' w6 ho hg _
            obtain ⟨vo8, vc8, hv8⟩ := owns_form ho
            subst hv8
            obtain ⟨k1, k2, k3, k4⟩ := HPU.out (.slice vo8 (M.length + 1) vc8) w6 ho hg
            have K3 : Hid (CtK w d (M ++ [zs]) B (k + 1) (w6.setCell ⟨w.heap.size + 1, 1, none⟩ (.slice vo8 (M.length + 1) vc8))) := k3
            have K5 : Hid (w6.cell? ⟨pb, po + k, none⟩ = some (.slice ra (d + 1) rca) ∧ (w6.setCell ⟨w.heap.size + 1, 1, none⟩ (.slice vo8 (M.length + 1) vc8)).cell? ⟨pb, po + k, none⟩ = some (.slice ra (d + 1) rca)) := ⟨(HRC.out _ k4).1, (HRC.out _ k3.I.bel).1⟩
            clear k3 k4 ho hg
            refine hK.out _ _ K5.out.1 (fun hHeld => ?_)
            clear hK K
            try simp only [Act.put, List.setIfInBounds_toArray, List.set_cons_zero, List.set_cons_succ]
            refine wpAnyH_tk (i := 8) (d := 28) (v := (.pointer (some ⟨w.heap.size + 1, 1, none⟩))) rfl rfl (by kernel_rfl) (by kernel_rfl) (by kernel_rfl) (fun _ _ _ h => h) (.inl ⟨by rfl, by (intro wq hSw; (try dsimp only at hSw); go_simp; (try (first | rfl | omega)))⟩) hHeld ?_
            simp only [Act.put, List.setIfInBounds_toArray, List.set_cons_zero, List.set_cons_succ]
            refine wpAnyH_ready (rs := [9]) (by kernel_rfl) (by simp) ?_
            refine ready_tk (i := 9) rfl (by rfl) (fun K hK => ?_) AllReadyH.nil
            go_simp
            refine hK.out _ _ K5.out.2 (fun hHeld => ?_)
            clear hK K
            refine wpAnyH_done (by kernel_rfl) ?_ _
            clear hHeld
            go_wp2
            go_meet
            exact ⟨rfl, rfl, by have h9 := K3.out; rwa [HZS.out] at h9⟩
          · go_simp
            rw [← HW5.out]
            refine hK.out _ _ (HRC.out _ HW5B.out).1 (fun hHeld => ?_)
            clear hK K
            try simp only [Act.put, List.setIfInBounds_toArray, List.set_cons_zero, List.set_cons_succ]

            refine wpAnyH_ready (rs := [1]) (by kernel_rfl) (by simp) ?_
            refine ready_tk (i := 1) rfl (by rfl) (fun K hK => ?_) AllReadyH.nil

            go_simp
            refine hK.out _ _ (HRC.out _ HW5B.out).1 (fun hHeld => ?_)
            clear hK K
            try simp only [Act.put, List.setIfInBounds_toArray, List.set_cons_zero, List.set_cons_succ]

            refine wpAnyH_ready (rs := [7]) (by kernel_rfl) (by simp) ?_
            refine ready_tk (i := 7) rfl (by rfl) (fun K hK => ?_) AllReadyH.nil
            refine op_append_ownA _ _ 26 rfl (w.heap.size + 1 + 1) 22 i0 (.slice none 0 0) 1 24 Try.underlying26 hi0 hz0 hz1 hz2 rfl (by decide) (.slice so M.length sc) M.length vs rfl HOW.out ⟨wx.heap.size, 0, none⟩ 1 1 [.slice ra (d + 1) rca] rfl rfl HNW.out (one_slice _ _ _) (by unfold maxLen; omega) (by omega) HSZ.out ?_
            intro v' w6 ho hg _
            obtain ⟨vo8, vc8, hv8⟩ := owns_form ho
            subst hv8
            obtain ⟨k1, k2, k3, k4⟩ := HPU.out (.slice vo8 (M.length + 1) vc8) w6 ho hg
            have K3 : Hid (CtK w d (M ++ [zs]) B (k + 1) (w6.setCell ⟨w.heap.size + 1, 1, none⟩ (.slice vo8 (M.length + 1) vc8))) := k3
            have K5 : Hid (w6.cell? ⟨pb, po + k, none⟩ = some (.slice ra (d + 1) rca) ∧ (w6.setCell ⟨w.heap.size + 1, 1, none⟩ (.slice vo8 (M.length + 1) vc8)).cell? ⟨pb, po + k, none⟩ = some (.slice ra (d + 1) rca)) := ⟨(HRC.out _ k4).1, (HRC.out _ k3.I.bel).1⟩
            clear k3 k4 ho hg
            refine hK.out _ _ K5.out.1 (fun hHeld => ?_)
            clear hK K
            try simp only [Act.put, List.setIfInBounds_toArray, List.set_cons_zero, List.set_cons_succ]
            refine wpAnyH_tk (i := 8) (d := 28) (v := (.pointer (some ⟨w.heap.size + 1, 1, none⟩))) rfl rfl (by kernel_rfl) (by kernel_rfl) (by kernel_rfl) (fun _ _ _ h => h) (.inl ⟨by rfl, by (intro wq hSw; (try dsimp only at hSw); go_simp; (try (first | rfl | omega)))⟩) hHeld ?_
            simp only [Act.put, List.setIfInBounds_toArray, List.set_cons_zero, List.set_cons_succ]
            refine wpAnyH_ready (rs := [9]) (by kernel_rfl) (by simp) ?_
            refine ready_tk (i := 9) rfl (by rfl) (fun K hK => ?_) AllReadyH.nil
            go_simp
            refine hK.out _ _ K5.out.2 (fun hHeld => ?_)
            clear hK K
            refine wpAnyH_done (by kernel_rfl) ?_ _
            clear hHeld
            go_wp2
            go_meet
            exact ⟨rfl, rfl, by have h9 := K3.out; rwa [HZS.out] at h9⟩

        case rest =>
          obtain ⟨rfl, rfl, hck⟩ := hcut
          clear hzs zs
          have HF : Hid (CtK w d (clT P s (k + 1)) B (k + 1) wc) := by
            show CtK w d (clT P s (k + 1)) B (k + 1) wc
            rw [clT_succ, HCQ.out.1, HCQ.out.2]; simpa [clO] using hck
          have hgm : s.length - (k + 1) < gk := by rw [HGK.out]; omega
          clear hck
          go_wp2
          go_roundg (s.length - (k + 1))
          case measure => exact hgm
          case rel => exact ⟨k + 1, by omega, rfl, HF.out⟩
      · have hnx : ∀ ty, (Instr.next (.pointer (some ⟨w.heap.size + 1 + 1, 0, none⟩)) true ty).run Try.prog wr = .ok (.tuple #[.bool true, .int .i64 (k : Int), .int .i32 48]) W1 := hnx
        obtain ⟨zs, hzs⟩ : ∃ zs, zs = P.getD k [] := ⟨_, rfl⟩
        go_upto_region 6 with fail
        go_cut [8, 41] from 20 (fun x y wx => x = .int .i64 (k : Int) ∧ y = undef ∧ CtK w d (M ++ [P.getD k []]) B (k + 1) wx)
        case first =>
          have HZS : Hid (zs = P.getD k []) := hzs
          obtain ⟨wx, hwx⟩ : ∃ wx, wx = W1.drew := ⟨_, rfl⟩
          have hxb : Below W1.heap.size W1 wx := by rw [hwx]; exact (Below.refl _ _).drew
          have hsl : Sl 0 3 wx (.slice ra (d + 1) rca) (ints zs) := by rw [hzs]; exact (HRC.out _ (HCK.out.I.bel.trans (hxb.mono HCK.out.I.bel.size))).2
          obtain ⟨so, sc, vs, e1, e2, e3, e4, e5, e6, e7⟩ := HCK.out.push hxb hsl
          obtain ⟨W5, hW5⟩ : ∃ W5, W5 = wx.alloc (.cells #[.slice ra (d + 1) rca] 22) := ⟨_, rfl⟩
          rw [← hW5] at e2 e3 e4 e5 e6 e7
          have HW5 : Hid (W5 = wx.alloc (.cells #[.slice ra (d + 1) rca] 22)) := hW5
          have HOW : Hid (W5.ownsRow (w.heap.size + 1 + 1) 22 1 (.slice so M.length sc) M.length vs) := e5
          have HNW : Hid (∀ j u, [Value.slice ra (d + 1) rca][j]? = some u → W5.cell? ((⟨wx.heap.size, 0, none⟩ : Addr).add j) = some u) := e3
          have HSZ : Hid (w.heap.size + 1 + 1 ≤ W5.heap.size) := e6
          have HPU : Hid (∀ v' w5, w5.ownsRow (w.heap.size + 1 + 1) 22 1 v' (M.length + 1) (vs ++ [.slice ra (d + 1) rca]) → W5.grownBy w5 (Value.slice so M.length sc).ownBlock → w5.cell? ⟨w.heap.size + 1, 1, none⟩ = some (.slice so M.length sc) ∧ w5.frozen? ⟨w.heap.size + 1, 1, none⟩ = false ∧ CtK w d (M ++ [zs]) B (k + 1) (w5.setCell ⟨w.heap.size + 1, 1, none⟩ v') ∧ Below w.heap.size w w5) := e7
          have HW5B : Hid (Below w.heap.size w W5) := e4.1
          have HXB : Hid (Below w.heap.size w wx) := e4.2
          have b1 := e1
          have b2 := e2
          clear e1 e2 e3 e4 e5 e6 e7 hW5

          clear hsl hxb hzs
          refine wp_region_held (S := fun X => X.cell? ⟨pb, po + k, none⟩ = some (.slice ra (d + 1) rca)) (by kernel_rfl) ?_
          show wpAnyH _ _ _ _ _ _ _ _ W1.drew
          rw [← hwx]
          have hHeld := (HRC.out _ HXB.out).1
          clear hwx
          refine wpAnyH_tk (i := 0) (d := 20) (v := (.pointer (some ⟨w.heap.size + 1, 1, none⟩))) rfl rfl (by kernel_rfl) (by kernel_rfl) (by kernel_rfl) (fun _ _ _ h => h) (.inl ⟨by rfl, by (intro wq hSw; (try dsimp only at hSw); go_simp; (try (first | rfl | omega)))⟩) hHeld ?_
          simp only [Act.put, List.setIfInBounds_toArray, List.set_cons_zero, List.set_cons_succ]
          refine wpAnyH_tk (i := 2) (d := 22) (v := (.slice (some ⟨pb, po, none⟩) P.length rc)) rfl rfl (by kernel_rfl) (by kernel_rfl) (by kernel_rfl) (fun _ _ _ h => h) (.inl ⟨by rfl, by (intro wq hSw; (try dsimp only at hSw); go_simp; (try (first | rfl | omega)))⟩) hHeld ?_
          simp only [Act.put, List.setIfInBounds_toArray, List.set_cons_zero, List.set_cons_succ]
          refine wpAnyH_tk (i := 3) (d := 23) (v := (.int .i64 (k : Int))) rfl rfl (by kernel_rfl) (by kernel_rfl) (by kernel_rfl) (fun _ _ _ h => h) (.inl ⟨by rfl, by (intro wq hSw; (try dsimp only at hSw); go_simp; (try (first | rfl | omega)))⟩) hHeld ?_
          simp only [Act.put, List.setIfInBounds_toArray, List.set_cons_zero, List.set_cons_succ]
          refine wpAnyH_tk (i := 4) (d := 24) (v := (.pointer (some ⟨pb, po + k, none⟩))) rfl rfl (by kernel_rfl) (by kernel_rfl) (by kernel_rfl) (fun _ _ _ h => h) (.inl ⟨by rfl, by (intro wq hSw; (try dsimp only at hSw); go_simp; (try (first | rfl | omega)))⟩) hHeld ?_
          simp only [Act.put, List.setIfInBounds_toArray, List.set_cons_zero, List.set_cons_succ]
          refine wpAnyH_tk (i := 5) (d := 25) (v := (.slice ra (d + 1) rca)) rfl rfl (by kernel_rfl) (by kernel_rfl) (by kernel_rfl) (fun _ _ _ h => h) (.inl ⟨by rfl, by (intro wq hSw; (try dsimp only at hSw); go_simp; (try (first | rfl | omega)))⟩) hHeld ?_
          simp only [Act.put, List.setIfInBounds_toArray, List.set_cons_zero, List.set_cons_succ]
          refine wpAnyH_ready (rs := [1, 6]) (by kernel_rfl) (by simp) ?_
          refine ready_tk (i := 1) rfl (by rfl) (fun K hK => ?_) (ready_tk (i := 6) rfl (by rfl) (fun K hK => ?_) AllReadyH.nil)
          · go_simp
            refine hK.out _ _ (HRC.out _ HXB.out).1 (fun hHeld => ?_)
            clear hK K
            try simp only [Act.put, List.setIfInBounds_toArray, List.set_cons_zero, List.set_cons_succ]

            refine wpAnyH_ready (rs := [6]) (by kernel_rfl) (by simp) ?_
            refine ready_tk (i := 6) rfl (by rfl) (fun K hK => ?_) AllReadyH.nil

            go_simp
            rw [← HW5.out]
            refine hK.out _ _ (HRC.out _ HW5B.out).1 (fun hHeld => ?_)
            clear hK K
            try simp only [Act.put, List.setIfInBounds_toArray, List.set_cons_zero, List.set_cons_succ]

            refine wpAnyH_ready (rs := [7]) (by kernel_rfl) (by simp) ?_
            refine ready_tk (i := 7) rfl (by rfl) (fun K hK => ?_) AllReadyH.nil
            refine op_append_ownA _ _ 26 rfl (w.heap.size + 1 + 1) 22 i0 (.slice none 0 0) 1 24 Try.underlying26 hi0 hz0 hz1 hz2 rfl (by decide) (.slice so M.length sc) M.length vs rfl HOW.out ⟨wx.heap.size, 0, none⟩ 1 1 [.slice ra (d + 1) rca] rfl rfl HNW.out (one_slice _ _ _) (by unfold maxLen; omega) (by omega) HSZ.out ?_
            intro v' w6 ho hg _
            obtain ⟨vo8, vc8, hv8⟩ := owns_form ho
            subst hv8
            obtain ⟨k1, k2, k3, k4⟩ := HPU.out (.slice vo8 (M.length + 1) vc8) w6 ho hg
            have K3 : Hid (CtK w d (M ++ [zs]) B (k + 1) (w6.setCell ⟨w.heap.size + 1, 1, none⟩ (.slice vo8 (M.length + 1) vc8))) := k3
            have K5 : Hid (w6.cell? ⟨pb, po + k, none⟩ = some (.slice ra (d + 1) rca) ∧ (w6.setCell ⟨w.heap.size + 1, 1, none⟩ (.slice vo8 (M.length + 1) vc8)).cell? ⟨pb, po + k, none⟩ = some (.slice ra (d + 1) rca)) := ⟨(HRC.out _ k4).1, (HRC.out _ k3.I.bel).1⟩
            clear k3 k4 ho hg
            refine hK.out _ _ K5.out.1 (fun hHeld => ?_)
            clear hK K
            try simp only [Act.put, List.setIfInBounds_toArray, List.set_cons_zero, List.set_cons_succ]
            refine wpAnyH_tk (i := 8) (d := 28) (v := (.pointer (some ⟨w.heap.size + 1, 1, none⟩))) rfl rfl (by kernel_rfl) (by kernel_rfl) (by kernel_rfl) (fun _ _ _ h => h) (.inl ⟨by rfl, by (intro wq hSw; (try dsimp only at hSw); go_simp; (try (first | rfl | omega)))⟩) hHeld ?_
            simp only [Act.put, List.setIfInBounds_toArray, List.set_cons_zero, List.set_cons_succ]
            refine wpAnyH_ready (rs := [9]) (by kernel_rfl) (by simp) ?_
            refine ready_tk (i := 9) rfl (by rfl) (fun K hK => ?_) AllReadyH.nil
            go_simp
            refine hK.out _ _ K5.out.2 (fun hHeld => ?_)
            clear hK K
            refine wpAnyH_done (by kernel_rfl) ?_ _
            clear hHeld
            go_wp2
            go_meet
            exact ⟨rfl, rfl, by have h9 := K3.out; rwa [HZS.out] at h9⟩
          · go_simp
            rw [← HW5.out]
            refine hK.out _ _ (HRC.out _ HW5B.out).1 (fun hHeld => ?_)
            clear hK K
            try simp only [Act.put, List.setIfInBounds_toArray, List.set_cons_zero, List.set_cons_succ]

            refine wpAnyH_ready (rs := [1]) (by kernel_rfl) (by simp) ?_
            refine ready_tk (i := 1) rfl (by rfl) (fun K hK => ?_) AllReadyH.nil

            go_simp
            refine hK.out _ _ (HRC.out _ HW5B.out).1 (fun hHeld => ?_)
            clear hK K
            try simp only [Act.put, List.setIfInBounds_toArray, List.set_cons_zero, List.set_cons_succ]

            refine wpAnyH_ready (rs := [7]) (by kernel_rfl) (by simp) ?_
            refine ready_tk (i := 7) rfl (by rfl) (fun K hK => ?_) AllReadyH.nil
            refine op_append_ownA _ _ 26 rfl (w.heap.size + 1 + 1) 22 i0 (.slice none 0 0) 1 24 Try.underlying26 hi0 hz0 hz1 hz2 rfl (by decide) (.slice so M.length sc) M.length vs rfl HOW.out ⟨wx.heap.size, 0, none⟩ 1 1 [.slice ra (d + 1) rca] rfl rfl HNW.out (one_slice _ _ _) (by unfold maxLen; omega) (by omega) HSZ.out ?_
            intro v' w6 ho hg _
            obtain ⟨vo8, vc8, hv8⟩ := owns_form ho
            subst hv8
            obtain ⟨k1, k2, k3, k4⟩ := HPU.out (.slice vo8 (M.length + 1) vc8) w6 ho hg
            have K3 : Hid (CtK w d (M ++ [zs]) B (k + 1) (w6.setCell ⟨w.heap.size + 1, 1, none⟩ (.slice vo8 (M.length + 1) vc8))) := k3
            have K5 : Hid (w6.cell? ⟨pb, po + k, none⟩ = some (.slice ra (d + 1) rca) ∧ (w6.setCell ⟨w.heap.size + 1, 1, none⟩ (.slice vo8 (M.length + 1) vc8)).cell? ⟨pb, po + k, none⟩ = some (.slice ra (d + 1) rca)) := ⟨(HRC.out _ k4).1, (HRC.out _ k3.I.bel).1⟩
            clear k3 k4 ho hg
            refine hK.out _ _ K5.out.1 (fun hHeld => ?_)
            clear hK K
            try simp only [Act.put, List.setIfInBounds_toArray, List.set_cons_zero, List.set_cons_succ]
            refine wpAnyH_tk (i := 8) (d := 28) (v := (.pointer (some ⟨w.heap.size + 1, 1, none⟩))) rfl rfl (by kernel_rfl) (by kernel_rfl) (by kernel_rfl) (fun _ _ _ h => h) (.inl ⟨by rfl, by (intro wq hSw; (try dsimp only at hSw); go_simp; (try (first | rfl | omega)))⟩) hHeld ?_
            simp only [Act.put, List.setIfInBounds_toArray, List.set_cons_zero, List.set_cons_succ]
            refine wpAnyH_ready (rs := [9]) (by kernel_rfl) (by simp) ?_
            refine ready_tk (i := 9) rfl (by rfl) (fun K hK => ?_) AllReadyH.nil
            go_simp
            refine hK.out _ _ K5.out.2 (fun hHeld => ?_)
            clear hK K
            refine wpAnyH_done (by kernel_rfl) ?_ _
            clear hHeld
            go_wp2
            go_meet
            exact ⟨rfl, rfl, by have h9 := K3.out; rwa [HZS.out] at h9⟩

        case rest =>
          obtain ⟨rfl, rfl, hck⟩ := hcut
          clear hzs zs
          have HCK2 : Hid (CtK w d (M ++ [P.getD k []]) B (k + 1) wc) := hck
          clear hck HCK
          obtain ⟨W1, rfl⟩ : ∃ W1, W1 = wc := ⟨_, rfl⟩
          obtain ⟨M2, hM2⟩ : ∃ M2, M2 = M ++ [P.getD k []] := ⟨_, rfl⟩
          rw [← hM2] at HCK2
          have hMl2 : M2.length ≤ 13 := by rw [hM2]; simp; omega
          have HM2 : Hid (M2 = M ++ [P.getD k []]) := hM2
          clear hM2

          go_upto_region 8 with fail
          have hb0 := HCK2.out.boxc
          obtain ⟨so0, sc0, hb0⟩ := hb0
          · refine wp_region_held (S := fun X => X.cell? ⟨pb, po + k, none⟩ = some (.slice ra (d + 1) rca)) (by kernel_rfl) ?_
            show wpAnyH _ _ _ _ _ _ _ _ W1.drew
            have hHeld := (HRC.out W1.drew (HCK2.out.I.bel.trans ((Below.refl W1.heap.size W1).drew.mono HCK2.out.I.bel.size))).1
            have hbd : W1.drew.cell? ⟨w.heap.size + 1, 1, none⟩ = some (.slice so0 M2.length sc0) := hb0
            refine wpAnyH_tk (i := 0) (d := 31) (v := (.pointer (some ⟨w.heap.size + 1, 1, none⟩))) rfl rfl (by kernel_rfl) (by kernel_rfl) (by kernel_rfl) (fun _ _ _ h => h) (.inl ⟨by rfl, by (intro wq hSw; (try dsimp only at hSw); go_simp; (try (first | rfl | omega)))⟩) hHeld ?_
            simp only [Act.put, List.setIfInBounds_toArray, List.set_cons_zero, List.set_cons_succ]
            refine wpAnyH_tk (i := 2) (d := 33) (v := (.slice (some ⟨pb, po, none⟩) P.length rc)) rfl rfl (by kernel_rfl) (by kernel_rfl) (by kernel_rfl) (fun _ _ _ h => h) (.inl ⟨by rfl, by (intro wq hSw; (try dsimp only at hSw); go_simp; (try (first | rfl | omega)))⟩) hHeld ?_
            simp only [Act.put, List.setIfInBounds_toArray, List.set_cons_zero, List.set_cons_succ]
            refine wpAnyH_tk (i := 3) (d := 34) (v := (.int .i64 (k : Int))) rfl rfl (by kernel_rfl) (by kernel_rfl) (by kernel_rfl) (fun _ _ _ h => h) (.inl ⟨by rfl, by (intro wq hSw; (try dsimp only at hSw); go_simp; (try (first | rfl | omega)))⟩) hHeld ?_
            simp only [Act.put, List.setIfInBounds_toArray, List.set_cons_zero, List.set_cons_succ]
            refine wpAnyH_tk (i := 4) (d := 35) (v := (.pointer (some ⟨pb, po + k, none⟩))) rfl rfl (by kernel_rfl) (by kernel_rfl) (by kernel_rfl) (fun _ _ _ h => h) (.inl ⟨by rfl, by (intro wq hSw; (try dsimp only at hSw); go_simp; (try (first | rfl | omega)))⟩) hHeld ?_
            simp only [Act.put, List.setIfInBounds_toArray, List.set_cons_zero, List.set_cons_succ]
            refine wpAnyH_tk (i := 5) (d := 36) (v := (.slice ra (d + 1) rca)) rfl rfl (by kernel_rfl) (by kernel_rfl) (by kernel_rfl) (fun _ _ _ h => h) (.inl ⟨by rfl, by (intro wq hSw; (try dsimp only at hSw); go_simp; (try (first | rfl | omega)))⟩) hHeld ?_
            simp only [Act.put, List.setIfInBounds_toArray, List.set_cons_zero, List.set_cons_succ]
            refine wpAnyH_ready (rs := [1, 6]) (by kernel_rfl) (by simp) ?_
            refine ready_tk (i := 1) rfl (by rfl) (fun K hK => ?_) (ready_tk (i := 6) rfl (by rfl) (fun K hK => ?_) AllReadyH.nil)
            · go_simp
              refine hK.out _ _ hHeld (fun hHeld => ?_)
              clear hK K
              try simp only [Act.put, List.setIfInBounds_toArray, List.set_cons_zero, List.set_cons_succ]
              refine wpAnyH_ready (rs := [6]) (by kernel_rfl) (by simp) ?_
              refine ready_tk (i := 6) rfl (by rfl) (fun K hK => ?_) AllReadyH.nil

              go_simp
              refine (HNG.out _ (HCK2.out.I.bel.trans ((Below.refl W1.heap.size W1).drew.mono HCK2.out.I.bel.size))).mono ?_
              rintro e wx ⟨uo, uc, rfl, hsl, hxb0⟩
              have hxb : Below W1.heap.size W1 wx := (Below.refl _ _).drew.trans hxb0
              obtain ⟨zs, hzs⟩ : ∃ zs, zs = ngL (P.getD k []) := ⟨_, rfl⟩
              rw [← hzs] at hsl
              have HZS : Hid (zs = ngL (P.getD k [])) := hzs

              obtain ⟨so, sc, vs, e1, e2, e3, e4, e5, e6, e7⟩ := HCK2.out.push hxb hsl
              obtain ⟨W5, hW5⟩ : ∃ W5, W5 = wx.alloc (.cells #[.slice uo (d + 1) uc] 22) := ⟨_, rfl⟩
              rw [← hW5] at e2 e3 e4 e5 e6 e7
              have HW5 : Hid (W5 = wx.alloc (.cells #[.slice uo (d + 1) uc] 22)) := hW5
              have HOW : Hid (W5.ownsRow (w.heap.size + 1 + 1) 22 1 (.slice so M2.length sc) M2.length vs) := e5
              have HNW : Hid (∀ j u, [Value.slice uo (d + 1) uc][j]? = some u → W5.cell? ((⟨wx.heap.size, 0, none⟩ : Addr).add j) = some u) := e3
              have HSZ : Hid (w.heap.size + 1 + 1 ≤ W5.heap.size) := e6
              have HPU : Hid (∀ v' w5, w5.ownsRow (w.heap.size + 1 + 1) 22 1 v' (M2.length + 1) (vs ++ [.slice uo (d + 1) uc]) → W5.grownBy w5 (Value.slice so M2.length sc).ownBlock → w5.cell? ⟨w.heap.size + 1, 1, none⟩ = some (.slice so M2.length sc) ∧ w5.frozen? ⟨w.heap.size + 1, 1, none⟩ = false ∧ CtK w d (M2 ++ [zs]) B (k + 1) (w5.setCell ⟨w.heap.size + 1, 1, none⟩ v') ∧ Below w.heap.size w w5) := e7
              have HW5B : Hid (Below w.heap.size w W5) := e4.1
              have HXB : Hid (Below w.heap.size w wx) := e4.2
              have b1 := e1
              have b2 := e2
              clear e1 e2 e3 e4 e5 e6 e7 hW5

              have hxbq : Hid (Below W1.heap.size W1 wx) := hxb
              clear hsl hxb hxb0 hzs
              refine hK.out _ _ (HRC.out _ HXB.out).1 (fun hHeld => ?_)
              clear hK K
              try simp only [Act.put, List.setIfInBounds_toArray, List.set_cons_zero, List.set_cons_succ]

              have hsame : Value.slice so0 M2.length sc0 = .slice so M2.length sc := by
                have q := (hxbq.cell (p := ⟨w.heap.size + 1, 1, none⟩) (lt_of_cell hb0)).trans hb0
                rw [b1] at q
                exact (Option.some.inj q).symm
              rw [hsame]

              refine wpAnyH_ready (rs := [7]) (by kernel_rfl) (by simp) ?_
              refine ready_tk (i := 7) rfl (by rfl) (fun K hK => ?_) AllReadyH.nil

              go_simp
              rw [← HW5.out]
              refine hK.out _ _ (HRC.out _ HW5B.out).1 (fun hHeld => ?_)
              clear hK K
              try simp only [Act.put, List.setIfInBounds_toArray, List.set_cons_zero, List.set_cons_succ]

              refine wpAnyH_ready (rs := [8]) (by kernel_rfl) (by simp) ?_
              refine ready_tk (i := 8) rfl (by rfl) (fun K hK => ?_) AllReadyH.nil
              refine op_append_ownA _ _ 26 rfl (w.heap.size + 1 + 1) 22 i0 (.slice none 0 0) 1 24 Try.underlying26 hi0 hz0 hz1 hz2 rfl (by decide) (.slice so M2.length sc) M2.length vs rfl HOW.out ⟨wx.heap.size, 0, none⟩ 1 1 [.slice uo (d + 1) uc] rfl rfl HNW.out (one_slice _ _ _) (by unfold maxLen; omega) (by omega) HSZ.out ?_
              intro v' w6 ho hg _
              obtain ⟨vo8, vc8, hv8⟩ := owns_form ho
              subst hv8
              obtain ⟨k1, k2, k3, k4⟩ := HPU.out (.slice vo8 (M2.length + 1) vc8) w6 ho hg
              have K3 : Hid (CtK w d (M2 ++ [zs]) B (k + 1) (w6.setCell ⟨w.heap.size + 1, 1, none⟩ (.slice vo8 (M2.length + 1) vc8))) := k3
              have K5 : Hid (w6.cell? ⟨pb, po + k, none⟩ = some (.slice ra (d + 1) rca) ∧ (w6.setCell ⟨w.heap.size + 1, 1, none⟩ (.slice vo8 (M2.length + 1) vc8)).cell? ⟨pb, po + k, none⟩ = some (.slice ra (d + 1) rca)) := ⟨(HRC.out _ k4).1, (HRC.out _ k3.I.bel).1⟩
              clear k3 k4 ho hg
              refine hK.out _ _ K5.out.1 (fun hHeld => ?_)
              clear hK K
              try simp only [Act.put, List.setIfInBounds_toArray, List.set_cons_zero, List.set_cons_succ]
              refine wpAnyH_tk (i := 9) (d := 40) (v := (.pointer (some ⟨w.heap.size + 1, 1, none⟩))) rfl rfl (by kernel_rfl) (by kernel_rfl) (by kernel_rfl) (fun _ _ _ h => h) (.inl ⟨by rfl, by (intro wq hSw; (try dsimp only at hSw); go_simp; (try (first | rfl | omega)))⟩) hHeld ?_
              simp only [Act.put, List.setIfInBounds_toArray, List.set_cons_zero, List.set_cons_succ]
              refine wpAnyH_ready (rs := [10]) (by kernel_rfl) (by simp) ?_
              refine ready_tk (i := 10) rfl (by rfl) (fun K hK => ?_) AllReadyH.nil
              go_simp
              refine hK.out _ _ K5.out.2 (fun hHeld => ?_)
              clear hK K
              refine wpAnyH_done (by kernel_rfl) ?_ _
              clear hHeld
              have HF : Hid (CtK w d (clT P s (k + 1)) B (k + 1) (w6.setCell ⟨w.heap.size + 1, 1, none⟩ (.slice vo8 (M2.length + 1) vc8))) := by
                have h9 := K3.out
                show CtK w d (clT P s (k + 1)) B (k + 1) _
                rw [HZS.out] at h9
                have e2 : M2 ++ [ngL (P.getD k [])] = M ++ clO (P.getD k []) 48 := by rw [HM2.out]; simp [clO]
                rw [e2] at h9
                rw [clT_succ, HCQ.out.1, HCQ.out.2]; exact h9
              have hgm : s.length - (k + 1) < gk := by rw [HGK.out]; omega
              clear K3 K5
              go_wp2
              go_roundg (s.length - (k + 1))
              case measure => exact hgm
              case rel => exact ⟨k + 1, by omega, rfl, HF.out⟩
            · go_simp
              refine (HNG.out _ (HCK2.out.I.bel.trans ((Below.refl W1.heap.size W1).drew.mono HCK2.out.I.bel.size))).mono ?_
              rintro e wx ⟨uo, uc, rfl, hsl, hxb0⟩
              have hxb : Below W1.heap.size W1 wx := (Below.refl _ _).drew.trans hxb0
              obtain ⟨zs, hzs⟩ : ∃ zs, zs = ngL (P.getD k []) := ⟨_, rfl⟩
              rw [← hzs] at hsl
              have HZS : Hid (zs = ngL (P.getD k [])) := hzs

              obtain ⟨so, sc, vs, e1, e2, e3, e4, e5, e6, e7⟩ := HCK2.out.push hxb hsl
              obtain ⟨W5, hW5⟩ : ∃ W5, W5 = wx.alloc (.cells #[.slice uo (d + 1) uc] 22) := ⟨_, rfl⟩
              rw [← hW5] at e2 e3 e4 e5 e6 e7
              have HW5 : Hid (W5 = wx.alloc (.cells #[.slice uo (d + 1) uc] 22)) := hW5
              have HOW : Hid (W5.ownsRow (w.heap.size + 1 + 1) 22 1 (.slice so M2.length sc) M2.length vs) := e5
              have HNW : Hid (∀ j u, [Value.slice uo (d + 1) uc][j]? = some u → W5.cell? ((⟨wx.heap.size, 0, none⟩ : Addr).add j) = some u) := e3
              have HSZ : Hid (w.heap.size + 1 + 1 ≤ W5.heap.size) := e6
              have HPU : Hid (∀ v' w5, w5.ownsRow (w.heap.size + 1 + 1) 22 1 v' (M2.length + 1) (vs ++ [.slice uo (d + 1) uc]) → W5.grownBy w5 (Value.slice so M2.length sc).ownBlock → w5.cell? ⟨w.heap.size + 1, 1, none⟩ = some (.slice so M2.length sc) ∧ w5.frozen? ⟨w.heap.size + 1, 1, none⟩ = false ∧ CtK w d (M2 ++ [zs]) B (k + 1) (w5.setCell ⟨w.heap.size + 1, 1, none⟩ v') ∧ Below w.heap.size w w5) := e7
              have HW5B : Hid (Below w.heap.size w W5) := e4.1
              have HXB : Hid (Below w.heap.size w wx) := e4.2
              have b1 := e1
              have b2 := e2
              clear e1 e2 e3 e4 e5 e6 e7 hW5

              have hxbq : Hid (Below W1.heap.size W1 wx) := hxb
              clear hsl hxb hxb0 hzs
              refine hK.out _ _ (HRC.out _ HXB.out).1 (fun hHeld => ?_)
              clear hK K
              try simp only [Act.put, List.setIfInBounds_toArray, List.set_cons_zero, List.set_cons_succ]

              refine wpAnyH_ready (rs := [1, 7]) (by kernel_rfl) (by simp) ?_
              refine ready_tk (i := 1) rfl (by rfl) (fun K hK => ?_) (ready_tk (i := 7) rfl (by rfl) (fun K hK => ?_) AllReadyH.nil)
              · go_simp
                refine hK.out _ _ (HRC.out _ HXB.out).1 (fun hHeld => ?_)
                clear hK K
                try simp only [Act.put, List.setIfInBounds_toArray, List.set_cons_zero, List.set_cons_succ]

                refine wpAnyH_ready (rs := [7]) (by kernel_rfl) (by simp) ?_
                refine ready_tk (i := 7) rfl (by rfl) (fun K hK => ?_) AllReadyH.nil

                go_simp
                rw [← HW5.out]
                refine hK.out _ _ (HRC.out _ HW5B.out).1 (fun hHeld => ?_)
                clear hK K
                try simp only [Act.put, List.setIfInBounds_toArray, List.set_cons_zero, List.set_cons_succ]

                refine wpAnyH_ready (rs := [8]) (by kernel_rfl) (by simp) ?_
                refine ready_tk (i := 8) rfl (by rfl) (fun K hK => ?_) AllReadyH.nil
                refine op_append_ownA _ _ 26 rfl (w.heap.size + 1 + 1) 22 i0 (.slice none 0 0) 1 24 Try.underlying26 hi0 hz0 hz1 hz2 rfl (by decide) (.slice so M2.length sc) M2.length vs rfl HOW.out ⟨wx.heap.size, 0, none⟩ 1 1 [.slice uo (d + 1) uc] rfl rfl HNW.out (one_slice _ _ _) (by unfold maxLen; omega) (by omega) HSZ.out ?_
                intro v' w6 ho hg _
                obtain ⟨vo8, vc8, hv8⟩ := owns_form ho
                subst hv8
                obtain ⟨k1, k2, k3, k4⟩ := HPU.out (.slice vo8 (M2.length + 1) vc8) w6 ho hg
                have K3 : Hid (CtK w d (M2 ++ [zs]) B (k + 1) (w6.setCell ⟨w.heap.size + 1, 1, none⟩ (.slice vo8 (M2.length + 1) vc8))) := k3
                have K5 : Hid (w6.cell? ⟨pb, po + k, none⟩ = some (.slice ra (d + 1) rca) ∧ (w6.setCell ⟨w.heap.size + 1, 1, none⟩ (.slice vo8 (M2.length + 1) vc8)).cell? ⟨pb, po + k, none⟩ = some (.slice ra (d + 1) rca)) := ⟨(HRC.out _ k4).1, (HRC.out _ k3.I.bel).1⟩
                clear k3 k4 ho hg
                refine hK.out _ _ K5.out.1 (fun hHeld => ?_)
                clear hK K
                try simp only [Act.put, List.setIfInBounds_toArray, List.set_cons_zero, List.set_cons_succ]
                refine wpAnyH_tk (i := 9) (d := 40) (v := (.pointer (some ⟨w.heap.size + 1, 1, none⟩))) rfl rfl (by kernel_rfl) (by kernel_rfl) (by kernel_rfl) (fun _ _ _ h => h) (.inl ⟨by rfl, by (intro wq hSw; (try dsimp only at hSw); go_simp; (try (first | rfl | omega)))⟩) hHeld ?_
                simp only [Act.put, List.setIfInBounds_toArray, List.set_cons_zero, List.set_cons_succ]
                refine wpAnyH_ready (rs := [10]) (by kernel_rfl) (by simp) ?_
                refine ready_tk (i := 10) rfl (by rfl) (fun K hK => ?_) AllReadyH.nil
                go_simp
                refine hK.out _ _ K5.out.2 (fun hHeld => ?_)
                clear hK K
                refine wpAnyH_done (by kernel_rfl) ?_ _
                clear hHeld
                have HF : Hid (CtK w d (clT P s (k + 1)) B (k + 1) (w6.setCell ⟨w.heap.size + 1, 1, none⟩ (.slice vo8 (M2.length + 1) vc8))) := by
                  have h9 := K3.out
                  show CtK w d (clT P s (k + 1)) B (k + 1) _
                  rw [HZS.out] at h9
                  have e2 : M2 ++ [ngL (P.getD k [])] = M ++ clO (P.getD k []) 48 := by rw [HM2.out]; simp [clO]
                  rw [e2] at h9
                  rw [clT_succ, HCQ.out.1, HCQ.out.2]; exact h9
                have hgm : s.length - (k + 1) < gk := by rw [HGK.out]; omega
                clear K3 K5
                go_wp2
                go_roundg (s.length - (k + 1))
                case measure => exact hgm
                case rel => exact ⟨k + 1, by omega, rfl, HF.out⟩
              · go_simp
                rw [← HW5.out]
                refine hK.out _ _ (HRC.out _ HW5B.out).1 (fun hHeld => ?_)
                clear hK K
                try simp only [Act.put, List.setIfInBounds_toArray, List.set_cons_zero, List.set_cons_succ]

                refine wpAnyH_ready (rs := [1]) (by kernel_rfl) (by simp) ?_
                refine ready_tk (i := 1) rfl (by rfl) (fun K hK => ?_) AllReadyH.nil

                go_simp
                refine hK.out _ _ (HRC.out _ HW5B.out).1 (fun hHeld => ?_)
                clear hK K
                try simp only [Act.put, List.setIfInBounds_toArray, List.set_cons_zero, List.set_cons_succ]

                refine wpAnyH_ready (rs := [8]) (by kernel_rfl) (by simp) ?_
                refine ready_tk (i := 8) rfl (by rfl) (fun K hK => ?_) AllReadyH.nil
                refine op_append_ownA _ _ 26 rfl (w.heap.size + 1 + 1) 22 i0 (.slice none 0 0) 1 24 Try.underlying26 hi0 hz0 hz1 hz2 rfl (by decide) (.slice so M2.length sc) M2.length vs rfl HOW.out ⟨wx.heap.size, 0, none⟩ 1 1 [.slice uo (d + 1) uc] rfl rfl HNW.out (one_slice _ _ _) (by unfold maxLen; omega) (by omega) HSZ.out ?_
                intro v' w6 ho hg _
                obtain ⟨vo8, vc8, hv8⟩ := owns_form ho
                subst hv8
                obtain ⟨k1, k2, k3, k4⟩ := HPU.out (.slice vo8 (M2.length + 1) vc8) w6 ho hg
                have K3 : Hid (CtK w d (M2 ++ [zs]) B (k + 1) (w6.setCell ⟨w.heap.size + 1, 1, none⟩ (.slice vo8 (M2.length + 1) vc8))) := k3
                have K5 : Hid (w6.cell? ⟨pb, po + k, none⟩ = some (.slice ra (d + 1) rca) ∧ (w6.setCell ⟨w.heap.size + 1, 1, none⟩ (.slice vo8 (M2.length + 1) vc8)).cell? ⟨pb, po + k, none⟩ = some (.slice ra (d + 1) rca)) := ⟨(HRC.out _ k4).1, (HRC.out _ k3.I.bel).1⟩
                clear k3 k4 ho hg
                refine hK.out _ _ K5.out.1 (fun hHeld => ?_)
                clear hK K
                try simp only [Act.put, List.setIfInBounds_toArray, List.set_cons_zero, List.set_cons_succ]
                refine wpAnyH_tk (i := 9) (d := 40) (v := (.pointer (some ⟨w.heap.size + 1, 1, none⟩))) rfl rfl (by kernel_rfl) (by kernel_rfl) (by kernel_rfl) (fun _ _ _ h => h) (.inl ⟨by rfl, by (intro wq hSw; (try dsimp only at hSw); go_simp; (try (first | rfl | omega)))⟩) hHeld ?_
                simp only [Act.put, List.setIfInBounds_toArray, List.set_cons_zero, List.set_cons_succ]
                refine wpAnyH_ready (rs := [10]) (by kernel_rfl) (by simp) ?_
                refine ready_tk (i := 10) rfl (by rfl) (fun K hK => ?_) AllReadyH.nil
                go_simp
                refine hK.out _ _ K5.out.2 (fun hHeld => ?_)
                clear hK K
                refine wpAnyH_done (by kernel_rfl) ?_ _
                clear hHeld
                have HF : Hid (CtK w d (clT P s (k + 1)) B (k + 1) (w6.setCell ⟨w.heap.size + 1, 1, none⟩ (.slice vo8 (M2.length + 1) vc8))) := by
                  have h9 := K3.out
                  show CtK w d (clT P s (k + 1)) B (k + 1) _
                  rw [HZS.out] at h9
                  have e2 : M2 ++ [ngL (P.getD k [])] = M ++ clO (P.getD k []) 48 := by rw [HM2.out]; simp [clO]
                  rw [e2] at h9
                  rw [clT_succ, HCQ.out.1, HCQ.out.2]; exact h9
                have hgm : s.length - (k + 1) < gk := by rw [HGK.out]; omega
                clear K3 K5
                go_wp2
                go_roundg (s.length - (k + 1))
                case measure => exact hgm
                case rel => exact ⟨k + 1, by omega, rfl, HF.out⟩
    · have hke : k = s.length := by omega
      subst hke
      have hnx := fun ty => HBE.out wr (w.heap.size + 1 + 1) ty hck.it
      obtain ⟨so, sc, c1, c2, c3, c4, f3, f4, hm, hb⟩ := hck.I.fin
      have HM : Hid (Mat 0 22 3 ((wr.setCell ⟨w.heap.size, 0, none⟩ (.int .i64 (d : Int))).setCell ⟨w.heap.size, 1, none⟩ (.slice so (clT P s s.length).length sc)) (.slice so (clT P s s.length).length sc) (clT P s s.length)) := hm
      have HB : Hid (Below w.heap.size w ((wr.setCell ⟨w.heap.size, 0, none⟩ (.int .i64 (d : Int))).setCell ⟨w.heap.size, 1, none⟩ (.slice so (clT P s s.length).length sc))) := hb
      have hr1 := hck.I.res
      have q0 : ((wr.setCell ⟨w.heap.size, 0, none⟩ (.int .i64 (d : Int))).setCell ⟨w.heap.size, 1, none⟩ (.slice so (clT P s s.length).length sc)).cell? ⟨w.heap.size, 0, none⟩ = some (.int .i64 (d : Int)) := by simp [World.cell?, World.setCell, Array.getElem?_modify, hr1]
      have q1 : ((wr.setCell ⟨w.heap.size, 0, none⟩ (.int .i64 (d : Int))).setCell ⟨w.heap.size, 1, none⟩ (.slice so (clT P s s.length).length sc)).cell? ⟨w.heap.size, 1, none⟩ = some (.slice so (clT P s s.length).length sc) := by simp [World.cell?, World.setCell, Array.getElem?_modify, hr1]
      clear hck hm hb hr1 hgk HI0 HBK HBE HV HN
      go_wp2
      refine bodyPost_ret (v := .agg #[.int .i64 d, .slice so (clT P s s.length).length sc]) (by simp [results, Try.results33, go_sem, q0, q1]) rfl ⟨so, sc, rfl, HM.out, HB.out⟩

end Go.Proofs.Ytmljnfgfjcjmmaa
