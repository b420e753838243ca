/- The document's RootsOf. -/
import Derived.Test.YtkgljfnbaoncbaaMgAL
import Derived.Test.YtkgljfnbaoncbaaDso
import Derived.Test.YtkgljfnbaoncbaaMgAE
namespace Go.Proofs.Ytkgljfnbaoncbaa
open Go.RowKit
attribute [local go_sem ↓] Go.wp_at_zero Go.wp_at_succ

theorem tnL_off {c : List (List Int)} {b : List Int} {j k : Nat} (hk : k < c.length) (hkj : k ≠ j) : (tnL c b j).getD k 0 = b.getD k 0 := by
  unfold tnL
  rw [getD_range hk]
  unfold tnF
  rw [if_neg hkj]

theorem all_snoc {l : List Int} {k : Nat} (h : k < l.length) (p : Int → Bool) : (l.take (k + 1)).all p = ((l.take k).all p && p (l.getD k 0)) := by
  have e : l.getD k 0 = l[k] := by simp [h]
  rw [List.take_succ_eq_append_getElem h, List.all_append, e]; simp

/-- All is above 0 just if what was turned is. -/
theorem good_iff {c : List (List Int)} {b : List Int} {j : Nat} (hj : j < c.length) (hb : ∀ k, 0 ≤ b.getD k 0) : ((tnL c b j).all fun z => decide (0 ≤ z)) = decide (0 ≤ (tnL c b j).getD j 0) := by
  rw [Bool.eq_iff_iff, List.all_eq_true, decide_eq_true_iff]
  constructor
  · intro h
    have := h ((tnL c b j).getD j 0) (by simp [tnL_len, hj])
    simpa using this
  · intro h z hz
    obtain ⟨k, hk, rfl⟩ := List.mem_iff_getElem.1 hz
    have e : (tnL c b j)[k] = (tnL c b j).getD k 0 := by simp [hk]
    rw [e, decide_eq_true_iff]
    rw [tnL_len] at hk
    by_cases ek : k = j
    · subst ek; exact h
    · rw [tnL_off hk ek]; exact hb k

/-- By heights. -/
def oT (s : List (List Int)) : Nat → List (List Int)
  | 0 => []
  | h + 1 => oT s h ++ s.filter fun b => decide (b.sum = ((h + 1 : Nat) : Int))

theorem cnt_two (p : List Int → Bool) (m : Nat) : ∀ s : List (List Int), s.countP (fun b => p b && decide (b.sum ≤ (m : Int))) + s.countP (fun b => p b && decide (b.sum = ((m + 1 : Nat) : Int))) = s.countP (fun b => p b && decide (b.sum ≤ ((m + 1 : Nat) : Int)))
  | [] => rfl
  | b :: s => by
    have ih := cnt_two p m s
    simp only [List.countP_cons]
    cases hp : p b
    · simp only [Bool.false_and, Bool.false_eq_true, if_false]; omega
    · simp only [Bool.true_and]
      by_cases h1 : b.sum ≤ (m : Int)
      · have h2 : ¬ b.sum = ((m + 1 : Nat) : Int) := by omega
        have h3 : b.sum ≤ ((m + 1 : Nat) : Int) := by omega
        rw [decide_eq_true h1, decide_eq_false h2, decide_eq_true h3]
        simp only [reduceIte, Bool.false_eq_true]; omega
      · by_cases h2 : b.sum = ((m + 1 : Nat) : Int)
        · have h3 : b.sum ≤ ((m + 1 : Nat) : Int) := by omega
          rw [decide_eq_false h1, decide_eq_true h2, decide_eq_true h3]
          simp only [reduceIte, Bool.false_eq_true]; omega
        · have h3 : ¬ b.sum ≤ ((m + 1 : Nat) : Int) := by omega
          rw [decide_eq_false h1, decide_eq_false h2, decide_eq_false h3]
          simp only [reduceIte, Bool.false_eq_true]; omega

theorem oT_cnt {s : List (List Int)} (hs : ∀ b ∈ s, 1 ≤ b.sum) (p : List Int → Bool) : ∀ m, (oT s m).countP p = s.countP (fun b => p b && decide (b.sum ≤ (m : Int)))
  | 0 => by
    show List.countP p [] = _
    rw [List.countP_nil]
    symm
    rw [List.countP_eq_zero]
    intro b hb
    have := hs b hb
    simp
    intro _
    omega
  | m + 1 => by
    show List.countP p (oT s m ++ s.filter fun b => decide (b.sum = ((m + 1 : Nat) : Int))) = _
    rw [List.countP_append, oT_cnt hs p m, List.countP_filter, cnt_two]

theorem oT_perm {s : List (List Int)} (hs : ∀ b ∈ s, 1 ≤ b.sum) {m : Nat} (hm : ∀ b ∈ s, b.sum ≤ (m : Int)) : (oT s m).Perm s := by
  rw [List.perm_iff_count]
  intro a
  unfold List.count
  rw [oT_cnt hs]
  refine List.countP_congr fun b hb => ?_
  have := hm b hb
  simp [this]

theorem sasc_nodup {s : List (List Int)} (h : SAsc s) : s.Nodup := by
  refine List.Pairwise.imp (fun {a b} hab e => ?_) h
  subst e
  rw [cmpL_self] at hab
  omega

theorem perm_mem {s t : List (List Int)} (hs : s.Nodup) (ht : t.Nodup) (h : ∀ r, r ∈ s ↔ r ∈ t) : s.Perm t := by
  rw [List.perm_iff_count]
  intro a
  rw [List.Nodup.count hs, List.Nodup.count ht]
  by_cases e : a ∈ s
  · rw [if_pos e, if_pos ((h a).1 e)]
  · rw [if_neg e, if_neg (fun k => e ((h a).2 k))]

theorem own_lowD {B B' n : Nat} {e : TypeId} {w : World} {v : Value} {xs : List Value} (h : w.ownsRow B' e 1 v n xs) (hB : B ≤ B') : w.ownsRow B e 1 v n xs := by
  refine ⟨h.1, ?_⟩
  rcases h.2 with h1 | ⟨g, cap, cur, h1, h2, h3⟩
  · exact .inl h1
  · exact .inr ⟨g, cap, cur, h1, Nat.le_trans hB h2, h3⟩

set_option maxRecDepth 100000 in
set_option maxHeartbeats 4000000 in
theorem rootsOf_any (n : Nat) (c : List (List Int)) (cv : Value) (w : World) (hg : Gdc n c) (hp : ∀ b ∈ abL c, (∀ k, 0 ≤ b.getD k 0) ∧ 1 ≤ b.sum) (hnod : (abL c).Nodup) (hm : Mat w.heap.size 26 3 w cv c) :
    Calls Try.prog 14 #[cv] w fun e w' => ∃ u, e = .returned u ∧ ∃ L : List (List Int), Fr w.heap.size 26 3 w' u L ∧ L.Perm (abL c) ∧ Below w.heap.size w w' := by
  obtain ⟨i0, hi0, hz0, hz1, hz2⟩ := info_parts Try.info26
  obtain ⟨ao, cap, hvv, hlc, hcm⟩ := mat_open hm
  subst hvv
  have hn1 := hg.n1
  have hn4 := hg.sq.n4
  have HCL : Hid (c.length = n) := hg.sq.len
  have HPO : Hid (∀ b ∈ abL c, (∀ k, 0 ≤ b.getD k 0) ∧ 1 ≤ b.sum) := hp
  have HND : Hid ((abL c).Nodup) := hnod
  have HMN : Hid ((abL c).length ≤ 24) := hg.many
  have HTU : Hid (∀ W' bv b j, Below w.heap.size w W' → Sl 0 3 W' bv (ints b) → b ∈ abL c → j < n → Calls Try.prog 30 #[.slice ao c.length cap, bv, .int .i64 (j : Nat)] W' fun e w' => ∃ u, e = .returned u ∧ w'.ownsRow W'.heap.size 3 1 u n (ints (tnL c b j)) ∧ Below W'.heap.size W' w') := fun W' bv b j h1 h2 h3 h4 =>
    overD_any n c b j _ bv W' hg.sq hn1 ((hm.below h1 (Nat.le_refl _)).any (Nat.le_refl _)) (h2.more (Nat.zero_le _)) (hg.bd b h3).1 (hg.bd b h3).2 h4
  rw [HCL.out] at HTU
  have HSB : Hid (∀ b ∈ abL c, b.length ≤ 4 ∧ ∀ z ∈ b, z.natAbs ≤ 1000) := fun b hb => by
    obtain ⟨h1, h2⟩ := hg.bd b hb
    refine ⟨by omega, fun z hz => ?_⟩
    obtain ⟨k, hk, rfl⟩ := List.mem_iff_getElem.1 hz
    have h3 := h2 k
    have e : b.getD k 0 = b[k] := by simp [hk]
    omega
  have HAB : Hid (abL c = abO c 30 0 ((List.range n).map fun r => un n r)) := by
    show _ = _
    unfold abL
    rw [HCL.out]
  have hmk : ∀ w : World, (Instr.makeSlice 26 (.int .i64 (n : Int)) (.int .i64 (n : Int))).run Try.prog w = .ok (.slice (some ⟨w.heap.size, 0, none⟩) n n) (w.alloc (.cells (madeCells #[.int .i64 0] n) 3)) := run_make_row' (P := Try.prog) 26 3 (.int .i64 0) 8 Try.underlying26 (by kernel_rfl) rfl .i64 .i64 n (by omega) (by omega)
  have hnI : (0 : Int) ≤ (n : Int) := by omega
  rw [HCL.out]
  clear hg hm hp hnod hlc
  go_enter Try.func14, Try.ntmps14
  go_wp2
  go_loopw [3, 4] (fun rv iv wr => ∃ i : Nat, i ≤ n ∧ iv = .int .i64 i ∧ Fr w.heap.size 26 3 wr rv ((List.range i).map fun r => un n r) ∧ Below w.heap.size w wr) (fun _ iv _ => n - (intOf iv).toNat)
  case atStart => exact ⟨0, Nat.zero_le _, rfl, Fr.nil _ _ _ _, Below.refl _ _⟩
  case round =>
    obtain ⟨i, hi, rfl, hfr, hbr⟩ := hrel
    have HFR : Hid (Fr w.heap.size 26 3 wr u3 ((List.range i).map fun r => un n r)) := hfr
    have HBR : Hid (Below w.heap.size w wr) := hbr
    have hsz : w.heap.size ≤ wr.heap.size := hbr.size
    clear hfr hbr
    by_cases hlt : i < n
    · obtain ⟨W, hW⟩ : ∃ W, W = wr.alloc (.cells (madeCells #[.int .i64 0] n) 3) := ⟨_, rfl⟩
      have hr0 : W.rowIs wr.heap.size 3 n (fun _ => .int .i64 0) := by rw [hW]; exact World.rowIs_made wr (.int .i64 0) n 3
      have x0 := hr0.cell hlt
      have f0 := hr0.frozen i
      obtain ⟨W2, hW2⟩ : ∃ W2, W2 = W.setCell ⟨wr.heap.size, i, none⟩ (.int .i64 1) := ⟨_, rfl⟩
      have HSL : Hid (Sl 0 3 W2 (.slice (some ⟨wr.heap.size, 0, none⟩) n n) (ints (un n i))) := by
        rw [hW2]
        exact row_slT (unit_row hr0) (fun _ _ => rfl) (un_len n i) (Nat.le_refl _) (by omega)
      have hb2 : Below wr.heap.size wr W2 := by
        rw [hW2, hW]
        exact ((Below.refl _ wr).alloc (Nat.le_refl _) _).setCell (by simp) _
      have HB2 : Hid (Below w.heap.size w W2) := HBR.out.trans (hb2.mono hsz)
      have hsz2 : w.heap.size ≤ W2.heap.size := HB2.out.size
      obtain ⟨vs, g1, g2, g3⟩ := HFR.out.below hb2 (Nat.le_refl _)
      have el : ((List.range i).map fun r => un n r).length = i := by simp
      rw [el] at g1 g2 g3
      have G1 : Hid (vs.length = i) := g1
      have G2 : Hid (W2.ownsRow w.heap.size 26 1 u3 i vs) := g2
      have G3 : Hid (∀ k, k < i → Sl 0 3 W2 (vs.getD k (.slice none 0 0)) (ints (((List.range i).map fun r => un n r).getD k []))) := g3
      have HEL : Hid (((List.range i).map fun r => un n r).length = i) := el
      have HSN : Hid (((List.range (i + 1)).map fun r => un n r) = ((List.range i).map fun r => un n r) ++ [un n i]) := by
        show _ = _
        rw [List.range_succ, List.map_append]; rfl
      rw [hW] at x0 f0
      rw [hW] at hW2
      have HW2 : Hid (W2 = wr.alloc (.cells ((madeCells #[.int .i64 0] n).setIfInBounds i (.int .i64 1)) 3)) := by
        rw [hW2]
        show _ = _
        simp [go_sem]
      obtain ⟨xo, xc, hxv⟩ := owns_form g2
      subst hxv
      have iI : (i : Int) < (n : Int) := by omega
      have iI0 : (0 : Int) ≤ (i : Int) := by omega
      have HSW : Hid (W2.heap.size = wr.heap.size + 1) := by
        rw [HW2.out]
        show _ = _
        simp
      have HNW : Hid (∀ j u, [Value.slice (some ⟨wr.heap.size, 0, none⟩) n n][j]? = some u → (W2.alloc (.cells #[.slice (some ⟨wr.heap.size, 0, none⟩) n n] 26)).cell? ((⟨wr.heap.size + 1, 0, none⟩ : Addr).add j) = some u) := by
        rw [← HSW.out]
        exact one_new _ _ _
      clear hr0 hb2 g1 g2 g3 hW hW2 el HFR HBR
      go_wp2_with (first | (at_builtin; rw [← HW2.out]; refine wpList_append_own _ rfl _ _ 22 rfl w.heap.size 26 i0 (.slice none 0 0) 1 24 Try.underlying22 hi0 hz0 hz1 hz2 rfl (by decide) _ _ _ rfl (G2.out.alloc _) ⟨wr.heap.size + 1, 0, none⟩ 1 1 [.slice (some ⟨wr.heap.size, 0, none⟩) n n] rfl rfl HNW.out (one_slice _ _ _) ?d3 ?d4 ?d5 ?_))
      case d3 => unfold maxLen; omega
      case d4 => omega
      case d5 => simp; omega
      intro v2 w4 ho hg _
      have S1 : Hid (Fr w.heap.size 26 3 w4 v2 ((List.range (i + 1)).map fun r => un n r)) := by
        have hp := Fr.push (e2 := 26) (e1 := 3) (m := (List.range i).map fun r => un n r) (u := .slice (some ⟨wr.heap.size, 0, none⟩) n n) (zs := un n i) (by decide) (by rw [HEL.out]; exact G1.out) (by rw [HEL.out]; exact G2.out.alloc _)
          (fun k hk => (G3.out k (by rw [HEL.out] at hk; exact hk)).alloc _) (HSL.out.alloc _) (by rw [HEL.out]; exact ho) hg
        rw [← HSN.out] at hp
        exact hp
      have S2 : Hid (Below w.heap.size w w4) := (HB2.out.alloc (by omega) _).grown hg (by simp; omega) (fun x hx => (G2.out.lt x hx).1)
      obtain ⟨vo, vc, hv2⟩ := owns_form ho
      subst hv2
      clear ho hg
      go_wp2
      go_roundw
      case rel => exact ⟨i + 1, by omega, by go_num, S1.out, S2.out⟩
      case measure => simp [intOf]; omega
    · have hie : i = n := by omega
      subst hie
      obtain ⟨xo, xc, hxv⟩ : ∃ xo xc, u3 = .slice xo i xc := by
        obtain ⟨vs, g1, g2, g3⟩ := HFR.out
        obtain ⟨a, b, h⟩ := owns_form g2
        exact ⟨a, b, by simpa using h⟩
      subst hxv
      clear hlt hi
      go_wp2
      go_loopw [3, 6, 7, 8, 9, 10] (fun rv kv _ _ _ _ wr => ∃ (k f : Nat) (L : List (List Int)), kv = .int .i64 k ∧ k + f = 30 ∧ abL c = abO c f k L ∧ L.length ≤ 28 ∧ Fr w.heap.size 26 3 wr rv L ∧ Below w.heap.size w wr) (fun _ kv _ _ _ _ _ => 30 - (intOf kv).toNat)
      case atStart => exact ⟨0, 30, _, rfl, rfl, HAB.out, by simp; omega, HFR.out, HBR.out⟩
      case round =>
        obtain ⟨k, f, L, rfl, hkf, hab, hL, hfr, hbr⟩ := hrel
        have HK : Hid (abL c = abO c f k L) := hab
        obtain ⟨yo, yc, hyv⟩ : ∃ yo yc, u3 = .slice yo L.length yc := by
          obtain ⟨vs, g1, g2, g3⟩ := hfr
          exact owns_form g2
        subst hyv
        have HF2 : Hid (Fr w.heap.size 26 3 wr (.slice yo L.length yc) L) := hfr
        have HBR2 : Hid (Below w.heap.size w wr) := hbr
        clear hfr hbr hab HFR HBR hsz
        have ekk : decide ((k : Int) < (L.length : Int)) = decide (k < L.length) := by simp
        have ell : decide ((L.length : Int) ≤ 24) = decide (L.length ≤ 24) := by simp; omega
        by_cases hq : k < L.length ∧ L.length ≤ 24
        · obtain ⟨h1, h2⟩ := hq
          rw [decide_eq_true h1] at ekk
          rw [decide_eq_true h2] at ell
          obtain ⟨f', rfl⟩ : ∃ f', f = f' + 1 := ⟨f - 1, by omega⟩
          have HK2 : Hid (abL c = abO c f' (k + 1) (abI c k i L)) := by
            show _ = _
            rw [HK.out, abO, if_pos ⟨h1, h2⟩, HCL.out]
          clear HK
          go_wp2
          go_loopw [3, 7, 8, 9, 10] (fun rv jv _ _ _ wq => ∃ j : Nat, j ≤ i ∧ jv = .int .i64 j ∧ Fr w.heap.size 26 3 wq rv (abI c k j L) ∧ Below w.heap.size w wq) (fun _ jv _ _ _ _ => i - (intOf jv).toNat)
          case atStart => exact ⟨0, Nat.zero_le _, rfl, HF2.out, HBR2.out⟩
          case round =>
            obtain ⟨j, hj, rfl, hfr, hbq⟩ := hrel
            obtain ⟨M, hM⟩ : ∃ M, M = abI c k j L := ⟨_, rfl⟩
            have HMM : Hid (abI c k (j + 1) L = abS c k j M) := by rw [hM]; rfl
            rw [← hM] at hfr
            have HBq : Hid (Below w.heap.size w wr) := hbq
            have hszq : w.heap.size ≤ wr.heap.size := hbq.size
            clear hbq HF2 HBR2
            by_cases hlt : j < i
            · have hMl : M.length ≤ 28 := by
                have := abI_len c k j L
                rw [← hM] at this
                omega
              have hpre : L <+: M := by rw [hM]; exact abI_pre c k j L
              have hkM : k < M.length := Nat.lt_of_lt_of_le h1 hpre.length_le
              have HBB : Hid (M.getD k [] ∈ abL c) := by
                have hp2 : M <+: abL c := by
                  rw [HK2.out, hM]
                  exact (abI_mono c k L j i (by omega)).trans (abO_pre c f' _ _)
                show _ ∈ _
                refine hp2.subset ?_
                simp [hkM]
              obtain ⟨vs, g1, g2, g3⟩ := hfr
              have HMT : Hid (Mat 0 26 3 wr u3 M) := ⟨vs, g1, Sl.own g2, g3⟩
              obtain ⟨zo, zc, hzv⟩ := owns_form g2
              subst hzv
              have HFM : Hid (Fr w.heap.size 26 3 wr (.slice zo M.length zc) M) := ⟨vs, g1, g2, g3⟩
              clear g1 g2 g3 hM hpre
              obtain ⟨b1, o1, cp1, r1, hs1, _, hc1, hr1⟩ := mat_cell HMT.out hkM
              simp only [Value.slice.injEq, true_and] at hs1
              obtain ⟨rfl, rfl⟩ := hs1
              have HTC := HTU.out wr r1 (M.getD k []) j HBq.out hr1 HBB.out hlt
              have HTL : Hid ((tnL c (M.getD k []) j).length = i) := by
                show _ = _
                rw [tnL_len]; exact HCL.out
              have HGI : Hid (((tnL c (M.getD k []) j).all fun z => decide (0 ≤ z)) = decide (0 ≤ (tnL c (M.getD k []) j).getD j 0)) := good_iff (by rw [HCL.out]; exact hlt) (HPO.out _ HBB.out).1
              have HAS : Hid (abS c k j M = if (0 ≤ (tnL c (M.getD k []) j).getD j 0 ∧ M.any (· == tnL c (M.getD k []) j) = false) then M ++ [tnL c (M.getD k []) j] else M) := rfl
              generalize tnL c (M.getD k []) j = t at *
              have HTC' : Hid (Calls Try.prog 30 #[.slice ao i cap, r1, .int .i64 (j : Nat)] wr fun e w' => ∃ u, e = .returned u ∧ w'.ownsRow wr.heap.size 3 1 u i (ints t) ∧ Below wr.heap.size wr w') := HTC
              clear hr1 HTC HBB
              go_wp2_with fail
              refine HTC'.out.mono ?_
              rintro e w1 ⟨u, rfl, hou, hb1⟩
              obtain ⟨to, tc, hu⟩ := owns_form hou
              subst hu
              have HSL : Hid (Sl 0 3 w1 (.slice to i tc) (ints t)) := Sl.own hou
              have HB1 : Hid (Below wr.heap.size wr w1) := hb1
              have hsz1 : wr.heap.size ≤ w1.heap.size := hb1.size
              have HB7 : Hid (Below w.heap.size w w1) := HBq.out.trans (hb1.mono hszq)
              have HF7 : Hid (Fr w.heap.size 26 3 w1 (.slice (some ⟨b1, o1, none⟩) M.length zc) M) := HFM.out.below hb1 (Nat.le_refl _)
              have HM7 : Hid (Mat 0 26 3 w1 (.slice (some ⟨b1, o1, none⟩) M.length zc) M) := HMT.out.below hb1 (Nat.le_refl _)
              clear hou hb1 HTC' HMT HFM
              go_wp2
              go_loopw [9, 10] (fun gv kv wq => ∃ q : Nat, q ≤ i ∧ kv = .int .i64 q ∧ gv = .bool ((t.take q).all fun z => decide (0 ≤ z)) ∧ wq = w1) (fun _ kv _ => i - (intOf kv).toNat)
              case atStart => exact ⟨0, Nat.zero_le _, rfl, by simp, rfl⟩
              case round =>
                obtain ⟨q, hq, rfl, rfl, rfl⟩ := hrel
                by_cases hql : q < i
                · obtain ⟨b2, o2, cp2, hs2, _, hc2⟩ := sl_cell HSL.out (k := q) (by rw [HTL.out]; exact hql)
                  rw [HTL.out] at hs2
                  simp only [Value.slice.injEq, true_and] at hs2
                  obtain ⟨rfl, rfl⟩ := hs2
                  have HSN : Hid (((t.take (q + 1)).all fun z => decide (0 ≤ z)) = (((t.take q).all fun z => decide (0 ≤ z)) && decide (0 ≤ t.getD q 0))) := all_snoc (by rw [HTL.out]; exact hql) _
                  generalize t.getD q 0 = z at *
                  generalize ((t.take q).all fun z => decide (0 ≤ z)) = gb at *
                  cases gb
                  · go_wp2
                    go_roundw
                    case rel => exact ⟨q + 1, by omega, by go_num, by rw [HSN.out]; rfl, trivial⟩
                    case measure => simp [intOf]; omega
                  · by_cases hz : 0 ≤ z
                    · have HZ : Hid (decide (0 ≤ z) = true) := decide_eq_true hz
                      go_wp2
                      go_roundw
                      case rel => exact ⟨q + 1, by omega, by go_num, by rw [HSN.out, HZ.out]; rfl, trivial⟩
                      case measure => simp [intOf]; omega
                    · have HZ : Hid (decide (0 ≤ z) = false) := decide_eq_false hz
                      go_wp2
                      go_roundw
                      case rel => exact ⟨q + 1, by omega, by go_num, by rw [HSN.out, HZ.out]; rfl, trivial⟩
                      case measure => simp [intOf]; omega
                · have hqe : t.take q = t := List.take_of_length_le (by rw [HTL.out]; omega)
                  rw [hqe, HGI.out]
                  clear hqe
                  by_cases hge : 0 ≤ t.getD j 0
                  · rw [decide_eq_true hge]
                    have HCF : Hid (Calls Try.prog 31 #[.slice (some ⟨b1, o1, none⟩) M.length zc, .slice to i tc] wr fun e w' => e = .returned (.bool (M.any (· == t))) ∧ ∃ n, w' = wr.drewN n) := holdsD_any 0 t M _ _ wr HSL.out HM7.out
                    obtain ⟨fb, hfb⟩ : ∃ fb, fb = M.any (· == t) := ⟨_, rfl⟩
                    rw [← hfb] at HCF
                    have HFB : Hid (fb = M.any (· == t)) := hfb
                    have HGE : Hid (0 ≤ t.getD j 0) := hge
                    clear hfb hge
                    go_wp2_with fail
                    refine HCF.out.mono ?_
                    rintro e w5 ⟨rfl, n5, rfl⟩
                    have HF8 : Hid (Fr w.heap.size 26 3 (wr.drewN n5) (.slice (some ⟨b1, o1, none⟩) M.length zc) M) := HF7.out
                    have HB8 : Hid (Below w.heap.size w (wr.drewN n5)) := HB7.out.trans ⟨rfl, rfl, rfl, Nat.le_refl _, fun _ _ => rfl⟩
                    have HS8 : Hid (Sl 0 3 (wr.drewN n5) (.slice to i tc) (ints t)) := HSL.out.drewN n5
                    clear HCF
                    cases hf : fb
                    · have HNX : Hid (abI c k (j + 1) L = M ++ [t]) := by
                        show _ = _
                        rw [HMM.out, HAS.out, if_pos ⟨HGE.out, by rw [← HFB.out]; exact hf⟩]
                      obtain ⟨us, k1, k2, k3⟩ := HF8.out
                      have K1 : Hid (us.length = M.length) := k1
                      have K2 : Hid ((wr.drewN n5).ownsRow w.heap.size 26 1 (.slice (some ⟨b1, o1, none⟩) M.length zc) M.length us) := k2
                      have K3 : Hid (∀ q, q < M.length → Sl 0 3 (wr.drewN n5) (us.getD q (.slice none 0 0)) (ints (M.getD q []))) := k3
                      have hsz5 : w.heap.size ≤ (wr.drewN n5).heap.size := HB8.out.size
                      clear k1 k2 k3 hf
                      generalize wr.drewN n5 = w5 at *
                      go_wp2_with (first | (at_builtin; refine wpList_append_own _ rfl _ _ 22 rfl w.heap.size 26 i0 (.slice none 0 0) 1 24 Try.underlying22 hi0 hz0 hz1 hz2 rfl (by decide) _ _ _ rfl (K2.out.alloc _) ⟨w5.heap.size, 0, none⟩ 1 1 [.slice to i tc] rfl rfl (one_new _ _ _) (one_slice _ _ _) ?d3 ?d4 ?d5 ?_))
                      case d3 => unfold maxLen; omega
                      case d4 => omega
                      case d5 => simp; omega
                      intro v2 w6 ho hg _
                      have S1 : Hid (Fr w.heap.size 26 3 w6 v2 (abI c k (j + 1) L)) := by
                        rw [HNX.out]
                        exact Fr.push (e2 := 26) (e1 := 3) (m := M) (u := .slice to i tc) (zs := t) (by decide) K1.out (K2.out.alloc _)
                          (fun q hq => (K3.out q hq).alloc _) (HS8.out.alloc _) ho hg
                      have S2 : Hid (Below w.heap.size w w6) := (HB8.out.alloc (by omega) _).grown hg (by simp; omega) (fun x hx => (K2.out.lt x hx).1)
                      obtain ⟨vo, vc, hv2⟩ := owns_form ho
                      subst hv2
                      clear ho hg
                      go_wp2
                      go_roundw
                      case rel => exact ⟨j + 1, by omega, by go_num, S1.out, S2.out⟩
                      case measure => simp [intOf]; omega
                    · have HNX : Hid (abI c k (j + 1) L = M) := by
                        show _ = _
                        rw [HMM.out, HAS.out, if_neg (fun h => by rw [← HFB.out, hf] at h; exact absurd h.2 (by decide))]
                      have HF5 : Hid (Fr w.heap.size 26 3 (wr.drewN n5) (.slice (some ⟨b1, o1, none⟩) M.length zc) (abI c k (j + 1) L)) := by
                        rw [HNX.out]; exact HF8.out
                      clear hf
                      go_wp2
                      go_roundw
                      case rel => exact ⟨j + 1, by omega, by go_num, HF5.out, HB8.out⟩
                      case measure => simp [intOf]; omega
                  · rw [decide_eq_false hge]
                    have HNX : Hid (abI c k (j + 1) L = M) := by
                      show _ = _
                      rw [HMM.out, HAS.out, if_neg (fun h => hge h.1)]
                    have HF5 : Hid (Fr w.heap.size 26 3 wr (.slice (some ⟨b1, o1, none⟩) M.length zc) (abI c k (j + 1) L)) := by
                      rw [HNX.out]
                      exact HF7.out
                    clear HNX hge
                    go_wp2
                    go_roundw
                    case rel => exact ⟨j + 1, by omega, by go_num, HF5.out, HB7.out⟩
                    case measure => simp [intOf]; omega
            · have hje : j = i := by omega
              subst hje
              have HF6 : Hid (Fr w.heap.size 26 3 wr u3 (abI c k j L)) := by rw [← hM]; exact hfr
              clear hfr
              have hl6 : (abI c k j L).length ≤ 28 := by
                have := abI_len c k j L
                omega
              generalize abI c k j L = M2 at *
              go_wp2
              go_roundw
              case rel => exact ⟨k + 1, f', M2, by go_num, by omega, HK2.out, hl6, HF6.out, HBq.out⟩
              case measure => simp [intOf]; omega
        · have HE : Hid (abL c = L) := by
            show _ = _
            rw [HK.out]
            cases f with
            | zero => rfl
            | succ f => rw [abO, if_neg hq]
          have h24 : L.length ≤ 24 := by rw [← HE.out]; exact HMN.out
          have h1 : ¬ k < L.length := fun h => hq ⟨h, h24⟩
          rw [decide_eq_false h1] at ekk
          have HMT : Hid (Mat wr.heap.size 26 3 wr (.slice yo L.length yc) L) := by
            obtain ⟨vs, g1, g2, g3⟩ := HF2.out
            exact ⟨vs, g1, Sl.own g2, fun q hq => (g3 q hq).more (Nat.zero_le _)⟩
          have HSO := sortR_any wr.heap.size L (.slice yo L.length yc) wr HMT.out (by omega) (fun r hr => by rw [← HE.out] at hr; have := (HSB.out r hr).1; omega)
          clear hq HMT HK
          go_wp2_with fail
          refine HSO.mono ?_
          rintro e w2 ⟨xv, s, rfl, hfs, hsa, hmem, hb2⟩
          have HFS : Hid (Fr wr.heap.size 26 3 w2 xv s) := hfs
          have HPM : Hid (s.Perm (abL c)) := perm_mem (sasc_nodup hsa) HND.out (fun r => by rw [HE.out]; exact hmem r)
          have HB2 : Hid (Below w.heap.size w w2) := HBR2.out.trans (hb2.mono HBR2.out.size)
          have hsl : s.length ≤ 24 := by rw [HPM.out.length_eq]; exact HMN.out
          have HGD : Hid (∀ q, q < s.length → s.getD q [] ∈ s) := fun q hq => by simp [hq]
          have HSI : Hid (∀ b ∈ s, 1 ≤ b.sum ∧ b.sum ≤ 4000) := fun b hb => by
            have hb' := HPM.out.mem_iff.1 hb
            obtain ⟨g1, g2⟩ := HSB.out b hb'
            have g3 := sumL_bd b.length (Nat.le_refl _) g2
            rw [List.take_length] at g3
            have g4 : 1000 * b.length ≤ 1000 * 4 := Nat.mul_le_mul_left _ g1
            exact ⟨(HPO.out b hb').2, by omega⟩
          obtain ⟨so, sc', hsv⟩ : ∃ so sc', xv = .slice so s.length sc' := by
            obtain ⟨vs, g1, g2, g3⟩ := hfs
            exact owns_form g2
          subst hsv
          have HMS : Hid (Mat 0 26 3 w2 (.slice so s.length sc') s) := by
            obtain ⟨vs, g1, g2, g3⟩ := hfs
            exact ⟨vs, g1, Sl.own g2, g3⟩
          have HSU : Hid (∀ q W r, q < s.length → Sl 0 3 W r (ints (s.getD q [])) → Calls Try.prog 18 #[r] W fun e w' => e = .returned (.int .i64 (s.getD q []).sum) ∧ ∃ n, w' = W.drewN n) := fun q W r hq h => by
            have hb' := HPM.out.mem_iff.1 (HGD.out q hq)
            obtain ⟨g1, g2⟩ := HSB.out _ hb'
            exact sumT_any 0 _ r W h (by omega) (fun z hz => by have := g2 z hz; omega)
          clear hfs hsa hmem hb2 HSO HF2 HBR2 HFS h24 h1 ekk ell
          go_wp2
          go_loopw [11, 12] (fun mv iv wq => ∃ k mz : Nat, k ≤ s.length ∧ iv = .int .i64 k ∧ mv = .int .i64 mz ∧ mz ≤ 4000 ∧ (∀ q, q < k → (s.getD q []).sum ≤ mz) ∧ ∃ n, wq = w2.drewN n) (fun _ iv _ => s.length - (intOf iv).toNat)
          case atStart => exact ⟨0, 0, Nat.zero_le _, rfl, rfl, by omega, fun q hq => absurd hq (by omega), 0, rfl⟩
          case round =>
            obtain ⟨k2, mz, hk2, rfl, rfl, hmz, hall, n2, rfl⟩ := hrel
            have HAL : Hid (∀ q, q < k2 → (s.getD q []).sum ≤ mz) := hall
            clear hall
            by_cases hlt : k2 < s.length
            · obtain ⟨b1, o1, cp1, r1, hs1, _, hc1, hr1⟩ := mat_cell (HMS.out.drewN n2) hlt
              simp only [Value.slice.injEq, true_and] at hs1
              obtain ⟨rfl, rfl⟩ := hs1
              have HS1 : Hid (∀ n, Calls Try.prog 18 #[r1] (w2.drewN n) fun e w' => e = .returned (.int .i64 (s.getD k2 []).sum) ∧ ∃ m, w' = (w2.drewN n).drewN m) := fun n => by
                obtain ⟨x1, x2, x3, x4, x5, _, x6, x7⟩ := mat_cell (HMS.out.drewN n) hlt
                simp only [Value.slice.injEq, true_and] at x5
                obtain ⟨y1, rfl⟩ := x5
                simp only [Option.some.injEq, Addr.mk.injEq, and_true] at y1
                obtain ⟨rfl, rfl⟩ := y1
                have e : x4 = r1 := by
                  have h := x6.symm.trans hc1
                  simpa using h
                subst e
                exact HSU.out k2 _ _ hlt x7
              obtain ⟨ya, yb⟩ := HSI.out _ (HGD.out k2 hlt)
              have HQ : Hid (∀ q, q < k2 + 1 → q < k2 ∨ q = k2) := fun q hq => by omega
              obtain ⟨z, hz⟩ : ∃ z : Nat, (s.getD k2 []).sum = (z : Int) := ⟨(s.getD k2 []).sum.toNat, by omega⟩
              have HZ : Hid ((s.getD k2 []).sum = (z : Int)) := hz
              rw [hz] at HS1 ya yb
              clear hz hr1
              have hc2 : ∀ n, (w2.drewN n).cell? ⟨b1, o1 + k2, none⟩ = some r1 := fun n => hc1
              have HS2 := HS1.out n2
              go_wp2_with fail
              refine HS2.mono ?_
              rintro e w3 ⟨rfl, m3, rfl⟩
              clear HS2
              rw [World.drewN_drewN]
              by_cases hgt : mz < z
              · have hgtI : (mz : Int) < (z : Int) := by omega
                have hc3 := hc2 (n2 + m3)
                have HS3 := HS1.out (n2 + m3)
                go_wp2_with fail
                refine HS3.mono ?_
                rintro e w3 ⟨rfl, m4, rfl⟩
                clear HS3
                rw [World.drewN_drewN]
                go_wp2
                go_roundw
                case rel => exact ⟨k2 + 1, z, by omega, by go_num, rfl, by omega, fun q hq => by
                  rcases HQ.out q hq with h | h
                  · have := HAL.out q h; omega
                  · rw [h, HZ.out]; exact Int.le_refl _, _, rfl⟩
                case measure => simp [intOf]; omega
              · have hgtI : ¬ (mz : Int) < (z : Int) := by omega
                go_wp2
                go_roundw
                case rel => exact ⟨k2 + 1, mz, by omega, by go_num, rfl, hmz, fun q hq => by
                  rcases HQ.out q hq with h | h
                  · exact HAL.out q h
                  · rw [h, HZ.out]; omega, _, rfl⟩
                case measure => simp [intOf]; omega
            · have HMX : Hid (∀ b ∈ s, b.sum ≤ (mz : Int)) := fun b hb => by
                obtain ⟨q, hq, e⟩ := List.mem_iff_getElem.1 hb
                have e2 : s.getD q [] = b := by simp [hq, e]
                rw [← e2]
                exact HAL.out q (by omega)
              have HOP : Hid ((oT s mz).Perm (abL c)) := (oT_perm (fun b hb => (HSI.out b hb).1) HMX.out).trans HPM.out
              have HOL : Hid (∀ h, (oT s h).length ≤ s.length) := fun h => by
                have := oT_cnt (fun b hb => (HSI.out b hb).1) (fun _ => true) h
                rw [List.countP_true] at this
                rw [this]
                exact List.countP_le_length
              have HM5 : Hid (Mat 0 26 3 (w2.drewN n2) (.slice so s.length sc') s) := HMS.out.drewN n2
              have HB5 : Hid (Below w.heap.size w (w2.drewN n2)) := HB2.out.trans ⟨rfl, rfl, rfl, Nat.le_refl _, fun _ _ => rfl⟩
              clear HAL HMS HB2 HMX
              generalize w2.drewN n2 = w5 at *
              go_wp2
              clear hk2 hlt
              go_loopw [13, 14, 15] (fun ov hv _ wr => ∃ h : Nat, h ≤ mz ∧ hv = .int .i64 ((h + 1 : Nat) : Int) ∧ Fr w5.heap.size 26 3 wr ov (oT s h) ∧ Below w5.heap.size w5 wr) (fun _ hv _ _ => mz + 1 - (intOf hv).toNat)
              case atStart => exact ⟨0, Nat.zero_le _, rfl, Fr.nil _ _ _ _, Below.refl _ _⟩
              case round =>
                obtain ⟨h, hh, rfl, hfr, hbr⟩ := hrel
                have HFR : Hid (Fr w5.heap.size 26 3 wr u13 (oT s h)) := hfr
                have HBR : Hid (Below w5.heap.size w5 wr) := hbr
                clear hfr hbr
                have ell2 : decide ((s.length : Int) ≤ 24) = true := decide_eq_true (by omega)
                by_cases hlt : h < mz
                · have eh : decide (((h + 1 : Nat) : Int) ≤ (mz : Int)) = true := decide_eq_true (by omega)
                  have HST : Hid (oT s (h + 1) = oT s h ++ s.filter fun b => decide (b.sum = ((h + 1 : Nat) : Int))) := rfl
                  have hol := HOL.out h
                  obtain ⟨O2, hO2⟩ : ∃ O2, O2 = oT s (h + 1) := ⟨_, rfl⟩
                  rw [← hO2] at HST
                  have HO2 : Hid (O2 = oT s (h + 1)) := hO2
                  clear hO2
                  generalize oT s h = O1 at *
                  have hh1 : h + 1 ≤ mz := hlt
                  generalize hH : h + 1 = H at *
                  clear hH
                  go_wp2
                  go_loopw [13, 15] (fun ov iv wq => ∃ q : Nat, q ≤ s.length ∧ iv = .int .i64 q ∧ Fr w5.heap.size 26 3 wq ov (O1 ++ (s.take q).filter fun b => decide (b.sum = (H : Int))) ∧ Below w5.heap.size w5 wq) (fun _ iv _ => s.length - (intOf iv).toNat)
                  case atStart => exact ⟨0, Nat.zero_le _, rfl, by simpa using HFR.out, HBR.out⟩
                  case round =>
                    obtain ⟨q, hq, rfl, hfr, hbq⟩ := hrel
                    have HBQ : Hid (Below w5.heap.size w5 wr) := hbq
                    have hszq : w5.heap.size ≤ wr.heap.size := hbq.size
                    have HF3 : Hid (Fr w5.heap.size 26 3 wr u13 (O1 ++ (s.take q).filter fun b => decide (b.sum = (H : Int)))) := hfr
                    clear hbq hfr
                    by_cases hlq : q < s.length
                    · obtain ⟨b1, o1, cp1, r1, hs1, _, hc1, hr1⟩ := mat_cell (HM5.out.below HBQ.out (Nat.le_refl _)) hlq
                      simp only [Value.slice.injEq, true_and] at hs1
                      obtain ⟨rfl, rfl⟩ := hs1
                      have HR1 : Hid (Sl 0 3 wr r1 (ints (s.getD q []))) := hr1
                      have HS1 := HSU.out q wr r1 hlq hr1
                      obtain ⟨ya, yb⟩ := HSI.out _ (HGD.out q hlq)
                      obtain ⟨z, hz⟩ : ∃ z : Nat, (s.getD q []).sum = (z : Int) := ⟨(s.getD q []).sum.toNat, by omega⟩
                      have HTS : Hid (((s.take (q + 1)).filter fun b => decide (b.sum = (H : Int))) = ((s.take q).filter fun b => decide (b.sum = (H : Int))) ++ (if z = H then [s.getD q []] else [])) := by
                        show _ = _
                        have e : s.getD q [] = s[q] := by simp [hlq]
                        rw [List.take_succ_eq_append_getElem hlq, List.filter_append, ← e]
                        by_cases ez : z = H
                        · rw [if_pos ez, List.filter_cons_of_pos (by rw [hz, decide_eq_true_iff]; omega)]; rfl
                        · rw [if_neg ez, List.filter_cons_of_neg (by rw [hz, decide_eq_true_iff]; omega)]; rfl
                      rw [hz] at HS1 ya yb
                      have HFL : Hid ((O1 ++ (s.take q).filter fun b => decide (b.sum = (H : Int))).length ≤ 48) := by
                        show _ ≤ _
                        have h1 := List.length_filter_le (fun b : List Int => decide (b.sum = (H : Int))) (s.take q)
                        rw [List.length_append]
                        rw [List.length_take] at h1
                        omega
                      generalize s.getD q [] = row at *
                      clear hz hr1
                      go_wp2_with fail
                      refine HS1.mono ?_
                      rintro e w6 ⟨rfl, m6, rfl⟩
                      clear HS1
                      have HF6 : Hid (Fr w5.heap.size 26 3 (wr.drewN m6) u13 (O1 ++ (s.take q).filter fun b => decide (b.sum = (H : Int)))) := HF3.out
                      have HB6 : Hid (Below w5.heap.size w5 (wr.drewN m6)) := HBQ.out.trans ⟨rfl, rfl, rfl, Nat.le_refl _, fun _ _ => rfl⟩
                      have HR6 : Hid (Sl 0 3 (wr.drewN m6) r1 (ints row)) := HR1.out.drewN m6
                      have hc6 : (wr.drewN m6).cell? ⟨b1, o1 + q, none⟩ = some r1 := hc1
                      have hsz6 : w5.heap.size ≤ (wr.drewN m6).heap.size := hszq
                      clear HF3 HR1 hc1 HBQ hszq
                      generalize wr.drewN m6 = w6 at *
                      cases hf : ((z : Int) == (H : Int))
                      · have HF : Hid (¬ z = H) := fun e => by rw [e] at hf; simp at hf
                        have HF9 : Hid (Fr w5.heap.size 26 3 w6 u13 (O1 ++ (s.take (q + 1)).filter fun b => decide (b.sum = (H : Int)))) := by
                          rw [HTS.out, if_neg HF.out, List.append_nil]; exact HF6.out
                        go_wp2
                        go_roundw
                        case rel => exact ⟨q + 1, by omega, by go_num, HF9.out, HB6.out⟩
                        case measure => simp [intOf]; omega
                      · have HF : Hid (z = H) := by
                          have h := hf
                          rw [beq_iff_eq] at h
                          exact Int.ofNat.inj h
                        have HTS2 : Hid (O1 ++ ((s.take (q + 1)).filter fun b => decide (b.sum = (H : Int))) = (O1 ++ (s.take q).filter fun b => decide (b.sum = (H : Int))) ++ [row]) := by
                          show _ = _
                          rw [HTS.out, if_pos HF.out, List.append_assoc]
                        generalize (O1 ++ (s.take q).filter fun b => decide (b.sum = (H : Int))) = O3 at *
                        obtain ⟨vs, g1, g2, g3⟩ := HF6.out
                        have G1 : Hid (vs.length = O3.length) := g1
                        have G2 : Hid (w6.ownsRow w5.heap.size 26 1 u13 O3.length vs) := g2
                        have G3 : Hid (∀ i, i < O3.length → Sl 0 3 w6 (vs.getD i (.slice none 0 0)) (ints (O3.getD i []))) := g3
                        obtain ⟨oo, oc, hov⟩ := owns_form g2
                        subst hov
                        obtain ⟨ro, rc, hrv, _, _⟩ := sl_open HR6.out
                        subst hrv
                        have hfl := HFL.out
                        clear g1 g2 g3
                        go_wp2_with (first | (at_builtin; refine wpList_append_own _ rfl _ _ 22 rfl w5.heap.size 26 i0 (.slice none 0 0) 1 24 Try.underlying22 hi0 hz0 hz1 hz2 rfl (by decide) _ _ _ rfl (G2.out.alloc _) ⟨w6.heap.size, 0, none⟩ 1 1 [.slice ro row.length rc] rfl rfl (one_new _ _ _) (one_slice _ _ _) ?d3 ?d4 ?d5 ?_))
                        case d3 => unfold maxLen; omega
                        case d4 => omega
                        case d5 => simp; omega
                        intro v2 w7 ho hg _
                        have S1 : Hid (Fr w5.heap.size 26 3 w7 v2 (O1 ++ (s.take (q + 1)).filter fun b => decide (b.sum = (H : Int)))) := by
                          rw [HTS2.out]
                          exact Fr.push (e2 := 26) (e1 := 3) (m := O3) (u := .slice ro row.length rc) (zs := row) (by decide) G1.out (G2.out.alloc _)
                            (fun i hi => (G3.out i hi).alloc _) (HR6.out.alloc _) ho hg
                        have S2 : Hid (Below w5.heap.size w5 w7) := (HB6.out.alloc (by omega) _).grown hg (by simp; omega) (fun x hx => (G2.out.lt x hx).1)
                        obtain ⟨vo, vc, hv2⟩ := owns_form ho
                        subst hv2
                        clear ho hg
                        go_wp2
                        go_roundw
                        case rel => exact ⟨q + 1, by omega, by go_num, S1.out, S2.out⟩
                        case measure => simp [intOf]; omega
                    · have hqe : s.take q = s := List.take_of_length_le (by omega)
                      rw [hqe] at HF3
                      have HFE : Hid (Fr w5.heap.size 26 3 wr u13 O2) := by rw [HST.out]; exact HF3.out
                      go_wp2
                      go_roundw
                      case rel => exact ⟨H, hh1, by go_num, by rw [← HO2.out]; exact HFE.out, HBQ.out⟩
                      case measure => simp [intOf]; omega
                · have eh : decide (((h + 1 : Nat) : Int) ≤ (mz : Int)) = false := decide_eq_false (by omega)
                  have hhe : h = mz := by omega
                  have HFE : Hid (Fr w.heap.size 26 3 wr u13 (oT s h)) := by
                    obtain ⟨vs, g1, g2, g3⟩ := HFR.out
                    exact ⟨vs, g1, own_lowD g2 HB5.out.size, g3⟩
                  have HBE : Hid (Below w.heap.size w wr) := HB5.out.trans (HBR.out.mono HB5.out.size)
                  have HPE : Hid ((oT s h).Perm (abL c)) := by rw [hhe]; exact HOP.out
                  obtain ⟨oo, oc, hov⟩ : ∃ oo oc, u13 = .slice oo (oT s h).length oc := by
                    obtain ⟨vs, g1, g2, g3⟩ := HFR.out
                    exact owns_form g2
                  subst hov
                  generalize (oT s h).length = ol at *
                  go_wp2
                  go_ret
                  exact ⟨_, rfl, oT s h, HFE.out, HPE.out, HBE.out⟩

end Go.Proofs.Ytkgljfnbaoncbaa
