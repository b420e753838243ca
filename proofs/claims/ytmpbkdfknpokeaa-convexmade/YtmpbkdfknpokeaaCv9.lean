/- The document's BetweenOf. -/
import Derived.Test.YtmpbkdfknpokeaaCv8
import Derived.Test.YtmpbkdfknpokeaaRefs7
namespace Go.Proofs.Ytmpbkdfknpokeaa
open Go.RowKit Lin
attribute [local go_sem ↓] Go.wp_at_zero Go.wp_at_succ

theorem betTo_succ (d : Nat) (p : List (List Int)) (x : List Int) (k : Nat) : betTo d p x (k + 1) = betTo d p x k ++ (ext p.length (k + 1) 0).filter (betB d p x) := by
  simp [betTo, List.range_succ]

theorem betTo_pre (d : Nat) (p : List (List Int)) (x : List Int) {k m : Nat} (h : k ≤ m) : betTo d p x k <+: betTo d p x m := by
  obtain ⟨t, rfl⟩ := Nat.exists_eq_add_of_le h
  induction t with
  | zero => exact List.prefix_rfl
  | succ t ih => rw [← Nat.add_assoc, betTo_succ]; exact (ih (by omega)).trans (List.prefix_append _ _)

theorem bet_first {d k m i : Nat} {p : List (List Int)} {x : List Int} (h0 : betTo d p x k = []) (hi : i < (ext p.length (k + 1) 0).length) (h1 : ((ext p.length (k + 1) 0).take i).filter (betB d p x) = [])
    (h2 : betB d p x ((ext p.length (k + 1) 0).getD i []) = true) (hk : k + 1 ≤ m) : ∃ t, betTo d p x m = (ext p.length (k + 1) 0).getD i [] :: t := by
  obtain ⟨t, ht⟩ := betTo_pre d p x hk
  rw [betTo_succ, h0, List.nil_append] at ht
  have e : ext p.length (k + 1) 0 = (ext p.length (k + 1) 0).take i ++ (ext p.length (k + 1) 0).getD i [] :: (ext p.length (k + 1) 0).drop (i + 1) := by
    conv => lhs; rw [← List.take_append_drop i (ext p.length (k + 1) 0), List.drop_eq_getElem_cons hi]
    simp [hi]
  have e2 : (ext p.length (k + 1) 0).filter (betB d p x) = (ext p.length (k + 1) 0).getD i [] :: ((ext p.length (k + 1) 0).drop (i + 1)).filter (betB d p x) := by
    generalize (ext p.length (k + 1) 0).getD i [] = c at *
    conv => lhs; rw [e]
    rw [List.filter_append, h1, List.nil_append, List.filter_cons, if_pos h2]
  rw [e2] at ht
  exact ⟨_, ht.symm⟩

theorem ext_len (n : Nat) : ∀ k fr, (ext n k fr).length ≤ n ^ k
  | 0, fr => by simp [ext]
  | k + 1, fr => by
    have key : ∀ m fr, n - fr = m → (ext n (k + 1) fr).length ≤ m * n ^ k := by
      intro m
      induction m with
      | zero => intro fr h; rw [ext_end (by omega)]; simp
      | succ m ih =>
        intro fr h
        rw [ext_step (by omega), List.length_append, List.length_map]
        have h1 := ext_len n k (fr + 1)
        have h2 := ih (fr + 1) (by omega)
        rw [Nat.succ_mul]
        omega
    have h1 := key (n - fr) fr rfl
    have h2 : (n - fr) * n ^ k ≤ n * n ^ k := Nat.mul_le_mul_right _ (by omega)
    rw [Nat.pow_succ, Nat.mul_comm (n ^ k)]
    omega

theorem filt_snoc {p : List Int → Bool} {l : List (List Int)} {i : Nat} (hi : i < l.length) (h : (l.take i).filter p = []) (h2 : p (l.getD i []) = false) : (l.take (i + 1)).filter p = [] := by
  have e : l.getD i [] = l[i] := by simp [hi]
  rw [e] at h2
  rw [List.take_succ_eq_append_getElem hi, List.filter_append, h]
  simp [h2]

theorem sl_cutc {B n c : Nat} {w : World} {a : Addr} {zs : List Int} (h : Sl B 3 w (.slice (some a) zs.length c) (ints zs)) (hn : n ≤ zs.length) : Sl B 3 w (.slice (some a) n c) (ints (zs.take n)) := by
  obtain ⟨bo, cap, hv, h1, h2, h3, h4⟩ := h
  simp only [Value.slice.injEq] at hv
  obtain ⟨rfl, _, rfl⟩ := hv
  simp at h1
  refine ⟨some a, c, by simp; omega, by simp; omega, by omega, fun i hi => ?_, fun h => by cases h⟩
  have hi' : i < n := by simp at hi; omega
  obtain ⟨b, o, ha, hc, ht⟩ := h3 i (by simp; omega)
  refine ⟨b, o, ha, ?_, ht⟩
  rw [hc, ints_get _ _ (by omega), ints_get _ _ (by simp; omega)]
  simp [hi']

theorem run_cutk {a : Addr} {n c d : Nat} (h1 : d ≤ n) (h2 : n ≤ c) (w : World) : (Instr.slice 23 (.slice (some a) n c) none (some (.int .i64 (d : Int))) none).run Try.prog w = .ok (.slice (some a) d c) w := by
  have e1 : (0 : Int) ≤ (d : Int) ∧ (d : Int) ≤ (c : Int) := by omega
  have e2 : d ≤ c := by omega
  have hz : ∀ w, (Go.sizeOf 3).run Try.prog w = .ok 1 w := fun w => by kernel_rfl
  simp [Instr.slice, Instr.sliceBounds, Instr.sliceBound, run_underlying Try.underlying23, asIntOf, e1, e2, hz, Addr.add, go_sem]

/-- The numbers of points that the document takes, and how much of each. -/
def docT (d : Nat) (p : List (List Int)) (x c : List Int) : List Int := normL (c.length + 1) (onesT d (pks p [] c ++ [x]))

theorem doc_good (k : Nat) (M : List Int) (j : Nat) : (decide (V (docM k M) k < 0) && (List.range (j + 1)).all fun i => decide (0 < V (docM k M) i)) = ((decide (V (docM k M) k < 0) && (List.range j).all fun i => decide (0 < V (docM k M) i)) && decide (0 < V (docM k M) j)) := by
  rw [List.range_succ, List.all_append, Bool.and_assoc]
  simp

def gdT (k : Nat) (M : List Int) (j : Nat) : Bool := decide (V (docM k M) k < 0) && (List.range j).all fun i => decide (0 < V (docM k M) i)
theorem gdT_succ (k : Nat) (M : List Int) (j : Nat) : gdT k M (j + 1) = (gdT k M j && decide (0 < V (docM k M) j)) := doc_good k M j
theorem gdT_zero (k : Nat) (M : List Int) : gdT k M 0 = decide (V (docM k M) k < 0) := by simp [gdT]
theorem gdT_all (k : Nat) (M : List Int) : gdT k M k = docG k M := rfl

set_option maxRecDepth 100000 in
set_option maxHeartbeats 8000000 in
theorem betweenOf_any (d : Nat) (p : List (List Int)) (x : List Int) (v xv : Value) (w : World) (hv : Mat w.heap.size 23 3 w v p) (hx : Sl w.heap.size 3 w xv (ints x)) (hok : PmOk d p) (hxd : x.length = d) (hxb : ∀ z ∈ x, z.natAbs ≤ 20) :
    Calls Try.prog 13 #[v, xv] w fun e w' => ∃ tv b, e = .returned (.tuple #[tv, .bool b]) ∧ BtV (p.map oneR) (oneR x) w' tv b ∧ Below w.heap.size w w' := by
  obtain ⟨i0, hi, hz0, hz1, hz2⟩ := info_parts Try.info23
  obtain ⟨ao, cap, hvv, hlc, hcm⟩ := mat_open hv
  obtain ⟨xo, xc, hxx, hlx, hcx⟩ := sl_open hx
  rw [hxd] at hxx
  subst hvv hxx
  obtain ⟨W, hW⟩ : ∃ W, W = w.alloc (.cells #[.slice none 0 0, .slice none 0 0, .int .i64 0] 35) := ⟨_, rfl⟩
  have HWW : Hid (W = w.alloc (.cells #[.slice none 0 0, .slice none 0 0, .int .i64 0] 35)) := hW
  have HBW : Hid (Below w.heap.size w W) := by rw [hW]; exact alloc_keep _ _
  have HSW : Hid (W.heap.size = w.heap.size + 1) := by rw [hW]; exact size_alloc _ _
  have HBX : Hid (∀ W', Below W.heap.size W W' → W'.heap[w.heap.size]? = some (.cells #[.slice none 0 0, .slice none 0 0, .int .i64 0] 35 (0, 0))) := fun W' hB => (hB.block _ (by have := HSW.out; omega)).trans (by rw [hW]; exact alloc_new _ _)
  have HV : Hid (∀ W', Below W.heap.size W W' → Mat w.heap.size 23 3 W' (.slice ao p.length cap) p) := fun W' hB => (hv.below HBW.out (Nat.le_refl _)).below hB (Nat.le_refl _)
  have HX : Hid (∀ W', Below W.heap.size W W' → Sl w.heap.size 3 W' (.slice xo d xc) (ints x)) := fun W' hB => (hx.below HBW.out (Nat.le_refl _)).below hB (Nat.le_refl _)
  have HOK : Hid (PmOk d p) := hok
  have HXD : Hid (x.length = d) := hxd
  have HXB : Hid (∀ z ∈ x, z.natAbs ≤ 20) := hxb
  have HWB : Hid (waysL (p.map oneR) (oneR x) = betTo d p x (d + 1)) := ways_bet hxd hok.len
  have h1 := hok.n1
  have h12 := hok.n12
  have hd3 := hok.d3
  have hd1 := hok.d1
  clear hv hx hok hxd hxb hW hlx
  go_enter Try.func13, Try.ntmps13
  go_wp2
  rw [← HWW.out]
  go_loopw [6] (fun i wr => ∃ k : Nat, k ≤ d + 1 ∧ i = .int .i64 (k + 1 : Nat) ∧ betTo d p x k = [] ∧ Below W.heap.size W wr) (fun i _ => d + 2 - (intOf i).toNat)
  case atStart => exact ⟨0, by omega, rfl, rfl, Below.refl _ _⟩
  case round =>
    obtain ⟨k, hk, rfl, hno, hb⟩ := hrel
    have HNO : Hid (betTo d p x k = []) := hno
    have HB : Hid (Below W.heap.size W wr) := hb
    clear hno hb
    by_cases hlt : k < d + 1
    · have hkI : ((k + 1 : Nat) : Int) ≤ (d : Int) + 1 := by omega
      have HCS : Hid (∀ W', Calls Try.prog 30 #[.int .i64 p.length, .int .i64 (k + 1 : Nat)] W' fun e w' => ∃ y, e = .returned y ∧ Fr W'.heap.size 23 3 w' y (chosenL (k + 1) p.length) ∧ Below W'.heap.size W' w') := fun W' => chosen_any (k + 1) (by omega) p.length W' (by omega)
      have HSO : Hid (∀ W' y, Mat 0 23 3 W' y (chosenL (k + 1) p.length) → Calls Try.prog 29 #[y] W' fun e w' => ∃ lo lc, e = .returned (.slice lo (ext p.length (k + 1) 0).length lc) ∧ Fr W'.heap.size 23 3 w' (.slice lo (ext p.length (k + 1) 0).length lc) (ext p.length (k + 1) 0) ∧ Below W'.heap.size W' w') := by
        intro W' y hy
        refine (sortR_any 0 _ y W' hy ?_ ?_).mono ?_
        · have := chosen_len (k + 1) p.length (by omega)
          have : 64 ^ (k + 1) ≤ 64 ^ 4 := Nat.pow_le_pow_right (by decide) (by omega)
          have : 64 ^ 4 = 16777216 := by decide
          omega
        · intro r hr
          have := chosen_row (k + 1) p.length r hr
          omega
        · rintro e w' ⟨z, s, rfl, hf, hs, hm, hb⟩
          have := sort_chosen hs hm
          subst this
          obtain ⟨lo, lc, rfl, _, _⟩ := mat_open (fr_mat0 hf)
          exact ⟨lo, lc, rfl, hf, hb⟩
      have HEL : Hid ((ext p.length (k + 1) 0).length ≤ 100000) := by
        show _ ≤ _
        have a1 := ext_len p.length (k + 1) 0
        have a2 : p.length ^ (k + 1) ≤ 12 ^ (k + 1) := Nat.pow_le_pow_left h12 _
        have a3 : 12 ^ (k + 1) ≤ 12 ^ 4 := Nat.pow_le_pow_right (by decide) (by omega)
        have a4 : 12 ^ 4 = 20736 := by decide
        omega
      go_wp2_with fail
      refine (HCS.out _).mono ?_
      rintro e w1 ⟨y, rfl, hf1, hb1⟩
      obtain ⟨yo, yc, hyv, _, _⟩ := mat_open (fr_mat0 hf1)
      have HM1 : Hid (Mat 0 23 3 w1 y (chosenL (k + 1) p.length)) := fr_mat0 hf1
      have HB1 : Hid (Below W.heap.size W w1) := HB.out.trans (hb1.mono HB.out.size)
      clear hf1 hb1 hyv
      go_wp2_with fail
      refine (HSO.out w1 y HM1.out).mono ?_
      rintro e w2 ⟨lo, lc, rfl, hf2, hb2⟩
      have HF2 : Hid (Fr w1.heap.size 23 3 w2 (.slice lo (ext p.length (k + 1) 0).length lc) (ext p.length (k + 1) 0)) := hf2
      have HB2 : Hid (Below W.heap.size W w2) := HB1.out.trans (hb2.mono HB1.out.size)
      clear hf2 hb2 HM1 HSO HCS
      obtain ⟨L, hL⟩ : ∃ L, L = (ext p.length (k + 1) 0).length := ⟨_, rfl⟩
      rw [← hL] at HF2 HEL ⊢
      have HL : Hid (L = (ext p.length (k + 1) 0).length) := hL
      clear hL
      have hLb := HEL.out
      go_wp2
      go_loopw [8] (fun i wr => ∃ t : Nat, t ≤ L ∧ i = .int .i64 t ∧ ((ext p.length (k + 1) 0).take t).filter (betB d p x) = [] ∧ Below w2.heap.size w2 wr) (fun i _ => L - (intOf i).toNat)
      case atStart => exact ⟨0, by omega, rfl, rfl, Below.refl _ _⟩
      case round =>
        obtain ⟨t, ht, rfl, hno, hb⟩ := hrel
        have HNT : Hid (((ext p.length (k + 1) 0).take t).filter (betB d p x) = []) := hno
        have HBr : Hid (Below w2.heap.size w2 wr) := hb
        clear hno hb
        by_cases htl : t < L
        · have htE : t < (ext p.length (k + 1) 0).length := by rw [← HL.out]; exact htl
          obtain ⟨lb, lof, lcp, rv, hs, _, hcca, hra⟩ := mat_cell (fr_mat0 HF2.out) htE
          rw [← HL.out] at hs
          simp only [Value.slice.injEq] at hs
          obtain ⟨rfl, -, rfl⟩ := hs
          have hcm' : (ext p.length (k + 1) 0).getD t [] ∈ ext p.length (k + 1) 0 := by simp [htE]
          have HBF : Hid (betB d p x ((ext p.length (k + 1) 0).getD t []) = true → ∃ q, betTo d p x (d + 1) = (ext p.length (k + 1) 0).getD t [] :: q) := fun h => bet_first HNO.out htE HNT.out h (by omega)
          have HBN : Hid (betB d p x ((ext p.length (k + 1) 0).getD t []) = false → ((ext p.length (k + 1) 0).take (t + 1)).filter (betB d p x) = []) := fun h => filt_snoc htE HNT.out h
          generalize (ext p.length (k + 1) 0).getD t [] = c at *
          obtain ⟨hcl, hcr, -⟩ := ext_rise hcm'
          have HCM : Hid (c ∈ ext p.length (k + 1) 0) := hcm'
          have HCR : Hid (∀ i, i < k + 1 → 0 ≤ c.getD i 0 ∧ c.getD i 0 < p.length) := fun i hi => by have := hcr i hi; omega
          have HCL : Hid (c.length = k + 1) := hcl
          obtain ⟨cco, ccc, hrv, hc1, hc2⟩ := sl_open hra
          rw [hcl] at hrv
          subst hrv
          have HRA : Hid (∀ W', Below w2.heap.size w2 W' → Sl 0 3 W' (.slice cco (k + 1) ccc) (ints c)) := fun W' hB => hra.below hB (Nat.le_refl _)
          have HCC : Hid (∀ W', Below w2.heap.size w2 W' → W'.cell? ⟨lb, lof + t, none⟩ = some (.slice cco (k + 1) ccc)) := fun W' hB => (hB.cell (lt_of_cell hcca)).trans hcca
          clear hcca hra hcm' hcl hcr hc1 hc2
          obtain ⟨M, hM⟩ : ∃ M, M = wr.heap.size := ⟨_, rfl⟩
          have HM : Hid (M = wr.heap.size) := hM
          have hMW : W.heap.size ≤ M := by have := HBr.out.size; have := HB2.out.size; omega
          have hMw : w.heap.size ≤ M := by have := HSW.out; omega
          clear hM
          rename World => wa
          have HBa : Hid (Below W.heap.size W wa) := HB2.out.trans (HBr.out.mono HB2.out.size)
          have htI : (t : Int) < (L : Int) := by omega
          have htI0 : (0 : Int) ≤ (t : Int) := by omega
          go_wp2
          go_loopw [9, 10] (fun s i wq => ∃ j : Nat, j ≤ k + 1 ∧ i = .int .i64 j ∧ Rws M 23 3 wq s ((pks p [] c).take j) ∧ Below M wa wq) (fun _ i _ => k + 1 - (intOf i).toNat)
          case atStart => exact ⟨0, by omega, rfl, Rws.nil _ _ _ _, Below.refl _ _⟩
          case round =>
            obtain ⟨j, hj, rfl, hrw, hbq⟩ := hrel
            have HR : Hid (Rws M 23 3 wr u9 ((pks p [] c).take j)) := hrw
            have HBq : Hid (Below M wa wr) := hbq
            have hszq : M ≤ wr.heap.size := by have := hbq.size; have := HM.out; omega
            have HBw : Hid (Below w2.heap.size w2 wr) := HBr.out.trans (hbq.mono (by have := HBr.out.size; have := HM.out; omega))
            have HBW2 : Hid (Below W.heap.size W wr) := HB2.out.trans (HBw.out.mono HB2.out.size)
            have hcc := HCC.out wr HBw.out
            clear hrw hbq
            by_cases hjl : j < k + 1
            · obtain ⟨b3, o3, cp3, hs3, hc3, hcc3⟩ := sl_cell (HRA.out wr HBw.out) (k := j) (by rw [HCL.out]; exact hjl)
              simp only [Value.slice.injEq] at hs3
              obtain ⟨rfl, -, rfl⟩ := hs3
              obtain ⟨hq1, hq2⟩ := HCR.out j hjl
              obtain ⟨q, hqq⟩ := Int.eq_ofNat_of_zero_le hq1
              have hqp : q < p.length := by omega
              have HSN : Hid ((pks p [] c).take (j + 1) = (pks p [] c).take j ++ [p.getD q []]) := by
                show _ = _
                have hjc : j < c.length := by rw [HCL.out]; exact hjl
                rw [List.take_succ_eq_append_getElem (by rw [pks_len]; exact hjc)]
                congr 2
                simp only [pks, List.getElem_map]
                have : c[j] = (q : Int) := by rw [← hqq]; simp [hjc]
                rw [this]; rfl
              have HLN : Hid (((pks p [] c).take j).length = j) := by show _ = _; rw [List.length_take, pks_len, HCL.out]; omega
              rw [hqq] at hcc3 hq2
              clear hqq hq1
              obtain ⟨b4, o4, cp4, rq, hs4, _, hcc4, hrq⟩ := mat_cell (HV.out wr HBW2.out) hqp
              simp only [Value.slice.injEq] at hs4
              obtain ⟨rfl, -, rfl⟩ := hs4
              obtain ⟨ro, rc, hrv, _, _⟩ := sl_open hrq
              subst hrv
              have HRQ : Hid (Sl M 3 wr (.slice ro (p.getD q []).length rc) (ints (p.getD q []))) := hrq.more hMw
              clear hrq
              generalize p.getD q [] = y at *
              generalize hyl : y.length = yl at *
              clear hyl
              obtain ⟨vs, g1, g2, g3⟩ := HR.out
              rw [HLN.out] at g1 g2 g3
              have G1 : Hid (vs.length = j) := g1
              have G2 : Hid (wr.ownsRow M 23 1 u9 j vs) := g2
              have G3 : Hid (∀ i, i < j → Sl M 3 wr (vs.getD i (.slice none 0 0)) (ints (((pks p [] c).take j).getD i []))) := g3
              have hjI : (j : Int) < ((k + 1 : Nat) : Int) := by omega
              have hjI0 : (0 : Int) ≤ (j : Int) := by omega
              have hqI0 : (0 : Int) ≤ (q : Int) := by omega
              clear g1 g2 g3
              go_wp2_with (first | (at_builtin; refine wpList_append_own _ rfl _ _ 22 rfl M 23 i0 (.slice none 0 0) 1 24 Try.underlying22 hi hz0 hz1 hz2 rfl (by decide) _ _ _ rfl (G2.out.alloc _) ⟨wr.heap.size, 0, none⟩ 1 1 [.slice ro yl rc] rfl rfl (one_new _ _ _) (one_slice _ _ _) ?d3 ?d4 ?d5 ?_))
              case d3 => unfold maxLen; omega
              case d4 => omega
              case d5 => simp; omega
              intro v' w3 ho hg _
              have R1 : Hid (Rws M 23 3 w3 v' ((pks p [] c).take (j + 1))) := by
                have hp := Rws.push (e2 := 23) (e1 := 3) (m := (pks p [] c).take j) (u := .slice ro yl rc) (zs := y) (by decide) (by rw [HLN.out]; exact G1.out) (by rw [HLN.out]; exact G2.out.alloc _)
                  (fun i hi => (G3.out i (by rw [HLN.out] at hi; exact hi)).alloc _) (HRQ.out.alloc _) (by rw [HLN.out]; exact ho) hg
                rw [← HSN.out] at hp
                exact hp
              have R2 : Hid (Below M wa w3) := (HBq.out.alloc hszq _).grown hg (by simp; omega) (fun x hx => (G2.out.lt x hx).1)
              clear ho hg hcc hcc3 hcc4
              go_wp2
              go_roundw
              case rel => exact ⟨j + 1, by omega, by go_num, R1.out, R2.out⟩
              case measure => simp [intOf]; omega
            · obtain rfl : j = k + 1 := by omega
              clear hcc
              have HRR := HR.out
              rw [List.take_of_length_le (by rw [pks_len, HCL.out]; exact Nat.le_refl _)] at HRR
              obtain ⟨vs, g1, g2, g3⟩ := HRR
              have HLN : Hid ((pks p [] c).length = k + 1) := by show _ = _; rw [pks_len, HCL.out]
              rw [HLN.out] at g1 g2 g3
              have G1 : Hid (vs.length = k + 1) := g1
              have G2 : Hid (wr.ownsRow M 23 1 u9 (k + 1) vs) := g2
              have G3 : Hid (∀ i, i < k + 1 → Sl M 3 wr (vs.getD i (.slice none 0 0)) (ints ((pks p [] c).getD i []))) := g3
              have HXr : Hid (Sl M 3 wr (.slice xo d xc) (ints x)) := (HX.out wr HBW2.out).more hMw
              clear g1 g2 g3 HR
              go_wp2_with (first | (at_builtin; refine wpList_append_own _ rfl _ _ 22 rfl M 23 i0 (.slice none 0 0) 1 24 Try.underlying22 hi hz0 hz1 hz2 rfl (by decide) _ _ _ rfl (G2.out.alloc _) ⟨wr.heap.size, 0, none⟩ 1 1 [.slice xo d xc] rfl rfl (one_new _ _ _) (one_slice _ _ _) ?d3 ?d4 ?d5 ?_))
              case d3 => unfold maxLen; omega
              case d4 => omega
              case d5 => simp; omega
              intro v' w3 ho hg _
              have R1 : Hid (Rws M 23 3 w3 v' (pks p [] c ++ [x])) := by
                have hp := Rws.push (e2 := 23) (e1 := 3) (m := pks p [] c) (u := .slice xo d xc) (zs := x) (by decide) (by rw [HLN.out]; exact G1.out) (by rw [HLN.out]; exact G2.out.alloc _)
                  (fun i hi => (G3.out i (by rw [HLN.out] at hi; exact hi)).alloc _) (HXr.out.alloc _) (by rw [HLN.out]; exact ho) hg
                exact hp
              have R2 : Hid (Below M wa w3) := (HBq.out.alloc hszq _).grown hg (by simp; omega) (fun x hx => (G2.out.lt x hx).1)
              have HB3 : Hid (Below w2.heap.size w2 w3) := HBr.out.trans (R2.out.mono (by have := HBr.out.size; have := HM.out; omega))
              obtain ⟨v1, v2, hv'⟩ := owns_form ho
              subst hv'
              clear ho hg G1 G2 G3 HXr
              have hQr : ∀ r ∈ pks p [] c ++ [x], r.length = d := fun r hr => by
                rcases List.mem_append.1 hr with h | h
                · exact pks_rows HOK.out.len HCM.out r h
                · simp at h; rw [h]; exact HXD.out
              have hQb : ∀ r ∈ pks p [] c ++ [x], ∀ z ∈ r, z.natAbs ≤ 20 := fun r hr => by
                rcases List.mem_append.1 hr with h | h
                · simp only [pks, List.mem_map] at h
                  obtain ⟨i, hi', rfl⟩ := h
                  obtain ⟨t', ht', rfl⟩ := List.getElem_of_mem hi'
                  have h1 := HCR.out t' (by rw [← HCL.out]; exact ht')
                  have e : c.getD t' 0 = c[t'] := by simp [ht']
                  rw [e] at h1
                  exact HOK.out.bd _ (by simp [show (c[t']).toNat < p.length by omega])
                · simp at h; rw [h]; exact HXB.out
              have hQl : (pks p [] c ++ [x]).length = k + 2 := by rw [List.length_append, HLN.out]; rfl
              have HWO : Hid (Calls Try.prog 8 #[.slice v1 (k + 1 + 1) v2] w3 fun e w' => ∃ z, e = .returned z ∧ Rws w3.heap.size 23 3 w' z (onesT d (pks p [] c ++ [x])) ∧ Below w3.heap.size w3 w') :=
                withOnes_any M d _ _ w3 (R1.out.mat (Nat.le_refl _)) (by omega) (by omega) hQr (by omega)
              have hmx : Mx (k + 2) 60 (onesT d (pks p [] c ++ [x])) := by
                have := onesT_mx (d := d) hQb (by omega) (by omega)
                rw [hQl] at this
                exact this
              have HMX : Hid (Mx (k + 2) 60 (onesT d (pks p [] c ++ [x]))) := hmx
              have HNR : Hid (∀ W' z, Mat W'.heap.size 23 3 W' z (onesT d (pks p [] c ++ [x])) → Calls Try.prog 7 #[z] W' fun e w' => ∃ y, e = .returned (.tuple #[y, .bool (normB (k + 2) (onesT d (pks p [] c ++ [x])))]) ∧ Sl 0 3 w' y (ints (normL (k + 2) (onesT d (pks p [] c ++ [x])))) ∧ Below W'.heap.size W' w') := fun W' z hz =>
                normalR_own (k + 2) 60 W'.heap.size _ z W' hmx hz (by rw [onesT_len]; omega) (by rw [onesT_len]; omega)
              have HBB : Hid (betB d p x c = (normB (k + 2) (onesT d (pks p [] c ++ [x])) && docG (k + 1) (normL (k + 2) (onesT d (pks p [] c ++ [x]))))) := by
                show _ = _; unfold betB; rw [HCL.out]
              have HBT : Hid (betB d p x c = true → wayN (oneR x) (pks (p.map oneR) [] c) = (docM (k + 1) (normL (k + 2) (onesT d (pks p [] c ++ [x])))).take (k + 1) ++ [-(V (docM (k + 1) (normL (k + 2) (onesT d (pks p [] c ++ [x])))) (k + 1))]) := fun h => by
                have := bet_take HXD.out HOK.out.len HCM.out h
                rw [HCL.out] at this
                exact this
              have HNL : Hid (normB (k + 2) (onesT d (pks p [] c ++ [x])) = true → (normL (k + 2) (onesT d (pks p [] c ++ [x]))).length = k + 2) := norm_len
              have HNB : Hid (∀ z ∈ normL (k + 2) (onesT d (pks p [] c ++ [x])), z.natAbs ≤ 1000000000000) := norm_bd hmx
              clear hQr hQb hQl hmx R1
              go_wp2_with fail
              refine HWO.out.mono ?_
              rintro e w4 ⟨z, rfl, hrz, hb4⟩
              have HRZ : Hid (Mat w4.heap.size 23 3 w4 z (onesT d (pks p [] c ++ [x]))) := hrz.mat hb4.size
              have HB4 : Hid (Below w2.heap.size w2 w4) := HB3.out.trans (hb4.mono HB3.out.size)
              obtain ⟨zo, zc, hzv, _, _⟩ := mat_open HRZ.out
              clear hrz hb4
              have HNRz := HNR.out w4 z HRZ.out
              have HNZ : Hid (Calls Try.prog 7 #[z] w4 fun e w' => ∃ y, e = .returned (.tuple #[y, .bool (normB (k + 2) (onesT d (pks p [] c ++ [x])))]) ∧ Sl 0 3 w' y (ints (normL (k + 2) (onesT d (pks p [] c ++ [x])))) ∧ Below w4.heap.size w4 w') := HNRz
              clear HNRz HNR HRZ HWO
              subst hzv
              generalize normL (k + 2) (onesT d (pks p [] c ++ [x])) = M0 at *
              generalize normB (k + 2) (onesT d (pks p [] c ++ [x])) = nb at *
              go_wp2_with fail
              refine HNZ.out.mono ?_
              rintro e w5 ⟨y, rfl, hy, hb5⟩
              have HB5 : Hid (Below w2.heap.size w2 w5) := HB4.out.trans (hb5.mono HB4.out.size)
              have HY : Hid (Sl 0 3 w5 y (ints M0)) := hy
              obtain ⟨yo', yc', hyv, _, _⟩ := sl_open hy
              subst hyv
              clear hy hb5 HNZ
              cases nb
              · have HF : Hid (betB d p x c = false) := by show _ = _; rw [HBB.out]; rfl
                obtain ⟨ml, hml⟩ : ∃ ml, ml = M0.length := ⟨_, rfl⟩
                rw [← hml]
                clear hml
                go_wp2
                go_roundw
                case rel => exact ⟨t + 1, by omega, by go_num, HBN.out HF.out, HB5.out⟩
                case measure => simp [intOf]; omega
              · have hml : M0.length = k + 2 := HNL.out rfl
                have HML : Hid (M0.length = k + 2) := hml
                rw [hml] at HY ⊢
                clear hml
                obtain ⟨yb, yof, ycp, hys, hyl, hyc⟩ := sl_cell HY.out (k := k + 1) (by rw [HML.out]; omega)
                rw [HML.out] at hys hyl
                simp only [Value.slice.injEq] at hys
                obtain ⟨rfl, -, rfl⟩ := hys
                have hkI1 : (0 : Int) ≤ ((k + 1 : Nat) : Int) := by omega
                have hkI2 : ((k + 1 : Nat) : Int) < ((k + 2 : Nat) : Int) := by omega
                have HDL : Hid ((docM (k + 1) M0).length = k + 2) := by show _ = _; rw [docM_len, HML.out]
                have HTU : Hid (Calls Try.prog 22 #[.slice (some ⟨yb, yof, none⟩) (k + 2) yc'] w5 fun e w' => ∃ mb mof mc, e = .returned (.slice (some ⟨mb, mof, none⟩) (k + 2) mc) ∧ Sl 0 3 w' (.slice (some ⟨mb, mof, none⟩) (k + 2) mc) (ints (M0.map fun z => -z)) ∧ Below w5.heap.size w5 w') := by
                  refine (turned_any 0 M0 _ w5 HY.out (by rw [HML.out]; omega) (fun z hz => by have := HNB.out z hz; omega)).mono ?_
                  rintro e w' ⟨u, rfl, hou, hbu⟩
                  have hsu : Sl 0 3 w' u (ints (M0.map fun z => -z)) := Sl.own hou
                  obtain ⟨mb, mof, mc, rfl, _, _⟩ := sl_cell hsu (k := 0) (by rw [List.length_map, HML.out]; omega)
                  rw [List.length_map, HML.out] at hsu ⊢
                  exact ⟨mb, mof, mc, rfl, hsu, hbu⟩
                by_cases hpos : 0 < M0.getD (k + 1) 0
                case' pos =>
                  have HDM : Hid (M0.map (fun z => -z) = docM (k + 1) M0) := (if_pos hpos).symm
                  generalize M0.getD (k + 1) 0 = g1 at *
                  go_wp2_with fail
                  refine HTU.out.mono ?_
                  rintro e w6 ⟨mb, mof, mc, rfl, hsu, hb6⟩
                  rw [HDM.out] at hsu
                  have HMM : Hid (Sl 0 3 w6 (.slice (some ⟨mb, mof, none⟩) (k + 2) mc) (ints (docM (k + 1) M0))) := hsu
                  have HB6 : Hid (Below w2.heap.size w2 w6) := HB5.out.trans (hb6.mono HB5.out.size)
                  clear hsu hb6 hyc HTU HY hyl HDM
                case' neg =>
                  have HDM : Hid (M0 = docM (k + 1) M0) := (if_neg hpos).symm
                  have hge : M0.getD (k + 1) 0 = (docM (k + 1) M0).getD (k + 1) 0 := by rw [← HDM.out]
                  have hpb : decide ((0 : Int) < M0.getD (k + 1) 0) = false := decide_eq_false hpos
                  rw [hge] at hpb
                  have hyM := HY.out
                  rw [HDM.out] at hyM
                  obtain ⟨mb, mof, mc, w6, e1, e2, e3, e4⟩ : ∃ mb mof mc w6, mb = yb ∧ mof = yof ∧ mc = yc' ∧ w6 = w5 := ⟨_, _, _, _, rfl, rfl, rfl, rfl⟩
                  rw [← e1, ← e2, ← e3, ← e4] at hyM
                  rw [← e1, ← e2, ← e3, ← e4]
                  have HMM : Hid (Sl 0 3 w6 (.slice (some ⟨mb, mof, none⟩) (k + 2) mc) (ints (docM (k + 1) M0))) := hyM
                  have HB6 : Hid (Below w2.heap.size w2 w6) := by rw [e4]; exact HB5.out
                  clear hyM e1 e2 e3 e4 HTU HY hyl HDM hyc hpos hge
                all_goals
                  obtain ⟨b7, o7, c7, hs7, hl7, hmc⟩ := sl_cell HMM.out (k := k + 1) (by rw [HDL.out]; omega)
                  rw [HDL.out] at hs7 hl7
                  simp only [Value.slice.injEq, Option.some.injEq, Addr.mk.injEq, and_true] at hs7
                  obtain ⟨⟨rfl, rfl⟩, -, rfl⟩ := hs7
                  have HG0 : Hid (gdT (k + 1) M0 0 = decide ((docM (k + 1) M0).getD (k + 1) 0 < 0)) := gdT_zero _ _
                  have HGA : Hid (betB d p x c = gdT (k + 1) M0 (k + 1)) := by show _ = _; rw [HBB.out, gdT_all]; rfl
                  obtain ⟨gz, hgz⟩ : ∃ gz, gz = (docM (k + 1) M0).getD (k + 1) 0 := ⟨_, rfl⟩
                  rw [← hgz] at hmc HG0
                  try rw [← hgz] at hpb
                  have HGZ : Hid (gz = (docM (k + 1) M0).getD (k + 1) 0) := hgz
                  clear hgz
                  obtain ⟨g0, hg0⟩ : ∃ g0, g0 = decide (gz < 0) := ⟨_, rfl⟩
                  rw [← hg0] at HG0
                  have hg0' : decide (gz < 0) = g0 := hg0.symm
                  clear hg0
                  have hgb : -1000000000000 ≤ gz ∧ gz ≤ 1000000000000 := by
                    have hm : gz ∈ docM (k + 1) M0 := by rw [HGZ.out]; exact getD_mem (by rw [HDL.out]; omega)
                    unfold docM at hm
                    split at hm
                    · simp only [List.mem_map] at hm
                      obtain ⟨z, hz, rfl⟩ := hm
                      have := HNB.out z hz; omega
                    · have := HNB.out gz hm; omega
                  have HGB : Hid (-1000000000000 ≤ gz ∧ gz ≤ 1000000000000) := hgb
                  clear hgb
                  go_wp2
                  go_loop [13, 14] (fun g i => ∃ J : Nat, J ≤ k + 1 ∧ i = .int .i64 J ∧ g = .bool (gdT (k + 1) M0 J)) (fun _ i => k + 1 - (intOf i).toNat)
                  case atStart => exact ⟨0, by omega, rfl, by first | (rw [HG0.out]; done) | (rw [HG0.out, ← hg0'])⟩
                  case round =>
                    obtain ⟨J, hJ, rfl, rfl⟩ := hrel
                    by_cases hJl : J < k + 1
                    · obtain ⟨b8, o8, c8, hs8, hl8, hmJ⟩ := sl_cell HMM.out (k := J) (by rw [HDL.out]; omega)
                      rw [HDL.out] at hs8 hl8
                      simp only [Value.slice.injEq, Option.some.injEq, Addr.mk.injEq, and_true] at hs8
                      obtain ⟨⟨rfl, rfl⟩, -, rfl⟩ := hs8
                      have HSU : Hid (gdT (k + 1) M0 (J + 1) = (gdT (k + 1) M0 J && decide (0 < (docM (k + 1) M0).getD J 0))) := gdT_succ _ _ _
                      generalize (docM (k + 1) M0).getD J 0 = zJ at *
                      generalize gdT (k + 1) M0 J = gb at *
                      have hJI : (J : Int) < ((k + 1 : Nat) : Int) := by omega
                      have hJI2 : (J : Int) < ((k + 2 : Nat) : Int) := by omega
                      have hJI0 : (0 : Int) ≤ (J : Int) := by omega
                      cases gb
                      · have HS2 : Hid (gdT (k + 1) M0 (J + 1) = false) := HSU.out
                        go_wp2
                        go_round
                        case rel => exact ⟨J + 1, by omega, by go_num, by rw [HS2.out]⟩
                        case measure => simp [intOf]; omega
                      · have HS2 : Hid (gdT (k + 1) M0 (J + 1) = decide (0 < zJ)) := by show _ = _; rw [HSU.out, Bool.true_and]
                        go_wp2
                        go_round
                        case rel => exact ⟨J + 1, by omega, by go_num, by rw [HS2.out]⟩
                        case measure => simp [intOf]; omega
                    · obtain rfl : J = k + 1 := by omega
                      generalize hgd : gdT (k + 1) M0 (k + 1) = gb at *
                      have HGD : Hid (betB d p x c = gb) := HGA.out
                      clear hgd HGA
                      cases gb
                      · go_wp2
                        go_roundw
                        case rel => exact ⟨t + 1, by omega, by go_num, HBN.out HGD.out, HB6.out⟩
                        case measure => simp [intOf]; omega
                      · have hcc := HCC.out w6 HB6.out
                        have HBW6 : Hid (Below W.heap.size W w6) := HB2.out.trans (HB6.out.mono HB2.out.size)
                        have hbx := HBX.out w6 HBW6.out
                        have hbx0 : w6.cell? ⟨w.heap.size, 0, none⟩ = some (.slice none 0 0) := by simp [World.cell?, hbx]
                        have hbx1 : w6.cell? ⟨w.heap.size, 1, none⟩ = some (.slice none 0 0) := by simp [World.cell?, hbx]
                        have hbx2 : w6.cell? ⟨w.heap.size, 2, none⟩ = some (.int .i64 0) := by simp [World.cell?, hbx]
                        have hfx0 : w6.frozen? ⟨w.heap.size, 0, none⟩ = false := by simp [World.frozen?, hbx]
                        have hfx1 : w6.frozen? ⟨w.heap.size, 1, none⟩ = false := by simp [World.frozen?, hbx]
                        have hfx2 : w6.frozen? ⟨w.heap.size, 2, none⟩ = false := by simp [World.frozen?, hbx]
                        have hcut := fun w' => run_cutk (a := ⟨mb, mof, none⟩) (n := k + 2) (c := mc) (d := k + 1) (by omega) hl7 w'
                        have hneg : IntKind.i64.wrap (-gz) = -gz := by have := HGB.out; rw [IntKind.wrap_i64]; omega
                        have HBXW : Hid (w6.heap[w.heap.size]? = some (.cells #[.slice none 0 0, .slice none 0 0, .int .i64 0] 35 (0, 0))) := hbx
                        clear hbx
                        go_wp2
                        go_region
                        obtain ⟨q, hq⟩ := HBF.out HGD.out
                        have hwN := HBT.out HGD.out
                        have ew1 : (wayN (oneR x) (pks (p.map oneR) [] c)).take (k + 1) = (docM (k + 1) M0).take (k + 1) := by
                          rw [hwN, List.take_append_of_le_length (by rw [List.length_take, HDL.out]; omega), List.take_take]
                          simp
                        have ew2 : (wayN (oneR x) (pks (p.map oneR) [] c)).getD (k + 1) 0 = -gz := by
                          rw [hwN, List.getD_eq_getElem?_getD, List.getElem?_append_right (by rw [List.length_take, HDL.out]; omega), List.length_take, HDL.out, HGZ.out]
                          simp [show min (k + 1) (k + 2) = k + 1 by omega, V]
                        obtain ⟨Ws, hWs⟩ : ∃ Ws, Ws = (((w6.setCell ⟨w.heap.size, 0, none⟩ (.slice cco (k + 1) ccc)).setCell ⟨w.heap.size, 1, none⟩ (.slice (some ⟨mb, mof, none⟩) (k + 1) mc)).setCell ⟨w.heap.size, 2, none⟩ (.int .i64 (-gz))).drew := ⟨_, rfl⟩
                        rw [← hWs]
                        have q1 : Ws.heap[w.heap.size]? = some (.cells #[.slice cco (k + 1) ccc, .slice (some ⟨mb, mof, none⟩) (k + 1) mc, .int .i64 (-gz)] 35 (0, 0)) := by
                          rw [hWs]; simp [World.setCell, World.drew, Array.getElem?_modify, HBXW.out]
                        have q2 : ∀ b, b ≠ w.heap.size → Ws.heap[b]? = w6.heap[b]? := fun b hb => by
                          rw [hWs]
                          exact (Below.heap_setCell _ _ _ _ hb).trans ((Below.heap_setCell _ _ _ _ hb).trans (Below.heap_setCell _ _ _ _ hb))
                        have q3 : Ws.heap.size = w6.heap.size := by rw [hWs]; simp [World.setCell, World.drew]
                        have q4 : Ws.os = w6.os ∧ Ws.tape = w6.tape ∧ Ws.output = w6.output := by rw [hWs]; exact ⟨rfl, rfl, rfl⟩
                        clear hWs
                        have r0 : Ws.cell? ⟨w.heap.size, 0, none⟩ = some (.slice cco (k + 1) ccc) := by simp [World.cell?, q1]
                        have r1 : Ws.cell? ⟨w.heap.size, 1, none⟩ = some (.slice (some ⟨mb, mof, none⟩) (k + 1) mc) := by simp [World.cell?, q1]
                        have r2 : Ws.cell? ⟨w.heap.size, 2, none⟩ = some (.int .i64 (-gz)) := by simp [World.cell?, q1]
                        have ty : ∀ {v : Value} {xs : List Value}, Sl 0 3 w6 v xs → Sl 0 3 Ws v xs := fun h => h.move fun b hl ht => ⟨q2 b (fun e => by
                          subst e
                          rcases ht with ht | ⟨cur, ht⟩
                          · omega
                          · rw [HBXW.out] at ht; simp at ht), ht⟩
                        have HPOST : Hid (BtV (p.map oneR) (oneR x) Ws (.agg #[.slice cco (k + 1) ccc, .slice (some ⟨mb, mof, none⟩) (k + 1) mc, .int .i64 (-gz)]) true ∧ Below w.heap.size w Ws) := by
                          refine ⟨.inr ⟨c, q, cco, ccc, some ⟨mb, mof, none⟩, mc, by rw [HWB.out]; exact hq, rfl, ?_, ?_, ?_⟩, ?_⟩
                          · rw [HCL.out, ew2]
                          · rw [HCL.out]; exact ty (HRA.out w6 HB6.out)
                          · rw [HCL.out, ew1]
                            refine ty (sl_cutc ?_ (by rw [HDL.out]; omega))
                            rw [HDL.out]; exact HMM.out
                          · have hbw := HBW.out.trans (HBW6.out.mono (by have := HSW.out; omega))
                            exact ⟨q4.1.trans hbw.os, q4.2.1.trans hbw.tape, q4.2.2.trans hbw.output, by rw [q3]; exact hbw.size, fun b hb => (q2 b (by omega)).trans (hbw.block b hb)⟩
                        clear q1 q2 q3 q4 hwN ew1 ew2 hq ty hcut hneg hmc hcc hbx0 hbx1 hbx2 hfx0 hfx1 hfx2
                        go_wp2
                        exact bodyPost_ret (v := .tuple #[.agg #[.slice cco (k + 1) ccc, .slice (some ⟨mb, mof, none⟩) (k + 1) mc, .int .i64 (-gz)], .bool true]) (by simp [results, Try.results13, go_sem, r0, r1, r2]) rfl ⟨_, true, rfl, HPOST.out.1, HPOST.out.2⟩
        · obtain rfl : t = L := by omega
          have HNX : Hid (betTo d p x (k + 1) = []) := by
            show _ = _
            have h := HNT.out
            rw [List.take_of_length_le (by rw [← HL.out]; exact Nat.le_refl _)] at h
            rw [betTo_succ, HNO.out, h]; rfl
          have HBX2 : Hid (Below W.heap.size W wr) := HB2.out.trans (HBr.out.mono HB2.out.size)
          go_wp2
          go_roundw
          case rel => exact ⟨k + 1, by omega, by go_num, HNX.out, HBX2.out⟩
          case measure => simp [intOf]; omega
    · obtain rfl : k = d + 1 := by omega
      have hbx := HBX.out wr HB.out
      have hbx0 : wr.cell? ⟨w.heap.size, 0, none⟩ = some (.slice none 0 0) := by simp [World.cell?, hbx]
      have hbx1 : wr.cell? ⟨w.heap.size, 1, none⟩ = some (.slice none 0 0) := by simp [World.cell?, hbx]
      have hbx2 : wr.cell? ⟨w.heap.size, 2, none⟩ = some (.int .i64 0) := by simp [World.cell?, hbx]
      have hfx0 : wr.frozen? ⟨w.heap.size, 0, none⟩ = false := by simp [World.frozen?, hbx]
      have hfx1 : wr.frozen? ⟨w.heap.size, 1, none⟩ = false := by simp [World.frozen?, hbx]
      have hfx2 : wr.frozen? ⟨w.heap.size, 2, none⟩ = false := by simp [World.frozen?, hbx]
      have HBXW : Hid (wr.heap[w.heap.size]? = some (.cells #[.slice none 0 0, .slice none 0 0, .int .i64 0] 35 (0, 0))) := hbx
      clear hbx
      go_wp2
      obtain ⟨Ws, hWs⟩ : ∃ Ws, Ws = ((wr.setCell ⟨w.heap.size, 0, none⟩ (.slice none 0 0)).setCell ⟨w.heap.size, 1, none⟩ (.slice none 0 0)).setCell ⟨w.heap.size, 2, none⟩ (.int .i64 0) := ⟨_, rfl⟩
      rw [← hWs]
      have q1 : Ws.heap[w.heap.size]? = some (.cells #[.slice none 0 0, .slice none 0 0, .int .i64 0] 35 (0, 0)) := by
        rw [hWs]; simp [World.setCell, Array.getElem?_modify, HBXW.out]
      have q2 : ∀ b, b ≠ w.heap.size → Ws.heap[b]? = wr.heap[b]? := fun b hb => by
        rw [hWs]
        exact (Below.heap_setCell _ _ _ _ hb).trans ((Below.heap_setCell _ _ _ _ hb).trans (Below.heap_setCell _ _ _ _ hb))
      have q3 : Ws.heap.size = wr.heap.size := by rw [hWs]; simp [World.setCell]
      have q4 : Ws.os = wr.os ∧ Ws.tape = wr.tape ∧ Ws.output = wr.output := by rw [hWs]; exact ⟨rfl, rfl, rfl⟩
      clear hWs
      have r0 : Ws.cell? ⟨w.heap.size, 0, none⟩ = some (.slice none 0 0) := by simp [World.cell?, q1]
      have r1 : Ws.cell? ⟨w.heap.size, 1, none⟩ = some (.slice none 0 0) := by simp [World.cell?, q1]
      have r2 : Ws.cell? ⟨w.heap.size, 2, none⟩ = some (.int .i64 0) := by simp [World.cell?, q1]
      have hbw := HBW.out.trans (HB.out.mono (by have := HSW.out; omega))
      exact bodyPost_ret (v := .tuple #[nilT, .bool false]) (by simp [results, Try.results13, go_sem, r0, r1, r2, nilT]) rfl ⟨nilT, false, rfl, .inl ⟨by rw [HWB.out]; exact HNO.out, rfl, rfl⟩, q4.1.trans hbw.os, q4.2.1.trans hbw.tape, q4.2.2.trans hbw.output, by rw [q3]; exact hbw.size, fun b hb => (q2 b (by omega)).trans (hbw.block b hb)⟩

end Go.Proofs.Ytmpbkdfknpokeaa
