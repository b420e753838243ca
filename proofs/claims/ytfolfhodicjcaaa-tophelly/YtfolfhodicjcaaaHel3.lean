/- TopHelly, walked: the cuts are made. -/
import Derived.Test.YtfolfhodicjcaaaHel2
namespace Go.Proofs.Ytfolfhodicjcaaa
open Go.RowKit
attribute [local go_sem ↓] Go.wp_at_zero Go.wp_at_succ

theorem two_new (w : World) (x y : Value) (t : TypeId) : ∀ j u, [x, y][j]? = some u → (w.alloc (.cells #[x, y] t)).cell? ((⟨w.heap.size, 0, none⟩ : Addr).add j) = some u := by
  intro j u hj
  obtain ⟨W, hW⟩ : ∃ W, W = w.alloc (.cells #[x, y] t) := ⟨_, rfl⟩
  have h : W.heap[w.heap.size]? = some (.cells #[x, y] t (0, 0)) := by rw [hW]; exact alloc_new _ _
  rw [← hW]
  have : j = 0 ∨ j = 1 := by
    have := (List.getElem?_eq_some_iff.1 hj).1
    simp at this; omega
  rcases this with rfl | rfl <;> simp [Addr.add, World.cell?, h] at hj ⊢ <;> exact hj

theorem two_one (z : Int) (a : Option Addr) (n c : Nat) : ∀ u ∈ [Value.int .i64 z, Value.slice a n c], u.oneCell' = true := by
  intro u hu; simp at hu; rcases hu with rfl | rfl <;> rfl

theorem own_form2 {B z : Nat} {e : TypeId} {w : World} {v : Value} {n : Nat} {xs : List Value} (h : w.ownsRow B e z v n xs) : ∃ vo vc, v = .slice vo n vc := by
  rcases h.2 with ⟨h1, h0⟩ | ⟨g, cap, cur, hv, _⟩
  · exact ⟨_, _, by rw [h1, h0]⟩
  · exact ⟨_, _, hv⟩

/-- A cut is empty just if few of its rows say so by themselves. -/
theorem emp_sub {rows : List (List Int)} (h : empB 2 rows = true) : ∃ t, t.Sublist rows ∧ t.length ≤ 3 ∧ wayB (refG 2) t = true := by
  unfold empB at h
  cases hw : waysL rows (refG 2) with
  | nil => rw [hw] at h; cases h
  | cons c l =>
    have hm : c ∈ waysL rows (refG 2) := by rw [hw]; simp
    simp only [waysL, waysTo, List.mem_flatMap, List.mem_range, List.mem_filter] at hm
    obtain ⟨m, hm1, hm2, hm3⟩ := hm
    rw [refG_len] at hm1
    have hx := chz_ext rows [] m 0
    rw [List.drop_zero] at hx
    have : pks rows [] c ∈ chz m rows := by rw [← hx]; exact List.mem_map.2 ⟨c, hm2, rfl⟩
    obtain ⟨h1, h2⟩ := chz_mem.1 this
    exact ⟨_, h1, by omega, hm3⟩

theorem sub_emp {t rows : List (List Int)} (hs : t.Sublist rows) (hl : t.length ≤ 3) (hw : wayB (refG 2) t = true) : empB 2 rows = true := by
  have hx := chz_ext rows [] t.length 0
  rw [List.drop_zero] at hx
  have hm : t ∈ chz t.length rows := chz_mem.2 ⟨hs, rfl⟩
  rw [← hx] at hm
  obtain ⟨c, hc, he⟩ := List.mem_map.1 hm
  have : c ∈ waysL rows (refG 2) := by
    simp only [waysL, waysTo, List.mem_flatMap, List.mem_range, List.mem_filter]
    refine ⟨t.length, ?_, hc, by rw [he]; exact hw⟩
    have := hs.length_le
    rw [refG_len]
    omega
  unfold empB
  cases h : waysL rows (refG 2) with
  | nil => rw [h] at this; cases this
  | cons a l => rfl

/-- Of the chosen cuts all rows. -/
def rowsQ (L : List (List (List Int))) (q : List Int) : List (List Int) := (pks L [] q).flatten

/-- What is left to be shown once the cuts are there: of the rest of the function. -/
def allQ (L : List (List (List Int))) (k : Nat) : Bool := ((chosenL 3 L.length).take k).all fun q => !empB 2 (rowsQ L q)

theorem allQ_succ {L : List (List (List Int))} {k : Nat} (h : k < (chosenL 3 L.length).length) : allQ L (k + 1) = (allQ L k && !empB 2 (rowsQ L ((chosenL 3 L.length).getD k []))) := by
  unfold allQ
  rw [List.take_succ_eq_append_getElem h, List.all_append]
  simp [h]

theorem rowsQ_succ {L : List (List (List Int))} {q : List Int} {t : Nat} (h : t < q.length) : rowsQ L (q.take (t + 1)) = rowsQ L (q.take t) ++ L.getD (q.getD t 0).toNat [] := by
  unfold rowsQ pks
  rw [List.take_succ_eq_append_getElem h, List.map_append, List.flatten_append]
  simp only [List.map_cons, List.map_nil, List.flatten_cons, List.flatten_nil, List.append_nil]
  rw [show q.getD t 0 = q[t] by simp [h]]

theorem flat_succ {L : List (List (List Int))} {t : Nat} (h : t < L.length) : (L.take (t + 1)).flatten = (L.take t).flatten ++ L.getD t [] := by
  rw [List.take_succ_eq_append_getElem h, List.flatten_append]
  simp only [List.flatten_cons, List.flatten_nil, List.append_nil]
  rw [show L.getD t [] = L[t] by simp [h]]

theorem flat_len {L : List (List (List Int))} (h : ∀ m ∈ L, m.length = 2) : L.flatten.length = 2 * L.length := by
  induction L with
  | nil => rfl
  | cons a l ih =>
    rw [List.flatten_cons, List.length_append, h a (by simp), ih (fun m hm => h m (by simp [hm])), List.length_cons]
    omega

theorem flat_ok {L : List (List (List Int))} (h : ∀ m ∈ L, m.length = 2 ∧ Box 3 4 m) (h6 : L.length ≤ 6) : CutOk 2 L.flatten := by
  refine ⟨by omega, by omega, by rw [flat_len (fun m hm => (h m hm).1)]; omega, fun r hr => ?_, fun r hr z hz => ?_⟩
  · obtain ⟨m, hm, hr⟩ := List.mem_flatten.1 hr
    exact ((h m hm).2 r hr).1
  · obtain ⟨m, hm, hr⟩ := List.mem_flatten.1 hr
    have := ((h m hm).2 r hr).2 z hz
    omega

theorem Cts.all {w : World} {base : Nat} {v : Value} {vs : List Value} {L : List (List (List Int))} (h : Cts w base v vs L) : ∀ m ∈ L, m.length = 2 ∧ Box 3 4 m := by
  intro m hm
  obtain ⟨i, hi, rfl⟩ := List.getElem_of_mem hm
  have := h.box i (by rw [← h.len]; exact hi)
  rwa [List.getD_eq_getElem?_getD, List.getElem?_eq_getElem hi] at this

theorem pks_all {L : List (List (List Int))} {q : List Int} {p : List (List Int) → Prop} (h : ∀ m ∈ L, p m) (hq : ∀ i, i < q.length → 0 ≤ q.getD i 0 ∧ q.getD i 0 < L.length) : ∀ m ∈ pks L [] q, p m := by
  intro m hm
  simp only [pks, List.mem_map] at hm
  obtain ⟨z, hz, rfl⟩ := hm
  obtain ⟨i, hi, rfl⟩ := List.getElem_of_mem hz
  have h1 := hq i hi
  rw [List.getD_eq_getElem?_getD, List.getElem?_eq_getElem hi] at h1
  simp only [Option.getD_some] at h1
  exact h _ (by rw [List.getD_eq_getElem?_getD, List.getElem?_eq_getElem (by omega)]; exact List.getElem_mem _)

/-- If three of the cuts always have a place in common, all have. -/
theorem helly {L : List (List (List Int))} (h3 : 3 ≤ L.length) (h : allQ L (chosenL 3 L.length).length = true) : empB 2 L.flatten = false := by
  cases he : empB 2 L.flatten with
  | false => rfl
  | true =>
    exfalso
    obtain ⟨t, ht, hl, hw⟩ := emp_sub he
    obtain ⟨c, hc, hs⟩ := three L h3 t ht hl
    have hcm : c ∈ chosenL 3 L.length := by
      obtain ⟨r1, r2, r3⟩ := ext_rise hc
      have := chosen_all 3 L.length (fun i => (c.getD i 0).toNat) ⟨fun i j hij hj => by have h7 := r3 i j hij hj; have h8 := r2 i (by omega); show (c.getD i 0).toNat < (c.getD j 0).toNat; omega, fun i hi => by have h7 := r2 i hi; show (c.getD i 0).toNat < L.length; omega⟩
      have e : ((List.range 3).map fun i => (((c.getD i 0).toNat : Nat) : Int)) = c := by
        refine List.ext_getElem (by simp [r1]) fun i h1 h2 => ?_
        have hi : i < 3 := by simpa using h1
        have := (r2 i hi).1
        simp only [List.getElem_map, List.getElem_range]
        rw [Int.toNat_of_nonneg this]
        simp [h2]
      rwa [e] at this
    unfold allQ at h
    rw [List.take_length, List.all_eq_true] at h
    have h5 := h c hcm
    have h6 : empB 2 (rowsQ L c) = true := sub_emp hs hl hw
    rw [h6] at h5
    cases h5

set_option maxRecDepth 100000 in
set_option maxHeartbeats 8000000 in
theorem topHelly_any (B : Nat) (raw : List Int) (m0 : Int) (v : Value) (w : World) (hv : Sl B 3 w v (ints raw)) (hr : ∀ z ∈ raw, In64 z) (hm : In64 m0) :
    Calls Try.prog 3 #[v, .int .i64 m0] w fun e w' => e = .returned (.bool true) ∧ Below w.heap.size w w' := by
  obtain ⟨ao, cap, hvv, hlc, hcm⟩ := sl_open hv
  subst hvv
  obtain ⟨iC, hiC, hzC0, hzC1, hzC2⟩ := info_parts Try.info28
  obtain ⟨i0, hi0, hz0, hz1, hz2⟩ := info_parts Try.info22
  have HV : Hid (Sl B 3 w (.slice ao raw.length cap) (ints raw)) := hv
  have HR : Hid (∀ z ∈ raw, In64 z) := hr
  have HM : Hid (In64 m0) := hm
  clear hv hr hm
  by_cases hbig : 256 < raw.length
  · have hb : (256 : Int) < (raw.length : Int) := by omega
    go_enter Try.func3, Try.ntmps3
    go_wp2
    go_ret
    exact ⟨rfl, Below.refl _ _⟩
  have hb : ¬ (256 : Int) < (raw.length : Int) := by omega
  have hpb := pickF_bd (c := m0) (n := 2) (by omega)
  obtain ⟨pf, hpf⟩ : ∃ pf, pf = pickF m0 2 := ⟨_, rfl⟩
  have HPK : Hid (∀ w, Calls Try.prog 5 #[.int .i64 m0, .int .i64 2] w fun e w' => e = .returned (.int .i64 pf) ∧ w' = w) := fun w => by rw [hpf]; exact pick_val m0 2 w (by omega) (by omega) HM.out
  rw [← hpf] at hpb
  have hp0 := hpb.1
  have hp1 := hpb.2
  obtain ⟨n, hn⟩ : ∃ n : Nat, (n : Int) = 4 + pf := ⟨(4 + pf).toNat, by omega⟩
  have HN : Hid ((n : Int) = 4 + pf) := hn
  have hn4 : 4 ≤ n := by omega
  have hn5 : n ≤ 5 := by omega
  have hrl : raw.length ≤ 256 := by omega
  clear hpf hpb hn hbig
  go_enter Try.func3, Try.ntmps3
  go_wp2
  go_loopw [5, 6] (fun x i wr => ∃ (k : Nat) (vs : List Value) (L : List (List (List Int))), k ≤ n ∧ i = .int .i64 k ∧ vs.length = k ∧ Cts wr w.heap.size x vs L ∧ Below w.heap.size w wr) (fun _ i _ => n - (intOf i).toNat)
  case atStart => exact ⟨0, [], [], Nat.zero_le _, rfl, rfl, Cts.nil _ _, Below.refl _ _⟩
  case round =>
    obtain ⟨k, vs, L, hk, rfl, hvl, hct, hbw⟩ := hrel
    obtain ⟨wa, rfl⟩ : ∃ wa, wa = wr := ⟨wr, rfl⟩
    have HCT : Hid (Cts wa w.heap.size u5 vs L) := hct
    have HBW : Hid (Below w.heap.size w wa) := hbw
    have HVL : Hid (vs.length = k) := hvl
    obtain ⟨lo, lc, hlv⟩ := own_form2 hct.own
    rw [hvl] at hlv
    subst hlv
    have hsz := hbw.size
    clear hct hbw hvl
    by_cases hlt : k < n
    · have hkI : (k : Int) < 4 + pf := by have := HN.out; omega
      have HPT : Hid (Calls Try.prog 6 #[.slice ao raw.length cap, .int .i64 (6 * (k : Int)), .int .i64 3, .int .i64 2, .int .i64 4] wa fun e w' => ∃ x m, e = .returned x ∧ m.length = 2 ∧ Box 3 4 m ∧ Fr wa.heap.size 22 3 w' x m ∧ Below wa.heap.size wa w') := by
        have h := pointsOf_any B raw _ (6 * k) 3 2 4 wa (HV.out.below HBW.out (Nat.le_refl _)) HR.out (by omega) (by omega) (by omega) (by omega) (by omega)
        rw [show ((6 * k : Nat) : Int) = 6 * (k : Int) by omega] at h
        exact h
      go_wp2_with fail
      refine (HPK.out _).mono ?_
      rintro e w' ⟨rfl, rfl⟩
      go_wp2_with fail
      refine HPT.out.mono ?_
      rintro e w2 ⟨x, m, rfl, hm2, hbx, hfr, hb2⟩
      obtain ⟨xo, xc, hxv, _, _⟩ := mat_open (fr_mat hfr)
      rw [hm2] at hxv
      subst hxv
      have HC2 : Hid (Cts w2 w.heap.size (.slice lo k lc) vs L) := HCT.out.below hb2 (Nat.le_refl _)
      have HMX : Hid (Mat 0 22 3 w2 (.slice xo 2 xc) m) := fr_mat hfr
      have HM2 : Hid (m.length = 2 ∧ Box 3 4 m) := ⟨hm2, hbx⟩
      have HB2 : Hid (Below w.heap.size w w2) := HBW.out.trans (hb2.mono hsz)
      have hs2 : w.heap.size ≤ w2.heap.size := Nat.le_trans hsz hb2.size
      have HOW : Hid (w2.ownsRow w.heap.size 28 2 (.slice lo k lc) k (cutVs vs)) := by have := HC2.out.own; rw [HVL.out] at this; exact this
      clear hm2 hbx hfr hb2 HPT
      go_wp2_with (first | (at_builtin; refine wpList_append_own _ rfl _ _ 23 rfl w.heap.size 28 iC (.agg #[.int .i64 0, .slice none 0 0]) 2 32 Try.underlying23 hiC hzC0 hzC1 hzC2 rfl (by decide) _ _ _ rfl (HOW.out.alloc _) ⟨w2.heap.size, 0, none⟩ 1 1 [.int .i64 2, .slice xo 2 xc] rfl rfl (two_new _ _ _ _) (two_one _ _ _ _) ?c3 ?c4 ?c5 ?_))
      case c3 => unfold maxLen; omega
      case c4 => omega
      case c5 => simp; omega
      intro v' w3 ho hg3 _
      obtain ⟨vo', vc', hv'⟩ := own_form2 ho
      subst hv'
      have HN3 : Hid (Cts w3 w.heap.size (.slice vo' (k + 1) vc') (vs ++ [.slice xo 2 xc]) (L ++ [m])) := HC2.out.push HMX.out HM2.out.1 HM2.out.2 (by rw [HVL.out]; exact ho) hg3
      have HB3 : Hid (Below w.heap.size w w3) := (HB2.out.alloc (by omega) _).grown hg3 (by simp; omega) (fun x hx => (HOW.out.lt x hx).1)
      clear ho hg3
      go_wp2
      go_roundw
      case rel => exact ⟨k + 1, _, _, by omega, by go_num, by simp [HVL.out], HN3.out, HB3.out⟩
      case measure => simp [intOf]; omega
    · have hke : k = n := by omega
      subst hke
      have hkI : decide ((k : Int) < 4 + pf) = false := by have := HN.out; simp; omega
      go_wp2_with fail
      refine (HPK.out _).mono ?_
      rintro e w' ⟨rfl, rfl⟩
      have HCH : Hid (Calls Try.prog 7 #[.int .i64 k, .int .i64 3] w' fun e w'' => ∃ x, e = .returned x ∧ Fr w'.heap.size 22 3 w'' x (chosenL 3 k) ∧ Below w'.heap.size w' w'') := chosen_any 3 (by omega) k w' (by omega)
      go_wp2_with fail
      refine HCH.out.mono ?_
      rintro e w2 ⟨cv, rfl, hfr, hb2⟩
      obtain ⟨cl, hcl⟩ : ∃ cl, cl = chosenL 3 k := ⟨_, rfl⟩
      rw [← hcl] at hfr
      have HCL : Hid (cl = chosenL 3 k) := hcl
      have hcll : cl.length ≤ 262144 := by rw [hcl]; exact chosen_len 3 k (by omega)
      have HQ : Hid (∀ j, j < cl.length → (cl.getD j []).length = 3 ∧ ∀ i, i < 3 → 0 ≤ (cl.getD j []).getD i 0 ∧ (cl.getD j []).getD i 0 < (k : Int)) := fun j hj => by
        have hm : cl.getD j [] ∈ chosenL 3 k := by rw [← hcl]; simp [hj]
        exact ⟨chosen_row 3 k _ hm, (chosen_mem 3 k _ hm).1⟩
      have HCM : Hid (Mat 0 22 3 w2 cv cl) := fr_mat hfr
      obtain ⟨co, cc, hcv, hcc1, hcc2⟩ := mat_open (fr_mat hfr)
      subst hcv
      have HC2 : Hid (Cts w2 w.heap.size (.slice lo k lc) vs L) := HCT.out.below hb2 (Nat.le_refl _)
      have HB2 : Hid (Below w.heap.size w w2) := HBW.out.trans (hb2.mono hsz)
      have HLL : Hid (L.length = k) := HCT.out.len.trans HVL.out
      clear hfr hb2 hcl HCH HPK HCT HBW hkI hsz
      go_wp2
      go_loopw [8, 9] (fun al i wr => ∃ j : Nat, j ≤ cl.length ∧ i = .int .i64 j ∧ al = .bool (allQ L j) ∧ Below w2.heap.size w2 wr) (fun _ i _ => cl.length - (intOf i).toNat)
      case atStart => exact ⟨0, Nat.zero_le _, rfl, rfl, Below.refl _ _⟩
      case round =>
        obtain ⟨j, hj, rfl, rfl, hbr⟩ := hrel
        obtain ⟨wb, rfl⟩ : ∃ wb, wb = wr := ⟨wr, rfl⟩
        have HBR : Hid (Below w2.heap.size w2 wb) := hbr
        have HBX : Hid (Below w.heap.size w wb) := HB2.out.trans (hbr.mono HB2.out.size)
        clear hbr
        by_cases hjl : j < cl.length
        · obtain ⟨q, hq⟩ : ∃ q, q = cl.getD j [] := ⟨_, rfl⟩
          have hql := HQ.out j hjl
          rw [← hq] at hql
          have hq3 := hql.1
          have HQV : Hid (∀ i, i < 3 → 0 ≤ q.getD i 0 ∧ q.getD i 0 < (k : Int)) := hql.2
          have HQL : Hid (q.length = 3) := hq3
          have HAS : Hid (allQ L (j + 1) = (allQ L j && !empB 2 (rowsQ L q))) := by
            show _ = _
            rw [allQ_succ (by rw [HLL.out, ← HCL.out]; exact hjl), HLL.out, ← HCL.out, ← hq]
          obtain ⟨al, hal⟩ : ∃ al, al = allQ L j := ⟨_, rfl⟩
          have HAL : Hid (al = allQ L j) := hal
          rw [← hal]
          obtain ⟨qb, qoo, qcp, qv, hqs, _, hqcell, hqv⟩ := mat_cell (HCM.out.below HBR.out (Nat.le_refl _)) hjl
          simp only [Value.slice.injEq] at hqs
          obtain ⟨rfl, _, rfl⟩ := hqs
          rw [← hq] at hqv
          have HQS : Hid (Sl 0 3 wb qv (ints q)) := hqv
          have HXS : Hid (XS wb.heap.size wb.heap.size wb (wb.alloc (.cells #[.int .i64 2, .slice none 0 0] 28)) (.slice none 0 0) (rowsQ L (q.take 0))) := ⟨alloc_new _ _, Fr.nil _ _ _ _, alloc_keep _ _, Nat.le_refl _⟩
          have HQC : Hid (wb.cell? ⟨qb, qoo + j, none⟩ = some qv) := hqcell
          have hjI : (0 : Int) ≤ (j : Int) := by omega
          have hjJ : (j : Int) < (cl.length : Int) := by omega
          clear hql hq3 hq hal hqv hqcell
          go_wp2
          go_loopw [11] (fun t wq => ∃ (tt : Nat) (xv : Value), tt ≤ 3 ∧ t = .int .i64 tt ∧ XS wb.heap.size wb.heap.size wb wq xv (rowsQ L (q.take tt))) (fun t _ => 3 - (intOf t).toNat)
          case atStart => exact ⟨0, _, Nat.zero_le _, rfl, HXS.out⟩
          case round =>
            obtain ⟨tt, xv, htt, rfl, hxs⟩ := hrel
            obtain ⟨wc, rfl⟩ : ∃ wc, wc = wr := ⟨wr, rfl⟩
            have HXC : Hid (XS wb.heap.size wb.heap.size wb wc xv (rowsQ L (q.take tt))) := hxs
            have HBC : Hid (Below wb.heap.size wb wc) := hxs.bel
            have c50 : wc.cell? ⟨wb.heap.size, 0, none⟩ = some (.int .i64 2) := by simp [World.cell?, hxs.cut]
            have c51 : wc.cell? ⟨wb.heap.size, 1, none⟩ = some xv := by simp [World.cell?, hxs.cut]
            have f51 : wc.frozen? ⟨wb.heap.size, 1, none⟩ = false := by simp [World.frozen?, hxs.cut]
            have hsz := hxs.bel.size
            clear hxs
            by_cases htl : tt < 3
            · obtain ⟨ml, hml⟩ : ∃ ml, ml = (rowsQ L (q.take tt)).length := ⟨_, rfl⟩
              obtain ⟨vs', g1, g2, g3⟩ := HXC.out.rows
              have g2' := g2
              rw [← hml] at g2'
              obtain ⟨xo, xc, hxv⟩ := owns_form g2'
              subst hxv
              have hq3 := HQL.out
              obtain ⟨rN, hrN⟩ : ∃ rN : Nat, q.getD tt 0 = (rN : Int) := ⟨(q.getD tt 0).toNat, by have := (HQV.out tt htl).1; omega⟩
              have hrk : rN < k := by have := (HQV.out tt htl).2; omega
              obtain ⟨q2b, q2o, q2c, hq2, _, hq2cell⟩ := sl_cell (HQS.out.below HBC.out (Nat.le_refl _)) (k := tt) (by omega)
              subst hq2
              rw [hrN] at hq2cell
              have htQ : (tt : Int) < (q.length : Int) := by omega
              have hq1 := (HBC.out.cell (p := ⟨qb, qoo + j, none⟩) (lt_of_cell HQC.out)).trans HQC.out
              have hct := (HC2.out.below HBR.out (Nat.le_refl _)).below HBC.out (Nat.le_refl _)
              obtain ⟨lg, lcp, hlv, hlcap, hlcell⟩ := hct.cell (j := rN) (by rw [HVL.out]; exact hrk)
              simp only [Value.slice.injEq] at hlv
              obtain ⟨rfl, -, rfl⟩ := hlv
              obtain ⟨us, u1, u2, u3⟩ := hct.mat rN (by rw [HVL.out]; exact hrk)
              have hL2 := (hct.box rN (by rw [HVL.out]; exact hrk)).1
              obtain ⟨sb, so, sc, hsv, hsc1, _, hscell⟩ := u2.at (by omega)
              rw [u1, hL2] at hsv
              rw [hsv] at hlcell
              have HMS : Hid (rowsQ L (q.take (tt + 1)) = rowsQ L (q.take tt) ++ L.getD rN []) := by
                show _ = _
                rw [rowsQ_succ (by omega), hrN]; rfl
              have hmlb : ml ≤ 4 := by
                have h2 : ∀ m ∈ pks L [] (q.take tt), m.length = 2 := pks_all (fun m hm => (hct.all m hm).1) (fun i hi => by
                  simp only [List.length_take] at hi
                  have := HQV.out i (by omega)
                  rw [HLL.out]
                  simpa [show i < tt by omega] using this)
                rw [hml, rowsQ, flat_len h2]
                simp [pks]; omega
              have HPU : Hid (∀ v' w5, w5.ownsRow wb.heap.size 22 1 v' (ml + 2) (vs' ++ us) → wc.drew.grownBy w5 (Value.slice xo ml xc).ownBlock → w5.cell? ⟨wb.heap.size, 1, none⟩ = some (.slice xo ml xc) ∧ w5.frozen? ⟨wb.heap.size, 1, none⟩ = false ∧
                  XS wb.heap.size wb.heap.size wb (w5.setCell ⟨wb.heap.size, 1, none⟩ v') v' (rowsQ L (q.take (tt + 1)))) := fun v' w5 ho hg5 => by
                have h0 : XS wb.heap.size wb.heap.size wb wc.drew (.slice xo ml xc) (rowsQ L (q.take tt)) := ⟨HXC.out.cut, HXC.out.rows, HXC.out.bel.drew, HXC.out.nX⟩
                have hp := h0.push hsz g1 g2 g3 u1 u3 (by rw [← hml, hL2]; exact ho) hg5
                rw [HMS.out]
                exact ⟨by simp [World.cell?, hp.1], by simp [World.frozen?, hp.1], hp.2⟩
              have HO : Hid (wc.drew.ownsRow wb.heap.size 22 1 (.slice xo ml xc) ml vs') := g2'
              have HUL : Hid (us.length = 2 * 1) := by show _ = _; rw [u1, hL2]
              have HNEW : Hid (∀ j u, us[j]? = some u → wc.drew.cell? ((⟨sb, so, none⟩ : Addr).add j) = some u) := fun j u hju => by
                have hjl := (List.getElem?_eq_some_iff.1 hju).1
                have := hscell j hjl
                rw [hju] at this
                by_cases ej : j = 0
                · subst ej; simpa [Addr.add] using this
                · simpa [Addr.add, ej] using this
              have HONE : Hid (∀ u ∈ us, u.oneCell' = true) := cells_one (n := 2) (h := L.getD rN []) (by rw [u1, hL2]) (fun i hi => u3 i (by omega))
              have HNS : Hid (wb.heap.size ≤ wc.drew.heap.size) := hsz
              have htm : ml + 2 ≤ maxLen := by unfold maxLen; omega
              have htI0 : (0 : Int) ≤ (tt : Int) := by omega
              have htI : (tt : Int) < 3 := by omega
              have hrI0 : (0 : Int) ≤ (rN : Int) := by omega
              have hrI : (rN : Int) < (k : Int) := by omega
              clear g1 g2 g2' g3 hct u1 u2 u3 hscell hsv hrN hml hL2 hq3
              go_wp2
              go_region_law (refine step_append_own (o := { dst := some 63, op := _, type := _, pos := _, after := _, guard := _ }) (by rfl) _ _ 25 (by rfl) wb.heap.size 22 i0 (.slice none 0 0) 1 24 Try.underlying25 hi0 hz0 hz1 hz2 rfl (by decide) _ _ _ (by rfl) HO.out ⟨sb, so, none⟩ 2 sc us (by rfl) HUL.out HNEW.out HONE.out htm (by omega) HNS.out ?_; intro v' w5 ho hg5; obtain ⟨vo', vc', hv'⟩ := owns_form ho; subst hv'; have FF : Hid _ := HPU.out _ w5 ho hg5; have LS1 := FF.out.1; have LS2 := FF.out.2.1; clear ho hg5)
              all_goals
                have HNX : Hid (XS wb.heap.size wb.heap.size wb (w5.setCell ⟨wb.heap.size, 1, none⟩ (.slice vo' (ml + 2) vc')) (.slice vo' (ml + 2) vc') (rowsQ L (q.take (tt + 1)))) := FF.out.2.2
                clear FF LS1 LS2 c50 c51 f51
                go_wp2
                go_roundw
                case rel => exact ⟨tt + 1, _, by omega, by go_num, HNX.out⟩
                case measure => simp [intOf]; omega
            · have hte : tt = 3 := by omega
              subst hte
              clear htl htt
              have HTK : Hid (q.take 3 = q) := List.take_of_length_le (by rw [HQL.out]; exact Nat.le_refl _)
              have hct := (HC2.out.below HBR.out (Nat.le_refl _)).below HBC.out (Nat.le_refl _)
              obtain ⟨eb, heb⟩ : ∃ eb, eb = empB 2 (rowsQ L q) := ⟨_, rfl⟩
              have HEB : Hid (eb = empB 2 (rowsQ L q)) := heb
              obtain ⟨xo, xn, xc, hxv⟩ : ∃ xo xn xc, xv = .slice xo xn xc := by
                obtain ⟨a, b, h, _⟩ := mat_open (fr_mat HXC.out.rows)
                exact ⟨a, _, b, h⟩
              subst hxv
              have HEM : Hid (Calls Try.prog 8 #[.agg #[.int .i64 2, .slice xo xn xc]] wc fun e w' => e = .returned (.tuple #[.bool eb, .int .i64 0]) ∧ Below wc.heap.size wc w') := by
                have hr := HXC.out.rows
                rw [HTK.out] at hr
                rw [heb]
                refine empty_ok 2 (rowsQ L q) _ wc ((fr_mat hr).more (Nat.zero_le _)) (flat_ok (pks_all hct.all (fun i hi => ?_)) (by simp [pks, HQL.out]))
                rw [HLL.out]
                exact HQV.out i (by rw [HQL.out] at hi; exact hi)
              have HAS2 : Hid (allQ L (j + 1) = (al && !eb)) := by show _ = _; rw [HAS.out, HAL.out, HEB.out]
              clear hct heb
              go_wp2_with fail
              refine HEM.out.mono ?_
              rintro e w5 ⟨rfl, hb5⟩
              have HB5 : Hid (Below w2.heap.size w2 w5) := HBR.out.trans ((HBC.out.trans (hb5.mono hsz)).mono HBR.out.size)
              clear hb5 c50 c51 f51 HEM HXC HAL HAS
              cases al with
              | true =>
                go_wp2
                go_roundw
                case rel => exact ⟨j + 1, by omega, by go_num, by rw [HAS2.out]; rfl, HB5.out⟩
                case measure => simp [intOf]; omega
              | false =>
                go_wp2
                go_roundw
                case rel => exact ⟨j + 1, by omega, by go_num, by rw [HAS2.out]; rfl, HB5.out⟩
                case measure => simp [intOf]; omega
        · have hje : j = cl.length := by omega
          subst hje
          clear hjl hj
          obtain ⟨al, hal⟩ : ∃ al, al = allQ L cl.length := ⟨_, rfl⟩
          have HHE : Hid (al = true → empB 2 L.flatten = false) := fun h => by
            refine helly (by rw [HLL.out]; omega) ?_
            rw [HLL.out, ← HCL.out, ← hal]; exact h
          rw [← hal]
          have HXS : Hid (XS wb.heap.size wb.heap.size wb (wb.alloc (.cells #[.int .i64 2, .slice none 0 0] 28)) (.slice none 0 0) ((L.take 0).flatten)) := ⟨alloc_new _ _, Fr.nil _ _ _ _, alloc_keep _ _, Nat.le_refl _⟩
          clear hal HQ HCM
          go_wp2
          go_loopw [15] (fun t wq => ∃ (tt : Nat) (xv : Value), tt ≤ k ∧ t = .int .i64 tt ∧ XS wb.heap.size wb.heap.size wb wq xv ((L.take tt).flatten)) (fun t _ => k - (intOf t).toNat)
          case atStart => exact ⟨0, _, Nat.zero_le _, rfl, HXS.out⟩
          case round =>
            obtain ⟨tt, xv, htt, rfl, hxs⟩ := hrel
            obtain ⟨wc, rfl⟩ : ∃ wc, wc = wr := ⟨wr, rfl⟩
            have HXC : Hid (XS wb.heap.size wb.heap.size wb wc xv ((L.take tt).flatten)) := hxs
            have HBC : Hid (Below wb.heap.size wb wc) := hxs.bel
            have c50 : wc.cell? ⟨wb.heap.size, 0, none⟩ = some (.int .i64 2) := by simp [World.cell?, hxs.cut]
            have c51 : wc.cell? ⟨wb.heap.size, 1, none⟩ = some xv := by simp [World.cell?, hxs.cut]
            have f51 : wc.frozen? ⟨wb.heap.size, 1, none⟩ = false := by simp [World.frozen?, hxs.cut]
            have hsz := hxs.bel.size
            clear hxs
            by_cases htl : tt < k
            · obtain ⟨ml, hml⟩ : ∃ ml, ml = ((L.take tt).flatten).length := ⟨_, rfl⟩
              obtain ⟨vs', g1, g2, g3⟩ := HXC.out.rows
              have g2' := g2
              rw [← hml] at g2'
              obtain ⟨xo, xc, hxv⟩ := owns_form g2'
              subst hxv
              have hct := (HC2.out.below HBR.out (Nat.le_refl _)).below HBC.out (Nat.le_refl _)
              obtain ⟨lg, lcp, hlv, hlcap, hlcell⟩ := hct.cell (j := tt) (by rw [HVL.out]; exact htl)
              simp only [Value.slice.injEq] at hlv
              obtain ⟨rfl, -, rfl⟩ := hlv
              obtain ⟨us, u1, u2, u3⟩ := hct.mat tt (by rw [HVL.out]; exact htl)
              have hL2 := (hct.box tt (by rw [HVL.out]; exact htl)).1
              obtain ⟨sb, so, sc, hsv, hsc1, _, hscell⟩ := u2.at (by omega)
              rw [u1, hL2] at hsv
              rw [hsv] at hlcell
              have HMS : Hid ((L.take (tt + 1)).flatten = (L.take tt).flatten ++ L.getD tt []) := flat_succ (by rw [HLL.out]; exact htl)
              have hmlb : ml ≤ 10 := by
                have h2 : ∀ m ∈ L.take tt, m.length = 2 := fun m hm => (hct.all m (List.mem_of_mem_take hm)).1
                rw [hml, flat_len h2]
                simp only [List.length_take]; omega
              have HPU : Hid (∀ v' w5, w5.ownsRow wb.heap.size 22 1 v' (ml + 2) (vs' ++ us) → wc.drew.grownBy w5 (Value.slice xo ml xc).ownBlock → w5.cell? ⟨wb.heap.size, 1, none⟩ = some (.slice xo ml xc) ∧ w5.frozen? ⟨wb.heap.size, 1, none⟩ = false ∧
                  XS wb.heap.size wb.heap.size wb (w5.setCell ⟨wb.heap.size, 1, none⟩ v') v' ((L.take (tt + 1)).flatten)) := fun v' w5 ho hg5 => by
                have h0 : XS wb.heap.size wb.heap.size wb wc.drew (.slice xo ml xc) ((L.take tt).flatten) := ⟨HXC.out.cut, HXC.out.rows, HXC.out.bel.drew, HXC.out.nX⟩
                have hp := h0.push hsz g1 g2 g3 u1 u3 (by rw [← hml, hL2]; exact ho) hg5
                rw [HMS.out]
                exact ⟨by simp [World.cell?, hp.1], by simp [World.frozen?, hp.1], hp.2⟩
              have HO : Hid (wc.drew.ownsRow wb.heap.size 22 1 (.slice xo ml xc) ml vs') := g2'
              have HUL : Hid (us.length = 2 * 1) := by show _ = _; rw [u1, hL2]
              have HNEW : Hid (∀ j u, us[j]? = some u → wc.drew.cell? ((⟨sb, so, none⟩ : Addr).add j) = some u) := fun j u hju => by
                have hjl := (List.getElem?_eq_some_iff.1 hju).1
                have := hscell j hjl
                rw [hju] at this
                by_cases ej : j = 0
                · subst ej; simpa [Addr.add] using this
                · simpa [Addr.add, ej] using this
              have HONE : Hid (∀ u ∈ us, u.oneCell' = true) := cells_one (n := 2) (h := L.getD tt []) (by rw [u1, hL2]) (fun i hi => u3 i (by omega))
              have HNS : Hid (wb.heap.size ≤ wc.drew.heap.size) := hsz
              have htm : ml + 2 ≤ maxLen := by unfold maxLen; omega
              have htI0 : (0 : Int) ≤ (tt : Int) := by omega
              have htI : (tt : Int) < (k : Int) := by omega
              clear g1 g2 g2' g3 hct u1 u2 u3 hscell hsv hml hL2
              go_wp2
              go_region_law (refine step_append_own (o := { dst := some 91, op := _, type := _, pos := _, after := _, guard := _ }) (by rfl) _ _ 25 (by rfl) wb.heap.size 22 i0 (.slice none 0 0) 1 24 Try.underlying25 hi0 hz0 hz1 hz2 rfl (by decide) _ _ _ (by rfl) HO.out ⟨sb, so, none⟩ 2 sc us (by rfl) HUL.out HNEW.out HONE.out htm (by omega) HNS.out ?_; intro v' w5 ho hg5; obtain ⟨vo', vc', hv'⟩ := owns_form ho; subst hv'; have FF : Hid _ := HPU.out _ w5 ho hg5; have LS1 := FF.out.1; have LS2 := FF.out.2.1; clear ho hg5)
              all_goals
                have HNX : Hid (XS wb.heap.size wb.heap.size wb (w5.setCell ⟨wb.heap.size, 1, none⟩ (.slice vo' (ml + 2) vc')) (.slice vo' (ml + 2) vc') ((L.take (tt + 1)).flatten)) := FF.out.2.2
                clear FF LS1 LS2 c50 c51 f51
                go_wp2
                go_roundw
                case rel => exact ⟨tt + 1, _, by omega, by go_num, HNX.out⟩
                case measure => simp [intOf]; omega
            · have hte : tt = k := by omega
              subst hte
              clear htl htt
              have HTK : Hid (L.take tt = L) := List.take_of_length_le (by rw [HLL.out]; exact Nat.le_refl _)
              have hct := (HC2.out.below HBR.out (Nat.le_refl _)).below HBC.out (Nat.le_refl _)
              obtain ⟨eb, heb⟩ : ∃ eb, eb = empB 2 L.flatten := ⟨_, rfl⟩
              have HEB : Hid (al = true → eb = false) := fun h => by rw [heb]; exact HHE.out h
              obtain ⟨xo, xn, xc, hxv⟩ : ∃ xo xn xc, xv = .slice xo xn xc := by
                obtain ⟨a, b, h, _⟩ := mat_open (fr_mat HXC.out.rows)
                exact ⟨a, _, b, h⟩
              subst hxv
              have HEM : Hid (Calls Try.prog 8 #[.agg #[.int .i64 2, .slice xo xn xc]] wc fun e w' => e = .returned (.tuple #[.bool eb, .int .i64 0]) ∧ Below wc.heap.size wc w') := by
                have hr := HXC.out.rows
                rw [HTK.out] at hr
                rw [heb]
                exact empty_ok 2 L.flatten _ wc ((fr_mat hr).more (Nat.zero_le _)) (flat_ok hct.all (by rw [HLL.out]; omega))
              have HBO : Hid (Below w.heap.size w wc) := HBX.out.trans (HBC.out.mono HBX.out.size)
              clear hct heb
              go_wp2_with fail
              refine HEM.out.mono ?_
              rintro e w5 ⟨rfl, hb5⟩
              have HB5 : Hid (Below w.heap.size w w5) := HBO.out.trans (hb5.mono HBO.out.size)
              clear hb5 c50 c51 f51 HEM HXC
              cases al with
              | true =>
                have he := HEB.out rfl
                subst he
                go_wp2_with (go_at_call 9; refine (empties_any _).mono ?_; rintro e w6 ⟨rfl, hb6⟩)
                have HB6 : Hid (Below w.heap.size w w6) := HB5.out.trans (hb6.mono HB5.out.size)
                go_ret
                exact ⟨rfl, HB6.out⟩
              | false =>
                go_wp2_with (go_at_call 9; refine (empties_any _).mono ?_; rintro e w6 ⟨rfl, hb6⟩)
                have HB6 : Hid (Below w.heap.size w w6) := HB5.out.trans (hb6.mono HB5.out.size)
                go_ret
                exact ⟨rfl, HB6.out⟩

end Go.Proofs.Ytfolfhodicjcaaa
