/- The document: PartsOfSquare. -/
import Derived.Test.YtmgjnhdicnpdlaaNp5
namespace Go.Proofs.Ytmgjnhdicnpdlaa
open Go.RowKit
attribute [local go_sem ↓] Go.wp_at_zero Go.wp_at_succ

set_option maxRecDepth 100000 in
set_option maxHeartbeats 3200000 in
theorem partsOfSquare_any (m : List (List Int)) (v : Value) (w : World) (hm : Sq0 m) (hv : Mat w.heap.size 26 3 w v m) :
    Calls Try.prog 7 #[v] w fun e w' => ∃ x y, e = .returned (.tuple #[x, y]) ∧ Fr w.heap.size 26 3 w' x (pFold m.length m (ords m.length m.length [])).ords ∧ w'.ownsRow w.heap.size 3 1 y (pFold m.length m (ords m.length m.length [])).many.length (ints (pFold m.length m (ords m.length m.length [])).many) ∧ Below w.heap.size w w' := by
  obtain ⟨i0, hi0, hz0, hz1, hz2⟩ := info_parts Try.info26
  obtain ⟨i3, hi3, hz30, hz31, hz32⟩ := info_parts Try.info3
  obtain ⟨po, pc, hvv, hlc, hcm⟩ := mat_open hv
  subst hvv
  have HV : Hid (Mat w.heap.size 26 3 w (.slice po m.length pc) m) := hv
  have HM : Hid (Sq0 m) := hm
  have h6 := hm.n6
  have h1 := hm.n1
  have HSN : Hid (SqN m.length m) := ⟨rfl, hm.len, hm.bd⟩
  clear hv hm
  go_enter Try.func7, Try.ntmps7
  go_wp2
  go_loopw [4, 5] (fun x i wr => ∃ (k : Nat) (g c : Nat → Nat), k ≤ m.length ∧ i = .int .i64 k ∧ OM w.heap.size g c k m.length wr x (m.take k) ∧ Below w.heap.size w wr) (fun _ i _ => m.length - (intOf i).toNat)
  case atStart => exact ⟨0, fun _ => 0, fun _ => 0, Nat.zero_le _, rfl, ⟨rfl, fun i hi => by omega, World.ownsRow_nil _ _ _ _, fun i hi => by omega, fun i j hi => by omega⟩, Below.refl _ _⟩
  case round =>
    obtain ⟨k, g, c, hk, rfl, hom, hb⟩ := hrel
    obtain ⟨wa, rfl⟩ : ∃ wa, wa = wr := ⟨wr, rfl⟩
    have HOM : Hid (OM w.heap.size g c k m.length wa u4 (m.take k)) := hom
    have HB : Hid (Below w.heap.size w wa) := hb
    clear hom hb
    by_cases hlt : k < m.length
    · obtain ⟨vb, voo, vcp, rv, hvs, _, hvcell, hrv⟩ := mat_cell (HV.out.below HB.out (Nat.le_refl _)) hlt
      simp only [Value.slice.injEq] at hvs
      obtain ⟨rfl, -, rfl⟩ := hvs
      have hrl := HM.out.len k hlt
      have HCP : Hid (Calls Try.prog 15 #[rv] wa fun e w' => ∃ gk ck, e = .returned (.slice (some ⟨gk, 0, none⟩) m.length ck) ∧ w'.ownsRow wa.heap.size 3 1 (.slice (some ⟨gk, 0, none⟩) m.length ck) m.length (ints (m.getD k [])) ∧ Below wa.heap.size wa w') :=
        (copy_any _ (m.getD k []) _ wa hrv (by omega)).mono (by
          rintro e w' ⟨u, rfl, h2, h3⟩
          rw [hrl] at h2
          rcases h2.2 with ⟨_, h0⟩ | ⟨gk, ck, cur, rfl, _⟩
          · omega
          · exact ⟨gk, ck, rfl, h2, h3⟩)
      obtain ⟨uo, uc, hue, _, _⟩ := sl_open hrv
      subst hue
      have HRL : Hid ((m.getD k []).length = m.length) := hrl
      have HTK : Hid (m.take (k + 1) = m.take k ++ [m.getD k []]) := by
        show _ = _
        rw [List.take_succ_eq_append_getElem hlt]
        simp [hlt]
      obtain ⟨xo, xc, hx⟩ : ∃ xo xc, u4 = .slice xo k xc := owns_form HOM.out.out
      subst hx
      clear hrv hrl
      generalize m.getD k [] = r at *
      go_wp2_with fail
      refine HCP.out.mono ?_
      rintro e w1 ⟨gk, ck, rfl, hu, hb1⟩
      have HU : Hid (w1.ownsRow wa.heap.size 3 1 (.slice (some ⟨gk, 0, none⟩) m.length ck) m.length (ints r)) := hu
      have HB1 : Hid (Below wa.heap.size wa w1) := hb1
      have HO1 : Hid (w1.ownsRow w.heap.size 26 1 (.slice xo k xc) k (rowsV g c m.length k)) := owns_below HOM.out.out hb1 (Nat.le_refl _)
      have HSS : Hid (w.heap.size ≤ w1.heap.size) := Nat.le_trans HB.out.size hb1.size
      clear hu hb1 HCP
      go_wp2_with (first | (at_builtin; refine wpList_append_own _ rfl _ _ 22 rfl w.heap.size 26 i0 (.slice none 0 0) 1 24 Try.underlying22 hi0 hz0 hz1 hz2 rfl (by decide) _ _ _ rfl (HO1.out.alloc _) ⟨w1.heap.size, 0, none⟩ 1 1 [.slice (some ⟨gk, 0, none⟩) m.length ck] rfl rfl (one_new _ _ _) (one_slice _ _ _) ?c3 ?c4 ?c5 ?_))
      case c3 => unfold maxLen; omega
      case c4 => omega
      case c5 => have := HSS.out; simp; omega
      intro v2 w3 ho3 hg3 _
      have HNX : Hid (OM w.heap.size (updN g k gk) (updN c k ck) (k + 1) m.length w3 v2 (m.take (k + 1))) := by
        show OM _ _ _ _ _ _ _ _
        rw [HTK.out]
        exact HOM.out.push HB.out.size HRL.out HU.out HB1.out ho3 hg3
      have HB3 : Hid (Below w.heap.size w w3) := ((HB.out.trans (HB1.out.mono HB.out.size)).alloc HSS.out _).grown hg3 (by have := HSS.out; simp; omega) (fun b hx => (HO1.out.lt b hx).1)
      clear ho3 hg3
      go_wp2
      go_roundw
      case rel => exact ⟨k + 1, _, _, by omega, by go_num, HNX.out, HB3.out⟩
      case measure => simp [intOf]; omega
    · have hke : k = m.length := by omega
      subst hke
      have htk : m.take m.length = m := List.take_length
      rw [htk] at HOM
      obtain ⟨G, cap, hG, hG1, hG2, hG3, hG4⟩ := HOM.out.form h1
      subst hG
      have HCO : Hid (Calls Try.prog 16 #[.int .i64 m.length, .slice none 0 0] wa fun e w' => ∃ x, e = .returned x ∧ FrN wa.heap.size w' x (ords m.length m.length []) ∧ Below wa.heap.size wa w') :=
        ordN_any m.length h6 m.length h6 [] _ wa ⟨by simp, by simp⟩ (by simp) (Sl.nil _ _ _)
      have HOI : Hid (∀ o ∈ ords m.length m.length [], Od m.length o) := fun o ho => by
        have := ords_is m.length [] o ⟨by simp, by simp⟩ ho
        exact ord_od this.1 (by simpa using this.2)
      have HLN : Hid ((ords m.length m.length []).length ≤ 46656) := Nat.le_trans (ords_len h6 _ _) (Nat.le_trans (Nat.pow_le_pow_right (by decide) h6) (by decide))
      have HNE := ords_ne m.length [] ⟨by simp, by simp⟩ (by simp : [].length + m.length = m.length)
      obtain ⟨n, hn⟩ : ∃ n, n = m.length := ⟨_, rfl⟩
      have HNN : Hid (n = m.length) := hn
      rw [← hn] at HOM HCO HOI HLN HSN HNE h6 h1 ⊢
      clear hn htk hlt hk hlc hG3
      generalize hgo : ords n n [] = os at *
      have HOS : Hid (ords n n [] = os) := hgo
      clear hgo
      have hos := HLN.out
      go_wp2_with fail
      refine HCO.out.mono ?_
      rintro e w2 ⟨x, rfl, ⟨ws, f1, f2, f3⟩, hb2⟩
      obtain ⟨xb, xc, hx⟩ : ∃ xb xc, x = .slice (some ⟨xb, 0, none⟩) os.length xc := by
        rcases f2.2 with ⟨_, h0⟩ | ⟨g', xc, cur, rfl, _⟩
        · exact absurd (List.eq_nil_of_length_eq_zero h0) HNE
        · exact ⟨_, _, rfl⟩
      subst hx
      have HXB : Hid (wa.heap.size ≤ xb ∧ xb < w2.heap.size) := f2.lt xb rfl
      have HROW : Hid (∀ k, k < os.length → ∃ ob oq oc, (∀ wq : World, (∀ b, wa.heap.size ≤ b → b < w2.heap.size → wq.heap[b]? = w2.heap[b]?) → wq.cell? ⟨xb, k, none⟩ = some (.slice (some ⟨ob, oq, none⟩) n oc) ∧ ∀ j, j < n → wq.cell? ⟨ob, oq + j, none⟩ = some (.int .i64 ((os.getD k []).getD j 0))) ∧ SlN wa.heap.size w2 (.slice (some ⟨ob, oq, none⟩) n oc) (ints (os.getD k []))) := fun k hk => by
        have hmem : os.getD k [] ∈ os := by simp [hk]
        have hod := HOI.out _ hmem
        have hs := f3 k hk
        obtain ⟨ob, oq, oc, hv, _, hc0⟩ := sl_cell hs.1 (k := 0) (by rw [hod.len]; omega)
        rw [hod.len] at hv
        refine ⟨ob, oq, oc, fun wq hq => ⟨?_, fun j hj => ?_⟩, by rw [← hv]; exact hs⟩
        · have e : wq.cell? ⟨xb, k, none⟩ = w2.cell? ⟨xb, k, none⟩ := World.cell?_of_block (w := w2) (hq xb HXB.out.1 HXB.out.2)
          rw [e, f2.cellAt k (by omega), ← hv, List.getD_eq_getElem?_getD]
          have : k < ws.length := by omega
          simp [this]
        · have h2 := hs.mid hq
          obtain ⟨ob', oq', oc', hv', _, hcj⟩ := sl_cell h2 (k := j) (by rw [hod.len]; exact hj)
          rw [hv] at hv'
          simp only [Value.slice.injEq, Option.some.injEq, Addr.mk.injEq] at hv'
          obtain ⟨⟨rfl, rfl, -⟩, -⟩ := hv'
          exact hcj
      have HPQ : Hid (PQ w w2 wa.heap.size n g c (.slice (some ⟨G, 0, none⟩) n cap) (pFold n m (os.take 0)) (.slice none 0 0) (.slice none 0 0) w2) :=
        ⟨HB.out.trans (hb2.mono HB.out.size), fun _ _ _ => rfl, HOM.out.below hb2 (Nat.le_refl _), ⟨[], rfl, World.ownsRow_nil _ _ _ _, fun i hi => absurd hi (by simp [pFold])⟩, World.ownsRow_nil _ _ _ _, Nat.le_refl _⟩
      have HGL : Hid (∀ i, i < n → g i < wa.heap.size) := fun i hi => ((HOM.out.row i hi).lt _ rfl).2
      have HS12 : Hid (wa.heap.size ≤ w2.heap.size) := hb2.size
      clear f1 f2 f3 hb2 HCO HNE
      go_wp2
      go_loopw [7, 8, 9, 10, 11, 12] (fun x7 x8 i _ _ _ wr => ∃ k : Nat, k ≤ os.length ∧ i = .int .i64 k ∧ PQ w w2 wa.heap.size n g c (.slice (some ⟨G, 0, none⟩) n cap) (pFold n m (os.take k)) x7 x8 wr) (fun _ _ i _ _ _ _ => os.length - (intOf i).toNat)
      case atStart => exact ⟨0, Nat.zero_le _, rfl, HPQ.out⟩
      case round =>
        obtain ⟨k, hk, rfl, hpq⟩ := hrel
        by_cases hlt : k < os.length
        · obtain ⟨s, hs⟩ : ∃ s, s = pFold n m (os.take k) := ⟨_, rfl⟩
          rw [← hs] at hpq
          have hmem : os.getD k [] ∈ os := by simp [hlt]
          have HOD : Hid (Od n (os.getD k [])) := HOI.out _ hmem
          have HSQ : Hid (SqN n s.rest) := by
            rw [hs]
            exact pFold_sq HSN.out _ (fun o ho => HOI.out o (List.mem_of_mem_take ho))
          have HST : Hid (pFold n m (os.take (k + 1)) = pStep n s (os.getD k [])) := by
            show _ = _
            rw [List.take_succ_eq_append_getElem hlt, pFold_snoc, ← hs]
            simp [hlt]
          have HLS : Hid (s.ords.length ≤ 46656 ∧ s.many.length ≤ 46656) := by
            have := pFold_len n m (os.take k)
            rw [← hs] at this
            rw [List.length_take] at this
            show _ ∧ _
            omega
          obtain ⟨ob, oq, oc, hrow, hsln⟩ := HROW.out k hlt
          have HR : Hid (∀ wq : World, (∀ b, wa.heap.size ≤ b → b < w2.heap.size → wq.heap[b]? = w2.heap[b]?) → wq.cell? ⟨xb, k, none⟩ = some (.slice (some ⟨ob, oq, none⟩) n oc) ∧ ∀ j, j < n → wq.cell? ⟨ob, oq + j, none⟩ = some (.int .i64 ((os.getD k []).getD j 0))) := hrow
          have HSL : Hid (SlN wa.heap.size w2 (.slice (some ⟨ob, oq, none⟩) n oc) (ints (os.getD k []))) := hsln
          have HPQ2 : Hid (PQ w w2 wa.heap.size n g c (.slice (some ⟨G, 0, none⟩) n cap) s u7 u8 wr) := hpq
          clear hs hmem hrow hsln HPQ
          generalize os.getD k [] = o at *
          obtain ⟨j0, hj0, hj0n⟩ := HOD.out.rng 0 (by omega)
          obtain ⟨x0, x1⟩ := HR.out wr hpq.mid
          have x2 := x1 0 (by omega)
          rw [hj0, Nat.add_zero] at x2
          have x3 := hpq.left.cellG (i := 0) (by omega)
          have x4 := (hpq.left.ent (i := 0) (j := j0) (by omega) hj0n).1
          have HR0 : Hid (ent s.rest 0 j0 = roomTo s.rest o 0) := by
            show _ = ent s.rest 0 (o.getD 0 0).toNat
            rw [hj0]; rfl
          rw [HR0.out] at x4
          have nI : (0 : Int) < (n : Int) := by omega
          have j0I : (j0 : Int) < (n : Int) := by omega
          have j0I0 : (0 : Int) ≤ (j0 : Int) := by omega
          have kI : (k : Int) < (os.length : Int) := by omega
          have kI0 : (0 : Int) ≤ (k : Int) := by omega
          obtain ⟨wb, hwb⟩ : ∃ wb, wb = wr := ⟨_, rfl⟩
          subst hwb
          clear hpq x1 hj0
          obtain ⟨r0, hr0⟩ : ∃ r0, r0 = roomTo s.rest o 0 := ⟨_, rfl⟩
          rw [← hr0] at x4
          have HR00 : Hid (r0 = roomTo s.rest o 0) := hr0
          clear hr0 HR0
          go_wp2_with fail
          go_big_quiet (fail)
          clear x0 x2 x3 x4
          go_wp2
          go_loopw [10, 11] (fun r i wq => ∃ q : Nat, q ≤ n ∧ i = .int .i64 q ∧ r = .int .i64 (roomTo s.rest o q) ∧ ∃ d, wq = wb.drewN d) (fun _ i _ => n - (intOf i).toNat)
          case atStart => exact ⟨0, Nat.zero_le _, rfl, by rw [HR00.out], _, rfl⟩
          case round =>
            obtain ⟨q, hq, rfl, rfl, d, hwq⟩ := hrel
            subst hwq
            obtain ⟨W, hW⟩ : ∃ W, W = wb.drewN d := ⟨_, rfl⟩
            have HWD : Hid (W = wb.drewN d) := hW
            have HPW : Hid (PQ w w2 wa.heap.size n g c (.slice (some ⟨G, 0, none⟩) n cap) s u7 u8 W) := by rw [hW]; exact HPQ2.out.drewN d
            rw [← hW]
            clear hW
            by_cases hql : q < n
            · obtain ⟨j, hj, hjn⟩ := HOD.out.rng q hql
              obtain ⟨y0, y1⟩ := HR.out W HPW.out.mid
              have y2 := y1 q hql
              rw [hj] at y2
              have y3 := HPW.out.left.cellG (i := q) hql
              have y4 := (HPW.out.left.ent (i := q) (j := j) hql hjn).1
              have HRS : Hid (roomTo s.rest o (q + 1) = if ent s.rest q j < roomTo s.rest o q then ent s.rest q j else roomTo s.rest o q) := by
                show (if ent s.rest q (o.getD q 0).toNat < roomTo s.rest o q then ent s.rest q (o.getD q 0).toNat else roomTo s.rest o q) = _
                rw [hj]; rfl
              have qI : (q : Int) < (n : Int) := by omega
              have qI0 : (0 : Int) ≤ (q : Int) := by omega
              have jI : (j : Int) < (n : Int) := by omega
              have jI0 : (0 : Int) ≤ (j : Int) := by omega
              clear y1 hj
              generalize ent s.rest q j = E at *
              generalize roomTo s.rest o q = rr at *
              by_cases hE : E < rr
              · have q1 : decide (E < rr) = true := decide_eq_true hE
                have HRS2 : Hid (roomTo s.rest o (q + 1) = E) := by show _ = _; rw [HRS.out, if_pos hE]
                clear hE HRS
                go_wp2_with fail
                go_big_quiet (fail)
                obtain ⟨W2, hW2⟩ : ∃ W2, W2 = W.drewN nq := ⟨_, rfl⟩
                rw [← hW2]
                have HWD2 : Hid (∃ d, W2 = wb.drewN d) := ⟨d + nq, by rw [hW2, HWD.out, World.drewN_drewN]⟩
                have z0 : W2.cell? ⟨xb, k, none⟩ = some (.slice (some ⟨ob, oq, none⟩) n oc) := by rw [hW2]; exact y0
                have z2 : W2.cell? ⟨ob, oq + q, none⟩ = some (.int .i64 j) := by rw [hW2]; exact y2
                have z3 : W2.cell? ⟨G, q, none⟩ = some (.slice (some ⟨g q, 0, none⟩) n (c q)) := by rw [hW2]; exact y3
                have z4 : W2.cell? ⟨g q, j, none⟩ = some (.int .i64 E) := by rw [hW2]; exact y4
                clear y0 y2 y3 y4 hW2
                go_wp2_with fail
                go_big_quiet (fail)
                go_wp2
                go_roundw
                case rel =>
                  obtain ⟨d', hd'⟩ := HWD2.out
                  exact ⟨q + 1, by omega, by go_num, by rw [HRS2.out], _, by rw [hd', World.drewN_drewN]⟩
                case measure => simp [intOf]; omega
              · have q1 : decide (E < rr) = false := decide_eq_false hE
                have HRS2 : Hid (roomTo s.rest o (q + 1) = rr) := by show _ = _; rw [HRS.out, if_neg hE]
                clear hE HRS
                go_wp2_with fail
                go_big_quiet (fail)
                go_wp2
                go_roundw
                case rel => exact ⟨q + 1, by omega, by go_num, by rw [HRS2.out], _, by rw [HWD.out, World.drewN_drewN]⟩
                case measure => simp [intOf]; omega
            · have hqe : q = n := by omega
              subst hqe
              have hbd := roomTo_bd (o := o) HSQ.out.bd q
              by_cases hz : roomTo s.rest o q = 0
              · have HZ2 : Hid (PQ w w2 wa.heap.size q g c (.slice (some ⟨G, 0, none⟩) q cap) (pFold q m (os.take (k + 1))) u7 u8 W) := by
                  show PQ _ _ _ _ _ _ _ _ _ _ _
                  rw [HST.out]
                  unfold pStep
                  rw [if_neg (by omega)]
                  exact HPW.out
                rw [hz]
                clear hbd hz
                go_wp2
                go_roundw
                case rel => exact ⟨k + 1, by omega, by go_num, HZ2.out⟩
                case measure => simp [intOf]; omega
              · have hle : ∀ i, i < q → roomTo s.rest o q ≤ ent s.rest i (o.getD i 0).toNat := fun i hi => roomTo_le hi
                have HTF : Hid (∀ k, k ≤ q → SqN q (takeTo s.rest o (roomTo s.rest o q) k)) := fun k hk => (takeTo_fact HSQ.out (fun i hi => by obtain ⟨j, hj, hjn⟩ := HOD.out.rng i hi; rw [hj]; simpa using hjn) (by omega) hle k hk).1
                have HSTEP : Hid (pFold q m (os.take (k + 1)) = ⟨takeTo s.rest o (roomTo s.rest o q) q, s.ords ++ [o], s.many ++ [roomTo s.rest o q]⟩) := by
                  show _ = _
                  rw [HST.out]
                  unfold pStep
                  rw [if_pos (by omega)]
                have HT0 : Hid (PQ w w2 wa.heap.size q g c (.slice (some ⟨G, 0, none⟩) q cap) ⟨takeTo s.rest o (roomTo s.rest o q) 0, s.ords, s.many⟩ u7 u8 W) := HPW.out
                have hzb : (roomTo s.rest o q == 0) = false := by simpa using hz
                clear hle hz HST HPW HPQ2 HWD
                generalize roomTo s.rest o q = z at *
                go_wp2
                go_loopw [12] (fun i wq => ∃ p : Nat, p ≤ q ∧ i = .int .i64 p ∧ PQ w w2 wa.heap.size q g c (.slice (some ⟨G, 0, none⟩) q cap) ⟨takeTo s.rest o z p, s.ords, s.many⟩ u7 u8 wq) (fun i _ => q - (intOf i).toNat)
                case atStart => exact ⟨0, Nat.zero_le _, rfl, HT0.out⟩
                case round =>
                  obtain ⟨p, hp, rfl, hpw⟩ := hrel
                  by_cases hpl : p < q
                  · obtain ⟨j, hj, hjn⟩ := HOD.out.rng p hpl
                    obtain ⟨y0, y1⟩ := HR.out wr hpw.mid
                    have y2 := y1 p hpl
                    rw [hj] at y2
                    have y3 := hpw.left.cellG (i := p) hpl
                    obtain ⟨y4, y5⟩ := hpw.left.ent (i := p) (j := j) hpl hjn
                    have HNX : Hid (PQ w w2 wa.heap.size q g c (.slice (some ⟨G, 0, none⟩) q cap) ⟨takeTo s.rest o z (p + 1), s.ords, s.many⟩ u7 u8 (wr.setCell ⟨g p, j, none⟩ (.int .i64 (ent (takeTo s.rest o z p) p j - z)))) := by
                      have e : takeTo s.rest o z (p + 1) = setM (takeTo s.rest o z p) p j (ent (takeTo s.rest o z p) p j - z) := by
                        show setM (takeTo s.rest o z p) p (o.getD p 0).toNat (ent (takeTo s.rest o z p) p (o.getD p 0).toNat - z) = _
                        rw [hj]; rfl
                      show PQ _ _ _ _ _ _ _ _ _ _ _
                      rw [e]
                      exact hpw.set HGL.out HS12.out hpl _
                    have hbe := (HTF.out p hp).bd p j
                    have pI : (p : Int) < (q : Int) := by omega
                    have pI0 : (0 : Int) ≤ (p : Int) := by omega
                    have jI : (j : Int) < (q : Int) := by omega
                    have jI0 : (0 : Int) ≤ (j : Int) := by omega
                    clear y1 hj hpw
                    simp only at y4
                    generalize ent (takeTo s.rest o z p) p j = E at *
                    go_wp2_with fail
                    go_big_region
                    all_goals
                      go_wp2
                      exact ⟨⟨p + 1, by omega, by go_num, by have := HNX.out.drewN 1; exact this⟩, by simp [intOf]; omega⟩
                  · have hpe : p = q := by omega
                    subst hpe
                    obtain ⟨vs, k1, k2, k3⟩ := hpw.ol
                    have k4 := hpw.ml
                    simp only at k1 k2 k3 k4
                    obtain ⟨ao, ac, ha⟩ := owns_form k2
                    subst ha
                    obtain ⟨bo, bc, hb'⟩ := owns_form k4
                    subst hb'
                    obtain ⟨y0, -⟩ := HR.out wr hpw.mid
                    have HPW : Hid (PQ w w2 wa.heap.size p g c (.slice (some ⟨G, 0, none⟩) p cap) ⟨takeTo s.rest o z p, s.ords, s.many⟩ (.slice ao s.ords.length ac) (.slice bo s.many.length bc) wr) := hpw
                    have K1 : Hid (vs.length = s.ords.length) := k1
                    have K2 : Hid (wr.ownsRow w2.heap.size 26 1 (.slice ao s.ords.length ac) s.ords.length vs) := k2
                    have K3 : Hid (∀ i, i < s.ords.length → SlN wa.heap.size w2 (vs.getD i (.slice none 0 0)) (ints (s.ords.getD i []))) := k3
                    have K4 : Hid (wr.ownsRow w2.heap.size 3 1 (.slice bo s.many.length bc) s.many.length (ints s.many)) := k4
                    have HSZ : Hid (w2.heap.size ≤ wr.heap.size) := hpw.sz
                    have hl1 := HLS.out.1
                    have hl2 := HLS.out.2
                    have HNB : Hid (∀ b, ((Value.slice (some ⟨G, 0, none⟩) p cap).ownBlock = some b ∨ ∃ i, i < p ∧ b = g i) → b < wa.heap.size) := fun b hb => (HOM.out.lt b hb).2
                    have HWW : Hid (w.heap.size ≤ w2.heap.size) := Nat.le_trans HB.out.size HS12.out
                    clear k1 k2 k3 k4 hpw
                    go_wp2_with (first | (at_builtin; refine wpList_append_own _ rfl _ _ 22 rfl w2.heap.size 26 i0 (.slice none 0 0) 1 24 Try.underlying22 hi0 hz0 hz1 hz2 rfl (by decide) _ _ _ rfl (K2.out.alloc _) ⟨wr.heap.size, 0, none⟩ 1 1 [.slice (some ⟨ob, oq, none⟩) p oc] rfl rfl (one_new _ _ _) (one_slice _ _ _) ?c3 ?c4 ?c5 ?_))
                    case c3 => unfold maxLen; omega
                    case c4 => omega
                    case c5 => have := HSZ.out; simp; omega
                    intro v2 w3 ho3 hg3 _
                    have HO3 : Hid (w3.ownsRow w2.heap.size 26 1 v2 (s.ords.length + 1) (vs ++ [.slice (some ⟨ob, oq, none⟩) p oc])) := ho3
                    have HG3 : Hid ((wr.alloc (.cells #[.slice (some ⟨ob, oq, none⟩) p oc] 26)).grownBy w3 (Value.slice ao s.ords.length ac).ownBlock) := hg3
                    have HM3 : Hid (w3.ownsRow w2.heap.size 3 1 (.slice bo s.many.length bc) s.many.length (ints s.many)) := (K4.out.alloc _).kept hg3 (apart_ne (own_apart K2.out K4.out))
                    have HSZ3 : Hid (w2.heap.size ≤ w3.heap.size) := by
                      have h1 := HSZ.out
                      have h2 := hg3.size
                      simp only [World.size_alloc] at h2
                      show _ ≤ _
                      omega
                    obtain ⟨ao2, ac2, hv2⟩ := owns_form ho3
                    subst hv2
                    clear ho3 hg3
                    go_wp2_with (first | (at_builtin; refine wpList_append_own _ rfl _ _ 26 rfl w2.heap.size 3 i3 (.int .i64 0) 1 8 Try.underlying26 hi3 hz30 hz31 hz32 rfl (by decide) _ _ _ rfl (HM3.out.alloc _) ⟨w3.heap.size, 0, none⟩ 1 1 [.int .i64 z] rfl rfl (one_new _ _ _) (one_int _) ?d3 ?d4 ?d5 ?_))
                    case d3 => unfold maxLen; omega
                    case d4 => omega
                    case d5 => have := HSZ3.out; simp; omega
                    intro v4 w4 ho4 hg4 _
                    have HFIN : Hid (PQ w w2 wa.heap.size p g c (.slice (some ⟨G, 0, none⟩) p cap) (pFold p m (os.take (k + 1))) (.slice ao2 (s.ords.length + 1) ac2) v4 w4) := by
                      show PQ _ _ _ _ _ _ _ _ _ _ _
                      rw [HSTEP.out]
                      exact HPW.out.step HNB.out HS12.out HWW.out K1.out K2.out K3.out HSL.out HO3.out HG3.out HM3.out ho4 hg4
                    clear ho4 hg4
                    go_wp2
                    go_roundw
                    case rel => exact ⟨k + 1, by omega, by go_num, HFIN.out⟩
                    case measure => simp [intOf]; omega
        · have hke : os.take k = os := List.take_of_length_le (by omega)
          rw [hke] at hpq
          have HE : Hid (Fr w.heap.size 26 3 wr u7 (pFold n m os).ords ∧ wr.ownsRow w.heap.size 3 1 u8 (pFold n m os).many.length (ints (pFold n m os).many) ∧ Below w.heap.size w wr) := by
            have hww : w.heap.size ≤ w2.heap.size := Nat.le_trans HB.out.size HS12.out
            obtain ⟨vs, k1, k2, k3⟩ := hpq.ol
            refine ⟨⟨vs, k1, ⟨k2.1, ?_⟩, fun i hi => (k3 i hi).mid hpq.mid⟩, ⟨hpq.ml.1, ?_⟩, hpq.bel⟩
            · rcases k2.2 with h2 | ⟨g', cap, cur, h1, h2, r⟩
              · exact Or.inl h2
              · exact Or.inr ⟨g', cap, cur, h1, by omega, r⟩
            · rcases hpq.ml.2 with h2 | ⟨g', cap, cur, h1, h2, r⟩
              · exact Or.inl h2
              · exact Or.inr ⟨g', cap, cur, h1, by omega, r⟩
          clear hpq hke
          go_wp2
          go_ret2
          refine ⟨u7, u8, rfl, ?_⟩
          rw [← HNN.out, HOS.out]
          exact HE.out

end Go.Proofs.Ytmgjnhdicnpdlaa
