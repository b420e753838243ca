/- TopBirkhoff: the walk. -/
import Derived.Test.YtmffbaclgbmnbaaBk5
import Derived.Deep.QuietTactic
import Derived.BigQuiet
namespace Go.Proofs.Ytmffbaclgbmnbaa
open Go.RowKit
attribute [local go_sem ↓] Go.wp_at_zero Go.wp_at_succ

set_option maxRecDepth 100000 in
set_option maxHeartbeats 8000000 in
theorem topBirkhoff_any (raw : List Int) (n0 m0 : Int) (v : Value) (w : World) (hv : Sl w.heap.size 3 w v (ints raw)) (hr : ∀ z ∈ raw, In64 z) (hn0 : In64 n0) (hm0 : In64 m0) :
    Calls Try.prog 3 #[v, .int .i64 n0, .int .i64 m0] w fun e w' => e = .returned (.bool true) ∧ Below w.heap.size w w' := by
  obtain ⟨ao, cap, hvv, hlc, hcm⟩ := sl_open hv
  subst hvv
  have HV : Hid (Sl w.heap.size 3 w (.slice ao raw.length cap) (ints raw)) := hv
  have HRR : Hid (∀ z ∈ raw, In64 z) := hr
  have HD : Hid (In64 n0) := hn0
  have HW : Hid (In64 m0) := hm0
  clear hv hr hn0 hm0
  by_cases h1 : 256 < raw.length
  · have b1 : decide ((256 : Int) < (raw.length : Int)) = true := decide_eq_true (by omega)
    clear h1
    go_enter Try.func3, Try.ntmps3
    go_wp2
    go_ret
    exact ⟨rfl, Below.refl _ _⟩
  · have b1 : decide ((256 : Int) < (raw.length : Int)) = false := decide_eq_false (by omega)
    have HRL : Hid (raw.length ≤ 1000000) := by
      show _ ≤ _
      omega
    clear h1
    go_enter Try.func3, Try.ntmps3
    go_wp2_with fail
    refine (pick_any n0 5 w (by omega) (by omega) HD.out).mono ?_
    rintro e w1 ⟨z, rfl, hz, rfl⟩
    obtain ⟨n, hn⟩ : ∃ n : Nat, (n : Int) = 1 + z := ⟨(1 + z).toNat, by omega⟩
    have hz1' := hz.1
    have hz2' := hz.2
    have HN : Hid ((n : Int) = 1 + z) := hn
    have hn5 : n ≤ 5 := by omega
    have hn1 : 1 ≤ n := by omega
    clear hz hn
    go_wp2_with fail
    rw [← HN.out]
    refine (pick_any m0 9 w1 (by omega) (by omega) HW.out).mono ?_
    rintro e w2 ⟨y, rfl, hy, rfl⟩
    obtain ⟨wd, hwd⟩ : ∃ wd : Nat, (wd : Int) = y := ⟨y.toNat, by omega⟩
    have hy1' := hy.1
    have hy2' := hy.2
    have HWD : Hid ((wd : Int) = y) := hwd
    have hwd9 : wd ≤ 9 := by omega
    clear hy hwd hz1' hz2' HN
    go_wp2_with fail
    rw [← HWD.out]
    refine (evenOf_ev w2.heap.size raw _ n wd w2 HV.out HRR.out HRL.out hn1 (by omega) (by omega)).mono ?_
    rintro e w3 ⟨x, m, rfl, ⟨g, c, hom⟩, hsq, ⟨T, hT⟩, hb3⟩
    have HBP : Hid (BP n m (prO m) (prM m)) := bp hsq hT hn1 (by omega)
    have HQ : Hid (evE m = 0) := ev_ok hsq hT hn1 (by omega)
    have HMT : Hid (Mat w3.heap.size 22 3 w3 x m) := by
      refine ⟨rowsV g c n n, by rw [rowsV_len, hom.num], Sl.own hom.out, fun i hi => ?_⟩
      rw [hom.num] at hi
      rw [List.getD_eq_getElem?_getD, rowsV_get hi]
      exact Sl.own (hom.row i hi)
    have HPA : Hid (Calls Try.prog 6 #[x] w3 fun e w' => ∃ xo xc yo yc, e = .returned (.tuple #[.slice xo (prO m).length xc, .slice yo (prO m).length yc, .int .i64 0]) ∧ LP w3.heap.size n w' (prO m) (prM m) xo yo ∧ Below w3.heap.size w3 w') :=
      (parts_any m _ w3 HMT.out).mono (by
        rintro e w' ⟨x, y, rfl, h1, h2, h3⟩
        rw [HQ.out]
        rw [HBP.out.len] at h2
        obtain ⟨xo, xc, rfl⟩ : ∃ xo xc, x = .slice xo (prO m).length xc := by
          obtain ⟨vs, _, h5, _⟩ := h1
          exact owns_form h5
        obtain ⟨yo, yc, rfl⟩ := owns_form h2
        exact ⟨xo, xc, yo, yc, rfl, lp_of hn1 h1 h2 HBP.out.len (fun o ho => (HBP.out.ins o ho).1), h3⟩)
    obtain ⟨G, xcap, hG, _, _, _, _⟩ := hom.form hn1
    subst hG
    have HOM : Hid (OM w2.heap.size g c n n w3 (.slice (some ⟨G, 0, none⟩) n xcap) m) := hom
    have HSQ : Hid (SqN n m) := hsq
    have HB3 : Hid (Below w2.heap.size w2 w3) := hb3
    have HGL : Hid (∀ i, i < n → g i < w3.heap.size) := fun i hi => ((hom.row i hi).lt _ rfl).2
    have HFEW : Hid ((prO m).length ≤ (n - 1) * (n - 1) + 1) := HBP.out.few
    clear hom hsq hT hb3 hy1' hy2' HWD HQ HMT
    generalize prO m = os at *
    generalize prM m = ks at *
    have hmul : (n - 1) * (n - 1) ≤ 16 := by
      have : n - 1 ≤ 4 := by omega
      exact Nat.le_trans (Nat.mul_le_mul this this) (by decide)
    have hml : ((n : Int) - 1) * ((n : Int) - 1) = (((n - 1) * (n - 1) : Nat) : Int) := by
      rw [Int.natCast_mul, Int.natCast_sub hn1]; rfl
    have hfew := HFEW.out
    obtain ⟨s, hs⟩ : ∃ s, s = (n - 1) * (n - 1) := ⟨_, rfl⟩
    rw [← hs] at hml hfew hmul
    have hsl : os.length ≤ 17 := by omega
    have hnn : ((os.length : Int) != (os.length : Int)) = false := by simp
    have hle : decide ((s : Int) + 1 < (os.length : Int)) = false := decide_eq_false (by omega)
    have hm0' : 0 ≤ ((n : Int) - 1) * ((n : Int) - 1) := by rw [hml]; omega
    have hm1' : ((n : Int) - 1) * ((n : Int) - 1) ≤ 16 := by rw [hml]; omega
    clear hs
    go_wp2_with fail
    refine HPA.out.mono ?_
    rintro e w4 ⟨xo, xc, yo, yc, rfl, hlp, hb4⟩
    have HLP : Hid (LP w3.heap.size n w4 os ks xo yo) := hlp
    have HLB : Hid (LB w2 w4 w3.heap.size n g c (.slice (some ⟨G, 0, none⟩) n xcap) (subTo n m os ks 0) (10000 + 60000 * ((0 : Nat) : Int)) w4) :=
      ⟨HB3.out.trans (hb4.mono HB3.out.size), fun _ _ _ => rfl, HOM.out.below hb4 (Nat.le_refl _), Nat.le_refl _, fun i j => by have := HSQ.out.bd i j; rw [show subTo n m os ks 0 = m from rfl]; omega⟩
    clear hlp hb4 HPA
    go_wp2
    go_loopw [11, 12] (fun i _ wr => ∃ k : Nat, k ≤ os.length ∧ i = .int .i64 k ∧ LB w2 w4 w3.heap.size n g c (.slice (some ⟨G, 0, none⟩) n xcap) (subTo n m os ks k) (10000 + 60000 * (k : Int)) wr) (fun i _ _ => os.length - (intOf i).toNat)
    case atStart => exact ⟨0, Nat.zero_le _, rfl, HLB.out⟩
    case round =>
      obtain ⟨k, hk, rfl, hlb⟩ := hrel
      clear HLB
      by_cases hlt : k < os.length
      · obtain ⟨xb, ob, oq, oc, rfl, hoc, hrow⟩ := HLP.out.row k hlt
        obtain ⟨yb, rfl, hnum⟩ := HLP.out.num k hlt
        have HROW : Hid (∀ wq : World, (∀ b, w3.heap.size ≤ b → b < w4.heap.size → wq.heap[b]? = w4.heap[b]?) → wq.cell? ⟨xb, k, none⟩ = some (.slice (some ⟨ob, oq, none⟩) n oc) ∧ (∀ j, j < n → wq.cell? ⟨ob, oq + j, none⟩ = some (.int .i64 ((os.getD k []).getD j 0))) ∧ Sl 0 3 wq (.slice (some ⟨ob, oq, none⟩) n oc) (ints (os.getD k []))) := hrow
        have HNUM : Hid (∀ wq : World, (∀ b, w3.heap.size ≤ b → b < w4.heap.size → wq.heap[b]? = w4.heap[b]?) → wq.cell? ⟨yb, k, none⟩ = some (.int .i64 (ks.getD k 0))) := hnum
        obtain ⟨hol, hio⟩ := HBP.out.ins (os.getD k []) (by simp [hlt])
        have HOL : Hid ((os.getD k []).length = n) := hol
        have HIO : Hid (IsOrd n (os.getD k [])) := hio
        have HOD : Hid (Od n (os.getD k [])) := ord_od hio hol
        obtain ⟨hy1, hy2⟩ := HBP.out.pos k hlt
        have y0 := (hrow wr hlb.mid).1
        have y1 := hnum wr hlb.mid
        have HLB : Hid (LB w2 w4 w3.heap.size n g c (.slice (some ⟨G, 0, none⟩) n xcap) (subTo n m os ks k) (10000 + 60000 * (k : Int) + 10000 * ((0 : Nat) : Int)) wr) := by
          show LB _ _ _ _ _ _ _ _ _ _
          simpa using hlb
        have HSUB : Hid (subTo n m os ks (k + 1) = takeTo (subTo n m os ks k) (os.getD k []) (ks.getD k 0) n) := rfl
        clear hlb hrow hnum hol hio
        generalize os.getD k [] = o at *
        generalize ks.getD k 0 = z at *
        generalize subTo n m os ks k = R2 at *
        have hkI : (k : Int) < (os.length : Int) := by omega
        have hkI0 : (0 : Int) ≤ (k : Int) := by omega
        have hz1 : decide (z < 1) = false := decide_eq_false (by omega)
        have hnn2 : ((n : Int) != (n : Int)) = false := by simp
        obtain ⟨wb, rfl⟩ : ∃ wb, wb = wr := ⟨wr, rfl⟩
        go_wp2
        clear y0 y1
        go_loopw [12] (fun i wq => ∃ (p : Nat) (R3 : List (List Int)), p ≤ n ∧ i = .int .i64 p ∧ LB w2 w4 w3.heap.size n g c (.slice (some ⟨G, 0, none⟩) n xcap) R3 (10000 + 60000 * (k : Int) + 10000 * (p : Int)) wq ∧ R3 = takeTo R2 o z p) (fun i _ => n - (intOf i).toNat)
        case atStart => exact ⟨0, R2, Nat.zero_le _, rfl, HLB.out, rfl⟩
        case round =>
          obtain ⟨p, R3, hp, rfl, hpw, hR3⟩ := hrel
          have HR3 : Hid (R3 = takeTo R2 o z p) := hR3
          clear hR3 HLB
          by_cases hpl : p < n
          · obtain ⟨j, hj, hjn⟩ := HOD.out.rng p hpl
            have HJ : Hid (o.getD p 0 = (j : Int)) := hj
            obtain ⟨W, rfl⟩ : ∃ W, W = wr := ⟨wr, rfl⟩
            have HPW : Hid (LB w2 w4 w3.heap.size n g c (.slice (some ⟨G, 0, none⟩) n xcap) R3 (10000 + 60000 * (k : Int) + 10000 * (p : Int)) W) := hpw
            have HIN : Hid (∀ q, Calls Try.prog 7 #[.int .i64 j, .slice (some ⟨ob, oq, none⟩) p oc] (W.drewN q) fun e w' => e = .returned (.bool false) ∧ w' = W.drewN q) := fun q => by
              have h0 : Sl 0 3 (W.drewN q) (.slice (some ⟨ob, oq, none⟩) o.length oc) (ints o) := by rw [HOL.out]; exact (HROW.out (W.drewN q) HPW.out.mid).2.2
              have h1 := inT_any 0 (j : Int) (o.take p) (.slice (some ⟨ob, oq, none⟩) p oc) (W.drewN q) (h0.takeB (by rw [HOL.out]; omega))
              rw [← HJ.out, nodup_inB HIO.out.2 (by rw [HOL.out]; omega), HJ.out] at h1
              exact h1
            obtain ⟨y0, y1, -⟩ := HROW.out W hpw.mid
            have y2 := y1 p hpl
            rw [hj] at y2
            have hkc : p ≤ oc := by omega
            have hkcI : (p : Int) ≤ (oc : Int) := by omega
            have pI : (p : Int) < (n : Int) := by omega
            have pI0 : (0 : Int) ≤ (p : Int) := by omega
            have jI : (j : Int) < (n : Int) := by omega
            have jI0 : (0 : Int) ≤ (j : Int) := by omega
            have q1 : decide ((j : Int) < 0) = false := decide_eq_false (by omega)
            have q2 : decide ((n : Int) ≤ (j : Int)) = false := decide_eq_false (by omega)
            have q2n : decide (n ≤ j) = false := decide_eq_false (by omega)
            clear y1 hj hpw hp
            go_wp2_with fail
            go_big_quiet ((go_at_call 7; exact Calls.quiet_of_same (w := W) (HIN.out _)))
            clear y0 y2 HIN
            obtain ⟨W2, hW2⟩ : ∃ W2, W2 = W.drewN nq := ⟨_, rfl⟩
            rw [← hW2]
            have hpw : LB w2 w4 w3.heap.size n g c (.slice (some ⟨G, 0, none⟩) n xcap) R3 (10000 + 60000 * (k : Int) + 10000 * (p : Int)) W2 := by
              rw [hW2]; exact HPW.out.below ⟨rfl, rfl, rfl, Nat.le_refl _, fun _ _ => rfl⟩
            clear hW2 HPW
            obtain ⟨y0, y1, -⟩ := HROW.out W2 hpw.mid
            have y2 := y1 p hpl
            rw [HJ.out] at y2
            have yk := HNUM.out W2 hpw.mid
            have y3 := hpw.left.cellG (i := p) hpl
            obtain ⟨y4, y5⟩ := hpw.left.ent (i := p) (j := j) hpl hjn
            have hbe := hpw.bds p j
            have HNX : Hid (LB w2 w4 w3.heap.size n g c (.slice (some ⟨G, 0, none⟩) n xcap) (setM R3 p j (ent R3 p j - z)) (10000 + 60000 * (k : Int) + 10000 * ((p + 1 : Nat) : Int)) (W2.setCell ⟨g p, j, none⟩ (.int .i64 (ent R3 p j - z)))) :=
              hpw.set HGL.out hpl hjn (by omega) (by omega)
            have HTN : Hid (setM R3 p j (ent R3 p j - z) = takeTo R2 o z (p + 1)) := by
              show _ = setM (takeTo R2 o z p) p (o.getD p 0).toNat (ent (takeTo R2 o z p) p (o.getD p 0).toNat - z)
              rw [← HR3.out, HJ.out]; rfl
            clear y1 hpw
            generalize ent R3 p j = E at *
            go_wp2_with fail
            go_big_region
            all_goals
              go_wp2
              exact ⟨⟨p + 1, _, by omega, by go_num, HNX.out.below ⟨rfl, rfl, rfl, Nat.le_refl _, fun _ _ => rfl⟩, HTN.out⟩, by simp [intOf]; omega⟩
          · have hpe : p = n := by omega
            have HNX : Hid (LB w2 w4 w3.heap.size n g c (.slice (some ⟨G, 0, none⟩) n xcap) (subTo n m os ks (k + 1)) (10000 + 60000 * ((k + 1 : Nat) : Int)) wr) := by
              rw [HSUB.out, ← hpe, ← HR3.out, hpe]
              exact ⟨hpw.bel, hpw.mid, hpw.left, hpw.sz, fun i j => by have := hpw.bds i j; omega⟩
            clear hpw
            have hpe2 : (p : Int) = (n : Int) := by omega
            have hpd : decide ((p : Int) < (n : Int)) = false := decide_eq_false (by omega)
            go_wp2
            go_roundw
            case rel => exact ⟨k + 1, by omega, by go_num, HNX.out⟩
            case measure => simp [intOf]; omega
      · have hke : k = os.length := by omega
        have HZ : Hid (∀ i j, i < n → j < n → ent (subTo n m os ks k) i j = 0) := by rw [hke]; exact HBP.out.zero
        obtain ⟨wb, rfl⟩ : ∃ wb, wb = wr := ⟨wr, rfl⟩
        have HLZ : Hid (LB w2 w4 w3.heap.size n g c (.slice (some ⟨G, 0, none⟩) n xcap) (subTo n m os ks k) (10000 + 60000 * (k : Int)) wb) := hlb
        clear hlb
        generalize subTo n m os ks k = R2 at *
        have hkd : decide ((k : Int) < (os.length : Int)) = false := decide_eq_false (by omega)
        go_wp2
        go_loopw [13, 14] (fun i _ wr => ∃ a : Nat, a ≤ n ∧ i = .int .i64 a ∧ wr = wb) (fun i _ _ => n - (intOf i).toNat)
        case atStart => exact ⟨0, Nat.zero_le _, rfl, rfl⟩
        case round =>
          obtain ⟨a, ha, rfl, rfl⟩ := hrel
          by_cases hal : a < n
          · have x3 := HLZ.out.left.cellG (i := a) hal
            go_wp2
            go_loopw [14] (fun j wr' => ∃ b : Nat, b ≤ n ∧ j = .int .i64 b ∧ wr' = wr) (fun j _ => n - (intOf j).toNat)
            case atStart => exact ⟨0, Nat.zero_le _, rfl, rfl⟩
            case round =>
              obtain ⟨b, hb, rfl, rfl⟩ := hrel
              by_cases hbl : b < n
              · obtain ⟨x4, x5⟩ := HLZ.out.left.ent (i := a) (j := b) hal hbl
                rw [HZ.out a b hal hbl] at x4
                have aI : (a : Int) < (n : Int) := by omega
                have aI0 : (0 : Int) ≤ (a : Int) := by omega
                have bI : (b : Int) < (n : Int) := by omega
                have bI0 : (0 : Int) ≤ (b : Int) := by omega
                go_wp2
                go_roundw
                case rel => exact ⟨b + 1, by omega, by go_num, trivial⟩
                case measure => simp [intOf]; omega
              · have hbd : decide ((b : Int) < (n : Int)) = false := decide_eq_false (by omega)
                go_wp2
                go_roundw
                case rel => exact ⟨a + 1, by omega, by go_num, trivial⟩
                case measure => simp [intOf]; omega
          · have had : decide ((a : Int) < (n : Int)) = false := decide_eq_false (by omega)
            have HE := HLZ.out.bel
            go_wp2
            go_ret
            exact ⟨rfl, HE⟩

end Go.Proofs.Ytmffbaclgbmnbaa
