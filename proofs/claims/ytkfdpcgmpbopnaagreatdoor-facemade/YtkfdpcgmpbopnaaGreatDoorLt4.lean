/- The document's answer: the dimension of a set of corners. -/
import Derived.Test.YtkfdpcgmpbopnaaGreatDoorLt3
namespace Go.Proofs.YtkfdpcgmpbopnaaGreatDoor
open Go.RowKit
attribute [local go_sem ↓] Go.wp_at_zero Go.wp_at_succ

/-- The dimension of some corners. -/
def dimL (d : Nat) (C : List (List Int)) (s : Nat) : Int := if memL s = [] then (-1 : Int) else (((pickL d (diffL (pks C [] (memL s)))).length : Nat) : Int)

theorem memL_bd {s n : Nat} (hs : s < 2 ^ n) (hn : n ≤ 64) : ∀ x ∈ memL s, 0 ≤ x ∧ x < (n : Int) := by
  intro x hx
  rw [← memL_top hs hn] at hx
  unfold memTo at hx
  simp only [List.mem_map, List.mem_filter, List.mem_range] at hx
  obtain ⟨k, ⟨hk, _⟩, rfl⟩ := hx
  omega

theorem memL_len {s n : Nat} (hs : s < 2 ^ n) (hn : n ≤ 64) : (memL s).length ≤ n := by
  rw [← memL_top hs hn]
  exact memTo_len s n

set_option maxRecDepth 100000 in
set_option maxHeartbeats 800000 in
theorem dimension_any (B d s : Nat) (C : List (List Int)) (v : Value) (w : World) (hv : Mat B 22 3 w v C) (hd1 : 1 ≤ d) (hd : d ≤ 4) (hC : C.length ≤ 16) (hx : Box d 6 C) (hs : s < 2 ^ C.length) :
    Calls Tryz.prog 28 #[v, .int .i64 s] w fun e w' => e = .returned (.int .i64 (dimL d C s)) ∧ Below w.heap.size w w' := by
  obtain ⟨i0, hi, hz0, hz1, hz2⟩ := info_parts Tryz.info22
  obtain ⟨ao, cap, hvv, hlc, hcm⟩ := mat_open hv
  subst hvv
  have HV : Hid (Mat w.heap.size 22 3 w (.slice ao C.length cap) C) := hv.any (Nat.le_refl _)
  have HX : Hid (Box d 6 C) := hx
  have HMB : Hid (Calls Tryz.prog 29 #[.int .i64 s] w fun e w' => ∃ u, e = .returned u ∧ w'.ownsRow w.heap.size 3 1 u (memL s).length (ints (memL s)) ∧ Below w.heap.size w w') := members_any s C.length w hs (by omega)
  have HLB : Hid (∀ x ∈ memL s, 0 ≤ x ∧ x < (C.length : Int)) := memL_bd hs (by omega)
  have HLN : Hid ((memL s).length ≤ 16) := Nat.le_trans (memL_len hs (by omega)) hC
  have HDL : Hid (dimL d C s = if memL s = [] then (-1 : Int) else (((pickL d (diffL (pks C [] (memL s)))).length : Nat) : Int)) := rfl
  clear hv hx hs
  generalize memL s = l at *
  generalize dimL d C s = D at *
  obtain ⟨n, hn⟩ : ∃ n, n = C.length := ⟨_, rfl⟩
  have HN : Hid (n = C.length) := hn
  rw [← hn] at HV HLB hC hlc ⊢
  clear hn
  go_enter Tryz.func28, Tryz.ntmps28
  go_wp2_with fail
  refine HMB.out.mono ?_
  rintro e w1 ⟨lv, rfl, hlo, hb1⟩
  have HB1 : Hid (Below w.heap.size w w1) := hb1
  have hsz1 : w.heap.size ≤ w1.heap.size := hb1.size
  have HL : Hid (Sl w1.heap.size 3 w1 lv (ints l)) := (Sl.own (B := 0) hlo).any (Nat.le_refl _)
  obtain ⟨lo, lc, hlv, _, _⟩ := sl_open HL.out
  subst hlv
  clear hlo hb1 HMB
  by_cases hl0 : l = []
  · subst hl0
    rw [if_pos rfl] at HDL
    have HD1 : Hid (D = -1) := HDL.out
    clear HDL
    go_wp2
    go_ret
    exact ⟨by rw [HD1.out]; rfl, HB1.out⟩
  · rw [if_neg hl0] at HDL
    have hlp : 0 < l.length := List.length_pos_iff.2 hl0
    have HLP : Hid (0 < l.length) := hlp
    have HLN2 : Hid (l.length ≤ 16) := HLN.out
    have tl : ((l.length : Int) == 0) = false := by simp; omega
    clear hl0 hlp
    go_wp2
    go_loopw [6, 7] (fun x i wq => ∃ j : Nat, j ≤ l.length ∧ i = .int .i64 j ∧ Rws w1.heap.size 22 3 wq x (pks C [] (l.take j)) ∧ Below w1.heap.size w1 wq) (fun _ i _ => l.length - (intOf i).toNat)
    case atStart => exact ⟨0, Nat.zero_le _, rfl, Rws.nil _ _ _ _, Below.refl _ _⟩
    case round =>
      obtain ⟨j, hj, rfl, hfr, hbel⟩ := hrel
      have HFS : Hid (Rws w1.heap.size 22 3 wr u6 (pks C [] (l.take j))) := hfr
      have HBS : Hid (Below w1.heap.size w1 wr) := hbel
      have HBr : Hid (Below w.heap.size w wr) := HB1.out.trans (hbel.mono hsz1)
      clear hfr hbel
      by_cases hjl : j < l.length
      · have HSN : Hid (pks C [] (l.take (j + 1)) = pks C [] (l.take j) ++ [C.getD (l.getD j 0).toNat []]) := pks_snocP C l j hjl
        have HLJ : Hid ((pks C [] (l.take j)).length = j) := by show _ = _; simp [pks]; omega
        obtain ⟨b3, o3, cp3, hs3, hc3, hcc3⟩ := sl_cell (HL.out.below HBS.out (Nat.le_refl _)) (k := j) hjl
        simp only [Value.slice.injEq] at hs3
        obtain ⟨rfl, hxx, rfl⟩ := hs3
        clear hxx
        obtain ⟨hx0, hx1⟩ := HLB.out (l.getD j 0) (by simp [hjl])
        obtain ⟨q, hq⟩ : ∃ q : Nat, l.getD j 0 = (q : Int) := ⟨(l.getD j 0).toNat, by omega⟩
        rw [hq] at hcc3 hx0 hx1 HSN
        rw [show ((q : Int)).toNat = q by omega] at HSN
        clear hq
        have hqC : q < C.length := by rw [← HN.out]; omega
        have hqn : q < n := by omega
        obtain ⟨b4, o4, cp4, r2, hs4, _, hcc4, hr2⟩ := mat_cell (HV.out.below HBr.out (Nat.le_refl _)) hqC
        simp only [Value.slice.injEq] at hs4
        obtain ⟨rfl, hxx, rfl⟩ := hs4
        clear hxx
        obtain ⟨yo, yc, hrv, _, _⟩ := sl_open hr2
        subst hrv
        have HR2 : Hid (Sl w1.heap.size 3 wr (.slice yo (C.getD q []).length yc) (ints (C.getD q []))) := hr2.more hsz1
        clear hr2
        generalize C.getD q [] = y at *
        generalize hyl : y.length = yl at *
        clear hyl hc3 hqC
        obtain ⟨vs, g1, g2, g3⟩ := HFS.out
        have hlen := HLJ.out
        rw [hlen] at g1 g2 g3
        have G1 : Hid (vs.length = j) := g1
        have G2 : Hid (wr.ownsRow w1.heap.size 22 1 u6 j vs) := g2
        have G3 : Hid (∀ i, i < j → Sl w1.heap.size 3 wr (vs.getD i (.slice none 0 0)) (ints ((pks C [] (l.take j)).getD i []))) := g3
        have hszr : w1.heap.size ≤ wr.heap.size := HBS.out.size
        have hjI : (j : Int) < (l.length : Int) := by omega
        have hjI0 : (0 : Int) ≤ (j : Int) := by omega
        have hj16 : j ≤ 16 := Nat.le_trans hj HLN2.out
        clear g1 g2 g3 hlen
        go_wp2_with (first | (at_builtin; refine wpList_append_own _ rfl _ _ 25 rfl w1.heap.size 22 i0 (.slice none 0 0) 1 24 Tryz.underlying25 hi hz0 hz1 hz2 rfl (by decide) _ _ _ rfl (G2.out.alloc _) ⟨wr.heap.size, 0, none⟩ 1 1 [.slice yo yl yc] rfl rfl (one_new _ _ _) (one_slice _ _ _) ?d3 ?d4 ?d5 ?_))
        case d3 => unfold maxLen; omega
        case d4 => omega
        case d5 => first | exact hszr | omega | (simp; omega)
        intro v' w3 ho hg _
        have R1 : Hid (Rws w1.heap.size 22 3 w3 v' (pks C [] (l.take (j + 1)))) := by
          have hp := Rws.push (e2 := 22) (e1 := 3) (m := pks C [] (l.take j)) (u := .slice yo yl yc) (zs := y) (by decide) (by rw [HLJ.out]; exact G1.out) (by rw [HLJ.out]; exact G2.out.alloc _)
            (fun i hi => (G3.out i (by rw [HLJ.out] at hi; exact hi)).alloc _) (HR2.out.alloc _) (by rw [HLJ.out]; exact ho) hg
          rw [← HSN.out] at hp
          exact hp
        have R2 : Hid (Below w1.heap.size w1 w3) := (HBS.out.alloc hszr _).grown hg (by simp; omega) (fun x hx => (G2.out.lt x hx).1)
        clear ho hg
        go_wp2
        go_roundw
        case rel => exact ⟨j + 1, by omega, by go_num, R1.out, R2.out⟩
        case measure => simp [intOf]; omega
      · have HT : Hid (Rws w1.heap.size 22 3 wr u6 (pks C [] l)) := by
          have := HFS.out
          rw [List.take_of_length_le (by omega)] at this
          exact this
        have HTL : Hid ((pks C [] l).length = l.length) := by show _ = _; simp [pks]
        have HTM : Hid (∀ x ∈ pks C [] l, x ∈ C) := pks_in fun q hq => by
          rw [← HN.out]
          exact HLB.out q hq
        have HBT : Hid (Box d 6 (pks C [] l)) := fun x hx => HX.out x (HTM.out x hx)
        have HFR : Hid (Calls Tryz.prog 24 #[u6] wr fun e w' => ∃ u, e = .returned u ∧ (Mat w'.heap.size 22 3 w' u (diffL (pks C [] l)) ∧ Below wr.heap.size wr w')) := by
          have h1 := HLP.out
          have h2 := HLN2.out
          refine (from_any w1.heap.size d (pks C [] l) u6 wr (HT.out.mat (Nat.le_refl _)) (by rw [HTL.out]; exact h1) (by rw [HTL.out]; omega) (by omega) (fun r hr => (HBT.out r hr).1) (fun r hr z hz => by have := (HBT.out r hr).2 z hz; omega)).mono ?_
          rintro e w' ⟨u, rfl, hf, hb⟩
          exact ⟨u, rfl, hf.rws.mat hb.size, hb⟩
        have HRK : Hid (∀ w' u, Mat w'.heap.size 22 3 w' u (diffL (pks C [] l)) → Calls Tryz.prog 23 #[u] w' fun e w'' => e = .returned (.int .i64 ((pickL d (diffL (pks C [] l))).length : Nat)) ∧ Below w'.heap.size w' w'') := fun w' u hM => by
          have h2 := HLN2.out
          exact rankR_any d 12 w'.heap.size _ u w' (diff_mx12 HBT.out hd1 (by omega)) hM (by rw [diffL_length, HTL.out]; omega)
        clear HT HFS
        go_wp2_with fail
        refine HFR.out.mono ?_
        rintro e w2 ⟨u, rfl, hu⟩
        have HU : Hid (Mat w2.heap.size 22 3 w2 u (diffL (pks C [] l)) ∧ Below wr.heap.size wr w2) := hu
        clear hu
        go_wp2_with fail
        refine (HRK.out w2 u HU.out.1).mono ?_
        rintro e w3 ⟨rfl, hb3⟩
        have HB3 : Hid (Below w.heap.size w w3) := (HBr.out.trans (HU.out.2.mono HBr.out.size)).trans (hb3.mono (Nat.le_trans HBr.out.size HU.out.2.size))
        clear hb3
        go_wp2
        go_ret
        exact ⟨by rw [HDL.out]; rfl, HB3.out⟩

end Go.Proofs.YtkfdpcgmpbopnaaGreatDoor
