import Derived.Test.YtpbahagfhkpfhaaGreatWyA
import Derived.Test.YtpbahagfhkpfhaaGreatOfAll
import Derived.Test.YtpbahagfhkpfhaaGreatRun1
import Derived.Test.YtpbahagfhkpfhaaGreatStepsAll
import Derived.Lib.JoinLaws
/- cone.acrossOf. -/
namespace Go.Proofs.YtpbahagfhkpfhaaGreat
open Go.RowKit
attribute [local go_sem ↓] Go.wp_at_zero Go.wp_at_succ

theorem acr_snoc {rs : List (List Int)} {t : Nat} (h : t < rs.length) (i : Nat) :
    (rs.take (t + 1)).map (fun r => r.getD i 0) = (rs.take t).map (fun r => r.getD i 0) ++ [(rs.getD t []).getD i 0] := by
  rw [List.take_succ_eq_append_getElem h, List.map_append, List.getD_eq_getElem?_getD (l := rs), List.getElem?_eq_getElem h]
  rfl

theorem acrL_at {g : List Int} {rs : List (List Int)} {k : Nat} (h : k < g.length) : (acrL g rs).getD k [] = acrR rs g k := by simp [acrL, h]

set_option maxRecDepth 100000 in
set_option maxHeartbeats 4000000 in
theorem across_any (B : Nat) (rs : List (List Int)) (g : List Int) (v x : Value) (w : World) (hv : Mat B 22 3 w v rs) (hx : Sl B 3 w x (ints g))
    (hr : ∀ r ∈ rs, g.length ≤ r.length ∧ ∀ z ∈ r, z.natAbs ≤ 60) (hg : ∀ z ∈ g, z.natAbs ≤ 60) (hg5 : g.length ≤ 5) (hc4 : rs.length ≤ 1000) :
    Calls Tryz.prog 53 #[v, x] w fun e w' => ∃ f, e = .returned (.slice (some ⟨w.heap.size, 0, none⟩) g.length g.length) ∧ Ac w w.heap.size g.length g.length (acrL g rs) f w' := by
  obtain ⟨i0, hi, hz0, hz1, hz2⟩ := info_parts Tryz.info22
  obtain ⟨i3, hi3, hz30, hz31, hz32⟩ := info_parts Tryz.info3
  obtain ⟨ao, cap, hvv, hlc, hcm⟩ := mat_open hv
  obtain ⟨xo, cxp, hxx, hlx, hcx⟩ := sl_open hx
  subst hvv hxx
  have HV : Hid (Mat B 22 3 w (.slice ao rs.length cap) rs) := hv
  have HX : Hid (Sl B 3 w (.slice xo g.length cxp) (ints g)) := hx
  have HR : Hid (∀ r ∈ rs, g.length ≤ r.length ∧ ∀ z ∈ r, z.natAbs ≤ 60) := hr
  have HG : Hid (∀ z ∈ g, z.natAbs ≤ 60) := hg
  clear hv hx hr hg
  have hmk := run_make_row' (P := Tryz.prog) 24 22 (.slice none 0 0) 24 Tryz.underlying24 Tryz.info22 rfl .i64 .i64 g.length (by omega) (by omega)
  have HA0 : Hid (Ac w w.heap.size g.length 0 (acrL g rs) (fun _ => .slice none 0 0) (w.alloc (.cells (madeCells #[.slice none 0 0] g.length) 22))) := by
    refine ⟨alloc_keep _ _, by omega, ?_, fun j hj => absurd hj (by omega), fun _ _ _ => rfl⟩
    exact World.rowIs_made w (.slice none 0 0) g.length 22
  go_enter Tryz.func53, Tryz.ntmps53
  go_wp2
  go_loopw [15, 6, 7, 9] (fun i _ _ _ wr => ∃ (k : Nat) (f : Nat → Value), k ≤ g.length ∧ i = .int .i64 k ∧ Ac w w.heap.size g.length k (acrL g (rs)) f wr) (fun i _ _ _ _ => g.length - (intOf i).toNat)
  case atStart => exact ⟨0, _, Nat.zero_le _, rfl, HA0.out⟩
  case round =>
    obtain ⟨k, f, hk, rfl, ha⟩ := hrel
    obtain ⟨wa, rfl⟩ : ∃ wa, wa = wr := ⟨wr, rfl⟩
    have HA : Hid (Ac w w.heap.size g.length k (acrL g (rs)) f wa) := ha
    have HBA : Hid (Below w.heap.size w wa) := ha.bel
    clear ha
    by_cases hlt : k < g.length
    · obtain ⟨xb, xoo, xcp, hxs, _, hcell⟩ := sl_cell (HX.out.below HBA.out (Nat.le_refl _)) hlt
      simp only [Value.slice.injEq] at hxs
      obtain ⟨rfl, _, rfl⟩ := hxs
      have hz := HG.out (g.getD k 0) (by simp [hlt])
      have HZ : Hid (g.getD k 0 = g.getD k 0) := rfl
      generalize hgk : g.getD k 0 = gk at *
      have HGK : Hid (g.getD k 0 = gk) := hgk
      clear hgk HZ
      have hI : Ai wa (w.heap.size) g.length k 0 f [] (.slice none 0 0) wa := by
        refine ⟨Chg.refl _ _, ?_, World.ownsRow_nil _ _ _ _, rfl⟩
        have e : (fun j => if j = k then .slice none 0 0 else f j) = f := by
          funext j
          by_cases ej : j = k
          · subst ej; simp [HA.out.free j (Nat.le_refl _) hlt]
          · simp [ej]
        rw [e]
        exact HA.out.row
      have HI : Hid (Ai wa (w.heap.size) g.length k 0 f [] (.slice none 0 0) wa) := hI
      clear hI
      have hkI : (0 : Int) ≤ (k : Int) := by omega
      have hkJ : (k : Int) < (g.length : Int) := by omega
      go_wp2
      go_loopw [22, 9] (fun i _ wq => ∃ (t : Nat) (cur : Value), t ≤ rs.length ∧ i = .int .i64 t ∧ Ai wa (w.heap.size) g.length k t f (((rs).take t).map (fun r => r.getD k 0)) cur wq) (fun i _ _ => rs.length - (intOf i).toNat)
      case atStart => exact ⟨0, _, Nat.zero_le _, rfl, HI.out⟩
      case round =>
        obtain ⟨t, cur, ht, rfl, hi5⟩ := hrel
        obtain ⟨wb, rfl⟩ : ∃ wb, wb = wr := ⟨wr, rfl⟩
        have HAI : Hid (Ai wa (w.heap.size) g.length k t f (((rs).take t).map (fun r => r.getD k 0)) cur wb) := hi5
        have HGW : Hid (w.heap.size < wa.heap.size) := HA.out.lt
        have HBB : Hid (Below w.heap.size w wb) := ⟨hi5.chg.os.trans HBA.out.os, hi5.chg.tape.trans HBA.out.tape, hi5.chg.output.trans HBA.out.output, Nat.le_trans HBA.out.size hi5.chg.size, fun b hb => (hi5.chg.block b (by have := HBA.out.size; omega) (by omega)).trans (HBA.out.block b hb)⟩
        obtain ⟨co, cc, hcur⟩ := owns_form hi5.own
        subst hcur
        have c37 : wb.cell? ⟨w.heap.size, k, none⟩ = some (.slice co t cc) := by
          have := hi5.row.cell (i := k) hlt
          simpa using this
        have f37 : wb.frozen? ⟨w.heap.size, k, none⟩ = false := hi5.row.frozen k
        have HO : Hid (wb.ownsRow wa.heap.size 3 1 (.slice co t cc) t (ints (((rs).take t).map (fun r => r.getD k 0)))) := hi5.own
        have HSZ : Hid (wa.heap.size ≤ wb.heap.size) := hi5.chg.size
        clear hi5
        by_cases htl : t < rs.length
        · obtain ⟨vb, voo, vcp, rv, hvs, _, hvcell, hrv⟩ := mat_cell (HV.out.below HBB.out (Nat.le_refl _)) htl
          simp only [Value.slice.injEq] at hvs
          obtain ⟨rfl, _, rfl⟩ := hvs
          have hrow := HR.out (rs.getD t []) (by simp [htl])
          obtain ⟨rb, roo, rcp, hrs, hrc1, hrcell⟩ := sl_cell hrv (k := k) (by omega)
          subst hrs
          obtain ⟨z, hzz⟩ : ∃ z, z = (rs.getD t []).getD k 0 := ⟨_, rfl⟩
          have HZZ : Hid (z = (rs.getD t []).getD k 0) := hzz
          rw [← hzz] at hrcell
          have hkr : (k : Int) < ((rs.getD t []).length : Int) := by have := hrow.1; omega
          have HSN : Hid (((rs).take (t + 1)).map (fun r => r.getD k 0) = ((rs).take t).map (fun r => r.getD k 0) ++ [z]) := by
            show _ = _
            rw [acr_snoc htl k, hzz]
          generalize (rs.getD t []).length = rl at *
          have c37a : (wb.alloc (.cells #[.int .i64 z] 3)).cell? ⟨w.heap.size, k, none⟩ = some (.slice co t cc) := ((alloc_keep wb _).cell (p := ⟨w.heap.size, k, none⟩) (by have h1 := HGW.out; have h2 := HSZ.out; show w.heap.size < _; omega)).trans c37
          have HPU : Hid (∀ v' w5, w5.ownsRow wa.heap.size 3 1 v' (t + 1) (ints (((rs).take t).map (fun r => r.getD k 0)) ++ [.int .i64 z]) → (wb.drew.alloc (.cells #[.int .i64 z] 3)).grownBy w5 (Value.slice co t cc).ownBlock →
              w5.cell? ⟨w.heap.size, k, none⟩ = some (.slice co t cc) ∧ w5.frozen? ⟨w.heap.size, k, none⟩ = false ∧ Ai wa (w.heap.size) g.length k (t + 1) f (((rs).take (t + 1)).map (fun r => r.getD k 0)) v' (w5.setCell ⟨w.heap.size, k, none⟩ v')) := fun v' w5 ho hg5 => by
            have h0 : Ai wa (w.heap.size) g.length k t f (((rs).take t).map (fun r => r.getD k 0)) (.slice co t cc) wb.drew := ⟨HAI.out.chg.drew, HAI.out.row, HAI.out.own, HAI.out.len⟩
            rw [HSN.out]
            exact h0.push HGW.out hlt ho hg5
          have HNEW : Hid (∀ j u, [Value.int .i64 z][j]? = some u → (wb.drew.alloc (.cells #[.int .i64 z] 3)).cell? ((⟨wb.heap.size, 0, none⟩ : Addr).add j) = some u) := one_new wb.drew _ _
          have HNS : Hid (wa.heap.size ≤ (wb.drew.alloc (.cells #[.int .i64 z] 3)).heap.size) := by
            show _ ≤ _
            have := HSZ.out
            rw [size_alloc]
            show _ ≤ wb.heap.size + 1
            omega
          have htm : t + 1 ≤ maxLen := by unfold maxLen; omega
          have ht4 : t ≤ 1000 := by omega
          have htI0 : (0 : Int) ≤ (t : Int) := by omega
          have htI : (t : Int) < (rs.length : Int) := by omega
          clear hrow hrv hzz
          go_wp2
          go_region_law (refine step_append_own (o := { dst := some 37, op := _, type := _, pos := _, after := _, guard := _ }) (by rfl) _ _ 22 (by rfl) wa.heap.size 3 i3 (.int .i64 0) 1 8 Tryz.underlying22 hi3 hz30 hz31 hz32 rfl (by decide) _ _ _ (by rfl) (HO.out.alloc _) ⟨wb.heap.size, 0, none⟩ 1 1 [.int .i64 z] (by rfl) rfl HNEW.out (one_int _) htm (by omega) HNS.out ?_; intro v' w5 ho hg5; obtain ⟨vo', vc', hv'⟩ := owns_form ho; subst hv'; have FF : Hid _ := HPU.out _ w5 ho hg5; have LS1 := FF.out.1; have LS2 := FF.out.2.1; clear ho hg5)
          all_goals
            have HN : Hid (Ai wa (w.heap.size) g.length k (t + 1) f (((rs).take (t + 1)).map (fun r => r.getD k 0)) (.slice vo' (t + 1) vc') (w5.setCell ⟨w.heap.size, k, none⟩ (.slice vo' (t + 1) vc'))) := FF.out.2.2
            clear FF LS1 LS2 c37 c37a f37
            go_wp2
            go_roundw
            case rel => exact ⟨t + 1, _, by omega, by go_num, HN.out⟩
            case measure => simp [intOf]; omega
        · have hte : t = rs.length := by omega
          subst hte
          clear htl ht
          have hpl : (rs).take rs.length = rs := List.take_length
          have hgz1 : -60 ≤ gk := by omega
          have hgz2 : gk ≤ 60 := by omega
          have hsz : wa.heap.size ≤ wb.heap.size := HSZ.out
          obtain ⟨l, hl⟩ : ∃ l, l = ((rs).take rs.length).map (fun r => r.getD k 0) := ⟨_, rfl⟩
          have HL : Hid (l = (rs).map (fun r => r.getD k 0)) := by rw [hpl] at hl; exact hl
          rw [← hl] at HAI HO
          clear hpl hl
          go_wp2_with (first | (at_builtin; refine wpList_append_own _ rfl _ _ 22 rfl wa.heap.size 3 i3 (.int .i64 0) 1 8 Tryz.underlying22 hi3 hz30 hz31 hz32 rfl (by decide) _ _ _ rfl (HO.out.alloc _) ⟨wb.heap.size, 0, none⟩ 1 1 [.int .i64 (-gk)] rfl rfl (one_new _ _ _) (one_int _) ?c3 ?c4 ?c5 ?_))
          case c3 => unfold maxLen; omega
          case c4 => omega
          case c5 => simp; omega
          intro v' w3 ho hg3 _
          obtain ⟨vo', vc', hv'⟩ := owns_form ho
          subst hv'
          have FF := HAI.out.push HGW.out hlt ho hg3
          have LS1 := FF.1
          have LS2 := FF.2.1
          have HN : Hid (Ac w w.heap.size g.length (k + 1) (acrL g (rs)) (fun j => if j = k then .slice vo' (rs.length + 1) vc' else f j) (w3.setCell ⟨w.heap.size, k, none⟩ (.slice vo' (rs.length + 1) vc'))) :=
            HA.out.next FF.2.2 (by rw [acrL_at hlt, HL.out, acrR, HGK.out])
          clear FF ho hg3
          go_wp2
          go_roundw
          case rel => exact ⟨k + 1, _, by omega, by go_num, HN.out⟩
          case measure => simp [intOf]; omega
    · have hke : k = g.length := by omega
      subst hke
      go_wp2
      go_ret
      exact ⟨f, rfl, HA.out⟩

end Go.Proofs.YtpbahagfhkpfhaaGreat

/- choose.Picked over rows, with a capacity. -/
namespace Go.Proofs.YtpbahagfhkpfhaaGreat
open Go.RowKit

theorem pkd_snoc (P : List (List Int)) (x : List Int) (k : Nat) (h : k < x.length) : pks P [] (x.take (k + 1)) = pks P [] (x.take k) ++ [P.getD (x.getD k 0).toNat []] := by
  rw [take_snoc_int x k h]
  simp [pks]

set_option maxRecDepth 100000 in
set_option maxHeartbeats 800000 in
theorem pickedK_any (B : Nat) (P : List (List Int)) (x : List Int) (v u : Value) (w : World) (hv : Mat B 22 3 w v P) (hu : Sl B 3 w u (ints x)) (hx : ∀ i, i < x.length → 0 ≤ x.getD i 0 ∧ x.getD i 0 < P.length) (hl : x.length ≤ 1000) :
    Calls Tryz.prog 36 #[v, u] w fun e w' => ∃ z, e = .returned z ∧ Rws w.heap.size 22 3 w' z (pks P [] x) ∧ Below w.heap.size w w' := by
  obtain ⟨i0, hi, hz0, hz1, hz2⟩ := info_parts Tryz.info22
  obtain ⟨ao, cap, hvv, hlc, hcm⟩ := mat_open hv
  obtain ⟨bo, cbp, huu, hlb, hcb⟩ := sl_open hu
  subst hvv huu
  have HV : Hid (Mat w.heap.size 22 3 w (.slice ao P.length cap) P) := hv.any (Nat.le_refl _)
  have HU : Hid (Sl B 3 w (.slice bo x.length cbp) (ints x)) := hu
  have HX : Hid (∀ i, i < x.length → 0 ≤ x.getD i 0 ∧ x.getD i 0 < P.length) := hx
  clear hv hu hx
  have hmk := run_make_room (P := Tryz.prog) 24 22 (.slice none 0 0) 24 Tryz.underlying24 Tryz.info22 rfl .i64 .i64 x.length (by omega) (by omega)
  have HO0 : Hid (Rws w.heap.size 22 3 (w.alloc (.cells (madeCells #[.slice none 0 0] x.length) 22)) (.slice (some ⟨w.heap.size, 0, none⟩) 0 x.length) []) :=
    ⟨[], rfl, World.ownsRow_made w _ x.length (Nat.le_refl _) (by unfold maxLen; omega) (by rw [size_madeCells]; omega), fun i hi => absurd hi (by simp)⟩
  have HB0 : Hid (Below w.heap.size w (w.alloc (.cells (madeCells #[.slice none 0 0] x.length) 22))) := alloc_keep _ _
  go_enter Tryz.func36, Tryz.ntmps36
  go_wp2
  go_loopw [5, 13, 7] (fun s i _ wr => ∃ k : Nat, k ≤ x.length ∧ i = .int .i64 k ∧ Rws w.heap.size 22 3 wr s (pks P [] (x.take k)) ∧ Below w.heap.size w wr) (fun _ i _ _ => x.length - (intOf i).toNat)
  case atStart => exact ⟨0, Nat.zero_le _, rfl, HO0.out, HB0.out⟩
  case round =>
    obtain ⟨k, hk, rfl, hr, hb⟩ := hrel
    have HR : Hid (Rws w.heap.size 22 3 wr u5 (pks P [] (x.take k))) := hr
    have HB : Hid (Below w.heap.size w wr) := hb
    have hsz : w.heap.size ≤ wr.heap.size := hb.size
    clear hr hb
    by_cases hlt : k < x.length
    · obtain ⟨b, o, cp, hs, hc1, hcc⟩ := sl_cell (HU.out.below HB.out (Nat.le_refl _)) hlt
      simp only [Value.slice.injEq] at hs
      obtain ⟨rfl, _, rfl⟩ := hs
      obtain ⟨hx0, hx1⟩ := HX.out k hlt
      have HSN : Hid (pks P [] (x.take (k + 1)) = pks P [] (x.take k) ++ [P.getD (x.getD k 0).toNat []]) := pkd_snoc P x k hlt
      have HLN : Hid ((pks P [] (x.take k)).length = k) := by show _ = _; simp [pks]; omega
      obtain ⟨q, hq⟩ : ∃ q : Nat, x.getD k 0 = (q : Int) := ⟨(x.getD k 0).toNat, by omega⟩
      rw [hq] at hcc hx0 hx1 HSN
      rw [show ((q : Int)).toNat = q by omega] at HSN
      clear hq
      have hqP : q < P.length := by omega
      obtain ⟨b2, o2, cp2, r2, hs2, _, hcc2, hr2⟩ := mat_cell (HV.out.below HB.out (Nat.le_refl _)) hqP
      simp only [Value.slice.injEq, true_and] at hs2
      obtain ⟨rfl, rfl⟩ := hs2
      obtain ⟨ro, rc, hrv, _, _⟩ := sl_open hr2
      subst hrv
      have HR2 : Hid (Sl w.heap.size 3 wr (.slice ro (P.getD q []).length rc) (ints (P.getD q []))) := hr2
      clear hr2
      generalize P.getD q [] = y at *
      generalize hyl : y.length = yl at *
      clear hyl
      obtain ⟨vs, g1, g2, g3⟩ := HR.out
      have hlen := HLN.out
      rw [hlen] at g1 g2 g3
      have G1 : Hid (vs.length = k) := g1
      have G2 : Hid (wr.ownsRow w.heap.size 22 1 u5 k vs) := g2
      have G3 : Hid (∀ i, i < k → Sl w.heap.size 3 wr (vs.getD i (.slice none 0 0)) (ints ((pks P [] (x.take k)).getD i []))) := g3
      clear g1 g2 g3 hlen
      go_wp2_with (first | (at_builtin; refine wpList_append_own _ rfl _ _ 24 rfl w.heap.size 22 i0 (.slice none 0 0) 1 24 Tryz.underlying24 hi hz0 hz1 hz2 rfl (by decide) _ _ _ rfl (G2.out.alloc _) ⟨wr.heap.size, 0, none⟩ 1 1 [.slice ro yl rc] rfl rfl (one_new _ _ _) (one_slice _ _ _) ?d3 ?d4 ?d5 ?_))
      case d3 => unfold maxLen; omega
      case d4 => omega
      case d5 => simp; omega
      intro v' w3 ho hg _
      have R1 : Hid (Rws w.heap.size 22 3 w3 v' (pks P [] (x.take (k + 1)))) := by
        have hp := Rws.push (e2 := 22) (e1 := 3) (m := pks P [] (x.take k)) (u := .slice ro yl rc) (zs := y) (by decide) (by rw [HLN.out]; exact G1.out) (by rw [HLN.out]; exact G2.out.alloc _)
          (fun i hi => (G3.out i (by rw [HLN.out] at hi; exact hi)).alloc _) (HR2.out.alloc _) (by rw [HLN.out]; exact ho) hg
        rw [← HSN.out] at hp
        exact hp
      have R2 : Hid (Below w.heap.size w w3) := (HB.out.alloc hsz _).grown hg (by simp; omega) (fun x hx => (G2.out.lt x hx).1)
      clear ho hg
      go_wp2
      go_roundw
      case rel => exact ⟨k + 1, by omega, by go_num, R1.out, R2.out⟩
      case measure => simp [intOf]; omega
    · have hke : x.take k = x := List.take_of_length_le (by omega)
      have HR' : Hid (Rws w.heap.size 22 3 wr u5 (pks P [] x)) := by have := HR.out; rw [hke] at this; exact this
      clear HR
      go_wp2
      go_ret
      exact ⟨_, rfl, HR'.out, HB.out⟩
end Go.Proofs.YtpbahagfhkpfhaaGreat

/- cone.wayBy, walked. -/
namespace Go.Proofs.YtpbahagfhkpfhaaGreat
open Go.RowKit
attribute [local go_sem ↓] Go.wp_at_zero Go.wp_at_succ

def isC (w : World) (b : Nat) : Prop := ∃ cur t, w.heap[b]? = some (.cells cur t (0, 0))

theorem isC.lt {w : World} {b : Nat} (h : isC w b) : b < w.heap.size := by
  obtain ⟨c, t, h⟩ := h
  exact (Array.getElem?_eq_some_iff.1 h).1

theorem isC.keep {w w' : World} {b : Nat} (h : isC w b) (hk : w'.heap[b]? = w.heap[b]?) : isC w' b := by
  obtain ⟨c, t, h⟩ := h
  exact ⟨c, t, hk.trans h⟩

/-- What a way is told as. -/
def WayV (N : Nat) (w : World) (tv u : Value) (c g : List Int) (rs : List (List Int)) : Prop :=
  (wayB g rs = true ∧ ∃ mo mc, tv = .agg #[u, .slice mo c.length mc, .int .i64 ((wayN g rs).getD c.length 0)] ∧ Sl 0 3 w (.slice mo c.length mc) (ints ((wayN g rs).take c.length)) ∧ ∀ a, mo = some a → N ≤ a.block ∧ isC w a.block) ∨
  (wayB g rs = false ∧ tv = .agg #[.slice none 0 0, .slice none 0 0, .int .i64 0])

theorem set3_block {w : World} {R k : Nat} (a b c : Value) (h : k ≠ R) : (((w.setCell ⟨R, 0, none⟩ a).setCell ⟨R, 1, none⟩ b).setCell ⟨R, 2, none⟩ c).drew.heap[k]? = w.heap[k]? := by
  show (((w.setCell ⟨R, 0, none⟩ a).setCell ⟨R, 1, none⟩ b).setCell ⟨R, 2, none⟩ c).heap[k]? = w.heap[k]?
  rw [Below.heap_setCell _ _ _ _ h, Below.heap_setCell _ _ _ _ h, Below.heap_setCell _ _ _ _ h]

set_option maxRecDepth 100000 in
set_option maxHeartbeats 4000000 in
theorem wayBy_any (B : Nat) (rows : List (List Int)) (c g : List Int) (v u x : Value) (w : World) (hv : Mat B 22 3 w v rows) (hu : Sl B 3 w u (ints c)) (hx : Sl B 3 w x (ints g))
    (hc : ∀ t, t < c.length → 0 ≤ c.getD t 0 ∧ c.getD t 0 < rows.length) (hr : ∀ r ∈ rows, g.length ≤ r.length ∧ ∀ z ∈ r, z.natAbs ≤ 60) (hg : ∀ z ∈ g, z.natAbs ≤ 60) (hg1 : 1 ≤ g.length) (hg5 : g.length ≤ 5) (hc4 : c.length ≤ 4) :
    Calls Tryz.prog 79 #[v, u, x] w fun e w' => ∃ tv, e = .returned (.tuple #[tv, .bool (wayB g (pks rows [] c))]) ∧ WayV w.heap.size w' tv u c g (pks rows [] c) ∧ Below w.heap.size w w' := by
  obtain ⟨ao, cap, hvv, hlc, hcm⟩ := mat_open hv
  obtain ⟨bo, cbp, huu, hlb, hcb⟩ := sl_open hu
  obtain ⟨xo, cxp, hxx, hlx, hcx⟩ := sl_open hx
  subst hvv huu hxx
  have HC : Hid (∀ t, t < c.length → 0 ≤ c.getD t 0 ∧ c.getD t 0 < rows.length) := hc
  have HR : Hid (∀ r ∈ rows, g.length ≤ r.length ∧ ∀ z ∈ r, z.natAbs ≤ 60) := hr
  have HG : Hid (∀ z ∈ g, z.natAbs ≤ 60) := hg
  obtain ⟨W0, hW0⟩ : ∃ W0, W0 = w.alloc (.cells #[.slice none 0 0, .slice none 0 0, .int .i64 0] 52) := ⟨_, rfl⟩
  have hs0 : W0.heap.size = w.heap.size + 1 := by rw [hW0]; simp
  have HB0 : Hid (Below w.heap.size w W0) := by rw [hW0]; exact alloc_keep _ _
  have HK0 : Hid (W0.heap[w.heap.size]? = some (.cells #[.slice none 0 0, .slice none 0 0, .int .i64 0] 52 (0, 0))) := by rw [hW0]; exact alloc_new _ _
  have hpl : (pks rows [] c).length = c.length := by simp [pks]
  have hin : ∀ r ∈ pks rows [] c, g.length ≤ r.length ∧ ∀ z ∈ r, z.natAbs ≤ 60 := fun r hr => by
    simp only [pks, List.mem_map] at hr
    obtain ⟨i, hi, rfl⟩ := hr
    obtain ⟨t, ht, rfl⟩ := List.getElem_of_mem hi
    have h1 := HC.out t ht
    rw [List.getD_eq_getElem?_getD, List.getElem?_eq_getElem ht] at h1
    simp only [Option.getD_some] at h1
    exact HR.out _ (by rw [List.getD_eq_getElem?_getD, List.getElem?_eq_getElem (by omega)]; exact List.getElem_mem _)
  have HPK : Hid (Calls Tryz.prog 36 #[.slice ao rows.length cap, .slice bo c.length cbp] W0 fun e w' => ∃ po pc, e = .returned (.slice po c.length pc) ∧ Mat W0.heap.size 22 3 w' (.slice po c.length pc) (pks rows [] c) ∧ Below W0.heap.size W0 w') := by
    refine (pickedK_any B rows c _ _ W0 (hv.below HB0.out (Nat.le_refl _)) (hu.below HB0.out (Nat.le_refl _)) hc (by omega)).mono ?_
    rintro e w' ⟨z, rfl, h1, h2⟩
    have hm := h1.mat (B' := W0.heap.size) (Nat.le_refl _)
    obtain ⟨po, pc, hz, _, _⟩ := mat_open hm
    rw [hpl] at hz
    subst hz
    exact ⟨po, pc, rfl, hm, h2⟩
  have HAC : Hid (∀ w1 po pc, Mat W0.heap.size 22 3 w1 (.slice po c.length pc) (pks rows [] c) → Below W0.heap.size W0 w1 → Calls Tryz.prog 53 #[.slice po c.length pc, .slice xo g.length cxp] w1 fun e w' => ∃ f, e = .returned (.slice (some ⟨w1.heap.size, 0, none⟩) g.length g.length) ∧ Ac w1 w1.heap.size g.length g.length (acrL g (pks rows [] c)) f w') := fun w1 po pc h1 h2 =>
    across_any (max B W0.heap.size) (pks rows [] c) g _ _ w1 (h1.more (Nat.le_max_right _ _)) (((hx.below HB0.out (Nat.le_refl _)).below h2 (Nat.le_refl _)).more (Nat.le_max_left _ _)) hin hg hg5 (by omega)
  have HIN : Hid (∀ r ∈ pks rows [] c, g.length ≤ r.length ∧ ∀ z ∈ r, z.natAbs ≤ 60) := hin
  have HW0 : Hid (W0 = w.alloc (.cells #[.slice none 0 0, .slice none 0 0, .int .i64 0] 52)) := hW0
  have HPL : Hid ((pks rows [] c).length = c.length) := hpl
  clear hW0 hv hu hx hc hr hg hin hpl
  go_enter Tryz.func79, Tryz.ntmps79
  go_wp2_with fail
  rw [← HW0.out]
  refine HPK.out.mono ?_
  rintro e w1 ⟨po, pc, rfl, hm1, hb1⟩
  have HB1 : Hid (Below W0.heap.size W0 w1) := hb1
  have HAX : Hid (Calls Tryz.prog 53 #[.slice po c.length pc, .slice xo g.length cxp] w1 fun e w' => ∃ f, e = .returned (.slice (some ⟨w1.heap.size, 0, none⟩) g.length g.length) ∧ Ac w1 w1.heap.size g.length g.length (acrL g (pks rows [] c)) f w') := HAC.out w1 po pc hm1 hb1
  clear hm1 hb1 HPK HAC
  go_wp2_with fail
  refine HAX.out.mono ?_
  rintro e wa ⟨f, rfl, ha⟩
  have HA : Hid (Ac w1 w1.heap.size g.length g.length (acrL g (pks rows [] c)) f wa) := ha
  have HBA : Hid (Below w.heap.size w wa) := HB0.out.trans ((HB1.out.mono (by omega)).trans (ha.bel.mono (by have := HB1.out.size; omega)))
  have HS1 : Hid (w.heap.size + 1 ≤ w1.heap.size) := by have := HB1.out.size; show _ ≤ _; omega
  clear ha HAX
  have hpl : (pks rows [] c).length = c.length := HPL.out
  have HMX : Hid (Mx (c.length + 1) 60 (acrL g (pks rows [] c))) := by
    rw [← hpl]
    exact acrL_mx (fun r hr z hz => (HIN.out r hr).2 z hz) HG.out (by omega)
  have HML : Hid ((acrL g (pks rows [] c)).length = g.length) := by show _ = _; simp [acrL]
  have HNC : Hid (Calls Tryz.prog 52 #[.slice (some ⟨w1.heap.size, 0, none⟩) g.length g.length, .int .i64 ((c.length : Int) + 1)] wa fun e w' => ∃ x, e = .returned (.tuple #[x, .bool (normB (c.length + 1) (acrL g (pks rows [] c)))]) ∧ w'.ownsRow wa.heap.size 3 1 x (wayN g (pks rows [] c)).length (ints (wayN g (pks rows [] c))) ∧ Below wa.heap.size wa w') := by
    have h := normalP_own 0 (c.length + 1) (acrL g (pks rows [] c)) _ wa HMX.out (HA.out.mat (B := 0) hg5) (by rw [HML.out]; omega) (by rw [HML.out]; omega)
    unfold wayN
    rw [hpl]
    exact h
  clear hpl
  have hwB : Hid (wayB g (pks rows [] c) = (normB (c.length + 1) (acrL g (pks rows [] c)) && !(wayN g (pks rows [] c)).any lowB)) := by
    show _ = _
    unfold wayB
    rw [HPL.out]
  have HWL : Hid (normB (c.length + 1) (acrL g (pks rows [] c)) = true → (wayN g (pks rows [] c)).length = c.length + 1) := fun h => by
    unfold wayN
    rw [HPL.out]
    unfold normL
    rw [if_pos (by simpa [normB] using h), upr_len, low_len]
    simp [muL]
  have hc1 : (c.length : Int) + 1 ≤ 5 := by omega
  go_wp2_with fail
  refine HNC.out.mono ?_
  rintro e w2 ⟨tx, rfl, hown, hb2⟩
  obtain ⟨to, tc, htv⟩ := owns_form hown
  subst htv
  have HT : Hid (Sl 0 3 w2 (.slice to (wayN g (pks rows [] c)).length tc) (ints (wayN g (pks rows [] c)))) := Sl.own hown
  have HTB : Hid (∀ a, to = some a → w.heap.size + 1 ≤ a.block ∧ isC w2 a.block) := fun a ha => by
    have h0 := HA.out.lt
    rcases hown.2 with ⟨h1, h2⟩ | ⟨g', cap', cur', h1, h2, h3, _⟩
    · simp only [Value.slice.injEq] at h1; rw [h1.1] at ha; cases ha
    · simp only [Value.slice.injEq] at h1; rw [h1.1] at ha; cases ha; exact ⟨by have := HS1.out; show w.heap.size + 1 ≤ g'; omega, _, _, h3⟩
  have HB2 : Hid (Below w.heap.size w w2) := HBA.out.trans (hb2.mono HBA.out.size)
  have HK2 : Hid (w2.heap[w.heap.size]? = some (.cells #[.slice none 0 0, .slice none 0 0, .int .i64 0] 52 (0, 0))) :=
    (hb2.block _ (by have := HA.out.lt; have := HS1.out; omega)).trans ((HA.out.bel.block _ (by have := HS1.out; omega)).trans ((HB1.out.block _ (by omega)).trans HK0.out))
  obtain ⟨nl, hnl⟩ : ∃ nl, nl = wayN g (pks rows [] c) := ⟨_, rfl⟩
  have HNL : Hid (nl = wayN g (pks rows [] c)) := hnl
  rw [← hnl] at HT ⊢
  rw [← hnl] at hwB HWL
  obtain ⟨nb, hnb⟩ : ∃ nb, nb = normB (c.length + 1) (acrL g (pks rows [] c)) := ⟨_, rfl⟩
  rw [← hnb] at hwB HWL ⊢
  clear hown hb2 hnl HNC hnb
  have k0 : w2.cell? ⟨w.heap.size, 0, none⟩ = some (.slice none 0 0) := by simp [World.cell?, HK2.out]
  have k1 : w2.cell? ⟨w.heap.size, 1, none⟩ = some (.slice none 0 0) := by simp [World.cell?, HK2.out]
  have k2 : w2.cell? ⟨w.heap.size, 2, none⟩ = some (.int .i64 0) := by simp [World.cell?, HK2.out]
  have f0 : w2.frozen? ⟨w.heap.size, 0, none⟩ = false := by simp [World.frozen?, HK2.out]
  have f1 : w2.frozen? ⟨w.heap.size, 1, none⟩ = false := by simp [World.frozen?, HK2.out]
  have f2 : w2.frozen? ⟨w.heap.size, 2, none⟩ = false := by simp [World.frozen?, HK2.out]
  have HBF : Hid (∀ a b d : Value, Below w.heap.size w (((w2.setCell ⟨w.heap.size, 0, none⟩ a).setCell ⟨w.heap.size, 1, none⟩ b).setCell ⟨w.heap.size, 2, none⟩ d)) := fun a b d =>
    ((HB2.out.setCell (p := ⟨w.heap.size, 0, none⟩) (Nat.le_refl _) _).setCell (p := ⟨w.heap.size, 1, none⟩) (Nat.le_refl _) _).setCell (p := ⟨w.heap.size, 2, none⟩) (Nat.le_refl _) _
  cases nb with
  | false =>
    have HWF : Hid (wayB g (pks rows [] c) = false) := by show _ = _; rw [hwB.out]; rfl
    go_wp2
    refine bodyPost_ret (v := .tuple #[.agg #[.slice none 0 0, .slice none 0 0, .int .i64 0], .bool false]) (by simp [results, Tryz.results79, go_sem, *]) rfl ?_
    exact ⟨_, by rw [HWF.out], .inr ⟨HWF.out, rfl⟩, HBF.out _ _ _⟩
  | true =>
    have hnl := HWL.out rfl
    obtain ⟨tb, too, tcp, hts, htc, htcell⟩ := sl_cell HT.out (k := c.length) (by omega)
    simp only [Value.slice.injEq] at hts
    obtain ⟨rfl, _, rfl⟩ := hts
    have HCF : Hid (Calls Tryz.prog 54 #[.slice (some ⟨tb, too, none⟩) nl.length tc] w2 fun e w' => ∃ mm : Int, e = .returned (.int .i64 mm) ∧ decide (mm ≤ 0) = nl.any lowB ∧ w' = w2) := minS_any 0 nl _ w2 HT.out (by omega)
    have HCT : Hid (Sl 0 3 w2 (.slice (some ⟨tb, too, none⟩) c.length c.length) (ints (nl.take c.length))) := Sl.cut HT.out (by omega)
    obtain ⟨ab, hab⟩ : ∃ ab, ab = nl.any lowB := ⟨_, rfl⟩
    rw [← hab] at hwB HCF
    obtain ⟨ul, hul⟩ : ∃ ul, ul = nl.getD c.length 0 := ⟨_, rfl⟩
    have HUL : Hid (ul = (wayN g (pks rows [] c)).getD c.length 0) := by rw [← HNL.out]; exact hul
    rw [← hul] at htcell
    have HLT : Hid (nl.take c.length = (wayN g (pks rows [] c)).take c.length) := by show _ = _; rw [← HNL.out]
    have hcI1 : (c.length : Int) ≤ (tc : Int) := by omega
    rw [hnl]
    rw [hnl] at HCF
    clear hab hul HT hnl
    cases ab with
    | true =>
      have HWF : Hid (wayB g (pks rows [] c) = false) := by show _ = _; rw [hwB.out]; rfl
      go_wp2_with (go_at_call 54; refine HCF.out.mono ?_; rintro e w' ⟨mm, rfl, hmm, rfl⟩)
      refine bodyPost_ret (v := .tuple #[.agg #[.slice none 0 0, .slice none 0 0, .int .i64 0], .bool false]) (by simp [results, Tryz.results79, go_sem, *]) rfl ?_
      exact ⟨_, by rw [HWF.out], .inr ⟨HWF.out, rfl⟩, HBF.out _ _ _⟩
    | false =>
      have HWT : Hid (wayB g (pks rows [] c) = true) := by show _ = _; rw [hwB.out]; rfl
      have hcI0 : (0 : Int) ≤ (c.length : Int) := by omega
      have hcI2 : (c.length : Int) < ((c.length + 1 : Nat) : Int) := by omega
      go_wp2_with (go_at_call 54; refine HCF.out.mono ?_; rintro e w' ⟨mm, rfl, hmm, rfl⟩)
      go_region
      have HFN : Hid (Sl 0 3 (((w'.setCell ⟨w.heap.size, 0, none⟩ (.slice bo c.length cbp)).setCell ⟨w.heap.size, 1, none⟩ (.slice (some ⟨tb, too, none⟩) c.length c.length)).setCell ⟨w.heap.size, 2, none⟩ (.int .i64 ul)).drew (.slice (some ⟨tb, too, none⟩) c.length c.length) (ints ((wayN g (pks rows [] c)).take c.length))) := by
        rw [← HLT.out]
        exact sl_set3 HCT.out HK2.out (by decide) _ _ _
      go_wp2
      refine bodyPost_ret (v := .tuple #[.agg #[.slice bo c.length cbp, .slice (some ⟨tb, too, none⟩) c.length c.length, .int .i64 ul], .bool true]) (by simp [results, Tryz.results79, go_sem, *]) rfl ?_
      exact ⟨_, by rw [HWT.out], .inl ⟨HWT.out, _, _, by rw [← HUL.out], HFN.out, fun a ha => ⟨Nat.le_of_succ_le (HTB.out a ha).1, (HTB.out a ha).2.keep (set3_block _ _ _ (by have := (HTB.out a ha).1; omega))⟩⟩, (HBF.out _ _ _).drew⟩

end Go.Proofs.YtpbahagfhkpfhaaGreat

/- cone.Ways: all ways, one after another. -/
namespace Go.Proofs.YtpbahagfhkpfhaaGreat
open Go.RowKit Go.Shelf
attribute [local go_sem] Oper.semAt_some

def waysTo (rows : List (List Int)) (g : List Int) (k : Nat) : List (List Int) :=
  (List.range k).flatMap fun m => (ext rows.length m 0).filter fun c => wayB g (pks rows [] c)

/-- The numbers of rows by which there is a way, in order. -/
def waysL (rows : List (List Int)) (g : List Int) : List (List Int) := waysTo rows g (min g.length rows.length + 1)

theorem waysTo_succ (rows : List (List Int)) (g : List Int) (k : Nat) : waysTo rows g (k + 1) = waysTo rows g k ++ (ext rows.length k 0).filter fun c => wayB g (pks rows [] c) := by
  simp [waysTo, List.range_succ]

theorem waysTo_pre (rows : List (List Int)) (g : List Int) {k m : Nat} (h : k ≤ m) : waysTo rows g k <+: waysTo rows g m := by
  induction m with
  | zero => have : k = 0 := by omega
            subst this; exact List.prefix_refl _
  | succ m ih =>
    by_cases e : k = m + 1
    · subst e; exact List.prefix_refl _
    · exact (ih (by omega)).trans (by rw [waysTo_succ]; exact List.prefix_append _ _)

theorem filter_pre {α : Type} {p : α → Bool} {a b : List α} (h : a <+: b) : a.filter p <+: b.filter p := by
  obtain ⟨t, rfl⟩ := h
  rw [List.filter_append]
  exact List.prefix_append _ _

/-- A way, handed over. -/
def HandW (rows : List (List Int)) (g : List Int) (W : World) (S : Nat → Prop) (c : List Int) (vs : Array Value) : Prop :=
  ∃ co cc mo mc, vs = #[.agg #[.slice co c.length cc, .slice mo c.length mc, .int .i64 ((wayN g (pks rows [] c)).getD c.length 0)]] ∧ wayB g (pks rows [] c) = true ∧ Sl 0 3 W (.slice co c.length cc) (ints c) ∧ Sl 0 3 W (.slice mo c.length mc) (ints ((wayN g (pks rows [] c)).take c.length)) ∧
    (∀ a, co = some a → ¬ S a.block ∧ isC W a.block) ∧ (∀ a, mo = some a → ¬ S a.block ∧ isC W a.block) ∧ ∀ b, S b → b < W.heap.size

/-- What holds when the choices of fewer than k have been gone through. -/
structure WyK (rows : List (List Int)) (g : List Int) (T : Nat → Prop) (gb rb D0 : Nat) (W0 : World) (J : (Nat → Prop) → List (List Int) → World → Prop) (k : Nat) (rs : List Nat) (wr : World) : Prop where
  nd : rs.Nodup
  mark : ∀ r ∈ rs, wr.heap[r]? = some (.deferred (some []))
  kp : Kpt (fun b => b = gb ∨ b = rb ∨ b = D0 ∨ T b) W0 wr
  j : J (fun b => b = gb ∨ b = rb ∨ b = D0 ∨ b ∈ rs) (waysTo rows g k) wr

/-- .. and, of those of k, some (in world WN the walk over them began). -/
structure WyI (rows : List (List Int)) (g : List Int) (T : Nat → Prop) (gb rb D0 : Nat) (WN : World) (J : (Nat → Prop) → List (List Int) → World → Prop) (rs : List Nat) (N : Nat) (S : Nat → Prop) (q : List (List Int)) (W : World) : Prop where
  sn : ∀ b, S b → N ≤ b
  kp : Kpt (fun b => b < N ∧ (b = gb ∨ b = rb ∨ b = D0 ∨ T b ∨ b ∈ rs)) WN W
  j : J (fun b => S b ∨ b = gb ∨ b = rb ∨ b = D0 ∨ b ∈ rs) q W
  sz : N ≤ W.heap.size

theorem WyI.stab {rows : List (List Int)} {g : List Int} {T : Nat → Prop} {gb rb D0 : Nat} {WN : World} {J : (Nat → Prop) → List (List Int) → World → Prop} {rs : List Nat} {N : Nat} {S S' : Nat → Prop} {q : List (List Int)} {W W' : World} (hst : Stab J)
    (h : WyI rows g T gb rb D0 WN J rs N S q W) (hc : Chg S W W') (hs : ∀ b, S' b → S b ∨ W.heap.size ≤ b) : WyI rows g T gb rb D0 WN J rs N S' q W' := by
  have h0 := h.sz
  refine ⟨fun b hb => ?_, h.kp.trans (Kpt.of_chg hc fun i _ hi hsi => ?_), hst _ _ q W W' h.j (hc.mono fun i _ hi => .inl hi) (fun b hb => ?_), Nat.le_trans h0 hc.size⟩
  · rcases hs b hb with h1 | h1
    · exact h.sn b h1
    · omega
  · have := h.sn i hsi
    have := hi.1
    omega
  · rcases hb with hb | hb
    · rcases hs b hb with h1 | h1
      · exact .inl (.inl h1)
      · exact .inr h1
    · exact .inl (.inr hb)

theorem hand_below (N0 : Nat) (W : World) (S : Nat → Prop) (x : List Int) (vs : Array Value) (W' : World) (h : Hand N0 W S x vs) (hb : Below W.heap.size W W') : Hand N0 W' S x vs := by
  obtain ⟨v, B0, h1, h2, h3, h4, h5⟩ := h
  exact ⟨v, B0, h1, owns_below h2 hb (Nat.le_refl _), h3, h4, Nat.le_trans h5 hb.size⟩

theorem hand_put (N0 : Nat) (W : World) (S : Nat → Prop) (x : List Int) (vs : Array Value) (l : Nat) (r : Loop) (o : Obj) (h : Hand N0 W S x vs) (hl : W.heap[l]? = some (.loop r)) : Hand N0 (W.putObj l o) S x vs := by
  obtain ⟨v, B0, h1, h2, h3, h4, h5⟩ := h
  exact ⟨v, B0, h1, ownsRow_putObj h2 _ hl rfl, h3, h4, by simpa using h5⟩

/-- A row of one's own does not lie where there are no cells. -/
theorem own_off {W : World} {B0 n : Nat} {vo : Option Addr} {vc b : Nat} {xs : List Value} {o : Obj} (h : W.ownsRow B0 3 1 (.slice vo n vc) n xs) (hb : W.heap[b]? = some o) (ho : o.isCells = false) : ∀ a, vo = some a → B0 ≤ a.block ∧ a.block ≠ b ∧ isC W a.block := by
  intro a ha
  rcases h.2 with ⟨h1, _⟩ | ⟨g', cap', cur', h1, h2, h3, _⟩
  · simp only [Value.slice.injEq] at h1; rw [h1.1] at ha; cases ha
  · simp only [Value.slice.injEq] at h1
    rw [h1.1] at ha
    cases ha
    refine ⟨h2, fun e => ?_, _, _, h3⟩
    rw [← e, h3] at hb
    cases hb
    simp [Obj.isCells] at ho

set_option maxRecDepth 100000 in
set_option maxHeartbeats 8000000 in
theorem ways_seq (B gb rb : Nat) (rows : List (List Int)) (g : List Int) (ro go : Option Addr) (rc gc : Nat) (T : Nat → Prop) (w0 : World)
    (hcg : w0.cell? ⟨gb, 0, none⟩ = some (.slice go g.length gc)) (hcr : w0.cell? ⟨rb, 0, none⟩ = some (.slice ro rows.length rc))
    (hrows : ∀ W, Kpt T w0 W → Mat B 22 3 W (.slice ro rows.length rc) rows) (hgoal : ∀ W, Kpt T w0 W → Sl B 3 W (.slice go g.length gc) (ints g)) (hT : ∀ b, T b → b < w0.heap.size)
    (hr : ∀ r ∈ rows, g.length ≤ r.length ∧ ∀ z ∈ r, z.natAbs ≤ 60) (hg : ∀ z ∈ g, z.natAbs ≤ 60) (hg1 : 1 ≤ g.length) (hg4 : g.length ≤ 4) (hrl : rows.length ≤ 1000) :
    SeqS Tryz.prog 78 #[.pointer (some ⟨gb, 0, none⟩), .pointer (some ⟨rb, 0, none⟩)] (HandW rows g) (waysL rows g) T (fun b => b = gb ∨ b = rb) w0 := by
  intro l J Jx W hW hst hstx hY hJ
  have hgl := lt_cell0 hcg
  have hrl0 := lt_cell0 hcr
  have c1 : W.cell? ⟨gb, 0, none⟩ = some (.slice go g.length gc) := (hW.cell (p := ⟨gb, 0, none⟩) hgl).trans hcg
  have c2 : W.cell? ⟨rb, 0, none⟩ = some (.slice ro rows.length rc) := (hW.cell (p := ⟨rb, 0, none⟩) hrl0).trans hcr
  obtain ⟨W0, hW0⟩ : ∃ W0, W0 = W.alloc (.cells #[.func (.yield l) #[] #[]] 93) := ⟨_, rfl⟩
  have hb0 : Below W.heap.size W W0 := by rw [hW0]; exact alloc_keep _ _
  have hs0 : W0.heap.size = W.heap.size + 1 := by rw [hW0]; exact size_alloc _ _
  have c1a : W0.cell? ⟨gb, 0, none⟩ = some (.slice go g.length gc) := (hb0.cell (p := ⟨gb, 0, none⟩) (lt_cell0 c1)).trans c1
  have c2a : W0.cell? ⟨rb, 0, none⟩ = some (.slice ro rows.length rc) := (hb0.cell (p := ⟨rb, 0, none⟩) (lt_cell0 c2)).trans c2
  have c3a : W0.cell? ⟨W.heap.size, 0, none⟩ = some (.func (.yield l) #[] #[]) := by rw [hW0]; exact cell_of (alloc_new _ _)
  have hwsz := hW.size
  obtain ⟨D0, hD0⟩ : ∃ D0, D0 = W.heap.size := ⟨_, rfl⟩
  have HGB : Hid (gb < W0.heap.size ∧ rb < W0.heap.size ∧ D0 < W0.heap.size ∧ ∀ b, T b → b < W0.heap.size) := ⟨by omega, by omega, by omega, fun b hb => by have := hT b hb; omega⟩
  have HKT : Hid (∀ W', Kpt T W0 W' → Kpt T w0 W') := fun W' hk => ⟨by have := hk.size; omega, fun b hb ht => (hk.block b (by omega) ht).trans ((hb0.block b (by omega)).trans (hW.block b hb))⟩
  have HK0 : Hid (WyK rows g T gb rb D0 W0 J 0 [] W0) := by
    refine ⟨List.nodup_nil, fun r hr => absurd hr (by simp), Kpt.refl _ _, hst _ _ [] W W0 hJ (Chg.of_below hb0 (Nat.le_refl _)) (fun b hb => ?_)⟩
    rcases hb with h | h | h | h
    · exact .inl (.inl h)
    · exact .inl (.inr h)
    · exact .inr (by omega)
    · exact absurd h (by simp)
  have HCS : Hid (W0.cell? ⟨gb, 0, none⟩ = some (.slice go g.length gc) ∧ W0.cell? ⟨rb, 0, none⟩ = some (.slice ro rows.length rc) ∧ W0.cell? ⟨D0, 0, none⟩ = some (.func (.yield l) #[] #[])) := ⟨c1a, c2a, by rw [hD0]; exact c3a⟩
  have HST : Hid (Stab J) := hst
  have HSX : Hid (Stab Jx) := hstx
  have HY : Hid (∀ m S pre x vs W1, J S pre W1 → (pre ++ [x]) <+: waysL rows g → HandW rows g W1 S x vs → YieldAt Fence.wide m Tryz.prog l vs W1 fun e W' => Kpt (fun b => S b ∨ T b) W1 W' ∧
      ((e = .returned (.bool true) ∧ J S (pre ++ [x]) W') ∨ (e = .returned (.bool false) ∧ Jx S (pre ++ [x]) W'))) := hY
  have HRW : Hid (∀ W, Kpt T w0 W → Mat B 22 3 W (.slice ro rows.length rc) rows) := hrows
  have HGO : Hid (∀ W, Kpt T w0 W → Sl B 3 W (.slice go g.length gc) (ints g)) := hgoal
  have HR : Hid (∀ r ∈ rows, g.length ≤ r.length ∧ ∀ z ∈ r, z.natAbs ≤ 60) := hr
  have HG : Hid (∀ z ∈ g, z.natAbs ≤ 60) := hg
  have HW0 : Hid (W0 = W.alloc (.cells #[.func (.yield l) #[] #[]] 93)) := hW0
  have HD0 : Hid (D0 = W.heap.size) := hD0
  rw [hW0] at c1a c2a c3a
  clear hst hstx hY hJ hrows hgoal hr hg hW0 hb0 hs0 hW hcg hcr hgl hrl0 hT c3a hwsz hD0 c1 c2
  refine callsIn_of_wp_marks Tryz.func78 rfl trivial ?_ rfl
  simp only [Tryz.ntmps78, List.size_toArray, List.length_cons, List.length_nil, Nat.reduceAdd, Nat.reduceSub, Array.replicate_succ, Array.replicate_zero, List.push_toArray, List.append_toArray, List.nil_append, List.cons_append]
  gi_wp2
  case inr =>
    have Hg.length : Hid (g.length = min g.length rows.length) := by show _ = _; omega
    have hg.length4 : g.length ≤ 4 := by omega
    clear c1a c2a
    rw [← HW0.out, ← HD0.out]
    refine wpIn_loop (fun a' wr => ∃ (k : Nat) (rs : List Nat) (u4 u15 u16 u17 u18 u19 u20 u36 : Value), k ≤ g.length + 1 ∧ WyK rows g T gb rb D0 W0 J k rs wr ∧
      a' = { tmps := #[.func (.yield l) #[] #[], .pointer (some ⟨gb, 0, none⟩), .pointer (some ⟨rb, 0, none⟩), .pointer (some ⟨D0, 0, none⟩), u4, undef, undef, undef, .slice go g.length gc, .int .i64 g.length, .slice ro rows.length rc, .int .i64 rows.length, .int .i64 g.length, .int .i64 ((g.length : Int) + 1), .int .i64 k, u15, u16, u17, u18, u19, u20, undef, undef, undef, undef, undef, undef, undef, undef, undef, undef, undef, undef, undef, undef, undef, u36], defers := mks rs }) (fun a' _ => g.length + 1 - (intOf (a'.tmps.getD 14 undef)).toNat) ?_ ?_
    · exact ⟨0, [], _, _, _, _, _, _, _, _, Nat.zero_le _, HK0.out, rfl⟩
    rintro _ wr ⟨k, rs, u4, u15, u16, u17, u18, u19, u20, u36, hk, hwk, rfl⟩
    have HWK : Hid (WyK rows g T gb rb D0 W0 J k rs wr) := hwk
    have d1 : wr.cell? ⟨gb, 0, none⟩ = some (.slice go g.length gc) := (World.cell?_of_block (w := W0) (hwk.kp.block gb HGB.out.1 (.inl rfl))).trans HCS.out.1
    have d2 : wr.cell? ⟨rb, 0, none⟩ = some (.slice ro rows.length rc) := (World.cell?_of_block (w := W0) (hwk.kp.block rb HGB.out.2.1 (.inr (.inl rfl)))).trans HCS.out.2.1
    clear hwk
    by_cases hlt : k < g.length + 1
    · have hkI : (k : Int) < (g.length : Int) + 1 := by omega
      gi_wp2_with (refine ⟨trivial, rfl, ?_⟩; gi_at_call 34; refine (callsIn_wide.2 (of_any _ _ _)).mono ?_; rintro e w' ⟨rfl, rfl⟩)
      obtain ⟨WN, hWN⟩ : ∃ WN, WN = (wr.alloc (.cells #[.int .i64 rows.length] 3)).alloc (.cells #[.int .i64 k] 3) := ⟨_, rfl⟩
      rw [← hWN]
      have hbN : Below wr.heap.size wr WN := by rw [hWN]; exact ((Below.refl _ _).alloc (Nat.le_refl _) _).alloc (by simp) _
      have hsN : WN.heap.size = wr.heap.size + 2 := by rw [hWN]; simp
      have hcn : WN.cell? ⟨wr.heap.size, 0, none⟩ = some (.int .i64 rows.length) := by
        rw [hWN]; exact ((alloc_keep (wr.alloc (.cells #[.int .i64 rows.length] 3)) _).cell (p := ⟨wr.heap.size, 0, none⟩) (by simp)).trans (cell_of (alloc_new wr _))
      have hcm : WN.cell? ⟨wr.heap.size + 1, 0, none⟩ = some (.int .i64 k) := by
        rw [hWN]; have := cell_of (alloc_new (wr.alloc (.cells #[.int .i64 rows.length] 3)) (.cells #[.int .i64 k] 3)); rwa [size_alloc] at this
      clear hWN
      have HI0 : Hid (WyI rows g T gb rb D0 WN J rs wr.heap.size (fun b => b = wr.heap.size + 1 ∨ b = wr.heap.size) (waysTo rows g k ++ ([] : List (List Int)).filter (fun c => wayB g (pks rows [] c))) WN) := by
        refine ⟨fun b hb => by omega, Kpt.refl _ _, ?_, by omega⟩
        rw [List.filter_nil, List.append_nil]
        exact HST.out _ _ _ wr WN HWK.out.j (Chg.of_below hbN (Nat.le_refl _)) (fun b hb => hb.elim (fun h => .inr (by omega)) .inl)
      have HKN : Hid (∀ W', Kpt (fun b => b < wr.heap.size ∧ (b = gb ∨ b = rb ∨ b = D0 ∨ T b ∨ b ∈ rs)) WN W' → Kpt (fun b => b = gb ∨ b = rb ∨ b = D0 ∨ T b) W0 W') := fun W' hk' => by
        have h1 := HWK.out.kp.size
        have h2 := HGB.out
        refine ⟨by have := hk'.size; omega, fun b hb hx => ?_⟩
        have hbw : b < wr.heap.size := by omega
        exact (hk'.block b (by omega) ⟨hbw, by rcases hx with h | h | h | h <;> simp [h]⟩).trans ((hbN.block b hbw).trans (HWK.out.kp.block b hb hx))
      have HSQ := of_seq rows.length k (wr.heap.size + 1) wr.heap.size WN (by omega) (by omega) hcm hcn
      have HBN : Hid (Below wr.heap.size wr WN) := hbN
      clear hbN hcn hcm d1 d2
      refine range_s (R := Hand WN.heap.size) (cs := ext rows.length k 0) (T := fun _ => False) (S0 := fun b => b = wr.heap.size + 1 ∨ b = wr.heap.size) (gf := 57) (lb := #[.pointer (some ⟨wr.heap.size + 1, 0, none⟩), .pointer (some ⟨wr.heap.size, 0, none⟩)]) rfl (enters_of Tryz.func57 (by kernel_rfl) rfl) HSQ (fun b hb => by omega)
        (fun W' S x vs ⟨v, B0, h1, _⟩ => by rw [h1]; rfl) (hand_below _) (hand_put _)
        (fun S pre W' => WyI rows g T gb rb D0 WN J rs wr.heap.size S (waysTo rows g k ++ pre.filter (fun c => wayB g (pks rows [] c))) W')
        (fun c S pre W' => c = .ret ∧ ∃ q, q <+: waysL rows g ∧ WyI rows g T gb rb D0 WN Jx rs wr.heap.size S q W')
        (fun S S' pre W' W'' h hc hs => h.stab HST.out hc hs) (fun c S S' pre W' W'' ⟨h1, q, h2, h3⟩ hc hs => ⟨h1, q, h2, h3.stab HSX.out hc hs⟩) HI0.out
        (fun vs a' W' => ∃ v, vs = #[v] ∧ a' = { tmps := #[.func (.yield l) #[] #[], .pointer (some ⟨gb, 0, none⟩), .pointer (some ⟨rb, 0, none⟩), .pointer (some ⟨D0, 0, none⟩), .int .i64 k, v, undef, undef, .slice go g.length gc, .int .i64 g.length, .slice ro rows.length rc, .int .i64 rows.length, .int .i64 g.length, .int .i64 ((g.length : Int) + 1), .int .i64 k, .bool true, .int .i64 k, .slice ro rows.length rc, .int .i64 rows.length, .int .i64 k, .func (.func 57) #[] #[.pointer (some ⟨wr.heap.size + 1, 0, none⟩), .pointer (some ⟨wr.heap.size, 0, none⟩)], v, undef, undef, undef, undef, undef, undef, undef, undef, undef, undef, undef, undef, undef, undef, u36], defers := [] })
        (fun vs a' W' l r o h _ => h) ?assign ?body (fun h => h) ?done ?stop
      case assign =>
        rintro S x vs W' K ⟨v, B0, rfl, h2, h3, h4⟩ hK
        gi_wp2
        exact hK _ _ (Below.refl _ _) ⟨v, rfl, rfl⟩
      case body =>
        rintro S pre c vs a' W1 hi hSD hSL hlt1 hdf hlp hpre ⟨S1, ⟨v, B0, hvs, hown, hB0, hN0, hBW⟩, hS1⟩ ⟨v', hvs', rfl⟩
        have hvv : v = v' := by rw [hvs] at hvs'; simpa using hvs'
        subst hvv
        have hcm : c ∈ ext rows.length k 0 := hpre.subset (by simp)
        obtain ⟨hr1, hr2, _⟩ := ext_rise hcm
        have hkW := HKN.out W1 hi.kp
        have e1 : W1.cell? ⟨gb, 0, none⟩ = some (.slice go g.length gc) := (World.cell?_of_block (w := W0) (hkW.block gb HGB.out.1 (.inl rfl))).trans HCS.out.1
        have e2 : W1.cell? ⟨rb, 0, none⟩ = some (.slice ro rows.length rc) := (World.cell?_of_block (w := W0) (hkW.block rb HGB.out.2.1 (.inr (.inl rfl)))).trans HCS.out.2.1
        have e3 : W1.cell? ⟨D0, 0, none⟩ = some (.func (.yield l) #[] #[]) := (World.cell?_of_block (w := W0) (hkW.block D0 HGB.out.2.2.1 (.inr (.inr (.inl rfl))))).trans HCS.out.2.2
        have hkT : Kpt T w0 W1 := HKT.out W1 (hkW.mono (fun i _ h => .inr (.inr (.inr h))))
        obtain ⟨vo, vc, hvf⟩ := owns_form hown
        subst hvf
        obtain ⟨lr, hlp⟩ := hlp
        have HOF : Hid (∀ a, vo = some a → ¬ (S a.block ∨ a.block = gb ∨ a.block = rb ∨ a.block = D0 ∨ a.block ∈ rs) ∧ isC W1 a.block) := fun a ha => by
          obtain ⟨h1, h2, h3⟩ := own_off hown hdf rfl a ha
          obtain ⟨_, h4, _⟩ := own_off hown hlp rfl a ha
          refine ⟨fun hx => ?_, h3⟩
          have hg := HGB.out
          have hz := HWK.out.kp.size
          rcases hx with hx | hx | hx | hx | hx
          · rcases (hS1 _).1 hx with hx | hx | hx
            · have := hB0 _ hx; omega
            · exact h2 hx
            · exact h4 hx
          · omega
          · omega
          · omega
          · have := (Array.getElem?_eq_some_iff.1 (HWK.out.mark _ hx)).1; omega
        have HSB : Hid (∀ b, (S b ∨ b = gb ∨ b = rb ∨ b = D0 ∨ b ∈ rs) → b < W1.heap.size) := fun b hx => by
          have hg := HGB.out
          have hz := HWK.out.kp.size
          have hz2 := hi.sz
          rcases hx with hx | hx | hx | hx | hx
          · rcases (hS1 _).1 hx with hx | hx | hx
            · have := hB0 _ hx; omega
            · omega
            · omega
          · omega
          · omega
          · omega
          · have := (Array.getElem?_eq_some_iff.1 (HWK.out.mark _ hx)).1; omega
        have HCL : Hid (Sl 0 3 W1 (.slice vo c.length vc) (ints c)) := Sl.own hown
        have HWV : Hid (Calls Tryz.prog 79 #[.slice ro rows.length rc, .slice vo c.length vc, .slice go g.length gc] W1 fun e w' => ∃ tv, e = .returned (.tuple #[tv, .bool (wayB g (pks rows [] c))]) ∧ WayV W1.heap.size w' tv (.slice vo c.length vc) c g (pks rows [] c) ∧ Below W1.heap.size W1 w') :=
          wayBy_any B rows c g _ _ _ W1 (HRW.out W1 hkT) (Sl.own hown) (HGO.out W1 hkT) (fun t ht => by have := hr2 t (by omega); exact ⟨by omega, this.2⟩) HR.out HG.out hg1 (by omega) (by omega)
        have HI : Hid (WyI rows g T gb rb D0 WN J rs wr.heap.size S (waysTo rows g k ++ pre.filter (fun c => wayB g (pks rows [] c))) W1) := hi
        have HPRE : Hid ((pre ++ [c]) <+: ext rows.length k 0) := hpre
        have HLT : Hid (D0 < W1.heap.size) := lt_cell0 e3
        have HR1 : Hid (c.length = k) := hr1
        have HSN : Hid (WN.heap.size = wr.heap.size + 2) := hsN
        clear hi hpre hown hB0 hN0 hBW hS1 hcm hr2 hkW hkT hdf hlp hvs hvs' hr1 hsN
        cases hwb : wayB g (pks rows [] c) with
        | false =>
          have HFI : Hid ((pre ++ [c]).filter (fun c => wayB g (pks rows [] c)) = pre.filter (fun c => wayB g (pks rows [] c))) := by
            show _ = _
            rw [List.filter_append]; simp [hwb]
          have HWF : Hid (Calls Tryz.prog 79 #[.slice ro rows.length rc, .slice vo c.length vc, .slice go g.length gc] W1 fun e w' => e = .returned (.tuple #[.agg #[.slice none 0 0, .slice none 0 0, .int .i64 0], .bool false]) ∧ Below W1.heap.size W1 w') := by
            refine HWV.out.mono ?_
            rintro e w' ⟨tv, rfl, h1 | h1, h2⟩
            · rw [hwb] at h1; exact absurd h1.1 (by simp)
            · rw [hwb, h1.2]; exact ⟨rfl, h2⟩
          clear hwb HWV
          gi_wp2_with (refine ⟨trivial, rfl, ?_⟩; gi_at_call 79; refine (CallsIn.inRound _ (callsIn_wide.2 HWF.out)).mono ?_; rintro e w6 ⟨rfl, hb6⟩)
          have HBL : Hid (Below W1.heap.size W1 (w6.alloc (.cells #[.slice none 0 0, .slice none 0 0, .int .i64 0] 52))) := hb6.alloc hb6.size _
          clear hb6
          refine ⟨fun _ h => (by cases h), ?_⟩
          gi_wp2
          refine ⟨Kpt.of_below HBL.out (Nat.le_refl _), ?_⟩
          have hfin := HI.out.stab HST.out (Chg.of_below HBL.out (Nat.le_refl _)) (S' := S) (fun b hb => .inl hb)
          rw [← HFI.out] at hfin
          exact hfin
        | true =>
          obtain ⟨q, hq⟩ : ∃ q, q = waysTo rows g k ++ pre.filter (fun c => wayB g (pks rows [] c)) := ⟨_, rfl⟩
          have HFI : Hid (waysTo rows g k ++ (pre ++ [c]).filter (fun c => wayB g (pks rows [] c)) = q ++ [c]) := by
            show _ = _
            rw [List.filter_append, hq]; simp [hwb]
          have HQP : Hid ((q ++ [c]) <+: waysL rows g) := by
            rw [← HFI.out]
            refine List.IsPrefix.trans ?_ ((waysTo_pre rows g (show k + 1 ≤ g.length + 1 by omega)).trans (by unfold waysL; rw [← Hg.length.out]; exact List.prefix_refl _))
            rw [waysTo_succ]
            obtain ⟨t, ht⟩ := filter_pre (p := fun c => wayB g (pks rows [] c)) HPRE.out
            exact ⟨t, by rw [List.append_assoc, ht]⟩
          rw [← hq] at HI
          obtain ⟨un, hun⟩ : ∃ un, un = (wayN g (pks rows [] c)).getD c.length 0 := ⟨_, rfl⟩
          have HWT : Hid (Calls Tryz.prog 79 #[.slice ro rows.length rc, .slice vo c.length vc, .slice go g.length gc] W1 fun e w' => ∃ mo mc, e = .returned (.tuple #[.agg #[.slice vo c.length vc, .slice mo c.length mc, .int .i64 un], .bool true]) ∧ Sl 0 3 w' (.slice mo c.length mc) (ints ((wayN g (pks rows [] c)).take c.length)) ∧ (∀ a, mo = some a → W1.heap.size ≤ a.block ∧ isC w' a.block) ∧ Below W1.heap.size W1 w') := by
            refine HWV.out.mono ?_
            rintro e w' ⟨tv, rfl, h1 | h1, h2⟩
            · obtain ⟨_, mo, mc, rfl, h3, h4⟩ := h1
              rw [hwb, ← hun]; exact ⟨mo, mc, rfl, h3, h4, h2⟩
            · rw [hwb] at h1; exact absurd h1.1 (by simp)
          have HYY : Hid (∀ mo mc w6, Sl 0 3 w6 (.slice mo c.length mc) (ints ((wayN g (pks rows [] c)).take c.length)) → (∀ a, mo = some a → W1.heap.size ≤ a.block ∧ isC w6 a.block) → Below W1.heap.size W1 w6 →
              (w6.alloc (.cells #[.slice vo c.length vc, .slice mo c.length mc, .int .i64 un] 52)).cell? ⟨D0, 0, none⟩ = some (.func (.yield l) #[] #[]) ∧
              YieldAt Fence.wide 0 Tryz.prog l #[.agg #[.slice vo c.length vc, .slice mo c.length mc, .int .i64 un]] (w6.alloc (.cells #[.slice vo c.length vc, .slice mo c.length mc, .int .i64 un] 52)) fun e W' =>
                (e = .returned (.bool true) ∧ Kpt (fun b => S b ∨ False) W1 W' ∧ WyI rows g T gb rb D0 WN J rs wr.heap.size S (waysTo rows g k ++ (pre ++ [c]).filter (fun c => wayB g (pks rows [] c))) W') ∨
                (e = .returned (.bool false) ∧ Kpt (fun b => S b ∨ False) W1 W' ∧ ∃ q, q <+: waysL rows g ∧ WyI rows g T gb rb D0 WN Jx rs wr.heap.size S q W')) := fun mo mc w6 h1 h2 h3 => by
            obtain ⟨W7, hW7⟩ : ∃ W7, W7 = w6.alloc (.cells #[.slice vo c.length vc, .slice mo c.length mc, .int .i64 un] 52) := ⟨_, rfl⟩
            have hb7 : Below W1.heap.size W1 W7 := by rw [hW7]; exact h3.alloc h3.size _
            have h67 : Below w6.heap.size w6 W7 := by rw [hW7]; exact alloc_keep _ _
            rw [← hW7]
            refine ⟨(hb7.cell (p := ⟨D0, 0, none⟩) HLT.out).trans e3, ?_⟩
            have hJ7 := HST.out _ (fun b => S b ∨ b = gb ∨ b = rb ∨ b = D0 ∨ b ∈ rs) _ W1 W7 HI.out.j (Chg.of_below hb7 (Nat.le_refl _)) (fun b hb => .inl hb)
            refine YieldAt.mono (HY.out 0 _ q c _ W7 hJ7 HQP.out ⟨vo, vc, mo, mc, by rw [← hun], hwb, HCL.out.below hb7 (Nat.le_refl _), h1.below h67 (Nat.le_refl _), fun a ha => ⟨(HOF.out a ha).1, (HOF.out a ha).2.keep (hb7.block _ (HOF.out a ha).2.lt)⟩, fun a ha => ⟨fun hx => ?_, (h2 a ha).2.keep (h67.block _ (h2 a ha).2.lt)⟩, fun b hb => Nat.lt_of_lt_of_le (HSB.out b hb) hb7.size⟩) ?_
            · have := (h2 a ha).1
              have := HSB.out _ hx
              omega
            · rintro e W' ⟨hk, hp⟩
              have k1 : Kpt (fun b => S b ∨ False) W1 W' := (Kpt.of_below hb7 (Nat.le_refl _)).trans (hk.mono (fun i _ h => .inl (.inl (h.elim id False.elim))))
              have k2 : Kpt (fun b => b < wr.heap.size ∧ (b = gb ∨ b = rb ∨ b = D0 ∨ T b ∨ b ∈ rs)) WN W' := HI.out.kp.trans ((Kpt.of_below hb7 (Nat.le_refl _)).trans (hk.mono (fun i _ h => by
                rcases h.2 with h | h | h | h | h
                · exact .inl (.inr (.inl h))
                · exact .inl (.inr (.inr (.inl h)))
                · exact .inl (.inr (.inr (.inr (.inl h))))
                · exact .inr h
                · exact .inl (.inr (.inr (.inr (.inr h)))))))
              have k3 : wr.heap.size ≤ W'.heap.size := Nat.le_trans HI.out.sz k1.size
              rcases hp with ⟨rfl, hj⟩ | ⟨rfl, hj⟩
              · exact .inl ⟨rfl, k1, HI.out.sn, k2, by rw [HFI.out]; exact hj, k3⟩
              · exact .inr ⟨rfl, k1, _, HQP.out, HI.out.sn, k2, hj, k3⟩
          clear hwb HWV hq hun e3
          gi_wp2_with (first | (refine ⟨trivial, rfl, ?_⟩; gi_at_call 79; refine (CallsIn.inRound _ (callsIn_wide.2 HWT.out)).mono ?_; rintro e w6 ⟨mo, mc, rfl, h1, h2, h3⟩; obtain ⟨e3, fn, tmps, assign, body, hy, hR⟩ := HYY.out mo mc w6 h1 h2 h3; clear h1 h2 h3) | (refine ⟨rfl, ?_⟩; refine hR.mono ?_; clear hR hy; rintro e W' (⟨rfl, hk, hj⟩ | ⟨rfl, hk, hj⟩)))
          all_goals first | exact ⟨hk, hj⟩ | exact ⟨hk, rfl, hj⟩
      case done =>
        rintro S W' hi hSD hdf
        have HI : Hid (WyI rows g T gb rb D0 WN J rs wr.heap.size S (waysTo rows g k ++ (ext rows.length k 0).filter (fun c => wayB g (pks rows [] c))) W') := hi
        have HNX : Hid (WyK rows g T gb rb D0 W0 J (k + 1) (WN.heap.size :: rs) W') := by
          refine ⟨List.nodup_cons.2 ⟨fun h => ?_, HWK.out.nd⟩, fun r hr => ?_, HKN.out W' hi.kp, ?_⟩
          · have := (Array.getElem?_eq_some_iff.1 (HWK.out.mark _ h)).1; omega
          · rcases List.mem_cons.1 hr with rfl | hr
            · exact hdf
            · have h1 := (Array.getElem?_eq_some_iff.1 (HWK.out.mark _ hr)).1
              exact (hi.kp.block r (by omega) ⟨h1, .inr (.inr (.inr (.inr hr)))⟩).trans ((HBN.out.block r h1).trans (HWK.out.mark r hr))
          · rw [waysTo_succ]
            refine HST.out _ _ _ W' W' hi.j (Chg.refl _ _) (fun b hb => .inl ?_)
            rcases hb with h | h | h | h
            · exact .inr (.inl h)
            · exact .inr (.inr (.inl h))
            · exact .inr (.inr (.inr (.inl h)))
            · rcases List.mem_cons.1 h with rfl | h
              · exact .inl hSD
              · exact .inr (.inr (.inr (.inr h)))
        clear hi
        gi_wp2
        refine ⟨⟨k + 1, WN.heap.size :: rs, .int .i64 k, .bool true, .int .i64 k, .slice ro rows.length rc, .int .i64 rows.length, .int .i64 k, .func (.func 57) #[] #[.pointer (some ⟨wr.heap.size + 1, 0, none⟩), .pointer (some ⟨wr.heap.size, 0, none⟩)], .int .i64 ((k : Int) + 1), by omega, HNX.out, ?_⟩, ?_⟩
        · rw [show ((k + 1 : Nat) : Int) = (k : Int) + 1 by omega]
          rfl
        · simp [intOf]; omega
      case stop =>
        rintro c S pre W' hpre ⟨rfl, q, hq, hi⟩ hSD hdf
        gi_wp2
        refine leaves_mks (WN.heap.size :: rs) W' (List.nodup_cons.2 ⟨fun h => ?_, HWK.out.nd⟩) (fun r hr => ?_) (fun w' hc => ⟨_, results_none rfl _ _ _, ⟨_, rfl⟩, .inr ⟨(fun b => S b ∨ b = gb ∨ b = rb ∨ b = D0 ∨ b ∈ rs), q, hq, ?_⟩⟩)
        · have := (Array.getElem?_eq_some_iff.1 (HWK.out.mark _ h)).1; omega
        · rcases List.mem_cons.1 hr with rfl | hr
          · exact hdf
          · have h1 := (Array.getElem?_eq_some_iff.1 (HWK.out.mark _ hr)).1
            exact (hi.kp.block r (by omega) ⟨h1, .inr (.inr (.inr (.inr hr)))⟩).trans ((HBN.out.block r h1).trans (HWK.out.mark r hr))
        · refine HSX.out _ _ _ W' w' hi.j (hc.mono (fun i _ h => ?_)) (fun b hb => .inl hb)
          rcases List.mem_cons.1 h with rfl | h
          · exact .inl hSD
          · exact .inr (.inr (.inr (.inr h)))
    · have hke : k = g.length + 1 := by omega
      subst hke
      have hkI : decide ((((g.length + 1 : Nat) : Int)) < (g.length : Int) + 1) = false := by simp
      gi_wp2
      have HE : Hid (waysTo rows g (g.length + 1) = waysL rows g) := by show _ = _; unfold waysL; rw [← Hg.length.out]
      refine leaves_mks rs wr HWK.out.nd HWK.out.mark (fun w' hc => ⟨_, results_none rfl _ _ _, ⟨_, rfl⟩, .inl ⟨(fun b => b = gb ∨ b = rb ∨ b = D0 ∨ b ∈ rs), ?_⟩⟩)
      rw [← HE.out]
      exact HST.out _ _ _ wr w' HWK.out.j (hc.mono (fun i _ hi => .inr (.inr (.inr hi)))) (fun b hb => .inl hb)

  case inl =>
    have Hrows.length : Hid (rows.length = min g.length rows.length) := by show _ = _; omega
    have hrows.length4 : rows.length ≤ 4 := by omega
    clear c1a c2a
    rw [← HW0.out, ← HD0.out]
    refine wpIn_loop (fun a' wr => ∃ (k : Nat) (rs : List Nat) (u4 u15 u16 u17 u18 u19 u20 u36 : Value), k ≤ rows.length + 1 ∧ WyK rows g T gb rb D0 W0 J k rs wr ∧
      a' = { tmps := #[.func (.yield l) #[] #[], .pointer (some ⟨gb, 0, none⟩), .pointer (some ⟨rb, 0, none⟩), .pointer (some ⟨D0, 0, none⟩), u4, undef, undef, undef, .slice go g.length gc, .int .i64 g.length, .slice ro rows.length rc, .int .i64 rows.length, .int .i64 rows.length, .int .i64 ((rows.length : Int) + 1), .int .i64 k, u15, u16, u17, u18, u19, u20, undef, undef, undef, undef, undef, undef, undef, undef, undef, undef, undef, undef, undef, undef, undef, u36], defers := mks rs }) (fun a' _ => rows.length + 1 - (intOf (a'.tmps.getD 14 undef)).toNat) ?_ ?_
    · exact ⟨0, [], _, _, _, _, _, _, _, _, Nat.zero_le _, HK0.out, rfl⟩
    rintro _ wr ⟨k, rs, u4, u15, u16, u17, u18, u19, u20, u36, hk, hwk, rfl⟩
    have HWK : Hid (WyK rows g T gb rb D0 W0 J k rs wr) := hwk
    have d1 : wr.cell? ⟨gb, 0, none⟩ = some (.slice go g.length gc) := (World.cell?_of_block (w := W0) (hwk.kp.block gb HGB.out.1 (.inl rfl))).trans HCS.out.1
    have d2 : wr.cell? ⟨rb, 0, none⟩ = some (.slice ro rows.length rc) := (World.cell?_of_block (w := W0) (hwk.kp.block rb HGB.out.2.1 (.inr (.inl rfl)))).trans HCS.out.2.1
    clear hwk
    by_cases hlt : k < rows.length + 1
    · have hkI : (k : Int) < (rows.length : Int) + 1 := by omega
      gi_wp2_with (refine ⟨trivial, rfl, ?_⟩; gi_at_call 34; refine (callsIn_wide.2 (of_any _ _ _)).mono ?_; rintro e w' ⟨rfl, rfl⟩)
      obtain ⟨WN, hWN⟩ : ∃ WN, WN = (wr.alloc (.cells #[.int .i64 rows.length] 3)).alloc (.cells #[.int .i64 k] 3) := ⟨_, rfl⟩
      rw [← hWN]
      have hbN : Below wr.heap.size wr WN := by rw [hWN]; exact ((Below.refl _ _).alloc (Nat.le_refl _) _).alloc (by simp) _
      have hsN : WN.heap.size = wr.heap.size + 2 := by rw [hWN]; simp
      have hcn : WN.cell? ⟨wr.heap.size, 0, none⟩ = some (.int .i64 rows.length) := by
        rw [hWN]; exact ((alloc_keep (wr.alloc (.cells #[.int .i64 rows.length] 3)) _).cell (p := ⟨wr.heap.size, 0, none⟩) (by simp)).trans (cell_of (alloc_new wr _))
      have hcm : WN.cell? ⟨wr.heap.size + 1, 0, none⟩ = some (.int .i64 k) := by
        rw [hWN]; have := cell_of (alloc_new (wr.alloc (.cells #[.int .i64 rows.length] 3)) (.cells #[.int .i64 k] 3)); rwa [size_alloc] at this
      clear hWN
      have HI0 : Hid (WyI rows g T gb rb D0 WN J rs wr.heap.size (fun b => b = wr.heap.size + 1 ∨ b = wr.heap.size) (waysTo rows g k ++ ([] : List (List Int)).filter (fun c => wayB g (pks rows [] c))) WN) := by
        refine ⟨fun b hb => by omega, Kpt.refl _ _, ?_, by omega⟩
        rw [List.filter_nil, List.append_nil]
        exact HST.out _ _ _ wr WN HWK.out.j (Chg.of_below hbN (Nat.le_refl _)) (fun b hb => hb.elim (fun h => .inr (by omega)) .inl)
      have HKN : Hid (∀ W', Kpt (fun b => b < wr.heap.size ∧ (b = gb ∨ b = rb ∨ b = D0 ∨ T b ∨ b ∈ rs)) WN W' → Kpt (fun b => b = gb ∨ b = rb ∨ b = D0 ∨ T b) W0 W') := fun W' hk' => by
        have h1 := HWK.out.kp.size
        have h2 := HGB.out
        refine ⟨by have := hk'.size; omega, fun b hb hx => ?_⟩
        have hbw : b < wr.heap.size := by omega
        exact (hk'.block b (by omega) ⟨hbw, by rcases hx with h | h | h | h <;> simp [h]⟩).trans ((hbN.block b hbw).trans (HWK.out.kp.block b hb hx))
      have HSQ := of_seq rows.length k (wr.heap.size + 1) wr.heap.size WN (by omega) (by omega) hcm hcn
      have HBN : Hid (Below wr.heap.size wr WN) := hbN
      clear hbN hcn hcm d1 d2
      refine range_s (R := Hand WN.heap.size) (cs := ext rows.length k 0) (T := fun _ => False) (S0 := fun b => b = wr.heap.size + 1 ∨ b = wr.heap.size) (gf := 57) (lb := #[.pointer (some ⟨wr.heap.size + 1, 0, none⟩), .pointer (some ⟨wr.heap.size, 0, none⟩)]) rfl (enters_of Tryz.func57 (by kernel_rfl) rfl) HSQ (fun b hb => by omega)
        (fun W' S x vs ⟨v, B0, h1, _⟩ => by rw [h1]; rfl) (hand_below _) (hand_put _)
        (fun S pre W' => WyI rows g T gb rb D0 WN J rs wr.heap.size S (waysTo rows g k ++ pre.filter (fun c => wayB g (pks rows [] c))) W')
        (fun c S pre W' => c = .ret ∧ ∃ q, q <+: waysL rows g ∧ WyI rows g T gb rb D0 WN Jx rs wr.heap.size S q W')
        (fun S S' pre W' W'' h hc hs => h.stab HST.out hc hs) (fun c S S' pre W' W'' ⟨h1, q, h2, h3⟩ hc hs => ⟨h1, q, h2, h3.stab HSX.out hc hs⟩) HI0.out
        (fun vs a' W' => ∃ v, vs = #[v] ∧ a' = { tmps := #[.func (.yield l) #[] #[], .pointer (some ⟨gb, 0, none⟩), .pointer (some ⟨rb, 0, none⟩), .pointer (some ⟨D0, 0, none⟩), .int .i64 k, v, undef, undef, .slice go g.length gc, .int .i64 g.length, .slice ro rows.length rc, .int .i64 rows.length, .int .i64 rows.length, .int .i64 ((rows.length : Int) + 1), .int .i64 k, .bool true, .int .i64 k, .slice ro rows.length rc, .int .i64 rows.length, .int .i64 k, .func (.func 57) #[] #[.pointer (some ⟨wr.heap.size + 1, 0, none⟩), .pointer (some ⟨wr.heap.size, 0, none⟩)], v, undef, undef, undef, undef, undef, undef, undef, undef, undef, undef, undef, undef, undef, undef, u36], defers := [] })
        (fun vs a' W' l r o h _ => h) ?assign ?body (fun h => h) ?done ?stop
      case assign =>
        rintro S x vs W' K ⟨v, B0, rfl, h2, h3, h4⟩ hK
        gi_wp2
        exact hK _ _ (Below.refl _ _) ⟨v, rfl, rfl⟩
      case body =>
        rintro S pre c vs a' W1 hi hSD hSL hlt1 hdf hlp hpre ⟨S1, ⟨v, B0, hvs, hown, hB0, hN0, hBW⟩, hS1⟩ ⟨v', hvs', rfl⟩
        have hvv : v = v' := by rw [hvs] at hvs'; simpa using hvs'
        subst hvv
        have hcm : c ∈ ext rows.length k 0 := hpre.subset (by simp)
        obtain ⟨hr1, hr2, _⟩ := ext_rise hcm
        have hkW := HKN.out W1 hi.kp
        have e1 : W1.cell? ⟨gb, 0, none⟩ = some (.slice go g.length gc) := (World.cell?_of_block (w := W0) (hkW.block gb HGB.out.1 (.inl rfl))).trans HCS.out.1
        have e2 : W1.cell? ⟨rb, 0, none⟩ = some (.slice ro rows.length rc) := (World.cell?_of_block (w := W0) (hkW.block rb HGB.out.2.1 (.inr (.inl rfl)))).trans HCS.out.2.1
        have e3 : W1.cell? ⟨D0, 0, none⟩ = some (.func (.yield l) #[] #[]) := (World.cell?_of_block (w := W0) (hkW.block D0 HGB.out.2.2.1 (.inr (.inr (.inl rfl))))).trans HCS.out.2.2
        have hkT : Kpt T w0 W1 := HKT.out W1 (hkW.mono (fun i _ h => .inr (.inr (.inr h))))
        obtain ⟨vo, vc, hvf⟩ := owns_form hown
        subst hvf
        obtain ⟨lr, hlp⟩ := hlp
        have HOF : Hid (∀ a, vo = some a → ¬ (S a.block ∨ a.block = gb ∨ a.block = rb ∨ a.block = D0 ∨ a.block ∈ rs) ∧ isC W1 a.block) := fun a ha => by
          obtain ⟨h1, h2, h3⟩ := own_off hown hdf rfl a ha
          obtain ⟨_, h4, _⟩ := own_off hown hlp rfl a ha
          refine ⟨fun hx => ?_, h3⟩
          have hg := HGB.out
          have hz := HWK.out.kp.size
          rcases hx with hx | hx | hx | hx | hx
          · rcases (hS1 _).1 hx with hx | hx | hx
            · have := hB0 _ hx; omega
            · exact h2 hx
            · exact h4 hx
          · omega
          · omega
          · omega
          · have := (Array.getElem?_eq_some_iff.1 (HWK.out.mark _ hx)).1; omega
        have HSB : Hid (∀ b, (S b ∨ b = gb ∨ b = rb ∨ b = D0 ∨ b ∈ rs) → b < W1.heap.size) := fun b hx => by
          have hg := HGB.out
          have hz := HWK.out.kp.size
          have hz2 := hi.sz
          rcases hx with hx | hx | hx | hx | hx
          · rcases (hS1 _).1 hx with hx | hx | hx
            · have := hB0 _ hx; omega
            · omega
            · omega
          · omega
          · omega
          · omega
          · have := (Array.getElem?_eq_some_iff.1 (HWK.out.mark _ hx)).1; omega
        have HCL : Hid (Sl 0 3 W1 (.slice vo c.length vc) (ints c)) := Sl.own hown
        have HWV : Hid (Calls Tryz.prog 79 #[.slice ro rows.length rc, .slice vo c.length vc, .slice go g.length gc] W1 fun e w' => ∃ tv, e = .returned (.tuple #[tv, .bool (wayB g (pks rows [] c))]) ∧ WayV W1.heap.size w' tv (.slice vo c.length vc) c g (pks rows [] c) ∧ Below W1.heap.size W1 w') :=
          wayBy_any B rows c g _ _ _ W1 (HRW.out W1 hkT) (Sl.own hown) (HGO.out W1 hkT) (fun t ht => by have := hr2 t (by omega); exact ⟨by omega, this.2⟩) HR.out HG.out hg1 (by omega) (by omega)
        have HI : Hid (WyI rows g T gb rb D0 WN J rs wr.heap.size S (waysTo rows g k ++ pre.filter (fun c => wayB g (pks rows [] c))) W1) := hi
        have HPRE : Hid ((pre ++ [c]) <+: ext rows.length k 0) := hpre
        have HLT : Hid (D0 < W1.heap.size) := lt_cell0 e3
        have HR1 : Hid (c.length = k) := hr1
        have HSN : Hid (WN.heap.size = wr.heap.size + 2) := hsN
        clear hi hpre hown hB0 hN0 hBW hS1 hcm hr2 hkW hkT hdf hlp hvs hvs' hr1 hsN
        cases hwb : wayB g (pks rows [] c) with
        | false =>
          have HFI : Hid ((pre ++ [c]).filter (fun c => wayB g (pks rows [] c)) = pre.filter (fun c => wayB g (pks rows [] c))) := by
            show _ = _
            rw [List.filter_append]; simp [hwb]
          have HWF : Hid (Calls Tryz.prog 79 #[.slice ro rows.length rc, .slice vo c.length vc, .slice go g.length gc] W1 fun e w' => e = .returned (.tuple #[.agg #[.slice none 0 0, .slice none 0 0, .int .i64 0], .bool false]) ∧ Below W1.heap.size W1 w') := by
            refine HWV.out.mono ?_
            rintro e w' ⟨tv, rfl, h1 | h1, h2⟩
            · rw [hwb] at h1; exact absurd h1.1 (by simp)
            · rw [hwb, h1.2]; exact ⟨rfl, h2⟩
          clear hwb HWV
          gi_wp2_with (refine ⟨trivial, rfl, ?_⟩; gi_at_call 79; refine (CallsIn.inRound _ (callsIn_wide.2 HWF.out)).mono ?_; rintro e w6 ⟨rfl, hb6⟩)
          have HBL : Hid (Below W1.heap.size W1 (w6.alloc (.cells #[.slice none 0 0, .slice none 0 0, .int .i64 0] 52))) := hb6.alloc hb6.size _
          clear hb6
          refine ⟨fun _ h => (by cases h), ?_⟩
          gi_wp2
          refine ⟨Kpt.of_below HBL.out (Nat.le_refl _), ?_⟩
          have hfin := HI.out.stab HST.out (Chg.of_below HBL.out (Nat.le_refl _)) (S' := S) (fun b hb => .inl hb)
          rw [← HFI.out] at hfin
          exact hfin
        | true =>
          obtain ⟨q, hq⟩ : ∃ q, q = waysTo rows g k ++ pre.filter (fun c => wayB g (pks rows [] c)) := ⟨_, rfl⟩
          have HFI : Hid (waysTo rows g k ++ (pre ++ [c]).filter (fun c => wayB g (pks rows [] c)) = q ++ [c]) := by
            show _ = _
            rw [List.filter_append, hq]; simp [hwb]
          have HQP : Hid ((q ++ [c]) <+: waysL rows g) := by
            rw [← HFI.out]
            refine List.IsPrefix.trans ?_ ((waysTo_pre rows g (show k + 1 ≤ rows.length + 1 by omega)).trans (by unfold waysL; rw [← Hrows.length.out]; exact List.prefix_refl _))
            rw [waysTo_succ]
            obtain ⟨t, ht⟩ := filter_pre (p := fun c => wayB g (pks rows [] c)) HPRE.out
            exact ⟨t, by rw [List.append_assoc, ht]⟩
          rw [← hq] at HI
          obtain ⟨un, hun⟩ : ∃ un, un = (wayN g (pks rows [] c)).getD c.length 0 := ⟨_, rfl⟩
          have HWT : Hid (Calls Tryz.prog 79 #[.slice ro rows.length rc, .slice vo c.length vc, .slice go g.length gc] W1 fun e w' => ∃ mo mc, e = .returned (.tuple #[.agg #[.slice vo c.length vc, .slice mo c.length mc, .int .i64 un], .bool true]) ∧ Sl 0 3 w' (.slice mo c.length mc) (ints ((wayN g (pks rows [] c)).take c.length)) ∧ (∀ a, mo = some a → W1.heap.size ≤ a.block ∧ isC w' a.block) ∧ Below W1.heap.size W1 w') := by
            refine HWV.out.mono ?_
            rintro e w' ⟨tv, rfl, h1 | h1, h2⟩
            · obtain ⟨_, mo, mc, rfl, h3, h4⟩ := h1
              rw [hwb, ← hun]; exact ⟨mo, mc, rfl, h3, h4, h2⟩
            · rw [hwb] at h1; exact absurd h1.1 (by simp)
          have HYY : Hid (∀ mo mc w6, Sl 0 3 w6 (.slice mo c.length mc) (ints ((wayN g (pks rows [] c)).take c.length)) → (∀ a, mo = some a → W1.heap.size ≤ a.block ∧ isC w6 a.block) → Below W1.heap.size W1 w6 →
              (w6.alloc (.cells #[.slice vo c.length vc, .slice mo c.length mc, .int .i64 un] 52)).cell? ⟨D0, 0, none⟩ = some (.func (.yield l) #[] #[]) ∧
              YieldAt Fence.wide 0 Tryz.prog l #[.agg #[.slice vo c.length vc, .slice mo c.length mc, .int .i64 un]] (w6.alloc (.cells #[.slice vo c.length vc, .slice mo c.length mc, .int .i64 un] 52)) fun e W' =>
                (e = .returned (.bool true) ∧ Kpt (fun b => S b ∨ False) W1 W' ∧ WyI rows g T gb rb D0 WN J rs wr.heap.size S (waysTo rows g k ++ (pre ++ [c]).filter (fun c => wayB g (pks rows [] c))) W') ∨
                (e = .returned (.bool false) ∧ Kpt (fun b => S b ∨ False) W1 W' ∧ ∃ q, q <+: waysL rows g ∧ WyI rows g T gb rb D0 WN Jx rs wr.heap.size S q W')) := fun mo mc w6 h1 h2 h3 => by
            obtain ⟨W7, hW7⟩ : ∃ W7, W7 = w6.alloc (.cells #[.slice vo c.length vc, .slice mo c.length mc, .int .i64 un] 52) := ⟨_, rfl⟩
            have hb7 : Below W1.heap.size W1 W7 := by rw [hW7]; exact h3.alloc h3.size _
            have h67 : Below w6.heap.size w6 W7 := by rw [hW7]; exact alloc_keep _ _
            rw [← hW7]
            refine ⟨(hb7.cell (p := ⟨D0, 0, none⟩) HLT.out).trans e3, ?_⟩
            have hJ7 := HST.out _ (fun b => S b ∨ b = gb ∨ b = rb ∨ b = D0 ∨ b ∈ rs) _ W1 W7 HI.out.j (Chg.of_below hb7 (Nat.le_refl _)) (fun b hb => .inl hb)
            refine YieldAt.mono (HY.out 0 _ q c _ W7 hJ7 HQP.out ⟨vo, vc, mo, mc, by rw [← hun], hwb, HCL.out.below hb7 (Nat.le_refl _), h1.below h67 (Nat.le_refl _), fun a ha => ⟨(HOF.out a ha).1, (HOF.out a ha).2.keep (hb7.block _ (HOF.out a ha).2.lt)⟩, fun a ha => ⟨fun hx => ?_, (h2 a ha).2.keep (h67.block _ (h2 a ha).2.lt)⟩, fun b hb => Nat.lt_of_lt_of_le (HSB.out b hb) hb7.size⟩) ?_
            · have := (h2 a ha).1
              have := HSB.out _ hx
              omega
            · rintro e W' ⟨hk, hp⟩
              have k1 : Kpt (fun b => S b ∨ False) W1 W' := (Kpt.of_below hb7 (Nat.le_refl _)).trans (hk.mono (fun i _ h => .inl (.inl (h.elim id False.elim))))
              have k2 : Kpt (fun b => b < wr.heap.size ∧ (b = gb ∨ b = rb ∨ b = D0 ∨ T b ∨ b ∈ rs)) WN W' := HI.out.kp.trans ((Kpt.of_below hb7 (Nat.le_refl _)).trans (hk.mono (fun i _ h => by
                rcases h.2 with h | h | h | h | h
                · exact .inl (.inr (.inl h))
                · exact .inl (.inr (.inr (.inl h)))
                · exact .inl (.inr (.inr (.inr (.inl h))))
                · exact .inr h
                · exact .inl (.inr (.inr (.inr (.inr h)))))))
              have k3 : wr.heap.size ≤ W'.heap.size := Nat.le_trans HI.out.sz k1.size
              rcases hp with ⟨rfl, hj⟩ | ⟨rfl, hj⟩
              · exact .inl ⟨rfl, k1, HI.out.sn, k2, by rw [HFI.out]; exact hj, k3⟩
              · exact .inr ⟨rfl, k1, _, HQP.out, HI.out.sn, k2, hj, k3⟩
          clear hwb HWV hq hun e3
          gi_wp2_with (first | (refine ⟨trivial, rfl, ?_⟩; gi_at_call 79; refine (CallsIn.inRound _ (callsIn_wide.2 HWT.out)).mono ?_; rintro e w6 ⟨mo, mc, rfl, h1, h2, h3⟩; obtain ⟨e3, fn, tmps, assign, body, hy, hR⟩ := HYY.out mo mc w6 h1 h2 h3; clear h1 h2 h3) | (refine ⟨rfl, ?_⟩; refine hR.mono ?_; clear hR hy; rintro e W' (⟨rfl, hk, hj⟩ | ⟨rfl, hk, hj⟩)))
          all_goals first | exact ⟨hk, hj⟩ | exact ⟨hk, rfl, hj⟩
      case done =>
        rintro S W' hi hSD hdf
        have HI : Hid (WyI rows g T gb rb D0 WN J rs wr.heap.size S (waysTo rows g k ++ (ext rows.length k 0).filter (fun c => wayB g (pks rows [] c))) W') := hi
        have HNX : Hid (WyK rows g T gb rb D0 W0 J (k + 1) (WN.heap.size :: rs) W') := by
          refine ⟨List.nodup_cons.2 ⟨fun h => ?_, HWK.out.nd⟩, fun r hr => ?_, HKN.out W' hi.kp, ?_⟩
          · have := (Array.getElem?_eq_some_iff.1 (HWK.out.mark _ h)).1; omega
          · rcases List.mem_cons.1 hr with rfl | hr
            · exact hdf
            · have h1 := (Array.getElem?_eq_some_iff.1 (HWK.out.mark _ hr)).1
              exact (hi.kp.block r (by omega) ⟨h1, .inr (.inr (.inr (.inr hr)))⟩).trans ((HBN.out.block r h1).trans (HWK.out.mark r hr))
          · rw [waysTo_succ]
            refine HST.out _ _ _ W' W' hi.j (Chg.refl _ _) (fun b hb => .inl ?_)
            rcases hb with h | h | h | h
            · exact .inr (.inl h)
            · exact .inr (.inr (.inl h))
            · exact .inr (.inr (.inr (.inl h)))
            · rcases List.mem_cons.1 h with rfl | h
              · exact .inl hSD
              · exact .inr (.inr (.inr (.inr h)))
        clear hi
        gi_wp2
        refine ⟨⟨k + 1, WN.heap.size :: rs, .int .i64 k, .bool true, .int .i64 k, .slice ro rows.length rc, .int .i64 rows.length, .int .i64 k, .func (.func 57) #[] #[.pointer (some ⟨wr.heap.size + 1, 0, none⟩), .pointer (some ⟨wr.heap.size, 0, none⟩)], .int .i64 ((k : Int) + 1), by omega, HNX.out, ?_⟩, ?_⟩
        · rw [show ((k + 1 : Nat) : Int) = (k : Int) + 1 by omega]
          rfl
        · simp [intOf]; omega
      case stop =>
        rintro c S pre W' hpre ⟨rfl, q, hq, hi⟩ hSD hdf
        gi_wp2
        refine leaves_mks (WN.heap.size :: rs) W' (List.nodup_cons.2 ⟨fun h => ?_, HWK.out.nd⟩) (fun r hr => ?_) (fun w' hc => ⟨_, results_none rfl _ _ _, ⟨_, rfl⟩, .inr ⟨(fun b => S b ∨ b = gb ∨ b = rb ∨ b = D0 ∨ b ∈ rs), q, hq, ?_⟩⟩)
        · have := (Array.getElem?_eq_some_iff.1 (HWK.out.mark _ h)).1; omega
        · rcases List.mem_cons.1 hr with rfl | hr
          · exact hdf
          · have h1 := (Array.getElem?_eq_some_iff.1 (HWK.out.mark _ hr)).1
            exact (hi.kp.block r (by omega) ⟨h1, .inr (.inr (.inr (.inr hr)))⟩).trans ((HBN.out.block r h1).trans (HWK.out.mark r hr))
        · refine HSX.out _ _ _ W' w' hi.j (hc.mono (fun i _ h => ?_)) (fun b hb => .inl hb)
          rcases List.mem_cons.1 h with rfl | h
          · exact .inl hSD
          · exact .inr (.inr (.inr (.inr h)))
    · have hke : k = rows.length + 1 := by omega
      subst hke
      have hkI : decide ((((rows.length + 1 : Nat) : Int)) < (rows.length : Int) + 1) = false := by simp
      gi_wp2
      have HE : Hid (waysTo rows g (rows.length + 1) = waysL rows g) := by show _ = _; unfold waysL; rw [← Hrows.length.out]
      refine leaves_mks rs wr HWK.out.nd HWK.out.mark (fun w' hc => ⟨_, results_none rfl _ _ _, ⟨_, rfl⟩, .inl ⟨(fun b => b = gb ∨ b = rb ∨ b = D0 ∨ b ∈ rs), ?_⟩⟩)
      rw [← HE.out]
      exact HST.out _ _ _ wr w' HWK.out.j (hc.mono (fun i _ hi => .inr (.inr (.inr hi)))) (fun b hb => .inl hb)


end Go.Proofs.YtpbahagfhkpfhaaGreat
