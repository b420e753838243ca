import Derived.Test.YtknomkajibfmlaaGreatMgAI
import Derived.Test.YtknomkajibfmlaaGreatMgAB
import Derived.Lib.JoinLaws
/- cone.acrossOf. -/
namespace Go.Proofs.YtknomkajibfmlaaGreat
open Go.RowKit
attribute [local go_sem ↓] Go.wp_at_zero Go.wp_at_succ

theorem acr_snoc {rs : List (List Int)} {t : Nat} (h : t < rs.length) (i : Nat) :
    (rs.take (t + 1)).map (fun r => r.getD i 0) = (rs.take t).map (fun r => r.getD i 0) ++ [(rs.getD t []).getD i 0] := by
  rw [List.take_succ_eq_append_getElem h, List.map_append, List.getD_eq_getElem?_getD (l := rs), List.getElem?_eq_getElem h]
  rfl

theorem acrL_at {g : List Int} {rs : List (List Int)} {k : Nat} (h : k < g.length) : (acrL g rs).getD k [] = acrR rs g k := by simp [acrL, h]

set_option maxRecDepth 100000 in
set_option maxHeartbeats 4000000 in
theorem across_any (B : Nat) (rs : List (List Int)) (g : List Int) (v x : Value) (w : World) (hv : Mat B 38 3 w v rs) (hx : Sl B 3 w x (ints g))
    (hr : ∀ r ∈ rs, g.length ≤ r.length ∧ ∀ z ∈ r, z.natAbs ≤ 60) (hg : ∀ z ∈ g, z.natAbs ≤ 60) (hg5 : g.length ≤ 5) (hc4 : rs.length ≤ 1000) :
    Calls Tryz.prog 68 #[v, x] w fun e w' => ∃ f, e = .returned (.slice (some ⟨w.heap.size, 0, none⟩) g.length g.length) ∧ Ac w w.heap.size g.length g.length (acrL g rs) f w' := by
  obtain ⟨i0, hi, hz0, hz1, hz2⟩ := info_parts Tryz.info38
  obtain ⟨i3, hi3, hz30, hz31, hz32⟩ := info_parts Tryz.info3
  obtain ⟨ao, cap, hvv, hlc, hcm⟩ := mat_open hv
  obtain ⟨xo, cxp, hxx, hlx, hcx⟩ := sl_open hx
  subst hvv hxx
  have HV : Hid (Mat B 38 3 w (.slice ao rs.length cap) rs) := hv
  have HX : Hid (Sl B 3 w (.slice xo g.length cxp) (ints g)) := hx
  have HR : Hid (∀ r ∈ rs, g.length ≤ r.length ∧ ∀ z ∈ r, z.natAbs ≤ 60) := hr
  have HG : Hid (∀ z ∈ g, z.natAbs ≤ 60) := hg
  clear hv hx hr hg
  have hmk := run_make_row' (P := Tryz.prog) 22 38 (.slice none 0 0) 24 Tryz.underlying22 Tryz.info38 rfl .i64 .i64 g.length (by omega) (by omega)
  have HA0 : Hid (Ac w w.heap.size g.length 0 (acrL g rs) (fun _ => .slice none 0 0) (w.alloc (.cells (madeCells #[.slice none 0 0] g.length) 38))) := by
    refine ⟨alloc_keep _ _, by omega, ?_, fun j hj => absurd hj (by omega), fun _ _ _ => rfl⟩
    exact World.rowIs_made w (.slice none 0 0) g.length 38
  go_enter Tryz.func68, Tryz.ntmps68
  go_wp2
  go_loopw [15, 6, 7, 9] (fun i _ _ _ wr => ∃ (k : Nat) (f : Nat → Value), k ≤ g.length ∧ i = .int .i64 k ∧ Ac w w.heap.size g.length k (acrL g (rs)) f wr) (fun i _ _ _ _ => g.length - (intOf i).toNat)
  case atStart => exact ⟨0, _, Nat.zero_le _, rfl, HA0.out⟩
  case round =>
    obtain ⟨k, f, hk, rfl, ha⟩ := hrel
    obtain ⟨wa, rfl⟩ : ∃ wa, wa = wr := ⟨wr, rfl⟩
    have HA : Hid (Ac w w.heap.size g.length k (acrL g (rs)) f wa) := ha
    have HBA : Hid (Below w.heap.size w wa) := ha.bel
    clear ha
    by_cases hlt : k < g.length
    · obtain ⟨xb, xoo, xcp, hxs, _, hcell⟩ := sl_cell (HX.out.below HBA.out (Nat.le_refl _)) hlt
      simp only [Value.slice.injEq] at hxs
      obtain ⟨rfl, _, rfl⟩ := hxs
      have hz := HG.out (g.getD k 0) (by simp [hlt])
      have HZ : Hid (g.getD k 0 = g.getD k 0) := rfl
      generalize hgk : g.getD k 0 = gk at *
      have HGK : Hid (g.getD k 0 = gk) := hgk
      clear hgk HZ
      have hI : Ai wa (w.heap.size) g.length k 0 f [] (.slice none 0 0) wa := by
        refine ⟨Chg.refl _ _, ?_, World.ownsRow_nil _ _ _ _, rfl⟩
        have e : (fun j => if j = k then .slice none 0 0 else f j) = f := by
          funext j
          by_cases ej : j = k
          · subst ej; simp [HA.out.free j (Nat.le_refl _) hlt]
          · simp [ej]
        rw [e]
        exact HA.out.row
      have HI : Hid (Ai wa (w.heap.size) g.length k 0 f [] (.slice none 0 0) wa) := hI
      clear hI
      have hkI : (0 : Int) ≤ (k : Int) := by omega
      have hkJ : (k : Int) < (g.length : Int) := by omega
      go_wp2
      go_loopw [22, 9] (fun i _ wq => ∃ (t : Nat) (cur : Value), t ≤ rs.length ∧ i = .int .i64 t ∧ Ai wa (w.heap.size) g.length k t f (((rs).take t).map (fun r => r.getD k 0)) cur wq) (fun i _ _ => rs.length - (intOf i).toNat)
      case atStart => exact ⟨0, _, Nat.zero_le _, rfl, HI.out⟩
      case round =>
        obtain ⟨t, cur, ht, rfl, hi5⟩ := hrel
        obtain ⟨wb, rfl⟩ : ∃ wb, wb = wr := ⟨wr, rfl⟩
        have HAI : Hid (Ai wa (w.heap.size) g.length k t f (((rs).take t).map (fun r => r.getD k 0)) cur wb) := hi5
        have HGW : Hid (w.heap.size < wa.heap.size) := HA.out.lt
        have HBB : Hid (Below w.heap.size w wb) := ⟨hi5.chg.os.trans HBA.out.os, hi5.chg.tape.trans HBA.out.tape, hi5.chg.output.trans HBA.out.output, Nat.le_trans HBA.out.size hi5.chg.size, fun b hb => (hi5.chg.block b (by have := HBA.out.size; omega) (by omega)).trans (HBA.out.block b hb)⟩
        obtain ⟨co, cc, hcur⟩ := owns_form hi5.own
        subst hcur
        have c37 : wb.cell? ⟨w.heap.size, k, none⟩ = some (.slice co t cc) := by
          have := hi5.row.cell (i := k) hlt
          simpa using this
        have f37 : wb.frozen? ⟨w.heap.size, k, none⟩ = false := hi5.row.frozen k
        have HO : Hid (wb.ownsRow wa.heap.size 3 1 (.slice co t cc) t (ints (((rs).take t).map (fun r => r.getD k 0)))) := hi5.own
        have HSZ : Hid (wa.heap.size ≤ wb.heap.size) := hi5.chg.size
        clear hi5
        by_cases htl : t < rs.length
        · obtain ⟨vb, voo, vcp, rv, hvs, _, hvcell, hrv⟩ := mat_cell (HV.out.below HBB.out (Nat.le_refl _)) htl
          simp only [Value.slice.injEq] at hvs
          obtain ⟨rfl, _, rfl⟩ := hvs
          have hrow := HR.out (rs.getD t []) (by simp [htl])
          obtain ⟨rb, roo, rcp, hrs, hrc1, hrcell⟩ := sl_cell hrv (k := k) (by omega)
          subst hrs
          obtain ⟨z, hzz⟩ : ∃ z, z = (rs.getD t []).getD k 0 := ⟨_, rfl⟩
          have HZZ : Hid (z = (rs.getD t []).getD k 0) := hzz
          rw [← hzz] at hrcell
          have hkr : (k : Int) < ((rs.getD t []).length : Int) := by have := hrow.1; omega
          have HSN : Hid (((rs).take (t + 1)).map (fun r => r.getD k 0) = ((rs).take t).map (fun r => r.getD k 0) ++ [z]) := by
            show _ = _
            rw [acr_snoc htl k, hzz]
          generalize (rs.getD t []).length = rl at *
          have c37a : (wb.alloc (.cells #[.int .i64 z] 3)).cell? ⟨w.heap.size, k, none⟩ = some (.slice co t cc) := ((alloc_keep wb _).cell (p := ⟨w.heap.size, k, none⟩) (by have h1 := HGW.out; have h2 := HSZ.out; show w.heap.size < _; omega)).trans c37
          have HPU : Hid (∀ v' w5, w5.ownsRow wa.heap.size 3 1 v' (t + 1) (ints (((rs).take t).map (fun r => r.getD k 0)) ++ [.int .i64 z]) → (wb.drew.alloc (.cells #[.int .i64 z] 3)).grownBy w5 (Value.slice co t cc).ownBlock →
              w5.cell? ⟨w.heap.size, k, none⟩ = some (.slice co t cc) ∧ w5.frozen? ⟨w.heap.size, k, none⟩ = false ∧ Ai wa (w.heap.size) g.length k (t + 1) f (((rs).take (t + 1)).map (fun r => r.getD k 0)) v' (w5.setCell ⟨w.heap.size, k, none⟩ v')) := fun v' w5 ho hg5 => by
            have h0 : Ai wa (w.heap.size) g.length k t f (((rs).take t).map (fun r => r.getD k 0)) (.slice co t cc) wb.drew := ⟨HAI.out.chg.drew, HAI.out.row, HAI.out.own, HAI.out.len⟩
            rw [HSN.out]
            exact h0.push HGW.out hlt ho hg5
          have HNEW : Hid (∀ j u, [Value.int .i64 z][j]? = some u → (wb.drew.alloc (.cells #[.int .i64 z] 3)).cell? ((⟨wb.heap.size, 0, none⟩ : Addr).add j) = some u) := one_new wb.drew _ _
          have HNS : Hid (wa.heap.size ≤ (wb.drew.alloc (.cells #[.int .i64 z] 3)).heap.size) := by
            show _ ≤ _
            have := HSZ.out
            rw [size_alloc]
            show _ ≤ wb.heap.size + 1
            omega
          have htm : t + 1 ≤ maxLen := by unfold maxLen; omega
          have ht4 : t ≤ 1000 := by omega
          have htI0 : (0 : Int) ≤ (t : Int) := by omega
          have htI : (t : Int) < (rs.length : Int) := by omega
          clear hrow hrv hzz
          go_wp2
          go_region_law (refine step_append_own (o := { dst := some 37, op := _, type := _, pos := _, after := _, guard := _ }) (by rfl) _ _ 38 (by rfl) wa.heap.size 3 i3 (.int .i64 0) 1 8 Tryz.underlying38 hi3 hz30 hz31 hz32 rfl (by decide) _ _ _ (by rfl) (HO.out.alloc _) ⟨wb.heap.size, 0, none⟩ 1 1 [.int .i64 z] (by rfl) rfl HNEW.out (one_int _) htm (by omega) HNS.out ?_; intro v' w5 ho hg5; obtain ⟨vo', vc', hv'⟩ := owns_form ho; subst hv'; have FF : Hid _ := HPU.out _ w5 ho hg5; have LS1 := FF.out.1; have LS2 := FF.out.2.1; clear ho hg5)
          all_goals
            have HN : Hid (Ai wa (w.heap.size) g.length k (t + 1) f (((rs).take (t + 1)).map (fun r => r.getD k 0)) (.slice vo' (t + 1) vc') (w5.setCell ⟨w.heap.size, k, none⟩ (.slice vo' (t + 1) vc'))) := FF.out.2.2
            clear FF LS1 LS2 c37 c37a f37
            go_wp2
            go_roundw
            case rel => exact ⟨t + 1, _, by omega, by go_num, HN.out⟩
            case measure => simp [intOf]; omega
        · have hte : t = rs.length := by omega
          subst hte
          clear htl ht
          have hpl : (rs).take rs.length = rs := List.take_length
          have hgz1 : -60 ≤ gk := by omega
          have hgz2 : gk ≤ 60 := by omega
          have hsz : wa.heap.size ≤ wb.heap.size := HSZ.out
          obtain ⟨l, hl⟩ : ∃ l, l = ((rs).take rs.length).map (fun r => r.getD k 0) := ⟨_, rfl⟩
          have HL : Hid (l = (rs).map (fun r => r.getD k 0)) := by rw [hpl] at hl; exact hl
          rw [← hl] at HAI HO
          clear hpl hl
          go_wp2_with (first | (at_builtin; refine wpList_append_own _ rfl _ _ 38 rfl wa.heap.size 3 i3 (.int .i64 0) 1 8 Tryz.underlying38 hi3 hz30 hz31 hz32 rfl (by decide) _ _ _ rfl (HO.out.alloc _) ⟨wb.heap.size, 0, none⟩ 1 1 [.int .i64 (-gk)] rfl rfl (one_new _ _ _) (one_int _) ?c3 ?c4 ?c5 ?_))
          case c3 => unfold maxLen; omega
          case c4 => omega
          case c5 => simp; omega
          intro v' w3 ho hg3 _
          obtain ⟨vo', vc', hv'⟩ := owns_form ho
          subst hv'
          have FF := HAI.out.push HGW.out hlt ho hg3
          have LS1 := FF.1
          have LS2 := FF.2.1
          have HN : Hid (Ac w w.heap.size g.length (k + 1) (acrL g (rs)) (fun j => if j = k then .slice vo' (rs.length + 1) vc' else f j) (w3.setCell ⟨w.heap.size, k, none⟩ (.slice vo' (rs.length + 1) vc'))) :=
            HA.out.next FF.2.2 (by rw [acrL_at hlt, HL.out, acrR, HGK.out])
          clear FF ho hg3
          go_wp2
          go_roundw
          case rel => exact ⟨k + 1, _, by omega, by go_num, HN.out⟩
          case measure => simp [intOf]; omega
    · have hke : k = g.length := by omega
      subst hke
      go_wp2
      go_ret
      exact ⟨f, rfl, HA.out⟩

end Go.Proofs.YtknomkajibfmlaaGreat

/- choose.Picked over rows, with a capacity. -/
namespace Go.Proofs.YtknomkajibfmlaaGreat
open Go.RowKit

theorem pkd_snoc (P : List (List Int)) (x : List Int) (k : Nat) (h : k < x.length) : pks P [] (x.take (k + 1)) = pks P [] (x.take k) ++ [P.getD (x.getD k 0).toNat []] := by
  rw [take_snoc_int x k h]
  simp [pks]

set_option maxRecDepth 100000 in
set_option maxHeartbeats 800000 in
theorem pickedK_any (B : Nat) (P : List (List Int)) (x : List Int) (v u : Value) (w : World) (hv : Mat B 38 3 w v P) (hu : Sl B 3 w u (ints x)) (hx : ∀ i, i < x.length → 0 ≤ x.getD i 0 ∧ x.getD i 0 < P.length) (hl : x.length ≤ 1000) :
    Calls Tryz.prog 50 #[v, u] w fun e w' => ∃ z, e = .returned z ∧ Rws w.heap.size 38 3 w' z (pks P [] x) ∧ Below w.heap.size w w' := by
  obtain ⟨i0, hi, hz0, hz1, hz2⟩ := info_parts Tryz.info38
  obtain ⟨ao, cap, hvv, hlc, hcm⟩ := mat_open hv
  obtain ⟨bo, cbp, huu, hlb, hcb⟩ := sl_open hu
  subst hvv huu
  have HV : Hid (Mat w.heap.size 38 3 w (.slice ao P.length cap) P) := hv.any (Nat.le_refl _)
  have HU : Hid (Sl B 3 w (.slice bo x.length cbp) (ints x)) := hu
  have HX : Hid (∀ i, i < x.length → 0 ≤ x.getD i 0 ∧ x.getD i 0 < P.length) := hx
  clear hv hu hx
  have hmk := run_make_room (P := Tryz.prog) 22 38 (.slice none 0 0) 24 Tryz.underlying22 Tryz.info38 rfl .i64 .i64 x.length (by omega) (by omega)
  have HO0 : Hid (Rws w.heap.size 38 3 (w.alloc (.cells (madeCells #[.slice none 0 0] x.length) 38)) (.slice (some ⟨w.heap.size, 0, none⟩) 0 x.length) []) :=
    ⟨[], rfl, World.ownsRow_made w _ x.length (Nat.le_refl _) (by unfold maxLen; omega) (by rw [size_madeCells]; omega), fun i hi => absurd hi (by simp)⟩
  have HB0 : Hid (Below w.heap.size w (w.alloc (.cells (madeCells #[.slice none 0 0] x.length) 38))) := alloc_keep _ _
  go_enter Tryz.func50, Tryz.ntmps50
  go_wp2
  go_loopw [5, 13, 7] (fun s i _ wr => ∃ k : Nat, k ≤ x.length ∧ i = .int .i64 k ∧ Rws w.heap.size 38 3 wr s (pks P [] (x.take k)) ∧ Below w.heap.size w wr) (fun _ i _ _ => x.length - (intOf i).toNat)
  case atStart => exact ⟨0, Nat.zero_le _, rfl, HO0.out, HB0.out⟩
  case round =>
    obtain ⟨k, hk, rfl, hr, hb⟩ := hrel
    have HR : Hid (Rws w.heap.size 38 3 wr u5 (pks P [] (x.take k))) := hr
    have HB : Hid (Below w.heap.size w wr) := hb
    have hsz : w.heap.size ≤ wr.heap.size := hb.size
    clear hr hb
    by_cases hlt : k < x.length
    · obtain ⟨b, o, cp, hs, hc1, hcc⟩ := sl_cell (HU.out.below HB.out (Nat.le_refl _)) hlt
      simp only [Value.slice.injEq] at hs
      obtain ⟨rfl, _, rfl⟩ := hs
      obtain ⟨hx0, hx1⟩ := HX.out k hlt
      have HSN : Hid (pks P [] (x.take (k + 1)) = pks P [] (x.take k) ++ [P.getD (x.getD k 0).toNat []]) := pkd_snoc P x k hlt
      have HLN : Hid ((pks P [] (x.take k)).length = k) := by show _ = _; simp [pks]; omega
      obtain ⟨q, hq⟩ : ∃ q : Nat, x.getD k 0 = (q : Int) := ⟨(x.getD k 0).toNat, by omega⟩
      rw [hq] at hcc hx0 hx1 HSN
      rw [show ((q : Int)).toNat = q by omega] at HSN
      clear hq
      have hqP : q < P.length := by omega
      obtain ⟨b2, o2, cp2, r2, hs2, _, hcc2, hr2⟩ := mat_cell (HV.out.below HB.out (Nat.le_refl _)) hqP
      simp only [Value.slice.injEq, true_and] at hs2
      obtain ⟨rfl, rfl⟩ := hs2
      obtain ⟨ro, rc, hrv, _, _⟩ := sl_open hr2
      subst hrv
      have HR2 : Hid (Sl w.heap.size 3 wr (.slice ro (P.getD q []).length rc) (ints (P.getD q []))) := hr2
      clear hr2
      generalize P.getD q [] = y at *
      generalize hyl : y.length = yl at *
      clear hyl
      obtain ⟨vs, g1, g2, g3⟩ := HR.out
      have hlen := HLN.out
      rw [hlen] at g1 g2 g3
      have G1 : Hid (vs.length = k) := g1
      have G2 : Hid (wr.ownsRow w.heap.size 38 1 u5 k vs) := g2
      have G3 : Hid (∀ i, i < k → Sl w.heap.size 3 wr (vs.getD i (.slice none 0 0)) (ints ((pks P [] (x.take k)).getD i []))) := g3
      clear g1 g2 g3 hlen
      go_wp2_with (first | (at_builtin; refine wpList_append_own _ rfl _ _ 22 rfl w.heap.size 38 i0 (.slice none 0 0) 1 24 Tryz.underlying22 hi hz0 hz1 hz2 rfl (by decide) _ _ _ rfl (G2.out.alloc _) ⟨wr.heap.size, 0, none⟩ 1 1 [.slice ro yl rc] rfl rfl (one_new _ _ _) (one_slice _ _ _) ?d3 ?d4 ?d5 ?_))
      case d3 => unfold maxLen; omega
      case d4 => omega
      case d5 => simp; omega
      intro v' w3 ho hg _
      have R1 : Hid (Rws w.heap.size 38 3 w3 v' (pks P [] (x.take (k + 1)))) := by
        have hp := Rws.push (e2 := 38) (e1 := 3) (m := pks P [] (x.take k)) (u := .slice ro yl rc) (zs := y) (by decide) (by rw [HLN.out]; exact G1.out) (by rw [HLN.out]; exact G2.out.alloc _)
          (fun i hi => (G3.out i (by rw [HLN.out] at hi; exact hi)).alloc _) (HR2.out.alloc _) (by rw [HLN.out]; exact ho) hg
        rw [← HSN.out] at hp
        exact hp
      have R2 : Hid (Below w.heap.size w w3) := (HB.out.alloc hsz _).grown hg (by simp; omega) (fun x hx => (G2.out.lt x hx).1)
      clear ho hg
      go_wp2
      go_roundw
      case rel => exact ⟨k + 1, by omega, by go_num, R1.out, R2.out⟩
      case measure => simp [intOf]; omega
    · have hke : x.take k = x := List.take_of_length_le (by omega)
      have HR' : Hid (Rws w.heap.size 38 3 wr u5 (pks P [] x)) := by have := HR.out; rw [hke] at this; exact this
      clear HR
      go_wp2
      go_ret
      exact ⟨_, rfl, HR'.out, HB.out⟩
end Go.Proofs.YtknomkajibfmlaaGreat
