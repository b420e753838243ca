/- facetref.meets: whether planes have a place in common, and their rank. -/
import Derived.Test.YtgfnmkenpgnllaaGreatEz5
import Derived.Test.YtgfnmkenpgnllaaGreatSg5
import Derived.Test.YtgfnmkenpgnllaaGreatSh2
import Derived.Test.YtgfnmkenpgnllaaGreatEm0
import Derived.Maps.AppendAt
namespace Go.Proofs.YtgfnmkenpgnllaaGreat
open Go.RowKit Lin
attribute [local go_sem ↓] Go.wp_at_zero Go.wp_at_succ

theorem Fr.mat0 {B : Nat} {w : World} {v : Value} {m : List (List Int)} (h : Fr B 22 3 w v m) : Mat 0 22 3 w v m := by
  obtain ⟨vs, h1, h2, h3⟩ := h
  exact ⟨vs, h1, Sl.own h2, h3⟩

/-- Two rows of rows that grow side by side. -/
structure E2 (B : Nat) (w0 wr : World) (hv ov : Value) (HV WS : List (List Int)) : Prop where
  h : Fr B 22 3 wr hv HV
  o : Fr B 22 3 wr ov WS
  ap : Apart hv ov
  bel : Below B w0 wr

theorem E2.swap {B : Nat} {w0 wr : World} {hv ov : Value} {HV WS : List (List Int)} (h : E2 B w0 wr hv ov HV WS) : E2 B w0 wr ov hv WS HV := ⟨h.o, h.h, fun g h1 h2 => h.ap g h2 h1, h.bel⟩

theorem E2.push {B : Nat} {w0 wr w5 : World} {hv ov v' u : Value} {HV WS : List (List Int)} {vs : List Value} {zs : List Int} {ob : Obj} (h : E2 B w0 wr hv ov HV WS) (hB : B ≤ wr.heap.size)
    (g1 : vs.length = HV.length) (g2 : wr.ownsRow B 22 1 hv HV.length vs) (g3 : ∀ i, i < HV.length → Sl 0 3 wr (vs.getD i (.slice none 0 0)) (ints (HV.getD i []))) (hu : Sl 0 3 wr u (ints zs))
    (ho : w5.ownsRow B 22 1 v' (HV.length + 1) (vs ++ [u])) (hg : (wr.alloc ob).grownBy w5 hv.ownBlock) (hat : v'.ownBlock = hv.ownBlock ∨ v'.ownBlock = some (wr.heap.size + 1)) : E2 B w0 w5 v' ov (HV ++ [zs]) WS := by
  refine ⟨Fr.push (e2 := 22) (e1 := 3) (by decide) g1 (g2.alloc _) (fun i hi => (g3 i hi).alloc _) (hu.alloc _) ho hg, (h.o.alloc _).kept (by decide) (g2.alloc _) hg h.ap, fun g k1 k2 => ?_, (h.bel.alloc hB _).grown hg (by simp; omega) (fun x hx => (g2.lt x hx).1)⟩
  rcases hat with e | e
  · rw [e] at k1; exact h.ap g k1 k2
  · rw [e] at k1
    simp only [Option.some.injEq] at k1
    obtain ⟨_, _, q2, _⟩ := h.o
    have := (q2.lt g k2).2
    omega

theorem rk_takeE {d : Nat} {P : List (List Int)} : rk d (P.map (List.take d)) = rk d P := by
  have e : ∀ (r : List Int) v, dot d (V (r.take d)) v = dot d (V r) v := fun r v => dot_congr (fun i hi => by simp [V, List.getD_eq_getElem?_getD, List.getElem?_take_of_lt hi]) fun _ _ => rfl
  refine rk_eq fun v => ⟨fun h r hr => ?_, fun h r hr => ?_⟩
  · obtain ⟨p, hp, rfl⟩ := List.mem_map.1 hr
    rw [e]; exact h p hp
  · rw [← e]; exact h _ (List.mem_map.2 ⟨r, hr, rfl⟩)

theorem getD_mapN (F : List Nat) (k : Nat) (h : k < F.length) : (F.map fun (i : Nat) => (i : Int)).getD k 0 = ((F.getD k 0 : Nat) : Int) := by simp [h]
theorem getD_mapP (F : List Nat) (P : List (List Int)) (k : Nat) (h : k < F.length) : (F.map fun i => P.getD i []).getD k [] = P.getD (F.getD k 0) [] := by simp [h]

theorem snoc_take {α : Type} (l : List α) (k : Nat) (h : k < l.length) (e : α) : l.take (k + 1) = l.take k ++ [l.getD k e] := by
  rw [List.take_succ_eq_append_getElem h]
  simp [h]

set_option maxRecDepth 100000 in
set_option maxHeartbeats 4000000 in
theorem meets_any (d s : Nat) (P : List (List Int)) (v : Value) (w : World) (hv : Mat 0 22 3 w v P) (hP : ∀ p ∈ P, p.length = d + 1 ∧ ∀ z ∈ p, z.natAbs ≤ 20) (hd1 : 1 ≤ d) (hd3 : d ≤ 3) (h6 : P.length ≤ 6) (hs : s < 2 ^ P.length) :
    Calls Tryz.prog 30 #[.int .i64 d, v, .int .i64 s] w fun e w' => e = .returned (.tuple #[.bool (cen d P s), .int .i64 (rk d (plS P s) : Nat)]) ∧ Below w.heap.size w w' := by
  obtain ⟨i0, hi, hz0, hz1, hz2⟩ := info_parts Tryz.info22
  obtain ⟨ro, rc, hvv, hlc, hcm⟩ := mat_open hv
  subst hvv
  obtain ⟨F, hF⟩ : ∃ F : List Nat, F = (List.range P.length).filter fun i => s.testBit i := ⟨_, rfl⟩
  have hFm : ∀ i ∈ F, i < P.length := fun i hi => by rw [hF] at hi; exact List.mem_range.1 (List.mem_filter.1 hi).1
  have hFl : F.length ≤ 6 := by rw [hF]; exact Nat.le_trans (List.length_filter_le _ _) (by simpa using h6)
  have hL : memL P.length s = F.map fun (i : Nat) => (i : Int) := by rw [hF]; rfl
  have hR : plS P s = F.map fun i => P.getD i [] := by rw [hF]; rfl
  have hRp : ∀ p ∈ plS P s, p.length = d + 1 ∧ ∀ z ∈ p, z.natAbs ≤ 20 := fun p hp => by
    rw [hR] at hp
    obtain ⟨i, hi, rfl⟩ := List.mem_map.1 hp
    exact hP _ (getD_memR (hFm i hi))
  have HMB : Hid (Calls Tryz.prog 31 #[.int .i64 s] w fun e w' => ∃ uo uc, e = .returned (.slice uo F.length uc) ∧ Sl 0 3 w' (.slice uo F.length uc) (ints (F.map fun (i : Nat) => (i : Int))) ∧ Below w.heap.size w w') := by
    refine (membersN_any s P.length w hs (by omega)).mono ?_
    rintro e w' ⟨u, rfl, h1, h2⟩
    rw [hL, List.length_map] at h1
    obtain ⟨uo, uc, rfl⟩ := owns_form h1
    exact ⟨uo, uc, rfl, Sl.own h1, h2⟩
  have HRA : Hid (∀ (u : Value) X, Mat 0 22 3 X u ((plS P s).map (List.take d)) → Calls Tryz.prog 24 #[u] X fun e w' => e = .returned (.int .i64 (rk d (plS P s) : Nat)) ∧ Below X.heap.size X w') := fun u X hu => by
    have := rankR_any d 60 0 ((plS P s).map (List.take d)) u X ⟨fun r hr => by
      obtain ⟨p, hp, rfl⟩ := List.mem_map.1 hr
      rw [List.length_take, (hRp p hp).1]; omega, fun r hr z hz => by
      obtain ⟨p, hp, rfl⟩ := List.mem_map.1 hr
      have := (hRp p hp).2 z (List.mem_of_mem_take hz)
      omega, by omega, by omega, by decide, by
      rcases (show d = 1 ∨ d = 2 ∨ d = 3 by omega) with rfl | rfl | rfl <;> decide⟩ hu (by rw [hR]; simp; omega)
    have e : (pickL d ((plS P s).map (List.take d))).length = rk d (plS P s) := rk_takeE
    rw [e] at this
    exact this
  have HRB : Hid (∀ (u : Value) X, Mat 0 22 3 X u (plS P s) → Calls Tryz.prog 24 #[u] X fun e w' => e = .returned (.int .i64 (rk (d + 1) (plS P s) : Nat)) ∧ Below X.heap.size X w') := fun u X hu => rankR_any (d + 1) 60 0 (plS P s) u X (mx_few hd1 hd3 hRp) hu (by rw [hR]; simp; omega)
  have HCE : Hid (cen d P s = (((rk (d + 1) (plS P s) : Nat) : Int) == ((rk d (plS P s) : Nat) : Int))) := by
    show _ = _
    unfold cen
    rw [Bool.eq_iff_iff, beq_iff_eq, beq_iff_eq]
    omega
  have HRW : Hid (∀ k, k < F.length → ∃ t b o rb rf rcc, t = F.getD k 0 ∧ ro = some ⟨b, o, none⟩ ∧ t < P.length ∧ d + 1 ≤ rcc ∧ ∀ X, Below w.heap.size w X → X.cell? ⟨b, o + t, none⟩ = some (.slice (some ⟨rb, rf, none⟩) (d + 1) rcc) ∧ Sl 0 3 X (.slice (some ⟨rb, rf, none⟩) (d + 1) rcc) (ints ((plS P s).getD k [])) ∧ Sl 0 3 X (.slice (some ⟨rb, rf, none⟩) d rcc) (ints (((plS P s).getD k []).take d))) := fun k hk => by
    have ht : F.getD k 0 < P.length := hFm _ (by rw [List.getD_eq_getElem?_getD, List.getElem?_eq_getElem hk]; exact List.getElem_mem _)
    obtain ⟨b, o, cp, rv, e1, _, hc1, hs1⟩ := mat_cell hv ht
    simp only [Value.slice.injEq] at e1
    have hpl := (hP _ (getD_memR ht)).1
    obtain ⟨rb, rf, rcc, hrv, hrc1, _⟩ := sl_cell hs1 (k := 0) (by omega)
    rw [hpl] at hrv hrc1
    subst hrv
    refine ⟨_, b, o, rb, rf, rcc, rfl, e1.1, ht, by omega, fun X hX => ?_⟩
    have h1 := hs1.below hX (Nat.le_refl _)
    rw [hR, getD_mapP F P k hk]
    exact ⟨(hX.cell (lt_of_cell hc1)).trans hc1, h1, Sl.takeE (by rw [hpl]; exact h1) (by omega)⟩
  have hRl : (plS P s).length = F.length := by rw [hR]; simp
  have HRT : Hid (∀ k, k < F.length → (plS P s).take (k + 1) = (plS P s).take k ++ [(plS P s).getD k []]) := fun k hk => snoc_take _ k (by omega) []
  have HRL : Hid ((plS P s).take F.length = plS P s) := List.take_of_length_le (by omega)
  have HTL : Hid (∀ k, k ≤ F.length → ((plS P s).take k).length = k) := fun k hk => by rw [List.length_take]; omega
  clear hv hP hF hFm hL hR hRp hRl hs
  generalize cen d P s = ce at *
  generalize plS P s = R at *
  generalize rk d R = ra at *
  generalize rk (d + 1) R = rb at *
  go_enter Tryz.func30, Tryz.ntmps30
  go_wp2_with fail
  refine HMB.out.mono ?_
  rintro e w1 ⟨uo, uc, rfl, hl1, hb1⟩
  have HL1 : Hid (Sl 0 3 w1 (.slice uo F.length uc) (ints (F.map fun (i : Nat) => (i : Int)))) := hl1
  have HB1 : Hid (Below w.heap.size w w1) := hb1
  clear hl1 hb1 HMB
  go_wp2
  go_loopw [9, 10, 11] (fun x y i wr => ∃ k : Nat, k ≤ F.length ∧ i = .int .i64 k ∧ E2 w1.heap.size w1 wr x y ((R.take k).map (List.take d)) (R.take k)) (fun _ _ i _ => F.length - (intOf i).toNat)
  case atStart => exact ⟨0, Nat.zero_le _, rfl, ⟨Fr.nil _ _ _ _, Fr.nil _ _ _ _, (fun g h => by cases h), Below.refl _ _⟩⟩
  case round =>
    obtain ⟨k, hk, rfl, hf⟩ := hrel
    obtain ⟨wa, rfl⟩ : ∃ wa, wa = wr := ⟨_, rfl⟩
    have HF : Hid (E2 w1.heap.size w1 wa u9 u10 ((R.take k).map (List.take d)) (R.take k)) := hf
    have hsza : w1.heap.size ≤ wa.heap.size := hf.bel.size
    have HBW : Hid (∀ X, Below w1.heap.size w1 X → Below w.heap.size w X) := fun X hX => HB1.out.trans (hX.mono HB1.out.size)
    clear hf
    by_cases hlt : k < F.length
    · obtain ⟨t, b, o, rb', rf, rcc, ht, rfl, htP, hrcc, hrow⟩ := HRW.out k hlt
      have HROW : Hid (∀ X, Below w.heap.size w X → X.cell? ⟨b, o + t, none⟩ = some (.slice (some ⟨rb', rf, none⟩) (d + 1) rcc) ∧ Sl 0 3 X (.slice (some ⟨rb', rf, none⟩) (d + 1) rcc) (ints (R.getD k [])) ∧ Sl 0 3 X (.slice (some ⟨rb', rf, none⟩) d rcc) (ints ((R.getD k []).take d))) := hrow
      obtain ⟨lb, lo, lc, hle, _, hlk⟩ := sl_cell HL1.out (k := k) (by simpa using hlt)
      rw [getD_mapN F k hlt, ← ht] at hlk
      simp only [Value.slice.injEq] at hle
      obtain ⟨rfl, -, rfl⟩ := hle
      have HLK : Hid (∀ X, Below w1.heap.size w1 X → X.cell? ⟨lb, lo + k, none⟩ = some (.int .i64 t)) := fun X hX => (hX.cell (lt_of_cell hlk)).trans hlk
      have HTA : Hid ((R.take (k + 1)).map (List.take d) = (R.take k).map (List.take d) ++ [(R.getD k []).take d]) := by show _ = _; rw [HRT.out k hlt]; simp
      have HTB : Hid (R.take (k + 1) = R.take k ++ [R.getD k []]) := HRT.out k hlt
      have HLA : Hid (((R.take k).map (List.take d)).length ≤ 6 ∧ (R.take k).length ≤ 6) := by
        have := HTL.out k hk
        refine ⟨?_, by omega⟩
        rw [List.length_map]; omega
      clear hrow ht hlk
      generalize R.getD k [] = p at *
      generalize (R.take k).map (List.take d) = A at *
      generalize R.take k = B at *
      obtain ⟨hla, hlb⟩ := HLA.out
      have c1 := HLK.out wa HF.out.bel
      obtain ⟨c2, -, -⟩ := HROW.out wa (HBW.out wa HF.out.bel)
      obtain ⟨vs, g1, g2, g3⟩ := HF.out.h
      have G2 : Hid (wa.ownsRow w1.heap.size 22 1 u9 A.length vs) := g2
      have HPU : Hid (∀ v' w3, w3.ownsRow w1.heap.size 22 1 v' (A.length + 1) (vs ++ [.slice (some ⟨rb', rf, none⟩) d rcc]) → (wa.alloc (.cells #[.slice (some ⟨rb', rf, none⟩) d rcc] 22)).grownBy w3 u9.ownBlock → (v'.ownBlock = u9.ownBlock ∨ v'.ownBlock = some (wa.heap.size + 1)) → E2 w1.heap.size w1 w3 v' u10 (A ++ [p.take d]) B) := fun v' w3 ho hg hat => HF.out.push hsza g1 g2 g3 (HROW.out wa (HBW.out wa HF.out.bel)).2.2 ho hg hat
      have hkI : (k : Int) < (F.length : Int) := by omega
      have hkI0 : (0 : Int) ≤ (k : Int) := by omega
      have htI : (t : Int) < (P.length : Int) := by omega
      have htI0 : (0 : Int) ≤ (t : Int) := by omega
      have hdI : (d : Int) ≤ (rcc : Int) := by omega
      have hdI0 : (0 : Int) ≤ (d : Int) := by omega
      clear g1 g2 g3 HLA
      go_wp2_with (first | (at_builtin; refine wpList_append_own_at _ rfl _ _ 25 rfl w1.heap.size 22 i0 (.slice none 0 0) 1 24 Tryz.underlying25 hi hz0 hz1 hz2 rfl (by decide) _ _ _ rfl (G2.out.alloc _) ⟨wa.heap.size, 0, none⟩ 1 1 [.slice (some ⟨rb', rf, none⟩) d rcc] rfl rfl (one_new _ _ _) (one_slice _ _ _) ?d3 ?d4 ?d5 ?_))
      case d3 => unfold maxLen; omega
      case d4 => omega
      case d5 => first | omega | (simp; omega)
      intro x6 w3 ho hg _ hat
      have HF3 : Hid (E2 w1.heap.size w1 w3 x6 u10 (A ++ [p.take d]) B) := HPU.out x6 w3 ho hg (by simpa using hat)
      obtain ⟨xo, xc, hxv⟩ := owns_form ho
      subst hxv
      clear ho hg hat HPU G2 c1 c2
      have hsz3 : w1.heap.size ≤ w3.heap.size := HF3.out.bel.size
      have c1 := HLK.out w3 HF3.out.bel
      obtain ⟨c2, -, -⟩ := HROW.out w3 (HBW.out w3 HF3.out.bel)
      obtain ⟨vs, g1, g2, g3⟩ := HF3.out.o
      have G2 : Hid (w3.ownsRow w1.heap.size 22 1 u10 B.length vs) := g2
      have HPU : Hid (∀ v' w4, w4.ownsRow w1.heap.size 22 1 v' (B.length + 1) (vs ++ [.slice (some ⟨rb', rf, none⟩) (d + 1) rcc]) → (w3.alloc (.cells #[.slice (some ⟨rb', rf, none⟩) (d + 1) rcc] 22)).grownBy w4 u10.ownBlock → (v'.ownBlock = u10.ownBlock ∨ v'.ownBlock = some (w3.heap.size + 1)) → E2 w1.heap.size w1 w4 (.slice xo (A.length + 1) xc) v' (A ++ [p.take d]) (B ++ [p])) := fun v' w4 ho hg hat => (HF3.out.swap.push hsz3 g1 g2 g3 (HROW.out w3 (HBW.out w3 HF3.out.bel)).2.1 ho hg hat).swap
      clear g1 g2 g3
      go_wp2_with (first | (at_builtin; refine wpList_append_own_at _ rfl _ _ 25 rfl w1.heap.size 22 i0 (.slice none 0 0) 1 24 Tryz.underlying25 hi hz0 hz1 hz2 rfl (by decide) _ _ _ rfl (G2.out.alloc _) ⟨w3.heap.size, 0, none⟩ 1 1 [.slice (some ⟨rb', rf, none⟩) (d + 1) rcc] rfl rfl (one_new _ _ _) (one_slice _ _ _) ?d3 ?d4 ?d5 ?_))
      case d3 => unfold maxLen; omega
      case d4 => omega
      case d5 => first | omega | (simp; omega)
      intro y6 w4 ho hg _ hat
      have HF4 : Hid (E2 w1.heap.size w1 w4 (.slice xo (A.length + 1) xc) y6 ((R.take (k + 1)).map (List.take d)) (R.take (k + 1))) := by
        show E2 _ _ _ _ _ _ _
        rw [HTA.out, HTB.out]
        exact HPU.out y6 w4 ho hg (by simpa using hat)
      clear ho hg hat HPU G2 c1 c2
      go_wp2
      exact ⟨⟨k + 1, by omega, by go_num, HF4.out⟩, by simp [intOf]; omega⟩
    · have hke : k = F.length := by omega
      subst hke
      have HFE : Hid (E2 w1.heap.size w1 wa u9 u10 (R.map (List.take d)) R) := by have h := HF.out; rw [HRL.out] at h; exact h
      have HA := HRA.out u9 wa HFE.out.h.mat0
      have HA2 : Hid (Calls Tryz.prog 24 #[u9] wa fun e w' => e = .returned (.int .i64 (ra : Nat)) ∧ Below wa.heap.size wa w') := HA
      clear HA HF
      go_wp2_with fail
      refine HA2.out.mono ?_
      rintro e w2 ⟨rfl, hb2⟩
      have HB2 := HRB.out u10 w2 (HFE.out.o.below hb2 (Nat.le_refl _)).mat0
      have HB3 : Hid (Calls Tryz.prog 24 #[u10] w2 fun e w' => e = .returned (.int .i64 (rb : Nat)) ∧ Below w2.heap.size w2 w') := HB2
      have HBE : Hid (Below w.heap.size w w2) := HBW.out w2 (HFE.out.bel.trans (hb2.mono hsza))
      clear HB2 hb2 HA2
      go_wp2_with fail
      refine HB3.out.mono ?_
      rintro e w3 ⟨rfl, hb3⟩
      have HBF : Hid (Below w.heap.size w w3) := HBE.out.trans (hb3.mono HBE.out.size)
      clear hb3 HB3 HFE HBE
      go_wp2
      refine bodyPost_ret (v := .tuple #[.bool ce, .int .i64 (ra : Nat)]) (by rw [HCE.out]; simp [results, Tryz.results30, go_sem]) rfl ⟨rfl, HBF.out⟩
end Go.Proofs.YtgfnmkenpgnllaaGreat
