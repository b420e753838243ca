/- facetref.PlaneFlats: the walk. -/
import Derived.Test.YtgfnmkenpgnllaaGreatEz10
namespace Go.Proofs.YtgfnmkenpgnllaaGreat
open Go.RowKit Lin
attribute [local go_sem ↓] Go.wp_at_zero Go.wp_at_succ

theorem shr_bit (t k : Nat) : (((t : Int) / 2 ^ k).tmod 2 == 0) = !t.testBit k := by
  have eq0 : (t : Int) / 2 ^ k = ((t / 2 ^ k : Nat) : Int) := by simp
  have hbit : t.testBit k = decide (t / 2 ^ k % 2 = 1) := Nat.testBit_eq_decide_div_mod_eq
  rw [eq0, hbit]
  generalize t / 2 ^ k = q
  have e : (q : Int).tmod 2 = ((q % 2 : Nat) : Int) := by rw [Int.tmod_eq_emod_of_nonneg (by omega)]; omega
  rw [e]
  rcases (show q % 2 = 0 ∨ q % 2 = 1 by omega) with h | h <;> simp [h]

set_option maxRecDepth 100000 in
set_option maxHeartbeats 8000000 in
theorem planeFlats_any (d : Nat) (P : List (List Int)) (v : Value) (w : World) (hv : Mat 0 22 3 w v P) (hP : ∀ p ∈ P, p.length = d + 1 ∧ ∀ z ∈ p, z.natAbs ≤ 20) (hd1 : 1 ≤ d) (hd3 : d ≤ 3) (h6 : P.length ≤ 6) :
    Calls Tryz.prog 11 #[.int .i64 d, v] w fun e w' => ∃ ov rv O, e = .returned (.tuple #[ov, rv]) ∧ Fr w.heap.size 22 3 w' ov O ∧ FlQ d P (d + 1) O ∧ Below w.heap.size w w' := by
  obtain ⟨i0, hi, hz0, hz1, hz2⟩ := info_parts Tryz.info22
  obtain ⟨i3, hi3, hz30, hz31, hz32⟩ := info_parts Tryz.info3
  obtain ⟨ro, rc, hvv, hlc, hcm⟩ := mat_open hv
  subst hvv
  obtain ⟨tn, htn⟩ : ∃ tn : Nat, tn = 2 ^ P.length := ⟨_, rfl⟩
  have HTI : Hid ((2 : Int) ^ P.length = (tn : Int)) := by show _ = _; rw [htn]; simp
  have htl : tn ≤ 64 := by rw [htn]; exact show 2 ^ P.length ≤ 2 ^ 6 from Nat.pow_le_pow_right (by omega) h6
  have HWT : Hid (IntKind.i64.wrap (tn : Int) = (tn : Int)) := wrap_small _ (by omega) (by omega)
  have HME : Hid (∀ s X, s < tn → Below w.heap.size w X → Calls Tryz.prog 30 #[.int .i64 d, .slice ro P.length rc, .int .i64 s] X fun e w' => e = .returned (.tuple #[.bool (cen d P s), .int .i64 (rk d (plS P s) : Nat)]) ∧ Below X.heap.size X w') := fun s X hs hX => meets_any d s P _ X (hv.below hX (Nat.le_refl _)) hP hd1 hd3 h6 (by rw [← htn]; exact hs)
  have HMB : Hid (∀ s X, s < tn → Calls Tryz.prog 31 #[.int .i64 s] X fun e w' => ∃ uo uc, e = .returned (.slice uo (memL P.length s).length uc) ∧ Sl 0 3 w' (.slice uo (memL P.length s).length uc) (ints (memL P.length s)) ∧ Below X.heap.size X w') := fun s X hs => by
    refine (membersN_any s P.length X (by rw [← htn]; exact hs) (by omega)).mono ?_
    rintro e w' ⟨u, rfl, h1, h2⟩
    obtain ⟨uo, uc, rfl⟩ := owns_form h1
    exact ⟨uo, uc, rfl, Sl.own h1, h2⟩
  have HSO : Hid (∀ q u X, Mat 0 22 3 X u (dfM d P q tn) → Calls Tryz.prog 32 #[u] X fun e w' => ∃ xo xc s, e = .returned (.slice xo s.length xc) ∧ FrN X.heap.size w' (.slice xo s.length xc) s ∧ (s.length ≤ 64 ∧ ∀ O, FlQ d P q O → FlQ d P (q + 1) (O ++ s)) ∧ Below X.heap.size X w') := fun q u X hu => by
    refine (sortN_any 0 _ u X hu (Nat.le_trans (dfM_len d P q tn) (by omega)) (fun r hr => ?_)).mono ?_
    · unfold dfM at hr
      obtain ⟨t, _, rfl⟩ := List.mem_map.1 hr
      exact Nat.le_trans (meE_len t P.length) (by omega)
    · rintro e w' ⟨x, s, rfl, h1, h2, h3, h4⟩
      obtain ⟨xo, xc, rfl, _, _⟩ := fr_open h1.fr
      refine ⟨xo, xc, s, rfl, h1, ⟨?_, fun O hO => hO.succ h2 (by rw [← htn]; exact h3)⟩, h4⟩
      exact Nat.le_trans (nodupE s _ (sascE h2) fun r hr => (h3 r).1 hr) (Nat.le_trans (dfM_len d P q tn) htl)
  have HAB : Hid (∀ s i, s < tn → i < P.length → s.testBit i = false → s + 2 ^ i < tn) := fun s i hs hi hb => by
    rw [htn] at hs ⊢
    exact (add_bit h6 hs hi hb).1
  have HPW : Hid (∀ i, i < P.length → 2 ^ i ≤ 64) := fun i hi => Nat.le_trans (Nat.pow_le_pow_right (by decide) (show i ≤ 6 by omega)) (by decide)
  have HDS : Hid (∀ q s, dfM d P q (s + 1) = dfM d P q s ++ if dfl d P q s = true then [memL P.length s] else []) := fun q s => dfM_succ d P q s
  have HDL : Hid (∀ q s, (dfM d P q s).length ≤ s) := fun q s => dfM_len d P q s
  have HDF : Hid (∀ q s, dfl d P q s = ((cen d P s && decide (rk d (plS P s) = q)) && dfT d P q s P.length)) := fun q s => rfl
  have HDT : Hid (∀ q s k, dfT d P q s (k + 1) = (dfT d P q s k && (s.testBit k || !(cen d P (s + 2 ^ k) && decide (rk d (plS P (s + 2 ^ k)) = q))))) := fun q s k => dfT_succ d P q s k
  have HQ0 : Hid (FlQ d P 0 []) := FlQ.zero d P
  have HT0 : Hid (∀ q s, dfT d P q s 0 = true) := fun q s => rfl
  have HM0 : Hid (∀ q, dfM d P q 0 = []) := fun q => rfl
  clear hv hP htn
  generalize hnp : P.length = nP at *
  clear hnp
  go_enter Tryz.func11, Tryz.ntmps11
  go_wp2
  go_loopw [6, 7, 8, 9, 10, 11, 12, 13, 14, 15, 16] (fun x y r _ _ _ _ _ _ _ _ wr => ∃ (q : Nat) (O : List (List Int)), q ≤ d + 1 ∧ r = .int .i64 q ∧ FlQ d P q O ∧ O.length ≤ 64 * q ∧ PfI w.heap.size w wr x y O O.length) (fun _ _ r _ _ _ _ _ _ _ _ _ => d + 1 - (intOf r).toNat)
  case atStart => exact ⟨0, [], Nat.zero_le _, rfl, HQ0.out, Nat.zero_le _, PfI.nil _ _⟩
  case round =>
    obtain ⟨q, O, hq, rfl, hfq, hol, hpf⟩ := hrel
    obtain ⟨wa, rfl⟩ : ∃ wa, wa = wr := ⟨_, rfl⟩
    have HFQ : Hid (FlQ d P q O) := hfq
    have HPF : Hid (PfI w.heap.size w wa u6 u7 O O.length) := hpf
    have HOL : Hid (O.length ≤ 64 * q) := hol
    have hsza : w.heap.size ≤ wa.heap.size := hpf.bel.size
    clear hfq hpf hol
    by_cases hlt : q ≤ d
    · have hqI : (q : Int) ≤ (d : Int) := by omega
      have hq3 : q ≤ 3 := by omega
      go_wp2
      go_loopw [9, 10, 11, 12, 13, 14, 15] (fun l s _ _ _ _ _ wq => ∃ t : Nat, t ≤ tn ∧ s = .int .i64 t ∧ Fr wa.heap.size 22 3 wq l (dfM d P q t) ∧ Below wa.heap.size wa wq) (fun _ s _ _ _ _ _ _ => tn - (intOf s).toNat)
      case atStart => exact ⟨0, Nat.zero_le _, rfl, by rw [HM0.out]; exact Fr.nil _ _ _ _, Below.refl _ _⟩
      case round =>
        obtain ⟨t, ht, rfl, hfr, hbq⟩ := hrel
        obtain ⟨wq, rfl⟩ : ∃ wq, wq = wr := ⟨_, rfl⟩
        have HFR : Hid (Fr wa.heap.size 22 3 wq u9 (dfM d P q t)) := hfr
        have HBQ : Hid (Below wa.heap.size wa wq) := hbq
        have HBW : Hid (Below w.heap.size w wq) := HPF.out.bel.trans (hbq.mono hsza)
        have hszq : wa.heap.size ≤ wq.heap.size := hbq.size
        clear hfr hbq
        by_cases htl2 : t < tn
        · have htI : (t : Int) < (tn : Int) := Int.ofNat_lt.2 htl2
          have HM : Hid (Calls Tryz.prog 30 #[.int .i64 d, .slice ro nP rc, .int .i64 t] wq fun e w' => e = .returned (.tuple #[.bool (cen d P t), .int .i64 (rk d (plS P t) : Nat)]) ∧ Below wq.heap.size wq w') := HME.out t wq htl2 HBW.out
          have HD1 : Hid (dfM d P q (t + 1) = dfM d P q t ++ if dfl d P q t = true then [memL nP t] else []) := HDS.out q t
          have HD2 : Hid (dfl d P q t = ((cen d P t && decide (rk d (plS P t) = q)) && dfT d P q t nP)) := HDF.out q t
          have HL1 : Hid ((dfM d P q t).length ≤ 64) := Nat.le_trans (HDL.out q t) (by omega)
          generalize cen d P t = c at *
          generalize rk d (plS P t) = rv at *
          generalize dfl d P q t = df at *
          generalize dfM d P q t = A at *
          obtain ⟨A', hA'⟩ : ∃ A', A' = dfM d P q (t + 1) := ⟨_, rfl⟩
          rw [← hA'] at HD1
          have HA' : Hid (A' = dfM d P q (t + 1)) := hA'
          clear hA'
          have hti := HTI.out
          have hwt := HWT.out
          go_wp2_with fail
          clear hti hwt
          refine HM.out.mono ?_
          rintro e w1 ⟨rfl, hb1⟩
          have HB1 : Hid (Below wa.heap.size wa w1) := HBQ.out.trans (hb1.mono hszq)
          have HBW1 : Hid (Below w.heap.size w w1) := HBW.out.trans (hb1.mono HBW.out.size)
          have HFR1 : Hid (Fr wa.heap.size 22 3 w1 u9 A) := HFR.out.below hb1 (Nat.le_refl _)
          clear hb1 HM HFR
          cases c with
          | false =>
            have R1 : Hid (Fr wa.heap.size 22 3 w1 u9 A') := by
              show Fr _ _ _ _ _ _
              rw [HD1.out, HD2.out]
              simpa using HFR1.out
            go_wp2
            exact ⟨⟨t + 1, by omega, by go_num, by rw [← HA'.out]; exact R1.out, HB1.out⟩, by simp [intOf]; omega⟩
          | true =>
            by_cases hr : rv = q
            · have hre : ((rv : Int) == (q : Int)) = true := by rw [hr]; simp
              have hrn : ((rv : Int) != (q : Int)) = false := by rw [hr]; simp
              have HD3 : Hid (df = dfT d P q t nP) := by
                show _ = _
                rw [HD2.out, decide_eq_true hr]; rfl
              clear hr HD2
              go_wp2
              go_loopw [11, 13, 14, 15] (fun ok i _ _ wz => ∃ k : Nat, k ≤ nP ∧ i = .int .i64 k ∧ ok = .bool (dfT d P q t k) ∧ Below w1.heap.size w1 wz) (fun _ i _ _ _ => nP - (intOf i).toNat)
              case atStart => exact ⟨0, Nat.zero_le _, rfl, by rw [HT0.out], Below.refl _ _⟩
              case round =>
                obtain ⟨k, hk, rfl, rfl, hbz⟩ := hrel
                obtain ⟨wz, rfl⟩ : ∃ wz, wz = wr := ⟨_, rfl⟩
                have HBZ : Hid (Below w1.heap.size w1 wz) := hbz
                have HBWZ : Hid (Below w.heap.size w wz) := HBW1.out.trans (hbz.mono HBW1.out.size)
                clear hbz
                by_cases hkn : k < nP
                · have hkI : (k : Int) < (nP : Int) := by omega
                  have hkI0 : (0 : Int) ≤ (k : Int) := by omega
                  have HT1 : Hid (dfT d P q t (k + 1) = (dfT d P q t k && (t.testBit k || !(cen d P (t + 2 ^ k) && decide (rk d (plS P (t + 2 ^ k)) = q))))) := HDT.out q t k
                  have hsb := shr_bit t k
                  cases hbk : t.testBit k with
                  | true =>
                    rw [hbk] at hsb HT1
                    have HT2 : Hid (dfT d P q t (k + 1) = dfT d P q t k) := by show _ = _; rw [HT1.out]; simp
                    have hsb2 : (((t : Int) / 2 ^ k).tmod 2 == 0) = false := hsb
                    clear hsb hbk HT1
                    go_wp2
                    exact ⟨⟨k + 1, by omega, by go_num, by rw [HT2.out], HBZ.out⟩, by simp [intOf]; omega⟩
                  | false =>
                    rw [hbk] at hsb HT1
                    have hsb2 : (((t : Int) / 2 ^ k).tmod 2 == 0) = true := hsb
                    have hzt := HAB.out t k htl2 hkn hbk
                    have hpl := HPW.out k hkn
                    have HM : Hid (Calls Tryz.prog 30 #[.int .i64 d, .slice ro nP rc, .int .i64 ((t + 2 ^ k : Nat) : Int)] wz fun e w' => e = .returned (.tuple #[.bool (cen d P (t + 2 ^ k)), .int .i64 (rk d (plS P (t + 2 ^ k)) : Nat)]) ∧ Below wz.heap.size wz w') := HME.out (t + 2 ^ k) wz hzt HBWZ.out
                    obtain ⟨z, hz⟩ : ∃ z : Nat, z = t + 2 ^ k := ⟨_, rfl⟩
                    obtain ⟨pk, hpk⟩ : ∃ pk : Nat, pk = 2 ^ k := ⟨_, rfl⟩
                    rw [← hz] at HM HT1 hzt
                    rw [← hpk] at hz hpl
                    have hzs : (t : Int) + (pk : Int) = (z : Int) := by omega
                    have HZW : Hid (IntKind.i64.wrap ((t : Int) + (pk : Int)) = (z : Int)) := by show _ = _; rw [hzs]; exact wrap_small _ (by omega) (by omega)
                    clear hzs
                    have HPW2 : Hid (IntKind.i64.wrap (pk : Int) = (pk : Int)) := wrap_small _ (by omega) (by omega)
                    have hpI : (2 : Int) ^ k = (pk : Int) := by rw [hpk]; simp
                    have hsb3 : (((t : Int) / (pk : Int)).tmod 2 == 0) = true := by rw [← hpI]; exact hsb2
                    clear hsb2
                    generalize cen d P z = cz at *
                    generalize rk d (plS P z) = rz at *
                    clear hsb hbk hpk hz hzt
                    have hpw := HPW2.out
                    have hzw := HZW.out
                    go_wp2_with fail
                    refine HM.out.mono ?_
                    rintro e w2 ⟨rfl, hb2⟩
                    have HB2 : Hid (Below w1.heap.size w1 w2) := HBZ.out.trans (hb2.mono HBZ.out.size)
                    clear hb2 HM hzw hpw hpI hsb3
                    cases cz with
                    | false =>
                      have HT2 : Hid (dfT d P q t (k + 1) = dfT d P q t k) := by show _ = _; rw [HT1.out]; simp
                      go_wp2
                      exact ⟨⟨k + 1, by omega, by go_num, by rw [HT2.out], HB2.out⟩, by simp [intOf]; omega⟩
                    | true =>
                      by_cases hr : rz = q
                      · have hrz : ((rz : Int) == (q : Int)) = true := by rw [hr]; simp
                        have HT2 : Hid (dfT d P q t (k + 1) = false) := by show _ = _; rw [HT1.out, decide_eq_true hr]; simp
                        clear hr
                        go_wp2
                        exact ⟨⟨k + 1, by omega, by go_num, by rw [HT2.out], HB2.out⟩, by simp [intOf]; omega⟩
                      · have hrz : ((rz : Int) == (q : Int)) = false := by rw [beq_eq_false_iff_ne]; omega
                        have HT2 : Hid (dfT d P q t (k + 1) = dfT d P q t k) := by show _ = _; rw [HT1.out, decide_eq_false hr]; simp
                        clear hr
                        go_wp2
                        exact ⟨⟨k + 1, by omega, by go_num, by rw [HT2.out], HB2.out⟩, by simp [intOf]; omega⟩
                · have hke : k = nP := by omega
                  subst hke
                  have HB2 : Hid (Below wa.heap.size wa wz) := HB1.out.trans (HBZ.out.mono HB1.out.size)
                  have HFR2 : Hid (Fr wa.heap.size 22 3 wz u9 A) := HFR1.out.below HBZ.out (Nat.le_refl _)
                  have hszz : wa.heap.size ≤ wz.heap.size := HB2.out.size
                  rw [← HD3.out]
                  cases df with
                  | false =>
                    have R1 : Hid (Fr wa.heap.size 22 3 wz u9 A') := by
                      show Fr _ _ _ _ _ _
                      rw [HD1.out]
                      simpa using HFR2.out
                    go_wp2
                    exact ⟨⟨t + 1, by omega, by go_num, by rw [← HA'.out]; exact R1.out, HB2.out⟩, by simp [intOf]; omega⟩
                  | true =>
                    have HMM := HMB.out t wz htl2
                    have HMC : Hid (Calls Tryz.prog 31 #[.int .i64 t] wz fun e w' => ∃ uo uc, e = .returned (.slice uo (memL k t).length uc) ∧ Sl 0 3 w' (.slice uo (memL k t).length uc) (ints (memL k t)) ∧ Below wz.heap.size wz w') := HMM
                    have HL2 : Hid (A.length ≤ 64) := HL1.out
                    have HD4 : Hid (A' = A ++ [memL k t]) := by show _ = _; rw [HD1.out]; rfl
                    clear HMM
                    generalize memL k t = ml at *
                    obtain ⟨ln, hln⟩ : ∃ ln, ln = ml.length := ⟨_, rfl⟩
                    rw [← hln] at HMC
                    have HLN : Hid (ln = ml.length) := hln
                    clear hln
                    go_wp2_with fail
                    refine HMC.out.mono ?_
                    rintro e w3 ⟨uo, uc, rfl, hs3, hb3⟩
                    have HS3 : Hid (Sl 0 3 w3 (.slice uo ln uc) (ints ml)) := hs3
                    obtain ⟨vs, g1, g2, g3⟩ := HFR2.out.below hb3 (Nat.le_refl _)
                    have HB3 : Hid (Below wa.heap.size wa w3) := HB2.out.trans (hb3.mono hszz)
                    have hsz3 : wa.heap.size ≤ w3.heap.size := HB3.out.size
                    have G2 : Hid (w3.ownsRow wa.heap.size 22 1 u9 A.length vs) := g2
                    have HMO : Hid (∀ v' w5, w5.ownsRow wa.heap.size 22 1 v' (A.length + 1) (vs ++ [.slice uo ln uc]) → (w3.alloc (.cells #[.slice uo ln uc] 22)).grownBy w5 u9.ownBlock → Fr wa.heap.size 22 3 w5 v' (A ++ [ml]) ∧ Below wa.heap.size wa w5) := fun v' w5 ho hg => ⟨Fr.push (e2 := 22) (e1 := 3) (by decide) g1 (g2.alloc _) (fun i hi => (g3 i hi).alloc _) (HS3.out.alloc _) ho hg, (HB3.out.alloc hsz3 _).grown hg (by simp; omega) (fun x hx => (g2.lt x hx).1)⟩
                    have hl2 := HL2.out
                    clear g1 g2 g3 hs3 hb3 HMC HFR2
                    go_wp2_with (first | (at_builtin; refine wpList_append_own _ rfl _ _ 25 rfl wa.heap.size 22 i0 (.slice none 0 0) 1 24 Tryz.underlying25 hi hz0 hz1 hz2 rfl (by decide) _ _ _ rfl (G2.out.alloc _) ⟨w3.heap.size, 0, none⟩ 1 1 [.slice uo ln uc] rfl rfl (one_new _ _ _) (one_slice _ _ _) ?d3 ?d4 ?d5 ?_))
                    case d3 => unfold maxLen; omega
                    case d4 => omega
                    case d5 => first | omega | (simp; omega)
                    intro x6 w5 ho hg _
                    obtain ⟨q1, q2⟩ := HMO.out x6 w5 ho hg
                    have R1 : Hid (Fr wa.heap.size 22 3 w5 x6 A') := by show Fr _ _ _ _ _ _; rw [HD4.out]; exact q1
                    have R2 : Hid (Below wa.heap.size wa w5) := q2
                    clear q1 q2 ho hg HMO G2
                    go_wp2
                    exact ⟨⟨t + 1, by omega, by go_num, by rw [← HA'.out]; exact R1.out, R2.out⟩, by simp [intOf]; omega⟩
            · have hre : ((rv : Int) == (q : Int)) = false := by rw [beq_eq_false_iff_ne]; omega
              have hrn : ((rv : Int) != (q : Int)) = true := by simp; omega
              have R1 : Hid (Fr wa.heap.size 22 3 w1 u9 A') := by
                show Fr _ _ _ _ _ _
                rw [HD1.out, HD2.out, decide_eq_false hr]
                simpa using HFR1.out
              clear hr
              go_wp2
              exact ⟨⟨t + 1, by omega, by go_num, by rw [← HA'.out]; exact R1.out, HB1.out⟩, by simp [intOf]; omega⟩
        · have hte : t = tn := by omega
          subst hte
          have HSC := HSO.out q u9 wq HFR.out.mat0
          have HSD : Hid (Calls Tryz.prog 32 #[u9] wq fun e w' => ∃ xo xc s, e = .returned (.slice xo s.length xc) ∧ FrN wq.heap.size w' (.slice xo s.length xc) s ∧ (s.length ≤ 64 ∧ ∀ O, FlQ d P q O → FlQ d P (q + 1) (O ++ s)) ∧ Below wq.heap.size wq w') := HSC
          clear HSC HFR HME HMB HSO HDS HDL HDF HDT
          have hti := HTI.out
          have hwt := HWT.out
          go_wp2_with fail
          clear hti hwt
          refine HSD.out.mono ?_
          rintro e w5 ⟨xo, xc, s, rfl, hfn, ⟨hsl, hqs⟩, hb5⟩
          have HFN : Hid (FrN wq.heap.size w5 (.slice xo s.length xc) s) := hfn
          have HQS : Hid (FlQ d P (q + 1) (O ++ s)) := hqs O HFQ.out
          have HSL : Hid (s.length ≤ 64) := hsl
          have hsl2 : s.length ≤ 64 := hsl
          have HB5 : Hid (Below wq.heap.size wq w5) := hb5
          have hsz5 : wq.heap.size ≤ w5.heap.size := hb5.size
          have HP5 : Hid (PfI w.heap.size w w5 u6 u7 O O.length) := (HPF.out.low hsza (HBQ.out)).low (by omega) hb5
          have HO5 : Hid ((∀ g, u6.ownBlock = some g → g < wq.heap.size ∨ w5.heap.size ≤ g) ∧ (∀ g, u7.ownBlock = some g → g < wq.heap.size ∨ w5.heap.size ≤ g)) := by
            obtain ⟨⟨vs, xs, p1, p2, p3, p4, p5⟩, p6⟩ := HPF.out
            exact ⟨fun g hg => .inl (by have := (own_typF p2 g hg).2.1; omega), fun g hg => .inl (by have := (own_typF p5 g hg).2.1; omega)⟩
          clear hfn hqs hsl hb5 HSD
          go_wp2
          go_loopw [6, 7, 16] (fun x y i wz => ∃ k : Nat, k ≤ s.length ∧ i = .int .i64 k ∧ PfI w.heap.size w wz x y (O ++ s.take k) (O.length + k) ∧ Win wq.heap.size w5 wz ∧ w5.heap.size ≤ wz.heap.size ∧ (∀ g, x.ownBlock = some g → g < wq.heap.size ∨ w5.heap.size ≤ g) ∧ (∀ g, y.ownBlock = some g → g < wq.heap.size ∨ w5.heap.size ≤ g)) (fun _ _ i _ => s.length - (intOf i).toNat)
          case atStart => exact ⟨0, Nat.zero_le _, rfl, by simpa using HP5.out, fun b _ _ => rfl, Nat.le_refl _, HO5.out.1, HO5.out.2⟩
          case round =>
            obtain ⟨k, hk, rfl, hpz, hwz, hsz, hxb, hyb⟩ := hrel
            obtain ⟨wz, rfl⟩ : ∃ wz, wz = wr := ⟨_, rfl⟩
            have HPZ : Hid (PfI w.heap.size w wz u6 u7 (O ++ s.take k) (O.length + k)) := hpz
            have HWZ : Hid (Win wq.heap.size w5 wz) := hwz
            have HXB : Hid (∀ g, u6.ownBlock = some g → g < wq.heap.size ∨ w5.heap.size ≤ g) := hxb
            have HYB : Hid (∀ g, u7.ownBlock = some g → g < wq.heap.size ∨ w5.heap.size ≤ g) := hyb
            have HSZ : Hid (w5.heap.size ≤ wz.heap.size) := hsz
            have hszw : w.heap.size ≤ wz.heap.size := hpz.bel.size
            clear hpz hwz hxb hyb hsz
            by_cases hks : k < s.length
            · obtain ⟨b, o, rw', cc, hxe, hcell, hrw, hblk⟩ := HFN.out.win HWZ.out hks
              simp only [Value.slice.injEq, true_and] at hxe
              obtain ⟨rfl, rfl⟩ := hxe
              have HTK : Hid (s.take (k + 1) = s.take k ++ [s.getD k []]) := snoc_take s k hks []
              have HTL : Hid ((O ++ s.take k).length = O.length + k) := by
                show _ = _
                rw [List.length_append, List.length_take]; omega
              obtain ⟨yo, yc, hye, _, _⟩ := sl_open hrw
              subst hye
              generalize s.getD k [] = y at *
              generalize s.take k = B at *
              obtain ⟨B', hB'⟩ : ∃ B', B' = s.take (k + 1) := ⟨_, rfl⟩
              rw [← hB'] at HTK
              have HB' : Hid (B' = s.take (k + 1)) := hB'
              clear hB'
              obtain ⟨yl, hyl⟩ : ∃ yl, yl = y.length := ⟨_, rfl⟩
              rw [← hyl] at hcell hrw hblk
              have HYS : Hid (Sl 0 3 wz (.slice yo yl yc) (ints y)) := hrw
              have HBK : Hid (0 < y.length → ∀ a k c, Value.slice yo yl yc = .slice (some a) k c → u7.ownBlock ≠ some a.block) := fun hp a kk c e e2 => by
                have h1 := hblk a kk c e (by omega)
                have h2 := HYB.out _ e2
                omega
              clear hyl hblk hrw
              obtain ⟨⟨vs, xs, p1, p2, p3, p4, p5⟩, p6⟩ := HPZ.out
              have hne := HPZ.out.ne
              have G2 : Hid (wz.ownsRow w.heap.size 22 1 u6 (O ++ B).length vs) := p2
              have HMO : Hid (∀ v' w6, w6.ownsRow w.heap.size 22 1 v' ((O ++ B).length + 1) (vs ++ [.slice yo yl yc]) → (wz.alloc (.cells #[.slice yo yl yc] 22)).grownBy w6 u6.ownBlock → PfI w.heap.size w w6 v' u7 (O ++ B ++ [y]) (O.length + k)) := fun v' w6 ho hg => PfI.pushO hszw p6 p1 p2 p3 p4 p5 hne HYS.out HBK.out ho hg
              have hobl : (O ++ B).length ≤ 256 := by have := HTL.out; have := HOL.out; omega
              have hkI : (k : Int) < (s.length : Int) := by omega
              have hkI0 : (0 : Int) ≤ (k : Int) := by omega
              clear p1 p2 p3 p4 p5 p6 hne
              generalize hOB : O ++ B = OB at *
              go_wp2_with (first | (at_builtin; refine wpList_append_own_at _ rfl _ _ 25 rfl w.heap.size 22 i0 (.slice none 0 0) 1 24 Tryz.underlying25 hi hz0 hz1 hz2 rfl (by decide) _ _ _ rfl (G2.out.alloc _) ⟨wz.heap.size, 0, none⟩ 1 1 [.slice yo yl yc] rfl rfl (one_new _ _ _) (one_slice _ _ _) ?d3 ?d4 ?d5 ?_))
              case d3 => unfold maxLen; omega
              case d4 => omega
              case d5 => first | omega | (simp; omega)
              intro x6 w6 ho hg _ hat
              have HP6 : Hid (PfI w.heap.size w w6 x6 u7 (OB ++ [y]) (O.length + k)) := HMO.out x6 w6 ho hg
              have HW6 : Hid (Win wq.heap.size w5 w6) := HWZ.out.grown HSZ.out hg HXB.out
              have HS6 : Hid (w5.heap.size ≤ w6.heap.size) := by
                have h1 := hg.size
                rw [size_alloc] at h1
                have h2 := HSZ.out
                show _ ≤ _
                omega
              have HX6 : Hid (∀ g, x6.ownBlock = some g → g < wq.heap.size ∨ w5.heap.size ≤ g) := fun g hgb => by
                have hat2 : x6.ownBlock = u6.ownBlock ∨ x6.ownBlock = some (wz.heap.size + 1) := by simpa using hat
                rcases hat2 with h | h
                · exact HXB.out g (by rw [← h]; exact hgb)
                · rw [h] at hgb
                  simp only [Option.some.injEq] at hgb
                  have := HSZ.out
                  omega
              have hszw6 : w.heap.size ≤ w6.heap.size := HP6.out.bel.size
              clear ho hg hat HMO G2 HWZ hcell HXB HSZ
              obtain ⟨⟨vs2, xs2, p1, p2, p3, p4, p5⟩, p6⟩ := HP6.out
              have hne := HP6.out.ne
              have G2 : Hid (w6.ownsRow w.heap.size 3 1 u7 (O.length + k) (ints xs2)) := p5
              have HMO : Hid (∀ v' w7, w7.ownsRow w.heap.size 3 1 v' (O.length + k + 1) (ints xs2 ++ [.int .i64 (q : Int)]) → (w6.alloc (.cells #[.int .i64 (q : Int)] 3)).grownBy w7 u7.ownBlock → (v'.ownBlock = u7.ownBlock ∨ v'.ownBlock = some (w6.heap.size + 1)) → PfI w.heap.size w w7 x6 v' (OB ++ [y]) (O.length + k + 1)) := fun v' w7 ho hg hat => PfI.pushR hszw6 p6 p1 p2 p3 p4 p5 hne ho hg hat
              have holI : O.length + k ≤ 512 := by have := HOL.out; omega
              clear p1 p2 p3 p4 p5 p6 hne
              go_wp2_with (first | (at_builtin; refine wpList_append_own_at _ rfl _ _ 22 rfl w.heap.size 3 i3 (.int .i64 0) 1 8 Tryz.underlying22 hi3 hz30 hz31 hz32 rfl (by decide) _ _ _ rfl (G2.out.alloc _) ⟨w6.heap.size, 0, none⟩ 1 1 [.int .i64 (q : Int)] rfl rfl (one_new _ _ _) (one_int _) ?d3 ?d4 ?d5 ?_))
              case d3 => unfold maxLen; omega
              case d4 => omega
              case d5 => first | omega | (simp; omega)
              intro y7 w7 ho hg _ hat
              have hat2 : y7.ownBlock = u7.ownBlock ∨ y7.ownBlock = some (w6.heap.size + 1) := by simpa using hat
              have HP7 : Hid (PfI w.heap.size w w7 x6 y7 (O ++ B') (O.length + (k + 1))) := by
                show PfI _ _ _ _ _ _ _
                rw [HTK.out, ← List.append_assoc, hOB]
                exact HMO.out y7 w7 ho hg hat2
              have HW7 : Hid (Win wq.heap.size w5 w7) := HW6.out.grown HS6.out hg HYB.out
              have HS7 : Hid (w5.heap.size ≤ w7.heap.size) := by
                have h1 := hg.size
                rw [size_alloc] at h1
                have h2 := HS6.out
                show _ ≤ _
                omega
              have HY7 : Hid (∀ g, y7.ownBlock = some g → g < wq.heap.size ∨ w5.heap.size ≤ g) := fun g hgb => by
                rcases hat2 with h | h
                · exact HYB.out g (by rw [← h]; exact hgb)
                · rw [h] at hgb
                  simp only [Option.some.injEq] at hgb
                  have := HS6.out
                  omega
              clear ho hg hat hat2 HMO G2 hOB
              go_wp2
              exact ⟨⟨k + 1, by omega, by go_num, by rw [← HB'.out]; exact HP7.out, HW7.out, HS7.out, HX6.out, HY7.out⟩, by simp [intOf]; omega⟩
            · have hke : k = s.length := by omega
              subst hke
              have HPE : Hid (PfI w.heap.size w wz u6 u7 (O ++ s) (O ++ s).length) := by
                have := HPZ.out
                rw [List.take_length] at this
                rw [List.length_append]
                exact this
              have HLE : Hid ((O ++ s).length ≤ 64 * (q + 1)) := by
                show _ ≤ _
                rw [List.length_append]
                have := HOL.out
                have := HSL.out
                omega
              go_wp2
              exact ⟨⟨q + 1, O ++ s, by omega, by go_num, HQS.out, HLE.out, HPE.out⟩, by simp [intOf]; omega⟩
    · have hqI : ¬ (q : Int) ≤ (d : Int) := by omega
      have HFQ2 : Hid (FlQ d P (d + 1) O) := by
        have h := HFQ.out
        rw [show q = d + 1 by omega] at h
        exact h
      obtain ⟨⟨vs, xs, p1, p2, p3, p4, p5⟩, p6⟩ := HPF.out
      have HFE : Hid (Fr w.heap.size 22 3 wa u6 O) := ⟨vs, p1, p2, p3⟩
      have HBE : Hid (Below w.heap.size w wa) := p6
      clear p1 p2 p3 p4 p5 p6
      go_wp2
      refine bodyPost_ret (v := .tuple #[u6, u7]) (by simp [results, Tryz.results11, go_sem]) rfl ⟨u6, ⟨u7, rfl⟩, O, HFE.out, HFQ2.out, HBE.out⟩
end Go.Proofs.YtgfnmkenpgnllaaGreat
