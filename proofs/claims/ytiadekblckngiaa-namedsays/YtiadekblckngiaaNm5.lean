/- The document's treesOf. -/
import Derived.Test.YtiadekblckngiaaNmi
import Derived.Test.YtiadekblckngiaaNm0
import Derived.Laws.AppendOwnNone
namespace Go.Proofs.Ytiadekblckngiaa
open Go.RowKit
attribute [local go_sem ↓] Go.wp_at_zero Go.wp_at_succ

theorem infoSlD : (Try.prog.info? 35).map (fun i => (i.zero, i.size, i.bytes)) = some (some (.slice none 0 0), 1, 24) := by kernel_rfl

def TrD (n : Nat) : Prop := ∀ w : World, Calls Try.prog 22 #[.int .i64 (n : Int)] w fun e w' => ∃ uo ul uc, e = .returned (.slice uo ul uc) ∧ ul = (trL n).length ∧ Fr w.heap.size 35 3 w' (.slice uo ul uc) (trL n) ∧ Below w.heap.size w w'

set_option maxRecDepth 100000 in
set_option maxHeartbeats 400000 in
theorem trD_zero : TrD 0 := by
  intro w
  obtain ⟨W1, hW1⟩ : ∃ W1, W1 = w.alloc (.cells #[] 3) := ⟨_, rfl⟩
  have hs1 : W1.heap.size = w.heap.size + 1 := by rw [hW1]; simp
  have HF : Hid (Fr w.heap.size 35 3 (W1.alloc (.cells #[.slice (some ⟨w.heap.size, 0, none⟩) 0 0] 35)) (.slice (some ⟨w.heap.size + 1, 0, none⟩) 1 1) [[]]) := by
    have h : Sl 0 3 W1 (.slice (some ⟨w.heap.size, 0, none⟩) 0 0) (ints []) := ⟨_, 0, rfl, by simp, by simp [maxLen], fun i hi => absurd hi (by simp), fun h => by cases h⟩
    rw [← hs1]
    exact one_fr h (by omega)
  have HB : Hid (Below w.heap.size w (W1.alloc (.cells #[.slice (some ⟨w.heap.size, 0, none⟩) 0 0] 35))) := by
    rw [hW1]
    exact ((Below.refl _ _).alloc (Nat.le_refl _) _).alloc (by simp) _
  go_enter Try.func22, Try.ntmps22
  go_wp2
  rw [← hW1]
  clear hW1 hs1
  go_ret
  exact ⟨_, _, _, rfl, rfl, HF.out, HB.out⟩

theorem ints_appD (a b : List Int) : ints (a ++ b) = ints a ++ ints b := by simp [ints]

theorem sl_cellsD {B : Nat} {e : TypeId} {w : World} {a : Addr} {n cap : Nat} {xs : List Value} (h : Sl B e w (.slice (some a) n cap) xs) : ∀ j u, xs[j]? = some u → w.cell? (a.add j) = some u := by
  intro j u hj
  have hlt := (List.getElem?_eq_some_iff.1 hj).1
  obtain ⟨ao, c, hv, h1, h2, h3, h4⟩ := h
  simp only [Value.slice.injEq] at hv
  obtain ⟨rfl, _, rfl⟩ := hv
  obtain ⟨b, o, ha, hc, _⟩ := h3 j hlt
  cases ha
  rw [hj] at hc
  by_cases ej : j = 0
  · subst ej; simpa [Addr.add] using hc
  · simpa [Addr.add, ej] using hc

set_option maxRecDepth 100000 in
set_option maxHeartbeats 3200000 in
theorem trD_succ (n : Nat) (h1 : 1 ≤ n) (h4 : n ≤ 4) (ih : ∀ k, k < n → TrD k) : TrD n := by
  intro w
  obtain ⟨i0, hi, hz0, hz1, hz2⟩ := info_parts infoSlD
  obtain ⟨i3, hi3, hz30, hz31, hz32⟩ := info_parts Try.info3
  have HIH : Hid (∀ k, k < n → TrD k) := ih
  have HEQ : Hid (trL n = trS trL n n) := trL_eq n (by omega) h1
  have hn0 : ((n : Int) == 0) = false := by rw [beq_eq_false_iff_ne]; omega
  clear ih
  go_enter Try.func22, Try.ntmps22
  go_wp2
  go_loopw [3, 4] (fun x i wr => ∃ k : Nat, k ≤ n ∧ i = .int .i64 (k : Int) ∧ TrI w x (trS trL n k) [] [] wr) (fun _ i _ => n - (intOf i).toNat)
  case atStart => exact ⟨0, Nat.zero_le _, rfl, TrI.start w⟩
  case round =>
    obtain ⟨k, hk, rfl, hf⟩ := hrel
    have HF : Hid (TrI w u3 (trS trL n k) [] [] wr) := hf
    clear hf
    by_cases hlt : k < n
    · have HLK : Hid (1 ≤ (trL k).length ∧ (trL k).length ≤ 14) := trL_len k (by omega)
      have HLR : Hid (1 ≤ (trL (n - 1 - k)).length ∧ (trL (n - 1 - k)).length ≤ 14) := trL_len (n - 1 - k) (by omega)
      have HRK : Hid (∀ r ∈ trL k, r.length = k) := trL_row k (by omega)
      have HRR : Hid (∀ r ∈ trL (n - 1 - k), r.length = n - 1 - k) := trL_row _ (by omega)
      obtain ⟨rt, hrt⟩ : ∃ rt : Nat, rt = n - 1 - k := ⟨_, rfl⟩
      have hrI : (n : Int) - 1 - (k : Int) = (rt : Int) := by omega
      have hr4 : rt ≤ 3 := by omega
      have HRTL : Hid (trL (n - 1 - k) = trL rt) := by show _ = _; rw [hrt]
      obtain ⟨tz, htz⟩ : ∃ tz : Int, ((k : Int) + 1) * ((n : Int) - (k : Int)) = tz := ⟨_, rfl⟩
      have tz0 : 0 ≤ tz := by rw [← htz]; exact Int.mul_nonneg (by omega) (by omega)
      have tz1 : tz ≤ 16 := by
        rw [← htz]
        exact Int.le_trans (Int.mul_le_mul (by omega : (k : Int) + 1 ≤ 4) (by omega : (n : Int) - (k : Int) ≤ 4) (by omega) (by omega)) (by decide)
      have HTZ : Hid (tz = trN n k) := by show _ = _; rw [← htz]; rfl
      have HCK : Hid (∀ W : World, Calls Try.prog 22 #[.int .i64 (k : Int)] W fun e w' => ∃ uo uc, e = .returned (.slice uo (trL k).length uc) ∧ Fr W.heap.size 35 3 w' (.slice uo (trL k).length uc) (trL k) ∧ Below W.heap.size W w') := fun W => (HIH.out k hlt W).mono (by rintro e w' ⟨uo, ul, uc, h1, rfl, h2, h3⟩; exact ⟨uo, uc, h1, h2, h3⟩)
      have HCR : Hid (∀ W : World, Calls Try.prog 22 #[.int .i64 (rt : Int)] W fun e w' => ∃ uo uc, e = .returned (.slice uo (trL rt).length uc) ∧ Fr W.heap.size 35 3 w' (.slice uo (trL rt).length uc) (trL rt) ∧ Below W.heap.size W w') := fun W => (HIH.out rt (by omega) W).mono (by rintro e w' ⟨uo, ul, uc, h1, rfl, h2, h3⟩; exact ⟨uo, uc, h1, h2, h3⟩)
      clear hrt
      go_wp2_with fail
      refine (HCK.out wr).mono ?_
      rintro e w2 ⟨lo, lc, rfl, hfl, hb2⟩
      have HI2 : Hid (TrI w u3 (trM n k 0) [(.slice lo (trL k).length lc, trL k)] [] w2) := by rw [trM_zero]; exact HF.out.add hb2 hfl
      clear hfl hb2 HF
      go_wp2_with fail
      refine (HCR.out w2).mono ?_
      rintro e w3 ⟨so, sc, rfl, hfs, hb3⟩
      have HI3 : Hid (TrI w u3 (trM n k 0) [(.slice so (trL rt).length sc, trL rt), (.slice lo (trL k).length lc, trL k)] [] w3) := HI2.out.add hb3 hfs
      clear hfs hb3 HI2 HCK HCR
      obtain ⟨K1, hK1⟩ : ∃ K1, K1 = trL k := ⟨_, rfl⟩
      have HK1 : Hid (K1 = trL k) := hK1
      rw [← hK1] at HI3 HLK HRK ⊢
      clear hK1
      have hlk := HLK.out.2
      rw [HRTL.out] at HLR HRR
      have HTJ : Hid (∀ j, j < K1.length → trJ n k j (trL rt).length = trM n k (j + 1)) := fun j hj => by
        rw [← HRTL.out]
        exact trJ_all n k j (by rw [← HK1.out]; exact hj)
      have HSC : Hid (∀ j q, q < (trL rt).length → trJ n k j (q + 1) = trJ n k j q ++ [K1.getD j [] ++ [tz] ++ (trL rt).getD q []]) := fun j q hq => by
        have h := trJ_succ n k j q (by rw [HRTL.out]; exact hq)
        rw [HRTL.out, ← HK1.out, ← HTZ.out] at h
        exact h
      have HTL : Hid (∀ j q, j < 15 → q < 15 → (trJ n k j q).length ≤ 100) := fun j q hj hq => trJ_len n (by omega) k hlt j hj q hq
      obtain ⟨K2, hK2⟩ : ∃ K2, K2 = trL rt := ⟨_, rfl⟩
      rw [← hK2] at HI3 HLR HRR HTJ HSC ⊢
      clear hK2
      have hlr := HLR.out.2
      go_wp2
      go_loopw [3, 7] (fun x i wq => ∃ j : Nat, j ≤ K1.length ∧ i = .int .i64 (j : Int) ∧ TrI w x (trM n k j) [(.slice so K2.length sc, K2), (.slice lo K1.length lc, K1)] [] wq) (fun _ i _ => K1.length - (intOf i).toNat)
      case atStart => exact ⟨0, Nat.zero_le _, rfl, HI3.out⟩
      case round =>
        obtain ⟨j, hj, rfl, hi2⟩ := hrel
        rename World => wq
        have HJ : Hid (TrI w u3 (trM n k j) [(.slice so K2.length sc, K2), (.slice lo K1.length lc, K1)] [] wq) := hi2
        clear hi2 HI3
        by_cases hlj : j < K1.length
        · have HJ3 : Hid (TrI w u3 (trJ n k j 0) [(.slice so K2.length sc, K2), (.slice lo K1.length lc, K1)] [] wq) := by rw [trJ_zero]; exact HJ.out
          have HTJ2 : Hid (trJ n k j K2.length = trM n k (j + 1)) := HTJ.out j hlj
          have jI : (j : Int) < (K1.length : Int) := by omega
          have jI0 : (0 : Int) ≤ (j : Int) := by omega
          clear HJ
          go_wp2
          go_loopw [3, 8] (fun x i wp => ∃ q : Nat, q ≤ K2.length ∧ i = .int .i64 (q : Int) ∧ TrI w x (trJ n k j q) [(.slice so K2.length sc, K2), (.slice lo K1.length lc, K1)] [] wp) (fun _ i _ => K2.length - (intOf i).toNat)
          case atStart => exact ⟨0, Nat.zero_le _, rfl, HJ3.out⟩
          case round =>
            obtain ⟨q, hq, rfl, hi3⟩ := hrel
            rename World => wp
            have HQ : Hid (TrI w u3 (trJ n k j q) [(.slice so K2.length sc, K2), (.slice lo K1.length lc, K1)] [] wp) := hi3
            clear hi3 HJ3
            by_cases hlq : q < K2.length
            · obtain ⟨b, o, cp, r1, hs, hc1, hcc, hr1⟩ := mat_cell ((HQ.out.oth (.slice lo K1.length lc, K1) (by simp)).1.rws.mat (Nat.le_refl _)) hlj
              simp only [Value.slice.injEq] at hs
              obtain ⟨rfl, -, rfl⟩ := hs
              obtain ⟨b2, o2, cp2, r2, hs2, hc2, hcc2, hr2⟩ := mat_cell ((HQ.out.oth (.slice so K2.length sc, K2) (by simp)).1.rws.mat (Nat.le_refl _)) hlq
              simp only [Value.slice.injEq] at hs2
              obtain ⟨rfl, -, rfl⟩ := hs2
              obtain ⟨ro, rc, hrv, _, _⟩ := sl_open hr1
              subst hrv
              obtain ⟨so2, sc2, hsv, _, _⟩ := sl_open hr2
              subst hsv
              have hrj : (K1.getD j []).length ≤ 10 := by rw [HRK.out _ (by simp [hlj])]; omega
              have hrq : (K2.getD q []).length ≤ 10 := by rw [HRR.out _ (by simp [hlq])]; omega
              have HSQ : Hid (trJ n k j (q + 1) = trJ n k j q ++ [K1.getD j [] ++ [tz] ++ K2.getD q []]) := HSC.out j q hlq
              have HTQ : Hid ((trJ n k j q).length ≤ 100) := HTL.out j q (by omega) (by omega)
              have qI : (q : Int) < (K2.length : Int) := by omega
              have qI0 : (0 : Int) ≤ (q : Int) := by omega
              generalize K2.getD q [] = rq at *
              generalize K1.getD j [] = lj at *
              have HCP : Hid (Calls Try.prog 17 #[.slice ro lj.length rc] wp fun e w' => ∃ u, e = .returned u ∧ w'.ownsRow wp.heap.size 3 1 u lj.length (ints lj) ∧ Below wp.heap.size wp w') := copy_any _ lj _ wp hr1 (by omega)
              have HR2 : Hid (Sl 0 3 wp (.slice so2 rq.length sc2) (ints rq) ∧ wp.cell? ⟨b2, o2 + q, none⟩ = some (.slice so2 rq.length sc2)) := ⟨hr2.more (Nat.zero_le _), hcc2⟩
              obtain ⟨ll, hll⟩ : ∃ ll, ll = lj.length := ⟨_, rfl⟩
              rw [← hll] at HCP hcc hrj
              have HLL : Hid (ll = lj.length) := hll
              clear hr1 hr2 hll hcc2
              go_wp2_with fail
              refine HCP.out.mono ?_
              rintro e w4 ⟨cu, rfl, hcu, hb4⟩
              obtain ⟨co, cc, hcv⟩ := owns_form hcu
              subst hcv
              have HCU : Hid (w4.ownsRow wp.heap.size 3 1 (.slice co ll cc) ll (ints lj)) := hcu
              have HB4 : Hid (Below wp.heap.size wp w4) := hb4
              have hz4 : wp.heap.size ≤ w4.heap.size := hb4.size
              clear hcu hb4 HCP hcc
              go_wp2_with (first | (at_builtin; refine wpList_append_own _ rfl _ _ 35 rfl wp.heap.size 3 i3 (.int .i64 0) 1 8 Try.underlying35 hi3 hz30 hz31 hz32 rfl (by decide) _ _ _ rfl (HCU.out.alloc _) ⟨w4.heap.size, 0, none⟩ 1 1 [.int .i64 tz] rfl rfl (one_new _ _ _) (one_int _) ?c3 ?c4 ?c5 ?_))
              case c3 => unfold maxLen; omega
              case c4 => omega
              case c5 => simp; omega
              intro v5 w5 ho5 hg5 _
              have hR := owns_push (z := tz) (N := ll + 1) (w0 := wp) hz4 (l := lj) (by rw [← HLL.out]; exact HCU.out) HB4.out (by rw [← HLL.out]; exact ho5) hg5 (by rw [HLL.out])
              obtain ⟨xo, xc, hxv⟩ := owns_form hR.1
              subst hxv
              have HO5 : Hid (w5.ownsRow wp.heap.size 3 1 (.slice xo (ll + 1) xc) (ll + 1) (ints (lj ++ [tz]))) := hR.1
              have HB5 : Hid (Below wp.heap.size wp w5) := hR.2
              have hz5 : wp.heap.size ≤ w5.heap.size := hR.2.size
              have HS5 : Hid (Sl 0 3 w5 (.slice so2 rq.length sc2) (ints rq)) := HR2.out.1.below hR.2 (Nat.le_refl _)
              have hcc2 : w5.cell? ⟨b2, o2 + q, none⟩ = some (.slice so2 rq.length sc2) := (hR.2.cell (p := ⟨b2, o2 + q, none⟩) (lt_of_cell HR2.out.2)).trans HR2.out.2
              clear ho5 hg5 hR HCU HB4 HR2
              have HFIN : Hid (∀ v' w', (w'.ownsRow wp.heap.size 3 1 v' (ll + 1 + rq.length) (ints (lj ++ [tz]) ++ ints rq)) → w5.grownBy w' (Value.slice xo (ll + 1) xc).ownBlock → Sl 0 3 w' v' (ints (lj ++ [tz] ++ rq)) ∧ Below wp.heap.size wp w') := fun v' w' h hg => by
                refine ⟨?_, HB5.out.grown hg hz5 (fun x hx => (HO5.out.lt x hx).1)⟩
                rw [ints_appD (lj ++ [tz]) rq]
                exact Sl.own h
              rcases so2 with _ | sa
              · have hnl : rq = [] ∧ sc2 = 0 := by
                  obtain ⟨a0, c0, he, _, _, h3, h4⟩ := HS5.out
                  simp only [Value.slice.injEq] at he
                  obtain ⟨rfl, _, rfl⟩ := he
                  refine ⟨?_, h4 rfl⟩
                  rcases rq with _ | ⟨z, rq⟩
                  · rfl
                  · obtain ⟨b', o', hb', _⟩ := h3 0 (by simp)
                    cases hb'
                obtain ⟨rfl, rfl⟩ := hnl
                obtain ⟨vs, g2, gz, hpush⟩ := (HQ.out.below HB5.out (Nat.le_refl _)).push (u := .slice xo (ll + 1) xc) (z := lj ++ [tz] ++ []) (by rw [List.append_nil]; exact Sl.own HO5.out)
                have G2 : Hid (w5.ownsRow w.heap.size 35 1 u3 (trJ n k j q).length vs) := g2
                have HP : Hid (∀ v' w', w'.ownsRow w.heap.size 35 1 v' ((trJ n k j q).length + 1) (vs ++ [.slice xo (ll + 1) xc]) → (w5.alloc (.cells #[.slice xo (ll + 1) xc] 35)).grownBy w' u3.ownBlock → (v'.ownBlock = u3.ownBlock ∨ v'.ownBlock = some (w5.alloc (.cells #[.slice xo (ll + 1) xc] 35)).heap.size) → TrI w v' (trJ n k j (q + 1)) [(.slice (some ⟨b2, o2, none⟩) K2.length sc, K2), (.slice (some ⟨b, o, none⟩) K1.length lc, K1)] [] w') := by rw [HSQ.out]; exact hpush
                have htq := HTQ.out
                clear g2 hpush HQ
                generalize (trJ n k j q).length = tl at *
                go_wp2_with (first | (at_builtin; refine wpList_append_own_none rfl _ _ 35 rfl wp.heap.size 3 i3 1 Try.underlying35 hi3 _ _ _ rfl HO5.out rfl ?_) | (at_builtin; refine wpList_append_own_at _ rfl _ _ 22 rfl w.heap.size 35 i0 (.slice none 0 0) 1 24 Try.underlying22 hi hz0 hz1 hz2 rfl (by decide) _ _ _ rfl (G2.out.alloc _) ⟨w5.heap.size, 0, none⟩ 1 1 [.slice xo (ll + 1) xc] rfl rfl (one_new _ _ _) (one_slice _ _ _) ?d3 ?d4 ?d5 ?_))
                case d3 => unfold maxLen; omega
                case d4 => omega
                case d5 => simp; omega
                intro v' w6 ho hg _ hat
                have R1 : Hid (TrI w v' (trJ n k j (q + 1)) [(.slice (some ⟨b2, o2, none⟩) K2.length sc, K2), (.slice (some ⟨b, o, none⟩) K1.length lc, K1)] [] w6) := HP.out v' w6 ho hg (by simpa using hat)
                clear ho hg hat HP G2
                go_wp2
                go_roundw
                case rel => exact ⟨q + 1, by omega, by go_num, R1.out⟩
                case measure => simp [intOf]; omega
              · have HNW : Hid (∀ j u, (ints rq)[j]? = some u → w5.cell? (sa.add j) = some u) := sl_cellsD HS5.out
                go_wp2_with (first | (at_builtin; refine wpList_append_own _ rfl _ _ 35 rfl wp.heap.size 3 i3 (.int .i64 0) 1 8 Try.underlying35 hi3 hz30 hz31 hz32 rfl (by decide) _ _ _ rfl HO5.out sa rq.length sc2 (ints rq) rfl (by simp) HNW.out (ints_oneCell' rq) ?c3 ?c4 ?c5 ?_))
                case c3 => unfold maxLen; omega
                case c4 => omega
                case c5 => omega
                intro v6 w6 ho6 hg6 _
                obtain ⟨hu, hb6⟩ := HFIN.out v6 w6 ho6 hg6
                obtain ⟨yo, yc, hyv⟩ := owns_form ho6
                subst hyv
                obtain ⟨vs, g2, gz, hpush⟩ := (HQ.out.below hb6 (Nat.le_refl _)).push hu
                obtain ⟨yl, hyl⟩ : ∃ yl, yl = ll + 1 + rq.length := ⟨_, rfl⟩
                rw [← hyl] at hpush ⊢
                have G2 : Hid (w6.ownsRow w.heap.size 35 1 u3 (trJ n k j q).length vs) := g2
                have HP : Hid (∀ v' w', w'.ownsRow w.heap.size 35 1 v' ((trJ n k j q).length + 1) (vs ++ [.slice yo yl yc]) → (w6.alloc (.cells #[.slice yo yl yc] 35)).grownBy w' u3.ownBlock → (v'.ownBlock = u3.ownBlock ∨ v'.ownBlock = some (w6.alloc (.cells #[.slice yo yl yc] 35)).heap.size) → TrI w v' (trJ n k j (q + 1)) [(.slice (some ⟨b2, o2, none⟩) K2.length sc, K2), (.slice (some ⟨b, o, none⟩) K1.length lc, K1)] [] w') := by rw [HSQ.out]; exact hpush
                have htq := HTQ.out
                clear g2 hpush HQ ho6 hg6 hu hb6 HNW HFIN HS5 hyl
                generalize (trJ n k j q).length = tl at *
                go_wp2_with (first | (at_builtin; refine wpList_append_own_at _ rfl _ _ 22 rfl w.heap.size 35 i0 (.slice none 0 0) 1 24 Try.underlying22 hi hz0 hz1 hz2 rfl (by decide) _ _ _ rfl (G2.out.alloc _) ⟨w6.heap.size, 0, none⟩ 1 1 [.slice yo yl yc] rfl rfl (one_new _ _ _) (one_slice _ _ _) ?d3 ?d4 ?d5 ?_))
                case d3 => unfold maxLen; omega
                case d4 => omega
                case d5 => simp; omega
                intro v' w7 ho hg _ hat
                have R1 : Hid (TrI w v' (trJ n k j (q + 1)) [(.slice (some ⟨b2, o2, none⟩) K2.length sc, K2), (.slice (some ⟨b, o, none⟩) K1.length lc, K1)] [] w7) := HP.out v' w7 ho hg (by simpa using hat)
                clear ho hg hat HP G2
                go_wp2
                go_roundw
                case rel => exact ⟨q + 1, by omega, by go_num, R1.out⟩
                case measure => simp [intOf]; omega
            · have hqe : q = K2.length := by omega
              subst hqe
              have HE : Hid (TrI w u3 (trM n k (j + 1)) [(.slice so K2.length sc, K2), (.slice lo K1.length lc, K1)] [] wp) := by
                rw [← HTJ2.out]
                exact HQ.out
              clear HQ
              go_wp2
              go_roundw
              case rel => exact ⟨j + 1, by omega, by go_num, HE.out⟩
              case measure => simp [intOf]; omega
        · have hje : j = K1.length := by omega
          subst hje
          have HE : Hid (TrI w u3 (trS trL n (k + 1)) [] [] wq) := by
            rw [← trM_all, ← HK1.out]
            exact HJ.out.less (by simp) (by simp)
          clear HJ
          go_wp2
          go_roundw
          case rel => exact ⟨k + 1, by omega, by go_num, HE.out⟩
          case measure => simp [intOf]; omega
    · have hke : k = n := by omega
      subst hke
      obtain ⟨ao, cap, hvv⟩ := HF.out.form
      subst hvv
      have HLE : Hid ((trS trL k k).length = (trL k).length) := by show _ = _; rw [HEQ.out]
      have HF2 : Hid (Fr w.heap.size 35 3 wr (.slice ao (trS trL k k).length cap) (trL k)) := by rw [HEQ.out]; exact HF.out.fr
      have HB : Hid (Below w.heap.size w wr) := HF.out.bel
      clear HF HEQ
      generalize (trS trL k k).length = tll at *
      go_wp2
      go_ret
      exact ⟨_, _, _, rfl, HLE.out, HF2.out, HB.out⟩

theorem trD_any : ∀ n, n ≤ 4 → TrD n := by
  intro n
  induction n using Nat.strongRecOn with
  | ind n ih =>
    intro hn
    rcases Nat.eq_zero_or_pos n with rfl | h
    · exact trD_zero
    · exact trD_succ n h hn (fun k hk => ih k hk (by omega))

end Go.Proofs.Ytiadekblckngiaa
