/- named.treesOf. -/
import Derived.Test.YtiadekblckngiaaNm3
import Derived.Test.YtiadekblckngiaaNmi
namespace Go.Proofs.Ytiadekblckngiaa
open Go.RowKit
attribute [local go_sem ↓] Go.wp_at_zero Go.wp_at_succ

def TrP (n : Nat) : Prop := ∀ w : World, Calls Try.prog 28 #[.int .i64 (n : Int)] w fun e w' => ∃ uo ul uc, e = .returned (.slice uo ul uc) ∧ ul = (trL n).length ∧ Fr w.heap.size 35 3 w' (.slice uo ul uc) (trL n) ∧ Below w.heap.size w w'

set_option maxRecDepth 100000 in
set_option maxHeartbeats 400000 in
theorem trP_zero : TrP 0 := by
  intro w
  have HF : Hid (Fr w.heap.size 35 3 (w.alloc (.cells #[.slice none 0 0] 35)) (.slice (some ⟨w.heap.size, 0, none⟩) 1 1) [[]]) := one_fr (Sl.nil _ _ _) (Nat.le_refl _)
  have HB : Hid (Below w.heap.size w (w.alloc (.cells #[.slice none 0 0] 35))) := (Below.refl _ _).alloc (Nat.le_refl _) _
  go_enter Try.func28, Try.ntmps28
  go_wp2
  go_ret
  exact ⟨_, _, _, rfl, rfl, HF.out, HB.out⟩

theorem tr_cat (a b : List Int) (z : Int) : [a, [z], b].flatten = a ++ [z] ++ b := by simp

theorem sl_three {w : World} {g : Nat} {x y z : Value} (h : w.heap[g]? = some (.cells #[x, y, z] 35 (0, 0))) : Sl 0 35 w (.slice (some ⟨g, 0, none⟩) 3 3) [x, y, z] := by
  refine ⟨some ⟨g, 0, none⟩, 3, rfl, by simp, by simp [maxLen], fun i hi => ⟨g, 0, rfl, ?_, Or.inr ⟨_, h⟩⟩, fun h => by cases h⟩
  have : i = 0 ∨ i = 1 ∨ i = 2 := by simp at hi; omega
  rcases this with rfl | rfl | rfl <;> simp [World.cell?, h]

/-- Concat of a list, one number and a list. -/
theorem cat3_any (a b : List Int) (z : Int) (x y t : Value) (w : World) (hx : Sl 0 3 w x (ints a)) (ht : Sl 0 3 w t (ints [z])) (hy : Sl 0 3 w y (ints b)) (ha : a.length ≤ 10) (hb : b.length ≤ 10) :
    Calls Try.prog 39 #[.slice (some ⟨w.heap.size, 0, none⟩) 3 3] (w.alloc (.cells #[x, t, y] 35)) fun e w' => ∃ uo uc, e = .returned (.slice uo (a.length + 1 + b.length) uc) ∧ Sl 0 3 w' (.slice uo (a.length + 1 + b.length) uc) (ints (a ++ [z] ++ b)) ∧ Below w.heap.size w w' := by
  have hn := heap_alloc_new w (.cells #[x, t, y] 35)
  have htot : tot [a, [z], b] = a.length + 1 + b.length := by simp [tot]; omega
  have h := concat_any 0 [a, [z], b] [x, t, y] (.slice (some ⟨w.heap.size, 0, none⟩) 3 3) (w.alloc (.cells #[x, t, y] 35)) rfl (sl_three hn) (fun i hi => by
    have : i = 0 ∨ i = 1 ∨ i = 2 := by simp at hi; omega
    rcases this with rfl | rfl | rfl
    · exact hx.alloc _
    · exact ht.alloc _
    · exact hy.alloc _) (by simp) (by omega) (by omega)
  rw [htot, tr_cat] at h
  refine h.mono ?_
  rintro e w' ⟨u, rfl, h1, h2⟩
  obtain ⟨uo, uc, rfl⟩ := owns_form h1
  exact ⟨uo, uc, rfl, Sl.own h1, ((Below.refl _ _).alloc (Nat.le_refl _) _).trans (h2.mono (by simp))⟩

set_option maxRecDepth 100000 in
set_option maxHeartbeats 3200000 in
theorem trP_succ (n : Nat) (h1 : 1 ≤ n) (h4 : n ≤ 4) (ih : ∀ k, k < n → TrP k) : TrP n := by
  intro w
  obtain ⟨i0, hi, hz0, hz1, hz2⟩ := info_parts infoSlN
  have HIH : Hid (∀ k, k < n → TrP k) := ih
  have HEQ : Hid (trL n = trS trL n n) := trL_eq n (by omega) h1
  have hn0 : ((n : Int) == 0) = false := by rw [beq_eq_false_iff_ne]; omega
  clear ih
  go_enter Try.func28, Try.ntmps28
  go_wp2
  go_loopw [3, 15] (fun x i wr => ∃ k : Nat, k ≤ n ∧ i = .int .i64 (k : Int) ∧ TrI w x (trS trL n k) [] [] wr) (fun _ i _ => n - (intOf i).toNat)
  case atStart => exact ⟨0, Nat.zero_le _, rfl, TrI.start w⟩
  case round =>
    obtain ⟨k, hk, rfl, hf⟩ := hrel
    have HF : Hid (TrI w u3 (trS trL n k) [] [] wr) := hf
    clear hf
    by_cases hlt : k < n
    · have HLK : Hid (1 ≤ (trL k).length ∧ (trL k).length ≤ 14) := trL_len k (by omega)
      have HLR : Hid (1 ≤ (trL (n - 1 - k)).length ∧ (trL (n - 1 - k)).length ≤ 14) := trL_len (n - 1 - k) (by omega)
      have HRK : Hid (∀ r ∈ trL k, r.length = k) := trL_row k (by omega)
      have HRR : Hid (∀ r ∈ trL (n - 1 - k), r.length = n - 1 - k) := trL_row _ (by omega)
      obtain ⟨rt, hrt⟩ : ∃ rt : Nat, rt = n - 1 - k := ⟨_, rfl⟩
      have hrI : (n : Int) - 1 - (k : Int) = (rt : Int) := by omega
      have hr4 : rt ≤ 3 := by omega
      have HRT : Hid (rt = n - 1 - k) := hrt
      have HTN : Hid (((k : Int) + 1) * ((rt : Int) + 1) = trN n k) := by
        show _ = _
        unfold trN
        rw [← hrI]
        congr 1
        omega
      obtain ⟨tz, htz⟩ : ∃ tz : Int, ((k : Int) + 1) * ((rt : Int) + 1) = tz := ⟨_, rfl⟩
      have tz0 : 0 ≤ tz := by rw [← htz]; exact Int.mul_nonneg (by omega) (by omega)
      have tz1 : tz ≤ 16 := by
        rw [← htz]
        exact Int.le_trans (Int.mul_le_mul (by omega : (k : Int) + 1 ≤ 4) (by omega : (rt : Int) + 1 ≤ 4) (by omega) (by omega)) (by decide)
      have HTZ : Hid (tz = trN n k) := by show _ = _; rw [← htz]; exact HTN.out
      have HCK : Hid (∀ W : World, Calls Try.prog 28 #[.int .i64 (k : Int)] W fun e w' => ∃ uo uc, e = .returned (.slice uo (trL k).length uc) ∧ Fr W.heap.size 35 3 w' (.slice uo (trL k).length uc) (trL k) ∧ Below W.heap.size W w') := fun W => (HIH.out k hlt W).mono (by rintro e w' ⟨uo, ul, uc, h1, rfl, h2, h3⟩; exact ⟨uo, uc, h1, h2, h3⟩)
      have HCR : Hid (∀ W : World, Calls Try.prog 28 #[.int .i64 (rt : Int)] W fun e w' => ∃ uo uc, e = .returned (.slice uo (trL rt).length uc) ∧ Fr W.heap.size 35 3 w' (.slice uo (trL rt).length uc) (trL rt) ∧ Below W.heap.size W w') := fun W => (HIH.out rt (by omega) W).mono (by rintro e w' ⟨uo, ul, uc, h1, rfl, h2, h3⟩; exact ⟨uo, uc, h1, h2, h3⟩)
      have HRTL : Hid (trL (n - 1 - k) = trL rt) := by show _ = _; rw [hrt]
      obtain ⟨W1, hW1⟩ : ∃ W1, W1 = wr.alloc (.cells #[.int .i64 tz] 3) := ⟨_, rfl⟩
      have HI1 : Hid (TrI w u3 (trM n k 0) [] [(.slice (some ⟨wr.heap.size, 0, none⟩) 1 1, [tz])] W1) := by
        rw [hW1, trM_zero]
        have hb : Below wr.heap.size wr (wr.alloc (.cells #[.int .i64 tz] 3)) := (Below.refl _ _).alloc (Nat.le_refl _) _
        refine (HF.out.below hb (Nat.le_refl _)).addS ?_
        have h := World.ownsRow_lit (base := wr.heap.size) (e := 3) (size := 1) wr #[.int .i64 tz] 1 (Nat.le_refl _) (by simp [maxLen]) (by simp)
        exact Sl.own h
      clear hrt HTN HF
      go_wp2_with fail
      rw [← hW1]
      refine (HCK.out W1).mono ?_
      rintro e w2 ⟨lo, lc, rfl, hfl, hb2⟩
      have HI2 : Hid (TrI w u3 (trM n k 0) [(.slice lo (trL k).length lc, trL k)] [(.slice (some ⟨wr.heap.size, 0, none⟩) 1 1, [tz])] w2) := HI1.out.add hb2 hfl
      obtain ⟨tb, htb⟩ : ∃ tb, tb = wr.heap.size := ⟨_, rfl⟩
      rw [← htb] at HI2 ⊢
      clear hfl hb2 HI1 hW1 htb
      obtain ⟨K1, hK1⟩ : ∃ K1, K1 = trL k := ⟨_, rfl⟩
      have HK1 : Hid (K1 = trL k) := hK1
      rw [← hK1] at HI2 HLK HRK ⊢
      clear hK1
      have hlk := HLK.out.2
      go_wp2
      go_loopw [3, 31] (fun x i wq => ∃ j : Nat, j ≤ K1.length ∧ i = .int .i64 (j : Int) ∧ TrI w x (trM n k j) [(.slice lo K1.length lc, K1)] [(.slice (some ⟨tb, 0, none⟩) 1 1, [tz])] wq) (fun _ i _ => K1.length - (intOf i).toNat)
      case atStart => exact ⟨0, Nat.zero_le _, rfl, HI2.out⟩
      case round =>
        obtain ⟨j, hj, rfl, hi2⟩ := hrel
        rename World => wq
        have HJ : Hid (TrI w u3 (trM n k j) [(.slice lo K1.length lc, K1)] [(.slice (some ⟨tb, 0, none⟩) 1 1, [tz])] wq) := hi2
        clear hi2 HI2
        by_cases hlj : j < K1.length
        · obtain ⟨b, o, cp, r1, hs, hc1, hcc, hr1⟩ := mat_cell ((HJ.out.oth (.slice lo K1.length lc, K1) (by simp)).1.rws.mat (Nat.le_refl _)) hlj
          simp only [Value.slice.injEq] at hs
          obtain ⟨rfl, -, rfl⟩ := hs
          obtain ⟨ro, rc, hrv, _, _⟩ := sl_open hr1
          subst hrv
          have HRJ : Hid ((K1.getD j []).length = k) := HRK.out _ (by simp [hlj])
          have HGJ : Hid (K1.getD j [] = (trL k).getD j []) := by show _ = _; rw [HK1.out]
          have HJ2 : Hid (TrI w u3 (trJ n k j 0) [(.slice (some ⟨b, o, none⟩) K1.length lc, K1)] [(.slice ro (K1.getD j []).length rc, K1.getD j []), (.slice (some ⟨tb, 0, none⟩) 1 1, [tz])] wq) := by rw [trJ_zero]; exact HJ.out.addS hr1
          have HTJ : Hid (trJ n k j (trL rt).length = trM n k (j + 1)) := by
            show _ = _
            rw [← HRTL.out]
            exact trJ_all n k j (by rw [← HK1.out]; exact hlj)
          have jI : (j : Int) < (K1.length : Int) := by omega
          have jI0 : (0 : Int) ≤ (j : Int) := by omega
          obtain ⟨lj, hlj2⟩ : ∃ lj, lj = K1.getD j [] := ⟨_, rfl⟩
          rw [← hlj2] at HRJ HGJ HJ2
          obtain ⟨ljl, hljl⟩ : ∃ ljl, ljl = lj.length := ⟨_, rfl⟩
          have hcc2 : wq.cell? ⟨b, o + j, none⟩ = some (.slice ro ljl rc) := by rw [hljl, hlj2]; exact hcc
          rw [← hljl] at HJ2 HRJ
          have HLJ : Hid (ljl = lj.length) := hljl
          clear hr1 HJ hcc hlj2 hljl
          go_wp2_with fail
          refine (HCR.out wq).mono ?_
          rintro e w3 ⟨so, sc, rfl, hfs, hb3⟩
          have HJ3 : Hid (TrI w u3 (trJ n k j 0) [(.slice so (trL rt).length sc, trL rt), (.slice (some ⟨b, o, none⟩) K1.length lc, K1)] [(.slice ro ljl rc, lj), (.slice (some ⟨tb, 0, none⟩) 1 1, [tz])] w3) := HJ2.out.add hb3 hfs
          clear hfs hb3 HJ2 hcc2
          rw [HRTL.out] at HLR HRR
          have HSC : Hid (∀ q, q < (trL rt).length → trJ n k j (q + 1) = trJ n k j q ++ [lj ++ [tz] ++ (trL rt).getD q []]) := fun q hq => by
            have h := trJ_succ n k j q (by rw [HRTL.out]; exact hq)
            rw [HRTL.out, ← HGJ.out, ← HTZ.out] at h
            exact h
          have HTL : Hid (∀ q, q < 15 → (trJ n k j q).length ≤ 100) := fun q hq => trJ_len n (by omega) k hlt j (by omega) q hq
          obtain ⟨K2, hK2⟩ : ∃ K2, K2 = trL rt := ⟨_, rfl⟩
          rw [← hK2] at HJ3 HLR HRR HTJ HSC ⊢
          clear hK2
          have hlr := HLR.out.2
          go_wp2
          go_loopw [3, 38] (fun x i wp => ∃ q : Nat, q ≤ K2.length ∧ i = .int .i64 (q : Int) ∧ TrI w x (trJ n k j q) [(.slice so K2.length sc, K2), (.slice (some ⟨b, o, none⟩) K1.length lc, K1)] [(.slice ro ljl rc, lj), (.slice (some ⟨tb, 0, none⟩) 1 1, [tz])] wp) (fun _ i _ => K2.length - (intOf i).toNat)
          case atStart => exact ⟨0, Nat.zero_le _, rfl, HJ3.out⟩
          case round =>
            obtain ⟨q, hq, rfl, hi3⟩ := hrel
            rename World => wp
            have HQ : Hid (TrI w u3 (trJ n k j q) [(.slice so K2.length sc, K2), (.slice (some ⟨b, o, none⟩) K1.length lc, K1)] [(.slice ro ljl rc, lj), (.slice (some ⟨tb, 0, none⟩) 1 1, [tz])] wp) := hi3
            clear hi3 HJ3
            by_cases hlq : q < K2.length
            · obtain ⟨b2, o2, cp2, r2, hs2, hc2, hcc2, hr2⟩ := mat_cell ((HQ.out.oth (.slice so K2.length sc, K2) (by simp)).1.rws.mat (Nat.le_refl _)) hlq
              simp only [Value.slice.injEq] at hs2
              obtain ⟨rfl, -, rfl⟩ := hs2
              obtain ⟨so2, sc2, hsv, _, _⟩ := sl_open hr2
              subst hsv
              have hrq : (K2.getD q []).length ≤ 10 := by rw [HRR.out _ (by simp [hlq])]; omega
              have HSCQ := HSC.out q hlq
              have HSQ : Hid (trJ n k j (q + 1) = trJ n k j q ++ [lj ++ [tz] ++ K2.getD q []]) := HSCQ
              have HTQ : Hid ((trJ n k j q).length ≤ 100) := HTL.out q (by omega)
              clear HSCQ
              have qI : (q : Int) < (K2.length : Int) := by omega
              have qI0 : (0 : Int) ≤ (q : Int) := by omega
              have hr3 : Sl 0 3 wp (.slice so2 (K2.getD q []).length sc2) (ints (K2.getD q [])) := hr2.more (Nat.zero_le _)
              generalize K2.getD q [] = rq at *
              have hlj0 := HQ.out.sls (.slice ro ljl rc, lj) (by simp)
              have htz0 := HQ.out.sls (.slice (some ⟨tb, 0, none⟩) 1 1, [tz]) (by simp)
              have HCT := cat3_any lj rq tz _ _ _ wp hlj0 htz0 hr3 (by have := HLJ.out; have := HRJ.out; omega) hrq
              have HCT2 : Hid (Calls Try.prog 39 #[.slice (some ⟨wp.heap.size, 0, none⟩) 3 3] (wp.alloc (.cells #[.slice ro ljl rc, .slice (some ⟨tb, 0, none⟩) 1 1, .slice so2 rq.length sc2] 35)) fun e w' => ∃ uo ul uc, e = .returned (.slice uo ul uc) ∧ Sl 0 3 w' (.slice uo ul uc) (ints (lj ++ [tz] ++ rq)) ∧ Below wp.heap.size wp w') := HCT.mono (by
                rintro e w' ⟨uo, uc, h1, h2, h3⟩
                exact ⟨uo, _, uc, h1, h2, h3⟩)
              obtain ⟨rql, hrql⟩ : ∃ rql, rql = rq.length := ⟨_, rfl⟩
              rw [← hrql] at HCT2 hcc2
              clear HCT hr2 hr3 hlj0 htz0 hrql hrq
              go_wp2_with fail
              refine HCT2.out.mono ?_
              rintro e w4 ⟨uo, ul, uc, rfl, hu, hb4⟩
              obtain ⟨vs, g2, gz, hpush⟩ := (HQ.out.below hb4 (Nat.le_refl _)).push hu
              have G2 : Hid (w4.ownsRow w.heap.size 35 1 u3 (trJ n k j q).length vs) := g2
              have HP : Hid (∀ v' w', w'.ownsRow w.heap.size 35 1 v' ((trJ n k j q).length + 1) (vs ++ [.slice uo ul uc]) → (w4.alloc (.cells #[.slice uo ul uc] 35)).grownBy w' u3.ownBlock → (v'.ownBlock = u3.ownBlock ∨ v'.ownBlock = some (w4.alloc (.cells #[.slice uo ul uc] 35)).heap.size) → TrI w v' (trJ n k j (q + 1)) [(.slice (some ⟨b2, o2, none⟩) K2.length sc, K2), (.slice (some ⟨b, o, none⟩) K1.length lc, K1)] [(.slice ro ljl rc, lj), (.slice (some ⟨tb, 0, none⟩) 1 1, [tz])] w') := by rw [HSQ.out]; exact hpush
              have htq := HTQ.out
              clear hu hb4 HCT2 g2 hpush HQ
              generalize (trJ n k j q).length = tl at *
              go_wp2_with (first | (at_builtin; refine wpList_append_own_at _ rfl _ _ 22 rfl w.heap.size 35 i0 (.slice none 0 0) 1 24 Try.underlying22 hi hz0 hz1 hz2 rfl (by decide) _ _ _ rfl (G2.out.alloc _) ⟨w4.heap.size, 0, none⟩ 1 1 [.slice uo ul uc] rfl rfl (one_new _ _ _) (one_slice _ _ _) ?d3 ?d4 ?d5 ?_))
              case d3 => unfold maxLen; omega
              case d4 => omega
              case d5 => simp; omega
              intro v' w5 ho hg _ hat
              have R1 : Hid (TrI w v' (trJ n k j (q + 1)) [(.slice (some ⟨b2, o2, none⟩) K2.length sc, K2), (.slice (some ⟨b, o, none⟩) K1.length lc, K1)] [(.slice ro ljl rc, lj), (.slice (some ⟨tb, 0, none⟩) 1 1, [tz])] w5) := HP.out v' w5 ho hg (by simpa using hat)
              clear ho hg hat HP G2
              go_wp2
              go_roundw
              case rel => exact ⟨q + 1, by omega, by go_num, R1.out⟩
              case measure => simp [intOf]; omega
            · have hqe : q = K2.length := by omega
              subst hqe
              have HE : Hid (TrI w u3 (trM n k (j + 1)) [(.slice (some ⟨b, o, none⟩) K1.length lc, K1)] [(.slice (some ⟨tb, 0, none⟩) 1 1, [tz])] wp) := by
                rw [← HTJ.out]
                exact HQ.out.less (by simp) (by simp)
              clear HQ
              go_wp2
              go_roundw
              case rel => exact ⟨j + 1, by omega, by go_num, HE.out⟩
              case measure => simp [intOf]; omega
        · have hje : j = K1.length := by omega
          subst hje
          have HE : Hid (TrI w u3 (trS trL n (k + 1)) [] [] wq) := by
            rw [← trM_all, ← HK1.out]
            exact HJ.out.less (by simp) (by simp)
          clear HJ
          go_wp2
          go_roundw
          case rel => exact ⟨k + 1, by omega, by go_num, HE.out⟩
          case measure => simp [intOf]; omega
    · have hke : k = n := by omega
      subst hke
      obtain ⟨ao, cap, hvv⟩ := HF.out.form
      subst hvv
      have HLE : Hid ((trS trL k k).length = (trL k).length) := by show _ = _; rw [HEQ.out]
      have HF2 : Hid (Fr w.heap.size 35 3 wr (.slice ao (trS trL k k).length cap) (trL k)) := by rw [HEQ.out]; exact HF.out.fr
      have HB : Hid (Below w.heap.size w wr) := HF.out.bel
      clear HF HEQ
      generalize (trS trL k k).length = tll at *
      go_wp2
      go_ret
      exact ⟨_, _, _, rfl, HLE.out, HF2.out, HB.out⟩

theorem trP_any : ∀ n, n ≤ 4 → TrP n := by
  intro n
  induction n using Nat.strongRecOn with
  | ind n ih =>
    intro hn
    rcases Nat.eq_zero_or_pos n with rfl | h
    · exact trP_zero
    · exact trP_succ n h hn (fun k hk => ih k hk (by omega))

end Go.Proofs.Ytiadekblckngiaa
