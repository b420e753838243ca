/- choose.Of: the walk that fills in a choice: one number more. -/
import Derived.Test.YtdmkmljhljoojaaMgAG
namespace Go.Proofs.Ytdmkmljhljoojaa
open Go.RowKit Go.Shelf
attribute [local go_sem] Oper.semAt_some

theorem ext_cons_map {n k fr : Nat} (h : fr < n) (ix : List Int) : (ext n (k + 1) fr).map (ix ++ ·) = (ext n k (fr + 1)).map ((ix ++ [(fr : Int)]) ++ ·) ++ (ext n (k + 1) (fr + 1)).map (ix ++ ·) := by
  rw [ext_step h]
  simp [Function.comp_def]

set_option maxRecDepth 100000 in
set_option maxHeartbeats 4000000 in
theorem fill_succ (k : Nat) (ih : FillSaid k) : FillSaid (k + 1) := by
  intro N0 l n many bm by' bc bn bf ba S T J Jx cs hst hbx hm5 hn hN0 hY ix fr pre f W hk hfr ho hrow hf hsz hJ hpre
  have HIH : Hid (∀ (ix : List Int) (fr : Nat) (pre : List (List Int)) (f : Nat → Value) (W : World), ix.length + k = many → fr ≤ n → Ox W l n many bm by' bc bn bf ba → W.rowIs ba 3 many f → (∀ j, j < ix.length → f j = .int .i64 (ix.getD j 0)) →
    (∀ b, S b → b < W.heap.size) → J S pre W → (pre ++ (ext n k fr).map (ix ++ ·)) <+: cs →
    CallsIn Fence.wide 0 Try.prog 49 #[.int .i64 ix.length, .int .i64 fr, .pointer (some ⟨bm, 0, none⟩), .pointer (some ⟨by', 0, none⟩), .pointer (some ⟨bc, 0, none⟩), .pointer (some ⟨bn, 0, none⟩), .pointer (some ⟨bf, 0, none⟩)] W fun e W' =>
      (e = .returned (.bool true) ∧ J S (pre ++ (ext n k fr).map (ix ++ ·)) W' ∧ Ox W' l n many bm by' bc bn bf ba ∧ W.heap.size ≤ W'.heap.size ∧ ∃ f', W'.rowIs ba 3 many f' ∧ ∀ j, j < ix.length → f' j = f j) ∨
      (e = .returned (.bool false) ∧ ∃ q, q <+: cs ∧ Jx S q W')) := ih N0 l n many bm by' bc bn bf ba S T J Jx cs hst hbx hm5 hn hN0 hY
  have HST : Hid (Stab J) := hst
  have HBX : Hid (Bxo S bm by' bc bn bf ba) := hbx
  have HO : Hid (Ox W l n many bm by' bc bn bf ba) := ho
  have HRW : Hid (W.rowIs ba 3 many f) := hrow
  have HF : Hid (∀ j, j < ix.length → f j = .int .i64 (ix.getD j 0)) := hf
  have HSZ : Hid (∀ b, S b → b < W.heap.size) := hsz
  have HJ : Hid (J S pre W) := hJ
  have HPRE : Hid ((pre ++ (ext n (k + 1) fr).map (ix ++ ·)) <+: cs) := hpre
  have c1 := ho.cm
  have c2 := ho.cn
  have hne : ((ix.length : Int) == (many : Int)) = false := by rw [beq_eq_false_iff_ne]; omega
  clear hst hbx hY ho hrow hf hsz hJ hpre ih
  refine callsIn_of_wp Try.func49 rfl trivial ?_ rfl
  simp only [Try.ntmps49, List.size_toArray, List.length_cons, List.length_nil, Nat.reduceAdd, Nat.reduceSub, Array.replicate_succ, Array.replicate_zero, List.push_toArray, List.append_toArray, List.nil_append, List.cons_append]
  gi_wp2
  gi_loopw [21, 10] (fun i _ wr => ∃ (q : Nat) (g : Nat → Value) (pr : List (List Int)), fr + q ≤ n ∧ i = .int .i64 q ∧ Ox wr l n many bm by' bc bn bf ba ∧ wr.rowIs ba 3 many g ∧ (∀ j, j < ix.length → g j = f j) ∧ W.heap.size ≤ wr.heap.size ∧ J S pr wr ∧
      pr ++ (ext n (k + 1) (fr + q)).map (ix ++ ·) = pre ++ (ext n (k + 1) fr).map (ix ++ ·)) (fun i _ _ => n - (intOf i).toNat)
  case atStart => exact ⟨0, f, pre, hfr, rfl, HO.out, HRW.out, fun _ _ => rfl, Nat.le_refl _, HJ.out, rfl⟩
  case round =>
    obtain ⟨q, g, pr, hq, rfl, ho, hrow, hg, hsz, hJ, hpr⟩ := hrel
    have HO2 : Hid (Ox wr l n many bm by' bc bn bf ba) := ho
    have HRW2 : Hid (wr.rowIs ba 3 many g) := hrow
    have HG : Hid (∀ j, j < ix.length → g j = f j) := hg
    have HJ2 : Hid (J S pr wr) := hJ
    have HPR : Hid (pr ++ (ext n (k + 1) (fr + q)).map (ix ++ ·) = pre ++ (ext n (k + 1) fr).map (ix ++ ·)) := hpr
    have HWS : Hid (W.heap.size ≤ wr.heap.size) := hsz
    by_cases hlt : fr + q < n
    · have d1 := ho.cc
      have d4 := hrow.cell (i := ix.length) (by omega)
      have d5 := hrow.frozen ix.length
      obtain ⟨W5, hW5⟩ : ∃ W5, W5 = wr.setCell ⟨ba, ix.length, none⟩ (.int .i64 ((fr : Int) + (q : Int))) := ⟨_, rfl⟩
      have HO5 : Hid (Ox W5 l n many bm by' bc bn bf ba) := by
        rw [hW5]
        exact ho.move (fun b hb _ => Below.heap_setCell _ _ _ _ (HBX.out.ne b hb))
      have HRW5 : Hid (W5.rowIs ba 3 many (fun i => if i = ix.length then .int .i64 ((fr : Int) + (q : Int)) else g i)) := by rw [hW5]; exact hrow.set _ _
      have HJ5 : Hid (J S pr W5) := HST.out S S pr wr W5 hJ (by rw [hW5]; exact (Chg.refl _ _).setCell HBX.out.a _) (fun b hb => .inl hb)
      have hs5 : W5.heap.size = wr.heap.size := by rw [hW5]; simp [World.setCell]
      have d6 : (wr.setCell ⟨ba, ix.length, none⟩ (.int .i64 ((fr : Int) + (q : Int)))).cell? ⟨bf, 0, none⟩ = some (.func (.func 49) #[] #[.pointer (some ⟨bm, 0, none⟩), .pointer (some ⟨by', 0, none⟩), .pointer (some ⟨bc, 0, none⟩), .pointer (some ⟨bn, 0, none⟩), .pointer (some ⟨bf, 0, none⟩)]) := by rw [← hW5]; exact HO5.out.cf
      have HW5 : Hid (W5 = wr.setCell ⟨ba, ix.length, none⟩ (.int .i64 ((fr : Int) + (q : Int)))) := hW5
      have HCONS : Hid ((ext n (k + 1) (fr + q)).map (ix ++ ·) = (ext n k (fr + q + 1)).map ((ix ++ [((fr + q : Nat) : Int)]) ++ ·) ++ (ext n (k + 1) (fr + q + 1)).map (ix ++ ·)) := ext_cons_map hlt ix
      have HCALL : Hid (CallsIn Fence.wide 0 Try.prog 49 #[.int .i64 ((ix.length : Int) + 1), .int .i64 ((fr : Int) + (q : Int) + 1), .pointer (some ⟨bm, 0, none⟩), .pointer (some ⟨by', 0, none⟩), .pointer (some ⟨bc, 0, none⟩), .pointer (some ⟨bn, 0, none⟩), .pointer (some ⟨bf, 0, none⟩)] W5 fun e W' =>
          (e = .returned (.bool true) ∧ J S (pr ++ (ext n k (fr + q + 1)).map ((ix ++ [((fr + q : Nat) : Int)]) ++ ·)) W' ∧ Ox W' l n many bm by' bc bn bf ba ∧ W5.heap.size ≤ W'.heap.size ∧ ∃ f', W'.rowIs ba 3 many f' ∧ ∀ j, j < ix.length → f' j = f j) ∨
          (e = .returned (.bool false) ∧ ∃ q, q <+: cs ∧ Jx S q W')) := by
        have h := HIH.out (ix ++ [((fr + q : Nat) : Int)]) (fr + q + 1) pr _ W5 (by simp; omega) (by omega) HO5.out HRW5.out (fun j hj => by
            simp only [List.length_append, List.length_singleton] at hj
            by_cases e : j = ix.length
            · subst e; simp
            · have hj' : j < ix.length := by omega
              simp only [e, if_false]
              rw [HG.out j hj', HF.out j hj']
              simp only [List.getD_eq_getElem?_getD]; rw [List.getElem?_append_left hj']) (fun b hb => by have := HSZ.out b hb; omega) HJ5.out (by
            refine List.IsPrefix.trans ?_ HPRE.out
            rw [← HPR.out, HCONS.out, ← List.append_assoc]
            exact List.prefix_append _ _)
        have e1 : ((ix ++ [((fr + q : Nat) : Int)]).length : Int) = (ix.length : Int) + 1 := by simp
        have e2 : ((fr + q + 1 : Nat) : Int) = (fr : Int) + (q : Int) + 1 := by omega
        rw [e1, e2] at h
        refine h.mono ?_
        rintro e W' (⟨rfl, a1, a2, a3, f', a4, a5⟩ | h)
        · refine .inl ⟨rfl, a1, a2, a3, f', a4, fun j hj => ?_⟩
          rw [a5 j (by simp; omega)]
          simp only [show j ≠ ix.length by omega, if_false]
          exact HG.out j hj
        · exact .inr h
      clear ho hrow hg hsz hJ hpr hW5
      have hqI : (0 : Int) ≤ (q : Int) := by omega
      have hfI : (0 : Int) ≤ (fr : Int) := by omega
      have hI0 : (0 : Int) ≤ (ix.length : Int) := by omega
      have hI1 : (ix.length : Int) < (many : Int) := by omega
      have hqJ : (q : Int) < (n : Int) - (fr : Int) := by omega
      have hfq : (fr : Int) + (q : Int) < (n : Int) := by omega
      have hfq0 : (0 : Int) ≤ (fr : Int) + (q : Int) := by omega
      gi_wp2_with fail
      refine ⟨trivial, rfl, ?_⟩
      rw [← HW5.out]
      refine HCALL.out.mono ?_
      rintro e w6 (⟨rfl, a1, a2, a3, f6, a4, a5⟩ | ⟨rfl, a1⟩)
      · have S1 : Hid (J S (pr ++ (ext n k (fr + q + 1)).map ((ix ++ [((fr + q : Nat) : Int)]) ++ ·)) w6) := a1
        have S2 : Hid (Ox w6 l n many bm by' bc bn bf ba) := a2
        have S3 : Hid (W.heap.size ≤ w6.heap.size) := by show _ ≤ _; have := HWS.out; omega
        have S4 : Hid (w6.rowIs ba 3 many f6) := a4
        have S5 : Hid (∀ j, j < ix.length → f6 j = f j) := a5
        clear a1 a2 a3 a4 a5
        gi_wp2
        go_roundw
        case rel =>
          refine ⟨q + 1, f6, _, by omega, by go_num, S2.out, S4.out, S5.out, S3.out, S1.out, ?_⟩
          rw [← HPR.out, HCONS.out, List.append_assoc]
          rfl
        case measure => simp [intOf]; omega
      · have S1 : Hid (∃ q, q <+: cs ∧ Jx S q w6) := a1
        clear a1
        gi_wp2
        go_ret
        exact .inr ⟨rfl, S1.out⟩
    · have hqe : fr + q = n := by omega
      have HCE : Hid (pr = pre ++ (ext n (k + 1) fr).map (ix ++ ·)) := by
        show _ = _
        rw [← hpr, hqe, ext_end (Nat.le_refl _)]
        simp
      clear ho hrow hg hsz hJ hpr
      have hqK : decide ((q : Int) < (n : Int) - (fr : Int)) = false := by simp; omega
      gi_wp2
      go_ret
      exact .inl ⟨rfl, by rw [← HCE.out]; exact HJ2.out, HO2.out, HWS.out, g, HRW2.out, HG.out⟩

theorem fill_any : ∀ k, FillSaid k
  | 0 => fill_zero
  | k + 1 => fill_succ k (fill_any k)

end Go.Proofs.Ytdmkmljhljoojaa
