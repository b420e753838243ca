/- face.told, face.counts. -/
import Derived.Test.YtopjjhejjjchpaaDoorGB
namespace Go.Proofs.YtopjjhejjjchpaaDoor
open Go.RowKit Lin
attribute [local go_sem ↓] Go.wp_at_zero Go.wp_at_succ

set_option maxRecDepth 100000 in
set_option maxHeartbeats 1600000 in
theorem told_any (B : Nat) (A : List Nat) (v : Value) (w : World) (hv : Sl B 49 w v (u64s A)) (hA : ∀ x ∈ A, x < 1024) (hl : A.length ≤ 5000) (hT : TabB w) :
    Calls Tryd.prog 12 #[v] w fun e w' => ∃ u m', e = .returned u ∧ Fr w.heap.size 22 3 w' u m' ∧ Inor m' (A.map memL) ∧ Below w.heap.size w w' := by
  obtain ⟨i0, hi0, hz0, hz1, hz2⟩ := info_parts Tryd.info22
  have hv0 := hv
  obtain ⟨ao, cap, hvv, hlc, hcm, _, _⟩ := hv0
  rw [u64s_len] at hvv hlc
  subst hvv
  have HV : Hid (∀ W k, Below w.heap.size w W → k < A.length → ∃ b o, ao = some ⟨b, o, none⟩ ∧ W.cell? ⟨b, o + k, none⟩ = some (.int .u64 ((A.getD k 0 : Nat) : Int))) := fun W k hb hk => by
    obtain ⟨ao2, c2, e2, _, _, h5, _⟩ := (hv.below hb (Nat.le_refl _))
    simp only [Value.slice.injEq] at e2
    obtain ⟨b, o, e3, h6, _⟩ := h5 k (by rw [u64s_len]; exact hk)
    refine ⟨b, o, e2.1.trans e3, ?_⟩
    rw [h6]
    simp [u64s, hk]
  have HLI : Hid (∀ W k, Below w.heap.size w W → k < A.length → Calls Tryd.prog 21 #[.int .u64 ((A.getD k 0 : Nat) : Int)] W fun e w' => ∃ uo uc, e = .returned (.slice uo (memL (A.getD k 0)).length uc) ∧ Sl 0 3 w' (.slice uo (memL (A.getD k 0)).length uc) (ints (memL (A.getD k 0))) ∧ Below W.heap.size W w') := fun W k hb hk => by
    refine (list10_any (A.getD k 0) (hA _ (by simp [hk])) W (hT.below hb)).mono ?_
    rintro e w' ⟨u, rfl, h1, h2⟩
    obtain ⟨uo, uc, rfl⟩ := owns_form h1
    exact ⟨uo, uc, rfl, Sl.own h1, h2⟩
  have HTK : Hid (∀ k, k < A.length → (A.take (k + 1)).map memL = (A.take k).map memL ++ [memL (A.getD k 0)]) := fun k hk => by
    rw [List.take_succ_eq_append_getElem hk, List.map_append]
    simp [hk]
  have HAL : Hid ((A.take A.length).map memL = A.map memL) := by show _ = _; rw [List.take_length]
  clear hv hT hA
  go_enter Tryd.func12, Tryd.ntmps12
  go_wp2
  go_loopw [3, 5, 8] (fun x _ i wr => ∃ k : Nat, k ≤ A.length ∧ i = .int .i64 (k : Int) ∧ Fr w.heap.size 22 3 wr x ((A.take k).map memL) ∧ Below w.heap.size w wr) (fun _ _ i _ => A.length - (intOf i).toNat)
  case atStart => exact ⟨0, Nat.zero_le _, rfl, ⟨[], rfl, World.ownsRow_nil _ _ _ _, fun i hi => by simp at hi⟩, Below.refl _ _⟩
  case round =>
    obtain ⟨k, hk, rfl, hf, hb⟩ := hrel
    obtain ⟨wa, rfl⟩ : ∃ wa, wa = wr := ⟨wr, rfl⟩
    have HB : Hid (Below w.heap.size w wa) := hb
    have hkl : ((A.take k).map memL).length = k := by simp; omega
    have hform := fr_open hf
    rw [hkl] at hform
    obtain ⟨xo, xc, hx, _, _⟩ := hform
    subst hx
    have HF : Hid (Fr w.heap.size 22 3 wa (.slice xo k xc) ((A.take k).map memL)) := hf
    have HKL : Hid (((A.take k).map memL).length = k) := hkl
    clear hf hb hkl
    by_cases hlt : k < A.length
    · obtain ⟨b, o, hao, hcc⟩ := HV.out wa k HB.out hlt
      have H2 := HLI.out wa k HB.out hlt
      have hT2 := HTK.out k hlt
      have HT2 : Hid ((A.take (k + 1)).map memL = (A.take k).map memL ++ [memL (A.getD k 0)]) := hT2
      have hkI : (k : Int) < (A.length : Int) := by omega
      subst hao
      clear HV HLI hT2 HTK HAL
      generalize A.getD k 0 = x at *
      go_wp2_with fail
      refine H2.mono ?_
      rintro e w2 ⟨uo, uc, rfl, hu, hb2⟩
      obtain ⟨vs, f1, f2, f3⟩ := HF.out.below hb2 (Nat.le_refl _)
      rw [HKL.out] at f1 f2
      have HO : Hid (w2.ownsRow w.heap.size 22 1 (.slice xo k xc) k vs) := f2
      have HB2 : Hid (Below w.heap.size w w2) := HB.out.trans (hb2.mono HB.out.size)
      have HPU : Hid (∀ v' w3, w3.ownsRow w.heap.size 22 1 v' (k + 1) (vs ++ [.slice uo (memL x).length uc]) → (w2.alloc (.cells #[.slice uo (memL x).length uc] 22)).grownBy w3 (Value.slice xo k xc).ownBlock → Fr w.heap.size 22 3 w3 v' ((A.take (k + 1)).map memL)) := fun v' w3 ho hg => by
        rw [HT2.out]
        exact Fr.push (m := (A.take k).map memL) (by decide) (by rw [HKL.out]; exact f1) (by rw [HKL.out]; exact f2.alloc _) (fun i hi => (f3 i hi).alloc _) (hu.alloc _) (by rw [HKL.out]; exact ho) hg
      have hsz : w.heap.size ≤ w2.heap.size := HB2.out.size
      clear f1 f2 f3 hu hb2 H2 hcc HT2 HF
      generalize (memL x).length = ml at *
      go_wp2_with (first | (at_builtin; refine wpList_append_own _ rfl _ _ 28 rfl w.heap.size 22 i0 (.slice none 0 0) 1 24 Tryd.underlying28 hi0 hz0 hz1 hz2 rfl (by decide) _ _ _ rfl (HO.out.alloc _) ⟨w2.heap.size, 0, none⟩ 1 1 [.slice uo ml uc] rfl rfl (one_new _ _ _) (one_slice _ _ _) ?c3 ?c4 ?c5 ?_))
      case c3 => unfold maxLen; omega
      case c4 => omega
      case c5 => simp; omega
      intro v' w3 ho hg _
      have HNX : Hid (Fr w.heap.size 22 3 w3 v' ((A.take (k + 1)).map memL)) := HPU.out v' w3 ho hg
      have HB3 : Hid (Below w.heap.size w w3) := (HB2.out.alloc hsz _).grown hg (by simp; omega) (fun y hy => (HO.out.lt y hy).1)
      clear ho hg
      go_wp2
      go_roundw
      case rel => exact ⟨k + 1, by omega, by go_num, HNX.out, HB3.out⟩
      case measure => simp [intOf]; omega
    · have hke : k = A.length := by omega
      subst hke
      have HIO : Hid (Calls Tryd.prog 22 #[.slice xo A.length xc] wa fun e w' => ∃ u m', e = .returned u ∧ Fr w.heap.size 22 3 w' u m' ∧ Inor m' (A.map memL) ∧ Below w.heap.size wa w') := by
        have := inOrder_any w.heap.size ((A.take A.length).map memL) (.slice xo A.length xc) wa HF.out (by rw [HKL.out]; omega)
        rw [HAL.out] at this
        exact this
      clear HV HLI HTK HAL HF HKL
      go_wp2_with fail
      refine HIO.out.mono ?_
      rintro e w4 ⟨u, m', rfl, h1, h2, h3⟩
      have HR : Hid (Fr w.heap.size 22 3 w4 u m' ∧ Inor m' (A.map memL) ∧ Below w.heap.size w w4) := ⟨h1, h2, HB.out.trans h3⟩
      clear h1 h2 h3
      go_wp2
      go_ret
      exact ⟨u, m', rfl, HR.out⟩

end Go.Proofs.YtopjjhejjjchpaaDoor
