/- In order, each once; the rows around points. -/
import Derived.Test.YtkfdpcgmpbopnaaGreatDoorSrt2
namespace Go.Proofs.YtkfdpcgmpbopnaaGreatDoor
open Go.RowKit
attribute [local go_sem ↓] Go.wp_at_zero Go.wp_at_succ

theorem compL_len (m : List (List Int)) : (compL m).length ≤ m.length := by
  unfold compL
  rw [List.length_map]; exact keptI_len _ _

/-- No later one is ahead of an earlier one. -/
def Asc (m : List (List Int)) : Prop := ∀ i j, i < j → j < m.length → ¬ cmpL (m.getD j []) (m.getD i []) < 0

/-- In order, each once: the same lists. -/
structure Inor (m' m : List (List Int)) : Prop where
  mem : ∀ r, r ∈ m' ↔ r ∈ m
  len : m'.length ≤ m.length
  srt : ∃ m0 : List (List Int), m0.Perm m ∧ Asc m0 ∧ m' = compL m0

theorem fr_open {B : Nat} {w : World} {v : Value} {m : List (List Int)} (h : Fr B 22 3 w v m) : ∃ ao cap, v = .slice ao m.length cap ∧ m.length ≤ cap ∧ cap ≤ 9223372036854775807 := mat_open (h.rws.mat (Nat.le_refl _))

set_option maxRecDepth 100000 in
set_option maxHeartbeats 400000 in
theorem inOrder_any (B : Nat) (m : List (List Int)) (v : Value) (w : World) (hv : Fr B 22 3 w v m) (hm : m.length ≤ 1000000) :
    Calls Tryz.prog 54 #[v] w fun e w' => ∃ u m', e = .returned u ∧ Fr B 22 3 w' u m' ∧ Inor m' m ∧ Below B w w' := by
  obtain ⟨ao, cap, hvv, hlc, hcm⟩ := fr_open hv
  subst hvv
  have HV : Hid (Fr B 22 3 w (.slice ao m.length cap) m) := hv
  clear hv
  go_enter Tryz.func54, Tryz.ntmps54
  go_wp2_with fail
  refine (sort_any B m _ w HV.out hm).mono ?_
  rintro e w1 ⟨rfl, m1, hp, hs, hf, hb⟩
  have HP : Hid (m1.Perm m) := hp
  have HS : Hid (Asc m1) := hs
  have HF : Hid (Fr B 22 3 w1 (.slice ao m.length cap) m1) := hf
  have HB : Hid (Below B w w1) := hb
  clear hp hs hf hb
  go_wp2_with fail
  refine (compact_any B m1 _ w1 HF.out (by rw [HP.out.length_eq]; exact hm)).mono ?_
  rintro e w2 ⟨u, rfl, hf2, hb2⟩
  obtain ⟨uo, uc, huu, _, _⟩ := fr_open hf2
  subst huu
  have HF2 : Hid (Fr B 22 3 w2 (.slice uo (compL m1).length uc) (compL m1)) := hf2
  have HB2 : Hid (Below B w w2) := HB.out.trans hb2
  have HIN : Hid (Inor (compL m1) m) := ⟨fun r => by rw [mem_compL]; exact HP.out.mem_iff, by rw [← HP.out.length_eq]; exact compL_len _, m1, HP.out, HS.out, rfl⟩
  clear hf2 hb2
  generalize hgl : (compL m1).length = gl at *
  go_wp2
  go_ret
  exact ⟨_, compL m1, rfl, HF2.out, HIN.out, HB2.out⟩

set_option maxRecDepth 100000 in
set_option maxHeartbeats 800000 in
theorem distinct_any (B : Nat) (P : List (List Int)) (v : Value) (w : World) (hv : Mat B 22 3 w v P) (hP : P.length ≤ 1000) (hr : ∀ r ∈ P, r.length ≤ 1000) :
    Calls Tryz.prog 87 #[v] w fun e w' => ∃ u m', e = .returned u ∧ Fr w.heap.size 22 3 w' u m' ∧ Inor m' P ∧ Below w.heap.size w w' := by
  obtain ⟨i0, hi, hz0, hz1, hz2⟩ := info_parts Tryz.info22
  obtain ⟨ao, cap, hvv, hlc, hcm⟩ := mat_open hv
  subst hvv
  have HV : Hid (Mat B 22 3 w (.slice ao P.length cap) P) := hv
  have HR : Hid (∀ r ∈ P, r.length ≤ 1000) := hr
  clear hv hr
  go_enter Tryz.func87, Tryz.ntmps87
  go_wp2
  go_loopw [3, 8] (fun x i wr => ∃ k : Nat, k ≤ P.length ∧ i = .int .i64 k ∧ Fr w.heap.size 22 3 wr x (P.take k) ∧ Below w.heap.size w wr) (fun _ i _ => P.length - (intOf i).toNat)
  case atStart => exact ⟨0, Nat.zero_le _, rfl, Fr.nil _ _ _ _, Below.refl _ _⟩
  case round =>
    obtain ⟨k, hk, rfl, hfr, hbel⟩ := hrel
    have HF : Hid (Fr w.heap.size 22 3 wr u3 (P.take k)) := hfr
    have HB : Hid (Below w.heap.size w wr) := hbel
    have hsz : w.heap.size ≤ wr.heap.size := hbel.size
    clear hfr hbel
    by_cases hlt : k < P.length
    · obtain ⟨b, o, cp, r1, hs, hc1, hcc, hr1⟩ := mat_cell (HV.out.below HB.out (Nat.le_refl _)) hlt
      simp only [Value.slice.injEq] at hs
      obtain ⟨rfl, _, rfl⟩ := hs
      obtain ⟨ro, rc, hrv, _, _⟩ := sl_open hr1
      subst hrv
      have HR1 : Hid (Sl B 3 wr (.slice ro (P.getD k []).length rc) (ints (P.getD k []))) := hr1
      have HRL : Hid ((P.getD k []).length ≤ 1000) := HR.out _ (by simp [hlt])
      have HSN : Hid (P.take (k + 1) = P.take k ++ [P.getD k []]) := by
        show _ = _
        rw [List.take_succ_eq_append_getElem hlt]; simp [hlt]
      clear hr1
      generalize P.getD k [] = q at *
      generalize hql : q.length = ql at *
      have HQL : Hid (q.length = ql) := hql
      clear hql
      go_wp2_with fail
      refine (clone_any B q _ wr HR1.out (by rw [HQL.out]; have := HRL.out; omega)).mono ?_
      rintro e w2 ⟨u, rfl, ho2, hb2⟩
      have HX : Hid (Sl 0 3 w2 u (ints q)) := Sl.own ho2
      rw [HQL.out] at ho2
      obtain ⟨uo, uc, huu⟩ := owns_form ho2
      subst huu
      have HB2 : Hid (Below w.heap.size w w2) := HB.out.trans (hb2.mono hsz)
      have HF2 : Hid (Fr w.heap.size 22 3 w2 u3 (P.take k)) := HF.out.below hb2 (Nat.le_refl _)
      have HLN : Hid ((P.take k).length = k) := by show _ = _; rw [List.length_take]; omega
      obtain ⟨vs, g1, g2, g3⟩ := HF2.out
      have hlen := HLN.out
      rw [hlen] at g1 g2 g3
      have G1 : Hid (vs.length = k) := g1
      have G2 : Hid (w2.ownsRow w.heap.size 22 1 u3 k vs) := g2
      have G3 : Hid (∀ i, i < k → Sl 0 3 w2 (vs.getD i (.slice none 0 0)) (ints ((P.take k).getD i []))) := g3
      have hsz2 : w.heap.size ≤ w2.heap.size := HB2.out.size
      clear g1 g2 g3 hlen ho2 hb2
      go_wp2_with (first | (at_builtin; refine wpList_append_own _ rfl _ _ 25 rfl w.heap.size 22 i0 (.slice none 0 0) 1 24 Tryz.underlying25 hi hz0 hz1 hz2 rfl (by decide) _ _ _ rfl (G2.out.alloc _) ⟨w2.heap.size, 0, none⟩ 1 1 [.slice uo ql uc] rfl rfl (one_new _ _ _) (one_slice _ _ _) ?d3 ?d4 ?d5 ?_))
      case d3 => unfold maxLen; omega
      case d4 => omega
      case d5 => simp; omega
      intro v' w3 ho hg _
      have R1 : Hid (Fr w.heap.size 22 3 w3 v' (P.take (k + 1))) := by
        have hp := Fr.push (e2 := 22) (e1 := 3) (m := P.take k) (u := .slice uo ql uc) (zs := q) (by decide) (by rw [HLN.out]; exact G1.out) (by rw [HLN.out]; exact G2.out.alloc _)
          (fun i hi => (G3.out i (by rw [HLN.out] at hi; exact hi)).alloc _) (HX.out.alloc _) (by rw [HLN.out]; exact ho) hg
        rw [← HSN.out] at hp
        exact hp
      have R2 : Hid (Below w.heap.size w w3) := (HB2.out.alloc (by omega) _).grown hg (by simp; omega) (fun x hx => (G2.out.lt x hx).1)
      clear ho hg
      go_wp2
      go_roundw
      case rel => exact ⟨k + 1, by omega, by go_num, R1.out, R2.out⟩
      case measure => simp [intOf]; omega
    · have HF3 : Hid (Fr w.heap.size 22 3 wr u3 P) := by
        have h := HF.out
        rw [List.take_of_length_le (by omega)] at h
        exact h
      obtain ⟨uo, uc, huu, _, _⟩ := fr_open HF3.out
      subst huu
      go_wp2_with fail
      refine (inOrder_any w.heap.size P _ wr HF3.out (by omega)).mono ?_
      rintro e w2 ⟨u, m', rfl, hf2, hin, hb2⟩
      obtain ⟨xo, xc, hxx, _, _⟩ := fr_open hf2
      subst hxx
      have H1 : Hid (Fr w.heap.size 22 3 w2 (.slice xo m'.length xc) m') := hf2
      have H2 : Hid (Inor m' P) := hin
      have H3 : Hid (Below w.heap.size w w2) := HB.out.trans hb2
      clear hf2 hin hb2
      generalize hml : m'.length = ml at *
      go_wp2
      go_ret
      exact ⟨_, m', rfl, H1.out, H2.out, H3.out⟩

end Go.Proofs.YtkfdpcgmpbopnaaGreatDoor
