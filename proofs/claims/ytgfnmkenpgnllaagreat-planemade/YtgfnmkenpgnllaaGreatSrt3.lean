/- In order, each once; the rows around points. -/
import Derived.Test.YtgfnmkenpgnllaaGreatSrt2
namespace Go.Proofs.YtgfnmkenpgnllaaGreat
open Go.RowKit
attribute [local go_sem ↓] Go.wp_at_zero Go.wp_at_succ

theorem compL_len (m : List (List Int)) : (compL m).length ≤ m.length := by
  unfold compL
  rw [List.length_map]; exact keptI_len _ _

/-- No later one is ahead of an earlier one. -/
def Asc (m : List (List Int)) : Prop := ∀ i j, i < j → j < m.length → ¬ cmpL (m.getD j []) (m.getD i []) < 0

/-- In order, each once: the same lists. -/
structure Inor (m' m : List (List Int)) : Prop where
  mem : ∀ r, r ∈ m' ↔ r ∈ m
  len : m'.length ≤ m.length
  srt : ∃ m0 : List (List Int), m0.Perm m ∧ Asc m0 ∧ m' = compL m0

theorem fr_open {B : Nat} {w : World} {v : Value} {m : List (List Int)} (h : Fr B 22 3 w v m) : ∃ ao cap, v = .slice ao m.length cap ∧ m.length ≤ cap ∧ cap ≤ 9223372036854775807 := mat_open (h.rws.mat (Nat.le_refl _))

set_option maxRecDepth 100000 in
set_option maxHeartbeats 400000 in
theorem inOrder_any (B : Nat) (m : List (List Int)) (v : Value) (w : World) (hv : Fr B 22 3 w v m) (hm : m.length ≤ 2000000000000) :
    Calls Tryz.prog 83 #[v] w fun e w' => ∃ u m', e = .returned u ∧ Fr B 22 3 w' u m' ∧ Inor m' m ∧ Below B w w' := by
  obtain ⟨ao, cap, hvv, hlc, hcm⟩ := fr_open hv
  subst hvv
  have HV : Hid (Fr B 22 3 w (.slice ao m.length cap) m) := hv
  clear hv
  go_enter Tryz.func83, Tryz.ntmps83
  go_wp2_with fail
  refine (sort_any B m _ w HV.out hm).mono ?_
  rintro e w1 ⟨rfl, m1, hp, hs, hf, hb⟩
  have HP : Hid (m1.Perm m) := hp
  have HS : Hid (Asc m1) := hs
  have HF : Hid (Fr B 22 3 w1 (.slice ao m.length cap) m1) := hf
  have HB : Hid (Below B w w1) := hb
  clear hp hs hf hb
  go_wp2_with fail
  refine (compact_any B m1 _ w1 HF.out (by rw [HP.out.length_eq]; exact hm)).mono ?_
  rintro e w2 ⟨u, rfl, hf2, hb2⟩
  obtain ⟨uo, uc, huu, _, _⟩ := fr_open hf2
  subst huu
  have HF2 : Hid (Fr B 22 3 w2 (.slice uo (compL m1).length uc) (compL m1)) := hf2
  have HB2 : Hid (Below B w w2) := HB.out.trans hb2
  have HIN : Hid (Inor (compL m1) m) := ⟨fun r => by rw [mem_compL]; exact HP.out.mem_iff, by rw [← HP.out.length_eq]; exact compL_len _, m1, HP.out, HS.out, rfl⟩
  clear hf2 hb2
  generalize hgl : (compL m1).length = gl at *
  go_wp2
  go_ret
  exact ⟨_, compL m1, rfl, HF2.out, HIN.out, HB2.out⟩

end Go.Proofs.YtgfnmkenpgnllaaGreat
