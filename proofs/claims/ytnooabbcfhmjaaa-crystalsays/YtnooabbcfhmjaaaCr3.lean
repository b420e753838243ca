/- crystal.up, down, Up, Down. -/
import Derived.Test.YtnooabbcfhmjaaaCr2
namespace Go.Proofs.Ytnooabbcfhmjaaa
open Go.RowKit
attribute [local go_sem ↓] Go.wp_at_zero Go.wp_at_succ

/-- A word, or none. -/
def OptW (B : Nat) (w : World) (u : Value) : Option (List Nat) → Prop
  | none => u = .slice none 0 0
  | some x => w.ownsRow B 3 1 u x.length (ints (natsI x))

/-- A word and that there is one, or none. -/
structure TurnP (B : Nat) (wa : World) (o : Option (List Nat)) (e : Ending) (w : World) : Prop where
  ex : ∃ u, e = .returned (.tuple #[u, .bool o.isSome]) ∧ OptW B w u o
  bel : Below B wa w

theorem set_word {A B g cap p z : Nat} {w w2 : World} {wd : List Nat} (ho : w2.ownsRow B 3 1 (.slice (some ⟨g, 0, none⟩) wd.length cap) wd.length (ints (natsI wd))) (hb : Below A w w2) (hAB : A ≤ B) :
    (w2.setCell ⟨g, p, none⟩ (.int .i64 (z : Int))).ownsRow B 3 1 (.slice (some ⟨g, 0, none⟩) wd.length cap) (wd.set p z).length (ints (natsI (wd.set p z))) ∧ Below A w (w2.setCell ⟨g, p, none⟩ (.int .i64 (z : Int))) := by
  obtain ⟨st1, st2⟩ := ho.stored p (.int .i64 (z : Int))
  have hlt := ho.lt g rfl
  refine ⟨?_, hb.grown st2 (by omega) (fun k hk => by simp at hk; omega)⟩
  have e : ints (natsI (wd.set p z)) = (ints (natsI wd)).set p (.int .i64 (z : Int)) := by unfold ints natsI; rw [List.map_set, List.map_set]
  rw [e, List.length_set]
  exact st1

theorem word_cell {B g cap p : Nat} {w : World} {l : List Nat} (ho : w.ownsRow B 3 1 (.slice (some ⟨g, 0, none⟩) l.length cap) l.length (ints (natsI l))) (hp : p < l.length) : w.cell? ⟨g, p, none⟩ = some (.int .i64 ((l.getD p 0 : Nat) : Int)) := by
  rw [ho.cellAt p (by omega), ints_get _ _ (by rw [natsI_len]; exact hp), natsI_at hp]

set_option maxRecDepth 100000 in
set_option maxHeartbeats 1600000 in
theorem up_any (B : Nat) (wd : List Nat) (i : Nat) (v : Value) (w : World) (hv : Sl B 3 w v (ints (natsI wd))) (hl : wd.length ≤ 8) (hi : i ≤ 3) :
    Calls Try.prog 23 #[v, .int .i64 (i : Int)] w fun e w' => TurnP w.heap.size w (cUp wd i) e w' := by
  have HF := free_any B wd i v w hv hl hi
  obtain ⟨ao, cap, hvv, hlc, hcm⟩ := sl_open hv
  subst hvv
  have HV : Hid (Sl B 3 w (.slice ao (natsI wd).length cap) (ints (natsI wd))) := hv
  clear hv
  unfold cUp
  have hup := fun h => fre_up (w := wd) (i := i) h
  rw [natsI_len] at HF HV ⊢
  obtain ⟨O, hO⟩ : ∃ O, O = if (fre wd i).1 = [] then none else some (wd.set ((fre wd i).1.getLastD 0) i) := ⟨_, rfl⟩
  rw [← hO]
  have HO : Hid (O = if (fre wd i).1 = [] then none else some (wd.set ((fre wd i).1.getLastD 0) i)) := hO
  clear hO
  generalize fre wd i = S at *
  obtain ⟨K, A⟩ := S
  simp only at hup HF
  go_enter Try.func23, Try.ntmps23
  go_wp2_with fail
  refine HF.mono ?_
  rintro e w1 ⟨kv, av, rfl, htw⟩
  have HTW : Hid (TwoK w.heap.size w w1 kv av K A) := htw
  clear htw HF
  obtain ⟨ko, kc, hkv⟩ := owns_form HTW.out.k
  subst hkv
  by_cases hK : K = []
  · subst hK
    simp only [List.length_nil] at HTW ⊢
    go_wp2
    go_ret2
    rw [show O = none from HO.out]
    exact ⟨⟨_, rfl, rfl⟩, HTW.out.bel⟩
  · obtain ⟨hp1, -⟩ := hup hK
    have ho2 := HO.out
    rw [if_neg hK] at ho2
    obtain ⟨q, hq⟩ : ∃ q, K.length = q + 1 := ⟨K.length - 1, by have := List.length_pos_iff.2 hK; omega⟩
    have elast : K.getLastD 0 = K.getD q 0 := by
      rw [List.getLastD_eq_getLast?, List.getLast?_eq_getElem?, hq]
      simp
    rw [elast] at hp1 ho2
    have hok := HTW.out.k
    rw [hq] at hok
    obtain ⟨g, cap2, hgv, hgc, hgm⟩ := owns_some hok
    rw [hq] at HTW ⊢
    simp only [Value.slice.injEq, true_and] at hgv
    obtain ⟨rfl, rfl⟩ := hgv
    have hcc0 : w1.cell? ⟨g, q, none⟩ = some (.int .i64 ((K.getD q 0 : Nat) : Int)) := word_cell (l := K) (by rw [hq]; exact hok) (by omega)
    generalize K.getD q 0 = p at *
    have HO2 : Hid (O = some (wd.set p i)) := ho2
    clear ho2 HO
    have HCL : Hid (Calls Try.prog 29 #[.slice ao wd.length cap] w1 fun e w' => ∃ u, e = .returned u ∧ w'.ownsRow w1.heap.size 3 1 u wd.length (ints (natsI wd)) ∧ Below w1.heap.size w1 w') := by
      have := clone_any B (natsI wd) (.slice ao wd.length cap) w1 (HV.out.below HTW.out.bel (Nat.le_refl _)) (by rw [natsI_len]; omega)
      rw [natsI_len] at this
      exact this
    have hqI : ((q + 1 : Nat) : Int) - 1 = (q : Int) := by omega
    have hq0 : ¬ ((q + 1 : Nat) : Int) = 0 := by omega
    have hq8 : q + 1 ≤ 9223372036854775807 := by unfold maxLen at hgm; omega
    have HBE : Hid (Below w.heap.size w w1) := HTW.out.bel
    have HC0 : Hid (w1.cell? ⟨g, q, none⟩ = some (.int .i64 (p : Int))) := hcc0
    clear hok hup HTW hcc0 elast HV
    go_wp2_with fail
    refine HCL.out.mono ?_
    rintro e w2 ⟨u, rfl, hou, hb2⟩
    obtain ⟨wl, hwl⟩ : ∃ n, wd.length = n + 1 := ⟨wd.length - 1, by omega⟩
    have hou2 := hou
    rw [hwl] at hou2
    obtain ⟨g2, c2, hg2, hg2c, hg2m⟩ := owns_some hou2
    rw [← hwl] at hg2
    subst hg2
    have hc1 := word_cell hou hp1
    have hf1 := hou.frozenAt p
    have hcq : w2.cell? ⟨g, q, none⟩ = some (.int .i64 (p : Int)) := (hb2.cell (lt_of_cell HC0.out)).trans HC0.out
    have ST := set_word (p := p) (z := i) hou (HBE.out.trans (hb2.mono HBE.out.size)) HBE.out.size
    have HST : Hid ((w2.setCell ⟨g2, p, none⟩ (.int .i64 (i : Int))).ownsRow w1.heap.size 3 1 (.slice (some ⟨g2, 0, none⟩) wd.length c2) (wd.set p i).length (ints (natsI (wd.set p i))) ∧ Below w.heap.size w (w2.setCell ⟨g2, p, none⟩ (.int .i64 (i : Int)))) := ST
    have hsz : w.heap.size ≤ w1.heap.size := HBE.out.size
    clear ST hou hou2 HCL hb2 hwl hg2c
    have hpI : (p : Int) < (wd.length : Int) := by omega
    generalize wd.getD p 0 = zz at *
    go_wp2
    go_ret2
    rw [HO2.out]
    exact ⟨⟨_, rfl, own_low HST.out.1 hsz⟩, HST.out.2⟩

set_option maxRecDepth 100000 in
set_option maxHeartbeats 1600000 in
theorem down_any (B : Nat) (wd : List Nat) (i : Nat) (v : Value) (w : World) (hv : Sl B 3 w v (ints (natsI wd))) (hl : wd.length ≤ 8) (hi : i ≤ 3) :
    Calls Try.prog 24 #[v, .int .i64 (i : Int)] w fun e w' => TurnP w.heap.size w (cDn wd i) e w' := by
  have HF := free_any B wd i v w hv hl hi
  obtain ⟨ao, cap, hvv, hlc, hcm⟩ := sl_open hv
  subst hvv
  have HV : Hid (Sl B 3 w (.slice ao (natsI wd).length cap) (ints (natsI wd))) := hv
  clear hv
  unfold cDn
  have hup := fun h => fre_dn (w := wd) (i := i) h
  rw [natsI_len] at HF HV ⊢
  obtain ⟨O, hO⟩ : ∃ O, O = if (fre wd i).2 = [] then none else some (wd.set ((fre wd i).2.headD 0) (i + 1)) := ⟨_, rfl⟩
  rw [← hO]
  have HO : Hid (O = if (fre wd i).2 = [] then none else some (wd.set ((fre wd i).2.headD 0) (i + 1))) := hO
  clear hO
  generalize fre wd i = S at *
  obtain ⟨A, K⟩ := S
  simp only at hup HF
  go_enter Try.func24, Try.ntmps24
  go_wp2_with fail
  refine HF.mono ?_
  rintro e w1 ⟨av, kv, rfl, htw⟩
  have HTW : Hid (TwoK w.heap.size w w1 av kv A K) := htw
  clear htw HF
  obtain ⟨ko, kc, hkv⟩ := owns_form HTW.out.a
  subst hkv
  by_cases hK : K = []
  · subst hK
    simp only [List.length_nil] at HTW ⊢
    go_wp2
    go_ret2
    rw [show O = none from HO.out]
    exact ⟨⟨_, rfl, rfl⟩, HTW.out.bel⟩
  · obtain ⟨hp1, -⟩ := hup hK
    have ho2 := HO.out
    rw [if_neg hK] at ho2
    obtain ⟨q, hq⟩ : ∃ q, K.length = q + 1 := ⟨K.length - 1, by have := List.length_pos_iff.2 hK; omega⟩
    have elast : K.headD 0 = K.getD 0 0 := by cases K <;> rfl
    rw [elast] at hp1 ho2
    have hok := HTW.out.a
    rw [hq] at hok
    obtain ⟨g, cap2, hgv, hgc, hgm⟩ := owns_some hok
    rw [hq] at HTW ⊢
    simp only [Value.slice.injEq, true_and] at hgv
    obtain ⟨rfl, rfl⟩ := hgv
    have hcc0 : w1.cell? ⟨g, 0, none⟩ = some (.int .i64 ((K.getD 0 0 : Nat) : Int)) := word_cell (l := K) (by rw [hq]; exact hok) (by omega)
    generalize K.getD 0 0 = p at *
    have HO2 : Hid (O = some (wd.set p (i + 1))) := ho2
    clear ho2 HO
    have HCL : Hid (Calls Try.prog 29 #[.slice ao wd.length cap] w1 fun e w' => ∃ u, e = .returned u ∧ w'.ownsRow w1.heap.size 3 1 u wd.length (ints (natsI wd)) ∧ Below w1.heap.size w1 w') := by
      have := clone_any B (natsI wd) (.slice ao wd.length cap) w1 (HV.out.below HTW.out.bel (Nat.le_refl _)) (by rw [natsI_len]; omega)
      rw [natsI_len] at this
      exact this
    have hq0 : ¬ ((q + 1 : Nat) : Int) = 0 := by omega
    have hq1 : (0 : Int) < ((q + 1 : Nat) : Int) := by omega
    have hq8 : q + 1 ≤ 9223372036854775807 := by unfold maxLen at hgm; omega
    have HBE : Hid (Below w.heap.size w w1) := HTW.out.bel
    have HC0 : Hid (w1.cell? ⟨g, 0, none⟩ = some (.int .i64 (p : Int))) := hcc0
    clear hok hup HTW hcc0 elast HV
    go_wp2_with fail
    refine HCL.out.mono ?_
    rintro e w2 ⟨u, rfl, hou, hb2⟩
    obtain ⟨wl, hwl⟩ : ∃ n, wd.length = n + 1 := ⟨wd.length - 1, by omega⟩
    have hou2 := hou
    rw [hwl] at hou2
    obtain ⟨g2, c2, hg2, hg2c, hg2m⟩ := owns_some hou2
    rw [← hwl] at hg2
    subst hg2
    have hc1 := word_cell hou hp1
    have hf1 := hou.frozenAt p
    have hcq : w2.cell? ⟨g, 0, none⟩ = some (.int .i64 (p : Int)) := (hb2.cell (lt_of_cell HC0.out)).trans HC0.out
    have ST := set_word (p := p) (z := i + 1) hou (HBE.out.trans (hb2.mono HBE.out.size)) HBE.out.size
    have ei : ((i + 1 : Nat) : Int) = (i : Int) + 1 := by omega
    rw [ei] at ST
    have HST : Hid ((w2.setCell ⟨g2, p, none⟩ (.int .i64 ((i : Int) + 1))).ownsRow w1.heap.size 3 1 (.slice (some ⟨g2, 0, none⟩) wd.length c2) (wd.set p (i + 1)).length (ints (natsI (wd.set p (i + 1)))) ∧ Below w.heap.size w (w2.setCell ⟨g2, p, none⟩ (.int .i64 ((i : Int) + 1)))) := ST
    have hsz : w.heap.size ≤ w1.heap.size := HBE.out.size
    clear ST hou hou2 HCL hb2 ei hwl hg2c
    have hpI : (p : Int) < (wd.length : Int) := by omega
    generalize wd.getD p 0 = zz at *
    go_wp2
    go_ret2
    rw [HO2.out]
    exact ⟨⟨_, rfl, own_low HST.out.1 hsz⟩, HST.out.2⟩

end Go.Proofs.Ytnooabbcfhmjaaa
