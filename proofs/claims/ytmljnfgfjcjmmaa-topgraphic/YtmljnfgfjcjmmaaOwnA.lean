import Derived.Test.YtmljnfgfjcjmmaaRunB
import Derived.Deep.Onto
/- Lists that the program makes: rows of the call's own. -/
namespace Go.Proofs.Ytmljnfgfjcjmmaa
open Go.RowKit

theorem owns_row {B b n : Nat} {e : TypeId} {w : World} {f : Nat → Value} {xs : List Value} (h : w.rowIs b e n f) (hB : B ≤ b) (hn : xs.length = n) (hm : n ≤ maxLen) (hx : ∀ i, i < n → xs[i]? = some (f i)) :
    w.ownsRow B e 1 (.slice (some ⟨b, 0, none⟩) n n) n xs := by
  obtain ⟨c, h1, h2, h3⟩ := h
  refine ⟨by omega, Or.inr ⟨b, n, c, rfl, hB, h1, Nat.le_refl _, hm, by omega, ?_⟩⟩
  apply List.ext_getElem?
  intro i
  by_cases hi : i < n
  · rw [List.getElem?_take_of_lt (by omega), hx i hi, Array.getElem?_toList]; exact h3 i hi
  · rw [List.getElem?_eq_none (by simp; omega), List.getElem?_eq_none (by omega)]

set_option maxRecDepth 100000 in
set_option maxHeartbeats 800000 in
theorem mappedP_own (B : Nat) (l : List Int) (v : Value) (w : World) (hv : Sl B 3 w v (ints l)) (hl : l.length ≤ 1000000) (g : Nat) (d : Int) (hg : g < w.heap.size) (hd : 1 ≤ d) (hb : ∀ z ∈ l, z.natAbs ≤ 4611686018427387904) (hc : w.cell? ⟨g, 0, none⟩ = some (.int .i64 d)) :
    Calls Try.prog 67 #[v, .func (.func 87) #[] #[.pointer (some ⟨g, 0, none⟩)]] w fun e w' => ∃ u, e = .returned u ∧ w'.ownsRow w.heap.size 3 1 u l.length (ints (l.map (fun z => z.tdiv d))) ∧ Below w.heap.size w w' := by
  obtain ⟨ao, cap, hvv, hlc, hcm⟩ := sl_open hv
  subst hvv
  have HV : Hid (Sl B 3 w (.slice ao l.length cap) (ints l)) := hv
  have HBD : Hid (∀ z ∈ l, z.natAbs ≤ 4611686018427387904) := hb
  have HC : Hid (w.cell? ⟨g, 0, none⟩ = some (.int .i64 d)) := hc
  clear hb hc
  clear hv
  have hmk := run_make_row' (P := Try.prog) 22 3 (.int .i64 0) 8 Try.underlying22 Try.info3 rfl .i64 .i64 l.length (by omega) (by omega)
  go_enter Try.func67, Try.ntmps67
  go_wp2
  go_loopw [13] (fun i wr => ∃ k : Nat, k ≤ l.length ∧ i = .int .i64 k ∧ wr.rowIs w.heap.size 3 l.length (fun j => .int .i64 (if j < k then (l.map (fun z => z.tdiv d)).getD j 0 else 0)) ∧ Below w.heap.size w wr) (fun i _ => l.length - (intOf i).toNat)
  case atStart =>
    refine ⟨0, Nat.zero_le _, rfl, ?_, (Below.refl _ _).alloc (Nat.le_refl _) _⟩
    exact (World.rowIs_made w (.int .i64 0) l.length 3).congr fun i hi => by simp
  case round =>
    obtain ⟨k, hk, rfl, hrow, hbel⟩ := hrel
    have HR : Hid (wr.rowIs w.heap.size 3 l.length (fun j => .int .i64 (if j < k then (l.map (fun z => z.tdiv d)).getD j 0 else 0))) := hrow
    have HB : Hid (Below w.heap.size w wr) := hbel
    by_cases hlt : k < l.length
    · obtain ⟨b, o, cp, hs, hc1, hcc⟩ := sl_cell (HV.out.below hbel (Nat.le_refl _)) hlt
      simp only [Value.slice.injEq] at hs
      obtain ⟨rfl, _, rfl⟩ := hs
      have hfz := hrow.frozen k
      have hcl := hrow.cell (i := k) hlt
      have HF : Hid ((l.map (fun z => z.tdiv d)).getD k 0 = (fun z => z.tdiv d) (l.getD k 0)) := by show _ = _; simp [hlt]
      have hmem : l.getD k 0 ∈ l := by simp [hlt]
      have HMEM : Hid (l.getD k 0 ∈ l) := hmem
      generalize hxk : l.getD k 0 = x at *
      clear hrow hbel hmem hxk
      go_wp2_with fail
      refine (prim1_any x d wr ⟨g, 0, none⟩ hd (HBD.out x HMEM.out) ((HB.out.cell hg).trans HC.out)).mono ?_
      rintro e w' ⟨rfl, rfl⟩
      go_wp2
      go_roundw
      case rel =>
        refine ⟨k + 1, by omega, by go_num, ?_, HB.out.setCell (Nat.le_refl _) _⟩
        refine (HR.out.set k _).congr fun j hj => ?_
        by_cases e1 : j = k
        · subst e1; rw [if_pos rfl, if_pos (by omega), HF.out]
        · by_cases e2 : j < k
          · rw [if_neg e1, if_pos e2, if_pos (by omega)]
          · rw [if_neg e1, if_neg e2, if_neg (by omega)]
      case measure => simp [intOf]; omega
    · clear hrow hbel
      go_wp2
      go_ret
      refine ⟨_, rfl, ?_, HB.out⟩
      refine owns_row HR.out (Nat.le_refl _) (by simp) (by unfold maxLen; omega) fun i hi => ?_
      rw [ints_get _ _ (by simpa using hi), if_pos (by omega)]


set_option maxRecDepth 100000 in
set_option maxHeartbeats 800000 in
theorem mappedN_own (B : Nat) (l : List Int) (v : Value) (w : World) (hv : Sl B 3 w v (ints l)) (hl : l.length ≤ 1000000) (hb : ∀ z ∈ l, z.natAbs ≤ 4611686018427387904) :
    Calls Try.prog 67 #[v, .func (.func 68) #[] #[]] w fun e w' => ∃ u, e = .returned u ∧ w'.ownsRow w.heap.size 3 1 u l.length (ints (l.map (fun z => -z))) ∧ Below w.heap.size w w' := by
  obtain ⟨ao, cap, hvv, hlc, hcm⟩ := sl_open hv
  subst hvv
  have HV : Hid (Sl B 3 w (.slice ao l.length cap) (ints l)) := hv
  have HBD : Hid (∀ z ∈ l, z.natAbs ≤ 4611686018427387904) := hb
  clear hb
  clear hv
  have hmk := run_make_row' (P := Try.prog) 22 3 (.int .i64 0) 8 Try.underlying22 Try.info3 rfl .i64 .i64 l.length (by omega) (by omega)
  go_enter Try.func67, Try.ntmps67
  go_wp2
  go_loopw [13] (fun i wr => ∃ k : Nat, k ≤ l.length ∧ i = .int .i64 k ∧ wr.rowIs w.heap.size 3 l.length (fun j => .int .i64 (if j < k then (l.map (fun z => -z)).getD j 0 else 0)) ∧ Below w.heap.size w wr) (fun i _ => l.length - (intOf i).toNat)
  case atStart =>
    refine ⟨0, Nat.zero_le _, rfl, ?_, (Below.refl _ _).alloc (Nat.le_refl _) _⟩
    exact (World.rowIs_made w (.int .i64 0) l.length 3).congr fun i hi => by simp
  case round =>
    obtain ⟨k, hk, rfl, hrow, hbel⟩ := hrel
    have HR : Hid (wr.rowIs w.heap.size 3 l.length (fun j => .int .i64 (if j < k then (l.map (fun z => -z)).getD j 0 else 0))) := hrow
    have HB : Hid (Below w.heap.size w wr) := hbel
    by_cases hlt : k < l.length
    · obtain ⟨b, o, cp, hs, hc1, hcc⟩ := sl_cell (HV.out.below hbel (Nat.le_refl _)) hlt
      simp only [Value.slice.injEq] at hs
      obtain ⟨rfl, _, rfl⟩ := hs
      have hfz := hrow.frozen k
      have hcl := hrow.cell (i := k) hlt
      have HF : Hid ((l.map (fun z => -z)).getD k 0 = (fun z => -z) (l.getD k 0)) := by show _ = _; simp [hlt]
      have hmem : l.getD k 0 ∈ l := by simp [hlt]
      have HMEM : Hid (l.getD k 0 ∈ l) := hmem
      generalize hxk : l.getD k 0 = x at *
      clear hrow hbel hmem hxk
      go_wp2_with fail
      refine (neg1_any x wr (HBD.out x HMEM.out)).mono ?_
      rintro e w' ⟨rfl, rfl⟩
      go_wp2
      go_roundw
      case rel =>
        refine ⟨k + 1, by omega, by go_num, ?_, HB.out.setCell (Nat.le_refl _) _⟩
        refine (HR.out.set k _).congr fun j hj => ?_
        by_cases e1 : j = k
        · subst e1; rw [if_pos rfl, if_pos (by omega), HF.out]
        · by_cases e2 : j < k
          · rw [if_neg e1, if_pos e2, if_pos (by omega)]
          · rw [if_neg e1, if_neg e2, if_neg (by omega)]
      case measure => simp [intOf]; omega
    · clear hrow hbel
      go_wp2
      go_ret
      refine ⟨_, rfl, ?_, HB.out⟩
      refine owns_row HR.out (Nat.le_refl _) (by simp) (by unfold maxLen; omega) fun i hi => ?_
      rw [ints_get _ _ (by simpa using hi), if_pos (by omega)]


set_option maxRecDepth 100000 in
set_option maxHeartbeats 400000 in
theorem primitive_own (B : Nat) (l : List Int) (v : Value) (w : World) (hv : Sl B 3 w v (ints l)) (hl : l.length ≤ 1000000) (hb : ∀ z ∈ l, z.natAbs ≤ 4611686018427387904) :
    Calls Try.prog 79 #[v] w fun e w' => ∃ u, e = .returned u ∧ w'.ownsRow w.heap.size 3 1 u l.length (ints (Lin.low l)) ∧ Below w.heap.size w w' := by
  obtain ⟨ao, cap, hvv, hlc, hcm⟩ := sl_open hv
  subst hvv
  have HV : Hid (Sl B 3 w (.slice ao l.length cap) (ints l)) := hv
  have HBD : Hid (∀ z ∈ l, z.natAbs ≤ 4611686018427387904) := hb
  clear hv hb
  go_enter Try.func79, Try.ntmps79
  go_wp2_with fail
  refine (divisor_any B l _ w HV.out HBD.out).mono ?_
  rintro e w1 ⟨rfl, n1, hw1⟩
  have HV1 : Hid (Sl B 3 w1 (.slice ao l.length cap) (ints l)) := by rw [hw1]; exact HV.out.drewN n1
  have HB1 : Hid (Below w.heap.size w w1) := by rw [hw1]; exact ⟨rfl, rfl, rfl, Nat.le_refl _, fun _ _ => rfl⟩
  have hs1 : w.heap.size = w1.heap.size := by rw [hw1]; rfl
  have HS1 : Hid (w.heap.size = w1.heap.size) := hs1
  clear hw1 hs1
  obtain ⟨g, hg⟩ : ∃ g, g = Lin.gc l := ⟨_, rfl⟩
  have HG : Hid (g = Lin.gc l) := hg
  rw [← hg]
  have hgb : g ≤ 4611686018427387904 := by rw [hg]; exact gc_le HBD.out
  clear hg
  have HBA : Hid (Below w.heap.size w (w1.alloc (.cells #[.int .i64 g] 3))) := HB1.out.alloc (by rw [HS1.out]; exact Nat.le_refl _) _
  by_cases h0 : g = 0
  · have hgb0 : ((g : Int) == 0) = true := by simp [h0]
    have HLZ : Hid (Lin.low l = l) := low_zero (by rw [← HG.out]; exact h0)
    clear h0
    go_wp2_with fail
    refine (clone_any B l _ _ (HV1.out.alloc _) hl).mono ?_
    rintro e w2 ⟨u, rfl, ho, hb2⟩
    have HO : Hid (w2.ownsRow w.heap.size 3 1 u l.length (ints (Lin.low l))) := by rw [HLZ.out]; exact ho.mono HBA.out.size
    have HB2 : Hid (Below w.heap.size w w2) := HBA.out.trans (hb2.mono HBA.out.size)
    clear ho hb2
    go_wp2
    go_ret
    exact ⟨_, rfl, HO.out, HB2.out⟩
  · have hgb0 : ((g : Int) == 0) = false := by rw [beq_eq_false_iff_ne]; omega
    have HLP : Hid ((l.map fun z => z.tdiv (g : Int)) = Lin.low l) := by show _ = _; rw [HG.out]; exact low_prog (by rw [← HG.out]; omega)
    have hg1 : (1 : Int) ≤ (g : Int) := by omega
    clear h0
    go_wp2_with fail
    refine (mappedP_own B l _ _ (HV1.out.alloc _) hl w1.heap.size g (by simp) hg1 HBD.out (by simp)).mono ?_
    rintro e w2 ⟨u, rfl, ho, hb2⟩
    have HO : Hid (w2.ownsRow w.heap.size 3 1 u l.length (ints (Lin.low l))) := by rw [← HLP.out]; exact ho.mono HBA.out.size
    have HB2 : Hid (Below w.heap.size w w2) := HBA.out.trans (hb2.mono HBA.out.size)
    clear ho hb2
    go_wp2
    go_ret
    exact ⟨_, rfl, HO.out, HB2.out⟩


set_option maxRecDepth 100000 in
set_option maxHeartbeats 400000 in
theorem negated_own (B : Nat) (l : List Int) (v : Value) (w : World) (hv : Sl B 3 w v (ints l)) (hl : l.length ≤ 1000000) (hb : ∀ z ∈ l, z.natAbs ≤ 4611686018427387904) :
    Calls Try.prog 49 #[v] w fun e w' => ∃ u, e = .returned u ∧ w'.ownsRow w.heap.size 3 1 u l.length (ints (l.map fun z => -z)) ∧ Below w.heap.size w w' := by
  go_enter Try.func49, Try.ntmps49
  go_wp2_with fail
  refine (mappedN_own B l v w hv hl hb).mono ?_
  rintro e w2 ⟨u, rfl, ho, hb2⟩
  have HO : Hid (w2.ownsRow w.heap.size 3 1 u l.length (ints (l.map fun z => -z))) := ho
  have HB2 : Hid (Below w.heap.size w w2) := hb2
  clear ho hb2
  go_wp2
  go_ret
  exact ⟨_, rfl, HO.out, HB2.out⟩


set_option maxRecDepth 100000 in
set_option maxHeartbeats 400000 in
theorem upright_own (B : Nat) (l : List Int) (v : Value) (w : World) (ho0 : w.ownsRow B 3 1 v l.length (ints l)) (hB0 : B ≤ w.heap.size) (hl : l.length ≤ 1000000) (hb : ∀ z ∈ l, z.natAbs ≤ 4611686018427387904) :
    Calls Try.prog 98 #[v] w fun e w' => ∃ u, e = .returned u ∧ w'.ownsRow B 3 1 u l.length (ints (Lin.upr l)) ∧ Below w.heap.size w w' := by
  have hv : Sl B 3 w v (ints l) := Sl.own ho0
  obtain ⟨ao, cap, hvv, hlc, hcm⟩ := sl_open hv
  subst hvv
  have HO0 : Hid (w.ownsRow B 3 1 (.slice ao l.length cap) l.length (ints l)) := ho0
  have HV : Hid (Sl B 3 w (.slice ao l.length cap) (ints l)) := hv
  have HBD : Hid (∀ z ∈ l, z.natAbs ≤ 4611686018427387904) := hb
  clear hv hb ho0
  cases han : l.any (· != 0)
  · have HU : Hid (Lin.upr l = l) := upr_none han
    have HF : Hid (findI (· != 0) l = -1) := findI_none han
    clear han
    go_enter Try.func98, Try.ntmps98
    go_wp2_with fail
    refine (index92_any B l _ w HV.out).mono ?_
    rintro e w' ⟨rfl, rfl⟩
    rw [HF.out]
    go_wp2
    go_ret
    exact ⟨_, rfl, by rw [HU.out]; exact HO0.out, Below.refl _ _⟩
  · obtain ⟨k, hk, hf, hu⟩ := upr_find han
    have HF : Hid (findI (· != 0) l = k) := hf
    have HU : Hid (Lin.upr l = if l.getD k 0 < 0 then l.map (fun v => -v) else l) := hu
    clear han hf hu
    obtain ⟨b, o, cp, hs, hc1, hcc⟩ := sl_cell HV.out hk
    simp only [Value.slice.injEq] at hs
    obtain ⟨rfl, _, rfl⟩ := hs
    generalize l.getD k 0 = x at *
    by_cases hneg : x < 0
    · have HU2 : Hid (Lin.upr l = l.map (fun v => -v)) := by show _ = _; rw [HU.out, if_pos hneg]
      go_enter Try.func98, Try.ntmps98
      go_wp2_with fail
      refine (index92_any B l _ w HV.out).mono ?_
      rintro e w' ⟨rfl, rfl⟩
      rw [HF.out]
      go_wp2_with fail
      refine (negated_own B l _ w' HV.out hl HBD.out).mono ?_
      rintro e w2 ⟨u, rfl, ho, hb2⟩
      have HO : Hid (w2.ownsRow B 3 1 u l.length (ints (Lin.upr l))) := by rw [HU2.out]; exact ho.mono hB0
      have HB2 : Hid (Below w'.heap.size w' w2) := hb2
      clear ho hb2
      go_wp2
      go_ret
      exact ⟨_, rfl, HO.out, HB2.out⟩
    · have HU2 : Hid (Lin.upr l = l) := by show _ = _; rw [HU.out, if_neg hneg]
      go_enter Try.func98, Try.ntmps98
      go_wp2_with fail
      refine (index92_any B l _ w HV.out).mono ?_
      rintro e w' ⟨rfl, rfl⟩
      rw [HF.out]
      go_wp2
      go_ret
      exact ⟨_, rfl, by rw [HU2.out]; exact HO0.out, Below.refl _ _⟩


end Go.Proofs.Ytmljnfgfjcjmmaa

/- The program's kernel and normal: rows of the call's own. -/
namespace Go.Proofs.Ytmljnfgfjcjmmaa
open Go.RowKit Lin
attribute [local go_sem ↓] Go.wp_at_zero Go.wp_at_succ

theorem low_len (l : List Int) : (low l).length = l.length := by simp [low]
theorem upr_len (l : List Int) : (upr l).length = l.length := by unfold upr; split <;> simp

/-- Rows that grow in a row of the call's own, each of the call's own. -/
def Rwo (B : Nat) (w : World) (v : Value) (m : List (List Int)) : Prop :=
  ∃ vs, vs.length = m.length ∧ w.ownsRow B 22 1 v m.length vs ∧ ∀ i, i < m.length → w.ownsRow B 3 1 (vs.getD i (.slice none 0 0)) (m.getD i []).length (ints (m.getD i []))

theorem Rwo.nil (B : Nat) (w : World) : Rwo B w (.slice none 0 0) [] := ⟨[], rfl, World.ownsRow_nil _ _ _ _, fun i hi => absurd hi (by simp)⟩
theorem Rwo.below {B N : Nat} {w w' : World} {v : Value} {m : List (List Int)} (h : Rwo B w v m) (hb : Below N w w') (hN : w.heap.size ≤ N) : Rwo B w' v m := by
  obtain ⟨vs, h1, h2, h3⟩ := h
  exact ⟨vs, h1, owns_below h2 hb hN, fun i hi => owns_below (h3 i hi) hb hN⟩
theorem Rwo.low {B B' : Nat} {w : World} {v : Value} {m : List (List Int)} (h : Rwo B w v m) (hB : B' ≤ B) : Rwo B' w v m := by
  obtain ⟨vs, h1, h2, h3⟩ := h
  exact ⟨vs, h1, owns_lowK h2 hB, fun i hi => owns_lowK (h3 i hi) hB⟩
theorem own_grownK {B n n2 : Nat} {w w' : World} {v u : Value} {xs ys : List Value} (h : w.ownsRow B 22 1 v n xs) (hu : w.ownsRow B 3 1 u n2 ys) (hg : w.grownBy w' v.ownBlock) : w'.ownsRow B 3 1 u n2 ys := by
  refine ⟨hu.1, ?_⟩
  rcases hu.2 with q | ⟨b, cap, cur, rfl, r1, r2, r3⟩
  · exact Or.inl q
  · refine Or.inr ⟨b, cap, cur, rfl, r1, ?_, r3⟩
    rw [hg.block b (lt_of_block r2) (fun e => ?_)]
    · exact r2
    · rcases h.2 with ⟨f1, _⟩ | ⟨b', cap', cur', f1, s1, s2, _⟩
      · rw [f1] at e; simp [Value.ownBlock] at e
      · rw [f1] at e
        simp [Value.ownBlock] at e
        subst e
        rw [r2] at s2; simp at s2
theorem Rwo.push {B : Nat} {w w' : World} {v v' u : Value} {m : List (List Int)} {vs : List Value} {zs : List Int} (h1 : vs.length = m.length) (h2 : w.ownsRow B 22 1 v m.length vs)
    (h3 : ∀ i, i < m.length → w.ownsRow B 3 1 (vs.getD i (.slice none 0 0)) (m.getD i []).length (ints (m.getD i []))) (hu : w.ownsRow B 3 1 u zs.length (ints zs))
    (ho : w'.ownsRow B 22 1 v' (m.length + 1) (vs ++ [u])) (hg : w.grownBy w' v.ownBlock) : Rwo B w' v' (m ++ [zs]) := by
  refine ⟨vs ++ [u], by simp [h1], by simpa using ho, fun i hi => ?_⟩
  by_cases hlt : i < m.length
  · have e1' : (vs ++ [u]).getD i (.slice none 0 0) = vs.getD i (.slice none 0 0) := by
      simp only [List.getD_eq_getElem?_getD]; rw [List.getElem?_append_left (by omega)]
    have e2' : (m ++ [zs]).getD i [] = m.getD i [] := by
      simp only [List.getD_eq_getElem?_getD]; rw [List.getElem?_append_left (by omega)]
    rw [e1', e2']
    exact own_grownK h2 (h3 i hlt) hg
  · have hi' : i = m.length := by simp at hi; omega
    subst hi'
    have e1' : (vs ++ [u]).getD m.length (.slice none 0 0) = u := by
      rw [← h1]; simp
    have e2' : (m ++ [zs]).getD m.length [] = zs := by simp
    rw [e1', e2']
    exact own_grownK h2 hu hg

/-- What the kernel's walk asks: at most five columns or at most four rows, and bounds. -/
structure KrG (c : Nat) (m : List (List Int)) : Prop where
  row : ∀ r ∈ m, r.length = c
  c20 : c ≤ 20
  c1 : 1 ≤ c
  few : c ≤ 5 ∨ m.length ≤ 4
  bdd : Bd (mOf m) m.length c
  ent : ∀ {q : Nat} {M' : Nat → Nat → Int} {C : Nat → Nat} {k : Nat} {sgn : Int}, Red (mOf m) m.length q M' C k sgn → ∀ i, i < m.length → ∀ j, j < c → (M' i j).natAbs ≤ 60

theorem KrG.of {c : Nat} {m : List (List Int)} (hx : Mx c 60 m) : KrG c m := ⟨hx.row, Nat.le_trans hx.c5 (by decide), hx.c1, .inl hx.c5, bd60 hx, fun h => red_entry hx h⟩

set_option maxRecDepth 100000 in
set_option maxHeartbeats 2000000 in
theorem kernelG_own (B c : Nat) (m : List (List Int)) (v : Value) (w : World) (hx : KrG c m) (hv : Mat B 22 3 w v m) (hm : m.length ≤ 500) (hm0 : 1 ≤ m.length) :
    Calls Try.prog 97 #[v, .int .i64 c] w fun e w' => ∃ M' C k sgn, Red (mOf m) m.length c M' C k sgn ∧ ∃ u, e = .returned u ∧ Rwo w.heap.size w' u ((freesT k C c).map (kvec M' C c k)) ∧ (∀ l ∈ (freesT k C c).map (kvec M' C c k), l.length = c ∧ ∀ z ∈ l, z.natAbs ≤ 1000000000000) ∧ Below w.heap.size w w' := by
  obtain ⟨i3, hi3, hz30, hz31, hz32⟩ := info_parts Try.info22
  obtain ⟨ao, cap, hvv, hlc, hcm⟩ := mat_open hv
  subst hvv
  have hc5 := hx.c20
  have hfew := hx.few
  have hc1 := hx.c1
  have HR : Hid (Calls Try.prog 44 #[.slice ao m.length cap, .int .i64 c] w fun e w' => ∃ M' C k sgn, Red (mOf m) m.length c M' C k sgn ∧ ∃ ro rc po pc, e = .returned (.agg #[.slice ro m.length rc, .slice po k pc, .int .i64 (dk M' C k), .int .i64 sgn]) ∧
      Mat w.heap.size 22 3 w' (.slice ro m.length rc) (rowsOf m.length c (rr M' C k)) ∧ Sl w.heap.size 3 w' (.slice po k pc) (ints ((List.range k).map fun b => (C b : Int))) ∧ Below w.heap.size w w') := by
    refine (reduce_any B c m _ w hv hm hm0 hc1 (by omega) hx.row (hx.bdd)).mono ?_
    rintro e w' ⟨M', C, k, sgn, hr, rv, pv, rfl, h1, h2, h3⟩
    obtain ⟨ro, rc, e1, _, _⟩ := mat_open h1
    obtain ⟨po, pc, e2, _, _⟩ := sl_open h2
    simp only [List.length_map, List.length_range, rowsOf] at e1 e2
    subst e1 e2
    exact ⟨M', C, k, sgn, hr, ro, rc, po, pc, rfl, h1, h2, h3⟩
  have HX : Hid (KrG c m) := hx
  clear hv hx
  go_enter Try.func97, Try.ntmps97
  go_wp2_with fail
  refine (HR.out).mono ?_
  rintro e w2 ⟨M', C, k, sgn, hred, ro, rc, po, pc, rfl, hmat, hpiv, hb⟩
  obtain ⟨_, _, hq1, hq2, hq3⟩ := mat_open hmat
  simp only [Value.slice.injEq, rowsOf, List.length_map, List.length_range] at hq1 hq2
  obtain ⟨rfl, _, rfl⟩ := hq1
  have HRD : Hid (Red (mOf m) m.length c M' C k sgn) := hred
  have hkn := hred.done.kn
  have hkc := rising_le hred.done.rise
  have hrk := red_rank hred
  have HRK : Hid (k = (pickL c m).length) := hrk
  have HVB : Hid (k ≤ 4 → (dk M' C k).natAbs ≤ 1000000000000 ∧ ∀ i, i < m.length → ∀ j, j < c → (rr M' C k i j).natAbs ≤ 1000000000000) := by
    intro hk4
    have h5 : fb 60 5 = 93312000000 := by decide
    have h4 : fb 60 4 = 311040000 := by decide
    have m1 : fb 60 k ≤ fb 60 4 := fb_mono (by decide) hk4
    have m2 : fb 60 (k + 1) ≤ fb 60 5 := fb_mono (by decide) (by omega)
    have hb := dk_bd (B := 60) (k := k) (M := M') (C := C) (fun i hi b hb => HX.out.ent hred i (by omega) _ (hred.done.rise.2 b hb))
    refine ⟨by omega, fun i hi j hj => ?_⟩
    have := rr_bd (B := 60) (n := m.length) (c := c) (k := k) (i := i) (j := j) (M := M') (C := C) (by decide) (HX.out.ent hred) hkn hred.done.rise.2 hi hj
    omega
  obtain ⟨w3, hw3⟩ : ∃ w3, w3 = w2.alloc (.cells #[.slice ro m.length rc, .slice po k pc, .int .i64 (dk M' C k), .int .i64 sgn] 80) := ⟨_, rfl⟩
  have HB3 : Hid (Below w.heap.size w w3) := by rw [hw3]; exact hb.alloc hb.size _
  have HM3 : Hid (Mat w.heap.size 22 3 w3 (.slice ro m.length rc) (rowsOf m.length c (rr M' C k))) := by rw [hw3]; exact hmat.below ((Below.refl _ _).alloc (Nat.le_refl _) _) (Nat.le_refl _)
  have HP3 : Hid (Sl w.heap.size 3 w3 (.slice po k pc) (ints ((List.range k).map fun b => (C b : Int)))) := by rw [hw3]; exact hpiv.alloc _
  have HC3 : Hid (w3.heap[w2.heap.size]? = some (.cells #[.slice ro m.length rc, .slice po k pc, .int .i64 (dk M' C k), .int .i64 sgn] 80 (0, 0))) := by rw [hw3]; exact alloc_at _ _
  have HW3 : Hid (w3 = w2.alloc (.cells #[.slice ro m.length rc, .slice po k pc, .int .i64 (dk M' C k), .int .i64 sgn] 80)) := hw3
  have HS3 : Hid (w2.heap.size < w3.heap.size) := by rw [hw3]; show _ < _; simp
  clear hred hmat hpiv hb hrk hw3
  have hkc' : k ≤ c := hkc
  have c0 : w3.cell? ⟨w2.heap.size, 0, none⟩ = some (.slice ro m.length rc) := by simp [World.cell?, HC3.out]
  have c1 : w3.cell? ⟨w2.heap.size, 1, none⟩ = some (.slice po k pc) := by simp [World.cell?, HC3.out]
  have c2 : w3.cell? ⟨w2.heap.size, 2, none⟩ = some (.int .i64 (dk M' C k)) := by simp [World.cell?, HC3.out]
  have hs3 := HS3.out
  obtain ⟨R, hR⟩ : ∃ R, R = w2.heap.size := ⟨_, rfl⟩
  obtain ⟨val, hval⟩ : ∃ val, val = dk M' C k := ⟨_, rfl⟩
  have HVAL : Hid (val = dk M' C k) := hval
  have hww := HW3.out
  rw [← hval] at c2 hww
  rw [← hR] at c0 c1 c2 hs3
  clear HC3 HS3 HW3
  have hmk := run_make_row' (P := Try.prog) 22 3 (.int .i64 0) 8 Try.underlying22 Try.info3 rfl .i64 .i64 c (by omega) (by omega)
  rw [← hval]
  clear hval
  go_wp2
  rw [← hww, ← hR]
  clear hww hR
  go_loopw [15, 6, 7, 8, 9, 10] (fun i o _ _ _ _ wr => ∃ q : Nat, q ≤ c ∧ i = .int .i64 q ∧ Below w3.heap.size w3 wr ∧ Rwo w3.heap.size wr o ((freesT k C q).map (kvec M' C c k)) ∧ (freesT k C q).length ≤ q ∧ ∀ l ∈ (freesT k C q).map (kvec M' C c k), l.length = c ∧ ∀ z ∈ l, z.natAbs ≤ 1000000000000) (fun i _ _ _ _ _ _ => c - (intOf i).toNat)
  case atStart => exact ⟨0, Nat.zero_le _, rfl, Below.refl _ _, Rwo.nil _ _, by simp [freesT], fun l hl => by simp [freesT] at hl⟩
  case round =>
    obtain ⟨q, hq, rfl, hbel, hrw, hfl, hok⟩ := hrel
    have HBQ : Hid (Below w3.heap.size w3 wr) := hbel
    have HRQ : Hid (Rwo w3.heap.size wr u6 ((freesT k C q).map (kvec M' C c k))) := hrw
    have HOK : Hid (∀ l ∈ (freesT k C q).map (kvec M' C c k), l.length = c ∧ ∀ z ∈ l, z.natAbs ≤ 1000000000000) := hok
    have d0 : wr.cell? ⟨R, 0, none⟩ = some (.slice ro m.length rc) := (hbel.cell hs3).trans c0
    have d1 : wr.cell? ⟨R, 1, none⟩ = some (.slice po k pc) := (hbel.cell hs3).trans c1
    have d2 : wr.cell? ⟨R, 2, none⟩ = some (.int .i64 val) := (hbel.cell hs3).trans c2
    have hRw : R < wr.heap.size := Nat.lt_of_lt_of_le hs3 hbel.size
    clear hbel hrw hok
    by_cases hqc : q < c
    · have hqI : (q : Int) < (c : Int) := by omega
      have HCN : Hid (Calls Try.prog 42 #[.slice po k pc, .int .i64 q] wr fun e w' => e = .returned (.bool (((List.range k).map fun b => (C b : Int)).contains (q : Int))) ∧ w' = wr) :=
        containsK_any w.heap.size q _ _ wr (HP3.out.below HBQ.out (Nat.le_refl _))
      cases hcn : ((List.range k).map fun b => (C b : Int)).contains (q : Int) with
      | true =>
        have HF : Hid (freesT k C (q + 1) = freesT k C q) := freesT_in hcn
        rw [hcn] at HCN
        clear hcn
        go_wp2_with fail
        refine HCN.out.mono ?_
        rintro e w4 ⟨rfl, rfl⟩
        go_wp2
        go_roundw
        case rel => exact ⟨q + 1, by omega, by go_num, HBQ.out, by rw [HF.out]; exact HRQ.out, by rw [HF.out]; omega, by rw [HF.out]; exact HOK.out⟩
        case measure => simp [intOf]; omega
      | false =>
        have HF : Hid (freesT k C (q + 1) = freesT k C q ++ [q]) := freesT_out hcn
        have HNP : Hid (∀ b, b < k → C b ≠ q) := fun b hb e => by rw [pivot_has.2 ⟨b, hb, e⟩] at hcn; simp at hcn
        have HK4 : Hid (k ≤ 4) := by
          have h1 := freesT_len HRD.out.done.rise
          have h2 : q ∈ freesT k C c := by unfold freesT; rw [List.mem_filter]; exact ⟨by simpa using hqc, by simp only [hcn]; rfl⟩
          have h3 := List.length_pos_of_mem h2
          show _ ≤ _
          omega
        rw [hcn] at HCN
        clear hcn
        have hmc : (madeCells #[.int .i64 0] c)[q]? = some (.int .i64 0) := by
          rw [← Array.getElem?_toList, toList_madeCells_one]; simp [hqc]
        have hne : R ≠ wr.heap.size := by omega
        have hne' : wr.heap.size ≠ R := by omega
        have HG0 : Hid ((wr.alloc (.cells ((madeCells #[.int .i64 0] c).setIfInBounds q (.int .i64 val)) 3)).rowIs wr.heap.size 3 c (fun j => .int .i64 (nv val q (fun a => rr M' C k a q) C 0 j)) ∧ Below wr.heap.size wr (wr.alloc (.cells ((madeCells #[.int .i64 0] c).setIfInBounds q (.int .i64 val)) 3))) := by
          have e : (wr.alloc (.cells (madeCells #[.int .i64 0] c) 3)).setCell ⟨wr.heap.size, q, none⟩ (.int .i64 val) = wr.alloc (.cells ((madeCells #[.int .i64 0] c).setIfInBounds q (.int .i64 val)) 3) := by simp [go_sem]
          refine ⟨?_, (Below.refl _ _).alloc (Nat.le_refl _) _⟩
          rw [← e]
          exact ((World.rowIs_made wr (.int .i64 0) c 3).set q (.int .i64 val)).congr fun j hj => by unfold nv; by_cases e : j = q <;> simp [e]
        obtain ⟨w4, hw4⟩ : ∃ w4, w4 = wr := ⟨_, rfl⟩
        rw [← hw4] at d0 d1 d2 hRw hne hne' HG0 HCN ⊢
        have HBQ4 : Hid (Below w3.heap.size w3 w4) := by rw [hw4]; exact HBQ.out
        have HRQ4 : Hid (Rwo w3.heap.size w4 u6 ((freesT k C q).map (kvec M' C c k))) := by rw [hw4]; exact HRQ.out
        clear HBQ HRQ hw4
        go_wp2_with fail
        refine HCN.out.mono ?_
        rintro e w5 ⟨rfl, rfl⟩
        clear HCN
        go_wp2
        go_loopw [32, 9, 10] (fun i _ _ wr => ∃ t : Nat, t ≤ k ∧ i = .int .i64 t ∧ Below w5.heap.size w5 wr ∧ wr.rowIs w5.heap.size 3 c (fun j => .int .i64 (nv val q (fun a => rr M' C k a q) C t j))) (fun i _ _ _ => k - (intOf i).toNat)
        case atStart => exact ⟨0, Nat.zero_le _, rfl, HG0.out.2, HG0.out.1⟩
        case round =>
          obtain ⟨t, ht, rfl, hbel, hrow⟩ := hrel
          have HB : Hid (Below w5.heap.size w5 wr) := hbel
          have HRW : Hid (wr.rowIs w5.heap.size 3 c (fun j => .int .i64 (nv val q (fun a => rr M' C k a q) C t j))) := hrow
          have e0 : wr.cell? ⟨R, 0, none⟩ = some (.slice ro m.length rc) := (hbel.cell hRw).trans d0
          by_cases htk : t < k
          · obtain ⟨pb, po2, pcp, hs, hp1, hpc⟩ := sl_cell ((HP3.out.below HBQ4.out (Nat.le_refl _)).below hbel (Nat.le_refl _)) (k := t) (by simpa using htk)
            simp only [Value.slice.injEq, List.length_map, List.length_range] at hs
            obtain ⟨rfl, _, rfl⟩ := hs
            have hg : ((List.range k).map fun b => (C b : Int)).getD t 0 = (C t : Int) := by simp [htk]
            rw [hg] at hpc
            have hCt : C t < c := HRD.out.done.rise.2 t htk
            obtain ⟨rb, ro2, rcp, u, hs2, _, hrc, hru⟩ := mat_cell ((HM3.out.below HBQ4.out (Nat.le_refl _)).below hbel (Nat.le_refl _)) (k := t) (by simp [rowsOf]; omega)
            simp only [Value.slice.injEq, rowsOf, List.length_map, List.length_range, true_and] at hs2
            obtain ⟨rfl, rfl⟩ := hs2
            rw [rows_at (by omega)] at hru
            obtain ⟨xb, xo, xcp, hs3', hxl, hxc⟩ := sl_cell hru (k := q) (by simpa using hqc)
            have hg2 : ((List.range c).map (rr M' C k t)).getD q 0 = rr M' C k t q := by simp [hqc]
            rw [hg2] at hxc
            simp only [List.length_map, List.length_range] at hs3' hxl
            subst hs3'
            have hcl := hrow.cell (i := C t) hCt
            have hfz := hrow.frozen (C t)
            have HBX := (HVB.out HK4.out).2 t (by omega) q hqc
            obtain ⟨ct, hct⟩ : ∃ ct, ct = C t := ⟨_, rfl⟩
            obtain ⟨x, hxx⟩ : ∃ x, x = rr M' C k t q := ⟨_, rfl⟩
            have HCT : Hid (ct = C t) := hct
            have HXX : Hid (x = rr M' C k t q) := hxx
            rw [← hct] at hpc hCt hcl hfz
            rw [← hxx] at hxc HBX
            generalize nv val q (fun a => rr M' C k a q) C t ct = old at hcl
            clear hg hg2 hct hxx hrow hbel hru
            go_wp2
            go_roundw
            case rel =>
              refine ⟨t + 1, by omega, by go_num, HB.out.setCell (by exact Nat.le_refl _) _, ?_⟩
              refine (HRW.out.set ct _).congr fun j _ => ?_
              show _ = Value.int .i64 (if j = C t then - rr M' C k t q else nv val q (fun a => rr M' C k a q) C t j)
              rw [← HCT.out, ← HXX.out]
              by_cases e : j = ct <;> simp [e]
            case measure => simp [intOf]; omega
          · have htk' : t = k := by omega
            subst htk'
            have HB1 : Hid (∀ z ∈ (List.range c).map (nv val q (fun a => rr M' C t a q) C t), z.natAbs ≤ 1000000000000) := by
              intro z hz
              rw [List.mem_map] at hz
              obtain ⟨j, _, rfl⟩ := hz
              have hv := HVB.out HK4.out
              exact nv_bd (by rw [HVAL.out]; exact hv.1) fun a ha => hv.2 a (by omega) q hqc
            obtain ⟨L, hLL⟩ : ∃ L, L = (List.range c).map (nv val q (fun a => rr M' C t a q) C t) := ⟨_, rfl⟩
            have HLN : Hid (L.length = c) := by show _ = _; rw [hLL]; simp
            have HKV : Hid (kvec M' C c t q = low L) := by show _ = _; rw [hLL, HVAL.out]; rfl
            have HSL : Hid (∀ B, Sl B 3 wr (.slice (some ⟨w5.heap.size, 0, none⟩) c c) (ints L)) := by
              intro B
              refine Sl.row HRW.out (by simp [HLN.out]) (by unfold maxLen; omega) fun i hi => ?_
              rw [ints_get _ _ (by rw [HLN.out]; exact hi), hLL]; simp [hi]
            rw [← hLL] at HB1
            have HB4 : Hid (Below w3.heap.size w3 wr) := HBQ4.out.trans (HB.out.mono HBQ4.out.size)
            have HR4 : Hid (Rwo w3.heap.size wr u6 ((freesT t C q).map (kvec M' C c t))) := HRQ4.out.below HB.out (Nat.le_refl _)
            have HLL : Hid ((low L).length = c ∧ ∀ z ∈ low L, z.natAbs ≤ 1000000000000) := ⟨by simp [low, HLN.out], low_bd HB1.out⟩
            clear hrow hbel hLL HRW HBQ4 HRQ4 d0 d1 d2 e0
            go_wp2_with fail
            refine (primitive_own w.heap.size L _ wr (HSL.out _) (by rw [HLN.out]; omega) (fun z hz => Nat.le_trans (HB1.out z hz) (by decide))).mono ?_
            rintro e w6 ⟨u, rfl, hs6, hb6⟩
            obtain ⟨uo, uc, hu⟩ := owns_form hs6
            rw [HLN.out] at hu
            subst hu
            have HS6 : Hid (w6.ownsRow w3.heap.size 3 1 (.slice uo c uc) (low L).length (ints (low L))) := by rw [HLL.out.1]; rw [HLN.out] at hs6; exact owns_lowK hs6 HB4.out.size
            have HB6 : Hid (Below w3.heap.size w3 w6) := HB4.out.trans (hb6.mono HB4.out.size)
            obtain ⟨vs, g1, g2, g3⟩ := HR4.out.below hb6 (Nat.le_refl _)
            have hl0 : ((freesT t C q).map (kvec M' C c t)).length = (freesT t C q).length := by simp
            have HML : Hid (((freesT t C q).map (kvec M' C c t)).length = (freesT t C q).length) := hl0
            rw [hl0] at g1 g2 g3
            obtain ⟨fl, hfl2⟩ : ∃ fl, fl = (freesT t C q).length := ⟨_, rfl⟩
            rw [← hfl2] at g1 g2 g3 HML hfl
            have G1 : Hid (vs.length = fl) := g1
            have G2 : Hid (w6.ownsRow w3.heap.size 22 1 u6 fl vs) := g2
            have G3 : Hid (∀ i, i < fl → w6.ownsRow w3.heap.size 3 1 (vs.getD i (.slice none 0 0)) (((freesT t C q).map (kvec M' C c t)).getD i []).length (ints (((freesT t C q).map (kvec M' C c t)).getD i []))) := g3
            have HFL : Hid (fl = (freesT t C q).length) := hfl2
            have hsz6 : w3.heap.size ≤ w6.heap.size := HB6.out.size
            clear hs6 hb6 g1 g2 g3 hl0 hfl2
            go_wp2_with (first | (at_builtin; refine wpList_append_own _ rfl _ _ 26 rfl w3.heap.size 22 i3 (.slice none 0 0) 1 24 Try.underlying26 hi3 hz30 hz31 hz32 rfl (by decide) _ _ _ rfl (G2.out.alloc _) ⟨w6.heap.size, 0, none⟩ 1 1 [.slice uo c uc] rfl rfl (one_new _ _ _) (one_slice _ _ _) ?d3 ?d4 ?d5 ?_))
            case d3 => unfold maxLen; omega
            case d4 => omega
            case d5 => simp; omega
            intro v' w7 ho hg _
            have R1 : Hid (Rwo w3.heap.size w7 v' ((freesT t C (q + 1)).map (kvec M' C c t))) := by
              have hp := Rwo.push (m := (freesT t C q).map (kvec M' C c t)) (u := .slice uo c uc) (zs := low L) (by rw [HML.out]; exact G1.out) (by rw [HML.out]; exact G2.out.alloc _)
                (fun i hi => (G3.out i (by rw [HML.out] at hi; exact hi)).alloc _) (HS6.out.alloc _) (by rw [HML.out]; exact ho) hg
              show Rwo _ _ _ _
              rw [HF.out, List.map_append, List.map_cons, List.map_nil, HKV.out]
              exact hp
            have R2 : Hid (Below w3.heap.size w3 w7) := (HB6.out.alloc hsz6 _).grown hg (by simp; omega) (fun x hx => (G2.out.lt x hx).1)
            clear ho hg
            go_wp2
            go_roundw
            case rel =>
              refine ⟨q + 1, by omega, by go_num, R2.out, R1.out, by rw [HF.out]; simp; have := HFL.out; omega, ?_⟩
              rw [HF.out, List.map_append, List.map_cons, List.map_nil, HKV.out]
              intro l hl
              rcases List.mem_append.1 hl with h | h
              · exact HOK.out l h
              · rw [List.mem_singleton] at h; subst h; exact HLL.out
            case measure => simp [intOf]; omega
    · have hqc' : q = c := by omega
      subst hqc'
      go_wp2
      go_ret
      refine ⟨M', C, k, sgn, HRD.out, _, rfl, ?_, HOK.out, HB3.out.trans (HBQ.out.mono HB3.out.size)⟩
      exact HRQ.out.low HB3.out.size

set_option maxRecDepth 100000 in
set_option maxHeartbeats 2000000 in
theorem normalG_own (B c : Nat) (m : List (List Int)) (v : Value) (w : World) (hx : KrG c m) (hv : Mat B 22 3 w v m) (hm : m.length ≤ 500) (hm0 : 1 ≤ m.length) :
    Calls Try.prog 93 #[v, .int .i64 c] w fun e w' => ∃ x, e = .returned (.tuple #[x, .bool (normB c m)]) ∧ w'.ownsRow w.heap.size 3 1 x (normL c m).length (ints (normL c m)) ∧ Below w.heap.size w w' := by
  obtain ⟨ao, cap, hvv, hlc, hcm⟩ := mat_open hv
  subst hvv
  have hc5 := hx.c20
  have hfew := hx.few
  have hc1 := hx.c1
  have HR : Hid (Calls Try.prog 97 #[.slice ao m.length cap, .int .i64 c] w fun e w' => ∃ (n : Nat) (ls : List (List Int)) (uo : Option Addr) (uc : Nat), e = .returned (.slice uo n uc) ∧ ls.length = n ∧ n ≤ uc ∧ n ≤ 20 ∧ Rwo w.heap.size w' (.slice uo n uc) ls ∧ (∀ l ∈ ls, l.length = c ∧ ∀ z ∈ l, z.natAbs ≤ 1000000000000) ∧ normB c m = (n == 1) ∧ (n = 1 → upr (ls.getD 0 []) = normL c m) ∧ (n ≠ 1 → normL c m = []) ∧ Below w.heap.size w w') := by
    refine (kernelG_own B c m _ w hx hv hm hm0).mono ?_
    rintro e w' ⟨M', C, k, sgn, hr, u, rfl, h1, h2, h3⟩
    obtain ⟨vs, g1, g2, g3⟩ := h1
    have hmt : Mat 0 22 3 w' u ((freesT k C c).map (kvec M' C c k)) := ⟨vs, g1, Sl.own g2, fun i hi => Sl.own (g3 i hi)⟩
    obtain ⟨uo, uc, hu, q1, q2⟩ := mat_open hmt
    have hl := freesT_len hr.done.rise
    have hk := red_rank hr
    have hlm : ((freesT k C c).map (kvec M' C c k)).length = (freesT k C c).length := by simp
    rw [hlm] at hu q1
    subst hu
    refine ⟨_, _, uo, uc, rfl, hlm, q1, by omega, ⟨vs, g1, g2, g3⟩, h2, ?_, fun h => ?_, fun h => ?_, h3⟩
    · show decide _ = _
      by_cases h : (pickL c m).length + 1 = c
      · rw [decide_eq_true h]; symm; rw [beq_iff_eq]; omega
      · rw [decide_eq_false h]; symm; rw [beq_eq_false_iff_ne]; omega
    · obtain ⟨l, e1, e2⟩ := kernel_one hr (by omega)
      rw [e1]; exact e2
    · exact if_neg (by omega)
  clear hv hx
  go_enter Try.func93, Try.ntmps93
  go_wp2_with fail
  refine (HR.out).mono ?_
  rintro e w2 ⟨n, ls, uo, uc, rfl, hln, hnu, hn5, hmat, hok, hnb, hn1, hn0, hb⟩
  have HB : Hid (Below w.heap.size w w2) := hb
  have HNB : Hid (normB c m = (n == 1)) := hnb
  by_cases h1 : n = 1
  · subst h1
    obtain ⟨vs, g1, g2, g3⟩ := hmat
    have hsl := g3 0 (by omega)
    rw [hln] at g2
    obtain ⟨b, hb0⟩ : ∃ b, uo = some ⟨b, 0, none⟩ := by
      rcases g2.2 with ⟨_, h0⟩ | ⟨b, cap', cur', h1, _⟩
      · omega
      · simp only [Value.slice.injEq] at h1; exact ⟨b, h1.1⟩
    subst hb0
    have hcc : w2.cell? ⟨b, 0, none⟩ = some (vs.getD 0 (.slice none 0 0)) := by
      have h0 := g2.cellAt 0 (by omega)
      rw [h0, List.getD_eq_getElem?_getD, List.getElem?_eq_getElem (by omega)]; rfl
    generalize vs.getD 0 (.slice none 0 0) = uv at hsl hcc
    have hl0 := hok (ls.getD 0 []) (by rw [List.getD_eq_getElem?_getD, List.getElem?_eq_getElem (by omega)]; exact List.getElem_mem _)
    obtain ⟨yo, yc, hy⟩ := owns_form hsl
    rw [hl0.1] at hy
    subst hy
    have HUP : Hid (Calls Try.prog 98 #[.slice yo c yc] w2 fun e w' => ∃ u, e = .returned u ∧ w'.ownsRow w.heap.size 3 1 u (normL c m).length (ints (normL c m)) ∧ Below w2.heap.size w2 w') := by
      refine (upright_own w.heap.size (ls.getD 0 []) _ w2 hsl hb.size (by omega) (fun z hz => Nat.le_trans (hl0.2 z hz) (by decide))).mono ?_
      rintro e w3 ⟨u, rfl, a1, a2⟩
      exact ⟨u, rfl, by rw [← hn1 rfl, upr_len]; exact a1, a2⟩
    clear hok hnb hn1 hn0 hb hsl hl0 hln g1 g2 g3
    go_wp2_with fail
    refine HUP.out.mono ?_
    rintro e w3 ⟨u, rfl, hs3, hb3⟩
    have HS3 : Hid (w3.ownsRow w.heap.size 3 1 u (normL c m).length (ints (normL c m))) := hs3
    have HB3 : Hid (Below w.heap.size w w3) := HB.out.trans (hb3.mono HB.out.size)
    clear hs3 hb3
    go_wp2
    go_ret2
    exact ⟨_, by rw [HNB.out]; rfl, HS3.out, HB3.out⟩
  · have htest : ((n : Int) != 1) = true := by rw [bne_iff_ne]; omega
    have HN0 : Hid (normL c m = []) := hn0 h1
    have HNF : Hid (normB c m = false) := by show _ = _; rw [hnb, beq_eq_false_iff_ne]; exact h1
    clear hmat hok hnb hn1 hn0 hb hln
    go_wp2
    go_ret2
    exact ⟨_, by rw [HNF.out]; rfl, by rw [HN0.out]; exact World.ownsRow_nil _ _ _ _, HB.out⟩

theorem normalP_own (B c : Nat) (m : List (List Int)) (v : Value) (w : World) (hx : Mx c 60 m) (hv : Mat B 22 3 w v m) (hm : m.length ≤ 500) (hm0 : 1 ≤ m.length) :
    Calls Try.prog 93 #[v, .int .i64 c] w fun e w' => ∃ x, e = .returned (.tuple #[x, .bool (normB c m)]) ∧ w'.ownsRow w.heap.size 3 1 x (normL c m).length (ints (normL c m)) ∧ Below w.heap.size w w' :=
  normalG_own B c m v w (KrG.of hx) hv hm hm0

end Go.Proofs.Ytmljnfgfjcjmmaa
