import Derived.Test.YtgjlnhfjgkljdaaFk2
import Derived.Test.YtgjlnhfjgkljdaaPeA
import Derived.Test.YtgjlnhfjgkljdaaRefA
import Derived.Test.YtgjlnhfjgkljdaaRowB
import Derived.Deep.DeepCutAuto
import Derived.Test.YtgjlnhfjgkljdaaEmp1
import Derived.Laws.AppendOwnNone
/- What Empty and Greatest share: rows laid together, products of small by great, axes. -/
namespace Go.Proofs.Ytgjlnhfjgkljdaa
open Go.RowKit Lin
attribute [local go_sem ↓] Go.wp_at_zero Go.wp_at_succ

/-- Worlds that are the same but for draws. -/
def Qe (w wr : World) : Prop := ∃ n, wr = w.drewN n
theorem Qe.refl (w : World) : Qe w w := ⟨0, rfl⟩
theorem Qe.drewN {w wr : World} (h : Qe w wr) (k : Nat) : Qe w (wr.drewN k) := by
  obtain ⟨n, rfl⟩ := h
  exact ⟨n + k, by rw [World.drewN_drewN]⟩
theorem Qe.below {N : Nat} {w wr : World} (h : Qe w wr) : Below N w wr := by
  obtain ⟨n, rfl⟩ := h
  exact ⟨rfl, rfl, rfl, Nat.le_refl _, fun _ _ => rfl⟩

theorem fr_all {B : Nat} {w w' : World} {v v' : Value} {m m2 : List (List Int)} {vs us : List Value}
    (h1 : vs.length = m.length) (h2 : w.ownsRow B 22 1 v m.length vs) (h3 : ∀ i, i < m.length → Sl 0 3 w (vs.getD i (.slice none 0 0)) (ints (m.getD i [])))
    (k1 : us.length = m2.length) (k3 : ∀ i, i < m2.length → Sl 0 3 w (us.getD i (.slice none 0 0)) (ints (m2.getD i [])))
    (ho : w'.ownsRow B 22 1 v' (m.length + m2.length) (vs ++ us)) (hg : w.grownBy w' v.ownBlock) : Fr B 22 3 w' v' (m ++ m2) := by
  have ht : ∀ k, v.ownBlock = some k → 0 ≤ k ∧ ∀ cur, w.heap[k]? ≠ some (.cells cur 3 (0, 0)) := fun k hk => ⟨Nat.zero_le _, (owns_typed h2 (by decide) k hk).2⟩
  refine ⟨vs ++ us, by simp [h1, k1], by simpa using ho, fun i hi => ?_⟩
  by_cases hlt : i < m.length
  · have e1' : (vs ++ us).getD i (.slice none 0 0) = vs.getD i (.slice none 0 0) := by
      simp only [List.getD_eq_getElem?_getD]; rw [List.getElem?_append_left (by omega)]
    have e2' : (m ++ m2).getD i [] = m.getD i [] := by
      simp only [List.getD_eq_getElem?_getD]; rw [List.getElem?_append_left (by omega)]
    rw [e1', e2']
    exact (h3 i hlt).grown hg ht
  · have e1' : (vs ++ us).getD i (.slice none 0 0) = us.getD (i - m.length) (.slice none 0 0) := by
      simp only [List.getD_eq_getElem?_getD]; rw [List.getElem?_append_right (by omega), h1]
    have e2' : (m ++ m2).getD i [] = m2.getD (i - m.length) [] := by
      simp only [List.getD_eq_getElem?_getD]; rw [List.getElem?_append_right (by omega)]
    rw [e1', e2']
    exact (k3 _ (by simp at hi; omega)).grown hg ht

theorem slice_cells {B : Nat} {e : TypeId} {w : World} {a : Addr} {n cap : Nat} {us : List Value} (h : Sl B e w (.slice (some a) n cap) us) : ∀ j u, us[j]? = some u → w.cell? (a.add j) = some u := by
  intro j u hj
  have hlt : j < us.length := (List.getElem?_eq_some_iff.1 hj).1
  obtain ⟨ao, c, hv, _, _, h3, _⟩ := h
  obtain ⟨b, o, ha, hc, _⟩ := h3 j hlt
  simp only [Value.slice.injEq] at hv
  rw [← hv.1] at ha
  simp only [Option.some.injEq] at ha
  rw [ha]
  have h5 := hc.trans hj
  unfold Addr.add
  by_cases e : j = 0
  · subst e; simpa using h5
  · simpa [e] using h5

theorem rows_one1 {w : World} {m : List (List Int)} {us : List Value} (k1 : us.length = m.length) (k3 : ∀ i, i < m.length → Sl 0 3 w (us.getD i (.slice none 0 0)) (ints (m.getD i []))) : ∀ u ∈ us, u.oneCell' = true := by
  intro u hu
  obtain ⟨i, hi, rfl⟩ := List.getElem_of_mem hu
  have h := k3 i (by omega)
  have e : us.getD i (.slice none 0 0) = us[i] := by simp [hi]
  rw [e] at h
  obtain ⟨ao, cap, hv, _⟩ := sl_open h
  rw [hv]; rfl

theorem Sl.takeE {B n c : Nat} {w : World} {ao : Option Addr} {zs : List Int} (h : Sl B 3 w (.slice ao zs.length c) (ints zs)) (hn : n ≤ zs.length) : Sl B 3 w (.slice ao n c) (ints (zs.take n)) := by
  obtain ⟨bo, cap, hv, h1, h2, h3, h4⟩ := h
  simp only [Value.slice.injEq] at hv
  obtain ⟨rfl, _, rfl⟩ := hv
  simp at h1
  refine ⟨ao, c, by simp; omega, by simp; omega, by omega, fun i hi => ?_, h4⟩
  have hi' : i < n := by simp at hi; omega
  obtain ⟨b, o, ha, hc, ht⟩ := h3 i (by simp; omega)
  refine ⟨b, o, ha, ?_, ht⟩
  rw [hc, ints_get _ _ (by omega), ints_get _ _ (by simp; omega)]
  simp [hi']

/-- The first small, the other one not so. -/
def Swe (a x : List Int) : Prop := a.length ≤ x.length ∧ a.length ≤ 8 ∧ (∀ z ∈ a, z.natAbs ≤ 1000) ∧ ∀ z ∈ x, z.natAbs ≤ 1000000000000

theorem mul_bwe {a x : Int} (ha : a.natAbs ≤ 1000) (hx : x.natAbs ≤ 1000000000000) : (a * x).natAbs ≤ 1000000000000000 := by
  rw [Int.natAbs_mul]
  exact Nat.le_trans (Nat.mul_le_mul ha hx) (by decide)

theorem sum_swe {a x : List Int} (h : Swe a x) : ∀ k, k ≤ a.length → (Lin.sumN k fun i => a.getD i 0 * x.getD i 0).natAbs ≤ k * 1000000000000000 := by
  intro k
  induction k with
  | zero => intro _; simp [Lin.sumN]
  | succ k ih =>
    intro hk
    have h1 := ih (by omega)
    have hl := h.1
    have h3 : (a.getD k 0 * x.getD k 0).natAbs ≤ 1000000000000000 := mul_bwe (h.2.2.1 _ (by simp [show k < a.length by omega])) (h.2.2.2 _ (by simp [show k < x.length by omega]))
    have e : (Lin.sumN (k + 1) fun i => a.getD i 0 * x.getD i 0) = (Lin.sumN k fun i => a.getD i 0 * x.getD i 0) + a.getD k 0 * x.getD k 0 := rfl
    rw [e]
    omega

set_option maxRecDepth 100000 in
set_option maxHeartbeats 400000 in
theorem dotE_any (B : Nat) (a x : List Int) (u v : Value) (w : World) (hu : Sl B 3 w u (ints a)) (hv : Sl B 3 w v (ints x)) (hs : Swe a x) :
    Calls Try.prog 19 #[u, v] w fun e w' => e = .returned (.int .i64 (dotL a x)) ∧ ∃ n, w' = w.drewN n := by
  obtain ⟨ao, cap, hvv, hlc, hcm⟩ := sl_open hu
  obtain ⟨bo, cbp, huu, hlb, hcb⟩ := sl_open hv
  subst hvv huu
  have HU : Hid (Sl B 3 w (.slice ao a.length cap) (ints a)) := hu
  have HV : Hid (Sl B 3 w (.slice bo x.length cbp) (ints x)) := hv
  have HS : Hid (Swe a x) := hs
  have hle : a.length ≤ x.length := hs.1
  have hl8 : a.length ≤ 8 := hs.2.1
  clear hu hv hs
  go_enter Try.func19, Try.ntmps19
  go_wp2
  go_loopw [5, 6] (fun s i wr => ∃ k : Nat, k ≤ a.length ∧ i = .int .i64 k ∧ s = .int .i64 (Lin.sumN k fun i => a.getD i 0 * x.getD i 0) ∧ ∃ n, wr = w.drewN n) (fun _ i _ => a.length - (intOf i).toNat)
  case atStart => exact ⟨0, Nat.zero_le _, rfl, rfl, 0, rfl⟩
  case round =>
    obtain ⟨k, hk, rfl, rfl, n, rfl⟩ := hrel
    by_cases hlt : k < a.length
    · have hlt2 : k < x.length := by omega
      obtain ⟨b, o, cp, hs, hc1, hcc⟩ := sl_cell HU.out hlt
      simp only [Value.slice.injEq] at hs
      obtain ⟨rfl, _, rfl⟩ := hs
      obtain ⟨b2, o2, cp2, hs2, hc2, hcc2⟩ := sl_cell HV.out hlt2
      simp only [Value.slice.injEq] at hs2
      obtain ⟨rfl, _, rfl⟩ := hs2
      have h1 := sum_swe HS.out k hk
      have h2 := sum_swe HS.out (k + 1) (by omega)
      have h3 : (a.getD k 0 * x.getD k 0).natAbs ≤ 1000000000000000 := mul_bwe (HS.out.2.2.1 _ (by simp [hlt])) (HS.out.2.2.2 _ (by simp [hlt2]))
      have HSU : Hid ((Lin.sumN (k + 1) fun i => a.getD i 0 * x.getD i 0) = (Lin.sumN k fun i => a.getD i 0 * x.getD i 0) + a.getD k 0 * x.getD k 0) := rfl
      rw [HSU.out] at h2
      generalize (Lin.sumN k fun i => a.getD i 0 * x.getD i 0) = S at *
      generalize a.getD k 0 = p at *
      generalize x.getD k 0 = q at *
      have e2 : wrap64 (S + wrap64 (p * q)) = S + p * q := by
        rw [IntWalk.wrap64_in (p * q) ⟨by omega, by omega⟩, IntWalk.wrap64_in _ ⟨by omega, by omega⟩]
      have hkI : (k : Int) < (a.length : Int) := by omega
      have hkI2 : (k : Int) < (x.length : Int) := by omega
      have hkI0 : (0 : Int) ≤ (k : Int) := by omega
      clear h1 h2 h3
      go_wp2
      go_quiet (fail)
      go_wp2
      go_roundw
      case rel => exact ⟨k + 1, by omega, by go_num, by rw [HSU.out, e2], _, rfl⟩
      case measure => simp [intOf]; omega
    · have hke : k = a.length := by omega
      subst hke
      go_wp2
      go_ret
      exact ⟨rfl, n, rfl⟩

theorem pks_snocE (P : List (List Int)) (x : List Int) (k : Nat) (h : k < x.length) : pks P [] (x.take (k + 1)) = pks P [] (x.take k) ++ [P.getD (x.getD k 0).toNat []] := by
  have e : x.getD k 0 = x[k] := by simp [h]
  rw [List.take_succ_eq_append_getElem h, e]
  unfold pks
  rw [List.map_append]
  rfl

theorem pks_inE {P : List (List Int)} {c : List Int} (h : ∀ q ∈ c, 0 ≤ q ∧ q < (P.length : Int)) : ∀ x ∈ pks P [] c, x ∈ P := by
  intro x hx
  obtain ⟨q, hq, rfl⟩ := List.mem_map.1 hx
  obtain ⟨h1, h2⟩ := h q hq
  simp [show q.toNat < P.length by omega]

theorem ng_mxE {d : Nat} {t : List (List Int)} (h : ∀ r ∈ t, r.length = d + 1 ∧ ∀ z ∈ r, z.natAbs ≤ 30) (h3 : d ≤ 3) : Mx (d + 1) 60 (t.map (ngR d)) := by
  refine ⟨fun r hr => ?_, fun r hr z hz => ?_, by omega, by omega, by decide, Nat.le_trans (fb_mono (by decide) (show d + 1 ≤ 5 by omega)) (by decide)⟩
  · obtain ⟨y, hy, rfl⟩ := List.mem_map.1 hr
    exact ngR_len (h y hy).1
  · obtain ⟨y, hy, rfl⟩ := List.mem_map.1 hr
    have hyl := (h y hy).1
    have hyb := (h y hy).2
    unfold ngR at hz
    rcases List.mem_append.1 hz with h1 | h1
    · have := hyb z (List.mem_of_mem_take h1); omega
    · simp only [List.mem_singleton] at h1
      have := hyb (y.getD d 0) (getD_mem (by omega))
      omega

theorem ptY_lenE {d : Nat} {t : List (List Int)} (h : normB (d + 1) (t.map (ngR d)) = true) : (ptY d t).length = d + 1 := by
  unfold ptY
  split
  · rw [List.length_map, norm_len h]
  · exact norm_len h

theorem ptY_bdE {d : Nat} {t : List (List Int)} (hx : Mx (d + 1) 60 (t.map (ngR d))) : ∀ z ∈ ptY d t, z.natAbs ≤ 1000000000000 := by
  intro z hz
  unfold ptY at hz
  split at hz
  · obtain ⟨y, hy, rfl⟩ := List.mem_map.1 hz
    have := norm_bd hx y hy; omega
  · exact norm_bd hx z hz

theorem axs_len (d : Nat) : (axsL d).length = d := by simp [axsL]
theorem axs_at {d k : Nat} (h : k < d) : (axsL d).getD k [] = axR d k := by simp [axsL, h]
theorem all_len (d : Nat) (rows : List (List Int)) : (allR d rows).length = rows.length + d := by simp [allR, axsL]
theorem axR_small (d k : Nat) : ∀ z ∈ axR d k, z.natAbs ≤ 30 := fun z hz => by
  simp only [axR, List.mem_map] at hz
  obtain ⟨j, _, rfl⟩ := hz
  split <;> decide
theorem all_box {d : Nat} {rows : List (List Int)} (h : ∀ r ∈ rows, r.length = d + 1 ∧ ∀ z ∈ r, z.natAbs ≤ 20) : ∀ r ∈ allR d rows, r.length = d + 1 ∧ ∀ z ∈ r, z.natAbs ≤ 30 := fun r hr => by
  rcases List.mem_append.1 hr with h1 | h1
  · exact ⟨(h r h1).1, fun z hz => by have := (h r h1).2 z hz; omega⟩
  · simp only [axsL, List.mem_map] at h1
    obtain ⟨k, _, rfl⟩ := h1
    exact ⟨axR_len d k, axR_small d k⟩

/-- An axis, laid. -/
theorem ax_row {w : World} {d k : Nat} (hk : k < d + 1) (hd : d ≤ 100) {o : Obj} (ho : o = .cells ((madeCells #[.int .i64 0] (d + 1)).setIfInBounds k (.int .i64 1)) 3) : Sl 0 3 (w.alloc o) (.slice (some ⟨w.heap.size, 0, none⟩) (d + 1) (d + 1)) (ints (axR d k)) := by
  subst ho
  have n3 := alloc_new w (.cells ((madeCells #[.int .i64 0] (d + 1)).setIfInBounds k (.int .i64 1)) 3)
  have hgrow : (w.alloc (.cells ((madeCells #[.int .i64 0] (d + 1)).setIfInBounds k (.int .i64 1)) 3)).rowIs w.heap.size 3 (d + 1) (fun j => if j = k then .int .i64 1 else .int .i64 0) := by
    refine ⟨_, n3, ?_, fun i hi => ?_⟩
    · simp only [Array.size_setIfInBounds]
      rw [← Array.length_toList, toList_madeCells_one]; simp
    · rw [Array.getElem?_setIfInBounds]
      by_cases e : k = i
      · subst e
        have hz : k < (madeCells #[.int .i64 0] (d + 1)).size := by rw [← Array.length_toList, toList_madeCells_one]; simpa using hk
        simp [hz]
      · rw [if_neg e, ← Array.getElem?_toList, toList_madeCells_one]
        simp [hi, show ¬ i = k from fun h => e h.symm]
  refine Sl.row' hgrow (by unfold maxLen; omega) (by simp [axR]) (fun i hi => ?_)
  rw [ints_get _ _ (by rw [axR_len]; exact hi)]
  by_cases e : i = k
  · subst e; simp [axR, hi]
  · simp [axR, hi, e]

end Go.Proofs.Ytgjlnhfjgkljdaa

/- The document's Empty. -/
namespace Go.Proofs.Ytgjlnhfjgkljdaa
open Go.RowKit Lin
attribute [local go_sem ↓] Go.wp_at_zero Go.wp_at_succ

theorem fr_matE {B : Nat} {w : World} {v : Value} {m : List (List Int)} (h : Fr B 22 3 w v m) : Mat 0 22 3 w v m := by
  obtain ⟨vs, h1, h2, h3⟩ := h
  exact ⟨vs, h1, Sl.own h2, h3⟩

/-- Rows of a cut that may be, or of one with a row more. -/
def RwE (d : Nat) (rows : List (List Int)) : Prop := ∀ r ∈ rows, r.length = d + 1 ∧ ∀ z ∈ r, z.natAbs ≤ 20

theorem axs_snoc {d k : Nat} (h : k < d) : (axsL d).take (k + 1) = (axsL d).take k ++ [axR d k] := by
  have hl : k < (axsL d).length := by rw [axs_len]; exact h
  rw [List.take_succ_eq_append_getElem hl]
  simp [axsL]

end Go.Proofs.Ytgjlnhfjgkljdaa

/- The document's CutMay (of cuts that may be) and GoalMay. -/
namespace Go.Proofs.Ytgjlnhfjgkljdaa
open Go.RowKit Lin
attribute [local go_sem ↓] Go.wp_at_zero Go.wp_at_succ

/-- A cut in a box of its own. -/
theorem cut_box (w : World) (d : Nat) (v : Value) : ∃ W0, W0 = w.alloc (.cells #[.int .i64 d, v] 36) ∧ Below w.heap.size w W0 ∧ W0.heap.size = w.heap.size + 1 ∧ ∀ W', Below W0.heap.size W0 W' → W'.cell? ⟨w.heap.size, 0, none⟩ = some (.int .i64 d) ∧ W'.cell? ⟨w.heap.size, 1, none⟩ = some v := by
  refine ⟨_, rfl, alloc_keep _ _, size_alloc _ _, fun W' hB => ?_⟩
  have h0 := (hB.block w.heap.size (by rw [size_alloc]; omega)).trans (alloc_new w (.cells #[.int .i64 d, v] 36))
  exact ⟨by simp [World.cell?, h0], by simp [World.cell?, h0]⟩

theorem far20 {r : List Int} (h : ∀ z ∈ r, z.natAbs ≤ 20) : r.any (farB · 20) = false := far_no (n := 20) h

/-- A row with nothing behind. -/
def zlR (d : Nat) (r : List Int) : List Int := r.take d ++ [0]
theorem zlR_len {d : Nat} {r : List Int} (h : r.length = d + 1) : (zlR d r).length = d + 1 := by simp [zlR, h]
theorem zlR_get {d i : Nat} {r : List Int} (h : r.length = d + 1) (hi : i < d + 1) : (zlR d r).getD i 0 = if i = d then 0 else r.getD i 0 := by
  unfold zlR
  by_cases e : i = d
  · subst e
    rw [if_pos rfl]
    simp [List.getD_eq_getElem?_getD, h]
  · rw [if_neg e]
    have hi2 : i < (r.take d).length := by simp [h]; omega
    rw [List.getD_eq_getElem?_getD, List.getElem?_append_left hi2, List.getElem?_take_of_lt (by omega), ← List.getD_eq_getElem?_getD]

/-- The goal is to grow. -/
def moR (g : List Int) : List Int := (g.map fun z => -z) ++ [-1]
def growL (d : Nat) (rows : List (List Int)) (g : List Int) : List (List Int) := rows.map (zlR d) ++ [moR g]

theorem moR_V {g : List Int} {i : Nat} (h : i < g.length) : V (moR g) i = - V g i := by
  unfold V moR
  rw [List.getD_eq_getElem?_getD, List.getElem?_append_left (by simpa using h)]
  simp [h]
theorem moR_last {g : List Int} : V (moR g) g.length = -1 := by
  unfold V moR
  rw [List.getD_eq_getElem?_getD, List.getElem?_append_right (by simp)]; simp

/-- There is a direction on which no row bars the goal's growing just if there is no way to it. -/
theorem grow_iff {d : Nat} {rows : List (List Int)} {g : List Int} (hg : g.length = d) (hl : ∀ r ∈ rows, r.length = d + 1) : empB d (growL d rows g) = false ↔ waysL rows g = [] := by
  rw [emp_fea, ways_none, hg]
  have hz : ∀ r ∈ rows, ∀ x, dot d (V (zlR d r)) x = dot d (V r) x := fun r hr x => dot_congr (fun i hi => by unfold V; rw [zlR_get (hl r hr) (by omega), if_neg (by omega)]) fun _ _ => rfl
  have hzd : ∀ r ∈ rows, V (zlR d r) d = 0 := fun r hr => by unfold V; rw [zlR_get (hl r hr) (by omega), if_pos rfl]
  have hm : ∀ x, dot d (V (moR g)) x = - dot d (V g) x := fun x => by
    rw [← dot_neg]
    exact dot_congr (fun i hi => moR_V (by omega)) fun _ _ => rfl
  have hmd : V (moR g) d = -1 := by rw [← hg]; exact moR_last
  constructor
  · rintro ⟨x, w, hw, h⟩
    refine ⟨x, fun r hr => ?_, ?_⟩
    · have := h (zlR d r) (List.mem_append_left _ (List.mem_map.2 ⟨r, hr, rfl⟩))
      rw [hz r hr, hzd r hr] at this
      rw [dot_comm]; omega
    · have := h (moR g) (List.mem_append_right _ (by simp))
      rw [hm, hmd] at this
      rw [dot_comm]; omega
  · rintro ⟨c, h1, h2⟩
    refine ⟨c, dot d c (V g), h2, fun r hr => ?_⟩
    rcases List.mem_append.1 hr with hr | hr
    · obtain ⟨q, hq, rfl⟩ := List.mem_map.1 hr
      have := h1 q hq
      rw [dot_comm] at this
      rw [hz q hq, hzd q hq]; omega
    · simp only [List.mem_singleton] at hr
      subst hr
      rw [hm, hmd, dot_comm d (V g)]; omega

/-- What is wrong with a goal. -/
def gmE (d : Nat) (rows : List (List Int)) (g : List Int) : Int := if empB d rows = true then 6 else if waysL rows g = [] then 7 else 0

theorem grow_rw {d : Nat} {rows : List (List Int)} {g : List Int} (hg : g.length = d) (hgb : ∀ z ∈ g, z.natAbs ≤ 20) (h : RwE d rows) : RwE d (growL d rows g) := fun r hr => by
  rcases List.mem_append.1 hr with hr | hr
  · obtain ⟨q, hq, rfl⟩ := List.mem_map.1 hr
    refine ⟨zlR_len (h q hq).1, fun z hz => ?_⟩
    unfold zlR at hz
    rcases List.mem_append.1 hz with h1 | h1
    · exact (h q hq).2 z (List.mem_of_mem_take h1)
    · simp at h1; subst h1; decide
  · simp only [List.mem_singleton] at hr
    subst hr
    refine ⟨by simp [moR, hg], fun z hz => ?_⟩
    unfold moR at hz
    rcases List.mem_append.1 hz with h1 | h1
    · obtain ⟨y, hy, rfl⟩ := List.mem_map.1 h1
      have := hgb y hy; omega
    · simp at h1; subst h1; decide

theorem CutOk.rw {d : Nat} {rows : List (List Int)} (h : CutOk d rows) : RwE d rows := fun r hr => ⟨h.len r hr, h.bd r hr⟩

end Go.Proofs.Ytgjlnhfjgkljdaa

/- What Greatest leans on. -/
namespace Go.Proofs.Ytgjlnhfjgkljdaa
open Go.RowKit Lin

/-- A slice, nil or not, behind a row of the call's own. -/
theorem wpList_app_sl {P : Program} {w : World} {ops : Array Oper} {rest : List Oper} {o : Oper} {a : Act} {Q : Exit → Act → World → Prop} (hgd : o.guard = none) (s x : Operand) (t : TypeId)
    (ho : o.op = .call { callee := .builtin .append, args := #[s, x], argTypes := #[t, t] })
    (base : Nat) (e : TypeId) (i : TypeInfo) (z : Value) (bytes : Nat) (ht : P.underlying t = some (.slice e)) (hi : P.info? e = some i) (hz : i.zero = some z)
    (hsize : i.size = 1) (hby : i.bytes = bytes) (hzs : z.cells.size = 1)
    (v : Value) (n : Nat) (xs : List Value) (hs : a.eval s = v) (hown : w.ownsRow base e 1 v n xs)
    (ro : Option Addr) (m c : Nat) (news : List Value) (hx : a.eval x = .slice ro m c) (hsl : Sl 0 e w (.slice ro m c) news) (h1 : ∀ u ∈ news, u.oneCell' = true)
    (h63 : n + m ≤ maxLen) (hbytes : (n + m) * bytes ≤ 140737488355328) (hbase : base ≤ w.heap.size)
    (h : ∀ v' w', w'.ownsRow base e 1 v' (n + m) (xs ++ news) → w.grownBy w' v.ownBlock → wpList P ops Q rest (a.put o.dst v') w') : wpList P ops Q (o :: rest) a w := by
  cases ro with
  | none =>
    obtain ⟨ao, cp, he, h2, _, h3, h4⟩ := hsl
    simp only [Value.slice.injEq] at he
    have hl0 : news.length = 0 := by
      apply Classical.byContradiction
      intro hne
      obtain ⟨b, o, ha, _⟩ := h3 0 (by omega)
      rw [← he.1] at ha; cases ha
    have hm0 : m = 0 := by omega
    have hc0 : c = 0 := by rw [he.2.2]; exact h4 he.1.symm
    have hn0 : news = [] := List.eq_nil_of_length_eq_zero hl0
    subst hm0 hc0 hn0
    refine wpList_append_own_none hgd s x t ho base e i 1 ht hi v n xs hs hown hx (h v w (by simpa using hown) (World.grownBy.refl _ _))
  | some ad =>
    have hl : news.length = m * 1 := by
      obtain ⟨ao, cp, he, _⟩ := hsl
      simp only [Value.slice.injEq] at he
      omega
    exact wpList_append_own w hgd s x t ho base e i z 1 bytes ht hi hz hsize hby hzs (by decide) v n xs hs hown ad m c news hx hl (slice_cells hsl) h1 h63 hbytes hbase fun v' w' h2 h3 _ => h v' w' h2 h3

theorem mu_small4 {c : Nat} {m : List (List Int)} (hx : Mx c 60 m) (h4 : c ≤ 4) (hl : (pickL c m).length + 1 = c) : ∀ z ∈ muL c (pickL c m), z.natAbs ≤ 1296000 := by
  intro z hz
  simp only [muL, List.mem_map, List.mem_range] at hz
  obtain ⟨k, hk, rfl⟩ := hz
  unfold Lin.mu
  rw [Int.natAbs_mul]
  have h2 : (Lin.ngo k).natAbs = 1 := by rw [ngo_mod]; by_cases e : k % 2 = 1 <;> simp [e]
  rw [h2, Nat.one_mul, fm_length]
  have h5 : Lin.fb 60 3 = 1296000 := by decide
  have m2 : Lin.fb 60 (pickL c m).length ≤ Lin.fb 60 3 := fb_mono (by decide) (by omega)
  have hb := Lin.od_bd (n := (pickL c m).length) (B := 60) (Lin.cols (fm (pickL c m)) (Lin.skp k)) (fun _ => false) (fun r hr j hj => by
    simp only [Lin.cols, fm, List.mem_map] at hr
    obtain ⟨_, ⟨l, hl', rfl⟩, rfl⟩ := hr
    by_cases hi : Lin.skp k j < l.length
    · exact hx.bd l (pickL_mem hl') _ (by simp [hi])
    · simp only [List.getD_eq_getElem?_getD]; rw [List.getElem?_eq_none (by omega)]; simp) (by rw [Lin.cu_none]; simp [Lin.cols, fm])
  have hl2 : (Lin.cols (fm (pickL c m)) (Lin.skp k)).length = (pickL c m).length := by simp [Lin.cols, fm]
  rw [hl2] at hb
  omega

theorem norm_bd4 {c : Nat} {m : List (List Int)} (hx : Mx c 60 m) (h4 : c ≤ 4) : ∀ z ∈ normL c m, z.natAbs ≤ 1296000 := by
  intro z hz
  unfold normL at hz
  split at hz
  · rename_i hl
    exact upr_bd (low_bd (mu_small4 hx h4 hl)) z hz
  · simp at hz

theorem ptY_bd4 {d : Nat} {t : List (List Int)} (hx : Mx (d + 1) 60 (t.map (ngR d))) (h3 : d ≤ 3) : ∀ z ∈ ptY d t, z.natAbs ≤ 1296000 := by
  intro z hz
  unfold ptY at hz
  split at hz
  · obtain ⟨y, hy, rfl⟩ := List.mem_map.1 hz
    have := norm_bd4 hx (by omega) y hy; omega
  · exact norm_bd4 hx (by omega) z hz

/-- What Greatest holds once it has looked at k choices. -/
def gtS (d : Nat) (g : List Int) (s : Int × Int) : Option (List Int) → Int × Int
  | none => s
  | some y => if s.2 = 0 ∨ s.1 * y.getD d 0 < dotL g y * s.2 then (dotL g y, y.getD d 0) else s
def gtTo (d : Nat) (R A : List (List Int)) (g : List Int) (C : List (List Int)) (k : Nat) : Int × Int := (C.take k).foldl (fun s c => gtS d g s (ptT R d (pks A [] c))) (0, 0)

structure GtI (d : Nat) (R A : List (List Int)) (g : List Int) (C : List (List Int)) (k : Nat) (o u : Int) : Prop where
  is : gtTo d R A g C k = (o, u)
  bo : o.natAbs ≤ 77760000
  bu : u.natAbs ≤ 1296000

theorem GtI.zero (d : Nat) (R A : List (List Int)) (g : List Int) (C : List (List Int)) : GtI d R A g C 0 0 0 := ⟨rfl, by decide, by decide⟩
theorem gtTo_succ {d : Nat} {R A : List (List Int)} {g : List Int} {C : List (List Int)} {k : Nat} (h : k < C.length) : gtTo d R A g C (k + 1) = gtS d g (gtTo d R A g C k) (ptT R d (pks A [] (C.getD k []))) := by
  unfold gtTo
  rw [List.take_succ_eq_append_getElem h, List.foldl_append]
  simp [h]
theorem GtI.none {d : Nat} {R A : List (List Int)} {g : List Int} {C : List (List Int)} {k : Nat} {o u : Int} (h : GtI d R A g C k o u) (hk : k < C.length) (hp : ptT R d (pks A [] (C.getD k [])) = none) : GtI d R A g C (k + 1) o u :=
  ⟨by rw [gtTo_succ hk, hp, h.is]; rfl, h.bo, h.bu⟩
theorem GtI.up {d : Nat} {R A : List (List Int)} {g : List Int} {C : List (List Int)} {k : Nat} {o u : Int} (h : GtI d R A g C k o u) (hk : k < C.length) {y : List Int} (hp : ptT R d (pks A [] (C.getD k [])) = some y)
    (hv : (dotL g y).natAbs ≤ 77760000) (hy : (y.getD d 0).natAbs ≤ 1296000) (hc : u = 0 ∨ o * y.getD d 0 < dotL g y * u) : GtI d R A g C (k + 1) (dotL g y) (y.getD d 0) :=
  ⟨by rw [gtTo_succ hk, hp, h.is]; simp only [gtS]; rw [if_pos hc], hv, hy⟩
theorem GtI.stay {d : Nat} {R A : List (List Int)} {g : List Int} {C : List (List Int)} {k : Nat} {o u : Int} (h : GtI d R A g C k o u) (hk : k < C.length) {y : List Int} (hp : ptT R d (pks A [] (C.getD k [])) = some y)
    (hc : ¬ (u = 0 ∨ o * y.getD d 0 < dotL g y * u)) : GtI d R A g C (k + 1) o u :=
  ⟨by rw [gtTo_succ hk, hp, h.is]; simp only [gtS]; rw [if_neg hc], h.bo, h.bu⟩

theorem dot_bd4 {g y : List Int} (h3 : g.length ≤ 3) (hl : g.length ≤ y.length) (hg : ∀ z ∈ g, z.natAbs ≤ 20) (hy : ∀ z ∈ y, z.natAbs ≤ 1296000) : (dotL g y).natAbs ≤ 77760000 := by
  have key : ∀ k, k ≤ g.length → (Lin.sumN k fun i => g.getD i 0 * y.getD i 0).natAbs ≤ k * 25920000 := by
    intro k
    induction k with
    | zero => intro _; simp [Lin.sumN]
    | succ k ih =>
      intro hk
      have h1 := ih (by omega)
      have h2 : (g.getD k 0 * y.getD k 0).natAbs ≤ 25920000 := by
        rw [Int.natAbs_mul]
        exact Nat.le_trans (Nat.mul_le_mul (hg _ (getD_mem (by omega))) (hy _ (getD_mem (by omega)))) (by decide)
      rw [Lin.sumN]
      have := Int.natAbs_add_le (Lin.sumN k fun i => g.getD i 0 * y.getD i 0) (g.getD k 0 * y.getD k 0)
      omega
  have := key g.length (Nat.le_refl _)
  unfold dotL
  omega

theorem twoE {w : World} {a b : Int} : Sl 0 3 (w.alloc (.cells #[.int .i64 a, .int .i64 b] 3)) (.slice (some ⟨w.heap.size, 0, none⟩) 2 2) (ints [a, b]) := by
  refine ⟨some ⟨w.heap.size, 0, none⟩, 2, rfl, by simp [ints], by simp [maxLen], fun i hi => ⟨w.heap.size, 0, rfl, ?_, .inr ⟨_, heap_alloc_new w _⟩⟩, fun e => by cases e⟩
  rw [Nat.zero_add]
  simp only [World.cell?, heap_alloc_new]
  match i, hi with
  | 0, _ => rfl
  | 1, _ => rfl

theorem two_cellsE {B : Nat} {w : World} {u : Value} {a b : Int} (h : w.ownsRow B 3 1 u 2 (ints [a, b])) : ∃ g gc, u = .slice (some ⟨g, 0, none⟩) 2 gc ∧ B ≤ g ∧ w.cell? ⟨g, 0, none⟩ = some (.int .i64 a) ∧ w.cell? ⟨g, 1, none⟩ = some (.int .i64 b) := by
  rcases h.2 with ⟨_, h0⟩ | ⟨g, cap, cur, h1, h2, h3, _⟩
  · omega
  · subst h1
    exact ⟨g, cap, rfl, h2, h.cellAt 0 (by omega), h.cellAt 1 (by omega)⟩

end Go.Proofs.Ytgjlnhfjgkljdaa
