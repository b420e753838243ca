import Derived.Test.YtknomkajibfmlaaGreatMgAA
import Derived.Deep.OwnRows
import Derived.Test.YtknomkajibfmlaaGreatFk2
import Derived.Test.YtknomkajibfmlaaGreatMgAF
import Derived.Test.YtknomkajibfmlaaGreatMgAJ
/- Rows in blocks of their own, as slices. -/
namespace Go.Proofs.YtknomkajibfmlaaGreat
open Go.RowKit

/-- A row in a block of its own, as a slice. -/
theorem row_slT {B : Nat} {w : World} {g cap n : Nat} {F : Nat → Value} {l : List Int} (r : w.rowIs g 3 cap F) (hF : ∀ i, i < n → F i = .int .i64 (l.getD i 0)) (hl : l.length = n) (hn : n ≤ cap) (hc : cap ≤ 9223372036854775807) : Sl B 3 w (.slice (some ⟨g, 0, none⟩) n cap) (ints l) := by
  refine ⟨some ⟨g, 0, none⟩, cap, by simp [hl], by simpa [hl] using hn, by unfold maxLen; omega, fun i hi => ?_, fun h => by cases h⟩
  have hi' : i < l.length := by simpa using hi
  refine ⟨g, 0, rfl, ?_, ?_⟩
  · rw [Nat.zero_add, r.cell (by omega), hF i (by omega), ints_get _ _ hi']
  · obtain ⟨c, hb, _, _⟩ := r
    exact Or.inr ⟨c, hb⟩

theorem own_rw {B n : Nat} {e : TypeId} {w : World} {v : Value} {l : List Int} (h : w.ownsRow B e 1 v n (ints l)) (hn : 0 < n) : ∃ g cap F, v = .slice (some ⟨g, 0, none⟩) n cap ∧ B ≤ g ∧ w.rowIs g e cap F ∧ (∀ i, i < n → F i = .int .i64 (l.getD i 0)) ∧ n ≤ cap ∧ cap ≤ 9223372036854775807 := by
  obtain ⟨h1, h2⟩ := h
  rcases h2 with ⟨_, h0⟩ | ⟨g, cap, cur, hu, hg, hh, hnc, hcm, hs, htk⟩
  · omega
  · have hll : l.length = n := by simpa [ints] using h1
    refine ⟨g, cap, fun i => cur.toList.getD i (.int .i64 0), hu, hg, ⟨cur, hh, by omega, fun i hi => ?_⟩, fun i hi => ?_, hnc, by unfold maxLen at hcm; exact hcm⟩
    · show cur[i]? = some (cur.toList.getD i (.int .i64 0))
      rw [← Array.getElem?_toList, List.getD_eq_getElem?_getD, List.getElem?_eq_getElem (by simp; omega)]; rfl
    · have e1 : cur.toList.getD i (.int .i64 0) = (ints l).getD i (.int .i64 0) := by
        rw [← htk]
        simp only [List.getD_eq_getElem?_getD]
        rw [List.getElem?_take_of_lt (by omega)]
      show cur.toList.getD i (.int .i64 0) = _
      rw [e1]
      simp [ints, show i < l.length by omega]

end Go.Proofs.YtknomkajibfmlaaGreat

/- What Empty and Greatest share: rows laid together, products of small by great, axes. -/
namespace Go.Proofs.YtknomkajibfmlaaGreat
open Go.RowKit Lin
attribute [local go_sem ↓] Go.wp_at_zero Go.wp_at_succ

/-- Worlds that are the same but for draws. -/
def Qe (w wr : World) : Prop := ∃ n, wr = w.drewN n
theorem Qe.refl (w : World) : Qe w w := ⟨0, rfl⟩
theorem Qe.drewN {w wr : World} (h : Qe w wr) (k : Nat) : Qe w (wr.drewN k) := by
  obtain ⟨n, rfl⟩ := h
  exact ⟨n + k, by rw [World.drewN_drewN]⟩
theorem Qe.below {N : Nat} {w wr : World} (h : Qe w wr) : Below N w wr := by
  obtain ⟨n, rfl⟩ := h
  exact ⟨rfl, rfl, rfl, Nat.le_refl _, fun _ _ => rfl⟩

theorem rws_all {B : Nat} {w w' : World} {v v' : Value} {m m2 : List (List Int)} {vs us : List Value}
    (h1 : vs.length = m.length) (h2 : w.ownsRow B 38 1 v m.length vs) (h3 : ∀ i, i < m.length → Sl B 3 w (vs.getD i (.slice none 0 0)) (ints (m.getD i [])))
    (k1 : us.length = m2.length) (k3 : ∀ i, i < m2.length → Sl B 3 w (us.getD i (.slice none 0 0)) (ints (m2.getD i [])))
    (ho : w'.ownsRow B 38 1 v' (m.length + m2.length) (vs ++ us)) (hg : w.grownBy w' v.ownBlock) : Rws B 38 3 w' v' (m ++ m2) := by
  have ht : ∀ k, v.ownBlock = some k → B ≤ k ∧ ∀ cur, w.heap[k]? ≠ some (.cells cur 3 (0, 0)) := fun k hk => ⟨(h2.lt k hk).1, (owns_typed h2 (by decide) k hk).2⟩
  refine ⟨vs ++ us, by simp [h1, k1], by simpa using ho, fun i hi => ?_⟩
  by_cases hlt : i < m.length
  · have e1' : (vs ++ us).getD i (.slice none 0 0) = vs.getD i (.slice none 0 0) := by
      simp only [List.getD_eq_getElem?_getD]; rw [List.getElem?_append_left (by omega)]
    have e2' : (m ++ m2).getD i [] = m.getD i [] := by
      simp only [List.getD_eq_getElem?_getD]; rw [List.getElem?_append_left (by omega)]
    rw [e1', e2']
    exact (h3 i hlt).grown hg ht
  · have e1' : (vs ++ us).getD i (.slice none 0 0) = us.getD (i - m.length) (.slice none 0 0) := by
      simp only [List.getD_eq_getElem?_getD]; rw [List.getElem?_append_right (by omega), h1]
    have e2' : (m ++ m2).getD i [] = m2.getD (i - m.length) [] := by
      simp only [List.getD_eq_getElem?_getD]; rw [List.getElem?_append_right (by omega)]
    rw [e1', e2']
    exact (k3 _ (by simp at hi; omega)).grown hg ht

theorem slice_cells {B : Nat} {e : TypeId} {w : World} {a : Addr} {n cap : Nat} {us : List Value} (h : Sl B e w (.slice (some a) n cap) us) : ∀ j u, us[j]? = some u → w.cell? (a.add j) = some u := by
  intro j u hj
  have hlt : j < us.length := (List.getElem?_eq_some_iff.1 hj).1
  obtain ⟨ao, c, hv, _, _, h3, _⟩ := h
  obtain ⟨b, o, ha, hc, _⟩ := h3 j hlt
  simp only [Value.slice.injEq] at hv
  rw [← hv.1] at ha
  simp only [Option.some.injEq] at ha
  rw [ha]
  have h5 := hc.trans hj
  unfold Addr.add
  by_cases e : j = 0
  · subst e; simpa using h5
  · simpa [e] using h5

theorem rows_one1 {B : Nat} {w : World} {m : List (List Int)} {us : List Value} (k1 : us.length = m.length) (k3 : ∀ i, i < m.length → Sl B 3 w (us.getD i (.slice none 0 0)) (ints (m.getD i []))) : ∀ u ∈ us, u.oneCell' = true := by
  intro u hu
  obtain ⟨i, hi, rfl⟩ := List.getElem_of_mem hu
  have h := k3 i (by omega)
  have e : us.getD i (.slice none 0 0) = us[i] := by simp [hi]
  rw [e] at h
  obtain ⟨ao, cap, hv, _⟩ := sl_open h
  rw [hv]; rfl

theorem Sl.takeE {B n c : Nat} {w : World} {ao : Option Addr} {zs : List Int} (h : Sl B 3 w (.slice ao zs.length c) (ints zs)) (hn : n ≤ zs.length) : Sl B 3 w (.slice ao n c) (ints (zs.take n)) := by
  obtain ⟨bo, cap, hv, h1, h2, h3, h4⟩ := h
  simp only [Value.slice.injEq] at hv
  obtain ⟨rfl, _, rfl⟩ := hv
  simp at h1
  refine ⟨ao, c, by simp; omega, by simp; omega, by omega, fun i hi => ?_, h4⟩
  have hi' : i < n := by simp at hi; omega
  obtain ⟨b, o, ha, hc, ht⟩ := h3 i (by simp; omega)
  refine ⟨b, o, ha, ?_, ht⟩
  rw [hc, ints_get _ _ (by omega), ints_get _ _ (by simp; omega)]
  simp [hi']

/-- The first small, the other one not so. -/
def Swe (a x : List Int) : Prop := a.length ≤ x.length ∧ a.length ≤ 8 ∧ (∀ z ∈ a, z.natAbs ≤ 1000) ∧ ∀ z ∈ x, z.natAbs ≤ 1000000000000

theorem mul_bwe {a x : Int} (ha : a.natAbs ≤ 1000) (hx : x.natAbs ≤ 1000000000000) : (a * x).natAbs ≤ 1000000000000000 := by
  rw [Int.natAbs_mul]
  exact Nat.le_trans (Nat.mul_le_mul ha hx) (by decide)

theorem sum_swe {a x : List Int} (h : Swe a x) : ∀ k, k ≤ a.length → (Lin.sumN k fun i => a.getD i 0 * x.getD i 0).natAbs ≤ k * 1000000000000000 := by
  intro k
  induction k with
  | zero => intro _; simp [Lin.sumN]
  | succ k ih =>
    intro hk
    have h1 := ih (by omega)
    have hl := h.1
    have h3 : (a.getD k 0 * x.getD k 0).natAbs ≤ 1000000000000000 := mul_bwe (h.2.2.1 _ (by simp [show k < a.length by omega])) (h.2.2.2 _ (by simp [show k < x.length by omega]))
    have e : (Lin.sumN (k + 1) fun i => a.getD i 0 * x.getD i 0) = (Lin.sumN k fun i => a.getD i 0 * x.getD i 0) + a.getD k 0 * x.getD k 0 := rfl
    rw [e]
    omega

set_option maxRecDepth 100000 in
set_option maxHeartbeats 400000 in
theorem dotE_any (B : Nat) (a x : List Int) (u v : Value) (w : World) (hu : Sl B 3 w u (ints a)) (hv : Sl B 3 w v (ints x)) (hs : Swe a x) :
    Calls Tryz.prog 19 #[u, v] w fun e w' => e = .returned (.int .i64 (dotL a x)) ∧ ∃ n, w' = w.drewN n := by
  obtain ⟨ao, cap, hvv, hlc, hcm⟩ := sl_open hu
  obtain ⟨bo, cbp, huu, hlb, hcb⟩ := sl_open hv
  subst hvv huu
  have HU : Hid (Sl B 3 w (.slice ao a.length cap) (ints a)) := hu
  have HV : Hid (Sl B 3 w (.slice bo x.length cbp) (ints x)) := hv
  have HS : Hid (Swe a x) := hs
  have hle : a.length ≤ x.length := hs.1
  have hl8 : a.length ≤ 8 := hs.2.1
  clear hu hv hs
  go_enter Tryz.func19, Tryz.ntmps19
  go_wp2
  go_loopw [5, 6] (fun s i wr => ∃ k : Nat, k ≤ a.length ∧ i = .int .i64 k ∧ s = .int .i64 (Lin.sumN k fun i => a.getD i 0 * x.getD i 0) ∧ ∃ n, wr = w.drewN n) (fun _ i _ => a.length - (intOf i).toNat)
  case atStart => exact ⟨0, Nat.zero_le _, rfl, rfl, 0, rfl⟩
  case round =>
    obtain ⟨k, hk, rfl, rfl, n, rfl⟩ := hrel
    by_cases hlt : k < a.length
    · have hlt2 : k < x.length := by omega
      obtain ⟨b, o, cp, hs, hc1, hcc⟩ := sl_cell HU.out hlt
      simp only [Value.slice.injEq] at hs
      obtain ⟨rfl, _, rfl⟩ := hs
      obtain ⟨b2, o2, cp2, hs2, hc2, hcc2⟩ := sl_cell HV.out hlt2
      simp only [Value.slice.injEq] at hs2
      obtain ⟨rfl, _, rfl⟩ := hs2
      have h1 := sum_swe HS.out k hk
      have h2 := sum_swe HS.out (k + 1) (by omega)
      have h3 : (a.getD k 0 * x.getD k 0).natAbs ≤ 1000000000000000 := mul_bwe (HS.out.2.2.1 _ (by simp [hlt])) (HS.out.2.2.2 _ (by simp [hlt2]))
      have HSU : Hid ((Lin.sumN (k + 1) fun i => a.getD i 0 * x.getD i 0) = (Lin.sumN k fun i => a.getD i 0 * x.getD i 0) + a.getD k 0 * x.getD k 0) := rfl
      rw [HSU.out] at h2
      generalize (Lin.sumN k fun i => a.getD i 0 * x.getD i 0) = S at *
      generalize a.getD k 0 = p at *
      generalize x.getD k 0 = q at *
      have e2 : wrap64 (S + wrap64 (p * q)) = S + p * q := by
        rw [IntWalk.wrap64_in (p * q) ⟨by omega, by omega⟩, IntWalk.wrap64_in _ ⟨by omega, by omega⟩]
      have hkI : (k : Int) < (a.length : Int) := by omega
      have hkI2 : (k : Int) < (x.length : Int) := by omega
      have hkI0 : (0 : Int) ≤ (k : Int) := by omega
      clear h1 h2 h3
      go_wp2
      go_quiet (fail)
      go_wp2
      go_roundw
      case rel => exact ⟨k + 1, by omega, by go_num, by rw [HSU.out, e2], _, rfl⟩
      case measure => simp [intOf]; omega
    · have hke : k = a.length := by omega
      subst hke
      go_wp2
      go_ret
      exact ⟨rfl, n, rfl⟩

theorem pks_snocE (P : List (List Int)) (x : List Int) (k : Nat) (h : k < x.length) : pks P [] (x.take (k + 1)) = pks P [] (x.take k) ++ [P.getD (x.getD k 0).toNat []] := by
  have e : x.getD k 0 = x[k] := by simp [h]
  rw [List.take_succ_eq_append_getElem h, e]
  unfold pks
  rw [List.map_append]
  rfl

theorem pks_inE {P : List (List Int)} {c : List Int} (h : ∀ q ∈ c, 0 ≤ q ∧ q < (P.length : Int)) : ∀ x ∈ pks P [] c, x ∈ P := by
  intro x hx
  obtain ⟨q, hq, rfl⟩ := List.mem_map.1 hx
  obtain ⟨h1, h2⟩ := h q hq
  simp [show q.toNat < P.length by omega]

theorem ng_mxE {d : Nat} {t : List (List Int)} (h : ∀ r ∈ t, r.length = d + 1 ∧ ∀ z ∈ r, z.natAbs ≤ 30) (h3 : d ≤ 4) : Mx (d + 1) 60 (t.map (ngR d)) := by
  refine ⟨fun r hr => ?_, fun r hr z hz => ?_, by omega, by omega, by decide, Nat.le_trans (fb_mono (by decide) (show d + 1 ≤ 5 by omega)) (by decide)⟩
  · obtain ⟨y, hy, rfl⟩ := List.mem_map.1 hr
    exact ngR_len (h y hy).1
  · obtain ⟨y, hy, rfl⟩ := List.mem_map.1 hr
    have hyl := (h y hy).1
    have hyb := (h y hy).2
    unfold ngR at hz
    rcases List.mem_append.1 hz with h1 | h1
    · have := hyb z (List.mem_of_mem_take h1); omega
    · simp only [List.mem_singleton] at h1
      have := hyb (y.getD d 0) (getD_mem (by omega))
      omega

theorem ptY_lenE {d : Nat} {t : List (List Int)} (h : normB (d + 1) (t.map (ngR d)) = true) : (ptY d t).length = d + 1 := by
  unfold ptY
  split
  · rw [List.length_map, norm_len h]
  · exact norm_len h

theorem ptY_bdE {d : Nat} {t : List (List Int)} (hx : Mx (d + 1) 60 (t.map (ngR d))) : ∀ z ∈ ptY d t, z.natAbs ≤ 1000000000000 := by
  intro z hz
  unfold ptY at hz
  split at hz
  · obtain ⟨y, hy, rfl⟩ := List.mem_map.1 hz
    have := norm_bd hx y hy; omega
  · exact norm_bd hx z hz

theorem axs_len (d : Nat) : (axsL d).length = d := by simp [axsL]
theorem all_len (d : Nat) (rows : List (List Int)) : (allR d rows).length = rows.length + d := by simp [allR, axsL]
theorem axR_small (d k : Nat) : ∀ z ∈ axR d k, z.natAbs ≤ 30 := fun z hz => by
  simp only [axR, List.mem_map] at hz
  obtain ⟨j, _, rfl⟩ := hz
  split <;> decide
theorem all_box {d : Nat} {rows : List (List Int)} (h : ∀ r ∈ rows, r.length = d + 1 ∧ ∀ z ∈ r, z.natAbs ≤ 20) : ∀ r ∈ allR d rows, r.length = d + 1 ∧ ∀ z ∈ r, z.natAbs ≤ 30 := fun r hr => by
  rcases List.mem_append.1 hr with h1 | h1
  · exact ⟨(h r h1).1, fun z hz => by have := (h r h1).2 z hz; omega⟩
  · simp only [axsL, List.mem_map] at h1
    obtain ⟨k, _, rfl⟩ := h1
    exact ⟨axR_len d k, axR_small d k⟩

/-- An axis, laid. -/
theorem ax_row {w : World} {d k : Nat} (hk : k < d + 1) (hd : d ≤ 100) {o : Obj} (ho : o = .cells ((madeCells #[.int .i64 0] (d + 1)).setIfInBounds k (.int .i64 1)) 3) : Sl 0 3 (w.alloc o) (.slice (some ⟨w.heap.size, 0, none⟩) (d + 1) (d + 1)) (ints (axR d k)) := by
  subst ho
  have n3 := alloc_new w (.cells ((madeCells #[.int .i64 0] (d + 1)).setIfInBounds k (.int .i64 1)) 3)
  have hgrow : (w.alloc (.cells ((madeCells #[.int .i64 0] (d + 1)).setIfInBounds k (.int .i64 1)) 3)).rowIs w.heap.size 3 (d + 1) (fun j => if j = k then .int .i64 1 else .int .i64 0) := by
    refine ⟨_, n3, ?_, fun i hi => ?_⟩
    · simp only [Array.size_setIfInBounds]
      rw [← Array.length_toList, toList_madeCells_one]; simp
    · rw [Array.getElem?_setIfInBounds]
      by_cases e : k = i
      · subst e
        have hz : k < (madeCells #[.int .i64 0] (d + 1)).size := by rw [← Array.length_toList, toList_madeCells_one]; simpa using hk
        simp [hz]
      · rw [if_neg e, ← Array.getElem?_toList, toList_madeCells_one]
        simp [hi, show ¬ i = k from fun h => e h.symm]
  refine Sl.row' hgrow (by unfold maxLen; omega) (by simp [axR]) (fun i hi => ?_)
  rw [ints_get _ _ (by rw [axR_len]; exact hi)]
  by_cases e : i = k
  · subst e; simp [axR, hi]
  · simp [axR, hi, e]

end Go.Proofs.YtknomkajibfmlaaGreat
