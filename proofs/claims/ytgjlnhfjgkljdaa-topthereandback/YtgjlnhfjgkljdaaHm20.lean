/- The document's answer: corners: the walk. -/
import Derived.Test.YtgjlnhfjgkljdaaHmF
namespace Go.Proofs.Ytgjlnhfjgkljdaa
open Go.RowKit
attribute [local go_sem ↓] Go.wp_at_zero Go.wp_at_succ

theorem diff_mx12 {d : Nat} {t : List (List Int)} (h : Box d 6 t) (h1 : 1 ≤ d) (h5 : d ≤ 5) : Mx d 12 (diffL t) := by
  refine ⟨fun r hr => ?_, fun r hr z hz => ?_, h5, h1, by decide, Nat.le_trans (fb_mono (by decide) h5) (by decide)⟩
  · simp only [diffL, List.mem_map] at hr
    obtain ⟨x, hx, rfl⟩ := hr
    rw [subL_length]; exact (h x (List.mem_of_mem_drop hx)).1
  · simp only [diffL, List.mem_map] at hr
    obtain ⟨x, hx, rfl⟩ := hr
    simp only [subL, List.mem_map, List.mem_range] at hz
    obtain ⟨i, hi, rfl⟩ := hz
    have h1 := (h x (List.mem_of_mem_drop hx)).2 (x.getD i 0) (by simp [hi])
    have h2 : -(6 : Int) ≤ (t.getD 0 []).getD i 0 ∧ (t.getD 0 []).getD i 0 ≤ 6 := by
      by_cases ht : 0 < t.length
      · have h3 := h (t.getD 0 []) (by simp [ht])
        by_cases hi2 : i < (t.getD 0 []).length
        · exact h3.2 _ (getD_mem hi2)
        · rw [show (t.getD 0 []).getD i 0 = 0 by simp only [List.getD_eq_getElem?_getD]; rw [List.getElem?_eq_none (by simpa using hi2)]; rfl]; omega
      · have : t = [] := List.eq_nil_of_length_eq_zero (by omega)
        subst this; simp
    omega

theorem mu_12 {c : Nat} {m : List (List Int)} (hx : Mx c 12 m) (h4 : c ≤ 4) (hl : (pickL c m).length + 1 = c) : ∀ z ∈ muL c (pickL c m), z.natAbs ≤ 10368 := by
  intro z hz
  simp only [muL, List.mem_map, List.mem_range] at hz
  obtain ⟨k, hk, rfl⟩ := hz
  unfold Lin.mu
  rw [Int.natAbs_mul]
  have h2 : (Lin.ngo k).natAbs = 1 := by rw [ngo_mod]; by_cases e : k % 2 = 1 <;> simp [e]
  rw [h2, Nat.one_mul, fm_length]
  have h5 : Lin.fb 12 3 = 10368 := by decide
  have m2 : Lin.fb 12 (pickL c m).length ≤ Lin.fb 12 3 := fb_mono (by decide) (by omega)
  have hb := Lin.od_bd (n := (pickL c m).length) (B := 12) (Lin.cols (fm (pickL c m)) (Lin.skp k)) (fun _ => false) (fun r hr j hj => by
    simp only [Lin.cols, fm, List.mem_map] at hr
    obtain ⟨_, ⟨l, hl', rfl⟩, rfl⟩ := hr
    by_cases hi : Lin.skp k j < l.length
    · exact hx.bd l (pickL_mem hl') _ (by simp [hi])
    · simp only [List.getD_eq_getElem?_getD]; rw [List.getElem?_eq_none (by omega)]; simp) (by rw [Lin.cu_none]; simp [Lin.cols, fm])
  have hl2 : (Lin.cols (fm (pickL c m)) (Lin.skp k)).length = (pickL c m).length := by simp [Lin.cols, fm]
  rw [hl2] at hb
  omega

theorem norm_12 {c : Nat} {m : List (List Int)} (hx : Mx c 12 m) (h4 : c ≤ 4) : ∀ z ∈ normL c m, z.natAbs ≤ 10368 := by
  intro z hz
  unfold normL at hz
  split at hz
  · rename_i hl
    exact upr_bd (low_bd (mu_12 hx h4 hl)) z hz
  · simp at hz

theorem box_up {d : Nat} {P : List (List Int)} (h : Box d 6 P) : Box d 30 P := fun r hr => ⟨(h r hr).1, fun z hz => by have := (h r hr).2 z hz; omega⟩

theorem rowsD_12 {d : Nat} {P : List (List Int)} (hP : Box d 6 P) (h1 : 1 ≤ d) (h4 : d ≤ 4) {r : List Int} (hr : r ∈ rowsD P d) : ∀ z ∈ r.take d, z.natAbs ≤ 10368 := by
  unfold rowsD at hr
  obtain ⟨c, hc, hr⟩ := List.mem_flatMap.1 hr
  have hl := chosen_row d P.length c hc
  have htl : (pks P [] c).length = d := by rw [← hl]; simp [pks]
  have htm : ∀ x ∈ pks P [] c, x ∈ P := pks_in fun q hq => by
    obtain ⟨i, hi, rfl⟩ := List.mem_iff_getElem.1 hq
    have := (chosen_mem d P.length c hc).1 i (by omega)
    simpa [hi] using this
  obtain ⟨σ, hσ, hnb, hre⟩ := rowT_form htl (Option.mem_toList.1 hr)
  have hal := norm_len hnb
  have hbd := norm_12 (diff_mx12 (fun x hx => hP x (htm x hx)) h1 (by omega)) h4
  intro z hz
  rw [hre, ← List.map_take, (row_app hal).2.1] at hz
  obtain ⟨y, hy, rfl⟩ := List.mem_map.1 hz
  have := hbd y hy
  rcases hσ with rfl | rfl
  · rw [Int.one_mul]; exact this
  · rw [Int.neg_mul, Int.one_mul, Int.natAbs_neg]; exact this

/-- The rows that a point meets, without their last numbers. -/
def onL (d : Nat) (s : List (List Int)) (x : List Int) : List (List Int) := (s.filter fun r => decide (overL r x = 0)).map fun r => r.take d

theorem onL_snoc {d : Nat} {s : List (List Int)} {x : List Int} {j : Nat} (hj : j < s.length) : onL d (s.take (j + 1)) x = onL d (s.take j) x ++ (if overL (s.getD j []) x = 0 then [(s.getD j []).take d] else []) := by
  have e : s.getD j [] = s[j] := by simp [hj]
  unfold onL
  rw [List.take_succ_eq_append_getElem hj, List.filter_append, List.map_append, e]
  by_cases h : overL s[j] x = 0 <;> simp [h]

theorem onL_len (d : Nat) (s : List (List Int)) (x : List Int) : (onL d s x).length ≤ s.length := by
  unfold onL
  rw [List.length_map]
  exact List.length_filter_le _ _

theorem onL_mx {d : Nat} {P s : List (List Int)} (hP : Box d 6 P) (h1 : 1 ≤ d) (h4 : d ≤ 4) (hs : ∀ r ∈ s, r ∈ rowsD P d) (x : List Int) : Mx d 10368 (onL d s x) := by
  have hmem : ∀ r ∈ onL d s x, ∃ q ∈ rowsD P d, r = q.take d := fun r hr => by
    obtain ⟨q, hq, rfl⟩ := List.mem_map.1 hr
    exact ⟨q, hs q (List.mem_filter.1 hq).1, rfl⟩
  refine ⟨fun r hr => ?_, fun r hr => ?_, by omega, h1, by decide, Nat.le_trans (fb_mono (by decide) h4) (by decide)⟩
  · obtain ⟨q, hq, rfl⟩ := hmem r hr
    have := (rowsD_facts (box_up hP) h1 (by omega) q hq).len
    rw [List.length_take]; omega
  · obtain ⟨q, hq, rfl⟩ := hmem r hr
    exact rowsD_12 hP h1 h4 hq

theorem nodup_lenL : ∀ s t : List (List Int), s.Nodup → (∀ r ∈ s, r ∈ t) → s.length ≤ t.length
  | [], _, _, _ => by simp
  | a :: s, t, hn, h => by
    obtain ⟨h1, h2⟩ := List.nodup_cons.1 hn
    have ha := h a (by simp)
    have ih := nodup_lenL s (t.erase a) h2 fun r hr => (List.mem_erase_of_ne (fun e => h1 (by rw [← e]; exact hr))).2 (h r (by simp [hr]))
    rw [List.length_erase_of_mem ha] at ih
    have := List.length_pos_of_mem ha
    simp
    omega

theorem SAsc.nodup {s : List (List Int)} (h : SAsc s) : s.Nodup :=
  List.Pairwise.imp (fun {a b} hab e => by
    subst e
    rw [cmpL_self] at hab
    omega) h

theorem rowsD_len {d : Nat} {P s : List (List Int)} (hd : d ≤ 4) (hP : P.length ≤ 16) (hs : SAsc s) (hm : ∀ r, r ∈ s ↔ r ∈ rowsD P d) : s.length ≤ 16777216 := by
  have h1 := nodup_lenL s (rowsD P d) hs.nodup fun r hr => (hm r).1 hr
  have h2 : (rowsD P d).length ≤ (chosenL d P.length).length := by
    have h := rowsTo_len P (chosenL d P.length) (chosenL d P.length).length
    unfold rowsTo at h
    rw [List.take_length] at h
    exact h
  have h3 : (chosenL d P.length).length ≤ 16777216 := Nat.le_trans (chosen_len d P.length (by omega)) (Nat.le_trans (Nat.pow_le_pow_right (by decide) hd) (by decide))
  omega

/-- The points whose rows' rank is the dimension. -/
def crn (d : Nat) (s P : List (List Int)) : List (List Int) := P.filter fun x => decide ((pickL d (onL d s x)).length = d)

theorem crn_snoc {d : Nat} {s P : List (List Int)} {k : Nat} (hk : k < P.length) : crn d s (P.take (k + 1)) = crn d s (P.take k) ++ (if (pickL d (onL d s (P.getD k []))).length = d then [P.getD k []] else []) := by
  have e : P.getD k [] = P[k] := by simp [hk]
  unfold crn
  rw [List.take_succ_eq_append_getElem hk, List.filter_append, e]
  by_cases h : (pickL d (onL d s P[k])).length = d <;> simp [h]

end Go.Proofs.Ytgjlnhfjgkljdaa
