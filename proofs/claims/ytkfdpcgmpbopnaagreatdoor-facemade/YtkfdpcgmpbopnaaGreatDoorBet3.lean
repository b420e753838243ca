/- What is between two points; what lies far out. -/
import Derived.Test.YtkfdpcgmpbopnaaGreatDoorHulAll
import Derived.Test.YtkfdpcgmpbopnaaGreatDoorBet1
import Derived.Test.YtkfdpcgmpbopnaaGreatDoorBet2
namespace Go.Proofs.YtkfdpcgmpbopnaaGreatDoor
open Lin

theorem full_of_span {d : Nat} {P : List (List Int)} (hP : ∀ y ∈ P, y.length = d) (h : ∀ c : Nat → Int, (∀ y ∈ P, ∀ z ∈ P, dot d c (V y) = dot d c (V z)) → ∀ i, i < d → c i = 0) : (pickL d (diffL P)).length = d := by
  have hgr := pick_greedy d (diffL P)
  have := (greedy_full hgr).2 (fun v hv => h v fun y hy z hz => by
    have key : ∀ y ∈ P, dot d v (V y) = dot d v (V (P.getD 0 [])) := fun y hy => by
      cases hPe : P with
      | nil => rw [hPe] at hy; simp at hy
      | cons p0 P' =>
        rw [hPe] at hy
        rcases List.mem_cons.1 hy with rfl | hy
        · rfl
        · have h1 := hv (V (subL y p0)) (mem_fm.2 ⟨_, by rw [hPe]; simp only [diffL, List.drop_succ_cons, List.drop_zero]; exact List.mem_map.2 ⟨y, hy, rfl⟩, rfl⟩)
          rw [dot_comm, dot_subL v (hP y (by rw [hPe]; simp [hy]))] at h1
          show dot d v (V y) = dot d v (V p0)
          omega
    rw [key y hy, key z hz])
  rw [fm_length] at this
  exact this

theorem V_addL {x y : List Int} {d i : Nat} (hx : x.length = d) (hi : i < d) : V (addL x y) i = V x i + V y i := by
  simp [V, addL, hx, hi]

theorem dot_addL {d : Nat} (c : Nat → Int) {x y : List Int} (hx : x.length = d) : dot d c (V (addL x y)) = dot d c (V x) + dot d c (V y) := by
  unfold dot
  rw [← sumN_add]
  exact sumN_congr fun i hi => by rw [V_addL hx hi, Int.mul_add]

def dblL (P : List (List Int)) : List (List Int) := P.map fun x => addL x x

theorem dot_spk {n k : Nat} (hk : k < n) (v : Nat → Int) : dot n v (V (spk n k)) = v k * (1 + ((k % 2 : Nat) : Int)) := by
  unfold dot
  rw [sumN_one hk (fun i hi hne => by simp [V, spk, hi, hne])]
  simp [V, spk, hk]

theorem dot_zeros (n : Nat) (v : Nat → Int) : dot n v (V (zerosL n)) = 0 := by
  unfold dot
  exact sumN_zero fun i hi => by simp [V, zerosL, hi]

theorem poly_len (n : Nat) (m : List (List Int)) : (polyL n m).length = m.length + 1 + n := by simp [polyL]; omega

theorem poly_box {n wd : Nat} {m : List (List Int)} (hm : Box n wd m) (hw : wd ≤ 15) : Box n 15 (polyL n m) := by
  intro r hr
  simp only [polyL, List.mem_append, List.mem_singleton, List.mem_map, List.mem_range] at hr
  rcases hr with (hr | rfl) | ⟨k, hk, rfl⟩
  · refine ⟨(hm r hr).1, fun z hz => ?_⟩
    have := (hm r hr).2 z hz
    omega
  · refine ⟨by simp [zerosL], fun z hz => ?_⟩
    simp only [zerosL, List.mem_map] at hz
    obtain ⟨_, _, rfl⟩ := hz
    omega
  · refine ⟨by simp [spk], fun z hz => ?_⟩
    simp only [spk, List.mem_map] at hz
    obtain ⟨j, _, rfl⟩ := hz
    have := Nat.mod_lt k (show 0 < 2 by decide)
    split <;> omega

theorem poly_span {n : Nat} {m : List (List Int)} (c : Nat → Int) (h : ∀ y ∈ polyL n m, ∀ z ∈ polyL n m, dot n c (V y) = dot n c (V z)) : ∀ i, i < n → c i = 0 := by
  intro i hi
  have h1 := h (spk n i) (by simp [polyL]; right; right; exact ⟨i, hi, rfl⟩) (zerosL n) (by simp [polyL])
  rw [dot_spk hi, dot_zeros] at h1
  rcases Int.mul_eq_zero.1 h1 with h2 | h2
  · exact h2
  · omega

theorem poly_good {n wd : Nat} {m : List (List Int)} (h1 : 1 ≤ n) (h4 : n ≤ 4) (hm : Box n wd m) (hw : wd ≤ 15) (hl : m.length ≤ 10) : Good n (polyL n m) := by
  have hb := poly_box hm hw
  refine ⟨h1, h4, by rw [poly_len]; omega, by rw [poly_len]; omega, fun r hr => ⟨(hb r hr).1, fun z hz => by have := (hb r hr).2 z hz; omega⟩, full_of_span (fun y hy => (hb y hy).1) (fun c hc => poly_span c hc)⟩

theorem dbl_good {n : Nat} {P : List (List Int)} (h1 : 1 ≤ n) (h4 : n ≤ 4) (hb : Box n 15 P) (h2 : 2 ≤ P.length) (h24 : P.length ≤ 24) (hs : ∀ c : Nat → Int, (∀ y ∈ P, ∀ z ∈ P, dot n c (V y) = dot n c (V z)) → ∀ i, i < n → c i = 0) : Good n (dblL P) := by
  have hl : ∀ y ∈ dblL P, y.length = n := fun y hy => by
    simp only [dblL, List.mem_map] at hy
    obtain ⟨x, hx, rfl⟩ := hy
    rw [addL_length]; exact (hb x hx).1
  refine ⟨h1, h4, by simp [dblL, h2], by simp [dblL, h24], fun r hr => ⟨hl r hr, fun z hz => ?_⟩, full_of_span hl (fun c hc => hs c fun y hy z hz => ?_)⟩
  · simp only [dblL, List.mem_map] at hr
    obtain ⟨x, hx, rfl⟩ := hr
    simp only [addL, List.mem_map, List.mem_range] at hz
    obtain ⟨i, hi, rfl⟩ := hz
    have := (hb x hx).2 _ (getD_mem hi)
    omega
  · have := hc (addL y y) (List.mem_map.2 ⟨y, hy, rfl⟩) (addL z z) (List.mem_map.2 ⟨z, hz, rfl⟩)
    rw [dot_addL c (hb y hy).1, dot_addL c (hb z hz).1] at this
    omega

theorem agn_dot {d : Nat} {r x : List Int} (hr : r.length = d + 1) (hx : x.length = d) : agn r x = cmpI (dot d (V r) (V x)) (r.getD d 0) := by
  unfold agn
  rw [hx, dotL_eq (d := d) (by rw [List.length_take]; omega), dot_congr (fun i hi => V_take hi) (fun _ _ => rfl)]

theorem whr_le {rows : List (List Int)} {x : List Int} (h : ∀ r ∈ rows, agn r x ≤ 0) : whr rows x ≤ 0 := by
  have : ∀ k, k ≤ rows.length → whr (rows.take k) x ≤ 0 := by
    intro k
    induction k with
    | zero => intro _; simp [whr]
    | succ k ih =>
      intro hk
      rw [whr_snoc _ _ _ (by omega)]
      have h1 := ih (by omega)
      have h2 := h (rows.getD k []) (by simp [show k < rows.length by omega])
      omega
  have h1 := this rows.length (Nat.le_refl _)
  rwa [List.take_length] at h1

theorem whr_one {rows : List (List Int)} {x r : List Int} (hr : r ∈ rows) (h : agn r x = 1) : whr rows x = 1 := by
  obtain ⟨i, hi, he⟩ := List.mem_iff_getElem.1 hr
  have hup : ∀ k, k ≤ rows.length → i < k → 1 ≤ whr (rows.take k) x := by
    intro k
    induction k with
    | zero => intro _ h; omega
    | succ k ih =>
      intro hk hik
      rw [whr_snoc _ _ _ (by omega)]
      by_cases hik2 : i < k
      · have := ih (by omega) hik2; omega
      · have : i = k := by omega
        subst this
        have h2 : rows.getD i [] = r := by rw [← he]; simp [hi]
        rw [h2, h]; omega
  have h1 := hup rows.length (Nat.le_refl _) hi
  have h2 := whr_bd rows x rows.length (Nat.le_refl _)
  rw [List.take_length] at h1 h2
  omega

theorem cmpI_le {a b : Int} (h : a ≤ b) : cmpI a b ≤ 0 := by
  unfold cmpI
  split
  · omega
  · split <;> omega

theorem cmpI_one {a b : Int} (h : b < a) : cmpI a b = 1 := by
  unfold cmpI
  rw [if_neg (by omega), if_pos h]

/-- A point of the polytope is not outside. -/
theorem where_in {d : Nat} {P P' rows : List (List Int)} (hg : Good d P) (hm : ∀ r, r ∈ P' ↔ r ∈ P) (hr : ∀ r, r ∈ rows ↔ r ∈ rowsC P' [] d P') {x : List Int} (hx : x ∈ P) : whr rows x ≤ 0 :=
  whr_le fun r h => by
    have ho := rowsC_fit hg.box hg.d1 (by have := hg.d4; omega) hm ((hr r).1 h)
    rw [agn_dot ho.len (hg.box x hx).1]
    exact cmpI_le (ho.all x hx)

/-- What is between two is not outside of the polytope of twice all. -/
theorem where_mid {d : Nat} {P P' rows : List (List Int)} (hg : Good d (dblL P)) (hb : ∀ y ∈ P, y.length = d) (hm : ∀ r, r ∈ P' ↔ r ∈ dblL P) (hr : ∀ r, r ∈ rows ↔ r ∈ rowsC P' [] d P') {x y : List Int} (hx : x ∈ P) (hy : y ∈ P) : whr rows (addL x y) ≤ 0 :=
  whr_le fun r h => by
    have ho := rowsC_fit hg.box hg.d1 (by have := hg.d4; omega) hm ((hr r).1 h)
    rw [agn_dot ho.len (by rw [addL_length]; exact hb x hx)]
    have h1 := ho.all (addL x x) (List.mem_map.2 ⟨x, hx, rfl⟩)
    have h2 := ho.all (addL y y) (List.mem_map.2 ⟨y, hy, rfl⟩)
    rw [dot_addL _ (hb x hx)] at h1
    rw [dot_addL _ (hb y hy)] at h2
    refine cmpI_le ?_
    rw [dot_addL _ (hb x hx)]
    omega

def farL (d : Nat) : List Int := (List.range d).map fun j => if j = 0 then 99 else 0

theorem exists_max (f : List Int → Int) : ∀ P : List (List Int), P ≠ [] → ∃ x ∈ P, ∀ y ∈ P, f y ≤ f x
  | [x], _ => ⟨x, by simp, fun y hy => by simp at hy; subst hy; exact Int.le_refl _⟩
  | x :: z :: P, _ => by
    obtain ⟨y, hy, h⟩ := exists_max f (z :: P) (by simp)
    by_cases hc : f x ≤ f y
    · exact ⟨y, List.mem_cons_of_mem _ hy, fun q hq => by
        rcases List.mem_cons.1 hq with rfl | hq
        · exact hc
        · exact h q hq⟩
    · exact ⟨x, by simp, fun q hq => by
        rcases List.mem_cons.1 hq with rfl | hq
        · exact Int.le_refl _
        · have := h q hq; omega⟩

/-- Far out is outside. -/
theorem where_far {d : Nat} {P P' rows : List (List Int)} (hg : Good d P) (hm : ∀ r, r ∈ P' ↔ r ∈ P) (hr : ∀ r, r ∈ rows ↔ r ∈ rowsC P' [] d P') : whr rows (farL d) = 1 := by
  have hd := hg.d1
  have hfl : (farL d).length = d := by simp [farL]
  have : ∃ r ∈ rowsC P' [] d P', r.getD d 0 < dot d (V r) (V (farL d)) := by
    refine Classical.byContradiction fun hn => ?_
    obtain ⟨x, hx, hmax⟩ := exists_max (fun y => dot d (unit 0) (V y)) P (by intro h; have := hg.n2; rw [h] at this; simp at this)
    have h1 := rows_tell hg hm (q := farL d) (fun r hr' => by
      rcases Int.lt_or_le (r.getD d 0) (dot d (V r) (V (farL d))) with h | h
      · exact absurd ⟨r, hr', h⟩ hn
      · exact h) hx hmax
    rw [dot_unit (by omega), dot_unit (by omega)] at h1
    have h2 : V (farL d) 0 = 99 := by simp [V, farL, show 0 < d by omega]
    have h3 := (hg.box x hx).2 (V x 0) (getD_mem (by rw [(hg.box x hx).1]; omega))
    omega
  obtain ⟨r, hr', hlt⟩ := this
  have ho := rowsC_fit hg.box hg.d1 (by have := hg.d4; omega) hm hr'
  refine whr_one ((hr r).2 hr') ?_
  rw [agn_dot ho.len hfl]
  exact cmpI_one hlt

theorem rows_fit {d : Nat} {P : List (List Int)} (hg : Good d P) : ∀ P' : List (List Int), (∀ r, r ∈ P' ↔ r ∈ P) → RowsFit d (rowsC P' [] d P') := fun _ hm r hr => by
  have ho := rowsC_fit hg.box hg.d1 (by have := hg.d4; omega) hm hr
  exact ⟨ho.len, ho.bd⟩

end Go.Proofs.YtkfdpcgmpbopnaaGreatDoor
