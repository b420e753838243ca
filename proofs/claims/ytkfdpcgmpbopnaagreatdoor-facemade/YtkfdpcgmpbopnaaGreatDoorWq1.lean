/- Rows that turn about a flat of one point less than a row needs (pure). -/
import Derived.Test.YtkfdpcgmpbopnaaGreatDoorWq0
import Derived.Test.YtkfdpcgmpbopnaaGreatDoorGc1
import Derived.Test.YtkfdpcgmpbopnaaGreatDoorBet3
namespace Go.Proofs.YtkfdpcgmpbopnaaGreatDoor
open Lin

/-- How two directions across a flat through x see y. -/
def senP (d : Nat) (u v x y : List Int) : Int × Int := (dot d (V u) (V y) - dot d (V u) (V x), dot d (V v) (V y) - dot d (V v) (V x))
/-- The direction beyond which lies what is to the left of e. -/
def rwE (u v : List Int) (e : Int × Int) : Nat → Int := fun i => trn (V u i, V v i) e
def rwA (d : Nat) (u v : List Int) (e : Int × Int) : List Int := low ((List.range d).map (rwE u v e))
def rowE (d : Nat) (u v x : List Int) (e : Int × Int) : List Int := rwA d u v e ++ [dotL (rwA d u v e) x]

theorem rw_dot (d : Nat) (u v : List Int) (e : Int × Int) (z : Nat → Int) : dot d (rwE u v e) z = trn (dot d (V u) z, dot d (V v) z) e := by
  have : dot d (rwE u v e) z = dot d (fun k => e.1 * V v k + (-e.2) * V u k) z := dot_congr (fun i _ => by unfold rwE trn; grind) (fun _ _ => rfl)
  rw [this, dot_lc]
  unfold trn
  grind

theorem rw_sen (d : Nat) (u v : List Int) (e : Int × Int) (x y : List Int) : dot d (rwE u v e) (V y) - dot d (rwE u v e) (V x) = trn (senP d u v x y) e := by
  rw [rw_dot, rw_dot]
  unfold senP trn
  grind

/-- Two directions that are across the flat, and all that are. -/
structure Bas (d : Nat) (t : List (List Int)) (x u v : List Int) : Prop where
  ou : ∀ y ∈ t, dot d (V u) (V y) = dot d (V u) (V x)
  ov : ∀ y ∈ t, dot d (V v) (V y) = dot d (V v) (V x)
  ind : ∀ a b : Int, (∀ i, i < d → a * V u i + b * V v i = 0) → a = 0 ∧ b = 0
  spn : ∀ w : Nat → Int, (∀ y ∈ t, dot d w (V y) = dot d w (V x)) → ∃ r a b : Int, r ≠ 0 ∧ ∀ i, i < d → r * w i = a * V u i + b * V v i

theorem Bas.sen {d : Nat} {t : List (List Int)} {x u v : List Int} (h : Bas d t x u v) {y : List Int} (hy : y ∈ t) : senP d u v x y = (0, 0) := by
  unfold senP
  rw [h.ou y hy, h.ov y hy]
  simp

theorem dot_comb {d : Nat} {u v : List Int} {w : Nat → Int} {r a b : Int} (h : ∀ i, i < d → r * w i = a * V u i + b * V v i) (z : Nat → Int) : r * dot d w z = a * dot d (V u) z + b * dot d (V v) z := by
  rw [← dot_lc]
  unfold dot
  rw [← sumN_mul]
  exact sumN_congr fun i hi => by rw [← Int.mul_assoc, h i hi]

/-- a u + b v is one and the same at y and x just if a, b are across what is seen of y. -/
theorem comb_sen {d : Nat} {u v x : List Int} {w : Nat → Int} {r a b : Int} (h : ∀ i, i < d → r * w i = a * V u i + b * V v i) (y : List Int) : r * (dot d w (V y) - dot d w (V x)) = a * (senP d u v x y).1 + b * (senP d u v x y).2 := by
  have h1 := dot_comb h (V y)
  have h2 := dot_comb h (V x)
  unfold senP
  grind

theorem low_atW (l : List Int) (i : Nat) : (gc l : Int) * (low l).getD i 0 = l.getD i 0 := by
  have h := low_mul l
  have h2 := congrArg (fun m : List Int => m.getD i 0) h
  simp only [List.getD_eq_getElem?_getD, List.getElem?_map] at h2
  simp only [List.getD_eq_getElem?_getD]
  cases hz : (low l)[i]? with
  | none => rw [hz] at h2; simpa using h2
  | some z => rw [hz] at h2; simpa using h2

theorem prim_low {d : Nat} {c : Nat → Int} {q : List Int} {s t : Int} (hq : q.length = d) (hg : gc q = 1) (hs : 0 < s) (ht : 0 < t) (h : ∀ i, i < d → s * c i = t * V q i) (hc : ∃ i, i < d ∧ c i ≠ 0) : low ((List.range d).map c) = q := by
  obtain ⟨L, hL⟩ : ∃ L, L = (List.range d).map c := ⟨_, rfl⟩
  have hLl : L.length = d := by rw [hL]; simp
  have hLi : ∀ i, i < d → L.getD i 0 = c i := fun i hi => by rw [hL]; simp [hi]
  rw [← hL]
  have hlow := low_mul L
  have hG : gc L ≠ 0 := fun e => by
    obtain ⟨i, hi, hne⟩ := hc
    have hm : c i ∈ L := by rw [← hLi i hi]; exact getD_mem (by omega)
    have hd := gc_dvd hm
    rw [e] at hd
    simp at hd
    exact hne hd
  have hlg : gc (low L) = 1 := by
    have := congrArg gc hlow
    rw [gc_scale, Int.natAbs_natCast] at this
    have hp : 0 < gc L := Nat.pos_of_ne_zero hG
    have h2 : gc L * gc (low L) = gc L * 1 := by rw [Nat.mul_one]; exact this
    exact Nat.eq_of_mul_eq_mul_left hp h2
  have hcross : (low L).map ((s * (gc L : Int)) * ·) = q.map (t * ·) := by
    refine List.ext_getElem (by rw [List.length_map, List.length_map, low_len, hLl, hq]) fun i h1 h2 => ?_
    rw [List.getElem_map, List.getElem_map]
    have hi : i < d := by rw [List.length_map, hq] at h2; exact h2
    have e1 : (gc L : Int) * (low L)[i]'(by rw [low_len, hLl]; exact hi) = L[i]'(by omega) := by
      have := congrArg (fun m : List Int => m[i]?) hlow
      simp only [List.getElem?_map, List.getElem?_eq_getElem (show i < (low L).length by rw [low_len, hLl]; exact hi), List.getElem?_eq_getElem (show i < L.length by omega), Option.map_some, Option.some.injEq] at this
      exact this
    have e2 : L[i]'(by omega) = c i := by rw [← hLi i hi]; simp [show i < L.length by omega]
    have e3 : q[i]'(by omega) = V q i := by simp [V, show i < q.length by omega]
    rw [Int.mul_assoc, e1, e2, e3]
    exact h i hi
  have hsg : s * (gc L : Int) ≠ 0 := Int.mul_ne_zero (by omega) (by omega)
  rcases prim_eq hlg hg hsg (by omega) hcross with e | e
  · exact e
  · exfalso
    obtain ⟨i, hi, hne⟩ := hc
    have e0 := low_atW L i
    rw [e] at e0
    have e1 : (q.map fun z => -z).getD i 0 = - V q i := by
      unfold V
      simp only [List.getD_eq_getElem?_getD, List.getElem?_map]
      cases q[i]? <;> simp
    rw [e1, hLi i hi] at e0
    have e2 := h i hi
    rw [← e0] at e2
    have hgp : 0 < (gc L : Int) := by omega
    have e3 : (s * (gc L : Int) + t) * V q i = 0 := by grind
    rcases Int.mul_eq_zero.1 e3 with h0 | h0
    · have := Int.mul_pos hs hgp; omega
    · rw [h0] at e0
      simp at e0
      exact hne e0.symm

/-- A direction beyond which no point lies, and that meets so many that no other is left, is a row. -/
theorem wr_row {d : Nat} {P : List (List Int)} (hg : Good d P) {x : List Int} (hx : x ∈ P) {c : Nat → Int} (hc : ∃ i, i < d ∧ c i ≠ 0) (hmax : ∀ y ∈ P, dot d c (V y) ≤ dot d c (V x))
    (hone : ∀ u : Nat → Int, (∀ y ∈ P, dot d c (V y) = dot d c (V x) → dot d u (V y) = dot d u (V x)) → Par d u c) : low ((List.range d).map c) ++ [dotL (low ((List.range d).map c)) x] ∈ rowsC P [] d P := by
  obtain ⟨r, hr, hrx, s, t, hs, ht, hst⟩ := side_some hg.box (good_span hg) hx hc hmax hone
  obtain ⟨T, hTs, hTl, hrT⟩ := mem_rowsC.1 hr
  obtain ⟨σ, hσ, hnb, hre⟩ := rowT_form hTl hrT
  have hl : (pickL d (diffL T)).length + 1 = d := of_decide_eq_true hnb
  have hal := norm_len hnb
  have hgn := norm_gc hl
  have hrl : r.length = d + 1 := (rowsC_fit hg.box hg.d1 (by have := hg.d4; omega) (fun _ => Iff.rfl) hr).len
  have hq : (r.take d).length = d := by rw [List.length_take]; omega
  have hqe : r.take d = (normL d (diffL T)).map (σ * ·) := by
    rw [hre, List.map_append, List.take_left' (by rw [List.length_map, hal])]
  have hqg : gc (r.take d) = 1 := by
    rw [hqe, gc_scale, hgn]
    rcases hσ with rfl | rfl <;> rfl
  have hlow := prim_low (c := c) (q := r.take d) hq hqg hs ht (fun i hi => by rw [hst i hi, V_take hi]) hc
  rw [hlow]
  have hlast : dotL (r.take d) x = r.getD d 0 := by
    rw [dotL_eq hq, hrx]
    exact dot_congr (fun i hi => V_take hi) (fun _ _ => rfl)
  have : r.take d ++ [dotL (r.take d) x] = r := by
    rw [hlast]
    have h1 := List.take_succ_eq_append_getElem (l := r) (i := d) (by omega)
    rw [List.take_of_length_le (by omega)] at h1
    rw [show r.getD d 0 = r[d] by simp [show d < r.length by omega]]
    exact h1.symm
  rw [this]
  exact hr

/-- What is found is a row. -/
theorem wr_sound {d : Nat} {P t : List (List Int)} (hg : Good d P) {x u v : List Int} (hxP : x ∈ P) (htP : ∀ y ∈ t, y ∈ P) (hB : Bas d t x u v) {e : Int × Int} (he : e ≠ (0, 0)) (hz : ∃ z ∈ P, senP d u v x z ≠ (0, 0) ∧ trn (senP d u v x z) e = 0)
    (hv : ∀ y ∈ P, trn (senP d u v x y) e ≤ 0) : rowE d u v x e ∈ rowsC P [] d P := by
  refine wr_row hg hxP (c := rwE u v e) ?_ (fun y hy => ?_) (fun w hw => ?_)
  · refine Classical.byContradiction fun hn => ?_
    have := hB.ind (-e.2) e.1 fun i hi => by
      have : rwE u v e i = 0 := Classical.byContradiction fun h => hn ⟨i, hi, h⟩
      unfold rwE trn at this
      simp only at this
      grind
    exact he (by
      obtain ⟨a, b⟩ := e
      simp at this
      simp; omega)
  · have := rw_sen d u v e x y
    have := hv y hy
    omega
  · obtain ⟨r, a, b, hr0, hrw⟩ := hB.spn w fun y hy => hw y (htP y hy) (by
      have h1 := rw_sen d u v e x y
      rw [hB.sen hy] at h1
      unfold trn at h1
      simp at h1
      omega)
    obtain ⟨z, hzP, hz0, hzt⟩ := hz
    have h1 := comb_sen (x := x) hrw z
    rw [hw z hzP (by have := rw_sen d u v e x z; omega), Int.sub_self, Int.mul_zero] at h1
    obtain ⟨s0, s1⟩ : Int × Int := senP d u v x z
    generalize hs : senP d u v x z = s at *
    obtain ⟨s0, s1⟩ := s
    obtain ⟨e0, e1⟩ := e
    unfold trn at hzt
    simp only at h1 hzt
    have hab : a * e0 + b * e1 = 0 := by
      have k0 : s0 * (a * e0 + b * e1) = 0 := by grind
      have k1 : s1 * (a * e0 + b * e1) = 0 := by grind
      rcases Int.mul_eq_zero.1 k0 with h | h
      · rcases Int.mul_eq_zero.1 k1 with h' | h'
        · exact absurd (by rw [h, h']) hz0
        · exact h'
      · exact h
    intro i j hi hj
    have p1 := hrw i hi
    have p2 := hrw j hj
    have key : r * (w i * rwE u v (e0, e1) j - w j * rwE u v (e0, e1) i) = 0 := by
      have : r * (w i * rwE u v (e0, e1) j - w j * rwE u v (e0, e1) i) = (a * V u i + b * V v i) * rwE u v (e0, e1) j - (a * V u j + b * V v j) * rwE u v (e0, e1) i := by
        rw [← p1, ← p2]; grind
      rw [this]
      unfold rwE trn
      simp only
      have e3 : (a * V u i + b * V v i) * (e0 * V v j - e1 * V u j) - (a * V u j + b * V v j) * (e0 * V v i - e1 * V u i) = (a * e0 + b * e1) * (V u i * V v j - V u j * V v i) := by grind
      rw [e3, hab, Int.zero_mul]
    rcases Int.mul_eq_zero.1 key with h | h
    · exact absurd h hr0
    · omega

end Go.Proofs.YtkfdpcgmpbopnaaGreatDoor
