/- The least of the ways: what is held between the rounds. -/
import Derived.Test.YtdmkmljhljoojaaMgAN
namespace Go.Proofs.Ytdmkmljhljoojaa
open Go.RowKit Lin

def mW (rows : List (List Int)) (g y : List Int) : List Int := (wayN g (pks rows [] y)).take y.length
def uW (rows : List (List Int)) (g y : List Int) : Int := (wayN g (pks rows [] y)).getD y.length 0

/-- A way is one. -/
theorem way_mem {rows : List (List Int)} {g y : List Int} (h : y ∈ waysL rows g) : wayB g (pks rows [] y) = true ∧ y.length ≤ g.length ∧ (∀ z ∈ y, 0 ≤ z ∧ z < (rows.length : Int)) ∧ ∀ i j, i < j → j < y.length → y.getD i 0 < y.getD j 0 := by
  simp only [waysL, waysTo, List.mem_flatMap, List.mem_range, List.mem_filter] at h
  obtain ⟨m, hm, hm2, hw⟩ := h
  obtain ⟨h1, h2, h3⟩ := ext_rise hm2
  refine ⟨hw, by omega, fun z hz => ?_, fun i j hij hj => h3 i j hij (by omega)⟩
  obtain ⟨i, hi, rfl⟩ := List.mem_iff_getElem.1 hz
  have := h2 i (by omega)
  rw [List.getD_eq_getElem?_getD, List.getElem?_eq_getElem hi] at this
  simp only [Option.getD_some] at this
  omega

theorem acr20 {rows : List (List Int)} {g y : List Int} (h : ∀ i ∈ y, ∀ z ∈ rows.getD i.toNat [], z.natAbs ≤ 20) (hg : ∀ z ∈ g, z.natAbs ≤ 20) : ∀ r ∈ acrL g (pks rows [] y), ∀ z ∈ r, z.natAbs ≤ 20 := fun r hr z hz => by
  simp only [acrL, List.mem_map] at hr
  obtain ⟨i, _, rfl⟩ := hr
  simp only [acrR, List.mem_append, List.mem_map, List.mem_singleton] at hz
  rcases hz with ⟨r, h1, rfl⟩ | rfl
  · simp only [pks, List.mem_map] at h1
    obtain ⟨q, hq, rfl⟩ := h1
    by_cases e : i < (rows.getD q.toNat []).length
    · exact h q hq _ (getD_mem e)
    · simp only [List.getD_eq_getElem?_getD] at e ⊢
      rw [List.getElem?_eq_none (Nat.le_of_not_lt e)]; simp
  · by_cases e : i < g.length
    · have := hg _ (getD_mem e)
      omega
    · simp [List.getElem?_eq_none (Nat.le_of_not_lt e)]

theorem way_ok {d : Nat} {rows : List (List Int)} {g y : List Int} (hc : CutF d rows) (hg : g.length = d) (hgb : ∀ z ∈ g, z.natAbs ≤ 20) (h : y ∈ waysL rows g) : WyOk rows y (mW rows g y) (uW rows g y) := by
  obtain ⟨hw, hl, hm, _⟩ := way_mem h
  have h3 := hc.d4
  have hpl : (pks rows [] y).length = y.length := by simp [pks]
  have hmx : ∀ r ∈ acrL g (pks rows [] y), ∀ z ∈ r, z.natAbs ≤ 20 := acr20 (fun i hi => by
    have := hm i hi
    exact hc.bd _ (getD_memR (by omega))) hgb
  have hbd : ∀ z ∈ wayN g (pks rows [] y), z.natAbs ≤ 3840000 := fun z hz => by
    unfold wayN at hz
    rw [hpl] at hz
    have h1 := norm_bdG hmx z hz
    have h2 : Lin.fb 20 (y.length + 1 - 1) ≤ Lin.fb 20 4 := fb_mono (by decide) (by omega)
    have h3 : Lin.fb 20 4 = 3840000 := by decide
    omega
  have hlen := (way_nums hw).1
  rw [hpl] at hlen
  exact ⟨by unfold mW; rw [List.length_take, hlen]; omega, by omega, hm, fun z hz => hbd z (List.mem_of_mem_take hz), hbd _ (getD_mem (by rw [hlen]; omega))⟩

theorem uW_pos {rows : List (List Int)} {g y : List Int} (h : y ∈ waysL rows g) : 0 < uW rows g y := by
  have := wU_pos (way_mem h).1
  unfold wU V at this
  unfold uW
  have hpl : (pks rows [] y).length = y.length := by simp [pks]
  rw [hpl] at this
  exact this

theorem snocInd {α : Type} {p : List α → Prop} (nil : p []) (append_singleton : ∀ l x, p l → p (l ++ [x])) (l : List α) : p l := by
  have h : ∀ m : List α, p m.reverse := fun m => by
    induction m with
    | nil => exact nil
    | cons x m ih => rw [List.reverse_cons]; exact append_singleton _ _ ih
  have := h l.reverse
  rwa [List.reverse_reverse] at this

/-- The first of the least. -/
def lwS (d : Nat) (rows : List (List Int)) (g : List Int) : Option (List Int) → List Int → Option (List Int)
  | none, y => some y
  | some z, y => if sdL rows d y (mW rows g y) * uW rows g z < sdL rows d z (mW rows g z) * uW rows g y then some y else some z
def lwO (d : Nat) (rows : List (List Int)) (g : List Int) (cs : List (List Int)) : Option (List Int) := cs.foldl (lwS d rows g) none

theorem lwO_snoc {d : Nat} {rows : List (List Int)} {g : List Int} {cs : List (List Int)} {y : List Int} : lwO d rows g (cs ++ [y]) = lwS d rows g (lwO d rows g cs) y := by simp [lwO, List.foldl_append]

theorem lwO_mem {d : Nat} {rows : List (List Int)} {g : List Int} : ∀ {cs : List (List Int)} {y : List Int}, lwO d rows g cs = some y → y ∈ cs := by
  intro cs
  induction cs using snocInd with
  | nil => intro y h; simp [lwO] at h
  | append_singleton cs x ih =>
    intro y h
    rw [lwO_snoc] at h
    cases hz : lwO d rows g cs with
    | none => rw [hz] at h; simp only [lwS, Option.some.injEq] at h; simp [h]
    | some z =>
      rw [hz] at h
      simp only [lwS] at h
      split at h
      · simp only [Option.some.injEq] at h; simp [h]
      · simp only [Option.some.injEq] at h; subst h; exact List.mem_append_left _ (ih hz)

theorem lwO_none {d : Nat} {rows : List (List Int)} {g : List Int} {cs : List (List Int)} : lwO d rows g cs = none ↔ cs = [] := by
  constructor
  · induction cs using snocInd with
    | nil => intro _; rfl
    | append_singleton cs x ih =>
      intro h
      rw [lwO_snoc] at h
      cases hz : lwO d rows g cs with
      | none => rw [hz] at h; simp [lwS] at h
      | some z => rw [hz] at h; simp only [lwS] at h; split at h <;> simp at h
  · rintro rfl; rfl

/-- The way that is held is one of those seen, and none seen says less. -/
theorem lwO_least {d : Nat} {rows : List (List Int)} {g : List Int} : ∀ {cs : List (List Int)} {y : List Int}, (∀ x ∈ cs, 0 < uW rows g x) → lwO d rows g cs = some y → ∀ x ∈ cs, sdL rows d y (mW rows g y) * uW rows g x ≤ sdL rows d x (mW rows g x) * uW rows g y := by
  intro cs
  induction cs using snocInd with
  | nil => intro y _ h; simp [lwO] at h
  | append_singleton cs x ih =>
    intro y hp h x' hx'
    have hpc : ∀ x ∈ cs, 0 < uW rows g x := fun x hx => hp x (List.mem_append_left _ hx)
    have hpx : 0 < uW rows g x := hp x (by simp)
    rw [lwO_snoc] at h
    cases hz : lwO d rows g cs with
    | none =>
      rw [hz] at h
      have hn := lwO_none.1 hz
      subst hn
      simp only [lwS, Option.some.injEq] at h
      simp only [List.nil_append, List.mem_singleton] at hx'
      subst hx' h
      exact Int.le_refl _
    | some z =>
      rw [hz] at h
      have hih := ih hpc hz
      have hpz := hpc z (lwO_mem hz)
      simp only [lwS] at h
      rcases List.mem_append.1 hx' with hx' | hx'
      · have h1 := hih x' hx'
        have hpx' := hpc x' hx'
        split at h
        · rename_i hlt
          simp only [Option.some.injEq] at h
          subst h
          generalize sdL rows d z (mW rows g z) = sz at *
          generalize uW rows g z = uz at *
          generalize sdL rows d x' (mW rows g x') = a at *
          generalize uW rows g x' = ua at *
          generalize sdL rows d x (mW rows g x) = b at *
          generalize uW rows g x = ub at *
          -- b / ub < sz / uz ≤ a / ua
          have e1 : b * uz * ua ≤ sz * ub * ua := Int.mul_le_mul_of_nonneg_right (Int.le_of_lt hlt) (Int.le_of_lt hpx')
          have e2 : sz * ua * ub ≤ a * uz * ub := Int.mul_le_mul_of_nonneg_right h1 (Int.le_of_lt hpx)
          have e3 : b * ua * uz ≤ a * ub * uz := by
            rw [Int.mul_right_comm b ua uz, Int.mul_right_comm a ub uz]
            refine Int.le_trans e1 ?_
            rw [Int.mul_right_comm sz ub ua]
            exact e2
          exact Int.le_of_mul_le_mul_right e3 hpz
        · simp only [Option.some.injEq] at h
          subst h
          exact h1
      · simp only [List.mem_singleton] at hx'
        subst hx'
        split at h
        · simp only [Option.some.injEq] at h
          subst h
          exact Int.le_refl _
        · rename_i hlt
          simp only [Option.some.injEq] at h
          subst h
          omega

end Go.Proofs.Ytdmkmljhljoojaa
