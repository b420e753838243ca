import Derived.Test.YtknomkajibfmlaaGreatFk1
import Derived.Test.YtknomkajibfmlaaGreatOwn2
/- If just one sum comes to the goal, it tells whether there is a way (pure). -/
namespace Go.Proofs.YtknomkajibfmlaaGreat
open Lin

theorem norm_first {d : Nat} {m : List (List Int)} (hb : normB d m = true) : ∃ i, i < d ∧ 0 < V (normL d m) i := by
  have hl : (pickL d m).length + 1 = d := by simpa [normB] using hb
  obtain ⟨⟨p, hp, hne⟩, _, _⟩ := norm_spec hl
  have hlen := norm_len hb
  have hf := upr_first (low (muL d (pickL d m)))
  rw [show upr (low (muL d (pickL d m))) = normL d m from (if_pos hl).symm] at hf
  cases hq : (normL d m).find? (fun v => v != 0) with
  | none =>
    have := List.find?_eq_none.1 hq (V (normL d m) p) (getD_mem (by omega))
    simp at this
    exact absurd this hne
  | some z =>
    rw [hq] at hf
    have h1 := List.find?_some hq
    have h2 := List.mem_of_find?_eq_some hq
    obtain ⟨i, hi, he⟩ := List.getElem_of_mem h2
    refine ⟨i, by omega, ?_⟩
    have e : V (normL d m) i = z := by
      show (normL d m).getD i 0 = z
      simp [hi, he]
    rw [e]
    simp at h1 hf
    omega

theorem reach_one {rows : List (List Int)} {g : List Int} (hb : normB (rows.length + 1) (acrL g rows) = true) :
    waysL rows g ≠ [] ↔ 0 < V (wayN g rows) rows.length ∧ ∀ i, i < rows.length + 1 → 0 ≤ V (wayN g rows) i := by
  have hl : (pickL (rows.length + 1) (acrL g rows)).length + 1 = rows.length + 1 := by simpa [normB] using hb
  obtain ⟨_, h1, h2⟩ := norm_spec hl
  have hrep := rep_iff.1 h1
  unfold wayN
  constructor
  · intro hne
    rcases farkas g.length _ (rows.map V) rfl (V g) with ⟨s, a, hs, ha, he⟩ | ⟨c, k1, k2⟩
    · have hu := h2 (fun i => if i = rows.length then s else a i) (rep_iff.2 fun j hj => by
        simp only [if_true]
        rw [he j hj, sv_eq]
        unfold sm
        rw [List.length_map]
        refine sumN_congr fun i hi => ?_
        have e2 : (rows.map V).getD i (fun _ => 0) = V (rows.getD i []) := by simp [hi]
        rw [e2, if_neg (by omega)])
      obtain ⟨p, hp, hpp⟩ := norm_first hb
      have hnn : ∀ i, i < rows.length + 1 → 0 ≤ (if i = rows.length then s else a i) := fun i hi => by
        by_cases e : i = rows.length
        · rw [if_pos e]; omega
        · rw [if_neg e]; exact ha i (by rw [List.length_map]; omega)
      have hpn : 0 < V (normL (rows.length + 1) (acrL g rows)) rows.length := by
        have k := hu p rows.length hp (by omega)
        simp only [if_true] at k
        have k3 : 0 < s * V (normL (rows.length + 1) (acrL g rows)) p := Int.mul_pos hs hpp
        rw [← k] at k3
        have k4 := hnn p hp
        refine Classical.byContradiction fun hn => ?_
        have k5 : (if p = rows.length then s else a p) * V (normL (rows.length + 1) (acrL g rows)) rows.length ≤ 0 := Int.mul_nonpos_of_nonneg_of_nonpos k4 (by omega)
        omega
      refine ⟨hpn, fun i hi => ?_⟩
      have k := hu i rows.length hi (by omega)
      simp only [if_true] at k
      have k4 := Int.mul_nonneg (hnn i hi) (show 0 ≤ V (normL (rows.length + 1) (acrL g rows)) rows.length by omega)
      rw [k] at k4
      refine Classical.byContradiction fun hn => ?_
      have := Int.mul_neg_of_pos_of_neg hs (show V (normL (rows.length + 1) (acrL g rows)) i < 0 by omega)
      omega
    · exact absurd (ways_none.2 ⟨c, fun r hr => k1 _ (List.mem_map.2 ⟨r, hr, rfl⟩), k2⟩) hne
  · rintro ⟨hn, hall⟩ hnil
    obtain ⟨c, k1, k2⟩ := ways_none.1 hnil
    generalize V (normL (rows.length + 1) (acrL g rows)) = a at *
    have h3 : dot g.length c (sv rows a) = a rows.length * dot g.length c (V g) := by
      have : dot g.length c (sv rows a) = dot g.length c (fun j => a rows.length * V g j) := dot_congr (fun _ _ => rfl) hrep
      rw [this]
      unfold dot
      rw [← sumN_mul]
      exact sumN_congr fun i _ => by grind
    have h4 : dot g.length c (sv rows a) ≤ 0 := by
      have := dot_sm g.length c (rows.map V) a
      show dot g.length c (sm (rows.map V) a) ≤ 0
      rw [this, List.length_map]
      refine sumN_nonpos fun i hi => ?_
      have e2 : (rows.map V).getD i (fun _ => 0) = V (rows.getD i []) := by simp [hi]
      rw [e2]
      exact Int.mul_nonpos_of_nonneg_of_nonpos (hall i (by omega)) (k1 _ (by simp [hi]))
    have h5 := Int.mul_pos hn k2
    omega

/-- What the program says then. -/
theorem reach_said {rows : List (List Int)} {g : List Int} (hb : normB (rows.length + 1) (acrL g rows) = true) :
    (!(waysL rows g).isEmpty) = (decide (0 < (wayN g rows).getD rows.length 0) && (wayN g rows).all fun z => decide (0 ≤ z)) := by
  have hr := reach_one hb
  have hlen := norm_len hb
  rw [Bool.eq_iff_iff]
  simp only [Bool.not_eq_true', Bool.and_eq_true, decide_eq_true_eq, List.all_eq_true]
  have e : (waysL rows g).isEmpty = false ↔ waysL rows g ≠ [] := by
    cases waysL rows g <;> simp
  rw [e, hr]
  refine and_congr_right fun _ => ?_
  constructor
  · intro h z hz
    obtain ⟨i, hi, rfl⟩ := List.getElem_of_mem hz
    have h3 := h i (by unfold wayN at hi; omega)
    have h4 : V (wayN g rows) i = (wayN g rows)[i] := by
      show (wayN g rows).getD i 0 = _
      simp [hi]
    omega
  · intro h i hi
    exact h _ (getD_mem (by unfold wayN; omega))

end Go.Proofs.YtknomkajibfmlaaGreat

/- The program's kernel and normal of at most four rows with many columns. -/
namespace Go.Proofs.YtknomkajibfmlaaGreat
open Go.RowKit Lin
attribute [local go_sem ↓] Go.wp_at_zero Go.wp_at_succ

structure MxW (c : Nat) (m : List (List Int)) : Prop where
  row : ∀ r ∈ m, r.length = c
  bd : ∀ r ∈ m, ∀ z ∈ r, z.natAbs ≤ 60
  c20 : c ≤ 20
  c1 : 1 ≤ c
  m4 : m.length ≤ 4

theorem red_entryW {m : List (List Int)} {c q : Nat} {M' : Nat → Nat → Int} {C : Nat → Nat} {k : Nat} {sgn : Int} (hx : MxW c m) (h : Red (mOf m) m.length q M' C k sgn) : ∀ i, i < m.length → ∀ j, j < c → (M' i j).natAbs ≤ 60 := by
  intro i hi j hj
  obtain ⟨i', h1, h2⟩ := h.sub i hi
  rw [h2]
  unfold mOf
  have hm : m.getD i' [] ∈ m := by rw [List.getD_eq_getElem?_getD, List.getElem?_eq_getElem h1]; exact List.getElem_mem h1
  have hl := hx.row _ hm
  refine hx.bd _ hm _ ?_
  generalize m.getD i' [] = r at hl ⊢
  have hjr : j < r.length := by omega
  have e : r.getD j 0 = r[j] := by simp [hjr]
  rw [e]; exact List.getElem_mem hjr

theorem bdW {c : Nat} {m : List (List Int)} (hx : MxW c m) : Bd (mOf m) m.length c := by
  intro q M' C k sgn hq h i hi j hj
  have hent := red_entryW hx h
  have hm4 := hx.m4
  have hkn := h.done.kn
  have hCc : ∀ b, b < k + 1 → C b < c := fun b hb => Nat.lt_of_lt_of_le (h.done.rise.2 b hb) hq
  have h34 : fb 60 3 * (fb 60 4 + fb 60 5) ≤ 9223372036854775807 := by decide
  have h1 := rr_bd (B := 60) (n := m.length) (c := c) (k := k + 1) (i := i) (j := j) (M := M') (C := C) (by decide) hent hkn hCc hi hj
  have h2 := dk_bd (B := 60) (k := k) (M := M') (C := C) (fun i hi b hb => hent i (by omega) _ (hCc b (by omega)))
  have m1 : fb 60 (k + 1) ≤ fb 60 4 := fb_mono (by decide) (by omega)
  have m2 : fb 60 (k + 1 + 1) ≤ fb 60 5 := fb_mono (by decide) (by omega)
  have m3 : fb 60 k ≤ fb 60 3 := fb_mono (by decide) (by omega)
  have o3 := fb_one 60 (by decide) 3
  have hp : (dk M' C k * rr M' C (k + 1) i j).natAbs ≤ fb 60 3 * (fb 60 4 + fb 60 5) := by
    rw [Int.natAbs_mul]
    exact Nat.mul_le_mul (by omega) (by omega)
  have hq : (rr M' C (k + 1) i j).natAbs ≤ fb 60 3 * (fb 60 4 + fb 60 5) :=
    Nat.le_trans (show (rr M' C (k + 1) i j).natAbs ≤ 1 * (fb 60 4 + fb 60 5) by omega) (Nat.mul_le_mul_right _ o3)
  omega

theorem MxW.krg {c : Nat} {m : List (List Int)} (hx : MxW c m) : KrG c m := ⟨hx.row, hx.c20, hx.c1, .inr (Nat.le_trans hx.m4 (by decide)), bdW hx, fun h hk => val_of (K := 4) (by decide) (fun h => red_entryW hx h) (.inr hx.m4) (by decide) h hk⟩

theorem normalW_own (B c : Nat) (m : List (List Int)) (v : Value) (w : World) (hx : MxW c m) (hv : Mat B 38 3 w v m) (hm : m.length ≤ 500) (hm0 : 1 ≤ m.length) :
    Calls Tryz.prog 67 #[v, .int .i64 c] w fun e w' => ∃ x, e = .returned (.tuple #[x, .bool (normB c m)]) ∧ w'.ownsRow w.heap.size 3 1 x (normL c m).length (ints (normL c m)) ∧ Below w.heap.size w w' :=
  normalG_own B c m v w hx.krg hv hm hm0

end Go.Proofs.YtknomkajibfmlaaGreat
