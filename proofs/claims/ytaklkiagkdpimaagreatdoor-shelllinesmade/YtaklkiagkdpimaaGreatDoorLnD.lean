import Derived.Test.YtaklkiagkdpimaaGreatDoorGZ
import Derived.Test.YtaklkiagkdpimaaGreatDoorOrdB
import Derived.Shelf.SlSortCmp.NoneTotal
import Derived.Shelf.SlGeneric
import Derived.Ground.SlsfProg
/- Sides by their heights: the program's order and the document's. -/
namespace Go.Proofs.YtaklkiagkdpimaaGreatDoor
open Go.RowKit Lin

/-- A side: its corners, and its height: one number over another one above 0. -/
abbrev Sde := Nat × Int × Int

/-- Lower than. -/
def hlo (a b : Sde) : Prop := a.2.1 * b.2.2 < b.2.1 * a.2.2

/-- As high as. -/
def heq (a b : Sde) : Prop := a.2.1 * b.2.2 = b.2.1 * a.2.2

instance (a b : Sde) : Decidable (hlo a b) := by unfold hlo; infer_instance
instance (a b : Sde) : Decidable (heq a b) := by unfold heq; infer_instance

theorem heq.symm {a b : Sde} (h : heq a b) : heq b a := by unfold heq at *; omega

theorem hlo_irrefl (a : Sde) : ¬ hlo a a := by unfold hlo; omega

theorem hlo_tri (a b : Sde) : hlo a b ∨ heq a b ∨ hlo b a := by unfold hlo heq; omega

theorem hlo_not_heq {a b : Sde} (h : hlo a b) : ¬ heq a b := by unfold hlo heq at *; omega

theorem hq_lt {a b c d e f : Int} (hb : 0 < b) (hd : 0 < d) (hf : 0 < f) (h1 : a * d < c * b) (h2 : c * f < e * d) : a * f < e * b := by
  have p1 : a * d * f < c * b * f := Int.mul_lt_mul_of_pos_right h1 hf
  have p2 : c * f * b < e * d * b := Int.mul_lt_mul_of_pos_right h2 hb
  have e1 : a * d * f = a * f * d := by rw [Int.mul_assoc, Int.mul_comm d f, ← Int.mul_assoc]
  have e2 : c * b * f = c * f * b := by rw [Int.mul_assoc, Int.mul_comm b f, ← Int.mul_assoc]
  have e3 : e * d * b = e * b * d := by rw [Int.mul_assoc, Int.mul_comm d b, ← Int.mul_assoc]
  have : a * f * d < e * b * d := by omega
  exact Int.lt_of_mul_lt_mul_right this (by omega)

theorem hq_le {a b c d e f : Int} (hb : 0 < b) (hd : 0 < d) (hf : 0 < f) (h1 : a * d ≤ c * b) (h2 : c * f ≤ e * d) : a * f ≤ e * b := by
  have p1 : a * d * f ≤ c * b * f := Int.mul_le_mul_of_nonneg_right h1 (by omega)
  have p2 : c * f * b ≤ e * d * b := Int.mul_le_mul_of_nonneg_right h2 (by omega)
  have e1 : a * d * f = a * f * d := by rw [Int.mul_assoc, Int.mul_comm d f, ← Int.mul_assoc]
  have e2 : c * b * f = c * f * b := by rw [Int.mul_assoc, Int.mul_comm b f, ← Int.mul_assoc]
  have e3 : e * d * b = e * b * d := by rw [Int.mul_assoc, Int.mul_comm d b, ← Int.mul_assoc]
  have : a * f * d ≤ e * b * d := by omega
  exact Int.le_of_mul_le_mul_right this hd

theorem hlo_trans {a b c : Sde} (ha : 0 < a.2.2) (hb : 0 < b.2.2) (hc : 0 < c.2.2) (h1 : hlo a b) (h2 : hlo b c) : hlo a c := hq_lt ha hb hc h1 h2

/-- Sides from the highest one down. -/
def Fall (m : List Sde) : Prop := m.Pairwise fun a b => hlo b a

/-- Sides of which no two are as high. -/
def Apt (m : List Sde) : Prop := m.Pairwise fun a b => ¬ heq a b

theorem Fall.apt {m : List Sde} (h : Fall m) : Apt m := by
  unfold Apt
  exact List.Pairwise.imp (S := fun a b => ¬ heq a b) (fun hab (e : heq _ _) => hlo_not_heq hab e.symm) h

theorem Apt.perm {m m' : List Sde} (h : Apt m) (hp : m'.Perm m) : Apt m' :=
  (hp.pairwise_iff (R := fun a b => ¬ heq a b) (fun hab e => hab e.symm)).2 h

theorem not_apt {m : List Sde} {i j : Nat} (hij : i < j) (hj : j < m.length) (h : heq (m.getD i (0, 0, 1)) (m.getD j (0, 0, 1))) : ¬ Apt m := fun hA => by
  have e1 : m.getD i (0, 0, 1) = m[i]'(by omega) := by simp [show i < m.length by omega]
  have e2 : m.getD j (0, 0, 1) = m[j] := by simp [hj]
  rw [e1, e2] at h
  exact List.pairwise_iff_getElem.1 hA i j (by omega) hj hij h

/-- Two such orders of the same sides are one. -/
theorem fall_same : ∀ {m m' : List Sde}, Fall m → Fall m' → m.Perm m' → m = m'
  | [], m', _, _, hp => (List.Perm.nil_eq hp)
  | a :: m, m', h1, h2, hp => by
    cases m' with
    | nil => exact absurd hp.length_eq (by simp)
    | cons b m' =>
      have e : a = b := by
        have ha : a ∈ b :: m' := hp.mem_iff.1 (by simp)
        have hb : b ∈ a :: m := hp.mem_iff.2 (by simp)
        rcases List.mem_cons.1 ha with h | h
        · exact h
        · rcases List.mem_cons.1 hb with k | k
          · exact k.symm
          · have q1 := (List.pairwise_cons.1 h2).1 a h
            have q2 := (List.pairwise_cons.1 h1).1 b k
            unfold hlo at q1 q2
            omega
      subst e
      rw [fall_same (List.pairwise_cons.1 h1).2 (List.pairwise_cons.1 h2).2 (hp.cons_inv)]

/-- What the document has taken so far. -/
structure TknI (m : List Sde) (ps : List Nat) : Prop where
  nod : ps.Nodup
  lt : ∀ p ∈ ps, p < m.length
  fall : Fall (ps.map fun p => m.getD p (0, 0, 1))
  low : ∀ j, j < m.length → j ∉ ps → ∀ p ∈ ps, hlo (m.getD j (0, 0, 1)) (m.getD p (0, 0, 1))

theorem TknI.nil (m : List Sde) : TknI m [] := ⟨List.nodup_nil, by simp, List.Pairwise.nil, by simp⟩

/-- The best of the first i that are not taken. -/
def BstI (m : List Sde) (ps : List Nat) (i : Nat) (b : Int) : Prop :=
  (b = -1 ∧ ∀ j, j < i → j ∈ ps) ∨ ∃ k : Nat, b = k ∧ k < i ∧ k ∉ ps ∧ ∀ j, j < i → j ∉ ps → j ≠ k → hlo (m.getD j (0, 0, 1)) (m.getD k (0, 0, 1))

theorem BstI.none (m : List Sde) (ps : List Nat) : BstI m ps 0 (-1) := Or.inl ⟨rfl, fun j h => absurd h (by omega)⟩

theorem BstI.used {m : List Sde} {ps : List Nat} {i : Nat} {b : Int} (h : BstI m ps i b) (hi : i ∈ ps) : BstI m ps (i + 1) b := by
  rcases h with ⟨rfl, h⟩ | ⟨k, rfl, h1, h2, h3⟩
  · refine Or.inl ⟨rfl, fun j hj => ?_⟩
    by_cases e : j = i
    · rw [e]; exact hi
    · exact h j (by omega)
  · refine Or.inr ⟨k, rfl, by omega, h2, fun j hj hn hk => ?_⟩
    by_cases e : j = i
    · rw [e] at hn; exact absurd hi hn
    · exact h3 j (by omega) hn hk

theorem BstI.first {m : List Sde} {ps : List Nat} {i : Nat} (h : BstI m ps i (-1)) (hi : i ∉ ps) : BstI m ps (i + 1) i := by
  rcases h with ⟨_, h⟩ | ⟨k, h0, _⟩
  · refine Or.inr ⟨i, rfl, by omega, hi, fun j hj hn hk => ?_⟩
    exact absurd (h j (by omega)) hn
  · omega

theorem BstI.less {m : List Sde} {ps : List Nat} {i k : Nat} (h : BstI m ps i k) (hl : hlo (m.getD i (0, 0, 1)) (m.getD k (0, 0, 1))) : BstI m ps (i + 1) k := by
  rcases h with ⟨h, _⟩ | ⟨k', h0, h1, h2, h3⟩
  · omega
  · have e : k = k' := by omega
    subst e
    refine Or.inr ⟨k, rfl, by omega, h2, fun j hj hn hk => ?_⟩
    by_cases e : j = i
    · rw [e]; exact hl
    · exact h3 j (by omega) hn hk

theorem BstI.more {m : List Sde} {ps : List Nat} {i k : Nat} (h : BstI m ps i k) (hi : i ∉ ps) (him : i < m.length) (hp : ∀ a ∈ m, 0 < a.2.2) (hl : hlo (m.getD k (0, 0, 1)) (m.getD i (0, 0, 1))) : BstI m ps (i + 1) i := by
  rcases h with ⟨h, _⟩ | ⟨k', h0, h1, h2, h3⟩
  · omega
  · have e : k = k' := by omega
    subst e
    have hg : ∀ j, j < m.length → 0 < (m.getD j (0, 0, 1)).2.2 := fun j hj => hp _ (by simp [hj])
    refine Or.inr ⟨i, rfl, by omega, hi, fun j hj hn hk => ?_⟩
    by_cases e : j = k
    · rw [e]; exact hl
    · exact hlo_trans (hg j (by omega)) (hg k (by omega)) (hg i him) (h3 j (by omega) hn e) hl

theorem BstI.idx {m : List Sde} {ps : List Nat} {i : Nat} {b : Int} (h : BstI m ps i b) (hb : 0 ≤ b) : ∃ k : Nat, b = k ∧ k < i ∧ k ∉ ps := by
  rcases h with ⟨h, _⟩ | ⟨k, h0, h1, h2, _⟩
  · omega
  · exact ⟨k, h0, h1, h2⟩

theorem BstI.take {m : List Sde} {ps : List Nat} {b : Int} (h : BstI m ps m.length b) (ht : TknI m ps) (hl : ps.length < m.length) : ∃ k : Nat, b = k ∧ k < m.length ∧ k ∉ ps ∧ TknI m (ps ++ [k]) := by
  rcases h with ⟨_, h⟩ | ⟨k, rfl, h1, h2, h3⟩
  · exfalso
    have := nodup_len (List.range m.length) ps List.nodup_range fun x hx => h x (List.mem_range.1 hx)
    rw [List.length_range] at this
    omega
  · refine ⟨k, rfl, h1, h2, ⟨?_, ?_, ?_, ?_⟩⟩
    · rw [List.nodup_append]
      exact ⟨ht.nod, by simp, fun a ha b hb => by simp at hb; subst hb; exact fun e => h2 (e ▸ ha)⟩
    · intro p hp
      rcases List.mem_append.1 hp with hp | hp
      · exact ht.lt p hp
      · simp at hp; omega
    · unfold Fall
      rw [List.map_append, List.pairwise_append]
      refine ⟨ht.fall, List.pairwise_singleton _ _, fun a ha b hb => ?_⟩
      simp at hb
      subst hb
      obtain ⟨p, hp, rfl⟩ := List.mem_map.1 ha
      have := ht.low k h1 h2 p hp
      simpa [List.getD_eq_getElem?_getD] using this
    · intro j hj hn p hp
      have hn1 : j ∉ ps := fun q => hn (by simp [q])
      have hn2 : j ≠ k := fun q => hn (by simp [q])
      rcases List.mem_append.1 hp with hp | hp
      · exact ht.low j hj hn1 p hp
      · simp at hp
        subst hp
        exact h3 j hj hn1 hn2

theorem TknI.all {m : List Sde} {ps : List Nat} (h : TknI m ps) (hl : ps.length = m.length) : (ps.map fun p => m.getD p (0, 0, 1)).Perm m := by
  have hp : ps.Perm (List.range m.length) := by
    refine (List.perm_ext_iff_of_nodup h.nod List.nodup_range).2 fun a => ⟨fun ha => List.mem_range.2 (h.lt a ha), fun ha => ?_⟩
    refine Classical.byContradiction fun hn => ?_
    have := nodup_len (a :: ps) (List.range m.length) (List.nodup_cons.2 ⟨hn, h.nod⟩) fun x hx => by
      rcases List.mem_cons.1 hx with rfl | hx
      · exact ha
      · exact List.mem_range.2 (h.lt x hx)
    simp at this
    omega
  have h2 := hp.map fun p => m.getD p (0, 0, 1)
  have e : (List.range m.length).map (fun p => m.getD p (0, 0, 1)) = m := by
    apply List.ext_getElem (by simp)
    intro i _ h2
    simp [h2]
  rwa [e] at h2

end Go.Proofs.YtaklkiagkdpimaaGreatDoor

/- Heights of a body's sides. -/
namespace Go.Proofs.YtaklkiagkdpimaaGreatDoor
open Go.RowKit Lin

/-- The first k corners, added. -/
def midL (d : Nat) (C : List (List Int)) (k : Nat) : List Int := (List.range d).map fun i => sumN k fun t => (C.getD t []).getD i 0

theorem midL_len (d : Nat) (C : List (List Int)) (k : Nat) : (midL d C k).length = d := by simp [midL]

theorem midL_at {d : Nat} (C : List (List Int)) (k : Nat) {i : Nat} (hi : i < d) : (midL d C k).getD i 0 = sumN k fun t => (C.getD t []).getD i 0 := by simp [midL, hi]

theorem sumN_bdL {f : Nat → Int} {M : Nat} : ∀ k, (∀ t, t < k → (f t).natAbs ≤ M) → (sumN k f).natAbs ≤ k * M
  | 0, _ => by simp [sumN]
  | k + 1, h => by
    have ih := sumN_bdL k fun t ht => h t (by omega)
    have := h k (by omega)
    show (sumN k f + f k).natAbs ≤ _
    rw [Nat.add_mul]
    omega

theorem midL_bd {d : Nat} {C : List (List Int)} {k M : Nat} (hC : Box d M C) (hk : k ≤ C.length) : ∀ z ∈ midL d C k, z.natAbs ≤ k * M := by
  intro z hz
  simp only [midL, List.mem_map, List.mem_range] at hz
  obtain ⟨i, hi, rfl⟩ := hz
  refine sumN_bdL k fun t ht => ?_
  have hm : C.getD t [] ∈ C := by simp [show t < C.length by omega]
  have h := hC _ hm
  have := h.2 ((C.getD t []).getD i 0) (getD_mem (by rw [h.1]; exact hi))
  omega

theorem dotL_le {a x : List Int} {A X n : Nat} (hn : a.length ≤ n) (ha : ∀ z ∈ a, z.natAbs ≤ A) (hx : ∀ z ∈ x, z.natAbs ≤ X) : (dotL a x).natAbs ≤ n * (A * X) := by
  unfold dotL
  refine Nat.le_trans (sumN_bdL (M := A * X) a.length fun i hi => ?_) (Nat.mul_le_mul_right _ hn)
  rw [Int.natAbs_mul]
  refine Nat.mul_le_mul (ha _ (getD_mem hi)) ?_
  by_cases h : i < x.length
  · exact hx _ (getD_mem h)
  · rw [show x.getD i 0 = 0 by simp only [List.getD_eq_getElem?_getD]; rw [List.getElem?_eq_none (by omega)]; rfl]; simp

/-- A row's side and its height. -/
def hgt (d : Nat) (C : List (List Int)) (wy r : List Int) : Sde := (sdN C r, dotL (r.take d) wy, r.getD d 0 * C.length - dotL (r.take d) (midL d C C.length))

theorem dot_mid {d : Nat} {r : List Int} (hr : r.length = d + 1) (C : List (List Int)) : ∀ k, dotL (r.take d) (midL d C k) = sumN k fun t => dot d (V r) (V (C.getD t [])) := by
  intro k
  have hl : (r.take d).length = d := by simp [hr]
  unfold dotL dot
  rw [hl, sumN_swap]
  refine sumN_congr fun i hi => ?_
  rw [midL_at C k hi, ← sumN_mul]
  refine sumN_congr fun t _ => ?_
  have e : (r.take d).getD i 0 = V r i := by
    simp only [V, List.getD_eq_getElem?_getD]; rw [List.getElem?_take_of_lt hi]
  rw [e]
  rfl

theorem sum_below {f : Nat → Int} {b : Int} : ∀ k, (∀ t, t < k → f t ≤ b) → sumN k f ≤ b * k ∧ ((∃ t, t < k ∧ f t < b) → sumN k f < b * k)
  | 0, _ => by simp [sumN]
  | k + 1, h => by
    obtain ⟨h1, h2⟩ := sum_below k fun t ht => h t (by omega)
    have h3 := h k (by omega)
    have e : b * ((k + 1 : Nat) : Int) = b * k + b := by
      rw [show ((k + 1 : Nat) : Int) = (k : Int) + 1 from rfl, Int.mul_add, Int.mul_one]
    have e2 : sumN (k + 1) f = sumN k f + f k := rfl
    refine ⟨by omega, fun ⟨t, ht, hlt⟩ => ?_⟩
    by_cases hk : t = k
    · subst hk; omega
    · have := h2 ⟨t, by omega, hlt⟩; omega

theorem hgt_posC {d : Nat} {C : List (List Int)} (hg : Good d C) (wy : List Int) {r : List Int} (hrc : r ∈ rowsC C [] d C) : 0 < (hgt d C wy r).2.2 := by
  have hrow := rowsC_fit hg.box hg.d1 (by have := hg.d4; omega) (fun _ => Iff.rfl) hrc
  show 0 < r.getD d 0 * C.length - dotL (r.take d) (midL d C C.length)
  rw [dot_mid hrow.len]
  have hall : ∀ t, t < C.length → dot d (V r) (V (C.getD t [])) ≤ r.getD d 0 := fun t ht => hrow.all _ (by simp [ht])
  have hoff : ∃ t, t < C.length ∧ dot d (V r) (V (C.getD t [])) < r.getD d 0 := by
    refine Classical.byContradiction fun hn => ?_
    have hmeet : ∀ y ∈ C, r.getD d 0 = dot d (V r) (V y) := fun y hy => by
      obtain ⟨t, ht, rfl⟩ := List.mem_iff_getElem.1 hy
      have h1 := hall t ht
      have h2 : ¬ dot d (V r) (V (C.getD t [])) < r.getD d 0 := fun q => hn ⟨t, ht, q⟩
      have e : C.getD t [] = C[t] := by simp [ht]
      rw [e] at h1 h2
      omega
    have := side_rank hg hrc (p := C) fun y => ⟨fun hy => ⟨hy, hmeet y hy⟩, fun q => q.1⟩
    have := hg.full
    omega
  have := (sum_below C.length hall).2 hoff
  omega

theorem hgt_pos {d : Nat} {C s : List (List Int)} (h : FcC d C s) (wy : List Int) {r : List Int} (hr : r ∈ s) : 0 < (hgt d C wy r).2.2 := hgt_posC h.g wy ((h.rows r).1 hr)

/-- The document's rows and corners are a body. -/
theorem doc_body {d : Nat} {P s C : List (List Int)} (hg : Good d P) (hs : ∀ r, r ∈ s ↔ r ∈ rowsD P d) (hc : SAsc C) (hCm : ∀ y, y ∈ C ↔ y ∈ crn d s P) : Good d C ∧ ∀ r, r ∈ s ↔ r ∈ rowsC C [] d C := by
  have hcr : ∀ x ∈ P, ((pickL d (onL d s x)).length = d ↔ ∀ v : Nat → Int, (∀ r ∈ rowsC P [] d P, r.getD d 0 = dot d (V r) (V x) → dot d (V r) v = 0) → ∀ i, i < d → v i = 0) := fun x hx => corner_rank hg (fun _ => Iff.rfl) hs hx
  exact ⟨corners_good hg hs hcr hCm (sasc_nodup hc), fun r => ((hs r).trans mem_rowsD).trans (rows_corners hg hs hcr hCm (sasc_nodup hc) r).symm⟩

/-- What is small enough to be reckoned with. -/
theorem hgt_bd {d : Nat} {C : List (List Int)} {wy r : List Int} (hd : d ≤ 4) (hC : Box d 6 C) (hCl : C.length ≤ 10) (hw : ∀ z ∈ wy, z.natAbs ≤ 20) (ha : ∀ z ∈ r.take d, z.natAbs ≤ 10368) (hb : (r.getD d 0).natAbs ≤ 248832) :
    (dotL (r.take d) wy).natAbs ≤ 829440 ∧ (dotL (r.take d) (midL d C C.length)).natAbs ≤ 2488320 ∧ (r.getD d 0 * C.length).natAbs ≤ 2488320 := by
  have hl : (r.take d).length ≤ 4 := by simp; omega
  refine ⟨Nat.le_trans (dotL_le hl ha hw) (by decide), Nat.le_trans (dotL_le (X := 60) hl ha fun z hz => ?_) (by decide), ?_⟩
  · have := midL_bd hC (Nat.le_refl _) z hz
    omega
  · rw [Int.natAbs_mul]
    exact Nat.le_trans (Nat.mul_le_mul hb (show (C.length : Int).natAbs ≤ 10 by omega)) (by decide)

theorem row_last {d : Nat} {C : List (List Int)} (hg : Good d C) (hC : Box d 6 C) {r : List Int} (hr : r ∈ rowsC C [] d C) (ha : ∀ z ∈ r.take d, z.natAbs ≤ 10368) : (r.getD d 0).natAbs ≤ 248832 := by
  have hfit := rowsC_fit hg.box hg.d1 (by have := hg.d4; omega) (fun _ => Iff.rfl) hr
  obtain ⟨t, ht, he⟩ := row_meets hg hr
  have hb := hC t ht
  have hl : (r.take d).length ≤ 4 := by have := hg.d4; simp; omega
  have e : dot d (V r) (V t) = dotL (r.take d) t := by
    rw [dotL_eq (d := d) (by rw [List.length_take, hfit.len]; omega)]
    refine dot_congr (fun i hi => ?_) fun _ _ => rfl
    simp only [V, List.getD_eq_getElem?_getD]; rw [List.getElem?_take_of_lt hi]
  rw [he, e]
  exact Nat.le_trans (dotL_le (X := 6) hl ha fun z hz => by have := hb.2 z hz; omega) (by decide)

/-- A side's corners, in order. -/
theorem memL_side {C : List (List Int)} (hC : C.length ≤ 16) (r : List Int) : memL (sdN C r) = mtTo C r C.length := by
  unfold memL memTo mtTo
  congr 1
  have hs : ∀ k, (sdN C r).testBit k = (decide (k < C.length) && decide (overL r (C.getD k []) = 0)) := fun k => sdTo_bit C r C.length k
  have e : List.range 64 = List.range C.length ++ (List.range (64 - C.length)).map (C.length + ·) := by
    rw [← List.range_add]
    congr 1
    omega
  rw [e, List.filter_append]
  have e1 : ((List.range (64 - C.length)).map (C.length + ·)).filter (fun k => (sdN C r).testBit k) = [] := by
    rw [List.filter_eq_nil_iff]
    intro k hk
    simp only [List.mem_map] at hk
    obtain ⟨j, _, rfl⟩ := hk
    rw [hs, decide_eq_false (show ¬ C.length + j < C.length by omega)]
    simp
  rw [e1, List.append_nil]
  refine List.filter_congr fun k hk => ?_
  rw [hs, decide_eq_true (List.mem_range.1 hk), Bool.true_and]

end Go.Proofs.YtaklkiagkdpimaaGreatDoor

/- The library's sort of sides, as this program calls it. -/
namespace Go.Proofs
open Go.Shelf Go.RowKit Go.Lib Go.Sort
shelf_lay_g SlLaysF0.n6 Slsf 6 at Tryz 44 as Tryz.sortN
end Go.Proofs

/- Sides, sorted. Made by mkln2.py out of Ts3. -/
namespace Go.Proofs.YtaklkiagkdpimaaGreatDoor
open Go.Shelf Go.RowKit Go.Lib Go.Sort

/-- A side's three cells. -/
def encN (t : Sde) : List Value := [.int .u64 t.1, .int .i64 t.2.1, .int .i64 t.2.2]

/-- Sides that are small. -/
def SN : Type := { p : Sde // (1 ≤ p.2.2 ∧ p.2.2 ≤ 5000000) ∧ (-1000000 ≤ p.2.1 ∧ p.2.1 ≤ 1000000) }

instance : Inhabited SN := ⟨⟨(0, 0, 1), by decide⟩⟩

def SN.enc (x : SN) : List Value := encN x.1
def SN.cf (x y : SN) : Int := cmpI (y.1.2.1 * x.1.2.2) (x.1.2.1 * y.1.2.2)

theorem cmpI_ltN (x y : Int) : cmpI x y < 0 ↔ x < y := by
  unfold cmpI
  split
  · simp [*]
  · split <;> simp [*] <;> omega

theorem SN.lt_iff (x y : SN) : ltOf SN.cf x y = decide (hlo y.1 x.1) := by
  unfold ltOf SN.cf
  rw [Bool.eq_iff_iff, decide_eq_true_iff, decide_eq_true_iff]
  exact cmpI_ltN _ _

theorem SN.swo : SWO (ltOf SN.cf) where
  irrefl x := by rw [SN.lt_iff]; exact decide_eq_false (hlo_irrefl _)
  trans x y z h1 h2 := by
    rw [SN.lt_iff, decide_eq_true_iff] at *
    exact hlo_trans (by have := z.2; omega) (by have := y.2; omega) (by have := x.2; omega) h2 h1
  ntrans x y z h1 h2 := by
    rw [SN.lt_iff, decide_eq_false_iff_not] at *
    unfold hlo at *
    have := hq_le (a := x.1.2.1) (b := x.1.2.2) (c := y.1.2.1) (d := y.1.2.2) (e := z.1.2.1) (f := z.1.2.2) (by have := x.2; omega) (by have := y.2; omega) (by have := z.2; omega) (by omega) (by omega)
    omega

theorem SN.one (x : SN) : ∀ v ∈ SN.enc x, v.oneCell' = true := by
  intro v hv
  simp only [SN.enc, encN, List.mem_cons, List.not_mem_nil, or_false] at hv
  rcases hv with rfl | rfl | rfl <;> rfl

theorem prod_bdN {x y : Int} (hx : -1000000 ≤ x ∧ x ≤ 1000000) (hy : 1 ≤ y ∧ y ≤ 5000000) : -5000000000000 ≤ x * y ∧ x * y ≤ 5000000000000 := by
  have h1 : (x * y).natAbs ≤ 1000000 * 5000000 := by rw [Int.natAbs_mul]; exact Nat.mul_le_mul (by omega) (by omega)
  omega

set_option maxRecDepth 100000 in
set_option maxHeartbeats 1000000 in
theorem higher_any (x0 y0 : Nat) (x1 x2 y1 y2 : Int) (W : World) (hx2 : 1 ≤ x2 ∧ x2 ≤ 5000000) (hx1 : -1000000 ≤ x1 ∧ x1 ≤ 1000000) (hy2 : 1 ≤ y2 ∧ y2 ≤ 5000000) (hy1 : -1000000 ≤ y1 ∧ y1 ≤ 1000000) :
    Calls Tryz.prog 26 #[.agg #[.int .u64 x0, .int .i64 x1, .int .i64 x2], .agg #[.int .u64 y0, .int .i64 y1, .int .i64 y2]] W fun e w' => e = .returned (.int .i64 (cmpI (x1 * y2) (y1 * x2))) ∧ ∃ q os', w' = Go.Sort.grow (W.drewN q) os' := by
  have b1 := prod_bdN hx1 hy2
  have b2 := prod_bdN hy1 hx2
  have hcon := fun W' => cmpI_any (x1 * y2) (y1 * x2) W'
  generalize hp : x1 * y2 = p at *
  generalize hq : y1 * x2 = q at *
  generalize cmpI p q = r at hcon ⊢
  obtain ⟨b11, b12⟩ := b1
  obtain ⟨b21, b22⟩ := b2
  go_enter Tryz.func26, Tryz.ntmps26
  go_wp2_with (go_at_call 46; refine (hcon _).mono ?_; rintro e w' ⟨rfl, rfl⟩)
  go_ret
  exact ⟨rfl, 0, _, by rw [alloc_eq_grow, alloc_eq_grow, grow_grow]; rfl⟩

set_option maxRecDepth 100000 in
set_option maxHeartbeats 1000000 in
theorem ordCmp_any (x y : SN) (W : World) : Calls Tryz.prog 45 #[.agg (SN.enc x).toArray, .agg (SN.enc y).toArray] W fun e w' => e = .returned (.int .i64 (SN.cf x y)) ∧ ∃ q os', w' = Go.Sort.grow (W.drewN q) os' := by
  obtain ⟨⟨x0, x1, x2⟩, hx1, hx0⟩ := x
  obtain ⟨⟨y0, y1, y2⟩, hy1, hy0⟩ := y
  show Calls Tryz.prog 45 #[.agg #[.int .u64 x0, .int .i64 x1, .int .i64 x2], .agg #[.int .u64 y0, .int .i64 y1, .int .i64 y2]] W fun e w' => e = .returned (.int .i64 (cmpI (y1 * x2) (x1 * y2))) ∧ ∃ q os', w' = Go.Sort.grow (W.drewN q) os'
  simp only at hx1 hx0 hy1 hy0
  have hcon := fun W' => higher_any y0 x0 y1 y2 x1 x2 W' hy1 hy0 hx1 hx0
  generalize cmpI (y1 * x2) (x1 * y2) = r at hcon ⊢
  go_enter Tryz.func45, Tryz.ntmps45
  go_wp2_with fail
  refine (hcon _).mono ?_
  rintro e w' ⟨rfl, q, os', rfl⟩
  go_wp2
  go_ret
  exact ⟨rfl, q, _, by rw [alloc_eq_grow, alloc_eq_grow, grow_grow]; exact Go.Sort.grow_grow (W.drewN q) _ os'⟩

theorem flat_getN : ∀ (m : List Sde) (t : Nat), t < m.length * 3 → (m.flatMap encN)[t]? = (encN (m.getD (t / 3) (0, 0, 1)))[t % 3]?
  | [], t, h => by simp at h
  | x :: m, t, h => by
    rw [List.flatMap_cons]
    by_cases ht : t < 3
    · rw [List.getElem?_append_left (by simp [encN]; exact ht), Nat.div_eq_of_lt ht, Nat.mod_eq_of_lt ht]
      simp
    · rw [List.getElem?_append_right (by simp [encN]; omega)]
      have ih := flat_getN m (t - 3) (by simp at h; omega)
      have e1 : (encN x).length = 3 := rfl
      rw [e1, ih]
      have e2 : t / 3 = (t - 3) / 3 + 1 := by omega
      have e3 : t % 3 = (t - 3) % 3 := by omega
      rw [e2, e3]
      simp

theorem flatN_len (m : List Sde) : (m.flatMap encN).length = m.length * 3 := by
  induction m with
  | nil => rfl
  | cons x m ih => rw [List.flatMap_cons, List.length_append, ih]; simp [encN]; omega

theorem Tryz.isAggN : ∀ w, (isAgg 56).run Tryz.prog w = .ok true w := fun w => by kernel_rfl
theorem Tryz.infoN : (Tryz.prog.info? 56).map (fun i => (i.zero, i.size, i.bytes)) = some (some (.agg #[.int .u64 0, .int .i64 0, .int .i64 0]), 3, 24) := by kernel_rfl
theorem Tryz.sizeOfN : ∀ w, (Go.sizeOf 56).run Tryz.prog w = .ok 3 w := fun w => by kernel_rfl

theorem mem_getN (m : List Sde) (i : Nat) (h : i < m.length) : m.getD i (0, 0, 1) ∈ m := by
  have e : m.getD i (0, 0, 1) = m[i] := by simp [h]
  rw [e]
  exact List.getElem_mem _

/-- Sides that may be sorted. -/
def Smn (m : List Sde) : Prop := ∀ t ∈ m, (1 ≤ t.2.2 ∧ t.2.2 ≤ 5000000) ∧ (-1000000 ≤ t.2.1 ∧ t.2.1 ≤ 1000000)

set_option maxRecDepth 100000 in
set_option maxHeartbeats 1000000 in
theorem sortN_any (B : Nat) (m : List Sde) (v : Value) (w : World) (hv : w.ownsRow B 56 3 v m.length (m.flatMap encN)) (hs : Smn m) (hm : m.length ≤ 1000000) :
    Calls Tryz.prog 44 #[v, .func (.func 45) #[] #[]] w fun e w' => e = .returned (.tuple #[]) ∧ ∃ m' : List Sde, m'.Perm m ∧ (∀ i j, i < j → j < m'.length → ¬ hlo (m'.getD i (0, 0, 1)) (m'.getD j (0, 0, 1))) ∧ w'.ownsRow B 56 3 v m'.length (m'.flatMap encN) ∧ Below B w w' ∧ w.grownBy w' v.ownBlock := by
  by_cases h0 : m.length = 0
  · have hm0 : m = [] := List.eq_nil_of_length_eq_zero h0
    subst hm0
    obtain ⟨ao, cap, hvv⟩ : ∃ ao cap, v = .slice ao 0 cap := by
      rcases hv.2 with ⟨h, _⟩ | ⟨g, cap, cur, h, _⟩
      · exact ⟨_, _, h⟩
      · exact ⟨_, _, h⟩
    subst hvv
    have hcon := AnyF.slices_SortFunc_none (P := Tryz.prog) (ρ := Tryz.sortN_ren) { Tryz.sortN with } ao cap (.func (.func 45) #[] #[]) w
    change Calls Tryz.prog 44 _ _ _ at hcon
    refine hcon.mono ?_
    rintro e w' ⟨rfl, rfl⟩
    exact ⟨rfl, [], List.Perm.refl _, fun i j _ h => absurd h (by simp), hv, Below.refl _ _, rfl, rfl, rfl, Nat.le_refl _, fun _ _ _ => rfl⟩
  · obtain ⟨g, cap, cur, hvv, hBg, hg, hc1, hc2, hc3, hc4⟩ : ∃ g cap cur, v = .slice (some ⟨g, 0, none⟩) m.length cap ∧ B ≤ g ∧ w.heap[g]? = some (.cells cur 56 (0, 0)) ∧ m.length ≤ cap ∧ cap ≤ maxLen ∧ cur.size = cap * 3 ∧ cur.toList.take (m.length * 3) = m.flatMap encN := by
      rcases hv.2 with ⟨_, h⟩ | h
      · exact absurd h h0
      · exact h
    subst hvv
    have hgw := (Array.getElem?_eq_some_iff.1 hg).1
    obtain ⟨d, hd⟩ : ∃ d : Array SN, d = Array.ofFn (fun i : Fin m.length => (⟨m.getD i (0, 0, 1), hs _ (mem_getN m i.1 i.2)⟩ : SN)) := ⟨_, rfl⟩
    have hds : d.size = m.length := by rw [hd]; exact Array.size_ofFn
    have hdi : ∀ j, j < m.length → (d[j]!).1 = m.getD j (0, 0, 1) := fun j hj => by
      rw [getElem!_pos d j (by omega)]
      subst hd
      exact congrArg Subtype.val (Array.getElem_ofFn _)
    have hcur : ∀ t, t < m.length * 3 → cur[t]? = (encN (m.getD (t / 3) (0, 0, 1)))[t % 3]? := fun t ht => by
      rw [← flat_getN m t ht, ← hc4, List.getElem?_take_of_lt ht, Array.getElem?_toList]
    have hH : HoldsK SN.enc 3 w g 0 d := fun j hj => by
      have hj' : j < m.length * 3 := by simpa [hds] using hj
      rw [get_flatK _ _ _ j (by rw [hds]; exact hj')]
      have e : SN.enc (d[j / 3]!) = encN (m.getD (j / 3) (0, 0, 1)) := by unfold SN.enc; rw [hdi _ (by omega)]
      have h3 : j % 3 < 3 := Nat.mod_lt _ (by decide)
      refine ⟨?_, by simp [World.frozen?, hg]⟩
      rw [e]
      have h := hcur j hj'
      rw [List.getElem?_eq_getElem (by simp [encN]; exact h3)] at h
      simp only [Nat.zero_add, World.cell?, hg, id]
      rw [getElem!_pos (encN (m.getD (j / 3) (0, 0, 1))) (j % 3) (by simp [encN]; exact h3)]
      simpa using h
    have eg : ∀ args w, (callFunc 45 args).run Tryz.prog w = .ok (.enter 45 args) w := enters_of Tryz.func45 (by kernel_rfl) rfl
    have hcmp : CmpLays Tryz.prog 45 #[] SN.enc 3 SN.cf g 0 d.size w := fun _ _ _ _ x y => ordCmp_any x y _
    have hcon := AnyQ.slices_SortFunc Tryz.sortN 3 Tryz.isAggN Tryz.sizeOfN SN.enc (fun _ => rfl) SN.one SN.cf SN.swo 45 #[] g 0 cap d w eg hcmp hH hgw (by omega)
    change Calls Tryz.prog 44 _ _ _ at hcon
    rw [hds] at hcon
    refine hcon.mono ?_
    rintro e w' ⟨rfl, d', q, os, ⟨hp1, hp2, hp3⟩, hso, rfl⟩
    have hd's : d'.size = m.length := by omega
    have hat : ∀ i, i < m.length → (d'.toList.map (fun x : SN => x.1)).getD i (0, 0, 1) = (d'[i]!).1 := fun i h => by
      rw [getElem!_pos d' i (by omega), List.getD_eq_getElem?_getD, List.getElem?_map, List.getElem?_eq_getElem (by simpa using (show i < d'.size by omega))]
      rfl
    have hlen : (d'.toList.map (fun x : SN => x.1)).length = m.length := by simp [hd's]
    refine ⟨rfl, d'.toList.map (fun x : SN => x.1), ?_, ?_, ?_, ?_, ?_⟩
    · have e1 : (d'.extract 0 m.length).toList = d'.toList := by rw [Array.toList_extract]; simp; exact List.take_of_length_le (by simp; omega)
      have e2 : (d.extract 0 m.length).toList = d.toList := by rw [Array.toList_extract]; simp; exact List.take_of_length_le (by simp; omega)
      rw [e1, e2] at hp3
      have hm' : d.toList.map (fun x : SN => x.1) = m := by
        apply List.ext_getElem (by simp [hds])
        intro i h1 h2
        have h3 := hdi i h2
        rw [getElem!_pos d i (by omega)] at h3
        simp only [List.getElem_map, Array.getElem_toList]
        rw [h3]
        simp [h2]
      rw [← hm']
      exact hp3.map _
    · intro i j hij hj
      rw [hlen] at hj
      have h := hso i j (Nat.zero_le _) hij hj
      rw [SN.lt_iff, decide_eq_false_iff_not] at h
      rw [hat i (by omega), hat j hj]
      exact h
    · rw [hlen]
      refine ⟨by rw [flatN_len, hlen], .inr ⟨g, cap, putCells id 0 (flatK SN.enc 3 d') cur, rfl, hBg, ?_, hc1, hc2, by simp [putCells, hc3], ?_⟩⟩
      · show ((w.heap.modify g _) ++ os)[g]? = _
        rw [Array.getElem?_append_left (by simpa using hgw), Array.getElem?_modify, if_pos rfl, hg]
        rfl
      · refine List.ext_getElem? fun t => ?_
        by_cases ht : t < m.length * 3
        · rw [List.getElem?_take_of_lt ht, Array.getElem?_toList, flat_getN _ t (by rw [hlen]; exact ht)]
          unfold putCells
          have hct : cur[t]? = some (cur[t]'(by rw [hc3]; have := Nat.mul_le_mul_right 3 hc1; omega)) := Array.getElem?_eq_getElem _
          have hfs : t < (flatK SN.enc 3 d').size := by simpa [hd's] using ht
          rw [Array.getElem?_mapIdx, hct]
          have hcnd : (0 ≤ t ∧ t < 0 + (flatK SN.enc 3 d').size) := ⟨Nat.zero_le _, by omega⟩
          simp only [Option.map_some, if_pos hcnd, Nat.sub_zero, id]
          rw [get_flatK _ _ _ t (by rw [hd's]; exact ht)]
          have e : SN.enc (d'[t / 3]!) = encN ((d'.toList.map (fun x : SN => x.1)).getD (t / 3) (0, 0, 1)) := by unfold SN.enc; rw [hat _ (by omega)]
          rw [e]
          have h3 : t % 3 < 3 := Nat.mod_lt _ (by decide)
          rw [List.getElem?_eq_getElem (by simp [encN]; exact h3), getElem!_pos _ (t % 3) (by simp [encN]; exact h3)]
        · rw [List.getElem?_eq_none (by simp; omega), List.getElem?_eq_none (by rw [flatN_len, hlen]; omega)]
    · refine ⟨rfl, rfl, rfl, ?_, fun b hb => ?_⟩
      · show w.heap.size ≤ ((w.heap.modify g _) ++ os).size
        simp
      · show ((w.heap.modify g _) ++ os)[b]? = _
        by_cases hbw : b < w.heap.size
        · rw [Array.getElem?_append_left (by simpa using hbw), Array.getElem?_modify, if_neg (fun e => by omega)]
        · omega
    · refine ⟨rfl, rfl, rfl, ?_, fun b hbw hne => ?_⟩
      · show w.heap.size ≤ ((w.heap.modify g _) ++ os).size
        simp
      · show ((w.heap.modify g _) ++ os)[b]? = _
        have hne' : g ≠ b := fun e => hne (by rw [e]; rfl)
        rw [Array.getElem?_append_left (by simpa using hbw), Array.getElem?_modify, if_neg hne']

end Go.Proofs.YtaklkiagkdpimaaGreatDoor
