/- Columns that stand alone grow: vectors modulo a prime make a matroid. -/
import Derived.Test.YtkndimmcndfnnaaDoorGm0
import Derived.Test.YtkndimmcndfnnaaDoorGv6
namespace Go.Proofs.YtkndimmcndfnnaaDoor
open Go.RowKit

theorem lin_col {p : Int} {d : Nat} : ∀ (m : List (List Int)), (∀ r ∈ m, p ∣ r.getD d 0) → ∀ cs : List Int, p ∣ lin cs m d
  | [], _, cs => by cases cs <;> simp [lin]
  | r :: m, hz, [] => by simp [lin]
  | r :: m, hz, c :: cs => by
    simp only [lin]
    exact Int.dvd_add (Int.dvd_mul_of_dvd_right (hz r (by simp))) (lin_col m (fun x hx => hz x (by simp [hx])) cs)

/-- More rows than places: a sum comes to nothing. -/
theorem more_dep {p : Int} (hp : Prm p) : ∀ (d : Nat) (m : List (List Int)), d < m.length → Dpn p d m
  | 0, m, h => by
    match m, h with
    | r :: m, _ => exact ⟨1 :: List.replicate m.length 0, by simp, ⟨1, by simp, hp.one⟩, fun k hk => by omega⟩
  | d + 1, m, h => by
    have up : ∀ m' : List (List Int), (∀ r ∈ m', p ∣ r.getD d 0) → Dpn p d m' → Dpn p (d + 1) m' := fun m' hz ⟨cs, hl, hn, hs⟩ => by
      refine ⟨cs, hl, hn, fun k hk => ?_⟩
      by_cases e : k = d
      · rw [e]; exact lin_col m' hz cs
      · exact hs k (by omega)
    by_cases hall : ∀ r ∈ m, p ∣ r.getD d 0
    · exact up m hall (more_dep hp d m (by omega))
    · obtain ⟨r, hr, hrd⟩ : ∃ r ∈ m, ¬ p ∣ r.getD d 0 := Classical.byContradiction fun hn => hall fun r hr => Classical.byContradiction fun h => hn ⟨r, hr, h⟩
      obtain ⟨a, ha, rfl⟩ := List.getElem_of_mem hr
      have hg : m.getD a [] = m[a] := by simp [ha]
      rw [← hg] at hrd
      obtain ⟨R, hR⟩ : ∃ R, R = m.getD a [] := ⟨_, rfl⟩
      rw [← hR] at hrd
      obtain ⟨i, hi⟩ := hp.inv _ hrd
      have hol : (oth m a m.length).length + 1 = m.length := by
        have e2 := oth_high m a ha (m.length - (a + 1)) (by omega)
        rw [show a + 1 + (m.length - (a + 1)) = m.length by omega] at e2
        rw [e2]
        simp
        omega
      refine (dpn_oth ha).2 ?_
      rw [← hR]
      have hc : Clr p (d + 1) d R (oth m a m.length) ((oth m a m.length).map fun x => (List.range (d + 1)).map fun c => x.getD c 0 - x.getD d 0 * i * R.getD c 0) := by
        refine clr_get _ _ (by simp) fun q hq => ?_
        have e : ((oth m a m.length).map fun x => (List.range (d + 1)).map fun c => x.getD c 0 - x.getD d 0 * i * R.getD c 0).getD q [] = (List.range (d + 1)).map fun c => ((oth m a m.length).getD q []).getD c 0 - ((oth m a m.length).getD q []).getD d 0 * i * R.getD c 0 := by
          simp [hq]
        rw [e]
        generalize (oth m a m.length).getD q [] = x
        have hget : ∀ c, c < d + 1 → ((List.range (d + 1)).map fun c => x.getD c 0 - x.getD d 0 * i * R.getD c 0).getD c 0 = x.getD c 0 - x.getD d 0 * i * R.getD c 0 := fun c hc => by simp [hc]
        refine ⟨⟨1, -(x.getD d 0 * i), hp.one, fun c hc => ?_⟩, ?_⟩
        · rw [hget c hc]
          exact ⟨0, by grind⟩
        · rw [hget d (by omega)]
          have e2 : x.getD d 0 - x.getD d 0 * i * R.getD d 0 = -(x.getD d 0 * (R.getD d 0 * i - 1)) := by grind
          rw [e2]
          exact Int.dvd_neg.2 (Int.dvd_mul_of_dvd_right hi)
      refine (dpn_step hp (by omega) hrd hc).2 (up _ (fun r hr => ?_) (more_dep hp d _ (by simp; omega)))
      obtain ⟨x, _, rfl⟩ := List.mem_map.1 hr
      have hgd : ((List.range (d + 1)).map fun c => x.getD c 0 - x.getD d 0 * i * R.getD c 0).getD d 0 = x.getD d 0 - x.getD d 0 * i * R.getD d 0 := by simp
      rw [hgd]
      have e2 : x.getD d 0 - x.getD d 0 * i * R.getD d 0 = -(x.getD d 0 * (R.getD d 0 * i - 1)) := by grind
      rw [e2]
      exact Int.dvd_neg.2 (Int.dvd_mul_of_dvd_right hi)

/-- A sum over places. -/
def smV (f : Nat → Int) : Nat → Int
  | 0 => 0
  | k + 1 => smV f k + f k

theorem smV_add (f g : Nat → Int) : ∀ k, smV (fun i => f i + g i) k = smV f k + smV g k
  | 0 => rfl
  | k + 1 => by simp only [smV]; rw [smV_add f g k]; omega

theorem smV_mul (c : Int) (f : Nat → Int) : ∀ k, smV (fun i => c * f i) k = c * smV f k
  | 0 => by simp [smV]
  | k + 1 => by simp only [smV]; rw [smV_mul c f k, Int.mul_add]

theorem smV_congr {f g : Nat → Int} : ∀ k, (∀ i, i < k → f i = g i) → smV f k = smV g k
  | 0, _ => rfl
  | k + 1, h => by simp only [smV]; rw [smV_congr k fun i hi => h i (by omega), h k (by omega)]

theorem smV_dvd {p : Int} {f : Nat → Int} : ∀ k, (∀ i, i < k → p ∣ f i) → p ∣ smV f k
  | 0, _ => Int.dvd_zero _
  | k + 1, h => by simp only [smV]; exact Int.dvd_add (smV_dvd k fun i hi => h i (by omega)) (h k (by omega))

theorem smV_zero : ∀ k, smV (fun _ => 0) k = 0
  | 0 => rfl
  | k + 1 => by simp only [smV]; rw [smV_zero k]; rfl

theorem smV_front (f : Nat → Int) : ∀ k, smV f (k + 1) = f 0 + smV (fun i => f (i + 1)) k
  | 0 => by simp [smV]
  | k + 1 => by
    have := smV_front f k
    simp only [smV] at this ⊢
    omega

theorem lin_smV : ∀ (cs : List Int) (A : List (List Int)) (k : Nat), cs.length = A.length → lin cs A k = smV (fun t => cs.getD t 0 * (A.getD t []).getD k 0) A.length
  | [], [], _, _ => rfl
  | [], _ :: _, _, h => by simp at h
  | _ :: _, [], _, h => by simp at h
  | c :: cs, r :: A, k, h => by
    simp only [lin, List.length_cons]
    rw [smV_front, lin_smV cs A k (by simpa using h)]
    simp

/-- Rows that are sums of A's: what their coefficients come to they do. -/
theorem dep_of {p : Int} {d : Nat} {A : List (List Int)} : ∀ (X M : List (List Int)), X.length = M.length → (∀ j, j < X.length → ∀ k, k < d → p ∣ (X.getD j []).getD k 0 - smV (fun t => (M.getD j []).getD t 0 * (A.getD t []).getD k 0) A.length) → ∀ (cs : List Int), cs.length = X.length → ∀ k, k < d → p ∣ lin cs X k - smV (fun t => lin cs M t * (A.getD t []).getD k 0) A.length
  | [], [], _, _, cs, hc, k, _ => by
    have : cs = [] := List.eq_nil_of_length_eq_zero (by simpa using hc)
    subst this
    have e : smV (fun t => lin [] [] t * (A.getD t []).getD k 0) A.length = 0 := by
      rw [← smV_zero A.length]
      exact smV_congr _ fun i _ => by simp [lin]
    rw [e]
    simp [lin]
  | [], _ :: _, h, _, _, _, _, _ => by simp at h
  | _ :: _, [], h, _, _, _, _, _ => by simp at h
  | x :: X, y :: M, h, hx, cs, hc, k, hk => by
    match cs, hc with
    | c :: cs, hc =>
      have ih := dep_of X M (by simpa using h) (fun j hj => hx (j + 1) (by simpa using hj)) cs (by simpa using hc) k hk
      have h0 := hx 0 (by simp) k hk
      have h0' : p ∣ x.getD k 0 - smV (fun t => y.getD t 0 * (A.getD t []).getD k 0) A.length := h0
      have e : smV (fun t => lin (c :: cs) (y :: M) t * (A.getD t []).getD k 0) A.length = c * smV (fun t => y.getD t 0 * (A.getD t []).getD k 0) A.length + smV (fun t => lin cs M t * (A.getD t []).getD k 0) A.length := by
        rw [← smV_mul, ← smV_add]
        exact smV_congr _ fun i _ => by simp only [lin]; grind
      rw [e]
      simp only [lin]
      have e2 : c * x.getD k 0 + lin cs X k - (c * smV (fun t => y.getD t 0 * (A.getD t []).getD k 0) A.length + smV (fun t => lin cs M t * (A.getD t []).getD k 0) A.length) = c * (x.getD k 0 - smV (fun t => y.getD t 0 * (A.getD t []).getD k 0) A.length) + (lin cs X k - smV (fun t => lin cs M t * (A.getD t []).getD k 0) A.length) := by grind
      rw [e2]
      exact Int.dvd_add (Int.dvd_mul_of_dvd_right h0') ih

theorem dep_more {p : Int} (hp : Prm p) {d : Nat} {A X : List (List Int)} (hl : A.length < X.length) (hx : ∀ j, j < X.length → ∃ y : List Int, ∀ k, k < d → p ∣ (X.getD j []).getD k 0 - smV (fun t => y.getD t 0 * (A.getD t []).getD k 0) A.length) : Dpn p d X := by
  have hch : ∃ Y : Nat → List Int, ∀ j, j < X.length → ∀ k, k < d → p ∣ (X.getD j []).getD k 0 - smV (fun t => (Y j).getD t 0 * (A.getD t []).getD k 0) A.length := by
    refine ⟨fun j => if h : j < X.length then Classical.choose (hx j h) else [], fun j hj => ?_⟩
    simp only [dif_pos hj]
    exact Classical.choose_spec (hx j hj)
  obtain ⟨Y, hY⟩ := hch
  obtain ⟨cs, c1, c2, c3⟩ := more_dep hp A.length ((List.range X.length).map Y) (by simpa using hl)
  refine ⟨cs, by simpa using c1, c2, fun k hk => ?_⟩
  have h := dep_of (p := p) (d := d) (A := A) X ((List.range X.length).map Y) (by simp) (fun j hj k hk => by
    have e : ((List.range X.length).map Y).getD j [] = Y j := by simp [hj]
    rw [e]
    exact hY j hj k hk) cs (by simpa using c1) k hk
  have h2 : p ∣ smV (fun t => lin cs ((List.range X.length).map Y) t * (A.getD t []).getD k 0) A.length := smV_dvd _ fun t ht => Int.dvd_mul_of_dvd_left (c3 t ht)
  have e : lin cs X k = (lin cs X k - smV (fun t => lin cs ((List.range X.length).map Y) t * (A.getD t []).getD k 0) A.length) + smV (fun t => lin cs ((List.range X.length).map Y) t * (A.getD t []).getD k 0) A.length := by omega
  rw [e]
  exact Int.dvd_add h h2

/-- A row on which others hang is a sum of theirs. -/
theorem dep_sum {p : Int} (hp : Prm p) {d : Nat} {r : List Int} {A : List (List Int)} (hA : ¬ Dpn p d A) (h : Dpn p d (r :: A)) : ∃ y : List Int, ∀ k, k < d → p ∣ r.getD k 0 - smV (fun t => y.getD t 0 * (A.getD t []).getD k 0) A.length := by
  obtain ⟨cs, hl, ⟨z, hz, hz0⟩, hs⟩ := h
  match cs, hl with
  | c :: cs, hl =>
    have hl' : cs.length = A.length := by simpa using hl
    by_cases hc : p ∣ c
    · exfalso
      refine hA ⟨cs, hl', ?_, fun k hk => ?_⟩
      · rcases List.mem_cons.1 hz with e | hz
        · rw [e] at hz0; exact absurd hc hz0
        · exact ⟨z, hz, hz0⟩
      · have := hs k hk
        simp only [lin] at this
        have e : lin cs A k = (c * r.getD k 0 + lin cs A k) - c * r.getD k 0 := by omega
        rw [e]
        exact Int.dvd_sub this (Int.dvd_mul_of_dvd_left hc)
    · obtain ⟨i, hi⟩ := hp.inv c hc
      refine ⟨cs.map fun x => -(i * x), fun k hk => ?_⟩
      have h1 := hs k hk
      simp only [lin] at h1
      have e1 : smV (fun t => (cs.map fun x => -(i * x)).getD t 0 * (A.getD t []).getD k 0) A.length = -i * lin cs A k := by
        rw [lin_smV cs A k hl', ← smV_mul]
        refine smV_congr _ fun t ht => ?_
        have e2 : (cs.map fun x => -(i * x)).getD t 0 = -(i * cs.getD t 0) := by
          have : t < cs.length := by omega
          simp [this]
        rw [e2]; grind
      rw [e1]
      have e3 : r.getD k 0 - -i * lin cs A k = i * (c * r.getD k 0 + lin cs A k) - r.getD k 0 * (c * i - 1) := by grind
      rw [e3]
      exact Int.dvd_sub (Int.dvd_mul_of_dvd_right h1) (Int.dvd_mul_of_dvd_right hi)

theorem dep_put {p : Int} {d : Nat} {r : List Int} {A : List (List Int)} (h : Dpn p d A) : Dpn p d (r :: A) := by
  obtain ⟨cs, hl, ⟨z, hz, hz0⟩, hs⟩ := h
  refine ⟨0 :: cs, by simp [hl], ⟨z, by simp [hz], hz0⟩, fun k hk => ?_⟩
  simp only [lin]
  have := hs k hk
  simpa using this

theorem mem8_put : ∀ s, s < 256 → ∀ y, y < 8 → s.testBit y = false → mem8 (s ||| 2 ^ y) = memTo s y ++ (y : Int) :: (mem8 s).drop (memTo s y).length ∧ mem8 s = memTo s y ++ (mem8 s).drop (memTo s y).length := by decide +kernel

theorem dep_or {p : Int} {d : Nat} {m : List (List Int)} {s y : Nat} (hs : s < 256) (hy : y < 8) (h : s.testBit y = false) : Dpn p d (pkV m (mem8 (s ||| 2 ^ y))) ↔ Dpn p d (m.getD y [] :: pkV m (mem8 s)) := by
  obtain ⟨e1, e2⟩ := mem8_put s hs y hy h
  generalize (mem8 s).drop (memTo s y).length = l2 at *
  rw [e1, e2]
  unfold pkV
  rw [List.map_append, List.map_append, List.map_cons, Int.toNat_natCast]
  exact dpn_first

theorem vec_grw {q d : Nat} {m : List (List Int)} (hp : q = 2 ∨ q = 3 ∨ q = 5 ∨ q = 7) (h8 : m.length ≤ 8) : Grw m.length (fvE q d m) := by
  have hP := prm4 hp
  have hf : ∀ s, fvE (q : Int) d m s = true ↔ ¬ Dpn (q : Int) d (pkV m (mem8 s)) := fun s => by
    unfold fvE
    rw [Bool.not_eq_true', dpB_false]
  refine ⟨?_, fun s x hs hF hx => ?_, fun a b ha hb hFa hFb hlt => ?_⟩
  · rw [hf]
    have : mem8 0 = [] := by decide +kernel
    rw [this]
    exact dpn_nil
  · have hx8 : x < 8 := Nat.lt_of_lt_of_le (bit_lt hs hx) h8
    rw [hf] at hF ⊢
    intro h
    refine hF ?_
    have e := out1_or hx
    rw [← e]
    exact (dep_or (lt_256 h8 (out_ltn hs)) hx8 (by rw [out1_bit]; simp)).2 (dep_put h)
  · rw [hf] at hFa hFb
    have ha8 := lt_256 h8 ha
    refine Classical.byContradiction fun hn => hFb (dep_more hP (A := pkV m (mem8 a)) (by rw [pkV_len, pkV_len]; exact hlt) fun j hj => ?_)
    rw [pkV_len] at hj
    obtain ⟨y, hy8, hyb, hye⟩ := mem8_iff.1 (show (mem8 b).getD j 0 ∈ mem8 b by simp [hj])
    have e : (pkV m (mem8 b)).getD j [] = m.getD y [] := by
      unfold pkV
      simp only [List.getD_eq_getElem?_getD, List.getElem?_map]
      have : (mem8 b)[j]? = some (y : Int) := by
        rw [hye]; simp [hj]
      rw [this]
      simp
    rw [e]
    by_cases hya : a.testBit y = true
    · obtain ⟨t, ht, het⟩ := List.getElem_of_mem (show (y : Int) ∈ mem8 a from mem8_iff.2 ⟨y, hy8, hya, rfl⟩)
      have hA : (pkV m (mem8 a)).getD t [] = m.getD y [] := by
        unfold pkV
        simp only [List.getD_eq_getElem?_getD, List.getElem?_map]
        have : (mem8 a)[t]? = some (y : Int) := by rw [List.getElem?_eq_getElem ht, het]
        rw [this]
        simp
      refine ⟨(List.range (pkV m (mem8 a)).length).map fun i => if i = t then 1 else 0, fun k hk => ?_⟩
      have e1 : ∀ n, smV (fun i => (if i = t then (1 : Int) else 0) * ((pkV m (mem8 a)).getD i []).getD k 0) n = if t < n then (m.getD y []).getD k 0 else 0 := fun n => by
        induction n with
        | zero => simp [smV]
        | succ n ih =>
          simp only [smV]
          rw [ih]
          by_cases c : t < n
          · rw [if_pos c, if_neg (show ¬ n = t by omega), if_pos (show t < n + 1 by omega)]; omega
          · by_cases c2 : n = t
            · subst c2
              rw [if_neg c, if_pos rfl, if_pos (show n < n + 1 by omega), hA]; omega
            · rw [if_neg c, if_neg c2, if_neg (show ¬ t < n + 1 by omega)]; omega
      have e2 : smV (fun i => ((List.range (pkV m (mem8 a)).length).map fun i => if i = t then (1 : Int) else 0).getD i 0 * ((pkV m (mem8 a)).getD i []).getD k 0) (pkV m (mem8 a)).length = smV (fun i => (if i = t then (1 : Int) else 0) * ((pkV m (mem8 a)).getD i []).getD k 0) (pkV m (mem8 a)).length := smV_congr _ fun i hi => by simp [hi]
      rw [e2, e1, if_pos (by rw [pkV_len]; exact ht), Int.sub_self]
      exact Int.dvd_zero _
    · have hya' : a.testBit y = false := by simpa using hya
      refine dep_sum hP hFa ((dep_or ha8 hy8 hya').1 ?_)
      refine Classical.byContradiction fun h => hn ⟨y, hyb, hya', (hf _).2 h⟩

end Go.Proofs.YtkndimmcndfnnaaDoor
