import Derived.Test.YtkdileeahbaobaaDoorMtC
/- matroid.Greedy. -/
namespace Go.Proofs.YtkdileeahbaobaaDoor
open Go.RowKit
attribute [local go_sem ↓] Go.wp_at_zero Go.wp_at_succ

theorem insJ_keep {ws : List Int} {n : Nat} : ∀ (j : Nat) (zs : List Int), j < zs.length → Pl n zs → (insJ ws j zs).length = zs.length ∧ Pl n (insJ ws j zs)
  | 0, zs, _, h => ⟨rfl, h⟩
  | j + 1, zs, hj, h => by
    simp only [insJ]
    split
    · have := insJ_keep (ws := ws) j (swL zs j) (by rw [swL_len]; omega) (h.sw hj)
      rw [swL_len] at this
      exact this
    · exact ⟨rfl, h⟩

theorem insO_keep {ws : List Int} {n : Nat} : ∀ (m i : Nat) (zs : List Int), i + m ≤ zs.length → Pl n zs → (insO ws m i zs).length = zs.length ∧ Pl n (insO ws m i zs)
  | 0, _, zs, _, h => ⟨rfl, h⟩
  | m + 1, i, zs, hi, h => by
    simp only [insO]
    obtain ⟨h1, h2⟩ := insJ_keep (ws := ws) i zs (by omega) h
    have := insO_keep (ws := ws) m (i + 1) (insJ ws i zs) (by omega) h2
    rw [h1] at this
    exact this

theorem hvL_keep (ws : List Int) : (hvL ws).length = ws.length ∧ Pl ws.length (hvL ws) := by
  unfold hvL
  by_cases h : ws.length = 0
  · rw [h]; exact ⟨rfl, fun k hk => by simp [insO, rngI] at hk⟩
  · have := insO_keep (ws := ws) (n := ws.length) (ws.length - 1) 1 (rngI ws.length) (by rw [rngI_len]; omega) (rngI_pl _)
    rw [rngI_len] at this
    exact this

/-- What has been taken of the first things of a list, and its weight. -/
def grT (bs ws l : List Int) : Nat → Nat × Int
  | 0 => (0, 0)
  | k + 1 => if freeB bs ((grT bs ws l k).1 ||| 2 ^ (l.getD k 0).toNat) = true then ((grT bs ws l k).1 ||| 2 ^ (l.getD k 0).toNat, (grT bs ws l k).2 + ws.getD (l.getD k 0).toNat 0) else grT bs ws l k

def grE (N : Int) (bs ws : List Int) : Int := if matE N bs ≠ 0 then matE N bs else if (ws.length : Int) ≠ N then 2 else if ws.any (farB · 1000) = true then 4 else 0

theorem grT_bd {bs ws l : List Int} {n : Nat} (hn : n ≤ 8) (hl : l.length = n) (hp : Pl n l) (hw : ∀ i : Nat, -1000 ≤ ws.getD i 0 ∧ ws.getD i 0 ≤ 1000) : ∀ k, k ≤ n → (grT bs ws l k).1 < 256 ∧ -1000 * (k : Int) ≤ (grT bs ws l k).2 ∧ (grT bs ws l k).2 ≤ 1000 * (k : Int)
  | 0, _ => by simp [grT]
  | k + 1, hk => by
    obtain ⟨h1, h2, h3⟩ := grT_bd (bs := bs) hn hl hp hw k (by omega)
    obtain ⟨h4, h5⟩ := hp k (by omega)
    have h6 := hw (l.getD k 0).toNat
    simp only [grT]
    split
    · refine ⟨Nat.or_lt_two_pow (n := 8) h1 (Nat.pow_lt_pow_right (by omega) (by omega)), ?_, ?_⟩
      · show _ ≤ (grT bs ws l k).2 + _; omega
      · show (grT bs ws l k).2 + _ ≤ _; omega
    · exact ⟨h1, by omega, by omega⟩

theorem mat_b8 {N : Int} {bs : List Int} (h : matE N bs = 0) : B8 bs ∧ 0 ≤ N ∧ N ≤ 8 := by
  unfold matE at h
  by_cases h1 : N < 0 ∨ 8 < N
  · rw [if_pos h1] at h; omega
  · rw [if_neg h1] at h
    by_cases h2 : bs.length = 0
    · rw [if_pos h2] at h; omega
    · rw [if_neg h2] at h
      by_cases h3 : scanE (stepE N.toNat bs) bs.length ≠ 0
      · rw [if_pos h3] at h; exact absurd h h3
      · have h4 : ∀ i, i < bs.length → stepE N.toNat bs i = 0 := by
          intro i
          induction i using Nat.strongRecOn with
          | ind i ih =>
            intro hi
            by_cases h5 : stepE N.toNat bs i = 0
            · exact h5
            · exfalso
              apply h3
              rw [scan_hit (fun j hj => ih j hj (by omega)) h5 hi]
              exact h5
        exact ⟨st_b8 (by omega) h4, by omega, by omega⟩

end Go.Proofs.YtkdileeahbaobaaDoor

/- matroid.Greedy: the walk. -/
namespace Go.Proofs.YtkdileeahbaobaaDoor
open Go.RowKit
attribute [local go_sem ↓] Go.wp_at_zero Go.wp_at_succ

def grA (N : Int) (bs ws : List Int) : Nat × Int := if grE N bs ws = 0 then grT bs ws (hvL ws) ws.length else (0, 0)

set_option maxRecDepth 100000 in
theorem freeIn_any (N : Int) (v : Value) (w : World) :
    Calls Tryd.prog 20 #[.agg #[.int .i64 N, v]] w fun e w' => e = .returned (.func (.func 33) #[] #[.pointer (some ⟨w.heap.size, 0, none⟩)]) ∧ w' = w.alloc (.cells #[.int .i64 N, v] 25) := by
  go_enter Tryd.func20, Tryd.ntmps20
  go_wp2
  go_ret
  exact ⟨rfl, rfl⟩

end Go.Proofs.YtkdileeahbaobaaDoor

/- Things by falling weights: the sort by insertion sorts. -/
namespace Go.Proofs.YtkdileeahbaobaaDoor
open Go.RowKit

/-- Heavier, or as heavy and of a lesser number. -/
def Bf (ws : List Int) (a b : Int) : Prop := ws.getD b.toNat 0 < ws.getD a.toNat 0 ∨ (ws.getD a.toNat 0 = ws.getD b.toNat 0 ∧ a < b)

theorem Bf.trans {ws : List Int} {a b c : Int} (h : Bf ws a b) (h2 : Bf ws b c) : Bf ws a c := by
  unfold Bf at *
  omega

theorem Bf.irr {ws : List Int} {a : Int} (h : Bf ws a a) : False := by
  unfold Bf at h
  omega

theorem swL_get {zs : List Int} {j : Nat} (hj : j + 1 < zs.length) (p : Nat) : (swL zs j).getD p 0 = if p = j then zs.getD (j + 1) 0 else if p = j + 1 then zs.getD j 0 else zs.getD p 0 := by
  unfold swL
  simp only [List.getD_eq_getElem?_getD, List.getElem?_set, List.length_set]
  by_cases h1 : p = j
  · subst h1
    simp [show p < zs.length by omega]
  · by_cases h2 : p = j + 1
    · subst h2
      simp [hj]
    · simp [Ne.symm h1, Ne.symm h2, h1, h2]

theorem upB_iff {ws zs : List Int} {j : Nat} : upB ws zs j = true ↔ ws.getD (zs.getD j 0).toNat 0 < ws.getD (zs.getD (j + 1) 0).toNat 0 := by
  unfold upB cmpI
  rw [decide_eq_true_eq]
  split
  · omega
  · split <;> omega

/-- In the midst: the thing x is in place j on its way down; all others up to place i are in order. -/
structure Mid (ws zs : List Int) (i j : Nat) (x : Int) : Prop where
  ji : j ≤ i
  il : i < zs.length
  at_j : zs.getD j 0 = x
  oth : ∀ p q, p < q → q ≤ i → p ≠ j → q ≠ j → Bf ws (zs.getD p 0) (zs.getD q 0)
  beh : ∀ q, j < q → q ≤ i → Bf ws x (zs.getD q 0)
  les : ∀ p, p ≤ i → p ≠ j → zs.getD p 0 < x

structure Aft (ws zs ys : List Int) (i : Nat) (x : Int) : Prop where
  srt : ∀ p q, p < q → q ≤ i → Bf ws (ys.getD p 0) (ys.getD q 0)
  les : ∀ p, p ≤ i → ys.getD p 0 ≤ x
  out : ∀ p, i < p → ys.getD p 0 = zs.getD p 0
  len : ys.length = zs.length
  has : ∀ p, p < zs.length → ∃ q, q < zs.length ∧ ys.getD q 0 = zs.getD p 0

theorem insJ_aft {ws : List Int} {i : Nat} {x : Int} : ∀ (j : Nat) (zs : List Int), Mid ws zs i j x → Aft ws zs (insJ ws j zs) i x
  | 0, zs, h => ⟨fun p q hpq hq => by
      by_cases hp : p = 0
      · subst hp
        have e : insJ ws 0 zs = zs := rfl
        rw [e, h.at_j]
        exact h.beh q hpq hq
      · exact h.oth p q hpq hq hp (by omega), fun p hp => by
      show zs.getD p 0 ≤ x
      by_cases h0 : p = 0
      · subst h0; have := h.at_j; omega
      · have := h.les p hp h0; omega, fun p _ => rfl, rfl, fun p hp => ⟨p, hp, rfl⟩⟩
  | j + 1, zs, h => by
    have hji := h.ji
    have hil := h.il
    have hx := h.at_j
    simp only [insJ]
    by_cases hu : upB ws zs j = true
    · rw [if_pos hu]
      have hw := upB_iff.1 hu
      rw [hx] at hw
      have hj1 : j + 1 < zs.length := by omega
      have hg := swL_get (zs := zs) hj1
      have hm : Mid ws (swL zs j) i j x := by
        refine ⟨by omega, by rw [swL_len]; omega, by rw [hg, if_pos rfl]; exact hx, fun p q hpq hq hp hqj => ?_, fun q hjq hq => ?_, fun p hp hpj => ?_⟩
        · rw [hg, hg, if_neg hp, if_neg hqj]
          by_cases h1 : p = j + 1
          · rw [if_pos h1, if_neg (by omega)]
            exact h.oth j q (by omega) hq (by omega) (by omega)
          · rw [if_neg h1]
            by_cases h2 : q = j + 1
            · rw [if_pos h2]
              exact h.oth p j (by omega) (by omega) h1 (by omega)
            · rw [if_neg h2]
              exact h.oth p q hpq hq h1 h2
        · rw [hg, if_neg (by omega)]
          by_cases h2 : q = j + 1
          · rw [if_pos h2]
            exact .inl hw
          · rw [if_neg h2]
            exact h.beh q (by omega) hq
        · rw [hg, if_neg hpj]
          by_cases h2 : p = j + 1
          · rw [if_pos h2]
            exact h.les j (by omega) (by omega)
          · rw [if_neg h2]
            exact h.les p hp h2
      have ih := insJ_aft j (swL zs j) hm
      refine ⟨ih.srt, ih.les, fun p hp => ?_, by rw [ih.len, swL_len], fun p hp => ?_⟩
      · rw [ih.out p hp, hg, if_neg (by omega), if_neg (by omega)]
      · have key : ∃ r, r < zs.length ∧ (swL zs j).getD r 0 = zs.getD p 0 := by
          by_cases h1 : p = j
          · exact ⟨j + 1, hj1, by rw [hg, if_neg (by omega), if_pos rfl, h1]⟩
          · by_cases h2 : p = j + 1
            · exact ⟨j, by omega, by rw [hg, if_pos rfl, h2]⟩
            · exact ⟨p, hp, by rw [hg, if_neg h1, if_neg h2]⟩
        obtain ⟨r, hr, he⟩ := key
        obtain ⟨q, hq, he2⟩ := ih.has r (by rw [swL_len]; exact hr)
        rw [swL_len] at hq
        exact ⟨q, hq, he2.trans he⟩
    · rw [if_neg hu]
      have hw : Bf ws (zs.getD j 0) x := by
        have h1 : ¬ _ := fun hh => hu (upB_iff.2 hh)
        rw [hx] at h1
        have h2 := h.les j (by omega) (by omega)
        unfold Bf
        omega
      refine ⟨fun p q hpq hq => ?_, fun p hp => ?_, fun p _ => rfl, rfl, fun p hp => ⟨p, hp, rfl⟩⟩
      · by_cases h1 : p = j + 1
        · rw [h1, hx]; exact h.beh q (by omega) hq
        · by_cases h2 : q = j + 1
          · rw [h2, hx]
            by_cases h3 : p = j
            · rw [h3]; exact hw
            · exact (h.oth p j (by omega) (by omega) h1 (by omega)).trans hw
          · exact h.oth p q hpq hq h1 h2
      · by_cases h2 : p = j + 1
        · rw [h2, hx]; exact Int.le_refl _
        · have := h.les p hp h2; omega

/-- Ahead of round i. -/
structure Ah (ws zs : List Int) (i : Nat) : Prop where
  srt : ∀ p q, p < q → q < i → Bf ws (zs.getD p 0) (zs.getD q 0)
  les : ∀ p, p < i → zs.getD p 0 < i
  out : ∀ p, i ≤ p → p < zs.length → zs.getD p 0 = p

theorem insO_srt {ws : List Int} : ∀ (m i : Nat) (zs : List Int), i + m = zs.length → Ah ws zs i → (∀ p q, p < q → q < zs.length → Bf ws ((insO ws m i zs).getD p 0) ((insO ws m i zs).getD q 0)) ∧ ∀ p, p < zs.length → ∃ q, q < zs.length ∧ (insO ws m i zs).getD q 0 = zs.getD p 0
  | 0, i, zs, hi, h => ⟨fun p q hpq hq => h.srt p q hpq (by omega), fun p hp => ⟨p, hp, rfl⟩⟩
  | m + 1, i, zs, hi, h => by
    simp only [insO]
    have hm : Mid ws zs i i i := by
      refine ⟨Nat.le_refl _, by omega, h.out i (Nat.le_refl _) (by omega), fun p q hpq hq _ hqi => h.srt p q hpq (by omega), fun q h1 h2 => by omega, fun p hp hpi => h.les p (by omega)⟩
    have ha := insJ_aft i zs hm
    have hA : Ah ws (insJ ws i zs) (i + 1) := by
      refine ⟨fun p q hpq hq => ha.srt p q hpq (by omega), fun p hp => ?_, fun p hp hpl => ?_⟩
      · have := ha.les p (by omega); omega
      · rw [ha.len] at hpl
        rw [ha.out p (by omega)]
        exact h.out p (by omega) hpl
    obtain ⟨k1, k2⟩ := insO_srt m (i + 1) (insJ ws i zs) (by rw [ha.len]; omega) hA
    rw [ha.len] at k1 k2
    refine ⟨k1, fun p hp => ?_⟩
    obtain ⟨q, hq, e1⟩ := ha.has p hp
    obtain ⟨r, hr, e2⟩ := k2 q hq
    exact ⟨r, hr, e2.trans e1⟩

theorem rngI_get {n p : Nat} (h : p < n) : (rngI n).getD p 0 = (p : Int) := by simp [rngI, h]

theorem hvL_srt (ws : List Int) : (∀ p q, p < q → q < ws.length → Bf ws ((hvL ws).getD p 0) ((hvL ws).getD q 0)) ∧ ∀ p : Nat, p < ws.length → ∃ q, q < ws.length ∧ (hvL ws).getD q 0 = (p : Int) := by
  by_cases h0 : ws.length = 0
  · exact ⟨fun p q _ hq => by omega, fun p hp => by omega⟩
  · have hA : Ah ws (rngI ws.length) 1 := by
      refine ⟨fun p q h1 h2 => by omega, fun p hp => ?_, fun p hp hpl => ?_⟩
      · rw [rngI_get (by omega)]; omega
      · rw [rngI_len] at hpl; exact rngI_get hpl
    have := insO_srt (ws := ws) (ws.length - 1) 1 (rngI ws.length) (by rw [rngI_len]; omega) hA
    rw [rngI_len] at this
    refine ⟨this.1, fun p hp => ?_⟩
    obtain ⟨q, hq, e⟩ := this.2 p hp
    exact ⟨q, hq, e.trans (rngI_get hp)⟩

/-- The first k are done. -/
def dnB (ws : List Int) (k : Nat) (i : Nat) : Bool := ((hvL ws).take k).contains (i : Int)

theorem dn_iff {ws : List Int} {k i : Nat} (hk : k ≤ ws.length) : dnB ws k i = true ↔ ∃ p, p < k ∧ (hvL ws).getD p 0 = (i : Int) := by
  have hl := (hvL_keep ws).1
  unfold dnB
  rw [List.contains_iff_mem, List.mem_take_iff_getElem]
  constructor
  · rintro ⟨p, hp, e⟩
    refine ⟨p, by omega, ?_⟩
    rw [List.getD_eq_getElem?_getD, List.getElem?_eq_getElem (by omega), Option.getD_some]; exact e
  · rintro ⟨p, hp, e⟩
    refine ⟨p, by omega, ?_⟩
    rw [List.getD_eq_getElem?_getD, List.getElem?_eq_getElem (by omega), Option.getD_some] at e; exact e

/-- The best of those below i that are not done. -/
def BestR (ws : List Int) (k i : Nat) (bv : Int) : Prop :=
  (bv = -1 ∧ ∀ j, j < i → dnB ws k j = true) ∨ ∃ b : Nat, bv = (b : Int) ∧ b < i ∧ dnB ws k b = false ∧ ∀ j, j < i → dnB ws k j = false → j ≠ b → Bf ws b j

theorem best_next {ws : List Int} {k : Nat} (hk : k < ws.length) : dnB ws k ((hvL ws).getD k 0).toNat = false := by
  have hp := (hvL_keep ws).2 k (by rw [(hvL_keep ws).1]; exact hk)
  rw [← Bool.not_eq_true, dn_iff (by omega)]
  rintro ⟨p, h1, h2⟩
  have := (hvL_srt ws).1 p k h1 hk
  rw [h2, Int.toNat_of_nonneg hp.1] at this
  exact this.irr

theorem best_end {ws : List Int} {k : Nat} {bv : Int} (hk : k < ws.length) (h : BestR ws k ws.length bv) : bv = (hvL ws).getD k 0 ∧ 0 ≤ bv ∧ bv < ws.length := by
  have hp := (hvL_keep ws).2 k (by rw [(hvL_keep ws).1]; exact hk)
  have hn := best_next hk
  rcases h with ⟨_, h⟩ | ⟨b, rfl, hb, hd, h⟩
  · rw [h ((hvL ws).getD k 0).toNat (by omega)] at hn
    cases hn
  · refine ⟨?_, by omega, by omega⟩
    obtain ⟨q, hq, hqe⟩ := (hvL_srt ws).2 b hb
    have hkq : k ≤ q := by
      by_cases h1 : k ≤ q
      · exact h1
      · have := (dn_iff (k := k) (i := b) (by omega)).2 ⟨q, by omega, hqe⟩
        rw [this] at hd
        cases hd
    by_cases h1 : q = k
    · rw [← h1]; exact hqe.symm
    · exfalso
      have h2 := (hvL_srt ws).1 k q (by omega) hq
      rw [hqe] at h2
      have h3 := h ((hvL ws).getD k 0).toNat (by omega) hn (fun e => by
        have : ((hvL ws).getD k 0) = (b : Int) := by omega
        rw [this] at h2
        exact h2.irr)
      rw [Int.toNat_of_nonneg hp.1] at h3
      exact (h3.trans h2).irr

theorem or_num : ∀ s, s < 256 → ∀ b, b < 8 → s.testBit b = false → s + 2 ^ b = s ||| 2 ^ b := by decide +kernel

/-- What has been taken is done. -/
theorem grT_dn {bs ws : List Int} : ∀ (k : Nat) (i : Nat), k ≤ ws.length → (grT bs ws (hvL ws) k).1.testBit i = true → dnB ws k i = true
  | 0, i, _, h => by simp [grT] at h
  | k + 1, i, hk, h => by
    have hp := (hvL_keep ws).2 k (by rw [(hvL_keep ws).1]; omega)
    have ih := grT_dn (bs := bs) (ws := ws) k i (by omega)
    have up : dnB ws k i = true → dnB ws (k + 1) i = true := fun h => by
      obtain ⟨p, h1, h2⟩ := (dn_iff (ws := ws) (k := k) (i := i) (by omega)).1 h
      exact (dn_iff (ws := ws) (k := k + 1) (i := i) (by omega)).2 ⟨p, by omega, h2⟩
    simp only [grT] at h
    split at h
    · rw [Nat.testBit_or, Bool.or_eq_true] at h
      rcases h with h | h
      · exact up (ih h)
      · rw [Nat.testBit_two_pow] at h
        have : ((hvL ws).getD k 0).toNat = i := by simpa using h
        exact (dn_iff (ws := ws) (k := k + 1) (i := i) (by omega)).2 ⟨k, by omega, by omega⟩
    · exact up (ih h)

end Go.Proofs.YtkdileeahbaobaaDoor
