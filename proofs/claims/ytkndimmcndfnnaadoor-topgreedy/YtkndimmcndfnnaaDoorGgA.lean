import Derived.Test.YtkndimmcndfnnaaDoorGm0
import Derived.Test.YtkndimmcndfnnaaDoorMt14
import Derived.Test.YtkndimmcndfnnaaDoorMt16
import Derived.Test.YtkndimmcndfnnaaDoorMt15
/- What bases exchange gives: free sets grow; greed takes the best. -/
namespace Go.Proofs.YtkndimmcndfnnaaDoor
open Go.RowKit

/-- A matroid by its bases. -/
structure Mto (n q : Nat) (bs : List Int) : Prop where
  n8 : n ≤ 8
  sz : ∀ z ∈ bs, ∃ B : Nat, z = (B : Int) ∧ B < 2 ^ n ∧ szN B = q
  ex : AllY bs
  ne : ∃ B : Nat, (B : Int) ∈ bs
  ris : Ris bs

theorem mat_mto {n : Nat} {bs : List Int} (h : matE (n : Int) bs = 0) : ∃ q, Mto n q bs := by
  obtain ⟨hb8, hN0, hN8⟩ := mat_b8 h
  have hn8 : n ≤ 8 := by omega
  have hl : 0 < bs.length := by
    rcases Nat.eq_zero_or_pos bs.length with h0 | h0
    · exfalso
      unfold matE at h
      rw [h0] at h
      simp at h
      omega
    · exact h0
  have hst : ∀ i, i < bs.length → stepE n bs i = 0 := by
    rw [matE_ok hn8 hl] at h
    by_cases hs : scanE (stepE n bs) bs.length ≠ 0
    · rw [if_pos hs] at h
      exact absurd h hs
    · intro i hi
      have hs0 : scanE (stepE n bs) bs.length = 0 := by omega
      rcases Classical.em (∃ k, k < bs.length ∧ stepE n bs k ≠ 0) with ⟨k, hk, hne⟩ | hno
      · exfalso
        have hex : ∃ k, k < bs.length ∧ stepE n bs k ≠ 0 ∧ ∀ i, i < k → stepE n bs i = 0 := by
          induction k using Nat.strongRecOn with
          | ind k ih =>
            rcases Classical.em (∃ j, j < k ∧ stepE n bs j ≠ 0) with ⟨j, hj, hj2⟩ | hn
            · exact ih j hj (by omega) hj2
            · exact ⟨k, hk, hne, fun i hi => Classical.byContradiction fun h => hn ⟨i, hi, h⟩⟩
        obtain ⟨k, hk, hne, hall⟩ := hex
        have := scan_hit (f := stepE n bs) hall hne hk
        rw [hs0] at this
        exact hne this.symm
      · exact Classical.byContradiction fun h => hno ⟨i, hi, h⟩
  have hex : exB bs = true := by
    rw [matE_end hn8 hl hst] at h
    by_cases c : exB bs = true
    · exact c
    · rw [if_neg c] at h; cases h
  have hsz : ∀ z ∈ bs, ∃ B : Nat, z = (B : Int) ∧ B < 2 ^ n ∧ szN B = szI (bs.getD 0 0) := fun z hz => by
    obtain ⟨k, hk, rfl⟩ := List.getElem_of_mem hz
    have h0 := step0.1 (hst k hk)
    have h1 := h0.lo
    have h2 := h0.hi
    have h3 := h0.sz
    rw [show bs.getD k 0 = bs[k] by simp [hk]] at h1 h2 h3
    refine ⟨bs[k].toNat, by omega, ?_, h3⟩
    have : ((2 ^ n : Nat) : Int) = (2 : Int) ^ n := by simp
    rw [← this] at h2
    omega
  refine ⟨szI (bs.getD 0 0), hn8, hsz, (exB_iff hb8).1 hex, ?_, st_ris hst⟩
  obtain ⟨B, e, _⟩ := hsz (bs.getD 0 0) (by simp [hl])
  exact ⟨B, by rw [← e]; simp [hl]⟩

theorem Mto.b8 {n q : Nat} {bs : List Int} (h : Mto n q bs) : B8 bs := fun z hz => by
  obtain ⟨B, rfl, h1, _⟩ := h.sz z hz
  have := lt_256 h.n8 h1
  omega

theorem Mto.bas {n q : Nat} {bs : List Int} (h : Mto n q bs) {B : Nat} (hB : (B : Int) ∈ bs) : B < 2 ^ n ∧ szN B = q := by
  obtain ⟨B', e, h1, h2⟩ := h.sz _ hB
  have : B = B' := by omega
  subst this
  exact ⟨h1, h2⟩

theorem Mto.free {n q : Nat} {bs : List Int} (h : Mto n q bs) {s : Nat} : freeB bs s = true ↔ ∃ B : Nat, (B : Int) ∈ bs ∧ Sub s B := fr_iff h.b8

/-- How many things of a set are outside of another. -/
theorem sz_split {a b : Nat} : szN (a &&& b) + szN (outN a b) = szN a := by
  unfold szN mem8 memTo
  simp only [List.length_map, ← List.countP_eq_length_filter]
  have : ∀ k, (List.range k).countP (fun i => (a &&& b).testBit i) + (List.range k).countP (fun i => (outN a b).testBit i) = (List.range k).countP (fun i => a.testBit i) := fun k => by
    induction k with
    | zero => rfl
    | succ k ih =>
      rw [List.range_succ, List.countP_append, List.countP_append, List.countP_append, List.countP_singleton, List.countP_singleton, List.countP_singleton, Nat.testBit_and, outN_bit]
      generalize (List.range k).countP (fun i => (a &&& b).testBit i) = x at *
      generalize (List.range k).countP (fun i => (outN a b).testBit i) = y at *
      generalize (List.range k).countP (fun i => a.testBit i) = z at *
      cases a.testBit k <;> cases b.testBit k <;> simp <;> omega
  exact this 8

/-- A basis about a, of a and of b alone. -/
theorem Mto.within {n q : Nat} {bs : List Int} (h : Mto n q bs) {a B2 : Nat} (hB2 : (B2 : Int) ∈ bs) : ∀ (m B1 : Nat), (B1 : Int) ∈ bs → Sub a B1 → szN (outN B1 (a ||| B2)) ≤ m → ∃ B : Nat, (B : Int) ∈ bs ∧ Sub a B ∧ Sub B (a ||| B2)
  | m, B1, hB1, ha, hm => by
    by_cases hin : Sub B1 (a ||| B2)
    · exact ⟨B1, hB1, ha, hin⟩
    · obtain ⟨x, hx1, hx2⟩ : ∃ x, B1.testBit x = true ∧ (a ||| B2).testBit x = false := by
        refine Classical.byContradiction fun hn => hin fun i hi => ?_
        cases e : (a ||| B2).testBit i with
        | true => rfl
        | false => exact absurd ⟨i, hi, e⟩ hn
      have hx8 : x < 8 := Nat.lt_of_lt_of_le (bit_lt (h.bas hB1).1 hx1) h.n8
      rw [Nat.testBit_or, Bool.or_eq_false_iff] at hx2
      obtain ⟨y, y1, y2, y3⟩ := h.ex B1 B2 x hB1 hB2 hx1
      have hox : (outN B1 (a ||| B2)).testBit x = true := by
        rw [outN_bit, hx1, Nat.testBit_or, hx2.1, hx2.2]; rfl
      have hs := sz_out hx8 hox
      have hle : szN (outN (outN B1 (2 ^ x) ||| 2 ^ y) (a ||| B2)) ≤ szN (outN (outN B1 (a ||| B2)) (2 ^ x)) := szN_mono fun i hi => by
        rw [outN_bit, or_bit, out1_bit, Nat.testBit_or] at hi
        rw [out1_bit, outN_bit, Nat.testBit_or]
        by_cases e : y = i
        · subst e
          rw [y1] at hi
          simp at hi
        · simp only [e, decide_false, Bool.or_false] at hi
          revert hi
          cases B1.testBit i <;> cases a.testBit i <;> cases B2.testBit i <;> simp
      match m, hm with
      | 0, hm => omega
      | m + 1, hm =>
        refine Mto.within h hB2 m (outN B1 (2 ^ x) ||| 2 ^ y) y3 (fun i hi => ?_) (by omega)
        rw [or_bit, out1_bit, ha i hi]
        by_cases e : x = i
        · subst e
          rw [hx2.1] at hi
          cases hi
        · simp [e]

/-- Free sets grow. -/
theorem Mto.grow {n q : Nat} {bs : List Int} (h : Mto n q bs) {a b : Nat} (ha : freeB bs a = true) (hb : freeB bs b = true) (hlt : szN a < szN b) : ∃ y, b.testBit y = true ∧ a.testBit y = false ∧ freeB bs (a ||| 2 ^ y) = true := by
  obtain ⟨B1, hB1, hs1⟩ := h.free.1 ha
  obtain ⟨B2, hB2, hs2⟩ := h.free.1 hb
  obtain ⟨B, hB, s1, s2⟩ := h.within (a := a) hB2 _ B1 hB1 hs1 (Nat.le_refl _)
  have q1 := (h.bas hB).2
  have q2 := (h.bas hB2).2
  have hy : ∃ y, B.testBit y = true ∧ a.testBit y = false ∧ b.testBit y = true := by
    refine Classical.byContradiction fun hn => ?_
    have h1 := sz_split (a := B) (b := a)
    have h2 := sz_split (a := B2) (b := b)
    have h3 : szN (B &&& a) ≤ szN a := szN_mono fun i hi => by rw [Nat.testBit_and] at hi; simp at hi; exact hi.2
    have h4 : szN b ≤ szN (B2 &&& b) := szN_mono fun i hi => by rw [Nat.testBit_and, hs2 i hi, hi]; rfl
    have h5 : szN (outN B a) ≤ szN (outN B2 b) := szN_mono fun i hi => by
      rw [outN_bit, Bool.and_eq_true, Bool.not_eq_true'] at hi
      have h6 := s2 i hi.1
      rw [Nat.testBit_or, hi.2, Bool.false_or] at h6
      rw [outN_bit, h6]
      cases e : b.testBit i with
      | false => rfl
      | true => exact absurd ⟨i, hi.1, hi.2, e⟩ hn
    omega
  obtain ⟨y, y1, y2, y3⟩ := hy
  refine ⟨y, y3, y2, h.free.2 ⟨B, hB, fun i hi => ?_⟩⟩
  rw [or_bit] at hi
  by_cases e : y = i
  · subst e; exact y1
  · simp only [e, decide_false, Bool.or_false] at hi
    exact s1 i hi

theorem Mto.sub {n q : Nat} {bs : List Int} (h : Mto n q bs) {a b : Nat} (hs : Sub a b) (hb : freeB bs b = true) : freeB bs a = true := by
  obtain ⟨B, hB, hs2⟩ := h.free.1 hb
  exact h.free.2 ⟨B, hB, fun i hi => hs2 i (hs i hi)⟩

theorem Mto.free0 {n q : Nat} {bs : List Int} (h : Mto n q bs) : freeB bs 0 = true := by
  obtain ⟨B, hB⟩ := h.ne
  exact h.free.2 ⟨B, hB, fun i hi => by simp at hi⟩

/-- Weights that fall, and never fewer taken: no less in all. -/
theorem abel {w g b : Nat → Int} (h0 : g 0 = b 0) : ∀ n, (∀ i, i < n → w (i + 1) ≤ w i) → (∀ k, k ≤ n + 1 → b k ≤ g k) → w n * (g (n + 1) - b (n + 1)) ≤ sumN (fun k => w k * (g (k + 1) - g k)) (n + 1) - sumN (fun k => w k * (b (k + 1) - b k)) (n + 1)
  | 0, _, _ => by
    simp only [sumN]
    rw [h0]
    have : w 0 * (g (0 + 1) - b (0 + 1)) = 0 + w 0 * (g (0 + 1) - b 0) - (0 + w 0 * (b (0 + 1) - b 0)) := by grind
    omega
  | n + 1, hw, hd => by
    have ih := abel h0 n (fun i hi => hw i (by omega)) (fun k hk => hd k (by omega))
    have h1 := hw n (by omega)
    have h2 := hd (n + 1) (by omega)
    have h3 : w (n + 1) * (g (n + 1) - b (n + 1)) ≤ w n * (g (n + 1) - b (n + 1)) := Int.mul_le_mul_of_nonneg_right h1 (by omega)
    have e1 : sumN (fun k => w k * (g (k + 1) - g k)) (n + 1 + 1) = sumN (fun k => w k * (g (k + 1) - g k)) (n + 1) + w (n + 1) * (g (n + 1 + 1) - g (n + 1)) := rfl
    have e2 : sumN (fun k => w k * (b (k + 1) - b k)) (n + 1 + 1) = sumN (fun k => w k * (b (k + 1) - b k)) (n + 1) + w (n + 1) * (b (n + 1 + 1) - b (n + 1)) := rfl
    rw [e1, e2]
    have e3 : w (n + 1) * (g (n + 1 + 1) - b (n + 1 + 1)) = w (n + 1) * (g (n + 1 + 1) - g (n + 1)) - w (n + 1) * (b (n + 1 + 1) - b (n + 1)) + w (n + 1) * (g (n + 1) - b (n + 1)) := by grind
    omega

end Go.Proofs.YtkndimmcndfnnaaDoor

/- Greed takes the best of a matroid, pure. -/
namespace Go.Proofs.YtkndimmcndfnnaaDoor
open Go.RowKit

theorem wgh_or {ws : List Int} {s y : Nat} (hy : y < 8) (h : s.testBit y = false) : wgh ws (s ||| 2 ^ y) = wgh ws s + ws.getD y 0 := by
  unfold wgh
  have : ∀ k, sumN (fun i => if (s ||| 2 ^ y).testBit i = true then ws.getD i 0 else 0) k = sumN (fun i => if s.testBit i = true then ws.getD i 0 else 0) k + if y < k then ws.getD y 0 else 0 := fun k => by
    induction k with
    | zero => simp [sumN]
    | succ k ih =>
      simp only [sumN]
      rw [ih, or_bit]
      by_cases e : y = k
      · subst e
        rw [h, if_neg (by omega), if_pos (show y < y + 1 by omega)]
        simp
      · by_cases c : y < k
        · rw [if_pos c, if_pos (show y < k + 1 by omega)]
          simp only [e, decide_false, Bool.or_false]
          omega
        · rw [if_neg c, if_neg (show ¬ y < k + 1 by omega)]
          simp only [e, decide_false, Bool.or_false]
          omega
  rw [this 8, if_pos hy]

/-- Places in an order, each once. -/
structure Pls (n : Nat) (l : List Int) : Prop where
  n8 : n ≤ 8
  rng : ∀ k, k < n → ∃ i : Nat, l.getD k 0 = (i : Int) ∧ i < n
  inj : ∀ p q, p < n → q < n → l.getD p 0 = l.getD q 0 → p = q
  onto : ∀ i : Nat, i < n → ∃ q, q < n ∧ l.getD q 0 = (i : Int)

/-- The things of B among the first k. -/
def aN (l : List Int) (B : Nat) : Nat → Nat
  | 0 => 0
  | k + 1 => if B.testBit (l.getD k 0).toNat = true then aN l B k ||| 2 ^ (l.getD k 0).toNat else aN l B k

theorem aN_bit {n : Nat} {l : List Int} (h : Pls n l) (B i : Nat) : ∀ k, k ≤ n → ((aN l B k).testBit i = true ↔ B.testBit i = true ∧ ∃ p, p < k ∧ l.getD p 0 = (i : Int))
  | 0, _ => by simp [aN]
  | k + 1, hk => by
    obtain ⟨x, hx, _⟩ := h.rng k (by omega)
    have ih := aN_bit h B i k (by omega)
    have hnx : (∃ p, p < k + 1 ∧ l.getD p 0 = (i : Int)) ↔ (∃ p, p < k ∧ l.getD p 0 = (i : Int)) ∨ x = i := by
      constructor
      · rintro ⟨p, hp, e⟩
        by_cases c : p = k
        · right; subst c; rw [hx] at e; omega
        · left; exact ⟨p, by omega, e⟩
      · rintro (⟨p, hp, e⟩ | rfl)
        · exact ⟨p, by omega, e⟩
        · exact ⟨k, by omega, hx⟩
    simp only [aN]
    rw [hnx, hx, Int.toNat_natCast]
    by_cases c : B.testBit x = true
    · rw [if_pos c, or_bit, Bool.or_eq_true, ih, decide_eq_true_iff]
      constructor
      · rintro (⟨h1, h2⟩ | rfl)
        · exact ⟨h1, .inl h2⟩
        · exact ⟨c, .inr rfl⟩
      · rintro ⟨h1, h2 | h2⟩
        · exact .inl ⟨h1, h2⟩
        · exact .inr h2
    · rw [if_neg c, ih]
      constructor
      · rintro ⟨h1, h2⟩; exact ⟨h1, .inl h2⟩
      · rintro ⟨h1, h2 | h2⟩
        · exact ⟨h1, h2⟩
        · subst h2; exact absurd h1 c

theorem aN_new {n : Nat} {l : List Int} (h : Pls n l) (B : Nat) {k : Nat} (hk : k < n) : (aN l B k).testBit (l.getD k 0).toNat = false := by
  obtain ⟨x, hx, _⟩ := h.rng k hk
  cases e : (aN l B k).testBit (l.getD k 0).toNat with
  | false => rfl
  | true =>
    rw [hx, Int.toNat_natCast] at e
    obtain ⟨_, p, hp, hp2⟩ := (aN_bit h B x k (by omega)).1 e
    have := h.inj p k (by omega) hk (by rw [hp2, hx])
    omega

theorem aN_all {n : Nat} {l : List Int} (h : Pls n l) {B : Nat} (hB : B < 2 ^ n) : aN l B n = B := Nat.eq_of_testBit_eq fun i => by
  have hb := aN_bit h B i n (Nat.le_refl _)
  cases e : B.testBit i with
  | true => exact hb.2 ⟨e, h.onto i (bit_lt hB e)⟩
  | false =>
    cases e2 : (aN l B n).testBit i with
    | false => rfl
    | true => rw [e] at hb; exact absurd (hb.1 e2).1 (by simp)

theorem aN_step {n : Nat} {l ws : List Int} (h : Pls n l) (B : Nat) {k : Nat} (hk : k < n) : wgh ws (aN l B (k + 1)) = wgh ws (aN l B k) + ws.getD (l.getD k 0).toNat 0 * ((szN (aN l B (k + 1)) : Int) - szN (aN l B k)) := by
  have hn := aN_new h B hk
  obtain ⟨x, hx, hxn⟩ := h.rng k hk
  have hx8 : (l.getD k 0).toNat < 8 := by have := h.n8; omega
  simp only [aN]
  by_cases c : B.testBit (l.getD k 0).toNat = true
  · rw [if_pos c, wgh_or hx8 hn, sz_or hx8 hn]
    have : ((szN (aN l B k) + 1 : Nat) : Int) - szN (aN l B k) = 1 := by omega
    rw [this, Int.mul_one]
  · rw [if_neg c, Int.sub_self, Int.mul_zero, Int.add_zero]

theorem aN_sum {n : Nat} {l ws : List Int} (h : Pls n l) (B : Nat) : ∀ k, k ≤ n → wgh ws (aN l B k) = sumN (fun k => ws.getD (l.getD k 0).toNat 0 * ((szN (aN l B (k + 1)) : Int) - szN (aN l B k))) k
  | 0, _ => by
    have : ∀ k, sumN (fun i => if (0 : Nat).testBit i = true then ws.getD i 0 else 0) k = 0 := fun k => by
      induction k with
      | zero => rfl
      | succ k ih => simp only [sumN]; rw [ih]; simp
    exact this 8
  | k + 1, hk => by
    rw [aN_step h B (by omega), aN_sum h B k (by omega)]
    rfl

theorem hv_pls (ws : List Int) (h8 : ws.length ≤ 8) (hl : (hvL ws).length = ws.length) (hp : Pl ws.length (hvL ws)) : Pls ws.length (hvL ws) := by
  obtain ⟨h1, h2⟩ := hvL_srt ws
  refine ⟨h8, fun k hk => ?_, fun p q hp1 hq1 e => ?_, fun i hi => ?_⟩
  · obtain ⟨a, b⟩ := hp k (by omega)
    exact ⟨((hvL ws).getD k 0).toNat, by omega, by omega⟩
  · rcases Nat.lt_trichotomy p q with c | c | c
    · have := h1 p q c hq1
      rw [e] at this
      exact this.irr.elim
    · exact c
    · have := h1 q p c hp1
      rw [e] at this
      exact this.irr.elim
  · exact h2 i hi

theorem hv_fall (ws : List Int) {k : Nat} (hk : k + 1 < ws.length) : ws.getD ((hvL ws).getD (k + 1) 0).toNat 0 ≤ ws.getD ((hvL ws).getD k 0).toNat 0 := by
  have := (hvL_srt ws).1 k (k + 1) (by omega) hk
  rcases this with h | ⟨h, _⟩ <;> omega

section
variable {n q : Nat} {bs ws : List Int}

/-- What greed has taken after k. -/
theorem gr_bit {k i : Nat} (hk : k ≤ n) (hw : ws.length = n) (h : (grT bs ws (hvL ws) k).1.testBit i = true) : ∃ p, p < k ∧ (hvL ws).getD p 0 = (i : Int) := by
  have := grT_dn (bs := bs) (ws := ws) k i (by omega) h
  exact (dn_iff (by omega)).1 this

theorem gr_max (hm : Mto n q bs) {k p i : Nat} (hp : p < k) (hi : (hvL ws).getD p 0 = (i : Int)) (hn : (grT bs ws (hvL ws) k).1.testBit i = false) : freeB bs ((grT bs ws (hvL ws) k).1 ||| 2 ^ i) = false := by
  have hmono : ∀ {j}, (grT bs ws (hvL ws) p).1.testBit j = true → (grT bs ws (hvL ws) k).1.testBit j = true := fun {j} hj => by
    have := grT_mono (bs := bs) (ws := ws) (l := hvL ws) hj (k - p)
    rw [show p + (k - p) = k by omega] at this
    exact this
  have hnot : ¬ freeB bs ((grT bs ws (hvL ws) p).1 ||| 2 ^ ((hvL ws).getD p 0).toNat) = true := fun hf => by
    have h1 := grT_take hf
    have h2 := grT_mono (bs := bs) (ws := ws) (l := hvL ws) h1 (k - (p + 1))
    rw [show p + 1 + (k - (p + 1)) = k by omega, hi, Int.toNat_natCast, hn] at h2
    cases h2
  rw [hi, Int.toNat_natCast] at hnot
  cases e : freeB bs ((grT bs ws (hvL ws) k).1 ||| 2 ^ i) with
  | false => rfl
  | true =>
    refine absurd (hm.sub (fun j hj => ?_) e) hnot
    rw [or_bit, Bool.or_eq_true] at hj ⊢
    rcases hj with hj | hj
    · exact .inl (hmono hj)
    · exact .inr hj

/-- No free set among the first k has more. -/
theorem gr_most (hm : Mto n q bs) {k A : Nat} (hA : freeB bs A = true) (hin : ∀ i, A.testBit i = true → ∃ p, p < k ∧ (hvL ws).getD p 0 = (i : Int)) : szN A ≤ szN (grT bs ws (hvL ws) k).1 := by
  refine Nat.not_lt.1 fun hlt => ?_
  obtain ⟨y, y1, y2, y3⟩ := hm.grow (grT_free hm.free0 k) hA hlt
  obtain ⟨p, hp, e⟩ := hin y y1
  rw [gr_max hm hp e y2] at y3
  cases y3

theorem gr_sum (hl : Pls n (hvL ws)) (hw : ws.length = n) : ∀ k, k ≤ n → (grT bs ws (hvL ws) k).2 = wgh ws (grT bs ws (hvL ws) k).1
  | 0, _ => by
    have : ∀ k, sumN (fun i => if (0 : Nat).testBit i = true then ws.getD i 0 else 0) k = 0 := fun k => by
      induction k with
      | zero => rfl
      | succ k ih => simp only [sumN]; rw [ih]; simp
    exact (this 8).symm
  | k + 1, hk => by
    have ih := gr_sum hl hw k (by omega)
    obtain ⟨x, hx, hxn⟩ := hl.rng k (by omega)
    have hn : (grT bs ws (hvL ws) k).1.testBit ((hvL ws).getD k 0).toNat = false := by
      cases e : (grT bs ws (hvL ws) k).1.testBit ((hvL ws).getD k 0).toNat with
      | false => rfl
      | true =>
        rw [hx, Int.toNat_natCast] at e
        obtain ⟨p, hp, e2⟩ := gr_bit (by omega) hw e
        have := hl.inj p k (by omega) (by omega) (by rw [e2, hx])
        omega
    simp only [grT]
    split
    · rw [wgh_or (by have := hl.n8; omega) hn, ih]
    · exact ih

theorem gr_lt (hl : Pls n (hvL ws)) (hw : ws.length = n) {k : Nat} (hk : k ≤ n) : (grT bs ws (hvL ws) k).1 < 2 ^ n := by
  refine Nat.lt_pow_two_of_testBit _ fun i hi => ?_
  cases e : (grT bs ws (hvL ws) k).1.testBit i with
  | false => rfl
  | true =>
    obtain ⟨p, hp, e2⟩ := gr_bit hk hw e
    obtain ⟨x, hx, hxn⟩ := hl.rng p (by omega)
    omega

theorem gr_aN (hm : Mto n q bs) (hl : Pls n (hvL ws)) (hw : ws.length = n) {k : Nat} (hk : k ≤ n) : aN (hvL ws) (grT bs ws (hvL ws) n).1 k = (grT bs ws (hvL ws) k).1 := Nat.eq_of_testBit_eq fun i => by
  have hb := aN_bit hl (grT bs ws (hvL ws) n).1 i k hk
  have hup : ∀ {j p}, p ≤ n → (grT bs ws (hvL ws) p).1.testBit j = true → (grT bs ws (hvL ws) n).1.testBit j = true := fun {j p} hp hj => by
    have := grT_mono (bs := bs) (ws := ws) (l := hvL ws) hj (n - p)
    rw [show p + (n - p) = n by omega] at this
    exact this
  cases e : (grT bs ws (hvL ws) k).1.testBit i with
  | true => exact hb.2 ⟨hup hk e, gr_bit hk hw e⟩
  | false =>
    cases e2 : (aN (hvL ws) (grT bs ws (hvL ws) n).1 k).testBit i with
    | false => rfl
    | true =>
      obtain ⟨h1, p, hp, hp2⟩ := hb.1 e2
      have hnf := gr_max hm hp hp2 e
      refine absurd (hm.sub (fun j hj => ?_) (grT_free (bs := bs) (ws := ws) (l := hvL ws) hm.free0 n)) (by rw [hnf]; simp)
      rw [or_bit, Bool.or_eq_true] at hj
      rcases hj with hj | hj
      · exact hup hk hj
      · have : i = j := by simpa using hj
        rw [← this]; exact h1

/-- What greed takes is a basis, of the greatest weight. -/
theorem greed_best (hm : Mto n q bs) (hl : Pls n (hvL ws)) (hw : ws.length = n) (hn1 : 1 ≤ n) : ((grT bs ws (hvL ws) n).1 : Int) ∈ bs ∧ (grT bs ws (hvL ws) n).2 = wgh ws (grT bs ws (hvL ws) n).1 ∧ ∀ B : Nat, (B : Int) ∈ bs → wgh ws B ≤ wgh ws (grT bs ws (hvL ws) n).1 := by
  have hfree := grT_free (bs := bs) (ws := ws) (l := hvL ws) hm.free0 n
  have hGlt := gr_lt (bs := bs) hl hw (Nat.le_refl n)
  have hself : ∀ B : Nat, (B : Int) ∈ bs → freeB bs B = true := fun B hB => hm.free.2 ⟨B, hB, fun i hi => hi⟩
  have hG : ((grT bs ws (hvL ws) n).1 : Int) ∈ bs := by
    obtain ⟨B, hB, hs⟩ := hm.free.1 hfree
    have hBl := hm.bas hB
    have h1 := gr_most (k := n) hm (hself B hB) (fun i hi => hl.onto i (bit_lt hBl.1 hi))
    have h2 : szN (grT bs ws (hvL ws) n).1 ≤ szN B := szN_mono hs
    have e : (grT bs ws (hvL ws) n).1 = B := sub_pc (lt_256 hm.n8 hGlt) (lt_256 hm.n8 hBl.1) hs (by
      rw [← pc_mem8, ← pc_mem8]
      show ((szN _ : Nat) : Int) = ((szN _ : Nat) : Int)
      omega)
    rw [e]; exact hB
  refine ⟨hG, gr_sum hl hw n (Nat.le_refl n), fun B hB => ?_⟩
  have hBl := hm.bas hB
  obtain ⟨m, hmn⟩ : ∃ m, n = m + 1 := ⟨n - 1, by omega⟩
  have ha := abel (w := fun k => ws.getD ((hvL ws).getD k 0).toNat 0) (g := fun k => (szN (aN (hvL ws) (grT bs ws (hvL ws) n).1 k) : Int)) (b := fun k => (szN (aN (hvL ws) B k) : Int)) rfl m (fun i hi => hv_fall ws (by omega)) (fun k hk => by
    have h1 : szN (aN (hvL ws) B k) ≤ szN (grT bs ws (hvL ws) k).1 := gr_most hm (hm.sub (fun i hi => ((aN_bit hl B i k (by omega)).1 hi).1) (hself B hB)) (fun i hi => ((aN_bit hl B i k (by omega)).1 hi).2)
    rw [gr_aN hm hl hw (by omega)]
    omega)
  have e1 := aN_sum (ws := ws) hl B n (Nat.le_refl n)
  have e2 := aN_sum (ws := ws) hl (grT bs ws (hvL ws) n).1 n (Nat.le_refl n)
  rw [← hmn] at ha
  have e3 : (szN (aN (hvL ws) (grT bs ws (hvL ws) n).1 n) : Int) - szN (aN (hvL ws) B n) = 0 := by
    rw [aN_all hl hBl.1, aN_all hl hGlt, (hm.bas hG).2, hBl.2]; omega
  rw [e3, Int.mul_zero] at ha
  rw [aN_all hl hBl.1] at e1
  rw [aN_all hl hGlt] at e2
  rw [e1, e2]
  omega

end

end Go.Proofs.YtkndimmcndfnnaaDoor
