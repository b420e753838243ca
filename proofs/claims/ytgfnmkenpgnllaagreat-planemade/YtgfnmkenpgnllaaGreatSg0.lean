/- Signs of planes (pure): which signs places have, and how texts of signs grow. -/
import Derived.Test.YtgfnmkenpgnllaaGreatLp5
import Derived.Test.YtgfnmkenpgnllaaGreatLp8
namespace Go.Proofs.YtgfnmkenpgnllaaGreat
open Lin

/-- How far a place (its last number: of what) is above a plane. -/
def hv (d : Nat) (r : List Int) (z : Nat → Int) : Int := dot d (V r) z - V r d * z d

theorem hv_lc (d : Nat) (r : List Int) (a b : Int) (z y : Nat → Int) : hv d r (fun k => a * z k + b * y k) = a * hv d r z + b * hv d r y := by
  unfold hv
  rw [dot_comm d (V r) fun k => a * z k + b * y k, dot_lc, dot_comm d z, dot_comm d y]
  grind

def ngL (p : List Int) : List Int := p.map fun z => -z

theorem ng_V (p : List Int) (i : Nat) : V (ngL p) i = - V p i := by
  simp only [V, ngL]
  by_cases h : i < p.length
  · simp [h]
  · simp [h]

theorem hv_ng (d : Nat) (p : List Int) (z : Nat → Int) : hv d (ngL p) z = - hv d p z := by
  unfold hv
  have e : dot d (V (ngL p)) z = - dot d (V p) z := by
    rw [← dot_neg]
    exact dot_congr (fun i _ => ng_V p i) (fun _ _ => rfl)
  rw [e, ng_V]
  grind

/-- What a sign says of how far a place is above. -/
def SgO (c : UInt8) (v : Int) : Prop := (c = 43 ∧ 0 < v) ∨ (c = 45 ∧ v < 0) ∨ (c = 48 ∧ v = 0)

/-- A place has these signs. -/
def HasS (d : Nat) (P : List (List Int)) (s : List UInt8) (z : Nat → Int) : Prop := 0 < z d ∧ ∀ i, i < s.length → SgO (s.getD i 0) (hv d (P.getD i []) z)

/-- The rows of one sign. -/
def clO (p : List Int) (c : UInt8) : List (List Int) := (if c = 43 then [] else [p]) ++ (if c = 45 then [] else [ngL p])
def clT (P : List (List Int)) (s : List UInt8) (k : Nat) : List (List Int) := (List.range k).flatMap fun i => clO (P.getD i []) (s.getD i 0)
def clR (P : List (List Int)) (s : List UInt8) : List (List Int) := clT P s s.length

theorem clT_succ (P : List (List Int)) (s : List UInt8) (k : Nat) : clT P s (k + 1) = clT P s k ++ clO (P.getD k []) (s.getD k 0) := by
  simp [clT, List.range_succ, List.flatMap_append]

theorem clO_len (p : List Int) (c : UInt8) : (clO p c).length ≤ 2 := by
  unfold clO
  split <;> split <;> simp

theorem clT_len (P : List (List Int)) (s : List UInt8) (k : Nat) : (clT P s k).length ≤ 2 * k := by
  induction k with
  | zero => simp [clT]
  | succ k ih =>
    rw [clT_succ, List.length_append]
    have := clO_len (P.getD k []) (s.getD k 0)
    omega

theorem clT_mem {P : List (List Int)} {s : List UInt8} {k : Nat} {r : List Int} (h : r ∈ clT P s k) : ∃ i, i < k ∧ (r = P.getD i [] ∨ r = ngL (P.getD i [])) := by
  simp only [clT, List.mem_flatMap, List.mem_range] at h
  obtain ⟨i, hi, h⟩ := h
  refine ⟨i, hi, ?_⟩
  unfold clO at h
  rcases List.mem_append.1 h with h | h
  · split at h
    · simp at h
    · exact .inl (by simpa using h)
  · split at h
    · simp at h
    · exact .inr (by simpa using h)

/-- Next to a sign. -/
def SgC (c : UInt8) (v : Int) : Prop := (c ≠ 43 → v ≤ 0) ∧ (c ≠ 45 → 0 ≤ v)

theorem cl_fea {d : Nat} {P : List (List Int)} {s : List UInt8} {z : Nat → Int} : Fea d (clR P s) z (z d) ↔ 0 < z d ∧ ∀ i, i < s.length → SgC (s.getD i 0) (hv d (P.getD i []) z) := by
  constructor
  · rintro ⟨h0, h⟩
    refine ⟨h0, fun i hi => ⟨fun hc => ?_, fun hc => ?_⟩⟩
    · have := h (P.getD i []) (by
        simp only [clR, clT, List.mem_flatMap, List.mem_range]
        exact ⟨i, hi, by simp only [clO, if_neg hc]; simp⟩)
      unfold hv; omega
    · have := h (ngL (P.getD i [])) (by
        simp only [clR, clT, List.mem_flatMap, List.mem_range]
        exact ⟨i, hi, by simp only [clO, if_neg hc]; simp⟩)
      have e := hv_ng d (P.getD i []) z
      unfold hv at e ⊢; omega
  · rintro ⟨h0, h⟩
    refine ⟨h0, fun r hr => ?_⟩
    simp only [clR, clT, List.mem_flatMap, List.mem_range] at hr
    obtain ⟨i, hi, hr⟩ := hr
    obtain ⟨h1, h2⟩ := h i hi
    unfold clO at hr
    rcases List.mem_append.1 hr with hr | hr
    · split at hr
      · simp at hr
      · rename_i hc
        have := h1 hc
        simp only [List.mem_singleton] at hr
        subst hr
        unfold hv at this; omega
    · split at hr
      · simp at hr
      · rename_i hc
        have := h2 hc
        simp only [List.mem_singleton] at hr
        subst hr
        have e := hv_ng d (P.getD i []) z
        unfold hv at e this; omega

theorem SgO.near {c : UInt8} {v : Int} (h : SgO c v) : SgC c v := by
  rcases h with ⟨rfl, h⟩ | ⟨rfl, h⟩ | ⟨rfl, h⟩
  · exact ⟨fun q => absurd rfl q, fun _ => by omega⟩
  · exact ⟨fun _ => by omega, fun q => absurd rfl q⟩
  · exact ⟨fun _ => by omega, fun _ => by omega⟩

theorem HasS.fea {d : Nat} {P : List (List Int)} {s : List UInt8} {z : Nat → Int} (h : HasS d P s z) : Fea d (clR P s) z (z d) := cl_fea.2 ⟨h.1, fun i hi => (h.2 i hi).near⟩

theorem SgO.add {c : UInt8} {v u a b : Int} (h : SgO c v) (hu : SgC c u) (ha : 0 < a) (hb : 0 ≤ b) : SgO c (a * v + b * u) := by
  rcases h with ⟨rfl, h⟩ | ⟨rfl, h⟩ | ⟨rfl, h⟩
  · have h1 := hu.2 (by decide)
    have := Int.mul_pos ha h
    have := Int.mul_nonneg hb h1
    exact .inl ⟨rfl, by omega⟩
  · have h1 := hu.1 (by decide)
    have := Int.mul_neg_of_pos_of_neg ha h
    have := Int.mul_nonpos_of_nonneg_of_nonpos hb h1
    exact .inr (.inl ⟨rfl, by omega⟩)
  · have h1 := hu.1 (by decide)
    have h2 := hu.2 (by decide)
    have : u = 0 := by omega
    subst this h
    exact .inr (.inr ⟨rfl, by simp⟩)

/-- There is something above a plane within rows. -/
def Abv (d : Nat) (rows : List (List Int)) (p : List Int) : Prop := ∃ z : Nat → Int, Fea d rows z (z d) ∧ 0 < hv d p z

theorem V_take {p : List Int} {d i : Nat} (h : i < d) : V (p.take d) i = V p i := take_at h

theorem dot_take (d : Nat) (p : List Int) (z : Nat → Int) : dot d (V (p.take d)) z = dot d (V p) z := dot_congr (fun _ h => V_take h) fun _ _ => rfl

theorem fea_z {d : Nat} {rows : List (List Int)} {x : Nat → Int} {w : Int} (h : Fea d rows x w) : ∃ z : Nat → Int, Fea d rows z (z d) ∧ z d = w ∧ ∀ a : Nat → Int, dot d a z = dot d a x := by
  have e : ∀ a : Nat → Int, dot d a (fun k => if k = d then w else x k) = dot d a x := fun a => dot_congr (fun _ _ => rfl) fun i hi => by simp [show i ≠ d by omega]
  refine ⟨fun k => if k = d then w else x k, ⟨by simpa using h.1, fun r hr => ?_⟩, by simp, e⟩
  rw [e]
  simpa using h.2 r hr

theorem ga_iff {d : Nat} {rows : List (List Int)} {p : List Int} {a b : Int} (hp : p.length = d + 1) (hf : ∃ x w, Fea d rows x w) (hB : BestV d rows (p.take d) a b) :
    (gmE d rows (p.take d) = 7 ∨ V p d * b < a) ↔ Abv d rows p := by
  have hg : (p.take d).length = d := by simp; omega
  have he : empB d rows = false := emp_fea.2 hf
  rcases hB with ⟨hne, ha, hb⟩ | ⟨y, h0, hy, hlow⟩
  · have h7 : gmE d rows (p.take d) = 7 ∧ waysL rows (p.take d) = [] := by
      unfold gmE at hne ⊢
      rw [if_neg (by simp [he])] at hne ⊢
      split at hne
      · rename_i q; simp [q]
      · exact absurd rfl hne
    refine ⟨fun _ => ?_, fun _ => .inl h7.1⟩
    obtain ⟨c, hc1, hc2⟩ := ways_none.1 h7.2
    rw [hg] at hc1 hc2
    obtain ⟨x, w, hfx⟩ := hf
    obtain ⟨z, hz, -, -⟩ := fea_z hfx
    rw [dot_comm, dot_take] at hc2
    obtain ⟨N, hN0, hN⟩ : ∃ N : Int, 0 ≤ N ∧ 0 < hv d p z + N * dot d (V p) c := by
      refine ⟨(hv d p z).natAbs + 1, by omega, ?_⟩
      have : ((hv d p z).natAbs + 1 : Int) * 1 ≤ ((hv d p z).natAbs + 1 : Int) * dot d (V p) c := Int.mul_le_mul_of_nonneg_left (by omega) (by omega)
      omega
    let c0 : Nat → Int := fun k => if k = d then 0 else c k
    have e0 : ∀ q : Nat → Int, dot d q c0 = dot d q c := fun q => dot_congr (fun _ _ => rfl) fun i hi => by simp [c0, show i ≠ d by omega]
    have ed : c0 d = 0 := by simp [c0]
    refine ⟨fun k => 1 * z k + N * c0 k, ⟨?_, fun r hr => ?_⟩, ?_⟩
    · have := hz.1
      simp only [ed]; omega
    · have k1 := hz.2 r hr
      have k2 := hc1 r hr
      rw [dot_comm, dot_lc, dot_comm d z, dot_comm d c0, e0]
      show _ ≤ V r d * (1 * z d + N * c0 d)
      rw [ed]
      rw [dot_comm] at k2
      have := Int.mul_nonpos_of_nonneg_of_nonpos hN0 k2
      have e : V r d * (1 * z d + N * 0) = V r d * z d := by grind
      rw [e]
      omega
    · rw [hv_lc]
      have : hv d p c0 = dot d (V p) c := by unfold hv; rw [e0, ed]; omega
      rw [this]; omega
  · have hym := lwO_mem hy
    have hw := (way_mem hym).1
    have hU : 0 < uW rows (p.take d) y := uW_pos hym
    have hn7 : gmE d rows (p.take d) ≠ 7 := by rw [h0]; decide
    rw [sd_wS hg, uW_wU] at hlow
    rw [uW_wU] at hU
    have hmin : ∀ t, t.Sublist rows → wayB (p.take d) t = true → wS (p.take d) (pks rows [] y) * wU (p.take d) t ≤ wS (p.take d) t * wU (p.take d) (pks rows [] y) := fun t hs hwt => by
      obtain ⟨c, hc, rfl⟩ := ways_sub (g := rows) hs hwt rfl
      have := lwO_least (fun x hx => uW_pos hx) hy c hc
      rwa [sd_wS hg, sd_wS hg, uW_wU, uW_wU] at this
    obtain ⟨hcr, -, -⟩ := low_cross hlow
    have hbp : 0 < b := by
      have h1 := low_at [wS (p.take d) (pks rows [] y), wU (p.take d) (pks rows [] y)] 1
      rw [hlow] at h1
      simp at h1
      by_cases q : 0 < b
      · exact q
      · have := Int.mul_nonpos_of_nonneg_of_nonpos (Int.natCast_nonneg (gc [wS (p.take d) (pks rows [] y), wU (p.take d) (pks rows [] y)])) (show b ≤ 0 by omega)
        omega
    generalize hS : wS (p.take d) (pks rows [] y) = S at *
    generalize hUU : wU (p.take d) (pks rows [] y) = U at *
    have key : V p d * b < a ↔ V p d * U < S := by
      constructor
      · intro h
        have h1 : V p d * b * U < a * U := Int.mul_lt_mul_of_pos_right h hU
        rw [← hcr] at h1
        have h2 : (V p d * U) * b < S * b := by
          have : V p d * b * U = (V p d * U) * b := by grind
          omega
        exact Int.lt_of_mul_lt_mul_right h2 (by omega)
      · intro h
        have h1 : V p d * U * b < S * b := Int.mul_lt_mul_of_pos_right h hbp
        rw [hcr] at h1
        have h2 : (V p d * b) * U < a * U := by
          have : V p d * U * b = (V p d * b) * U := by grind
          omega
        exact Int.lt_of_mul_lt_mul_right h2 (by omega)
    obtain ⟨x0, w0, hf0⟩ := hf
    constructor
    · rintro (h | h)
      · exact absurd h hn7
      · obtain ⟨x, w, hfx, heq, -⟩ := opt_at hg hf0 (sub_way hym) hw (by rw [hS, hUU]; exact hmin)
        rw [hS, hUU, dot_take] at heq
        obtain ⟨z, hz, hzd, hze⟩ := fea_z hfx
        refine ⟨z, hz, ?_⟩
        have h2 := key.1 h
        have h3 : (V p d * w) * U < dot d (V p) x * U := by
          rw [heq]
          have : (V p d * U) * w < S * w := Int.mul_lt_mul_of_pos_right h2 hfx.1
          have e : V p d * w * U = V p d * U * w := by grind
          omega
        have h4 := Int.lt_of_mul_lt_mul_right h3 (by omega)
        unfold hv
        rw [hze, hzd]; omega
    · rintro ⟨z, hz, hzp⟩
      refine .inr (key.2 ?_)
      have hwk := weak hg hz (fun r hr => (sub_way hym).subset hr) hw
      rw [hS, hUU, dot_take] at hwk
      unfold hv at hzp
      have h1 : (V p d * z d) * U < dot d (V p) z * U := Int.mul_lt_mul_of_pos_right (by omega) hU
      have h2 : (V p d * U) * z d < S * z d := by
        have e : V p d * z d * U = V p d * U * z d := by grind
        omega
      exact Int.lt_of_mul_lt_mul_right h2 (by have := hz.1; omega)

/-! ### Texts that grow -/

open Classical in
noncomputable def gaC (d : Nat) (rows : List (List Int)) (p : List Int) : Bool := decide (Abv d rows p)

theorem gaC_iff {d : Nat} {rows : List (List Int)} {p : List Int} : gaC d rows p = true ↔ Abv d rows p := by simp [gaC]

def mtC (ab be : Bool) (c : UInt8) : Bool := if c = 43 then ab else if c = 45 then be else ab == be

noncomputable def grO (d : Nat) (P : List (List Int)) (p : List Int) (t : List UInt8) : List (List UInt8) := ([43, 45, 48].filter (mtC (gaC d (clR P t) p) (gaC d (clR P t) (ngL p)))).map fun c => t ++ [c]

noncomputable def grT (d : Nat) (P : List (List Int)) : Nat → List (List UInt8)
  | 0 => [[]]
  | k + 1 => (grT d P k).flatMap (grO d P (P.getD k []))

/-- Far along one place, with another one's help. -/
theorem far_pos {u v : Int} (h : 0 < u) : ∃ N : Int, 0 < N ∧ 0 < N * u + v := by
  refine ⟨v.natAbs + 1, by omega, ?_⟩
  have : (v.natAbs + 1 : Int) * 1 ≤ (v.natAbs + 1 : Int) * u := Int.mul_le_mul_of_nonneg_left (by omega) (by omega)
  omega

theorem HasS.up {d : Nat} {P : List (List Int)} {s : List UInt8} {z y : Nat → Int} (h : HasS d P s z) (hy : Fea d (clR P s) y (y d)) {p : List Int} (hp : 0 < hv d p y) : ∃ q, HasS d P s q ∧ 0 < hv d p q := by
  obtain ⟨N, hN, h2⟩ := far_pos (v := hv d p z) hp
  obtain ⟨k0, k1⟩ := cl_fea.1 hy
  refine ⟨fun k => 1 * z k + N * y k, ⟨?_, fun i hi => ?_⟩, ?_⟩
  · have := h.1
    have := Int.mul_pos hN k0
    show 0 < 1 * z d + N * y d
    omega
  · rw [hv_lc]
    exact (h.2 i hi).add (k1 i hi) (by decide) (by omega)
  · rw [hv_lc]; omega

theorem sgo_far {c : UInt8} {v N u : Int} (h : SgO c v) (hc : c ≠ 48) (hb : (u.natAbs : Int) < N) : SgO c (N * v + u) := by
  have q : ∀ t : Int, 0 < t → N ≤ N * t := fun t ht => by
    have : N * 1 ≤ N * t := Int.mul_le_mul_of_nonneg_left (by omega) (by omega)
    omega
  rcases h with ⟨rfl, h⟩ | ⟨rfl, h⟩ | ⟨rfl, h⟩
  · have := q v h
    exact .inl ⟨rfl, by omega⟩
  · have := q (-v) (by omega)
    rw [Int.mul_neg] at this
    exact .inr (.inl ⟨rfl, by omega⟩)
  · exact absurd rfl hc

theorem many_bd (f : Nat → Int) : ∀ n : Nat, ∃ N : Int, 0 < N ∧ ∀ i, i < n → ((f i).natAbs : Int) < N
  | 0 => ⟨1, by decide, fun i hi => absurd hi (by omega)⟩
  | n + 1 => by
    obtain ⟨N, h0, h⟩ := many_bd f n
    refine ⟨N + (f n).natAbs, by omega, fun i hi => ?_⟩
    by_cases q : i < n
    · have := h i q
      omega
    · have : i = n := by omega
      subst this
      omega

/-- On a plane, with something above: something is below. -/
theorem HasS.flip {d : Nat} {P : List (List Int)} {s : List UInt8} {z y : Nat → Int} (h : HasS d P s z) (hy : Fea d (clR P s) y (y d)) {p : List Int} (h0 : hv d p z = 0) (hp : 0 < hv d p y) : ∃ q, HasS d P s q ∧ hv d p q < 0 := by
  obtain ⟨N, hN, hb⟩ := many_bd (fun i => hv d (P.getD i []) y) s.length
  obtain ⟨k0, k1⟩ := cl_fea.1 hy
  refine ⟨fun k => (N + y d) * z k + (-1) * y k, ⟨?_, fun i hi => ?_⟩, ?_⟩
  · have h1 := h.1
    have : (N + y d) * 1 ≤ (N + y d) * z d := Int.mul_le_mul_of_nonneg_left (by omega) (by omega)
    show 0 < (N + y d) * z d + (-1) * y d
    omega
  · rw [hv_lc]
    have hi1 := h.2 i hi
    have hi2 := k1 i hi
    have hi3 := hb i hi
    by_cases hc : s.getD i 0 = 48
    · rw [hc] at hi1 hi2 ⊢
      have e1 := hi2.1 (by decide)
      have e2 := hi2.2 (by decide)
      have e3 : hv d (P.getD i []) y = 0 := by omega
      rcases hi1 with ⟨q, _⟩ | ⟨q, _⟩ | ⟨_, q⟩
      · exact absurd q (by decide)
      · exact absurd q (by decide)
      · rw [q, e3]
        exact .inr (.inr ⟨rfl, by simp⟩)
    · exact sgo_far hi1 hc (by omega)
  · rw [hv_lc, h0]
    omega

theorem HasS.mix {d : Nat} {P : List (List Int)} {s : List UInt8} {z y : Nat → Int} (h : HasS d P s z) (hy : HasS d P s y) {a b : Int} (ha : 0 < a) (hb : 0 < b) : HasS d P s fun k => a * z k + b * y k := by
  refine ⟨?_, fun i hi => ?_⟩
  · have := Int.mul_pos ha h.1
    have := Int.mul_pos hb hy.1
    show 0 < a * z d + b * y d
    omega
  · rw [hv_lc]
    exact (h.2 i hi).add (hy.2 i hi).near ha (by omega)

theorem abv_up {d : Nat} {P : List (List Int)} {s : List UInt8} {p : List Int} (h : ∃ z, HasS d P s z) : Abv d (clR P s) p ↔ ∃ q, HasS d P s q ∧ 0 < hv d p q := by
  obtain ⟨z, hz⟩ := h
  exact ⟨fun ⟨y, hy, hp⟩ => hz.up hy hp, fun ⟨q, hq, hp⟩ => ⟨q, hq.fea, hp⟩⟩

theorem abv_dn {d : Nat} {P : List (List Int)} {s : List UInt8} {p : List Int} (h : ∃ z, HasS d P s z) : Abv d (clR P s) (ngL p) ↔ ∃ q, HasS d P s q ∧ hv d p q < 0 := by
  rw [abv_up h]
  constructor
  · rintro ⟨q, hq, hp⟩
    rw [hv_ng] at hp
    exact ⟨q, hq, by omega⟩
  · rintro ⟨q, hq, hp⟩
    refine ⟨q, hq, ?_⟩
    rw [hv_ng]; omega

theorem getD_snoc {α : Type} (t : List α) (c e : α) (i : Nat) : (t ++ [c]).getD i e = if i < t.length then t.getD i e else if i = t.length then c else e := by
  by_cases h : i < t.length
  · rw [if_pos h]
    simp [List.getD_eq_getElem?_getD, List.getElem?_append_left h]
  · rw [if_neg h]
    by_cases h2 : i = t.length
    · subst h2; simp
    · rw [if_neg h2]
      simp [List.getD_eq_getElem?_getD, List.getElem?_append_right (by omega : t.length ≤ i), show i - t.length ≠ 0 by omega]

theorem hasS_snoc {d : Nat} {P : List (List Int)} {t : List UInt8} {c : UInt8} {z : Nat → Int} : HasS d P (t ++ [c]) z ↔ HasS d P t z ∧ SgO c (hv d (P.getD t.length []) z) := by
  constructor
  · rintro ⟨h0, h⟩
    refine ⟨⟨h0, fun i hi => ?_⟩, ?_⟩
    · have := h i (by simp; omega)
      rwa [getD_snoc, if_pos hi] at this
    · have := h t.length (by simp)
      rwa [getD_snoc, if_neg (by omega), if_pos rfl] at this
  · rintro ⟨⟨h0, h⟩, hc⟩
    refine ⟨h0, fun i hi => ?_⟩
    rw [getD_snoc]
    by_cases q : i < t.length
    · rw [if_pos q]; exact h i q
    · have : i = t.length := by simp at hi; omega
      subst this
      rw [if_neg q, if_pos rfl]; exact hc

/-- How a text goes on. -/
theorem grow_one {d : Nat} {P : List (List Int)} {t : List UInt8} {c : UInt8} (h : ∃ z, HasS d P t z) (hc : c = 43 ∨ c = 45 ∨ c = 48) : mtC (gaC d (clR P t) (P.getD t.length [])) (gaC d (clR P t) (ngL (P.getD t.length []))) c = true ↔ ∃ z, HasS d P (t ++ [c]) z := by
  have hA := (gaC_iff (d := d) (rows := clR P t) (p := P.getD t.length [])).trans (abv_up h)
  have hB := (gaC_iff (d := d) (rows := clR P t) (p := ngL (P.getD t.length []))).trans (abv_dn h)
  generalize gaC d (clR P t) (P.getD t.length []) = ab at *
  generalize gaC d (clR P t) (ngL (P.getD t.length [])) = be at *
  rcases hc with rfl | rfl | rfl
  · rw [show mtC ab be 43 = ab from rfl, hA]
    exact ⟨fun ⟨q, h1, h2⟩ => ⟨q, hasS_snoc.2 ⟨h1, .inl ⟨rfl, h2⟩⟩⟩, fun ⟨q, hq⟩ => by
      obtain ⟨h1, h2⟩ := hasS_snoc.1 hq
      rcases h2 with ⟨_, h2⟩ | ⟨e, _⟩ | ⟨e, _⟩
      · exact ⟨q, h1, h2⟩
      · exact absurd e (by decide)
      · exact absurd e (by decide)⟩
  · rw [show mtC ab be 45 = be from rfl, hB]
    exact ⟨fun ⟨q, h1, h2⟩ => ⟨q, hasS_snoc.2 ⟨h1, .inr (.inl ⟨rfl, h2⟩)⟩⟩, fun ⟨q, hq⟩ => by
      obtain ⟨h1, h2⟩ := hasS_snoc.1 hq
      rcases h2 with ⟨e, _⟩ | ⟨_, h2⟩ | ⟨e, _⟩
      · exact absurd e (by decide)
      · exact ⟨q, h1, h2⟩
      · exact absurd e (by decide)⟩
  · rw [show mtC ab be 48 = (ab == be) from rfl]
    constructor
    · intro he
      have he : ab = be := by simpa using he
      cases hab : ab
      · obtain ⟨z, hz⟩ := h
        refine ⟨z, hasS_snoc.2 ⟨hz, .inr (.inr ⟨rfl, ?_⟩)⟩⟩
        have n1 : ¬ 0 < hv d (P.getD t.length []) z := fun q => by
          have := hA.2 ⟨z, hz, q⟩
          rw [hab] at this; cases this
        have n2 : ¬ hv d (P.getD t.length []) z < 0 := fun q => by
          have := hB.2 ⟨z, hz, q⟩
          rw [← he, hab] at this; cases this
        omega
      · obtain ⟨y, hy, y1⟩ := hA.1 hab
        obtain ⟨x, hx, x1⟩ := hB.1 (by rw [← he]; exact hab)
        refine ⟨fun k => (- hv d (P.getD t.length []) x) * y k + (hv d (P.getD t.length []) y) * x k, hasS_snoc.2 ⟨hy.mix hx (by omega) (by omega), .inr (.inr ⟨rfl, ?_⟩)⟩⟩
        rw [hv_lc]; grind
    · rintro ⟨z, hz⟩
      obtain ⟨h1, h2⟩ := hasS_snoc.1 hz
      have h0 : hv d (P.getD t.length []) z = 0 := by
        rcases h2 with ⟨e, _⟩ | ⟨e, _⟩ | ⟨_, e⟩
        · exact absurd e (by decide)
        · exact absurd e (by decide)
        · exact e
      have i1 : ab = true → be = true := fun q => by
        obtain ⟨y, hy, y1⟩ := hA.1 q
        exact hB.2 (h1.flip hy.fea h0 y1)
      have i2 : be = true → ab = true := fun q => by
        obtain ⟨y, hy, y1⟩ := hB.1 q
        obtain ⟨x, hx, x1⟩ := h1.flip (p := ngL (P.getD t.length [])) hy.fea (by rw [hv_ng]; omega) (by rw [hv_ng]; omega)
        rw [hv_ng] at x1
        exact hA.2 ⟨x, hx, by omega⟩
      cases ab <;> cases be <;> simp_all

theorem gr_iff {d : Nat} {P : List (List Int)} : ∀ {k : Nat} {t : List UInt8}, t ∈ grT d P k ↔ t.length = k ∧ ∃ z, HasS d P t z
  | 0, t => by
    simp only [grT, List.mem_singleton]
    constructor
    · rintro rfl
      exact ⟨rfl, fun _ => 1, by simp, fun i hi => absurd hi (by simp)⟩
    · rintro ⟨h, _⟩
      exact List.length_eq_zero_iff.1 h
  | k + 1, t => by
    simp only [grT, List.mem_flatMap]
    constructor
    · rintro ⟨u, hu, h⟩
      obtain ⟨hk, hz⟩ := gr_iff.1 hu
      simp only [grO, List.mem_map, List.mem_filter] at h
      obtain ⟨c, ⟨hc, hm⟩, rfl⟩ := h
      refine ⟨by simp [hk], ?_⟩
      rw [← hk] at hm
      exact (grow_one hz (by simpa using hc)).1 hm
    · rintro ⟨hl, z, hz⟩
      obtain ⟨u, c, rfl⟩ : ∃ u c, t = u ++ [c] := by
        refine ⟨t.dropLast, t.getLast (fun e => by rw [e] at hl; simp at hl), ?_⟩
        exact (List.dropLast_concat_getLast _).symm
      simp at hl
      obtain ⟨h1, h2⟩ := hasS_snoc.1 hz
      refine ⟨u, gr_iff.2 ⟨hl, z, h1⟩, ?_⟩
      have hc : c = 43 ∨ c = 45 ∨ c = 48 := by
        rcases h2 with ⟨e, _⟩ | ⟨e, _⟩ | ⟨e, _⟩ <;> simp [e]
      simp only [grO, List.mem_map, List.mem_filter]
      refine ⟨c, ⟨by simpa using hc, ?_⟩, rfl⟩
      rw [← hl]
      exact (grow_one ⟨z, h1⟩ hc).2 ⟨z, hz⟩

end Go.Proofs.YtgfnmkenpgnllaaGreat
