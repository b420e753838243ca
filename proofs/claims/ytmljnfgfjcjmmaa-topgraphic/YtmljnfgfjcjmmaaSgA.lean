import Derived.Test.YtmljnfgfjcjmmaaLpC
import Derived.Test.YtmljnfgfjcjmmaaRefA
import Derived.Lib.OthersKept
import Derived.Test.YtmljnfgfjcjmmaaStepsAll
import Derived.Deep.Onto
import Derived.Maps.AppendAt
import Derived.OrdersIn
import Derived.OwnWalkIn
import Derived.OrdersHeld
import Derived.RangeFuncCalls
import Derived.RangeFuncNested
import Derived.Deep.RegionHeld3
/- Signs of planes (pure): which signs places have, and how texts of signs grow. -/
namespace Go.Proofs.Ytmljnfgfjcjmmaa
open Lin

/-- How far a place (its last number: of what) is above a plane. -/
def hv (d : Nat) (r : List Int) (z : Nat → Int) : Int := dot d (V r) z - V r d * z d

theorem hv_lc (d : Nat) (r : List Int) (a b : Int) (z y : Nat → Int) : hv d r (fun k => a * z k + b * y k) = a * hv d r z + b * hv d r y := by
  unfold hv
  rw [dot_comm d (V r) fun k => a * z k + b * y k, dot_lc, dot_comm d z, dot_comm d y]
  grind

def ngL (p : List Int) : List Int := p.map fun z => -z

theorem ng_V (p : List Int) (i : Nat) : V (ngL p) i = - V p i := by
  simp only [V, ngL]
  by_cases h : i < p.length
  · simp [h]
  · simp [h]

theorem hv_ng (d : Nat) (p : List Int) (z : Nat → Int) : hv d (ngL p) z = - hv d p z := by
  unfold hv
  have e : dot d (V (ngL p)) z = - dot d (V p) z := by
    rw [← dot_neg]
    exact dot_congr (fun i _ => ng_V p i) (fun _ _ => rfl)
  rw [e, ng_V]
  grind

/-- What a sign says of how far a place is above. -/
def SgO (c : UInt8) (v : Int) : Prop := (c = 43 ∧ 0 < v) ∨ (c = 45 ∧ v < 0) ∨ (c = 48 ∧ v = 0)

/-- A place has these signs. -/
def HasS (d : Nat) (P : List (List Int)) (s : List UInt8) (z : Nat → Int) : Prop := 0 < z d ∧ ∀ i, i < s.length → SgO (s.getD i 0) (hv d (P.getD i []) z)

/-- The rows of one sign. -/
def clO (p : List Int) (c : UInt8) : List (List Int) := (if c = 43 then [] else [p]) ++ (if c = 45 then [] else [ngL p])
def clT (P : List (List Int)) (s : List UInt8) (k : Nat) : List (List Int) := (List.range k).flatMap fun i => clO (P.getD i []) (s.getD i 0)
def clR (P : List (List Int)) (s : List UInt8) : List (List Int) := clT P s s.length

theorem clT_succ (P : List (List Int)) (s : List UInt8) (k : Nat) : clT P s (k + 1) = clT P s k ++ clO (P.getD k []) (s.getD k 0) := by
  simp [clT, List.range_succ, List.flatMap_append]

theorem clO_len (p : List Int) (c : UInt8) : (clO p c).length ≤ 2 := by
  unfold clO
  split <;> split <;> simp

theorem clT_len (P : List (List Int)) (s : List UInt8) (k : Nat) : (clT P s k).length ≤ 2 * k := by
  induction k with
  | zero => simp [clT]
  | succ k ih =>
    rw [clT_succ, List.length_append]
    have := clO_len (P.getD k []) (s.getD k 0)
    omega

theorem clT_mem {P : List (List Int)} {s : List UInt8} {k : Nat} {r : List Int} (h : r ∈ clT P s k) : ∃ i, i < k ∧ (r = P.getD i [] ∨ r = ngL (P.getD i [])) := by
  simp only [clT, List.mem_flatMap, List.mem_range] at h
  obtain ⟨i, hi, h⟩ := h
  refine ⟨i, hi, ?_⟩
  unfold clO at h
  rcases List.mem_append.1 h with h | h
  · split at h
    · simp at h
    · exact .inl (by simpa using h)
  · split at h
    · simp at h
    · exact .inr (by simpa using h)

/-- Next to a sign. -/
def SgC (c : UInt8) (v : Int) : Prop := (c ≠ 43 → v ≤ 0) ∧ (c ≠ 45 → 0 ≤ v)

theorem cl_fea {d : Nat} {P : List (List Int)} {s : List UInt8} {z : Nat → Int} : Fea d (clR P s) z (z d) ↔ 0 < z d ∧ ∀ i, i < s.length → SgC (s.getD i 0) (hv d (P.getD i []) z) := by
  constructor
  · rintro ⟨h0, h⟩
    refine ⟨h0, fun i hi => ⟨fun hc => ?_, fun hc => ?_⟩⟩
    · have := h (P.getD i []) (by
        simp only [clR, clT, List.mem_flatMap, List.mem_range]
        exact ⟨i, hi, by simp only [clO, if_neg hc]; simp⟩)
      unfold hv; omega
    · have := h (ngL (P.getD i [])) (by
        simp only [clR, clT, List.mem_flatMap, List.mem_range]
        exact ⟨i, hi, by simp only [clO, if_neg hc]; simp⟩)
      have e := hv_ng d (P.getD i []) z
      unfold hv at e ⊢; omega
  · rintro ⟨h0, h⟩
    refine ⟨h0, fun r hr => ?_⟩
    simp only [clR, clT, List.mem_flatMap, List.mem_range] at hr
    obtain ⟨i, hi, hr⟩ := hr
    obtain ⟨h1, h2⟩ := h i hi
    unfold clO at hr
    rcases List.mem_append.1 hr with hr | hr
    · split at hr
      · simp at hr
      · rename_i hc
        have := h1 hc
        simp only [List.mem_singleton] at hr
        subst hr
        unfold hv at this; omega
    · split at hr
      · simp at hr
      · rename_i hc
        have := h2 hc
        simp only [List.mem_singleton] at hr
        subst hr
        have e := hv_ng d (P.getD i []) z
        unfold hv at e this; omega

theorem SgO.near {c : UInt8} {v : Int} (h : SgO c v) : SgC c v := by
  rcases h with ⟨rfl, h⟩ | ⟨rfl, h⟩ | ⟨rfl, h⟩
  · exact ⟨fun q => absurd rfl q, fun _ => by omega⟩
  · exact ⟨fun _ => by omega, fun q => absurd rfl q⟩
  · exact ⟨fun _ => by omega, fun _ => by omega⟩

theorem HasS.fea {d : Nat} {P : List (List Int)} {s : List UInt8} {z : Nat → Int} (h : HasS d P s z) : Fea d (clR P s) z (z d) := cl_fea.2 ⟨h.1, fun i hi => (h.2 i hi).near⟩

theorem SgO.add {c : UInt8} {v u a b : Int} (h : SgO c v) (hu : SgC c u) (ha : 0 < a) (hb : 0 ≤ b) : SgO c (a * v + b * u) := by
  rcases h with ⟨rfl, h⟩ | ⟨rfl, h⟩ | ⟨rfl, h⟩
  · have h1 := hu.2 (by decide)
    have := Int.mul_pos ha h
    have := Int.mul_nonneg hb h1
    exact .inl ⟨rfl, by omega⟩
  · have h1 := hu.1 (by decide)
    have := Int.mul_neg_of_pos_of_neg ha h
    have := Int.mul_nonpos_of_nonneg_of_nonpos hb h1
    exact .inr (.inl ⟨rfl, by omega⟩)
  · have h1 := hu.1 (by decide)
    have h2 := hu.2 (by decide)
    have : u = 0 := by omega
    subst this h
    exact .inr (.inr ⟨rfl, by simp⟩)

/-- There is something above a plane within rows. -/
def Abv (d : Nat) (rows : List (List Int)) (p : List Int) : Prop := ∃ z : Nat → Int, Fea d rows z (z d) ∧ 0 < hv d p z

theorem V_take {p : List Int} {d i : Nat} (h : i < d) : V (p.take d) i = V p i := take_at h

theorem dot_take (d : Nat) (p : List Int) (z : Nat → Int) : dot d (V (p.take d)) z = dot d (V p) z := dot_congr (fun _ h => V_take h) fun _ _ => rfl

theorem fea_z {d : Nat} {rows : List (List Int)} {x : Nat → Int} {w : Int} (h : Fea d rows x w) : ∃ z : Nat → Int, Fea d rows z (z d) ∧ z d = w ∧ ∀ a : Nat → Int, dot d a z = dot d a x := by
  have e : ∀ a : Nat → Int, dot d a (fun k => if k = d then w else x k) = dot d a x := fun a => dot_congr (fun _ _ => rfl) fun i hi => by simp [show i ≠ d by omega]
  refine ⟨fun k => if k = d then w else x k, ⟨by simpa using h.1, fun r hr => ?_⟩, by simp, e⟩
  rw [e]
  simpa using h.2 r hr

theorem ga_iff {d : Nat} {rows : List (List Int)} {p : List Int} {a b : Int} (hp : p.length = d + 1) (hf : ∃ x w, Fea d rows x w) (hB : BestV d rows (p.take d) a b) :
    (gmE d rows (p.take d) = 7 ∨ V p d * b < a) ↔ Abv d rows p := by
  have hg : (p.take d).length = d := by simp; omega
  have he : empB d rows = false := emp_fea.2 hf
  rcases hB with ⟨hne, ha, hb⟩ | ⟨y, h0, hy, hlow⟩
  · have h7 : gmE d rows (p.take d) = 7 ∧ waysL rows (p.take d) = [] := by
      unfold gmE at hne ⊢
      rw [if_neg (by simp [he])] at hne ⊢
      split at hne
      · rename_i q; simp [q]
      · exact absurd rfl hne
    refine ⟨fun _ => ?_, fun _ => .inl h7.1⟩
    obtain ⟨c, hc1, hc2⟩ := ways_none.1 h7.2
    rw [hg] at hc1 hc2
    obtain ⟨x, w, hfx⟩ := hf
    obtain ⟨z, hz, -, -⟩ := fea_z hfx
    rw [dot_comm, dot_take] at hc2
    obtain ⟨N, hN0, hN⟩ : ∃ N : Int, 0 ≤ N ∧ 0 < hv d p z + N * dot d (V p) c := by
      refine ⟨(hv d p z).natAbs + 1, by omega, ?_⟩
      have : ((hv d p z).natAbs + 1 : Int) * 1 ≤ ((hv d p z).natAbs + 1 : Int) * dot d (V p) c := Int.mul_le_mul_of_nonneg_left (by omega) (by omega)
      omega
    let c0 : Nat → Int := fun k => if k = d then 0 else c k
    have e0 : ∀ q : Nat → Int, dot d q c0 = dot d q c := fun q => dot_congr (fun _ _ => rfl) fun i hi => by simp [c0, show i ≠ d by omega]
    have ed : c0 d = 0 := by simp [c0]
    refine ⟨fun k => 1 * z k + N * c0 k, ⟨?_, fun r hr => ?_⟩, ?_⟩
    · have := hz.1
      simp only [ed]; omega
    · have k1 := hz.2 r hr
      have k2 := hc1 r hr
      rw [dot_comm, dot_lc, dot_comm d z, dot_comm d c0, e0]
      show _ ≤ V r d * (1 * z d + N * c0 d)
      rw [ed]
      rw [dot_comm] at k2
      have := Int.mul_nonpos_of_nonneg_of_nonpos hN0 k2
      have e : V r d * (1 * z d + N * 0) = V r d * z d := by grind
      rw [e]
      omega
    · rw [hv_lc]
      have : hv d p c0 = dot d (V p) c := by unfold hv; rw [e0, ed]; omega
      rw [this]; omega
  · have hym := lwO_mem hy
    have hw := (way_mem hym).1
    have hU : 0 < uW rows (p.take d) y := uW_pos hym
    have hn7 : gmE d rows (p.take d) ≠ 7 := by rw [h0]; decide
    rw [sd_wS hg, uW_wU] at hlow
    rw [uW_wU] at hU
    have hmin : ∀ t, t.Sublist rows → wayB (p.take d) t = true → wS (p.take d) (pks rows [] y) * wU (p.take d) t ≤ wS (p.take d) t * wU (p.take d) (pks rows [] y) := fun t hs hwt => by
      obtain ⟨c, hc, rfl⟩ := ways_sub (g := rows) hs hwt rfl
      have := lwO_least (fun x hx => uW_pos hx) hy c hc
      rwa [sd_wS hg, sd_wS hg, uW_wU, uW_wU] at this
    obtain ⟨hcr, -, -⟩ := low_cross hlow
    have hbp : 0 < b := by
      have h1 := low_at [wS (p.take d) (pks rows [] y), wU (p.take d) (pks rows [] y)] 1
      rw [hlow] at h1
      simp at h1
      by_cases q : 0 < b
      · exact q
      · have := Int.mul_nonpos_of_nonneg_of_nonpos (Int.natCast_nonneg (gc [wS (p.take d) (pks rows [] y), wU (p.take d) (pks rows [] y)])) (show b ≤ 0 by omega)
        omega
    generalize hS : wS (p.take d) (pks rows [] y) = S at *
    generalize hUU : wU (p.take d) (pks rows [] y) = U at *
    have key : V p d * b < a ↔ V p d * U < S := by
      constructor
      · intro h
        have h1 : V p d * b * U < a * U := Int.mul_lt_mul_of_pos_right h hU
        rw [← hcr] at h1
        have h2 : (V p d * U) * b < S * b := by
          have : V p d * b * U = (V p d * U) * b := by grind
          omega
        exact Int.lt_of_mul_lt_mul_right h2 (by omega)
      · intro h
        have h1 : V p d * U * b < S * b := Int.mul_lt_mul_of_pos_right h hbp
        rw [hcr] at h1
        have h2 : (V p d * b) * U < a * U := by
          have : V p d * U * b = (V p d * b) * U := by grind
          omega
        exact Int.lt_of_mul_lt_mul_right h2 (by omega)
    obtain ⟨x0, w0, hf0⟩ := hf
    constructor
    · rintro (h | h)
      · exact absurd h hn7
      · obtain ⟨x, w, hfx, heq, -⟩ := opt_at hg hf0 (sub_way hym) hw (by rw [hS, hUU]; exact hmin)
        rw [hS, hUU, dot_take] at heq
        obtain ⟨z, hz, hzd, hze⟩ := fea_z hfx
        refine ⟨z, hz, ?_⟩
        have h2 := key.1 h
        have h3 : (V p d * w) * U < dot d (V p) x * U := by
          rw [heq]
          have : (V p d * U) * w < S * w := Int.mul_lt_mul_of_pos_right h2 hfx.1
          have e : V p d * w * U = V p d * U * w := by grind
          omega
        have h4 := Int.lt_of_mul_lt_mul_right h3 (by omega)
        unfold hv
        rw [hze, hzd]; omega
    · rintro ⟨z, hz, hzp⟩
      refine .inr (key.2 ?_)
      have hwk := weak hg hz (fun r hr => (sub_way hym).subset hr) hw
      rw [hS, hUU, dot_take] at hwk
      unfold hv at hzp
      have h1 : (V p d * z d) * U < dot d (V p) z * U := Int.mul_lt_mul_of_pos_right (by omega) hU
      have h2 : (V p d * U) * z d < S * z d := by
        have e : V p d * z d * U = V p d * U * z d := by grind
        omega
      exact Int.lt_of_mul_lt_mul_right h2 (by have := hz.1; omega)

/-! ### Texts that grow -/

open Classical in
noncomputable def gaC (d : Nat) (rows : List (List Int)) (p : List Int) : Bool := decide (Abv d rows p)

theorem gaC_iff {d : Nat} {rows : List (List Int)} {p : List Int} : gaC d rows p = true ↔ Abv d rows p := by simp [gaC]

def mtC (ab be : Bool) (c : UInt8) : Bool := if c = 43 then ab else if c = 45 then be else ab == be

/-- Far along one place, with another one's help. -/
theorem far_pos {u v : Int} (h : 0 < u) : ∃ N : Int, 0 < N ∧ 0 < N * u + v := by
  refine ⟨v.natAbs + 1, by omega, ?_⟩
  have : (v.natAbs + 1 : Int) * 1 ≤ (v.natAbs + 1 : Int) * u := Int.mul_le_mul_of_nonneg_left (by omega) (by omega)
  omega

theorem HasS.up {d : Nat} {P : List (List Int)} {s : List UInt8} {z y : Nat → Int} (h : HasS d P s z) (hy : Fea d (clR P s) y (y d)) {p : List Int} (hp : 0 < hv d p y) : ∃ q, HasS d P s q ∧ 0 < hv d p q := by
  obtain ⟨N, hN, h2⟩ := far_pos (v := hv d p z) hp
  obtain ⟨k0, k1⟩ := cl_fea.1 hy
  refine ⟨fun k => 1 * z k + N * y k, ⟨?_, fun i hi => ?_⟩, ?_⟩
  · have := h.1
    have := Int.mul_pos hN k0
    show 0 < 1 * z d + N * y d
    omega
  · rw [hv_lc]
    exact (h.2 i hi).add (k1 i hi) (by decide) (by omega)
  · rw [hv_lc]; omega

theorem sgo_far {c : UInt8} {v N u : Int} (h : SgO c v) (hc : c ≠ 48) (hb : (u.natAbs : Int) < N) : SgO c (N * v + u) := by
  have q : ∀ t : Int, 0 < t → N ≤ N * t := fun t ht => by
    have : N * 1 ≤ N * t := Int.mul_le_mul_of_nonneg_left (by omega) (by omega)
    omega
  rcases h with ⟨rfl, h⟩ | ⟨rfl, h⟩ | ⟨rfl, h⟩
  · have := q v h
    exact .inl ⟨rfl, by omega⟩
  · have := q (-v) (by omega)
    rw [Int.mul_neg] at this
    exact .inr (.inl ⟨rfl, by omega⟩)
  · exact absurd rfl hc

theorem many_bd (f : Nat → Int) : ∀ n : Nat, ∃ N : Int, 0 < N ∧ ∀ i, i < n → ((f i).natAbs : Int) < N
  | 0 => ⟨1, by decide, fun i hi => absurd hi (by omega)⟩
  | n + 1 => by
    obtain ⟨N, h0, h⟩ := many_bd f n
    refine ⟨N + (f n).natAbs, by omega, fun i hi => ?_⟩
    by_cases q : i < n
    · have := h i q
      omega
    · have : i = n := by omega
      subst this
      omega

/-- On a plane, with something above: something is below. -/
theorem HasS.flip {d : Nat} {P : List (List Int)} {s : List UInt8} {z y : Nat → Int} (h : HasS d P s z) (hy : Fea d (clR P s) y (y d)) {p : List Int} (h0 : hv d p z = 0) (hp : 0 < hv d p y) : ∃ q, HasS d P s q ∧ hv d p q < 0 := by
  obtain ⟨N, hN, hb⟩ := many_bd (fun i => hv d (P.getD i []) y) s.length
  obtain ⟨k0, k1⟩ := cl_fea.1 hy
  refine ⟨fun k => (N + y d) * z k + (-1) * y k, ⟨?_, fun i hi => ?_⟩, ?_⟩
  · have h1 := h.1
    have : (N + y d) * 1 ≤ (N + y d) * z d := Int.mul_le_mul_of_nonneg_left (by omega) (by omega)
    show 0 < (N + y d) * z d + (-1) * y d
    omega
  · rw [hv_lc]
    have hi1 := h.2 i hi
    have hi2 := k1 i hi
    have hi3 := hb i hi
    by_cases hc : s.getD i 0 = 48
    · rw [hc] at hi1 hi2 ⊢
      have e1 := hi2.1 (by decide)
      have e2 := hi2.2 (by decide)
      have e3 : hv d (P.getD i []) y = 0 := by omega
      rcases hi1 with ⟨q, _⟩ | ⟨q, _⟩ | ⟨_, q⟩
      · exact absurd q (by decide)
      · exact absurd q (by decide)
      · rw [q, e3]
        exact .inr (.inr ⟨rfl, by simp⟩)
    · exact sgo_far hi1 hc (by omega)
  · rw [hv_lc, h0]
    omega

theorem HasS.mix {d : Nat} {P : List (List Int)} {s : List UInt8} {z y : Nat → Int} (h : HasS d P s z) (hy : HasS d P s y) {a b : Int} (ha : 0 < a) (hb : 0 < b) : HasS d P s fun k => a * z k + b * y k := by
  refine ⟨?_, fun i hi => ?_⟩
  · have := Int.mul_pos ha h.1
    have := Int.mul_pos hb hy.1
    show 0 < a * z d + b * y d
    omega
  · rw [hv_lc]
    exact (h.2 i hi).add (hy.2 i hi).near ha (by omega)

theorem abv_up {d : Nat} {P : List (List Int)} {s : List UInt8} {p : List Int} (h : ∃ z, HasS d P s z) : Abv d (clR P s) p ↔ ∃ q, HasS d P s q ∧ 0 < hv d p q := by
  obtain ⟨z, hz⟩ := h
  exact ⟨fun ⟨y, hy, hp⟩ => hz.up hy hp, fun ⟨q, hq, hp⟩ => ⟨q, hq.fea, hp⟩⟩

theorem abv_dn {d : Nat} {P : List (List Int)} {s : List UInt8} {p : List Int} (h : ∃ z, HasS d P s z) : Abv d (clR P s) (ngL p) ↔ ∃ q, HasS d P s q ∧ hv d p q < 0 := by
  rw [abv_up h]
  constructor
  · rintro ⟨q, hq, hp⟩
    rw [hv_ng] at hp
    exact ⟨q, hq, by omega⟩
  · rintro ⟨q, hq, hp⟩
    refine ⟨q, hq, ?_⟩
    rw [hv_ng]; omega

theorem getD_snoc {α : Type} (t : List α) (c e : α) (i : Nat) : (t ++ [c]).getD i e = if i < t.length then t.getD i e else if i = t.length then c else e := by
  by_cases h : i < t.length
  · rw [if_pos h]
    simp [List.getD_eq_getElem?_getD, List.getElem?_append_left h]
  · rw [if_neg h]
    by_cases h2 : i = t.length
    · subst h2; simp
    · rw [if_neg h2]
      simp [List.getD_eq_getElem?_getD, List.getElem?_append_right (by omega : t.length ≤ i), show i - t.length ≠ 0 by omega]

theorem hasS_snoc {d : Nat} {P : List (List Int)} {t : List UInt8} {c : UInt8} {z : Nat → Int} : HasS d P (t ++ [c]) z ↔ HasS d P t z ∧ SgO c (hv d (P.getD t.length []) z) := by
  constructor
  · rintro ⟨h0, h⟩
    refine ⟨⟨h0, fun i hi => ?_⟩, ?_⟩
    · have := h i (by simp; omega)
      rwa [getD_snoc, if_pos hi] at this
    · have := h t.length (by simp)
      rwa [getD_snoc, if_neg (by omega), if_pos rfl] at this
  · rintro ⟨⟨h0, h⟩, hc⟩
    refine ⟨h0, fun i hi => ?_⟩
    rw [getD_snoc]
    by_cases q : i < t.length
    · rw [if_pos q]; exact h i q
    · have : i = t.length := by simp at hi; omega
      subst this
      rw [if_neg q, if_pos rfl]; exact hc

/-- How a text goes on. -/
theorem grow_one {d : Nat} {P : List (List Int)} {t : List UInt8} {c : UInt8} (h : ∃ z, HasS d P t z) (hc : c = 43 ∨ c = 45 ∨ c = 48) : mtC (gaC d (clR P t) (P.getD t.length [])) (gaC d (clR P t) (ngL (P.getD t.length []))) c = true ↔ ∃ z, HasS d P (t ++ [c]) z := by
  have hA := (gaC_iff (d := d) (rows := clR P t) (p := P.getD t.length [])).trans (abv_up h)
  have hB := (gaC_iff (d := d) (rows := clR P t) (p := ngL (P.getD t.length []))).trans (abv_dn h)
  generalize gaC d (clR P t) (P.getD t.length []) = ab at *
  generalize gaC d (clR P t) (ngL (P.getD t.length [])) = be at *
  rcases hc with rfl | rfl | rfl
  · rw [show mtC ab be 43 = ab from rfl, hA]
    exact ⟨fun ⟨q, h1, h2⟩ => ⟨q, hasS_snoc.2 ⟨h1, .inl ⟨rfl, h2⟩⟩⟩, fun ⟨q, hq⟩ => by
      obtain ⟨h1, h2⟩ := hasS_snoc.1 hq
      rcases h2 with ⟨_, h2⟩ | ⟨e, _⟩ | ⟨e, _⟩
      · exact ⟨q, h1, h2⟩
      · exact absurd e (by decide)
      · exact absurd e (by decide)⟩
  · rw [show mtC ab be 45 = be from rfl, hB]
    exact ⟨fun ⟨q, h1, h2⟩ => ⟨q, hasS_snoc.2 ⟨h1, .inr (.inl ⟨rfl, h2⟩)⟩⟩, fun ⟨q, hq⟩ => by
      obtain ⟨h1, h2⟩ := hasS_snoc.1 hq
      rcases h2 with ⟨e, _⟩ | ⟨_, h2⟩ | ⟨e, _⟩
      · exact absurd e (by decide)
      · exact ⟨q, h1, h2⟩
      · exact absurd e (by decide)⟩
  · rw [show mtC ab be 48 = (ab == be) from rfl]
    constructor
    · intro he
      have he : ab = be := by simpa using he
      cases hab : ab
      · obtain ⟨z, hz⟩ := h
        refine ⟨z, hasS_snoc.2 ⟨hz, .inr (.inr ⟨rfl, ?_⟩)⟩⟩
        have n1 : ¬ 0 < hv d (P.getD t.length []) z := fun q => by
          have := hA.2 ⟨z, hz, q⟩
          rw [hab] at this; cases this
        have n2 : ¬ hv d (P.getD t.length []) z < 0 := fun q => by
          have := hB.2 ⟨z, hz, q⟩
          rw [← he, hab] at this; cases this
        omega
      · obtain ⟨y, hy, y1⟩ := hA.1 hab
        obtain ⟨x, hx, x1⟩ := hB.1 (by rw [← he]; exact hab)
        refine ⟨fun k => (- hv d (P.getD t.length []) x) * y k + (hv d (P.getD t.length []) y) * x k, hasS_snoc.2 ⟨hy.mix hx (by omega) (by omega), .inr (.inr ⟨rfl, ?_⟩)⟩⟩
        rw [hv_lc]; grind
    · rintro ⟨z, hz⟩
      obtain ⟨h1, h2⟩ := hasS_snoc.1 hz
      have h0 : hv d (P.getD t.length []) z = 0 := by
        rcases h2 with ⟨e, _⟩ | ⟨e, _⟩ | ⟨_, e⟩
        · exact absurd e (by decide)
        · exact absurd e (by decide)
        · exact e
      have i1 : ab = true → be = true := fun q => by
        obtain ⟨y, hy, y1⟩ := hA.1 q
        exact hB.2 (h1.flip hy.fea h0 y1)
      have i2 : be = true → ab = true := fun q => by
        obtain ⟨y, hy, y1⟩ := hB.1 q
        obtain ⟨x, hx, x1⟩ := h1.flip (p := ngL (P.getD t.length [])) hy.fea (by rw [hv_ng]; omega) (by rw [hv_ng]; omega)
        rw [hv_ng] at x1
        exact hA.2 ⟨x, hx, by omega⟩
      cases ab <;> cases be <;> simp_all

end Go.Proofs.Ytmljnfgfjcjmmaa

/- A cut's box that is appended to, beside rows of rows that are read. -/
namespace Go.Proofs.Ytmljnfgfjcjmmaa
open Go.RowKit

theorem infoSlC : (Try.prog.info? 22).map (fun i => (i.zero, i.size, i.bytes)) = some (some (.slice none 0 0), 1, 24) := by kernel_rfl

theorem below_setC {B : Nat} {w w' : World} {a : Addr} {u : Value} (h : Below B w w') (ha : B ≤ a.block) : Below B w (w'.setCell a u) := h.setCell ha u

/-- The result's box, the own one, and the row of its points. -/
structure CtI (w : World) (R Q n : Nat) (m : List (List Int)) (wr : World) : Prop where
  lo : w.heap.size ≤ R
  rq : R < Q
  res : wr.heap[R]? = some (.cells #[.int .i64 0, .slice none 0 0] 69 (0, 0))
  box : ∃ sv, wr.heap[Q]? = some (.cells #[.int .i64 (n : Int), sv] 69 (0, 0)) ∧ Fr (Q + 1) 22 3 wr sv m
  bel : Below w.heap.size w wr
  sz : Q + 1 ≤ wr.heap.size

theorem CtI.below {w wr w2 : World} {R Q n N : Nat} {m : List (List Int)} (h : CtI w R Q n m wr) (hb : Below N wr w2) (hN : wr.heap.size ≤ N) : CtI w R Q n m w2 := by
  obtain ⟨sv, h1, h2⟩ := h.box
  have hsz := h.sz
  have hrq := h.rq
  have hb0 := h.bel.size
  exact ⟨h.lo, hrq, (hb.block _ (by omega)).trans h.res, ⟨sv, (hb.block _ (by omega)).trans h1, h2.below hb hN⟩, h.bel.trans (hb.mono (by omega)), Nat.le_trans hsz hb.size⟩

theorem CtI.push {w wr wx : World} {R Q n : Nat} {m : List (List Int)} {u : Value} {zs : List Int} (h : CtI w R Q n m wr) (hx : Below wr.heap.size wr wx) (hu : Sl 0 3 wx u (ints zs)) :
    ∃ so sc vs, wx.cell? ⟨Q, 1, none⟩ = some (.slice so m.length sc) ∧ wx.ownsRow (Q + 1) 22 1 (.slice so m.length sc) m.length vs ∧ Q + 1 ≤ wx.heap.size ∧ ∀ v' w5, w5.ownsRow (Q + 1) 22 1 v' (m.length + 1) (vs ++ [u]) → (wx.alloc (.cells #[u] 22)).grownBy w5 (Value.slice so m.length sc).ownBlock → w5.cell? ⟨Q, 1, none⟩ = some (.slice so m.length sc) ∧ w5.frozen? ⟨Q, 1, none⟩ = false ∧ CtI w R Q n (m ++ [zs]) (w5.setCell ⟨Q, 1, none⟩ v') := by
  have hX := h.below hx (Nat.le_refl _)
  obtain ⟨sv, hbox, vs, f1, f2, f3⟩ := hX.box
  obtain ⟨so, sc, rfl⟩ := owns_form f2
  have hsz := hX.sz
  have hlo := h.lo
  have hrq := h.rq
  refine ⟨so, sc, vs, by simp [World.cell?, hbox], f2, hsz, fun v' w5 ho hg => ?_⟩
  have hne : ∀ b, b < Q + 1 → w5.heap[b]? = wx.heap[b]? := fun b hb => (hg.block b (by simp; omega) (fun e => by
    have := (f2.lt b e.symm).1
    omega)).trans (Below.heap_alloc wx _ b (by omega))
  have hb5 := (hne Q (by omega)).trans hbox
  have hss : wx.heap.size ≤ w5.heap.size := Nat.le_trans (by simp) hg.size
  have hbl : Below w.heap.size w w5 := ⟨hg.os.trans hX.bel.os, hg.tape.trans hX.bel.tape, hg.output.trans hX.bel.output, Nat.le_trans hX.bel.size hss, fun b hb => (hne b (by omega)).trans (hX.bel.block b hb)⟩
  have hF5 : Fr (Q + 1) 22 3 w5 v' (m ++ [zs]) := Fr.push (e2 := 22) (e1 := 3) (by decide) f1 (f2.alloc _) (fun i hi => (f3 i hi).alloc _) (hu.alloc _) ho hg
  refine ⟨by simp [World.cell?, hb5], by simp [World.frozen?, hb5], hlo, hrq, ?_, ⟨v', ?_, ?_⟩, below_setC hbl (by show _ ≤ Q; omega), by simp only [World.setCell, Array.size_modify]; omega⟩
  · exact (Below.heap_setCell _ _ _ _ (by show R ≠ Q; omega)).trans ((hne _ (by omega)).trans hX.res)
  · simp [World.setCell, Array.getElem?_modify, hb5]
  · obtain ⟨vs5, g1, g2, g3⟩ := hF5
    refine ⟨vs5, g1, ?_, fun i hi => ?_⟩
    · refine ⟨g2.1, ?_⟩
      rcases g2.2 with q | ⟨g, cap, cur, e1, e2, e3, e4⟩
      · exact .inl q
      · exact .inr ⟨g, cap, cur, e1, e2, (Below.heap_setCell _ _ _ _ (by show g ≠ Q; omega)).trans e3, e4⟩
    · refine Sl.setCell (g3 i hi) _ ⟨Nat.zero_le _, fun cur => ?_⟩
      rw [show (⟨Q, 1, none⟩ : Addr).block = Q from rfl, hb5]
      simp

theorem CtI.fin {w wr : World} {R Q n : Nat} {m : List (List Int)} (h : CtI w R Q n m wr) : ∃ so sc, wr.cell? ⟨Q, 0, none⟩ = some (.int .i64 (n : Int)) ∧ wr.cell? ⟨Q, 1, none⟩ = some (.slice so m.length sc) ∧ wr.cell? ⟨R, 0, none⟩ = some (.int .i64 0) ∧ wr.cell? ⟨R, 1, none⟩ = some (.slice none 0 0) ∧ wr.frozen? ⟨R, 0, none⟩ = false ∧ wr.frozen? ⟨R, 1, none⟩ = false ∧ Mat 0 22 3 ((wr.setCell ⟨R, 0, none⟩ (.int .i64 (n : Int))).setCell ⟨R, 1, none⟩ (.slice so m.length sc)) (.slice so m.length sc) m ∧ Below w.heap.size w ((wr.setCell ⟨R, 0, none⟩ (.int .i64 (n : Int))).setCell ⟨R, 1, none⟩ (.slice so m.length sc)) := by
  obtain ⟨sv, hbox, vs, f1, f2, f3⟩ := h.box
  obtain ⟨so, sc, rfl⟩ := owns_form f2
  have hres := h.res
  have hrq := h.rq
  have hres2 : (wr.setCell ⟨R, 0, none⟩ (.int .i64 (n : Int))).heap[R]? = some (.cells #[.int .i64 (n : Int), .slice none 0 0] 69 (0, 0)) := by simp [World.setCell, Array.getElem?_modify, hres]
  refine ⟨so, sc, by simp [World.cell?, hbox], by simp [World.cell?, hbox], by simp [World.cell?, hres], by simp [World.cell?, hres], by simp [World.frozen?, hres], by simp [World.frozen?, hres], ⟨vs, f1, ?_, fun i hi => ?_⟩, below_setC (below_setC h.bel h.lo) h.lo⟩
  · refine Sl.own (base := Q + 1) ⟨f2.1, ?_⟩
    rcases f2.2 with h1 | ⟨g, cap, cur, e1, h2, h3, h4⟩
    · exact .inl h1
    · exact .inr ⟨g, cap, cur, e1, h2, (Below.heap_setCell _ _ _ _ (by show g ≠ R; omega)).trans ((Below.heap_setCell _ _ _ _ (by show g ≠ R; omega)).trans h3), h4⟩
  · refine Sl.setCell (Sl.setCell (f3 i hi) _ ⟨Nat.zero_le _, fun cur => ?_⟩) _ ⟨Nat.zero_le _, fun cur => ?_⟩
    · rw [show (⟨R, 0, none⟩ : Addr).block = R from rfl, hres]
      simp
    · rw [show (⟨R, 1, none⟩ : Addr).block = R from rfl, hres2]
      simp

theorem CtI.start (w wr : World) (R n : Nat) (hlo : w.heap.size ≤ R) (hR : wr.heap[R]? = some (.cells #[.int .i64 0, .slice none 0 0] 69 (0, 0))) (hb : Below w.heap.size w wr) : CtI w R wr.heap.size n [] (wr.alloc (.cells #[.int .i64 (n : Int), .slice none 0 0] 69)) := by
  have hlt := (Array.getElem?_eq_some_iff.1 hR).1
  exact ⟨hlo, hlt, (Below.heap_alloc _ _ _ hlt).trans hR, ⟨.slice none 0 0, heap_alloc_new wr _, Fr.nil _ _ _ _⟩, hb.alloc hb.size _, by simp⟩


/-- The first numbers of a list that is read. -/
theorem Sl.cutC {w : World} {a : Addr} {n c c' d : Nat} {l : List Int} (h : Sl 0 3 w (.slice (some a) n c) (ints l)) (hd : d ≤ l.length) (h1 : d ≤ c') (h2 : c' ≤ maxLen) : Sl 0 3 w (.slice (some a) d c') (ints (l.take d)) := by
  obtain ⟨ao, cap, hv, _, _, h3, _⟩ := h
  simp only [Value.slice.injEq] at hv
  obtain ⟨rfl, _, _⟩ := hv
  refine ⟨some a, c', by simp [show min d l.length = d by omega], by simp; omega, h2, fun i hi => ?_, fun e => by cases e⟩
  simp at hi
  obtain ⟨b, o, e, hc, ht⟩ := h3 i (by simp; omega)
  refine ⟨b, o, e, hc.trans ?_, ht⟩
  rw [ints_get _ _ (by omega), ints_get _ _ (by simp; omega)]
  simp [show i < d by omega]

theorem run_cut2C {a : Addr} {n c d : Nat} (h1 : d ≤ n) (h2 : n ≤ c) (w : World) : (Instr.slice 22 (.slice (some a) n c) none (some (.int .i64 (d : Int))) none).run Try.prog w = .ok (.slice (some a) d c) w := by
  have e1 : (0 : Int) ≤ (d : Int) ∧ (d : Int) ≤ (c : Int) := by omega
  have e2 : d ≤ c := by omega
  have hz : ∀ w, (Go.sizeOf 3).run Try.prog w = .ok 1 w := fun w => by kernel_rfl
  simp [Instr.slice, Instr.sliceBounds, Instr.sliceBound, run_underlying Try.underlying22, asIntOf, e1, e2, hz, Addr.add, go_sem]


/-! ### Beside an iterator over a text -/

theorem Sl.iterAt {B : Nat} {e : TypeId} {w : World} {v : Value} {xs : List Value} (h : Sl B e w v xs) {k : Nat} {s : ByteArray} {pos : Nat} (hB : B ≤ k) (hk : w.heap[k]? = some (.stringIter s pos)) (pos' : Nat) : Sl B e (w.iterAt k s pos') v xs :=
  h.move fun b hl ht => ⟨Lib.iterAt_other w k b s pos' (fun e1 => by
    rcases ht with ht | ⟨cur, ht⟩
    · omega
    · rw [e1, hk] at ht; cases ht), ht⟩

theorem owns_iterAt {w : World} {B e size n : Nat} {v : Value} {xs : List Value} {k : Nat} {s : ByteArray} {pos : Nat} (h : w.ownsRow B e size v n xs) (hk : w.heap[k]? = some (.stringIter s pos)) (pos' : Nat) : (w.iterAt k s pos').ownsRow B e size v n xs := by
  refine ⟨h.1, ?_⟩
  rcases h.2 with q | ⟨g, cap, cur, e1, e2, e3, e4⟩
  · exact .inl q
  · exact .inr ⟨g, cap, cur, e1, e2, (Lib.iterAt_other w k g s pos' (fun e => by rw [e, hk] at e3; cases e3)).trans e3, e4⟩

theorem Fr.iterAt {B : Nat} {e2 e1 : TypeId} {w : World} {v : Value} {m : List (List Int)} (h : Fr B e2 e1 w v m) {k : Nat} {s : ByteArray} {pos : Nat} (hk : w.heap[k]? = some (.stringIter s pos)) (pos' : Nat) : Fr B e2 e1 (w.iterAt k s pos') v m := by
  obtain ⟨vs, h1, h2, h3⟩ := h
  exact ⟨vs, h1, owns_iterAt h2 hk pos', fun i hi => (h3 i hi).iterAt (Nat.zero_le _) hk pos'⟩

theorem CtI.iterAt {w wr : World} {R Q n : Nat} {m : List (List Int)} (h : CtI w R Q n m wr) {k : Nat} {s : ByteArray} {pos : Nat} (hk : wr.heap[k]? = some (.stringIter s pos)) (pos' : Nat) (hlo : w.heap.size ≤ k) : CtI w R Q n m (wr.iterAt k s pos') := by
  obtain ⟨sv, h1, h2⟩ := h.box
  have hr := h.res
  exact ⟨h.lo, h.rq, (Lib.iterAt_other wr k R s pos' (fun e => by rw [e, hk] at hr; cases hr)).trans hr, ⟨sv, (Lib.iterAt_other wr k Q s pos' (fun e => by rw [e, hk] at h1; cases h1)).trans h1, h2.iterAt hk pos'⟩, Lib.below_iterAt h.bel hlo s pos', by rw [Lib.iterAt_size]; exact h.sz⟩

end Go.Proofs.Ytmljnfgfjcjmmaa

/- plane.goesAbove. -/
namespace Go.Proofs.Ytmljnfgfjcjmmaa
open Go.RowKit Lin
attribute [local go_sem ↓] Go.wp_at_zero Go.wp_at_succ

theorem best_bd {d : Nat} {rows : List (List Int)} {g : List Int} {a b : Int} (hc : CutOk d rows) (hgl : g.length = d) (hgb : ∀ z ∈ g, z.natAbs ≤ 20) (h : BestV d rows g a b) : a.natAbs ≤ 80000000 ∧ b.natAbs ≤ 80000000 := by
  rcases h with ⟨_, rfl, rfl⟩ | ⟨y, h0, hy, hl⟩
  · exact ⟨by decide, by decide⟩
  · have hk := way_ok hc hgl hgb (lwO_mem hy)
    have h1 := sdL_bd hk hc.rw
    have h2 := hk.ub
    obtain ⟨_, q1, q2⟩ := low_cross hl
    constructor <;> omega

set_option maxRecDepth 100000 in
set_option maxHeartbeats 1600000 in
theorem above_any (d : Nat) (rows : List (List Int)) (p : List Int) (v pv : Value) (w : World) (hv : Mat 0 22 3 w v rows) (hp : Sl 0 3 w pv (ints p)) (hc : CutOk d rows) (hpl : p.length = d + 1) (hpb : ∀ z ∈ p, z.natAbs ≤ 20) (hf : ∃ x y, Fea d rows x y) :
    Calls Try.prog 48 #[.agg #[.int .i64 d, v], pv] w fun e w' => e = .returned (.bool (gaC d rows p)) ∧ Below w.heap.size w w' := by
  obtain ⟨ro, rc, hvv, hlc, hcm⟩ := mat_open hv
  obtain ⟨po, pc, hpp, hlp, hpm⟩ := sl_open hp
  rw [hpl] at hpp
  subst hvv hpp
  obtain ⟨pa, rfl⟩ : ∃ pa, po = some pa := by
    obtain ⟨ao, cap, e1, _, _, h3, _⟩ := hp
    obtain ⟨b, o, e, _⟩ := h3 0 (by simp; omega)
    simp only [Value.slice.injEq] at e1
    exact ⟨_, e1.1.trans e⟩
  obtain ⟨pb, pof, hpa⟩ : ∃ pb pof, pa = ⟨pb, pof, none⟩ := by
    obtain ⟨ao, cap, e1, _, _, h3, _⟩ := hp
    obtain ⟨b, o, e, _⟩ := h3 0 (by simp; omega)
    simp only [Value.slice.injEq] at e1
    have := e1.1.trans e
    exact ⟨b, o, by simpa using this⟩
  subst hpa
  obtain ⟨W, hW, hbW, hsW, hcW⟩ := cut_box w d (.slice ro rows.length rc)
  have HWW : Hid (W = w.alloc (.cells #[.int .i64 d, .slice ro rows.length rc] 69)) := hW
  have HBW : Hid (∀ X, Below W.heap.size W X → Below w.heap.size w X) := fun X hX => hbW.trans (hX.mono hbW.size)
  have HCC : Hid (∀ X, Below W.heap.size W X → X.cell? ⟨w.heap.size, 0, none⟩ = some (.int .i64 d) ∧ X.cell? ⟨w.heap.size, 1, none⟩ = some (.slice ro rows.length rc)) := hcW
  have hgl : (p.take d).length = d := by simp; omega
  have hgb : ∀ z ∈ p.take d, z.natAbs ≤ 20 := fun z hz => hpb z (List.mem_of_mem_take hz)
  have HLW : Hid (∀ X, Below W.heap.size W X → Calls Try.prog 66 #[.agg #[.int .i64 d, .slice ro rows.length rc], .slice (some ⟨pb, pof, none⟩) d pc] X fun e w' => ∃ a b, e = .returned (.tuple #[.int .i64 a, .int .i64 b, .int .i64 (gmE d rows (p.take d))]) ∧ BestV d rows (p.take d) a b ∧ Below W.heap.size W w') := fun X hX => by
    have hB := HBW.out X hX
    refine (best_any d rows (p.take d) _ _ X (hv.below hB (Nat.le_refl _)) ((hp.below hB (Nat.le_refl _)).cutC (by omega) (by omega) (by unfold maxLen; omega)) hc hgl hgb).mono ?_
    rintro e w' ⟨a, b, rfl, h1, h2⟩
    exact ⟨a, b, rfl, h1, hX.trans (h2.mono hX.size)⟩
  have HPD : Hid (∀ X, Below W.heap.size W X → X.cell? ⟨pb, pof + d, none⟩ = some (.int .i64 (V p d))) := fun X hX => by
    obtain ⟨ao, cap, e1, _, _, h3, _⟩ := hp.below (HBW.out X hX) (Nat.le_refl _)
    obtain ⟨b, o, e, hcc, _⟩ := h3 d (by simp; omega)
    simp only [Value.slice.injEq] at e1
    have := e1.1.trans e
    simp only [Option.some.injEq, Addr.mk.injEq] at this
    obtain ⟨rfl, rfl, _⟩ := this
    rw [hcc, ints_get _ _ (by omega)]
    rfl
  have HGA : Hid (∀ a b, BestV d rows (p.take d) a b → (decide (gmE d rows (p.take d) = 7) || decide (V p d * b < a)) = gaC d rows p ∧ a.natAbs ≤ 80000000 ∧ b.natAbs ≤ 80000000) := fun a b hB => by
    refine ⟨?_, best_bd hc hgl hgb hB⟩
    have := (ga_iff hpl hf hB).trans gaC_iff.symm
    rw [Bool.eq_iff_iff, ← this]
    simp
  have hvd : (V p d).natAbs ≤ 20 := hpb _ (by simp [V, hpl])
  have hd3 := hc.d3
  have hsl := fun w => run_cut2C (a := ⟨pb, pof, none⟩) (n := d + 1) (c := pc) (d := d) (by omega) (by omega) w
  have hpc := hlp
  rw [hpl] at hpc
  obtain ⟨c0, c1⟩ := hcW W (Below.refl _ _)
  clear hv hp hc hpl hpb hf hW hbW hsW hcW hgl hgb hlp
  generalize gmE d rows (p.take d) = E at *
  generalize hvp : V p d = vd at *
  clear hvp
  go_enter Try.func48, Try.ntmps48
  go_upto_region 1 with fail
  rw [← HWW.out]
  refine wp_region_held_drew (S := fun X => Below W.heap.size W X ∧ X.cell? ⟨w.heap.size, 0, none⟩ = some (.int .i64 d) ∧ X.cell? ⟨w.heap.size, 1, none⟩ = some (.slice ro rows.length rc)) (by kernel_rfl) ⟨(Below.refl _ _).drew, HCC.out _ (Below.refl _ _).drew⟩ (fun hHeld => ?_)
  refine wpAnyH_tk (i := 0) (d := 9) (v := (.agg #[.int .i64 d, .slice ro rows.length rc])) rfl rfl (by kernel_rfl) (by kernel_rfl) (by kernel_rfl) (fun _ _ _ h => h) (.inl ⟨by rfl, by (intro wq hSw; (try dsimp only at hSw); go_simp; (try (first | rfl | omega)))⟩) hHeld ?_
  simp only [Act.put, List.setIfInBounds_toArray, List.set_cons_zero, List.set_cons_succ]
  refine wpAnyH_tk (i := 1) (d := 10) (v := (.slice (some ⟨pb, pof, none⟩) (d + 1) pc)) rfl rfl (by kernel_rfl) (by kernel_rfl) (by kernel_rfl) (fun _ _ _ h => h) (.inl ⟨by rfl, by (intro wq hSw; (try dsimp only at hSw); go_simp; (try (first | rfl | omega)))⟩) hHeld ?_
  simp only [Act.put, List.setIfInBounds_toArray, List.set_cons_zero, List.set_cons_succ]
  refine wpAnyH_tk (i := 2) (d := 11) (v := (.pointer (some ⟨w.heap.size, 0, none⟩))) rfl rfl (by kernel_rfl) (by kernel_rfl) (by kernel_rfl) (fun _ _ _ h => h) (.inl ⟨by rfl, by (intro wq hSw; (try dsimp only at hSw); go_simp; (try (first | rfl | omega)))⟩) hHeld ?_
  simp only [Act.put, List.setIfInBounds_toArray, List.set_cons_zero, List.set_cons_succ]
  refine wpAnyH_tk (i := 3) (d := 12) (v := (.int .i64 d)) rfl rfl (by kernel_rfl) (by kernel_rfl) (by kernel_rfl) (fun _ _ _ h => h) (.inl ⟨by rfl, by (intro wq hSw; (try dsimp only at hSw); go_simp; (try (first | rfl | omega)))⟩) hHeld ?_
  simp only [Act.put, List.setIfInBounds_toArray, List.set_cons_zero, List.set_cons_succ]
  refine wpAnyH_tk (i := 4) (d := 13) (v := (.slice (some ⟨pb, pof, none⟩) d pc)) rfl rfl (by kernel_rfl) (by kernel_rfl) (by kernel_rfl) (fun _ _ _ h => h) (.inl ⟨by rfl, by (intro wq hSw; (try dsimp only at hSw); go_simp; (try (first | rfl | omega)))⟩) hHeld ?_
  simp only [Act.put, List.setIfInBounds_toArray, List.set_cons_zero, List.set_cons_succ]
  refine wpAnyH_ready (rs := [5]) (by kernel_rfl) (by simp) ?_
  refine ready_tk (i := 5) rfl (by rfl) (fun K hK => ?_) AllReadyH.nil
  go_simp
  refine (HLW.out _ (Below.refl _ _).drew).mono ?_
  rintro e w5 ⟨a, b, rfl, hbv, hb5⟩
  refine hK.out _ _ ⟨hb5, HCC.out w5 hb5⟩ (fun hHeld => ?_)
  clear hK K
  obtain ⟨hans, hab, hbb⟩ := HGA.out a b hbv
  refine wpAnyH_tk (i := 6) (d := 8) (v := (.tuple #[.int .i64 a, .int .i64 b, .int .i64 E])) rfl rfl (by kernel_rfl) (by kernel_rfl) (by kernel_rfl) (fun _ _ _ h => h) (.inl ⟨by rfl, by (intro wq hSw; (try dsimp only at hSw); go_simp; (try (first | rfl | omega)))⟩) hHeld ?_
  simp only [Act.put, List.setIfInBounds_toArray, List.set_cons_zero, List.set_cons_succ]
  refine wpAnyH_tk (i := 7) (d := 15) (v := (.int .i64 a)) rfl rfl (by kernel_rfl) (by kernel_rfl) (by kernel_rfl) (fun _ _ _ h => h) (.inl ⟨by rfl, by (intro wq hSw; (try dsimp only at hSw); go_simp; (try (first | rfl | omega)))⟩) hHeld ?_
  simp only [Act.put, List.setIfInBounds_toArray, List.set_cons_zero, List.set_cons_succ]
  refine wpAnyH_tk (i := 8) (d := 16) (v := (.int .i64 b)) rfl rfl (by kernel_rfl) (by kernel_rfl) (by kernel_rfl) (fun _ _ _ h => h) (.inl ⟨by rfl, by (intro wq hSw; (try dsimp only at hSw); go_simp; (try (first | rfl | omega)))⟩) hHeld ?_
  simp only [Act.put, List.setIfInBounds_toArray, List.set_cons_zero, List.set_cons_succ]
  refine wpAnyH_tk (i := 9) (d := 17) (v := (.int .i64 E)) rfl rfl (by kernel_rfl) (by kernel_rfl) (by kernel_rfl) (fun _ _ _ h => h) (.inl ⟨by rfl, by (intro wq hSw; (try dsimp only at hSw); go_simp; (try (first | rfl | omega)))⟩) hHeld ?_
  simp only [Act.put, List.setIfInBounds_toArray, List.set_cons_zero, List.set_cons_succ]
  refine wpAnyH_tk (i := 10) (d := 5) (v := (.int .i64 a)) rfl rfl (by kernel_rfl) (by kernel_rfl) (by kernel_rfl) (fun _ _ _ h => h) (.inl ⟨by rfl, by (intro wq hSw; (try dsimp only at hSw); go_simp; (try (first | rfl | omega)))⟩) hHeld ?_
  simp only [Act.put, List.setIfInBounds_toArray, List.set_cons_zero, List.set_cons_succ]
  refine wpAnyH_tk (i := 11) (d := 6) (v := (.int .i64 b)) rfl rfl (by kernel_rfl) (by kernel_rfl) (by kernel_rfl) (fun _ _ _ h => h) (.inl ⟨by rfl, by (intro wq hSw; (try dsimp only at hSw); go_simp; (try (first | rfl | omega)))⟩) hHeld ?_
  simp only [Act.put, List.setIfInBounds_toArray, List.set_cons_zero, List.set_cons_succ]
  refine wpAnyH_tk (i := 12) (d := 7) (v := (.int .i64 E)) rfl rfl (by kernel_rfl) (by kernel_rfl) (by kernel_rfl) (fun _ _ _ h => h) (.inl ⟨by rfl, by (intro wq hSw; (try dsimp only at hSw); go_simp; (try (first | rfl | omega)))⟩) hHeld ?_
  simp only [Act.put, List.setIfInBounds_toArray, List.set_cons_zero, List.set_cons_succ]
  refine wpAnyH_done (by kernel_rfl) ?_ _
  have HB5 : Hid (Below W.heap.size W w5) := hb5
  obtain ⟨c0', c1'⟩ := HCC.out w5 hb5
  have c2 := HPD.out w5 hb5
  have hw1 : IntKind.i64.wrap (vd * b) = vd * b := by
    have : (vd * b).natAbs ≤ 20 * 80000000 := by rw [Int.natAbs_mul]; exact Nat.mul_le_mul hvd hbb
    rw [IntKind.wrap_i64]; omega
  have HAN : Hid ((decide (E = 7) || decide (vd * b < a)) = gaC d rows p) := hans
  clear hHeld hb5 hbv hans c0 c1
  by_cases h7 : E = 7
  · subst h7
    go_wp2
    go_ret
    refine ⟨?_, HBW.out _ HB5.out⟩
    rw [← HAN.out]
    simp
  · have h7b : decide (E = 7) = false := by simpa using h7
    have h7c : (E == 7) = false := by simpa using h7
    go_wp2
    go_ret
    refine ⟨?_, HBW.out _ HB5.out⟩
    rw [← HAN.out]
    simp [h7]

end Go.Proofs.Ytmljnfgfjcjmmaa

/- A drawn region in a round, by the plain walk that holds cells. -/
namespace Go.Proofs.Ytmljnfgfjcjmmaa
open Go

def notDef (o : Oper) : Bool := match o.op with
  | .defer _ => false
  | _ => true

theorem no_defer {ops : Array Oper} (h : ops.all notDef = true) : ∀ (i : Nat) (o : Oper), ops[i]? = some o → ∀ c, o.op ≠ .defer c := by
  intro i o ho c hc
  obtain ⟨hi, rfl⟩ := Array.getElem?_eq_some_iff.1 ho
  have := Array.all_eq_true.1 h i hi
  unfold notDef at this
  rw [hc] at this
  cases this

/-- It comes to its end, and nothing else. -/
def Nrm (K : Act → World → Prop) : Exit → Act → World → Prop
  | .normal, a, w => K a w
  | _, _, _ => False

theorem nrm_lets {K : Act → World → Prop} (h : LetsOut (Nrm K)) : False := by
  obtain ⟨a, w, h⟩ := h
  exact h

theorem rowsIn_rnd {P : Program} {L n : Nat} {row : String} {args : Array Value} {w : World} {R : Value → World → Prop} (h : Rows P row args w R) : RowsIn (Fence.wide.inRound L) n P row args w R := by
  intro c cs _
  obtain ⟨v, w', h1, h2⟩ := h c cs
  exact ⟨v, w', h1, stepsIn_wide.2 h2⟩

theorem wpOp_rnd {P : Program} {L n : Nat} {ops : Array Oper} {K0 : Act → World → Prop} {Q : Exit → Act → World → Prop} {K K' : Act → World → Prop} {i : Nat} {a : Act} {w : World} (hd : ∀ o, ops[i]? = some o → ∀ c, o.op ≠ .defer c)
    (hK : ∀ a w, K a w → K' a w) (h : wpOp P ops (Nrm K0) i K a w) : wpOpIn (Fence.wide.inRound L) n P ops Q i K' a w := by
  unfold wpOp at h
  unfold wpOpIn
  cases ho : ops[i]? with
  | none =>
    rw [ho] at h
    exact hK _ _ h
  | some o =>
    rw [ho] at h
    simp only at h ⊢
    by_cases hw : Region.wanted o (yielded ops a.tmps) = true
    · rw [if_pos hw] at h ⊢
      rcases h with h | ⟨_, h⟩
      · refine ⟨fun f _ => trivial, ?_⟩
        have hsem : o.semAt (Fence.wide.inRound L).round a.eval = execOp a.eval o := Oper.semAt_plain (Fence.wide.inRound L) _ _ (hd o ho)
        rw [hsem]
        unfold Oper.wp at h
        generalize (execOp a.eval o).run P w = r at *
        cases r with
        | ok nx w' =>
          cases nx with
          | value v => exact hK _ _ h
          | skip => exact hK _ _ h
          | defer d => exact hK _ _ h
          | enter f args =>
            refine ⟨fun hx => (by cases hx), ?_⟩
            refine CallsIn.inRound L (callsIn_wide.2 (Calls.mono h ?_))
            intro e w'' he
            cases e with
            | returned v => exact hK _ _ he
            | panicked c => exact he.elim
            | outgrown => exact (nrm_lets he).elim
          | row row args =>
            refine ⟨fun hx => (by cases hx), rowsIn_rnd (Rows.mono h fun v w'' he => hK _ _ he)⟩
          | _ => exact h.elim
        | halt x w' =>
          cases x <;> exact h.elim
      · exact (nrm_lets h).elim
    · rw [if_neg hw] at h ⊢
      exact ⟨fun f _ => trivial, hK _ _ h⟩

theorem wpAnyIn_rnd {P : Program} {L n : Nat} {md : Region.Mode} {ops : Array Oper} {S : World → Prop} {K : Act → World → Prop} {Q : Exit → Act → World → Prop} (hd : ∀ (i : Nat) (o : Oper), ops[i]? = some o → ∀ c, o.op ≠ .defer c) (hQ : ∀ a w, K a w → Q .normal a w) :
    ∀ (fuel : Nat) (listed : Array Bool) (a : Act) (w : World), wpAnyH P md ops (Nrm K) S fuel listed a w → wpAnyIn (Fence.wide.inRound L) n P md ops Q fuel listed a w
  | 0, _, _, _, h => ⟨h.1, hQ _ _ h.2⟩
  | fuel + 1, _, _, _, h => ⟨fun hr => hQ _ _ (h.1 hr), fun i hi => wpOp_rnd (hd i) (fun a' w' h' => wpAnyIn_rnd hd hQ fuel _ a' w' h'.2) (h.2 i hi)⟩

theorem wpIn_region_rnd {P : Program} {L n id : Nat} {ops : Array Oper} (S : World → Prop) {K : Act → World → Prop} {Q : Exit → Act → World → Prop} {a : Act} {w : World} (hm : P.follows .mixedOrders = true) (hd : ∀ (i : Nat) (o : Oper), ops[i]? = some o → ∀ c, o.op ≠ .defer c) (hQ : ∀ a w, K a w → Q .normal a w)
    (hS : S w.drew) (h : S w.drew → wpAnyH P .any ops (Nrm K) S ops.size (Array.replicate ops.size false) a w.drew) : (Code.region id ops true).wpIn (Fence.wide.inRound L) n P Q a w :=
  wpIn_region_any hm (wpAnyIn_rnd hd hQ _ _ _ _ (h hS))

end Go.Proofs.Ytmljnfgfjcjmmaa

/- A drawn region by one saying that every operation keeps, in whatever order they come. -/
namespace Go.Proofs.Ytmljnfgfjcjmmaa
open Go Go.RowKit

theorem count_set {L : List Bool} : ∀ {i : Nat}, L[i]? = some false → (L.set i true).count false + 1 = L.count false := by
  induction L with
  | nil => intro i h; simp at h
  | cons x L ih =>
    intro i h
    cases i with
    | zero =>
      simp only [List.getElem?_cons_zero, Option.some.injEq] at h
      subst h
      simp
    | succ i =>
      simp only [List.getElem?_cons_succ] at h
      have := ih h
      cases x <;> simp <;> omega

theorem ready_un {md : Region.Mode} {ops : Array Oper} {L : Array Bool} {i : Nat} (h : i ∈ Region.ready md ops L) : L[i]? = some false := by
  unfold Region.ready at h
  have := (List.mem_filter.1 h).2
  simp only [Bool.and_eq_true, Bool.not_eq_true'] at this
  have h1 := this.1
  rw [Array.getD_eq_getD_getElem?] at h1
  cases hx : L[i]? with
  | none => rw [hx] at h1; simp at h1
  | some b => rw [hx] at h1; simp at h1; rw [h1]

theorem wpAnyH_inv {P : Program} {md : Region.Mode} {ops : Array Oper} {Q : Exit → Act → World → Prop} (Inv : Array Bool → Act → World → Prop)
    (hstep : ∀ L a w i, Inv L a w → i ∈ Region.ready md ops L → wpOp P ops Q i (fun a' w' => Inv (L.setIfInBounds i true) a' w') a w)
    (hend : ∀ L a w, Inv L a w → Region.ready md ops L = [] → Q .normal a w) :
    ∀ (fuel : Nat) (L : Array Bool) (a : Act) (w : World), Inv L a w → L.toList.count false ≤ fuel → wpAnyH P md ops Q (fun _ => True) fuel L a w
  | 0, L, a, w, h, hf => by
    have hr : Region.ready md ops L = [] := by
      refine List.eq_nil_iff_forall_not_mem.2 fun i hi => ?_
      have h1 := ready_un hi
      rw [← Array.getElem?_toList] at h1
      have := List.count_pos_iff.2 (List.mem_of_getElem? h1)
      omega
    exact ⟨hr, hend L a w h hr⟩
  | fuel + 1, L, a, w, h, hf => by
    refine ⟨fun hr => hend L a w h hr, fun i hi => ?_⟩
    have h1 := ready_un hi
    refine wpOp_mono (fun a' w' h' => ⟨trivial, wpAnyH_inv Inv hstep hend fuel _ a' w' h' ?_⟩) (hstep L a w i h hi)
    rw [← Array.getElem?_toList] at h1
    have := count_set h1
    rw [Array.toList_setIfInBounds]
    omega

theorem wpOp_hid {P : Program} {ops : Array Oper} {Q : Exit → Act → World → Prop} {i : Nat} {K : Act → World → Prop} {a : Act} {w : World} {o : Oper} (ho : ops[i]? = some o) (hg : o.guard = none)
    (h : ∀ K' : Act → World → Prop, Hid (∀ a' w', K a' w' → K' a' w') → o.wp P a w K' Q) : wpOp P ops Q i K a w := by
  unfold wpOp
  rw [ho]
  have hw : Region.wanted o (yielded ops a.tmps) = true := by simp [Region.wanted, hg]
  simp only [hw, if_true]
  exact Or.inl (h K (fun _ _ h => h))

end Go.Proofs.Ytmljnfgfjcjmmaa
