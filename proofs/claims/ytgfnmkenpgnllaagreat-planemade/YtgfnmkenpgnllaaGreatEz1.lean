/- Signs told by leaving out numbers (pure): the document's way says just what places have. -/
import Derived.Test.YtgfnmkenpgnllaaGreatEz0
import Derived.Test.YtgfnmkenpgnllaaGreatSg0
import Derived.Test.YtgfnmkenpgnllaaGreatDsq
namespace Go.Proofs.YtgfnmkenpgnllaaGreat
open Lin

theorem nodupE : ∀ s t : List (List Int), s.Nodup → (∀ r ∈ s, r ∈ t) → s.length ≤ t.length
  | [], _, _, _ => by simp
  | a :: s, t, hn, h => by
    obtain ⟨h1, h2⟩ := List.nodup_cons.1 hn
    have ha := h a (by simp)
    have ih := nodupE s (t.erase a) h2 fun r hr => (List.mem_erase_of_ne (fun e => h1 (by rw [← e]; exact hr))).2 (h r (by simp [hr]))
    rw [List.length_erase_of_mem ha] at ih
    have := List.length_pos_of_mem ha
    simp
    omega

theorem sascE {s : List (List Int)} (h : SAsc s) : s.Nodup :=
  List.Pairwise.imp (fun {a b} hab e => by
    subst e
    rw [cmpL_self] at hab
    omega) h

/-- A row made small, its mark 0 or 1. -/
def lmE (r : List Int) : List Int := low (r.take (r.length - 1)) ++ [if 0 < r.getD (r.length - 1) 0 then 1 else 0]

theorem lowE_len (l : List Int) : (low l).length = l.length := by simp [low]

theorem lmE_len {r : List Int} (h : 0 < r.length) : (lmE r).length = r.length := by
  simp [lmE, lowE_len]; omega

theorem lmE_lt {r : List Int} {k i : Nat} (h : r.length = k + 2) (hi : i < k + 1) : V (lmE r) i = V (low (r.take (k + 1))) i := by
  have e : r.length - 1 = k + 1 := by omega
  simp only [V, lmE, e, List.getD_eq_getElem?_getD]
  rw [List.getElem?_append_left (by rw [lowE_len]; simp; omega)]

theorem lmE_mk {r : List Int} {k : Nat} (h : r.length = k + 2) : V (lmE r) (k + 1) = if 0 < V r (k + 1) then 1 else 0 := by
  have e : r.length - 1 = k + 1 := by omega
  have e2 : (low (r.take (k + 1))).length = k + 1 := by rw [lowE_len]; simp; omega
  simp only [V, lmE, e]
  rw [List.getD_eq_getElem?_getD, List.getElem?_append_right (by omega), e2, Nat.sub_self]
  rfl

theorem lmE_low {r : List Int} {k : Nat} (h : r.length = k + 2) : ∃ g : Int, 0 < g ∧ ∀ i, i < k + 1 → V r i = g * V (lmE r) i := by
  have ht : ∀ i, i < k + 1 → V (r.take (k + 1)) i = V r i := fun i hi => by
    simp only [V, List.getD_eq_getElem?_getD]
    rw [List.getElem?_take_of_lt hi]
  by_cases h0 : gc (r.take (k + 1)) = 0
  · refine ⟨1, by decide, fun i hi => ?_⟩
    rw [lmE_lt h hi, low_zero h0, ht i hi, Int.one_mul]
  · refine ⟨(gc (r.take (k + 1)) : Int), by omega, fun i hi => ?_⟩
    rw [lmE_lt h hi, ← ht i hi]
    exact (low_at (r.take (k + 1)) i).symm

theorem le_scale {g a b : Int} (hg : 0 < g) : g * a ≤ g * b ↔ a ≤ b := ⟨fun h => Int.le_of_mul_le_mul_left h hg, fun h => Int.mul_le_mul_of_nonneg_left h (by omega)⟩
theorem lt_scale {g a b : Int} (hg : 0 < g) : g * a < g * b ↔ a < b := ⟨fun h => Int.lt_of_mul_lt_mul_left h (by omega), fun h => Int.mul_lt_mul_of_pos_left h hg⟩

theorem rw_lm {r : List Int} {k : Nat} (h : r.length = k + 2) (v : Nat → Int) (w : Int) : RwH k (lmE r) v w ↔ RwH k r v w := by
  obtain ⟨g, hg, he⟩ := lmE_low h
  unfold RwH
  have e1 : dot k (V r) v = g * dot k (V (lmE r)) v := by
    have : dot k (V r) v = dot k (fun i => g * V (lmE r) i + 0 * V (lmE r) i) v := dot_congr (fun i hi => by rw [he i (by omega)]; omega) fun _ _ => rfl
    rw [this, dot_lc]; omega
  have e2 : V r k * w = g * (V (lmE r) k * w) := by rw [he k (by omega)]; grind
  rw [e1, e2, le_scale hg, lt_scale hg, lmE_mk h]
  by_cases hm : 0 < V r (k + 1)
  · simp [hm]
  · simp [hm]

theorem ths_mem {k : Nat} {a b : List (List Int)} (h : ∀ r, r ∈ a ↔ r ∈ b) : Ths k a ↔ Ths k b :=
  ⟨fun ⟨v, w, hw, hr⟩ => ⟨v, w, hw, fun r hb => hr r ((h r).2 hb)⟩, fun ⟨v, w, hw, hr⟩ => ⟨v, w, hw, fun r hb => hr r ((h r).1 hb)⟩⟩

theorem ths_lm {k : Nat} {m : List (List Int)} (hl : ∀ r ∈ m, r.length = k + 2) : Ths k (m.map lmE) ↔ Ths k m := by
  constructor
  · rintro ⟨v, w, hw, h⟩
    exact ⟨v, w, hw, fun r hr => (rw_lm (hl r hr) v w).1 (h _ (List.mem_map.2 ⟨r, hr, rfl⟩))⟩
  · rintro ⟨v, w, hw, h⟩
    refine ⟨v, w, hw, fun r hr => ?_⟩
    obtain ⟨q, hq, rfl⟩ := List.mem_map.1 hr
    exact (rw_lm (hl q hq) v w).2 (h q hq)

/-- The rows of one sign, and of all. -/
def thR (p : List Int) (c : UInt8) : List (List Int) := if c = 43 then [ngL p ++ [1]] else if c = 45 then [p ++ [1]] else [p ++ [0], ngL p ++ [0]]
def thT (P : List (List Int)) (s : List UInt8) (k : Nat) : List (List Int) := (List.range k).flatMap fun i => thR (P.getD i []) (s.getD i 0)

theorem thT_succ (P : List (List Int)) (s : List UInt8) (k : Nat) : thT P s (k + 1) = thT P s k ++ thR (P.getD k []) (s.getD k 0) := by
  simp [thT, List.range_succ]

theorem thR_len (p : List Int) (c : UInt8) : (thR p c).length ≤ 2 := by
  unfold thR
  split
  · simp
  · split <;> simp

theorem thR_one {p : List Int} {c : UInt8} (h : c = 43 ∨ c = 45) : (thR p c).length = 1 := by
  rcases h with rfl | rfl <;> rfl

theorem thT_len (P : List (List Int)) (s : List UInt8) : ∀ k, (thT P s k).length ≤ 2 * k
  | 0 => by simp [thT]
  | k + 1 => by
    have h1 := thT_len P s k
    have h2 := thR_len (P.getD k []) (s.getD k 0)
    rw [thT_succ, List.length_append]
    omega

theorem thT_one {P : List (List Int)} {s : List UInt8} : ∀ k, k ≤ s.length → (∀ c ∈ s, c = 43 ∨ c = 45) → (thT P s k).length = k
  | 0, _, _ => by simp [thT]
  | k + 1, hk, h => by
    have h1 := thT_one (P := P) k (by omega) h
    have h2 := thR_one (p := P.getD k []) (c := s.getD k 0) (h _ (by
      rw [List.getD_eq_getElem?_getD, List.getElem?_eq_getElem (show k < s.length by omega)]
      exact List.getElem_mem _))
    rw [thT_succ, List.length_append]
    omega

theorem V_snocL {p : List Int} {m : Int} {i : Nat} (h : i < p.length) : V (p ++ [m]) i = V p i := by
  simp only [V, List.getD_eq_getElem?_getD]
  rw [List.getElem?_append_left h]

theorem V_snocE {p : List Int} {m : Int} {k : Nat} (h : p.length = k) : V (p ++ [m]) k = m := by
  simp [V, List.getD_eq_getElem?_getD, ← h]

theorem ngL_len (p : List Int) : (ngL p).length = p.length := by simp [ngL]

theorem rwH_snoc {d : Nat} {p : List Int} {m : Int} (hp : p.length = d + 1) (z : Nat → Int) : RwH d (p ++ [m]) z (z d) ↔ hv d p z ≤ 0 ∧ (0 < m → hv d p z < 0) := by
  unfold RwH hv
  have e1 : dot d (V (p ++ [m])) z = dot d (V p) z := dot_congr (fun i hi => V_snocL (by omega)) fun _ _ => rfl
  rw [e1, V_snocL (by omega), V_snocE (by omega)]
  constructor
  · rintro ⟨a, b⟩
    exact ⟨by omega, fun h => by have := b h; omega⟩
  · rintro ⟨a, b⟩
    exact ⟨by omega, fun h => by have := b h; omega⟩

theorem thR_iff {d : Nat} {p : List Int} {c : UInt8} (hp : p.length = d + 1) (hc : c = 43 ∨ c = 45 ∨ c = 48) (z : Nat → Int) : (∀ r ∈ thR p c, RwH d r z (z d)) ↔ SgO c (hv d p z) := by
  have hn : (ngL p).length = d + 1 := by rw [ngL_len, hp]
  unfold thR SgO
  rcases hc with rfl | rfl | rfl
  · simp only [List.mem_singleton, if_true, forall_eq, rwH_snoc hn, hv_ng]
    constructor
    · rintro ⟨a, b⟩
      exact .inl ⟨trivial, by have := b (by decide); omega⟩
    · rintro (⟨_, a⟩ | ⟨e, _⟩ | ⟨e, _⟩)
      · exact ⟨by omega, fun _ => by omega⟩
      · exact absurd e (by decide)
      · exact absurd e (by decide)
  · rw [if_neg (by decide), if_pos rfl]
    simp only [List.mem_singleton, forall_eq, rwH_snoc hp]
    constructor
    · rintro ⟨a, b⟩
      exact .inr (.inl ⟨trivial, b (by decide)⟩)
    · rintro (⟨e, _⟩ | ⟨_, a⟩ | ⟨e, _⟩)
      · exact absurd e (by decide)
      · exact ⟨by omega, fun _ => by omega⟩
      · exact absurd e (by decide)
  · rw [if_neg (by decide), if_neg (by decide)]
    constructor
    · intro h
      have h1 := (rwH_snoc (m := 0) hp z).1 (h _ (by simp))
      have h2 := (rwH_snoc (m := 0) hn z).1 (h _ (by simp))
      rw [hv_ng] at h2
      exact .inr (.inr ⟨rfl, by omega⟩)
    · rintro (⟨e, _⟩ | ⟨e, _⟩ | ⟨_, a⟩)
      · exact absurd e (by decide)
      · exact absurd e (by decide)
      · intro r hr
        rcases List.mem_cons.1 hr with rfl | hr
        · exact (rwH_snoc hp z).2 ⟨by omega, fun h => absurd h (by decide)⟩
        · rw [List.mem_singleton.1 hr]
          refine (rwH_snoc hn z).2 ⟨?_, fun h => absurd h (by decide)⟩
          rw [hv_ng]; omega

def Chs (s : List UInt8) : Prop := ∀ c ∈ s, c = 43 ∨ c = 45 ∨ c = 48

theorem getC {s : List UInt8} {i : Nat} (h : i < s.length) : s.getD i 0 ∈ s := by
  rw [List.getD_eq_getElem?_getD, List.getElem?_eq_getElem h]
  exact List.getElem_mem _

theorem rwH_z {d : Nat} {r : List Int} {v : Nat → Int} {w : Int} : RwH d r (fun i => if i = d then w else v i) w ↔ RwH d r v w := by
  unfold RwH
  have e : dot d (V r) (fun i => if i = d then w else v i) = dot d (V r) v := dot_congr (fun _ _ => rfl) fun i hi => if_neg (by omega)
  rw [e]

theorem th_iff {d : Nat} {P : List (List Int)} {s : List UInt8} (hP : ∀ i, i < s.length → (P.getD i []).length = d + 1) (hs : Chs s) : Ths d (thT P s s.length) ↔ ∃ z, HasS d P s z := by
  constructor
  · rintro ⟨v, w, hw, h⟩
    refine ⟨fun i => if i = d then w else v i, by simpa using hw, fun i hi => ?_⟩
    refine (thR_iff (hP i hi) (hs _ (getC hi)) _).1 fun r hr => ?_
    have := h r (List.mem_flatMap.2 ⟨i, List.mem_range.2 hi, hr⟩)
    simp only [if_true]
    exact rwH_z.2 this
  · rintro ⟨z, hz, h⟩
    refine ⟨z, z d, hz, fun r hr => ?_⟩
    obtain ⟨i, hi, hr⟩ := List.mem_flatMap.1 hr
    have hi := List.mem_range.1 hi
    exact (thR_iff (hP i hi) (hs _ (getC hi)) z).2 (h i hi) r hr

/-- Rows with q numbers left, after so many rounds. -/
def bdE (j : Nat) : Nat := if j = 0 then 3 else if j = 1 then 18 else if j = 2 then 648 else 839808
def lnE (j : Nat) : Nat := if j = 0 then 8 else if j = 1 then 64 else if j = 2 then 4096 else 16777216

structure EaI (d q : Nat) (D : Prop) (m : List (List Int)) : Prop where
  ths : Ths q m ↔ D
  len : ∀ r ∈ m, r.length = q + 2
  bd : ∀ r ∈ m, ∀ z ∈ r, z.natAbs ≤ bdE (d - q)
  mrk : ∀ r ∈ m, 0 ≤ V r (q + 1)
  n : m.length ≤ lnE (d - q)

theorem drE_len {r : List Int} {k : Nat} (h : k < r.length) : (drE r k).length = r.length - 1 := by simp [drE]; omega
theorem cmE_len (v : Int) (f : List Int) (u : Int) (s : List Int) : (cmE v f u s).length = f.length := by simp [cmE]

theorem eaO_len {q : Nat} {m : List (List Int)} (h : ∀ r ∈ m, r.length = q + 3) {r : List Int} (hr : r ∈ eaO q m) : r.length = q + 2 := by
  rcases eaO_mem.1 hr with ⟨f, hf, _, rfl⟩ | ⟨f, hf, s, hs, _, _, rfl⟩
  · have := h f hf
    rw [drE_len (by omega)]; omega
  · have := h f hf
    rw [drE_len (by rw [cmE_len]; omega), cmE_len]; omega

theorem getB {r : List Int} {b k : Nat} (h : ∀ z ∈ r, z.natAbs ≤ b) : (r.getD k 0).natAbs ≤ b := by
  rw [List.getD_eq_getElem?_getD]
  cases e : r[k]? with
  | none => simp
  | some z => simpa using h z (List.mem_of_getElem? e)

theorem mulB {a b : Int} {n : Nat} (ha : a.natAbs ≤ n) (hb : b.natAbs ≤ n) : (a * b).natAbs ≤ n * n := by
  rw [Int.natAbs_mul]
  exact Nat.mul_le_mul ha hb

theorem cmE_bd {v u : Int} {f s : List Int} {n : Nat} (hv : v.natAbs ≤ n) (hu : u.natAbs ≤ n) (hf : ∀ z ∈ f, z.natAbs ≤ n) (hs : ∀ z ∈ s, z.natAbs ≤ n) : ∀ z ∈ cmE v f u s, z.natAbs ≤ 2 * (n * n) := fun z hz => by
  simp only [cmE, List.mem_map, List.mem_range] at hz
  obtain ⟨i, _, rfl⟩ := hz
  have a := mulB hv (getB (k := i) hf)
  have b := mulB hu (getB (k := i) hs)
  omega

theorem drE_bd {r : List Int} {k n : Nat} (h : ∀ z ∈ r, z.natAbs ≤ n) : ∀ z ∈ drE r k, z.natAbs ≤ n := fun z hz => by
  unfold drE at hz
  rcases List.mem_append.1 hz with h1 | h1
  · exact h z (List.mem_of_mem_take h1)
  · exact h z (List.mem_of_mem_drop h1)

theorem eaO_bd {q n : Nat} {m : List (List Int)} (h : ∀ r ∈ m, ∀ z ∈ r, z.natAbs ≤ n) (hn : 1 ≤ n) {r : List Int} (hr : r ∈ eaO q m) : ∀ z ∈ r, z.natAbs ≤ 2 * (n * n) := by
  have hnn : n ≤ n * n := Nat.le_mul_of_pos_left n hn
  rcases eaO_mem.1 hr with ⟨f, hf, _, rfl⟩ | ⟨f, hf, s, hs, _, _, rfl⟩
  · intro z hz
    have := drE_bd (h f hf) z hz
    omega
  · exact drE_bd (cmE_bd (by rw [Int.natAbs_neg]; exact getB (h s hs)) (getB (h f hf)) (h f hf) (h s hs))

theorem low_bdE {l : List Int} {b : Nat} (h : ∀ z ∈ l, z.natAbs ≤ b) : ∀ z ∈ low l, z.natAbs ≤ b := low_bd h

theorem lmE_bd {r : List Int} {n : Nat} (h : ∀ z ∈ r, z.natAbs ≤ n) (hn : 1 ≤ n) : ∀ z ∈ lmE r, z.natAbs ≤ n := fun z hz => by
  unfold lmE at hz
  rcases List.mem_append.1 hz with h1 | h1
  · exact low_bdE (fun z hz => h z (List.mem_of_mem_take hz)) z h1
  · rw [List.mem_singleton.1 h1]
    split <;> simp <;> omega

theorem flat_bdE {α β : Type} {g : α → List β} {b : Nat} : ∀ (l : List α), (∀ x ∈ l, (g x).length ≤ b) → (l.flatMap g).length ≤ l.length * b
  | [], _ => by simp
  | a :: l, h => by
    have h1 := flat_bdE l fun x hx => h x (List.mem_cons_of_mem _ hx)
    have h2 := h a List.mem_cons_self
    rw [List.flatMap_cons, List.length_append, List.length_cons, Nat.add_mul, Nat.one_mul]
    omega

theorem eaO_n (q : Nat) (m : List (List Int)) : (eaO q m).length ≤ m.length * m.length := by
  unfold eaO
  refine flat_bdE m fun f hf => ?_
  have hpos := List.length_pos_of_mem hf
  rw [List.length_append]
  by_cases h : f.getD q 0 = 0
  · rw [if_pos h]
    have : (m.flatMap fun s => if 0 < f.getD q 0 ∧ s.getD q 0 < 0 then [drE (cmE (-(s.getD q 0)) f (f.getD q 0) s) q] else []) = [] := by
      rw [List.flatMap_eq_nil_iff]
      intro s _
      rw [if_neg]
      omega
    rw [this]
    simp
    omega
  · rw [if_neg h]
    have := flat_bdE (g := fun s => if 0 < f.getD q 0 ∧ s.getD q 0 < 0 then [drE (cmE (-(s.getD q 0)) f (f.getD q 0) s) q] else []) (b := 1) m fun s _ => by split <;> simp
    simp at this ⊢
    omega

theorem EaI.next {d q : Nat} {D : Prop} {m s : List (List Int)} (h : EaI d (q + 1) D m) (hq : q + 1 ≤ d) (hd : d ≤ 3) (hs : SAsc s) (hm : ∀ r, r ∈ s ↔ r ∈ (eaO q m).map lmE) : EaI d q D s := by
  have hl : ∀ r ∈ eaO q m, r.length = q + 2 := fun r hr => eaO_len h.len hr
  have hmem : ∀ r ∈ s, ∃ x ∈ eaO q m, r = lmE x := fun r hr => by
    obtain ⟨x, hx, e⟩ := List.mem_map.1 ((hm r).1 hr)
    exact ⟨x, hx, e.symm⟩
  have hj : (d - (q + 1) = 0 ∧ d - q = 1) ∨ (d - (q + 1) = 1 ∧ d - q = 2) ∨ (d - (q + 1) = 2 ∧ d - q = 3) := by omega
  have hb : ∃ n, 1 ≤ n ∧ bdE (d - (q + 1)) = n ∧ 2 * (n * n) ≤ bdE (d - q) := by
    rcases hj with ⟨a, b⟩ | ⟨a, b⟩ | ⟨a, b⟩ <;> rw [a, b]
    · exact ⟨3, by decide, rfl, by decide⟩
    · exact ⟨18, by decide, rfl, by decide⟩
    · exact ⟨648, by decide, rfl, by decide⟩
  have hn : ∃ n, lnE (d - (q + 1)) = n ∧ n * n ≤ lnE (d - q) := by
    rcases hj with ⟨a, b⟩ | ⟨a, b⟩ | ⟨a, b⟩ <;> rw [a, b]
    · exact ⟨8, rfl, by decide⟩
    · exact ⟨64, rfl, by decide⟩
    · exact ⟨4096, rfl, by decide⟩
  refine ⟨?_, ?_, ?_, ?_, ?_⟩
  · rw [ths_mem hm, ths_lm hl, ← ease_iff h.len h.mrk]
    exact h.ths
  · intro r hr
    obtain ⟨x, hx, rfl⟩ := hmem r hr
    have := hl x hx
    rw [lmE_len (by omega)]; exact this
  · intro r hr
    obtain ⟨x, hx, rfl⟩ := hmem r hr
    obtain ⟨n, h1, h2, h3⟩ := hb
    have hbb := h.bd
    rw [h2] at hbb
    intro z hz
    have := lmE_bd (eaO_bd hbb h1 hx) (by have := Nat.le_mul_of_pos_left n h1; omega) z hz
    omega
  · intro r hr
    obtain ⟨x, hx, rfl⟩ := hmem r hr
    rw [lmE_mk (hl x hx)]
    split <;> decide
  · obtain ⟨n, h1, h2⟩ := hn
    have a := nodupE s _ (sascE hs) fun r hr => (hm r).1 hr
    rw [List.length_map] at a
    have b := eaO_n q m
    have c := h.n
    rw [h1] at c
    have : m.length * m.length ≤ n * n := Nat.mul_le_mul c c
    omega

theorem EaI.start {d : Nat} {P : List (List Int)} {s : List UInt8} (hP : ∀ i, i < s.length → (P.getD i []).length = d + 1 ∧ ∀ z ∈ P.getD i [], z.natAbs ≤ 3) (hs : Chs s) (hn : (thT P s s.length).length ≤ 8) : EaI d d (∃ z, HasS d P s z) (thT P s s.length) := by
  have hr : ∀ r ∈ thT P s s.length, r.length = d + 2 ∧ (∀ z ∈ r, z.natAbs ≤ 3) ∧ 0 ≤ V r (d + 1) := fun r hr => by
    obtain ⟨i, hi, hr⟩ := List.mem_flatMap.1 hr
    obtain ⟨h1, h2⟩ := hP i (List.mem_range.1 hi)
    generalize P.getD i [] = p at *
    have h3 : (ngL p).length = d + 1 := by rw [ngL_len, h1]
    have h4 : ∀ z ∈ ngL p, z.natAbs ≤ 3 := fun z hz => by
      obtain ⟨y, hy, rfl⟩ := List.mem_map.1 hz
      rw [Int.natAbs_neg]; exact h2 y hy
    have key : ∀ (q : List Int) (m : Int), (q = p ∨ q = ngL p) → (m = 0 ∨ m = 1) → (q ++ [m]).length = d + 2 ∧ (∀ z ∈ q ++ [m], z.natAbs ≤ 3) ∧ 0 ≤ V (q ++ [m]) (d + 1) := fun q m hq hm => by
      have hl : q.length = d + 1 := by rcases hq with rfl | rfl <;> assumption
      have hb : ∀ z ∈ q, z.natAbs ≤ 3 := by rcases hq with rfl | rfl <;> assumption
      refine ⟨by simp [hl], fun z hz => ?_, ?_⟩
      · rcases List.mem_append.1 hz with h | h
        · exact hb z h
        · rw [List.mem_singleton.1 h]
          rcases hm with rfl | rfl <;> decide
      · rw [V_snocE hl]
        rcases hm with rfl | rfl <;> decide
    unfold thR at hr
    split at hr
    · rw [List.mem_singleton.1 hr]; exact key _ _ (.inr rfl) (.inr rfl)
    · split at hr
      · rw [List.mem_singleton.1 hr]; exact key _ _ (.inl rfl) (.inr rfl)
      · rcases List.mem_cons.1 hr with rfl | hr
        · exact key _ _ (.inl rfl) (.inl rfl)
        · rw [List.mem_singleton.1 hr]; exact key _ _ (.inr rfl) (.inl rfl)
  refine ⟨th_iff (fun i hi => (hP i hi).1) hs, fun r h => (hr r h).1, ?_, fun r h => (hr r h).2.2, ?_⟩
  · rw [Nat.sub_self]; exact fun r h => (hr r h).2.1
  · rw [Nat.sub_self]; exact hn

/-- What is left says it. -/
def edB (r : List Int) : Bool := decide (r.getD 0 0 < 0) || (decide (r.getD 0 0 = 0) && decide (0 < r.getD 1 0))

theorem EaI.fin {d : Nat} {D : Prop} {m : List (List Int)} (h : EaI d 0 D m) : (m.any edB = false) ↔ D := by
  rw [← h.ths, ths_zero, List.any_eq_false]
  refine ⟨fun k r hr => ?_, fun k r hr => ?_⟩
  · have := k r hr
    simp only [edB, Bool.or_eq_true, Bool.and_eq_true, decide_eq_true_eq, not_or, not_and] at this
    unfold V
    refine ⟨by omega, fun h1 => ?_⟩
    have h2 := this.1
    by_cases e : r.getD 0 0 = 0
    · exact absurd h1 (this.2 e)
    · omega
  · have := k r hr
    unfold V at this
    simp only [edB, Bool.or_eq_true, Bool.and_eq_true, decide_eq_true_eq, not_or, not_and]
    exact ⟨by omega, fun e h1 => by have := this.2 h1; omega⟩
end Go.Proofs.YtgfnmkenpgnllaaGreat
