/- Flats and coefficients as the document has them (pure). -/
import Derived.Test.YtgfnmkenpgnllaaGreatFl3
import Derived.Test.YtgfnmkenpgnllaaGreatDsq
namespace Go.Proofs.YtgfnmkenpgnllaaGreat
open Lin

def abB : Bool := (List.range 7).all fun n => (List.range (2 ^ n)).all fun s => (List.range n).all fun i => s.testBit i || (decide (s + 2 ^ i < 2 ^ n) && (List.range n).all fun k => (s + 2 ^ i).testBit k == (s.testBit k || k == i))
theorem abB_t : abB = true := by decide +kernel

/-- One thing more in a set. -/
theorem add_bit {n s i : Nat} (hn : n ≤ 6) (hs : s < 2 ^ n) (hi : i < n) (hb : s.testBit i = false) : s + 2 ^ i < 2 ^ n ∧ ∀ k, k < n → (s + 2 ^ i).testBit k = (s.testBit k || k == i) := by
  have h := abB_t
  unfold abB at h
  rw [List.all_eq_true] at h
  have h1 := List.all_eq_true.1 (h n (List.mem_range.2 (by omega))) s (List.mem_range.2 hs)
  have h2 := List.all_eq_true.1 h1 i (List.mem_range.2 hi)
  rw [hb, Bool.false_or, Bool.and_eq_true, decide_eq_true_eq] at h2
  exact ⟨h2.1, fun k hk => by have := List.all_eq_true.1 h2.2 k (List.mem_range.2 hk); exact eq_of_beq this⟩

theorem zr_add {d : Nat} {P : List (List Int)} {s i : Nat} (hn : P.length ≤ 6) (hs : s < 2 ^ P.length) (hi : i < P.length) (hb : s.testBit i = false) {v : Nat → Int} : Zr d P (s + 2 ^ i) v ↔ Zr d P s v ∧ dot (d + 1) (V (P.getD i [])) v = 0 := by
  obtain ⟨_, hk⟩ := add_bit hn hs hi hb
  constructor
  · intro h
    refine ⟨fun k k1 k2 => h k k1 (by rw [hk k k1, k2]; rfl), h i hi (by rw [hk i hi]; simp)⟩
  · rintro ⟨h1, h2⟩ k k1 k2
    rw [hk k k1] at k2
    cases hb2 : s.testBit k
    · rw [hb2] at k2
      have : k = i := by simpa using k2
      subst this; exact h2
    · exact h1 k k1 hb2

/-- The document's test of a flat of rank r. -/
def dfT (d : Nat) (P : List (List Int)) (r s k : Nat) : Bool := (List.range k).all fun i => s.testBit i || !(cen d P (s + 2 ^ i) && decide (rk d (plS P (s + 2 ^ i)) = r))
def dfl (d : Nat) (P : List (List Int)) (r s : Nat) : Bool := (cen d P s && decide (rk d (plS P s) = r)) && dfT d P r s P.length

theorem dfT_succ (d : Nat) (P : List (List Int)) (r s k : Nat) : dfT d P r s (k + 1) = (dfT d P r s k && (s.testBit k || !(cen d P (s + 2 ^ k) && decide (rk d (plS P (s + 2 ^ k)) = r)))) := by
  unfold dfT
  rw [List.range_succ, List.all_append]
  simp

theorem dfl_iff {d : Nat} {P : List (List Int)} {r s : Nat} (hn : P.length ≤ 6) (hs : s < 2 ^ P.length) : dfl d P r s = true ↔ flB d P s = true ∧ rS d P s = r := by
  unfold dfl dfT
  rw [Bool.and_eq_true, Bool.and_eq_true, decide_eq_true_eq, List.all_eq_true]
  constructor
  · rintro ⟨⟨hc, hr⟩, ha⟩
    rw [rS_rk hc] at hr
    refine ⟨fl_iff.2 ⟨hc, fun i hi ht => ?_⟩, hr⟩
    cases hb : s.testBit i
    · have h1 := ha i (List.mem_range.2 hi)
      rw [hb, Bool.false_or] at h1
      have hz : ∀ v, Zr d P (s + 2 ^ i) v ↔ Zr d P s v := fun v => by
        rw [zr_add hn hs hi hb]
        exact ⟨fun h => h.1, fun h => ⟨h, thr_iff.1 ht v h⟩⟩
      have hc2 : cen d P (s + 2 ^ i) = true := by
        obtain ⟨v, h2, h3⟩ := cen_iff.1 hc
        exact cen_iff.2 ⟨v, (hz v).2 h2, h3⟩
      have hr2 : rS d P (s + 2 ^ i) = rS d P s := Nat.le_antisymm (rS_le fun v h => (hz v).2 h) (rS_le fun v h => (hz v).1 h)
      rw [hc2, rS_rk hc2, hr2, hr] at h1
      simp at h1
    · rfl
  · rintro ⟨hf, hr⟩
    obtain ⟨hc, ht⟩ := fl_iff.1 hf
    refine ⟨⟨hc, by rw [rS_rk hc]; exact hr⟩, fun i hi => ?_⟩
    have hi := List.mem_range.1 hi
    cases hb : s.testBit i
    · rw [Bool.false_or]
      cases hc2 : cen d P (s + 2 ^ i)
      · rfl
      · rw [Bool.true_and, rS_rk hc2]
        by_cases e : rS d P (s + 2 ^ i) = r
        · exfalso
          have e2 : rk (d + 1) (plS P (s + 2 ^ i)) = rk (d + 1) (plS P s ++ [P.getD i []]) := rk_eq fun v => by
            have a := zr_add (v := v) (d := d) hn hs hi hb
            rw [zr_iff, zr_iff] at a
            constructor
            · intro h
              refine a.2 ⟨fun r hr => h r (List.mem_append.2 (Or.inl hr)), h _ (List.mem_append.2 (Or.inr (by simp)))⟩
            · intro h r hr
              have := a.1 h
              rcases List.mem_append.1 hr with hr | hr
              · exact this.1 r hr
              · rw [List.mem_singleton.1 hr]; exact this.2
          have h3 : thr d P s i = true := by
            unfold thr
            rw [← e2, beq_iff_eq]
            show rS d P (s + 2 ^ i) = rS d P s
            rw [e, hr]
          have := ht i hi h3
          rw [hb] at this
          cases this
        · rw [decide_eq_false e]; rfl
    · rfl

/-- Things whose keys do not fall, key by key. -/
theorem key_last {α : Type} (key : α → Nat) (K : Nat) : ∀ l : List α, l.Pairwise (fun a b => key a ≤ key b) → (∀ x ∈ l, key x < K + 1) → l = l.filter (fun x => decide (key x < K)) ++ l.filter (fun x => decide (key x = K))
  | [], _, _ => rfl
  | x :: xs, h, hb => by
    obtain ⟨h1, h2⟩ := List.pairwise_cons.1 h
    have ih := key_last key K xs h2 fun y hy => hb y (by simp [hy])
    by_cases e : key x < K
    · rw [List.filter_cons_of_pos (by simpa using e), List.filter_cons_of_neg (by simp; omega), List.cons_append, ← ih]
    · have e2 : key x = K := by have := hb x (by simp); omega
      have e3 : ∀ y ∈ xs, key y = K := fun y hy => by have := h1 y hy; have := hb y (by simp [hy]); omega
      have f1 : xs.filter (fun x => decide (key x < K)) = [] := List.filter_eq_nil_iff.2 fun y hy => by simp; have := e3 y hy; omega
      have f2 : xs.filter (fun x => decide (key x = K)) = xs := List.filter_eq_self.2 fun y hy => by simp; exact e3 y hy
      rw [List.filter_cons_of_neg (by simpa using e), List.filter_cons_of_pos (by simpa using e2), f1, f2, List.nil_append]

theorem key_split {α : Type} (key : α → Nat) : ∀ (K : Nat) (l : List α), l.Pairwise (fun a b => key a ≤ key b) → (∀ x ∈ l, key x < K) → l = (List.range K).flatMap fun q => l.filter fun x => decide (key x = q)
  | 0, l, _, hb => by
    cases l with
    | nil => rfl
    | cons x xs => exact absurd (hb x (by simp)) (by omega)
  | K + 1, l, h, hb => by
    have h1 := key_last key K l h hb
    have h2 := key_split key K (l.filter fun x => decide (key x < K)) (h.sublist List.filter_sublist) fun x hx => by simpa using (List.mem_filter.1 hx).2
    rw [List.range_succ, List.flatMap_append]
    have e1 : ((List.range K).flatMap fun q => (l.filter fun x => decide (key x < K)).filter fun x => decide (key x = q)) = (List.range K).flatMap fun q => l.filter fun x => decide (key x = q) := by
      rw [List.flatMap_def, List.flatMap_def]
      congr 1
      apply List.map_congr_left
      intro q hq
      have hq := List.mem_range.1 hq
      rw [List.filter_filter]
      apply List.filter_congr
      intro x _
      by_cases e : key x = q
      · simp [e, hq]
      · simp [e]
    rw [e1] at h2
    rw [← h2]
    simpa using h1

/-- The document's flats up to a rank. -/
def FlQ (d : Nat) (P : List (List Int)) (r : Nat) (O : List (List Int)) : Prop := ∃ A : Nat → List (List Int), O = (List.range r).flatMap A ∧ ∀ q, q < r → SAsc (A q) ∧ ∀ c, c ∈ A q ↔ ∃ s, s < 2 ^ P.length ∧ dfl d P q s = true ∧ c = memL P.length s

theorem FlQ.zero (d : Nat) (P : List (List Int)) : FlQ d P 0 [] := ⟨fun _ => [], rfl, fun q hq => by omega⟩

/-- The list of a rank, by the sets below s. -/
def dfM (d : Nat) (P : List (List Int)) (r s : Nat) : List (List Int) := ((List.range s).filter fun t => dfl d P r t).map (memL P.length)

theorem dfM_succ (d : Nat) (P : List (List Int)) (r s : Nat) : dfM d P r (s + 1) = dfM d P r s ++ if dfl d P r s = true then [memL P.length s] else [] := by
  unfold dfM
  rw [List.range_succ, List.filter_append, List.map_append]
  cases h : dfl d P r s <;> simp [h]

theorem dfM_len (d : Nat) (P : List (List Int)) (r s : Nat) : (dfM d P r s).length ≤ s := by
  unfold dfM
  rw [List.length_map]
  exact Nat.le_trans (List.length_filter_le _ _) (by simp)

theorem FlQ.succ {d : Nat} {P : List (List Int)} {r : Nat} {O s : List (List Int)} (h : FlQ d P r O) (hs : SAsc s) (hm : ∀ c, c ∈ s ↔ c ∈ dfM d P r (2 ^ P.length)) : FlQ d P (r + 1) (O ++ s) := by
  obtain ⟨A, h1, h2⟩ := h
  refine ⟨fun q => if q = r then s else A q, ?_, fun q hq => ?_⟩
  · rw [List.range_succ, List.flatMap_append, h1]
    congr 1
    · rw [List.flatMap_def, List.flatMap_def]
      congr 1
      apply List.map_congr_left
      intro q hq
      have hq := List.mem_range.1 hq
      rw [if_neg (by omega)]
    · simp
  · dsimp only
    by_cases e : q = r
    · rw [if_pos e, e]
      refine ⟨hs, fun c => ?_⟩
      rw [hm]
      unfold dfM
      rw [List.mem_map]
      constructor
      · rintro ⟨t, ht, rfl⟩
        obtain ⟨t1, t2⟩ := List.mem_filter.1 ht
        exact ⟨t, List.mem_range.1 t1, t2, rfl⟩
      · rintro ⟨t, t1, t2, rfl⟩
        exact ⟨t, List.mem_filter.2 ⟨List.mem_range.2 t1, t2⟩, rfl⟩
    · rw [if_neg e]
      exact h2 q (by omega)

theorem pair_getD {α : Type} {R : α → α → Prop} (l : List α) (e : α) (h : ∀ i j, i < j → j < l.length → R (l.getD i e) (l.getD j e)) : l.Pairwise R := by
  rw [List.pairwise_iff_getElem]
  intro i j hi hj hij
  have := h i j hij hj
  simpa [hi, hj] using this

/-- The program's flats are the document's. -/
theorem flats_same {d : Nat} {P O : List (List Int)} {m : List (List Int × Nat)} (hn : P.length ≤ 6) (h : FlS d P m) (ha : FlA m) (hO : FlQ d P (d + 1) O) : m.map Prod.fst = O := by
  obtain ⟨A, h1, h2⟩ := hO
  have hp : m.Pairwise (fun a b => a.2 ≤ b.2) := pair_getD m ([], 0) h.ord
  have hk : ∀ x ∈ m, x.2 < d + 1 := fun x hx => by
    have a := (h.mem hn hx).2
    rw [a.2.1, ← rS_rk (fl_iff.1 a.1).1]
    have := rk_cap d (plS P (setN x.1))
    omega
  have e := key_split Prod.snd (d + 1) m hp hk
  have hpa : m.Pairwise (fun a b => ¬ fcf b a < 0) := pair_getD m ([], 0) ha
  have hpn : m.Pairwise (fun a b => setN a.1 ≠ setN b.1) := by
    have := h.nodup hn
    unfold msk at this
    exact List.pairwise_map.1 this
  have hps : m.Pairwise (fun a b => a.2 = b.2 → cmpL a.1 b.1 < 0) := (hpa.and hpn).imp fun {a b} hab e2 => by
    refine Classical.byContradiction fun hc => hab.2 ?_
    refine congrArg setN (cmpL_eq a.1 b.1 hc fun h3 => hab.1 ?_)
    exact (fcf_lt _ _).2 (Or.inr ⟨e2.symm, h3⟩)
  rw [e, List.map_flatMap, h1, List.flatMap_def, List.flatMap_def]
  congr 1
  apply List.map_congr_left
  intro q hq
  have hq := List.mem_range.1 hq
  obtain ⟨s1, s2⟩ := h2 q hq
  refine sasc_ext _ _ ?_ s1 fun c => ?_
  · unfold SAsc
    rw [List.pairwise_map]
    refine List.Pairwise.imp_of_mem ?_ (hps.sublist List.filter_sublist)
    intro a b hma hmb hab
    have a1 := (List.mem_filter.1 hma).2
    have b1 := (List.mem_filter.1 hmb).2
    simp only [decide_eq_true_eq] at a1 b1
    exact hab (by rw [a1, b1])
  · rw [s2, List.mem_map]
    constructor
    · rintro ⟨x, hx, rfl⟩
      obtain ⟨x1, x2⟩ := List.mem_filter.1 hx
      simp only [decide_eq_true_eq] at x2
      obtain ⟨y1, y2, y3, y4⟩ := h.mem hn x1
      refine ⟨setN x.1, y4, (dfl_iff hn y4).2 ⟨y2, by rw [← y3, x2]⟩, ((xt_all hn).1 x.1 y1).2.1⟩
    · rintro ⟨s, k1, k2, rfl⟩
      obtain ⟨k3, k4⟩ := (dfl_iff hn k1).1 k2
      have k5 := (h.iff hn k1).2 k3
      unfold msk at k5
      obtain ⟨x, hx, k6⟩ := List.mem_map.1 k5
      obtain ⟨y1, y2, y3, y4⟩ := h.mem hn hx
      refine ⟨x, List.mem_filter.2 ⟨hx, by simp only [decide_eq_true_eq]; rw [y3, k6, k4]⟩, ?_⟩
      have := ((xt_all hn).1 x.1 y1).2.1
      rw [this, k6]

/-- One coefficient, by the sets below s. -/
def pwC (d : Nat) (P : List (List Int)) (s j : Nat) : Int := sumN s fun t => if cen d P t = true then sg t * (if d - rS d P t = j then 1 else 0) else 0
def poW (d : Nat) (P : List (List Int)) (s : Nat) : List Int := (List.range (d + 1)).map (pwC d P s)

theorem poW_len (d : Nat) (P : List (List Int)) (s : Nat) : (poW d P s).length = d + 1 := by simp [poW]

theorem poW_zero (d : Nat) (P : List (List Int)) : poW d P 0 = List.replicate (d + 1) 0 := by
  unfold poW
  apply List.ext_getElem (by simp)
  intro i h1 h2
  simp [pwC, sumN]

theorem poW_end (d : Nat) (P : List (List Int)) : poW d P (2 ^ P.length) = (List.range (d + 1)).map (whC d P) := rfl

theorem poW_get {d : Nat} {P : List (List Int)} {s j : Nat} (hj : j < d + 1) : (poW d P s).getD j 0 = pwC d P s j := by
  simp [poW, hj]

theorem pwC_abs (d : Nat) (P : List (List Int)) (s j : Nat) : (pwC d P s j).natAbs ≤ s := by
  unfold pwC
  refine sumN_abs fun i _ => ?_
  have := sg_abs i
  by_cases e : cen d P i = true
  · rw [if_pos e]
    by_cases e2 : d - rS d P i = j
    · rw [if_pos e2]; omega
    · rw [if_neg e2]; omega
  · rw [if_neg e]; decide

theorem poW_no {d : Nat} {P : List (List Int)} {s : Nat} (h : cen d P s = false) : poW d P (s + 1) = poW d P s := by
  unfold poW
  apply List.map_congr_left
  intro j _
  unfold pwC
  rw [sumN, if_neg (by rw [h]; decide), Int.add_zero]

theorem poW_yes {d : Nat} {P : List (List Int)} {s : Nat} (h : cen d P s = true) : poW d P (s + 1) = (poW d P s).set (d - rk d (plS P s)) ((poW d P s).getD (d - rk d (plS P s)) 0 + sg s) := by
  rw [poW_get (by omega), rS_rk h]
  apply List.ext_getElem?
  intro j
  rw [List.getElem?_set]
  by_cases hj : j < d + 1
  · have e1 : (poW d P (s + 1))[j]? = some (pwC d P (s + 1) j) := by simp [poW, hj]
    have e2 : (poW d P s)[j]? = some (pwC d P s j) := by simp [poW, hj]
    have e3 : pwC d P (s + 1) j = pwC d P s j + sg s * (if d - rS d P s = j then 1 else 0) := by
      unfold pwC
      rw [sumN, if_pos h]
    rw [e1, e2, poW_len, e3]
    by_cases e : d - rS d P s = j
    · rw [if_pos e, if_pos e, if_pos (by omega), e, Int.mul_one]
    · rw [if_neg e, if_neg e, Int.mul_zero, Int.add_zero]
  · rw [List.getElem?_eq_none (by rw [poW_len]; omega), if_neg (by omega), List.getElem?_eq_none (by rw [poW_len]; omega)]

def sgB : Bool := (List.range 7).all fun n => (List.range (2 ^ n)).all fun s => sg s == if (memL n s).length % 2 = 0 then 1 else -1
theorem sgB_t : sgB = true := by decide +kernel

theorem sg_size {n s : Nat} (hn : n ≤ 6) (hs : s < 2 ^ n) : sg s = if (memL n s).length % 2 = 0 then 1 else -1 := by
  have h := sgB_t
  unfold sgB at h
  rw [List.all_eq_true] at h
  have h1 := List.all_eq_true.1 (h n (List.mem_range.2 (by omega))) s (List.mem_range.2 hs)
  exact eq_of_beq h1

end Go.Proofs.YtgfnmkenpgnllaaGreat
