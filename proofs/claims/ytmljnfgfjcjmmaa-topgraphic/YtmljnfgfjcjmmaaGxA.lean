import Derived.Test.YtmljnfgfjcjmmaaPnA
/- Colourings of graphs of at most four nodes, by sets of edges (pure). -/
namespace Go.Proofs.Ytmljnfgfjcjmmaa
open Lin

/-- All ways to go on to r colours more. -/
def extC (q : Nat) : Nat → List Nat → List (List Nat)
  | 0, h => [h]
  | r + 1, h => (List.range q).flatMap fun c => extC q r (h ++ [c])

/-- May the k-th node have colour c? -/
def stp (es : List (Nat × Nat)) (l : List Nat) (k c : Nat) : Bool := es.all fun e => !((e.1 == k && e.2 == k) || (e.1 == k && decide (e.2 < k) && l.getD e.2 0 == c) || (e.2 == k && decide (e.1 < k) && l.getD e.1 0 == c))
def colN (q : Nat) (es : List (Nat × Nat)) : Nat → List Nat → Nat
  | 0, _ => 1
  | r + 1, h => ((List.range q).map fun c => if stp es h h.length c then colN q es r (h ++ [c]) else 0).sum

/-- Edges that do not hold the same colour, as far as both ends are below k. -/
def prp (es : List (Nat × Nat)) (k : Nat) (l : List Nat) : Bool := es.all fun e => decide (k ≤ e.1) || decide (k ≤ e.2) || l.getD e.1 0 != l.getD e.2 0

theorem extC_pre {q : Nat} : ∀ {r : Nat} {h l : List Nat}, l ∈ extC q r h → ∀ i, i < h.length → l.getD i 0 = h.getD i 0
  | 0, h, l, hl, i, hi => by
    rw [extC, List.mem_singleton] at hl
    rw [hl]
  | r + 1, h, l, hl, i, hi => by
    rw [extC, List.mem_flatMap] at hl
    obtain ⟨c, _, h2⟩ := hl
    rw [extC_pre h2 i (by simp; omega)]
    simp only [List.getD_eq_getElem?_getD]
    rw [List.getElem?_append_left hi]

/-- What a row of colours says of the edges does not hang on what comes behind. -/
theorem prp_congr {es : List (Nat × Nat)} {k : Nat} {l m : List Nat} (h : ∀ i, i < k → l.getD i 0 = m.getD i 0) : prp es k l = prp es k m := by
  unfold prp
  rw [Bool.eq_iff_iff, List.all_eq_true, List.all_eq_true]
  have : ∀ e : Nat × Nat, (decide (k ≤ e.1) || decide (k ≤ e.2) || l.getD e.1 0 != l.getD e.2 0) = (decide (k ≤ e.1) || decide (k ≤ e.2) || m.getD e.1 0 != m.getD e.2 0) := fun e => by
    by_cases h1 : k ≤ e.1
    · simp [h1]
    · by_cases h2 : k ≤ e.2
      · simp [h2]
      · rw [h _ (by omega), h _ (by omega)]
  simp only [this]

theorem stp_prp {es : List (Nat × Nat)} (hl : ∀ e ∈ es, e.1 ≠ e.2) (h : List Nat) (c : Nat) (hp : prp es h.length h = true) : stp es h h.length c = prp es (h.length + 1) (h ++ [c]) := by
  unfold stp prp at *
  rw [Bool.eq_iff_iff, List.all_eq_true, List.all_eq_true]
  rw [List.all_eq_true] at hp
  have g1 : ∀ i, i < h.length → (h ++ [c]).getD i 0 = h.getD i 0 := fun i hi => by
    simp only [List.getD_eq_getElem?_getD]
    rw [List.getElem?_append_left hi]
  have g2 : (h ++ [c]).getD h.length 0 = c := by simp
  have key : ∀ e ∈ es, ((!((e.1 == h.length && e.2 == h.length) || (e.1 == h.length && decide (e.2 < h.length) && h.getD e.2 0 == c) || (e.2 == h.length && decide (e.1 < h.length) && h.getD e.1 0 == c))) = true ↔ (decide (h.length + 1 ≤ e.1) || decide (h.length + 1 ≤ e.2) || (h ++ [c]).getD e.1 0 != (h ++ [c]).getD e.2 0) = true) := fun e he => by
    have hne := hl e he
    have hpe := hp e he
    obtain ⟨a, b⟩ := e
    simp only at hne hpe ⊢
    rcases Nat.lt_trichotomy a h.length with ha | ha | ha
    · rcases Nat.lt_trichotomy b h.length with hb | hb | hb
      · rw [g1 a ha, g1 b hb]
        have e1 : (a == h.length) = false := by simp; omega
        have e2 : (b == h.length) = false := by simp; omega
        have e3 : decide (h.length ≤ a) = false := by simp; omega
        have e4 : decide (h.length ≤ b) = false := by simp; omega
        have e5 : decide (h.length + 1 ≤ a) = false := by simp; omega
        have e6 : decide (h.length + 1 ≤ b) = false := by simp; omega
        rw [e3, e4] at hpe
        rw [e1, e2, e5, e6]
        simpa using hpe
      · subst hb
        rw [g1 a ha, g2]
        have e1 : (a == h.length) = false := by simp; omega
        have e5 : decide (h.length + 1 ≤ a) = false := by simp; omega
        have e7 : decide (h.length + 1 ≤ h.length) = false := by simp
        have e8 : decide (h.length < h.length) = false := by simp
        have e9 : decide (a < h.length) = true := by simp [ha]
        rw [e1, e5, e7, e9]
        generalize h.getD a 0 = x
        simp
      · have e1 : (a == h.length) = false := by simp; omega
        have e2 : (b == h.length) = false := by simp; omega
        have e6 : decide (h.length + 1 ≤ b) = true := by simp; omega
        rw [e1, e2, e6]
        simp
    · subst ha
      rcases Nat.lt_trichotomy b h.length with hb | hb | hb
      · rw [g1 b hb, g2]
        have e2 : (b == h.length) = false := by simp; omega
        have e6 : decide (h.length + 1 ≤ b) = false := by simp; omega
        have e7 : decide (h.length + 1 ≤ h.length) = false := by simp
        have e9 : decide (b < h.length) = true := by simp [hb]
        rw [e2, e6, e7, e9]
        generalize h.getD b 0 = x
        simp
        exact ⟨fun h1 h2 => h1 h2.symm, fun h1 h2 => h1 h2.symm⟩
      · exact absurd hb.symm hne
      · have e2 : (b == h.length) = false := by simp; omega
        have e6 : decide (h.length + 1 ≤ b) = true := by simp; omega
        have e7 : decide (b < h.length) = false := by simp; omega
        rw [e2, e6, e7]
        simp
    · have e1 : (a == h.length) = false := by simp; omega
      have e5 : decide (h.length + 1 ≤ a) = true := by simp; omega
      have e7 : decide (a < h.length) = false := by simp; omega
      rw [e1, e5, e7]
      simp
  exact ⟨fun h1 e he => (key e he).1 (h1 e he), fun h1 e he => (key e he).2 (h1 e he)⟩

/-- The count, step by step, is that of all rows of colours that are proper. -/
theorem colN_is {q : Nat} {es : List (Nat × Nat)} (hl : ∀ e ∈ es, e.1 ≠ e.2) : ∀ (r : Nat) (h : List Nat), prp es h.length h = true → colN q es r h = ((extC q r h).filter fun l => prp es (h.length + r) l).length
  | 0, h, hp => by
    rw [colN, extC, Nat.add_zero, List.filter_cons_of_pos hp]
    rfl
  | r + 1, h, hp => by
    rw [colN, extC, List.filter_flatMap, List.length_flatMap]
    congr 1
    apply List.map_congr_left
    intro c _
    rw [stp_prp hl h c hp]
    have e1 : (h ++ [c]).length = h.length + 1 := by simp
    cases hc : prp es (h.length + 1) (h ++ [c])
    · rw [if_neg (by decide)]
      symm
      rw [List.length_eq_zero_iff, List.filter_eq_nil_iff]
      intro l hlm hpl
      have h1 : prp es (h.length + 1) l = prp es (h.length + 1) (h ++ [c]) := prp_congr fun i hi => extC_pre hlm i (by omega)
      rw [hc] at h1
      unfold prp at h1 hpl
      rw [List.all_eq_true] at hpl
      rw [List.all_eq_false] at h1
      obtain ⟨e, he, h2⟩ := h1
      have h3 := hpl e he
      simp only [Bool.or_eq_true, decide_eq_true_eq, bne_iff_ne, ne_eq, not_or, Decidable.not_not] at h2 h3
      rcases h3 with (h3 | h3) | h3
      · omega
      · omega
      · exact h3 h2.2
    · rw [if_pos rfl, colN_is hl r (h ++ [c]) (by rw [e1]; exact hc), e1, show h.length + 1 + r = h.length + (r + 1) by omega]

/-- Edges of the same colour. -/
def mon (es : List (Nat × Nat)) (l : List Nat) : Bool := es.all fun e => l.getD e.1 0 == l.getD e.2 0
def cnt (L : List (List Nat)) (f : List Nat → Bool) : Int := ((L.filter f).length : Int)

theorem cnt_split (L : List (List Nat)) (f g : List Nat → Bool) : cnt L f = cnt L (fun l => f l && g l) + cnt L (fun l => f l && !g l) := by
  unfold cnt
  induction L with
  | nil => rfl
  | cons x L ih =>
    cases hf : f x <;> cases hg : g x <;> simp [hf, hg] <;> omega

theorem cnt_congr {L : List (List Nat)} {f g : List Nat → Bool} (h : ∀ l ∈ L, f l = g l) : cnt L f = cnt L g := by
  unfold cnt
  rw [List.filter_congr h]

theorem sumN_two (m : Nat) (f : Nat → Int) : ∀ k, sumN (m + k) f = sumN m f + sumN k fun i => f (m + i)
  | 0 => by simp [sumN]
  | k + 1 => by
    rw [← Nat.add_assoc, sumN, sumN_two m f k, sumN]
    omega

def sgT2 : Bool := (List.range 6).all fun m => (List.range (2 ^ m)).all fun s => sg (2 ^ m + s) == - sg s && (2 ^ m + s).testBit m && (List.range m).all fun i => (2 ^ m + s).testBit i == s.testBit i
theorem sgT2_t : sgT2 = true := by decide +kernel

theorem sg_two {m s : Nat} (hm : m < 6) (hs : s < 2 ^ m) : sg (2 ^ m + s) = - sg s ∧ (2 ^ m + s).testBit m = true ∧ ∀ i, i < m → (2 ^ m + s).testBit i = s.testBit i := by
  have h := sgT2_t
  unfold sgT2 at h
  rw [List.all_eq_true] at h
  have h1 := List.all_eq_true.1 (h m (List.mem_range.2 hm)) s (List.mem_range.2 hs)
  rw [Bool.and_eq_true, Bool.and_eq_true, List.all_eq_true] at h1
  exact ⟨eq_of_beq h1.1.1, h1.1.2, fun i hi => eq_of_beq (h1.2 i (List.mem_range.2 hi))⟩

/-- Edges by the bits of a set, below m. -/
def mnT (es : List (Nat × Nat)) (m s : Nat) (l : List Nat) : Bool := (List.range m).all fun i => !s.testBit i || l.getD (es.getD i (0, 0)).1 0 == l.getD (es.getD i (0, 0)).2 0
def ppT (es : List (Nat × Nat)) (m : Nat) (l : List Nat) : Bool := (List.range m).all fun i => l.getD (es.getD i (0, 0)).1 0 != l.getD (es.getD i (0, 0)).2 0

/-- In and out: proper colourings, by sets of edges. -/
theorem in_out (es : List (Nat × Nat)) (L : List (List Nat)) : ∀ (m : Nat), m ≤ 6 → ∀ k : List Nat → Bool, cnt L (fun l => ppT es m l && k l) = sumN (2 ^ m) fun s => sg s * cnt L (fun l => mnT es m s l && k l)
  | 0, _, k => by
    have e : sg 0 = 1 := by decide
    rw [show 2 ^ 0 = 1 from rfl, sumN, sumN, e]
    simp [ppT, mnT]
  | m + 1, hm, k => by
    have hlt : m < 6 := by omega
    obtain ⟨c, hc⟩ : ∃ c : List Nat → Bool, c = fun l => l.getD (es.getD m (0, 0)).1 0 == l.getD (es.getD m (0, 0)).2 0 := ⟨_, rfl⟩
    have h1 : cnt L (fun l => ppT es (m + 1) l && k l) = cnt L (fun l => ppT es m l && k l) - cnt L (fun l => ppT es m l && (c l && k l)) := by
      have h2 := cnt_split L (fun l => ppT es m l && k l) c
      have h3 : cnt L (fun l => (ppT es m l && k l) && c l) = cnt L (fun l => ppT es m l && (c l && k l)) := cnt_congr fun l _ => by
        cases ppT es m l <;> cases k l <;> cases c l <;> rfl
      have h4 : cnt L (fun l => (ppT es m l && k l) && !c l) = cnt L (fun l => ppT es (m + 1) l && k l) := cnt_congr fun l _ => by
        have e : ppT es (m + 1) l = (ppT es m l && !c l) := by
          unfold ppT
          rw [List.range_succ, List.all_append, hc]
          simp [bne]
        rw [e]
        cases ppT es m l <;> cases k l <;> cases c l <;> rfl
      omega
    rw [h1, in_out es L m (by omega) k, in_out es L m (by omega) fun l => c l && k l, show 2 ^ (m + 1) = 2 ^ m + 2 ^ m by rw [Nat.pow_succ]; omega, sumN_two]
    have h5 : (sumN (2 ^ m) fun s => sg s * cnt L (fun l => mnT es (m + 1) s l && k l)) = sumN (2 ^ m) fun s => sg s * cnt L (fun l => mnT es m s l && k l) := sumN_congr fun s hs => by
      congr 1
      refine cnt_congr fun l _ => ?_
      have hb : s.testBit m = false := Nat.testBit_lt_two_pow hs
      unfold mnT
      rw [List.range_succ, List.all_append]
      simp [hb]
    have h6 : (sumN (2 ^ m) fun i => sg (2 ^ m + i) * cnt L (fun l => mnT es (m + 1) (2 ^ m + i) l && k l)) = - sumN (2 ^ m) fun s => sg s * cnt L (fun l => mnT es m s l && (c l && k l)) := by
      rw [← sumN_neg]
      refine sumN_congr fun s hs => ?_
      obtain ⟨q1, q2, q3⟩ := sg_two hlt hs
      have e : cnt L (fun l => mnT es (m + 1) (2 ^ m + s) l && k l) = cnt L (fun l => mnT es m s l && (c l && k l)) := cnt_congr fun l _ => by
        have e2 : mnT es (m + 1) (2 ^ m + s) l = (mnT es m s l && c l) := by
          unfold mnT
          rw [List.range_succ, List.all_append, hc]
          have e3 : ((List.range m).all fun i => !(2 ^ m + s).testBit i || l.getD (es.getD i (0, 0)).1 0 == l.getD (es.getD i (0, 0)).2 0) = (List.range m).all fun i => !s.testBit i || l.getD (es.getD i (0, 0)).1 0 == l.getD (es.getD i (0, 0)).2 0 := by
            rw [Bool.eq_iff_iff, List.all_eq_true, List.all_eq_true]
            constructor
            · intro h i hi
              have := h i hi
              rw [q3 i (List.mem_range.1 hi)] at this
              exact this
            · intro h i hi
              rw [q3 i (List.mem_range.1 hi)]
              exact h i hi
          rw [e3]
          simp [q2]
        rw [e2, Bool.and_assoc]
      rw [q1, e, Int.neg_mul]
    rw [h5, h6]
    omega
end Go.Proofs.Ytmljnfgfjcjmmaa

/- CRAPO, ROTA: the polynomial of a graph's planes counts its colourings (pure). -/
namespace Go.Proofs.Ytmljnfgfjcjmmaa
open Lin

/-- The plane of an edge. -/
def gxR (n a b : Nat) : List Int := (List.range n).map fun i => if i + 1 = n then 0 else (if i = a then 1 else 0) - (if i = b then 1 else 0)
def gxP (n : Nat) (es : List (Nat × Nat)) : List (List Int) := es.map fun e => gxR n e.1 e.2

/-- All pairs, the lesser first. -/
def prs (n : Nat) : List (Nat × Nat) := (List.range n).flatMap fun i => ((List.range n).filter fun j => decide (i < j)).map fun j => (i, j)
def canE (n m : Nat) : List (Nat × Nat) := ((List.range (prs n).length).filter fun i => m.testBit i).map fun i => (prs n).getD i (0, 0)

def cnB : Bool := [2, 3, 4].all fun n => (List.range (2 ^ (prs n).length)).all fun m => [1, 2, 3, 4].all fun q => ((extC q n []).filter (mon (canE n m))).length == q ^ (n - rk (n - 1) (gxP n (canE n m)))
theorem cnB_t : cnB = true := by decide +kernel

theorem cn_is {n q m : Nat} (hn : 2 ≤ n) (hn4 : n ≤ 4) (hq : 1 ≤ q) (hq4 : q ≤ 4) (hm : m < 2 ^ (prs n).length) : ((extC q n []).filter (mon (canE n m))).length = q ^ (n - rk (n - 1) (gxP n (canE n m))) := by
  have h := cnB_t
  unfold cnB at h
  rw [List.all_eq_true] at h
  have h1 := List.all_eq_true.1 (h n (by simp; omega)) m (List.mem_range.2 hm)
  have h2 := List.all_eq_true.1 h1 q (by simp; omega)
  exact eq_of_beq h2

theorem mem_prs {n a b : Nat} : (a, b) ∈ prs n ↔ a < b ∧ b < n := by
  unfold prs
  rw [List.mem_flatMap]
  constructor
  · rintro ⟨i, hi, h⟩
    obtain ⟨j, hj, e⟩ := List.mem_map.1 h
    obtain ⟨h1, h2⟩ := List.mem_filter.1 hj
    simp only [Prod.mk.injEq] at e
    obtain ⟨rfl, rfl⟩ := e
    exact ⟨by simpa using h2, List.mem_range.1 h1⟩
  · rintro ⟨h1, h2⟩
    exact ⟨a, List.mem_range.2 (by omega), List.mem_map.2 ⟨b, List.mem_filter.2 ⟨List.mem_range.2 h2, by simpa using h1⟩, rfl⟩⟩

/-- An edge is this pair, one way or the other. -/
def eqv (e p : Nat × Nat) : Prop := e = p ∨ e = (p.2, p.1)

/-- A set of pairs that a saying tells. -/
theorem canE_of {n : Nat} (g : Nat × Nat → Bool) : ∃ m, m < 2 ^ (prs n).length ∧ ∀ p, p ∈ canE n m ↔ p ∈ prs n ∧ g p = true := by
  refine ⟨mkS (fun i => g ((prs n).getD i (0, 0))) (prs n).length, mkS_lt _ _, fun p => ?_⟩
  unfold canE
  rw [List.mem_map]
  constructor
  · rintro ⟨i, hi, rfl⟩
    obtain ⟨h1, h2⟩ := List.mem_filter.1 hi
    have hi' := List.mem_range.1 h1
    rw [mkS_bit] at h2
    simp only [Bool.and_eq_true, decide_eq_true_eq] at h2
    refine ⟨?_, h2.2⟩
    rw [List.getD_eq_getElem?_getD, List.getElem?_eq_getElem hi']
    exact List.getElem_mem _
  · rintro ⟨h1, h2⟩
    obtain ⟨i, hi, e⟩ := List.getElem_of_mem h1
    have e2 : (prs n).getD i (0, 0) = p := by rw [List.getD_eq_getElem?_getD, List.getElem?_eq_getElem hi]; exact e
    refine ⟨i, List.mem_filter.2 ⟨List.mem_range.2 hi, ?_⟩, e2⟩
    rw [mkS_bit, e2, h2]
    simpa using hi

theorem gxR_V {n a b i : Nat} (hi : i < n) : V (gxR n a b) i = if i + 1 = n then 0 else (if i = a then 1 else 0) - (if i = b then 1 else 0) := by
  simp [V, gxR, hi]

theorem gxR_neg (n a b : Nat) (v : Nat → Int) : dot (n - 1) (V (gxR n b a)) v = - dot (n - 1) (V (gxR n a b)) v := by
  rw [← dot_neg]
  refine dot_congr (fun i hi => ?_) fun _ _ => rfl
  rw [gxR_V (by omega), gxR_V (by omega)]
  split <;> omega

theorem eqv_dot {n : Nat} {e p : Nat × Nat} (h : eqv e p) {v : Nat → Int} : dot (n - 1) (V (gxR n e.1 e.2)) v = 0 ↔ dot (n - 1) (V (gxR n p.1 p.2)) v = 0 := by
  rcases h with rfl | rfl
  · exact Iff.rfl
  · show dot (n - 1) (V (gxR n p.2 p.1)) v = 0 ↔ _
    have h := gxR_neg n p.1 p.2 v
    rw [h]
    generalize dot (n - 1) (V (gxR n p.1 p.2)) v = x
    omega

theorem eqv_col {e p : Nat × Nat} (h : eqv e p) {l : List Nat} : l.getD e.1 0 = l.getD e.2 0 ↔ l.getD p.1 0 = l.getD p.2 0 := by
  rcases h with rfl | rfl
  · exact Iff.rfl
  · exact ⟨fun h => h.symm, fun h => h.symm⟩

theorem gxP_get {n : Nat} {es : List (Nat × Nat)} {i : Nat} (hi : i < es.length) : (gxP n es).getD i [] = gxR n (es.getD i (0, 0)).1 (es.getD i (0, 0)).2 := by
  simp [gxP, hi]

theorem gxP_len (n : Nat) (es : List (Nat × Nat)) : (gxP n es).length = es.length := by simp [gxP]

/-- As many rows of colours hold the edges of a set alike as the colours, to the power of what is left. -/
theorem mono_count {n q s : Nat} {es : List (Nat × Nat)} (hn : 2 ≤ n) (hn4 : n ≤ 4) (hq : 1 ≤ q) (hq4 : q ≤ 4) (hes : ∀ e ∈ es, e.1 < n ∧ e.2 < n ∧ e.1 ≠ e.2) : cnt (extC q n []) (mnT es es.length s) = ((q ^ (n - rk (n - 1) (plS (gxP n es) s)) : Nat) : Int) := by
  obtain ⟨g, hg⟩ : ∃ g : Nat × Nat → Bool, g = fun p => (List.range es.length).any fun j => s.testBit j && (decide (es.getD j (0, 0) = p) || decide (es.getD j (0, 0) = (p.2, p.1))) := ⟨_, rfl⟩
  obtain ⟨m, hm, hmem⟩ := canE_of (n := n) g
  have hgi : ∀ p, g p = true ↔ ∃ j, j < es.length ∧ s.testBit j = true ∧ eqv (es.getD j (0, 0)) p := fun p => by
    rw [hg, List.any_eq_true]
    constructor
    · rintro ⟨j, hj, h⟩
      rw [Bool.and_eq_true, Bool.or_eq_true, decide_eq_true_eq, decide_eq_true_eq] at h
      exact ⟨j, List.mem_range.1 hj, h.1, h.2⟩
    · rintro ⟨j, hj, h1, h2⟩
      refine ⟨j, List.mem_range.2 hj, ?_⟩
      rw [Bool.and_eq_true, Bool.or_eq_true, decide_eq_true_eq, decide_eq_true_eq]
      exact ⟨h1, h2⟩
  have hsome : ∀ j, j < es.length → ∃ p ∈ prs n, eqv (es.getD j (0, 0)) p := fun j hj => by
    have he : es.getD j (0, 0) ∈ es := by rw [List.getD_eq_getElem?_getD, List.getElem?_eq_getElem hj]; exact List.getElem_mem _
    obtain ⟨h1, h2, h3⟩ := hes _ he
    generalize es.getD j (0, 0) = e at *
    obtain ⟨a, b⟩ := e
    simp only at h1 h2 h3
    by_cases hab : a < b
    · exact ⟨(a, b), mem_prs.2 ⟨hab, h2⟩, .inl rfl⟩
    · exact ⟨(b, a), mem_prs.2 ⟨by omega, h1⟩, .inr rfl⟩
  have hcol : ∀ l, mnT es es.length s l = mon (canE n m) l := fun l => by
    unfold mnT mon
    rw [Bool.eq_iff_iff, List.all_eq_true, List.all_eq_true]
    constructor
    · intro h p hp
      obtain ⟨h1, h2⟩ := (hmem p).1 hp
      obtain ⟨j, hj, hb, he⟩ := (hgi p).1 h2
      have := h j (List.mem_range.2 hj)
      rw [hb, Bool.not_true, Bool.false_or, beq_iff_eq, eqv_col he] at this
      simpa using this
    · intro h j hj
      have hj := List.mem_range.1 hj
      cases hb : s.testBit j
      · rfl
      · obtain ⟨p, hp, he⟩ := hsome j hj
        have := h p ((hmem p).2 ⟨hp, (hgi p).2 ⟨j, hj, hb, he⟩⟩)
        rw [Bool.not_true, Bool.false_or, beq_iff_eq, eqv_col he]
        simpa using this
  have hrk : rk (n - 1) (plS (gxP n es) s) = rk (n - 1) (gxP n (canE n m)) := rk_eq fun v => by
    constructor
    · intro h r hr
      obtain ⟨i, hi, hb, rfl⟩ := mem_plS.1 hr
      rw [gxP_len] at hi
      rw [gxP_get hi]
      obtain ⟨p, hp, he⟩ := hsome i hi
      rw [eqv_dot he]
      exact h _ (List.mem_map.2 ⟨p, (hmem p).2 ⟨hp, (hgi p).2 ⟨i, hi, hb, he⟩⟩, rfl⟩)
    · intro h r hr
      obtain ⟨p, hp, rfl⟩ := List.mem_map.1 hr
      obtain ⟨h1, h2⟩ := (hmem p).1 hp
      obtain ⟨j, hj, hb, he⟩ := (hgi p).1 h2
      rw [← eqv_dot he, ← gxP_get hj]
      exact h _ (mem_plS.2 ⟨j, by rw [gxP_len]; exact hj, hb, rfl⟩)
  rw [cnt_congr fun l _ => hcol l, hrk, ← cn_is hn hn4 hq hq4 hm]
  rfl

/-- All sets of these planes meet. -/
theorem gx_cen {n : Nat} (hn : 2 ≤ n) (es : List (Nat × Nat)) (s : Nat) : cen (n - 1) (gxP n es) s = true := by
  refine cen_iff.2 ⟨fun k => if k = n - 1 then 1 else 0, fun i hi _ => ?_, by simp⟩
  rw [gxP_len] at hi
  rw [gxP_get hi, dot_snoc]
  have e : dot (n - 1) (V (gxR n (es.getD i (0, 0)).1 (es.getD i (0, 0)).2)) (fun k => if k = n - 1 then 1 else 0) = 0 := by
    rw [dot_comm]
    exact dot_zero fun j hj => by rw [if_neg (by omega)]
  rw [e, gxR_V (by omega), if_pos (by omega)]
  simp

theorem sumN_oneG {n k : Nat} {f : Nat → Int} (hk : k < n) (h : ∀ j, j < n → j ≠ k → f j = 0) : sumN n f = f k := by
  induction n with
  | zero => omega
  | succ n ih =>
    rw [sumN]
    by_cases e : k = n
    · subst e
      rw [sumN_zero fun j hj => h j (by omega) (by omega)]
      omega
    · rw [ih (by omega) (fun j hj => h j (by omega)), h n (by omega) (by omega)]
      omega

/-- CRAPO, ROTA: the polynomial, times the colours, is how many colourings are proper. -/
theorem graphic {n q : Nat} {es : List (Nat × Nat)} (hn : 2 ≤ n) (hn4 : n ≤ 4) (hq : 1 ≤ q) (hq4 : q ≤ 4) (h6 : es.length ≤ 6) (hes : ∀ e ∈ es, e.1 < n ∧ e.2 < n ∧ e.1 ≠ e.2) :
    (q : Int) * (sumN n fun j => whC (n - 1) (gxP n es) j * (q : Int) ^ j) = (colN q es n [] : Nat) := by
  have hpr : prp es 0 [] = true := by simp [prp]
  have h1 := colN_is (q := q) (fun e he => (hes e he).2.2) n [] hpr
  have h2 : (colN q es n [] : Int) = cnt (extC q n []) (fun l => ppT es es.length l && true) := by
    rw [h1]
    show cnt (extC q n []) _ = _
    refine cnt_congr fun l _ => ?_
    rw [Bool.and_true]
    show prp es (0 + n) l = _
    unfold prp ppT
    rw [Nat.zero_add, Bool.eq_iff_iff, List.all_eq_true, List.all_eq_true]
    constructor
    · intro h i hi
      have hi := List.mem_range.1 hi
      have he : es.getD i (0, 0) ∈ es := by rw [List.getD_eq_getElem?_getD, List.getElem?_eq_getElem hi]; exact List.getElem_mem _
      have hb := hes _ he
      have := h _ he
      rw [decide_eq_false (by omega), decide_eq_false (by omega), Bool.false_or, Bool.false_or] at this
      exact this
    · intro h e he
      obtain ⟨i, hi, e2⟩ := List.getElem_of_mem he
      have h3 := h i (List.mem_range.2 hi)
      have e3 : es.getD i (0, 0) = e := by rw [List.getD_eq_getElem?_getD, List.getElem?_eq_getElem hi]; exact e2
      rw [e3] at h3
      rw [h3, Bool.or_true]
  rw [h2, in_out es _ es.length h6 fun _ => true]
  have hpl : (gxP n es).length = es.length := gxP_len n es
  have h3 : ∀ s, s < 2 ^ es.length → sg s * cnt (extC q n []) (fun l => mnT es es.length s l && true) = (q : Int) * sumN n fun j => (if cen (n - 1) (gxP n es) s = true then sg s * (if n - 1 - rS (n - 1) (gxP n es) s = j then 1 else 0) else 0) * (q : Int) ^ j := fun s _ => by
    have hc := gx_cen hn es s
    have e1 : cnt (extC q n []) (fun l => mnT es es.length s l && true) = cnt (extC q n []) (mnT es es.length s) := cnt_congr fun l _ => Bool.and_true _
    have hr := rS_rk hc
    have hcap := rk_cap (n - 1) (plS (gxP n es) s)
    rw [e1, mono_count hn hn4 hq hq4 hes, hr]
    simp only [if_pos hc]
    rw [sumN_oneG (k := n - 1 - rS (n - 1) (gxP n es) s) (by omega) (fun j _ hne => by rw [if_neg (Ne.symm hne)]; simp), if_pos rfl, Int.mul_one]
    have e2 : n - rS (n - 1) (gxP n es) s = (n - 1 - rS (n - 1) (gxP n es) s) + 1 := by omega
    rw [e2, Nat.pow_succ]
    push_cast
    rw [Int.mul_comm ((q : Int) ^ _) (q : Int), ← Int.mul_assoc, ← Int.mul_assoc, Int.mul_comm (sg s) (q : Int)]
  rw [sumN_congr h3, sumN_mul, sumN_swap]
  congr 1
  refine sumN_congr fun j _ => ?_
  unfold whC
  rw [hpl, ← sumN_mul_right]
end Go.Proofs.Ytmljnfgfjcjmmaa
