import Derived.Test.YtmljnfgfjcjmmaaGy0
/- STANLEY: regions of a graph's planes are its orders without rings (pure). -/
namespace Go.Proofs.Ytmljnfgfjcjmmaa
open Lin

theorem nodup_flat {α β : Type} {f : α → List β} : ∀ l : List α, l.Nodup → (∀ x ∈ l, (f x).Nodup) → (∀ x ∈ l, ∀ y ∈ l, ∀ b, b ∈ f x → b ∈ f y → x = y) → (l.flatMap f).Nodup
  | [], _, _, _ => by simp
  | x :: l, h, h1, h2 => by
    obtain ⟨a, b⟩ := List.nodup_cons.1 h
    rw [List.flatMap_cons, List.nodup_append]
    refine ⟨h1 x (by simp), nodup_flat l b (fun y hy => h1 y (by simp [hy])) (fun y hy z hz => h2 y (by simp [hy]) z (by simp [hz])), fun u hu v hv e => ?_⟩
    subst e
    obtain ⟨y, hy, hv⟩ := List.mem_flatMap.1 hv
    have := h2 x (by simp) y (by simp [hy]) u hu hv
    subst this
    exact a hy

theorem grr_nodup {d : Nat} {P : List (List Int)} : ∀ k, (grTR d P k).Nodup
  | 0 => by simp [grTR]
  | k + 1 => by
    rw [grTR]
    refine nodup_flat _ (grr_nodup k) (fun t _ => ?_) fun x _ y _ b hx hy => ?_
    · unfold grOR
      have h1 : ([43, 45] : List UInt8).Nodup := by decide
      refine List.Pairwise.map _ (fun a b hab e => hab ?_) (h1.sublist List.filter_sublist)
      simpa using e
    · unfold grOR at hx hy
      obtain ⟨c, _, rfl⟩ := List.mem_map.1 hx
      obtain ⟨e, _, h⟩ := List.mem_map.1 hy
      exact ((List.append_inj' h rfl).1).symm

/-- The pairs, turned by the bits of a set. -/
def ortL (es : List (Nat × Nat)) (s : Nat) : List (Nat × Nat) := (List.range es.length).map fun i => if s.testBit i then ((es.getD i (0, 0)).2, (es.getD i (0, 0)).1) else es.getD i (0, 0)
/-- No ring. -/
def acB (n : Nat) (L : List (Nat × Nat)) : Bool := (List.range n).all fun i => !(upF n L i).testBit i
/-- The signs of a set. -/
def txtS (m s : Nat) : List UInt8 := (List.range m).map fun i => if s.testBit i then 43 else 45

/-- How high a node is. -/
def yv (n : Nat) (z : Nat → Int) (i : Nat) : Int := if i + 1 = n then 0 else z i

theorem sumN_pick {d a : Nat} {z : Nat → Int} : (sumN d fun i => (if i = a then 1 else 0) * z i) = if a < d then z a else 0 := by
  by_cases h : a < d
  · rw [if_pos h, sumN_oneG h (fun j _ hne => by rw [if_neg hne, Int.zero_mul]), if_pos rfl, Int.one_mul]
  · rw [if_neg h, sumN_zero fun i hi => by rw [if_neg (by omega), Int.zero_mul]]

theorem hv_gx {n a b : Nat} (hn : 2 ≤ n) (ha : a < n) (hb : b < n) (z : Nat → Int) : hv (n - 1) (gxR n a b) z = yv n z a - yv n z b := by
  unfold hv
  have e1 : V (gxR n a b) (n - 1) = 0 := by rw [gxR_V (by omega), if_pos (by omega)]
  have e2 : dot (n - 1) (V (gxR n a b)) z = (sumN (n - 1) fun i => (if i = a then 1 else 0) * z i) - sumN (n - 1) fun i => (if i = b then 1 else 0) * z i := by
    unfold dot
    rw [Int.sub_eq_add_neg, ← sumN_neg, ← sumN_add]
    refine sumN_congr fun i hi => ?_
    rw [gxR_V (by omega), if_neg (by omega), Int.sub_mul]
    omega
  rw [e1, e2, Int.zero_mul, Int.sub_zero, sumN_pick, sumN_pick]
  unfold yv
  have e3 : ∀ c, c < n → (if c < n - 1 then z c else 0) = if c + 1 = n then 0 else z c := fun c hc => by
    by_cases h : c + 1 = n
    · rw [if_pos h, if_neg (by omega)]
    · rw [if_neg h, if_pos (by omega)]
  rw [e3 a ha, e3 b hb]

theorem ortL_lt {n : Nat} {es : List (Nat × Nat)} (hes : ∀ e ∈ es, e.1 < n ∧ e.2 < n ∧ e.1 ≠ e.2) (s : Nat) : ∀ e ∈ ortL es s, e.1 < n ∧ e.2 < n := fun e he => by
  obtain ⟨i, hi, rfl⟩ := List.mem_map.1 he
  have hi := List.mem_range.1 hi
  have hm : es.getD i (0, 0) ∈ es := by rw [List.getD_eq_getElem?_getD, List.getElem?_eq_getElem hi]; exact List.getElem_mem _
  have := hes _ hm
  split
  · exact ⟨this.2.1, this.1⟩
  · exact ⟨this.1, this.2.1⟩

theorem acB_iff {n : Nat} {L : List (Nat × Nat)} (hL : ∀ e ∈ L, e.1 < n ∧ e.2 < n) : acB n L = true ↔ ∀ i, i < n → ¬ Rch L i i := by
  unfold acB
  rw [List.all_eq_true]
  constructor
  · intro h i hi hr
    have := h i (List.mem_range.2 hi)
    rw [(upF_rch hL).2 hr] at this
    cases this
  · intro h i hi
    cases hb : (upF n L i).testBit i
    · rfl
    · exact absurd ((upF_rch hL).1 hb) (h i (List.mem_range.1 hi))

theorem rch_low {L : List (Nat × Nat)} {y : Nat → Int} (h : ∀ e ∈ L, y e.1 < y e.2) {a b : Nat} (hr : Rch L a b) : y a < y b := by
  induction hr with
  | one h1 => exact h _ h1
  | step _ h1 ih => have := h _ h1; simp only at this; omega

theorem filt_lt {l : List Nat} {f g : Nat → Bool} (h : ∀ x ∈ l, f x = true → g x = true) {a : Nat} (ha : a ∈ l) (h1 : f a = false) (h2 : g a = true) : (l.filter f).length < (l.filter g).length := by
  induction l with
  | nil => cases ha
  | cons x l ih =>
    have hmono : (l.filter f).length ≤ (l.filter g).length := by
      clear ih
      have hh : ∀ x ∈ l, f x = true → g x = true := fun x hx => h x (by simp [hx])
      clear h ha
      induction l with
      | nil => simp
      | cons y l ih =>
        have h3 := ih fun x hx => hh x (by simp [hx])
        cases hf : f y
        · rw [List.filter_cons_of_neg (by simp [hf])]
          cases hg : g y
          · rw [List.filter_cons_of_neg (by simp [hg])]; exact h3
          · rw [List.filter_cons_of_pos hg, List.length_cons]; omega
        · rw [List.filter_cons_of_pos hf, List.filter_cons_of_pos (hh y (by simp) hf)]
          simp only [List.length_cons]
          omega
    by_cases e : x = a
    · subst e
      rw [List.filter_cons_of_neg (by simp [h1]), List.filter_cons_of_pos h2, List.length_cons]
      omega
    · have hal : a ∈ l := by
        rcases List.mem_cons.1 ha with h3 | h3
        · exact absurd h3.symm e
        · exact h3
      have h3 := ih (fun x hx => h x (by simp [hx])) hal
      cases hf : f x
      · rw [List.filter_cons_of_neg (by simp [hf])]
        cases hg : g x
        · rw [List.filter_cons_of_neg (by simp [hg])]; exact h3
        · rw [List.filter_cons_of_pos hg, List.length_cons]; omega
      · rw [List.filter_cons_of_pos hf, List.filter_cons_of_pos (h x (by simp) hf)]
        simp only [List.length_cons]
        omega

/-- Signs that a place has are turns without a ring. -/
theorem sign_ac {n : Nat} (hn : 2 ≤ n) {es : List (Nat × Nat)} (hes : ∀ e ∈ es, e.1 < n ∧ e.2 < n ∧ e.1 ≠ e.2) (s : Nat) : (∃ z, HasS (n - 1) (gxP n es) (txtS es.length s) z) ↔ acB n (ortL es s) = true := by
  rw [acB_iff (ortL_lt hes s)]
  have hg : ∀ i, i < es.length → (txtS es.length s).getD i 0 = if s.testBit i then 43 else 45 := fun i hi => by simp [txtS, hi]
  have hlen : (txtS es.length s).length = es.length := by simp [txtS]
  have hm : ∀ i, i < es.length → es.getD i (0, 0) ∈ es := fun i hi => by rw [List.getD_eq_getElem?_getD, List.getElem?_eq_getElem hi]; exact List.getElem_mem _
  constructor
  · rintro ⟨z, _, hz⟩ i _ hr
    refine absurd (rch_low (y := yv n z) (fun e he => ?_) hr) (by omega)
    obtain ⟨j, hj, rfl⟩ := List.mem_map.1 he
    have hj := List.mem_range.1 hj
    have h1 := hz j (by rw [hlen]; exact hj)
    have h2 := hes _ (hm j hj)
    rw [hg j hj, gxP_get hj, hv_gx hn h2.1 h2.2.1] at h1
    generalize es.getD j (0, 0) = e at *
    cases hb : s.testBit j
    · rw [hb] at h1
      simp only [SgO] at h1
      rcases h1 with ⟨h3, _⟩ | ⟨_, h3⟩ | ⟨h3, _⟩
      · exact absurd h3 (by decide)
      · simp only [Bool.false_eq_true, if_false]; omega
      · exact absurd h3 (by decide)
    · rw [hb] at h1
      simp only [SgO] at h1
      rcases h1 with ⟨_, h3⟩ | ⟨h3, _⟩ | ⟨h3, _⟩
      · simp only [if_true]; omega
      · exact absurd h3 (by decide)
      · exact absurd h3 (by decide)
  · intro h
    obtain ⟨y, hy⟩ : ∃ y : Nat → Int, y = fun v => (((List.range n).filter fun t => (upF n (ortL es s) t).testBit v).length : Int) := ⟨_, rfl⟩
    have hlt : ∀ e ∈ ortL es s, y e.1 < y e.2 := fun e he => by
      obtain ⟨h1, h2⟩ := ortL_lt hes s e he
      rw [hy]
      have := filt_lt (l := List.range n) (f := fun t => (upF n (ortL es s) t).testBit e.1) (g := fun t => (upF n (ortL es s) t).testBit e.2) (fun t _ ht => (upF_rch (ortL_lt hes s)).2 (.step ((upF_rch (ortL_lt hes s)).1 ht) he)) (a := e.1) (List.mem_range.2 h1) (by
        cases hb : (upF n (ortL es s) e.1).testBit e.1
        · rfl
        · exact absurd ((upF_rch (ortL_lt hes s)).1 hb) (h _ h1)) ((upF_rch (ortL_lt hes s)).2 (.one he))
      simp only
      omega
    refine ⟨fun i => if i + 1 = n then 1 else y i - y (n - 1), by simp only [show n - 1 + 1 = n by omega, if_true]; decide, fun j hj => ?_⟩
    rw [hlen] at hj
    have h2 := hes _ (hm j hj)
    rw [hg j hj, gxP_get hj, hv_gx hn h2.1 h2.2.1]
    have he : (if s.testBit j then ((es.getD j (0, 0)).2, (es.getD j (0, 0)).1) else es.getD j (0, 0)) ∈ ortL es s := List.mem_map.2 ⟨j, List.mem_range.2 hj, rfl⟩
    have h3 := hlt _ he
    have hyv : ∀ c, yv n (fun i => if i + 1 = n then 1 else y i - y (n - 1)) c = y c - y (n - 1) := fun c => by
      unfold yv
      by_cases e : c + 1 = n
      · rw [if_pos e, show c = n - 1 by omega]; omega
      · rw [if_neg e]
        show (if c + 1 = n then 1 else y c - y (n - 1)) = _
        rw [if_neg e]
    rw [hyv, hyv]
    generalize es.getD j (0, 0) = e at *
    cases hb : s.testBit j
    · rw [hb] at h3
      simp only [Bool.false_eq_true, if_false] at h3 ⊢
      exact .inr (.inl ⟨rfl, by omega⟩)
    · rw [hb] at h3
      simp only [if_true] at h3 ⊢
      exact .inl ⟨rfl, by omega⟩

theorem txt_inj {m s t : Nat} (hs : s < 2 ^ m) (ht : t < 2 ^ m) (h : txtS m s = txtS m t) : s = t := by
  refine Nat.eq_of_testBit_eq fun i => ?_
  by_cases hi : i < m
  · have h1 : (txtS m s).getD i 0 = (txtS m t).getD i 0 := by rw [h]
    simp only [txtS, List.getD_eq_getElem?_getD, List.getElem?_map, List.getElem?_range hi, Option.map_some, Option.getD_some] at h1
    cases a : s.testBit i <;> cases b : t.testBit i <;> rw [a, b] at h1 <;> first | rfl | exact absurd h1 (by decide)
  · rw [Nat.testBit_lt_two_pow (Nat.lt_of_lt_of_le hs (Nat.pow_le_pow_right (by decide) (by omega))), Nat.testBit_lt_two_pow (Nat.lt_of_lt_of_le ht (Nat.pow_le_pow_right (by decide) (by omega)))]

/-- As many regions as ways to turn all edges without a ring. -/
theorem regions_turns {n : Nat} (hn : 2 ≤ n) {es : List (Nat × Nat)} (hes : ∀ e ∈ es, e.1 < n ∧ e.2 < n ∧ e.1 ≠ e.2) : (grTR (n - 1) (gxP n es) es.length).length = ((List.range (2 ^ es.length)).filter fun s => acB n (ortL es s)).length := by
  obtain ⟨F, hF⟩ : ∃ F, F = ((List.range (2 ^ es.length)).filter fun s => acB n (ortL es s)).map (txtS es.length) := ⟨_, rfl⟩
  have hFl : F.length = ((List.range (2 ^ es.length)).filter fun s => acB n (ortL es s)).length := by rw [hF, List.length_map]
  have hFn : F.Nodup := by
    rw [hF]
    unfold List.Nodup
    rw [List.pairwise_map]
    have h1 : (List.range (2 ^ es.length)).Nodup := List.nodup_range
    refine List.Pairwise.imp_of_mem ?_ (h1.sublist List.filter_sublist)
    intro a b ha hb hab e
    exact hab (txt_inj (List.mem_range.1 (List.mem_filter.1 ha).1) (List.mem_range.1 (List.mem_filter.1 hb).1) e)
  have hmem : ∀ t, t ∈ grTR (n - 1) (gxP n es) es.length ↔ t ∈ F := fun t => by
    rw [grr_iff, hF, List.mem_map]
    constructor
    · rintro ⟨⟨h1, h2⟩, h3⟩
      obtain ⟨s, hs⟩ : ∃ s, s = mkS (fun i => t.getD i 0 == 43) es.length := ⟨_, rfl⟩
      have hst : txtS es.length s = t := by
        apply List.ext_getElem (by simp [txtS, h1])
        intro i hi1 hi2
        have hi : i < es.length := by omega
        have hc := h3 _ (List.getElem_mem hi2)
        simp only [txtS, List.getElem_map, List.getElem_range]
        rw [hs, mkS_bit]
        have e : t.getD i 0 = t[i] := by simp [hi2]
        rw [e, decide_eq_true hi]
        rcases hc with h | h <;> rw [h] <;> decide
      refine ⟨s, List.mem_filter.2 ⟨List.mem_range.2 (by rw [hs]; exact mkS_lt _ _), ?_⟩, hst⟩
      rw [← sign_ac hn hes, hst]
      exact h2
    · rintro ⟨s, hs, rfl⟩
      obtain ⟨h1, h2⟩ := List.mem_filter.1 hs
      refine ⟨⟨by simp [txtS], (sign_ac hn hes s).2 h2⟩, fun c hc => ?_⟩
      obtain ⟨i, _, rfl⟩ := List.mem_map.1 hc
      split
      · exact .inl rfl
      · exact .inr rfl
  rw [← hFl]
  exact Nat.le_antisymm (List.Nodup.length_le_of_subset (grr_nodup _) fun t ht => (hmem t).1 ht) (List.Nodup.length_le_of_subset hFn fun t ht => (hmem t).2 ht)
end Go.Proofs.Ytmljnfgfjcjmmaa

/- facetref.OrderMay of pairs within bounds: whether there is no ring. -/
namespace Go.Proofs.Ytmljnfgfjcjmmaa
open Go.RowKit
attribute [local go_sem ↓] Go.wp_at_zero Go.wp_at_succ

theorem rch_bd {n : Nat} {es : List (Nat × Nat)} (hes : ∀ e ∈ es, e.1 < n ∧ e.2 < n) {a b : Nat} (h : Rch es a b) : b < n := by
  cases h with
  | one h => exact (hes _ h).2
  | step _ h => exact (hes _ h).2

theorem upF_64 {n : Nat} {es : List (Nat × Nat)} (hes : ∀ e ∈ es, e.1 < n ∧ e.2 < n) (hn : n ≤ 6) (i : Nat) : upF n es i < 64 := by
  refine Nat.lt_of_lt_of_le (Nat.lt_pow_two_of_testBit (n := n) _ fun j hj => ?_) (show 2 ^ n ≤ 2 ^ 6 from Nat.pow_le_pow_right (by decide) hn)
  cases hb : (upF n es i).testBit j
  · rfl
  · have := rch_bd hes ((upF_rch hes).1 hb)
    omega

/-- What OrderMay says: 0 where there is no ring. -/
def omV (b : Bool) : Int := if b then 0 else 3

set_option maxRecDepth 100000 in
set_option maxHeartbeats 3200000 in
theorem orderMayG_any (n : Nat) (es : List (Nat × Nat)) (pv : Value) (w : World) (hv : Prs w pv (npL es)) (hes : ∀ e ∈ es, e.1 < n ∧ e.2 < n) (hn1 : 1 ≤ n) (hn6 : n ≤ 6) (hl : es.length ≤ 36) :
    Calls Try.prog 10 #[.agg #[.int .i64 (n : Int), pv]] w fun e w' => e = .returned (.int .i64 (omV (acB n es))) ∧ Below w.heap.size w w' := by
  have HV : Hid (Prs w pv (npL es)) := hv
  obtain ⟨po, pc, hpv, -⟩ := hv
  rw [npL_len] at hpv
  subst hpv
  obtain ⟨W1, hW1⟩ : ∃ W1, W1 = w.alloc (.cells #[.int .i64 (n : Int), .slice po es.length pc] 37) := ⟨_, rfl⟩
  obtain ⟨pb, hpb⟩ : ∃ pb, pb = w.heap.size := ⟨_, rfl⟩
  have HB1 : Hid (Below w.heap.size w W1) := by rw [hW1]; exact (Below.refl _ _).alloc (Nat.le_refl _) _
  have d0 : W1.cell? ⟨pb, 0, none⟩ = some (.int .i64 (n : Int)) := by rw [hW1, hpb]; simp
  have d1 : W1.cell? ⟨pb, 1, none⟩ = some (.slice po es.length pc) := by rw [hW1, hpb]; simp
  have HD : Hid (W1.cell? ⟨pb, 0, none⟩ = some (.int .i64 (n : Int)) ∧ W1.cell? ⟨pb, 1, none⟩ = some (.slice po es.length pc)) := ⟨d0, d1⟩
  have HAO : Hid (Calls Try.prog 18 #[.agg #[.int .i64 (n : Int), .slice po es.length pc]] W1 fun e w' => ∃ uo uc, e = .returned (.slice uo n uc) ∧ Sl 0 3 w' (.slice uo n uc) (ints (upL n (upF n es))) ∧ Below w.heap.size w w' ∧ w'.cell? ⟨pb, 0, none⟩ = some (.int .i64 (n : Int))) := (aboveOf_any n es _ W1 (HV.out.below HB1.out (Nat.le_refl _)) hes hn6 hl).mono (by
    rintro e w' ⟨x, h1, h2, h3⟩
    obtain ⟨uo, uc, rfl⟩ := owns_form h2
    exact ⟨uo, uc, h1, Sl.own h2, HB1.out.trans (h3.mono HB1.out.size), (h3.cell (lt_of_cell d0)).trans d0⟩)
  have HES : Hid (∀ e ∈ es, e.1 < n ∧ e.2 < n) := hes
  have HIR : Hid (∀ i, upF n es i < 64) := fun i => upF_64 hes hn6 i
  have HAC : Hid (∀ i, i < n → (upF n es i).testBit i = true → acB n es = false) := fun i hi hb => by
    unfold acB
    rw [List.all_eq_false]
    exact ⟨i, List.mem_range.2 hi, by rw [hb]; decide⟩
  have HAN : Hid ((∀ i, i < n → (upF n es i).testBit i = false) → acB n es = true) := fun h => by
    unfold acB
    rw [List.all_eq_true]
    intro i hi
    rw [h i (List.mem_range.1 hi)]; rfl
  have n1 : ¬ (n : Int) < 1 := by omega
  have n6 : ¬ 6 < (n : Int) := by omega
  have l36 : ¬ 36 < (es.length : Int) := by omega
  generalize acB n es = ac at *
  clear hes d0 d1
  obtain ⟨c0, c1⟩ := HD.out
  go_enter Try.func10, Try.ntmps10
  go_wp2
  rw [← hW1, ← hpb]
  clear hW1 hpb
  go_loop [3] (fun jv => ∃ j : Nat, j ≤ es.length ∧ jv = .int .i64 (j : Int)) (fun jv => es.length - (intOf jv).toNat)
  case atStart => exact ⟨0, Nat.zero_le _, rfl⟩
  case round =>
    obtain ⟨j, hj, rfl⟩ := hrel
    by_cases hlj : j < es.length
    · obtain ⟨po2, pc2, hpe, hcs⟩ := HV.out.below HB1.out (Nat.le_refl _)
      obtain ⟨qb, qo, e, p1, p2⟩ := hcs j (by rw [npL_len]; exact hlj)
      rw [npL_len] at hpe
      simp only [Value.slice.injEq, true_and] at hpe
      obtain ⟨rfl, rfl⟩ := hpe
      subst e
      rw [npL_at hlj] at p1 p2
      obtain ⟨hx1, hx2⟩ := HES.out _ (pair_mem hlj)
      generalize (es.getD j (0, 0)).1 = x at *
      generalize (es.getD j (0, 0)).2 = y at *
      have jI : (j : Int) < (es.length : Int) := by omega
      have jI0 : (0 : Int) ≤ (j : Int) := by omega
      have x0 : ¬ (x : Int) < 0 := by omega
      have y0 : ¬ (y : Int) < 0 := by omega
      have xn : ¬ (n : Int) ≤ (x : Int) := by omega
      have yn : ¬ (n : Int) ≤ (y : Int) := by omega
      have xn2 : ¬ n ≤ x := by omega
      have yn2 : ¬ n ≤ y := by omega
      go_wp2
      go_round
      case rel => exact ⟨j + 1, by omega, by go_num⟩
      case measure => simp [intOf]; omega
    · have hje : es.length = j := by omega
      have hjI : ¬ (j : Int) < (es.length : Int) := by omega
      have hjN : ¬ j < es.length := by omega
      clear hje
      go_wp2_with fail
      refine HAO.out.mono ?_
      rintro e w2 ⟨uo, uc, rfl, hu, hb2, d0⟩
      have HU : Hid (Sl 0 3 w2 (.slice uo n uc) (ints (upL n (upF n es)))) := hu
      have HB2 : Hid (Below w.heap.size w w2) := hb2
      clear HAO hu hb2 c0 c1
      go_wp2
      go_loop [7] (fun iv => ∃ i : Nat, i ≤ n ∧ iv = .int .i64 (i : Int) ∧ ∀ t, t < i → (upF n es t).testBit t = false) (fun iv => n - (intOf iv).toNat)
      case atStart => exact ⟨0, Nat.zero_le _, rfl, fun t ht => by omega⟩
      case round =>
        obtain ⟨i, hi, rfl, hal⟩ := hrel
        have HAL : Hid (∀ t, t < i → (upF n es t).testBit t = false) := hal
        clear hal
        by_cases hlt : i < n
        · obtain ⟨b2, o2, c2, hs, _, hc⟩ := sl_cell HU.out (k := i) (by rw [upL_len]; exact hlt)
          rw [upL_len] at hs
          simp only [Value.slice.injEq, true_and] at hs
          obtain ⟨rfl, rfl⟩ := hs
          have hat : (upL n (upF n es)).getD i 0 = ((upF n es i : Nat) : Int) := by simp [upL, hlt]
          rw [hat] at hc
          have h64 := HIR.out i
          have e1 := bitq_tab _ h64 i (by omega)
          have HC1 : Hid ((upF n es i).testBit i = true → ac = false) := HAC.out i hlt
          have HL1 : Hid ((upF n es i).testBit i = false → ∀ t, t < i + 1 → (upF n es t).testBit t = false) := fun h t ht => by
            by_cases e : t = i
            · rw [e]; exact h
            · exact HAL.out t (by omega)
          have iI : (i : Int) < (n : Int) := by omega
          have iI0 : (0 : Int) ≤ (i : Int) := by omega
          cases hb : (upF n es i).testBit i with
          | false =>
            rw [hb] at e1
            simp only [Bool.false_eq_true, if_false] at e1
            have HL2 : Hid (∀ t, t < i + 1 → (upF n es t).testBit t = false) := HL1.out hb
            clear HC1 HL1 hb hat
            generalize upF n es i = fi at e1 hc h64
            go_wp2
            go_round
            case rel => exact ⟨i + 1, by omega, by go_num, HL2.out⟩
            case measure => simp [intOf]; omega
          | true =>
            rw [hb] at e1
            simp only [if_true] at e1
            have HC2 : Hid (ac = false) := HC1.out hb
            clear HC1 HL1 hb hat
            generalize upF n es i = fi at e1 hc h64
            go_wp2
            go_ret
            exact ⟨by rw [HC2.out] <;> rfl, HB2.out⟩
        · have hie : n = i := by omega
          subst hie
          have HC2 : Hid (ac = true) := HAN.out HAL.out
          clear hlt hi
          go_wp2
          go_ret
          exact ⟨by rw [HC2.out] <;> rfl, HB2.out⟩

end Go.Proofs.Ytmljnfgfjcjmmaa
