import Derived.Test.YtflgabcacljbjaaPnA
import Derived.Test.YtflgabcacljbjaaSgA
/- Places modulo a prime that lie on no plane (pure): Athanasiadis, in one and two dimensions. -/
namespace Go.Proofs.Ytflgabcacljbjaa
open Lin

def crB : Bool := (List.range 7).all fun a => (List.range 7).all fun b => (List.range 7).all fun c => (List.range 7).all fun d => (List.range 7).all fun e => (List.range 7).all fun f =>
  let A : Int := (a : Int) - 3; let B : Int := (b : Int) - 3; let C : Int := (c : Int) - 3; let D : Int := (d : Int) - 3; let E : Int := (e : Int) - 3; let F : Int := (f : Int) - 3
  Nat.ble ((B * F - C * E).natAbs + (C * D - A * F).natAbs + (A * E - B * D).natAbs) 36
set_option maxRecDepth 100000 in
theorem crB_t : crB = true := by decide +kernel

theorem seven {z : Int} (h : z.natAbs ≤ 3) : ∃ a : Nat, a < 7 ∧ z = (a : Int) - 3 := ⟨(z + 3).toNat, by omega, by omega⟩

theorem cross_bd {A B C D E F : Int} (hA : A.natAbs ≤ 3) (hB : B.natAbs ≤ 3) (hC : C.natAbs ≤ 3) (hD : D.natAbs ≤ 3) (hE : E.natAbs ≤ 3) (hF : F.natAbs ≤ 3) : (B * F - C * E).natAbs + (C * D - A * F).natAbs + (A * E - B * D).natAbs ≤ 36 := by
  obtain ⟨a, ha, rfl⟩ := seven hA
  obtain ⟨b, hb, rfl⟩ := seven hB
  obtain ⟨c, hc, rfl⟩ := seven hC
  obtain ⟨d, hd, rfl⟩ := seven hD
  obtain ⟨e, he, rfl⟩ := seven hE
  obtain ⟨f, hf, rfl⟩ := seven hF
  have h := crB_t
  unfold crB at h
  have h := List.all_eq_true.1 h a (List.mem_range.2 ha)
  have h := List.all_eq_true.1 h b (List.mem_range.2 hb)
  have h := List.all_eq_true.1 h c (List.mem_range.2 hc)
  have h := List.all_eq_true.1 h d (List.mem_range.2 hd)
  have h := List.all_eq_true.1 h e (List.mem_range.2 he)
  have h := List.all_eq_true.1 h f (List.mem_range.2 hf)
  exact Nat.le_of_ble_eq_true h

def ivB : Bool := (List.range 37).all fun t => t == 18 || (List.range 127).any fun u => ((((t : Int) - 18) * (u : Int) - 1) % 127 == 0)
theorem ivB_t : ivB = true := by decide +kernel

theorem inv127 {t : Int} (h0 : t ≠ 0) (h : t.natAbs ≤ 18) : ∃ u : Int, (127 : Int) ∣ t * u - 1 := by
  obtain ⟨a, ha, rfl⟩ : ∃ a : Nat, a < 37 ∧ t = (a : Int) - 18 := ⟨(t + 18).toNat, by omega, by omega⟩
  have h1 := List.all_eq_true.1 ivB_t a (List.mem_range.2 ha)
  rw [Bool.or_eq_true] at h1
  rcases h1 with h1 | h1
  · have := eq_of_beq h1; omega
  · obtain ⟨u, _, h2⟩ := List.any_eq_true.1 h1
    exact ⟨u, Int.dvd_of_emod_eq_zero (eq_of_beq h2)⟩

theorem cancel127 {t z : Int} (h0 : t ≠ 0) (h : t.natAbs ≤ 18) (hd : (127 : Int) ∣ t * z) : (127 : Int) ∣ z := by
  obtain ⟨u, k, hu⟩ := inv127 h0 h
  obtain ⟨m, hm⟩ := hd
  refine ⟨u * m - k * z, ?_⟩
  have : z = u * (t * z) - (t * u - 1) * z := by grind
  rw [this, hm, hu]
  grind

/-- Of each number there is one place of a line. -/
theorem one127 {t : Int} (h0 : t ≠ 0) (h : t.natAbs ≤ 18) (r : Int) : ∃ y : Nat, y < 127 ∧ (127 : Int) ∣ t * (y : Int) - r ∧ ∀ z : Nat, z < 127 → (127 : Int) ∣ t * (z : Int) - r → z = y := by
  obtain ⟨u, k, hu⟩ := inv127 h0 h
  have e0 := Int.emod_nonneg (u * r) (show (127 : Int) ≠ 0 by decide)
  have e1 := Int.emod_lt_of_pos (u * r) (show (0 : Int) < 127 by decide)
  have e2 := Int.mul_ediv_add_emod (u * r) 127
  refine ⟨((u * r) % 127).toNat, by omega, ?_, fun z hz hd => ?_⟩
  · rw [Int.toNat_of_nonneg e0]
    refine ⟨k * r - t * (u * r / 127), ?_⟩
    have : (u * r) % 127 = u * r - 127 * (u * r / 127) := by omega
    rw [this]
    have h2 : t * (u * r - 127 * (u * r / 127)) - r = (t * u - 1) * r - 127 * (t * (u * r / 127)) := by grind
    rw [h2, hu]
    grind
  · have h3 : (127 : Int) ∣ t * ((z : Int) - (u * r) % 127) := by
      obtain ⟨m, hm⟩ := hd
      refine ⟨m - (k * r - t * (u * r / 127)), ?_⟩
      have : (u * r) % 127 = u * r - 127 * (u * r / 127) := by omega
      rw [this]
      have h2 : t * ((z : Int) - (u * r - 127 * (u * r / 127))) = (t * z - r) - (t * u - 1) * r + 127 * (t * (u * r / 127)) := by grind
      rw [h2, hm, hu]
      grind
    obtain ⟨m, hm⟩ := cancel127 h0 h h3
    omega

theorem count127 {t : Int} (h0 : t ≠ 0) (h : t.natAbs ≤ 18) (r : Int) : (sumN 127 fun y => if (127 : Int) ∣ t * (y : Int) - r then 1 else 0) = 1 := by
  obtain ⟨y, h1, h2, h3⟩ := one127 h0 h r
  rw [sumN_one (k := y) h1 (fun z hz hne => if_neg fun hd => hne (h3 z hz hd)), if_pos h2]

/-- How far a place is above a plane. -/
def hx (d : Nat) (p : List Int) (x y : Nat) : Int := V p 0 * (x : Int) + (if d = 1 then 0 else V p 1 * (y : Int)) - V p d

def yb (d : Nat) : Nat := if d = 1 then 1 else 127

/-- The planes on which a place lies. -/
def onT (d : Nat) (P : List (List Int)) (x y : Nat) : Nat := mkS (fun i => decide ((127 : Int) ∣ hx d (P.getD i []) x y)) P.length

def NS (d : Nat) (P : List (List Int)) (s : Nat) : Int := sumN 127 fun x => sumN (yb d) fun y => if s &&& onT d P x y = s then 1 else 0

theorem on_iff {d : Nat} {P : List (List Int)} {s x y : Nat} (hs : s < 2 ^ P.length) : s &&& onT d P x y = s ↔ ∀ i, s.testBit i = true → (127 : Int) ∣ hx d (P.getD i []) x y := by
  rw [and_sub]
  refine forall_congr' fun i => ⟨fun h hb => ?_, fun h hb => ?_⟩
  · have := h hb
    unfold onT at this
    rw [mkS_bit] at this
    simp at this
    exact this.2
  · unfold onT
    rw [mkS_bit, Bool.and_eq_true, decide_eq_true_iff, decide_eq_true_iff]
    exact ⟨bit_lt hs hb, h hb⟩

/-- Different planes have a minor. -/
theorem minor_ne {d : Nat} {P : List (List Int)} (hG : PlG d P) {i j : Nat} (hi : i < P.length) (hj : j < P.length) (hne : i ≠ j) : ∃ a b, a < d + 1 ∧ b < d + 1 ∧ V (P.getD i []) a * V (P.getD j []) b - V (P.getD i []) b * V (P.getD j []) a ≠ 0 := by
  have key : ∀ i k, i < k → k < P.length → ∃ a b, a < d + 1 ∧ b < d + 1 ∧ V (P.getD k []) a * V (P.getD i []) b - V (P.getD k []) b * V (P.getD i []) a ≠ 0 := by
    intro i k hik hk
    refine Classical.byContradiction fun hn => hG.two i k hik hk ?_
    have h0 : ∀ a b, a < d + 1 → b < d + 1 → V (P.getD k []) a * V (P.getD i []) b = V (P.getD k []) b * V (P.getD i []) a := fun a b ha hb => Classical.byContradiction fun h => hn ⟨a, b, ha, hb, by omega⟩
    have h1 := hG.one _ (getD_memR hk)
    obtain ⟨j, hj, hjn⟩ : ∃ j, j < d ∧ V (P.getD k []) j ≠ 0 := by
      refine Classical.byContradiction fun hn2 => h1 ?_
      have h2 : rk d [P.getD k []] ≤ rk d [] := rk_le fun u _ r hr => by
        rw [List.mem_singleton.1 hr]
        exact dot_zero fun j hj => Classical.byContradiction fun h => hn2 ⟨j, hj, h⟩
      have h3 : rk d ([] : List (List Int)) = 0 := rfl
      unfold rk at h2 h3
      omega
    have h4 : rk (d + 1) ([P.getD k []] ++ [P.getD i []]) = rk (d + 1) [P.getD k []] := rk_more.2 fun v hv => by
      have hz := hv (P.getD k []) (by simp)
      have h5 : V (P.getD k []) j * dot (d + 1) (V (P.getD i [])) v = V (P.getD i []) j * dot (d + 1) (V (P.getD k [])) v := by
        unfold dot
        rw [← sumN_mul, ← sumN_mul]
        refine sumN_congr fun b hb => ?_
        have := h0 j b (by omega) hb
        grind
      rw [hz, Int.mul_zero] at h5
      rcases Int.mul_eq_zero.1 h5 with q | q
      · exact absurd q hjn
      · exact q
    have h6 := rk_len (d + 1) [P.getD k []]
    have h7 := rk_lt (c := d + 1) (A := []) (B := [P.getD k []]) (v := fun q => if q = j then 1 else 0) (fun x hx => absurd hx (by simp)) (fun x hx => absurd hx (by simp)) (b := P.getD k []) (by simp) (by
      unfold dot
      rw [sumN_one (k := j) (by omega) (fun a _ hx => by simp [hx])]
      simpa using hjn)
    have h8 : rk (d + 1) [P.getD k [], P.getD i []] = rk (d + 1) [P.getD k []] := h4
    simp only [List.length_cons, List.length_nil] at h6
    unfold rk at h6 h7 h8
    omega
  rcases Nat.lt_or_ge i j with h | h
  · obtain ⟨a, b, ha, hb, h1⟩ := key i j h hj
    refine ⟨a, b, ha, hb, fun h2 => h1 ?_⟩
    grind
  · exact key j i (by omega) hi

end Go.Proofs.Ytflgabcacljbjaa

/- How many places lie on all planes of a set (pure). -/
namespace Go.Proofs.Ytflgabcacljbjaa
open Lin

theorem dot_2 (a v : Nat → Int) : dot (1 + 1) a v = a 0 * v 0 + a 1 * v 1 := by simp [dot, sumN]
theorem dot_3 (a v : Nat → Int) : dot (2 + 1) a v = a 0 * v 0 + a 1 * v 1 + a 2 * v 2 := by simp [dot, sumN]

theorem sumN_const (n : Nat) (c : Int) : (sumN n fun _ => c) = n * c := by
  induction n with
  | zero => simp [sumN]
  | succ n ih => rw [sumN, ih]; grind

theorem V_small {P : List (List Int)} (h3 : P3 P) {i : Nat} (hi : i < P.length) (a : Nat) : (V (P.getD i []) a).natAbs ≤ 3 := by
  unfold V
  by_cases h : a < (P.getD i []).length
  · refine h3 _ (getD_memR hi) _ ?_
    generalize P.getD i [] = l at *
    simp [h]
  · rw [List.getD_eq_getElem?_getD, List.getElem?_eq_none (by omega)]
    decide

theorem plane_ne {d : Nat} {P : List (List Int)} (hG : PlG d P) {k : Nat} (hk : k < P.length) : ∃ j, j < d ∧ V (P.getD k []) j ≠ 0 := by
  refine Classical.byContradiction fun hn2 => hG.one _ (getD_memR hk) ?_
  have h2 : rk d [P.getD k []] ≤ rk d [] := rk_le fun u _ r hr => by
    rw [List.mem_singleton.1 hr]
    exact dot_zero fun j hj => Classical.byContradiction fun h => hn2 ⟨j, hj, h⟩
  have h3 : rk d ([] : List (List Int)) = 0 := rfl
  unfold rk at h2 h3
  omega

theorem ns_none {d : Nat} {P : List (List Int)} (hd : d = 1 ∨ d = 2) : NS d P 0 = (127 : Int) ^ d := by
  unfold NS
  have e : ∀ x y, (if 0 &&& onT d P x y = 0 then (1 : Int) else 0) = 1 := fun x y => by simp
  simp only [e, sumN_const]
  rcases hd with rfl | rfl <;> simp [yb]

/-- One plane alone. -/
theorem ns_one {d : Nat} {P : List (List Int)} (hd : d = 1 ∨ d = 2) (hG : PlG d P) (h3 : P3 P) {s i : Nat} (hs : s < 2 ^ P.length) (hi : s.testBit i = true) (ho : ∀ j, s.testBit j = true → j = i) :
    cen d P s = true ∧ rS d P s = 1 ∧ NS d P s = (127 : Int) ^ (d - 1) := by
  have hil := bit_lt hs hi
  obtain ⟨j, hj, hjn⟩ := plane_ne hG hil
  have hmem : ∀ r, r ∈ plS P s ↔ r ∈ [P.getD i []] := fun r => by
    rw [mem_plS, List.mem_singleton]
    exact ⟨fun ⟨k, _, h2, h3⟩ => by rw [h3, ho k h2], fun h => ⟨i, hil, hi, h⟩⟩
  refine ⟨cen_iff.2 ⟨fun q => if q = j then V (P.getD i []) d else if q = d then - V (P.getD i []) j else 0, fun k hk hb => ?_, ?_⟩, ?_, ?_⟩
  · rw [ho k hb]
    rcases hd with rfl | rfl
    · have : j = 0 := by omega
      subst this
      rw [dot_2]
      simp
      grind
    · rw [dot_3]
      rcases (show j = 0 ∨ j = 1 by omega) with rfl | rfl
      · simp
        grind
      · simp
        grind
  · simp only [show ¬ d = j by omega, if_false, if_true]
    omega
  · have h1 : rS d P s = rk (d + 1) [P.getD i []] := rk_eq fun v => ⟨fun h r hr => h r ((hmem r).1 hr), fun h r hr => h r ((hmem r).2 hr)⟩
    have h6 := rk_len (d + 1) [P.getD i []]
    have h7 := rk_lt (c := d + 1) (A := []) (B := [P.getD i []]) (v := fun q => if q = j then 1 else 0) (fun x hx => absurd hx (by simp)) (fun x hx => absurd hx (by simp)) (b := P.getD i []) (by simp) (by
      unfold dot
      rw [sumN_one (k := j) (by omega) (fun a _ hx => by simp [hx])]
      simpa using hjn)
    simp only [List.length_cons, List.length_nil] at h6
    omega
  · have hon : ∀ x y, (s &&& onT d P x y = s) ↔ (127 : Int) ∣ hx d (P.getD i []) x y := fun x y => by
      rw [on_iff hs]
      exact ⟨fun h => h i hi, fun h k hk => by rw [ho k hk]; exact h⟩
    have hsm := V_small h3 hil
    unfold NS
    rcases hd with rfl | rfl
    · have : j = 0 := by omega
      subst this
      have e : ∀ x, (sumN (yb 1) fun y => if s &&& onT 1 P x y = s then (1 : Int) else 0) = if (127 : Int) ∣ V (P.getD i []) 0 * (x : Int) - V (P.getD i []) 1 then 1 else 0 := fun x => by
        show sumN 1 _ = _
        simp only [sumN, Int.zero_add]
        have e2 : hx 1 (P.getD i []) x 0 = V (P.getD i []) 0 * (x : Int) - V (P.getD i []) 1 := by simp [hx]
        simp only [hon, e2]
      simp only [e]
      rw [count127 hjn (by have := hsm 0; omega)]
      rfl
    · by_cases hb : V (P.getD i []) 1 = 0
      · have hj0 : j = 0 := by
          rcases (show j = 0 ∨ j = 1 by omega) with h | h
          · exact h
          · subst h; exact absurd hb hjn
        subst hj0
        have e : ∀ x, (sumN (yb 2) fun y => if s &&& onT 2 P x y = s then (1 : Int) else 0) = 127 * if (127 : Int) ∣ V (P.getD i []) 0 * (x : Int) - V (P.getD i []) 2 then 1 else 0 := fun x => by
          show sumN 127 _ = _
          have e2 : ∀ y : Nat, hx 2 (P.getD i []) x y = V (P.getD i []) 0 * (x : Int) - V (P.getD i []) 2 := fun y => by
            unfold hx
            rw [if_neg (by decide), hb]
            grind
          simp only [hon, e2]
          rw [sumN_const]
          rfl
        simp only [e]
        rw [sumN_mul, count127 hjn (by have := hsm 0; omega)]
        rfl
      · have e : ∀ x, (sumN (yb 2) fun y => if s &&& onT 2 P x y = s then (1 : Int) else 0) = 1 := fun x => by
          show sumN 127 _ = _
          have e2 : ∀ y : Nat, hx 2 (P.getD i []) x y = V (P.getD i []) 1 * (y : Int) - (V (P.getD i []) 2 - V (P.getD i []) 0 * (x : Int)) := fun y => by
            simp [hx]
            grind
          simp only [hon, e2]
          exact count127 hb (by have := hsm 1; omega) _
        simp only [e]
        rw [sumN_const]
        rfl

theorem small0 {z : Int} (h : z.natAbs ≤ 120) (hd : (127 : Int) ∣ z) : z = 0 := by
  obtain ⟨k, hk⟩ := hd
  omega

theorem prod18 {a b c e : Int} (ha : a.natAbs ≤ 3) (hb : b.natAbs ≤ 3) (hc : c.natAbs ≤ 3) (he : e.natAbs ≤ 3) : (a * b - c * e).natAbs ≤ 18 := by
  have h1 : (a * b).natAbs ≤ 3 * 3 := by rw [Int.natAbs_mul]; exact Nat.mul_le_mul ha hb
  have h2 : (c * e).natAbs ≤ 3 * 3 := by rw [Int.natAbs_mul]; exact Nat.mul_le_mul hc he
  omega

/-- Two planes or more, on a line. -/
theorem ns_two1 {P : List (List Int)} (hG : PlG 1 P) (h3 : P3 P) {s i j : Nat} (hs : s < 2 ^ P.length) (hi : s.testBit i = true) (hj : s.testBit j = true) (hne : i ≠ j) :
    cen 1 P s = false ∧ NS 1 P s = 0 := by
  have hil := bit_lt hs hi
  have hjl := bit_lt hs hj
  obtain ⟨a, b, ha, hb, hm⟩ := minor_ne hG hil hjl hne
  have hm2 : V (P.getD i []) 0 * V (P.getD j []) 1 - V (P.getD i []) 1 * V (P.getD j []) 0 ≠ 0 := by
    rcases (show a = 0 ∨ a = 1 by omega) with rfl | rfl <;> rcases (show b = 0 ∨ b = 1 by omega) with rfl | rfl
    · omega
    · exact hm
    · intro h; apply hm; omega
    · omega
  constructor
  · refine Bool.eq_false_iff.2 fun hc => ?_
    obtain ⟨v, h1, h2⟩ := cen_iff.1 hc
    have e1 := h1 i hil hi
    have e2 := h1 j hjl hj
    rw [dot_2] at e1 e2
    have : (V (P.getD i []) 0 * V (P.getD j []) 1 - V (P.getD i []) 1 * V (P.getD j []) 0) * v 1 = 0 := by grind
    rcases Int.mul_eq_zero.1 this with q | q
    · exact hm2 q
    · exact h2 q
  · unfold NS
    refine sumN_zero fun x _ => sumN_zero fun y _ => if_neg fun h => hm2 ?_
    have h := (on_iff hs).1 h
    obtain ⟨k1, e1⟩ := h i hi
    obtain ⟨k2, e2⟩ := h j hj
    simp only [hx, if_true, Int.add_zero] at e1 e2
    refine small0 (Nat.le_trans (prod18 (V_small h3 hil 0) (V_small h3 hjl 1) (V_small h3 hil 1) (V_small h3 hjl 0)) (by decide)) ⟨V (P.getD j []) 0 * k1 - V (P.getD i []) 0 * k2, ?_⟩
    grind

/-- Two planes or more, in the plane. -/
theorem ns_two2 {P : List (List Int)} (hG : PlG 2 P) (h3 : P3 P) {s i j : Nat} (hs : s < 2 ^ P.length) (hi : s.testBit i = true) (hj : s.testBit j = true) (hne : i ≠ j) :
    (cen 2 P s = true → rS 2 P s = 2 ∧ NS 2 P s = 1) ∧ (cen 2 P s = false → NS 2 P s = 0) := by
  have hil := bit_lt hs hi
  have hjl := bit_lt hs hj
  obtain ⟨a, b, ha, hb, hm⟩ := minor_ne hG hil hjl hne
  obtain ⟨p, hp⟩ : ∃ p, p = V (P.getD i []) := ⟨_, rfl⟩
  obtain ⟨q, hq⟩ : ∃ q, q = V (P.getD j []) := ⟨_, rfl⟩
  rw [← hp, ← hq] at hm
  obtain ⟨c0, hc0⟩ : ∃ c0, c0 = p 1 * q 2 - p 2 * q 1 := ⟨_, rfl⟩
  obtain ⟨c1, hc1⟩ : ∃ c1, c1 = p 2 * q 0 - p 0 * q 2 := ⟨_, rfl⟩
  obtain ⟨c2, hc2⟩ : ∃ c2, c2 = p 0 * q 1 - p 1 * q 0 := ⟨_, rfl⟩
  have hcn : ¬ (c0 = 0 ∧ c1 = 0 ∧ c2 = 0) := fun ⟨z0, z1, z2⟩ => by
    rcases (show a = 0 ∨ a = 1 ∨ a = 2 by omega) with rfl | rfl | rfl <;> rcases (show b = 0 ∨ b = 1 ∨ b = 2 by omega) with rfl | rfl | rfl <;> (apply hm; grind)
  have hsp : ∀ t, (p t).natAbs ≤ 3 := fun t => by rw [hp]; exact V_small h3 hil t
  have hsq : ∀ t, (q t).natAbs ≤ 3 := fun t => by rw [hq]; exact V_small h3 hjl t
  have b0 : c0.natAbs ≤ 18 := by rw [hc0]; exact prod18 (hsp 1) (hsq 2) (hsp 2) (hsq 1)
  have b1 : c1.natAbs ≤ 18 := by rw [hc1]; exact prod18 (hsp 2) (hsq 0) (hsp 0) (hsq 2)
  have b2 : c2.natAbs ≤ 18 := by rw [hc2]; exact prod18 (hsp 0) (hsq 1) (hsp 1) (hsq 0)
  have b3 : c0.natAbs + c1.natAbs + c2.natAbs ≤ 36 := by rw [hc0, hc1, hc2]; exact cross_bd (hsp 0) (hsp 1) (hsp 2) (hsq 0) (hsq 1) (hsq 2)
  -- a common place of both
  have hU : ∀ x y : Nat, (∀ k, s.testBit k = true → (127 : Int) ∣ hx 2 (P.getD k []) x y) → (127 : Int) ∣ c2 * (x : Int) - (- c0) ∧ (127 : Int) ∣ c2 * (y : Int) - (- c1) := fun x y h => by
    obtain ⟨k1, e1⟩ := h i hi
    obtain ⟨k2, e2⟩ := h j hj
    simp only [hx, show ¬ (2 : Nat) = 1 by decide, if_false] at e1 e2
    rw [← hp] at e1
    rw [← hq] at e2
    exact ⟨⟨q 1 * k1 - p 1 * k2, by grind⟩, ⟨p 0 * k2 - q 0 * k1, by grind⟩⟩
  have hc2n : ∀ x y : Nat, (∀ k, s.testBit k = true → (127 : Int) ∣ hx 2 (P.getD k []) x y) → c2 ≠ 0 := fun x y h e => by
    obtain ⟨⟨k1, e1⟩, ⟨k2, e2⟩⟩ := hU x y h
    rw [e] at e1 e2
    exact hcn ⟨by omega, by omega, e⟩
  have hK : ∀ k, k < P.length → ∀ x y : Nat, (127 : Int) ∣ c2 * (x : Int) - (- c0) → (127 : Int) ∣ c2 * (y : Int) - (- c1) → (127 : Int) ∣ c2 * hx 2 (P.getD k []) x y + (V (P.getD k []) 0 * c0 + V (P.getD k []) 1 * c1 + V (P.getD k []) 2 * c2) := fun k _ x y ⟨m1, e1⟩ ⟨m2, e2⟩ => by
    refine ⟨V (P.getD k []) 0 * m1 + V (P.getD k []) 1 * m2, ?_⟩
    simp only [hx, show ¬ (2 : Nat) = 1 by decide, if_false]
    grind
  have hcv : c2 ≠ 0 → (∀ k, s.testBit k = true → V (P.getD k []) 0 * c0 + V (P.getD k []) 1 * c1 + V (P.getD k []) 2 * c2 = 0) → cen 2 P s = true := fun h0 h => by
    refine cen_iff.2 ⟨fun t => if t = 0 then c0 else if t = 1 then c1 else c2, fun k _ hb => ?_, by simpa using h0⟩
    rw [dot_3]
    simpa using h k hb
  constructor
  · intro hc
    obtain ⟨v, h1, h2⟩ := cen_iff.1 hc
    have e1 := h1 i hil hi
    have e2 := h1 j hjl hj
    rw [dot_3, ← hp] at e1
    rw [dot_3, ← hq] at e2
    have f0 : c2 * v 0 = c0 * v 2 := by grind
    have f1 : c2 * v 1 = c1 * v 2 := by grind
    have hc2z : c2 ≠ 0 := fun e => by
      rw [e, Int.zero_mul] at f0 f1
      rcases Int.mul_eq_zero.1 f0.symm with z0 | z0
      · rcases Int.mul_eq_zero.1 f1.symm with z1 | z1
        · exact hcn ⟨z0, z1, e⟩
        · exact h2 z1
      · exact h2 z0
    have hz : ∀ k, s.testBit k = true → V (P.getD k []) 0 * c0 + V (P.getD k []) 1 * c1 + V (P.getD k []) 2 * c2 = 0 := fun k hb => by
      have e3 := h1 k (bit_lt hs hb) hb
      rw [dot_3] at e3
      have : v 2 * (V (P.getD k []) 0 * c0 + V (P.getD k []) 1 * c1 + V (P.getD k []) 2 * c2) = 0 := by grind
      rcases Int.mul_eq_zero.1 this with q | q
      · exact absurd q h2
      · exact q
    refine ⟨?_, ?_⟩
    · have h4 : rk 2 (plS P s) = rk 3 (plS P s) := rk_meet.2 ⟨v, zr_iff.1 h1, h2⟩
      have h5 := rk_cap 2 (plS P s)
      obtain ⟨t, ht, htn⟩ := plane_ne hG hil
      have h6 := rk_lt (c := 3) (A := []) (B := [P.getD i []]) (v := fun q => if q = t then 1 else 0) (fun x hx => absurd hx (by simp)) (fun x hx => absurd hx (by simp)) (b := P.getD i []) (by simp) (by
        unfold dot
        rw [sumN_one (k := t) (by omega) (fun a _ hx => by simp [hx])]
        simpa using htn)
      have h7 := rk_lt (c := 3) (A := [P.getD i []]) (B := plS P s) (v := fun t => if t = a then p b else if t = b then - p a else 0) (fun x hx => by rw [List.mem_singleton.1 hx]; exact mem_plS.2 ⟨i, hil, hi, rfl⟩) (fun x hx => by
        rw [List.mem_singleton.1 hx, dot_3, ← hp]
        rcases (show a = 0 ∨ a = 1 ∨ a = 2 by omega) with rfl | rfl | rfl <;> rcases (show b = 0 ∨ b = 1 ∨ b = 2 by omega) with rfl | rfl | rfl <;> simp at hm ⊢ <;> grind) (b := P.getD j []) (mem_plS.2 ⟨j, hjl, hj, rfl⟩) (by
        rw [dot_3, ← hq]
        rcases (show a = 0 ∨ a = 1 ∨ a = 2 by omega) with rfl | rfl | rfl <;> rcases (show b = 0 ∨ b = 1 ∨ b = 2 by omega) with rfl | rfl | rfl <;> simp at hm ⊢ <;> (intro h; apply hm; grind))
      show rk 3 (plS P s) = 2
      omega
    · obtain ⟨x0, x1, x2, x3⟩ := one127 hc2z b2 (- c0)
      obtain ⟨y0, y1, y2, y3⟩ := one127 hc2z b2 (- c1)
      unfold NS
      rw [sumN_one (k := x0) x1 (fun x hx hne2 => sumN_zero fun y _ => if_neg fun h => hne2 (x3 x hx (hU x y ((on_iff hs).1 h)).1))]
      show sumN 127 _ = 1
      rw [sumN_one (k := y0) y1 (fun y hy hne2 => if_neg fun h => hne2 (y3 y hy (hU x0 y ((on_iff hs).1 h)).2))]
      refine if_pos ((on_iff hs).2 fun k hb => ?_)
      have h5 := hK k (bit_lt hs hb) x0 y0 x2 y2
      rw [hz k hb, Int.add_zero] at h5
      exact cancel127 hc2z b2 h5
  · intro hc
    unfold NS
    refine sumN_zero fun x _ => sumN_zero fun y _ => if_neg fun h => ?_
    have h := (on_iff hs).1 h
    have hcz := hc2n x y h
    obtain ⟨u1, u2⟩ := hU x y h
    have : cen 2 P s = true := hcv hcz fun k hb => by
      obtain ⟨m1, e1⟩ := hK k (bit_lt hs hb) x y u1 u2
      obtain ⟨m2, e2⟩ := h k hb
      have hk3 := V_small h3 (bit_lt hs hb)
      refine small0 ?_ ⟨m1 - c2 * m2, by rw [e2] at e1; grind⟩
      have t0 : (V (P.getD k []) 0 * c0).natAbs ≤ 3 * c0.natAbs := by rw [Int.natAbs_mul]; exact Nat.mul_le_mul_right _ (hk3 0)
      have t1 : (V (P.getD k []) 1 * c1).natAbs ≤ 3 * c1.natAbs := by rw [Int.natAbs_mul]; exact Nat.mul_le_mul_right _ (hk3 1)
      have t2 : (V (P.getD k []) 2 * c2).natAbs ≤ 3 * c2.natAbs := by rw [Int.natAbs_mul]; exact Nat.mul_le_mul_right _ (hk3 2)
      omega
    rw [hc] at this
    cases this

theorem ns_is {d : Nat} {P : List (List Int)} (hd : d = 1 ∨ d = 2) (hG : PlG d P) (h3 : P3 P) {s : Nat} (hs : s < 2 ^ P.length) : NS d P s = if cen d P s = true then (127 : Int) ^ (d - rS d P s) else 0 := by
  by_cases h0 : s = 0
  · subst h0
    have h1 : cen d P 0 = true := cen_iff.2 ⟨fun _ => 1, fun i _ h => by simp at h, by simp⟩
    have h2 : rS d P 0 = 0 := by
      have : plS P 0 = [] := by simp [plS]
      unfold rS
      rw [this]; rfl
    rw [if_pos h1, h2, ns_none hd]
    rfl
  · obtain ⟨i, hi⟩ : ∃ i, s.testBit i = true := by
      refine Classical.byContradiction fun hn => h0 (Nat.eq_of_testBit_eq fun i => ?_)
      rw [Nat.zero_testBit]
      exact Bool.eq_false_iff.2 fun h => hn ⟨i, h⟩
    by_cases ho : ∀ j, s.testBit j = true → j = i
    · obtain ⟨h1, h2, h4⟩ := ns_one hd hG h3 hs hi ho
      rw [if_pos h1, h2, h4]
    · obtain ⟨j, hj⟩ := Classical.not_forall.1 ho
      have hj1 : s.testBit j = true := Classical.byContradiction fun h => hj fun h2 => absurd h2 h
      have hj2 : i ≠ j := fun e => hj fun _ => e.symm
      rcases hd with rfl | rfl
      · obtain ⟨h1, h2⟩ := ns_two1 hG h3 hs hi hj1 hj2
        rw [h1, h2]; rfl
      · obtain ⟨h1, h2⟩ := ns_two2 hG h3 hs hi hj1 hj2
        cases hc : cen 2 P s
        · rw [h2 hc]; rfl
        · obtain ⟨h4, h5⟩ := h1 hc
          rw [h4, h5]; rfl

/-- How many places lie on no plane. -/
def frN (d : Nat) (P : List (List Int)) : Int := sumN 127 fun x => sumN (yb d) fun y => if onT d P x y = 0 then 1 else 0

theorem finite {d : Nat} {P : List (List Int)} (hd : d = 1 ∨ d = 2) (hG : PlG d P) (h3 : P3 P) (hn : P.length ≤ 6) : frN d P = sumN (d + 1) fun j => whC d P j * (127 : Int) ^ j := by
  have e1 : frN d P = sumN (2 ^ P.length) fun s => sg s * NS d P s := by
    unfold frN
    have e : ∀ x y, (if onT d P x y = 0 then (1 : Int) else 0) = sumN (2 ^ P.length) fun s => sg s * if s &&& onT d P x y = s then 1 else 0 := fun x y => by
      rw [← sub_sum (F := onT d P x y) hn (mkS_lt _ _)]
      refine sumN_congr fun s _ => ?_
      by_cases h : s &&& onT d P x y = s
      · rw [if_pos h, if_pos h, Int.mul_one]
      · rw [if_neg h, if_neg h, Int.mul_zero]
    simp only [e]
    have e2 : ∀ x, (sumN (yb d) fun y => sumN (2 ^ P.length) fun s => sg s * if s &&& onT d P x y = s then 1 else 0) = sumN (2 ^ P.length) fun s => sg s * sumN (yb d) fun y => if s &&& onT d P x y = s then 1 else 0 := fun x => by
      rw [sumN_swap]
      exact sumN_congr fun s _ => sumN_mul _ _ _
    simp only [e2]
    rw [sumN_swap]
    exact sumN_congr fun s _ => sumN_mul _ _ _
  rw [e1]
  have e3 : ∀ s, s < 2 ^ P.length → sg s * NS d P s = sumN (d + 1) fun j => (if cen d P s = true then sg s * (if d - rS d P s = j then 1 else 0) else 0) * (127 : Int) ^ j := fun s hs => by
    rw [ns_is hd hG h3 hs]
    by_cases hc : cen d P s = true
    · simp only [if_pos hc]
      rw [sumN_one (k := d - rS d P s) (by omega) (fun j _ hne => by rw [if_neg (Ne.symm hne)]; simp)]
      simp
    · simp only [if_neg hc, Int.zero_mul, Int.mul_zero]
      rw [sumN_zero fun _ _ => rfl]
  rw [sumN_congr e3, sumN_swap]
  refine sumN_congr fun j _ => ?_
  unfold whC
  rw [← sumN_mul_right]

end Go.Proofs.Ytflgabcacljbjaa
