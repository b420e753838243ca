/- root.checked of a square that may not be. -/
import Derived.Test.YtkgljfnbaoncbaaMgAE
import Derived.Test.YtkgljfnbaoncbaaMgAL
namespace Go.Proofs.Ytkgljfnbaoncbaa
open Go.RowKit
attribute [local go_sem ↓] Go.wp_at_zero Go.wp_at_succ

/-- What is wrong with two numbers across. -/
def cpE (v a : Int) : Int := if v < -3 ∨ 0 < v then 4 else if (v == 0) = (a == 0) then 0 else 3

def rwE (c : List (List Int)) (i : Nat) : Nat → Int
  | 0 => 0
  | j + 1 => if rwE c i j = 0 then (if i = j then 0 else cpE (cE c i j) (cE c j i)) else rwE c i j

def ofE (c : List (List Int)) (n : Nat) : Nat → Int
  | 0 => 0
  | i + 1 => if ofE c n i = 0 then rwE c i n else ofE c n i

def ShF (c : List (List Int)) (m : Nat) : Prop := ∀ i, i < m → (c.getD i []).length = c.length ∧ cE c i i = 2

/-- The first rows are of the form that is asked. -/
def shF (c : List (List Int)) (m : Nat) : Bool := (List.range m).all fun i => decide ((c.getD i []).length = c.length ∧ cE c i i = 2)

theorem shF_iff {c : List (List Int)} {m : Nat} : shF c m = true ↔ ShF c m := by
  unfold shF ShF
  rw [List.all_eq_true]
  constructor
  · intro h i hi
    have := h i (List.mem_range.2 hi)
    simpa using this
  · intro h i hi
    have := h i (List.mem_range.1 hi)
    simpa using this

/-- What Check says. -/
def ckE (c : List (List Int)) : Int :=
  if c.length < 1 ∨ 4 < c.length then 1 else if shF c c.length = false then 3 else if ofE c c.length c.length = 0 then (if 24 < (abL c).length then 7 else 0) else ofE c c.length c.length

theorem rw_keep {c : List (List Int)} {i j : Nat} (h : ¬ rwE c i j = 0) : ∀ m, j ≤ m → rwE c i m = rwE c i j
  | 0, hm => by
    have : j = 0 := by omega
    subst this; rfl
  | m + 1, hm => by
    by_cases e : j = m + 1
    · subst e; rfl
    · have ih := rw_keep h m (by omega)
      show (if rwE c i m = 0 then _ else rwE c i m) = _
      rw [if_neg (by rw [ih]; exact h), ih]

theorem of_keep {c : List (List Int)} {n i : Nat} (h : ¬ ofE c n i = 0) : ∀ m, i ≤ m → ofE c n m = ofE c n i
  | 0, hm => by
    have : i = 0 := by omega
    subst this; rfl
  | m + 1, hm => by
    by_cases e : i = m + 1
    · subst e; rfl
    · have ih := of_keep h m (by omega)
      show (if ofE c n m = 0 then _ else ofE c n m) = _
      rw [if_neg (by rw [ih]; exact h), ih]

theorem rw_next {c : List (List Int)} {i j : Nat} (h : rwE c i j = 0) : rwE c i (j + 1) = if i = j then 0 else cpE (cE c i j) (cE c j i) := by
  show (if rwE c i j = 0 then _ else _) = _
  rw [if_pos h]

theorem of_next {c : List (List Int)} {n i : Nat} (h : ofE c n i = 0) : ofE c n (i + 1) = rwE c i n := by
  show (if ofE c n i = 0 then _ else _) = _
  rw [if_pos h]

theorem of_at {c : List (List Int)} {n i j : Nat} (h1 : ofE c n i = 0) (h2 : rwE c i j = 0) (hi : i < n) (hj : j < n) (hij : i ≠ j) (h3 : ¬ cpE (cE c i j) (cE c j i) = 0) : ofE c n n = cpE (cE c i j) (cE c j i) := by
  have a1 := rw_next h2
  rw [if_neg hij] at a1
  have a2 := rw_keep (by rw [a1]; exact h3) n (show j + 1 ≤ n by omega)
  rw [a1] at a2
  have a3 := of_next (c := c) (n := n) h1
  rw [a2] at a3
  have a4 := of_keep (by rw [a3]; exact h3) n (show i + 1 ≤ n by omega)
  rw [a4, a3]

theorem rw_zero {c : List (List Int)} {i : Nat} : ∀ {m : Nat}, rwE c i m = 0 → ∀ j, j < m → i ≠ j → cpE (cE c i j) (cE c j i) = 0
  | 0, _, j, hj, _ => absurd hj (by omega)
  | m + 1, h, j, hj, hij => by
    by_cases e : rwE c i m = 0
    · rw [rw_next e] at h
      by_cases e2 : j = m
      · subst e2; rw [if_neg hij] at h; exact h
      · exact rw_zero e j (by omega) hij
    · have := rw_keep e (m + 1) (by omega)
      rw [this] at h
      exact absurd h e

theorem of_zero {c : List (List Int)} {n : Nat} : ∀ {m : Nat}, ofE c n m = 0 → ∀ i, i < m → rwE c i n = 0
  | 0, _, i, hi => absurd hi (by omega)
  | m + 1, h, i, hi => by
    by_cases e : ofE c n m = 0
    · rw [of_next e] at h
      by_cases e2 : i = m
      · subst e2; exact h
      · exact of_zero e i (by omega)
    · have := of_keep e (m + 1) (by omega)
      rw [this] at h
      exact absurd h e

theorem cp_zero {v a : Int} (h : cpE v a = 0) : (-3 ≤ v ∧ v ≤ 0) ∧ (v = 0 ↔ a = 0) := by
  unfold cpE at h
  by_cases h1 : v < -3 ∨ 0 < v
  · rw [if_pos h1] at h; omega
  · rw [if_neg h1] at h
    by_cases h2 : (v == 0) = (a == 0)
    · refine ⟨by omega, ?_⟩
      rw [Bool.eq_iff_iff, beq_iff_eq, beq_iff_eq] at h2
      exact h2
    · rw [if_neg h2] at h; omega

theorem shp_of {c : List (List Int)} (h1 : 1 ≤ c.length) (h4 : c.length ≤ 4) (hs : ShF c c.length) (ho : ofE c c.length c.length = 0) : Shp c.length c := by
  have hoff : ∀ i j, i < c.length → j < c.length → i ≠ j → (-3 ≤ cE c i j ∧ cE c i j ≤ 0) ∧ (cE c i j = 0 ↔ cE c j i = 0) := fun i j hi hj hij => cp_zero (rw_zero (of_zero ho i hi) j hj hij)
  refine ⟨⟨rfl, h4, fun r hr => ?_, fun i j => ?_⟩, h1, fun i hi => (hs i hi).2, hoff⟩
  · obtain ⟨i, hi, rfl⟩ := List.mem_iff_getElem.1 hr
    have := (hs i hi).1
    simpa [hi] using this
  · by_cases hi : i < c.length
    · by_cases hj : j < c.length
      · by_cases e : i = j
        · subst e; rw [(hs i hi).2]; omega
        · have := (hoff i j hi hj e).1; omega
      · have hl := (hs i hi).1
        have : cE c i j = 0 := by unfold cE; rw [List.getD_eq_getElem?_getD, List.getElem?_eq_none (by omega)]; rfl
        omega
    · have : cE c i j = 0 := by
        unfold cE
        rw [List.getD_eq_getElem?_getD (l := c), List.getElem?_eq_none (by omega)]
        simp
      omega

/-- A square of which nothing is wrong. -/
theorem ck_zero {c : List (List Int)} (h : ckE c = 0) : Shp c.length c ∧ (abL c).length ≤ 24 := by
  unfold ckE at h
  by_cases h1 : c.length < 1 ∨ 4 < c.length
  · rw [if_pos h1] at h; omega
  rw [if_neg h1] at h
  by_cases h2 : shF c c.length = false
  · rw [if_pos h2] at h; omega
  rw [if_neg h2] at h
  by_cases h3 : ofE c c.length c.length = 0
  · rw [if_pos h3] at h
    refine ⟨shp_of (by omega) (by omega) (shF_iff.1 (by simpa using h2)) h3, ?_⟩
    by_cases h4 : 24 < (abL c).length
    · rw [if_pos h4] at h; omega
    · omega
  · rw [if_neg h3] at h; exact absurd h h3

set_option maxRecDepth 100000 in
theorem checkPairE_any (v a : Int) (w : World) :
    Calls Try.prog 55 #[.int .i64 v, .int .i64 a] w fun e w' => e = .returned (.int .i64 (cpE v a)) ∧ w' = w := by
  by_cases h1 : v < -3
  · have e : cpE v a = 4 := by unfold cpE; rw [if_pos (.inl h1)]
    rw [e]
    go_enter Try.func55, Try.ntmps55
    go_wp2
    go_ret
    exact ⟨rfl, rfl⟩
  · by_cases h2 : 0 < v
    · have e : cpE v a = 4 := by unfold cpE; rw [if_pos (.inr h2)]
      rw [e]
      go_enter Try.func55, Try.ntmps55
      go_wp2
      go_ret
      exact ⟨rfl, rfl⟩
    · have e : cpE v a = if (v == 0) = (a == 0) then 0 else 3 := by unfold cpE; rw [if_neg (by omega)]
      rw [e]
      by_cases h3 : v = 0
      · subst h3
        by_cases h4 : a = 0
        · subst h4
          go_enter Try.func55, Try.ntmps55
          go_wp2
          go_ret
          exact ⟨rfl, rfl⟩
        · have b2 : (a == 0) = false := by simpa using h4
          rw [b2]
          go_enter Try.func55, Try.ntmps55
          go_wp2
          go_ret
          exact ⟨rfl, rfl⟩
      · have b1 : (v == 0) = false := by simpa using h3
        by_cases h4 : a = 0
        · subst h4
          rw [b1]
          go_enter Try.func55, Try.ntmps55
          go_wp2
          go_ret
          exact ⟨rfl, rfl⟩
        · have b2 : (a == 0) = false := by simpa using h4
          rw [b1, b2]
          go_enter Try.func55, Try.ntmps55
          go_wp2
          go_ret
          exact ⟨rfl, rfl⟩

/-- One entry, as it lies, of rows of one length. -/
theorem ent_cellE {n : Nat} {c : List (List Int)} {B : Nat} {w : World} {ao : Option Addr} {cap : Nat} (hcl : c.length = n) (hrow : ∀ i, i < n → (c.getD i []).length = n) (hm : Mat B 26 3 w (.slice ao n cap) c) {i : Nat} (hi : i < n) :
    ∃ b o b3 o3 cp3, ao = some ⟨b, o, none⟩ ∧ w.cell? ⟨b, o + i, none⟩ = some (.slice (some ⟨b3, o3, none⟩) n cp3) ∧ ∀ j, j < n → w.cell? ⟨b3, o3 + j, none⟩ = some (.int .i64 (cE c i j)) := by
  obtain ⟨b, o, cp, r1, hs, _, hc1, hr⟩ := mat_cell hm (k := i) (by omega)
  simp only [Value.slice.injEq] at hs
  obtain ⟨rfl, _, rfl⟩ := hs
  have hrl : (c.getD i []).length = n := hrow i hi
  obtain ⟨b3, o3, cp3, hs3, _, _⟩ := sl_cell hr (k := 0) (by omega)
  subst hs3
  rw [hrl] at hc1
  refine ⟨b, o, b3, o3, cp3, rfl, hc1, fun j hj => ?_⟩
  obtain ⟨b4, o4, cp4, hs4, _, h4⟩ := sl_cell hr (k := j) (by omega)
  simp only [Value.slice.injEq, Option.some.injEq, Addr.mk.injEq, and_true, true_and] at hs4
  obtain ⟨⟨rfl, rfl⟩, rfl⟩ := hs4
  exact h4

theorem ck_dim {c : List (List Int)} (h : c.length < 1 ∨ 4 < c.length) : ckE c = 1 := by unfold ckE; rw [if_pos h]
theorem ck_form {c : List (List Int)} {i : Nat} (h1 : 1 ≤ c.length) (h4 : c.length ≤ 4) (hi : i < c.length) (h : ¬ ((c.getD i []).length = c.length ∧ cE c i i = 2)) : ckE c = 3 := by
  unfold ckE
  rw [if_neg (by omega), if_pos]
  cases hs : shF c c.length
  · rfl
  · exact absurd (shF_iff.1 hs i hi) h
theorem ck_off {c : List (List Int)} (h1 : 1 ≤ c.length) (h4 : c.length ≤ 4) (h : ShF c c.length) (ho : ¬ ofE c c.length c.length = 0) : ckE c = ofE c c.length c.length := by
  unfold ckE
  rw [if_neg (by omega), if_neg (by rw [shF_iff.2 h]; decide), if_neg ho]
theorem ck_open {c : List (List Int)} (h1 : 1 ≤ c.length) (h4 : c.length ≤ 4) (h : ShF c c.length) (ho : ofE c c.length c.length = 0) (hne : ¬ ckE c = 0) : ckE c = 7 ∧ 24 < (abL c).length := by
  unfold ckE at hne ⊢
  rw [if_neg (by omega), if_neg (by rw [shF_iff.2 h]; decide), if_pos ho] at hne ⊢
  by_cases h5 : 24 < (abL c).length
  · exact ⟨if_pos h5, h5⟩
  · rw [if_neg h5] at hne; exact absurd rfl hne

set_option maxRecDepth 100000 in
set_option maxHeartbeats 3200000 in
theorem checkedE_any (c : List (List Int)) (cv : Value) (w : World) (hne : ¬ ckE c = 0) (hm : Mat w.heap.size 26 3 w cv c) :
    Calls Try.prog 44 #[cv] w fun e w' => e = .returned (.tuple #[.slice none 0 0, .int .i64 (ckE c)]) ∧ Below w.heap.size w w' := by
  obtain ⟨ao, cap, hvv, hlc, hcm⟩ := mat_open hm
  subst hvv
  obtain ⟨n, hn⟩ : ∃ n, n = c.length := ⟨_, rfl⟩
  by_cases h1 : n < 1
  · have e0 : n = 0 := by omega
    rw [ck_dim (.inl (by omega)), ← hn, e0]
    clear hm hne
    go_enter Try.func44, Try.ntmps44
    go_wp2
    go_ret2
    exact ⟨rfl, Below.refl _ _⟩
  by_cases h4 : 4 < n
  · have h4I : (4 : Int) < (n : Int) := by omega
    have h1I : ¬ (n : Int) < 1 := by omega
    rw [ck_dim (.inr (by omega)), ← hn]
    clear hm hne
    go_enter Try.func44, Try.ntmps44
    go_wp2
    go_ret2
    exact ⟨rfl, Below.refl _ _⟩
  have HCN : Hid (n = c.length) := hn
  have HNE : Hid (¬ ckE c = 0) := hne
  have HAB : Hid (Shp c.length c → Calls Try.prog 56 #[.slice ao c.length cap] w fun e w' => ∃ u, e = .returned u ∧ Fr w.heap.size 26 3 w' u (abL c) ∧ Below w.heap.size w w') := fun hs => aboveM_any c.length c _ w hs.sq hs.n1 hm (shp_bd hs)
  rw [← hn] at hm HAB
  have HM : Hid (Mat w.heap.size 26 3 w (.slice ao n cap) c) := hm
  rw [← hn]
  obtain ⟨E, hE⟩ : ∃ E, E = ckE c := ⟨_, rfl⟩
  have HE : Hid (E = ckE c) := hE
  rw [← hE]
  have nI1 : ¬ (n : Int) < 1 := by omega
  have nI4 : ¬ (4 : Int) < (n : Int) := by omega
  clear hm hlc hne hE hn
  go_enter Try.func44, Try.ntmps44
  go_wp2
  go_loopw [4, 5, 22] (fun _ _ iv wr => ∃ i : Nat, i ≤ n ∧ iv = .int .i64 i ∧ ShF c i ∧ wr = w) (fun _ _ iv _ => n - (intOf iv).toNat)
  case atStart => exact ⟨0, Nat.zero_le _, rfl, fun i hi => absurd hi (by omega), rfl⟩
  case round =>
    obtain ⟨i, hi, rfl, hsh, hwr⟩ := hrel
    have HSH : Hid (ShF c i) := hsh
    subst hwr
    clear hsh
    by_cases hlt : i < n
    · obtain ⟨b, o, cp, r1, hs, _, hc1, hr⟩ := mat_cell HM.out (k := i) (by rw [← HCN.out]; exact hlt)
      simp only [Value.slice.injEq] at hs
      obtain ⟨rfl, _, rfl⟩ := hs
      obtain ⟨ro, rc, hrv, hrl, _⟩ := sl_open hr
      subst hrv
      by_cases hl : (c.getD i []).length = n
      · obtain ⟨b3, o3, cp3, hs3, _, hc3⟩ := sl_cell hr (k := i) (by omega)
        simp only [Value.slice.injEq, true_and] at hs3
        obtain ⟨rfl, rfl⟩ := hs3
        rw [hl] at hc1
        have ee : (c.getD i []).getD i 0 = cE c i i := rfl
        rw [ee] at hc3
        by_cases h2 : cE c i i = 2
        · have HS2 : Hid (ShF c (i + 1)) := fun k hk => by
            by_cases e : k = i
            · subst e; rw [← HCN.out]; exact ⟨hl, h2⟩
            · exact HSH.out k (by omega)
          rw [h2] at hc3
          clear hr hl ee h2 hrl
          go_wp2
          go_roundw
          case rel => exact ⟨i + 1, by omega, by go_num, HS2.out, by trivial⟩
          case measure => simp [intOf]; omega
        · have HF : Hid (E = 3) := by
            show _ = _
            rw [HE.out]
            exact ck_form (by rw [← HCN.out]; omega) (by rw [← HCN.out]; omega) (by rw [← HCN.out]; exact hlt) (fun h => h2 h.2)
          generalize cE c i i = x at *
          have b2 : (x == 2) = false := by simpa using h2
          clear hr hl ee hrl
          go_wp2
          go_ret2
          exact ⟨by rw [HF.out]; rfl, Below.refl _ _⟩
      · have HF : Hid (E = 3) := by
          show _ = _
          rw [HE.out]
          exact ck_form (by rw [← HCN.out]; omega) (by rw [← HCN.out]; omega) (by rw [← HCN.out]; exact hlt) (fun h => hl (by rw [HCN.out]; exact h.1))
        clear hr hrl
        generalize (c.getD i []).length = m at *
        have hlI : ¬ ((m : Int) = (n : Int)) := by omega
        have b2 : ((m : Int) == (n : Int)) = false := by simpa using hlI
        go_wp2
        go_ret2
        exact ⟨by rw [HF.out]; rfl, Below.refl _ _⟩
    · have hie : i = n := by omega
      subst hie
      have HRW : Hid (∀ k, k < i → (c.getD k []).length = i) := fun k hk => by
        have := (HSH.out k hk).1
        rw [HCN.out]; exact this
      clear hlt hi
      go_wp2
      go_loopw [6, 7, 8, 9, 10, 42] (fun _ _ _ _ _ iv wq => ∃ i' : Nat, i' ≤ i ∧ iv = .int .i64 i' ∧ ofE c i i' = 0 ∧ wq = wr) (fun _ _ _ _ _ iv _ => i - (intOf iv).toNat)
      case atStart => exact ⟨0, Nat.zero_le _, rfl, rfl, rfl⟩
      case round =>
        obtain ⟨p, hp, rfl, hof, hwr⟩ := hrel
        have HOF : Hid (ofE c i p = 0) := hof
        subst hwr
        clear hof
        by_cases hlt : p < i
        · obtain ⟨b, o, b3, o3, cp3, hao, hc1, hc2⟩ := ent_cellE HCN.out.symm HRW.out HM.out hlt
          subst hao
          have HC2 : Hid (∀ j, j < i → wr.cell? ⟨b3, o3 + j, none⟩ = some (.int .i64 (cE c p j))) := hc2
          clear hc2
          go_wp2
          go_loopw [8, 9, 10, 49] (fun _ _ _ jv wq => ∃ j : Nat, j ≤ i ∧ jv = .int .i64 j ∧ rwE c p j = 0 ∧ wq = wr) (fun _ _ _ jv _ => i - (intOf jv).toNat)
          case atStart => exact ⟨0, Nat.zero_le _, rfl, rfl, rfl⟩
          case round =>
            obtain ⟨j, hj, rfl, hrw, hwr⟩ := hrel
            have HRZ : Hid (rwE c p j = 0) := hrw
            subst hwr
            clear hrw
            by_cases hltj : j < i
            · have hc3 := HC2.out j hltj
              obtain ⟨b', o', b4, o4, cp4, hao, hc4, hc5⟩ := ent_cellE HCN.out.symm HRW.out HM.out hltj
              simp only [Option.some.injEq, Addr.mk.injEq, and_true] at hao
              obtain ⟨rfl, rfl⟩ := hao
              have hc6 := hc5 p hlt
              clear hc5
              have HOA : Hid (p ≠ j → ¬ cpE (cE c p j) (cE c j p) = 0 → E = cpE (cE c p j) (cE c j p)) := fun e1 e2 => by
                have h := of_at HOF.out HRZ.out hlt hltj e1 e2
                rw [HE.out, ← h]
                have hcn := HCN.out
                have hne2 : ¬ ofE c c.length c.length = 0 := by rw [← hcn, h]; exact e2
                rw [ck_off (by omega) (by omega) (by rw [← hcn]; exact HSH.out) hne2, ← hcn]
              have HRN : Hid (rwE c p (j + 1) = if p = j then 0 else cpE (cE c p j) (cE c j p)) := rw_next HRZ.out
              have HCP := checkPairE_any (cE c p j) (cE c j p) wr
              generalize cE c p j = x at *
              generalize cE c j p = y at *
              generalize cpE x y = z at *
              go_wp2_with fail
              refine HCP.mono ?_
              rintro e w' ⟨rfl, hw'⟩
              subst hw'
              by_cases hpj : p = j
              · subst hpj
                have HR2 : Hid (rwE c p (p + 1) = 0) := by show _ = _; rw [HRN.out, if_pos rfl]
                go_wp2
                go_roundw
                case rel => exact ⟨p + 1, by omega, by go_num, HR2.out, by trivial⟩
                case measure => simp [intOf]; omega
              · have hpI : ¬ ((p : Int) = (j : Int)) := by omega
                have hpB : ((p : Int) == (j : Int)) = false := by simpa using hpI
                by_cases hz0 : z = 0
                · subst hz0
                  have HR2 : Hid (rwE c p (j + 1) = 0) := by show _ = _; rw [HRN.out, if_neg hpj]
                  go_wp2
                  go_roundw
                  case rel => exact ⟨j + 1, by omega, by go_num, HR2.out, by trivial⟩
                  case measure => simp [intOf]; omega
                · have hzB : (z == 0) = false := by simpa using hz0
                  have HEZ : Hid (E = z) := HOA.out hpj hz0
                  go_wp2
                  go_ret2
                  exact ⟨by rw [HEZ.out]; rfl, Below.refl _ _⟩
                  all_goals
                    rename_i hq
                    exfalso
                    rcases hq with hq | hq
                    · rw [bne, hpB] at hq; cases hq
                    · rw [bne, hzB] at hq; cases hq
            · have hje : j = i := by omega
              subst hje
              have HO2 : Hid (ofE c j (p + 1) = 0) := by show _ = _; rw [of_next HOF.out]; exact HRZ.out
              go_wp2
              go_roundw
              case rel => exact ⟨p + 1, by omega, by go_num, HO2.out, by trivial⟩
              case measure => simp [intOf]; omega
        · have hpe : p = i := by omega
          subst hpe
          have hcn := HCN.out
          have hnI : 1 ≤ c.length ∧ c.length ≤ 4 := by omega
          have hs : ShF c c.length := by rw [← hcn]; exact HSH.out
          have ho : ofE c c.length c.length = 0 := by rw [← hcn]; exact HOF.out
          obtain ⟨ck7, hmn⟩ := ck_open hnI.1 hnI.2 hs ho HNE.out
          have HA2 := HAB.out (by rw [hcn]; exact shp_of hnI.1 hnI.2 hs ho)
          have HE7 : Hid (E = 7) := by show _ = _; rw [HE.out]; exact ck7
          clear hs ho ck7 hcn hnI
          go_wp2_with fail
          refine HA2.mono ?_
          rintro e w' ⟨u, rfl, hf, hb⟩
          obtain ⟨xo, xc, hxv⟩ : ∃ xo xc, u = .slice xo (abL c).length xc := by
            obtain ⟨vs, g1, g2, g3⟩ := hf
            exact owns_form g2
          subst hxv
          have HBW : Hid (Below wr.heap.size wr w') := hb
          clear hf hb HA2 HAB
          generalize (abL c).length = A at *
          have hmI : (24 : Int) < (A : Int) := by omega
          go_wp2
          go_ret2
          exact ⟨by rw [HE7.out]; rfl, HBW.out⟩

end Go.Proofs.Ytkgljfnbaoncbaa
