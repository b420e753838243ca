import Derived.Test.YtilblfoapjnmaaaGreatDoorWy9
/- root.checkPair, root.checked, root.Check: of a good matrix. -/
namespace Go.Proofs.YtilblfoapjnmaaaGreatDoor
open Go.RowKit
attribute [local go_sem ↓] Go.wp_at_zero Go.wp_at_succ

structure Gdc (n : Nat) (c : List (List Int)) : Prop where
  sq : Sqc n c
  n1 : 1 ≤ n
  dia : ∀ i, i < n → cE c i i = 2
  off : ∀ i j, i < n → j < n → i ≠ j → (-3 ≤ cE c i j ∧ cE c i j ≤ 0) ∧ (cE c i j = 0 ↔ cE c j i = 0)
  many : (abL c).length ≤ 24
  bd : ∀ b ∈ abL c, b.length = n ∧ ∀ k, -1000 ≤ b.getD k 0 ∧ b.getD k 0 ≤ 1000

def CPz (v a z : Int) : Prop := (-3 ≤ v ∧ v ≤ 0) ∧ (v = 0 ↔ a = 0) → z = 0

set_option maxRecDepth 100000 in
theorem checkPair_any (v a : Int) (w : World) :
    Calls Tryz.prog 47 #[.int .i64 v, .int .i64 a] w fun e w' => (∃ z, e = .returned (.int .i64 z) ∧ CPz v a z) ∧ w' = w := by
  by_cases h1 : v < -3
  · go_enter Tryz.func47, Tryz.ntmps47
    go_wp2
    go_ret
    exact ⟨⟨_, rfl, fun h => by obtain ⟨_, _⟩ := h; omega⟩, rfl⟩
  · by_cases h2 : 0 < v
    · go_enter Tryz.func47, Tryz.ntmps47
      go_wp2
      go_ret
      exact ⟨⟨_, rfl, fun h => by obtain ⟨_, _⟩ := h; omega⟩, rfl⟩
    · by_cases h3 : v = 0
      · subst h3
        by_cases h4 : a = 0
        · subst h4
          go_enter Tryz.func47, Tryz.ntmps47
          go_wp2
          go_ret
          exact ⟨⟨_, rfl, fun h => rfl⟩, rfl⟩
        · have b2 : (a == 0) = false := by simpa using h4
          go_enter Tryz.func47, Tryz.ntmps47
          go_wp2
          go_ret
          exact ⟨⟨_, rfl, fun h => by obtain ⟨_, _⟩ := h; omega⟩, rfl⟩
      · have b1 : (v == 0) = false := by simpa using h3
        by_cases h4 : a = 0
        · subst h4
          go_enter Tryz.func47, Tryz.ntmps47
          go_wp2
          go_ret
          exact ⟨⟨_, rfl, fun h => by obtain ⟨_, _⟩ := h; omega⟩, rfl⟩
        · have b2 : (a == 0) = false := by simpa using h4
          go_enter Tryz.func47, Tryz.ntmps47
          go_wp2
          go_ret
          exact ⟨⟨_, rfl, fun h => rfl⟩, rfl⟩

/-- One entry, as it lies. -/
theorem ent_cell {n : Nat} {c : List (List Int)} {B : Nat} {w : World} {ao : Option Addr} {cap : Nat} (hc : Sqc n c) (hm : Mat B 26 3 w (.slice ao n cap) c) {i : Nat} (hi : i < n) :
    ∃ b o b3 o3 cp3, ao = some ⟨b, o, none⟩ ∧ w.cell? ⟨b, o + i, none⟩ = some (.slice (some ⟨b3, o3, none⟩) n cp3) ∧ ∀ j, j < n → w.cell? ⟨b3, o3 + j, none⟩ = some (.int .i64 (cE c i j)) := by
  have hcl := hc.len
  obtain ⟨b, o, cp, r1, hs, _, hc1, hr⟩ := mat_cell hm (k := i) (by omega)
  simp only [Value.slice.injEq] at hs
  obtain ⟨rfl, _, rfl⟩ := hs
  have hrl : (c.getD i []).length = n := hc.row _ (by simp [hcl, hi])
  obtain ⟨b3, o3, cp3, hs3, _, _⟩ := sl_cell hr (k := 0) (by omega)
  subst hs3
  rw [hrl] at hc1
  refine ⟨b, o, b3, o3, cp3, rfl, hc1, fun j hj => ?_⟩
  obtain ⟨b4, o4, cp4, hs4, _, h4⟩ := sl_cell hr (k := j) (by omega)
  simp only [Value.slice.injEq, Option.some.injEq, Addr.mk.injEq, and_true, true_and] at hs4
  obtain ⟨⟨rfl, rfl⟩, rfl⟩ := hs4
  exact h4

set_option maxRecDepth 100000 in
set_option maxHeartbeats 3200000 in
theorem checkedR_any (n : Nat) (c : List (List Int)) (cv : Value) (w : World) (hg : Gdc n c) (hm : Mat w.heap.size 26 3 w cv c) :
    Calls Tryz.prog 27 #[cv] w fun e w' => ∃ u, e = .returned (.tuple #[u, .int .i64 0]) ∧ Fr w.heap.size 26 3 w' u (abL c) ∧ Below w.heap.size w w' := by
  obtain ⟨ao, cap, hvv, hlc, hcm⟩ := mat_open hm
  subst hvv
  have hn4 := hg.sq.n4
  have hn1 := hg.n1
  have HCL : Hid (c.length = n) := hg.sq.len
  have HAB : Hid (Calls Tryz.prog 48 #[.slice ao c.length cap] w fun e w' => ∃ u, e = .returned u ∧ Fr w.heap.size 26 3 w' u (abL c) ∧ Below w.heap.size w w') := above_any n c _ w hg.sq hn1 hm hg.bd
  have HMN : Hid ((abL c).length ≤ 24) := hg.many
  have HG : Hid (Gdc n c) := hg
  rw [HCL.out] at hm HAB
  have HM : Hid (Mat w.heap.size 26 3 w (.slice ao n cap) c) := hm
  rw [HCL.out]
  have nI1 : ¬ (n : Int) < 1 := by omega
  have nI4 : ¬ (4 : Int) < (n : Int) := by omega
  clear hg hm hlc
  go_enter Tryz.func27, Tryz.ntmps27
  go_wp2
  go_loopw [4, 5, 22] (fun _ _ iv wr => ∃ i : Nat, i ≤ n ∧ iv = .int .i64 i ∧ wr = w) (fun _ _ iv _ => n - (intOf iv).toNat)
  case atStart => exact ⟨0, Nat.zero_le _, rfl, rfl⟩
  case round =>
    obtain ⟨i, hi, rfl, hwr⟩ := hrel
    subst hwr
    by_cases hlt : i < n
    · obtain ⟨b, o, b3, o3, cp3, hao, hc1, hc2⟩ := ent_cell HG.out.sq HM.out hlt
      subst hao
      have hc3 := hc2 i hlt
      rw [HG.out.dia i hlt] at hc3
      clear hc2
      go_wp2
      go_roundw
      case rel => exact ⟨i + 1, by omega, by go_num, by trivial⟩
      case measure => simp [intOf]; omega
    · have hie : i = n := by omega
      subst hie
      clear hlt hi
      go_wp2
      go_loopw [6, 7, 8, 9, 10, 42] (fun _ _ _ _ _ iv wq => ∃ i' : Nat, i' ≤ i ∧ iv = .int .i64 i' ∧ wq = wr) (fun _ _ _ _ _ iv _ => i - (intOf iv).toNat)
      case atStart => exact ⟨0, Nat.zero_le _, rfl, rfl⟩
      case round =>
        obtain ⟨p, hp, rfl, hwr⟩ := hrel
        subst hwr
        by_cases hlt : p < i
        · obtain ⟨b, o, b3, o3, cp3, hao, hc1, hc2⟩ := ent_cell HG.out.sq HM.out hlt
          subst hao
          have HC2 : Hid (∀ j, j < i → wr.cell? ⟨b3, o3 + j, none⟩ = some (.int .i64 (cE c p j))) := hc2
          clear hc2
          go_wp2
          go_loopw [8, 9, 10, 49] (fun _ _ _ jv wq => ∃ j : Nat, j ≤ i ∧ jv = .int .i64 j ∧ wq = wr) (fun _ _ _ jv _ => i - (intOf jv).toNat)
          case atStart => exact ⟨0, Nat.zero_le _, rfl, rfl⟩
          case round =>
            obtain ⟨j, hj, rfl, hwr⟩ := hrel
            subst hwr
            by_cases hltj : j < i
            · have hc3 := HC2.out j hltj
              obtain ⟨b', o', b4, o4, cp4, hao, hc4, hc5⟩ := ent_cell HG.out.sq HM.out hltj
              simp only [Option.some.injEq, Addr.mk.injEq, and_true] at hao
              obtain ⟨rfl, rfl⟩ := hao
              have hc6 := hc5 p hlt
              clear hc5
              have HGD : Hid (p ≠ j → (-3 ≤ cE c p j ∧ cE c p j ≤ 0) ∧ (cE c p j = 0 ↔ cE c j p = 0)) := HG.out.off p j hlt hltj
              have HCP := checkPair_any (cE c p j) (cE c j p) wr
              generalize cE c p j = x at *
              generalize cE c j p = y at *
              go_wp2_with fail
              refine HCP.mono ?_
              rintro e w' ⟨⟨z, rfl, hz⟩, hw'⟩
              subst hw'
              by_cases hpj : p = j
              · subst hpj
                go_wp2
                go_roundw
                case rel => exact ⟨p + 1, by omega, by go_num, by trivial⟩
                case measure => simp [intOf]; omega
              · have hz0 : z = 0 := hz (HGD.out hpj)
                subst hz0
                have hpI : ¬ ((p : Int) = (j : Int)) := by omega
                have hpB : ((p : Int) == (j : Int)) = false := by simpa using hpI
                go_wp2
                go_roundw
                case rel => exact ⟨j + 1, by omega, by go_num, by trivial⟩
                case measure => simp [intOf]; omega
            · have hje : j = i := by omega
              subst hje
              go_wp2
              go_roundw
              case rel => exact ⟨p + 1, by omega, by go_num, by trivial⟩
              case measure => simp [intOf]; omega
        · have hpe : p = i := by omega
          subst hpe
          go_wp2_with fail
          refine HAB.out.mono ?_
          rintro e w' ⟨u, rfl, hf, hb⟩
          obtain ⟨xo, xc, hxv⟩ : ∃ xo xc, u = .slice xo (abL c).length xc := by
            obtain ⟨vs, g1, g2, g3⟩ := hf
            exact owns_form g2
          subst hxv
          have HF : Hid (Fr wr.heap.size 26 3 w' (.slice xo (abL c).length xc) (abL c)) := hf
          have HBW : Hid (Below wr.heap.size wr w') := hb
          have hmn := HMN.out
          clear hf hb HAB HMN
          generalize hA : abL c = A at *
          have hmI : ¬ (24 : Int) < (A.length : Int) := by omega
          go_wp2
          go_ret2
          exact ⟨_, rfl, by rw [hA]; exact HF.out, HBW.out⟩

set_option maxRecDepth 100000 in
theorem checkR_any (n : Nat) (c : List (List Int)) (cv : Value) (w : World) (hg : Gdc n c) (hm : Mat w.heap.size 26 3 w cv c) :
    Calls Tryz.prog 15 #[cv] w fun e w' => e = .returned (.int .i64 0) ∧ Below w.heap.size w w' := by
  have HC : Hid (Calls Tryz.prog 27 #[cv] w fun e w' => ∃ u, e = .returned (.tuple #[u, .int .i64 0]) ∧ Fr w.heap.size 26 3 w' u (abL c) ∧ Below w.heap.size w w') := checkedR_any n c cv w hg hm
  obtain ⟨ao, cap, hvv, hlc, hcm⟩ := mat_open hm
  subst hvv
  clear hg hm hlc
  go_enter Tryz.func15, Tryz.ntmps15
  go_wp2_with fail
  refine HC.out.mono ?_
  rintro e w' ⟨u, rfl, _, hb⟩
  have HB : Hid (Below w.heap.size w w') := hb
  clear hb
  go_wp2
  go_ret
  exact ⟨rfl, HB.out⟩

end Go.Proofs.YtilblfoapjnmaaaGreatDoor

/- Squares that may be of roots: what grows of them stays small, is never 0 and never twice; what is closed is told by its length. -/
namespace Go.Proofs.YtilblfoapjnmaaaGreatDoor

/-- A square of the form that is asked: whether there is an end is not said. -/
structure Shp (n : Nat) (c : List (List Int)) : Prop where
  sq : Sqc n c
  n1 : 1 ≤ n
  dia : ∀ i, i < n → cE c i i = 2
  off : ∀ i j, i < n → j < n → i ≠ j → (-3 ≤ cE c i j ∧ cE c i j ≤ 0) ∧ (cE c i j = 0 ↔ cE c j i = 0)

theorem tnL_at {c : List (List Int)} {b : List Int} {j k : Nat} (hk : k < c.length) : (tnL c b j).getD k 0 = if k = j then b.getD j 0 - sm c.length (fun i => b.getD i 0 * cE c i j) else b.getD k 0 := by
  unfold tnL
  rw [getD_range hk]
  rfl

theorem sm_nn {f : Nat → Int} : ∀ n, (∀ k, k < n → 0 ≤ f k) → 0 ≤ sm n f
  | 0, _ => Int.le_refl _
  | n + 1, h => by
    show 0 ≤ sm n f + f n
    have h1 := sm_nn n fun k hk => h k (by omega)
    have h2 := h n (by omega)
    omega

theorem sm_ge {f : Nat → Int} {k : Nat} : ∀ n, (∀ k, k < n → 0 ≤ f k) → k < n → f k ≤ sm n f
  | 0, _, hk => absurd hk (by omega)
  | n + 1, h, hk => by
    show f k ≤ sm n f + f n
    have h0 := sm_nn n fun k hk => h k (by omega)
    have h2 := h n (by omega)
    by_cases e : k = n
    · subst e; omega
    · have h1 := sm_ge n (fun k hk => h k (by omega)) (show k < n by omega)
      omega

/-- What is told of a sum of roots that stands at a place. -/
structure SrG (n p : Nat) (b : List Int) : Prop where
  len : b.length = n
  nn : ∀ k, 0 ≤ b.getD k 0
  s1 : 1 ≤ sm n fun k => b.getD k 0
  sb : (sm n fun k => b.getD k 0) ≤ 4 ^ p

theorem SrG.up {n p q : Nat} {b : List Int} (h : SrG n p b) (hpq : p ≤ q) : SrG n q b :=
  ⟨h.len, h.nn, h.s1, Int.le_trans h.sb (by
    have := Nat.pow_le_pow_right (show 1 ≤ 4 by omega) hpq
    exact_mod_cast this)⟩

theorem un_srg {n r p : Nat} (hr : r < n) : SrG n p (un n r) := by
  have e : (sm n fun k => (un n r).getD k 0) = 1 := by
    rw [sm_congr (g := fun k => if k = r then (fun _ => 1) k else 0) n fun k hk => by
      unfold un; rw [getD_range hk]]
    exact sm_one n hr
  refine ⟨by simp [un], fun k => ?_, by omega, ?_⟩
  · by_cases hk : k < n
    · unfold un
      rw [getD_range hk]
      split <;> omega
    · rw [List.getD_eq_getElem?_getD, List.getElem?_eq_none (by simp [un]; omega)]; simp
  · rw [e]
    have := Nat.pow_le_pow_right (show 1 ≤ 4 by omega) (Nat.zero_le p)
    exact_mod_cast this

theorem tn_srg {n p : Nat} {c : List (List Int)} {b : List Int} {j : Nat} (hc : Shp n c) (hj : j < n) (hb : SrG n p b) (h0 : 0 ≤ (tnL c b j).getD j 0) : SrG n (p + 1) (tnL c b j) := by
  have hl := hc.sq.len
  have hnn : ∀ k, 0 ≤ (tnL c b j).getD k 0 := fun k => by
    by_cases hk : k < n
    · by_cases e : k = j
      · subst e; exact h0
      · rw [tnL_at (by omega), if_neg e]; exact hb.nn k
    · rw [List.getD_eq_getElem?_getD, List.getElem?_eq_none (by rw [tnL_len]; omega)]; simp
  have hat : (tnL c b j).getD j 0 = b.getD j 0 - sm n (fun i => b.getD i 0 * cE c i j) := by
    rw [tnL_at (by omega), if_pos rfl, hl]
  have hle : -(3 * sm n fun k => b.getD k 0) ≤ sm n (fun i => b.getD i 0 * cE c i j) := by
    have e5 : sm n (fun k => (-3) * b.getD k 0) = (-3) * sm n fun k => b.getD k 0 := sm_mul (-3) n
    rw [show -(3 * sm n fun k => b.getD k 0) = sm n (fun k => (-3) * b.getD k 0) by rw [e5]; omega]
    refine sm_le n fun k hk => ?_
    have h1 := hb.nn k
    have h2 := (hc.sq.ent k j).1
    have h3 := Int.mul_le_mul_of_nonneg_left h2 h1
    omega
  have hsum : (sm n fun k => (tnL c b j).getD k 0) = (sm n fun k => b.getD k 0) + ((tnL c b j).getD j 0 - b.getD j 0) := by
    rw [sm_congr (g := fun k => b.getD k 0 + (if k = j then (fun k => (tnL c b j).getD k 0 - b.getD k 0) k else 0)) n fun k hk => by
      by_cases e : k = j
      · subst e; simp only [if_true]; omega
      · rw [tnL_at (by omega), if_neg e, if_neg e]; omega, sm_add, sm_one n hj]
  refine ⟨by rw [tnL_len]; exact hl, hnn, ?_, ?_⟩
  · have hz := sm_nn n fun k _ => hnn k
    by_cases he : (sm n fun k => (tnL c b j).getD k 0) = 0
    · exfalso
      have hk0 : ∀ k, k < n → (tnL c b j).getD k 0 = 0 := fun k hk => by
        have h1 := sm_ge n (fun k _ => hnn k) hk
        have h2 := hnn k
        omega
      have hb0 : ∀ k, k < n → k ≠ j → b.getD k 0 = 0 := fun k hk e => by
        have h1 := hk0 k hk
        rw [tnL_at (by omega), if_neg e] at h1
        exact h1
      have e2 : sm n (fun i => b.getD i 0 * cE c i j) = b.getD j 0 * 2 := by
        rw [sm_congr (g := fun k => if k = j then (fun k => b.getD k 0 * cE c k j) k else 0) n fun k hk => by
          by_cases e : k = j
          · rw [if_pos e]
          · rw [if_neg e, hb0 k hk e]; omega, sm_one n hj, hc.dia j hj]
      have h1 := hk0 j hj
      rw [hat, e2] at h1
      have e3 : (sm n fun k => b.getD k 0) = b.getD j 0 := by
        rw [sm_congr (g := fun k => if k = j then (fun k => b.getD k 0) k else 0) n fun k hk => by
          by_cases e : k = j
          · rw [if_pos e]
          · rw [if_neg e, hb0 k hk e], sm_one n hj]
      have := hb.s1
      omega
    · omega
  · have h1 := hb.sb
    have e4 : (4 : Int) ^ (p + 1) = 4 * 4 ^ p := by rw [Int.pow_succ]; omega
    rw [hsum, hat, e4]
    generalize (4 : Int) ^ p = Q at *
    omega

/-- What is told of all that has grown. -/
structure AbG (n : Nat) (L : List (List Int)) : Prop where
  g : ∀ p, p < L.length → SrG n p (L.getD p [])
  nod : L.Nodup

theorem getD_app0 {L : List (List Int)} {t : List Int} {p : Nat} (hp : p < L.length) : (L ++ [t]).getD p [] = L.getD p [] := by
  simp only [List.getD_eq_getElem?_getD]
  rw [List.getElem?_append_left hp]

theorem getD_app1 {L : List (List Int)} {t : List Int} : (L ++ [t]).getD L.length [] = t := by
  simp [List.getD_eq_getElem?_getD]

theorem abS_g {n : Nat} {c L : List (List Int)} {i j : Nat} (hc : Shp n c) (hj : j < n) (hi : i < L.length) (h : AbG n L) : AbG n (abS c i j L) := by
  unfold abS
  split
  · rename_i hq
    obtain ⟨h0, h1⟩ := hq
    refine ⟨fun p hp => ?_, ?_⟩
    · by_cases e : p < L.length
      · rw [getD_app0 e]; exact h.g p e
      · have : p = L.length := by simp at hp; omega
        subst this
        rw [getD_app1]
        exact (tn_srg hc hj (h.g i hi) h0).up (by omega)
    · rw [List.nodup_append]
      refine ⟨h.nod, by simp, fun a ha b hb e => ?_⟩
      rw [List.mem_singleton] at hb
      subst hb
      subst e
      have : L.any (· == tnL c (L.getD i []) j) = true := List.any_eq_true.2 ⟨_, ha, by simp⟩
      rw [this] at h1
      cases h1
  · exact h

theorem abI_g {n : Nat} {c : List (List Int)} {i : Nat} (hc : Shp n c) : ∀ (j : Nat) {L : List (List Int)}, j ≤ n → i < L.length → AbG n L → AbG n (abI c i j L)
  | 0, _, _, _, h => h
  | j + 1, L, hj, hi, h => abS_g hc (by omega) (Nat.lt_of_lt_of_le hi (abI_pre c i j L).length_le) (abI_g hc j (by omega) hi h)

theorem abO_g {n : Nat} {c : List (List Int)} (hc : Shp n c) : ∀ (f i : Nat) {L : List (List Int)}, L.length ≤ 28 → AbG n L → AbG n (abO c f i L) ∧ (abO c f i L).length ≤ 28
  | 0, _, _, hl, h => ⟨h, hl⟩
  | f + 1, i, L, hl, h => by
    unfold abO
    split
    · rename_i hq
      have h4 := hc.sq.n4
      have hcl := hc.sq.len
      have := abI_len c i c.length L
      exact abO_g hc f (i + 1) (by omega) (abI_g hc c.length (by omega) hq.1 h)
    · exact ⟨h, hl⟩

theorem un_inj {n r s : Nat} (hr : r < n) (h : un n r = un n s) : r = s := by
  have h1 : (un n r).getD r 0 = 1 := by unfold un; rw [getD_range hr]; simp
  rw [h] at h1
  unfold un at h1
  rw [getD_range hr] at h1
  by_cases e : r = s
  · exact e
  · rw [if_neg e] at h1; omega

theorem uns_g {n : Nat} : AbG n ((List.range n).map fun r => un n r) := by
  refine ⟨fun p hp => ?_, ?_⟩
  · have hp' : p < n := by simpa using hp
    have e : ((List.range n).map fun r => un n r).getD p [] = un n p := by simp [hp']
    rw [e]
    exact un_srg hp'
  · rw [List.nodup_iff_pairwise_ne, List.pairwise_map]
    refine (List.nodup_iff_pairwise_ne.1 List.nodup_range).imp_of_mem fun {a b} ha _ h e => h (un_inj (List.mem_range.1 ha) e)

theorem shp_g {n : Nat} {c : List (List Int)} (hc : Shp n c) : AbG n (abL c) ∧ (abL c).length ≤ 28 := by
  unfold abL
  have h4 := hc.sq.n4
  rw [hc.sq.len]
  exact abO_g hc 30 0 (by simp; omega) uns_g

/-- All that has grown: its numbers are small. -/
theorem shp_bd {n : Nat} {c : List (List Int)} (hc : Shp n c) : ∀ b ∈ abL c, b.length = n ∧ ∀ k, -18014398509481984 ≤ b.getD k 0 ∧ b.getD k 0 ≤ 18014398509481984 := fun b hb => by
  obtain ⟨hg, hl⟩ := shp_g hc
  obtain ⟨p, hp, rfl⟩ := List.mem_iff_getElem.1 hb
  have h := (hg.g p hp).up (show p ≤ 27 by omega)
  have e : (abL c).getD p [] = (abL c)[p] := by simp [hp]
  rw [e] at h
  refine ⟨h.len, fun k => ?_⟩
  have h0 := h.nn k
  by_cases hk : k < n
  · have h1 := sm_ge n (fun k _ => h.nn k) hk
    have h2 := h.sb
    have e4 : (4 : Int) ^ 27 = 18014398509481984 := by decide
    omega
  · have e3 : (abL c)[p].getD k 0 = 0 := by
      rw [List.getD_eq_getElem?_getD, List.getElem?_eq_none (by rw [h.len]; omega)]; rfl
    rw [e3]; omega

end Go.Proofs.YtilblfoapjnmaaaGreatDoor
