/- facetref.KindOfPart: the walk. -/
import Derived.Test.YtkgljfnbaoncbaaMgAG
import Derived.Test.YtkgljfnbaoncbaaMgAJ
import Derived.BigRegion
namespace Go.Proofs.Ytkgljfnbaoncbaa
open Go.RowKit
attribute [local go_sem ↓] Go.wp_at_zero Go.wp_at_succ

/-- In this order a part's square is the kind's. -/
def kpM (c : List (List Int)) (p : List Nat) (q : UInt8 × UInt8) (o : List Int) : Bool :=
  (List.range (pcL q).length).all fun x => (List.range (pcL q).length).all fun y => cE c (p.getD (o.getD x 0).toNat 0) (p.getD (o.getD y 0).toNat 0) == cE (pcL q) x y
def kpB (c : List (List Int)) (p : List Nat) (q : UInt8 × UInt8) : Bool := (pcL q).length == p.length && (ords p.length p.length []).any (kpM c p q)
/-- A part's name. -/
def kpS (c : List (List Int)) (p : List Nat) : ByteArray := match kdL.find? (kpB c p) with
  | some q => kdB q
  | none => ⟨#[]⟩

theorem sl_all {B b o n cp : Nat} {w : World} {l : List Int} (h : Sl B 3 w (.slice (some ⟨b, o, none⟩) n cp) (ints l)) {j : Nat} (hj : j < l.length) : ∀ X, Below w.heap.size w X → X.cell? ⟨b, o + j, none⟩ = some (.int .i64 (l.getD j 0)) := fun X hX => by
  obtain ⟨b2, o2, cp2, hs2, _, hc2⟩ := sl_cell h hj
  simp only [Value.slice.injEq, Option.some.injEq, Addr.mk.injEq, and_true] at hs2
  obtain ⟨⟨rfl, rfl⟩, rfl, rfl⟩ := hs2
  exact (hX.cell (lt_of_cell hc2)).trans hc2

theorem mat_all {B b o n cp : Nat} {w : World} {m : List (List Int)} (h : Mat B 26 3 w (.slice (some ⟨b, o, none⟩) n cp) m) {k : Nat} (hk : k < m.length) (hl : 0 < (m.getD k []).length) : ∃ b3 o3 c3, ∀ X, Below w.heap.size w X → X.cell? ⟨b, o + k, none⟩ = some (.slice (some ⟨b3, o3, none⟩) (m.getD k []).length c3) ∧ ∀ j, j < (m.getD k []).length → X.cell? ⟨b3, o3 + j, none⟩ = some (.int .i64 ((m.getD k []).getD j 0)) := by
  obtain ⟨b2, o2, cp2, r, hs2, _, hc2, hr⟩ := mat_cell h hk
  simp only [Value.slice.injEq, Option.some.injEq, Addr.mk.injEq, and_true] at hs2
  obtain ⟨⟨rfl, rfl⟩, rfl, rfl⟩ := hs2
  obtain ⟨b3, o3, c3, rfl, _, _⟩ := sl_cell hr hl
  exact ⟨b3, o3, c3, fun X hX => ⟨(hX.cell (lt_of_cell hc2)).trans hc2, fun j hj => sl_all hr hj X hX⟩⟩

theorem ords_get {n k : Nat} (hk : k < (ords n n []).length) : ((ords n n []).getD k []).length = n ∧ ∀ x, x < n → 0 ≤ ((ords n n []).getD k []).getD x 0 ∧ ((ords n n []).getD k []).getD x 0 < n := by
  have h := ords_is n [] _ ⟨fun z hz => by simp at hz, by simp⟩ (show (ords n n []).getD k [] ∈ ords n n [] by simp [hk])
  have hl : ((ords n n []).getD k []).length = n := by have := h.2; simpa using this
  refine ⟨hl, fun x hx => h.1.1 _ ?_⟩
  generalize (ords n n []).getD k [] = l at *
  rw [List.getD_eq_getElem?_getD, List.getElem?_eq_getElem (by omega)]
  exact List.getElem_mem _

theorem find_kd {f : UInt8 × UInt8 → Bool} {i : Nat} (hi : i < 12) (h0 : ∀ t, t < i → f (kdL.getD t (0, 0)) = false) (h1 : f (kdL.getD i (0, 0)) = true) : kdL.find? f = some (kdL.getD i (0, 0)) := by
  have hl : kdL.length = 12 := rfl
  rw [List.find?_eq_some_iff_getElem]
  refine ⟨h1, i, by omega, by simp [hl, hi], fun j hj => ?_⟩
  have := h0 j hj
  rw [List.getD_eq_getElem?_getD, List.getElem?_eq_getElem (by omega)] at this
  simpa using this

theorem find_kd0 {f : UInt8 × UInt8 → Bool} (h0 : ∀ t, t < 12 → f (kdL.getD t (0, 0)) = false) : kdL.find? f = none := by
  have hl : kdL.length = 12 := rfl
  rw [List.find?_eq_none]
  intro x hx
  obtain ⟨j, hj, rfl⟩ := List.mem_iff_getElem.1 hx
  have := h0 j (by omega)
  rw [List.getD_eq_getElem?_getD, List.getElem?_eq_getElem hj] at this
  simpa using this

theorem kd_mem {i : Nat} (hi : i < 12) : kdL.getD i (0, 0) ∈ kdL := by
  have hl : kdL.length = 12 := rfl
  simp [hl, hi]

theorem OM.mat0 {B : Nat} {g c : Nat → Nat} {k n : Nat} {w : World} {v : Value} {R : List (List Int)} (h : OM B g c k n w v R) : Mat 0 26 3 w v R := by
  refine ⟨rowsV g c n k, by simp [rowsV, h.num], Sl.own h.out, fun i hi => ?_⟩
  rw [h.num] at hi
  have := h.row i hi
  simpa [rowsV, hi] using Sl.own (B := 0) this

set_option maxRecDepth 100000 in
set_option maxHeartbeats 3200000 in
theorem kindOfPart_any (n : Nat) (c : List (List Int)) (p : List Nat) (cv pv : Value) (w : World) (hc : Sqc n c) (hp : PaW n p) (hp0 : 0 < p.length) (hm : Mat w.heap.size 26 3 w cv c) (hpv : Sl 0 3 w pv (ints (natsI p))) :
    Calls Try.prog 23 #[cv, pv] w fun e w' => e = .returned (.string (kpS c p)) ∧ Below w.heap.size w w' := by
  obtain ⟨ao, cap, hvv, hlc, hcm⟩ := mat_open hm
  subst hvv
  obtain ⟨pb, pof, pc, hpe, _, _⟩ := sl_cell hpv (k := 0) (by rw [natsI_lenR]; exact hp0)
  subst hpe
  rw [natsI_lenR] at hpv
  have hn4 := hc.n4
  have hpl := hp.len
  have HCL : Hid (c.length = n) := hc.len
  have HEN : Hid (∃ b o, ao = some ⟨b, o, none⟩ ∧ ∀ x, x < n → ∃ b3 o3 cp3, ∀ X, Below w.heap.size w X → X.cell? ⟨b, o + x, none⟩ = some (.slice (some ⟨b3, o3, none⟩) n cp3) ∧ ∀ j, j < n → X.cell? ⟨b3, o3 + j, none⟩ = some (.int .i64 (cE c x j))) := by
    rw [HCL.out] at hm
    obtain ⟨b, o, b3, o3, cp3, h1, h2⟩ := ent_all hc hm (i := 0) (by omega)
    refine ⟨b, o, h1, fun x hx => ?_⟩
    obtain ⟨b', o', b3', o3', cp3', h1', h2'⟩ := ent_all hc hm hx
    rw [h1] at h1'
    simp only [Option.some.injEq, Addr.mk.injEq, and_true] at h1'
    obtain ⟨rfl, rfl⟩ := h1'
    exact ⟨b3', o3', cp3', h2'⟩
  obtain ⟨b, o, hao, hen⟩ := HEN.out
  subst hao
  have HXC : Hid (∀ x, x < n → ∃ b3 o3 cp3, ∀ X, Below w.heap.size w X → X.cell? ⟨b, o + x, none⟩ = some (.slice (some ⟨b3, o3, none⟩) n cp3) ∧ ∀ j, j < n → X.cell? ⟨b3, o3 + j, none⟩ = some (.int .i64 (cE c x j))) := hen
  have HPC : Hid (∀ t, t < p.length → ∀ X, Below w.heap.size w X → X.cell? ⟨pb, pof + t, none⟩ = some (.int .i64 (p.getD t 0 : Nat))) := fun t ht X hX => by
    have h := sl_all hpv (j := t) (by rw [natsI_lenR]; exact ht) X hX
    rw [natsI_atR ht] at h
    exact h
  have HPT : Hid (∀ t, t < p.length → p.getD t 0 < n) := fun t ht => hp.lt _ (by simp [ht])
  have HKD : Hid (Calls Try.prog 42 #[] w fun e w' => e = .returned (.slice (some ⟨w.heap.size, 0, none⟩) 12 12) ∧ (∀ i, i < 12 → w'.cell? ⟨w.heap.size, i, none⟩ = some (.string (kdB (kdL.getD i (0, 0))))) ∧ Below w.heap.size w w') := kinds_any w
  have HOR : Hid (∀ X, Calls Try.prog 38 #[.int .i64 (p.length : Nat), .slice none 0 0] X fun e w' => ∃ x, e = .returned x ∧ Fr X.heap.size 26 3 w' x (ords p.length p.length []) ∧ Below X.heap.size X w') := fun X =>
    ordD_any p.length (by omega) p.length (by omega) [] _ X ⟨fun z hz => by simp at hz, by simp⟩ (by simp) (Sl.nil _ _ _)
  have HPI : Hid (∀ X i, i < 12 → Calls Try.prog 43 #[.string (kdB (kdL.getD i (0, 0)))] X fun e w' => ∃ x g c, e = .returned x ∧ OM X.heap.size g c (rkP (kdL.getD i (0, 0))) (rkP (kdL.getD i (0, 0))) w' x (pcL (kdL.getD i (0, 0))) ∧ Below X.heap.size X w') := fun X i hi => piece_any _ X (kd_mem hi)
  have HOL : Hid ((ords p.length p.length []).length ≤ 1296) := by
    have := ords_len (n := p.length) (by omega) p.length []
    have h2 : 6 ^ p.length ≤ 6 ^ 4 := Nat.pow_le_pow_right (by decide) (by omega)
    show _ ≤ _
    omega
  have HON : Hid ((ords p.length p.length []) ≠ []) := by
    have := ords_ne (n := p.length) p.length [] ⟨fun z hz => by simp at hz, by simp⟩ (by simp)
    exact this
  rw [HCL.out]
  rw [natsI_lenR]
  clear hm hlc hc hp hpv hen HEN
  go_enter Try.func23, Try.ntmps23
  go_wp2_with fail
  refine HKD.out.mono ?_
  rintro e w1 ⟨rfl, hk1, hb1⟩
  obtain ⟨kb, hkb⟩ : ∃ kb, kb = w.heap.size := ⟨_, rfl⟩
  rw [← hkb] at hk1
  rw [← hkb]
  have HK1 : Hid (∀ X, Below w1.heap.size w1 X → ∀ i, i < 12 → X.cell? ⟨kb, i, none⟩ = some (.string (kdB (kdL.getD i (0, 0))))) := fun X hX i hi => (hX.cell (lt_of_cell (hk1 i hi))).trans (hk1 i hi)
  have HB1 : Hid (Below w.heap.size w w1) := hb1
  have HO1 := HOR.out w1
  clear hk1 hb1 HKD HOR hkb
  go_wp2_with fail
  refine HO1.mono ?_
  rintro e w2 ⟨ov, rfl, hfo, hb2⟩
  obtain ⟨os, hos⟩ : ∃ os, os = ords p.length p.length [] := ⟨_, rfl⟩
  have HOE : Hid (os = ords p.length p.length []) := hos
  have HOG : Hid (∀ k, k < os.length → (os.getD k []).length = p.length ∧ ∀ x, x < p.length → 0 ≤ (os.getD k []).getD x 0 ∧ (os.getD k []).getD x 0 < p.length) := fun k hk => by
    rw [hos] at hk ⊢
    exact ords_get hk
  rw [← hos] at hfo HOL HON
  have hol := HOL.out
  obtain ⟨ob, oo, oc, hov⟩ : ∃ ob oo oc, ov = .slice (some ⟨ob, oo, none⟩) os.length oc := by
    have hm2 := fr_matRp hfo
    obtain ⟨b1, o1, c1, r1, h, _, _, _⟩ := mat_cell hm2 (k := 0) (by
      cases h : os with
      | nil => exact absurd h HON.out
      | cons => simp)
    exact ⟨b1, o1, c1, h⟩
  subst hov
  have HMO : Hid (Mat 0 26 3 w2 (.slice (some ⟨ob, oo, none⟩) os.length oc) os) := fr_matRp hfo
  have HB12 : Hid (Below w1.heap.size w1 w2) := hb2
  have HB2 : Hid (Below w.heap.size w w2) := HB1.out.trans (hb2.mono HB1.out.size)
  clear hfo hb2 hos HO1 HON
  go_wp2
  go_loopw [7, 8, 9, 10, 11, 12] (fun iv _ _ _ _ _ wr => ∃ i : Nat, i ≤ 12 ∧ iv = .int .i64 i ∧ (∀ t, t < i → kpB c p (kdL.getD t (0, 0)) = false) ∧ Below w2.heap.size w2 wr) (fun iv _ _ _ _ _ _ => 12 - (intOf iv).toNat)
  case atStart => exact ⟨0, Nat.zero_le _, rfl, fun t ht => by omega, Below.refl _ _⟩
  case round =>
    obtain ⟨i, hi, rfl, hno, hbel⟩ := hrel
    have HNO : Hid (∀ t, t < i → kpB c p (kdL.getD t (0, 0)) = false) := hno
    have HB : Hid (Below w2.heap.size w2 wr) := hbel
    clear hno hbel
    have iI0 : (0 : Int) ≤ (i : Int) := by omega
    by_cases hlt : i < 12
    · have iI : (i : Int) < 12 := by omega
      have ck := HK1.out wr (HB12.out.trans (HB.out.mono HB12.out.size)) i hlt
      have HPP := HPI.out wr i hlt
      have HCK : Hid (∀ X, Below w1.heap.size w1 X → X.cell? ⟨kb, i, none⟩ = some (.string (kdB (kdL.getD i (0, 0))))) := fun X hX => HK1.out X hX i hlt
      have HQ : Hid (kpS c p = kdB (kdL.getD i (0, 0)) ∨ kpB c p (kdL.getD i (0, 0)) = false) := by
        cases h : kpB c p (kdL.getD i (0, 0)) with
        | false => exact .inr rfl
        | true =>
          refine .inl ?_
          unfold kpS
          rw [find_kd hlt HNO.out h]
      have HKB : Hid (kpB c p (kdL.getD i (0, 0)) = ((pcL (kdL.getD i (0, 0))).length == p.length && os.any (kpM c p (kdL.getD i (0, 0))))) := by
        show _ = _
        rw [HOE.out]; rfl
      have HKM : Hid (∀ o, kpM c p (kdL.getD i (0, 0)) o = (List.range (pcL (kdL.getD i (0, 0))).length).all fun x => (List.range (pcL (kdL.getD i (0, 0))).length).all fun y => cE c (p.getD (o.getD x 0).toNat 0) (p.getD (o.getD y 0).toNat 0) == cE (pcL (kdL.getD i (0, 0))) x y) := fun o => rfl
      have HNN : Hid (kpB c p (kdL.getD i (0, 0)) = false → ∀ t, t < i + 1 → kpB c p (kdL.getD t (0, 0)) = false) := fun h t ht => by
        by_cases e : t = i
        · rw [e]; exact h
        · exact HNO.out t (by omega)
      generalize kpB c p (kdL.getD i (0, 0)) = kb1 at *
      generalize kpM c p (kdL.getD i (0, 0)) = km at *
      generalize kdL.getD i (0, 0) = q at *
      go_wp2_with fail
      refine HPP.mono ?_
      rintro e w3 ⟨mv, g, cc, rfl, hom, hb3⟩
      have HKN : Hid ((pcL q).length = rkP q) := hom.num
      have HRL : Hid (∀ x, x < rkP q → ((pcL q).getD x []).length = rkP q) := hom.len
      have HMT : Hid (Mat 0 26 3 w3 mv (pcL q)) := hom.mat0
      have HB3 : Hid (Below w2.heap.size w2 w3) := HB.out.trans (hb3.mono HB.out.size)
      obtain ⟨mo, mc, hmv⟩ : ∃ mo mc, mv = .slice mo (rkP q) mc := owns_form hom.out
      subst hmv
      obtain ⟨K, hK⟩ : ∃ K, K = rkP q := ⟨_, rfl⟩
      rw [← hK] at HKN HRL HMT
      rw [← hK]
      rw [HKN.out] at HKM HKB
      have ck3 := HCK.out w3 (HB12.out.trans (HB3.out.mono HB12.out.size))
      clear hom hb3 HPP ck hK
      by_cases hkp : K = p.length
      · have HKB2 : Hid (kb1 = os.any km) := by
          show _ = _
          rw [HKB.out, hkp]; simp
        have hpp : ((K : Int) != (p.length : Int)) = false := by simp [hkp]
        have hK0 : 0 < K := by omega
        obtain ⟨mb, mof, hmo⟩ : ∃ mb mof, mo = some ⟨mb, mof, none⟩ := by
          obtain ⟨b1, o1, c1, r1, h, _, _, _⟩ := mat_cell HMT.out (k := 0) (by rw [HKN.out]; exact hK0)
          simp only [Value.slice.injEq] at h
          exact ⟨b1, o1, h.1⟩
        subst hmo
        have HMC : Hid (∀ x, x < K → ∃ b3 o3 c3, ∀ X, Below w3.heap.size w3 X → X.cell? ⟨mb, mof + x, none⟩ = some (.slice (some ⟨b3, o3, none⟩) K c3) ∧ ∀ j, j < K → X.cell? ⟨b3, o3 + j, none⟩ = some (.int .i64 (cE (pcL q) x j))) := fun x hx => by
          have h := mat_all HMT.out (k := x) (by rw [HKN.out]; exact hx) (by rw [HRL.out x hx]; exact hK0)
          rw [HRL.out x hx] at h
          exact h
        have HOC : Hid (∀ k, k < os.length → ∃ b3 o3 c3, ∀ X, Below w2.heap.size w2 X → X.cell? ⟨ob, oo + k, none⟩ = some (.slice (some ⟨b3, o3, none⟩) K c3) ∧ ∀ j, j < K → X.cell? ⟨b3, o3 + j, none⟩ = some (.int .i64 ((os.getD k []).getD j 0))) := fun k hk => by
          have e := (HOG.out k hk).1
          have h := mat_all HMO.out (k := k) hk (by rw [e]; exact hp0)
          rw [e, ← hkp] at h
          exact h
        have HQ2 : Hid (kb1 = true → kpS c p = kdB q) := fun h => by
          rcases HQ.out with h2 | h2
          · exact h2
          · rw [h] at h2; cases h2
        clear HQ HKB HMT
        go_wp2
        go_loopw [9, 10, 11, 12] (fun kv _ _ _ wq => ∃ k : Nat, k ≤ os.length ∧ kv = .int .i64 k ∧ (∀ t, t < k → km (os.getD t []) = false) ∧ Below w3.heap.size w3 wq) (fun kv _ _ _ _ => os.length - (intOf kv).toNat)
        case atStart => exact ⟨0, Nat.zero_le _, rfl, fun t ht => by omega, Below.refl _ _⟩
        case round =>
          obtain ⟨k, hk, rfl, hkn, hbel⟩ := hrel
          have HKZ : Hid (∀ t, t < k → km (os.getD t []) = false) := hkn
          have HBK : Hid (Below w3.heap.size w3 wr) := hbel
          clear hkn hbel
          have kI0 : (0 : Int) ≤ (k : Int) := by omega
          by_cases hlk : k < os.length
          · have kI : (k : Int) < (os.length : Int) := by omega
            obtain ⟨rb, ro, rc, hrc⟩ := HOC.out k hlk
            have HRC : Hid (∀ X, Below w2.heap.size w2 X → X.cell? ⟨ob, oo + k, none⟩ = some (.slice (some ⟨rb, ro, none⟩) K rc) ∧ ∀ j, j < K → X.cell? ⟨rb, ro + j, none⟩ = some (.int .i64 ((os.getD k []).getD j 0))) := hrc
            have HOB : Hid (∀ x, x < K → 0 ≤ (os.getD k []).getD x 0 ∧ (os.getD k []).getD x 0 < p.length) := fun x hx => (HOG.out k hlk).2 x (by omega)
            have HKO := HKM.out (os.getD k [])
            have HKX : Hid (km (os.getD k []) = (List.range K).all fun x => (List.range K).all fun y => cE c (p.getD ((os.getD k []).getD x 0).toNat 0) (p.getD ((os.getD k []).getD y 0).toNat 0) == cE (pcL q) x y) := HKO
            have HKF : Hid (km (os.getD k []) = false → ∀ t, t < k + 1 → km (os.getD t []) = false) := fun h t ht => by
              by_cases e : t = k
              · rw [e]; exact h
              · exact HKZ.out t (by omega)
            have HKT : Hid (km (os.getD k []) = true → kb1 = true) := fun h => by
              rw [HKB2.out, List.any_eq_true]
              exact ⟨_, by simp [hlk], h⟩
            clear hrc HKO
            generalize os.getD k [] = od at *
            obtain ⟨fy, hfy⟩ : ∃ fy : Nat → Nat → Bool, fy = fun x y => cE c (p.getD (od.getD x 0).toNat 0) (p.getD (od.getD y 0).toNat 0) == cE (pcL q) x y := ⟨_, rfl⟩
            have HFY : Hid (∀ x y, fy x y = (cE c (p.getD (od.getD x 0).toNat 0) (p.getD (od.getD y 0).toNat 0) == cE (pcL q) x y)) := fun x y => by rw [hfy]
            have HKX2 : Hid (km od = (List.range K).all fun x => (List.range K).all (fy x)) := by rw [hfy]; exact HKX.out
            clear hfy HKX
            go_wp2
            go_loopw [10, 11, 12] (fun gv xv _ wq => ∃ x : Nat, x ≤ K ∧ xv = .int .i64 x ∧ gv = .bool ((List.range x).all fun x => (List.range K).all (fy x)) ∧ Below w3.heap.size w3 wq) (fun _ xv _ _ => K - (intOf xv).toNat)
            case atStart => exact ⟨0, Nat.zero_le _, rfl, rfl, HBK.out⟩
            case round =>
              obtain ⟨x, hx, rfl, rfl, hbel⟩ := hrel
              have HBX : Hid (Below w3.heap.size w3 wr) := hbel
              clear hbel HBK
              have xI0 : (0 : Int) ≤ (x : Int) := by omega
              by_cases hlx : x < K
              · have xI : (x : Int) < (K : Int) := by omega
                have HGA : Hid (((List.range (x + 1)).all fun x => (List.range K).all (fy x)) = (((List.range x).all fun x => (List.range K).all (fy x)) && (List.range K).all (fy x))) := all_succ _ _
                have HGS : Hid (∀ y, (((List.range x).all fun x => (List.range K).all (fy x)) && (List.range (y + 1)).all (fy x)) = ((((List.range x).all fun x => (List.range K).all (fy x)) && (List.range y).all (fy x)) && fy x y)) := fun y => by
                  show _ = _
                  rw [all_succ, Bool.and_assoc]
                have HG0 : Hid ((((List.range x).all fun x => (List.range K).all (fy x)) && (List.range 0).all (fy x)) = ((List.range x).all fun x => (List.range K).all (fy x))) := by
                  show _ = _
                  simp
                generalize ((List.range x).all fun x => (List.range K).all (fy x)) = gx at *
                go_wp2
                go_loopw [10, 12] (fun gv yv wq => ∃ y : Nat, y ≤ K ∧ yv = .int .i64 y ∧ gv = .bool (gx && (List.range y).all (fy x)) ∧ Below w3.heap.size w3 wq) (fun _ yv _ => K - (intOf yv).toNat)
                case atStart => exact ⟨0, Nat.zero_le _, rfl, by rw [HG0.out], HBX.out⟩
                case round =>
                  obtain ⟨y, hy, rfl, rfl, hbel⟩ := hrel
                  have HBY : Hid (Below w3.heap.size w3 wr) := hbel
                  clear hbel HBX
                  have yI0 : (0 : Int) ≤ (y : Int) := by omega
                  by_cases hly : y < K
                  · have yI : (y : Int) < (K : Int) := by omega
                    have hgs := HGS.out y
                    obtain ⟨G, hG⟩ : ∃ G, G = (gx && (List.range y).all (fy x)) := ⟨_, rfl⟩
                    rw [← hG] at hgs
                    rw [← hG]
                    have HGN : Hid ((gx && (List.range (y + 1)).all (fy x)) = (G && (cE c (p.getD (od.getD x 0).toNat 0) (p.getD (od.getD y 0).toNat 0) == cE (pcL q) x y))) := by
                      show _ = _
                      rw [hgs, HFY.out]
                    clear hgs hG
                    cases G with
                    | false =>
                      have HGF : Hid ((gx && (List.range (y + 1)).all (fy x)) = false) := HGN.out
                      clear HGN
                      go_wp2
                      go_big_quiet (fail)
                      go_wp2
                      exact ⟨⟨y + 1, by omega, by go_num, by rw [HGF.out], below_drewN HBY.out _⟩, by simp [intOf]; omega⟩
                    | true =>
                      have HBW2 : Hid (Below w2.heap.size w2 wr) := HB3.out.trans (HBY.out.mono HB3.out.size)
                      have HBW : Hid (Below w.heap.size w wr) := HB2.out.trans (HBW2.out.mono HB2.out.size)
                      obtain ⟨ox0, ox1⟩ := HOB.out x hlx
                      obtain ⟨oy0, oy1⟩ := HOB.out y hly
                      obtain ⟨r0, r1⟩ := HRC.out wr HBW2.out
                      have rx := r1 x hlx
                      have ry := r1 y hly
                      obtain ⟨ux, hux⟩ : ∃ ux : Nat, (ux : Int) = od.getD x 0 := ⟨(od.getD x 0).toNat, by omega⟩
                      obtain ⟨uy, huy⟩ : ∃ uy : Nat, (uy : Int) = od.getD y 0 := ⟨(od.getD y 0).toNat, by omega⟩
                      rw [← hux] at rx ox0 ox1 HGN
                      rw [← huy] at ry oy0 oy1 HGN
                      rw [Int.toNat_natCast, Int.toNat_natCast] at HGN
                      have hux2 : ux < p.length := by omega
                      have huy2 : uy < p.length := by omega
                      have cpx := HPC.out ux hux2 wr HBW.out
                      have cpy := HPC.out uy huy2 wr HBW.out
                      have hpx := HPT.out ux hux2
                      have hpy := HPT.out uy huy2
                      generalize p.getD ux 0 = px at *
                      generalize p.getD uy 0 = py at *
                      obtain ⟨bx, ox, cx, hrx⟩ := HXC.out px hpx
                      obtain ⟨x0, x1'⟩ := hrx wr HBW.out
                      have x1 := x1' py hpy
                      obtain ⟨my, moy, mcy, hmy⟩ := HMC.out x hlx
                      obtain ⟨y0, y1'⟩ := hmy wr HBY.out
                      have y1 := y1' y hly
                      generalize cE c px py = E1 at *
                      generalize cE (pcL q) x y = E2 at *
                      have pyI : (py : Int) < (n : Int) := by omega
                      have pxI : (px : Int) < (n : Int) := by omega
                      have pyI0 : (0 : Int) ≤ (py : Int) := by omega
                      have pxI0 : (0 : Int) ≤ (px : Int) := by omega
                      clear x1' hrx r1 y1' hmy hux huy
                      go_wp2
                      go_big_quiet (fail)
                      go_wp2
                      exact ⟨⟨y + 1, by omega, by go_num, by rw [HGN.out]; rfl, below_drewN HBY.out _⟩, by simp [intOf]; omega⟩
                  · have hye : y = K := by omega
                    subst hye
                    have hly2 : ¬ (y : Int) < (y : Int) := by omega
                    clear hly hy
                    go_wp2
                    exact ⟨⟨x + 1, by omega, by go_num, by rw [HGA.out], HBY.out⟩, by simp [intOf]; omega⟩
              · have hxe : x = K := by omega
                subst hxe
                have hlx2 : ¬ (x : Int) < (x : Int) := by omega
                clear hlx hx
                have HBW2 : Hid (Below w2.heap.size w2 wr) := HB3.out.trans (HBX.out.mono HB3.out.size)
                have HBW : Hid (Below w.heap.size w wr) := HB2.out.trans (HBW2.out.mono HB2.out.size)
                have ck4 := HCK.out wr (HB12.out.trans (HBW2.out.mono HB12.out.size))
                rw [← HKX2.out]
                cases hkm : km od with
                | true =>
                  have HF : Hid (kpS c p = kdB q) := HQ2.out (HKT.out hkm)
                  clear hkm
                  go_wp2
                  go_ret
                  exact ⟨by rw [HF.out] <;> rfl, HBW.out⟩
                | false =>
                  have HF : Hid (∀ t, t < k + 1 → km (os.getD t []) = false) := HKF.out hkm
                  clear hkm
                  go_wp2
                  exact ⟨⟨k + 1, by omega, by go_num, HF.out, HBX.out⟩, by simp [intOf]; omega⟩
          · have hke : k = os.length := by omega
            subst hke
            have hlk2 : ¬ (os.length : Int) < (os.length : Int) := by omega
            have HF : Hid (∀ t, t < i + 1 → kpB c p (kdL.getD t (0, 0)) = false) := HNN.out (by
              rw [HKB2.out, List.any_eq_false]
              intro x hx
              obtain ⟨j, hj, rfl⟩ := List.mem_iff_getElem.1 hx
              have := HKZ.out j hj
              rw [List.getD_eq_getElem?_getD, List.getElem?_eq_getElem hj] at this
              simpa using this)
            have HBW2 : Hid (Below w2.heap.size w2 wr) := HB3.out.trans (HBK.out.mono HB3.out.size)
            clear hlk hk
            go_wp2
            exact ⟨⟨i + 1, by omega, by go_num, HF.out, HBW2.out⟩, by simp [intOf]; omega⟩
      · have HKB2 : Hid (kb1 = false) := by
          show _ = _
          rw [HKB.out, beq_eq_false_iff_ne.2 hkp]; rfl
        have HF : Hid (∀ t, t < i + 1 → kpB c p (kdL.getD t (0, 0)) = false) := HNN.out HKB2.out
        have hpp : ((K : Int) != (p.length : Int)) = true := by
          rw [bne_iff_ne]; omega
        clear hkp
        go_wp2
        exact ⟨⟨i + 1, by omega, by go_num, HF.out, HB3.out⟩, by simp [intOf]; omega⟩
    · have hie : i = 12 := by omega
      subst hie
      have HE : Hid (kpS c p = ⟨#[]⟩) := by
        show _ = _
        unfold kpS
        rw [find_kd0 HNO.out]
      clear hlt hi
      go_wp2
      go_ret
      exact ⟨by rw [HE.out] <;> rfl, HB2.out.trans (HB.out.mono HB2.out.size)⟩

end Go.Proofs.Ytkgljfnbaoncbaa
