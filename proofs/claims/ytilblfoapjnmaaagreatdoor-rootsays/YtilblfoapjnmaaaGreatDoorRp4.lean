/- root.measure: the walk. -/
import Derived.Test.YtilblfoapjnmaaaGreatDoorMgAJ
import Derived.BigRegion
namespace Go.Proofs.YtilblfoapjnmaaaGreatDoor
open Go.RowKit
attribute [local go_sem ↓] Go.wp_at_zero Go.wp_at_succ

/-- One pair: a length told by another one. -/
def meS (c : List (List Int)) (i j : Nat) (s : List Int × Int) : List Int × Int :=
  if (!(cE c i j == 0) && s.1.getD j 0 == 0) = true then (s.1.set j ((s.1.getD i 0 * cE c j i).tdiv (cE c i j)), min s.2 ((s.1.getD i 0 * cE c j i).tdiv (cE c i j))) else s

def meI (c : List (List Int)) (p : List Nat) (i : Nat) : Nat → List Int × Int → List Int × Int
  | 0, s => s
  | t + 1, s => meS c i (p.getD t 0) (meI c p i t s)

def meO (c : List (List Int)) (p : List Nat) : Nat → List Int × Int → List Int × Int
  | 0, s => s
  | t + 1, s => meI c p (p.getD t 0) p.length (meO c p t s)

/-- All of a part's lengths, by the least. -/
def meD (p : List Nat) (m : Int) : Nat → List Int → List Int
  | 0, L => L
  | t + 1, L => (meD p m t L).set (p.getD t 0) (((meD p m t L).getD (p.getD t 0) 0).tdiv m)

/-- What measure has before it divides. -/
def meA (c : List (List Int)) (p : List Nat) (L : List Int) : List Int × Int := meO c p p.length (L.set (p.getD 0 0) 6, 6)

def meR (c : List (List Int)) (p : List Nat) (L : List Int) : List Int := meD p (meA c p L).2 p.length (meA c p L).1

/-- Numbers of such a size. -/
structure MeB (n t : Nat) (s : List Int × Int) : Prop where
  len : s.1.length = n
  bd : ∀ k, (s.1.getD k 0).natAbs ≤ 1000 * 3 ^ t
  lb : s.2.natAbs ≤ 1000 * 3 ^ t

theorem getD_setN {L : List Int} {j k : Nat} {z : Int} : (L.set j z).getD k 0 = if k = j ∧ j < L.length then z else L.getD k 0 := by
  simp only [List.getD_eq_getElem?_getD, List.getElem?_set]
  by_cases e : j = k
  · subst e
    by_cases h : j < L.length
    · simp [h]
    · simp [h]
  · rw [if_neg e, if_neg (fun h => e h.1.symm)]

theorem meS_ok {n t i j : Nat} {c : List (List Int)} {s : List Int × Int} (hc : Sqc n c) (h : MeB n t s) : MeB n (t + 1) (meS c i j s) := by
  have h3 : 1000 * 3 ^ (t + 1) = 3 * (1000 * 3 ^ t) := by rw [Nat.pow_succ]; omega
  unfold meS
  split
  · have hz : ((s.1.getD i 0 * cE c j i).tdiv (cE c i j)).natAbs ≤ 1000 * 3 ^ (t + 1) := by
      rw [Int.natAbs_tdiv, Int.natAbs_mul, h3]
      refine Nat.le_trans (Nat.div_le_self _ _) ?_
      have h1 := h.bd i
      have h2 : (cE c j i).natAbs ≤ 3 := by have := hc.ent j i; omega
      rw [Nat.mul_comm 3]
      exact Nat.mul_le_mul h1 h2
    generalize (s.1.getD i 0 * cE c j i).tdiv (cE c i j) = z at hz
    refine ⟨by simp [h.len], fun k => ?_, ?_⟩
    · show ((s.1.set j z).getD k 0).natAbs ≤ _
      rw [getD_setN]
      split
      · exact hz
      · have := h.bd k; omega
    · show (min s.2 z).natAbs ≤ _
      have := h.lb
      omega
  · exact ⟨h.len, fun k => by have := h.bd k; omega, by have := h.lb; omega⟩

theorem MeB.more {n t t' : Nat} {s : List Int × Int} (h : MeB n t s) (ht : t ≤ t') : MeB n t' s := by
  have h3 : 1000 * 3 ^ t ≤ 1000 * 3 ^ t' := Nat.mul_le_mul_left _ (Nat.pow_le_pow_right (by decide) ht)
  exact ⟨h.len, fun k => Nat.le_trans (h.bd k) h3, Nat.le_trans h.lb h3⟩

theorem meI_ok {n i : Nat} {p : List Nat} {c : List (List Int)} (hc : Sqc n c) : ∀ {b t : Nat} {s : List Int × Int}, MeB n t s → MeB n (t + b) (meI c p i b s)
  | 0, _, _, h => h
  | b + 1, _, _, h => meS_ok hc (meI_ok hc (b := b) h)

theorem meO_ok {n : Nat} {p : List Nat} {c : List (List Int)} (hc : Sqc n c) (hp : p.length ≤ 4) : ∀ {a : Nat} {s : List Int × Int}, MeB n 0 s → MeB n (4 * a) (meO c p a s)
  | 0, _, h => h
  | a + 1, _, h => (meI_ok hc (b := p.length) (meO_ok hc hp (a := a) h)).more (by omega)

theorem MeB.max {n t : Nat} {s : List Int × Int} (h : MeB n t s) (ht : t ≤ 16) : (∀ k, (s.1.getD k 0).natAbs ≤ 100000000000) ∧ s.2.natAbs ≤ 100000000000 := by
  have h3 : 1000 * 3 ^ t ≤ 1000 * 3 ^ 16 := Nat.mul_le_mul_left _ (Nat.pow_le_pow_right (by decide) ht)
  have h4 : 1000 * 3 ^ 16 ≤ 100000000000 := by decide
  exact ⟨fun k => Nat.le_trans (h.bd k) (by omega), Nat.le_trans h.lb (by omega)⟩

theorem meD_len (p : List Nat) (m : Int) : ∀ (t : Nat) (L : List Int), (meD p m t L).length = L.length
  | 0, _ => rfl
  | t + 1, L => by
    show ((meD p m t L).set _ _).length = _
    rw [List.length_set, meD_len p m t L]

theorem meD_bd {p : List Nat} {m : Int} {M : Nat} : ∀ {t : Nat} {L : List Int}, (∀ k, (L.getD k 0).natAbs ≤ M) → ∀ k, ((meD p m t L).getD k 0).natAbs ≤ M
  | 0, _, h, k => h k
  | t + 1, L, h, k => by
    have ih := meD_bd (p := p) (m := m) (t := t) h
    show (((meD p m t L).set _ _).getD k 0).natAbs ≤ M
    rw [getD_setN]
    split
    · rw [Int.natAbs_tdiv]
      exact Nat.le_trans (Nat.div_le_self _ _) (ih _)
    · exact ih k

set_option maxRecDepth 100000 in
set_option maxHeartbeats 1600000 in
theorem measure_any (n g : Nat) (c : List (List Int)) (p : List Nat) (L : List Int) (ao po : Option Addr) (cap pc : Nat) (w : World) (hc : Sqc n c) (hp : PaW n p) (hp0 : 0 < p.length) (hL : L.length = n) (hLb : ∀ k, (L.getD k 0).natAbs ≤ 1000)
    (hm0 : (meA c p L).2 ≠ 0)
    (hen : ∃ b o, ao = some ⟨b, o, none⟩ ∧ ∀ x, x < n → ∃ b3 o3 cp3, ∀ X, Only g w X → X.cell? ⟨b, o + x, none⟩ = some (.slice (some ⟨b3, o3, none⟩) n cp3) ∧ ∀ j, j < n → X.cell? ⟨b3, o3 + j, none⟩ = some (.int .i64 (cE c x j)))
    (hpn : ∃ b o, po = some ⟨b, o, none⟩ ∧ ∀ X, Only g w X → ∀ t, t < p.length → X.cell? ⟨b, o + t, none⟩ = some (.int .i64 (p.getD t 0 : Nat)))
    (hrow : w.rowIs g 3 n (fun k => .int .i64 (L.getD k 0))) :
    Calls Tryz.prog 36 #[.slice ao n cap, .slice po p.length pc, .slice (some ⟨g, 0, none⟩) n n] w fun e w' => e = .returned (.tuple #[]) ∧ w'.rowIs g 3 n (fun k => .int .i64 ((meR c p L).getD k 0)) ∧ Only g w w' := by
  obtain ⟨pb, pof, rfl, hpc⟩ := hpn
  have hpl := hp.len
  have hn4 := hc.n4
  have hx0 : p.getD 0 0 < n := hp.lt _ (by simp [hp0])
  obtain ⟨b, o, rfl, hen⟩ := hen
  have HEN : Hid (∀ x, x < n → ∃ b3 o3 cp3, ∀ X, Only g w X → X.cell? ⟨b, o + x, none⟩ = some (.slice (some ⟨b3, o3, none⟩) n cp3) ∧ ∀ j, j < n → X.cell? ⟨b3, o3 + j, none⟩ = some (.int .i64 (cE c x j))) := hen
  have HPC : Hid (∀ X, Only g w X → ∀ t, t < p.length → X.cell? ⟨pb, pof + t, none⟩ = some (.int .i64 (p.getD t 0 : Nat))) := hpc
  have HPT : Hid (∀ t, t < p.length → p.getD t 0 < n) := fun t ht => hp.lt _ (by simp [ht])
  have HM0 : Hid ((meA c p L).2 ≠ 0) := hm0
  have hB0 : MeB n 0 (L.set (p.getD 0 0) 6, (6 : Int)) := ⟨by simp [hL], fun k => by
    show ((L.set _ 6).getD k 0).natAbs ≤ _
    rw [getD_setN]
    split
    · show (6 : Int).natAbs ≤ _; decide
    · have := hLb k; omega, by show (6 : Int).natAbs ≤ _; decide⟩
  have HMO : Hid (∀ a, a ≤ p.length → MeB n (4 * a) (meO c p a (L.set (p.getD 0 0) 6, 6))) := fun a ha => meO_ok hc (by omega) hB0
  have HMI : Hid (∀ a b i, a < p.length → b ≤ p.length → MeB n (4 * a + b) (meI c p i b (meO c p a (L.set (p.getD 0 0) 6, 6)))) := fun a b i ha hb => meI_ok hc (meO_ok hc (by omega) hB0)
  have HCE : Hid (∀ i j, -3 ≤ cE c i j ∧ cE c i j ≤ 3) := hc.ent
  have hcp0 := hpc w (Only.refl _ _) 0 hp0
  have HR0 : Hid (w.rowIs g 3 n (fun k => .int .i64 (L.getD k 0))) := hrow
  have hrx := hrow.cell hx0
  have hfx := hrow.frozen (p.getD 0 0)
  have HLN : Hid (L.length = n) := hL
  obtain ⟨x0, hxe⟩ : ∃ x0, x0 = p.getD 0 0 := ⟨_, rfl⟩
  have HX0 : Hid (x0 = p.getD 0 0) := hxe
  have HR1 : Hid ((w.setCell ⟨g, x0, none⟩ (.int .i64 6)).rowIs g 3 n (fun k => .int .i64 (((L.set (p.getD 0 0) 6).getD k 0)))) := by
    rw [hxe]
    exact (hrow.set _ (.int .i64 6)).congr fun k hk => by
      rw [getD_setN, HLN.out]
      by_cases e : k = p.getD 0 0
      · rw [if_pos e, if_pos ⟨e, hx0⟩]
      · rw [if_neg e, if_neg (fun h => e h.1)]
  rw [← hxe] at hcp0 hrx hfx hx0
  simp only [Nat.add_zero] at hcp0
  have xI : (x0 : Int) < (n : Int) := by omega
  have xI0 : (0 : Int) ≤ (x0 : Int) := by omega
  have pI : (0 : Int) < (p.length : Int) := by omega
  clear hc hp hen hpc hL hLb hm0 hrow hB0 hxe
  go_enter Tryz.func36, Tryz.ntmps36
  go_wp2
  clear hcp0 hrx hfx
  have HS0 : Hid (∃ s0 : List Int × Int, s0 = (L.set (p.getD 0 0) 6, 6)) := ⟨_, rfl⟩
  obtain ⟨s0, hs0⟩ := HS0.out
  rw [← hs0] at HMO HMI
  have HR2 : Hid ((w.setCell ⟨g, x0, none⟩ (.int .i64 6)).rowIs g 3 n (fun k => .int .i64 (s0.1.getD k 0))) := by rw [hs0]; exact HR1.out
  have HS2 : Hid (s0.2 = 6) := by rw [hs0]; rfl
  have HON0 : Hid (Only g w (w.setCell ⟨g, x0, none⟩ (.int .i64 6))) := (Only.refl _ _).set _ _
  have HMA : Hid (meA c p L = meO c p p.length s0) := by rw [hs0]; rfl
  clear HR1 hs0 HX0
  go_loopw [6, 8, 10, 21] (fun mv _ _ av wr => ∃ a : Nat, a ≤ p.length ∧ av = .int .i64 a ∧ mv = .int .i64 (meO c p a s0).2 ∧ wr.rowIs g 3 n (fun k => .int .i64 ((meO c p a s0).1.getD k 0)) ∧ Only g w wr) (fun _ _ _ av _ => p.length - (intOf av).toNat)
  case atStart => exact ⟨0, Nat.zero_le _, rfl, by show _ = Value.int .i64 s0.2; rw [HS2.out], HR2.out, HON0.out⟩
  case round =>
    obtain ⟨a, ha, rfl, rfl, hrw, hon⟩ := hrel
    have HRW : Hid (wr.rowIs g 3 n (fun k => .int .i64 ((meO c p a s0).1.getD k 0))) := hrw
    have HON : Hid (Only g w wr) := hon
    clear hrw hon HR2 HS2 HON0
    have aI0 : (0 : Int) ≤ (a : Int) := by omega
    by_cases hla : a < p.length
    · have aI : (a : Int) < (p.length : Int) := by omega
      have hpa := HPC.out wr HON.out a hla
      have hin := HPT.out a hla
      have HSU : Hid (meO c p (a + 1) s0 = meI c p (p.getD a 0) p.length (meO c p a s0)) := rfl
      have HMB : Hid (∀ t, t ≤ p.length → MeB n (4 * a + t) (meI c p (p.getD a 0) t (meO c p a s0))) := fun t ht => HMI.out a t _ hla ht
      have HLA : Hid (a < p.length) := hla
      generalize p.getD a 0 = i at *
      obtain ⟨sa, hsa⟩ : ∃ sa, sa = meO c p a s0 := ⟨_, rfl⟩
      rw [← hsa] at HSU HMB HRW
      rw [← hsa]
      clear hsa
      have iI : (i : Int) < (n : Int) := by omega
      have iI0 : (0 : Int) ≤ (i : Int) := by omega
      go_wp2
      clear hpa
      go_loopw [6, 10, 27] (fun mv _ tv wq => ∃ t : Nat, t ≤ p.length ∧ tv = .int .i64 t ∧ mv = .int .i64 (meI c p i t sa).2 ∧ wq.rowIs g 3 n (fun k => .int .i64 ((meI c p i t sa).1.getD k 0)) ∧ Only g w wq) (fun _ _ tv _ => p.length - (intOf tv).toNat)
      case atStart => exact ⟨0, Nat.zero_le _, rfl, rfl, HRW.out, HON.out⟩
      case round =>
        obtain ⟨t, ht, rfl, rfl, hrw, hon⟩ := hrel
        have HRQ : Hid (wr.rowIs g 3 n (fun k => .int .i64 ((meI c p i t sa).1.getD k 0))) := hrw
        have HOQ : Hid (Only g w wr) := hon
        clear hrw hon HRW HON
        have tI0 : (0 : Int) ≤ (t : Int) := by omega
        by_cases hlt : t < p.length
        · have tI : (t : Int) < (p.length : Int) := by omega
          have hpt := HPC.out wr HOQ.out t hlt
          have hjn := HPT.out t hlt
          have HSS : Hid (meI c p i (t + 1) sa = meS c i (p.getD t 0) (meI c p i t sa)) := rfl
          have hmb := HMB.out t (by omega)
          generalize p.getD t 0 = j at *
          generalize meI c p i t sa = s at *
          obtain ⟨hb1, hb2⟩ := hmb.max (by omega)
          have HBX : Hid ((s.1.getD i 0).natAbs ≤ 100000000000) := hb1 i
          have HSL : Hid (s.1.length = n) := hmb.len
          have jI : (j : Int) < (n : Int) := by omega
          have jI0 : (0 : Int) ≤ (j : Int) := by omega
          obtain ⟨b3, o3, cp3, hri⟩ := HEN.out i hin
          obtain ⟨b4, o4, cp4, hrj⟩ := HEN.out j hjn
          obtain ⟨ci0, ci1'⟩ := hri wr HOQ.out
          have ci1 := ci1' j hjn
          obtain ⟨cj0, cj1'⟩ := hrj wr HOQ.out
          have cj1 := cj1' i hin
          have cx : wr.cell? ⟨g, i, none⟩ = some (.int .i64 (s.1.getD i 0)) := HRQ.out.cell hin
          have cy : wr.cell? ⟨g, j, none⟩ = some (.int .i64 (s.1.getD j 0)) := HRQ.out.cell hjn
          have fy := HRQ.out.frozen j
          have HE2 : Hid (-3 ≤ cE c j i ∧ cE c j i ≤ 3) := HCE.out j i
          have HE1 : Hid (-3 ≤ cE c i j ∧ cE c i j ≤ 3) := HCE.out i j
          unfold meS at HSS
          generalize cE c i j = E at *
          generalize cE c j i = E2 at *
          clear hmb hb1 hb2 ci1' cj1' hri hrj
          cases hv0 : (E == 0) with
          | true =>
            have HS2 : Hid (meI c p i (t + 1) sa = s) := by
              show _ = _
              rw [HSS.out, hv0]; rfl
            have v0 : E = 0 := by simpa using hv0
            subst v0
            clear hv0 HSS
            go_wp2
            exact ⟨⟨t + 1, by omega, by go_num, by rw [HS2.out], by rw [HS2.out]; exact HRQ.out, HOQ.out⟩, by simp [intOf]; omega⟩
          | false =>
            have hvn : (E != 0) = true := by simpa [bne] using hv0
            have hE0 : ¬ E = 0 := by simpa using hv0
            cases hy0 : (s.1.getD j 0 == 0) with
            | false =>
              have HS2 : Hid (meI c p i (t + 1) sa = s) := by
                show _ = _
                rw [HSS.out, hy0, Bool.and_false]; rfl
              clear HSS
              generalize s.1.getD j 0 = Y at *
              go_wp2
              exact ⟨⟨t + 1, by omega, by go_num, by rw [HS2.out], by rw [HS2.out]; exact HRQ.out, HOQ.out⟩, by simp [intOf]; omega⟩
            | true =>
              have HS2 : Hid (meI c p i (t + 1) sa = (s.1.set j ((s.1.getD i 0 * E2).tdiv E), min s.2 ((s.1.getD i 0 * E2).tdiv E))) := by
                show _ = _
                rw [HSS.out, hy0, hv0]; rfl
              have y0 : s.1.getD j 0 = 0 := by simpa using hy0
              rw [y0] at cy
              clear HSS hy0 hv0
              obtain ⟨X, hX⟩ : ∃ X, X = s.1.getD i 0 := ⟨_, rfl⟩
              rw [← hX] at cx HBX HS2
              have hbx := HBX.out
              have he2 := HE2.out
              have he1 := HE1.out
              have hmb : -300000000000 ≤ X * E2 ∧ X * E2 ≤ 300000000000 := by
                rcases (show E2 = -3 ∨ E2 = -2 ∨ E2 = -1 ∨ E2 = 0 ∨ E2 = 1 ∨ E2 = 2 ∨ E2 = 3 by omega) with rfl | rfl | rfl | rfl | rfl | rfl | rfl <;> omega
              have m1 : wrap64 (X * E2) = X * E2 := IntWalk.wrap64_in _ ⟨by omega, by omega⟩
              have hzb : ((X * E2).tdiv E).natAbs ≤ 300000000000 := by
                rw [Int.natAbs_tdiv]
                exact Nat.le_trans (Nat.div_le_self _ _) (by omega)
              have m2 : wrap64 ((X * E2).tdiv E) = (X * E2).tdiv E := IntWalk.wrap64_in _ ⟨by omega, by omega⟩
              obtain ⟨z, hz⟩ : ∃ z, z = (X * E2).tdiv E := ⟨_, rfl⟩
              obtain ⟨xe, hxe⟩ : ∃ xe, xe = X * E2 := ⟨_, rfl⟩
              rw [← hz] at HS2 m2
              rw [← hxe] at m1
              have HRZ : Hid ((wr.setCell ⟨g, j, none⟩ (.int .i64 z)).rowIs g 3 n (fun k => .int .i64 ((s.1.set j z).getD k 0))) := (HRQ.out.set j (.int .i64 z)).congr fun k hk => by
                rw [getD_setN, HSL.out]
                by_cases e : k = j
                · rw [if_pos e, if_pos ⟨e, hjn⟩]
                · rw [if_neg e, if_neg (fun h => e h.1)]
              have HOZ : Hid (Only g w (wr.setCell ⟨g, j, none⟩ (.int .i64 z))) := HOQ.out.set _ _
              have HMN : Hid ((if z < s.2 then z else s.2) = min s.2 z) := by
                show _ = _
                split <;> omega
              rw [← hxe] at hz
              have HZ : Hid (xe.tdiv E = z) := hz.symm
              have M1 : Hid (wrap64 xe = xe) := m1
              have M2 : Hid (wrap64 z = z) := m2
              clear hbx he2 he1 hmb hzb hX m1 m2
              go_wp2
              go_big_region
              go_wp2
              simp only [← hxe, M1.out, HZ.out, M2.out]
              exact ⟨⟨t + 1, by omega, by go_num, by rw [HS2.out, HMN.out], by rw [HS2.out]; exact HRZ.out.of_block rfl, HOZ.out.drew⟩, by simp [intOf]; omega⟩
        · have hte : t = p.length := by omega
          subst hte
          have hlt2 : ¬ (p.length : Int) < (p.length : Int) := by omega
          clear hlt ht
          have hla2 := HLA.out
          go_wp2
          exact ⟨⟨a + 1, by omega, by go_num, by rw [HSU.out], by rw [HSU.out]; exact HRQ.out, HOQ.out⟩, by simp [intOf]; omega⟩
    · have hae : a = p.length := by omega
      subst hae
      have hla2 : ¬ (p.length : Int) < (p.length : Int) := by omega
      clear hla ha
      obtain ⟨sa, hsa⟩ : ∃ sa, sa = meO c p p.length s0 := ⟨_, rfl⟩
      have HMA2 : Hid (meA c p L = sa) := by rw [hsa]; exact HMA.out
      have HMB2 : Hid (MeB n (4 * p.length) sa) := by rw [hsa]; exact HMO.out _ (Nat.le_refl _)
      rw [← hsa] at HRW
      rw [← hsa]
      obtain ⟨hb1, hb2⟩ := HMB2.out.max (by omega)
      have hm2 : ¬ sa.2 = 0 := by rw [← HMA2.out]; exact HM0.out
      have HDB : Hid (∀ t k, ((meD p sa.2 t sa.1).getD k 0).natAbs ≤ 100000000000) := fun t => meD_bd hb1
      have HDL : Hid (∀ t, (meD p sa.2 t sa.1).length = n) := fun t => by
        show _ = _
        rw [meD_len]; exact HMB2.out.len
      have HDR : Hid (meR c p L = meD p sa.2 p.length sa.1) := by
        show _ = _
        unfold meR
        rw [HMA2.out]
      obtain ⟨m, hm⟩ : ∃ m, m = sa.2 := ⟨_, rfl⟩
      rw [← hm] at HDB HDL HDR hm2
      rw [← hm]
      have hmm := hb2
      rw [← hm] at hmm
      clear hsa hb1 hb2 hm HMB2 HMA2 HMA HM0
      go_wp2
      go_loopw [12, 79] (fun _ tv wq => ∃ t : Nat, t ≤ p.length ∧ tv = .int .i64 t ∧ wq.rowIs g 3 n (fun k => .int .i64 ((meD p m t sa.1).getD k 0)) ∧ Only g w wq) (fun _ tv _ => p.length - (intOf tv).toNat)
      case atStart => exact ⟨0, Nat.zero_le _, rfl, HRW.out, HON.out⟩
      case round =>
        obtain ⟨t, ht, rfl, hrw, hon⟩ := hrel
        have HRQ : Hid (wr.rowIs g 3 n (fun k => .int .i64 ((meD p m t sa.1).getD k 0))) := hrw
        have HOQ : Hid (Only g w wr) := hon
        clear hrw hon HRW HON
        have tI0 : (0 : Int) ≤ (t : Int) := by omega
        by_cases hlt : t < p.length
        · have tI : (t : Int) < (p.length : Int) := by omega
          have hpt := HPC.out wr HOQ.out t hlt
          have hjn := HPT.out t hlt
          have HSS : Hid (meD p m (t + 1) sa.1 = (meD p m t sa.1).set (p.getD t 0) (((meD p m t sa.1).getD (p.getD t 0) 0).tdiv m)) := rfl
          generalize p.getD t 0 = j at *
          have hb1 := HDB.out t j
          have HSL : Hid ((meD p m t sa.1).length = n) := HDL.out t
          generalize meD p m t sa.1 = s at *
          have jI : (j : Int) < (n : Int) := by omega
          have jI0 : (0 : Int) ≤ (j : Int) := by omega
          have cy : wr.cell? ⟨g, j, none⟩ = some (.int .i64 (s.getD j 0)) := HRQ.out.cell hjn
          have fy := HRQ.out.frozen j
          obtain ⟨Y, hY⟩ : ∃ Y, Y = s.getD j 0 := ⟨_, rfl⟩
          rw [← hY] at cy hb1 HSS
          obtain ⟨z, hz⟩ : ∃ z, z = Y.tdiv m := ⟨_, rfl⟩
          have hzb : (Y.tdiv m).natAbs ≤ 100000000000 := by
            rw [Int.natAbs_tdiv]
            exact Nat.le_trans (Nat.div_le_self _ _) hb1
          rw [← hz] at hzb HSS
          have M2 : Hid (wrap64 z = z) := IntWalk.wrap64_in _ ⟨by omega, by omega⟩
          have HRZ : Hid ((wr.setCell ⟨g, j, none⟩ (.int .i64 z)).rowIs g 3 n (fun k => .int .i64 ((s.set j z).getD k 0))) := (HRQ.out.set j (.int .i64 z)).congr fun k hk => by
            rw [getD_setN, HSL.out]
            by_cases e : k = j
            · rw [if_pos e, if_pos ⟨e, hjn⟩]
            · rw [if_neg e, if_neg (fun h => e h.1)]
          have HOZ : Hid (Only g w (wr.setCell ⟨g, j, none⟩ (.int .i64 z))) := HOQ.out.set _ _
          have HZ : Hid (Y.tdiv m = z) := hz.symm
          clear hY hz hzb hb1
          go_wp2
          simp only [HZ.out, M2.out]
          exact ⟨⟨t + 1, by omega, by go_num, by rw [HSS.out]; exact HRZ.out, HOZ.out⟩, by simp [intOf]; omega⟩
        · have hte : t = p.length := by omega
          subst hte
          have hlt2 : ¬ (p.length : Int) < (p.length : Int) := by omega
          clear hlt ht
          go_wp2
          go_end0
          exact ⟨rfl, by rw [HDR.out]; exact HRQ.out, HOQ.out⟩

end Go.Proofs.YtilblfoapjnmaaaGreatDoor
