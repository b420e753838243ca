import Derived.Test.YtdbfkjnnlomklaaWzB
import Derived.Test.YtdbfkjnnlomklaaMade1
/- facetref.Kinds, pieceMay: of the twelve names. -/
namespace Go.Proofs.Ytdbfkjnnlomklaa
open Go.RowKit
attribute [local go_sem ↓] Go.wp_at_zero Go.wp_at_succ

/-- The twelve names' letters and numbers. -/
def kdL : List (UInt8 × UInt8) := [(65, 49), (65, 50), (65, 51), (65, 52), (66, 50), (66, 51), (66, 52), (67, 51), (67, 52), (68, 52), (70, 52), (71, 50)]

def kdB (p : UInt8 × UInt8) : ByteArray := ⟨#[p.1, p.2]⟩

def kdV : Array Value := #[.string ⟨#[65, 49]⟩, .string ⟨#[65, 50]⟩, .string ⟨#[65, 51]⟩, .string ⟨#[65, 52]⟩, .string ⟨#[66, 50]⟩, .string ⟨#[66, 51]⟩, .string ⟨#[66, 52]⟩, .string ⟨#[67, 51]⟩, .string ⟨#[67, 52]⟩, .string ⟨#[68, 52]⟩, .string ⟨#[70, 52]⟩, .string ⟨#[71, 50]⟩]

theorem kd_at : ∀ i, i < 12 → kdV[i]? = some (.string (kdB (kdL.getD i (0, 0)))) := by
  intro i hi
  rcases (show i = 0 ∨ i = 1 ∨ i = 2 ∨ i = 3 ∨ i = 4 ∨ i = 5 ∨ i = 6 ∨ i = 7 ∨ i = 8 ∨ i = 9 ∨ i = 10 ∨ i = 11 by omega) with rfl | rfl | rfl | rfl | rfl | rfl | rfl | rfl | rfl | rfl | rfl | rfl <;> rfl

set_option maxRecDepth 100000 in
theorem kinds_any (w : World) :
    Calls Try.prog 28 #[] w fun e w' => e = .returned (.slice (some ⟨w.heap.size, 0, none⟩) 12 12) ∧ (∀ i, i < 12 → w'.cell? ⟨w.heap.size, i, none⟩ = some (.string (kdB (kdL.getD i (0, 0))))) ∧ Below w.heap.size w w' := by
  go_enter Try.func28, Try.ntmps28
  go_wp2
  go_ret
  refine ⟨rfl, fun i hi => ?_, (Below.refl _ _).alloc (Nat.le_refl _) _⟩
  rw [← kd_at i hi]
  have h := fun o => heap_alloc_new w o
  simp only [World.cell?, h]
  rfl

end Go.Proofs.Ytdbfkjnnlomklaa

/- facetref.NameFrom: some of the names, in a row. -/
namespace Go.Proofs.Ytdbfkjnnlomklaa
open Go.RowKit
attribute [local go_sem ↓] Go.wp_at_zero Go.wp_at_succ

/-- A piece's rank. -/
def rkP (p : UInt8 × UInt8) : Nat := p.2.toNat - 48

/-- Names with + between. -/
def jnB : List (UInt8 × UInt8) → List UInt8
  | [] => []
  | [p] => [p.1, p.2]
  | p :: q :: l => [p.1, p.2, 43] ++ jnB (q :: l)

theorem jnB_snoc : ∀ (l : List (UInt8 × UInt8)) (p : UInt8 × UInt8), l ≠ [] → jnB (l ++ [p]) = jnB l ++ [43] ++ [p.1, p.2]
  | [], _, h => absurd rfl h
  | [q], p, _ => rfl
  | q :: r :: l, p, _ => by
    have ih := jnB_snoc (r :: l) p (by simp)
    show [q.1, q.2, 43] ++ jnB ((r :: l) ++ [p]) = [q.1, q.2, 43] ++ jnB (r :: l) ++ [43] ++ [p.1, p.2]
    rw [ih]
    simp

theorem jnB_ne : ∀ (l : List (UInt8 × UInt8)), l ≠ [] → jnB l ≠ []
  | [], h => absurd rfl h
  | [q], _ => by simp [jnB]
  | q :: r :: l, _ => by simp [jnB]

theorem jnB_len : ∀ (l : List (UInt8 × UInt8)), (jnB l).length ≤ 3 * l.length
  | [] => by simp [jnB]
  | [q] => by simp [jnB]
  | q :: r :: l => by
    have ih := jnB_len (r :: l)
    simp only [jnB, List.length_append, List.length_cons, List.length_nil] at ih ⊢
    omega

theorem str_cat (a b : List UInt8) : (⟨a.toArray⟩ : ByteArray) ++ ⟨b.toArray⟩ = ⟨(a ++ b).toArray⟩ := by
  apply ByteArray.ext
  simp

theorem kd_rk : ∀ p ∈ kdL, 1 ≤ rkP p ∧ rkP p ≤ 4 ∧ p.2.toNat = 48 + rkP p := by decide

set_option maxRecDepth 100000 in
set_option maxHeartbeats 1600000 in
theorem nameFrom_any (r : Int) (most : Nat) (w : World) (hr : In64 r) (h4 : most ≤ 4) :
    Calls Try.prog 9 #[.int .i64 r, .int .i64 most] w fun e w' => ∃ ps : List (UInt8 × UInt8), e = .returned (.string ⟨(jnB ps).toArray⟩) ∧ (ps ≠ [] ∧ ps.length ≤ 3 ∧ (∀ p ∈ ps, p ∈ kdL) ∧ (1 ≤ most → (ps.map rkP).sum ≤ most)) ∧ Below w.heap.size w w' := by
  have HK : Hid _ := kinds_any w
  have HPK : Hid (∀ (c n : Int) (W : World), 1 ≤ n → n ≤ 4611686018427387904 → In64 c → Calls Try.prog 7 #[.int .i64 c, .int .i64 n] W fun e w' => ∃ z, e = .returned (.int .i64 z) ∧ (0 ≤ z ∧ z < n) ∧ w' = W) := fun c n W => pick_any c n W
  go_enter Try.func9, Try.ntmps9
  go_wp2_with fail
  refine (kinds_any w).mono ?_
  rintro e w1 ⟨rfl, hk, hb⟩
  have HKC : Hid (∀ i, i < 12 → w1.cell? ⟨w.heap.size, i, none⟩ = some (.string (kdB (kdL.getD i (0, 0))))) := hk
  have HB : Hid (Below w.heap.size w w1) := hb
  have HR : Hid (In64 r) := hr
  clear hk hb HK hr
  go_wp2
  go_loopw [0, 6, 7, 8, 9, 10] (fun rv sv lv iv _ _ wr => ∃ (i left : Nat) (z : Int) (ps : List (UInt8 × UInt8)), i ≤ 3 ∧ iv = .int .i64 i ∧ rv = .int .i64 z ∧ In64 z ∧ lv = .int .i64 left ∧ sv = .string ⟨(jnB ps).toArray⟩ ∧ ps.length ≤ i ∧ (∀ p ∈ ps, p ∈ kdL) ∧ (ps.map rkP).sum + left = most ∧ wr = w1) (fun _ _ _ iv _ _ _ => 3 - (intOf iv).toNat)
  case atStart => exact ⟨0, most, r, [], Nat.zero_le _, rfl, rfl, HR.out, rfl, rfl, Nat.le_refl _, by simp, by simp, rfl⟩
  case round =>
    obtain ⟨i, left, z, ps, hi, rfl, rfl, hz, rfl, rfl, hpl, hpk, hsum, hwr⟩ := hrel
    subst hwr
    have HZ : Hid (In64 z) := hz
    have HPL : Hid (ps.length ≤ i) := hpl
    have HPS : Hid (∀ p ∈ ps, p ∈ kdL) := hpk
    have HSU : Hid ((ps.map rkP).sum + left = most) := hsum
    clear hz hpl hpk
    have hle : left ≤ 4 := by omega
    clear hsum
    by_cases hlt : i < 3
    · have HP1 := HPK.out z 12 wr (by decide) (by decide) HZ.out
      have HP2 := HPK.out z 1000003 wr (by decide) (by decide) HZ.out
      go_wp2_with fail
      refine HP1.mono ?_
      rintro e w2 ⟨a, rfl, ⟨ha0, ha1⟩, rfl⟩
      obtain ⟨a, rfl⟩ : ∃ k : Nat, a = (k : Int) := ⟨a.toNat, by omega⟩
      have hck := HKC.out a (by omega)
      have HME : Hid (kdL.getD a (0, 0) ∈ kdL) := by
        show _ ∈ _
        have : a < kdL.length := by show a < 12; omega
        simp [this]
      generalize kdL.getD a (0, 0) = p at *
      have hkr := kd_rk p HME.out
      clear HP1
      go_wp2_with fail
      refine HP2.mono ?_
      rintro e w3 ⟨b, rfl, ⟨hb0, hb1⟩, rfl⟩
      clear HP2
      have hs2 : (kdB p).size = 2 := rfl
      have hd1 : ((kdB p)[1]'(by rw [hs2]; decide)).toNat = 48 + rkP p := hkr.2.2
      have hjl : (jnB ps).length ≤ 9 := by
        have h1 := jnB_len ps
        have h2 := HPL.out
        omega
      obtain ⟨hk1, hk2, hk3⟩ := hkr
      clear hk3
      have HZ2 : Hid (In64 (b * 7 / 5 + 3)) := ⟨by omega, by omega⟩
      by_cases hgt : left < rkP p
      · go_wp2
        go_roundw
        case rel => exact ⟨i + 1, left, _, ps, by omega, by go_num, rfl, HZ2.out, rfl, rfl, by have := HPL.out; omega, HPS.out, HSU.out, by trivial⟩
        case measure => simp [intOf]; omega
      · have HLE : Hid ((((ps ++ [p]).map rkP).sum + (left - rkP p)) = most) := by
          show _ = _
          rw [List.map_append, List.sum_append]
          have := HSU.out
          simp
          omega
        have HPS2 : Hid (∀ q ∈ ps ++ [p], q ∈ kdL) := fun q hq => by
          rcases List.mem_append.1 hq with h | h
          · exact HPS.out q h
          · rw [List.mem_singleton] at h; subst h; exact HME.out
        have HPL2 : Hid ((ps ++ [p]).length ≤ i + 1) := by
          show _ ≤ _
          have := HPL.out
          rw [List.length_append]; simp; omega
        by_cases hps : ps = []
        · have HJ : Hid ((⟨(jnB ps).toArray⟩ : ByteArray) ++ kdB p = ⟨(jnB (ps ++ [p])).toArray⟩) := by
            subst hps
            exact str_cat [] [p.1, p.2]
          have hem : (jnB ps).isEmpty = true := by subst hps; rfl
          clear hps
          go_wp2
          go_roundw
          case rel => exact ⟨i + 1, left - rkP p, _, ps ++ [p], by omega, by go_num, rfl, HZ2.out, by congr 1; omega, by rw [HJ.out], HPL2.out, HPS2.out, HLE.out, by trivial⟩
          case measure => simp [intOf]; omega
        · have HJ : Hid ((⟨(jnB ps).toArray⟩ : ByteArray) ++ ⟨#[43]⟩ ++ kdB p = ⟨(jnB (ps ++ [p])).toArray⟩) := by
            show _ = _
            rw [jnB_snoc ps p hps]
            have e1 := str_cat (jnB ps) [43]
            have e2 := str_cat (jnB ps ++ [43]) [p.1, p.2]
            rw [← e1] at e2
            exact e2
          have hem : (jnB ps).isEmpty = false := by
            have := jnB_ne ps hps
            simpa using this
          clear hps
          go_wp2
          go_roundw
          case rel => exact ⟨i + 1, left - rkP p, _, ps ++ [p], by omega, by go_num, rfl, HZ2.out, by congr 1; omega, by rw [HJ.out], HPL2.out, HPS2.out, HLE.out, by trivial⟩
          case measure => simp [intOf]; omega
    · have HPI : Hid (ps.length ≤ 3) := Nat.le_trans HPL.out hi
      by_cases hps : ps = []
      · have hem : (jnB ps).isEmpty = true := by subst hps; rfl
        clear hps
        go_wp2
        go_ret
        exact ⟨[(65, 49)], rfl, ⟨by simp, by simp, by decide, fun h => h⟩, HB.out⟩
      · have HNE : Hid (ps ≠ []) := hps
        have hem : (jnB ps).isEmpty = false := by
          have := jnB_ne ps hps
          simpa using this
        clear hps
        go_wp2
        go_ret
        exact ⟨ps, rfl, ⟨HNE.out, HPI.out, HPS.out, fun _ => by have := HSU.out; omega⟩, HB.out⟩

end Go.Proofs.Ytdbfkjnnlomklaa
