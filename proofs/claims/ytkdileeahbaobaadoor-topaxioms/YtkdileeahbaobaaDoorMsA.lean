import Derived.Test.YtkdileeahbaobaaDoorMs0
import Derived.Test.YtkdileeahbaobaaDoorMtB
import Derived.Maps.AppendAt
/- matroid.rankOf, matroid.Rank. -/
namespace Go.Proofs.YtkdileeahbaobaaDoor
open Go.RowKit
attribute [local go_sem ↓] Go.wp_at_zero Go.wp_at_succ

set_option maxRecDepth 100000 in
set_option maxHeartbeats 800000 in
theorem rankOf_any (N : Int) (bs : List Int) (s : Nat) (v : Value) (w : World) (hv : Sl w.heap.size 3 w v (ints bs)) (h8 : B8 bs) (hs : s < 256) :
    Calls Tryd.prog 18 #[.agg #[.int .i64 N, v], .int .u64 s] w fun e w' => e = .returned (.int .i64 (rkN bs s)) ∧ Below w.heap.size w w' := by
  obtain ⟨ao, cap, hvv, hlc, hcm⟩ := sl_open hv
  subst hvv
  obtain ⟨W, hW⟩ : ∃ W, W = w.alloc (.cells #[.int .i64 N, .slice ao bs.length cap] 25) := ⟨_, rfl⟩
  have HBA : Hid (Below w.heap.size w W) := by rw [hW]; exact (Below.refl _ _).alloc (Nat.le_refl _) _
  have c1 : W.cell? ⟨w.heap.size, 1, none⟩ = some (.slice ao bs.length cap) := by rw [hW]; simp
  have HV : Hid (Sl w.heap.size 3 W (.slice ao bs.length cap) (ints bs)) := hv.below HBA.out (Nat.le_refl _)
  have H8 : Hid (B8 bs) := h8
  clear hv h8
  go_enter Tryd.func18, Tryd.ntmps18
  go_wp2
  rw [← hW]
  clear hW
  go_loopw [5, 7, 11] (fun b _ i wr => ∃ k : Nat, k ≤ bs.length ∧ i = .int .i64 k ∧ b = .int .i64 (rkTo bs s k) ∧ wr = W) (fun _ _ i _ => bs.length - (intOf i).toNat)
  case atStart => exact ⟨0, Nat.zero_le _, rfl, rfl, rfl⟩
  case round =>
    obtain ⟨k, hk, rfl, rfl, rfl⟩ := hrel
    by_cases hlt : k < bs.length
    · obtain ⟨gb, gq, gcc, hsl, _, hcc⟩ := sl_cell HV.out hlt
      simp only [Value.slice.injEq] at hsl
      obtain ⟨rfl, -, rfl⟩ := hsl
      obtain ⟨hx0, hx8⟩ := H8.out (bs.getD k 0) (by simp [hlt])
      obtain ⟨y, hy⟩ : ∃ y : Nat, bs.getD k 0 = (y : Int) := ⟨(bs.getD k 0).toNat, by omega⟩
      have hy8 : y < 256 := by omega
      obtain ⟨z, hz⟩ : ∃ z : Nat, z = s &&& y := ⟨_, rfl⟩
      have e1 : bits .and .u64 (s : Int) (y : Int) = (z : Int) := by rw [hz]; exact bits_and_u64_nat s y (by omega) (by omega)
      have HLN : Hid (Calls Tryd.prog 30 #[.int .u64 z] wr fun e w' => e = .returned (.int .i64 (szN z)) ∧ w' = wr) := len8_any z (by rw [hz]; exact Nat.lt_of_le_of_lt Nat.and_le_left hs) wr
      have HS1 : Hid (rkTo bs s (k + 1) = max (rkTo bs s k) (szN z)) := by
        show _ = _
        simp only [rkTo]
        rw [hy, Int.toNat_natCast, ← hz]
      rw [hy] at hcc
      have kI : (k : Int) < (bs.length : Int) := by omega
      have kI0 : (0 : Int) ≤ (k : Int) := by omega
      clear hx0 hx8 hy hz
      generalize szN z = q at *
      generalize rkTo bs s k = rk at *
      go_wp2_with fail
      refine HLN.out.mono ?_
      rintro e w' ⟨rfl, rfl⟩
      go_wp2
      go_roundw
      case rel => exact ⟨k + 1, by omega, by go_num, by rw [HS1.out]; first | rfl | go_num, trivial⟩
      case measure => simp [intOf]; omega
    · have hke : k = bs.length := by omega
      subst hke
      go_wp2
      go_ret
      exact ⟨rfl, HBA.out⟩

/-- What Rank answers. -/
def rkE (N : Int) (bs : List Int) (s : Int) : Int := if matE N bs ≠ 0 then matE N bs else if (decide (0 ≤ s) && decide (s < 2 ^ N.toNat)) = true then 0 else 4

def rkA (N : Int) (bs : List Int) (s : Int) : Int := if rkE N bs s = 0 then rkN bs s.toNat else 0

set_option maxRecDepth 100000 in
set_option maxHeartbeats 800000 in
theorem rank_any (N : Int) (bs : List Int) (s : Int) (v : Value) (w : World) (hv : Sl w.heap.size 3 w v (ints bs)) (hl : bs.length ≤ 1000000) (hT : TabB w) :
    Calls Tryd.prog 6 #[.agg #[.int .i64 N, v], .int .i64 s] w fun e w' => e = .returned (.tuple #[.int .i64 (rkA N bs s), .int .i64 (rkE N bs s)]) ∧ Below w.heap.size w w' := by
  obtain ⟨ao, cap, hvv, hlc, hcm⟩ := sl_open hv
  subst hvv
  obtain ⟨W, hW⟩ : ∃ W, W = w.alloc (.cells #[.int .i64 N, .slice ao bs.length cap] 25) := ⟨_, rfl⟩
  have HBA : Hid (Below w.heap.size w W) := by rw [hW]; exact (Below.refl _ _).alloc (Nat.le_refl _) _
  have c0 : W.cell? ⟨w.heap.size, 0, none⟩ = some (.int .i64 N) := by rw [hW]; simp
  have c1 : W.cell? ⟨w.heap.size, 1, none⟩ = some (.slice ao bs.length cap) := by rw [hW]; simp
  have HC : Hid (∀ W', Below W.heap.size W W' → W'.cell? ⟨w.heap.size, 0, none⟩ = some (.int .i64 N) ∧ W'.cell? ⟨w.heap.size, 1, none⟩ = some (.slice ao bs.length cap) ∧ Sl w.heap.size 3 W' (.slice ao bs.length cap) (ints bs) ∧ Below w.heap.size w W') := fun W' h =>
    ⟨(h.cell (lt_of_cell c0)).trans c0, (h.cell (lt_of_cell c1)).trans c1, (hv.below HBA.out (Nat.le_refl _)).below h (Nat.le_refl _), HBA.out.trans (h.mono HBA.out.size)⟩
  have HCK : Hid (Calls Tryd.prog 16 #[.agg #[.int .i64 N, .slice ao bs.length cap]] W fun e w' => e = .returned (.int .i64 (matE N bs)) ∧ Below W.heap.size W w') :=
    checkM_any N bs _ W ((hv.below HBA.out (Nat.le_refl _)).more HBA.out.size) hl (hT.below HBA.out)
  clear hv hT
  go_enter Tryd.func6, Tryd.ntmps6
  go_wp2_with fail
  rw [← hW]
  clear hW c0 c1
  refine HCK.out.mono ?_
  rintro e w1 ⟨rfl, hb1⟩
  have HB1 : Hid (Below W.heap.size W w1) := hb1
  obtain ⟨d0, d1, hs1, hbw⟩ := HC.out w1 hb1
  have HBF : Hid (Below w.heap.size w w1) := hbw
  have HS1 : Hid (Sl w.heap.size 3 w1 (.slice ao bs.length cap) (ints bs)) := hs1
  clear hb1 HCK hbw hs1
  by_cases hm : matE N bs ≠ 0
  · have HE : Hid (rkE N bs s = matE N bs) := if_pos hm
    have HA : Hid (rkA N bs s = 0) := if_neg (by rw [HE.out]; exact hm)
    have q1 : (matE N bs != 0) = true := by simpa using hm
    clear hm
    generalize matE N bs = E at *
    go_wp2
    exact bodyPost_ret (v := .tuple #[.int .i64 0, .int .i64 E]) (by simp [results, Tryd.results6, go_sem]) rfl ⟨by rw [HA.out, HE.out], HBF.out⟩
  · have hm0 : matE N bs = 0 := by omega
    obtain ⟨hb8, hN0, hN8⟩ := mat_b8 hm0
    have HB8 : Hid (B8 bs) := hb8
    obtain ⟨n, rfl⟩ : ∃ n : Nat, N = (n : Int) := ⟨N.toNat, by omega⟩
    have hn8 : n ≤ 8 := by omega
    have HE : Hid (rkE (n : Int) bs s = if (decide (0 ≤ s) && decide (s < 2 ^ n)) = true then 0 else 4) := if_neg hm
    have HIS : Hid (Calls Tryd.prog 17 #[.agg #[.int .i64 n, .slice ao bs.length cap], .int .i64 s] w1 fun e w' => e = .returned (.bool (decide (0 ≤ s) && decide (s < 2 ^ n))) ∧ Below w1.heap.size w1 w') := isSet_any n s _ w1 hn8
    rw [hm0]
    clear hm hm0 hb8 hN0 hN8
    by_cases hss : (decide (0 ≤ s) && decide (s < 2 ^ n)) = true
    · have HE0 : Hid (rkE (n : Int) bs s = 0) := by rw [HE.out, hss]; rfl
      rw [hss] at HIS
      simp only [Bool.and_eq_true, decide_eq_true_eq] at hss
      have hp := pow8_le n hn8
      obtain ⟨z, hz⟩ : ∃ z : Nat, s = (z : Int) := ⟨s.toNat, by omega⟩
      subst hz
      have hz8 : z < 256 := by omega
      have HA : Hid (rkA (n : Int) bs (z : Int) = rkN bs z) := if_pos HE0.out
      have qz : IntKind.u64.wrap (z : Int) = (z : Int) := by rw [IntKind.wrap_u64]; omega
      have HRK : Hid (∀ W', Below w1.heap.size w1 W' → Calls Tryd.prog 18 #[.agg #[.int .i64 n, .slice ao bs.length cap], .int .u64 z] W' fun e w' => e = .returned (.int .i64 (rkN bs z)) ∧ Below W'.heap.size W' w') := fun W' h =>
        rankOf_any n bs z _ W' ((HS1.out.below h (Nat.le_refl _)).more (Nat.le_trans HBF.out.size h.size)) HB8.out hz8
      clear hss hp
      go_wp2_with fail
      refine HIS.out.mono ?_
      rintro e w2 ⟨rfl, hb2⟩
      obtain ⟨f0, f1, -, -⟩ := HC.out w2 (HB1.out.trans (hb2.mono HB1.out.size))
      have HB2 : Hid (Below w1.heap.size w1 w2) := hb2
      clear hb2
      go_wp2_with fail
      refine (HRK.out w2 HB2.out).mono ?_
      rintro e w3 ⟨rfl, hb3⟩
      have HB3 : Hid (Below w.heap.size w w3) := HBF.out.trans ((HB2.out.trans (hb3.mono HB2.out.size)).mono HBF.out.size)
      clear hb3
      generalize rkN bs z = R at *
      go_wp2
      exact bodyPost_ret (v := .tuple #[.int .i64 R, .int .i64 0]) (by simp [results, Tryd.results6, go_sem]) rfl ⟨by rw [HA.out, HE0.out], HB3.out⟩
    · rw [Bool.not_eq_true] at hss
      have HE0 : Hid (rkE (n : Int) bs s = 4) := by rw [HE.out, hss]; rfl
      have HA : Hid (rkA (n : Int) bs s = 0) := if_neg (by rw [HE0.out]; decide)
      rw [hss] at HIS
      clear hss
      go_wp2_with fail
      refine HIS.out.mono ?_
      rintro e w2 ⟨rfl, hb2⟩
      have HB3 : Hid (Below w.heap.size w w2) := HBF.out.trans (hb2.mono HBF.out.size)
      clear hb2
      go_wp2
      exact bodyPost_ret (v := .tuple #[.int .i64 0, .int .i64 4]) (by simp [results, Tryd.results6, go_sem]) rfl ⟨by rw [HA.out, HE0.out], HB3.out⟩

end Go.Proofs.YtkdileeahbaobaaDoor

/- matroid.without, the closures of Delete and Contract; two lists that grow side by side. -/
namespace Go.Proofs.YtkdileeahbaobaaDoor
open Go.RowKit
attribute [local go_sem ↓] Go.wp_at_zero Go.wp_at_succ

theorem bits_andNot_i64_nat (a b : Nat) (ha : a < 4611686018427387904) (hb : b < 4611686018427387904) : bits .andNot .i64 (a : Int) (b : Int) = ((outN a b : Nat) : Int) := by
  show IntKind.i64.wrap ((BitVec.ofInt 64 (a : Int) &&& ~~~ BitVec.ofInt 64 (b : Int)).toNat : Int) = _
  have h3 : (BitVec.ofInt 64 (a : Int) &&& ~~~ BitVec.ofInt 64 (b : Int)).toNat = outN a b := by
    apply Nat.eq_of_testBit_eq
    intro i
    rw [outN_bit]
    by_cases hi : i < 64
    · rw [BitVec.toNat_and, Nat.testBit_and, ofInt_nat ha]
      have : (~~~ BitVec.ofInt 64 (b : Int)).toNat.testBit i = !(b.testBit i) := by
        rw [BitVec.testBit_toNat, BitVec.getLsbD_not, ← BitVec.testBit_toNat, ofInt_nat hb]
        simp [hi]
      rw [this]
    · have hz : a.testBit i = false := Nat.testBit_lt_two_pow (Nat.lt_of_lt_of_le (show a < 2 ^ 62 by omega) (Nat.pow_le_pow_right (by omega) (by omega)))
      rw [BitVec.toNat_and, Nat.testBit_and, ofInt_nat ha, hz]
      simp
  rw [h3]
  exact wrap_small (Nat.lt_of_le_of_lt (outN_le a b) ha)

theorem and1_bit (b i : Nat) (hb : b < 256) : bits .and .i64 ((b : Int) / 2 ^ i) 1 = ((b / 2 ^ i % 2 : Nat) : Int) := by
  have eq0 : (b : Int) / 2 ^ i = ((b / 2 ^ i : Nat) : Int) := by simp
  rw [eq0]
  have := bits_and_i64_nat (b / 2 ^ i) 1 (Nat.lt_of_le_of_lt (Nat.div_le_self _ _) (by omega)) (by omega)
  rw [Nat.and_one_is_mod] at this
  exact this

theorem own_keepS {B n : Nat} {e : TypeId} {w w' : World} {v : Value} {xs : List Value} (h : w.ownsRow B e 1 v n xs) (hk : ∀ b, v.ownBlock = some b → w'.heap[b]? = w.heap[b]?) : w'.ownsRow B e 1 v n xs := by
  refine ⟨h.1, ?_⟩
  rcases h.2 with h1 | ⟨g, cap, cur, h1, h2, h3, h4⟩
  · exact .inl h1
  · exact .inr ⟨g, cap, cur, h1, h2, (hk g (by rw [h1]; rfl)).trans h3, h4⟩

/-- Two lists of numbers, each in a block of its own. -/
structure Two (B : Nat) (wa w : World) (kv av : Value) (K A : List Int) : Prop where
  k : w.ownsRow B 3 1 kv K.length (ints K)
  a : w.ownsRow B 3 1 av A.length (ints A)
  ne : ∀ g, kv.ownBlock = some g → av.ownBlock ≠ some g
  bel : Below B wa w

theorem Two.swap {B : Nat} {wa w : World} {kv av : Value} {K A : List Int} (h : Two B wa w kv av K A) : Two B wa w av kv A K := ⟨h.a, h.k, fun g h1 h2 => h.ne g h2 h1, h.bel⟩

theorem Two.low {B : Nat} {wa w w' : World} {kv av : Value} {K A : List Int} (h : Two B wa w kv av K A) (hB : B ≤ w.heap.size) (hb : Below w.heap.size w w') : Two B wa w' kv av K A :=
  ⟨owns_below h.k hb (Nat.le_refl _), owns_below h.a hb (Nat.le_refl _), h.ne, h.bel.trans (hb.mono hB)⟩

theorem Two.pushA {B : Nat} {wa w w5 : World} {kv av v' : Value} {K A : List Int} {x : Int} (h : Two B wa w kv av K A) (hB : B ≤ w.heap.size)
    (ho : w5.ownsRow B 3 1 v' (A.length + 1) (ints A ++ [.int .i64 x])) (hg : (w.alloc (.cells #[.int .i64 x] 3)).grownBy w5 av.ownBlock) (hat : v'.ownBlock = av.ownBlock ∨ v'.ownBlock = some (w.heap.size + 1)) : Two B wa w5 kv v' K (A ++ [x]) := by
  refine ⟨own_keepS h.k fun b hb => ?_, ?_, fun g h1 h2 => ?_, ?_⟩
  · have hlt := (h.k.lt b hb).2
    exact (hg.block b (by simp; omega) (fun e => h.ne b hb e.symm)).trans (Below.heap_alloc _ _ _ hlt)
  · have e1 : ints (A ++ [x]) = ints A ++ [.int .i64 x] := by simp [ints]
    rw [e1, List.length_append, List.length_singleton]
    exact ho
  · rcases hat with hat | hat
    · exact h.ne g h1 (by rw [← hat]; exact h2)
    · rw [hat] at h2
      have hlt := (h.k.lt g h1).2
      simp only [Option.some.injEq] at h2
      omega
  · exact (h.bel.alloc hB _).grown hg (by simp; omega) (fun x hx => (h.a.lt x hx).1)

end Go.Proofs.YtkdileeahbaobaaDoor

/- matroid.ofOthers by either closure; matroid.Delete, matroid.Contract. -/
namespace Go.Proofs.YtkdileeahbaobaaDoor
open Go.RowKit
attribute [local go_sem ↓] Go.wp_at_zero Go.wp_at_succ

/-- A basis without a thing. -/
def lesI (i : Nat) (b : Int) : Int := (lesN b.toNat i : Int)

def kpL (bs : List Int) (i : Nat) (p : Int → Bool) (k : Nat) : List Int := ((bs.take k).filter p).map (lesI i)
def alL (bs : List Int) (i : Nat) (k : Nat) : List Int := (bs.take k).map (lesI i)

/-- The bases of all things but one: of those that are kept, or of all. -/
def mnL (bs : List Int) (i : Nat) (p : Int → Bool) : List Int := if (kpL bs i p bs.length).length = 0 then alL bs i bs.length else kpL bs i p bs.length

theorem kpL_succ {bs : List Int} {i k : Nat} {p : Int → Bool} (h : k < bs.length) : kpL bs i p (k + 1) = kpL bs i p k ++ (if p (bs.getD k 0) = true then [lesI i (bs.getD k 0)] else []) := by
  unfold kpL
  rw [List.take_succ_eq_append_getElem h, List.filter_append, List.map_append]
  have e : bs.getD k 0 = bs[k] := by simp [h]
  rw [e]
  by_cases hp : p bs[k] = true <;> simp [hp]

theorem alL_succ {bs : List Int} {i k : Nat} (h : k < bs.length) : alL bs i (k + 1) = alL bs i k ++ [lesI i (bs.getD k 0)] := by
  unfold alL
  rw [List.take_succ_eq_append_getElem h, List.map_append]
  have e : bs.getD k 0 = bs[k] := by simp [h]
  rw [e]
  rfl

theorem kpL_len (bs : List Int) (i k : Nat) (p : Int → Bool) : (kpL bs i p k).length ≤ bs.length := by
  unfold kpL
  rw [List.length_map]
  exact Nat.le_trans (List.length_filter_le _ _) (by rw [List.length_take]; omega)

theorem alL_len (bs : List Int) (i k : Nat) : (alL bs i k).length ≤ bs.length := by
  unfold alL
  rw [List.length_map, List.length_take]; omega

/-- What they answer. -/
def thE (N : Int) (bs : List Int) (i : Int) : Int := if matE N bs ≠ 0 then matE N bs else if i < 0 ∨ N ≤ i then 9 else 0
def mnN (N : Int) (bs : List Int) (i : Int) : Int := if thE N bs i = 0 then N - 1 else 0
def mnB (N : Int) (bs : List Int) (i : Int) (p : Nat → Int → Bool) : List Int := if thE N bs i = 0 then mnL bs i.toNat (p i.toNat) else []

def dlP (i : Nat) (b : Int) : Bool := !b.toNat.testBit i
def cnP (i : Nat) (b : Int) : Bool := b.toNat.testBit i

end Go.Proofs.YtkdileeahbaobaaDoor
