import Derived.Test.YteflgnggopcdcaaDoorMs0
import Derived.Test.YteflgnggopcdcaaDoorMtB
import Derived.Maps.AppendAt
/- matroid.rankOf, matroid.Rank. -/
namespace Go.Proofs.YteflgnggopcdcaaDoor
open Go.RowKit
attribute [local go_sem ↓] Go.wp_at_zero Go.wp_at_succ

/-- What Rank answers. -/
def rkE (N : Int) (bs : List Int) (s : Int) : Int := if matE N bs ≠ 0 then matE N bs else if (decide (0 ≤ s) && decide (s < 2 ^ N.toNat)) = true then 0 else 4

def rkA (N : Int) (bs : List Int) (s : Int) : Int := if rkE N bs s = 0 then rkN bs s.toNat else 0

end Go.Proofs.YteflgnggopcdcaaDoor

/- matroid.without, the closures of Delete and Contract; two lists that grow side by side. -/
namespace Go.Proofs.YteflgnggopcdcaaDoor
open Go.RowKit
attribute [local go_sem ↓] Go.wp_at_zero Go.wp_at_succ

theorem bits_andNot_i64_nat (a b : Nat) (ha : a < 4611686018427387904) (hb : b < 4611686018427387904) : bits .andNot .i64 (a : Int) (b : Int) = ((outN a b : Nat) : Int) := by
  show IntKind.i64.wrap ((BitVec.ofInt 64 (a : Int) &&& ~~~ BitVec.ofInt 64 (b : Int)).toNat : Int) = _
  have h3 : (BitVec.ofInt 64 (a : Int) &&& ~~~ BitVec.ofInt 64 (b : Int)).toNat = outN a b := by
    apply Nat.eq_of_testBit_eq
    intro i
    rw [outN_bit]
    by_cases hi : i < 64
    · rw [BitVec.toNat_and, Nat.testBit_and, ofInt_nat ha]
      have : (~~~ BitVec.ofInt 64 (b : Int)).toNat.testBit i = !(b.testBit i) := by
        rw [BitVec.testBit_toNat, BitVec.getLsbD_not, ← BitVec.testBit_toNat, ofInt_nat hb]
        simp [hi]
      rw [this]
    · have hz : a.testBit i = false := Nat.testBit_lt_two_pow (Nat.lt_of_lt_of_le (show a < 2 ^ 62 by omega) (Nat.pow_le_pow_right (by omega) (by omega)))
      rw [BitVec.toNat_and, Nat.testBit_and, ofInt_nat ha, hz]
      simp
  rw [h3]
  exact wrap_small (Nat.lt_of_le_of_lt (outN_le a b) ha)

set_option maxRecDepth 100000 in
theorem without_any (s i : Nat) (w : World) (hs : s < 256) (hi : i < 8) :
    Calls Tryd.prog 28 #[.int .i64 s, .int .i64 i] w fun e w' => e = .returned (.int .i64 (lesN s i)) ∧ w' = w := by
  obtain ⟨pw, hpw⟩ : ∃ pw : Nat, pw = 2 ^ i := ⟨_, rfl⟩
  have hp8 : pw < 256 := by rw [hpw]; exact show 2 ^ i < 2 ^ 8 from Nat.pow_lt_pow_right (by omega) hi
  have hp1 : 1 ≤ pw := by rw [hpw]; exact Nat.one_le_two_pow
  have hpI : (2 : Int) ^ i = (pw : Int) := by rw [hpw]; simp
  have q0 : IntKind.i64.wrap (pw : Int) = (pw : Int) := wrap_small (by omega)
  obtain ⟨pm, hpm⟩ : ∃ pm : Nat, pm = pw - 1 := ⟨_, rfl⟩
  have q1 : IntKind.i64.wrap ((pw : Int) - 1) = (pm : Int) := by rw [show (pw : Int) - 1 = (pm : Int) by omega]; exact wrap_small (by omega)
  obtain ⟨x, hx⟩ : ∃ x : Nat, x = s &&& pm := ⟨_, rfl⟩
  have e1 : bits .and .i64 (s : Int) (pm : Int) = (x : Int) := by rw [hx]; exact bits_and_i64_nat s pm (by omega) (by omega)
  obtain ⟨h, hh⟩ : ∃ h : Nat, h = s / 2 := ⟨_, rfl⟩
  have e2 : (s : Int) / 2 = (h : Int) := by omega
  obtain ⟨y, hy⟩ : ∃ y : Nat, y = outN h pm := ⟨_, rfl⟩
  have e3 : bits .andNot .i64 (h : Int) (pm : Int) = (y : Int) := by rw [hy]; exact bits_andNot_i64_nat h pm (by omega) (by omega)
  have hx8 : x < 256 := by rw [hx]; exact Nat.lt_of_le_of_lt Nat.and_le_left hs
  have hy8 : y < 256 := by rw [hy]; exact Nat.lt_of_le_of_lt (outN_le _ _) (by omega)
  have e4 : bits .or .i64 (x : Int) (y : Int) = ((lesN s i : Nat) : Int) := by
    rw [bits_or_i64_nat x y (by omega) (by omega), ← lesN_prog s hs i hi, hx, hy, hpm, hpw, hh, Nat.shiftRight_eq_div_pow]
  clear hpw hpm hx hh hy
  generalize lesN s i = R at *
  go_enter Tryd.func28, Tryd.ntmps28
  go_wp2
  go_ret
  exact ⟨rfl, rfl⟩

theorem and1_bit (b i : Nat) (hb : b < 256) : bits .and .i64 ((b : Int) / 2 ^ i) 1 = ((b / 2 ^ i % 2 : Nat) : Int) := by
  have eq0 : (b : Int) / 2 ^ i = ((b / 2 ^ i : Nat) : Int) := by simp
  rw [eq0]
  have := bits_and_i64_nat (b / 2 ^ i) 1 (Nat.lt_of_le_of_lt (Nat.div_le_self _ _) (by omega)) (by omega)
  rw [Nat.and_one_is_mod] at this
  exact this

set_option maxRecDepth 100000 in
theorem del1_any (b i p : Nat) (w : World) (hb : b < 256) (hi : i < 8) (hc : w.cell? ⟨p, 0, none⟩ = some (.int .i64 i)) :
    Calls Tryd.prog 18 #[.int .i64 b, .pointer (some ⟨p, 0, none⟩)] w fun e w' => e = .returned (.bool (!b.testBit i)) ∧ w' = w := by
  have e1 := and1_bit b i hb
  have e2 : (((b / 2 ^ i % 2 : Nat) : Int) == 0) = !b.testBit i := by
    rw [Nat.testBit_eq_decide_div_mod_eq]
    rcases Nat.mod_two_eq_zero_or_one (b / 2 ^ i) with h | h <;> rw [h] <;> rfl
  generalize b / 2 ^ i % 2 = q at *
  generalize b.testBit i = tb at *
  go_enter Tryd.func18, Tryd.ntmps18
  go_wp2
  go_ret
  exact ⟨by first | rfl | (rw [← e2]; rfl), rfl⟩

set_option maxRecDepth 100000 in
theorem con1_any (b i p : Nat) (w : World) (hb : b < 256) (hi : i < 8) (hc : w.cell? ⟨p, 0, none⟩ = some (.int .i64 i)) :
    Calls Tryd.prog 19 #[.int .i64 b, .pointer (some ⟨p, 0, none⟩)] w fun e w' => e = .returned (.bool (b.testBit i)) ∧ w' = w := by
  have e1 := and1_bit b i hb
  have e2 : (((b / 2 ^ i % 2 : Nat) : Int) == 1) = b.testBit i := by
    rw [Nat.testBit_eq_decide_div_mod_eq]
    rcases Nat.mod_two_eq_zero_or_one (b / 2 ^ i) with h | h <;> rw [h] <;> rfl
  generalize b / 2 ^ i % 2 = q at *
  generalize b.testBit i = tb at *
  go_enter Tryd.func19, Tryd.ntmps19
  go_wp2
  go_ret
  exact ⟨by first | rfl | (rw [← e2]; rfl), rfl⟩

theorem own_keepS {B n : Nat} {e : TypeId} {w w' : World} {v : Value} {xs : List Value} (h : w.ownsRow B e 1 v n xs) (hk : ∀ b, v.ownBlock = some b → w'.heap[b]? = w.heap[b]?) : w'.ownsRow B e 1 v n xs := by
  refine ⟨h.1, ?_⟩
  rcases h.2 with h1 | ⟨g, cap, cur, h1, h2, h3, h4⟩
  · exact .inl h1
  · exact .inr ⟨g, cap, cur, h1, h2, (hk g (by rw [h1]; rfl)).trans h3, h4⟩

/-- Two lists of numbers, each in a block of its own. -/
structure Two (B : Nat) (wa w : World) (kv av : Value) (K A : List Int) : Prop where
  k : w.ownsRow B 3 1 kv K.length (ints K)
  a : w.ownsRow B 3 1 av A.length (ints A)
  ne : ∀ g, kv.ownBlock = some g → av.ownBlock ≠ some g
  bel : Below B wa w

theorem Two.swap {B : Nat} {wa w : World} {kv av : Value} {K A : List Int} (h : Two B wa w kv av K A) : Two B wa w av kv A K := ⟨h.a, h.k, fun g h1 h2 => h.ne g h2 h1, h.bel⟩

theorem Two.low {B : Nat} {wa w w' : World} {kv av : Value} {K A : List Int} (h : Two B wa w kv av K A) (hB : B ≤ w.heap.size) (hb : Below w.heap.size w w') : Two B wa w' kv av K A :=
  ⟨owns_below h.k hb (Nat.le_refl _), owns_below h.a hb (Nat.le_refl _), h.ne, h.bel.trans (hb.mono hB)⟩

theorem Two.pushA {B : Nat} {wa w w5 : World} {kv av v' : Value} {K A : List Int} {x : Int} (h : Two B wa w kv av K A) (hB : B ≤ w.heap.size)
    (ho : w5.ownsRow B 3 1 v' (A.length + 1) (ints A ++ [.int .i64 x])) (hg : (w.alloc (.cells #[.int .i64 x] 3)).grownBy w5 av.ownBlock) (hat : v'.ownBlock = av.ownBlock ∨ v'.ownBlock = some (w.heap.size + 1)) : Two B wa w5 kv v' K (A ++ [x]) := by
  refine ⟨own_keepS h.k fun b hb => ?_, ?_, fun g h1 h2 => ?_, ?_⟩
  · have hlt := (h.k.lt b hb).2
    exact (hg.block b (by simp; omega) (fun e => h.ne b hb e.symm)).trans (Below.heap_alloc _ _ _ hlt)
  · have e1 : ints (A ++ [x]) = ints A ++ [.int .i64 x] := by simp [ints]
    rw [e1, List.length_append, List.length_singleton]
    exact ho
  · rcases hat with hat | hat
    · exact h.ne g h1 (by rw [← hat]; exact h2)
    · rw [hat] at h2
      have hlt := (h.k.lt g h1).2
      simp only [Option.some.injEq] at h2
      omega
  · exact (h.bel.alloc hB _).grown hg (by simp; omega) (fun x hx => (h.a.lt x hx).1)

end Go.Proofs.YteflgnggopcdcaaDoor

/- matroid.ofOthers by either closure; matroid.Delete, matroid.Contract. -/
namespace Go.Proofs.YteflgnggopcdcaaDoor
open Go.RowKit
attribute [local go_sem ↓] Go.wp_at_zero Go.wp_at_succ

/-- A basis without a thing. -/
def lesI (i : Nat) (b : Int) : Int := (lesN b.toNat i : Int)

def kpL (bs : List Int) (i : Nat) (p : Int → Bool) (k : Nat) : List Int := ((bs.take k).filter p).map (lesI i)
def alL (bs : List Int) (i : Nat) (k : Nat) : List Int := (bs.take k).map (lesI i)

/-- The bases of all things but one: of those that are kept, or of all. -/
def mnL (bs : List Int) (i : Nat) (p : Int → Bool) : List Int := if (kpL bs i p bs.length).length = 0 then alL bs i bs.length else kpL bs i p bs.length

theorem kpL_succ {bs : List Int} {i k : Nat} {p : Int → Bool} (h : k < bs.length) : kpL bs i p (k + 1) = kpL bs i p k ++ (if p (bs.getD k 0) = true then [lesI i (bs.getD k 0)] else []) := by
  unfold kpL
  rw [List.take_succ_eq_append_getElem h, List.filter_append, List.map_append]
  have e : bs.getD k 0 = bs[k] := by simp [h]
  rw [e]
  by_cases hp : p bs[k] = true <;> simp [hp]

theorem alL_succ {bs : List Int} {i k : Nat} (h : k < bs.length) : alL bs i (k + 1) = alL bs i k ++ [lesI i (bs.getD k 0)] := by
  unfold alL
  rw [List.take_succ_eq_append_getElem h, List.map_append]
  have e : bs.getD k 0 = bs[k] := by simp [h]
  rw [e]
  rfl

theorem kpL_len (bs : List Int) (i k : Nat) (p : Int → Bool) : (kpL bs i p k).length ≤ bs.length := by
  unfold kpL
  rw [List.length_map]
  exact Nat.le_trans (List.length_filter_le _ _) (by rw [List.length_take]; omega)

theorem alL_len (bs : List Int) (i k : Nat) : (alL bs i k).length ≤ bs.length := by
  unfold alL
  rw [List.length_map, List.length_take]; omega

/-- What they answer. -/
def thE (N : Int) (bs : List Int) (i : Int) : Int := if matE N bs ≠ 0 then matE N bs else if i < 0 ∨ N ≤ i then 9 else 0
def mnN (N : Int) (bs : List Int) (i : Int) : Int := if thE N bs i = 0 then N - 1 else 0
def mnB (N : Int) (bs : List Int) (i : Int) (p : Nat → Int → Bool) : List Int := if thE N bs i = 0 then mnL bs i.toNat (p i.toNat) else []

def dlP (i : Nat) (b : Int) : Bool := !b.toNat.testBit i
def cnP (i : Nat) (b : Int) : Bool := b.toNat.testBit i

set_option maxRecDepth 100000 in
set_option maxHeartbeats 3200000 in
theorem othD_any (N : Int) (bs : List Int) (i : Int) (bp : Nat) (v : Value) (w : World) (hv : Sl w.heap.size 3 w v (ints bs)) (hl : bs.length ≤ 1000000) (hT : TabB w) (hp : w.cell? ⟨bp, 0, none⟩ = some (.int .i64 i)) :
    Calls Tryd.prog 17 #[.agg #[.int .i64 N, v], .int .i64 i, .func (.func 18) #[] #[.pointer (some ⟨bp, 0, none⟩)]] w fun e w' => ∃ u, e = .returned (.tuple #[.agg #[.int .i64 (mnN N bs i), u], .int .i64 (thE N bs i)]) ∧ Sl 0 3 w' u (ints (mnB N bs i dlP)) ∧ Below w.heap.size w w' := by
  obtain ⟨i3, hi3, hz30, hz31, hz32⟩ := info_parts Tryd.info3
  obtain ⟨ao, cap, hvv, hlc, hcm⟩ := sl_open hv
  subst hvv
  obtain ⟨w0, hw0⟩ : ∃ w0, w0 = w.alloc (.cells #[.int .i64 N, .slice ao bs.length cap] 25) := ⟨_, rfl⟩
  obtain ⟨W, hW⟩ : ∃ W, W = w0.alloc (.cells #[.int .i64 0, .slice none 0 0] 25) := ⟨_, rfl⟩
  have hs0 : w0.heap.size = w.heap.size + 1 := by rw [hw0]; simp
  have hsW : W.heap.size = w.heap.size + 2 := by rw [hW]; simp [hs0]
  have hb0 : Below w.heap.size w w0 := by rw [hw0]; exact (Below.refl _ _).alloc (Nat.le_refl _) _
  have HBA : Hid (Below w.heap.size w W) := by rw [hW]; exact hb0.alloc (by omega) _
  have a0 : W.heap[w.heap.size]? = some (.cells #[.int .i64 N, .slice ao bs.length cap] 25 (0, 0)) := by
    rw [hW]; exact (Below.heap_alloc _ _ _ (by omega)).trans (by rw [hw0]; exact heap_alloc_new w _)
  have a1 : W.heap[w.heap.size + 1]? = some (.cells #[.int .i64 0, .slice none 0 0] 25 (0, 0)) := by
    rw [hW, ← hs0]; exact heap_alloc_new w0 _
  have hpb := lt_of_cell hp
  have HC : Hid (∀ W', Below W.heap.size W W' → W'.heap[w.heap.size]? = some (.cells #[.int .i64 N, .slice ao bs.length cap] 25 (0, 0)) ∧ W'.heap[w.heap.size + 1]? = some (.cells #[.int .i64 0, .slice none 0 0] 25 (0, 0)) ∧ Sl w.heap.size 3 W' (.slice ao bs.length cap) (ints bs) ∧ W'.cell? ⟨bp, 0, none⟩ = some (.int .i64 i) ∧ Below w.heap.size w W') := fun W' h =>
    have hb : Below w.heap.size w W' := HBA.out.trans (h.mono HBA.out.size)
    ⟨(h.block _ (by omega)).trans a0, (h.block _ (by omega)).trans a1, hv.below hb (Nat.le_refl _), (hb.cell hpb).trans hp, hb⟩
  have HCK : Hid (Calls Tryd.prog 15 #[.agg #[.int .i64 N, .slice ao bs.length cap]] W fun e w' => e = .returned (.int .i64 (matE N bs)) ∧ Below W.heap.size W w') :=
    checkM_any N bs _ W ((hv.below HBA.out (Nat.le_refl _)).more HBA.out.size) hl (hT.below HBA.out)
  have HFIN : Hid (∀ (W' : World) (z : Int) (u : Value) (xs : List Int), W'.heap[w.heap.size + 1]? = some (.cells #[.int .i64 0, .slice none 0 0] 25 (0, 0)) → Below w.heap.size w W' → Sl 0 3 W' u (ints xs) →
      Sl 0 3 ((W'.setCell ⟨w.heap.size + 1, 0, none⟩ (.int .i64 z)).setCell ⟨w.heap.size + 1, 1, none⟩ u) u (ints xs) ∧ Below w.heap.size w ((W'.setCell ⟨w.heap.size + 1, 0, none⟩ (.int .i64 z)).setCell ⟨w.heap.size + 1, 1, none⟩ u)) := fun W' z u xs hr hb hs => by
    refine ⟨hs.move fun b hb ht => ?_, (hb.setCell (by simp) _).setCell (by simp) _⟩
    rcases ht with ht | ⟨cur, ht⟩
    · omega
    · have hne : b ≠ w.heap.size + 1 := fun e => by
        rw [e, hr] at ht
        simp at ht
      exact ⟨(Below.heap_setCell _ _ _ _ (by show b ≠ w.heap.size + 1; exact hne)).trans (Below.heap_setCell _ _ _ _ (by show b ≠ w.heap.size + 1; exact hne)), .inr ⟨cur, ht⟩⟩
  have cA0 : (w.alloc (.cells #[.int .i64 N, .slice ao bs.length cap] 25)).cell? ⟨w.heap.size, 0, none⟩ = some (.int .i64 N) := by simp
  clear hv hT hp hb0 a0 a1 hpb
  go_enter Tryd.func17, Tryd.ntmps17
  have hWW : W = (w.alloc (.cells #[.int .i64 N, .slice ao bs.length cap] 25)).alloc (.cells #[.int .i64 0, .slice none 0 0] 25) := by rw [hW, hw0]
  have HWW : Hid (W = (w.alloc (.cells #[.int .i64 N, .slice ao bs.length cap] 25)).alloc (.cells #[.int .i64 0, .slice none 0 0] 25)) := hWW
  have gA0 : ((w.alloc (.cells #[.int .i64 N, .slice ao bs.length cap] 25)).alloc (.cells #[.int .i64 0, .slice none 0 0] 25)).cell? ⟨w.heap.size, 0, none⟩ = some (.int .i64 N) := by
    rw [← hWW]; have := (HC.out W (Below.refl _ _)).1; simp [World.cell?, this]
  have gA1 : ((w.alloc (.cells #[.int .i64 N, .slice ao bs.length cap] 25)).alloc (.cells #[.int .i64 0, .slice none 0 0] 25)).cell? ⟨w.heap.size, 1, none⟩ = some (.slice ao bs.length cap) := by
    rw [← hWW]; have := (HC.out W (Below.refl _ _)).1; simp [World.cell?, this]
  clear hWW hW hw0 hs0 cA0
  have HSW : Hid (W.heap.size = w.heap.size + 2) := hsW
  clear hsW
  go_wp2_with fail
  rw [← HWW.out]
  clear gA0 gA1 HWW
  refine HCK.out.mono ?_
  rintro e w1 ⟨rfl, hb1⟩
  have HB1 : Hid (Below W.heap.size W w1) := hb1
  obtain ⟨r0, r1, -, -, hbw⟩ := HC.out w1 hb1
  have HBF : Hid (Below w.heap.size w w1) := hbw
  have HR1 : Hid (w1.heap[w.heap.size + 1]? = some (.cells #[.int .i64 0, .slice none 0 0] 25 (0, 0))) := r1
  have d0 : w1.cell? ⟨w.heap.size, 0, none⟩ = some (.int .i64 N) := by simp [World.cell?, r0]
  have d1 : w1.cell? ⟨w.heap.size, 1, none⟩ = some (.slice ao bs.length cap) := by simp [World.cell?, r0]
  have x0 : w1.cell? ⟨w.heap.size + 1, 0, none⟩ = some (.int .i64 0) := by simp [World.cell?, r1]
  have x1 : w1.cell? ⟨w.heap.size + 1, 1, none⟩ = some (.slice none 0 0) := by simp [World.cell?, r1]
  have y0 : w1.frozen? ⟨w.heap.size + 1, 0, none⟩ = false := by simp [World.frozen?, r1]
  have y1 : w1.frozen? ⟨w.heap.size + 1, 1, none⟩ = false := by simp [World.frozen?, r1]
  clear hb1 HCK hbw r0 r1
  by_cases hm : matE N bs ≠ 0
  · have HE : Hid (thE N bs i = matE N bs) := if_pos hm
    have HA : Hid (mnN N bs i = 0) := if_neg (by rw [HE.out]; exact hm)
    have HL : Hid (mnB N bs i dlP = []) := if_neg (by rw [HE.out]; exact hm)
    have q1 : (matE N bs != 0) = true := by simpa using hm
    obtain ⟨k1, k2⟩ := HFIN.out w1 0 (.slice none 0 0) [] HR1.out HBF.out (Sl.nil _ _ _)
    have K1 : Hid _ := k1
    have K2 : Hid _ := k2
    clear hm k1 k2
    generalize matE N bs = E at *
    go_wp2
    exact bodyPost_ret (v := .tuple #[.agg #[.int .i64 0, .slice none 0 0], .int .i64 E]) (by simp [results, Tryd.results17, go_sem, *]) rfl ⟨_, by rw [HA.out, HE.out], by rw [HL.out]; exact K1.out, K2.out⟩
  have hm0 : matE N bs = 0 := by omega
  obtain ⟨hb8, hN0, hN8⟩ := mat_b8 hm0
  have HB8 : Hid (B8 bs) := hb8
  obtain ⟨n, rfl⟩ : ∃ n : Nat, N = (n : Int) := ⟨N.toNat, by omega⟩
  have hn8 : n ≤ 8 := by omega
  have HE : Hid (thE (n : Int) bs i = if i < 0 ∨ (n : Int) ≤ i then 9 else 0) := if_neg hm
  rw [hm0]
  clear hm hm0 hb8 hN0 hN8
  by_cases hbad : i < 0 ∨ (n : Int) ≤ i
  · have HE9 : Hid (thE (n : Int) bs i = 9) := by rw [HE.out, if_pos hbad]; rfl
    have HA : Hid (mnN (n : Int) bs i = 0) := if_neg (by rw [HE9.out]; decide)
    have HL : Hid (mnB (n : Int) bs i dlP = []) := if_neg (by rw [HE9.out]; decide)
    obtain ⟨k1, k2⟩ := HFIN.out w1 0 (.slice none 0 0) [] HR1.out HBF.out (Sl.nil _ _ _)
    have K1 : Hid _ := k1
    have K2 : Hid _ := k2
    clear k1 k2 HE
    by_cases hneg : i < 0
    · have q2 : decide (i < 0) = true := decide_eq_true hneg
      clear hbad hneg
      go_wp2
      exact bodyPost_ret (v := .tuple #[.agg #[.int .i64 0, .slice none 0 0], .int .i64 9]) (by simp [results, Tryd.results17, go_sem, *]) rfl ⟨_, by rw [HA.out, HE9.out], by rw [HL.out]; exact K1.out, K2.out⟩
    · have q2 : decide (i < 0) = false := decide_eq_false hneg
      have q3 : decide ((n : Int) ≤ i) = true := decide_eq_true (by omega)
      clear hbad hneg
      go_wp2
      exact bodyPost_ret (v := .tuple #[.agg #[.int .i64 0, .slice none 0 0], .int .i64 9]) (by simp [results, Tryd.results17, go_sem, *]) rfl ⟨_, by rw [HA.out, HE9.out], by rw [HL.out]; exact K1.out, K2.out⟩
  obtain ⟨I, rfl⟩ : ∃ I : Nat, i = (I : Int) := ⟨i.toNat, by omega⟩
  have hI : I < n := by omega
  have HE0 : Hid (thE (n : Int) bs (I : Int) = 0) := by rw [HE.out, if_neg hbad]; rfl
  have HA : Hid (mnN (n : Int) bs (I : Int) = ((n - 1 : Nat) : Int)) := by show _ = _; rw [mnN, if_pos HE0.out]; omega
  have HL : Hid (mnB (n : Int) bs (I : Int) dlP = mnL bs I (dlP I)) := if_pos HE0.out
  have q2 : decide ((I : Int) < 0) = false := decide_eq_false (by omega)
  have q3 : decide ((n : Int) ≤ (I : Int)) = false := decide_eq_false (by omega)
  have q3' : decide (n ≤ I) = false := decide_eq_false (by omega)
  have q4 : IntKind.i64.wrap ((n : Int) - 1) = ((n - 1 : Nat) : Int) := by rw [show (n : Int) - 1 = ((n - 1 : Nat) : Int) by omega]; exact wrap_small (by omega)
  have HWO : Hid (∀ W' (b : Nat), b < 256 → Calls Tryd.prog 28 #[.int .i64 b, .int .i64 I] W' fun e w' => e = .returned (.int .i64 (lesI I b)) ∧ w' = W') := fun W' b hb => without_any b I W' hb (by omega)
  have HCL : Hid (∀ W' (b : Nat), b < 256 → Below W.heap.size W W' → Calls Tryd.prog 18 #[.int .i64 b, .pointer (some ⟨bp, 0, none⟩)] W' fun e w' => e = .returned (.bool (dlP I b)) ∧ w' = W') := fun W' b hb h => del1_any b I bp W' hb (by omega) (HC.out W' h).2.2.2.1
  clear hbad HE x0 x1 y0 y1
  have hsz1 : W.heap.size ≤ w1.heap.size := HB1.out.size
  go_wp2
  go_loopw [9, 10, 12, 31] (fun kv av _ x wr => ∃ k : Nat, k ≤ bs.length ∧ x = .int .i64 k ∧ Two w1.heap.size w1 wr kv av (kpL bs I (dlP I) k) (alL bs I k)) (fun _ _ _ x _ => bs.length - (intOf x).toNat)
  case atStart => exact ⟨0, Nat.zero_le _, rfl, World.ownsRow_nil _ _ _ _, World.ownsRow_nil _ _ _ _, (fun g h => by simp [Value.ownBlock] at h), Below.refl _ _⟩
  case round =>
    obtain ⟨k, hk, rfl, htw⟩ := hrel
    have HTW : Hid (Two w1.heap.size w1 wr u9 u10 (kpL bs I (dlP I) k) (alL bs I k)) := htw
    have hsz : w1.heap.size ≤ wr.heap.size := htw.bel.size
    have HBW : Hid (Below W.heap.size W wr) := HB1.out.trans (htw.bel.mono hsz1)
    have hkl := kpL_len bs I k (dlP I)
    have hal := alL_len bs I k
    obtain ⟨r0, r1, hsl, -, hbw⟩ := HC.out wr HBW.out
    clear htw
    by_cases hlt : k < bs.length
    · obtain ⟨gb, gq, gcc, hs, _, hcc⟩ := sl_cell hsl hlt
      simp only [Value.slice.injEq] at hs
      obtain ⟨rfl, -, rfl⟩ := hs
      obtain ⟨hx0, hx8⟩ := HB8.out (bs.getD k 0) (by simp [hlt])
      obtain ⟨y, hy⟩ : ∃ y : Nat, bs.getD k 0 = (y : Int) := ⟨(bs.getD k 0).toNat, by omega⟩
      have hy8 : y < 256 := by omega
      have HKS : Hid (kpL bs I (dlP I) (k + 1) = kpL bs I (dlP I) k ++ (if dlP I (y : Int) = true then [lesI I (y : Int)] else [])) := by rw [← hy]; exact kpL_succ hlt
      have HAS : Hid (alL bs I (k + 1) = alL bs I k ++ [lesI I (y : Int)]) := by rw [← hy]; exact alL_succ hlt
      rw [hy] at hcc
      have kI : (k : Int) < (bs.length : Int) := by omega
      have kI0 : (0 : Int) ≤ (k : Int) := by omega
      have HWY := HWO.out wr y hy8
      have HWYH : Hid (∀ W', Calls Tryd.prog 28 #[.int .i64 y, .int .i64 I] W' fun e w' => e = .returned (.int .i64 (lesI I y)) ∧ w' = W') := fun W' => HWO.out W' y hy8
      have HCY : Hid (∀ W', Below W.heap.size W W' → Calls Tryd.prog 18 #[.int .i64 y, .pointer (some ⟨bp, 0, none⟩)] W' fun e w' => e = .returned (.bool (dlP I y)) ∧ w' = W') := fun W' h => HCL.out W' y hy8 h
      clear hx0 hx8 hy hsl HWY r0 r1 hbw
      generalize kpL bs I (dlP I) k = K at *
      generalize alL bs I k = A at *
      generalize lesI I (y : Int) = L at *
      obtain ⟨xo, xc, hxv⟩ := owns_form HTW.out.a
      subst hxv
      obtain ⟨ko, kc, hkv⟩ := owns_form HTW.out.k
      subst hkv
      go_wp2_with fail
      refine (HWYH.out wr).mono ?_
      rintro e w2 ⟨rfl, hw2⟩
      subst hw2
      have HOA : Hid (w2.ownsRow w1.heap.size 3 1 (.slice xo A.length xc) A.length (ints A)) := HTW.out.a
      go_wp2_with (first | (at_builtin; refine wpList_append_own_at _ rfl _ _ 22 rfl w1.heap.size 3 i3 (.int .i64 0) 1 8 Tryd.underlying22 hi3 hz30 hz31 hz32 rfl (by decide) _ _ _ rfl (HOA.out.alloc _) ⟨w2.heap.size, 0, none⟩ 1 1 [.int .i64 L] rfl rfl (one_new _ _ _) (one_int _) ?c3 ?c4 ?c5 ?_))
      case c3 => unfold maxLen; omega
      case c4 => omega
      case c5 => first | exact hsz | (simp; omega)
      intro v' w5 ho5 hg5 _ hat5
      have HT5 : Hid (Two w1.heap.size w1 w5 (.slice ko K.length kc) v' K (A ++ [L])) := HTW.out.pushA hsz ho5 hg5 hat5
      have hsz5 : w1.heap.size ≤ w5.heap.size := HT5.out.bel.size
      have HB5 : Hid (Below W.heap.size W w5) := HB1.out.trans (HT5.out.bel.mono hsz1)
      clear ho5 hg5 hat5 HTW HOA hcc
      have hof := owns_form HT5.out.a
      rw [List.length_append, List.length_singleton] at hof
      obtain ⟨vo, vc, hvv5⟩ := hof
      subst hvv5
      go_wp2_with fail
      refine (HCY.out w5 HB5.out).mono ?_
      rintro e w6 ⟨rfl, hw6⟩
      subst hw6
      generalize dlP I (y : Int) = fb at *
      cases fb
      · have HK2 : Hid (kpL bs I (dlP I) (k + 1) = K) := by show _ = _; rw [HKS.out]; simp
        clear HKS
        go_wp2
        exact ⟨⟨k + 1, by omega, by go_num, by rw [HK2.out, HAS.out]; exact HT5.out⟩, by simp [intOf]; omega⟩
      · have HK2 : Hid (kpL bs I (dlP I) (k + 1) = K ++ [L]) := by show _ = _; rw [HKS.out]; simp
        clear HKS
        have HOK : Hid (w6.ownsRow w1.heap.size 3 1 (.slice ko K.length kc) K.length (ints K)) := HT5.out.k
        go_wp2_with fail
        refine (HWYH.out w6).mono ?_
        rintro e w7 ⟨rfl, hw7⟩
        subst hw7
        go_wp2_with (first | (at_builtin; refine wpList_append_own_at _ rfl _ _ 22 rfl w1.heap.size 3 i3 (.int .i64 0) 1 8 Tryd.underlying22 hi3 hz30 hz31 hz32 rfl (by decide) _ _ _ rfl (HOK.out.alloc _) ⟨w7.heap.size, 0, none⟩ 1 1 [.int .i64 L] rfl rfl (one_new _ _ _) (one_int _) ?c3 ?c4 ?c5 ?_))
        case c3 => unfold maxLen; omega
        case c4 => omega
        case c5 => first | exact hsz5 | (simp; omega)
        intro v9 w9 ho9 hg9 _ hat9
        have HT9 : Hid (Two w1.heap.size w1 w9 v9 (.slice vo (A.length + 1) vc) (K ++ [L]) (A ++ [L])) := (HT5.out.swap.pushA hsz5 ho9 hg9 hat9).swap
        clear ho9 hg9 hat9 HT5 HOK
        go_wp2
        exact ⟨⟨k + 1, by omega, by go_num, by rw [HK2.out, HAS.out]; exact HT9.out⟩, by simp [intOf]; omega⟩
    · have hke : k = bs.length := by omega
      subst hke
      have HMN : Hid (mnL bs I (dlP I) = if (kpL bs I (dlP I) bs.length).length = 0 then alL bs I bs.length else kpL bs I (dlP I) bs.length) := rfl
      have d0 : wr.cell? ⟨w.heap.size, 0, none⟩ = some (.int .i64 n) := by simp [World.cell?, r0]
      have x0 : wr.cell? ⟨w.heap.size + 1, 0, none⟩ = some (.int .i64 0) := by simp [World.cell?, r1]
      have x1 : wr.cell? ⟨w.heap.size + 1, 1, none⟩ = some (.slice none 0 0) := by simp [World.cell?, r1]
      have y0 : wr.frozen? ⟨w.heap.size + 1, 0, none⟩ = false := by simp [World.frozen?, r1]
      have y1 : wr.frozen? ⟨w.heap.size + 1, 1, none⟩ = false := by simp [World.frozen?, r1]
      have HR9 : Hid (wr.heap[w.heap.size + 1]? = some (.cells #[.int .i64 0, .slice none 0 0] 25 (0, 0))) := r1
      have HB9 : Hid (Below w.heap.size w wr) := hbw
      clear r0 r1 hbw hsl hlt
      generalize kpL bs I (dlP I) bs.length = K at *
      generalize alL bs I bs.length = A at *
      obtain ⟨xo, xc, hxv⟩ := owns_form HTW.out.a
      subst hxv
      obtain ⟨ko, kc, hkv⟩ := owns_form HTW.out.k
      subst hkv
      by_cases hK : K.length = 0
      · have HM2 : Hid (mnL bs I (dlP I) = A) := by show _ = _; rw [HMN.out, if_pos hK]
        have q5 : ((K.length : Int) == 0) = true := by rw [hK]; rfl
        obtain ⟨k1, k2⟩ := HFIN.out wr ((n - 1 : Nat) : Int) (.slice xo A.length xc) A HR9.out HB9.out (Sl.own HTW.out.a)
        have K1 : Hid _ := k1
        have K2 : Hid _ := k2
        clear k1 k2 hK HTW HMN
        go_wp2
        exact bodyPost_ret (v := .tuple #[.agg #[.int .i64 ((n - 1 : Nat) : Int), .slice xo A.length xc], .int .i64 0]) (by simp [results, Tryd.results17, go_sem, *]) rfl ⟨_, by rw [HA.out, HE0.out], by rw [HL.out, HM2.out]; exact K1.out, K2.out⟩
      · have HM2 : Hid (mnL bs I (dlP I) = K) := by show _ = _; rw [HMN.out, if_neg hK]
        have q5 : ((K.length : Int) == 0) = false := by rw [beq_eq_false_iff_ne]; omega
        obtain ⟨k1, k2⟩ := HFIN.out wr ((n - 1 : Nat) : Int) (.slice ko K.length kc) K HR9.out HB9.out (Sl.own HTW.out.k)
        have K1 : Hid _ := k1
        have K2 : Hid _ := k2
        clear k1 k2 hK HTW HMN
        go_wp2
        exact bodyPost_ret (v := .tuple #[.agg #[.int .i64 ((n - 1 : Nat) : Int), .slice ko K.length kc], .int .i64 0]) (by simp [results, Tryd.results17, go_sem, *]) rfl ⟨_, by rw [HA.out, HE0.out], by rw [HL.out, HM2.out]; exact K1.out, K2.out⟩

end Go.Proofs.YteflgnggopcdcaaDoor
