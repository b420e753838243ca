import Derived.Test.YtkdileeahbaobaaDoorMs0
import Derived.Test.YtkdileeahbaobaaDoorTk1
import Derived.Test.YtkdileeahbaobaaDoorMs10
import Derived.Test.YtkdileeahbaobaaDoorMsC
import Derived.Test.YtkdileeahbaobaaDoorMdA
import Derived.Test.YtkdileeahbaobaaDoorMsB
import Derived.Test.YtkdileeahbaobaaDoorGmB
/- facetref.CircuitsOf. -/
namespace Go.Proofs.YtkdileeahbaobaaDoor
open Go.RowKit
attribute [local go_sem ↓] Go.wp_at_zero Go.wp_at_succ

/-- Each thing of a set taken out leaves a free one: the first things. -/
def leD (bs : List Int) (s k : Nat) : Bool := ((mem8 s).take k).all fun i => freeB bs (outN s (2 ^ i.toNat))

theorem leD_succ {bs : List Int} {s k : Nat} (h : k < (mem8 s).length) : leD bs s (k + 1) = (leD bs s k && freeB bs (outN s (2 ^ ((mem8 s).getD k 0).toNat))) := by
  unfold leD
  rw [List.take_succ_eq_append_getElem h, List.all_append]
  simp [h]

theorem circ_free {bs : List Int} {s : Nat} (h : freeB bs s = true) : circB bs s = false := by
  unfold circB; rw [h]; rfl

theorem circ_hang {bs : List Int} {s : Nat} (h : freeB bs s = false) : circB bs s = leD bs s (mem8 s).length := by
  unfold circB leD
  rw [h, List.take_length, List.not_any_eq_all_not]
  simp

theorem circ_zero {bs : List Int} (h : 0 < bs.length) : circB bs 0 = false :=
  circ_free (free_iff.2 ⟨0, h, fun i hi => by simp at hi⟩)

end Go.Proofs.YtkdileeahbaobaaDoor

/- facetref.Ranks. -/
namespace Go.Proofs.YtkdileeahbaobaaDoor
open Go.RowKit
attribute [local go_sem ↓] Go.wp_at_zero Go.wp_at_succ

/-- Ranks under way: the first ones are there, one grows, the others are 0. -/
def rkF (bs : List Int) (k j s : Nat) : Nat := if s < k then rkN bs s else if s = k then rkTo bs s j else 0

theorem rkF_set {bs : List Int} {k j s q : Nat} (h : q = rkTo bs k (j + 1)) : (if s = k then (.int .i64 (q : Int) : Value) else .int .i64 (rkF bs k j s : Int)) = .int .i64 (rkF bs k (j + 1) s : Int) := by
  by_cases e : s = k
  · subst e
    rw [if_pos rfl, h]
    simp [rkF]
  · rw [if_neg e]
    simp [rkF, e]

theorem rkF_keep {bs : List Int} {k j s : Nat} (h : rkTo bs k (j + 1) = rkTo bs k j) : rkF bs k j s = rkF bs k (j + 1) s := by
  unfold rkF
  by_cases e : s = k
  · subst e; simp [h]
  · simp [e]

theorem rkF_next (bs : List Int) (k s : Nat) : rkF bs k bs.length s = rkF bs (k + 1) 0 s := by
  unfold rkF
  by_cases e : s = k
  · subst e; simp [rkN]
  · by_cases h : s < k
    · simp [h, show s < k + 1 by omega]
    · by_cases h2 : s = k + 1
      · subst h2; simp [rkTo, show ¬ k + 1 < k by omega]
      · simp [h, e, h2, show ¬ s < k + 1 by omega]

end Go.Proofs.YtkdileeahbaobaaDoor

/- facetref.FlatsOf. -/
namespace Go.Proofs.YtkdileeahbaobaaDoor
open Go.RowKit
attribute [local go_sem ↓] Go.wp_at_zero Go.wp_at_succ

theorem bitD0 (s k : Nat) : (((s : Int) / 2 ^ k).tmod 2 == 0) = !s.testBit k := by
  have eq0 : (s : Int) / 2 ^ k = ((s / 2 ^ k : Nat) : Int) := by simp
  rw [eq0, Nat.testBit_eq_decide_div_mod_eq]
  generalize s / 2 ^ k = q
  have h2 : ((q : Int)).tmod 2 = ((q % 2 : Nat) : Int) := by rw [Int.tmod_eq_emod_of_nonneg (by omega)]; omega
  rw [h2]
  rcases Nat.mod_two_eq_zero_or_one q with h | h <;> rw [h] <;> rfl

end Go.Proofs.YtkdileeahbaobaaDoor

/- facetref.RankOf. -/
namespace Go.Proofs.YtkdileeahbaobaaDoor
open Go.RowKit
attribute [local go_sem ↓] Go.wp_at_zero Go.wp_at_succ

end Go.Proofs.YtkdileeahbaobaaDoor

/- What both sides answer is the same: dual bases, and bases without a thing. -/
namespace Go.Proofs.YtkdileeahbaobaaDoor
open Go.RowKit

theorem mat_st {n : Nat} {bs : List Int} (h : matE (n : Int) bs = 0) : Ris bs ∧ Bn (2 ^ n) bs ∧ 0 < bs.length := by
  obtain ⟨-, hN0, hN8⟩ := mat_b8 h
  have hn8 : n ≤ 8 := by omega
  have hl : 0 < bs.length := by
    rcases Nat.eq_zero_or_pos bs.length with h0 | h0
    · exfalso
      unfold matE at h
      rw [h0] at h
      simp at h
      omega
    · exact h0
  have hst : ∀ i, i < bs.length → stepE n bs i = 0 := by
    rw [matE_ok hn8 hl] at h
    by_cases hs : scanE (stepE n bs) bs.length ≠ 0
    · rw [if_pos hs] at h
      exact absurd h hs
    · intro i hi
      have hs0 : scanE (stepE n bs) bs.length = 0 := by omega
      rcases Classical.em (∃ k, k < bs.length ∧ stepE n bs k ≠ 0) with ⟨k, hk, hne⟩ | hno
      · exfalso
        have hex : ∃ k, k < bs.length ∧ stepE n bs k ≠ 0 ∧ ∀ i, i < k → stepE n bs i = 0 := by
          induction k using Nat.strongRecOn with
          | ind k ih =>
            rcases Classical.em (∃ j, j < k ∧ stepE n bs j ≠ 0) with ⟨j, hj, hj2⟩ | hn
            · exact ih j hj (by omega) hj2
            · exact ⟨k, hk, hne, fun i hi => Classical.byContradiction fun h => hn ⟨i, hi, h⟩⟩
        obtain ⟨k, hk, hne, hall⟩ := hex
        have := scan_hit (f := stepE n bs) hall hne hk
        rw [hs0] at this
        exact hne this.symm
      · exact Classical.byContradiction fun h => hno ⟨i, hi, h⟩
  refine ⟨st_ris hst, fun b hb => ?_, hl⟩
  obtain ⟨k, hk, rfl⟩ := List.getElem_of_mem hb
  have h0 := step0.1 (hst k hk)
  have h1 := h0.lo
  have h2 := h0.hi
  rw [show bs.getD k 0 = bs[k] by simp [hk]] at h1 h2
  exact ⟨h1, by simpa using h2⟩

theorem duF_eq {n : Nat} {bs : List Int} (hn : n ≤ 8) (hb : Bn (2 ^ n) bs) {x : Nat} (hx : x < bs.length) : duF (2 ^ n) bs x = leaI (2 ^ n) (bs.getD x 0) := by
  have h := hb (bs.getD x 0) (by simp [hx])
  unfold duF leaI
  rw [full_sub8 n hn _ (by omega)]

theorem du_ris {n : Nat} {bs : List Int} (hn : n ≤ 8) (hr : Ris bs) (hb : Bn (2 ^ n) bs) : Ris ((dnL bs.length).map (duF (2 ^ n) bs)) := by
  unfold Ris
  rw [List.pairwise_map]
  unfold dnL
  rw [List.pairwise_reverse]
  refine List.Pairwise.imp_of_mem (fun {i j} hi hj hij => ?_) (List.pairwise_lt_range (n := bs.length))
  simp only [List.mem_range] at hi hj
  rw [duF_eq hn hb hi, duF_eq hn hb hj]
  have h1 := hb (bs.getD i 0) (by simp [hi])
  have h2 := hb (bs.getD j 0) (by simp [hj])
  have h3 := ris_get hr hij hj
  unfold leaI
  omega

theorem du_mem {n : Nat} {bs : List Int} (hn : n ≤ 8) (hb : Bn (2 ^ n) bs) (x : Int) : x ∈ duL (2 ^ n) bs bs.length ↔ x ∈ (dnL bs.length).map (duF (2 ^ n) bs) := by
  unfold duL dnL
  rw [List.take_length]
  simp only [List.mem_map, List.mem_reverse, List.mem_range]
  constructor
  · rintro ⟨b, hb2, rfl⟩
    obtain ⟨k, hk, rfl⟩ := List.getElem_of_mem hb2
    exact ⟨k, hk, by rw [duF_eq hn hb hk, show bs.getD k 0 = bs[k] by simp [hk]]⟩
  · rintro ⟨k, hk, rfl⟩
    exact ⟨bs[k], List.getElem_mem _, by rw [duF_eq hn hb hk, show bs.getD k 0 = bs[k] by simp [hk]]⟩

theorem wiP_del (i : Nat) : wiP false i = dlP i := by
  funext b
  unfold wiP dlP
  cases b.toNat.testBit i <;> rfl

theorem wiP_con (i : Nat) : wiP true i = cnP i := by
  funext b
  unfold wiP cnP
  cases b.toNat.testBit i <;> rfl

theorem les_ris {bs : List Int} {i : Nat} (hi : i < 8) (hr : Ris bs) (hb : B8 bs) {c : Bool} (hc : ∀ b ∈ bs, b.toNat.testBit i = c) : Ris (bs.map (lesI i)) := by
  unfold Ris
  rw [List.pairwise_map]
  refine List.Pairwise.imp_of_mem (fun {a b} ha hb2 hab => ?_) hr
  have h1 := hb a ha
  have h2 := hb b hb2
  have := lesN_rise (a := a.toNat) (b := b.toNat) hi (by omega) (by rw [hc a ha, hc b hb2])
  unfold lesI
  omega

theorem mn_ris {bs : List Int} {i : Nat} {wi : Bool} (hi : i < 8) (hr : Ris bs) (hb : B8 bs) : Ris (mnL bs i (wiP wi i)) := by
  unfold mnL
  split
  · rename_i h
    unfold kpL at h
    rw [List.take_length, List.length_map] at h
    have hf : bs.filter (wiP wi i) = [] := List.eq_nil_of_length_eq_zero h
    rw [List.filter_eq_nil_iff] at hf
    unfold alL
    rw [List.take_length]
    refine les_ris hi hr hb (c := !wi) fun b hb2 => ?_
    have := hf b hb2
    unfold wiP at this
    revert this
    cases b.toNat.testBit i <;> cases wi <;> simp
  · unfold kpL
    rw [List.take_length]
    refine les_ris hi (List.Pairwise.filter _ hr) (fun b hb2 => hb b (List.mem_filter.1 hb2).1) (c := wi) fun b hb2 => ?_
    have := (List.mem_filter.1 hb2).2
    unfold wiP at this
    simpa using this

end Go.Proofs.YtkdileeahbaobaaDoor

/- Dual and minors of a matroid are matroids; how they go into each other. -/
namespace Go.Proofs.YtkdileeahbaobaaDoor
open Go.RowKit

theorem full_bitN (n i : Nat) : (2 ^ n - 1).testBit i = decide (i < n) := Nat.testBit_two_pow_sub_one n i

theorem sub_sz {u v : Nat} (hu : u < 256) (hv : v < 256) (h : Sub u v) (e : szN u = szN v) : u = v :=
  sub_pc hu hv h (by rw [← pc_mem8, ← pc_mem8]; unfold szN at e; omega)

theorem mem_du {n : Nat} {bs : List Int} (h0 : matE (n : Int) bs = 0) (z : Int) : z ∈ duB (n : Int) bs ↔ ∃ B : Nat, (B : Int) ∈ bs ∧ z = ((outN (2 ^ n - 1) B : Nat) : Int) := by
  have hb := (mat_st h0).2.1
  unfold duB
  rw [if_pos h0, Int.toNat_natCast]
  unfold dnL duF
  simp only [List.mem_map, List.mem_reverse, List.mem_range]
  constructor
  · rintro ⟨k, hk, rfl⟩
    have hm : bs.getD k 0 ∈ bs := by simp [hk]
    have := hb _ hm
    exact ⟨(bs.getD k 0).toNat, by rw [Int.toNat_of_nonneg this.1]; exact hm, rfl⟩
  · rintro ⟨B, hB, rfl⟩
    obtain ⟨k, hk, e⟩ := List.getElem_of_mem hB
    exact ⟨k, hk, by rw [show bs.getD k 0 = bs[k] by simp [hk], e, Int.toNat_natCast]⟩

theorem du_bit {n B : Nat} (i : Nat) : (outN (2 ^ n - 1) B).testBit i = (decide (i < n) && !B.testBit i) := by
  rw [outN_bit, full_bitN]

theorem du_mat {n : Nat} {bs : List Int} (h0 : matE (n : Int) bs = 0) : matE (n : Int) (duB (n : Int) bs) = 0 := by
  obtain ⟨q, h⟩ := mat_mto h0
  obtain ⟨hr, hb, hl⟩ := mat_st h0
  refine one_mat (q := n - q) h.n8 ?_ ?_ ?_ ?_
  · unfold duB
    rw [if_pos h0, List.length_map, dnL_len]
    exact hl
  · unfold duB
    rw [if_pos h0, Int.toNat_natCast]
    exact du_ris h.n8 hr hb
  · intro z hz
    obtain ⟨B, hB, rfl⟩ := (mem_du h0 z).1 hz
    refine ⟨_, rfl, Nat.lt_of_le_of_lt (outN_le _ _) (by have := Nat.two_pow_pos n; omega), ?_⟩
    have h1 := sz_split (a := 2 ^ n - 1) (b := B)
    have h2 : (2 ^ n - 1) &&& B = B := Nat.eq_of_testBit_eq fun i => by
      rw [Nat.testBit_and, full_bitN]
      cases e : B.testBit i with
      | false => simp
      | true => simp [bit_lt (h.bas hB).1 e]
    rw [h2, full_sz n h.n8, (h.bas hB).2] at h1
    omega
  · intro A' B' x gA gB hx
    obtain ⟨A, hA, eA⟩ := (mem_du h0 _).1 gA
    obtain ⟨B, hB, eB⟩ := (mem_du h0 _).1 gB
    clear gA gB
    have eA : A' = outN (2 ^ n - 1) A := by omega
    have eB : B' = outN (2 ^ n - 1) B := by omega
    subst eA eB
    rw [du_bit, Bool.and_eq_true, decide_eq_true_eq, Bool.not_eq_true'] at hx
    obtain ⟨hxn, hxA⟩ := hx
    have hn8 := h.n8
    cases hxB : B.testBit x with
    | false =>
      refine ⟨x, by rw [du_bit, hxB]; simp [hxn], by rw [out1_bit]; simp, ?_⟩
      rw [out1_or (by rw [du_bit, hxA]; simp [hxn])]
      exact (mem_du h0 _).2 ⟨A, hA, rfl⟩
    | true =>
      obtain ⟨C, hC, s1, s2⟩ := h.within (a := (A &&& B) ||| 2 ^ x) hA _ B hB (fun i hi => by
        rw [or_bit, Nat.testBit_and] at hi
        by_cases e : x = i
        · subst e; exact hxB
        · simp [e] at hi; exact hi.2) (Nat.le_refl _)
      have hxC : C.testBit x = true := s1 x (by rw [or_bit]; simp)
      have lA := (h.bas hA).1
      have lC := (h.bas hC).1
      have qA := (h.bas hA).2
      have qC := (h.bas hC).2
      have hq := sz_or (s := A) (y := x) (by omega) hxA
      obtain ⟨y, y1, y2⟩ : ∃ y, A.testBit y = true ∧ C.testBit y = false := by
        refine Classical.byContradiction fun hn => ?_
        have : szN (A ||| 2 ^ x) ≤ szN C := szN_mono fun i hi => by
          rw [or_bit] at hi
          by_cases e : x = i
          · subst e; exact hxC
          · simp [e] at hi
            cases e2 : C.testBit i with
            | true => rfl
            | false => exact absurd ⟨i, hi, e2⟩ hn
        omega
      have hyn := bit_lt lA y1
      have hxy : x ≠ y := fun e => by subst e; rw [hxA] at y1; cases y1
      have hyB : B.testBit y = false := by
        cases e : B.testBit y with
        | false => rfl
        | true =>
          have := s1 y (by rw [or_bit, Nat.testBit_and, y1, e]; rfl)
          rw [y2] at this; cases this
      have hq2 := sz_out (s := A ||| 2 ^ x) (x := y) (by omega) (by rw [or_bit, y1]; rfl)
      have hCE : C = outN (A ||| 2 ^ x) (2 ^ y) := by
        refine sub_sz (lt_256 hn8 lC) (lt_256 hn8 (out_ltn (or_ltn lA hxn))) (fun i hi => ?_) (by omega)
        have := s2 i hi
        rw [Nat.testBit_or, or_bit, Nat.testBit_and] at this
        rw [out1_bit, or_bit]
        by_cases e : y = i
        · subst e; rw [y2] at hi; cases hi
        · simp only [e, decide_false, Bool.not_false, Bool.and_true]
          revert this
          cases A.testBit i <;> cases B.testBit i <;> simp
      refine ⟨y, by rw [du_bit, hyB]; simp [hyn], by rw [out1_bit, du_bit, y1]; simp, (mem_du h0 _).2 ⟨C, hC, ?_⟩⟩
      congr 1
      refine Nat.eq_of_testBit_eq fun i => ?_
      rw [or_bit, out1_bit, du_bit, du_bit, hCE, out1_bit, or_bit]
      by_cases e : y = i
      · subst e; simp [hyn]
      · by_cases e2 : x = i
        · subst e2; simp [e]
        · simp [e, e2]

theorem les_bit (s i t : Nat) : (lesN s i).testBit t = s.testBit (if t < i then t else t + 1) := by
  unfold lesN
  rw [Nat.add_comm, Nat.mul_comm, Nat.testBit_two_pow_mul_add _ (Nat.mod_lt _ (Nat.two_pow_pos i))]
  by_cases h : t < i
  · rw [if_pos h, if_pos h, Nat.testBit_mod_two_pow]
    simp [h]
  · rw [if_neg h, if_neg h, Nat.testBit_div_two_pow]
    congr 1
    omega

theorem les_sz : ∀ s, s < 256 → ∀ i, i < 8 → szN (lesN s i) + (if s.testBit i = true then 1 else 0) = szN s := by decide +kernel

theorem les_lt {n s i : Nat} (hs : s < 2 ^ n) (hi : i < n) : lesN s i < 2 ^ (n - 1) := Nat.lt_pow_two_of_testBit _ fun t ht => by
  rw [les_bit, if_neg (by omega)]
  cases e : s.testBit (t + 1) with
  | false => rfl
  | true => have := bit_lt hs e; omega

/-- Bases with a thing, or without; all of them where there is none. -/
def Kp (bs : List Int) (i : Nat) (wi : Bool) (B : Nat) : Prop := (B : Int) ∈ bs ∧ (B.testBit i = wi ∨ ∀ C : Nat, (C : Int) ∈ bs → C.testBit i = !wi)

theorem mem_mn {bs : List Int} {i : Nat} {wi : Bool} (hb : B8 bs) (z : Int) : z ∈ mnL bs i (wiP wi i) ↔ ∃ B : Nat, Kp bs i wi B ∧ z = (lesN B i : Int) := by
  have hn : ∀ b ∈ bs, ∃ B : Nat, b = (B : Int) := fun b hb2 => ⟨b.toNat, by have := hb b hb2; omega⟩
  have hw : ∀ B : Nat, wiP wi i (B : Int) = true ↔ B.testBit i = wi := fun B => by unfold wiP; rw [Int.toNat_natCast]; simp
  unfold mnL
  by_cases h : (kpL bs i (wiP wi i) bs.length).length = 0
  · rw [if_pos h]
    unfold kpL at h
    rw [List.take_length, List.length_map] at h
    have hf : bs.filter (wiP wi i) = [] := List.eq_nil_of_length_eq_zero h
    rw [List.filter_eq_nil_iff] at hf
    have hall : ∀ C : Nat, (C : Int) ∈ bs → C.testBit i = !wi := fun C hC => by
      have h1 : ¬ C.testBit i = wi := fun e => hf _ hC ((hw C).2 e)
      revert h1
      cases C.testBit i <;> cases wi <;> simp
    unfold alL
    rw [List.take_length, List.mem_map]
    constructor
    · rintro ⟨b, hb2, rfl⟩
      obtain ⟨B, rfl⟩ := hn b hb2
      exact ⟨B, ⟨hb2, .inr hall⟩, by unfold lesI; rw [Int.toNat_natCast]⟩
    · rintro ⟨B, ⟨hB, -⟩, rfl⟩
      exact ⟨B, hB, by unfold lesI; rw [Int.toNat_natCast]⟩
  · rw [if_neg h]
    unfold kpL at h ⊢
    rw [List.take_length] at h ⊢
    rw [List.mem_map]
    have hex : ∃ C : Nat, (C : Int) ∈ bs ∧ C.testBit i = wi := by
      rw [List.length_map] at h
      obtain ⟨b, hb2⟩ := List.exists_mem_of_length_pos (Nat.pos_of_ne_zero h)
      obtain ⟨h1, h2⟩ := List.mem_filter.1 hb2
      obtain ⟨C, rfl⟩ := hn b h1
      exact ⟨C, h1, (hw C).1 h2⟩
    constructor
    · rintro ⟨b, hb2, rfl⟩
      obtain ⟨h1, h2⟩ := List.mem_filter.1 hb2
      obtain ⟨B, rfl⟩ := hn b h1
      exact ⟨B, ⟨h1, .inl ((hw B).1 h2)⟩, by unfold lesI; rw [Int.toNat_natCast]⟩
    · rintro ⟨B, ⟨hB, hk⟩, rfl⟩
      refine ⟨B, List.mem_filter.2 ⟨hB, (hw B).2 ?_⟩, by unfold lesI; rw [Int.toNat_natCast]⟩
      rcases hk with hk | hk
      · exact hk
      · obtain ⟨C, hC, e⟩ := hex
        have := hk C hC
        rw [e] at this
        revert this
        cases wi <;> simp

theorem kp_one {bs : List Int} {i : Nat} {wi : Bool} {A B : Nat} (hA : Kp bs i wi A) (hB : Kp bs i wi B) : A.testBit i = B.testBit i := by
  obtain ⟨a1, a2⟩ := hA
  obtain ⟨b1, b2⟩ := hB
  rcases a2 with a2 | a2
  · rcases b2 with b2 | b2
    · rw [a2, b2]
    · rw [b2 A a1, b2 B b1]
  · rw [a2 A a1, a2 B b1]

theorem kp_some {n q : Nat} {bs : List Int} (h : Mto n q bs) (i : Nat) (wi : Bool) : ∃ B : Nat, Kp bs i wi B := by
  rcases Classical.em (∃ B : Nat, (B : Int) ∈ bs ∧ B.testBit i = wi) with ⟨B, h1, h2⟩ | hn
  · exact ⟨B, h1, .inl h2⟩
  · obtain ⟨B, hB⟩ := h.ne
    refine ⟨B, hB, .inr fun C hC => ?_⟩
    have h1 : ¬ C.testBit i = wi := fun e => hn ⟨C, hC, e⟩
    revert h1
    cases C.testBit i <;> cases wi <;> simp

theorem mn_mat {n : Nat} {bs : List Int} (h0 : matE (n : Int) bs = 0) {i : Nat} (hi : i < n) (wi : Bool) : matE ((n - 1 : Nat) : Int) (mnL bs i (wiP wi i)) = 0 := by
  obtain ⟨q, h⟩ := mat_mto h0
  have hn8 := h.n8
  obtain ⟨K, hK⟩ := kp_some h i wi
  have hm := mem_mn (i := i) (wi := wi) h.b8
  refine one_mat (q := q - (if K.testBit i = true then 1 else 0)) (by omega) (List.length_pos_of_mem ((hm _).2 ⟨K, hK, rfl⟩)) (mn_ris (by omega) h.ris h.b8) (fun z hz => ?_) (fun A' B' x gA gB hx => ?_)
  · obtain ⟨B, hB, rfl⟩ := (hm z).1 hz
    have h1 := les_sz B (lt_256 hn8 (h.bas hB.1).1) i (by omega)
    have h2 := (h.bas hB.1).2
    rw [kp_one hB hK] at h1
    exact ⟨_, rfl, les_lt (h.bas hB.1).1 hi, by omega⟩
  · obtain ⟨A, hA, eA⟩ := (hm _).1 gA
    obtain ⟨B, hB, eB⟩ := (hm _).1 gB
    clear gA gB
    have eA : A' = lesN A i := by omega
    have eB : B' = lesN B i := by omega
    subst eA eB
    rw [les_bit] at hx
    obtain ⟨x', hx'⟩ : ∃ x', x' = if x < i then x else x + 1 := ⟨_, rfl⟩
    rw [← hx'] at hx
    have hxi : x' ≠ i := by rw [hx']; split <;> omega
    obtain ⟨y', y1, y2, y3⟩ := h.ex A B x' hA.1 hB.1 hx
    have hyi : y' ≠ i := fun e => by
      subst e
      have := kp_one hA hB
      rw [y1] at this
      rw [out1_bit, this] at y2
      simp [hxi] at y2
    obtain ⟨y, hy⟩ : ∃ y, y' = if y < i then y else y + 1 := by
      by_cases c : y' < i
      · exact ⟨y', by rw [if_pos c]⟩
      · exact ⟨y' - 1, by rw [if_neg (by omega)]; omega⟩
    have hEi : (outN A (2 ^ x') ||| 2 ^ y').testBit i = A.testBit i := by
      rw [or_bit, out1_bit]
      simp [hxi, hyi]
    refine ⟨y, by rw [les_bit, ← hy]; exact y1, ?_, (hm _).2 ⟨_, ⟨y3, ?_⟩, ?_⟩⟩
    · rw [out1_bit] at y2 ⊢
      rw [les_bit, ← hy]
      by_cases e : x = y
      · simp [e]
      · have : x' ≠ y' := by rw [hx', hy]; split <;> split <;> omega
        simp only [this, decide_false, Bool.not_false, Bool.and_true] at y2
        rw [y2]; rfl
    · rw [hEi]
      rcases hA.2 with e | e
      · exact .inl e
      · exact .inr e
    · congr 1
      refine Nat.eq_of_testBit_eq fun t => ?_
      rw [or_bit, out1_bit, les_bit, les_bit, or_bit, out1_bit]
      have e1 : decide (x = t) = decide (x' = if t < i then t else t + 1) := by
        rw [hx', decide_eq_decide]
        split <;> split <;> omega
      have e2 : decide (y = t) = decide (y' = if t < i then t else t + 1) := by
        rw [hy, decide_eq_decide]
        split <;> split <;> omega
      rw [e1, e2]

/-- Leaving out goes into taking for granted, by the dual. -/
theorem du_mn {n : Nat} {bs : List Int} (h0 : matE (n : Int) bs = 0) {i : Nat} (hi : i < n) : mnL (duB (n : Int) bs) i (wiP false i) = duB ((n - 1 : Nat) : Int) (mnL bs i (wiP true i)) := by
  have hd := du_mat h0
  have hm := mn_mat h0 hi true
  have hdm := mn_mat hd hi false
  obtain ⟨q, h⟩ := mat_mto h0
  obtain ⟨q', h'⟩ := mat_mto hd
  have key : ∀ B : Nat, lesN (outN (2 ^ n - 1) B) i = outN (2 ^ (n - 1) - 1) (lesN B i) := fun B => Nat.eq_of_testBit_eq fun t => by
    rw [les_bit, du_bit, du_bit, les_bit]
    congr 1
    rw [decide_eq_decide]
    split <;> omega
  refine ris_eq _ _ (mat_st hdm).1 (mat_st (du_mat hm)).1 fun z => ?_
  rw [mem_mn h'.b8, mem_du hm]
  constructor
  · rintro ⟨D, ⟨hD, hk⟩, rfl⟩
    obtain ⟨B, hB, e⟩ := (mem_du h0 _).1 hD
    have e : D = outN (2 ^ n - 1) B := by omega
    subst e
    refine ⟨lesN B i, (mem_mn h.b8 _).2 ⟨B, ⟨hB, ?_⟩, rfl⟩, by rw [key]⟩
    rcases hk with hk | hk
    · left
      rw [du_bit] at hk
      simpa [hi] using hk
    · right
      intro C hC
      have := hk (outN (2 ^ n - 1) C) ((mem_du h0 _).2 ⟨C, hC, rfl⟩)
      rw [du_bit] at this
      simpa [hi] using this
  · rintro ⟨E, hE, rfl⟩
    obtain ⟨B, ⟨hB, hk⟩, e⟩ := (mem_mn h.b8 _).1 hE
    have e : E = lesN B i := by omega
    subst e
    refine ⟨outN (2 ^ n - 1) B, ⟨(mem_du h0 _).2 ⟨B, hB, rfl⟩, ?_⟩, by rw [key]⟩
    rcases hk with hk | hk
    · left
      rw [du_bit, hk]; simp
    · right
      intro D hD
      obtain ⟨C, hC, e⟩ := (mem_du h0 _).1 hD
      have e : D = outN (2 ^ n - 1) C := by omega
      subst e
      rw [du_bit, hk C hC]
      simp [hi]

/-- Which of two goes first makes no difference. -/
theorem mn_mn {n : Nat} {bs : List Int} (h0 : matE (n : Int) bs = 0) {i j f m : Nat} (hi : i < n) (hj : j < n - 1) (hf : f = if j < i then j else j + 1) (hm : m = if j < i then i - 1 else i) : mnL (mnL bs i (wiP true i)) j (wiP false j) = mnL (mnL bs f (wiP false f)) m (wiP true m) := by
  have hfn : f < n := by rw [hf]; split <;> omega
  have hmn : m < n - 1 := by rw [hm]; split <;> omega
  have hfi : f ≠ i := by rw [hf]; split <;> omega
  have m1 := mn_mat h0 hi true
  have m2 := mn_mat m1 hj false
  have k1 := mn_mat h0 hfn false
  have k2 := mn_mat k1 hmn true
  obtain ⟨q, h⟩ := mat_mto h0
  obtain ⟨q1, h1⟩ := mat_mto m1
  obtain ⟨q2, h2⟩ := mat_mto k1
  have bj : ∀ B : Nat, (lesN B i).testBit j = B.testBit f := fun B => by rw [les_bit, ← hf]
  have bm : ∀ B : Nat, (lesN B f).testBit m = B.testBit i := fun B => by
    rw [les_bit]
    congr 1
    rw [hf, hm]
    split <;> split <;> omega
  have key : ∀ B : Nat, lesN (lesN B i) j = lesN (lesN B f) m := fun B => Nat.eq_of_testBit_eq fun t => by
    rw [les_bit, les_bit, les_bit, les_bit]
    congr 1
    rw [hf, hm]
    repeat' split
    all_goals omega
  have hL : ∀ z : Int, z ∈ mnL (mnL bs i (wiP true i)) j (wiP false j) ↔ ∃ B : Nat, (Kp bs i true B ∧ (B.testBit f = false ∨ ∀ C : Nat, Kp bs i true C → C.testBit f = true)) ∧ z = (lesN (lesN B i) j : Int) := fun z => by
    rw [mem_mn h1.b8]
    constructor
    · rintro ⟨E, ⟨hE, hk⟩, rfl⟩
      obtain ⟨B, hB, e⟩ := (mem_mn h.b8 _).1 hE
      have e : E = lesN B i := by omega
      subst e
      refine ⟨B, ⟨hB, ?_⟩, rfl⟩
      rcases hk with hk | hk
      · exact .inl ((bj B).symm.trans hk)
      · exact .inr fun C hC => (bj C).symm.trans (hk _ ((mem_mn h.b8 _).2 ⟨C, hC, rfl⟩))
    · rintro ⟨B, ⟨hB, hk⟩, rfl⟩
      refine ⟨lesN B i, ⟨(mem_mn h.b8 _).2 ⟨B, hB, rfl⟩, ?_⟩, rfl⟩
      rcases hk with hk | hk
      · exact .inl ((bj B).trans hk)
      · refine .inr fun E hE => ?_
        obtain ⟨C, hC, e⟩ := (mem_mn h.b8 _).1 hE
        have e : E = lesN C i := by omega
        subst e
        exact (bj C).trans (hk C hC)
  have hR : ∀ z : Int, z ∈ mnL (mnL bs f (wiP false f)) m (wiP true m) ↔ ∃ B : Nat, (Kp bs f false B ∧ (B.testBit i = true ∨ ∀ C : Nat, Kp bs f false C → C.testBit i = false)) ∧ z = (lesN (lesN B f) m : Int) := fun z => by
    rw [mem_mn h2.b8]
    constructor
    · rintro ⟨E, ⟨hE, hk⟩, rfl⟩
      obtain ⟨B, hB, e⟩ := (mem_mn h.b8 _).1 hE
      have e : E = lesN B f := by omega
      subst e
      refine ⟨B, ⟨hB, ?_⟩, rfl⟩
      rcases hk with hk | hk
      · exact .inl ((bm B).symm.trans hk)
      · exact .inr fun C hC => (bm C).symm.trans (hk _ ((mem_mn h.b8 _).2 ⟨C, hC, rfl⟩))
    · rintro ⟨B, ⟨hB, hk⟩, rfl⟩
      refine ⟨lesN B f, ⟨(mem_mn h.b8 _).2 ⟨B, hB, rfl⟩, ?_⟩, rfl⟩
      rcases hk with hk | hk
      · exact .inl ((bm B).trans hk)
      · refine .inr fun E hE => ?_
        obtain ⟨C, hC, e⟩ := (mem_mn h.b8 _).1 hE
        have e : E = lesN C f := by omega
        subst e
        exact (bm C).trans (hk C hC)
  have hS : ∀ B : Nat, (Kp bs i true B ∧ (B.testBit f = false ∨ ∀ C : Nat, Kp bs i true C → C.testBit f = true)) ↔ (Kp bs f false B ∧ (B.testBit i = true ∨ ∀ C : Nat, Kp bs f false C → C.testBit i = false)) := fun B => by
    rcases Classical.em (∀ C : Nat, (C : Int) ∈ bs → C.testBit i = false) with nI | sI
    · constructor
      · rintro ⟨⟨hB, -⟩, hk⟩
        refine ⟨⟨hB, ?_⟩, .inr fun C hC => nI C hC.1⟩
        rcases hk with hk | hk
        · exact .inl hk
        · exact .inr fun C hC => hk C ⟨hC, .inr nI⟩
      · rintro ⟨⟨hB, hk⟩, -⟩
        refine ⟨⟨hB, .inr nI⟩, ?_⟩
        rcases hk with hk | hk
        · exact .inl hk
        · exact .inr fun C hC => hk C hC.1
    rcases Classical.em (∀ C : Nat, (C : Int) ∈ bs → C.testBit f = true) with aF | sF
    · constructor
      · rintro ⟨⟨hB, hk⟩, -⟩
        refine ⟨⟨hB, .inr aF⟩, ?_⟩
        rcases hk with hk | hk
        · exact .inl hk
        · exact .inr fun C hC => hk C hC.1
      · rintro ⟨⟨hB, -⟩, hk⟩
        refine ⟨⟨hB, ?_⟩, .inr fun C hC => aF C hC.1⟩
        rcases hk with hk | hk
        · exact .inl hk
        · exact .inr fun C hC => hk C ⟨hC, .inr aF⟩
    obtain ⟨X, hX, xi, xf⟩ : ∃ X : Nat, (X : Int) ∈ bs ∧ X.testBit i = true ∧ X.testBit f = false := by
      obtain ⟨B1, hB1, b1⟩ : ∃ B1 : Nat, (B1 : Int) ∈ bs ∧ B1.testBit i = true := by
        refine Classical.byContradiction fun hn => sI fun C hC => ?_
        cases e : C.testBit i with
        | false => rfl
        | true => exact absurd ⟨C, hC, e⟩ hn
      obtain ⟨B2, hB2, b2⟩ : ∃ B2 : Nat, (B2 : Int) ∈ bs ∧ B2.testBit f = false := by
        refine Classical.byContradiction fun hn => sF fun C hC => ?_
        cases e : C.testBit f with
        | true => rfl
        | false => exact absurd ⟨C, hC, e⟩ hn
      cases e : B1.testBit f with
      | false => exact ⟨B1, hB1, b1, e⟩
      | true =>
        obtain ⟨y, y1, y2, y3⟩ := h.ex B1 B2 f hB1 hB2 e
        have hyf : y ≠ f := fun e => by subst e; rw [b2] at y1; cases y1
        refine ⟨_, y3, ?_, ?_⟩
        · rw [or_bit, out1_bit, b1]; simp [hfi]
        · rw [or_bit, out1_bit]; simp [hyf]
    constructor
    · rintro ⟨⟨hB, hk⟩, hk2⟩
      have bI : B.testBit i = true := by
        rcases hk with hk | hk
        · exact hk
        · exact absurd hk sI
      have bF : B.testBit f = false := by
        rcases hk2 with hk2 | hk2
        · exact hk2
        · have := hk2 X ⟨hX, .inl xi⟩
          rw [xf] at this; cases this
      exact ⟨⟨hB, .inl bF⟩, .inl bI⟩
    · rintro ⟨⟨hB, hk⟩, hk2⟩
      have bF : B.testBit f = false := by
        rcases hk with hk | hk
        · exact hk
        · exact absurd hk sF
      have bI : B.testBit i = true := by
        rcases hk2 with hk2 | hk2
        · exact hk2
        · have := hk2 X ⟨hX, .inl xf⟩
          rw [xi] at this; cases this
      exact ⟨⟨hB, .inl bI⟩, .inl bF⟩
  refine ris_eq _ _ (mat_st m2).1 (mat_st k2).1 fun z => ?_
  rw [hL, hR]
  constructor
  · rintro ⟨B, hB, rfl⟩
    exact ⟨B, (hS B).1 hB, by rw [key]⟩
  · rintro ⟨B, hB, rfl⟩
    exact ⟨B, (hS B).2 hB, by rw [key]⟩

end Go.Proofs.YtkdileeahbaobaaDoor

/- Rank, dual and circuits of a matroid, pure. -/
namespace Go.Proofs.YtkdileeahbaobaaDoor
open Go.RowKit

theorem Mto.rk_ge {n q : Nat} {bs : List Int} (_ : Mto n q bs) {B s : Nat} (hB : (B : Int) ∈ bs) : szN (s &&& B) ≤ rkN bs s := by
  obtain ⟨k, hk, e⟩ := List.getElem_of_mem hB
  have := rkTo_ge bs s bs.length k hk
  rw [show bs.getD k 0 = bs[k] by simp [hk], e, Int.toNat_natCast] at this
  exact this

theorem Mto.rk_some {n q : Nat} {bs : List Int} (h : Mto n q bs) (s : Nat) : ∃ B : Nat, (B : Int) ∈ bs ∧ rkN bs s = szN (s &&& B) := by
  obtain ⟨B0, hB0⟩ := h.ne
  rcases rkTo_some bs s bs.length with h0 | ⟨k, hk, e⟩
  · have := h.rk_ge (s := s) hB0
    refine ⟨B0, hB0, ?_⟩
    unfold rkN at *
    omega
  · have hm : bs.getD k 0 ∈ bs := by simp [hk]
    obtain ⟨B, e1, _⟩ := h.sz _ hm
    rw [e1] at hm
    rw [e1, Int.toNat_natCast] at e
    exact ⟨B, hm, e⟩

theorem sub_and {a b : Nat} : Sub (a &&& b) b := fun i hi => by
  rw [Nat.testBit_and, Bool.and_eq_true] at hi
  exact hi.2

theorem sub_and1 {a b : Nat} : Sub (a &&& b) a := fun i hi => by
  rw [Nat.testBit_and, Bool.and_eq_true] at hi
  exact hi.1

theorem and_of {s t B : Nat} (h : Sub s t) : Sub (s &&& B) (t &&& B) := fun i hi => by
  rw [Nat.testBit_and, Bool.and_eq_true] at hi
  rw [Nat.testBit_and, h i hi.1, hi.2]; rfl

theorem Mto.rk_mono {n q : Nat} {bs : List Int} (h : Mto n q bs) {s t : Nat} (hs : Sub s t) : rkN bs s ≤ rkN bs t := by
  obtain ⟨B, hB, e⟩ := h.rk_some s
  have h1 := h.rk_ge (s := t) hB
  have h2 : szN (s &&& B) ≤ szN (t &&& B) := szN_mono (and_of hs)
  omega

theorem Mto.rk_sz {n q : Nat} {bs : List Int} (h : Mto n q bs) (s : Nat) : rkN bs s ≤ szN s := by
  obtain ⟨B, hB, e⟩ := h.rk_some s
  have h2 : szN (s &&& B) ≤ szN s := szN_mono sub_and1
  omega

theorem Mto.rk_free {n q : Nat} {bs : List Int} (h : Mto n q bs) {I : Nat} (hI : freeB bs I = true) : szN I ≤ rkN bs I := by
  obtain ⟨B, hB, hs⟩ := h.free.1 hI
  have h1 := h.rk_ge (s := I) hB
  have h2 : szN I ≤ szN (I &&& B) := szN_mono fun i hi => by rw [Nat.testBit_and, hi, hs i hi]; rfl
  omega

/-- A free set of s is of a basis that has as much of s as any. -/
theorem Mto.rk_about {n q : Nat} {bs : List Int} (h : Mto n q bs) {s : Nat} : ∀ (m I : Nat), freeB bs I = true → Sub I s → rkN bs s - szN I ≤ m → ∃ B : Nat, (B : Int) ∈ bs ∧ Sub I B ∧ rkN bs s = szN (s &&& B)
  | m, I, hI, hs, hm => by
    by_cases hc : rkN bs s ≤ szN I
    · obtain ⟨B, hB, hsB⟩ := h.free.1 hI
      have h1 := h.rk_ge (s := s) hB
      have h2 : szN I ≤ szN (s &&& B) := szN_mono fun i hi => by rw [Nat.testBit_and, hs i hi, hsB i hi]; rfl
      exact ⟨B, hB, hsB, by omega⟩
    · obtain ⟨B, hB, e⟩ := h.rk_some s
      obtain ⟨y, y1, y2, y3⟩ := h.grow hI (h.free.2 ⟨B, hB, sub_and⟩ : freeB bs (s &&& B) = true) (by omega)
      have hy8 : y < 8 := Nat.lt_of_lt_of_le (bit_lt (h.bas hB).1 (sub_and y y1)) h.n8
      have hsz := sz_or hy8 y2
      match m, hm with
      | 0, hm => omega
      | m + 1, hm =>
        obtain ⟨C, hC, c1, c2⟩ := Mto.rk_about h m (I ||| 2 ^ y) y3 (fun i hi => by
          rw [or_bit] at hi
          by_cases e : y = i
          · subst e; exact sub_and1 y y1
          · simp only [e, decide_false, Bool.or_false] at hi
            exact hs i hi) (by omega)
        exact ⟨C, hC, fun i hi => c1 i (by rw [or_bit, hi]; rfl), c2⟩

theorem sz_two {a b : Nat} : szN (a ||| b) + szN (a &&& b) = szN a + szN b := by
  have h1 := sz_split (a := a ||| b) (b := a)
  have h2 := sz_split (a := b) (b := a)
  have e1 : (a ||| b) &&& a = a := Nat.eq_of_testBit_eq fun i => by
    rw [Nat.testBit_and, Nat.testBit_or]
    cases a.testBit i <;> simp
  have e2 : outN (a ||| b) a = outN b a := Nat.eq_of_testBit_eq fun i => by
    rw [outN_bit, outN_bit, Nat.testBit_or]
    cases a.testBit i <;> simp
  rw [e1, e2] at h1
  rw [Nat.and_comm b a] at h2
  omega

/-- Of two sets, those of both and of either together are no more. -/
theorem Mto.rk_two {n q : Nat} {bs : List Int} (h : Mto n q bs) (a b : Nat) : rkN bs (a ||| b) + rkN bs (a &&& b) ≤ rkN bs a + rkN bs b := by
  obtain ⟨B1, hB1, e1⟩ := h.rk_some (a &&& b)
  obtain ⟨B, hB, hs, e⟩ := h.rk_about (s := a ||| b) _ (a &&& b &&& B1) (h.free.2 ⟨B1, hB1, sub_and⟩) (fun i hi => by
    have := sub_and1 i (sub_and1 i hi)
    rw [Nat.testBit_or, this]; rfl) (Nat.le_refl _)
  have h1 := h.rk_ge (s := a) hB
  have h2 := h.rk_ge (s := b) hB
  have h3 := sz_two (a := a &&& B) (b := b &&& B)
  have e3 : (a &&& B) ||| (b &&& B) = (a ||| b) &&& B := Nat.eq_of_testBit_eq fun i => by
    rw [Nat.testBit_or, Nat.testBit_and, Nat.testBit_and, Nat.testBit_and, Nat.testBit_or]
    cases a.testBit i <;> cases b.testBit i <;> cases B.testBit i <;> rfl
  have h4 : szN (a &&& b &&& B1) ≤ szN ((a &&& B) &&& (b &&& B)) := szN_mono fun i hi => by
    have g1 := sub_and1 i (sub_and1 i hi)
    have g2 := sub_and i (sub_and1 i hi)
    have g3 := hs i hi
    rw [Nat.testBit_and, Nat.testBit_and, Nat.testBit_and, g1, g2, g3]; rfl
  rw [e3] at h3
  omega

theorem full_and {n B : Nat} (hB : B < 2 ^ n) : (2 ^ n - 1) &&& B = B := Nat.eq_of_testBit_eq fun i => by
  rw [Nat.testBit_and, full_bitN]
  cases e : B.testBit i with
  | false => simp
  | true => simp [bit_lt hB e]

theorem Mto.rk_full {n q : Nat} {bs : List Int} (h : Mto n q bs) : rkN bs (2 ^ n - 1) = q := by
  obtain ⟨B, hB, e⟩ := h.rk_some (2 ^ n - 1)
  rw [full_and (h.bas hB).1, (h.bas hB).2] at e
  exact e

theorem du_out {n B : Nat} (hB : B < 2 ^ n) : outN (2 ^ n - 1) (outN (2 ^ n - 1) B) = B := Nat.eq_of_testBit_eq fun i => by
  rw [du_bit, du_bit]
  cases e : B.testBit i with
  | false => simp
  | true => simp [bit_lt hB e]

theorem du_two {n : Nat} {bs : List Int} (h0 : matE (n : Int) bs = 0) : duB (n : Int) (duB (n : Int) bs) = bs := by
  obtain ⟨q, h⟩ := mat_mto h0
  have hd := du_mat h0
  refine ris_eq _ _ (mat_st (du_mat hd)).1 h.ris fun z => ?_
  rw [mem_du hd]
  constructor
  · rintro ⟨D, hD, rfl⟩
    obtain ⟨B, hB, e⟩ := (mem_du h0 _).1 hD
    have e : D = outN (2 ^ n - 1) B := by omega
    subst e
    rw [du_out (h.bas hB).1]
    exact hB
  · intro hz
    obtain ⟨B, rfl, hB, _⟩ := h.sz z hz
    exact ⟨outN (2 ^ n - 1) B, (mem_du h0 _).2 ⟨B, hz, rfl⟩, by rw [du_out hB]⟩

theorem Mto.du_each {n q : Nat} {bs : List Int} (h : Mto n q bs) {a B : Nat} (ha : a < 2 ^ n) (hB : (B : Int) ∈ bs) : szN (a &&& outN (2 ^ n - 1) B) + q = szN a + szN (outN (2 ^ n - 1) a &&& B) := by
  have h1 := sz_split (a := a) (b := B)
  have h2 := sz_split (a := B) (b := a)
  have lB := (h.bas hB).1
  have qB := (h.bas hB).2
  have e1 : a &&& outN (2 ^ n - 1) B = outN a B := Nat.eq_of_testBit_eq fun i => by
    rw [Nat.testBit_and, du_bit, outN_bit]
    cases e : a.testBit i with
    | false => simp
    | true => simp [bit_lt ha e]
  have e2 : outN (2 ^ n - 1) a &&& B = outN B a := Nat.eq_of_testBit_eq fun i => by
    rw [Nat.testBit_and, du_bit, outN_bit]
    cases e : B.testBit i with
    | false => simp
    | true => simp [bit_lt lB e]
  rw [Nat.and_comm B a] at h2
  rw [e1, e2]
  omega

/-- The dual's ranks. -/
theorem rk_du {n : Nat} {bs : List Int} (h0 : matE (n : Int) bs = 0) {a : Nat} (ha : a < 2 ^ n) : rkN (duB (n : Int) bs) a + rkN bs (2 ^ n - 1) = szN a + rkN bs (outN (2 ^ n - 1) a) := by
  obtain ⟨q, h⟩ := mat_mto h0
  obtain ⟨q', h'⟩ := mat_mto (du_mat h0)
  rw [h.rk_full]
  obtain ⟨D, hD, e1⟩ := h'.rk_some a
  obtain ⟨B, hB, e⟩ := (mem_du h0 _).1 hD
  have e : D = outN (2 ^ n - 1) B := by omega
  subst e
  obtain ⟨C, hC, e2⟩ := h.rk_some (outN (2 ^ n - 1) a)
  have h1 := h.du_each ha hB
  have h2 := h.du_each ha hC
  have h3 := h.rk_ge (s := outN (2 ^ n - 1) a) hB
  have h4 := h'.rk_ge (s := a) ((mem_du h0 _).2 ⟨C, hC, rfl⟩)
  omega

theorem circ_iff {bs : List Int} {s : Nat} (hs : s < 256) : circB bs s = true ↔ freeB bs s = false ∧ ∀ x, s.testBit x = true → freeB bs (outN s (2 ^ x)) = true := by
  unfold circB
  rw [Bool.and_eq_true, Bool.not_eq_true', Bool.not_eq_true', List.any_eq_false]
  constructor
  · rintro ⟨h1, h2⟩
    refine ⟨h1, fun x hx => ?_⟩
    have hx8 : x < 8 := bit_lt (n := 8) hs hx
    have := h2 (x : Int) (mem8_iff.2 ⟨x, hx8, hx, rfl⟩)
    simpa using this
  · rintro ⟨h1, h2⟩
    refine ⟨h1, fun z hz => ?_⟩
    obtain ⟨x, _, hx, rfl⟩ := mem8_iff.1 hz
    simp [h2 x hx]

/-- What is not free has a circuit. -/
theorem Mto.has_circ {n q : Nat} {bs : List Int} (h : Mto n q bs) : ∀ (m s : Nat), s < 2 ^ n → szN s ≤ m → freeB bs s = false → ∃ c, c < 2 ^ n ∧ circB bs c = true ∧ Sub c s
  | m, s, hs, hm, hf => by
    rcases Classical.em (∃ x, s.testBit x = true ∧ freeB bs (outN s (2 ^ x)) = false) with ⟨x, hx, hx2⟩ | hn
    · have hx8 : x < 8 := Nat.lt_of_lt_of_le (bit_lt hs hx) h.n8
      have := sz_out hx8 hx
      match m, hm with
      | 0, hm => omega
      | m + 1, hm =>
        obtain ⟨c, c1, c2, c3⟩ := Mto.has_circ h m (outN s (2 ^ x)) (out_ltn hs) (by omega) hx2
        refine ⟨c, c1, c2, fun i hi => ?_⟩
        have := c3 i hi
        rw [out1_bit, Bool.and_eq_true] at this
        exact this.1
    · refine ⟨s, hs, (circ_iff (lt_256 h.n8 hs)).2 ⟨hf, fun x hx => ?_⟩, fun i hi => hi⟩
      cases e : freeB bs (outN s (2 ^ x)) with
      | true => rfl
      | false => exact absurd ⟨x, hx, e⟩ hn

theorem Mto.circ_sub {n q : Nat} {bs : List Int} (h : Mto n q bs) {p r : Nat} (hp : p < 2 ^ n) (hr : r < 2 ^ n) (cp : circB bs p = true) (cr : circB bs r = true) (hs : Sub p r) : p = r := by
  obtain ⟨p1, -⟩ := (circ_iff (lt_256 h.n8 hp)).1 cp
  obtain ⟨-, r2⟩ := (circ_iff (lt_256 h.n8 hr)).1 cr
  refine Nat.eq_of_testBit_eq fun i => ?_
  cases e : p.testBit i with
  | true => rw [hs i e]
  | false =>
    cases e2 : r.testBit i with
    | false => rfl
    | true =>
      have := h.sub (a := p) (fun j hj => by
        rw [out1_bit, hs j hj]
        have : i ≠ j := fun e3 => by subst e3; rw [e] at hj; cases hj
        simp [this]) (r2 i e2)
      rw [p1] at this; cases this

theorem Mto.circ_rk {n q : Nat} {bs : List Int} (h : Mto n q bs) {p : Nat} (hp : p < 2 ^ n) (cp : circB bs p = true) : rkN bs p + 1 ≤ szN p := by
  obtain ⟨p1, -⟩ := (circ_iff (lt_256 h.n8 hp)).1 cp
  obtain ⟨B, hB, e⟩ := h.rk_some p
  have h1 : szN (p &&& B) ≤ szN p := szN_mono sub_and1
  by_cases c : szN (p &&& B) = szN p
  · exfalso
    have h2 : p &&& B = p := sub_sz (lt_256 h.n8 (Nat.lt_of_le_of_lt Nat.and_le_left hp)) (lt_256 h.n8 hp) sub_and1 c
    have : freeB bs p = true := h.free.2 ⟨B, hB, fun i hi => by rw [← h2] at hi; exact sub_and i hi⟩
    rw [p1] at this; cases this
  · omega

/-- Two circuits without a thing that they share have another one. -/
theorem Mto.circ_two {n q : Nat} {bs : List Int} (h : Mto n q bs) {p r e : Nat} (hp : p < 2 ^ n) (hr : r < 2 ^ n) (cp : circB bs p = true) (cr : circB bs r = true) (hne : p ≠ r) (ep : p.testBit e = true) : ∃ c, c < 2 ^ n ∧ circB bs c = true ∧ Sub c (outN (p ||| r) (2 ^ e)) := by
  have hlt : p ||| r < 2 ^ n := Nat.or_lt_two_pow hp hr
  have he8 : e < 8 := Nat.lt_of_lt_of_le (bit_lt hp ep) h.n8
  refine h.has_circ _ _ (out_ltn hlt) (Nat.le_refl _) ?_
  cases ef : freeB bs (outN (p ||| r) (2 ^ e)) with
  | false => rfl
  | true =>
    exfalso
    have h1 := h.rk_free ef
    have h2 : rkN bs (outN (p ||| r) (2 ^ e)) ≤ rkN bs (p ||| r) := h.rk_mono fun i hi => by
      rw [out1_bit, Bool.and_eq_true] at hi
      exact hi.1
    have h3 := sz_out (s := p ||| r) he8 (by rw [Nat.testBit_or, ep]; rfl)
    have h4 := h.rk_two p r
    have h5 := sz_two (a := p) (b := r)
    have h6 := h.circ_rk hp cp
    have h7 := h.circ_rk hr cr
    have h8 : szN (p &&& r) ≤ rkN bs (p &&& r) := by
      obtain ⟨i, i1, i2⟩ : ∃ i, p.testBit i = true ∧ r.testBit i = false := by
        refine Classical.byContradiction fun hn => hne (h.circ_sub hp hr cp cr fun i hi => ?_)
        cases e2 : r.testBit i with
        | true => rfl
        | false => exact absurd ⟨i, hi, e2⟩ hn
      refine h.rk_free (h.sub (fun j hj => ?_) (((circ_iff (lt_256 h.n8 hp)).1 cp).2 i i1))
      rw [out1_bit, sub_and1 j hj]
      have : i ≠ j := fun e3 => by
        subst e3
        have := sub_and i hj
        rw [i2] at this; cases this
      simp [this]
    omega

end Go.Proofs.YtkdileeahbaobaaDoor
