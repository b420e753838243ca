import Derived.Test.YtkfdpcgmpbopnaaGreatDoorShY
import Derived.Test.YtkfdpcgmpbopnaaGreatDoorHmE
import Derived.Test.YtkfdpcgmpbopnaaGreatDoorHmW
import Derived.Test.YtkfdpcgmpbopnaaGreatDoorBetY
/- What sides have in common, again and again: the list that holds all of it. -/
namespace Go.Proofs.YtkfdpcgmpbopnaaGreatDoor
open Go.RowKit

theorem Tryz.info25 : (Tryz.prog.info? 25).map (fun i => (i.zero, i.size, i.bytes)) = some (some (.slice none 0 0), 1, 24) := by kernel_rfl

def natI (A : List Nat) : List Int := A.map fun a : Nat => (a : Int)

@[simp] theorem natI_len (A : List Nat) : (natI A).length = A.length := by simp [natI]

theorem natI_get (A : List Nat) (j : Nat) (h : j < A.length) : (natI A).getD j 0 = (A.getD j 0 : Int) := by simp [natI, h]

theorem natI_has (A : List Nat) (x : Nat) : (natI A).contains (x : Int) = A.contains x := by
  rw [Bool.eq_iff_iff]
  simp only [List.contains_iff_mem, natI, List.mem_map]
  constructor
  · rintro ⟨a, ha, h⟩
    rwa [Int.ofNat.inj h] at ha
  · intro h; exact ⟨x, h, rfl⟩

/-- What comes of all by taking what it has in common with sides. -/
inductive Itr (n : Nat) (S : List Nat) : Nat → Prop
  | full : Itr n S (2 ^ n - 1)
  | cut {a t : Nat} : Itr n S a → t ∈ S → Itr n S (a &&& t)

/-- What the walk holds: the first i have been looked at. -/
structure Clo (n : Nat) (S A : List Nat) (i : Nat) : Prop where
  nd : A.Nodup
  lt : ∀ a ∈ A, a < 2 ^ n
  hd : 0 < A.length ∧ A.getD 0 0 = 2 ^ n - 1
  cl : ∀ j, j < i → ∀ t ∈ S, A.getD j 0 &&& t ∈ A
  gen : ∀ a ∈ A, Itr n S a
  le : i ≤ A.length

theorem Clo.len {n : Nat} {S A : List Nat} {i : Nat} (h : Clo n S A i) : A.length ≤ 2 ^ n := by
  have := nodup_len A (List.range (2 ^ n)) h.nd fun x hx => List.mem_range.2 (h.lt x hx)
  simpa using this

theorem Clo.start (n : Nat) (S : List Nat) : Clo n S [2 ^ n - 1] 0 :=
  ⟨by simp, fun a ha => by simp at ha; subst ha; have : 0 < 2 ^ n := Nat.pow_pos (by decide); omega, ⟨by simp, rfl⟩, fun j hj => absurd hj (by omega), fun a ha => by simp at ha; subst ha; exact .full, by simp⟩

/-- And with the i-th the first k sides. -/
structure CloK (n : Nat) (S A : List Nat) (i k : Nat) : Prop where
  base : Clo n S A i
  il : i < A.length
  kk : ∀ t ∈ S.take k, A.getD i 0 &&& t ∈ A

theorem CloK.start {n : Nat} {S A : List Nat} {i : Nat} (h : Clo n S A i) (hi : i < A.length) : CloK n S A i 0 := ⟨h, hi, fun t ht => by simp at ht⟩

theorem mem_take_succ {S : List Nat} {k t : Nat} (hk : k < S.length) (h : t ∈ S.take (k + 1)) : t ∈ S.take k ∨ t = S.getD k 0 := by
  rw [List.take_succ_eq_append_getElem hk] at h
  rcases List.mem_append.1 h with h | h
  · exact Or.inl h
  · simp at h; right; simp [hk, h]

theorem CloK.skip {n : Nat} {S A : List Nat} {i k : Nat} (h : CloK n S A i k) (hk : k < S.length) (hx : A.getD i 0 &&& S.getD k 0 ∈ A) : CloK n S A i (k + 1) :=
  ⟨h.base, h.il, fun t ht => by
    rcases mem_take_succ hk ht with h1 | rfl
    · exact h.kk t h1
    · exact hx⟩

theorem getD_app {A : List Nat} {x j : Nat} (hj : j < A.length) : (A ++ [x]).getD j 0 = A.getD j 0 := by
  simp only [List.getD_eq_getElem?_getD]; rw [List.getElem?_append_left hj]

theorem CloK.push {n : Nat} {S A : List Nat} {i k : Nat} (h : CloK n S A i k) (hk : k < S.length) (hx : A.getD i 0 &&& S.getD k 0 ∉ A) : CloK n S (A ++ [A.getD i 0 &&& S.getD k 0]) i (k + 1) := by
  have hb := h.base
  have hi := h.il
  have hm : A.getD i 0 ∈ A := by simp [hi]
  have ht : S.getD k 0 ∈ S := by simp [hk]
  refine ⟨⟨?_, ?_, ?_, ?_, ?_, ?_⟩, ?_, ?_⟩
  · rw [List.nodup_append]
    refine ⟨hb.nd, by simp, fun a ha b hbb => ?_⟩
    simp at hbb
    rintro rfl
    rw [hbb] at ha
    apply hx
    simpa using ha
  · intro a ha
    rcases List.mem_append.1 ha with ha | ha
    · exact hb.lt a ha
    · simp only [List.mem_singleton] at ha
      rw [ha]
      exact Nat.lt_of_le_of_lt Nat.and_le_left (hb.lt _ hm)
  · exact ⟨by simp, by rw [getD_app hb.hd.1]; exact hb.hd.2⟩
  · intro j hj t htt
    rw [getD_app (by omega)]
    exact List.mem_append_left _ (hb.cl j hj t htt)
  · intro a ha
    rcases List.mem_append.1 ha with ha | ha
    · exact hb.gen a ha
    · simp only [List.mem_singleton] at ha
      rw [ha]
      exact .cut (hb.gen _ hm) ht
  · have := hb.le
    simp
    omega
  · simp
    omega
  · intro t htt
    rw [getD_app hi]
    rcases mem_take_succ hk htt with h1 | rfl
    · exact List.mem_append_left _ (h.kk t h1)
    · simp

theorem CloK.fin {n : Nat} {S A : List Nat} {i : Nat} (h : CloK n S A i S.length) : Clo n S A (i + 1) := by
  have hb := h.base
  have hk := h.kk
  rw [List.take_length] at hk
  refine ⟨hb.nd, hb.lt, hb.hd, fun j hj t ht => ?_, hb.gen, h.il⟩
  rcases Nat.lt_or_ge j i with h1 | h1
  · exact hb.cl j h1 t ht
  · obtain rfl : j = i := by omega
    exact hk t ht

/-- Levels: rows of rows, each in a block of its own. -/
structure Lvs (B : Nat) (w : World) (x : Value) (j : Nat) (ok : Nat → List (List Int) → Prop) : Prop where
  rows : ∃ vs : List Value, vs.length = j ∧ w.ownsRow B 25 1 x j vs ∧ ∀ t, t < j → ∃ lev, Fr B 22 3 w (vs.getD t (.slice none 0 0)) lev ∧ ok t lev

theorem Lvs.nil (B : Nat) (w : World) (ok : Nat → List (List Int) → Prop) : Lvs B w (.slice none 0 0) 0 ok :=
  ⟨[], rfl, World.ownsRow_nil _ _ _ _, fun t ht => absurd ht (by omega)⟩

theorem Lvs.below {B N : Nat} {w w' : World} {x : Value} {j : Nat} {ok : Nat → List (List Int) → Prop} (h : Lvs B w x j ok) (hb : Below N w w') (hN : w.heap.size ≤ N) : Lvs B w' x j ok := by
  obtain ⟨vs, h1, h2, h3⟩ := h.rows
  exact ⟨vs, h1, owns_below h2 hb hN, fun t ht => by
    obtain ⟨lev, g1, g2⟩ := h3 t ht
    exact ⟨lev, g1.below hb hN, g2⟩⟩

/-- Behind writes into a row of another element type. -/
theorem Fr.grownM {B : Nat} {w w' : World} {x v : Value} {n : Nat} {xs : List Value} {m : List (List Int)} (h : Fr B 22 3 w v m) (hx : w.ownsRow B 25 1 x n xs) (hg : w.grownBy w' x.ownBlock) : Fr B 22 3 w' v m := by
  obtain ⟨vs, h1, h2, h3⟩ := h
  refine ⟨vs, h1, h2.kept hg ?_, fun i hi => (h3 i hi).grown hg fun k hk => ⟨Nat.zero_le _, (owns_typed hx (by decide) k hk).2⟩⟩
  cases hv : v.ownBlock with
  | none => simp
  | some g =>
    right
    intro he
    rcases h2.2 with ⟨rfl, _⟩ | ⟨g2, cap, cur, rfl, _, hh, _⟩
    · simp [Value.ownBlock] at hv
    · simp [Value.ownBlock] at hv
      subst hv
      exact (owns_typed hx (e1 := 22) (by decide) g2 (by first | exact he | exact he.symm)).2 cur hh

theorem Lvs.push {B : Nat} {w w' : World} {x x' v : Value} {j : Nat} {ok : Nat → List (List Int) → Prop} {vs : List Value} {lev : List (List Int)} (h1 : vs.length = j) (h2 : w.ownsRow B 25 1 x j vs) (h3 : ∀ t, t < j → ∃ lev, Fr B 22 3 w (vs.getD t (.slice none 0 0)) lev ∧ ok t lev)
    (hv : Fr B 22 3 w v lev) (hok : ok j lev) (ho : w'.ownsRow B 25 1 x' (j + 1) (vs ++ [v])) (hg : w.grownBy w' x.ownBlock) : Lvs B w' x' (j + 1) ok := by
  refine ⟨vs ++ [v], by simp [h1], ho, fun t ht => ?_⟩
  by_cases htj : t < j
  · obtain ⟨l, g1, g2⟩ := h3 t htj
    refine ⟨l, ?_, g2⟩
    have e : (vs ++ [v]).getD t (.slice none 0 0) = vs.getD t (.slice none 0 0) := by
      simp only [List.getD_eq_getElem?_getD]; rw [List.getElem?_append_left (by omega)]
    rw [e]
    exact g1.grownM h2 hg
  · obtain rfl : t = j := by omega
    refine ⟨lev, ?_, hok⟩
    have e : (vs ++ [v]).getD t (.slice none 0 0) = v := by rw [← h1]; simp
    rw [e]
    exact hv.grownM h2 hg

/-- What a level is: of all in the list those of one dimension, told as lists, in order. -/
def LevOk (d : Nat) (C : List (List Int)) (A : List Nat) (t : Nat) (lev : List (List Int)) : Prop := SAsc lev ∧ ∀ r, r ∈ lev ↔ ∃ a ∈ A, dimL d C a = (t : Int) - 1 ∧ r = memL a

def levL (d : Nat) (C : List (List Int)) (A : List Nat) (t : Int) : List (List Int) := (A.filter fun a => decide (dimL d C a = t)).map memL

theorem levL_snoc {d : Nat} {C : List (List Int)} {A : List Nat} {t : Int} {k : Nat} (hk : k < A.length) : levL d C (A.take (k + 1)) t = levL d C (A.take k) t ++ (if dimL d C (A.getD k 0) = t then [memL (A.getD k 0)] else []) := by
  have e : A.getD k 0 = A[k] := by simp [hk]
  unfold levL
  rw [List.take_succ_eq_append_getElem hk, List.filter_append, List.map_append, e]
  by_cases h : dimL d C A[k] = t <;> simp [h]

theorem levL_len (d : Nat) (C : List (List Int)) (A : List Nat) (t : Int) : (levL d C A t).length ≤ A.length := by
  unfold levL
  rw [List.length_map]
  exact List.length_filter_le _ _

theorem mem_levL {d : Nat} {C : List (List Int)} {A : List Nat} {t : Int} {r : List Int} : r ∈ levL d C A t ↔ ∃ a ∈ A, dimL d C a = t ∧ r = memL a := by
  unfold levL
  simp only [List.mem_map, List.mem_filter, decide_eq_true_eq]
  constructor
  · rintro ⟨a, ⟨h1, h2⟩, rfl⟩; exact ⟨a, h1, h2, rfl⟩
  · rintro ⟨a, h1, h2, rfl⟩; exact ⟨a, ⟨h1, h2⟩, rfl⟩

end Go.Proofs.YtkfdpcgmpbopnaaGreatDoor

/- The document's answer: all faces: the walk. -/
namespace Go.Proofs.YtkfdpcgmpbopnaaGreatDoor
open Go.RowKit
attribute [local go_sem ↓] Go.wp_at_zero Go.wp_at_succ

/-- What LatticeOf gives. -/
structure Lat (B d : Nat) (P : List (List Int)) (w : World) (x : Value) (C s : List (List Int)) (A : List Nat) : Prop where
  crn : SAsc C ∧ ∃ s0, (∀ r, r ∈ s0 ↔ r ∈ rowsD P d) ∧ ∀ y, y ∈ C ↔ y ∈ crn d s0 P
  rows : SAsc s ∧ ∀ r, r ∈ s ↔ r ∈ rowsD C d
  all : Clo C.length (s.map (sdN C)) A A.length
  lev : Lvs B w x (d + 2) (LevOk d C A)

theorem Lvs.mono {B B' : Nat} {w : World} {x : Value} {j : Nat} {ok : Nat → List (List Int) → Prop} (h : Lvs B w x j ok) (hB : B' ≤ B) : Lvs B' w x j ok := by
  obtain ⟨vs, h1, h2, h3⟩ := h.rows
  exact ⟨vs, h1, h2.mono hB, fun t ht => by
    obtain ⟨lev, g1, g2⟩ := h3 t ht
    exact ⟨lev, g1.mono hB, g2⟩⟩

theorem pow16 {n : Nat} (h : n ≤ 16) : 2 ^ n ≤ 65536 := Nat.le_trans (Nat.pow_le_pow_right (by decide) h) (by decide)

theorem full_wrap {n F : Nat} (h : n ≤ 16) (hF : F = 2 ^ n - 1) : wrap64 ((2 : Int) ^ n) = (F : Int) + 1 ∧ wrap64 ((F : Int) + 1 - 1) = (F : Int) := by
  have hp := pow16 h
  have h0 : 0 < 2 ^ n := Nat.pow_pos (by decide)
  have e : ((2 : Int) ^ n) = ((2 ^ n : Nat) : Int) := by simp
  rw [e]
  generalize 2 ^ n = q at *
  subst hF
  have h1 : (q : Int) = ((q - 1 : Nat) : Int) + 1 := by omega
  have h2 : ((q - 1 : Nat) : Int) + 1 - 1 = ((q - 1 : Nat) : Int) := by omega
  rw [h2]
  refine ⟨?_, IntWalk.wrap64_in _ ⟨by omega, by omega⟩⟩
  rw [← h1]
  exact IntWalk.wrap64_in _ ⟨by omega, by omega⟩

set_option maxRecDepth 100000 in
set_option maxHeartbeats 800000 in
theorem latticeOf_any (B d : Nat) (P : List (List Int)) (v : Value) (w : World) (hv : Mat B 22 3 w v P) (hg : Good d P) (hP : P.length ≤ 16) (hx : Box d 6 P) :
    Calls Tryz.prog 9 #[v] w fun e w' => ∃ x C s A, e = .returned x ∧ Lat w.heap.size d P w' x C s A ∧ Below w.heap.size w w' := by
  obtain ⟨i0, hi, hz0, hz1, hz2⟩ := info_parts Tryz.info22
  obtain ⟨i3, hi3, hz30, hz31, hz32⟩ := info_parts Tryz.info3
  obtain ⟨i2, hi2, hz20, hz21, hz22⟩ := info_parts Tryz.info25
  have hd1 := hg.d1
  have hd := hg.d4
  have hP1 : 1 ≤ P.length := by have := hg.n2; omega
  obtain ⟨b, o, cap, r0, hvv, hlc, hcc, hr0⟩ := mat_cell hv (k := 0) (by omega)
  subst hvv
  have HV : Hid (Mat w.heap.size 22 3 w (.slice (some ⟨b, o, none⟩) P.length cap) P) := hv.any (Nat.le_refl _)
  have HX : Hid (Box d 6 P) := hx
  have HG : Hid (Good d P) := hg
  have hm0 : P.getD 0 [] ∈ P := by simp [show 0 < P.length by omega]
  obtain ⟨ro, rc, hrv, hrl, _⟩ := sl_open hr0
  rw [(hx _ hm0).1] at hrv hrl
  subst hrv
  have hcc0 : w.cell? ⟨b, o, none⟩ = some (.slice ro d rc) := hcc
  have HCO : Hid (Calls Tryz.prog 25 #[.slice (some ⟨b, o, none⟩) P.length cap] w fun e w' => ∃ xo xl xc C, e = .returned (.slice xo xl xc) ∧ xl = C.length ∧ (Mat w'.heap.size 22 3 w' (.slice xo xl xc) C ∧ SAsc C ∧ (∃ s0, (∀ r, r ∈ s0 ↔ r ∈ rowsD P d) ∧ ∀ y, y ∈ C ↔ y ∈ crn d s0 P) ∧ Below w.heap.size w w')) := by
    refine (cornersOf_any w.heap.size d P _ w HV.out hd1 hd hP1 hP HX.out).mono ?_
    rintro e w' ⟨x, C, s0, rfl, h1, h2, h3, h4, h5, h6⟩
    have hM : Mat w'.heap.size 22 3 w' x C := h1.rws.mat h6.size
    obtain ⟨xo, xc, hxv, _, _⟩ := mat_open hM
    subst hxv
    exact ⟨xo, _, xc, C, rfl, rfl, hM, h2, ⟨s0, h4, h5⟩, h6⟩
  obtain ⟨pl, hpl⟩ : ∃ pl, pl = P.length := ⟨_, rfl⟩
  have HPL : Hid (P.length ≤ 16) := hP
  rw [← hpl] at HV HCO hlc hP1 ⊢
  clear hv hx hr0 hm0 hrl hcc hpl hg hP
  have h0I : (0 : Int) < (pl : Int) := by omega
  have h0N : 0 < pl := by omega
  go_enter Tryz.func9, Tryz.ntmps9
  go_wp2_with fail
  refine HCO.out.mono ?_
  rintro e w1 ⟨co, n, cc, C, rfl, hnC, hC⟩
  have HC : Hid (Mat w1.heap.size 22 3 w1 (.slice co n cc) C ∧ SAsc C ∧ (∃ s0, (∀ r, r ∈ s0 ↔ r ∈ rowsD P d) ∧ ∀ y, y ∈ C ↔ y ∈ crn d s0 P) ∧ Below w.heap.size w w1) := hC
  have HNC : Hid (n = C.length) := hnC
  have HGC : Hid (Good d C) := by
    obtain ⟨_, h2, ⟨s0, h4, h5⟩, _⟩ := hC
    exact corners_good HG.out h4 (fun x hx => corner_rank HG.out (P' := P) (fun _ => Iff.rfl) h4 hx) h5 h2.nodup
  have HBC : Hid (Box d 6 C) := fun r hr => by
    obtain ⟨_, _, ⟨s0, _, h5⟩, _⟩ := HC.out
    exact HX.out r (List.mem_filter.1 ((h5 r).1 hr)).1
  have hn16 : n ≤ 16 := by
    have h1 := nodup_lenL C P HC.out.2.1.nodup fun y hy => by
      obtain ⟨_, _, ⟨s0, _, h5⟩, _⟩ := HC.out
      exact (List.mem_filter.1 ((h5 y).1 hy)).1
    have h2 := HPL.out
    omega
  have HB1 : Hid (Below w.heap.size w w1) := hC.2.2.2
  have hsz1 : w.heap.size ≤ w1.heap.size := HB1.out.size
  have HSO : Hid (Calls Tryz.prog 26 #[.slice co n cc] w1 fun e w' => ∃ yo yl yc s, e = .returned (.slice yo yl yc) ∧ yl = s.length ∧ (Sl w'.heap.size 3 w' (.slice yo yl yc) (ints (natI (s.map (sdN C)))) ∧ SAsc s ∧ (∀ r, r ∈ s ↔ r ∈ rowsD C d) ∧ Below w1.heap.size w1 w')) := by
    refine (sidesOf_any w1.heap.size d C _ w1 HC.out.1 hd1 hd (by have := HGC.out.n2; omega) (by omega) HBC.out).mono ?_
    rintro e w' ⟨x, s, rfl, h1, h2, h3, h4⟩
    have e1 : ints (s.map fun r => (sdN C r : Int)) = ints (natI (s.map (sdN C))) := by simp [natI, List.map_map]; rfl
    rw [e1] at h3
    have hS : Sl w'.heap.size 3 w' x (ints (natI (s.map (sdN C)))) := (Sl.own (B := 0) h3).any (Nat.le_refl _)
    obtain ⟨xo, xc, hxv, _, _⟩ := sl_open hS
    simp only [natI_len, List.length_map] at hxv
    subst hxv
    exact ⟨xo, _, xc, s, rfl, rfl, hS, h1, h2, h4⟩
  clear hC hnC HCO
  go_wp2_with fail
  refine HSO.out.mono ?_
  rintro e w2 ⟨yo, sl, yc, s, rfl, hsl, hS⟩
  have HSS : Hid (Sl w2.heap.size 3 w2 (.slice yo sl yc) (ints (natI (s.map (sdN C)))) ∧ SAsc s ∧ (∀ r, r ∈ s ↔ r ∈ rowsD C d) ∧ Below w1.heap.size w1 w2) := hS
  have HSD : Hid (∀ t ∈ s.map (sdN C), t < 65536) := fun t ht => by
    obtain ⟨r, _, rfl⟩ := List.mem_map.1 ht
    have h1 := sdTo_lt C r C.length
    have h2 := pow16 (show C.length ≤ 16 by rw [← HNC.out]; exact hn16)
    show sdTo C r C.length < 65536
    omega
  have HSLN : Hid ((s.map (sdN C)).length ≤ 16777216) := by
    show _ ≤ _
    rw [List.length_map]
    exact rowsD_len hd (by rw [← HNC.out]; exact hn16) hS.2.1 hS.2.2.1
  have HSLE : Hid (sl = (s.map (sdN C)).length) := by
    show _ = _
    rw [List.length_map]; exact hsl
  have HB2 : Hid (Below w.heap.size w w2) := HB1.out.trans (hS.2.2.2.mono hsz1)
  have hsz2 : w.heap.size ≤ w2.heap.size := HB2.out.size
  have HC2 : Hid (Mat w2.heap.size 22 3 w2 (.slice co n cc) C) := (HC.out.1.below hS.2.2.2 (Nat.le_refl _)).any (Nat.le_refl _)
  clear hS hsl HSO
  obtain ⟨S, hSe⟩ : ∃ S, S = s.map (sdN C) := ⟨_, rfl⟩
  have HSE : Hid (S = s.map (sdN C)) := hSe
  rw [← hSe] at HSS HSD HSLE HSLN
  clear hSe
  obtain ⟨M, hMe⟩ : ∃ M : Nat, M = 65536 := ⟨_, rfl⟩
  have HME : Hid (M = 65536) := hMe
  clear hMe
  obtain ⟨F, hFe⟩ : ∃ F : Nat, F = 2 ^ n - 1 := ⟨_, rfl⟩
  have HFW : Hid (wrap64 ((2 : Int) ^ n) = (F : Int) + 1 ∧ wrap64 ((F : Int) + 1 - 1) = (F : Int)) := full_wrap hn16 hFe
  have HST : Hid (Clo n S [F] 0) := by rw [hFe]; exact Clo.start n S
  clear hFe
  go_wp2
  simp only [HFW.out.1, HFW.out.2]
  go_loopw [5, 6] (fun x i wr => ∃ (A : List Nat) (k : Nat), k ≤ A.length ∧ i = .int .i64 k ∧ wr.ownsRow w2.heap.size 3 1 x A.length (ints (natI A)) ∧ Clo n S A k ∧ Below w2.heap.size w2 wr) (fun _ i _ => M - (intOf i).toNat)
  case atStart =>
    refine ⟨[F], 0, by simp, rfl, ?_, HST.out, (Below.refl _ _).alloc (Nat.le_refl _) _⟩
    exact World.ownsRow_lit (base := w2.heap.size) (e := 3) (size := 1) w2 #[.int .i64 F] 1 (Nat.le_refl _) (by simp [maxLen]) (by simp)
  case round =>
    obtain ⟨A, k, hk, rfl, ho, hclo, hbel⟩ := hrel
    rename World => wa
    obtain ⟨uo, uc, huv⟩ := owns_form ho
    subst huv
    have HO : Hid (wa.ownsRow w2.heap.size 3 1 (.slice uo A.length uc) A.length (ints (natI A))) := ho
    have HCL : Hid (Clo n S A k) := hclo
    have HB : Hid (Below w2.heap.size w2 wa) := hbel
    clear ho hclo hbel
    by_cases hlt : k < A.length
    · have HK65 : Hid (k < M) := by rw [HME.out]; exact Nat.lt_of_lt_of_le hlt (Nat.le_trans HCL.out.len (pow16 hn16))
      have HKB : Hid (k < 1000000) := Nat.lt_of_lt_of_le hlt (Nat.le_trans HCL.out.len (Nat.le_trans (pow16 hn16) (by decide)))
      have HCK : Hid (CloK n S A k 0) := CloK.start HCL.out hlt
      have hkI : (k : Int) < (A.length : Int) := by omega
      go_wp2
      go_loopw [5, 7, 8] (fun x q _ wr => ∃ (A : List Nat) (j : Nat), j ≤ S.length ∧ q = .int .i64 j ∧ wr.ownsRow w2.heap.size 3 1 x A.length (ints (natI A)) ∧ CloK n S A k j ∧ Below w2.heap.size w2 wr) (fun _ q _ _ => S.length - (intOf q).toNat)
      case atStart => exact ⟨A, 0, Nat.zero_le _, rfl, HO.out, HCK.out, HB.out⟩
      case round =>
        obtain ⟨A, j, hj, rfl, ho, hck, hbel⟩ := hrel
        obtain ⟨uo, uc, huv⟩ := owns_form ho
        subst huv
        have HO : Hid (wr.ownsRow w2.heap.size 3 1 (.slice uo A.length uc) A.length (ints (natI A))) := ho
        have HCK : Hid (CloK n S A k j) := hck
        have HB : Hid (Below w2.heap.size w2 wr) := hbel
        have hkA : k < A.length := hck.il
        have hsl : sl = S.length := HSLE.out
        clear ho hck hbel
        by_cases hjl : j < S.length
        · obtain ⟨b1, o1, cp1, hs1, hc1, hcc1⟩ := sl_cell (Sl.own (B := 0) HO.out) (k := k) (by simpa using hkA)
          rw [natI_len] at hs1
          simp only [Value.slice.injEq, true_and] at hs1
          obtain ⟨rfl, rfl⟩ := hs1
          obtain ⟨b2, o2, cp2, hs2, hc2, hcc2⟩ := sl_cell (HSS.out.1.below HB.out (Nat.le_refl _)) (k := j) (by simpa using hjl)
          simp only [Value.slice.injEq] at hs2
          obtain ⟨rfl, hxx, rfl⟩ := hs2
          clear hxx hc1 hc2
          rw [natI_get A k hkA] at hcc1
          rw [natI_get S j hjl] at hcc2
          have HAL : Hid (A.getD k 0 < 65536) := Nat.lt_of_lt_of_le (HCK.out.base.lt _ (by simp [hkA])) (pow16 hn16)
          have HTL : Hid (S.getD j 0 < 65536) := HSD.out _ (by simp [hjl])
          have HBA : Hid (bits .and .i64 (A.getD k 0 : Int) (S.getD j 0 : Int) = ((A.getD k 0 &&& S.getD j 0 : Nat) : Int)) := bits_and_i64_nat _ _ (by have := HAL.out; omega) (by have := HTL.out; omega)
          have HSK : Hid (A.getD k 0 &&& S.getD j 0 ∈ A → CloK n S A k (j + 1)) := fun h => HCK.out.skip hjl h
          have HPU : Hid (A.getD k 0 &&& S.getD j 0 ∉ A → CloK n S (A ++ [A.getD k 0 &&& S.getD j 0]) k (j + 1)) := fun h => HCK.out.push hjl h
          have HALN : Hid (A.length ≤ 65536) := Nat.le_trans HCK.out.base.len (pow16 hn16)
          obtain ⟨y, hy⟩ : ∃ y, y = A.getD k 0 &&& S.getD j 0 := ⟨_, rfl⟩
          rw [← hy] at HBA HSK HPU
          clear hy HAL HTL HCK
          generalize A.getD k 0 = a1 at *
          generalize S.getD j 0 = t1 at *
          have hjI : (j : Int) < (sl : Int) := by omega
          have hjI0 : (0 : Int) ≤ (j : Int) := by omega
          have hjN : j < sl := by omega
          have hkI : (k : Int) < (A.length : Int) := by omega
          have hkI0 : (0 : Int) ≤ (k : Int) := by omega
          have HIN : Hid (∀ nn, Calls Tryz.prog 27 #[.int .i64 y, .slice (some ⟨b1, o1, none⟩) A.length uc] (wr.drewN nn) fun e w' => e = .returned (.bool (A.contains y)) ∧ ∃ n, w' = (wr.drewN nn).drewN n) := fun nn => by
            have h := inR_any 0 (y : Int) (natI A) (.slice (some ⟨b1, o1, none⟩) A.length uc) (wr.drewN nn) ((Sl.own (B := 0) HO.out).drewN nn)
            rw [natI_has] at h
            exact h
          clear hsl
          go_wp2
          go_quiet (fail)
          rw [HBA.out]
          obtain ⟨Wq, hWq⟩ : ∃ Wq, Wq = wr.drewN nq := ⟨_, rfl⟩
          rw [← hWq]
          have HI : Hid (Calls Tryz.prog 27 #[.int .i64 y, .slice (some ⟨b1, o1, none⟩) A.length uc] Wq fun e w' => e = .returned (.bool (A.contains y)) ∧ ∃ n, w' = Wq.drewN n) := by rw [hWq]; exact HIN.out nq
          have HOq : Hid (Wq.ownsRow w2.heap.size 3 1 (.slice (some ⟨b1, o1, none⟩) A.length uc) A.length (ints (natI A))) := by rw [hWq]; exact HO.out
          have HBq : Hid (Below w2.heap.size w2 Wq) := by rw [hWq]; exact HB.out.trans ⟨rfl, rfl, rfl, Nat.le_refl _, fun _ _ => rfl⟩
          clear hWq HIN hcc1 hcc2 HO HB
          obtain ⟨cb, hcb⟩ : ∃ cb, cb = A.contains y := ⟨_, rfl⟩
          have HCB : Hid (cb = A.contains y) := hcb
          rw [← hcb] at HI
          clear hcb
          go_wp2_with fail
          refine HI.out.mono ?_
          rintro e w3 ⟨rfl, nn, hw3⟩
          have HO3 : Hid (w3.ownsRow w2.heap.size 3 1 (.slice (some ⟨b1, o1, none⟩) A.length uc) A.length (ints (natI A))) := by rw [hw3]; exact HOq.out
          have HB3 : Hid (Below w2.heap.size w2 w3) := by rw [hw3]; exact HBq.out.trans ⟨rfl, rfl, rfl, Nat.le_refl _, fun _ _ => rfl⟩
          clear hw3 HI HOq HBq
          cases cb
          · have HPN : Hid (CloK n S (A ++ [y]) k (j + 1)) := HPU.out (fun hm => by
              have h := HCB.out
              rw [List.contains_iff_mem.2 hm] at h
              exact absurd h (by decide))
            have hsz3 : w2.heap.size ≤ w3.heap.size := HB3.out.size
            obtain ⟨al, hal⟩ : ∃ al, al = A.length := ⟨_, rfl⟩
            have HAE : Hid (al = A.length) := hal
            rw [← hal] at HO3 HALN ⊢
            have hal2 : al ≤ 65536 := HALN.out
            clear hal HSK HPU HCB hkI hkA
            go_wp2_with (first | (at_builtin; refine wpList_append_own _ rfl _ _ 22 rfl w2.heap.size 3 i3 (.int .i64 0) 1 8 Tryz.underlying22 hi3 hz30 hz31 hz32 rfl (by decide) _ _ _ rfl (HO3.out.alloc _) ⟨w3.heap.size, 0, none⟩ 1 1 [.int .i64 y] rfl rfl (one_new _ _ _) (one_int _) ?c3 ?c4 ?c5 ?_))
            case c3 => unfold maxLen; omega
            case c4 => omega
            case c5 => first | exact hsz3 | omega | (simp; omega)
            intro v' w4 ho4 hg4 _
            have R1 : Hid (w4.ownsRow w2.heap.size 3 1 v' (A ++ [y]).length (ints (natI (A ++ [y])))) := by
              have e1 : (A ++ [y]).length = al + 1 := by rw [List.length_append, ← HAE.out]; rfl
              have e2 : ints (natI (A ++ [y])) = ints (natI A) ++ [.int .i64 (y : Int)] := by simp [ints, natI]
              show World.ownsRow _ _ _ _ _ _ _
              rw [e1, e2]
              exact ho4
            have R2 : Hid (Below w2.heap.size w2 w4) := (HB3.out.alloc hsz3 _).grown hg4 (by simp; omega) (fun x hx => (HO3.out.lt x hx).1)
            clear ho4 hg4
            have hS16 : j < 16777216 := Nat.lt_of_lt_of_le hjl HSLN.out
            go_wp2
            exact ⟨⟨A ++ [y], j + 1, hjl, by go_num, R1.out, HPN.out, R2.out⟩, by simp [intOf]; omega⟩
          · have HSN : Hid (CloK n S A k (j + 1)) := HSK.out (List.contains_iff_mem.1 HCB.out.symm)
            clear HSK HPU HCB
            have hS16 : j < 16777216 := Nat.lt_of_lt_of_le hjl HSLN.out
            go_wp2
            exact ⟨⟨A, j + 1, hjl, by go_num, HO3.out, HSN.out, HB3.out⟩, by simp [intOf]; omega⟩
        · have HFN : Hid (Clo n S A (k + 1)) := by
            have e : j = S.length := by omega
            have h := HCK.out
            rw [e] at h
            exact h.fin
          have hjI : ¬ j < sl := by omega
          clear hsl hjl hj
          have hk65 : k < M := HK65.out
          have hkb : k < 1000000 := HKB.out
          go_wp2
          exact ⟨⟨A, k + 1, hkA, by go_num, HO.out, HFN.out, HB.out⟩, by simp [intOf]; omega⟩
    · have HCF : Hid (Clo n S A A.length) := by
        have e : k = A.length := by omega
        have h := HCL.out
        rw [e] at h
        exact h
      have HBw : Hid (Below w.heap.size w wa) := HB2.out.trans (HB.out.mono hsz2)
      have hcca : wa.cell? ⟨b, o, none⟩ = some (.slice ro d rc) := (HBw.out.cell (lt_of_cell hcc0)).trans hcc0
      have HCa : Hid (Mat wa.heap.size 22 3 wa (.slice co n cc) C) := (HC2.out.below HB.out (Nat.le_refl _)).any (Nat.le_refl _)
      have HAa : Hid (Sl wa.heap.size 3 wa (.slice uo A.length uc) (ints (natI A))) := (Sl.own (B := 0) HO.out).any (Nat.le_refl _)
      have HALN : Hid (A.length ≤ 65536) := Nat.le_trans HCF.out.len (pow16 hn16)
      have HAL2 : Hid (∀ a ∈ A, a < 2 ^ C.length) := fun a ha => by rw [← HNC.out]; exact HCF.out.lt a ha
      clear hk HCL HO
      go_wp2
      go_loopw [10, 11] (fun x i wr => ∃ j : Nat, j ≤ d + 2 ∧ i = .int .i64 ((j : Int) - 1) ∧ Lvs wa.heap.size wr x j (LevOk d C A) ∧ Below wa.heap.size wa wr) (fun _ i _ => ((d : Int) + 1 - intOf i).toNat)
      case atStart => exact ⟨0, by omega, rfl, Lvs.nil _ _ _, Below.refl _ _⟩
      case round =>
        obtain ⟨j, hj, rfl, hlv, hbel⟩ := hrel
        rename World => wb
        have HLV : Hid (Lvs wa.heap.size wb u10 j (LevOk d C A)) := hlv
        have HBb : Hid (Below wa.heap.size wa wb) := hbel
        have hszb : wa.heap.size ≤ wb.heap.size := hbel.size
        clear hlv hbel
        by_cases hjd : j < d + 2
        · have hjI : (j : Int) - 1 ≤ (d : Int) := by omega
          have hj6 : j ≤ 6 := by omega
          go_wp2
          go_loopw [12, 13] (fun x i wq => ∃ q : Nat, q ≤ A.length ∧ i = .int .i64 q ∧ Fr wb.heap.size 22 3 wq x (levL d C (A.take q) ((j : Int) - 1)) ∧ Below wb.heap.size wb wq) (fun _ i _ => A.length - (intOf i).toNat)
          case atStart => exact ⟨0, Nat.zero_le _, rfl, Fr.nil _ _ _ _, Below.refl _ _⟩
          case round =>
            obtain ⟨q, hq, rfl, hfr, hbel⟩ := hrel
            have HF : Hid (Fr wb.heap.size 22 3 wr u12 (levL d C (A.take q) ((j : Int) - 1))) := hfr
            have HBq : Hid (Below wb.heap.size wb wr) := hbel
            have hszq : wb.heap.size ≤ wr.heap.size := hbel.size
            have HBar : Hid (Below wa.heap.size wa wr) := HBb.out.trans (hbel.mono hszb)
            clear hfr hbel
            by_cases hql : q < A.length
            · obtain ⟨b5, o5, cp5, hs5, _, hcc5⟩ := sl_cell (HAa.out.below HBar.out (Nat.le_refl _)) (k := q) (by simpa using hql)
              rw [natI_len] at hs5
              simp only [Value.slice.injEq, true_and] at hs5
              obtain ⟨rfl, rfl⟩ := hs5
              rw [natI_get A q hql] at hcc5
              have hmA : A.getD q 0 ∈ A := by simp [hql]
              have HDI : Hid (Calls Tryz.prog 28 #[.slice co n cc, .int .i64 (A.getD q 0 : Int)] wr fun e w' => e = .returned (.int .i64 (dimL d C (A.getD q 0))) ∧ Below wr.heap.size wr w') :=
                dimension_any wr.heap.size d (A.getD q 0) C _ wr ((HCa.out.below HBar.out (Nat.le_refl _)).any (Nat.le_refl _)) hd1 hd (by rw [← HNC.out]; exact hn16) HBC.out (HAL2.out _ hmA)
              have HMEM : Hid (∀ w', Calls Tryz.prog 29 #[.int .i64 (A.getD q 0 : Int)] w' fun e w'' => ∃ u, e = .returned u ∧ w''.ownsRow w'.heap.size 3 1 u (memL (A.getD q 0)).length (ints (memL (A.getD q 0))) ∧ Below w'.heap.size w' w'') := fun w' => members_any (A.getD q 0) C.length w' (HAL2.out _ hmA) (by rw [← HNC.out]; omega)
              have HLS : Hid (levL d C (A.take (q + 1)) ((j : Int) - 1) = levL d C (A.take q) ((j : Int) - 1) ++ (if dimL d C (A.getD q 0) = (j : Int) - 1 then [memL (A.getD q 0)] else [])) := levL_snoc hql
              have HLL : Hid ((levL d C (A.take q) ((j : Int) - 1)).length ≤ 65536) := by
                have h1 := levL_len d C (A.take q) ((j : Int) - 1)
                have h2 := HALN.out
                rw [List.length_take] at h1
                show _ ≤ _
                omega
              clear hmA
              generalize A.getD q 0 = a1 at *
              generalize dimL d C a1 = D at *
              generalize memL a1 = ma at *
              have hqI : (q : Int) < (A.length : Int) := by omega
              have hqI0 : (0 : Int) ≤ (q : Int) := by omega
              have hqb : q < 1000000 := Nat.lt_of_lt_of_le hql (Nat.le_trans HALN.out (by decide))
              go_wp2_with fail
              refine HDI.out.mono ?_
              rintro e w3 ⟨rfl, hb3⟩
              have HB3 : Hid (Below wr.heap.size wr w3) := hb3
              have hcc6 := (hb3.cell (lt_of_cell hcc5)).trans hcc5
              clear hb3 hcc5 HDI
              by_cases hDk : D = (j : Int) - 1
              · rw [if_pos hDk] at HLS
                have tD : (D == (j : Int) - 1) = true := by simp [hDk]
                clear hDk
                go_wp2_with fail
                refine (HMEM.out w3).mono ?_
                rintro e w4 ⟨mv, rfl, hmo, hb4⟩
                obtain ⟨mo, mc, hmv⟩ := owns_form hmo
                obtain ⟨ml, hml⟩ : ∃ ml, ml = ma.length := ⟨_, rfl⟩
                rw [← hml] at hmv
                clear hml
                subst hmv
                have HMO : Hid (Sl 0 3 w4 (.slice mo ml mc) (ints ma)) := Sl.own hmo
                have HB4 : Hid (Below wr.heap.size wr w4) := HB3.out.trans (hb4.mono HB3.out.size)
                have HF4 : Hid (Fr wb.heap.size 22 3 w4 u12 (levL d C (A.take q) ((j : Int) - 1))) := HF.out.below HB4.out (Nat.le_refl _)
                have HBb4 : Hid (Below wb.heap.size wb w4) := HBq.out.trans (HB4.out.mono hszq)
                have hsz4 : wb.heap.size ≤ w4.heap.size := HBb4.out.size
                clear hmo hb4 hcc6 HMEM
                obtain ⟨vs, g1, g2, g3⟩ := HF4.out
                obtain ⟨ol, hol⟩ : ∃ ol, ol = (levL d C (A.take q) ((j : Int) - 1)).length := ⟨_, rfl⟩
                rw [← hol] at g1 g2 g3 HLL
                have HOL : Hid (ol = (levL d C (A.take q) ((j : Int) - 1)).length) := hol
                have G1 : Hid (vs.length = ol) := g1
                have G2 : Hid (w4.ownsRow wb.heap.size 22 1 u12 ol vs) := g2
                have G3 : Hid (∀ i, i < ol → Sl 0 3 w4 (vs.getD i (.slice none 0 0)) (ints ((levL d C (A.take q) ((j : Int) - 1)).getD i []))) := g3
                have hol2 : ol ≤ 65536 := HLL.out
                clear g1 g2 g3 hol
                go_wp2_with (first | (at_builtin; refine wpList_append_own _ rfl _ _ 25 rfl wb.heap.size 22 i0 (.slice none 0 0) 1 24 Tryz.underlying25 hi hz0 hz1 hz2 rfl (by decide) _ _ _ rfl (G2.out.alloc _) ⟨w4.heap.size, 0, none⟩ 1 1 [.slice mo ml mc] rfl rfl (one_new _ _ _) (one_slice _ _ _) ?d3 ?d4 ?d5 ?_))
                case d3 => unfold maxLen; omega
                case d4 => omega
                case d5 => first | exact hsz4 | omega | (simp; omega)
                intro v' w5 ho hg _
                have R1 : Hid (Fr wb.heap.size 22 3 w5 v' (levL d C (A.take (q + 1)) ((j : Int) - 1))) := by
                  have hp := Fr.push (e2 := 22) (e1 := 3) (m := levL d C (A.take q) ((j : Int) - 1)) (u := .slice mo ml mc) (zs := ma) (by decide) (by rw [← HOL.out]; exact G1.out) (by rw [← HOL.out]; exact G2.out.alloc _)
                    (fun i hi => (G3.out i (by rw [← HOL.out] at hi; exact hi)).alloc _) (HMO.out.alloc _) (by rw [← HOL.out]; exact ho) hg
                  rw [← HLS.out] at hp
                  exact hp
                have R2 : Hid (Below wb.heap.size wb w5) := (HBb4.out.alloc hsz4 _).grown hg (by simp; omega) (fun x hx => (G2.out.lt x hx).1)
                clear ho hg
                go_wp2
                exact ⟨⟨q + 1, hql, by go_num, R1.out, R2.out⟩, by simp [intOf]; omega⟩
              · have HL2 : Hid (levL d C (A.take (q + 1)) ((j : Int) - 1) = levL d C (A.take q) ((j : Int) - 1)) := by
                  have h := HLS.out
                  rw [if_neg hDk, List.append_nil] at h
                  exact h
                have tD : (D == (j : Int) - 1) = false := by simp [hDk]
                have R1 : Hid (Fr wb.heap.size 22 3 w3 u12 (levL d C (A.take (q + 1)) ((j : Int) - 1))) := by rw [HL2.out]; exact HF.out.below HB3.out (Nat.le_refl _)
                have R2 : Hid (Below wb.heap.size wb w3) := HBq.out.trans (HB3.out.mono hszq)
                clear hDk HLS hcc6 HMEM
                go_wp2
                exact ⟨⟨q + 1, hql, by go_num, R1.out, R2.out⟩, by simp [intOf]; omega⟩
            · have HTE : Hid (A.take q = A) := List.take_of_length_le (by omega)
              have HLM : Hid (Mat wb.heap.size 22 3 wr u12 (levL d C A ((j : Int) - 1))) := by
                have h := HF.out
                rw [HTE.out] at h
                exact h.rws.mat (Nat.le_refl _)
              have HSO : Hid (Calls Tryz.prog 30 #[u12] wr fun e w' => ∃ xo xl xc lev, e = .returned (.slice xo xl xc) ∧ (Fr wr.heap.size 22 3 w' (.slice xo xl xc) lev ∧ LevOk d C A j lev ∧ Below wr.heap.size wr w')) := by
                refine (sortR_any wb.heap.size (levL d C A ((j : Int) - 1)) u12 wr HLM.out (Nat.le_trans (levL_len _ _ _ _) (Nat.le_trans HALN.out (by decide))) (fun r hr => ?_)).mono ?_
                · obtain ⟨a, ha, _, rfl⟩ := mem_levL.1 hr
                  have h1 := memL_len (HAL2.out a ha) (by rw [← HNC.out]; omega)
                  have h2 : C.length ≤ 16 := by rw [← HNC.out]; exact hn16
                  omega
                · rintro e w' ⟨x2, lev, rfl, h1, h2, h3, h4⟩
                  obtain ⟨xo, xc, hxv, _, _⟩ := fr_open h1
                  subst hxv
                  exact ⟨xo, _, xc, lev, rfl, h1, ⟨h2, fun r => by rw [h3 r, mem_levL]⟩, h4⟩
              clear HLM HTE HF
              go_wp2_with fail
              refine HSO.out.mono ?_
              rintro e w3 ⟨xo, xl, xc, lev, rfl, hl3⟩
              have HL3 : Hid (Fr wr.heap.size 22 3 w3 (.slice xo xl xc) lev ∧ LevOk d C A j lev ∧ Below wr.heap.size wr w3) := hl3
              have HBb3 : Hid (Below wb.heap.size wb w3) := HBq.out.trans (hl3.2.2.mono hszq)
              have HBa3 : Hid (Below wa.heap.size wa w3) := HBb.out.trans (HBb3.out.mono hszb)
              have hsz3 : wa.heap.size ≤ w3.heap.size := HBa3.out.size
              have HLV3 : Hid (Lvs wa.heap.size w3 u10 j (LevOk d C A)) := HLV.out.below HBb3.out (Nat.le_refl _)
              clear hl3 HSO
              obtain ⟨vs, g1, g2, g3⟩ := HLV3.out.rows
              have G1 : Hid (vs.length = j) := g1
              have G2 : Hid (w3.ownsRow wa.heap.size 25 1 u10 j vs) := g2
              have G3 : Hid (∀ t, t < j → ∃ lev, Fr wa.heap.size 22 3 w3 (vs.getD t (.slice none 0 0)) lev ∧ LevOk d C A t lev) := g3
              clear g1 g2 g3
              go_wp2_with (first | (at_builtin; refine wpList_append_own _ rfl _ _ 33 rfl wa.heap.size 25 i2 (.slice none 0 0) 1 24 Tryz.underlying33 hi2 hz20 hz21 hz22 rfl (by decide) _ _ _ rfl (G2.out.alloc _) ⟨w3.heap.size, 0, none⟩ 1 1 [.slice xo xl xc] rfl rfl (one_new _ _ _) (one_slice _ _ _) ?d3 ?d4 ?d5 ?_))
              case d3 => unfold maxLen; omega
              case d4 => omega
              case d5 => first | exact hsz3 | omega | (simp; omega)
              intro v' w5 ho hg _
              have hal : Below w3.heap.size w3 (w3.alloc (.cells #[.slice xo xl xc] 25)) := (Below.refl _ _).alloc (Nat.le_refl _) _
              have R1 : Hid (Lvs wa.heap.size w5 v' (j + 1) (LevOk d C A)) := Lvs.push G1.out (G2.out.alloc _) (fun t ht => by
                obtain ⟨l, q1, q2⟩ := G3.out t ht
                exact ⟨l, q1.below hal (Nat.le_refl _), q2⟩) ((HL3.out.1.mono (Nat.le_trans hszb hszq)).below hal (Nat.le_refl _)) HL3.out.2.1 ho hg
              have R2 : Hid (Below wa.heap.size wa w5) := (HBa3.out.alloc hsz3 _).grown hg (by simp; omega) (fun x hx => (G2.out.lt x hx).1)
              clear ho hg hal
              go_wp2
              exact ⟨⟨j + 1, by omega, by go_num, R1.out, R2.out⟩, by simp [intOf]; omega⟩
        · have hje : j = d + 2 := by omega
          have HLF : Hid (Lvs w.heap.size wb u10 (d + 2) (LevOk d C A)) := by
            have h := HLV.out
            rw [hje] at h
            exact h.mono HBw.out.size
          have hjI : ¬ ((j : Int) - 1 ≤ (d : Int)) := by omega
          have HBF : Hid (Below w.heap.size w wb) := HBw.out.trans (HBb.out.mono HBw.out.size)
          clear hje hj hjd
          go_wp2
          go_ret
          refine ⟨_, rfl, ⟨C, s, A, ⟨⟨HC.out.2.1, HC.out.2.2.1⟩, ⟨HSS.out.2.1, HSS.out.2.2.1⟩, ?_, HLF.out⟩⟩, HBF.out⟩
          rw [← HNC.out, ← HSE.out]
          exact HCF.out

end Go.Proofs.YtkfdpcgmpbopnaaGreatDoor

/- Which simplices may be: one list, by the program. -/
namespace Go.Proofs.YtkfdpcgmpbopnaaGreatDoor
open Go.RowKit
attribute [local go_sem ↓] Go.wp_at_zero Go.wp_at_succ

/-- The first that is not 0. -/
def firstE (f : Nat → Int) : Nat → Int
  | 0 => 0
  | n + 1 => if firstE f n = 0 then f n else firstE f n

theorem firstE_step {f : Nat → Int} {k : Nat} (h : firstE f k = 0) (h2 : f k = 0) : firstE f (k + 1) = 0 := by
  rw [firstE, if_pos h, h2]

theorem firstE_hit {f : Nat → Int} {k : Nat} (h : firstE f k = 0) (h2 : f k ≠ 0) : ∀ n, k < n → firstE f n = f k := by
  intro n
  induction n with
  | zero => intro hn; omega
  | succ n ih =>
    intro hn
    by_cases hk : k = n
    · subst hk; rw [firstE, if_pos h]
    · have := ih (by omega)
      rw [firstE, if_neg (by rw [this]; exact h2), this]

theorem firstE_zero {f : Nat → Int} : ∀ n, firstE f n = 0 → ∀ k, k < n → f k = 0
  | 0, _, k, hk => by omega
  | n + 1, h, k, hk => by
    rw [firstE] at h
    by_cases h0 : firstE f n = 0
    · rw [if_pos h0] at h
      by_cases hkn : k = n
      · subst hkn; exact h
      · exact firstE_zero n h0 k (by omega)
    · rw [if_neg h0] at h
      exact absurd h h0

/-- One number of a list. -/
def numE (x : List Int) (k : Nat) : Int :=
  if x.getD k 0 < 0 ∨ 63 < x.getD k 0 then 4 else if 0 < k ∧ x.getD k 0 ≤ x.getD (k - 1) 0 then 3 else 0

/-- One list. -/
def listE (c : Nat) (x : List Int) : Int := if x.length ≠ c ∨ c < 1 ∨ 5 < c then 3 else firstE (numE x) x.length

/-- One list among others. -/
def simE (m : List (List Int)) (i : Nat) : Int :=
  if listE (m.getD 0 []).length (m.getD i []) = 0 then (if (m.take i).contains (m.getD i []) then 8 else 0) else listE (m.getD 0 []).length (m.getD i [])

/-- All lists. -/
def facetsE (m : List (List Int)) : Int := if m.length < 1 ∨ 40 < m.length then 2 else firstE (simE m) m.length

end Go.Proofs.YtkfdpcgmpbopnaaGreatDoor

/- Which simplices may be: the document's answer. -/
namespace Go.Proofs.YtkfdpcgmpbopnaaGreatDoor
open Go.RowKit
attribute [local go_sem ↓] Go.wp_at_zero Go.wp_at_succ

theorem Mat.takeM {B n c : Nat} {w : World} {ao : Option Addr} {m : List (List Int)} (h : Mat B 22 3 w (.slice ao m.length c) m) (hn : n ≤ m.length) : Mat B 22 3 w (.slice ao n c) (m.take n) := by
  obtain ⟨vs, h1, ⟨ao', cap, hv, h2, h3, h4, h5⟩, h6⟩ := h
  simp only [Value.slice.injEq] at hv
  obtain ⟨rfl, _, rfl⟩ := hv
  have hl : (m.take n).length = n := by rw [List.length_take]; omega
  have hlv : (vs.take n).length = n := by rw [List.length_take]; omega
  refine ⟨vs.take n, by rw [hlv, hl], ⟨ao, c, by rw [hlv], by rw [hlv]; omega, h3, fun i hi => ?_, h5⟩, fun i hi => ?_⟩
  · rw [hlv] at hi
    obtain ⟨b, o, q1, q2, q3⟩ := h4 i (by omega)
    exact ⟨b, o, q1, by rw [q2, List.getElem?_take_of_lt hi], q3⟩
  · rw [hl] at hi
    have e1 : (vs.take n).getD i (.slice none 0 0) = vs.getD i (.slice none 0 0) := by simp [List.getElem?_take_of_lt hi]
    have e2 : (m.take n).getD i [] = m.getD i [] := by simp [List.getElem?_take_of_lt hi]
    rw [e1, e2]
    exact h6 i (by omega)

theorem step_c2 {P : Program} {ops : Array Oper} {o : Oper} {a : Act} {w : World} {K : Act → World → Prop} {Q : Exit → Act → World → Prop} {E : Prop}
    (hg : o.guard = none) (f : FuncId) (x y : Operand) (t s : TypeId) (hop : o.op = Op.call { callee := Callee.value (Operand.func f), args := #[x, y], argTypes := #[t, s] }) (v u : Value) (hv : a.eval x = v) (hu : a.eval y = u) (hf : ∃ fn, P.funcs[f]? = some fn ∧ (fn.name == "runtime.NumGoroutine") = false ∧ fn.body.isNone = false)
    (hc : Calls P f #[v, u] w fun e w' => ∃ u, e = .returned u ∧ K (a.put o.dst u) w') :
    if Region.wanted o (yielded ops a.tmps) = true then Oper.wp P o a w K Q else E := by
  have hw : Region.wanted o (yielded ops a.tmps) = true := by simp [Region.wanted, hg]
  rw [if_pos hw]
  unfold Oper.wp
  obtain ⟨fn, f1, f2, f3⟩ := hf
  have e : (execOp a.eval o).run P w = .ok (.enter f #[v, u]) w := by
    have hfn : a.eval (Operand.func f) = Value.func (Fn.func f) #[] #[] := rfl
    have hcf : (callFunc f #[v, u]).run P w = .ok (.enter f #[v, u]) w := by
      unfold callFunc
      have g2 : ¬ fn.name = "runtime.NumGoroutine" := by simpa using f2
      have g3 : ¬ fn.body = none := by intro e; rw [e] at f3; simp at f3
      simp [f1, g2, g3]
    unfold execOp
    rw [hop]
    simp [resolve, invoke, hv, hu, hfn, Deferred.ofValue, hcf]
  rw [e, Oper.upon_enter]
  refine hc.mono ?_
  rintro e w' ⟨u, rfl, h⟩
  exact h

/-- A world that is as it was but for draws. -/
def Qt (w wr : World) : Prop := ∃ n, wr = w.drewN n

theorem Qt.refl (w : World) : Qt w w := ⟨0, rfl⟩
theorem Qt.drew {w wr : World} (h : Qt w wr) : Qt w wr.drew := by
  obtain ⟨n, rfl⟩ := h
  exact ⟨n + 1, rfl⟩
theorem Qt.drewN {w wr : World} (h : Qt w wr) (k : Nat) : Qt w (wr.drewN k) := by
  obtain ⟨n, rfl⟩ := h
  exact ⟨n + k, by rw [World.drewN_drewN]⟩
theorem Qt.trans {w wr ws : World} (h : Qt w wr) (h2 : Qt wr ws) : Qt w ws := by
  obtain ⟨k, rfl⟩ := h2
  exact h.drewN k
theorem Qt.mat {B : Nat} {w wr : World} {v : Value} {m : List (List Int)} (h : Qt w wr) (hm : Mat B 22 3 w v m) : Mat B 22 3 wr v m := by
  obtain ⟨n, rfl⟩ := h
  exact hm.drewN n
theorem Qt.sl {B : Nat} {e : TypeId} {w wr : World} {v : Value} {m : List Value} (h : Qt w wr) (hm : Sl B e w v m) : Sl B e wr v m := by
  obtain ⟨n, rfl⟩ := h
  exact hm.drewN n
theorem Qt.cell {w wr : World} (h : Qt w wr) (a : Addr) : wr.cell? a = w.cell? a := by
  obtain ⟨n, rfl⟩ := h
  simp
theorem Qt.below {N : Nat} {w wr : World} (h : Qt w wr) : Below N w wr := by
  obtain ⟨n, rfl⟩ := h
  exact bel_drewN (Below.refl _ _) n

end Go.Proofs.YtkfdpcgmpbopnaaGreatDoor

/- Which simplices may be: the program's answer. -/
namespace Go.Proofs.YtkfdpcgmpbopnaaGreatDoor
open Go.RowKit
attribute [local go_sem ↓] Go.wp_at_zero Go.wp_at_succ

set_option maxRecDepth 100000 in
set_option maxHeartbeats 400000 in
theorem eqlS_any (B : Nat) (x y : List Int) (u v : Value) (w : World) (hu : Sl B 3 w u (ints x)) (hv : Sl B 3 w v (ints y)) :
    Calls Tryz.prog 78 #[u, v] w fun e w' => e = .returned (.bool (x == y)) ∧ ∃ n, w' = w.drewN n := by
  have hu' := hu
  have hv' := hv
  obtain ⟨ao, cap, hvv, hlc, hcm, -⟩ := hu'
  obtain ⟨bo, cbp, huu, hlb, hcb, -⟩ := hv'
  simp only [ints_length] at hlc hvv hlb huu
  subst hvv huu
  have HU : Hid (Sl B 3 w (.slice ao x.length cap) (ints x)) := hu
  have HV : Hid (Sl B 3 w (.slice bo y.length cbp) (ints y)) := hv
  clear hu hv
  unfold maxLen at hcm hcb
  by_cases hl : x.length = y.length
  · have hbe : ((x.length : Int) != (y.length : Int)) = false := by simp [hl]
    have HL : Hid (x.length = y.length) := hl
    have hle : y.length ≤ x.length := by omega
    have hge : x.length ≤ y.length := by omega
    clear hl
    go_enter Tryz.func78, Tryz.ntmps78
    go_wp2
    go_loopw [13] (fun i wr => ∃ k : Nat, k ≤ x.length ∧ i = .int .i64 k ∧ (∀ j, j < k → x.getD j 0 = y.getD j 0) ∧ ∃ n, wr = w.drewN n) (fun i _ => x.length - (intOf i).toNat)
    case atStart => exact ⟨0, Nat.zero_le _, rfl, fun j hj => absurd hj (by omega), 0, rfl⟩
    case round =>
      obtain ⟨k, hk, rfl, hno, n, rfl⟩ := hrel
      have HN : Hid (∀ j, j < k → x.getD j 0 = y.getD j 0) := hno
      clear hno
      by_cases hlt : k < x.length
      · have hlt2 : k < y.length := by omega
        obtain ⟨b, o, cp, hs, hc1, hcc⟩ := sl_cell HU.out hlt
        simp only [Value.slice.injEq] at hs
        obtain ⟨rfl, _, rfl⟩ := hs
        obtain ⟨b2, o2, cp2, hs2, hc2, hcc2⟩ := sl_cell HV.out hlt2
        simp only [Value.slice.injEq] at hs2
        obtain ⟨rfl, _, rfl⟩ := hs2
        go_wp2
        go_quiet (fail)
        go_wp2
        · have hf : (x[k] != y[k]) = true := by assumption
          go_ret
          refine ⟨ret_bool (Eq.symm ?_), n + nq, by rw [World.drewN_drewN]⟩
          rw [beq_eq_false_iff_ne]
          rintro rfl
          simp at hf
        · have hf : (x[k] != y[k]) = false := by assumption
          go_roundw
          case rel =>
            refine ⟨k + 1, by omega, by go_num, fun j hj => ?_, _, rfl⟩
            by_cases hjk : j < k
            · exact HN.out j hjk
            · have : j = k := by omega
              subst this
              simpa [hlt, hlt2] using hf
          case measure => simp [intOf]; omega
      · go_wp2
        go_ret
        refine ⟨ret_bool (Eq.symm ?_), _, rfl⟩
        rw [beq_iff_eq]
        exact eq_of_all HL.out fun i hi => HN.out i (by omega)
  · have hbe : ((x.length : Int) != (y.length : Int)) = true := by simp; omega
    go_enter Tryz.func78, Tryz.ntmps78
    go_wp2
    go_ret
    refine ⟨ret_bool (Eq.symm ?_), 0, rfl⟩
    rw [beq_eq_false_iff_ne]
    rintro rfl
    exact hl rfl

end Go.Proofs.YtkfdpcgmpbopnaaGreatDoor

/- The sides of a simplex that are met: the program. -/
namespace Go.Proofs.YtkfdpcgmpbopnaaGreatDoor
open Go.RowKit
attribute [local go_sem ↓] Go.wp_at_zero Go.wp_at_succ

/-- Sets, as values. -/
def nats (ns : List Nat) : List Value := ns.map fun (n : Nat) => Value.int .u64 (n : Int)

@[simp] theorem nats_length (ns : List Nat) : (nats ns).length = ns.length := by simp [nats]

theorem nats_get (ns : List Nat) (i : Nat) (h : i < ns.length) : (nats ns)[i]? = some (.int .u64 (ns.getD i 0 : Nat)) := by
  simp [nats, h]

theorem sl_cellS {B : Nat} {w : World} {v : Value} {ns : List Nat} (h : Sl B 74 w v (nats ns)) {k : Nat} (hk : k < ns.length) :
    ∃ b o cap, v = .slice (some ⟨b, o, none⟩) ns.length cap ∧ ns.length ≤ cap ∧ w.cell? ⟨b, o + k, none⟩ = some (.int .u64 (ns.getD k 0 : Nat)) := by
  obtain ⟨b, o, cap, hv, h1, _, h3⟩ := h.at (by simp; omega)
  simp only [nats_length] at hv h1 h3
  exact ⟨b, o, cap, hv, h1, by rw [h3 k hk, nats_get ns k hk]⟩

theorem sl_openS {B : Nat} {e : TypeId} {w : World} {v : Value} {x : List Nat} (h : Sl B e w v (nats x)) : ∃ ao cap, v = .slice ao x.length cap ∧ x.length ≤ cap ∧ cap ≤ 9223372036854775807 := by
  obtain ⟨ao, cap, rfl, h2, h3, _⟩ := h
  refine ⟨ao, cap, by simp, by simpa using h2, ?_⟩
  unfold maxLen at h3; omega

/-- All below 2^64. -/
def L64 (ns : List Nat) : Prop := ∀ n ∈ ns, n < 18446744073709551616

end Go.Proofs.YtkfdpcgmpbopnaaGreatDoor

/- The sides of a simplex that are met: the program, its two functions. -/
namespace Go.Proofs.YtkfdpcgmpbopnaaGreatDoor
open Go.RowKit
attribute [local go_sem ↓] Go.wp_at_zero Go.wp_at_succ

theorem Tryz.info74' : (Tryz.prog.info? 74).map (fun i => (i.zero, i.size, i.bytes)) = some (some (.int .u64 0), 1, 8) := by kernel_rfl

theorem owns_lower {B B' : Nat} {e : TypeId} {w : World} {v : Value} {n : Nat} {xs : List Value} (h : w.ownsRow B e 1 v n xs) (hB : B' ≤ B) : w.ownsRow B' e 1 v n xs := by
  obtain ⟨h1, h2⟩ := h
  refine ⟨h1, ?_⟩
  rcases h2 with h2 | ⟨g, cap, cur, q1, q2, q3⟩
  · exact Or.inl h2
  · exact Or.inr ⟨g, cap, cur, q1, by omega, q3⟩

theorem one_u64 (z : Int) : ∀ u ∈ [Value.int .u64 z], u.oneCell' = true := by
  intro u hu; simp at hu; subst hu; rfl

theorem owns_pushS {M N : Nat} {e : TypeId} {w0 w w1 : World} {v v' : Value} {l : List Nat} {z : Nat} {o : Obj} (hN : M ≤ w.heap.size) (h : w.ownsRow M e 1 v l.length (nats l)) (hb : Below M w0 w)
    (ho : w1.ownsRow M e 1 v' N (nats l ++ [.int .u64 (z : Int)])) (hg : (w.alloc o).grownBy w1 v.ownBlock) (hn : N = l.length + 1) :
    w1.ownsRow M e 1 v' (l ++ [z]).length (nats (l ++ [z])) ∧ Below M w0 w1 := by
  subst hn
  refine ⟨by simpa [nats] using ho, ?_⟩
  refine (hb.alloc hN o).grown hg (by simp; omega) ?_
  intro k hk
  exact (h.lt k hk).1

end Go.Proofs.YtkfdpcgmpbopnaaGreatDoor

/- Simplices that may be: what is known of them; sets for lists. -/
namespace Go.Proofs.YtkfdpcgmpbopnaaGreatDoor
open Go.RowKit

/-- Simplices that may be. -/
structure Sim (m : List (List Int)) : Prop where
  n1 : 1 ≤ m.length
  n40 : m.length ≤ 40
  c1 : 1 ≤ (m.getD 0 []).length
  c5 : (m.getD 0 []).length ≤ 5
  len : ∀ i, i < m.length → (m.getD i []).length = (m.getD 0 []).length
  b64 : ∀ i, i < m.length → B64 (m.getD i [])
  ris : ∀ i, i < m.length → Ris (m.getD i [])
  new : ∀ i, i < m.length → m.getD i [] ∉ m.take i

theorem num_ok {x : List Int} (h : firstE (numE x) x.length = 0) : B64 x ∧ Ris x := by
  have h1 : ∀ k, k < x.length → (0 ≤ x.getD k 0 ∧ x.getD k 0 ≤ 63) ∧ (0 < k → x.getD (k - 1) 0 < x.getD k 0) := by
    intro k hk
    have := firstE_zero _ h k hk
    unfold numE at this
    split at this
    · omega
    · split at this
      · omega
      · rename_i q1 q2
        exact ⟨by omega, fun h0 => by
          refine Classical.byContradiction fun h3 => q2 ⟨h0, by omega⟩⟩
  constructor
  · intro z hz
    obtain ⟨k, hk, rfl⟩ := List.mem_iff_getElem.1 hz
    have := (h1 k hk).1
    simpa [hk] using this
  · have h2 : ∀ j k, j < k → k < x.length → x.getD j 0 < x.getD k 0 := by
      intro j k
      induction k with
      | zero => intro h; omega
      | succ k ih =>
        intro hj hk
        have h3 := (h1 (k + 1) hk).2 (by omega)
        simp only [Nat.add_sub_cancel] at h3
        by_cases e : j = k
        · subst e; exact h3
        · have := ih (by omega) (by omega)
          omega
    show x.Pairwise (· < ·)
    rw [List.pairwise_iff_getElem]
    intro i j hi hj hij
    have := h2 i j hij hj
    simpa [hi, hj] using this

theorem facets_ok {m : List (List Int)} (h : facetsE m = 0) : Sim m := by
  unfold facetsE at h
  split at h
  · omega
  · rename_i hl
    have h1 : ∀ i, i < m.length → listE (m.getD 0 []).length (m.getD i []) = 0 ∧ (m.take i).contains (m.getD i []) = false := by
      intro i hi
      have := firstE_zero _ h i hi
      unfold simE at this
      split at this
      · rename_i h0
        refine ⟨h0, ?_⟩
        cases hc : (m.take i).contains (m.getD i [])
        · rfl
        · rw [hc] at this
          simp at this
      · rename_i h0
        exact absurd this h0
    have h2 : ∀ i, i < m.length → ((m.getD i []).length = (m.getD 0 []).length ∧ 1 ≤ (m.getD 0 []).length ∧ (m.getD 0 []).length ≤ 5) ∧ firstE (numE (m.getD i [])) (m.getD i []).length = 0 := by
      intro i hi
      have := (h1 i hi).1
      unfold listE at this
      split at this
      · omega
      · exact ⟨by omega, this⟩
    exact
      { n1 := by omega
        n40 := by omega
        c1 := (h2 0 (by omega)).1.2.1
        c5 := (h2 0 (by omega)).1.2.2
        len := fun i hi => (h2 i hi).1.1
        b64 := fun i hi => (num_ok (h2 i hi).2).1
        ris := fun i hi => (num_ok (h2 i hi).2).2
        new := fun i hi hm => by
          have := (h1 i hi).2
          rw [List.contains_iff_mem.2 hm] at this
          cases this }

theorem sim_take {m : List (List Int)} (i : Nat) : ∀ o ∈ m.take i, ∃ j, j < m.length ∧ j < i ∧ o = m.getD j [] := by
  intro o ho
  obtain ⟨j, hj, rfl⟩ := List.mem_take_iff_getElem.1 ho
  exact ⟨j, by omega, by omega, by simp [show j < m.length by omega]⟩

theorem Sim.ahd {m : List (List Int)} (h : Sim m) {i : Nat} (hi : i < m.length) : Ahd (m.getD i []) (m.take i) := by
  intro o ho
  obtain ⟨j, hj, hji, rfl⟩ := sim_take i o ho
  refine ⟨h.ris j hj, by rw [h.len i hi, h.len j hj], fun e => h.new i hi ?_⟩
  rw [e]
  exact ho

theorem Sim.ab {m : List (List Int)} (h : Sim m) (i : Nat) : ∀ o ∈ m.take i, B64 o := by
  intro o ho
  obtain ⟨j, hj, _, rfl⟩ := sim_take i o ho
  exact h.b64 j hj

theorem any_sub {s : List Int} {ahead : List (List Int)} (hs : B64 s) (ha : ∀ o ∈ ahead, B64 o) :
    ((ahead.map setN).any fun a => outN (setN s) a == 0) = ahead.any (subB s) := by
  rw [List.any_map]
  rw [Bool.eq_iff_iff, List.any_eq_true, List.any_eq_true]
  constructor
  · rintro ⟨o, ho, h⟩
    exact ⟨o, ho, (setN_in s o hs (ha o ho)).1 (by simpa using h)⟩
  · rintro ⟨o, ho, h⟩
    exact ⟨o, ho, by simpa using (setN_in s o hs (ha o ho)).2 h⟩

theorem met_map {x : List Int} {ahead : List (List Int)} (hx : B64 x) (ha : ∀ o ∈ ahead, B64 o) :
    ((x.map fun v => setN (butL x v)).filter fun s => (ahead.map setN).any fun a => outN s a == 0) = (metL x ahead).map setN := by
  have e1 : (x.map fun v => setN (butL x v)) = (x.map (butL x)).map setN := by rw [List.map_map]; rfl
  rw [e1, List.filter_map]
  unfold metL
  congr 1
  apply List.filter_congr
  intro s hs
  obtain ⟨v, _, rfl⟩ := List.mem_map.1 hs
  exact any_sub (hx.filter _) ha

theorem met_b64 {x : List Int} {ahead : List (List Int)} (hx : B64 x) : ∀ s ∈ metL x ahead, B64 s := by
  intro s hs
  obtain ⟨h1, _⟩ := List.mem_filter.1 hs
  obtain ⟨v, _, rfl⟩ := List.mem_map.1 h1
  exact hx.filter _

theorem l64_map {l : List (List Int)} (h : ∀ o ∈ l, B64 o) : L64 (l.map setN) := by
  intro n hn
  obtain ⟨o, ho, rfl⟩ := List.mem_map.1 hn
  exact setN_lt' (h o ho)

theorem meet_map {x : List Int} {ahead met : List (List Int)} (hx : B64 x) (ha : ∀ o ∈ ahead, B64 o) (hm : ∀ o ∈ met, B64 o) :
    (!((ahead.map setN).any fun o => !((met.map setN).any fun a => outN (setN x &&& o) a == 0))) = meetB x ahead met := by
  have e : ∀ o ∈ ahead, ((met.map setN).any fun a => outN (setN x &&& setN o) a == 0) = met.any (subB (sharedL x o)) := by
    intro o ho
    rw [setN_and x o hx (ha o ho)]
    exact any_sub (hx.filter _) hm
  unfold meetB
  have e2 : ((ahead.map setN).any fun o => !((met.map setN).any fun a => outN (setN x &&& o) a == 0)) = ahead.any fun o => !(met.any (subB (sharedL x o))) := by
    rw [List.any_map]
    rw [Bool.eq_iff_iff, List.any_eq_true, List.any_eq_true]
    constructor
    · rintro ⟨o, ho, h⟩
      exact ⟨o, ho, by rw [← e o ho]; exact h⟩
    · rintro ⟨o, ho, h⟩
      exact ⟨o, ho, by rw [← e o ho] at h; exact h⟩
  rw [e2, ← List.all_eq_not_any_not]

/-- How many have how many. -/
def cntL (c : Nat) (f : Nat → Nat) : Nat → List Int
  | 0 => List.replicate (c + 1) 0
  | k + 1 => (cntL c f k).set (f k) ((cntL c f k).getD (f k) 0 + 1)

theorem cntL_len (c : Nat) (f : Nat → Nat) : ∀ k, (cntL c f k).length = c + 1
  | 0 => by simp [cntL]
  | k + 1 => by simp [cntL, cntL_len c f k]

theorem cntL_le (c : Nat) (f : Nat → Nat) : ∀ k j, 0 ≤ (cntL c f k).getD j 0 ∧ (cntL c f k).getD j 0 ≤ k
  | 0, j => by
    have : (cntL c f 0).getD j 0 = 0 := by
      simp only [cntL, List.getD_eq_getElem?_getD, List.getElem?_replicate]
      split <;> rfl
    omega
  | k + 1, j => by
    have h1 := cntL_le c f k j
    have h2 := cntL_le c f k (f k)
    have e : (cntL c f (k + 1)).getD j 0 = (cntL c f k).getD (f k) 0 + 1 ∨ (cntL c f (k + 1)).getD j 0 = (cntL c f k).getD j 0 := by
      rw [show cntL c f (k + 1) = (cntL c f k).set (f k) ((cntL c f k).getD (f k) 0 + 1) from rfl]
      generalize cntL c f k = L at *
      simp only [List.getD_eq_getElem?_getD, List.getElem?_set]
      by_cases e1 : f k = j
      · subst e1
        by_cases e2 : f k < L.length
        · left; simp [e2]
        · right; simp [e2]
      · right; simp [e1]
    omega

theorem cntL_congr (c : Nat) (f g : Nat → Nat) : ∀ k, (∀ i, i < k → f i = g i) → cntL c f k = cntL c g k
  | 0, _ => rfl
  | k + 1, h => by
    unfold cntL
    rw [cntL_congr c f g k (fun i hi => h i (by omega)), h k (by omega)]

/-- A row of integers that lies in block N. -/
def Blk (N : Nat) (w : World) (l : List Int) : Prop := w.heap[N]? = some (.cells (ints l).toArray 3 (0, 0))

theorem Blk.cell {N : Nat} {w : World} {l : List Int} (h : Blk N w l) {j : Nat} (hj : j < l.length) : w.cell? ⟨N, j, none⟩ = some (.int .i64 (l.getD j 0)) := by
  unfold Blk at h
  simp [World.cell?, h, ints, hj]

theorem Blk.frozen {N : Nat} {w : World} {l : List Int} (h : Blk N w l) (j : Nat) : w.frozen? ⟨N, j, none⟩ = false := by
  unfold Blk at h
  simp [World.frozen?, h]

theorem Blk.set {N : Nat} {w : World} {l : List Int} (h : Blk N w l) (j : Nat) (z : Int) : Blk N (w.setCell ⟨N, j, none⟩ (.int .i64 z)) (l.set j z) := by
  unfold Blk at h ⊢
  simp only [World.setCell, Array.getElem?_modify, h]
  simp [ints, List.map_set]

theorem Blk.keep {N M : Nat} {w w' : World} {l : List Int} (h : Blk N w l) (hb : Below M w w') (hN : N < M) : Blk N w' l := by
  unfold Blk at h ⊢
  rw [hb.block N hN]
  exact h

theorem made_eq (n : Nat) : madeCells #[.int .i64 0] n = (ints (List.replicate n 0)).toArray := by
  apply Array.ext
  · simp [madeCells, ints]
  · intro i h1 h2
    simp [madeCells, ints, Nat.mod_one]

theorem Blk.made (w : World) (n : Nat) : Blk w.heap.size (w.alloc (.cells (madeCells #[.int .i64 0] n) 3)) (List.replicate n 0) := by
  unfold Blk
  rw [heap_alloc_new, made_eq]

theorem Blk.sl {N B : Nat} {w : World} {l : List Int} (h : Blk N w l) (hl : l.length ≤ 1000) : Sl B 3 w (.slice (some ⟨N, 0, none⟩) l.length l.length) (ints l) := by
  refine ⟨some ⟨N, 0, none⟩, l.length, by simp, by simp, by unfold maxLen; omega, fun i hi => ?_, fun h => by cases h⟩
  have hi' : i < l.length := by simpa using hi
  refine ⟨N, 0, rfl, ?_, Or.inr ⟨_, h⟩⟩
  rw [Nat.zero_add, h.cell hi', ints_get _ _ hi']
end Go.Proofs.YtkfdpcgmpbopnaaGreatDoor

/- Simplices one behind the other: the program. -/
namespace Go.Proofs.YtkfdpcgmpbopnaaGreatDoor
open Go.RowKit
attribute [local go_sem ↓] Go.wp_at_zero Go.wp_at_succ

/-- Is what the i-th has in common with those ahead in its sides that are met? -/
def shOk (m : List (List Int)) (i : Nat) : Bool := meetB (m.getD i []) (m.take i) (metL (m.getD i []) (m.take i))
def shN (m : List (List Int)) (i : Nat) : Nat := (metL (m.getD i []) (m.take i)).length

/-- All so far are met in whole sides. -/
def allOk (m : List (List Int)) : Nat → Bool
  | 0 => true
  | k + 1 => allOk m k && shOk m k

theorem allOk_step {m : List (List Int)} {k : Nat} (h : allOk m k = true) (h2 : shOk m k = true) : allOk m (k + 1) = true := by
  rw [allOk, h, h2]; rfl

theorem allOk_bad {m : List (List Int)} {k : Nat} (h2 : shOk m k = false) : ∀ n, k < n → allOk m n = false := by
  intro n
  induction n with
  | zero => intro h; omega
  | succ n ih =>
    intro h
    by_cases e : k = n
    · subst e; rw [allOk, h2]; simp
    · rw [allOk, ih (by omega)]; rfl

theorem owns_setCell {B : Nat} {e : TypeId} {w : World} {v : Value} {n : Nat} {xs : List Value} {a : Addr} (h : w.ownsRow B e 1 v n xs) (ha : a.block < B) (u : Value) : (w.setCell a u).ownsRow B e 1 v n xs := by
  obtain ⟨h1, h2⟩ := h
  refine ⟨h1, ?_⟩
  rcases h2 with h2 | ⟨g, cap, cur, q1, q2, q3, q4⟩
  · exact Or.inl h2
  · exact Or.inr ⟨g, cap, cur, q1, q2, (Below.heap_setCell w a u g (by omega)).trans q3, q4⟩

theorem Blk.grow {N : Nat} {w w' : World} {l : List Int} {o : Obj} {row : Option Nat} (h : Blk N w l) (hg : (w.alloc o).grownBy w' row) (hN : N < w.heap.size) (hne : some N ≠ row) : Blk N w' l := by
  unfold Blk at h ⊢
  rw [hg.block N (by simp; omega) hne]
  exact (Below.heap_alloc _ _ _ hN).trans h

/-- What is told. -/
def shellA (m : List (List Int)) : List Int := if allOk m m.length then cntL (m.getD 0 []).length (shN m) m.length else []

end Go.Proofs.YtkfdpcgmpbopnaaGreatDoor

/- Simplices one behind the other: the document's answer. -/
namespace Go.Proofs.YtkfdpcgmpbopnaaGreatDoor
open Go.RowKit
attribute [local go_sem ↓] Go.wp_at_zero Go.wp_at_succ

/-- Is what x has in common with o in one of the sides? -/
def okAt (x : List Int) (sides : List (List Int)) (o : List Int) : Bool := sides.any (fun s => decide ((sharedL (sharedL x o) s).length = (sharedL x o).length))

theorem sides_snoc (x : List Int) (m : List (List Int)) (k : Nat) (h : k < m.length) : sidesL x (m.take (k + 1)) = sidesStep x (sidesL x (m.take k)) (m.getD k []) := by
  unfold sidesL
  rw [List.take_succ_eq_append_getElem h, List.foldl_append]
  simp [h]

theorem sides_le (x : List Int) : ∀ (l : List (List Int)) (acc : List (List Int)), (l.foldl (sidesStep x) acc).length ≤ acc.length + l.length
  | [], acc => by simp
  | o :: l, acc => by
    rw [List.foldl_cons]
    have := sides_le x l (sidesStep x acc o)
    have h2 : (sidesStep x acc o).length ≤ acc.length + 1 := by
      unfold sidesStep
      split <;> simp
    simp only [List.length_cons]
    omega

theorem shared_le (x o : List Int) : (sharedL x o).length ≤ x.length := List.length_filter_le _ _

theorem okB_at {x : List Int} {ahead sides : List (List Int)} : okB x ahead sides = ahead.all (okAt x sides) := rfl

theorem okB_true {x : List Int} {m sides : List (List Int)} {i : Nat} (h : ∀ k, k < i → okAt x sides (m.getD k []) = true) : okB x (m.take i) sides = true := by
  rw [okB_at, List.all_eq_true]
  intro o ho
  obtain ⟨j, hj, hji, rfl⟩ := sim_take i o ho
  exact h j hji

theorem okB_false {x : List Int} {m sides : List (List Int)} {i k : Nat} (hi : i ≤ m.length) (hk : k < i) (h : okAt x sides (m.getD k []) = false) : okB x (m.take i) sides = false := by
  rw [okB_at, List.all_eq_false]
  refine ⟨m.getD k [], ?_, by rw [h]; simp⟩
  rw [List.mem_take_iff_getElem]
  exact ⟨k, by omega, by simp [show k < m.length by omega]⟩

end Go.Proofs.YtkfdpcgmpbopnaaGreatDoor

/- The law of shells. -/
namespace Go.Proofs.YtkfdpcgmpbopnaaGreatDoor
open Go.RowKit
attribute [local go_sem ↓] Go.wp_at_zero Go.wp_at_succ

set_option maxRecDepth 100000 in
set_option maxHeartbeats 800000 in
theorem heavyS_any (B : Nat) (m : List (List Int)) (v : Value) (w : World) (hv : Mat B 22 3 w v m) :
    Calls Tryz.prog 7 #[v] w fun e w' => ∃ b, e = .returned (.bool b) ∧ (b = false → m.length ≤ 300) ∧ w' = w := by
  obtain ⟨ao, cap, hvv, hlc, hcm⟩ := mat_open hv
  subst hvv
  have HV : Hid (Mat B 22 3 w (.slice ao m.length cap) m) := hv
  clear hv
  by_cases h1 : 300 < m.length
  · have b1 : decide ((300 : Int) < (m.length : Int)) = true := decide_eq_true (by omega)
    go_enter Tryz.func7, Tryz.ntmps7
    go_wp2
    go_ret
    exact ⟨true, rfl, (fun h => absurd h (by decide)), rfl⟩
  · have b1 : decide ((300 : Int) < (m.length : Int)) = false := decide_eq_false (by omega)
    have HL : Hid (m.length ≤ 300) := by show _ ≤ _; omega
    go_enter Tryz.func7, Tryz.ntmps7
    go_wp2
    go_loopw [3, 4] (fun n i wr => ∃ t s : Nat, t ≤ m.length ∧ s ≤ 300 * t ∧ n = .int .i64 s ∧ i = .int .i64 t ∧ wr = w) (fun _ i _ => m.length - (intOf i).toNat)
    case atStart => exact ⟨0, 0, Nat.zero_le _, Nat.le_refl _, rfl, rfl, rfl⟩
    case round =>
      obtain ⟨t, s, ht, hs, rfl, rfl, rfl⟩ := hrel
      by_cases htn : t < m.length
      · obtain ⟨b, o, cp, u, hs, _, hcc, hu⟩ := mat_cell HV.out htn
        simp only [Value.slice.injEq, true_and] at hs
        obtain ⟨rfl, rfl⟩ := hs
        obtain ⟨uo, uc, hue, hul, hum⟩ := sl_open hu
        subst hue
        generalize (m.getD t []).length = l at *
        clear hu
        by_cases hl : 300 < l
        · have b2 : decide ((300 : Int) < (l : Int)) = true := decide_eq_true (by omega)
          go_wp2
          go_ret
          exact ⟨true, rfl, (fun h => absurd h (by decide)), rfl⟩
        · have b2 : decide ((300 : Int) < (l : Int)) = false := decide_eq_false (by omega)
          go_wp2
          go_roundw
          case rel => exact ⟨t + 1, s + l, by omega, by omega, by go_num, by go_num, trivial⟩
          case measure => simp [intOf]; omega
      · go_wp2
        go_ret
        exact ⟨_, rfl, fun _ => HL.out, rfl⟩

end Go.Proofs.YtkfdpcgmpbopnaaGreatDoor

/- A polytope has a side; the law ShellMade: the walk. -/
namespace Go.Proofs.YtkfdpcgmpbopnaaGreatDoor
open Lin

/-- A row meets one of the points that it comes of. -/
theorem row_meets {d : Nat} {C : List (List Int)} (hg : Good d C) {r : List Int} (hr : r ∈ rowsC C [] d C) : ∃ y ∈ C, r.getD d 0 = dot d (V r) (V y) := by
  obtain ⟨t, hts, htl, hrt⟩ := mem_rowsC.1 hr
  obtain ⟨σ, hσ, hnb, hre⟩ := rowT_form htl hrt
  have hal := norm_len hnb
  have hd1 := hg.d1
  have hVr : ∀ i, i < d → V r i = σ * V (normL d (diffL t)) i := fun i hi => by
    rw [hre]
    have h := V_map (normL d (diffL t) ++ [dotL (normL d (diffL t)) (t.getD 0 [])]) σ i
    rw [h, (row_app hal).2.2.2 i hi]
  have hlast : r.getD d 0 = σ * dotL (normL d (diffL t)) (t.getD 0 []) := by
    rw [hre]
    have h := V_map (normL d (diffL t) ++ [dotL (normL d (diffL t)) (t.getD 0 [])]) σ d
    simp only [V] at h
    rw [h, (row_app hal).2.2.1]
  refine ⟨t.getD 0 [], hts.subset (by simp [show 0 < t.length by omega]), ?_⟩
  rw [hlast, dotL_eq hal]
  unfold dot
  rw [← sumN_mul]
  exact (sumN_congr fun i hi => by rw [hVr i hi, Int.mul_assoc]).symm

theorem mem_side {C : List (List Int)} {r : List Int} (hC : C.length ≤ 16) {y : List Int} : y ∈ pks C [] (memL (sdN C r)) ↔ y ∈ C ∧ overL r y = 0 := by
  have hlt : sdN C r < 2 ^ 64 := Nat.lt_of_lt_of_le (sdTo_lt C r C.length) (Nat.pow_le_pow_right (by decide) (by omega))
  unfold pks
  simp only [List.mem_map]
  constructor
  · rintro ⟨x, hx, rfl⟩
    obtain ⟨k, rfl, hk⟩ := (mem_memL hlt).1 hx
    unfold sdN at hk
    rw [sdTo_bit] at hk
    simp only [Bool.and_eq_true, decide_eq_true_eq] at hk
    rw [show ((k : Int)).toNat = k by omega]
    exact ⟨by simp [hk.1], hk.2⟩
  · rintro ⟨hy, ho⟩
    obtain ⟨k, hk, rfl⟩ := List.mem_iff_getElem.1 hy
    have e : C.getD k [] = C[k] := by simp [hk]
    refine ⟨(k : Int), (mem_memL hlt).2 ⟨k, rfl, ?_⟩, by rw [show ((k : Int)).toNat = k by omega]; exact e⟩
    unfold sdN
    rw [sdTo_bit, e]
    simp [hk, ho]

/-- There is a side. -/
theorem side_there {B d : Nat} {P : List (List Int)} {w : World} {x : Value} {C s : List (List Int)} {A : List Nat} (h : Lat B d P w x C s A) (hg : Good d C) (hC : C.length ≤ 16) : ∃ a ∈ A, dimL d C a = (d : Int) - 1 := by
  obtain ⟨r, hr⟩ := row_some hg
  have hrs : r ∈ s := (h.rows.2 r).2 (mem_rowsD.2 hr)
  have hlt := sdTo_lt C r C.length
  have hmem := h.all.cl 0 h.all.hd.1 (sdN C r) (List.mem_map.2 ⟨r, hrs, rfl⟩)
  rw [h.all.hd.2, Nat.and_comm, Nat.and_two_pow_sub_one_eq_mod, Nat.mod_eq_of_lt (show sdN C r < 2 ^ C.length from hlt)] at hmem
  refine ⟨sdN C r, hmem, ?_⟩
  have hd5 : d ≤ 5 := by have := hg.d4; omega
  have hrow := rowsC_fit hg.box hg.d1 hd5 (fun _ => Iff.rfl) hr
  have hz : ∀ y ∈ C, (overL r y = 0 ↔ r.getD d 0 = dot d (V r) (V y)) := fun y hy => over_zero hrow.len (hg.box y hy).1
  have hrk := side_rank hg hr (p := pks C [] (memL (sdN C r))) (fun y => by
    rw [mem_side hC]
    exact and_congr_right fun hy => hz y hy)
  obtain ⟨y, hy, hty⟩ := row_meets hg hr
  have hin : y ∈ pks C [] (memL (sdN C r)) := (mem_side hC).2 ⟨hy, (hz y hy).2 hty⟩
  have hne : memL (sdN C r) ≠ [] := by
    intro h0
    rw [h0] at hin
    simp [pks] at hin
  unfold dimL
  rw [if_neg hne]
  omega

/-- Two rows change places. -/
theorem swap_rows {w : World} {g cap : Nat} {f : Nat → Value} {m : List (List Int)} (h : RowM w g cap f m) {i j : Nat} (hi : i < m.length) (hj : j < m.length) :
    ∃ m2, Mat ((w.setCell ⟨g, i, none⟩ (f j)).setCell ⟨g, j, none⟩ (f i)).heap.size 22 3 ((w.setCell ⟨g, i, none⟩ (f j)).setCell ⟨g, j, none⟩ (f i)) (.slice (some ⟨g, 0, none⟩) m.length cap) m2 := by
  have ht : Touch g w ((w.setCell ⟨g, i, none⟩ (f j)).setCell ⟨g, j, none⟩ (f i)) := ((Touch.refl _ _).setCell i _).setCell j _
  obtain ⟨cur, hcur, _⟩ := h.row
  have hin : ∀ k, k < m.length → Sl 0 3 ((w.setCell ⟨g, i, none⟩ (f j)).setCell ⟨g, j, none⟩ (f i)) (f k) (ints (m.getD k [])) := fun k hk => ht.sl hcur (h.inn k hk)
  have hrow := (h.row.set i (f j)).set j (f i)
  have hl : ((List.range m.length).map fun k => if k = j then m.getD i [] else if k = i then m.getD j [] else m.getD k []).length = m.length := by simp
  have hr : RowM ((w.setCell ⟨g, i, none⟩ (f j)).setCell ⟨g, j, none⟩ (f i)) g cap (fun q => if q = j then f i else if q = i then f j else f q) ((List.range m.length).map fun k => if k = j then m.getD i [] else if k = i then m.getD j [] else m.getD k []) := by
    refine ⟨hrow, by rw [hl]; exact h.cap1, h.cap2, fun k hk => ?_⟩
    rw [hl] at hk
    have e : ((List.range m.length).map fun k => if k = j then m.getD i [] else if k = i then m.getD j [] else m.getD k []).getD k [] = if k = j then m.getD i [] else if k = i then m.getD j [] else m.getD k [] := by simp [hk]
    rw [e]
    by_cases h1 : k = j
    · rw [if_pos h1, if_pos h1]
      exact hin i hi
    · rw [if_neg h1, if_neg h1]
      by_cases h2 : k = i
      · rw [if_pos h2, if_pos h2]
        exact hin j hj
      · rw [if_neg h2, if_neg h2]
        exact hin k hk
  have hf := hr.fr (B := 0) (Nat.zero_le _)
  rw [hl] at hf
  exact ⟨_, hf.rws.mat (Nat.zero_le _)⟩

open Go.RowKit
attribute [local go_sem ↓] Go.wp_at_zero Go.wp_at_succ

theorem poly_field (a b : Value) (w : World) : (Instr.field 27 (.agg #[a, b]) 1).run Tryz.prog w = .ok b w := by kernel_rfl

theorem poly_boxS {n wd : Nat} {m : List (List Int)} (hm : Box n wd m) (hw : wd ≤ 6) : Box n 6 (polyL n m) := by
  intro r hr
  simp only [polyL, List.mem_append, List.mem_singleton, List.mem_map, List.mem_range] at hr
  rcases hr with (hr | rfl) | ⟨k, hk, rfl⟩
  · refine ⟨(hm r hr).1, fun z hz => ?_⟩
    have := (hm r hr).2 z hz
    omega
  · refine ⟨by simp [zerosL], fun z hz => ?_⟩
    simp only [zerosL, List.mem_map] at hz
    obtain ⟨_, _, rfl⟩ := hz
    omega
  · refine ⟨by simp [spk], fun z hz => ?_⟩
    simp only [spk, List.mem_map] at hz
    obtain ⟨j, _, rfl⟩ := hz
    have := Nat.mod_lt k (show 0 < 2 by decide)
    split <;> omega

end Go.Proofs.YtkfdpcgmpbopnaaGreatDoor
