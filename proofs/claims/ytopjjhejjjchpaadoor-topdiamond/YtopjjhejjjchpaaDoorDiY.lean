import Derived.Test.YtopjjhejjjchpaaDoorGY
import Derived.Test.YtopjjhejjjchpaaDoorFc7
import Derived.Test.YtopjjhejjjchpaaDoorDiA
/- facetref.CountsOf: how many faces of each dimension. -/
namespace Go.Proofs.YtopjjhejjjchpaaDoor
open Go.RowKit Lin
attribute [local go_sem ↓] Go.wp_at_zero Go.wp_at_succ

/-- Levels that are named. -/
structure LvV (w : World) (x : Value) (j : Nat) (LV : Nat → List (List Int)) : Prop where
  rows : ∃ ao cap, x = .slice ao j cap ∧ ∀ X t, Below w.heap.size w X → t < j → ∃ b o ro rc, ao = some ⟨b, o, none⟩ ∧ X.cell? ⟨b, o + t, none⟩ = some (.slice ro (LV t).length rc) ∧ Mat X.heap.size 22 3 X (.slice ro (LV t).length rc) (LV t)

theorem Lvs.named {B : Nat} {w : World} {x : Value} {j : Nat} {ok : Nat → List (List Int) → Prop} (h : Lvs B w x j ok) : ∃ LV, LvV w x j LV ∧ ∀ t, t < j → ok t (LV t) := by
  obtain ⟨vs, h1, h2, h3⟩ := h.rows
  have hch : ∃ LV : Nat → List (List Int), ∀ t, t < j → Fr B 22 3 w (vs.getD t (.slice none 0 0)) (LV t) ∧ ok t (LV t) := by
    refine ⟨fun t => if ht : t < j then Classical.choose (h3 t ht) else [], fun t ht => ?_⟩
    simp only [ht, dif_pos]
    exact Classical.choose_spec (h3 t ht)
  obtain ⟨LV, hLV⟩ := hch
  obtain ⟨ao, cap, hx⟩ := owns_form h2
  refine ⟨LV, ⟨ao, cap, hx, fun X t hX ht => ?_⟩, fun t ht => (hLV t ht).2⟩
  obtain ⟨ao2, cap2, hx2, _, _, h5, _⟩ := Sl.own (B := 0) h2
  rw [hx] at hx2
  simp only [Value.slice.injEq] at hx2
  obtain ⟨rfl, _, rfl⟩ := hx2
  obtain ⟨b, o, hb, hc, _⟩ := h5 t (by omega)
  have hm : Mat 0 22 3 w (vs.getD t (.slice none 0 0)) (LV t) := by
    obtain ⟨us, u1, u2, u3⟩ := (hLV t ht).1
    exact ⟨us, u1, Sl.own u2, u3⟩
  obtain ⟨ro, rc, hv, _, _⟩ := mat_open hm
  refine ⟨b, o, ro, rc, hb, ?_, ?_⟩
  · rw [← hv]
    have e : vs[t]? = some (vs.getD t (.slice none 0 0)) := by simp [show t < vs.length by omega]
    rw [e] at hc
    have hbl := lt_of_cell hc
    exact (hX.cell hbl).trans hc
  · rw [← hv]
    exact (hm.below hX (Nat.le_refl _)).more (Nat.zero_le _)

theorem LvV.low {w w2 : World} {x : Value} {j : Nat} {LV : Nat → List (List Int)} (h : LvV w x j LV) (hb : Below w.heap.size w w2) : LvV w2 x j LV := by
  obtain ⟨ao, cap, hx, h1⟩ := h.rows
  exact ⟨ao, cap, hx, fun X t hX ht => h1 X t (hb.trans (hX.mono hb.size)) ht⟩

end Go.Proofs.YtopjjhejjjchpaaDoor

/- The levels of a polytope's faces: none is empty, and of two steps there are two ways (pure). -/
namespace Go.Proofs.YtopjjhejjjchpaaDoor
open Lin

theorem and_sub {x z : Nat} : x &&& z = x ↔ ∀ k, x.testBit k = true → z.testBit k = true := by
  constructor
  · intro e k hk
    rw [← e, Nat.testBit_and, Bool.and_eq_true] at hk
    exact hk.2
  · intro hs
    apply Nat.eq_of_testBit_eq
    intro k
    rw [Nat.testBit_and]
    cases hx : x.testBit k
    · rfl
    · rw [hs k hx]; rfl

theorem lvA_mem {d : Nat} {C : List (List Int)} {A : List Nat} {t a : Nat} : a ∈ lvA d C A t ↔ a ∈ A ∧ dimL d C a + 1 = (t : Int) := by
  unfold lvA
  rw [List.mem_filter, decide_eq_true_eq]

/-- A face of a level. -/
theorem Fnd.face {d : Nat} {P C s : List (List Int)} {A : List Nat} (h : Fnd d P C s A) {t a : Nat} : a ∈ lvA d C A t ↔ Itr C.length (s.map (sdN C)) a ∧ rkF d C a = t := by
  rw [lvA_mem, h.itr a]
  refine and_congr_right fun hi => ?_
  have := rkF_dim h.ok (itr_lt hi)
  omega

/-- No corner is met by all rows. -/
theorem itr_nil {d : Nat} {C s : List (List Int)} (h : FcC d C s) : Itr C.length (s.map (sdN C)) 0 := by
  have one : ∀ x : List Int, fv d (fun j => if j = d then 1 else 0) x = 1 := fun x => by
    show dot d (V x) (fun j => if j = d then 1 else 0) + (if d = d then 1 else 0) = 1
    rw [if_pos rfl, show dot d (V x) (fun j => if j = d then 1 else 0) = 0 from sumN_zero fun i hi => by dsimp only; rw [if_neg (by omega), Int.mul_zero]]
    rfl
  obtain ⟨a, ha, hb⟩ := fun_face h (c := fun j => if j = d then 1 else 0) fun x _ => by rw [one]; decide
  have e : a = 0 := by
    apply Nat.eq_of_testBit_eq
    intro k
    rw [hb k, Nat.zero_testBit, one]
    simp
  rwa [e] at ha

theorem rkF_nil (d : Nat) (C : List (List Int)) : rkF d C 0 = 0 := by
  have : memL 0 = [] := by
    unfold memL memTo
    simp
  unfold rkF
  rw [this]
  simp [rk, pickL, pks]

theorem rkF_top {d : Nat} {C s : List (List Int)} (h : FcC d C s) : rkF d C (2 ^ C.length - 1) = d + 1 := by
  have hl : 2 ^ C.length - 1 < 2 ^ C.length := by have : 0 < 2 ^ C.length := Nat.pow_pos (by decide); omega
  refine rk_full.2 fun v hv => ?_
  have hz := (homD_zero h hl).1 hv
  have hz' : ∀ x ∈ C, dot d (V x) v + v d = 0 := fun x hx => by
    obtain ⟨k, hk, rfl⟩ := List.mem_iff_getElem.1 hx
    have := hz k hk (by rw [Nat.testBit_two_pow_sub_one]; simp [hk])
    unfold fk fv at this
    have e : C.getD k [] = C[k] := by simp [hk]
    rwa [e] at this
  have h1 := good_span h.g v fun y hy z hz => by
    have a1 := hz' y hy
    have a2 := hz' z hz
    rw [dot_comm d v, dot_comm d v]
    omega
  intro i hi
  by_cases e : i < d
  · exact h1 i e
  · have e2 : i = d := by omega
    subst e2
    obtain ⟨x, hx⟩ := List.exists_mem_of_ne_nil C (fcc_ne h)
    have := hz' x hx
    rw [show dot i (V x) v = 0 from sumN_zero fun j hj => by rw [h1 j hj, Int.mul_zero]] at this
    omega

theorem itr_top (C s : List (List Int)) : Itr C.length (s.map (sdN C)) (2 ^ C.length - 1) := by
  obtain ⟨a, ha, hb⟩ := rows_itr (C := C) (s := s) [] (by simp)
  have e : a = 2 ^ C.length - 1 := by
    apply Nat.eq_of_testBit_eq
    intro k
    rw [hb k, Nat.testBit_two_pow_sub_one]
    simp
  rwa [e] at ha

/-- No level is empty. -/
theorem Fnd.some {d : Nat} {P C s : List (List Int)} {A : List Nat} (h : Fnd d P C s A) {t : Nat} (ht : t ≤ d + 1) : lvA d C A t ≠ [] := by
  obtain ⟨z, hz, hr⟩ := some_face h.ok (d + 1) 0 (2 ^ C.length - 1) (itr_nil h.ok) (itr_top C s) (fun k hk => by rw [Nat.zero_testBit] at hk; cases hk) (by rw [rkF_nil, rkF_top h.ok]; omega) t (by rw [rkF_nil]; omega) (by rw [rkF_top h.ok]; exact ht)
  intro e
  have := h.face.2 ⟨hz, hr⟩
  rw [e] at this
  simp at this

theorem itr_and {n : Nat} {S : List Nat} {a b : Nat} (ha : Itr n S a) (hb : Itr n S b) : Itr n S (a &&& b) := by
  induction hb with
  | full =>
    have : a &&& (2 ^ n - 1) = a := by
      rw [and_sub]
      intro k hk
      rw [Nat.testBit_two_pow_sub_one]
      simpa using bit_lt (itr_lt ha) hk
    rwa [this]
  | cut _ ht ih =>
    rw [← Nat.and_assoc]
    exact Itr.cut ih ht

theorem set_memD {a : Nat} (h : a < 1024) : setN (memL a) = a := by
  have e := setN_mem10 a h
  rwa [mem10_L h] at e

/-- Of two steps there are just two ways. -/
theorem Fnd.two {d : Nat} {P C s : List (List Int)} {A : List Nat} (h : Fnd d P C s A) {k x y : Nat} (hx : x ∈ lvA d C A k) (hy : y ∈ lvA d C A (k + 2)) (hs : x &&& y = x) {m : List (List Int)} (hm : Inor m ((lvA d C A (k + 1)).map memL)) :
    (m.filter fun r => decide (x &&& setN r = x) && decide (setN r &&& y = setN r)).length = 2 := by
  obtain ⟨hx1, hx2⟩ := h.face.1 hx
  obtain ⟨hy1, hy2⟩ := h.face.1 hy
  obtain ⟨z1, z2, i1, i2, hne, t1, t2, r1, r2, hu⟩ := diamond h.ok hx1 hy1 (and_sub.1 hs) (by omega)
  have f1 : z1 ∈ lvA d C A (k + 1) := h.face.2 ⟨i1, by omega⟩
  have f2 : z2 ∈ lvA d C A (k + 1) := h.face.2 ⟨i2, by omega⟩
  have l1 : z1 < 1024 := h.lt z1 (lvA_mem.1 f1).1
  have l2 : z2 < 1024 := h.lt z2 (lvA_mem.1 f2).1
  have hp := nodup_same (l := m.filter fun r => decide (x &&& setN r = x) && decide (setN r &&& y = setN r)) (m := [memL z1, memL z2]) ((sasc_nodup hm.asc).filter _) (by
    rw [List.nodup_cons]
    exact ⟨fun e => hne (memL_inj10 l1 l2 (List.mem_singleton.1 e)), List.nodup_cons.2 ⟨by simp, List.nodup_nil⟩⟩) (fun r => by
    rw [List.mem_filter, hm.mem r, List.mem_map]
    simp only [Bool.and_eq_true, decide_eq_true_eq, List.mem_cons, List.not_mem_nil, or_false]
    constructor
    · rintro ⟨⟨z, hz, rfl⟩, c1, c2⟩
      obtain ⟨iz, rz⟩ := h.face.1 hz
      rw [set_memD (h.lt z (lvA_mem.1 hz).1)] at c1 c2
      rcases hu z iz ⟨and_sub.1 c1, and_sub.1 c2⟩ (by omega) with rfl | rfl
      · exact .inl rfl
      · exact .inr rfl
    · rintro (rfl | rfl)
      · rw [set_memD l1]
        exact ⟨⟨z1, f1, rfl⟩, and_sub.2 t1.1, and_sub.2 t1.2⟩
      · rw [set_memD l2]
        exact ⟨⟨z2, f2, rfl⟩, and_sub.2 t2.1, and_sub.2 t2.2⟩)
  simpa using hp.length_eq

end Go.Proofs.YtopjjhejjjchpaaDoor

/- What TopDiamond reads of the levels (pure). -/
namespace Go.Proofs.YtopjjhejjjchpaaDoor
open Lin

/-- What the law counts. -/
def btD (x y : Nat) (r : List Int) : Bool := decide (x &&& setN r = x) && decide (setN r &&& y = setN r)

structure DiaL (d : Nat) (LV : Nat → List (List Int)) : Prop where
  pos : ∀ t, t < d + 2 → 0 < (LV t).length
  small : ∀ t, t < d + 2 → (LV t).length ≤ 1024
  ent : ∀ t, t < d + 2 → ∀ i, i < (LV t).length → ∀ x ∈ (LV t).getD i [], 0 ≤ x ∧ x < (10 : Int)
  two : ∀ k i0 i2, k < d → i0 < (LV k).length → i2 < (LV (k + 2)).length → setN ((LV k).getD i0 []) &&& setN ((LV (k + 2)).getD i2 []) = setN ((LV k).getD i0 []) → ((LV (k + 1)).filter (btD (setN ((LV k).getD i0 [])) (setN ((LV (k + 2)).getD i2 [])))).length = 2
  com : ∀ t1 t2 i1 i2, t1 < d + 2 → t2 < d + 2 → i1 < (LV t1).length → i2 < (LV t2).length → ∃ t, t < d + 2 ∧ memL (setN ((LV t1).getD i1 []) &&& setN ((LV t2).getD i2 [])) ∈ LV t

theorem Fnd.dia {d : Nat} {P C s : List (List Int)} {A : List Nat} (h : Fnd d P C s A) {LV : Nat → List (List Int)} (hL : ∀ t, t < d + 2 → Inor (LV t) ((lvA d C A t).map memL)) : DiaL d LV := by
  have ent : ∀ t, t < d + 2 → ∀ i, i < (LV t).length → ∃ a, a ∈ lvA d C A t ∧ a < 1024 ∧ (LV t).getD i [] = memL a ∧ setN ((LV t).getD i []) = a := by
    intro t ht i hi
    have hm : (LV t).getD i [] ∈ LV t := by simp [hi]
    obtain ⟨a, ha, he⟩ := List.mem_map.1 (((hL t ht).mem _).1 hm)
    have hl := h.lt a (lvA_mem.1 ha).1
    exact ⟨a, ha, hl, he.symm, by rw [← he, set_memD hl]⟩
  refine ⟨fun t ht => ?_, fun t ht => ?_, fun t ht i hi x hx => ?_, fun k i0 i2 hk h0 h2 hs => ?_, fun t1 t2 i1 i2 h1 h2 g1 g2 => ?_⟩
  · have hne := h.some (t := t) (by omega)
    obtain ⟨a, ha⟩ := List.exists_mem_of_ne_nil _ hne
    exact List.length_pos_of_mem (((hL t ht).mem _).2 (List.mem_map.2 ⟨a, ha, rfl⟩))
  · have h1 := (hL t ht).len
    rw [List.length_map] at h1
    have h2 := lvA_len d C A t
    have h3 := nodup_len A (List.range 1024) h.nd fun x hx => List.mem_range.2 (h.lt x hx)
    rw [List.length_range] at h3
    omega
  · obtain ⟨a, _, hl, he, _⟩ := ent t ht i hi
    rw [he] at hx
    obtain ⟨k, rfl, hb⟩ := (mem_memL (Nat.lt_of_lt_of_le hl (by decide))).1 hx
    have := bit_lt (n := 10) hl hb
    omega
  · obtain ⟨a, ha, hl, _, he⟩ := ent k (by omega) i0 h0
    obtain ⟨b, hb, hl2, _, he2⟩ := ent (k + 2) (by omega) i2 h2
    rw [he, he2] at hs ⊢
    exact h.two ha hb hs (hL (k + 1) (by omega))
  · obtain ⟨a, ha, hl, _, he⟩ := ent t1 h1 i1 g1
    obtain ⟨b, hb, hl2, _, he2⟩ := ent t2 h2 i2 g2
    rw [he, he2]
    have hi := itr_and (h.face.1 ha).1 (h.face.1 hb).1
    obtain ⟨t, ht, hd⟩ := dimL_bd d C (a &&& b)
    refine ⟨t, ht, ((hL t ht).mem _).2 (List.mem_map.2 ⟨a &&& b, ?_, rfl⟩)⟩
    exact lvA_mem.2 ⟨(h.itr _).2 hi, hd⟩

/-- How many of the first j are counted. -/
def ctD (m : List (List Int)) (x y j : Nat) : Nat := ((m.take j).filter (btD x y)).length

theorem ctD_le (m : List (List Int)) (x y j : Nat) : ctD m x y j ≤ m.length := by
  unfold ctD
  have h1 := List.length_filter_le (btD x y) (m.take j)
  rw [List.length_take] at h1
  omega

theorem ctD_succ {m : List (List Int)} {x y j : Nat} (hj : j < m.length) : ctD m x y (j + 1) = ctD m x y j + if btD x y (m.getD j []) then 1 else 0 := by
  unfold ctD
  rw [List.take_succ_eq_append_getElem hj, List.filter_append, List.length_append]
  congr 1
  have e : m.getD j [] = m[j] := by simp [hj]
  rw [e, List.filter_cons, List.filter_nil]
  split <;> rfl

theorem ctD_all {m : List (List Int)} {x y j : Nat} (hj : ¬ j < m.length) : ctD m x y j = (m.filter (btD x y)).length := by
  unfold ctD
  rw [List.take_of_length_le (by omega)]

end Go.Proofs.YtopjjhejjjchpaaDoor
