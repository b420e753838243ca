/- The faces that the program finds are the document's (pure). -/
import Derived.Test.YtkfdpcgmpbopnaaGreatDoorFc4
import Derived.Test.YtkfdpcgmpbopnaaGreatDoorLt6
namespace Go.Proofs.YtkfdpcgmpbopnaaGreatDoor
open Go.RowKit Lin

/-- The faces, as they are found. -/
structure Fnd (d : Nat) (P C s : List (List Int)) (A : List Nat) : Prop where
  ok : FcC d C s
  doc : ∀ s0 c, (∀ r, r ∈ s0 ↔ r ∈ rowsD P d) → SAsc c → (∀ y, y ∈ c ↔ y ∈ crn d s0 P) → C = c
  n10 : C.length ≤ 10
  nd : A.Nodup
  lt : ∀ a ∈ A, a < 1024
  itr : ∀ a, a ∈ A ↔ Itr C.length (s.map (sdN C)) a

/-- Sides and corners, as they are found. -/
structure FndS (d : Nat) (P C s : List (List Int)) : Prop where
  ok : FcC d C s
  doc : ∀ s0 c, (∀ r, r ∈ s0 ↔ r ∈ rowsD P d) → SAsc c → (∀ y, y ∈ c ↔ y ∈ crn d s0 P) → C = c
  n10 : C.length ≤ 10

/-- The document's faces. -/
structure DocF (d : Nat) (P C s : List (List Int)) (A : List Nat) : Prop where
  crn : SAsc C ∧ ∃ s0, (∀ r, r ∈ s0 ↔ r ∈ rowsD P d) ∧ ∀ y, y ∈ C ↔ y ∈ crn d s0 P
  rows : SAsc s ∧ ∀ r, r ∈ s ↔ r ∈ rowsD C d
  all : Clo C.length (s.map (sdN C)) A A.length

theorem Lat.docF {B d : Nat} {P : List (List Int)} {w : World} {x : Value} {C s : List (List Int)} {A : List Nat} (h : Lat B d P w x C s A) : DocF d P C s A := ⟨h.crn, h.rows, h.all⟩

theorem memL_inj10 {a b : Nat} (ha : a < 1024) (hb : b < 1024) (h : memL a = memL b) : a = b := by
  have e1 := setN_mem10 a ha
  have e2 := setN_mem10 b hb
  rw [mem10_L ha] at e1
  rw [mem10_L hb] at e2
  rw [← e1, ← e2, h]

theorem FndS.same {d : Nat} {P C s C' s' : List (List Int)} {A' : List Nat} (h : FndS d P C s) (hD : DocF d P C' s' A') : C' = C ∧ s' = s := by
  obtain ⟨h1, s0, h2, h3⟩ := hD.crn
  have hC := h.doc s0 C' h2 h1 h3
  subst hC
  refine ⟨rfl, sasc_ext s' s hD.rows.1 h.ok.srt fun r => ?_⟩
  rw [hD.rows.2 r, mem_rowsD, h.ok.rows r]

theorem Fnd.toS {d : Nat} {P C s : List (List Int)} {A : List Nat} (h : Fnd d P C s A) : FndS d P C s := ⟨h.ok, h.doc, h.n10⟩

theorem DocF.mem {d : Nat} {P C s : List (List Int)} {A : List Nat} (h : DocF d P C s A) (a : Nat) : a ∈ A ↔ Itr C.length (s.map (sdN C)) a := clo_iff h.all

theorem DocF.lt10 {d : Nat} {P C s : List (List Int)} {A : List Nat} (h : DocF d P C s A) (hn : C.length ≤ 10) {a : Nat} (ha : a ∈ A) : a < 1024 :=
  Nat.lt_of_lt_of_le (h.all.lt a ha) (Nat.le_trans (Nat.pow_le_pow_right (by decide) hn) (by decide))

/-- Two lists without repetition that have the same are as long. -/
theorem nodup_same {l m : List (List Int)} (hl : l.Nodup) (hm : m.Nodup) (h : ∀ r, r ∈ l ↔ r ∈ m) : l.Perm m := by
  rw [List.perm_iff_count]
  intro a
  rw [hl.count, hm.count]
  by_cases e : a ∈ l
  · simp [e, (h a).1 e]
  · have e2 : ¬ a ∈ m := fun k => e ((h a).2 k)
    simp [e, e2]

theorem Fnd.levm {d : Nat} {P C s : List (List Int)} {A A' : List Nat} (h : Fnd d P C s A) (hD : DocF d P C s A') {t : Nat} {lev : List (List Int)} (hl : LevOk d C A' t lev) (r : List Int) : r ∈ lev ↔ r ∈ (lvA d C A t).map memL := by
  rw [hl.2 r, List.mem_map]
  unfold lvA
  constructor
  · rintro ⟨a, ha, h1, rfl⟩
    refine ⟨a, List.mem_filter.2 ⟨(h.itr a).2 ((hD.mem a).1 ha), ?_⟩, rfl⟩
    simp only [decide_eq_true_eq]
    omega
  · rintro ⟨a, ha, rfl⟩
    obtain ⟨h1, h2⟩ := List.mem_filter.1 ha
    simp only [decide_eq_true_eq] at h2
    exact ⟨a, (hD.mem a).2 ((h.itr a).1 h1), by omega, rfl⟩

theorem Fnd.lev {d : Nat} {P C s : List (List Int)} {A A' : List Nat} (h : Fnd d P C s A) (hD : DocF d P C s A') {t : Nat} {lev m : List (List Int)} (hl : LevOk d C A' t lev) (hm : Inor m ((lvA d C A t).map memL)) : m = lev := by
  refine sasc_ext m lev hm.asc hl.1 fun r => ?_
  rw [hm.mem r]
  exact (h.levm hD hl r).symm

theorem Fnd.lvn {d : Nat} {P C s : List (List Int)} {A : List Nat} (h : Fnd d P C s A) (t : Nat) : ((lvA d C A t).map memL).Nodup := by
  have h1 : (lvA d C A t).Nodup := List.Nodup.sublist List.filter_sublist h.nd
  rw [List.nodup_iff_pairwise_ne, List.pairwise_map]
  exact (List.Pairwise.and_mem.1 (List.nodup_iff_pairwise_ne.1 h1)).imp fun {a b} ⟨ha, hb, hne⟩ e => hne (memL_inj10 (h.lt a (List.mem_filter.1 ha).1) (h.lt b (List.mem_filter.1 hb).1) e)

theorem Fnd.levn {d : Nat} {P C s : List (List Int)} {A A' : List Nat} (h : Fnd d P C s A) (hD : DocF d P C s A') {t : Nat} {lev : List (List Int)} (hl : LevOk d C A' t lev) : lev.length = (lvA d C A t).length := by
  have := (nodup_same (sasc_nodup hl.1) (h.lvn t) (h.levm hD hl)).length_eq
  rw [List.length_map] at this
  exact this

/-- The document's sides. -/
theorem doc_sides {d : Nat} {P C s : List (List Int)} {A' : List Nat} (h : FndS d P C s) (hD : DocF d P C s A') {lev : List (List Int)} (hl : LevOk d C A' d lev) : lev.Perm ((s.map (sdN C)).map memL) := by
  have hlt : ∀ r, sdN C r < 1024 := fun r => Nat.lt_of_lt_of_le (sdTo_lt C r C.length) (Nat.le_trans (Nat.pow_le_pow_right (by decide) h.n10) (by decide))
  have hnd : ((s.map (sdN C)).map memL).Nodup := by
    rw [List.map_map, List.nodup_iff_pairwise_ne, List.pairwise_map]
    exact (List.Pairwise.and_mem.1 (List.nodup_iff_pairwise_ne.1 (sasc_nodup h.ok.srt))).imp fun {a b} ⟨ha, hb, hne⟩ e => hne (side_inj h.ok ha hb (memL_inj10 (hlt a) (hlt b) e))
  refine nodup_same (sasc_nodup hl.1) hnd fun r => ?_
  rw [hl.2 r]
  simp only [List.mem_map]
  constructor
  · rintro ⟨a, ha, h1, rfl⟩
    obtain ⟨q, hq, rfl⟩ := face_side h.ok ((hD.mem a).1 ha) h1
    exact ⟨_, ⟨q, hq, rfl⟩, rfl⟩
  · rintro ⟨_, ⟨q, hq, rfl⟩, rfl⟩
    obtain ⟨h1, h2⟩ := side_dim h.ok hq
    exact ⟨_, (hD.mem _).2 h1, h2, rfl⟩

/-- The document's corners, as faces. -/
theorem doc_verts {d : Nat} {P C s : List (List Int)} {A' : List Nat} (h : FndS d P C s) (hD : DocF d P C s A') {lev : List (List Int)} (hl : LevOk d C A' 1 lev) : lev.length = C.length := by
  have hn := h.n10
  have hnd : ((List.range C.length).map fun k : Nat => [(k : Int)]).Nodup := by
    rw [List.nodup_iff_pairwise_ne, List.pairwise_map]
    exact (List.nodup_iff_pairwise_ne.1 List.nodup_range).imp fun {a b} hne e => hne (by simp only [List.cons.injEq, and_true] at e; omega)
  have := (nodup_same (sasc_nodup hl.1) hnd fun r => by
    rw [hl.2 r]
    simp only [List.mem_map, List.mem_range]
    constructor
    · rintro ⟨a, ha, h1, rfl⟩
      obtain ⟨k, hk, rfl⟩ := vert_of h.ok (hD.all.lt a ha) (by omega)
      exact ⟨k, hk, (memL_one (by omega)).symm⟩
    · rintro ⟨k, hk, rfl⟩
      exact ⟨2 ^ k, (hD.mem _).2 (vert_itr h.ok hk), by rw [vert_dim (by omega)]; rfl, (memL_one (by omega)).symm⟩).length_eq
  simpa using this

end Go.Proofs.YtkfdpcgmpbopnaaGreatDoor
