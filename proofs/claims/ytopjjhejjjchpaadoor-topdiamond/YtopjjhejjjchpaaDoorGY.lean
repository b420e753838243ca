import Derived.Test.YtopjjhejjjchpaaDoorGB
import Derived.Test.YtopjjhejjjchpaaDoorLtZ
import Derived.Test.YtopjjhejjjchpaaDoorFc7
/- The faces that the program finds are the document's (pure). -/
namespace Go.Proofs.YtopjjhejjjchpaaDoor
open Go.RowKit Lin

/-- The faces, as they are found. -/
structure Fnd (d : Nat) (P C s : List (List Int)) (A : List Nat) : Prop where
  ok : FcC d C s
  doc : ∀ s0 c, (∀ r, r ∈ s0 ↔ r ∈ rowsD P d) → SAsc c → (∀ y, y ∈ c ↔ y ∈ crn d s0 P) → C = c
  n10 : C.length ≤ 10
  nd : A.Nodup
  lt : ∀ a ∈ A, a < 1024
  itr : ∀ a, a ∈ A ↔ Itr C.length (s.map (sdN C)) a

/-- The document's faces. -/
structure DocF (d : Nat) (P C s : List (List Int)) (A : List Nat) : Prop where
  crn : SAsc C ∧ ∃ s0, (∀ r, r ∈ s0 ↔ r ∈ rowsD P d) ∧ ∀ y, y ∈ C ↔ y ∈ crn d s0 P
  rows : SAsc s ∧ ∀ r, r ∈ s ↔ r ∈ rowsD C d
  all : Clo C.length (s.map (sdN C)) A A.length

theorem memL_inj10 {a b : Nat} (ha : a < 1024) (hb : b < 1024) (h : memL a = memL b) : a = b := by
  have e1 := setN_mem10 a ha
  have e2 := setN_mem10 b hb
  rw [mem10_L ha] at e1
  rw [mem10_L hb] at e2
  rw [← e1, ← e2, h]

theorem DocF.mem {d : Nat} {P C s : List (List Int)} {A : List Nat} (h : DocF d P C s A) (a : Nat) : a ∈ A ↔ Itr C.length (s.map (sdN C)) a := clo_iff h.all

theorem DocF.lt10 {d : Nat} {P C s : List (List Int)} {A : List Nat} (h : DocF d P C s A) (hn : C.length ≤ 10) {a : Nat} (ha : a ∈ A) : a < 1024 :=
  Nat.lt_of_lt_of_le (h.all.lt a ha) (Nat.le_trans (Nat.pow_le_pow_right (by decide) hn) (by decide))

/-- Two lists without repetition that have the same are as long. -/
theorem nodup_same {l m : List (List Int)} (hl : l.Nodup) (hm : m.Nodup) (h : ∀ r, r ∈ l ↔ r ∈ m) : l.Perm m := by
  rw [List.perm_iff_count]
  intro a
  rw [hl.count, hm.count]
  by_cases e : a ∈ l
  · simp [e, (h a).1 e]
  · have e2 : ¬ a ∈ m := fun k => e ((h a).2 k)
    simp [e, e2]

theorem Fnd.levm {d : Nat} {P C s : List (List Int)} {A A' : List Nat} (h : Fnd d P C s A) (hD : DocF d P C s A') {t : Nat} {lev : List (List Int)} (hl : LevOk d C A' t lev) (r : List Int) : r ∈ lev ↔ r ∈ (lvA d C A t).map memL := by
  rw [hl.2 r, List.mem_map]
  unfold lvA
  constructor
  · rintro ⟨a, ha, h1, rfl⟩
    refine ⟨a, List.mem_filter.2 ⟨(h.itr a).2 ((hD.mem a).1 ha), ?_⟩, rfl⟩
    simp only [decide_eq_true_eq]
    omega
  · rintro ⟨a, ha, rfl⟩
    obtain ⟨h1, h2⟩ := List.mem_filter.1 ha
    simp only [decide_eq_true_eq] at h2
    exact ⟨a, (hD.mem a).2 ((h.itr a).1 h1), by omega, rfl⟩

theorem Fnd.lev {d : Nat} {P C s : List (List Int)} {A A' : List Nat} (h : Fnd d P C s A) (hD : DocF d P C s A') {t : Nat} {lev m : List (List Int)} (hl : LevOk d C A' t lev) (hm : Inor m ((lvA d C A t).map memL)) : m = lev := by
  refine sasc_ext m lev hm.asc hl.1 fun r => ?_
  rw [hm.mem r]
  exact (h.levm hD hl r).symm

end Go.Proofs.YtopjjhejjjchpaaDoor

/- face.Counts, face.Graph, face.Kind: by a body, its faces. -/
namespace Go.Proofs.YtopjjhejjjchpaaDoor
open Go.RowKit Lin
attribute [local go_sem ↓] Go.wp_at_zero Go.wp_at_succ

/-- What body.Of leaves, for any world behind. -/
structure BodW (w : World) (d : Nat) (P C s : List (List Int)) (S : List Nat) (co : Option Addr) (cc : Nat) (so : Option Addr) (sc : Nat) (w' : World) : Prop where
  cns : ∀ X, Below w'.heap.size w' X → Mat X.heap.size 22 3 X (.slice co C.length cc) C
  sds : ∀ X, Below w'.heap.size w' X → Sl X.heap.size 49 X (.slice so S.length sc) (u64s S)
  tab : ∀ X, Below w'.heap.size w' X → TabB X
  se : S = s.map (sdN C)
  n10 : C.length ≤ 10
  lt : ∀ t ∈ S, t < 2 ^ C.length
  lt10 : ∀ t ∈ S, t < 1024
  sl : S.length ≤ 5000
  ok : FcC d C s
  doc : ∀ s0 c, (∀ r, r ∈ s0 ↔ r ∈ rowsD P d) → SAsc c → (∀ y, y ∈ c ↔ y ∈ crn d s0 P) → C = c
  bel : Below w.heap.size w w'

theorem bodW_any (d : Nat) (P : List (List Int)) (v : Value) (w : World) (hv : Mat w.heap.size 22 3 w v P) (hg : Good d P) (hn : P.length ≤ 10) (hT : TabB w) :
    Calls Tryd.prog 10 #[.agg #[.int .i64 d, v]] w fun e w' => ∃ C s S co cc ro rl rc so sc, e = .returned (.tuple #[.agg #[.int .i64 d, .slice co C.length cc, .slice ro rl rc, .slice so S.length sc], .int .i64 0]) ∧ BodW w d P C s S co cc so sc w' := by
  refine (bodyOf_any d P v w hv hg (by omega)).mono ?_
  rintro e w' ⟨C, s, co, cc, ro, rc, so, sc, rfl, h⟩
  have hn10 : C.length ≤ 10 := Nat.le_trans h.len hn
  have hlt : ∀ t ∈ s.map (sdN C), t < 2 ^ C.length := fun t ht => by
    obtain ⟨r, _, rfl⟩ := List.mem_map.1 ht
    exact sdTo_lt C r C.length
  have hlt10 : ∀ t ∈ s.map (sdN C), t < 1024 := fun t ht => Nat.lt_of_lt_of_le (hlt t ht) (Nat.le_trans (Nat.pow_le_pow_right (by decide) hn10) (by decide))
  have hsl : (s.map (sdN C)).length ≤ 1024 := by
    have := nodup_len (s.map (sdN C)) (List.range 1024) h.ok.nod fun x hx => List.mem_range.2 (hlt10 x hx)
    simpa using this
  refine ⟨C, s, s.map (sdN C), co, cc, ro, s.length, rc, so, sc, by rw [List.length_map], fun X hX => (h.cns.below hX (Nat.le_refl _)).more (Nat.zero_le _), fun X hX => ?_, fun X hX => (hT.below h.bel).below hX, rfl, hn10, hlt, hlt10, by omega, h.ok, h.doc, h.bel⟩
  rw [List.length_map]
  have := Sl.own (B := 0) (owns_below h.sds hX (Nat.le_refl _))
  exact this.more (Nat.zero_le _)

/-- face.levels, behind body.Of. -/
theorem levW_any {w : World} {d : Nat} {P C s : List (List Int)} {S : List Nat} {co : Option Addr} {cc : Nat} {so : Option Addr} {sc : Nat} {w' : World} (h : BodW w d P C s S co cc so sc w') (rv : Value) (X : World) (hX : Below w'.heap.size w' X) :
    Calls Tryd.prog 11 #[.agg #[.int .i64 d, .slice co C.length cc, rv, .slice so S.length sc]] X fun e w2 => ∃ (A : List Nat) (g : Nat) (vs : List Value), e = .returned (.slice (some ⟨g, 0, none⟩) (d + 2) (d + 2)) ∧ Fnd d P C s A ∧ w2.heap[g]? = some (.cells vs.toArray 36 (0, 0)) ∧ vs.length = d + 2 ∧ (∀ t, t < d + 2 → ∃ ao cp, vs.getD t undef = .slice ao (lvA d C A t).length cp ∧ Sl 0 49 w2 (.slice ao (lvA d C A t).length cp) (u64s (lvA d C A t))) ∧ Below X.heap.size X w2 := by
  refine (levels_any d C co cc rv so sc S X (h.cns X hX) h.ok.g.box h.ok.g.d1 h.ok.g.d4 h.n10 (h.tab X hX) (h.sds X hX) h.lt10 h.sl).mono ?_
  rintro e w2 ⟨rfl, A, hW, hP⟩
  obtain ⟨vs, r1, r2, r3, _⟩ := hW.i.ro
  refine ⟨A, X.heap.size + 1, vs, rfl, ⟨h.ok, h.doc, h.n10, hW.nd, hW.lt, fun a => ?_⟩, r2, r1, fun t ht => ?_, hW.i.bel⟩
  · rw [← h.se]
    exact see_all hP
  · obtain ⟨ao, cp, e⟩ := owns_form (r3 t ht)
    refine ⟨ao, cp, e, ?_⟩
    rw [← e]
    exact Sl.own (r3 t ht)

end Go.Proofs.YtopjjhejjjchpaaDoor

/- face.Lattice. -/
namespace Go.Proofs.YtopjjhejjjchpaaDoor
open Go.RowKit Lin
attribute [local go_sem ↓] Go.wp_at_zero Go.wp_at_succ

set_option maxRecDepth 100000 in
set_option maxHeartbeats 1600000 in
theorem latticeP_any (d : Nat) (P : List (List Int)) (v : Value) (w : World) (hv : Mat w.heap.size 22 3 w v P) (hg : Good d P) (hn : P.length ≤ 10) (hT : TabB w) :
    Calls Tryd.prog 5 #[.agg #[.int .i64 d, v]] w fun e w' => ∃ u C s A, e = .returned (.tuple #[u, .int .i64 0]) ∧ Fnd d P C s A ∧ Lvs w.heap.size w' u (d + 2) (fun t m => Inor m ((lvA d C A t).map memL)) ∧ Below w.heap.size w w' := by
  obtain ⟨i2, hi2, hz20, hz21, hz22⟩ := info_parts Tryd.info28
  obtain ⟨po, pc, rfl, hlc, hcm⟩ := mat_open hv
  have h1 := hg.d1
  have h4 := hg.d4
  obtain ⟨W, hW⟩ : ∃ W, W = w.alloc (.cells #[.int .i64 d, .slice po P.length pc] 30) := ⟨_, rfl⟩
  have hbw : Below w.heap.size w W := by rw [hW]; exact alloc_keep _ _
  have HW : Hid (Below w.heap.size w W) := hbw
  have hsW : W.heap.size = w.heap.size + 1 := by rw [hW]; exact size_alloc _ _
  have c0 : W.cell? ⟨w.heap.size, 0, none⟩ = some (.int .i64 d) := by rw [hW]; simp
  have c1 : W.cell? ⟨w.heap.size, 1, none⟩ = some (.slice po P.length pc) := by rw [hW]; simp
  have HBO := bodW_any d P (.slice po P.length pc) W ((hv.below hbw (Nat.le_refl _)).any (Nat.le_refl _)) hg hn (hT.below hbw)
  have HTB : Hid (∀ X, Below w.heap.size w X → TabB X) := fun X hX => hT.below hX
  clear hv hg hT hbw
  go_enter Tryd.func5, Tryd.ntmps5
  go_wp2_with fail
  rw [← hW]
  clear hW
  refine HBO.mono ?_
  rintro e w2 ⟨C, s, S, co, cc, ro, rl, rc, so, sc, rfl, hB⟩
  have HB : Hid (BodW W d P C s S co cc so sc w2) := hB
  clear HBO hB c0 c1
  obtain ⟨W3, hW3⟩ : ∃ W3, W3 = w2.alloc (.cells #[.int .i64 d, .slice co C.length cc, .slice ro rl rc, .slice so S.length sc] 38) := ⟨_, rfl⟩
  have HB3 : Hid (Below w2.heap.size w2 W3) := by rw [hW3]; exact alloc_keep _ _
  have HLV := levW_any HB.out (.slice ro rl rc) W3 HB3.out
  rw [hW3] at HLV HB3
  go_wp2_with fail
  refine HLV.mono ?_
  rintro e w4 ⟨A, g, vs, rfl, hF, hg4, hvl, hvs, hb4⟩
  have HF : Hid (Fnd d P C s A) := hF
  have HB4 : Hid (Below w.heap.size w w4) := HW.out.trans ((HB.out.bel.trans ((HB3.out.trans (hb4.mono HB3.out.size)).mono HB.out.bel.size)).mono (by omega))
  have HFC : Hid (∀ X t, Below w4.heap.size w4 X → t < d + 2 → ∃ ao cp ll, X.cell? ⟨g, t, none⟩ = some (.slice ao ll cp) ∧ Calls Tryd.prog 12 #[.slice ao ll cp] X fun e w' => ∃ u m, e = .returned u ∧ Fr X.heap.size 22 3 w' u m ∧ Inor m ((lvA d C A t).map memL) ∧ Below X.heap.size X w') := fun X t hX ht => by
    obtain ⟨ao, cp, e2, hs2⟩ := hvs t ht
    refine ⟨ao, cp, (lvA d C A t).length, ?_, told_any 0 (lvA d C A t) (.slice ao (lvA d C A t).length cp) X (hs2.below hX (Nat.le_refl _)) (fun x hx => hF.lt x (List.mem_filter.1 hx).1) ?_ (HTB.out X (HB4.out.trans (hX.mono HB4.out.size)))⟩
    · rw [← e2]
      have h0 := (hX.block g (lt_of_block hg4)).trans hg4
      simp [World.cell?, h0, show t < vs.length by omega]
    · have h5 := lvA_len d C A t
      have h6 := nodup_len A (List.range 1024) hF.nd fun x hx => List.mem_range.2 (hF.lt x hx)
      rw [List.length_range] at h6
      omega
  clear HLV hF hg4 hvl hvs hb4 hW3 HB3 HTB
  go_wp2
  go_loopw [6, 8, 20] (fun x _ i wr => ∃ k : Nat, k ≤ d + 2 ∧ i = .int .i64 (k : Int) ∧ Lvs w4.heap.size wr x k (fun t m => Inor m ((lvA d C A t).map memL)) ∧ Below w4.heap.size w4 wr) (fun _ _ i _ => d + 2 - (intOf i).toNat)
  case atStart => exact ⟨0, Nat.zero_le _, rfl, Lvs.nil _ _ _, Below.refl _ _⟩
  case round =>
    obtain ⟨k, hk, rfl, hL, hb⟩ := hrel
    have HBR : Hid (Below w4.heap.size w4 wr) := hb
    obtain ⟨us, u1, u2, u3⟩ := hL.rows
    obtain ⟨xo, xc, hx⟩ := owns_form u2
    subst hx
    have HL : Hid (Lvs w4.heap.size wr (.slice xo k xc) k (fun t m => Inor m ((lvA d C A t).map memL))) := hL
    clear hb u1 u2 u3 hL
    by_cases hlt : k < d + 2
    · obtain ⟨ao, cp, ll, hc, hto⟩ := HFC.out wr k HBR.out hlt
      have hkI : (k : Int) < (d : Int) + 2 := by omega
      clear HFC
      go_wp2_with fail
      refine hto.mono ?_
      rintro e w5 ⟨u, m, rfl, hfr, hin, hb5⟩
      obtain ⟨uo, uc, hu, _, _⟩ := fr_open hfr
      subst hu
      obtain ⟨vs2, v1, v2, v3⟩ := (HL.out.below hb5 (Nat.le_refl _)).rows
      have HO : Hid (w5.ownsRow w4.heap.size 28 1 (.slice xo k xc) k vs2) := v2
      have HB5 : Hid (Below w4.heap.size w4 w5) := HBR.out.trans (hb5.mono HBR.out.size)
      have HPU : Hid (∀ v' w6, w6.ownsRow w4.heap.size 28 1 v' (k + 1) (vs2 ++ [.slice uo m.length uc]) → (w5.alloc (.cells #[.slice uo m.length uc] 28)).grownBy w6 (Value.slice xo k xc).ownBlock → Lvs w4.heap.size w6 v' (k + 1) (fun t m => Inor m ((lvA d C A t).map memL))) := fun v' w6 ho hg =>
        Lvs.push v1 (v2.alloc _) (fun t ht => by
          obtain ⟨lev, g1, g2⟩ := v3 t ht
          exact ⟨lev, g1.alloc _, g2⟩) ((hfr.mono HBR.out.size).alloc _) hin ho hg
      have hsz : w4.heap.size ≤ w5.heap.size := HB5.out.size
      clear v1 v2 v3 hfr hin hb5 hto hc HL
      generalize m.length = ml at *
      go_wp2_with (first | (at_builtin; refine wpList_append_own _ rfl _ _ 24 rfl w4.heap.size 28 i2 (.slice none 0 0) 1 24 Tryd.underlying24 hi2 hz20 hz21 hz22 rfl (by decide) _ _ _ rfl (HO.out.alloc _) ⟨w5.heap.size, 0, none⟩ 1 1 [.slice uo ml uc] rfl rfl (one_new _ _ _) (one_slice _ _ _) ?d3 ?d4 ?d5 ?_))
      case d3 => unfold maxLen; omega
      case d4 => omega
      case d5 => simp; omega
      intro v' w6 ho hg _
      have HNX : Hid (Lvs w4.heap.size w6 v' (k + 1) (fun t m => Inor m ((lvA d C A t).map memL))) := HPU.out v' w6 ho hg
      have HB6 : Hid (Below w4.heap.size w4 w6) := (HB5.out.alloc hsz _).grown hg (by simp; omega) (fun y hy => (HO.out.lt y hy).1)
      clear ho hg
      go_wp2
      go_roundw
      case rel => exact ⟨k + 1, by omega, by go_num, HNX.out, HB6.out⟩
      case measure => simp [intOf]; omega
    · have hke : k = d + 2 := by omega
      subst hke
      have HRR : Hid (Lvs w.heap.size wr (.slice xo (d + 2) xc) (d + 2) (fun t m => Inor m ((lvA d C A t).map memL)) ∧ Below w.heap.size w wr) := ⟨HL.out.mono HB4.out.size, HB4.out.trans (HBR.out.mono HB4.out.size)⟩
      clear HFC HL
      go_wp2
      go_ret2
      exact ⟨_, C, s, A, rfl, HF.out, HRR.out.1, HRR.out.2⟩

end Go.Proofs.YtopjjhejjjchpaaDoor
