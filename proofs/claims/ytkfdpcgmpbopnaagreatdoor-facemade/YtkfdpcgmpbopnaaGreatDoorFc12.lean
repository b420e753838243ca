/- face.Counts, face.Graph, face.Kind: by a body, its faces. -/
import Derived.Test.YtkfdpcgmpbopnaaGreatDoorFc11
import Derived.Test.YtkfdpcgmpbopnaaGreatDoorFq0
namespace Go.Proofs.YtkfdpcgmpbopnaaGreatDoor
open Go.RowKit Lin
attribute [local go_sem ↓] Go.wp_at_zero Go.wp_at_succ

/-- What body.Of leaves, for any world behind. -/
structure BodW (w : World) (d : Nat) (P C s : List (List Int)) (S : List Nat) (co : Option Addr) (cc : Nat) (so : Option Addr) (sc : Nat) (w' : World) : Prop where
  cns : ∀ X, Below w'.heap.size w' X → Mat X.heap.size 22 3 X (.slice co C.length cc) C
  sds : ∀ X, Below w'.heap.size w' X → Sl X.heap.size 74 X (.slice so S.length sc) (u64s S)
  tab : ∀ X, Below w'.heap.size w' X → TabB X
  se : S = s.map (sdN C)
  n10 : C.length ≤ 10
  lt : ∀ t ∈ S, t < 2 ^ C.length
  lt10 : ∀ t ∈ S, t < 1024
  sl : S.length ≤ 5000
  ok : FcC d C s
  doc : ∀ s0 c, (∀ r, r ∈ s0 ↔ r ∈ rowsD P d) → SAsc c → (∀ y, y ∈ c ↔ y ∈ crn d s0 P) → C = c
  bel : Below w.heap.size w w'

theorem bodW_any (d : Nat) (P : List (List Int)) (v : Value) (w : World) (hv : Mat w.heap.size 22 3 w v P) (hg : Good d P) (hn : P.length ≤ 10) (hT : TabB w) :
    Calls Tryz.prog 31 #[.agg #[.int .i64 d, v]] w fun e w' => ∃ C s S co cc ro rl rc so sc, e = .returned (.tuple #[.agg #[.int .i64 d, .slice co C.length cc, .slice ro rl rc, .slice so S.length sc], .int .i64 0]) ∧ BodW w d P C s S co cc so sc w' := by
  refine (bodyOf_any d P v w hv hg (by omega)).mono ?_
  rintro e w' ⟨C, s, co, cc, ro, rc, so, sc, rfl, h⟩
  have hn10 : C.length ≤ 10 := Nat.le_trans h.len hn
  have hlt : ∀ t ∈ s.map (sdN C), t < 2 ^ C.length := fun t ht => by
    obtain ⟨r, _, rfl⟩ := List.mem_map.1 ht
    exact sdTo_lt C r C.length
  have hlt10 : ∀ t ∈ s.map (sdN C), t < 1024 := fun t ht => Nat.lt_of_lt_of_le (hlt t ht) (Nat.le_trans (Nat.pow_le_pow_right (by decide) hn10) (by decide))
  have hsl : (s.map (sdN C)).length ≤ 1024 := by
    have := nodup_len (s.map (sdN C)) (List.range 1024) h.ok.nod fun x hx => List.mem_range.2 (hlt10 x hx)
    simpa using this
  refine ⟨C, s, s.map (sdN C), co, cc, ro, s.length, rc, so, sc, by rw [List.length_map], fun X hX => (h.cns.below hX (Nat.le_refl _)).more (Nat.zero_le _), fun X hX => ?_, fun X hX => (hT.below h.bel).below hX, rfl, hn10, hlt, hlt10, by omega, h.ok, h.doc, h.bel⟩
  rw [List.length_map]
  have := Sl.own (B := 0) (owns_below h.sds hX (Nat.le_refl _))
  exact this.more (Nat.zero_le _)

/-- face.levels, behind body.Of. -/
theorem levW_any {w : World} {d : Nat} {P C s : List (List Int)} {S : List Nat} {co : Option Addr} {cc : Nat} {so : Option Addr} {sc : Nat} {w' : World} (h : BodW w d P C s S co cc so sc w') (rv : Value) (X : World) (hX : Below w'.heap.size w' X) :
    Calls Tryz.prog 32 #[.agg #[.int .i64 d, .slice co C.length cc, rv, .slice so S.length sc]] X fun e w2 => ∃ (A : List Nat) (g : Nat) (vs : List Value), e = .returned (.slice (some ⟨g, 0, none⟩) (d + 2) (d + 2)) ∧ Fnd d P C s A ∧ w2.heap[g]? = some (.cells vs.toArray 58 (0, 0)) ∧ vs.length = d + 2 ∧ (∀ t, t < d + 2 → ∃ ao cp, vs.getD t undef = .slice ao (lvA d C A t).length cp ∧ Sl 0 74 w2 (.slice ao (lvA d C A t).length cp) (u64s (lvA d C A t))) ∧ Below X.heap.size X w2 := by
  refine (levels_any d C co cc rv so sc S X (h.cns X hX) h.ok.g.box h.ok.g.d1 h.ok.g.d4 h.n10 (h.tab X hX) (h.sds X hX) h.lt10 h.sl).mono ?_
  rintro e w2 ⟨rfl, A, hW, hP⟩
  obtain ⟨vs, r1, r2, r3, _⟩ := hW.i.ro
  refine ⟨A, X.heap.size + 1, vs, rfl, ⟨h.ok, h.doc, h.n10, hW.nd, hW.lt, fun a => ?_⟩, r2, r1, fun t ht => ?_, hW.i.bel⟩
  · rw [← h.se]
    exact see_all hP
  · obtain ⟨ao, cp, e⟩ := owns_form (r3 t ht)
    refine ⟨ao, cp, e, ?_⟩
    rw [← e]
    exact Sl.own (r3 t ht)

set_option maxRecDepth 100000 in
set_option maxHeartbeats 1600000 in
theorem countsP_any (d : Nat) (P : List (List Int)) (v : Value) (w : World) (hv : Mat w.heap.size 22 3 w v P) (hg : Good d P) (hn : P.length ≤ 10) (hT : TabB w) :
    Calls Tryz.prog 14 #[.agg #[.int .i64 d, v]] w fun e w' => ∃ u C s A, e = .returned (.tuple #[u, .int .i64 0]) ∧ Fnd d P C s A ∧ w'.ownsRow w.heap.size 3 1 u (d + 2) (ints (cnF (fun t => (lvA d C A t).length) (d + 2))) ∧ Below w.heap.size w w' := by
  obtain ⟨po, pc, rfl, hlc, hcm⟩ := mat_open hv
  have h4 := hg.d4
  obtain ⟨W, hW⟩ : ∃ W, W = w.alloc (.cells #[.int .i64 d, .slice po P.length pc] 27) := ⟨_, rfl⟩
  have hbw : Below w.heap.size w W := by rw [hW]; exact alloc_keep _ _
  have HW : Hid (Below w.heap.size w W) := hbw
  have hsW : W.heap.size = w.heap.size + 1 := by rw [hW]; exact size_alloc _ _
  have c0 : W.cell? ⟨w.heap.size, 0, none⟩ = some (.int .i64 d) := by rw [hW]; simp
  have c1 : W.cell? ⟨w.heap.size, 1, none⟩ = some (.slice po P.length pc) := by rw [hW]; simp
  have HBO := bodW_any d P (.slice po P.length pc) W ((hv.below hbw (Nat.le_refl _)).any (Nat.le_refl _)) hg hn (hT.below hbw)
  clear hv hg hT hbw
  go_enter Tryz.func14, Tryz.ntmps14
  go_wp2_with fail
  rw [← hW]
  clear hW
  refine HBO.mono ?_
  rintro e w2 ⟨C, s, S, co, cc, ro, rl, rc, so, sc, rfl, hB⟩
  have HB : Hid (BodW W d P C s S co cc so sc w2) := hB
  clear HBO hB c0 c1
  obtain ⟨W3, hW3⟩ : ∃ W3, W3 = w2.alloc (.cells #[.int .i64 d, .slice co C.length cc, .slice ro rl rc, .slice so S.length sc] 60) := ⟨_, rfl⟩
  have HB3 : Hid (Below w2.heap.size w2 W3) := by rw [hW3]; exact alloc_keep _ _
  have HLV := levW_any HB.out (.slice ro rl rc) W3 HB3.out
  rw [hW3] at HLV HB3
  go_wp2_with fail
  refine HLV.mono ?_
  rintro e w4 ⟨A, g, vs, rfl, hF, hg4, hvl, hvs, hb4⟩
  have HF : Hid (Fnd d P C s A) := hF
  have HB4 : Hid (Below w.heap.size w w4) := HW.out.trans ((HB.out.bel.trans ((HB3.out.trans (hb4.mono HB3.out.size)).mono HB.out.bel.size)).mono (by omega))
  have HCO : Hid (Calls Tryz.prog 34 #[.slice (some ⟨g, 0, none⟩) (d + 2) (d + 2)] w4 fun e w' => ∃ u, e = .returned u ∧ w'.ownsRow w4.heap.size 3 1 u (d + 2) (ints (cnF (fun t => (lvA d C A t).length) (d + 2))) ∧ Below w4.heap.size w4 w') :=
    countsF_any g (d + 2) (d + 2) vs (fun t => (lvA d C A t).length) w4 hg4 (by omega) (by omega) fun t ht => by
      obtain ⟨ao, cp, e, _⟩ := hvs t ht
      exact ⟨ao, cp, e⟩
  clear HLV hF hg4 hvl hvs hb4 hW3 HB3
  go_wp2_with fail
  refine HCO.out.mono ?_
  rintro e w5 ⟨u, rfl, ho, hb5⟩
  obtain ⟨uo, uc, hu⟩ := owns_form ho
  subst hu
  have HO : Hid (w5.ownsRow w4.heap.size 3 1 (.slice uo (d + 2) uc) (d + 2) (ints (cnF (fun t => (lvA d C A t).length) (d + 2)))) := ho
  have HB5 : Hid (Below w.heap.size w w5) := HB4.out.trans (hb5.mono HB4.out.size)
  clear ho hb5 HCO
  go_wp2
  go_ret2
  exact ⟨_, C, s, A, rfl, HF.out, HO.out.mono HB4.out.size, HB5.out⟩

set_option maxRecDepth 100000 in
set_option maxHeartbeats 1600000 in
theorem graphP_any (d : Nat) (P : List (List Int)) (v : Value) (w : World) (hv : Mat w.heap.size 22 3 w v P) (hg : Good d P) (hn : P.length ≤ 10) (hT : TabB w) :
    Calls Tryz.prog 16 #[.agg #[.int .i64 d, v]] w fun e w' => ∃ u C s A m, e = .returned (.tuple #[u, .int .i64 0]) ∧ Fnd d P C s A ∧ Fr w.heap.size 22 3 w' u m ∧ Inor m ((lvA d C A 2).map memL) ∧ Below w.heap.size w w' := by
  obtain ⟨po, pc, rfl, hlc, hcm⟩ := mat_open hv
  have h1 := hg.d1
  have h4 := hg.d4
  obtain ⟨W, hW⟩ : ∃ W, W = w.alloc (.cells #[.int .i64 d, .slice po P.length pc] 27) := ⟨_, rfl⟩
  have hbw : Below w.heap.size w W := by rw [hW]; exact alloc_keep _ _
  have HW : Hid (Below w.heap.size w W) := hbw
  have hsW : W.heap.size = w.heap.size + 1 := by rw [hW]; exact size_alloc _ _
  have c0 : W.cell? ⟨w.heap.size, 0, none⟩ = some (.int .i64 d) := by rw [hW]; simp
  have c1 : W.cell? ⟨w.heap.size, 1, none⟩ = some (.slice po P.length pc) := by rw [hW]; simp
  have HBO := bodW_any d P (.slice po P.length pc) W ((hv.below hbw (Nat.le_refl _)).any (Nat.le_refl _)) hg hn (hT.below hbw)
  have HTB : Hid (∀ X, Below w.heap.size w X → TabB X) := fun X hX => hT.below hX
  clear hv hg hT hbw
  go_enter Tryz.func16, Tryz.ntmps16
  go_wp2_with fail
  rw [← hW]
  clear hW
  refine HBO.mono ?_
  rintro e w2 ⟨C, s, S, co, cc, ro, rl, rc, so, sc, rfl, hB⟩
  have HB : Hid (BodW W d P C s S co cc so sc w2) := hB
  clear HBO hB c0 c1
  obtain ⟨W3, hW3⟩ : ∃ W3, W3 = w2.alloc (.cells #[.int .i64 d, .slice co C.length cc, .slice ro rl rc, .slice so S.length sc] 60) := ⟨_, rfl⟩
  have HB3 : Hid (Below w2.heap.size w2 W3) := by rw [hW3]; exact alloc_keep _ _
  have HLV := levW_any HB.out (.slice ro rl rc) W3 HB3.out
  rw [hW3] at HLV HB3
  go_wp2_with fail
  refine HLV.mono ?_
  rintro e w4 ⟨A, g, vs, rfl, hF, hg4, hvl, hvs, hb4⟩
  have HF : Hid (Fnd d P C s A) := hF
  have HB4 : Hid (Below w.heap.size w w4) := HW.out.trans ((HB.out.bel.trans ((HB3.out.trans (hb4.mono HB3.out.size)).mono HB.out.bel.size)).mono (by omega))
  obtain ⟨ao, cp, e2, hs2⟩ := hvs 2 (by omega)
  have hc2 : w4.cell? ⟨g, 2, none⟩ = some (.slice ao (lvA d C A 2).length cp) := by
    rw [← e2]
    simp [World.cell?, hg4, show 2 < vs.length by omega]
  have HTO := told_any 0 (lvA d C A 2) (.slice ao (lvA d C A 2).length cp) w4 hs2 (fun x hx => hF.lt x (List.mem_filter.1 hx).1) (by
    have h5 := lvA_len d C A 2
    have h6 := nodup_len A (List.range 1024) hF.nd fun x hx => List.mem_range.2 (hF.lt x hx)
    rw [List.length_range] at h6
    omega) (HTB.out w4 HB4.out)
  have hd2 : (2 : Int) < (d : Int) + 2 := by omega
  clear HLV hF hg4 hvl hvs hb4 hW3 HB3 e2 hs2
  obtain ⟨L, hL⟩ : ∃ L, L = lvA d C A 2 := ⟨_, rfl⟩
  rw [← hL] at HTO hc2
  have HLE : Hid (L = lvA d C A 2) := hL
  clear hL
  go_wp2_with fail
  refine HTO.mono ?_
  rintro e w5 ⟨u, m, rfl, ho, hin, hb5⟩
  obtain ⟨uo, uc, hu, _, _⟩ := fr_open ho
  subst hu
  have HO : Hid (Fr w4.heap.size 22 3 w5 (.slice uo m.length uc) m ∧ Inor m (L.map memL)) := ⟨ho, hin⟩
  have HB5 : Hid (Below w.heap.size w w5) := HB4.out.trans (hb5.mono HB4.out.size)
  clear ho hb5 HTO hc2 hin
  go_wp2
  go_ret2
  exact ⟨_, C, s, A, m, rfl, HF.out, HO.out.1.mono HB4.out.size, by rw [← HLE.out]; exact HO.out.2, HB5.out⟩

end Go.Proofs.YtkfdpcgmpbopnaaGreatDoor
