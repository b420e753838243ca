/- lp.Shows, lp.Best, lp.Farkas. -/
import Derived.Test.YtdmkmljhljoojaaLp4
namespace Go.Proofs.Ytdmkmljhljoojaa
open Go.RowKit Lin
attribute [local go_sem ↓] Go.wp_at_zero Go.wp_at_succ

theorem LwV.move {d : Nat} {rows : List (List Int)} {g : List Int} {w w' : World} {tv : Value} (h : LwV d rows g w tv) (hk : ∀ {v : Value} {xs : List Value}, Sl 0 3 w v xs → Sl 0 3 w' v xs) : LwV d rows g w' tv := by
  rcases h with h | ⟨y, co, cc, po, pc, h1, h2, h3, h4, h5⟩
  · exact .inl h
  · exact .inr ⟨y, co, cc, po, pc, h1, h2, h3, hk h4, hk h5⟩

theorem LwV.form {d : Nat} {rows : List (List Int)} {g : List Int} {w : World} {tv : Value} (h : LwV d rows g w tv) : ∃ a b c a' b' c' u, tv = .agg #[.slice a b c, .slice a' b' c', .int .i64 u] := by
  rcases h with ⟨_, rfl⟩ | ⟨y, co, cc, po, pc, _, _, rfl, _, _⟩
  · exact ⟨_, _, _, _, _, _, _, rfl⟩
  · exact ⟨_, _, _, _, _, _, _, rfl⟩

set_option maxRecDepth 100000 in
set_option maxHeartbeats 1600000 in
theorem shows_any (d : Nat) (rows : List (List Int)) (g : List Int) (v gv : Value) (w : World) {B0 B1 : Nat} (hv : Mat B0 25 3 w v rows) (hg : Sl B1 3 w gv (ints g)) (hc : CutF d rows) (hgl : g.length = d) (hgb : ∀ z ∈ g, z.natAbs ≤ 20) :
    Calls Try.prog 8 #[.agg #[.int .i64 d, v], gv] w fun e w' => ∃ tv, e = .returned (.tuple #[tv, .int .i64 (gmE d rows g)]) ∧ LwV d rows g w' tv ∧ Below w.heap.size w w' := by
  obtain ⟨ro, rc, hvv, hlc, hcm⟩ := mat_open hv
  obtain ⟨go, gc, hgg, _, _⟩ := sl_open hg
  rw [hgl] at hgg
  subst hvv hgg
  obtain ⟨W, hW, hbW, hsW, hkC, hkR⟩ := cut_res w d (.slice ro rows.length rc)
  have HWW : Hid (W = (w.alloc (.cells #[.int .i64 d, .slice ro rows.length rc] 24)).alloc (.cells #[.slice none 0 0, .slice none 0 0, .int .i64 0] 34)) := hW
  have HBW : Hid (Below w.heap.size w W) := hbW
  have HSW : Hid (W.heap.size = w.heap.size + 2) := hsW
  have HKR : Hid (∀ X, Below W.heap.size W X → Wb (w.heap.size + 1) X) := fun X hX => ⟨_, _, _, (hX.block _ (by omega)).trans hkR⟩
  have HLW : Hid (Calls Try.prog 21 #[.agg #[.int .i64 d, .slice ro rows.length rc], .slice go d gc] W fun e w' => ∃ tv, e = .returned (.tuple #[tv, .int .i64 (gmE d rows g)]) ∧ LwV d rows g w' tv ∧ Below W.heap.size W w') :=
    leastWay_any d rows g _ _ W (hv.below hbW (Nat.le_refl _)) (hg.below hbW (Nat.le_refl _)) hc hgl hgb
  have c0 : W.cell? ⟨w.heap.size, 0, none⟩ = some (.int .i64 d) := by simp [World.cell?, hkC]
  have c1 : W.cell? ⟨w.heap.size, 1, none⟩ = some (.slice ro rows.length rc) := by simp [World.cell?, hkC]
  clear hv hg hc hgl hgb hW hbW hsW hkC hkR
  generalize hE : gmE d rows g = E at *
  clear hE
  go_enter Try.func8, Try.ntmps8
  go_upto_region 1 with fail
  rw [← HWW.out]
  go_wp2_with fail
  refine HLW.out.mono ?_
  rintro e w1 ⟨tv, rfl, hlv, hb1⟩
  obtain ⟨a, b, c, a', b', c', u, rfl⟩ := hlv.form
  have HLV : Hid (LwV d rows g w1 (.agg #[.slice a b c, .slice a' b' c', .int .i64 u])) := hlv
  have HB1 : Hid (Below W.heap.size W w1) := hb1
  have HR1 : Hid (Wb (w.heap.size + 1) w1) := HKR.out w1 hb1
  obtain ⟨f0, f1, f2⟩ := HR1.out.frozen
  obtain ⟨x0, x1, x2, r0, r1, r2⟩ := HR1.out.cells
  clear hlv hb1 HLW c0 c1
  go_wp2
  obtain ⟨Ws, hWs, g1, g2, g3, g4, g5, g6⟩ := three_sets (.slice a b c) (.slice a' b' c') (.int .i64 u) HR1.out
  rw [← hWs]
  have q0 : Ws.cell? ⟨w.heap.size + 1, 0, none⟩ = some (.slice a b c) := by simp [World.cell?, g1]
  have q1 : Ws.cell? ⟨w.heap.size + 1, 1, none⟩ = some (.slice a' b' c') := by simp [World.cell?, g1]
  have q2 : Ws.cell? ⟨w.heap.size + 1, 2, none⟩ = some (.int .i64 u) := by simp [World.cell?, g1]
  have hs1 := HSW.out
  have hs2 := HB1.out.size
  refine bodyPost_ret (v := .tuple #[.agg #[.slice a b c, .slice a' b' c', .int .i64 u], .int .i64 E]) (by simp [results, Try.results8, go_sem, q0, q1, q2]) rfl ⟨_, rfl, HLV.out.move (fun h => sl_keepL (.inr rfl) h HR1.out fun k hl hne => g2 k hne), g4.trans (HB1.out.os.trans HBW.out.os), g5.trans (HB1.out.tape.trans HBW.out.tape), g6.trans (HB1.out.output.trans HBW.out.output), by omega, fun k hk => ?_⟩
  exact (g2 k (by omega)).trans ((HB1.out.block k (by omega)).trans (HBW.out.block k hk))

/-- What Best gives. -/
def BestV (d : Nat) (rows : List (List Int)) (g : List Int) (a b : Int) : Prop :=
  (gmE d rows g ≠ 0 ∧ a = 0 ∧ b = 0) ∨ ∃ y, gmE d rows g = 0 ∧ lwO d rows g (waysL rows g) = some y ∧ low [sdL rows d y (mW rows g y), uW rows g y] = [a, b]

theorem low_two (x y : Int) : ∃ a b, low [x, y] = [a, b] := by
  have := low_len [x, y]
  match h : low [x, y] with
  | [a, b] => exact ⟨a, b, rfl⟩
  | [] => rw [h] at this; simp at this
  | [_] => rw [h] at this; simp at this
  | _ :: _ :: _ :: _ => rw [h] at this; simp at this

set_option maxRecDepth 100000 in
set_option maxHeartbeats 1600000 in
theorem best_any (d : Nat) (rows : List (List Int)) (g : List Int) (v gv : Value) (w : World) {B0 B1 : Nat} (hv : Mat B0 25 3 w v rows) (hg : Sl B1 3 w gv (ints g)) (hc : CutF d rows) (hgl : g.length = d) (hgb : ∀ z ∈ g, z.natAbs ≤ 20) :
    Calls Try.prog 7 #[.agg #[.int .i64 d, v], gv] w fun e w' => ∃ a b, e = .returned (.tuple #[.int .i64 a, .int .i64 b, .int .i64 (gmE d rows g)]) ∧ BestV d rows g a b ∧ Below w.heap.size w w' := by
  obtain ⟨ro, rc, hvv, hlc, hcm⟩ := mat_open hv
  obtain ⟨go, gc, hgg, _, _⟩ := sl_open hg
  rw [hgl] at hgg
  subst hvv hgg
  obtain ⟨W, hW, hbW, hsW, hcW⟩ := cut_box w d (.slice ro rows.length rc)
  have HWW : Hid (W = w.alloc (.cells #[.int .i64 d, .slice ro rows.length rc] 24)) := hW
  have HBW : Hid (∀ X, Below W.heap.size W X → Below w.heap.size w X) := fun X hX => hbW.trans (hX.mono hbW.size)
  have HCC : Hid (∀ X, Below W.heap.size W X → X.cell? ⟨w.heap.size, 0, none⟩ = some (.int .i64 d) ∧ X.cell? ⟨w.heap.size, 1, none⟩ = some (.slice ro rows.length rc)) := hcW
  have HVW : Hid (∀ X, Below W.heap.size W X → Mat B0 25 3 X (.slice ro rows.length rc) rows) := fun X hX => hv.below (HBW.out X hX) (Nat.le_refl _)
  have HLW : Hid (Calls Try.prog 21 #[.agg #[.int .i64 d, .slice ro rows.length rc], .slice go d gc] W fun e w' => ∃ tv, e = .returned (.tuple #[tv, .int .i64 (gmE d rows g)]) ∧ LwV d rows g w' tv ∧ Below W.heap.size W w') :=
    leastWay_any d rows g _ _ W (hv.below hbW (Nat.le_refl _)) (hg.below hbW (Nat.le_refl _)) hc hgl hgb
  have HOK : Hid (∀ y, y ∈ waysL rows g → WyOk rows y (mW rows g y) (uW rows g y)) := fun y hy => way_ok hc hgl hgb hy
  have HRW : Hid (RwE d rows) := hc.rw
  obtain ⟨c0, c1⟩ := hcW W (Below.refl _ _)
  clear hv hg hc hgl hgb hW hbW hsW hcW
  go_enter Try.func7, Try.ntmps7
  go_upto_region 1 with fail
  rw [← HWW.out]
  go_wp2_with fail
  refine HLW.out.mono ?_
  rintro e w1 ⟨tv, rfl, hlv, hb1⟩
  have HB1 : Hid (Below W.heap.size W w1) := hb1
  have hsz1 := hb1.size
  clear HLW c0 c1
  rcases hlv with ⟨hE, rfl⟩ | ⟨y, co, cc, po, pc, hE, hy, rfl, hys, hms⟩
  · have HE : Hid (gmE d rows g ≠ 0) := hE
    have hEb : (gmE d rows g != 0) = true := by simpa using hE
    clear hE hb1
    unfold nilW
    go_wp2
    refine bodyPost_ret (v := .tuple #[.int .i64 0, .int .i64 0, .int .i64 (gmE d rows g)]) (by simp [results, Try.results7, go_sem]) rfl ⟨0, 0, rfl, .inl ⟨HE.out, rfl, rfl⟩, ?_⟩
    exact HBW.out _ (HB1.out.alloc hsz1 _)
  · have HE : Hid (gmE d rows g = 0) := hE
    have hym := lwO_mem hy
    obtain ⟨W2, hW2⟩ : ∃ W2, W2 = w1.alloc (.cells #[.slice co y.length cc, .slice po y.length pc, .int .i64 (uW rows g y)] 34) := ⟨_, rfl⟩
    have hb12 : Below w1.heap.size w1 W2 := by rw [hW2]; exact alloc_keep _ _
    have hB2 : Below W.heap.size W W2 := hb1.trans (hb12.mono hb1.size)
    have hk2 : W2.heap[w1.heap.size]? = some (.cells #[.slice co y.length cc, .slice po y.length pc, .int .i64 (uW rows g y)] 34 (0, 0)) := by rw [hW2]; exact alloc_new _ _
    have HCE : Hid (∀ X, Below W2.heap.size W2 X → X.cell? ⟨w.heap.size, 0, none⟩ = some (.int .i64 d) ∧ X.cell? ⟨w.heap.size, 1, none⟩ = some (.slice ro rows.length rc) ∧ X.cell? ⟨w1.heap.size, 0, none⟩ = some (.slice co y.length cc) ∧ X.cell? ⟨w1.heap.size, 1, none⟩ = some (.slice po y.length pc) ∧ X.cell? ⟨w1.heap.size, 2, none⟩ = some (.int .i64 (uW rows g y))) := fun X hX => by
      have q1 := (hX.block _ (Array.getElem?_eq_some_iff.1 hk2).1).trans hk2
      obtain ⟨a1, a2⟩ := HCC.out X (hB2.trans (hX.mono hB2.size))
      exact ⟨a1, a2, by simp [World.cell?, q1], by simp [World.cell?, q1], by simp [World.cell?, q1]⟩
    have HSD : Hid (Calls Try.prog 23 #[.agg #[.int .i64 d, .slice ro rows.length rc], .agg #[.slice co y.length cc, .slice po y.length pc, .int .i64 (uW rows g y)]] W2.drew fun e w' => e = .returned (.int .i64 (sdL rows d y (mW rows g y))) ∧ Below W2.heap.size W2 w') := by
      have hd2 : Below W2.heap.size W2 W2.drew := (Below.refl _ _).drew
      refine (said_any d rows y (mW rows g y) (uW rows g y) _ co po cc pc y.length W2.drew ((HVW.out W2 hB2).below hd2 (Nat.le_refl _)) ((hys.below hb12 (Nat.le_refl _)).below hd2 (Nat.le_refl _)) ((hms.below hb12 (Nat.le_refl _)).below hd2 (Nat.le_refl _)) HRW.out (HOK.out y hym) rfl).mono ?_
      rintro e w' ⟨rfl, hb⟩
      exact ⟨rfl, hd2.trans hb⟩
    have hsb := sdL_bd (HOK.out y hym) HRW.out
    have hub := (HOK.out y hym).ub
    obtain ⟨ra, rb, hlow⟩ := low_two (sdL rows d y (mW rows g y)) (uW rows g y)
    have HBV : Hid (BestV d rows g ra rb) := .inr ⟨y, hE, hy, hlow⟩
    have HPR : Hid (∀ X, Below W2.heap.size W2 X → Calls Try.prog 22 #[.slice (some ⟨X.heap.size, 0, none⟩) 2 2] (X.alloc (.cells #[.int .i64 (sdL rows d y (mW rows g y)), .int .i64 (uW rows g y)] 3)) fun e w' => ∃ qb qc, e = .returned (.slice (some ⟨qb, 0, none⟩) 2 qc) ∧ w'.cell? ⟨qb, 0, none⟩ = some (.int .i64 ra) ∧ w'.cell? ⟨qb, 1, none⟩ = some (.int .i64 rb) ∧ Below W2.heap.size W2 w') := fun X hX => by
      refine (primitive_own 0 [sdL rows d y (mW rows g y), uW rows g y] _ _ (twoE (w := X)) (by simp) (fun z hz => ?_)).mono ?_
      · simp only [List.mem_cons, List.not_mem_nil, or_false] at hz
        rcases hz with rfl | rfl <;> omega
      · rintro e w' ⟨u, rfl, ho, hb⟩
        rw [hlow] at ho
        obtain ⟨qb, qc, rfl, _, q0, q1⟩ := two_cellsE ho
        exact ⟨qb, qc, rfl, q0, q1, hX.trans (((alloc_keep X _).trans (hb.mono (by rw [size_alloc]; omega))).mono hX.size)⟩
    have HB2 : Hid (∀ X, Below W2.heap.size W2 X → Below w.heap.size w X) := fun X hX => HBW.out X (hB2.trans (hX.mono hB2.size))
    have HW2 : Hid (W2 = w1.alloc (.cells #[.slice co y.length cc, .slice po y.length pc, .int .i64 (uW rows g y)] 34)) := hW2
    rw [hE]
    clear hE hy hys hms hym hb12 hB2 hk2 hlow hsb hub hW2 hb1 HOK
    generalize sdL rows d y (mW rows g y) = sy at *
    generalize uW rows g y = uy at *
    go_upto_region 4 with fail
    rw [← HW2.out]
    refine wp_region_held_drew (S := fun X => Below W2.heap.size W2 X ∧ X.cell? ⟨w.heap.size, 0, none⟩ = some (.int .i64 d) ∧ X.cell? ⟨w.heap.size, 1, none⟩ = some (.slice ro rows.length rc) ∧ X.cell? ⟨w1.heap.size, 0, none⟩ = some (.slice co y.length cc) ∧ X.cell? ⟨w1.heap.size, 1, none⟩ = some (.slice po y.length pc) ∧ X.cell? ⟨w1.heap.size, 2, none⟩ = some (.int .i64 uy)) (by kernel_rfl) ⟨(Below.refl _ _).drew, HCE.out _ (Below.refl _ _).drew⟩ (fun hHeld => ?_)
    refine wpAnyH_tk (i := 0) (d := 18) (v := (.agg #[.int .i64 d, .slice ro rows.length rc])) rfl rfl (by kernel_rfl) (by kernel_rfl) (by kernel_rfl) (fun _ _ _ h => h) (.inl ⟨by rfl, by (intro wq hSw; (try dsimp only at hSw); go_simp; (try (first | rfl | omega)))⟩) hHeld ?_
    simp only [Act.put, List.setIfInBounds_toArray, List.set_cons_zero, List.set_cons_succ]
    refine wpAnyH_tk (i := 1) (d := 19) (v := (.agg #[.slice co y.length cc, .slice po y.length pc, .int .i64 uy])) rfl rfl (by kernel_rfl) (by kernel_rfl) (by kernel_rfl) (fun _ _ _ h => h) (.inl ⟨by rfl, by (intro wq hSw; (try dsimp only at hSw); go_simp; (try (first | rfl | omega)))⟩) hHeld ?_
    simp only [Act.put, List.setIfInBounds_toArray, List.set_cons_zero, List.set_cons_succ]
    refine wpAnyH_tk (i := 3) (d := 21) (v := (.pointer (some ⟨w1.heap.size, 2, none⟩))) rfl rfl (by kernel_rfl) (by kernel_rfl) (by kernel_rfl) (fun _ _ _ h => h) (.inl ⟨by rfl, by (intro wq hSw; (try dsimp only at hSw); go_simp; (try (first | rfl | omega)))⟩) hHeld ?_
    simp only [Act.put, List.setIfInBounds_toArray, List.set_cons_zero, List.set_cons_succ]
    refine wpAnyH_tk (i := 4) (d := 22) (v := (.int .i64 uy)) rfl rfl (by kernel_rfl) (by kernel_rfl) (by kernel_rfl) (fun _ _ _ h => h) (.inl ⟨by rfl, by (intro wq hSw; (try dsimp only at hSw); go_simp; (try (first | rfl | omega)))⟩) hHeld ?_
    simp only [Act.put, List.setIfInBounds_toArray, List.set_cons_zero, List.set_cons_succ]
    refine wpAnyH_ready (rs := [2]) (by kernel_rfl) (by simp) ?_
    refine ready_tk (i := 2) rfl (by rfl) (fun K hK => ?_) AllReadyH.nil
    go_simp
    refine HSD.out.mono ?_
    rintro e w5 ⟨rfl, hb5⟩
    refine hK.out _ _ ⟨hb5, HCE.out w5 hb5⟩ (fun hHeld => ?_)
    clear hK K
    refine wpAnyH_ready (rs := [5]) (by kernel_rfl) (by simp) ?_
    refine ready_tk (i := 5) rfl (by rfl) (fun K hK => ?_) AllReadyH.nil
    go_simp
    have hb6 : Below W2.heap.size W2 (w5.alloc (.cells #[.int .i64 sy, .int .i64 uy] 3)) := hb5.alloc hb5.size _
    refine hK.out _ _ ⟨hb6, HCE.out _ hb6⟩ (fun hHeld => ?_)
    clear hK K
    refine wpAnyH_ready (rs := [6]) (by kernel_rfl) (by simp) ?_
    refine ready_tk (i := 6) rfl (by rfl) (fun K hK => ?_) AllReadyH.nil
    go_simp
    refine (HPR.out w5 hb5).mono ?_
    rintro e w7 ⟨qb, qc, rfl, q0, q1, hb7⟩
    refine hK.out _ _ ⟨hb7, HCE.out w7 hb7⟩ (fun hHeld => ?_)
    clear hK K
    refine wpAnyH_tk (i := 7) (d := 8) (v := (.slice (some ⟨qb, 0, none⟩) 2 qc)) rfl rfl (by kernel_rfl) (by kernel_rfl) (by kernel_rfl) (fun _ _ _ h => h) (.inl ⟨by rfl, by (intro wq hSw; (try dsimp only at hSw); go_simp; (try (first | rfl | omega)))⟩) hHeld ?_
    simp only [Act.put, List.setIfInBounds_toArray, List.set_cons_zero, List.set_cons_succ]
    refine wpAnyH_done (by kernel_rfl) ?_ _
    have HB7 : Hid (Below w.heap.size w w7) := HB2.out w7 hb7
    clear hHeld hb5 hb6 hb7
    go_wp2
    go_region
    go_wp2
    refine bodyPost_ret (v := .tuple #[.int .i64 ra, .int .i64 rb, .int .i64 0]) (by simp [results, Try.results7, go_sem]) rfl ⟨ra, rb, by rw [HE.out], HBV.out, HB7.out.drew⟩

/-- What Farkas gives. -/
def FkV (d : Nat) (rows : List (List Int)) (w : World) (tv : Value) (e : Int) : Prop :=
  (waysL rows (refG d) = [] ∧ tv = nilW ∧ e = 3) ∨
  ∃ c l co cc po pc, waysL rows (refG d) = c :: l ∧ tv = .agg #[.slice co c.length cc, .slice po c.length pc, .int .i64 1] ∧ e = 0 ∧ Sl 0 3 w (.slice co c.length cc) (ints c) ∧ Sl 0 3 w (.slice po c.length pc) (ints (low ((wayN (refG d) (pks rows [] c)).take c.length)))

theorem FkV.move {d : Nat} {rows : List (List Int)} {w w' : World} {tv : Value} {e : Int} (h : FkV d rows w tv e) (hk : ∀ {v : Value} {xs : List Value}, Sl 0 3 w v xs → Sl 0 3 w' v xs) : FkV d rows w' tv e := by
  rcases h with h | ⟨c, l, co, cc, po, pc, h1, h2, h3, h4, h5⟩
  · exact .inl h
  · exact .inr ⟨c, l, co, cc, po, pc, h1, h2, h3, hk h4, hk h5⟩

set_option maxRecDepth 100000 in
set_option maxHeartbeats 1600000 in
theorem farkasL_any (d : Nat) (rows : List (List Int)) (v : Value) (w : World) {B0 : Nat} (hv : Mat B0 25 3 w v rows) (hc : CutF d rows) :
    Calls Try.prog 12 #[.agg #[.int .i64 d, v]] w fun e w' => ∃ tv E, e = .returned (.tuple #[tv, .int .i64 E]) ∧ FkV d rows w' tv E ∧ Below w.heap.size w w' := by
  obtain ⟨ro, rc, hvv, hlc, hcm⟩ := mat_open hv
  subst hvv
  obtain ⟨W, hW, hbW, hsW, hkC, hkR⟩ := cut_res w d (.slice ro rows.length rc)
  have HWW : Hid (W = (w.alloc (.cells #[.int .i64 d, .slice ro rows.length rc] 24)).alloc (.cells #[.slice none 0 0, .slice none 0 0, .int .i64 0] 34)) := hW
  have HBW : Hid (∀ X, Below W.heap.size W X → Below w.heap.size w X) := fun X hX => hbW.trans (hX.mono hbW.size)
  have HSW : Hid (W.heap.size = w.heap.size + 2) := hsW
  have HKR : Hid (∀ X, Below W.heap.size W X → Wb (w.heap.size + 1) X) := fun X hX => ⟨_, _, _, (hX.block _ (by omega)).trans hkR⟩
  have HCC : Hid (∀ X, Below W.heap.size W X → X.cell? ⟨w.heap.size, 0, none⟩ = some (.int .i64 d) ∧ X.cell? ⟨w.heap.size, 1, none⟩ = some (.slice ro rows.length rc)) := fun X hX => by
    have q := (hX.block w.heap.size (by omega)).trans hkC
    exact ⟨by simp [World.cell?, q], by simp [World.cell?, q]⟩
  have H1 : Hid (Calls Try.prog 25 #[.agg #[.int .i64 d, .slice ro rows.length rc]] W fun e w' => e = .returned (.int .i64 0) ∧ Below W.heap.size W w') := halfCheckF_ok d rows _ W ((hv.below hbW (Nat.le_refl _)).any (Nat.le_refl _)) hc
  have HR : Hid (∀ X, Below W.heap.size W X → Calls Try.prog 26 #[.slice ro rows.length rc, .int .i64 d] X fun e w' => ∃ tv, e = .returned (.tuple #[tv, .bool (!(waysL rows (refG d)).isEmpty)]) ∧ RefV rows d w' tv ∧ Below X.heap.size X w') := fun X hX =>
    refuted5_any rows d _ X ((hv.below (HBW.out X hX) (Nat.le_refl _)).any (Nat.le_refl _)) (fun r hr => ⟨hc.len r hr, fun z hz => by have := hc.bd r hr z hz; omega⟩) (.inr ⟨hc.d4, hc.bd⟩) (by have := hc.n12; omega)
  obtain ⟨c0, c1⟩ := HCC.out W (Below.refl _ _)
  clear hv hc hW hbW hsW hkC hkR
  go_enter Try.func12, Try.ntmps12
  go_upto_region 1 with fail
  rw [← HWW.out]
  go_wp2_with fail
  refine H1.out.mono ?_
  rintro e w1 ⟨rfl, hb1⟩
  have HB1 : Hid (Below W.heap.size W w1) := hb1
  clear hb1 c0 c1
  obtain ⟨c0, c1⟩ := HCC.out w1 HB1.out
  go_wp2_with fail
  refine (HR.out w1 HB1.out).mono ?_
  rintro e w2 ⟨tv, rfl, hrv, hb2⟩
  have HB2 : Hid (Below W.heap.size W w2) := HB1.out.trans (hb2.mono HB1.out.size)
  have hsz2 := HB2.out.size
  clear c0 c1 hb2
  rcases hrv with ⟨hn, rfl⟩ | ⟨c, l, co, cc, po, pc, hw, rfl, hcs, hps⟩
  · rw [show (!(waysL rows (refG d)).isEmpty) = false by rw [hn]; rfl]
    have HN : Hid (waysL rows (refG d) = []) := hn
    obtain ⟨W3, hW3⟩ : ∃ W3, W3 = w2.alloc (.cells #[.slice none 0 0, .slice none 0 0, .int .i64 0] 34) := ⟨_, rfl⟩
    have hb3 : Below W.heap.size W W3 := by rw [hW3]; exact HB2.out.alloc hsz2 _
    have HB3 : Hid (Below W.heap.size W W3) := hb3
    have HW3 : Hid (W3 = w2.alloc (.cells #[.slice none 0 0, .slice none 0 0, .int .i64 0] 34)) := hW3
    have HR3 : Hid (Wb (w.heap.size + 1) W3) := HKR.out W3 hb3
    obtain ⟨f0, f1, f2⟩ := HR3.out.frozen
    obtain ⟨x0, x1, x2, r0, r1, r2⟩ := HR3.out.cells
    clear hn hW3 hb3
    go_upto_region 5 with fail
    rw [← HW3.out]
    go_wp2
    obtain ⟨Ws, hWs, g1, g2, g3, g4, g5, g6⟩ := three_sets (.slice none 0 0) (.slice none 0 0) (.int .i64 0) HR3.out
    rw [← hWs]
    have q0 : Ws.cell? ⟨w.heap.size + 1, 0, none⟩ = some (.slice none 0 0) := by simp [World.cell?, g1]
    have q1 : Ws.cell? ⟨w.heap.size + 1, 1, none⟩ = some (.slice none 0 0) := by simp [World.cell?, g1]
    have q2 : Ws.cell? ⟨w.heap.size + 1, 2, none⟩ = some (.int .i64 0) := by simp [World.cell?, g1]
    have hs1 := HSW.out
    have hbw := HBW.out _ HB3.out
    have hs2 := hbw.size
    refine bodyPost_ret (v := .tuple #[nilW, .int .i64 3]) (by simp [results, Try.results12, go_sem, q0, q1, q2, nilW]) rfl ⟨_, 3, rfl, .inl ⟨HN.out, rfl, rfl⟩, g4.trans hbw.os, g5.trans hbw.tape, g6.trans hbw.output, by omega, fun k hk => ?_⟩
    exact (g2 k (by omega)).trans (hbw.block k hk)
  · rw [show (!(waysL rows (refG d)).isEmpty) = true by rw [hw]; rfl]
    obtain ⟨W3, hW3⟩ : ∃ W3, W3 = w2.alloc (.cells #[.slice co c.length cc, .slice po c.length pc, .int .i64 1] 34) := ⟨_, rfl⟩
    have hb23 : Below w2.heap.size w2 W3 := by rw [hW3]; exact alloc_keep _ _
    have hb3 : Below W.heap.size W W3 := HB2.out.trans (hb23.mono HB2.out.size)
    have hk3 : W3.heap[w2.heap.size]? = some (.cells #[.slice co c.length cc, .slice po c.length pc, .int .i64 1] 34 (0, 0)) := by rw [hW3]; exact alloc_new _ _
    have HFV : Hid (FkV d rows W3 (.agg #[.slice co c.length cc, .slice po c.length pc, .int .i64 1]) 0) := .inr ⟨c, l, co, cc, po, pc, hw, rfl, rfl, hcs.below hb23 (Nat.le_refl _), hps.below hb23 (Nat.le_refl _)⟩
    have HB3 : Hid (Below W.heap.size W W3) := hb3
    have HW3 : Hid (W3 = w2.alloc (.cells #[.slice co c.length cc, .slice po c.length pc, .int .i64 1] 34)) := hW3
    have HR3 : Hid (Wb (w.heap.size + 1) W3) := HKR.out W3 hb3
    obtain ⟨f0, f1, f2⟩ := HR3.out.frozen
    obtain ⟨x0, x1, x2, r0, r1, r2⟩ := HR3.out.cells
    have t0 : W3.cell? ⟨w2.heap.size, 0, none⟩ = some (.slice co c.length cc) := by simp [World.cell?, hk3]
    have t1 : W3.cell? ⟨w2.heap.size, 1, none⟩ = some (.slice po c.length pc) := by simp [World.cell?, hk3]
    have t2 : W3.cell? ⟨w2.heap.size, 2, none⟩ = some (.int .i64 1) := by simp [World.cell?, hk3]
    clear hW3 hb3 hb23 hk3 hw hcs hps
    go_upto_region 5 with fail
    rw [← HW3.out]
    go_wp2
    obtain ⟨Ws, hWs, g1, g2, g3, g4, g5, g6⟩ := three_sets (.slice co c.length cc) (.slice po c.length pc) (.int .i64 1) HR3.out
    rw [← hWs]
    have q0 : Ws.cell? ⟨w.heap.size + 1, 0, none⟩ = some (.slice co c.length cc) := by simp [World.cell?, g1]
    have q1 : Ws.cell? ⟨w.heap.size + 1, 1, none⟩ = some (.slice po c.length pc) := by simp [World.cell?, g1]
    have q2 : Ws.cell? ⟨w.heap.size + 1, 2, none⟩ = some (.int .i64 1) := by simp [World.cell?, g1]
    have hs1 := HSW.out
    have hbw := HBW.out _ HB3.out
    have hs2 := hbw.size
    refine bodyPost_ret (v := .tuple #[.agg #[.slice co c.length cc, .slice po c.length pc, .int .i64 1], .int .i64 0]) (by simp [results, Try.results12, go_sem, q0, q1, q2]) rfl ⟨_, 0, rfl, HFV.out.move (fun h => sl_keepL (.inr rfl) h HR3.out fun k hl hne => g2 k hne), g4.trans hbw.os, g5.trans hbw.tape, g6.trans hbw.output, by omega, fun k hk => ?_⟩
    exact (g2 k (by omega)).trans (hbw.block k hk)

end Go.Proofs.Ytdmkmljhljoojaa
