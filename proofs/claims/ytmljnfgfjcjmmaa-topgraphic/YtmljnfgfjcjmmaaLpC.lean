import Derived.Test.YtmljnfgfjcjmmaaLpB
/- lp.Shows, lp.Best, lp.Farkas. -/
namespace Go.Proofs.Ytmljnfgfjcjmmaa
open Go.RowKit Lin
attribute [local go_sem ↓] Go.wp_at_zero Go.wp_at_succ

theorem LwV.move {d : Nat} {rows : List (List Int)} {g : List Int} {w w' : World} {tv : Value} (h : LwV d rows g w tv) (hk : ∀ {v : Value} {xs : List Value}, Sl 0 3 w v xs → Sl 0 3 w' v xs) : LwV d rows g w' tv := by
  rcases h with h | ⟨y, co, cc, po, pc, h1, h2, h3, h4, h5⟩
  · exact .inl h
  · exact .inr ⟨y, co, cc, po, pc, h1, h2, h3, hk h4, hk h5⟩

/-- What Best gives. -/
def BestV (d : Nat) (rows : List (List Int)) (g : List Int) (a b : Int) : Prop :=
  (gmE d rows g ≠ 0 ∧ a = 0 ∧ b = 0) ∨ ∃ y, gmE d rows g = 0 ∧ lwO d rows g (waysL rows g) = some y ∧ low [sdL rows d y (mW rows g y), uW rows g y] = [a, b]

theorem low_two (x y : Int) : ∃ a b, low [x, y] = [a, b] := by
  have := low_len [x, y]
  match h : low [x, y] with
  | [a, b] => exact ⟨a, b, rfl⟩
  | [] => rw [h] at this; simp at this
  | [_] => rw [h] at this; simp at this
  | _ :: _ :: _ :: _ => rw [h] at this; simp at this

set_option maxRecDepth 100000 in
set_option maxHeartbeats 1600000 in
theorem best_any (d : Nat) (rows : List (List Int)) (g : List Int) (v gv : Value) (w : World) (hv : Mat 0 22 3 w v rows) (hg : Sl 0 3 w gv (ints g)) (hc : CutOk d rows) (hgl : g.length = d) (hgb : ∀ z ∈ g, z.natAbs ≤ 20) :
    Calls Try.prog 66 #[.agg #[.int .i64 d, v], gv] w fun e w' => ∃ a b, e = .returned (.tuple #[.int .i64 a, .int .i64 b, .int .i64 (gmE d rows g)]) ∧ BestV d rows g a b ∧ Below w.heap.size w w' := by
  obtain ⟨ro, rc, hvv, hlc, hcm⟩ := mat_open hv
  obtain ⟨go, gc, hgg, _, _⟩ := sl_open hg
  rw [hgl] at hgg
  subst hvv hgg
  obtain ⟨W, hW, hbW, hsW, hcW⟩ := cut_box w d (.slice ro rows.length rc)
  have HWW : Hid (W = w.alloc (.cells #[.int .i64 d, .slice ro rows.length rc] 69)) := hW
  have HBW : Hid (∀ X, Below W.heap.size W X → Below w.heap.size w X) := fun X hX => hbW.trans (hX.mono hbW.size)
  have HCC : Hid (∀ X, Below W.heap.size W X → X.cell? ⟨w.heap.size, 0, none⟩ = some (.int .i64 d) ∧ X.cell? ⟨w.heap.size, 1, none⟩ = some (.slice ro rows.length rc)) := hcW
  have HVW : Hid (∀ X, Below W.heap.size W X → Mat 0 22 3 X (.slice ro rows.length rc) rows) := fun X hX => hv.below (HBW.out X hX) (Nat.le_refl _)
  have HLW : Hid (Calls Try.prog 78 #[.agg #[.int .i64 d, .slice ro rows.length rc], .slice go d gc] W fun e w' => ∃ tv, e = .returned (.tuple #[tv, .int .i64 (gmE d rows g)]) ∧ LwV d rows g w' tv ∧ Below W.heap.size W w') :=
    leastWay_any d rows g _ _ W (hv.below hbW (Nat.le_refl _)) (hg.below hbW (Nat.le_refl _)) hc hgl hgb
  have HOK : Hid (∀ y, y ∈ waysL rows g → WyOk rows y (mW rows g y) (uW rows g y)) := fun y hy => way_ok hc hgl hgb hy
  have HRW : Hid (RwE d rows) := hc.rw
  obtain ⟨c0, c1⟩ := hcW W (Below.refl _ _)
  clear hv hg hc hgl hgb hW hbW hsW hcW
  go_enter Try.func66, Try.ntmps66
  go_upto_region 1 with fail
  rw [← HWW.out]
  go_wp2_with fail
  refine HLW.out.mono ?_
  rintro e w1 ⟨tv, rfl, hlv, hb1⟩
  have HB1 : Hid (Below W.heap.size W w1) := hb1
  have hsz1 := hb1.size
  clear HLW c0 c1
  rcases hlv with ⟨hE, rfl⟩ | ⟨y, co, cc, po, pc, hE, hy, rfl, hys, hms⟩
  · have HE : Hid (gmE d rows g ≠ 0) := hE
    have hEb : (gmE d rows g != 0) = true := by simpa using hE
    clear hE hb1
    unfold nilW
    go_wp2
    refine bodyPost_ret (v := .tuple #[.int .i64 0, .int .i64 0, .int .i64 (gmE d rows g)]) (by simp [results, Try.results66, go_sem]) rfl ⟨0, 0, rfl, .inl ⟨HE.out, rfl, rfl⟩, ?_⟩
    exact HBW.out _ (HB1.out.alloc hsz1 _)
  · have HE : Hid (gmE d rows g = 0) := hE
    have hym := lwO_mem hy
    obtain ⟨W2, hW2⟩ : ∃ W2, W2 = w1.alloc (.cells #[.slice co y.length cc, .slice po y.length pc, .int .i64 (uW rows g y)] 117) := ⟨_, rfl⟩
    have hb12 : Below w1.heap.size w1 W2 := by rw [hW2]; exact alloc_keep _ _
    have hB2 : Below W.heap.size W W2 := hb1.trans (hb12.mono hb1.size)
    have hk2 : W2.heap[w1.heap.size]? = some (.cells #[.slice co y.length cc, .slice po y.length pc, .int .i64 (uW rows g y)] 117 (0, 0)) := by rw [hW2]; exact alloc_new _ _
    have HCE : Hid (∀ X, Below W2.heap.size W2 X → X.cell? ⟨w.heap.size, 0, none⟩ = some (.int .i64 d) ∧ X.cell? ⟨w.heap.size, 1, none⟩ = some (.slice ro rows.length rc) ∧ X.cell? ⟨w1.heap.size, 0, none⟩ = some (.slice co y.length cc) ∧ X.cell? ⟨w1.heap.size, 1, none⟩ = some (.slice po y.length pc) ∧ X.cell? ⟨w1.heap.size, 2, none⟩ = some (.int .i64 (uW rows g y))) := fun X hX => by
      have q1 := (hX.block _ (Array.getElem?_eq_some_iff.1 hk2).1).trans hk2
      obtain ⟨a1, a2⟩ := HCC.out X (hB2.trans (hX.mono hB2.size))
      exact ⟨a1, a2, by simp [World.cell?, q1], by simp [World.cell?, q1], by simp [World.cell?, q1]⟩
    have HSD : Hid (Calls Try.prog 80 #[.agg #[.int .i64 d, .slice ro rows.length rc], .agg #[.slice co y.length cc, .slice po y.length pc, .int .i64 (uW rows g y)]] W2.drew fun e w' => e = .returned (.int .i64 (sdL rows d y (mW rows g y))) ∧ Below W2.heap.size W2 w') := by
      have hd2 : Below W2.heap.size W2 W2.drew := (Below.refl _ _).drew
      refine (said_any d rows y (mW rows g y) (uW rows g y) _ co po cc pc y.length W2.drew ((HVW.out W2 hB2).below hd2 (Nat.le_refl _)) ((hys.below hb12 (Nat.le_refl _)).below hd2 (Nat.le_refl _)) ((hms.below hb12 (Nat.le_refl _)).below hd2 (Nat.le_refl _)) HRW.out (HOK.out y hym) rfl).mono ?_
      rintro e w' ⟨rfl, hb⟩
      exact ⟨rfl, hd2.trans hb⟩
    have hsb := sdL_bd (HOK.out y hym) HRW.out
    have hub := (HOK.out y hym).ub
    obtain ⟨ra, rb, hlow⟩ := low_two (sdL rows d y (mW rows g y)) (uW rows g y)
    have HBV : Hid (BestV d rows g ra rb) := .inr ⟨y, hE, hy, hlow⟩
    have HPR : Hid (∀ X, Below W2.heap.size W2 X → Calls Try.prog 79 #[.slice (some ⟨X.heap.size, 0, none⟩) 2 2] (X.alloc (.cells #[.int .i64 (sdL rows d y (mW rows g y)), .int .i64 (uW rows g y)] 3)) fun e w' => ∃ qb qc, e = .returned (.slice (some ⟨qb, 0, none⟩) 2 qc) ∧ w'.cell? ⟨qb, 0, none⟩ = some (.int .i64 ra) ∧ w'.cell? ⟨qb, 1, none⟩ = some (.int .i64 rb) ∧ Below W2.heap.size W2 w') := fun X hX => by
      refine (primitive_own 0 [sdL rows d y (mW rows g y), uW rows g y] _ _ (twoE (w := X)) (by simp) (fun z hz => ?_)).mono ?_
      · simp only [List.mem_cons, List.not_mem_nil, or_false] at hz
        rcases hz with rfl | rfl <;> omega
      · rintro e w' ⟨u, rfl, ho, hb⟩
        rw [hlow] at ho
        obtain ⟨qb, qc, rfl, _, q0, q1⟩ := two_cellsE ho
        exact ⟨qb, qc, rfl, q0, q1, hX.trans (((alloc_keep X _).trans (hb.mono (by rw [size_alloc]; omega))).mono hX.size)⟩
    have HB2 : Hid (∀ X, Below W2.heap.size W2 X → Below w.heap.size w X) := fun X hX => HBW.out X (hB2.trans (hX.mono hB2.size))
    have HW2 : Hid (W2 = w1.alloc (.cells #[.slice co y.length cc, .slice po y.length pc, .int .i64 (uW rows g y)] 117)) := hW2
    rw [hE]
    clear hE hy hys hms hym hb12 hB2 hk2 hlow hsb hub hW2 hb1 HOK
    generalize sdL rows d y (mW rows g y) = sy at *
    generalize uW rows g y = uy at *
    go_upto_region 4 with fail
    rw [← HW2.out]
    refine wp_region_held_drew (S := fun X => Below W2.heap.size W2 X ∧ X.cell? ⟨w.heap.size, 0, none⟩ = some (.int .i64 d) ∧ X.cell? ⟨w.heap.size, 1, none⟩ = some (.slice ro rows.length rc) ∧ X.cell? ⟨w1.heap.size, 0, none⟩ = some (.slice co y.length cc) ∧ X.cell? ⟨w1.heap.size, 1, none⟩ = some (.slice po y.length pc) ∧ X.cell? ⟨w1.heap.size, 2, none⟩ = some (.int .i64 uy)) (by kernel_rfl) ⟨(Below.refl _ _).drew, HCE.out _ (Below.refl _ _).drew⟩ (fun hHeld => ?_)
    refine wpAnyH_tk (i := 0) (d := 18) (v := (.agg #[.int .i64 d, .slice ro rows.length rc])) rfl rfl (by kernel_rfl) (by kernel_rfl) (by kernel_rfl) (fun _ _ _ h => h) (.inl ⟨by rfl, by (intro wq hSw; (try dsimp only at hSw); go_simp; (try (first | rfl | omega)))⟩) hHeld ?_
    simp only [Act.put, List.setIfInBounds_toArray, List.set_cons_zero, List.set_cons_succ]
    refine wpAnyH_tk (i := 1) (d := 19) (v := (.agg #[.slice co y.length cc, .slice po y.length pc, .int .i64 uy])) rfl rfl (by kernel_rfl) (by kernel_rfl) (by kernel_rfl) (fun _ _ _ h => h) (.inl ⟨by rfl, by (intro wq hSw; (try dsimp only at hSw); go_simp; (try (first | rfl | omega)))⟩) hHeld ?_
    simp only [Act.put, List.setIfInBounds_toArray, List.set_cons_zero, List.set_cons_succ]
    refine wpAnyH_tk (i := 3) (d := 21) (v := (.pointer (some ⟨w1.heap.size, 2, none⟩))) rfl rfl (by kernel_rfl) (by kernel_rfl) (by kernel_rfl) (fun _ _ _ h => h) (.inl ⟨by rfl, by (intro wq hSw; (try dsimp only at hSw); go_simp; (try (first | rfl | omega)))⟩) hHeld ?_
    simp only [Act.put, List.setIfInBounds_toArray, List.set_cons_zero, List.set_cons_succ]
    refine wpAnyH_tk (i := 4) (d := 22) (v := (.int .i64 uy)) rfl rfl (by kernel_rfl) (by kernel_rfl) (by kernel_rfl) (fun _ _ _ h => h) (.inl ⟨by rfl, by (intro wq hSw; (try dsimp only at hSw); go_simp; (try (first | rfl | omega)))⟩) hHeld ?_
    simp only [Act.put, List.setIfInBounds_toArray, List.set_cons_zero, List.set_cons_succ]
    refine wpAnyH_ready (rs := [2]) (by kernel_rfl) (by simp) ?_
    refine ready_tk (i := 2) rfl (by rfl) (fun K hK => ?_) AllReadyH.nil
    go_simp
    refine HSD.out.mono ?_
    rintro e w5 ⟨rfl, hb5⟩
    refine hK.out _ _ ⟨hb5, HCE.out w5 hb5⟩ (fun hHeld => ?_)
    clear hK K
    refine wpAnyH_ready (rs := [5]) (by kernel_rfl) (by simp) ?_
    refine ready_tk (i := 5) rfl (by rfl) (fun K hK => ?_) AllReadyH.nil
    go_simp
    have hb6 : Below W2.heap.size W2 (w5.alloc (.cells #[.int .i64 sy, .int .i64 uy] 3)) := hb5.alloc hb5.size _
    refine hK.out _ _ ⟨hb6, HCE.out _ hb6⟩ (fun hHeld => ?_)
    clear hK K
    refine wpAnyH_ready (rs := [6]) (by kernel_rfl) (by simp) ?_
    refine ready_tk (i := 6) rfl (by rfl) (fun K hK => ?_) AllReadyH.nil
    go_simp
    refine (HPR.out w5 hb5).mono ?_
    rintro e w7 ⟨qb, qc, rfl, q0, q1, hb7⟩
    refine hK.out _ _ ⟨hb7, HCE.out w7 hb7⟩ (fun hHeld => ?_)
    clear hK K
    refine wpAnyH_tk (i := 7) (d := 8) (v := (.slice (some ⟨qb, 0, none⟩) 2 qc)) rfl rfl (by kernel_rfl) (by kernel_rfl) (by kernel_rfl) (fun _ _ _ h => h) (.inl ⟨by rfl, by (intro wq hSw; (try dsimp only at hSw); go_simp; (try (first | rfl | omega)))⟩) hHeld ?_
    simp only [Act.put, List.setIfInBounds_toArray, List.set_cons_zero, List.set_cons_succ]
    refine wpAnyH_done (by kernel_rfl) ?_ _
    have HB7 : Hid (Below w.heap.size w w7) := HB2.out w7 hb7
    clear hHeld hb5 hb6 hb7
    go_wp2
    go_region
    go_wp2
    refine bodyPost_ret (v := .tuple #[.int .i64 ra, .int .i64 rb, .int .i64 0]) (by simp [results, Try.results66, go_sem]) rfl ⟨ra, rb, by rw [HE.out], HBV.out, HB7.out.drew⟩

end Go.Proofs.Ytmljnfgfjcjmmaa

/- The least way says what Greatest finds; what is shown is shown. -/
namespace Go.Proofs.Ytmljnfgfjcjmmaa
open Go.RowKit Lin

theorem pks_len (rows : List (List Int)) (y : List Int) : (pks rows [] y).length = y.length := by simp [pks]
theorem pks_at {rows : List (List Int)} {y : List Int} {i : Nat} (h : i < y.length) : (pks rows [] y).getD i [] = rows.getD (y.getD i 0).toNat [] := by
  simp [pks, List.getD_eq_getElem?_getD, h]

theorem take_at {l : List Int} {n i : Nat} (h : i < n) : (l.take n).getD i 0 = l.getD i 0 := by
  simp [List.getD_eq_getElem?_getD, h]

theorem sv_pks {rows : List (List Int)} {y : List Int} {a : Nat → Int} {j : Nat} : sv (pks rows [] y) a j = sumN y.length fun q => a q * (rows.getD (y.getD q 0).toNat []).getD j 0 := by
  rw [sv_eq, pks_len]
  refine sumN_congr fun q hq => ?_
  rw [pks_at hq]
  rfl

theorem sv_mW {rows : List (List Int)} {g y : List Int} {j : Nat} : sv (pks rows [] y) (V (mW rows g y)) j = sv (pks rows [] y) (V (wayN g (pks rows [] y))) j := by
  rw [sv_pks, sv_pks]
  refine sumN_congr fun q hq => ?_
  show (mW rows g y).getD q 0 * _ = (wayN g (pks rows [] y)).getD q 0 * _
  unfold mW
  rw [take_at hq]

theorem sd_wS {d : Nat} {rows : List (List Int)} {g y : List Int} (hg : g.length = d) : sdL rows d y (mW rows g y) = wS g (pks rows [] y) := by
  unfold wS
  rw [hg, ← sv_mW, sv_pks]
  rfl

theorem uW_wU {rows : List (List Int)} {g y : List Int} : uW rows g y = wU g (pks rows [] y) := by
  unfold wU uW
  rw [pks_len]
  rfl

theorem ways_sub {rows : List (List Int)} {g t : List (List Int)} {g' : List Int} (hs : t.Sublist rows) (hw : wayB g' t = true) (_ : g = g) : ∃ c ∈ waysL rows g', pks rows [] c = t := by
  have hx := chz_ext rows [] t.length 0
  rw [List.drop_zero] at hx
  have hm : t ∈ chz t.length rows := chz_mem.2 ⟨hs, rfl⟩
  rw [← hx] at hm
  obtain ⟨c, hc, he⟩ := List.mem_map.1 hm
  refine ⟨c, ?_, he⟩
  simp only [waysL, waysTo, List.mem_flatMap, List.mem_range, List.mem_filter]
  refine ⟨t.length, ?_, hc, by rw [he]; exact hw⟩
  have := hs.length_le
  have := way_short hw
  omega

theorem sub_way {rows : List (List Int)} {g y : List Int} (h : y ∈ waysL rows g) : (pks rows [] y).Sublist rows := by
  simp only [waysL, waysTo, List.mem_flatMap, List.mem_range, List.mem_filter] at h
  obtain ⟨m, hm1, hm2, hm3⟩ := h
  have hx := chz_ext rows [] m 0
  rw [List.drop_zero] at hx
  have : pks rows [] y ∈ chz m rows := by rw [← hx]; exact List.mem_map.2 ⟨y, hm2, rfl⟩
  exact (chz_mem.1 this).1

theorem low_at (l : List Int) (i : Nat) : (gc l : Int) * (low l).getD i 0 = l.getD i 0 := by
  have h := low_mul l
  have h2 := congrArg (fun m : List Int => m.getD i 0) h
  simp only [List.getD_eq_getElem?_getD, List.getElem?_map] at h2
  simp only [List.getD_eq_getElem?_getD]
  cases hz : (low l)[i]? with
  | none => rw [hz] at h2; simpa using h2
  | some z => rw [hz] at h2; simpa using h2

/-- What is told of the least way, lowered. -/
theorem low_cross {S U a b : Int} (h : low [S, U] = [a, b]) : S * b = a * U ∧ a.natAbs ≤ S.natAbs + U.natAbs ∧ b.natAbs ≤ S.natAbs + U.natAbs := by
  have m := low_mul [S, U]
  have hb := low_bd (l := [S, U]) (b := S.natAbs + U.natAbs) (fun z hz => by
    simp only [List.mem_cons, List.not_mem_nil, or_false] at hz
    rcases hz with rfl | rfl <;> omega)
  rw [h] at m hb
  simp only [List.map_cons, List.map_nil, List.cons.injEq, and_true] at m
  have hb1 := hb a (by simp)
  have hb2 := hb b (by simp)
  clear hb h
  generalize ((gc [S, U] : Nat) : Int) = G at m
  obtain ⟨m1, m2⟩ := m
  refine ⟨?_, hb1, hb2⟩
  rw [← m1, ← m2, Int.mul_assoc, Int.mul_left_comm]

end Go.Proofs.Ytmljnfgfjcjmmaa
