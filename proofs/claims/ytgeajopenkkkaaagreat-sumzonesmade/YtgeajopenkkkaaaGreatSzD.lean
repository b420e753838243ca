import Derived.Test.YtgeajopenkkkaaaGreatSzB
import Derived.Test.YtgeajopenkkkaaaGreatSzC
import Derived.Test.YtgeajopenkkkaaaGreatSdA
import Derived.Test.YtgeajopenkkkaaaGreatHv1
import Derived.Test.YtgeajopenkkkaaaGreatLs1
import Derived.Test.YtgeajopenkkkaaaGreatMade1
/- The law SumZones, for segments of raw numbers. -/
namespace Go.Proofs.YtgeajopenkkkaaaGreat
open Go.RowKit Go.Shelf Lin

section tiles
attribute [local go_sem] Oper.semAt_some

set_option maxRecDepth 100000 in
set_option maxHeartbeats 3200000 in
theorem tiles_no (d : Nat) (ways : List (List Int)) (v : Value) (w : World) (hv : Mat w.heap.size 22 3 w v ways) (h : Wys d ways) (hE : zE d ways = 5) :
    Calls Tryz.prog 13 #[.int .i64 d, v] w fun e w' => e = .returned (.tuple #[.slice none 0 0, .slice none 0 0, .int .i64 5]) ∧ Below w.heap.size w w' := by
  obtain ⟨vo, vc, rfl, _, _⟩ := mat_open hv
  obtain ⟨W3, hW3⟩ : ∃ W3, W3 = ((w.alloc (.cells #[.slice vo ways.length vc] 25)).alloc (.cells #[.slice none 0 0] 25)).alloc (.cells #[.slice none 0 0] 22) := ⟨_, rfl⟩
  have hb3 : Below w.heap.size w W3 := by rw [hW3]; exact (((Below.refl _ _).alloc (Nat.le_refl _) _).alloc (by simp) _).alloc (by simp; omega) _
  have hs3 : W3.heap.size = w.heap.size + 3 := by rw [hW3]; simp
  have n1 : W3.heap[w.heap.size]? = some (.cells #[.slice vo ways.length vc] 25 (0, 0)) := by
    rw [hW3]
    exact (Below.heap_alloc _ _ _ (by simp; omega)).trans ((Below.heap_alloc _ _ _ (by simp)).trans (heap_new _ _))
  have n2 : W3.heap[w.heap.size + 1]? = some (.cells #[.slice none 0 0] 25 (0, 0)) := by
    rw [hW3]
    refine (Below.heap_alloc _ _ _ (by simp)).trans ?_
    have := heap_new (w.alloc (.cells #[.slice vo ways.length vc] 25)) (.cells #[.slice none 0 0] 25)
    simpa using this
  have n3 : W3.heap[w.heap.size + 2]? = some (.cells #[.slice none 0 0] 22 (0, 0)) := by
    rw [hW3]
    have := heap_new ((w.alloc (.cells #[.slice vo ways.length vc] 25)).alloc (.cells #[.slice none 0 0] 25)) (.cells #[.slice none 0 0] 22)
    simpa using this
  have c1 : W3.cell? ⟨w.heap.size, 0, none⟩ = some (.slice vo ways.length vc) := cell_of n1
  have K1 : Hid (Calls Tryz.prog 14 #[.int .i64 d, .slice vo ways.length vc] W3 fun e w' => e = .returned (.int .i64 5) ∧ Below W3.heap.size W3 w') := by
    have := zcheck_any d ways _ W3 ((hv.below hb3 (Nat.le_refl _)).any (Nat.le_refl _)) h
    rw [hE] at this
    exact this
  have HB3 : Hid (Below w.heap.size w W3) := hb3
  clear hv h hE hb3 n1
  refine callsIn_wide (n := 0).1 ?_
  refine callsIn_of_wp_marks Tryz.func13 rfl trivial ?_ rfl
  simp only [Tryz.ntmps13, List.size_toArray, List.length_cons, List.length_nil, Nat.reduceAdd, Nat.reduceSub, Array.replicate_succ, Array.replicate_zero, List.push_toArray, List.append_toArray, List.nil_append, List.cons_append]
  rw [hW3] at c1
  gi_wp2_with fail
  rw [← hW3] at c1 ⊢
  clear hW3
  refine ⟨trivial, rfl, ?_⟩
  gi_at_call 14
  refine (callsIn_wide.2 K1.out).mono ?_
  rintro e w1 ⟨rfl, hb1⟩
  have hs1 : w.heap.size + 3 ≤ w1.heap.size := by have := hb1.size; omega
  have m2 : w1.heap[w.heap.size + 1]? = some (.cells #[.slice none 0 0] 25 (0, 0)) := (hb1.block _ (by omega)).trans n2
  have m3 : w1.heap[w.heap.size + 2]? = some (.cells #[.slice none 0 0] 22 (0, 0)) := (hb1.block _ (by omega)).trans n3
  have HM : Hid (w1.heap[w.heap.size + 1]? = some (.cells #[.slice none 0 0] 25 (0, 0)) ∧ w1.heap[w.heap.size + 2]? = some (.cells #[.slice none 0 0] 22 (0, 0))) := ⟨m2, m3⟩
  have HBW : Hid (Below w.heap.size w w1) := HB3.out.trans (hb1.mono (by omega))
  have p1 : w1.cell? ⟨w.heap.size + 1, 0, none⟩ = some (.slice none 0 0) := cell_of m2
  have p2 : w1.cell? ⟨w.heap.size + 1 + 1, 0, none⟩ = some (.slice none 0 0) := cell_of m3
  have p3 : w1.frozen? ⟨w.heap.size + 1, 0, none⟩ = false := by simp [World.frozen?, m2]
  have p4 : w1.frozen? ⟨w.heap.size + 1 + 1, 0, none⟩ = false := by
    show w1.frozen? ⟨w.heap.size + 2, 0, none⟩ = false
    simp [World.frozen?, m3]
  clear hb1 K1 c1 m2 m3 n2 n3 hs3
  gi_wp2
  obtain ⟨W9, hW9⟩ : ∃ W9, W9 = (w1.setCell ⟨w.heap.size + 1, 0, none⟩ (.slice none 0 0)).setCell ⟨w.heap.size + 1 + 1, 0, none⟩ (.slice none 0 0) := ⟨_, rfl⟩
  rw [← hW9]
  have q1 : W9.heap[w.heap.size + 1]? = some (.cells #[.slice none 0 0] 25 (0, 0)) := by
    rw [hW9]
    exact (Below.heap_setCell _ _ _ _ (by show w.heap.size + 1 ≠ w.heap.size + 1 + 1; omega)).trans (set_one HM.out.1)
  have q2 : W9.heap[w.heap.size + 2]? = some (.cells #[.slice none 0 0] 22 (0, 0)) := by
    rw [hW9]
    exact set_one ((Below.heap_setCell _ _ _ _ (by show w.heap.size + 2 ≠ w.heap.size + 1; omega)).trans HM.out.2)
  have q3 : ∀ b, W9.heap[b]? = w1.heap[b]? := fun b => by
    by_cases e1 : b = w.heap.size + 1
    · rw [e1, q1, HM.out.1]
    · by_cases e2 : b = w.heap.size + 2
      · rw [e2, q2, HM.out.2]
      · rw [hW9]
        exact (Below.heap_setCell _ _ _ _ (by show b ≠ w.heap.size + 1 + 1; omega)).trans (Below.heap_setCell _ _ _ _ e1)
  have q4 : W9.heap.size = w1.heap.size := by rw [hW9]; simp [World.setCell]
  have q5 : W9.os = w1.os ∧ W9.tape = w1.tape ∧ W9.output = w1.output := by rw [hW9]; exact ⟨rfl, rfl, rfl⟩
  clear hW9
  refine leaves_mks [] W9 (by simp) (fun r hr => by simp at hr) (fun wF hc => ⟨.tuple #[.slice none 0 0, .slice none 0 0, .int .i64 5], ?_, ?_⟩)
  · have r1 : wF.cell? ⟨w.heap.size + 1, 0, none⟩ = some (.slice none 0 0) := cell_of ((hc.block _ (by omega) (by simp)).trans q1)
    have r2 : wF.cell? ⟨w.heap.size + 1 + 1, 0, none⟩ = some (.slice none 0 0) := cell_of ((hc.block (w.heap.size + 2) (by omega) (by simp)).trans q2)
    simp [results, Tryz.results13, go_sem, r1, r2]
  · refine ⟨rfl, hc.os.trans (q5.1.trans HBW.out.os), hc.tape.trans (q5.2.1.trans HBW.out.tape), hc.output.trans (q5.2.2.trans HBW.out.output), by have := hc.size; omega, fun b hb => ?_⟩
    exact (hc.block b (by omega) (by simp)).trans ((q3 b).trans (HBW.out.block b hb))

end tiles

attribute [local go_sem ↓] Go.wp_at_zero Go.wp_at_succ

set_option maxRecDepth 100000 in
theorem lists_five (w : World) : Calls Tryz.prog 15 #[.slice none 0 0, .int .i64 5, .slice none 0 0, .int .i64 5] w fun x w' => x = .returned (.bool true) ∧ w' = w := by
  go_enter Tryz.func15, Tryz.ntmps15
  go_wp2
  go_ret
  exact ⟨rfl, rfl⟩

set_option maxRecDepth 100000 in
theorem list_five (w : World) : Calls Tryz.prog 16 #[.slice none 0 0, .int .i64 5, .slice none 0 0, .int .i64 5] w fun x w' => x = .returned (.bool true) ∧ w' = w := by
  go_enter Tryz.func16, Tryz.ntmps16
  go_wp2
  go_ret
  exact ⟨rfl, rfl⟩

set_option maxRecDepth 100000 in
set_option maxHeartbeats 3200000 in
theorem zones_five (d : Nat) (ways : List (List Int)) (v : Value) (w : World) (hv : Mat w.heap.size 22 3 w v ways) (h : Wys d ways) (hE : zE d ways = 5) :
    Calls Tryz.prog 5 #[.int .i64 d, v] w fun e w' => e = .returned (.bool true) ∧ Below w.heap.size w w' := by
  obtain ⟨vo, vc, rfl, _, _⟩ := mat_open hv
  have hM : ∀ X, Below w.heap.size w X → Mat X.heap.size 22 3 X (.slice vo ways.length vc) ways := fun X hX => (hv.below hX (Nat.le_refl _)).any (Nat.le_refl _)
  have K1 : Hid (Calls Tryz.prog 7 #[.slice vo ways.length vc] w fun e w' => ∃ b, e = .returned (.bool b) ∧ (b = false → ways.length ≤ 300) ∧ w' = w) := heavy_any w.heap.size ways _ w hv
  have K2 : Hid (Calls Tryz.prog 8 #[.int .i64 d, .slice vo ways.length vc] w fun e w' => e = .returned (.int .i64 5) ∧ Below w.heap.size w w') := by
    have := zmay_any d ways _ w hv h
    rw [hE] at this
    exact this
  have K3 : Hid (∀ X, Below w.heap.size w X → Calls Tryz.prog 12 #[.int .i64 d, .slice vo ways.length vc] X fun e w' => e = .returned (.tuple #[.slice none 0 0, .int .i64 5]) ∧ Below X.heap.size X w') := fun X hX => zone_no d ways _ X (hM X hX) h hE
  have K4 : Hid (∀ X, Below w.heap.size w X → Calls Tryz.prog 13 #[.int .i64 d, .slice vo ways.length vc] X fun e w' => e = .returned (.tuple #[.slice none 0 0, .slice none 0 0, .int .i64 5]) ∧ Below X.heap.size X w') := fun X hX => tiles_no d ways _ X (hM X hX) h hE
  have K5 : Hid (∀ X, Below w.heap.size w X → Calls Tryz.prog 14 #[.int .i64 d, .slice vo ways.length vc] X fun e w' => e = .returned (.int .i64 5) ∧ Below X.heap.size X w') := fun X hX => by
    have := zcheck_any d ways _ X (hM X hX) h
    rw [hE] at this
    exact this
  clear hv h hE hM
  go_enter Tryz.func5, Tryz.ntmps5
  go_wp2_with fail
  refine K1.out.mono ?_
  rintro e w1 ⟨b, rfl, -, rfl⟩
  clear K1
  cases b
  case true =>
    clear K2 K3 K4 K5
    go_wp2
    go_ret
    exact ⟨rfl, Below.refl _ _⟩
  case false =>
  go_wp2_with fail
  refine K2.out.mono ?_
  rintro e w2 ⟨rfl, hb2⟩
  have HK3 := K3.out w2 hb2
  have HB2 : Hid (Below w1.heap.size w1 w2) := hb2
  clear K2 K3 hb2
  go_wp2_with fail
  refine HK3.mono ?_
  rintro e w3 ⟨rfl, hb3⟩
  have HB3 : Hid (Below w1.heap.size w1 w3) := HB2.out.trans (hb3.mono HB2.out.size)
  have HK4 := K4.out w3 HB3.out
  clear hb3 HK3 K4
  go_wp2_with fail
  refine HK4.mono ?_
  rintro e w4 ⟨rfl, hb4⟩
  have HB4 : Hid (Below w1.heap.size w1 w4) := HB3.out.trans (hb4.mono HB3.out.size)
  have HK5 := K5.out w4 HB4.out
  clear hb4 HK4 K5
  go_wp2_with fail
  refine HK5.mono ?_
  rintro e w5 ⟨rfl, hb5⟩
  have HB5 : Hid (Below w1.heap.size w1 w5) := HB4.out.trans (hb5.mono HB4.out.size)
  clear hb5 HK5
  go_wp2_with fail
  refine (lists_five w5).mono ?_
  rintro e w6 ⟨rfl, rfl⟩
  go_wp2_with fail
  refine (lists_five w6).mono ?_
  rintro e w7 ⟨rfl, rfl⟩
  go_wp2_with fail
  refine (list_five w7).mono ?_
  rintro e w8 ⟨rfl, rfl⟩
  go_wp2
  go_ret
  exact ⟨rfl, HB5.out⟩

set_option maxRecDepth 100000 in
set_option maxHeartbeats 3200000 in
theorem zones_any (d : Nat) (ways : List (List Int)) (v : Value) (w : World) (hv : Mat w.heap.size 22 3 w v ways) (h : Wys d ways) (hE : zE d ways = 0) :
    Calls Tryz.prog 5 #[.int .i64 d, v] w fun e w' => e = .returned (.bool true) ∧ Below w.heap.size w w' := by
  obtain ⟨vo, vc, rfl, _, _⟩ := mat_open hv
  have hM : ∀ X, Below w.heap.size w X → Mat X.heap.size 22 3 X (.slice vo ways.length vc) ways := fun X hX => (hv.below hX (Nat.le_refl _)).any (Nat.le_refl _)
  have K1 : Hid (Calls Tryz.prog 7 #[.slice vo ways.length vc] w fun e w' => ∃ b, e = .returned (.bool b) ∧ (b = false → ways.length ≤ 300) ∧ w' = w) := heavy_any w.heap.size ways _ w hv
  have K2 : Hid (Calls Tryz.prog 8 #[.int .i64 d, .slice vo ways.length vc] w fun e w' => e = .returned (.int .i64 0) ∧ Below w.heap.size w w') := by
    have := zmay_any d ways _ w hv h
    rw [hE] at this
    exact this
  have KP : Hid (∀ X, Below w.heap.size w X → Calls Tryz.prog 10 #[.int .i64 d, .slice vo ways.length vc] X fun e w' => ∃ (xo : Option Addr) (xc : Nat) (L : List (List Int)), e = .returned (.slice xo L.length xc) ∧ ((∀ r, r ∈ L ↔ r ∈ zonP (nul d) ways) ∧ L.length ≤ (zonP (nul d) ways).length ∧ Mat w'.heap.size 22 3 w' (.slice xo L.length xc) L ∧ Below X.heap.size X w')) := fun X hX => (zpoints_any d ways _ X (hM X hX) h).mono fun e w' ⟨xo, xc, L, e1, e2⟩ => ⟨xo, xc, L, e1, e2⟩
  have KC : Hid (∀ X u (L : List (List Int)), (∀ r, r ∈ L ↔ r ∈ zonP (nul d) ways) → L.length ≤ (zonP (nul d) ways).length → Mat X.heap.size 22 3 X u L → Calls Tryz.prog 9 #[u] X fun e w' => ∃ (co : Option Addr) (cc : Nat) (s C : List (List Int)), e = .returned (.slice co C.length cc) ∧ (SrC d L s C ∧ Mat 0 22 3 w' (.slice co C.length cc) C ∧ Below X.heap.size X w')) := fun X u L hm hl hu =>
    (cornersS_any d L u X hu (good_of (h.good hE) hm hl) h.d3 (fun r hr => h.box15 r ((hm r).1 hr))).mono fun e w' ⟨co, cc, s, C, e1, e2, e3, e4⟩ => ⟨co, cc, s, C, e1, e2, fr_mat0S e3, e4⟩
  have KT : Hid (∀ X, Below w.heap.size w X → Calls Tryz.prog 11 #[.int .i64 d, .slice vo ways.length vc] X fun e w' => ∃ (xo : Option Addr) (xc : Nat) (yo : Option Addr) (yc : Nat), e = .returned (.tuple #[.slice xo (tlS ways (ext ways.length d 0)).length xc, .slice yo (tlS ways (ext ways.length d 0)).length yc]) ∧ (Mat 0 22 3 w' (.slice xo (tlS ways (ext ways.length d 0)).length xc) (tlS ways (ext ways.length d 0)) ∧ Sl 0 3 w' (.slice yo (tlS ways (ext ways.length d 0)).length yc) (ints ((tlS ways (ext ways.length d 0)).map (tlA ways))) ∧ Below X.heap.size X w')) := fun X hX => (tilesOf_any d ways _ X (hM X hX) h).mono fun e w' ⟨xo, xc, yo, yc, e1, e2⟩ => ⟨xo, xc, yo, yc, e1, e2⟩
  have K3 : Hid (∀ X, Below w.heap.size w X → Calls Tryz.prog 12 #[.int .i64 d, .slice vo ways.length vc] X fun e w' => ∃ (co : Option Addr) (cc : Nat) (s C : List (List Int)), e = .returned (.tuple #[.slice co C.length cc, .int .i64 0]) ∧ (SrC d (zonP (nul d) ways) s C ∧ Mat 0 22 3 w' (.slice co C.length cc) C ∧ Below X.heap.size X w')) := fun X hX => (zone_any d ways _ X (hM X hX) h hE).mono fun e w' ⟨co, cc, s, C, e1, e2⟩ => ⟨co, cc, s, C, e1, e2⟩
  have K4 : Hid (∀ X, Below w.heap.size w X → Calls Tryz.prog 13 #[.int .i64 d, .slice vo ways.length vc] X fun e w' => ∃ (xo : Option Addr) (xc : Nat) (yo : Option Addr) (yc : Nat), e = .returned (.tuple #[.slice xo (tlS ways (ext ways.length d 0)).length xc, .slice yo (tlS ways (ext ways.length d 0)).length yc, .int .i64 0]) ∧ (Mat 0 22 3 w' (.slice xo (tlS ways (ext ways.length d 0)).length xc) (tlS ways (ext ways.length d 0)) ∧ Sl 0 3 w' (.slice yo (tlS ways (ext ways.length d 0)).length yc) (ints ((tlS ways (ext ways.length d 0)).map (tlA ways))) ∧ Below X.heap.size X w')) := fun X hX => (tiles_any d ways _ X (hM X hX) h hE).mono fun e w' ⟨xo, xc, yo, yc, e1, e2⟩ => ⟨xo, xc, yo, yc, e1, e2⟩
  have K5 : Hid (∀ X, Below w.heap.size w X → Calls Tryz.prog 14 #[.int .i64 d, .slice vo ways.length vc] X fun e w' => e = .returned (.int .i64 0) ∧ Below X.heap.size X w') := fun X hX => by
    have := zcheck_any d ways _ X (hM X hX) h
    rw [hE] at this
    exact this
  clear hv h hE hM
  obtain ⟨T, hT⟩ : ∃ T, T = tlS ways (ext ways.length d 0) := ⟨_, rfl⟩
  rw [← hT] at KT K4
  clear hT
  go_enter Tryz.func5, Tryz.ntmps5
  go_wp2_with fail
  refine K1.out.mono ?_
  rintro e w1 ⟨b, rfl, -, rfl⟩
  clear K1
  cases b
  case true =>
    clear K2 K3 K4 K5 KP KC KT
    go_wp2
    go_ret
    exact ⟨rfl, Below.refl _ _⟩
  case false =>
  go_wp2_with fail
  refine K2.out.mono ?_
  rintro e w2 ⟨rfl, hb2⟩
  have HKP := KP.out w2 hb2
  have HB2 : Hid (Below w1.heap.size w1 w2) := hb2
  clear K2 KP hb2
  go_wp2_with fail
  refine HKP.mono ?_
  rintro e w3 ⟨xo, xc, L, rfl, hmL, hlL, hML, hb3⟩
  have HB3 : Hid (Below w1.heap.size w1 w3) := HB2.out.trans (hb3.mono HB2.out.size)
  have HKC := KC.out w3 _ L hmL hlL hML
  have HMS : Hid (∀ r, r ∈ L ↔ r ∈ zonP (nul d) ways) := hmL
  clear hb3 HKP KC hmL hlL hML
  go_wp2_with fail
  refine HKC.mono ?_
  rintro e w4 ⟨co, cc, s, C, rfl, hS4, hM4, hb4⟩
  have HB4 : Hid (Below w1.heap.size w1 w4) := HB3.out.trans (hb4.mono HB3.out.size)
  have HKT := KT.out w4 HB4.out
  have HS4 : Hid (SrC d L s C) := hS4
  have HM4 : Hid (∀ X, Below w4.heap.size w4 X → Mat 0 22 3 X (.slice co C.length cc) C) := fun X hX => hM4.below hX (Nat.le_refl _)
  clear hb4 HKC KT hS4 hM4
  go_wp2_with fail
  refine HKT.mono ?_
  rintro e w5 ⟨ao, ac, bo, bc, rfl, hA5, hB5, hb5⟩
  have HB5 : Hid (Below w1.heap.size w1 w5) := HB4.out.trans (hb5.mono HB4.out.size)
  have HK3 := K3.out w5 HB5.out
  have HM5 : Hid (∀ X, Below w5.heap.size w5 X → Mat 0 22 3 X (.slice co C.length cc) C ∧ Mat 0 22 3 X (.slice ao T.length ac) T ∧ Sl 0 3 X (.slice bo T.length bc) (ints (T.map (tlA ways)))) := fun X hX => ⟨(HM4.out w5 hb5).below hX (Nat.le_refl _), hA5.below hX (Nat.le_refl _), hB5.below hX (Nat.le_refl _)⟩
  clear hb5 HKT K3 hA5 hB5 HM4
  go_wp2_with fail
  refine HK3.mono ?_
  rintro e w6 ⟨co', cc', s', C', rfl, hS6, hM6, hb6⟩
  have hCC : C' = C := (SrC.other HS4.out hS6 fun r => (HMS.out r).symm).2
  subst hCC
  have HB6 : Hid (Below w1.heap.size w1 w6) := HB5.out.trans (hb6.mono HB5.out.size)
  have HK4 := K4.out w6 HB6.out
  have HM6 : Hid (∀ X, Below w6.heap.size w6 X → Mat 0 22 3 X (.slice co C'.length cc) C' ∧ Mat 0 22 3 X (.slice ao T.length ac) T ∧ Sl 0 3 X (.slice bo T.length bc) (ints (T.map (tlA ways))) ∧ Mat 0 22 3 X (.slice co' C'.length cc') C') := fun X hX => ⟨(HM5.out X (hb6.trans (hX.mono hb6.size))).1, (HM5.out X (hb6.trans (hX.mono hb6.size))).2.1, (HM5.out X (hb6.trans (hX.mono hb6.size))).2.2, hM6.below hX (Nat.le_refl _)⟩
  clear hb6 HK3 K4 hS6 hM6 HM5 HS4 HMS
  go_wp2_with fail
  refine HK4.mono ?_
  rintro e w7 ⟨ao', ac', bo', bc', rfl, hA7, hB7, hb7⟩
  have HB7 : Hid (Below w1.heap.size w1 w7) := HB6.out.trans (hb7.mono HB6.out.size)
  have HK5 := K5.out w7 HB7.out
  have HM7 : Hid (∀ X, Below w7.heap.size w7 X → Mat 0 22 3 X (.slice co C'.length cc) C' ∧ Mat 0 22 3 X (.slice ao T.length ac) T ∧ Sl 0 3 X (.slice bo T.length bc) (ints (T.map (tlA ways))) ∧ Mat 0 22 3 X (.slice co' C'.length cc') C' ∧ Mat 0 22 3 X (.slice ao' T.length ac') T ∧ Sl 0 3 X (.slice bo' T.length bc') (ints (T.map (tlA ways)))) := fun X hX => by
    obtain ⟨q1, q2, q3, q4⟩ := HM6.out X (hb7.trans (hX.mono hb7.size))
    exact ⟨q1, q2, q3, q4, hA7.below hX (Nat.le_refl _), hB7.below hX (Nat.le_refl _)⟩
  clear hb7 HK4 K5 hA7 hB7 HM6
  go_wp2_with fail
  refine HK5.mono ?_
  rintro e w8 ⟨rfl, hb8⟩
  have HB8 : Hid (Below w1.heap.size w1 w8) := HB7.out.trans (hb8.mono HB7.out.size)
  obtain ⟨q1, q2, q3, q4, q5, q6⟩ := HM7.out w8 hb8
  have HL1 := lists_same 0 C' _ _ w8 q4 q1
  have HM8 : Hid (∀ X, Below w8.heap.size w8 X → Mat 0 22 3 X (.slice ao T.length ac) T ∧ Sl 0 3 X (.slice bo T.length bc) (ints (T.map (tlA ways))) ∧ Mat 0 22 3 X (.slice ao' T.length ac') T ∧ Sl 0 3 X (.slice bo' T.length bc') (ints (T.map (tlA ways)))) := fun X hX => ⟨q2.below hX (Nat.le_refl _), q3.below hX (Nat.le_refl _), q5.below hX (Nat.le_refl _), q6.below hX (Nat.le_refl _)⟩
  clear hb8 HK5 HM7 q1 q2 q3 q4 q5 q6
  go_wp2_with fail
  refine HL1.mono ?_
  rintro e w9 ⟨rfl, hb9⟩
  have HB9 : Hid (Below w1.heap.size w1 w9) := HB8.out.trans (hb9.mono HB8.out.size)
  obtain ⟨q2, q3, q5, q6⟩ := HM8.out w9 hb9
  have HL2 := lists_same 0 T _ _ w9 q5 q2
  have HM9 : Hid (∀ X, Below w9.heap.size w9 X → Sl 0 3 X (.slice bo T.length bc) (ints (T.map (tlA ways))) ∧ Sl 0 3 X (.slice bo' T.length bc') (ints (T.map (tlA ways)))) := fun X hX => ⟨q3.below hX (Nat.le_refl _), q6.below hX (Nat.le_refl _)⟩
  clear hb9 HL1 HM8 q2 q3 q5 q6
  go_wp2_with fail
  refine HL2.mono ?_
  rintro e w10 ⟨rfl, hb10⟩
  have HB10 : Hid (Below w1.heap.size w1 w10) := HB9.out.trans (hb10.mono HB9.out.size)
  obtain ⟨q3, q6⟩ := HM9.out w10 hb10
  have HL3 := list_same 0 (T.map (tlA ways)) _ _ w10 q6 q3
  clear hb10 HL2 HM9 q3 q6
  go_wp2_with fail
  refine HL3.mono ?_
  rintro e w11 ⟨rfl, hb11⟩
  have HB11 : Hid (Below w1.heap.size w1 w11) := HB10.out.trans (hb11.mono HB10.out.size)
  clear hb11 HL3
  go_wp2
  go_ret
  exact ⟨rfl, HB11.out⟩

end Go.Proofs.YtgeajopenkkkaaaGreat

/- The law SumZonesMade: the walk. -/
namespace Go.Proofs.YtgeajopenkkkaaaGreat
open Go.RowKit Lin
attribute [local go_sem ↓] Go.wp_at_zero Go.wp_at_succ

set_option maxRecDepth 100000 in
set_option maxHeartbeats 3200000 in
theorem zonesMade_any (B : Nat) (raw : List Int) (d0 m0 : Int) (v : Value) (w : World) (hv : Sl B 3 w v (ints raw)) (hr : ∀ z ∈ raw, In64 z) (hd : In64 d0) (hm : In64 m0) :
    Calls Tryz.prog 3 #[v, .int .i64 d0, .int .i64 m0] w fun e w' => e = .returned (.bool true) ∧ Below w.heap.size w w' := by
  obtain ⟨ao, cap, hvv, hlc, hcm⟩ := sl_open hv
  subst hvv
  have HV : Hid (Sl B 3 w (.slice ao raw.length cap) (ints raw)) := hv
  have HRR : Hid (∀ z ∈ raw, In64 z) := hr
  have HD : Hid (In64 d0) := hd
  have HMM : Hid (In64 m0) := hm
  clear hv hr hd hm
  by_cases h1 : 256 < raw.length
  · have b1 : decide ((256 : Int) < (raw.length : Int)) = true := decide_eq_true (by omega)
    go_enter Tryz.func3, Tryz.ntmps3
    go_wp2
    go_ret
    exact ⟨rfl, Below.refl _ _⟩
  · have b1 : decide ((256 : Int) < (raw.length : Int)) = false := decide_eq_false (by omega)
    have HRL : Hid (raw.length ≤ 1000000) := by
      show _ ≤ _
      omega
    clear h1
    go_enter Tryz.func3, Tryz.ntmps3
    go_wp2_with fail
    refine (pick_any d0 3 w (by omega) (by omega) HD.out).mono ?_
    rintro e w1 ⟨z, rfl, hz, rfl⟩
    obtain ⟨n, hn⟩ : ∃ n : Nat, (n : Int) = 1 + z := ⟨(1 + z).toNat, by omega⟩
    have hz1' := hz.1
    have hz2' := hz.2
    have HN : Hid ((n : Int) = 1 + z) := hn
    have hn1 : 1 ≤ n := by omega
    have hn3 : n ≤ 3 := by omega
    clear hz hn
    go_wp2_with fail
    rw [← HN.out]
    refine (pick_any m0 5 w1 (by omega) (by omega) HMM.out).mono ?_
    rintro e w2 ⟨y, rfl, hy, rfl⟩
    obtain ⟨k, hk⟩ : ∃ k : Nat, (k : Int) = 1 + y := ⟨(1 + y).toNat, by omega⟩
    have hy1' := hy.1
    have hy2' := hy.2
    have HK : Hid ((k : Int) = 1 + y) := hk
    have hk1 : 1 ≤ k := by omega
    have hk5 : k ≤ 5 := by omega
    clear hy hk hz1' hz2' HN
    have HPO : Hid (Calls Tryz.prog 6 #[.slice ao raw.length cap, .int .i64 0, .int .i64 n, .int .i64 k, .int .i64 3] w2 fun e w' => ∃ (pts : List (List Int)) (qo : Option Addr) (qc : Nat), e = .returned (.slice qo pts.length qc) ∧ (pts.length = k ∧ Box n 3 pts ∧ Mat w'.heap.size 22 3 w' (.slice qo pts.length qc) pts ∧ Below w2.heap.size w2 w')) := by
      refine (pointsOf_any B raw _ 0 n k 3 w2 HV.out HRR.out HRL.out (by omega) (by omega) (by omega) (by omega)).mono ?_
      rintro e w' ⟨x, pts, rfl, hl, hbx, hfr, hb⟩
      have hM := fr_mat0S hfr
      obtain ⟨qo, qc, rfl, _, _⟩ := mat_open hM
      exact ⟨pts, qo, qc, rfl, hl, fun r hr => ⟨(hbx r hr).1, fun z hz => by have := (hbx r hr).2 z hz; omega⟩, hM.more (Nat.zero_le _), hb⟩
    go_wp2_with fail
    rw [← HK.out]
    refine HPO.out.mono ?_
    rintro e w3 ⟨pts, qo, qc, rfl, hl, hbx, hM, hb3⟩
    have hWy : Wys n pts := ⟨hn1, hn3, by omega, by omega, hbx⟩
    have HSS : Hid (Calls Tryz.prog 5 #[.int .i64 n, .slice qo pts.length qc] w3 fun e w' => e = .returned (.bool true) ∧ Below w3.heap.size w3 w') := by
      by_cases hE : (pickL n pts).length < n
      · exact zones_five n pts _ w3 hM hWy (by unfold zE; rw [if_pos hE])
      · exact zones_any n pts _ w3 hM hWy (by unfold zE; rw [if_neg hE])
    have HB3 : Hid (Below w2.heap.size w2 w3) := hb3
    clear hl hbx hM hb3 hWy HPO HV HRR HRL HK hy1' hy2'
    go_wp2_with fail
    refine HSS.out.mono ?_
    rintro e w6 ⟨rfl, hb6⟩
    have HB6 : Hid (Below w2.heap.size w2 w6) := HB3.out.trans (hb6.mono HB3.out.size)
    clear hb6 HSS
    go_wp2
    go_ret
    exact ⟨rfl, HB6.out⟩

end Go.Proofs.YtgeajopenkkkaaaGreat
