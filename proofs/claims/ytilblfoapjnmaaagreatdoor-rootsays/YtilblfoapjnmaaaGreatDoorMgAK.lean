import Derived.Test.YtilblfoapjnmaaaGreatDoorRp4
import Derived.Deep.AppendLies
import Derived.Test.YtilblfoapjnmaaaGreatDoorRp3
/- root.Lengths: the walk. -/
namespace Go.Proofs.YtilblfoapjnmaaaGreatDoor
open Go.RowKit
attribute [local go_sem ↓] Go.wp_at_zero Go.wp_at_succ

/-- The lengths, part by part. -/
def leI (c : List (List Int)) : Nat → List Int
  | 0 => List.replicate c.length 0
  | t + 1 => meR c ((paL c).getD t []) (leI c t)

def leL (c : List (List Int)) : List Int := leI c (paL c).length

/-- No division by 0 on the way, and small numbers. -/
def leB (c : List (List Int)) : Bool := (List.range (paL c).length).all fun t => !((meA c ((paL c).getD t []) (leI c t)).2 == 0) && (leI c t).all (fun z => decide (z.natAbs ≤ 1000)) && decide (0 < ((paL c).getD t []).length)

theorem leI_len {c : List (List Int)} : ∀ t, (leI c t).length = c.length
  | 0 => by simp [leI]
  | t + 1 => by
    show (meR c _ (leI c t)).length = _
    unfold meR
    rw [meD_len]
    have : ∀ (p : List Nat) (i : Nat) (b : Nat) (s : List Int × Int), (meI c p i b s).1.length = s.1.length := by
      intro p i b
      induction b with
      | zero => intro s; rfl
      | succ b ih =>
        intro s
        show (meS c i _ (meI c p i b s)).1.length = _
        unfold meS
        split
        · show (List.set _ _ _).length = _
          rw [List.length_set, ih]
        · exact ih s
    have h2 : ∀ (p : List Nat) (a : Nat) (s : List Int × Int), (meO c p a s).1.length = s.1.length := by
      intro p a
      induction a with
      | zero => intro s; rfl
      | succ a ih =>
        intro s
        show (meI c p _ _ (meO c p a s)).1.length = _
        rw [this, ih]
    unfold meA
    rw [h2, List.length_set, leI_len t]

theorem leB_at {c : List (List Int)} (h : leB c = true) {t : Nat} (ht : t < (paL c).length) : (meA c ((paL c).getD t []) (leI c t)).2 ≠ 0 ∧ (∀ k, ((leI c t).getD k 0).natAbs ≤ 1000) ∧ 0 < ((paL c).getD t []).length := by
  unfold leB at h
  have h1 := List.all_eq_true.1 h t (List.mem_range.2 ht)
  simp only [Bool.and_eq_true, Bool.not_eq_true', beq_eq_false_iff_ne, decide_eq_true_eq, List.all_eq_true] at h1
  obtain ⟨⟨h2, h3⟩, h4⟩ := h1
  refine ⟨h2, fun k => ?_, h4⟩
  by_cases hk : k < (leI c t).length
  · rw [List.getD_eq_getElem?_getD, List.getElem?_eq_getElem hk]
    exact h3 _ (List.getElem_mem hk)
  · rw [List.getD_eq_getElem?_getD, List.getElem?_eq_none (Nat.not_lt.1 hk)]
    decide

theorem frN_cell {B : Nat} {w : World} {v : Value} {m : List (List Int)} (h : FrN B w v m) {k : Nat} (hk : k < m.length) : ∃ b cap r, v = .slice (some ⟨b, 0, none⟩) m.length cap ∧ B ≤ b ∧ w.cell? ⟨b, k, none⟩ = some r ∧ SlN B w r (ints (m.getD k [])) := by
  obtain ⟨vs, h1, h2, h3⟩ := h
  obtain ⟨b, cap, hv, hb, _⟩ := h2.form (by omega)
  subst hv
  have hc := h2.cells rfl k (vs.getD k (.slice none 0 0)) (by simp [h1, hk])
  refine ⟨b, cap, _, rfl, hb, ?_, h3 k hk⟩
  have e : (⟨b, 0, none⟩ : Addr).add k = ⟨b, k, none⟩ := by
    unfold Addr.add
    by_cases e : k = 0
    · simp [e]
    · simp [e]
  rw [e] at hc
  exact hc

theorem Only.low {g N : Nat} {a b : World} (h : Only g a b) (hN : N ≤ g) : Below N a b := ⟨h.os, h.tape, h.output, by rw [h.size]; exact Nat.le_refl _, fun x hx => h.block x (by omega)⟩

theorem Only.cell {g : Nat} {a b : World} (h : Only g a b) {x : Addr} (hx : x.block ≠ g) : b.cell? x = a.cell? x := World.cell?_of_block (w := a) (h.block _ hx)

/-- A new row's cells, with one block written into. -/
theorem slN_cells {g B : Nat} {w : World} {r : Value} {l : List Nat} (h : SlN B w r (ints (natsI l))) (hg : g < B) (hl : 0 < l.length) : ∃ b o cp, r = .slice (some ⟨b, o, none⟩) l.length cp ∧ b ≠ g ∧ ∀ t, t < l.length → w.cell? ⟨b, o + t, none⟩ = some (.int .i64 (l.getD t 0 : Nat)) := by
  obtain ⟨b, o, cp, hs, _, _⟩ := sl_cell h.1 (k := 0) (by rw [natsI_lenR]; exact hl)
  have hB := h.2 _ _ _ _ hs
  rw [natsI_lenR] at hs
  refine ⟨b, o, cp, hs, by omega, fun t ht => ?_⟩
  obtain ⟨b2, o2, cp2, hs2, _, hc2⟩ := sl_cell h.1 (k := t) (by rw [natsI_lenR]; exact ht)
  rw [natsI_lenR, hs] at hs2
  simp only [Value.slice.injEq, Option.some.injEq, Addr.mk.injEq, and_true, true_and] at hs2
  obtain ⟨⟨rfl, rfl⟩, rfl⟩ := hs2
  rw [natsI_atR ht] at hc2
  exact hc2

set_option maxRecDepth 100000 in
set_option maxHeartbeats 1600000 in
theorem lengths_any (n : Nat) (c : List (List Int)) (cv : Value) (w : World) (hg : Gdc n c) (hle : leB c = true) (hm : Mat w.heap.size 26 3 w cv c) :
    Calls Tryz.prog 14 #[cv] w fun e w' => ∃ g, e = .returned (.tuple #[.slice (some ⟨g, 0, none⟩) n n, .int .i64 0]) ∧ Sl 0 3 w' (.slice (some ⟨g, 0, none⟩) n n) (ints (leL c)) ∧ Below w.heap.size w w' := by
  have HCK : Hid (Calls Tryz.prog 15 #[cv] w fun e w' => e = .returned (.int .i64 0) ∧ Below w.heap.size w w') := checkR_any n c cv w hg hm
  have HPA : Hid (∀ X, Below w.heap.size w X → Calls Tryz.prog 30 #[cv] X fun e w' => ∃ u, e = .returned u ∧ FrN X.heap.size w' u (natsM (paL c)) ∧ Below X.heap.size X w') := fun X hX => parts_any n c cv X hg.sq ((hm.below hX (Nat.le_refl _)).any (Nat.le_refl _))
  obtain ⟨ao, cap, hvv, hlc, hcm⟩ := mat_open hm
  subst hvv
  have hn4 := hg.sq.n4
  have hn1 := hg.n1
  have HCL : Hid (c.length = n) := hg.sq.len
  have HM : Hid (∀ W, Below w.heap.size w W → Mat w.heap.size 26 3 W (.slice ao n cap) c) := fun W hW => by
    have := hm.below hW (Nat.le_refl _)
    rw [HCL.out] at this
    exact this
  have HSQ : Hid (Sqc n c) := hg.sq
  have HLE : Hid (leB c = true) := hle
  have HPK : Hid (∀ l ∈ paL c, PaW n l) := by
    show ∀ l ∈ paI c c.length, PaW n l
    rw [HCL.out]
    exact (paI_ok HCL.out (Nat.le_refl n)).2
  have HPL : Hid ((paL c).length ≤ 4) := by
    show (paI c c.length).length ≤ 4
    rw [HCL.out]
    have := (paI_ok HCL.out (Nat.le_refl n)).1
    omega
  have hmk : ∀ w : World, (Instr.makeSlice 26 (.int .i64 (n : Int)) (.int .i64 (n : Int))).run Tryz.prog w = .ok (.slice (some ⟨w.heap.size, 0, none⟩) n n) (w.alloc (.cells (madeCells #[.int .i64 0] n) 3)) := run_make_row' (P := Tryz.prog) 26 3 (.int .i64 0) 8 Tryz.underlying26 (by kernel_rfl) rfl .i64 .i64 n (by omega) (by omega)
  rw [HCL.out]
  rw [HCL.out] at HCK HPA
  clear hm hlc hg hle
  go_enter Tryz.func14, Tryz.ntmps14
  go_wp2_with fail
  refine HCK.out.mono ?_
  rintro e w1 ⟨rfl, hb1⟩
  have HB1 : Hid (Below w.heap.size w w1) := hb1
  clear hb1 HCK
  obtain ⟨W1, hW1⟩ : ∃ W1, W1 = w1.alloc (.cells (madeCells #[.int .i64 0] n) 3) := ⟨_, rfl⟩
  obtain ⟨g, hgg⟩ : ∃ g, g = w1.heap.size := ⟨_, rfl⟩
  have HR0 : Hid (W1.rowIs g 3 n (fun _ => .int .i64 0)) := by rw [hW1, hgg]; exact World.rowIs_made w1 (.int .i64 0) n 3
  have HBA : Hid (Below w.heap.size w W1) := by rw [hW1]; exact HB1.out.alloc HB1.out.size _
  have HGW : Hid (w.heap.size ≤ g) := by rw [hgg]; exact HB1.out.size
  have HGS : Hid (W1.heap.size = g + 1) := by rw [hW1, hgg]; show _ = _; simp
  have HP1 := HPA.out W1 HBA.out
  rw [hW1] at HP1
  have HW1 : Hid (W1 = w1.alloc (.cells (madeCells #[.int .i64 0] n) 3)) := hW1
  have HGG : Hid (g = w1.heap.size) := hgg
  clear hW1 hgg HPA
  go_wp2_with fail
  refine HP1.mono ?_
  rintro e w2 ⟨u, rfl, hfn, hb2⟩
  rw [← HW1.out] at hfn hb2
  have HFN : Hid (FrN (g + 1) w2 u (natsM (paL c))) := by rw [← HGS.out]; exact hfn
  obtain ⟨uo, uc, hu⟩ : ∃ uo uc, u = .slice uo (natsM (paL c)).length uc := by
    obtain ⟨vs, g1, g2, g3⟩ := hfn
    exact owns_form g2
  rw [natsM_len] at hu
  subst hu
  have HB2 : Hid (Below w.heap.size w w2) := HBA.out.trans (hb2.mono HBA.out.size)
  have HR2 : Hid (w2.rowIs g 3 n (fun k => .int .i64 ((leI c 0).getD k 0))) := (HR0.out.of_block (hb2.block g (by rw [HGS.out]; omega))).congr fun k hk => by
    show _ = Value.int .i64 ((List.replicate c.length (0 : Int)).getD k 0)
    rw [HCL.out]
    simp [hk]
  rw [← HGG.out]
  obtain ⟨m, hmm⟩ : ∃ m, m = (paL c).length := ⟨_, rfl⟩
  have HMM : Hid (m = (paL c).length) := hmm
  have HM4 : m ≤ 4 := by rw [hmm]; exact HPL.out
  have HEN : Hid (∃ b o, ao = some ⟨b, o, none⟩ ∧ ∀ x, x < n → ∃ b3 o3 cp3, ∀ X, Below w.heap.size w X → X.cell? ⟨b, o + x, none⟩ = some (.slice (some ⟨b3, o3, none⟩) n cp3) ∧ ∀ j, j < n → X.cell? ⟨b3, o3 + j, none⟩ = some (.int .i64 (cE c x j))) := by
    obtain ⟨b, o, b3, o3, cp3, h1, h2⟩ := ent_all HSQ.out (HM.out w (Below.refl _ _)) (i := 0) (by omega)
    refine ⟨b, o, h1, fun x hx => ?_⟩
    obtain ⟨b', o', b3', o3', cp3', h1', h2'⟩ := ent_all HSQ.out (HM.out w (Below.refl _ _)) hx
    rw [h1] at h1'
    simp only [Option.some.injEq, Addr.mk.injEq, and_true] at h1'
    obtain ⟨rfl, rfl⟩ := h1'
    exact ⟨b3', o3', cp3', h2'⟩
  rw [← hmm] at HFN ⊢
  clear hmm hfn hb2 HR0 HBA HP1 HW1 HM hmk
  go_wp2
  go_loopw [7, 19] (fun _ tv wq => ∃ t : Nat, t ≤ m ∧ tv = .int .i64 t ∧ wq.rowIs g 3 n (fun k => .int .i64 ((leI c t).getD k 0)) ∧ Only g w2 wq) (fun _ tv _ => m - (intOf tv).toNat)
  case atStart => exact ⟨0, Nat.zero_le _, rfl, HR2.out, Only.refl _ _⟩
  case round =>
    obtain ⟨t, ht, rfl, hrw, hon⟩ := hrel
    have HRW : Hid (wr.rowIs g 3 n (fun k => .int .i64 ((leI c t).getD k 0))) := hrw
    have HON : Hid (Only g w2 wr) := hon
    clear hrw hon HR2
    have tI0 : (0 : Int) ≤ (t : Int) := by omega
    by_cases hlt : t < m
    · have tI : (t : Int) < (m : Int) := by omega
      obtain ⟨b1, cap1, r1, hv1, hb1, hc1, hr1⟩ := frN_cell HFN.out (k := t) (by rw [natsM_len, ← HMM.out]; exact hlt)
      rw [natsM_len, ← HMM.out] at hv1
      simp only [Value.slice.injEq, true_and] at hv1
      obtain ⟨rfl, rfl⟩ := hv1
      rw [natsM_at (by rw [← HMM.out]; exact hlt)] at hr1
      obtain ⟨hm0, hbb, hp0⟩ := leB_at HLE.out (t := t) (by rw [← HMM.out]; exact hlt)
      have hpw : PaW n ((paL c).getD t []) := HPK.out _ (by simp [← HMM.out, hlt])
      have HLS : Hid (leI c (t + 1) = meR c ((paL c).getD t []) (leI c t)) := rfl
      obtain ⟨p, hp⟩ : ∃ p, p = (paL c).getD t [] := ⟨_, rfl⟩
      rw [← hp] at hr1 hm0 hp0 hpw HLS
      obtain ⟨b2, o2, cp2, rfl, hbg, hcs⟩ := slN_cells hr1 (show g < g + 1 by omega) hp0
      have c1 : wr.cell? ⟨b1, t, none⟩ = some (.slice (some ⟨b2, o2, none⟩) p.length cp2) := (HON.out.cell (show b1 ≠ g by omega)).trans hc1
      have HME : Hid (Calls Tryz.prog 36 #[.slice ao n cap, .slice (some ⟨b2, o2, none⟩) p.length cp2, .slice (some ⟨g, 0, none⟩) n n] wr fun e w' => e = .returned (.tuple #[]) ∧ w'.rowIs g 3 n (fun k => .int .i64 ((meR c p (leI c t)).getD k 0)) ∧ Only g wr w') := by
        refine measure_any n g c p (leI c t) ao (some ⟨b2, o2, none⟩) cap cp2 wr HSQ.out hpw hp0 (by rw [leI_len, HCL.out]) hbb hm0 ?_ ?_ HRW.out
        · obtain ⟨b, o, h1, h2⟩ := HEN.out
          refine ⟨b, o, h1, fun x hx => ?_⟩
          obtain ⟨b3, o3, cp3, h3⟩ := h2 x hx
          exact ⟨b3, o3, cp3, fun X hX => h3 X (HB2.out.trans ((HON.out.trans hX).low HGW.out))⟩
        · exact ⟨b2, o2, rfl, fun X hX t ht => ((HON.out.trans hX).cell hbg).trans (hcs t ht)⟩
      rw [← HLS.out] at HME
      clear hr1 hm0 hbb hp0 hpw hcs hc1 hp HLS hb1
      generalize p.length = pl at *
      go_wp2_with fail
      refine HME.out.mono ?_
      rintro e w5 ⟨rfl, hr5, ho5⟩
      have HR5 : Hid (w5.rowIs g 3 n (fun k => .int .i64 ((leI c (t + 1)).getD k 0))) := hr5
      have HO5 : Hid (Only g w2 w5) := HON.out.trans ho5
      clear hr5 ho5 HME c1
      go_wp2
      exact ⟨⟨t + 1, by omega, by go_num, HR5.out, HO5.out⟩, by simp [intOf]; omega⟩
    · have hte : t = m := by omega
      subst hte
      have hlt2 : ¬ (t : Int) < (t : Int) := by omega
      have HLL : Hid (leL c = leI c t) := by rw [HMM.out]; rfl
      clear hlt ht
      go_wp2
      go_ret2
      refine ⟨g, rfl, ?_, HB2.out.trans (HON.out.low HGW.out)⟩
      rw [HLL.out]
      have hl : (leI c t).length = n := by rw [leI_len, HCL.out]
      exact row_slT HRW.out (fun _ _ => rfl) hl (Nat.le_refl _) (by omega)

end Go.Proofs.YtilblfoapjnmaaaGreatDoor

/- facetref.Next: the walk; the document's lengths (pure). -/
namespace Go.Proofs.YtilblfoapjnmaaaGreatDoor
open Go.RowKit
attribute [local go_sem ↓] Go.wp_at_zero Go.wp_at_succ

/-- The list behind one, from a place on down. -/
def nxI (q : Nat) : Nat → List Nat → List Nat × Bool
  | 0, l => (l, false)
  | i + 1, l => if l.getD i 0 + 1 < q then (l.set i (l.getD i 0 + 1), true) else nxI q i (l.set i 0)

theorem getD_setM {L : List Nat} {j k z : Nat} : (L.set j z).getD k 0 = if k = j ∧ j < L.length then z else L.getD k 0 := by
  simp only [List.getD_eq_getElem?_getD, List.getElem?_set]
  by_cases e : j = k
  · subst e
    by_cases h : j < L.length
    · simp [h]
    · simp [h]
  · rw [if_neg e, if_neg (fun h => e h.1.symm)]

theorem nxI_ok {q : Nat} (hq : 0 < q) : ∀ {i : Nat} {l : List Nat}, (∀ k, l.getD k 0 < q) → (nxI q i l).1.length = l.length ∧ ∀ k, (nxI q i l).1.getD k 0 < q
  | 0, _, h => ⟨rfl, h⟩
  | i + 1, l, h => by
    unfold nxI
    split
    · refine ⟨by simp, fun k => ?_⟩
      show (l.set i _).getD k 0 < q
      rw [getD_setM]
      split
      · assumption
      · exact h k
    · have h2 : ∀ k, (l.set i 0).getD k 0 < q := fun k => by
        rw [getD_setM]
        split
        · exact hq
        · exact h k
      obtain ⟨h3, h4⟩ := nxI_ok hq (i := i) h2
      exact ⟨by rw [h3]; simp, h4⟩

set_option maxRecDepth 100000 in
set_option maxHeartbeats 800000 in
theorem next_any (m g : Nat) (l : List Nat) (w : World) (hl : l.length = m) (hm : m ≤ 100) (hb : ∀ k, l.getD k 0 < 6) (hrow : w.rowIs g 3 m (fun k => .int .i64 (l.getD k 0 : Nat))) :
    Calls Tryz.prog 23 #[.slice (some ⟨g, 0, none⟩) m m, .int .i64 6] w fun e w' => e = .returned (.bool (nxI 6 m l).2) ∧ w'.rowIs g 3 m (fun k => .int .i64 ((nxI 6 m l).1.getD k 0 : Nat)) ∧ Only g w w' := by
  have HR0 : Hid (w.rowIs g 3 m (fun k => .int .i64 (l.getD k 0 : Nat))) := hrow
  have HB0 : Hid (∀ k, l.getD k 0 < 6) := hb
  have HL0 : Hid (l.length = m) := hl
  have e1 : wrap64 ((m : Int) - 1) = (m : Int) - 1 := IntWalk.wrap64_in _ ⟨by omega, by omega⟩
  clear hrow hb hl
  go_enter Tryz.func23, Tryz.ntmps23
  go_wp2
  go_loopw [5] (fun iv wr => ∃ (i : Nat) (x : List Nat), i ≤ m ∧ iv = .int .i64 ((i : Int) - 1) ∧ nxI 6 m l = nxI 6 i x ∧ x.length = m ∧ (∀ k, x.getD k 0 < 6) ∧ wr.rowIs g 3 m (fun k => .int .i64 (x.getD k 0 : Nat)) ∧ Only g w wr) (fun iv _ => (intOf iv + 1).toNat)
  case atStart => exact ⟨m, l, Nat.le_refl _, by first | rfl | simp, rfl, HL0.out, HB0.out, HR0.out, Only.refl _ _⟩
  case round =>
    obtain ⟨i, x, hi, rfl, hnx, hxl, hxb, hrw, hon⟩ := hrel
    have HN : Hid (nxI 6 m l = nxI 6 i x) := hnx
    have HXL : Hid (x.length = m) := hxl
    have HXB : Hid (∀ k, x.getD k 0 < 6) := hxb
    have HRW : Hid (wr.rowIs g 3 m (fun k => .int .i64 (x.getD k 0 : Nat))) := hrw
    have HON : Hid (Only g w wr) := hon
    clear hnx hxl hxb hrw hon HR0 HL0 HB0
    cases i with
    | zero =>
      have HN2 : Hid (nxI 6 m l = (x, false)) := HN.out
      go_wp2
      go_ret
      exact ⟨by rw [HN2.out] <;> rfl, by rw [HN2.out]; exact HRW.out, HON.out⟩
    | succ i =>
      have him : i < m := by omega
      have ei : ((i + 1 : Nat) : Int) - 1 = (i : Int) := by omega
      rw [ei]
      obtain ⟨v, hv⟩ : ∃ v, v = x.getD i 0 := ⟨_, rfl⟩
      have hv6 : v < 6 := by rw [hv]; exact HXB.out i
      have c1 : wr.cell? ⟨g, i, none⟩ = some (.int .i64 (v : Int)) := by rw [hv]; exact HRW.out.cell him
      have f1 := HRW.out.frozen i
      have HNX : Hid (nxI 6 (i + 1) x = if v + 1 < 6 then (x.set i (v + 1), true) else nxI 6 i (x.set i 0)) := by rw [hv]; rfl
      have HST : Hid (∀ (z : Nat) (W : World), W.rowIs g 3 m (fun k => .int .i64 (x.getD k 0 : Nat)) → (W.setCell ⟨g, i, none⟩ (.int .i64 (z : Nat))).rowIs g 3 m (fun k => .int .i64 ((x.set i z).getD k 0 : Nat))) := fun z W h => (h.set i _).congr fun k hk => by
        rw [getD_setM, HXL.out]
        by_cases e : k = i
        · rw [if_pos e, if_pos ⟨e, him⟩]
        · rw [if_neg e, if_neg (fun h => e h.1)]
      have HR1 : Hid ((wr.setCell ⟨g, i, none⟩ (.int .i64 ((v + 1 : Nat) : Int))).rowIs g 3 m (fun k => .int .i64 ((x.set i (v + 1)).getD k 0 : Nat))) := HST.out (v + 1) wr HRW.out
      have HO1 : Hid (Only g w (wr.setCell ⟨g, i, none⟩ (.int .i64 ((v + 1 : Nat) : Int)))) := HON.out.set _ _
      have iI : (i : Int) < (m : Int) := by omega
      have iI0 : (0 : Int) ≤ (i : Int) := by omega
      have ec : ((v + 1 : Nat) : Int) = (v : Int) + 1 := by omega
      have e2 : wrap64 ((i : Int) - 1) = (i : Int) - 1 := IntWalk.wrap64_in _ ⟨by omega, by omega⟩
      clear hv
      by_cases h6 : v + 1 < 6
      · have HN2 : Hid (nxI 6 m l = (x.set i (v + 1), true)) := by
          show _ = _
          rw [HN.out, HNX.out, if_pos h6]
        have h6I : (v : Int) + 1 < 6 := by omega
        rw [ec] at HR1 HO1
        clear e1 ei ec
        go_wp2
        go_ret
        exact ⟨by rw [HN2.out] <;> rfl, by rw [HN2.out]; exact HR1.out, HO1.out⟩
      · have hv5 : v = 5 := by omega
        subst hv5
        have HN2 : Hid (nxI 6 m l = nxI 6 i (x.set i 0)) := by
          show _ = _
          rw [HN.out, HNX.out, if_neg h6]
        have HR2 : Hid (((wr.setCell ⟨g, i, none⟩ (.int .i64 6)).setCell ⟨g, i, none⟩ (.int .i64 0)).rowIs g 3 m (fun k => .int .i64 ((x.set i 0).getD k 0 : Nat))) := by
          have h := (HR1.out.set i (.int .i64 (0 : Nat))).congr (g := fun k => .int .i64 ((x.set i 0).getD k 0 : Nat)) fun k hk => by
            rw [getD_setM, getD_setM, HXL.out]
            by_cases e : k = i
            · rw [if_pos e, if_pos ⟨e, him⟩]
            · rw [if_neg e, if_neg (fun h => e h.1), if_neg (fun h => e h.1)]
          exact h
        have HO2 : Hid (Only g w ((wr.setCell ⟨g, i, none⟩ (.int .i64 6)).setCell ⟨g, i, none⟩ (.int .i64 0))) := (HON.out.set _ _).set _ _
        have HXB2 : Hid (∀ k, (x.set i 0).getD k 0 < 6) := fun k => by
          rw [getD_setM]
          split
          · decide
          · exact HXB.out k
        clear e1 ei ec HR1 HO1
        go_wp2
        exact ⟨⟨i, x.set i 0, by omega, by go_num, HN2.out, by simp [HXL.out], HXB2.out, HR2.out, HO2.out⟩, by simp [intOf]⟩

end Go.Proofs.YtilblfoapjnmaaaGreatDoor
