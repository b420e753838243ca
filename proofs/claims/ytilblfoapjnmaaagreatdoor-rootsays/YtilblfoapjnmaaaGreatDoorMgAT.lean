import Derived.Test.YtilblfoapjnmaaaGreatDoorRp15
import Derived.Test.YtilblfoapjnmaaaGreatDoorMgAS
import Derived.Test.YtilblfoapjnmaaaGreatDoorRp9
import Derived.Test.YtilblfoapjnmaaaGreatDoorMgAD
import Derived.Shelf.SlSortCmp.NoneTotal
import Derived.Shelf.SlGeneric
import Derived.Ground.SlsfProg
import Derived.Test.YtilblfoapjnmaaaGreatDoorMgAG
import Derived.Test.YtilblfoapjnmaaaGreatDoorMgAC
/- root.Name: the walk. -/
namespace Go.Proofs.YtilblfoapjnmaaaGreatDoor
open Go.RowKit
attribute [local go_sem ↓] Go.wp_at_zero Go.wp_at_succ

/-- A part's kind has a name. -/
def kdQ (c : List (List Int)) (p : List Nat) : Bool := decide (0 < p.length) && match kdO c p with
  | some l => kdL.contains (l, UInt8.ofNat (48 + p.length)) && (rkP (l, UInt8.ofNat (48 + p.length)) == p.length)
  | none => false
def naB (c : List (List Int)) : Bool := !(paL c).isEmpty && (paL c).all (kdQ c)
def pnL (c : List (List Int)) (p : List Nat) : List UInt8 := match kdO c p with
  | some l => [l, UInt8.ofNat (48 + p.length)]
  | none => []
def pnI (c : List (List Int)) (k : Nat) : List (List UInt8) := ((paL c).take k).map (pnL c)

theorem pnI_succ {c : List (List Int)} {k : Nat} (hk : k < (paL c).length) : pnI c (k + 1) = pnI c k ++ [pnL c ((paL c).getD k [])] := by
  unfold pnI
  rw [List.take_succ_eq_append_getElem hk, List.map_append]
  simp [hk]

theorem pnL_le (c : List (List Int)) (p : List Nat) : (pnL c p).length ≤ 2 := by
  unfold pnL
  cases kdO c p <;> simp

theorem lens_le2 : ∀ l : List (List UInt8), (∀ s ∈ l, s.length ≤ 2) → Lib.lens l ≤ 2 * l.length
  | [], _ => by simp [Lib.lens]
  | s :: l, h => by
    have h1 := lens_le2 l fun s hs => h s (List.mem_cons_of_mem _ hs)
    have h2 := h s (List.mem_cons_self ..)
    simp only [Lib.lens, List.length_cons] at h1 ⊢
    simp at h1 ⊢
    omega

theorem join_le {l : List (List UInt8)} (h : ∀ s ∈ l, s.length ≤ 2) : (Lib.join l [43]).length ≤ 3 * l.length := by
  cases l with
  | nil => simp [Lib.join_nil]
  | cons x r =>
    have := lens_le2 (x :: r) h
    rw [Lib.join_length]
    simp only [List.length_cons, List.length_nil] at this ⊢
    omega

set_option maxRecDepth 100000 in
set_option maxHeartbeats 3200000 in
theorem nameR_any (n : Nat) (c : List (List Int)) (cv : Value) (w : World) (hg : Gdc n c) (hna : naB c = true) (hm : Mat w.heap.size 26 3 w cv c) :
    Calls Tryz.prog 12 #[cv] w fun e w' => e = .returned (.tuple #[.string ⟨(Lib.join (soL ((paL c).map (pnL c))) [43]).toArray⟩, .int .i64 0]) ∧ Below w.heap.size w w' := by
  obtain ⟨i9, hi9, hz90, hz91, hz92⟩ := info_parts Tryz.info9
  have HCK : Hid (Calls Tryz.prog 15 #[cv] w fun e w' => e = .returned (.int .i64 0) ∧ Below w.heap.size w w') := checkR_any n c cv w hg hm
  have HPA : Hid (∀ X, Below w.heap.size w X → Calls Tryz.prog 30 #[cv] X fun e w' => ∃ u, e = .returned u ∧ FrN X.heap.size w' u (natsM (paL c)) ∧ Below X.heap.size X w') := fun X hX => parts_any n c cv X hg.sq ((hm.below hX (Nat.le_refl _)).any (Nat.le_refl _))
  have HPK : Hid (∀ l ∈ paL c, PaW n l) := by
    show ∀ l ∈ paI c c.length, PaW n l
    rw [hg.sq.len]
    exact (paI_ok hg.sq.len (Nat.le_refl n)).2
  have HPL : Hid ((paL c).length ≤ 4) := by
    show (paI c c.length).length ≤ 4
    rw [hg.sq.len]
    have := (paI_ok hg.sq.len (Nat.le_refl n)).1
    have := hg.sq.n4
    omega
  have HNA : Hid (∀ p ∈ paL c, kdQ c p = true) := fun p hp => by
    unfold naB at hna
    rw [Bool.and_eq_true] at hna
    exact List.all_eq_true.1 hna.2 p hp
  have HNE : Hid (0 < (paL c).length) := by
    unfold naB at hna
    rw [Bool.and_eq_true, Bool.not_eq_true', List.isEmpty_eq_false_iff] at hna
    exact List.length_pos_iff.2 hna.1
  have HKO : Hid (∀ p ∈ paL c, ∀ X v, Below w.heap.size w X → Sl 0 3 X v (ints (natsI p)) → Calls Tryz.prog 31 #[cv, v] X fun e w' => ∃ kv, e = .returned kv ∧ (∀ Y, Calls Tryz.prog 32 #[kv] Y fun e w' => e = .returned (.string ⟨(pnL c p).toArray⟩) ∧ Below Y.heap.size Y w') ∧ (∃ a b, kv = .agg #[.int .i32 a, .int .i64 b]) ∧ Below X.heap.size X w') := fun p hp X v hX hv => by
    have hq := HNA.out p hp
    unfold kdQ at hq
    rw [Bool.and_eq_true, decide_eq_true_eq] at hq
    have h := kindOf_any n c p cv v X hg.sq (HPK.out p hp) hq.1 ((hm.below hX (Nat.le_refl _)).more hX.size) hv
    have hq2 := hq.2
    cases ho : kdO c p with
    | none => rw [ho] at hq2; cases hq2
    | some l =>
      rw [ho] at hq2 h
      simp only [Bool.and_eq_true, beq_iff_eq] at hq2
      obtain ⟨h1, h2⟩ := hq2
      refine h.mono ?_
      rintro e w' ⟨rfl, hb⟩
      refine ⟨_, rfl, fun Y => ?_, ⟨_, _, rfl⟩, hb⟩
      have hk := kname_any (l, UInt8.ofNat (48 + p.length)) (by simpa using h1) Y
      rw [h2] at hk
      have e : pnL c p = [l, UInt8.ofNat (48 + p.length)] := by unfold pnL; rw [ho]
      rw [e]
      exact hk
  clear hm hg hna
  go_enter Tryz.func12, Tryz.ntmps12
  go_wp2_with fail
  refine HCK.out.mono ?_
  rintro e w1 ⟨rfl, hb1⟩
  have HB1 : Hid (Below w.heap.size w w1) := hb1
  have HP1 := HPA.out w1 hb1
  clear hb1 HCK HPA
  go_wp2_with fail
  refine HP1.mono ?_
  rintro e w2 ⟨u, rfl, hfn, hb2⟩
  have HFN : Hid (FrN w1.heap.size w2 u (natsM (paL c))) := hfn
  obtain ⟨uo, uc, hu⟩ : ∃ uo uc, u = .slice uo (natsM (paL c)).length uc := by
    obtain ⟨vs, g1, g2, g3⟩ := hfn
    exact owns_form g2
  rw [natsM_len] at hu
  subst hu
  have HB2 : Hid (Below w.heap.size w w2) := HB1.out.trans (hb2.mono HB1.out.size)
  obtain ⟨m, hmm⟩ : ∃ m, m = (paL c).length := ⟨_, rfl⟩
  have HMM : Hid (m = (paL c).length) := hmm
  have HM4 : m ≤ 4 := by rw [hmm]; exact HPL.out
  rw [← hmm] at HFN ⊢
  clear hmm hfn hb2 HP1
  go_wp2
  go_loopw [5, 16] (fun sv tv wq => ∃ t : Nat, t ≤ m ∧ tv = .int .i64 t ∧ wq.ownsRow w2.heap.size 9 1 sv t (txV (pnI c t)) ∧ Below w2.heap.size w2 wq) (fun _ tv _ => m - (intOf tv).toNat)
  case atStart => exact ⟨0, Nat.zero_le _, rfl, World.ownsRow_nil _ _ _ _, Below.refl _ _⟩
  case round =>
    obtain ⟨t, ht, rfl, hrw, hon⟩ := hrel
    have HO : Hid (wr.ownsRow w2.heap.size 9 1 u5 t (txV (pnI c t))) := hrw
    have HB : Hid (Below w2.heap.size w2 wr) := hon
    have HBW : Hid (Below w.heap.size w wr) := HB2.out.trans (hon.mono HB2.out.size)
    have hsz : w2.heap.size ≤ wr.heap.size := hon.size
    have tI0 : (0 : Int) ≤ (t : Int) := by omega
    clear hrw hon
    by_cases hlt : t < m
    · have tI : (t : Int) < (m : Int) := by omega
      obtain ⟨b1, cap1, r1, hv1, hb1, hc1, hr1⟩ := frN_cell HFN.out (k := t) (by rw [natsM_len, ← HMM.out]; exact hlt)
      rw [natsM_len, ← HMM.out] at hv1
      simp only [Value.slice.injEq, true_and] at hv1
      obtain ⟨rfl, rfl⟩ := hv1
      rw [natsM_at (by rw [← HMM.out]; exact hlt)] at hr1
      have hpm : (paL c).getD t [] ∈ paL c := by simp [← HMM.out, hlt]
      have HPS : Hid (pnI c (t + 1) = pnI c t ++ [pnL c ((paL c).getD t [])]) := pnI_succ (by rw [← HMM.out]; exact hlt)
      have c1 : wr.cell? ⟨b1, t, none⟩ = some r1 := (HB.out.cell (lt_of_cell hc1)).trans hc1
      have HK1 := HKO.out _ hpm wr r1 HBW.out (slK hr1.1 (fun b hb => HB.out.block b hb))
      obtain ⟨ro, rl, rc, rfl⟩ : ∃ ro rl rc, r1 = .slice ro rl rc := by
        obtain ⟨a, b, h, _⟩ := sl_open hr1.1
        exact ⟨a, _, b, h⟩
      generalize pnL c ((paL c).getD t []) = sx at *
      obtain ⟨SB, hSB⟩ : ∃ SB : ByteArray, SB = ⟨sx.toArray⟩ := ⟨_, rfl⟩
      have HSB : Hid (SB = ⟨sx.toArray⟩) := hSB
      rw [← hSB] at HK1
      clear hr1 hpm hc1 hb1 hSB
      go_wp2_with fail
      refine HK1.mono ?_
      rintro e w3 ⟨kv, rfl, hnm, ⟨ka, kb, rfl⟩, hb3⟩
      have HB3 : Hid (Below w2.heap.size w2 w3) := HB.out.trans (hb3.mono hsz)
      have HO3 : Hid (w3.ownsRow w2.heap.size 9 1 u5 t (txV (pnI c t))) := owns_below HO.out hb3 (Nat.le_refl _)
      have HN3 := hnm w3
      clear hb3 HK1 hnm c1
      go_wp2_with fail
      refine HN3.mono ?_
      rintro e w4 ⟨rfl, hb4⟩
      have HB4 : Hid (Below w2.heap.size w2 w4) := HB3.out.trans (hb4.mono HB3.out.size)
      have HO4 : Hid (w4.ownsRow w2.heap.size 9 1 u5 t (txV (pnI c t))) := owns_below HO3.out hb4 (Nat.le_refl _)
      have hsz4 : w2.heap.size ≤ w4.heap.size := HB4.out.size
      clear hb4 HN3 HO3 HB3
      go_wp2_with (first | (at_builtin; refine wpList_append_own _ rfl _ _ 44 rfl w2.heap.size 9 i9 (.string ⟨#[]⟩) 1 16 Tryz.underlying44 hi9 hz90 hz91 hz92 rfl (by decide) _ _ _ rfl (HO4.out.alloc _) ⟨w4.heap.size, 0, none⟩ 1 1 [.string SB] rfl rfl (one_new _ _ _) (one_str _) ?c3 ?c4 ?c5 ?_))
      case c3 => unfold maxLen; omega
      case c4 => omega
      case c5 => simp; omega
      intro v5 w5 ho5 hg5 _
      have HO5 : Hid (w5.ownsRow w2.heap.size 9 1 v5 (t + 1) (txV (pnI c (t + 1)))) := by
        show World.ownsRow _ _ _ _ _ _ _
        rw [HPS.out]
        rw [HSB.out] at ho5
        simpa [txV] using ho5
      have HB5 : Hid (Below w2.heap.size w2 w5) := (HB4.out.alloc hsz4 _).grown hg5 (by simp; omega) (fun x hx => (HO4.out.lt x hx).1)
      clear ho5 hg5
      go_wp2
      exact ⟨⟨t + 1, by omega, by go_num, HO5.out, HB5.out⟩, by simp [intOf]; omega⟩
    · have hte : t = m := by omega
      subst hte
      have hlt2 : ¬ (t : Int) < (t : Int) := by omega
      clear hlt ht
      have ht0 : 0 < t := by rw [HMM.out]; exact HNE.out
      have hpe : pnI c t = (paL c).map (pnL c) := by
        unfold pnI
        rw [HMM.out, List.take_length]
      have hO := HO.out
      rw [hpe] at hO
      obtain ⟨l, hl⟩ : ∃ l, l = (paL c).map (pnL c) := ⟨_, rfl⟩
      rw [← hl] at hO
      have hll : l.length = t := by rw [hl, List.length_map, HMM.out]
      have hl2 : ∀ s ∈ soL l, s.length ≤ 2 := fun s hs => by
        have := (List.mergeSort_perm l _).mem_iff.1 hs
        rw [hl, List.mem_map] at this
        obtain ⟨p, _, rfl⟩ := this
        exact pnL_le c p
      obtain ⟨_, hO2⟩ := hO
      rcases hO2 with ⟨_, h0⟩ | ⟨g, gc, cur, rfl, hgb, hgh, hgc, hgm, hgs, hgt⟩
      · omega
      have HL : Hid (l = (paL c).map (pnL c)) := hl
      have HSO : Hid (Calls Tryz.prog 33 #[.slice (some ⟨g, 0, none⟩) t gc] wr fun e w' => e = .returned (.tuple #[]) ∧ (∀ j, j < l.length → w'.cell? ⟨g, j, none⟩ = some (.string ⟨((soL l).getD j []).toArray⟩)) ∧ g < w'.heap.size ∧ Below g wr w') := by
        rw [← hll]
        refine sortS_any g gc l cur wr hgh (fun j hj => ?_) (by omega)
        have e : (cur.toList.take (t * 1))[j]? = (txV l)[j]? := by rw [hgt]
        rw [Nat.mul_one, List.getElem?_take_of_lt (by omega)] at e
        rw [← Array.getElem?_toList, e]
        simp [txV, hj]
      have HJN : Hid (∀ w', (∀ j, j < l.length → w'.cell? ⟨g, j, none⟩ = some (.string ⟨((soL l).getD j []).toArray⟩)) → g < w'.heap.size → Calls Tryz.prog 34 #[.slice (some ⟨g, 0, none⟩) t gc, .string ⟨#[43]⟩] w' fun e w'' => e = .returned (.string ⟨(Lib.join (soL l) [43]).toArray⟩) ∧ Below w'.heap.size w' w'') := fun w' h1 h2 => by
        have hx : ((soL l).map fun s => (⟨s.toArray⟩ : ByteArray)).length = t := by rw [List.length_map, soL_len, hll]
        have hd : ((soL l).map fun s => (⟨s.toArray⟩ : ByteArray)).map (·.data.toList) = soL l := by
          rw [List.map_map]
          exact (List.map_congr_left (fun s _ => rfl)).trans (List.map_id _)
        have h := Any.strings_Join Tryz.lays156 Tryz.extra156 g 0 gc ((soL l).map fun s => (⟨s.toArray⟩ : ByteArray)) ⟨#[43]⟩ w' (fun j x hj => by
          rw [Nat.zero_add]
          rw [List.getElem?_map] at hj
          have hj2 : j < l.length := by
            rcases Nat.lt_or_ge j (soL l).length with h | h
            · rw [soL_len] at h; exact h
            · rw [List.getElem?_eq_none h] at hj; simp at hj
          rw [h1 j hj2]
          have : j < (soL l).length := by rw [soL_len]; exact hj2
          rw [List.getElem?_eq_getElem this] at hj
          simp only [Option.map_some, Option.some.injEq] at hj
          rw [← hj]
          simp [this]) h2 (by omega) (by omega) (by
            rw [hd]
            have := join_le hl2
            rw [soL_len] at this
            show (Lib.join (soL l) [43]).length ≤ _
            omega)
        rw [hd, hx] at h
        exact h
      have HGB : Hid (w2.heap.size ≤ g) := hgb
      clear hl hl2 hgb hgh hgc hgm hgs hgt hpe hll HO
      go_wp2_with fail
      refine HSO.out.mono ?_
      rintro e w5 ⟨rfl, h1, h2, hb5⟩
      have HJ5 := HJN.out w5 h1 h2
      have HB5 : Hid (Below w.heap.size w w5) := HBW.out.trans (hb5.mono (Nat.le_trans HB2.out.size HGB.out))
      clear h1 h2 hb5 HSO HJN
      go_wp2_with fail
      refine HJ5.mono ?_
      rintro e w6 ⟨rfl, hb6⟩
      go_wp2
      go_ret2
      exact ⟨by rw [HL.out]; simp, HB5.out.trans (hb6.mono HB5.out.size)⟩

end Go.Proofs.YtilblfoapjnmaaaGreatDoor

/- Sorting by two ways. -/
namespace Go.Proofs.YtilblfoapjnmaaaGreatDoor
open Go.RowKit

def insS (x : List UInt8) : List (List UInt8) → List (List UInt8)
  | [] => [x]
  | y :: r => if decide (x ≤ y) = true then x :: y :: r else y :: insS x r
def insL : List (List UInt8) → List (List UInt8)
  | [] => []
  | x :: l => insS x (insL l)

theorem insS_perm (x : List UInt8) : ∀ l, (insS x l).Perm (x :: l)
  | [] => List.Perm.refl _
  | y :: r => by
    unfold insS
    by_cases h : decide (x ≤ y) = true
    · rw [if_pos h]
    · rw [if_neg h]
      exact ((insS_perm x r).cons y).trans (List.Perm.swap x y r)

theorem insL_perm : ∀ l, (insL l).Perm l
  | [] => List.Perm.refl _
  | x :: l => (insS_perm x (insL l)).trans ((insL_perm l).cons x)

theorem insS_sorted {x : List UInt8} : ∀ {l : List (List UInt8)}, l.Pairwise (· ≤ ·) → (insS x l).Pairwise (· ≤ ·)
  | [], _ => by simp [insS]
  | y :: r, h => by
    unfold insS
    rw [List.pairwise_cons] at h
    by_cases hc : decide (x ≤ y) = true
    · rw [if_pos hc]
      rw [decide_eq_true_eq] at hc
      rw [List.pairwise_cons, List.pairwise_cons]
      refine ⟨fun z hz => ?_, h⟩
      rcases List.mem_cons.1 hz with rfl | hz
      · exact hc
      · exact List.le_trans hc (h.1 z hz)
    · rw [if_neg hc]
      rw [decide_eq_true_eq] at hc
      rw [List.pairwise_cons]
      refine ⟨fun z hz => ?_, insS_sorted h.2⟩
      rcases List.mem_cons.1 ((insS_perm x r).mem_iff.1 hz) with rfl | hz
      · exact (List.le_total z y).resolve_left hc
      · exact h.1 z hz

theorem insL_sorted : ∀ l : List (List UInt8), (insL l).Pairwise (· ≤ ·)
  | [] => List.Pairwise.nil
  | _ :: l => insS_sorted (insL_sorted l)

theorem soL_ins (l : List (List UInt8)) : soL l = insL l := by
  have h1 : (soL l).Pairwise (· ≤ ·) := by
    have h := List.pairwise_mergeSort (le := fun x y : List UInt8 => decide (x ≤ y)) (fun a b c hab hbc => by
      simp only [decide_eq_true_eq] at hab hbc ⊢
      exact List.le_trans hab hbc) (fun a b => by
      simp only [Bool.or_eq_true, decide_eq_true_eq]
      exact List.le_total a b) l
    exact h.imp fun h => by simpa using h
  have h2 : (soL l).Perm (insL l) := (List.mergeSort_perm l _).trans (insL_perm l).symm
  exact h2.eq_of_pairwise (fun a b _ _ h3 h4 => List.le_antisymm h3 h4) h1 (insL_sorted l)

end Go.Proofs.YtilblfoapjnmaaaGreatDoor

/- What the kernel looks at, for a square. -/
namespace Go.Proofs.YtilblfoapjnmaaaGreatDoor
open Go.RowKit

/-- All that RootMade wants of a square, to be looked at by the kernel. -/
def rtB (c : List (List Int)) (n : Nat) : Bool := leB c && lnB c n && naB c && (leL c == ouI c n (paL c).length) && ((Lib.join (insL ((paL c).map (pnL c))) [43]).toArray == (joI (nmI c n (paL c).length) (paL c).length).data)





theorem rt_name {c : List (List Int)} {n : Nat} (h : rtB c n = true) : (⟨(Lib.join (soL ((paL c).map (pnL c))) [43]).toArray⟩ : ByteArray) = joI (nmI c n (paL c).length) (paL c).length := by
  unfold rtB at h
  rw [Bool.and_eq_true, beq_iff_eq] at h
  rw [soL_ins, h.2]

theorem rt_len {c : List (List Int)} {n : Nat} (h : rtB c n = true) : leL c = ouI c n (paL c).length := by
  unfold rtB at h
  simp only [Bool.and_eq_true, beq_iff_eq] at h
  exact h.1.2

theorem rt_pre {c : List (List Int)} {n : Nat} (h : rtB c n = true) : leB c = true ∧ lnB c n = true ∧ naB c = true := by
  unfold rtB at h
  simp only [Bool.and_eq_true] at h
  exact ⟨h.1.1.1.1, h.1.1.1.2, h.1.1.2⟩

end Go.Proofs.YtilblfoapjnmaaaGreatDoor

/- The library's sort, as this program calls it. -/
namespace Go.Proofs
open Go.Shelf Go.RowKit Go.Lib Go.Sort
shelf_lay_g SlLaysF.n6 Slsf 6 at Tryz 28 as Tryz.sortM
end Go.Proofs

/- exact.Total, cmp.Or, root.byHeight. -/
namespace Go.Proofs.YtilblfoapjnmaaaGreatDoor
open Go.RowKit
attribute [local go_sem ↓] Go.wp_at_zero Go.wp_at_succ

set_option maxRecDepth 100000 in
set_option maxHeartbeats 400000 in
theorem totalX_any (B : Nat) (zs : List Int) (v : Value) (w : World) (hv : Sl B 3 w v (ints zs)) (hl : zs.length ≤ 1000) (hb : ∀ z ∈ zs, z.natAbs ≤ 1000000000) :
    Calls Tryz.prog 53 #[v] w fun e w' => e = .returned (.int .i64 zs.sum) ∧ w' = w := by
  obtain ⟨ao, cap, hvv, hlc, hcm⟩ := sl_open hv
  subst hvv
  have HV : Hid (Sl B 3 w (.slice ao zs.length cap) (ints zs)) := hv
  have HB : Hid (∀ k, k ≤ zs.length → -1000000000000 ≤ (zs.take k).sum ∧ (zs.take k).sum ≤ 1000000000000) := fun k hk => by
    have := sumL_bd k hk hb
    have : 1000000000 * k ≤ 1000000000 * 1000 := Nat.mul_le_mul_left _ (by omega)
    omega
  clear hv hb
  go_enter Tryz.func53, Tryz.ntmps53
  go_wp2
  go_loopw [3, 5, 8] (fun s _ i wr => ∃ k : Nat, k ≤ zs.length ∧ i = .int .i64 k ∧ s = .int .i64 (zs.take k).sum ∧ wr = w) (fun _ _ i _ => zs.length - (intOf i).toNat)
  case atStart => exact ⟨0, Nat.zero_le _, rfl, by simp, rfl⟩
  case round =>
    obtain ⟨k, hk, rfl, rfl, rfl⟩ := hrel
    by_cases hlt : k < zs.length
    · obtain ⟨b, o, cp, hs, hc1, hcc⟩ := sl_cell HV.out hlt
      simp only [Value.slice.injEq] at hs
      obtain ⟨rfl, _, rfl⟩ := hs
      have HS : Hid ((zs.take (k + 1)).sum = (zs.take k).sum + zs.getD k 0) := sumL_snoc zs k hlt
      have b1 := HB.out k hk
      have b2 := HB.out (k + 1) hlt
      rw [HS.out] at b2
      generalize zs.getD k 0 = z at *
      generalize (zs.take k).sum = S at *
      go_wp2
      go_roundw
      case rel => exact ⟨k + 1, by omega, by go_num, by rw [HS.out], trivial⟩
      case measure => simp [intOf]; omega
    · have hke : zs.take k = zs := List.take_of_length_le (by omega)
      rw [hke]
      go_wp2
      go_ret
      exact ⟨rfl, rfl⟩

/-- The first that is not 0. -/
def orL : List Int → Int
  | [] => 0
  | z :: l => if z = 0 then orL l else z

theorem orL_zero : ∀ {l : List Int}, (∀ z ∈ l, z = 0) → orL l = 0
  | [], _ => rfl
  | z :: l, h => by
    unfold orL
    rw [if_pos (h z (by simp))]
    exact orL_zero fun x hx => h x (by simp [hx])

theorem orL_at : ∀ {l : List Int} {k : Nat}, k < l.length → (∀ z ∈ l.take k, z = 0) → l.getD k 0 ≠ 0 → orL l = l.getD k 0
  | z :: l, 0, _, _, h => by
    unfold orL
    rw [if_neg (by simpa using h)]
    rfl
  | z :: l, k + 1, hk, h0, h => by
    unfold orL
    rw [if_pos (h0 z (by simp))]
    exact orL_at (k := k) (by simpa using hk) (fun x hx => h0 x (by simp [hx])) (by simpa using h)

set_option maxRecDepth 100000 in
set_option maxHeartbeats 400000 in
theorem orI_any (B : Nat) (zs : List Int) (v : Value) (w : World) (hv : Sl B 3 w v (ints zs)) :
    Calls Tryz.prog 51 #[v] w fun e w' => e = .returned (.int .i64 (orL zs)) ∧ w' = w := by
  obtain ⟨ao, cap, hvv, hlc, hcm⟩ := sl_open hv
  subst hvv
  have HV : Hid (Sl B 3 w (.slice ao zs.length cap) (ints zs)) := hv
  clear hv
  go_enter Tryz.func51, Tryz.ntmps51
  go_wp2
  go_loopw [5, 8] (fun _ i wr => ∃ k : Nat, k ≤ zs.length ∧ i = .int .i64 k ∧ (∀ z ∈ zs.take k, z = 0) ∧ wr = w) (fun _ i _ => zs.length - (intOf i).toNat)
  case atStart => exact ⟨0, Nat.zero_le _, rfl, by simp, rfl⟩
  case round =>
    obtain ⟨k, hk, rfl, hno, rfl⟩ := hrel
    have HN : Hid (∀ z ∈ zs.take k, z = 0) := hno
    clear hno
    by_cases hlt : k < zs.length
    · obtain ⟨b, o, cp, hs, hc1, hcc⟩ := sl_cell HV.out hlt
      simp only [Value.slice.injEq] at hs
      obtain ⟨rfl, _, rfl⟩ := hs
      have HS1 : Hid (zs.getD k 0 = 0 → ∀ z ∈ zs.take (k + 1), z = 0) := fun h z hz => by
        have e : zs.getD k 0 = zs[k] := by simp [hlt]
        rw [List.take_succ_eq_append_getElem hlt, List.mem_append, List.mem_singleton] at hz
        rcases hz with hz | hz
        · exact HN.out z hz
        · rw [hz, ← e, h]
      have HG : Hid (zs.getD k 0 ≠ 0 → orL zs = zs.getD k 0) := fun h => orL_at hlt HN.out h
      generalize zs.getD k 0 = z at *
      cases hf : (z == 0)
      · have hne : z ≠ 0 := by simpa using hf
        have HF : Hid (z ≠ 0) := hne
        clear hne
        go_wp2
        go_ret
        exact ⟨by rw [HG.out HF.out]; rfl, rfl⟩
      · have hf2 : z = 0 := by simpa using hf
        clear hf
        subst hf2
        go_wp2
        go_roundw
        case rel => exact ⟨k + 1, by omega, by go_num, HS1.out rfl, trivial⟩
        case measure => simp [intOf]; omega
    · have hke : zs.take k = zs := List.take_of_length_le (by omega)
      have HE : Hid (orL zs = 0) := orL_zero (by rw [← hke]; exact HN.out)
      go_wp2
      go_ret
      exact ⟨by rw [HE.out]; rfl, rfl⟩

/-- By heights, then in order. -/
def hcf (x y : List Int) : Int := orL [cmpI x.sum y.sum, cmpL x y]

theorem two_sl {B : Nat} {w : World} {a b : Int} : Sl B 3 (w.alloc (.cells #[.int .i64 a, .int .i64 b] 3)) (.slice (some ⟨w.heap.size, 0, none⟩) 2 2) (ints [a, b]) := by
  have hr : (w.alloc (.cells #[.int .i64 a, .int .i64 b] 3)).rowIs w.heap.size 3 2 (fun i => .int .i64 ([a, b].getD i 0)) := by
    refine ⟨#[.int .i64 a, .int .i64 b], heap_alloc_new w _, rfl, fun i hi => ?_⟩
    match i, hi with
    | 0, _ => rfl
    | 1, _ => rfl
  exact row_slT (n := 2) hr (fun i _ => rfl) rfl (Nat.le_refl _) (by decide)

set_option maxRecDepth 100000 in
set_option maxHeartbeats 400000 in
theorem byHeight_any (B : Nat) (x y : List Int) (u v : Value) (w : World) (hu : Sl B 3 w u (ints x)) (hv : Sl B 3 w v (ints y)) (hx : x.length ≤ 1000 ∧ ∀ z ∈ x, z.natAbs ≤ 1000000000) (hy : y.length ≤ 1000 ∧ ∀ z ∈ y, z.natAbs ≤ 1000000000) :
    Calls Tryz.prog 29 #[u, v] w fun e w' => e = .returned (.int .i64 (hcf x y)) ∧ w' = w.alloc (.cells #[.int .i64 (cmpI x.sum y.sum), .int .i64 (cmpL x y)] 3) := by
  have H1 := totalX_any B x u w hu hx.1 hx.2
  have H2 := totalX_any B y v w hv hy.1 hy.2
  have H3 := cmpI_any x.sum y.sum w
  have H4 := compare_any B x y u v w hu hv
  have H5 := orI_any B [cmpI x.sum y.sum, cmpL x y] _ _ (two_sl (w := w))
  have HH : Hid (hcf x y = orL [cmpI x.sum y.sum, cmpL x y]) := rfl
  obtain ⟨ao, cap, hvv, hlc, hcm⟩ := sl_open hu
  subst hvv
  obtain ⟨bo, cb, hbb, hlb, hcb⟩ := sl_open hv
  subst hbb
  clear hu hv hx hy
  generalize cmpL x y = cl at *
  generalize cmpI x.sum y.sum = ci at *
  generalize x.sum = sx at *
  generalize y.sum = sy at *
  go_enter Tryz.func29, Tryz.ntmps29
  go_wp2_with fail
  refine H1.mono ?_
  rintro e w1 ⟨rfl, rfl⟩
  go_wp2_with fail
  refine H2.mono ?_
  rintro e w2 ⟨rfl, rfl⟩
  go_wp2_with fail
  refine H3.mono ?_
  rintro e w3 ⟨rfl, rfl⟩
  go_wp2_with fail
  refine H4.mono ?_
  rintro e w4 ⟨rfl, rfl⟩
  go_wp2_with fail
  refine H5.mono ?_
  rintro e w5 ⟨rfl, rfl⟩
  go_wp2
  go_ret
  exact ⟨by rw [HH.out]; rfl, rfl⟩

theorem cmpI_lt {a b : Int} : cmpI a b < 0 ↔ a < b := by
  unfold cmpI
  by_cases h1 : a < b
  · rw [if_pos h1]; exact ⟨fun _ => h1, fun _ => by decide⟩
  · rw [if_neg h1]
    by_cases h2 : b < a
    · rw [if_pos h2]; exact ⟨fun h => absurd h (by decide), fun h => absurd h h1⟩
    · rw [if_neg h2]; exact ⟨fun h => absurd h (by decide), fun h => absurd h h1⟩

theorem cmpI_zero {a b : Int} : cmpI a b = 0 ↔ a = b := by
  unfold cmpI
  by_cases h1 : a < b
  · rw [if_pos h1]; exact ⟨fun h => absurd h (by decide), fun h => by omega⟩
  · rw [if_neg h1]
    by_cases h2 : b < a
    · rw [if_pos h2]; exact ⟨fun h => absurd h (by decide), fun h => by omega⟩
    · rw [if_neg h2]; exact ⟨fun _ => by omega, fun _ => rfl⟩

theorem hcf_lt (x y : List Int) : hcf x y < 0 ↔ x.sum < y.sum ∨ (x.sum = y.sum ∧ cmpL x y < 0) := by
  unfold hcf orL
  by_cases h : cmpI x.sum y.sum = 0
  · rw [if_pos h]
    have e := cmpI_zero.1 h
    have e2 : orL [cmpL x y] = cmpL x y := by
      unfold orL
      by_cases h2 : cmpL x y = 0
      · rw [if_pos h2, h2]; rfl
      · rw [if_neg h2]
    rw [e2]
    constructor
    · intro h3; exact Or.inr ⟨e, h3⟩
    · rintro (h3 | ⟨_, h3⟩)
      · omega
      · exact h3
  · rw [if_neg h, cmpI_lt]
    have h2 : x.sum ≠ y.sum := fun e => h (cmpI_zero.2 e)
    constructor
    · exact Or.inl
    · rintro (h3 | ⟨h3, _⟩)
      · exact h3
      · exact absurd h3 h2

end Go.Proofs.YtilblfoapjnmaaaGreatDoor
