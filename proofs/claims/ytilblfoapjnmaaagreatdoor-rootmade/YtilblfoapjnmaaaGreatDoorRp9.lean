/- facetref.NameOf: the walk. -/
import Derived.Test.YtilblfoapjnmaaaGreatDoorRp8
namespace Go.Proofs.YtilblfoapjnmaaaGreatDoor
open Go.RowKit
attribute [local go_sem ↓] Go.wp_at_zero Go.wp_at_succ

/-- One name goes ahead of those that are greater. -/
def ltB (a b : ByteArray) : Bool := Op.bytesLess a.toList b.toList

def nmW (s : ByteArray) : Nat → List ByteArray → List ByteArray
  | 0, x => x
  | k + 1, x => if ltB s (x.getD k ⟨#[]⟩) = true then nmW s k ((x.set (k + 1) (x.getD k ⟨#[]⟩)).set k s) else x

/-- The names of the first parts, in order. -/
def nmI (c : List (List Int)) (n : Nat) : Nat → List ByteArray
  | 0 => []
  | t + 1 => nmW (kpS c (prN c n t)) (nmI c n t).length (nmI c n t ++ [kpS c (prN c n t)])

/-- With + between them. -/
def joI (l : List ByteArray) : Nat → ByteArray
  | 0 => ⟨#[]⟩
  | k + 1 => (if 0 < k then joI l k ++ ⟨#[43]⟩ else joI l k) ++ l.getD k ⟨#[]⟩

def strV (l : List ByteArray) : List Value := l.map .string

theorem owns_drewN {B e s n : Nat} {w : World} {v : Value} {xs : List Value} (h : w.ownsRow B e s v n xs) (k : Nat) : (w.drewN k).ownsRow B e s v n xs := h

theorem nmW_len (s : ByteArray) : ∀ (k : Nat) (x : List ByteArray), (nmW s k x).length = x.length
  | 0, _ => rfl
  | k + 1, x => by
    unfold nmW
    split
    · rw [nmW_len s k]; simp
    · rfl

theorem nmI_len (c : List (List Int)) (n : Nat) : ∀ t, (nmI c n t).length = t
  | 0 => rfl
  | t + 1 => by
    show (nmW _ _ _).length = _
    rw [nmW_len, List.length_append, nmI_len c n t]; rfl

theorem getD_setG {α : Type} {L : List α} {j k : Nat} {z d : α} : (L.set j z).getD k d = if k = j ∧ j < L.length then z else L.getD k d := by
  simp only [List.getD_eq_getElem?_getD, List.getElem?_set]
  by_cases e : j = k
  · subst e
    by_cases h : j < L.length
    · simp [h]
    · simp [h]
  · rw [if_neg e, if_neg (fun h => e h.1.symm)]

theorem kpS_size (c : List (List Int)) (p : List Nat) : (kpS c p).size ≤ 2 := by
  unfold kpS
  split
  · exact Nat.le_refl 2
  · decide

theorem nmW_size {s : ByteArray} (hs : s.size ≤ 2) : ∀ (k : Nat) {x : List ByteArray}, (∀ t, (x.getD t ⟨#[]⟩).size ≤ 2) → ∀ t, ((nmW s k x).getD t ⟨#[]⟩).size ≤ 2
  | 0, _, h, t => h t
  | k + 1, x, h, t => by
    unfold nmW
    split
    · refine nmW_size hs k (fun t => ?_) t
      rw [getD_setG]
      split
      · exact hs
      · rw [getD_setG]
        split
        · exact h k
        · exact h t
    · exact h t

theorem nmI_size (c : List (List Int)) (n : Nat) : ∀ i t, ((nmI c n i).getD t ⟨#[]⟩).size ≤ 2
  | 0, t => by simp [nmI]; decide
  | i + 1, t => by
    refine nmW_size (kpS_size _ _) _ (fun t => ?_) t
    rw [List.getD_eq_getElem?_getD]
    by_cases h : t < (nmI c n i).length
    · rw [List.getElem?_append_left h, ← List.getD_eq_getElem?_getD]
      exact nmI_size c n i t
    · rw [List.getElem?_append_right (Nat.not_lt.1 h)]
      by_cases h2 : t - (nmI c n i).length = 0
      · rw [h2]
        exact kpS_size _ _
      · rw [List.getElem?_eq_none (by simp; omega)]
        decide

theorem joI_size {l : List ByteArray} (h : ∀ t, (l.getD t ⟨#[]⟩).size ≤ 2) : ∀ k, (joI l k).size ≤ 3 * k
  | 0 => Nat.zero_le _
  | k + 1 => by
    have h1 := joI_size h k
    have h2 := h k
    unfold joI
    rw [ByteArray.size_append]
    split
    · rw [ByteArray.size_append]
      have : (ByteArray.mk #[43]).size = 1 := rfl
      omega
    · omega

set_option maxRecDepth 100000 in
set_option maxHeartbeats 3200000 in
theorem nameOf_any (n : Nat) (c : List (List Int)) (cv : Value) (w : World) (hc : Sqc n c) (hn1 : 1 ≤ n) (hpos : ∀ t, t < (paL c).length → 0 < (prN c n t).length) (hm : Mat w.heap.size 26 3 w cv c) :
    Calls Tryz.prog 9 #[cv] w fun e w' => e = .returned (.string (joI (nmI c n (paL c).length) (paL c).length)) ∧ Below w.heap.size w w' := by
  obtain ⟨i9, hi9, hz90, hz91, hz92⟩ := info_parts Tryz.info9
  have HPA : Hid (Calls Tryz.prog 10 #[cv] w fun e w' => ∃ u, e = .returned u ∧ FrN w.heap.size w' u (prI c n n) ∧ Below w.heap.size w w') := partsOf_any n c cv w hc hm
  have HPW : Hid (∀ t, t < (paL c).length → PaW n (prN c n t)) := fun t ht => by
    have h1 : PaW n ((paL c).getD t []) := by
      have : ∀ l ∈ paI c c.length, PaW n l := by
        rw [hc.len]
        exact (paI_ok hc.len (Nat.le_refl n)).2
      exact this _ (by show (paL c).getD t [] ∈ paL c; simp [ht])
    refine ⟨fun x hx => h1.lt x ((rsN_mem h1 x).1 hx), ?_⟩
    unfold prN rsN
    exact List.Pairwise.filter _ List.nodup_range
  have HKP : Hid (∀ X t v, t < (paL c).length → Below w.heap.size w X → Sl 0 3 X v (ints (natsI (prN c n t))) → Calls Tryz.prog 24 #[cv, v] X fun e w' => e = .returned (.string (kpS c (prN c n t))) ∧ Below X.heap.size X w') := fun X t v ht hX hv => kindOfPart_any n c (prN c n t) cv v X hc (HPW.out t ht) (hpos t ht) ((hm.below hX (Nat.le_refl _)).any (Nat.le_refl _)) hv
  obtain ⟨ao, cap, hvv, hlc, hcm⟩ := mat_open hm
  subst hvv
  have hn4 := hc.n4
  have HCL : Hid (c.length = n) := hc.len
  have HPL : Hid ((paL c).length ≤ 4) := by
    show (paI c c.length).length ≤ 4
    rw [HCL.out]
    have := (paI_ok HCL.out (Nat.le_refl n)).1
    omega
  have HPI : Hid (prI c n n = (paL c).map fun l => natsI (rsN n l)) := by
    show _ = _
    unfold prI paL
    rw [HCL.out]
  have HNL : Hid (∀ t, (nmI c n t).length = t) := nmI_len c n
  rw [HCL.out]
  rw [HCL.out] at HPA HKP
  clear hm hlc hc hpos
  go_enter Tryz.func9, Tryz.ntmps9
  go_wp2_with fail
  refine HPA.out.mono ?_
  rintro e w2 ⟨u, rfl, hfn, hb2⟩
  obtain ⟨m, hmm⟩ : ∃ m, m = (paL c).length := ⟨_, rfl⟩
  have HMM : Hid (m = (paL c).length) := hmm
  obtain ⟨uo, uc, hu⟩ : ∃ uo uc, u = .slice uo m uc := by
    obtain ⟨vs, g1, g2, g3⟩ := hfn
    obtain ⟨a, b, h⟩ := owns_form g2
    exact ⟨a, b, by rw [h, HPI.out]; simp [hmm]⟩
  subst hu
  have HMP : Hid (Mat 0 26 3 w2 (.slice uo m uc) ((paL c).map fun l => natsI (rsN n l))) := by
    rw [← HPI.out]
    exact fr_matRp hfn.fr
  have HB2 : Hid (Below w.heap.size w w2) := hb2
  have HSZ2 : Hid (w.heap.size ≤ w2.heap.size) := hb2.size
  have HM4 : m ≤ 4 := by rw [hmm]; exact HPL.out
  rw [← hmm] at HKP
  clear hmm hfn hb2 HPA
  go_wp2
  go_loopw [4, 5, 6, 7] (fun lv iv _ _ wr => ∃ i : Nat, i ≤ m ∧ iv = .int .i64 i ∧ wr.ownsRow w2.heap.size 9 1 lv i (strV (nmI c n i)) ∧ Below w2.heap.size w2 wr) (fun _ iv _ _ _ => m - (intOf iv).toNat)
  case atStart => exact ⟨0, Nat.zero_le _, rfl, World.ownsRow_nil _ _ _ _, Below.refl _ _⟩
  case round =>
    obtain ⟨i, hi, rfl, hown, hbel⟩ := hrel
    have HO : Hid (wr.ownsRow w2.heap.size 9 1 u4 i (strV (nmI c n i))) := hown
    have HB : Hid (Below w2.heap.size w2 wr) := hbel
    obtain ⟨lo, lc, hv⟩ := owns_form hown
    subst hv
    clear hown hbel
    have iI0 : (0 : Int) ≤ (i : Int) := by omega
    by_cases hlt : i < m
    · have iI : (i : Int) < (m : Int) := by omega
      have hge : ((paL c).map fun l => natsI (rsN n l)).getD i [] = natsI (prN c n i) := by
        have := HMM.out
        simp [prN, show i < (paL c).length by omega]
      obtain ⟨b1, o1, c1, r1, hs1, _, hc1, hr1⟩ := mat_cell (HMP.out.below HB.out (Nat.le_refl _)) (k := i) (by rw [List.length_map, ← HMM.out]; exact hlt)
      rw [List.length_map, ← HMM.out] at hs1
      simp only [Value.slice.injEq, true_and] at hs1
      obtain ⟨rfl, rfl⟩ := hs1
      rw [hge] at hr1
      have HK1 := HKP.out wr i r1 hlt (HB2.out.trans (HB.out.mono HSZ2.out)) hr1
      obtain ⟨ro, rl, rc, rfl⟩ : ∃ ro rl rc, r1 = .slice ro rl rc := by
        obtain ⟨a, b, h, _⟩ := sl_open hr1
        exact ⟨a, _, b, h⟩
      have HNI : Hid (nmI c n (i + 1) = nmW (kpS c (prN c n i)) i (nmI c n i ++ [kpS c (prN c n i)])) := by
        show nmW _ (nmI c n i).length _ = _
        rw [HNL.out]
      generalize kpS c (prN c n i) = s at *
      clear hr1 hge
      go_wp2_with fail
      refine HK1.mono ?_
      rintro e w3 ⟨rfl, hb3⟩
      have HB3 : Hid (Below w2.heap.size w2 w3) := HB.out.trans (hb3.mono HB.out.size)
      have HO3 : Hid (w3.ownsRow w2.heap.size 9 1 (.slice lo i lc) i (strV (nmI c n i))) := owns_below HO.out hb3 (Nat.le_refl _)
      have hsz3 : w2.heap.size ≤ w3.heap.size := HB3.out.size
      clear hb3 HK1 hc1
      go_wp2_with (first | (at_builtin; refine wpList_append_own _ rfl _ _ 44 rfl w2.heap.size 9 i9 (.string ⟨#[]⟩) 1 16 Tryz.underlying44 hi9 hz90 hz91 hz92 rfl (by decide) _ _ _ rfl (HO3.out.alloc _) ⟨w3.heap.size, 0, none⟩ 1 1 [.string s] rfl rfl (one_new _ _ _) (one_str _) ?c3 ?c4 ?c5 ?_))
      case c3 => unfold maxLen; omega
      case c4 => omega
      case c5 => simp; omega
      intro v4 w4 ho4 hg4 _
      obtain ⟨g4, cap4, hv4, hgb, hgl⟩ := ho4.form (by omega)
      subst hv4
      have HO4 : Hid (w4.ownsRow w2.heap.size 9 1 (.slice (some ⟨g4, 0, none⟩) (i + 1) cap4) (i + 1) (strV (nmI c n i ++ [s]))) := by
        show World.ownsRow _ _ _ _ _ _ _
        simpa [strV] using ho4
      have HB4 : Hid (Below w2.heap.size w2 w4) := (HB3.out.alloc hsz3 _).grown hg4 (by simp; omega) (fun x hx => (HO3.out.lt x hx).1)
      obtain ⟨x0, hx0⟩ : ∃ x0, x0 = nmI c n i ++ [s] := ⟨_, rfl⟩
      have HX0 : Hid (x0.length = i + 1) := by
        rw [hx0]
        show _ = _
        rw [List.length_append, HNL.out]; rfl
      have HXS : Hid (x0[i]? = some s) := by
        rw [hx0]
        show _ = _
        have := HNL.out i
        rw [List.getElem?_append_right (by omega), this]
        simp
      rw [← hx0] at HO4 HNI
      clear ho4 hg4 hx0 hgl hgb
      go_wp2
      go_loopw [7] (fun kv wq => ∃ (k : Nat) (x : List ByteArray), k ≤ i ∧ kv = .int .i64 k ∧ x.length = i + 1 ∧ nmI c n (i + 1) = nmW s k x ∧ wq.ownsRow w2.heap.size 9 1 (.slice (some ⟨g4, 0, none⟩) (i + 1) cap4) (i + 1) (strV x) ∧ Below w2.heap.size w2 wq ∧ x[k]? = some s) (fun kv _ => (intOf kv).toNat)
      case atStart => exact ⟨i, x0, Nat.le_refl _, rfl, HX0.out, HNI.out, HO4.out, HB4.out, HXS.out⟩
      case round =>
        obtain ⟨k, x, hk, rfl, hxl, hnm, hown, hbel, hxs⟩ := hrel
        have HXL : Hid (x.length = i + 1) := hxl
        have HNM : Hid (nmI c n (i + 1) = nmW s k x) := hnm
        have HOX : Hid (wr.ownsRow w2.heap.size 9 1 (.slice (some ⟨g4, 0, none⟩) (i + 1) cap4) (i + 1) (strV x)) := hown
        have HBX : Hid (Below w2.heap.size w2 wr) := hbel
        have HXS2 : Hid (x[k]? = some s) := hxs
        clear hxl hnm hown hbel hxs HO4 HB4 HX0 HNI HXS
        cases k with
        | zero =>
          have HE : Hid (nmI c n (i + 1) = x) := HNM.out
          go_wp2
          go_big_quiet (fail)
          go_wp2
          exact ⟨⟨i + 1, by omega, by go_num, by rw [HE.out]; exact owns_drewN HOX.out _, below_drewN HBX.out _⟩, by simp [intOf]; omega⟩
        | succ k =>
          have hki : k < x.length := by rw [HXL.out]; omega
          have cx : wr.cell? ⟨g4, k, none⟩ = some (.string (x.getD k ⟨#[]⟩)) := by
            rw [HOX.out.cellAt k (by omega)]
            simp [strV, hki]
          have cs : wr.cell? ⟨g4, k + 1, none⟩ = some (.string s) := by
            rw [HOX.out.cellAt (k + 1) (by omega)]
            simp [strV, HXS2.out]
          have f0 := HOX.out.frozenAt k
          have f1 := HOX.out.frozenAt (k + 1)
          have kI : ((k + 1 : Nat) : Int) < ((i + 1 : Nat) : Int) := by omega
          have HNX : Hid (nmW s (k + 1) x = if ltB s (x.getD k ⟨#[]⟩) = true then nmW s k ((x.set (k + 1) (x.getD k ⟨#[]⟩)).set k s) else x) := rfl
          have HST : Hid (∀ nq, (((wr.drewN nq).setCell ⟨g4, k + 1, none⟩ (.string (x.getD k ⟨#[]⟩))).setCell ⟨g4, k, none⟩ (.string s)).ownsRow w2.heap.size 9 1 (.slice (some ⟨g4, 0, none⟩) (i + 1) cap4) (i + 1) (strV ((x.set (k + 1) (x.getD k ⟨#[]⟩)).set k s)) ∧ Below w2.heap.size w2 (((wr.drewN nq).setCell ⟨g4, k + 1, none⟩ (.string (x.getD k ⟨#[]⟩))).setCell ⟨g4, k, none⟩ (.string s))) := fun nq => by
            have h1 := (owns_drewN HOX.out nq).stored (k + 1) (.string (x.getD k ⟨#[]⟩))
            have h2 := h1.1.stored k (.string s)
            have hg := (HOX.out.lt g4 rfl).1
            refine ⟨?_, ((below_drewN HBX.out nq).setCell hg _).setCell hg _⟩
            have e : ((strV x).set (k + 1) (.string (x.getD k ⟨#[]⟩))).set k (.string s) = strV ((x.set (k + 1) (x.getD k ⟨#[]⟩)).set k s) := by simp [strV, List.map_set]
            rw [← e]
            exact h2.1
          have HX3 : Hid (((x.set (k + 1) (x.getD k ⟨#[]⟩)).set k s).length = i + 1 ∧ ((x.set (k + 1) (x.getD k ⟨#[]⟩)).set k s)[k]? = some s) := ⟨by simp [HXL.out], by simp [hki]⟩
          generalize x.getD k ⟨#[]⟩ = y at *
          cases hlt3 : Op.bytesLess s.toList y.toList with
          | true =>
            have HN2 : Hid (nmI c n (i + 1) = nmW s k ((x.set (k + 1) y).set k s)) := by
              show _ = _
              rw [HNM.out, HNX.out, if_pos (show ltB s y = true from hlt3)]
            go_wp2
            go_big_quiet (fail)
            go_wp2
            exact ⟨⟨k, _, by omega, by go_num, HX3.out.1, HN2.out, (HST.out _).1, (HST.out _).2, HX3.out.2⟩, by simp [intOf]; try omega⟩
          | false =>
            have HN2 : Hid (nmI c n (i + 1) = x) := by
              show _ = _
              rw [HNM.out, HNX.out, if_neg (fun h => by rw [show ltB s y = false from hlt3] at h; cases h)]
            go_wp2
            go_big_quiet (fail)
            go_wp2
            exact ⟨⟨i + 1, by omega, by go_num, by rw [HN2.out]; exact owns_drewN HOX.out _, below_drewN HBX.out _⟩, by simp [intOf]; omega⟩
    · have hie : i = m := by omega
      subst hie
      have hlt2 : ¬ (i : Int) < (i : Int) := by omega
      clear hlt hi
      have HNB : Hid (∀ t, (nmI c n i).getD t ⟨#[]⟩ = (nmI c n i).getD t ⟨#[]⟩) := fun t => rfl
      obtain ⟨N, hN⟩ : ∃ N, N = nmI c n i := ⟨_, rfl⟩
      have HNE : Hid (N = nmI c n i) := hN
      have HNN : Hid (N.length = i) := by rw [hN]; exact HNL.out i
      rw [← hN] at HO
      have HS2 : Hid (∀ t, (N.getD t ⟨#[]⟩).size ≤ 2) := by rw [hN]; exact nmI_size c n i
      have HJS : Hid (∀ k, (joI N k).size ≤ 3 * k) := joI_size HS2.out
      clear hN HNB
      go_wp2
      go_loopw [8, 9] (fun sv tv wq => ∃ t : Nat, t ≤ i ∧ tv = .int .i64 t ∧ sv = .string (joI N t) ∧ wq.ownsRow w2.heap.size 9 1 (.slice lo i lc) i (strV N) ∧ Below w2.heap.size w2 wq) (fun _ tv _ => i - (intOf tv).toNat)
      case atStart => exact ⟨0, Nat.zero_le _, rfl, rfl, HO.out, HB.out⟩
      case round =>
        obtain ⟨t, ht, rfl, rfl, hown, hbel⟩ := hrel
        have HOX : Hid (wr.ownsRow w2.heap.size 9 1 (.slice lo i lc) i (strV N)) := hown
        have HBX : Hid (Below w2.heap.size w2 wr) := hbel
        clear hown hbel HO HB
        have tI0 : (0 : Int) ≤ (t : Int) := by omega
        by_cases hlt : t < i
        · have tI : (t : Int) < (i : Int) := by omega
          obtain ⟨g5, cap5, hv5, _, _⟩ := HOX.out.form (by omega)
          simp only [Value.slice.injEq, true_and] at hv5
          obtain ⟨rfl, rfl⟩ := hv5
          have ct : wr.cell? ⟨g5, t, none⟩ = some (.string (N.getD t ⟨#[]⟩)) := by
            rw [HOX.out.cellAt t (by omega)]
            have := HNN.out
            simp [strV, show t < N.length by omega]
          have hs2 := HS2.out t
          have hjs := HJS.out t
          have HJO : Hid (joI N (t + 1) = (if 0 < t then joI N t ++ ⟨#[43]⟩ else joI N t) ++ N.getD t ⟨#[]⟩) := rfl
          generalize N.getD t ⟨#[]⟩ = y at *
          generalize joI N t = J at *
          have hJb : J.size ≤ 100 := by omega
          by_cases ht0 : 0 < t
          · have HJ2 : Hid (joI N (t + 1) = (J ++ ⟨#[43]⟩) ++ y) := by
              show _ = _
              rw [HJO.out, if_pos ht0]
            have ht0I : (0 : Int) < (t : Int) := by omega
            have hsz : (J ++ ByteArray.mk #[43]).size ≤ 101 := by
              rw [ByteArray.size_append]
              have : (ByteArray.mk #[43]).size = 1 := rfl
              omega
            clear hjs
            go_wp2
            exact ⟨⟨t + 1, by omega, by go_num, by rw [HJ2.out], HOX.out, HBX.out⟩, by simp [intOf]; omega⟩
          · have HJ2 : Hid (joI N (t + 1) = J ++ y) := by
              show _ = _
              rw [HJO.out, if_neg ht0]
            have ht0I : ¬ (0 : Int) < (t : Int) := by omega
            clear hjs
            go_wp2
            exact ⟨⟨t + 1, by omega, by go_num, by rw [HJ2.out], HOX.out, HBX.out⟩, by simp [intOf]; omega⟩
        · have hte : t = i := by omega
          subst hte
          have hlt2 : ¬ (t : Int) < (t : Int) := by omega
          clear hlt ht
          go_wp2
          go_ret
          exact ⟨by rw [← HMM.out, ← HNE.out] <;> rfl, HB2.out.trans (HBX.out.mono HSZ2.out)⟩

end Go.Proofs.YtilblfoapjnmaaaGreatDoor
