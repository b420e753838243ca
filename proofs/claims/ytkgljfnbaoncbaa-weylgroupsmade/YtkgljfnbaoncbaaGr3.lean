/- facetref.DegreesOf: the degrees of all parts, by their kinds, sorted. -/
import Derived.Test.YtkgljfnbaoncbaaRp8
import Derived.Test.YtkgljfnbaoncbaaMgAG
namespace Go.Proofs.Ytkgljfnbaoncbaa
open Go.RowKit
attribute [local go_sem ↓] Go.wp_at_zero Go.wp_at_succ

/-- The degrees of a kind. -/
def dgK : Option (UInt8 × UInt8) → List Int
  | none => []
  | some p =>
    if p = (65, 49) then [2] else if p = (65, 50) then [2, 3] else if p = (65, 51) then [2, 3, 4] else if p = (65, 52) then [2, 3, 4, 5]
    else if p = (66, 50) then [2, 4] else if p = (66, 51) ∨ p = (67, 51) then [2, 4, 6] else if p = (66, 52) ∨ p = (67, 52) then [2, 4, 6, 8]
    else if p = (68, 52) then [2, 4, 4, 6] else if p = (70, 52) then [2, 6, 8, 12] else if p = (71, 50) then [2, 6] else []

def dgA (c : List (List Int)) (n : Nat) : Nat → List Int
  | 0 => []
  | t + 1 => dgA c n t ++ dgK (kdL.find? (kpB c (prN c n t)))

def swL (l : List Int) (k : Nat) : List Int := (l.set k (l.getD (k - 1) 0)).set (k - 1) (l.getD k 0)
/-- A number goes down as long as it is below. -/
def swK : Nat → List Int → List Int
  | 0, l => l
  | k + 1, l => if l.getD (k + 1) 0 < l.getD k 0 then swK k (swL l (k + 1)) else l
def isA (l : List Int) : Nat → List Int
  | 0 => l
  | i + 1 => swK i (isA l i)

theorem swL_len (l : List Int) (k : Nat) : (swL l k).length = l.length := by simp [swL]
theorem swK_len : ∀ (k : Nat) (l : List Int), (swK k l).length = l.length
  | 0, _ => rfl
  | k + 1, l => by
    unfold swK
    split
    · rw [swK_len k, swL_len]
    · rfl
theorem isA_len (l : List Int) : ∀ i, (isA l i).length = l.length
  | 0 => rfl
  | i + 1 => by show (swK i (isA l i)).length = _; rw [swK_len, isA_len l i]

def dgR (c : List (List Int)) (n : Nat) : List Int := isA (dgA c n (paL c).length) (dgA c n (paL c).length).length

theorem dgK_len (o : Option (UInt8 × UInt8)) : (dgK o).length ≤ 4 := by
  unfold dgK
  split
  · simp
  · repeat' split
    all_goals simp

theorem dgA_len (c : List (List Int)) (n : Nat) : ∀ t, (dgA c n t).length ≤ 4 * t
  | 0 => by simp [dgA]
  | t + 1 => by
    have h1 := dgA_len c n t
    have h2 := dgK_len (kdL.find? (kpB c (prN c n t)))
    show (dgA c n t ++ _).length ≤ _
    rw [List.length_append]
    omega

theorem swL_at {l : List Int} {k i : Nat} (h0 : 1 ≤ k) (hk : k < l.length) : (swL l k).getD i 0 = if i = k - 1 then l.getD k 0 else if i = k then l.getD (k - 1) 0 else l.getD i 0 := by
  unfold swL
  rw [List.getD_eq_getElem?_getD, List.getElem?_set, List.length_set]
  by_cases e : k - 1 = i
  · rw [if_pos e, if_pos (by omega), if_pos e.symm]; rfl
  · rw [if_neg e, if_neg (fun x => e x.symm), List.getElem?_set]
    by_cases e2 : k = i
    · rw [if_pos e2, if_pos hk, if_pos e2.symm]; rfl
    · rw [if_neg e2, if_neg (fun x => e2 x.symm), ← List.getD_eq_getElem?_getD]

theorem many_new (w : World) (xs : Array Value) (t : TypeId) : ∀ j u, xs.toList[j]? = some u → (w.alloc (.cells xs t)).cell? ((⟨w.heap.size, 0, none⟩ : Addr).add j) = some u := fun j u hj => by
  have h : (w.alloc (.cells xs t)).heap[w.heap.size]? = some (.cells xs t (0, 0)) := heap_alloc_new w _
  have e : ((⟨w.heap.size, 0, none⟩ : Addr).add j) = ⟨w.heap.size, j, none⟩ := by
    unfold Addr.add
    by_cases h0 : j = 0
    · subst h0; simp
    · simp [h0]
  rw [e]
  unfold World.cell?
  simp only [h]
  simpa using hj

theorem many_int (zs : List Int) : ∀ u ∈ ints zs, u.oneCell' = true := by
  intro u hu
  obtain ⟨z, _, rfl⟩ := List.mem_map.1 hu
  rfl

theorem only_drewN {g : Nat} {w1 w : World} (h : Only g w1 w) (q : Nat) : Only g w1 (w.drewN q) := ⟨h.os, h.tape, h.output, h.size, h.block⟩

def kdS : Option (UInt8 × UInt8) → ByteArray
  | some q => kdB q
  | none => ⟨#[]⟩

theorem kd_find (c : List (List Int)) (p : List Nat) : ∃ fq, fq = kdL.find? (kpB c p) ∧ (fq = none ∨ fq ∈ kdL.map some) := by
  refine ⟨_, rfl, ?_⟩
  cases h : kdL.find? (kpB c p) with
  | none => exact Or.inl rfl
  | some q => exact Or.inr (List.mem_map.2 ⟨q, List.mem_of_find?_eq_some h, rfl⟩)

set_option maxRecDepth 100000 in
set_option maxHeartbeats 12800000 in
theorem degreesOf_any (n : Nat) (c : List (List Int)) (cv : Value) (w : World) (hc : Sqc n c) (hpos : ∀ t, t < (paL c).length → 0 < (prN c n t).length) (hD : 0 < (dgA c n (paL c).length).length) (hm : Mat w.heap.size 26 3 w cv c) :
    Calls Try.prog 7 #[cv] w fun e w' => ∃ u, e = .returned u ∧ w'.ownsRow w.heap.size 3 1 u (dgR c n).length (ints (dgR c n)) ∧ Below w.heap.size w w' := by
  obtain ⟨i3, hi3, hz30, hz31, hz32⟩ := info_parts Try.info3
  have HPA : Hid (Calls Try.prog 22 #[cv] w fun e w' => ∃ u, e = .returned u ∧ FrN w.heap.size w' u (prI c n n) ∧ Below w.heap.size w w') := partsOf_any n c cv w hc hm
  have HPW : Hid (∀ t, t < (paL c).length → PaW n (prN c n t)) := fun t ht => by
    have h1 : PaW n ((paL c).getD t []) := by
      have : ∀ l ∈ paI c c.length, PaW n l := by
        rw [hc.len]
        exact (paI_ok hc.len (Nat.le_refl n)).2
      exact this _ (by show (paL c).getD t [] ∈ paL c; simp [ht])
    refine ⟨fun x hx => h1.lt x ((rsN_mem h1 x).1 hx), ?_⟩
    unfold prN rsN
    exact List.Pairwise.filter _ List.nodup_range
  have HKP : Hid (∀ X t v, t < (paL c).length → Below w.heap.size w X → Sl 0 3 X v (ints (natsI (prN c n t))) → Calls Try.prog 23 #[cv, v] X fun e w' => e = .returned (.string (kpS c (prN c n t))) ∧ Below X.heap.size X w') := fun X t v ht hX hv => kindOfPart_any n c (prN c n t) cv v X hc (HPW.out t ht) (hpos t ht) ((hm.below hX (Nat.le_refl _)).any (Nat.le_refl _)) hv
  obtain ⟨ao, cap, hvv, hlc, hcm⟩ := mat_open hm
  subst hvv
  have hn4 := hc.n4
  have HCL : Hid (c.length = n) := hc.len
  have HPL : Hid ((paL c).length ≤ 4) := by
    show (paI c c.length).length ≤ 4
    rw [HCL.out]
    have := (paI_ok HCL.out (Nat.le_refl n)).1
    omega
  have HPI : Hid (prI c n n = (paL c).map fun l => natsI (rsN n l)) := by
    show _ = _
    unfold prI paL
    rw [HCL.out]
  have HDP : Hid (0 < (dgA c n (paL c).length).length) := hD
  have HDL : Hid (∀ t, (dgA c n t).length ≤ 4 * t) := dgA_len c n
  rw [HCL.out] at HPA HKP ⊢
  clear hm hlc hc hpos hD
  go_enter Try.func7, Try.ntmps7
  go_wp2_with fail
  refine HPA.out.mono ?_
  rintro e w2 ⟨u, rfl, hfn, hb2⟩
  obtain ⟨m, hmm⟩ : ∃ m, m = (paL c).length := ⟨_, rfl⟩
  have HMM : Hid (m = (paL c).length) := hmm
  obtain ⟨uo, uc, hu⟩ : ∃ uo uc, u = .slice uo m uc := by
    obtain ⟨vs, g1, g2, g3⟩ := hfn
    obtain ⟨a, b, h⟩ := owns_form g2
    exact ⟨a, b, by rw [h, HPI.out]; simp [hmm]⟩
  subst hu
  have HMP : Hid (Mat 0 26 3 w2 (.slice uo m uc) ((paL c).map fun l => natsI (rsN n l))) := by
    rw [← HPI.out]
    exact fr_matRp hfn.fr
  have HB2 : Hid (Below w.heap.size w w2) := hb2
  have HSZ2 : Hid (w.heap.size ≤ w2.heap.size) := hb2.size
  have HM4 : m ≤ 4 := by rw [hmm]; exact HPL.out
  rw [← hmm] at HKP HDP
  clear hmm hfn hb2 HPA
  go_wp2
  go_loopw [3, 5] (fun lv iv wr => ∃ i : Nat, i ≤ m ∧ iv = .int .i64 i ∧ wr.ownsRow w2.heap.size 3 1 lv (dgA c n i).length (ints (dgA c n i)) ∧ Below w2.heap.size w2 wr) (fun _ iv _ => m - (intOf iv).toNat)
  case atStart => exact ⟨0, Nat.zero_le _, rfl, World.ownsRow_nil _ _ _ _, Below.refl _ _⟩
  case round =>
    obtain ⟨i, hi, rfl, hown, hbel⟩ := hrel
    have HB : Hid (Below w2.heap.size w2 wr) := hbel
    obtain ⟨lo, lc, hv⟩ := owns_form hown
    subst hv
    have iI0 : (0 : Int) ≤ (i : Int) := by omega
    have hEl := HDL.out i
    by_cases hlt : i < m
    · have iI : (i : Int) < (m : Int) := by omega
      have HE1 : Hid (dgA c n (i + 1) = dgA c n i ++ dgK (kdL.find? (kpB c (prN c n i)))) := rfl
      obtain ⟨fq, hfq, hfc⟩ := kd_find c (prN c n i)
      rw [← hfq] at HE1
      obtain ⟨E, hE⟩ : ∃ E, E = dgA c n i := ⟨_, rfl⟩
      rw [← hE] at hown HE1 hEl
      have HO : Hid (wr.ownsRow w2.heap.size 3 1 (.slice lo E.length lc) E.length (ints E)) := hE ▸ hown
      have hge : ((paL c).map fun l => natsI (rsN n l)).getD i [] = natsI (prN c n i) := by
        have := HMM.out
        simp [prN, show i < (paL c).length by omega]
      obtain ⟨b1, o1, c1, r1, hs1, _, hc1, hr1⟩ := mat_cell (HMP.out.below HB.out (Nat.le_refl _)) (k := i) (by rw [List.length_map, ← HMM.out]; exact hlt)
      rw [List.length_map, ← HMM.out] at hs1
      simp only [Value.slice.injEq, true_and] at hs1
      obtain ⟨rfl, rfl⟩ := hs1
      rw [hge] at hr1
      have HK1 := HKP.out wr i r1 hlt (HB2.out.trans (HB.out.mono HSZ2.out)) hr1
      obtain ⟨ro, rl, rc, rfl⟩ : ∃ ro rl rc, r1 = .slice ro rl rc := by
        obtain ⟨a, b, h, _⟩ := sl_open hr1
        exact ⟨a, _, b, h⟩
      have hks : kpS c (prN c n i) = kdS fq := by rw [hfq]; rfl
      rw [hks] at HK1
      obtain ⟨S, hS⟩ : ∃ S, S = kdS fq := ⟨_, rfl⟩
      rw [← hS] at HK1
      have HSS : Hid (S = kdS fq) := hS
      have HLE : Hid ((.slice lo (dgA c n i).length lc : Value) = .slice lo E.length lc) := by rw [hE]; rfl
      rw [HLE.out]
      clear hr1 hge hown hbel hfq hks hS hE HLE
      go_wp2_with fail
      refine HK1.mono ?_
      rintro e w3 ⟨rfl, hb3⟩
      have HB3 : Hid (Below w2.heap.size w2 w3) := HB.out.trans (hb3.mono HB.out.size)
      have HO3 : Hid (w3.ownsRow w2.heap.size 3 1 (.slice lo E.length lc) E.length (ints E)) := owns_below HO.out hb3 (Nat.le_refl _)
      have hsz3 : w2.heap.size ≤ w3.heap.size := HB3.out.size
      clear hb3 HK1 hc1
      have hf : fq = none ∨ fq = some (65, 49) ∨ fq = some (65, 50) ∨ fq = some (65, 51) ∨ fq = some (65, 52) ∨ fq = some (66, 50) ∨ fq = some (66, 51) ∨ fq = some (66, 52) ∨ fq = some (67, 51) ∨ fq = some (67, 52) ∨ fq = some (68, 52) ∨ fq = some (70, 52) ∨ fq = some (71, 50) := by
        simpa [kdL] using hfc
      clear hfc
      rcases hf with rfl | rfl | rfl | rfl | rfl | rfl | rfl | rfl | rfl | rfl | rfl | rfl | rfl
      · obtain rfl : S = ⟨#[]⟩ := HSS.out.trans rfl
        have HO4 : Hid (w3.ownsRow w2.heap.size 3 1 (.slice lo E.length lc) (dgA c n (i + 1)).length (ints (dgA c n (i + 1)))) := by
          rw [HE1.out]
          show World.ownsRow _ _ _ _ _ _ _
          simpa [dgK] using HO3.out
        go_wp2
        exact ⟨⟨i + 1, by omega, by go_num, HO4.out, HB3.out⟩, by simp [intOf]; omega⟩
      · obtain rfl : S = ⟨#[65, 49]⟩ := HSS.out.trans rfl
        go_wp2_with (first | (at_builtin; refine wpList_append_own _ rfl _ _ 26 rfl w2.heap.size 3 i3 (.int .i64 0) 1 8 Try.underlying26 hi3 hz30 hz31 hz32 rfl (by decide) _ _ _ rfl (HO3.out.alloc _) ⟨w3.heap.size, 0, none⟩ 1 1 [.int .i64 2] rfl rfl (many_new w3 #[.int .i64 2] 3) (many_int [2]) ?c3 ?c4 ?c5 ?_))
        case c3 => unfold maxLen; simp; omega
        case c4 => omega
        case c5 => simp; omega
        intro v4 w4 ho4 hg4 _
        obtain ⟨g4, cap4, hv4, _, _⟩ := ho4.form (by omega)
        subst hv4
        have HO4 : Hid (w4.ownsRow w2.heap.size 3 1 (.slice (some ⟨g4, 0, none⟩) (E.length + 1) cap4) (dgA c n (i + 1)).length (ints (dgA c n (i + 1)))) := by
          rw [HE1.out]
          show World.ownsRow _ _ _ _ _ _ _
          simpa [ints, dgK] using ho4
        have HB4 : Hid (Below w2.heap.size w2 w4) := (HB3.out.alloc hsz3 _).grown hg4 (by simp; omega) (fun x hx => (HO3.out.lt x hx).1)
        clear ho4 hg4
        go_wp2
        exact ⟨⟨i + 1, by omega, by go_num, HO4.out, HB4.out⟩, by simp [intOf]; omega⟩
      · obtain rfl : S = ⟨#[65, 50]⟩ := HSS.out.trans rfl
        go_wp2_with (first | (at_builtin; refine wpList_append_own _ rfl _ _ 26 rfl w2.heap.size 3 i3 (.int .i64 0) 1 8 Try.underlying26 hi3 hz30 hz31 hz32 rfl (by decide) _ _ _ rfl (HO3.out.alloc _) ⟨w3.heap.size, 0, none⟩ 2 2 [.int .i64 2, .int .i64 3] rfl rfl (many_new w3 #[.int .i64 2, .int .i64 3] 3) (many_int [2, 3]) ?c3 ?c4 ?c5 ?_))
        case c3 => unfold maxLen; simp; omega
        case c4 => omega
        case c5 => simp; omega
        intro v4 w4 ho4 hg4 _
        obtain ⟨g4, cap4, hv4, _, _⟩ := ho4.form (by omega)
        subst hv4
        have HO4 : Hid (w4.ownsRow w2.heap.size 3 1 (.slice (some ⟨g4, 0, none⟩) (E.length + 2) cap4) (dgA c n (i + 1)).length (ints (dgA c n (i + 1)))) := by
          rw [HE1.out]
          show World.ownsRow _ _ _ _ _ _ _
          simpa [ints, dgK] using ho4
        have HB4 : Hid (Below w2.heap.size w2 w4) := (HB3.out.alloc hsz3 _).grown hg4 (by simp; omega) (fun x hx => (HO3.out.lt x hx).1)
        clear ho4 hg4
        go_wp2
        exact ⟨⟨i + 1, by omega, by go_num, HO4.out, HB4.out⟩, by simp [intOf]; omega⟩
      · obtain rfl : S = ⟨#[65, 51]⟩ := HSS.out.trans rfl
        go_wp2_with (first | (at_builtin; refine wpList_append_own _ rfl _ _ 26 rfl w2.heap.size 3 i3 (.int .i64 0) 1 8 Try.underlying26 hi3 hz30 hz31 hz32 rfl (by decide) _ _ _ rfl (HO3.out.alloc _) ⟨w3.heap.size, 0, none⟩ 3 3 [.int .i64 2, .int .i64 3, .int .i64 4] rfl rfl (many_new w3 #[.int .i64 2, .int .i64 3, .int .i64 4] 3) (many_int [2, 3, 4]) ?c3 ?c4 ?c5 ?_))
        case c3 => unfold maxLen; simp; omega
        case c4 => omega
        case c5 => simp; omega
        intro v4 w4 ho4 hg4 _
        obtain ⟨g4, cap4, hv4, _, _⟩ := ho4.form (by omega)
        subst hv4
        have HO4 : Hid (w4.ownsRow w2.heap.size 3 1 (.slice (some ⟨g4, 0, none⟩) (E.length + 3) cap4) (dgA c n (i + 1)).length (ints (dgA c n (i + 1)))) := by
          rw [HE1.out]
          show World.ownsRow _ _ _ _ _ _ _
          simpa [ints, dgK] using ho4
        have HB4 : Hid (Below w2.heap.size w2 w4) := (HB3.out.alloc hsz3 _).grown hg4 (by simp; omega) (fun x hx => (HO3.out.lt x hx).1)
        clear ho4 hg4
        go_wp2
        exact ⟨⟨i + 1, by omega, by go_num, HO4.out, HB4.out⟩, by simp [intOf]; omega⟩
      · obtain rfl : S = ⟨#[65, 52]⟩ := HSS.out.trans rfl
        go_wp2_with (first | (at_builtin; refine wpList_append_own _ rfl _ _ 26 rfl w2.heap.size 3 i3 (.int .i64 0) 1 8 Try.underlying26 hi3 hz30 hz31 hz32 rfl (by decide) _ _ _ rfl (HO3.out.alloc _) ⟨w3.heap.size, 0, none⟩ 4 4 [.int .i64 2, .int .i64 3, .int .i64 4, .int .i64 5] rfl rfl (many_new w3 #[.int .i64 2, .int .i64 3, .int .i64 4, .int .i64 5] 3) (many_int [2, 3, 4, 5]) ?c3 ?c4 ?c5 ?_))
        case c3 => unfold maxLen; simp; omega
        case c4 => omega
        case c5 => simp; omega
        intro v4 w4 ho4 hg4 _
        obtain ⟨g4, cap4, hv4, _, _⟩ := ho4.form (by omega)
        subst hv4
        have HO4 : Hid (w4.ownsRow w2.heap.size 3 1 (.slice (some ⟨g4, 0, none⟩) (E.length + 4) cap4) (dgA c n (i + 1)).length (ints (dgA c n (i + 1)))) := by
          rw [HE1.out]
          show World.ownsRow _ _ _ _ _ _ _
          simpa [ints, dgK] using ho4
        have HB4 : Hid (Below w2.heap.size w2 w4) := (HB3.out.alloc hsz3 _).grown hg4 (by simp; omega) (fun x hx => (HO3.out.lt x hx).1)
        clear ho4 hg4
        go_wp2
        exact ⟨⟨i + 1, by omega, by go_num, HO4.out, HB4.out⟩, by simp [intOf]; omega⟩
      · obtain rfl : S = ⟨#[66, 50]⟩ := HSS.out.trans rfl
        go_wp2_with (first | (at_builtin; refine wpList_append_own _ rfl _ _ 26 rfl w2.heap.size 3 i3 (.int .i64 0) 1 8 Try.underlying26 hi3 hz30 hz31 hz32 rfl (by decide) _ _ _ rfl (HO3.out.alloc _) ⟨w3.heap.size, 0, none⟩ 2 2 [.int .i64 2, .int .i64 4] rfl rfl (many_new w3 #[.int .i64 2, .int .i64 4] 3) (many_int [2, 4]) ?c3 ?c4 ?c5 ?_))
        case c3 => unfold maxLen; simp; omega
        case c4 => omega
        case c5 => simp; omega
        intro v4 w4 ho4 hg4 _
        obtain ⟨g4, cap4, hv4, _, _⟩ := ho4.form (by omega)
        subst hv4
        have HO4 : Hid (w4.ownsRow w2.heap.size 3 1 (.slice (some ⟨g4, 0, none⟩) (E.length + 2) cap4) (dgA c n (i + 1)).length (ints (dgA c n (i + 1)))) := by
          rw [HE1.out]
          show World.ownsRow _ _ _ _ _ _ _
          simpa [ints, dgK] using ho4
        have HB4 : Hid (Below w2.heap.size w2 w4) := (HB3.out.alloc hsz3 _).grown hg4 (by simp; omega) (fun x hx => (HO3.out.lt x hx).1)
        clear ho4 hg4
        go_wp2
        exact ⟨⟨i + 1, by omega, by go_num, HO4.out, HB4.out⟩, by simp [intOf]; omega⟩
      · obtain rfl : S = ⟨#[66, 51]⟩ := HSS.out.trans rfl
        go_wp2_with (first | (at_builtin; refine wpList_append_own _ rfl _ _ 26 rfl w2.heap.size 3 i3 (.int .i64 0) 1 8 Try.underlying26 hi3 hz30 hz31 hz32 rfl (by decide) _ _ _ rfl (HO3.out.alloc _) ⟨w3.heap.size, 0, none⟩ 3 3 [.int .i64 2, .int .i64 4, .int .i64 6] rfl rfl (many_new w3 #[.int .i64 2, .int .i64 4, .int .i64 6] 3) (many_int [2, 4, 6]) ?c3 ?c4 ?c5 ?_))
        case c3 => unfold maxLen; simp; omega
        case c4 => omega
        case c5 => simp; omega
        intro v4 w4 ho4 hg4 _
        obtain ⟨g4, cap4, hv4, _, _⟩ := ho4.form (by omega)
        subst hv4
        have HO4 : Hid (w4.ownsRow w2.heap.size 3 1 (.slice (some ⟨g4, 0, none⟩) (E.length + 3) cap4) (dgA c n (i + 1)).length (ints (dgA c n (i + 1)))) := by
          rw [HE1.out]
          show World.ownsRow _ _ _ _ _ _ _
          simpa [ints, dgK] using ho4
        have HB4 : Hid (Below w2.heap.size w2 w4) := (HB3.out.alloc hsz3 _).grown hg4 (by simp; omega) (fun x hx => (HO3.out.lt x hx).1)
        clear ho4 hg4
        go_wp2
        exact ⟨⟨i + 1, by omega, by go_num, HO4.out, HB4.out⟩, by simp [intOf]; omega⟩
      · obtain rfl : S = ⟨#[66, 52]⟩ := HSS.out.trans rfl
        go_wp2_with (first | (at_builtin; refine wpList_append_own _ rfl _ _ 26 rfl w2.heap.size 3 i3 (.int .i64 0) 1 8 Try.underlying26 hi3 hz30 hz31 hz32 rfl (by decide) _ _ _ rfl (HO3.out.alloc _) ⟨w3.heap.size, 0, none⟩ 4 4 [.int .i64 2, .int .i64 4, .int .i64 6, .int .i64 8] rfl rfl (many_new w3 #[.int .i64 2, .int .i64 4, .int .i64 6, .int .i64 8] 3) (many_int [2, 4, 6, 8]) ?c3 ?c4 ?c5 ?_))
        case c3 => unfold maxLen; simp; omega
        case c4 => omega
        case c5 => simp; omega
        intro v4 w4 ho4 hg4 _
        obtain ⟨g4, cap4, hv4, _, _⟩ := ho4.form (by omega)
        subst hv4
        have HO4 : Hid (w4.ownsRow w2.heap.size 3 1 (.slice (some ⟨g4, 0, none⟩) (E.length + 4) cap4) (dgA c n (i + 1)).length (ints (dgA c n (i + 1)))) := by
          rw [HE1.out]
          show World.ownsRow _ _ _ _ _ _ _
          simpa [ints, dgK] using ho4
        have HB4 : Hid (Below w2.heap.size w2 w4) := (HB3.out.alloc hsz3 _).grown hg4 (by simp; omega) (fun x hx => (HO3.out.lt x hx).1)
        clear ho4 hg4
        go_wp2
        exact ⟨⟨i + 1, by omega, by go_num, HO4.out, HB4.out⟩, by simp [intOf]; omega⟩
      · obtain rfl : S = ⟨#[67, 51]⟩ := HSS.out.trans rfl
        go_wp2_with (first | (at_builtin; refine wpList_append_own _ rfl _ _ 26 rfl w2.heap.size 3 i3 (.int .i64 0) 1 8 Try.underlying26 hi3 hz30 hz31 hz32 rfl (by decide) _ _ _ rfl (HO3.out.alloc _) ⟨w3.heap.size, 0, none⟩ 3 3 [.int .i64 2, .int .i64 4, .int .i64 6] rfl rfl (many_new w3 #[.int .i64 2, .int .i64 4, .int .i64 6] 3) (many_int [2, 4, 6]) ?c3 ?c4 ?c5 ?_))
        case c3 => unfold maxLen; simp; omega
        case c4 => omega
        case c5 => simp; omega
        intro v4 w4 ho4 hg4 _
        obtain ⟨g4, cap4, hv4, _, _⟩ := ho4.form (by omega)
        subst hv4
        have HO4 : Hid (w4.ownsRow w2.heap.size 3 1 (.slice (some ⟨g4, 0, none⟩) (E.length + 3) cap4) (dgA c n (i + 1)).length (ints (dgA c n (i + 1)))) := by
          rw [HE1.out]
          show World.ownsRow _ _ _ _ _ _ _
          simpa [ints, dgK] using ho4
        have HB4 : Hid (Below w2.heap.size w2 w4) := (HB3.out.alloc hsz3 _).grown hg4 (by simp; omega) (fun x hx => (HO3.out.lt x hx).1)
        clear ho4 hg4
        go_wp2
        exact ⟨⟨i + 1, by omega, by go_num, HO4.out, HB4.out⟩, by simp [intOf]; omega⟩
      · obtain rfl : S = ⟨#[67, 52]⟩ := HSS.out.trans rfl
        go_wp2_with (first | (at_builtin; refine wpList_append_own _ rfl _ _ 26 rfl w2.heap.size 3 i3 (.int .i64 0) 1 8 Try.underlying26 hi3 hz30 hz31 hz32 rfl (by decide) _ _ _ rfl (HO3.out.alloc _) ⟨w3.heap.size, 0, none⟩ 4 4 [.int .i64 2, .int .i64 4, .int .i64 6, .int .i64 8] rfl rfl (many_new w3 #[.int .i64 2, .int .i64 4, .int .i64 6, .int .i64 8] 3) (many_int [2, 4, 6, 8]) ?c3 ?c4 ?c5 ?_))
        case c3 => unfold maxLen; simp; omega
        case c4 => omega
        case c5 => simp; omega
        intro v4 w4 ho4 hg4 _
        obtain ⟨g4, cap4, hv4, _, _⟩ := ho4.form (by omega)
        subst hv4
        have HO4 : Hid (w4.ownsRow w2.heap.size 3 1 (.slice (some ⟨g4, 0, none⟩) (E.length + 4) cap4) (dgA c n (i + 1)).length (ints (dgA c n (i + 1)))) := by
          rw [HE1.out]
          show World.ownsRow _ _ _ _ _ _ _
          simpa [ints, dgK] using ho4
        have HB4 : Hid (Below w2.heap.size w2 w4) := (HB3.out.alloc hsz3 _).grown hg4 (by simp; omega) (fun x hx => (HO3.out.lt x hx).1)
        clear ho4 hg4
        go_wp2
        exact ⟨⟨i + 1, by omega, by go_num, HO4.out, HB4.out⟩, by simp [intOf]; omega⟩
      · obtain rfl : S = ⟨#[68, 52]⟩ := HSS.out.trans rfl
        go_wp2_with (first | (at_builtin; refine wpList_append_own _ rfl _ _ 26 rfl w2.heap.size 3 i3 (.int .i64 0) 1 8 Try.underlying26 hi3 hz30 hz31 hz32 rfl (by decide) _ _ _ rfl (HO3.out.alloc _) ⟨w3.heap.size, 0, none⟩ 4 4 [.int .i64 2, .int .i64 4, .int .i64 4, .int .i64 6] rfl rfl (many_new w3 #[.int .i64 2, .int .i64 4, .int .i64 4, .int .i64 6] 3) (many_int [2, 4, 4, 6]) ?c3 ?c4 ?c5 ?_))
        case c3 => unfold maxLen; simp; omega
        case c4 => omega
        case c5 => simp; omega
        intro v4 w4 ho4 hg4 _
        obtain ⟨g4, cap4, hv4, _, _⟩ := ho4.form (by omega)
        subst hv4
        have HO4 : Hid (w4.ownsRow w2.heap.size 3 1 (.slice (some ⟨g4, 0, none⟩) (E.length + 4) cap4) (dgA c n (i + 1)).length (ints (dgA c n (i + 1)))) := by
          rw [HE1.out]
          show World.ownsRow _ _ _ _ _ _ _
          simpa [ints, dgK] using ho4
        have HB4 : Hid (Below w2.heap.size w2 w4) := (HB3.out.alloc hsz3 _).grown hg4 (by simp; omega) (fun x hx => (HO3.out.lt x hx).1)
        clear ho4 hg4
        go_wp2
        exact ⟨⟨i + 1, by omega, by go_num, HO4.out, HB4.out⟩, by simp [intOf]; omega⟩
      · obtain rfl : S = ⟨#[70, 52]⟩ := HSS.out.trans rfl
        go_wp2_with (first | (at_builtin; refine wpList_append_own _ rfl _ _ 26 rfl w2.heap.size 3 i3 (.int .i64 0) 1 8 Try.underlying26 hi3 hz30 hz31 hz32 rfl (by decide) _ _ _ rfl (HO3.out.alloc _) ⟨w3.heap.size, 0, none⟩ 4 4 [.int .i64 2, .int .i64 6, .int .i64 8, .int .i64 12] rfl rfl (many_new w3 #[.int .i64 2, .int .i64 6, .int .i64 8, .int .i64 12] 3) (many_int [2, 6, 8, 12]) ?c3 ?c4 ?c5 ?_))
        case c3 => unfold maxLen; simp; omega
        case c4 => omega
        case c5 => simp; omega
        intro v4 w4 ho4 hg4 _
        obtain ⟨g4, cap4, hv4, _, _⟩ := ho4.form (by omega)
        subst hv4
        have HO4 : Hid (w4.ownsRow w2.heap.size 3 1 (.slice (some ⟨g4, 0, none⟩) (E.length + 4) cap4) (dgA c n (i + 1)).length (ints (dgA c n (i + 1)))) := by
          rw [HE1.out]
          show World.ownsRow _ _ _ _ _ _ _
          simpa [ints, dgK] using ho4
        have HB4 : Hid (Below w2.heap.size w2 w4) := (HB3.out.alloc hsz3 _).grown hg4 (by simp; omega) (fun x hx => (HO3.out.lt x hx).1)
        clear ho4 hg4
        go_wp2
        exact ⟨⟨i + 1, by omega, by go_num, HO4.out, HB4.out⟩, by simp [intOf]; omega⟩
      · obtain rfl : S = ⟨#[71, 50]⟩ := HSS.out.trans rfl
        go_wp2_with (first | (at_builtin; refine wpList_append_own _ rfl _ _ 26 rfl w2.heap.size 3 i3 (.int .i64 0) 1 8 Try.underlying26 hi3 hz30 hz31 hz32 rfl (by decide) _ _ _ rfl (HO3.out.alloc _) ⟨w3.heap.size, 0, none⟩ 2 2 [.int .i64 2, .int .i64 6] rfl rfl (many_new w3 #[.int .i64 2, .int .i64 6] 3) (many_int [2, 6]) ?c3 ?c4 ?c5 ?_))
        case c3 => unfold maxLen; simp; omega
        case c4 => omega
        case c5 => simp; omega
        intro v4 w4 ho4 hg4 _
        obtain ⟨g4, cap4, hv4, _, _⟩ := ho4.form (by omega)
        subst hv4
        have HO4 : Hid (w4.ownsRow w2.heap.size 3 1 (.slice (some ⟨g4, 0, none⟩) (E.length + 2) cap4) (dgA c n (i + 1)).length (ints (dgA c n (i + 1)))) := by
          rw [HE1.out]
          show World.ownsRow _ _ _ _ _ _ _
          simpa [ints, dgK] using ho4
        have HB4 : Hid (Below w2.heap.size w2 w4) := (HB3.out.alloc hsz3 _).grown hg4 (by simp; omega) (fun x hx => (HO3.out.lt x hx).1)
        clear ho4 hg4
        go_wp2
        exact ⟨⟨i + 1, by omega, by go_num, HO4.out, HB4.out⟩, by simp [intOf]; omega⟩
    · have hie : i = m := by omega
      have HEN : Hid (dgA c n i = dgA c n (paL c).length) := by rw [hie, HMM.out]; exact rfl
      rw [hie] at hown hEl HEN
      have HEN2 : Hid (0 < (dgA c n m).length) := HDP.out
      have HGR : Hid (dgR c n = isA (dgA c n m) (dgA c n m).length) := by
        show _ = _
        rw [HEN.out]; rfl
      obtain ⟨E, hE⟩ : ∃ E, E = dgA c n m := ⟨_, rfl⟩
      rw [← hE] at hown HGR hEl HEN2
      have hpos := HEN2.out
      obtain ⟨g, gc, F, hu, hgB, hrow, hF, hgn, hgm⟩ := own_rw hown hpos
      have HV : Hid ((.slice lo (dgA c n i).length lc : Value) = .slice (some ⟨g, 0, none⟩) E.length gc) := by
        rw [hie, ← hE]; exact hu
      rw [HV.out]
      obtain ⟨w4, rfl⟩ : ∃ w4, w4 = wr := ⟨_, rfl⟩
      have HR0 : Hid (w4.rowIs g 3 gc (fun k => if k < E.length then .int .i64 ((isA E 0).getD k 0) else F k)) := World.rowIs.congr hrow fun k hk => by
        by_cases h : k < E.length
        · rw [if_pos h, hF k h]; rfl
        · rw [if_neg h]
      have HGB : Hid (w2.heap.size ≤ g) := hgB
      clear hu hown hbel hrow hF hgB hE HV hie
      go_wp2
      go_loopw [6] (fun iv wr => ∃ i : Nat, i ≤ E.length ∧ iv = .int .i64 i ∧ wr.rowIs g 3 gc (fun k => if k < E.length then .int .i64 ((isA E i).getD k 0) else F k) ∧ Only g w4 wr) (fun iv _ => E.length - (intOf iv).toNat)
      case atStart => exact ⟨0, Nat.zero_le _, rfl, HR0.out, Only.refl _ _⟩
      case round =>
        obtain ⟨i, hi, rfl, hri, hoi⟩ := hrel
        have HRI : Hid (wr.rowIs g 3 gc (fun k => if k < E.length then .int .i64 ((isA E i).getD k 0) else F k)) := hri
        have HOI : Hid (Only g w4 wr) := hoi
        clear hri hoi
        by_cases hlt : i < E.length
        · have HLI : Hid ((isA E i).length = E.length) := isA_len E i
          go_wp2
          go_loopw [7] (fun kv wr => ∃ (k : Nat) (L : List Int), k ≤ i ∧ kv = .int .i64 k ∧ L.length = E.length ∧ swK k L = isA E (i + 1) ∧ wr.rowIs g 3 gc (fun k => if k < E.length then .int .i64 (L.getD k 0) else F k) ∧ Only g w4 wr) (fun kv _ => (intOf kv).toNat)
          case atStart => exact ⟨i, isA E i, Nat.le_refl _, rfl, HLI.out, rfl, HRI.out, HOI.out⟩
          case round =>
            clear HRI HOI HLI
            obtain ⟨k, L, hk, rfl, hLl, hsw, hrk, hok⟩ := hrel
            have HRK : Hid (wr.rowIs g 3 gc (fun k => if k < E.length then .int .i64 (L.getD k 0) else F k)) := hrk
            have HOK : Hid (Only g w4 wr) := hok
            have HLL : Hid (L.length = E.length) := hLl
            have HSW : Hid (swK k L = isA E (i + 1)) := hsw
            clear hrk hok hLl hsw
            rcases k with _ | k'
            · have HRN : Hid (wr.rowIs g 3 gc (fun k => if k < E.length then .int .i64 ((isA E (i + 1)).getD k 0) else F k)) := by
                rw [← HSW.out]; exact HRK.out
              have HRD : Hid (∀ nq, (wr.drewN nq).rowIs g 3 gc (fun k => if k < E.length then .int .i64 ((isA E (i + 1)).getD k 0) else F k) ∧ Only g w4 (wr.drewN nq)) := fun nq => ⟨World.rowIs.of_block (w := wr) HRN.out rfl, only_drewN HOK.out nq⟩
              go_wp2
              go_big_quiet (fail)
              go_wp2
              exact ⟨⟨i + 1, by omega, by go_num, (HRD.out _).1, (HRD.out _).2⟩, by simp [intOf]; omega⟩
            · have HSX : Hid (swK (k' + 1) L = if L.getD (k' + 1) 0 < L.getD k' 0 then swK k' (swL L (k' + 1)) else L) := rfl
              have HSA : Hid (∀ j, (swL L (k' + 1)).getD j 0 = if j = k' then L.getD (k' + 1) 0 else if j = k' + 1 then L.getD k' 0 else L.getD j 0) := fun j => by
                rw [swL_at (by omega) (by rw [HLL.out]; omega), Nat.add_sub_cancel]
              have x0 := HRK.out.cell (i := k' + 1) (by omega)
              have x1 := HRK.out.cell (i := k') (by omega)
              rw [if_pos (by omega)] at x0 x1
              have f0 := HRK.out.frozen (k' + 1)
              have f1 := HRK.out.frozen k'
              obtain ⟨X, hX⟩ : ∃ X, X = L.getD (k' + 1) 0 := ⟨_, rfl⟩
              obtain ⟨Y, hY⟩ : ∃ Y, Y = L.getD k' 0 := ⟨_, rfl⟩
              rw [← hX] at x0
              rw [← hY] at x1
              rw [← hX, ← hY] at HSX
              have HXY : Hid (X = L.getD (k' + 1) 0 ∧ Y = L.getD k' 0) := ⟨hX, hY⟩
              have kI : ((k' + 1 : Nat) : Int) < (E.length : Int) := by omega
              have hKl : k' + 1 < E.length := by omega
              have hkl : k' < E.length := by omega
              clear hX hY
              by_cases hxy : X < Y
              · have ez : decide (X < Y) = true := decide_eq_true hxy
                have HS1 : Hid (swK k' (swL L (k' + 1)) = isA E (i + 1)) := by
                  show _ = _
                  have h1 := HSX.out
                  rw [if_pos hxy, HSW.out] at h1
                  rw [h1]
                have HSL : Hid ((swL L (k' + 1)).length = E.length) := by show _ = _; rw [swL_len, HLL.out]
                have HST : Hid (∀ nq, (((wr.drewN nq).setCell ⟨g, k' + 1, none⟩ (.int .i64 Y)).setCell ⟨g, k', none⟩ (.int .i64 X)).rowIs g 3 gc (fun k => if k < E.length then .int .i64 ((swL L (k' + 1)).getD k 0) else F k) ∧ Only g w4 (((wr.drewN nq).setCell ⟨g, k' + 1, none⟩ (.int .i64 Y)).setCell ⟨g, k', none⟩ (.int .i64 X))) := fun nq => by
                  refine ⟨World.rowIs.congr ((World.rowIs.set (World.rowIs.of_block (w := wr) (w' := wr.drewN nq) HRK.out rfl) (k' + 1) (.int .i64 Y)).set k' (.int .i64 X)) fun j _ => ?_, ((only_drewN HOK.out nq).set _ _).set _ _⟩
                  have hsa := HSA.out j
                  rw [hsa]
                  by_cases e1 : j = k'
                  · subst e1; rw [if_pos rfl, if_pos hkl, if_pos rfl, HXY.out.1]
                  · rw [if_neg e1, if_neg e1]
                    by_cases e2 : j = k' + 1
                    · subst e2; rw [if_pos rfl, if_pos hKl, if_pos rfl, HXY.out.2]
                    · rw [if_neg e2, if_neg e2]
                clear HRK HOK HLL HSW HSA HSX HXY
                go_wp2
                go_big_quiet (fail)
                go_wp2
                exact ⟨⟨k', _, by omega, by go_num, HSL.out, HS1.out, (HST.out _).1, (HST.out _).2⟩, by simp [intOf]; try omega⟩
              · have ez : decide (X < Y) = false := decide_eq_false hxy
                have HRN : Hid (∀ nq, (wr.drewN nq).rowIs g 3 gc (fun k => if k < E.length then .int .i64 ((isA E (i + 1)).getD k 0) else F k) ∧ Only g w4 (wr.drewN nq)) := fun nq => by
                  have h1 := HSX.out
                  rw [if_neg hxy, HSW.out] at h1
                  rw [h1]; exact ⟨World.rowIs.of_block (w := wr) HRK.out rfl, only_drewN HOK.out nq⟩
                clear HRK HOK HLL HSW HSA HSX HXY
                go_wp2
                go_big_quiet (fail)
                go_wp2
                exact ⟨⟨i + 1, by omega, by go_num, (HRN.out _).1, (HRN.out _).2⟩, by simp [intOf]; omega⟩
        · have hie : i = E.length := by omega
          have HOW : Hid (wr.ownsRow w.heap.size 3 1 (.slice (some ⟨g, 0, none⟩) E.length gc) (dgR c n).length (ints (dgR c n))) := by
            rw [HGR.out]
            have hlen := isA_len E E.length
            obtain ⟨cur, h1, h2, h3⟩ := HRI.out
            refine ⟨by rw [ints_length]; omega, .inr ⟨g, gc, cur, by rw [hlen], by have := HGB.out; have := HSZ2.out; omega, h1, by omega, by unfold maxLen; omega, by omega, ?_⟩⟩
            refine List.ext_getElem? fun t => ?_
            by_cases ht : t < E.length
            · rw [List.getElem?_take_of_lt (by omega), Array.getElem?_toList, h3 t (by omega), ints_get _ _ (by omega)]
              show some (if t < E.length then Value.int .i64 ((isA E i).getD t 0) else F t) = _
              rw [if_pos ht, hie]
            · rw [List.getElem?_eq_none (by simp; omega), List.getElem?_eq_none (by rw [ints_length]; omega)]
          have HBW : Hid (Below w.heap.size w wr) := by
            have hb4 := HB2.out.trans (HB.out.mono HSZ2.out)
            exact ⟨HOI.out.os.trans hb4.os, HOI.out.tape.trans hb4.tape, HOI.out.output.trans hb4.output, by rw [HOI.out.size]; exact hb4.size, fun a ha => (HOI.out.block a (by have := HGB.out; have := HSZ2.out; omega)).trans (hb4.block a ha)⟩
          go_wp2
          go_ret
          exact ⟨_, rfl, HOW.out, HBW.out⟩

end Go.Proofs.Ytkgljfnbaoncbaa
