import Derived.Test.YtknomkajibfmlaaGreatMgAR
import Derived.Test.YtknomkajibfmlaaGreatOrd3
/- The program's lists, sorted. -/
namespace Go.Proofs.YtknomkajibfmlaaGreat
open Go.Shelf Go.RowKit Go.Lib Go.Sort

theorem cmpL_self : ∀ x, cmpL x x = 0
  | [] => rfl
  | a :: x => by simp [cmpL, cmpL_self x]

theorem cmpL_trans : ∀ x y z, cmpL x y < 0 → cmpL y z < 0 → cmpL x z < 0
  | [], [], _, h, _ => by simp [cmpL] at h
  | [], b :: y, [], _, h => by simp [cmpL] at h
  | [], b :: y, c :: z, _, _ => by simp [cmpL]
  | a :: x, [], _, h, _ => by simp [cmpL] at h
  | a :: x, b :: y, [], _, h => by simp [cmpL] at h
  | a :: x, b :: y, c :: z, h1, h2 => by
    have ih := cmpL_trans x y z
    simp only [cmpL] at *
    split at h1 <;> split at h2 <;> split <;> (try split at h1) <;> (try split at h2) <;> (try split) <;> first | omega | (exact ih h1 h2)

theorem cmpL_ntrans : ∀ x y z, ¬ cmpL x y < 0 → ¬ cmpL y z < 0 → ¬ cmpL x z < 0
  | [], [], z, _, h => h
  | [], b :: y, _, h, _ => by simp [cmpL] at h
  | a :: x, [], [], _, _ => by simp [cmpL]
  | a :: x, [], c :: z, _, h => by simp [cmpL] at h
  | a :: x, b :: y, [], _, _ => by simp [cmpL]
  | a :: x, b :: y, c :: z, h1, h2 => by
    have ih := cmpL_ntrans x y z
    simp only [cmpL] at *
    split at h1 <;> split at h2 <;> split <;> (try split at h1) <;> (try split at h2) <;> (try split) <;> first | omega | (exact ih h1 h2)

/-- A list and the slice that reads so in w. -/
def RA (w : World) : Type := { p : Value × List Int // Sl 0 3 w p.1 (ints p.2) }

instance (w : World) : Inhabited (RA w) := ⟨⟨(.slice none 0 0, []), Sl.nil _ _ _⟩⟩

def RA.enc {w : World} (x : RA w) : Value := x.1.1
def RA.cf {w : World} (x y : RA w) : Int := cmpL x.1.2 y.1.2

theorem RA.swo (w : World) : SWO (ltOf (RA.cf (w := w))) where
  irrefl x := by simp [ltOf, RA.cf, cmpL_self]
  trans x y z h1 h2 := by
    exact decide_eq_true (cmpL_trans _ _ _ (of_decide_eq_true h1) (of_decide_eq_true h2))
  ntrans x y z h1 h2 := by
    exact decide_eq_false (cmpL_ntrans _ _ _ (of_decide_eq_false h1) (of_decide_eq_false h2))

theorem RA.one (w : World) : OneCell (RA.enc (w := w)) := fun x => by
  obtain ⟨ao, cap, h, _⟩ := x.2
  show x.1.1.oneCell' = true
  rw [h]; rfl

theorem sortWorld_block {α : Type} [Inhabited α] (enc : α → Value) (w : World) (g off q : Nat) (d : Array α) (os : Array Obj) (b : Nat) (hb : b < w.heap.size) (hne : b ≠ g) : (sortWorld enc w g off q d os).heap[b]? = w.heap[b]? := by
  show ((w.heap.modify g _) ++ os)[b]? = _
  rw [Array.getElem?_append_left (by simpa using hb), Array.getElem?_modify, if_neg (fun e => hne e.symm)]

theorem sortWorld_size {α : Type} [Inhabited α] (enc : α → Value) (w : World) (g off q : Nat) (d : Array α) (os : Array Obj) : w.heap.size ≤ (sortWorld enc w g off q d os).heap.size := by
  show w.heap.size ≤ ((w.heap.modify g _) ++ os).size
  simp

theorem sortWorld_sl {α : Type} [Inhabited α] {enc : α → Value} {w : World} {g off q : Nat} {d : Array α} {os : Array Obj} {cur : Array Value} {v : Value} {xs : List Value} (hg : w.heap[g]? = some (.cells cur 38 (0, 0))) (h : Sl 0 3 w v xs) : Sl 0 3 (sortWorld enc w g off q d os) v xs :=
  h.move fun b hl ht => by
    rcases ht with ht | ⟨c, ht⟩
    · omega
    · have hne : b ≠ g := by
        rintro rfl
        rw [hg] at ht
        simp at ht
      exact ⟨sortWorld_block _ _ _ _ _ _ _ b hl hne, Or.inr ⟨c, ht⟩⟩

theorem sortWorld_row {α : Type} [Inhabited α] (enc : α → Value) (w : World) (g q cap : Nat) (d : Array α) (os : Array Obj) (f : Nat → Value) (h : w.rowIs g 38 cap f) : (sortWorld enc w g 0 q d os).rowIs g 38 cap (fun k => if k < d.size then enc d[k]! else f k) := by
  obtain ⟨c, h1, h2, h3⟩ := h
  have hl := lt_of_block h1
  refine ⟨putCells enc 0 d c, ?_, by simp [putCells, h2], fun i hi => ?_⟩
  · show ((w.heap.modify g _) ++ os)[g]? = _
    rw [Array.getElem?_append_left (by simpa using hl), Array.getElem?_modify, if_pos rfl, h1]
    rfl
  · unfold putCells
    rw [Array.getElem?_mapIdx, h3 i hi]
    simp

theorem ra_at {w : World} (d : Array (RA w)) {i : Nat} (h : i < d.size) : (d.toList.map (fun x : RA w => x.1.2)).getD i [] = (d[i]!).1.2 := by
  rw [getElem!_pos d i h, List.getD_eq_getElem?_getD, List.getElem?_map, List.getElem?_eq_getElem (by simpa using h)]
  rfl

set_option maxRecDepth 100000 in
set_option maxHeartbeats 1000000 in
theorem sort_any (B : Nat) (m : List (List Int)) (v : Value) (w : World) (hv : Fr B 38 3 w v m) (hm : m.length ≤ 2000000000000) :
    Calls Tryz.prog 63 #[v, .func (.func 64) #[] #[]] w fun e w' => e = .returned (.tuple #[]) ∧ ∃ m' : List (List Int), m'.Perm m ∧ (∀ i j, i < j → j < m'.length → ¬ cmpL (m'.getD j []) (m'.getD i []) < 0) ∧ Fr B 38 3 w' v m' ∧ Below B w w' := by
  by_cases h0 : m.length = 0
  · have hm0 : m = [] := List.eq_nil_of_length_eq_zero h0
    subst hm0
    obtain ⟨ao, cap, hvv, _, _⟩ := mat_open (hv.rws.mat (Nat.le_refl _))
    subst hvv
    have hcon := AnyF.slices_SortFunc_none (P := Tryz.prog) (ρ := Tryz.sortM_ren) { Tryz.sortM with } ao cap (.func (.func 64) #[] #[]) w
    change Calls Tryz.prog 63 _ _ _ at hcon
    refine hcon.mono ?_
    rintro e w' ⟨rfl, rfl⟩
    exact ⟨rfl, [], List.Perm.refl _, fun i j _ h => absurd h (by simp), hv, Below.refl _ _⟩
  · obtain ⟨g, cap, f, hvv, hBg, hgw, hrm⟩ := hv.rowM (by omega)
    subst hvv
    obtain ⟨cur, hcur, _⟩ := hrm.row
    obtain ⟨d, hd⟩ : ∃ d : Array (RA w), d = Array.ofFn (fun i : Fin m.length => (⟨(f i, m.getD i []), hrm.inn i i.2⟩ : RA w)) := ⟨_, rfl⟩
    have hds : d.size = m.length := by rw [hd]; exact Array.size_ofFn
    have hdi : ∀ j (hj : j < m.length), d[j]! = (⟨(f j, m.getD j []), hrm.inn j hj⟩ : RA w) := fun j hj => by
      rw [getElem!_pos d j (by omega)]
      subst hd
      exact Array.getElem_ofFn _
    have hH : Holds (RA.enc (w := w)) w g 0 d := fun j hj => by
      rw [hds] at hj
      rw [hdi j hj, Nat.zero_add]
      exact ⟨hrm.cell (Nat.lt_of_lt_of_le hj hrm.cap1), hrm.row.frozen j⟩
    have eg : ∀ args w, (callFunc 64 args).run Tryz.prog w = .ok (.enter 64 args) w := enters_of Tryz.func64 (by kernel_rfl) rfl
    have hcmp : CmpReads Tryz.prog 64 #[] (RA.enc (w := w)) RA.cf g 0 d.size w := fun q os dk _ x y =>
      (compare_any 0 x.1.2 y.1.2 x.1.1 y.1.1 _ (sortWorld_sl hcur x.2) (sortWorld_sl hcur y.2)).mono fun e w' ⟨he, hw⟩ => ⟨he, 0, hw⟩
    have hcon := Any.slices_SortFunc Tryz.sortM (RA.enc (w := w)) (RA.one w) RA.cf (RA.swo w) 64 #[] g 0 cap d w eg hcmp.lays hH hgw (by omega)
    change Calls Tryz.prog 63 _ _ _ at hcon
    rw [hds] at hcon
    refine hcon.mono ?_
    rintro e w' ⟨rfl, d', q, os, ⟨hp1, hp2, hp3⟩, hs, rfl⟩
    have hd's : d'.size = m.length := by omega
    refine ⟨rfl, d'.toList.map (fun x => x.1.2), ?_, ?_, ?_, ?_⟩
    · have e1 : (d'.extract 0 m.length).toList = d'.toList := by rw [Array.toList_extract]; simp; exact List.take_of_length_le (by simp; omega)
      have e2 : (d.extract 0 m.length).toList = d.toList := by rw [Array.toList_extract]; simp; exact List.take_of_length_le (by simp; omega)
      rw [e1, e2] at hp3
      have hm' : d.toList.map (fun x : RA w => x.1.2) = m := by
        apply List.ext_getElem (by simp [hds])
        intro i h1 h2
        have h3 := ra_at d (i := i) (by omega)
        rw [hdi i h2] at h3
        have h4 : (d.toList.map (fun x : RA w => x.1.2)).getD i [] = (d.toList.map (fun x : RA w => x.1.2))[i] := by rw [List.getD_eq_getElem?_getD, List.getElem?_eq_getElem h1]; rfl
        have h5 : m.getD i [] = m[i] := by rw [List.getD_eq_getElem?_getD, List.getElem?_eq_getElem h2]; rfl
        rw [← h4, h3, ← h5]
      rw [← hm']
      exact hp3.map _
    · intro i j hij hj
      have hj' : j < m.length := by simpa [hd's] using hj
      have h := hs i j (Nat.zero_le _) hij hj'
      have h := of_decide_eq_false h
      rw [ra_at d' (by omega), ra_at d' (by omega)]; exact h
    · have hlen : (d'.toList.map (fun x : RA w => x.1.2)).length = m.length := by simp [hd's]
      have hr' : RowM (sortWorld (RA.enc (w := w)) w g 0 q d' os) g cap (fun k => if k < d'.size then RA.enc d'[k]! else f k) (d'.toList.map (fun x => x.1.2)) := by
        refine ⟨sortWorld_row _ _ _ _ _ _ _ _ hrm.row, by rw [hlen]; exact hrm.cap1, hrm.cap2, fun i hi => ?_⟩
        rw [hlen] at hi
        simp only [show i < d'.size by omega, if_true]
        rw [ra_at d' (by omega)]
        exact sortWorld_sl hcur (d'[i]!).2
      have := hr'.fr hBg
      rw [hlen] at this
      exact this
    · exact ⟨rfl, rfl, rfl, sortWorld_size _ _ _ _ _ _ _, fun b hb => sortWorld_block _ _ _ _ _ _ _ b (by omega) (by omega)⟩

end Go.Proofs.YtknomkajibfmlaaGreat

/- In order, each once; the rows around points. -/
namespace Go.Proofs.YtknomkajibfmlaaGreat
open Go.RowKit
attribute [local go_sem ↓] Go.wp_at_zero Go.wp_at_succ

theorem compL_len (m : List (List Int)) : (compL m).length ≤ m.length := by
  unfold compL
  rw [List.length_map]; exact keptI_len _ _

/-- No later one is ahead of an earlier one. -/
def Asc (m : List (List Int)) : Prop := ∀ i j, i < j → j < m.length → ¬ cmpL (m.getD j []) (m.getD i []) < 0

/-- In order, each once: the same lists. -/
structure Inor (m' m : List (List Int)) : Prop where
  mem : ∀ r, r ∈ m' ↔ r ∈ m
  len : m'.length ≤ m.length
  srt : ∃ m0 : List (List Int), m0.Perm m ∧ Asc m0 ∧ m' = compL m0

theorem fr_open {B : Nat} {w : World} {v : Value} {m : List (List Int)} (h : Fr B 38 3 w v m) : ∃ ao cap, v = .slice ao m.length cap ∧ m.length ≤ cap ∧ cap ≤ 9223372036854775807 := mat_open (h.rws.mat (Nat.le_refl _))

set_option maxRecDepth 100000 in
set_option maxHeartbeats 400000 in
theorem inOrder_any (B : Nat) (m : List (List Int)) (v : Value) (w : World) (hv : Fr B 38 3 w v m) (hm : m.length ≤ 2000000000000) :
    Calls Tryz.prog 45 #[v] w fun e w' => ∃ u m', e = .returned u ∧ Fr B 38 3 w' u m' ∧ Inor m' m ∧ Below B w w' := by
  obtain ⟨ao, cap, hvv, hlc, hcm⟩ := fr_open hv
  subst hvv
  have HV : Hid (Fr B 38 3 w (.slice ao m.length cap) m) := hv
  clear hv
  go_enter Tryz.func45, Tryz.ntmps45
  go_wp2_with fail
  refine (sort_any B m _ w HV.out hm).mono ?_
  rintro e w1 ⟨rfl, m1, hp, hs, hf, hb⟩
  have HP : Hid (m1.Perm m) := hp
  have HS : Hid (Asc m1) := hs
  have HF : Hid (Fr B 38 3 w1 (.slice ao m.length cap) m1) := hf
  have HB : Hid (Below B w w1) := hb
  clear hp hs hf hb
  go_wp2_with fail
  refine (compact_any B m1 _ w1 HF.out (by rw [HP.out.length_eq]; exact hm)).mono ?_
  rintro e w2 ⟨u, rfl, hf2, hb2⟩
  obtain ⟨uo, uc, huu, _, _⟩ := fr_open hf2
  subst huu
  have HF2 : Hid (Fr B 38 3 w2 (.slice uo (compL m1).length uc) (compL m1)) := hf2
  have HB2 : Hid (Below B w w2) := HB.out.trans hb2
  have HIN : Hid (Inor (compL m1) m) := ⟨fun r => by rw [mem_compL]; exact HP.out.mem_iff, by rw [← HP.out.length_eq]; exact compL_len _, m1, HP.out, HS.out, rfl⟩
  clear hf2 hb2
  generalize hgl : (compL m1).length = gl at *
  go_wp2
  go_ret
  exact ⟨_, compL m1, rfl, HF2.out, HIN.out, HB2.out⟩

end Go.Proofs.YtknomkajibfmlaaGreat
