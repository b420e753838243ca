import Derived.Test.YtkgljfnbaoncbaaMgAO
import Derived.Test.YtkgljfnbaoncbaaMgAE
import Derived.Test.YtkgljfnbaoncbaaMgAI
/- The roots, sorted by heights. -/
namespace Go.Proofs.Ytkgljfnbaoncbaa
open Go.Shelf Go.RowKit Go.Lib Go.Sort

theorem cmpL_selfH : ∀ x, cmpL x x = 0
  | [] => rfl
  | a :: x => by simp [cmpL, cmpL_selfH x]

theorem cmpL_transH : ∀ x y z, cmpL x y < 0 → cmpL y z < 0 → cmpL x z < 0
  | [], [], _, h, _ => by simp [cmpL] at h
  | [], b :: y, [], _, h => by simp [cmpL] at h
  | [], b :: y, c :: z, _, _ => by simp [cmpL]
  | a :: x, [], _, h, _ => by simp [cmpL] at h
  | a :: x, b :: y, [], _, h => by simp [cmpL] at h
  | a :: x, b :: y, c :: z, h1, h2 => by
    have ih := cmpL_transH x y z
    simp only [cmpL] at *
    split at h1 <;> split at h2 <;> split <;> (try split at h1) <;> (try split at h2) <;> (try split) <;> first | omega | (exact ih h1 h2)

theorem cmpL_ntransH : ∀ x y z, ¬ cmpL x y < 0 → ¬ cmpL y z < 0 → ¬ cmpL x z < 0
  | [], [], z, _, h => h
  | [], b :: y, _, h, _ => by simp [cmpL] at h
  | a :: x, [], [], _, _ => by simp [cmpL]
  | a :: x, [], c :: z, _, h => by simp [cmpL] at h
  | a :: x, b :: y, [], _, _ => by simp [cmpL]
  | a :: x, b :: y, c :: z, h1, h2 => by
    have ih := cmpL_ntransH x y z
    simp only [cmpL] at *
    split at h1 <;> split at h2 <;> split <;> (try split at h1) <;> (try split at h2) <;> (try split) <;> first | omega | (exact ih h1 h2)

def SmX (x : List Int) : Prop := x.length ≤ 1000 ∧ ∀ z ∈ x, z.natAbs ≤ 1000000000

/-- A list and the slice that reads so in w. -/
def RH (w : World) : Type := { p : Value × List Int // Sl 0 3 w p.1 (ints p.2) ∧ SmX p.2 }

instance (w : World) : Inhabited (RH w) := ⟨⟨(.slice none 0 0, []), Sl.nil _ _ _, by decide, fun z hz => by simp at hz⟩⟩

def RH.enc {w : World} (x : RH w) : Value := x.1.1
def RH.cf {w : World} (x y : RH w) : Int := hcf x.1.2 y.1.2

theorem RH.swo (w : World) : SWO (ltOf (RH.cf (w := w))) where
  irrefl x := by
    refine decide_eq_false fun h => ?_
    rcases (hcf_lt _ _).1 h with h | ⟨_, h⟩
    · omega
    · rw [cmpL_selfH] at h; exact absurd h (by decide)
  trans x y z h1 h2 := by
    refine decide_eq_true ((hcf_lt _ _).2 ?_)
    rcases (hcf_lt _ _).1 (of_decide_eq_true h1) with a1 | ⟨a1, b1⟩ <;> rcases (hcf_lt _ _).1 (of_decide_eq_true h2) with a2 | ⟨a2, b2⟩
    · exact Or.inl (by omega)
    · exact Or.inl (by omega)
    · exact Or.inl (by omega)
    · exact Or.inr ⟨by omega, cmpL_transH _ _ _ b1 b2⟩
  ntrans x y z h1 h2 := by
    refine decide_eq_false fun h => ?_
    have g1 := fun k => of_decide_eq_false h1 ((hcf_lt _ _).2 k)
    have g2 := fun k => of_decide_eq_false h2 ((hcf_lt _ _).2 k)
    have p1 : ¬ x.1.2.sum < y.1.2.sum := fun k => g1 (Or.inl k)
    have p2 : ¬ y.1.2.sum < z.1.2.sum := fun k => g2 (Or.inl k)
    rcases (hcf_lt _ _).1 h with a | ⟨a, b⟩
    · omega
    · have e1 : x.1.2.sum = y.1.2.sum := by omega
      have e2 : y.1.2.sum = z.1.2.sum := by omega
      exact cmpL_ntransH _ _ _ (fun k => g1 (Or.inr ⟨e1, k⟩)) (fun k => g2 (Or.inr ⟨e2, k⟩)) b

theorem RH.one (w : World) : OneCell (RH.enc (w := w)) := fun x => by
  obtain ⟨ao, cap, h, _⟩ := x.2.1
  show x.1.1.oneCell' = true
  rw [h]; rfl

theorem sortWorldH_block {α : Type} [Inhabited α] (enc : α → Value) (w : World) (g off q : Nat) (d : Array α) (os : Array Obj) (b : Nat) (hb : b < w.heap.size) (hne : b ≠ g) : (sortWorld enc w g off q d os).heap[b]? = w.heap[b]? := by
  show ((w.heap.modify g _) ++ os)[b]? = _
  rw [Array.getElem?_append_left (by simpa using hb), Array.getElem?_modify, if_neg (fun e => hne e.symm)]

theorem sortWorldH_size {α : Type} [Inhabited α] (enc : α → Value) (w : World) (g off q : Nat) (d : Array α) (os : Array Obj) : w.heap.size ≤ (sortWorld enc w g off q d os).heap.size := by
  show w.heap.size ≤ ((w.heap.modify g _) ++ os).size
  simp

theorem sortWorldH_sl {α : Type} [Inhabited α] {enc : α → Value} {w : World} {g off q : Nat} {d : Array α} {os : Array Obj} {cur : Array Value} {v : Value} {xs : List Value} (hg : w.heap[g]? = some (.cells cur 26 (0, 0))) (h : Sl 0 3 w v xs) : Sl 0 3 (sortWorld enc w g off q d os) v xs :=
  h.move fun b hl ht => by
    rcases ht with ht | ⟨c, ht⟩
    · omega
    · have hne : b ≠ g := by
        rintro rfl
        rw [hg] at ht
        simp at ht
      exact ⟨sortWorldH_block _ _ _ _ _ _ _ b hl hne, Or.inr ⟨c, ht⟩⟩

theorem sortWorldH_row {α : Type} [Inhabited α] (enc : α → Value) (w : World) (g q cap : Nat) (d : Array α) (os : Array Obj) (f : Nat → Value) (h : w.rowIs g 26 cap f) : (sortWorld enc w g 0 q d os).rowIs g 26 cap (fun k => if k < d.size then enc d[k]! else f k) := by
  obtain ⟨c, h1, h2, h3⟩ := h
  have hl := lt_of_block h1
  refine ⟨putCells enc 0 d c, ?_, by simp [putCells, h2], fun i hi => ?_⟩
  · show ((w.heap.modify g _) ++ os)[g]? = _
    rw [Array.getElem?_append_left (by simpa using hl), Array.getElem?_modify, if_pos rfl, h1]
    rfl
  · unfold putCells
    rw [Array.getElem?_mapIdx, h3 i hi]
    simp

theorem rh_at {w : World} (d : Array (RH w)) {i : Nat} (h : i < d.size) : (d.toList.map (fun x : RH w => x.1.2)).getD i [] = (d[i]!).1.2 := by
  rw [getElem!_pos d i h, List.getD_eq_getElem?_getD, List.getElem?_map, List.getElem?_eq_getElem (by simpa using h)]
  rfl

/-- A row of rows in a block of its own, all its cells told. -/
structure RowK (w : World) (g cap : Nat) (f : Nat → Value) (m : List (List Int)) : Prop where
  row : w.rowIs g 26 cap f
  cap1 : m.length ≤ cap
  cap2 : cap ≤ 9223372036854775807
  inn : ∀ i, i < m.length → Sl 0 3 w (f i) (ints (m.getD i []))

theorem Fr.rowK {B : Nat} {w : World} {v : Value} {m : List (List Int)} (h : Fr B 26 3 w v m) (hm : 0 < m.length) : ∃ g cap f, v = .slice (some ⟨g, 0, none⟩) m.length cap ∧ B ≤ g ∧ g < w.heap.size ∧ RowK w g cap f m := by
  obtain ⟨vs, h1, h2, h3⟩ := h
  rcases h2.2 with ⟨_, h0⟩ | ⟨g, cap, cur, hv, hb, hh, hn, hc, hs, ht⟩
  · omega
  · refine ⟨g, cap, fun i => cur.toList.getD i (.slice none 0 0), hv, hb, lt_of_block hh, ⟨cur, hh, by omega, fun i hi => ?_⟩, hn, by unfold maxLen at hc; exact hc, fun i hi => ?_⟩
    · show cur[i]? = some (cur.toList.getD i (.slice none 0 0))
      rw [← Array.getElem?_toList, List.getD_eq_getElem?_getD, List.getElem?_eq_getElem (by simp; omega)]; rfl
    · have e : cur.toList.getD i (.slice none 0 0) = vs.getD i (.slice none 0 0) := by
        rw [← ht]
        simp only [List.getD_eq_getElem?_getD]
        rw [List.getElem?_take_of_lt (by omega)]
      rw [e]; exact h3 i hi

theorem RowK.fr {B : Nat} {w : World} {g cap : Nat} {f : Nat → Value} {m : List (List Int)} (h : RowK w g cap f m) (hB : B ≤ g) : Fr B 26 3 w (.slice (some ⟨g, 0, none⟩) m.length cap) m := by
  obtain ⟨⟨c, h1, h2, h3⟩, h4, h5, h6⟩ := h
  refine ⟨(List.range m.length).map f, by simp, ⟨by simp, Or.inr ⟨g, cap, c, rfl, hB, h1, h4, by unfold maxLen; exact h5, by omega, ?_⟩⟩, fun i hi => ?_⟩
  · apply List.ext_getElem?
    intro i
    by_cases hi : i < m.length
    · rw [List.getElem?_take_of_lt (by omega), Array.getElem?_toList, h3 i (by omega)]; simp [hi]
    · rw [List.getElem?_eq_none (by simp; omega), List.getElem?_eq_none (by simp; omega)]
  · have e : ((List.range m.length).map f).getD i (.slice none 0 0) = f i := by simp [hi]
    rw [e]; exact h6 i hi

set_option maxRecDepth 100000 in
set_option maxHeartbeats 1000000 in
theorem sortH_any (B : Nat) (m : List (List Int)) (v : Value) (w : World) (hv : Fr B 26 3 w v m) (h0 : 0 < m.length) (hm : m.length ≤ 1000000) (hbd : ∀ i, i < m.length → SmX (m.getD i [])) :
    Calls Try.prog 45 #[v, .func (.func 46) #[] #[]] w fun e w' => e = .returned (.tuple #[]) ∧ ∃ m' : List (List Int), m'.Perm m ∧ (∀ i j, i < j → j < m'.length → ¬ hcf (m'.getD j []) (m'.getD i []) < 0) ∧ Fr B 26 3 w' v m' ∧ Below B w w' := by
  obtain ⟨g, cap, f, hvv, hBg, hgw, hrm⟩ := hv.rowK (by omega)
  subst hvv
  obtain ⟨cur, hcur, _⟩ := hrm.row
  obtain ⟨d, hd⟩ : ∃ d : Array (RH w), d = Array.ofFn (fun i : Fin m.length => (⟨(f i, m.getD i []), hrm.inn i i.2, hbd i i.2⟩ : RH w)) := ⟨_, rfl⟩
  have hds : d.size = m.length := by rw [hd]; exact Array.size_ofFn
  have hdi : ∀ j (hj : j < m.length), d[j]! = (⟨(f j, m.getD j []), hrm.inn j hj, hbd j hj⟩ : RH w) := fun j hj => by
    rw [getElem!_pos d j (by omega)]
    subst hd
    exact Array.getElem_ofFn _
  have hH : Holds (RH.enc (w := w)) w g 0 d := fun j hj => by
    rw [hds] at hj
    rw [hdi j hj, Nat.zero_add]
    exact ⟨hrm.row.cell (Nat.lt_of_lt_of_le hj hrm.cap1), hrm.row.frozen j⟩
  have eg : ∀ args w, (callFunc 46 args).run Try.prog w = .ok (.enter 46 args) w := enters_of Try.func46 (by kernel_rfl) rfl
  have hcmp : CmpLays1 Try.prog 46 #[] (RH.enc (w := w)) RH.cf g 0 d.size w := fun q os dk _ x y =>
    (byHeight_any 0 x.1.2 y.1.2 x.1.1 y.1.1 _ (sortWorldH_sl hcur x.2.1) (sortWorldH_sl hcur y.2.1) x.2.2 y.2.2).mono fun e w' ⟨he, hw⟩ => ⟨he, 0, #[.cells #[.int .i64 (cmpI x.1.2.sum y.1.2.sum), .int .i64 (cmpL x.1.2 y.1.2)] 3 (0, 0)], by rw [hw]; rfl⟩
  have hcon := Any.slices_SortFunc Try.sortM (RH.enc (w := w)) (RH.one w) RH.cf (RH.swo w) 46 #[] g 0 cap d w eg hcmp hH hgw (by omega)
  change Calls Try.prog 45 _ _ _ at hcon
  rw [hds] at hcon
  refine hcon.mono ?_
  rintro e w' ⟨rfl, d', q, os, ⟨hp1, hp2, hp3⟩, hs, rfl⟩
  have hd's : d'.size = m.length := by omega
  refine ⟨rfl, d'.toList.map (fun x => x.1.2), ?_, ?_, ?_, ?_⟩
  · have e1 : (d'.extract 0 m.length).toList = d'.toList := by rw [Array.toList_extract]; simp; exact List.take_of_length_le (by simp; omega)
    have e2 : (d.extract 0 m.length).toList = d.toList := by rw [Array.toList_extract]; simp; exact List.take_of_length_le (by simp; omega)
    rw [e1, e2] at hp3
    have hm' : d.toList.map (fun x : RH w => x.1.2) = m := by
      apply List.ext_getElem (by simp [hds])
      intro i h1 h2
      have h3 := rh_at d (i := i) (by omega)
      rw [hdi i h2] at h3
      have h4 : (d.toList.map (fun x : RH w => x.1.2)).getD i [] = (d.toList.map (fun x : RH w => x.1.2))[i] := by rw [List.getD_eq_getElem?_getD, List.getElem?_eq_getElem h1]; rfl
      have h5 : m.getD i [] = m[i] := by rw [List.getD_eq_getElem?_getD, List.getElem?_eq_getElem h2]; rfl
      rw [← h4, h3, ← h5]
    rw [← hm']
    exact hp3.map _
  · intro i j hij hj
    have hj' : j < m.length := by simpa [hd's] using hj
    have h := hs i j (Nat.zero_le _) hij hj'
    have h := of_decide_eq_false h
    rw [rh_at d' (by omega), rh_at d' (by omega)]; exact h
  · have hlen : (d'.toList.map (fun x : RH w => x.1.2)).length = m.length := by simp [hd's]
    have hr' : RowK (sortWorld (RH.enc (w := w)) w g 0 q d' os) g cap (fun k => if k < d'.size then RH.enc d'[k]! else f k) (d'.toList.map (fun x => x.1.2)) := by
      refine ⟨sortWorldH_row _ _ _ _ _ _ _ _ hrm.row, by rw [hlen]; exact hrm.cap1, hrm.cap2, fun i hi => ?_⟩
      rw [hlen] at hi
      simp only [show i < d'.size by omega, if_true]
      rw [rh_at d' (by omega)]
      exact sortWorldH_sl hcur (d'[i]!).2.1
    have := hr'.fr hBg
    rw [hlen] at this
    exact this
  · exact ⟨rfl, rfl, rfl, sortWorldH_size _ _ _ _ _ _ _, fun b hb => sortWorldH_block _ _ _ _ _ _ _ b (by omega) (by omega)⟩

end Go.Proofs.Ytkgljfnbaoncbaa

/- Heights, degrees and lengths, pure. -/
namespace Go.Proofs.Ytkgljfnbaoncbaa

def hgN (b : List Int) : Nat := b.sum.toNat

/-- A list, made longer by 0s till it has a place. -/
def lng (M : List Int) (h : Nat) : List Int := M ++ List.replicate (h + 1 - M.length) 0

/-- One more at a place. -/
def bmp (M : List Int) (h : Nat) : List Int := (lng M h).set h ((lng M h).getD h 0 + 1)

/-- How many there are of each height. -/
def ohL (R : List (List Int)) : List Int := R.foldl (fun M b => bmp M (hgN b)) []

theorem lng_len (M : List Int) (h : Nat) : (lng M h).length = max M.length (h + 1) := by
  simp [lng]; omega

theorem app_zero (M : List Int) (k j : Nat) : (M ++ List.replicate k 0).getD j 0 = M.getD j 0 := by
  by_cases h1 : j < M.length
  · simp [List.getElem?_append_left h1]
  · rw [List.getD_eq_getElem?_getD, List.getD_eq_getElem?_getD, List.getElem?_append_right (by omega), List.getElem?_eq_none (l := M) (by omega)]
    by_cases h2 : j - M.length < k
    · rw [List.getElem?_replicate_of_lt h2]; rfl
    · rw [List.getElem?_eq_none (by simp; omega)]

theorem lng_at (M : List Int) (h j : Nat) : (lng M h).getD j 0 = M.getD j 0 := app_zero M _ j

theorem bmp_len (M : List Int) (h : Nat) : (bmp M h).length = max M.length (h + 1) := by
  unfold bmp; rw [List.length_set, lng_len]

theorem set_at (l : List Int) (h j : Nat) (x : Int) (hh : h < l.length) : (l.set h x).getD j 0 = if j = h then x else l.getD j 0 := by
  by_cases e : j = h
  · subst e; rw [if_pos rfl]; simp [hh]
  · rw [if_neg e, List.getD_eq_getElem?_getD, List.getElem?_set_ne (fun e2 => e e2.symm), ← List.getD_eq_getElem?_getD]

theorem bmp_at (M : List Int) (h j : Nat) : (bmp M h).getD j 0 = M.getD j 0 + if j = h then 1 else 0 := by
  unfold bmp
  rw [set_at _ _ _ _ (by rw [lng_len]; omega), lng_at, lng_at]
  by_cases e : j = h
  · subst e; rw [if_pos rfl, if_pos rfl]
  · rw [if_neg e, if_neg e]; omega

theorem bmp_comm (M : List Int) (h k : Nat) : bmp (bmp M h) k = bmp (bmp M k) h := by
  refine list_ext (n := (bmp (bmp M h) k).length) rfl (by simp only [bmp_len]; omega) fun j _ => ?_
  rw [bmp_at, bmp_at, bmp_at, bmp_at]; omega

theorem ohL_perm {m m' : List (List Int)} (h : m'.Perm m) : ohL m' = ohL m :=
  List.Perm.foldl_eq' h (fun x _ y _ z => bmp_comm z (hgN x) (hgN y)) []

theorem ohL_snoc (m : List (List Int)) (k : Nat) (hk : k < m.length) : ohL (m.take (k + 1)) = bmp (ohL (m.take k)) (hgN (m.getD k [])) := by
  have e : m.getD k [] = m[k] := by simp [hk]
  unfold ohL
  rw [List.take_succ_eq_append_getElem hk, List.foldl_append, e]; rfl

theorem ohL_bd (m : List (List Int)) : ∀ k, k ≤ m.length → ∀ j, 0 ≤ (ohL (m.take k)).getD j 0 ∧ (ohL (m.take k)).getD j 0 ≤ k
  | 0, _, j => by simp [ohL]
  | k + 1, hk, j => by
    have := ohL_bd m k (by omega) j
    rw [ohL_snoc m k (by omega), bmp_at]
    split <;> omega

theorem ohL_lb (m : List (List Int)) {H : Nat} (hH : ∀ b ∈ m, hgN b ≤ H) : ∀ k, k ≤ m.length → (ohL (m.take k)).length ≤ H + 1
  | 0, _ => by simp [ohL]
  | k + 1, hk => by
    have h1 := ohL_lb m hH k (by omega)
    have e : m.getD k [] = m[k] := by simp [show k < m.length by omega]
    have h2 := hH (m.getD k []) (by rw [e]; exact List.getElem_mem _)
    rw [ohL_snoc m k (by omega), bmp_len]
    omega

/-- Degrees, by counts of heights. -/
def dgF (n : Nat) (M : List Int) : Nat → Nat → Int
  | 0, _ => 1
  | k + 1, j => dgF n M k j + if n - 1 - j < (M.getD k 0).toNat then 1 else 0

def dgL (n : Nat) (M : List Int) : List Int := (List.range n).map (dgF n M M.length)

theorem dgF_bd (n : Nat) (M : List Int) : ∀ k j, 1 ≤ dgF n M k j ∧ dgF n M k j ≤ k + 1
  | 0, _ => by simp [dgF]
  | k + 1, j => by
    have := dgF_bd n M k j
    show 1 ≤ dgF n M k j + (if n - 1 - j < (M.getD k 0).toNat then 1 else 0) ∧ dgF n M k j + (if n - 1 - j < (M.getD k 0).toNat then 1 else 0) ≤ ((k + 1 : Nat) : Int) + 1
    split <;> omega

/-- A product with 1 + t + .. -/
def spF (p : List Int) (d : Nat) : Nat → Nat → Int
  | 0, _ => 0
  | i + 1, j => spF p d i j + if i ≤ j ∧ j < i + d then p.getD i 0 else 0

def spr (p : List Int) (d : Nat) : List Int := (List.range (p.length + d - 1)).map (spF p d p.length)

theorem spF_bd {p : List Int} {B : Int} (hB : 0 ≤ B) (hp : ∀ x ∈ p, 0 ≤ x ∧ x ≤ B) (d : Nat) : ∀ i j, 0 ≤ spF p d i j ∧ spF p d i j ≤ B * i
  | 0, _ => by simp [spF]
  | i + 1, j => by
    have h1 := spF_bd hB hp d i j
    have h2 : 0 ≤ p.getD i 0 ∧ p.getD i 0 ≤ B := by
      by_cases hi : i < p.length
      · have e : p.getD i 0 = p[i] := by simp [hi]
        rw [e]; exact hp _ (List.getElem_mem _)
      · rw [List.getD_eq_getElem?_getD, List.getElem?_eq_none (by omega)]
        exact ⟨Int.le_refl _, hB⟩
    show 0 ≤ spF p d i j + (if i ≤ j ∧ j < i + d then p.getD i 0 else 0) ∧ spF p d i j + (if i ≤ j ∧ j < i + d then p.getD i 0 else 0) ≤ B * ((i + 1 : Nat) : Int)
    have e : B * ((i + 1 : Nat) : Int) = B * i + B := by rw [Int.natCast_add, Int.mul_add]; simp
    rw [e]
    split <;> omega

def lnL (d : List Int) : List Int := d.foldl (fun p x => spr p x.toNat) [1]

def pdL (d : List Int) : Int := d.foldl (· * ·) 1

theorem lnL_snoc (d : List Int) (k : Nat) (hk : k < d.length) : lnL (d.take (k + 1)) = spr (lnL (d.take k)) (d.getD k 0).toNat := by
  have e : d.getD k 0 = d[k] := by simp [hk]
  unfold lnL
  rw [List.take_succ_eq_append_getElem hk, List.foldl_append, e]; rfl

/-- What is to be seen of the counts of heights. -/
def DgP (n : Nat) (M : List Int) (N : Nat) : Prop :=
  (∀ m ∈ M, 0 ≤ m ∧ m ≤ n) ∧ M.length ≤ 100 ∧ (∀ x ∈ dgL n M, 1 ≤ x ∧ x ≤ 30) ∧
  (∀ k, k < n + 1 → (lnL ((dgL n M).take k)).length ≤ 100 ∧ 1 ≤ (lnL ((dgL n M).take k)).length ∧ (∀ x ∈ lnL ((dgL n M).take k), 0 ≤ x ∧ x ≤ 2000) ∧ 0 ≤ pdL ((dgL n M).take k) ∧ pdL ((dgL n M).take k) ≤ 2000) ∧
  (lnL (dgL n M)).length = N + 1 ∧ (∀ i, i < (lnL (dgL n M)).length → (lnL (dgL n M)).getD i 0 = (lnL (dgL n M)).getD ((lnL (dgL n M)).length - 1 - i) 0 ∧ 1 ≤ (lnL (dgL n M)).getD i 0) ∧
  (lnL (dgL n M)).sum = pdL (dgL n M)

instance (n : Nat) (M : List Int) (N : Nat) : Decidable (DgP n M N) := by unfold DgP; infer_instance

/-- What is to be seen of a square, beside M, its counts, and N. -/
def ChP (c : List (List Int)) (M : List Int) (N : Nat) : Prop :=
  (∀ b ∈ abL c, 0 ≤ b.sum ∧ b.sum ≤ 90) ∧ (abL c).length = N ∧ (posR c).length = N ∧ ohL (abL c) = M

instance (c : List (List Int)) (M : List Int) (N : Nat) : Decidable (ChP c M N) := by unfold ChP; infer_instance

end Go.Proofs.Ytkgljfnbaoncbaa
