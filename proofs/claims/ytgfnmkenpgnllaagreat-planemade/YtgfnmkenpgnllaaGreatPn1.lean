/- Flats as lists, in order, and their polynomial (pure). -/
import Derived.Test.YtgfnmkenpgnllaaGreatPn0
import Derived.Test.YtgfnmkenpgnllaaGreatChz
import Derived.Test.YtgfnmkenpgnllaaGreatSh1
namespace Go.Proofs.YtgfnmkenpgnllaaGreat
open Lin

/-- A set's things, rising. -/
def memL (n s : Nat) : List Int := ((List.range n).filter fun i => s.testBit i).map fun (i : Nat) => (i : Int)

def extA (n : Nat) : List (List Int) := (List.range (n + 1)).flatMap fun k => ext n k 0

def xtB : Bool := (List.range 7).all fun n => ((extA n).all fun c => decide (setN c < 2 ^ n) && (c == memL n (setN c)) && c.all fun z => decide (0 ≤ z) && decide (z < n)) && ((List.range (2 ^ n)).all fun s => (extA n).contains (memL n s) && (setN (memL n s) == s)) && decide ((extA n).map setN).Nodup
theorem xtB_t : xtB = true := by decide +kernel

theorem xt_all {n : Nat} (hn : n ≤ 6) : (∀ c ∈ extA n, setN c < 2 ^ n ∧ c = memL n (setN c) ∧ ∀ z ∈ c, 0 ≤ z ∧ z < n) ∧ (∀ s, s < 2 ^ n → memL n s ∈ extA n ∧ setN (memL n s) = s) ∧ ((extA n).map setN).Nodup := by
  have h := List.all_eq_true.1 xtB_t n (List.mem_range.2 (by omega))
  simp only [Bool.and_eq_true, List.all_eq_true, decide_eq_true_eq, beq_iff_eq, List.mem_range, List.contains_iff_mem] at h
  obtain ⟨⟨h1, h2⟩, h3⟩ := h
  exact ⟨fun c hc => ⟨(h1 c hc).1.1, (h1 c hc).1.2, (h1 c hc).2⟩, h2, h3⟩

theorem ext_extA {n k : Nat} {c : List Int} (hk : k ≤ n) (h : c ∈ ext n k 0) : c ∈ extA n := List.mem_flatMap.2 ⟨k, List.mem_range.2 (by omega), h⟩

theorem pks_plS {P : List (List Int)} (hn : P.length ≤ 6) {c : List Int} (h : c ∈ extA P.length) : pks P [] c = plS P (setN c) := by
  have := ((xt_all hn).1 c h).2.1
  unfold pks plS
  conv => lhs; rw [this]
  unfold memL
  rw [List.map_map]
  rfl

/-- Does the list have the number? -/
theorem mem_bit {n : Nat} (hn : n ≤ 6) {c : List Int} (h : c ∈ extA n) {i : Nat} (hi : i < n) : c.contains (i : Int) = (setN c).testBit i := by
  rw [Bool.eq_iff_iff, List.contains_iff_mem]
  have := ((xt_all hn).1 c h).2.1
  constructor
  · intro hm
    rw [this] at hm
    simp only [memL, List.mem_map, List.mem_filter, List.mem_range] at hm
    obtain ⟨j, ⟨h1, h2⟩, h3⟩ := hm
    have : j = i := by omega
    subst this
    exact h2
  · intro hb
    rw [this]
    exact List.mem_map.2 ⟨i, List.mem_filter.2 ⟨List.mem_range.2 hi, hb⟩, rfl⟩

/-- All flats, as they are found: a list and its rank. -/
def flU (d : Nat) (P : List (List Int)) (cs : List (List Int)) : List (List Int × Nat) := (cs.filter fun c => flB d P (setN c)).map fun c => (c, rk d (pks P [] c))

theorem flU_app (d : Nat) (P : List (List Int)) (a b : List (List Int)) : flU d P (a ++ b) = flU d P a ++ flU d P b := by simp [flU]
theorem flU_one (d : Nat) (P : List (List Int)) (c : List Int) : flU d P [c] = if flB d P (setN c) then [(c, rk d (pks P [] c))] else [] := by
  unfold flU
  by_cases h : flB d P (setN c) = true
  · simp [h]
  · simp [h]

theorem flU_len (d : Nat) (P : List (List Int)) (cs : List (List Int)) : (flU d P cs).length ≤ cs.length := by
  unfold flU
  rw [List.length_map]
  exact List.length_filter_le _ _

/-- Flats in an order in which ranks do not fall. -/
structure FlS (d : Nat) (P : List (List Int)) (m : List (List Int × Nat)) : Prop where
  perm : m.Perm (flU d P (extA P.length))
  ord : ∀ i j, i < j → j < m.length → (m.getD i ([], 0)).2 ≤ (m.getD j ([], 0)).2

def msk (m : List (List Int × Nat)) : List Nat := m.map fun x => setN x.1

theorem rS_rk {d : Nat} {P : List (List Int)} {s : Nat} (h : cen d P s = true) : rk d (plS P s) = rS d P s := by
  unfold cen at h
  exact eq_of_beq h

theorem FlS.mem {d : Nat} {P : List (List Int)} {m : List (List Int × Nat)} (h : FlS d P m) (hn : P.length ≤ 6) {x : List Int × Nat} (hx : x ∈ m) : x.1 ∈ extA P.length ∧ flB d P (setN x.1) = true ∧ x.2 = rS d P (setN x.1) ∧ setN x.1 < 2 ^ P.length := by
  have := h.perm.mem_iff.1 hx
  simp only [flU, List.mem_map, List.mem_filter] at this
  obtain ⟨c, ⟨h1, h2⟩, rfl⟩ := this
  refine ⟨h1, h2, ?_, ((xt_all hn).1 c h1).1⟩
  show rk d (pks P [] c) = _
  rw [pks_plS hn h1, rS_rk (fl_iff.1 h2).1]

theorem FlS.nodup {d : Nat} {P : List (List Int)} {m : List (List Int × Nat)} (h : FlS d P m) (hn : P.length ≤ 6) : (msk m).Nodup := by
  have h1 : (msk m).Perm (msk (flU d P (extA P.length))) := h.perm.map _
  refine h1.nodup_iff.2 ?_
  have e : msk (flU d P (extA P.length)) = ((extA P.length).filter fun c => flB d P (setN c)).map setN := by
    unfold msk flU
    rw [List.map_map]
    rfl
  rw [e]
  exact List.Nodup.sublist (List.filter_sublist.map setN) (xt_all hn).2.2

theorem FlS.iff {d : Nat} {P : List (List Int)} {m : List (List Int × Nat)} (h : FlS d P m) (hn : P.length ≤ 6) {s : Nat} (hs : s < 2 ^ P.length) : s ∈ msk m ↔ flB d P s = true := by
  constructor
  · intro hm
    obtain ⟨x, hx, rfl⟩ := List.mem_map.1 hm
    exact (h.mem hn hx).2.1
  · intro hf
    obtain ⟨h1, h2⟩ := (xt_all hn).2.1 s hs
    refine List.mem_map.2 ⟨(memL P.length s, rk d (pks P [] (memL P.length s))), h.perm.mem_iff.2 ?_, h2⟩
    exact List.mem_map.2 ⟨_, List.mem_filter.2 ⟨h1, by rw [h2]; exact hf⟩, rfl⟩

/-- Sums over lists without doubles. -/
theorem sum_listN {N : Nat} (f : Nat → Int) : ∀ (l : List Nat), l.Nodup → (∀ x ∈ l, x < N) → (l.map f).sum = sumN N fun x => if x ∈ l then f x else 0
  | [], _, _ => by
    rw [sumN_zero fun x _ => by simp]
    rfl
  | a :: l, hn, hl => by
    rw [List.map_cons, List.sum_cons, sum_listN f l (List.nodup_cons.1 hn).2 fun x hx => hl x (List.mem_cons_of_mem _ hx)]
    have e1 : f a = sumN N fun x => if x = a then f x else 0 := by
      rw [sumN_one (k := a) (hl a (by simp)) (fun x _ hne => by simp [hne])]
      simp
    conv => lhs; rw [e1]
    rw [← sumN_add]
    refine sumN_congr fun x _ => ?_
    by_cases hx : x = a
    · subst hx
      simp [(List.nodup_cons.1 hn).1]
    · simp [hx]

/-- What Moebius's number of the k-th flat is taken from. -/
def moS (d : Nat) (P : List (List Int)) (M : List Nat) (F : Nat) : Int := (M.map fun x => if x &&& F = x then wf d P x else 0).sum

theorem FlS.moe {d : Nat} {P : List (List Int)} {m : List (List Int × Nat)} (h : FlS d P m) (hn : P.length ≤ 6) {k : Nat} (hk : k < m.length) (hr : (m.getD k ([], 0)).2 ≠ 0) :
    - moS d P ((msk m).take k) (setN (m.getD k ([], 0)).1) = wf d P (setN (m.getD k ([], 0)).1) := by
  have hmm : m.getD k ([], 0) ∈ m := by simp [hk]
  obtain ⟨h1, h2, h3, h4⟩ := h.mem hn hmm
  have hnd := h.nodup hn
  obtain ⟨F, hF⟩ : ∃ F, F = setN (m.getD k ([], 0)).1 := ⟨_, rfl⟩
  have hFk : (msk m).getD k 0 = F := by rw [hF]; simp [msk, hk]
  rw [← hF] at h2 h3 h4 ⊢
  have hF0 : F ≠ 0 := fun e => by
    rw [h3, e] at hr
    refine hr ?_
    have : plS P 0 = [] := by simp [plS]
    unfold rS
    rw [this]
    rfl
  have hw := whit_in (d := d) hn h2 h4
  rw [if_neg hF0] at hw
  have hlt : ∀ x ∈ (msk m).take k, x < 2 ^ P.length := fun x hx => by
    obtain ⟨y, hy, rfl⟩ := List.mem_map.1 (List.mem_of_mem_take hx)
    exact (h.mem hn hy).2.2.2
  unfold moS
  rw [sum_listN _ _ (List.Nodup.sublist (List.take_sublist _ _) hnd) hlt]
  have e1 : (sumN (2 ^ P.length) fun G => if flB d P G = true ∧ G &&& F = G then wf d P G else 0) = sumN (2 ^ P.length) fun G => (if G ∈ (msk m).take k then (if G &&& F = G then wf d P G else 0) else 0) + if G = F then wf d P G else 0 := by
    refine sumN_congr fun G hG => ?_
    by_cases hGF : G = F
    · subst hGF
      have hni : ¬ G ∈ (msk m).take k := fun hx => by
        obtain ⟨i, hi, he⟩ := List.getElem_of_mem hx
        rw [List.length_take] at hi
        have h5 : (msk m)[i]'(by omega) = (msk m)[k]'(by simp [msk, hk]) := by
          rw [List.getElem_take] at he
          rw [he, ← hFk]
          simp [msk, hk]
        have := (List.getElem_inj hnd).1 h5
        omega
      rw [if_pos ⟨h2, by simp⟩, if_neg hni, if_pos rfl, Int.zero_add]
    · rw [if_neg hGF, Int.add_zero]
      by_cases hc : flB d P G = true ∧ G &&& F = G
      · have hin : G ∈ (msk m).take k := by
          have hm := (h.iff hn hG).2 hc.1
          obtain ⟨j, hj, he⟩ := List.getElem_of_mem hm
          have hj2 : j < m.length := by simpa [msk] using hj
          have hxm : m.getD j ([], 0) ∈ m := by simp [hj2]
          have hGj : setN (m.getD j ([], 0)).1 = G := by rw [← he]; simp [msk, hj2]
          refine Classical.byContradiction fun hn2 => ?_
          have hjk : ¬ j < k := fun hlt => hn2 (by
            refine List.mem_iff_getElem.2 ⟨j, by rw [List.length_take]; omega, ?_⟩
            rw [List.getElem_take]; exact he)
          have hne : j ≠ k := fun e => hGF (by subst e; rw [← hGj, hF])
          have hrr := h.ord k j (by omega) hj2
          have h6 := (h.mem hn hxm).2.2.1
          rw [hGj] at h6
          rw [h3, h6] at hrr
          exact hGF (flat_eq hc.1 h4 (and_sub.1 hc.2) hrr)
        rw [if_pos hc, if_pos hin, if_pos hc.2]
      · rw [if_neg hc]
        by_cases hin : G ∈ (msk m).take k
        · rw [if_pos hin, if_neg fun h5 => hc ⟨(h.iff hn hG).1 (List.mem_of_mem_take hin), h5⟩]
        · rw [if_neg hin]
  rw [e1, sumN_add, sumN_one (k := F) h4 (f := fun G => if G = F then wf d P G else 0) (fun x _ hne => by simp [hne]), if_pos rfl] at hw
  omega

/-- The coefficients, of the first k flats. -/
def coV (d : Nat) (P : List (List Int)) (m : List (List Int × Nat)) (k j : Nat) : Int := ((m.take k).map fun x => if d - x.2 = j then wf d P (setN x.1) else 0).sum
def coF (d : Nat) (P : List (List Int)) (m : List (List Int × Nat)) (k : Nat) : List Int := (List.range (d + 1)).map (coV d P m k)

theorem coF_len (d : Nat) (P : List (List Int)) (m : List (List Int × Nat)) (k : Nat) : (coF d P m k).length = d + 1 := by simp [coF]

theorem coF_zero (d : Nat) (P : List (List Int)) (m : List (List Int × Nat)) : coF d P m 0 = List.replicate (d + 1) 0 := by
  unfold coF
  apply List.ext_getElem (by simp)
  intro i h1 h2
  simp [coV]

theorem coV_succ {d : Nat} {P : List (List Int)} {m : List (List Int × Nat)} {k : Nat} (hk : k < m.length) (j : Nat) : coV d P m (k + 1) j = coV d P m k j + if d - (m.getD k ([], 0)).2 = j then wf d P (setN (m.getD k ([], 0)).1) else 0 := by
  have hg : m.getD k ([], 0) = m[k] := by simp [hk]
  rw [hg]
  unfold coV
  rw [List.take_succ_eq_append_getElem hk, List.map_append, List.sum_append]
  simp

theorem coF_get {d : Nat} {P : List (List Int)} {m : List (List Int × Nat)} {k j : Nat} (hj : j < d + 1) : (coF d P m k).getD j 0 = coV d P m k j := by
  simp [coF, hj]

theorem coF_succ {d : Nat} {P : List (List Int)} {m : List (List Int × Nat)} {k : Nat} (hk : k < m.length) : coF d P m (k + 1) = (coF d P m k).set (d - (m.getD k ([], 0)).2) ((coF d P m k).getD (d - (m.getD k ([], 0)).2) 0 + wf d P (setN (m.getD k ([], 0)).1)) := by
  rw [coF_get (by omega)]
  apply List.ext_getElem?
  intro j
  rw [List.getElem?_set]
  by_cases hj : j < d + 1
  · have e1 : (coF d P m (k + 1))[j]? = some (coV d P m (k + 1) j) := by simp [coF, hj]
    have e2 : (coF d P m k)[j]? = some (coV d P m k j) := by simp [coF, hj]
    rw [e1, e2, coF_len, coV_succ hk]
    by_cases e : d - (m.getD k ([], 0)).2 = j
    · rw [if_pos e, if_pos e, if_pos (by omega), e]
    · rw [if_neg e, if_neg e, Int.add_zero]
  · rw [List.getElem?_eq_none (by rw [coF_len]; omega), if_neg (by omega), List.getElem?_eq_none (by rw [coF_len]; omega)]

/-- Whitney's polynomial, one coefficient. -/
def whC (d : Nat) (P : List (List Int)) (j : Nat) : Int := sumN (2 ^ P.length) fun s => if cen d P s = true then sg s * (if d - rS d P s = j then 1 else 0) else 0

theorem FlS.coef {d : Nat} {P : List (List Int)} {m : List (List Int × Nat)} (h : FlS d P m) (hn : P.length ≤ 6) : coF d P m m.length = (List.range (d + 1)).map (whC d P) := by
  unfold coF
  refine List.map_congr_left fun j _ => ?_
  unfold coV
  rw [List.take_length]
  unfold whC
  rw [← whit_all (d := d) (P := P) fun r => if d - r = j then 1 else 0]
  have e1 : (m.map fun x => if d - x.2 = j then wf d P (setN x.1) else 0) = (msk m).map fun s => wf d P s * if d - rS d P s = j then 1 else 0 := by
    unfold msk
    rw [List.map_map]
    refine List.map_congr_left fun x hx => ?_
    obtain ⟨_, _, h3, _⟩ := h.mem hn hx
    simp only [Function.comp_def]
    rw [← h3]
    split <;> simp
  rw [e1, sum_listN _ _ (h.nodup hn) (fun x hx => by
    obtain ⟨y, hy, rfl⟩ := List.mem_map.1 hx
    exact (h.mem hn hy).2.2.2)]
  refine sumN_congr fun s hs => ?_
  by_cases hf : flB d P s = true
  · rw [if_pos ((h.iff hn hs).2 hf), if_pos hf]
  · rw [if_neg fun hx => hf ((h.iff hn hs).1 hx), if_neg hf]

theorem sg_abs (s : Nat) : (sg s).natAbs = 1 := by
  have : ∀ (l : List Nat) (a : Int), (l.foldl (fun a i => if s.testBit i then -a else a) a).natAbs = a.natAbs := by
    intro l
    induction l with
    | nil => intro a; rfl
    | cons x l ih =>
      intro a
      rw [List.foldl_cons, ih]
      split
      · simp
      · rfl
  exact this _ 1

theorem sumN_abs {f : Nat → Int} : ∀ {n : Nat}, (∀ i, i < n → (f i).natAbs ≤ 1) → (sumN n f).natAbs ≤ n
  | 0, _ => by simp [sumN]
  | n + 1, h => by
    have h1 := sumN_abs (n := n) fun i hi => h i (by omega)
    have h2 := h n (by omega)
    rw [sumN]
    omega

theorem wf_abs {d : Nat} {P : List (List Int)} (hn : P.length ≤ 6) (F : Nat) : (wf d P F).natAbs ≤ 64 := by
  refine Nat.le_trans (sumN_abs fun i _ => ?_) (Nat.le_trans (Nat.pow_le_pow_right (by decide) hn) (by decide))
  split
  · rw [sg_abs]; exact Nat.le_refl _
  · decide

theorem list_abs {α : Type} {f : α → Int} {B : Nat} : ∀ (l : List α), (∀ x ∈ l, (f x).natAbs ≤ B) → ((l.map f).sum).natAbs ≤ l.length * B
  | [], _ => by simp
  | a :: l, h => by
    have h1 := list_abs l fun x hx => h x (List.mem_cons_of_mem _ hx)
    have h2 := h a (by simp)
    rw [List.map_cons, List.sum_cons, List.length_cons, Nat.succ_mul]
    omega

end Go.Proofs.YtgfnmkenpgnllaaGreat
