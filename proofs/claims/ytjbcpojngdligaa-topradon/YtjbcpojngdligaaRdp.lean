/- Radon's way, and between as rows tell it (pure). -/
import Derived.Test.YtjbcpojngdligaaCv8
import Derived.Test.YtjbcpojngdligaaFkA
import Derived.Test.YtjbcpojngdligaaBetC
namespace Go.Proofs.Ytjbcpojngdligaa
open Lin

theorem mu_smallR {c : Nat} {m : List (List Int)} (hb : ∀ r ∈ m, ∀ z ∈ r, z.natAbs ≤ 4) (h5 : c ≤ 5) (hl : (pickL c m).length + 1 = c) : ∀ z ∈ muL c (pickL c m), z.natAbs ≤ 6144 := by
  intro z hz
  simp only [muL, List.mem_map, List.mem_range] at hz
  obtain ⟨k, hk, rfl⟩ := hz
  unfold Lin.mu
  rw [Int.natAbs_mul]
  have h2 : (Lin.ngo k).natAbs = 1 := by rw [ngo_mod]; by_cases e : k % 2 = 1 <;> simp [e]
  rw [h2, Nat.one_mul, fm_length]
  have h6 : Lin.fb 4 4 = 6144 := by decide
  have m2 : Lin.fb 4 (pickL c m).length ≤ Lin.fb 4 4 := fb_mono (by decide) (by omega)
  have hb := Lin.od_bd (n := (pickL c m).length) (B := 4) (Lin.cols (fm (pickL c m)) (Lin.skp k)) (fun _ => false) (fun r hr j hj => by
    simp only [Lin.cols, fm, List.mem_map] at hr
    obtain ⟨_, ⟨l, hl', rfl⟩, rfl⟩ := hr
    by_cases hi : Lin.skp k j < l.length
    · exact hb l (pickL_mem hl') _ (by simp [hi])
    · simp only [List.getD_eq_getElem?_getD]; rw [List.getElem?_eq_none (by omega)]; simp) (by rw [Lin.cu_none]; simp [Lin.cols, fm])
  have hl2 : (Lin.cols (fm (pickL c m)) (Lin.skp k)).length = (pickL c m).length := by simp [Lin.cols, fm]
  rw [hl2] at hb
  omega

theorem norm_bdR {c : Nat} {m : List (List Int)} (hb : ∀ r ∈ m, ∀ z ∈ r, z.natAbs ≤ 4) (h5 : c ≤ 5) : ∀ z ∈ normL c m, z.natAbs ≤ 6144 := by
  intro z hz
  unfold normL at hz
  split at hz
  · rename_i hl
    exact upr_bd (low_bd (mu_smallR hb h5 hl)) z hz
  · simp at hz

/-- What Radon's numbers are. -/
structure RdF (d : Nat) (p : List (List Int)) (l : List Int) : Prop where
  len : l.length = d + 2
  bd : ∀ z ∈ l, z.natAbs ≤ 6144
  sum : l.sum = 0
  col : ∀ k, k < d → sumN (d + 2) (fun i => V l i * (p.getD i []).getD k 0) = 0
  pos : ∃ i, i < d + 2 ∧ 0 < V l i

theorem sumN_list (l : List Int) : sumN l.length (V l) = l.sum := by
  have h : ∀ k, k ≤ l.length → sumN k (V l) = (l.take k).sum := fun k => by
    induction k with
    | zero => intro _; simp [sumN]
    | succ k ih =>
      intro hk
      rw [List.take_succ_eq_append_getElem (by omega), List.sum_append]
      simp only [sumN, List.sum_cons, List.sum_nil, Int.add_zero]
      rw [ih (by omega)]
      simp [V, show k < l.length by omega]
  have := h l.length (Nat.le_refl _)
  rwa [List.take_length] at this

theorem sumN_nonposR {n : Nat} {f : Nat → Int} (h : ∀ i, i < n → f i ≤ 0) : sumN n f ≤ 0 := by
  induction n with
  | zero => simp [sumN]
  | succ n ih =>
    simp only [sumN]
    have h1 := ih fun i hi => h i (by omega)
    have h2 := h n (by omega)
    omega

theorem sumN_neg_of {n : Nat} {f : Nat → Int} (h : ∀ i, i < n → f i ≤ 0) {i : Nat} (hi : i < n) (hne : f i ≠ 0) : sumN n f < 0 := by
  induction n with
  | zero => omega
  | succ n ih =>
    simp only [sumN]
    by_cases e : i = n
    · subst e
      have h1 := sumN_nonposR (n := i) (f := f) fun j hj => h j (by omega)
      have h2 := h i (by omega)
      omega
    · have h1 := ih (fun j hj => h j (by omega)) (by omega)
      have h2 := h n (by omega)
      omega

theorem radon_facts {d : Nat} {p : List (List Int)} (hb : Box d 4 p) (hl : p.length = d + 2) (h1 : 1 ≤ d) (h3 : d ≤ 3) :
    (radE p = 0 ∨ radE p = 5) ∧ (radE p = 0 → RdF d p (radL p)) := by
  have hok : PmOk d p := ⟨by omega, by omega, h1, h3, fun r hr => (hb r hr).1, fun r hr z hz => by have := (hb r hr).2 z hz; omega⟩
  obtain ⟨hz, hd⟩ := pm_of hok
  have hE : radE p = if normB p.length (onesT d p) = true then 0 else 5 := by
    unfold radE
    rw [if_neg (by simp [hz]), if_neg (by rw [hd]; omega), hd]
  refine ⟨by rw [hE]; split <;> simp, fun h0 => ?_⟩
  have hnb : normB p.length (onesT d p) = true := by
    rw [hE] at h0
    split at h0
    · assumption
    · omega
  have hrl : radL p = normL p.length (onesT d p) := by unfold radL; rw [if_pos h0, hd]
  have hpl : (pickL p.length (onesT d p)).length + 1 = p.length := of_decide_eq_true hnb
  obtain ⟨⟨i0, hi0, hne⟩, horth, _⟩ := norm_spec hpl
  have hlen : (normL p.length (onesT d p)).length = p.length := norm_len hnb
  have hones : onesL p.length ∈ onesT d p := by simp [onesT]
  have hs := horth _ hones
  have hsum : sumN p.length (V (normL p.length (onesT d p))) = 0 := by
    rw [← hs]
    unfold dot
    refine sumN_congr fun i hi => ?_
    have : V (onesL p.length) i = 1 := by simp [V, onesL, hi]
    rw [this, Int.one_mul]
  rw [hrl]
  refine ⟨by rw [hlen, hl], norm_bdR (fun r hr z hz => ?_) (by omega), by rw [← sumN_list, hlen]; exact hsum, fun k hk => ?_, ?_⟩
  · simp only [onesT, List.mem_append, List.mem_map, List.mem_range, List.mem_singleton] at hr
    rcases hr with ⟨k, hk, rfl⟩ | rfl
    · simp only [List.mem_map] at hz
      obtain ⟨r, hr, rfl⟩ := hz
      have := (hb r hr).2 (r.getD k 0) (by simp [show k < r.length by rw [(hb r hr).1]; exact hk])
      omega
    · simp only [onesL, List.mem_map] at hz
      obtain ⟨_, _, rfl⟩ := hz
      decide
  · have hc : (p.map fun r => r.getD k 0) ∈ onesT d p := by
      simp only [onesT, List.mem_append, List.mem_map, List.mem_range]
      exact Or.inl ⟨k, hk, rfl⟩
    refine Eq.trans ?_ (horth _ hc)
    rw [← hl]
    unfold dot
    refine sumN_congr fun i hi => ?_
    have e : V (p.map fun r => r.getD k 0) i = (p.getD i []).getD k 0 := by simp [V, hi]
    rw [e, Int.mul_comm]
  · refine Classical.byContradiction fun hn => ?_
    have hle : ∀ i, i < p.length → V (normL p.length (onesT d p)) i ≤ 0 := fun i hi => by
      rcases Int.lt_or_le 0 (V (normL p.length (onesT d p)) i) with h | h
      · exact absurd ⟨i, by omega, h⟩ hn
      · exact h
    have := sumN_neg_of hle hi0 hne
    omega

/-! What is between points is beyond no row. -/

theorem one_dot {d : Nat} (c : Nat → Int) {x : List Int} (hx : x.length = d) : dot (d + 1) c (V (oneR x)) = dot d c (V x) + c d := by
  unfold dot
  simp only [sumN]
  have e : V (oneR x) d = 1 := by rw [← hx]; exact oneR_at x
  rw [e, Int.mul_one]
  congr 1
  exact sumN_congr fun i hi => by
    have : V (oneR x) i = V x i := oneR_lt (by omega)
    rw [this]

theorem ways_where {d : Nat} {P P' rows : List (List Int)} (hg : Good d P) (hm : ∀ r, r ∈ P' ↔ r ∈ P) (hr : ∀ r, r ∈ rows ↔ r ∈ rowsC P' [] d P') {y : List Int} (hy : y.length = d) :
    waysL (P.map oneR) (oneR y) = [] ↔ ¬ whr rows y ≤ 0 := by
  have hyl : (oneR y).length = d + 1 := by rw [oneR_len, hy]
  rw [ways_none, hyl]
  constructor
  · rintro ⟨c, h1, h2⟩ hw
    rw [one_dot c hy] at h2
    obtain ⟨x, hx, hmax⟩ := exists_max (fun y => dot d c (V y)) P (by intro h; have := hg.n2; rw [h] at this; simp at this)
    have h3 := h1 _ (List.mem_map.2 ⟨x, hx, rfl⟩)
    rw [one_dot c (hg.box x hx).1] at h3
    have h4 := rows_tell hg hm (q := y) (fun r hr' => by
      rcases Int.lt_or_le (r.getD d 0) (dot d (V r) (V y)) with h | h
      · exfalso
        have ho := rowsC_fit hg.box hg.d1 (by have := hg.d4; omega) hm hr'
        have := whr_one ((hr r).2 hr') (x := y) (by rw [agn_dot ho.len hy]; exact cmpI_one h)
        omega
      · exact h) hx hmax
    omega
  · intro hw
    refine Classical.byContradiction fun hn => hw (whr_le fun r h => ?_)
    have ho := rowsC_fit hg.box hg.d1 (by have := hg.d4; omega) hm ((hr r).1 h)
    rw [agn_dot ho.len hy]
    refine cmpI_le ?_
    rcases Int.lt_or_le (r.getD d 0) (dot d (V r) (V y)) with hlt | hle
    · exfalso
      refine hn ⟨fun i => if i = d then - r.getD d 0 else V r i, fun q hq => ?_, ?_⟩
      · obtain ⟨x, hx, rfl⟩ := List.mem_map.1 hq
        rw [one_dot _ (hg.box x hx).1, if_pos rfl]
        have e : dot d (fun i => if i = d then - r.getD d 0 else V r i) (V x) = dot d (V r) (V x) := dot_congr (fun i hi => by rw [if_neg (by omega)]) (fun _ _ => rfl)
        rw [e]
        have := ho.all x hx
        omega
      · rw [one_dot _ hy, if_pos rfl]
        have e : dot d (fun i => if i = d then - r.getD d 0 else V r i) (V y) = dot d (V r) (V y) := dot_congr (fun i hi => by rw [if_neg (by omega)]) (fun _ _ => rfl)
        rw [e]
        omega
    · exact hle

theorem ways_len {rows : List (List Int)} {g c : List Int} (h : c ∈ waysL rows g) : c.length ≤ g.length := by
  unfold waysL at h
  have key : ∀ k, c ∈ waysTo rows g k → c.length < k := fun k => by
    induction k with
    | zero => intro h; simp [waysTo] at h
    | succ k ih =>
      intro h
      rw [waysTo_succ] at h
      rcases List.mem_append.1 h with h | h
      · have := ih h; omega
      · have := (ext_rise (List.mem_filter.1 h).1).1
        omega
  have := key _ h
  omega

end Go.Proofs.Ytjbcpojngdligaa
