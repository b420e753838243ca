import Derived.Test.YtknomkajibfmlaaGreatRun9
import Derived.Lib.JoinLaws
import Derived.Test.YtknomkajibfmlaaGreatMgAF
import Derived.Test.YtknomkajibfmlaaGreatMgAB
import Derived.Test.YtknomkajibfmlaaGreatLinAll
import Derived.Test.YtknomkajibfmlaaGreatOwn2
import Derived.Test.YtknomkajibfmlaaGreatMgAA
import Derived.Maps.AppendAt
import Derived.Test.YtknomkajibfmlaaGreatMgAI
/- The program's differences of points. -/
namespace Go.Proofs.YtknomkajibfmlaaGreat
open Go.RowKit
attribute [local go_sem ↓] Go.wp_at_zero Go.wp_at_succ

theorem Touch.below {g M : Nat} {w w2 wr : World} (h : Touch g w2 wr) (hb : Below M w w2) (hg : M ≤ g) : Below M w wr :=
  ⟨h.os.trans hb.os, h.tape.trans hb.tape, h.output.trans hb.output, by rw [h.size]; exact hb.size, fun b hlt => (h.block b (by omega)).trans (hb.block b hlt)⟩

end Go.Proofs.YtknomkajibfmlaaGreat

/- Points of raw numbers: each is small, whatever the numbers. -/
namespace Go.Proofs.YtknomkajibfmlaaGreat
open Go.RowKit
attribute [local go_sem ↓] Go.wp_at_zero Go.wp_at_succ

/-- Rows of so many numbers, none beyond a bound. -/
def Box (n wd : Nat) (m : List (List Int)) : Prop := ∀ r ∈ m, r.length = n ∧ ∀ z ∈ r, -(wd : Int) ≤ z ∧ z ≤ wd

end Go.Proofs.YtknomkajibfmlaaGreat

/- The program's products; points looked through for one beyond a row. -/
namespace Go.Proofs.YtknomkajibfmlaaGreat
open Go.RowKit
attribute [local go_sem ↓] Go.wp_at_zero Go.wp_at_succ

/-- The products, added. -/
def dotL (a x : List Int) : Int := Lin.sumN a.length fun i => a.getD i 0 * x.getD i 0

end Go.Proofs.YtknomkajibfmlaaGreat

/- The row through chosen points. -/
namespace Go.Proofs.YtknomkajibfmlaaGreat
open Go.RowKit
attribute [local go_sem ↓] Go.wp_at_zero Go.wp_at_succ

theorem getD_mem {l : List Int} {i : Nat} (h : i < l.length) : l.getD i 0 ∈ l := by simp [h]

theorem muL_len (c : Nat) (rows : List (List Int)) : (muL c rows).length = c := by simp [muL]

theorem norm_len {c : Nat} {m : List (List Int)} (h : normB c m = true) : (normL c m).length = c := by
  unfold normB at h
  unfold normL
  rw [if_pos (of_decide_eq_true h), upr_len, low_len, muL_len]

theorem upr_bd {l : List Int} {b : Nat} (h : ∀ z ∈ l, z.natAbs ≤ b) : ∀ z ∈ Lin.upr l, z.natAbs ≤ b := by
  intro z hz
  unfold Lin.upr at hz
  split at hz
  · simp only [List.mem_map] at hz
    obtain ⟨y, hy, rfl⟩ := hz
    rw [Int.natAbs_neg]; exact h y hy
  · exact h z hz

theorem mu_small {c : Nat} {m : List (List Int)} (hx : Mx c 60 m) (hl : (pickL c m).length + 1 = c) : ∀ z ∈ muL c (pickL c m), z.natAbs ≤ 1000000000000 := by
  intro z hz
  simp only [muL, List.mem_map, List.mem_range] at hz
  obtain ⟨k, hk, rfl⟩ := hz
  unfold Lin.mu
  rw [Int.natAbs_mul]
  have h2 : (Lin.ngo k).natAbs = 1 := by rw [ngo_mod]; by_cases e : k % 2 = 1 <;> simp [e]
  rw [h2, Nat.one_mul, fm_length]
  have h5 : Lin.fb 60 5 = 93312000000 := by decide
  have m2 : Lin.fb 60 (pickL c m).length ≤ Lin.fb 60 5 := fb_mono (by decide) (by have := hx.c5; omega)
  have hb := Lin.od_bd (n := (pickL c m).length) (B := 60) (Lin.cols (fm (pickL c m)) (Lin.skp k)) (fun _ => false) (fun r hr j hj => by
    simp only [Lin.cols, fm, List.mem_map] at hr
    obtain ⟨_, ⟨l, hl', rfl⟩, rfl⟩ := hr
    by_cases hi : Lin.skp k j < l.length
    · exact hx.bd l (pickL_mem hl') _ (by simp [hi])
    · simp only [List.getD_eq_getElem?_getD]; rw [List.getElem?_eq_none (by omega)]; simp) (by rw [Lin.cu_none]; simp [Lin.cols, fm])
  have hl2 : (Lin.cols (fm (pickL c m)) (Lin.skp k)).length = (pickL c m).length := by simp [Lin.cols, fm]
  rw [hl2] at hb
  omega

theorem norm_bd {c : Nat} {m : List (List Int)} (hx : Mx c 60 m) : ∀ z ∈ normL c m, z.natAbs ≤ 1000000000000 := by
  intro z hz
  unfold normL at hz
  split at hz
  · rename_i hl
    exact upr_bd (low_bd (mu_small hx hl)) z hz
  · simp at hz

theorem norm_bdG {c B : Nat} {m : List (List Int)} (hb : ∀ r ∈ m, ∀ z ∈ r, z.natAbs ≤ B) : ∀ z ∈ normL c m, z.natAbs ≤ Lin.fb B (c - 1) := by
  intro z hz
  unfold normL at hz
  split at hz
  · rename_i hl
    refine upr_bd (low_bd ?_) z hz
    intro z hz
    simp only [muL, List.mem_map, List.mem_range] at hz
    obtain ⟨k, hk, rfl⟩ := hz
    unfold Lin.mu
    rw [Int.natAbs_mul]
    have h2 : (Lin.ngo k).natAbs = 1 := by rw [ngo_mod]; by_cases e : k % 2 = 1 <;> simp [e]
    rw [h2, Nat.one_mul, fm_length]
    have hb := Lin.od_bd (n := (pickL c m).length) (B := B) (Lin.cols (fm (pickL c m)) (Lin.skp k)) (fun _ => false) (fun r hr j hj => by
      simp only [Lin.cols, fm, List.mem_map] at hr
      obtain ⟨_, ⟨l, hl', rfl⟩, rfl⟩ := hr
      by_cases hi : Lin.skp k j < l.length
      · exact hb l (pickL_mem hl') _ (by simp [hi])
      · simp only [List.getD_eq_getElem?_getD]; rw [List.getElem?_eq_none (by omega)]; simp) (by rw [Lin.cu_none]; simp [Lin.cols, fm])
    have hl2 : (Lin.cols (fm (pickL c m)) (Lin.skp k)).length = (pickL c m).length := by simp [Lin.cols, fm]
    rw [hl2] at hb
    rw [show c - 1 = (pickL c m).length by omega]
    exact hb
  · simp at hz

end Go.Proofs.YtknomkajibfmlaaGreat

/- The normal of rows: what it is, and when there is one; a way by rows. -/

namespace Go.Proofs.YtknomkajibfmlaaGreat
open Lin

def V (l : List Int) : Nat → Int := fun j => l.getD j 0

theorem V_neg (l : List Int) (i : Nat) : V (l.map fun z => -z) i = - V l i := by
  simp only [V, List.getD_eq_getElem?_getD, List.getElem?_map]
  cases l[i]? <;> simp

theorem mem_fm {m : List (List Int)} {r : Nat → Int} : r ∈ fm m ↔ ∃ l ∈ m, r = V l := by
  simp only [fm, List.mem_map]
  constructor
  · rintro ⟨l, hl, rfl⟩; exact ⟨l, hl, rfl⟩
  · rintro ⟨l, hl, rfl⟩; exact ⟨l, hl, rfl⟩

/-- The normal is so many times what the minors tell. -/
theorem norm_par {d : Nat} {m : List (List Int)} (hl : (pickL d m).length + 1 = d) : ∃ k : Int, k ≠ 0 ∧ ∀ i, i < d → mu (fm (pickL d m)) i = k * V (normL d m) i := by
  have hg := pick_greedy d m
  have hl' : (fm (pickL d m)).length + 1 = d := by rw [fm_length]; exact hl
  obtain ⟨⟨p, hp, hne⟩, _, _⟩ := greedy_one hg hl'
  have hn : normL d m = upr (low (muL d (pickL d m))) := if_pos hl
  rw [hn]
  have hat : ∀ i, i < d → V (muL d (pickL d m)) i = mu (fm (pickL d m)) i := fun i hi => by simp [V, muL, hi]
  generalize muL d (pickL d m) = l at *
  have hll : ∀ i, i < d → V l i ∈ l ∨ V l i = 0 := fun i _ => by
    by_cases h : i < l.length
    · exact Or.inl (getD_mem h)
    · right; simp only [V, List.getD_eq_getElem?_getD]; rw [List.getElem?_eq_none (by omega)]; rfl
  have hdv : ∀ i, i < d → ((gc l : Nat) : Int) ∣ V l i := fun i hi => by
    rcases hll i hi with h | h
    · exact gc_dvd h
    · rw [h]; exact Int.dvd_zero _
  have hg0 : ((gc l : Nat) : Int) ≠ 0 := by
    intro h0
    have h1 := hdv p hp
    rw [h0] at h1
    have h2 := Int.zero_dvd.1 h1
    rw [hat p hp] at h2
    exact hne h2
  have hlow : ∀ i, i < d → V l i = ((gc l : Nat) : Int) * V (low l) i := fun i hi => by
    have e : V (low l) i = V l i / ((gc l : Nat) : Int) := by
      simp only [V, low, List.getD_eq_getElem?_getD, List.getElem?_map]
      cases l[i]? <;> simp
    rw [e, Int.mul_ediv_cancel' (hdv i hi)]
  unfold upr
  split
  · refine ⟨-((gc l : Nat) : Int), by omega, fun i hi => ?_⟩
    rw [V_neg, ← hat i hi, hlow i hi]; grind
  · exact ⟨((gc l : Nat) : Int), hg0, fun i hi => by rw [← hat i hi, hlow i hi]⟩


theorem upr_first (l : List Int) : 0 ≤ ((upr l).find? (fun v => v != 0)).getD 0 := by
  unfold upr
  split
  · rename_i h
    rw [find_neg]
    omega
  · rename_i h
    omega

/-- What the normal is. -/
theorem norm_spec {d : Nat} {m : List (List Int)} (hl : (pickL d m).length + 1 = d) :
    (∃ i, i < d ∧ V (normL d m) i ≠ 0) ∧ (∀ r ∈ m, dot d (V r) (V (normL d m)) = 0) ∧ ∀ u : Nat → Int, (∀ r ∈ m, dot d (V r) u = 0) → Par d u (V (normL d m)) := by
  have hl' : (fm (pickL d m)).length + 1 = d := by rw [fm_length]; exact hl
  obtain ⟨⟨p, hp, hne⟩, h1, h2⟩ := greedy_one (pick_greedy d m) hl'
  obtain ⟨k, hk, hmu⟩ := norm_par hl
  refine ⟨⟨p, hp, fun e => hne (by rw [hmu p hp, e, Int.mul_zero])⟩, fun r hr => ?_, fun u hu i j hi hj => ?_⟩
  · have h := h1 (V r) (mem_fm.2 ⟨r, hr, rfl⟩)
    have e : dot d (V r) (mu (fm (pickL d m))) = k * dot d (V r) (V (normL d m)) := by
      unfold dot
      rw [← sumN_mul]
      exact sumN_congr fun i hi => by rw [hmu i hi]; grind
    rw [e] at h
    exact (Int.mul_eq_zero.1 h).resolve_left hk
  · have h := h2 u (fun r hr => by
      obtain ⟨l, hl, rfl⟩ := mem_fm.1 hr
      exact hu l hl) i j hi hj
    rw [hmu i hi, hmu j hj] at h
    have : k * (u i * V (normL d m) j) = k * (u j * V (normL d m) i) := by grind
    exact Int.eq_of_mul_eq_mul_left hk this

/-- There is a way by just these rows: one alone, and above 0 of each. -/
theorem wayB_iff {g : List Int} {rs : List (List Int)} : wayB g rs = true ↔ ∃ a : Nat → Int, (∀ i, i < rs.length + 1 → 0 < a i) ∧ (∀ r ∈ acrL g rs, dot (rs.length + 1) (V r) a = 0) ∧
    ∀ u : Nat → Int, (∀ r ∈ acrL g rs, dot (rs.length + 1) (V r) u = 0) → Par (rs.length + 1) u a := by
  constructor
  · intro h
    unfold wayB at h
    rw [Bool.and_eq_true] at h
    obtain ⟨hb, hn⟩ := h
    have hl : (pickL (rs.length + 1) (acrL g rs)).length + 1 = rs.length + 1 := by simpa [normB] using hb
    obtain ⟨_, h1, h2⟩ := norm_spec hl
    refine ⟨V (normL (rs.length + 1) (acrL g rs)), fun i hi => ?_, h1, h2⟩
    have hlen := norm_len hb
    have hm : (normL (rs.length + 1) (acrL g rs)).getD i 0 ∈ wayN g rs := getD_mem (by unfold wayN; rw [hlen]; exact hi)
    have hn' : (wayN g rs).any lowB = false := by simpa using hn
    rw [List.any_eq_false] at hn'
    have := hn' _ hm
    simp only [lowB, decide_eq_true_eq] at this
    show 0 < (normL (rs.length + 1) (acrL g rs)).getD i 0
    omega
  · rintro ⟨a, hpos, h0, h1⟩
    have hg := pick_greedy (rs.length + 1) (acrL g rs)
    have hc := greedy_count hg (a := a) ⟨0, by omega, by have := hpos 0 (by omega); omega⟩ (fun r hr => by
      obtain ⟨l, hl, rfl⟩ := mem_fm.1 hr
      exact h0 l hl) (fun u hu => h1 u (fun r hr => hu (V r) (mem_fm.2 ⟨r, hr, rfl⟩)))
    rw [fm_length] at hc
    have hb : normB (rs.length + 1) (acrL g rs) = true := by simpa [normB] using hc
    obtain ⟨⟨p, hp, hne⟩, h2, _⟩ := norm_spec hc
    have hpar := h1 _ h2
    have hlen := norm_len hb
    have hn0 : V (normL (rs.length + 1) (acrL g rs)) 0 ≠ 0 := fun e => by
      have h3 := hpar p 0 hp (by omega)
      rw [e, Int.zero_mul] at h3
      have := hpos 0 (by omega)
      rcases Int.mul_eq_zero.1 h3 with h | h
      · exact hne h
      · omega
    have hf : 0 < V (normL (rs.length + 1) (acrL g rs)) 0 := by
      have h3 := upr_first (low (muL (rs.length + 1) (pickL (rs.length + 1) (acrL g rs))))
      have h4 : upr (low (muL (rs.length + 1) (pickL (rs.length + 1) (acrL g rs)))) = normL (rs.length + 1) (acrL g rs) := (if_pos hc).symm
      rw [h4, find_at (t := 0) (by rw [hlen]; omega) (fun i hi => absurd hi (by omega)) hn0] at h3
      have : V (normL (rs.length + 1) (acrL g rs)) 0 = (normL (rs.length + 1) (acrL g rs)).getD 0 0 := rfl
      omega
    have hall : ∀ i, i < rs.length + 1 → 0 < V (normL (rs.length + 1) (acrL g rs)) i := fun i hi => by
      have h3 := hpar i 0 hi (by omega)
      have h4 := hpos 0 (by omega)
      have h5 := hpos i hi
      have h6 : 0 < V (normL (rs.length + 1) (acrL g rs)) i * a 0 := by rw [h3]; exact Int.mul_pos hf h5
      exact Int.pos_of_mul_pos_left h6 h4
    unfold wayB
    rw [Bool.and_eq_true]
    refine ⟨hb, ?_⟩
    have : (wayN g rs).any lowB = false := by
      rw [List.any_eq_false]
      intro z hz
      obtain ⟨i, hi, rfl⟩ := List.getElem_of_mem hz
      have h3 := hall i (by unfold wayN at hi; omega)
      have h4 : V (normL (rs.length + 1) (acrL g rs)) i = (wayN g rs)[i] := by
        show (wayN g rs).getD i 0 = _
        simp [hi]
      rw [h4] at h3
      simp only [lowB, decide_eq_true_eq]
      omega
    simp [this]

end Go.Proofs.YtknomkajibfmlaaGreat

/- Farkas's lemma (after Bartl): what is no sum of so much of rows lies beyond a plane that they don't cross (pure). -/
namespace Go.Proofs.YtknomkajibfmlaaGreat
open Lin

/-- So much of each row, added: the j-th number. -/
def sm (t : List (Nat → Int)) (a : Nat → Int) (j : Nat) : Int := sumN t.length fun i => a i * (t.getD i fun _ => 0) j

theorem sumN_shift : ∀ (n : Nat) (f : Nat → Int), sumN (n + 1) f = f 0 + sumN n fun i => f (i + 1)
  | 0, f => by simp [sumN]
  | n + 1, f => by
    have h := sumN_shift n f
    show sumN (n + 1) f + f (n + 1) = f 0 + (sumN n (fun i => f (i + 1)) + f (n + 1))
    rw [h]; omega

theorem sm_cons (r : Nat → Int) (t : List (Nat → Int)) (a : Nat → Int) (j : Nat) : sm (r :: t) a j = a 0 * r j + sm t (fun i => a (i + 1)) j := by
  unfold sm
  rw [List.length_cons, sumN_shift]
  rfl

theorem sm_nil (a : Nat → Int) (j : Nat) : sm [] a j = 0 := rfl

theorem sm_lc (t : List (Nat → Int)) (x y : Int) (a b : Nat → Int) (j : Nat) : sm t (fun i => x * a i + y * b i) j = x * sm t a j + y * sm t b j := by
  unfold sm
  rw [← sumN_mul, ← sumN_mul, ← sumN_add]
  exact sumN_congr fun i _ => by grind

theorem sm_congr {t : List (Nat → Int)} {a b : Nat → Int} (h : ∀ i, i < t.length → a i = b i) (j : Nat) : sm t a j = sm t b j :=
  sumN_congr fun i hi => by rw [h i hi]

/-- A direction's product with a sum. -/
theorem dot_sm (d : Nat) (c : Nat → Int) (t : List (Nat → Int)) (a : Nat → Int) : dot d c (sm t a) = sumN t.length fun i => a i * dot d c (t.getD i fun _ => 0) := by
  unfold dot sm
  have : (fun j => c j * sumN t.length fun i => a i * (t.getD i fun _ => 0) j) = fun j => sumN t.length fun i => c j * (a i * (t.getD i fun _ => 0) j) := by
    funext j; rw [sumN_mul]
  rw [this, sumN_swap]
  refine sumN_congr fun i _ => ?_
  rw [← sumN_mul]
  exact sumN_congr fun j _ => by grind

theorem sumN_nonpos {n : Nat} {f : Nat → Int} (h : ∀ i, i < n → f i ≤ 0) : sumN n f ≤ 0 := by
  induction n with
  | zero => simp [sumN]
  | succ n ih =>
    have h1 := ih fun i hi => h i (by omega)
    have h2 := h n (by omega)
    show sumN n f + f n ≤ 0
    omega

theorem getD_memF {Z : List (Nat → Int)} {i : Nat} (h : i < Z.length) : (Z.getD i fun _ => 0) ∈ Z := by simp [h]

/-- The goal is a sum of so much of rows, from 0 on. -/
def InC (d : Nat) (Z : List (Nat → Int)) (g : Nat → Int) : Prop :=
  ∃ (s : Int) (a : Nat → Int), 0 < s ∧ (∀ i, i < Z.length → 0 ≤ a i) ∧ ∀ j, j < d → s * g j = sm Z a j

theorem farkas (d : Nat) : ∀ (n : Nat) (Z : List (Nat → Int)), Z.length = n → ∀ g : Nat → Int, InC d Z g ∨ ∃ c : Nat → Int, (∀ z ∈ Z, dot d c z ≤ 0) ∧ 0 < dot d c g := by
  intro n
  induction n with
  | zero =>
    intro Z hZ g
    have : Z = [] := List.eq_nil_of_length_eq_zero hZ
    subst this
    by_cases h : ∃ i, i < d ∧ g i ≠ 0
    · exact .inr ⟨g, fun z hz => by simp at hz, dot_pos h⟩
    · refine .inl ⟨1, fun _ => 0, by decide, fun i hi => by simp at hi, fun j hj => ?_⟩
      rw [sm_nil]
      have : g j = 0 := Classical.byContradiction fun hne => h ⟨j, hj, hne⟩
      rw [this]; rfl
  | succ n ih =>
    intro Z hZ g
    match Z, hZ with
    | z0 :: Z', hZ =>
      have hl : Z'.length = n := by simpa using hZ
      rcases ih Z' hl g with ⟨s, a, hs, ha, he⟩ | ⟨c, hc, hg⟩
      · refine .inl ⟨s, fun i => if i = 0 then 0 else a (i - 1), hs, fun i hi => ?_, fun j hj => ?_⟩
        · by_cases h0 : i = 0
          · simp [h0]
          · simp only [h0, if_false]
            exact ha _ (by simp at hi; omega)
        · rw [sm_cons, he j hj]
          simp
      · by_cases hz0 : dot d c z0 ≤ 0
        · exact .inr ⟨c, fun z hz => by
            rcases List.mem_cons.1 hz with rfl | hz
            · exact hz0
            · exact hc z hz, hg⟩
        · obtain ⟨p, hp⟩ : ∃ p, p = dot d c z0 := ⟨_, rfl⟩
          have hp0 : 0 < p := by omega
          rcases ih (Z'.map fun z => fun k => p * z k + (-(dot d c z)) * z0 k) (by simpa using hl) (fun k => p * g k + (-(dot d c g)) * z0 k) with ⟨s, a, hs, ha, he⟩ | ⟨e, h1, h2⟩
          · have key : ∀ j, sm (Z'.map fun z => fun k => p * z k + (-(dot d c z)) * z0 k) a j = p * sm Z' a j - dot d c (sm Z' a) * z0 j := by
              intro j
              rw [dot_sm]
              unfold sm
              rw [List.length_map, ← sumN_mul, ← sumN_mul_right, Int.sub_eq_add_neg, ← sumN_neg, ← sumN_add]
              refine sumN_congr fun i hi => ?_
              have e1 : (Z'.map fun z => fun k => p * z k + (-(dot d c z)) * z0 k).getD i (fun _ => 0) = fun k => p * (Z'.getD i fun _ => 0) k + (-(dot d c (Z'.getD i fun _ => 0))) * z0 k := by
                simp [hi]
              rw [e1]
              grind
            have hq : dot d c (sm Z' a) ≤ 0 := by
              rw [dot_sm]
              refine sumN_nonpos fun i hi => ?_
              exact Int.mul_nonpos_of_nonneg_of_nonpos (ha i (by simpa using hi)) (hc _ (getD_memF hi))
            refine .inl ⟨s * p, fun i => if i = 0 then s * dot d c g - dot d c (sm Z' a) else p * a (i - 1), Int.mul_pos hs hp0, fun i hi => ?_, fun j hj => ?_⟩
            · by_cases h0 : i = 0
              · simp only [h0, if_true]
                have := Int.mul_pos hs hg
                omega
              · simp only [h0, if_false]
                exact Int.mul_nonneg (Int.le_of_lt hp0) (ha _ (by simp at hi ⊢; omega))
            · have h3 := he j hj
              rw [key j] at h3
              rw [sm_cons]
              have e2 : sm Z' (fun i => if i + 1 = 0 then s * dot d c g - dot d c (sm Z' a) else p * a (i + 1 - 1)) j = p * sm Z' a j := by
                have := sm_lc Z' p 0 a a j
                rw [Int.zero_mul, Int.add_zero] at this
                rw [← this]
                exact sm_congr (fun i _ => by simp) j
              rw [e2]
              simp only [if_true]
              grind
          · refine .inr ⟨fun k => p * e k + (-(dot d e z0)) * c k, fun z hz => ?_, ?_⟩
            · rw [dot_lc]
              rcases List.mem_cons.1 hz with rfl | hz
              · rw [← hp]; have : p * dot d e z + -dot d e z * p = 0 := by grind
                omega
              · have h3 := h1 _ (List.mem_map.2 ⟨z, hz, rfl⟩)
                rw [dot_comm, dot_lc, dot_comm d z, dot_comm d z0] at h3
                have : p * dot d e z + -dot d e z0 * dot d c z = p * dot d e z + -dot d c z * dot d e z0 := by grind
                omega
            · rw [dot_lc]
              rw [dot_comm, dot_lc, dot_comm d g, dot_comm d z0] at h2
              have : p * dot d e g + -dot d e z0 * dot d c g = p * dot d e g + -dot d c g * dot d e z0 := by grind
              omega

end Go.Proofs.YtknomkajibfmlaaGreat
