/- Rows of points around 0 are the places where the points, as rows, are met. -/
import Derived.Test.YtnjcpkodihfmdaaGreatPqA
import Derived.Test.YtnjcpkodihfmdaaGreatLtA
namespace Go.Proofs.YtnjcpkodihfmdaaGreat
open Lin

/-! Lists that no number but 1 divides. -/

theorem gc_pos {l : List Int} {z : Int} (h : z ∈ l) (hz : z ≠ 0) : gc l ≠ 0 := fun e => by
  have := gc_dvd h
  rw [e] at this
  exact hz (by simpa using this)

theorem low_mul (l : List Int) : (low l).map ((gc l : Int) * ·) = l := by
  unfold low
  rw [List.map_map]
  have : ∀ z ∈ l, (((gc l : Int) * ·) ∘ (· / (gc l : Int))) z = z := fun z hz => by
    show (gc l : Int) * (z / (gc l : Int)) = z
    exact Int.mul_ediv_cancel' (gc_dvd hz)
  rw [List.map_congr_left this, List.map_id']

theorem gc_low {l : List Int} (h : gc l ≠ 0) : gc (low l) = 1 := by
  have e := gc_scale (gc l : Int) (low l)
  rw [low_mul] at e
  simp only [Int.natAbs_natCast] at e
  have h2 : gc l * 1 = gc l * gc (low l) := by omega
  exact (Nat.eq_of_mul_eq_mul_left (Nat.pos_of_ne_zero h) h2).symm

theorem neg_scale (l : List Int) : (l.map fun z => -z) = l.map ((-1 : Int) * ·) := List.map_congr_left fun z _ => by omega

theorem gc_neg (l : List Int) : gc (l.map fun z => -z) = gc l := by
  rw [neg_scale, gc_scale]
  simp

theorem gc_upr (l : List Int) : gc (upr l) = gc l := by
  unfold upr
  split
  · exact gc_neg l
  · rfl

theorem gc_snoc1 {l : List Int} {b : Int} (h : gc l = 1) : gc (l ++ [b]) = 1 := by
  have hd : ∀ z ∈ l, ((gc (l ++ [b]) : Nat) : Int) ∣ z := fun z hz => gc_dvd (List.mem_append_left _ hz)
  have e : (l.map (· / ((gc (l ++ [b]) : Nat) : Int))).map (((gc (l ++ [b]) : Nat) : Int) * ·) = l := by
    rw [List.map_map]
    have : ∀ z ∈ l, ((((gc (l ++ [b]) : Nat) : Int) * ·) ∘ (· / ((gc (l ++ [b]) : Nat) : Int))) z = z := fun z hz => Int.mul_ediv_cancel' (hd z hz)
    rw [List.map_congr_left this, List.map_id']
  have e2 := gc_scale ((gc (l ++ [b]) : Nat) : Int) (l.map (· / ((gc (l ++ [b]) : Nat) : Int)))
  rw [e, h] at e2
  simp only [Int.natAbs_natCast] at e2
  exact Nat.eq_one_of_mul_eq_one_right e2.symm

theorem low_one {l : List Int} (h : gc l = 1) : low l = l := by
  unfold low
  rw [h]
  simp

theorem upr_or (l : List Int) : upr l = l ∨ upr l = l.map fun z => -z := by
  unfold upr
  split
  · exact Or.inr rfl
  · exact Or.inl rfl

theorem neg_neg_map (l : List Int) : (l.map fun z => -z).map (fun z => -z) = l := by
  rw [List.map_map]
  have : ∀ z ∈ l, ((fun z : Int => -z) ∘ fun z => -z) z = z := fun z _ => Int.neg_neg z
  rw [List.map_congr_left this, List.map_id']

theorem prim_eq {x y : List Int} {a b : Int} (hx : gc x = 1) (hy : gc y = 1) (ha : a ≠ 0) (hb : b ≠ 0) (h : x.map (a * ·) = y.map (b * ·)) : x = y ∨ x = y.map fun z => -z := by
  have e := norm_eq ha hb h
  rw [low_one hx, low_one hy] at e
  rcases upr_or x with h1 | h1 <;> rcases upr_or y with h2 | h2
  · exact Or.inl (by rw [← h1, e, h2])
  · exact Or.inr (by rw [← h1, e, h2])
  · refine Or.inr ?_
    have : (x.map fun z => -z) = y := by rw [← h1, e, h2]
    rw [← this, neg_neg_map]
  · refine Or.inl ?_
    have : (x.map fun z => -z) = y.map fun z => -z := by rw [← h1, e, h2]
    rw [← neg_neg_map x, this, neg_neg_map]

theorem norm_gc {d : Nat} {m : List (List Int)} (hl : (pickL d m).length + 1 = d) : gc (normL d m) = 1 := by
  obtain ⟨⟨i, hi, hne⟩, _, _⟩ := norm_spec hl
  have hnl : normL d m = upr (low (muL d (pickL d m))) := if_pos hl
  have hmem : V (normL d m) i ∈ normL d m := by
    unfold V
    have hlen : (normL d m).length = d := norm_len (by unfold normB; exact decide_eq_true hl)
    simp [show i < (normL d m).length by omega]
  have h0 := gc_pos hmem hne
  rw [hnl, gc_upr] at h0 ⊢
  refine gc_low fun e => h0 ?_
  have hz : ∀ z ∈ muL d (pickL d m), z = 0 := fun z hz => by
    have := gc_dvd hz
    rw [e] at this
    simpa using this
  have hl0 : low (muL d (pickL d m)) = muL d (pickL d m) := by
    unfold low
    have : ∀ z ∈ muL d (pickL d m), z / ((gc (muL d (pickL d m)) : Nat) : Int) = id z := fun z h => by rw [hz z h]; simp
    rw [List.map_congr_left this, List.map_id]
  rw [hl0]
  exact e

/-! Rows with 1 behind. -/

theorem dot_one {d : Nat} {c : List Int} (hc : c.length = d) (b : Int) (u : Nat → Int) : dot (d + 1) (V (c ++ [b])) u = dot d (V c) u + b * u d := by
  have h := row_app (a := c) (b := b) hc
  show sumN d (fun i => V (c ++ [b]) i * u i) + V (c ++ [b]) d * u d = _
  have e1 : V (c ++ [b]) d = b := h.2.2.1
  rw [e1]
  have e2 : sumN d (fun i => V (c ++ [b]) i * u i) = sumN d fun i => V c i * u i := sumN_congr fun i hi => by rw [h.2.2.2 i hi]
  rw [e2]
  rfl

theorem ngR_one {d : Nat} {c : List Int} (hc : c.length = d) : ngR d (c ++ [1]) = c ++ [-1] := by
  have h := row_app (a := c) (b := 1) hc
  unfold ngR
  rw [h.2.1, h.2.2.1]

theorem mem_ptsD {R : List (List Int)} {d : Nat} {y : List Int} : y ∈ ptsD R d ↔ ∃ t, t.Sublist R ∧ t.length = d ∧ ptT R d t = some y := by
  have he : (ext R.length d 0).map (pks R []) = chs d R := by
    have h := chz_ext R [] d 0
    rw [List.drop_zero] at h
    rw [chs_chz, h]
  unfold ptsD
  simp only [List.mem_flatMap, Option.mem_toList]
  constructor
  · rintro ⟨c, hc, h⟩
    have hm : pks R [] c ∈ chs d R := by rw [← he]; exact List.mem_map.2 ⟨c, chosen_ext.1 hc, rfl⟩
    obtain ⟨h1, h2⟩ := chs_sub _ _ _ hm
    exact ⟨_, h1, h2, h⟩
  · rintro ⟨t, h1, h2, h3⟩
    have hm : t ∈ chs d R := by rw [← h2]; exact sub_chs h1
    rw [← he] at hm
    obtain ⟨c, hc, rfl⟩ := List.mem_map.1 hm
    exact ⟨c, chosen_ext.2 hc, h3⟩

/-- The points as rows. -/
def withOne (C : List (List Int)) : List (List Int) := C.map (· ++ [1])

theorem row_gc {d : Nat} {P : List (List Int)} {r : List Int} (hr : r ∈ rowsC P [] d P) : gc r = 1 := by
  obtain ⟨t, hts, htl, hrt⟩ := mem_rowsC.1 hr
  obtain ⟨σ, hσ, hnb, hre⟩ := rowT_form htl hrt
  rw [hre, gc_scale, gc_snoc1 (norm_gc (of_decide_eq_true hnb))]
  rcases hσ with rfl | rfl <;> rfl

theorem list_scale {x y : List Int} {n : Nat} {a b : Int} (hx : x.length = n) (hy : y.length = n) (h : ∀ i, i < n → a * V x i = b * V y i) : x.map (a * ·) = y.map (b * ·) := by
  apply List.ext_getElem (by simp [hx, hy])
  intro i h1 h2
  have hi : i < n := by simp at h1; omega
  have := h i hi
  simp only [V, List.getD_eq_getElem?_getD] at this
  rw [List.getElem?_eq_getElem (by omega), List.getElem?_eq_getElem (by omega)] at this
  simpa using this

/-- What the points, as rows, meet alone and keep, is a row of theirs. -/
theorem polar_to {d : Nat} {C : List (List Int)} (hg : Good d C) (hpos : ∀ r ∈ rowsC C [] d C, 0 < r.getD d 0) {y : List Int} (hy : y ∈ ptsD (withOne C) d) : y ∈ rowsC C [] d C := by
  have hd1 := hg.d1
  have hbox : ∀ c ∈ C, c.length = d := fun c hc => (hg.box c hc).1
  obtain ⟨t, hts, htl, hpt⟩ := mem_ptsD.1 hy
  unfold ptT at hpt
  split at hpt
  · rename_i hcond
    obtain ⟨hnb, hx0, hK⟩ := hcond
    simp only [Option.some.injEq] at hpt
    have hl : (pickL (d + 1) (t.map (ngR d))).length + 1 = d + 1 := of_decide_eq_true hnb
    obtain ⟨_, hn1, hn2⟩ := norm_spec hl
    have hXl := norm_len hnb
    have hgX := norm_gc hl
    obtain ⟨X, hX⟩ : ∃ X, X = normL (d + 1) (t.map (ngR d)) := ⟨_, rfl⟩
    rw [← hX] at hn1 hn2 hXl hgX hx0
    -- y is X, or X turned
    obtain ⟨σ, hσ, hyV, hyd, hgy, hyl⟩ : ∃ σ : Int, (σ = 1 ∨ σ = -1) ∧ (∀ i, V y i = σ * V X i) ∧ 0 < V y d ∧ gc y = 1 ∧ y.length = d + 1 := by
      rw [← hpt]
      unfold ptY
      rw [← hX]
      have hxd : X.getD d 0 = V X d := rfl
      split
      · rename_i hneg
        refine ⟨-1, Or.inr rfl, fun i => by rw [V_neg]; omega, ?_, by rw [gc_neg]; exact hgX, by simp [hXl]⟩
        rw [V_neg]; omega
      · rename_i hneg
        exact ⟨1, Or.inl rfl, fun i => by omega, by omega, hgX, hXl⟩
    have hσ0 : σ ≠ 0 := by rcases hσ with rfl | rfl <;> decide
    -- the points of t
    have hin : ∀ r ∈ t, ∃ c, c ∈ C ∧ r = c ++ [1] := fun r hr => by
      obtain ⟨c, hc, rfl⟩ := List.mem_map.1 (hts.subset hr)
      exact ⟨c, hc, rfl⟩
    have hyd2 : ∀ c, c ∈ C → (c ++ [1]) ∈ t → dot d (V c) (V y) = V y d := fun c hc hct => by
      have h1 := hn1 (ngR d (c ++ [1])) (List.mem_map.2 ⟨_, hct, rfl⟩)
      rw [ngR_one (hbox c hc), dot_one (hbox c hc)] at h1
      have e : dot d (V c) (V y) = σ * dot d (V c) (V X) := by
        unfold dot
        rw [← sumN_mul]
        exact sumN_congr fun i _ => by rw [hyV i]; grind
      rw [e, hyV d]
      have : dot d (V c) (V X) = V X d := by omega
      rw [this]
    have hall : ∀ c ∈ C, dot d (V c) (V y) ≤ V y d := fun c hc => by
      rw [hpt] at hK
      unfold ptK at hK
      have h1 := List.all_eq_true.1 hK (c ++ [1]) (List.mem_map.2 ⟨c, hc, rfl⟩)
      have h2 := of_decide_eq_true h1
      have h := row_app (a := c) (b := 1) (hbox c hc)
      rw [h.2.1, h.2.2.1, dotL_eq (hbox c hc)] at h2
      show _ ≤ y.getD d 0
      omega
    obtain ⟨x, hxC, hxt⟩ : ∃ x, x ∈ C ∧ (x ++ [1]) ∈ t := by
      cases t with
      | nil => simp at htl; omega
      | cons a t =>
        obtain ⟨c, hc, rfl⟩ := hin a (by simp)
        exact ⟨c, hc, by simp⟩
    have hxy := hyd2 x hxC hxt
    have hne : ∃ i, i < d ∧ V y i ≠ 0 := Classical.byContradiction fun hn => by
      have h0 : ∀ i, i < d → V y i = 0 := fun i hi => Classical.byContradiction fun h => hn ⟨i, hi, h⟩
      have : dot d (V x) (V y) = 0 := by
        have e : dot d (V x) (V y) = dot d (V x) (fun _ => 0) := dot_congr (fun _ _ => rfl) h0
        rw [e]
        unfold dot
        have : ∀ n, sumN n (fun i => V x i * 0) = 0 := fun n => by
          induction n with
          | zero => rfl
          | succ n ih => simp only [sumN]; rw [ih]; omega
        exact this d
      omega
    obtain ⟨r, hr, hrb, s, q, hs, hq, hsq⟩ := side_some (c := V y) hg.box (good_span hg) hxC hne (fun c hc => by
      rw [dot_comm d (V y) (V c), dot_comm d (V y) (V x), hxy]; exact hall c hc) (fun u hu => by
      have hpar := hn2 (fun i => if i = d then dot d u (V x) else u i) (fun m hm => by
        obtain ⟨m', hm', rfl⟩ := List.mem_map.1 hm
        obtain ⟨c, hc, rfl⟩ := hin m' hm'
        rw [ngR_one (hbox c hc), dot_one (hbox c hc)]
        have e1 : dot d (V c) (fun i => if i = d then dot d u (V x) else u i) = dot d (V c) u := dot_congr (fun _ _ => rfl) (fun i hi => by rw [if_neg (by omega)])
        rw [e1, if_pos rfl]
        have e2 := hu c hc (by rw [dot_comm d (V y) (V c), dot_comm d (V y) (V x), hxy, hyd2 c hc hm'])
        rw [dot_comm d (V c) u, e2]
        omega)
      intro i j hi hj
      have h := hpar i j (by omega) (by omega)
      simp only [if_neg (show ¬ i = d by omega), if_neg (show ¬ j = d by omega)] at h
      rw [hyV i, hyV j]
      grind)
    have hrl : r.length = d + 1 := (rowsC_fit hg.box hd1 (by have := hg.d4; omega) (fun _ => Iff.rfl) hr).len
    have hlast : s * V y d = q * V r d := by
      have e1 : s * dot d (V x) (V y) = q * dot d (V x) (V r) := by
        unfold dot
        rw [← sumN_mul, ← sumN_mul]
        exact sumN_congr fun i hi => by have := hsq i hi; grind
      rw [hxy] at e1
      have e2 : V r d = dot d (V x) (V r) := by rw [dot_comm]; exact hrb
      rw [e2]
      exact e1
    have hsc := list_scale (x := y) (y := r) (n := d + 1) (a := s) (b := q) hyl hrl (fun i hi => by
      by_cases e : i = d
      · rw [e]; exact hlast
      · exact hsq i (by omega))
    rcases prim_eq hgy (row_gc hr) (by omega) (by omega) hsc with e | e
    · rw [e]; exact hr
    · exfalso
      have h1 := hpos r hr
      have h2 : V y d = - V r d := by rw [e, V_neg]
      have h3 : V r d = r.getD d 0 := rfl
      omega
  · simp at hpt

/-- A row of the points, around 0, is where some of them, as rows, are met alone; and all keep it. -/
theorem polar_from {d : Nat} {C : List (List Int)} (hg : Good d C) {r : List Int} (hr : r ∈ rowsC C [] d C) (hpos : 0 < r.getD d 0) : r ∈ ptsD (withOne C) d := by
  have hd1 := hg.d1
  have hbox : ∀ c ∈ C, c.length = d := fun c hc => (hg.box c hc).1
  have hrow := rowsC_fit hg.box hd1 (by have := hg.d4; omega) (fun _ => Iff.rfl) hr
  obtain ⟨t, hts, htl, hrt⟩ := mem_rowsC.1 hr
  obtain ⟨τ, hτ, hnb, hre⟩ := rowT_form htl hrt
  have hal := norm_len hnb
  obtain ⟨_, hn1, hn2⟩ := norm_spec (of_decide_eq_true hnb)
  have hτ0 : τ ≠ 0 := by rcases hτ with rfl | rfl <;> decide
  have ht0 : t.getD 0 [] ∈ t := by simp [show 0 < t.length by omega]
  have hVr : ∀ i, i < d → V r i = τ * V (normL d (diffL t)) i := fun i hi => by
    rw [hre]
    have h := V_map (normL d (diffL t) ++ [dotL (normL d (diffL t)) (t.getD 0 [])]) τ i
    rw [h, (row_app hal).2.2.2 i hi]
  have hlast : r.getD d 0 = τ * dotL (normL d (diffL t)) (t.getD 0 []) := by
    rw [hre]
    have h := V_map (normL d (diffL t) ++ [dotL (normL d (diffL t)) (t.getD 0 [])]) τ d
    simp only [V] at h
    rw [h, (row_app hal).2.2.1]
  have hdr : ∀ x : Nat → Int, dot d (V r) x = τ * dot d (V (normL d (diffL t))) x := fun x => by
    unfold dot
    rw [← sumN_mul]
    exact sumN_congr fun i hi => by rw [hVr i hi, Int.mul_assoc]
  have hks : ∀ y ∈ t, dot d (V (normL d (diffL t))) (V y) = dot d (V (normL d (diffL t))) (V (t.getD 0 [])) := fun y hy => by
    rcases mem_head_drop hy with e | hy'
    · rw [← e]
    · have h1 := hn1 (subL y (t.getD 0 [])) (List.mem_map.2 ⟨y, hy', rfl⟩)
      rw [dot_comm, dot_subL _ (hbox y (hts.subset hy))] at h1
      omega
  have hmeet : ∀ y ∈ t, dot d (V y) (V r) = V r d := fun y hy => by
    rw [dot_comm, hdr, hks y hy]
    show _ = r.getD d 0
    rw [hlast, dotL_eq hal]
  have hone : ∀ u : Nat → Int, (∀ y ∈ t, dot d u (V y) = dot d u (V (t.getD 0 []))) → Par d u (V r) := fun u hu => by
    have h1 : Par d u (V (normL d (diffL t))) := hn2 u fun q hq => by
      obtain ⟨y, hy, rfl⟩ := List.mem_map.1 hq
      have hyt := List.mem_of_mem_drop hy
      rw [dot_comm, dot_subL _ (hbox y (hts.subset hyt)), hu y hyt]
      omega
    intro i j hi hj
    have := h1 i j hi hj
    rw [hVr i hi, hVr j hj]
    grind
  have hM : (withOne t).map (ngR d) = t.map (· ++ [-1]) := by
    unfold withOne
    rw [List.map_map]
    exact List.map_congr_left fun c hc => ngR_one (hbox c (hts.subset hc))
  have hrd : V r d ≠ 0 := by have : V r d = r.getD d 0 := rfl; omega
  have hcount := greedy_count (pick_greedy (d + 1) (t.map (· ++ [-1]))) (a := V r) ⟨d, by omega, hrd⟩ (fun q hq => by
    obtain ⟨l, hl, rfl⟩ := mem_fm.1 hq
    obtain ⟨c, hc, rfl⟩ := List.mem_map.1 hl
    rw [dot_one (hbox c (hts.subset hc)), hmeet c hc]
    omega) (fun u hu => by
    have hud : ∀ c ∈ t, dot d u (V c) = u d := fun c hc => by
      have h := hu (V (c ++ [-1])) (mem_fm.2 ⟨_, List.mem_map.2 ⟨c, hc, rfl⟩, rfl⟩)
      rw [dot_one (hbox c (hts.subset hc)), dot_comm] at h
      omega
    have hp := hone u (fun y hy => by rw [hud y hy, hud _ ht0])
    -- the last number, too
    have hend : ∀ i, i < d → u i * V r d = u d * V r i := fun i hi => by
      rw [← hmeet _ ht0, ← hud _ ht0]
      have e1 : u i * dot d (V (t.getD 0 [])) (V r) = sumN d fun k => u i * (V (t.getD 0 []) k * V r k) := by unfold dot; rw [sumN_mul]
      have e2 : dot d u (V (t.getD 0 [])) * V r i = sumN d fun k => u k * V (t.getD 0 []) k * V r i := by unfold dot; rw [sumN_mul_right]
      rw [e1, e2]
      exact sumN_congr fun k hk => by have := hp i k hi hk; grind
    intro i j hi hj
    by_cases ei : i = d
    · by_cases ej : j = d
      · rw [ei, ej]
      · rw [ei]
        exact (hend j (by omega)).symm
    · by_cases ej : j = d
      · rw [ej]; exact hend i (by omega)
      · exact hp i j (by omega) (by omega))
  rw [fm_length] at hcount
  have hl : (pickL (d + 1) ((withOne t).map (ngR d))).length + 1 = d + 1 := by rw [hM]; exact hcount
  have hnB : normB (d + 1) ((withOne t).map (ngR d)) = true := decide_eq_true hl
  obtain ⟨⟨p, hp, hXp⟩, hm1, hm2⟩ := norm_spec hl
  have hXl := norm_len hnB
  have hgX := norm_gc hl
  have hparX := hm2 (V r) (fun q hq => by
    rw [hM] at hq
    obtain ⟨c, hc, rfl⟩ := List.mem_map.1 hq
    rw [dot_one (hbox c (hts.subset hc)), hmeet c hc]
    omega)
  have hrp : V r p ≠ 0 := fun e => by
    have h := hparX d p (by omega) hp
    rw [e] at h
    have h2 : V r d * V (normL (d + 1) ((withOne t).map (ngR d))) p = 0 := by omega
    rcases Int.mul_eq_zero.1 h2 with h3 | h3
    · exact hrd h3
    · exact hXp h3
  have hsc := list_scale (x := r) (y := normL (d + 1) ((withOne t).map (ngR d))) (n := d + 1) (a := V (normL (d + 1) ((withOne t).map (ngR d))) p) (b := V r p) hrow.len hXl (fun i hi => by
    have := hparX i p hi hp
    grind)
  have hrY : ptY d (withOne t) = r ∧ (normL (d + 1) ((withOne t).map (ngR d))).getD d 0 ≠ 0 := by
    unfold ptY
    rcases prim_eq (row_gc hr) hgX hXp hrp hsc with e | e
    · rw [← e]
      rw [if_neg (by omega)]
      exact ⟨rfl, by omega⟩
    · have e2 : V r d = - V (normL (d + 1) ((withOne t).map (ngR d))) d := by rw [e, V_neg]
      have e3 : V r d = r.getD d 0 := rfl
      have e4 : V (normL (d + 1) ((withOne t).map (ngR d))) d = (normL (d + 1) ((withOne t).map (ngR d))).getD d 0 := rfl
      rw [if_pos (by omega), ← e]
      exact ⟨rfl, by omega⟩
  refine mem_ptsD.2 ⟨withOne t, hts.map _, by simp [withOne, htl], ?_⟩
  unfold ptT
  rw [hrY.1]
  refine if_pos ⟨hnB, hrY.2, ?_⟩
  unfold ptK
  rw [List.all_eq_true]
  intro m hm
  obtain ⟨c, hc, rfl⟩ := List.mem_map.1 hm
  have h := row_app (a := c) (b := 1) (hbox c hc)
  rw [h.2.1, h.2.2.1, dotL_eq (hbox c hc)]
  have h1 := hrow.all c hc
  rw [dot_comm] at h1
  exact decide_eq_true (by omega)

end Go.Proofs.YtnjcpkodihfmdaaGreat
