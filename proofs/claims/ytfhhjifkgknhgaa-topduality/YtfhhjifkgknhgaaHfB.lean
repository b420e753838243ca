import Derived.Test.YtfhhjifkgknhgaaFkB
import Derived.Test.YtfhhjifkgknhgaaHf4
import Derived.Test.YtfhhjifkgknhgaaCutB
/- Cuts that are not open: what is greatest is met at a corner of rows alone (pure). -/
namespace Go.Proofs.Ytfhhjifkgknhgaa
open Lin

def metP (d : Nat) (rows : List (List Int)) (c : Nat → Int) : List (List Int) := rows.filter fun r => decide (dot d (V r) c = V r d * c d)

/-- As basic, by rows alone, where rows leave no direction free. -/
theorem basicP {d : Nat} {rows : List (List Int)} (hl : ∀ r ∈ rows, r.length = d + 1) (hpt : ∀ v : Nat → Int, (∃ i, i < d ∧ v i ≠ 0) → ∃ r ∈ rows, dot d (V r) v ≠ 0) {x : Nat → Int} {w : Int} (hf : Fea d rows x w) {G : Nat → Int}
    (hG : ∀ v : Nat → Int, (∀ r ∈ rows, dot d (V r) x = V r d * w → dot d (V r) v = 0) → dot d G v = 0) :
    ∃ t y, t.Sublist rows ∧ t.length = d ∧ ptT rows d t = some y ∧ 0 < V y d ∧ dot d G (V y) * w = dot d G x * V y d := by
  have hZr : ∀ r ∈ rows, hom d r ∈ rows.map (hom d) := fun r hr => List.mem_map.2 ⟨r, hr, rfl⟩
  have hZc : ∀ z ∈ rows.map (hom d), ∃ r ∈ rows, z = hom d r := fun z hz => by
    obtain ⟨r, hr, rfl⟩ := List.mem_map.1 hz
    exact ⟨r, hr, rfl⟩
  have hcx : ∀ r ∈ rows, dot (d + 1) (fun k => if k = d then w else x k) (hom d r) = dot d (V r) x - V r d * w := fun r _ => by
    rw [hom_dot]
    simp only [if_true]
    congr 1
    exact dot_congr (fun _ _ => rfl) fun i hi => by rw [if_neg (by omega)]
  have hG0 : dot d G (fun k => if k = d then w else x k) = dot d G x := dot_congr (fun _ _ => rfl) fun i hi => by rw [if_neg (by omega)]
  obtain ⟨c, k1, k2, k3, k4⟩ := to_corner (d := d) (Z := rows.map (hom d)) (G := G) (fun v hv hne => by
      obtain ⟨r, hr, hrv⟩ := hpt v hne
      refine ⟨_, hZr r hr, ?_⟩
      rw [hom_dot, hv]
      omega) _ (fun k => if k = d then w else x k) (Nat.le_refl _) (fun z hz => by
      obtain ⟨r, hr, rfl⟩ := hZc z hz
      rw [hcx r hr]; have := hf.2 r hr; omega) (by simp only [if_true]; exact hf.1) (fun v hv hz => hG v fun r hr hrt => by
      have := hz _ (hZr r hr) (by rw [hcx r hr, hrt]; omega)
      rw [hom_dot, hv] at this
      omega)
  rw [hG0] at k3
  simp only [if_true] at k3
  have hcf : ∀ r ∈ rows, dot d (V r) c ≤ V r d * c d := fun r hr => by
    have := k1 _ (hZr r hr)
    rw [hom_dot] at this
    omega
  have hspan : ∀ v : Nat → Int, (∀ r ∈ metP d rows c, dot d (V r) v = 0) → ∀ i, i < d → v i = 0 := by
    intro v hv i hi
    have := k4 (fun k => if k = d then 0 else v k) (by simp) (fun z hz h0 => by
      obtain ⟨r, hr, rfl⟩ := hZc z hz
      rw [hom_dot] at h0 ⊢
      simp only [if_true]
      have h1 : dot d (V r) (fun k => if k = d then 0 else v k) = dot d (V r) v := dot_congr (fun _ _ => rfl) fun i hi => by rw [if_neg (by omega)]
      rw [h1, hv r (by
        unfold metP
        rw [List.mem_filter]
        exact ⟨hr, by simp; omega⟩)]
      omega) i hi
    rw [if_neg (by omega)] at this
    exact this
  have hg := pick_greedy d (metP d rows c)
  have hfull := (greedy_full hg).2 fun v hv => hspan v fun r hr => hv (V r) (mem_fm.2 ⟨r, hr, rfl⟩)
  rw [fm_length] at hfull
  have hsub := pick_sub d (metP d rows c)
  have hmem : ∀ r ∈ pickL d (metP d rows c), r.length = d + 1 ∧ dot d (V r) c = V r d * c d := fun r hr => by
    have h1 := List.mem_filter.1 (hsub.subset hr)
    exact ⟨hl r h1.1, by simpa using h1.2⟩
  obtain ⟨y, hy1, hy2, hy3⟩ := pt_at hl (fun r hr => (hmem r hr).1) k2 hcf (fun r hr => (hmem r hr).2) (fun v hv => orth_none hg.free (by rw [fm_length]; exact hfull) fun r hr => by
    obtain ⟨l, hlm, rfl⟩ := mem_fm.1 hr
    exact hv l hlm)
  refine ⟨_, y, hsub.trans List.filter_sublist, hfull, hy1, hy2, ?_⟩
  have e : dot d G (V y) * c d = dot d G c * V y d := by
    unfold dot
    rw [← sumN_mul_right, ← sumN_mul_right]
    refine sumN_congr fun i hi => ?_
    have := hy3 i (by omega)
    grind
  have k6 : c d * (dot d G (V y) * w) = c d * (dot d G x * V y d) := by
    have e1 : c d * (dot d G (V y) * w) = (dot d G (V y) * c d) * w := by grind
    have e2 : c d * (dot d G x * V y d) = (dot d G x * c d) * V y d := by grind
    rw [e1, e2, e, ← k3]; grind
  exact Int.eq_of_mul_eq_mul_left (by omega) k6

/-- What is greatest is met at a corner of rows alone. -/
theorem strongP {d : Nat} {rows tb : List (List Int)} {g : List Int} (hg : g.length = d) (hl : ∀ r ∈ rows, r.length = d + 1) (hpt : ∀ v : Nat → Int, (∃ i, i < d ∧ v i ≠ 0) → ∃ r ∈ rows, dot d (V r) v ≠ 0) {x0 : Nat → Int} {w0 : Int} (hf : Fea d rows x0 w0) (hsb : tb.Sublist rows) (hwb : wayB g tb = true)
    (hmin : ∀ t, t.Sublist rows → wayB g t = true → wS g tb * wU g t ≤ wS g t * wU g tb) :
    ∃ t y, t.Sublist rows ∧ t.length = d ∧ ptT rows d t = some y ∧ 0 < V y d ∧ dot d (V g) (V y) * wU g tb = wS g tb * V y d := by
  obtain ⟨x, w, hfx, heq, hG⟩ := opt_at hg hf hsb hwb hmin
  obtain ⟨t, y, k1, k2, k3, k4, k5⟩ := basicP hl hpt hfx (G := V g) hG
  refine ⟨t, y, k1, k2, k3, k4, ?_⟩
  have hw := hfx.1
  have e : w * (dot d (V g) (V y) * wU g tb) = w * (wS g tb * V y d) := by
    have : w * (dot d (V g) (V y) * wU g tb) = (dot d (V g) (V y) * w) * wU g tb := by grind
    rw [this, k5]
    have : dot d (V g) x * V y d * wU g tb = (dot d (V g) x * wU g tb) * V y d := by grind
    rw [this, heq]; grind
  exact Int.eq_of_mul_eq_mul_left (by omega) e

end Go.Proofs.Ytfhhjifkgknhgaa

/- Cuts with a box around them: no direction is free, no goal is open (pure). -/
namespace Go.Proofs.Ytfhhjifkgknhgaa
open Lin

/-- The whole box is among the rows. -/
def BxA (d : Nat) (rows : List (List Int)) : Prop := ∀ i, i < 2 * d → boxR d (i / 2) (i % 2) ∈ rows

theorem boxR_V {d q s i : Nat} (hi : i < d) : V (boxR d q s) i = if i = q then 1 - 2 * (s : Int) else 0 := by
  unfold V boxR
  simp [show i < d + 1 by omega, show ¬ i = d by omega]

theorem boxR_dot {d q s : Nat} (hq : q < d) (v : Nat → Int) : dot d (V (boxR d q s)) v = (1 - 2 * (s : Int)) * v q := by
  unfold dot
  rw [sumN_one (k := q) hq (fun i hi hne => by rw [boxR_V hi, if_neg hne, Int.zero_mul]), boxR_V hq, if_pos rfl]

theorem BxA.at {d : Nat} {rows : List (List Int)} (h : BxA d rows) {q s : Nat} (hq : q < d) (hs : s < 2) : boxR d q s ∈ rows := by
  have := h (2 * q + s) (by omega)
  rw [show (2 * q + s) / 2 = q by omega, show (2 * q + s) % 2 = s by omega] at this
  exact this

theorem BxA.pt {d : Nat} {rows : List (List Int)} (h : BxA d rows) : ∀ v : Nat → Int, (∃ i, i < d ∧ v i ≠ 0) → ∃ r ∈ rows, dot d (V r) v ≠ 0 := fun v ⟨i, hi, hne⟩ => by
  refine ⟨_, h.at hi (s := 0) (by omega), ?_⟩
  rw [boxR_dot hi]
  simpa using hne

theorem BxA.ways {d : Nat} {rows : List (List Int)} (h : BxA d rows) {g : List Int} (hg : g.length = d) : waysL rows g ≠ [] := fun e => by
  obtain ⟨c, h1, h2⟩ := ways_none.1 e
  rw [hg] at h1 h2
  have hc : ∀ i, i < d → c i = 0 := fun i hi => by
    have a := h1 _ (h.at hi (s := 0) (by omega))
    have b := h1 _ (h.at hi (s := 1) (by omega))
    rw [dot_comm, boxR_dot hi] at a b
    omega
  have : dot d c (V g) = 0 := dot_zero hc
  omega

theorem BxA.op {d : Nat} {rows : List (List Int)} (h : BxA d rows) : opB d rows = false := by
  unfold opB
  rw [List.any_eq_false]
  intro i _
  unfold opI
  have a := h.ways (axG_len d i 1)
  have b := h.ways (axG_len d i (-1))
  simp [List.isEmpty_iff, a, b]

theorem BxA.gm {d : Nat} {rows : List (List Int)} (h : BxA d rows) {g : List Int} (hg : g.length = d) : gmE d rows g = if empB d rows = true then 6 else 0 := by
  unfold gmE
  rw [if_neg (h.ways hg)]

end Go.Proofs.Ytfhhjifkgknhgaa
