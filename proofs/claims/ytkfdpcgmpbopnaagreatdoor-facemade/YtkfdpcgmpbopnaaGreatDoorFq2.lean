/- What FaceSays compares is the same (pure). -/
import Derived.Test.YtkfdpcgmpbopnaaGreatDoorFq1
namespace Go.Proofs.YtkfdpcgmpbopnaaGreatDoor
open Go.RowKit Lin

theorem doc_small {d : Nat} {P C s : List (List Int)} {A : List Nat} (hD : DocF d P C s A) (hn : P.length ≤ 10) : C.length ≤ 10 := by
  obtain ⟨h1, s0, h2, h3⟩ := hD.crn
  have := nodup_lenL C P (sasc_nodup h1) fun x hx => (List.mem_filter.1 ((h3 x).1 hx)).1
  omega

theorem lev_small {d : Nat} {P C s : List (List Int)} {A : List Nat} (hD : DocF d P C s A) (hn : C.length ≤ 10) {t : Nat} {lev : List (List Int)} (hl : LevOk d C A t lev) : lev.length ≤ 1024 ∧ ∀ r ∈ lev, r.length ≤ 10 := by
  constructor
  · have h1 := nodup_lenL lev (A.map memL) (sasc_nodup hl.1) fun r hr => by
      obtain ⟨a, ha, _, rfl⟩ := (hl.2 r).1 hr
      exact List.mem_map.2 ⟨a, ha, rfl⟩
    rw [List.length_map] at h1
    have h2 := hD.all.len
    have h3 : 2 ^ C.length ≤ 2 ^ 10 := Nat.pow_le_pow_right (by decide) hn
    have h4 : (2 : Nat) ^ 10 = 1024 := by decide
    omega
  · intro r hr
    obtain ⟨a, ha, _, rfl⟩ := (hl.2 r).1 hr
    exact Nat.le_trans (memL_len (hD.all.lt a ha) (by omega)) hn

/-- The counts. -/
theorem cnt_same {d : Nat} {P C s C' s' : List (List Int)} {A A' : List Nat} {LV : Nat → List (List Int)} (h : Fnd d P C s A) (hD : DocF d P C' s' A') (hL : ∀ t, t < d + 2 → LevOk d C' A' t (LV t)) {n : Nat} (hn : n ≤ d + 2) : cnF (fun t => (lvA d C A t).length) n = cnF (fun t => (LV t).length) n := by
  obtain ⟨rfl, rfl⟩ := h.toS.same hD
  unfold cnF
  refine List.map_congr_left fun t ht => ?_
  show ((lvA d _ A t).length : Int) = ((LV t).length : Int)
  rw [h.levn hD (hL t (by have := List.mem_range.1 ht; omega))]

theorem lvs_same {d : Nat} {P C s C' s' : List (List Int)} {A A' : List Nat} {LV : Nat → List (List Int)} (h : Fnd d P C s A) (hD : DocF d P C' s' A') (hL : ∀ t, t < d + 2 → LevOk d C' A' t (LV t)) {t : Nat} (ht : t < d + 2) {m : List (List Int)} (hm : Inor m ((lvA d C A t).map memL)) : m = LV t := by
  obtain ⟨rfl, rfl⟩ := h.toS.same hD
  exact h.lev hD (hL t ht) hm

theorem LvV.congr {w : World} {x : Value} {j : Nat} {LV LV2 : Nat → List (List Int)} (h : LvV w x j LV) (he : ∀ t, t < j → LV t = LV2 t) : LvV w x j LV2 := by
  obtain ⟨ao, cap, hx, h1⟩ := h.rows
  refine ⟨ao, cap, hx, fun X t hX ht => ?_⟩
  have := h1 X t hX ht
  rw [he t ht] at this
  exact this

theorem lat_same {d : Nat} {P C s C' s' : List (List Int)} {A A' : List Nat} {LV : Nat → List (List Int)} {B : Nat} {w : World} {u : Value} (h : Fnd d P C s A) (hD : DocF d P C' s' A') (hL : ∀ t, t < d + 2 → LevOk d C' A' t (LV t)) (hl : Lvs B w u (d + 2) (fun t m => Inor m ((lvA d C A t).map memL))) : LvV w u (d + 2) LV := by
  obtain ⟨LV2, h1, h2⟩ := hl.named
  exact h1.congr fun t ht => lvs_same h hD hL ht (h2 t ht)

theorem kind_same {d : Nat} {P C s C' s' : List (List Int)} {A' : List Nat} {LV : Nat → List (List Int)} (h : FndS d P C s) (hd : 1 ≤ d) (hD : DocF d P C' s' A') (hL : ∀ t, t < d + 2 → LevOk d C' A' t (LV t)) : splB d (s.map (sdN C)) = kdA d (LV d) ∧ smpB d C.length (s.map (sdN C)) = kdB d (LV d) (LV 1).length := by
  obtain ⟨rfl, rfl⟩ := h.same hD
  exact ⟨(kind_simplicial h hD (hL d (by omega))).symm, (kind_simple h hD (hL d (by omega)) (hL 1 (by omega))).symm⟩

/-- Stanley's h, as the document gives it. -/
def shD (L : Nat → Nat) (d : Nat) : List Int := (List.range (d + 1)).map fun j => smD (fun k => (cnF L (d + 2)).getD k 0) d (d + 1) j

theorem hvN_le {c c2 : Nat → Int} (n : Nat) (h : ∀ k, k < n → c k = c2 k) : ∀ i, i ≤ n → ∀ j, hvN c i j = hvN c2 i j
  | 0, _, _ => rfl
  | i + 1, hi, j => by
    simp only [hvN]
    rw [hvN_le n h i (by omega) j, hvN_le n h i (by omega) (j - 1), h i (by omega)]

theorem sh_same {d : Nat} {P C s C' s' : List (List Int)} {A A' : List Nat} {LV : Nat → List (List Int)} (h : Fnd d P C s A) (h1 : 1 ≤ d) (h4 : d ≤ 4) (hD : DocF d P C' s' A') (hL : ∀ t, t < d + 2 → LevOk d C' A' t (LV t)) : hvF (fun t => ((lvA d C A t).length : Int)) (d + 1) = shD (fun t => (LV t).length) d := by
  obtain ⟨rfl, rfl⟩ := h.toS.same hD
  unfold hvF shD
  refine List.map_congr_left fun j hj => ?_
  have hj2 := List.mem_range.1 hj
  rw [short_same _ h1 h4 (by omega)]
  refine hvN_le (d + 1) (fun k hk => ?_) (d + 1) (Nat.le_refl _) j
  have e : (cnF (fun t => (LV t).length) (d + 2)).getD k 0 = ((LV k).length : Int) := by simp [cnF, show k < d + 2 by omega]
  rw [e, h.levn hD (hL k (by omega))]

end Go.Proofs.YtkfdpcgmpbopnaaGreatDoor
