import Derived.Test.YtknomkajibfmlaaGreatHf5
import Derived.Deep.DeepCutAuto
import Derived.Deep.RegionHeld3
import Derived.Test.YtknomkajibfmlaaGreatMgAJ
import Derived.Test.YtknomkajibfmlaaGreatMgAM
import Derived.Test.YtknomkajibfmlaaGreatFk2
/- half.isIn: do all rows hold at a place? -/
namespace Go.Proofs.YtknomkajibfmlaaGreat
open Go.RowKit
attribute [local go_sem ↓] Go.wp_at_zero Go.wp_at_succ

def inK (rows : List (List Int)) (d : Nat) (p : List Int) : Bool := !(rows.any fun r => decide (r.getD d 0 * p.getD d 0 < dotL (r.take d) (p.take d)))

theorem two_al (W : World) (o1 o2 : Obj) : ((W.alloc o1).alloc o2).drew.heap[W.heap.size]? = some o1 ∧ ((W.alloc o1).alloc o2).drew.heap[W.heap.size + 1]? = some o2 ∧ Below W.heap.size W ((W.alloc o1).alloc o2).drew := by
  have k1 := alloc_keep W o1
  have k2 := alloc_keep (W.alloc o1) o2
  have n2 := alloc_new (W.alloc o1) o2
  rw [size_alloc] at n2
  exact ⟨(k2.block _ (by rw [size_alloc]; omega)).trans (alloc_new _ _), n2, (k1.trans (k2.mono k1.size)).drew⟩

set_option maxRecDepth 100000 in
set_option maxHeartbeats 1600000 in
theorem isIn_any (d : Nat) (rows : List (List Int)) (p : List Int) (v : Value) (po : Option Addr) (pc : Nat) (w : World) {B0 : Nat} (hv : Mat B0 38 3 w v rows) (hp : Sl 0 3 w (.slice po (d + 1) pc) (ints p)) (hpl : p.length = d + 1) (hpb : ∀ z ∈ p, z.natAbs ≤ 1000000000000) (hc : CutF d rows) :
    Calls Tryz.prog 51 #[.agg #[.int .i64 d, v], .slice po (d + 1) pc] w fun e w' => e = .returned (.bool (inK rows d p)) ∧ Below w.heap.size w w' := by
  obtain ⟨ro, rc, hvv, hlc, hcm⟩ := mat_open hv
  subst hvv
  obtain ⟨pb, pf, pcc, hpv, hpc, hpd⟩ := sl_cell hp (k := d) (by rw [hpl]; omega)
  rw [hpl] at hpv hpc
  simp only [Value.slice.injEq] at hpv
  obtain ⟨rfl, -, rfl⟩ := hpv
  have hp' := hp
  rw [← hpl] at hp'
  have htk := Sl.takeE (n := d) hp' (by rw [hpl]; omega)
  obtain ⟨W0, hW0, hb0, hs0, hc0⟩ := cut_box w d (.slice ro rows.length rc)
  have hzb := hpb (p.getD d 0) (getD_mem (by rw [hpl]; omega))
  have HHS : Hid (∀ W b2 b3, Below W0.heap.size W0 W → W.heap[b2]? = some (.cells #[.slice (some ⟨pb, pf, none⟩) d pc] 38 (0, 0)) → W.heap[b3]? = some (.cells #[.int .i64 (p.getD d 0)] 3 (0, 0)) → Calls Tryz.prog 73 #[.slice ro rows.length rc, .func (.func 74) #[] #[.pointer (some ⟨w.heap.size, 0, none⟩), .pointer (some ⟨b2, 0, none⟩), .pointer (some ⟨b3, 0, none⟩)]] W fun e w' => e = .returned (.bool (rows.any fun r => decide (r.getD d 0 * p.getD d 0 < dotL (r.take d) (p.take d)))) ∧ Below W.heap.size W w') := fun W b2 b3 hB h2 h3 => by
    have hbW : Below w.heap.size w W := hb0.trans (hB.mono hb0.size)
    refine hasI_any B0 (fun r => decide (r.getD d 0 * p.getD d 0 < dotL (r.take d) (p.take d))) rows _ ⟨w.heap.size, 0, none⟩ ⟨b2, 0, none⟩ ⟨b3, 0, none⟩ W (hv.below hbW (Nat.le_refl _)) fun r hr X rv hX hrs => ?_
    obtain ⟨uo, uc, hu, _, _⟩ := sl_open hrs
    rw [hc.len r hr] at hu
    subst hu
    have q2 := (hX.block b2 (Array.getElem?_eq_some_iff.1 h2).1).trans h2
    have q3 := (hX.block b3 (Array.getElem?_eq_some_iff.1 h3).1).trans h3
    have hbX : Below w.heap.size w X := hbW.trans (hX.mono hbW.size)
    refine (isIn1_any d r (p.take d) (p.getD d 0) uo uc (some ⟨pb, pf, none⟩) pc w.heap.size b2 b3 X hrs (htk.below hbX (Nat.le_refl _)) (hc.len r hr) (by rw [List.length_take, hpl]; omega) (hc.bd r hr) (fun z hz => hpb z (List.mem_of_mem_take hz)) hzb hc.d4 (hc0 X (hB.trans (hX.mono hB.size))).1 (by simp [World.cell?, q2]) (by simp [World.cell?, q3])).mono ?_
    rintro e w' ⟨rfl, n, rfl⟩
    exact ⟨rfl, hX.trans (Qe.below ⟨n, rfl⟩)⟩
  have HB0 : Hid (Below w.heap.size w W0) := hb0
  have HCC : Hid (∀ W, Below W0.heap.size W0 W → W.cell? ⟨w.heap.size, 1, none⟩ = some (.slice ro rows.length rc)) := fun W hB => (hc0 W hB).2
  have HIK : Hid (inK rows d p = !(rows.any fun r => decide (r.getD d 0 * p.getD d 0 < dotL (r.take d) (p.take d)))) := rfl
  have hpd0 : W0.cell? ⟨pb, pf + d, none⟩ = some (.int .i64 (p.getD d 0)) := (hb0.cell (lt_of_cell hpd)).trans hpd
  have HW0 : Hid (W0 = w.alloc (.cells #[.int .i64 d, .slice ro rows.length rc] 24)) := hW0
  obtain ⟨c0, c1⟩ := hc0 W0 (Below.refl _ _)
  have HKS : Hid (∀ X, Below W0.heap.size W0 X → X.cell? ⟨w.heap.size, 0, none⟩ = some (.int .i64 d) ∧ X.cell? ⟨pb, pf + d, none⟩ = some (.int .i64 (p.getD d 0))) := fun X hX => ⟨(hc0 X hX).1, (hX.cell (lt_of_cell hpd0)).trans hpd0⟩
  have KS1 : ∀ o, Below W0.heap.size W0 (W0.drew.alloc o) := fun o => ((Below.refl _ _).drew).alloc (Nat.le_refl _) o
  have KS2 : ∀ o, Below W0.heap.size W0 (W0.alloc o) := fun o => (Below.refl _ _).alloc (Nat.le_refl _) o
  have KS3 : ∀ o o', Below W0.heap.size W0 ((W0.drew.alloc o).alloc o') := fun o o' => (KS1 o).alloc (KS1 o).size o'
  have KS4 : ∀ o o' (a : Addr) (x : Value), W0.heap.size ≤ a.block → Below W0.heap.size W0 (((W0.drew.alloc o).alloc o').setCell a x) := fun o o' a x h => (KS3 o o').setCell h x
  have hdI : (d : Int) < (d : Int) + 1 := by omega
  have hdI0 : (0 : Int) ≤ (d : Int) := by omega
  have hdc : (d : Int) ≤ (pc : Int) := by omega
  have hdc2 : d ≤ pc := by omega
  clear hv hp hp' htk hb0 hs0 hc0 hW0 hzb hpb hpd hc
  generalize (rows.any fun r => decide (r.getD d 0 * p.getD d 0 < dotL (r.take d) (p.take d))) = R at *
  generalize inK rows d p = K at *
  generalize p.getD d 0 = z at *
  go_enter Tryz.func51, Tryz.ntmps51
  go_upto_region 1 with fail
  rw [← HW0.out]
  go_cut [5, 6] from 7 (fun x y wx => ∃ b2 b3, x = .pointer (some ⟨b2, 0, none⟩) ∧ y = .pointer (some ⟨b3, 0, none⟩) ∧ wx.heap[b2]? = some (.cells #[.slice (some ⟨pb, pf, none⟩) d pc] 38 (0, 0)) ∧ wx.heap[b3]? = some (.cells #[.int .i64 z] 3 (0, 0)) ∧ Below W0.heap.size W0 wx)
  case first =>
    go_region_held3 (fun X => X.cell? ⟨w.heap.size, 0, none⟩ = some (.int .i64 d) ∧ X.cell? ⟨pb, pf + d, none⟩ = some (.int .i64 z)) (first | exact HKS.out _ (KS1 _) | exact HKS.out _ (KS2 _) | exact HKS.out _ (KS3 _ _) | exact HKS.out _ (KS4 _ _ _ _) | go_keep) (fail)
    all_goals go_wp2
    all_goals go_meet
    all_goals first
      | exact ⟨W0.heap.size + 1, W0.heap.size, rfl, rfl, (two_al W0 _ _).2.1, (two_al W0 _ _).1, (two_al W0 _ _).2.2⟩
      | exact ⟨W0.heap.size, W0.heap.size + 1, rfl, rfl, (two_al W0 _ _).1, (two_al W0 _ _).2.1, (two_al W0 _ _).2.2⟩
  case rest =>
  obtain ⟨b2, b3, rfl, rfl, h2, h3, hB⟩ := hcut
  have HHS2 := HHS.out wc b2 b3 hB h2 h3
  have HBc : Hid (Below w.heap.size w wc) := HB0.out.trans (hB.mono HB0.out.size)
  have HHS3 : Hid (Calls Tryz.prog 73 #[.slice ro rows.length rc, .func (.func 74) #[] #[.pointer (some ⟨w.heap.size, 0, none⟩), .pointer (some ⟨b2, 0, none⟩), .pointer (some ⟨b3, 0, none⟩)]] wc fun e w' => e = .returned (.bool R) ∧ Below wc.heap.size wc w') := HHS2
  have c9 := HCC.out wc hB
  clear HHS2 hB h2 h3 c0 c1 hpd0
  go_wp2_with fail
  refine HHS3.out.mono ?_
  rintro e w5 ⟨rfl, hb5⟩
  have HB5 : Hid (Below w.heap.size w w5) := HBc.out.trans (hb5.mono HBc.out.size)
  clear hb5
  go_wp2
  go_ret
  exact ⟨by rw [HIK.out]; rfl, HB5.out⟩

end Go.Proofs.YtknomkajibfmlaaGreat

/- What is divided by what divides all of it (pure; the same as in Pq3: not beside it). -/
namespace Go.Proofs.YtknomkajibfmlaaGreat
open Lin

theorem gc_pos {l : List Int} {z : Int} (h : z ∈ l) (hz : z ≠ 0) : gc l ≠ 0 := fun e => by
  have := gc_dvd h
  rw [e] at this
  exact hz (by simpa using this)

theorem low_mul (l : List Int) : (low l).map ((gc l : Int) * ·) = l := by
  unfold low
  rw [List.map_map]
  have : ∀ z ∈ l, (((gc l : Int) * ·) ∘ (· / (gc l : Int))) z = z := fun z hz => by
    show (gc l : Int) * (z / (gc l : Int)) = z
    exact Int.mul_ediv_cancel' (gc_dvd hz)
  rw [List.map_congr_left this, List.map_id']

theorem gc_low {l : List Int} (h : gc l ≠ 0) : gc (low l) = 1 := by
  have e := gc_scale (gc l : Int) (low l)
  rw [low_mul] at e
  simp only [Int.natAbs_natCast] at e
  have h2 : gc l * 1 = gc l * gc (low l) := by omega
  exact (Nat.eq_of_mul_eq_mul_left (Nat.pos_of_ne_zero h) h2).symm

theorem neg_scale (l : List Int) : (l.map fun z => -z) = l.map ((-1 : Int) * ·) := List.map_congr_left fun z _ => by omega

theorem gc_neg (l : List Int) : gc (l.map fun z => -z) = gc l := by
  rw [neg_scale, gc_scale]
  simp

theorem gc_upr (l : List Int) : gc (upr l) = gc l := by
  unfold upr
  split
  · exact gc_neg l
  · rfl

theorem low_one {l : List Int} (h : gc l = 1) : low l = l := by
  unfold low
  rw [h]
  simp

theorem upr_or (l : List Int) : upr l = l ∨ upr l = l.map fun z => -z := by
  unfold upr
  split
  · exact Or.inr rfl
  · exact Or.inl rfl

theorem neg_neg_map (l : List Int) : (l.map fun z => -z).map (fun z => -z) = l := by
  rw [List.map_map]
  have : ∀ z ∈ l, ((fun z : Int => -z) ∘ fun z => -z) z = z := fun z _ => Int.neg_neg z
  rw [List.map_congr_left this, List.map_id']

theorem prim_eq {x y : List Int} {a b : Int} (hx : gc x = 1) (hy : gc y = 1) (ha : a ≠ 0) (hb : b ≠ 0) (h : x.map (a * ·) = y.map (b * ·)) : x = y ∨ x = y.map fun z => -z := by
  have e := norm_eq ha hb h
  rw [low_one hx, low_one hy] at e
  rcases upr_or x with h1 | h1 <;> rcases upr_or y with h2 | h2
  · exact Or.inl (by rw [← h1, e, h2])
  · exact Or.inr (by rw [← h1, e, h2])
  · refine Or.inr ?_
    have : (x.map fun z => -z) = y := by rw [← h1, e, h2]
    rw [← this, neg_neg_map]
  · refine Or.inl ?_
    have : (x.map fun z => -z) = y.map fun z => -z := by rw [← h1, e, h2]
    rw [← neg_neg_map x, this, neg_neg_map]

theorem norm_gc {d : Nat} {m : List (List Int)} (hl : (pickL d m).length + 1 = d) : gc (normL d m) = 1 := by
  obtain ⟨⟨i, hi, hne⟩, _, _⟩ := norm_spec hl
  have hnl : normL d m = upr (low (muL d (pickL d m))) := if_pos hl
  have hmem : V (normL d m) i ∈ normL d m := by
    unfold V
    have hlen : (normL d m).length = d := norm_len (by unfold normB; exact decide_eq_true hl)
    simp [show i < (normL d m).length by omega]
  have h0 := gc_pos hmem hne
  rw [hnl, gc_upr] at h0 ⊢
  refine gc_low fun e => h0 ?_
  have hz : ∀ z ∈ muL d (pickL d m), z = 0 := fun z hz => by
    have := gc_dvd hz
    rw [e] at this
    simpa using this
  have hl0 : low (muL d (pickL d m)) = muL d (pickL d m) := by
    unfold low
    have : ∀ z ∈ muL d (pickL d m), z / ((gc (muL d (pickL d m)) : Nat) : Int) = id z := fun z h => by rw [hz z h]; simp
    rw [List.map_congr_left this, List.map_id]
  rw [hl0]
  exact e

end Go.Proofs.YtknomkajibfmlaaGreat

/- Where rows meet: the program's table and the document's differ by the last column's sign (pure). -/
namespace Go.Proofs.YtknomkajibfmlaaGreat
open Lin

theorem ng_turn {d : Nat} {t : List (List Int)} (ht : ∀ r ∈ t, r.length = d + 1) (u : Nat → Int) : (∀ r ∈ t, dot (d + 1) (V r) u = 0) ↔ ∀ r ∈ t.map (ngR d), dot (d + 1) (V r) (turnK d u) = 0 := by
  have key : ∀ r ∈ t, dot (d + 1) (V (ngR d r)) (turnK d u) = dot (d + 1) (V r) u := fun r hr => by
    unfold dot
    refine sumN_congr fun i hi => ?_
    show (ngR d r).getD i 0 * turnK d u i = r.getD i 0 * u i
    rw [ngR_get (ht r hr) hi]
    unfold turnK
    by_cases e : i = d
    · rw [if_pos e, if_pos e, e, Int.neg_mul_neg]
    · rw [if_neg e, if_neg e]
  constructor
  · intro h r hr
    obtain ⟨q, hq, rfl⟩ := List.mem_map.1 hr
    rw [key q hq]; exact h q hq
  · intro h r hr
    rw [← key r hr]; exact h _ (List.mem_map.2 ⟨r, hr, rfl⟩)

theorem ng_normB {d : Nat} {t : List (List Int)} (ht : ∀ r ∈ t, r.length = d + 1) : normB (d + 1) t = normB (d + 1) (t.map (ngR d)) := one_turn (n := d) (ng_turn ht)

theorem ng_par {d : Nat} {t : List (List Int)} (ht : ∀ r ∈ t, r.length = d + 1) (hb : normB (d + 1) t = true) : Par (d + 1) (turnK d (V (normL (d + 1) t))) (V (normL (d + 1) (t.map (ngR d)))) := norm_turn (ng_turn ht) hb

theorem gc_app (l : List Int) (b : Int) : gc (l ++ [b]) = Nat.gcd (gc l) b.natAbs := by
  unfold gc gcf; rw [List.foldl_append]; rfl

theorem gc_ng {d : Nat} {p : List Int} (h : p.length = d + 1) : gc (ngR d p) = gc p := by
  have e : p = p.take d ++ [p.getD d 0] := by
    have := List.take_succ_eq_append_getElem (l := p) (i := d) (by omega)
    rw [List.take_of_length_le (by omega)] at this
    rw [show p.getD d 0 = p[d] by simp [List.getD_eq_getElem?_getD, show d < p.length by omega]]
    exact this
  have e2 : gc p = Nat.gcd (gc (p.take d)) (p.getD d 0).natAbs := by
    conv => lhs; rw [e]
    exact gc_app _ _
  unfold ngR
  rw [gc_app, e2, Int.natAbs_neg]

/-- Where the document finds a place, the program finds the same. -/
theorem mt_ptY {d : Nat} {t : List (List Int)} {y : List Int} (ht : ∀ r ∈ t, r.length = d + 1) (hb' : normB (d + 1) (t.map (ngR d)) = true) (hne' : (normL (d + 1) (t.map (ngR d))).getD d 0 ≠ 0) (h : ptY d t = y) : mtB d t = true ∧ mtL d t = y := by
  have hb : normB (d + 1) t = true := by rw [ng_normB ht]; exact hb'
  have hpar := ng_par ht hb
  have hl : (pickL (d + 1) t).length + 1 = d + 1 := by simpa [normB] using hb
  have hl' : (pickL (d + 1) (t.map (ngR d))).length + 1 = d + 1 := by simpa [normB] using hb'
  have g1 := norm_gc hl
  have g2 := norm_gc hl'
  have n1 := norm_len hb
  have n2 := norm_len hb'
  have hy : y = if (normL (d + 1) (t.map (ngR d))).getD d 0 < 0 then (normL (d + 1) (t.map (ngR d))).map (fun z => -z) else normL (d + 1) (t.map (ngR d)) := h.symm
  have hL : mtL d t = ngR d (if 0 < (normL (d + 1) t).getD d 0 then (normL (d + 1) t).map (fun z => -z) else normL (d + 1) t) := rfl
  unfold mtB
  rw [hb]
  generalize normL (d + 1) (t.map (ngR d)) = n' at *
  generalize normL (d + 1) t = n at *
  have hnd : n.getD d 0 ≠ 0 := fun e => by
    have hz : ∀ i, i < d + 1 → n.getD i 0 = 0 := fun i hi => by
      have := hpar i d hi (by omega)
      unfold turnK V at this
      rw [if_pos rfl, e, Int.neg_zero, Int.zero_mul] at this
      rcases Int.mul_eq_zero.1 this with h0 | h0
      · split at h0 <;> omega
      · exact absurd h0 hne'
    have hz2 : n = n.map ((0 : Int) * ·) := by
      refine List.ext_getElem (by simp) fun i h1 h2 => ?_
      have := hz i (by omega)
      rw [List.getD_eq_getElem?_getD, List.getElem?_eq_getElem h1] at this
      simp only [Option.getD_some] at this
      simp [this]
    rw [hz2, gc_scale] at g1
    simp at g1
  refine ⟨by simpa using hnd, ?_⟩
  obtain ⟨p, hp⟩ : ∃ p, p = (if 0 < n.getD d 0 then n.map (fun z => -z) else n) := ⟨_, rfl⟩
  rw [← hp] at hL
  have hpl : p.length = d + 1 := by rw [hp]; split <;> simp [n1]
  have hyl : y.length = d + 1 := by rw [hy]; split <;> simp [n2]
  have neg_at : ∀ (l : List Int) (i : Nat), (l.map fun z => -z).getD i 0 = - l.getD i 0 := fun l i => by
    simp only [List.getD_eq_getElem?_getD, List.getElem?_map]
    cases l[i]? <;> simp
  obtain ⟨σ, hσ, hpi⟩ : ∃ σ : Int, (σ = 1 ∨ σ = -1) ∧ ∀ i, p.getD i 0 = σ * n.getD i 0 := by
    by_cases e : 0 < n.getD d 0
    · exact ⟨-1, .inr rfl, fun i => by rw [hp, if_pos e, neg_at]; omega⟩
    · exact ⟨1, .inl rfl, fun i => by rw [hp, if_neg e]; omega⟩
  obtain ⟨τ, hτ, hyi⟩ : ∃ τ : Int, (τ = 1 ∨ τ = -1) ∧ ∀ i, y.getD i 0 = τ * n'.getD i 0 := by
    by_cases e : n'.getD d 0 < 0
    · exact ⟨-1, .inr rfl, fun i => by rw [hy, if_pos e, neg_at]; omega⟩
    · exact ⟨1, .inl rfl, fun i => by rw [hy, if_neg e]; omega⟩
  have hpd : p.getD d 0 < 0 := by
    rw [hp]
    by_cases e : 0 < n.getD d 0
    · rw [if_pos e, neg_at]; omega
    · rw [if_neg e]; omega
  have hyd : 0 < y.getD d 0 := by
    rw [hy]
    by_cases e : n'.getD d 0 < 0
    · rw [if_pos e, neg_at]; omega
    · rw [if_neg e]; omega
  have gp : gc p = 1 := by
    rw [hp]; split
    · rw [gc_neg]; exact g1
    · exact g1
  have gy : gc y = 1 := by
    rw [hy]; split
    · rw [gc_neg]; exact g2
    · exact g2
  have hLi : ∀ i, i < d + 1 → (ngR d p).getD i 0 = σ * turnK d (V n) i := fun i hi => by
    rw [ngR_get hpl hi]
    unfold turnK V
    by_cases e : i = d
    · rw [if_pos e, if_pos e, hpi, e]; grind
    · rw [if_neg e, if_neg e, hpi]
  have hcross : (ngR d p).map (y.getD d 0 * ·) = y.map ((ngR d p).getD d 0 * ·) := by
    refine List.ext_getElem (by simp [ngR_len hpl, hyl]) fun i h1 h2 => ?_
    have hi : i < d + 1 := by simpa [ngR_len hpl] using h1
    have a1 := hLi i hi
    have a2 := hLi d (by omega)
    have a3 := hpar i d hi (by omega)
    have b1 := hyi i
    have b2 := hyi d
    simp only [List.getElem_map]
    have c1 : (ngR d p)[i]'(by rw [ngR_len hpl]; exact hi) = (ngR d p).getD i 0 := by simp [List.getD_eq_getElem?_getD, show i < (ngR d p).length by rw [ngR_len hpl]; exact hi]
    have c2 : y[i]'(by omega) = y.getD i 0 := by simp [List.getD_eq_getElem?_getD, show i < y.length by omega]
    rw [c1, c2, a1, a2, b1, b2]
    unfold V at a3 ⊢
    grind
  have hLd : (ngR d p).getD d 0 = - p.getD d 0 := by rw [ngR_get hpl (by omega), if_pos rfl]
  rw [hL]
  rcases prim_eq (by rw [gc_ng hpl]; exact gp) gy (by omega) (by omega) hcross with e | e
  · exact e
  · exfalso
    have := congrArg (fun l : List Int => l.getD d 0) e
    simp only [neg_at] at this
    omega

theorem mt_pt {d : Nat} {rows t : List (List Int)} {y : List Int} (ht : ∀ r ∈ t, r.length = d + 1) (h : ptT rows d t = some y) : mtB d t = true ∧ mtL d t = y := by
  unfold ptT at h
  split at h
  case isFalse => cases h
  case isTrue hc =>
    obtain ⟨hb', hne', _⟩ := hc
    simp only [Option.some.injEq] at h
    exact mt_ptY ht hb' hne' h

theorem in_ptK {d : Nat} {rows : List (List Int)} {y : List Int} (hl : ∀ r ∈ rows, r.length = d + 1) : inK rows d y = ptK rows d y := by
  have key : ∀ r ∈ rows, dotL (r.take d) (y.take d) = dotL (r.take d) y := fun r hr => by
    unfold dotL
    refine sumN_congr fun i hi => ?_
    have hi2 : i < d := by rw [List.length_take, hl r hr] at hi; omega
    congr 1
    simp [List.getD_eq_getElem?_getD, hi2]
  unfold inK ptK
  rw [Bool.eq_iff_iff, Bool.not_eq_true', List.any_eq_false, List.all_eq_true]
  constructor
  · intro h r hr
    have := h r hr
    rw [key r hr, decide_eq_true_eq] at this
    rw [decide_eq_true_eq]; omega
  · intro h r hr
    have := h r hr
    rw [decide_eq_true_eq] at this
    rw [key r hr, decide_eq_true_eq]; omega

end Go.Proofs.YtknomkajibfmlaaGreat
