/- half.isIn: do all rows hold at a place? -/
import Derived.Test.YtgfnmkenpgnllaaGreatHf5
import Derived.Deep.DeepCutAuto
import Derived.Deep.RegionHeld3
namespace Go.Proofs.YtgfnmkenpgnllaaGreat
open Go.RowKit
attribute [local go_sem ↓] Go.wp_at_zero Go.wp_at_succ

def inK (rows : List (List Int)) (d : Nat) (p : List Int) : Bool := !(rows.any fun r => decide (r.getD d 0 * p.getD d 0 < dotL (r.take d) (p.take d)))

theorem two_al (W : World) (o1 o2 : Obj) : ((W.alloc o1).alloc o2).drew.heap[W.heap.size]? = some o1 ∧ ((W.alloc o1).alloc o2).drew.heap[W.heap.size + 1]? = some o2 ∧ Below W.heap.size W ((W.alloc o1).alloc o2).drew := by
  have k1 := alloc_keep W o1
  have k2 := alloc_keep (W.alloc o1) o2
  have n2 := alloc_new (W.alloc o1) o2
  rw [size_alloc] at n2
  exact ⟨(k2.block _ (by rw [size_alloc]; omega)).trans (alloc_new _ _), n2, (k1.trans (k2.mono k1.size)).drew⟩

set_option maxRecDepth 100000 in
set_option maxHeartbeats 1600000 in
theorem isIn_any (d : Nat) (rows : List (List Int)) (p : List Int) (v : Value) (po : Option Addr) (pc : Nat) (w : World) (hv : Mat 0 22 3 w v rows) (hp : Sl 0 3 w (.slice po (d + 1) pc) (ints p)) (hpl : p.length = d + 1) (hpb : ∀ z ∈ p, z.natAbs ≤ 1000000000000) (hc : CutOk d rows) :
    Calls Tryz.prog 82 #[.agg #[.int .i64 d, v], .slice po (d + 1) pc] w fun e w' => e = .returned (.bool (inK rows d p)) ∧ Below w.heap.size w w' := by
  obtain ⟨ro, rc, hvv, hlc, hcm⟩ := mat_open hv
  subst hvv
  obtain ⟨pb, pf, pcc, hpv, hpc, hpd⟩ := sl_cell hp (k := d) (by rw [hpl]; omega)
  rw [hpl] at hpv hpc
  simp only [Value.slice.injEq] at hpv
  obtain ⟨rfl, -, rfl⟩ := hpv
  have hp' := hp
  rw [← hpl] at hp'
  have htk := Sl.takeE (n := d) hp' (by rw [hpl]; omega)
  obtain ⟨W0, hW0, hb0, hs0, hc0⟩ := cut_box w d (.slice ro rows.length rc)
  have hzb := hpb (p.getD d 0) (getD_mem (by rw [hpl]; omega))
  have HHS : Hid (∀ W b2 b3, Below W0.heap.size W0 W → W.heap[b2]? = some (.cells #[.slice (some ⟨pb, pf, none⟩) d pc] 22 (0, 0)) → W.heap[b3]? = some (.cells #[.int .i64 (p.getD d 0)] 3 (0, 0)) → Calls Tryz.prog 69 #[.slice ro rows.length rc, .func (.func 108) #[] #[.pointer (some ⟨w.heap.size, 0, none⟩), .pointer (some ⟨b2, 0, none⟩), .pointer (some ⟨b3, 0, none⟩)]] W fun e w' => e = .returned (.bool (rows.any fun r => decide (r.getD d 0 * p.getD d 0 < dotL (r.take d) (p.take d)))) ∧ Below W.heap.size W w') := fun W b2 b3 hB h2 h3 => by
    have hbW : Below w.heap.size w W := hb0.trans (hB.mono hb0.size)
    refine hasI_any 0 (fun r => decide (r.getD d 0 * p.getD d 0 < dotL (r.take d) (p.take d))) rows _ ⟨w.heap.size, 0, none⟩ ⟨b2, 0, none⟩ ⟨b3, 0, none⟩ W (hv.below hbW (Nat.le_refl _)) fun r hr X rv hX hrs => ?_
    obtain ⟨uo, uc, hu, _, _⟩ := sl_open hrs
    rw [hc.len r hr] at hu
    subst hu
    have q2 := (hX.block b2 (Array.getElem?_eq_some_iff.1 h2).1).trans h2
    have q3 := (hX.block b3 (Array.getElem?_eq_some_iff.1 h3).1).trans h3
    have hbX : Below w.heap.size w X := hbW.trans (hX.mono hbW.size)
    refine (isIn1_any d r (p.take d) (p.getD d 0) uo uc (some ⟨pb, pf, none⟩) pc w.heap.size b2 b3 X hrs (htk.below hbX (Nat.le_refl _)) (hc.len r hr) (by rw [List.length_take, hpl]; omega) (hc.bd r hr) (fun z hz => hpb z (List.mem_of_mem_take hz)) hzb hc.d3 (hc0 X (hB.trans (hX.mono hB.size))).1 (by simp [World.cell?, q2]) (by simp [World.cell?, q3])).mono ?_
    rintro e w' ⟨rfl, n, rfl⟩
    exact ⟨rfl, hX.trans (Qe.below ⟨n, rfl⟩)⟩
  have HB0 : Hid (Below w.heap.size w W0) := hb0
  have HCC : Hid (∀ W, Below W0.heap.size W0 W → W.cell? ⟨w.heap.size, 1, none⟩ = some (.slice ro rows.length rc)) := fun W hB => (hc0 W hB).2
  have HIK : Hid (inK rows d p = !(rows.any fun r => decide (r.getD d 0 * p.getD d 0 < dotL (r.take d) (p.take d)))) := rfl
  have hpd0 : W0.cell? ⟨pb, pf + d, none⟩ = some (.int .i64 (p.getD d 0)) := (hb0.cell (lt_of_cell hpd)).trans hpd
  have HW0 : Hid (W0 = w.alloc (.cells #[.int .i64 d, .slice ro rows.length rc] 61)) := hW0
  obtain ⟨c0, c1⟩ := hc0 W0 (Below.refl _ _)
  have HKS : Hid (∀ X, Below W0.heap.size W0 X → X.cell? ⟨w.heap.size, 0, none⟩ = some (.int .i64 d) ∧ X.cell? ⟨pb, pf + d, none⟩ = some (.int .i64 (p.getD d 0))) := fun X hX => ⟨(hc0 X hX).1, (hX.cell (lt_of_cell hpd0)).trans hpd0⟩
  have KS1 : ∀ o, Below W0.heap.size W0 (W0.drew.alloc o) := fun o => ((Below.refl _ _).drew).alloc (Nat.le_refl _) o
  have KS2 : ∀ o, Below W0.heap.size W0 (W0.alloc o) := fun o => (Below.refl _ _).alloc (Nat.le_refl _) o
  have KS3 : ∀ o o', Below W0.heap.size W0 ((W0.drew.alloc o).alloc o') := fun o o' => (KS1 o).alloc (KS1 o).size o'
  have KS4 : ∀ o o' (a : Addr) (x : Value), W0.heap.size ≤ a.block → Below W0.heap.size W0 (((W0.drew.alloc o).alloc o').setCell a x) := fun o o' a x h => (KS3 o o').setCell h x
  have hdI : (d : Int) < (d : Int) + 1 := by omega
  have hdI0 : (0 : Int) ≤ (d : Int) := by omega
  have hdc : (d : Int) ≤ (pc : Int) := by omega
  have hdc2 : d ≤ pc := by omega
  clear hv hp hp' htk hb0 hs0 hc0 hW0 hzb hpb hpd hc
  generalize (rows.any fun r => decide (r.getD d 0 * p.getD d 0 < dotL (r.take d) (p.take d))) = R at *
  generalize inK rows d p = K at *
  generalize p.getD d 0 = z at *
  go_enter Tryz.func82, Tryz.ntmps82
  go_upto_region 1 with fail
  rw [← HW0.out]
  go_cut [5, 6] from 7 (fun x y wx => ∃ b2 b3, x = .pointer (some ⟨b2, 0, none⟩) ∧ y = .pointer (some ⟨b3, 0, none⟩) ∧ wx.heap[b2]? = some (.cells #[.slice (some ⟨pb, pf, none⟩) d pc] 22 (0, 0)) ∧ wx.heap[b3]? = some (.cells #[.int .i64 z] 3 (0, 0)) ∧ Below W0.heap.size W0 wx)
  case first =>
    go_region_held3 (fun X => X.cell? ⟨w.heap.size, 0, none⟩ = some (.int .i64 d) ∧ X.cell? ⟨pb, pf + d, none⟩ = some (.int .i64 z)) (first | exact HKS.out _ (KS1 _) | exact HKS.out _ (KS2 _) | exact HKS.out _ (KS3 _ _) | exact HKS.out _ (KS4 _ _ _ _) | go_keep) (fail)
    all_goals go_wp2
    all_goals go_meet
    all_goals first
      | exact ⟨W0.heap.size + 1, W0.heap.size, rfl, rfl, (two_al W0 _ _).2.1, (two_al W0 _ _).1, (two_al W0 _ _).2.2⟩
      | exact ⟨W0.heap.size, W0.heap.size + 1, rfl, rfl, (two_al W0 _ _).1, (two_al W0 _ _).2.1, (two_al W0 _ _).2.2⟩
  case rest =>
  obtain ⟨b2, b3, rfl, rfl, h2, h3, hB⟩ := hcut
  have HHS2 := HHS.out wc b2 b3 hB h2 h3
  have HBc : Hid (Below w.heap.size w wc) := HB0.out.trans (hB.mono HB0.out.size)
  have HHS3 : Hid (Calls Tryz.prog 69 #[.slice ro rows.length rc, .func (.func 108) #[] #[.pointer (some ⟨w.heap.size, 0, none⟩), .pointer (some ⟨b2, 0, none⟩), .pointer (some ⟨b3, 0, none⟩)]] wc fun e w' => e = .returned (.bool R) ∧ Below wc.heap.size wc w') := HHS2
  have c9 := HCC.out wc hB
  clear HHS2 hB h2 h3 c0 c1 hpd0
  go_wp2_with fail
  refine HHS3.out.mono ?_
  rintro e w5 ⟨rfl, hb5⟩
  have HB5 : Hid (Below w.heap.size w w5) := HBc.out.trans (hb5.mono HBc.out.size)
  clear hb5
  go_wp2
  go_ret
  exact ⟨by rw [HIK.out]; rfl, HB5.out⟩

end Go.Proofs.YtgfnmkenpgnllaaGreat
