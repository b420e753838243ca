import Derived.Test.YtgeajopenkkkaaaGreatRaA
/- A point against a row; whether a point may be. -/
namespace Go.Proofs.YtgeajopenkkkaaaGreat
open Go.RowKit
attribute [local go_sem ↓] Go.wp_at_zero Go.wp_at_succ

theorem Sl.take {B n c : Nat} {w : World} {ao : Option Addr} {zs : List Int} (h : Sl B 3 w (.slice ao zs.length c) (ints zs)) (hn : n ≤ zs.length) : Sl B 3 w (.slice ao n c) (ints (zs.take n)) := by
  obtain ⟨bo, cap, hv, h1, h2, h3, h4⟩ := h
  simp only [Value.slice.injEq] at hv
  obtain ⟨rfl, _, rfl⟩ := hv
  refine ⟨ao, c, by simp; omega, by simp at h1 ⊢; omega, h2, fun i hi => ?_, h4⟩
  have hi' : i < n := by simp at hi; omega
  obtain ⟨b, o, ha, hc, ht⟩ := h3 i (by simp; omega)
  refine ⟨b, o, ha, ?_, ht⟩
  rw [hc, ints_get _ _ (by omega), ints_get _ _ (by simp; omega)]
  simp [hi']

/-- Beyond a row (1), on it (0), or within (-1). -/
def agn (r x : List Int) : Int := cmpI (dotL (r.take x.length) x) (r.getD x.length 0)

set_option maxRecDepth 100000 in
set_option maxHeartbeats 800000 in
theorem against_any (B : Nat) (r x : List Int) (u v : Value) (w : World) (hu : Sl B 3 w u (ints r)) (hv : Sl B 3 w v (ints x)) (hl : r.length = x.length + 1) (hs : Sm (r.take x.length) x) :
    Calls Tryz.prog 74 #[u, v] w fun e w' => e = .returned (.int .i64 (agn r x)) ∧ Below w.heap.size w w' := by
  obtain ⟨ao, cap, huu, hlc, hcm⟩ := sl_open hu
  obtain ⟨bo, cbp, hvv, hlb, hcb⟩ := sl_open hv
  subst huu hvv
  have HU : Hid (Sl B 3 w (.slice ao r.length cap) (ints r)) := hu
  have HV : Hid (Sl B 3 w (.slice bo x.length cbp) (ints x)) := hv
  have HS : Hid (Sm (r.take x.length) x) := hs
  have hTK := Sl.take (n := x.length) hu (by omega)
  obtain ⟨b, o, cp, hs1, hc1, hcc⟩ := sl_cell hu (k := x.length) (by omega)
  simp only [Value.slice.injEq] at hs1
  obtain ⟨rfl, _, rfl⟩ := hs1
  have HTK : Hid (Sl B 3 w (.slice (some ⟨b, o, none⟩) x.length cap) (ints (r.take x.length))) := hTK
  have HP : Hid (∀ n, Calls Tryz.prog 90 #[.slice (some ⟨b, o, none⟩) x.length cap, .slice bo x.length cbp] (w.drewN n) fun e w' => e = .returned (.int .i64 (dotL (r.take x.length) x)) ∧ ∃ k, w' = (w.drewN n).drewN k) := fun n =>
    product_any B _ x _ _ _ (HTK.out.drewN n) (HV.out.drewN n) HS.out
  have HAG : Hid (agn r x = cmpI (dotL (r.take x.length) x) (r.getD x.length 0)) := rfl
  generalize dotL (r.take x.length) x = D at *
  generalize r.getD x.length 0 = q at *
  rw [hl] at hlc
  rw [hl]
  clear hu hv hs hTK
  have HC : Hid (∀ n, Calls Tryz.prog 89 #[.int .i64 D, .int .i64 q] (w.drewN n) fun e w' => e = .returned (.int .i64 (cmpI D q)) ∧ w' = w.drewN n) := fun n => cmpI_any D q _
  generalize cmpI D q = R at *
  generalize hxl : x.length = xl at *
  have hx0 : (0 : Int) ≤ (xl : Int) := by omega
  have hx1 : (xl : Int) < (xl : Int) + 1 := by omega
  have hx2 : xl ≤ cap := by omega
  have hx3 : (xl : Int) ≤ (cap : Int) := by omega
  go_enter Tryz.func74, Tryz.ntmps74
  go_wp2
  go_quiet (first | (go_at_call 90; exact Calls.quiet_of (w := w) (HP.out _)) | (go_at_call 89; exact Calls.quiet_of_same (w := w) (HC.out _)))
  go_wp2
  go_ret
  exact ⟨by rw [HAG.out]; rfl, ⟨rfl, rfl, rfl, Nat.le_refl _, fun _ _ => rfl⟩⟩

end Go.Proofs.YtgeajopenkkkaaaGreat

/- A polytope that may be; where a point is. -/
namespace Go.Proofs.YtgeajopenkkkaaaGreat
open Go.RowKit
attribute [local go_sem ↓] Go.wp_at_zero Go.wp_at_succ

/-- A polytope of small numbers that does not lie flat. -/
structure Good (d : Nat) (P : List (List Int)) : Prop where
  d1 : 1 ≤ d
  d4 : d ≤ 4
  n2 : 2 ≤ P.length
  n24 : P.length ≤ 64
  box : Box d 30 P
  full : (pickL d (diffL P)).length = d

end Go.Proofs.YtgeajopenkkkaaaGreat
