import Derived.Test.YtpbahagfhkpfhaaGreatFk2
import Derived.Test.YtpbahagfhkpfhaaGreatCvY
import Derived.Test.YtpbahagfhkpfhaaGreatRefA
import Derived.Test.YtpbahagfhkpfhaaGreatRowY
import Derived.Deep.DeepCutAuto
import Derived.Test.YtpbahagfhkpfhaaGreatRfY
/- What Empty and Greatest share: rows laid together, products of small by great, axes. -/
namespace Go.Proofs.YtpbahagfhkpfhaaGreat
open Go.RowKit Lin
attribute [local go_sem ↓] Go.wp_at_zero Go.wp_at_succ

/-- Worlds that are the same but for draws. -/
def Qe (w wr : World) : Prop := ∃ n, wr = w.drewN n
theorem Qe.refl (w : World) : Qe w w := ⟨0, rfl⟩
theorem Qe.drewN {w wr : World} (h : Qe w wr) (k : Nat) : Qe w (wr.drewN k) := by
  obtain ⟨n, rfl⟩ := h
  exact ⟨n + k, by rw [World.drewN_drewN]⟩
theorem Qe.below {N : Nat} {w wr : World} (h : Qe w wr) : Below N w wr := by
  obtain ⟨n, rfl⟩ := h
  exact ⟨rfl, rfl, rfl, Nat.le_refl _, fun _ _ => rfl⟩

theorem slice_cells {B : Nat} {e : TypeId} {w : World} {a : Addr} {n cap : Nat} {us : List Value} (h : Sl B e w (.slice (some a) n cap) us) : ∀ j u, us[j]? = some u → w.cell? (a.add j) = some u := by
  intro j u hj
  have hlt : j < us.length := (List.getElem?_eq_some_iff.1 hj).1
  obtain ⟨ao, c, hv, _, _, h3, _⟩ := h
  obtain ⟨b, o, ha, hc, _⟩ := h3 j hlt
  simp only [Value.slice.injEq] at hv
  rw [← hv.1] at ha
  simp only [Option.some.injEq] at ha
  rw [ha]
  have h5 := hc.trans hj
  unfold Addr.add
  by_cases e : j = 0
  · subst e; simpa using h5
  · simpa [e] using h5

theorem Sl.takeE {B n c : Nat} {w : World} {ao : Option Addr} {zs : List Int} (h : Sl B 3 w (.slice ao zs.length c) (ints zs)) (hn : n ≤ zs.length) : Sl B 3 w (.slice ao n c) (ints (zs.take n)) := by
  obtain ⟨bo, cap, hv, h1, h2, h3, h4⟩ := h
  simp only [Value.slice.injEq] at hv
  obtain ⟨rfl, _, rfl⟩ := hv
  simp at h1
  refine ⟨ao, c, by simp; omega, by simp; omega, by omega, fun i hi => ?_, h4⟩
  have hi' : i < n := by simp at hi; omega
  obtain ⟨b, o, ha, hc, ht⟩ := h3 i (by simp; omega)
  refine ⟨b, o, ha, ?_, ht⟩
  rw [hc, ints_get _ _ (by omega), ints_get _ _ (by simp; omega)]
  simp [hi']

/-- The first small, the other one not so. -/
def Swe (a x : List Int) : Prop := a.length ≤ x.length ∧ a.length ≤ 8 ∧ (∀ z ∈ a, z.natAbs ≤ 1000) ∧ ∀ z ∈ x, z.natAbs ≤ 1000000000000

theorem mul_bwe {a x : Int} (ha : a.natAbs ≤ 1000) (hx : x.natAbs ≤ 1000000000000) : (a * x).natAbs ≤ 1000000000000000 := by
  rw [Int.natAbs_mul]
  exact Nat.le_trans (Nat.mul_le_mul ha hx) (by decide)

theorem sum_swe {a x : List Int} (h : Swe a x) : ∀ k, k ≤ a.length → (Lin.sumN k fun i => a.getD i 0 * x.getD i 0).natAbs ≤ k * 1000000000000000 := by
  intro k
  induction k with
  | zero => intro _; simp [Lin.sumN]
  | succ k ih =>
    intro hk
    have h1 := ih (by omega)
    have hl := h.1
    have h3 : (a.getD k 0 * x.getD k 0).natAbs ≤ 1000000000000000 := mul_bwe (h.2.2.1 _ (by simp [show k < a.length by omega])) (h.2.2.2 _ (by simp [show k < x.length by omega]))
    have e : (Lin.sumN (k + 1) fun i => a.getD i 0 * x.getD i 0) = (Lin.sumN k fun i => a.getD i 0 * x.getD i 0) + a.getD k 0 * x.getD k 0 := rfl
    rw [e]
    omega

end Go.Proofs.YtpbahagfhkpfhaaGreat

/- The document's Empty. -/
namespace Go.Proofs.YtpbahagfhkpfhaaGreat
open Go.RowKit Lin
attribute [local go_sem ↓] Go.wp_at_zero Go.wp_at_succ

theorem fr_matE {B : Nat} {w : World} {v : Value} {m : List (List Int)} (h : Fr B 22 3 w v m) : Mat 0 22 3 w v m := by
  obtain ⟨vs, h1, h2, h3⟩ := h
  exact ⟨vs, h1, Sl.own h2, h3⟩

/-- Rows of a cut that may be, or of one with a row more. -/
def RwE (d : Nat) (rows : List (List Int)) : Prop := ∀ r ∈ rows, r.length = d + 1 ∧ ∀ z ∈ r, z.natAbs ≤ 20

end Go.Proofs.YtpbahagfhkpfhaaGreat

/- The document's CutMay (of cuts that may be) and GoalMay. -/
namespace Go.Proofs.YtpbahagfhkpfhaaGreat
open Go.RowKit Lin
attribute [local go_sem ↓] Go.wp_at_zero Go.wp_at_succ

/-- A cut in a box of its own. -/
theorem cut_box (w : World) (d : Nat) (v : Value) : ∃ W0, W0 = w.alloc (.cells #[.int .i64 d, v] 36) ∧ Below w.heap.size w W0 ∧ W0.heap.size = w.heap.size + 1 ∧ ∀ W', Below W0.heap.size W0 W' → W'.cell? ⟨w.heap.size, 0, none⟩ = some (.int .i64 d) ∧ W'.cell? ⟨w.heap.size, 1, none⟩ = some v := by
  refine ⟨_, rfl, alloc_keep _ _, size_alloc _ _, fun W' hB => ?_⟩
  have h0 := (hB.block w.heap.size (by rw [size_alloc]; omega)).trans (alloc_new w (.cells #[.int .i64 d, v] 36))
  exact ⟨by simp [World.cell?, h0], by simp [World.cell?, h0]⟩

theorem CutOk.rw {d : Nat} {rows : List (List Int)} (h : CutOk d rows) : RwE d rows := fun r hr => ⟨h.len r hr, h.bd r hr⟩

end Go.Proofs.YtpbahagfhkpfhaaGreat
