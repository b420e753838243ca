/- face.counts. -/
import Derived.Test.YtkfdpcgmpbopnaaGreatDoorFc7
namespace Go.Proofs.YtkfdpcgmpbopnaaGreatDoor
open Go.RowKit Lin
attribute [local go_sem ↓] Go.wp_at_zero Go.wp_at_succ

/-- How many. -/
def cnF (L : Nat → Nat) (n : Nat) : List Int := (List.range n).map fun t => (L t : Int)

theorem cnF_len (L : Nat → Nat) (n : Nat) : (cnF L n).length = n := by simp [cnF]

theorem cnF_succ (L : Nat → Nat) (n : Nat) : ints (cnF L (n + 1)) = ints (cnF L n) ++ [.int .i64 (L n : Int)] := by
  simp [cnF, List.range_succ, ints]

set_option maxRecDepth 100000 in
set_option maxHeartbeats 800000 in
theorem countsF_any (g n cap : Nat) (vs : List Value) (L : Nat → Nat) (w : World) (hg : w.heap[g]? = some (.cells vs.toArray 58 (0, 0))) (hn : n ≤ vs.length) (hn100 : n ≤ 100) (hv : ∀ t, t < n → ∃ ao cp, vs.getD t undef = .slice ao (L t) cp) :
    Calls Tryz.prog 34 #[.slice (some ⟨g, 0, none⟩) n cap] w fun e w' => ∃ u, e = .returned u ∧ w'.ownsRow w.heap.size 3 1 u n (ints (cnF L n)) ∧ Below w.heap.size w w' := by
  obtain ⟨i3, hi3, hz30, hz31, hz32⟩ := info_parts Tryz.info3
  have HCL : Hid (∀ W k, Below w.heap.size w W → k < n → ∃ ao cp, W.cell? ⟨g, k, none⟩ = some (.slice ao (L k) cp)) := fun W k hb hk => by
    obtain ⟨ao, cp, e⟩ := hv k hk
    have h0 := (hb.block g (lt_of_block hg)).trans hg
    refine ⟨ao, cp, ?_⟩
    rw [← e]
    simp [World.cell?, h0, show k < vs.length by omega]
  clear hg hv
  go_enter Tryz.func34, Tryz.ntmps34
  go_wp2
  go_loopw [3, 5, 8] (fun x _ i wr => ∃ k : Nat, k ≤ n ∧ i = .int .i64 (k : Int) ∧ wr.ownsRow w.heap.size 3 1 x k (ints (cnF L k)) ∧ Below w.heap.size w wr) (fun _ _ i _ => n - (intOf i).toNat)
  case atStart => exact ⟨0, Nat.zero_le _, rfl, World.ownsRow_nil _ _ _ _, Below.refl _ _⟩
  case round =>
    obtain ⟨k, hk, rfl, ho, hb⟩ := hrel
    obtain ⟨xo, xc, hx⟩ := owns_form ho
    subst hx
    have HO : Hid (wr.ownsRow w.heap.size 3 1 (.slice xo k xc) k (ints (cnF L k))) := ho
    have HB : Hid (Below w.heap.size w wr) := hb
    have hsz : w.heap.size ≤ wr.heap.size := hb.size
    clear ho hb
    by_cases hlt : k < n
    · obtain ⟨ao, cp, hc⟩ := HCL.out wr k HB.out hlt
      have hkI : (k : Int) < (n : Int) := by omega
      have HS : Hid (ints (cnF L (k + 1)) = ints (cnF L k) ++ [.int .i64 (L k : Int)]) := cnF_succ L k
      clear HCL
      generalize L k = lk at *
      go_wp2_with (first | (at_builtin; refine wpList_append_own _ rfl _ _ 22 rfl w.heap.size 3 i3 (.int .i64 0) 1 8 Tryz.underlying22 hi3 hz30 hz31 hz32 rfl (by decide) _ _ _ rfl (HO.out.alloc _) ⟨wr.heap.size, 0, none⟩ 1 1 [.int .i64 (lk : Int)] rfl rfl (one_new _ _ _) (one_int _) ?c3 ?c4 ?c5 ?_))
      case c3 => unfold maxLen; omega
      case c4 => omega
      case c5 => first | exact hsz | omega | (simp; omega)
      intro v' w3 ho hg _
      have HNX : Hid (w3.ownsRow w.heap.size 3 1 v' (k + 1) (ints (cnF L (k + 1)))) := by rw [HS.out]; exact ho
      have HB3 : Hid (Below w.heap.size w w3) := (HB.out.alloc hsz _).grown hg (by simp; omega) (fun y hy => (HO.out.lt y hy).1)
      clear ho hg hc
      go_wp2
      go_roundw
      case rel => exact ⟨k + 1, by omega, by go_num, HNX.out, HB3.out⟩
      case measure => simp [intOf]; omega
    · have hke : k = n := by omega
      subst hke
      clear HCL
      go_wp2
      go_ret
      exact ⟨_, rfl, HO.out, HB.out⟩

end Go.Proofs.YtkfdpcgmpbopnaaGreatDoor
