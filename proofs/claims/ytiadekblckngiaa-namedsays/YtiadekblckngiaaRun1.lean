/- The program's own lists: copies, divisors, signs. -/
import Derived.Test.YtiadekblckngiaaRefs
import Derived.Deep.QuietTactic
import Derived.BigQuiet
namespace Go.Proofs.Ytiadekblckngiaa
open Go.RowKit

set_option maxRecDepth 100000 in
set_option maxHeartbeats 400000 in
theorem clone_any (B : Nat) (l : List Int) (v : Value) (w : World) (hv : Sl B 3 w v (ints l)) (hl : l.length ≤ 1000000) :
    Calls Try.prog 33 #[v] w fun e w' => ∃ u, e = .returned u ∧ w'.ownsRow w.heap.size 3 1 u l.length (ints l) ∧ Below w.heap.size w w' := by
  obtain ⟨i3, hi3, hz30, hz31, hz32⟩ := info_parts Try.info3
  have hv' := hv
  obtain ⟨ao, cap, hvv, hlc, hcm, hcell, hnil⟩ := hv'
  simp only [ints_length] at hvv hlc
  subst hvv
  have HV : Hid (Sl B 3 w (.slice ao l.length cap) (ints l)) := hv
  clear hcell hv
  have HE : Hid ((w.alloc (.cells #[] 3)).ownsRow w.heap.size 3 1 (.slice (some ⟨w.heap.size, 0, none⟩) 0 0) 0 []) :=
    World.ownsRow_made w #[] 0 (Nat.le_refl _) (by simp [maxLen]) (by simp)
  have hq := fun (w : World) (a : Option Addr) (n c : Nat) => Lib.run_eql_slice_nil (P := Try.prog) w 35 3 a n c 0 0 Try.underlying35
  cases ao with
  | none =>
    have hc0 := hnil rfl
    subst hc0
    have hl0 : l = [] := List.eq_nil_of_length_eq_zero (by omega)
    subst hl0
    go_enter Try.func33, Try.ntmps33
    go_wp2
    go_ret
    exact ⟨_, rfl, World.ownsRow_nil _ _ _ _, Below.refl _ _⟩
  | some a =>
    clear hnil
    go_enter Try.func33, Try.ntmps33
    go_wp2_with (first | (at_builtin; refine wpList_append_own _ rfl _ _ 35 rfl w.heap.size 3 i3 (.int .i64 0) 1 8 Try.underlying35 hi3 hz30 hz31 hz32 rfl (by decide) _ _ _ rfl HE.out a l.length cap (ints l) rfl (by simp) (sl_cells HV.out _) (ints_oneCell' l) ?c3 ?c4 ?c5 ?_))
    case c3 => unfold maxLen; omega
    case c4 => omega
    case c5 => simp
    intro v' w3 ho hg _
    have ho' : w3.ownsRow w.heap.size 3 1 v' l.length (ints l) := by simpa using ho
    have HO : Hid (w3.ownsRow w.heap.size 3 1 v' l.length (ints l)) := ho'
    have HB : Hid (Below w.heap.size w w3) := ((Below.refl _ _).alloc (Nat.le_refl _) _).grown hg (by simp) (fun k hk => by simp [Value.ownBlock] at hk; omega)
    clear ho ho' hg
    go_wp2
    go_ret
    exact ⟨_, rfl, HO.out, HB.out⟩

theorem low_prog {l : List Int} (h : 1 ≤ Lin.gc l) : (l.map fun z => z.tdiv (Lin.gc l)) = Lin.low l := by
  unfold Lin.low
  refine List.map_congr_left fun z hz => ?_
  obtain ⟨q, hq⟩ := Lin.gc_dvd hz
  have hne : (Lin.gc l : Int) ≠ 0 := by omega
  have e : z = (Lin.gc l : Int) * q := hq
  rw [e, Int.mul_tdiv_cancel_left q hne, Int.mul_ediv_cancel_left q hne]

theorem low_zero {l : List Int} (h : Lin.gc l = 0) : Lin.low l = l := by
  unfold Lin.low
  have : ∀ z ∈ l, z / (Lin.gc l : Int) = z := fun z hz => low_small hz (by omega)
  have e : l.map (fun z => z / (Lin.gc l : Int)) = l.map id := List.map_congr_left fun z hz => this z hz
  rw [e, List.map_id]

theorem upr_find {l : List Int} (h : l.any (· != 0) = true) : ∃ k : Nat, k < l.length ∧ findI (· != 0) l = k ∧ Lin.upr l = if l.getD k 0 < 0 then l.map (fun v => -v) else l := by
  have hk : l.findIdx (· != 0) < l.length := List.findIdx_lt_length.2 (by obtain ⟨x, hx, h2⟩ := List.any_eq_true.1 h; exact ⟨x, hx, h2⟩)
  refine ⟨l.findIdx (· != 0), hk, by simp [findI, h], ?_⟩
  unfold Lin.upr
  have e : (l.find? (fun v => v != 0)).getD 0 = l.getD (l.findIdx (· != 0)) 0 := by
    refine Lin.find_at hk (fun i hi => ?_) ?_
    · have h1 := List.not_of_lt_findIdx hi
      have h2 : i < l.length := by omega
      simpa [h2] using h1
    · have h1 := List.findIdx_getElem (w := hk)
      simpa [hk] using h1
  rw [e]

theorem upr_none {l : List Int} (h : l.any (· != 0) = false) : Lin.upr l = l := by
  unfold Lin.upr
  have : l.find? (fun v => v != 0) = none := by
    rw [List.find?_eq_none]; intro x hx hh
    exact absurd (List.any_eq_true.2 ⟨x, hx, hh⟩) (by rw [h]; simp)
  rw [this]; simp

end Go.Proofs.Ytiadekblckngiaa
