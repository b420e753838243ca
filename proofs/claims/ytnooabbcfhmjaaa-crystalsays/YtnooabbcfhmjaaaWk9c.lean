/- facetref.WordFrom, from a place on. -/
import Derived.Test.YtnooabbcfhmjaaaNat0
import Derived.Test.YtnooabbcfhmjaaaMade1
namespace Go.Proofs.Ytnooabbcfhmjaaa
open Go.RowKit
attribute [local go_sem ↓] Go.wp_at_zero Go.wp_at_succ

set_option maxRecDepth 100000 in
set_option maxHeartbeats 1600000 in
theorem wordFromS_any (B : Nat) (raw : List Int) (v : Value) (st n many : Nat) (w : World) (hv : Sl B 3 w v (ints raw)) (hr : ∀ z ∈ raw, In64 z) (hl : raw.length ≤ 1000000) (h1 : 1 ≤ n) (h4 : n ≤ 1000) (hm : many ≤ 1000) (hst : st ≤ 1000) :
    Calls Try.prog 20 #[v, .int .i64 st, .int .i64 n, .int .i64 many] w fun e w' => ∃ u wd, e = .returned u ∧ wd.length = many ∧ (∀ r ∈ wd, r < n) ∧ w'.ownsRow w.heap.size 3 1 u many (ints (natsI wd)) ∧ Below w.heap.size w w' := by
  obtain ⟨i3, hi3, hz30, hz31, hz32⟩ := info_parts Try.info3
  have HRA : Hid (∀ (i : Nat) W, i ≤ 2000 → Below w.heap.size w W → Sl B 3 W v (ints raw) → Calls Try.prog 35 #[v, .int .i64 i] W fun e w' => ∃ z, e = .returned (.int .i64 z) ∧ (0 ≤ z ∧ z ≤ 4611686018427387904) ∧ Below W.heap.size W w') := fun i W h h2 h3 => raw_any B raw v i W h3 hr hl (by omega)
  have HPK : Hid (∀ (c : Int) W, 0 ≤ c → c ≤ 4611686018427387904 → Calls Try.prog 19 #[.int .i64 c, .int .i64 n] W fun e w' => ∃ z, e = .returned (.int .i64 z) ∧ (0 ≤ z ∧ z < n) ∧ w' = W) := fun c W a b => pick_any c n W (by omega) (by omega) ⟨by omega, by omega⟩
  have HV : Hid (Sl B 3 w v (ints raw)) := hv
  obtain ⟨ro, rc, hvv, _, _⟩ := sl_open hv
  subst hvv
  clear hv hr hl
  go_enter Try.func20, Try.ntmps20
  go_wp2
  go_loopw [9, 10] (fun lv iv wr => ∃ (i : Nat) (wd : List Nat), i ≤ many ∧ iv = .int .i64 i ∧ wd.length = i ∧ (∀ r ∈ wd, r < n) ∧ wr.ownsRow w.heap.size 3 1 lv i (ints (natsI wd)) ∧ Below w.heap.size w wr) (fun _ iv _ => many - (intOf iv).toNat)
  case atStart => exact ⟨0, [], Nat.zero_le _, rfl, rfl, by simp, World.ownsRow_nil _ _ _ _, Below.refl _ _⟩
  case round =>
    obtain ⟨i, wd, hi, rfl, hwl, hwn, ho, hb⟩ := hrel
    obtain ⟨lo, lc, hlv⟩ := owns_form ho
    subst hlv
    have HWL : Hid (wd.length = i) := hwl
    have HWN : Hid (∀ r ∈ wd, r < n) := hwn
    have HO : Hid (wr.ownsRow w.heap.size 3 1 (.slice lo i lc) i (ints (natsI wd))) := ho
    have HB : Hid (Below w.heap.size w wr) := hb
    clear hwl hwn ho hb
    by_cases hlt : i < many
    · have HR1 := HRA.out (st + i) wr (by omega) HB.out (HV.out.below HB.out (Nat.le_refl _))
      have est : ((st + i : Nat) : Int) = (st : Int) + (i : Int) := by omega
      rw [est] at HR1
      clear est
      go_wp2_with fail
      refine HR1.mono ?_
      rintro e w1 ⟨z, rfl, ⟨hz0, hz1⟩, hb1⟩
      have HB1 : Hid (Below w.heap.size w w1) := HB.out.trans (hb1.mono HB.out.size)
      have HO1 : Hid (w1.ownsRow w.heap.size 3 1 (.slice lo i lc) i (ints (natsI wd))) := owns_below HO.out hb1 (Nat.le_refl _)
      have HP1 := HPK.out z w1 hz0 hz1
      clear hb1 HR1 HO HB
      go_wp2_with fail
      refine HP1.mono ?_
      rintro e w2 ⟨q, rfl, ⟨hq0, hq1⟩, rfl⟩
      obtain ⟨q, rfl⟩ : ∃ k : Nat, q = (k : Int) := ⟨q.toNat, by omega⟩
      clear HP1
      have hsz : w.heap.size ≤ w2.heap.size := HB1.out.size
      have HNL : Hid ((natsI wd).length = i) := by rw [natsI_len]; exact HWL.out
      have G2 : Hid (w2.ownsRow w.heap.size 3 1 (.slice lo i lc) (natsI wd).length (ints (natsI wd))) := by rw [HNL.out]; exact HO1.out
      go_wp2_with (first | (at_builtin; refine wpList_append_own _ rfl _ _ 22 rfl w.heap.size 3 i3 (.int .i64 0) 1 8 Try.underlying22 hi3 hz30 hz31 hz32 rfl (by decide) _ _ _ rfl (G2.out.alloc _) ⟨w2.heap.size, 0, none⟩ 1 1 [.int .i64 (q : Int)] rfl rfl (one_new _ _ _) (one_int _) ?c3 ?c4 ?c5 ?_))
      case c3 => rw [HNL.out]; unfold maxLen; omega
      case c4 => rw [HNL.out]; omega
      case c5 => simp; omega
      intro v2 w4 ho hg _
      have RR := owns_push (z := (q : Int)) (N := (natsI wd).length + 1) hsz (l := natsI wd) G2.out HB1.out ho hg rfl
      have S1 : Hid (w4.ownsRow w.heap.size 3 1 v2 (i + 1) (ints (natsI (wd ++ [q])))) := by
        have h1 := RR.1
        rw [HNL.out] at h1
        show w4.ownsRow _ _ _ _ _ _
        simpa [natsI] using h1
      have S2 : Hid (Below w.heap.size w w4) := RR.2
      have S3 : Hid (∀ r ∈ wd ++ [q], r < n) := fun r hr => by
        rcases List.mem_append.1 hr with h | h
        · exact HWN.out r h
        · rw [List.mem_singleton] at h; omega
      obtain ⟨vo, vc, hv2⟩ := owns_form ho
      subst hv2
      clear ho hg RR
      go_wp2
      go_roundw
      case rel => exact ⟨i + 1, wd ++ [q], by omega, by go_num, by rw [List.length_append, HWL.out]; rfl, S3.out, S1.out, S2.out⟩
      case measure => simp [intOf]; omega
    · have hie : i = many := by omega
      subst hie
      go_wp2
      go_ret
      exact ⟨_, wd, rfl, HWL.out, HWN.out, HO.out, HB.out⟩

end Go.Proofs.Ytnooabbcfhmjaaa
