/- The document's lists: In, Holds, shared. -/
import Derived.Test.YtmldemimdejciaaDoorSh2
import Derived.Test.YtmldemimdejciaaDoorRefs3
namespace Go.Proofs.YtmldemimdejciaaDoor
open Go.RowKit
attribute [local go_sem ↓] Go.wp_at_zero Go.wp_at_succ

theorem bel_drewN {N : Nat} {a b : World} (h : Below N a b) : ∀ n, Below N a (b.drewN n) := by
  intro n
  induction n generalizing b with
  | zero => exact h
  | succ n ih => exact Below.drew (ih h)

theorem any_eq_contains (zs : List Int) (x : Int) : zs.any (fun z => z == x) = zs.contains x := by
  rw [Bool.eq_iff_iff]; simp

theorem any_eq_containsR (m : List (List Int)) (x : List Int) : m.any (fun z => z == x) = m.contains x := by
  rw [Bool.eq_iff_iff]; simp

theorem any_take_snoc {α : Type} {p : α → Bool} {l : List α} {d : α} {k : Nat} (h : k < l.length) (h0 : (l.take k).any p = false) : (l.take (k + 1)).any p = p (l.getD k d) := by
  rw [List.take_succ_eq_append_getElem h, List.any_append, h0]; simp [h]

theorem any_get {α : Type} {p : α → Bool} {l : List α} {d : α} {k : Nat} (h : k < l.length) (h0 : p (l.getD k d) = true) : l.any p = true :=
  List.any_eq_true.2 ⟨l.getD k d, by simp [h], h0⟩

set_option maxRecDepth 100000 in
set_option maxHeartbeats 400000 in
theorem inR_any (B : Nat) (x : Int) (zs : List Int) (v : Value) (w : World) (hv : Sl B 3 w v (ints zs)) :
    Calls Tryd.prog 25 #[.int .i64 x, v] w fun e w' => e = .returned (.bool (zs.contains x)) ∧ ∃ n, w' = w.drewN n := by
  obtain ⟨ao, cap, hvv, hlc, hcm⟩ := sl_open hv
  subst hvv
  have HV : Hid (Sl B 3 w (.slice ao zs.length cap) (ints zs)) := hv
  clear hv
  rw [← any_eq_contains]
  go_enter Tryd.func25, Tryd.ntmps25
  go_wp2
  go_loopw [5] (fun i wr => ∃ k : Nat, k ≤ zs.length ∧ i = .int .i64 k ∧ (zs.take k).any (fun z => z == x) = false ∧ ∃ n, wr = w.drewN n) (fun i _ => zs.length - (intOf i).toNat)
  case atStart => exact ⟨0, Nat.zero_le _, rfl, by simp, 0, rfl⟩
  case round =>
    obtain ⟨k, hk, rfl, hno, n, rfl⟩ := hrel
    have HN : Hid ((zs.take k).any (fun z => z == x) = false) := hno
    clear hno
    by_cases hlt : k < zs.length
    · obtain ⟨b, o, cp, hs, hc1, hcc⟩ := sl_cell HV.out hlt
      simp only [Value.slice.injEq] at hs
      obtain ⟨rfl, _, rfl⟩ := hs
      have HS1 : Hid ((zs.take (k + 1)).any (fun z => z == x) = (zs.getD k 0 == x)) := any_take_snoc (p := fun z => z == x) hlt HN.out
      have HG : Hid ((zs.getD k 0 == x) = true → zs.any (fun z => z == x) = true) := fun h => any_get (p := fun z => z == x) hlt h
      generalize zs.getD k 0 = z at *
      cases hf : (z == x)
      · have HF : Hid ((z == x) = false) := hf
        go_wp2
        go_roundw
        case rel => exact ⟨k + 1, by omega, by go_num, by rw [HS1.out]; exact HF.out, _, rfl⟩
        case measure => simp [intOf]; omega
      · have HF : Hid ((z == x) = true) := hf
        go_wp2
        go_ret
        exact ⟨ret_bool (HG.out HF.out).symm, _, rfl⟩
    · have hke : zs.take k = zs := List.take_of_length_le (by omega)
      have HE : Hid (zs.any (fun z => z == x) = false) := by rw [← hke]; exact HN.out
      go_wp2
      go_ret
      exact ⟨ret_bool HE.out.symm, n, rfl⟩

set_option maxRecDepth 100000 in
set_option maxHeartbeats 800000 in
theorem holds_any (B : Nat) (x : List Int) (m : List (List Int)) (u v : Value) (w : World) (hu : Sl B 3 w u (ints x)) (hv : Mat B 26 3 w v m) :
    Calls Tryd.prog 14 #[v, u] w fun e w' => e = .returned (.bool (m.contains x)) ∧ ∃ n, w' = w.drewN n := by
  obtain ⟨ao, cap, hvv, hlc, hcm⟩ := mat_open hv
  subst hvv
  have HU : Hid (Sl B 3 w u (ints x)) := hu
  have HV : Hid (Mat B 26 3 w (.slice ao m.length cap) m) := hv
  clear hu hv
  rw [← any_eq_containsR]
  go_enter Tryd.func14, Tryd.ntmps14
  go_wp2
  go_loopw [5] (fun i wr => ∃ k : Nat, k ≤ m.length ∧ i = .int .i64 k ∧ (m.take k).any (fun z => z == x) = false ∧ ∃ n, wr = w.drewN n) (fun i _ => m.length - (intOf i).toNat)
  case atStart => exact ⟨0, Nat.zero_le _, rfl, by simp, 0, rfl⟩
  case round =>
    obtain ⟨k, hk, rfl, hno, n, rfl⟩ := hrel
    have HN : Hid ((m.take k).any (fun z => z == x) = false) := hno
    clear hno
    by_cases hlt : k < m.length
    · obtain ⟨b, o, cp, r1, hs, hc1, hcc, hr1⟩ := mat_cell (HV.out.drewN n) hlt
      simp only [Value.slice.injEq] at hs
      obtain ⟨rfl, _, rfl⟩ := hs
      have HR1 : Hid (Sl B 3 (w.drewN n) r1 (ints (m.getD k []))) := hr1
      have HS1 : Hid ((m.take (k + 1)).any (fun z => z == x) = (m.getD k [] == x)) := any_take_snoc (p := fun z => z == x) hlt HN.out
      have HG : Hid ((m.getD k [] == x) = true → m.any (fun z => z == x) = true) := fun h => any_get (p := fun z => z == x) hlt h
      clear hr1
      generalize m.getD k [] = z at *
      go_wp2_with fail
      refine (same_any B z x r1 u (w.drewN n) HR1.out (HU.out.drewN n)).mono ?_
      rintro e w' ⟨rfl, n2, rfl⟩
      cases hf : (z == x)
      · have HF : Hid ((z == x) = false) := hf
        clear hf
        go_wp2
        go_roundw
        case rel => exact ⟨k + 1, by omega, by go_num, by rw [HS1.out]; exact HF.out, _, rfl⟩
        case measure => simp [intOf]; omega
      · have HF : Hid ((z == x) = true) := hf
        clear hf
        go_wp2
        go_ret
        exact ⟨ret_bool (HG.out HF.out).symm, _, rfl⟩
    · have hke : m.take k = m := List.take_of_length_le (by omega)
      have HE : Hid (m.any (fun z => z == x) = false) := by rw [← hke]; exact HN.out
      go_wp2
      go_ret
      exact ⟨ret_bool HE.out.symm, n, rfl⟩

set_option maxRecDepth 100000 in
set_option maxHeartbeats 800000 in
theorem shared_any (B : Nat) (x y : List Int) (u v : Value) (w : World) (hu : Sl B 3 w u (ints x)) (hv : Sl B 3 w v (ints y)) (hx : x.length ≤ 1000) :
    Calls Tryd.prog 15 #[u, v] w fun e w' => ∃ z, e = .returned z ∧ w'.ownsRow w.heap.size 3 1 z (sharedL x y).length (ints (sharedL x y)) ∧ Below w.heap.size w w' := by
  obtain ⟨i3, hi3, hz30, hz31, hz32⟩ := info_parts Tryd.info3
  obtain ⟨ao, cap, hvv, hlc, hcm⟩ := sl_open hu
  obtain ⟨bo, cbp, huu, hlb, hcb⟩ := sl_open hv
  subst hvv huu
  have HU : Hid (Sl B 3 w (.slice ao x.length cap) (ints x)) := hu
  have HV : Hid (Sl B 3 w (.slice bo y.length cbp) (ints y)) := hv
  clear hu hv
  go_enter Tryd.func15, Tryd.ntmps15
  go_wp2
  go_loopw [5, 6] (fun s i wr => ∃ k : Nat, k ≤ x.length ∧ i = .int .i64 k ∧ wr.ownsRow w.heap.size 3 1 s (sharedL (x.take k) y).length (ints (sharedL (x.take k) y)) ∧ Below w.heap.size w wr) (fun _ i _ => x.length - (intOf i).toNat)
  case atStart => exact ⟨0, Nat.zero_le _, rfl, World.ownsRow_nil _ _ _ _, Below.refl _ _⟩
  case round =>
    obtain ⟨k, hk, rfl, ho, hb⟩ := hrel
    have HO : Hid (wr.ownsRow w.heap.size 3 1 u5 (sharedL (x.take k) y).length (ints (sharedL (x.take k) y))) := ho
    have HB : Hid (Below w.heap.size w wr) := hb
    have hszr : w.heap.size ≤ wr.heap.size := hb.size
    clear ho hb
    by_cases hlt : k < x.length
    · obtain ⟨b, o, cp, hs, hc1, hcc⟩ := sl_cell (HU.out.below HB.out (Nat.le_refl _)) hlt
      simp only [Value.slice.injEq] at hs
      obtain ⟨rfl, _, rfl⟩ := hs
      have HTK : Hid (sharedL (x.take (k + 1)) y = if y.contains (x.getD k 0) then sharedL (x.take k) y ++ [x.getD k 0] else sharedL (x.take k) y) := by
        show _ = _
        rw [take_snoc_int x k hlt]
        unfold sharedL
        rw [List.filter_append]
        cases h : y.contains (x.getD k 0)
        · simp only [List.filter_cons, h, List.filter_nil]; simp
        · simp only [List.filter_cons, h, List.filter_nil]; simp
      have HLE : Hid ((sharedL (x.take k) y).length ≤ k) := by
        show _ ≤ _
        unfold sharedL
        exact Nat.le_trans (List.length_filter_le _ _) (by rw [List.length_take]; omega)
      generalize x.getD k 0 = z at *
      go_wp2_with fail
      refine (inR_any B z y _ wr (HV.out.below HB.out (Nat.le_refl _))).mono ?_
      rintro e w2 ⟨rfl, n2, rfl⟩
      have hcc2 : (wr.drewN n2).cell? ⟨b, o + k, none⟩ = some (.int .i64 z) := hcc
      clear hcc
      have HO2 : Hid ((wr.drewN n2).ownsRow w.heap.size 3 1 u5 (sharedL (x.take k) y).length (ints (sharedL (x.take k) y))) := HO.out
      have HB2 : Hid (Below w.heap.size w (wr.drewN n2)) := bel_drewN HB.out n2
      have hszr2 : w.heap.size ≤ (wr.drewN n2).heap.size := hszr
      clear HO HB hszr
      generalize wr.drewN n2 = w2 at *
      cases hf : y.contains z
      · rw [hf] at HTK
        go_wp2
        go_roundw
        case rel => exact ⟨k + 1, by omega, by go_num, by rw [HTK.out]; exact HO2.out, HB2.out⟩
        case measure => simp [intOf]; omega
      · rw [hf] at HTK
        go_wp2_with (first | (at_builtin; refine wpList_append_own _ rfl _ _ 26 rfl w.heap.size 3 i3 (.int .i64 0) 1 8 Tryd.underlying26 hi3 hz30 hz31 hz32 rfl (by decide) _ _ _ rfl (HO2.out.alloc _) ⟨w2.heap.size, 0, none⟩ 1 1 [.int .i64 z] rfl rfl (one_new _ _ _) (one_int _) ?c3 ?c4 ?c5 ?_))
        case c3 => have := HLE.out; unfold maxLen; omega
        case c4 => have := HLE.out; omega
        case c5 => simp; omega
        intro v' w3 ho hg _
        have R := owns_push (z := z) (N := (sharedL (x.take k) y).length + 1) hszr2 (l := sharedL (x.take k) y) HO2.out HB2.out ho hg rfl
        have R1 : Hid (w3.ownsRow w.heap.size 3 1 v' (sharedL (x.take (k + 1)) y).length (ints (sharedL (x.take (k + 1)) y))) := by
          show World.ownsRow _ _ _ _ _ _ _
          rw [HTK.out, if_pos trivial, List.length_append]
          exact R.1
        have R2 : Hid (Below w.heap.size w w3) := R.2
        clear R ho hg HO2 HB2
        go_wp2
        go_roundw
        case rel => exact ⟨k + 1, by omega, by go_num, R1.out, R2.out⟩
        case measure => simp [intOf]; omega
    · have hke : x.take k = x := List.take_of_length_le (by omega)
      have HO' : Hid (wr.ownsRow w.heap.size 3 1 u5 (sharedL x y).length (ints (sharedL x y))) := by have := HO.out; rw [hke] at this; exact this
      clear HO
      go_wp2
      go_ret
      exact ⟨_, rfl, HO'.out, HB.out⟩
end Go.Proofs.YtmldemimdejciaaDoor
