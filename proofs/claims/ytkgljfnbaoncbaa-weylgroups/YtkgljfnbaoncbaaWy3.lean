/- mirror.Upright. -/
import Derived.Test.YtkgljfnbaoncbaaMgAE
import Derived.Test.YtkgljfnbaoncbaaMgAC
import Derived.Test.YtkgljfnbaoncbaaMgAB
import Derived.Deep.RegionHeld3
import Derived.Deep.RegionLaw
namespace Go.Proofs.Ytkgljfnbaoncbaa
open Go.RowKit
attribute [local go_sem ↓] Go.wp_at_zero Go.wp_at_succ

def negB (z : Int) : Bool := decide (z < 0)

set_option maxRecDepth 100000 in
theorem upn1_any (z : Int) (w : World) : Calls Try.prog 49 #[.int .i64 z] w fun e w' => e = .returned (.bool (negB z)) ∧ w' = w := by
  go_enter Try.func49, Try.ntmps49
  go_wp2
  go_ret
  exact ⟨rfl, rfl⟩

set_option maxRecDepth 100000 in
set_option maxHeartbeats 400000 in
theorem indexN_any (B : Nat) (zs : List Int) (v : Value) (w : World) (hv : Sl B 3 w v (ints zs)) :
    Calls Try.prog 48 #[v, .func (.func 49) #[] #[]] w fun e w' => e = .returned (.int .i64 (findI negB zs)) ∧ w' = w := by
  obtain ⟨ao, cap, hvv, hlc, hcm⟩ := sl_open hv
  subst hvv
  have HV : Hid (Sl B 3 w (.slice ao zs.length cap) (ints zs)) := hv
  have HIL : Hid (∀ x, Calls Try.prog 49 #[.int .i64 x] w fun e w' => e = .returned (.bool (negB x)) ∧ w' = w) := fun x => upn1_any x w
  clear hv
  go_enter Try.func48, Try.ntmps48
  go_wp2
  go_loop [8] (fun i => ∃ k : Nat, k ≤ zs.length ∧ i = .int .i64 k ∧ (zs.take k).any negB = false) (fun i => zs.length - (intOf i).toNat)
  case atStart => exact ⟨0, Nat.zero_le _, rfl, by simp⟩
  case round =>
    obtain ⟨k, hk, rfl, hno⟩ := hrel
    have HN : Hid ((zs.take k).any negB = false) := hno
    clear hno
    by_cases hlt : k < zs.length
    · obtain ⟨b', o, cp, hs', hc1, hcc⟩ := sl_cell HV.out hlt
      simp only [Value.slice.injEq] at hs'
      obtain ⟨rfl, _, rfl⟩ := hs'
      have HS1 : Hid ((zs.take (k + 1)).any negB = negB zs[k]) := any_snoc (p := negB) hlt HN.out
      have HH : Hid (negB zs[k] = true → findI negB zs = k) := fun h => findI_hit (p := negB) hlt HN.out h
      rw [show zs.getD k 0 = zs[k] by simp [hlt]] at hcc
      have HIX : Hid (Calls Try.prog 49 #[.int .i64 zs[k]] w fun e w' => e = .returned (.bool (negB zs[k])) ∧ w' = w) := HIL.out _
      generalize zs[k] = x at *
      generalize negB x = fb at *
      cases fb
      · go_wp2_with (go_at_call 49; refine HIX.out.mono ?_; rintro e w' ⟨rfl, rfl⟩)
        go_round
        case rel => exact ⟨k + 1, by omega, by go_num, HS1.out⟩
        case measure => simp [intOf]; omega
      · have HH2 : Hid (findI negB zs = k) := HH.out rfl
        clear HH
        go_wp2_with (go_at_call 49; refine HIX.out.mono ?_; rintro e w' ⟨rfl, rfl⟩)
        go_ret
        exact ⟨ret_int HH2.out.symm, rfl⟩
    · have e : zs.take k = zs := List.take_of_length_le (by omega)
      rw [e] at HN
      have HF : Hid (findI negB zs = -1) := findI_none HN.out
      go_wp2
      go_ret
      exact ⟨ret_int HF.out.symm, rfl⟩

theorem fneg_find {v : List Int} : (fneg v = none → findI negB v = -1) ∧ ∀ r, fneg v = some r → findI negB v = r := by
  constructor
  · intro h
    refine findI_none ?_
    unfold fneg at h
    rw [List.findIdx?_eq_none_iff] at h
    rw [List.any_eq_false]
    intro x hx
    have := h x hx
    simpa [negB] using this
  · intro r h
    unfold fneg at h
    rw [List.findIdx?_eq_some_iff_getElem] at h
    obtain ⟨h1, h2, h3⟩ := h
    refine findI_hit h1 ?_ (by simpa [negB] using h2)
    rw [List.any_eq_false]
    intro x hx
    rw [List.mem_take_iff_getElem] at hx
    obtain ⟨j, hj, rfl⟩ := hx
    have := h3 j (by omega)
    simpa [negB] using this

/-- All blocks that were there but one are as they were. -/
structure Btx (g : Nat) (w w' : World) : Prop where
  os : w'.os = w.os
  tape : w'.tape = w.tape
  output : w'.output = w.output
  size : w.heap.size ≤ w'.heap.size
  block : ∀ b, b < w.heap.size → b ≠ g → w'.heap[b]? = w.heap[b]?

theorem Btx.refl (g : Nat) (w : World) : Btx g w w := ⟨rfl, rfl, rfl, Nat.le_refl _, fun _ _ _ => rfl⟩
theorem Btx.trans {g : Nat} {a b c : World} (h : Btx g a b) (k : Btx g b c) : Btx g a c := ⟨k.os.trans h.os, k.tape.trans h.tape, k.output.trans h.output, Nat.le_trans h.size k.size, fun x hx hn => (k.block x (Nat.lt_of_lt_of_le hx h.size) hn).trans (h.block x hx hn)⟩
theorem Btx.of_only {g : Nat} {a b : World} (h : Only g a b) : Btx g a b := ⟨h.os, h.tape, h.output, Nat.le_of_eq h.size.symm, fun x _ hn => h.block x hn⟩
theorem Btx.alloc {g : Nat} {a b : World} (h : Btx g a b) (o : Obj) : Btx g a (b.alloc o) := ⟨h.os, h.tape, h.output, by simp; have := h.size; omega, fun x hx hn => (Below.heap_alloc _ _ _ (Nat.lt_of_lt_of_le hx h.size)).trans (h.block x hx hn)⟩

theorem own_keepU {B n : Nat} {e : TypeId} {w w' : World} {v : Value} {xs : List Value} (h : w.ownsRow B e 1 v n xs) (hk : ∀ b, v.ownBlock = some b → w'.heap[b]? = w.heap[b]?) : w'.ownsRow B e 1 v n xs := by
  refine ⟨h.1, ?_⟩
  rcases h.2 with h1 | ⟨g, cap, cur, h1, h2, h3, h4⟩
  · exact .inl h1
  · exact .inr ⟨g, cap, cur, h1, h2, (hk g (by rw [h1]; rfl)).trans h3, h4⟩

def natsI (l : List Nat) : List Int := l.map fun k : Nat => (k : Int)

set_option maxRecDepth 100000 in
set_option maxHeartbeats 1600000 in
theorem uprt_any (n : Nat) (c : List (List Int)) (v : List Int) (g B f : Nat) (cv : Value) (w0 w : World) (hc : Sqc n c) (hm : Mat B 26 3 w0 cv c) (hag : ∀ b, b < w0.heap.size → w.heap[b]? = w0.heap[b]?) (hg : w0.heap.size ≤ g) (hgw : g < w.heap.size)
    (hrow : w.rowIs g 3 n (fun k => .int .i64 (v.getD k 0))) (hvl : v.length = n) (Bd : List Int → Prop) (hB0 : Bd v) (hB1 : ∀ u r, r < n → Bd u → Bd (ovL c u r)) (hB2 : ∀ u, Bd u → ∀ k, -1000000 ≤ u.getD k 0 ∧ u.getD k 0 ≤ 1000000) (hE : fneg (upE c f v) = none) (hf : f ≤ 1000) :
    Calls Try.prog 28 #[cv, .slice (some ⟨g, 0, none⟩) n n] w fun e w' => ∃ u, e = .returned u ∧ w'.ownsRow w.heap.size 3 1 u (upr c f v).length (ints (natsI (upr c f v))) ∧ Btx g w w' := by
  obtain ⟨i3, hi3, hz30, hz31, hz32⟩ := info_parts Try.info3
  have hn4 := hc.n4
  have HCL : Hid (c.length = n) := hc.len
  have HOV : Hid (∀ W' u r, Btx g w W' → r < n → Bd u → W'.rowIs g 3 n (fun k => .int .i64 (u.getD k 0)) → Calls Try.prog 50 #[cv, .slice (some ⟨g, 0, none⟩) n n, .int .i64 (r : Nat)] W' fun e w' => e = .returned (.tuple #[]) ∧ w'.rowIs g 3 n (fun k => .int .i64 ((ovL c u r).getD k 0)) ∧ Only g W' w') := fun W' u r h1 h2 h3 h4 =>
    over_any n c u r g B cv w0 W' hc hm (fun b hb => (h1.block b (by omega) (by omega)).trans (hag b hb)) hg h2 (hB2 u h3) h4
  have HIX : Hid (∀ W' (u : List Int), u.length = n → W'.rowIs g 3 n (fun k => .int .i64 (u.getD k 0)) → Calls Try.prog 48 #[.slice (some ⟨g, 0, none⟩) n n, .func (.func 49) #[] #[]] W' fun e w' => e = .returned (.int .i64 (findI negB u)) ∧ w' = W') := fun W' u h1 h2 =>
    indexN_any 0 u _ W' (row_slT h2 (fun i _ => rfl) h1 (Nat.le_refl _) (by omega))
  have HB1 : Hid (∀ u r, r < n → Bd u → Bd (ovL c u r)) := hB1
  have HI0 : Hid (w.rowIs g 3 n (fun k => .int .i64 (v.getD k 0)) ∧ v.length = n ∧ Bd v ∧ fneg (upE c f v) = none) := ⟨hrow, hvl, hB0, hE⟩
  clear hc hm hag hrow hvl hB0 hB1 hB2 hE
  go_enter Try.func28, Try.ntmps28
  go_wp2
  go_loopw [5, 6] (fun tv _ wr => ∃ (dn : List Nat) (u : List Int) (f' : Nat), dn.length + f' = f ∧ upr c f v = dn ++ upr c f' u ∧ fneg (upE c f' u) = none ∧ u.length = n ∧ Bd u ∧ wr.rowIs g 3 n (fun k => .int .i64 (u.getD k 0)) ∧ wr.ownsRow w.heap.size 3 1 tv dn.length (ints (natsI dn)) ∧ Btx g w wr) (fun tv _ _ => f - (match tv with | .slice _ k _ => k | _ => 0))
  case atStart => exact ⟨[], v, f, by simp, rfl, HI0.out.2.2.2, HI0.out.2.1, HI0.out.2.2.1, HI0.out.1, World.ownsRow_nil _ _ _ _, Btx.refl _ _⟩
  case round =>
    obtain ⟨dn, u, f', hdf, hup, hfe, hul, hbu, hru, hot, hbt⟩ := hrel
    have HUP : Hid (upr c f v = dn ++ upr c f' u) := hup
    have HFE : Hid (fneg (upE c f' u) = none) := hfe
    have HBU : Hid (Bd u) := hbu
    have HRU : Hid (wr.rowIs g 3 n (fun k => .int .i64 (u.getD k 0))) := hru
    have HOT : Hid (wr.ownsRow w.heap.size 3 1 u5 dn.length (ints (natsI dn))) := hot
    have HBT : Hid (Btx g w wr) := hbt
    have hsz : w.heap.size ≤ wr.heap.size := hbt.size
    have HXU : Hid (Calls Try.prog 48 #[.slice (some ⟨g, 0, none⟩) n n, .func (.func 49) #[] #[]] wr fun e w' => e = .returned (.int .i64 (findI negB u)) ∧ w' = wr) := HIX.out wr u hul hru
    obtain ⟨to, tc, htv⟩ := owns_form hot
    subst htv
    clear hup hfe hbu hru hot hbt
    cases hn : fneg u with
    | none =>
      have hfi := fneg_find.1 hn
      rw [hfi] at HXU
      have HRES : Hid (upr c f v = dn) := by
        have h1 := HUP.out
        have h2 : upr c f' u = [] := by
          cases f' with
          | zero => rfl
          | succ f' => simp only [upr, hn]
        rw [h2, List.append_nil] at h1
        exact h1
      clear hfi hn
      go_wp2_with fail
      refine HXU.out.mono ?_
      rintro e w2 ⟨rfl, hw2⟩
      subst hw2
      go_wp2
      go_ret
      exact ⟨_, rfl, by rw [HRES.out]; exact HOT.out, HBT.out⟩
    | some r =>
      obtain ⟨hr1, _⟩ := fneg_some hn
      have hrn : r < n := by omega
      have hfi := fneg_find.2 r hn
      rw [hfi] at HXU
      obtain ⟨f2, hf2⟩ : ∃ f2, f' = f2 + 1 := by
        cases f' with
        | zero =>
          have := HFE.out
          simp only [upE] at this
          rw [hn] at this
          cases this
        | succ f2 => exact ⟨f2, rfl⟩
      subst hf2
      have HUP2 : Hid (upr c f v = (dn ++ [r]) ++ upr c f2 (ovL c u r)) := by
        have h1 := HUP.out
        simp only [upr, hn] at h1
        rw [h1]
        show _ = _
        simp
      have HFE2 : Hid (fneg (upE c f2 (ovL c u r)) = none) := by
        have h1 := HFE.out
        simp only [upE, hn] at h1
        exact h1
      have HBU2 : Hid (Bd (ovL c u r)) := HB1.out u r hrn HBU.out
      have HLU2 : Hid ((ovL c u r).length = n) := by rw [ovL_len]; exact HCL.out
      have HOR : Hid (Calls Try.prog 50 #[cv, .slice (some ⟨g, 0, none⟩) n n, .int .i64 (r : Nat)] wr fun e w' => e = .returned (.tuple #[]) ∧ w'.rowIs g 3 n (fun k => .int .i64 ((ovL c u r).getD k 0)) ∧ Only g wr w') := HOV.out wr u r HBT.out hrn HBU.out HRU.out
      have rD : decide ((r : Int) < 0) = false := decide_eq_false (by omega)
      clear hfi hn HUP HFE hr1
      go_wp2_with fail
      refine HXU.out.mono ?_
      rintro e w2 ⟨rfl, hw2⟩
      subst hw2
      go_wp2_with fail
      refine HOR.out.mono ?_
      rintro e w3 ⟨rfl, hrow3, hon3⟩
      have HR3 : Hid (w3.rowIs g 3 n (fun k => .int .i64 ((ovL c u r).getD k 0))) := hrow3
      have HB3 : Hid (Btx g w w3) := HBT.out.trans (Btx.of_only hon3)
      have hsz3 : w.heap.size ≤ w3.heap.size := HB3.out.size
      have HO3 : Hid (w3.ownsRow w.heap.size 3 1 (.slice to dn.length tc) dn.length (ints (natsI dn))) := own_keepU HOT.out fun b hb => hon3.block b (by have := (HOT.out.lt b hb).1; omega)
      clear hrow3 hon3 HOR HOT HBT HRU HXU
      go_wp2_with (first | (at_builtin; refine wpList_append_own _ rfl _ _ 26 rfl w.heap.size 3 i3 (.int .i64 0) 1 8 Try.underlying26 hi3 hz30 hz31 hz32 rfl (by decide) _ _ _ rfl (HO3.out.alloc _) ⟨w3.heap.size, 0, none⟩ 1 1 [.int .i64 (r : Nat)] rfl rfl (one_new _ _ _) (one_int _) ?c3 ?c4 ?c5 ?_))
      case c3 => unfold maxLen; omega
      case c4 => omega
      case c5 => first | exact hsz3 | (simp; omega)
      intro v' w5 ho5 hg5 _
      have hne : ∀ b, b < w3.heap.size → (∀ q, (Value.slice to dn.length tc).ownBlock = some q → q ≠ b) → w5.heap[b]? = w3.heap[b]? := fun b hb hq => (hg5.block b (by simp; omega) (fun e => hq b e.symm rfl)).trans (Below.heap_alloc _ _ _ hb)
      have hgne : w5.heap[g]? = w3.heap[g]? := hne g (by omega) fun q hq e => by have := (HO3.out.lt q hq).1; omega
      have HR5 : Hid (w5.rowIs g 3 n (fun k => .int .i64 ((ovL c u r).getD k 0))) := HR3.out.of_block hgne
      have HB5 : Hid (Btx g w w5) := ⟨hg5.os.trans HB3.out.os, hg5.tape.trans HB3.out.tape, hg5.output.trans HB3.out.output, Nat.le_trans hsz3 (Nat.le_trans (by simp) hg5.size), fun b hb hn => (hne b (by omega) fun q hq e => by have := (HO3.out.lt q hq).1; omega).trans (HB3.out.block b hb hn)⟩
      have HO5 : Hid (w5.ownsRow w.heap.size 3 1 v' (dn ++ [r]).length (ints (natsI (dn ++ [r])))) := by
        have e1 : ints (natsI (dn ++ [r])) = ints (natsI dn) ++ [.int .i64 (r : Nat)] := by simp [ints, natsI]
        show World.ownsRow _ _ _ _ _ _ _
        rw [e1, List.length_append, List.length_singleton]
        exact ho5
      obtain ⟨vo, vc, hvv5⟩ := owns_form ho5
      subst hvv5
      clear ho5 hg5 hne hgne HR3 HB3 HO3
      go_wp2
      exact ⟨⟨dn ++ [r], ovL c u r, f2, by simp; omega, HUP2.out, HFE2.out, HLU2.out, HBU2.out, HR5.out, by simpa using HO5.out, HB5.out⟩, by simp; omega⟩

end Go.Proofs.Ytkgljfnbaoncbaa
