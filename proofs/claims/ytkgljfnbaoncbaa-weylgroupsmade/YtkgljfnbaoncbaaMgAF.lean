import Derived.Test.YtkgljfnbaoncbaaMgAC
import Derived.Test.YtkgljfnbaoncbaaMgAB
import Derived.Deep.RegionHeld3
import Derived.Deep.RegionLaw
import Derived.Test.YtkgljfnbaoncbaaMgAE
import Derived.Deep.DrawnRows
import Derived.Maps.AppendAt
import Derived.Lib.TrailingZeros
import Derived.Laws.Bits64b
/- Points of raw numbers: each is small, whatever the numbers. -/
namespace Go.Proofs.Ytkgljfnbaoncbaa
open Go.RowKit
attribute [local go_sem ↓] Go.wp_at_zero Go.wp_at_succ

def In64 (z : Int) : Prop := -9223372036854775808 ≤ z ∧ z ≤ 9223372036854775807

set_option maxRecDepth 100000 in
set_option maxHeartbeats 400000 in
theorem pick_any (c n : Int) (w : World) (h1 : 1 ≤ n) (h2 : n ≤ 4611686018427387904) (hc : In64 c) :
    Calls Try.prog 39 #[.int .i64 c, .int .i64 n] w fun e w' => ∃ z, e = .returned (.int .i64 z) ∧ (0 ≤ z ∧ z < n) ∧ w' = w := by
  have c0 : -9223372036854775808 ≤ c := hc.1
  have c1 : c ≤ 9223372036854775807 := hc.2
  clear hc
  have hn0 : ¬ n = 0 := by omega
  by_cases hcn : c < 0
  · have e0 : (-(c + 1)).tmod n = (-(c + 1)) % n := Int.tmod_eq_emod_of_nonneg (by omega)
    have e1 := Int.emod_nonneg (-(c + 1)) hn0
    have e2 := Int.emod_lt_of_pos (-(c + 1)) (show 0 < n by omega)
    go_enter Try.func39, Try.ntmps39
    go_wp2
    go_ret
    exact ⟨_, rfl, ⟨e1, e2⟩, rfl⟩
  · have e0 : c.tmod n = c % n := Int.tmod_eq_emod_of_nonneg (by omega)
    have e1 := Int.emod_nonneg c hn0
    have e2 := Int.emod_lt_of_pos c (show 0 < n by omega)
    go_enter Try.func39, Try.ntmps39
    go_wp2
    go_ret
    exact ⟨_, rfl, ⟨e1, e2⟩, rfl⟩

end Go.Proofs.Ytkgljfnbaoncbaa

/- mirror.Upright. -/
namespace Go.Proofs.Ytkgljfnbaoncbaa
open Go.RowKit
attribute [local go_sem ↓] Go.wp_at_zero Go.wp_at_succ

def negB (z : Int) : Bool := decide (z < 0)

set_option maxRecDepth 100000 in
theorem upn1_any (z : Int) (w : World) : Calls Try.prog 49 #[.int .i64 z] w fun e w' => e = .returned (.bool (negB z)) ∧ w' = w := by
  go_enter Try.func49, Try.ntmps49
  go_wp2
  go_ret
  exact ⟨rfl, rfl⟩

set_option maxRecDepth 100000 in
set_option maxHeartbeats 400000 in
theorem indexN_any (B : Nat) (zs : List Int) (v : Value) (w : World) (hv : Sl B 3 w v (ints zs)) :
    Calls Try.prog 48 #[v, .func (.func 49) #[] #[]] w fun e w' => e = .returned (.int .i64 (findI negB zs)) ∧ w' = w := by
  obtain ⟨ao, cap, hvv, hlc, hcm⟩ := sl_open hv
  subst hvv
  have HV : Hid (Sl B 3 w (.slice ao zs.length cap) (ints zs)) := hv
  have HIL : Hid (∀ x, Calls Try.prog 49 #[.int .i64 x] w fun e w' => e = .returned (.bool (negB x)) ∧ w' = w) := fun x => upn1_any x w
  clear hv
  go_enter Try.func48, Try.ntmps48
  go_wp2
  go_loop [8] (fun i => ∃ k : Nat, k ≤ zs.length ∧ i = .int .i64 k ∧ (zs.take k).any negB = false) (fun i => zs.length - (intOf i).toNat)
  case atStart => exact ⟨0, Nat.zero_le _, rfl, by simp⟩
  case round =>
    obtain ⟨k, hk, rfl, hno⟩ := hrel
    have HN : Hid ((zs.take k).any negB = false) := hno
    clear hno
    by_cases hlt : k < zs.length
    · obtain ⟨b', o, cp, hs', hc1, hcc⟩ := sl_cell HV.out hlt
      simp only [Value.slice.injEq] at hs'
      obtain ⟨rfl, _, rfl⟩ := hs'
      have HS1 : Hid ((zs.take (k + 1)).any negB = negB zs[k]) := any_snoc (p := negB) hlt HN.out
      have HH : Hid (negB zs[k] = true → findI negB zs = k) := fun h => findI_hit (p := negB) hlt HN.out h
      rw [show zs.getD k 0 = zs[k] by simp [hlt]] at hcc
      have HIX : Hid (Calls Try.prog 49 #[.int .i64 zs[k]] w fun e w' => e = .returned (.bool (negB zs[k])) ∧ w' = w) := HIL.out _
      generalize zs[k] = x at *
      generalize negB x = fb at *
      cases fb
      · go_wp2_with (go_at_call 49; refine HIX.out.mono ?_; rintro e w' ⟨rfl, rfl⟩)
        go_round
        case rel => exact ⟨k + 1, by omega, by go_num, HS1.out⟩
        case measure => simp [intOf]; omega
      · have HH2 : Hid (findI negB zs = k) := HH.out rfl
        clear HH
        go_wp2_with (go_at_call 49; refine HIX.out.mono ?_; rintro e w' ⟨rfl, rfl⟩)
        go_ret
        exact ⟨ret_int HH2.out.symm, rfl⟩
    · have e : zs.take k = zs := List.take_of_length_le (by omega)
      rw [e] at HN
      have HF : Hid (findI negB zs = -1) := findI_none HN.out
      go_wp2
      go_ret
      exact ⟨ret_int HF.out.symm, rfl⟩

theorem fneg_find {v : List Int} : (fneg v = none → findI negB v = -1) ∧ ∀ r, fneg v = some r → findI negB v = r := by
  constructor
  · intro h
    refine findI_none ?_
    unfold fneg at h
    rw [List.findIdx?_eq_none_iff] at h
    rw [List.any_eq_false]
    intro x hx
    have := h x hx
    simpa [negB] using this
  · intro r h
    unfold fneg at h
    rw [List.findIdx?_eq_some_iff_getElem] at h
    obtain ⟨h1, h2, h3⟩ := h
    refine findI_hit h1 ?_ (by simpa [negB] using h2)
    rw [List.any_eq_false]
    intro x hx
    rw [List.mem_take_iff_getElem] at hx
    obtain ⟨j, hj, rfl⟩ := hx
    have := h3 j (by omega)
    simpa [negB] using this

/-- All blocks that were there but one are as they were. -/
structure Btx (g : Nat) (w w' : World) : Prop where
  os : w'.os = w.os
  tape : w'.tape = w.tape
  output : w'.output = w.output
  size : w.heap.size ≤ w'.heap.size
  block : ∀ b, b < w.heap.size → b ≠ g → w'.heap[b]? = w.heap[b]?

theorem Btx.refl (g : Nat) (w : World) : Btx g w w := ⟨rfl, rfl, rfl, Nat.le_refl _, fun _ _ _ => rfl⟩
theorem Btx.trans {g : Nat} {a b c : World} (h : Btx g a b) (k : Btx g b c) : Btx g a c := ⟨k.os.trans h.os, k.tape.trans h.tape, k.output.trans h.output, Nat.le_trans h.size k.size, fun x hx hn => (k.block x (Nat.lt_of_lt_of_le hx h.size) hn).trans (h.block x hx hn)⟩
theorem Btx.of_only {g : Nat} {a b : World} (h : Only g a b) : Btx g a b := ⟨h.os, h.tape, h.output, Nat.le_of_eq h.size.symm, fun x _ hn => h.block x hn⟩
theorem Btx.alloc {g : Nat} {a b : World} (h : Btx g a b) (o : Obj) : Btx g a (b.alloc o) := ⟨h.os, h.tape, h.output, by simp; have := h.size; omega, fun x hx hn => (Below.heap_alloc _ _ _ (Nat.lt_of_lt_of_le hx h.size)).trans (h.block x hx hn)⟩

theorem own_keepU {B n : Nat} {e : TypeId} {w w' : World} {v : Value} {xs : List Value} (h : w.ownsRow B e 1 v n xs) (hk : ∀ b, v.ownBlock = some b → w'.heap[b]? = w.heap[b]?) : w'.ownsRow B e 1 v n xs := by
  refine ⟨h.1, ?_⟩
  rcases h.2 with h1 | ⟨g, cap, cur, h1, h2, h3, h4⟩
  · exact .inl h1
  · exact .inr ⟨g, cap, cur, h1, h2, (hk g (by rw [h1]; rfl)).trans h3, h4⟩

def natsI (l : List Nat) : List Int := l.map fun k : Nat => (k : Int)

set_option maxRecDepth 100000 in
set_option maxHeartbeats 1600000 in
theorem uprt_any (n : Nat) (c : List (List Int)) (v : List Int) (g B f : Nat) (cv : Value) (w0 w : World) (hc : Sqc n c) (hm : Mat B 26 3 w0 cv c) (hag : ∀ b, b < w0.heap.size → w.heap[b]? = w0.heap[b]?) (hg : w0.heap.size ≤ g) (hgw : g < w.heap.size)
    (hrow : w.rowIs g 3 n (fun k => .int .i64 (v.getD k 0))) (hvl : v.length = n) (Bd : List Int → Prop) (hB0 : Bd v) (hB1 : ∀ u r, r < n → Bd u → Bd (ovL c u r)) (hB2 : ∀ u, Bd u → ∀ k, -1000000 ≤ u.getD k 0 ∧ u.getD k 0 ≤ 1000000) (hE : fneg (upE c f v) = none) (hf : f ≤ 1000) :
    Calls Try.prog 28 #[cv, .slice (some ⟨g, 0, none⟩) n n] w fun e w' => ∃ u, e = .returned u ∧ w'.ownsRow w.heap.size 3 1 u (upr c f v).length (ints (natsI (upr c f v))) ∧ Btx g w w' := by
  obtain ⟨i3, hi3, hz30, hz31, hz32⟩ := info_parts Try.info3
  have hn4 := hc.n4
  have HCL : Hid (c.length = n) := hc.len
  have HOV : Hid (∀ W' u r, Btx g w W' → r < n → Bd u → W'.rowIs g 3 n (fun k => .int .i64 (u.getD k 0)) → Calls Try.prog 50 #[cv, .slice (some ⟨g, 0, none⟩) n n, .int .i64 (r : Nat)] W' fun e w' => e = .returned (.tuple #[]) ∧ w'.rowIs g 3 n (fun k => .int .i64 ((ovL c u r).getD k 0)) ∧ Only g W' w') := fun W' u r h1 h2 h3 h4 =>
    over_any n c u r g B cv w0 W' hc hm (fun b hb => (h1.block b (by omega) (by omega)).trans (hag b hb)) hg h2 (hB2 u h3) h4
  have HIX : Hid (∀ W' (u : List Int), u.length = n → W'.rowIs g 3 n (fun k => .int .i64 (u.getD k 0)) → Calls Try.prog 48 #[.slice (some ⟨g, 0, none⟩) n n, .func (.func 49) #[] #[]] W' fun e w' => e = .returned (.int .i64 (findI negB u)) ∧ w' = W') := fun W' u h1 h2 =>
    indexN_any 0 u _ W' (row_slT h2 (fun i _ => rfl) h1 (Nat.le_refl _) (by omega))
  have HB1 : Hid (∀ u r, r < n → Bd u → Bd (ovL c u r)) := hB1
  have HI0 : Hid (w.rowIs g 3 n (fun k => .int .i64 (v.getD k 0)) ∧ v.length = n ∧ Bd v ∧ fneg (upE c f v) = none) := ⟨hrow, hvl, hB0, hE⟩
  clear hc hm hag hrow hvl hB0 hB1 hB2 hE
  go_enter Try.func28, Try.ntmps28
  go_wp2
  go_loopw [5, 6] (fun tv _ wr => ∃ (dn : List Nat) (u : List Int) (f' : Nat), dn.length + f' = f ∧ upr c f v = dn ++ upr c f' u ∧ fneg (upE c f' u) = none ∧ u.length = n ∧ Bd u ∧ wr.rowIs g 3 n (fun k => .int .i64 (u.getD k 0)) ∧ wr.ownsRow w.heap.size 3 1 tv dn.length (ints (natsI dn)) ∧ Btx g w wr) (fun tv _ _ => f - (match tv with | .slice _ k _ => k | _ => 0))
  case atStart => exact ⟨[], v, f, by simp, rfl, HI0.out.2.2.2, HI0.out.2.1, HI0.out.2.2.1, HI0.out.1, World.ownsRow_nil _ _ _ _, Btx.refl _ _⟩
  case round =>
    obtain ⟨dn, u, f', hdf, hup, hfe, hul, hbu, hru, hot, hbt⟩ := hrel
    have HUP : Hid (upr c f v = dn ++ upr c f' u) := hup
    have HFE : Hid (fneg (upE c f' u) = none) := hfe
    have HBU : Hid (Bd u) := hbu
    have HRU : Hid (wr.rowIs g 3 n (fun k => .int .i64 (u.getD k 0))) := hru
    have HOT : Hid (wr.ownsRow w.heap.size 3 1 u5 dn.length (ints (natsI dn))) := hot
    have HBT : Hid (Btx g w wr) := hbt
    have hsz : w.heap.size ≤ wr.heap.size := hbt.size
    have HXU : Hid (Calls Try.prog 48 #[.slice (some ⟨g, 0, none⟩) n n, .func (.func 49) #[] #[]] wr fun e w' => e = .returned (.int .i64 (findI negB u)) ∧ w' = wr) := HIX.out wr u hul hru
    obtain ⟨to, tc, htv⟩ := owns_form hot
    subst htv
    clear hup hfe hbu hru hot hbt
    cases hn : fneg u with
    | none =>
      have hfi := fneg_find.1 hn
      rw [hfi] at HXU
      have HRES : Hid (upr c f v = dn) := by
        have h1 := HUP.out
        have h2 : upr c f' u = [] := by
          cases f' with
          | zero => rfl
          | succ f' => simp only [upr, hn]
        rw [h2, List.append_nil] at h1
        exact h1
      clear hfi hn
      go_wp2_with fail
      refine HXU.out.mono ?_
      rintro e w2 ⟨rfl, hw2⟩
      subst hw2
      go_wp2
      go_ret
      exact ⟨_, rfl, by rw [HRES.out]; exact HOT.out, HBT.out⟩
    | some r =>
      obtain ⟨hr1, _⟩ := fneg_some hn
      have hrn : r < n := by omega
      have hfi := fneg_find.2 r hn
      rw [hfi] at HXU
      obtain ⟨f2, hf2⟩ : ∃ f2, f' = f2 + 1 := by
        cases f' with
        | zero =>
          have := HFE.out
          simp only [upE] at this
          rw [hn] at this
          cases this
        | succ f2 => exact ⟨f2, rfl⟩
      subst hf2
      have HUP2 : Hid (upr c f v = (dn ++ [r]) ++ upr c f2 (ovL c u r)) := by
        have h1 := HUP.out
        simp only [upr, hn] at h1
        rw [h1]
        show _ = _
        simp
      have HFE2 : Hid (fneg (upE c f2 (ovL c u r)) = none) := by
        have h1 := HFE.out
        simp only [upE, hn] at h1
        exact h1
      have HBU2 : Hid (Bd (ovL c u r)) := HB1.out u r hrn HBU.out
      have HLU2 : Hid ((ovL c u r).length = n) := by rw [ovL_len]; exact HCL.out
      have HOR : Hid (Calls Try.prog 50 #[cv, .slice (some ⟨g, 0, none⟩) n n, .int .i64 (r : Nat)] wr fun e w' => e = .returned (.tuple #[]) ∧ w'.rowIs g 3 n (fun k => .int .i64 ((ovL c u r).getD k 0)) ∧ Only g wr w') := HOV.out wr u r HBT.out hrn HBU.out HRU.out
      have rD : decide ((r : Int) < 0) = false := decide_eq_false (by omega)
      clear hfi hn HUP HFE hr1
      go_wp2_with fail
      refine HXU.out.mono ?_
      rintro e w2 ⟨rfl, hw2⟩
      subst hw2
      go_wp2_with fail
      refine HOR.out.mono ?_
      rintro e w3 ⟨rfl, hrow3, hon3⟩
      have HR3 : Hid (w3.rowIs g 3 n (fun k => .int .i64 ((ovL c u r).getD k 0))) := hrow3
      have HB3 : Hid (Btx g w w3) := HBT.out.trans (Btx.of_only hon3)
      have hsz3 : w.heap.size ≤ w3.heap.size := HB3.out.size
      have HO3 : Hid (w3.ownsRow w.heap.size 3 1 (.slice to dn.length tc) dn.length (ints (natsI dn))) := own_keepU HOT.out fun b hb => hon3.block b (by have := (HOT.out.lt b hb).1; omega)
      clear hrow3 hon3 HOR HOT HBT HRU HXU
      go_wp2_with (first | (at_builtin; refine wpList_append_own _ rfl _ _ 26 rfl w.heap.size 3 i3 (.int .i64 0) 1 8 Try.underlying26 hi3 hz30 hz31 hz32 rfl (by decide) _ _ _ rfl (HO3.out.alloc _) ⟨w3.heap.size, 0, none⟩ 1 1 [.int .i64 (r : Nat)] rfl rfl (one_new _ _ _) (one_int _) ?c3 ?c4 ?c5 ?_))
      case c3 => unfold maxLen; omega
      case c4 => omega
      case c5 => first | exact hsz3 | (simp; omega)
      intro v' w5 ho5 hg5 _
      have hne : ∀ b, b < w3.heap.size → (∀ q, (Value.slice to dn.length tc).ownBlock = some q → q ≠ b) → w5.heap[b]? = w3.heap[b]? := fun b hb hq => (hg5.block b (by simp; omega) (fun e => hq b e.symm rfl)).trans (Below.heap_alloc _ _ _ hb)
      have hgne : w5.heap[g]? = w3.heap[g]? := hne g (by omega) fun q hq e => by have := (HO3.out.lt q hq).1; omega
      have HR5 : Hid (w5.rowIs g 3 n (fun k => .int .i64 ((ovL c u r).getD k 0))) := HR3.out.of_block hgne
      have HB5 : Hid (Btx g w w5) := ⟨hg5.os.trans HB3.out.os, hg5.tape.trans HB3.out.tape, hg5.output.trans HB3.out.output, Nat.le_trans hsz3 (Nat.le_trans (by simp) hg5.size), fun b hb hn => (hne b (by omega) fun q hq e => by have := (HO3.out.lt q hq).1; omega).trans (HB3.out.block b hb hn)⟩
      have HO5 : Hid (w5.ownsRow w.heap.size 3 1 v' (dn ++ [r]).length (ints (natsI (dn ++ [r])))) := by
        have e1 : ints (natsI (dn ++ [r])) = ints (natsI dn) ++ [.int .i64 (r : Nat)] := by simp [ints, natsI]
        show World.ownsRow _ _ _ _ _ _ _
        rw [e1, List.length_append, List.length_singleton]
        exact ho5
      obtain ⟨vo, vc, hvv5⟩ := owns_form ho5
      subst hvv5
      clear ho5 hg5 hne hgne HR3 HB3 HO3
      go_wp2
      exact ⟨⟨dn ++ [r], ovL c u r, f2, by simp; omega, HUP2.out, HFE2.out, HLU2.out, HBU2.out, HR5.out, by simpa using HO5.out, HB5.out⟩, by simp; omega⟩

end Go.Proofs.Ytkgljfnbaoncbaa

/- What hangs together: the lists of parts (pure). -/
namespace Go.Proofs.Ytkgljfnbaoncbaa

theorem natsI_lenR (l : List Nat) : (natsI l).length = l.length := by simp [natsI]
theorem natsI_atR {l : List Nat} {k : Nat} (hk : k < l.length) : (natsI l).getD k 0 = ((l.getD k 0 : Nat) : Int) := by simp [natsI, hk]
theorem natsI_appR (l : List Nat) (i : Nat) : ints (natsI (l ++ [i])) = ints (natsI l) ++ [.int .i64 (i : Int)] := by simp [ints, natsI]

/-- One neighbour more of the k-th. -/
def bfS (c : List (List Int)) (k j : Nat) (l : List Nat) : List Nat :=
  if (!(cE c (l.getD k 0) j == 0) && !l.contains j) = true then l ++ [j] else l

/-- All neighbours of the k-th. -/
def bfI (c : List (List Int)) (k : Nat) : Nat → List Nat → List Nat
  | 0, l => l
  | j + 1, l => bfS c k j (bfI c k j l)

/-- One behind the other. -/
def bfO (c : List (List Int)) : Nat → Nat → List Nat → List Nat
  | 0, _, l => l
  | f + 1, k, l => if k < l.length then bfO c f (k + 1) (bfI c k c.length l) else l

/-- What hangs together with one. -/
def bfL (c : List (List Int)) (i : Nat) : List Nat := bfO c 5 0 [i]

/-- All numbers below n, none twice. -/
structure PaW (n : Nat) (l : List Nat) : Prop where
  lt : ∀ x ∈ l, x < n
  nd : l.Nodup

theorem PaW.len {n : Nat} {l : List Nat} (h : PaW n l) : l.length ≤ n := by
  have h2 : l.Perm (l.filter fun x => decide (x < n)) := by
    rw [List.filter_eq_self.2 fun x hx => by simpa using h.lt x hx]
  have : ∀ (m : Nat) (l : List Nat), l.Nodup → (∀ x ∈ l, x < m) → l.length ≤ m := by
    intro m
    induction m with
    | zero => intro l _ hl; cases l with | nil => simp | cons x l => exact absurd (hl x (by simp)) (by omega)
    | succ m ih =>
      intro l hn hl
      by_cases hm : m ∈ l
      · have h1 := ih (l.erase m) (hn.erase m) fun x hx => by
          have h3 := hl x (List.mem_of_mem_erase hx)
          have h4 : x ≠ m := fun e => by subst e; exact (List.Nodup.not_mem_erase hn) hx
          omega
        rw [List.length_erase_of_mem hm] at h1
        omega
      · have := ih l hn fun x hx => by
          have h3 := hl x hx
          have h4 : x ≠ m := fun e => by subst e; exact hm hx
          omega
        omega
  exact this n l h.nd h.lt

theorem bfS_ok {c : List (List Int)} {n k j : Nat} {l : List Nat} (h : PaW n l) (hj : j < n) : PaW n (bfS c k j l) ∧ l <+: bfS c k j l := by
  unfold bfS
  split
  · rename_i hc
    simp only [Bool.and_eq_true, Bool.not_eq_true'] at hc
    refine ⟨⟨fun x hx => ?_, ?_⟩, List.prefix_append _ _⟩
    · rcases List.mem_append.1 hx with hx | hx
      · exact h.lt x hx
      · rw [List.mem_singleton.1 hx]; exact hj
    · rw [List.nodup_append]
      refine ⟨h.nd, by simp, fun a ha b hb e => ?_⟩
      rw [List.mem_singleton] at hb
      subst hb; subst e
      have := hc.2
      rw [List.contains_iff_mem.2 ha] at this
      cases this
  · exact ⟨h, List.prefix_refl _⟩

theorem bfI_ok {c : List (List Int)} {n k : Nat} : ∀ {j : Nat} {l : List Nat}, PaW n l → j ≤ n → PaW n (bfI c k j l) ∧ l <+: bfI c k j l
  | 0, _, h, _ => ⟨h, List.prefix_refl _⟩
  | j + 1, l, h, hj => by
    obtain ⟨h1, h2⟩ := bfI_ok (c := c) (k := k) (j := j) h (by omega)
    obtain ⟨h3, h4⟩ := bfS_ok (c := c) (k := k) h1 (show j < n by omega)
    exact ⟨h3, h2.trans h4⟩

theorem pre_getN {l m : List Nat} {i : Nat} (h : l <+: m) (hi : i < l.length) : m.getD i 0 = l.getD i 0 := by
  obtain ⟨t, rfl⟩ := h
  simp only [List.getD_eq_getElem?_getD]
  rw [List.getElem?_append_left hi]

theorem bfO_ok {c : List (List Int)} {n : Nat} (hc : c.length = n) : ∀ (f k : Nat) (l : List Nat), PaW n l → PaW n (bfO c f k l)
  | 0, _, _, h => h
  | f + 1, k, l, h => by
    unfold bfO
    split
    · exact bfO_ok hc f _ _ (bfI_ok h (by omega)).1
    · exact h

theorem PaW.one {n i : Nat} (h : i < n) : PaW n [i] := ⟨fun x hx => by rw [List.mem_singleton.1 hx]; exact h, by simp⟩

theorem bfL_ok {c : List (List Int)} {n i : Nat} (hc : c.length = n) (hi : i < n) : PaW n (bfL c i) := bfO_ok hc _ _ _ (PaW.one hi)

/-- The parts that the first numbers make. -/
def paI (c : List (List Int)) : Nat → List (List Nat)
  | 0 => []
  | i + 1 => if ((paI c i).any fun l => l.contains i) = true then paI c i else paI c i ++ [bfL c i]

def paL (c : List (List Int)) : List (List Nat) := paI c c.length

theorem paI_ok {c : List (List Int)} {n : Nat} (hc : c.length = n) : ∀ {i : Nat}, i ≤ n → (paI c i).length ≤ i ∧ ∀ l ∈ paI c i, PaW n l
  | 0, _ => ⟨Nat.le_refl _, fun l hl => by cases hl⟩
  | i + 1, hi => by
    obtain ⟨h1, h2⟩ := paI_ok hc (i := i) (by omega)
    unfold paI
    split
    · exact ⟨by omega, h2⟩
    · refine ⟨by simp; omega, fun l hl => ?_⟩
      rcases List.mem_append.1 hl with hl | hl
      · exact h2 l hl
      · rw [List.mem_singleton.1 hl]; exact bfL_ok hc (by omega)

theorem natsI_contains (l : List Nat) (x : Nat) : (natsI l).contains (x : Int) = l.contains x := by
  rw [Bool.eq_iff_iff]
  simp [natsI]
  constructor
  · rintro ⟨a, h1, h2⟩
    have : a = x := by omega
    exact this ▸ h1
  · intro h
    exact ⟨x, h, rfl⟩

end Go.Proofs.Ytkgljfnbaoncbaa

/- root.partFrom: the walk. -/
namespace Go.Proofs.Ytkgljfnbaoncbaa
open Go.RowKit
attribute [local go_sem ↓] Go.wp_at_zero Go.wp_at_succ

/-- All entries, as they lie, in all later worlds. -/
theorem ent_all {n : Nat} {c : List (List Int)} {B : Nat} {w : World} {ao : Option Addr} {cap : Nat} (hc : Sqc n c) (hm : Mat B 26 3 w (.slice ao n cap) c) {i : Nat} (hi : i < n) :
    ∃ b o b3 o3 cp3, ao = some ⟨b, o, none⟩ ∧ ∀ X, Below w.heap.size w X → X.cell? ⟨b, o + i, none⟩ = some (.slice (some ⟨b3, o3, none⟩) n cp3) ∧ ∀ j, j < n → X.cell? ⟨b3, o3 + j, none⟩ = some (.int .i64 (cE c i j)) := by
  obtain ⟨b, o, b3, o3, cp3, h1, h2, h3⟩ := ent_cell hc hm hi
  exact ⟨b, o, b3, o3, cp3, h1, fun X hX => ⟨(hX.cell (lt_of_cell h2)).trans h2, fun j hj => (hX.cell (lt_of_cell (h3 j hj))).trans (h3 j hj)⟩⟩

end Go.Proofs.Ytkgljfnbaoncbaa

/- Rows that lie in new blocks. -/
namespace Go.Proofs.Ytkgljfnbaoncbaa
open Go.RowKit

/-- A slice that lies in no block below B. -/
def SlN (B : Nat) (w : World) (v : Value) (xs : List Value) : Prop := Sl 0 3 w v xs ∧ ∀ b o n c, v = .slice (some ⟨b, o, none⟩) n c → B ≤ b

theorem SlN.below {B N : Nat} {w w' : World} {v : Value} {xs : List Value} (h : SlN B w v xs) (hb : Below N w w') (hN : w.heap.size ≤ N) : SlN B w' v xs := ⟨h.1.below hb hN, h.2⟩
theorem SlN.alloc {B : Nat} {w : World} {v : Value} {xs : List Value} (h : SlN B w v xs) (o : Obj) : SlN B (w.alloc o) v xs := ⟨h.1.alloc o, h.2⟩
theorem SlN.mono {B B' : Nat} {w : World} {v : Value} {xs : List Value} (h : SlN B w v xs) (hB : B' ≤ B) : SlN B' w v xs := ⟨h.1, fun b o n c e => Nat.le_trans hB (h.2 b o n c e)⟩
theorem SlN.own {B n : Nat} {w : World} {v : Value} {l : List Int} (h : w.ownsRow B 3 1 v n (ints l)) : SlN B w v (ints l) := by
  refine ⟨Sl.own h, fun b o k c e => ?_⟩
  subst e
  exact (h.lt b rfl).1

def FrN (B : Nat) (w : World) (v : Value) (m : List (List Int)) : Prop :=
  ∃ vs, vs.length = m.length ∧ w.ownsRow B 26 1 v m.length vs ∧ ∀ i, i < m.length → SlN B w (vs.getD i (.slice none 0 0)) (ints (m.getD i []))

theorem FrN.fr {B : Nat} {w : World} {v : Value} {m : List (List Int)} (h : FrN B w v m) : Fr B 26 3 w v m := by
  obtain ⟨vs, h1, h2, h3⟩ := h
  exact ⟨vs, h1, h2, fun i hi => (h3 i hi).1⟩
theorem FrN.nil (B : Nat) (w : World) : FrN B w (.slice none 0 0) [] := ⟨[], rfl, World.ownsRow_nil _ _ _ _, fun i hi => absurd hi (by simp)⟩
theorem FrN.below {B N : Nat} {w w' : World} {v : Value} {m : List (List Int)} (h : FrN B w v m) (hb : Below N w w') (hN : w.heap.size ≤ N) : FrN B w' v m := by
  obtain ⟨vs, h1, h2, h3⟩ := h
  exact ⟨vs, h1, owns_below h2 hb hN, fun i hi => (h3 i hi).below hb hN⟩
theorem FrN.alloc {B : Nat} {w : World} {v : Value} {m : List (List Int)} (h : FrN B w v m) (o : Obj) : FrN B (w.alloc o) v m := by
  obtain ⟨vs, h1, h2, h3⟩ := h
  exact ⟨vs, h1, h2.alloc o, fun i hi => (h3 i hi).alloc o⟩
theorem FrN.push {B : Nat} {w w' : World} {v v' u : Value} {m : List (List Int)} {vs : List Value} {zs : List Int}
    (h1 : vs.length = m.length) (h2 : w.ownsRow B 26 1 v m.length vs) (h3 : ∀ i, i < m.length → SlN B w (vs.getD i (.slice none 0 0)) (ints (m.getD i []))) (hu : SlN B w u (ints zs))
    (ho : w'.ownsRow B 26 1 v' (m.length + 1) (vs ++ [u])) (hg : w.grownBy w' v.ownBlock) : FrN B w' v' (m ++ [zs]) := by
  have ht : ∀ k, v.ownBlock = some k → 0 ≤ k ∧ ∀ cur, w.heap[k]? ≠ some (.cells cur 3 (0, 0)) := fun k hk => ⟨Nat.zero_le _, (owns_typed h2 (by decide) k hk).2⟩
  refine ⟨vs ++ [u], by simp [h1], by simpa using ho, fun i hi => ?_⟩
  by_cases hlt : i < m.length
  · have e1' : (vs ++ [u]).getD i (.slice none 0 0) = vs.getD i (.slice none 0 0) := by
      simp only [List.getD_eq_getElem?_getD]; rw [List.getElem?_append_left (by omega)]
    have e2' : (m ++ [zs]).getD i [] = m.getD i [] := by
      simp only [List.getD_eq_getElem?_getD]; rw [List.getElem?_append_left (by omega)]
    rw [e1', e2']
    exact ⟨(h3 i hlt).1.grown hg ht, (h3 i hlt).2⟩
  · have hi' : i = m.length := by simp at hi; omega
    subst hi'
    have e1' : (vs ++ [u]).getD m.length (.slice none 0 0) = u := by
      rw [← h1]; simp
    have e2' : (m ++ [zs]).getD m.length [] = zs := by simp
    rw [e1', e2']
    exact ⟨hu.1.grown hg ht, hu.2⟩

end Go.Proofs.Ytkgljfnbaoncbaa

/- root.parts: the closure, IndexFunc and ContainsFunc by it; the walk. Its middle is made of Wy7. -/
namespace Go.Proofs.Ytkgljfnbaoncbaa
open Go.RowKit
attribute [local go_sem ↓] Go.wp_at_zero Go.wp_at_succ

theorem fr_matRp {B : Nat} {w : World} {v : Value} {m : List (List Int)} (h : Fr B 26 3 w v m) : Mat 0 26 3 w v m := by
  obtain ⟨vs, h1, h2, h3⟩ := h
  exact ⟨vs, h1, Sl.own h2, h3⟩

end Go.Proofs.Ytkgljfnbaoncbaa

/- A list of lists and a list of numbers that grow side by side. Made of Ez10 and Fl3a. -/
namespace Go.Proofs.Ytkgljfnbaoncbaa
open Go.RowKit

theorem own_keepRp {B n sz : Nat} {e : TypeId} {w w' : World} {v : Value} {xs : List Value} (h : w.ownsRow B e sz v n xs) (hk : ∀ b, v.ownBlock = some b → w'.heap[b]? = w.heap[b]?) : w'.ownsRow B e sz v n xs := by
  refine ⟨h.1, ?_⟩
  rcases h.2 with h2 | ⟨g, cap, cur, rfl, hb, hh, r⟩
  · exact Or.inl h2
  · exact Or.inr ⟨g, cap, cur, rfl, hb, (hk g rfl).trans hh, r⟩

theorem own_typRp {B n sz : Nat} {e : TypeId} {w : World} {v : Value} {xs : List Value} (h : w.ownsRow B e sz v n xs) : ∀ b, v.ownBlock = some b → B ≤ b ∧ b < w.heap.size ∧ ∃ cur, w.heap[b]? = some (.cells cur e (0, 0)) := by
  intro b hb
  rcases h.2 with ⟨h1, _⟩ | ⟨g, cap, cur, rfl, hB, hh, _⟩
  · rw [h1] at hb; simp [Value.ownBlock] at hb
  · simp only [Value.ownBlock, Option.some.injEq] at hb
    subst hb
    exact ⟨hB, (Array.getElem?_eq_some_iff.1 hh).1, cur, hh⟩

theorem sl_pos_keepRp {w W : World} {v : Value} {xs : List Int} (h : Sl 0 3 w v (ints xs)) (hk : 0 < xs.length → ∀ a n c, v = .slice (some a) n c → W.heap[a.block]? = w.heap[a.block]?) : Sl 0 3 W v (ints xs) := by
  obtain ⟨ao, cap, rfl, h1, h2, h3, h4⟩ := h
  refine ⟨ao, cap, rfl, h1, h2, fun i hi => ?_, h4⟩
  obtain ⟨b, o, rfl, hc, ht⟩ := h3 i hi
  have he := hk (by simp at hi; omega) _ _ _ rfl
  refine ⟨b, o, rfl, ?_, ?_⟩
  · rw [← hc]
    simp only [World.cell?]
    rw [he]
  · rcases ht with ht | ⟨cur, ht⟩
    · omega
    · exact Or.inr ⟨cur, he.trans ht⟩

theorem sl_blockRp {w : World} {a : Addr} {n c : Nat} {xs : List Int} (h : Sl 0 3 w (.slice (some a) n c) (ints xs)) (hp : 0 < xs.length) : a.block < w.heap.size := by
  obtain ⟨ao, cap, he, _, _, h3, _⟩ := h
  obtain ⟨b, o, hb, hc, _⟩ := h3 0 (by simpa using hp)
  simp only [Value.slice.injEq] at he
  rw [← he.1] at hb
  cases hb
  have h5 : w.cell? ⟨b, o + 0, none⟩ = some ((ints xs)[0]'(by simpa using hp)) := by rw [hc]; simp
  exact lt_of_cell h5

structure TsI (B : Nat) (w0 W : World) (ov sv : Value) (O : List (List Int)) (xs : List Int) : Prop where
  ex : ∃ vs, vs.length = O.length ∧ W.ownsRow B 26 1 ov O.length vs ∧ (∀ i, i < O.length → SlN B W (vs.getD i (.slice none 0 0)) (ints (O.getD i []))) ∧ (∀ i, i < O.length → 0 < (O.getD i []).length → ∀ a k c, vs.getD i (.slice none 0 0) = .slice (some a) k c → sv.ownBlock ≠ some a.block)
  own : W.ownsRow B 3 1 sv xs.length (ints xs)
  bel : Below B w0 W

theorem TsI.nil (B : Nat) (w : World) : TsI B w w (.slice none 0 0) (.slice none 0 0) [] [] :=
  ⟨⟨[], rfl, World.ownsRow_nil _ _ _ _, fun i hi => absurd hi (by simp), fun i hi => absurd hi (by simp)⟩, World.ownsRow_nil _ _ _ _, Below.refl _ _⟩

theorem TsI.low {B : Nat} {w0 W W' : World} {ov sv : Value} {O : List (List Int)} {xs : List Int} (h : TsI B w0 W ov sv O xs) (hB : B ≤ W.heap.size) (hb : Below W.heap.size W W') : TsI B w0 W' ov sv O xs := by
  obtain ⟨⟨vs, h1, h2, h3, h4⟩, h5, h6⟩ := h
  exact ⟨⟨vs, h1, owns_below h2 hb (Nat.le_refl _), fun i hi => (h3 i hi).below hb (Nat.le_refl _), h4⟩, owns_below h5 hb (Nat.le_refl _), h6.trans (hb.mono hB)⟩

theorem TsI.ne {B : Nat} {w0 W : World} {ov sv : Value} {O : List (List Int)} {xs : List Int} (h : TsI B w0 W ov sv O xs) : ∀ g, ov.ownBlock = some g → sv.ownBlock ≠ some g := fun g h1 h2 => by
  obtain ⟨⟨vs, q1, q2, q3, q4⟩, q5, q6⟩ := h
  obtain ⟨_, _, c1, e1⟩ := own_typRp q2 g h1
  obtain ⟨_, _, c2, e2⟩ := own_typRp q5 g h2
  rw [e1] at e2
  simp at e2

theorem TsI.fr {B : Nat} {w0 W : World} {ov sv : Value} {O : List (List Int)} {xs : List Int} (h : TsI B w0 W ov sv O xs) : FrN B W ov O := by
  obtain ⟨⟨vs, h1, h2, h3, h4⟩, h5, h6⟩ := h
  exact ⟨vs, h1, h2, h3⟩

/-- One list more. -/
theorem TsI.pushO {B : Nat} {w0 W w5 : World} {ov sv v' u : Value} {O : List (List Int)} {zs xs : List Int} {ob : Obj} {vs : List Value} (h : TsI B w0 W ov sv O xs) (hB : B ≤ W.heap.size)
    (h1 : vs.length = O.length) (h2 : W.ownsRow B 26 1 ov O.length vs) (h3 : ∀ i, i < O.length → SlN B W (vs.getD i (.slice none 0 0)) (ints (O.getD i []))) (h4 : ∀ i, i < O.length → 0 < (O.getD i []).length → ∀ a k c, vs.getD i (.slice none 0 0) = .slice (some a) k c → sv.ownBlock ≠ some a.block)
    (hu : SlN B W u (ints zs)) (hub : 0 < zs.length → ∀ a k c, u = .slice (some a) k c → sv.ownBlock ≠ some a.block)
    (ho : w5.ownsRow B 26 1 v' (O.length + 1) (vs ++ [u])) (hg : (W.alloc ob).grownBy w5 ov.ownBlock) : TsI B w0 w5 v' sv (O ++ [zs]) xs := by
  have hne := h.ne
  have h5 := h.own
  have h6 := h.bel
  have hgl : ∀ i, i < O.length → (vs ++ [u]).getD i (.slice none 0 0) = vs.getD i (.slice none 0 0) ∧ (O ++ [zs]).getD i [] = O.getD i [] := fun i hi => by
    simp only [List.getD_eq_getElem?_getD]
    rw [List.getElem?_append_left (by omega), List.getElem?_append_left (by omega)]
    exact ⟨rfl, rfl⟩
  have hge : (vs ++ [u]).getD O.length (.slice none 0 0) = u ∧ (O ++ [zs]).getD O.length [] = zs := by
    constructor
    · rw [← h1]; simp
    · simp
  have ht : ∀ k, ov.ownBlock = some k → 0 ≤ k ∧ ∀ cur, (W.alloc ob).heap[k]? ≠ some (.cells cur 3 (0, 0)) := fun k hk => ⟨Nat.zero_le _, (owns_typed (h2.alloc ob) (by decide) k hk).2⟩
  refine ⟨⟨vs ++ [u], by simp [h1], by simpa using ho, fun i hi => ?_, fun i hi hp a k c e => ?_⟩, ?_, (h6.alloc hB _).grown hg (by simp; omega) (fun x hx => (h2.lt x hx).1)⟩
  · by_cases hlt : i < O.length
    · rw [(hgl i hlt).1, (hgl i hlt).2]
      exact ⟨((h3 i hlt).1.alloc ob).grown hg ht, (h3 i hlt).2⟩
    · have hi' : i = O.length := by simp at hi; omega
      subst hi'
      rw [hge.1, hge.2]
      exact ⟨(hu.1.alloc ob).grown hg ht, hu.2⟩
  · by_cases hlt : i < O.length
    · rw [(hgl i hlt).1] at e
      rw [(hgl i hlt).2] at hp
      exact h4 i hlt hp a k c e
    · have hi' : i = O.length := by simp at hi; omega
      subst hi'
      rw [hge.1] at e
      rw [hge.2] at hp
      exact hub hp a k c e
  · refine own_keepRp h5 fun b hb => ?_
    have hlt := (own_typRp h5 b hb).2.1
    rw [hg.block b (by simp; omega) (fun e => hne b e.symm hb)]
    exact Below.heap_alloc _ _ _ hlt

/-- Numbers more. -/
theorem TsI.pushS {B : Nat} {w0 W w5 : World} {ov sv v' : Value} {O : List (List Int)} {xs ys : List Int} (h : TsI B w0 W ov sv O xs) (hB : B ≤ W.heap.size)
    (ho : w5.ownsRow B 3 1 v' (xs.length + ys.length) (ints xs ++ ints ys)) (hg : W.grownBy w5 sv.ownBlock) (hat : v'.ownBlock = sv.ownBlock ∨ v'.ownBlock = some W.heap.size) : TsI B w0 w5 ov v' O (xs ++ ys) := by
  have hne := h.ne
  obtain ⟨⟨vs, h1, h2, h3, h4⟩, h5, h6⟩ := h
  refine ⟨⟨vs, h1, ?_, fun i hi => ?_, fun i hi hp a k c e => ?_⟩, by simpa [ints] using ho, h6.grown hg (by omega) (fun x hx => (h5.lt x hx).1)⟩
  · refine own_keepRp h2 fun b hb => ?_
    have hlt := (own_typRp h2 b hb).2.1
    exact hg.block b (by omega) (fun e => hne b hb e.symm)
  · refine ⟨sl_pos_keepRp (h3 i hi).1 fun hp a k c e => ?_, (h3 i hi).2⟩
    have hlt := sl_blockRp (by rw [← e]; exact (h3 i hi).1) hp
    exact hg.block a.block (by omega) (fun e2 => h4 i hi hp a k c e e2.symm)
  · have hlt := sl_blockRp (by rw [← e]; exact (h3 i hi).1) hp
    rcases hat with h | h
    · rw [h]; exact h4 i hi hp a k c e
    · rw [h]
      intro e2
      simp only [Option.some.injEq] at e2
      omega

end Go.Proofs.Ytkgljfnbaoncbaa

/- Lists of numbers as sets: what they have in common, sides of simplices, bits. -/
namespace Go.Proofs.Ytkgljfnbaoncbaa
open Go.RowKit

/-- Rising. -/
def Ris (l : List Int) : Prop := l.Pairwise (· < ·)

end Go.Proofs.Ytkgljfnbaoncbaa
