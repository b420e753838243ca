/- facetref.In, facetref.Rising (made of Sh3 and Rd2). -/
import Derived.Test.YtkgljfnbaoncbaaMgAF
import Derived.Test.YtkgljfnbaoncbaaMgAB
import Derived.Test.YtkgljfnbaoncbaaMgAC
import Derived.Laws.CopyOwn
namespace Go.Proofs.Ytkgljfnbaoncbaa
open Go.RowKit
attribute [local go_sem ↓] Go.wp_at_zero Go.wp_at_succ

theorem any_eq_containsP (zs : List Int) (x : Int) : zs.any (fun z => z == x) = zs.contains x := by
  rw [Bool.eq_iff_iff]; simp

theorem any_take_snocP {α : Type} {p : α → Bool} {l : List α} {d : α} {k : Nat} (h : k < l.length) (h0 : (l.take k).any p = false) : (l.take (k + 1)).any p = p (l.getD k d) := by
  rw [List.take_succ_eq_append_getElem h, List.any_append, h0]; simp [h]

theorem any_getP {α : Type} {p : α → Bool} {l : List α} {d : α} {k : Nat} (h : k < l.length) (h0 : p (l.getD k d) = true) : l.any p = true :=
  List.any_eq_true.2 ⟨l.getD k d, by simp [h], h0⟩

set_option maxRecDepth 100000 in
set_option maxHeartbeats 400000 in
theorem inR_anyP (B : Nat) (x : Int) (zs : List Int) (v : Value) (w : World) (hv : Sl B 3 w v (ints zs)) :
    Calls Try.prog 40 #[.int .i64 x, v] w fun e w' => e = .returned (.bool (zs.contains x)) ∧ ∃ n, w' = w.drewN n := by
  obtain ⟨ao, cap, hvv, hlc, hcm⟩ := sl_open hv
  subst hvv
  have HV : Hid (Sl B 3 w (.slice ao zs.length cap) (ints zs)) := hv
  clear hv
  rw [← any_eq_containsP]
  go_enter Try.func40, Try.ntmps40
  go_wp2
  go_loopw [5] (fun i wr => ∃ k : Nat, k ≤ zs.length ∧ i = .int .i64 k ∧ (zs.take k).any (fun z => z == x) = false ∧ ∃ n, wr = w.drewN n) (fun i _ => zs.length - (intOf i).toNat)
  case atStart => exact ⟨0, Nat.zero_le _, rfl, by simp, 0, rfl⟩
  case round =>
    obtain ⟨k, hk, rfl, hno, n, rfl⟩ := hrel
    have HN : Hid ((zs.take k).any (fun z => z == x) = false) := hno
    clear hno
    by_cases hlt : k < zs.length
    · obtain ⟨b, o, cp, hs, hc1, hcc⟩ := sl_cell HV.out hlt
      simp only [Value.slice.injEq] at hs
      obtain ⟨rfl, _, rfl⟩ := hs
      have HS1 : Hid ((zs.take (k + 1)).any (fun z => z == x) = (zs.getD k 0 == x)) := any_take_snocP (p := fun z => z == x) hlt HN.out
      have HG : Hid ((zs.getD k 0 == x) = true → zs.any (fun z => z == x) = true) := fun h => any_getP (p := fun z => z == x) hlt h
      generalize zs.getD k 0 = z at *
      cases hf : (z == x)
      · have HF : Hid ((z == x) = false) := hf
        go_wp2
        go_roundw
        case rel => exact ⟨k + 1, by omega, by go_num, by rw [HS1.out]; exact HF.out, _, rfl⟩
        case measure => simp [intOf]; omega
      · have HF : Hid ((z == x) = true) := hf
        go_wp2
        go_ret
        exact ⟨ret_bool (HG.out HF.out).symm, _, rfl⟩
    · have hke : zs.take k = zs := List.take_of_length_le (by omega)
      have HE : Hid (zs.any (fun z => z == x) = false) := by rw [← hke]; exact HN.out
      go_wp2
      go_ret
      exact ⟨ret_bool HE.out.symm, n, rfl⟩

theorem wrap_smallP {a : Nat} (ha : a < 4611686018427387904) : IntKind.i64.wrap (a : Int) = (a : Int) := by
  rw [IntWalk.i64_left]
  exact IntWalk.wrap64_in _ ⟨by omega, by omega⟩

/-- Where a slice begins that leaves k + 1 out. -/
def tailI (b c k : Nat) : Option Addr := if c = k + 1 then some ⟨b, 0, none⟩ else some ⟨b, k + 1, none⟩

theorem run_tailI {b n c k : Nat} (h1 : k + 1 ≤ n) (w : World) : (Instr.slice 26 (.slice (some ⟨b, 0, none⟩) n c) (some (.int .i64 ((k : Int) + 1))) none none).run Try.prog w = .ok (.slice (tailI b c k) (n - (k + 1)) (c - (k + 1))) w := by
  have e1 : (0 : Int) ≤ (k : Int) + 1 ∧ (k : Int) + 1 ≤ (n : Int) := by omega
  have e2 : ((k : Int) + 1).toNat = k + 1 := by omega
  have hz : ∀ w, (Go.sizeOf 3).run Try.prog w = .ok 1 w := fun w => by kernel_rfl
  unfold tailI
  by_cases e3 : c = k + 1
  · simp [Instr.slice, Instr.sliceBounds, Instr.sliceBound, run_underlying Try.underlying26, asIntOf, e1, e2, e3, hz, Addr.add, go_sem]
  · simp [Instr.slice, Instr.sliceBounds, Instr.sliceBound, run_underlying Try.underlying26, asIntOf, e1, e2, e3, hz, Addr.add, go_sem]

theorem run_fromI {b n c k : Nat} (h1 : k < n) (h2 : n ≤ c) (w : World) : (Instr.slice 26 (.slice (some ⟨b, 0, none⟩) n c) (some (.int .i64 (k : Int))) none none).run Try.prog w = .ok (.slice (some ⟨b, k, none⟩) (n - k) (c - k)) w := by
  have e1 : (0 : Int) ≤ (k : Int) ∧ (k : Int) ≤ (n : Int) := by omega
  have e3 : ¬ c = k := by omega
  have e4 : k ≤ n := by omega
  have hz : ∀ w, (Go.sizeOf 3).run Try.prog w = .ok 1 w := fun w => by kernel_rfl
  simp [Instr.slice, Instr.sliceBounds, Instr.sliceBound, run_underlying Try.underlying26, asIntOf, e1, e3, e4, hz, Addr.add, go_sem]
  intro h
  omega

theorem ins_cells {cur : List Value} {out : List Int} {k : Nat} {x : Int} (hk : k ≤ out.length) (ht : cur.take (out.length + 1) = ints (out ++ [0])) :
    ((splice cur (k + 1) (ints (out.drop k))).set k (.int .i64 x)).take (out.length + 1) = ints (out.take k ++ x :: out.drop k) := by
  obtain ⟨rest, hr⟩ : ∃ rest, cur = ints (out ++ [0]) ++ rest := ⟨cur.drop (out.length + 1), by rw [← ht, List.take_append_drop]⟩
  obtain ⟨p, q, hp, hq, ho⟩ : ∃ p q, p.length = k ∧ out.drop k = q ∧ out = p ++ q := ⟨out.take k, out.drop k, by simp; omega, rfl, (List.take_append_drop k out).symm⟩
  rw [hq]
  have htk : out.take k = p := by rw [ho, ← hp, List.take_left]
  rw [htk]
  obtain ⟨c, hc⟩ : ∃ c, cur.take (k + 1) = ints p ++ [c] := by
    rw [hr, ho]
    cases q with
    | nil => exact ⟨.int .i64 0, by simp [ints, ← hp, List.take_append]; exact List.take_of_length_le (by simp)⟩
    | cons y q => exact ⟨.int .i64 y, by simp [ints, ← hp, List.take_append]; exact List.take_of_length_le (by simp)⟩
  unfold splice
  rw [hc]
  have hlen : out.length = k + q.length := by rw [ho, List.length_append, hp]
  rw [hlen]
  have hpl : (ints p).length = k := by simp [hp]
  rw [List.append_assoc, List.set_append_right _ _ (by omega), hpl, Nat.sub_self]
  simp only [List.singleton_append, List.set_cons_zero]
  rw [List.take_append, hpl, List.take_of_length_le (by omega), show k + q.length + 1 - k = q.length + 1 by omega, List.take_succ_cons, List.take_left' (by simp)]
  simp [ints]

theorem ins_ris {out : List Int} {k : Nat} {x : Int} (h : Ris out) (h1 : ∀ j, j < k → out.getD j 0 < x) (h2 : ∀ j, k ≤ j → j < out.length → x < out.getD j 0) (hk : k ≤ out.length) : Ris (out.take k ++ x :: out.drop k) := by
  unfold Ris at *
  rw [List.pairwise_append, List.pairwise_cons]
  have e1 : ∀ y ∈ out.take k, y < x := fun y hy => by
    obtain ⟨j, hj, rfl⟩ := List.mem_take_iff_getElem.1 hy
    have := h1 j (by omega)
    rw [List.getD_eq_getElem?_getD, List.getElem?_eq_getElem (by omega), Option.getD_some] at this
    exact this
  have e2 : ∀ y ∈ out.drop k, x < y := fun y hy => by
    obtain ⟨j, hj, rfl⟩ := List.mem_drop_iff_getElem.1 hy
    have := h2 (k + j) (by omega) (by omega)
    rw [List.getD_eq_getElem?_getD, List.getElem?_eq_getElem (by omega), Option.getD_some] at this
    exact this
  refine ⟨h.sublist (List.take_sublist _ _), ⟨e2, h.sublist (List.drop_sublist _ _)⟩, fun a ha b hb => ?_⟩
  rcases List.mem_cons.1 hb with rfl | hb
  · exact e1 a ha
  · have := e1 a ha
    have := e2 b hb
    omega

theorem ris_get {out : List Int} (h : Ris out) {i j : Nat} (hij : i < j) (hj : j < out.length) : out.getD i 0 < out.getD j 0 := by
  have := List.pairwise_iff_getElem.1 h i j (by omega) hj hij
  simp [show i < out.length by omega, hj]
  exact this

theorem copy_wp {P : Program} {o : Oper} {a : Act} {w : World} {K : Act → World → Prop} {Q : Exit → Act → World → Prop} (hgd : o.guard = none) (d s : Operand) (dT sT : TypeId)
    (ho : o.op = .call { callee := .builtin .copy, args := #[d, s], argTypes := #[dT, sT] }) (elem : TypeId) (hu : P.underlying dT = some (.slice elem)) (hsz : (P.info? elem).map (·.size) = some 1)
    (dp sp : Option Addr) (dLen dCap sLen sCap : Nat) (hd : a.eval d = .slice dp dLen dCap) (hs : a.eval s = .slice sp sLen sCap)
    (g off : Nat) (cur : List Value) (t : TypeId) (hg : w.heap[g]? = some (.cells cur.toArray t (0, 0))) (cs : List Value) (hn : cs.length = Nat.min sLen dLen)
    (hpos : 0 < cs.length → dp = some ⟨g, off, none⟩ ∧ ∃ ad, sp = some ad ∧ ∀ j v, cs[j]? = some v → w.cell? (ad.add j) = some v)
    (hfit : off + cs.length ≤ cur.length) (h1 : ∀ v ∈ cs, v.oneCell' = true) (B : Nat) (w0 : World) (hb : Below B w0 w) (hBg : B ≤ g)
    (h : ∀ w', Hid (w'.heap[g]? = some (.cells (splice cur off cs).toArray t (0, 0))) → Below B w0 w' → K (a.put o.dst (goInt cs.length)) w') : Oper.wp P o a w K Q := by
  have k := step_copy_splice (ops := #[]) (E := False) (Q := Q) hgd d s dT sT ho elem hu hsz dp sp dLen dCap sLen sCap hd hs g off cur t hg cs hn hpos hfit h1 B w0 hb hBg h
  rw [if_pos (by simp [Region.wanted, hgd])] at k
  exact k

set_option maxRecDepth 100000 in
set_option maxHeartbeats 1600000 in
theorem rising_any (l : List Int) (v : Value) (w : World) (hv : Sl w.heap.size 3 w v (ints l)) (hl : l.length ≤ 1000) :
    Calls Try.prog 41 #[v] w fun e w' => ∃ u out, e = .returned u ∧ w'.ownsRow w.heap.size 3 1 u out.length (ints out) ∧ Ris out ∧ (∀ x, x ∈ out ↔ x ∈ l) ∧ out.length ≤ l.length ∧ Below w.heap.size w w' := by
  obtain ⟨i3, hi3, hz30, hz31, hz32⟩ := info_parts Try.info3
  obtain ⟨lo, lc, hvv, hlc, hcm⟩ := sl_open hv
  subst hvv
  have HV : Hid (∀ W', Below w.heap.size w W' → Sl w.heap.size 3 W' (.slice lo l.length lc) (ints l)) := fun W' h => hv.below h (Nat.le_refl _)
  clear hv
  go_enter Try.func41, Try.ntmps41
  go_wp2
  go_loopw [3, 4] (fun ov i wr => ∃ (k : Nat) (out : List Int), k ≤ l.length ∧ i = .int .i64 k ∧ wr.ownsRow w.heap.size 3 1 ov out.length (ints out) ∧ Ris out ∧ (∀ x, x ∈ out ↔ x ∈ l.take k) ∧ out.length ≤ k ∧ Below w.heap.size w wr) (fun _ i _ => l.length - (intOf i).toNat)
  case atStart => exact ⟨0, [], Nat.zero_le _, rfl, World.ownsRow_nil _ _ _ _, List.Pairwise.nil, fun x => by simp, Nat.le_refl _, Below.refl _ _⟩
  case round =>
    obtain ⟨k, out, hk, rfl, ho, hris, hmem, hol, hb⟩ := hrel
    obtain ⟨uo, uc, hu⟩ := owns_form ho
    subst hu
    have HO : Hid (wr.ownsRow w.heap.size 3 1 (.slice uo out.length uc) out.length (ints out)) := ho
    have HB : Hid (Below w.heap.size w wr) := hb
    have HRS : Hid (Ris out) := hris
    have HME : Hid (∀ x, x ∈ out ↔ x ∈ l.take k) := hmem
    have HOL : Hid (out.length ≤ k) := hol
    clear ho hb hris hmem hol
    obtain ⟨wa, rfl⟩ : ∃ wa, wa = wr := ⟨wr, rfl⟩
    by_cases hlt : k < l.length
    · obtain ⟨lb, lq, _, hs, _, hcx⟩ := sl_cell (HV.out wa HB.out) hlt
      simp only [Value.slice.injEq] at hs
      obtain ⟨rfl, -, -⟩ := hs
      obtain ⟨x, hx⟩ : ∃ x, x = l.getD k 0 := ⟨_, rfl⟩
      have HTK : Hid (l.take (k + 1) = l.take k ++ [x]) := by
        show _ = _
        rw [List.take_succ_eq_append_getElem hlt, hx]; simp [hlt]
      rw [← hx] at hcx
      have HXV : Hid (x = l.getD k 0) := hx
      clear hx
      have kI : (k : Int) < (l.length : Int) := by omega
      have kI0 : (0 : Int) ≤ (k : Int) := by omega
      go_wp2
      go_loopw [5] (fun pv wr => ∃ p : Nat, p ≤ out.length ∧ pv = .int .i64 p ∧ (∀ j, p ≤ j → j < out.length → x < out.getD j 0) ∧ ∃ d, wr = wa.drewN d) (fun pv _ => (intOf pv).toNat)
      case atStart => exact ⟨out.length, Nat.le_refl _, rfl, fun j h1 h2 => by omega, 0, rfl⟩
      case round =>
        obtain ⟨pp, hpp, rfl, hhi, d, rfl⟩ := hrel
        have HHI : Hid (∀ j, pp ≤ j → j < out.length → x < out.getD j 0) := hhi
        clear hhi
        have hcx2 : (wa.drewN d).cell? ⟨lb, lq + k, none⟩ = some (.int .i64 x) := hcx
        have HO2 : Hid ((wa.drewN d).ownsRow w.heap.size 3 1 (.slice uo out.length uc) out.length (ints out)) := ⟨HO.out.1, HO.out.2⟩
        have HB2 : Hid (Below w.heap.size w (wa.drewN d)) := ⟨HB.out.os, HB.out.tape, HB.out.output, HB.out.size, HB.out.block⟩
        obtain ⟨WD, hWD⟩ : ∃ WD, WD = wa.drewN d := ⟨_, rfl⟩
        have HWD : Hid (WD = wa.drewN d) := hWD
        rw [← hWD] at hcx2 HO2 HB2 ⊢
        clear hWD
        cases pp with
        | zero =>
          go_wp2
          refine wp_region_held_drew (S := fun _ => True) (by kernel_rfl) trivial (fun hHeld => ?_)
          refine wpAnyH_tk (i := 0) (d := 14) (v := (.int .i64 0)) rfl rfl (by kernel_rfl) (by kernel_rfl) (by kernel_rfl) (fun _ _ _ h => h) (.inl ⟨by rfl, by (intro wq hSw; (try dsimp only at hSw); go_simp)⟩) hHeld ?_
          simp only [Act.put, List.setIfInBounds_toArray, List.set_cons_zero, List.set_cons_succ]
          refine wpAnyH_tk (i := 1) (d := 15) (v := (.bool false)) rfl rfl (by kernel_rfl) (by kernel_rfl) (by kernel_rfl) (fun _ _ _ h => h) (.inl ⟨by rfl, by (intro wq hSw; (try dsimp only at hSw); go_simp)⟩) hHeld ?_
          simp only [Act.put, List.setIfInBounds_toArray, List.set_cons_zero, List.set_cons_succ]
          refine wpAnyH_tk (i := 2) (d := 16) (v := (.bool false)) rfl rfl (by kernel_rfl) (by kernel_rfl) (by kernel_rfl) (fun _ _ _ h => h) (.inl ⟨by rfl, by (intro wq hSw; (try dsimp only at hSw); go_simp)⟩) hHeld ?_
          simp only [Act.put, List.setIfInBounds_toArray, List.set_cons_zero, List.set_cons_succ]
          refine wpAnyH_tk (i := 3) (d := 17) (v := undef) rfl rfl (by kernel_rfl) (by kernel_rfl) (by kernel_rfl) (fun _ _ _ h => h) (.inr ⟨by rfl, rfl⟩) hHeld ?_
          simp only [Act.put, List.setIfInBounds_toArray, List.set_cons_zero, List.set_cons_succ]
          refine wpAnyH_tk (i := 4) (d := 18) (v := undef) rfl rfl (by kernel_rfl) (by kernel_rfl) (by kernel_rfl) (fun _ _ _ h => h) (.inr ⟨by rfl, rfl⟩) hHeld ?_
          simp only [Act.put, List.setIfInBounds_toArray, List.set_cons_zero, List.set_cons_succ]
          refine wpAnyH_tk (i := 5) (d := 19) (v := undef) rfl rfl (by kernel_rfl) (by kernel_rfl) (by kernel_rfl) (fun _ _ _ h => h) (.inr ⟨by rfl, rfl⟩) hHeld ?_
          simp only [Act.put, List.setIfInBounds_toArray, List.set_cons_zero, List.set_cons_succ]
          refine wpAnyH_tk (i := 6) (d := 20) (v := undef) rfl rfl (by kernel_rfl) (by kernel_rfl) (by kernel_rfl) (fun _ _ _ h => h) (.inr ⟨by rfl, rfl⟩) hHeld ?_
          simp only [Act.put, List.setIfInBounds_toArray, List.set_cons_zero, List.set_cons_succ]
          refine wpAnyH_tk (i := 7) (d := 21) (v := undef) rfl rfl (by kernel_rfl) (by kernel_rfl) (by kernel_rfl) (fun _ _ _ h => h) (.inr ⟨by rfl, rfl⟩) hHeld ?_
          simp only [Act.put, List.setIfInBounds_toArray, List.set_cons_zero, List.set_cons_succ]
          refine wpAnyH_tk (i := 8) (d := 22) (v := undef) rfl rfl (by kernel_rfl) (by kernel_rfl) (by kernel_rfl) (fun _ _ _ h => h) (.inr ⟨by rfl, rfl⟩) hHeld ?_
          simp only [Act.put, List.setIfInBounds_toArray, List.set_cons_zero, List.set_cons_succ]
          refine wpAnyH_tk (i := 9) (d := 23) (v := undef) rfl rfl (by kernel_rfl) (by kernel_rfl) (by kernel_rfl) (fun _ _ _ h => h) (.inr ⟨by rfl, rfl⟩) hHeld ?_
          simp only [Act.put, List.setIfInBounds_toArray, List.set_cons_zero, List.set_cons_succ]
          refine wpAnyH_tk (i := 10) (d := 24) (v := undef) rfl rfl (by kernel_rfl) (by kernel_rfl) (by kernel_rfl) (fun _ _ _ h => h) (.inr ⟨by rfl, rfl⟩) hHeld ?_
          simp only [Act.put, List.setIfInBounds_toArray, List.set_cons_zero, List.set_cons_succ]
          refine wpAnyH_tk (i := 11) (d := 25) (v := undef) rfl rfl (by kernel_rfl) (by kernel_rfl) (by kernel_rfl) (fun _ _ _ h => h) (.inr ⟨by rfl, rfl⟩) hHeld ?_
          simp only [Act.put, List.setIfInBounds_toArray, List.set_cons_zero, List.set_cons_succ]
          refine wpAnyH_tk (i := 12) (d := 26) (v := undef) rfl rfl (by kernel_rfl) (by kernel_rfl) (by kernel_rfl) (fun _ _ _ h => h) (.inr ⟨by rfl, rfl⟩) hHeld ?_
          simp only [Act.put, List.setIfInBounds_toArray, List.set_cons_zero, List.set_cons_succ]
          refine wpAnyH_tk (i := 13) (d := 27) (v := (.bool false)) rfl rfl (by kernel_rfl) (by kernel_rfl) (by kernel_rfl) (fun _ _ _ h => h) (.inl ⟨by rfl, by (intro wq hSw; (try dsimp only at hSw); go_simp)⟩) hHeld ?_
          simp only [Act.put, List.setIfInBounds_toArray, List.set_cons_zero, List.set_cons_succ]
          refine wpAnyH_done (by kernel_rfl) ?_ _
          clear hHeld
          go_wp2
          refine wp_region_held_drew (S := fun _ => True) (by kernel_rfl) trivial (fun hHeld => ?_)
          refine wpAnyH_tk (i := 0) (d := 30) (v := (.int .i64 0)) rfl rfl (by kernel_rfl) (by kernel_rfl) (by kernel_rfl) (fun _ _ _ h => h) (.inl ⟨by rfl, by (intro wq hSw; (try dsimp only at hSw); go_simp)⟩) hHeld ?_
          simp only [Act.put, List.setIfInBounds_toArray, List.set_cons_zero, List.set_cons_succ]
          refine wpAnyH_tk (i := 1) (d := 31) (v := (.bool false)) rfl rfl (by kernel_rfl) (by kernel_rfl) (by kernel_rfl) (fun _ _ _ h => h) (.inl ⟨by rfl, by (intro wq hSw; (try dsimp only at hSw); go_simp)⟩) hHeld ?_
          simp only [Act.put, List.setIfInBounds_toArray, List.set_cons_zero, List.set_cons_succ]
          refine wpAnyH_tk (i := 2) (d := 32) (v := (.bool false)) rfl rfl (by kernel_rfl) (by kernel_rfl) (by kernel_rfl) (fun _ _ _ h => h) (.inl ⟨by rfl, by (intro wq hSw; (try dsimp only at hSw); go_simp)⟩) hHeld ?_
          simp only [Act.put, List.setIfInBounds_toArray, List.set_cons_zero, List.set_cons_succ]
          refine wpAnyH_tk (i := 3) (d := 33) (v := undef) rfl rfl (by kernel_rfl) (by kernel_rfl) (by kernel_rfl) (fun _ _ _ h => h) (.inr ⟨by rfl, rfl⟩) hHeld ?_
          simp only [Act.put, List.setIfInBounds_toArray, List.set_cons_zero, List.set_cons_succ]
          refine wpAnyH_tk (i := 4) (d := 34) (v := undef) rfl rfl (by kernel_rfl) (by kernel_rfl) (by kernel_rfl) (fun _ _ _ h => h) (.inr ⟨by rfl, rfl⟩) hHeld ?_
          simp only [Act.put, List.setIfInBounds_toArray, List.set_cons_zero, List.set_cons_succ]
          refine wpAnyH_tk (i := 5) (d := 35) (v := undef) rfl rfl (by kernel_rfl) (by kernel_rfl) (by kernel_rfl) (fun _ _ _ h => h) (.inr ⟨by rfl, rfl⟩) hHeld ?_
          simp only [Act.put, List.setIfInBounds_toArray, List.set_cons_zero, List.set_cons_succ]
          refine wpAnyH_tk (i := 6) (d := 36) (v := undef) rfl rfl (by kernel_rfl) (by kernel_rfl) (by kernel_rfl) (fun _ _ _ h => h) (.inr ⟨by rfl, rfl⟩) hHeld ?_
          simp only [Act.put, List.setIfInBounds_toArray, List.set_cons_zero, List.set_cons_succ]
          refine wpAnyH_tk (i := 7) (d := 37) (v := undef) rfl rfl (by kernel_rfl) (by kernel_rfl) (by kernel_rfl) (fun _ _ _ h => h) (.inr ⟨by rfl, rfl⟩) hHeld ?_
          simp only [Act.put, List.setIfInBounds_toArray, List.set_cons_zero, List.set_cons_succ]
          refine wpAnyH_tk (i := 8) (d := 38) (v := undef) rfl rfl (by kernel_rfl) (by kernel_rfl) (by kernel_rfl) (fun _ _ _ h => h) (.inr ⟨by rfl, rfl⟩) hHeld ?_
          simp only [Act.put, List.setIfInBounds_toArray, List.set_cons_zero, List.set_cons_succ]
          refine wpAnyH_tk (i := 9) (d := 39) (v := undef) rfl rfl (by kernel_rfl) (by kernel_rfl) (by kernel_rfl) (fun _ _ _ h => h) (.inr ⟨by rfl, rfl⟩) hHeld ?_
          simp only [Act.put, List.setIfInBounds_toArray, List.set_cons_zero, List.set_cons_succ]
          refine wpAnyH_tk (i := 10) (d := 40) (v := undef) rfl rfl (by kernel_rfl) (by kernel_rfl) (by kernel_rfl) (fun _ _ _ h => h) (.inr ⟨by rfl, rfl⟩) hHeld ?_
          simp only [Act.put, List.setIfInBounds_toArray, List.set_cons_zero, List.set_cons_succ]
          refine wpAnyH_tk (i := 11) (d := 41) (v := undef) rfl rfl (by kernel_rfl) (by kernel_rfl) (by kernel_rfl) (fun _ _ _ h => h) (.inr ⟨by rfl, rfl⟩) hHeld ?_
          simp only [Act.put, List.setIfInBounds_toArray, List.set_cons_zero, List.set_cons_succ]
          refine wpAnyH_tk (i := 12) (d := 42) (v := undef) rfl rfl (by kernel_rfl) (by kernel_rfl) (by kernel_rfl) (fun _ _ _ h => h) (.inr ⟨by rfl, rfl⟩) hHeld ?_
          simp only [Act.put, List.setIfInBounds_toArray, List.set_cons_zero, List.set_cons_succ]
          refine wpAnyH_tk (i := 13) (d := 43) (v := (.bool false)) rfl rfl (by kernel_rfl) (by kernel_rfl) (by kernel_rfl) (fun _ _ _ h => h) (.inl ⟨by rfl, by (intro wq hSw; (try dsimp only at hSw); go_simp)⟩) hHeld ?_
          simp only [Act.put, List.setIfInBounds_toArray, List.set_cons_zero, List.set_cons_succ]
          refine wpAnyH_done (by kernel_rfl) ?_ _
          clear hHeld
          have HLO : Hid (∀ j, j < 0 → out.getD j 0 < x) := fun j hj => by omega
          have HO3 : Hid (WD.drew.drew.ownsRow w.heap.size 3 1 (.slice uo out.length uc) out.length (ints out)) := ⟨HO2.out.1, HO2.out.2⟩
          have HB3 : Hid (Below w.heap.size w WD.drew.drew) := ⟨HB2.out.os, HB2.out.tape, HB2.out.output, HB2.out.size, HB2.out.block⟩
          obtain ⟨W9, hW9⟩ : ∃ W9, W9 = WD.drew.drew := ⟨_, rfl⟩
          rw [← hW9] at HO3 HB3 ⊢
          clear hW9 HO2 HB2 HO HB HWD hcx2
          have hsz9 : w.heap.size ≤ W9.heap.size := HB3.out.size
          have hol9 : out.length ≤ 1000 := by have := HOL.out; omega
          have hpl9 : 0 ≤ out.length := by omega
          go_wp2_with (first | (at_builtin; refine wpList_append_own _ rfl _ _ 26 rfl w.heap.size 3 i3 (.int .i64 0) 1 8 Try.underlying26 hi3 hz30 hz31 hz32 rfl (by decide) _ _ _ rfl (HO3.out.alloc _) ⟨W9.heap.size, 0, none⟩ 1 1 [.int .i64 0] rfl rfl (one_new _ _ _) (one_int _) ?c3 ?c4 ?c5 ?_))
          case c3 => unfold maxLen; omega
          case c4 => omega
          case c5 => first | exact hsz9 | omega | (simp; omega)
          intro v' w3 ho3 hg3 _
          have HB4 : Hid (Below w.heap.size w w3) := (HB3.out.alloc hsz9 _).grown hg3 (by simp; omega) (fun x hx => (HO3.out.lt x hx).1)
          obtain ⟨g, gc, cur, hvv, hBg, hgh, hgc1, hgc2, hcs, htk⟩ : ∃ g cap cur, v' = .slice (some ⟨g, 0, none⟩) (out.length + 1) cap ∧ w.heap.size ≤ g ∧ w3.heap[g]? = some (.cells cur 3 (0, 0)) ∧ out.length + 1 ≤ cap ∧ cap ≤ maxLen ∧ cur.size = cap ∧ cur.toList.take (out.length + 1) = ints (out ++ [0]) := by
            rcases ho3.2 with ⟨_, h0⟩ | ⟨g, cap, cur, h1, h2, h3, h4, h5, h6, h7⟩
            · omega
            · exact ⟨g, cap, cur, h1, h2, h3, h4, h5, by simpa using h6, by rw [Nat.mul_one] at h7; rw [h7]; simp [ints]⟩
          subst hvv
          have HCE : Hid (∀ i, i < out.length → w3.cell? ⟨g, i, none⟩ = some (.int .i64 (out.getD i 0))) := fun i hi => by
            have h1 := ho3.cellAt i (by simp; omega)
            rw [List.getElem?_append_left (by simp; exact hi), ints_get _ _ hi] at h1
            exact h1
          have HGH : Hid (w3.heap[g]? = some (.cells cur.toList.toArray 3 (0, 0))) := hgh
          have HTC : Hid (cur.toList.take (out.length + 1) = ints (out ++ [0])) := htk
          have hcl : cur.toList.length = gc := by simp [hcs]
          have HCL : Hid (cur.toList.length = gc) := hcl
          have hr1 : ∀ w : World, (Instr.slice 26 (.slice (some ⟨g, 0, none⟩) (out.length + 1) gc) (some (.int .i64 1)) none none).run Try.prog w = .ok (.slice (tailI g gc 0) (out.length + 1 - (0 + 1)) (gc - (0 + 1))) w := fun w => by
            have h := run_tailI (b := g) (n := out.length + 1) (c := gc) (k := 0) (by omega) w
            rw [show (((0 : Nat) : Int) + 1) = 1 by omega] at h
            exact h
          have hr0 : ∀ w : World, (Instr.slice 26 (.slice (some ⟨g, 0, none⟩) (out.length + 1) gc) (some (.int .i64 0)) none none).run Try.prog w = .ok (.slice (some ⟨g, 0, none⟩) (out.length + 1 - 0) (gc - 0)) w := fun w => by
            have h := run_fromI (b := g) (n := out.length + 1) (c := gc) (k := 0) (by omega) hgc1 w
            rw [show ((0 : Nat) : Int) = 0 by omega] at h
            exact h
          have HCP : Hid (∀ (o : Oper) (a : Act) (K : Act → World → Prop) (Q : Exit → Act → World → Prop), o.guard = none → o.op = .call { callee := .builtin .copy, args := #[.tmp 50, .tmp 53], argTypes := #[26, 26] } → a.eval (.tmp 50) = .slice (tailI g gc 0) (out.length + 1 - (0 + 1)) (gc - (0 + 1)) → a.eval (.tmp 53) = .slice (some ⟨g, 0, none⟩) (out.length + 1 - 0) (gc - 0) → (∀ w', Hid (w'.heap[g]? = some (.cells (splice cur.toList (0 + 1) (ints (out.drop 0))).toArray 3 (0, 0))) → Below w.heap.size w w' → K (a.put o.dst (goInt (ints (out.drop 0)).length)) w') → Oper.wp Try.prog o a w3.drew K Q) := fun o a K Q k1 k2 k3 k4 k5 => by
            refine copy_wp k1 (.tmp 50) (.tmp 53) 26 26 k2 3 Try.underlying26 (by rw [hi3]; simp [hz31]) _ _ _ _ _ _ k3 k4 g (0 + 1) cur.toList 3 HGH.out (ints (out.drop 0)) (by rw [ints_length, List.length_drop]; show _ = min _ _; omega) (fun h0 => ⟨?_, ⟨g, 0, none⟩, rfl, fun j u hj => ?_⟩) (by rw [ints_length, List.length_drop, hcl]; omega) (ints_oneCell' _) w.heap.size w ⟨HB4.out.os, HB4.out.tape, HB4.out.output, HB4.out.size, HB4.out.block⟩ hBg k5
            · rw [ints_length, List.length_drop] at h0
              unfold tailI
              rw [if_neg (by omega)]
            · have hjl : j < (out.drop 0).length := by
                have := (List.getElem?_eq_some_iff.1 hj).1
                rw [ints_length] at this
                exact this
              rw [ints_get _ _ hjl] at hj
              rw [List.length_drop] at hjl
              have h9 := HCE.out (0 + j) (by omega)
              have e9 : (out.drop 0).getD j 0 = out.getD (0 + j) 0 := by simp [List.getD_eq_getElem?_getD]
              rw [e9] at hj
              rw [← Option.some.inj hj, show (⟨g, 0, none⟩ : Addr).add j = ⟨g, 0 + j, none⟩ by first | (simp [Addr.add]; done) | (simp [Addr.add]; intro h; omega)]
              exact h9
          have w1 : IntKind.i64.wrap 1 = 1 := by
            rw [show (1 : Int) = ((0 + 1 : Nat) : Int) by omega]
            exact wrap_smallP (by omega)
          have HPL : Hid (0 ≤ out.length ∧ out.length + 1 ≤ gc ∧ gc ≤ maxLen) := ⟨hpl9, hgc1, hgc2⟩
          clear ho3 hg3 hgh htk hgc2 hcs hcl
          go_wp2
          refine wp_region_held_drew (S := fun _ => True) (by kernel_rfl) trivial (fun hHeld => ?_)
          refine wpAnyH_tk (i := 0) (d := 47) (v := (.slice (some ⟨g, 0, none⟩) (out.length + 1) gc)) rfl rfl (by kernel_rfl) (by kernel_rfl) (by kernel_rfl) (fun _ _ _ h => h) (.inl ⟨by rfl, by (intro wq hSw; (try dsimp only at hSw); go_simp)⟩) hHeld ?_
          simp only [Act.put, List.setIfInBounds_toArray, List.set_cons_zero, List.set_cons_succ]
          refine wpAnyH_tk (i := 1) (d := 48) (v := (.int .i64 0)) rfl rfl (by kernel_rfl) (by kernel_rfl) (by kernel_rfl) (fun _ _ _ h => h) (.inl ⟨by rfl, by (intro wq hSw; (try dsimp only at hSw); go_simp)⟩) hHeld ?_
          simp only [Act.put, List.setIfInBounds_toArray, List.set_cons_zero, List.set_cons_succ]
          refine wpAnyH_tk (i := 2) (d := 49) (v := (.int .i64 1)) rfl rfl (by kernel_rfl) (by kernel_rfl) (by kernel_rfl) (fun _ _ _ h => h) (.inl ⟨by rfl, by (intro wq hSw; (try dsimp only at hSw); go_simp)⟩) hHeld ?_
          simp only [Act.put, List.setIfInBounds_toArray, List.set_cons_zero, List.set_cons_succ]
          refine wpAnyH_tk (i := 3) (d := 50) (v := (.slice (tailI g gc 0) (out.length + 1 - (0 + 1)) (gc - (0 + 1)))) rfl rfl (by kernel_rfl) (by kernel_rfl) (by kernel_rfl) (fun _ _ _ h => h) (.inl ⟨by rfl, by (intro wq hSw; (try dsimp only at hSw); go_simp)⟩) hHeld ?_
          simp only [Act.put, List.setIfInBounds_toArray, List.set_cons_zero, List.set_cons_succ]
          refine wpAnyH_tk (i := 4) (d := 51) (v := (.slice (some ⟨g, 0, none⟩) (out.length + 1) gc)) rfl rfl (by kernel_rfl) (by kernel_rfl) (by kernel_rfl) (fun _ _ _ h => h) (.inl ⟨by rfl, by (intro wq hSw; (try dsimp only at hSw); go_simp)⟩) hHeld ?_
          simp only [Act.put, List.setIfInBounds_toArray, List.set_cons_zero, List.set_cons_succ]
          refine wpAnyH_tk (i := 5) (d := 52) (v := (.int .i64 0)) rfl rfl (by kernel_rfl) (by kernel_rfl) (by kernel_rfl) (fun _ _ _ h => h) (.inl ⟨by rfl, by (intro wq hSw; (try dsimp only at hSw); go_simp)⟩) hHeld ?_
          simp only [Act.put, List.setIfInBounds_toArray, List.set_cons_zero, List.set_cons_succ]
          refine wpAnyH_tk (i := 6) (d := 53) (v := (.slice (some ⟨g, 0, none⟩) (out.length + 1 - 0) (gc - 0))) rfl rfl (by kernel_rfl) (by kernel_rfl) (by kernel_rfl) (fun _ _ _ h => h) (.inl ⟨by rfl, by (intro wq hSw; (try dsimp only at hSw); go_simp)⟩) hHeld ?_
          simp only [Act.put, List.setIfInBounds_toArray, List.set_cons_zero, List.set_cons_succ]
          refine wpAnyH_ready (rs := [7]) (by kernel_rfl) (by simp) ?_
          refine ready_tk (i := 7) rfl (by rfl) (fun K hK => ?_) AllReadyH.nil
          refine HCP.out _ _ _ _ rfl rfl rfl rfl ?_
          intro w4 hg4 hb4
          refine hK.out _ _ trivial (fun hHeld => ?_)
          clear hK K
          refine wpAnyH_done (by kernel_rfl) ?_ _
          clear hHeld hr1 hr0 w1
          simp only [Act.put, List.setIfInBounds_toArray, List.set_cons_zero, List.set_cons_succ]
          have HB5 : Hid (Below w.heap.size w w4) := hb4
          obtain ⟨lb', lq', _, hs, _, hcx4⟩ := sl_cell (HV.out w4 hb4) hlt
          simp only [Value.slice.injEq, Option.some.injEq, Addr.mk.injEq, and_true] at hs
          obtain ⟨⟨rfl, rfl⟩, -, -⟩ := hs
          rw [← HXV.out] at hcx4
          have hsl4 : 0 < (splice cur.toList (0 + 1) (ints (out.drop 0))).length := by
            rw [length_splice _ _ _ (by rw [ints_length, List.length_drop, HCL.out]; omega), HCL.out]
            omega
          have hpc : w4.cell? ⟨g, 0, none⟩ = some ((splice cur.toList (0 + 1) (ints (out.drop 0)))[0]) := by
            have h1 := hg4.out
            first | (simp [World.cell?, h1]; done) | simp [World.cell?, h1, hsl4]
          have hpf : w4.frozen? ⟨g, 0, none⟩ = false := by
            have h1 := hg4.out
            simp [World.frozen?, h1]
          have HRO : Hid ((w4.setCell ⟨g, 0, none⟩ (.int .i64 x)).ownsRow w.heap.size 3 1 (.slice (some ⟨g, 0, none⟩) (out.length + 1) gc) (out.length + 1) (ints (out.take 0 ++ x :: out.drop 0))) := by
            refine ⟨by first | (simp; done) | (simp; omega), .inr ⟨g, gc, ((splice cur.toList (0 + 1) (ints (out.drop 0))).set 0 (.int .i64 x)).toArray, rfl, hBg, ?_, HPL.out.2.1, HPL.out.2.2, ?_, ?_⟩⟩
            · have h1 := hg4.out
              simp [World.setCell, Array.getElem?_modify, h1]
            · simp only [List.size_toArray, List.length_set]
              rw [length_splice _ _ _ (by rw [ints_length, List.length_drop, HCL.out]; omega), HCL.out, Nat.mul_one]
            · rw [Nat.mul_one]
              exact ins_cells hpl9 HTC.out
          have HRL : Hid ((out.take 0 ++ x :: out.drop 0).length = out.length + 1) := by
            show _ = _
            simp only [List.length_append, List.length_take, List.length_cons, List.length_drop]
            omega
          have HRB : Hid (Below w.heap.size w (w4.setCell ⟨g, 0, none⟩ (.int .i64 x))) := ⟨HB5.out.os, HB5.out.tape, HB5.out.output, by simp only [World.setCell, Array.size_modify]; exact HB5.out.size, fun b hb => (Below.heap_setCell _ _ _ _ (by show b ≠ g; omega)).trans (HB5.out.block b hb)⟩
          have HRR : Hid (Ris (out.take 0 ++ x :: out.drop 0)) := ins_ris HRS.out HLO.out HHI.out hpl9
          have HRM : Hid (∀ z, z ∈ out.take 0 ++ x :: out.drop 0 ↔ z ∈ l.take (k + 1)) := fun z => by
            rw [HTK.out, List.mem_append, List.mem_append, List.mem_cons, List.mem_singleton, ← HME.out z]
            have : z ∈ out ↔ z ∈ out.take 0 ∨ z ∈ out.drop 0 := by
              rw [← List.mem_append, List.take_append_drop]
            rw [this]
            constructor
            · rintro (h | h | h)
              · exact .inl (.inl h)
              · exact .inr h
              · exact .inl (.inr h)
            · rintro ((h | h) | h)
              · exact .inl h
              · exact .inr (.inr h)
              · exact .inr (.inl h)
          have pI : 0 < (out.length : Int) + 1 := by omega
          have pI0 : (0 : Int) ≤ 0 := by omega
          generalize (splice cur.toList (0 + 1) (ints (out.drop 0)))[0] = zz at hpc
          clear hb4 hsl4 hg4
          go_wp2
          exact ⟨⟨k + 1, _, by omega, by go_num, by rw [HRL.out]; exact HRO.out, HRR.out, HRM.out, by rw [HRL.out]; have := HOL.out; omega, HRB.out⟩, by simp [intOf]; omega⟩
        | succ q =>
          have hql : q < out.length := by omega
          obtain ⟨ob, oq, _, hs, _, hcy⟩ := sl_cell (Sl.own (B := 0) HO2.out) hql
          simp only [Value.slice.injEq] at hs
          obtain ⟨rfl, -, -⟩ := hs
          obtain ⟨y, hy⟩ : ∃ y, y = out.getD q 0 := ⟨_, rfl⟩
          have HY : Hid (y = out.getD q 0) := hy
          rw [← hy] at hcy
          clear hy
          have q1 : IntKind.i64.wrap (q : Int) = (q : Int) := wrap_smallP (by have := HOL.out; omega)
          have qI : (q : Int) < (out.length : Int) := by omega
          have qI0 : (0 : Int) ≤ (q : Int) := by omega
          by_cases hxy : x < y
          · have t1 : decide (x < y) = true := decide_eq_true hxy
            have HNX : Hid (∀ j, q ≤ j → j < out.length → x < out.getD j 0) := fun j h1 h2 => by
              by_cases e : j = q
              · rw [e, ← HY.out]; exact hxy
              · exact HHI.out j (by omega) h2
            go_wp2
            refine wp_region_held_drew (S := fun w' => w'.cell? ⟨lb, lq + k, none⟩ = some (.int .i64 x) ∧ w'.cell? ⟨ob, oq + q, none⟩ = some (.int .i64 y)) (by kernel_rfl) ⟨hcx2, hcy⟩ (fun hHeld => ?_)
            refine wpAnyH_tk (i := 0) (d := 14) (v := (.int .i64 (q + 1 : Nat))) rfl rfl (by kernel_rfl) (by kernel_rfl) (by kernel_rfl) (fun _ _ _ h => h) (.inl ⟨by rfl, by (intro wq hSw; (try dsimp only at hSw); go_simp)⟩) hHeld ?_
            simp only [Act.put, List.setIfInBounds_toArray, List.set_cons_zero, List.set_cons_succ]
            refine wpAnyH_tk (i := 1) (d := 15) (v := (.bool true)) rfl rfl (by kernel_rfl) (by kernel_rfl) (by kernel_rfl) (fun _ _ _ h => h) (.inl ⟨by rfl, by (intro wq hSw; (try dsimp only at hSw); go_simp)⟩) hHeld ?_
            simp only [Act.put, List.setIfInBounds_toArray, List.set_cons_zero, List.set_cons_succ]
            refine wpAnyH_tk (i := 2) (d := 16) (v := (.bool true)) rfl rfl (by kernel_rfl) (by kernel_rfl) (by kernel_rfl) (fun _ _ _ h => h) (.inl ⟨by rfl, by (intro wq hSw; (try dsimp only at hSw); go_simp)⟩) hHeld ?_
            simp only [Act.put, List.setIfInBounds_toArray, List.set_cons_zero, List.set_cons_succ]
            refine wpAnyH_tk (i := 3) (d := 17) (v := (.slice (some ⟨lb, lq, none⟩) l.length lc)) rfl rfl (by kernel_rfl) (by kernel_rfl) (by kernel_rfl) (fun _ _ _ h => h) (.inl ⟨by rfl, by (intro wq hSw; (try dsimp only at hSw); go_simp)⟩) hHeld ?_
            simp only [Act.put, List.setIfInBounds_toArray, List.set_cons_zero, List.set_cons_succ]
            refine wpAnyH_tk (i := 4) (d := 18) (v := (.int .i64 k)) rfl rfl (by kernel_rfl) (by kernel_rfl) (by kernel_rfl) (fun _ _ _ h => h) (.inl ⟨by rfl, by (intro wq hSw; (try dsimp only at hSw); go_simp)⟩) hHeld ?_
            simp only [Act.put, List.setIfInBounds_toArray, List.set_cons_zero, List.set_cons_succ]
            refine wpAnyH_tk (i := 5) (d := 19) (v := (.pointer (some ⟨lb, lq + k, none⟩))) rfl rfl (by kernel_rfl) (by kernel_rfl) (by kernel_rfl) (fun _ _ _ h => h) (.inl ⟨by rfl, by (intro wq hSw; (try dsimp only at hSw); go_simp)⟩) hHeld ?_
            simp only [Act.put, List.setIfInBounds_toArray, List.set_cons_zero, List.set_cons_succ]
            refine wpAnyH_tk (i := 6) (d := 20) (v := (.int .i64 x)) rfl rfl (by kernel_rfl) (by kernel_rfl) (by kernel_rfl) (fun _ _ _ h => h) (.inl ⟨by rfl, by (intro wq hSw; (try dsimp only at hSw); go_simp)⟩) hHeld ?_
            simp only [Act.put, List.setIfInBounds_toArray, List.set_cons_zero, List.set_cons_succ]
            refine wpAnyH_tk (i := 7) (d := 21) (v := (.slice (some ⟨ob, oq, none⟩) out.length uc)) rfl rfl (by kernel_rfl) (by kernel_rfl) (by kernel_rfl) (fun _ _ _ h => h) (.inl ⟨by rfl, by (intro wq hSw; (try dsimp only at hSw); go_simp)⟩) hHeld ?_
            simp only [Act.put, List.setIfInBounds_toArray, List.set_cons_zero, List.set_cons_succ]
            refine wpAnyH_tk (i := 8) (d := 22) (v := (.int .i64 (q + 1 : Nat))) rfl rfl (by kernel_rfl) (by kernel_rfl) (by kernel_rfl) (fun _ _ _ h => h) (.inl ⟨by rfl, by (intro wq hSw; (try dsimp only at hSw); go_simp)⟩) hHeld ?_
            simp only [Act.put, List.setIfInBounds_toArray, List.set_cons_zero, List.set_cons_succ]
            refine wpAnyH_tk (i := 9) (d := 23) (v := (.int .i64 q)) rfl rfl (by kernel_rfl) (by kernel_rfl) (by kernel_rfl) (fun _ _ _ h => h) (.inl ⟨by rfl, by (intro wq hSw; (try dsimp only at hSw); go_simp)⟩) hHeld ?_
            simp only [Act.put, List.setIfInBounds_toArray, List.set_cons_zero, List.set_cons_succ]
            refine wpAnyH_tk (i := 10) (d := 24) (v := (.pointer (some ⟨ob, oq + q, none⟩))) rfl rfl (by kernel_rfl) (by kernel_rfl) (by kernel_rfl) (fun _ _ _ h => h) (.inl ⟨by rfl, by (intro wq hSw; (try dsimp only at hSw); go_simp)⟩) hHeld ?_
            simp only [Act.put, List.setIfInBounds_toArray, List.set_cons_zero, List.set_cons_succ]
            refine wpAnyH_tk (i := 11) (d := 25) (v := (.int .i64 y)) rfl rfl (by kernel_rfl) (by kernel_rfl) (by kernel_rfl) (fun _ _ _ h => h) (.inl ⟨by rfl, by (intro wq hSw; (try dsimp only at hSw); go_simp)⟩) hHeld ?_
            simp only [Act.put, List.setIfInBounds_toArray, List.set_cons_zero, List.set_cons_succ]
            refine wpAnyH_tk (i := 12) (d := 26) (v := (.bool true)) rfl rfl (by kernel_rfl) (by kernel_rfl) (by kernel_rfl) (fun _ _ _ h => h) (.inl ⟨by rfl, by (intro wq hSw; (try dsimp only at hSw); go_simp)⟩) hHeld ?_
            simp only [Act.put, List.setIfInBounds_toArray, List.set_cons_zero, List.set_cons_succ]
            refine wpAnyH_tk (i := 13) (d := 27) (v := (.bool true)) rfl rfl (by kernel_rfl) (by kernel_rfl) (by kernel_rfl) (fun _ _ _ h => h) (.inl ⟨by rfl, by (intro wq hSw; (try dsimp only at hSw); go_simp)⟩) hHeld ?_
            simp only [Act.put, List.setIfInBounds_toArray, List.set_cons_zero, List.set_cons_succ]
            refine wpAnyH_done (by kernel_rfl) ?_ _
            clear hHeld
            go_wp2
            exact ⟨⟨q, by omega, rfl, HNX.out, d + 1, by rw [HWD.out]; rfl⟩, by simp [intOf]⟩
          · have t1 : decide (x < y) = false := decide_eq_false hxy
            have t2 : y ≤ x := by omega
            go_wp2
            refine wp_region_held_drew (S := fun w' => w'.cell? ⟨lb, lq + k, none⟩ = some (.int .i64 x) ∧ w'.cell? ⟨ob, oq + q, none⟩ = some (.int .i64 y)) (by kernel_rfl) ⟨hcx2, hcy⟩ (fun hHeld => ?_)
            refine wpAnyH_tk (i := 0) (d := 14) (v := (.int .i64 (q + 1 : Nat))) rfl rfl (by kernel_rfl) (by kernel_rfl) (by kernel_rfl) (fun _ _ _ h => h) (.inl ⟨by rfl, by (intro wq hSw; (try dsimp only at hSw); go_simp)⟩) hHeld ?_
            simp only [Act.put, List.setIfInBounds_toArray, List.set_cons_zero, List.set_cons_succ]
            refine wpAnyH_tk (i := 1) (d := 15) (v := (.bool true)) rfl rfl (by kernel_rfl) (by kernel_rfl) (by kernel_rfl) (fun _ _ _ h => h) (.inl ⟨by rfl, by (intro wq hSw; (try dsimp only at hSw); go_simp)⟩) hHeld ?_
            simp only [Act.put, List.setIfInBounds_toArray, List.set_cons_zero, List.set_cons_succ]
            refine wpAnyH_tk (i := 2) (d := 16) (v := (.bool true)) rfl rfl (by kernel_rfl) (by kernel_rfl) (by kernel_rfl) (fun _ _ _ h => h) (.inl ⟨by rfl, by (intro wq hSw; (try dsimp only at hSw); go_simp)⟩) hHeld ?_
            simp only [Act.put, List.setIfInBounds_toArray, List.set_cons_zero, List.set_cons_succ]
            refine wpAnyH_tk (i := 3) (d := 17) (v := (.slice (some ⟨lb, lq, none⟩) l.length lc)) rfl rfl (by kernel_rfl) (by kernel_rfl) (by kernel_rfl) (fun _ _ _ h => h) (.inl ⟨by rfl, by (intro wq hSw; (try dsimp only at hSw); go_simp)⟩) hHeld ?_
            simp only [Act.put, List.setIfInBounds_toArray, List.set_cons_zero, List.set_cons_succ]
            refine wpAnyH_tk (i := 4) (d := 18) (v := (.int .i64 k)) rfl rfl (by kernel_rfl) (by kernel_rfl) (by kernel_rfl) (fun _ _ _ h => h) (.inl ⟨by rfl, by (intro wq hSw; (try dsimp only at hSw); go_simp)⟩) hHeld ?_
            simp only [Act.put, List.setIfInBounds_toArray, List.set_cons_zero, List.set_cons_succ]
            refine wpAnyH_tk (i := 5) (d := 19) (v := (.pointer (some ⟨lb, lq + k, none⟩))) rfl rfl (by kernel_rfl) (by kernel_rfl) (by kernel_rfl) (fun _ _ _ h => h) (.inl ⟨by rfl, by (intro wq hSw; (try dsimp only at hSw); go_simp)⟩) hHeld ?_
            simp only [Act.put, List.setIfInBounds_toArray, List.set_cons_zero, List.set_cons_succ]
            refine wpAnyH_tk (i := 6) (d := 20) (v := (.int .i64 x)) rfl rfl (by kernel_rfl) (by kernel_rfl) (by kernel_rfl) (fun _ _ _ h => h) (.inl ⟨by rfl, by (intro wq hSw; (try dsimp only at hSw); go_simp)⟩) hHeld ?_
            simp only [Act.put, List.setIfInBounds_toArray, List.set_cons_zero, List.set_cons_succ]
            refine wpAnyH_tk (i := 7) (d := 21) (v := (.slice (some ⟨ob, oq, none⟩) out.length uc)) rfl rfl (by kernel_rfl) (by kernel_rfl) (by kernel_rfl) (fun _ _ _ h => h) (.inl ⟨by rfl, by (intro wq hSw; (try dsimp only at hSw); go_simp)⟩) hHeld ?_
            simp only [Act.put, List.setIfInBounds_toArray, List.set_cons_zero, List.set_cons_succ]
            refine wpAnyH_tk (i := 8) (d := 22) (v := (.int .i64 (q + 1 : Nat))) rfl rfl (by kernel_rfl) (by kernel_rfl) (by kernel_rfl) (fun _ _ _ h => h) (.inl ⟨by rfl, by (intro wq hSw; (try dsimp only at hSw); go_simp)⟩) hHeld ?_
            simp only [Act.put, List.setIfInBounds_toArray, List.set_cons_zero, List.set_cons_succ]
            refine wpAnyH_tk (i := 9) (d := 23) (v := (.int .i64 q)) rfl rfl (by kernel_rfl) (by kernel_rfl) (by kernel_rfl) (fun _ _ _ h => h) (.inl ⟨by rfl, by (intro wq hSw; (try dsimp only at hSw); go_simp)⟩) hHeld ?_
            simp only [Act.put, List.setIfInBounds_toArray, List.set_cons_zero, List.set_cons_succ]
            refine wpAnyH_tk (i := 10) (d := 24) (v := (.pointer (some ⟨ob, oq + q, none⟩))) rfl rfl (by kernel_rfl) (by kernel_rfl) (by kernel_rfl) (fun _ _ _ h => h) (.inl ⟨by rfl, by (intro wq hSw; (try dsimp only at hSw); go_simp)⟩) hHeld ?_
            simp only [Act.put, List.setIfInBounds_toArray, List.set_cons_zero, List.set_cons_succ]
            refine wpAnyH_tk (i := 11) (d := 25) (v := (.int .i64 y)) rfl rfl (by kernel_rfl) (by kernel_rfl) (by kernel_rfl) (fun _ _ _ h => h) (.inl ⟨by rfl, by (intro wq hSw; (try dsimp only at hSw); go_simp)⟩) hHeld ?_
            simp only [Act.put, List.setIfInBounds_toArray, List.set_cons_zero, List.set_cons_succ]
            refine wpAnyH_tk (i := 12) (d := 26) (v := (.bool false)) rfl rfl (by kernel_rfl) (by kernel_rfl) (by kernel_rfl) (fun _ _ _ h => h) (.inl ⟨by rfl, by (intro wq hSw; (try dsimp only at hSw); go_simp)⟩) hHeld ?_
            simp only [Act.put, List.setIfInBounds_toArray, List.set_cons_zero, List.set_cons_succ]
            refine wpAnyH_tk (i := 13) (d := 27) (v := (.bool false)) rfl rfl (by kernel_rfl) (by kernel_rfl) (by kernel_rfl) (fun _ _ _ h => h) (.inl ⟨by rfl, by (intro wq hSw; (try dsimp only at hSw); go_simp)⟩) hHeld ?_
            simp only [Act.put, List.setIfInBounds_toArray, List.set_cons_zero, List.set_cons_succ]
            refine wpAnyH_done (by kernel_rfl) ?_ _
            clear hHeld
            by_cases hey : y = x
            · subst hey
              have t3 : (y == y) = true := by simp
              have HIN : Hid (∀ z, z ∈ out ↔ z ∈ l.take (k + 1)) := fun z => by
                rw [HTK.out, List.mem_append, ← HME.out z, List.mem_singleton]
                constructor
                · exact .inl
                · rintro (h | rfl)
                  · exact h
                  · rw [HY.out]; simp [hql]
              have HB3 : Hid (Below w.heap.size w WD.drew.drew) := ⟨HB2.out.os, HB2.out.tape, HB2.out.output, HB2.out.size, HB2.out.block⟩
              have HO3 : Hid (WD.drew.drew.ownsRow w.heap.size 3 1 (.slice (some ⟨ob, oq, none⟩) out.length uc) out.length (ints out)) := ⟨HO2.out.1, HO2.out.2⟩
              go_wp2
              refine wp_region_held_drew (S := fun w' => w'.cell? ⟨lb, lq + k, none⟩ = some (.int .i64 y) ∧ w'.cell? ⟨ob, oq + q, none⟩ = some (.int .i64 y)) (by kernel_rfl) ⟨hcx2, hcy⟩ (fun hHeld => ?_)
              refine wpAnyH_tk (i := 0) (d := 30) (v := (.int .i64 (q + 1 : Nat))) rfl rfl (by kernel_rfl) (by kernel_rfl) (by kernel_rfl) (fun _ _ _ h => h) (.inl ⟨by rfl, by (intro wq hSw; (try dsimp only at hSw); go_simp)⟩) hHeld ?_
              simp only [Act.put, List.setIfInBounds_toArray, List.set_cons_zero, List.set_cons_succ]
              refine wpAnyH_tk (i := 1) (d := 31) (v := (.bool true)) rfl rfl (by kernel_rfl) (by kernel_rfl) (by kernel_rfl) (fun _ _ _ h => h) (.inl ⟨by rfl, by (intro wq hSw; (try dsimp only at hSw); go_simp)⟩) hHeld ?_
              simp only [Act.put, List.setIfInBounds_toArray, List.set_cons_zero, List.set_cons_succ]
              refine wpAnyH_tk (i := 2) (d := 32) (v := (.bool true)) rfl rfl (by kernel_rfl) (by kernel_rfl) (by kernel_rfl) (fun _ _ _ h => h) (.inl ⟨by rfl, by (intro wq hSw; (try dsimp only at hSw); go_simp)⟩) hHeld ?_
              simp only [Act.put, List.setIfInBounds_toArray, List.set_cons_zero, List.set_cons_succ]
              refine wpAnyH_tk (i := 3) (d := 33) (v := (.slice (some ⟨ob, oq, none⟩) out.length uc)) rfl rfl (by kernel_rfl) (by kernel_rfl) (by kernel_rfl) (fun _ _ _ h => h) (.inl ⟨by rfl, by (intro wq hSw; (try dsimp only at hSw); go_simp)⟩) hHeld ?_
              simp only [Act.put, List.setIfInBounds_toArray, List.set_cons_zero, List.set_cons_succ]
              refine wpAnyH_tk (i := 4) (d := 34) (v := (.int .i64 (q + 1 : Nat))) rfl rfl (by kernel_rfl) (by kernel_rfl) (by kernel_rfl) (fun _ _ _ h => h) (.inl ⟨by rfl, by (intro wq hSw; (try dsimp only at hSw); go_simp)⟩) hHeld ?_
              simp only [Act.put, List.setIfInBounds_toArray, List.set_cons_zero, List.set_cons_succ]
              refine wpAnyH_tk (i := 5) (d := 35) (v := (.int .i64 q)) rfl rfl (by kernel_rfl) (by kernel_rfl) (by kernel_rfl) (fun _ _ _ h => h) (.inl ⟨by rfl, by (intro wq hSw; (try dsimp only at hSw); go_simp)⟩) hHeld ?_
              simp only [Act.put, List.setIfInBounds_toArray, List.set_cons_zero, List.set_cons_succ]
              refine wpAnyH_tk (i := 6) (d := 36) (v := (.pointer (some ⟨ob, oq + q, none⟩))) rfl rfl (by kernel_rfl) (by kernel_rfl) (by kernel_rfl) (fun _ _ _ h => h) (.inl ⟨by rfl, by (intro wq hSw; (try dsimp only at hSw); go_simp)⟩) hHeld ?_
              simp only [Act.put, List.setIfInBounds_toArray, List.set_cons_zero, List.set_cons_succ]
              refine wpAnyH_tk (i := 7) (d := 37) (v := (.int .i64 y)) rfl rfl (by kernel_rfl) (by kernel_rfl) (by kernel_rfl) (fun _ _ _ h => h) (.inl ⟨by rfl, by (intro wq hSw; (try dsimp only at hSw); go_simp)⟩) hHeld ?_
              simp only [Act.put, List.setIfInBounds_toArray, List.set_cons_zero, List.set_cons_succ]
              refine wpAnyH_tk (i := 8) (d := 38) (v := (.slice (some ⟨lb, lq, none⟩) l.length lc)) rfl rfl (by kernel_rfl) (by kernel_rfl) (by kernel_rfl) (fun _ _ _ h => h) (.inl ⟨by rfl, by (intro wq hSw; (try dsimp only at hSw); go_simp)⟩) hHeld ?_
              simp only [Act.put, List.setIfInBounds_toArray, List.set_cons_zero, List.set_cons_succ]
              refine wpAnyH_tk (i := 9) (d := 39) (v := (.int .i64 k)) rfl rfl (by kernel_rfl) (by kernel_rfl) (by kernel_rfl) (fun _ _ _ h => h) (.inl ⟨by rfl, by (intro wq hSw; (try dsimp only at hSw); go_simp)⟩) hHeld ?_
              simp only [Act.put, List.setIfInBounds_toArray, List.set_cons_zero, List.set_cons_succ]
              refine wpAnyH_tk (i := 10) (d := 40) (v := (.pointer (some ⟨lb, lq + k, none⟩))) rfl rfl (by kernel_rfl) (by kernel_rfl) (by kernel_rfl) (fun _ _ _ h => h) (.inl ⟨by rfl, by (intro wq hSw; (try dsimp only at hSw); go_simp)⟩) hHeld ?_
              simp only [Act.put, List.setIfInBounds_toArray, List.set_cons_zero, List.set_cons_succ]
              refine wpAnyH_tk (i := 11) (d := 41) (v := (.int .i64 y)) rfl rfl (by kernel_rfl) (by kernel_rfl) (by kernel_rfl) (fun _ _ _ h => h) (.inl ⟨by rfl, by (intro wq hSw; (try dsimp only at hSw); go_simp)⟩) hHeld ?_
              simp only [Act.put, List.setIfInBounds_toArray, List.set_cons_zero, List.set_cons_succ]
              refine wpAnyH_tk (i := 12) (d := 42) (v := (.bool true)) rfl rfl (by kernel_rfl) (by kernel_rfl) (by kernel_rfl) (fun _ _ _ h => h) (.inl ⟨by rfl, by (intro wq hSw; (try dsimp only at hSw); go_simp)⟩) hHeld ?_
              simp only [Act.put, List.setIfInBounds_toArray, List.set_cons_zero, List.set_cons_succ]
              refine wpAnyH_tk (i := 13) (d := 43) (v := (.bool true)) rfl rfl (by kernel_rfl) (by kernel_rfl) (by kernel_rfl) (fun _ _ _ h => h) (.inl ⟨by rfl, by (intro wq hSw; (try dsimp only at hSw); go_simp)⟩) hHeld ?_
              simp only [Act.put, List.setIfInBounds_toArray, List.set_cons_zero, List.set_cons_succ]
              refine wpAnyH_done (by kernel_rfl) ?_ _
              clear hHeld
              go_wp2
              exact ⟨⟨k + 1, out, by omega, by go_num, HO3.out, HRS.out, HIN.out, by have := HOL.out; omega, HB3.out⟩, by simp [intOf]; omega⟩
            · have t3 : (y == x) = false := by rw [beq_eq_false_iff_ne]; exact hey
              have HLO : Hid (∀ j, j < q + 1 → out.getD j 0 < x) := fun j hj => by
                by_cases e : j = q
                · rw [e, ← HY.out]; omega
                · have := ris_get HRS.out (i := j) (j := q) (by omega) hql
                  rw [← HY.out] at this
                  omega
              go_wp2
              refine wp_region_held_drew (S := fun w' => w'.cell? ⟨lb, lq + k, none⟩ = some (.int .i64 x) ∧ w'.cell? ⟨ob, oq + q, none⟩ = some (.int .i64 y)) (by kernel_rfl) ⟨hcx2, hcy⟩ (fun hHeld => ?_)
              refine wpAnyH_tk (i := 0) (d := 30) (v := (.int .i64 (q + 1 : Nat))) rfl rfl (by kernel_rfl) (by kernel_rfl) (by kernel_rfl) (fun _ _ _ h => h) (.inl ⟨by rfl, by (intro wq hSw; (try dsimp only at hSw); go_simp)⟩) hHeld ?_
              simp only [Act.put, List.setIfInBounds_toArray, List.set_cons_zero, List.set_cons_succ]
              refine wpAnyH_tk (i := 1) (d := 31) (v := (.bool true)) rfl rfl (by kernel_rfl) (by kernel_rfl) (by kernel_rfl) (fun _ _ _ h => h) (.inl ⟨by rfl, by (intro wq hSw; (try dsimp only at hSw); go_simp)⟩) hHeld ?_
              simp only [Act.put, List.setIfInBounds_toArray, List.set_cons_zero, List.set_cons_succ]
              refine wpAnyH_tk (i := 2) (d := 32) (v := (.bool true)) rfl rfl (by kernel_rfl) (by kernel_rfl) (by kernel_rfl) (fun _ _ _ h => h) (.inl ⟨by rfl, by (intro wq hSw; (try dsimp only at hSw); go_simp)⟩) hHeld ?_
              simp only [Act.put, List.setIfInBounds_toArray, List.set_cons_zero, List.set_cons_succ]
              refine wpAnyH_tk (i := 3) (d := 33) (v := (.slice (some ⟨ob, oq, none⟩) out.length uc)) rfl rfl (by kernel_rfl) (by kernel_rfl) (by kernel_rfl) (fun _ _ _ h => h) (.inl ⟨by rfl, by (intro wq hSw; (try dsimp only at hSw); go_simp)⟩) hHeld ?_
              simp only [Act.put, List.setIfInBounds_toArray, List.set_cons_zero, List.set_cons_succ]
              refine wpAnyH_tk (i := 4) (d := 34) (v := (.int .i64 (q + 1 : Nat))) rfl rfl (by kernel_rfl) (by kernel_rfl) (by kernel_rfl) (fun _ _ _ h => h) (.inl ⟨by rfl, by (intro wq hSw; (try dsimp only at hSw); go_simp)⟩) hHeld ?_
              simp only [Act.put, List.setIfInBounds_toArray, List.set_cons_zero, List.set_cons_succ]
              refine wpAnyH_tk (i := 5) (d := 35) (v := (.int .i64 q)) rfl rfl (by kernel_rfl) (by kernel_rfl) (by kernel_rfl) (fun _ _ _ h => h) (.inl ⟨by rfl, by (intro wq hSw; (try dsimp only at hSw); go_simp)⟩) hHeld ?_
              simp only [Act.put, List.setIfInBounds_toArray, List.set_cons_zero, List.set_cons_succ]
              refine wpAnyH_tk (i := 6) (d := 36) (v := (.pointer (some ⟨ob, oq + q, none⟩))) rfl rfl (by kernel_rfl) (by kernel_rfl) (by kernel_rfl) (fun _ _ _ h => h) (.inl ⟨by rfl, by (intro wq hSw; (try dsimp only at hSw); go_simp)⟩) hHeld ?_
              simp only [Act.put, List.setIfInBounds_toArray, List.set_cons_zero, List.set_cons_succ]
              refine wpAnyH_tk (i := 7) (d := 37) (v := (.int .i64 y)) rfl rfl (by kernel_rfl) (by kernel_rfl) (by kernel_rfl) (fun _ _ _ h => h) (.inl ⟨by rfl, by (intro wq hSw; (try dsimp only at hSw); go_simp)⟩) hHeld ?_
              simp only [Act.put, List.setIfInBounds_toArray, List.set_cons_zero, List.set_cons_succ]
              refine wpAnyH_tk (i := 8) (d := 38) (v := (.slice (some ⟨lb, lq, none⟩) l.length lc)) rfl rfl (by kernel_rfl) (by kernel_rfl) (by kernel_rfl) (fun _ _ _ h => h) (.inl ⟨by rfl, by (intro wq hSw; (try dsimp only at hSw); go_simp)⟩) hHeld ?_
              simp only [Act.put, List.setIfInBounds_toArray, List.set_cons_zero, List.set_cons_succ]
              refine wpAnyH_tk (i := 9) (d := 39) (v := (.int .i64 k)) rfl rfl (by kernel_rfl) (by kernel_rfl) (by kernel_rfl) (fun _ _ _ h => h) (.inl ⟨by rfl, by (intro wq hSw; (try dsimp only at hSw); go_simp)⟩) hHeld ?_
              simp only [Act.put, List.setIfInBounds_toArray, List.set_cons_zero, List.set_cons_succ]
              refine wpAnyH_tk (i := 10) (d := 40) (v := (.pointer (some ⟨lb, lq + k, none⟩))) rfl rfl (by kernel_rfl) (by kernel_rfl) (by kernel_rfl) (fun _ _ _ h => h) (.inl ⟨by rfl, by (intro wq hSw; (try dsimp only at hSw); go_simp)⟩) hHeld ?_
              simp only [Act.put, List.setIfInBounds_toArray, List.set_cons_zero, List.set_cons_succ]
              refine wpAnyH_tk (i := 11) (d := 41) (v := (.int .i64 x)) rfl rfl (by kernel_rfl) (by kernel_rfl) (by kernel_rfl) (fun _ _ _ h => h) (.inl ⟨by rfl, by (intro wq hSw; (try dsimp only at hSw); go_simp)⟩) hHeld ?_
              simp only [Act.put, List.setIfInBounds_toArray, List.set_cons_zero, List.set_cons_succ]
              refine wpAnyH_tk (i := 12) (d := 42) (v := (.bool false)) rfl rfl (by kernel_rfl) (by kernel_rfl) (by kernel_rfl) (fun _ _ _ h => h) (.inl ⟨by rfl, by (intro wq hSw; (try dsimp only at hSw); go_simp)⟩) hHeld ?_
              simp only [Act.put, List.setIfInBounds_toArray, List.set_cons_zero, List.set_cons_succ]
              refine wpAnyH_tk (i := 13) (d := 43) (v := (.bool false)) rfl rfl (by kernel_rfl) (by kernel_rfl) (by kernel_rfl) (fun _ _ _ h => h) (.inl ⟨by rfl, by (intro wq hSw; (try dsimp only at hSw); go_simp)⟩) hHeld ?_
              simp only [Act.put, List.setIfInBounds_toArray, List.set_cons_zero, List.set_cons_succ]
              refine wpAnyH_done (by kernel_rfl) ?_ _
              clear hHeld hcy
              have HO3 : Hid (WD.drew.drew.ownsRow w.heap.size 3 1 (.slice (some ⟨ob, oq, none⟩) out.length uc) out.length (ints out)) := ⟨HO2.out.1, HO2.out.2⟩
              have HB3 : Hid (Below w.heap.size w WD.drew.drew) := ⟨HB2.out.os, HB2.out.tape, HB2.out.output, HB2.out.size, HB2.out.block⟩
              obtain ⟨W9, hW9⟩ : ∃ W9, W9 = WD.drew.drew := ⟨_, rfl⟩
              rw [← hW9] at HO3 HB3 ⊢
              clear hW9 HO2 HB2 HO HB HWD hcx2
              have hsz9 : w.heap.size ≤ W9.heap.size := HB3.out.size
              have hol9 : out.length ≤ 1000 := by have := HOL.out; omega
              have hpl9 : (q + 1) ≤ out.length := by omega
              go_wp2_with (first | (at_builtin; refine wpList_append_own _ rfl _ _ 26 rfl w.heap.size 3 i3 (.int .i64 0) 1 8 Try.underlying26 hi3 hz30 hz31 hz32 rfl (by decide) _ _ _ rfl (HO3.out.alloc _) ⟨W9.heap.size, 0, none⟩ 1 1 [.int .i64 0] rfl rfl (one_new _ _ _) (one_int _) ?c3 ?c4 ?c5 ?_))
              case c3 => unfold maxLen; omega
              case c4 => omega
              case c5 => first | exact hsz9 | omega | (simp; omega)
              intro v' w3 ho3 hg3 _
              have HB4 : Hid (Below w.heap.size w w3) := (HB3.out.alloc hsz9 _).grown hg3 (by simp; omega) (fun x hx => (HO3.out.lt x hx).1)
              obtain ⟨g, gc, cur, hvv, hBg, hgh, hgc1, hgc2, hcs, htk⟩ : ∃ g cap cur, v' = .slice (some ⟨g, 0, none⟩) (out.length + 1) cap ∧ w.heap.size ≤ g ∧ w3.heap[g]? = some (.cells cur 3 (0, 0)) ∧ out.length + 1 ≤ cap ∧ cap ≤ maxLen ∧ cur.size = cap ∧ cur.toList.take (out.length + 1) = ints (out ++ [0]) := by
                rcases ho3.2 with ⟨_, h0⟩ | ⟨g, cap, cur, h1, h2, h3, h4, h5, h6, h7⟩
                · omega
                · exact ⟨g, cap, cur, h1, h2, h3, h4, h5, by simpa using h6, by rw [Nat.mul_one] at h7; rw [h7]; simp [ints]⟩
              subst hvv
              have HCE : Hid (∀ i, i < out.length → w3.cell? ⟨g, i, none⟩ = some (.int .i64 (out.getD i 0))) := fun i hi => by
                have h1 := ho3.cellAt i (by simp; omega)
                rw [List.getElem?_append_left (by simp; exact hi), ints_get _ _ hi] at h1
                exact h1
              have HGH : Hid (w3.heap[g]? = some (.cells cur.toList.toArray 3 (0, 0))) := hgh
              have HTC : Hid (cur.toList.take (out.length + 1) = ints (out ++ [0])) := htk
              have hcl : cur.toList.length = gc := by simp [hcs]
              have HCL : Hid (cur.toList.length = gc) := hcl
              have hr1 : ∀ w : World, (Instr.slice 26 (.slice (some ⟨g, 0, none⟩) (out.length + 1) gc) (some (.int .i64 ((q : Int) + 1 + 1))) none none).run Try.prog w = .ok (.slice (tailI g gc (q + 1)) (out.length + 1 - ((q + 1) + 1)) (gc - ((q + 1) + 1))) w := fun w => by
                have h := run_tailI (b := g) (n := out.length + 1) (c := gc) (k := (q + 1)) (by omega) w
                rw [show ((((q + 1) : Nat) : Int) + 1) = ((q : Int) + 1 + 1) by omega] at h
                exact h
              have hr0 : ∀ w : World, (Instr.slice 26 (.slice (some ⟨g, 0, none⟩) (out.length + 1) gc) (some (.int .i64 ((q : Int) + 1))) none none).run Try.prog w = .ok (.slice (some ⟨g, (q + 1), none⟩) (out.length + 1 - (q + 1)) (gc - (q + 1))) w := fun w => by
                have h := run_fromI (b := g) (n := out.length + 1) (c := gc) (k := (q + 1)) (by omega) hgc1 w
                rw [show (((q + 1) : Nat) : Int) = ((q : Int) + 1) by omega] at h
                exact h
              have HCP : Hid (∀ (o : Oper) (a : Act) (K : Act → World → Prop) (Q : Exit → Act → World → Prop), o.guard = none → o.op = .call { callee := .builtin .copy, args := #[.tmp 50, .tmp 53], argTypes := #[26, 26] } → a.eval (.tmp 50) = .slice (tailI g gc (q + 1)) (out.length + 1 - ((q + 1) + 1)) (gc - ((q + 1) + 1)) → a.eval (.tmp 53) = .slice (some ⟨g, (q + 1), none⟩) (out.length + 1 - (q + 1)) (gc - (q + 1)) → (∀ w', Hid (w'.heap[g]? = some (.cells (splice cur.toList ((q + 1) + 1) (ints (out.drop (q + 1)))).toArray 3 (0, 0))) → Below w.heap.size w w' → K (a.put o.dst (goInt (ints (out.drop (q + 1))).length)) w') → Oper.wp Try.prog o a w3.drew K Q) := fun o a K Q k1 k2 k3 k4 k5 => by
                refine copy_wp k1 (.tmp 50) (.tmp 53) 26 26 k2 3 Try.underlying26 (by rw [hi3]; simp [hz31]) _ _ _ _ _ _ k3 k4 g ((q + 1) + 1) cur.toList 3 HGH.out (ints (out.drop (q + 1))) (by rw [ints_length, List.length_drop]; show _ = min _ _; omega) (fun h0 => ⟨?_, ⟨g, (q + 1), none⟩, rfl, fun j u hj => ?_⟩) (by rw [ints_length, List.length_drop, hcl]; omega) (ints_oneCell' _) w.heap.size w ⟨HB4.out.os, HB4.out.tape, HB4.out.output, HB4.out.size, HB4.out.block⟩ hBg k5
                · rw [ints_length, List.length_drop] at h0
                  unfold tailI
                  rw [if_neg (by omega)]
                · have hjl : j < (out.drop (q + 1)).length := by
                    have := (List.getElem?_eq_some_iff.1 hj).1
                    rw [ints_length] at this
                    exact this
                  rw [ints_get _ _ hjl] at hj
                  rw [List.length_drop] at hjl
                  have h9 := HCE.out ((q + 1) + j) (by omega)
                  have e9 : (out.drop (q + 1)).getD j 0 = out.getD ((q + 1) + j) 0 := by simp [List.getD_eq_getElem?_getD]
                  rw [e9] at hj
                  rw [← Option.some.inj hj, show (⟨g, (q + 1), none⟩ : Addr).add j = ⟨g, (q + 1) + j, none⟩ by first | (simp [Addr.add]; done) | (simp [Addr.add]; intro h; omega)]
                  exact h9
              have w1 : IntKind.i64.wrap ((q : Int) + 1 + 1) = ((q : Int) + 1 + 1) := by
                rw [show (((q : Int) + 1 + 1) : Int) = (((q + 1) + 1 : Nat) : Int) by omega]
                exact wrap_smallP (by omega)
              have HPL : Hid ((q + 1) ≤ out.length ∧ out.length + 1 ≤ gc ∧ gc ≤ maxLen) := ⟨hpl9, hgc1, hgc2⟩
              clear ho3 hg3 hgh htk hgc2 hcs hcl
              go_wp2
              refine wp_region_held_drew (S := fun _ => True) (by kernel_rfl) trivial (fun hHeld => ?_)
              refine wpAnyH_tk (i := 0) (d := 47) (v := (.slice (some ⟨g, 0, none⟩) (out.length + 1) gc)) rfl rfl (by kernel_rfl) (by kernel_rfl) (by kernel_rfl) (fun _ _ _ h => h) (.inl ⟨by rfl, by (intro wq hSw; (try dsimp only at hSw); go_simp)⟩) hHeld ?_
              simp only [Act.put, List.setIfInBounds_toArray, List.set_cons_zero, List.set_cons_succ]
              refine wpAnyH_tk (i := 1) (d := 48) (v := (.int .i64 ((q : Int) + 1))) rfl rfl (by kernel_rfl) (by kernel_rfl) (by kernel_rfl) (fun _ _ _ h => h) (.inl ⟨by rfl, by (intro wq hSw; (try dsimp only at hSw); go_simp)⟩) hHeld ?_
              simp only [Act.put, List.setIfInBounds_toArray, List.set_cons_zero, List.set_cons_succ]
              refine wpAnyH_tk (i := 2) (d := 49) (v := (.int .i64 ((q : Int) + 1 + 1))) rfl rfl (by kernel_rfl) (by kernel_rfl) (by kernel_rfl) (fun _ _ _ h => h) (.inl ⟨by rfl, by (intro wq hSw; (try dsimp only at hSw); go_simp)⟩) hHeld ?_
              simp only [Act.put, List.setIfInBounds_toArray, List.set_cons_zero, List.set_cons_succ]
              refine wpAnyH_tk (i := 3) (d := 50) (v := (.slice (tailI g gc (q + 1)) (out.length + 1 - ((q + 1) + 1)) (gc - ((q + 1) + 1)))) rfl rfl (by kernel_rfl) (by kernel_rfl) (by kernel_rfl) (fun _ _ _ h => h) (.inl ⟨by rfl, by (intro wq hSw; (try dsimp only at hSw); go_simp)⟩) hHeld ?_
              simp only [Act.put, List.setIfInBounds_toArray, List.set_cons_zero, List.set_cons_succ]
              refine wpAnyH_tk (i := 4) (d := 51) (v := (.slice (some ⟨g, 0, none⟩) (out.length + 1) gc)) rfl rfl (by kernel_rfl) (by kernel_rfl) (by kernel_rfl) (fun _ _ _ h => h) (.inl ⟨by rfl, by (intro wq hSw; (try dsimp only at hSw); go_simp)⟩) hHeld ?_
              simp only [Act.put, List.setIfInBounds_toArray, List.set_cons_zero, List.set_cons_succ]
              refine wpAnyH_tk (i := 5) (d := 52) (v := (.int .i64 ((q : Int) + 1))) rfl rfl (by kernel_rfl) (by kernel_rfl) (by kernel_rfl) (fun _ _ _ h => h) (.inl ⟨by rfl, by (intro wq hSw; (try dsimp only at hSw); go_simp)⟩) hHeld ?_
              simp only [Act.put, List.setIfInBounds_toArray, List.set_cons_zero, List.set_cons_succ]
              refine wpAnyH_tk (i := 6) (d := 53) (v := (.slice (some ⟨g, (q + 1), none⟩) (out.length + 1 - (q + 1)) (gc - (q + 1)))) rfl rfl (by kernel_rfl) (by kernel_rfl) (by kernel_rfl) (fun _ _ _ h => h) (.inl ⟨by rfl, by (intro wq hSw; (try dsimp only at hSw); go_simp)⟩) hHeld ?_
              simp only [Act.put, List.setIfInBounds_toArray, List.set_cons_zero, List.set_cons_succ]
              refine wpAnyH_ready (rs := [7]) (by kernel_rfl) (by simp) ?_
              refine ready_tk (i := 7) rfl (by rfl) (fun K hK => ?_) AllReadyH.nil
              refine HCP.out _ _ _ _ rfl rfl rfl rfl ?_
              intro w4 hg4 hb4
              refine hK.out _ _ trivial (fun hHeld => ?_)
              clear hK K
              refine wpAnyH_done (by kernel_rfl) ?_ _
              clear hHeld hr1 hr0 w1
              simp only [Act.put, List.setIfInBounds_toArray, List.set_cons_zero, List.set_cons_succ]
              have HB5 : Hid (Below w.heap.size w w4) := hb4
              obtain ⟨lb', lq', _, hs, _, hcx4⟩ := sl_cell (HV.out w4 hb4) hlt
              simp only [Value.slice.injEq, Option.some.injEq, Addr.mk.injEq, and_true] at hs
              obtain ⟨⟨rfl, rfl⟩, -, -⟩ := hs
              rw [← HXV.out] at hcx4
              have hsl4 : (q + 1) < (splice cur.toList ((q + 1) + 1) (ints (out.drop (q + 1)))).length := by
                rw [length_splice _ _ _ (by rw [ints_length, List.length_drop, HCL.out]; omega), HCL.out]
                omega
              have hpc : w4.cell? ⟨g, (q + 1), none⟩ = some ((splice cur.toList ((q + 1) + 1) (ints (out.drop (q + 1))))[(q + 1)]) := by
                have h1 := hg4.out
                first | (simp [World.cell?, h1]; done) | simp [World.cell?, h1, hsl4]
              have hpf : w4.frozen? ⟨g, (q + 1), none⟩ = false := by
                have h1 := hg4.out
                simp [World.frozen?, h1]
              have HRO : Hid ((w4.setCell ⟨g, (q + 1), none⟩ (.int .i64 x)).ownsRow w.heap.size 3 1 (.slice (some ⟨g, 0, none⟩) (out.length + 1) gc) (out.length + 1) (ints (out.take (q + 1) ++ x :: out.drop (q + 1)))) := by
                refine ⟨by first | (simp; done) | (simp; omega), .inr ⟨g, gc, ((splice cur.toList ((q + 1) + 1) (ints (out.drop (q + 1)))).set (q + 1) (.int .i64 x)).toArray, rfl, hBg, ?_, HPL.out.2.1, HPL.out.2.2, ?_, ?_⟩⟩
                · have h1 := hg4.out
                  simp [World.setCell, Array.getElem?_modify, h1]
                · simp only [List.size_toArray, List.length_set]
                  rw [length_splice _ _ _ (by rw [ints_length, List.length_drop, HCL.out]; omega), HCL.out, Nat.mul_one]
                · rw [Nat.mul_one]
                  exact ins_cells hpl9 HTC.out
              have HRL : Hid ((out.take (q + 1) ++ x :: out.drop (q + 1)).length = out.length + 1) := by
                show _ = _
                simp only [List.length_append, List.length_take, List.length_cons, List.length_drop]
                omega
              have HRB : Hid (Below w.heap.size w (w4.setCell ⟨g, (q + 1), none⟩ (.int .i64 x))) := ⟨HB5.out.os, HB5.out.tape, HB5.out.output, by simp only [World.setCell, Array.size_modify]; exact HB5.out.size, fun b hb => (Below.heap_setCell _ _ _ _ (by show b ≠ g; omega)).trans (HB5.out.block b hb)⟩
              have HRR : Hid (Ris (out.take (q + 1) ++ x :: out.drop (q + 1))) := ins_ris HRS.out HLO.out HHI.out hpl9
              have HRM : Hid (∀ z, z ∈ out.take (q + 1) ++ x :: out.drop (q + 1) ↔ z ∈ l.take (k + 1)) := fun z => by
                rw [HTK.out, List.mem_append, List.mem_append, List.mem_cons, List.mem_singleton, ← HME.out z]
                have : z ∈ out ↔ z ∈ out.take (q + 1) ∨ z ∈ out.drop (q + 1) := by
                  rw [← List.mem_append, List.take_append_drop]
                rw [this]
                constructor
                · rintro (h | h | h)
                  · exact .inl (.inl h)
                  · exact .inr h
                  · exact .inl (.inr h)
                · rintro ((h | h) | h)
                  · exact .inl h
                  · exact .inr (.inr h)
                  · exact .inr (.inl h)
              have pI : ((q : Int) + 1) < (out.length : Int) + 1 := by omega
              have pI0 : (0 : Int) ≤ ((q : Int) + 1) := by omega
              generalize (splice cur.toList ((q + 1) + 1) (ints (out.drop (q + 1))))[(q + 1)] = zz at hpc
              clear hb4 hsl4 hg4
              go_wp2
              exact ⟨⟨k + 1, _, by omega, by go_num, by rw [HRL.out]; exact HRO.out, HRR.out, HRM.out, by rw [HRL.out]; have := HOL.out; omega, HRB.out⟩, by simp [intOf]; omega⟩
    · have hke : k = l.length := by omega
      subst hke
      go_wp2
      go_ret
      exact ⟨_, out, rfl, HO.out, HRS.out, fun x => by rw [HME.out x, List.take_length], HOL.out, HB.out⟩

end Go.Proofs.Ytkgljfnbaoncbaa
