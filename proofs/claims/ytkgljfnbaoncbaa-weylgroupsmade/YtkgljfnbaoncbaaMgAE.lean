import Derived.Test.YtkgljfnbaoncbaaWy9
import Derived.Test.YtkgljfnbaoncbaaMgAC
import Derived.Laws.CopyOwn
/- root.checkPair, root.checked, root.Check: of a good matrix. -/
namespace Go.Proofs.Ytkgljfnbaoncbaa
open Go.RowKit
attribute [local go_sem ↓] Go.wp_at_zero Go.wp_at_succ

structure Gdc (n : Nat) (c : List (List Int)) : Prop where
  sq : Sqc n c
  n1 : 1 ≤ n
  dia : ∀ i, i < n → cE c i i = 2
  off : ∀ i j, i < n → j < n → i ≠ j → (-3 ≤ cE c i j ∧ cE c i j ≤ 0) ∧ (cE c i j = 0 ↔ cE c j i = 0)
  many : (abL c).length ≤ 24
  bd : ∀ b ∈ abL c, b.length = n ∧ ∀ k, -1000 ≤ b.getD k 0 ∧ b.getD k 0 ≤ 1000

def CPz (v a z : Int) : Prop := (-3 ≤ v ∧ v ≤ 0) ∧ (v = 0 ↔ a = 0) → z = 0

set_option maxRecDepth 100000 in
theorem checkPair_any (v a : Int) (w : World) :
    Calls Try.prog 55 #[.int .i64 v, .int .i64 a] w fun e w' => (∃ z, e = .returned (.int .i64 z) ∧ CPz v a z) ∧ w' = w := by
  by_cases h1 : v < -3
  · go_enter Try.func55, Try.ntmps55
    go_wp2
    go_ret
    exact ⟨⟨_, rfl, fun h => by obtain ⟨_, _⟩ := h; omega⟩, rfl⟩
  · by_cases h2 : 0 < v
    · go_enter Try.func55, Try.ntmps55
      go_wp2
      go_ret
      exact ⟨⟨_, rfl, fun h => by obtain ⟨_, _⟩ := h; omega⟩, rfl⟩
    · by_cases h3 : v = 0
      · subst h3
        by_cases h4 : a = 0
        · subst h4
          go_enter Try.func55, Try.ntmps55
          go_wp2
          go_ret
          exact ⟨⟨_, rfl, fun h => rfl⟩, rfl⟩
        · have b2 : (a == 0) = false := by simpa using h4
          go_enter Try.func55, Try.ntmps55
          go_wp2
          go_ret
          exact ⟨⟨_, rfl, fun h => by obtain ⟨_, _⟩ := h; omega⟩, rfl⟩
      · have b1 : (v == 0) = false := by simpa using h3
        by_cases h4 : a = 0
        · subst h4
          go_enter Try.func55, Try.ntmps55
          go_wp2
          go_ret
          exact ⟨⟨_, rfl, fun h => by obtain ⟨_, _⟩ := h; omega⟩, rfl⟩
        · have b2 : (a == 0) = false := by simpa using h4
          go_enter Try.func55, Try.ntmps55
          go_wp2
          go_ret
          exact ⟨⟨_, rfl, fun h => rfl⟩, rfl⟩

/-- One entry, as it lies. -/
theorem ent_cell {n : Nat} {c : List (List Int)} {B : Nat} {w : World} {ao : Option Addr} {cap : Nat} (hc : Sqc n c) (hm : Mat B 26 3 w (.slice ao n cap) c) {i : Nat} (hi : i < n) :
    ∃ b o b3 o3 cp3, ao = some ⟨b, o, none⟩ ∧ w.cell? ⟨b, o + i, none⟩ = some (.slice (some ⟨b3, o3, none⟩) n cp3) ∧ ∀ j, j < n → w.cell? ⟨b3, o3 + j, none⟩ = some (.int .i64 (cE c i j)) := by
  have hcl := hc.len
  obtain ⟨b, o, cp, r1, hs, _, hc1, hr⟩ := mat_cell hm (k := i) (by omega)
  simp only [Value.slice.injEq] at hs
  obtain ⟨rfl, _, rfl⟩ := hs
  have hrl : (c.getD i []).length = n := hc.row _ (by simp [hcl, hi])
  obtain ⟨b3, o3, cp3, hs3, _, _⟩ := sl_cell hr (k := 0) (by omega)
  subst hs3
  rw [hrl] at hc1
  refine ⟨b, o, b3, o3, cp3, rfl, hc1, fun j hj => ?_⟩
  obtain ⟨b4, o4, cp4, hs4, _, h4⟩ := sl_cell hr (k := j) (by omega)
  simp only [Value.slice.injEq, Option.some.injEq, Addr.mk.injEq, and_true, true_and] at hs4
  obtain ⟨⟨rfl, rfl⟩, rfl⟩ := hs4
  exact h4

set_option maxRecDepth 100000 in
set_option maxHeartbeats 3200000 in
theorem checkedR_any (n : Nat) (c : List (List Int)) (cv : Value) (w : World) (hg : Gdc n c) (hm : Mat w.heap.size 26 3 w cv c) :
    Calls Try.prog 44 #[cv] w fun e w' => ∃ u, e = .returned (.tuple #[u, .int .i64 0]) ∧ Fr w.heap.size 26 3 w' u (abL c) ∧ Below w.heap.size w w' := by
  obtain ⟨ao, cap, hvv, hlc, hcm⟩ := mat_open hm
  subst hvv
  have hn4 := hg.sq.n4
  have hn1 := hg.n1
  have HCL : Hid (c.length = n) := hg.sq.len
  have HAB : Hid (Calls Try.prog 56 #[.slice ao c.length cap] w fun e w' => ∃ u, e = .returned u ∧ Fr w.heap.size 26 3 w' u (abL c) ∧ Below w.heap.size w w') := above_any n c _ w hg.sq hn1 hm hg.bd
  have HMN : Hid ((abL c).length ≤ 24) := hg.many
  have HG : Hid (Gdc n c) := hg
  rw [HCL.out] at hm HAB
  have HM : Hid (Mat w.heap.size 26 3 w (.slice ao n cap) c) := hm
  rw [HCL.out]
  have nI1 : ¬ (n : Int) < 1 := by omega
  have nI4 : ¬ (4 : Int) < (n : Int) := by omega
  clear hg hm hlc
  go_enter Try.func44, Try.ntmps44
  go_wp2
  go_loopw [4, 5, 22] (fun _ _ iv wr => ∃ i : Nat, i ≤ n ∧ iv = .int .i64 i ∧ wr = w) (fun _ _ iv _ => n - (intOf iv).toNat)
  case atStart => exact ⟨0, Nat.zero_le _, rfl, rfl⟩
  case round =>
    obtain ⟨i, hi, rfl, hwr⟩ := hrel
    subst hwr
    by_cases hlt : i < n
    · obtain ⟨b, o, b3, o3, cp3, hao, hc1, hc2⟩ := ent_cell HG.out.sq HM.out hlt
      subst hao
      have hc3 := hc2 i hlt
      rw [HG.out.dia i hlt] at hc3
      clear hc2
      go_wp2
      go_roundw
      case rel => exact ⟨i + 1, by omega, by go_num, by trivial⟩
      case measure => simp [intOf]; omega
    · have hie : i = n := by omega
      subst hie
      clear hlt hi
      go_wp2
      go_loopw [6, 7, 8, 9, 10, 42] (fun _ _ _ _ _ iv wq => ∃ i' : Nat, i' ≤ i ∧ iv = .int .i64 i' ∧ wq = wr) (fun _ _ _ _ _ iv _ => i - (intOf iv).toNat)
      case atStart => exact ⟨0, Nat.zero_le _, rfl, rfl⟩
      case round =>
        obtain ⟨p, hp, rfl, hwr⟩ := hrel
        subst hwr
        by_cases hlt : p < i
        · obtain ⟨b, o, b3, o3, cp3, hao, hc1, hc2⟩ := ent_cell HG.out.sq HM.out hlt
          subst hao
          have HC2 : Hid (∀ j, j < i → wr.cell? ⟨b3, o3 + j, none⟩ = some (.int .i64 (cE c p j))) := hc2
          clear hc2
          go_wp2
          go_loopw [8, 9, 10, 49] (fun _ _ _ jv wq => ∃ j : Nat, j ≤ i ∧ jv = .int .i64 j ∧ wq = wr) (fun _ _ _ jv _ => i - (intOf jv).toNat)
          case atStart => exact ⟨0, Nat.zero_le _, rfl, rfl⟩
          case round =>
            obtain ⟨j, hj, rfl, hwr⟩ := hrel
            subst hwr
            by_cases hltj : j < i
            · have hc3 := HC2.out j hltj
              obtain ⟨b', o', b4, o4, cp4, hao, hc4, hc5⟩ := ent_cell HG.out.sq HM.out hltj
              simp only [Option.some.injEq, Addr.mk.injEq, and_true] at hao
              obtain ⟨rfl, rfl⟩ := hao
              have hc6 := hc5 p hlt
              clear hc5
              have HGD : Hid (p ≠ j → (-3 ≤ cE c p j ∧ cE c p j ≤ 0) ∧ (cE c p j = 0 ↔ cE c j p = 0)) := HG.out.off p j hlt hltj
              have HCP := checkPair_any (cE c p j) (cE c j p) wr
              generalize cE c p j = x at *
              generalize cE c j p = y at *
              go_wp2_with fail
              refine HCP.mono ?_
              rintro e w' ⟨⟨z, rfl, hz⟩, hw'⟩
              subst hw'
              by_cases hpj : p = j
              · subst hpj
                go_wp2
                go_roundw
                case rel => exact ⟨p + 1, by omega, by go_num, by trivial⟩
                case measure => simp [intOf]; omega
              · have hz0 : z = 0 := hz (HGD.out hpj)
                subst hz0
                have hpI : ¬ ((p : Int) = (j : Int)) := by omega
                have hpB : ((p : Int) == (j : Int)) = false := by simpa using hpI
                go_wp2
                go_roundw
                case rel => exact ⟨j + 1, by omega, by go_num, by trivial⟩
                case measure => simp [intOf]; omega
            · have hje : j = i := by omega
              subst hje
              go_wp2
              go_roundw
              case rel => exact ⟨p + 1, by omega, by go_num, by trivial⟩
              case measure => simp [intOf]; omega
        · have hpe : p = i := by omega
          subst hpe
          go_wp2_with fail
          refine HAB.out.mono ?_
          rintro e w' ⟨u, rfl, hf, hb⟩
          obtain ⟨xo, xc, hxv⟩ : ∃ xo xc, u = .slice xo (abL c).length xc := by
            obtain ⟨vs, g1, g2, g3⟩ := hf
            exact owns_form g2
          subst hxv
          have HF : Hid (Fr wr.heap.size 26 3 w' (.slice xo (abL c).length xc) (abL c)) := hf
          have HBW : Hid (Below wr.heap.size wr w') := hb
          have hmn := HMN.out
          clear hf hb HAB HMN
          generalize hA : abL c = A at *
          have hmI : ¬ (24 : Int) < (A.length : Int) := by omega
          go_wp2
          go_ret2
          exact ⟨_, rfl, by rw [hA]; exact HF.out, HBW.out⟩

set_option maxRecDepth 100000 in
theorem checkR_any (n : Nat) (c : List (List Int)) (cv : Value) (w : World) (hg : Gdc n c) (hm : Mat w.heap.size 26 3 w cv c) :
    Calls Try.prog 27 #[cv] w fun e w' => e = .returned (.int .i64 0) ∧ Below w.heap.size w w' := by
  have HC : Hid (Calls Try.prog 44 #[cv] w fun e w' => ∃ u, e = .returned (.tuple #[u, .int .i64 0]) ∧ Fr w.heap.size 26 3 w' u (abL c) ∧ Below w.heap.size w w') := checkedR_any n c cv w hg hm
  obtain ⟨ao, cap, hvv, hlc, hcm⟩ := mat_open hm
  subst hvv
  clear hg hm hlc
  go_enter Try.func27, Try.ntmps27
  go_wp2_with fail
  refine HC.out.mono ?_
  rintro e w' ⟨u, rfl, _, hb⟩
  have HB : Hid (Below w.heap.size w w') := hb
  clear hb
  go_wp2
  go_ret
  exact ⟨rfl, HB.out⟩

end Go.Proofs.Ytkgljfnbaoncbaa

/- math/bits.Mul of 1 and a small number; slices.Repeat of one number. -/
namespace Go.Proofs.Ytkgljfnbaoncbaa
open Go.RowKit
attribute [local go_sem ↓] Go.wp_at_zero Go.wp_at_succ

set_option maxRecDepth 100000 in
theorem mul64_any (n : Nat) (w : World) (h : n = 1 ∨ n = 2 ∨ n = 3 ∨ n = 4) :
    Calls Try.prog 63 #[.int .u64 1, .int .u64 n] w fun e w' => e = .returned (.tuple #[.int .u64 0, .int .u64 n]) ∧ w' = w := by
  rcases h with rfl | rfl | rfl | rfl
  all_goals
    go_enter Try.func63, Try.ntmps63
    go_wp2
    go_ret2
    exact ⟨by first | rfl | decide +kernel, rfl⟩

set_option maxRecDepth 100000 in
theorem mul_any (n : Nat) (w : World) (h : n = 1 ∨ n = 2 ∨ n = 3 ∨ n = 4) :
    Calls Try.prog 51 #[.int .u64 1, .int .u64 n] w fun e w' => e = .returned (.tuple #[.int .u64 0, .int .u64 n]) ∧ w' = w := by
  have HM : Hid (Calls Try.prog 63 #[.int .u64 1, .int .u64 n] w fun e w' => e = .returned (.tuple #[.int .u64 0, .int .u64 n]) ∧ w' = w) := mul64_any n w h
  clear h
  go_enter Try.func51, Try.ntmps51
  go_wp2_with fail
  refine HM.out.mono ?_
  rintro e w' ⟨rfl, rfl⟩
  go_wp2
  go_ret2
  exact ⟨rfl, rfl⟩

theorem copy_wpR {P : Program} {o : Oper} {a : Act} {w : World} {K : Act → World → Prop} {Q : Exit → Act → World → Prop} (hgd : o.guard = none) (d s : Operand) (dT sT : TypeId)
    (ho : o.op = .call { callee := .builtin .copy, args := #[d, s], argTypes := #[dT, sT] }) (elem : TypeId) (hu : P.underlying dT = some (.slice elem)) (hsz : (P.info? elem).map (·.size) = some 1)
    (dp sp : Option Addr) (dLen dCap sLen sCap : Nat) (hd : a.eval d = .slice dp dLen dCap) (hs : a.eval s = .slice sp sLen sCap)
    (g off : Nat) (cur : List Value) (t : TypeId) (hg : w.heap[g]? = some (.cells cur.toArray t (0, 0))) (cs : List Value) (hn : cs.length = Nat.min sLen dLen)
    (hpos : 0 < cs.length → dp = some ⟨g, off, none⟩ ∧ ∃ ad, sp = some ad ∧ ∀ j v, cs[j]? = some v → w.cell? (ad.add j) = some v)
    (hfit : off + cs.length ≤ cur.length) (h1 : ∀ v ∈ cs, v.oneCell' = true) (B : Nat) (w0 : World) (hb : Below B w0 w) (hBg : B ≤ g)
    (h : ∀ w', Hid (w'.heap[g]? = some (.cells (splice cur off cs).toArray t (0, 0))) → Below B w0 w' → K (a.put o.dst (goInt cs.length)) w') : Oper.wp P o a w K Q := by
  have k := step_copy_splice (ops := #[]) (E := False) (Q := Q) hgd d s dT sT ho elem hu hsz dp sp dLen dCap sLen sCap hd hs g off cur t hg cs hn hpos hfit h1 B w0 hb hBg h
  rw [if_pos (by simp [Region.wanted, hgd])] at k
  exact k

theorem run_fromR {b n k : Nat} (h1 : k < n) (w : World) : (Instr.slice 26 (.slice (some ⟨b, 0, none⟩) n n) (some (.int .i64 (k : Int))) none none).run Try.prog w = .ok (.slice (some ⟨b, k, none⟩) (n - k) (n - k)) w := by
  have e1 : (0 : Int) ≤ (k : Int) ∧ (k : Int) ≤ (n : Int) := by omega
  have e3 : ¬ n = k := by omega
  have e4 : k ≤ n := by omega
  have hz : ∀ w, (Go.sizeOf 3).run Try.prog w = .ok 1 w := fun w => by kernel_rfl
  simp [Instr.slice, Instr.sliceBounds, Instr.sliceBound, run_underlying Try.underlying26, asIntOf, e1, e3, e4, hz, Addr.add, go_sem]
  intro h
  omega

theorem run_uptoR {b n k : Nat} (h1 : k ≤ n) (w : World) : (Instr.slice 26 (.slice (some ⟨b, 0, none⟩) n n) none (some (.int .i64 (k : Int))) none).run Try.prog w = .ok (.slice (some ⟨b, 0, none⟩) k n) w := by
  have e1 : (0 : Int) ≤ (k : Int) ∧ (k : Int) ≤ (n : Int) := by omega
  have hz : ∀ w, (Go.sizeOf 3).run Try.prog w = .ok 1 w := fun w => by kernel_rfl
  simp [Instr.slice, Instr.sliceBounds, Instr.sliceBound, run_underlying Try.underlying26, asIntOf, e1, h1, hz, Addr.add, go_sem]

/-- The row under way. -/
def repL (n m : Nat) (x : Int) : List Value := (List.range n).map fun k => .int .i64 (if k < m then x else 0)

theorem repL_len (n m : Nat) (x : Int) : (repL n m x).length = n := by simp [repL]

theorem repL_get {n m k : Nat} {x : Int} (h : k < n) : (repL n m x)[k]? = some (.int .i64 (if k < m then x else 0)) := by simp [repL, h]

theorem rep_splice {n m q : Nat} {x : Int} (h : m + q ≤ n) : splice (repL n m x) m (List.replicate q (.int .i64 x)) = repL n (m + q) x := by
  refine List.ext_getElem? fun k => ?_
  unfold splice
  by_cases hk : k < n
  · rw [repL_get hk]
    by_cases h1 : k < m
    · rw [List.getElem?_append_left (by simp [repL_len]; omega), List.getElem?_take_of_lt h1, repL_get hk]
      simp [h1, show k < m + q by omega]
    · rw [List.getElem?_append_right (by simp [repL_len]; omega)]
      have hl : (List.take m (repL n m x)).length = m := by simp [repL_len]; omega
      rw [hl]
      by_cases h2 : k < m + q
      · rw [List.getElem?_append_left (by simp; omega)]
        simp [show k - m < q by omega, h2]
      · rw [List.getElem?_append_right (by simp; omega), List.getElem?_drop]
        simp only [List.length_replicate]
        rw [show m + q + (k - m - q) = k by omega, repL_get hk]
        simp [h1, h2]
  · rw [List.getElem?_eq_none (by simp [repL_len]; omega), List.getElem?_eq_none (by simp [repL_len]; omega)]

set_option maxRecDepth 100000 in
set_option maxHeartbeats 3200000 in
theorem repeat_any (n : Nat) (x : Int) (b : Nat) (w : World) (h : n = 1 ∨ n = 2 ∨ n = 3 ∨ n = 4) (hc : w.cell? ⟨b, 0, none⟩ = some (.int .i64 x)) :
    Calls Try.prog 29 #[.slice (some ⟨b, 0, none⟩) 1 1, .int .i64 n] w fun e w' => e = .returned (.slice (some ⟨w.heap.size, 0, none⟩) n n) ∧ w'.rowIs w.heap.size 3 n (fun _ => .int .i64 x) ∧ Below w.heap.size w w' := by
  have HM : Hid (Calls Try.prog 51 #[.int .u64 1, .int .u64 n] w fun e w' => e = .returned (.tuple #[.int .u64 0, .int .u64 n]) ∧ w' = w) := mul_any n w h
  have hn1 : 1 ≤ n := by omega
  have hn4 : n ≤ 4 := by omega
  have hmk : ∀ w : World, (Instr.makeSlice 26 (.int .i64 (n : Int)) (.int .i64 (n : Int))).run Try.prog w = .ok (.slice (some ⟨w.heap.size, 0, none⟩) n n) (w.alloc (.cells (madeCells #[.int .i64 0] n) 3)) := run_make_row' (P := Try.prog) 26 3 (.int .i64 0) 8 Try.underlying26 (by kernel_rfl) rfl .i64 .i64 n (by omega) (by omega)
  have hneg : decide ((n : Int) < 0) = false := decide_eq_false (by omega)
  have qu : IntKind.u64.wrap (n : Int) = (n : Int) := by rw [IntKind.wrap_u64]; omega
  have qi : IntKind.i64.wrap (n : Int) = (n : Int) := by rw [IntWalk.i64_left]; exact IntWalk.wrap64_in _ ⟨by omega, by omega⟩
  have qm : decide ((9223372036854775807 : Int) < (n : Int)) = false := decide_eq_false (by omega)
  obtain ⟨W, hW⟩ : ∃ W, W = w.alloc (.cells (madeCells #[.int .i64 0] n) 3) := ⟨_, rfl⟩
  have hcW : W.cell? ⟨b, 0, none⟩ = some (.int .i64 x) := by rw [hW]; exact (((Below.refl _ w).alloc (Nat.le_refl _) _).cell (lt_of_cell hc)).trans hc
  have HBW : Hid (Below w.heap.size w W) := by rw [hW]; exact (Below.refl _ _).alloc (Nat.le_refl _) _
  have HG0 : Hid (W.heap[w.heap.size]? = some (.cells (repL n 0 x).toArray 3 (0, 0))) := by
    have e : madeCells #[Value.int .i64 0] n = (repL n 0 x).toArray := by
      rw [← Array.toList_inj, toList_madeCells_one]
      simp only [repL, Nat.not_lt_zero, if_false]
      rw [List.map_const', List.length_range]
    rw [hW, e]
    exact heap_alloc_new w _
  clear h hc
  go_enter Try.func29, Try.ntmps29
  go_wp2_with fail
  refine HM.out.mono ?_
  rintro e w1 ⟨rfl, hw1⟩
  subst hw1
  have HCP : Hid (W.cell? ⟨b, 0, none⟩ = some (.int .i64 x)) := hcW
  go_wp2_with (first | (refine wpList_copy_splice (o := { dst := some 33, op := _, type := _, pos := _, after := _, guard := _ }) rfl (.tmp 31) (.tmp 32) 26 26 rfl 3 Try.underlying26 (by kernel_rfl) _ _ _ _ _ _ rfl rfl w1.heap.size 0 (repL n 0 x) 3 (hW ▸ HG0.out) [.int .i64 x] ?k1 ?k2 ?k3 (by simp [Value.oneCell']) w1.heap.size w1 (hW ▸ HBW.out) (Nat.le_refl _) ?_))
  case k1 => show 1 = min 1 n; omega
  case k2 =>
    intro j u hj
    rcases j with _ | j
    · simp only [List.getElem?_cons_zero, Option.some.injEq] at hj
      rw [← hj]
      have := HCP.out
      rw [hW] at this
      exact this
    · simp at hj
  case k3 => rw [repL_len]; show 0 + 1 ≤ n; omega
  intro w2 HG2 hb2
  have HB2 : Hid (Below w1.heap.size w1 w2) := hb2
  have HG3 : Hid (w2.heap[w1.heap.size]? = some (.cells (repL n 1 x).toArray 3 (0, 0))) := by
    have h1 := HG2.out
    have h2 := rep_splice (n := n) (m := 0) (q := 1) (x := x) (by omega)
    simp only [List.replicate_one, Nat.zero_add] at h2
    rw [h2] at h1
    exact h1
  clear HG2 hb2 HG0 HCP hcW hW hmk
  go_wp2
  go_loopw [8] (fun mv wr => ∃ m : Nat, 1 ≤ m ∧ m ≤ n ∧ mv = .int .i64 m ∧ wr.heap[w1.heap.size]? = some (.cells (repL n m x).toArray 3 (0, 0)) ∧ Below w1.heap.size w1 wr) (fun mv _ => n - (intOf mv).toNat)
  case atStart => exact ⟨1, Nat.le_refl _, hn1, rfl, HG3.out, HB2.out⟩
  case round =>
    obtain ⟨m, hm1, hmn, rfl, hg, hbr⟩ := hrel
    have HG : Hid (wr.heap[w1.heap.size]? = some (.cells (repL n m x).toArray 3 (0, 0))) := hg
    have HBR : Hid (Below w1.heap.size w1 wr) := hbr
    clear hg hbr
    by_cases hlt : m < n
    · have mI : (m : Int) < (n : Int) := by omega
      obtain ⟨q, hq⟩ : ∃ q, q = min m (n - m) := ⟨_, rfl⟩
      have hq1 : 1 ≤ q := by omega
      have hr1 := run_fromR (b := w1.heap.size) hlt
      have hr0 := run_uptoR (b := w1.heap.size) (n := n) (k := m) hmn
      have a1 : IntKind.i64.wrap ((m : Int) + (q : Int)) = ((m + q : Nat) : Int) := by rw [IntWalk.i64_left, IntWalk.wrap64_in _ ⟨by omega, by omega⟩]; omega
      have HQ : Hid (q = min m (n - m)) := hq
      have hmq : m + q ≤ n := by omega
      clear hq
      go_wp2
      refine wp_region_held_drew (S := fun _ => True) (by kernel_rfl) trivial (fun hHeld => ?_)
      refine wpAnyH_tk (i := 0) (d := 38) (v := (.int .i64 m)) rfl rfl (by kernel_rfl) (by kernel_rfl) (by kernel_rfl) (fun _ _ _ h => h) (.inl ⟨by rfl, by (intro wq hSw; (try dsimp only at hSw); go_simp)⟩) hHeld ?_
      simp only [Act.put, List.setIfInBounds_toArray, List.set_cons_zero, List.set_cons_succ]
      refine wpAnyH_tk (i := 1) (d := 39) (v := (.slice (some ⟨w1.heap.size, 0, none⟩) n n)) rfl rfl (by kernel_rfl) (by kernel_rfl) (by kernel_rfl) (fun _ _ _ h => h) (.inl ⟨by rfl, by (intro wq hSw; (try dsimp only at hSw); go_simp)⟩) hHeld ?_
      simp only [Act.put, List.setIfInBounds_toArray, List.set_cons_zero, List.set_cons_succ]
      refine wpAnyH_tk (i := 2) (d := 40) (v := (.int .i64 m)) rfl rfl (by kernel_rfl) (by kernel_rfl) (by kernel_rfl) (fun _ _ _ h => h) (.inl ⟨by rfl, by (intro wq hSw; (try dsimp only at hSw); go_simp)⟩) hHeld ?_
      simp only [Act.put, List.setIfInBounds_toArray, List.set_cons_zero, List.set_cons_succ]
      refine wpAnyH_tk (i := 3) (d := 41) (v := (.slice (some ⟨w1.heap.size, m, none⟩) (n - m) (n - m))) rfl rfl (by kernel_rfl) (by kernel_rfl) (by kernel_rfl) (fun _ _ _ h => h) (.inl ⟨by rfl, by (intro wq hSw; (try dsimp only at hSw); go_simp)⟩) hHeld ?_
      simp only [Act.put, List.setIfInBounds_toArray, List.set_cons_zero, List.set_cons_succ]
      refine wpAnyH_tk (i := 4) (d := 42) (v := (.slice (some ⟨w1.heap.size, 0, none⟩) n n)) rfl rfl (by kernel_rfl) (by kernel_rfl) (by kernel_rfl) (fun _ _ _ h => h) (.inl ⟨by rfl, by (intro wq hSw; (try dsimp only at hSw); go_simp)⟩) hHeld ?_
      simp only [Act.put, List.setIfInBounds_toArray, List.set_cons_zero, List.set_cons_succ]
      refine wpAnyH_tk (i := 5) (d := 43) (v := (.int .i64 m)) rfl rfl (by kernel_rfl) (by kernel_rfl) (by kernel_rfl) (fun _ _ _ h => h) (.inl ⟨by rfl, by (intro wq hSw; (try dsimp only at hSw); go_simp)⟩) hHeld ?_
      simp only [Act.put, List.setIfInBounds_toArray, List.set_cons_zero, List.set_cons_succ]
      refine wpAnyH_tk (i := 6) (d := 44) (v := (.slice (some ⟨w1.heap.size, 0, none⟩) m n)) rfl rfl (by kernel_rfl) (by kernel_rfl) (by kernel_rfl) (fun _ _ _ h => h) (.inl ⟨by rfl, by (intro wq hSw; (try dsimp only at hSw); go_simp)⟩) hHeld ?_
      simp only [Act.put, List.setIfInBounds_toArray, List.set_cons_zero, List.set_cons_succ]
      refine wpAnyH_ready (rs := [7]) (by kernel_rfl) (by simp) ?_
      refine ready_tk (i := 7) rfl (by rfl) (fun K hK => ?_) AllReadyH.nil
      refine copy_wpR (by rfl) (.tmp 41) (.tmp 44) 26 26 (by rfl) 3 Try.underlying26 (by kernel_rfl) _ _ _ _ _ _ (by rfl) (by rfl) w1.heap.size m (repL n m x) 3 HG.out (List.replicate q (.int .i64 x)) (by rw [List.length_replicate, HQ.out]) (fun _ => ⟨rfl, ⟨w1.heap.size, 0, none⟩, rfl, fun j u hj => ?_⟩) (by rw [List.length_replicate, repL_len]; exact hmq) (fun u hu => by rw [(List.mem_replicate.1 hu).2]; rfl) w1.heap.size w1 ⟨HBR.out.os, HBR.out.tape, HBR.out.output, HBR.out.size, HBR.out.block⟩ (Nat.le_refl _) ?_
      · have hjq : j < q := by
          have := (List.getElem?_eq_some_iff.1 hj).1
          simpa using this
        have hjm : j < m := by have := HQ.out; omega
        rw [List.getElem?_replicate, if_pos hjq] at hj
        rw [← Option.some.inj hj]
        have h1 : wr.drew.heap[w1.heap.size]? = some (.cells (repL n m x).toArray 3 (0, 0)) := HG.out
        have h2 := repL_get (n := n) (m := m) (x := x) (k := j) (by omega)
        rw [if_pos hjm] at h2
        have h3 : (⟨w1.heap.size, 0, none⟩ : Addr).add j = ⟨w1.heap.size, j, none⟩ := by
          unfold Addr.add
          split
          · rename_i e; simp_all
          · simp
        rw [h3]
        simp [World.cell?, h1, h2]
      · intro w4 hg4 hb4
        have HG4 : Hid (w4.heap[w1.heap.size]? = some (.cells (repL n (m + q) x).toArray 3 (0, 0))) := by
          have h1 := hg4.out
          rw [rep_splice hmq] at h1
          exact h1
        have HB4 : Hid (Below w1.heap.size w1 w4) := hb4
        refine hK.out _ _ trivial (fun hHeld => ?_)
        clear hK K hg4 hb4
        simp only [Act.put, List.setIfInBounds_toArray, List.set_cons_zero, List.set_cons_succ, List.length_replicate]
        refine wpAnyH_tk (i := 8) (d := 46) (v := (.int .i64 ((m + q : Nat) : Int))) rfl rfl (by kernel_rfl) (by kernel_rfl) (by kernel_rfl) (fun _ _ _ h => h) (.inl ⟨by rfl, by (intro wq hSw; (try dsimp only at hSw); go_simp)⟩) hHeld ?_
        simp only [Act.put, List.setIfInBounds_toArray, List.set_cons_zero, List.set_cons_succ]
        refine wpAnyH_tk (i := 9) (d := 8) (v := (.int .i64 ((m + q : Nat) : Int))) rfl rfl (by kernel_rfl) (by kernel_rfl) (by kernel_rfl) (fun _ _ _ h => h) (.inl ⟨by rfl, by (intro wq hSw; (try dsimp only at hSw); go_simp)⟩) hHeld ?_
        simp only [Act.put, List.setIfInBounds_toArray, List.set_cons_zero, List.set_cons_succ]
        refine wpAnyH_done (by kernel_rfl) ?_ _
        clear hHeld hr1 hr0
        go_wp2
        exact ⟨⟨m + q, by omega, hmq, rfl, HG4.out, HB4.out⟩, by simp [intOf]; omega⟩
    · have hme : n = m := by omega
      subst hme
      have HRI : Hid (wr.rowIs w1.heap.size 3 n (fun _ => .int .i64 x)) := ⟨_, HG.out, by simp [repL_len], fun i hi => by
        have := repL_get (n := n) (m := n) (x := x) hi
        rw [if_pos hi] at this
        simpa using this⟩
      go_wp2
      go_ret
      exact ⟨rfl, HRI.out, HBR.out⟩

end Go.Proofs.Ytkgljfnbaoncbaa
