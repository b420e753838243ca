/- Cut out by cutout.py: Ao0:upF_rch, Ao1:aboveOf_any, Gp1:Eds, Gp1:Eds.below, Gp1:Eds.more, Gp6:Eds.own, Gt4:graphEdges_any. -/
import Derived.Test.YtmljnfgfjcjmmaaGxA
import Derived.Test.YtmljnfgfjcjmmaaSgC
import Derived.Test.YtmljnfgfjcjmmaaWiA
import Derived.Test.YtmljnfgfjcjmmaaWyA
import Derived.Test.YtmljnfgfjcjmmaaRefs
import Derived.Lib.TrailingZeros
namespace Go.Proofs.Ytmljnfgfjcjmmaa
open Go.RowKit
attribute [local go_sem ↓] Go.wp_at_zero Go.wp_at_succ

/-- Reached by one pair or more. -/
inductive Rch (es : List (Nat × Nat)) : Nat → Nat → Prop
  | one {x y : Nat} : (x, y) ∈ es → Rch es x y
  | step {x y z : Nat} : Rch es x y → (y, z) ∈ es → Rch es x z

/-- The things set above a thing by pairs. -/
def prF (es : List (Nat × Nat)) (i : Nat) : Nat := es.foldl (fun s e => if e.1 = i then s ||| 2 ^ e.2 else s) 0

theorem prF_has {es : List (Nat × Nat)} {x y : Nat} (h : (x, y) ∈ es) : (prF es x).testBit y = true := by
  have key : ∀ (es : List (Nat × Nat)) (s : Nat), (s.testBit y = true ∨ (x, y) ∈ es) → (es.foldl (fun s e => if e.1 = x then s ||| 2 ^ e.2 else s) s).testBit y = true := by
    intro es
    induction es with
    | nil => intro s hs; simpa using hs
    | cons e es ih =>
      intro s hs
      rw [List.foldl_cons]
      refine ih _ ?_
      rcases hs with hs | hs
      · refine .inl ?_
        split
        · rw [Nat.testBit_or, hs]; rfl
        · exact hs
      · rcases List.mem_cons.1 hs with rfl | hs
        · refine .inl ?_
          rw [if_pos rfl, Nat.testBit_or, Nat.testBit_two_pow]
          simp
        · exact .inr hs
  exact key es 0 (.inr h)

/-- By way of a thing. -/
def wst (m : Nat) (f : Nat → Nat) (i : Nat) : Nat := if (f i).testBit m then f i ||| f m else f i

def war : Nat → (Nat → Nat) → (Nat → Nat)
  | 0, f => f
  | m + 1, f => wst m (war m f)

/-- All that is above. -/
def upF (n : Nat) (es : List (Nat × Nat)) : Nat → Nat := war n (prF es)

theorem wst_bit (m : Nat) (f : Nat → Nat) (i k : Nat) : (wst m f i).testBit k = true ↔ (f i).testBit k = true ∨ ((f i).testBit m = true ∧ (f m).testBit k = true) := by
  unfold wst
  by_cases h : (f i).testBit m = true
  · rw [if_pos h, Nat.testBit_or, Bool.or_eq_true]
    simp [h]
  · rw [if_neg h]
    simp [h]

theorem war_mono (f : Nat → Nat) : ∀ (m i k : Nat), (f i).testBit k = true → (war m f i).testBit k = true
  | 0, i, k, h => h
  | m + 1, i, k, h => by
    simp only [war]
    rw [wst_bit]
    exact .inl (war_mono f m i k h)

theorem prF_bit : ∀ (es : List (Nat × Nat)) (i k : Nat), (prF es i).testBit k = true → (i, k) ∈ es := by
  have key : ∀ (es : List (Nat × Nat)) (i k s : Nat), (es.foldl (fun s e => if e.1 = i then s ||| 2 ^ e.2 else s) s).testBit k = true → s.testBit k = true ∨ (i, k) ∈ es := by
    intro es
    induction es with
    | nil => intro i k s h; exact .inl h
    | cons e es ih =>
      intro i k s h
      simp only [List.foldl_cons] at h
      rcases ih i k _ h with h1 | h1
      · by_cases he : e.1 = i
        · rw [if_pos he, Nat.testBit_or, Bool.or_eq_true, Nat.testBit_two_pow] at h1
          rcases h1 with h1 | h1
          · exact .inl h1
          · refine .inr ?_
            have h2 : e.2 = k := by simpa using h1
            rw [← he, ← h2]
            exact List.mem_cons_self
        · rw [if_neg he] at h1
          exact .inl h1
      · exact .inr (List.mem_cons_of_mem _ h1)
  intro es i k h
  rcases key es i k 0 h with h1 | h1
  · simp at h1
  · exact h1

theorem Rch.trans {es : List (Nat × Nat)} {x y z : Nat} (h1 : Rch es x y) (h2 : Rch es y z) : Rch es x z := by
  induction h2 with
  | one h => exact .step h1 h
  | step _ h ih => exact .step ih h

theorem war_rch {es : List (Nat × Nat)} : ∀ (m i k : Nat), (war m (prF es) i).testBit k = true → Rch es i k
  | 0, i, k, h => .one (prF_bit es i k h)
  | m + 1, i, k, h => by
    simp only [war] at h
    rw [wst_bit] at h
    rcases h with h | ⟨h1, h2⟩
    · exact war_rch m i k h
    · exact (war_rch m i m h1).trans (war_rch m m k h2)

theorem war_tr (f : Nat → Nat) : ∀ (m i j k : Nat), j < m → (war m f i).testBit j = true → (war m f j).testBit k = true → (war m f i).testBit k = true
  | 0, i, j, k, h, _, _ => by omega
  | m + 1, i, j, k, h, h1, h2 => by
    have ih := war_tr f m
    simp only [war] at h1 h2 ⊢
    generalize war m f = g at *
    rw [wst_bit] at h1 h2 ⊢
    by_cases e : j = m
    · subst e
      rcases h1 with h1 | ⟨h1, _⟩ <;> rcases h2 with h2 | ⟨_, h2⟩ <;> exact .inr ⟨h1, h2⟩
    · have hj : j < m := by omega
      rcases h1 with h1 | ⟨h1, h3⟩ <;> rcases h2 with h2 | ⟨h2, h4⟩
      · exact .inl (ih i j k hj h1 h2)
      · exact .inr ⟨ih i j m hj h1 h2, h4⟩
      · exact .inr ⟨h1, ih m j k hj h3 h2⟩
      · exact .inr ⟨h1, h4⟩

theorem upF_rch {n : Nat} {es : List (Nat × Nat)} (hes : ∀ e ∈ es, e.1 < n ∧ e.2 < n) {i b : Nat} : (upF n es i).testBit b = true ↔ Rch es i b := by
  refine ⟨fun h => war_rch n i b h, fun h => ?_⟩
  induction h with
  | one h => exact war_mono _ n _ _ (prF_has h)
  | step _ h ih => exact war_tr _ n _ _ _ (hes _ h).1 ih (war_mono _ n _ _ (prF_has h))

/-- The list that grows, and the set of what is behind its first. -/
structure AoI (n : Nat) (es : List (Nat × Nat)) (i : Nat) (tl : List Nat) (s : Nat) : Prop where
  nd : tl.Nodup
  bit : ∀ x, s.testBit x = true ↔ x ∈ tl
  rch : ∀ x ∈ tl, Rch es i x ∧ x < n

theorem AoI.start (n : Nat) (es : List (Nat × Nat)) (i : Nat) : AoI n es i [] 0 := ⟨by simp, fun x => by simp, fun x hx => by simp at hx⟩

/-- A list of pairs. -/
def Prs (w : World) (v : Value) (zs : List (Int × Int)) : Prop :=
  ∃ po pc, v = .slice po zs.length pc ∧ ∀ i, i < zs.length → ∃ b o, po = some ⟨b, o, none⟩ ∧ w.cell? ⟨b, o + i * 2, none⟩ = some (.int .i64 (zs.getD i (0, 0)).1) ∧ w.cell? ⟨b, o + i * 2 + 1, none⟩ = some (.int .i64 (zs.getD i (0, 0)).2)

theorem bitq_tab : ∀ x : Nat, x < 64 → ∀ k : Nat, k < 6 → ((x : Int) / 2 ^ k).tmod 2 = if x.testBit k then 1 else 0 := by decide +kernel

def natsI (l : List Nat) : List Int := l.map fun k : Nat => (k : Int)

theorem natsI_app (l : List Nat) (i : Nat) : ints (natsI (l ++ [i])) = ints (natsI l) ++ [.int .i64 (i : Int)] := by simp [ints, natsI]

theorem natsI_at {l : List Nat} {k : Nat} (hk : k < l.length) : (natsI l).getD k 0 = ((l.getD k 0 : Nat) : Int) := by simp [natsI, hk]

theorem natsI_len (l : List Nat) : (natsI l).length = l.length := by simp [natsI]

/-- Pairs of things. -/
def npL (es : List (Nat × Nat)) : List (Int × Int) := es.map fun e => ((e.1 : Int), (e.2 : Int))

theorem npL_at {es : List (Nat × Nat)} {i : Nat} (hi : i < es.length) : (npL es).getD i (0, 0) = (((es.getD i (0, 0)).1 : Int), ((es.getD i (0, 0)).2 : Int)) := by simp [npL, hi]

theorem npL_len (es : List (Nat × Nat)) : (npL es).length = es.length := by simp [npL]

theorem or_i64 : ∀ s : Nat, s < 64 → ∀ b : Nat, b < 6 → bits .or .i64 (s : Int) ((2 ^ b : Nat) : Int) = ((s ||| 2 ^ b : Nat) : Int) ∧ IntKind.i64.wrap ((2 : Int) ^ b) = ((2 ^ b : Nat) : Int) := by decide +kernel

theorem own_lowY {B B' n : Nat} {e : TypeId} {w : World} {v : Value} {xs : List Value} (h : w.ownsRow B' e 1 v n xs) (hB : B ≤ B') : w.ownsRow B e 1 v n xs := by
  refine ⟨h.1, ?_⟩
  rcases h.2 with h1 | ⟨g, cap, cur, h1, h2, h3⟩
  · exact .inl h1
  · exact .inr ⟨g, cap, cur, h1, Nat.le_trans hB h2, h3⟩

theorem pair_mem {es : List (Nat × Nat)} {j : Nat} (hj : j < es.length) : ((es.getD j (0, 0)).1, (es.getD j (0, 0)).2) ∈ es := by
  have e : es.getD j (0, 0) = es[j] := by simp [hj]
  rw [e]
  exact List.getElem_mem hj

/-- What is above each thing, as a list. -/
def upL (n : Nat) (f : Nat → Nat) : List Int := (List.range n).map fun i => (f i : Int)

theorem upL_len (n : Nat) (f : Nat → Nat) : (upL n f).length = n := by simp [upL]

theorem upL_snoc (n : Nat) (f : Nat → Nat) : upL (n + 1) f = upL n f ++ [(f n : Int)] := by simp [upL, List.range_succ]

theorem AoI.snoc {n : Nat} {es : List (Nat × Nat)} {i x b : Nat} {tl : List Nat} {s : Nat} (h : AoI n es i tl s) (hx : x ∈ i :: tl) (hb : (x, b) ∈ es) (hn : b < n) (h0 : s.testBit b = false) : AoI n es i (tl ++ [b]) (s ||| 2 ^ b) := by
  have hnb : b ∉ tl := fun e => by
    rw [(h.bit b).2 e] at h0
    cases h0
  refine ⟨?_, fun y => ?_, fun y hy => ?_⟩
  · rw [List.nodup_append]
    refine ⟨h.nd, by simp, fun y hy z hz => ?_⟩
    rw [List.mem_singleton] at hz
    subst hz
    exact fun e => hnb (e ▸ hy)
  · rw [Nat.testBit_or, Bool.or_eq_true, h.bit y, Nat.testBit_two_pow, List.mem_append, List.mem_singleton, decide_eq_true_eq]
    constructor
    · rintro (e | e)
      · exact .inl e
      · exact .inr e.symm
    · rintro (e | e)
      · exact .inl e
      · exact .inr e.symm
  · rcases List.mem_append.1 hy with hy | hy
    · exact h.rch y hy
    · rw [List.mem_singleton] at hy
      subst hy
      refine ⟨?_, hn⟩
      rcases List.mem_cons.1 hx with rfl | hx
      · exact .one hb
      · exact .step (h.rch x hx).1 hb

theorem AoI.done {n : Nat} {es : List (Nat × Nat)} {i : Nat} {tl : List Nat} {s : Nat} (h : AoI n es i tl s) (hes : ∀ e ∈ es, e.1 < n ∧ e.2 < n) (hc : ∀ x ∈ i :: tl, ∀ b, (x, b) ∈ es → s.testBit b = true) : s = upF n es i := by
  refine Nat.eq_of_testBit_eq fun b => ?_
  rw [Bool.eq_iff_iff, upF_rch hes]
  constructor
  · intro hb
    exact (h.rch b ((h.bit b).1 hb)).1
  · intro hr
    induction hr with
    | one e => exact hc _ (by simp) _ e
    | step _ e ih => exact hc _ (List.mem_cons_of_mem _ ((h.bit _).1 ih)) _ e

theorem Prs.below {N : Nat} {w w' : World} {v : Value} {zs : List (Int × Int)} (h : Prs w v zs) (hb : Below N w w') (hN : w.heap.size ≤ N) : Prs w' v zs := by
  obtain ⟨po, pc, h1, h2⟩ := h
  refine ⟨po, pc, h1, fun i hi => ?_⟩
  obtain ⟨b, o, e, c1, c2⟩ := h2 i hi
  exact ⟨b, o, e, (hb.cell (by have := lt_of_cell c1; show b < N; omega)).trans c1, (hb.cell (by have := lt_of_cell c2; show b < N; omega)).trans c2⟩

theorem AoI.lt {n : Nat} {es : List (Nat × Nat)} {i : Nat} {tl : List Nat} {s : Nat} (h : AoI n es i tl s) : s < 2 ^ n := by
  refine Nat.lt_pow_two_of_testBit _ fun k hk => ?_
  cases hb : s.testBit k
  · rfl
  · have := (h.rch k ((h.bit k).1 hb)).2
    omega

theorem AoI.len {n : Nat} {es : List (Nat × Nat)} {i : Nat} {tl : List Nat} {s : Nat} (h : AoI n es i tl s) : tl.length ≤ n := by
  have := nodup_len tl (List.range n) h.nd (fun x hx => List.mem_range.2 (h.rch x hx).2)
  simpa using this

set_option maxRecDepth 100000 in
set_option maxHeartbeats 6400000 in
theorem aboveOf_any (n : Nat) (es : List (Nat × Nat)) (pv : Value) (w : World) (hv : Prs w pv (npL es)) (hes : ∀ e ∈ es, e.1 < n ∧ e.2 < n) (hn : n ≤ 6) (hl : es.length ≤ 36) :
    Calls Try.prog 18 #[.agg #[.int .i64 (n : Int), pv]] w fun e w' => ∃ x, e = .returned x ∧ w'.ownsRow w.heap.size 3 1 x n (ints (upL n (upF n es))) ∧ Below w.heap.size w w' := by
  obtain ⟨i3, hi3, hz30, hz31, hz32⟩ := info_parts Try.info3
  have HV : Hid (Prs w pv (npL es)) := hv
  obtain ⟨po, pc, hpv, -⟩ := hv
  rw [npL_len] at hpv
  subst hpv
  obtain ⟨W1, hW1⟩ : ∃ W1, W1 = w.alloc (.cells #[.int .i64 (n : Int), .slice po es.length pc] 37) := ⟨_, rfl⟩
  have HB1 : Hid (Below w.heap.size w W1) := by rw [hW1]; exact (Below.refl _ _).alloc (Nat.le_refl _) _
  have d0 : W1.cell? ⟨w.heap.size, 0, none⟩ = some (.int .i64 (n : Int)) := by rw [hW1]; simp
  have d1 : W1.cell? ⟨w.heap.size, 1, none⟩ = some (.slice po es.length pc) := by rw [hW1]; simp
  have hs1 : W1.heap.size = w.heap.size + 1 := by rw [hW1]; simp
  obtain ⟨pb, hpb⟩ : ∃ pb, pb = w.heap.size := ⟨_, rfl⟩
  rw [← hpb] at d0 d1
  have HD : Hid (∀ W, Below W1.heap.size W1 W → W.cell? ⟨pb, 0, none⟩ = some (.int .i64 (n : Int)) ∧ W.cell? ⟨pb, 1, none⟩ = some (.slice po es.length pc) ∧ Below w.heap.size w W) := fun W h => ⟨(h.cell (lt_of_cell d0)).trans d0, (h.cell (lt_of_cell d1)).trans d1, HB1.out.trans (h.mono HB1.out.size)⟩
  have HES : Hid (∀ e ∈ es, e.1 < n ∧ e.2 < n) := hes
  have HU0 : Hid (upL 0 (upF n es) = []) := rfl
  have HU1 : Hid (∀ i, upL (i + 1) (upF n es) = upL i (upF n es) ++ [((upF n es i : Nat) : Int)]) := fun i => upL_snoc i _
  have HUL : Hid (∀ i, (upL i (upF n es)).length = i) := fun i => upL_len i _
  have hw1s : w.heap.size ≤ W1.heap.size := by omega
  have HFIN : Hid (∀ (W : World) x, W.ownsRow W1.heap.size 3 1 x n (ints (upL n (upF n es))) → W.ownsRow w.heap.size 3 1 x n (ints (upL n (upF n es)))) := fun W x h => own_lowY h hw1s
  clear hes d0 d1 hs1
  go_enter Try.func18, Try.ntmps18
  go_wp2
  rw [← hpb, ← hW1]
  clear hW1 hpb
  have e0 := HU0.out
  go_loopw [3, 4] (fun ov iv wr => ∃ i : Nat, i ≤ n ∧ iv = .int .i64 (i : Int) ∧ wr.ownsRow W1.heap.size 3 1 ov i (ints (upL i (upF n es))) ∧ Below W1.heap.size W1 wr) (fun _ iv _ => n - (intOf iv).toNat)
  case atStart => exact ⟨0, Nat.zero_le _, rfl, by rw [e0]; exact World.ownsRow_nil _ _ _ _, Below.refl _ _⟩
  case round =>
    obtain ⟨i, hi, rfl, ho, hb⟩ := hrel
    obtain ⟨wa, rfl⟩ : ∃ wa, wa = wr := ⟨_, rfl⟩
    clear e0 HU0
    obtain ⟨c0, c1, hbw⟩ := HD.out wa hb
    have HO : Hid (wa.ownsRow W1.heap.size 3 1 u3 i (ints (upL i (upF n es)))) := ho
    have HB : Hid (Below W1.heap.size W1 wa) := hb
    have hsza : W1.heap.size ≤ wa.heap.size := hb.size
    clear ho hb hbw
    by_cases hlt : i < n
    · have iI : (i : Int) < (n : Int) := by omega
      obtain ⟨M, hM⟩ : ∃ M, M = wa.heap.size := ⟨_, rfl⟩
      have HL0 : Hid ((wa.alloc (.cells #[.int .i64 (i : Int)] 3)).ownsRow M 3 1 (.slice (some ⟨wa.heap.size, 0, none⟩) 1 1) 1 (ints (natsI (i :: [])))) := by
        rw [hM]
        exact ⟨rfl, .inr ⟨wa.heap.size, 1, #[.int .i64 (i : Int)], rfl, Nat.le_refl _, heap_alloc_new wa _, Nat.le_refl _, by decide, rfl, rfl⟩⟩
      have HB0 : Hid (Below M wa (wa.alloc (.cells #[.int .i64 (i : Int)] 3))) := by rw [hM]; exact (Below.refl _ _).alloc (Nat.le_refl _) _
      have HMS : Hid (M = wa.heap.size) := hM
      have hMW : W1.heap.size ≤ M := by omega
      clear hM
      go_wp2
      clear c0 c1
      go_loopw [5, 6, 7] (fun lv sv kv wq => ∃ (k s : Nat) (tl : List Nat), k ≤ tl.length + 1 ∧ kv = .int .i64 (k : Int) ∧ sv = .int .i64 (s : Int) ∧ AoI n es i tl s ∧ (∀ m, m < k → ∀ b, ((i :: tl).getD m 0, b) ∈ es → s.testBit b = true) ∧ wq.ownsRow M 3 1 lv (tl.length + 1) (ints (natsI (i :: tl))) ∧ Below M wa wq) (fun _ _ kv _ => n + 2 - (intOf kv).toNat)
      case atStart => exact ⟨0, 0, [], by simp, rfl, rfl, AoI.start n es i, fun m hm => by omega, HL0.out, HB0.out⟩
      case round =>
        obtain ⟨k, s, tl, hk, rfl, rfl, hA, hcl, hol, hbl⟩ := hrel
        rename World => wq
        clear HL0 HB0
        obtain ⟨lo, lc, hlv⟩ := owns_form hol
        subst hlv
        have htl := hA.len
        have hs64 : s < 64 := Nat.lt_of_lt_of_le hA.lt (Nat.pow_le_pow_right (by omega) hn : 2 ^ n ≤ 2 ^ 6)
        have HA : Hid (AoI n es i tl s) := hA
        have HCL : Hid (∀ m, m < k → ∀ b, ((i :: tl).getD m 0, b) ∈ es → s.testBit b = true) := hcl
        have HOL : Hid (wq.ownsRow M 3 1 (.slice lo (tl.length + 1) lc) (tl.length + 1) (ints (natsI (i :: tl)))) := hol
        have HBL : Hid (Below M wa wq) := hbl
        clear hA hcl hol hbl
        have hbW : Below W1.heap.size W1 wq := HB.out.trans (HBL.out.mono hMW)
        by_cases hlk : k < tl.length + 1
        · have kI : (k : Int) < ((tl.length + 1 : Nat) : Int) := by omega
          have kI2 : (k : Int) < (tl.length : Int) + 1 := by omega
          obtain ⟨c0, c1, -⟩ := HD.out wq hbW
          clear hbW
          go_wp2
          clear c0 c1
          obtain ⟨y, hy⟩ : ∃ y, y = (i :: tl).getD k 0 := ⟨_, rfl⟩
          have HY : Hid (y = (i :: tl).getD k 0) := hy
          have HYM : Hid (y ∈ i :: tl) := by rw [hy]; simp only [List.getD_eq_getElem?_getD]; rw [List.getElem?_eq_getElem (by simpa using hlk)]; exact List.getElem_mem _
          clear hy
          go_loopw [5, 6, 8] (fun lv sv jv wp => ∃ (j s : Nat) (tl2 : List Nat), j ≤ es.length ∧ jv = .int .i64 (j : Int) ∧ sv = .int .i64 (s : Int) ∧ AoI n es i (tl ++ tl2) s ∧ (∀ m, m < k → ∀ b, ((i :: tl).getD m 0, b) ∈ es → s.testBit b = true) ∧ (∀ j', j' < j → (es.getD j' (0, 0)).1 = y → s.testBit (es.getD j' (0, 0)).2 = true) ∧ wp.ownsRow M 3 1 lv ((tl ++ tl2).length + 1) (ints (natsI (i :: (tl ++ tl2)))) ∧ Below M wa wp) (fun _ _ jv _ => es.length - (intOf jv).toNat)
          case atStart => exact ⟨0, s, [], Nat.zero_le _, rfl, rfl, by simpa using HA.out, HCL.out, fun j' hj' => by omega, by simpa using HOL.out, HBL.out⟩
          case round =>
            obtain ⟨j, s2, tl2, hj, rfl, rfl, hA2, hcl2, hjj, hol2, hbl2⟩ := hrel
            rename World => wp
            clear HA HCL HOL HBL hs64
            obtain ⟨lo2, lc2, hlv2⟩ := owns_form hol2
            subst hlv2
            have htl2 := hA2.len
            have hs2 : s2 < 64 := Nat.lt_of_lt_of_le hA2.lt (Nat.pow_le_pow_right (by omega) hn : 2 ^ n ≤ 2 ^ 6)
            have HA2 : Hid (AoI n es i (tl ++ tl2) s2) := hA2
            have HCL2 : Hid (∀ m, m < k → ∀ b, ((i :: tl).getD m 0, b) ∈ es → s2.testBit b = true) := hcl2
            have HJJ : Hid (∀ j', j' < j → (es.getD j' (0, 0)).1 = y → s2.testBit (es.getD j' (0, 0)).2 = true) := hjj
            have HOL2 : Hid (wp.ownsRow M 3 1 (.slice lo2 ((tl ++ tl2).length + 1) lc2) ((tl ++ tl2).length + 1) (ints (natsI (i :: (tl ++ tl2))))) := hol2
            have HBL2 : Hid (Below M wa wp) := hbl2
            clear hA2 hcl2 hjj hol2 hbl2
            have hbW2 : Below W1.heap.size W1 wp := HB.out.trans (HBL2.out.mono hMW)
            obtain ⟨c0, c1, hbw2⟩ := HD.out wp hbW2
            by_cases hlj : j < es.length
            · obtain ⟨po2, pc2, hpe, hcs⟩ := HV.out.below hbw2 (Nat.le_refl _)
              obtain ⟨qb, qo, e, p1, p2⟩ := hcs j (by rw [npL_len]; exact hlj)
              rw [npL_len] at hpe
              simp only [Value.slice.injEq, true_and] at hpe
              obtain ⟨rfl, rfl⟩ := hpe
              subst e
              rw [npL_at hlj] at p1 p2
              have hpm := pair_mem hlj
              obtain ⟨hx1, hx2⟩ := HES.out _ hpm
              have HJ1 : Hid (∀ s3 : Nat, (∀ b, s2.testBit b = true → s3.testBit b = true) → ((es.getD j (0, 0)).1 = y → s3.testBit (es.getD j (0, 0)).2 = true) → ∀ j', j' < j + 1 → (es.getD j' (0, 0)).1 = y → s3.testBit (es.getD j' (0, 0)).2 = true) := fun s3 hm he j' hj' hy => by
                by_cases e : j' = j
                · subst e; exact he hy
                · exact hm _ (HJJ.out j' (by omega) hy)
              have hkk : k < (natsI (i :: (tl ++ tl2))).length := by rw [natsI_len]; simp; omega
              obtain ⟨gb, go, gc, hgs, -, hgc⟩ := sl_cell (Sl.own (B := 0) HOL2.out) hkk
              rw [natsI_len] at hgs
              simp only [List.length_cons, Value.slice.injEq, true_and] at hgs
              obtain ⟨rfl, rfl⟩ := hgs
              rw [natsI_at (by rw [← natsI_len]; exact hkk)] at hgc
              have hyk : (i :: (tl ++ tl2)).getD k 0 = y := by
                rw [HY.out, ← List.cons_append]
                simp only [List.getD_eq_getElem?_getD]
                rw [List.getElem?_append_left (by simpa using hlk)]
              rw [hyk] at hgc
              have HYL : Hid (y ∈ i :: (tl ++ tl2)) := by
                show y ∈ i :: (tl ++ tl2)
                rcases List.mem_cons.1 HYM.out with h | h
                · rw [h]; simp
                · exact List.mem_cons_of_mem _ (List.mem_append_left _ h)
              have HPM : Hid (((es.getD j (0, 0)).1, (es.getD j (0, 0)).2) ∈ es) := hpm
              generalize (es.getD j (0, 0)).1 = x at *
              generalize (es.getD j (0, 0)).2 = b at *
              have eb := bitq_tab s2 hs2 b (by omega)
              obtain ⟨eo, ew⟩ := or_i64 s2 hs2 b (by omega)
              have jI : (j : Int) < (es.length : Int) := by omega
              have jI0 : (0 : Int) ≤ (j : Int) := by omega
              have kI4 : (k : Int) < (((tl ++ tl2).length : Nat) : Int) + 1 := by rw [List.length_append]; omega
              have kI3 : (k : Int) < (((tl ++ tl2).length + 1 : Nat) : Int) := by omega
              have kI0 : (0 : Int) ≤ (k : Int) := by omega
              have bI0 : (0 : Int) ≤ (b : Int) := by omega
              clear hkk hyk hpm hbW2 hbw2 c0
              by_cases hxy : x = y
              · have t1 : ((x : Int) == (y : Int)) = true := by rw [beq_iff_eq]; omega
                obtain ⟨zq, hzq⟩ : ∃ zq, (s2 : Int) / 2 ^ b = zq := ⟨_, rfl⟩
                rw [hzq] at eb
                have eb2 : (zq.tmod 2 == 0) = !s2.testBit b := by
                  rw [eb]
                  cases s2.testBit b <;> rfl
                obtain ⟨zr, hzr⟩ : ∃ zr, zq.tmod 2 = zr := ⟨_, rfl⟩
                rw [hzr] at eb2
                cases hbt : s2.testBit b
                · rw [hbt] at eb2
                  have HA3 : Hid (AoI n es i (tl ++ (tl2 ++ [b])) (s2 ||| 2 ^ b)) := by
                    rw [← List.append_assoc]
                    exact HA2.out.snoc HYL.out (by rw [← hxy]; exact HPM.out) hx2 hbt
                  have hmon : ∀ c, s2.testBit c = true → (s2 ||| 2 ^ b).testBit c = true := fun c hc => by rw [Nat.testBit_or, hc]; rfl
                  have hnew : (s2 ||| 2 ^ b).testBit b = true := by rw [Nat.testBit_or, Nat.testBit_two_pow]; simp
                  have HC3 : Hid (∀ m, m < k → ∀ c, ((i :: tl).getD m 0, c) ∈ es → (s2 ||| 2 ^ b).testBit c = true) := fun m hm c hc => hmon c (HCL2.out m hm c hc)
                  have HJ3 := HJ1.out (s2 ||| 2 ^ b) hmon (fun _ => hnew)
                  have HJ4 : Hid (∀ j', j' < j + 1 → (es.getD j' (0, 0)).1 = y → (s2 ||| 2 ^ b).testBit (es.getD j' (0, 0)).2 = true) := HJ3
                  have hszp : M ≤ wp.heap.size := by have := HBL2.out.size; have := HMS.out; omega
                  obtain ⟨sl, hsl⟩ : ∃ sl, sl = (tl ++ tl2).length + 1 := ⟨_, rfl⟩
                  have HSLN : Hid (sl = (tl ++ tl2).length + 1) := hsl
                  rw [← hsl] at HOL2
                  rw [← hsl]
                  have hsl8 : sl ≤ 8 := by omega
                  have kI5 : (k : Int) < (sl : Int) := by omega
                  clear hmon hnew HJ3 hbt HJ1 hsl kI4 kI3 HJJ HCL2
                  generalize s2 ||| 2 ^ b = s3 at *
                  generalize (2 ^ b : Nat) = pb2 at *
                  go_wp2
                  refine wp_region_held_drew (S := fun w' => w'.cell? ⟨pb, 1, none⟩ = some (.slice (some ⟨qb, qo, none⟩) es.length pc) ∧ w'.cell? ⟨qb, qo + j * 2, none⟩ = some (.int .i64 (x : Int)) ∧ w'.cell? ⟨gb, go + k, none⟩ = some (.int .i64 (y : Int))) (by kernel_rfl) ⟨c1, p1, hgc⟩ (fun hHeld => ?_)
                  refine wpAnyH_tk (i := 0) (d := 37) (v := (.pointer (some ⟨pb, 1, none⟩))) rfl rfl (by kernel_rfl) (by kernel_rfl) (by kernel_rfl) (fun _ _ _ h => h) (.inl ⟨by rfl, by (intro wq hSw; (try dsimp only at hSw); go_simp; (try (first | rfl | omega)))⟩) hHeld ?_
                  simp only [Act.put, List.setIfInBounds_toArray, List.set_cons_zero, List.set_cons_succ]
                  refine wpAnyH_tk (i := 1) (d := 38) (v := (.slice (some ⟨qb, qo, none⟩) es.length pc)) rfl rfl (by kernel_rfl) (by kernel_rfl) (by kernel_rfl) (fun _ _ _ h => h) (.inl ⟨by rfl, by (intro wq hSw; (try dsimp only at hSw); go_simp; (try (first | rfl | omega)))⟩) hHeld ?_
                  simp only [Act.put, List.setIfInBounds_toArray, List.set_cons_zero, List.set_cons_succ]
                  refine wpAnyH_tk (i := 2) (d := 39) (v := (.int .i64 (j : Int))) rfl rfl (by kernel_rfl) (by kernel_rfl) (by kernel_rfl) (fun _ _ _ h => h) (.inl ⟨by rfl, by (intro wq hSw; (try dsimp only at hSw); go_simp; (try (first | rfl | omega)))⟩) hHeld ?_
                  simp only [Act.put, List.setIfInBounds_toArray, List.set_cons_zero, List.set_cons_succ]
                  refine wpAnyH_tk (i := 3) (d := 40) (v := (.pointer (some ⟨qb, qo + j * 2, none⟩))) rfl rfl (by kernel_rfl) (by kernel_rfl) (by kernel_rfl) (fun _ _ _ h => h) (.inl ⟨by rfl, by (intro wq hSw; (try dsimp only at hSw); go_simp; (try (first | rfl | omega)))⟩) hHeld ?_
                  simp only [Act.put, List.setIfInBounds_toArray, List.set_cons_zero, List.set_cons_succ]
                  refine wpAnyH_tk (i := 4) (d := 41) (v := (.pointer (some ⟨qb, qo + j * 2, none⟩))) rfl rfl (by kernel_rfl) (by kernel_rfl) (by kernel_rfl) (fun _ _ _ h => h) (.inl ⟨by rfl, by (intro wq hSw; (try dsimp only at hSw); go_simp; (try (first | rfl | omega)))⟩) hHeld ?_
                  simp only [Act.put, List.setIfInBounds_toArray, List.set_cons_zero, List.set_cons_succ]
                  refine wpAnyH_tk (i := 5) (d := 42) (v := (.int .i64 (x : Int))) rfl rfl (by kernel_rfl) (by kernel_rfl) (by kernel_rfl) (fun _ _ _ h => h) (.inl ⟨by rfl, by (intro wq hSw; (try dsimp only at hSw); go_simp; (try (first | rfl | omega)))⟩) hHeld ?_
                  simp only [Act.put, List.setIfInBounds_toArray, List.set_cons_zero, List.set_cons_succ]
                  refine wpAnyH_tk (i := 6) (d := 43) (v := (.slice (some ⟨gb, go, none⟩) sl lc2)) rfl rfl (by kernel_rfl) (by kernel_rfl) (by kernel_rfl) (fun _ _ _ h => h) (.inl ⟨by rfl, by (intro wq hSw; (try dsimp only at hSw); go_simp; (try (first | rfl | omega)))⟩) hHeld ?_
                  simp only [Act.put, List.setIfInBounds_toArray, List.set_cons_zero, List.set_cons_succ]
                  refine wpAnyH_tk (i := 7) (d := 44) (v := (.int .i64 (k : Int))) rfl rfl (by kernel_rfl) (by kernel_rfl) (by kernel_rfl) (fun _ _ _ h => h) (.inl ⟨by rfl, by (intro wq hSw; (try dsimp only at hSw); go_simp; (try (first | rfl | omega)))⟩) hHeld ?_
                  simp only [Act.put, List.setIfInBounds_toArray, List.set_cons_zero, List.set_cons_succ]
                  refine wpAnyH_tk (i := 8) (d := 45) (v := (.pointer (some ⟨gb, go + k, none⟩))) rfl rfl (by kernel_rfl) (by kernel_rfl) (by kernel_rfl) (fun _ _ _ h => h) (.inl ⟨by rfl, by (intro wq hSw; (try dsimp only at hSw); go_simp; (try (first | rfl | omega)))⟩) hHeld ?_
                  simp only [Act.put, List.setIfInBounds_toArray, List.set_cons_zero, List.set_cons_succ]
                  refine wpAnyH_tk (i := 9) (d := 46) (v := (.int .i64 (y : Int))) rfl rfl (by kernel_rfl) (by kernel_rfl) (by kernel_rfl) (fun _ _ _ h => h) (.inl ⟨by rfl, by (intro wq hSw; (try dsimp only at hSw); go_simp; (try (first | rfl | omega)))⟩) hHeld ?_
                  simp only [Act.put, List.setIfInBounds_toArray, List.set_cons_zero, List.set_cons_succ]
                  refine wpAnyH_tk (i := 10) (d := 47) (v := (.bool true)) rfl rfl (by kernel_rfl) (by kernel_rfl) (by kernel_rfl) (fun _ _ _ h => h) (.inl ⟨by rfl, by (intro wq hSw; (try dsimp only at hSw); go_simp; (try (first | rfl | omega)))⟩) hHeld ?_
                  simp only [Act.put, List.setIfInBounds_toArray, List.set_cons_zero, List.set_cons_succ]
                  refine wpAnyH_tk (i := 11) (d := 48) (v := (.bool true)) rfl rfl (by kernel_rfl) (by kernel_rfl) (by kernel_rfl) (fun _ _ _ h => h) (.inl ⟨by rfl, by (intro wq hSw; (try dsimp only at hSw); go_simp; (try (first | rfl | omega)))⟩) hHeld ?_
                  simp only [Act.put, List.setIfInBounds_toArray, List.set_cons_zero, List.set_cons_succ]
                  refine wpAnyH_tk (i := 12) (d := 49) (v := (.int .i64 (s2 : Int))) rfl rfl (by kernel_rfl) (by kernel_rfl) (by kernel_rfl) (fun _ _ _ h => h) (.inl ⟨by rfl, by (intro wq hSw; (try dsimp only at hSw); go_simp; (try (first | rfl | omega)))⟩) hHeld ?_
                  simp only [Act.put, List.setIfInBounds_toArray, List.set_cons_zero, List.set_cons_succ]
                  refine wpAnyH_tk (i := 13) (d := 50) (v := (.int .i64 (b : Int))) rfl rfl (by kernel_rfl) (by kernel_rfl) (by kernel_rfl) (fun _ _ _ h => h) (.inl ⟨by rfl, by (intro wq hSw; (try dsimp only at hSw); go_simp; (try (first | rfl | omega)))⟩) hHeld ?_
                  simp only [Act.put, List.setIfInBounds_toArray, List.set_cons_zero, List.set_cons_succ]
                  refine wpAnyH_tk (i := 14) (d := 51) (v := (.int .i64 zq)) rfl rfl (by kernel_rfl) (by kernel_rfl) (by kernel_rfl) (fun _ _ _ h => h) (.inl ⟨by rfl, by (intro wq hSw; (try dsimp only at hSw); go_simp; (try (first | rfl | omega)))⟩) hHeld ?_
                  simp only [Act.put, List.setIfInBounds_toArray, List.set_cons_zero, List.set_cons_succ]
                  refine wpAnyH_tk (i := 15) (d := 52) (v := (.int .i64 zr)) rfl rfl (by kernel_rfl) (by kernel_rfl) (by kernel_rfl) (fun _ _ _ h => h) (.inl ⟨by rfl, by (intro wq hSw; (try dsimp only at hSw); go_simp; (try (first | rfl | omega)))⟩) hHeld ?_
                  simp only [Act.put, List.setIfInBounds_toArray, List.set_cons_zero, List.set_cons_succ]
                  refine wpAnyH_tk (i := 16) (d := 53) (v := (.bool true)) rfl rfl (by kernel_rfl) (by kernel_rfl) (by kernel_rfl) (fun _ _ _ h => h) (.inl ⟨by rfl, by (intro wq hSw; (try dsimp only at hSw); go_simp; (try (first | rfl | omega)))⟩) hHeld ?_
                  simp only [Act.put, List.setIfInBounds_toArray, List.set_cons_zero, List.set_cons_succ]
                  refine wpAnyH_tk (i := 17) (d := 54) (v := (.bool true)) rfl rfl (by kernel_rfl) (by kernel_rfl) (by kernel_rfl) (fun _ _ _ h => h) (.inl ⟨by rfl, by (intro wq hSw; (try dsimp only at hSw); go_simp; (try (first | rfl | omega)))⟩) hHeld ?_
                  simp only [Act.put, List.setIfInBounds_toArray, List.set_cons_zero, List.set_cons_succ]
                  refine wpAnyH_done (by kernel_rfl) ?_ _
                  clear hHeld hzq hzr eb2 eb
                  go_wp2_with (first | (at_builtin; refine wpList_append_own _ rfl _ _ 22 rfl M 3 i3 (.int .i64 0) 1 8 Try.underlying22 hi3 hz30 hz31 hz32 rfl (by decide) _ _ _ rfl (World.ownsRow.alloc (w := wp.drew) ⟨HOL2.out.1, HOL2.out.2⟩ _) ⟨wp.heap.size, 0, none⟩ 1 1 [.int .i64 (b : Int)] rfl rfl (one_new wp.drew _ _) (one_int _) ?c3 ?c4 ?c5 ?_))
                  case c3 => unfold maxLen; omega
                  case c4 => omega
                  case c5 => simp; omega
                  intro v2 w4 ho hg _
                  have R1 : Hid (w4.ownsRow M 3 1 v2 ((tl ++ (tl2 ++ [b])).length + 1) (ints (natsI (i :: (tl ++ (tl2 ++ [b])))))) := by
                    have e1 : (tl ++ (tl2 ++ [b])).length + 1 = sl + 1 := by rw [HSLN.out]; simp; omega
                    have e2 : i :: (tl ++ (tl2 ++ [b])) = (i :: (tl ++ tl2)) ++ [b] := by simp
                    show World.ownsRow _ _ _ _ _ _ _
                    rw [e1, e2, natsI_app]
                    exact ho
                  have R2 : Hid (Below M wa w4) := (Below.drew (HBL2.out.alloc hszp _)).grown hg (by simp; omega) (fun z hz => (HOL2.out.lt z hz).1)
                  clear ho hg
                  go_wp2
                  go_roundw
                  case rel => exact ⟨j + 1, s3, tl2 ++ [b], by omega, by go_num, rfl, HA3.out, HC3.out, HJ4.out, R1.out, R2.out⟩
                  case measure => simp [intOf]; omega
                · rw [hbt] at eb2
                  have HJ4 : Hid (∀ j', j' < j + 1 → (es.getD j' (0, 0)).1 = y → s2.testBit (es.getD j' (0, 0)).2 = true) := HJ1.out s2 (fun _ h => h) (fun _ => hbt)
                  obtain ⟨sl, hsl⟩ : ∃ sl, sl = (tl ++ tl2).length + 1 := ⟨_, rfl⟩
                  have HSLN : Hid (sl = (tl ++ tl2).length + 1) := hsl
                  rw [← hsl]
                  have kI5 : (k : Int) < (sl : Int) := by omega
                  clear hbt HJ1 hsl kI4 kI3 HJJ eo ew
                  go_wp2
                  refine wp_region_held_drew (S := fun w' => w'.cell? ⟨pb, 1, none⟩ = some (.slice (some ⟨qb, qo, none⟩) es.length pc) ∧ w'.cell? ⟨qb, qo + j * 2, none⟩ = some (.int .i64 (x : Int)) ∧ w'.cell? ⟨gb, go + k, none⟩ = some (.int .i64 (y : Int))) (by kernel_rfl) ⟨c1, p1, hgc⟩ (fun hHeld => ?_)
                  refine wpAnyH_tk (i := 0) (d := 37) (v := (.pointer (some ⟨pb, 1, none⟩))) rfl rfl (by kernel_rfl) (by kernel_rfl) (by kernel_rfl) (fun _ _ _ h => h) (.inl ⟨by rfl, by (intro wq hSw; (try dsimp only at hSw); go_simp; (try (first | rfl | omega)))⟩) hHeld ?_
                  simp only [Act.put, List.setIfInBounds_toArray, List.set_cons_zero, List.set_cons_succ]
                  refine wpAnyH_tk (i := 1) (d := 38) (v := (.slice (some ⟨qb, qo, none⟩) es.length pc)) rfl rfl (by kernel_rfl) (by kernel_rfl) (by kernel_rfl) (fun _ _ _ h => h) (.inl ⟨by rfl, by (intro wq hSw; (try dsimp only at hSw); go_simp; (try (first | rfl | omega)))⟩) hHeld ?_
                  simp only [Act.put, List.setIfInBounds_toArray, List.set_cons_zero, List.set_cons_succ]
                  refine wpAnyH_tk (i := 2) (d := 39) (v := (.int .i64 (j : Int))) rfl rfl (by kernel_rfl) (by kernel_rfl) (by kernel_rfl) (fun _ _ _ h => h) (.inl ⟨by rfl, by (intro wq hSw; (try dsimp only at hSw); go_simp; (try (first | rfl | omega)))⟩) hHeld ?_
                  simp only [Act.put, List.setIfInBounds_toArray, List.set_cons_zero, List.set_cons_succ]
                  refine wpAnyH_tk (i := 3) (d := 40) (v := (.pointer (some ⟨qb, qo + j * 2, none⟩))) rfl rfl (by kernel_rfl) (by kernel_rfl) (by kernel_rfl) (fun _ _ _ h => h) (.inl ⟨by rfl, by (intro wq hSw; (try dsimp only at hSw); go_simp; (try (first | rfl | omega)))⟩) hHeld ?_
                  simp only [Act.put, List.setIfInBounds_toArray, List.set_cons_zero, List.set_cons_succ]
                  refine wpAnyH_tk (i := 4) (d := 41) (v := (.pointer (some ⟨qb, qo + j * 2, none⟩))) rfl rfl (by kernel_rfl) (by kernel_rfl) (by kernel_rfl) (fun _ _ _ h => h) (.inl ⟨by rfl, by (intro wq hSw; (try dsimp only at hSw); go_simp; (try (first | rfl | omega)))⟩) hHeld ?_
                  simp only [Act.put, List.setIfInBounds_toArray, List.set_cons_zero, List.set_cons_succ]
                  refine wpAnyH_tk (i := 5) (d := 42) (v := (.int .i64 (x : Int))) rfl rfl (by kernel_rfl) (by kernel_rfl) (by kernel_rfl) (fun _ _ _ h => h) (.inl ⟨by rfl, by (intro wq hSw; (try dsimp only at hSw); go_simp; (try (first | rfl | omega)))⟩) hHeld ?_
                  simp only [Act.put, List.setIfInBounds_toArray, List.set_cons_zero, List.set_cons_succ]
                  refine wpAnyH_tk (i := 6) (d := 43) (v := (.slice (some ⟨gb, go, none⟩) sl lc2)) rfl rfl (by kernel_rfl) (by kernel_rfl) (by kernel_rfl) (fun _ _ _ h => h) (.inl ⟨by rfl, by (intro wq hSw; (try dsimp only at hSw); go_simp; (try (first | rfl | omega)))⟩) hHeld ?_
                  simp only [Act.put, List.setIfInBounds_toArray, List.set_cons_zero, List.set_cons_succ]
                  refine wpAnyH_tk (i := 7) (d := 44) (v := (.int .i64 (k : Int))) rfl rfl (by kernel_rfl) (by kernel_rfl) (by kernel_rfl) (fun _ _ _ h => h) (.inl ⟨by rfl, by (intro wq hSw; (try dsimp only at hSw); go_simp; (try (first | rfl | omega)))⟩) hHeld ?_
                  simp only [Act.put, List.setIfInBounds_toArray, List.set_cons_zero, List.set_cons_succ]
                  refine wpAnyH_tk (i := 8) (d := 45) (v := (.pointer (some ⟨gb, go + k, none⟩))) rfl rfl (by kernel_rfl) (by kernel_rfl) (by kernel_rfl) (fun _ _ _ h => h) (.inl ⟨by rfl, by (intro wq hSw; (try dsimp only at hSw); go_simp; (try (first | rfl | omega)))⟩) hHeld ?_
                  simp only [Act.put, List.setIfInBounds_toArray, List.set_cons_zero, List.set_cons_succ]
                  refine wpAnyH_tk (i := 9) (d := 46) (v := (.int .i64 (y : Int))) rfl rfl (by kernel_rfl) (by kernel_rfl) (by kernel_rfl) (fun _ _ _ h => h) (.inl ⟨by rfl, by (intro wq hSw; (try dsimp only at hSw); go_simp; (try (first | rfl | omega)))⟩) hHeld ?_
                  simp only [Act.put, List.setIfInBounds_toArray, List.set_cons_zero, List.set_cons_succ]
                  refine wpAnyH_tk (i := 10) (d := 47) (v := (.bool true)) rfl rfl (by kernel_rfl) (by kernel_rfl) (by kernel_rfl) (fun _ _ _ h => h) (.inl ⟨by rfl, by (intro wq hSw; (try dsimp only at hSw); go_simp; (try (first | rfl | omega)))⟩) hHeld ?_
                  simp only [Act.put, List.setIfInBounds_toArray, List.set_cons_zero, List.set_cons_succ]
                  refine wpAnyH_tk (i := 11) (d := 48) (v := (.bool true)) rfl rfl (by kernel_rfl) (by kernel_rfl) (by kernel_rfl) (fun _ _ _ h => h) (.inl ⟨by rfl, by (intro wq hSw; (try dsimp only at hSw); go_simp; (try (first | rfl | omega)))⟩) hHeld ?_
                  simp only [Act.put, List.setIfInBounds_toArray, List.set_cons_zero, List.set_cons_succ]
                  refine wpAnyH_tk (i := 12) (d := 49) (v := (.int .i64 (s2 : Int))) rfl rfl (by kernel_rfl) (by kernel_rfl) (by kernel_rfl) (fun _ _ _ h => h) (.inl ⟨by rfl, by (intro wq hSw; (try dsimp only at hSw); go_simp; (try (first | rfl | omega)))⟩) hHeld ?_
                  simp only [Act.put, List.setIfInBounds_toArray, List.set_cons_zero, List.set_cons_succ]
                  refine wpAnyH_tk (i := 13) (d := 50) (v := (.int .i64 (b : Int))) rfl rfl (by kernel_rfl) (by kernel_rfl) (by kernel_rfl) (fun _ _ _ h => h) (.inl ⟨by rfl, by (intro wq hSw; (try dsimp only at hSw); go_simp; (try (first | rfl | omega)))⟩) hHeld ?_
                  simp only [Act.put, List.setIfInBounds_toArray, List.set_cons_zero, List.set_cons_succ]
                  refine wpAnyH_tk (i := 14) (d := 51) (v := (.int .i64 zq)) rfl rfl (by kernel_rfl) (by kernel_rfl) (by kernel_rfl) (fun _ _ _ h => h) (.inl ⟨by rfl, by (intro wq hSw; (try dsimp only at hSw); go_simp; (try (first | rfl | omega)))⟩) hHeld ?_
                  simp only [Act.put, List.setIfInBounds_toArray, List.set_cons_zero, List.set_cons_succ]
                  refine wpAnyH_tk (i := 15) (d := 52) (v := (.int .i64 zr)) rfl rfl (by kernel_rfl) (by kernel_rfl) (by kernel_rfl) (fun _ _ _ h => h) (.inl ⟨by rfl, by (intro wq hSw; (try dsimp only at hSw); go_simp; (try (first | rfl | omega)))⟩) hHeld ?_
                  simp only [Act.put, List.setIfInBounds_toArray, List.set_cons_zero, List.set_cons_succ]
                  refine wpAnyH_tk (i := 16) (d := 53) (v := (.bool false)) rfl rfl (by kernel_rfl) (by kernel_rfl) (by kernel_rfl) (fun _ _ _ h => h) (.inl ⟨by rfl, by (intro wq hSw; (try dsimp only at hSw); go_simp; (try (first | rfl | omega)))⟩) hHeld ?_
                  simp only [Act.put, List.setIfInBounds_toArray, List.set_cons_zero, List.set_cons_succ]
                  refine wpAnyH_tk (i := 17) (d := 54) (v := (.bool false)) rfl rfl (by kernel_rfl) (by kernel_rfl) (by kernel_rfl) (fun _ _ _ h => h) (.inl ⟨by rfl, by (intro wq hSw; (try dsimp only at hSw); go_simp; (try (first | rfl | omega)))⟩) hHeld ?_
                  simp only [Act.put, List.setIfInBounds_toArray, List.set_cons_zero, List.set_cons_succ]
                  refine wpAnyH_done (by kernel_rfl) ?_ _
                  clear hHeld hzq hzr eb2 eb
                  go_wp2
                  go_roundw
                  case rel => exact ⟨j + 1, s2, tl2, by omega, by go_num, rfl, HA2.out, HCL2.out, HJ4.out, by rw [← HSLN.out]; rw [← HSLN.out] at HOL2; exact HOL2.out, HBL2.out.trans ⟨rfl, rfl, rfl, Nat.le_refl _, fun _ _ => rfl⟩⟩
                  case measure => simp [intOf]; omega
              · have t1 : ((x : Int) == (y : Int)) = false := by rw [beq_eq_false_iff_ne]; omega
                have HJ4 : Hid (∀ j', j' < j + 1 → (es.getD j' (0, 0)).1 = y → s2.testBit (es.getD j' (0, 0)).2 = true) := HJ1.out s2 (fun _ h => h) (fun e => absurd e hxy)
                obtain ⟨sl, hsl⟩ : ∃ sl, sl = (tl ++ tl2).length + 1 := ⟨_, rfl⟩
                have HSLN : Hid (sl = (tl ++ tl2).length + 1) := hsl
                rw [← hsl]
                have kI5 : (k : Int) < (sl : Int) := by omega
                clear HJ1 hsl kI4 kI3 HJJ eo ew eb
                go_wp2
                refine wp_region_held_drew (S := fun w' => w'.cell? ⟨pb, 1, none⟩ = some (.slice (some ⟨qb, qo, none⟩) es.length pc) ∧ w'.cell? ⟨qb, qo + j * 2, none⟩ = some (.int .i64 (x : Int)) ∧ w'.cell? ⟨gb, go + k, none⟩ = some (.int .i64 (y : Int))) (by kernel_rfl) ⟨c1, p1, hgc⟩ (fun hHeld => ?_)
                refine wpAnyH_tk (i := 0) (d := 37) (v := (.pointer (some ⟨pb, 1, none⟩))) rfl rfl (by kernel_rfl) (by kernel_rfl) (by kernel_rfl) (fun _ _ _ h => h) (.inl ⟨by rfl, by (intro wq hSw; (try dsimp only at hSw); go_simp; (try (first | rfl | omega)))⟩) hHeld ?_
                simp only [Act.put, List.setIfInBounds_toArray, List.set_cons_zero, List.set_cons_succ]
                refine wpAnyH_tk (i := 1) (d := 38) (v := (.slice (some ⟨qb, qo, none⟩) es.length pc)) rfl rfl (by kernel_rfl) (by kernel_rfl) (by kernel_rfl) (fun _ _ _ h => h) (.inl ⟨by rfl, by (intro wq hSw; (try dsimp only at hSw); go_simp; (try (first | rfl | omega)))⟩) hHeld ?_
                simp only [Act.put, List.setIfInBounds_toArray, List.set_cons_zero, List.set_cons_succ]
                refine wpAnyH_tk (i := 2) (d := 39) (v := (.int .i64 (j : Int))) rfl rfl (by kernel_rfl) (by kernel_rfl) (by kernel_rfl) (fun _ _ _ h => h) (.inl ⟨by rfl, by (intro wq hSw; (try dsimp only at hSw); go_simp; (try (first | rfl | omega)))⟩) hHeld ?_
                simp only [Act.put, List.setIfInBounds_toArray, List.set_cons_zero, List.set_cons_succ]
                refine wpAnyH_tk (i := 3) (d := 40) (v := (.pointer (some ⟨qb, qo + j * 2, none⟩))) rfl rfl (by kernel_rfl) (by kernel_rfl) (by kernel_rfl) (fun _ _ _ h => h) (.inl ⟨by rfl, by (intro wq hSw; (try dsimp only at hSw); go_simp; (try (first | rfl | omega)))⟩) hHeld ?_
                simp only [Act.put, List.setIfInBounds_toArray, List.set_cons_zero, List.set_cons_succ]
                refine wpAnyH_tk (i := 4) (d := 41) (v := (.pointer (some ⟨qb, qo + j * 2, none⟩))) rfl rfl (by kernel_rfl) (by kernel_rfl) (by kernel_rfl) (fun _ _ _ h => h) (.inl ⟨by rfl, by (intro wq hSw; (try dsimp only at hSw); go_simp; (try (first | rfl | omega)))⟩) hHeld ?_
                simp only [Act.put, List.setIfInBounds_toArray, List.set_cons_zero, List.set_cons_succ]
                refine wpAnyH_tk (i := 5) (d := 42) (v := (.int .i64 (x : Int))) rfl rfl (by kernel_rfl) (by kernel_rfl) (by kernel_rfl) (fun _ _ _ h => h) (.inl ⟨by rfl, by (intro wq hSw; (try dsimp only at hSw); go_simp; (try (first | rfl | omega)))⟩) hHeld ?_
                simp only [Act.put, List.setIfInBounds_toArray, List.set_cons_zero, List.set_cons_succ]
                refine wpAnyH_tk (i := 6) (d := 43) (v := (.slice (some ⟨gb, go, none⟩) sl lc2)) rfl rfl (by kernel_rfl) (by kernel_rfl) (by kernel_rfl) (fun _ _ _ h => h) (.inl ⟨by rfl, by (intro wq hSw; (try dsimp only at hSw); go_simp; (try (first | rfl | omega)))⟩) hHeld ?_
                simp only [Act.put, List.setIfInBounds_toArray, List.set_cons_zero, List.set_cons_succ]
                refine wpAnyH_tk (i := 7) (d := 44) (v := (.int .i64 (k : Int))) rfl rfl (by kernel_rfl) (by kernel_rfl) (by kernel_rfl) (fun _ _ _ h => h) (.inl ⟨by rfl, by (intro wq hSw; (try dsimp only at hSw); go_simp; (try (first | rfl | omega)))⟩) hHeld ?_
                simp only [Act.put, List.setIfInBounds_toArray, List.set_cons_zero, List.set_cons_succ]
                refine wpAnyH_tk (i := 8) (d := 45) (v := (.pointer (some ⟨gb, go + k, none⟩))) rfl rfl (by kernel_rfl) (by kernel_rfl) (by kernel_rfl) (fun _ _ _ h => h) (.inl ⟨by rfl, by (intro wq hSw; (try dsimp only at hSw); go_simp; (try (first | rfl | omega)))⟩) hHeld ?_
                simp only [Act.put, List.setIfInBounds_toArray, List.set_cons_zero, List.set_cons_succ]
                refine wpAnyH_tk (i := 9) (d := 46) (v := (.int .i64 (y : Int))) rfl rfl (by kernel_rfl) (by kernel_rfl) (by kernel_rfl) (fun _ _ _ h => h) (.inl ⟨by rfl, by (intro wq hSw; (try dsimp only at hSw); go_simp; (try (first | rfl | omega)))⟩) hHeld ?_
                simp only [Act.put, List.setIfInBounds_toArray, List.set_cons_zero, List.set_cons_succ]
                refine wpAnyH_tk (i := 10) (d := 47) (v := (.bool false)) rfl rfl (by kernel_rfl) (by kernel_rfl) (by kernel_rfl) (fun _ _ _ h => h) (.inl ⟨by rfl, by (intro wq hSw; (try dsimp only at hSw); go_simp; (try (first | rfl | omega)))⟩) hHeld ?_
                simp only [Act.put, List.setIfInBounds_toArray, List.set_cons_zero, List.set_cons_succ]
                refine wpAnyH_tk (i := 11) (d := 48) (v := (.bool false)) rfl rfl (by kernel_rfl) (by kernel_rfl) (by kernel_rfl) (fun _ _ _ h => h) (.inl ⟨by rfl, by (intro wq hSw; (try dsimp only at hSw); go_simp; (try (first | rfl | omega)))⟩) hHeld ?_
                simp only [Act.put, List.setIfInBounds_toArray, List.set_cons_zero, List.set_cons_succ]
                refine wpAnyH_tk (i := 12) (d := 49) (v := undef) rfl rfl (by kernel_rfl) (by kernel_rfl) (by kernel_rfl) (fun _ _ _ h => h) (.inr ⟨by rfl, rfl⟩) hHeld ?_
                simp only [Act.put, List.setIfInBounds_toArray, List.set_cons_zero, List.set_cons_succ]
                refine wpAnyH_tk (i := 13) (d := 50) (v := undef) rfl rfl (by kernel_rfl) (by kernel_rfl) (by kernel_rfl) (fun _ _ _ h => h) (.inr ⟨by rfl, rfl⟩) hHeld ?_
                simp only [Act.put, List.setIfInBounds_toArray, List.set_cons_zero, List.set_cons_succ]
                refine wpAnyH_tk (i := 14) (d := 51) (v := undef) rfl rfl (by kernel_rfl) (by kernel_rfl) (by kernel_rfl) (fun _ _ _ h => h) (.inr ⟨by rfl, rfl⟩) hHeld ?_
                simp only [Act.put, List.setIfInBounds_toArray, List.set_cons_zero, List.set_cons_succ]
                refine wpAnyH_tk (i := 15) (d := 52) (v := undef) rfl rfl (by kernel_rfl) (by kernel_rfl) (by kernel_rfl) (fun _ _ _ h => h) (.inr ⟨by rfl, rfl⟩) hHeld ?_
                simp only [Act.put, List.setIfInBounds_toArray, List.set_cons_zero, List.set_cons_succ]
                refine wpAnyH_tk (i := 16) (d := 53) (v := undef) rfl rfl (by kernel_rfl) (by kernel_rfl) (by kernel_rfl) (fun _ _ _ h => h) (.inr ⟨by rfl, rfl⟩) hHeld ?_
                simp only [Act.put, List.setIfInBounds_toArray, List.set_cons_zero, List.set_cons_succ]
                refine wpAnyH_tk (i := 17) (d := 54) (v := (.bool false)) rfl rfl (by kernel_rfl) (by kernel_rfl) (by kernel_rfl) (fun _ _ _ h => h) (.inl ⟨by rfl, by (intro wq hSw; (try dsimp only at hSw); go_simp; (try (first | rfl | omega)))⟩) hHeld ?_
                simp only [Act.put, List.setIfInBounds_toArray, List.set_cons_zero, List.set_cons_succ]
                refine wpAnyH_done (by kernel_rfl) ?_ _
                clear hHeld
                go_wp2
                go_roundw
                case rel => exact ⟨j + 1, s2, tl2, by omega, by go_num, rfl, HA2.out, HCL2.out, HJ4.out, by rw [← HSLN.out]; rw [← HSLN.out] at HOL2; exact HOL2.out, HBL2.out.trans ⟨rfl, rfl, rfl, Nat.le_refl _, fun _ _ => rfl⟩⟩
                case measure => simp [intOf]; omega
            · have hje : j = es.length := by omega
              subst hje
              have HC4 : Hid (∀ m, m < k + 1 → ∀ b, ((i :: (tl ++ tl2)).getD m 0, b) ∈ es → s2.testBit b = true) := fun m hm b hb => by
                have e1 : (i :: (tl ++ tl2)).getD m 0 = (i :: tl).getD m 0 := by
                  rw [← List.cons_append]
                  simp only [List.getD_eq_getElem?_getD]
                  rw [List.getElem?_append_left (by simp; omega)]
                rw [e1] at hb
                by_cases hmk : m < k
                · exact HCL2.out m hmk b hb
                · have hme : m = k := by omega
                  subst hme
                  rw [← HY.out] at hb
                  obtain ⟨j', hj', he⟩ := List.getElem_of_mem hb
                  have e2 : es.getD j' (0, 0) = (y, b) := by simp [hj', he]
                  have := HJJ.out j' hj' (by rw [e2])
                  rw [e2] at this
                  exact this
              have hkt : k + 1 ≤ (tl ++ tl2).length + 1 := by rw [List.length_append]; omega
              have htn : tl.length ≤ n := htl
              clear hbW2 hbw2 hlj hj c0
              go_wp2
              go_roundw
              case rel => exact ⟨k + 1, s2, tl ++ tl2, hkt, by go_num, rfl, HA2.out, HC4.out, HOL2.out, HBL2.out⟩
              case measure => simp [intOf]; omega
        · have hke : k = tl.length + 1 := by omega
          have hse : s = upF n es i := HA.out.done HES.out fun x hx b hb => by
            obtain ⟨m, hm, he⟩ := List.getElem_of_mem hx
            have e2 : (i :: tl).getD m 0 = x := by simp only [List.getD_eq_getElem?_getD]; rw [List.getElem?_eq_getElem hm]; simp [he]
            exact HCL.out m (by rw [hke]; simpa using hm) b (by rw [e2]; exact hb)
          have HUX : Hid (upL (i + 1) (upF n es) = upL i (upF n es) ++ [((s : Nat) : Int)]) := by
            rw [hse]
            exact HU1.out i
          have hkI : ¬ (k : Int) < (tl.length : Int) + 1 := by omega
          have hkN : ¬ k < tl.length + 1 := by omega
          have HOQ : Hid (wq.ownsRow W1.heap.size 3 1 u3 i (ints (upL i (upF n es)))) := owns_below HO.out HBL.out (by have := HMS.out; omega)
          have HBQ : Hid (Below W1.heap.size W1 wq) := hbW
          have hszq : W1.heap.size ≤ wq.heap.size := hbW.size
          obtain ⟨o3, oc3, hu3⟩ := owns_form HOQ.out
          subst hu3
          clear hse hke hbW HA HCL HOL HBL
          go_wp2_with (first | (at_builtin; refine wpList_append_own _ rfl _ _ 22 rfl W1.heap.size 3 i3 (.int .i64 0) 1 8 Try.underlying22 hi3 hz30 hz31 hz32 rfl (by decide) _ _ _ rfl (HOQ.out.alloc _) ⟨wq.heap.size, 0, none⟩ 1 1 [.int .i64 (s : Int)] rfl rfl (one_new _ _ _) (one_int _) ?c3 ?c4 ?c5 ?_))
          case c3 => unfold maxLen; omega
          case c4 => omega
          case c5 => first | exact hszq | omega | (simp; omega)
          intro v2 w4 ho hg _
          have R1 : Hid (w4.ownsRow W1.heap.size 3 1 v2 (i + 1) (ints (upL (i + 1) (upF n es)))) := by
            show World.ownsRow _ _ _ _ _ _ _
            rw [HUX.out, ← ints_snoc]
            exact ho
          have R2 : Hid (Below W1.heap.size W1 w4) := (HBQ.out.alloc hszq _).grown hg (by simp; omega) (fun z hz => (HOQ.out.lt z hz).1)
          clear ho hg
          go_wp2
          go_roundw
          case rel => exact ⟨i + 1, by omega, by go_num, R1.out, R2.out⟩
          case measure => simp [intOf]; omega
    · have hie : n = i := by omega
      subst hie
      obtain ⟨-, -, hbw⟩ := HD.out wa HB.out
      have HOF : Hid (wa.ownsRow w.heap.size 3 1 u3 n (ints (upL n (upF n es)))) := HFIN.out _ _ HO.out
      have HBF : Hid (Below w.heap.size w wa) := hbw
      clear hbw hlt hi
      go_wp2
      go_ret
      exact ⟨_, rfl, HOF.out, HBF.out⟩

/-- A list of edges. -/
def Eds (B : Nat) (w : World) (v : Value) (es : List (Nat × Nat)) : Prop :=
  ∃ po pc, v = .slice po es.length pc ∧ ∀ i, i < es.length → ∃ b o, po = some ⟨b, o, none⟩ ∧ b < B ∧ w.cell? ⟨b, o + i * 2, none⟩ = some (.int .i64 (es.getD i (0, 0)).1) ∧ w.cell? ⟨b, o + i * 2 + 1, none⟩ = some (.int .i64 (es.getD i (0, 0)).2)

theorem Eds.below {B N : Nat} {w w' : World} {v : Value} {es : List (Nat × Nat)} (h : Eds B w v es) (hb : Below N w w') (hN : B ≤ N) : Eds B w' v es := by
  obtain ⟨po, pc, h1, h2⟩ := h
  refine ⟨po, pc, h1, fun i hi => ?_⟩
  obtain ⟨b, o, e, l, c1, c2⟩ := h2 i hi
  exact ⟨b, o, e, l, (hb.cell (by show b < N; omega)).trans c1, (hb.cell (by show b < N; omega)).trans c2⟩

theorem Eds.more {B B' : Nat} {w : World} {v : Value} {es : List (Nat × Nat)} (h : Eds B w v es) (hB : B ≤ B') : Eds B' w v es := by
  obtain ⟨po, pc, h1, h2⟩ := h
  refine ⟨po, pc, h1, fun i hi => ?_⟩
  obtain ⟨b, o, e, l, c⟩ := h2 i hi
  exact ⟨b, o, e, by omega, c⟩

def ecP (es : List (Nat × Nat)) : List Value := es.flatMap fun e => [.int .i64 (e.1 : Int), .int .i64 (e.2 : Int)]

theorem ecP_get : ∀ (es : List (Nat × Nat)) (i : Nat) (e : Nat × Nat), es[i]? = some e → (ecP es)[i * 2]? = some (.int .i64 (e.1 : Int)) ∧ (ecP es)[i * 2 + 1]? = some (.int .i64 (e.2 : Int))
  | [], i, e, h => by simp at h
  | x :: es, 0, e, h => by
    simp only [List.getElem?_cons_zero, Option.some.injEq] at h
    subst h
    exact ⟨rfl, rfl⟩
  | x :: es, i + 1, e, h => by
    simp only [List.getElem?_cons_succ] at h
    have := ecP_get es i e h
    have e1 : (i + 1) * 2 = i * 2 + 1 + 1 := by omega
    have e2 : ecP (x :: es) = .int .i64 (x.1 : Int) :: .int .i64 (x.2 : Int) :: ecP es := rfl
    rw [e1, e2]
    exact this

theorem ecP_len : ∀ es : List (Nat × Nat), (ecP es).length = es.length * 2
  | [] => rfl
  | e :: es => by
    have := ecP_len es
    unfold ecP at this ⊢
    simp only [List.flatMap_cons, List.length_append, List.length_cons, List.length_nil]
    omega

/-- A row of pairs that is one's own is a list of edges. -/
theorem Eds.own {B : Nat} {w : World} {v : Value} {es : List (Nat × Nat)} (h : w.ownsRow B 27 2 v es.length (ecP es)) : Eds w.heap.size w v es := by
  rcases h.2 with ⟨e, h0⟩ | ⟨g, cap, cur, e1, h2, h3, h4, h5, h6, h7⟩
  · exact ⟨none, 0, by rw [e, h0], fun i hi => by omega⟩
  · refine ⟨some ⟨g, 0, none⟩, cap, e1, fun i hi => ⟨g, 0, rfl, (Array.getElem?_eq_some_iff.1 h3).1, ?_⟩⟩
    obtain ⟨k1, k2⟩ := ecP_get es i es[i] (List.getElem?_eq_getElem hi)
    have hel := ecP_len es
    have hce : ∀ j u, (ecP es)[j]? = some u → w.cell? ⟨g, 0 + j, none⟩ = some u := fun j u hj => by
      have hj2 := (List.getElem?_eq_some_iff.1 hj).1
      rw [← h7, List.getElem?_take_of_lt (by omega), Array.getElem?_toList] at hj
      simp [World.cell?, h3, hj]
    have e2 : es.getD i (0, 0) = es[i] := by simp [hi]
    rw [e2]
    exact ⟨hce _ _ k1, hce _ _ k2⟩

/-- A list of edges between so many nodes. -/
def Edg (B : Nat) (w : World) (v : Value) (m nodes : Nat) : Prop :=
  ∃ eb eo ec, v = .slice (some ⟨eb, eo, none⟩) m ec ∧ eb < B ∧ B ≤ w.heap.size ∧ ∀ i, i < m → ∃ a b : Nat, a < nodes ∧ b < nodes ∧ w.cell? ⟨eb, eo + i * 2, none⟩ = some (.int .i64 a) ∧ w.cell? ⟨eb, eo + i * 2 + 1, none⟩ = some (.int .i64 b)

/-- The cells of the edges. -/
def ecL (es : List (Nat × Nat)) : List Value := es.flatMap fun e => [.int .i64 (e.1 : Int), .int .i64 (e.2 : Int)]

theorem ecL_get : ∀ (es : List (Nat × Nat)) (i : Nat) (e : Nat × Nat), es[i]? = some e → (ecL es)[i * 2]? = some (.int .i64 (e.1 : Int)) ∧ (ecL es)[i * 2 + 1]? = some (.int .i64 (e.2 : Int))
  | [], i, e, h => by simp at h
  | x :: es, 0, e, h => by
    simp only [List.getElem?_cons_zero, Option.some.injEq] at h
    subst h
    exact ⟨rfl, rfl⟩
  | x :: es, i + 1, e, h => by
    simp only [List.getElem?_cons_succ] at h
    have := ecL_get es i e h
    have e1 : (i + 1) * 2 = i * 2 + 1 + 1 := by omega
    have e2 : ecL (x :: es) = .int .i64 (x.1 : Int) :: .int .i64 (x.2 : Int) :: ecL es := rfl
    rw [e1, e2]
    exact this

theorem ecL_len : ∀ es : List (Nat × Nat), (ecL es).length = es.length * 2
  | [] => rfl
  | e :: es => by
    have := ecL_len es
    unfold ecL at this ⊢
    simp only [List.flatMap_cons, List.length_append, List.length_cons, List.length_nil]
    omega

theorem infoE2 : (Try.prog.info? 27).map (fun i => (i.zero, i.size, i.bytes)) = some (some (.agg #[.int .i64 0, .int .i64 0]), 2, 16) := by kernel_rfl

def pickF (c n : Int) : Int := if c < 0 then (-(c + 1)) % n else c % n

theorem pickF_bd {c n : Int} (h : 1 ≤ n) : 0 ≤ pickF c n ∧ pickF c n < n := by
  unfold pickF
  split
  · exact ⟨Int.emod_nonneg _ (by omega), Int.emod_lt_of_pos _ (by omega)⟩
  · exact ⟨Int.emod_nonneg _ (by omega), Int.emod_lt_of_pos _ (by omega)⟩

set_option maxRecDepth 100000 in
set_option maxHeartbeats 400000 in
theorem pick_val (c n : Int) (w : World) (h1 : 1 ≤ n) (h2 : n ≤ 4611686018427387904) (hc : In64 c) :
    Calls Try.prog 4 #[.int .i64 c, .int .i64 n] w fun e w' => e = .returned (.int .i64 (pickF c n)) ∧ w' = w := by
  have c0 : -9223372036854775808 ≤ c := hc.1
  have c1 : c ≤ 9223372036854775807 := hc.2
  clear hc
  have hn0 : ¬ n = 0 := by omega
  by_cases hcn : c < 0
  · have HE : Hid (pickF c n = (-(c + 1)) % n) := if_pos hcn
    have e0 : (-(c + 1)).tmod n = (-(c + 1)) % n := Int.tmod_eq_emod_of_nonneg (by omega)
    have e1 := Int.emod_nonneg (-(c + 1)) hn0
    have e2 := Int.emod_lt_of_pos (-(c + 1)) (show 0 < n by omega)
    go_enter Try.func4, Try.ntmps4
    go_wp2
    go_ret
    exact ⟨by rw [HE.out]; rfl, rfl⟩
  · have HE : Hid (pickF c n = c % n) := if_neg hcn
    have e0 : c.tmod n = c % n := Int.tmod_eq_emod_of_nonneg (by omega)
    have e1 := Int.emod_nonneg c hn0
    have e2 := Int.emod_lt_of_pos c (show 0 < n by omega)
    go_enter Try.func4, Try.ntmps4
    go_wp2
    go_ret
    exact ⟨by rw [HE.out]; rfl, rfl⟩

theorem wrap_small {a : Nat} (ha : a < 4611686018427387904) : IntKind.i64.wrap (a : Int) = (a : Int) := by
  rw [IntWalk.i64_left]
  exact IntWalk.wrap64_in _ ⟨by omega, by omega⟩

theorem Edg.below {B : Nat} {w w' : World} {v : Value} {m nodes : Nat} (h : Edg B w v m nodes) (hb : Below B w w') : Edg B w' v m nodes := by
  obtain ⟨eb, eo, ec, h1, h2, h3, h4⟩ := h
  refine ⟨eb, eo, ec, h1, h2, Nat.le_trans h3 hb.size, fun i hi => ?_⟩
  obtain ⟨a, b, k1, k2, k3, k4⟩ := h4 i hi
  exact ⟨a, b, k1, k2, (hb.cell h2).trans k3, (hb.cell h2).trans k4⟩

set_option maxRecDepth 100000 in
set_option maxHeartbeats 800000 in
theorem graphEdges_any (nodes many : Nat) (raw : List Int) (v : Value) (w : World) (hv : Sl w.heap.size 3 w v (ints raw)) (hr : ∀ z ∈ raw, In64 z) (hl : raw.length ≤ 256) (hn1 : 1 ≤ nodes) (hn : nodes ≤ 8) (hm : many ≤ 8) (hm1 : 1 ≤ many) :
    Calls Try.prog 5 #[v, .int .i64 0, .int .i64 nodes, .int .i64 many] w fun e w' => ∃ u, e = .returned u ∧ Edg w'.heap.size w' u many nodes ∧ Below w.heap.size w w' := by
  obtain ⟨i2, hi2, hz20, hz21, hz22⟩ := info_parts infoE2
  obtain ⟨lo, lc, hvv, hlc, hcm⟩ := sl_open hv
  subst hvv
  have HRW : Hid (∀ W' (i : Nat), Below w.heap.size w W' → i ≤ 1000 → Calls Try.prog 13 #[.slice lo raw.length lc, .int .i64 i] W' fun e w' => ∃ z, e = .returned (.int .i64 z) ∧ (0 ≤ z ∧ z ≤ 4611686018427387904) ∧ Below w.heap.size w w' ∧ Below W'.heap.size W' w') := fun W' i h hi =>
    (raw_any w.heap.size raw _ i W' (hv.below h (Nat.le_refl _)) hr (by omega) (by omega)).mono (by
      rintro e w' ⟨z, h1, h2, h3⟩
      exact ⟨z, h1, h2, h.trans (h3.mono h.size), h3⟩)
  have HPK : Hid (∀ W' z, 0 ≤ z ∧ z ≤ 4611686018427387904 → ∃ a : Nat, a < nodes ∧ Calls Try.prog 4 #[.int .i64 z, .int .i64 nodes] W' fun e w' => e = .returned (.int .i64 a) ∧ w' = W') := fun W' z hz => by
    obtain ⟨k1, k2⟩ := pickF_bd (c := z) (n := (nodes : Int)) (by omega)
    refine ⟨(pickF z nodes).toNat, by omega, ?_⟩
    rw [Int.toNat_of_nonneg k1]
    exact pick_val z nodes W' (by omega) (by omega) ⟨by omega, by omega⟩
  clear hv hr
  go_enter Try.func5, Try.ntmps5
  go_wp2
  go_loopw [9, 10] (fun ev x wr => ∃ (k : Nat) (es : List (Nat × Nat)), k ≤ many ∧ x = .int .i64 k ∧ es.length = k ∧ (∀ e ∈ es, e.1 < nodes ∧ e.2 < nodes) ∧ wr.ownsRow w.heap.size 27 2 ev k (ecL es) ∧ Below w.heap.size w wr) (fun _ x _ => many - (intOf x).toNat)
  case atStart => exact ⟨0, [], Nat.zero_le _, rfl, rfl, fun e he => by simp at he, World.ownsRow_nil _ _ _ _, Below.refl _ _⟩
  case round =>
    obtain ⟨k, es, hk, rfl, hel, hes, ho, hbr⟩ := hrel
    have HO : Hid (wr.ownsRow w.heap.size 27 2 u9 k (ecL es)) := ho
    have HES : Hid (∀ e ∈ es, e.1 < nodes ∧ e.2 < nodes) := hes
    have HEL : Hid (es.length = k) := hel
    have HB : Hid (Below w.heap.size w wr) := hbr
    clear ho hes hel hbr
    by_cases hlt : k < many
    · have kI : (k : Int) < (many : Int) := by omega
      have a1 : IntKind.i64.wrap (2 * (k : Int)) = ((2 * k : Nat) : Int) := by
        rw [show (2 * (k : Int)) = ((2 * k : Nat) : Int) by omega]; exact wrap_small (by omega)
      have a2 : IntKind.i64.wrap ((2 * k : Nat) : Int) = ((2 * k : Nat) : Int) := wrap_small (by omega)
      obtain ⟨k2, hk2⟩ : ∃ k2 : Nat, k2 = 2 * k := ⟨_, rfl⟩
      obtain ⟨k3, hk3⟩ : ∃ k3 : Nat, k3 = 2 * k + 1 := ⟨_, rfl⟩
      rw [← hk2] at a1 a2
      have a3 : IntKind.i64.wrap ((k2 : Int) + 1) = (k3 : Int) := by
        rw [show ((k2 : Int) + 1) = (k3 : Int) by omega]; exact wrap_small (by omega)
      have h2 : k2 ≤ 1000 := by omega
      have h3 : k3 ≤ 1000 := by omega
      clear hk2 hk3
      go_wp2_with fail
      refine (HRW.out wr k2 HB.out h2).mono ?_
      rintro e w3 ⟨z, rfl, hz, hb3, hbx3⟩
      obtain ⟨a, ha, hca⟩ := HPK.out w3 z hz
      have HCA : Hid (Calls Try.prog 4 #[.int .i64 z, .int .i64 nodes] w3 fun e w' => e = .returned (.int .i64 a) ∧ w' = w3) := hca
      have HB3 : Hid (Below w.heap.size w w3) := hb3
      have HX3 : Hid (Below wr.heap.size wr w3) := hbx3
      clear hca hb3 hbx3
      go_wp2_with fail
      refine HCA.out.mono ?_
      rintro e w4 ⟨rfl, hw4⟩
      subst hw4
      go_wp2_with fail
      refine (HRW.out w4 k3 HB3.out h3).mono ?_
      rintro e w5 ⟨z2, rfl, hz2, hb5, hbx5⟩
      obtain ⟨b, hb, hcb⟩ := HPK.out w5 z2 hz2
      have HCB : Hid (Calls Try.prog 4 #[.int .i64 z2, .int .i64 nodes] w5 fun e w' => e = .returned (.int .i64 b) ∧ w' = w5) := hcb
      have HB5 : Hid (Below w.heap.size w w5) := hb5
      have HX5 : Hid (Below wr.heap.size wr w5) := HX3.out.trans (hbx5.mono HX3.out.size)
      clear hcb hb5 hbx5
      go_wp2_with fail
      refine HCB.out.mono ?_
      rintro e w6 ⟨rfl, hw6⟩
      subst hw6
      have HO6 : Hid (w6.ownsRow w.heap.size 27 2 u9 k (ecL es)) := by
        refine ⟨HO.out.1, ?_⟩
        rcases HO.out.2 with h1 | ⟨g, cap, cur, e1, h2, h3, h4⟩
        · exact .inl h1
        · exact .inr ⟨g, cap, cur, e1, h2, (HX5.out.block g (Array.getElem?_eq_some_iff.1 h3).1).trans h3, h4⟩
      have hszr : w.heap.size ≤ w6.heap.size := HB5.out.size
      have HNW : Hid (∀ j u, [Value.int .i64 (a : Int), .int .i64 (b : Int)][j]? = some u → (w6.alloc (.cells #[.int .i64 (a : Int), .int .i64 (b : Int)] 27)).cell? ((⟨w6.heap.size, 0, none⟩ : Addr).add j) = some u) := fun j u hj => by
        rcases j with _ | _ | j
        · simp at hj; subst hj; simp [Addr.add]
        · simp at hj; subst hj; simp [Addr.add]
        · simp at hj
      have HOC : Hid (∀ u ∈ [Value.int .i64 (a : Int), .int .i64 (b : Int)], u.oneCell' = true) := fun u hu => by
        simp at hu
        rcases hu with rfl | rfl <;> rfl
      go_wp2_with (first | (at_builtin; refine wpList_append_own _ rfl _ _ 24 rfl w.heap.size 27 i2 (.agg #[.int .i64 0, .int .i64 0]) 2 16 Try.underlying24 hi2 hz20 hz21 hz22 rfl (by decide) _ _ _ rfl (HO6.out.alloc _) ⟨w6.heap.size, 0, none⟩ 1 1 [.int .i64 (a : Int), .int .i64 (b : Int)] rfl rfl HNW.out HOC.out ?c3 ?c4 ?c5 ?_))
      case c3 => unfold maxLen; omega
      case c4 => omega
      case c5 => first | exact hszr | omega | (simp; omega)
      intro v' w7 ho7 hg7 _
      have R1 : Hid (w7.ownsRow w.heap.size 27 2 v' (k + 1) (ecL (es ++ [(a, b)]))) := by
        have e2 : ecL (es ++ [(a, b)]) = ecL es ++ [.int .i64 (a : Int), .int .i64 (b : Int)] := by simp [ecL]
        show World.ownsRow _ _ _ _ _ _ _
        rw [e2]
        exact ho7
      have R2 : Hid (Below w.heap.size w w7) := (HB5.out.alloc hszr _).grown hg7 (by simp; omega) (fun x hx => (HO6.out.lt x hx).1)
      have R3 : Hid (∀ e ∈ es ++ [(a, b)], e.1 < nodes ∧ e.2 < nodes) := fun e he => by
        rcases List.mem_append.1 he with he | he
        · exact HES.out e he
        · have : e = (a, b) := by simpa using he
          subst this
          exact ⟨ha, hb⟩
      have R4 : Hid ((es ++ [(a, b)]).length = k + 1) := by
        show _ = _
        rw [List.length_append, HEL.out]; rfl
      clear ho7 hg7
      go_wp2
      exact ⟨⟨k + 1, _, by omega, by go_num, R4.out, R3.out, R1.out, R2.out⟩, by simp [intOf]; omega⟩
    · have hke : many = k := by omega
      subst hke
      have HED : Hid (Edg wr.heap.size wr u9 many nodes) := by
        rcases HO.out.2 with ⟨_, h0⟩ | ⟨g, cap, cur, e1, h2, h3, h4, h5, h6, h7⟩
        · omega
        · refine ⟨g, 0, cap, e1, (Array.getElem?_eq_some_iff.1 h3).1, Nat.le_refl _, fun i hi => ?_⟩
          have hil : i < es.length := by rw [HEL.out]; exact hi
          obtain ⟨k1, k2⟩ := ecL_get es i es[i] (List.getElem?_eq_getElem hil)
          have hel := ecL_len es
          rw [HEL.out] at hel
          have hce : ∀ j u, (ecL es)[j]? = some u → wr.cell? ⟨g, 0 + j, none⟩ = some u := fun j u hj => by
            have hj2 := (List.getElem?_eq_some_iff.1 hj).1
            rw [← h7, List.getElem?_take_of_lt (by omega), Array.getElem?_toList] at hj
            simp [World.cell?, h3, hj]
          obtain ⟨n1, n2⟩ := HES.out es[i] (List.getElem_mem hil)
          exact ⟨_, _, n1, n2, hce _ _ k1, hce _ _ k2⟩
      go_wp2
      go_ret
      exact ⟨_, rfl, HED.out, HB.out⟩

end Go.Proofs.Ytmljnfgfjcjmmaa
