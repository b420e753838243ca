/- lp.leastWay. -/
import Derived.Test.YtdmkmljhljoojaaLp3
import Derived.Sort.CutIn
namespace Go.Proofs.Ytdmkmljhljoojaa
open Go.RowKit Go.Shelf Lin
attribute [local go_sem] Oper.semAt_some

def nilW : Value := .agg #[.slice none 0 0, .slice none 0 0, .int .i64 0]

/-- The least way, as it is told. -/
def LwV (d : Nat) (rows : List (List Int)) (g : List Int) (w : World) (tv : Value) : Prop :=
  (gmE d rows g ≠ 0 ∧ tv = nilW) ∨
  ∃ y co cc po pc, gmE d rows g = 0 ∧ lwO d rows g (waysL rows g) = some y ∧ tv = .agg #[.slice co y.length cc, .slice po y.length pc, .int .i64 (uW rows g y)] ∧ Sl 0 3 w (.slice co y.length cc) (ints y) ∧ Sl 0 3 w (.slice po y.length pc) (ints (mW rows g y))

/-- What three stores into a way come to. -/
theorem three_sets {w : World} {R : Nat} (a b c : Value) (h : ∃ x0 x1 x2, w.heap[R]? = some (.cells #[x0, x1, x2] 34 (0, 0))) :
    ∃ Ws, Ws = ((w.setCell ⟨R, 0, none⟩ a).setCell ⟨R, 1, none⟩ b).setCell ⟨R, 2, none⟩ c ∧ Ws.heap[R]? = some (.cells #[a, b, c] 34 (0, 0)) ∧ (∀ k, k ≠ R → Ws.heap[k]? = w.heap[k]?) ∧ Ws.heap.size = w.heap.size ∧ Ws.os = w.os ∧ Ws.tape = w.tape ∧ Ws.output = w.output := by
  obtain ⟨x0, x1, x2, h1⟩ := h
  have g1 : (w.setCell ⟨R, 0, none⟩ a).heap[R]? = some (.cells #[a, x1, x2] 34 (0, 0)) := by simp [World.setCell, Array.getElem?_modify, h1]
  have g2 : ((w.setCell ⟨R, 0, none⟩ a).setCell ⟨R, 1, none⟩ b).heap[R]? = some (.cells #[a, b, x2] 34 (0, 0)) := by rw [World.setCell]; simp [Array.getElem?_modify, g1]
  refine ⟨_, rfl, by rw [World.setCell]; simp [Array.getElem?_modify, g2], fun k h3 => ?_, by simp [World.setCell], rfl, rfl, rfl⟩
  rw [Below.heap_setCell _ _ _ _ h3, Below.heap_setCell _ _ _ _ h3, Below.heap_setCell _ _ _ _ h3]

/-- A block that bears a way. -/
def Wb (L : Nat) (w : World) : Prop := ∃ x0 x1 x2, w.heap[L]? = some (.cells #[x0, x1, x2] 34 (0, 0))
theorem Wb.frozen {L : Nat} {w : World} (h : Wb L w) : w.frozen? ⟨L, 0, none⟩ = false ∧ w.frozen? ⟨L, 1, none⟩ = false ∧ w.frozen? ⟨L, 2, none⟩ = false := by
  obtain ⟨a, b, c, h1⟩ := h
  exact ⟨by simp [World.frozen?, h1], by simp [World.frozen?, h1], by simp [World.frozen?, h1]⟩
theorem Wb.cells {L : Nat} {w : World} (h : Wb L w) : ∃ x0 x1 x2, w.cell? ⟨L, 0, none⟩ = some x0 ∧ w.cell? ⟨L, 1, none⟩ = some x1 ∧ w.cell? ⟨L, 2, none⟩ = some x2 := by
  obtain ⟨a, b, c, h1⟩ := h
  exact ⟨a, b, c, by simp [World.cell?, h1], by simp [World.cell?, h1], by simp [World.cell?, h1]⟩
theorem Wb.off {L b : Nat} {w : World} (h : Wb L w) (ht : (∃ cur, w.heap[b]? = some (.cells cur 25 (0, 0))) ∨ ∃ cur, w.heap[b]? = some (.cells cur 3 (0, 0))) : b ≠ L := by
  obtain ⟨a, b', c, h1⟩ := h
  rintro rfl
  rw [h1] at ht; simp at ht

theorem sl_keepL {L : Nat} {e : TypeId} {w W : World} {v : Value} {xs : List Value} (he : e = 25 ∨ e = 3) (h : Sl 0 e w v xs) (hL : Wb L w) (hk : ∀ b, b < w.heap.size → b ≠ L → W.heap[b]? = w.heap[b]?) : Sl 0 e W v xs :=
  h.move fun b hl ht => ⟨hk b hl (by
    rcases ht with ht | ht
    · omega
    · rcases he with rfl | rfl
      · exact hL.off (.inl ht)
      · exact hL.off (.inr ht)), ht⟩

theorem sl_keepLB {B L : Nat} {e : TypeId} {w W : World} {v : Value} {xs : List Value} (he : e = 25 ∨ e = 3) (hB : B ≤ L) (h : Sl B e w v xs) (hL : Wb L w) (hk : ∀ b, b < w.heap.size → b ≠ L → W.heap[b]? = w.heap[b]?) : Sl B e W v xs :=
  h.move fun b hl ht => ⟨hk b hl (by
    rcases ht with ht | ht
    · omega
    · rcases he with rfl | rfl
      · exact hL.off (.inl ht)
      · exact hL.off (.inr ht)), ht⟩

theorem mat_keepLB {B L : Nat} {w W : World} {v : Value} {m : List (List Int)} (hB : B ≤ L) (h : Mat B 25 3 w v m) (hL : Wb L w) (hk : ∀ b, b < w.heap.size → b ≠ L → W.heap[b]? = w.heap[b]?) : Mat B 25 3 W v m := by
  obtain ⟨vs, h1, h2, h4⟩ := h
  exact ⟨vs, h1, sl_keepLB (.inl rfl) hB h2 hL hk, fun i hi => sl_keepLB (.inr rfl) hB (h4 i hi) hL hk⟩

/-- What the way's own block bears. -/
def LeI (d : Nat) (rows : List (List Int)) (g : List Int) (L : Nat) (S : Nat → Prop) (pre : List (List Int)) (W : World) : Prop :=
  (pre = [] ∧ W.heap[L]? = some (.cells #[.slice none 0 0, .slice none 0 0, .int .i64 0] 34 (0, 0))) ∨
  ∃ y co cc po pc, lwO d rows g pre = some y ∧ W.heap[L]? = some (.cells #[.slice co y.length cc, .slice po y.length pc, .int .i64 (uW rows g y)] 34 (0, 0)) ∧ Sl 0 3 W (.slice co y.length cc) (ints y) ∧ Sl 0 3 W (.slice po y.length pc) (ints (mW rows g y)) ∧
    (∀ a, co = some a → ¬ S a.block ∧ isC W a.block) ∧ ∀ a, po = some a → ¬ S a.block ∧ isC W a.block

theorem LeI.wb {d : Nat} {rows : List (List Int)} {g : List Int} {L : Nat} {S : Nat → Prop} {pre : List (List Int)} {W : World} (h : LeI d rows g L S pre W) : Wb L W := by
  rcases h with ⟨_, h⟩ | ⟨y, co, cc, po, pc, _, h, _⟩
  · exact ⟨_, _, _, h⟩
  · exact ⟨_, _, _, h⟩

/-- Between the rounds. -/
structure LwI (d : Nat) (rows : List (List Int)) (g : List Int) (w WN : World) (NB L : Nat) (S : Nat → Prop) (pre : List (List Int)) (W : World) : Prop where
  sn : ∀ b, S b → NB ≤ b
  kp : Kpt (fun b => b < NB ∧ b ≠ L) WN W
  os : W.os = w.os
  tape : W.tape = w.tape
  output : W.output = w.output
  le : LeI d rows g L S pre W

theorem LeI.keep {d : Nat} {rows : List (List Int)} {g : List Int} {L : Nat} {S S' : Nat → Prop} {pre : List (List Int)} {W W' : World} (h : LeI d rows g L S pre W) (hL : W'.heap[L]? = W.heap[L]?) (hk : ∀ b, b < W.heap.size → ¬ S b → W'.heap[b]? = W.heap[b]?) (hs : ∀ b, S' b → S b ∨ W.heap.size ≤ b) : LeI d rows g L S' pre W' := by
  have hno : ∀ (a : Addr), ¬ S a.block ∧ isC W a.block → ¬ S' a.block ∧ isC W' a.block := fun a ha => ⟨fun hx => by
    rcases hs _ hx with h1 | h1
    · exact ha.1 h1
    · have := ha.2.lt; omega, ha.2.keep (hk _ ha.2.lt ha.1)⟩
  rcases h with ⟨h1, h2⟩ | ⟨y, co, cc, po, pc, h1, h2, h3, h4, h5, h6⟩
  · exact .inl ⟨h1, hL.trans h2⟩
  · exact .inr ⟨y, co, cc, po, pc, h1, hL.trans h2, sl_at_keep h3 (fun a ha hl => hk _ hl (h5 a ha).1), sl_at_keep h4 (fun a ha hl => hk _ hl (h6 a ha).1), fun a ha => hno a (h5 a ha), fun a ha => hno a (h6 a ha)⟩

theorem LwI.stab {d : Nat} {rows : List (List Int)} {g : List Int} {w WN W W' : World} {NB L : Nat} {S S' : Nat → Prop} {pre : List (List Int)} (h : LwI d rows g w WN NB L S pre W) (hL : L < NB) (hN : NB ≤ WN.heap.size) (hc : Chg S W W') (hs : ∀ b, S' b → S b ∨ W.heap.size ≤ b) : LwI d rows g w WN NB L S' pre W' := by
  have h0 := h.kp.size
  refine ⟨fun b hb => ?_, h.kp.trans (Kpt.of_chg hc fun i _ hi hsi => ?_), hc.os.trans h.os, hc.tape.trans h.tape, hc.output.trans h.output, h.le.keep (hc.block L (by omega) (fun hx => by have := h.sn L hx; omega)) (fun b hb hsb => hc.block b hb hsb) hs⟩
  · rcases hs b hb with h1 | h1
    · exact h.sn b h1
    · omega
  · have := h.sn i hsi
    omega

/-- A way that says less is held. -/
theorem lw_store {d : Nat} {rows : List (List Int)} {g : List Int} {w WN W1 X Ws : World} {NB L : Nat} {S : Nat → Prop} {pre : List (List Int)} {y : List Int} {co mo : Option Addr} {cc mc : Nat} (hi : LwI d rows g w WN NB L S pre W1) (hL : L < NB) (hb : Below W1.heap.size W1 X)
    (g1 : Ws.heap[L]? = some (.cells #[.slice co y.length cc, .slice mo y.length mc, .int .i64 (uW rows g y)] 34 (0, 0))) (g2 : ∀ k, k ≠ L → Ws.heap[k]? = X.heap[k]?) (g3 : Ws.heap.size = X.heap.size) (g4 : Ws.os = X.os) (g5 : Ws.tape = X.tape) (g6 : Ws.output = X.output)
    (hcs : Sl 0 3 W1 (.slice co y.length cc) (ints y)) (hms : Sl 0 3 W1 (.slice mo y.length mc) (ints (mW rows g y))) (hcb : ∀ a, co = some a → ¬ S a.block ∧ isC W1 a.block) (hmb : ∀ a, mo = some a → ¬ S a.block ∧ isC W1 a.block) (hlw : lwO d rows g (pre ++ [y]) = some y) :
    Kpt (fun b => S b ∨ (b < NB ∧ b ≠ L)) W1 Ws ∧ LwI d rows g w WN NB L S (pre ++ [y]) Ws := by
  have h0 := hi.kp.size
  have hsb := hb.size
  have hnL : ∀ b, S b → b ≠ L := fun b hx e => by have := hi.sn b hx; omega
  have hbk : ∀ b, b < W1.heap.size → b ≠ L → Ws.heap[b]? = W1.heap[b]? := fun b hl hne => (g2 b hne).trans (hb.block b hl)
  have hwb := hi.le.wb
  have ty : ∀ {v : Value} {xs : List Value}, Sl 0 3 W1 v xs → Sl 0 3 Ws v xs := fun h => sl_keepL (.inr rfl) h hwb hbk
  have hno : ∀ a : Addr, ¬ S a.block ∧ isC W1 a.block → ¬ S a.block ∧ isC Ws a.block := by
    rintro a ⟨h1, cur, t, h3⟩
    refine ⟨h1, ?_⟩
    by_cases e : a.block = L
    · exact ⟨_, _, by rw [e]; exact g1⟩
    · exact ⟨cur, t, (hbk _ (Array.getElem?_eq_some_iff.1 h3).1 e).trans h3⟩
  refine ⟨⟨by omega, fun b hl hx => hbk b hl (hx.elim (hnL b) fun h => h.2)⟩, hi.sn, hi.kp.trans ⟨by omega, fun b hl hx => hbk b hl hx.2⟩, g4.trans (hb.os.trans hi.os), g5.trans (hb.tape.trans hi.tape), g6.trans (hb.output.trans hi.output), .inr ⟨y, co, cc, mo, mc, hlw, g1, ty hcs, ty hms, fun a ha => hno a (hcb a ha), fun a ha => hno a (hmb a ha)⟩⟩

theorem lw_skip {d : Nat} {rows : List (List Int)} {g : List Int} {w WN W1 X : World} {NB L : Nat} {S : Nat → Prop} {pre : List (List Int)} {y z : List Int} (hi : LwI d rows g w WN NB L S pre W1) (hL : L < NB) (hN : NB ≤ WN.heap.size) (hb : Below W1.heap.size W1 X) (hz : lwO d rows g pre = some z) (hlw : lwO d rows g (pre ++ [y]) = some z) :
    Kpt (fun b => S b ∨ (b < NB ∧ b ≠ L)) W1 X ∧ LwI d rows g w WN NB L S (pre ++ [y]) X := by
  have h0 := hi.kp.size
  have hle := hi.le.keep (S' := S) (W' := X) (hb.block L (by omega)) (fun b hl _ => hb.block b hl) (fun b h => .inl h)
  refine ⟨⟨hb.size, fun b hl _ => hb.block b hl⟩, hi.sn, hi.kp.trans ⟨hb.size, fun b hl _ => hb.block b hl⟩, hb.os.trans hi.os, hb.tape.trans hi.tape, hb.output.trans hi.output, ?_⟩
  rcases hle with ⟨h1, _⟩ | ⟨z', co, cc, po, pc, h1, h2⟩
  · subst h1; simp [lwO] at hz
  · rw [hz] at h1
    simp only [Option.some.injEq] at h1
    subst h1
    exact .inr ⟨z, co, cc, po, pc, hlw, h2⟩

set_option maxRecDepth 100000 in
set_option maxHeartbeats 8000000 in
theorem leastWay_any (d : Nat) (rows : List (List Int)) (g : List Int) (v gv : Value) (w : World) {B0 B1 : Nat} (hv0 : Mat B0 25 3 w v rows) (hg0 : Sl B1 3 w gv (ints g)) (hc : CutF d rows) (hgl : g.length = d) (hgb : ∀ z ∈ g, z.natAbs ≤ 20) :
    Calls Try.prog 21 #[.agg #[.int .i64 d, v], gv] w fun e w' => ∃ tv, e = .returned (.tuple #[tv, .int .i64 (gmE d rows g)]) ∧ LwV d rows g w' tv ∧ Below w.heap.size w w' := by
  have hv : Mat w.heap.size 25 3 w v rows := hv0.any (Nat.le_refl _)
  have hg : Sl w.heap.size 3 w gv (ints g) := hg0.any (Nat.le_refl _)
  clear hv0 hg0
  obtain ⟨ro, rc, hvv, hlc, hcm⟩ := mat_open hv
  obtain ⟨go, gc, hgg, _, _⟩ := sl_open hg
  rw [hgl] at hgg
  subst hvv hgg
  obtain ⟨W, hW, hbW, hsW, hkC, hkR⟩ := cut_res w d (.slice ro rows.length rc)
  have HWW : Hid (W = (w.alloc (.cells #[.int .i64 d, .slice ro rows.length rc] 24)).alloc (.cells #[.slice none 0 0, .slice none 0 0, .int .i64 0] 34)) := hW
  have HBW : Hid (∀ X, Below W.heap.size W X → Below w.heap.size w X) := fun X hX => hbW.trans (hX.mono hbW.size)
  have HSW : Hid (W.heap.size = w.heap.size + 2) := hsW
  have HKC : Hid (∀ X, Below W.heap.size W X → X.heap[w.heap.size]? = some (.cells #[.int .i64 d, .slice ro rows.length rc] 24 (0, 0))) := fun X hX => (hX.block _ (by omega)).trans hkC
  have HKR : Hid (∀ X, Below W.heap.size W X → Wb (w.heap.size + 1) X) := fun X hX => ⟨_, _, _, (hX.block _ (by omega)).trans hkR⟩
  have HVW : Hid (∀ X, Below W.heap.size W X → Mat w.heap.size 25 3 X (.slice ro rows.length rc) rows) := fun X hX => hv.below (HBW.out X hX) (Nat.le_refl _)
  have HGW : Hid (∀ X, Below W.heap.size W X → Sl w.heap.size 3 X (.slice go d gc) (ints g)) := fun X hX => hg.below (HBW.out X hX) (Nat.le_refl _)
  have HC : Hid (CutF d rows) := hc
  have HGL : Hid (g.length = d) := hgl
  have HGB : Hid (∀ z ∈ g, z.natAbs ≤ 20) := hgb
  have HCG : Hid (Calls Try.prog 32 #[.agg #[.int .i64 d, .slice ro rows.length rc], .slice go d gc] W fun e w' => e = .returned (.int .i64 (if empB d rows = true then 6 else 0)) ∧ Below W.heap.size W w') := checkGoal_ok d rows g _ _ W (HVW.out W (Below.refl _ _)) (HGW.out W (Below.refl _ _)) hc hgl hgb
  have c0 : W.cell? ⟨w.heap.size, 0, none⟩ = some (.int .i64 d) := by simp [World.cell?, hkC]
  have c1 : W.cell? ⟨w.heap.size, 1, none⟩ = some (.slice ro rows.length rc) := by simp [World.cell?, hkC]
  clear hv hg hc hgl hgb hW hbW hsW hkC hkR
  refine callsIn_wide (n := 0).1 ?_
  refine callsIn_of_wp_marks Try.func21 rfl trivial ?_ rfl
  simp only [Try.ntmps21, List.size_toArray, List.length_cons, List.length_nil, Nat.reduceAdd, Nat.reduceSub, Array.replicate_succ, Array.replicate_zero, List.push_toArray, List.append_toArray, List.nil_append, List.cons_append]
  gi_upto_region 1 with fail
  rw [← HWW.out]
  gi_wp2_with fail
  refine ⟨trivial, rfl, ?_⟩
  refine (callsIn_wide.2 HCG.out).mono ?_
  rintro e w1 ⟨rfl, hb1⟩
  have HB1 : Hid (Below W.heap.size W w1) := hb1
  have hbl1 := HKC.out w1 hb1
  have hsz1 := hb1.size
  obtain ⟨f0, f1, f2⟩ := (HKR.out w1 hb1).frozen
  obtain ⟨x0, x1, x2, r0, r1, r2⟩ := (HKR.out w1 hb1).cells
  clear hb1 HCG c0 c1
  cases heb : empB d rows
  case true =>
    have HE : Hid (gmE d rows g = 6) := by show _ = _; unfold gmE; rw [if_pos heb]
    clear heb
    gi_wp2
    obtain ⟨Ws, hWs, g1, g2, g3, g4, g5, g6⟩ := three_sets (.slice none 0 0) (.slice none 0 0) (.int .i64 0) (HKR.out w1 HB1.out)
    rw [← hWs]
    have hs1 := HSW.out
    have hs2 := HB1.out.size
    have hbw := HBW.out w1 HB1.out
    refine leaves_mks [] Ws (by simp) (fun r hr => by simp at hr) (fun w' hc => ⟨.tuple #[nilW, .int .i64 6], ?_, ?_⟩)
    · have q1 : w'.heap[w.heap.size + 1]? = _ := (hc.block _ (by omega) (by simp)).trans g1
      simp [results, Try.results21, go_sem, World.cell?, q1, nilW]
    · refine ⟨nilW, by rw [HE.out], .inl ⟨by rw [HE.out]; decide, rfl⟩, hc.os.trans (g4.trans hbw.os), hc.tape.trans (g5.trans hbw.tape), hc.output.trans (g6.trans hbw.output), by have := hc.size; omega, fun b hb => ?_⟩
      exact (hc.block b (by omega) (by simp)).trans ((g2 b (by omega)).trans (hbw.block b hb))
  case false =>
    have HE : Hid (gmE d rows g = if waysL rows g = [] then 7 else 0) := by show _ = _; unfold gmE; rw [if_neg (by rw [heb]; decide)]
    clear heb
    have c0 : w1.cell? ⟨w.heap.size, 0, none⟩ = some (.int .i64 d) := by simp [World.cell?, hbl1]
    have c1 : w1.cell? ⟨w.heap.size, 1, none⟩ = some (.slice ro rows.length rc) := by simp [World.cell?, hbl1]
    gi_upto_region 6 with fail
    obtain ⟨F, hF⟩ : ∃ F, F = w1.heap.size := ⟨_, rfl⟩
    obtain ⟨w3, hw3⟩ : ∃ w3, w3 = (w1.alloc (.cells #[.func (.func 33) #[] #[.pointer (some ⟨w.heap.size, 0, none⟩)]] 58)).alloc (.cells #[.slice none 0 0, .slice none 0 0, .int .i64 0] 34) := ⟨_, rfl⟩
    rw [← hw3, ← hF]
    have k1 := alloc_keep w1 (.cells #[.func (.func 33) #[] #[.pointer (some ⟨w.heap.size, 0, none⟩)]] 58)
    have k2 := alloc_keep (w1.alloc (.cells #[.func (.func 33) #[] #[.pointer (some ⟨w.heap.size, 0, none⟩)]] 58)) (.cells #[.slice none 0 0, .slice none 0 0, .int .i64 0] 34)
    have hb13 : Below w1.heap.size w1 w3 := by rw [hw3]; exact k1.trans (k2.mono k1.size)
    have hs3 : w3.heap.size = F + 2 := by rw [hw3, size_alloc, size_alloc, hF]
    have hkF : w3.heap[F]? = some (.cells #[.func (.func 33) #[] #[.pointer (some ⟨w.heap.size, 0, none⟩)]] 58 (0, 0)) := by
      rw [hw3, hF]; exact (k2.block _ (by rw [size_alloc]; omega)).trans (alloc_new _ _)
    have hkL : w3.heap[F + 1]? = some (.cells #[.slice none 0 0, .slice none 0 0, .int .i64 0] 34 (0, 0)) := by
      have := alloc_new (w1.alloc (.cells #[.func (.func 33) #[] #[.pointer (some ⟨w.heap.size, 0, none⟩)]] 58)) (.cells #[.slice none 0 0, .slice none 0 0, .int .i64 0] 34)
      rw [size_alloc] at this
      rw [hw3, hF]; exact this
    have hB3 : Below W.heap.size W w3 := HB1.out.trans (hb13.mono HB1.out.size)
    have hFw : w.heap.size + 2 ≤ F := by have := HSW.out; omega
    have c0 : w3.cell? ⟨w.heap.size, 0, none⟩ = some (.int .i64 d) := by simp [World.cell?, HKC.out w3 hB3]
    have c1 : w3.cell? ⟨w.heap.size, 1, none⟩ = some (.slice ro rows.length rc) := by simp [World.cell?, HKC.out w3 hB3]
    have HB3 : Hid (Below W.heap.size W w3) := hB3
    have HS3 : Hid (w3.heap.size = F + 2) := hs3
    clear hs3
    clear hw3 hF k1 k2 hb13 hB3 f0 f1 f2 r0 r1 r2 hbl1
    gi_wp2_with (refine ⟨trivial, rfl, ?_⟩; gi_at_call 34; refine (callsIn_wide.2 (waysF_any _ _ _ _ _ _ _ _ _ rfl rfl)).mono ?_; rintro e w' ⟨rfl, rfl⟩)
    obtain ⟨NB, hNB⟩ : ∃ NB, NB = w3.heap.size := ⟨_, rfl⟩
    rw [← hNB]
    have hs3 := HS3.out
    obtain ⟨WN, hWN⟩ : ∃ WN, WN = (w3.alloc (.cells #[.slice ro rows.length rc] 22)).alloc (.cells #[.slice go d gc] 25) := ⟨_, rfl⟩
    rw [← hWN]
    have n1 : WN.heap[NB]? = some (.cells #[.slice ro rows.length rc] 22 (0, 0)) := by
      rw [hWN, hNB]; exact ((alloc_keep _ _).block _ (by rw [size_alloc]; omega)).trans (alloc_new _ _)
    have n2 : WN.heap[NB + 1]? = some (.cells #[.slice go d gc] 25 (0, 0)) := by
      have := alloc_new (w3.alloc (.cells #[.slice ro rows.length rc] 22)) (.cells #[.slice go d gc] 25)
      rw [size_alloc] at this
      rw [hWN, hNB]; exact this
    have hsN : WN.heap.size = NB + 2 := by rw [hWN, size_alloc, size_alloc, hNB]
    have hb3N : Below w3.heap.size w3 WN := by rw [hWN]; exact (alloc_keep _ _).trans ((alloc_keep _ _).mono (by rw [size_alloc]; omega))
    have hwL : Wb (F + 1) w3 := ⟨_, _, _, hkL⟩
    have hkeep : ∀ X, Kpt (fun b => b < NB ∧ b ≠ F + 1) WN X → ∀ b, b < w3.heap.size → b ≠ F + 1 → X.heap[b]? = w3.heap[b]? := fun X hk b hb hne => (hk.block b (by omega) ⟨by omega, hne⟩).trans (hb3N.block b hb)
    have hmK : ∀ X, Kpt (fun b => b < NB ∧ b ≠ F + 1) WN X → Mat w.heap.size 25 3 X (.slice ro rows.length rc) rows := fun X hk => mat_keepLB (by omega) (HVW.out w3 HB3.out) hwL (hkeep X hk)
    have hgK : ∀ X, Kpt (fun b => b < NB ∧ b ≠ F + 1) WN X → Sl w.heap.size 3 X (.slice go d gc) (ints g) := fun X hk => sl_keepLB (.inr rfl) (by omega) (HGW.out w3 HB3.out) hwL (hkeep X hk)
    have hcC : ∀ X, Kpt (fun b => b < NB ∧ b ≠ F + 1) WN X → X.heap[w.heap.size]? = some (.cells #[.int .i64 d, .slice ro rows.length rc] 24 (0, 0)) ∧ X.heap[F]? = some (.cells #[.func (.func 33) #[] #[.pointer (some ⟨w.heap.size, 0, none⟩)]] 58 (0, 0)) ∧ Wb (w.heap.size + 1) X := fun X hk => by
      refine ⟨(hkeep X hk _ (by omega) (by omega)).trans (HKC.out w3 HB3.out), (hkeep X hk _ (by omega) (by omega)).trans hkF, ?_⟩
      obtain ⟨a1, a2, a3, h⟩ := HKR.out w3 HB3.out
      exact ⟨a1, a2, a3, (hkeep X hk _ (by omega) (by omega)).trans h⟩
    have HSQ : SeqS Try.prog 43 #[.pointer (some ⟨NB + 1, 0, none⟩), .pointer (some ⟨NB, 0, none⟩)] (HandW rows g) (waysL rows g) (fun b => b < NB ∧ b ≠ F + 1) (fun b => b = NB + 1 ∨ b = NB) WN :=
      ways_seq w.heap.size (NB + 1) NB rows g ro go rc gc (fun b => b < NB ∧ b ≠ F + 1) WN (by rw [HGL.out]; exact cell_of n2) (cell_of n1)
        (fun X hk => hmK X hk) (fun X hk => by rw [HGL.out]; exact hgK X hk)
        (fun b hb => by have := hb.1; omega)
        (fun r hr => ⟨by rw [HGL.out, HC.out.len r hr]; omega, fun z hz => by have := HC.out.bd r hr z hz; omega⟩)
        (fun z hz => by have := HGB.out z hz; omega) (by rw [HGL.out]; exact HC.out.d1) (by rw [HGL.out]; have := HC.out.d4; omega) (by have := HC.out.n12; omega)
    have HSZ : Hid (WN.heap.size = NB + 2) := hsN
    have HNF : Hid (NB = F + 2 ∧ w.heap.size + 2 ≤ F) := ⟨by rw [hNB]; exact hs3, hFw⟩
    have HMK : Hid (∀ X, Kpt (fun b => b < NB ∧ b ≠ F + 1) WN X → Mat w.heap.size 25 3 X (.slice ro rows.length rc) rows) := hmK
    have HCC : Hid (∀ X, Kpt (fun b => b < NB ∧ b ≠ F + 1) WN X → X.heap[w.heap.size]? = some (.cells #[.int .i64 d, .slice ro rows.length rc] 24 (0, 0)) ∧ X.heap[F]? = some (.cells #[.func (.func 33) #[] #[.pointer (some ⟨w.heap.size, 0, none⟩)]] 58 (0, 0)) ∧ Wb (w.heap.size + 1) X) := hcC
    have HBN : Hid (∀ b, b < w.heap.size → WN.heap[b]? = w.heap[b]?) := fun b hb => (hb3N.block b (by omega)).trans ((HBW.out w3 HB3.out).block b hb)
    have HBO : Hid (WN.os = w.os ∧ WN.tape = w.tape ∧ WN.output = w.output) := ⟨hb3N.os.trans (HBW.out w3 HB3.out).os, hb3N.tape.trans (HBW.out w3 HB3.out).tape, hb3N.output.trans (HBW.out w3 HB3.out).output⟩
    have HI0 : Hid (LwI d rows g w WN NB (F + 1) (fun b => b = NB + 1 ∨ b = NB) [] WN) := ⟨fun b hb => by omega, Kpt.refl _ _, HBO.out.1, HBO.out.2.1, HBO.out.2.2, .inl ⟨rfl, (hb3N.block _ (by omega)).trans hkL⟩⟩
    have HOK : Hid (∀ y, y ∈ waysL rows g → WyOk rows y (mW rows g y) (uW rows g y)) := fun y hy => way_ok HC.out HGL.out HGB.out hy
    have HRW : Hid (RwE d rows) := HC.out.rw
    clear n1 n2 hmK hgK hcC hb3N hNB hWN hwL hkeep hkF hkL hs3 c0 c1
    refine range_s (R := HandW rows g) (cs := waysL rows g) (T := fun b => b < NB ∧ b ≠ F + 1) (S0 := fun b => b = NB + 1 ∨ b = NB) (gf := 43) (lb := #[.pointer (some ⟨NB + 1, 0, none⟩), .pointer (some ⟨NB, 0, none⟩)]) rfl (enters_of Try.func43 (by kernel_rfl) rfl) HSQ (fun b hb => by omega)
      (fun W' S x vs ⟨_, _, _, _, h1, _⟩ => by rw [h1]; rfl) (handW_below _ _) (handW_put _ _)
      (fun S pre W' => LwI d rows g w WN NB (F + 1) S pre W')
      (fun c S pre W' => False)
      (fun S S' pre W' W'' h hc hs => h.stab (by have := HNF.out.1; omega) (by have := HSZ.out; omega) hc hs) (fun c S S' pre W' W'' h hc hs => h) HI0.out
      (fun vs a' W' => ∃ p' q' u' bx, vs = #[.agg #[p', q', u']] ∧ W'.heap[bx]? = some (.cells #[p', q', u'] 34 (0, 0)) ∧ a' = { tmps := #[.agg #[.int .i64 d, .slice ro rows.length rc], .slice go d gc, .pointer (some ⟨w.heap.size, 0, none⟩), undef, .pointer (some ⟨w.heap.size + 1, 0, none⟩), .int .i64 0, .int .i64 0, .pointer (some ⟨F, 0, none⟩), .pointer (some ⟨F + 1, 0, none⟩), .pointer (some ⟨bx, 0, none⟩), .agg #[.int .i64 d, .slice ro rows.length rc], .slice go d gc, .int .i64 0, .int .i64 0, .bool false, undef, undef, .func (.func 33) #[] #[.pointer (some ⟨w.heap.size, 0, none⟩)], .pointer (some ⟨w.heap.size, 1, none⟩), .slice ro rows.length rc, .slice go d gc, .func (.func 43) #[] #[.pointer (some ⟨NB + 1, 0, none⟩), .pointer (some ⟨NB, 0, none⟩)], .agg #[p', q', u'], undef, undef, undef, undef, undef, undef, undef, undef, undef, undef, undef, undef, undef, undef, undef], defers := [] })
      ?hax ?assign ?body ?tl ?done ?stop
    case hax =>
      rintro vs a' W' l r o ⟨p', q', u', bx, h1, h2, h3⟩ hl
      exact ⟨p', q', u', bx, h1, (World.putObj_heap_other (fun e => by subst e; rw [hl] at h2; cases h2)).trans h2, h3⟩
    case tl => exact fun h => by have := h.1; have := HSZ.out; omega
    case assign =>
      rintro S y vs W' K ⟨co, cc, mo, mc, rfl, h2, h3⟩ hK
      gi_wp2
      exact hK _ _ (alloc_keep _ _) ⟨_, _, _, W'.heap.size, rfl, alloc_new _ _, rfl⟩
    case body =>
      rintro S pre y vs a' W1 hi hSD hSL hlt1 hdf hlp hpre ⟨S1, ⟨co, cc, mo, mc, hvs, hwb, hcs, hms, hcb, hmb, hslt⟩, hS1⟩ ⟨p', q', u', bx, hvs', hbx, rfl⟩
      rw [hvs] at hvs'
      simp only [Array.mk.injEq, List.cons.injEq, Value.agg.injEq, and_true] at hvs'
      obtain ⟨rfl, rfl, rfl⟩ := hvs'
      have hbx : W1.heap[bx]? = some (.cells #[.slice co y.length cc, .slice mo y.length mc, .int .i64 (uW rows g y)] 34 (0, 0)) := hbx
      have hms : Sl 0 3 W1 (.slice mo y.length mc) (ints (mW rows g y)) := hms
      have hno : ∀ a : Addr, ¬ S1 a.block ∧ isC W1 a.block → ¬ S a.block ∧ isC W1 a.block := by
        rintro a ⟨h1, cur, t, h3⟩
        refine ⟨fun hx => ?_, cur, t, h3⟩
        rcases (hS1 _).1 hx with h | h | h
        · exact h1 h
        · rw [h] at h3; rw [hdf] at h3; cases h3
        · obtain ⟨r, hlp⟩ := hlp; rw [h] at h3; rw [hlp] at h3; cases h3
      have HCB : Hid (∀ a, co = some a → ¬ S a.block ∧ isC W1 a.block) := fun a ha => hno a (hcb a ha)
      have HMB : Hid (∀ a, mo = some a → ¬ S a.block ∧ isC W1 a.block) := fun a ha => hno a (hmb a ha)
      have HCS : Hid (Sl 0 3 W1 (.slice co y.length cc) (ints y)) := hcs
      have HMS : Hid (Sl 0 3 W1 (.slice mo y.length mc) (ints (mW rows g y))) := hms
      have HI : Hid (LwI d rows g w WN NB (F + 1) S pre W1) := hi
      have hym : y ∈ waysL rows g := hpre.subset (by simp)
      have HPM : Hid (∀ z ∈ pre, z ∈ waysL rows g) := fun z hz => hpre.subset (List.mem_append_left _ hz)
      have HYO : Hid (WyOk rows y (mW rows g y) (uW rows g y)) := HOK.out y hym
      have b0' : W1.cell? ⟨bx, 0, none⟩ = some (.slice co y.length cc) := by simp [World.cell?, hbx]
      have b1' : W1.cell? ⟨bx, 1, none⟩ = some (.slice mo y.length mc) := by simp [World.cell?, hbx]
      have b2' : W1.cell? ⟨bx, 2, none⟩ = some (.int .i64 (uW rows g y)) := by simp [World.cell?, hbx]
      have HBX : Hid (W1.heap[bx]? = some (.cells #[.slice co y.length cc, .slice mo y.length mc, .int .i64 (uW rows g y)] 34 (0, 0))) := hbx
      obtain ⟨hkc, hkf, _⟩ := HCC.out W1 hi.kp
      have cf : W1.cell? ⟨F, 0, none⟩ = some (.func (.func 33) #[] #[.pointer (some ⟨w.heap.size, 0, none⟩)]) := by simp [World.cell?, hkf]
      have HKCC : Hid (W1.heap[w.heap.size]? = some (.cells #[.int .i64 d, .slice ro rows.length rc] 24 (0, 0))) := hkc
      obtain ⟨f0, f1, f2⟩ := hi.le.wb.frozen
      have hle := hi.le
      clear hi hcs hms hcb hmb hslt hS1 hdf hlp hpre hwb hvs hbx hno hkc hkf HSQ
      rcases hle with ⟨hp0, hL0⟩ | ⟨z, zo, zc, po, pc, hz, hL0, hzs, hps, _, _⟩
      · have l0 : W1.cell? ⟨F + 1, 0, none⟩ = some (.slice none 0 0) := by simp [World.cell?, hL0]
        have l1 : W1.cell? ⟨F + 1, 1, none⟩ = some (.slice none 0 0) := by simp [World.cell?, hL0]
        have l2 : W1.cell? ⟨F + 1, 2, none⟩ = some (.int .i64 0) := by simp [World.cell?, hL0]
        have HLW : Hid (lwO d rows g (pre ++ [y]) = some y) := by show _ = _; rw [hp0]; rfl
        clear hL0
        gi_wp2
        refine ⟨fun f hf => (by cases hf), ?_⟩
        gi_wp2
        obtain ⟨Ws, hWs, g1, g2, g3, g4, g5, g6⟩ := three_sets (.slice co y.length cc) (.slice mo y.length mc) (.int .i64 (uW rows g y)) HI.out.le.wb
        rw [← hWs]
        exact lw_store HI.out (by have := HNF.out.1; omega) (Below.refl _ _) g1 g2 g3 g4 g5 g6 HCS.out HMS.out HCB.out HMB.out HLW.out
      · have l0 : W1.cell? ⟨F + 1, 0, none⟩ = some (.slice zo z.length zc) := by simp [World.cell?, hL0]
        have l1 : W1.cell? ⟨F + 1, 1, none⟩ = some (.slice po z.length pc) := by simp [World.cell?, hL0]
        have l2 : W1.cell? ⟨F + 1, 2, none⟩ = some (.int .i64 (uW rows g z)) := by simp [World.cell?, hL0]
        have hzm := HPM.out z (lwO_mem hz)
        have hzp := uW_pos hzm
        have hz0 : (uW rows g z == 0) = false := by rw [beq_eq_false_iff_ne]; omega
        have HLA : Hid (Calls Try.prog 33 #[.agg #[.slice co y.length cc, .slice mo y.length mc, .int .i64 (uW rows g y)], .agg #[.slice zo z.length zc, .slice po z.length pc, .int .i64 (uW rows g z)], .pointer (some ⟨w.heap.size, 0, none⟩)] W1 fun e w' => e = .returned (.bool (decide (sdL rows d y (mW rows g y) * uW rows g z < sdL rows d z (mW rows g z) * uW rows g y))) ∧ Below W1.heap.size W1 w') :=
          less_any d rows y (mW rows g y) z (mW rows g z) (uW rows g y) (uW rows g z) _ co mo zo po cc mc zc pc y.length z.length w.heap.size W1 (HMK.out W1 HI.out.kp) HKCC.out HCS.out HMS.out hzs hps HRW.out HYO.out (HOK.out z hzm) rfl rfl
        have HZ : Hid (lwO d rows g pre = some z) := hz
        have HLS : Hid (lwO d rows g (pre ++ [y]) = if sdL rows d y (mW rows g y) * uW rows g z < sdL rows d z (mW rows g z) * uW rows g y then some y else some z) := by show _ = _; rw [lwO_snoc, hz]; rfl
        have HL0 : Hid (W1.heap[F + 1]? = some (.cells #[.slice zo z.length zc, .slice po z.length pc, .int .i64 (uW rows g z)] 34 (0, 0))) := hL0
        clear hzs hps hL0 hzm hzp hz
        gi_wp2_with fail
        refine ⟨trivial, rfl, ?_⟩
        refine (CallsIn.inRound _ (callsIn_wide.2 HLA.out)).mono ?_
        rintro e w5 ⟨rfl, hb5⟩
        have HB5 : Hid (Below W1.heap.size W1 w5) := hb5
        have hbx5 := (hb5.block bx (Array.getElem?_eq_some_iff.1 HBX.out).1).trans HBX.out
        have hL5 := (hb5.block (F + 1) (Array.getElem?_eq_some_iff.1 HL0.out).1).trans HL0.out
        clear b0' b1' b2' l0 l1 l2 f0 f1 f2 cf hb5 HLA
        have b0' : w5.cell? ⟨bx, 0, none⟩ = some (.slice co y.length cc) := by simp [World.cell?, hbx5]
        have b1' : w5.cell? ⟨bx, 1, none⟩ = some (.slice mo y.length mc) := by simp [World.cell?, hbx5]
        have b2' : w5.cell? ⟨bx, 2, none⟩ = some (.int .i64 (uW rows g y)) := by simp [World.cell?, hbx5]
        have l0 : w5.cell? ⟨F + 1, 0, none⟩ = some (.slice zo z.length zc) := by simp [World.cell?, hL5]
        have l1 : w5.cell? ⟨F + 1, 1, none⟩ = some (.slice po z.length pc) := by simp [World.cell?, hL5]
        have l2 : w5.cell? ⟨F + 1, 2, none⟩ = some (.int .i64 (uW rows g z)) := by simp [World.cell?, hL5]
        have HW5 : Hid (Wb (F + 1) w5) := ⟨_, _, _, hL5⟩
        obtain ⟨f0, f1, f2⟩ := HW5.out.frozen
        clear hbx5 hL5
        by_cases hlt : sdL rows d y (mW rows g y) * uW rows g z < sdL rows d z (mW rows g z) * uW rows g y
        · have HLW : Hid (lwO d rows g (pre ++ [y]) = some y) := by show _ = _; rw [HLS.out, if_pos hlt]
          have hdt : decide (sdL rows d y (mW rows g y) * uW rows g z < sdL rows d z (mW rows g z) * uW rows g y) = true := decide_eq_true hlt
          rw [hdt]
          clear hdt hlt HLS
          gi_wp2
          obtain ⟨Ws, hWs, g1, g2, g3, g4, g5, g6⟩ := three_sets (.slice co y.length cc) (.slice mo y.length mc) (.int .i64 (uW rows g y)) HW5.out
          rw [← hWs]
          exact lw_store HI.out (by have := HNF.out.1; omega) HB5.out g1 g2 g3 g4 g5 g6 HCS.out HMS.out HCB.out HMB.out HLW.out
        · have HLW : Hid (lwO d rows g (pre ++ [y]) = some z) := by show _ = _; rw [HLS.out, if_neg hlt]
          have hdt : decide (sdL rows d y (mW rows g y) * uW rows g z < sdL rows d z (mW rows g z) * uW rows g y) = false := decide_eq_false hlt
          rw [hdt]
          clear hdt hlt HLS
          gi_wp2
          exact lw_skip HI.out (by have := HNF.out.1; omega) (by have := HSZ.out; omega) HB5.out HZ.out HLW.out
    case done =>
      rintro S W' hi hSD hdf
      have hsz := HSZ.out
      have hws := hi.kp.size
      have hnf := HNF.out
      obtain ⟨_, _, hwr⟩ := HCC.out W' hi.kp
      obtain ⟨f0, f1, f2⟩ := hwr.frozen
      obtain ⟨x0, x1, x2, r0, r1, r2⟩ := hwr.cells
      have HWR : Hid (Wb (w.heap.size + 1) W') := hwr
      have HI : Hid (LwI d rows g w WN NB (F + 1) S (waysL rows g) W') := hi
      have HDF : Hid (W'.heap[WN.heap.size]? = some (.deferred (some []))) := hdf
      have HLO : Hid (∀ b, b < w.heap.size → W'.heap[b]? = w.heap[b]?) := fun b hb => (hi.kp.block b (by omega) ⟨by omega, by omega⟩).trans (HBN.out b hb)
      have hle := hi.le
      clear hi hdf HSQ hws hsz hnf hwr
      rcases hle with ⟨hp0, hL0⟩ | ⟨z, zo, zc, po, pc, hz, hL0, hzs, hps, hzb, hpb⟩
      · have l0 : W'.cell? ⟨F + 1, 0, none⟩ = some (.slice none 0 0) := by simp [World.cell?, hL0]
        have l1 : W'.cell? ⟨F + 1, 1, none⟩ = some (.slice none 0 0) := by simp [World.cell?, hL0]
        have l2 : W'.cell? ⟨F + 1, 2, none⟩ = some (.int .i64 0) := by simp [World.cell?, hL0]
        have HE7 : Hid (gmE d rows g = 7) := by show _ = _; rw [HE.out, if_pos hp0]
        clear hL0 hp0
        gi_wp2
        obtain ⟨Ws, hWs, g1, g2, g3, g4, g5, g6⟩ := three_sets (.slice none 0 0) (.slice none 0 0) (.int .i64 0) HWR.out
        rw [← hWs]
        have hsz := HSZ.out
        have hws := HI.out.kp.size
        have hnf := HNF.out
        refine leaves_mks [WN.heap.size] Ws (by simp) (fun r hr => ?_) (fun w' hc => ⟨.tuple #[nilW, .int .i64 7], ?_, ?_⟩)
        · simp only [List.mem_singleton] at hr
          subst hr
          exact (g2 _ (by omega)).trans HDF.out
        · have q1 : w'.heap[w.heap.size + 1]? = _ := (hc.block _ (by omega) (by simp; omega)).trans g1
          simp [results, Try.results21, go_sem, World.cell?, q1, nilW]
        · refine ⟨nilW, by rw [HE7.out], .inl ⟨by rw [HE7.out]; decide, rfl⟩, hc.os.trans (g4.trans HI.out.os), hc.tape.trans (g5.trans HI.out.tape), hc.output.trans (g6.trans HI.out.output), by have := hc.size; omega, fun b hb => ?_⟩
          exact (hc.block b (by omega) (by simp; omega)).trans ((g2 b (by omega)).trans (HLO.out b hb))
      · have l0 : W'.cell? ⟨F + 1, 0, none⟩ = some (.slice zo z.length zc) := by simp [World.cell?, hL0]
        have l1 : W'.cell? ⟨F + 1, 1, none⟩ = some (.slice po z.length pc) := by simp [World.cell?, hL0]
        have l2 : W'.cell? ⟨F + 1, 2, none⟩ = some (.int .i64 (uW rows g z)) := by simp [World.cell?, hL0]
        have hzm := lwO_mem hz
        have hzp := uW_pos hzm
        have hz0 : (uW rows g z == 0) = false := by rw [beq_eq_false_iff_ne]; omega
        have HE0 : Hid (gmE d rows g = 0) := by show _ = _; rw [HE.out, if_neg (fun e => by rw [e] at hzm; simp at hzm)]
        have HZ : Hid (lwO d rows g (waysL rows g) = some z) := hz
        have HZS : Hid (Sl 0 3 W' (.slice zo z.length zc) (ints z)) := hzs
        have HPS : Hid (Sl 0 3 W' (.slice po z.length pc) (ints (mW rows g z))) := hps
        clear hL0 hzm hzp hz hzs hps hzb hpb
        gi_wp2
        obtain ⟨Ws, hWs, g1, g2, g3, g4, g5, g6⟩ := three_sets (.slice zo z.length zc) (.slice po z.length pc) (.int .i64 (uW rows g z)) HWR.out
        rw [← hWs]
        have hsz := HSZ.out
        have hws := HI.out.kp.size
        have hnf := HNF.out
        have ty : ∀ (w' : World), Chg (fun b => b ∈ [WN.heap.size]) Ws w' → ∀ {v : Value} {xs : List Value}, Sl 0 3 W' v xs → Sl 0 3 w' v xs := fun w' hc v xs h => h.move fun k hl ht => ⟨by
          have h1 : k ≠ w.heap.size + 1 := by
            rcases ht with ht | ht
            · omega
            · exact HWR.out.off (.inr ht)
          have h2 : k ≠ WN.heap.size := fun e => by
            subst e
            rcases ht with ht | ⟨c, ht⟩
            · omega
            · rw [HDF.out] at ht; cases ht
          exact (hc.block k (by omega) (by simpa using h2)).trans (g2 k h1), ht⟩
        refine leaves_mks [WN.heap.size] Ws (by simp) (fun r hr => ?_) (fun w' hc => ⟨.tuple #[.agg #[.slice zo z.length zc, .slice po z.length pc, .int .i64 (uW rows g z)], .int .i64 0], ?_, ?_⟩)
        · simp only [List.mem_singleton] at hr
          subst hr
          exact (g2 _ (by omega)).trans HDF.out
        · have q1 : w'.heap[w.heap.size + 1]? = _ := (hc.block _ (by omega) (by simp; omega)).trans g1
          simp [results, Try.results21, go_sem, World.cell?, q1]
        · refine ⟨_, by rw [HE0.out], .inr ⟨z, zo, zc, po, pc, HE0.out, HZ.out, rfl, ty w' hc HZS.out, ty w' hc HPS.out⟩, hc.os.trans (g4.trans HI.out.os), hc.tape.trans (g5.trans HI.out.tape), hc.output.trans (g6.trans HI.out.output), by have := hc.size; omega, fun b hb => ?_⟩
          exact (hc.block b (by omega) (by simp; omega)).trans ((g2 b (by omega)).trans (HLO.out b hb))
    case stop =>
      rintro c S pre W' hpre h
      exact h.elim

end Go.Proofs.Ytdmkmljhljoojaa
