/- cone.Refuted: the first way, if there is one. -/
import Derived.Test.YtknomkajibfmlaaGreatWys1
import Derived.Test.YtknomkajibfmlaaGreatMgAJ
namespace Go.Proofs.YtknomkajibfmlaaGreat
open Go.RowKit Go.Shelf
attribute [local go_sem] Oper.semAt_some

set_option maxHeartbeats 1000000 in
theorem waysF_any (rv gv : Value) (w : World) (ro go : Option Addr) (rn rc gn gc : Nat) (h1 : rv = .slice ro rn rc) (h2 : gv = .slice go gn gc) : Calls Tryz.prog 54 #[rv, gv] w fun e w' =>
    e = .returned (.func (.func 76) #[] #[.pointer (some ⟨w.heap.size + 1, 0, none⟩), .pointer (some ⟨w.heap.size, 0, none⟩)]) ∧ w' = (w.alloc (.cells #[rv] 22)).alloc (.cells #[gv] 38) := by
  subst h1 h2
  go_enter Tryz.func54, Tryz.ntmps54
  go_wp2
  go_ret
  exact ⟨rfl, rfl⟩

theorem sl_keep {B : Nat} {e : TypeId} {w W : World} {v : Value} {xs : List Value} (h : Sl B e w v xs) (hk : ∀ b, b < w.heap.size → W.heap[b]? = w.heap[b]?) : Sl B e W v xs :=
  h.move fun b hl ht => ⟨hk b hl, ht⟩

theorem mat_keep {B : Nat} {w W : World} {v : Value} {m : List (List Int)} (h : Mat B 38 3 w v m) (hk : ∀ b, b < w.heap.size → W.heap[b]? = w.heap[b]?) : Mat B 38 3 W v m := by
  obtain ⟨vs, h1, h2, h3⟩ := h
  exact ⟨vs, h1, sl_keep h2 hk, fun i hi => sl_keep (h3 i hi) hk⟩

/-- 0 everywhere, and -1 last. -/
def refG (d : Nat) : List Int := (List.range (d + 1)).map fun j => if j = d then -1 else 0

theorem refG_len (d : Nat) : (refG d).length = d + 1 := by simp [refG]

/-- What is told where rows are refuted. -/
def RefV (rows : List (List Int)) (d : Nat) (w : World) (tv : Value) : Prop :=
  (waysL rows (refG d) = [] ∧ tv = .agg #[.slice none 0 0, .slice none 0 0, .int .i64 0]) ∨
  ∃ c l co cc po pc, waysL rows (refG d) = c :: l ∧ tv = .agg #[.slice co c.length cc, .slice po c.length pc, .int .i64 1] ∧ Sl 0 3 w (.slice co c.length cc) (ints c) ∧ Sl 0 3 w (.slice po c.length pc) (ints (Lin.low ((wayN (refG d) (pks rows [] c)).take c.length)))

/-- Only where the slice lies must be as it was. -/
theorem sl_at_keep {e : TypeId} {w W : World} {ao : Option Addr} {n c : Nat} {xs : List Value} (h : Sl 0 e w (.slice ao n c) xs) (hk : ∀ a, ao = some a → a.block < w.heap.size → W.heap[a.block]? = w.heap[a.block]?) : Sl 0 e W (.slice ao n c) xs := by
  obtain ⟨ao', cap, hv, h1, h2, h3, h4⟩ := h
  simp only [Value.slice.injEq] at hv
  obtain ⟨rfl, hn, rfl⟩ := hv
  refine ⟨ao, c, by rw [hn], h1, h2, fun i hi => ?_, h4⟩
  obtain ⟨b, o, ha, hc, ht⟩ := h3 i hi
  have hx : xs[i]? = some xs[i] := List.getElem?_eq_getElem hi
  have hb := lt_of_cell (hc.trans hx)
  have k1 := hk _ ha hb
  refine ⟨b, o, ha, (World.cell?_of_block (w := w) (a := ⟨b, o + i, none⟩) k1).trans hc, ?_⟩
  rcases ht with ht | ⟨cur, ht⟩
  · omega
  · exact .inr ⟨cur, k1.trans ht⟩

theorem fiveB (w : World) (o1 o2 o3 o4 o5 : Obj) :
    ∃ W, W = ((((w.alloc o1).alloc o2).alloc o3).alloc o4).alloc o5 ∧ W.heap[w.heap.size]? = some o1 ∧ W.heap[w.heap.size + 1]? = some o2 ∧ W.heap[w.heap.size + 1 + 1]? = some o3 ∧ W.heap[w.heap.size + 1 + 1 + 1]? = some o4 ∧ W.heap[w.heap.size + 1 + 1 + 1 + 1]? = some o5 ∧ W.heap.size = w.heap.size + 5 ∧ Below w.heap.size w W := by
  obtain ⟨W, hW, e1, e2, e3, e4, hs, hb⟩ := fourB w o1 o2 o3 o4
  have hk := alloc_keep W o5
  refine ⟨W.alloc o5, by rw [hW], (hk.block _ (by omega)).trans e1, (hk.block _ (by omega)).trans e2, (hk.block _ (by omega)).trans e3, (hk.block _ (by omega)).trans e4, ?_, by rw [size_alloc]; omega, hb.trans (hk.mono (by omega))⟩
  rw [show w.heap.size + 1 + 1 + 1 + 1 = W.heap.size by omega]; exact alloc_new _ _

/-- Between the rounds: nothing has been told yet. -/
structure RfI (w WN : World) (S : Nat → Prop) (W : World) : Prop where
  sn : ∀ b, S b → w.heap.size + 3 ≤ b
  kp : Kpt (fun b => b < w.heap.size + 3) WN W
  os : W.os = w.os
  tape : W.tape = w.tape
  output : W.output = w.output

/-- The first way has been told. -/
structure RfX (w : World) (rows : List (List Int)) (g : List Int) (S : Nat → Prop) (x : List Int) (co po : Option Addr) (cc pc : Nat) (W : World) : Prop where
  sn : ∀ b, S b → w.heap.size + 3 ≤ b
  sz : w.heap.size + 3 ≤ W.heap.size
  os : W.os = w.os
  tape : W.tape = w.tape
  output : W.output = w.output
  block : ∀ b, b < w.heap.size → W.heap[b]? = w.heap[b]?
  tk : W.heap[w.heap.size]? = some (.cells #[.slice co x.length cc, .slice po x.length pc, .int .i64 1] 55 (0, 0))
  ok : W.heap[w.heap.size + 1]? = some (.cells #[.bool true] 4 (0, 0))
  cs : Sl 0 3 W (.slice co x.length cc) (ints x)
  ps : Sl 0 3 W (.slice po x.length pc) (ints (Lin.low ((wayN g (pks rows [] x)).take x.length)))
  cb : ∀ a, co = some a → ¬ S a.block ∧ isC W a.block
  pb : ∀ a, po = some a → ¬ S a.block ∧ isC W a.block

theorem RfI.stab {w WN W W' : World} {S S' : Nat → Prop} (h : RfI w WN S W) (hN : w.heap.size + 3 ≤ WN.heap.size) (hc : Chg S W W') (hs : ∀ b, S' b → S b ∨ W.heap.size ≤ b) : RfI w WN S' W' := by
  have h0 := h.kp.size
  refine ⟨fun b hb => ?_, h.kp.trans (Kpt.of_chg hc fun i _ hi hsi => ?_), hc.os.trans h.os, hc.tape.trans h.tape, hc.output.trans h.output⟩
  · rcases hs b hb with h1 | h1
    · exact h.sn b h1
    · omega
  · have := h.sn i hsi
    omega

theorem RfX.stab {w W W' : World} {rows : List (List Int)} {g : List Int} {S S' : Nat → Prop} {x : List Int} {co po : Option Addr} {cc pc : Nat} (h : RfX w rows g S x co po cc pc W) (hc : Chg S W W') (hs : ∀ b, S' b → S b ∨ W.heap.size ≤ b) : RfX w rows g S' x co po cc pc W' := by
  have h0 := h.sz
  have hlow : ∀ b, b < w.heap.size + 3 → W'.heap[b]? = W.heap[b]? := fun b hb => hc.block b (by omega) (fun hx => by have := h.sn b hx; omega)
  have hno : ∀ (a : Addr), ¬ S a.block ∧ isC W a.block → ¬ S' a.block ∧ isC W' a.block := fun a ha => ⟨fun hx => by
    rcases hs _ hx with h1 | h1
    · exact ha.1 h1
    · have := ha.2.lt; omega, ha.2.keep (hc.block _ ha.2.lt ha.1)⟩
  refine ⟨fun b hb => ?_, Nat.le_trans h0 hc.size, hc.os.trans h.os, hc.tape.trans h.tape, hc.output.trans h.output, fun b hb => (hlow b (by omega)).trans (h.block b hb), (hlow _ (by omega)).trans h.tk, (hlow _ (by omega)).trans h.ok,
    sl_at_keep h.cs (fun a ha hl => hc.block _ hl (h.cb a ha).1), sl_at_keep h.ps (fun a ha hl => hc.block _ hl (h.pb a ha).1), fun a ha => hno a (h.cb a ha), fun a ha => hno a (h.pb a ha)⟩
  rcases hs b hb with h1 | h1
  · exact h.sn b h1
  · omega

theorem handW_below (rows : List (List Int)) (g : List Int) (W : World) (S : Nat → Prop) (x : List Int) (vs : Array Value) (W' : World) (h : HandW rows g W S x vs) (hb : Below W.heap.size W W') : HandW rows g W' S x vs := by
  obtain ⟨co, cc, mo, mc, h1, h2, h3, h4, h5, h6, h7⟩ := h
  exact ⟨co, cc, mo, mc, h1, h2, h3.below hb (Nat.le_refl _), h4.below hb (Nat.le_refl _), fun a ha => ⟨(h5 a ha).1, (h5 a ha).2.keep (hb.block _ (h5 a ha).2.lt)⟩, fun a ha => ⟨(h6 a ha).1, (h6 a ha).2.keep (hb.block _ (h6 a ha).2.lt)⟩, fun b hb' => Nat.lt_of_lt_of_le (h7 b hb') hb.size⟩

theorem sl_put {W : World} {v : Value} {xs : List Value} {l : Nat} {r : Loop} (o : Obj) (h : Sl 0 3 W v xs) (hl : W.heap[l]? = some (.loop r)) : Sl 0 3 (W.putObj l o) v xs :=
  h.move fun b hb ht => ⟨World.putObj_heap_other (fun e => by
    subst e
    rcases ht with ht | ⟨c, ht⟩
    · omega
    · rw [hl] at ht; cases ht), ht⟩

theorem handW_put (rows : List (List Int)) (g : List Int) (W : World) (S : Nat → Prop) (x : List Int) (vs : Array Value) (l : Nat) (r : Loop) (o : Obj) (h : HandW rows g W S x vs) (hl : W.heap[l]? = some (.loop r)) : HandW rows g (W.putObj l o) S x vs := by
  obtain ⟨co, cc, mo, mc, h1, h2, h3, h4, h5, h6, h7⟩ := h
  have hp : ∀ b, isC W b → isC (W.putObj l o) b := fun b hb => hb.keep (World.putObj_heap_other (fun e => by
    subst e
    obtain ⟨c, t, hb⟩ := hb
    rw [hl] at hb; cases hb))
  exact ⟨co, cc, mo, mc, h1, h2, sl_put o h3 hl, sl_put o h4 hl, fun a ha => ⟨(h5 a ha).1, hp _ (h5 a ha).2⟩, fun a ha => ⟨(h6 a ha).1, hp _ (h6 a ha).2⟩, fun b hb => by simpa using h7 b hb⟩

/-- What the round's four stores come to. -/
theorem four_sets {w6 : World} {R : Nat} (a b c e : Value) {c0 : Array Value} {x0 x1 x2 y0 : Value} (hc0 : c0 = #[x0, x1, x2]) (h1 : w6.heap[R]? = some (.cells c0 55 (0, 0))) (h2 : w6.heap[R + 1]? = some (.cells #[y0] 4 (0, 0))) :
    ∃ Ws, Ws = (((w6.setCell ⟨R, 0, none⟩ a).setCell ⟨R, 1, none⟩ b).setCell ⟨R, 2, none⟩ c).setCell ⟨R + 1, 0, none⟩ e ∧ Ws.heap[R]? = some (.cells #[a, b, c] 55 (0, 0)) ∧ Ws.heap[R + 1]? = some (.cells #[e] 4 (0, 0)) ∧ (∀ k, k ≠ R → k ≠ R + 1 → Ws.heap[k]? = w6.heap[k]?) ∧ Ws.heap.size = w6.heap.size ∧ Ws.os = w6.os ∧ Ws.tape = w6.tape ∧ Ws.output = w6.output := by
  subst hc0
  have g1 : (w6.setCell ⟨R, 0, none⟩ a).heap[R]? = some (.cells #[a, x1, x2] 55 (0, 0)) := by simp [World.setCell, Array.getElem?_modify, h1]
  have g2 : ((w6.setCell ⟨R, 0, none⟩ a).setCell ⟨R, 1, none⟩ b).heap[R]? = some (.cells #[a, b, x2] 55 (0, 0)) := by rw [World.setCell]; simp [Array.getElem?_modify, g1]
  have g3 : (((w6.setCell ⟨R, 0, none⟩ a).setCell ⟨R, 1, none⟩ b).setCell ⟨R, 2, none⟩ c).heap[R]? = some (.cells #[a, b, c] 55 (0, 0)) := by rw [World.setCell]; simp [Array.getElem?_modify, g2]
  have g4 : (((w6.setCell ⟨R, 0, none⟩ a).setCell ⟨R, 1, none⟩ b).setCell ⟨R, 2, none⟩ c).heap[R + 1]? = some (.cells #[y0] 4 (0, 0)) := by
    rw [Below.heap_setCell _ _ _ _ (by simp), Below.heap_setCell _ _ _ _ (by simp), Below.heap_setCell _ _ _ _ (by simp)]; exact h2
  refine ⟨_, rfl, ?_, ?_, fun k h3 h4 => ?_, by simp [World.setCell], rfl, rfl, rfl⟩
  · rw [Below.heap_setCell _ _ _ _ (by simp)]; exact g3
  · rw [World.setCell]; simp [Array.getElem?_modify, g4]
  · rw [Below.heap_setCell _ _ _ _ h4, Below.heap_setCell _ _ _ _ h3, Below.heap_setCell _ _ _ _ h3, Below.heap_setCell _ _ _ _ h3]

set_option maxRecDepth 100000 in
set_option maxHeartbeats 8000000 in
theorem refuted5_any (rows : List (List Int)) (d : Nat) (v : Value) (w : World) (hv : Mat w.heap.size 38 3 w v rows) (hr : ∀ r ∈ rows, r.length = d + 1 ∧ ∀ z ∈ r, z.natAbs ≤ 60) (hdF : d ≤ 3 ∨ (d ≤ 4 ∧ ∀ r ∈ rows, ∀ z ∈ r, z.natAbs ≤ 20)) (hrl : rows.length ≤ 1000) :
    Calls Tryz.prog 35 #[v, .int .i64 d] w fun e w' => ∃ tv, e = .returned (.tuple #[tv, .bool (!(waysL rows (refG d)).isEmpty)]) ∧ RefV rows d w' tv ∧ Below w.heap.size w w' := by
  obtain ⟨ro, rc, hvv, hlc, hcm⟩ := mat_open hv
  subst hvv
  have hmk := run_make_row' (P := Tryz.prog) 38 3 (.int .i64 0) 8 Tryz.underlying38 Tryz.info3 rfl .i64 .i64 (d + 1) (by omega) (by omega)
  have HV : Hid (Mat w.heap.size 38 3 w (.slice ro rows.length rc) rows) := hv
  have HR : Hid (∀ r ∈ rows, r.length = d + 1 ∧ ∀ z ∈ r, z.natAbs ≤ 60) := hr
  have hd : d ≤ 4 := by rcases hdF with h | h <;> omega
  have hFS : FewS (refG d).length rows (refG d) := by
    rw [refG_len]
    rcases hdF with h | ⟨h, h20⟩
    · exact .inl (by omega)
    · exact .inr ⟨by omega, h20, fun z hz => by
        simp only [refG, List.mem_map] at hz
        obtain ⟨j, _, rfl⟩ := hz
        split <;> decide⟩
  have hdI : (d : Int) < ((d + 1 : Nat) : Int) := by omega
  have hdI0 : (0 : Int) ≤ (d : Int) := by omega
  have hdc : (((d + 1 : Nat) : Int)) = (d : Int) + 1 := by omega
  have hmc : (madeCells #[.int .i64 0] (d + 1))[d]? = some (.int .i64 0) := by
    rw [← Array.getElem?_toList, toList_madeCells_one]; simp
  rw [hdc] at hmk hdI
  clear hv hr hdc
  refine callsIn_wide (n := 0).1 ?_
  refine callsIn_of_wp_marks Tryz.func35 rfl trivial ?_ rfl
  simp only [Tryz.ntmps35, List.size_toArray, List.length_cons, List.length_nil, Nat.reduceAdd, Nat.reduceSub, Array.replicate_succ, Array.replicate_zero, List.push_toArray, List.append_toArray, List.nil_append, List.cons_append]
  gi_wp2_with (refine ⟨trivial, rfl, ?_⟩; gi_at_call 54; refine (callsIn_wide.2 (waysF_any _ _ _ _ _ _ _ _ _ rfl rfl)).mono ?_; rintro e w' ⟨rfl, rfl⟩)
  obtain ⟨WN, hWN, n1, n2, n3, n4, n5, hsN, hbN⟩ := fiveB w (.cells #[.slice none 0 0, .slice none 0 0, .int .i64 0] 55) (.cells #[.bool false] 4) (.cells ((madeCells #[.int .i64 0] (d + 1)).setIfInBounds d (.int .i64 (-1))) 3) (.cells #[.slice ro rows.length rc] 22) (.cells #[.slice (some ⟨w.heap.size + 1 + 1, 0, none⟩) (d + 1) (d + 1)] 38)
  rw [← hWN]
  clear hWN
  have hgrow : WN.rowIs (w.heap.size + 1 + 1) 3 (d + 1) (fun j => if j = d then .int .i64 (-1) else .int .i64 0) := by
    refine ⟨_, n3, ?_, fun i hi => ?_⟩
    · simp only [Array.size_setIfInBounds]
      rw [← Array.length_toList, toList_madeCells_one]; simp
    · rw [Array.getElem?_setIfInBounds]
      by_cases e : d = i
      · subst e
        have hz : d < (madeCells #[.int .i64 0] (d + 1)).size := by rw [← Array.length_toList, toList_madeCells_one]; simp
        simp [hz]
      · rw [if_neg e, ← Array.getElem?_toList, toList_madeCells_one]
        simp [hi, show ¬ i = d from fun h => e h.symm]
  have hgs : Sl 0 3 WN (.slice (some ⟨w.heap.size + 1 + 1, 0, none⟩) (d + 1) (d + 1)) (ints (refG d)) := by
    refine Sl.row' hgrow (by unfold maxLen; omega) (by simp [refG]) (fun i hi => ?_)
    rw [ints_get _ _ (by rw [refG_len]; exact hi)]
    by_cases e : i = d
    · subst e; simp [refG]
    · simp [refG, hi, e]
  have HSQ : SeqS Tryz.prog 76 #[.pointer (some ⟨w.heap.size + 1 + 1 + 1 + 1, 0, none⟩), .pointer (some ⟨w.heap.size + 1 + 1 + 1, 0, none⟩)] (HandW rows (refG d)) (waysL rows (refG d)) (fun b => b < w.heap.size ∨ b = w.heap.size + 1 + 1) (fun b => b = w.heap.size + 1 + 1 + 1 + 1 ∨ b = w.heap.size + 1 + 1 + 1) WN :=
    ways_seq5 w.heap.size _ _ rows (refG d) ro (some ⟨w.heap.size + 1 + 1, 0, none⟩) rc (d + 1) _ WN (by rw [refG_len]; exact cell_of n5) (cell_of n4)
      (fun W hk => mat_keep HV.out (fun b hb => (hk.block b (by omega) (.inl hb)).trans (hbN.block b hb)))
      (fun W hk => by rw [refG_len]; exact (sl_at_keep hgs (fun a ha _ => by cases ha; exact hk.block _ (by show w.heap.size + 1 + 1 < _; omega) (.inr rfl))).more (Nat.zero_le _))
      (fun b hb => by omega) (fun r hr => ⟨by rw [refG_len, (HR.out r hr).1]; exact Nat.le_refl _, (HR.out r hr).2⟩) (fun z hz => by
        simp only [refG, List.mem_map] at hz
        obtain ⟨j, _, rfl⟩ := hz
        split <;> decide) (by rw [refG_len]; omega) hFS hrl
  have HSZ : Hid (WN.heap.size = w.heap.size + 5) := hsN
  have HI0 : Hid (RfI w WN (fun b => b = w.heap.size + 1 + 1 + 1 + 1 ∨ b = w.heap.size + 1 + 1 + 1) WN) := ⟨fun b hb => by omega, Kpt.refl _ _, hbN.os, hbN.tape, hbN.output⟩
  have HN1 : Hid (WN.heap[w.heap.size]? = some (.cells #[.slice none 0 0, .slice none 0 0, .int .i64 0] 55 (0, 0)) ∧ WN.heap[w.heap.size + 1]? = some (.cells #[.bool false] 4 (0, 0))) := ⟨n1, n2⟩
  have HBN : Hid (Below w.heap.size w WN) := hbN
  clear n1 n2 n3 n4 n5 hgrow hgs hbN hmc hmk
  refine range_s (R := HandW rows (refG d)) (cs := waysL rows (refG d)) (T := fun b => b < w.heap.size ∨ b = w.heap.size + 1 + 1) (S0 := fun b => b = w.heap.size + 1 + 1 + 1 + 1 ∨ b = w.heap.size + 1 + 1 + 1) (gf := 76) (lb := #[.pointer (some ⟨w.heap.size + 1 + 1 + 1 + 1, 0, none⟩), .pointer (some ⟨w.heap.size + 1 + 1 + 1, 0, none⟩)]) rfl (enters_of Tryz.func76 (by kernel_rfl) rfl) HSQ (fun b hb => by omega)
    (fun W' S x vs ⟨_, _, _, _, h1, _⟩ => by rw [h1]; rfl) (handW_below _ _) (handW_put _ _)
    (fun S pre W' => pre = [] ∧ RfI w WN S W')
    (fun c S pre W' => c = .ret ∧ ∃ x co po cc pc, pre = [x] ∧ RfX w rows (refG d) S x co po cc pc W')
    (fun S S' pre W' W'' h hc hs => ⟨h.1, h.2.stab (by have := HSZ.out; omega) hc hs⟩) (fun c S S' pre W' W'' ⟨h1, x, co, po, cc, pc, h2, h3⟩ hc hs => ⟨h1, x, co, po, cc, pc, h2, h3.stab hc hs⟩) ⟨rfl, HI0.out⟩
    (fun vs a' W' => ∃ p q u bx, vs = #[.agg #[p, q, u]] ∧ W'.heap[bx]? = some (.cells #[p, q, u] 55 (0, 0)) ∧ a' = { tmps := #[.slice ro rows.length rc, .int .i64 d, undef, undef, .pointer (some ⟨w.heap.size, 0, none⟩), .pointer (some ⟨w.heap.size + 1, 0, none⟩), .slice (some ⟨w.heap.size + 1 + 1, 0, none⟩) (d + 1) (d + 1), .pointer (some ⟨bx, 0, none⟩), .int .i64 d, .int .i64 ((d : Int) + 1), .slice (some ⟨w.heap.size + 1 + 1, 0, none⟩) (d + 1) (d + 1), .slice (some ⟨w.heap.size + 1 + 1, 0, none⟩) (d + 1) (d + 1), .int .i64 d, .pointer (some ⟨w.heap.size + 1 + 1, d, none⟩), .slice ro rows.length rc, .slice (some ⟨w.heap.size + 1 + 1, 0, none⟩) (d + 1) (d + 1), .func (.func 76) #[] #[.pointer (some ⟨w.heap.size + 1 + 1 + 1 + 1, 0, none⟩), .pointer (some ⟨w.heap.size + 1 + 1 + 1, 0, none⟩)], .agg #[p, q, u], undef, undef, undef, undef, undef, undef, undef], defers := [] })
    ?hax ?assign ?body ?tl ?done ?stop
  case hax =>
    rintro vs a' W' l r o ⟨p, q, u, bx, h1, h2, h3⟩ hl
    exact ⟨p, q, u, bx, h1, (World.putObj_heap_other (fun e => by subst e; rw [hl] at h2; cases h2)).trans h2, h3⟩
  case tl => rintro (h | h) <;> omega
  case assign =>
    rintro S x vs W' K ⟨co, cc, mo, mc, rfl, h2, h3⟩ hK
    gi_wp2
    exact hK _ _ (alloc_keep _ _) ⟨_, _, _, W'.heap.size, rfl, alloc_new _ _, rfl⟩
  case body =>
    rintro S pre x vs a' W1 ⟨rfl, hi⟩ hSD hSL hlt1 hdf hlp hpre ⟨S1, ⟨co, cc, mo, mc, hvs, hwb, hcs, hms, hcb, hmb, hslt⟩, hS1⟩ ⟨p, q, u, bx, hvs', hbx, rfl⟩
    rw [hvs] at hvs'
    simp only [Array.mk.injEq, List.cons.injEq, Value.agg.injEq, and_true] at hvs'
    obtain ⟨rfl, rfl, rfl⟩ := hvs'
    have hxm : x ∈ waysL rows (refG d) := hpre.subset (by simp)
    obtain ⟨L, hL⟩ : ∃ L, L = (wayN (refG d) (pks rows [] x)).take x.length := ⟨_, rfl⟩
    have hpl : (pks rows [] x).length = x.length := by simp [pks]
    have hx3 : x.length ≤ d + 1 := by
      simp only [waysL, waysTo, List.mem_flatMap, List.mem_range, List.mem_filter] at hxm
      obtain ⟨m, hm, hm2, _⟩ := hxm
      have h1 := (ext_rise hm2).1
      rw [refG_len] at hm
      omega
    have hrise : ∀ t, t < x.length → 0 ≤ x.getD t 0 ∧ x.getD t 0 < rows.length := by
      simp only [waysL, waysTo, List.mem_flatMap, List.mem_range, List.mem_filter] at hxm
      obtain ⟨m, hm, hm2, _⟩ := hxm
      obtain ⟨h1, h2, _⟩ := ext_rise hm2
      intro t ht
      have := h2 t (by omega)
      exact ⟨by omega, this.2⟩
    have hpm : ∀ r ∈ pks rows [] x, r ∈ rows := fun r hr => by
      simp only [pks, List.mem_map] at hr
      obtain ⟨i, hi', rfl⟩ := hr
      obtain ⟨t, ht, rfl⟩ := List.getElem_of_mem hi'
      have h1 := hrise t ht
      rw [List.getD_eq_getElem?_getD, List.getElem?_eq_getElem ht] at h1
      simp only [Option.getD_some] at h1
      rw [List.getD_eq_getElem?_getD, List.getElem?_eq_getElem (by omega)]
      exact List.getElem_mem _
    have hag : ∀ Bq : Nat, 1 ≤ Bq → (∀ r ∈ rows, ∀ z ∈ r, z.natAbs ≤ Bq) → ∀ r ∈ acrL (refG d) (pks rows [] x), ∀ z ∈ r, z.natAbs ≤ Bq := fun Bq hq hrq r h z hz => by
      simp only [acrL, List.mem_map] at h
      obtain ⟨i, _, rfl⟩ := h
      simp only [acrR, List.mem_append, List.mem_map, List.mem_singleton] at hz
      rcases hz with ⟨r, h1, rfl⟩ | rfl
      · by_cases e : i < r.length
        · exact hrq r (hpm r h1) _ (by simp [e])
        · simp [List.getElem?_eq_none (Nat.le_of_not_lt e)]
      · by_cases e : i < (refG d).length
        · have hz : (refG d).getD i 0 = if i = d then -1 else 0 := by
            rw [refG_len] at e
            simp [refG, e]
          rw [hz]
          split <;> simp <;> omega
        · simp [List.getElem?_eq_none (Nat.le_of_not_lt e)]
    have hnb : ∀ z ∈ normL (x.length + 1) (acrL (refG d) (pks rows [] x)), z.natAbs ≤ 1000000000000 := fun z hz => by
      rcases hdF with h | ⟨h, h20⟩
      · have h1 := norm_bdG (B := 60) (hag 60 (by decide) fun r hr => (HR.out r hr).2) z hz
        have h2 : Lin.fb 60 (x.length + 1 - 1) ≤ Lin.fb 60 4 := fb_mono (by decide) (by omega)
        have h3 : Lin.fb 60 4 = 311040000 := by decide
        omega
      · have h1 := norm_bdG (B := 20) (hag 20 (by decide) h20) z hz
        have h2 : Lin.fb 20 (x.length + 1 - 1) ≤ Lin.fb 20 5 := fb_mono (by decide) (by omega)
        have h3 : Lin.fb 20 5 = 384000000 := by decide
        omega
    have hLl : L.length = x.length := by
      have hb : normB ((pks rows [] x).length + 1) (acrL (refG d) (pks rows [] x)) = true := by
        unfold wayB at hwb
        rw [Bool.and_eq_true] at hwb
        exact hwb.1
      have := norm_len hb
      rw [hL]
      simp only [wayN, List.length_take, this]
      omega
    have hLb : ∀ z ∈ L, z.natAbs ≤ 4611686018427387904 := fun z hz => by
      rw [hL] at hz
      have h1 := List.mem_of_mem_take hz
      unfold wayN at h1
      rw [hpl] at h1
      have := hnb z h1
      omega
    rw [← hL] at hms
    have hbxl := (Array.getElem?_eq_some_iff.1 hbx).1
    have r1 : W1.heap[w.heap.size]? = some (.cells #[.slice none 0 0, .slice none 0 0, .int .i64 0] 55 (0, 0)) := (hi.kp.block _ (by have := HSZ.out; omega) (by omega)).trans HN1.out.1
    have r2 : W1.heap[w.heap.size + 1]? = some (.cells #[.bool false] 4 (0, 0)) := (hi.kp.block _ (by have := HSZ.out; omega) (by omega)).trans HN1.out.2
    have hlow : ∀ b, b < w.heap.size + 3 → W1.heap[b]? = WN.heap[b]? := fun b hb => hi.kp.block b (by have := HSZ.out; omega) hb
    have hsz1 : w.heap.size + 3 ≤ W1.heap.size := by have := hi.kp.size; have := HSZ.out; omega
    have HPR : Hid (Calls Tryz.prog 41 #[.slice mo x.length mc] W1.drew fun e w' => ∃ uo uc, e = .returned (.slice uo x.length uc) ∧ w'.ownsRow W1.heap.size 3 1 (.slice uo x.length uc) x.length (ints (Lin.low L)) ∧ Below W1.heap.size W1.drew w' ∧
        w'.cell? ⟨bx, 0, none⟩ = some (.slice co x.length cc) ∧ w'.cell? ⟨w.heap.size, 0, none⟩ = some (.slice none 0 0) ∧ w'.cell? ⟨w.heap.size, 1, none⟩ = some (.slice none 0 0) ∧ w'.cell? ⟨w.heap.size, 2, none⟩ = some (.int .i64 0) ∧ w'.cell? ⟨w.heap.size + 1, 0, none⟩ = some (.bool false) ∧
        w'.frozen? ⟨w.heap.size, 0, none⟩ = false ∧ w'.frozen? ⟨w.heap.size, 1, none⟩ = false ∧ w'.frozen? ⟨w.heap.size, 2, none⟩ = false ∧ w'.frozen? ⟨w.heap.size + 1, 0, none⟩ = false) := by
      have h := primitive_own 0 L (.slice mo x.length mc) W1.drew hms (by omega) hLb
      refine h.mono ?_
      rintro e w' ⟨u', rfl, h1, h2⟩
      rw [hLl] at h1
      obtain ⟨uo, uc, rfl⟩ := owns_form h1
      have q0 : w'.heap[bx]? = _ := (h2.block _ hbxl).trans hbx
      have q1 : w'.heap[w.heap.size]? = _ := (h2.block _ (by show _ < W1.heap.size; omega)).trans r1
      have q2 : w'.heap[w.heap.size + 1]? = _ := (h2.block _ (by show _ < W1.heap.size; omega)).trans r2
      exact ⟨uo, uc, rfl, h1, h2, by simp [World.cell?, q0], by simp [World.cell?, q1], by simp [World.cell?, q1], by simp [World.cell?, q1], by simp [World.cell?, q2], by simp [World.frozen?, q1], by simp [World.frozen?, q1], by simp [World.frozen?, q1], by simp [World.frozen?, q2]⟩
    have b0 : W1.cell? ⟨bx, 0, none⟩ = some (.slice co x.length cc) := by simp [World.cell?, hbx]
    have b1 : W1.cell? ⟨bx, 1, none⟩ = some (.slice mo x.length mc) := by simp [World.cell?, hbx]
    have HFIN : Hid (∀ uo uc w6, w6.ownsRow W1.heap.size 3 1 (.slice uo x.length uc) x.length (ints (Lin.low L)) ∧ Below W1.heap.size W1.drew w6 →
        Kpt (fun b => S b ∨ b < w.heap.size ∨ b = w.heap.size + 1 + 1) W1 ((((w6.setCell ⟨w.heap.size, 0, none⟩ (.slice co x.length cc)).setCell ⟨w.heap.size, 1, none⟩ (.slice uo x.length uc)).setCell ⟨w.heap.size, 2, none⟩ (.int .i64 1)).setCell ⟨w.heap.size + 1, 0, none⟩ (.bool true)) ∧
        RfX w rows (refG d) S x co uo cc uc ((((w6.setCell ⟨w.heap.size, 0, none⟩ (.slice co x.length cc)).setCell ⟨w.heap.size, 1, none⟩ (.slice uo x.length uc)).setCell ⟨w.heap.size, 2, none⟩ (.int .i64 1)).setCell ⟨w.heap.size + 1, 0, none⟩ (.bool true))) := by
      rintro uo uc w6 ⟨ho, hb⟩
      have hbk : ∀ k, k < W1.heap.size → w6.heap[k]? = W1.heap[k]? := fun k hk => hb.block k hk
      have hb6 : W1.heap.size ≤ w6.heap.size := hb.size
      obtain ⟨Ws, hWs, f1, f2, f3, f4, f5, f6, f7⟩ := four_sets (w6 := w6) (R := w.heap.size) (.slice co x.length cc) (.slice uo x.length uc) (.int .i64 1) (.bool true) rfl ((hbk _ (by omega)).trans r1) ((hbk _ (by omega)).trans r2)
      rw [← hWs]
      clear hWs
      have hslt' : ∀ b, S b → b < W1.heap.size := fun b hb' => by
        rcases (hS1 b).1 hb' with h | h | h
        · exact hslt b h
        · omega
        · omega
      have ty : ∀ {v : Value} {xs : List Value}, Sl 0 3 w6 v xs → Sl 0 3 Ws v xs := fun h => h.move fun k hl ht => ⟨f3 k (fun e => by
          subst e
          rcases ht with ht | ⟨c, ht⟩
          · omega
          · rw [hbk _ (by omega), r1] at ht; simp at ht) (fun e => by
          subst e
          rcases ht with ht | ⟨c, ht⟩
          · omega
          · rw [hbk _ (by omega), r2] at ht; simp at ht), ht⟩
      refine ⟨⟨by omega, fun k hk hs => ?_⟩, hi.sn, by omega, by rw [f5]; exact hb.os.trans hi.os, by rw [f6]; exact hb.tape.trans hi.tape, by rw [f7]; exact hb.output.trans hi.output, fun k hk => ?_, f1, f2, ty (sl_keep hcs (fun k hk => hbk k hk)), by rw [← hL]; exact ty (Sl.own ho), fun a ha => ?_, fun a ha => ?_⟩
      · have hne : k ≠ w.heap.size ∧ k ≠ w.heap.size + 1 := by
          rcases hs with hs | hs | hs
          · have := hi.sn k hs; omega
          · omega
          · omega
        exact (f3 k hne.1 hne.2).trans (hbk k hk)
      · exact (f3 k (by omega) (by omega)).trans ((hbk k (by omega)).trans ((hlow k (by omega)).trans (HBN.out.block k hk)))
      · obtain ⟨h1, h2⟩ := hcb a ha
        obtain ⟨cur, t, h3⟩ := h2
        have hal := (Array.getElem?_eq_some_iff.1 h3).1
        refine ⟨fun hx => ?_, ?_⟩
        · rcases (hS1 _).1 hx with h | h | h
          · exact h1 h
          · rw [h] at h3; rw [hdf] at h3; cases h3
          · obtain ⟨r, hlp⟩ := hlp; rw [h] at h3; rw [hlp] at h3; cases h3
        · by_cases e1 : a.block = w.heap.size
          · exact ⟨_, _, by rw [e1]; exact f1⟩
          · by_cases e2 : a.block = w.heap.size + 1
            · exact ⟨_, _, by rw [e2]; exact f2⟩
            · exact ⟨cur, t, (f3 _ e1 e2).trans ((hbk _ hal).trans h3)⟩
      · rcases ho.2 with ⟨h1, _⟩ | ⟨g', cap', cur', h1, h2, h3, _⟩
        · simp only [Value.slice.injEq] at h1; rw [h1.1] at ha; cases ha
        · simp only [Value.slice.injEq] at h1
          rw [h1.1] at ha
          cases ha
          refine ⟨fun hx => ?_, cur', _, (f3 g' (by omega) (by omega)).trans h3⟩
          have := hslt' g' hx
          omega
    clear hi hcs hms hcb hmb hslt hS1 hdf hlp hpre hwb hxm hrise hpm hag hnb hLb hLl r1 r2 hlow hvs hbx hL hpl HV HR
    gi_wp2
    gi_region_with (refine ⟨trivial, rfl, ?_⟩; gi_at_call 41; refine (CallsIn.inRound _ (callsIn_wide.2 HPR.out)).mono ?_; rintro e w6 ⟨uo, uc, rfl, hown, hbl, z0, z1, z2, z3, z4, z5, z6, z7, z8⟩; have HU : Hid (w6.ownsRow W1.heap.size 3 1 (.slice uo x.length uc) x.length (ints (Lin.low L)) ∧ Below W1.heap.size W1.drew w6) := ⟨hown, hbl⟩; clear hown hbl)
    all_goals
      have HF := HFIN.out uo uc w6 HU.out
      clear z0 z1 z2 z3 z4 z5 z6 z7 z8 HPR HFIN b0 b1
      gi_wp2
      exact ⟨HF.1, rfl, x, co, uo, cc, uc, rfl, HF.2⟩
  case done =>
    rintro S W' ⟨hnil, hi⟩ hSD hdf
    have hsz := HSZ.out
    have hws := hi.kp.size
    have r1 : W'.heap[w.heap.size]? = some (.cells #[.slice none 0 0, .slice none 0 0, .int .i64 0] 55 (0, 0)) := (hi.kp.block _ (by omega) (by omega)).trans HN1.out.1
    have r2 : W'.heap[w.heap.size + 1]? = some (.cells #[.bool false] 4 (0, 0)) := (hi.kp.block _ (by omega) (by omega)).trans HN1.out.2
    have k0 : W'.cell? ⟨w.heap.size, 0, none⟩ = some (.slice none 0 0) := by simp [World.cell?, r1]
    have k1 : W'.cell? ⟨w.heap.size, 1, none⟩ = some (.slice none 0 0) := by simp [World.cell?, r1]
    have k2 : W'.cell? ⟨w.heap.size, 2, none⟩ = some (.int .i64 0) := by simp [World.cell?, r1]
    have k3 : W'.cell? ⟨w.heap.size + 1, 0, none⟩ = some (.bool false) := by simp [World.cell?, r2]
    have f0 : W'.frozen? ⟨w.heap.size, 0, none⟩ = false := by simp [World.frozen?, r1]
    have f1 : W'.frozen? ⟨w.heap.size, 1, none⟩ = false := by simp [World.frozen?, r1]
    have f2 : W'.frozen? ⟨w.heap.size, 2, none⟩ = false := by simp [World.frozen?, r1]
    have f3 : W'.frozen? ⟨w.heap.size + 1, 0, none⟩ = false := by simp [World.frozen?, r2]
    have HF : Hid (∃ Ws, Ws = (((W'.setCell ⟨w.heap.size, 0, none⟩ (.slice none 0 0)).setCell ⟨w.heap.size, 1, none⟩ (.slice none 0 0)).setCell ⟨w.heap.size, 2, none⟩ (.int .i64 0)).setCell ⟨w.heap.size + 1, 0, none⟩ (.bool false) ∧ Ws.heap[w.heap.size]? = some (.cells #[.slice none 0 0, .slice none 0 0, .int .i64 0] 55 (0, 0)) ∧ Ws.heap[w.heap.size + 1]? = some (.cells #[.bool false] 4 (0, 0)) ∧ (∀ k, k ≠ w.heap.size → k ≠ w.heap.size + 1 → Ws.heap[k]? = W'.heap[k]?) ∧ Ws.heap.size = W'.heap.size ∧ Ws.os = W'.os ∧ Ws.tape = W'.tape ∧ Ws.output = W'.output) := four_sets _ _ _ _ rfl r1 r2
    have HI : Hid (RfI w WN S W') := hi
    have HDF : Hid (W'.heap[WN.heap.size]? = some (.deferred (some []))) := hdf
    have HNIL : Hid (waysL rows (refG d) = []) := hnil.symm ▸ rfl
    clear hi hdf hnil r1 r2 hsN hws hsz HSQ
    gi_wp2
    obtain ⟨Ws, hWs, g1, g2, g3, g4, g5, g6, g7⟩ := HF.out
    rw [← hWs]
    have hsz := HSZ.out
    have hws := HI.out.kp.size
    have hlow : ∀ b, b < w.heap.size → W'.heap[b]? = w.heap[b]? := fun b hb => (HI.out.kp.block b (by omega) (by omega)).trans (HBN.out.block b hb)
    refine leaves_mks [WN.heap.size] Ws (by simp) (fun r hr => ?_) (fun w' hc => ⟨.tuple #[.agg #[.slice none 0 0, .slice none 0 0, .int .i64 0], .bool false], ?_, ?_⟩)
    · simp only [List.mem_singleton] at hr
      subst hr
      exact (g3 _ (by omega) (by omega)).trans HDF.out
    · have q1 : w'.heap[w.heap.size]? = _ := (hc.block _ (by omega) (by simp; omega)).trans g1
      have q2 : w'.heap[w.heap.size + 1]? = _ := (hc.block _ (by omega) (by simp; omega)).trans g2
      simp [results, Tryz.results35, go_sem, World.cell?, q1, q2]
    · refine ⟨_, by rw [HNIL.out]; rfl, .inl ⟨HNIL.out, rfl⟩, hc.os.trans (g5.trans HI.out.os), hc.tape.trans (g6.trans HI.out.tape), hc.output.trans (g7.trans HI.out.output), by have := hc.size; omega, fun b hb => ?_⟩
      exact (hc.block b (by omega) (by simp; omega)).trans ((g3 b (by omega) (by omega)).trans (hlow b hb))
  case stop =>
    rintro c S pre W' hpre ⟨rfl, x, co, po, cc, pc, rfl, hx⟩ hSD hdf
    have hsz := HSZ.out
    have hws := hx.sz
    have hdl := (Array.getElem?_eq_some_iff.1 hdf).1
    obtain ⟨t, ht⟩ := hpre
    have HT : Hid (waysL rows (refG d) = x :: t) := ht.symm
    have HX : Hid (RfX w rows (refG d) S x co po cc pc W') := hx
    have HDF : Hid (W'.heap[WN.heap.size]? = some (.deferred (some []))) := hdf
    clear hx hdf ht HSQ
    gi_wp2
    have ty : ∀ (w' : World), Chg (fun b => b ∈ [WN.heap.size]) W' w' → ∀ {v : Value} {xs : List Value}, Sl 0 3 W' v xs → Sl 0 3 w' v xs := fun w' hc v xs h => h.move fun k hl ht => ⟨hc.block k hl (fun e => by
          simp only [List.mem_singleton] at e
          subst e
          rcases ht with ht | ⟨c, ht⟩
          · omega
          · rw [HDF.out] at ht; cases ht), ht⟩
    refine leaves_mks [WN.heap.size] W' (by simp) (fun r hr => ?_) (fun w' hc => ⟨.tuple #[.agg #[.slice co x.length cc, .slice po x.length pc, .int .i64 1], .bool true], ?_, ?_⟩)
    · simp only [List.mem_singleton] at hr
      subst hr
      exact HDF.out
    · have q1 : w'.heap[w.heap.size]? = _ := (hc.block _ (by omega) (by simp; omega)).trans HX.out.tk
      have q2 : w'.heap[w.heap.size + 1]? = _ := (hc.block _ (by omega) (by simp; omega)).trans HX.out.ok
      simp [results, Tryz.results35, go_sem, World.cell?, q1, q2]
    · refine ⟨_, by rw [HT.out]; rfl, .inr ⟨x, t, co, cc, po, pc, HT.out, rfl, ty w' hc HX.out.cs, ty w' hc HX.out.ps⟩, hc.os.trans HX.out.os, hc.tape.trans HX.out.tape, hc.output.trans HX.out.output, by have := hc.size; omega, fun b hb => ?_⟩
      exact (hc.block b (by omega) (by simp; omega)).trans (HX.out.block b hb)

end Go.Proofs.YtknomkajibfmlaaGreat
