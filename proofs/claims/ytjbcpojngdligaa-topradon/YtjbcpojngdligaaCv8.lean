/- convex.Between: the first way, if there is one. -/
import Derived.Test.YtjbcpojngdligaaCvB
import Derived.Test.YtjbcpojngdligaaWysA
namespace Go.Proofs.Ytjbcpojngdligaa
open Go.RowKit Go.Shelf
attribute [local go_sem] Oper.semAt_some

/-- What is wrong with a place, of so many numbers. -/
def xE (d : Nat) (x : List Int) : Int := if x.length ≠ d then 3 else if x.any (farB · 20) then 4 else 0
def btwE (p : List (List Int)) (x : List Int) : Int := if pmE p ≠ 0 then pmE p else xE (p.getD 0 []).length x

def nilT : Value := .agg #[.slice none 0 0, .slice none 0 0, .int .i64 0]

/-- The first way, as it is told. -/
def BtV (rows : List (List Int)) (g : List Int) (w : World) (tv : Value) (b : Bool) : Prop :=
  (waysL rows g = [] ∧ b = false ∧ tv = nilT) ∨
  ∃ c l co cc po pc, waysL rows g = c :: l ∧ b = true ∧ tv = .agg #[.slice co c.length cc, .slice po c.length pc, .int .i64 ((wayN g (pks rows [] c)).getD c.length 0)] ∧ Sl 0 3 w (.slice co c.length cc) (ints c) ∧ Sl 0 3 w (.slice po c.length pc) (ints ((wayN g (pks rows [] c)).take c.length))

/-- What is told between points. -/
def BtR (E : Int) (rows : List (List Int)) (g : List Int) (w : World) (tv : Value) (b : Bool) : Prop :=
  (E ≠ 0 ∧ b = false ∧ tv = nilT) ∨ (E = 0 ∧ BtV rows g w tv b)

/-- The three cells that bear what comes out. -/
structure R3 (N : Nat) (w : World) : Prop where
  k : ∃ x0 x1 x2, w.heap[N]? = some (.cells #[x0, x1, x2] 35 (0, 0))
  b : ∃ y0, w.heap[N + 1]? = some (.cells #[y0] 4 (0, 0))
  e : ∃ z0, w.heap[N + 1 + 1]? = some (.cells #[z0] 26 (0, 0))

theorem R3.keep {N : Nat} {w w' : World} (h : R3 N w) (hk : ∀ b, N ≤ b → b < N + 3 → w'.heap[b]? = w.heap[b]?) : R3 N w' := by
  obtain ⟨⟨a, b, c, h1⟩, ⟨y, h2⟩, ⟨z, h3⟩⟩ := h
  exact ⟨⟨a, b, c, (hk _ (by omega) (by omega)).trans h1⟩, ⟨y, (hk _ (by omega) (by omega)).trans h2⟩, ⟨z, (hk _ (by omega) (by omega)).trans h3⟩⟩

theorem R3.frozen {N : Nat} {w : World} (h : R3 N w) : w.frozen? ⟨N, 0, none⟩ = false ∧ w.frozen? ⟨N, 1, none⟩ = false ∧ w.frozen? ⟨N, 2, none⟩ = false ∧ w.frozen? ⟨N + 1, 0, none⟩ = false ∧ w.frozen? ⟨N + 1 + 1, 0, none⟩ = false := by
  obtain ⟨⟨a, b, c, h1⟩, ⟨y, h2⟩, ⟨z, h3⟩⟩ := h
  exact ⟨by simp [World.frozen?, h1], by simp [World.frozen?, h1], by simp [World.frozen?, h1], by simp [World.frozen?, h2], by simp [World.frozen?, h3]⟩

theorem R3.cells {N : Nat} {w : World} (h : R3 N w) : ∃ x0 x1 x2 y z, w.cell? ⟨N, 0, none⟩ = some x0 ∧ w.cell? ⟨N, 1, none⟩ = some x1 ∧ w.cell? ⟨N, 2, none⟩ = some x2 ∧ w.cell? ⟨N + 1, 0, none⟩ = some y ∧ w.cell? ⟨N + 1 + 1, 0, none⟩ = some z := by
  obtain ⟨⟨a, b, c, h1⟩, ⟨y, h2⟩, ⟨z, h3⟩⟩ := h
  exact ⟨a, b, c, y, z, by simp [World.cell?, h1], by simp [World.cell?, h1], by simp [World.cell?, h1], by simp [World.cell?, h2], by simp [World.cell?, h3]⟩

theorem R3.off {N b : Nat} {w : World} (h : R3 N w) (ht : (∃ cur, w.heap[b]? = some (.cells cur 22 (0, 0))) ∨ ∃ cur, w.heap[b]? = some (.cells cur 3 (0, 0))) : ¬ (N ≤ b ∧ b < N + 3) := by
  obtain ⟨⟨a, b', c, h1⟩, ⟨y, h2⟩, ⟨z, h3⟩⟩ := h
  rintro ⟨l, u⟩
  have : b = N ∨ b = N + 1 ∨ b = N + 1 + 1 := by omega
  rcases this with rfl | rfl | rfl
  · rw [h1] at ht; simp at ht
  · rw [h2] at ht; simp at ht
  · rw [h3] at ht; simp at ht

/-- All but the three cells. -/
def T3 (N M : Nat) (b : Nat) : Prop := b < M ∧ ¬ (N ≤ b ∧ b < N + 3)

theorem sl_keepT {N M : Nat} {e : TypeId} {w W : World} {v : Value} {xs : List Value} (he : e = 22 ∨ e = 3) (h : Sl N e w v xs) (h3 : R3 N w) (hM : w.heap.size ≤ M) (hk : Kpt (T3 N M) w W) : Sl N e W v xs :=
  h.move fun b hl ht => ⟨hk.block b hl ⟨by omega, by
    rcases ht with ht | ht
    · omega
    · rcases he with rfl | rfl
      · exact h3.off (.inl ht)
      · exact h3.off (.inr ht)⟩, ht⟩

theorem mat_keepT {N M : Nat} {w W : World} {v : Value} {m : List (List Int)} (h : Mat N 22 3 w v m) (h3 : R3 N w) (hM : w.heap.size ≤ M) (hk : Kpt (T3 N M) w W) : Mat N 22 3 W v m := by
  obtain ⟨vs, h1, h2, h4⟩ := h
  exact ⟨vs, h1, sl_keepT (.inl rfl) h2 h3 hM hk, fun i hi => sl_keepT (.inr rfl) (h4 i hi) h3 hM hk⟩

/-- What the five stores come to. -/
theorem five_sets {w6 : World} {R : Nat} (a b c e f : Value) (h : R3 R w6) :
    ∃ Ws, Ws = ((((w6.setCell ⟨R, 0, none⟩ a).setCell ⟨R, 1, none⟩ b).setCell ⟨R, 2, none⟩ c).setCell ⟨R + 1, 0, none⟩ e).setCell ⟨R + 1 + 1, 0, none⟩ f ∧ Ws.heap[R]? = some (.cells #[a, b, c] 35 (0, 0)) ∧ Ws.heap[R + 1]? = some (.cells #[e] 4 (0, 0)) ∧ Ws.heap[R + 1 + 1]? = some (.cells #[f] 26 (0, 0)) ∧ (∀ k, ¬ (R ≤ k ∧ k < R + 3) → Ws.heap[k]? = w6.heap[k]?) ∧ Ws.heap.size = w6.heap.size ∧ Ws.os = w6.os ∧ Ws.tape = w6.tape ∧ Ws.output = w6.output := by
  obtain ⟨⟨x0, x1, x2, h1⟩, ⟨y, h2⟩, ⟨z, h3⟩⟩ := h
  obtain ⟨Ws, hWs, f1, f2, f3, f4, f5, f6, f7⟩ := four_sets (w6 := w6) (R := R) a b c e (c0 := #[x0, x1, x2]) rfl h1 h2
  refine ⟨Ws.setCell ⟨R + 1 + 1, 0, none⟩ f, by rw [hWs], ?_, ?_, ?_, fun k hk => ?_, by simp [World.setCell, f4], f5, f6, f7⟩
  · rw [Below.heap_setCell _ _ _ _ (by show R ≠ R + 1 + 1; omega)]; exact f1
  · rw [Below.heap_setCell _ _ _ _ (by show R + 1 ≠ R + 1 + 1; omega)]; exact f2
  · have := (f3 (R + 1 + 1) (by omega) (by omega)).trans h3
    rw [World.setCell]; simp [Array.getElem?_modify, this]
  · rw [Below.heap_setCell _ _ _ _ (by show k ≠ R + 1 + 1; omega)]
    exact f3 k (by omega) (by omega)

theorem r3_new (w : World) : ∃ W, W = ((w.alloc (.cells #[.slice none 0 0, .slice none 0 0, .int .i64 0] 35)).alloc (.cells #[.bool false] 4)).alloc (.cells #[.int .i64 0] 26) ∧ R3 w.heap.size W ∧ W.heap.size = w.heap.size + 3 ∧ Below w.heap.size w W := by
  obtain ⟨W1, hW1⟩ : ∃ W1, W1 = w.alloc (.cells #[.slice none 0 0, .slice none 0 0, .int .i64 0] 35) := ⟨_, rfl⟩
  obtain ⟨W2, hW2⟩ : ∃ W2, W2 = W1.alloc (.cells #[.bool false] 4) := ⟨_, rfl⟩
  have s1 : W1.heap.size = w.heap.size + 1 := by rw [hW1, size_alloc]
  have s2 : W2.heap.size = w.heap.size + 2 := by rw [hW2, size_alloc, s1]
  have a1 : W1.heap[w.heap.size]? = some (.cells #[.slice none 0 0, .slice none 0 0, .int .i64 0] 35 (0, 0)) := by rw [hW1]; exact alloc_new _ _
  have a2 : W2.heap[W1.heap.size]? = some (.cells #[.bool false] 4 (0, 0)) := by rw [hW2]; exact alloc_new _ _
  have k1 : Below w.heap.size w W1 := by rw [hW1]; exact alloc_keep _ _
  have k2 : Below W1.heap.size W1 W2 := by rw [hW2]; exact alloc_keep _ _
  have k3 := alloc_keep W2 (.cells #[.int .i64 0] 26)
  rw [s1] at a2
  have e1 := (k3.block _ (by omega)).trans ((k2.block _ (by omega)).trans a1)
  have e2 := (k3.block _ (by omega)).trans a2
  have e3 := alloc_new W2 (.cells #[.int .i64 0] 26)
  rw [show W2.heap.size = w.heap.size + 1 + 1 by omega] at e3
  exact ⟨W2.alloc (.cells #[.int .i64 0] 26), by rw [hW2, hW1], ⟨⟨_, _, _, e1⟩, ⟨_, e2⟩, ⟨_, e3⟩⟩, by rw [size_alloc, s2], k1.trans ((k2.mono (by omega)).trans (k3.mono (by omega)))⟩

theorem fr_mat0 {B : Nat} {w : World} {v : Value} {m : List (List Int)} (h : Fr B 22 3 w v m) : Mat 0 22 3 w v m := by
  obtain ⟨vs, h1, h2, h3⟩ := h
  exact ⟨vs, h1, Sl.own h2, h3⟩

/-- Between the rounds: nothing has been told yet. -/
structure BwI (w WN : World) (NB : Nat) (S : Nat → Prop) (W : World) : Prop where
  sn : ∀ b, S b → NB ≤ b
  kp : Kpt (fun b => b < NB) WN W
  os : W.os = w.os
  tape : W.tape = w.tape
  output : W.output = w.output

/-- The first way has been told. -/
structure BwX (w : World) (NB : Nat) (rows : List (List Int)) (g : List Int) (S : Nat → Prop) (x : List Int) (co po : Option Addr) (cc pc : Nat) (W : World) : Prop where
  sn : ∀ b, S b → NB ≤ b
  sz : NB ≤ W.heap.size
  os : W.os = w.os
  tape : W.tape = w.tape
  output : W.output = w.output
  block : ∀ b, b < w.heap.size → W.heap[b]? = w.heap[b]?
  tk : W.heap[w.heap.size]? = some (.cells #[.slice co x.length cc, .slice po x.length pc, .int .i64 ((wayN g (pks rows [] x)).getD x.length 0)] 35 (0, 0))
  ok : W.heap[w.heap.size + 1]? = some (.cells #[.bool true] 4 (0, 0))
  er : W.heap[w.heap.size + 1 + 1]? = some (.cells #[.int .i64 0] 26 (0, 0))
  cs : Sl 0 3 W (.slice co x.length cc) (ints x)
  ps : Sl 0 3 W (.slice po x.length pc) (ints ((wayN g (pks rows [] x)).take x.length))
  cb : ∀ a, co = some a → ¬ S a.block ∧ isC W a.block
  pb : ∀ a, po = some a → ¬ S a.block ∧ isC W a.block

theorem BwI.stab {w WN W W' : World} {NB : Nat} {S S' : Nat → Prop} (h : BwI w WN NB S W) (hN : NB ≤ WN.heap.size) (hc : Chg S W W') (hs : ∀ b, S' b → S b ∨ W.heap.size ≤ b) : BwI w WN NB S' W' := by
  have h0 := h.kp.size
  refine ⟨fun b hb => ?_, h.kp.trans (Kpt.of_chg hc fun i _ hi hsi => ?_), hc.os.trans h.os, hc.tape.trans h.tape, hc.output.trans h.output⟩
  · rcases hs b hb with h1 | h1
    · exact h.sn b h1
    · omega
  · have := h.sn i hsi
    omega

theorem BwX.stab {w W W' : World} {NB : Nat} {rows : List (List Int)} {g : List Int} {S S' : Nat → Prop} {x : List Int} {co po : Option Addr} {cc pc : Nat} (hN : w.heap.size + 3 ≤ NB) (h : BwX w NB rows g S x co po cc pc W) (hc : Chg S W W') (hs : ∀ b, S' b → S b ∨ W.heap.size ≤ b) : BwX w NB rows g S' x co po cc pc W' := by
  have h0 := h.sz
  have hlow : ∀ b, b < w.heap.size + 3 → W'.heap[b]? = W.heap[b]? := fun b hb => hc.block b (by omega) (fun hx => by have := h.sn b hx; omega)
  have hno : ∀ (a : Addr), ¬ S a.block ∧ isC W a.block → ¬ S' a.block ∧ isC W' a.block := fun a ha => ⟨fun hx => by
    rcases hs _ hx with h1 | h1
    · exact ha.1 h1
    · have := ha.2.lt; omega, ha.2.keep (hc.block _ ha.2.lt ha.1)⟩
  refine ⟨fun b hb => ?_, Nat.le_trans h0 hc.size, hc.os.trans h.os, hc.tape.trans h.tape, hc.output.trans h.output, fun b hb => (hlow b (by omega)).trans (h.block b hb), (hlow _ (by omega)).trans h.tk, (hlow _ (by omega)).trans h.ok, (hlow _ (by omega)).trans h.er,
    sl_at_keep h.cs (fun a ha hl => hc.block _ hl (h.cb a ha).1), sl_at_keep h.ps (fun a ha hl => hc.block _ hl (h.pb a ha).1), fun a ha => hno a (h.cb a ha), fun a ha => hno a (h.pb a ha)⟩
  rcases hs b hb with h1 | h1
  · exact h.sn b h1
  · omega

set_option maxRecDepth 100000 in
set_option maxHeartbeats 8000000 in
theorem between_any (p : List (List Int)) (x : List Int) (v xv : Value) (w : World) (hv : Mat w.heap.size 22 3 w v p) (hx : Sl w.heap.size 3 w xv (ints x)) :
    Calls Try.prog 10 #[v, xv] w fun e w' => ∃ tv b, e = .returned (.tuple #[tv, .bool b, .int .i64 (btwE p x)]) ∧ BtR (btwE p x) (p.map oneR) (oneR x) w' tv b ∧ Below w.heap.size w w' := by
  obtain ⟨i0, hi, hz0, hz1, hz2⟩ := info_parts Try.info22
  obtain ⟨ao, cap, hvv, hlc, hcm⟩ := mat_open hv
  obtain ⟨xo, xc, hxx, hlx, hcx⟩ := sl_open hx
  subst hvv hxx
  obtain ⟨W, hW, hr3, hsW, hbW⟩ := r3_new w
  have HWW : Hid (W = ((w.alloc (.cells #[.slice none 0 0, .slice none 0 0, .int .i64 0] 35)).alloc (.cells #[.bool false] 4)).alloc (.cells #[.int .i64 0] 26)) := hW
  have HR3 : Hid (R3 w.heap.size W) := hr3
  have HSW : Hid (W.heap.size = w.heap.size + 3) := hsW
  have HBW : Hid (Below w.heap.size w W) := hbW
  have HV : Hid (Mat w.heap.size 22 3 w (.slice ao p.length cap) p) := hv
  have HX : Hid (Sl w.heap.size 3 w (.slice xo x.length xc) (ints x)) := hx
  have HCK : Hid (Calls Try.prog 13 #[.slice ao p.length cap] W fun e w' => e = .returned (.int .i64 (pmE p)) ∧ Below W.heap.size W w') := checkC_any p _ W ((hv.below hbW (Nat.le_refl _)).any (Nat.le_refl _))
  clear hv hx hW hr3 hsW hbW
  refine callsIn_wide (n := 0).1 ?_
  refine callsIn_of_wp_marks Try.func10 rfl trivial ?_ rfl
  simp only [Try.ntmps10, List.size_toArray, List.length_cons, List.length_nil, Nat.reduceAdd, Nat.reduceSub, Array.replicate_succ, Array.replicate_zero, List.push_toArray, List.append_toArray, List.nil_append, List.cons_append]
  gi_wp2_with fail
  refine ⟨trivial, rfl, ?_⟩
  rw [← HWW.out]
  refine (callsIn_wide.2 HCK.out).mono ?_
  rintro e w1 ⟨rfl, hb1⟩
  have HB1 : Hid (Below W.heap.size W w1) := hb1
  have HR1 : Hid (R3 w.heap.size w1) := HR3.out.keep fun b h1 h2 => hb1.block b (by have := HSW.out; omega)
  obtain ⟨f0, f1, f2, f3, f4⟩ := HR1.out.frozen
  obtain ⟨x0, x1, x2, y0, z0, c0, c1, c2, c3, c4⟩ := HR1.out.cells
  clear hb1 HCK
  by_cases hq : pmE p = 0
  · have hok := pm_ok hq
    have HE0 : Hid (btwE p x = xE (p.getD 0 []).length x) := if_neg (by rw [hq]; simp)
    have HVW1 : Hid (∀ W', Below W.heap.size W W' → Mat w.heap.size 22 3 W' (.slice ao p.length cap) p) := fun W' hB => (HV.out.below HBW.out (Nat.le_refl _)).below hB (Nat.le_refl _)
    have HXW1 : Hid (∀ W', Below W.heap.size W W' → Sl w.heap.size 3 W' (.slice xo x.length xc) (ints x)) := fun W' hB => (HX.out.below HBW.out (Nat.le_refl _)).below hB (Nat.le_refl _)
    obtain ⟨b0, o0, cp0, r0, hs0, _, hcc0, hr0⟩ := mat_cell (HVW1.out w1 HB1.out) (k := 0) (by have := hok.n1; omega)
    simp only [Value.slice.injEq] at hs0
    obtain ⟨rfl, -, rfl⟩ := hs0
    simp only [Nat.add_zero] at hcc0
    obtain ⟨uo0, uc0, hue0, _, _⟩ := sl_open hr0
    rw [hq]
    generalize (p.getD 0 []).length = d at *
    subst hue0
    have HOK : Hid (PmOk d p) := hok
    have HCL : Hid (Calls Try.prog 18 #[.slice xo x.length xc, .int .i64 d, .int .i64 20] w1 fun e w' => e = .returned (.int .i64 (xE d x)) ∧ Below w1.heap.size w1 w') := chkL_any _ d 20 x _ w1 (HXW1.out w1 HB1.out) (by decide) (by decide)
    have h1 := hok.n1
    have h12 := hok.n12
    have hd3 := hok.d3
    have hd1 := hok.d1
    have hp0I : (0 : Int) < (p.length : Int) := by omega
    clear hr0 hok hq f0 f1 f2 f3 f4 c0 c1 c2 c3 c4
    gi_wp2_with fail
    refine ⟨trivial, rfl, ?_⟩
    refine (callsIn_wide.2 HCL.out).mono ?_
    rintro e w2 ⟨rfl, hb2⟩
    have HB2 : Hid (Below W.heap.size W w2) := HB1.out.trans (hb2.mono HB1.out.size)
    have HR2 : Hid (R3 w.heap.size w2) := HR3.out.keep fun b h1 h2 => HB2.out.block b (by have := HSW.out; omega)
    obtain ⟨f0, f1, f2, f3, f4⟩ := HR2.out.frozen
    obtain ⟨x0, x1, x2, y0, z0, c0, c1, c2, c3, c4⟩ := HR2.out.cells
    clear hb2 HCL hcc0 HR1 HB1
    by_cases hq : xE d x = 0
    · have HE : Hid (btwE p x = 0) := by show _ = _; rw [HE0.out, hq]
      have hxd : x.length = d := by
        unfold xE at hq
        by_cases h : x.length = d
        · exact h
        · rw [if_pos h] at hq; simp at hq
      have hxb : ∀ z ∈ x, z.natAbs ≤ 20 := by
        unfold xE at hq
        rw [if_neg (by omega)] at hq
        cases h2 : x.any (farB · 20)
        · exact far_iff.1 h2
        · rw [h2] at hq; simp at hq
      rw [hq]
      have HXD : Hid (x.length = d) := hxd
      have HXB : Hid (∀ z ∈ x, z.natAbs ≤ 20) := hxb
      rw [hxd] at HXW1
      rw [hxd]
      clear hq hxd hxb hlx HX HE0
      gi_wp2
      gi_loopw [9, 31, 11] (fun u j _ wr => ∃ k : Nat, k ≤ p.length ∧ j = .int .i64 k ∧ Fr w2.heap.size 22 3 wr u ((p.map oneR).take k) ∧ Below w2.heap.size w2 wr) (fun _ j _ _ => p.length - (intOf j).toNat)
      case atStart => exact ⟨0, Nat.zero_le _, rfl, Fr.nil _ _ _ _, Below.refl _ _⟩
      case round =>
        obtain ⟨k, hk, rfl, hrw, hbel⟩ := hrel
        have HR : Hid (Fr w2.heap.size 22 3 wr u9 ((p.map oneR).take k)) := hrw
        have HB : Hid (Below w2.heap.size w2 wr) := hbel
        have hsz : w2.heap.size ≤ wr.heap.size := hbel.size
        have HBr : Hid (Below W.heap.size W wr) := HB2.out.trans (hbel.mono HB2.out.size)
        clear hrw hbel f0 f1 f2 f3 f4 c0 c1 c2 c3 c4
        by_cases hlt : k < p.length
        · obtain ⟨b1, o1, cp1, r1, hs1, _, hcc, hr1⟩ := mat_cell (HVW1.out wr HBr.out) hlt
          simp only [Value.slice.injEq, Option.some.injEq, Addr.mk.injEq, and_true] at hs1
          obtain ⟨⟨rfl, rfl⟩, -, rfl⟩ := hs1
          have hlen : (p.getD k []).length = d := HOK.out.len _ (by simp [hlt])
          have HSN : Hid ((p.map oneR).take (k + 1) = (p.map oneR).take k ++ [oneR (p.getD k [])]) := by
            show _ = _
            rw [List.take_succ_eq_append_getElem (by simpa using hlt)]
            simp [hlt]
          have HLN : Hid (((p.map oneR).take k).length = k) := by show _ = _; simp; omega
          have HW1 : Hid (Calls Try.prog 15 #[r1] wr fun e w' => ∃ zo zc, e = .returned (.slice zo (d + 1) zc) ∧ Sl 0 3 w' (.slice zo (d + 1) zc) (ints (oneR (p.getD k []))) ∧ Below wr.heap.size wr w') := by
            refine (withOne_any _ (p.getD k []) r1 wr hr1 (by omega)).mono ?_
            rintro e w' ⟨u, rfl, hou, hbu⟩
            rw [hlen] at hou
            obtain ⟨zo, zc, rfl⟩ := owns_form hou
            exact ⟨zo, zc, rfl, Sl.own hou, hbu⟩
          obtain ⟨ro, rc, hrv, _, _⟩ := sl_open hr1
          subst hrv
          rw [hlen] at hcc HW1
          clear hr1 hlen
          have hkI : (k : Int) < (p.length : Int) := by omega
          have hkI0 : (0 : Int) ≤ (k : Int) := by omega
          gi_wp2_with fail
          refine ⟨trivial, rfl, ?_⟩
          refine (callsIn_wide.2 HW1.out).mono ?_
          rintro e w3 ⟨zo, zc, rfl, hz, hb3⟩
          have HZ : Hid (Sl 0 3 w3 (.slice zo (d + 1) zc) (ints (oneR (p.getD k [])))) := hz
          have HRq := HR.out.below hb3 (Nat.le_refl _)
          have HBw : Hid (Below w2.heap.size w2 w3) := HB.out.trans (hb3.mono hsz)
          have hsz3 : w2.heap.size ≤ w3.heap.size := HBw.out.size
          obtain ⟨vs, g1, g2, g3⟩ := HRq
          rw [HLN.out] at g1 g2 g3
          have G1 : Hid (vs.length = k) := g1
          have G2 : Hid (w3.ownsRow w2.heap.size 22 1 u9 k vs) := g2
          have G3 : Hid (∀ i, i < k → Sl 0 3 w3 (vs.getD i (.slice none 0 0)) (ints (((p.map oneR).take k).getD i []))) := g3
          clear g1 g2 g3 hz hb3 hcc HW1
          gi_wp2_with (first | (gi_at_builtin; refine wpListIn_append_own _ rfl _ _ 24 rfl w2.heap.size 22 i0 (.slice none 0 0) 1 24 Try.underlying24 hi hz0 hz1 hz2 rfl (by decide) _ _ _ rfl (G2.out.alloc _) ⟨w3.heap.size, 0, none⟩ 1 1 [.slice zo (d + 1) zc] rfl rfl (one_new _ _ _) (one_slice _ _ _) ?d3 ?d4 ?d5 ?_))
          case d3 => unfold maxLen; omega
          case d4 => omega
          case d5 => simp; omega
          intro v' w4 ho hg _
          have R1 : Hid (Fr w2.heap.size 22 3 w4 v' ((p.map oneR).take (k + 1))) := by
            have hp := Fr.push (e2 := 22) (e1 := 3) (m := (p.map oneR).take k) (u := .slice zo (d + 1) zc) (zs := oneR (p.getD k [])) (by decide) (by rw [HLN.out]; exact G1.out) (by rw [HLN.out]; exact G2.out.alloc _)
              (fun i hi => (G3.out i (by rw [HLN.out] at hi; exact hi)).alloc _) (HZ.out.alloc _) (by rw [HLN.out]; exact ho) hg
            rw [← HSN.out] at hp
            exact hp
          have R2 : Hid (Below w2.heap.size w2 w4) := (HBw.out.alloc (by omega) _).grown hg (by simp; omega) (fun x hx => (G2.out.lt x hx).1)
          clear ho hg
          gi_wp2
          go_roundw
          case rel => exact ⟨k + 1, by omega, by go_num, R1.out, R2.out⟩
          case measure => simp [intOf]; omega
        · obtain rfl : k = p.length := by omega
          have HRR : Hid (Fr w2.heap.size 22 3 wr u9 (p.map oneR)) := by
            have h := HR.out
            rw [List.take_of_length_le (by simp)] at h
            exact h
          have HWX : Hid (Calls Try.prog 15 #[.slice xo d xc] wr fun e w' => ∃ go gc, e = .returned (.slice go (d + 1) gc) ∧ Sl 0 3 w' (.slice go (d + 1) gc) (ints (oneR x)) ∧ Below wr.heap.size wr w') := by
            have h := withOne_any _ x (.slice xo d xc) wr (HXW1.out wr HBr.out) (by rw [HXD.out]; omega)
            refine h.mono ?_
            rintro e w' ⟨u, rfl, hou, hbu⟩
            rw [HXD.out] at hou
            obtain ⟨zo, zc, rfl⟩ := owns_form hou
            exact ⟨zo, zc, rfl, Sl.own hou, hbu⟩
          obtain ⟨ro, rc, hrv, _, _⟩ := mat_open (fr_mat0 HRR.out)
          rw [List.length_map] at hrv
          subst hrv
          clear HR
          gi_wp2_with fail
          refine ⟨trivial, rfl, ?_⟩
          refine (callsIn_wide.2 HWX.out).mono ?_
          rintro e w3 ⟨go, gc, rfl, hg, hb3⟩
          have HG : Hid (Sl 0 3 w3 (.slice go (d + 1) gc) (ints (oneR x))) := hg
          have HRR3 : Hid (Mat 0 22 3 w3 (.slice ro p.length rc) (p.map oneR)) := fr_mat0 (HRR.out.below hb3 (Nat.le_refl _))
          have HB3 : Hid (Below W.heap.size W w3) := HBr.out.trans (hb3.mono HBr.out.size)
          clear hg hb3 HRR HWX
          gi_wp2_with (refine ⟨trivial, rfl, ?_⟩; gi_at_call 19; refine (callsIn_wide.2 (waysF_any _ _ _ _ _ _ _ _ _ rfl rfl)).mono ?_; rintro e w' ⟨rfl, rfl⟩)
          obtain ⟨NB, hNB⟩ : ∃ NB, NB = w3.heap.size := ⟨_, rfl⟩
          rw [← hNB]
          obtain ⟨WN, hWN⟩ : ∃ WN, WN = (w3.alloc (.cells #[.slice ro p.length rc] 24)).alloc (.cells #[.slice go (d + 1) gc] 22) := ⟨_, rfl⟩
          rw [← hWN]
          have n1 : WN.heap[NB]? = some (.cells #[.slice ro p.length rc] 24 (0, 0)) := by
            rw [hWN, hNB]; exact ((alloc_keep _ _).block _ (by rw [size_alloc]; omega)).trans (alloc_new _ _)
          have n2 : WN.heap[NB + 1]? = some (.cells #[.slice go (d + 1) gc] 22 (0, 0)) := by
            have := alloc_new (w3.alloc (.cells #[.slice ro p.length rc] 24)) (.cells #[.slice go (d + 1) gc] 22)
            rw [size_alloc] at this
            rw [hWN, hNB]; exact this
          have hsN : WN.heap.size = NB + 2 := by rw [hWN, size_alloc, size_alloc, hNB]
          have hb3N : Below w3.heap.size w3 WN := by rw [hWN]; exact (alloc_keep _ _).trans ((alloc_keep _ _).mono (by rw [size_alloc]; omega))
          have hNB3 : w.heap.size + 3 ≤ NB := by have := HB3.out.size; have := HSW.out; omega
          have hR3N : R3 w.heap.size WN := HR3.out.keep fun b h1 h2 => (hb3N.block b (by omega)).trans (HB3.out.block b (by have := HSW.out; omega))
          have hmN : Mat w.heap.size 22 3 WN (.slice ro p.length rc) (p.map oneR) := (HRR3.out.below hb3N (Nat.le_refl _)).more (Nat.zero_le _)
          have hgN : Sl w.heap.size 3 WN (.slice go (d + 1) gc) (ints (oneR x)) := (HG.out.below hb3N (Nat.le_refl _)).more (Nat.zero_le _)
          have hmK : ∀ W', Kpt (T3 w.heap.size NB) WN W' → Mat w.heap.size 22 3 W' (.slice ro p.length rc) (p.map oneR) := by
            intro W' hk
            have h0 : Mat w.heap.size 22 3 w3 (.slice ro p.length rc) (p.map oneR) := HRR3.out.more (Nat.zero_le _)
            have h3 : R3 w.heap.size w3 := HR3.out.keep fun b h1 h2 => HB3.out.block b (by have := HSW.out; omega)
            refine mat_keepT h0 h3 (M := NB) (by omega) ⟨by have := hk.size; omega, fun b hb hT => ?_⟩
            exact (hk.block b (by omega) hT).trans (hb3N.block b hb)
          have hgK : ∀ W', Kpt (T3 w.heap.size NB) WN W' → Sl w.heap.size 3 W' (.slice go (d + 1) gc) (ints (oneR x)) := by
            intro W' hk
            have h0 : Sl w.heap.size 3 w3 (.slice go (d + 1) gc) (ints (oneR x)) := HG.out.more (Nat.zero_le _)
            have h3 : R3 w.heap.size w3 := HR3.out.keep fun b h1 h2 => HB3.out.block b (by have := HSW.out; omega)
            refine sl_keepT (.inr rfl) h0 h3 (M := NB) (by omega) ⟨by have := hk.size; omega, fun b hb hT => ?_⟩
            exact (hk.block b (by omega) hT).trans (hb3N.block b hb)
          have hgl : (oneR x).length = d + 1 := by rw [oneR_len, HXD.out]
          have HSQ : SeqS Try.prog 27 #[.pointer (some ⟨NB + 1, 0, none⟩), .pointer (some ⟨NB, 0, none⟩)] (HandW (p.map oneR) (oneR x)) (waysL (p.map oneR) (oneR x)) (T3 w.heap.size NB) (fun b => b = NB + 1 ∨ b = NB) WN :=
            ways_seq w.heap.size (NB + 1) NB (p.map oneR) (oneR x) ro go rc gc (T3 w.heap.size NB) WN (by rw [hgl]; exact cell_of n2) (by rw [List.length_map]; exact cell_of n1)
              (fun W' hk => by rw [List.length_map]; exact hmK W' hk) (fun W' hk => by rw [hgl]; exact hgK W' hk)
              (fun b hb => by have := hb.1; omega)
              (fun r hr => by
                simp only [List.mem_map] at hr
                obtain ⟨y, hy, rfl⟩ := hr
                refine ⟨by rw [hgl, oneR_len, HOK.out.len y hy]; exact Nat.le_refl _, fun z hz => ?_⟩
                simp only [oneR, List.mem_append, List.mem_singleton] at hz
                rcases hz with hz | rfl
                · have := HOK.out.bd y hy z hz; omega
                · decide)
              (fun z hz => by
                simp only [oneR, List.mem_append, List.mem_singleton] at hz
                rcases hz with hz | rfl
                · have := HXB.out z hz; omega
                · decide) (by rw [hgl]; omega) (by rw [hgl]; omega) (by rw [List.length_map]; omega)
          have HNB3 : Hid (w.heap.size + 3 ≤ NB) := hNB3
          have HSZ : Hid (WN.heap.size = NB + 2) := hsN
          have HBN : Hid (∀ b, b < w.heap.size → WN.heap[b]? = w.heap[b]?) := fun b hb => (hb3N.block b (by omega)).trans ((HB3.out.block b (by have := HSW.out; omega)).trans (HBW.out.block b hb))
          have HBO : Hid (WN.os = w.os ∧ WN.tape = w.tape ∧ WN.output = w.output) := ⟨hb3N.os.trans (HB3.out.os.trans HBW.out.os), hb3N.tape.trans (HB3.out.tape.trans HBW.out.tape), hb3N.output.trans (HB3.out.output.trans HBW.out.output)⟩
          have HI0 : Hid (BwI w WN NB (fun b => b = NB + 1 ∨ b = NB) WN) := ⟨fun b hb => by omega, Kpt.refl _ _, HBO.out.1, HBO.out.2.1, HBO.out.2.2⟩
          have HR3N : Hid (R3 w.heap.size WN) := hR3N
          clear n1 n2 hmN hgN hmK hgK hgl hb3N hR3N hNB hWN HG HRR3 hNB3
          refine range_s (R := HandW (p.map oneR) (oneR x)) (cs := waysL (p.map oneR) (oneR x)) (T := T3 w.heap.size NB) (S0 := fun b => b = NB + 1 ∨ b = NB) (gf := 27) (lb := #[.pointer (some ⟨NB + 1, 0, none⟩), .pointer (some ⟨NB, 0, none⟩)]) rfl (enters_of Try.func27 (by kernel_rfl) rfl) HSQ (fun b hb => by omega)
            (fun W' S x vs ⟨_, _, _, _, h1, _⟩ => by rw [h1]; rfl) (handW_below _ _) (handW_put _ _)
            (fun S pre W' => pre = [] ∧ BwI w WN NB S W')
            (fun c S pre W' => c = .ret ∧ ∃ y co po cc pc, pre = [y] ∧ BwX w NB (p.map oneR) (oneR x) S y co po cc pc W')
            (fun S S' pre W' W'' h hc hs => ⟨h.1, h.2.stab (by have := HSZ.out; omega) hc hs⟩) (fun c S S' pre W' W'' ⟨h1, y, co, po, cc, pc, h2, h3⟩ hc hs => ⟨h1, y, co, po, cc, pc, h2, h3.stab HNB3.out hc hs⟩) ⟨rfl, HI0.out⟩
            (fun vs a' W' => ∃ p' q' u' bx, vs = #[.agg #[p', q', u']] ∧ W'.heap[bx]? = some (.cells #[p', q', u'] 35 (0, 0)) ∧ a' = { tmps := #[.slice (some ⟨b0, o0, none⟩) p.length cap, .slice xo d xc, undef, undef, .pointer (some ⟨w.heap.size, 0, none⟩), .pointer (some ⟨w.heap.size + 1, 0, none⟩), .pointer (some ⟨w.heap.size + 1 + 1, 0, none⟩), .int .i64 0, .int .i64 0, .slice ro p.length rc, undef, u11, .pointer (some ⟨bx, 0, none⟩), .slice (some ⟨b0, o0, none⟩) p.length cap, .int .i64 0, .int .i64 0, .bool false, undef, undef, .slice xo d xc, .slice (some ⟨b0, o0, none⟩) p.length cap, .pointer (some ⟨b0, o0, none⟩), .slice uo0 d uc0, .int .i64 d, .int .i64 0, .int .i64 0, .bool false, undef, undef, .slice (some ⟨b0, o0, none⟩) p.length cap, .int .i64 p.length, .int .i64 p.length, .bool false, u33, u34, u35, u36, u37, u38, u39, u40, .slice ro p.length rc, .slice xo d xc, .slice go (d + 1) gc, .func (.func 27) #[] #[.pointer (some ⟨NB + 1, 0, none⟩), .pointer (some ⟨NB, 0, none⟩)], .agg #[p', q', u'], undef, undef], defers := [] })
            ?hax ?assign ?body ?tl ?done ?stop
          case hax =>
            rintro vs a' W' l r o ⟨p', q', u', bx, h1, h2, h3⟩ hl
            exact ⟨p', q', u', bx, h1, (World.putObj_heap_other (fun e => by subst e; rw [hl] at h2; cases h2)).trans h2, h3⟩
          case tl => exact fun h => by have := h.1; have := HSZ.out; omega
          case assign =>
            rintro S y vs W' K ⟨co, cc, mo, mc, rfl, h2, h3⟩ hK
            gi_wp2
            exact hK _ _ (alloc_keep _ _) ⟨_, _, _, W'.heap.size, rfl, alloc_new _ _, rfl⟩
          case body =>
            rintro S pre y vs a' W1 ⟨rfl, hi⟩ hSD hSL hlt1 hdf hlp hpre ⟨S1, ⟨co, cc, mo, mc, hvs, hwb, hcs, hms, hcb, hmb, hslt⟩, hS1⟩ ⟨p', q', u', bx, hvs', hbx, rfl⟩
            rw [hvs] at hvs'
            simp only [Array.mk.injEq, List.cons.injEq, Value.agg.injEq, and_true] at hvs'
            obtain ⟨rfl, rfl, rfl⟩ := hvs'
            have hsz1 : NB ≤ W1.heap.size := by have := hi.kp.size; have := HSZ.out; omega
            have hN3 := HNB3.out
            have hr3 : R3 w.heap.size W1 := HR3N.out.keep fun b h1 h2 => hi.kp.block b (by have := HSZ.out; omega) (show b < NB by omega)
            have b0' : W1.cell? ⟨bx, 0, none⟩ = some (.slice co y.length cc) := by simp [World.cell?, hbx]
            have b1' : W1.cell? ⟨bx, 1, none⟩ = some (.slice mo y.length mc) := by simp [World.cell?, hbx]
            have b2' : W1.cell? ⟨bx, 2, none⟩ = some (.int .i64 ((wayN (oneR x) (pks (p.map oneR) [] y)).getD y.length 0)) := by simp [World.cell?, hbx]
            obtain ⟨f0, f1, f2, f3, f4⟩ := hr3.frozen
            obtain ⟨x0, x1, x2, y0, z0, c0, c1, c2, c3, c4⟩ := hr3.cells
            have HFIN : Hid (Kpt (fun b => S b ∨ T3 w.heap.size NB b) W1 (((((W1.setCell ⟨w.heap.size, 0, none⟩ (.slice co y.length cc)).setCell ⟨w.heap.size, 1, none⟩ (.slice mo y.length mc)).setCell ⟨w.heap.size, 2, none⟩ (.int .i64 ((wayN (oneR x) (pks (p.map oneR) [] y)).getD y.length 0))).setCell ⟨w.heap.size + 1, 0, none⟩ (.bool true)).setCell ⟨w.heap.size + 1 + 1, 0, none⟩ (.int .i64 0)) ∧
                BwX w NB (p.map oneR) (oneR x) S y co mo cc mc (((((W1.setCell ⟨w.heap.size, 0, none⟩ (.slice co y.length cc)).setCell ⟨w.heap.size, 1, none⟩ (.slice mo y.length mc)).setCell ⟨w.heap.size, 2, none⟩ (.int .i64 ((wayN (oneR x) (pks (p.map oneR) [] y)).getD y.length 0))).setCell ⟨w.heap.size + 1, 0, none⟩ (.bool true)).setCell ⟨w.heap.size + 1 + 1, 0, none⟩ (.int .i64 0))) := by
              obtain ⟨Ws, hWs, g1, g2, g3, g4, g5, g6, g7, g8⟩ := five_sets (.slice co y.length cc) (.slice mo y.length mc) (.int .i64 ((wayN (oneR x) (pks (p.map oneR) [] y)).getD y.length 0)) (.bool true) (.int .i64 0) hr3
              rw [← hWs]
              clear hWs
              have ty : ∀ {v : Value} {xs : List Value}, Sl 0 3 W1 v xs → Sl 0 3 Ws v xs := fun h => h.move fun k hl ht => ⟨g4 k (by
                rcases ht with ht | ht
                · omega
                · exact hr3.off (.inr ht)), ht⟩
              have hno : ∀ a : Addr, ¬ S1 a.block ∧ isC W1 a.block → ¬ S a.block ∧ isC Ws a.block := by
                rintro a ⟨h1, cur, t, h3⟩
                have hal := (Array.getElem?_eq_some_iff.1 h3).1
                refine ⟨fun hx => ?_, ?_⟩
                · rcases (hS1 _).1 hx with h | h | h
                  · exact h1 h
                  · rw [h] at h3; rw [hdf] at h3; cases h3
                  · obtain ⟨r, hlp⟩ := hlp; rw [h] at h3; rw [hlp] at h3; cases h3
                · by_cases e : w.heap.size ≤ a.block ∧ a.block < w.heap.size + 3
                  · have : a.block = w.heap.size ∨ a.block = w.heap.size + 1 ∨ a.block = w.heap.size + 1 + 1 := by omega
                    rcases this with e | e | e
                    · exact ⟨_, _, by rw [e]; exact g1⟩
                    · exact ⟨_, _, by rw [e]; exact g2⟩
                    · exact ⟨_, _, by rw [e]; exact g3⟩
                  · exact ⟨cur, t, (g4 _ e).trans h3⟩
              refine ⟨⟨by omega, fun k hk hs => g4 k ?_⟩, hi.sn, by omega, g6.trans hi.os, g7.trans hi.tape, g8.trans hi.output, fun k hk => ?_, g1, g2, g3, ty hcs, ty hms, fun a ha => hno a (hcb a ha), fun a ha => hno a (hmb a ha)⟩
              · rcases hs with hs | hs
                · have := hi.sn k hs; omega
                · exact hs.2
              · exact (g4 k (by omega)).trans ((hi.kp.block k (by have := HSZ.out; omega) (show k < NB by omega)).trans (HBN.out k hk))
            clear hi hcs hms hcb hmb hslt hS1 hdf hlp hpre hwb hvs hbx hr3
            gi_wp2
            exact ⟨HFIN.out.1, rfl, y, co, mo, cc, mc, rfl, HFIN.out.2⟩
          case done =>
            rintro S W' ⟨hnil, hi⟩ hSD hdf
            have hsz := HSZ.out
            have hws := hi.kp.size
            have hN3 := HNB3.out
            have hr3 : R3 w.heap.size W' := HR3N.out.keep fun b h1 h2 => hi.kp.block b (by omega) (show b < NB by omega)
            obtain ⟨f0, f1, f2, f3, f4⟩ := hr3.frozen
            obtain ⟨x0, x1, x2, y0, z0, c0, c1, c2, c3, c4⟩ := hr3.cells
            have HF : Hid (R3 w.heap.size W') := hr3
            have HI : Hid (BwI w WN NB S W') := hi
            have HDF : Hid (W'.heap[WN.heap.size]? = some (.deferred (some []))) := hdf
            have HNIL : Hid (waysL (p.map oneR) (oneR x) = []) := hnil.symm ▸ rfl
            clear hi hdf hnil hr3 hws hsz HSQ
            gi_wp2
            obtain ⟨Ws, hWs, g1, g2, g3, g4, g5, g6, g7, g8⟩ := five_sets (.slice none 0 0) (.slice none 0 0) (.int .i64 0) (.bool false) (.int .i64 0) HF.out
            rw [← hWs]
            have hsz := HSZ.out
            have hws := HI.out.kp.size
            refine leaves_mks [WN.heap.size] Ws (by simp) (fun r hr => ?_) (fun w' hc => ⟨.tuple #[nilT, .bool false, .int .i64 0], ?_, ?_⟩)
            · simp only [List.mem_singleton] at hr
              subst hr
              exact (g4 _ (by omega)).trans HDF.out
            · have q1 : w'.heap[w.heap.size]? = _ := (hc.block _ (by omega) (by simp; omega)).trans g1
              have q2 : w'.heap[w.heap.size + 1]? = _ := (hc.block _ (by omega) (by simp; omega)).trans g2
              have q3 : w'.heap[w.heap.size + 1 + 1]? = _ := (hc.block _ (by omega) (by simp; omega)).trans g3
              simp [results, Try.results10, go_sem, World.cell?, q1, q2, q3, nilT]
            · refine ⟨nilT, false, by rw [HE.out], .inr ⟨HE.out, .inl ⟨HNIL.out, rfl, rfl⟩⟩, hc.os.trans (g6.trans HI.out.os), hc.tape.trans (g7.trans HI.out.tape), hc.output.trans (g8.trans HI.out.output), by have := hc.size; omega, fun b hb => ?_⟩
              exact (hc.block b (by omega) (by simp; omega)).trans ((g4 b (by omega)).trans ((HI.out.kp.block b (by omega) (show b < NB by omega)).trans (HBN.out b hb)))
          case stop =>
            rintro c S pre W' hpre ⟨rfl, y, co, po, cc, pc, rfl, hx⟩ hSD hdf
            have hsz := HSZ.out
            have hws := hx.sz
            have hN3 := HNB3.out
            have hdl := (Array.getElem?_eq_some_iff.1 hdf).1
            obtain ⟨t, ht⟩ := hpre
            have HT : Hid (waysL (p.map oneR) (oneR x) = y :: t) := ht.symm
            have HX : Hid (BwX w NB (p.map oneR) (oneR x) S y co po cc pc W') := hx
            have HDF : Hid (W'.heap[WN.heap.size]? = some (.deferred (some []))) := hdf
            clear hx hdf ht HSQ
            gi_wp2
            have ty : ∀ (w' : World), Chg (fun b => b ∈ [WN.heap.size]) W' w' → ∀ {v : Value} {xs : List Value}, Sl 0 3 W' v xs → Sl 0 3 w' v xs := fun w' hc v xs h => h.move fun k hl ht => ⟨hc.block k hl (fun e => by
                  simp only [List.mem_singleton] at e
                  subst e
                  rcases ht with ht | ⟨c, ht⟩
                  · omega
                  · rw [HDF.out] at ht; cases ht), ht⟩
            refine leaves_mks [WN.heap.size] W' (by simp) (fun r hr => ?_) (fun w' hc => ⟨.tuple #[.agg #[.slice co y.length cc, .slice po y.length pc, .int .i64 ((wayN (oneR x) (pks (p.map oneR) [] y)).getD y.length 0)], .bool true, .int .i64 0], ?_, ?_⟩)
            · simp only [List.mem_singleton] at hr
              subst hr
              exact HDF.out
            · have q1 : w'.heap[w.heap.size]? = _ := (hc.block _ (by omega) (by simp; omega)).trans HX.out.tk
              have q2 : w'.heap[w.heap.size + 1]? = _ := (hc.block _ (by omega) (by simp; omega)).trans HX.out.ok
              have q3 : w'.heap[w.heap.size + 1 + 1]? = _ := (hc.block _ (by omega) (by simp; omega)).trans HX.out.er
              simp [results, Try.results10, go_sem, World.cell?, q1, q2, q3]
            · refine ⟨_, true, by rw [HE.out], .inr ⟨HE.out, .inr ⟨y, t, co, cc, po, pc, HT.out, rfl, rfl, ty w' hc HX.out.cs, ty w' hc HX.out.ps⟩⟩, hc.os.trans HX.out.os, hc.tape.trans HX.out.tape, hc.output.trans HX.out.output, by have := hc.size; omega, fun b hb => ?_⟩
              exact (hc.block b (by omega) (by simp; omega)).trans (HX.out.block b hb)
    · have HE : Hid (btwE p x = xE d x) := HE0.out
      have HQ : Hid (xE d x ≠ 0) := hq
      have hq' : (xE d x != 0) = true := by simpa using hq
      clear hq HE0
      generalize xE d x = q at *
      gi_wp2
      obtain ⟨Ws, hWs, g1, g2, g3, g4, g5, g6, g7, g8⟩ := five_sets (.slice none 0 0) (.slice none 0 0) (.int .i64 0) (.bool false) (.int .i64 q) HR2.out
      rw [← hWs]
      have hs1 := HSW.out
      have hs2 := HB2.out.size
      refine leaves_mks [] Ws (by simp) (fun r hr => by simp at hr) (fun w' hc => ⟨.tuple #[nilT, .bool false, .int .i64 q], ?_, ?_⟩)
      · have q1 : w'.heap[w.heap.size]? = _ := (hc.block _ (by omega) (by simp)).trans g1
        have q2 : w'.heap[w.heap.size + 1]? = _ := (hc.block _ (by omega) (by simp)).trans g2
        have q3 : w'.heap[w.heap.size + 1 + 1]? = _ := (hc.block _ (by omega) (by simp)).trans g3
        simp [results, Try.results10, go_sem, World.cell?, q1, q2, q3, nilT]
      · refine ⟨nilT, false, by rw [HE.out], .inl ⟨by rw [HE.out]; exact HQ.out, rfl, rfl⟩, hc.os.trans (g6.trans (HB2.out.os.trans HBW.out.os)), hc.tape.trans (g7.trans (HB2.out.tape.trans HBW.out.tape)), hc.output.trans (g8.trans (HB2.out.output.trans HBW.out.output)), by have := hc.size; omega, fun b hb => ?_⟩
        exact (hc.block b (by omega) (by simp)).trans ((g4 b (by omega)).trans ((HB2.out.block b (by omega)).trans (HBW.out.block b hb)))
  · have HE : Hid (btwE p x = pmE p) := if_pos hq
    have HQ : Hid (pmE p ≠ 0) := hq
    have hq' : (pmE p != 0) = true := by simpa using hq
    clear hq
    generalize pmE p = q at *
    gi_wp2
    obtain ⟨Ws, hWs, g1, g2, g3, g4, g5, g6, g7, g8⟩ := five_sets (.slice none 0 0) (.slice none 0 0) (.int .i64 0) (.bool false) (.int .i64 q) HR1.out
    rw [← hWs]
    have hs1 := HSW.out
    have hs2 := HB1.out.size
    refine leaves_mks [] Ws (by simp) (fun r hr => by simp at hr) (fun w' hc => ⟨.tuple #[nilT, .bool false, .int .i64 q], ?_, ?_⟩)
    · have q1 : w'.heap[w.heap.size]? = _ := (hc.block _ (by omega) (by simp)).trans g1
      have q2 : w'.heap[w.heap.size + 1]? = _ := (hc.block _ (by omega) (by simp)).trans g2
      have q3 : w'.heap[w.heap.size + 1 + 1]? = _ := (hc.block _ (by omega) (by simp)).trans g3
      simp [results, Try.results10, go_sem, World.cell?, q1, q2, q3, nilT]
    · refine ⟨nilT, false, by rw [HE.out], .inl ⟨by rw [HE.out]; exact HQ.out, rfl, rfl⟩, hc.os.trans (g6.trans (HB1.out.os.trans HBW.out.os)), hc.tape.trans (g7.trans (HB1.out.tape.trans HBW.out.tape)), hc.output.trans (g8.trans (HB1.out.output.trans HBW.out.output)), by have := hc.size; omega, fun b hb => ?_⟩
      exact (hc.block b (by omega) (by simp)).trans ((g4 b (by omega)).trans ((HB1.out.block b (by omega)).trans (HBW.out.block b hb)))

end Go.Proofs.Ytjbcpojngdligaa
