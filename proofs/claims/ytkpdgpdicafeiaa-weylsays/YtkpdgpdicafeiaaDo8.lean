/- The document's BelowOf: what parts of a word do, each once. -/
import Derived.Test.YtkpdgpdicafeiaaDo7
import Derived.Test.YtkpdgpdicafeiaaAp1
import Derived.Maps.AppendAt
namespace Go.Proofs.Ytkpdgpdicafeiaa
open Go.RowKit
attribute [local go_sem ↓] Go.wp_at_zero Go.wp_at_succ

/-- Two lists of lists, each in a block of its own. -/
structure F2 (B : Nat) (w0 wr : World) (hv ov : Value) (HV WS : List (List Int)) : Prop where
  h : Fr B 23 3 wr hv HV
  o : Fr B 23 3 wr ov WS
  ap : Apart hv ov
  bel : Below B w0 wr

theorem F2.swap {B : Nat} {w0 wr : World} {hv ov : Value} {HV WS : List (List Int)} (h : F2 B w0 wr hv ov HV WS) : F2 B w0 wr ov hv WS HV := ⟨h.o, h.h, fun g h1 h2 => h.ap g h2 h1, h.bel⟩

theorem F2.low {B : Nat} {w0 wr w' : World} {hv ov : Value} {HV WS : List (List Int)} (h : F2 B w0 wr hv ov HV WS) (hB : B ≤ wr.heap.size) (hb : Below wr.heap.size wr w') : F2 B w0 w' hv ov HV WS :=
  ⟨h.h.below hb (Nat.le_refl _), h.o.below hb (Nat.le_refl _), h.ap, h.bel.trans (hb.mono hB)⟩

theorem F2.push {B : Nat} {w0 wr w5 : World} {hv ov v' u : Value} {HV WS : List (List Int)} {vs : List Value} {zs : List Int} {ob : Obj} (h : F2 B w0 wr hv ov HV WS) (hB : B ≤ wr.heap.size)
    (g1 : vs.length = HV.length) (g2 : wr.ownsRow B 23 1 hv HV.length vs) (g3 : ∀ i, i < HV.length → Sl 0 3 wr (vs.getD i (.slice none 0 0)) (ints (HV.getD i []))) (hu : Sl 0 3 wr u (ints zs))
    (ho : w5.ownsRow B 23 1 v' (HV.length + 1) (vs ++ [u])) (hg : (wr.alloc ob).grownBy w5 hv.ownBlock) (hat : v'.ownBlock = hv.ownBlock ∨ v'.ownBlock = some (wr.heap.size + 1)) : F2 B w0 w5 v' ov (HV ++ [zs]) WS := by
  refine ⟨Fr.push (e2 := 23) (e1 := 3) (by decide) g1 (g2.alloc _) (fun i hi => (g3 i hi).alloc _) (hu.alloc _) ho hg, (h.o.alloc _).kept (by decide) (g2.alloc _) hg h.ap, fun g k1 k2 => ?_, (h.bel.alloc hB _).grown hg (by simp; omega) (fun x hx => (g2.lt x hx).1)⟩
  rcases hat with e | e
  · rw [e] at k1; exact h.ap g k1 k2
  · rw [e] at k1
    simp only [Option.some.injEq] at k1
    obtain ⟨_, _, q2, _⟩ := h.o
    have := (q2.lt g k2).2
    omega

/-- What parts of a word do is all there. -/
structure Cov (d : List (List Int)) (b : List Nat) (ws : List (List Nat)) : Prop where
  sub : ∀ y ∈ ws, y.Sublist b
  all : ∀ y : List Nat, y.Sublist b → dnW d y ∈ ws.map (dnW d)

theorem Cov.step {c R d S : List (List Int)} {t : Nat → Int} (h : Du c R d S t) {b : List Nat} {s : Nat} {ws ws0 : List (List Nat)} (hb : Lt c b) (hs : s < c.length) (h0 : Cov d b ws0) (hp : ws0 <+: ws) (hsub : ∀ y ∈ ws, y.Sublist (b ++ [s])) (hall : ∀ q, q < ws0.length → dnW d (ws0.getD q [] ++ [s]) ∈ ws.map (dnW d)) : Cov d (b ++ [s]) ws := by
  refine ⟨hsub, fun y hy => ?_⟩
  obtain ⟨y1, y2, rfl, h1, h2⟩ := List.sublist_append_iff.1 hy
  have hin : ∀ z ∈ ws0.map (dnW d), z ∈ ws.map (dnW d) := fun z hz => by
    obtain ⟨x, hx, rfl⟩ := List.mem_map.1 hz
    exact List.mem_map.2 ⟨x, hp.subset hx, rfl⟩
  have hy2 : y2 = [] ∨ y2 = [s] := by
    cases h2 with
    | cons _ h3 => exact Or.inl (List.sublist_nil.1 h3)
    | cons_cons _ h3 => rw [List.sublist_nil.1 h3]; exact Or.inr rfl
  rcases hy2 with rfl | rfl
  · rw [List.append_nil]
    exact hin _ (h0.all y1 h1)
  · obtain ⟨x, hx, e⟩ := List.mem_map.1 (h0.all y1 h1)
    obtain ⟨q, hq, hxq⟩ := List.mem_iff_getElem.1 hx
    have e2 : ws0.getD q [] = x := by simp [hq, hxq]
    have := hall q hq
    rw [e2] at this
    rw [← dn_snoc h (lt_sub (h0.sub x hx) hb) (lt_sub h1 hb) hs e]
    exact this

theorem map_getD {ws : List (List Nat)} {q : Nat} (hq : q < ws.length) (f : List Nat → List Int) : (ws.map f).getD q [] = f (ws.getD q []) := by simp [hq]

theorem pre_getN {L M : List (List Nat)} {i : Nat} (h : L <+: M) (hi : i < L.length) : M.getD i [] = L.getD i [] := by
  obtain ⟨t, rfl⟩ := h
  simp only [List.getD_eq_getElem?_getD]
  rw [List.getElem?_append_left hi]

set_option maxRecDepth 100000 in
set_option maxHeartbeats 6400000 in
theorem belowD_any (n : Nat) (c R d : List (List Int)) (t : Nat → Int) (wa wb : List Nat) (cv av bv : Value) (w : World) (h : Wg n c R d t) (hla : Lt c wa) (hlb : Lt c wb) (hal : wa.length ≤ 900) (hbl : wb.length ≤ 9) (hm : Mat w.heap.size 23 3 w cv c) (hav : Sl w.heap.size 3 w av (ints (natsI wa))) (hbv : Sl w.heap.size 3 w bv (ints (natsI wb))) :
    Calls Try.prog 10 #[cv, av, bv] w fun e w' => ∃ q, e = .returned (.bool q) ∧ (q = true ↔ ∃ y : List Nat, y.Sublist wb ∧ dnW d y = dnW d wa) ∧ Below w.heap.size w w' := by
  obtain ⟨i0, hi0, hz0, hz1, hz2⟩ := info_parts Try.info23
  obtain ⟨i3, hi3, hz30, hz31, hz32⟩ := info_parts Try.info3
  have hcl := h.g.g.sq.len
  have hn4 := h.g.g.sq.n4
  have HDO : Hid (∀ x xv W, Below w.heap.size w W → Lt c x → x.length ≤ 1000 → Sl W.heap.size 3 W xv (ints (natsI x)) → Calls Try.prog 9 #[cv, xv] W fun e w' => ∃ u, e = .returned u ∧ w'.ownsRow W.heap.size 3 1 u (n * n) (ints (dnW d x)) ∧ Below W.heap.size W w') := fun x xv W h1 h2 h3 h4 => done_any n c R d t x cv xv W h h2 h3 ((hm.below h1 (Nat.le_refl _)).any (Nat.le_refl _)) h4
  have HDU : Hid (Du c R d (abL c) t) := h.u
  have HLB : Hid (Lt c wb) := hlb
  have HCL : Hid (c.length = n) := hcl
  obtain ⟨ao, cap, hvv, _, _⟩ := mat_open hm
  subst hvv
  obtain ⟨xo, xc, hxvv, _, _⟩ := sl_open hav
  subst hxvv
  obtain ⟨yo, yc, hyvv, _, _⟩ := sl_open hbv
  subst hyvv
  have HBV : Hid (Sl w.heap.size 3 w (.slice yo (natsI wb).length yc) (ints (natsI wb))) := hbv
  have HD1 := HDO.out wa _ w (Below.refl _ _) hla (by omega) hav
  rw [natsI_len] at HBV ⊢
  rw [natsI_len] at HD1 ⊢
  clear h hla hlb hm hav hbv
  rw [hcl] at HDO HD1 ⊢
  go_enter Try.func10, Try.ntmps10
  go_wp2_with fail
  refine HD1.mono ?_
  rintro e w1 ⟨u1, rfl, ho1, hb1⟩
  obtain ⟨po, pc, hpv⟩ := owns_form ho1
  subst hpv
  have HW1 : Hid (Sl 0 3 w1 (.slice po (n * n) pc) (ints (dnW d wa))) := Sl.own ho1
  have HB1 : Hid (Below w.heap.size w w1) := hb1
  have HD2 := HDO.out [] (.slice none 0 0) w1 hb1 (fun z hz => by simp at hz) (by simp) (Sl.nil _ _ _)
  clear ho1 hb1 HD1
  go_wp2_with fail
  refine HD2.mono ?_
  rintro e w2 ⟨u2, rfl, ho2, hb2⟩
  obtain ⟨qo, qc, hqv⟩ := owns_form ho2
  subst hqv
  have HW2 : Hid (Sl 0 3 w2 (.slice po (n * n) pc) (ints (dnW d wa))) := HW1.out.below hb2 (Nat.le_refl _)
  have HB2 : Hid (Below w.heap.size w w2) := HB1.out.trans (hb2.mono HB1.out.size)
  obtain ⟨w3, hw3⟩ : ∃ w3, w3 = w2.alloc (.cells #[.slice qo (n * n) qc] 23) := ⟨_, rfl⟩
  obtain ⟨w4, hw4⟩ : ∃ w4, w4 = w3.alloc (.cells #[.slice none 0 0] 23) := ⟨_, rfl⟩
  have hs3 : w3.heap.size = w2.heap.size + 1 := by rw [hw3]; simp
  have b3 : Below w2.heap.size w2 w3 := by rw [hw3]; exact (Below.refl _ _).alloc (Nat.le_refl _) _
  have b34 : Below w3.heap.size w3 w4 := by rw [hw4]; exact (Below.refl _ _).alloc (Nat.le_refl _) _
  have f3 : Fr w2.heap.size 23 3 w3 (.slice (some ⟨w2.heap.size, 0, none⟩) 1 1) [dnW d []] := by
    rw [hw3]
    refine ⟨[.slice qo (n * n) qc], rfl, World.ownsRow_lit w2 #[.slice qo (n * n) qc] 1 (Nat.le_refl _) (by decide) rfl, fun i hi => ?_⟩
    have : i = 0 := by simp at hi; omega
    subst this
    exact (Sl.own ho2).alloc _
  have f4 : Fr w2.heap.size 23 3 w4 (.slice (some ⟨w3.heap.size, 0, none⟩) 1 1) [natsI []] := by
    rw [hw4]
    refine ⟨[.slice none 0 0], rfl, World.ownsRow_lit w3 #[.slice none 0 0] 1 (by omega) (by decide) rfl, fun i hi => ?_⟩
    have : i = 0 := by simp at hi; omega
    subst this
    exact Sl.nil _ _ _
  have HF4 : Hid (F2 w2.heap.size w2 w4 (.slice (some ⟨w2.heap.size, 0, none⟩) 1 1) (.slice (some ⟨w3.heap.size, 0, none⟩) 1 1) ([([] : List Nat)].map (dnW d)) ([([] : List Nat)].map natsI)) :=
    ⟨f3.below b34 (Nat.le_refl _), f4, fun g k1 k2 => by simp [Value.ownBlock] at k1 k2; omega, b3.trans (b34.mono (by omega))⟩
  have HWW : Hid (w4 = (w2.alloc (.cells #[.slice qo (n * n) qc] 23)).alloc (.cells #[.slice none 0 0] 23)) := by
    show _ = _
    rw [hw4, hw3]
  have HS3 : Hid (w3.heap.size = w2.heap.size + 1) := hs3
  have HC0 : Hid (Cov d (wb.take 0) [[]]) := ⟨fun y hy => by simp at hy; subst hy; exact List.Sublist.refl _, fun y hy => by
    rw [List.take_zero] at hy
    rw [List.sublist_nil.1 hy]
    simp⟩
  have HBW : Hid (∀ W, Below w2.heap.size w2 W → Below w.heap.size w W) := fun W hW => HB2.out.trans (hW.mono HB2.out.size)
  clear ho2 hb2 HD2 hw3 hw4 b3 b34 f3 f4 hs3
  generalize hNN : n * n = NN at *
  clear hNN
  go_wp2
  rw [← HWW.out]
  rw [← HS3.out]
  go_loopw [8, 9, 10, 11, 12, 13, 14] (fun hv ov iv _ _ _ _ wr => ∃ (i : Nat) (ws : List (List Nat)), i ≤ wb.length ∧ iv = .int .i64 i ∧ Cov d (wb.take i) ws ∧ ws.length ≤ 2 ^ i ∧ F2 w2.heap.size w2 wr hv ov (ws.map (dnW d)) (ws.map natsI)) (fun _ _ iv _ _ _ _ _ => wb.length - (intOf iv).toNat)
  case atStart => exact ⟨0, [[]], Nat.zero_le _, rfl, HC0.out, by simp, HF4.out⟩
  case round =>
    obtain ⟨i, ws0, hi, rfl, hcov, hlen, hf2⟩ := hrel
    have HCV : Hid (Cov d (wb.take i) ws0) := hcov
    obtain ⟨oo, oc, hov⟩ : ∃ oo oc, u9 = .slice oo ws0.length oc := by
      obtain ⟨vs, g1, g2, g3⟩ := hf2.o
      obtain ⟨a, b, e⟩ := owns_form g2
      exact ⟨a, b, by simpa using e⟩
    subst hov
    obtain ⟨ho', hc', hhv⟩ : ∃ ho' hc', u8 = .slice ho' ws0.length hc' := by
      obtain ⟨vs, g1, g2, g3⟩ := hf2.h
      obtain ⟨a, b, e⟩ := owns_form g2
      exact ⟨a, b, by simpa using e⟩
    subst hhv
    have HF : Hid (F2 w2.heap.size w2 wr (.slice ho' ws0.length hc') (.slice oo ws0.length oc) (ws0.map (dnW d)) (ws0.map natsI)) := hf2
    have hp9 : (2 : Nat) ^ i ≤ 512 := by
      have := Nat.pow_le_pow_right (show 0 < 2 by decide) (show i ≤ 9 by omega)
      exact Nat.le_trans this (by decide)
    have HLN : Hid (ws0.length ≤ 2 ^ i) := hlen
    have hl5 : ws0.length ≤ 512 := by omega
    clear hcov hlen hf2
    by_cases hlt : i < wb.length
    · have hsn : wb.getD i 0 < n := by rw [← HCL.out]; exact HLB.out _ (by simp [hlt])
      have HTK : Hid (wb.take (i + 1) = wb.take i ++ [wb.getD i 0]) := by
        show _ = _
        rw [List.take_succ_eq_append_getElem hlt]
        simp [hlt]
      have HLT : Hid (Lt c (wb.take i)) := fun z hz => HLB.out z (List.mem_of_mem_take hz)
      generalize hsv : wb.getD i 0 = s at *
      have HSV : Hid (wb.getD i 0 = s) := hsv
      clear hsv
      generalize hN0 : ws0.length = N0 at *
      have HN0 : Hid (ws0.length = N0) := hN0
      clear hN0
      clear hp9
      go_wp2
      go_loopw [8, 9, 12, 13, 14] (fun hv ov kv _ _ wq => ∃ (k : Nat) (ws : List (List Nat)), k ≤ N0 ∧ kv = .int .i64 k ∧ ws0 <+: ws ∧ (∀ y ∈ ws, y.Sublist (wb.take i ++ [s])) ∧ (∀ q, q < k → dnW d (ws0.getD q [] ++ [s]) ∈ ws.map (dnW d)) ∧ ws.length ≤ N0 + k ∧ F2 w2.heap.size w2 wq hv ov (ws.map (dnW d)) (ws.map natsI)) (fun _ _ kv _ _ _ => N0 - (intOf kv).toNat)
      case atStart => exact ⟨0, ws0, Nat.zero_le _, rfl, List.prefix_refl _, fun y hy => (HCV.out.sub y hy).trans (List.sublist_append_left _ _), fun q hq => absurd hq (by omega), by rw [HN0.out]; omega, HF.out⟩
      case round =>
        rename World => wa'
        obtain ⟨k, ws, hk, rfl, hpre, hsub, hall, hwl, hf2⟩ := hrel
        have HPR : Hid (ws0 <+: ws) := hpre
        have HSU : Hid (∀ y ∈ ws, y.Sublist (wb.take i ++ [s])) := hsub
        have HAL : Hid (∀ q, q < k → dnW d (ws0.getD q [] ++ [s]) ∈ ws.map (dnW d)) := hall
        obtain ⟨o2, c2, hov⟩ : ∃ oo oc, u9 = .slice oo ws.length oc := by
          obtain ⟨vs, g1, g2, g3⟩ := hf2.o
          obtain ⟨a, b, e⟩ := owns_form g2
          exact ⟨a, b, by simpa using e⟩
        subst hov
        obtain ⟨h2, c3, hhv⟩ : ∃ ho' hc', u8 = .slice ho' ws.length hc' := by
          obtain ⟨vs, g1, g2, g3⟩ := hf2.h
          obtain ⟨a, b, e⟩ := owns_form g2
          exact ⟨a, b, by simpa using e⟩
        subst hhv
        have HF3 : Hid (F2 w2.heap.size w2 wa' (.slice h2 ws.length c3) (.slice o2 ws.length c2) (ws.map (dnW d)) (ws.map natsI)) := hf2
        have hsz : w2.heap.size ≤ wa'.heap.size := hf2.bel.size
        clear hpre hsub hall hf2
        by_cases hlk : k < N0
        · have hk0 : k < ws0.length := by rw [HN0.out]; exact hlk
          have hkw : k < ws.length := Nat.lt_of_lt_of_le hk0 HPR.out.length_le
          have HMO : Hid (Mat 0 23 3 wa' (.slice o2 ws.length c2) (ws.map natsI)) := by
            obtain ⟨vs, g1, g2, g3⟩ := HF3.out.o
            exact ⟨vs, g1, Sl.own g2, g3⟩
          obtain ⟨b1, o1, cp1, r1, hs1, _, hc1, hr1⟩ := mat_cell HMO.out (k := k) (by simpa using hkw)
          have hml : (ws.map natsI).length = ws.length := by simp
          rw [hml] at hs1
          simp only [Value.slice.injEq, true_and] at hs1
          obtain ⟨rfl, rfl⟩ := hs1
          rw [map_getD hkw, pre_getN HPR.out hk0] at hr1
          have hy0 : (ws0.getD k []).Sublist (wb.take i) := HCV.out.sub _ (by simp [hk0])
          have hyl : (ws0.getD k []).length ≤ 9 := by
            have := hy0.length_le
            rw [List.length_take] at this
            omega
          have HLY : Hid (Lt c (ws0.getD k [] ++ [s])) := lt_app (lt_sub hy0 HLT.out) (fun r hr => by rw [List.mem_singleton] at hr; rw [HCL.out]; omega)
          have HSY : Hid ((ws0.getD k [] ++ [s]).Sublist (wb.take i ++ [s])) := hy0.append (List.Sublist.refl _)
          have HKK : Hid (∀ q, q < k + 1 → q < k ∨ q = k) := fun q hq => by omega
          have HY0 : Hid (∃ y0, y0 = ws0.getD k []) := ⟨_, rfl⟩
          obtain ⟨y0, hy0e⟩ := HY0.out
          rw [← hy0e] at hr1 hyl HLY HSY
          have HYE : Hid (y0 = ws0.getD k []) := hy0e
          clear hy0 hy0e HY0 hml
          obtain ⟨ro, rc, hrv, _, _⟩ := sl_open hr1
          subst hrv
          rw [natsI_len] at hr1 hc1
          have HR1 : Hid (Sl 0 3 wa' (.slice ro y0.length rc) (ints (natsI y0))) := hr1
          obtain ⟨e1b, e1o, e1c, hse, _, hce⟩ := sl_cell (HBV.out.below (HBW.out wa' HF3.out.bel) (Nat.le_refl _)) (k := i) (by rw [natsI_len]; exact hlt)
          rw [natsI_len] at hse
          simp only [Value.slice.injEq, true_and] at hse
          obtain ⟨rfl, rfl⟩ := hse
          rw [natsI_at hlt, HSV.out] at hce
          have HNY : Hid ((natsI y0).length = y0.length) := natsI_len y0
          have HCP : Hid (∀ W, Below wa'.heap.size wa' W → Calls Try.prog 19 #[.slice ro y0.length rc] W fun e w' => ∃ u, e = .returned u ∧ w'.ownsRow W.heap.size 3 1 u (natsI y0).length (ints (natsI y0)) ∧ Below W.heap.size W w') := fun W hW => by
            have := copy_any W.heap.size (natsI y0) (.slice ro y0.length rc) W ((HR1.out.below hW (Nat.le_refl _)).more (Nat.zero_le _)) (by rw [HNY.out]; omega)
            exact this
          have HCE : Hid (∀ W, Below wa'.heap.size wa' W → W.cell? ⟨b1, o1 + k, none⟩ = some (.slice ro y0.length rc) ∧ W.cell? ⟨e1b, e1o + i, none⟩ = some (.int .i64 (s : Int))) := fun W hW => ⟨(hW.cell (lt_of_cell hc1)).trans hc1, (hW.cell (lt_of_cell hce)).trans hce⟩
          have HFIN : Hid (∀ W xv, Below wa'.heap.size wa' W → W.ownsRow wa'.heap.size 3 1 xv ((natsI y0).length + 1) (ints (natsI y0) ++ [.int .i64 (s : Int)]) → Sl 0 3 W xv (ints (natsI (y0 ++ [s]))) ∧ F2 w2.heap.size w2 W (.slice h2 ws.length c3) (.slice (some ⟨b1, o1, none⟩) ws.length c2) (ws.map (dnW d)) (ws.map natsI)) := fun W xv hW ho => ⟨by rw [natsI_app]; exact Sl.own ho, HF3.out.low hsz hW⟩
          have hkI : (k : Int) < (ws.length : Int) := by omega
          have hkI0 : (0 : Int) ≤ (k : Int) := by omega
          have hiI : (i : Int) < (wb.length : Int) := by omega
          have hiI0 : (0 : Int) ≤ (i : Int) := by omega
          clear hr1 HMO
          go_wp2
          refine wp_region_held_drew (S := fun w' => w'.cell? ⟨b1, o1 + k, none⟩ = some (.slice ro y0.length rc) ∧ w'.cell? ⟨e1b, e1o + i, none⟩ = some (.int .i64 (s : Int))) (by kernel_rfl) ⟨hc1, hce⟩ (fun hHeld => ?_)
          refine wpAnyH_tk (i := 0) (d := 35) (v := (.slice (some ⟨b1, o1, none⟩) ws.length c2)) rfl rfl (by kernel_rfl) (by kernel_rfl) (by kernel_rfl) (fun _ _ _ h => h) (.inl ⟨by rfl, by (intro wq hSw; (try dsimp only at hSw); go_simp; (try (first | rfl | omega)))⟩) hHeld ?_
          simp only [Act.put, List.setIfInBounds_toArray, List.set_cons_zero, List.set_cons_succ]
          refine wpAnyH_tk (i := 1) (d := 36) (v := (.int .i64 (k : Int))) rfl rfl (by kernel_rfl) (by kernel_rfl) (by kernel_rfl) (fun _ _ _ h => h) (.inl ⟨by rfl, by (intro wq hSw; (try dsimp only at hSw); go_simp; (try (first | rfl | omega)))⟩) hHeld ?_
          simp only [Act.put, List.setIfInBounds_toArray, List.set_cons_zero, List.set_cons_succ]
          refine wpAnyH_tk (i := 2) (d := 37) (v := (.pointer (some ⟨b1, o1 + k, none⟩))) rfl rfl (by kernel_rfl) (by kernel_rfl) (by kernel_rfl) (fun _ _ _ h => h) (.inl ⟨by rfl, by (intro wq hSw; (try dsimp only at hSw); go_simp; (try (first | rfl | omega)))⟩) hHeld ?_
          simp only [Act.put, List.setIfInBounds_toArray, List.set_cons_zero, List.set_cons_succ]
          refine wpAnyH_tk (i := 3) (d := 38) (v := (.slice ro y0.length rc)) rfl rfl (by kernel_rfl) (by kernel_rfl) (by kernel_rfl) (fun _ _ _ h => h) (.inl ⟨by rfl, by (intro wq hSw; (try dsimp only at hSw); go_simp; (try (first | rfl | omega)))⟩) hHeld ?_
          simp only [Act.put, List.setIfInBounds_toArray, List.set_cons_zero, List.set_cons_succ]
          refine wpAnyH_tk (i := 5) (d := 40) (v := (.slice (some ⟨e1b, e1o, none⟩) wb.length yc)) rfl rfl (by kernel_rfl) (by kernel_rfl) (by kernel_rfl) (fun _ _ _ h => h) (.inl ⟨by rfl, by (intro wq hSw; (try dsimp only at hSw); go_simp; (try (first | rfl | omega)))⟩) hHeld ?_
          simp only [Act.put, List.setIfInBounds_toArray, List.set_cons_zero, List.set_cons_succ]
          refine wpAnyH_tk (i := 6) (d := 41) (v := (.int .i64 (i : Int))) rfl rfl (by kernel_rfl) (by kernel_rfl) (by kernel_rfl) (fun _ _ _ h => h) (.inl ⟨by rfl, by (intro wq hSw; (try dsimp only at hSw); go_simp; (try (first | rfl | omega)))⟩) hHeld ?_
          simp only [Act.put, List.setIfInBounds_toArray, List.set_cons_zero, List.set_cons_succ]
          refine wpAnyH_tk (i := 7) (d := 42) (v := (.pointer (some ⟨e1b, e1o + i, none⟩))) rfl rfl (by kernel_rfl) (by kernel_rfl) (by kernel_rfl) (fun _ _ _ h => h) (.inl ⟨by rfl, by (intro wq hSw; (try dsimp only at hSw); go_simp; (try (first | rfl | omega)))⟩) hHeld ?_
          simp only [Act.put, List.setIfInBounds_toArray, List.set_cons_zero, List.set_cons_succ]
          refine wpAnyH_tk (i := 8) (d := 43) (v := (.int .i64 (s : Int))) rfl rfl (by kernel_rfl) (by kernel_rfl) (by kernel_rfl) (fun _ _ _ h => h) (.inl ⟨by rfl, by (intro wq hSw; (try dsimp only at hSw); go_simp; (try (first | rfl | omega)))⟩) hHeld ?_
          simp only [Act.put, List.setIfInBounds_toArray, List.set_cons_zero, List.set_cons_succ]
          refine wpAnyH_ready (rs := [4, 9]) (by kernel_rfl) (by simp) ?_
          refine ready_tk (i := 4) rfl (by rfl) (fun K hK => ?_) (ready_tk (i := 9) rfl (by rfl) (fun K hK => ?_) AllReadyH.nil)
          · go_simp
            refine (HCP.out wa'.drew ⟨rfl, rfl, rfl, Nat.le_refl _, fun _ _ => rfl⟩).mono ?_
            rintro e w5 ⟨u5, rfl, ho5, hb5⟩
            have hb5' : Below wa'.heap.size wa' w5 := ⟨hb5.os, hb5.tape, hb5.output, hb5.size, hb5.block⟩
            have HB5 : Hid (Below wa'.heap.size wa' w5) := hb5'
            have hsz5 : wa'.heap.size ≤ w5.heap.size := hb5'.size
            obtain ⟨uo5, uc5, huv5⟩ := owns_form ho5
            subst huv5
            have HO5 : Hid (w5.ownsRow wa'.heap.size 3 1 (.slice uo5 (natsI y0).length uc5) (natsI y0).length (ints (natsI y0))) := ho5
            clear ho5 hb5 hb5'
            refine hK.out _ _ (HCE.out w5 HB5.out) (fun hHeld => ?_)
            clear hK K
            refine wpAnyH_ready (rs := [9]) (by kernel_rfl) (by simp) ?_
            refine ready_tk (i := 9) rfl (by rfl) (fun K hK => ?_) AllReadyH.nil
            go_simp
            refine hK.out _ _ (HCE.out _ (HB5.out.alloc hsz5 _)) (fun hHeld => ?_)
            clear hK K
            refine wpAnyH_ready (rs := [10]) (by kernel_rfl) (by simp) ?_
            refine ready_tk (i := 10) rfl (by rfl) (fun K hK => ?_) AllReadyH.nil
            refine op_append_ownA (.tmp 39) (.tmp 44) 23 (by rfl) wa'.heap.size 3 i3 (.int .i64 0) 1 8 Try.underlying23 hi3 hz30 hz31 hz32 rfl (by decide) _ _ _ (by rfl) (HO5.out.alloc _) ⟨w5.heap.size, 0, none⟩ 1 1 [.int .i64 (s : Int)] (by rfl) rfl (one_new _ _ _) (one_int _) (by rw [HNY.out]; unfold maxLen; omega) (by rw [HNY.out]; omega) (by simp; omega) ?_
            intro v6 w6 ho6 hg6 _
            have hb6 : Below wa'.heap.size wa' w6 := (HB5.out.alloc hsz5 _).grown hg6 (by simp; omega) (fun x hx => (HO5.out.lt x hx).1)
            refine hK.out _ _ (HCE.out w6 hb6) (fun hHeld => ?_)
            clear hK K
            simp only [Act.put, List.setIfInBounds_toArray, List.set_cons_zero, List.set_cons_succ]
            obtain ⟨vo, vc, hv6⟩ := owns_form ho6
            subst hv6
            clear hg6
            rw [HNY.out] at ho6 ⊢
            refine wpAnyH_tk (i := 11) (d := 13) (v := (.slice vo (y0.length + 1) vc)) rfl rfl (by kernel_rfl) (by kernel_rfl) (by kernel_rfl) (fun _ _ _ h => h) (.inl ⟨by rfl, by (intro wq hSw; (try dsimp only at hSw); go_simp; (try (first | rfl | omega)))⟩) hHeld ?_
            simp only [Act.put, List.setIfInBounds_toArray, List.set_cons_zero, List.set_cons_succ]
            refine wpAnyH_done (by kernel_rfl) ?_ _
            clear hHeld
            have ho6 : w6.ownsRow wa'.heap.size 3 1 (.slice vo (y0.length + 1) vc) ((natsI y0).length + 1) (ints (natsI y0) ++ [.int .i64 (s : Int)]) := by rw [HNY.out]; exact ho6
            obtain ⟨hxs6, hf6⟩ := HFIN.out w6 _ hb6 ho6
            have HX6 : Hid (Sl 0 3 w6 (.slice vo (y0.length + 1) vc) (ints (natsI (y0 ++ [s])))) := hxs6
            have HF6 : Hid (F2 w2.heap.size w2 w6 (.slice h2 ws.length c3) (.slice (some ⟨b1, o1, none⟩) ws.length c2) (ws.map (dnW d)) (ws.map natsI)) := hf6
            have hsz6 : w2.heap.size ≤ w6.heap.size := hf6.bel.size
            have HDC := HDO.out (y0 ++ [s]) (.slice vo (y0.length + 1) vc) w6 (HBW.out w6 hf6.bel) HLY.out (by simp; omega) (hxs6.more (Nat.zero_le _))
            clear ho6 hb6 hxs6 hf6
            go_wp2_with fail
            refine HDC.mono ?_
            rintro e w7 ⟨u7, rfl, ho7, hb7⟩
            obtain ⟨d7, dc7, hd7⟩ := owns_form ho7
            subst hd7
            have HS7 : Hid (Sl 0 3 w7 (.slice d7 NN dc7) (ints (dnW d (y0 ++ [s])))) := Sl.own ho7
            have HX7 : Hid (Sl 0 3 w7 (.slice vo (y0.length + 1) vc) (ints (natsI (y0 ++ [s])))) := HX6.out.below hb7 (Nat.le_refl _)
            have HF7 : Hid (F2 w2.heap.size w2 w7 (.slice h2 ws.length c3) (.slice (some ⟨b1, o1, none⟩) ws.length c2) (ws.map (dnW d)) (ws.map natsI)) := HF6.out.low hsz6 hb7
            have HMH : Hid (Mat 0 23 3 w7 (.slice h2 ws.length c3) (ws.map (dnW d))) := by
              obtain ⟨vs, g1, g2, g3⟩ := HF7.out.h
              exact ⟨vs, g1, Sl.own g2, g3⟩
            have HHO := holdsD_any 0 (dnW d (y0 ++ [s])) (ws.map (dnW d)) _ _ w7 HS7.out HMH.out
            obtain ⟨fb, hfb⟩ : ∃ fb, fb = (ws.map (dnW d)).any (· == dnW d (y0 ++ [s])) := ⟨_, rfl⟩
            rw [← hfb] at HHO
            have HFB : Hid (fb = (ws.map (dnW d)).any (· == dnW d (y0 ++ [s]))) := hfb
            clear ho7 hb7 hfb HDC HX6 HF6 hsz6 HMH
            go_wp2_with fail
            refine HHO.mono ?_
            rintro e w8' ⟨rfl, n8, rfl⟩
            have HS8 : Hid (Sl 0 3 (w7.drewN n8) (.slice d7 NN dc7) (ints (dnW d (y0 ++ [s])))) := HS7.out.drewN n8
            have HX8 : Hid (Sl 0 3 (w7.drewN n8) (.slice vo (y0.length + 1) vc) (ints (natsI (y0 ++ [s])))) := HX7.out.drewN n8
            have HF8 : Hid (F2 w2.heap.size w2 (w7.drewN n8) (.slice h2 ws.length c3) (.slice (some ⟨b1, o1, none⟩) ws.length c2) (ws.map (dnW d)) (ws.map natsI)) := HF7.out.low HF7.out.bel.size ⟨rfl, rfl, rfl, Nat.le_refl _, fun _ _ => rfl⟩
            clear HHO HS7 HX7 HF7
            generalize w7.drewN n8 = w8 at *
            have hsz8 : w2.heap.size ≤ w8.heap.size := HF8.out.bel.size
            have HML : Hid ((ws.map (dnW d)).length = ws.length ∧ (ws.map natsI).length = ws.length) := ⟨by simp, by simp⟩
            cases hf : fb
            · obtain ⟨vs, g1, g2, g3⟩ := HF8.out.h
              rw [HML.out.1] at g1 g2
              have G1 : Hid (vs.length = ws.length) := g1
              have G2 : Hid (w8.ownsRow w2.heap.size 23 1 (.slice h2 ws.length c3) ws.length vs) := g2
              have G3 : Hid (∀ i, i < (ws.map (dnW d)).length → Sl 0 3 w8 (vs.getD i (.slice none 0 0)) (ints ((ws.map (dnW d)).getD i []))) := g3
              clear g1 g2 g3 hf
              go_wp2_with (first | (at_builtin; refine wpList_append_own_at _ rfl _ _ 22 rfl w2.heap.size 23 i0 (.slice none 0 0) 1 24 Try.underlying22 hi0 hz0 hz1 hz2 rfl (by decide) _ _ _ rfl (G2.out.alloc _) ⟨w8.heap.size, 0, none⟩ 1 1 [.slice d7 NN dc7] rfl rfl (one_new _ _ _) (one_slice _ _ _) ?d3 ?d4 ?d5 ?_))
              case d3 => unfold maxLen; omega
              case d4 => omega
              case d5 => simp; omega
              intro v9 w9 ho9 hg9 _ hat9
              have HF9 : Hid (F2 w2.heap.size w2 w9 v9 (.slice (some ⟨b1, o1, none⟩) ws.length c2) (ws.map (dnW d) ++ [dnW d (y0 ++ [s])]) (ws.map natsI)) := HF8.out.push hsz8 (by rw [HML.out.1]; exact G1.out) (by rw [HML.out.1]; exact G2.out) G3.out HS8.out (by rw [HML.out.1]; exact ho9) hg9 hat9
              have HX9 : Hid (Sl 0 3 w9 (.slice vo (y0.length + 1) vc) (ints (natsI (y0 ++ [s])))) := (HX8.out.alloc _).grown hg9 (fun k hk => ⟨Nat.zero_le _, (owns_typed (G2.out.alloc _) (by decide) k hk).2⟩)
              obtain ⟨h9, hc9, hv9⟩ := owns_form ho9
              subst hv9
              clear ho9 hg9 hat9 G1 G2 G3 HF8 HX8 HS8
              have hsz9 : w2.heap.size ≤ w9.heap.size := HF9.out.bel.size
              obtain ⟨us, k1, k2, k3⟩ := HF9.out.o
              rw [HML.out.2] at k1 k2
              have K1 : Hid (us.length = ws.length) := k1
              have K2 : Hid (w9.ownsRow w2.heap.size 23 1 (.slice (some ⟨b1, o1, none⟩) ws.length c2) ws.length us) := k2
              have K3 : Hid (∀ i, i < (ws.map natsI).length → Sl 0 3 w9 (us.getD i (.slice none 0 0)) (ints ((ws.map natsI).getD i []))) := k3
              clear k1 k2 k3
              go_wp2_with (first | (at_builtin; refine wpList_append_own_at _ rfl _ _ 22 rfl w2.heap.size 23 i0 (.slice none 0 0) 1 24 Try.underlying22 hi0 hz0 hz1 hz2 rfl (by decide) _ _ _ rfl (K2.out.alloc _) ⟨w9.heap.size, 0, none⟩ 1 1 [.slice vo (y0.length + 1) vc] rfl rfl (one_new _ _ _) (one_slice _ _ _) ?d3 ?d4 ?d5 ?_))
              case d3 => unfold maxLen; omega
              case d4 => omega
              case d5 => simp; omega
              intro v10 w10 ho10 hg10 _ hat10
              have HF10 : Hid (F2 w2.heap.size w2 w10 (.slice h9 (ws.length + 1) hc9) v10 ((ws ++ [y0 ++ [s]]).map (dnW d)) ((ws ++ [y0 ++ [s]]).map natsI)) := by
                rw [List.map_append, List.map_append]
                exact (HF9.out.swap.push hsz9 (by rw [HML.out.2]; exact K1.out) (by rw [HML.out.2]; exact K2.out) K3.out HX9.out (by rw [HML.out.2]; exact ho10) hg10 hat10).swap
              obtain ⟨h10, hc10, hv10⟩ := owns_form ho10
              subst hv10
              clear ho10 hg10 hat10 K1 K2 K3 HF9 HX9
              go_wp2
              go_roundw
              case rel => exact ⟨k + 1, ws ++ [y0 ++ [s]], by omega, by go_num, HPR.out.trans (List.prefix_append _ _), fun y hy => by
                rcases List.mem_append.1 hy with h | h
                · exact HSU.out y h
                · rw [List.mem_singleton] at h; rw [h]; exact HSY.out, fun q hq => by
                rw [List.map_append]
                rcases HKK.out q hq with h | h
                · exact List.mem_append_left _ (HAL.out q h)
                · rw [h, ← HYE.out]; exact List.mem_append_right _ (by simp), by simp; omega, HF10.out⟩
              case measure => simp [intOf]; omega
            · have HIN : Hid (dnW d (y0 ++ [s]) ∈ ws.map (dnW d)) := by
                have h1 := HFB.out
                rw [hf] at h1
                obtain ⟨z, hz, e⟩ := List.any_eq_true.1 h1.symm
                have e2 : z = dnW d (y0 ++ [s]) := by simpa using e
                rw [← e2]
                exact hz
              clear hf
              go_wp2
              go_roundw
              case rel => exact ⟨k + 1, ws, by omega, by go_num, HPR.out, HSU.out, fun q hq => by
                rcases HKK.out q hq with h | h
                · exact HAL.out q h
                · rw [h, ← HYE.out]; exact HIN.out, by omega, HF8.out⟩
              case measure => simp [intOf]; omega
          · go_simp
            refine hK.out _ _ (HCE.out _ ⟨rfl, rfl, rfl, by simp, fun b hb => Below.heap_alloc _ _ _ hb⟩) (fun hHeld => ?_)
            clear hK K
            refine wpAnyH_ready (rs := [4]) (by kernel_rfl) (by simp) ?_
            refine ready_tk (i := 4) rfl (by rfl) (fun K hK => ?_) AllReadyH.nil
            go_simp
            obtain ⟨wz, hwz⟩ : ∃ wz, wz = (wa'.alloc (.cells #[.int .i64 (s : Int)] 3)).drew := ⟨_, rfl⟩
            have hbz : Below wa'.heap.size wa' wz := by rw [hwz]; exact ⟨rfl, rfl, rfl, by simp, fun b hb => Below.heap_alloc _ _ _ hb⟩
            have hcz : wz.cell? ⟨wa'.heap.size, 0, none⟩ = some (.int .i64 (s : Int)) := by rw [hwz]; simp [go_sem]
            rw [← hwz]
            clear hwz
            refine (HCP.out wz hbz).mono ?_
            rintro e w5 ⟨u5, rfl, ho5, hb5⟩
            have HB5 : Hid (Below wa'.heap.size wa' w5) := hbz.trans (hb5.mono hbz.size)
            have hsz5 : wa'.heap.size ≤ w5.heap.size := HB5.out.size
            have hcz5 : w5.cell? ⟨wa'.heap.size, 0, none⟩ = some (.int .i64 (s : Int)) := (hb5.cell (lt_of_cell hcz)).trans hcz
            obtain ⟨uo5, uc5, huv5⟩ := owns_form ho5
            subst huv5
            have HO5 : Hid (w5.ownsRow wa'.heap.size 3 1 (.slice uo5 (natsI y0).length uc5) (natsI y0).length (ints (natsI y0))) := own_lowD ho5 hbz.size
            have HNW : Hid (∀ j u, [Value.int .i64 (s : Int)][j]? = some u → w5.cell? ((⟨wa'.heap.size, 0, none⟩ : Addr).add j) = some u) := fun j u hj => by
              match j, hj with
              | 0, hj => simp at hj; subst hj; simpa [Addr.add] using hcz5
            clear ho5 hb5 hcz hcz5 hbz
            refine hK.out _ _ (HCE.out w5 HB5.out) (fun hHeld => ?_)
            clear hK K
            refine wpAnyH_ready (rs := [10]) (by kernel_rfl) (by simp) ?_
            refine ready_tk (i := 10) rfl (by rfl) (fun K hK => ?_) AllReadyH.nil
            refine op_append_ownA (.tmp 39) (.tmp 44) 23 (by rfl) wa'.heap.size 3 i3 (.int .i64 0) 1 8 Try.underlying23 hi3 hz30 hz31 hz32 rfl (by decide) _ _ _ (by rfl) HO5.out ⟨wa'.heap.size, 0, none⟩ 1 1 [.int .i64 (s : Int)] (by rfl) rfl HNW.out (one_int _) (by rw [HNY.out]; unfold maxLen; omega) (by rw [HNY.out]; omega) hsz5 ?_
            intro v6 w6 ho6 hg6 _
            have hb6 : Below wa'.heap.size wa' w6 := HB5.out.grown hg6 hsz5 (fun x hx => (HO5.out.lt x hx).1)
            refine hK.out _ _ (HCE.out w6 hb6) (fun hHeld => ?_)
            clear hK K
            simp only [Act.put, List.setIfInBounds_toArray, List.set_cons_zero, List.set_cons_succ]
            obtain ⟨vo, vc, hv6⟩ := owns_form ho6
            subst hv6
            clear hg6
            rw [HNY.out] at ho6 ⊢
            refine wpAnyH_tk (i := 11) (d := 13) (v := (.slice vo (y0.length + 1) vc)) rfl rfl (by kernel_rfl) (by kernel_rfl) (by kernel_rfl) (fun _ _ _ h => h) (.inl ⟨by rfl, by (intro wq hSw; (try dsimp only at hSw); go_simp; (try (first | rfl | omega)))⟩) hHeld ?_
            simp only [Act.put, List.setIfInBounds_toArray, List.set_cons_zero, List.set_cons_succ]
            refine wpAnyH_done (by kernel_rfl) ?_ _
            clear hHeld
            have ho6 : w6.ownsRow wa'.heap.size 3 1 (.slice vo (y0.length + 1) vc) ((natsI y0).length + 1) (ints (natsI y0) ++ [.int .i64 (s : Int)]) := by rw [HNY.out]; exact ho6
            obtain ⟨hxs6, hf6⟩ := HFIN.out w6 _ hb6 ho6
            have HX6 : Hid (Sl 0 3 w6 (.slice vo (y0.length + 1) vc) (ints (natsI (y0 ++ [s])))) := hxs6
            have HF6 : Hid (F2 w2.heap.size w2 w6 (.slice h2 ws.length c3) (.slice (some ⟨b1, o1, none⟩) ws.length c2) (ws.map (dnW d)) (ws.map natsI)) := hf6
            have hsz6 : w2.heap.size ≤ w6.heap.size := hf6.bel.size
            have HDC := HDO.out (y0 ++ [s]) (.slice vo (y0.length + 1) vc) w6 (HBW.out w6 hf6.bel) HLY.out (by simp; omega) (hxs6.more (Nat.zero_le _))
            clear ho6 hb6 hxs6 hf6
            go_wp2_with fail
            refine HDC.mono ?_
            rintro e w7 ⟨u7, rfl, ho7, hb7⟩
            obtain ⟨d7, dc7, hd7⟩ := owns_form ho7
            subst hd7
            have HS7 : Hid (Sl 0 3 w7 (.slice d7 NN dc7) (ints (dnW d (y0 ++ [s])))) := Sl.own ho7
            have HX7 : Hid (Sl 0 3 w7 (.slice vo (y0.length + 1) vc) (ints (natsI (y0 ++ [s])))) := HX6.out.below hb7 (Nat.le_refl _)
            have HF7 : Hid (F2 w2.heap.size w2 w7 (.slice h2 ws.length c3) (.slice (some ⟨b1, o1, none⟩) ws.length c2) (ws.map (dnW d)) (ws.map natsI)) := HF6.out.low hsz6 hb7
            have HMH : Hid (Mat 0 23 3 w7 (.slice h2 ws.length c3) (ws.map (dnW d))) := by
              obtain ⟨vs, g1, g2, g3⟩ := HF7.out.h
              exact ⟨vs, g1, Sl.own g2, g3⟩
            have HHO := holdsD_any 0 (dnW d (y0 ++ [s])) (ws.map (dnW d)) _ _ w7 HS7.out HMH.out
            obtain ⟨fb, hfb⟩ : ∃ fb, fb = (ws.map (dnW d)).any (· == dnW d (y0 ++ [s])) := ⟨_, rfl⟩
            rw [← hfb] at HHO
            have HFB : Hid (fb = (ws.map (dnW d)).any (· == dnW d (y0 ++ [s]))) := hfb
            clear ho7 hb7 hfb HDC HX6 HF6 hsz6 HMH
            go_wp2_with fail
            refine HHO.mono ?_
            rintro e w8' ⟨rfl, n8, rfl⟩
            have HS8 : Hid (Sl 0 3 (w7.drewN n8) (.slice d7 NN dc7) (ints (dnW d (y0 ++ [s])))) := HS7.out.drewN n8
            have HX8 : Hid (Sl 0 3 (w7.drewN n8) (.slice vo (y0.length + 1) vc) (ints (natsI (y0 ++ [s])))) := HX7.out.drewN n8
            have HF8 : Hid (F2 w2.heap.size w2 (w7.drewN n8) (.slice h2 ws.length c3) (.slice (some ⟨b1, o1, none⟩) ws.length c2) (ws.map (dnW d)) (ws.map natsI)) := HF7.out.low HF7.out.bel.size ⟨rfl, rfl, rfl, Nat.le_refl _, fun _ _ => rfl⟩
            clear HHO HS7 HX7 HF7
            generalize w7.drewN n8 = w8 at *
            have hsz8 : w2.heap.size ≤ w8.heap.size := HF8.out.bel.size
            have HML : Hid ((ws.map (dnW d)).length = ws.length ∧ (ws.map natsI).length = ws.length) := ⟨by simp, by simp⟩
            cases hf : fb
            · obtain ⟨vs, g1, g2, g3⟩ := HF8.out.h
              rw [HML.out.1] at g1 g2
              have G1 : Hid (vs.length = ws.length) := g1
              have G2 : Hid (w8.ownsRow w2.heap.size 23 1 (.slice h2 ws.length c3) ws.length vs) := g2
              have G3 : Hid (∀ i, i < (ws.map (dnW d)).length → Sl 0 3 w8 (vs.getD i (.slice none 0 0)) (ints ((ws.map (dnW d)).getD i []))) := g3
              clear g1 g2 g3 hf
              go_wp2_with (first | (at_builtin; refine wpList_append_own_at _ rfl _ _ 22 rfl w2.heap.size 23 i0 (.slice none 0 0) 1 24 Try.underlying22 hi0 hz0 hz1 hz2 rfl (by decide) _ _ _ rfl (G2.out.alloc _) ⟨w8.heap.size, 0, none⟩ 1 1 [.slice d7 NN dc7] rfl rfl (one_new _ _ _) (one_slice _ _ _) ?d3 ?d4 ?d5 ?_))
              case d3 => unfold maxLen; omega
              case d4 => omega
              case d5 => simp; omega
              intro v9 w9 ho9 hg9 _ hat9
              have HF9 : Hid (F2 w2.heap.size w2 w9 v9 (.slice (some ⟨b1, o1, none⟩) ws.length c2) (ws.map (dnW d) ++ [dnW d (y0 ++ [s])]) (ws.map natsI)) := HF8.out.push hsz8 (by rw [HML.out.1]; exact G1.out) (by rw [HML.out.1]; exact G2.out) G3.out HS8.out (by rw [HML.out.1]; exact ho9) hg9 hat9
              have HX9 : Hid (Sl 0 3 w9 (.slice vo (y0.length + 1) vc) (ints (natsI (y0 ++ [s])))) := (HX8.out.alloc _).grown hg9 (fun k hk => ⟨Nat.zero_le _, (owns_typed (G2.out.alloc _) (by decide) k hk).2⟩)
              obtain ⟨h9, hc9, hv9⟩ := owns_form ho9
              subst hv9
              clear ho9 hg9 hat9 G1 G2 G3 HF8 HX8 HS8
              have hsz9 : w2.heap.size ≤ w9.heap.size := HF9.out.bel.size
              obtain ⟨us, k1, k2, k3⟩ := HF9.out.o
              rw [HML.out.2] at k1 k2
              have K1 : Hid (us.length = ws.length) := k1
              have K2 : Hid (w9.ownsRow w2.heap.size 23 1 (.slice (some ⟨b1, o1, none⟩) ws.length c2) ws.length us) := k2
              have K3 : Hid (∀ i, i < (ws.map natsI).length → Sl 0 3 w9 (us.getD i (.slice none 0 0)) (ints ((ws.map natsI).getD i []))) := k3
              clear k1 k2 k3
              go_wp2_with (first | (at_builtin; refine wpList_append_own_at _ rfl _ _ 22 rfl w2.heap.size 23 i0 (.slice none 0 0) 1 24 Try.underlying22 hi0 hz0 hz1 hz2 rfl (by decide) _ _ _ rfl (K2.out.alloc _) ⟨w9.heap.size, 0, none⟩ 1 1 [.slice vo (y0.length + 1) vc] rfl rfl (one_new _ _ _) (one_slice _ _ _) ?d3 ?d4 ?d5 ?_))
              case d3 => unfold maxLen; omega
              case d4 => omega
              case d5 => simp; omega
              intro v10 w10 ho10 hg10 _ hat10
              have HF10 : Hid (F2 w2.heap.size w2 w10 (.slice h9 (ws.length + 1) hc9) v10 ((ws ++ [y0 ++ [s]]).map (dnW d)) ((ws ++ [y0 ++ [s]]).map natsI)) := by
                rw [List.map_append, List.map_append]
                exact (HF9.out.swap.push hsz9 (by rw [HML.out.2]; exact K1.out) (by rw [HML.out.2]; exact K2.out) K3.out HX9.out (by rw [HML.out.2]; exact ho10) hg10 hat10).swap
              obtain ⟨h10, hc10, hv10⟩ := owns_form ho10
              subst hv10
              clear ho10 hg10 hat10 K1 K2 K3 HF9 HX9
              go_wp2
              go_roundw
              case rel => exact ⟨k + 1, ws ++ [y0 ++ [s]], by omega, by go_num, HPR.out.trans (List.prefix_append _ _), fun y hy => by
                rcases List.mem_append.1 hy with h | h
                · exact HSU.out y h
                · rw [List.mem_singleton] at h; rw [h]; exact HSY.out, fun q hq => by
                rw [List.map_append]
                rcases HKK.out q hq with h | h
                · exact List.mem_append_left _ (HAL.out q h)
                · rw [h, ← HYE.out]; exact List.mem_append_right _ (by simp), by simp; omega, HF10.out⟩
              case measure => simp [intOf]; omega
            · have HIN : Hid (dnW d (y0 ++ [s]) ∈ ws.map (dnW d)) := by
                have h1 := HFB.out
                rw [hf] at h1
                obtain ⟨z, hz, e⟩ := List.any_eq_true.1 h1.symm
                have e2 : z = dnW d (y0 ++ [s]) := by simpa using e
                rw [← e2]
                exact hz
              clear hf
              go_wp2
              go_roundw
              case rel => exact ⟨k + 1, ws, by omega, by go_num, HPR.out, HSU.out, fun q hq => by
                rcases HKK.out q hq with h | h
                · exact HAL.out q h
                · rw [h, ← HYE.out]; exact HIN.out, by omega, HF8.out⟩
              case measure => simp [intOf]; omega
        · have hke : k = N0 := by omega
          have HCV2 : Hid (Cov d (wb.take (i + 1)) ws) := by
            rw [HTK.out]
            exact HCV.out.step HDU.out HLT.out (by rw [HCL.out]; exact hsn) HPR.out HSU.out (fun q hq => HAL.out q (by rw [HN0.out] at hq; omega))
          have HL2 : Hid (ws.length ≤ 2 ^ (i + 1)) := by
            show _ ≤ _
            have := HLN.out
            rw [Nat.pow_succ]
            omega
          go_wp2
          go_roundw
          case rel => exact ⟨i + 1, ws, by omega, by go_num, HCV2.out, HL2.out, HF3.out⟩
          case measure => simp [intOf]; omega
    · have hie : wb.take i = wb := List.take_of_length_le (by omega)
      have HCE : Hid (Cov d wb ws0) := by have := HCV.out; rw [hie] at this; exact this
      have HMH : Hid (Mat 0 23 3 wr (.slice ho' ws0.length hc') (ws0.map (dnW d))) := by
        obtain ⟨vs, g1, g2, g3⟩ := HF.out.h
        exact ⟨vs, g1, Sl.own g2, g3⟩
      have HHO := holdsD_any 0 (dnW d wa) (ws0.map (dnW d)) _ _ wr (HW2.out.below HF.out.bel (Nat.le_refl _)) HMH.out
      have HIF : Hid ((ws0.map (dnW d)).any (· == dnW d wa) = true ↔ ∃ y : List Nat, y.Sublist wb ∧ dnW d y = dnW d wa) := by
        rw [List.any_eq_true]
        constructor
        · rintro ⟨z, hz, e⟩
          obtain ⟨y, hy, rfl⟩ := List.mem_map.1 hz
          exact ⟨y, HCE.out.sub y hy, by simpa using e⟩
        · rintro ⟨y, hy, e⟩
          exact ⟨dnW d y, HCE.out.all y hy, by simpa using e⟩
      have HBE : Hid (Below w.heap.size w wr) := HBW.out wr HF.out.bel
      generalize (ws0.map (dnW d)).any (· == dnW d wa) = fb at *
      clear hie
      go_wp2_with fail
      refine HHO.mono ?_
      rintro e w5 ⟨rfl, n5, rfl⟩
      have HBE5 : Hid (Below w.heap.size w (wr.drewN n5)) := HBE.out.trans ⟨rfl, rfl, rfl, Nat.le_refl _, fun _ _ => rfl⟩
      clear HHO
      go_wp2
      go_ret
      exact ⟨fb, rfl, HIF.out, HBE5.out⟩

end Go.Proofs.Ytkpdgpdicafeiaa
