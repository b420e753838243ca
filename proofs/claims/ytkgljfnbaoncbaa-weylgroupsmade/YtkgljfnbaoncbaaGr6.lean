/- facetref.Group: a shortest word of each, by lengths: a map from texts. -/
import Derived.Test.YtkgljfnbaoncbaaMgAN
import Derived.Test.YtkgljfnbaoncbaaMgAO
import Derived.Maps.Own
import Derived.Maps.OwnSet
import Derived.Maps.Views
namespace Go.Proofs.Ytkgljfnbaoncbaa
open Go.RowKit
attribute [local go_sem ↓] Go.wp_at_zero Go.wp_at_succ

theorem keyedT : Maps.Keyed Try.prog 9 := Maps.string_keyed (by kernel_rfl)
theorem mapT : Try.prog.underlying 47 = some (.map 9 4) := by kernel_rfl
theorem keyT {s : ByteArray} (hs : s.size ≤ maxLen) : keyOf Try.prog 9 (.string s) = some (.string s.data.toList) := WideMaps.keyOf_string_mk (by kernel_rfl) hs
theorem plainT (b : Bool) : (plainElem (H := Unit) Try.prog 4 (.bool b)) = some (.lit (.bool b), []) := by
  unfold plainElem
  rw [show Try.prog.underlying 4 = some .bool by kernel_rfl]

theorem plainT_inv {v : Value} {d : DataW Unit} {ps : List MemPlace} (h : plainElem Try.prog 4 v = some (d, ps)) : ∃ b, v = .bool b ∧ d = .lit (.bool b) := by
  unfold plainElem at h
  rw [show Try.prog.underlying 4 = some .bool by kernel_rfl] at h
  cases v <;> simp at h
  rename_i b
  exact ⟨b, rfl, h.1.symm⟩

theorem sl_keepM {w w2 : World} {m : Nat} {v : Value} {xs : List Value} (h : Sl 0 3 w v xs) (hg : w.grownBy w2 (some m)) (hm : ∀ cur e f, w.heap[m]? ≠ some (.cells cur e f)) : Sl 0 3 w2 v xs := by
  obtain ⟨ao, cap, rfl, h1, h2, h3, h4⟩ := h
  refine ⟨ao, cap, rfl, h1, h2, fun i hi => ?_, h4⟩
  obtain ⟨b, o, rfl, hc, ht⟩ := h3 i hi
  rcases ht with ht | ⟨cur, ht⟩
  · omega
  · have hne : b ≠ m := fun e => by rw [e] at ht; exact hm _ _ _ ht
    have hk := hg.block b (lt_of_block ht) (fun e => hne (by simpa using e))
    exact ⟨b, o, rfl, (World.cell?_of_block (w := w) hk).trans hc, Or.inr ⟨cur, hk.trans ht⟩⟩

/-- The words, and the map of what they do. -/
structure GrI (w : World) (m : Nat) (d : List (List Int)) (ov : Value) (M : List (List Int)) (L : List (List Nat)) (wr : World) : Prop where
  o : Fr w.heap.size 26 3 wr ov M
  lo : w.heap.size ≤ m
  ne : ov.ownBlock ≠ some m
  mp : ∃ D : DataW Unit, wr.ownsMap Try.prog 9 (plainElem Try.prog 4) m L.length D ∧ ∀ s : ByteArray, D.atKey (.string s.data.toList) (.lit (.bool false)) = .lit (.bool (L.any fun x => decide (kyS (dnW d x) = s)))
  bel : Below w.heap.size w wr

theorem GrI.low {w : World} {m : Nat} {d : List (List Int)} {ov : Value} {M : List (List Int)} {L : List (List Nat)} {wr w' : World} (h : GrI w m d ov M L wr) (hb : Below wr.heap.size wr w') : GrI w m d ov M L w' := by
  obtain ⟨D, h1, h2⟩ := h.mp
  exact ⟨h.o.below hb (Nat.le_refl _), h.lo, h.ne, ⟨D, h1.kept (row := none) ⟨hb.os, hb.tape, hb.output, hb.size, fun k hk _ => hb.block k hk⟩ (by simp), h2⟩, h.bel.trans (hb.mono h.bel.size)⟩

/-- The map is asked. -/
theorem GrI.look {w : World} {m : Nat} {d : List (List Int)} {ov : Value} {M : List (List Int)} {L : List (List Nat)} {wr : World} (h : GrI w m d ov M L wr) {s : ByteArray} (hs : s.size ≤ maxLen) :
    (Instr.lookup 47 (.map (some m)) (.string s) false).run Try.prog wr = .ok (.bool (L.any fun x => decide (kyS (dnW d x) = s))) wr := by
  obtain ⟨D, h1, h2⟩ := h.mp
  obtain ⟨v, ps, hv, hp⟩ := h1.lookup keyedT mapT (z := .bool false) (by kernel_rfl) (plainT false) (keyT hs)
  rw [h2 s] at hp
  obtain ⟨b, rfl, e⟩ := plainT_inv hp
  simp only [DataW.lit.injEq, Lit.bool.injEq] at e
  rw [e]; exact hv

theorem str_ne {s t : ByteArray} (h : s ≠ t) : (Lit.string s.data.toList) ≠ Lit.string t.data.toList := fun e => h (by
  simp only [Lit.string.injEq] at e
  exact ByteArray.ext (Array.toList_inj.1 e))

/-- The map is told. -/
theorem GrI.put {w : World} {m : Nat} {d : List (List Int)} {ov : Value} {M : List (List Int)} {L : List (List Nat)} {wr : World} (h : GrI w m d ov M L wr) (x : List Nat) (hs : (kyS (dnW d x)).size ≤ maxLen) (hL : L.length < 5000) :
    ∃ w2, (Instr.mapUpdate 47 (.map (some m)) (.string (kyS (dnW d x))) (.bool true)).run Try.prog wr = .ok () w2 ∧ GrI w m d ov M (L ++ [x]) w2 ∧ (∀ v xs, Sl 0 3 wr v xs → Sl 0 3 w2 v xs) := by
  obtain ⟨D, h1, h2⟩ := h.mp
  have h1' := h1
  obtain ⟨es, ck, hb, _, _, _⟩ := h1'
  have hbc : ∀ cur e f, wr.heap[m]? ≠ some (.cells cur e f) := fun cur e f q => by rw [hb] at q; cases q
  obtain ⟨w2, hrun, ho, hg⟩ := h1.update keyedT mapT (by unfold maxLen; omega) (keyT hs) (val := .bool true) (d := .lit (.bool true)) (ps := []) (plainT true)
  obtain ⟨vs, g1, g2, g3⟩ := h.o
  refine ⟨w2, hrun, ⟨⟨vs, g1, g2.kept hg (Or.inr h.ne), fun i hi => sl_keepM (g3 i hi) hg hbc⟩, h.lo, h.ne, ⟨_, by rw [List.length_append, List.length_singleton]; exact ho, fun s => ?_⟩, h.bel.grown hg h.bel.size (fun k hk => by simp at hk; rw [← hk]; exact h.lo)⟩, fun v xs hv => sl_keepM hv hg hbc⟩
  rw [List.any_append]
  by_cases e : s = kyS (dnW d x)
  · subst e
    rw [Maps.atKey_put_same h1.isMap (by trivial)]
    simp
  · rw [Maps.atKey_put_other (str_ne e), h2 s]
    have : decide (kyS (dnW d x) = s) = false := decide_eq_false fun q => e q.symm
    simp [this]

/-- A word is laid behind. -/
theorem GrI.push {w : World} {m : Nat} {d : List (List Int)} {ov v' u : Value} {M : List (List Int)} {L : List (List Nat)} {wr w5 : World} {vs : List Value} {zs : List Int} {ob : Obj} (h : GrI w m d ov M L wr)
    (g1 : vs.length = M.length) (g2 : wr.ownsRow w.heap.size 26 1 ov M.length vs) (g3 : ∀ i, i < M.length → Sl 0 3 wr (vs.getD i (.slice none 0 0)) (ints (M.getD i []))) (hu : Sl 0 3 wr u (ints zs))
    (ho : w5.ownsRow w.heap.size 26 1 v' (M.length + 1) (vs ++ [u])) (hg : (wr.alloc ob).grownBy w5 ov.ownBlock) (hat : v'.ownBlock = ov.ownBlock ∨ v'.ownBlock = some (wr.heap.size + 1)) : GrI w m d v' (M ++ [zs]) L w5 := by
  obtain ⟨D, h1, h2⟩ := h.mp
  have hlt := h1.lt
  refine ⟨Fr.push (e2 := 26) (e1 := 3) (by decide) g1 (g2.alloc _) (fun i hi => (g3 i hi).alloc _) (hu.alloc _) ho hg, h.lo, fun e => ?_, ⟨D, (h1.alloc ob).kept hg (fun e => h.ne e.symm), h2⟩, (h.bel.alloc h.bel.size _).grown hg (by have := h.bel.size; simp; omega) (fun x hx => (g2.lt x hx).1)⟩
  rcases hat with q | q
  · rw [q] at e; exact h.ne e
  · rw [q] at e
    simp only [Option.some.injEq] at e
    omega

theorem dn_bd {n : Nat} {c R d : List (List Int)} {t : Nat → Int} (h : Wg n c R d t) (hb : ∀ b ∈ abL c, ∀ k, -100 ≤ b.getD k 0 ∧ b.getD k 0 ≤ 100) {wd : List Nat} (hw : Lt c wd) : ∀ z ∈ dnW d wd, -128 ≤ z ∧ z ≤ 127 := by
  intro z hz
  unfold dnW at hz
  obtain ⟨x, hx, hzx⟩ := List.mem_flatten.1 hz
  obtain ⟨i, hi, rfl⟩ := List.mem_map.1 hx
  have hcl := h.g.g.sq.len
  have hdl := h.u.len
  rw [List.mem_range, hdl] at hi
  have hu : un d.length i ∈ abL c := by rw [hdl]; exact ab_un hi
  have hp := h.pm hw hu wd.length
  rw [show wd.reverse.take wd.length = wd.reverse from List.take_of_length_le (by simp)] at hp
  obtain ⟨k, hk, rfl⟩ := List.mem_iff_getElem.1 hzx
  have e : ∀ l : List Int, ∀ hk : k < l.length, l[k] = l.getD k 0 := fun l hk => by simp [hk]
  rw [e _ hk]
  rcases hp with hp | hp
  · have := hb _ hp k; omega
  · have := hb _ hp k
    rw [ngL_get] at this
    omega

theorem gs_key {n : Nat} {c R d : List (List Int)} {t : Nat → Int} (h : Wg n c R d t) (hb : ∀ b ∈ abL c, ∀ k, -100 ≤ b.getD k 0 ∧ b.getD k 0 ≤ 100) {L : List (List Nat)} (hL : ∀ w ∈ L, Lt c w) {x : List Nat} (hx : Lt c x) :
    (L.any fun y => decide (kyS (dnW d y) = kyS (dnW d x))) = L.any fun y => dnW d y == dnW d x := by
  refine any_memC fun y hy => ?_
  rw [Bool.eq_iff_iff, decide_eq_true_eq, beq_iff_eq]
  exact ⟨kyS_inj (dn_bd h hb (hL y hy)) (dn_bd h hb hx), fun e => by rw [e]⟩

theorem gsI_mono (d : List (List Int)) (i : Nat) (L : List (List Nat)) {j : Nat} : ∀ k, j ≤ k → gsI d i j L <+: gsI d i k L
  | 0, h => by
    obtain rfl : j = 0 := by omega
    exact List.prefix_refl _
  | k + 1, h => by
    by_cases e : j = k + 1
    · subst e; exact List.prefix_refl _
    · exact (gsI_mono d i L k (by omega)).trans (gsS_pre d i k _)

set_option maxRecDepth 100000 in
set_option maxHeartbeats 12800000 in
theorem group_any (n : Nat) (c R d : List (List Int)) (t : Nat → Int) (cv : Value) (w : World) (h : Wg n c R d t) (hb : ∀ b ∈ abL c, ∀ k, -100 ≤ b.getD k 0 ∧ b.getD k 0 ≤ 100) (hfin : (gsL d n).length ≤ 200) (hm : Mat w.heap.size 26 3 w cv c) :
    Calls Try.prog 20 #[cv] w fun e w' => ∃ u, e = .returned u ∧ Fr w.heap.size 26 3 w' u ((gsL d n).map natsI) ∧ Below w.heap.size w w' := by
  obtain ⟨i0, hi0, hz0, hz1, hz2⟩ := info_parts Try.info26
  obtain ⟨i3, hi3, hz30, hz31, hz32⟩ := info_parts Try.info3
  have hcl := h.g.g.sq.len
  have hn4 := h.g.g.sq.n4
  have HDO : Hid (∀ x xv W, Below w.heap.size w W → Lt c x → x.length ≤ 1000 → Sl W.heap.size 3 W xv (ints (natsI x)) → Calls Try.prog 34 #[cv, xv] W fun e w' => ∃ u, e = .returned u ∧ w'.ownsRow W.heap.size 3 1 u (n * n) (ints (dnW d x)) ∧ Below W.heap.size W w') := fun x xv W hW h1 h2 h3 => done_any n c R d t x cv xv W h h1 h2 ((hm.below hW (Nat.le_refl _)).any (Nat.le_refl _)) h3
  have HKY : Hid (∀ x v W, Lt c x → Sl W.heap.size 3 W v (ints (dnW d x)) → Calls Try.prog 33 #[v] W fun e w' => e = .returned (.string (kyS (dnW d x))) ∧ Below W.heap.size W w') := fun x v W h1 h2 => key_any (dnW d x) v W h2 (dn_bd h hb h1)
  have HGK : Hid (∀ (L : List (List Nat)) (x : List Nat), (∀ w ∈ L, Lt c w) → Lt c x → (L.any fun y => decide (kyS (dnW d y) = kyS (dnW d x))) = L.any fun y => dnW d y == dnW d x) := fun L x h1 h2 => gs_key h hb h1 h2
  have hdl := h.u.len
  have HKS : Hid (∀ x, (kyS (dnW d x)).size ≤ maxLen) := fun x => by
    have h1 := dnP_len d x d.length
    have e : (kyS (dnW d x)).size = (dnP d x d.length).length := by
      show ((dnP d x d.length).map kyB).toArray.size = _
      rw [List.size_toArray, List.length_map]
    rw [e, h1, hdl, hcl]
    have := Nat.mul_le_mul hn4 hn4
    unfold maxLen
    omega
  obtain ⟨ao, cap, hvv, _, _⟩ := mat_open hm
  subst hvv
  have HFN : Hid ((gsL d n).length ≤ 200) := hfin
  have HCL : Hid (c.length = n) := hcl
  rw [hcl] at HDO ⊢
  clear h hb hm hfin
  have hmm := @run_makeMap Try.prog
  go_enter Try.func20, Try.ntmps20
  obtain ⟨W0, hW0⟩ : ∃ W0, W0 = (w.alloc (.cells #[] 3)).alloc (.cells #[.slice (some ⟨w.heap.size, 0, none⟩) 0 0] 26) := ⟨_, rfl⟩
  have hs0 : W0.heap.size = w.heap.size + 2 := by rw [hW0]; simp
  have HG0 : Hid (GrI w (w.heap.size + 2) d (.slice (some ⟨w.heap.size + 1, 0, none⟩) 1 1) [natsI []] [] (W0.alloc (.map #[] 0))) := by
    have hb1 : Below w.heap.size w (w.alloc (.cells #[] 3)) := (Below.refl _ _).alloc (Nat.le_refl _) _
    have hb0 : Below w.heap.size w W0 := by rw [hW0]; exact hb1.alloc (by simp) _
    refine ⟨?_, by omega, by simp [Value.ownBlock], ⟨.map [], ?_, fun s => rfl⟩, hb0.alloc (by omega) _⟩
    · refine Fr.alloc ?_ _
      rw [hW0]
      refine ⟨[.slice (some ⟨w.heap.size, 0, none⟩) 0 0], rfl, ?_, fun i hi => ?_⟩
      · have this : ((w.alloc (.cells #[] 3)).alloc (.cells #[.slice (some ⟨w.heap.size, 0, none⟩) 0 0] 26)).ownsRow w.heap.size 26 1 (.slice (some ⟨(w.alloc (.cells #[] 3)).heap.size, 0, none⟩) 1 1) 1 [.slice (some ⟨w.heap.size, 0, none⟩) 0 0] := World.ownsRow_lit (w.alloc (.cells #[] 3)) #[.slice (some ⟨w.heap.size, 0, none⟩) 0 0] 1 (by simp) (by decide) rfl
        simpa using this
      · have : i = 0 := by simp at hi; omega
        subst this
        exact ⟨_, _, rfl, Nat.zero_le _, by unfold maxLen; omega, fun i hi => absurd hi (Nat.not_lt_zero i), fun h => by cases h⟩
    · rw [← hs0]
      exact World.ownsMap_made W0 _ _ _
  have HWS : Hid (W0.heap.size = w.heap.size + 2) := hs0
  have HW0 : Hid (W0 = (w.alloc (.cells #[] 3)).alloc (.cells #[.slice (some ⟨w.heap.size, 0, none⟩) 0 0] 26)) := hW0
  have HD0 := HDO.out [] (.slice none 0 0) (W0.alloc (.map #[] 0)) HG0.out.bel (fun z hz => by simp at hz) (by simp) (Sl.nil _ _ _)
  rw [hW0] at HD0
  clear hW0 hs0
  go_wp2_with fail
  refine HD0.mono ?_
  rintro e w1 ⟨u1, rfl, ho1, hb1⟩
  rw [← HW0.out] at hb1 ho1
  have HG1 : Hid (GrI w (w.heap.size + 2) d (.slice (some ⟨w.heap.size + 1, 0, none⟩) 1 1) [natsI []] [] w1) := HG0.out.low hb1
  obtain ⟨po, pc, hpv⟩ := owns_form ho1
  subst hpv
  have HK1 := HKY.out [] (.slice po (n * n) pc) w1 (fun z hz => by simp at hz) ((Sl.own ho1).more (Nat.zero_le _))
  clear HD0 HG0 hb1 ho1
  go_wp2_with fail
  refine HK1.mono ?_
  rintro e w2 ⟨rfl, hb2⟩
  have HG2 : Hid (GrI w (w.heap.size + 2) d (.slice (some ⟨w.heap.size + 1, 0, none⟩) 1 1) [natsI []] [] w2) := HG1.out.low hb2
  obtain ⟨w3, hrun, hg3, _⟩ := HG2.out.put [] (HKS.out []) (by simp)
  have HG3 : Hid (GrI w (w.heap.size + 2) d (.slice (some ⟨w.heap.size + 1, 0, none⟩) 1 1) ([([] : List Nat)].map natsI) [[]] w3) := hg3
  have HKE : Hid (∃ s, s = kyS (dnW d [])) := ⟨_, rfl⟩
  generalize kyS (dnW d []) = s0 at *
  clear HK1 HG1 HG2 hb2 hg3
  obtain ⟨m, hm⟩ : ∃ m, m = w.heap.size + 2 := ⟨_, rfl⟩
  rw [← hm] at HG3 hrun
  have HMV : Hid ((.map (some (w.heap.size + 1 + 1)) : Value) = .map (some m)) := by rw [hm]; rfl
  clear hm
  obtain ⟨NN, hNN⟩ : ∃ NN, NN = n * n := ⟨_, rfl⟩
  have HNN : Hid (NN = n * n) := hNN
  clear hNN
  rw [HMV.out]
  go_wp2_with fail
  go_loopw [3, 5] (fun ov iv wr => ∃ (i f : Nat) (L : List (List Nat)), iv = .int .i64 i ∧ i + f = 201 ∧ gsO d n f i L = gsL d n ∧ (∀ x ∈ L, Lt c x ∧ x.length ≤ i) ∧ GrI w m d ov (L.map natsI) L wr) (fun _ iv _ => 201 - (intOf iv).toNat)
  case atStart =>
    refine ⟨0, 201, [[]], rfl, rfl, rfl, fun x hx => ?_, HG3.out⟩
    rw [List.mem_singleton] at hx
    subst hx
    exact ⟨fun r hr => absurd hr (by simp), Nat.le_refl _⟩
  case round =>
    obtain ⟨i, f, L, rfl, hif, hgo, hlt, hgr⟩ := hrel
    have hLl : L.length ≤ 200 := by
      have h1 := (gsO_pre d n f i L).length_le
      rw [hgo] at h1
      have := HFN.out
      omega
    obtain ⟨w4, rfl⟩ : ∃ w4, w4 = wr := ⟨_, rfl⟩
    have HGR : Hid (GrI w m d u3 (L.map natsI) L w4) := hgr
    obtain ⟨oo, oc, hov⟩ : ∃ oo oc, u3 = .slice oo L.length oc := by
      obtain ⟨vs, g1, g2, g3⟩ := hgr.o
      obtain ⟨a, b, e⟩ := owns_form g2
      exact ⟨a, b, by simpa using e⟩
    subst hov
    have HGO : Hid (gsO d n f i L = gsL d n) := hgo
    have HLT : Hid (∀ x ∈ L, Lt c x ∧ x.length ≤ i) := hlt
    clear hgo hlt hgr
    by_cases hiL : i < L.length
    · obtain ⟨f', rfl⟩ : ∃ f', f = f' + 1 := ⟨f - 1, by omega⟩
      have HG1 : Hid (gsO d n f' (i + 1) (gsI d i n L) = gsL d n) := by
        show _ = _
        rw [← HGO.out]
        conv => rhs; unfold gsO
        rw [if_pos hiL]
      go_wp2
      go_loopw [3, 6] (fun ov jv wr => ∃ (j : Nat), j ≤ n ∧ jv = .int .i64 j ∧ (∀ x ∈ gsI d i j L, Lt c x ∧ x.length ≤ i + 1) ∧ GrI w m d ov ((gsI d i j L).map natsI) (gsI d i j L) wr) (fun _ jv _ => n - (intOf jv).toNat)
      case atStart => exact ⟨0, Nat.zero_le _, rfl, fun x hx => ⟨(HLT.out x hx).1, by have := (HLT.out x hx).2; omega⟩, HGR.out⟩
      case round =>
        obtain ⟨j, hj, rfl, hlt, hgr⟩ := hrel
        obtain ⟨wa, rfl⟩ : ∃ wa, wa = wr := ⟨_, rfl⟩
        have HLJ : Hid (∀ x ∈ gsI d i j L, Lt c x ∧ x.length ≤ i + 1) := hlt
        have HPR : Hid (L <+: gsI d i j L) := gsI_pre d i j L
        have HPG : Hid ((gsI d i j L).length ≤ 200) := by
          have h1 := ((gsI_mono d i L n hj).trans (gsO_pre d n f' (i + 1) _)).length_le
          rw [HG1.out] at h1
          exact Nat.le_trans h1 HFN.out
        obtain ⟨oo2, oc2, hov⟩ : ∃ oo oc, u3 = .slice oo (gsI d i j L).length oc := by
          obtain ⟨vs, g1, g2, g3⟩ := hgr.o
          obtain ⟨a, b, e⟩ := owns_form g2
          exact ⟨a, b, by simpa using e⟩
        subst hov
        have HS1 : Hid (gsI d i (j + 1) L = gsS d i j (gsI d i j L)) := rfl
        have HGJ : Hid (GrI w m d (.slice oo2 (gsI d i j L).length oc2) ((gsI d i j L).map natsI) (gsI d i j L) wa) := hgr
        clear hlt hgr
        by_cases hjn : j < n
        · have hiJ : i < (gsI d i j L).length := Nat.lt_of_lt_of_le hiL HPR.out.length_le
          have hmem : (gsI d i j L).getD i [] ∈ gsI d i j L := by simp [hiJ]
          obtain ⟨y0, hy0⟩ : ∃ y0, y0 = (gsI d i j L).getD i [] := ⟨_, rfl⟩
          rw [← hy0] at hmem
          have HLY : Hid (Lt c (y0 ++ [j])) := lt_snoc (HLJ.out y0 hmem).1 (by rw [HCL.out]; exact hjn)
          have hyl : y0.length ≤ i := by
            rw [hy0, pre_getW8 HPR.out hiL]
            exact (HLT.out _ (by simp [hiL])).2
          have HYE : Hid (y0 = (gsI d i j L).getD i []) := hy0
          have HMO : Hid (Mat 0 26 3 wa (.slice oo2 (gsI d i j L).length oc2) ((gsI d i j L).map natsI)) := by
            obtain ⟨vs, g1, g2, g3⟩ := HGJ.out.o
            exact ⟨vs, g1, Sl.own g2, g3⟩
          obtain ⟨b1, o1, cp1, r1, hs1, _, hc1, hr1⟩ := mat_cell HMO.out (k := i) (by simpa using hiJ)
          rw [List.length_map] at hs1
          simp only [Value.slice.injEq, true_and] at hs1
          obtain ⟨rfl, rfl⟩ := hs1
          rw [map_getD hiJ, ← hy0] at hr1
          have hJ2 := HPG.out
          obtain ⟨J, hJ⟩ : ∃ J, J = gsI d i j L := ⟨_, rfl⟩
          have HJJ : Hid (J = gsI d i j L) := hJ
          rw [← hJ] at HPR HS1 HGJ HLJ HYE hiJ hJ2 hmem ⊢
          obtain ⟨ro, rc, hrv, _, _⟩ := sl_open hr1
          subst hrv
          rw [natsI_len] at hr1 hc1
          have HR1 : Hid (Sl 0 3 wa (.slice ro y0.length rc) (ints (natsI y0))) := hr1
          have HNY : Hid ((natsI y0).length = y0.length) := natsI_len y0
          have HCP := copy_any wa.heap.size (natsI y0) (.slice ro y0.length rc) wa ((HR1.out).more (Nat.zero_le _)) (by rw [HNY.out]; omega)
          have hiI : (i : Int) < (J.length : Int) := by omega
          have hiI0 : (0 : Int) ≤ (i : Int) := by omega
          clear hr1 HMO hy0 hJ HPG
          go_wp2_with fail
          refine HCP.mono ?_
          rintro e w5 ⟨u5, rfl, ho5, hb5⟩
          obtain ⟨uo5, uc5, huv5⟩ := owns_form ho5
          subst huv5
          have HB5 : Hid (Below wa.heap.size wa w5) := hb5
          have hsz5 : wa.heap.size ≤ w5.heap.size := hb5.size
          have HO5 : Hid (w5.ownsRow wa.heap.size 3 1 (.slice uo5 (natsI y0).length uc5) (natsI y0).length (ints (natsI y0))) := ho5
          clear ho5 hb5 HCP hc1
          go_wp2_with (first | (at_builtin; refine wpList_append_own _ rfl _ _ 26 rfl wa.heap.size 3 i3 (.int .i64 0) 1 8 Try.underlying26 hi3 hz30 hz31 hz32 rfl (by decide) _ _ _ rfl (HO5.out.alloc _) ⟨w5.heap.size, 0, none⟩ 1 1 [.int .i64 (j : Int)] rfl rfl (one_new _ _ _) (one_int _) ?c3 ?c4 ?c5 ?_))
          case c3 => rw [HNY.out]; unfold maxLen; omega
          case c4 => rw [HNY.out]; omega
          case c5 => simp; omega
          intro v6 w6 ho6 hg6 _
          have hb6 : Below wa.heap.size wa w6 := (HB5.out.alloc hsz5 _).grown hg6 (by simp; omega) (fun x hx => (HO5.out.lt x hx).1)
          have HS6 : Hid (Sl 0 3 w6 v6 (ints (natsI (y0 ++ [j])))) := by
            rw [natsI_app]
            exact Sl.own ho6
          have HG6 : Hid (GrI w m d (.slice (some ⟨b1, o1, none⟩) J.length oc2) (J.map natsI) J w6) := HGJ.out.low hb6
          obtain ⟨vo, vc, hv6⟩ := owns_form ho6
          subst hv6
          rw [HNY.out] at HS6 ⊢
          have HDC := HDO.out (y0 ++ [j]) _ w6 HG6.out.bel HLY.out (by simp; omega) (HS6.out.more (Nat.zero_le _))
          clear ho6 hg6 hb6 HO5 HB5 HR1
          go_wp2_with fail
          refine HDC.mono ?_
          rintro e w7 ⟨u7, rfl, ho7, hb7⟩
          obtain ⟨d7, dc7, hd7⟩ := owns_form ho7
          subst hd7
          have HG7 : Hid (GrI w m d (.slice (some ⟨b1, o1, none⟩) J.length oc2) (J.map natsI) J w7) := HG6.out.low hb7
          have HS7 : Hid (Sl 0 3 w7 (.slice vo (y0.length + 1) vc) (ints (natsI (y0 ++ [j])))) := HS6.out.below hb7 (Nat.le_refl _)
          have HKC := HKY.out (y0 ++ [j]) _ w7 HLY.out ((Sl.own ho7).more (Nat.zero_le _))
          clear HDC HG6 HS6 ho7 hb7
          go_wp2_with fail
          refine HKC.mono ?_
          rintro e w8 ⟨rfl, hb8⟩
          have HG8 : Hid (GrI w m d (.slice (some ⟨b1, o1, none⟩) J.length oc2) (J.map natsI) J w8) := HG7.out.low hb8
          have HS8 : Hid (Sl 0 3 w8 (.slice vo (y0.length + 1) vc) (ints (natsI (y0 ++ [j])))) := HS7.out.below hb8 (Nat.le_refl _)
          have hlook := HG8.out.look (HKS.out (y0 ++ [j]))
          have hany := HGK.out J (y0 ++ [j]) (fun x hx => (HLJ.out x hx).1) HLY.out
          rw [hany] at hlook
          have HST : Hid (∀ b, (J.any fun y => dnW d y == dnW d (y0 ++ [j])) = b → gsI d i (j + 1) L = if b = true then J else J ++ [y0 ++ [j]]) := fun b hb => by
            rw [HS1.out]
            unfold gsS
            rw [← HYE.out, hb]
          obtain ⟨b, hb⟩ : ∃ b, (J.any fun y => dnW d y == dnW d (y0 ++ [j])) = b := ⟨_, rfl⟩
          rw [hb] at hlook
          have HSB := HST.out b hb
          have hput := HG8.out.put (y0 ++ [j]) (HKS.out _) (by omega)
          obtain ⟨s7, hs7⟩ : ∃ s, s = kyS (dnW d (y0 ++ [j])) := ⟨_, rfl⟩
          rw [← hs7] at hlook hput ⊢
          clear HKC HG7 HS7 hb8 hany hb HST hs7
          cases b with
          | true =>
            have HE : Hid (gsI d i (j + 1) L = J) := by
              show _ = _
              simpa using HSB
            have HLN : Hid (∀ x ∈ gsI d i (j + 1) L, Lt c x ∧ x.length ≤ i + 1) := by
              rw [HE.out]; exact HLJ.out
            have HGN : Hid (GrI w m d (.slice (some ⟨b1, o1, none⟩) J.length oc2) ((gsI d i (j + 1) L).map natsI) (gsI d i (j + 1) L) w8) := by
              rw [HE.out]; exact HG8.out
            clear HSB hput
            go_wp2_with fail
            exact ⟨⟨j + 1, by omega, by go_num, HLN.out, HGN.out⟩, by simp [intOf]; omega⟩
          | false =>
            have HE : Hid (gsI d i (j + 1) L = J ++ [y0 ++ [j]]) := by
              show _ = _
              simpa using HSB
            obtain ⟨w9, hrun9, hg9, hsl9⟩ := hput
            have HG9 : Hid (GrI w m d (.slice (some ⟨b1, o1, none⟩) J.length oc2) (J.map natsI) (J ++ [y0 ++ [j]]) w9) := hg9
            have HS9 : Hid (Sl 0 3 w9 (.slice vo (y0.length + 1) vc) (ints (natsI (y0 ++ [j])))) := hsl9 _ _ HS8.out
            obtain ⟨vs, g1, g2, g3⟩ := hg9.o
            rw [List.length_map] at g1 g2
            have G1 : Hid (vs.length = J.length) := g1
            have G2 : Hid (w9.ownsRow w.heap.size 26 1 (.slice (some ⟨b1, o1, none⟩) J.length oc2) J.length vs) := g2
            have G3 : Hid (∀ i, i < (J.map natsI).length → Sl 0 3 w9 (vs.getD i (.slice none 0 0)) (ints ((J.map natsI).getD i []))) := g3
            have HJL : Hid ((J.map natsI).length = J.length) := List.length_map _
            have HLN : Hid (∀ x ∈ gsI d i (j + 1) L, Lt c x ∧ x.length ≤ i + 1) := by
              rw [HE.out]
              intro x hx
              rcases List.mem_append.1 hx with hx | hx
              · exact HLJ.out x hx
              · rw [List.mem_singleton] at hx
                subst hx
                exact ⟨HLY.out, by rw [List.length_append, List.length_singleton]; omega⟩
            have hsz9 : w.heap.size ≤ w9.heap.size := HG9.out.bel.size
            clear HSB hg9 hsl9 g1 g2 g3
            go_wp2_with (first | (at_builtin; refine wpList_append_own_at _ rfl _ _ 22 rfl w.heap.size 26 i0 (.slice none 0 0) 1 24 Try.underlying22 hi0 hz0 hz1 hz2 rfl (by decide) _ _ _ rfl (G2.out.alloc _) ⟨w9.heap.size, 0, none⟩ 1 1 [.slice vo (y0.length + 1) vc] rfl rfl (one_new _ _ _) (one_slice _ _ _) ?c3 ?c4 ?c5 ?_))
            case c3 => unfold maxLen; omega
            case c4 => omega
            case c5 => simp; omega
            intro v10 w10 ho10 hg10 _ hat
            have HP : GrI w m d v10 (J.map natsI ++ [natsI (y0 ++ [j])]) (J ++ [y0 ++ [j]]) w10 := HG9.out.push (zs := natsI (y0 ++ [j])) (by rw [HJL.out]; exact G1.out) (by rw [HJL.out]; exact G2.out) G3.out HS9.out (by rw [HJL.out]; exact ho10) hg10 hat
            have HGN : Hid (GrI w m d v10 ((gsI d i (j + 1) L).map natsI) (gsI d i (j + 1) L) w10) := by
              rw [HE.out, List.map_append]; exact HP
            obtain ⟨vo10, vc10, hv10⟩ := owns_form ho10
            subst hv10
            clear ho10 hg10 hat HP
            go_wp2_with fail
            exact ⟨⟨j + 1, by omega, by go_num, HLN.out, HGN.out⟩, by simp [intOf]; omega⟩
        · have hjn : j = n := by omega
          have HGN : Hid (GrI w m d (.slice oo2 (gsI d i j L).length oc2) ((gsI d i n L).map natsI) (gsI d i n L) wa) := by
            rw [← hjn]; exact HGJ.out
          have HLN : Hid (∀ x ∈ gsI d i n L, Lt c x ∧ x.length ≤ i + 1) := by
            rw [← hjn]; exact HLJ.out
          generalize (gsI d i j L).length = Z at *
          clear hjn
          go_wp2_with fail
          exact ⟨⟨i + 1, f', _, by go_num, by omega, HG1.out, HLN.out, HGN.out⟩, by simp [intOf]; omega⟩
    · have HFE : Hid (gsL d n = L) := by
        show _ = _
        rw [← HGO.out]
        cases f with
        | zero => rfl
        | succ f => unfold gsO; rw [if_neg hiL]
      have HRS : Hid (Fr w.heap.size 26 3 w4 (.slice oo L.length oc) ((gsL d n).map natsI)) := by
        rw [HFE.out]; exact HGR.out.o
      have HBF : Hid (Below w.heap.size w w4) := HGR.out.bel
      clear HGR HGO HLT HFE
      go_wp2_with fail
      go_ret
      exact ⟨_, rfl, HRS.out, HBF.out⟩

end Go.Proofs.Ytkgljfnbaoncbaa
