import Derived.Test.YtmljnfgfjcjmmaaSgA
import Derived.Test.YtmljnfgfjcjmmaaWiA
import Derived.Test.YtmljnfgfjcjmmaaStepsAll
import Derived.Maps.AppendAt
/- plane.meeting and its function. -/
namespace Go.Proofs.Ytmljnfgfjcjmmaa
open Go.RowKit Lin
attribute [local go_sem ↓] Go.wp_at_zero Go.wp_at_succ

/-- As wpAnyH_inv, with a saying that is held. -/
theorem wpAnyH_invS {P : Program} {md : Region.Mode} {ops : Array Oper} {Q : Exit → Act → World → Prop} {S : World → Prop} (Inv : Array Bool → Act → World → Prop) (hS : ∀ L a w, Inv L a w → S w)
    (hstep : ∀ L a w i, Inv L a w → i ∈ Region.ready md ops L → wpOp P ops Q i (fun a' w' => Inv (L.setIfInBounds i true) a' w') a w)
    (hend : ∀ L a w, Inv L a w → Region.ready md ops L = [] → Q .normal a w) :
    ∀ (fuel : Nat) (L : Array Bool) (a : Act) (w : World), Inv L a w → L.toList.count false ≤ fuel → wpAnyH P md ops Q S fuel L a w
  | 0, L, a, w, h, hf => by
    have hr : Region.ready md ops L = [] := by
      refine List.eq_nil_iff_forall_not_mem.2 fun i hi => ?_
      have h1 := ready_un hi
      rw [← Array.getElem?_toList] at h1
      have := List.count_pos_iff.2 (List.mem_of_getElem? h1)
      omega
    exact ⟨hr, hend L a w h hr⟩
  | fuel + 1, L, a, w, h, hf => by
    refine ⟨fun hr => hend L a w h hr, fun i hi => ?_⟩
    have h1 := ready_un hi
    refine wpOp_mono (fun a' w' h' => ⟨hS _ _ _ h', wpAnyH_invS Inv hS hstep hend fuel _ a' w' h' ?_⟩) (hstep L a w i h hi)
    rw [← Array.getElem?_toList] at h1
    have := count_set h1
    rw [Array.toList_setIfInBounds]
    omega

theorem no_falseS {b : Bool} (h : b = true → False) : b = false := by cases b with | false => rfl | true => exact (h rfl).elim

/-- A box of one truth. -/
def BoxB (w : World) (q : Nat) (b : Bool) : Prop := w.heap[q]? = some (.cells #[.bool b] 4 (0, 0))

theorem BoxB.below {w w' : World} {q : Nat} {b : Bool} {N : Nat} (h : BoxB w q b) (hb : Below N w w') (hN : w.heap.size ≤ N) : BoxB w' q b := by
  have hlt : q < w.heap.size := (Array.getElem?_eq_some_iff.1 h).1
  exact (hb.block q (by omega)).trans h

theorem BoxB.lt {w : World} {q : Nat} {b : Bool} (h : BoxB w q b) : q < w.heap.size := (Array.getElem?_eq_some_iff.1 h).1
theorem BoxB.cell {w : World} {q : Nat} {b : Bool} (h : BoxB w q b) : w.cell? ⟨q, 0, none⟩ = some (.bool b) := by unfold BoxB at h; simp [World.cell?, h]
theorem BoxB.frozen {w : World} {q : Nat} {b : Bool} (h : BoxB w q b) : w.frozen? ⟨q, 0, none⟩ = false := by unfold BoxB at h; simp [World.frozen?, h]
theorem BoxB.set {w : World} {q : Nat} {b : Bool} (h : BoxB w q b) (c : Bool) : BoxB (w.setCell ⟨q, 0, none⟩ (.bool c)) q c := by unfold BoxB at h ⊢; simp [World.setCell, Array.getElem?_modify, h]
theorem BoxB.set' {w : World} {q r : Nat} {b : Bool} (h : BoxB w q b) (hne : q ≠ r) (c : Value) : BoxB (w.setCell ⟨r, 0, none⟩ c) q b := (Below.heap_setCell _ _ _ _ hne).trans h
theorem BoxB.iterAt {w : World} {q : Nat} {b : Bool} (h : BoxB w q b) {k : Nat} {s : ByteArray} {pos : Nat} (hk : w.heap[k]? = some (.stringIter s pos)) (pos' : Nat) : BoxB (w.iterAt k s pos') q b :=
  (Lib.iterAt_other w k q s pos' (fun e => by unfold BoxB at h; rw [e, hk] at h; cases h)).trans h

/-- What is known in meeting's region: which operations are done, what lies in the slots. -/
structure MeI (W : World) (ab be : Bool) (nl : List Int) (b2 b5 b6 b7 b8 b9 b10 : Bool) (x5 x6 x9 x12 x13 : Value) (w : World) : Prop where
  bel : Below W.heap.size W w
  d5 : b5 = true → b2 = true
  d6 : b6 = true → b5 = true ∧ b2 = true
  d9 : b9 = true → b7 = true ∧ b6 = true
  d10 : b10 = true → b8 = true ∧ b6 = true
  v9 : b2 = true → x9 = .bool ab
  v12 : b5 = true → (∃ no nc, x12 = .slice no nl.length nc) ∧ (b6 = false → Sl 0 3 w x12 (ints nl))
  v13 : b6 = true → x13 = .bool be
  v5 : b7 = true → ∃ q, x5 = .pointer (some ⟨q, 0, none⟩) ∧ W.heap.size ≤ q ∧ BoxB w q (b9 && ab)
  v6 : b8 = true → ∃ q, x6 = .pointer (some ⟨q, 0, none⟩) ∧ W.heap.size ≤ q ∧ BoxB w q (b10 && be)
  ne : b7 = true → b8 = true → x5 ≠ x6

theorem MeI.move {W w w' : World} {ab be : Bool} {nl : List Int} {b2 b5 b6 b7 b8 b9 b10 : Bool} {x5 x6 x9 x12 x13 : Value} (h : MeI W ab be nl b2 b5 b6 b7 b8 b9 b10 x5 x6 x9 x12 x13 w) (hb : Below w.heap.size w w') : MeI W ab be nl b2 b5 b6 b7 b8 b9 b10 x5 x6 x9 x12 x13 w' :=
  ⟨h.bel.trans (hb.mono h.bel.size), h.d5, h.d6, h.d9, h.d10, h.v9, fun q => ⟨(h.v12 q).1, fun r => ((h.v12 q).2 r).below hb (Nat.le_refl _)⟩, h.v13,
    fun q => by obtain ⟨a, e, l, r⟩ := h.v5 q; exact ⟨a, e, l, r.below hb (Nat.le_refl _)⟩,
    fun q => by obtain ⟨a, e, l, r⟩ := h.v6 q; exact ⟨a, e, l, r.below hb (Nat.le_refl _)⟩, h.ne⟩

theorem MeI.op2 {W w : World} {ab be : Bool} {nl : List Int} {b5 b6 b7 b8 b9 b10 : Bool} {x5 x6 x9 x12 x13 : Value} (h : MeI W ab be nl false b5 b6 b7 b8 b9 b10 x5 x6 x9 x12 x13 w) : MeI W ab be nl true b5 b6 b7 b8 b9 b10 x5 x6 (.bool ab) x12 x13 w :=
  ⟨h.bel, fun _ => rfl, fun q => ⟨(h.d6 q).1, rfl⟩, h.d9, h.d10, fun _ => rfl, h.v12, h.v13, h.v5, h.v6, h.ne⟩

theorem MeI.op5 {W w w' : World} {ab be : Bool} {nl : List Int} {b6 b7 b8 b9 b10 : Bool} {x5 x6 x9 x12 x13 : Value} (h : MeI W ab be nl true false b6 b7 b8 b9 b10 x5 x6 x9 x12 x13 w) (hb : Below w.heap.size w w') {no : Option Addr} {nc : Nat} (hs : Sl 0 3 w' (.slice no nl.length nc) (ints nl)) : MeI W ab be nl true true b6 b7 b8 b9 b10 x5 x6 x9 (.slice no nl.length nc) x13 w' := by
  have h := h.move hb
  exact ⟨h.bel, fun _ => rfl, fun _ => ⟨rfl, rfl⟩, h.d9, h.d10, h.v9, fun _ => ⟨⟨_, _, rfl⟩, fun _ => hs⟩, h.v13, h.v5, h.v6, h.ne⟩

theorem MeI.op6 {W w w' : World} {ab be : Bool} {nl : List Int} {b7 b8 b9 b10 : Bool} {x5 x6 x9 x12 x13 : Value} (h : MeI W ab be nl true true false b7 b8 b9 b10 x5 x6 x9 x12 x13 w) (hb : Below w.heap.size w w') : MeI W ab be nl true true true b7 b8 b9 b10 x5 x6 x9 x12 (.bool be) w' := by
  have h := h.move hb
  exact ⟨h.bel, h.d5, fun _ => ⟨rfl, rfl⟩, fun q => ⟨(h.d9 q).1, rfl⟩, fun q => ⟨(h.d10 q).1, rfl⟩, h.v9, fun q => ⟨(h.v12 q).1, fun r => (by cases r)⟩, fun _ => rfl, h.v5, h.v6, h.ne⟩

theorem boxB_new (w : World) (b : Bool) : BoxB (w.alloc (.cells #[.bool b] 4)) w.heap.size b := heap_alloc_new w _

theorem MeI.op7 {W w : World} {ab be : Bool} {nl : List Int} {b2 b5 b6 b8 b9 b10 : Bool} {x5 x6 x9 x12 x13 : Value} (h : MeI W ab be nl b2 b5 b6 false b8 b9 b10 x5 x6 x9 x12 x13 w) : MeI W ab be nl b2 b5 b6 true b8 b9 b10 (.pointer (some ⟨w.heap.size, 0, none⟩)) x6 x9 x12 x13 (w.alloc (.cells #[.bool false] 4)) := by
  have h9 : b9 = false := no_falseS fun q => by have := (h.d9 q).1; cases this
  have hm := h.move (alloc_keep w (.cells #[.bool false] 4))
  refine ⟨hm.bel, h.d5, h.d6, fun q => ⟨rfl, (h.d9 q).2⟩, h.d10, h.v9, hm.v12, h.v13, fun _ => ⟨_, rfl, h.bel.size, by rw [h9]; exact boxB_new w false⟩, hm.v6, fun _ q => ?_⟩
  obtain ⟨a, e, _, r⟩ := h.v6 q
  have := r.lt
  rw [e]
  intro e2
  simp only [Value.pointer.injEq, Option.some.injEq, Addr.mk.injEq] at e2
  omega

theorem MeI.op8 {W w : World} {ab be : Bool} {nl : List Int} {b2 b5 b6 b7 b9 b10 : Bool} {x5 x6 x9 x12 x13 : Value} (h : MeI W ab be nl b2 b5 b6 b7 false b9 b10 x5 x6 x9 x12 x13 w) : MeI W ab be nl b2 b5 b6 b7 true b9 b10 x5 (.pointer (some ⟨w.heap.size, 0, none⟩)) x9 x12 x13 (w.alloc (.cells #[.bool false] 4)) := by
  have h9 : b10 = false := no_falseS fun q => by have := (h.d10 q).1; cases this
  have hm := h.move (alloc_keep w (.cells #[.bool false] 4))
  refine ⟨hm.bel, h.d5, h.d6, h.d9, fun q => ⟨rfl, (h.d10 q).2⟩, h.v9, hm.v12, h.v13, hm.v5, fun _ => ⟨_, rfl, h.bel.size, by rw [h9]; exact boxB_new w false⟩, fun q _ => ?_⟩
  obtain ⟨a, e, _, r⟩ := h.v5 q
  have := r.lt
  rw [e]
  intro e2
  simp only [Value.pointer.injEq, Option.some.injEq, Addr.mk.injEq] at e2
  omega

theorem MeI.op9 {W w : World} {ab be : Bool} {nl : List Int} {b10 : Bool} {x5 x6 x9 x12 x13 : Value} (h : MeI W ab be nl true true true true true false b10 x5 x6 x9 x12 x13 w) : ∃ q, x5 = .pointer (some ⟨q, 0, none⟩) ∧ x9 = .bool ab ∧ BoxB w q false ∧ MeI W ab be nl true true true true true true b10 x5 x6 x9 x12 x13 (w.setCell ⟨q, 0, none⟩ (.bool ab)) := by
  obtain ⟨q, e, l, r⟩ := h.v5 rfl
  obtain ⟨q', e', l', r'⟩ := h.v6 rfl
  have hne : q' ≠ q := fun x => h.ne rfl rfl (by rw [e, e', x])
  refine ⟨q, e, h.v9 rfl, r, below_setC h.bel l, h.d5, h.d6, fun _ => ⟨rfl, rfl⟩, h.d10, h.v9, fun _ => ⟨(h.v12 rfl).1, fun x => (by cases x)⟩, h.v13, fun _ => ⟨q, e, l, r.set ab⟩, fun _ => ⟨q', e', l', r'.set' hne _⟩, h.ne⟩

theorem MeI.op10 {W w : World} {ab be : Bool} {nl : List Int} {x5 x6 x9 x12 x13 : Value} (h : MeI W ab be nl true true true true true true false x5 x6 x9 x12 x13 w) : ∃ q, x6 = .pointer (some ⟨q, 0, none⟩) ∧ x13 = .bool be ∧ BoxB w q false ∧ MeI W ab be nl true true true true true true true x5 x6 x9 x12 x13 (w.setCell ⟨q, 0, none⟩ (.bool be)) := by
  obtain ⟨q, e, l, r⟩ := h.v6 rfl
  obtain ⟨q', e', l', r'⟩ := h.v5 rfl
  have hne : q' ≠ q := fun x => h.ne rfl rfl (by rw [e, e', x])
  refine ⟨q, e, h.v13 rfl, r, below_setC h.bel l, h.d5, h.d6, h.d9, fun _ => ⟨rfl, rfl⟩, h.v9, fun _ => ⟨(h.v12 rfl).1, fun x => (by cases x)⟩, h.v13, fun _ => ⟨q', e', l', r'.set' hne _⟩, fun _ => ⟨q, e, l, r.set be⟩, h.ne⟩

set_option maxRecDepth 100000 in
set_option maxHeartbeats 3200000 in
theorem meeting_any (d : Nat) (rows : List (List Int)) (p : List Int) (v pv : Value) (w : World) (hv : Mat 0 22 3 w v rows) (hp : Sl 0 3 w pv (ints p)) (hc : CutOk d rows) (hpl : p.length = d + 1) (hpb : ∀ z ∈ p, z.natAbs ≤ 20) (hf : ∃ x y, Fea d rows x y) :
    Calls Try.prog 32 #[.agg #[.int .i64 d, v], pv] w fun e w' => ∃ q5 q6, e = .returned (.func (.func 50) #[] #[.pointer (some ⟨q5, 0, none⟩), .pointer (some ⟨q6, 0, none⟩)]) ∧ w.heap.size ≤ q5 ∧ w.heap.size ≤ q6 ∧ BoxB w' q5 (gaC d rows p) ∧ BoxB w' q6 (gaC d rows (ngL p)) ∧ Below w.heap.size w w' := by
  obtain ⟨ro, rc, hvv, hlc, hcm⟩ := mat_open hv
  obtain ⟨po, pc, hpp, hlp, hpm⟩ := sl_open hp
  rw [hpl] at hpp
  subst hvv hpp
  obtain ⟨W, hW, hbW, hsW, hcW⟩ := cut_box w d (.slice ro rows.length rc)
  have HWW : Hid (W = w.alloc (.cells #[.int .i64 d, .slice ro rows.length rc] 69)) := hW
  have HBW : Hid (∀ X, Below W.heap.size W X → Below w.heap.size w X) := fun X hX => hbW.trans (hX.mono hbW.size)
  have HSW : Hid (W.heap.size = w.heap.size + 1) := hsW
  have HCC : Hid (∀ X, Below W.heap.size W X → X.cell? ⟨w.heap.size, 0, none⟩ = some (.int .i64 d) ∧ X.cell? ⟨w.heap.size, 1, none⟩ = some (.slice ro rows.length rc)) := hcW
  have HGA : Hid (∀ X, Below W.heap.size W X → Calls Try.prog 48 #[.agg #[.int .i64 d, .slice ro rows.length rc], .slice po (d + 1) pc] X fun e w' => e = .returned (.bool (gaC d rows p)) ∧ Below X.heap.size X w') := fun X hX =>
    above_any d rows p _ _ X (hv.below (HBW.out X hX) (Nat.le_refl _)) (hp.below (HBW.out X hX) (Nat.le_refl _)) hc hpl hpb hf
  have hnl : (ngL p).length = d + 1 := by simp [ngL, hpl]
  have hnb : ∀ z ∈ ngL p, z.natAbs ≤ 20 := fun z hz => by
    simp only [ngL, List.mem_map] at hz
    obtain ⟨y, hy, rfl⟩ := hz
    have := hpb y hy
    omega
  have HGB : Hid (∀ X u, Below W.heap.size W X → Sl 0 3 X u (ints (ngL p)) → Calls Try.prog 48 #[.agg #[.int .i64 d, .slice ro rows.length rc], u] X fun e w' => e = .returned (.bool (gaC d rows (ngL p))) ∧ Below X.heap.size X w') := fun X u hX hu =>
    above_any d rows (ngL p) _ _ X (hv.below (HBW.out X hX) (Nat.le_refl _)) hu hc hnl hnb hf
  have HNG : Hid (∀ X, Below W.heap.size W X → Calls Try.prog 49 #[.slice po (d + 1) pc] X fun e w' => ∃ no nc, e = .returned (.slice no (ngL p).length nc) ∧ Sl 0 3 w' (.slice no (ngL p).length nc) (ints (ngL p)) ∧ Below X.heap.size X w') := fun X hX => by
    refine (negated_own 0 p _ X (hp.below (HBW.out X hX) (Nat.le_refl _)) (by have := hc.d3; omega) (fun z hz => by have := hpb z hz; omega)).mono ?_
    rintro e w' ⟨u, rfl, ho, hb⟩
    have hs : Sl 0 3 w' u (ints (ngL p)) := Sl.own ho
    obtain ⟨no, nc, rfl, _, _⟩ := sl_open hs
    exact ⟨no, nc, rfl, hs, hb⟩
  clear hv hp hc hpl hpb hf hW hbW hsW hcW hnl hnb hlp hpm
  generalize gaC d rows p = ab at *
  generalize gaC d rows (ngL p) = be at *
  generalize ngL p = nl at *
  go_enter Try.func32, Try.ntmps32
  go_upto_region 1 with fail
  rw [← HWW.out]
  refine wp_region_held_drew (S := fun X => X.cell? ⟨w.heap.size, 0, none⟩ = some (.int .i64 d) ∧ X.cell? ⟨w.heap.size, 1, none⟩ = some (.slice ro rows.length rc)) (by kernel_rfl) (HCC.out _ (Below.refl _ _).drew) (fun hHeld => ?_)
  refine wpAnyH_tk (i := 0) (d := 7) (v := (.agg #[.int .i64 d, .slice ro rows.length rc])) rfl rfl (by kernel_rfl) (by kernel_rfl) (by kernel_rfl) (fun _ _ _ h => h) (.inl ⟨by rfl, by (intro wq hSw; (try dsimp only at hSw); go_simp; (try (first | rfl | omega)))⟩) hHeld ?_
  simp only [Act.put, List.setIfInBounds_toArray, List.set_cons_zero, List.set_cons_succ]
  refine wpAnyH_tk (i := 1) (d := 8) (v := (.slice po (d + 1) pc)) rfl rfl (by kernel_rfl) (by kernel_rfl) (by kernel_rfl) (fun _ _ _ h => h) (.inl ⟨by rfl, by (intro wq hSw; (try dsimp only at hSw); go_simp; (try (first | rfl | omega)))⟩) hHeld ?_
  simp only [Act.put, List.setIfInBounds_toArray, List.set_cons_zero, List.set_cons_succ]
  refine wpAnyH_tk (i := 3) (d := 10) (v := (.agg #[.int .i64 d, .slice ro rows.length rc])) rfl rfl (by kernel_rfl) (by kernel_rfl) (by kernel_rfl) (fun _ _ _ h => h) (.inl ⟨by rfl, by (intro wq hSw; (try dsimp only at hSw); go_simp; (try (first | rfl | omega)))⟩) hHeld ?_
  simp only [Act.put, List.setIfInBounds_toArray, List.set_cons_zero, List.set_cons_succ]
  refine wpAnyH_tk (i := 4) (d := 11) (v := (.slice po (d + 1) pc)) rfl rfl (by kernel_rfl) (by kernel_rfl) (by kernel_rfl) (fun _ _ _ h => h) (.inl ⟨by rfl, by (intro wq hSw; (try dsimp only at hSw); go_simp; (try (first | rfl | omega)))⟩) hHeld ?_
  simp only [Act.put, List.setIfInBounds_toArray, List.set_cons_zero, List.set_cons_succ]
  refine wpAnyH_invS (fun L a w' => ∃ b2 b5 b6 b7 b8 b9 b10 x5 x6 x9 x12 x13, L = #[true, true, b2, true, true, b5, b6, b7, b8, b9, b10] ∧ a = { tmps := #[.agg #[.int .i64 d, .slice ro rows.length rc], .slice po (d + 1) pc, .pointer (some ⟨w.heap.size, 0, none⟩), undef, .nilFunc, x5, x6, .agg #[.int .i64 d, .slice ro rows.length rc], .slice po (d + 1) pc, x9, .agg #[.int .i64 d, .slice ro rows.length rc], .slice po (d + 1) pc, x12, x13, undef], defers := [] } ∧ MeI W ab be nl b2 b5 b6 b7 b8 b9 b10 x5 x6 x9 x12 x13 w') ?hS ?step ?fin _ _ _ _ ?init ?cnt
  case cnt => decide
  case hS =>
    rintro L a w' ⟨b2, b5, b6, b7, b8, b9, b10, x5, x6, x9, x12, x13, rfl, rfl, hI⟩
    exact HCC.out w' hI.bel
  case init =>
    exact ⟨false, false, false, false, false, false, false, _, _, _, _, _, rfl, rfl, (Below.refl _ _).drew, fun h => (by cases h), fun h => (by cases h), fun h => (by cases h), fun h => (by cases h), fun h => (by cases h), fun h => (by cases h), fun h => (by cases h), fun h => (by cases h), fun h => (by cases h), fun h => (by cases h)⟩
  case step =>
    rintro L a w' i ⟨b2, b5, b6, b7, b8, b9, b10, x5, x6, x9, x12, x13, rfl, rfl, hI⟩ hi
    have hi2 := List.mem_filter.1 hi
    have hi1 := List.mem_range.1 hi2.1
    have hrd := hi2.2
    clear hi hi2
    have hcase : i = 0 ∨ i = 1 ∨ i = 2 ∨ i = 3 ∨ i = 4 ∨ i = 5 ∨ i = 6 ∨ i = 7 ∨ i = 8 ∨ i = 9 ∨ i = 10 := by
      simp only [List.size_toArray, List.length_cons, List.length_nil] at hi1
      omega
    clear hi1
    rcases hcase with rfl | rfl | rfl | rfl | rfl | rfl | rfl | rfl | rfl | rfl | rfl
    · simp [Region.binds] at hrd
    · simp [Region.binds] at hrd
    · simp [Region.binds] at hrd
      subst hrd
      refine wpOp_hid rfl rfl (fun K' hK => ?_)
      go_simp
      refine (HGA.out w' hI.bel).mono ?_
      rintro e w2 ⟨rfl, hb⟩
      dsimp only
      exact hK.out _ _ ⟨true, b5, b6, b7, b8, b9, b10, _, _, _, _, _, rfl, rfl, (hI.move hb).op2⟩
    · simp [Region.binds] at hrd
    · simp [Region.binds] at hrd
    · simp [Region.binds] at hrd
      obtain ⟨rfl, rfl⟩ := hrd
      refine wpOp_hid rfl rfl (fun K' hK => ?_)
      go_simp
      refine (HNG.out w' hI.bel).mono ?_
      rintro e w2 ⟨no, nc, rfl, hs, hb⟩
      dsimp only
      exact hK.out _ _ ⟨true, true, b6, b7, b8, b9, b10, _, _, _, _, _, rfl, rfl, hI.op5 hb hs⟩
    · simp [Region.binds] at hrd
      obtain ⟨rfl, rfl⟩ := hrd
      have h2 := hI.d5 rfl
      subst h2
      have h12 := (hI.v12 rfl).2 rfl
      refine wpOp_hid rfl rfl (fun K' hK => ?_)
      go_simp
      refine (HGB.out w' _ hI.bel h12).mono ?_
      rintro e w2 ⟨rfl, hb⟩
      dsimp only
      exact hK.out _ _ ⟨true, true, true, b7, b8, b9, b10, _, _, _, _, _, rfl, rfl, hI.op6 hb⟩
    · simp [Region.binds] at hrd
      subst hrd
      refine wpOp_hid rfl rfl (fun K' hK => ?_)
      go_simp
      exact hK.out _ _ ⟨b2, b5, b6, true, b8, b9, b10, _, _, _, _, _, rfl, rfl, hI.op7⟩
    · simp [Region.binds] at hrd
      subst hrd
      refine wpOp_hid rfl rfl (fun K' hK => ?_)
      go_simp
      exact hK.out _ _ ⟨b2, b5, b6, b7, true, b9, b10, _, _, _, _, _, rfl, rfl, hI.op8⟩
    · simp [Region.binds] at hrd
      obtain ⟨rfl, rfl, rfl, rfl, _, _, rfl⟩ := hrd
      have h5 := (hI.d6 rfl).1
      subst h5
      obtain ⟨q, rfl, rfl, hq, hn⟩ := hI.op9
      have c1 := hq.cell
      have c2 := hq.frozen
      refine wpOp_hid rfl rfl (fun K' hK => ?_)
      go_simp
      exact hK.out _ _ ⟨true, true, true, true, true, true, b10, _, _, _, _, _, rfl, rfl, hn⟩
    · simp [Region.binds] at hrd
      obtain ⟨rfl, rfl, rfl, rfl, rfl, rfl, _, rfl, _⟩ := hrd
      obtain ⟨q, rfl, rfl, hq, hn⟩ := hI.op10
      have c1 := hq.cell
      have c2 := hq.frozen
      refine wpOp_hid rfl rfl (fun K' hK => ?_)
      go_simp
      exact hK.out _ _ ⟨true, true, true, true, true, true, true, _, _, _, _, _, rfl, rfl, hn⟩
  case fin =>
    rintro L a w' ⟨b2, b5, b6, b7, b8, b9, b10, x5, x6, x9, x12, x13, rfl, rfl, hI⟩ hr
    have hm : ∀ i, i ∉ Region.ready _ _ _ := fun i hi => by rw [hr] at hi; cases hi
    clear hr
    have h2 : b2 = true := by
      cases b2 with
      | true => rfl
      | false => exact absurd (List.mem_filter.2 ⟨List.mem_range.2 (by decide), by simp [Region.binds]⟩) (hm 2)
    subst h2
    have h5 : b5 = true := by
      cases b5 with
      | true => rfl
      | false => exact absurd (List.mem_filter.2 ⟨List.mem_range.2 (by decide), by simp [Region.binds]⟩) (hm 5)
    subst h5
    have h6 : b6 = true := by
      cases b6 with
      | true => rfl
      | false => exact absurd (List.mem_filter.2 ⟨List.mem_range.2 (by decide), by simp [Region.binds]⟩) (hm 6)
    subst h6
    have h7 : b7 = true := by
      cases b7 with
      | true => rfl
      | false => exact absurd (List.mem_filter.2 ⟨List.mem_range.2 (by decide), by simp [Region.binds]⟩) (hm 7)
    subst h7
    have h8 : b8 = true := by
      cases b8 with
      | true => rfl
      | false => exact absurd (List.mem_filter.2 ⟨List.mem_range.2 (by decide), by simp [Region.binds]⟩) (hm 8)
    subst h8
    have h9 : b9 = true := by
      cases b9 with
      | true => rfl
      | false => exact absurd (List.mem_filter.2 ⟨List.mem_range.2 (by decide), by simp [Region.binds]⟩) (hm 9)
    subst h9
    have h10 : b10 = true := by
      cases b10 with
      | true => rfl
      | false => exact absurd (List.mem_filter.2 ⟨List.mem_range.2 (by decide), by simp [Region.binds]⟩) (hm 10)
    subst h10
    obtain ⟨q5, rfl, l5, r5⟩ := hI.v5 rfl
    obtain ⟨q6, rfl, l6, r6⟩ := hI.v6 rfl
    have HR5 : Hid (BoxB w' q5 ab) := r5
    have HR6 : Hid (BoxB w' q6 be) := r6
    have HB : Hid (Below w.heap.size w w') := HBW.out w' hI.bel
    have hs := HSW.out
    have HL : Hid (w.heap.size ≤ q5 ∧ w.heap.size ≤ q6) := ⟨by omega, by omega⟩
    clear hI hm r5 r6 l5 l6 hs
    go_wp2
    go_ret
    exact ⟨q5, q6, rfl, HL.out.1, HL.out.2, HR5.out, HR6.out, HB.out⟩

set_option maxRecDepth 100000 in
theorem meet1_any (c : UInt8) (hc : c = 43 ∨ c = 45 ∨ c = 48) (q5 q6 : Nat) (ab be : Bool) (w : World) (h5 : BoxB w q5 ab) (h6 : BoxB w q6 be) :
    Calls Try.prog 50 #[.int .i32 (c.toNat : Int), .pointer (some ⟨q5, 0, none⟩), .pointer (some ⟨q6, 0, none⟩)] w fun e w' => e = .returned (.bool (mtC ab be c)) ∧ w' = w := by
  have c5 := h5.cell
  have c6 := h6.cell
  clear h5 h6
  rcases hc with rfl | rfl | rfl
  · show Calls Try.prog _ #[.int .i32 43, _, _] w _
    go_enter Try.func50, Try.ntmps50
    go_wp2
    go_ret
    exact ⟨rfl, rfl⟩
  · show Calls Try.prog _ #[.int .i32 45, _, _] w _
    go_enter Try.func50, Try.ntmps50
    go_wp2
    go_ret
    exact ⟨rfl, rfl⟩
  · show Calls Try.prog _ #[.int .i32 48, _, _] w _
    go_enter Try.func50, Try.ntmps50
    go_wp2
    go_ret
    exact ⟨rfl, rfl⟩

end Go.Proofs.Ytmljnfgfjcjmmaa

/- An append, as one operation of a drawn region, to a row of the call's own. -/
namespace Go.Proofs.Ytmljnfgfjcjmmaa
open Go Go.RowKit

theorem op_append_ownA {P : Program} {o : Oper} {a : Act} {w : World} {K : Act → World → Prop} {Q : Exit → Act → World → Prop}
    (s x : Operand) (t : TypeId) (hop : o.op = Op.call { callee := Callee.builtin Builtin.append, args := #[s, x], argTypes := #[t, t] })
    (base : Nat) (e : TypeId) (i : TypeInfo) (z : Value) (size bytes : Nat) (h1 : P.underlying t = some (.slice e)) (h2 : P.info? e = some i) (h3 : i.zero = some z) (h4 : i.size = size) (h5 : i.bytes = bytes) (h6 : z.cells.size = size) (h7 : 0 < size)
    (v : Value) (n : Nat) (xs : List Value) (hs : a.eval s = v) (hown : w.ownsRow base e size v n xs)
    (ad : Addr) (m c : Nat) (news : List Value) (hx : a.eval x = .slice (some ad) m c) (hn : news.length = m * size) (hc : ∀ j u, news[j]? = some u → w.cell? (ad.add j) = some u) (h1c : ∀ u ∈ news, u.oneCell' = true)
    (b1 : n + m ≤ maxLen) (b2 : (n + m) * bytes ≤ 140737488355328) (hb : base ≤ w.heap.size)
    (hK : ∀ v' w', w'.ownsRow base e size v' (n + m) (xs ++ news) → w.grownBy w' v.ownBlock → (v'.ownBlock = v.ownBlock ∨ v'.ownBlock = some w.heap.size) → K (a.put o.dst v') w') : Oper.wp P o a w K Q := by
  obtain ⟨v', w', hrun, r1, r2, _, r3⟩ := run_append_own_at (P := P) w base t o.type e i z size bytes h1 h2 h3 h4 h5 h6 h7 v n xs hown ad m c news hn hc h1c b1 b2 hb
  unfold Oper.wp
  simp [execOp, hop, resolve, invoke, builtin, hs, hx, hrun, Result.andThen]
  exact hK v' w' r1 r2 r3

end Go.Proofs.Ytmljnfgfjcjmmaa
