/- slices.DeleteFunc over ints with made's closure. -/
import Derived.Test.YtomhhonigffilaaDoorGp1
import Derived.Test.YtomhhonigffilaaDoorTk1
import Derived.Test.YtomhhonigffilaaDoorCycAll
import Derived.Lib.SliceRun
import Derived.Lib.LazyBuf
import Derived.Laws.EntriesVeiled
namespace Go.Proofs.YtomhhonigffilaaDoor
open Go.RowKit
attribute [local go_sem ↓] Go.wp_at_zero Go.wp_at_succ

structure TouI (g : Nat) (w w' : World) : Prop where
  os : w'.os = w.os
  tape : w'.tape = w.tape
  output : w'.output = w.output
  size : w'.heap.size = w.heap.size
  block : ∀ b, b ≠ g → w'.heap[b]? = w.heap[b]?

theorem TouI.refl (g : Nat) (w : World) : TouI g w w := ⟨rfl, rfl, rfl, rfl, fun _ _ => rfl⟩
theorem TouI.drewN {g : Nat} {w w' : World} (h : TouI g w w') (n : Nat) : TouI g w (w'.drewN n) := ⟨h.os, h.tape, h.output, h.size, h.block⟩
theorem TouI.drew {g : Nat} {w w' : World} (h : TouI g w w') : TouI g w w'.drew := ⟨h.os, h.tape, h.output, h.size, h.block⟩
theorem TouI.setCell {g : Nat} {w w' : World} (h : TouI g w w') (j : Nat) (u : Value) : TouI g w (w'.setCell ⟨g, j, none⟩ u) :=
  ⟨h.os, h.tape, h.output, by simp [World.setCell, h.size], fun b hb => (Below.heap_setCell _ _ _ _ hb).trans (h.block b hb)⟩
theorem TouI.cell {g : Nat} {w w' : World} (h : TouI g w w') {a : Addr} (ha : a.block ≠ g) : w'.cell? a = w.cell? a := World.cell?_of_block (w := w) (h.block _ ha)
theorem TouI.below {g M : Nat} {w w2 wr : World} (h : TouI g w2 wr) (hb : Below M w w2) (hg : M ≤ g) : Below M w wr :=
  ⟨h.os.trans hb.os, h.tape.trans hb.tape, h.output.trans hb.output, by rw [h.size]; exact hb.size, fun b hlt => (h.block b (by omega)).trans (hb.block b hlt)⟩
theorem TouI.setCells {g : Nat} {w : World} : ∀ (vs : List Value) (o : Nat) {w' : World}, TouI g w w' → TouI g w (w'.setCells g o vs)
  | [], _, _, h => h
  | v :: r, o, _, h => TouI.setCells r (o + 1) (h.setCell o v)


/-- Has a set fewer than q things? -/
def lsQ (q : Nat) (x : Int) : Bool := decide ((mem8 x.toNat).length < q)

set_option maxRecDepth 100000 in
set_option maxHeartbeats 800000 in
theorem made1_any (q b1 x : Nat) (w : World) (hx : x < 256) (h1 : w.cell? ⟨b1, 0, none⟩ = some (.int .i64 q)) :
    Calls Tryd.prog 32 #[.int .i64 x, .pointer (some ⟨b1, 0, none⟩)] w fun e w' => e = .returned (.bool (lsQ q x)) ∧ Below w.heap.size w w' := by
  have qk : IntKind.u64.wrap (x : Int) = (x : Int) := by rw [IntKind.wrap_u64]; omega
  have HLN : Hid (∀ W', Calls Tryd.prog 29 #[.int .u64 x] W' fun e w' => e = .returned (.int .i64 (mem8 x).length) ∧ w' = W') := fun W' => len8_any x hx W'
  have HLQ : Hid (lsQ q (x : Int) = decide (((mem8 x).length : Int) < (q : Int))) := by
    unfold lsQ
    rw [show (x : Int).toNat = x from rfl]
    show decide _ = decide _
    congr 1
    exact propext ⟨fun h => by omega, fun h => by omega⟩
  generalize (mem8 x).length = n at *
  go_enter Tryd.func32, Tryd.ntmps32
  go_wp2
  refine wp_region_held_drew (S := fun w' => w'.cell? ⟨b1, 0, none⟩ = some (.int .i64 q)) (by kernel_rfl) h1 (fun hHeld => ?_)
  refine wpAnyH_tk (i := 0) (d := 4) (v := (.int .i64 x)) rfl rfl (by kernel_rfl) (by kernel_rfl) (by kernel_rfl) (fun _ _ _ h => h) (.inl ⟨by rfl, by (intro wq hSw; (try dsimp only at hSw); go_simp; (try (first | rfl | omega)))⟩) hHeld ?_
  simp only [Act.put, List.setIfInBounds_toArray, List.set_cons_zero, List.set_cons_succ]
  refine wpAnyH_tk (i := 1) (d := 5) (v := (.int .u64 x)) rfl rfl (by kernel_rfl) (by kernel_rfl) (by kernel_rfl) (fun _ _ _ h => h) (.inl ⟨by rfl, by (intro wq hSw; (try dsimp only at hSw); go_simp; (try (first | rfl | omega)))⟩) hHeld ?_
  simp only [Act.put, List.setIfInBounds_toArray, List.set_cons_zero, List.set_cons_succ]
  refine wpAnyH_tk (i := 3) (d := 7) (v := (.int .i64 q)) rfl rfl (by kernel_rfl) (by kernel_rfl) (by kernel_rfl) (fun _ _ _ h => h) (.inl ⟨by rfl, by (intro wq hSw; (try dsimp only at hSw); go_simp; (try (first | rfl | omega)))⟩) hHeld ?_
  simp only [Act.put, List.setIfInBounds_toArray, List.set_cons_zero, List.set_cons_succ]
  refine wpAnyH_ready (rs := [2]) (by kernel_rfl) (by simp) ?_
  refine ready_tk (i := 2) rfl (by rfl) (fun K hK => ?_) AllReadyH.nil
  go_simp
  refine (HLN.out _).mono ?_
  rintro e w3 ⟨rfl, hw3⟩
  have HB3 : Hid (Below w.heap.size w w3) := by rw [hw3]; exact Below.drew (Below.refl _ _)
  have h3 : w3.cell? ⟨b1, 0, none⟩ = some (.int .i64 q) := by rw [hw3]; exact h1
  clear hw3
  refine hK.out _ _ h3 (fun hHeld => ?_)
  clear hK K
  refine wpAnyH_tk (i := 4) (d := 8) (v := (.bool (decide ((n : Int) < (q : Int))))) rfl rfl (by kernel_rfl) (by kernel_rfl) (by kernel_rfl) (fun _ _ _ h => h) (.inl ⟨by rfl, by (intro wq hSw; (try dsimp only at hSw); go_simp; (try (first | rfl | omega)))⟩) hHeld ?_
  simp only [Act.put, List.setIfInBounds_toArray, List.set_cons_zero, List.set_cons_succ]
  refine wpAnyH_tk (i := 5) (d := 3) (v := (.bool (decide ((n : Int) < (q : Int))))) rfl rfl (by kernel_rfl) (by kernel_rfl) (by kernel_rfl) (fun _ _ _ h => h) (.inl ⟨by rfl, by (intro wq hSw; (try dsimp only at hSw); go_simp; (try (first | rfl | omega)))⟩) hHeld ?_
  simp only [Act.put, List.setIfInBounds_toArray, List.set_cons_zero, List.set_cons_succ]
  refine wpAnyH_done (by kernel_rfl) ?_ _
  clear hHeld
  go_wp2
  go_ret
  exact ⟨by rw [HLQ.out]; rfl, HB3.out⟩

set_option maxRecDepth 100000 in
set_option maxHeartbeats 400000 in
theorem idxM1_any (B : Nat) (p : Int → Bool) (zs : List Int) (v : Value) (b1 : Nat) (w : World) (hv : Sl B 3 w v (ints zs))
    (hc : ∀ x ∈ zs, ∀ W', Below w.heap.size w W' → Calls Tryd.prog 32 #[.int .i64 x, .pointer (some ⟨b1, 0, none⟩)] W' fun e w' => e = .returned (.bool (p x)) ∧ Below W'.heap.size W' w') :
    Calls Tryd.prog 26 #[v, .func (.func 32) #[] #[.pointer (some ⟨b1, 0, none⟩)]] w fun e w' => e = .returned (.int .i64 (findI p zs)) ∧ Below w.heap.size w w' := by
  obtain ⟨ao, cap, hvv, hlc, hcm⟩ := sl_open hv
  subst hvv
  have HV : Hid (Sl B 3 w (.slice ao zs.length cap) (ints zs)) := hv
  have HIL : Hid (∀ x ∈ zs, ∀ W', Below w.heap.size w W' → Calls Tryd.prog 32 #[.int .i64 x, .pointer (some ⟨b1, 0, none⟩)] W' fun e w' => e = .returned (.bool (p x)) ∧ Below W'.heap.size W' w') := hc
  clear hv hc
  go_enter Tryd.func26, Tryd.ntmps26
  go_wp2
  go_loopw [5, 8] (fun _ i wr => ∃ k : Nat, k ≤ zs.length ∧ i = .int .i64 k ∧ (zs.take k).any p = false ∧ Below w.heap.size w wr) (fun _ i _ => zs.length - (intOf i).toNat)
  case atStart => exact ⟨0, Nat.zero_le _, rfl, by simp, Below.refl _ _⟩
  case round =>
    obtain ⟨k, hk, rfl, hno, hbr⟩ := hrel
    have HN : Hid ((zs.take k).any p = false) := hno
    have HBR : Hid (Below w.heap.size w wr) := hbr
    clear hno hbr
    by_cases hlt : k < zs.length
    · obtain ⟨b', o, cp, hs, hc1, hcc⟩ := sl_cell (HV.out.below HBR.out (Nat.le_refl _)) hlt
      simp only [Value.slice.injEq] at hs
      obtain ⟨rfl, _, rfl⟩ := hs
      have HS1 : Hid ((zs.take (k + 1)).any p = p zs[k]) := any_snoc (p := p) hlt HN.out
      have HH : Hid (p zs[k] = true → findI p zs = k) := fun h => findI_hit (p := p) hlt HN.out h
      rw [show zs.getD k 0 = zs[k] by simp [hlt]] at hcc
      have HIX : Hid (Calls Tryd.prog 32 #[.int .i64 zs[k], .pointer (some ⟨b1, 0, none⟩)] wr fun e w' => e = .returned (.bool (p zs[k])) ∧ Below wr.heap.size wr w') := HIL.out _ (List.getElem_mem _) wr HBR.out
      generalize zs[k] = x at *
      generalize p x = fb at *
      cases fb
      · go_wp2_with fail
        refine HIX.out.mono ?_
        rintro e w2 ⟨rfl, hb2⟩
        have HB2 : Hid (Below w.heap.size w w2) := HBR.out.trans (hb2.mono HBR.out.size)
        clear hb2
        go_wp2
        go_roundw
        case rel => exact ⟨k + 1, by omega, by go_num, HS1.out, HB2.out⟩
        case measure => simp [intOf]; omega
      · have HH2 : Hid (findI p zs = k) := HH.out rfl
        clear HH
        go_wp2_with fail
        refine HIX.out.mono ?_
        rintro e w2 ⟨rfl, hb2⟩
        have HB2 : Hid (Below w.heap.size w w2) := HBR.out.trans (hb2.mono HBR.out.size)
        clear hb2
        go_wp2
        go_ret
        exact ⟨ret_int HH2.out.symm, HB2.out⟩
    · have e : zs.take k = zs := List.take_of_length_le (by omega)
      rw [e] at HN
      have HF : Hid (findI p zs = -1) := findI_none HN.out
      go_wp2
      go_ret
      exact ⟨ret_int HF.out.symm, HBR.out⟩


/-- A row of one's own, as cells. -/
theorem own_row {B n : Nat} {w : World} {v : Value} {m : List Int} (h : w.ownsRow B 3 1 v n (ints m)) (hn : n = m.length) (hm : 0 < m.length) : ∃ g cap F, v = .slice (some ⟨g, 0, none⟩) m.length cap ∧ B ≤ g ∧ m.length ≤ cap ∧ cap ≤ 9223372036854775807 ∧ w.rowIs g 3 cap F ∧ ∀ i, i < m.length → F i = .int .i64 (m.getD i 0) := by
  subst hn
  rcases h.2 with ⟨_, h0⟩ | ⟨g, cap, cur, hv, hb, hh, hn, hc, hs, ht⟩
  · omega
  · refine ⟨g, cap, fun i => cur.toList.getD i (.int .i64 0), hv, hb, hn, by unfold maxLen at hc; exact hc, ⟨cur, hh, by omega, fun i hi => ?_⟩, fun i hi => ?_⟩
    · show cur[i]? = some (cur.toList.getD i (.int .i64 0))
      rw [← Array.getElem?_toList, List.getD_eq_getElem?_getD, List.getElem?_eq_getElem (by simp; omega)]; rfl
    · have e : cur.toList.getD i (.int .i64 0) = (ints m).getD i (.int .i64 0) := by
        rw [← ht]
        simp only [List.getD_eq_getElem?_getD]
        rw [List.getElem?_take_of_lt (by omega)]
      show cur.toList.getD i (.int .i64 0) = _
      rw [e]
      simp [ints, hi]

theorem row_own {B : Nat} {w : World} {g cap : Nat} {F : Nat → Value} {m : List Int} (h : w.rowIs g 3 cap F) (hB : B ≤ g) (h4 : m.length ≤ cap) (h5 : cap ≤ 9223372036854775807) (h6 : ∀ i, i < m.length → F i = .int .i64 (m.getD i 0)) : w.ownsRow B 3 1 (.slice (some ⟨g, 0, none⟩) m.length cap) m.length (ints m) := by
  obtain ⟨c, h1, h2, h3⟩ := h
  refine ⟨by simp [ints], Or.inr ⟨g, cap, c, rfl, hB, h1, h4, by unfold maxLen; exact h5, by omega, ?_⟩⟩
  apply List.ext_getElem?
  intro i
  by_cases hi : i < m.length
  · rw [List.getElem?_take_of_lt (by omega), Array.getElem?_toList, h3 i (by omega), h6 i hi]; simp [ints, hi]
  · rw [List.getElem?_eq_none (by simp; omega), List.getElem?_eq_none (by simp [ints]; omega)]

/-- What the walk of DeleteFunc holds. -/
structure Di (B : Nat) (w : World) (g cap b1 q : Nat) (m : List Int) (f : Int → Bool) (j c : Nat) (F : Nat → Value) (wr : World) : Prop where
  row : wr.rowIs g 3 cap F
  len : c = ((m.take j).filter fun r => !f r).length
  done : ∀ i, i < c → F i = .int .i64 (((m.take j).filter fun r => !f r).getD i 0)
  rest : ∀ i, j ≤ i → i < m.length → F i = .int .i64 (m.getD i 0)
  lt : c < j
  bel : Below B w wr
  hB : B ≤ g
  box : wr.cell? ⟨b1, 0, none⟩ = some (.int .i64 q)
  ne : b1 ≠ g

theorem Di.below {B : Nat} {w : World} {g cap b1 q : Nat} {m : List Int} {f : Int → Bool} {j c : Nat} {F : Nat → Value} {wr w2 : World} (h : Di B w g cap b1 q m f j c F wr) (hb : Below wr.heap.size wr w2) : Di B w g cap b1 q m f j c F w2 :=
  ⟨h.row.of_block (hb.block g h.row.lt), h.len, h.done, h.rest, h.lt, h.bel.trans (hb.mono (by have := h.hB; have := h.row.lt; omega)), h.hB, (hb.cell (lt_of_cell h.box)).trans h.box, h.ne⟩

theorem filtI_snoc {m : List Int} {f : Int → Bool} {j : Nat} (hj : j < m.length) : ((m.take (j + 1)).filter fun r => !f r) = ((m.take j).filter fun r => !f r) ++ (if f (m.getD j 0) = true then [] else [m.getD j 0]) := by
  have e : m.getD j 0 = m[j] := by simp [hj]
  rw [List.take_succ_eq_append_getElem hj, List.filter_append, e]
  cases hf : f m[j] <;> simp [hf]

theorem Di.skip {B : Nat} {w : World} {g cap b1 q : Nat} {m : List Int} {f : Int → Bool} {j c : Nat} {F : Nat → Value} {wr : World} (h : Di B w g cap b1 q m f j c F wr) (hj : j < m.length) (hf : f (m.getD j 0) = true) : Di B w g cap b1 q m f (j + 1) c F wr := by
  have e := filtI_snoc (f := f) hj
  rw [if_pos hf, List.append_nil] at e
  exact ⟨h.row, by rw [e]; exact h.len, by rw [e]; exact h.done, fun i h1 h2 => h.rest i (by omega) h2, by have := h.lt; omega, h.bel, h.hB, h.box, h.ne⟩

theorem Di.next {B : Nat} {w : World} {g cap b1 q : Nat} {m : List Int} {f : Int → Bool} {j c : Nat} {F : Nat → Value} {wr : World} (h : Di B w g cap b1 q m f j c F wr) (hj : j < m.length) (hf : f (m.getD j 0) = false) : Di B w g cap b1 q m f (j + 1) (c + 1) (fun i => if i = c then .int .i64 (m.getD j 0) else F i) (wr.setCell ⟨g, c, none⟩ (.int .i64 (m.getD j 0))) := by
  have e := filtI_snoc (f := f) hj
  rw [if_neg (by rw [hf]; decide)] at e
  have ht : TouI g wr (wr.setCell ⟨g, c, none⟩ (.int .i64 (m.getD j 0))) := (TouI.refl _ _).setCell c _
  have hl := h.len
  have hlt := h.lt
  refine ⟨h.row.set c _, by rw [e, List.length_append, ← hl]; rfl, fun i hi => ?_, fun i h1 h2 => ?_, by omega, ht.below h.bel h.hB, h.hB, (ht.cell (by show b1 ≠ g; exact h.ne)).trans h.box, h.ne⟩
  · rw [e]
    by_cases hic : i = c
    · subst hic
      have e2 : (((m.take j).filter fun r => !f r) ++ [m.getD j 0]).getD i 0 = m.getD j 0 := by rw [hl]; simp
      rw [e2, if_pos rfl]
    · have e2 : (((m.take j).filter fun r => !f r) ++ [m.getD j 0]).getD i 0 = ((m.take j).filter fun r => !f r).getD i 0 := by
        simp only [List.getD_eq_getElem?_getD]; rw [List.getElem?_append_left (by omega)]
      rw [e2, if_neg hic]
      exact h.done i (by omega)
  · rw [if_neg (by omega)]
    exact h.rest i (by omega) h2

theorem Di.fin {B : Nat} {w : World} {g cap b1 q : Nat} {m : List Int} {f : Int → Bool} {j c : Nat} {F : Nat → Value} {wr : World} (h : Di B w g cap b1 q m f j c F wr) (hj : j = m.length) (h1 : m.length ≤ cap) (h2 : cap ≤ 9223372036854775807) :
    (wr.setCells g c (List.replicate (m.length - c) (.int .i64 0))).ownsRow B 3 1 (.slice (some ⟨g, 0, none⟩) c cap) (m.filter fun r => !f r).length (ints (m.filter fun r => !f r)) ∧ Below B w (wr.setCells g c (List.replicate (m.length - c) (.int .i64 0))) := by
  subst hj
  have e : m.take m.length = m := List.take_length
  have hl := h.len
  have hd := h.done
  rw [e] at hl hd
  have ht : TouI g wr (wr.setCells g c (List.replicate (m.length - c) (.int .i64 0))) := TouI.setCells _ _ (TouI.refl _ _)
  have hlt := h.lt
  refine ⟨?_, ht.below h.bel h.hB⟩
  have hrow := rowIs_setCells (List.replicate (m.length - c) (Value.int .i64 0)) c wr F h.row
  have := row_own (B := B) (m := m.filter fun r => !f r) hrow h.hB (by omega) h2 (fun i hi => by
    rw [← hl] at hi
    rw [if_neg (by omega)]
    exact hd i hi)
  rw [← hl] at this ⊢
  exact this

set_option maxRecDepth 100000 in
set_option maxHeartbeats 1600000 in
theorem deleteI_any (B q b1 : Nat) (m : List Int) (v : Value) (w : World) (hv : w.ownsRow B 3 1 v m.length (ints m)) (hBw : B ≤ w.heap.size) (hml : m.length ≤ 1000000) (hm8 : ∀ x ∈ m, 0 ≤ x ∧ x < 256)
    (h1 : w.cell? ⟨b1, 0, none⟩ = some (.int .i64 q)) (hne : v.ownBlock ≠ some b1) :
    Calls Tryd.prog 33 #[v, .func (.func 32) #[] #[.pointer (some ⟨b1, 0, none⟩)]] w fun e w' => ∃ u, e = .returned u ∧ w'.ownsRow B 3 1 u (m.filter fun r => !lsQ q r).length (ints (m.filter fun r => !lsQ q r)) ∧ Below B w w' := by
  have HC : Hid (∀ x ∈ m, ∀ W : World, W.cell? ⟨b1, 0, none⟩ = some (.int .i64 q) → Calls Tryd.prog 32 #[.int .i64 x, .pointer (some ⟨b1, 0, none⟩)] W fun e w' => e = .returned (.bool (lsQ q x)) ∧ Below W.heap.size W w') := fun x hx W hW => by
    obtain ⟨k1, k2⟩ := hm8 x hx
    obtain ⟨n, rfl⟩ : ∃ n : Nat, x = (n : Int) := ⟨x.toNat, by omega⟩
    exact made1_any q b1 n W (by omega) hW
  have HI : Hid (Calls Tryd.prog 26 #[v, .func (.func 32) #[] #[.pointer (some ⟨b1, 0, none⟩)]] w fun e w' => e = .returned (.int .i64 (findI (lsQ q) m)) ∧ Below w.heap.size w w') :=
    idxM1_any 0 (lsQ q) m v b1 w (Sl.own hv) fun x hx W' h => HC.out x hx W' ((h.cell (lt_of_cell h1)).trans h1)
  obtain ⟨ao, cap, hvv⟩ := owns_form hv
  subst hvv
  have HV : Hid (w.ownsRow B 3 1 (.slice ao m.length cap) m.length (ints m)) := hv
  have HBW : Hid (B ≤ w.heap.size) := hBw
  have H1 : Hid (w.cell? ⟨b1, 0, none⟩ = some (.int .i64 q)) := h1
  have HNE : Hid ((Value.slice ao m.length cap).ownBlock ≠ some b1) := hne
  clear hv hBw h1 hne hm8
  obtain ⟨f, hf0⟩ : ∃ f, f = lsQ q := ⟨_, rfl⟩
  rw [← hf0] at HC HI ⊢
  clear hf0
  have HZ : Hid ((findI f m = -1 ∧ m.any f = false) ∨ ∃ k : Nat, findI f m = k ∧ k < m.length ∧ (m.take k).any f = false ∧ f (m.getD k 0) = true) := by
    show _ ∨ _
    cases ha : m.any f
    · exact Or.inl ⟨findI_none ha, rfl⟩
    · right
      have hlt := List.findIdx_lt_length_of_exists (List.any_eq_true.1 ha)
      refine ⟨m.findIdx f, by unfold findI; rw [if_pos ha], hlt, ?_, ?_⟩
      · rw [List.any_eq_false]
        intro x hx
        obtain ⟨i, hi, rfl⟩ := List.getElem_of_mem hx
        have hi2 : i < m.findIdx f := by rw [List.length_take] at hi; omega
        rw [List.getElem_take]
        simp [List.not_of_lt_findIdx hi2]
      · have := List.findIdx_getElem (w := hlt)
        rw [show m.getD (m.findIdx f) 0 = m[m.findIdx f] by simp [hlt]]
        exact this
  generalize findI f m = z at *
  go_enter Tryd.func33, Tryd.ntmps33
  go_wp2_with fail
  refine HI.out.mono ?_
  rintro e w1 ⟨rfl, hb⟩
  have HB1 : Hid (Below w.heap.size w w1) := hb
  clear hb HI
  have hz := HZ.out
  clear HZ
  rcases hz with ⟨rfl, hno⟩ | ⟨k, rfl, hk, hno, hyes⟩
  · have HFI : Hid ((m.filter fun r => !f r) = m) := by
      show _ = _
      rw [List.filter_eq_self]
      intro r hr
      have := List.any_eq_false.1 hno r hr
      simpa using this
    clear hno
    go_wp2
    go_ret
    exact ⟨_, rfl, by rw [HFI.out]; exact owns_below HV.out HB1.out (Nat.le_refl _), HB1.out.mono HBW.out⟩
  · obtain ⟨g, cap2, F, hvv, hBg, hc1, hc2, hrow, hin⟩ := own_row (owns_below HV.out HB1.out (Nat.le_refl _)) rfl (by omega)
    simp only [Value.slice.injEq] at hvv
    obtain ⟨rfl, hxx, rfl⟩ := hvv
    clear hxx
    have HDM : Hid (Di B w g cap b1 q m f (k + 1) k F w1) := by
      have hft : ((m.take k).filter fun r => !f r) = m.take k := by
        rw [List.filter_eq_self]
        intro r hr
        have := List.any_eq_false.1 hno r hr
        simpa using this
      have e := filtI_snoc (f := f) hk
      rw [if_pos hyes, List.append_nil, hft] at e
      refine ⟨hrow, by rw [e, List.length_take]; omega, fun i hi => ?_, fun i h1 h2 => hin i h2, by omega, HB1.out.mono HBW.out, hBg, (HB1.out.cell (lt_of_cell H1.out)).trans H1.out, fun e => HNE.out (by rw [e]; rfl)⟩
      rw [e]
      have e2 : (m.take k).getD i 0 = m.getD i 0 := by
        simp only [List.getD_eq_getElem?_getD]; rw [List.getElem?_take_of_lt hi]
      rw [e2]
      exact hin i (by omega)
    clear hrow hin hno hyes
    have tk : ((k : Int) == -1) = false := by simp
    go_wp2
    go_loopw [5, 6, 7] (fun x1 x2 _ wr => ∃ (j c : Nat) (F : Nat → Value), j ≤ m.length ∧ x2 = .int .i64 j ∧ x1 = .int .i64 c ∧ Di B w g cap b1 q m f j c F wr) (fun _ x2 _ _ => m.length - (intOf x2).toNat)
    case atStart => exact ⟨k + 1, k, F, by omega, by go_num, rfl, HDM.out⟩
    case round =>
      obtain ⟨j, c, F2, hj, rfl, rfl, hdm⟩ := hrel
      have HD : Hid (Di B w g cap b1 q m f j c F2 wr) := hdm
      have hclt := hdm.lt
      by_cases hjn : j < m.length
      · have d1 := hdm.row.cell (i := j) (by omega)
        rw [hdm.rest j (Nat.le_refl _) hjn] at d1
        have HCA : Hid (Calls Tryd.prog 32 #[.int .i64 (m.getD j 0), .pointer (some ⟨b1, 0, none⟩)] wr fun e w' => e = .returned (.bool (f (m.getD j 0))) ∧ Below wr.heap.size wr w') := HC.out _ (by simp [hjn]) wr HD.out.box
        obtain ⟨x, hx⟩ : ∃ x, x = m.getD j 0 := ⟨_, rfl⟩
        have HX : Hid (x = m.getD j 0) := hx
        rw [← hx] at d1 HCA
        obtain ⟨fb, hfb⟩ : ∃ fb, fb = f x := ⟨_, rfl⟩
        have HFB : Hid (fb = f (m.getD j 0)) := by rw [← hx]; exact hfb
        rw [← hfb] at HCA
        clear hfb hx hdm
        have hjI : (j : Int) < (m.length : Int) := by omega
        go_wp2_with fail
        refine HCA.out.mono ?_
        rintro e w2 ⟨rfl, hb2⟩
        have HD2 : Hid (Di B w g cap b1 q m f j c F2 w2) := HD.out.below hb2
        clear hb2 HCA d1
        cases hf : fb
        · have HNX : Hid (Di B w g cap b1 q m f (j + 1) (c + 1) (fun i => if i = c then .int .i64 x else F2 i) (w2.setCell ⟨g, c, none⟩ (.int .i64 x))) := by
            have h := HD2.out.next hjn (by rw [← HFB.out]; exact hf)
            rw [← HX.out] at h
            exact h
          have d3 := HD2.out.row.cell (i := c) (by omega)
          have d4 := HD2.out.row.frozen c
          generalize F2 c = fc at d3
          have hcI : (c : Int) < (m.length : Int) := by omega
          clear hf
          go_wp2
          go_roundw
          case rel => exact ⟨j + 1, c + 1, _, by omega, by go_num, by go_num, HNX.out⟩
          case measure => simp [intOf]; omega
        · have HSK : Hid (Di B w g cap b1 q m f (j + 1) c F2 w2) := HD2.out.skip hjn (by rw [← HFB.out]; exact hf)
          clear hf
          go_wp2
          go_roundw
          case rel => exact ⟨j + 1, c, F2, by omega, by go_num, rfl, HSK.out⟩
          case measure => simp [intOf]; omega
      · have hje : j = m.length := by omega
        have HFN : Hid (_ ∧ _) := HD.out.fin hje hc1 hc2
        have hclr : ∀ ty, (Builtin.clear_ #[26] ty #[.slice (some ⟨g, c, none⟩) (m.length - c) (cap - c)]).run Tryd.prog wr = .ok (.tuple #[]) (wr.setCells g c (List.replicate (m.length - c) (.int .i64 0))) :=
          fun ty => Lib.run_clear_slice wr 26 3 ty (.int .i64 0) Tryd.underlying26 (fun w => by first | rfl | kernel_rfl | simp [go_sem]) rfl rfl g c (m.length - c) (cap - c) (by omega) (fun q hq => by rw [hdm.row.cell (by omega)]; rfl) (fun q hq => hdm.row.frozen _)
        have hcI : (c : Int) ≤ (m.length : Int) := by omega
        have hcI0 : (0 : Int) ≤ (c : Int) := by omega
        have hcc : c < cap := by omega
        have hcm2 : c ≤ m.length := by omega
        have hcc2 : c ≤ cap := by omega
        have hjI : decide ((j : Int) < (m.length : Int)) = false := by simp; omega
        clear hdm hje
        go_wp2
        go_ret
        exact ⟨_, rfl, HFN.out.1, HFN.out.2⟩

end Go.Proofs.YtomhhonigffilaaDoor
