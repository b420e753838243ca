/- slices.DeleteFunc over texts with Bounded's closure (made by mkdels.py out of Gp8). -/
import Derived.Test.YtgfnmkenpgnllaaGreatSg4r
import Derived.Test.YtgfnmkenpgnllaaGreatTk1
import Derived.Test.YtgfnmkenpgnllaaGreatCycAll
import Derived.Lib.SliceRun
import Derived.Lib.LazyBuf
import Derived.Laws.EntriesVeiled
namespace Go.Proofs.YtgfnmkenpgnllaaGreat
open Go.RowKit
attribute [local go_sem ↓] Go.wp_at_zero Go.wp_at_succ

/-- The first place at which p holds, or -1. -/
def findS (p : List UInt8 → Bool) (zs : List (List UInt8)) : Int := if zs.any p then (zs.findIdx p : Int) else -1

theorem findS_hit {p : List UInt8 → Bool} {l : List (List UInt8)} {k : Nat} (h : k < l.length) (h0 : (l.take k).any p = false) (h1 : p l[k] = true) : findS p l = k := by
  have ha : l.any p = true := List.any_eq_true.2 ⟨l[k], List.getElem_mem _, h1⟩
  unfold findS
  rw [if_pos ha]
  have hlt := List.findIdx_lt_length_of_exists (List.any_eq_true.1 ha)
  have h2 : l.findIdx p ≤ k := Classical.byContradiction fun hn => by
    have := List.not_of_lt_findIdx (p := p) (xs := l) (i := k) (by omega)
    rw [h1] at this; simp at this
  have h3 : ¬ l.findIdx p < k := fun hl => by
    have h4 := List.any_eq_false.1 h0 l[l.findIdx p] (List.mem_iff_getElem.2 ⟨l.findIdx p, by rw [List.length_take]; omega, by rw [List.getElem_take]⟩)
    exact h4 List.findIdx_getElem
  omega

theorem findS_none {p : List UInt8 → Bool} {l : List (List UInt8)} (h0 : l.any p = false) : findS p l = -1 := by
  unfold findS; rw [h0]; rfl

theorem any_snocD {p : List UInt8 → Bool} {l : List (List UInt8)} {k : Nat} (h : k < l.length) (h0 : (l.take k).any p = false) : (l.take (k + 1)).any p = p l[k] := by
  rw [List.take_succ_eq_append_getElem h, List.any_append, h0]
  simp

structure TouS (g : Nat) (w w' : World) : Prop where
  os : w'.os = w.os
  tape : w'.tape = w.tape
  output : w'.output = w.output
  size : w'.heap.size = w.heap.size
  block : ∀ b, b ≠ g → w'.heap[b]? = w.heap[b]?

theorem TouS.refl (g : Nat) (w : World) : TouS g w w := ⟨rfl, rfl, rfl, rfl, fun _ _ => rfl⟩
theorem TouS.setCell {g : Nat} {w w' : World} (h : TouS g w w') (j : Nat) (u : Value) : TouS g w (w'.setCell ⟨g, j, none⟩ u) :=
  ⟨h.os, h.tape, h.output, by simp [World.setCell, h.size], fun b hb => (Below.heap_setCell _ _ _ _ hb).trans (h.block b hb)⟩
theorem TouS.below {g M : Nat} {w w2 wr : World} (h : TouS g w2 wr) (hb : Below M w w2) (hg : M ≤ g) : Below M w wr :=
  ⟨h.os.trans hb.os, h.tape.trans hb.tape, h.output.trans hb.output, by rw [h.size]; exact hb.size, fun b hlt => (h.block b (by omega)).trans (hb.block b hlt)⟩
theorem TouS.setCells {g : Nat} {w : World} : ∀ (vs : List Value) (o : Nat) {w' : World}, TouS g w w' → TouS g w (w'.setCells g o vs)
  | [], _, _, h => h
  | v :: r, o, _, h => TouS.setCells r (o + 1) (h.setCell o v)


set_option maxRecDepth 100000 in
set_option maxHeartbeats 400000 in
theorem idxD_any (B : Nat) (p : List UInt8 → Bool) (zs : List (List UInt8)) (v : Value) (b1 b2 : Nat) (w : World) (hv : Sl B 9 w v (strs zs))
    (hc : ∀ x ∈ zs, ∀ W', Below w.heap.size w W' → Calls Tryz.prog 35 #[strT x, .pointer (some ⟨b1, 0, none⟩), .pointer (some ⟨b2, 0, none⟩)] W' fun e w' => e = .returned (.bool (p x)) ∧ Below W'.heap.size W' w') :
    Calls Tryz.prog 55 #[v, .func (.func 35) #[] #[.pointer (some ⟨b1, 0, none⟩), .pointer (some ⟨b2, 0, none⟩)]] w fun e w' => e = .returned (.int .i64 (findS p zs)) ∧ Below w.heap.size w w' := by
  obtain ⟨ao, cap, hvv, hlc, hcm⟩ := sgs_open hv
  subst hvv
  have HV : Hid (Sl B 9 w (.slice ao zs.length cap) (strs zs)) := hv
  have HIL : Hid (∀ x ∈ zs, ∀ W', Below w.heap.size w W' → Calls Tryz.prog 35 #[strT x, .pointer (some ⟨b1, 0, none⟩), .pointer (some ⟨b2, 0, none⟩)] W' fun e w' => e = .returned (.bool (p x)) ∧ Below W'.heap.size W' w') := hc
  clear hv hc
  go_enter Tryz.func55, Tryz.ntmps55
  go_wp2
  go_loopw [5, 8] (fun _ i wr => ∃ k : Nat, k ≤ zs.length ∧ i = .int .i64 k ∧ (zs.take k).any p = false ∧ Below w.heap.size w wr) (fun _ i _ => zs.length - (intOf i).toNat)
  case atStart => exact ⟨0, Nat.zero_le _, rfl, by simp, Below.refl _ _⟩
  case round =>
    obtain ⟨k, hk, rfl, hno, hbr⟩ := hrel
    have HN : Hid ((zs.take k).any p = false) := hno
    have HBR : Hid (Below w.heap.size w wr) := hbr
    clear hno hbr
    by_cases hlt : k < zs.length
    · obtain ⟨b', o, hs, hcc⟩ := sgs_cell (HV.out.below HBR.out (Nat.le_refl _)) hlt
      subst hs
      have HS1 : Hid ((zs.take (k + 1)).any p = p zs[k]) := any_snocD (p := p) hlt HN.out
      have HH : Hid (p zs[k] = true → findS p zs = k) := fun h => findS_hit (p := p) hlt HN.out h
      rw [show zs.getD k [] = zs[k] by simp [hlt]] at hcc
      have HIX : Hid (Calls Tryz.prog 35 #[strT zs[k], .pointer (some ⟨b1, 0, none⟩), .pointer (some ⟨b2, 0, none⟩)] wr fun e w' => e = .returned (.bool (p zs[k])) ∧ Below wr.heap.size wr w') := HIL.out _ (List.getElem_mem _) wr HBR.out
      generalize zs[k] = x at *
      generalize p x = fb at *
      cases fb
      · go_wp2_with fail
        refine HIX.out.mono ?_
        rintro e w2 ⟨rfl, hb2⟩
        have HB2 : Hid (Below w.heap.size w w2) := HBR.out.trans (hb2.mono HBR.out.size)
        clear hb2
        go_wp2
        go_roundw
        case rel => exact ⟨k + 1, by omega, by go_num, HS1.out, HB2.out⟩
        case measure => simp [intOf]; omega
      · have HH2 : Hid (findS p zs = k) := HH.out rfl
        clear HH
        go_wp2_with fail
        refine HIX.out.mono ?_
        rintro e w2 ⟨rfl, hb2⟩
        have HB2 : Hid (Below w.heap.size w w2) := HBR.out.trans (hb2.mono HBR.out.size)
        clear hb2
        go_wp2
        go_ret
        exact ⟨ret_int HH2.out.symm, HB2.out⟩
    · have e : zs.take k = zs := List.take_of_length_le (by omega)
      rw [e] at HN
      have HF : Hid (findS p zs = -1) := findS_none HN.out
      go_wp2
      go_ret
      exact ⟨ret_int HF.out.symm, HBR.out⟩


/-- A row of one's own, as cells. -/
theorem own_rowS {B n : Nat} {w : World} {v : Value} {m : List (List UInt8)} (h : w.ownsRow B 9 1 v n (strs m)) (hn : n = m.length) (hm : 0 < m.length) : ∃ g cap F, v = .slice (some ⟨g, 0, none⟩) m.length cap ∧ B ≤ g ∧ m.length ≤ cap ∧ cap ≤ 9223372036854775807 ∧ w.rowIs g 9 cap F ∧ ∀ i, i < m.length → F i = strT (m.getD i []) := by
  subst hn
  rcases h.2 with ⟨_, h0⟩ | ⟨g, cap, cur, hv, hb, hh, hn, hc, hs, ht⟩
  · omega
  · refine ⟨g, cap, fun i => cur.toList.getD i (.string ⟨#[]⟩), hv, hb, hn, by unfold maxLen at hc; exact hc, ⟨cur, hh, by omega, fun i hi => ?_⟩, fun i hi => ?_⟩
    · show cur[i]? = some (cur.toList.getD i (.string ⟨#[]⟩))
      rw [← Array.getElem?_toList, List.getD_eq_getElem?_getD, List.getElem?_eq_getElem (by simp; omega)]; rfl
    · have e : cur.toList.getD i (.string ⟨#[]⟩) = (strs m).getD i (.string ⟨#[]⟩) := by
        rw [← ht]
        simp only [List.getD_eq_getElem?_getD]
        rw [List.getElem?_take_of_lt (by omega)]
      show cur.toList.getD i (.string ⟨#[]⟩) = _
      rw [e]
      simp [strs, hi]

theorem row_ownS {B : Nat} {w : World} {g cap : Nat} {F : Nat → Value} {m : List (List UInt8)} (h : w.rowIs g 9 cap F) (hB : B ≤ g) (h4 : m.length ≤ cap) (h5 : cap ≤ 9223372036854775807) (h6 : ∀ i, i < m.length → F i = strT (m.getD i [])) : w.ownsRow B 9 1 (.slice (some ⟨g, 0, none⟩) m.length cap) m.length (strs m) := by
  obtain ⟨c, h1, h2, h3⟩ := h
  refine ⟨by simp [strs], Or.inr ⟨g, cap, c, rfl, hB, h1, h4, by unfold maxLen; exact h5, by omega, ?_⟩⟩
  apply List.ext_getElem?
  intro i
  by_cases hi : i < m.length
  · rw [List.getElem?_take_of_lt (by omega), Array.getElem?_toList, h3 i (by omega), h6 i hi]; simp [strs, hi]
  · rw [List.getElem?_eq_none (by simp; omega), List.getElem?_eq_none (by simp [strs]; omega)]

/-- What the walk of DeleteFunc holds. -/
structure DiS (B : Nat) (w : World) (g cap : Nat) (Gd : World → Prop) (m : List (List UInt8)) (f : List UInt8 → Bool) (j c : Nat) (F : Nat → Value) (wr : World) : Prop where
  row : wr.rowIs g 9 cap F
  len : c = ((m.take j).filter fun r => !f r).length
  done : ∀ i, i < c → F i = strT (((m.take j).filter fun r => !f r).getD i [])
  rest : ∀ i, j ≤ i → i < m.length → F i = strT (m.getD i [])
  lt : c < j
  bel : Below B w wr
  hB : B ≤ g
  gd : Gd wr
  gb : ∀ W W', Gd W → Below W.heap.size W W' → Gd W'
  gs : ∀ W c u, Gd W → Gd (W.setCell ⟨g, c, none⟩ u)

theorem DiS.below {B : Nat} {w : World} {g cap : Nat} {Gd : World → Prop} {m : List (List UInt8)} {f : List UInt8 → Bool} {j c : Nat} {F : Nat → Value} {wr w2 : World} (h : DiS B w g cap Gd m f j c F wr) (hb : Below wr.heap.size wr w2) : DiS B w g cap Gd m f j c F w2 :=
  ⟨h.row.of_block (hb.block g h.row.lt), h.len, h.done, h.rest, h.lt, h.bel.trans (hb.mono (by have := h.hB; have := h.row.lt; omega)), h.hB, h.gb _ _ h.gd hb, h.gb, h.gs⟩

theorem filtS_snoc {m : List (List UInt8)} {f : List UInt8 → Bool} {j : Nat} (hj : j < m.length) : ((m.take (j + 1)).filter fun r => !f r) = ((m.take j).filter fun r => !f r) ++ (if f (m.getD j []) = true then [] else [m.getD j []]) := by
  have e : m.getD j [] = m[j] := by simp [hj]
  rw [List.take_succ_eq_append_getElem hj, List.filter_append, e]
  cases hf : f m[j] <;> simp [hf]

theorem DiS.skip {B : Nat} {w : World} {g cap : Nat} {Gd : World → Prop} {m : List (List UInt8)} {f : List UInt8 → Bool} {j c : Nat} {F : Nat → Value} {wr : World} (h : DiS B w g cap Gd m f j c F wr) (hj : j < m.length) (hf : f (m.getD j []) = true) : DiS B w g cap Gd m f (j + 1) c F wr := by
  have e := filtS_snoc (f := f) hj
  rw [if_pos hf, List.append_nil] at e
  exact ⟨h.row, by rw [e]; exact h.len, by rw [e]; exact h.done, fun i h1 h2 => h.rest i (by omega) h2, by have := h.lt; omega, h.bel, h.hB, h.gd, h.gb, h.gs⟩

theorem DiS.next {B : Nat} {w : World} {g cap : Nat} {Gd : World → Prop} {m : List (List UInt8)} {f : List UInt8 → Bool} {j c : Nat} {F : Nat → Value} {wr : World} (h : DiS B w g cap Gd m f j c F wr) (hj : j < m.length) (hf : f (m.getD j []) = false) : DiS B w g cap Gd m f (j + 1) (c + 1) (fun i => if i = c then strT (m.getD j []) else F i) (wr.setCell ⟨g, c, none⟩ (strT (m.getD j []))) := by
  have e := filtS_snoc (f := f) hj
  rw [if_neg (by rw [hf]; decide)] at e
  have ht : TouS g wr (wr.setCell ⟨g, c, none⟩ (strT (m.getD j []))) := (TouS.refl _ _).setCell c _
  have hl := h.len
  have hlt := h.lt
  refine ⟨h.row.set c _, by rw [e, List.length_append, ← hl]; rfl, fun i hi => ?_, fun i h1 h2 => ?_, by omega, ht.below h.bel h.hB, h.hB, h.gs _ _ _ h.gd, h.gb, h.gs⟩
  · rw [e]
    by_cases hic : i = c
    · subst hic
      have e2 : (((m.take j).filter fun r => !f r) ++ [m.getD j []]).getD i [] = m.getD j [] := by rw [hl]; simp
      rw [e2, if_pos rfl]
    · have e2 : (((m.take j).filter fun r => !f r) ++ [m.getD j []]).getD i [] = ((m.take j).filter fun r => !f r).getD i [] := by
        simp only [List.getD_eq_getElem?_getD]; rw [List.getElem?_append_left (by omega)]
      rw [e2, if_neg hic]
      exact h.done i (by omega)
  · rw [if_neg (by omega)]
    exact h.rest i (by omega) h2

theorem DiS.fin {B : Nat} {w : World} {g cap : Nat} {Gd : World → Prop} {m : List (List UInt8)} {f : List UInt8 → Bool} {j c : Nat} {F : Nat → Value} {wr : World} (h : DiS B w g cap Gd m f j c F wr) (hj : j = m.length) (h1 : m.length ≤ cap) (h2 : cap ≤ 9223372036854775807) :
    (wr.setCells g c (List.replicate (m.length - c) (.string ⟨#[]⟩))).ownsRow B 9 1 (.slice (some ⟨g, 0, none⟩) c cap) (m.filter fun r => !f r).length (strs (m.filter fun r => !f r)) ∧ Below B w (wr.setCells g c (List.replicate (m.length - c) (.string ⟨#[]⟩))) := by
  subst hj
  have e : m.take m.length = m := List.take_length
  have hl := h.len
  have hd := h.done
  rw [e] at hl hd
  have ht : TouS g wr (wr.setCells g c (List.replicate (m.length - c) (.string ⟨#[]⟩))) := TouS.setCells _ _ (TouS.refl _ _)
  have hlt := h.lt
  refine ⟨?_, ht.below h.bel h.hB⟩
  have hrow := rowIs_setCells (List.replicate (m.length - c) (Value.string ⟨#[]⟩)) c wr F h.row
  have := row_ownS (B := B) (m := m.filter fun r => !f r) hrow h.hB (by omega) h2 (fun i hi => by
    rw [← hl] at hi
    rw [if_neg (by omega)]
    exact hd i hi)
  rw [← hl] at this ⊢
  exact this

set_option maxRecDepth 100000 in
set_option maxHeartbeats 1600000 in
theorem deleteS_any (B b1 b2 : Nat) (f : List UInt8 → Bool) (Gd : World → Prop) (m : List (List UInt8)) (v : Value) (w : World) (hv : w.ownsRow B 9 1 v m.length (strs m)) (hBw : B ≤ w.heap.size) (hml : m.length ≤ 1000000)
    (hC : ∀ x ∈ m, ∀ W : World, Gd W → Calls Tryz.prog 35 #[strT x, .pointer (some ⟨b1, 0, none⟩), .pointer (some ⟨b2, 0, none⟩)] W fun e w' => e = .returned (.bool (f x)) ∧ Below W.heap.size W w')
    (h1 : Gd w) (hgb : ∀ W W', Gd W → Below W.heap.size W W' → Gd W') (hgs : ∀ g, v.ownBlock = some g → ∀ W c u, Gd W → Gd (W.setCell ⟨g, c, none⟩ u)) :
    Calls Tryz.prog 38 #[v, .func (.func 35) #[] #[.pointer (some ⟨b1, 0, none⟩), .pointer (some ⟨b2, 0, none⟩)]] w fun e w' => ∃ u, e = .returned u ∧ w'.ownsRow B 9 1 u (m.filter fun r => !f r).length (strs (m.filter fun r => !f r)) ∧ Below B w w' := by
  have HC : Hid (∀ x ∈ m, ∀ W : World, Gd W → Calls Tryz.prog 35 #[strT x, .pointer (some ⟨b1, 0, none⟩), .pointer (some ⟨b2, 0, none⟩)] W fun e w' => e = .returned (.bool (f x)) ∧ Below W.heap.size W w') := hC
  have HI : Hid (Calls Tryz.prog 55 #[v, .func (.func 35) #[] #[.pointer (some ⟨b1, 0, none⟩), .pointer (some ⟨b2, 0, none⟩)]] w fun e w' => e = .returned (.int .i64 (findS f m)) ∧ Below w.heap.size w w') :=
    idxD_any 0 f m v b1 b2 w (Sl.own hv) fun x hx W' h => hC x hx W' (hgb _ _ h1 h)
  obtain ⟨ao, cap, hvv⟩ := owns_form hv
  subst hvv
  have HV : Hid (w.ownsRow B 9 1 (.slice ao m.length cap) m.length (strs m)) := hv
  have HBW : Hid (B ≤ w.heap.size) := hBw
  have H1 : Hid (Gd w) := h1
  have HGB : Hid (∀ W W', Gd W → Below W.heap.size W W' → Gd W') := hgb
  have HGS : Hid (∀ g, (Value.slice ao m.length cap).ownBlock = some g → ∀ W c u, Gd W → Gd (W.setCell ⟨g, c, none⟩ u)) := hgs
  clear hv hBw h1 hgb hgs hC
  have HZ : Hid ((findS f m = -1 ∧ m.any f = false) ∨ ∃ k : Nat, findS f m = k ∧ k < m.length ∧ (m.take k).any f = false ∧ f (m.getD k []) = true) := by
    show _ ∨ _
    cases ha : m.any f
    · exact Or.inl ⟨findS_none ha, rfl⟩
    · right
      have hlt := List.findIdx_lt_length_of_exists (List.any_eq_true.1 ha)
      refine ⟨m.findIdx f, by unfold findS; rw [if_pos ha], hlt, ?_, ?_⟩
      · rw [List.any_eq_false]
        intro x hx
        obtain ⟨i, hi, rfl⟩ := List.getElem_of_mem hx
        have hi2 : i < m.findIdx f := by rw [List.length_take] at hi; omega
        rw [List.getElem_take]
        simp [List.not_of_lt_findIdx hi2]
      · have := List.findIdx_getElem (w := hlt)
        rw [show m.getD (m.findIdx f) [] = m[m.findIdx f] by simp [hlt]]
        exact this
  generalize findS f m = z at *
  go_enter Tryz.func38, Tryz.ntmps38
  go_wp2_with fail
  refine HI.out.mono ?_
  rintro e w1 ⟨rfl, hb⟩
  have HB1 : Hid (Below w.heap.size w w1) := hb
  clear hb HI
  have hz := HZ.out
  clear HZ
  rcases hz with ⟨rfl, hno⟩ | ⟨k, rfl, hk, hno, hyes⟩
  · have HFI : Hid ((m.filter fun r => !f r) = m) := by
      show _ = _
      rw [List.filter_eq_self]
      intro r hr
      have := List.any_eq_false.1 hno r hr
      simpa using this
    clear hno
    go_wp2
    go_ret
    exact ⟨_, rfl, by rw [HFI.out]; exact owns_below HV.out HB1.out (Nat.le_refl _), HB1.out.mono HBW.out⟩
  · obtain ⟨g, cap2, F, hvv, hBg, hc1, hc2, hrow, hin⟩ := own_rowS (owns_below HV.out HB1.out (Nat.le_refl _)) rfl (by omega)
    simp only [Value.slice.injEq] at hvv
    obtain ⟨rfl, hxx, rfl⟩ := hvv
    clear hxx
    have HDM : Hid (DiS B w g cap Gd m f (k + 1) k F w1) := by
      have hft : ((m.take k).filter fun r => !f r) = m.take k := by
        rw [List.filter_eq_self]
        intro r hr
        have := List.any_eq_false.1 hno r hr
        simpa using this
      have e := filtS_snoc (f := f) hk
      rw [if_pos hyes, List.append_nil, hft] at e
      refine ⟨hrow, by rw [e, List.length_take]; omega, fun i hi => ?_, fun i h1 h2 => hin i h2, by omega, HB1.out.mono HBW.out, hBg, HGB.out _ _ H1.out HB1.out, HGB.out, HGS.out g rfl⟩
      rw [e]
      have e2 : (m.take k).getD i [] = m.getD i [] := by
        simp only [List.getD_eq_getElem?_getD]; rw [List.getElem?_take_of_lt hi]
      rw [e2]
      exact hin i (by omega)
    clear hrow hin hno hyes
    have tk : ((k : Int) == -1) = false := by simp
    go_wp2
    go_loopw [5, 6, 7] (fun x1 x2 _ wr => ∃ (j c : Nat) (F : Nat → Value), j ≤ m.length ∧ x2 = .int .i64 j ∧ x1 = .int .i64 c ∧ DiS B w g cap Gd m f j c F wr) (fun _ x2 _ _ => m.length - (intOf x2).toNat)
    case atStart => exact ⟨k + 1, k, F, by omega, by go_num, rfl, HDM.out⟩
    case round =>
      obtain ⟨j, c, F2, hj, rfl, rfl, hdm⟩ := hrel
      have HD : Hid (DiS B w g cap Gd m f j c F2 wr) := hdm
      have hclt := hdm.lt
      by_cases hjn : j < m.length
      · have d1 := hdm.row.cell (i := j) (by omega)
        rw [hdm.rest j (Nat.le_refl _) hjn] at d1
        have HCA : Hid (Calls Tryz.prog 35 #[strT (m.getD j []), .pointer (some ⟨b1, 0, none⟩), .pointer (some ⟨b2, 0, none⟩)] wr fun e w' => e = .returned (.bool (f (m.getD j []))) ∧ Below wr.heap.size wr w') := HC.out _ (by simp [hjn]) wr HD.out.gd
        obtain ⟨x, hx⟩ : ∃ x, x = m.getD j [] := ⟨_, rfl⟩
        have HX : Hid (x = m.getD j []) := hx
        rw [← hx] at d1 HCA
        obtain ⟨XB, hXB⟩ : ∃ XB : ByteArray, strT x = .string XB := ⟨_, rfl⟩
        have HXB : Hid (strT x = .string XB) := hXB
        rw [hXB] at d1 HCA
        clear hXB
        obtain ⟨fb, hfb⟩ : ∃ fb, fb = f x := ⟨_, rfl⟩
        have HFB : Hid (fb = f (m.getD j [])) := by rw [← hx]; exact hfb
        rw [← hfb] at HCA
        clear hfb hx hdm
        have hjI : (j : Int) < (m.length : Int) := by omega
        go_wp2_with fail
        refine HCA.out.mono ?_
        rintro e w2 ⟨rfl, hb2⟩
        have HD2 : Hid (DiS B w g cap Gd m f j c F2 w2) := HD.out.below hb2
        clear hb2 HCA d1
        cases hf : fb
        · have HNX : Hid (DiS B w g cap Gd m f (j + 1) (c + 1) (fun i => if i = c then .string XB else F2 i) (w2.setCell ⟨g, c, none⟩ (.string XB))) := by
            have h := HD2.out.next hjn (by rw [← HFB.out]; exact hf)
            rw [← HX.out, HXB.out] at h
            exact h
          have d3 := HD2.out.row.cell (i := c) (by omega)
          have d4 := HD2.out.row.frozen c
          generalize F2 c = fc at d3
          have hcI : (c : Int) < (m.length : Int) := by omega
          clear hf
          go_wp2
          go_roundw
          case rel => exact ⟨j + 1, c + 1, _, by omega, by go_num, by go_num, HNX.out⟩
          case measure => simp [intOf]; omega
        · have HSK : Hid (DiS B w g cap Gd m f (j + 1) c F2 w2) := HD2.out.skip hjn (by rw [← HFB.out]; exact hf)
          clear hf
          go_wp2
          go_roundw
          case rel => exact ⟨j + 1, c, F2, by omega, by go_num, rfl, HSK.out⟩
          case measure => simp [intOf]; omega
      · have hje : j = m.length := by omega
        have HFN : Hid (_ ∧ _) := HD.out.fin hje hc1 hc2
        have hclr : ∀ ty, (Builtin.clear_ #[31] ty #[.slice (some ⟨g, c, none⟩) (m.length - c) (cap - c)]).run Tryz.prog wr = .ok (.tuple #[]) (wr.setCells g c (List.replicate (m.length - c) (.string ⟨#[]⟩))) :=
          fun ty => Lib.run_clear_slice wr 31 9 ty (.string ⟨#[]⟩) Tryz.underlying31 (fun w => by first | rfl | kernel_rfl | simp [go_sem]) rfl rfl g c (m.length - c) (cap - c) (by omega) (fun q hq => by rw [hdm.row.cell (by omega)]; rfl) (fun q hq => hdm.row.frozen _)
        have hcI : (c : Int) ≤ (m.length : Int) := by omega
        have hcI0 : (0 : Int) ≤ (c : Int) := by omega
        have hcc : c < cap := by omega
        have hcm2 : c ≤ m.length := by omega
        have hcc2 : c ≤ cap := by omega
        have hjI : decide ((j : Int) < (m.length : Int)) = false := by simp; omega
        clear hdm hje
        go_wp2
        go_ret
        exact ⟨_, rfl, HFN.out.1, HFN.out.2⟩

end Go.Proofs.YtgfnmkenpgnllaaGreat
