/- All choices of points, one after another. -/
import Derived.Test.YtfbgcfbafnmahaaRow4
namespace Go.Proofs.Ytfbgcfbafnmahaa
open Go.RowKit
attribute [local go_sem ↓] Go.wp_at_zero Go.wp_at_succ

/-- All choices of k out of a list, in their order. -/
def chs : Nat → List (List Int) → List (List (List Int))
  | 0, _ => [[]]
  | _ + 1, [] => []
  | k + 1, x :: xs => ((chs k xs).map (x :: ·)) ++ chs (k + 1) xs

theorem chs_len : ∀ k l, (chs k l).length ≤ (l.length + 1) ^ k
  | 0, _ => by simp [chs]
  | k + 1, [] => by simp [chs]
  | k + 1, x :: xs => by
    have h1 := chs_len k xs
    have h2 := chs_len (k + 1) xs
    simp only [chs, List.length_append, List.length_map, List.length_cons]
    have h3 : (xs.length + 1) ^ (k + 1) = (xs.length + 1) ^ k * (xs.length + 1) := Nat.pow_succ _ _
    have h4 : (xs.length + 1 + 1) ^ (k + 1) = (xs.length + 1 + 1) ^ k * (xs.length + 1 + 1) := Nat.pow_succ _ _
    have h5 : (xs.length + 1) ^ k ≤ (xs.length + 1 + 1) ^ k := Nat.pow_le_pow_left (by omega) k
    have h6 : (xs.length + 1) ^ k * (xs.length + 1) + (xs.length + 1) ^ k ≤ (xs.length + 1 + 1) ^ k * (xs.length + 1 + 1) := by
      have : (xs.length + 1) ^ k * (xs.length + 1) + (xs.length + 1) ^ k = (xs.length + 1) ^ k * (xs.length + 1 + 1) := (Nat.mul_succ _ _).symm
      rw [this]; exact Nat.mul_le_mul_right _ h5
    omega

/-- The rows of all choices that begin so. -/
def rowsC (P pre : List (List Int)) (k : Nat) (l : List (List Int)) : List (List Int) := (chs k l).flatMap fun c => (rowT (pre ++ c) P).toList

theorem rowsC_len (P pre : List (List Int)) (k : Nat) (l : List (List Int)) : (rowsC P pre k l).length ≤ (chs k l).length := by
  unfold rowsC
  have : ∀ L : List (List (List Int)), (L.flatMap fun c => (rowT (pre ++ c) P).toList).length ≤ L.length := by
    intro L
    induction L with
    | nil => simp
    | cons c L ih =>
      simp only [List.flatMap_cons, List.length_append, List.length_cons]
      have : (rowT (pre ++ c) P).toList.length ≤ 1 := by cases rowT (pre ++ c) P <;> simp
      omega
  exact this _

theorem rowsC_zero (P pre l : List (List Int)) : rowsC P pre 0 l = (rowT pre P).toList := by simp [rowsC, chs]

theorem rowsC_nil (P pre : List (List Int)) (k : Nat) : rowsC P pre (k + 1) [] = [] := by simp [rowsC, chs]

theorem rowsC_cons (P pre : List (List Int)) (k : Nat) (x : List Int) (xs : List (List Int)) : rowsC P pre (k + 1) (x :: xs) = rowsC P (pre ++ [x]) k xs ++ rowsC P pre (k + 1) xs := by
  simp only [rowsC, chs, List.flatMap_append, List.flatMap_map, List.append_assoc, List.singleton_append]

/-- All is as it was in w0 but blocks R and G, and what has come since. -/
structure Sx (w0 : World) (M R G : Nat) (w : World) : Prop where
  os : w.os = w0.os
  tape : w.tape = w0.tape
  output : w.output = w0.output
  size : M ≤ w.heap.size
  block : ∀ b, b < M → b ≠ R → b ≠ G → w.heap[b]? = w0.heap[b]?

theorem Sx.cell {w0 w : World} {M R G : Nat} (h : Sx w0 M R G w) {a : Addr} (h1 : a.block < M) (h2 : a.block ≠ R) (h3 : a.block ≠ G) : w.cell? a = w0.cell? a := World.cell?_of_block (w := w0) (h.block _ h1 h2 h3)

theorem Sx.but {w0 w w' : World} {M R G : Nat} (h : Sx w0 M R G w) (hb : But M R w w') : Sx w0 M R G w' :=
  ⟨hb.os.trans h.os, hb.tape.trans h.tape, hb.output.trans h.output, Nat.le_trans h.size hb.size, fun b h1 h2 h3 => (hb.block b h1 h2).trans (h.block b h1 h2 h3)⟩

theorem Sx.setG {w0 w : World} {M R G : Nat} (h : Sx w0 M R G w) (j : Nat) (u : Value) : Sx w0 M R G (w.setCell ⟨G, j, none⟩ u) :=
  ⟨h.os, h.tape, h.output, by simp [World.setCell, h.size], fun b h1 h2 h3 => (Below.heap_setCell _ _ _ _ h3).trans (h.block b h1 h2 h3)⟩

theorem Sx.drew {w0 w : World} {M R G : Nat} (h : Sx w0 M R G w) : Sx w0 M R G w.drew := ⟨h.os, h.tape, h.output, h.size, h.block⟩

/-- What the walk through all choices finds in memory. -/
structure Cx (w0 : World) (N0 M R G many : Nat) (P : List (List Int)) (vb vo vc : Nat) (pv : Nat → Value) (bm bl bc bp bf pp : Nat) : Prop where
  nR : N0 ≤ R
  nG : N0 ≤ G
  RM : R < M
  GM : G < M
  RG : R ≠ G
  box : ∀ b, b = bm ∨ b = bl ∨ b = bc ∨ b = bp ∨ b = bf ∨ b = pp → b < M ∧ b ≠ R ∧ b ≠ G
  cm : w0.cell? ⟨bm, 0, none⟩ = some (.int .i64 many)
  cl : w0.cell? ⟨bl, 0, none⟩ = some (.func (.func 76) #[] #[.pointer (some ⟨pp, 0, none⟩), .pointer (some ⟨R, 0, none⟩)])
  cc : w0.cell? ⟨bc, 0, none⟩ = some (.slice (some ⟨G, 0, none⟩) many many)
  cp : w0.cell? ⟨bp, 0, none⟩ = some (.slice (some ⟨vb, vo, none⟩) P.length vc)
  cf : w0.cell? ⟨bf, 0, none⟩ = some (.func (.func 94) #[] #[.pointer (some ⟨bm, 0, none⟩), .pointer (some ⟨bl, 0, none⟩), .pointer (some ⟨bc, 0, none⟩), .pointer (some ⟨bp, 0, none⟩), .pointer (some ⟨bf, 0, none⟩)])
  cq : w0.cell? ⟨pp, 0, none⟩ = some (.slice (some ⟨vb, vo, none⟩) P.length vc)
  pts : ∀ w, Sx w0 M R G w → Mat N0 28 3 w (.slice (some ⟨vb, vo, none⟩) P.length vc) P ∧ ∀ k, k < P.length → w.cell? ⟨vb, vo + k, none⟩ = some (pv k) ∧ Sl N0 3 w (pv k) (ints (P.getD k []))
  cap : P.length ≤ vc ∧ vc ≤ 9223372036854775807
  fits : Box many 30 P
  m1 : 1 ≤ many
  m4 : many ≤ 4
  n24 : P.length ≤ 24

def preL (P : List (List Int)) (ix : List Nat) : List (List Int) := ix.map fun i => P.getD i []

/-- What filling in the rest of a choice comes to. -/
def FillSaid (k : Nat) : Prop := ∀ (w0 : World) (N0 M R G many : Nat) (P : List (List Int)) (vb vo vc : Nat) (pv : Nat → Value) (bm bl bc bp bf pp : Nat), Cx w0 N0 M R G many P vb vo vc pv bm bl bc bp bf pp →
  ∀ (ix : List Nat) (fr : Nat) (rs : List (List Int)) (rv : Value) (f : Nat → Value) (w : World), ix.length + k = many → (∀ i ∈ ix, i < P.length) → fr ≤ P.length → Sx w0 M R G w → w.heap[R]? = some (.cells #[rv] 22 (0, 0)) → Fr M 28 3 w rv rs →
    w.rowIs G 28 many f → (∀ j, j < ix.length → f j = pv (ix.getD j 0)) → rs.length + (rowsC P (preL P ix) k (P.drop fr)).length ≤ 500000 →
    Calls Try.prog 94 #[.int .i64 ix.length, .int .i64 fr, .pointer (some ⟨bm, 0, none⟩), .pointer (some ⟨bl, 0, none⟩), .pointer (some ⟨bc, 0, none⟩), .pointer (some ⟨bp, 0, none⟩), .pointer (some ⟨bf, 0, none⟩)] w fun e w' =>
      e = .returned (.tuple #[]) ∧ Sx w0 M R G w' ∧ ∃ rv' f', w'.heap[R]? = some (.cells #[rv'] 22 (0, 0)) ∧ Fr M 28 3 w' rv' (rs ++ rowsC P (preL P ix) k (P.drop fr)) ∧ w'.rowIs G 28 many f' ∧ ∀ j, j < ix.length → f' j = f j

theorem rowIs_but {M R G n : Nat} {t : TypeId} {w w' : World} {f : Nat → Value} (h : w.rowIs G t n f) (hb : But M R w w') (hG : G < M) (hne : G ≠ R) : w'.rowIs G t n f := by
  obtain ⟨c, h1, h2, h3⟩ := h
  exact ⟨c, (hb.block G hG hne).trans h1, h2, h3⟩

set_option maxRecDepth 100000 in
set_option maxHeartbeats 1600000 in
theorem fill_zero : FillSaid 0 := by
  intro w0 N0 M R G many P vb vo vc pv bm bl bc bp bf pp hx ix fr rs rv f w hk hix hfr hs hR hrs hrow hf hlen
  rw [rowsC_zero] at hlen ⊢
  have hk' : ix.length = many := by omega
  subst hk'
  obtain ⟨qm1, qm2, qm3⟩ := hx.box bm (Or.inl rfl)
  obtain ⟨ql1, ql2, ql3⟩ := hx.box bl (Or.inr (Or.inl rfl))
  obtain ⟨qc1, qc2, qc3⟩ := hx.box bc (Or.inr (Or.inr (Or.inl rfl)))
  obtain ⟨qq1, qq2, qq3⟩ := hx.box pp (by simp)
  have c1 : w.cell? ⟨bm, 0, none⟩ = some (.int .i64 ix.length) := (hs.cell qm1 qm2 qm3).trans hx.cm
  have c2 := (hs.cell (a := ⟨bl, 0, none⟩) ql1 ql2 ql3).trans hx.cl
  have c3 := (hs.cell (a := ⟨bc, 0, none⟩) qc1 qc2 qc3).trans hx.cc
  have c4 := (hs.cell (a := ⟨pp, 0, none⟩) qq1 qq2 qq3).trans hx.cq
  have hpl : (preL P ix).length = ix.length := by simp [preL]
  have hlim := hx.m4
  have hmat : Mat N0 28 3 w (.slice (some ⟨G, 0, none⟩) ix.length ix.length) (preL P ix) := by
    refine ⟨(List.range ix.length).map f, by simp [preL], Sl.row hrow (by simp) (by unfold maxLen; omega) (fun i hi => by simp [hi]), fun i hi => ?_⟩
    have hi' : i < ix.length := by simpa [preL] using hi
    have e1 : ((List.range ix.length).map f).getD i (.slice none 0 0) = f i := by simp [hi']
    have e2 : (preL P ix).getD i [] = P.getD (ix.getD i 0) [] := by simp [preL, hi']
    rw [e1, e2, hf i hi']
    exact ((hx.pts w hs).2 _ (hix _ (by simp [hi']))).2
  have hbox : Box ix.length 30 (preL P ix) := by
    intro r hr
    simp only [preL, List.mem_map] at hr
    obtain ⟨i, hi, rfl⟩ := hr
    exact hx.fits _ (by simp [hix i hi])
  have HL : Hid (Calls Try.prog 76 #[.slice (some ⟨G, 0, none⟩) ix.length ix.length, .pointer (some ⟨pp, 0, none⟩), .pointer (some ⟨R, 0, none⟩)] w fun e w' => e = .returned (.tuple #[]) ∧ ∃ rv', w'.heap[R]? = some (.cells #[rv'] 22 (0, 0)) ∧ Fr M 28 3 w' rv' (rs ++ (rowT (preL P ix) P).toList) ∧ But M R w w') :=
    look_any N0 M R (preL P ix) P rs _ _ rv ⟨pp, 0, none⟩ w hmat (hx.pts w hs).1 (by rw [hpl]; exact hbox) (by rw [hpl]; exact hx.fits) (by rw [hpl]; exact hx.m1) (by rw [hpl]; exact hx.m4) c4 hR hx.RM hs.size hrs (by omega)
  have HS : Hid (Sx w0 M R G w) := hs
  have HRW : Hid (w.rowIs G 28 ix.length f) := hrow
  have HGM : Hid (G < M ∧ G ≠ R) := ⟨hx.GM, fun e => hx.RG e.symm⟩
  clear hx hs hR hrs hrow hf hlen hmat hbox hpl hix hfr
  go_enter Try.func94, Try.ntmps94
  go_wp2_with fail
  refine HL.out.mono ?_
  rintro e w1 ⟨rfl, rv', h1, h2, h3⟩
  have H1 : Hid (w1.heap[R]? = some (.cells #[rv'] 22 (0, 0))) := h1
  have H2 : Hid (Fr M 28 3 w1 rv' (rs ++ (rowT (preL P ix) P).toList)) := h2
  have H3 : Hid (But M R w w1) := h3
  clear h1 h2 h3
  go_wp2
  exact bodyPost_ret (v := .tuple #[]) (by simp [results, Try.results94, go_sem]) rfl ⟨rfl, HS.out.but H3.out, rv', f, H1.out, H2.out, rowIs_but HRW.out H3.out HGM.out.1 HGM.out.2, fun _ _ => rfl⟩

theorem drop_at {P : List (List Int)} {j : Nat} (h : j < P.length) : P.drop j = P.getD j [] :: P.drop (j + 1) := by
  rw [List.drop_eq_getElem_cons h]; simp [h]

theorem rowIs_set {G n j : Nat} {t : TypeId} {w : World} {f : Nat → Value} (h : w.rowIs G t n f) (u : Value) : (w.setCell ⟨G, j, none⟩ u).rowIs G t n (fun i => if i = j then u else f i) := h.set j u

set_option maxRecDepth 100000 in
set_option maxHeartbeats 3200000 in
theorem fill_succ (k : Nat) (ih : FillSaid k) : FillSaid (k + 1) := by
  intro w0 N0 M R G many P vb vo vc pv bm bl bc bp bf pp hx ix fr rs rv f w hk hix hfr hs hR hrs hrow hf hlen
  obtain ⟨qm1, qm2, qm3⟩ := hx.box bm (Or.inl rfl)
  obtain ⟨qc1, qc2, qc3⟩ := hx.box bc (Or.inr (Or.inr (Or.inl rfl)))
  obtain ⟨qp1, qp2, qp3⟩ := hx.box bp (Or.inr (Or.inr (Or.inr (Or.inl rfl))))
  obtain ⟨qf1, qf2, qf3⟩ := hx.box bf (Or.inr (Or.inr (Or.inr (Or.inr (Or.inl rfl)))))
  have HCM : Hid (∀ w, Sx w0 M R G w → w.cell? ⟨bm, 0, none⟩ = some (.int .i64 many)) := fun w hs => (hs.cell qm1 qm2 qm3).trans hx.cm
  have HCC : Hid (∀ w, Sx w0 M R G w → w.cell? ⟨bc, 0, none⟩ = some (.slice (some ⟨G, 0, none⟩) many many)) := fun w hs => (hs.cell qc1 qc2 qc3).trans hx.cc
  have HCP : Hid (∀ w, Sx w0 M R G w → w.cell? ⟨bp, 0, none⟩ = some (.slice (some ⟨vb, vo, none⟩) P.length vc)) := fun w hs => (hs.cell qp1 qp2 qp3).trans hx.cp
  have HCF : Hid (∀ w, Sx w0 M R G w → w.cell? ⟨bf, 0, none⟩ = some (.func (.func 94) #[] #[.pointer (some ⟨bm, 0, none⟩), .pointer (some ⟨bl, 0, none⟩), .pointer (some ⟨bc, 0, none⟩), .pointer (some ⟨bp, 0, none⟩), .pointer (some ⟨bf, 0, none⟩)])) := fun w hs => (hs.cell qf1 qf2 qf3).trans hx.cf
  have HX : Hid (Cx w0 N0 M R G many P vb vo vc pv bm bl bc bp bf pp) := hx
  have hm4 := hx.m4
  have hn24 := hx.n24
  have hcap := hx.cap
  have HIX : Hid (∀ i ∈ ix, i < P.length) := hix
  have HLEN : Hid (rs.length + (rowsC P (preL P ix) (k + 1) (P.drop fr)).length ≤ 500000) := hlen
  have HF : Hid (∀ j, j < ix.length → f j = pv (ix.getD j 0)) := hf
  have HS : Hid (Sx w0 M R G w) := hs
  have HR : Hid (w.heap[R]? = some (.cells #[rv] 22 (0, 0))) := hR
  have HRS : Hid (Fr M 28 3 w rv rs) := hrs
  have HRW : Hid (w.rowIs G 28 many f) := hrow
  have c1 : w.cell? ⟨bm, 0, none⟩ = some (.int .i64 many) := HCM.out w hs
  have c2 : w.cell? ⟨bp, 0, none⟩ = some (.slice (some ⟨vb, vo, none⟩) P.length vc) := HCP.out w hs
  have hne : ((ix.length : Int) == (many : Int)) = false := by rw [beq_eq_false_iff_ne]; omega
  clear hx hix hlen hf hs hR hrs hrow qm1 qm2 qm3 qc1 qc2 qc3 qp1 qp2 qp3 qf1 qf2 qf3
  go_enter Try.func94, Try.ntmps94
  go_wp2
  go_loopw [20, 9] (fun i _ wr => ∃ (q : Nat) (cs : List (List Int)) (cv : Value) (g : Nat → Value), fr + q ≤ P.length ∧ i = .int .i64 q ∧ Sx w0 M R G wr ∧ wr.heap[R]? = some (.cells #[cv] 22 (0, 0)) ∧ Fr M 28 3 wr cv cs ∧ wr.rowIs G 28 many g ∧ (∀ j, j < ix.length → g j = f j) ∧
      cs ++ rowsC P (preL P ix) (k + 1) (P.drop (fr + q)) = rs ++ rowsC P (preL P ix) (k + 1) (P.drop fr)) (fun i _ _ => P.length - (intOf i).toNat)
  case atStart => exact ⟨0, rs, rv, f, hfr, rfl, HS.out, HR.out, HRS.out, HRW.out, fun _ _ => rfl, rfl⟩
  case round =>
    obtain ⟨q, cs, cv, g, hq, rfl, hs, hR, hrs, hrow, hg, hcs⟩ := hrel
    have HS2 : Hid (Sx w0 M R G wr) := hs
    have HR2 : Hid (wr.heap[R]? = some (.cells #[cv] 22 (0, 0))) := hR
    have HRS2 : Hid (Fr M 28 3 wr cv cs) := hrs
    have HRW2 : Hid (wr.rowIs G 28 many g) := hrow
    have HG : Hid (∀ j, j < ix.length → g j = f j) := hg
    have HCS : Hid (cs ++ rowsC P (preL P ix) (k + 1) (P.drop (fr + q)) = rs ++ rowsC P (preL P ix) (k + 1) (P.drop fr)) := hcs
    by_cases hlt : fr + q < P.length
    · have d1 : wr.cell? ⟨bc, 0, none⟩ = some (.slice (some ⟨G, 0, none⟩) many many) := HCC.out wr hs
      have d2 : wr.cell? ⟨bp, 0, none⟩ = some (.slice (some ⟨vb, vo, none⟩) P.length vc) := HCP.out wr hs
      have d3 := ((HX.out.pts wr hs).2 (fr + q) hlt).1
      have d4 := hrow.cell (i := ix.length) (by omega)
      have d5 := hrow.frozen ix.length
      obtain ⟨px, hpx⟩ : ∃ px, px = pv (fr + q) := ⟨_, rfl⟩
      have HPX : Hid (px = pv (fr + q)) := hpx
      rw [← hpx] at d3
      obtain ⟨po, pc, hpe, _, _⟩ := sl_open (((HX.out.pts wr hs).2 (fr + q) hlt).2)
      rw [← hpx] at hpe
      subst hpe
      generalize g ix.length = gx at d4
      generalize (P.getD (fr + q) []).length = pl at *
      have HS5 : Hid (Sx w0 M R G (wr.setCell ⟨G, ix.length, none⟩ (.slice po pl pc)).drew) := (hs.setG _ _).drew
      have HR5 : Hid ((wr.setCell ⟨G, ix.length, none⟩ (.slice po pl pc)).drew.heap[R]? = some (.cells #[cv] 22 (0, 0))) := (Below.heap_setCell wr ⟨G, ix.length, none⟩ (.slice po pl pc) R HX.out.RG).trans hR
      have HRS5 : Hid (Fr M 28 3 (wr.setCell ⟨G, ix.length, none⟩ (.slice po pl pc)).drew cv cs) := by
        obtain ⟨cg, hcg, _⟩ := hrow
        exact hrs.set HX.out.GM hcg (by decide)
      have HRW5 : Hid ((wr.setCell ⟨G, ix.length, none⟩ (.slice po pl pc)).drew.rowIs G 28 many (fun i => if i = ix.length then .slice po pl pc else g i)) := rowIs_set hrow _
      obtain ⟨W5, hW5⟩ : ∃ W5, W5 = (wr.setCell ⟨G, ix.length, none⟩ (.slice po pl pc)).drew := ⟨_, rfl⟩
      rw [← hW5] at HS5 HR5 HRS5 HRW5
      have d6 : W5.cell? ⟨bf, 0, none⟩ = some (.func (.func 94) #[] #[.pointer (some ⟨bm, 0, none⟩), .pointer (some ⟨bl, 0, none⟩), .pointer (some ⟨bc, 0, none⟩), .pointer (some ⟨bp, 0, none⟩), .pointer (some ⟨bf, 0, none⟩)]) := HCF.out W5 HS5.out
      have HCONS : Hid (rowsC P (preL P ix) (k + 1) (P.drop (fr + q)) = rowsC P (preL P (ix ++ [fr + q])) k (P.drop (fr + q + 1)) ++ rowsC P (preL P ix) (k + 1) (P.drop (fr + q + 1))) := by
        show _ = _
        rw [drop_at hlt, rowsC_cons]
        simp [preL]
      have HCALL : Hid (Calls Try.prog 94 #[.int .i64 ((ix.length : Int) + 1), .int .i64 ((fr : Int) + (q : Int) + 1), .pointer (some ⟨bm, 0, none⟩), .pointer (some ⟨bl, 0, none⟩), .pointer (some ⟨bc, 0, none⟩), .pointer (some ⟨bp, 0, none⟩), .pointer (some ⟨bf, 0, none⟩)] W5 fun e w' =>
          e = .returned (.tuple #[]) ∧ Sx w0 M R G w' ∧ ∃ rv' f', w'.heap[R]? = some (.cells #[rv'] 22 (0, 0)) ∧ Fr M 28 3 w' rv' (cs ++ rowsC P (preL P (ix ++ [fr + q])) k (P.drop (fr + q + 1))) ∧ w'.rowIs G 28 many f' ∧ ∀ j, j < ix.length + 1 → f' j = (fun i => if i = ix.length then Value.slice po pl pc else g i) j) := by
        have h := ih w0 N0 M R G many P vb vo vc pv bm bl bc bp bf pp HX.out (ix ++ [fr + q]) (fr + q + 1) cs cv _ W5 (by simp; omega) (fun i hi => by
            simp only [List.mem_append, List.mem_singleton] at hi
            rcases hi with hi | rfl
            · exact HIX.out i hi
            · exact hlt) (by omega) HS5.out HR5.out HRS5.out HRW5.out (fun j hj => by
            simp only [List.length_append, List.length_singleton] at hj
            by_cases e : j = ix.length
            · subst e; simp [HPX.out]
            · have hj' : j < ix.length := by omega
              simp only [e, if_false]
              rw [HG.out j hj', HF.out j hj']
              simp only [List.getD_eq_getElem?_getD]; rw [List.getElem?_append_left hj']) (by
            have h1 := HLEN.out
            have h2 := congrArg List.length HCS.out
            rw [HCONS.out] at h2
            simp only [List.length_append] at h2
            omega)
        have e1 : ((ix ++ [fr + q]).length : Int) = (ix.length : Int) + 1 := by simp
        have e2 : ((fr + q + 1 : Nat) : Int) = (fr : Int) + (q : Int) + 1 := by omega
        rw [e1, e2] at h
        simp only [List.length_append, List.length_singleton] at h
        exact h
      clear hs hR hrs hrow hg hcs hpx
      have hqI : (0 : Int) ≤ (q : Int) := by omega
      have hfI : (0 : Int) ≤ (fr : Int) := by omega
      have hI0 : (0 : Int) ≤ (ix.length : Int) := by omega
      have hI1 : (ix.length : Int) < (many : Int) := by omega
      have hqJ : (q : Int) < (P.length : Int) - (fr : Int) := by omega
      have hfq : (fr : Int) + (q : Int) < (P.length : Int) := by omega
      have hfq0 : (0 : Int) ≤ (fr : Int) + (q : Int) := by omega
      go_wp2
      go_region
      rw [← hW5]
      clear hW5
      go_wp2_with fail
      refine HCALL.out.mono ?_
      rintro e w6 ⟨rfl, hs6, rv6, f6, h1, h2, h3, h4⟩
      have S1 : Hid (Sx w0 M R G w6) := hs6
      have S2 : Hid (w6.heap[R]? = some (.cells #[rv6] 22 (0, 0))) := h1
      have S3 : Hid (Fr M 28 3 w6 rv6 (cs ++ rowsC P (preL P (ix ++ [fr + q])) k (P.drop (fr + q + 1)))) := h2
      have S4 : Hid (w6.rowIs G 28 many f6) := h3
      have S5 : Hid (∀ j, j < ix.length → f6 j = f j) := fun j hj => by
        rw [h4 j (by omega)]
        simp only [show j ≠ ix.length by omega, if_false]
        exact HG.out j hj
      clear hs6 h1 h2 h3 h4
      go_wp2
      go_roundw
      case rel =>
        refine ⟨q + 1, _, rv6, f6, by omega, by go_num, S1.out, S2.out, S3.out, S4.out, S5.out, ?_⟩
        rw [← HCS.out, HCONS.out, List.append_assoc]
        rfl
      case measure => simp [intOf]; omega
    · have hqe : fr + q = P.length := by omega
      have HCE : Hid (cs = rs ++ rowsC P (preL P ix) (k + 1) (P.drop fr)) := by
        show _ = _
        rw [← hcs, hqe, List.drop_length, rowsC_nil, List.append_nil]
      clear hs hR hrs hrow hg hcs
      have hqJ : (q : Int) = (P.length : Int) - (fr : Int) := by omega
      have hqK : decide ((q : Int) < (P.length : Int) - (fr : Int)) = false := by simp; omega
      clear hqJ
      go_wp2
      go_end0
      exact ⟨rfl, HS2.out, cv, g, HR2.out, by rw [← HCE.out]; exact HRS2.out, HRW2.out, HG.out⟩

theorem fill_any : ∀ k, FillSaid k
  | 0 => fill_zero
  | k + 1 => fill_succ k (fill_any k)

end Go.Proofs.Ytfbgcfbafnmahaa
