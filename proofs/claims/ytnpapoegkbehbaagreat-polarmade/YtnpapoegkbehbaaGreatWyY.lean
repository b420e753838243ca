import Derived.Test.YtnpapoegkbehbaaGreatWiA
import Derived.Test.YtnpapoegkbehbaaGreatOwnA
import Derived.Test.YtnpapoegkbehbaaGreatOfAll
import Derived.Test.YtnpapoegkbehbaaGreatRowA
import Derived.Test.YtnpapoegkbehbaaGreatLinAll
/- The least of a list. -/
namespace Go.Proofs.YtnpapoegkbehbaaGreat
open Go.RowKit

def lowB (x : Int) : Bool := decide (x ≤ 0)

theorem min_if (m z : Int) : (if z < m then z else m) = min m z := by split <;> omega

theorem low_snoc {zs : List Int} {k : Nat} {m : Int} (hk : k < zs.length) (h : decide (m ≤ 0) = (zs.take k).any lowB) : decide (min m (zs.getD k 0) ≤ 0) = (zs.take (k + 1)).any lowB := by
  rw [List.take_succ_eq_append_getElem hk, List.any_append, ← h]
  simp only [List.any_cons, List.any_nil, Bool.or_false, lowB]
  rw [Bool.eq_iff_iff]
  simp only [decide_eq_true_eq, Bool.or_eq_true, List.getD_eq_getElem?_getD, List.getElem?_eq_getElem hk, Option.getD_some]
  omega

end Go.Proofs.YtnpapoegkbehbaaGreat

/- cone.wayBy: rows laid across; the one way by just these rows. -/
namespace Go.Proofs.YtnpapoegkbehbaaGreat
open Go.RowKit
attribute [local go_sem ↓] Go.wp_at_zero Go.wp_at_succ

def acrR (rs : List (List Int)) (g : List Int) (i : Nat) : List Int := rs.map (fun r => r.getD i 0) ++ [-(g.getD i 0)]
def acrL (g : List Int) (rs : List (List Int)) : List (List Int) := (List.range g.length).map (acrR rs g)
def wayN (g : List Int) (rs : List (List Int)) : List Int := normL (rs.length + 1) (acrL g rs)
/-- Is there just one way, above 0 of each? -/
def wayB (g : List Int) (rs : List (List Int)) : Bool := normB (rs.length + 1) (acrL g rs) && !(wayN g rs).any lowB

theorem acrL_mx {g : List Int} {rs : List (List Int)} (hr : ∀ r ∈ rs, ∀ z ∈ r, z.natAbs ≤ 60) (hg : ∀ z ∈ g, z.natAbs ≤ 60) (h4 : rs.length ≤ 4) : Mx (rs.length + 1) 60 (acrL g rs) := by
  refine ⟨fun r hr => ?_, fun r h z hz => ?_, by omega, by omega, by decide, Nat.le_trans (fb_mono (by decide) (show _ ≤ 5 by omega)) (by decide)⟩
  · simp only [acrL, List.mem_map] at hr
    obtain ⟨i, _, rfl⟩ := hr
    simp [acrR]
  · simp only [acrL, List.mem_map] at h
    obtain ⟨i, _, rfl⟩ := h
    simp only [acrR, List.mem_append, List.mem_map, List.mem_singleton] at hz
    rcases hz with ⟨r, h1, rfl⟩ | rfl
    · by_cases e : i < r.length
      · exact hr r h1 _ (by simp [e])
      · simp [List.getElem?_eq_none (Nat.le_of_not_lt e)]
    · by_cases e : i < g.length
      · have := hg (g.getD i 0) (by simp [e])
        omega
      · simp [List.getElem?_eq_none (Nat.le_of_not_lt e)]

/-- Rows being laid, in the cells of block G. -/
structure Ac (w0 : World) (G n k : Nat) (m : List (List Int)) (f : Nat → Value) (w : World) : Prop where
  bel : Below w0.heap.size w0 w
  hG : w0.heap.size ≤ G
  row : w.rowIs G 22 n f
  done : ∀ j, j < k → Sl 0 3 w (f j) (ints (m.getD j []))
  free : ∀ j, k ≤ j → j < n → f j = .slice none 0 0

theorem Ac.lt {w0 w : World} {G n k : Nat} {m : List (List Int)} {f : Nat → Value} (h : Ac w0 G n k m f w) : G < w.heap.size := by
  obtain ⟨c, h1, _⟩ := h.row
  exact (Array.getElem?_eq_some_iff.1 h1).1

theorem rowIs_lt {w : World} {G n : Nat} {t : TypeId} {f : Nat → Value} (h : w.rowIs G t n f) : G < w.heap.size := by
  obtain ⟨c, h1, _⟩ := h
  exact (Array.getElem?_eq_some_iff.1 h1).1

theorem sl_chg {w w' : World} {v : Value} {xs : List Value} {cur : Array Value} {G : Nat} (h : Sl 0 3 w v xs) (hc : Chg (fun b => b = G) w w') (hG : w.heap[G]? = some (.cells cur 22 (0, 0))) : Sl 0 3 w' v xs :=
  h.move fun b hl ht => ⟨hc.block b hl (fun e => by
    subst e
    rcases ht with ht | ⟨c, ht⟩
    · omega
    · rw [hG] at ht; simp at ht), ht⟩

/-- Within one row: t numbers are there. -/
structure Ai (wa : World) (G n k t : Nat) (f : Nat → Value) (l : List Int) (cur : Value) (w : World) : Prop where
  chg : Chg (fun b => b = G) wa w
  row : w.rowIs G 22 n (fun j => if j = k then cur else f j)
  own : w.ownsRow wa.heap.size 3 1 cur t (ints l)
  len : l.length = t

theorem Ai.push {wa w w3 : World} {G n k t : Nat} {f : Nat → Value} {l : List Int} {cur v' : Value} {z : Int} (h : Ai wa G n k t f l cur w) (hG : G < wa.heap.size) (hk : k < n)
    (ho : w3.ownsRow wa.heap.size 3 1 v' (t + 1) (ints l ++ [.int .i64 z])) (hg : (w.alloc (.cells #[.int .i64 z] 3)).grownBy w3 cur.ownBlock) :
    w3.cell? ⟨G, k, none⟩ = some cur ∧ w3.frozen? ⟨G, k, none⟩ = false ∧ Ai wa G n k (t + 1) f (l ++ [z]) v' (w3.setCell ⟨G, k, none⟩ v') := by
  have hs := h.chg.size
  have hbl : ∀ b, b < wa.heap.size → w3.heap[b]? = w.heap[b]? := fun b hb => by
    rw [hg.block b (by simp; omega) (fun e => by have := (h.own.lt b e.symm).1; omega)]
    exact Below.heap_alloc _ _ _ (by omega)
  have hr3 : w3.rowIs G 22 n (fun j => if j = k then cur else f j) := by
    obtain ⟨c, h1, h2, h3⟩ := h.row
    exact ⟨c, (hbl G hG).trans h1, h2, h3⟩
  refine ⟨?_, hr3.frozen k, ?_, ?_, ?_, ?_⟩
  · have := hr3.cell (i := k) hk
    simpa using this
  · have g0 := hg.size
    simp at g0
    refine Chg.setCell ⟨(hg.os).trans h.chg.os, (hg.tape).trans h.chg.tape, (hg.output).trans h.chg.output, by omega, fun b hb hn => (hbl b hb).trans (h.chg.block b hb hn)⟩ rfl _
  · have := hr3.set k v'
    refine cast ?_ this
    congr 1
    funext j
    by_cases e : j = k <;> simp [e]
  · rw [← ints_snoc]
    refine ownsRow_setCell_other ho (fun e => ?_) _
    have := (ho.lt _ e).1
    simp at this
    omega
  · simp [h.len]

theorem Ac.next {W0 wa w : World} {G n k T : Nat} {m : List (List Int)} {f : Nat → Value} {l : List Int} {cur : Value} (h : Ac W0 G n k m f wa) (hi : Ai wa G n k T f l cur w) (hm : m.getD k [] = l) :
    Ac W0 G n (k + 1) m (fun j => if j = k then cur else f j) w := by
  have hb := h.bel
  have hG := h.hG
  obtain ⟨cur0, h1, _⟩ := h.row
  refine ⟨⟨hi.chg.os.trans hb.os, hi.chg.tape.trans hb.tape, hi.chg.output.trans hb.output, Nat.le_trans hb.size hi.chg.size, fun b hlt => (hi.chg.block b (by have := hb.size; omega) (by omega)).trans (hb.block b hlt)⟩, hG, hi.row, fun j hj => ?_, fun j h1 h2 => ?_⟩
  · by_cases e : j = k
    · subst e
      simp only [if_true]
      rw [hm]
      exact Sl.own hi.own
    · simp only [e, if_false]
      exact sl_chg (h.done j (by omega)) hi.chg h1
  · simp only [show j ≠ k by omega, if_false]
    exact h.free j (by omega) h2

theorem Sl.cut {B n c : Nat} {w : World} {a : Addr} {zs : List Int} (h : Sl B 3 w (.slice (some a) zs.length c) (ints zs)) (hn : n ≤ zs.length) : Sl B 3 w (.slice (some a) n n) (ints (zs.take n)) := by
  obtain ⟨bo, cap, hv, h1, h2, h3, h4⟩ := h
  simp only [Value.slice.injEq] at hv
  obtain ⟨rfl, _, rfl⟩ := hv
  simp at h1
  refine ⟨some a, n, by simp; omega, by simp; omega, by omega, fun i hi => ?_, fun h => by cases h⟩
  have hi' : i < n := by simp at hi; omega
  obtain ⟨b, o, ha, hc, ht⟩ := h3 i (by simp; omega)
  refine ⟨b, o, ha, ?_, ht⟩
  rw [hc, ints_get _ _ (by omega), ints_get _ _ (by simp; omega)]
  simp [hi']

/-- Three cells of a block of another type are set. -/
theorem sl_set3 {w : World} {R : Nat} {t : TypeId} {cur : Array Value} {v : Value} {xs : List Value} (h : Sl 0 3 w v xs) (hR : w.heap[R]? = some (.cells cur t (0, 0))) (ht : t ≠ 3) (a b c : Value) :
    Sl 0 3 (((w.setCell ⟨R, 0, none⟩ a).setCell ⟨R, 1, none⟩ b).setCell ⟨R, 2, none⟩ c) v xs :=
  h.move fun k hl hk => ⟨by
    have hne : k ≠ R := fun e => by
      subst e
      rcases hk with hk | ⟨c, hk⟩
      · omega
      · rw [hR] at hk; simp at hk; exact ht hk.2
    rw [Below.heap_setCell _ _ _ _ hne, Below.heap_setCell _ _ _ _ hne, Below.heap_setCell _ _ _ _ hne], hk⟩

theorem Ac.mat {W0 w : World} {G : Nat} {g : List Int} {rs : List (List Int)} {f : Nat → Value} {B : Nat} (h : Ac W0 G g.length g.length (acrL g rs) f w) (h5 : g.length ≤ 5) : Mat B 22 3 w (.slice (some ⟨G, 0, none⟩) g.length g.length) (acrL g rs) := by
  have hl : (acrL g rs).length = g.length := by simp [acrL]
  refine ⟨(List.range g.length).map f, by simp [hl], Sl.row h.row (by simp) (by unfold maxLen; omega) (fun i hi => by simp [hi]), fun i hi => ?_⟩
  rw [hl] at hi
  have e : ((List.range g.length).map f).getD i (.slice none 0 0) = f i := by simp [hi]
  rw [e]
  exact (h.done i hi).more (Nat.zero_le _)

end Go.Proofs.YtnpapoegkbehbaaGreat

/- The normal of rows: what it is, and when there is one; a way by rows. -/

namespace Go.Proofs.YtnpapoegkbehbaaGreat
open Lin

def V (l : List Int) : Nat → Int := fun j => l.getD j 0

theorem V_neg (l : List Int) (i : Nat) : V (l.map fun z => -z) i = - V l i := by
  simp only [V, List.getD_eq_getElem?_getD, List.getElem?_map]
  cases l[i]? <;> simp

theorem mem_fm {m : List (List Int)} {r : Nat → Int} : r ∈ fm m ↔ ∃ l ∈ m, r = V l := by
  simp only [fm, List.mem_map]
  constructor
  · rintro ⟨l, hl, rfl⟩; exact ⟨l, hl, rfl⟩
  · rintro ⟨l, hl, rfl⟩; exact ⟨l, hl, rfl⟩

/-- The normal is so many times what the minors tell. -/
theorem norm_par {d : Nat} {m : List (List Int)} (hl : (pickL d m).length + 1 = d) : ∃ k : Int, k ≠ 0 ∧ ∀ i, i < d → mu (fm (pickL d m)) i = k * V (normL d m) i := by
  have hg := pick_greedy d m
  have hl' : (fm (pickL d m)).length + 1 = d := by rw [fm_length]; exact hl
  obtain ⟨⟨p, hp, hne⟩, _, _⟩ := greedy_one hg hl'
  have hn : normL d m = upr (low (muL d (pickL d m))) := if_pos hl
  rw [hn]
  have hat : ∀ i, i < d → V (muL d (pickL d m)) i = mu (fm (pickL d m)) i := fun i hi => by simp [V, muL, hi]
  generalize muL d (pickL d m) = l at *
  have hll : ∀ i, i < d → V l i ∈ l ∨ V l i = 0 := fun i _ => by
    by_cases h : i < l.length
    · exact Or.inl (getD_mem h)
    · right; simp only [V, List.getD_eq_getElem?_getD]; rw [List.getElem?_eq_none (by omega)]; rfl
  have hdv : ∀ i, i < d → ((gc l : Nat) : Int) ∣ V l i := fun i hi => by
    rcases hll i hi with h | h
    · exact gc_dvd h
    · rw [h]; exact Int.dvd_zero _
  have hg0 : ((gc l : Nat) : Int) ≠ 0 := by
    intro h0
    have h1 := hdv p hp
    rw [h0] at h1
    have h2 := Int.zero_dvd.1 h1
    rw [hat p hp] at h2
    exact hne h2
  have hlow : ∀ i, i < d → V l i = ((gc l : Nat) : Int) * V (low l) i := fun i hi => by
    have e : V (low l) i = V l i / ((gc l : Nat) : Int) := by
      simp only [V, low, List.getD_eq_getElem?_getD, List.getElem?_map]
      cases l[i]? <;> simp
    rw [e, Int.mul_ediv_cancel' (hdv i hi)]
  unfold upr
  split
  · refine ⟨-((gc l : Nat) : Int), by omega, fun i hi => ?_⟩
    rw [V_neg, ← hat i hi, hlow i hi]; grind
  · exact ⟨((gc l : Nat) : Int), hg0, fun i hi => by rw [← hat i hi, hlow i hi]⟩


theorem upr_first (l : List Int) : 0 ≤ ((upr l).find? (fun v => v != 0)).getD 0 := by
  unfold upr
  split
  · rename_i h
    rw [find_neg]
    omega
  · rename_i h
    omega

/-- What the normal is. -/
theorem norm_spec {d : Nat} {m : List (List Int)} (hl : (pickL d m).length + 1 = d) :
    (∃ i, i < d ∧ V (normL d m) i ≠ 0) ∧ (∀ r ∈ m, dot d (V r) (V (normL d m)) = 0) ∧ ∀ u : Nat → Int, (∀ r ∈ m, dot d (V r) u = 0) → Par d u (V (normL d m)) := by
  have hl' : (fm (pickL d m)).length + 1 = d := by rw [fm_length]; exact hl
  obtain ⟨⟨p, hp, hne⟩, h1, h2⟩ := greedy_one (pick_greedy d m) hl'
  obtain ⟨k, hk, hmu⟩ := norm_par hl
  refine ⟨⟨p, hp, fun e => hne (by rw [hmu p hp, e, Int.mul_zero])⟩, fun r hr => ?_, fun u hu i j hi hj => ?_⟩
  · have h := h1 (V r) (mem_fm.2 ⟨r, hr, rfl⟩)
    have e : dot d (V r) (mu (fm (pickL d m))) = k * dot d (V r) (V (normL d m)) := by
      unfold dot
      rw [← sumN_mul]
      exact sumN_congr fun i hi => by rw [hmu i hi]; grind
    rw [e] at h
    exact (Int.mul_eq_zero.1 h).resolve_left hk
  · have h := h2 u (fun r hr => by
      obtain ⟨l, hl, rfl⟩ := mem_fm.1 hr
      exact hu l hl) i j hi hj
    rw [hmu i hi, hmu j hj] at h
    have : k * (u i * V (normL d m) j) = k * (u j * V (normL d m) i) := by grind
    exact Int.eq_of_mul_eq_mul_left hk this

/-- There is a way by just these rows: one alone, and above 0 of each. -/
theorem wayB_iff {g : List Int} {rs : List (List Int)} : wayB g rs = true ↔ ∃ a : Nat → Int, (∀ i, i < rs.length + 1 → 0 < a i) ∧ (∀ r ∈ acrL g rs, dot (rs.length + 1) (V r) a = 0) ∧
    ∀ u : Nat → Int, (∀ r ∈ acrL g rs, dot (rs.length + 1) (V r) u = 0) → Par (rs.length + 1) u a := by
  constructor
  · intro h
    unfold wayB at h
    rw [Bool.and_eq_true] at h
    obtain ⟨hb, hn⟩ := h
    have hl : (pickL (rs.length + 1) (acrL g rs)).length + 1 = rs.length + 1 := by simpa [normB] using hb
    obtain ⟨_, h1, h2⟩ := norm_spec hl
    refine ⟨V (normL (rs.length + 1) (acrL g rs)), fun i hi => ?_, h1, h2⟩
    have hlen := norm_len hb
    have hm : (normL (rs.length + 1) (acrL g rs)).getD i 0 ∈ wayN g rs := getD_mem (by unfold wayN; rw [hlen]; exact hi)
    have hn' : (wayN g rs).any lowB = false := by simpa using hn
    rw [List.any_eq_false] at hn'
    have := hn' _ hm
    simp only [lowB, decide_eq_true_eq] at this
    show 0 < (normL (rs.length + 1) (acrL g rs)).getD i 0
    omega
  · rintro ⟨a, hpos, h0, h1⟩
    have hg := pick_greedy (rs.length + 1) (acrL g rs)
    have hc := greedy_count hg (a := a) ⟨0, by omega, by have := hpos 0 (by omega); omega⟩ (fun r hr => by
      obtain ⟨l, hl, rfl⟩ := mem_fm.1 hr
      exact h0 l hl) (fun u hu => h1 u (fun r hr => hu (V r) (mem_fm.2 ⟨r, hr, rfl⟩)))
    rw [fm_length] at hc
    have hb : normB (rs.length + 1) (acrL g rs) = true := by simpa [normB] using hc
    obtain ⟨⟨p, hp, hne⟩, h2, _⟩ := norm_spec hc
    have hpar := h1 _ h2
    have hlen := norm_len hb
    have hn0 : V (normL (rs.length + 1) (acrL g rs)) 0 ≠ 0 := fun e => by
      have h3 := hpar p 0 hp (by omega)
      rw [e, Int.zero_mul] at h3
      have := hpos 0 (by omega)
      rcases Int.mul_eq_zero.1 h3 with h | h
      · exact hne h
      · omega
    have hf : 0 < V (normL (rs.length + 1) (acrL g rs)) 0 := by
      have h3 := upr_first (low (muL (rs.length + 1) (pickL (rs.length + 1) (acrL g rs))))
      have h4 : upr (low (muL (rs.length + 1) (pickL (rs.length + 1) (acrL g rs)))) = normL (rs.length + 1) (acrL g rs) := (if_pos hc).symm
      rw [h4, find_at (t := 0) (by rw [hlen]; omega) (fun i hi => absurd hi (by omega)) hn0] at h3
      have : V (normL (rs.length + 1) (acrL g rs)) 0 = (normL (rs.length + 1) (acrL g rs)).getD 0 0 := rfl
      omega
    have hall : ∀ i, i < rs.length + 1 → 0 < V (normL (rs.length + 1) (acrL g rs)) i := fun i hi => by
      have h3 := hpar i 0 hi (by omega)
      have h4 := hpos 0 (by omega)
      have h5 := hpos i hi
      have h6 : 0 < V (normL (rs.length + 1) (acrL g rs)) i * a 0 := by rw [h3]; exact Int.mul_pos hf h5
      exact Int.pos_of_mul_pos_left h6 h4
    unfold wayB
    rw [Bool.and_eq_true]
    refine ⟨hb, ?_⟩
    have : (wayN g rs).any lowB = false := by
      rw [List.any_eq_false]
      intro z hz
      obtain ⟨i, hi, rfl⟩ := List.getElem_of_mem hz
      have h3 := hall i (by unfold wayN at hi; omega)
      have h4 : V (normL (rs.length + 1) (acrL g rs)) i = (wayN g rs)[i] := by
        show (wayN g rs).getD i 0 = _
        simp [hi]
      rw [h4] at h3
      simp only [lowB, decide_eq_true_eq]
      omega
    simp [this]

end Go.Proofs.YtnpapoegkbehbaaGreat

/- What is divided by what divides all of it (pure; the same as in Pq3: not beside it). -/
namespace Go.Proofs.YtnpapoegkbehbaaGreat
open Lin

theorem gc_pos {l : List Int} {z : Int} (h : z ∈ l) (hz : z ≠ 0) : gc l ≠ 0 := fun e => by
  have := gc_dvd h
  rw [e] at this
  exact hz (by simpa using this)

theorem low_mul (l : List Int) : (low l).map ((gc l : Int) * ·) = l := by
  unfold low
  rw [List.map_map]
  have : ∀ z ∈ l, (((gc l : Int) * ·) ∘ (· / (gc l : Int))) z = z := fun z hz => by
    show (gc l : Int) * (z / (gc l : Int)) = z
    exact Int.mul_ediv_cancel' (gc_dvd hz)
  rw [List.map_congr_left this, List.map_id']

theorem gc_low {l : List Int} (h : gc l ≠ 0) : gc (low l) = 1 := by
  have e := gc_scale (gc l : Int) (low l)
  rw [low_mul] at e
  simp only [Int.natAbs_natCast] at e
  have h2 : gc l * 1 = gc l * gc (low l) := by omega
  exact (Nat.eq_of_mul_eq_mul_left (Nat.pos_of_ne_zero h) h2).symm

theorem neg_scale (l : List Int) : (l.map fun z => -z) = l.map ((-1 : Int) * ·) := List.map_congr_left fun z _ => by omega

theorem gc_neg (l : List Int) : gc (l.map fun z => -z) = gc l := by
  rw [neg_scale, gc_scale]
  simp

theorem gc_upr (l : List Int) : gc (upr l) = gc l := by
  unfold upr
  split
  · exact gc_neg l
  · rfl

theorem gc_snoc1 {l : List Int} {b : Int} (h : gc l = 1) : gc (l ++ [b]) = 1 := by
  have hd : ∀ z ∈ l, ((gc (l ++ [b]) : Nat) : Int) ∣ z := fun z hz => gc_dvd (List.mem_append_left _ hz)
  have e : (l.map (· / ((gc (l ++ [b]) : Nat) : Int))).map (((gc (l ++ [b]) : Nat) : Int) * ·) = l := by
    rw [List.map_map]
    have : ∀ z ∈ l, ((((gc (l ++ [b]) : Nat) : Int) * ·) ∘ (· / ((gc (l ++ [b]) : Nat) : Int))) z = z := fun z hz => Int.mul_ediv_cancel' (hd z hz)
    rw [List.map_congr_left this, List.map_id']
  have e2 := gc_scale ((gc (l ++ [b]) : Nat) : Int) (l.map (· / ((gc (l ++ [b]) : Nat) : Int)))
  rw [e, h] at e2
  simp only [Int.natAbs_natCast] at e2
  exact Nat.eq_one_of_mul_eq_one_right e2.symm

theorem low_one {l : List Int} (h : gc l = 1) : low l = l := by
  unfold low
  rw [h]
  simp

theorem upr_or (l : List Int) : upr l = l ∨ upr l = l.map fun z => -z := by
  unfold upr
  split
  · exact Or.inr rfl
  · exact Or.inl rfl

theorem neg_neg_map (l : List Int) : (l.map fun z => -z).map (fun z => -z) = l := by
  rw [List.map_map]
  have : ∀ z ∈ l, ((fun z : Int => -z) ∘ fun z => -z) z = z := fun z _ => Int.neg_neg z
  rw [List.map_congr_left this, List.map_id']

theorem prim_eq {x y : List Int} {a b : Int} (hx : gc x = 1) (hy : gc y = 1) (ha : a ≠ 0) (hb : b ≠ 0) (h : x.map (a * ·) = y.map (b * ·)) : x = y ∨ x = y.map fun z => -z := by
  have e := norm_eq ha hb h
  rw [low_one hx, low_one hy] at e
  rcases upr_or x with h1 | h1 <;> rcases upr_or y with h2 | h2
  · exact Or.inl (by rw [← h1, e, h2])
  · exact Or.inr (by rw [← h1, e, h2])
  · refine Or.inr ?_
    have : (x.map fun z => -z) = y := by rw [← h1, e, h2]
    rw [← this, neg_neg_map]
  · refine Or.inl ?_
    have : (x.map fun z => -z) = y.map fun z => -z := by rw [← h1, e, h2]
    rw [← neg_neg_map x, this, neg_neg_map]

theorem norm_gc {d : Nat} {m : List (List Int)} (hl : (pickL d m).length + 1 = d) : gc (normL d m) = 1 := by
  obtain ⟨⟨i, hi, hne⟩, _, _⟩ := norm_spec hl
  have hnl : normL d m = upr (low (muL d (pickL d m))) := if_pos hl
  have hmem : V (normL d m) i ∈ normL d m := by
    unfold V
    have hlen : (normL d m).length = d := norm_len (by unfold normB; exact decide_eq_true hl)
    simp [show i < (normL d m).length by omega]
  have h0 := gc_pos hmem hne
  rw [hnl, gc_upr] at h0 ⊢
  refine gc_low fun e => h0 ?_
  have hz : ∀ z ∈ muL d (pickL d m), z = 0 := fun z hz => by
    have := gc_dvd hz
    rw [e] at this
    simpa using this
  have hl0 : low (muL d (pickL d m)) = muL d (pickL d m) := by
    unfold low
    have : ∀ z ∈ muL d (pickL d m), z / ((gc (muL d (pickL d m)) : Nat) : Int) = id z := fun z h => by rw [hz z h]; simp
    rw [List.map_congr_left this, List.map_id]
  rw [hl0]
  exact e

end Go.Proofs.YtnpapoegkbehbaaGreat

/- The normal when the last column's sign is turned (pure). -/
namespace Go.Proofs.YtnpapoegkbehbaaGreat
open Lin

/-- Just one direction is 0 with all rows. -/
def OneDir (d : Nat) (m : List (List Int)) : Prop :=
  ∃ a : Nat → Int, (∃ i, i < d ∧ a i ≠ 0) ∧ (∀ r ∈ m, dot d (V r) a = 0) ∧ ∀ u : Nat → Int, (∀ r ∈ m, dot d (V r) u = 0) → Par d u a

theorem norm_one_iff {d : Nat} {m : List (List Int)} : normB d m = true ↔ OneDir d m := by
  constructor
  · intro h
    have hl : (pickL d m).length + 1 = d := by simpa [normB] using h
    obtain ⟨h0, h1, h2⟩ := norm_spec hl
    exact ⟨_, h0, h1, h2⟩
  · rintro ⟨a, h0, h1, h2⟩
    have hc := greedy_count (pick_greedy d m) (a := a) h0 (fun r hr => by
      obtain ⟨l, hl, rfl⟩ := mem_fm.1 hr
      exact h1 l hl) (fun u hu => h2 u (fun r hr => hu (V r) (mem_fm.2 ⟨r, hr, rfl⟩)))
    rw [fm_length] at hc
    simpa [normB] using hc

/-- A direction with its last number turned. -/
def turnK (n : Nat) (u : Nat → Int) : Nat → Int := fun i => if i = n then - u i else u i

theorem turnK_twice (n : Nat) (u : Nat → Int) : turnK n (turnK n u) = u := by
  funext i; unfold turnK; split <;> simp

theorem turnK_zero {n : Nat} {u : Nat → Int} {i : Nat} : turnK n u i = 0 ↔ u i = 0 := by
  unfold turnK; split <;> omega

theorem turnK_par {d n : Nat} {u a : Nat → Int} (h : Par d u a) : Par d (turnK n u) (turnK n a) := by
  intro i j hi hj
  have := h i j hi hj
  unfold turnK
  split <;> split <;> grind

/-- Two tables, the one's directions those of the other with the last number turned. -/
theorem one_turn {d n : Nat} {m m' : List (List Int)} (h : ∀ u : Nat → Int, (∀ r ∈ m, dot d (V r) u = 0) ↔ ∀ r ∈ m', dot d (V r) (turnK n u) = 0) : normB d m = normB d m' := by
  rw [Bool.eq_iff_iff, norm_one_iff, norm_one_iff]
  constructor
  · rintro ⟨a, ⟨i, hi, h0⟩, h1, h2⟩
    refine ⟨turnK n a, ⟨i, hi, fun e => h0 (turnK_zero.1 e)⟩, (h a).1 h1, fun u hu => ?_⟩
    have := h2 (turnK n u) ((h _).2 (by rw [turnK_twice]; exact hu))
    have := turnK_par (n := n) this
    rw [turnK_twice] at this
    exact this
  · rintro ⟨a, ⟨i, hi, h0⟩, h1, h2⟩
    refine ⟨turnK n a, ⟨i, hi, fun e => h0 (turnK_zero.1 e)⟩, (h _).2 (by rw [turnK_twice]; exact h1), fun u hu => ?_⟩
    have := turnK_par (n := n) (h2 _ ((h u).1 hu))
    rw [turnK_twice] at this
    exact this

/-- And so the normals are the same, but for the last number's sign and which way they look. -/
theorem norm_turn {d n : Nat} {m m' : List (List Int)} (h : ∀ u : Nat → Int, (∀ r ∈ m, dot d (V r) u = 0) ↔ ∀ r ∈ m', dot d (V r) (turnK n u) = 0) (hb : normB d m = true) :
    Par d (turnK n (V (normL d m))) (V (normL d m')) := by
  have hb' : normB d m' = true := by rw [← one_turn h]; exact hb
  have hl : (pickL d m).length + 1 = d := by simpa [normB] using hb
  have hl' : (pickL d m').length + 1 = d := by simpa [normB] using hb'
  exact (norm_spec hl').2.2 _ ((h _).1 (norm_spec hl).2.1)

/-- Number by number what the rows and, behind them, the goal have: its sign not turned. -/
def docR (rs : List (List Int)) (g : List Int) (i : Nat) : List Int := (rs ++ [g]).map fun r => r.getD i 0
def docL (g : List Int) (rs : List (List Int)) : List (List Int) := (List.range g.length).map (docR rs g)

theorem acr_dot (rs : List (List Int)) (g : List Int) (i : Nat) (u : Nat → Int) : dot (rs.length + 1) (V (acrR rs g i)) u = dot (rs.length + 1) (V (docR rs g i)) (turnK rs.length u) := by
  unfold dot
  refine sumN_congr fun j hj => ?_
  unfold V acrR docR turnK
  rw [List.map_append]
  by_cases e : j = rs.length
  · subst e
    have e1 : (rs.map (fun r => r.getD i 0) ++ [-(g.getD i 0)]).getD rs.length 0 = -(g.getD i 0) := by
      rw [List.getD_eq_getElem?_getD, List.getElem?_append_right (by simp)]; simp
    have e2 : (rs.map (fun r => r.getD i 0) ++ [g].map (fun r => r.getD i 0)).getD rs.length 0 = g.getD i 0 := by
      rw [List.getD_eq_getElem?_getD, List.getElem?_append_right (by simp)]; simp
    rw [e1, e2, if_pos rfl]
    grind
  · have e1 : (rs.map (fun r => r.getD i 0) ++ [-(g.getD i 0)]).getD j 0 = (rs.map (fun r => r.getD i 0)).getD j 0 := by
      rw [List.getD_eq_getElem?_getD, List.getElem?_append_left (by simp; omega)]; rfl
    have e2 : (rs.map (fun r => r.getD i 0) ++ [g].map (fun r => r.getD i 0)).getD j 0 = (rs.map (fun r => r.getD i 0)).getD j 0 := by
      rw [List.getD_eq_getElem?_getD, List.getElem?_append_left (by simp; omega)]; rfl
    rw [e1, e2, if_neg e]

theorem acr_turn (rs : List (List Int)) (g : List Int) (u : Nat → Int) : (∀ r ∈ acrL g rs, dot (rs.length + 1) (V r) u = 0) ↔ ∀ r ∈ docL g rs, dot (rs.length + 1) (V r) (turnK rs.length u) = 0 := by
  constructor
  · intro h r hr
    simp only [docL, List.mem_map] at hr
    obtain ⟨i, hi, rfl⟩ := hr
    rw [← acr_dot]
    exact h _ (by simp only [acrL, List.mem_map]; exact ⟨i, hi, rfl⟩)
  · intro h r hr
    simp only [acrL, List.mem_map] at hr
    obtain ⟨i, hi, rfl⟩ := hr
    rw [acr_dot]
    exact h _ (by simp only [docL, List.mem_map]; exact ⟨i, hi, rfl⟩)

/-- There is one way alone by the program's table just if there is by the document's. -/
theorem acr_norm (rs : List (List Int)) (g : List Int) : normB (rs.length + 1) (acrL g rs) = normB (rs.length + 1) (docL g rs) := one_turn (acr_turn rs g)

end Go.Proofs.YtnpapoegkbehbaaGreat
