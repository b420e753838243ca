import Derived.Test.YtnjcpkodihfmdaaGreatRun1
import Derived.Test.YtnjcpkodihfmdaaGreatOwnA
import Derived.Test.YtnjcpkodihfmdaaGreatOfAll
import Derived.Test.YtnjcpkodihfmdaaGreatRowA
import Derived.Test.YtnjcpkodihfmdaaGreatLinAll
import Derived.Test.YtnjcpkodihfmdaaGreatWhrAll
/- Is a number of a list not above 0? -/
namespace Go.Proofs.YtnjcpkodihfmdaaGreat
open Go.RowKit

def lowB (x : Int) : Bool := decide (x ≤ 0)

end Go.Proofs.YtnjcpkodihfmdaaGreat

/- cone.wayBy: rows laid across; the one way by just these rows. -/
namespace Go.Proofs.YtnjcpkodihfmdaaGreat
open Go.RowKit
attribute [local go_sem ↓] Go.wp_at_zero Go.wp_at_succ

def acrR (rs : List (List Int)) (g : List Int) (i : Nat) : List Int := rs.map (fun r => r.getD i 0) ++ [-(g.getD i 0)]
def acrL (g : List Int) (rs : List (List Int)) : List (List Int) := (List.range g.length).map (acrR rs g)
def wayN (g : List Int) (rs : List (List Int)) : List Int := normL (rs.length + 1) (acrL g rs)
/-- Is there just one way, above 0 of each? -/
def wayB (g : List Int) (rs : List (List Int)) : Bool := normB (rs.length + 1) (acrL g rs) && !(wayN g rs).any lowB

theorem acrL_mx {g : List Int} {rs : List (List Int)} (hr : ∀ r ∈ rs, ∀ z ∈ r, z.natAbs ≤ 60) (hg : ∀ z ∈ g, z.natAbs ≤ 60) (h4 : rs.length ≤ 4) : Mx (rs.length + 1) 60 (acrL g rs) := by
  refine ⟨fun r hr => ?_, fun r h z hz => ?_, by omega, by omega, by decide, Nat.le_trans (fb_mono (by decide) (show _ ≤ 5 by omega)) (by decide)⟩
  · simp only [acrL, List.mem_map] at hr
    obtain ⟨i, _, rfl⟩ := hr
    simp [acrR]
  · simp only [acrL, List.mem_map] at h
    obtain ⟨i, _, rfl⟩ := h
    simp only [acrR, List.mem_append, List.mem_map, List.mem_singleton] at hz
    rcases hz with ⟨r, h1, rfl⟩ | rfl
    · by_cases e : i < r.length
      · exact hr r h1 _ (by simp [e])
      · simp [List.getElem?_eq_none (Nat.le_of_not_lt e)]
    · by_cases e : i < g.length
      · have := hg (g.getD i 0) (by simp [e])
        omega
      · simp [List.getElem?_eq_none (Nat.le_of_not_lt e)]

/-- Rows being laid, in the cells of block G. -/
structure Ac (w0 : World) (G n k : Nat) (m : List (List Int)) (f : Nat → Value) (w : World) : Prop where
  bel : Below w0.heap.size w0 w
  hG : w0.heap.size ≤ G
  row : w.rowIs G 22 n f
  done : ∀ j, j < k → Sl 0 3 w (f j) (ints (m.getD j []))
  free : ∀ j, k ≤ j → j < n → f j = .slice none 0 0

theorem Ac.lt {w0 w : World} {G n k : Nat} {m : List (List Int)} {f : Nat → Value} (h : Ac w0 G n k m f w) : G < w.heap.size := by
  obtain ⟨c, h1, _⟩ := h.row
  exact (Array.getElem?_eq_some_iff.1 h1).1

theorem rowIs_lt {w : World} {G n : Nat} {t : TypeId} {f : Nat → Value} (h : w.rowIs G t n f) : G < w.heap.size := by
  obtain ⟨c, h1, _⟩ := h
  exact (Array.getElem?_eq_some_iff.1 h1).1

theorem sl_chg {w w' : World} {v : Value} {xs : List Value} {cur : Array Value} {G : Nat} (h : Sl 0 3 w v xs) (hc : Chg (fun b => b = G) w w') (hG : w.heap[G]? = some (.cells cur 22 (0, 0))) : Sl 0 3 w' v xs :=
  h.move fun b hl ht => ⟨hc.block b hl (fun e => by
    subst e
    rcases ht with ht | ⟨c, ht⟩
    · omega
    · rw [hG] at ht; simp at ht), ht⟩

/-- Within one row: t numbers are there. -/
structure Ai (wa : World) (G n k t : Nat) (f : Nat → Value) (l : List Int) (cur : Value) (w : World) : Prop where
  chg : Chg (fun b => b = G) wa w
  row : w.rowIs G 22 n (fun j => if j = k then cur else f j)
  own : w.ownsRow wa.heap.size 3 1 cur t (ints l)
  len : l.length = t

theorem Ai.push {wa w w3 : World} {G n k t : Nat} {f : Nat → Value} {l : List Int} {cur v' : Value} {z : Int} (h : Ai wa G n k t f l cur w) (hG : G < wa.heap.size) (hk : k < n)
    (ho : w3.ownsRow wa.heap.size 3 1 v' (t + 1) (ints l ++ [.int .i64 z])) (hg : (w.alloc (.cells #[.int .i64 z] 3)).grownBy w3 cur.ownBlock) :
    w3.cell? ⟨G, k, none⟩ = some cur ∧ w3.frozen? ⟨G, k, none⟩ = false ∧ Ai wa G n k (t + 1) f (l ++ [z]) v' (w3.setCell ⟨G, k, none⟩ v') := by
  have hs := h.chg.size
  have hbl : ∀ b, b < wa.heap.size → w3.heap[b]? = w.heap[b]? := fun b hb => by
    rw [hg.block b (by simp; omega) (fun e => by have := (h.own.lt b e.symm).1; omega)]
    exact Below.heap_alloc _ _ _ (by omega)
  have hr3 : w3.rowIs G 22 n (fun j => if j = k then cur else f j) := by
    obtain ⟨c, h1, h2, h3⟩ := h.row
    exact ⟨c, (hbl G hG).trans h1, h2, h3⟩
  refine ⟨?_, hr3.frozen k, ?_, ?_, ?_, ?_⟩
  · have := hr3.cell (i := k) hk
    simpa using this
  · have g0 := hg.size
    simp at g0
    refine Chg.setCell ⟨(hg.os).trans h.chg.os, (hg.tape).trans h.chg.tape, (hg.output).trans h.chg.output, by omega, fun b hb hn => (hbl b hb).trans (h.chg.block b hb hn)⟩ rfl _
  · have := hr3.set k v'
    refine cast ?_ this
    congr 1
    funext j
    by_cases e : j = k <;> simp [e]
  · rw [← ints_snoc]
    refine ownsRow_setCell_other ho (fun e => ?_) _
    have := (ho.lt _ e).1
    simp at this
    omega
  · simp [h.len]

theorem Ac.next {W0 wa w : World} {G n k T : Nat} {m : List (List Int)} {f : Nat → Value} {l : List Int} {cur : Value} (h : Ac W0 G n k m f wa) (hi : Ai wa G n k T f l cur w) (hm : m.getD k [] = l) :
    Ac W0 G n (k + 1) m (fun j => if j = k then cur else f j) w := by
  have hb := h.bel
  have hG := h.hG
  obtain ⟨cur0, h1, _⟩ := h.row
  refine ⟨⟨hi.chg.os.trans hb.os, hi.chg.tape.trans hb.tape, hi.chg.output.trans hb.output, Nat.le_trans hb.size hi.chg.size, fun b hlt => (hi.chg.block b (by have := hb.size; omega) (by omega)).trans (hb.block b hlt)⟩, hG, hi.row, fun j hj => ?_, fun j h1 h2 => ?_⟩
  · by_cases e : j = k
    · subst e
      simp only [if_true]
      rw [hm]
      exact Sl.own hi.own
    · simp only [e, if_false]
      exact sl_chg (h.done j (by omega)) hi.chg h1
  · simp only [show j ≠ k by omega, if_false]
    exact h.free j (by omega) h2

theorem Sl.cut {B n c : Nat} {w : World} {a : Addr} {zs : List Int} (h : Sl B 3 w (.slice (some a) zs.length c) (ints zs)) (hn : n ≤ zs.length) : Sl B 3 w (.slice (some a) n n) (ints (zs.take n)) := by
  obtain ⟨bo, cap, hv, h1, h2, h3, h4⟩ := h
  simp only [Value.slice.injEq] at hv
  obtain ⟨rfl, _, rfl⟩ := hv
  simp at h1
  refine ⟨some a, n, by simp; omega, by simp; omega, by omega, fun i hi => ?_, fun h => by cases h⟩
  have hi' : i < n := by simp at hi; omega
  obtain ⟨b, o, ha, hc, ht⟩ := h3 i (by simp; omega)
  refine ⟨b, o, ha, ?_, ht⟩
  rw [hc, ints_get _ _ (by omega), ints_get _ _ (by simp; omega)]
  simp [hi']

/-- Three cells of a block of another type are set. -/
theorem sl_set3 {w : World} {R : Nat} {t : TypeId} {cur : Array Value} {v : Value} {xs : List Value} (h : Sl 0 3 w v xs) (hR : w.heap[R]? = some (.cells cur t (0, 0))) (ht : t ≠ 3) (a b c : Value) :
    Sl 0 3 (((w.setCell ⟨R, 0, none⟩ a).setCell ⟨R, 1, none⟩ b).setCell ⟨R, 2, none⟩ c) v xs :=
  h.move fun k hl hk => ⟨by
    have hne : k ≠ R := fun e => by
      subst e
      rcases hk with hk | ⟨c, hk⟩
      · omega
      · rw [hR] at hk; simp at hk; exact ht hk.2
    rw [Below.heap_setCell _ _ _ _ hne, Below.heap_setCell _ _ _ _ hne, Below.heap_setCell _ _ _ _ hne], hk⟩

theorem Ac.mat {W0 w : World} {G : Nat} {g : List Int} {rs : List (List Int)} {f : Nat → Value} {B : Nat} (h : Ac W0 G g.length g.length (acrL g rs) f w) (h5 : g.length ≤ 5) : Mat B 22 3 w (.slice (some ⟨G, 0, none⟩) g.length g.length) (acrL g rs) := by
  have hl : (acrL g rs).length = g.length := by simp [acrL]
  refine ⟨(List.range g.length).map f, by simp [hl], Sl.row h.row (by simp) (by unfold maxLen; omega) (fun i hi => by simp [hi]), fun i hi => ?_⟩
  rw [hl] at hi
  have e : ((List.range g.length).map f).getD i (.slice none 0 0) = f i := by simp [hi]
  rw [e]
  exact (h.done i hi).more (Nat.zero_le _)

end Go.Proofs.YtnjcpkodihfmdaaGreat

/- The normal of rows: what it is, and when there is one; a way by rows. -/

namespace Go.Proofs.YtnjcpkodihfmdaaGreat
open Lin

def V (l : List Int) : Nat → Int := fun j => l.getD j 0

theorem V_neg (l : List Int) (i : Nat) : V (l.map fun z => -z) i = - V l i := by
  simp only [V, List.getD_eq_getElem?_getD, List.getElem?_map]
  cases l[i]? <;> simp

theorem mem_fm {m : List (List Int)} {r : Nat → Int} : r ∈ fm m ↔ ∃ l ∈ m, r = V l := by
  simp only [fm, List.mem_map]
  constructor
  · rintro ⟨l, hl, rfl⟩; exact ⟨l, hl, rfl⟩
  · rintro ⟨l, hl, rfl⟩; exact ⟨l, hl, rfl⟩

/-- The normal is so many times what the minors tell. -/
theorem norm_par {d : Nat} {m : List (List Int)} (hl : (pickL d m).length + 1 = d) : ∃ k : Int, k ≠ 0 ∧ ∀ i, i < d → mu (fm (pickL d m)) i = k * V (normL d m) i := by
  have hg := pick_greedy d m
  have hl' : (fm (pickL d m)).length + 1 = d := by rw [fm_length]; exact hl
  obtain ⟨⟨p, hp, hne⟩, _, _⟩ := greedy_one hg hl'
  have hn : normL d m = upr (low (muL d (pickL d m))) := if_pos hl
  rw [hn]
  have hat : ∀ i, i < d → V (muL d (pickL d m)) i = mu (fm (pickL d m)) i := fun i hi => by simp [V, muL, hi]
  generalize muL d (pickL d m) = l at *
  have hll : ∀ i, i < d → V l i ∈ l ∨ V l i = 0 := fun i _ => by
    by_cases h : i < l.length
    · exact Or.inl (getD_mem h)
    · right; simp only [V, List.getD_eq_getElem?_getD]; rw [List.getElem?_eq_none (by omega)]; rfl
  have hdv : ∀ i, i < d → ((gc l : Nat) : Int) ∣ V l i := fun i hi => by
    rcases hll i hi with h | h
    · exact gc_dvd h
    · rw [h]; exact Int.dvd_zero _
  have hg0 : ((gc l : Nat) : Int) ≠ 0 := by
    intro h0
    have h1 := hdv p hp
    rw [h0] at h1
    have h2 := Int.zero_dvd.1 h1
    rw [hat p hp] at h2
    exact hne h2
  have hlow : ∀ i, i < d → V l i = ((gc l : Nat) : Int) * V (low l) i := fun i hi => by
    have e : V (low l) i = V l i / ((gc l : Nat) : Int) := by
      simp only [V, low, List.getD_eq_getElem?_getD, List.getElem?_map]
      cases l[i]? <;> simp
    rw [e, Int.mul_ediv_cancel' (hdv i hi)]
  unfold upr
  split
  · refine ⟨-((gc l : Nat) : Int), by omega, fun i hi => ?_⟩
    rw [V_neg, ← hat i hi, hlow i hi]; grind
  · exact ⟨((gc l : Nat) : Int), hg0, fun i hi => by rw [← hat i hi, hlow i hi]⟩


theorem upr_first (l : List Int) : 0 ≤ ((upr l).find? (fun v => v != 0)).getD 0 := by
  unfold upr
  split
  · rename_i h
    rw [find_neg]
    omega
  · rename_i h
    omega

/-- What the normal is. -/
theorem norm_spec {d : Nat} {m : List (List Int)} (hl : (pickL d m).length + 1 = d) :
    (∃ i, i < d ∧ V (normL d m) i ≠ 0) ∧ (∀ r ∈ m, dot d (V r) (V (normL d m)) = 0) ∧ ∀ u : Nat → Int, (∀ r ∈ m, dot d (V r) u = 0) → Par d u (V (normL d m)) := by
  have hl' : (fm (pickL d m)).length + 1 = d := by rw [fm_length]; exact hl
  obtain ⟨⟨p, hp, hne⟩, h1, h2⟩ := greedy_one (pick_greedy d m) hl'
  obtain ⟨k, hk, hmu⟩ := norm_par hl
  refine ⟨⟨p, hp, fun e => hne (by rw [hmu p hp, e, Int.mul_zero])⟩, fun r hr => ?_, fun u hu i j hi hj => ?_⟩
  · have h := h1 (V r) (mem_fm.2 ⟨r, hr, rfl⟩)
    have e : dot d (V r) (mu (fm (pickL d m))) = k * dot d (V r) (V (normL d m)) := by
      unfold dot
      rw [← sumN_mul]
      exact sumN_congr fun i hi => by rw [hmu i hi]; grind
    rw [e] at h
    exact (Int.mul_eq_zero.1 h).resolve_left hk
  · have h := h2 u (fun r hr => by
      obtain ⟨l, hl, rfl⟩ := mem_fm.1 hr
      exact hu l hl) i j hi hj
    rw [hmu i hi, hmu j hj] at h
    have : k * (u i * V (normL d m) j) = k * (u j * V (normL d m) i) := by grind
    exact Int.eq_of_mul_eq_mul_left hk this

/-- There is a way by just these rows: one alone, and above 0 of each. -/
theorem wayB_iff {g : List Int} {rs : List (List Int)} : wayB g rs = true ↔ ∃ a : Nat → Int, (∀ i, i < rs.length + 1 → 0 < a i) ∧ (∀ r ∈ acrL g rs, dot (rs.length + 1) (V r) a = 0) ∧
    ∀ u : Nat → Int, (∀ r ∈ acrL g rs, dot (rs.length + 1) (V r) u = 0) → Par (rs.length + 1) u a := by
  constructor
  · intro h
    unfold wayB at h
    rw [Bool.and_eq_true] at h
    obtain ⟨hb, hn⟩ := h
    have hl : (pickL (rs.length + 1) (acrL g rs)).length + 1 = rs.length + 1 := by simpa [normB] using hb
    obtain ⟨_, h1, h2⟩ := norm_spec hl
    refine ⟨V (normL (rs.length + 1) (acrL g rs)), fun i hi => ?_, h1, h2⟩
    have hlen := norm_len hb
    have hm : (normL (rs.length + 1) (acrL g rs)).getD i 0 ∈ wayN g rs := getD_mem (by unfold wayN; rw [hlen]; exact hi)
    have hn' : (wayN g rs).any lowB = false := by simpa using hn
    rw [List.any_eq_false] at hn'
    have := hn' _ hm
    simp only [lowB, decide_eq_true_eq] at this
    show 0 < (normL (rs.length + 1) (acrL g rs)).getD i 0
    omega
  · rintro ⟨a, hpos, h0, h1⟩
    have hg := pick_greedy (rs.length + 1) (acrL g rs)
    have hc := greedy_count hg (a := a) ⟨0, by omega, by have := hpos 0 (by omega); omega⟩ (fun r hr => by
      obtain ⟨l, hl, rfl⟩ := mem_fm.1 hr
      exact h0 l hl) (fun u hu => h1 u (fun r hr => hu (V r) (mem_fm.2 ⟨r, hr, rfl⟩)))
    rw [fm_length] at hc
    have hb : normB (rs.length + 1) (acrL g rs) = true := by simpa [normB] using hc
    obtain ⟨⟨p, hp, hne⟩, h2, _⟩ := norm_spec hc
    have hpar := h1 _ h2
    have hlen := norm_len hb
    have hn0 : V (normL (rs.length + 1) (acrL g rs)) 0 ≠ 0 := fun e => by
      have h3 := hpar p 0 hp (by omega)
      rw [e, Int.zero_mul] at h3
      have := hpos 0 (by omega)
      rcases Int.mul_eq_zero.1 h3 with h | h
      · exact hne h
      · omega
    have hf : 0 < V (normL (rs.length + 1) (acrL g rs)) 0 := by
      have h3 := upr_first (low (muL (rs.length + 1) (pickL (rs.length + 1) (acrL g rs))))
      have h4 : upr (low (muL (rs.length + 1) (pickL (rs.length + 1) (acrL g rs)))) = normL (rs.length + 1) (acrL g rs) := (if_pos hc).symm
      rw [h4, find_at (t := 0) (by rw [hlen]; omega) (fun i hi => absurd hi (by omega)) hn0] at h3
      have : V (normL (rs.length + 1) (acrL g rs)) 0 = (normL (rs.length + 1) (acrL g rs)).getD 0 0 := rfl
      omega
    have hall : ∀ i, i < rs.length + 1 → 0 < V (normL (rs.length + 1) (acrL g rs)) i := fun i hi => by
      have h3 := hpar i 0 hi (by omega)
      have h4 := hpos 0 (by omega)
      have h5 := hpos i hi
      have h6 : 0 < V (normL (rs.length + 1) (acrL g rs)) i * a 0 := by rw [h3]; exact Int.mul_pos hf h5
      exact Int.pos_of_mul_pos_left h6 h4
    unfold wayB
    rw [Bool.and_eq_true]
    refine ⟨hb, ?_⟩
    have : (wayN g rs).any lowB = false := by
      rw [List.any_eq_false]
      intro z hz
      obtain ⟨i, hi, rfl⟩ := List.getElem_of_mem hz
      have h3 := hall i (by unfold wayN at hi; omega)
      have h4 : V (normL (rs.length + 1) (acrL g rs)) i = (wayN g rs)[i] := by
        show (wayN g rs).getD i 0 = _
        simp [hi]
      rw [h4] at h3
      simp only [lowB, decide_eq_true_eq]
      omega
    simp [this]

end Go.Proofs.YtnjcpkodihfmdaaGreat

/- Rows of choices: what they are, and that there is one for every side. -/

namespace Go.Proofs.YtnjcpkodihfmdaaGreat
open Lin

theorem dotL_eq {d : Nat} {a : List Int} (h : a.length = d) (x : List Int) : dotL a x = dot d (V a) (V x) := by subst h; rfl

theorem dot_sub (d : Nat) (c x y : Nat → Int) : dot d c (fun j => x j - y j) = dot d c x - dot d c y := by
  unfold dot
  have : sumN d (fun i => c i * (x i - y i)) = sumN d (fun i => c i * x i + (-1) * (c i * y i)) := sumN_congr fun i _ => by grind
  rw [this, sumN_add, sumN_mul]; omega

theorem dot_subL {d : Nat} (c : Nat → Int) {r b : List Int} (h : r.length = d) : dot d c (V (subL r b)) = dot d c (V r) - dot d c (V b) := by
  rw [← dot_sub]
  exact dot_congr (fun _ _ => rfl) (fun i hi => by simp only [V]; rw [subL_at (by omega)])

theorem V_take {r : List Int} {d i : Nat} (hi : i < d) : V (r.take d) i = V r i := by
  simp only [V, List.getD_eq_getElem?_getD]; rw [List.getElem?_take_of_lt hi]

/-! Choices. -/

theorem chs_sub : ∀ (k : Nat) (l t : List (List Int)), t ∈ chs k l → t.Sublist l ∧ t.length = k
  | 0, l, t, h => by simp [chs] at h; subst h; exact ⟨List.nil_sublist _, rfl⟩
  | k + 1, [], t, h => by simp [chs] at h
  | k + 1, x :: xs, t, h => by
    simp only [chs, List.mem_append, List.mem_map] at h
    rcases h with ⟨c, hc, rfl⟩ | h
    · obtain ⟨h1, h2⟩ := chs_sub k xs c hc
      exact ⟨h1.cons_cons _, by simp [h2]⟩
    · obtain ⟨h1, h2⟩ := chs_sub (k + 1) xs t h
      exact ⟨h1.cons _, h2⟩

theorem sub_chs {l t : List (List Int)} (h : t.Sublist l) : t ∈ chs t.length l := by
  induction h with
  | slnil => simp [chs]
  | cons a _ ih =>
    rename_i l1 l2 hs
    cases l1 with
    | nil => simp [chs]
    | cons b l1 =>
      simp only [List.length_cons, chs, List.mem_append]
      exact Or.inr ih
  | cons_cons a _ ih =>
    simp only [List.length_cons, chs, List.mem_append, List.mem_map]
    exact Or.inl ⟨_, ih, rfl⟩

theorem mem_rowsC {P : List (List Int)} {d : Nat} {r : List Int} : r ∈ rowsC P [] d P ↔ ∃ t, t.Sublist P ∧ t.length = d ∧ rowT t P = some r := by
  unfold rowsC
  simp only [List.mem_flatMap, List.nil_append, Option.mem_toList]
  constructor
  · rintro ⟨t, ht, hr⟩
    obtain ⟨h1, h2⟩ := chs_sub _ _ _ ht
    exact ⟨t, h1, h2, hr⟩
  · rintro ⟨t, h1, h2, hr⟩
    refine ⟨t, ?_, hr⟩
    rw [← h2]; exact sub_chs h1

/-! What the row of a choice is. -/

/-- The row: all points hold it, it fits. -/
structure RowOf (d : Nat) (P : List (List Int)) (r : List Int) : Prop where
  len : r.length = d + 1
  bd : ∀ z ∈ r.take d, z.natAbs ≤ 1000000000000
  all : ∀ x ∈ P, dot d (V r) (V x) ≤ r.getD d 0

theorem row_app {a : List Int} {b : Int} {d : Nat} (h : a.length = d) : (a ++ [b]).length = d + 1 ∧ (a ++ [b]).take d = a ∧ (a ++ [b]).getD d 0 = b ∧ ∀ i, i < d → V (a ++ [b]) i = V a i := by
  subst h
  refine ⟨by simp, by simp, by simp, fun i hi => ?_⟩
  simp only [V, List.getD_eq_getElem?_getD]; rw [List.getElem?_append_left hi]

theorem rowT_facts {d : Nat} {P t : List (List Int)} {r : List Int} (hP : Box d 30 P) (h1 : 1 ≤ d) (h5 : d ≤ 5) (ht : t.length = d) (hm : ∀ x ∈ t, x ∈ P) (hr : rowT t P = some r) : RowOf d P r := by
  have hx : Mx d 60 (diffL t) := diff_mx (fun x hx => hP x (hm x hx)) h1 h5
  unfold rowT at hr
  rw [ht] at hr
  split at hr
  · rename_i hnb
    have hl := norm_len hnb
    have hbd := norm_bd hx
    generalize normL d (diffL t) = a at *
    generalize dotL a (t.getD 0 []) = b at *
    obtain ⟨e1, e2, e3, e4⟩ := row_app (b := b) hl
    split at hr
    · rename_i hup
      simp only [Option.some.injEq] at hr
      subst hr
      refine ⟨e1, by rw [e2]; exact hbd, fun x hx => ?_⟩
      rw [e3, dot_congr e4 (fun _ _ => rfl), ← dotL_eq hl]
      have := List.any_eq_false.1 hup x hx
      simpa using this
    · split at hr
      · rename_i _ hdn
        simp only [Option.some.injEq] at hr
        subst hr
        refine ⟨by simpa using e1, ?_, fun x hx => ?_⟩
        · rw [← List.map_take, e2]
          intro z hz
          simp only [List.mem_map] at hz
          obtain ⟨y, hy, rfl⟩ := hz
          rw [Int.natAbs_neg]; exact hbd y hy
        · have e5 : ((a ++ [b]).map fun z => -z).getD d 0 = -b := by
            have := V_neg (a ++ [b]) d
            simp only [V] at this
            rw [this, e3]
          rw [e5, dot_congr (b := fun i => - V a i) (fun i hi => by rw [V_neg, e4 i hi]) (fun _ _ => rfl), dot_neg, ← dotL_eq hl]
          have := List.any_eq_false.1 hdn x hx
          simp at this
          omega
      · simp at hr
  · simp at hr

theorem rowsC_fit {d : Nat} {P P' : List (List Int)} (hP : Box d 30 P) (h1 : 1 ≤ d) (h5 : d ≤ 5) (hm : ∀ r, r ∈ P' ↔ r ∈ P) {r : List Int} (hr : r ∈ rowsC P' [] d P') : RowOf d P r := by
  obtain ⟨t, ht, hl, he⟩ := mem_rowsC.1 hr
  have hP' : Box d 30 P' := fun x hx => hP x ((hm x).1 hx)
  have h := rowT_facts hP' h1 h5 hl (fun x hx => ht.subset hx) he
  exact ⟨h.len, h.bd, fun x hx => h.all x ((hm x).2 hx)⟩

end Go.Proofs.YtnjcpkodihfmdaaGreat

/- There is a row for every side; so what lies beyond none of them is between the points. -/
namespace Go.Proofs.YtnjcpkodihfmdaaGreat
open Lin

theorem pickL_sub (c : Nat) (m : List (List Int)) : (pickL c m).Sublist m := by
  have : ∀ (m h : List (List Int)), ∃ s, s.Sublist m ∧ m.foldl (fun h r => if freeL c (h ++ [r]) then h ++ [r] else h) h = h ++ s := by
    intro m
    induction m with
    | nil => intro h; exact ⟨[], List.Sublist.refl _, by simp⟩
    | cons x m ih =>
      intro h
      rw [List.foldl_cons]
      by_cases hf : freeL c (h ++ [x]) = true
      · rw [if_pos hf]
        obtain ⟨s, hs, he⟩ := ih (h ++ [x])
        exact ⟨x :: s, hs.cons_cons _, by rw [he]; simp⟩
      · rw [if_neg hf]
        obtain ⟨s, hs, he⟩ := ih h
        exact ⟨s, hs.cons _, he⟩
  obtain ⟨s, hs, he⟩ := this m []
  unfold pickL
  rw [he]; simpa using hs

/-- For every direction of a side there is a row. -/
theorem side_some {d : Nat} {P : List (List Int)} (hP : Box d 30 P) (hspan : ∀ c : Nat → Int, (∀ y ∈ P, ∀ z ∈ P, dot d c (V y) = dot d c (V z)) → ∀ i, i < d → c i = 0) {x : List Int} (hx : x ∈ P) {c : Nat → Int} (hc : ∃ i, i < d ∧ c i ≠ 0)
    (hmax : ∀ y ∈ P, dot d c (V y) ≤ dot d c (V x)) (hone : ∀ u : Nat → Int, (∀ y ∈ P, dot d c (V y) = dot d c (V x) → dot d u (V y) = dot d u (V x)) → Par d u c) :
    ∃ r, r ∈ rowsC P [] d P ∧ r.getD d 0 = dot d (V r) (V x) ∧ ∃ s t : Int, 0 < s ∧ 0 < t ∧ ∀ i, i < d → s * c i = t * V r i := by
  -- the points of the side
  obtain ⟨T, hT⟩ : ∃ T, T = P.filter fun y => decide (dot d c (V y) = dot d c (V x)) := ⟨_, rfl⟩
  have hTs : T.Sublist P := by rw [hT]; exact List.filter_sublist
  have hTm : ∀ y, y ∈ T ↔ y ∈ P ∧ dot d c (V y) = dot d c (V x) := fun y => by rw [hT]; simp
  have hxT : x ∈ T := (hTm x).2 ⟨hx, rfl⟩
  cases T with
  | nil => simp at hxT
  | cons t0 T' =>
    have h0 := (hTm t0).1 (by simp)
    have hlen : ∀ y ∈ P, y.length = d := fun y hy => (hP y hy).1
    have hD : diffL (t0 :: T') = T'.map fun y => subL y t0 := by simp [diffL]
    obtain ⟨D, hDe⟩ : ∃ D, D = T'.map fun y => subL y t0 := ⟨_, rfl⟩
    have hsub : ∀ (u : Nat → Int) (y : List Int), y ∈ T' → dot d u (V (subL y t0)) = dot d u (V y) - dot d u (V t0) := fun u y hy =>
      dot_subL u (hlen y ((hTm y).1 (by simp [hy])).1)
    -- what is 0 with all of D is c, so many times
    have hDc : ∀ r ∈ fm D, dot d r c = 0 := fun r hr => by
      obtain ⟨l, hl, rfl⟩ := mem_fm.1 hr
      rw [hDe, List.mem_map] at hl
      obtain ⟨y, hy, rfl⟩ := hl
      rw [dot_comm, hsub c y hy, ((hTm y).1 (by simp [hy])).2, h0.2]; omega
    have hDo : ∀ u : Nat → Int, (∀ r ∈ fm D, dot d r u = 0) → Par d u c := fun u hu => by
      have h1 : ∀ y ∈ t0 :: T', dot d u (V y) = dot d u (V t0) := fun y hy => by
        rcases List.mem_cons.1 hy with rfl | hy
        · rfl
        · have := hu (V (subL y t0)) (mem_fm.2 ⟨_, by rw [hDe]; exact List.mem_map.2 ⟨y, hy, rfl⟩, rfl⟩)
          rw [dot_comm, hsub u y hy] at this
          omega
      exact hone u fun y hy he => by rw [h1 y ((hTm y).2 ⟨hy, he⟩), h1 x hxT]
    have hgr := pick_greedy d D
    have hcnt := greedy_count hgr hc hDc hDo
    rw [fm_length] at hcnt
    -- the choice
    have hps := pickL_sub d D
    rw [hDe] at hps
    obtain ⟨S, hS, hSe⟩ := List.sublist_map_iff.1 hps
    rw [← hDe] at hSe
    obtain ⟨t, ht⟩ : ∃ t, t = t0 :: S := ⟨_, rfl⟩
    have htT : t.Sublist (t0 :: T') := by rw [ht]; exact hS.cons_cons _
    have htP := htT.trans hTs
    have htl : t.length = d := by
      have := congrArg List.length hSe
      rw [List.length_map] at this
      rw [ht, List.length_cons]; omega
    have hdt : diffL t = pickL d D := by rw [hSe, ht]; simp [diffL]
    have hpo : ∀ u : Nat → Int, (∀ r ∈ fm (diffL t), dot d r u = 0) → Par d u c := fun u hu => hDo u fun r hr =>
      dot_dep (hgr.dep r hr) (fun i hi => hu _ (by rw [hdt]; exact row_mem hi))
    have hpc : ∀ r ∈ fm (diffL t), dot d r c = 0 := fun r hr => hDc r (hgr.mem r (by rw [← hdt]; exact hr))
    have hg2 := pick_greedy d (diffL t)
    have hcnt2 := greedy_count hg2 hc hpc hpo
    have hcnt3 : (pickL d (diffL t)).length + 1 = d := by rw [fm_length] at hcnt2; exact hcnt2
    have hnb : normB d (diffL t) = true := decide_eq_true hcnt3
    obtain ⟨⟨p0, hp0, hne0⟩, hmo, _⟩ := greedy_one hg2 hcnt2
    obtain ⟨k, hk, hka⟩ := norm_par hcnt3
    have hla := norm_len hnb
    obtain ⟨a, ha⟩ : ∃ a, a = normL d (diffL t) := ⟨_, rfl⟩
    rw [← ha] at hka hla
    -- the normal is c, so many times
    have hpar : Par d (mu (fm (pickL d (diffL t)))) c := hpo _ hmo
    have hap : V a p0 ≠ 0 := by
      intro h
      rw [hka p0 hp0, h] at hne0
      simp at hne0
    have hac : ∀ i, i < d → V a p0 * c i = c p0 * V a i := fun i hi => by
      have h1 := hpar p0 i hp0 hi
      rw [hka p0 hp0, hka i hi] at h1
      have h2 : k * (V a p0 * c i) = k * (c p0 * V a i) := by grind
      exact Int.eq_of_mul_eq_mul_left hk h2
    have hcp : c p0 ≠ 0 := by
      intro h
      obtain ⟨i, hi, hci⟩ := hc
      have h1 := hac i hi
      rw [h, Int.zero_mul] at h1
      rcases Int.mul_eq_zero.1 h1 with h2 | h2
      · exact hap h2
      · exact hci h2
    have hdot : ∀ v : Nat → Int, V a p0 * dot d c v = c p0 * dot d (V a) v := fun v => by
      unfold dot
      rw [← sumN_mul, ← sumN_mul]
      exact sumN_congr fun i hi => by
        have := hac i hi
        rw [← Int.mul_assoc, this, Int.mul_assoc]
    have hal : ∀ y, dotL a y = dot d (V a) (V y) := fun y => dotL_eq hla y
    have hb0 : dot d (V a) (V t0) = dot d (V a) (V x) := by
      have h1 := hdot (V t0)
      have h2 := hdot (V x)
      rw [h0.2, h2] at h1
      exact (Int.eq_of_mul_eq_mul_left hcp h1).symm
    have ht0 : t.getD 0 [] = t0 := by rw [ht]; rfl
    obtain ⟨b, hb⟩ : ∃ b, b = dotL a t0 := ⟨_, rfl⟩
    have hbx : b = dot d (V a) (V x) := by rw [hb, hal, hb0]
    have hrt : rowT t P = if (P.any fun y => decide (b < dotL a y)) = false then some (a ++ [b]) else if (P.any fun y => decide (dotL a y < b)) = false then some ((a ++ [b]).map fun z => -z) else none := by
      unfold rowT
      rw [htl, if_pos hnb, ← ha, ht0, ← hb]
    obtain ⟨e1, e2, e3, e4⟩ := row_app (b := b) hla
    have hsq : 0 < V a p0 * V a p0 := by
      rcases Int.lt_or_gt_of_ne hap with h | h
      · exact Int.mul_pos_of_neg_of_neg h h
      · exact Int.mul_pos h h
    rcases Int.lt_or_gt_of_ne (Int.mul_ne_zero hap hcp) with hs | hs
    · -- the other way
      have hge : ∀ y ∈ P, b ≤ dotL a y := fun y hy => by
        rw [hal, hbx]
        have h1 := hmax y hy
        have h2 := hdot (V y)
        have h3 := hdot (V x)
        have h4 : V a p0 * c p0 * (dot d (V a) (V y) - dot d (V a) (V x)) = V a p0 * V a p0 * (dot d c (V y) - dot d c (V x)) := by grind
        have h5 : V a p0 * V a p0 * (dot d c (V y) - dot d c (V x)) ≤ 0 := Int.mul_nonpos_of_nonneg_of_nonpos (Int.le_of_lt hsq) (by omega)
        rcases Int.lt_or_le (dot d (V a) (V y) - dot d (V a) (V x)) 0 with h6 | h6
        · have := Int.mul_pos_of_neg_of_neg hs h6; omega
        · omega
      have hdn : (P.any fun y => decide (dotL a y < b)) = false := by
        rw [List.any_eq_false]; intro y hy; have := hge y hy; simp; omega
      have hup : ¬ (P.any fun y => decide (b < dotL a y)) = false := by
        intro h
        have hall : ∀ y ∈ P, dot d (V a) (V y) = b := fun y hy => by
          have h1 := List.any_eq_false.1 h y hy
          have h2 := hge y hy
          simp at h1
          rw [← hal]; omega
        exact hap (hspan (V a) (fun y hy z hz => by rw [hall y hy, hall z hz]) p0 hp0)
      rw [if_neg hup, if_pos hdn] at hrt
      have e5 : ((a ++ [b]).map fun z => -z).getD d 0 = -b := by
        have := V_neg (a ++ [b]) d
        simp only [V] at this
        rw [this, e3]
      refine ⟨_, mem_rowsC.2 ⟨t, htP, htl, hrt⟩, ?_, V a p0 * V a p0, -(V a p0 * c p0), hsq, by omega, fun i hi => ?_⟩
      · rw [e5, dot_congr (b := fun i => - V a i) (fun i hi => by rw [V_neg, e4 i hi]) (fun _ _ => rfl), dot_neg, hbx]
      · rw [V_neg, e4 i hi]
        have := hac i hi
        grind
    · -- this way
      have hle : ∀ y ∈ P, dotL a y ≤ b := fun y hy => by
        rw [hal, hbx]
        have h1 := hmax y hy
        have h2 := hdot (V y)
        have h3 := hdot (V x)
        have h4 : V a p0 * c p0 * (dot d (V a) (V y) - dot d (V a) (V x)) = V a p0 * V a p0 * (dot d c (V y) - dot d c (V x)) := by grind
        have h5 : V a p0 * V a p0 * (dot d c (V y) - dot d c (V x)) ≤ 0 := Int.mul_nonpos_of_nonneg_of_nonpos (Int.le_of_lt hsq) (by omega)
        rcases Int.lt_or_le 0 (dot d (V a) (V y) - dot d (V a) (V x)) with h6 | h6
        · have := Int.mul_pos hs h6; omega
        · omega
      have hup : (P.any fun y => decide (b < dotL a y)) = false := by
        rw [List.any_eq_false]; intro y hy; have := hle y hy; simp; omega
      rw [if_pos hup] at hrt
      refine ⟨_, mem_rowsC.2 ⟨t, htP, htl, hrt⟩, ?_, V a p0 * V a p0, V a p0 * c p0, hsq, hs, fun i hi => ?_⟩
      · rw [e3, dot_congr e4 (fun _ _ => rfl), hbx]
      · rw [e4 i hi]
        have := hac i hi
        grind

/-- What does not lie flat: only 0 is one and the same with all points. -/
theorem good_span {d : Nat} {P : List (List Int)} (hg : Good d P) : ∀ c : Nat → Int, (∀ y ∈ P, ∀ z ∈ P, dot d c (V y) = dot d c (V z)) → ∀ i, i < d → c i = 0 := by
  intro c hc
  have hgr := pick_greedy d (diffL P)
  refine (greedy_full hgr).1 (by rw [fm_length]; exact hg.full) c fun r hr => ?_
  obtain ⟨l, hl, rfl⟩ := mem_fm.1 hr
  simp only [diffL, List.mem_map] at hl
  obtain ⟨y, hy, rfl⟩ := hl
  have hyP := List.mem_of_mem_drop hy
  have h0 : P.getD 0 [] ∈ P := by simp [show 0 < P.length by have := hg.n2; omega]
  rw [dot_comm, dot_subL c (hg.box y hyP).1, hc y hyP _ h0]; omega

/-- What lies beyond no row is not greater than all points, in any direction. -/
theorem rows_tell {d : Nat} {P P' : List (List Int)} (hg : Good d P) (hm : ∀ r, r ∈ P' ↔ r ∈ P) {q : List Int} (hq : ∀ r ∈ rowsC P' [] d P', dot d (V r) (V q) ≤ r.getD d 0) {x : List Int} (hx : x ∈ P) {c : Nat → Int} (hmax : ∀ y ∈ P, dot d c (V y) ≤ dot d c (V x)) :
    dot d c (V q) ≤ dot d c (V x) := by
  have hspan := good_span hg
  have hP' : Box d 30 P' := fun r hr => hg.box r ((hm r).1 hr)
  have hsub : ∀ (c : Nat → Int) (y : List Int), dot d c (fun j => V y j - V x j) = dot d c (V y) - dot d c (V x) := fun c y => dot_sub d c (V y) (V x)
  have h := cone (d := d) (Z := P.map fun y j => V y j - V x j) (v := fun j => V q j - V x j) (fun c hc i hi => by
      refine hspan c (fun y hy z hz => ?_) i hi
      have h1 := hc _ (List.mem_map.2 ⟨y, hy, rfl⟩)
      have h2 := hc _ (List.mem_map.2 ⟨z, hz, rfl⟩)
      rw [hsub] at h1 h2
      omega) (fun c hcn hle hone => by
      obtain ⟨r, hr, hrx, s, t, hs, ht, hst⟩ := side_some (P := P') (x := x) hP' (fun c hc => hspan c fun y hy z hz => hc y ((hm y).2 hy) z ((hm z).2 hz)) ((hm x).2 hx) hcn (fun y hy => by
          have := hle _ (List.mem_map.2 ⟨y, (hm y).1 hy, rfl⟩)
          rw [hsub] at this
          omega) (fun u hu => hone u fun z hz h0 => by
          obtain ⟨y, hy, rfl⟩ := List.mem_map.1 hz
          rw [hsub] at h0 ⊢
          have := hu y ((hm y).2 hy) (by omega)
          omega)
      have h1 := hq r hr
      rw [hsub]
      have h2 : s * (dot d c (V q) - dot d c (V x)) = t * (dot d (V r) (V q) - dot d (V r) (V x)) := by
        rw [← dot_sub, ← dot_sub]
        unfold dot
        rw [← sumN_mul, ← sumN_mul]
        exact sumN_congr fun i hi => by rw [← Int.mul_assoc, hst i hi, Int.mul_assoc]
      have h3 : t * (dot d (V r) (V q) - dot d (V r) (V x)) ≤ 0 := Int.mul_nonpos_of_nonneg_of_nonpos (Int.le_of_lt ht) (by omega)
      rcases Int.lt_or_le 0 (dot d c (V q) - dot d c (V x)) with h4 | h4
      · have := Int.mul_pos hs h4; omega
      · exact h4) _ c (Nat.le_refl _) (fun z hz => by
      obtain ⟨y, hy, rfl⟩ := List.mem_map.1 hz
      rw [hsub]
      have := hmax y hy
      omega)
  rw [hsub] at h
  omega

end Go.Proofs.YtnjcpkodihfmdaaGreat
