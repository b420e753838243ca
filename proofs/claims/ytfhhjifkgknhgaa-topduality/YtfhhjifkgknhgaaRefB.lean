import Derived.Test.YtfhhjifkgknhgaaRefA
import Derived.Test.YtfhhjifkgknhgaaLinAll
/- The document's answer: determinants by all orders of columns. -/
namespace Go.Proofs.Ytfhhjifkgknhgaa
open Go.RowKit
attribute [local go_sem ↓] Go.wp_at_zero Go.wp_at_succ

theorem Try.info4 : (Try.prog.info? 4).map (fun i => (i.zero, i.size, i.bytes)) = some (some (.bool false), 1, 1) := by kernel_rfl

/-- A list of lists as rows of numbers. -/
def fm (m : List (List Int)) : List (Nat → Int) := m.map fun l j => l.getD j 0

/-- What is held of the matrix. -/
structure Sq (n Bd : Nat) (m : List (List Int)) : Prop where
  len : m.length = n
  row : ∀ r ∈ m, n ≤ r.length
  bd : ∀ r ∈ m, ∀ j, j < n → (r.getD j 0).natAbs ≤ Bd
  small : Lin.fb Bd n ≤ 1152921504606846976
  n64 : n ≤ 64
  pos : 1 ≤ Bd

theorem fb_mono {Bd : Nat} (h : 1 ≤ Bd) : ∀ {a b : Nat}, a ≤ b → Lin.fb Bd a ≤ Lin.fb Bd b := by
  intro a b hab
  induction b with
  | zero => have : a = 0 := by omega
            subst this; exact Nat.le_refl _
  | succ b ih =>
    by_cases e : a = b + 1
    · subst e; exact Nat.le_refl _
    · have := ih (by omega)
      simp only [Lin.fb]
      have h2 : 1 * Lin.fb Bd b ≤ (b + 1) * Bd * Lin.fb Bd b := Nat.mul_le_mul_right _ (Nat.mul_pos (by omega) (by omega))
      omega

theorem bool_restored {w w3 : World} {g n : Nat} {t : TypeId} {f : Nat → Value} (h : w.rowIs g t n f) (h3 : w3.rowIs g t n f) (ho : w3.os = w.os) (ht : w3.tape = w.tape) (hp : w3.output = w.output) (hs : w.heap.size ≤ w3.heap.size)
    (hb : ∀ b, b < w.heap.size → b ≠ g → w3.heap[b]? = w.heap[b]?) : Below w.heap.size w w3 := by
  refine ⟨ho, ht, hp, hs, fun b hb' => ?_⟩
  by_cases e : b = g
  · subst e
    obtain ⟨c, h1, h2, h4⟩ := h
    obtain ⟨c', h1', h2', h4'⟩ := h3
    rw [h1, h1']
    have : c = c' := by
      apply Array.ext
      · omega
      · intro i hi hi'
        have a1 := h4 i (by omega)
        have a2 := h4' i (by omega)
        rw [Array.getElem?_eq_getElem hi] at a1
        rw [Array.getElem?_eq_getElem hi'] at a2
        simp at a1 a2
        rw [a1, a2]
    rw [this]
  · exact hb b hb' e

theorem rowIs_below {w w' : World} {b N n : Nat} {t : TypeId} {f : Nat → Value} (h : w.rowIs b t n f) (hb : Below N w w') (hN : w.heap.size ≤ N) : w'.rowIs b t n f :=
  h.of_block (hb.block b (Nat.lt_of_lt_of_le h.lt hN))

theorem Mat.setCell {B : Nat} {e2 e1 t : TypeId} {w : World} {v u : Value} {m : List (List Int)} {g k n : Nat} {f : Nat → Value} (h : Mat B e2 e1 w v m) (hr : w.rowIs g t n f) (hg : B ≤ g) (h1 : t ≠ e1) (h2 : t ≠ e2) : Mat B e2 e1 (w.setCell ⟨g, k, none⟩ u) v m := by
  obtain ⟨c, hc, _⟩ := hr
  obtain ⟨vs, q1, q2, q3⟩ := h
  have z : ∀ e, t ≠ e → ∀ cur, w.heap[g]? ≠ some (.cells cur e (0, 0)) := by
    intro e he cur; rw [hc]; simp; intro _ hh; exact absurd hh he
  exact ⟨vs, q1, q2.setCell _ ⟨hg, z e2 h2⟩, fun i hi => (q3 i hi).setCell _ ⟨hg, z e1 h1⟩⟩

/-- One row of choices: of the first k columns. -/
def rowSum (n : Nat) (r : Nat → Int) (rs : List (Nat → Int)) (U : Nat → Bool) (k : Nat) : Int :=
  Lin.sumN k fun j => if U j then 0 else Lin.sg n U j * r j * Lin.od n rs (Lin.ins U j)

theorem rowSum_succ (n : Nat) (r : Nat → Int) (rs : List (Nat → Int)) (U : Nat → Bool) (k : Nat) :
    rowSum n r rs U (k + 1) = rowSum n r rs U k + if U k then 0 else Lin.sg n U k * r k * Lin.od n rs (Lin.ins U k) := rfl

theorem cu_mono {U : Nat → Bool} {a b : Nat} (h : a ≤ b) : Lin.cu a U ≤ Lin.cu b U := by
  induction b with
  | zero => have : a = 0 := by omega
            subst this; exact Nat.le_refl _
  | succ b ih =>
    by_cases e : a = b + 1
    · subst e; exact Nat.le_refl _
    · have := ih (by omega); simp only [Lin.cu]; omega

theorem rowSum_bd {n Bd k : Nat} {r : Nat → Int} {rs : List (Nat → Int)} {U : Nat → Bool} (hr : ∀ j, j < n → (r j).natAbs ≤ Bd) (hrs : ∀ x ∈ rs, ∀ j, j < n → (x j).natAbs ≤ Bd) (hc : Lin.cu n U ≤ rs.length + 1) (hk : k ≤ n) :
    (rowSum n r rs U k).natAbs ≤ Lin.fb Bd (rs.length + 1) := by
  unfold rowSum
  refine Nat.le_trans (Lin.sum_bd (b := Bd * Lin.fb Bd rs.length) fun j hj hU => ?_) ?_
  · rw [Int.natAbs_mul, Int.natAbs_mul, Lin.sg_abs, Nat.one_mul]
    exact Nat.mul_le_mul (hr j (by omega)) (Lin.od_bd rs _ hrs (by have := Lin.cu_ins (n := n) (by omega) hU; omega))
  · have h1 := cu_mono (U := U) hk
    simp only [Lin.fb]
    rw [Nat.mul_assoc]; exact Nat.mul_le_mul_right _ (by omega)

theorem term_bd {n Bd j : Nat} {r : Nat → Int} {rs : List (Nat → Int)} {U : Nat → Bool} (hr : ∀ j, j < n → (r j).natAbs ≤ Bd) (hrs : ∀ x ∈ rs, ∀ j, j < n → (x j).natAbs ≤ Bd) (hc : Lin.cu n U ≤ rs.length + 1) (hj : j < n) (hU : U j = false) :
    (Lin.od n rs (Lin.ins U j)).natAbs ≤ Lin.fb Bd rs.length ∧ (r j * Lin.od n rs (Lin.ins U j)).natAbs ≤ Lin.fb Bd (rs.length + 1) := by
  have h1 := Lin.od_bd (n := n) (B := Bd) rs (Lin.ins U j) hrs (by have := Lin.cu_ins (n := n) hj hU; omega)
  refine ⟨h1, ?_⟩
  rw [Int.natAbs_mul]
  have h2 := Nat.mul_le_mul (hr j hj) h1
  simp only [Lin.fb]
  have h3 : 1 * (Bd * Lin.fb Bd rs.length) ≤ (rs.length + 1) * (Bd * Lin.fb Bd rs.length) := Nat.mul_le_mul_right _ (by omega)
  rw [Nat.mul_assoc]; omega

theorem fm_drop {m : List (List Int)} {i : Nat} (h : i < m.length) : fm (m.drop i) = (fun j => (m.getD i []).getD j 0) :: fm (m.drop (i + 1)) := by
  have e : m.drop i = m[i] :: m.drop (i + 1) := (List.getElem_cons_drop (h := h)).symm
  rw [e, show m.getD i [] = m[i] by simp [h]]
  rfl

theorem sl_off {B : Nat} {e t : TypeId} {w : World} {b o n c g k : Nat} {xs : List Value} {f : Nat → Value} (h : Sl B e w (.slice (some ⟨b, o, none⟩) n c) xs) (hp : 0 < xs.length) (hr : w.rowIs g t k f) (hg : B ≤ g) (hne : t ≠ e) : b ≠ g := by
  obtain ⟨ao, cap, hv, _, _, h3, _⟩ := h
  obtain ⟨b', o', hb, _, ht⟩ := h3 0 hp
  simp only [Value.slice.injEq] at hv
  obtain ⟨rfl, _, _⟩ := hv
  simp only [Option.some.injEq, Addr.mk.injEq] at hb
  obtain ⟨rfl, _, _⟩ := hb
  rintro rfl
  rcases ht with ht | ⟨cur, ht⟩
  · omega
  · obtain ⟨c', hc, _⟩ := hr
    rw [hc] at ht
    simp at ht
    exact hne ht.2

theorem mat_off {B : Nat} {w : World} {v : Value} {m : List (List Int)} {g n : Nat} {f : Nat → Value} (h : Mat B 22 3 w v m) {k : Nat} (hk : k < m.length) (hp : 0 < (m.getD k []).length) (hr : w.rowIs g 4 n f) (hg : B ≤ g) :
    ∃ b o cap b2 o2 cap2, v = .slice (some ⟨b, o, none⟩) m.length cap ∧ w.cell? ⟨b, o + k, none⟩ = some (.slice (some ⟨b2, o2, none⟩) (m.getD k []).length cap2) ∧ b ≠ g ∧ b2 ≠ g ∧ (m.getD k []).length ≤ cap2 ∧
      ∀ j, j < (m.getD k []).length → w.cell? ⟨b2, o2 + j, none⟩ = some (.int .i64 ((m.getD k []).getD j 0)) := by
  have h' := h
  obtain ⟨vs, q1, q2, q3⟩ := h'
  obtain ⟨b, o, cap, u, hv, hc1, hcc, hu⟩ := mat_cell h hk
  have hu' := hu
  obtain ⟨b2, o2, cap2, hv2, hc2, _, hcell⟩ := hu'.at (by simpa using hp)
  simp only [ints_length] at hv2 hc2 hcell
  subst hv hv2
  refine ⟨b, o, cap, b2, o2, cap2, rfl, hcc, sl_off q2 (by omega) hr hg (by decide), sl_off hu (by simpa using hp) hr hg (by decide), hc2, fun j hj => ?_⟩
  rw [hcell j hj, ints_get _ _ hj]

theorem restore {w wa w2 : World} {g k n : Nat} {U : Nat → Bool} (hk : k < n) (hU : U k = false) (h : w.rowIs g 4 n (fun j => .bool (U j))) (hb : Below w.heap.size w wa) (ha : wa.rowIs g 4 n (fun j => .bool (U j)))
    (h2 : Below (wa.setCell ⟨g, k, none⟩ (.bool true)).heap.size (wa.setCell ⟨g, k, none⟩ (.bool true)) w2) :
    w2.cell? ⟨g, k, none⟩ = some (.bool true) ∧ w2.frozen? ⟨g, k, none⟩ = false ∧ Below w.heap.size w (w2.setCell ⟨g, k, none⟩ (.bool false)) := by
  have hsz : (wa.setCell ⟨g, k, none⟩ (.bool true)).heap.size = wa.heap.size := by simp [World.setCell]
  have h3 : w2.rowIs g 4 n (fun j => if j = k then .bool true else .bool (U j)) := rowIs_below (ha.set k (.bool true)) h2 (Nat.le_refl _)
  refine ⟨?_, h3.frozen k, ?_⟩
  · have := h3.cell hk; simpa using this
  · have h4 : (w2.setCell ⟨g, k, none⟩ (.bool false)).rowIs g 4 n (fun j => .bool (U j)) := by
      refine (h3.set k (.bool false)).congr fun j hj => ?_
      by_cases e : j = k
      · subst e; simp [hU]
      · simp [e]
    refine bool_restored h h4 (h2.os.trans hb.os) (h2.tape.trans hb.tape) (h2.output.trans hb.output) ?_ fun b hb' hne => ?_
    · have a1 := hb.size
      have a2 := h2.size
      have a3 : (w2.setCell ⟨g, k, none⟩ (.bool false)).heap.size = w2.heap.size := by simp [World.setCell]
      omega
    · have a1 := hb.size
      rw [Below.heap_setCell _ _ _ _ hne, h2.block b (by omega), Below.heap_setCell _ _ _ _ hne]
      exact hb.block b hb'

theorem keep2 {wa W w2 : World} {g k : Nat} {u v1 v2 : Value} {a1 a2 : Addr} (hb : Below W.heap.size W w2) (h1 : a1.block ≠ g) (h2 : a2.block ≠ g) (c1 : wa.cell? a1 = some v1) (c2 : wa.cell? a2 = some v2)
    (hW : W.heap = (wa.setCell ⟨g, k, none⟩ u).heap := by rfl) : Hid (w2.cell? a1 = some v1 ∧ w2.cell? a2 = some v2) := by
  have hs : W.heap.size = wa.heap.size := by rw [hW]; simp [World.setCell]
  have l1 := World.block_lt_of_cell? wa a1 c1
  have l2 := World.block_lt_of_cell? wa a2 c2
  have e : ∀ a : Addr, a.block ≠ g → W.cell? a = wa.cell? a := by
    intro a ha
    refine World.cell?_of_block (w := wa) ?_
    rw [hW]; exact Below.heap_setCell _ _ _ _ ha
  exact ⟨(hb.cell (by omega)).trans ((e a1 h1).trans c1), (hb.cell (by omega)).trans ((e a2 h2).trans c2)⟩

theorem sgn_cases (n : Nat) (U : Nat → Bool) (k : Nat) {s : Int} (hs : s = 1 ∨ s = -1) : s * Lin.sg n U k = 1 ∨ s * Lin.sg n U k = -1 := by
  have := Lin.sg_abs n U k
  rcases hs with rfl | rfl <;> omega

/-- The determinant of a square. -/
def detL (m : List (List Int)) : Int := Lin.od m.length (fm m) fun _ => false

end Go.Proofs.Ytfhhjifkgknhgaa

/- The document's answer: are rows free? -/
namespace Go.Proofs.Ytfhhjifkgknhgaa
open Go.RowKit

/-- What is held of rows of c numbers. -/
structure Mx (c Bd : Nat) (m : List (List Int)) : Prop where
  row : ∀ r ∈ m, r.length = c
  bd : ∀ r ∈ m, ∀ z ∈ r, z.natAbs ≤ Bd
  c5 : c ≤ 5
  c1 : 1 ≤ c
  pos : 1 ≤ Bd
  small : Lin.fb Bd c ≤ 1152921504606846976

theorem chosen_mem : ∀ k n q, q ∈ chosenL k n → (∀ i, i < k → 0 ≤ q.getD i 0 ∧ q.getD i 0 < (n : Int)) ∧ ∀ i j, i < j → j < k → q.getD i 0 < q.getD j 0 := by
  intro k
  induction k with
  | zero => intro n q h; exact ⟨fun i hi => by omega, fun i j _ hj => by omega⟩
  | succ k ih =>
    intro n q h
    simp only [chosenL, List.mem_flatMap, List.mem_map, List.mem_range'_1] at h
    obtain ⟨v, hv, l, hl, rfl⟩ := h
    have hll := chosen_row k v l hl
    obtain ⟨h1, h2⟩ := ih v l hl
    have e1 : ∀ i, i < k → (l ++ [(v : Int)]).getD i 0 = l.getD i 0 := by
      intro i hi; simp only [List.getD_eq_getElem?_getD]; rw [List.getElem?_append_left (by omega)]
    have e2 : (l ++ [(v : Int)]).getD k 0 = v := by
      simp only [List.getD_eq_getElem?_getD]; rw [List.getElem?_append_right (by omega)]; simp [hll]
    refine ⟨fun i hi => ?_, fun i j hij hj => ?_⟩
    · by_cases e : i < k
      · rw [e1 i e]; have := h1 i e; omega
      · rw [show i = k by omega, e2]; omega
    · by_cases e : j < k
      · rw [e1 i (by omega), e1 j e]; exact h2 i j hij e
      · rw [show j = k by omega, e2, e1 i (by omega)]; exact (h1 i (by omega)).2

theorem chosen_all : ∀ k n K, Lin.Rising k n K → ((List.range k).map fun i => (K i : Int)) ∈ chosenL k n := by
  intro k
  induction k with
  | zero => intro n K _; simp [chosenL]
  | succ k ih =>
    intro n K h
    simp only [chosenL, List.mem_flatMap, List.mem_map, List.mem_range'_1]
    have hk : k ≤ K k := by
      have : ∀ i, i < k + 1 → i ≤ K i := by
        intro i
        induction i with
        | zero => intro _; omega
        | succ i ii => intro hi; have := ii (by omega); have := h.1 i (i + 1) (by omega) hi; omega
      exact this k (by omega)
    refine ⟨K k, ⟨hk, by have := h.2 k (by omega); omega⟩, _, ih (K k) K ⟨fun i j hij hj => h.1 i j hij (by omega), fun i hi => h.1 i k hi (by omega)⟩, ?_⟩
    simp [List.range_succ]

def freeL (c : Nat) (m : List (List Int)) : Bool := m.length == 0 || (decide (m.length ≤ c) && (chosenL m.length c).any fun q => detL (colsL m q) != 0)

def toK (q : List Int) : Nat → Nat := fun i => (q.getD i 0).toNat

theorem det_cols {m : List (List Int)} {q : List Int} (hq : q.length = m.length) : detL (colsL m q) = Lin.od (fm m).length (Lin.cols (fm m) (toK q)) fun _ => false := by
  unfold detL
  rw [colsL_length, show (fm m).length = m.length by simp [fm]]
  refine Lin.od_congr (by simp [fm, colsL, Lin.cols]) (fun i hi j hj => ?_) _
  have hi' : i < m.length := by simpa [fm, colsL] using hi
  simp [fm, colsL, Lin.cols, hi', toK, hq, hj]

theorem toK_rising {k n : Nat} {q : List Int} (h : q ∈ chosenL k n) : Lin.Rising k n (toK q) := by
  obtain ⟨h1, h2⟩ := chosen_mem k n q h
  refine ⟨fun i j hij hj => ?_, fun i hi => ?_⟩
  · have a1 := h1 i (by omega)
    have a2 := h2 i j hij hj
    unfold toK; omega
  · have a1 := h1 i hi
    unfold toK; omega

theorem freeL_iff {c : Nat} {m : List (List Int)} : freeL c m = true ↔ Lin.FreeP c (fm m) := by
  have hfl : (fm m).length = m.length := by simp [fm]
  constructor
  · intro h
    simp only [freeL, Bool.or_eq_true, beq_iff_eq, Bool.and_eq_true, decide_eq_true_eq, List.any_eq_true] at h
    rcases h with h | ⟨_, q, hq, hd⟩
    · have : m = [] := List.eq_nil_of_length_eq_zero h
      subst this
      exact ⟨id, ⟨fun _ _ _ h => absurd h (by simp [fm]), fun _ h => absurd h (by simp [fm])⟩, by simp [fm, Lin.cols, Lin.od]⟩
    · refine ⟨toK q, by rw [hfl]; exact toK_rising hq, ?_⟩
      rw [← det_cols (chosen_row _ _ _ hq)]
      simpa using hd
  · rintro ⟨K, hK, hod⟩
    rw [hfl] at hK
    simp only [freeL, Bool.or_eq_true, beq_iff_eq, Bool.and_eq_true, decide_eq_true_eq, List.any_eq_true]
    right
    have hle : m.length ≤ c := by
      by_cases h0 : m.length = 0
      · omega
      · have : ∀ i, i < m.length → i ≤ K i := by
          intro i
          induction i with
          | zero => intro _; omega
          | succ i ii => intro hi; have := ii (by omega); have := hK.1 i (i + 1) (by omega) hi; omega
        have a1 := this (m.length - 1) (by omega)
        have a2 := hK.2 (m.length - 1) (by omega)
        omega
    refine ⟨hle, _, chosen_all _ _ K hK, ?_⟩
    rw [det_cols (by simp)]
    have e : Lin.od (fm m).length (Lin.cols (fm m) (toK ((List.range m.length).map fun i => (K i : Int)))) (fun _ => false) = Lin.od (fm m).length (Lin.cols (fm m) K) (fun _ => false) := by
      refine Lin.od_congr (by simp [Lin.cols]) (fun i hi j hj => ?_) _
      have hi' : i < m.length := by simpa [Lin.cols, fm] using hi
      have hj' : j < m.length := by rw [hfl] at hj; exact hj
      simp [Lin.cols, fm, hi', toK, hj']
    rw [e]
    simpa using hod

theorem sq_cols {c Bd : Nat} {m : List (List Int)} {q : List Int} (h : Mx c Bd m) (hm : m.length ≤ c) (hq : q ∈ chosenL m.length c) : Sq (colsL m q).length Bd (colsL m q) := by
  have hl := chosen_row _ _ _ hq
  have hc5 := h.c5
  rw [colsL_length]
  refine ⟨colsL_length m q, fun r hr => ?_, fun r hr j hj => ?_, Nat.le_trans (fb_mono h.pos hm) h.small, by omega, h.pos⟩
  · simp only [colsL, List.mem_map] at hr
    obtain ⟨r', _, rfl⟩ := hr
    simp [hl]
  · simp only [colsL, List.mem_map] at hr
    obtain ⟨r', hr', rfl⟩ := hr
    have e : (q.map fun x => r'.getD x.toNat 0).getD j 0 = r'.getD (toK q j) 0 := by
      simp [toK, hl, hj]
    rw [e]
    have hlt := (toK_rising hq).2 j hj
    have : r'.getD (toK q j) 0 ∈ r' := by
      have : toK q j < r'.length := by rw [h.row r' hr']; exact hlt
      simp [this]
    exact h.bd r' hr' _ this

end Go.Proofs.Ytfhhjifkgknhgaa
