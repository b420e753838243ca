import Derived.Test.YtkgljfnbaoncbaaMgAB
import Derived.Test.YtkgljfnbaoncbaaMgAC
import Derived.Deep.RegionHeld3
import Derived.Deep.RegionLaw
import Derived.Deep.DrawnRows
import Derived.Deep.OwnRows
import Derived.Deep.QuietTactic
import Derived.BigQuiet
/- Least choices of a square, pure: orders, what a cycle of rows costs, prices by going down from column to column. -/
namespace Go.Proofs.Ytkgljfnbaoncbaa

/-- The number in row i and column j. -/
def ent (M : List (List Int)) (i j : Nat) : Int := (M.getD i []).getD j 0

/-- All orders of n numbers that open with what is there, k more to come. -/
def ords (n : Nat) : Nat → List Int → List (List Int)
  | 0, h => [h]
  | k + 1, h => (List.range n).flatMap fun (v : Nat) => if h.contains (v : Int) then [] else ords n k (h ++ [(v : Int)])

/-- Numbers below n, no two alike. -/
def IsOrd (n : Nat) (o : List Int) : Prop := (∀ z ∈ o, 0 ≤ z ∧ z < (n : Int)) ∧ o.Nodup

theorem ords_is {n : Nat} : ∀ (k : Nat) (h o : List Int), IsOrd n h → o ∈ ords n k h → IsOrd n o ∧ o.length = h.length + k
  | 0, h, o, hh, ho => by
    simp only [ords, List.mem_singleton] at ho
    subst ho
    exact ⟨hh, rfl⟩
  | k + 1, h, o, hh, ho => by
    simp only [ords, List.mem_flatMap, List.mem_range] at ho
    obtain ⟨v, hv, ho⟩ := ho
    split at ho
    · simp at ho
    · rename_i hc
      have hn : (v : Int) ∉ h := by simpa using hc
      have h' : IsOrd n (h ++ [(v : Int)]) := by
        refine ⟨fun z hz => ?_, ?_⟩
        · rcases List.mem_append.1 hz with hz | hz
          · exact hh.1 z hz
          · simp only [List.mem_singleton] at hz
            omega
        · rw [List.nodup_append]
          refine ⟨hh.2, by simp, fun a ha b hb e => ?_⟩
          simp only [List.mem_singleton] at hb
          subst hb
          subst e
          exact hn ha
      obtain ⟨h1, h2⟩ := ords_is k _ o h' ho
      refine ⟨h1, ?_⟩
      rw [h2]
      simp
      omega

section
variable (M : List (List Int)) (σ : Nat → Nat)

end

def la : Nat → List Nat → Nat
  | r, [] => r
  | _, s :: t => la s t

end Go.Proofs.Ytkgljfnbaoncbaa

/- Even squares and their parts, pure. -/
namespace Go.Proofs.Ytkgljfnbaoncbaa

/-! Parts -/

def setM (R : List (List Int)) (i j : Nat) (z : Int) : List (List Int) := R.set i ((R.getD i []).set j z)

theorem setM_len (R : List (List Int)) (i j : Nat) (z : Int) : (setM R i j z).length = R.length := by simp [setM]

theorem setM_row {R : List (List Int)} {i j a : Nat} {z : Int} : ((setM R i j z).getD a []).length = (R.getD a []).length := by
  unfold setM
  by_cases e : a = i
  · subst e
    by_cases h : a < R.length
    · simp [List.getD_eq_getElem?_getD, h]
    · simp [List.getD_eq_getElem?_getD, h]
  · simp [List.getD_eq_getElem?_getD, List.getElem?_set_ne (Ne.symm e)]

end Go.Proofs.Ytkgljfnbaoncbaa

/- Squares whose rows are the call's own, each in a block of its own, and are written into; named.room, named.take. -/
namespace Go.Proofs.Ytkgljfnbaoncbaa
open Go.RowKit
attribute [local go_sem ↓] Go.wp_at_zero Go.wp_at_succ

def rowsV (g c : Nat → Nat) (n k : Nat) : List Value := (List.range k).map fun i => .slice (some ⟨g i, 0, none⟩) n (c i)

theorem rowsV_get {g c : Nat → Nat} {n k i : Nat} (h : i < k) : (rowsV g c n k)[i]? = some (.slice (some ⟨g i, 0, none⟩) n (c i)) := by simp [rowsV, h]
theorem rowsV_succ (g c : Nat → Nat) (n k : Nat) : rowsV g c n (k + 1) = rowsV g c n k ++ [.slice (some ⟨g k, 0, none⟩) n (c k)] := by simp [rowsV, List.range_succ]
structure OM (B : Nat) (g c : Nat → Nat) (k n : Nat) (w : World) (v : Value) (R : List (List Int)) : Prop where
  num : R.length = k
  len : ∀ i, i < k → (R.getD i []).length = n
  out : w.ownsRow B 26 1 v k (rowsV g c n k)
  row : ∀ i, i < k → w.ownsRow B 3 1 (.slice (some ⟨g i, 0, none⟩) n (c i)) n (ints (R.getD i []))
  apart : ∀ i j, i < k → j < k → g i = g j → i = j

theorem own_heap {B e s n : Nat} {w : World} {g cap : Nat} {xs : List Value} (h : w.ownsRow B e s (.slice (some ⟨g, 0, none⟩) n cap) n xs) : ∃ cur, w.heap[g]? = some (.cells cur e (0, 0)) := by
  rcases h.2 with ⟨h', _⟩ | ⟨g', cap', cur, h', hb, hg, _⟩
  · simp at h'
  · simp only [Value.slice.injEq, Option.some.injEq, Addr.mk.injEq, and_true, true_and] at h'
    obtain ⟨rfl, rfl⟩ := h'
    exact ⟨cur, hg⟩

theorem own_keepB {B e s n : Nat} {w W : World} {v : Value} {xs : List Value} (h : w.ownsRow B e s v n xs) (hk : ∀ g, v.ownBlock = some g → W.heap[g]? = w.heap[g]?) : W.ownsRow B e s v n xs := by
  refine ⟨h.1, ?_⟩
  rcases h.2 with h2 | ⟨g, cap, cur, rfl, hb, hh, r⟩
  · exact Or.inl h2
  · exact Or.inr ⟨g, cap, cur, rfl, hb, (hk g rfl).trans hh, r⟩

theorem OM.form {B : Nat} {g c : Nat → Nat} {k n : Nat} {w : World} {v : Value} {R : List (List Int)} (h : OM B g c k n w v R) (hk : 1 ≤ k) : ∃ G cap, v = .slice (some ⟨G, 0, none⟩) k cap ∧ B ≤ G ∧ G < w.heap.size ∧ k ≤ cap ∧ cap ≤ 9223372036854775807 := by
  rcases h.out.2 with ⟨_, h0⟩ | ⟨G, cap, cur, hv, hb, hh, h1, h2, _⟩
  · omega
  · exact ⟨G, cap, hv, hb, (h.out.lt G (by rw [hv]; rfl)).2, h1, by simpa [maxLen] using h2⟩

theorem OM.cellG {B : Nat} {g c : Nat → Nat} {k n G cap : Nat} {w : World} {R : List (List Int)} (h : OM B g c k n w (.slice (some ⟨G, 0, none⟩) k cap) R) {i : Nat} (hi : i < k) : w.cell? ⟨G, i, none⟩ = some (.slice (some ⟨g i, 0, none⟩) n (c i)) := by
  rw [h.out.cellAt i (by omega), rowsV_get hi]

theorem OM.ent {B : Nat} {g c : Nat → Nat} {k n : Nat} {w : World} {v : Value} {R : List (List Int)} (h : OM B g c k n w v R) {i j : Nat} (hi : i < k) (hj : j < n) : w.cell? ⟨g i, j, none⟩ = some (.int .i64 (ent R i j)) ∧ w.frozen? ⟨g i, j, none⟩ = false := by
  refine ⟨?_, (h.row i hi).frozenAt j⟩
  rw [(h.row i hi).cellAt j (by omega), ints_get _ _ (by rw [h.len i hi]; exact hj)]
  rfl

theorem OM.keep {B : Nat} {g c : Nat → Nat} {k n : Nat} {w W : World} {v : Value} {R : List (List Int)} (h : OM B g c k n w v R) (hk : ∀ b, (v.ownBlock = some b ∨ ∃ i, i < k ∧ b = g i) → W.heap[b]? = w.heap[b]?) : OM B g c k n W v R :=
  ⟨h.num, h.len, own_keepB h.out (fun b hb => hk b (Or.inl hb)), fun i hi => own_keepB (h.row i hi) (fun b hb => hk b (Or.inr ⟨i, hi, by simpa [Value.ownBlock] using hb.symm⟩)), h.apart⟩

theorem OM.lt {B : Nat} {g c : Nat → Nat} {k n : Nat} {w : World} {v : Value} {R : List (List Int)} (h : OM B g c k n w v R) : ∀ b, (v.ownBlock = some b ∨ ∃ i, i < k ∧ b = g i) → B ≤ b ∧ b < w.heap.size := by
  rintro b (hb | ⟨i, hi, rfl⟩)
  · exact h.out.lt b hb
  · exact (h.row i hi).lt _ rfl

theorem OM.below {B N : Nat} {g c : Nat → Nat} {k n : Nat} {w W : World} {v : Value} {R : List (List Int)} (h : OM B g c k n w v R) (hb : Below N w W) (hN : w.heap.size ≤ N) : OM B g c k n W v R :=
  h.keep fun b hx => hb.block b (by have := (h.lt b hx).2; omega)

theorem ints_set (l : List Int) (j : Nat) (z : Int) : ints (l.set j z) = (ints l).set j (.int .i64 z) := by simp [ints, List.map_set]

theorem OM.set {B : Nat} {g c : Nat → Nat} {k n : Nat} {w : World} {v : Value} {R : List (List Int)} (h : OM B g c k n w v R) {i j : Nat} (hi : i < k) (z : Int) : OM B g c k n (w.setCell ⟨g i, j, none⟩ (.int .i64 z)) v (setM R i j z) := by
  have hoth : ∀ b, b ≠ g i → (w.setCell ⟨g i, j, none⟩ (.int .i64 z)).heap[b]? = w.heap[b]? := fun b hb => Below.heap_setCell w _ _ b hb
  obtain ⟨cur, hcur⟩ := own_heap (h.row i hi)
  refine ⟨by rw [setM_len]; exact h.num, fun a ha => by rw [setM_row]; exact h.len a ha, own_keepB h.out (fun b hb => hoth b fun e => ?_), fun a ha => ?_, h.apart⟩
  · subst e
    rcases h.out.2 with ⟨rfl, _⟩ | ⟨G, cap, cur', rfl, _, hh, _⟩
    · simp [Value.ownBlock] at hb
    · simp only [Value.ownBlock, Option.some.injEq] at hb
      subst hb
      rw [hcur] at hh
      simp at hh
  · by_cases e : a = i
    · subst e
      have h1 := ((h.row a ha).stored j (.int .i64 z)).1
      have e2 : (setM R a j z).getD a [] = (R.getD a []).set j z := by
        unfold setM
        have : a < R.length := by rw [h.num]; exact ha
        simp [List.getD_eq_getElem?_getD, this]
      rw [e2, ints_set]
      exact h1
    · have e2 : (setM R i j z).getD a [] = R.getD a [] := by
        unfold setM
        simp [List.getD_eq_getElem?_getD, List.getElem?_set_ne (Ne.symm e)]
      rw [e2]
      exact own_keepB (h.row a ha) (fun b hb => hoth b fun e3 => e (by
        simp only [Value.ownBlock, Option.some.injEq] at hb
        exact h.apart a i ha hi (by omega)))

/-- An order of n numbers. -/
structure Od (n : Nat) (o : List Int) : Prop where
  len : o.length = n
  rng : ∀ i, i < n → ∃ j : Nat, o.getD i 0 = (j : Int) ∧ j < n

end Go.Proofs.Ytkgljfnbaoncbaa

/- Squares that may be, by the program and by the document; what a list holds, and its sum. -/
namespace Go.Proofs.Ytkgljfnbaoncbaa
open Go.RowKit
attribute [local go_sem ↓] Go.wp_at_zero Go.wp_at_succ

theorem anyT_contains (zs : List Int) (x : Int) : zs.any (fun z => z == x) = zs.contains x := by
  rw [Bool.eq_iff_iff]; simp

theorem anyT_snoc {α : Type} {p : α → Bool} {l : List α} {d : α} {k : Nat} (h : k < l.length) (h0 : (l.take k).any p = false) : (l.take (k + 1)).any p = p (l.getD k d) := by
  rw [List.take_succ_eq_append_getElem h, List.any_append, h0]; simp [h]

theorem anyT_get {α : Type} {p : α → Bool} {l : List α} {d : α} {k : Nat} (h : k < l.length) (h0 : p (l.getD k d) = true) : l.any p = true :=
  List.any_eq_true.2 ⟨l.getD k d, by simp [h], h0⟩

set_option maxRecDepth 100000 in
set_option maxHeartbeats 400000 in
theorem inT_any (B : Nat) (x : Int) (zs : List Int) (v : Value) (w : World) (hv : Sl B 3 w v (ints zs)) :
    Calls Try.prog 40 #[.int .i64 x, v] w fun e w' => e = .returned (.bool (zs.contains x)) ∧ w' = w := by
  obtain ⟨ao, cap, hvv, hlc, hcm⟩ := sl_open hv
  subst hvv
  have HV : Hid (Sl B 3 w (.slice ao zs.length cap) (ints zs)) := hv
  clear hv
  rw [← anyT_contains]
  go_enter Try.func40, Try.ntmps40
  go_wp2
  go_loopw [5] (fun i wr => ∃ k : Nat, k ≤ zs.length ∧ i = .int .i64 k ∧ (zs.take k).any (fun z => z == x) = false ∧ wr = w) (fun i _ => zs.length - (intOf i).toNat)
  case atStart => exact ⟨0, Nat.zero_le _, rfl, by simp, rfl⟩
  case round =>
    obtain ⟨k, hk, rfl, hno, rfl⟩ := hrel
    have HN : Hid ((zs.take k).any (fun z => z == x) = false) := hno
    clear hno
    by_cases hlt : k < zs.length
    · obtain ⟨b, o, cp, hs, hc1, hcc⟩ := sl_cell HV.out hlt
      simp only [Value.slice.injEq] at hs
      obtain ⟨rfl, _, rfl⟩ := hs
      have HS1 : Hid ((zs.take (k + 1)).any (fun z => z == x) = (zs.getD k 0 == x)) := anyT_snoc (p := fun z => z == x) hlt HN.out
      have HG : Hid ((zs.getD k 0 == x) = true → zs.any (fun z => z == x) = true) := fun h => anyT_get (p := fun z => z == x) hlt h
      generalize zs.getD k 0 = z at *
      cases hf : (z == x)
      · have HF : Hid ((z == x) = false) := hf
        go_wp2
        go_roundw
        case rel => exact ⟨k + 1, by omega, by go_num, by rw [HS1.out]; exact HF.out, trivial⟩
        case measure => simp [intOf]; omega
      · have HF : Hid ((z == x) = true) := hf
        go_wp2
        go_ret
        exact ⟨ret_bool (HG.out HF.out).symm, rfl⟩
    · have hke : zs.take k = zs := List.take_of_length_le (by omega)
      have HE : Hid (zs.any (fun z => z == x) = false) := by rw [← hke]; exact HN.out
      go_wp2
      go_ret
      exact ⟨ret_bool HE.out.symm, rfl⟩


theorem sumL_snoc (l : List Int) (k : Nat) (h : k < l.length) : (l.take (k + 1)).sum = (l.take k).sum + l.getD k 0 := by
  have e : l.getD k 0 = l[k] := by simp [h]
  rw [List.take_succ_eq_append_getElem h, List.sum_append, e]; simp

theorem sumL_bd {l : List Int} {b : Nat} : ∀ k, k ≤ l.length → (∀ z ∈ l, z.natAbs ≤ b) → (l.take k).sum.natAbs ≤ b * k
  | 0, _, _ => by simp
  | k + 1, hk, hb => by
    have h1 := sumL_bd (l := l) k (by omega) hb
    rw [sumL_snoc l k (by omega)]
    have h2 : (l.getD k 0).natAbs ≤ b := by
      have e : l.getD k 0 = l[k] := by simp [show k < l.length by omega]
      rw [e]; exact hb _ (List.getElem_mem _)
    rw [Nat.mul_add, Nat.mul_one]
    omega

set_option maxRecDepth 100000 in
set_option maxHeartbeats 400000 in
theorem sumT_any (B : Nat) (zs : List Int) (v : Value) (w : World) (hv : Sl B 3 w v (ints zs)) (hl : zs.length ≤ 1000) (hb : ∀ z ∈ zs, z.natAbs ≤ 1000000000) :
    Calls Try.prog 18 #[v] w fun e w' => e = .returned (.int .i64 zs.sum) ∧ ∃ n, w' = w.drewN n := by
  obtain ⟨ao, cap, hvv, hlc, hcm⟩ := sl_open hv
  subst hvv
  have HV : Hid (Sl B 3 w (.slice ao zs.length cap) (ints zs)) := hv
  have HB : Hid (∀ k, k ≤ zs.length → -1000000000000 ≤ (zs.take k).sum ∧ (zs.take k).sum ≤ 1000000000000) := fun k hk => by
    have := sumL_bd k hk hb
    have : 1000000000 * k ≤ 1000000000 * 1000 := Nat.mul_le_mul_left _ (by omega)
    omega
  clear hv hb
  go_enter Try.func18, Try.ntmps18
  go_wp2
  go_loopw [3, 4] (fun s i wr => ∃ k : Nat, k ≤ zs.length ∧ i = .int .i64 k ∧ s = .int .i64 (zs.take k).sum ∧ ∃ n, wr = w.drewN n) (fun _ i _ => zs.length - (intOf i).toNat)
  case atStart => exact ⟨0, Nat.zero_le _, rfl, by simp, 0, rfl⟩
  case round =>
    obtain ⟨k, hk, rfl, rfl, n, rfl⟩ := hrel
    by_cases hlt : k < zs.length
    · obtain ⟨b, o, cp, hs, hc1, hcc⟩ := sl_cell HV.out hlt
      simp only [Value.slice.injEq] at hs
      obtain ⟨rfl, _, rfl⟩ := hs
      have HS : Hid ((zs.take (k + 1)).sum = (zs.take k).sum + zs.getD k 0) := sumL_snoc zs k hlt
      have b1 := HB.out k hk
      have b2 := HB.out (k + 1) hlt
      rw [HS.out] at b2
      generalize zs.getD k 0 = z at *
      generalize (zs.take k).sum = S at *
      go_wp2
      go_roundw
      case rel => exact ⟨k + 1, by omega, by go_num, by rw [HS.out], _, rfl⟩
      case measure => simp [intOf]; omega
    · have hke : zs.take k = zs := List.take_of_length_le (by omega)
      rw [hke]
      go_wp2
      go_ret
      exact ⟨rfl, n, rfl⟩

end Go.Proofs.Ytkgljfnbaoncbaa

/- The document's orders. -/
namespace Go.Proofs.Ytkgljfnbaoncbaa
open Go.RowKit
attribute [local go_sem ↓] Go.wp_at_zero Go.wp_at_succ

theorem nodup_lenT {α : Type} [BEq α] [LawfulBEq α] : ∀ (l o : List α), l.Nodup → (∀ x ∈ l, x ∈ o) → l.length ≤ o.length
  | [], o, _, _ => Nat.zero_le _
  | a :: l, o, hn, hs => by
    have ha : a ∈ o := hs a (by simp)
    have hn' := List.nodup_cons.1 hn
    have := nodup_lenT l (o.erase a) hn'.2 (fun x hx => by
      have hxa : x ≠ a := fun e => hn'.1 (e ▸ hx)
      exact (List.mem_erase_of_ne hxa).2 (hs x (by simp [hx])))
    have hl := List.length_erase_of_mem ha
    have hp : 0 < o.length := List.length_pos_of_mem ha
    simp only [List.length_cons]
    omega

theorem isOrd_snoc {n : Nat} {h : List Int} {v : Nat} (hh : IsOrd n h) (hv : v < n) (hn : (v : Int) ∉ h) : IsOrd n (h ++ [(v : Int)]) := by
  refine ⟨fun z hz => ?_, ?_⟩
  · rcases List.mem_append.1 hz with hz | hz
    · exact hh.1 z hz
    · simp only [List.mem_singleton] at hz
      omega
  · rw [List.nodup_append]
    refine ⟨hh.2, by simp, fun a ha b hb e => ?_⟩
    simp only [List.mem_singleton] at hb
    subst hb
    subst e
    exact hn ha

theorem ords_ne {n : Nat} : ∀ (k : Nat) (ix : List Int), IsOrd n ix → ix.length + k = n → ords n k ix ≠ []
  | 0, ix, _, _ => by simp [ords]
  | k + 1, ix, ho, hk => by
    intro he
    have hall : ∀ v, v < n → (v : Int) ∈ ix := fun v hv => by
      refine Classical.byContradiction fun hno => ?_
      have h1 := ords_ne k (ix ++ [(v : Int)]) (isOrd_snoc ho hv hno) (by simp; omega)
      obtain ⟨o, ho2⟩ := List.exists_mem_of_ne_nil _ h1
      have : o ∈ ords n (k + 1) ix := by
        simp only [ords, List.mem_flatMap, List.mem_range]
        refine ⟨v, hv, ?_⟩
        have hc : ix.contains (v : Int) = false := by simpa using hno
        rw [hc]
        exact ho2
      rw [he] at this
      cases this
    have := nodup_lenT ((List.range n).map fun (v : Nat) => (v : Int)) ix (by
      rw [List.Nodup, List.pairwise_map]
      exact List.Pairwise.imp (fun h e => h (by omega)) (List.nodup_range (n := n))) (fun x hx => by
      simp only [List.mem_map, List.mem_range] at hx
      obtain ⟨v, hv, rfl⟩ := hx
      exact hall v hv)
    simp at this
    omega

/-- The orders whose next number is below q. -/
def ordsT (n k : Nat) (ix : List Int) (q : Nat) : List (List Int) := (List.range q).flatMap fun (v : Nat) => if ix.contains (v : Int) then [] else ords n k (ix ++ [(v : Int)])

theorem ordsT_all (n k : Nat) (ix : List Int) : ordsT n k ix n = ords n (k + 1) ix := rfl
theorem ordsT_succ (n k : Nat) (ix : List Int) (q : Nat) : ordsT n k ix (q + 1) = ordsT n k ix q ++ (if ix.contains (q : Int) then [] else ords n k (ix ++ [(q : Int)])) := by simp [ordsT, List.range_succ]

theorem ords_len {n : Nat} (hn : n ≤ 6) : ∀ (k : Nat) (ix : List Int), (ords n k ix).length ≤ 6 ^ k
  | 0, ix => by simp [ords]
  | k + 1, ix => by
    have h : ∀ q, (ordsT n k ix q).length ≤ q * 6 ^ k := by
      intro q
      induction q with
      | zero => simp [ordsT]
      | succ q ih =>
        rw [ordsT_succ, List.length_append, Nat.succ_mul]
        have : (if ix.contains (q : Int) then [] else ords n k (ix ++ [(q : Int)])).length ≤ 6 ^ k := by
          split
          · simp
          · exact ords_len hn k _
        omega
    have h1 := h n
    rw [ordsT_all] at h1
    refine Nat.le_trans h1 ?_
    rw [Nat.pow_succ, Nat.mul_comm]
    exact Nat.mul_le_mul_left _ hn

theorem ordsT_len {n : Nat} (hn : n ≤ 6) (k : Nat) (ix : List Int) (q : Nat) (hq : q ≤ n) (hk : k ≤ 5) : (ordsT n k ix q).length ≤ 46656 := by
  have h : ∀ q, (ordsT n k ix q).length ≤ q * 6 ^ k := by
    intro q
    induction q with
    | zero => simp [ordsT]
    | succ q ih =>
      rw [ordsT_succ, List.length_append, Nat.succ_mul]
      have : (if ix.contains (q : Int) then [] else ords n k (ix ++ [(q : Int)])).length ≤ 6 ^ k := by
        split
        · simp
        · exact ords_len hn k _
      omega
  refine Nat.le_trans (h q) ?_
  have h1 : 6 ^ k ≤ 6 ^ 5 := Nat.pow_le_pow_right (by decide) hk
  exact Nat.le_trans (Nat.mul_le_mul (show q ≤ 6 by omega) h1) (by decide)

theorem one_fr {B : Nat} {w : World} {u : Value} {zs : List Int} (hu : Sl 0 3 w u (ints zs)) (hB : B ≤ w.heap.size) : Fr B 26 3 (w.alloc (.cells #[u] 26)) (.slice (some ⟨w.heap.size, 0, none⟩) 1 1) [zs] := by
  refine ⟨[u], rfl, ?_, fun i hi => ?_⟩
  · have h := World.ownsRow_lit (base := B) (e := 26) (size := 1) w #[u] 1 hB (by simp [maxLen]) (by simp)
    simpa using h
  · have : i = 0 := by simp at hi; omega
    subst this
    exact hu.alloc _

/-- Many rows more. -/
theorem Fr.pushAll {B : Nat} {w w' : World} {v v' : Value} {m m2 : List (List Int)} {vs us : List Value}
    (h1 : vs.length = m.length) (h2 : w.ownsRow B 26 1 v m.length vs) (h3 : ∀ i, i < m.length → Sl 0 3 w (vs.getD i (.slice none 0 0)) (ints (m.getD i [])))
    (k1 : us.length = m2.length) (k3 : ∀ i, i < m2.length → Sl 0 3 w (us.getD i (.slice none 0 0)) (ints (m2.getD i [])))
    (ho : w'.ownsRow B 26 1 v' (m.length + m2.length) (vs ++ us)) (hg : w.grownBy w' v.ownBlock) : Fr B 26 3 w' v' (m ++ m2) := by
  have ht : ∀ k, v.ownBlock = some k → 0 ≤ k ∧ ∀ cur, w.heap[k]? ≠ some (.cells cur 3 (0, 0)) := fun k hk => ⟨Nat.zero_le _, (owns_typed h2 (by decide) k hk).2⟩
  refine ⟨vs ++ us, by simp [h1, k1], by simpa using ho, fun i hi => ?_⟩
  by_cases hlt : i < m.length
  · have e1' : (vs ++ us).getD i (.slice none 0 0) = vs.getD i (.slice none 0 0) := by
      simp only [List.getD_eq_getElem?_getD]; rw [List.getElem?_append_left (by omega)]
    have e2' : (m ++ m2).getD i [] = m.getD i [] := by
      simp only [List.getD_eq_getElem?_getD]; rw [List.getElem?_append_left (by omega)]
    rw [e1', e2']
    exact (h3 i hlt).grown hg ht
  · have e1' : (vs ++ us).getD i (.slice none 0 0) = us.getD (i - m.length) (.slice none 0 0) := by
      simp only [List.getD_eq_getElem?_getD]; rw [List.getElem?_append_right (by omega), h1]
    have e2' : (m ++ m2).getD i [] = m2.getD (i - m.length) [] := by
      simp only [List.getD_eq_getElem?_getD]; rw [List.getElem?_append_right (by omega)]
    rw [e1', e2']
    exact (k3 _ (by simp at hi; omega)).grown hg ht

/-- Rows of slices, cell by cell. -/
theorem own_cells {B n : Nat} {w : World} {g cap : Nat} {us : List Value} (h : w.ownsRow B 26 1 (.slice (some ⟨g, 0, none⟩) n cap) n us) : ∀ j u, us[j]? = some u → w.cell? ((⟨g, 0, none⟩ : Addr).add j) = some u := by
  intro j u hj
  rcases h.2 with ⟨h1, _⟩ | ⟨g', cap', cur, h1, _, h3, h4, _, h5, h6⟩
  · cases h1
  · simp only [Value.slice.injEq, Option.some.injEq, Addr.mk.injEq] at h1
    obtain ⟨⟨rfl, _⟩, _, rfl⟩ := h1
    have hlt : j < n := by
      have := (List.getElem?_eq_some_iff.1 hj).1
      have := h.1
      omega
    rw [← h6, List.getElem?_take_of_lt (by omega), Array.getElem?_toList] at hj
    have e : (⟨g, 0, none⟩ : Addr).add j = ⟨g, j, none⟩ := by simp [Addr.add]; intro h; exact h.symm
    rw [e]
    simp [World.cell?, h3, hj]

theorem rows_one {w : World} {m : List (List Int)} {us : List Value} (k1 : us.length = m.length) (k3 : ∀ i, i < m.length → Sl 0 3 w (us.getD i (.slice none 0 0)) (ints (m.getD i []))) : ∀ u ∈ us, u.oneCell' = true := by
  intro u hu
  obtain ⟨i, hi, rfl⟩ := List.getElem_of_mem hu
  have h := k3 i (by omega)
  have e : us.getD i (.slice none 0 0) = us[i] := by simp [hi]
  rw [e] at h
  obtain ⟨ao, cap, hv, _⟩ := sl_open h
  rw [hv]
  rfl

def OrdD (n k : Nat) : Prop := ∀ (ix : List Int) (v : Value) (w : World), IsOrd n ix → ix.length + k = n → Sl w.heap.size 3 w v (ints ix) →
  Calls Try.prog 38 #[.int .i64 n, v] w fun e w' => ∃ x, e = .returned x ∧ Fr w.heap.size 26 3 w' x (ords n k ix) ∧ Below w.heap.size w w'

set_option maxRecDepth 100000 in
set_option maxHeartbeats 400000 in
theorem ordD_zero (n : Nat) (hn : n ≤ 6) : OrdD n 0 := by
  intro ix v w ho hk hv
  obtain ⟨ao, cap, hvv, hlc, hcm⟩ := sl_open hv
  subst hvv
  have HCP : Hid (Calls Try.prog 35 #[.slice ao ix.length cap] w fun e w' => ∃ u, e = .returned u ∧ w'.ownsRow w.heap.size 3 1 u ix.length (ints ix) ∧ Below w.heap.size w w') := copy_any _ ix _ w hv (by omega)
  have hkk : ((ix.length : Int) == (n : Int)) = true := by rw [beq_iff_eq]; omega
  clear hv ho hk
  go_enter Try.func38, Try.ntmps38
  go_wp2_with fail
  refine HCP.out.mono ?_
  rintro e w1 ⟨u, rfl, hu, hb⟩
  obtain ⟨uo, uc, huv⟩ := owns_form hu
  subst huv
  have HU : Hid (Sl 0 3 w1 (.slice uo ix.length uc) (ints ix)) := Sl.own hu
  have HB : Hid (Below w.heap.size w w1) := hb
  clear hu hb HCP
  go_wp2
  go_ret
  exact ⟨_, rfl, one_fr HU.out HB.out.size, HB.out.alloc HB.out.size _⟩

set_option maxRecDepth 100000 in
set_option maxHeartbeats 1600000 in
theorem ordD_succ (n k : Nat) (hn : n ≤ 6) (hk5 : k ≤ 5) (ih : OrdD n k) : OrdD n (k + 1) := by
  intro ix v w ho hk hv
  obtain ⟨i0, hi, hz0, hz1, hz2⟩ := info_parts Try.info26
  obtain ⟨i3, hi3, hz30, hz31, hz32⟩ := info_parts Try.info3
  obtain ⟨ao, cap, hvv, hlc, hcm⟩ := sl_open hv
  subst hvv
  have HV : Hid (Sl w.heap.size 3 w (.slice ao ix.length cap) (ints ix)) := hv
  have HO : Hid (IsOrd n ix) := ho
  have HK : Hid (ix.length + (k + 1) = n) := hk
  have HIH : Hid (OrdD n k) := ih
  have hl6 : ix.length ≤ 6 := by omega
  have hkk : ((ix.length : Int) == (n : Int)) = false := by rw [beq_eq_false_iff_ne]; omega
  clear hv ho hk ih
  go_enter Try.func38, Try.ntmps38
  go_wp2
  go_loopw [5, 6] (fun x i wr => ∃ q : Nat, q ≤ n ∧ i = .int .i64 q ∧ Fr w.heap.size 26 3 wr x (ordsT n k ix q) ∧ Below w.heap.size w wr) (fun _ i _ => n - (intOf i).toNat)
  case atStart => exact ⟨0, Nat.zero_le _, rfl, Fr.nil _ _ _ _, Below.refl _ _⟩
  case round =>
    obtain ⟨q, hq, rfl, hfr, hb⟩ := hrel
    obtain ⟨wa, rfl⟩ : ∃ wa, wa = wr := ⟨wr, rfl⟩
    have HF : Hid (Fr w.heap.size 26 3 wa u5 (ordsT n k ix q)) := hfr
    have HB : Hid (Below w.heap.size w wa) := hb
    have HVa : Hid (Sl w.heap.size 3 wa (.slice ao ix.length cap) (ints ix)) := HV.out.below hb (Nat.le_refl _)
    clear hfr hb
    by_cases hlt : q < n
    · have HIN : Hid (Calls Try.prog 40 #[.int .i64 q, .slice ao ix.length cap] wa fun e w' => e = .returned (.bool (ix.contains (q : Int))) ∧ w' = wa) := inT_any _ q ix _ wa HVa.out
      have HSC : Hid (ordsT n k ix (q + 1) = ordsT n k ix q ++ (if ix.contains (q : Int) then [] else ords n k (ix ++ [(q : Int)]))) := ordsT_succ n k ix q
      have HNC : Hid (ix.contains (q : Int) = false → (q : Int) ∉ ix) := fun h => by simpa using h
      cases hct : ix.contains (q : Int)
      · rw [hct] at HIN HSC HNC
        have HNI : Hid (IsOrd n (ix ++ [(q : Int)])) := isOrd_snoc HO.out hlt (HNC.out rfl)
        have HSC2 : Hid (ordsT n k ix (q + 1) = ordsT n k ix q ++ ords n k (ix ++ [(q : Int)])) := HSC.out
        clear HSC HNC hct
        have HCP : Hid (Calls Try.prog 35 #[.slice ao ix.length cap] wa fun e w' => ∃ u, e = .returned u ∧ w'.ownsRow wa.heap.size 3 1 u ix.length (ints ix) ∧ Below wa.heap.size wa w') := copy_any _ ix _ wa HVa.out (by omega)
        go_wp2_with (first | (go_at_call 40; refine HIN.out.mono ?_; rintro e w' ⟨rfl, hww⟩; rw [hww]; clear hww w'))
        refine HCP.out.mono ?_
        rintro e w1 ⟨u, rfl, hu, hb1⟩
        obtain ⟨uo, uc, huv⟩ := owns_form hu
        subst huv
        have HU : Hid (w1.ownsRow wa.heap.size 3 1 (.slice uo ix.length uc) ix.length (ints ix)) := hu
        have HB1 : Hid (Below wa.heap.size wa w1) := hb1
        clear hu hb1 HCP HIN
        go_wp2_with (first | (at_builtin; refine wpList_append_own _ rfl _ _ 26 rfl wa.heap.size 3 i3 (.int .i64 0) 1 8 Try.underlying26 hi3 hz30 hz31 hz32 rfl (by decide) _ _ _ rfl (HU.out.alloc _) ⟨w1.heap.size, 0, none⟩ 1 1 [.int .i64 q] rfl rfl (one_new _ _ _) (one_int _) ?c3 ?c4 ?c5 ?_))
        case c3 => unfold maxLen; omega
        case c4 => omega
        case c5 => have := HB1.out.size; simp; omega
        intro v2 w2 ho2 hg2 _
        have R := owns_push (z := (q : Int)) (N := ix.length + 1) (w0 := wa) HB1.out.size (l := ix) HU.out HB1.out ho2 hg2 rfl
        obtain ⟨vo2, vc2, hv2⟩ := owns_form R.1
        subst hv2
        have HL1 : Hid ((ix ++ [(q : Int)]).length = ix.length + 1) := by show _ = _; simp
        have HNE := ords_ne k (ix ++ [(q : Int)]) HNI.out (by rw [HL1.out]; have := HK.out; omega)
        have HLN : Hid ((ords n k (ix ++ [(q : Int)])).length ≤ 46656) := Nat.le_trans (ords_len hn k _) (Nat.le_trans (Nat.pow_le_pow_right (by decide) hk5) (by decide))
        have HLT : Hid ((ordsT n k ix q).length ≤ 46656) := ordsT_len hn k ix q hq hk5
        have HB2 : Hid (Below wa.heap.size wa w2) := R.2
        have HCALL : Hid (Calls Try.prog 38 #[.int .i64 n, .slice vo2 (ix.length + 1) vc2] w2 fun e w' => ∃ g us xc, e = .returned (.slice (some ⟨g, 0, none⟩) (ords n k (ix ++ [(q : Int)])).length xc) ∧ us.length = (ords n k (ix ++ [(q : Int)])).length ∧
            w'.ownsRow w2.heap.size 26 1 (.slice (some ⟨g, 0, none⟩) (ords n k (ix ++ [(q : Int)])).length xc) (ords n k (ix ++ [(q : Int)])).length us ∧ (∀ i, i < (ords n k (ix ++ [(q : Int)])).length → Sl 0 3 w' (us.getD i (.slice none 0 0)) (ints ((ords n k (ix ++ [(q : Int)])).getD i []))) ∧ Below w2.heap.size w2 w') := by
          have h := HIH.out (ix ++ [(q : Int)]) (.slice vo2 (ix.length + 1) vc2) w2 HNI.out (by rw [HL1.out]; have := HK.out; omega) (Sl.own R.1)
          refine h.mono ?_
          rintro e w' ⟨x, rfl, ⟨us, f1, f2, f3⟩, hb⟩
          rcases f2.2 with ⟨_, h2⟩ | ⟨g, xc, cur, rfl, _⟩
          · exact absurd (List.eq_nil_of_length_eq_zero h2) HNE
          · exact ⟨g, us, xc, rfl, f1, f2, f3, hb⟩
        clear R ho2 hg2 HU HB1 HNE
        obtain ⟨vs, g1, g2, g3⟩ := HF.out
        have G1 : Hid (vs.length = (ordsT n k ix q).length) := g1
        have G2 : Hid (wa.ownsRow w.heap.size 26 1 u5 (ordsT n k ix q).length vs) := g2
        have G3 : Hid (∀ i, i < (ordsT n k ix q).length → Sl 0 3 wa (vs.getD i (.slice none 0 0)) (ints ((ordsT n k ix q).getD i []))) := g3
        clear g1 g2 g3
        generalize ords n k (ix ++ [(q : Int)]) = o2 at *
        generalize ordsT n k ix q = o1 at *
        go_wp2_with fail
        refine HCALL.out.mono ?_
        rintro e w3 ⟨g, us, xc, rfl, f1, f2, f3, hb3⟩
        have HB3 : Hid (Below wa.heap.size wa w3) := HB2.out.trans (hb3.mono HB2.out.size)
        have F1 : Hid (us.length = o2.length) := f1
        have F2 : Hid (w3.ownsRow w2.heap.size 26 1 (.slice (some ⟨g, 0, none⟩) o2.length xc) o2.length us) := f2
        have F3 : Hid (∀ i, i < o2.length → Sl 0 3 w3 (us.getD i (.slice none 0 0)) (ints (o2.getD i []))) := f3
        have G4 : Hid (w3.ownsRow w.heap.size 26 1 u5 o1.length vs) := owns_below G2.out HB3.out (Nat.le_refl _)
        have G5 : Hid (∀ i, i < o1.length → Sl 0 3 w3 (vs.getD i (.slice none 0 0)) (ints (o1.getD i []))) := fun i hi => (G3.out i hi).below HB3.out (Nat.le_refl _)
        have HSS : Hid (w.heap.size ≤ w3.heap.size) := Nat.le_trans HB.out.size HB3.out.size
        clear f1 f2 f3 hb3 HCALL
        go_wp2_with (first | (at_builtin; refine wpList_append_own _ rfl _ _ 22 rfl w.heap.size 26 i0 (.slice none 0 0) 1 24 Try.underlying22 hi hz0 hz1 hz2 rfl (by decide) _ _ _ rfl G4.out ⟨g, 0, none⟩ o2.length xc us rfl ?e2 ?e3 ?e4 ?c3 ?c4 ?c5 ?_))
        case e2 => rw [F1.out]; simp
        case e3 => exact own_cells F2.out
        case e4 => exact rows_one F1.out F3.out
        case c3 => have h1 := HLN.out; have h2 := HLT.out; unfold maxLen; omega
        case c4 => have h1 := HLN.out; have h2 := HLT.out; omega
        case c5 => exact HSS.out
        intro v4 w4 ho4 hg4 _
        have R1 : Hid (Fr w.heap.size 26 3 w4 v4 (ordsT n k ix (q + 1))) := by
          rw [HSC2.out]
          exact Fr.pushAll G1.out G4.out G5.out F1.out F3.out ho4 hg4
        have R2 : Hid (Below w.heap.size w w4) := (HB.out.trans (HB3.out.mono HB.out.size)).grown hg4 HSS.out (fun k hk => (G4.out.lt k hk).1)
        clear ho4 hg4
        go_wp2
        go_roundw
        case rel => exact ⟨q + 1, by omega, by go_num, R1.out, R2.out⟩
        case measure => simp [intOf]; omega
      · rw [hct] at HIN HSC HNC
        have HSC2 : Hid (ordsT n k ix (q + 1) = ordsT n k ix q) := by
          have := HSC.out
          rw [if_pos rfl, List.append_nil] at this
          exact this
        clear HSC HNC hct
        go_wp2_with (first | (go_at_call 40; refine HIN.out.mono ?_; rintro e w' ⟨rfl, hww⟩; rw [hww]; clear hww w'))
        go_roundw
        case rel => exact ⟨q + 1, by omega, by go_num, by rw [HSC2.out]; exact HF.out, HB.out⟩
        case measure => simp [intOf]; omega
    · have hqe : q = n := by omega
      subst hqe
      go_wp2
      go_ret
      exact ⟨_, rfl, HF.out, HB.out⟩

theorem ordD_any (n : Nat) (hn : n ≤ 6) : ∀ k, k ≤ 6 → OrdD n k
  | 0, _ => ordD_zero n hn
  | k + 1, hk => ordD_succ n k hn (by omega) (ordD_any n hn k (by omega))

end Go.Proofs.Ytkgljfnbaoncbaa
