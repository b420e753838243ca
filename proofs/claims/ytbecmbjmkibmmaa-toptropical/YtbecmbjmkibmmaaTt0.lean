/- TopTropical, pure: rows of three numbers as they lie; squares of small numbers; the choice that is turned about. -/
import Derived.Test.YtbecmbjmkibmmaaTq3
import Derived.Test.YtbecmbjmkibmmaaTs4
import Derived.Test.YtbecmbjmkibmmaaTw11
import Derived.Test.YtbecmbjmkibmmaaPik
namespace Go.Proofs.Ytbecmbjmkibmmaa
open Go.RowKit

theorem met_form {B : Nat} {e : TypeId} {w : World} {v : Value} {n : Nat} {xs : List Value} (h : w.ownsRow B e 3 v n xs) : ∃ vo vc, v = .slice vo n vc ∧ n ≤ vc ∧ vc ≤ 9223372036854775807 := by
  rcases h.2 with ⟨rfl, rfl⟩ | ⟨g, cap, cur, rfl, hb, hh, h1, h2, _⟩
  · exact ⟨_, _, rfl, Nat.le_refl _, by omega⟩
  · exact ⟨_, _, rfl, h1, by simpa [maxLen] using h2⟩

theorem met_cells {B : Nat} {e : TypeId} {w : World} {v : Value} {m : List (Int × Int × Int)} (h : w.ownsRow B e 3 v m.length (m.flatMap encT)) (hp : 0 < m.length) :
    ∃ g cap, v = .slice (some ⟨g, 0, none⟩) m.length cap ∧ B ≤ g ∧ g < w.heap.size ∧ ∀ i, i < m.length → w.cell? ⟨g, i * 3, none⟩ = some (.int .i64 (m.getD i (0, 1, 0)).1) ∧ w.cell? ⟨g, i * 3 + 1, none⟩ = some (.int .i64 (m.getD i (0, 1, 0)).2.1) ∧ w.cell? ⟨g, i * 3 + 2, none⟩ = some (.int .i64 (m.getD i (0, 1, 0)).2.2) := by
  rcases h.2 with ⟨rfl, h0⟩ | ⟨g, cap, cur, rfl, hb, hh, h1, h2, h3, h4⟩
  · omega
  · have hlt : g < w.heap.size := by
      rcases Nat.lt_or_ge g w.heap.size with hl | hl
      · exact hl
      · rw [Array.getElem?_eq_none hl] at hh; cases hh
    have key : ∀ t, t < m.length * 3 → w.cell? ⟨g, t, none⟩ = (encT (m.getD (t / 3) (0, 1, 0)))[t % 3]? := by
      intro t ht
      rw [← flat_get m t ht, ← h4]
      simp [World.cell?, hh, List.getElem?_take]
      omega
    refine ⟨g, cap, rfl, hb, hlt, fun i hi => ⟨?_, ?_, ?_⟩⟩
    · rw [key (i * 3) (by omega), show i * 3 / 3 = i by omega, show i * 3 % 3 = 0 by omega]; rfl
    · rw [key (i * 3 + 1) (by omega), show (i * 3 + 1) / 3 = i by omega, show (i * 3 + 1) % 3 = 1 by omega]; rfl
    · rw [key (i * 3 + 2) (by omega), show (i * 3 + 2) / 3 = i by omega, show (i * 3 + 2) % 3 = 2 by omega]; rfl

def manyT (m : List (Int × Int × Int)) (k : Nat) : Int := ((m.take k).map (fun t => t.2.2)).sum

theorem manyT_succ {m : List (Int × Int × Int)} {k : Nat} (h : k < m.length) : manyT m (k + 1) = manyT m k + (m.getD k (0, 1, 0)).2.2 := by
  unfold manyT
  rw [List.take_succ_eq_append_getElem h, List.map_append, List.sum_append]
  simp [h]

theorem manyT_bd {m : List (Int × Int × Int)} (hm : ∀ t ∈ m, 1 ≤ t.2.2 ∧ t.2.2 ≤ 19) : ∀ k, 0 ≤ manyT m k ∧ manyT m k ≤ 19 * (k : Int)
  | 0 => by simp [manyT]
  | k + 1 => by
    have ih := manyT_bd hm k
    by_cases h : k < m.length
    · rw [manyT_succ h]
      have := hm _ (mem_getT m k h)
      omega
    · have e : manyT m (k + 1) = manyT m k := by
        unfold manyT
        rw [List.take_of_length_le (by omega), List.take_of_length_le (by omega)]
      rw [e]; omega

theorem rootsU_len {l : List Int} (hl : Lst l) : (rootsU l).length ≤ 1000 :=
  Nat.le_trans (rsL_len l _) (ext2_len hl.n20)

theorem box_sq {n : Nat} {m : List (List Int)} (h1 : 1 ≤ n) (h5 : n ≤ 5) (hl : m.length = n) (hb : Box n 20 m) : sqE m = 0 := by
  unfold sqE
  rw [if_neg (by omega), hl]
  refine rowsSq_all fun i hi => ?_
  have hm : m.getD i [] ∈ m := by simp [hi]
  obtain ⟨a, b⟩ := hb _ hm
  unfold rowQ
  rw [if_neg (by omega)]
  have : (m.getD i []).any (farB · 10000) = false := by
    rw [List.any_eq_false]
    intro z hz
    have := b z hz
    simp [farB]
    omega
  rw [this]; rfl

theorem ins_turn {n T : Nat} (hn : 1 ≤ n) : Ins n (fun i => (i + T) % n) := by
  refine ⟨fun i hi => Nat.mod_lt _ (by omega), fun i j hi hj e => ?_⟩
  have h1 : (i + T) % n = (j + T) % n := e
  have h2 : (i : Int) % n = (j : Int) % n := by
    have h3 : ((i : Int) + T) % n = ((j : Int) + T) % n := by exact_mod_cast h1
    have h4 := Int.emod_emod_of_dvd ((i : Int) + T) (Int.dvd_refl n)
    have : ((i : Int) + T - T) % n = ((j : Int) + T - T) % n := by
      rw [Int.sub_emod, h3, ← Int.sub_emod]
    simpa using this
  rw [Int.emod_eq_of_lt (by omega) (by omega), Int.emod_eq_of_lt (by omega) (by omega)] at h2
  omega

end Go.Proofs.Ytbecmbjmkibmmaa
