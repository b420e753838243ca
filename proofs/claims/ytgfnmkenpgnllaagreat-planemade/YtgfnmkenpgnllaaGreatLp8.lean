/- The least way says what Greatest finds; what is shown is shown. -/
import Derived.Test.YtgfnmkenpgnllaaGreatLp5
namespace Go.Proofs.YtgfnmkenpgnllaaGreat
open Go.RowKit Lin

theorem pks_len (rows : List (List Int)) (y : List Int) : (pks rows [] y).length = y.length := by simp [pks]
theorem pks_at {rows : List (List Int)} {y : List Int} {i : Nat} (h : i < y.length) : (pks rows [] y).getD i [] = rows.getD (y.getD i 0).toNat [] := by
  simp [pks, List.getD_eq_getElem?_getD, h]

theorem take_at {l : List Int} {n i : Nat} (h : i < n) : (l.take n).getD i 0 = l.getD i 0 := by
  simp [List.getD_eq_getElem?_getD, h]

theorem sv_pks {rows : List (List Int)} {y : List Int} {a : Nat → Int} {j : Nat} : sv (pks rows [] y) a j = sumN y.length fun q => a q * (rows.getD (y.getD q 0).toNat []).getD j 0 := by
  rw [sv_eq, pks_len]
  refine sumN_congr fun q hq => ?_
  rw [pks_at hq]
  rfl

theorem sv_mW {rows : List (List Int)} {g y : List Int} {j : Nat} : sv (pks rows [] y) (V (mW rows g y)) j = sv (pks rows [] y) (V (wayN g (pks rows [] y))) j := by
  rw [sv_pks, sv_pks]
  refine sumN_congr fun q hq => ?_
  show (mW rows g y).getD q 0 * _ = (wayN g (pks rows [] y)).getD q 0 * _
  unfold mW
  rw [take_at hq]

theorem sd_wS {d : Nat} {rows : List (List Int)} {g y : List Int} (hg : g.length = d) : sdL rows d y (mW rows g y) = wS g (pks rows [] y) := by
  unfold wS
  rw [hg, ← sv_mW, sv_pks]
  rfl

theorem uW_wU {rows : List (List Int)} {g y : List Int} : uW rows g y = wU g (pks rows [] y) := by
  unfold wU uW
  rw [pks_len]
  rfl

theorem ways_sub {rows : List (List Int)} {g t : List (List Int)} {g' : List Int} (hs : t.Sublist rows) (hw : wayB g' t = true) (_ : g = g) : ∃ c ∈ waysL rows g', pks rows [] c = t := by
  have hx := chz_ext rows [] t.length 0
  rw [List.drop_zero] at hx
  have hm : t ∈ chz t.length rows := chz_mem.2 ⟨hs, rfl⟩
  rw [← hx] at hm
  obtain ⟨c, hc, he⟩ := List.mem_map.1 hm
  refine ⟨c, ?_, he⟩
  simp only [waysL, waysTo, List.mem_flatMap, List.mem_range, List.mem_filter]
  refine ⟨t.length, ?_, hc, by rw [he]; exact hw⟩
  have := hs.length_le
  have := way_short hw
  omega

theorem sub_way {rows : List (List Int)} {g y : List Int} (h : y ∈ waysL rows g) : (pks rows [] y).Sublist rows := by
  simp only [waysL, waysTo, List.mem_flatMap, List.mem_range, List.mem_filter] at h
  obtain ⟨m, hm1, hm2, hm3⟩ := h
  have hx := chz_ext rows [] m 0
  rw [List.drop_zero] at hx
  have : pks rows [] y ∈ chz m rows := by rw [← hx]; exact List.mem_map.2 ⟨y, hm2, rfl⟩
  exact (chz_mem.1 this).1

theorem low_at (l : List Int) (i : Nat) : (gc l : Int) * (low l).getD i 0 = l.getD i 0 := by
  have h := low_mul l
  have h2 := congrArg (fun m : List Int => m.getD i 0) h
  simp only [List.getD_eq_getElem?_getD, List.getElem?_map] at h2
  simp only [List.getD_eq_getElem?_getD]
  cases hz : (low l)[i]? with
  | none => rw [hz] at h2; simpa using h2
  | some z => rw [hz] at h2; simpa using h2

/-- What is told of the least way, lowered. -/
theorem low_cross {S U a b : Int} (h : low [S, U] = [a, b]) : S * b = a * U ∧ a.natAbs ≤ S.natAbs + U.natAbs ∧ b.natAbs ≤ S.natAbs + U.natAbs := by
  have m := low_mul [S, U]
  have hb := low_bd (l := [S, U]) (b := S.natAbs + U.natAbs) (fun z hz => by
    simp only [List.mem_cons, List.not_mem_nil, or_false] at hz
    rcases hz with rfl | rfl <;> omega)
  rw [h] at m hb
  simp only [List.map_cons, List.map_nil, List.cons.injEq, and_true] at m
  have hb1 := hb a (by simp)
  have hb2 := hb b (by simp)
  clear hb h
  generalize ((gc [S, U] : Nat) : Int) = G at m
  obtain ⟨m1, m2⟩ := m
  refine ⟨?_, hb1, hb2⟩
  rw [← m1, ← m2, Int.mul_assoc, Int.mul_left_comm]

end Go.Proofs.YtgfnmkenpgnllaaGreat
