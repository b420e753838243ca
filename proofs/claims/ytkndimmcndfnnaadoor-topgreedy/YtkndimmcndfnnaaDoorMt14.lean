/- matroid.Greedy. -/
import Derived.Test.YtkndimmcndfnnaaDoorMtC
namespace Go.Proofs.YtkndimmcndfnnaaDoor
open Go.RowKit
attribute [local go_sem ↓] Go.wp_at_zero Go.wp_at_succ

theorem insJ_keep {ws : List Int} {n : Nat} : ∀ (j : Nat) (zs : List Int), j < zs.length → Pl n zs → (insJ ws j zs).length = zs.length ∧ Pl n (insJ ws j zs)
  | 0, zs, _, h => ⟨rfl, h⟩
  | j + 1, zs, hj, h => by
    simp only [insJ]
    split
    · have := insJ_keep (ws := ws) j (swL zs j) (by rw [swL_len]; omega) (h.sw hj)
      rw [swL_len] at this
      exact this
    · exact ⟨rfl, h⟩

theorem insO_keep {ws : List Int} {n : Nat} : ∀ (m i : Nat) (zs : List Int), i + m ≤ zs.length → Pl n zs → (insO ws m i zs).length = zs.length ∧ Pl n (insO ws m i zs)
  | 0, _, zs, _, h => ⟨rfl, h⟩
  | m + 1, i, zs, hi, h => by
    simp only [insO]
    obtain ⟨h1, h2⟩ := insJ_keep (ws := ws) i zs (by omega) h
    have := insO_keep (ws := ws) m (i + 1) (insJ ws i zs) (by omega) h2
    rw [h1] at this
    exact this

theorem hvL_keep (ws : List Int) : (hvL ws).length = ws.length ∧ Pl ws.length (hvL ws) := by
  unfold hvL
  by_cases h : ws.length = 0
  · rw [h]; exact ⟨rfl, fun k hk => by simp [insO, rngI] at hk⟩
  · have := insO_keep (ws := ws) (n := ws.length) (ws.length - 1) 1 (rngI ws.length) (by rw [rngI_len]; omega) (rngI_pl _)
    rw [rngI_len] at this
    exact this

/-- What has been taken of the first things of a list, and its weight. -/
def grT (bs ws l : List Int) : Nat → Nat × Int
  | 0 => (0, 0)
  | k + 1 => if freeB bs ((grT bs ws l k).1 ||| 2 ^ (l.getD k 0).toNat) = true then ((grT bs ws l k).1 ||| 2 ^ (l.getD k 0).toNat, (grT bs ws l k).2 + ws.getD (l.getD k 0).toNat 0) else grT bs ws l k

def grE (N : Int) (bs ws : List Int) : Int := if matE N bs ≠ 0 then matE N bs else if (ws.length : Int) ≠ N then 2 else if ws.any (farB · 1000) = true then 4 else 0

theorem grT_bd {bs ws l : List Int} {n : Nat} (hn : n ≤ 8) (hl : l.length = n) (hp : Pl n l) (hw : ∀ i : Nat, -1000 ≤ ws.getD i 0 ∧ ws.getD i 0 ≤ 1000) : ∀ k, k ≤ n → (grT bs ws l k).1 < 256 ∧ -1000 * (k : Int) ≤ (grT bs ws l k).2 ∧ (grT bs ws l k).2 ≤ 1000 * (k : Int)
  | 0, _ => by simp [grT]
  | k + 1, hk => by
    obtain ⟨h1, h2, h3⟩ := grT_bd (bs := bs) hn hl hp hw k (by omega)
    obtain ⟨h4, h5⟩ := hp k (by omega)
    have h6 := hw (l.getD k 0).toNat
    simp only [grT]
    split
    · refine ⟨Nat.or_lt_two_pow (n := 8) h1 (Nat.pow_lt_pow_right (by omega) (by omega)), ?_, ?_⟩
      · show _ ≤ (grT bs ws l k).2 + _; omega
      · show (grT bs ws l k).2 + _ ≤ _; omega
    · exact ⟨h1, by omega, by omega⟩

theorem mat_b8 {N : Int} {bs : List Int} (h : matE N bs = 0) : B8 bs ∧ 0 ≤ N ∧ N ≤ 8 := by
  unfold matE at h
  by_cases h1 : N < 0 ∨ 8 < N
  · rw [if_pos h1] at h; omega
  · rw [if_neg h1] at h
    by_cases h2 : bs.length = 0
    · rw [if_pos h2] at h; omega
    · rw [if_neg h2] at h
      by_cases h3 : scanE (stepE N.toNat bs) bs.length ≠ 0
      · rw [if_pos h3] at h; exact absurd h h3
      · have h4 : ∀ i, i < bs.length → stepE N.toNat bs i = 0 := by
          intro i
          induction i using Nat.strongRecOn with
          | ind i ih =>
            intro hi
            by_cases h5 : stepE N.toNat bs i = 0
            · exact h5
            · exfalso
              apply h3
              rw [scan_hit (fun j hj => ih j hj (by omega)) h5 hi]
              exact h5
        exact ⟨st_b8 (by omega) h4, by omega, by omega⟩

end Go.Proofs.YtkndimmcndfnnaaDoor
