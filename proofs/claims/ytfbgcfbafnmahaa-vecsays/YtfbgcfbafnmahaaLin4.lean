/- Plain facts: elimination without fractions: what its numbers are. -/
import Derived.Test.YtfbgcfbafnmahaaLin3
namespace Go.Proofs.Ytfbgcfbafnmahaa.Lin

/-- The places of k chosen columns and one more. -/
def posn (C : Nat → Nat) (k j : Nat) : Nat → Nat := fun b => if b < k then C b else j

def srows (M : Nat → Nat → Int) (k : Nat) : List (Nat → Int) := (List.range k).map M

/-- The first k rows and u, at the first k columns and j. -/
def rho (M : Nat → Nat → Int) (C : Nat → Nat) (k : Nat) (u : Nat → Int) (j : Nat) : Int := od (k + 1) (cols (srows M k ++ [u]) (posn C k j)) fun _ => false

def dk (M : Nat → Nat → Int) (C : Nat → Nat) (k : Nat) : Int := od k (cols (srows M k) C) fun _ => false

theorem cols_append (A B : List (Nat → Int)) (C : Nat → Nat) : cols (A ++ B) C = cols A C ++ cols B C := by simp [cols]
theorem cols_length (A : List (Nat → Int)) (C : Nat → Nat) : (cols A C).length = A.length := by simp [cols]
theorem srows_length (M : Nat → Nat → Int) (k : Nat) : (srows M k).length = k := by simp [srows]
theorem srows_row {M : Nat → Nat → Int} {k a : Nat} (h : a < k) : row (srows M k) a = M a := by simp [row, srows, h]
theorem cols_row {L : List (Nat → Int)} {C : Nat → Nat} {a : Nat} (h : a < L.length) : row (cols L C) a = fun k => row L a (C k) := by
  unfold cols; rw [row_map h]

theorem rho_lin (M : Nat → Nat → Int) (C : Nat → Nat) (k : Nat) (a b : Int) (u v : Nat → Int) (j : Nat) : rho M C k (lc a u b v) j = a * rho M C k u j + b * rho M C k v j := by
  have h := od_lin (k + 1) (cols (srows M k) (posn C k j)) [] a b (fun i => u (posn C k j i)) (fun i => v (posn C k j i)) (fun _ => false)
  unfold rho
  rw [cols_append, cols_append, cols_append]
  exact h

theorem rho_congr {M : Nat → Nat → Int} {C : Nat → Nat} {k : Nat} {u v : Nat → Int} {j : Nat} (h : ∀ b, b < k → u (C b) = v (C b)) (hj : u j = v j) : rho M C k u j = rho M C k v j := by
  unfold rho
  refine od_congr (by simp [cols]) (fun i hi b hb => ?_) _
  have hi' : i < k + 1 := by simpa [cols, srows_length] using hi
  rw [cols_append, cols_append]
  simp only [List.getD_eq_getElem?_getD]
  by_cases e : i < k
  · rw [List.getElem?_append_left (by simpa [cols_length, srows_length] using e), List.getElem?_append_left (by simpa [cols_length, srows_length] using e)]
  · have : i = k := by omega
    subst this
    rw [List.getElem?_append_right (by simp [cols_length, srows_length]), List.getElem?_append_right (by simp [cols_length, srows_length])]
    rw [cols_length, srows_length, Nat.sub_self]
    simp only [cols, List.map_cons, List.map_nil, List.getElem?_cons_zero, Option.getD_some]
    by_cases hbk : b < i
    · have e1 : posn C i j b = C b := if_pos hbk
      rw [e1]; exact h b hbk
    · have e1 : posn C i j b = j := if_neg hbk
      rw [e1]; exact hj

/-- A row that is 0 at the chosen columns. -/
theorem rho_zero {M : Nat → Nat → Int} {C : Nat → Nat} {k : Nat} {u : Nat → Int} (h : ∀ b, b < k → u (C b) = 0) (j : Nat) : rho M C k u j = dk M C k * u j := by
  unfold rho dk
  rw [cols_append]
  have e := od_end (n := k) (cols (srows M k) (posn C k j)) (fun i => u (posn C k j i)) (fun b hb => by unfold posn; rw [if_pos hb]; exact h b hb) (fun _ => false)
  have e1 : cols [u] (posn C k j) = [fun i => u (posn C k j i)] := rfl
  rw [e1, e]
  have e2 : od k (cols (srows M k) (posn C k j)) (fun _ => false) = od k (cols (srows M k) C) (fun _ => false) := by
    refine od_congr (by simp [cols]) (fun i hi b hb => ?_) _
    have hi' : i < (srows M k).length := by simpa [cols] using hi
    simp [cols, hi', posn, hb]
  rw [e2]
  simp [posn]

def cf (k a : Nat) : Nat → Int := fun i => if i = k then 1 else if i = a then -1 else 0

theorem rho_own {M : Nat → Nat → Int} {C : Nat → Nat} {k a : Nat} (ha : a < k) (j : Nat) : rho M C k (M a) j = 0 := by
  unfold rho
  have hl : (cols (srows M k ++ [M a]) (posn C k j)).length = k + 1 := by simp [cols, srows_length]
  refine od_dep (p := k) (c := cf k a) (by omega) (by simp [cf]) (fun b hb => ?_) _
  rw [hl]
  unfold comb
  rw [sumN]
  have hk : row (cols (srows M k ++ [M a]) (posn C k j)) k b = M a (posn C k j b) := by
    rw [cols_row (by simp [srows_length])]
    simp [row, srows]
  have hi : ∀ i, i < k → row (cols (srows M k ++ [M a]) (posn C k j)) i b = M i (posn C k j b) := by
    intro i hi
    rw [cols_row (by simp [srows_length]; omega)]
    simp only [row, List.getD_eq_getElem?_getD]
    rw [List.getElem?_append_left (by simpa [srows_length] using hi)]
    simp [srows, hi]
  have c1 : cf k a a = -1 := by unfold cf; rw [if_neg (by omega), if_pos rfl]
  have c2 : cf k a k = 1 := by unfold cf; rw [if_pos rfl]
  rw [sumN_one (k := a) ha (fun i hi' hne => by
    have c0 : cf k a i = 0 := by unfold cf; rw [if_neg (by omega), if_neg hne]
    rw [c0, Int.zero_mul])]
  rw [hk, hi a ha, c1, c2]
  omega

theorem rho_comb (M : Nat → Nat → Int) (C : Nat → Nat) (k : Nat) (m : Nat) (c : Nat → Int) (L : Nat → Nat → Int) (j : Nat) : rho M C k (comb m c L) j = sumN m fun i => c i * rho M C k (L i) j := by
  induction m with
  | zero =>
    have h := rho_zero (M := M) (C := C) (k := k) (u := comb 0 c L) (fun b _ => rfl) j
    rw [h]; simp [comb, sumN]
  | succ m ih =>
    have e : comb (m + 1) c L = lc 1 (comb m c L) (c m) (L m) := by funext x; simp [comb, lc, sumN]
    rw [e, rho_lin, ih]; simp [sumN]

/-- Each row is, at the chosen columns, made of the first k. -/
theorem rho_solve {M : Nat → Nat → Int} {C : Nat → Nat} {k : Nat} (hD : dk M C k ≠ 0) (u : Nat → Int) :
    ∃ e l, e ≠ 0 ∧ (∀ b, b < k → e * u (C b) = comb k l M (C b)) ∧ ∀ j, e * rho M C k u j = dk M C k * (e * u j - comb k l M j) := by
  -- k + 1 vectors of k numbers
  have hs := steinitz (c := k) (m := k + 1) (t := k) (A := fun i b => if i < k then M i (C b) else u (C b)) (B := fun a b => if a = b then 1 else 0) (e := fun _ => 1)
    (f := fun i a => if i < k then M i (C a) else u (C a)) (by omega) (fun _ _ => by decide) (fun i _ b hb => by
      unfold comb
      rw [sumN_one (k := b) hb (fun a _ hne => by simp [hne])]
      simp)
  obtain ⟨d, p, hp, hd, hk⟩ := hs
  have hkk : ∀ b, b < k → comb k d M (C b) + d k * u (C b) = 0 := by
    intro b hb
    have := hk b hb
    unfold comb at this ⊢
    rw [sumN] at this
    rw [sumN_congr (g := fun i => d i * M i (C b)) (fun i hi => by simp [hi])] at this
    simpa using this
  have hdk : d k ≠ 0 := by
    intro h0
    apply hD
    have hpk : p < k := by
      by_cases e : p = k
      · subst e; exact absurd h0 hd
      · omega
    unfold dk
    refine od_dep (p := p) (c := d) (by simpa [cols, srows_length] using hpk) hd (fun b hb => ?_) _
    have h1 := hkk b hb
    rw [h0, Int.zero_mul, Int.add_zero] at h1
    rw [cols_length, srows_length]
    unfold comb at h1 ⊢
    rw [← h1]
    refine sumN_congr fun i hi => ?_
    rw [cols_row (by simpa [srows_length] using hi), srows_row hi]
  refine ⟨d k, fun i => - d i, hdk, fun b hb => ?_, fun j => ?_⟩
  · have h1 := hkk b hb
    have h2 : comb k (fun i => - d i) M (C b) = - comb k d M (C b) := by
      unfold comb; rw [← sumN_neg]; exact sumN_congr fun i _ => by rw [Int.neg_mul]
    omega
  · have h2 : ∀ x, comb k (fun i => - d i) M x = - comb k d M x := by
      intro x; unfold comb; rw [← sumN_neg]; exact sumN_congr fun i _ => by rw [Int.neg_mul]
    have hw : ∀ b, b < k → (lc (d k) u 1 (comb k d M)) (C b) = 0 := by
      intro b hb; have := hkk b hb; simp only [lc]; omega
    have h3 := rho_zero (M := M) hw j
    rw [rho_lin, rho_comb, sumN_zero (fun i hi => by rw [rho_own hi, Int.mul_zero])] at h3
    rw [h2]
    simp only [lc] at h3
    rw [show d k * u j - - comb k d M j = d k * u j + 1 * comb k d M j by omega, ← h3]
    omega

theorem rho_at {M : Nat → Nat → Int} {C : Nat → Nat} {k : Nat} (hD : dk M C k ≠ 0) (u : Nat → Int) {b : Nat} (hb : b < k) : rho M C k u (C b) = 0 := by
  obtain ⟨e, l, he, h1, h2⟩ := rho_solve hD u
  have := h2 (C b)
  rw [h1 b hb, Int.sub_self, Int.mul_zero] at this
  rcases Int.mul_eq_zero.1 this with h | h
  · exact absurd h he
  · exact h

theorem dk_succ (M : Nat → Nat → Int) (C : Nat → Nat) (k : Nat) : dk M C (k + 1) = rho M C k (M k) (C k) := by
  unfold dk rho
  have e : srows M (k + 1) = srows M k ++ [M k] := by simp [srows, List.range_succ]
  rw [e]
  refine od_congr (by simp [cols]) (fun i hi b hb => ?_) _
  have hi' : i < (srows M k ++ [M k]).length := by simpa [cols] using hi
  have : C b = posn C k (C k) b := by
    unfold posn
    by_cases h : b < k
    · rw [if_pos h]
    · rw [if_neg h, show b = k by omega]
  have g : ∀ (K : Nat → Nat), (cols (srows M k ++ [M k]) K).getD i (fun _ => 0) = fun x => ((srows M k ++ [M k]).getD i (fun _ => 0)) (K x) := by
    intro K; exact cols_row hi'
  rw [g, g]
  exact congrArg _ this

/-- SYLVESTER: the step of elimination comes out even. -/
theorem sylvester {M : Nat → Nat → Int} {C : Nat → Nat} {k : Nat} (hD : dk M C (k + 1) ≠ 0) (u : Nat → Int) (j : Nat) :
    dk M C k * rho M C (k + 1) u j = dk M C (k + 1) * rho M C k u j - rho M C k u (C k) * rho M C k (M k) j := by
  obtain ⟨e, l, he, h1, h2⟩ := rho_solve hD u
  have hw : ∀ x, comb (k + 1) l M x = comb k l M x + l k * M k x := by intro x; simp [comb, sumN]
  have hv : ∀ b, b < k → (lc 1 (lc e u (-1) (comb k l M)) (- l k) (M k)) (C b) = 0 := by
    intro b hb
    have q1 := h1 b (by omega)
    have q2 := hw (C b)
    simp only [lc]
    grind
  have hz : ∀ x, e * rho M C k u x - l k * rho M C k (M k) x = dk M C k * (e * u x - comb (k + 1) l M x) := by
    intro x
    have h3 := rho_zero (M := M) hv x
    rw [rho_lin, rho_lin, rho_comb, sumN_zero (fun i hi => by rw [rho_own hi, Int.mul_zero])] at h3
    have h4 : (lc 1 (lc e u (-1) (comb k l M)) (- l k) (M k)) x = e * u x - comb (k + 1) l M x := by
      simp only [lc]; rw [hw x]; grind
    rw [h4] at h3
    rw [← h3]; grind
  have h5 := hz (C k)
  rw [h1 k (by omega), Int.sub_self, Int.mul_zero, ← dk_succ] at h5
  have h6 := hz j
  have h7 := h2 j
  -- e * (D_k rho') = D_{k+1} (D_k w) = D_{k+1} (e rho u j - l_k rho p j)
  have h8 : e * (dk M C k * rho M C (k + 1) u j) = e * (dk M C (k + 1) * rho M C k u j - rho M C k u (C k) * rho M C k (M k) j) := by
    have a1 : e * (dk M C k * rho M C (k + 1) u j) = dk M C k * (e * rho M C (k + 1) u j) := by grind
    rw [a1, h7]
    have a2 : dk M C k * (dk M C (k + 1) * (e * u j - comb (k + 1) l M j)) = dk M C (k + 1) * (dk M C k * (e * u j - comb (k + 1) l M j)) := by grind
    rw [a2, ← h6]
    have a3 : e * rho M C k u (C k) = l k * dk M C (k + 1) := by omega
    grind
  exact Int.eq_of_mul_eq_mul_left he h8

def unit (q : Nat) : Nat → Int := fun j => if j = q then 1 else 0

/-- The numbers of elimination: of a row that was chosen, and of another one. -/
def rr (M : Nat → Nat → Int) (C : Nat → Nat) (k i j : Nat) : Int :=
  if i < k then dk M C k * unit (C i) j - rho M C k (unit (C i)) j else rho M C k (M i) j

theorem rr_zero (M : Nat → Nat → Int) (C : Nat → Nat) (i j : Nat) : rr M C 0 i j = M i j := by
  unfold rr
  rw [if_neg (by omega), rho_zero (fun b hb => by omega)]
  simp [dk, cols, srows, od]

/-- One step: of each row but the chosen one. -/
theorem rr_step {M : Nat → Nat → Int} {C : Nat → Nat} {k i : Nat} (hD : dk M C (k + 1) ≠ 0) (hC : ∀ b, b < k → C b ≠ C k) (hi : i ≠ k) (j : Nat) :
    rr M C k k (C k) * rr M C k i j - rr M C k i (C k) * rr M C k k j = dk M C k * rr M C (k + 1) i j := by
  have hkk : ∀ x, rr M C k k x = rho M C k (M k) x := by intro x; unfold rr; rw [if_neg (by omega)]
  rw [hkk, hkk, ← dk_succ]
  by_cases h : i < k
  · have e1 : ∀ x, rr M C k i x = dk M C k * unit (C i) x - rho M C k (unit (C i)) x := by intro x; unfold rr; rw [if_pos h]
    have e2 : rr M C (k + 1) i j = dk M C (k + 1) * unit (C i) j - rho M C (k + 1) (unit (C i)) j := by unfold rr; rw [if_pos (by omega)]
    have e3 : unit (C i) (C k) = 0 := by unfold unit; rw [if_neg (fun e => hC i h e.symm)]
    rw [e1, e1, e2, e3, Int.mul_sub (dk M C k), sylvester hD]
    grind
  · have e1 : ∀ x, rr M C k i x = rho M C k (M i) x := by intro x; unfold rr; rw [if_neg h]
    have e2 : rr M C (k + 1) i j = rho M C (k + 1) (M i) j := by unfold rr; rw [if_neg (by omega)]
    rw [e1, e1, e2, sylvester hD]

/-- .. and the chosen one stays. -/
theorem rr_own {M : Nat → Nat → Int} {C : Nat → Nat} {k : Nat} (hk : dk M C k ≠ 0) (hD : dk M C (k + 1) ≠ 0) (hC : ∀ b, b < k → C b ≠ C k) (j : Nat) :
    rr M C (k + 1) k j = rr M C k k j := by
  have e1 : rr M C k k j = rho M C k (M k) j := by unfold rr; rw [if_neg (by omega)]
  have e2 : rr M C (k + 1) k j = dk M C (k + 1) * unit (C k) j - rho M C (k + 1) (unit (C k)) j := by unfold rr; rw [if_pos (by omega)]
  have hu : ∀ x, rho M C k (unit (C k)) x = dk M C k * unit (C k) x := fun x => rho_zero (fun b hb => by unfold unit; rw [if_neg (hC b hb)]) x
  have hs := sylvester hD (unit (C k)) j
  rw [hu, hu] at hs
  have e3 : unit (C k) (C k) = 1 := by simp [unit]
  rw [e3] at hs
  have e4 : dk M C k * (dk M C (k + 1) * unit (C k) j - rho M C (k + 1) (unit (C k)) j) = dk M C k * rho M C k (M k) j := by
    rw [Int.mul_sub, hs]; grind
  rw [e1, e2]
  exact Int.eq_of_mul_eq_mul_left hk e4

end Go.Proofs.Ytfbgcfbafnmahaa.Lin
