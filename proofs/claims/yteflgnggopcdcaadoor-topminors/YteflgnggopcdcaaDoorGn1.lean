/- TopMinors: the law. -/
import Derived.Test.YteflgnggopcdcaaDoorMdB
import Derived.Test.YteflgnggopcdcaaDoorGe5
import Derived.Test.YteflgnggopcdcaaDoorMs10
import Derived.Test.YteflgnggopcdcaaDoorMsC
import Derived.Deep.QuietTactic
import Derived.BigQuiet
namespace Go.Proofs.YteflgnggopcdcaaDoor
open Go.RowKit
attribute [local go_sem ↓] Go.wp_at_zero Go.wp_at_succ

theorem ris_l256 {bs : List Int} (h : Ris bs) (h8 : B8 bs) : bs.length ≤ 256 := by
  have hi : ∀ i : Nat, i < bs.length → (i : Int) ≤ bs.getD i 0 := fun i => by
    induction i with
    | zero => intro h0; exact (h8 _ (by simp [h0])).1
    | succ i ih =>
      intro hl
      have h1 := ih (by omega)
      have h2 := ris_get h (show i < i + 1 by omega) hl
      omega
  rcases Nat.eq_zero_or_pos bs.length with h0 | h0
  · omega
  · have h1 := hi (bs.length - 1) (by omega)
    have h2 := (h8 (bs.getD (bs.length - 1) 0) (by simp [show bs.length - 1 < bs.length by omega])).2
    omega

theorem mat_len {n : Nat} {bs : List Int} (h0 : matE (n : Int) bs = 0) : bs.length ≤ 256 := by
  obtain ⟨q, h⟩ := mat_mto h0
  exact ris_l256 h.ris h.b8

theorem dualM_any {n : Nat} {bs : List Int} (h0 : matE (n : Int) bs = 0) (v : Value) (w : World) (hv : Sl 0 3 w v (ints bs)) (hT : TabB w) :
    Calls Tryd.prog 6 #[.agg #[.int .i64 n, v]] w fun e w' => ∃ uo uc, e = .returned (.tuple #[.agg #[.int .i64 n, .slice uo (duB n bs).length uc], .int .i64 0]) ∧ Sl 0 3 w' (.slice uo (duB n bs).length uc) (ints (duB n bs)) ∧ Below w.heap.size w w' := by
  refine (dual_any n bs v w (hv.more (Nat.zero_le _)) (by have := mat_len h0; omega) hT).mono ?_
  rintro e w' ⟨u, rfl, h1, h2⟩
  obtain ⟨uo, uc, rfl, _, _⟩ := sl_open h1
  exact ⟨uo, uc, by rw [h0, show duN (n : Int) bs = n from if_pos h0], h1, h2⟩

theorem th_ok {n I : Nat} {bs : List Int} (h0 : matE (n : Int) bs = 0) (hI : I < n) : thE (n : Int) bs (I : Int) = 0 := by
  unfold thE
  rw [if_neg (by omega), if_neg (by omega)]

theorem deleteM_any {n m I : Nat} {bs : List Int} (h0 : matE (n : Int) bs = 0) (hI : I < n) (hm : n = m + 1) (v : Value) (w : World) (hv : Sl 0 3 w v (ints bs)) (hT : TabB w) :
    Calls Tryd.prog 7 #[.agg #[.int .i64 n, v], .int .i64 I] w fun e w' => ∃ uo uc, e = .returned (.tuple #[.agg #[.int .i64 m, .slice uo (mnL bs I (wiP false I)).length uc], .int .i64 0]) ∧ Sl 0 3 w' (.slice uo (mnL bs I (wiP false I)).length uc) (ints (mnL bs I (wiP false I))) ∧ Below w.heap.size w w' := by
  have ht := th_ok h0 hI
  have e1 : mnN (n : Int) bs (I : Int) = (m : Int) := by unfold mnN; rw [if_pos ht]; omega
  have e2 : mnB (n : Int) bs (I : Int) dlP = mnL bs I (wiP false I) := by unfold mnB; rw [if_pos ht, Int.toNat_natCast, wiP_del]
  refine (delete_any n bs I v w (hv.more (Nat.zero_le _)) (by have := mat_len h0; omega) hT).mono ?_
  rintro e w' ⟨u, rfl, h1, h2⟩
  rw [e2] at h1
  obtain ⟨uo, uc, rfl, _, _⟩ := sl_open h1
  exact ⟨uo, uc, by rw [ht, e1], h1, h2⟩

theorem contractM_any {n m I : Nat} {bs : List Int} (h0 : matE (n : Int) bs = 0) (hI : I < n) (hm : n = m + 1) (v : Value) (w : World) (hv : Sl 0 3 w v (ints bs)) (hT : TabB w) :
    Calls Tryd.prog 8 #[.agg #[.int .i64 n, v], .int .i64 I] w fun e w' => ∃ uo uc, e = .returned (.tuple #[.agg #[.int .i64 m, .slice uo (mnL bs I (wiP true I)).length uc], .int .i64 0]) ∧ Sl 0 3 w' (.slice uo (mnL bs I (wiP true I)).length uc) (ints (mnL bs I (wiP true I))) ∧ Below w.heap.size w w' := by
  have ht := th_ok h0 hI
  have e1 : mnN (n : Int) bs (I : Int) = (m : Int) := by unfold mnN; rw [if_pos ht]; omega
  have e2 : mnB (n : Int) bs (I : Int) cnP = mnL bs I (wiP true I) := by unfold mnB; rw [if_pos ht, Int.toNat_natCast, wiP_con]
  refine (contract_any n bs I v w (hv.more (Nat.zero_le _)) (by have := mat_len h0; omega) hT).mono ?_
  rintro e w' ⟨u, rfl, h1, h2⟩
  rw [e2] at h1
  obtain ⟨uo, uc, rfl, _, _⟩ := sl_open h1
  exact ⟨uo, uc, by rw [ht, e1], h1, h2⟩

/-- A box of the law's own: a matroid. -/
structure Bxm where
  b : Nat
  N : Int
  u : Value
  xs : List Int

/-- The law's boxes. -/
structure Mx (w W : World) (L : List Bxm) : Prop where
  bel : Below w.heap.size w W
  box : ∀ p ∈ L, W.heap[p.b]? = some (.cells #[.int .i64 p.N, p.u] 25 (0, 0))
  sl : ∀ p ∈ L, Sl 0 3 W p.u (ints p.xs)

theorem Mx.next {w W W' : World} {L : List Bxm} (h : Mx w W L) (hb : Below W.heap.size W W') : Mx w W' L :=
  ⟨h.bel.trans (hb.mono h.bel.size), fun p hp => (hb.block _ (Array.getElem?_eq_some_iff.1 (h.box p hp)).1).trans (h.box p hp), fun p hp => (h.sl p hp).below hb (Nat.le_refl _)⟩

theorem Mx.push {w W w' : World} {L : List Bxm} {N : Int} {u : Value} {xs : List Int} (h : Mx w W L) (hb : Below W.heap.size W w') (hs : Sl 0 3 w' u (ints xs)) : Mx w (w'.alloc (.cells #[.int .i64 N, u] 25)) (⟨w'.heap.size, N, u, xs⟩ :: L) := by
  have hb2 : Below w'.heap.size w' (w'.alloc (.cells #[.int .i64 N, u] 25)) := (Below.refl _ _).alloc (Nat.le_refl _) _
  have h' := (h.next hb).next hb2
  refine ⟨h'.bel, fun p hp => ?_, fun p hp => ?_⟩
  · rcases List.mem_cons.1 hp with rfl | hp
    · exact heap_alloc_new w' _
    · exact h'.box p hp
  · rcases List.mem_cons.1 hp with rfl | hp
    · exact hs.below hb2 (Nat.le_refl _)
    · exact h'.sl p hp

theorem Mx.c0 {w W : World} {L : List Bxm} (h : Mx w W L) {b : Nat} {N : Int} {u : Value} {xs : List Int} (hp : (⟨b, N, u, xs⟩ : Bxm) ∈ L) : W.cell? ⟨b, 0, none⟩ = some (.int .i64 N) := by
  simp [World.cell?, h.box _ hp]

theorem Mx.c1 {w W : World} {L : List Bxm} (h : Mx w W L) {b : Nat} {N : Int} {u : Value} {xs : List Int} (hp : (⟨b, N, u, xs⟩ : Bxm) ∈ L) : W.cell? ⟨b, 1, none⟩ = some u := by
  simp [World.cell?, h.box _ hp]

set_option maxRecDepth 100000 in
set_option maxHeartbeats 3200000 in
theorem topMinors_any (n0 kind i0 j0 : Int) (raw : List Int) (v : Value) (w : World) (hv : Sl w.heap.size 3 w v (ints raw)) (hr : ∀ z ∈ raw, In64 z) (hk : In64 kind) (hn0 : In64 n0) (hi0 : In64 i0) (hj0 : In64 j0) (hT : TabB w) :
    Calls Tryd.prog 3 #[v, .int .i64 kind, .int .i64 n0, .int .i64 i0, .int .i64 j0] w fun e w' => e = .returned (.bool true) ∧ Below w.heap.size w w' := by
  obtain ⟨lo, lc, hvv, hlc, hcm⟩ := sl_open hv
  subst hvv
  by_cases hl40 : 256 < raw.length
  · have b0 : decide ((256 : Int) < (raw.length : Int)) = true := decide_eq_true (by omega)
    clear hv hr hT
    go_enter Tryd.func3, Tryd.ntmps3
    go_wp2
    go_ret
    exact ⟨rfl, Below.refl _ _⟩
  have b0 : decide ((256 : Int) < (raw.length : Int)) = false := decide_eq_false (by omega)
  have hll : raw.length ≤ 256 := by omega
  obtain ⟨pf, hpf⟩ : ∃ pf : Nat, pickF n0 5 = (pf : Int) := ⟨(pickF n0 5).toNat, by have := (pickF_bd (c := n0) (n := 5) (by decide)).1; omega⟩
  have hpf5 : pf < 5 := by have := (pickF_bd (c := n0) (n := 5) (by decide)).2; omega
  obtain ⟨k, hkk⟩ : ∃ k : Nat, k = pf := ⟨_, rfl⟩
  obtain ⟨m, hm⟩ : ∃ m : Nat, m = k + 1 := ⟨_, rfl⟩
  obtain ⟨n, hn⟩ : ∃ n : Nat, n = m + 1 := ⟨_, rfl⟩
  have HP1 : Hid (∀ W', Calls Tryd.prog 4 #[.int .i64 n0, .int .i64 5] W' fun e w' => e = .returned (.int .i64 pf) ∧ w' = W') := fun W' => by rw [← hpf]; exact pick_val n0 5 W' (by omega) (by omega) hn0
  obtain ⟨I, hI⟩ : ∃ I : Nat, pickF i0 n = (I : Int) := ⟨(pickF i0 n).toNat, by have := (pickF_bd (c := i0) (n := n) (by omega)).1; omega⟩
  have hIn : I < n := by have := (pickF_bd (c := i0) (n := n) (by omega)).2; omega
  have HP2 : Hid (∀ W', Calls Tryd.prog 4 #[.int .i64 i0, .int .i64 n] W' fun e w' => e = .returned (.int .i64 I) ∧ w' = W') := fun W' => by rw [← hI]; exact pick_val i0 n W' (by omega) (by omega) hi0
  obtain ⟨J, hJ⟩ : ∃ J : Nat, pickF j0 m = (J : Int) := ⟨(pickF j0 m).toNat, by have := (pickF_bd (c := j0) (n := m) (by omega)).1; omega⟩
  have hJm : J < m := by have := (pickF_bd (c := j0) (n := m) (by omega)).2; omega
  have HP3 : Hid (∀ W', Calls Tryd.prog 4 #[.int .i64 j0, .int .i64 m] W' fun e w' => e = .returned (.int .i64 J) ∧ w' = W') := fun W' => by rw [← hJ]; exact pick_val j0 m W' (by omega) (by omega) hj0
  have HT : Hid (∀ W', Below w.heap.size w W' → TabB W') := fun W' h => hT.below h
  have HMF : Hid (Calls Tryd.prog 5 #[.slice lo raw.length lc, .int .i64 0, .int .i64 kind, .int .i64 n] w fun e w' => ∃ u bs, e = .returned (.agg #[.int .i64 n, u]) ∧ Sl 0 3 w' u (ints bs) ∧ matE (n : Int) bs = 0 ∧ Below w.heap.size w w') := matroidFrom_is n kind raw _ w hv hr hll hk (by omega) (by omega)
  have a1 : IntKind.i64.wrap (2 + (pf : Int)) = (n : Int) := by
    rw [show (2 + (pf : Int)) = (n : Int) by omega]; exact wrap_small (by omega)
  have a2 : IntKind.i64.wrap ((n : Int) - 1) = (m : Int) := by
    rw [show ((n : Int) - 1) = (m : Int) by omega]; exact wrap_small (by omega)
  have HN : Hid (n = m + 1) := hn
  have HM : Hid (m = k + 1) := hm
  have HIN : Hid (I < n) := hIn
  have HJM : Hid (J < m) := hJm
  have HN6 : Hid (n ≤ 6) := by show n ≤ 6; omega
  have tm : ((m : Int) != (m : Int)) = false := by simp
  have tk : ((k : Int) == (k : Int)) = true := by simp
  clear hv hT hr hpf hl40 hn hm hkk hI hJ hpf5 hIn hJm hll
  go_enter Tryd.func3, Tryd.ntmps3
  go_wp2_with fail
  refine (HP1.out w).mono ?_
  rintro e w1 ⟨rfl, hw1⟩
  obtain rfl := hw1.symm
  clear hw1
  go_wp2_with fail
  refine HMF.out.mono ?_
  rintro e w2 ⟨u, bs, rfl, hsu, hmat, hb2⟩
  obtain ⟨uo, uc, huv, _, _⟩ := sl_open hsu
  subst huv
  have HMAT : Hid (matE (n : Int) bs = 0) := hmat
  have HDM : Hid (matE (n : Int) (duB (n : Int) bs) = 0) := du_mat hmat
  have HCM : Hid (matE (m : Int) (mnL bs I (wiP true I)) = 0) := by
    have := mn_mat hmat HIN.out true
    rw [show n - 1 = m by have := HN.out; omega] at this
    exact this
  have HE1 : Hid (mnL (duB (n : Int) bs) I (wiP false I) = duB (m : Int) (mnL bs I (wiP true I))) := by
    have := du_mn hmat HIN.out
    rw [show n - 1 = m by have := HN.out; omega] at this
    exact this
  obtain ⟨W3, hW3⟩ : ∃ W3, W3 = w2.alloc (.cells #[.int .i64 n, .slice uo bs.length uc] 25) := ⟨_, rfl⟩
  have HX3 : Hid (Mx w W3 [⟨w2.heap.size, n, .slice uo bs.length uc, bs⟩]) := by
    rw [hW3]
    exact Mx.push (L := []) ⟨Below.refl _ _, fun p hp => by simp at hp, fun p hp => by simp at hp⟩ hb2 hsu
  have HW3 : Hid (W3 = w2.alloc (.cells #[.int .i64 n, .slice uo bs.length uc] 25)) := hW3
  clear hsu hmat hb2 hW3 HMF
  go_wp2_with fail
  rw [← HW3.out]
  clear HW3
  refine (HP2.out W3).mono ?_
  rintro e w4 ⟨rfl, hw4⟩
  obtain rfl := hw4.symm
  clear hw4
  have x0 := HX3.out.c0 (b := w2.heap.size) (List.mem_singleton.2 rfl)
  have x1 := HX3.out.c1 (b := w2.heap.size) (List.mem_singleton.2 rfl)
  go_wp2_with fail
  refine (dualM_any HMAT.out _ W3 (HX3.out.sl _ (List.mem_singleton.2 rfl)) (HT.out _ HX3.out.bel)).mono ?_
  clear x0 x1
  rintro e w5 ⟨do', dc, rfl, hs5, hb5⟩
  obtain ⟨W5, hW5⟩ : ∃ W5, W5 = w5.alloc (.cells #[.int .i64 n, .slice do' (duB (n : Int) bs).length dc] 25) := ⟨_, rfl⟩
  have HX5 : Hid (Mx w W5 (⟨w5.heap.size, n, .slice do' (duB (n : Int) bs).length dc, duB (n : Int) bs⟩ :: [⟨w2.heap.size, n, .slice uo bs.length uc, bs⟩])) := by
    rw [hW5]; exact HX3.out.push hb5 hs5
  have HW5 : Hid (W5 = w5.alloc (.cells #[.int .i64 n, .slice do' (duB (n : Int) bs).length dc] 25)) := hW5
  have HDL : Hid (Calls Tryd.prog 7 #[.agg #[.int .i64 n, .slice do' (duB (n : Int) bs).length dc], .int .i64 I] W5 fun e w' => ∃ uo uc, e = .returned (.tuple #[.agg #[.int .i64 m, .slice uo (mnL (duB (n : Int) bs) I (wiP false I)).length uc], .int .i64 0]) ∧ Sl 0 3 w' (.slice uo (mnL (duB (n : Int) bs) I (wiP false I)).length uc) (ints (mnL (duB (n : Int) bs) I (wiP false I))) ∧ Below W5.heap.size W5 w') :=
    deleteM_any HDM.out HIN.out HN.out _ W5 (HX5.out.sl _ List.mem_cons_self) (HT.out _ HX5.out.bel)
  generalize duB (n : Int) bs = D at *
  have x0 : (w5.alloc (.cells #[.int .i64 n, .slice do' D.length dc] 25)).cell? ⟨w5.heap.size, 0, none⟩ = some (.int .i64 n) := by rw [← hW5]; exact HX5.out.c0 List.mem_cons_self
  have x1 : (w5.alloc (.cells #[.int .i64 n, .slice do' D.length dc] 25)).cell? ⟨w5.heap.size, 1, none⟩ = some (.slice do' D.length dc) := by rw [← hW5]; exact HX5.out.c1 List.mem_cons_self
  clear hs5 hb5 hW5
  go_wp2_with fail
  rw [← HW5.out]
  clear HW5 x0 x1 HX3
  refine HDL.out.mono ?_
  rintro e w6 ⟨ao, ac, rfl, hs6, hb6⟩
  clear HDL
  generalize mnL D I (wiP false I) = A at *
  obtain ⟨W6, hW6⟩ : ∃ W6, W6 = w6.alloc (.cells #[.int .i64 m, .slice ao A.length ac] 25) := ⟨_, rfl⟩
  have HX6 : Hid (Mx w W6 [⟨w6.heap.size, m, .slice ao A.length ac, A⟩, ⟨w2.heap.size, n, .slice uo bs.length uc, bs⟩]) := by
    have h := HX5.out.push (N := m) hb6 hs6
    rw [← hW6] at h
    exact ⟨h.bel, fun p hp => h.box p (by simp only [List.mem_cons] at hp ⊢; rcases hp with hp | hp | hp <;> simp_all), fun p hp => h.sl p (by simp only [List.mem_cons] at hp ⊢; rcases hp with hp | hp | hp <;> simp_all)⟩
  have HW6 : Hid (W6 = w6.alloc (.cells #[.int .i64 m, .slice ao A.length ac] 25)) := hW6
  have x0 : (w6.alloc (.cells #[.int .i64 m, .slice ao A.length ac] 25)).cell? ⟨w2.heap.size, 0, none⟩ = some (.int .i64 n) := by rw [← hW6]; exact HX6.out.c0 (xs := bs) (u := .slice uo bs.length uc) (by simp)
  have x1 : (w6.alloc (.cells #[.int .i64 m, .slice ao A.length ac] 25)).cell? ⟨w2.heap.size, 1, none⟩ = some (.slice uo bs.length uc) := by rw [← hW6]; exact HX6.out.c1 (xs := bs) (N := n) (by simp)
  have HCT : Hid (Calls Tryd.prog 8 #[.agg #[.int .i64 n, .slice uo bs.length uc], .int .i64 I] W6 fun e w' => ∃ uo uc, e = .returned (.tuple #[.agg #[.int .i64 m, .slice uo (mnL bs I (wiP true I)).length uc], .int .i64 0]) ∧ Sl 0 3 w' (.slice uo (mnL bs I (wiP true I)).length uc) (ints (mnL bs I (wiP true I))) ∧ Below W6.heap.size W6 w') :=
    contractM_any HMAT.out HIN.out HN.out _ W6 (HX6.out.sl ⟨w2.heap.size, n, .slice uo bs.length uc, bs⟩ (by simp)) (HT.out _ HX6.out.bel)
  clear hs6 hb6 hW6
  go_wp2_with fail
  rw [← HW6.out]
  clear HW6 x0 x1 HX5
  refine HCT.out.mono ?_
  rintro e w7 ⟨co, cc, rfl, hs7, hb7⟩
  clear HCT
  obtain ⟨C, hC⟩ : ∃ C, C = mnL bs I (wiP true I) := ⟨_, rfl⟩
  have HCD : Hid (C = mnL bs I (wiP true I)) := hC
  rw [← hC] at hs7 HCM HE1 ⊢
  clear hC
  obtain ⟨W7, hW7⟩ : ∃ W7, W7 = w7.alloc (.cells #[.int .i64 m, .slice co C.length cc] 25) := ⟨_, rfl⟩
  have HX7 : Hid (Mx w W7 [⟨w7.heap.size, m, .slice co C.length cc, C⟩, ⟨w6.heap.size, m, .slice ao A.length ac, A⟩, ⟨w2.heap.size, n, .slice uo bs.length uc, bs⟩]) := by
    rw [hW7]; exact HX6.out.push hb7 hs7
  have HW7 : Hid (W7 = w7.alloc (.cells #[.int .i64 m, .slice co C.length cc] 25)) := hW7
  have x0 : (w7.alloc (.cells #[.int .i64 m, .slice co C.length cc] 25)).cell? ⟨w7.heap.size, 0, none⟩ = some (.int .i64 m) := by rw [← hW7]; exact HX7.out.c0 (xs := C) (u := .slice co C.length cc) (by simp)
  have x1 : (w7.alloc (.cells #[.int .i64 m, .slice co C.length cc] 25)).cell? ⟨w7.heap.size, 1, none⟩ = some (.slice co C.length cc) := by rw [← hW7]; exact HX7.out.c1 (xs := C) (N := m) (by simp)
  have HDC : Hid (Calls Tryd.prog 6 #[.agg #[.int .i64 m, .slice co C.length cc]] W7 fun e w' => ∃ uo uc, e = .returned (.tuple #[.agg #[.int .i64 m, .slice uo (duB (m : Int) C).length uc], .int .i64 0]) ∧ Sl 0 3 w' (.slice uo (duB (m : Int) C).length uc) (ints (duB (m : Int) C)) ∧ Below W7.heap.size W7 w') :=
    dualM_any HCM.out _ W7 (HX7.out.sl ⟨w7.heap.size, m, .slice co C.length cc, C⟩ (by simp)) (HT.out _ HX7.out.bel)
  clear hs7 hb7 hW7
  go_wp2_with fail
  rw [← HW7.out]
  clear HW7 x0 x1 HX6
  refine HDC.out.mono ?_
  rintro e w8 ⟨eo, ec, rfl, hs8, hb8⟩
  clear HDC
  rw [← HE1.out] at hs8 ⊢
  obtain ⟨W8, hW8⟩ : ∃ W8, W8 = w8.alloc (.cells #[.int .i64 m, .slice eo A.length ec] 25) := ⟨_, rfl⟩
  have HX8 : Hid (Mx w W8 [⟨w8.heap.size, m, .slice eo A.length ec, A⟩, ⟨w7.heap.size, m, .slice co C.length cc, C⟩, ⟨w6.heap.size, m, .slice ao A.length ac, A⟩, ⟨w2.heap.size, n, .slice uo bs.length uc, bs⟩]) := by
    rw [hW8]; exact HX7.out.push hb8 hs8
  have HW8 : Hid (W8 = w8.alloc (.cells #[.int .i64 m, .slice eo A.length ec] 25)) := hW8
  have x0 : (w8.alloc (.cells #[.int .i64 m, .slice eo A.length ec] 25)).cell? ⟨w6.heap.size, 0, none⟩ = some (.int .i64 m) := by rw [← hW8]; exact HX8.out.c0 (xs := A) (u := .slice ao A.length ac) (by simp)
  have x1 : (w8.alloc (.cells #[.int .i64 m, .slice eo A.length ec] 25)).cell? ⟨w6.heap.size, 1, none⟩ = some (.slice ao A.length ac) := by rw [← hW8]; exact HX8.out.c1 (xs := A) (N := m) (by simp)
  have x2 : (w8.alloc (.cells #[.int .i64 m, .slice eo A.length ec] 25)).cell? ⟨w8.heap.size, 1, none⟩ = some (.slice eo A.length ec) := by rw [← hW8]; exact HX8.out.c1 (xs := A) (N := m) (by simp)
  have HSA : Hid (Calls Tryd.prog 9 #[.slice ao A.length ac, .slice eo A.length ec] W8 fun e w' => e = .returned (.bool true) ∧ ∃ n, w' = W8.drewN n) := by
    have h := same_any 0 A A _ _ W8 (HX8.out.sl ⟨w6.heap.size, m, .slice ao A.length ac, A⟩ (by simp)) (HX8.out.sl ⟨w8.heap.size, m, .slice eo A.length ec, A⟩ (by simp))
    rw [show (A == A) = true by simp] at h
    exact h
  clear hs8 hb8 hW8
  go_wp2_with fail
  rw [← HW8.out]
  clear HW8 x0 x1 x2 HX7
  refine HSA.out.mono ?_
  rintro e w9 ⟨rfl, d9, rfl⟩
  clear HSA
  have HX9 : Hid (Mx w (W8.drewN d9) [⟨w7.heap.size, m, .slice co C.length cc, C⟩, ⟨w2.heap.size, n, .slice uo bs.length uc, bs⟩]) := by
    have h := HX8.out.next (W' := W8.drewN d9) ⟨rfl, rfl, rfl, Nat.le_refl _, fun _ _ => rfl⟩
    exact ⟨h.bel, fun p hp => h.box p (by simp only [List.mem_cons] at hp ⊢; rcases hp with hp | hp | hp <;> simp_all), fun p hp => h.sl p (by simp only [List.mem_cons] at hp ⊢; rcases hp with hp | hp | hp <;> simp_all)⟩
  generalize W8.drewN d9 = W9 at *
  go_wp2_with fail
  refine (HP3.out W9).mono ?_
  rintro e w10 ⟨rfl, hw10⟩
  obtain rfl := hw10.symm
  clear hw10
  have x0 : W9.cell? ⟨w7.heap.size, 0, none⟩ = some (.int .i64 m) := HX9.out.c0 (xs := C) (u := .slice co C.length cc) (by simp)
  have x1 : W9.cell? ⟨w7.heap.size, 1, none⟩ = some (.slice co C.length cc) := HX9.out.c1 (xs := C) (N := m) (by simp)
  have HDX : Hid (Calls Tryd.prog 7 #[.agg #[.int .i64 m, .slice co C.length cc], .int .i64 J] W9 fun e w' => ∃ uo uc, e = .returned (.tuple #[.agg #[.int .i64 k, .slice uo (mnL C J (wiP false J)).length uc], .int .i64 0]) ∧ Sl 0 3 w' (.slice uo (mnL C J (wiP false J)).length uc) (ints (mnL C J (wiP false J))) ∧ Below W9.heap.size W9 w') :=
    deleteM_any HCM.out HJM.out HM.out _ W9 (HX9.out.sl ⟨w7.heap.size, m, .slice co C.length cc, C⟩ (by simp)) (HT.out _ HX9.out.bel)
  go_wp2_with fail
  clear x0 x1
  refine HDX.out.mono ?_
  rintro e w11 ⟨xo, xc, rfl, hs11, hb11⟩
  clear HDX HX8
  obtain ⟨X, hX⟩ : ∃ X, X = mnL C J (wiP false J) := ⟨_, rfl⟩
  have HXD : Hid (X = mnL C J (wiP false J)) := hX
  rw [← hX] at hs11 ⊢
  clear hX
  obtain ⟨W11, hW11⟩ : ∃ W11, W11 = w11.alloc (.cells #[.int .i64 k, .slice xo X.length xc] 25) := ⟨_, rfl⟩
  have HX11 : Hid (Mx w W11 [⟨w11.heap.size, k, .slice xo X.length xc, X⟩, ⟨w7.heap.size, m, .slice co C.length cc, C⟩, ⟨w2.heap.size, n, .slice uo bs.length uc, bs⟩]) := by
    rw [hW11]; exact HX9.out.push hb11 hs11
  have HW11 : Hid (W11 = w11.alloc (.cells #[.int .i64 k, .slice xo X.length xc] 25)) := hW11
  have x0 : (w11.alloc (.cells #[.int .i64 k, .slice xo X.length xc] 25)).cell? ⟨w2.heap.size, 0, none⟩ = some (.int .i64 n) := by rw [← hW11]; exact HX11.out.c0 (xs := bs) (u := .slice uo bs.length uc) (by simp)
  have x1 : (w11.alloc (.cells #[.int .i64 k, .slice xo X.length xc] 25)).cell? ⟨w2.heap.size, 1, none⟩ = some (.slice uo bs.length uc) := by rw [← hW11]; exact HX11.out.c1 (xs := bs) (N := n) (by simp)
  clear hs11 hb11 hW11
  have HTL : Hid (∀ f g : Nat, f = (if J < I then J else J + 1) → g = (if J < I then I - 1 else I) → f < n ∧ g < m ∧ matE (m : Int) (mnL bs f (wiP false f)) = 0 ∧ mnL (mnL bs f (wiP false f)) g (wiP true g) = X) := fun f g hf hg => by
    have h1 := HN.out
    have h2 := HIN.out
    have h3 := HJM.out
    have hfn : f < n := by rw [hf]; split <;> omega
    have hgm : g < m := by rw [hg]; split <;> omega
    refine ⟨hfn, hgm, ?_, ?_⟩
    · have := mn_mat HMAT.out hfn false
      rw [show n - 1 = m by omega] at this
      exact this
    · rw [HXD.out, HCD.out]
      exact (mn_mn HMAT.out h2 (by omega) hf hg).symm
  clear HCM HE1 HDM
  by_cases hji : J < I
  · have q0 : decide ((I : Int) ≤ (J : Int)) = false := decide_eq_false (by omega)
    have q0' : decide (I ≤ J) = false := decide_eq_false (by omega)
    obtain ⟨f, hf⟩ : ∃ f : Nat, f = J := ⟨_, rfl⟩
    obtain ⟨g, hg⟩ : ∃ g : Nat, g = I - 1 := ⟨_, rfl⟩
    obtain ⟨hfn, hgm, hym, hzx⟩ := HTL.out f g (by rw [if_pos hji]; exact hf) (by rw [if_pos hji]; exact hg)
    have h6 := HN6.out
    have qw : IntKind.i64.wrap ((I : Int) - 1) = (g : Int) := by
      rw [show ((I : Int) - 1) = (g : Int) by omega]; exact wrap_small (by have := HIN.out; have := HJM.out; have := HM.out; have := HN.out; omega)
    have HYD : Hid (Calls Tryd.prog 7 #[.agg #[.int .i64 n, .slice uo bs.length uc], .int .i64 J] W11 fun e w' => ∃ uo uc, e = .returned (.tuple #[.agg #[.int .i64 m, .slice uo (mnL bs f (wiP false f)).length uc], .int .i64 0]) ∧ Sl 0 3 w' (.slice uo (mnL bs f (wiP false f)).length uc) (ints (mnL bs f (wiP false f))) ∧ Below W11.heap.size W11 w') := by
      subst hf
      exact deleteM_any HMAT.out hfn HN.out _ W11 (HX11.out.sl ⟨w2.heap.size, n, .slice uo bs.length uc, bs⟩ (by simp)) (HT.out _ HX11.out.bel)
    obtain ⟨Y, hY⟩ : ∃ Y, Y = mnL bs f (wiP false f) := ⟨_, rfl⟩
    rw [← hY] at HYD hym hzx
    have HYM : Hid (matE (m : Int) Y = 0) := hym
    have HZX : Hid (mnL Y g (wiP true g) = X) := hzx
    have HGM : Hid (g < m) := hgm
    have HGE : Hid (g = I - 1) := hg
    clear hym hzx hgm hfn h6 hY hji HTL hg hf
    go_wp2_with fail
    rw [← HW11.out]
    clear HW11 x0 x1 HX9
    refine HYD.out.mono ?_
    rintro e w12 ⟨yo, yc, rfl, hs12, hb12⟩
    clear HYD
    obtain ⟨W12, hW12⟩ : ∃ W12, W12 = w12.alloc (.cells #[.int .i64 m, .slice yo Y.length yc] 25) := ⟨_, rfl⟩
    have HX12 : Hid (Mx w W12 [⟨w12.heap.size, m, .slice yo Y.length yc, Y⟩, ⟨w11.heap.size, k, .slice xo X.length xc, X⟩, ⟨w7.heap.size, m, .slice co C.length cc, C⟩, ⟨w2.heap.size, n, .slice uo bs.length uc, bs⟩]) := by
      rw [hW12]; exact HX11.out.push hb12 hs12
    have HW12 : Hid (W12 = w12.alloc (.cells #[.int .i64 m, .slice yo Y.length yc] 25)) := hW12
    have x0 : (w12.alloc (.cells #[.int .i64 m, .slice yo Y.length yc] 25)).cell? ⟨w12.heap.size, 0, none⟩ = some (.int .i64 m) := by rw [← hW12]; exact HX12.out.c0 (xs := Y) (u := .slice yo Y.length yc) (by simp)
    have x1 : (w12.alloc (.cells #[.int .i64 m, .slice yo Y.length yc] 25)).cell? ⟨w12.heap.size, 1, none⟩ = some (.slice yo Y.length yc) := by rw [← hW12]; exact HX12.out.c1 (xs := Y) (N := m) (by simp)
    have HZC : Hid (Calls Tryd.prog 8 #[.agg #[.int .i64 m, .slice yo Y.length yc], .int .i64 g] W12 fun e w' => ∃ uo uc, e = .returned (.tuple #[.agg #[.int .i64 k, .slice uo X.length uc], .int .i64 0]) ∧ Sl 0 3 w' (.slice uo X.length uc) (ints X) ∧ Below W12.heap.size W12 w') := by
      skip
      rw [← HZX.out]
      exact contractM_any HYM.out HGM.out HM.out _ W12 (HX12.out.sl ⟨w12.heap.size, m, .slice yo Y.length yc, Y⟩ (by simp)) (HT.out _ HX12.out.bel)
    clear hs12 hb12 hW12
    go_wp2_with fail
    rw [← HW12.out]
    clear HW12 x0 x1 HX11
    refine HZC.out.mono ?_
    rintro e w13 ⟨zo, zc, rfl, hs13, hb13⟩
    clear HZC
    obtain ⟨W13, hW13⟩ : ∃ W13, W13 = w13.alloc (.cells #[.int .i64 k, .slice zo X.length zc] 25) := ⟨_, rfl⟩
    have HX13 : Hid (Mx w W13 [⟨w13.heap.size, k, .slice zo X.length zc, X⟩, ⟨w12.heap.size, m, .slice yo Y.length yc, Y⟩, ⟨w11.heap.size, k, .slice xo X.length xc, X⟩, ⟨w7.heap.size, m, .slice co C.length cc, C⟩, ⟨w2.heap.size, n, .slice uo bs.length uc, bs⟩]) := by
      rw [hW13]; exact HX12.out.push hb13 hs13
    have HW13 : Hid (W13 = w13.alloc (.cells #[.int .i64 k, .slice zo X.length zc] 25)) := hW13
    have x0 : (w13.alloc (.cells #[.int .i64 k, .slice zo X.length zc] 25)).cell? ⟨w11.heap.size, 0, none⟩ = some (.int .i64 k) := by rw [← hW13]; exact HX13.out.c0 (xs := X) (u := .slice xo X.length xc) (by simp)
    have x1 : (w13.alloc (.cells #[.int .i64 k, .slice zo X.length zc] 25)).cell? ⟨w11.heap.size, 1, none⟩ = some (.slice xo X.length xc) := by rw [← hW13]; exact HX13.out.c1 (xs := X) (N := k) (by simp)
    have x2 : (w13.alloc (.cells #[.int .i64 k, .slice zo X.length zc] 25)).cell? ⟨w13.heap.size, 0, none⟩ = some (.int .i64 k) := by rw [← hW13]; exact HX13.out.c0 (xs := X) (u := .slice zo X.length zc) (by simp)
    have x3 : (w13.alloc (.cells #[.int .i64 k, .slice zo X.length zc] 25)).cell? ⟨w13.heap.size, 1, none⟩ = some (.slice zo X.length zc) := by rw [← hW13]; exact HX13.out.c1 (xs := X) (N := k) (by simp)
    have HSX : Hid (Calls Tryd.prog 9 #[.slice xo X.length xc, .slice zo X.length zc] W13 fun e w' => e = .returned (.bool true) ∧ ∃ n, w' = W13.drewN n) := by
      have h := same_any 0 X X _ _ W13 (HX13.out.sl ⟨w11.heap.size, k, .slice xo X.length xc, X⟩ (by simp)) (HX13.out.sl ⟨w13.heap.size, k, .slice zo X.length zc, X⟩ (by simp))
      rw [show (X == X) = true by simp] at h
      exact h
    clear hs13 hb13 hW13
    go_wp2_with fail
    rw [← HW13.out]
    clear HW13 x0 x1 x2 x3 HX12
    refine HSX.out.mono ?_
    rintro e w14 ⟨rfl, d14, rfl⟩
    clear HSX
    have HBZ : Hid (Below w.heap.size w (W13.drewN d14)) := HX13.out.bel.trans ⟨rfl, rfl, rfl, Nat.le_refl _, fun _ _ => rfl⟩
    generalize W13.drewN d14 = W14 at *
    go_wp2
    go_ret
    exact ⟨by first | rfl | simp_all, HBZ.out⟩
  · have q0 : decide ((I : Int) ≤ (J : Int)) = true := decide_eq_true (by omega)
    have q0' : decide (I ≤ J) = true := decide_eq_true (by omega)
    obtain ⟨f, hf⟩ : ∃ f : Nat, f = J + 1 := ⟨_, rfl⟩
    obtain ⟨g, hg⟩ : ∃ g : Nat, g = I := ⟨_, rfl⟩
    obtain ⟨hfn, hgm, hym, hzx⟩ := HTL.out f g (by rw [if_neg hji]; exact hf) (by rw [if_neg hji]; exact hg)
    have h6 := HN6.out
    have qw : IntKind.i64.wrap ((J : Int) + 1) = (f : Int) := by
      rw [show ((J : Int) + 1) = (f : Int) by omega]; exact wrap_small (by have := HIN.out; have := HJM.out; have := HM.out; have := HN.out; omega)
    have HYD : Hid (Calls Tryd.prog 7 #[.agg #[.int .i64 n, .slice uo bs.length uc], .int .i64 f] W11 fun e w' => ∃ uo uc, e = .returned (.tuple #[.agg #[.int .i64 m, .slice uo (mnL bs f (wiP false f)).length uc], .int .i64 0]) ∧ Sl 0 3 w' (.slice uo (mnL bs f (wiP false f)).length uc) (ints (mnL bs f (wiP false f))) ∧ Below W11.heap.size W11 w') := by
      skip
      exact deleteM_any HMAT.out hfn HN.out _ W11 (HX11.out.sl ⟨w2.heap.size, n, .slice uo bs.length uc, bs⟩ (by simp)) (HT.out _ HX11.out.bel)
    obtain ⟨Y, hY⟩ : ∃ Y, Y = mnL bs f (wiP false f) := ⟨_, rfl⟩
    rw [← hY] at HYD hym hzx
    have HYM : Hid (matE (m : Int) Y = 0) := hym
    have HZX : Hid (mnL Y g (wiP true g) = X) := hzx
    have HGM : Hid (g < m) := hgm
    have HGE : Hid (g = I) := hg
    clear hym hzx hgm hfn h6 hY hji HTL hg hf
    go_wp2_with fail
    rw [← HW11.out]
    clear HW11 x0 x1 HX9
    refine HYD.out.mono ?_
    rintro e w12 ⟨yo, yc, rfl, hs12, hb12⟩
    clear HYD
    obtain ⟨W12, hW12⟩ : ∃ W12, W12 = w12.alloc (.cells #[.int .i64 m, .slice yo Y.length yc] 25) := ⟨_, rfl⟩
    have HX12 : Hid (Mx w W12 [⟨w12.heap.size, m, .slice yo Y.length yc, Y⟩, ⟨w11.heap.size, k, .slice xo X.length xc, X⟩, ⟨w7.heap.size, m, .slice co C.length cc, C⟩, ⟨w2.heap.size, n, .slice uo bs.length uc, bs⟩]) := by
      rw [hW12]; exact HX11.out.push hb12 hs12
    have HW12 : Hid (W12 = w12.alloc (.cells #[.int .i64 m, .slice yo Y.length yc] 25)) := hW12
    have x0 : (w12.alloc (.cells #[.int .i64 m, .slice yo Y.length yc] 25)).cell? ⟨w12.heap.size, 0, none⟩ = some (.int .i64 m) := by rw [← hW12]; exact HX12.out.c0 (xs := Y) (u := .slice yo Y.length yc) (by simp)
    have x1 : (w12.alloc (.cells #[.int .i64 m, .slice yo Y.length yc] 25)).cell? ⟨w12.heap.size, 1, none⟩ = some (.slice yo Y.length yc) := by rw [← hW12]; exact HX12.out.c1 (xs := Y) (N := m) (by simp)
    have HZC : Hid (Calls Tryd.prog 8 #[.agg #[.int .i64 m, .slice yo Y.length yc], .int .i64 I] W12 fun e w' => ∃ uo uc, e = .returned (.tuple #[.agg #[.int .i64 k, .slice uo X.length uc], .int .i64 0]) ∧ Sl 0 3 w' (.slice uo X.length uc) (ints X) ∧ Below W12.heap.size W12 w') := by
      rw [← HGE.out]
      rw [← HZX.out]
      exact contractM_any HYM.out HGM.out HM.out _ W12 (HX12.out.sl ⟨w12.heap.size, m, .slice yo Y.length yc, Y⟩ (by simp)) (HT.out _ HX12.out.bel)
    clear hs12 hb12 hW12
    go_wp2_with fail
    rw [← HW12.out]
    clear HW12 x0 x1 HX11
    refine HZC.out.mono ?_
    rintro e w13 ⟨zo, zc, rfl, hs13, hb13⟩
    clear HZC
    obtain ⟨W13, hW13⟩ : ∃ W13, W13 = w13.alloc (.cells #[.int .i64 k, .slice zo X.length zc] 25) := ⟨_, rfl⟩
    have HX13 : Hid (Mx w W13 [⟨w13.heap.size, k, .slice zo X.length zc, X⟩, ⟨w12.heap.size, m, .slice yo Y.length yc, Y⟩, ⟨w11.heap.size, k, .slice xo X.length xc, X⟩, ⟨w7.heap.size, m, .slice co C.length cc, C⟩, ⟨w2.heap.size, n, .slice uo bs.length uc, bs⟩]) := by
      rw [hW13]; exact HX12.out.push hb13 hs13
    have HW13 : Hid (W13 = w13.alloc (.cells #[.int .i64 k, .slice zo X.length zc] 25)) := hW13
    have x0 : (w13.alloc (.cells #[.int .i64 k, .slice zo X.length zc] 25)).cell? ⟨w11.heap.size, 0, none⟩ = some (.int .i64 k) := by rw [← hW13]; exact HX13.out.c0 (xs := X) (u := .slice xo X.length xc) (by simp)
    have x1 : (w13.alloc (.cells #[.int .i64 k, .slice zo X.length zc] 25)).cell? ⟨w11.heap.size, 1, none⟩ = some (.slice xo X.length xc) := by rw [← hW13]; exact HX13.out.c1 (xs := X) (N := k) (by simp)
    have x2 : (w13.alloc (.cells #[.int .i64 k, .slice zo X.length zc] 25)).cell? ⟨w13.heap.size, 0, none⟩ = some (.int .i64 k) := by rw [← hW13]; exact HX13.out.c0 (xs := X) (u := .slice zo X.length zc) (by simp)
    have x3 : (w13.alloc (.cells #[.int .i64 k, .slice zo X.length zc] 25)).cell? ⟨w13.heap.size, 1, none⟩ = some (.slice zo X.length zc) := by rw [← hW13]; exact HX13.out.c1 (xs := X) (N := k) (by simp)
    have HSX : Hid (Calls Tryd.prog 9 #[.slice xo X.length xc, .slice zo X.length zc] W13 fun e w' => e = .returned (.bool true) ∧ ∃ n, w' = W13.drewN n) := by
      have h := same_any 0 X X _ _ W13 (HX13.out.sl ⟨w11.heap.size, k, .slice xo X.length xc, X⟩ (by simp)) (HX13.out.sl ⟨w13.heap.size, k, .slice zo X.length zc, X⟩ (by simp))
      rw [show (X == X) = true by simp] at h
      exact h
    clear hs13 hb13 hW13
    go_wp2_with fail
    rw [← HW13.out]
    clear HW13 x0 x1 x2 x3 HX12
    refine HSX.out.mono ?_
    rintro e w14 ⟨rfl, d14, rfl⟩
    clear HSX
    have HBZ : Hid (Below w.heap.size w (W13.drewN d14)) := HX13.out.bel.trans ⟨rfl, rfl, rfl, Nat.le_refl _, fun _ _ => rfl⟩
    generalize W13.drewN d14 = W14 at *
    go_wp2
    go_ret
    exact ⟨by first | rfl | simp_all, HBZ.out⟩

end Go.Proofs.YteflgnggopcdcaaDoor
