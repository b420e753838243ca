/- TopAxioms: the law. -/
import Derived.Test.YtkdileeahbaobaaDoorMdB
import Derived.Test.YtkdileeahbaobaaDoorGe5
import Derived.Test.YtkdileeahbaobaaDoorMsA
import Derived.Test.YtkdileeahbaobaaDoorMsB
import Derived.Test.YtkdileeahbaobaaDoorMsC
import Derived.Deep.RegionHeld3
import Derived.Deep.QuietTactic
import Derived.BigQuiet
namespace Go.Proofs.YtkdileeahbaobaaDoor
open Go.RowKit
attribute [local go_sem ↓] Go.wp_at_zero Go.wp_at_succ

theorem ris_l256 {bs : List Int} (h : Ris bs) (h8 : B8 bs) : bs.length ≤ 256 := by
  have hi : ∀ i : Nat, i < bs.length → (i : Int) ≤ bs.getD i 0 := fun i => by
    induction i with
    | zero => intro h0; exact (h8 _ (by simp [h0])).1
    | succ i ih =>
      intro hl
      have h1 := ih (by omega)
      have h2 := ris_get h (show i < i + 1 by omega) hl
      omega
  rcases Nat.eq_zero_or_pos bs.length with h0 | h0
  · omega
  · have h1 := hi (bs.length - 1) (by omega)
    have h2 := (h8 (bs.getD (bs.length - 1) 0) (by simp [show bs.length - 1 < bs.length by omega])).2
    omega

theorem mat_len {n : Nat} {bs : List Int} (h0 : matE (n : Int) bs = 0) : bs.length ≤ 256 := by
  obtain ⟨q, h⟩ := mat_mto h0
  exact ris_l256 h.ris h.b8

theorem dualM_any {n : Nat} {bs : List Int} (h0 : matE (n : Int) bs = 0) (v : Value) (w : World) (hv : Sl 0 3 w v (ints bs)) (hT : TabB w) :
    Calls Tryd.prog 8 #[.agg #[.int .i64 n, v]] w fun e w' => ∃ uo uc, e = .returned (.tuple #[.agg #[.int .i64 n, .slice uo (duB n bs).length uc], .int .i64 0]) ∧ Sl 0 3 w' (.slice uo (duB n bs).length uc) (ints (duB n bs)) ∧ Below w.heap.size w w' := by
  refine (dual_any n bs v w (hv.more (Nat.zero_le _)) (by have := mat_len h0; omega) hT).mono ?_
  rintro e w' ⟨u, rfl, h1, h2⟩
  obtain ⟨uo, uc, rfl, _, _⟩ := sl_open h1
  exact ⟨uo, uc, by rw [h0, show duN (n : Int) bs = n from if_pos h0], h1, h2⟩

theorem rankM_any {n z : Nat} {bs : List Int} (h0 : matE (n : Int) bs = 0) (hz : z < 2 ^ n) (v : Value) (w : World) (hv : Sl 0 3 w v (ints bs)) (hT : TabB w) :
    Calls Tryd.prog 6 #[.agg #[.int .i64 n, v], .int .i64 z] w fun e w' => e = .returned (.tuple #[.int .i64 (rkN bs z), .int .i64 0]) ∧ Below w.heap.size w w' := by
  have hz2 : (z : Int) < 2 ^ n := by
    have : ((2 ^ n : Nat) : Int) = (2 : Int) ^ n := by simp
    omega
  have e : rkE (n : Int) bs (z : Int) = 0 := by
    unfold rkE
    rw [if_neg (by omega), if_pos ?_]
    simp only [Bool.and_eq_true, decide_eq_true_eq, Int.toNat_natCast]
    exact ⟨by omega, hz2⟩
  have e2 : rkA (n : Int) bs (z : Int) = rkN bs z := by unfold rkA; rw [if_pos e, Int.toNat_natCast]
  have h := rank_any n bs z v w (hv.more (Nat.zero_le _)) (by have := mat_len h0; omega) hT
  rw [e, e2] at h
  exact h

theorem circM_any {n : Nat} {bs : List Int} (h0 : matE (n : Int) bs = 0) (v : Value) (w : World) (hv : Sl 0 3 w v (ints bs)) (hT : TabB w) :
    Calls Tryd.prog 10 #[.agg #[.int .i64 n, v]] w fun e w' => ∃ uo uc, e = .returned (.tuple #[.slice uo (setsTo (circB bs) (2 ^ n)).length uc, .int .i64 0]) ∧ Sl 0 3 w' (.slice uo (setsTo (circB bs) (2 ^ n)).length uc) (ints (setsTo (circB bs) (2 ^ n))) ∧ Below w.heap.size w w' := by
  have e : circL (n : Int) bs = setsTo (circB bs) (2 ^ n) := by unfold circL; rw [if_pos h0, Int.toNat_natCast]
  refine (circuits_any n bs v w (hv.more (Nat.zero_le _)) (by have := mat_len h0; omega) hT).mono ?_
  rintro x w' ⟨u, rfl, h1, h2⟩
  rw [e] at h1
  obtain ⟨uo, uc, rfl, _, _⟩ := sl_open h1
  exact ⟨uo, uc, by rw [h0], h1, h2⟩

/-- A box of the law's own: a matroid. -/
structure Bxm where
  b : Nat
  N : Int
  u : Value
  xs : List Int

/-- The law's boxes. -/
structure Mx (w W : World) (L : List Bxm) : Prop where
  bel : Below w.heap.size w W
  box : ∀ p ∈ L, W.heap[p.b]? = some (.cells #[.int .i64 p.N, p.u] 25 (0, 0))
  sl : ∀ p ∈ L, Sl 0 3 W p.u (ints p.xs)

theorem Mx.next {w W W' : World} {L : List Bxm} (h : Mx w W L) (hb : Below W.heap.size W W') : Mx w W' L :=
  ⟨h.bel.trans (hb.mono h.bel.size), fun p hp => (hb.block _ (Array.getElem?_eq_some_iff.1 (h.box p hp)).1).trans (h.box p hp), fun p hp => (h.sl p hp).below hb (Nat.le_refl _)⟩

theorem Mx.push {w W w' : World} {L : List Bxm} {N : Int} {u : Value} {xs : List Int} (h : Mx w W L) (hb : Below W.heap.size W w') (hs : Sl 0 3 w' u (ints xs)) : Mx w (w'.alloc (.cells #[.int .i64 N, u] 25)) (⟨w'.heap.size, N, u, xs⟩ :: L) := by
  have hb2 : Below w'.heap.size w' (w'.alloc (.cells #[.int .i64 N, u] 25)) := (Below.refl _ _).alloc (Nat.le_refl _) _
  have h' := (h.next hb).next hb2
  refine ⟨h'.bel, fun p hp => ?_, fun p hp => ?_⟩
  · rcases List.mem_cons.1 hp with rfl | hp
    · exact heap_alloc_new w' _
    · exact h'.box p hp
  · rcases List.mem_cons.1 hp with rfl | hp
    · exact hs.below hb2 (Nat.le_refl _)
    · exact h'.sl p hp

theorem Mx.c0 {w W : World} {L : List Bxm} (h : Mx w W L) {b : Nat} {N : Int} {u : Value} {xs : List Int} (hp : (⟨b, N, u, xs⟩ : Bxm) ∈ L) : W.cell? ⟨b, 0, none⟩ = some (.int .i64 N) := by
  simp [World.cell?, h.box _ hp]

theorem Mx.c1 {w W : World} {L : List Bxm} (h : Mx w W L) {b : Nat} {N : Int} {u : Value} {xs : List Int} (hp : (⟨b, N, u, xs⟩ : Bxm) ∈ L) : W.cell? ⟨b, 1, none⟩ = some u := by
  simp [World.cell?, h.box _ hp]

theorem meas_lt {L k : Nat} (h : k < L) : L - ((k : Int) + 1).toNat < L - (k : Int).toNat := by omega

set_option maxRecDepth 100000 in
set_option maxHeartbeats 12800000 in
theorem topAxioms_any (n0 kind i0 j0 : Int) (raw : List Int) (v : Value) (w : World) (hv : Sl w.heap.size 3 w v (ints raw)) (hr : ∀ z ∈ raw, In64 z) (hk : In64 kind) (hn0 : In64 n0) (hi0 : In64 i0) (hj0 : In64 j0) (hT : TabB w) :
    Calls Tryd.prog 3 #[v, .int .i64 kind, .int .i64 n0, .int .i64 i0, .int .i64 j0] w fun e w' => e = .returned (.bool true) ∧ Below w.heap.size w w' := by
  obtain ⟨lo, lc, hvv, hlc, hcm⟩ := sl_open hv
  subst hvv
  by_cases hl40 : 256 < raw.length
  · have b0 : decide ((256 : Int) < (raw.length : Int)) = true := decide_eq_true (by omega)
    clear hv hr hT
    go_enter Tryd.func3, Tryd.ntmps3
    go_wp2
    go_ret
    exact ⟨rfl, Below.refl _ _⟩
  have b0 : decide ((256 : Int) < (raw.length : Int)) = false := decide_eq_false (by omega)
  have hll : raw.length ≤ 256 := by omega
  obtain ⟨pf, hpf⟩ : ∃ pf : Nat, pickF n0 6 = (pf : Int) := ⟨(pickF n0 6).toNat, by have := (pickF_bd (c := n0) (n := 6) (by decide)).1; omega⟩
  have hpf5 : pf < 6 := by have := (pickF_bd (c := n0) (n := 6) (by decide)).2; omega
  obtain ⟨n, hn⟩ : ∃ n : Nat, n = 1 + pf := ⟨_, rfl⟩
  have HP1 : Hid (∀ W', Calls Tryd.prog 4 #[.int .i64 n0, .int .i64 6] W' fun e w' => e = .returned (.int .i64 pf) ∧ w' = W') := fun W' => by rw [← hpf]; exact pick_val n0 6 W' (by omega) (by omega) hn0
  obtain ⟨tn, htn⟩ : ∃ tn : Nat, tn = 2 ^ n := ⟨_, rfl⟩
  have hti : (2 : Int) ^ n = (tn : Int) := by rw [htn]; simp
  have htl : tn ≤ 64 := by rw [htn]; exact show 2 ^ n ≤ 2 ^ 6 from Nat.pow_le_pow_right (by omega) (by omega)
  have ht1 : 1 ≤ tn := by rw [htn]; exact Nat.one_le_two_pow
  have hwt : IntKind.i64.wrap (tn : Int) = (tn : Int) := wrap_small (by omega)
  obtain ⟨tm, htm⟩ : ∃ tm : Nat, tm = tn - 1 := ⟨_, rfl⟩
  have hw1 : IntKind.i64.wrap ((tn : Int) - 1) = (tm : Int) := by rw [show (tn : Int) - 1 = (tm : Int) by omega]; exact wrap_small (by omega)
  obtain ⟨I, hI⟩ : ∃ I : Nat, pickF i0 tn = (I : Int) := ⟨(pickF i0 tn).toNat, by have := (pickF_bd (c := i0) (n := tn) (by omega)).1; omega⟩
  have hIn : I < tn := by have := (pickF_bd (c := i0) (n := tn) (by omega)).2; omega
  have HP2 : Hid (∀ W', Calls Tryd.prog 4 #[.int .i64 i0, .int .i64 tn] W' fun e w' => e = .returned (.int .i64 I) ∧ w' = W') := fun W' => by rw [← hI]; exact pick_val i0 tn W' (by omega) (by omega) hi0
  obtain ⟨J, hJ⟩ : ∃ J : Nat, pickF j0 tn = (J : Int) := ⟨(pickF j0 tn).toNat, by have := (pickF_bd (c := j0) (n := tn) (by omega)).1; omega⟩
  have hJn : J < tn := by have := (pickF_bd (c := j0) (n := tn) (by omega)).2; omega
  have HP3 : Hid (∀ W', Calls Tryd.prog 4 #[.int .i64 j0, .int .i64 tn] W' fun e w' => e = .returned (.int .i64 J) ∧ w' = W') := fun W' => by rw [← hJ]; exact pick_val j0 tn W' (by omega) (by omega) hj0
  have HT : Hid (∀ W', Below w.heap.size w W' → TabB W') := fun W' h => hT.below h
  have HMF : Hid (Calls Tryd.prog 5 #[.slice lo raw.length lc, .int .i64 0, .int .i64 kind, .int .i64 n] w fun e w' => ∃ u bs, e = .returned (.agg #[.int .i64 n, u]) ∧ Sl 0 3 w' u (ints bs) ∧ matE (n : Int) bs = 0 ∧ Below w.heap.size w w') := matroidFrom_is n kind raw _ w hv hr hll hk (by omega) (by omega)
  have a1 : IntKind.i64.wrap (1 + (pf : Int)) = (n : Int) := by
    rw [show (1 + (pf : Int)) = (n : Int) by omega]; exact wrap_small (by omega)
  have HTN : Hid (tn = 2 ^ n) := htn
  have HTM : Hid (tm = tn - 1) := htm
  have HN6 : Hid (1 ≤ n ∧ n ≤ 6) := by show 1 ≤ n ∧ n ≤ 6; omega
  have hnI0 : ¬ ((n : Int) < 0) := by omega
  -- the sets
  obtain ⟨O, hO⟩ : ∃ O : Nat, O = I ||| J := ⟨_, rfl⟩
  obtain ⟨K, hK⟩ : ∃ K : Nat, K = I &&& J := ⟨_, rfl⟩
  obtain ⟨T, hTT⟩ : ∃ T : Nat, T = tm - I := ⟨_, rfl⟩
  have eO : bits .or .i64 (I : Int) (J : Int) = (O : Int) := by rw [hO]; exact bits_or_i64_nat I J (by omega) (by omega)
  have eK : bits .and .i64 (I : Int) (J : Int) = (K : Int) := by rw [hK]; exact bits_and_i64_nat I J (by omega) (by omega)
  have eT : IntKind.i64.wrap ((tm : Int) - (I : Int)) = (T : Int) := by rw [show (tm : Int) - (I : Int) = (T : Int) by omega]; exact wrap_small (by omega)
  have HO : Hid (O = I ||| J) := hO
  have HK : Hid (K = I &&& J) := hK
  have HTT : Hid (T = tm - I) := hTT
  have HIJ : Hid (I < tn ∧ J < tn) := ⟨hIn, hJn⟩
  have HTI : Hid ((2 : Int) ^ n = (tn : Int)) := hti
  have HWT : Hid (IntKind.i64.wrap (tn : Int) = (tn : Int)) := hwt
  have HW1 : Hid (IntKind.i64.wrap ((tn : Int) - 1) = (tm : Int)) := hw1
  have HEO : Hid (bits .or .i64 (I : Int) (J : Int) = (O : Int)) := eO
  have HEK : Hid (bits .and .i64 (I : Int) (J : Int) = (K : Int)) := eK
  have HET : Hid (IntKind.i64.wrap ((tm : Int) - (I : Int)) = (T : Int)) := eT
  have HTL : Hid (tn ≤ 64 ∧ 1 ≤ tn) := ⟨htl, ht1⟩
  clear hv hT hr hpf hl40 hn hI hJ hpf5 hll hO hK hTT htn htm hti hwt hw1 eO eK eT htl ht1 hIn hJn hlc hcm hk hn0 hi0 hj0 hnI0
  go_enter Tryd.func3, Tryd.ntmps3
  go_wp2_with fail
  refine (HP1.out w).mono ?_
  rintro e w1 ⟨rfl, hw1'⟩
  obtain rfl := hw1'.symm
  clear hw1'
  clear b0 HP1
  go_wp2_with fail
  clear a1
  refine HMF.out.mono ?_
  rintro e w2 ⟨u, bs, rfl, hsu, hmat, hb2⟩
  obtain ⟨uo, uc, huv, _, _⟩ := sl_open hsu
  subst huv
  have HMAT : Hid (matE (n : Int) bs = 0) := hmat
  obtain ⟨D, hD⟩ : ∃ D, D = duB (n : Int) bs := ⟨_, rfl⟩
  have HDD : Hid (D = duB (n : Int) bs) := hD
  have HDM : Hid (matE (n : Int) D = 0) := by show _ = _; rw [hD]; exact du_mat hmat
  have HD2 : Hid (duB (n : Int) D = bs) := by show _ = _; rw [hD]; exact du_two hmat
  obtain ⟨q, hq⟩ := mat_mto hmat
  have HQ : Hid (Mto n q bs) := hq
  -- the ranks
  obtain ⟨X, hX⟩ : ∃ X, X = rkN bs I := ⟨_, rfl⟩
  obtain ⟨Y, hY⟩ : ∃ Y, Y = rkN bs J := ⟨_, rfl⟩
  obtain ⟨U, hU⟩ : ∃ U, U = rkN bs O := ⟨_, rfl⟩
  obtain ⟨V, hV⟩ : ∃ V, V = rkN bs K := ⟨_, rfl⟩
  obtain ⟨Z, hZ⟩ : ∃ Z, Z = szN I := ⟨_, rfl⟩
  obtain ⟨F, hF⟩ : ∃ F, F = rkN bs tm := ⟨_, rfl⟩
  obtain ⟨R, hR⟩ : ∃ R, R = rkN bs T := ⟨_, rfl⟩
  obtain ⟨P, hP⟩ : ∃ P, P = rkN D I := ⟨_, rfl⟩
  have lX : X ≤ 8 := by rw [hX]; exact rkN_le8 _ _
  have lY : Y ≤ 8 := by rw [hY]; exact rkN_le8 _ _
  have lU : U ≤ 8 := by rw [hU]; exact rkN_le8 _ _
  have lV : V ≤ 8 := by rw [hV]; exact rkN_le8 _ _
  have lZ : Z ≤ 8 := by rw [hZ]; exact szN_le _
  have lR : R ≤ 8 := by rw [hR]; exact rkN_le8 _ _
  have lF : F ≤ 8 := by rw [hF]; exact rkN_le8 _ _
  have g1 : U + V ≤ X + Y := by
    have := hq.rk_two I J
    rw [← HO.out, ← HK.out] at this
    omega
  have g2 : X ≤ Z := by rw [hX, hZ]; exact hq.rk_sz I
  have g3 : V ≤ X := by rw [hV, hX, HK.out]; exact hq.rk_mono sub_and1
  have g4 : X ≤ U := by rw [hX, hU, HO.out]; exact hq.rk_mono fun i hi => by rw [Nat.testBit_or, hi]; rfl
  have g5 : P + F = Z + R := by
    have := rk_du hmat (a := I) (by rw [← HTN.out]; exact HIJ.out.1)
    rw [← hD] at this
    rw [hP, hF, hZ, hR, HTT.out, HTM.out, HTN.out]
    rw [← full_sub8 n (by have := HN6.out; omega) I (by have := HIJ.out.1; rw [HTN.out] at this; exact this)] at this
    exact this
  obtain ⟨s1, hs1⟩ : ∃ s1, s1 = U + V := ⟨_, rfl⟩
  obtain ⟨s2, hs2⟩ : ∃ s2, s2 = X + Y := ⟨_, rfl⟩
  obtain ⟨s3, hs3⟩ : ∃ s3, s3 = Z + R := ⟨_, rfl⟩
  have q1 : IntKind.i64.wrap ((U : Int) + (V : Int)) = (s1 : Int) := by rw [show (U : Int) + (V : Int) = (s1 : Int) by omega]; exact wrap_small (by omega)
  have q2 : IntKind.i64.wrap ((X : Int) + (Y : Int)) = (s2 : Int) := by rw [show (X : Int) + (Y : Int) = (s2 : Int) by omega]; exact wrap_small (by omega)
  have q3 : IntKind.i64.wrap ((Z : Int) + (R : Int)) = (s3 : Int) := by rw [show (Z : Int) + (R : Int) = (s3 : Int) by omega]; exact wrap_small (by omega)
  have q4 : IntKind.i64.wrap ((s3 : Int) - (F : Int)) = (P : Int) := by rw [show (s3 : Int) - (F : Int) = (P : Int) by omega]; exact wrap_small (by omega)
  have d1 : decide ((s2 : Int) < (s1 : Int)) = false := decide_eq_false (by omega)
  have d1' : decide (s2 < s1) = false := decide_eq_false (by omega)
  have d2 : decide ((Z : Int) < (X : Int)) = false := decide_eq_false (by omega)
  have d2' : decide (Z < X) = false := decide_eq_false (by omega)
  have d3 : decide ((X : Int) < (V : Int)) = false := decide_eq_false (by omega)
  have d3' : decide (X < V) = false := decide_eq_false (by omega)
  have d4 : decide ((U : Int) < (X : Int)) = false := decide_eq_false (by omega)
  have d4' : decide (U < X) = false := decide_eq_false (by omega)
  have tp : ((P : Int) != (P : Int)) = false := by simp
  have HRK : Hid (∀ (z : Nat) W', z < tn → Sl 0 3 W' (.slice uo bs.length uc) (ints bs) → Below w.heap.size w W' → Calls Tryd.prog 6 #[.agg #[.int .i64 n, .slice uo bs.length uc], .int .i64 z] W' fun e w' => e = .returned (.tuple #[.int .i64 (rkN bs z), .int .i64 0]) ∧ Below W'.heap.size W' w') := fun z W' hz hs hb =>
    rankM_any HMAT.out (by rw [← HTN.out]; exact hz) _ W' hs (HT.out _ hb)
  have HSZ : Hid (∀ W', Calls Tryd.prog 7 #[.int .i64 I] W' fun e w' => e = .returned (.int .i64 Z) ∧ Below W'.heap.size W' w') := fun W' => by
    rw [hZ]; exact size8_any I W' (by have := HIJ.out.1; have := HTL.out.1; omega)
  have hOn : O < tn := by
    rw [HO.out, HTN.out]
    exact Nat.or_lt_two_pow (by rw [← HTN.out]; exact HIJ.out.1) (by rw [← HTN.out]; exact HIJ.out.2)
  have hKn : K < tn := by
    rw [HK.out]
    exact Nat.lt_of_le_of_lt Nat.and_le_left HIJ.out.1
  have HR1 : Hid (∀ W', Sl 0 3 W' (.slice uo bs.length uc) (ints bs) → Below w.heap.size w W' → Calls Tryd.prog 6 #[.agg #[.int .i64 n, .slice uo bs.length uc], .int .i64 I] W' fun e w' => e = .returned (.tuple #[.int .i64 X, .int .i64 0]) ∧ Below W'.heap.size W' w') := fun W' hs hb => by rw [hX]; exact HRK.out I W' HIJ.out.1 hs hb
  have HR2 : Hid (∀ W', Sl 0 3 W' (.slice uo bs.length uc) (ints bs) → Below w.heap.size w W' → Calls Tryd.prog 6 #[.agg #[.int .i64 n, .slice uo bs.length uc], .int .i64 J] W' fun e w' => e = .returned (.tuple #[.int .i64 Y, .int .i64 0]) ∧ Below W'.heap.size W' w') := fun W' hs hb => by rw [hY]; exact HRK.out J W' HIJ.out.2 hs hb
  have HR3 : Hid (∀ W', Sl 0 3 W' (.slice uo bs.length uc) (ints bs) → Below w.heap.size w W' → Calls Tryd.prog 6 #[.agg #[.int .i64 n, .slice uo bs.length uc], .int .i64 O] W' fun e w' => e = .returned (.tuple #[.int .i64 U, .int .i64 0]) ∧ Below W'.heap.size W' w') := fun W' hs hb => by rw [hU]; exact HRK.out O W' hOn hs hb
  have HR4 : Hid (∀ W', Sl 0 3 W' (.slice uo bs.length uc) (ints bs) → Below w.heap.size w W' → Calls Tryd.prog 6 #[.agg #[.int .i64 n, .slice uo bs.length uc], .int .i64 K] W' fun e w' => e = .returned (.tuple #[.int .i64 V, .int .i64 0]) ∧ Below W'.heap.size W' w') := fun W' hs hb => by rw [hV]; exact HRK.out K W' hKn hs hb
  have HR5 : Hid (∀ W', Sl 0 3 W' (.slice uo bs.length uc) (ints bs) → Below w.heap.size w W' → Calls Tryd.prog 6 #[.agg #[.int .i64 n, .slice uo bs.length uc], .int .i64 tm] W' fun e w' => e = .returned (.tuple #[.int .i64 F, .int .i64 0]) ∧ Below W'.heap.size W' w') := fun W' hs hb => by rw [hF]; exact HRK.out tm W' (by have := HTM.out; omega) hs hb
  have HR6 : Hid (∀ W', Sl 0 3 W' (.slice uo bs.length uc) (ints bs) → Below w.heap.size w W' → Calls Tryd.prog 6 #[.agg #[.int .i64 n, .slice uo bs.length uc], .int .i64 T] W' fun e w' => e = .returned (.tuple #[.int .i64 R, .int .i64 0]) ∧ Below W'.heap.size W' w') := fun W' hs hb => by rw [hR]; exact HRK.out T W' (by have := HTM.out; have := HTT.out; omega) hs hb
  have HPD : Hid (P = rkN D I) := hP
  obtain ⟨W3, hW3⟩ : ∃ W3, W3 = w2.alloc (.cells #[.int .i64 n, .slice uo bs.length uc] 25) := ⟨_, rfl⟩
  have HX3 : Hid (Mx w W3 [⟨w2.heap.size, n, .slice uo bs.length uc, bs⟩]) := by
    rw [hW3]
    exact Mx.push (L := []) ⟨Below.refl _ _, fun p hp => by simp at hp, fun p hp => by simp at hp⟩ hb2 hsu
  have HW3 : Hid (W3 = w2.alloc (.cells #[.int .i64 n, .slice uo bs.length uc] 25)) := hW3
  have Q1 : Hid _ := q1
  have Q2 : Hid _ := q2
  have Q3 : Hid _ := q3
  have Q4 : Hid _ := q4
  have D1 : Hid _ := And.intro d1 d1'
  have D2 : Hid _ := And.intro d2 d2'
  have D3 : Hid _ := And.intro d3 d3'
  have D4 : Hid _ := And.intro d4 d4'
  have hti := HTI.out
  have hwt := HWT.out
  obtain ⟨hn1, hn6⟩ := HN6.out
  obtain ⟨htl, ht1⟩ := HTL.out
  clear q1 q2 q3 q4 d1 d1' d2 d2' d3 d3' d4 d4' tp hsu hmat hb2 hW3 HMF hD hq hX hY hU hV hZ hF hR hP g1 g2 g3 g4 g5 hs1 hs2 hs3 lX lY lU lV lZ lR lF hOn hKn HRK
  go_wp2_with fail
  rw [← HW3.out]
  clear HW3
  refine (HP2.out W3).mono ?_
  rintro e w4 ⟨rfl, hw4⟩
  obtain rfl := hw4.symm
  clear hw4
  go_wp2_with fail
  refine (HP3.out W3).mono ?_
  rintro e w5 ⟨rfl, hw5⟩
  obtain rfl := hw5.symm
  clear hw5 hti hwt hn1 hn6 htl ht1 HP2 HP3
  have x0 := HX3.out.c0 (b := w2.heap.size) (List.mem_singleton.2 rfl)
  have x1 := HX3.out.c1 (b := w2.heap.size) (List.mem_singleton.2 rfl)
  go_wp2_with fail
  refine (HR1.out W3 (HX3.out.sl _ (List.mem_singleton.2 rfl)) HX3.out.bel).mono ?_
  rintro e v1 ⟨rfl, hbv1⟩
  have HXv1 : Hid (Mx w v1 [⟨w2.heap.size, n, .slice uo bs.length uc, bs⟩]) := HX3.out.next hbv1
  clear x0 x1 hbv1 HX3 HR1
  have x0 := HXv1.out.c0 (b := w2.heap.size) (List.mem_singleton.2 rfl)
  have x1 := HXv1.out.c1 (b := w2.heap.size) (List.mem_singleton.2 rfl)
  go_wp2_with fail
  refine (HR2.out v1 (HXv1.out.sl _ (List.mem_singleton.2 rfl)) HXv1.out.bel).mono ?_
  rintro e v2 ⟨rfl, hbv2⟩
  have HXv2 : Hid (Mx w v2 [⟨w2.heap.size, n, .slice uo bs.length uc, bs⟩]) := HXv1.out.next hbv2
  clear x0 x1 hbv2 HXv1 HR2
  have eO := HEO.out
  have x0 := HXv2.out.c0 (b := w2.heap.size) (List.mem_singleton.2 rfl)
  have x1 := HXv2.out.c1 (b := w2.heap.size) (List.mem_singleton.2 rfl)
  go_wp2_with fail
  refine (HR3.out v2 (HXv2.out.sl _ (List.mem_singleton.2 rfl)) HXv2.out.bel).mono ?_
  rintro e v3 ⟨rfl, hbv3⟩
  have HXv3 : Hid (Mx w v3 [⟨w2.heap.size, n, .slice uo bs.length uc, bs⟩]) := HXv2.out.next hbv3
  clear x0 x1 hbv3 HXv2 HR3
  clear eO HEO
  have eK := HEK.out
  have x0 := HXv3.out.c0 (b := w2.heap.size) (List.mem_singleton.2 rfl)
  have x1 := HXv3.out.c1 (b := w2.heap.size) (List.mem_singleton.2 rfl)
  go_wp2_with fail
  refine (HR4.out v3 (HXv3.out.sl _ (List.mem_singleton.2 rfl)) HXv3.out.bel).mono ?_
  rintro e v4 ⟨rfl, hbv4⟩
  have HXv4 : Hid (Mx w v4 [⟨w2.heap.size, n, .slice uo bs.length uc, bs⟩]) := HXv3.out.next hbv4
  clear x0 x1 hbv4 HXv3 HR4
  clear eK HEK
  have q1 := Q1.out
  have q2 := Q2.out
  obtain ⟨d1, d1'⟩ := D1.out
  obtain ⟨d2, d2'⟩ := D2.out
  obtain ⟨d3, d3'⟩ := D3.out
  obtain ⟨d4, d4'⟩ := D4.out
  clear Q1 Q2 D1 D2 D3 D4
  go_wp2_with fail
  refine (HSZ.out v4).mono ?_
  rintro e v5 ⟨rfl, hbv5⟩
  have HXv5 : Hid (Mx w v5 [⟨w2.heap.size, n, .slice uo bs.length uc, bs⟩]) := HXv4.out.next hbv5
  clear hbv5 HXv4
  have x0 := HXv5.out.c0 (b := w2.heap.size) (List.mem_singleton.2 rfl)
  have x1 := HXv5.out.c1 (b := w2.heap.size) (List.mem_singleton.2 rfl)
  have HDU : Hid (Calls Tryd.prog 8 #[.agg #[.int .i64 n, .slice uo bs.length uc]] v5 fun e w' => ∃ uo uc, e = .returned (.tuple #[.agg #[.int .i64 n, .slice uo D.length uc], .int .i64 0]) ∧ Sl 0 3 w' (.slice uo D.length uc) (ints D) ∧ Below v5.heap.size v5 w') := by
    rw [HDD.out]; exact dualM_any HMAT.out _ v5 (HXv5.out.sl _ (List.mem_singleton.2 rfl)) (HT.out _ HXv5.out.bel)
  go_wp2_with fail
  clear q1 q2 d1 d1' d2 d2' d3 d3' d4 d4'
  refine HDU.out.mono ?_
  rintro e w6 ⟨eo, ec, rfl, hs6, hb6⟩
  clear HDU x0 x1
  obtain ⟨W6, hW6⟩ : ∃ W6, W6 = w6.alloc (.cells #[.int .i64 n, .slice eo D.length ec] 25) := ⟨_, rfl⟩
  have HX6 : Hid (Mx w W6 [⟨w6.heap.size, n, .slice eo D.length ec, D⟩, ⟨w2.heap.size, n, .slice uo bs.length uc, bs⟩]) := by
    rw [hW6]; exact HXv5.out.push hb6 hs6
  have HW6 : Hid (W6 = w6.alloc (.cells #[.int .i64 n, .slice eo D.length ec] 25)) := hW6
  have x0 : (w6.alloc (.cells #[.int .i64 n, .slice eo D.length ec] 25)).cell? ⟨w6.heap.size, 0, none⟩ = some (.int .i64 n) := by rw [← hW6]; exact HX6.out.c0 (xs := D) (u := .slice eo D.length ec) (by simp)
  have x1 : (w6.alloc (.cells #[.int .i64 n, .slice eo D.length ec] 25)).cell? ⟨w6.heap.size, 1, none⟩ = some (.slice eo D.length ec) := by rw [← hW6]; exact HX6.out.c1 (xs := D) (N := n) (by simp)
  have HDV : Hid (Calls Tryd.prog 8 #[.agg #[.int .i64 n, .slice eo D.length ec]] W6 fun e w' => ∃ uo uc, e = .returned (.tuple #[.agg #[.int .i64 n, .slice uo bs.length uc], .int .i64 0]) ∧ Sl 0 3 w' (.slice uo bs.length uc) (ints bs) ∧ Below W6.heap.size W6 w') := by
    have h := dualM_any HDM.out _ W6 (HX6.out.sl ⟨w6.heap.size, n, .slice eo D.length ec, D⟩ (by simp)) (HT.out _ HX6.out.bel)
    rw [HD2.out] at h
    exact h
  clear hs6 hb6 hW6 HXv5
  go_wp2_with fail
  rw [← HW6.out]
  clear HW6 x0 x1
  refine HDV.out.mono ?_
  rintro e w7 ⟨fo, fc, rfl, hs7, hb7⟩
  clear HDV
  obtain ⟨W7, hW7⟩ : ∃ W7, W7 = w7.alloc (.cells #[.int .i64 n, .slice fo bs.length fc] 25) := ⟨_, rfl⟩
  have HX7 : Hid (Mx w W7 [⟨w7.heap.size, n, .slice fo bs.length fc, bs⟩, ⟨w6.heap.size, n, .slice eo D.length ec, D⟩, ⟨w2.heap.size, n, .slice uo bs.length uc, bs⟩]) := by
    rw [hW7]; exact HX6.out.push hb7 hs7
  have HW7 : Hid (W7 = w7.alloc (.cells #[.int .i64 n, .slice fo bs.length fc] 25)) := hW7
  have x0 : (w7.alloc (.cells #[.int .i64 n, .slice fo bs.length fc] 25)).cell? ⟨w2.heap.size, 0, none⟩ = some (.int .i64 n) := by rw [← hW7]; exact HX7.out.c0 (xs := bs) (u := .slice uo bs.length uc) (by simp)
  have x1 : (w7.alloc (.cells #[.int .i64 n, .slice fo bs.length fc] 25)).cell? ⟨w2.heap.size, 1, none⟩ = some (.slice uo bs.length uc) := by rw [← hW7]; exact HX7.out.c1 (xs := bs) (N := n) (by simp)
  clear hs7 hb7 hW7 HX6
  have hti := HTI.out
  have hwt := HWT.out
  have hw1 := HW1.out
  obtain ⟨hn1, hn6⟩ := HN6.out
  obtain ⟨htl, ht1⟩ := HTL.out
  have HR5A : Hid (∀ W', Below W7.heap.size W7 W' → Calls Tryd.prog 6 #[.agg #[.int .i64 n, .slice uo bs.length uc], .int .i64 tm] W' fun e w' => e = .returned (.tuple #[.int .i64 F, .int .i64 0]) ∧ Mx w w' [⟨w7.heap.size, n, .slice fo bs.length fc, bs⟩, ⟨w6.heap.size, n, .slice eo D.length ec, D⟩, ⟨w2.heap.size, n, .slice uo bs.length uc, bs⟩]) := fun W' hb => by
    have hx := HX7.out.next hb
    exact (HR5.out W' (hx.sl ⟨w2.heap.size, n, .slice uo bs.length uc, bs⟩ (by simp)) hx.bel).mono fun e w' ⟨h1, h2⟩ => ⟨h1, hx.next h2⟩
  go_wp2_with fail
  rw [← HW7.out]
  clear HW7 x0 x1
  have x0 : W7.cell? ⟨w2.heap.size, 0, none⟩ = some (.int .i64 n) := HX7.out.c0 (xs := bs) (u := .slice uo bs.length uc) (by simp)
  have x1 : W7.cell? ⟨w2.heap.size, 1, none⟩ = some (.slice uo bs.length uc) := HX7.out.c1 (xs := bs) (N := n) (by simp)
  go_region_held3 (fun w' => w'.cell? ⟨w2.heap.size, 0, none⟩ = some (.int .i64 n) ∧ w'.cell? ⟨w2.heap.size, 1, none⟩ = some (.slice uo bs.length uc)) (first | exact KS.out | go_keep)
    (first | (go_at_call 6; refine (HR5A.out _ ?hB).mono ?_; (case hB => first | exact Below.refl _ _ | exact ⟨rfl, rfl, rfl, Nat.le_refl _, fun _ _ => rfl⟩); rintro e w8 ⟨rfl, hm8⟩; have HX8 : Hid (Mx w w8 [⟨w7.heap.size, n, .slice fo bs.length fc, bs⟩, ⟨w6.heap.size, n, .slice eo D.length ec, D⟩, ⟨w2.heap.size, n, .slice uo bs.length uc, bs⟩]) := hm8; clear hm8; have KS : Hid (w8.cell? ⟨w2.heap.size, 0, none⟩ = some (.int .i64 n) ∧ w8.cell? ⟨w2.heap.size, 1, none⟩ = some (.slice uo bs.length uc)) := And.intro (HX8.out.c0 (xs := bs) (u := .slice uo bs.length uc) (by simp)) (HX8.out.c1 (xs := bs) (N := n) (by simp))))
  have eT := HET.out
  have HR6A : Hid (∀ W', Below w8.heap.size w8 W' → Calls Tryd.prog 6 #[.agg #[.int .i64 n, .slice uo bs.length uc], .int .i64 T] W' fun e w' => e = .returned (.tuple #[.int .i64 R, .int .i64 0]) ∧ Mx w w' [⟨w7.heap.size, n, .slice fo bs.length fc, bs⟩, ⟨w6.heap.size, n, .slice eo D.length ec, D⟩, ⟨w2.heap.size, n, .slice uo bs.length uc, bs⟩]) := fun W' hb => by
    have hx := HX8.out.next hb
    exact (HR6.out W' (hx.sl ⟨w2.heap.size, n, .slice uo bs.length uc, bs⟩ (by simp)) hx.bel).mono fun e w' ⟨h1, h2⟩ => ⟨h1, hx.next h2⟩
  have z0 := KS.out.1
  have z1 := KS.out.2
  clear KS x0 x1 HR5A HR5 HX7
  go_wp2_with fail
  go_region_held3 (fun w' => w'.cell? ⟨w2.heap.size, 0, none⟩ = some (.int .i64 n) ∧ w'.cell? ⟨w2.heap.size, 1, none⟩ = some (.slice uo bs.length uc)) (first | exact KS.out | go_keep)
    (first | (go_at_call 6; refine (HR6A.out _ ?hB).mono ?_; (case hB => first | exact Below.refl _ _ | exact ⟨rfl, rfl, rfl, Nat.le_refl _, fun _ _ => rfl⟩); rintro e w9 ⟨rfl, hm9⟩; have HX9 : Hid (Mx w w9 [⟨w7.heap.size, n, .slice fo bs.length fc, bs⟩, ⟨w6.heap.size, n, .slice eo D.length ec, D⟩, ⟨w2.heap.size, n, .slice uo bs.length uc, bs⟩]) := hm9; clear hm9; have KS : Hid (w9.cell? ⟨w2.heap.size, 0, none⟩ = some (.int .i64 n) ∧ w9.cell? ⟨w2.heap.size, 1, none⟩ = some (.slice uo bs.length uc)) := And.intro (HX9.out.c0 (xs := bs) (u := .slice uo bs.length uc) (by simp)) (HX9.out.c1 (xs := bs) (N := n) (by simp))))
  clear z0 z1 KS HR6A HR6 HX8 eT hti hwt hw1 hn1 hn6 htl ht1
  have HRD : Hid (Calls Tryd.prog 6 #[.agg #[.int .i64 n, .slice eo D.length ec], .int .i64 I] w9 fun e w' => e = .returned (.tuple #[.int .i64 P, .int .i64 0]) ∧ Below w9.heap.size w9 w') := by
    rw [HPD.out]
    exact rankM_any HDM.out (by rw [← HTN.out]; exact HIJ.out.1) _ w9 (HX9.out.sl ⟨w6.heap.size, n, .slice eo D.length ec, D⟩ (by simp)) (HT.out _ HX9.out.bel)
  have x0 : w9.cell? ⟨w6.heap.size, 0, none⟩ = some (.int .i64 n) := HX9.out.c0 (xs := D) (u := .slice eo D.length ec) (by simp)
  have x1 : w9.cell? ⟨w6.heap.size, 1, none⟩ = some (.slice eo D.length ec) := HX9.out.c1 (xs := D) (N := n) (by simp)
  go_wp2_with fail
  refine HRD.out.mono ?_
  rintro e w10 ⟨rfl, hb10⟩
  have HX10 : Hid (Mx w w10 [⟨w7.heap.size, n, .slice fo bs.length fc, bs⟩, ⟨w6.heap.size, n, .slice eo D.length ec, D⟩, ⟨w2.heap.size, n, .slice uo bs.length uc, bs⟩]) := HX9.out.next hb10
  clear x0 x1 HRD hb10 HX9
  have x1 : w10.cell? ⟨w7.heap.size, 1, none⟩ = some (.slice fo bs.length fc) := HX10.out.c1 (xs := bs) (N := n) (by simp)
  have x2 : w10.cell? ⟨w2.heap.size, 1, none⟩ = some (.slice uo bs.length uc) := HX10.out.c1 (xs := bs) (N := n) (by simp)
  have HSA : Hid (Calls Tryd.prog 9 #[.slice fo bs.length fc, .slice uo bs.length uc] w10 fun e w' => e = .returned (.bool true) ∧ ∃ n, w' = w10.drewN n) := by
    have h := same_any 0 bs bs _ _ w10 (HX10.out.sl ⟨w7.heap.size, n, .slice fo bs.length fc, bs⟩ (by simp)) (HX10.out.sl ⟨w2.heap.size, n, .slice uo bs.length uc, bs⟩ (by simp))
    rw [show (bs == bs) = true by simp] at h
    exact h
  go_wp2_with fail
  refine HSA.out.mono ?_
  rintro e w11 ⟨rfl, d11, rfl⟩
  clear x1 x2 HSA
  have HX11 : Hid (Mx w (w10.drewN d11) [⟨w7.heap.size, n, .slice fo bs.length fc, bs⟩, ⟨w6.heap.size, n, .slice eo D.length ec, D⟩, ⟨w2.heap.size, n, .slice uo bs.length uc, bs⟩]) := HX10.out.next ⟨rfl, rfl, rfl, Nat.le_refl _, fun _ _ => rfl⟩
  generalize w10.drewN d11 = W11 at *
  have q3 := Q3.out
  have q4 := Q4.out
  have tp : ((P : Int) != (P : Int)) = false := by simp
  go_wp2_with fail
  refine (HSZ.out W11).mono ?_
  rintro e w12 ⟨rfl, hb12⟩
  have HX12 : Hid (Mx w w12 [⟨w7.heap.size, n, .slice fo bs.length fc, bs⟩, ⟨w6.heap.size, n, .slice eo D.length ec, D⟩, ⟨w2.heap.size, n, .slice uo bs.length uc, bs⟩]) := HX11.out.next hb12
  clear hb12 HX11 HX10
  have x0 : w12.cell? ⟨w2.heap.size, 0, none⟩ = some (.int .i64 n) := HX12.out.c0 (xs := bs) (u := .slice uo bs.length uc) (by simp)
  have x1 : w12.cell? ⟨w2.heap.size, 1, none⟩ = some (.slice uo bs.length uc) := HX12.out.c1 (xs := bs) (N := n) (by simp)
  have HCC : Hid (Calls Tryd.prog 10 #[.agg #[.int .i64 n, .slice uo bs.length uc]] w12 fun e w' => ∃ uo uc, e = .returned (.tuple #[.slice uo (setsTo (circB bs) (2 ^ n)).length uc, .int .i64 0]) ∧ Sl 0 3 w' (.slice uo (setsTo (circB bs) (2 ^ n)).length uc) (ints (setsTo (circB bs) (2 ^ n))) ∧ Below w12.heap.size w12 w') :=
    circM_any HMAT.out _ w12 (HX12.out.sl ⟨w2.heap.size, n, .slice uo bs.length uc, bs⟩ (by simp)) (HT.out _ HX12.out.bel)
  go_wp2_with fail
  refine HCC.out.mono ?_
  rintro e w13 ⟨co, cc, rfl, hs13, hb13⟩
  have HX13 : Hid (Below w.heap.size w w13) := (HX12.out.next hb13).bel
  clear x0 x1 q3 q4 tp Q3 Q4 HCC hb13 HX12
  have HC1 : Hid (∀ z ∈ setsTo (circB bs) (2 ^ n), ∃ c : Nat, z = (c : Int) ∧ c < tn ∧ circB bs c = true) := fun z hz => by
    obtain ⟨c, h1, h2, h3⟩ := mem_setsTo.1 hz
    exact ⟨c, h3, by rw [HTN.out]; exact h1, h2⟩
  have HC2 : Hid (∀ c : Nat, c < tn → circB bs c = true → (c : Int) ∈ setsTo (circB bs) (2 ^ n)) := fun c h1 h2 => mem_setsTo.2 ⟨c, by rw [← HTN.out]; exact h1, h2, rfl⟩
  have HCL : Hid ((setsTo (circB bs) (2 ^ n)).length ≤ 64) := by
    have h1 : (setsTo (circB bs) (2 ^ n)).length ≤ 2 ^ n := by
      unfold setsTo
      rw [List.length_map]
      exact Nat.le_trans (List.length_filter_le _ _) (by simp)
    have h2 := HTN.out
    have h3 := HTL.out.1
    show _ ≤ 64
    omega
  generalize setsTo (circB bs) (2 ^ n) = CL at *
  have HS13 : Hid (Sl 0 3 w13 (.slice co CL.length cc) (ints CL)) := hs13
  clear hs13
  by_cases hl2 : CL.length < 2
  · have y0 : decide ((CL.length : Int) < 2) = true := decide_eq_true (by omega)
    have y0' : decide (CL.length < 2) = true := decide_eq_true (by omega)
    clear hl2
    go_wp2
    go_ret
    exact ⟨rfl, HX13.out⟩
  have y0 : decide ((CL.length : Int) < 2) = false := decide_eq_false (by omega)
  have y0' : decide (CL.length < 2) = false := decide_eq_false (by omega)
  have hcl := HCL.out
  have hij := HIJ.out
  have htl := HTL.out
  obtain ⟨p1, hp1⟩ : ∃ p1 : Nat, pickF (I : Int) CL.length = (p1 : Int) := ⟨(pickF (I : Int) CL.length).toNat, by have := (pickF_bd (c := (I : Int)) (n := CL.length) (by omega)).1; omega⟩
  have hp1l : p1 < CL.length := by have := (pickF_bd (c := (I : Int)) (n := CL.length) (by omega)).2; omega
  have HPA : Hid (Calls Tryd.prog 4 #[.int .i64 I, .int .i64 CL.length] w13 fun e w' => e = .returned (.int .i64 p1) ∧ w' = w13) := by rw [← hp1]; exact pick_val I CL.length w13 (by omega) (by omega) ⟨by omega, by omega⟩
  obtain ⟨p2, hp2⟩ : ∃ p2 : Nat, pickF (J : Int) CL.length = (p2 : Int) := ⟨(pickF (J : Int) CL.length).toNat, by have := (pickF_bd (c := (J : Int)) (n := CL.length) (by omega)).1; omega⟩
  have hp2l : p2 < CL.length := by have := (pickF_bd (c := (J : Int)) (n := CL.length) (by omega)).2; omega
  have HPB : Hid (Calls Tryd.prog 4 #[.int .i64 J, .int .i64 CL.length] w13 fun e w' => e = .returned (.int .i64 p2) ∧ w' = w13) := by rw [← hp2]; exact pick_val J CL.length w13 (by omega) (by omega) ⟨by omega, by omega⟩
  obtain ⟨p, hpe, hpn, hpc⟩ := HC1.out (CL.getD p1 0) (by simp [hp1l])
  obtain ⟨r, hre, hrn, hrc⟩ := HC1.out (CL.getD p2 0) (by simp [hp2l])
  obtain ⟨cb, cq, _, hsc, _, cA⟩ := sl_cell HS13.out hp1l
  simp only [Value.slice.injEq] at hsc
  obtain ⟨rfl, -, -⟩ := hsc
  obtain ⟨cb', cq', _, hsc, _, cB⟩ := sl_cell HS13.out hp2l
  simp only [Value.slice.injEq, Option.some.injEq, Addr.mk.injEq, and_true] at hsc
  obtain ⟨⟨rfl, rfl⟩, -⟩ := hsc
  rw [hpe] at cA
  rw [hre] at cB
  have HPC : Hid (p < tn ∧ circB bs p = true) := ⟨hpn, hpc⟩
  have HRC : Hid (r < tn ∧ circB bs r = true) := ⟨hrn, hrc⟩
  obtain ⟨G, hG⟩ : ∃ G : Nat, G = p &&& r := ⟨_, rfl⟩
  have HG : Hid (G = p &&& r) := hG
  have HGB : Hid (bits .and .i64 (p : Int) (r : Int) = (G : Int)) := by show _ = _; rw [hG]; exact bits_and_i64_nat p r (by omega) (by omega)
  have hG8 : G < 256 := by rw [hG]; exact Nat.lt_of_le_of_lt Nat.and_le_left (by omega)
  have HMB : Hid (Calls Tryd.prog 11 #[.int .i64 G] w13 fun e w' => ∃ uo uc, e = .returned (.slice uo (mem8 G).length uc) ∧ Sl 0 3 w' (.slice uo (mem8 G).length uc) (ints (mem8 G)) ∧ Below w13.heap.size w13 w') := (members8_any G w13 hG8).mono (by
    rintro e w' ⟨u, rfl, h1, h2⟩
    obtain ⟨uo, uc, rfl⟩ := owns_form h1
    exact ⟨uo, uc, rfl, Sl.own h1, h2⟩)
  have iA : (p1 : Int) < (CL.length : Int) := by omega
  have iA0 : (0 : Int) ≤ (p1 : Int) := by omega
  have iB : (p2 : Int) < (CL.length : Int) := by omega
  have iB0 : (0 : Int) ≤ (p2 : Int) := by omega
  clear hl2 hcl hij htl hp1 hp2 hp1l hp2l hpe hre hpn hpc hrn hrc hG hG8
  go_wp2_with fail
  refine HPA.out.mono ?_
  rintro e w14 ⟨rfl, hw14⟩
  obtain rfl := hw14.symm
  clear hw14 y0 y0' HPA
  go_wp2_with fail
  refine HPB.out.mono ?_
  rintro e w15 ⟨rfl, hw15⟩
  obtain rfl := hw15.symm
  clear hw15 HPB
  have eG := HGB.out
  go_wp2_with fail
  refine HMB.out.mono ?_
  rintro e w16 ⟨mo, mc, rfl, hs16, hb16⟩
  have HS16 : Hid (Sl 0 3 w16 (.slice mo (mem8 G).length mc) (ints (mem8 G))) := hs16
  have HB16 : Hid (Below w.heap.size w w16) := HX13.out.trans (hb16.mono HX13.out.size)
  have HC16 : Hid (Sl 0 3 w16 (.slice (some ⟨cb, cq, none⟩) CL.length cc) (ints CL)) := HS13.out.below hb16 (Nat.le_refl _)
  clear hs16 hb16 HMB eG cA cB iA iA0 iB iB0 HS13 HX13
  by_cases hpr : p = r
  · have t1 : ((p : Int) == (r : Int)) = true := by rw [hpr]; simp
    have t1' : (p == r) = true := by rw [hpr]; simp
    clear hpr
    go_wp2
    go_ret
    exact ⟨by first | rfl | simp_all, HB16.out⟩
  have t1 : ((p : Int) == (r : Int)) = false := by simp; omega
  have t1' : (p == r) = false := by simp; omega
  have HPR : Hid (p ≠ r) := hpr
  clear hpr
  by_cases hm0 : (mem8 G).length = 0
  · have t2 : (((mem8 G).length : Int) == 0) = true := by rw [hm0]; rfl
    have t2' : ((mem8 G).length == 0) = true := by rw [hm0]; rfl
    go_wp2
    go_ret
    exact ⟨by first | rfl | simp_all, HB16.out⟩
  have t2 : (((mem8 G).length : Int) == 0) = false := by rw [beq_eq_false_iff_ne]; omega
  have t2' : ((mem8 G).length == 0) = false := by rw [beq_eq_false_iff_ne]; omega
  have hm8 := mem8_len G
  have hij := HIJ.out
  have htl := HTL.out
  obtain ⟨s4, hs4⟩ : ∃ s4 : Nat, s4 = I + J := ⟨_, rfl⟩
  have q5 : IntKind.i64.wrap ((I : Int) + (J : Int)) = (s4 : Int) := by rw [show (I : Int) + (J : Int) = (s4 : Int) by omega]; exact wrap_small (by omega)
  obtain ⟨p3, hp3⟩ : ∃ p3 : Nat, pickF (s4 : Int) (mem8 G).length = (p3 : Int) := ⟨(pickF (s4 : Int) (mem8 G).length).toNat, by have := (pickF_bd (c := (s4 : Int)) (n := (mem8 G).length) (by omega)).1; omega⟩
  have hp3l : p3 < (mem8 G).length := by have := (pickF_bd (c := (s4 : Int)) (n := (mem8 G).length) (by omega)).2; omega
  have HPE : Hid (Calls Tryd.prog 4 #[.int .i64 s4, .int .i64 (mem8 G).length] w16 fun e w' => e = .returned (.int .i64 p3) ∧ w' = w16) := by rw [← hp3]; exact pick_val s4 (mem8 G).length w16 (by omega) (by omega) ⟨by omega, by omega⟩
  obtain ⟨E, hE8, hEG, hEe⟩ := mem8_iff.1 (show (mem8 G).getD p3 0 ∈ mem8 G by simp [hp3l])
  obtain ⟨eb, eq, _, hsc, _, cE⟩ := sl_cell HS16.out hp3l
  simp only [Value.slice.injEq] at hsc
  obtain ⟨rfl, -, -⟩ := hsc
  rw [← hEe] at cE
  obtain ⟨te, hte⟩ : ∃ te : Nat, te = 2 ^ E := ⟨_, rfl⟩
  have htei : (2 : Int) ^ E = (te : Int) := by rw [hte]; simp
  have htel : te ≤ 128 := by rw [hte]; exact show 2 ^ E ≤ 2 ^ 7 from Nat.pow_le_pow_right (by omega) (by omega)
  have hwte : IntKind.i64.wrap (te : Int) = (te : Int) := wrap_small (by omega)
  obtain ⟨O2, hO2⟩ : ∃ O2 : Nat, O2 = p ||| r := ⟨_, rfl⟩
  have hO2l : O2 < tn := by
    rw [hO2, HTN.out]
    exact Nat.or_lt_two_pow (by rw [← HTN.out]; exact HPC.out.1) (by rw [← HTN.out]; exact HRC.out.1)
  obtain ⟨S, hS⟩ : ∃ S : Nat, S = outN O2 te := ⟨_, rfl⟩
  have eO2 : bits .or .i64 (p : Int) (r : Int) = (O2 : Int) := by rw [hO2]; exact bits_or_i64_nat p r (by have := HPC.out.1; omega) (by have := HRC.out.1; omega)
  have eS : bits .andNot .i64 (O2 : Int) (te : Int) = (S : Int) := by rw [hS]; exact bits_andNot_i64_nat O2 te (by omega) (by omega)
  have HSS : Hid (∃ c : Nat, (c : Int) ∈ CL ∧ c &&& S = c) := by
    obtain ⟨c, c1, c2, c3⟩ := HQ.out.circ_two (e := E) (by rw [← HTN.out]; exact HPC.out.1) (by rw [← HTN.out]; exact HRC.out.1) HPC.out.2 HRC.out.2 HPR.out (by rw [HG.out] at hEG; exact sub_and1 E hEG)
    refine ⟨c, HC2.out c (by rw [HTN.out]; exact c1) c2, Nat.eq_of_testBit_eq fun i => ?_⟩
    rw [Nat.testBit_and]
    cases e : c.testBit i with
    | false => rfl
    | true =>
      have := c3 i e
      rw [← hO2, ← hte, ← hS] at this
      rw [this]; rfl
  have hSl : S < tn := by rw [hS]; exact Nat.lt_of_le_of_lt (outN_le _ _) hO2l
  have iE : (p3 : Int) < ((mem8 G).length : Int) := by omega
  have iE0 : (0 : Int) ≤ (p3 : Int) := by omega
  generalize mem8 G = MG at *
  have HSN : Hid (S < tn ∧ tn ≤ 64) := ⟨hSl, htl.1⟩
  have HE8 : Hid (E < 8) := hE8
  clear hm0 hm8 hij htl hs4 hp3 hp3l hEG hEe hte htel hO2 hO2l hS hSl HS16 HE8
  go_wp2_with fail
  refine HPE.out.mono ?_
  rintro e w17 ⟨rfl, hw17⟩
  obtain rfl := hw17.symm
  clear hw17 HPE t1 t1' t2 t2' q5
  go_wp2_with fail
  clear cE iE iE0 eO2 eS htei hwte hE8
  go_loopw [31] (fun i wr => ∃ k : Nat, k ≤ CL.length ∧ i = .int .i64 k ∧ (∀ j : Nat, j < k → ∀ c : Nat, CL.getD j 0 = (c : Int) → ¬ c &&& S = c) ∧ Below w16.heap.size w16 wr) (fun i _ => CL.length - (intOf i).toNat)
  case atStart => exact ⟨0, Nat.zero_le _, rfl, fun j hj => by omega, Below.refl _ _⟩
  case round =>
    obtain ⟨k, hk, rfl, hnone, hbel⟩ := hrel
    have HNN : Hid (∀ j : Nat, j < k → ∀ c : Nat, CL.getD j 0 = (c : Int) → ¬ c &&& S = c) := hnone
    have HBL : Hid (Below w16.heap.size w16 wr) := hbel
    have HSR : Hid (Sl 0 3 wr (.slice (some ⟨cb, cq, none⟩) CL.length cc) (ints CL)) := HC16.out.below hbel (Nat.le_refl _)
    have HBR : Hid (Below w.heap.size w wr) := HB16.out.trans (hbel.mono HB16.out.size)
    clear hnone hbel
    by_cases hlt : k < CL.length
    · obtain ⟨gb, gq, _, hsc, _, cK⟩ := sl_cell HSR.out hlt
      simp only [Value.slice.injEq, Option.some.injEq, Addr.mk.injEq, and_true] at hsc
      obtain ⟨⟨rfl, rfl⟩, -⟩ := hsc
      obtain ⟨c, hce, hcn, -⟩ := HC1.out (CL.getD k 0) (by simp [hlt])
      have HCE : Hid (CL.getD k 0 = (c : Int)) := hce
      rw [hce] at cK
      obtain ⟨A, hA⟩ : ∃ A : Nat, A = c &&& S := ⟨_, rfl⟩
      have eA : bits .and .i64 (c : Int) (S : Int) = (A : Int) := by rw [hA]; exact bits_and_i64_nat c S (by have := HSN.out; omega) (by have := HSN.out; omega)
      have kI : (k : Int) < (CL.length : Int) := by omega
      have kI0 : (0 : Int) ≤ (k : Int) := by omega
      have HKL : Hid (k < CL.length) := hlt
      by_cases hmt : A = c
      · have t3 : ((A : Int) == (c : Int)) = true := by rw [hmt]; simp
        have t3' : (A == c) = true := by rw [hmt]; simp
        clear hce hcn hA hlt hk hmt
        go_wp2
        go_quiet (fail)
        go_wp2
        go_ret
        exact ⟨by first | rfl | simp_all, HBR.out.trans ⟨rfl, rfl, rfl, Nat.le_refl _, fun _ _ => rfl⟩⟩
      · have t3 : ((A : Int) == (c : Int)) = false := by simp; omega
        have t3' : (A == c) = false := by simp; omega
        have HNX : Hid (∀ j : Nat, j < k + 1 → ∀ c : Nat, CL.getD j 0 = (c : Int) → ¬ c &&& S = c) := fun j hj c' hc' => by
          by_cases e : j = k
          · subst e
            have : c' = c := by rw [hce] at hc'; omega
            subst this
            rw [← hA]; exact hmt
          · exact HNN.out j (by omega) c' hc'
        clear hce hcn hA hk hmt
        have hcl := HCL.out
        go_wp2
        go_quiet (fail)
        go_wp2
        exact ⟨⟨k + 1, HKL.out, by go_num, HNX.out, HBL.out.trans ⟨rfl, rfl, rfl, Nat.le_refl _, fun _ _ => rfl⟩⟩, meas_lt HKL.out⟩
    · exfalso
      obtain ⟨c, hc, hcS⟩ := HSS.out
      obtain ⟨j, hj, e⟩ := List.getElem_of_mem hc
      exact HNN.out j (by omega) c (by rw [show CL.getD j 0 = CL[j] by simp [hj]]; exact e) hcS

end Go.Proofs.YtkdileeahbaobaaDoor
