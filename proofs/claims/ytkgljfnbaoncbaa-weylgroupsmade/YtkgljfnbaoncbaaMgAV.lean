import Derived.Test.YtkgljfnbaoncbaaMgAT
import Derived.Test.YtkgljfnbaoncbaaMgAU
import Derived.Test.YtkgljfnbaoncbaaMgAK
import Derived.Test.YtkgljfnbaoncbaaWm4
import Derived.Test.YtkgljfnbaoncbaaMgAB
import Derived.Deep.Matrix
import Derived.Carry
import Derived.Test.YtkgljfnbaoncbaaMgAF
/- facetlaw.WeylGroups of any square; facetlaw.WeylGroupsMade. -/
namespace Go.Proofs.Ytkgljfnbaoncbaa
open Go.RowKit
attribute [local go_sem ↓] Go.wp_at_zero Go.wp_at_succ

theorem pd_sp (o : List Int) (q i : Nat) : ∀ k, pdF o q k 0 i = spF o q k i
  | 0 => pdF_0 o q i
  | k + 1 => by
    have ih := pd_sp o q i k
    unfold pdF at ih ⊢
    rw [if_neg (by omega)] at ih ⊢
    rw [Int.add_zero] at ih ⊢
    show sm k _ + _ = spF o q k i + _
    rw [ih]

theorem pr_ln (l : List Int) : prL l = lnL l := by
  have e : ∀ (o : List Int) (z : Int), pdS o z.toNat = spr o z.toNat := fun o z => by
    unfold pdS spr
    exact List.map_congr_left fun i _ => pd_sp o z.toNat i o.length
  unfold prL lnL
  congr 1
  funext o z
  exact e o z

structure GgP (n : Nat) (c : List (List Int)) (D : List Int) : Prop where
  ch : Chv n c (ohL (abL c)) (abL c).length
  pos : ∀ t, t < (paL c).length → 0 < (prN c n t).length
  dg : dgR c n = dgL n (ohL (abL c))
  dD : D = dgL n (ohL (abL c))
  d12 : ∀ x ∈ D, 1 ≤ x ∧ x ≤ 12
  b : ∀ b ∈ abL c, ∀ k, -100 ≤ b.getD k 0 ∧ b.getD k 0 ≤ 100
  gr : 200 < (lnL D).sum ∨ ggQ c n = true

theorem gg_p {n : Nat} {c : List (List Int)} (h : ggB c n = true) : GgP n c (dgL n (ohL (abL c))) := by
  unfold ggB at h
  simp only [Bool.and_eq_true, Bool.or_eq_true, decide_eq_true_eq, List.all_eq_true, List.mem_range, beq_iff_eq] at h
  obtain ⟨⟨⟨⟨⟨⟨h1, h2⟩, h3⟩, h4⟩, h5⟩, h6⟩, h7⟩ := h
  exact ⟨⟨h1, h2⟩, h3, h4, rfl, h5, fun b hb k => getD_bd (by omega) (h6 b hb) k, h7⟩

theorem mapL_getD {ws : List (List Nat)} {i : Nat} (hi : i < ws.length) : (ws.map List.length).getD i 0 = (ws.getD i []).length := by simp [hi]

theorem gg_group {n : Nat} {c R d : List (List Int)} {t : Nat → Int} (h : Wg n c R d t) (hv : ggV c n = true) :
    (gsL d n).length ≤ 200 ∧ 0 < (gsL d n).length ∧ (∀ i, i < (gsL d n).length → ((gsL d n).getD i []).length ≤ ((gsL d n).getD ((gsL d n).length - 1) []).length) ∧ ((gsL d n).getD ((gsL d n).length - 1) []).length ≤ 500 ∧ lcL ((gsL d n).map List.length) = lnL (dgL n (ohL (abL c))) := by
  have hcl := h.g.g.sq.len
  have hgv := (gs_vsL h.u).1
  rw [hcl] at hgv
  have hp : 0 < (gsL d n).length := by
    have := (gsO_pre d n 201 0 [[]]).length_le
    exact Nat.lt_of_lt_of_le (by simp) this
  unfold ggV ggW at hv
  simp only [Bool.and_eq_true, decide_eq_true_eq, List.all_eq_true, beq_iff_eq] at hv
  obtain ⟨⟨⟨h1, h2⟩, h3⟩, h4⟩ := hv
  have e1 : (vsL c n).length = (gsL d n).length := by rw [← hgv, List.length_map]
  have e2 : (vsL c n).map Prod.fst = (gsL d n).map List.length := by
    rw [← hgv, List.map_map]
    rfl
  rw [e1] at h1 h3 h4
  rw [e2] at h2 h3 h4
  have hlast := mapL_getD (ws := gsL d n) (i := (gsL d n).length - 1) (by omega)
  rw [hlast] at h3 h4
  refine ⟨h1, hp, fun i hi => ?_, by omega, h2⟩
  have hm : lnV c ((gsL d n).getD i []) ∈ vsL c n := by
    rw [← hgv]
    exact List.mem_map.2 ⟨_, by simp [hi], rfl⟩
  exact h3 _ hm

set_option maxRecDepth 100000 in
theorem degreesX_any (c : List (List Int)) (cv : Value) (w : World) (hne : ¬ ckE c = 0) (hm : Mat w.heap.size 26 3 w cv c) :
    Calls Try.prog 9 #[cv] w fun e w' => e = .returned (.tuple #[.slice none 0 0, .int .i64 (ckE c)]) ∧ Below w.heap.size w w' := by
  have HC := positiveX_any c cv w hne hm
  obtain ⟨ao, cap, hvv, _, _⟩ := mat_open hm
  subst hvv
  generalize ckE c = E at *
  have hE : (E == 0) = false := by simpa using hne
  have hE2 : (E != 0) = true := by rw [bne, hE]; rfl
  clear hm
  go_enter Try.func9, Try.ntmps9
  go_wp2_with fail
  refine HC.mono ?_
  rintro e w1 ⟨rfl, hb1⟩
  have HB1 : Hid (Below w.heap.size w w1) := hb1
  clear hb1 HC
  go_wp2
  go_ret2
  exact ⟨rfl, HB1.out⟩

set_option maxRecDepth 100000 in
theorem wlensX_any (c : List (List Int)) (cv : Value) (w : World) (hne : ¬ ckE c = 0) (hm : Mat w.heap.size 26 3 w cv c) :
    Calls Try.prog 10 #[cv] w fun e w' => e = .returned (.tuple #[.slice none 0 0, .int .i64 (ckE c)]) ∧ Below w.heap.size w w' := by
  have HC := degreesX_any c cv w hne hm
  obtain ⟨ao, cap, hvv, _, _⟩ := mat_open hm
  subst hvv
  generalize ckE c = E at *
  have hE : (E == 0) = false := by simpa using hne
  have hE2 : (E != 0) = true := by rw [bne, hE]; rfl
  clear hm
  go_enter Try.func10, Try.ntmps10
  go_wp2_with fail
  refine HC.mono ?_
  rintro e w1 ⟨rfl, hb1⟩
  have HB1 : Hid (Below w.heap.size w w1) := hb1
  clear hb1 HC
  go_wp2
  go_ret2
  exact ⟨rfl, HB1.out⟩

set_option maxRecDepth 100000 in
theorem longestX_any (c : List (List Int)) (cv : Value) (w : World) (hne : ¬ ckE c = 0) (hm : Mat w.heap.size 26 3 w cv c) :
    Calls Try.prog 12 #[cv] w fun e w' => e = .returned (.tuple #[.slice none 0 0, .int .i64 (ckE c)]) ∧ Below w.heap.size w w' := by
  have HC := checkX_any c cv w hne hm
  obtain ⟨ao, cap, hvv, _, _⟩ := mat_open hm
  subst hvv
  generalize ckE c = E at *
  have hE : (E == 0) = false := by simpa using hne
  have hE2 : (E != 0) = true := by rw [bne, hE]; rfl
  clear hm
  go_enter Try.func12, Try.ntmps12
  go_wp2_with fail
  refine HC.mono ?_
  rintro e w1 ⟨rfl, hb1⟩
  have HB1 : Hid (Below w.heap.size w w1) := hb1
  clear hb1 HC
  go_wp2
  go_ret2
  exact ⟨rfl, HB1.out⟩

set_option maxRecDepth 100000 in
set_option maxHeartbeats 1600000 in
theorem weylGroupsX_any (c : List (List Int)) (cv : Value) (w : World) (hne : ¬ ckE c = 0) (hm : Mat w.heap.size 26 3 w cv c) :
    Calls Try.prog 3 #[cv] w fun e w' => e = .returned (.bool true) ∧ Below w.heap.size w w' := by
  have HM : Hid (∀ X, Below w.heap.size w X → Mat X.heap.size 26 3 X cv c) := fun X hX => (hm.below hX (Nat.le_refl _)).any (Nat.le_refl _)
  have HHV := heavy_any _ c cv w hm
  have HMY : Hid (∀ X, Below w.heap.size w X → Calls Try.prog 6 #[cv] X fun e w' => e = .returned (.int .i64 (ckE c)) ∧ Below X.heap.size X w') := fun X hX => rootsMayX_any c cv X hne (HM.out X hX)
  have HDE : Hid (∀ X, Below w.heap.size w X → Calls Try.prog 9 #[cv] X fun e w' => e = .returned (.tuple #[.slice none 0 0, .int .i64 (ckE c)]) ∧ Below X.heap.size X w') := fun X hX => degreesX_any c cv X hne (HM.out X hX)
  have HLE : Hid (∀ X, Below w.heap.size w X → Calls Try.prog 10 #[cv] X fun e w' => e = .returned (.tuple #[.slice none 0 0, .int .i64 (ckE c)]) ∧ Below X.heap.size X w') := fun X hX => wlensX_any c cv X hne (HM.out X hX)
  have HLO : Hid (∀ X, Below w.heap.size w X → Calls Try.prog 12 #[cv] X fun e w' => e = .returned (.tuple #[.slice none 0 0, .int .i64 (ckE c)]) ∧ Below X.heap.size X w') := fun X hX => longestX_any c cv X hne (HM.out X hX)
  obtain ⟨ao, cap, hvv, _, _⟩ := mat_open hm
  subst hvv
  generalize c.length = cl at *
  generalize ckE c = E at *
  have hE : (E == 0) = false := by simpa using hne
  have hE2 : (E != 0) = true := by rw [bne, hE]; rfl
  have HL1 : Hid (∀ W, Calls Try.prog 11 #[.slice none 0 0, .int .i64 E, .slice none 0 0, .int .i64 E] W fun x w' => x = .returned (.bool true) ∧ w' = W) := fun W => listV_no E hne W
  clear hm HM
  go_enter Try.func3, Try.ntmps3
  go_wp2_with fail
  refine HHV.mono ?_
  rintro e w0 ⟨b, rfl, _, rfl⟩
  cases b with
  | true =>
    go_wp2
    go_ret
    exact ⟨rfl, Below.refl _ _⟩
  | false =>
    have hb0 : Below w0.heap.size w0 w0 := Below.refl _ _
    clear HHV
    go_wp2_with fail
    refine (HMY.out w0 hb0).mono ?_
    rintro e w1 ⟨rfl, hb⟩
    have HB1 : Hid (Below w0.heap.size w0 w1) := hb
    clear hb hb0 HMY
    go_wp2_with fail
    refine (HDE.out w1 HB1.out).mono ?_
    rintro e w6 ⟨rfl, hb⟩
    have HB6 : Hid (Below w0.heap.size w0 w6) := HB1.out.trans (hb.mono HB1.out.size)
    clear hb HDE
    go_wp2_with fail
    refine (HLE.out w6 HB6.out).mono ?_
    rintro e w7 ⟨rfl, hb⟩
    have HB7 : Hid (Below w0.heap.size w0 w7) := HB6.out.trans (hb.mono HB6.out.size)
    clear hb HLE
    go_wp2_with fail
    refine (HL1.out w7).mono ?_
    rintro e w11 ⟨rfl, hw⟩
    obtain rfl := hw.symm
    clear hw
    go_wp2_with fail
    refine (HL1.out w7).mono ?_
    rintro e w11 ⟨rfl, hw⟩
    obtain rfl := hw.symm
    clear hw
    go_wp2_with fail
    refine (HLO.out w7 HB7.out).mono ?_
    rintro e w8 ⟨rfl, hb⟩
    have HB8 : Hid (Below w0.heap.size w0 w8) := HB7.out.trans (hb.mono HB7.out.size)
    clear hb HLO
    go_wp2
    go_ret
    exact ⟨rfl, HB8.out⟩

theorem lnL_bd {n : Nat} {c : List (List Int)} (h : Chv n c (ohL (abL c)) (abL c).length) : (lnL (dgL n (ohL (abL c)))).length = (abL c).length + 1 ∧ (lnL (dgL n (ohL (abL c)))).length ≤ 100 ∧ ∀ x ∈ lnL (dgL n (ohL (abL c))), 0 ≤ x ∧ x ≤ 2000 := by
  obtain ⟨_, _, _, _, hD2, hD3, _⟩ := h
  have h1 := hD2 n (by omega)
  rw [List.take_of_length_le (by rw [dgL_len]; exact Nat.le_refl _)] at h1
  exact ⟨hD3, h1.1, h1.2.2.1⟩

set_option maxRecDepth 100000 in
set_option maxHeartbeats 6400000 in
theorem weylGroups_ok (n : Nat) (c d : List (List Int)) (t : Nat → Int) (cv : Value) (w : World) (h : Wg n c (posR c) d t) (hg : GgP n c (dgL n (ohL (abL c)))) (hm : Mat w.heap.size 26 3 w cv c) :
    Calls Try.prog 3 #[cv] w fun e w' => e = .returned (.bool true) ∧ Below w.heap.size w w' := by
  have hcl := h.g.g.sq.len
  have hgc := h.g.g
  have hn1 := hgc.n1
  have hn4 := hgc.sq.n4
  have HHV := heavy_any w.heap.size c cv w hm
  have hMat : ∀ W, Below w.heap.size w W → Mat W.heap.size 26 3 W cv c := fun W hW => (hm.below hW (Nat.le_refl _)).any (Nat.le_refl _)
  obtain ⟨D, hD⟩ : ∃ D, D = dgL n (ohL (abL c)) := ⟨_, rfl⟩
  have hdl : D.length = n := by rw [hD, dgL_len]
  obtain ⟨x0, hx0, ex0⟩ := long_some h.g.rt
  have hrd := rd_all h.g hx0
  have hrr := rd_rd h.g hx0
  obtain ⟨hll, hl100, hlb⟩ := lnL_bd hg.ch
  rw [← hD] at hll hl100 hlb
  have hN24 := hgc.many
  obtain ⟨N, hN⟩ : ∃ N, N = (abL c).length := ⟨_, rfl⟩
  have hNle : N ≤ 24 := by rw [hN]; exact hN24
  have hRN : (posR c).length = N := by rw [hN]; exact hg.ch.ch.2.2.1
  have hXl : (rdW c x0).length = N := by
    rw [hrd.1, ex0, ← hRN]
    unfold nB
    rw [List.countP_eq_length]
    intro b hb
    have h1 := h.g.rt.pos b hb
    have e : pr c.length (ngL (ones c.length)) b = -(sm c.length fun k => b.getD k 0) := by
      unfold pr
      rw [← sm_ng]
      refine sm_congr _ fun k hk => ?_
      rw [ngL_get, ones_at hk, Int.neg_mul, Int.one_mul]
    rw [e]
    exact decide_eq_true (by omega)
  have HMA : Hid (∀ W, Below w.heap.size w W → Calls Try.prog 6 #[cv] W fun e w' => e = .returned (.int .i64 0) ∧ Below W.heap.size W w') := fun W hW => rootsMay_any n c cv W hgc h.pos h.u.rd.nod (hMat W hW)
  have HDO : Hid (∀ W, Below w.heap.size w W → Calls Try.prog 7 #[cv] W fun e w' => ∃ u, e = .returned u ∧ w'.ownsRow W.heap.size 3 1 u n (ints D) ∧ Below W.heap.size W w') := fun W hW => by
    have := degreesOf_any n c cv W hgc.sq hg.pos (by
      have h1 := congrArg List.length hg.dg
      unfold dgR at h1
      rw [isA_len, dgL_len] at h1
      omega) (hMat W hW)
    rw [hg.dg, ← hD, hdl] at this
    exact this
  have HPD : Hid (∀ W u, Sl 0 3 W u (ints D) → Calls Try.prog 8 #[u] W fun e w' => ∃ u, e = .returned u ∧ w'.ownsRow W.heap.size 3 1 u (N + 1) (ints (lnL D)) ∧ Below W.heap.size W w') := fun W u hu => by
    have := product_any D u W (hu.more (Nat.zero_le _)) (by omega) (fun k hk => by
      have := hg.d12 (D.getD k 0) (by rw [← hD]; simp [hk])
      exact this)
    rw [pr_ln, hll, ← hN] at this
    exact this
  have HWD : Hid (∀ W, Below w.heap.size w W → Calls Try.prog 9 #[cv] W fun e w' => ∃ u, e = .returned (.tuple #[u, .int .i64 0]) ∧ w'.ownsRow W.heap.size 3 1 u n (ints D) ∧ Below W.heap.size W w') := fun W hW => by
    have := degrees_any n c _ _ cv W hgc hg.ch (hMat W hW)
    rw [← hD] at this
    exact this
  have HWL : Hid (∀ W, Below w.heap.size w W → Calls Try.prog 10 #[cv] W fun e w' => ∃ u, e = .returned (.tuple #[u, .int .i64 0]) ∧ w'.ownsRow W.heap.size 3 1 u (N + 1) (ints (lnL D)) ∧ Below W.heap.size W w') := fun W hW => by
    have := wlens_any n c _ _ cv W hgc hg.ch (hMat W hW)
    rw [← hD, ← hN] at this
    exact this
  have HLO : Hid (∀ W, Below w.heap.size w W → Calls Try.prog 12 #[cv] W fun e w' => ∃ u, e = .returned (.tuple #[u, .int .i64 0]) ∧ w'.ownsRow W.heap.size 3 1 u N (ints (natsI (rdW c x0))) ∧ Below W.heap.size W w') := fun W hW => by
    have := longest_any n c (posR c) x0 cv W h.g hx0 ex0 (hMat W hW)
    rw [hXl] at this
    exact this
  have HWM : Hid (∀ W v, Below w.heap.size w W → Sl 0 3 W v (ints (natsI (rdW c x0))) → Calls Try.prog 13 #[cv, v] W fun e w' => e = .returned (.int .i64 0) ∧ Below W.heap.size W w') := fun W v hW hv => wordMay_any n c _ cv v W hgc h.pos h.u.rd.nod hrd.2.1 (by omega) (hMat W hW) (hv.more (Nat.zero_le _))
  have HRO : Hid (∀ W, Below w.heap.size w W → Calls Try.prog 14 #[cv] W fun e w' => ∃ a b, e = .returned (.slice a N b) ∧ Below W.heap.size W w') := fun W hW => by
    refine (rootsOf_any n c cv W hgc h.pos h.u.rd.nod (hMat W hW)).mono ?_
    rintro e w' ⟨u, rfl, L, hfr, hp, hb⟩
    obtain ⟨vs, g1, g2, g3⟩ := hfr
    obtain ⟨a, b, rfl⟩ := owns_form g2
    rw [hp.length_eq, ← hN]
    exact ⟨a, b, rfl, hb⟩
  have HSH : Hid (∀ W v, Below w.heap.size w W → Sl 0 3 W v (ints (natsI (rdW c x0))) → Calls Try.prog 15 #[cv, v] W fun e w' => e = .returned (.int .i64 (N : Nat)) ∧ Below W.heap.size W w') := fun W v hW hv => by
    have := short_any n c (posR c) d t _ cv v W h hrd.2.1 (by omega) (hMat W hW) (hv.more (Nat.zero_le _))
    rw [hrd.2.2.1, ← hrd.1, hXl] at this
    exact this
  have HRE : Hid (∀ W v, Below w.heap.size w W → Sl 0 3 W v (ints (natsI (rdW c x0))) → Calls Try.prog 17 #[cv, v] W fun e w' => ∃ u, e = .returned u ∧ w'.ownsRow W.heap.size 3 1 u N (ints (natsI (rdW c x0))) ∧ Below W.heap.size W w') := fun W v hW hv => by
    have := reducedD_any n c (posR c) d t _ cv v W h hrd.2.1 (by omega) (hMat W hW) (hv.more (Nat.zero_le _))
    rw [hrr, hXl] at this
    exact this
  have HGR : Hid ((lnL D).sum ≤ 200 → ∀ W, Below w.heap.size w W → Calls Try.prog 20 #[cv] W fun e w' => ∃ u, e = .returned u ∧ Fr W.heap.size 26 3 w' u ((gsL d n).map natsI) ∧ Below W.heap.size W w') := fun hs W hW => by
    have hv := ggQ_V hcl (hg.gr.resolve_left (by rw [← hD]; omega))
    exact group_any n c (posR c) d t cv W h hg.b (gg_group h hv).1 (hMat W hW)
  have HLC : Hid ((lnL D).sum ≤ 200 → ∀ W v, Mat W.heap.size 26 3 W v ((gsL d n).map natsI) → Calls Try.prog 19 #[v] W fun e w' => ∃ u, e = .returned u ∧ w'.ownsRow W.heap.size 3 1 u (N + 1) (ints (lnL D)) ∧ Below W.heap.size W w') := fun hs W v hv => by
    have hq := ggQ_V hcl (hg.gr.resolve_left (by rw [← hD]; omega))
    obtain ⟨q1, q2, q3, q4, q5⟩ := gg_group h hq
    have := lengthsCount_any (gsL d n) v W hv q2 q1 q3 q4
    rw [q5, ← hD, hll, ← hN] at this
    exact this
  have HLB : Hid (∀ z ∈ lnL D, z.natAbs ≤ 1000000000) := fun z hz => by have := hlb z hz; omega
  have HLL : Hid ((lnL D).length = N + 1) := by rw [hll, hN]; exact rfl
  obtain ⟨ao, cap, hvv, _, _⟩ := mat_open hm
  subst hvv
  generalize rdW c x0 = X at *
  obtain ⟨Lg, hLg⟩ : ∃ Lg, Lg = lnL D := ⟨_, rfl⟩
  rw [← hLg] at HPD HWL HGR HLC HLB HLL
  have hX2 : (natsI X).length = N := by rw [natsI_len, hXl]
  rw [hcl] at *
  clear h hgc hg hm hMat hD hrd hrr hll hl100 hlb hRN hXl hx0 ex0 hLg hN
  go_enter Try.func3, Try.ntmps3
  go_wp2_with fail
  refine HHV.mono ?_
  rintro e w0 ⟨b, rfl, _, rfl⟩
  clear HHV
  cases b with
  | true =>
    go_wp2
    go_ret
    exact ⟨rfl, Below.refl _ _⟩
  | false =>
    have B0 : Hid (Below w0.heap.size w0 w0) := Below.refl _ _
    go_wp2_with fail
    refine (HMA.out w0 B0.out).mono ?_
    rintro e w1 ⟨rfl, hb⟩
    have B1 : Hid (Below w0.heap.size w0 w1) := hb
    clear hb HMA
    go_wp2_with fail
    refine (HDO.out w1 B1.out).mono ?_
    rintro e w2 ⟨u2, rfl, ho2, hb⟩
    obtain ⟨d2, dc2, hv2⟩ := owns_form ho2
    subst hv2
    have D2 : Hid (Sl 0 3 w2 (.slice d2 n dc2) (ints D)) := Sl.own ho2
    have B2 : Hid (Below w0.heap.size w0 w2) := B1.out.trans (hb.mono B1.out.size)
    clear hb ho2 HDO
    go_wp2_with fail
    refine (HPD.out w2 _ D2.out).mono ?_
    rintro e w3 ⟨u3, rfl, ho3, hb⟩
    obtain ⟨l3, lc3, hv3⟩ := owns_form ho3
    subst hv3
    have L3 : Hid (Sl 0 3 w3 (.slice l3 (N + 1) lc3) (ints Lg)) := Sl.own ho3
    have D3 : Hid (Sl 0 3 w3 (.slice d2 n dc2) (ints D)) := D2.out.below hb (Nat.le_refl _)
    have B3 : Hid (Below w0.heap.size w0 w3) := B2.out.trans (hb.mono B2.out.size)
    clear hb ho3 HPD D2
    go_wp2_with fail
    refine (HWD.out w3 B3.out).mono ?_
    rintro e w4 ⟨u4, rfl, ho4, hb⟩
    obtain ⟨d4, dc4, hv4⟩ := owns_form ho4
    subst hv4
    have E4 : Hid (Sl 0 3 w4 (.slice d4 n dc4) (ints D)) := Sl.own ho4
    have L4 : Hid (Sl 0 3 w4 (.slice l3 (N + 1) lc3) (ints Lg)) := L3.out.below hb (Nat.le_refl _)
    have D4 : Hid (Sl 0 3 w4 (.slice d2 n dc2) (ints D)) := D3.out.below hb (Nat.le_refl _)
    have B4 : Hid (Below w0.heap.size w0 w4) := B3.out.trans (hb.mono B3.out.size)
    clear hb ho4 HWD L3 D3
    go_wp2_with fail
    refine (HWL.out w4 B4.out).mono ?_
    rintro e w5 ⟨u5, rfl, ho5, hb⟩
    obtain ⟨l5, lc5, hv5⟩ := owns_form ho5
    subst hv5
    have M5 : Hid (Sl 0 3 w5 (.slice l5 (N + 1) lc5) (ints Lg)) := Sl.own ho5
    have E5 : Hid (Sl 0 3 w5 (.slice d4 n dc4) (ints D)) := E4.out.below hb (Nat.le_refl _)
    have L5 : Hid (Sl 0 3 w5 (.slice l3 (N + 1) lc3) (ints Lg)) := L4.out.below hb (Nat.le_refl _)
    have D5 : Hid (Sl 0 3 w5 (.slice d2 n dc2) (ints D)) := D4.out.below hb (Nat.le_refl _)
    have B5 : Hid (Below w0.heap.size w0 w5) := B4.out.trans (hb.mono B4.out.size)
    have C6 := list_same 0 D (.slice d4 n dc4) (.slice d2 n dc2) w5 E5.out D5.out
    clear hb ho5 HWL L4 D4 E4
    go_wp2_with fail
    refine C6.mono ?_
    rintro e w6 ⟨rfl, hb⟩
    have M6 : Hid (Sl 0 3 w6 (.slice l5 (N + 1) lc5) (ints Lg)) := M5.out.below hb (Nat.le_refl _)
    have L6 : Hid (Sl 0 3 w6 (.slice l3 (N + 1) lc3) (ints Lg)) := L5.out.below hb (Nat.le_refl _)
    have B6 : Hid (Below w0.heap.size w0 w6) := B5.out.trans (hb.mono B5.out.size)
    have C7 := list_same 0 Lg (.slice l5 (N + 1) lc5) (.slice l3 (N + 1) lc3) w6 M6.out L6.out
    clear hb C6 M5 L5 E5 D5
    go_wp2_with fail
    refine C7.mono ?_
    rintro e w7 ⟨rfl, hb⟩
    have L7 : Hid (Sl 0 3 w7 (.slice l3 (N + 1) lc3) (ints Lg)) := L6.out.below hb (Nat.le_refl _)
    have B7 : Hid (Below w0.heap.size w0 w7) := B6.out.trans (hb.mono B6.out.size)
    clear hb C7 M6 L6
    go_wp2_with fail
    refine (HLO.out w7 B7.out).mono ?_
    rintro e w8 ⟨u8, rfl, ho8, hb⟩
    obtain ⟨x8, xc8, hv8⟩ := owns_form ho8
    subst hv8
    have X8 : Hid (Sl 0 3 w8 (.slice x8 N xc8) (ints (natsI X))) := Sl.own ho8
    have L8 : Hid (Sl 0 3 w8 (.slice l3 (N + 1) lc3) (ints Lg)) := L7.out.below hb (Nat.le_refl _)
    have B8 : Hid (Below w0.heap.size w0 w8) := B7.out.trans (hb.mono B7.out.size)
    clear hb ho8 HLO L7
    go_wp2_with fail
    refine (HWM.out w8 _ B8.out X8.out).mono ?_
    rintro e w9 ⟨rfl, hb⟩
    have X9 : Hid (Sl 0 3 w9 (.slice x8 N xc8) (ints (natsI X))) := X8.out.below hb (Nat.le_refl _)
    have L9 : Hid (Sl 0 3 w9 (.slice l3 (N + 1) lc3) (ints Lg)) := L8.out.below hb (Nat.le_refl _)
    have B9 : Hid (Below w0.heap.size w0 w9) := B8.out.trans (hb.mono B8.out.size)
    clear hb HWM X8 L8
    go_wp2_with fail
    refine (HRO.out w9 B9.out).mono ?_
    rintro e w10 ⟨ra, rb, rfl, hb⟩
    have X10 : Hid (Sl 0 3 w10 (.slice x8 N xc8) (ints (natsI X))) := X9.out.below hb (Nat.le_refl _)
    have L10 : Hid (Sl 0 3 w10 (.slice l3 (N + 1) lc3) (ints Lg)) := L9.out.below hb (Nat.le_refl _)
    have B10 : Hid (Below w0.heap.size w0 w10) := B9.out.trans (hb.mono B9.out.size)
    clear hb HRO X9 L9
    go_wp2_with fail
    refine (HSH.out w10 _ B10.out X10.out).mono ?_
    rintro e w11 ⟨rfl, hb⟩
    have X11 : Hid (Sl 0 3 w11 (.slice x8 N xc8) (ints (natsI X))) := X10.out.below hb (Nat.le_refl _)
    have L11 : Hid (Sl 0 3 w11 (.slice l3 (N + 1) lc3) (ints Lg)) := L10.out.below hb (Nat.le_refl _)
    have B11 : Hid (Below w0.heap.size w0 w11) := B10.out.trans (hb.mono B10.out.size)
    clear hb HSH X10 L10
    go_wp2_with fail
    refine (HRE.out w11 _ B11.out X11.out).mono ?_
    rintro e w12 ⟨u12, rfl, ho12, hb⟩
    obtain ⟨x12, xc12, hv12⟩ := owns_form ho12
    subst hv12
    have Y12 : Hid (Sl 0 3 w12 (.slice x12 N xc12) (ints (natsI X))) := Sl.own ho12
    have X12 : Hid (Sl 0 3 w12 (.slice x8 N xc8) (ints (natsI X))) := X11.out.below hb (Nat.le_refl _)
    have L12 : Hid (Sl 0 3 w12 (.slice l3 (N + 1) lc3) (ints Lg)) := L11.out.below hb (Nat.le_refl _)
    have B12 : Hid (Below w0.heap.size w0 w12) := B11.out.trans (hb.mono B11.out.size)
    have C13 := same_any 0 (natsI X) (natsI X) (.slice x12 N xc12) (.slice x8 N xc8) w12 Y12.out X12.out
    have hxx : (natsI X == natsI X) = true := by simp
    rw [hxx] at C13
    clear hb HRE ho12 X11 L11 hxx
    go_wp2_with fail
    refine C13.mono ?_
    rintro e w13' ⟨rfl, n13, rfl⟩
    have hq13 : Below w12.heap.size w12 (w12.drewN n13) := ⟨rfl, rfl, rfl, Nat.le_refl _, fun _ _ => rfl⟩
    have L13 : Hid (Sl 0 3 (w12.drewN n13) (.slice l3 (N + 1) lc3) (ints Lg)) := L12.out.below hq13 (Nat.le_refl _)
    have B13 : Hid (Below w0.heap.size w0 (w12.drewN n13)) := B12.out.trans (hq13.mono B12.out.size)
    have C14 := sumT_any 0 Lg (.slice l3 (N + 1) lc3) (w12.drewN n13) L13.out (by rw [HLL.out]; omega) HLB.out
    clear C13 hq13 Y12 X12 L12
    generalize w12.drewN n13 = w13 at *
    obtain ⟨S, hS⟩ : ∃ S, S = Lg.sum := ⟨_, rfl⟩
    rw [← hS] at C14 HGR HLC
    clear hS
    go_wp2_with fail
    refine C14.mono ?_
    rintro e w14' ⟨rfl, n14, rfl⟩
    have hq14 : Below w13.heap.size w13 (w13.drewN n14) := ⟨rfl, rfl, rfl, Nat.le_refl _, fun _ _ => rfl⟩
    have L14 : Hid (Sl 0 3 (w13.drewN n14) (.slice l3 (N + 1) lc3) (ints Lg)) := L13.out.below hq14 (Nat.le_refl _)
    have B14 : Hid (Below w0.heap.size w0 (w13.drewN n14)) := B13.out.trans (hq14.mono B13.out.size)
    clear C14 hq14 L13
    generalize w13.drewN n14 = w14 at *
    by_cases hs : 200 < S
    · have hsb : decide ((200 : Int) < S) = true := decide_eq_true hs
      clear HGR HLC
      go_wp2_with fail
      go_ret
      exact ⟨rfl, B14.out⟩
    · have hsb : decide ((200 : Int) < S) = false := decide_eq_false hs
      have C15 := HGR.out (by omega) w14 B14.out
      have HLC2 : Hid (∀ W v, Mat W.heap.size 26 3 W v ((gsL d n).map natsI) → Calls Try.prog 19 #[v] W fun e w' => ∃ u, e = .returned u ∧ w'.ownsRow W.heap.size 3 1 u (N + 1) (ints Lg) ∧ Below W.heap.size W w') := HLC.out (by omega)
      clear HGR HLC
      go_wp2_with fail
      refine C15.mono ?_
      rintro e w15 ⟨u15, rfl, hfr, hb⟩
      have hm15 : Mat w15.heap.size 26 3 w15 u15 ((gsL d n).map natsI) := by
        obtain ⟨vs, g1, g2, g3⟩ := hfr
        exact ⟨vs, g1, Sl.own g2, fun i hi => (g3 i hi).more (Nat.zero_le _)⟩
      have L15 : Hid (Sl 0 3 w15 (.slice l3 (N + 1) lc3) (ints Lg)) := L14.out.below hb (Nat.le_refl _)
      have B15 : Hid (Below w0.heap.size w0 w15) := B14.out.trans (hb.mono B14.out.size)
      have C16 := HLC2.out w15 u15 hm15
      obtain ⟨q15, qc15, rfl, _, _⟩ := mat_open hm15
      clear hb C15 HLC2 hfr hm15 L14
      generalize ((gsL d n).map natsI).length = Z at *
      go_wp2_with fail
      refine C16.mono ?_
      rintro e w16 ⟨u16, rfl, ho16, hb⟩
      obtain ⟨q16, qc16, hv16⟩ := owns_form ho16
      subst hv16
      have M16 : Hid (Sl 0 3 w16 (.slice q16 (N + 1) qc16) (ints Lg)) := Sl.own ho16
      have L16 : Hid (Sl 0 3 w16 (.slice l3 (N + 1) lc3) (ints Lg)) := L15.out.below hb (Nat.le_refl _)
      have B16 : Hid (Below w0.heap.size w0 w16) := B15.out.trans (hb.mono B15.out.size)
      have C17 := same_any 0 Lg Lg (.slice q16 (N + 1) qc16) (.slice l3 (N + 1) lc3) w16 M16.out L16.out
      have hxx : (Lg == Lg) = true := by simp
      rw [hxx] at C17
      clear hb C16 ho16 L15 hxx
      go_wp2_with fail
      refine C17.mono ?_
      rintro e w17' ⟨rfl, n17, rfl⟩
      have hq17 : Below w16.heap.size w16 (w16.drewN n17) := ⟨rfl, rfl, rfl, Nat.le_refl _, fun _ _ => rfl⟩
      have B17 : Hid (Below w0.heap.size w0 (w16.drewN n17)) := B16.out.trans (hq17.mono B16.out.size)
      clear C17 hq17 M16 L16
      go_wp2_with fail
      go_ret
      exact ⟨rfl, B17.out⟩

/-- The law, of any square. -/
theorem weylGroups_all (c : List (List Int)) (cv : Value) (w : World) (hm : Mat w.heap.size 26 3 w cv c) :
    Calls Try.prog 3 #[cv] w fun e w' => e = .returned (.bool true) ∧ Below w.heap.size w w' := by
  by_cases hne : ckE c = 0
  · obtain ⟨hs, hl⟩ := ck_zero hne
    obtain ⟨d, t, hw⟩ := wg_ck hne
    exact weylGroups_ok c.length c d t cv w hw (gg_p (shp_gg hs hl)) hm
  · exact weylGroupsX_any c cv w hne hm

set_option maxRecDepth 100000 in
theorem weylGroupsMade_all (a b : Int) (w : World) (ha : In64 a) (hb : In64 b) :
    Calls Try.prog 4 #[.int .i64 a, .int .i64 b] w fun e w' => e = .returned (.bool true) ∧ Below w.heap.size w w' := by
  have HRF := rootsFrom_any a b 4 w ha hb (by decide) (by decide)
  clear ha hb
  go_enter Try.func4, Try.ntmps4
  go_wp2_with fail
  refine HRF.mono ?_
  rintro e w1 ⟨x, ps, o, rfl, _, hfr, hb1⟩
  have HB1 : Hid (Below w.heap.size w w1) := hb1
  obtain ⟨vs, g1, g2, g3⟩ := hfr
  have HC := weylGroups_all (pmM o (mkL ps)) x w1 ⟨vs, g1, Sl.own g2, fun i hi => (g3 i hi).more (Nat.zero_le _)⟩
  generalize pmM o (mkL ps) = c at *
  obtain ⟨co, cc, rfl⟩ := owns_form g2
  clear HRF g1 g2 g3 hb1
  go_wp2_with fail
  refine HC.mono ?_
  rintro e w2 ⟨rfl, hb2⟩
  have HB2 : Hid (Below w.heap.size w w2) := HB1.out.trans (hb2.mono HB1.out.size)
  clear hb2 HC
  go_wp2
  go_ret
  exact ⟨rfl, HB2.out⟩

end Go.Proofs.Ytkgljfnbaoncbaa

/- Arguments that are lists, and lists of lists, of integers, as the call finds them. -/

namespace Go.Proofs.Ytkgljfnbaoncbaa
open Go.ChangeShapes Go.WideShapes Go.RowKit Go.Deep

end Go.Proofs.Ytkgljfnbaoncbaa

/- Integers as the call finds them lie within 64 bits. -/
namespace Go.Proofs.Ytkgljfnbaoncbaa
open Go.ChangeShapes Go.WideShapes Go.RowKit Go.Deep

theorem in64_of {n : Int} (h : (Lit.int .i64 n).wf = true) : In64 n := by
  have h1 : (decide (IntKind.i64.min ≤ n) && decide (n ≤ IntKind.i64.max)) = true := h
  simp only [Bool.and_eq_true, decide_eq_true_eq] at h1
  have e1 : IntKind.i64.min = -9223372036854775808 := by decide
  have e2 : IntKind.i64.max = 9223372036854775807 := by decide
  unfold In64
  omega

end Go.Proofs.Ytkgljfnbaoncbaa
