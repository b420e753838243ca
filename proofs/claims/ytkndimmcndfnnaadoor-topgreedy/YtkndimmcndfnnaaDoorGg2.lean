/- TopGreedy: the law. -/
import Derived.Test.YtkndimmcndfnnaaDoorGgA
import Derived.Test.YtkndimmcndfnnaaDoorGe5
import Derived.Test.YtkndimmcndfnnaaDoorSh3
import Derived.Deep.QuietTactic
import Derived.BigQuiet
namespace Go.Proofs.YtkndimmcndfnnaaDoor
open Go.RowKit
attribute [local go_sem ↓] Go.wp_at_zero Go.wp_at_succ

set_option maxRecDepth 100000 in
set_option maxHeartbeats 800000 in
theorem weighW_any (ws : List Int) (s : Nat) (v : Value) (w : World) (hv : Sl w.heap.size 3 w v (ints ws)) (hs : s < 256) (hsl : ∀ i, s.testBit i = true → i < ws.length) (hb : ∀ i : Nat, -1000 ≤ ws.getD i 0 ∧ ws.getD i 0 ≤ 1000) :
    Calls Tryd.prog 9 #[v, .int .i64 s] w fun e w' => e = .returned (.int .i64 (wgh ws s)) ∧ Below w.heap.size w w' := by
  obtain ⟨ao, cap, hvv, hlc, hcm⟩ := sl_open hv
  subst hvv
  have HM : Hid (Calls Tryd.prog 19 #[.int .i64 s] w fun e w' => ∃ uo uc, e = .returned (.slice uo (mem8 s).length uc) ∧ Sl 0 3 w' (.slice uo (mem8 s).length uc) (ints (mem8 s)) ∧ Below w.heap.size w w') := (members8_any s w hs).mono (by
    rintro e w' ⟨u, rfl, h1, h2⟩
    obtain ⟨uo, uc, rfl⟩ := owns_form h1
    exact ⟨uo, uc, rfl, Sl.own h1, h2⟩)
  have HV : Hid (∀ W', Below w.heap.size w W' → Sl w.heap.size 3 W' (.slice ao ws.length cap) (ints ws)) := fun W' h => hv.below h (Nat.le_refl _)
  have HR : Hid (wgh ws s = ((mem8 s).map fun x : Int => ws.getD x.toNat 0).sum) := (wgh_mem8 ws s).symm
  have HI : Hid (∀ z ∈ mem8 s, ∃ i : Nat, z = (i : Int) ∧ i < ws.length) := fun z hz => by
    obtain ⟨i, _, h2, rfl⟩ := mem8_iff.1 hz
    exact ⟨i, rfl, hsl i h2⟩
  have HBD : Hid (∀ i : Nat, -1000 ≤ ws.getD i 0 ∧ ws.getD i 0 ≤ 1000) := hb
  have hml := mem8_len s
  generalize wgh ws s = R at *
  generalize mem8 s = M at *
  clear hv hs hsl hb
  go_enter Tryd.func9, Tryd.ntmps9
  go_wp2_with fail
  refine HM.out.mono ?_
  rintro e w1 ⟨uo, uc, rfl, hs1, hb1⟩
  have HS1 : Hid (Sl 0 3 w1 (.slice uo M.length uc) (ints M)) := hs1
  have HB1 : Hid (Below w.heap.size w w1) := hb1
  have HV1 : Hid (Sl w.heap.size 3 w1 (.slice ao ws.length cap) (ints ws)) := HV.out w1 hb1
  clear hs1 hb1 HM
  go_wp2
  go_loopw [5, 7] (fun nv i wr => ∃ k : Nat, k ≤ M.length ∧ i = .int .i64 k ∧ nv = .int .i64 ((M.take k).map fun x : Int => ws.getD x.toNat 0).sum ∧ -1000 * (k : Int) ≤ ((M.take k).map fun x : Int => ws.getD x.toNat 0).sum ∧ ((M.take k).map fun x : Int => ws.getD x.toNat 0).sum ≤ 1000 * k ∧ wr = w1) (fun _ i _ => M.length - (intOf i).toNat)
  case atStart => exact ⟨0, Nat.zero_le _, rfl, by simp, by simp, by simp, rfl⟩
  case round =>
    obtain ⟨k, hk, rfl, rfl, hl0, hl1, rfl⟩ := hrel
    by_cases hlt : k < M.length
    · obtain ⟨mb, mq, _, hs, _, hcm1⟩ := sl_cell HS1.out hlt
      simp only [Value.slice.injEq] at hs
      obtain ⟨rfl, -, -⟩ := hs
      obtain ⟨i, hi, hil⟩ := HI.out (M.getD k 0) (by simp [hlt])
      obtain ⟨wb, wq, _, hs, _, hcw⟩ := sl_cell HV1.out hil
      simp only [Value.slice.injEq] at hs
      obtain ⟨rfl, -, -⟩ := hs
      have HNX : Hid (((M.take (k + 1)).map fun x : Int => ws.getD x.toNat 0).sum = ((M.take k).map fun x : Int => ws.getD x.toNat 0).sum + ws.getD i 0) := by
        have e : M[k] = (i : Int) := by rw [← hi]; simp [hlt]
        show _ = _
        rw [List.take_succ_eq_append_getElem hlt, List.map_append, List.sum_append, e]
        simp
      have hbd := HBD.out i
      rw [hi] at hcm1
      clear hi
      generalize ((M.take k).map fun x : Int => ws.getD x.toNat 0).sum = N at *
      generalize ws.getD i 0 = Y at *
      have q1 : IntKind.i64.wrap (N + Y) = N + Y := by
        rw [IntWalk.i64_left]
        exact IntWalk.wrap64_in _ ⟨by omega, by omega⟩
      have kI : (k : Int) < (M.length : Int) := by omega
      have kI0 : (0 : Int) ≤ (k : Int) := by omega
      have iI : (i : Int) < (ws.length : Int) := by omega
      have iI0 : (0 : Int) ≤ (i : Int) := by omega
      go_wp2
      exact ⟨⟨k + 1, by omega, by go_num, by rw [HNX.out], by rw [HNX.out]; omega, by rw [HNX.out]; omega, trivial⟩, by simp [intOf]; omega⟩
    · have hke : k = M.length := by omega
      subst hke
      have HE : Hid (((M.take M.length).map fun x : Int => ws.getD x.toNat 0).sum = R) := by
        show _ = _
        rw [List.take_length, HR.out]
      generalize ((M.take M.length).map fun x : Int => ws.getD x.toNat 0).sum = N at *
      go_wp2
      go_ret
      exact ⟨by rw [HE.out]; rfl, HB1.out⟩


theorem ris_len256 {bs : List Int} (h : Ris bs) (h8 : B8 bs) : bs.length ≤ 256 := by
  have hi : ∀ i : Nat, i < bs.length → (i : Int) ≤ bs.getD i 0 := fun i => by
    induction i with
    | zero => intro h0; exact (h8 _ (by simp [h0])).1
    | succ i ih =>
      intro hl
      have h1 := ih (by omega)
      have h2 := ris_get h (show i < i + 1 by omega) hl
      omega
  rcases Nat.eq_zero_or_pos bs.length with h0 | h0
  · omega
  · have h1 := hi (bs.length - 1) (by omega)
    have h2 := (h8 (bs.getD (bs.length - 1) 0) (by simp [show bs.length - 1 < bs.length by omega])).2
    omega

/-- The law's box. -/
structure GbX (w2 : World) (N : Int) (u : Value) (bs : List Int) (W : World) : Prop where
  bel : Below w2.heap.size w2 W
  box : W.heap[w2.heap.size]? = some (.cells #[.int .i64 N, u] 25 (0, 0))
  sl : Sl 0 3 W u (ints bs)

theorem GbX.lt {w2 : World} {N : Int} {u : Value} {bs : List Int} {W : World} (h : GbX w2 N u bs W) : w2.heap.size < W.heap.size := (Array.getElem?_eq_some_iff.1 h.box).1

theorem GbX.next {w2 : World} {N : Int} {u : Value} {bs : List Int} {W W' : World} (h : GbX w2 N u bs W) (hb : Below W.heap.size W W') : GbX w2 N u bs W' :=
  ⟨h.bel.trans (hb.mono (Nat.le_of_lt h.lt)), (hb.block _ h.lt).trans h.box, h.sl.below hb (Nat.le_refl _)⟩

set_option maxRecDepth 100000 in
set_option maxHeartbeats 3200000 in
theorem topGreedy_any (n0 kind which : Int) (raw : List Int) (v : Value) (w : World) (hv : Sl w.heap.size 3 w v (ints raw)) (hr : ∀ z ∈ raw, In64 z) (hk : In64 kind) (hn0 : In64 n0) (hwh : In64 which) (hT : TabB w) :
    Calls Tryd.prog 3 #[v, .int .i64 kind, .int .i64 n0, .int .i64 which] w fun e w' => e = .returned (.bool true) ∧ Below w.heap.size w w' := by
  obtain ⟨i3, hi3, hz30, hz31, hz32⟩ := info_parts Tryd.info3
  obtain ⟨lo, lc, hvv, hlc, hcm⟩ := sl_open hv
  subst hvv
  by_cases hl40 : 256 < raw.length
  · have b0 : decide ((256 : Int) < (raw.length : Int)) = true := decide_eq_true (by omega)
    clear hv hr hT
    go_enter Tryd.func3, Tryd.ntmps3
    go_wp2
    go_ret
    exact ⟨rfl, Below.refl _ _⟩
  have b0 : decide ((256 : Int) < (raw.length : Int)) = false := decide_eq_false (by omega)
  have hll : raw.length ≤ 256 := by omega
  obtain ⟨pf, hpf⟩ : ∃ pf : Nat, pickF n0 7 = (pf : Int) := ⟨(pickF n0 7).toNat, by have := (pickF_bd (c := n0) (n := 7) (by decide)).1; omega⟩
  have hpf5 : pf < 7 := by have := (pickF_bd (c := n0) (n := 7) (by decide)).2; omega
  obtain ⟨n, hn⟩ : ∃ n : Nat, n = 1 + pf := ⟨_, rfl⟩
  have hn1 : 1 ≤ n := by omega
  have hn7 : n ≤ 7 := by omega
  have HP1 : Hid (∀ W', Calls Tryd.prog 4 #[.int .i64 n0, .int .i64 7] W' fun e w' => e = .returned (.int .i64 pf) ∧ w' = W') := fun W' => by rw [← hpf]; exact pick_val n0 7 W' (by omega) (by omega) hn0
  have HV : Hid (∀ W', Below w.heap.size w W' → Sl w.heap.size 3 W' (.slice lo raw.length lc) (ints raw) ∧ TabB W') := fun W' h => ⟨hv.below h (Nat.le_refl _), hT.below h⟩
  have HRW : Hid (∀ W' (i : Nat), Below w.heap.size w W' → i ≤ 1000 → Calls Tryd.prog 6 #[.slice lo raw.length lc, .int .i64 i] W' fun e w' => ∃ z, e = .returned (.int .i64 z) ∧ (0 ≤ z ∧ z ≤ 4611686018427387904) ∧ Below W'.heap.size W' w') := fun W' i h hi =>
    raw_any w.heap.size raw _ i W' (HV.out W' h).1 hr (by omega) (by omega)
  have HMF : Hid (Calls Tryd.prog 5 #[.slice lo raw.length lc, .int .i64 0, .int .i64 kind, .int .i64 n] w fun e w' => ∃ u bs, e = .returned (.agg #[.int .i64 n, u]) ∧ Sl 0 3 w' u (ints bs) ∧ matE (n : Int) bs = 0 ∧ Below w.heap.size w w') := matroidFrom_is n kind raw _ w hv hr hll hk hn1 hn7
  have a1 : IntKind.i64.wrap (1 + (pf : Int)) = (n : Int) := by
    rw [show (1 + (pf : Int)) = (n : Int) by omega]; exact wrap_small (by omega)
  have HWH : Hid (∀ (m : Nat) W', 1 ≤ m → m ≤ 1000 → ∃ a : Nat, a < m ∧ Calls Tryd.prog 4 #[.int .i64 which, .int .i64 m] W' fun e w' => e = .returned (.int .i64 a) ∧ w' = W') := fun m W' hm hm2 => by
    obtain ⟨k1, k2⟩ := pickF_bd (c := which) (n := (m : Int)) (by omega)
    refine ⟨(pickF which m).toNat, by omega, ?_⟩
    rw [Int.toNat_of_nonneg k1]
    exact pick_val which m W' (by omega) (by omega) hwh
  clear hv hT hr hpf hl40 hn
  go_enter Tryd.func3, Tryd.ntmps3
  go_wp2_with fail
  refine (HP1.out w).mono ?_
  rintro e w1 ⟨rfl, hw1⟩
  obtain rfl := hw1.symm
  clear hw1
  go_wp2_with fail
  refine HMF.out.mono ?_
  rintro e w2 ⟨u, bs, rfl, hsu, hmat, hb2⟩
  obtain ⟨uo, uc, huv, _, _⟩ := sl_open hsu
  subst huv
  have HMAT : Hid (matE (n : Int) bs = 0) := hmat
  have HB2 : Hid (Below w.heap.size w w2) := hb2
  obtain ⟨W3, hW3⟩ : ∃ W3, W3 = w2.alloc (.cells #[.int .i64 n, .slice uo bs.length uc] 25) := ⟨_, rfl⟩
  have HX3 : Hid (GbX w2 n (.slice uo bs.length uc) bs W3) := by
    rw [hW3]
    exact ⟨(Below.refl _ _).alloc (Nat.le_refl _) _, heap_alloc_new w2 _, hsu.below ((Below.refl w2.heap.size _).alloc (Nat.le_refl _) _) (Nat.le_refl _)⟩
  have HW3 : Hid (W3 = w2.alloc (.cells #[.int .i64 n, .slice uo bs.length uc] 25)) := hW3
  clear hsu hmat hb2 hW3 HMF
  go_wp2
  rw [← HW3.out]
  clear HW3
  go_loopw [10, 11] (fun x i wq => ∃ (j : Nat) (r : List Int), j ≤ n ∧ i = .int .i64 j ∧ r.length = j ∧ (∀ z ∈ r, -5 ≤ z ∧ z ≤ 5) ∧ wq.ownsRow W3.heap.size 3 1 x j (ints r) ∧ Below W3.heap.size W3 wq) (fun _ i _ => n - (intOf i).toNat)
  case atStart => exact ⟨0, [], Nat.zero_le _, rfl, rfl, fun z hz => by simp at hz, World.ownsRow_nil _ _ _ _, Below.refl _ _⟩
  case round =>
    obtain ⟨j, r, hj, rfl, hrl, hrb, hown, hbel⟩ := hrel
    obtain ⟨wb, rfl⟩ : ∃ wb, wb = wr := ⟨wr, rfl⟩
    have HO : Hid (wb.ownsRow W3.heap.size 3 1 u10 j (ints r)) := hown
    have HBq : Hid (Below W3.heap.size W3 wb) := hbel
    have HRL : Hid (r.length = j) := hrl
    have HRB : Hid (∀ z ∈ r, -5 ≤ z ∧ z ≤ 5) := hrb
    have hszq : W3.heap.size ≤ wb.heap.size := hbel.size
    have HXB : Hid (GbX w2 n (.slice uo bs.length uc) bs wb) := HX3.out.next hbel
    have HBW : Hid (Below w.heap.size w wb) := HB2.out.trans (HXB.out.bel.mono HB2.out.size)
    clear hown hbel hrl hrb
    obtain ⟨xo, xc, hxv⟩ := owns_form HO.out
    subst hxv
    by_cases hjl : j < n
    · have hjI : (j : Int) < (n : Int) := by omega
      have HIX : Hid ((40 : Int) + j = ((40 + j : Nat) : Int)) := by
        show _ = _
        omega
      go_wp2_with fail
      rw [HIX.out]
      refine (HRW.out wb (40 + j) HBW.out (by omega)).mono ?_
      rintro e w5 ⟨z5, rfl, hz5, hb5⟩
      have HB5 : Hid (Below wb.heap.size wb w5) := hb5
      have HC : Hid (In64 z5) := ⟨by have := hz5.1; omega, by have := hz5.2; omega⟩
      clear hz5 hb5 HIX
      go_wp2_with fail
      refine (pick_any z5 11 w5 (by omega) (by omega) HC.out).mono ?_
      rintro e w6 ⟨z, rfl, hz, rfl⟩
      have hz1 := hz.1
      have hz2 := hz.2
      have HO1 : Hid (w6.ownsRow W3.heap.size 3 1 (.slice xo j xc) j (ints r)) := owns_below HO.out HB5.out (Nat.le_refl _)
      have HBq1 : Hid (Below W3.heap.size W3 w6) := HBq.out.trans (HB5.out.mono hszq)
      have hsz2 : W3.heap.size ≤ w6.heap.size := Nat.le_trans hszq HB5.out.size
      clear hz HO HBq HB5 HC
      go_wp2_with (first | (at_builtin; refine wpList_append_own _ rfl _ _ 22 rfl W3.heap.size 3 i3 (.int .i64 0) 1 8 Tryd.underlying22 hi3 hz30 hz31 hz32 rfl (by decide) _ _ _ rfl (HO1.out.alloc _) ⟨w6.heap.size, 0, none⟩ 1 1 [.int .i64 (z - 5)] rfl rfl (one_new _ _ _) (one_int _) ?c3 ?c4 ?c5 ?_))
      case c3 => unfold maxLen; omega
      case c4 => omega
      case c5 => simp; omega
      intro v' w7 ho hg _
      have R := owns_push (z := z - 5) (N := j + 1) hsz2 (l := r) (by rw [HRL.out]; exact HO1.out) HBq1.out (by rw [HRL.out]; exact ho) hg (by rw [HRL.out])
      have R1 : Hid (w7.ownsRow W3.heap.size 3 1 v' (j + 1) (ints (r ++ [z - 5]))) := R.1
      have R2 : Hid (Below W3.heap.size W3 w7) := R.2
      have R3 : Hid (∀ x ∈ r ++ [z - 5], -5 ≤ x ∧ x ≤ 5) := fun x hx => by
        rcases List.mem_append.1 hx with hx | hx
        · exact HRB.out x hx
        · have : x = z - 5 := by simpa using hx
          omega
      clear R ho hg
      go_wp2
      go_roundw
      case rel => exact ⟨j + 1, r ++ [z - 5], by omega, by go_num, by simp [HRL.out], R3.out, R1.out, R2.out⟩
      case measure => simp [intOf]; omega
    · have hjn : n = j := by omega
      subst hjn
      obtain ⟨q, hq⟩ := mat_mto HMAT.out
      have hrl : r.length = n := HRL.out
      have hbl : bs.length ≤ 256 := by
        exact ris_len256 hq.ris hq.b8
      obtain ⟨hvl, hvp⟩ := hvL_keep r
      have hpl := hv_pls r (by omega) hvl hvp
      rw [hrl] at hpl
      obtain ⟨gb1, gb2, gb3⟩ := greed_best hq hpl hrl hn1
      have hfar : r.any (farB · 1000) = false := by
        rw [List.any_eq_false]
        intro z hz
        have := HRB.out z hz
        unfold farB
        simp
        omega
      have hE : grE n bs r = 0 := by
        unfold grE
        rw [HMAT.out, if_neg (by simp), if_neg (by rw [hrl]; simp), if_neg (by rw [hfar]; simp)]
      have hA : grA n bs r = grT bs r (hvL r) n := by
        unfold grA
        rw [if_pos hE, hrl]
      obtain ⟨G, hG⟩ : ∃ G, G = (grT bs r (hvL r) n).1 := ⟨_, rfl⟩
      obtain ⟨sm, hsm⟩ : ∃ sm, sm = (grT bs r (hvL r) n).2 := ⟨_, rfl⟩
      rw [← hG] at gb1 gb2 gb3
      rw [← hsm] at gb2
      have HGR : Hid (Calls Tryd.prog 7 #[.agg #[.int .i64 n, .slice uo bs.length uc], .slice xo n xc] wb fun e w' => e = .returned (.tuple #[.int .i64 (G : Int), .int .i64 sm, .int .i64 0]) ∧ Below wb.heap.size wb w') := by
        have h := greedy_any n bs r (.slice uo bs.length uc) (.slice xo n xc) wb (HXB.out.sl.more (Nat.zero_le _)) ((Sl.own HO.out).more (Nat.zero_le _)) (by omega) (HV.out wb HBW.out).2
        rw [hA, hE, ← hG, ← hsm] at h
        exact h
      have HGB : Hid ((G : Int) ∈ bs) := gb1
      have HGS : Hid (sm = wgh r G) := gb2
      have HGM : Hid (∀ B : Nat, (B : Int) ∈ bs → wgh r B ≤ wgh r G) := gb3
      have HBN : Hid (∀ z ∈ bs, ∃ B : Nat, z = (B : Int) ∧ B < 2 ^ n) := fun z hz => by
        obtain ⟨B, h1, h2, _⟩ := hq.sz z hz
        exact ⟨B, h1, h2⟩
      have hbp : 1 ≤ bs.length := List.length_pos_of_mem gb1
      have HWG : Hid (∀ (B : Nat) W', B < 2 ^ n → Below wb.heap.size wb W' → Calls Tryd.prog 9 #[.slice xo n xc, .int .i64 B] W' fun e w' => e = .returned (.int .i64 (wgh r B)) ∧ Below W'.heap.size W' w') := fun B W' hB h => by
        have h0 : Sl W'.heap.size 3 W' (.slice xo n xc) (ints r) := ((Sl.own (owns_below HO.out h (Nat.le_refl _))).more (Nat.zero_le _))
        exact weighW_any r B (.slice xo n xc) W' h0 (lt_256 (by omega) hB) (fun i hi => by rw [hrl]; exact bit_lt hB hi) (fun i => by
          by_cases c : i < r.length
          · have := HRB.out (r.getD i 0) (by simp [c])
            omega
          · rw [show r.getD i 0 = 0 by simp [c]]; decide)
      clear hq hvl hvp hpl gb1 gb2 gb3 hfar hE hA hG hsm hrl
      have x0 : wb.cell? ⟨w2.heap.size, 0, none⟩ = some (.int .i64 n) := by simp [World.cell?, HXB.out.box]
      have x1 : wb.cell? ⟨w2.heap.size, 1, none⟩ = some (.slice uo bs.length uc) := by simp [World.cell?, HXB.out.box]
      go_wp2_with fail
      refine HGR.out.mono ?_
      rintro e w6 ⟨rfl, hb6⟩
      have HX6 : Hid (GbX w2 n (.slice uo bs.length uc) bs w6) := HXB.out.next hb6
      have HB6 : Hid (Below wb.heap.size wb w6) := hb6
      have HIN : Hid (Calls Tryd.prog 8 #[.int .i64 G, .slice uo bs.length uc] w6 fun e w' => e = .returned (.bool true) ∧ ∃ d, w' = w6.drewN d) := by
        have h := inR_any 0 (G : Int) bs (.slice uo bs.length uc) w6 HX6.out.sl
        rw [show bs.contains (G : Int) = true from List.contains_iff_mem.2 HGB.out] at h
        exact h
      have c1 : w6.cell? ⟨w2.heap.size, 1, none⟩ = some (.slice uo bs.length uc) := by simp [World.cell?, HX6.out.box]
      clear hb6 HGR
      go_wp2_with fail
      refine HIN.out.mono ?_
      rintro e w7 ⟨rfl, d7, rfl⟩
      have HX7 : Hid (GbX w2 n (.slice uo bs.length uc) bs (w6.drewN d7)) := ⟨HX6.out.bel.trans ⟨rfl, rfl, rfl, Nat.le_refl _, fun _ _ => rfl⟩, HX6.out.box, HX6.out.sl⟩
      have HB7 : Hid (Below wb.heap.size wb (w6.drewN d7)) := HB6.out.trans ⟨rfl, rfl, rfl, Nat.le_refl _, fun _ _ => rfl⟩
      generalize w6.drewN d7 = W7 at *
      clear c1 HIN HX6 HB6
      obtain ⟨a, ha, _⟩ := HWH.out bs.length W7 hbp (by omega)
      have HPQ : Hid (∀ q, Calls Tryd.prog 4 #[.int .i64 which, .int .i64 bs.length] (W7.drewN q) fun e w' => e = .returned (.int .i64 (pickF which bs.length)) ∧ w' = W7.drewN q) := fun q => pick_val which bs.length (W7.drewN q) (by omega) (by omega) hwh
      obtain ⟨k1, k2⟩ := pickF_bd (c := which) (n := (bs.length : Int)) (by omega)
      obtain ⟨pk, hpk⟩ : ∃ pk : Nat, pickF which bs.length = (pk : Int) := ⟨(pickF which bs.length).toNat, by omega⟩
      rw [hpk] at HPQ
      have hpkl : pk < bs.length := by omega
      obtain ⟨ub, uq, _, hs, _, cb⟩ := sl_cell HX7.out.sl hpkl
      simp only [Value.slice.injEq] at hs
      obtain ⟨rfl, -, -⟩ := hs
      obtain ⟨B, hB, hBn⟩ := HBN.out (bs.getD pk 0) (by simp [hpkl])
      have HBB : Hid ((B : Int) ∈ bs) := by
        show _ ∈ bs
        rw [← hB]; simp [hpkl]
      rw [hB] at cb
      have c1 : W7.cell? ⟨w2.heap.size, 1, none⟩ = some (.slice (some ⟨ub, uq, none⟩) bs.length uc) := by simp [World.cell?, HX7.out.box]
      have pI : (pk : Int) < (bs.length : Int) := by omega
      have pI0 : (0 : Int) ≤ (pk : Int) := by omega
      have HGN : Hid (G < 2 ^ n) := by
        obtain ⟨G', e1, e2⟩ := HBN.out _ HGB.out
        have : G = G' := by omega
        rw [this]; exact e2
      clear hB hpk k1 k2 ha
      go_wp2_with fail
      go_big_quiet ((go_at_call 4; exact Calls.quiet_of_same (w := W7) (HPQ.out _)))
      have HB8 : Hid (Below wb.heap.size wb (W7.drewN nq)) := HB7.out.trans ⟨rfl, rfl, rfl, Nat.le_refl _, fun _ _ => rfl⟩
      generalize W7.drewN nq = W8 at *
      clear c1 cb HPQ HX7 HB7
      have HLE : Hid (decide (wgh r B ≤ wgh r G) = true) := decide_eq_true (HGM.out B HBB.out)
      have HWE : Hid (wgh r G = sm) := HGS.out.symm
      go_wp2_with fail
      refine (HWG.out G W8 HGN.out HB8.out).mono ?_
      rintro e w9 ⟨rfl, hb9⟩
      have HB9 : Hid (Below wb.heap.size wb w9) := HB8.out.trans (hb9.mono HB8.out.size)
      have HBZ : Hid (Below w.heap.size w w9) := HBW.out.trans (HB9.out.mono HBW.out.size)
      have HW9 : Hid (Calls Tryd.prog 9 #[.slice xo n xc, .int .i64 B] w9 fun e w' => e = .returned (.int .i64 (wgh r B)) ∧ Below w9.heap.size w9 w') := HWG.out B w9 hBn HB9.out
      rw [HWE.out] at HLE ⊢
      generalize wgh r B = wB at *
      have tq : (sm == sm) = true := by simp
      clear hb9
      go_wp2_with fail
      refine HW9.out.mono ?_
      rintro e w10 ⟨rfl, hb10⟩
      have HBF : Hid (Below w.heap.size w w10) := HBZ.out.trans (hb10.mono HBZ.out.size)
      have tl := HLE.out
      clear hb10
      go_wp2
      go_ret
      exact ⟨by first | rfl | (rw [tl]; rfl) | simp_all, HBF.out⟩

end Go.Proofs.YtkndimmcndfnnaaDoor
