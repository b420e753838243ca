/- tropic.columnPrices. -/
import Derived.Test.YthocinibieefkaaTw5
import Derived.Test.YthocinibieefkaaTp2
import Derived.Deep.OwnRows
namespace Go.Proofs.Ythocinibieefkaa
open Go.RowKit
attribute [local go_sem ↓] Go.wp_at_zero Go.wp_at_succ

/-- A list's numbers as cells. -/
def valsT (V : List Int) : Nat → Value := fun i => .int .i64 (V.getD i 0)

/-- A choice that is one of the least. -/
structure LeastC (M : List (List Int)) (c : List Int) : Prop where
  sq : Sqr M
  ord : IsOrd M.length c
  len : c.length = M.length
  min : ∀ g, Ins M.length g → costF M (fun i => (c.getD i 0).toNat) M.length ≤ costF M g M.length

theorem LeastC.ins {M : List (List Int)} {c : List Int} (h : LeastC M c) : Ins M.length (fun i => (c.getD i 0).toNat) := ord_ins h.ord h.len

theorem LeastC.low {M : List (List Int)} {c : List Int} (h : LeastC M c) : ∀ r s, r < M.length → s < M.length → -((20000 : Nat) : Int) ≤ wgtT M (fun i => (c.getD i 0).toNat) r s := by
  intro r s _ _
  have h1 := h.sq.ent (i := r) (j := (c.getD s 0).toNat)
  have h2 := h.sq.ent (i := r) (j := (c.getD r 0).toNat)
  simp only [wgtT]
  omega

/-- Prices on their way. -/
def Prc (M : List (List Int)) (c V : List Int) : Prop := ∃ L : Nat → Int, (∀ r s, r < M.length → s < M.length → L s ≤ L r + wgtT M (fun i => (c.getD i 0).toNat) r s) ∧ (∀ s, s < M.length → L s ≤ 0 ∧ -120000 ≤ L s) ∧ Bnd (fun i => (c.getD i 0).toNat) M.length L V

theorem Prc.bd {M : List (List Int)} {c V : List Int} (h : Prc M c V) (hc : LeastC M c) {j : Nat} (hj : j < M.length) : -120000 ≤ V.getD j 0 ∧ V.getD j 0 ≤ 0 := by
  obtain ⟨L, h1, h2, h3⟩ := h
  obtain ⟨s, hs, e⟩ := ins_onto hc.ins hj
  have a := h3.2.1 s hs
  have b := (h2 s hs).2
  have e' : (fun i => (c.getD i 0).toNat) s = j := e
  rw [e'] at a
  exact ⟨by omega, h3.2.2 _⟩

theorem Prc.rlxTo {M : List (List Int)} {c V : List Int} (h : Prc M c V) (hc : LeastC M c) {i k : Nat} (hi : i < M.length) (hk : k ≤ M.length) : Prc M c (rlxTo M (fun i => (c.getD i 0).toNat) i V k) := by
  obtain ⟨L, h1, h2, h3⟩ := h
  exact ⟨L, h1, h2, rlxTo_bnd hc.ins h1 hi h3 k hk⟩

theorem Prc.rwsTo {M : List (List Int)} {c V : List Int} (h : Prc M c V) (hc : LeastC M c) {k : Nat} (hk : k ≤ M.length) : Prc M c (rwsTo M (fun i => (c.getD i 0).toNat) M.length V k) := by
  obtain ⟨L, h1, h2, h3⟩ := h
  exact ⟨L, h1, h2, rwsTo_bnd hc.ins h1 h3 k hk⟩

theorem prc_rnds {M : List (List Int)} {c : List Int} (hc : LeastC M c) (k : Nat) : Prc M c (rnds M (fun i => (c.getD i 0).toNat) M.length k) := by
  obtain ⟨L, h1, h2, h3⟩ := rnds_fit hc.ins hc.min hc.low
  have h6 := hc.sq.n6
  refine ⟨L, h1, fun s hs => ⟨(h2 s hs).1, ?_⟩, rnds_bnd hc.ins h1 (fun s hs => (h2 s hs).1) k⟩
  have := (h2 s hs).2
  have : 20000 * M.length ≤ 20000 * 6 := Nat.mul_le_mul_left _ h6
  omega

theorem rowIs_own {w : World} {b B n : Nat} {V : List Int} (h : w.rowIs b 3 n (valsT V)) (hl : V.length = n) (hB : B ≤ b) (hn : n ≤ 1000000) : w.ownsRow B 3 1 (.slice (some ⟨b, 0, none⟩) n n) n (ints V) := by
  obtain ⟨c, h1, h2, h3⟩ := h
  refine ⟨by simp [hl], .inr ⟨b, n, c, rfl, hB, h1, Nat.le_refl _, by unfold maxLen; omega, by omega, ?_⟩⟩
  refine List.ext_getElem? fun i => ?_
  by_cases hi : i < n
  · rw [List.getElem?_take_of_lt (by omega), Array.getElem?_toList, h3 i hi, ints_get V i (by omega)]
    rfl
  · rw [List.getElem?_eq_none (by simp; omega), List.getElem?_eq_none (by simp; omega)]

set_option maxRecDepth 100000 in
set_option maxHeartbeats 1600000 in
theorem columnPrices_any (M : List (List Int)) (c : List Int) (v cv : Value) (w : World) (hc : LeastC M c) (hv : Mat w.heap.size 26 3 w v M) (hcv : Sl w.heap.size 3 w cv (ints c)) :
    Calls Try.prog 20 #[v, cv] w fun e w' => ∃ u, e = .returned u ∧ w'.ownsRow w.heap.size 3 1 u M.length (ints (rnds M (fun i => (c.getD i 0).toNat) M.length M.length)) ∧ Below w.heap.size w w' := by
  obtain ⟨po, pc, hvv, hlc, hcm⟩ := mat_open hv
  subst hvv
  obtain ⟨ao, cap, hvv, hlc2, hcm2⟩ := sl_open hcv
  subst hvv
  have hol := hc.len
  rw [hol] at hcv hlc2 ⊢
  have HC : Hid (LeastC M c) := hc
  have HV : Hid (Mat w.heap.size 26 3 w (.slice po M.length pc) M) := hv
  have HO : Hid (Sl w.heap.size 3 w (.slice ao M.length cap) (ints c)) := hcv
  have h6 := hc.sq.n6
  have hn1 := hc.sq.n1
  clear hv hcv hol hc
  have hmk := run_make_row' (P := Try.prog) 26 3 (.int .i64 0) 8 Try.underlying26 Try.info3 rfl .i64 .i64 M.length (by omega) (by omega)
  obtain ⟨W0, hW0⟩ : ∃ W0, W0 = w.alloc (.cells (madeCells #[.int .i64 0] M.length) 3) := ⟨_, rfl⟩
  have HW0 : Hid (W0 = w.alloc (.cells (madeCells #[.int .i64 0] M.length) 3)) := hW0
  have HR0 : Hid (W0.rowIs w.heap.size 3 M.length (valsT (rnds M (fun i => (c.getD i 0).toNat) M.length 0))) := by
    rw [hW0]
    refine (World.rowIs_made w _ _ _).congr (fun i hi => ?_)
    simp [valsT, rnds, hi]
  have HB0 : Hid (Below w.heap.size w W0) := by rw [hW0]; exact oAlloc_keep _ _
  clear hW0
  obtain ⟨σ, hσ⟩ : ∃ σ : Nat → Nat, σ = fun i => (c.getD i 0).toNat := ⟨_, rfl⟩
  rw [← hσ] at HR0 ⊢
  have HP : Hid (∀ k, Prc M c (rnds M σ M.length k)) := by rw [hσ]; exact prc_rnds HC.out
  have HP2 : Hid (∀ V k, Prc M c V → k ≤ M.length → Prc M c (rwsTo M σ M.length V k)) := by rw [hσ]; exact fun V k h hk => h.rwsTo HC.out hk
  have HP1 : Hid (∀ V i k, Prc M c V → i < M.length → k ≤ M.length → Prc M c (rlxTo M σ i V k)) := by rw [hσ]; exact fun V i k h hi hk => h.rlxTo HC.out hi hk
  have HSG : Hid (∀ i, i < M.length → ∃ t : Nat, c.getD i 0 = t ∧ σ i = t ∧ t < M.length) := fun i hi => by
    obtain ⟨t, h1, h2⟩ := ord_at HC.out.ord HC.out.len hi
    exact ⟨t, h1, by rw [hσ]; show (c.getD i 0).toNat = t; rw [h1]; omega, h2⟩
  clear hσ
  generalize hn : M.length = n at *
  have HN : Hid (M.length = n) := hn
  clear hn
  go_enter Try.func20, Try.ntmps20
  go_wp2
  rw [← HW0.out]
  go_loopw [14] (fun i wr => ∃ k : Nat, k ≤ n ∧ i = .int .i64 k ∧ Below w.heap.size w wr ∧ wr.rowIs w.heap.size 3 n (valsT (rnds M σ n k))) (fun i _ => n - (intOf i).toNat)
  case atStart => exact ⟨0, Nat.zero_le _, rfl, HB0.out, HR0.out⟩
  case round =>
    obtain ⟨k, hk, rfl, hb, hr⟩ := hrel
    by_cases hlt : k < n
    · have HBk : Hid (Below w.heap.size w wr) := hb
      have HRk : Hid (wr.rowIs w.heap.size 3 n (valsT (rnds M σ n k))) := hr
      have HPk : Hid (Prc M c (rnds M σ n k)) := HP.out k
      have HSk : Hid (rnds M σ n (k + 1) = rwsTo M σ n (rnds M σ n k) n) := rfl
      generalize rnds M σ n k = V0 at *
      clear hb hr
      go_wp2
      go_loopw [18] (fun i wq => ∃ r : Nat, r ≤ n ∧ i = .int .i64 r ∧ Below w.heap.size w wq ∧ wq.rowIs w.heap.size 3 n (valsT (rwsTo M σ n V0 r))) (fun i _ => n - (intOf i).toNat)
      case atStart => exact ⟨0, Nat.zero_le _, rfl, HBk.out, HRk.out⟩
      case round =>
        obtain ⟨r, hr, rfl, hb, hrow⟩ := hrel
        by_cases hlr : r < n
        · have HBr : Hid (Below w.heap.size w wr) := hb
          have HRr : Hid (wr.rowIs w.heap.size 3 n (valsT (rwsTo M σ n V0 r))) := hrow
          have HPr : Hid (Prc M c (rwsTo M σ n V0 r)) := HP2.out V0 r HPk.out hr
          have HSr : Hid (rwsTo M σ n V0 (r + 1) = rlxTo M σ r (rwsTo M σ n V0 r) n) := rwsTo_succ V0 r
          generalize rwsTo M σ n V0 r = V1 at *
          obtain ⟨t, ht, hst, htn⟩ := HSG.out r hlr
          have HO' := HO.out
          rw [show n = c.length by rw [HC.out.len, HN.out]] at HO'
          obtain ⟨b1, o1, c1, hs1, _, hcc1⟩ := sl_cell (HO'.below hb (Nat.le_refl _)) (k := r) (by rw [HC.out.len, HN.out]; exact hlr)
          simp only [Value.slice.injEq] at hs1
          obtain ⟨rfl, _, rfl⟩ := hs1
          rw [ht] at hcc1
          have HST : Hid (σ r = t) := hst
          clear hb hrow HO' ht hst
          go_wp2
          go_loopw [25] (fun i wq => ∃ j : Nat, j ≤ n ∧ i = .int .i64 j ∧ Below w.heap.size w wq ∧ wq.rowIs w.heap.size 3 n (valsT (rlxTo M σ r V1 j))) (fun i _ => n - (intOf i).toNat)
          case atStart => exact ⟨0, Nat.zero_le _, rfl, HBr.out, HRr.out⟩
          case round =>
            obtain ⟨j, hj, rfl, hb, hrow⟩ := hrel
            by_cases hlj : j < n
            · have HBj : Hid (Below w.heap.size w wr) := hb
              have HRj : Hid (wr.rowIs w.heap.size 3 n (valsT (rlxTo M σ r V1 j))) := hrow
              have hPj := HP1.out V1 r j HPr.out hlr hj
              have hbj := hPj.bd HC.out (j := j) (by rw [HN.out]; exact hlj)
              have hbt := hPj.bd HC.out (j := t) (by rw [HN.out]; exact htn)
              have HSj : Hid (rlxTo M σ r V1 (j + 1) = rlx M σ r (rlxTo M σ r V1 j) j) := rlxTo_succ r V1 j
              have HLj : Hid ((rlxTo M σ r V1 j).length = n) := by
                obtain ⟨L, _, _, h3⟩ := hPj
                exact h3.1.trans HN.out
              clear hPj
              generalize rlxTo M σ r V1 j = V2 at *
              have hvm := HV.out
              rw [show n = M.length from HN.out.symm] at hvm
              obtain ⟨b2, o2, c2, u, hs2, _, hcc2, hu⟩ := mat_cell (hvm.below hb (Nat.le_refl _)) (k := r) (by rw [HN.out]; exact hlr)
              simp only [Value.slice.injEq, true_and] at hs2
              obtain ⟨rfl, rfl⟩ := hs2
              have hrl : (M.getD r []).length = n := by
                have e : M.getD r [] = M[r]'(by rw [HN.out]; exact hlr) := by simp [show r < M.length by rw [HN.out]; exact hlr]
                rw [e, HC.out.sq.len _ (List.getElem_mem _), HN.out]
              obtain ⟨b3, o3, c3, hs3, hc3, hcc3⟩ := sl_cell hu (k := j) (by omega)
              subst hs3
              obtain ⟨b4, o4, c4, hs4, hc4, hcc4⟩ := sl_cell hu (k := t) (by omega)
              simp only [Value.slice.injEq, Option.some.injEq, Addr.mk.injEq] at hs4
              obtain ⟨⟨rfl, rfl, _⟩, _, rfl⟩ := hs4
              rw [hrl] at hcc2 hc3
              have g1 := hrow.cell hlj
              have g2 := hrow.cell htn
              have g3 := hrow.frozen j
              have e1 := HC.out.sq.ent (i := r) (j := j)
              have e2 := HC.out.sq.ent (i := r) (j := t)
              have HNX : Hid (∀ x : Int, x = min (V2.getD j 0) (V2.getD t 0 + ent M r j - ent M r t) → (wr.setCell ⟨w.heap.size, j, none⟩ (.int .i64 x)).rowIs w.heap.size 3 n (valsT (rlx M σ r V2 j))) := fun x hx => by
                refine (hrow.set j _).congr (fun i hi => ?_)
                have := rlx_at (M := M) (σ := σ) r V2 j i (by rw [HLj.out]; exact hlj)
                simp only [valsT, this, HST.out]
                split
                · rw [hx]
                · rfl
              have HBX : Hid (∀ x, Below w.heap.size w (wr.setCell ⟨w.heap.size, j, none⟩ x)) := fun x => hb.trans ⟨rfl, rfl, rfl, by simp [World.setCell], fun b hb => Below.heap_setCell _ _ _ _ (by show b ≠ w.heap.size; omega)⟩
              have f3 : (M.getD r []).getD j 0 = ent M r j := rfl
              have f4 : (M.getD r []).getD t 0 = ent M r t := rfl
              rw [f3] at hcc3
              rw [f4] at hcc4
              simp only [valsT] at g1 g2
              clear hu hvm hrl hb hrow hc4 f3 f4
              generalize ent M r j = E1 at *
              generalize ent M r t = E2 at *
              generalize V2.getD j 0 = A1 at *
              generalize V2.getD t 0 = A2 at *
              go_wp2
              go_region
              all_goals
                go_wp2
                refine ⟨⟨j + 1, by omega, by go_num, (HBX.out _).drew, ?_⟩, by simp [intOf]; omega⟩
                rw [HSj.out]
                exact (HNX.out _ (by simp only [Int.min_def]; split <;> split <;> omega)).drew
            · have hje : j = n := by omega
              subst hje
              have HBj : Hid (Below w.heap.size w wr) := hb
              have HRj : Hid (wr.rowIs w.heap.size 3 j (valsT (rlxTo M σ r V1 j))) := hrow
              clear hb hrow
              go_wp2
              exact ⟨⟨r + 1, by omega, by go_num, HBj.out, by rw [HSr.out]; exact HRj.out⟩, by simp [intOf]; omega⟩
        · have hre : r = n := by omega
          subst hre
          have HBr : Hid (Below w.heap.size w wr) := hb
          have HRr : Hid (wr.rowIs w.heap.size 3 r (valsT (rwsTo M σ r V0 r))) := hrow
          clear hb hrow
          go_wp2
          exact ⟨⟨k + 1, by omega, by go_num, HBr.out, by rw [HSk.out]; exact HRr.out⟩, by simp [intOf]; omega⟩
    · have hke : k = n := by omega
      subst hke
      have HBk : Hid (Below w.heap.size w wr) := hb
      have HRk : Hid (wr.rowIs w.heap.size 3 k (valsT (rnds M σ k k))) := hr
      have HLN : Hid ((rnds M σ k k).length = k) := by
        obtain ⟨L, _, _, h3⟩ := HP.out k
        exact h3.1.trans HN.out
      clear hb hr
      go_wp2
      go_ret
      exact ⟨_, rfl, rowIs_own HRk.out HLN.out (Nat.le_refl _) (by omega), HBk.out⟩

end Go.Proofs.Ythocinibieefkaa
