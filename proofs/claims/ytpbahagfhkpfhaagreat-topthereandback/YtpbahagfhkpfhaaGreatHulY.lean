import Derived.Test.YtpbahagfhkpfhaaGreatCycAll
import Derived.Test.YtpbahagfhkpfhaaGreatMade1
import Derived.Test.YtpbahagfhkpfhaaGreatRunD
import Derived.Test.YtpbahagfhkpfhaaGreatRaY
import Derived.Test.YtpbahagfhkpfhaaGreatLinAll
import Derived.Test.YtpbahagfhkpfhaaGreatFkA
/- Cyclic's own loop. -/
namespace Go.Proofs.YtpbahagfhkpfhaaGreat
open Go.RowKit

theorem two_setCell {w : World} {b : Nat} {x y u : Value} {t : TypeId} (h : w.heap[b]? = some (.cells #[x, y] t (0, 0))) : (w.setCell ⟨b, 1, none⟩ u).heap[b]? = some (.cells #[x, u] t (0, 0)) := by
  simp [World.setCell, Array.getElem?_modify, h]

end Go.Proofs.YtpbahagfhkpfhaaGreat

/- The polytope of raw numbers: what its walk keeps. -/
namespace Go.Proofs.YtpbahagfhkpfhaaGreat
open Go.RowKit
attribute [local go_sem ↓] Go.wp_at_zero Go.wp_at_succ

/-- A polytope's cells at block R, and its rows. -/
structure PS (N R : Nat) (d : Int) (w wr : World) (v : Value) (m : List (List Int)) : Prop where
  pol : wr.heap[R]? = some (.cells #[.int .i64 d, v] 26 (0, 0))
  rows : Fr N 22 3 wr v m
  bel : Below N w wr
  nR : N ≤ R

theorem PS.step {N R : Nat} {d : Int} {w wr w1 : World} {v : Value} {m : List (List Int)} (h : PS N R d w wr v m) (hb : Below wr.heap.size wr w1) : PS N R d w w1 v m := by
  have h2 := lt_of_block h.pol
  have h3 := h.nR
  exact ⟨(hb.block _ h2).trans h.pol, h.rows.below hb (Nat.le_refl _), h.bel.trans (hb.mono (by omega)), h.nR⟩

theorem PS.push {N R : Nat} {d : Int} {w wr w1 : World} {v v' x : Value} {m : List (List Int)} {zs : List Int} {vs : List Value} (h : PS N R d w wr v m)
    (hx : Sl 0 3 wr x (ints zs)) (h1 : vs.length = m.length) (h2 : wr.ownsRow N 22 1 v m.length vs) (h3 : ∀ i, i < m.length → Sl 0 3 wr (vs.getD i (.slice none 0 0)) (ints (m.getD i [])))
    (ho : w1.ownsRow N 22 1 v' (m.length + 1) (vs ++ [x])) (hg : (wr.alloc (.cells #[x] 22)).grownBy w1 v.ownBlock) :
    (w1.heap[R]? = some (.cells #[.int .i64 d, v] 26 (0, 0))) ∧ PS N R d w (w1.setCell ⟨R, 1, none⟩ v') v' (m ++ [zs]) := by
  have n2 := lt_of_block h.pol
  have hnR := h.nR
  have ht := owns_typed h2 (e1 := 26) (by decide)
  have hsz : (wr.alloc (.cells #[x] 22)).heap.size = wr.heap.size + 1 := by simp
  have g2 : w1.heap[R]? = some (.cells #[.int .i64 d, v] 26 (0, 0)) := by
    rw [hg.block R (by omega) (fun e => (ht R e.symm).2 _ h.pol), Below.heap_alloc _ _ _ n2]; exact h.pol
  have hr : Fr N 22 3 w1 v' (m ++ [zs]) := Fr.push (by decide) h1 (h2.alloc _) (fun i hi => (h3 i hi).alloc _) (hx.alloc _) ho hg
  refine ⟨g2, ⟨two_setCell g2, ?_, ?_, hnR⟩⟩
  · obtain ⟨us, u1, u2, u3⟩ := hr
    refine ⟨us, u1, ownsRow_setCell_other u2 (fun e => ?_) _, fun i hi => (u3 i hi).setCell _ ⟨Nat.zero_le _, fun cur => by simp only; rw [g2]; simp⟩⟩
    exact (owns_typed u2 (e1 := 26) (by decide) _ e).2 _ g2
  · refine ((h.bel.alloc (by omega) _).grown hg (by omega) (fun k hk => (ht k hk).1)).setCell hnR _

/-- The corners of a small simplex. -/
def spk (n k : Nat) : List Int := (List.range n).map fun j => if j = k then 1 + ((k % 2 : Nat) : Int) else 0
def zerosL (n : Nat) : List Int := (List.range n).map fun _ => 0

def polyL (n : Nat) (m : List (List Int)) : List (List Int) := m ++ [zerosL n] ++ (List.range n).map (spk n)

set_option maxRecDepth 100000 in
set_option maxHeartbeats 3200000 in
theorem polytopeOf_any (B : Nat) (l : List Int) (v : Value) (n many wd : Nat) (w : World) (hv : Sl B 3 w v (ints l)) (hr : ∀ z ∈ l, In64 z) (hl : l.length ≤ 1000000) (hn1 : 1 ≤ n) (hn : n ≤ 4) (hmy : many ≤ 10) (hwd : wd ≤ 100) :
    Calls Tryz.prog 5 #[v, .int .i64 0, .int .i64 n, .int .i64 many, .int .i64 wd] w fun e w' => ∃ x m, e = .returned (.agg #[.int .i64 n, x]) ∧ m.length = many ∧ Box n wd m ∧ Mat w'.heap.size 22 3 w' x (polyL n m) ∧ Below w.heap.size w w' := by
  obtain ⟨i0, hi, hz0, hz1, hz2⟩ := info_parts Tryz.info22
  obtain ⟨ao, cap, hvv, hlc, hcm⟩ := sl_open hv
  subst hvv
  have HV : Hid (Sl B 3 w (.slice ao l.length cap) (ints l)) := hv
  have HR : Hid (∀ z ∈ l, In64 z) := hr
  have HL : Hid (l.length ≤ 1000000) := hl
  clear hv hr hl
  have hmk := run_make_row' (P := Tryz.prog) 22 3 (.int .i64 0) 8 Tryz.underlying22 Tryz.info3 rfl .i64 .i64 n (by omega) (by omega)
  go_enter Tryz.func5, Tryz.ntmps5
  go_wp2_with fail
  obtain ⟨w1, hw1⟩ : ∃ w1, w1 = w.alloc (.cells #[.int .i64 0, .slice none 0 0] 26) := ⟨_, rfl⟩
  rw [← hw1]
  have hs1 : w1.heap.size = w.heap.size + 1 := by rw [hw1]; simp
  have HS1 : Hid (w1.heap.size = w.heap.size + 1) := hs1
  have HB1 : Hid (Below w.heap.size w w1) := by rw [hw1]; exact (Below.refl _ _).alloc (Nat.le_refl _) _
  have HK1 : Hid (w1.heap[w.heap.size]? = some (.cells #[.int .i64 0, .slice none 0 0] 26 (0, 0))) := by rw [hw1]; exact alloc_at _ _
  have HV1 : Hid (Sl B 3 w1 (.slice ao l.length cap) (ints l)) := HV.out.below HB1.out (Nat.le_refl _)
  clear hw1 hs1
  refine (pointsOf_any B l _ 0 n many wd w1 HV1.out HR.out HL.out (by omega) (by omega) (by omega) (by omega)).mono ?_
  rintro e w2 ⟨x, m, rfl, hml, hbx, hrw, hb2⟩
  have HML : Hid (m.length = many) := hml
  have HBX : Hid (Box n wd m) := hbx
  obtain ⟨xo, xc, hxv, _, _⟩ := mat_open (hrw.rws.mat (Nat.le_refl _))
  subst hxv
  obtain ⟨N, hN⟩ : ∃ N, N = w1.heap.size := ⟨_, rfl⟩
  obtain ⟨R, hRe⟩ : ∃ R, R = w2.heap.size := ⟨_, rfl⟩
  have HNE : Hid (N = w1.heap.size) := hN
  have hps : PS N R n w1 (w2.alloc (.cells #[.int .i64 n, .slice xo m.length xc] 26)) (.slice xo m.length xc) m := by
    rw [hN, hRe]
    exact ⟨alloc_at _ _, hrw.alloc _, hb2.alloc hb2.size _, hb2.size⟩
  obtain ⟨w3, hw3⟩ : ∃ w3, w3 = w2.alloc (.cells #[.int .i64 n, .slice xo m.length xc] 26) := ⟨_, rfl⟩
  rw [← hw3] at hps
  have HPS : Hid (PS N R n w1 w3 (.slice xo m.length xc) m) := hps
  rw [hml] at hw3 HPS ⊢
  clear hml hbx hrw hb2 hps hN
  go_wp2
  rw [← hw3, ← hRe]
  clear hw3 hRe
  have c1 : w3.cell? ⟨R, 1, none⟩ = some (.slice xo many xc) := by simp [World.cell?, HPS.out.pol]
  obtain ⟨Wm, hWm⟩ : ∃ Wm, Wm = w3.drew.alloc (.cells (madeCells #[.int .i64 0] n) 3) := ⟨_, rfl⟩
  have hbm : Below w3.heap.size w3 Wm := by rw [hWm]; exact (Below.drew (Below.refl _ _)).alloc (Nat.le_refl _) _
  have hsm : Wm.heap.size = w3.heap.size + 1 := by rw [hWm]; show (w3.alloc _).heap.size = _; simp
  have HPM : Hid (PS N R n w1 Wm (.slice xo many xc) m) := HPS.out.step hbm
  have HXZ : Hid (Sl 0 3 Wm (.slice (some ⟨w3.heap.size, 0, none⟩) n n) (ints (zerosL n))) := by
    have hrow : Wm.rowIs w3.heap.size 3 n (fun _ => .int .i64 0) := by rw [hWm]; exact World.rowIs_made w3.drew (.int .i64 0) n 3
    exact Sl.row hrow (by simp [zerosL]) (by unfold maxLen; omega) (fun i hi => by rw [ints_get _ _ (by simpa [zerosL] using hi)]; simp [zerosL, hi])
  obtain ⟨vs, g1, g2, g3⟩ := HPM.out.rows
  have hml := HML.out
  have HG2 : Hid (Wm.ownsRow N 22 1 (.slice xo many xc) many vs) := by rw [← hml]; rw [← hml] at g2; exact g2
  have HPU : Hid (∀ v' w5, w5.ownsRow N 22 1 v' (many + 1) (vs ++ [.slice (some ⟨w3.heap.size, 0, none⟩) n n]) → (Wm.alloc (.cells #[.slice (some ⟨w3.heap.size, 0, none⟩) n n] 22)).grownBy w5 (Value.slice xo many xc).ownBlock →
      w5.cell? ⟨R, 1, none⟩ = some (.slice xo many xc) ∧ w5.frozen? ⟨R, 1, none⟩ = false ∧ PS N R n w1 (w5.setCell ⟨R, 1, none⟩ v') v' (m ++ [zerosL n])) := fun v' w5 ho hg => by
    have hp := HPM.out.push HXZ.out g1 g2 g3 (by rw [hml]; exact ho) hg
    exact ⟨by simp [World.cell?, hp.1], by simp [World.frozen?, hp.1], hp.2⟩
  have HNEW : Hid (∀ j u, [Value.slice (some ⟨w3.heap.size, 0, none⟩) n n][j]? = some u → (Wm.alloc (.cells #[.slice (some ⟨w3.heap.size, 0, none⟩) n n] 22)).cell? ((⟨w3.heap.size + 1, 0, none⟩ : Addr).add j) = some u) := by
    rw [← hsm]; exact one_new _ _ _
  have HNS : Hid (N ≤ (Wm.alloc (.cells #[.slice (some ⟨w3.heap.size, 0, none⟩) n n] 22)).heap.size) := by
    show _ ≤ _
    have h1 := HPM.out.bel.size
    have h2 := HNE.out
    simp; omega
  have c2 : (w3.alloc (.cells (madeCells #[.int .i64 0] n) 3)).cell? ⟨R, 1, none⟩ = some (.slice xo many xc) := (((Below.refl w3.heap.size w3).alloc (Nat.le_refl _) _).cell (lt_of_block HPS.out.pol)).trans c1
  have c3 : ((w3.alloc (.cells (madeCells #[.int .i64 0] n) 3)).alloc (.cells #[.slice (some ⟨w3.heap.size, 0, none⟩) n n] 22)).cell? ⟨R, 1, none⟩ = some (.slice xo many xc) := (((Below.refl _ (w3.alloc (.cells (madeCells #[.int .i64 0] n) 3))).alloc (Nat.le_refl _) _).cell (lt_of_cell c2)).trans c2
  have htm : many + 1 ≤ maxLen := by unfold maxLen; omega
  rw [hWm] at HG2 HPU HNEW HNS
  clear g1 g2 g3 hWm hbm hsm hml
  go_region_law (refine step_append_own (o := { dst := some 27, op := _, type := _, pos := _, after := _, guard := _ }) (by rfl) _ _ 24 (by rfl) N 22 i0 (.slice none 0 0) 1 24 Tryz.underlying24 hi hz0 hz1 hz2 rfl (by decide) _ _ _ (by rfl) (HG2.out.alloc _) ⟨w3.heap.size + 1, 0, none⟩ 1 1 [.slice (some ⟨w3.heap.size, 0, none⟩) n n] (by rfl) rfl HNEW.out (one_slice _ _ _) htm (by omega) HNS.out ?_; intro v' w5 ho hg; obtain ⟨vo, vc, hv'⟩ := owns_form ho; subst hv'; have FF : Hid _ := HPU.out _ w5 ho hg; have LS1 := FF.out.1; have LS2 := FF.out.2.1; clear ho hg)
  all_goals
    have HP0 : Hid (∃ x, PS N R n w1 (w5.setCell ⟨R, 1, none⟩ (.slice vo (many + 1) vc)) x (m ++ [zerosL n] ++ (List.range 0).map (spk n))) := ⟨_, by simpa using FF.out.2.2⟩
    clear FF LS1 LS2 c1 c2 c3
    go_wp2
    go_loopw [12] (fun i wr => ∃ k : Nat, k ≤ n ∧ i = .int .i64 k ∧ ∃ x, PS N R n w1 wr x (m ++ [zerosL n] ++ (List.range k).map (spk n))) (fun i _ => n - (intOf i).toNat)
    case atStart => exact ⟨0, Nat.zero_le _, rfl, HP0.out⟩
    case round =>
      obtain ⟨k, hk, rfl, x, hp⟩ := hrel
      have HP : Hid (PS N R n w1 wr x (m ++ [zerosL n] ++ (List.range k).map (spk n))) := hp
      have HLN : Hid ((m ++ [zerosL n] ++ (List.range k).map (spk n)).length = many + 1 + k) := by
        show _ = _
        simp [HML.out]; omega
      obtain ⟨yo, yc, hyv, _, _⟩ := mat_open (hp.rows.rws.mat (Nat.le_refl _))
      rw [HLN.out] at hyv
      subst hyv
      clear hp
      by_cases hkn : k < n
      · obtain ⟨Wq, hWq⟩ : ∃ Wq, Wq = wr.alloc (.cells ((madeCells #[.int .i64 0] n).setIfInBounds k (.int .i64 (1 + ((k % 2 : Nat) : Int)))) 3) := ⟨_, rfl⟩
        have hbq : Below wr.heap.size wr Wq := by rw [hWq]; exact (Below.refl _ _).alloc (Nat.le_refl _) _
        have hsq : Wq.heap.size = wr.heap.size + 1 := by rw [hWq]; simp
        have HPQ : Hid (PS N R n w1 Wq (.slice yo (many + 1 + k) yc) (m ++ [zerosL n] ++ (List.range k).map (spk n))) := HP.out.step hbq
        have HXK : Hid (Sl 0 3 Wq (.slice (some ⟨wr.heap.size, 0, none⟩) n n) (ints (spk n k))) := by
          have hrow : Wq.rowIs wr.heap.size 3 n (fun j => if j = k then .int .i64 (1 + ((k % 2 : Nat) : Int)) else .int .i64 0) := by
            have e : (wr.alloc (.cells (madeCells #[.int .i64 0] n) 3)).setCell ⟨wr.heap.size, k, none⟩ (.int .i64 (1 + ((k % 2 : Nat) : Int))) = Wq := by rw [hWq]; simp [go_sem]
            rw [← e]
            exact (World.rowIs_made wr (.int .i64 0) n 3).set k _
          refine Sl.row hrow (by simp [spk]) (by unfold maxLen; omega) (fun i hi => ?_)
          rw [ints_get _ _ (by simpa [spk] using hi)]
          by_cases e : i = k
          · subst e; simp [spk, hi]
          · simp [spk, hi, e]
        have hmc : (madeCells #[.int .i64 0] n)[k]? = some (.int .i64 0) := by
          rw [← Array.getElem?_toList, toList_madeCells_one]; simp [hkn]
        have hkm : (k : Int).tmod 2 = ((k % 2 : Nat) : Int) := by rw [Int.tmod_eq_emod_of_nonneg (by omega)]; rfl
        have hkI : (k : Int) < (n : Int) := by omega
        have hkI0 : (0 : Int) ≤ (k : Int) := by omega
        have hk2 : k % 2 < 2 := Nat.mod_lt _ (by decide)
        generalize hq2 : k % 2 = q2 at *
        have d1 : wr.cell? ⟨R, 1, none⟩ = some (.slice yo (many + 1 + k) yc) := by simp [World.cell?, HP.out.pol]
        have d2 : Wq.cell? ⟨R, 1, none⟩ = some (.slice yo (many + 1 + k) yc) := by simp [World.cell?, HPQ.out.pol]
        obtain ⟨vs2, g1, g2, g3⟩ := HPQ.out.rows
        have hln := HLN.out
        have G2 : Hid (Wq.ownsRow N 22 1 (.slice yo (many + 1 + k) yc) (many + 1 + k) vs2) := by rw [← hln]; rw [← hln] at g2; exact g2
        have HSN : Hid (m ++ [zerosL n] ++ (List.range (k + 1)).map (spk n) = m ++ [zerosL n] ++ (List.range k).map (spk n) ++ [spk n k]) := by
          show _ = _
          rw [List.range_succ, List.map_append]; simp
        have HPU2 : Hid (∀ v' w6, w6.ownsRow N 22 1 v' (many + 1 + k + 1) (vs2 ++ [.slice (some ⟨wr.heap.size, 0, none⟩) n n]) → (Wq.alloc (.cells #[.slice (some ⟨wr.heap.size, 0, none⟩) n n] 22)).grownBy w6 (Value.slice yo (many + 1 + k) yc).ownBlock →
            w6.cell? ⟨R, 1, none⟩ = some (.slice yo (many + 1 + k) yc) ∧ w6.frozen? ⟨R, 1, none⟩ = false ∧ PS N R n w1 (w6.setCell ⟨R, 1, none⟩ v') v' (m ++ [zerosL n] ++ (List.range (k + 1)).map (spk n))) := fun v' w6 ho hg => by
          have hp := HPQ.out.push HXK.out g1 g2 g3 (by rw [hln]; exact ho) hg
          rw [HSN.out]
          exact ⟨by simp [World.cell?, hp.1], by simp [World.frozen?, hp.1], hp.2⟩
        have HNEW2 : Hid (∀ j u, [Value.slice (some ⟨wr.heap.size, 0, none⟩) n n][j]? = some u → (Wq.alloc (.cells #[.slice (some ⟨wr.heap.size, 0, none⟩) n n] 22)).cell? ((⟨wr.heap.size + 1, 0, none⟩ : Addr).add j) = some u) := by
          rw [← hsq]; exact one_new _ _ _
        have HNS2 : Hid (N ≤ (Wq.alloc (.cells #[.slice (some ⟨wr.heap.size, 0, none⟩) n n] 22)).heap.size) := by
          show _ ≤ _
          have h1 := HPQ.out.bel.size
          have h2 := HNE.out
          simp; omega
        clear g1 g2 g3 hln hbq hsq HXK
        subst hWq
        go_wp2_with (first | (at_builtin; refine wpList_append_own _ rfl _ _ 24 rfl N 22 i0 (.slice none 0 0) 1 24 Tryz.underlying24 hi hz0 hz1 hz2 rfl (by decide) _ _ _ rfl (G2.out.alloc _) ⟨wr.heap.size + 1, 0, none⟩ 1 1 [.slice (some ⟨wr.heap.size, 0, none⟩) n n] rfl rfl HNEW2.out (one_slice _ _ _) ?d3 ?d4 ?d5 ?_))
        case d3 => unfold maxLen; omega
        case d4 => omega
        case d5 => exact HNS2.out
        intro v' w6 ho hg _
        obtain ⟨vo2, vc2, hv2⟩ := owns_form ho
        subst hv2
        have FF := HPU2.out _ w6 ho hg
        have LS1 := FF.1
        have LS2 := FF.2.1
        have HNX : Hid (PS N R n w1 (w6.setCell ⟨R, 1, none⟩ (.slice vo2 (many + 1 + k + 1) vc2)) (.slice vo2 (many + 1 + k + 1) vc2) (m ++ [zerosL n] ++ (List.range (k + 1)).map (spk n))) := FF.2.2
        clear ho hg FF
        go_wp2
        go_roundw
        case rel => exact ⟨k + 1, by omega, by go_num, _, HNX.out⟩
        case measure => simp [intOf]; omega
      · have hke : k = n := by omega
        subst hke
        have hpol := HP.out.pol
        have c0 : wr.cell? ⟨R, 0, none⟩ = some (.int .i64 k) := by simp [World.cell?, hpol]
        have c1 : wr.cell? ⟨R, 1, none⟩ = some (.slice yo (many + 1 + k) yc) := by simp [World.cell?, hpol]
        have hres : wr.heap[w.heap.size]? = some (.cells #[.int .i64 0, .slice none 0 0] 26 (0, 0)) := (HP.out.bel.block _ (by rw [HNE.out, HS1.out]; omega)).trans HK1.out
        have k0 : wr.cell? ⟨w.heap.size, 0, none⟩ = some (.int .i64 0) := by simp [World.cell?, hres]
        have k1 : wr.cell? ⟨w.heap.size, 1, none⟩ = some (.slice none 0 0) := by simp [World.cell?, hres]
        have f0 : wr.frozen? ⟨w.heap.size, 0, none⟩ = false := by simp [World.frozen?, hres]
        have f1 : wr.frozen? ⟨w.heap.size, 1, none⟩ = false := by simp [World.frozen?, hres]
        have HFIN : Hid (∀ a b : Value, Mat ((wr.setCell ⟨w.heap.size, 0, none⟩ a).setCell ⟨w.heap.size, 1, none⟩ b).heap.size 22 3 ((wr.setCell ⟨w.heap.size, 0, none⟩ a).setCell ⟨w.heap.size, 1, none⟩ b) (.slice yo (many + 1 + k) yc) (polyL k m) ∧ Below w.heap.size w ((wr.setCell ⟨w.heap.size, 0, none⟩ a).setCell ⟨w.heap.size, 1, none⟩ b)) := fun a b => by
          have e1 : ((wr.setCell ⟨w.heap.size, 0, none⟩ a).setCell ⟨w.heap.size, 1, none⟩ b).heap.size = wr.heap.size := by simp [World.setCell]
          have g0 : (wr.setCell ⟨w.heap.size, 0, none⟩ a).heap[w.heap.size]? = some (.cells #[a, .slice none 0 0] 26 (0, 0)) := by simp [World.setCell, Array.getElem?_modify, hres]
          have kk : ∀ e, e ≠ 26 → ∀ cur, wr.heap[w.heap.size]? ≠ some (.cells cur e (0, 0)) := by
            intro e he cur; rw [hres]; simp; intro _ h; exact absurd h.symm he
          have kk2 : ∀ e, e ≠ 26 → ∀ cur, (wr.setCell ⟨w.heap.size, 0, none⟩ a).heap[w.heap.size]? ≠ some (.cells cur e (0, 0)) := by
            intro e he cur; rw [g0]; simp; intro _ h; exact absurd h.symm he
          obtain ⟨us, u1, u2, u3⟩ := HP.out.rows
          have hN : w.heap.size < N := by rw [HNE.out, HS1.out]; omega
          refine ⟨⟨us, u1, ?_, fun i hi => ?_⟩, ?_⟩
          · exact Sl.any (B := 0) (((Sl.own (B := 0) u2).setCell _ ⟨Nat.zero_le _, kk 22 (by decide)⟩).setCell _ ⟨Nat.zero_le _, kk2 22 (by decide)⟩) (Nat.le_refl _)
          · exact Sl.any (B := 0) (((u3 i hi).setCell _ ⟨Nat.zero_le _, kk 3 (by decide)⟩).setCell _ ⟨Nat.zero_le _, kk2 3 (by decide)⟩) (Nat.le_refl _)
          · have hb : Below w.heap.size w wr := HB1.out.trans (HP.out.bel.mono (by omega))
            exact (hb.setCell (Nat.le_refl _) _).setCell (Nat.le_refl _) _
        go_wp2
        refine bodyPost_ret (v := .agg #[.int .i64 k, .slice yo (many + 1 + k) yc]) (by simp [results, Tryz.results5, go_sem, *]) rfl ?_
        exact ⟨_, m, rfl, HML.out, HBX.out, (HFIN.out _ _).1, (HFIN.out _ _).2⟩

end Go.Proofs.YtpbahagfhkpfhaaGreat

/- Rows of choices: what they are, and that there is one for every side. -/

namespace Go.Proofs.YtpbahagfhkpfhaaGreat
open Lin

theorem dotL_eq {d : Nat} {a : List Int} (h : a.length = d) (x : List Int) : dotL a x = dot d (V a) (V x) := by subst h; rfl

theorem dot_sub (d : Nat) (c x y : Nat → Int) : dot d c (fun j => x j - y j) = dot d c x - dot d c y := by
  unfold dot
  have : sumN d (fun i => c i * (x i - y i)) = sumN d (fun i => c i * x i + (-1) * (c i * y i)) := sumN_congr fun i _ => by grind
  rw [this, sumN_add, sumN_mul]; omega

theorem dot_subL {d : Nat} (c : Nat → Int) {r b : List Int} (h : r.length = d) : dot d c (V (subL r b)) = dot d c (V r) - dot d c (V b) := by
  rw [← dot_sub]
  exact dot_congr (fun _ _ => rfl) (fun i hi => by simp only [V]; rw [subL_at (by omega)])

theorem V_take {r : List Int} {d i : Nat} (hi : i < d) : V (r.take d) i = V r i := by
  simp only [V, List.getD_eq_getElem?_getD]; rw [List.getElem?_take_of_lt hi]

/-! Choices. -/

theorem chs_sub : ∀ (k : Nat) (l t : List (List Int)), t ∈ chs k l → t.Sublist l ∧ t.length = k
  | 0, l, t, h => by simp [chs] at h; subst h; exact ⟨List.nil_sublist _, rfl⟩
  | k + 1, [], t, h => by simp [chs] at h
  | k + 1, x :: xs, t, h => by
    simp only [chs, List.mem_append, List.mem_map] at h
    rcases h with ⟨c, hc, rfl⟩ | h
    · obtain ⟨h1, h2⟩ := chs_sub k xs c hc
      exact ⟨h1.cons_cons _, by simp [h2]⟩
    · obtain ⟨h1, h2⟩ := chs_sub (k + 1) xs t h
      exact ⟨h1.cons _, h2⟩

theorem sub_chs {l t : List (List Int)} (h : t.Sublist l) : t ∈ chs t.length l := by
  induction h with
  | slnil => simp [chs]
  | cons a _ ih =>
    rename_i l1 l2 hs
    cases l1 with
    | nil => simp [chs]
    | cons b l1 =>
      simp only [List.length_cons, chs, List.mem_append]
      exact Or.inr ih
  | cons_cons a _ ih =>
    simp only [List.length_cons, chs, List.mem_append, List.mem_map]
    exact Or.inl ⟨_, ih, rfl⟩

theorem mem_rowsC {P : List (List Int)} {d : Nat} {r : List Int} : r ∈ rowsC P [] d P ↔ ∃ t, t.Sublist P ∧ t.length = d ∧ rowT t P = some r := by
  unfold rowsC
  simp only [List.mem_flatMap, List.nil_append, Option.mem_toList]
  constructor
  · rintro ⟨t, ht, hr⟩
    obtain ⟨h1, h2⟩ := chs_sub _ _ _ ht
    exact ⟨t, h1, h2, hr⟩
  · rintro ⟨t, h1, h2, hr⟩
    refine ⟨t, ?_, hr⟩
    rw [← h2]; exact sub_chs h1

/-! What the row of a choice is. -/

/-- The row: all points hold it, it fits. -/
structure RowOf (d : Nat) (P : List (List Int)) (r : List Int) : Prop where
  len : r.length = d + 1
  bd : ∀ z ∈ r.take d, z.natAbs ≤ 1000000000000
  all : ∀ x ∈ P, dot d (V r) (V x) ≤ r.getD d 0

theorem row_app {a : List Int} {b : Int} {d : Nat} (h : a.length = d) : (a ++ [b]).length = d + 1 ∧ (a ++ [b]).take d = a ∧ (a ++ [b]).getD d 0 = b ∧ ∀ i, i < d → V (a ++ [b]) i = V a i := by
  subst h
  refine ⟨by simp, by simp, by simp, fun i hi => ?_⟩
  simp only [V, List.getD_eq_getElem?_getD]; rw [List.getElem?_append_left hi]

theorem rowT_facts {d : Nat} {P t : List (List Int)} {r : List Int} (hP : Box d 30 P) (h1 : 1 ≤ d) (h5 : d ≤ 5) (ht : t.length = d) (hm : ∀ x ∈ t, x ∈ P) (hr : rowT t P = some r) : RowOf d P r := by
  have hx : Mx d 60 (diffL t) := diff_mx (fun x hx => hP x (hm x hx)) h1 h5
  unfold rowT at hr
  rw [ht] at hr
  split at hr
  · rename_i hnb
    have hl := norm_len hnb
    have hbd := norm_bd hx
    generalize normL d (diffL t) = a at *
    generalize dotL a (t.getD 0 []) = b at *
    obtain ⟨e1, e2, e3, e4⟩ := row_app (b := b) hl
    split at hr
    · rename_i hup
      simp only [Option.some.injEq] at hr
      subst hr
      refine ⟨e1, by rw [e2]; exact hbd, fun x hx => ?_⟩
      rw [e3, dot_congr e4 (fun _ _ => rfl), ← dotL_eq hl]
      have := List.any_eq_false.1 hup x hx
      simpa using this
    · split at hr
      · rename_i _ hdn
        simp only [Option.some.injEq] at hr
        subst hr
        refine ⟨by simpa using e1, ?_, fun x hx => ?_⟩
        · rw [← List.map_take, e2]
          intro z hz
          simp only [List.mem_map] at hz
          obtain ⟨y, hy, rfl⟩ := hz
          rw [Int.natAbs_neg]; exact hbd y hy
        · have e5 : ((a ++ [b]).map fun z => -z).getD d 0 = -b := by
            have := V_neg (a ++ [b]) d
            simp only [V] at this
            rw [this, e3]
          rw [e5, dot_congr (b := fun i => - V a i) (fun i hi => by rw [V_neg, e4 i hi]) (fun _ _ => rfl), dot_neg, ← dotL_eq hl]
          have := List.any_eq_false.1 hdn x hx
          simp at this
          omega
      · simp at hr
  · simp at hr

theorem rowsC_fit {d : Nat} {P P' : List (List Int)} (hP : Box d 30 P) (h1 : 1 ≤ d) (h5 : d ≤ 5) (hm : ∀ r, r ∈ P' ↔ r ∈ P) {r : List Int} (hr : r ∈ rowsC P' [] d P') : RowOf d P r := by
  obtain ⟨t, ht, hl, he⟩ := mem_rowsC.1 hr
  have hP' : Box d 30 P' := fun x hx => hP x ((hm x).1 hx)
  have h := rowT_facts hP' h1 h5 hl (fun x hx => ht.subset hx) he
  exact ⟨h.len, h.bd, fun x hx => h.all x ((hm x).2 hx)⟩

end Go.Proofs.YtpbahagfhkpfhaaGreat

/- There is a row for every side; so what lies beyond none of them is between the points. -/
namespace Go.Proofs.YtpbahagfhkpfhaaGreat
open Lin

theorem pickL_sub (c : Nat) (m : List (List Int)) : (pickL c m).Sublist m := by
  have : ∀ (m h : List (List Int)), ∃ s, s.Sublist m ∧ m.foldl (fun h r => if freeL c (h ++ [r]) then h ++ [r] else h) h = h ++ s := by
    intro m
    induction m with
    | nil => intro h; exact ⟨[], List.Sublist.refl _, by simp⟩
    | cons x m ih =>
      intro h
      rw [List.foldl_cons]
      by_cases hf : freeL c (h ++ [x]) = true
      · rw [if_pos hf]
        obtain ⟨s, hs, he⟩ := ih (h ++ [x])
        exact ⟨x :: s, hs.cons_cons _, by rw [he]; simp⟩
      · rw [if_neg hf]
        obtain ⟨s, hs, he⟩ := ih h
        exact ⟨s, hs.cons _, he⟩
  obtain ⟨s, hs, he⟩ := this m []
  unfold pickL
  rw [he]; simpa using hs

/-- For every direction of a side there is a row. -/
theorem side_some {d : Nat} {P : List (List Int)} (hP : Box d 30 P) (hspan : ∀ c : Nat → Int, (∀ y ∈ P, ∀ z ∈ P, dot d c (V y) = dot d c (V z)) → ∀ i, i < d → c i = 0) {x : List Int} (hx : x ∈ P) {c : Nat → Int} (hc : ∃ i, i < d ∧ c i ≠ 0)
    (hmax : ∀ y ∈ P, dot d c (V y) ≤ dot d c (V x)) (hone : ∀ u : Nat → Int, (∀ y ∈ P, dot d c (V y) = dot d c (V x) → dot d u (V y) = dot d u (V x)) → Par d u c) :
    ∃ r, r ∈ rowsC P [] d P ∧ r.getD d 0 = dot d (V r) (V x) ∧ ∃ s t : Int, 0 < s ∧ 0 < t ∧ ∀ i, i < d → s * c i = t * V r i := by
  -- the points of the side
  obtain ⟨T, hT⟩ : ∃ T, T = P.filter fun y => decide (dot d c (V y) = dot d c (V x)) := ⟨_, rfl⟩
  have hTs : T.Sublist P := by rw [hT]; exact List.filter_sublist
  have hTm : ∀ y, y ∈ T ↔ y ∈ P ∧ dot d c (V y) = dot d c (V x) := fun y => by rw [hT]; simp
  have hxT : x ∈ T := (hTm x).2 ⟨hx, rfl⟩
  cases T with
  | nil => simp at hxT
  | cons t0 T' =>
    have h0 := (hTm t0).1 (by simp)
    have hlen : ∀ y ∈ P, y.length = d := fun y hy => (hP y hy).1
    have hD : diffL (t0 :: T') = T'.map fun y => subL y t0 := by simp [diffL]
    obtain ⟨D, hDe⟩ : ∃ D, D = T'.map fun y => subL y t0 := ⟨_, rfl⟩
    have hsub : ∀ (u : Nat → Int) (y : List Int), y ∈ T' → dot d u (V (subL y t0)) = dot d u (V y) - dot d u (V t0) := fun u y hy =>
      dot_subL u (hlen y ((hTm y).1 (by simp [hy])).1)
    -- what is 0 with all of D is c, so many times
    have hDc : ∀ r ∈ fm D, dot d r c = 0 := fun r hr => by
      obtain ⟨l, hl, rfl⟩ := mem_fm.1 hr
      rw [hDe, List.mem_map] at hl
      obtain ⟨y, hy, rfl⟩ := hl
      rw [dot_comm, hsub c y hy, ((hTm y).1 (by simp [hy])).2, h0.2]; omega
    have hDo : ∀ u : Nat → Int, (∀ r ∈ fm D, dot d r u = 0) → Par d u c := fun u hu => by
      have h1 : ∀ y ∈ t0 :: T', dot d u (V y) = dot d u (V t0) := fun y hy => by
        rcases List.mem_cons.1 hy with rfl | hy
        · rfl
        · have := hu (V (subL y t0)) (mem_fm.2 ⟨_, by rw [hDe]; exact List.mem_map.2 ⟨y, hy, rfl⟩, rfl⟩)
          rw [dot_comm, hsub u y hy] at this
          omega
      exact hone u fun y hy he => by rw [h1 y ((hTm y).2 ⟨hy, he⟩), h1 x hxT]
    have hgr := pick_greedy d D
    have hcnt := greedy_count hgr hc hDc hDo
    rw [fm_length] at hcnt
    -- the choice
    have hps := pickL_sub d D
    rw [hDe] at hps
    obtain ⟨S, hS, hSe⟩ := List.sublist_map_iff.1 hps
    rw [← hDe] at hSe
    obtain ⟨t, ht⟩ : ∃ t, t = t0 :: S := ⟨_, rfl⟩
    have htT : t.Sublist (t0 :: T') := by rw [ht]; exact hS.cons_cons _
    have htP := htT.trans hTs
    have htl : t.length = d := by
      have := congrArg List.length hSe
      rw [List.length_map] at this
      rw [ht, List.length_cons]; omega
    have hdt : diffL t = pickL d D := by rw [hSe, ht]; simp [diffL]
    have hpo : ∀ u : Nat → Int, (∀ r ∈ fm (diffL t), dot d r u = 0) → Par d u c := fun u hu => hDo u fun r hr =>
      dot_dep (hgr.dep r hr) (fun i hi => hu _ (by rw [hdt]; exact row_mem hi))
    have hpc : ∀ r ∈ fm (diffL t), dot d r c = 0 := fun r hr => hDc r (hgr.mem r (by rw [← hdt]; exact hr))
    have hg2 := pick_greedy d (diffL t)
    have hcnt2 := greedy_count hg2 hc hpc hpo
    have hcnt3 : (pickL d (diffL t)).length + 1 = d := by rw [fm_length] at hcnt2; exact hcnt2
    have hnb : normB d (diffL t) = true := decide_eq_true hcnt3
    obtain ⟨⟨p0, hp0, hne0⟩, hmo, _⟩ := greedy_one hg2 hcnt2
    obtain ⟨k, hk, hka⟩ := norm_par hcnt3
    have hla := norm_len hnb
    obtain ⟨a, ha⟩ : ∃ a, a = normL d (diffL t) := ⟨_, rfl⟩
    rw [← ha] at hka hla
    -- the normal is c, so many times
    have hpar : Par d (mu (fm (pickL d (diffL t)))) c := hpo _ hmo
    have hap : V a p0 ≠ 0 := by
      intro h
      rw [hka p0 hp0, h] at hne0
      simp at hne0
    have hac : ∀ i, i < d → V a p0 * c i = c p0 * V a i := fun i hi => by
      have h1 := hpar p0 i hp0 hi
      rw [hka p0 hp0, hka i hi] at h1
      have h2 : k * (V a p0 * c i) = k * (c p0 * V a i) := by grind
      exact Int.eq_of_mul_eq_mul_left hk h2
    have hcp : c p0 ≠ 0 := by
      intro h
      obtain ⟨i, hi, hci⟩ := hc
      have h1 := hac i hi
      rw [h, Int.zero_mul] at h1
      rcases Int.mul_eq_zero.1 h1 with h2 | h2
      · exact hap h2
      · exact hci h2
    have hdot : ∀ v : Nat → Int, V a p0 * dot d c v = c p0 * dot d (V a) v := fun v => by
      unfold dot
      rw [← sumN_mul, ← sumN_mul]
      exact sumN_congr fun i hi => by
        have := hac i hi
        rw [← Int.mul_assoc, this, Int.mul_assoc]
    have hal : ∀ y, dotL a y = dot d (V a) (V y) := fun y => dotL_eq hla y
    have hb0 : dot d (V a) (V t0) = dot d (V a) (V x) := by
      have h1 := hdot (V t0)
      have h2 := hdot (V x)
      rw [h0.2, h2] at h1
      exact (Int.eq_of_mul_eq_mul_left hcp h1).symm
    have ht0 : t.getD 0 [] = t0 := by rw [ht]; rfl
    obtain ⟨b, hb⟩ : ∃ b, b = dotL a t0 := ⟨_, rfl⟩
    have hbx : b = dot d (V a) (V x) := by rw [hb, hal, hb0]
    have hrt : rowT t P = if (P.any fun y => decide (b < dotL a y)) = false then some (a ++ [b]) else if (P.any fun y => decide (dotL a y < b)) = false then some ((a ++ [b]).map fun z => -z) else none := by
      unfold rowT
      rw [htl, if_pos hnb, ← ha, ht0, ← hb]
    obtain ⟨e1, e2, e3, e4⟩ := row_app (b := b) hla
    have hsq : 0 < V a p0 * V a p0 := by
      rcases Int.lt_or_gt_of_ne hap with h | h
      · exact Int.mul_pos_of_neg_of_neg h h
      · exact Int.mul_pos h h
    rcases Int.lt_or_gt_of_ne (Int.mul_ne_zero hap hcp) with hs | hs
    · -- the other way
      have hge : ∀ y ∈ P, b ≤ dotL a y := fun y hy => by
        rw [hal, hbx]
        have h1 := hmax y hy
        have h2 := hdot (V y)
        have h3 := hdot (V x)
        have h4 : V a p0 * c p0 * (dot d (V a) (V y) - dot d (V a) (V x)) = V a p0 * V a p0 * (dot d c (V y) - dot d c (V x)) := by grind
        have h5 : V a p0 * V a p0 * (dot d c (V y) - dot d c (V x)) ≤ 0 := Int.mul_nonpos_of_nonneg_of_nonpos (Int.le_of_lt hsq) (by omega)
        rcases Int.lt_or_le (dot d (V a) (V y) - dot d (V a) (V x)) 0 with h6 | h6
        · have := Int.mul_pos_of_neg_of_neg hs h6; omega
        · omega
      have hdn : (P.any fun y => decide (dotL a y < b)) = false := by
        rw [List.any_eq_false]; intro y hy; have := hge y hy; simp; omega
      have hup : ¬ (P.any fun y => decide (b < dotL a y)) = false := by
        intro h
        have hall : ∀ y ∈ P, dot d (V a) (V y) = b := fun y hy => by
          have h1 := List.any_eq_false.1 h y hy
          have h2 := hge y hy
          simp at h1
          rw [← hal]; omega
        exact hap (hspan (V a) (fun y hy z hz => by rw [hall y hy, hall z hz]) p0 hp0)
      rw [if_neg hup, if_pos hdn] at hrt
      have e5 : ((a ++ [b]).map fun z => -z).getD d 0 = -b := by
        have := V_neg (a ++ [b]) d
        simp only [V] at this
        rw [this, e3]
      refine ⟨_, mem_rowsC.2 ⟨t, htP, htl, hrt⟩, ?_, V a p0 * V a p0, -(V a p0 * c p0), hsq, by omega, fun i hi => ?_⟩
      · rw [e5, dot_congr (b := fun i => - V a i) (fun i hi => by rw [V_neg, e4 i hi]) (fun _ _ => rfl), dot_neg, hbx]
      · rw [V_neg, e4 i hi]
        have := hac i hi
        grind
    · -- this way
      have hle : ∀ y ∈ P, dotL a y ≤ b := fun y hy => by
        rw [hal, hbx]
        have h1 := hmax y hy
        have h2 := hdot (V y)
        have h3 := hdot (V x)
        have h4 : V a p0 * c p0 * (dot d (V a) (V y) - dot d (V a) (V x)) = V a p0 * V a p0 * (dot d c (V y) - dot d c (V x)) := by grind
        have h5 : V a p0 * V a p0 * (dot d c (V y) - dot d c (V x)) ≤ 0 := Int.mul_nonpos_of_nonneg_of_nonpos (Int.le_of_lt hsq) (by omega)
        rcases Int.lt_or_le 0 (dot d (V a) (V y) - dot d (V a) (V x)) with h6 | h6
        · have := Int.mul_pos hs h6; omega
        · omega
      have hup : (P.any fun y => decide (b < dotL a y)) = false := by
        rw [List.any_eq_false]; intro y hy; have := hle y hy; simp; omega
      rw [if_pos hup] at hrt
      refine ⟨_, mem_rowsC.2 ⟨t, htP, htl, hrt⟩, ?_, V a p0 * V a p0, V a p0 * c p0, hsq, hs, fun i hi => ?_⟩
      · rw [e3, dot_congr e4 (fun _ _ => rfl), hbx]
      · rw [e4 i hi]
        have := hac i hi
        grind

/-- What does not lie flat: only 0 is one and the same with all points. -/
theorem good_span {d : Nat} {P : List (List Int)} (hg : Good d P) : ∀ c : Nat → Int, (∀ y ∈ P, ∀ z ∈ P, dot d c (V y) = dot d c (V z)) → ∀ i, i < d → c i = 0 := by
  intro c hc
  have hgr := pick_greedy d (diffL P)
  refine (greedy_full hgr).1 (by rw [fm_length]; exact hg.full) c fun r hr => ?_
  obtain ⟨l, hl, rfl⟩ := mem_fm.1 hr
  simp only [diffL, List.mem_map] at hl
  obtain ⟨y, hy, rfl⟩ := hl
  have hyP := List.mem_of_mem_drop hy
  have h0 : P.getD 0 [] ∈ P := by simp [show 0 < P.length by have := hg.n2; omega]
  rw [dot_comm, dot_subL c (hg.box y hyP).1, hc y hyP _ h0]; omega

/-- What lies beyond no row is not greater than all points, in any direction. -/
theorem rows_tell {d : Nat} {P P' : List (List Int)} (hg : Good d P) (hm : ∀ r, r ∈ P' ↔ r ∈ P) {q : List Int} (hq : ∀ r ∈ rowsC P' [] d P', dot d (V r) (V q) ≤ r.getD d 0) {x : List Int} (hx : x ∈ P) {c : Nat → Int} (hmax : ∀ y ∈ P, dot d c (V y) ≤ dot d c (V x)) :
    dot d c (V q) ≤ dot d c (V x) := by
  have hspan := good_span hg
  have hP' : Box d 30 P' := fun r hr => hg.box r ((hm r).1 hr)
  have hsub : ∀ (c : Nat → Int) (y : List Int), dot d c (fun j => V y j - V x j) = dot d c (V y) - dot d c (V x) := fun c y => dot_sub d c (V y) (V x)
  have h := cone (d := d) (Z := P.map fun y j => V y j - V x j) (v := fun j => V q j - V x j) (fun c hc i hi => by
      refine hspan c (fun y hy z hz => ?_) i hi
      have h1 := hc _ (List.mem_map.2 ⟨y, hy, rfl⟩)
      have h2 := hc _ (List.mem_map.2 ⟨z, hz, rfl⟩)
      rw [hsub] at h1 h2
      omega) (fun c hcn hle hone => by
      obtain ⟨r, hr, hrx, s, t, hs, ht, hst⟩ := side_some (P := P') (x := x) hP' (fun c hc => hspan c fun y hy z hz => hc y ((hm y).2 hy) z ((hm z).2 hz)) ((hm x).2 hx) hcn (fun y hy => by
          have := hle _ (List.mem_map.2 ⟨y, (hm y).1 hy, rfl⟩)
          rw [hsub] at this
          omega) (fun u hu => hone u fun z hz h0 => by
          obtain ⟨y, hy, rfl⟩ := List.mem_map.1 hz
          rw [hsub] at h0 ⊢
          have := hu y ((hm y).2 hy) (by omega)
          omega)
      have h1 := hq r hr
      rw [hsub]
      have h2 : s * (dot d c (V q) - dot d c (V x)) = t * (dot d (V r) (V q) - dot d (V r) (V x)) := by
        rw [← dot_sub, ← dot_sub]
        unfold dot
        rw [← sumN_mul, ← sumN_mul]
        exact sumN_congr fun i hi => by rw [← Int.mul_assoc, hst i hi, Int.mul_assoc]
      have h3 : t * (dot d (V r) (V q) - dot d (V r) (V x)) ≤ 0 := Int.mul_nonpos_of_nonneg_of_nonpos (Int.le_of_lt ht) (by omega)
      rcases Int.lt_or_le 0 (dot d c (V q) - dot d c (V x)) with h4 | h4
      · have := Int.mul_pos hs h4; omega
      · exact h4) _ c (Nat.le_refl _) (fun z hz => by
      obtain ⟨y, hy, rfl⟩ := List.mem_map.1 hz
      rw [hsub]
      have := hmax y hy
      omega)
  rw [hsub] at h
  omega

end Go.Proofs.YtpbahagfhkpfhaaGreat
