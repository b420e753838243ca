/- The document's answer to Cyclic. -/
import Derived.Test.YtfbgcfbafnmahaaCycA
namespace Go.Proofs.Ytfbgcfbafnmahaa
open Go.RowKit

set_option maxHeartbeats 400000 in
theorem cyclicOf_dim (d n : Int) (w : World) (h : d < 1 ∨ 4 < d) :
    Calls Try.prog 34 #[.int .i64 d, .int .i64 n] w fun e w' => e = .returned (.tuple #[.agg #[.int .i64 0, .slice none 0 0], .int .i64 1]) ∧ Below w.heap.size w w' := by
  rcases h with h | h
  · go_enter Try.func34, Try.ntmps34
    go_wp2
    exact bodyPost_ret (v := .tuple #[.agg #[.int .i64 0, .slice none 0 0], .int .i64 1]) (by simp [results, Try.results34, go_sem]) rfl ⟨rfl, (Below.refl _ _).alloc (Nat.le_refl _) _⟩
  · have h' : ¬ d < 1 := by omega
    go_enter Try.func34, Try.ntmps34
    go_wp2
    exact bodyPost_ret (v := .tuple #[.agg #[.int .i64 0, .slice none 0 0], .int .i64 1]) (by simp [results, Try.results34, go_sem]) rfl ⟨rfl, (Below.refl _ _).alloc (Nat.le_refl _) _⟩

set_option maxHeartbeats 400000 in
theorem cyclicOf_count (d n : Int) (w : World) (h1 : 1 ≤ d) (h4 : d ≤ 4) (h : n ≤ d ∨ 24 < n) :
    Calls Try.prog 34 #[.int .i64 d, .int .i64 n] w fun e w' => e = .returned (.tuple #[.agg #[.int .i64 0, .slice none 0 0], .int .i64 2]) ∧ Below w.heap.size w w' := by
  rcases h with h | h
  · go_enter Try.func34, Try.ntmps34
    go_wp2
    exact bodyPost_ret (v := .tuple #[.agg #[.int .i64 0, .slice none 0 0], .int .i64 2]) (by simp [results, Try.results34, go_sem]) rfl ⟨rfl, (Below.refl _ _).alloc (Nat.le_refl _) _⟩
  · have h' : ¬ n ≤ d := by omega
    go_enter Try.func34, Try.ntmps34
    go_wp2
    exact bodyPost_ret (v := .tuple #[.agg #[.int .i64 0, .slice none 0 0], .int .i64 2]) (by simp [results, Try.results34, go_sem]) rfl ⟨rfl, (Below.refl _ _).alloc (Nat.le_refl _) _⟩

theorem ints_snoc (l : List Int) (z : Int) : ints l ++ [.int .i64 z] = ints (l ++ [z]) := by simp [ints]

/-- A number more on a row of the call's own. -/
theorem owns_push {M N : Nat} {w0 w w1 : World} {v v' : Value} {l : List Int} {z : Int} {o : Obj} (hN : M ≤ w.heap.size) (h : w.ownsRow M 3 1 v l.length (ints l)) (hb : Below M w0 w)
    (ho : w1.ownsRow M 3 1 v' (l.length + 1) (ints l ++ [.int .i64 z])) (hg : (w.alloc o).grownBy w1 v.ownBlock) (hNN : N = l.length + 1) :
    w1.ownsRow M 3 1 v' N (ints (l ++ [z])) ∧ Below M w0 w1 := by
  subst hNN
  refine ⟨by rw [ints_snoc] at ho; exact ho, ?_⟩
  refine (hb.alloc hN o).grown hg (by simp; omega) (fun k hk => ?_)
  exact (h.lt k hk).1

set_option maxRecDepth 100000 in
set_option maxHeartbeats 2000000 in
theorem cyclicOf_main (d n : Nat) (w : World) (h1 : 1 ≤ d) (h4 : d ≤ 4) (hn : d < n) (hn2 : n ≤ 24) :
    Calls Try.prog 34 #[.int .i64 d, .int .i64 n] w fun e w' =>
      (∃ v, e = .returned (.tuple #[.agg #[.int .i64 (cD n d), v], .int .i64 (cE n d)]) ∧ Mat w.heap.size 28 3 w' v (cP n d)) ∧ Below w.heap.size w w' := by
  obtain ⟨i0, hi, hz0, hz1, hz2⟩ := info_parts Try.info28
  obtain ⟨i3, hi3, hz30, hz31, hz32⟩ := info_parts Try.info3
  have t1 : decide ((d : Int) < 1) = false := by simp; omega
  have t2 : decide ((4 : Int) < d) = false := by simp; omega
  have t3 : decide (n ≤ d) = false := by simp; omega
  have t4 : decide ((24 : Int) < n) = false := by simp; omega
  go_enter Try.func34, Try.ntmps34
  go_wp2
  go_loopw [7] (fun i wr => ∃ k : Nat, k ≤ n ∧ i = .int .i64 ((k : Int) - (n : Int) / 2) ∧ cfar n d k = false ∧ ∃ v, Poly w.heap.size d w wr v (cpts n d k)) (fun i _ => ((n : Int) - (n : Int) / 2 - intOf i).toNat)
  case atStart =>
    refine ⟨0, Nat.zero_le _, by go_num, rfl, .slice none 0 0, ?_, ?_, Rws.nil _ _ _ _, ?_⟩
    · rw [Below.heap_alloc _ _ _ (by simp), heap_alloc_new]
    · have := heap_alloc_new (w.alloc (.cells #[.int .i64 0, .slice none 0 0] 42)) (.cells #[.int .i64 d, .slice none 0 0] 42)
      simpa using this
    · exact ((Below.refl _ _).alloc (Nat.le_refl _) _).alloc (by simp) _
  case round =>
    obtain ⟨k, hk, rfl, hno, v, hp⟩ := hrel
    obtain ⟨wa, rfl⟩ : ∃ wa, wa = wr := ⟨wr, rfl⟩
    generalize hte : (k : Int) - (n : Int) / 2 = t
    have HT : Hid ((k : Int) - (n : Int) / 2 = t) := hte
    have ht0 : -12 ≤ t := by omega
    have ht1 : t ≤ 12 := by omega
    have HN : Hid (cfar n d k = false) := hno
    have HP : Hid (Poly w.heap.size d w wa v (cpts n d k)) := hp
    clear hno hp
    by_cases hlt : k < n
    · have tt : t < (n : Int) - (n : Int) / 2 := by omega
      clear hte
      go_wp2
      obtain ⟨M, hM⟩ : ∃ M, M = wa.heap.size := ⟨_, rfl⟩
      have HM : Hid (M = wa.heap.size) := hM
      clear hM
      go_loopw [8, 9, 10] (fun x p i wq => ∃ j : Nat, j ≤ d ∧ i = .int .i64 j ∧ p = .int .i64 (t ^ j) ∧ wq.ownsRow M 3 1 x j (ints (pw t j)) ∧ Below M wa wq) (fun _ _ i _ => d - (intOf i).toNat)
      case atStart =>
        exact ⟨0, Nat.zero_le _, rfl, by simp, World.ownsRow_nil _ _ _ _, Below.refl _ _⟩
      case round =>
        obtain ⟨j, hj, rfl, rfl, hown, hbel⟩ := hrel
        have HO : Hid (wr.ownsRow M 3 1 u8 j (ints (pw t j))) := hown
        have HB : Hid (Below M wa wr) := hbel
        clear hown hbel
        have hb1 := pow_bd t j ht0 ht1 (by omega)
        by_cases hjd : j < d
        · have hb2 := pow_bd t (j + 1) ht0 ht1 (by omega)
          rw [← pow_next] at hb2
          go_wp2_with (first | (at_builtin; refine wpList_append_own _ rfl _ _ 28 rfl M 3 i3 (.int .i64 0) 1 8 Try.underlying28 hi3 hz30 hz31 hz32 rfl (by decide) _ _ _ rfl (HO.out.alloc _) ⟨wr.heap.size, 0, none⟩ 1 1 [.int .i64 (t ^ j * t)] rfl rfl ?c1 ?c2 ?c3 ?c4 ?c5 ?_))
          case c1 =>
            intro j u hj
            match j, hj with
            | 0, hj => simp at hj; subst hj; simp [Addr.add]
          case c2 => intro u hu; simp at hu; subst hu; rfl
          case c3 => unfold maxLen; omega
          case c4 => omega
          case c5 => have := HB.out.size; rw [← HM.out] at this; simp; omega
          intro v' w3 ho hg _
          have R := owns_push (z := t ^ j * t) (N := j + 1) (by have := HB.out.size; rw [← HM.out] at this; omega) (l := pw t j) (by rw [pw_length]; exact HO.out) HB.out (by rw [pw_length]; exact ho) hg (by rw [pw_length])
          have R1 : Hid (w3.ownsRow M 3 1 v' (j + 1) (ints (pw t (j + 1)))) := by have := R.1; rw [pow_next] at this; exact this
          have R2 : Hid (Below M wa w3) := R.2
          clear R ho hg
          go_wp2
          go_roundw
          case rel => exact ⟨j + 1, by omega, by go_num, by rw [pow_next], R1.out, R2.out⟩
          case measure => simp [intOf]; omega
        · have hjd' : j = d := by omega
          subst hjd'
          have HX2 : Hid (Sl w.heap.size 3 wr u8 (ints (pw t j))) := Sl.own HO.out
          have HP2 : Hid (Poly w.heap.size j w wr v (cpts n j k)) := HP.out.step (HM.out ▸ HB.out)
          clear HO HB HP HM hb1
          go_wp2_with fail
          refine (farAny_any w.heap.size _ u8 100 wr HX2.out (by omega) (by omega)).mono ?_
          rintro e w2 ⟨rfl, rfl⟩
          cases hf : (pw t j).any (farB · 100)
          · have HF : Hid ((pw ((k : Int) - (n : Int) / 2) j).any (farB · 100) = false) := by rw [HT.out]; exact hf
            clear hf
            have hp0 : w2.heap[w.heap.size + 1]? = some (.cells #[.int .i64 j, v] 42 (0, 0)) := HP2.out.pol
            have hc1 : w2.cell? ⟨w.heap.size + 1, 1, none⟩ = some v := by simp [World.cell?, hp0]
            clear hp0
            obtain ⟨vs, g1, g2, g3⟩ := HP2.out.rows
            have G1 : Hid (vs.length = (cpts n j k).length) := g1
            have G2 : Hid (w2.ownsRow w.heap.size 28 1 v (cpts n j k).length vs) := g2
            have G3 : Hid (∀ i, i < (cpts n j k).length → Sl w.heap.size 3 w2 (vs.getD i (.slice none 0 0)) (ints ((cpts n j k).getD i []))) := g3
            clear g1 g2 g3
            obtain ⟨xo, xc, hxv, -, -⟩ := sl_open HX2.out
            rw [pw_length] at hxv
            subst hxv
            have hsz : w.heap.size + 1 < w2.heap.size := lt_of_block HP2.out.pol
            go_wp2_with (first | (at_builtin; refine wpList_append_own _ rfl _ _ 22 rfl w.heap.size 28 i0 (.slice none 0 0) 1 24 Try.underlying22 hi hz0 hz1 hz2 rfl (by decide) _ _ _ rfl (G2.out.alloc _) ⟨w2.heap.size, 0, none⟩ 1 1 [.slice xo j xc] rfl rfl ?d1 ?d2 ?d3 ?d4 ?d5 ?_))
            case d1 =>
              intro j u hj
              match j, hj with
              | 0, hj => simp at hj; subst hj; simp [Addr.add]
            case d2 => intro u hu; simp at hu; subst hu; rfl
            case d3 => rw [cpts_length]; unfold maxLen; omega
            case d4 => rw [cpts_length]; omega
            case d5 => simp; omega
            intro v' w3 ho hg _
            have R := Poly.push HP2.out HX2.out G1.out G2.out G3.out (by rw [cpts_length]; exact ho) hg
            have RP : Hid (Poly w.heap.size j w (w3.setCell ⟨w.heap.size + 1, 1, none⟩ v') v' (cpts n j (k + 1))) := by
              have := R.2; rw [← HT.out] at this; exact this
            have hq := R.1
            have hq1 : w3.cell? ⟨w.heap.size + 1, 1, none⟩ = some v := by simp [World.cell?, hq]
            have hq2 : w3.frozen? ⟨w.heap.size + 1, 1, none⟩ = false := by simp [World.frozen?, hq]
            obtain ⟨vo, vc, hv'⟩ := owns_form ho
            subst hv'
            clear ho hg R hq
            go_wp2
            go_roundw
            case rel => exact ⟨k + 1, by omega, by rw [← HT.out]; go_num, (cfar_succ n j k HN.out).trans HF.out, _, RP.out⟩
            case measure => simp [intOf]; omega
          · have HF : Hid ((pw ((k : Int) - (n : Int) / 2) j).any (farB · 100) = true) := by rw [HT.out]; exact hf
            clear hf
            have hp0 := HP2.out.res
            have hc0 : w2.cell? ⟨w.heap.size, 0, none⟩ = some (.int .i64 0) := by simp [World.cell?, hp0]
            have hc1 : w2.cell? ⟨w.heap.size, 1, none⟩ = some (.slice none 0 0) := by simp [World.cell?, hp0]
            have hf0 : w2.frozen? ⟨w.heap.size, 0, none⟩ = false := by simp [World.frozen?, hp0]
            have hf1 : w2.frozen? ⟨w.heap.size, 1, none⟩ = false := by simp [World.frozen?, hp0]
            clear hp0
            go_wp2
            obtain ⟨e1, e2, e3⟩ := cyc_far (cfar_mono n j (k := k + 1) (by omega) ((cfar_succ n j k HN.out).trans HF.out))
            rw [e1, e2, e3]
            exact bodyPost_ret (v := .tuple #[.agg #[.int .i64 0, .slice none 0 0], .int .i64 11]) (by simp [results, Try.results34, go_sem, hc0, hc1]) rfl ⟨⟨_, rfl, [], rfl, Sl.nil _ _ _, fun i hi => absurd hi (by simp)⟩, (HP2.out.bel.setCell (by simp) _).setCell (by simp) _⟩
    · have hkn : k = n := by omega
      subst hkn
      have tt : ¬ t < (k : Int) - (k : Int) / 2 := by omega
      clear hte
      have hp0 := HP.out.res
      have hp1 : wa.heap[w.heap.size + 1]? = some (.cells #[.int .i64 d, v] 42 (0, 0)) := HP.out.pol
      have hc0 : wa.cell? ⟨w.heap.size, 0, none⟩ = some (.int .i64 0) := by simp [World.cell?, hp0]
      have hc1 : wa.cell? ⟨w.heap.size, 1, none⟩ = some (.slice none 0 0) := by simp [World.cell?, hp0]
      have hf0 : wa.frozen? ⟨w.heap.size, 0, none⟩ = false := by simp [World.frozen?, hp0]
      have hf1 : wa.frozen? ⟨w.heap.size, 1, none⟩ = false := by simp [World.frozen?, hp0]
      have hd0 : wa.cell? ⟨w.heap.size + 1, 0, none⟩ = some (.int .i64 d) := by simp [World.cell?, hp1]
      have hd1 : wa.cell? ⟨w.heap.size + 1, 1, none⟩ = some v := by simp [World.cell?, hp1]
      obtain ⟨vs, g1, g2, g3⟩ := HP.out.rows
      obtain ⟨vo, vc, hv'⟩ := owns_form g2
      rw [cpts_length] at hv'
      subst hv'
      have HQ : Hid ((wa.setCell ⟨w.heap.size, 0, none⟩ (.int .i64 d)).cell? ⟨w.heap.size, 0, none⟩ = some (.int .i64 d) ∧ ((wa.setCell ⟨w.heap.size, 0, none⟩ (.int .i64 d)).setCell ⟨w.heap.size, 1, none⟩ (.slice vo k vc)).cell? ⟨w.heap.size, 1, none⟩ = some (.slice vo k vc)) := two_set hp0
      clear g1 g2 g3 hp0 hp1
      go_wp2
      obtain ⟨e1, e2, e3⟩ := cyc_near HN.out
      rw [e1, e2, e3]
      have hq0 := HQ.out.1
      have hq1 := HQ.out.2
      refine bodyPost_ret (v := .tuple #[.agg #[.int .i64 d, .slice vo k vc], .int .i64 0]) (by simp [results, Try.results34, go_sem, hq0, hq1]) rfl ⟨⟨_, rfl, ?_⟩, (HP.out.bel.setCell (by simp) _).setCell (by simp) _⟩
      exact HP.out.done _ _

end Go.Proofs.Ytfbgcfbafnmahaa
