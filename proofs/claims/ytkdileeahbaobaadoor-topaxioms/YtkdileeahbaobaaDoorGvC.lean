import Derived.Test.YtkdileeahbaobaaDoorGvB
import Derived.Test.YtkdileeahbaobaaDoorGmB
/- facetref.VectorsOf: what it gives. -/
namespace Go.Proofs.YtkdileeahbaobaaDoor
open Go.RowKit
attribute [local go_sem ↓] Go.wp_at_zero Go.wp_at_succ

set_option maxRecDepth 100000 in
set_option maxHeartbeats 1600000 in
theorem vectorsOf_is (p d B : Nat) (hp : p = 2 ∨ p = 3 ∨ p = 5 ∨ p = 7) (hd1 : 1 ≤ d) (hd : d ≤ 8) (m : List (List Int)) (v : Value) (w : World) (hm : m.length ≤ 8) (hr : Rp d p m) (hf : Mat B 22 3 w v m) (hB : B ≤ w.heap.size) :
    Calls Tryd.prog 15 #[.int .i64 p, v] w fun e w' => ∃ u, e = .returned (.agg #[.int .i64 m.length, u]) ∧ Sl 0 3 w' u (ints (greL (setsTo (fvE p d m) (2 ^ m.length)))) ∧ Below w.heap.size w w' := by
  obtain ⟨i3, hi3, hz30, hz31, hz32⟩ := info_parts Tryd.info3
  obtain ⟨i0, hi0, hz0, hz1, hz2⟩ := info_parts infoRow
  obtain ⟨vo, vc, hvv, hlc, -⟩ := mat_open hf
  subst hvv
  have HMA : Hid (∀ W', Below w.heap.size w W' → Mat w.heap.size 22 3 W' (.slice vo m.length vc) m) := fun W' h => (hf.below h (Nat.le_refl _)).more hB
  have HRP : Hid (Rp d p m) := hr
  obtain ⟨W, hW⟩ : ∃ W, W = w.alloc (.cells #[.int .i64 0, .slice none 0 0] 25) := ⟨_, rfl⟩
  have HBA : Hid (Below w.heap.size w W) := by rw [hW]; exact (Below.refl _ _).alloc (Nat.le_refl _) _
  have HR0 : Hid (W.heap[w.heap.size]? = some (.cells #[.int .i64 0, .slice none 0 0] 25 (0, 0))) := by rw [hW]; exact heap_alloc_new w _
  have HWS : Hid (W.heap.size = w.heap.size + 1) := by rw [hW]; show _ = _; simp
  obtain ⟨tn, htn⟩ : ∃ tn : Nat, tn = 2 ^ m.length := ⟨_, rfl⟩
  have hti : (2 : Int) ^ m.length = (tn : Int) := by rw [htn]; simp
  have htl : tn ≤ 256 := by rw [htn]; exact show 2 ^ m.length ≤ 2 ^ 8 from Nat.pow_le_pow_right (by omega) hm
  have hwt : IntKind.i64.wrap (tn : Int) = (tn : Int) := wrap_small (by omega)
  have HGB : Hid (greL (setsTo (fvE p d m) tn) = greL (setsTo (fvE p d m) (2 ^ m.length))) := by show _ = _; rw [htn]
  have HMM : Hid (∀ W' (s : Nat), s < tn → Calls Tryd.prog 11 #[.int .i64 s] W' fun e w' => ∃ uo uc, ∃ L : List Int, e = .returned (.slice uo L.length uc) ∧ Sl 0 3 w' (.slice uo L.length uc) (ints L) ∧ L.length ≤ 8 ∧ (∀ z ∈ L, ∃ i : Nat, z = (i : Int) ∧ i < m.length) ∧ L = mem8 s ∧ Below W'.heap.size W' w') := fun W' s hs =>
    (members8_any s W' (by omega)).mono (by
      rintro e w' ⟨u, rfl, h1, h2⟩
      obtain ⟨uo, uc, rfl⟩ := owns_form h1
      refine ⟨uo, uc, mem8 s, rfl, Sl.own h1, mem8_len s, fun z hz => ?_, rfl, h2⟩
      obtain ⟨i, _, h3, rfl⟩ := mem8_iff.1 hz
      exact ⟨i, rfl, bit_lt (by rw [← htn]; exact hs) h3⟩)
  clear hr hf
  go_enter Tryd.func15, Tryd.ntmps15
  go_wp2
  rw [← hW]
  clear hW htn
  go_loopw [5, 6] (fun gv x wr => ∃ (k : Nat) (xs : List Int), k ≤ tn ∧ x = .int .i64 k ∧ wr.ownsRow W.heap.size 3 1 gv xs.length (ints xs) ∧ xs.length ≤ k ∧ xs = setsTo (fvE p d m) k ∧ Below W.heap.size W wr) (fun _ x _ => tn - (intOf x).toNat)
  case atStart => exact ⟨0, [], Nat.zero_le _, rfl, World.ownsRow_nil _ _ _ _, Nat.le_refl _, rfl, Below.refl _ _⟩
  case round =>
    obtain ⟨k, xs, hk, rfl, ho, hxl, hz, hbr⟩ := hrel
    have HO : Hid (wr.ownsRow W.heap.size 3 1 u5 xs.length (ints xs)) := ho
    have HZ : Hid (xs = setsTo (fvE p d m) k) := hz
    have HZS : Hid (setsTo (fvE p d m) (k + 1) = setsTo (fvE p d m) k ++ (if fvE p d m k = true then [(k : Int)] else [])) := setsTo_succ _ k
    have HB : Hid (Below W.heap.size W wr) := hbr
    have HBW : Hid (Below w.heap.size w wr) := HBA.out.trans (HB.out.mono HBA.out.size)
    clear ho hz hbr
    obtain ⟨wa, rfl⟩ : ∃ wa, wa = wr := ⟨wr, rfl⟩
    by_cases hlt : k < tn
    · have kI : (k : Int) < (tn : Int) := by omega
      go_wp2_with fail
      refine (HMM.out wa k hlt).mono ?_
      rintro e w5 ⟨lo, lc, L, rfl, hsl, hL8, hLm, hLe, hb5⟩
      have HLE : Hid (L = mem8 k) := hLe
      clear hLe
      have HSL : Hid (Sl 0 3 w5 (.slice lo L.length lc) (ints L)) := hsl
      have HLM : Hid (∀ z ∈ L, ∃ i : Nat, z = (i : Int) ∧ i < m.length) := hLm
      have HB5 : Hid (Below wa.heap.size wa w5) := hb5
      clear hsl hLm hb5
      go_wp2
      go_loopw [8, 9] (fun rv x wr => ∃ (i : Nat) (M2 : List (List Int)), i ≤ L.length ∧ x = .int .i64 i ∧ M2.length = i ∧ M2 = pkV m (L.take i) ∧ Rp d p M2 ∧ Rws w5.heap.size 22 3 wr rv M2 ∧ Below w5.heap.size w5 wr) (fun _ x _ => L.length - (intOf x).toNat)
      case atStart => exact ⟨0, [], Nat.zero_le _, rfl, rfl, rfl, fun r hr => by simp at hr, Rws.nil _ _ _ _, Below.refl _ _⟩
      case round =>
        obtain ⟨i, M2, hi, rfl, hM2, hpk, hrp2, hfr2, hbi⟩ := hrel
        have HPK : Hid (M2 = pkV m (L.take i)) := hpk
        clear hpk
        have HR2 : Hid (Rp d p M2) := hrp2
        have HF2 : Hid (Rws w5.heap.size 22 3 wr u8 M2) := hfr2
        have HM2 : Hid (M2.length = i) := hM2
        have HBI : Hid (Below w5.heap.size w5 wr) := hbi
        clear hrp2 hfr2 hbi hM2
        obtain ⟨wi, rfl⟩ : ∃ wi, wi = wr := ⟨wr, rfl⟩
        have HBWI : Hid (Below wa.heap.size wa wi) := HB5.out.trans (HBI.out.mono HB5.out.size)
        by_cases hil : i < L.length
        · obtain ⟨lb, lq, _, hs, _, hcl⟩ := sl_cell (HSL.out.below HBI.out (Nat.le_refl _)) hil
          simp only [Value.slice.injEq] at hs
          obtain ⟨rfl, -, -⟩ := hs
          obtain ⟨x, hx, hxm⟩ := HLM.out (L.getD i 0) (by simp [hil])
          rw [hx] at hcl
          have HPN : Hid (pkV m (L.take (i + 1)) = M2 ++ [m.getD x []]) := by
            show _ = _
            rw [take_snocV L i hil, hx, HPK.out]
            unfold pkV
            rw [List.map_append]; rfl
          obtain ⟨vb', vq', _, ux, hyv, _, hcx, hsx⟩ := mat_cell (HMA.out wi (HBW.out.trans (HBWI.out.mono HBW.out.size))) hxm
          simp only [Value.slice.injEq] at hyv
          obtain ⟨rfl, -, -⟩ := hyv
          have HSX : Hid (Sl w5.heap.size 3 wi ux (ints (m.getD x []))) := hsx.more (Nat.le_trans HBW.out.size HB5.out.size)
          have hrx := HRP.out (m.getD x []) (by simp [hxm])
          have HRX : Hid ((m.getD x []).length = d ∧ ∀ z ∈ m.getD x [], 0 ≤ z ∧ z < (p : Int)) := hrx
          obtain ⟨us, f1, f2, f3⟩ := HF2.out
          have F2 : Hid (wi.ownsRow w5.heap.size 22 1 u8 M2.length us) := f2
          have F1 : Hid (us.length = M2.length) := f1
          have F3 : Hid (∀ i, i < M2.length → Sl w5.heap.size 3 wi (us.getD i (.slice none 0 0)) (ints (M2.getD i []))) := f3
          have hszr : w5.heap.size ≤ wi.heap.size := HBI.out.size
          have hm28 : M2.length ≤ 8 := by have := HM2.out; omega
          obtain ⟨xo, xc, hxv, _, _⟩ := sl_open hsx
          rw [hrx.1] at hxv
          subst hxv
          have iI : (i : Int) < (L.length : Int) := by omega
          have iI0 : (0 : Int) ≤ (i : Int) := by omega
          have xI : (x : Int) < (m.length : Int) := by omega
          have xI0 : (0 : Int) ≤ (x : Int) := by omega
          clear hx hsx hrx f1 f2 f3
          go_wp2_with (first | (at_builtin; refine wpList_append_own _ rfl _ _ 42 rfl w5.heap.size 22 i0 (.slice none 0 0) 1 24 Tryd.underlying42 hi0 hz0 hz1 hz2 rfl (by decide) _ _ _ rfl (F2.out.alloc _) ⟨wi.heap.size, 0, none⟩ 1 1 [.slice xo d xc] rfl rfl (one_new _ _ _) (one_slice _ _ _) ?c3 ?c4 ?c5 ?_))
          case c3 => unfold maxLen; omega
          case c4 => omega
          case c5 => first | exact hszr | omega | (simp; omega)
          intro v' w7 ho7 hg7 _
          have HF7 : Hid (Rws w5.heap.size 22 3 w7 v' (M2 ++ [m.getD x []])) := Rws.push (e2 := 22) (e1 := 3) (m := M2) (u := .slice xo d xc) (zs := m.getD x []) (by decide) F1.out (F2.out.alloc _) (fun i hi => (F3.out i hi).alloc _) (HSX.out.alloc _) ho7 hg7
          have HB7 : Hid (Below w5.heap.size w5 w7) := (HBI.out.alloc hszr _).grown hg7 (by simp; omega) (fun x hx => (F2.out.lt x hx).1)
          have HR7 : Hid (Rp d p (M2 ++ [m.getD x []])) := fun r hr => by
            rcases List.mem_append.1 hr with hr | hr
            · exact HR2.out r hr
            · have : r = m.getD x [] := by simpa using hr
              rw [this]
              exact HRX.out
          clear ho7 hg7
          go_wp2
          exact ⟨⟨i + 1, _, by omega, by go_num, by rw [List.length_append, List.length_singleton, HM2.out], HPN.out.symm, HR7.out, HF7.out, HB7.out⟩, by simp [intOf]; omega⟩
        · have hie : i = L.length := by omega
          subst hie
          have HHG : Hid (Calls Tryd.prog 29 #[.int .i64 p, u8] wi fun e w' => e = .returned (.bool (dpB p d M2)) ∧ Below wi.heap.size wi w') := hangs_is p d w5.heap.size hp hd1 hd M2 u8 wi (by have := HM2.out; omega) HR2.out HF2.out HBI.out.size
          have HFV : Hid (fvE p d m k = !dpB p d M2) := by
            show _ = _
            unfold fvE
            rw [HPK.out, List.take_length, HLE.out]
          generalize dpB p d M2 = b at *
          go_wp2_with fail
          refine HHG.out.mono ?_
          rintro e w3 ⟨rfl, hb3⟩
          have HX3 : Hid (Below wa.heap.size wa w3) := HBWI.out.trans (hb3.mono HBWI.out.size)
          have HB3 : Hid (Below W.heap.size W w3) := HB.out.trans (HX3.out.mono HB.out.size)
          have HO3 : Hid (w3.ownsRow W.heap.size 3 1 u5 xs.length (ints xs)) := by
            refine ⟨HO.out.1, ?_⟩
            rcases HO.out.2 with h1 | ⟨g, cap, cur, e1, h2, h3, h4⟩
            · exact .inl h1
            · exact .inr ⟨g, cap, cur, e1, h2, (HX3.out.block g (Array.getElem?_eq_some_iff.1 h3).1).trans h3, h4⟩
          clear hb3
          have hszr : W.heap.size ≤ w3.heap.size := HB3.out.size
          cases b
          · go_wp2_with (first | (at_builtin; refine wpList_append_own _ rfl _ _ 22 rfl W.heap.size 3 i3 (.int .i64 0) 1 8 Tryd.underlying22 hi3 hz30 hz31 hz32 rfl (by decide) _ _ _ rfl (HO3.out.alloc _) ⟨w3.heap.size, 0, none⟩ 1 1 [.int .i64 k] rfl rfl (one_new _ _ _) (one_int _) ?c3 ?c4 ?c5 ?_))
            case c3 => unfold maxLen; omega
            case c4 => omega
            case c5 => first | exact hszr | omega | (simp; omega)
            intro v' w7 ho5 hg5 _
            have R1 : Hid (w7.ownsRow W.heap.size 3 1 v' (xs ++ [(k : Int)]).length (ints (xs ++ [(k : Int)]))) := by
              have e2 : ints (xs ++ [(k : Int)]) = ints xs ++ [.int .i64 (k : Int)] := by simp [ints]
              show World.ownsRow _ _ _ _ _ _ _
              rw [e2, List.length_append, List.length_singleton]
              exact ho5
            have R2 : Hid (Below W.heap.size W w7) := (HB3.out.alloc hszr _).grown hg5 (by simp; omega) (fun x hx => (HO3.out.lt x hx).1)
            have R3 : Hid (xs ++ [(k : Int)] = setsTo (fvE p d m) (k + 1)) := by
              show _ = _
              rw [HZS.out, HFV.out, HZ.out]; rfl
            clear ho5 hg5
            go_wp2
            exact ⟨⟨k + 1, _, by omega, by go_num, R1.out, by rw [List.length_append, List.length_singleton]; omega, R3.out, R2.out⟩, by simp [intOf]; omega⟩
          · have R3 : Hid (xs = setsTo (fvE p d m) (k + 1)) := by
              show _ = _
              rw [HZS.out, HFV.out, HZ.out]; simp
            go_wp2
            exact ⟨⟨k + 1, xs, by omega, by go_num, HO3.out, by omega, R3.out, HB3.out⟩, by simp [intOf]; omega⟩
    · have hke : tn = k := by omega
      subst hke
      obtain ⟨go, gc, hu⟩ := owns_form HO.out
      subst hu
      have HGR : Hid (Calls Tryd.prog 28 #[.int .i64 m.length, .slice go xs.length gc] wa fun e w' => ∃ u, e = .returned (.agg #[.int .i64 m.length, u]) ∧ Sl 0 3 w' u (ints (greL xs)) ∧ Below wa.heap.size wa w') := greatest_is m.length xs _ wa ((Sl.own (B := 0) HO.out).more (Nat.zero_le _)) (by omega) (by rw [HZ.out]; exact setsTo_b9 _ _ (by omega))
      have HYS : Hid (greL xs = greL (setsTo (fvE p d m) (2 ^ m.length))) := by rw [HZ.out]; exact HGB.out
      rw [HYS.out] at HGR
      generalize hys : greL (setsTo (fvE p d m) (2 ^ m.length)) = ys at *
      have HYE : Hid (greL (setsTo (fvE p d m) (2 ^ m.length)) = ys) := hys
      clear hys
      go_wp2_with fail
      refine HGR.out.mono ?_
      rintro e w3 ⟨u, rfl, hs3, hb3⟩
      have HS3 : Hid (Sl 0 3 w3 u (ints ys)) := hs3
      have hres : w3.heap[w.heap.size]? = some (.cells #[.int .i64 0, .slice none 0 0] 25 (0, 0)) := by
        have h1 := HB.out.size
        have h2 := HWS.out
        exact ((hb3.block _ (by omega)).trans (HB.out.block _ (by omega))).trans HR0.out
      have r0 : w3.cell? ⟨w.heap.size, 0, none⟩ = some (.int .i64 0) := by simp [World.cell?, hres]
      have r1 : w3.cell? ⟨w.heap.size, 1, none⟩ = some (.slice none 0 0) := by simp [World.cell?, hres]
      have rf0 : w3.frozen? ⟨w.heap.size, 0, none⟩ = false := by simp [World.frozen?, hres]
      have rf1 : w3.frozen? ⟨w.heap.size, 1, none⟩ = false := by simp [World.frozen?, hres]
      obtain ⟨yo, yc, hyv, _, _⟩ := sl_open hs3
      subst hyv
      have HB3 : Hid (Below w.heap.size w w3) := HBW.out.trans (hb3.mono HBW.out.size)
      have HTY : Hid (w3.heap[w.heap.size]? = some (.cells #[.int .i64 0, .slice none 0 0] 25 (0, 0))) := hres
      have HBX : Hid (Below w.heap.size w ((w3.setCell ⟨w.heap.size, 0, none⟩ (.int .i64 m.length)).setCell ⟨w.heap.size, 1, none⟩ (.slice yo ys.length yc))) := (HB3.out.setCell (by simp) _).setCell (by simp) _
      have HSX : Hid (Sl 0 3 ((w3.setCell ⟨w.heap.size, 0, none⟩ (.int .i64 m.length)).setCell ⟨w.heap.size, 1, none⟩ (.slice yo ys.length yc)) (.slice yo ys.length yc) (ints ys)) := by
        refine HS3.out.move fun b hb ht => ?_
        rcases ht with ht | ⟨cur, ht⟩
        · omega
        · have hne : b ≠ w.heap.size := fun e => by
            rw [e, HTY.out] at ht
            simp at ht
          exact ⟨(Below.heap_setCell _ _ _ _ (by show b ≠ w.heap.size; exact hne)).trans (Below.heap_setCell _ _ _ _ (by show b ≠ w.heap.size; exact hne)), .inr ⟨cur, ht⟩⟩
      clear hs3 hb3 hres
      go_wp2
      exact bodyPost_ret (v := .agg #[.int .i64 m.length, .slice yo ys.length yc]) (by simp [results, Tryd.results15, go_sem, *]) rfl ⟨_, rfl, by first | exact HSX.out | (rw [HYE.out]; exact HSX.out), HBX.out⟩

end Go.Proofs.YtkdileeahbaobaaDoor

/- Columns that stand alone grow: vectors modulo a prime make a matroid. -/
namespace Go.Proofs.YtkdileeahbaobaaDoor
open Go.RowKit

theorem lin_col {p : Int} {d : Nat} : ∀ (m : List (List Int)), (∀ r ∈ m, p ∣ r.getD d 0) → ∀ cs : List Int, p ∣ lin cs m d
  | [], _, cs => by cases cs <;> simp [lin]
  | r :: m, hz, [] => by simp [lin]
  | r :: m, hz, c :: cs => by
    simp only [lin]
    exact Int.dvd_add (Int.dvd_mul_of_dvd_right (hz r (by simp))) (lin_col m (fun x hx => hz x (by simp [hx])) cs)

/-- More rows than places: a sum comes to nothing. -/
theorem more_dep {p : Int} (hp : Prm p) : ∀ (d : Nat) (m : List (List Int)), d < m.length → Dpn p d m
  | 0, m, h => by
    match m, h with
    | r :: m, _ => exact ⟨1 :: List.replicate m.length 0, by simp, ⟨1, by simp, hp.one⟩, fun k hk => by omega⟩
  | d + 1, m, h => by
    have up : ∀ m' : List (List Int), (∀ r ∈ m', p ∣ r.getD d 0) → Dpn p d m' → Dpn p (d + 1) m' := fun m' hz ⟨cs, hl, hn, hs⟩ => by
      refine ⟨cs, hl, hn, fun k hk => ?_⟩
      by_cases e : k = d
      · rw [e]; exact lin_col m' hz cs
      · exact hs k (by omega)
    by_cases hall : ∀ r ∈ m, p ∣ r.getD d 0
    · exact up m hall (more_dep hp d m (by omega))
    · obtain ⟨r, hr, hrd⟩ : ∃ r ∈ m, ¬ p ∣ r.getD d 0 := Classical.byContradiction fun hn => hall fun r hr => Classical.byContradiction fun h => hn ⟨r, hr, h⟩
      obtain ⟨a, ha, rfl⟩ := List.getElem_of_mem hr
      have hg : m.getD a [] = m[a] := by simp [ha]
      rw [← hg] at hrd
      obtain ⟨R, hR⟩ : ∃ R, R = m.getD a [] := ⟨_, rfl⟩
      rw [← hR] at hrd
      obtain ⟨i, hi⟩ := hp.inv _ hrd
      have hol : (oth m a m.length).length + 1 = m.length := by
        have e2 := oth_high m a ha (m.length - (a + 1)) (by omega)
        rw [show a + 1 + (m.length - (a + 1)) = m.length by omega] at e2
        rw [e2]
        simp
        omega
      refine (dpn_oth ha).2 ?_
      rw [← hR]
      have hc : Clr p (d + 1) d R (oth m a m.length) ((oth m a m.length).map fun x => (List.range (d + 1)).map fun c => x.getD c 0 - x.getD d 0 * i * R.getD c 0) := by
        refine clr_get _ _ (by simp) fun q hq => ?_
        have e : ((oth m a m.length).map fun x => (List.range (d + 1)).map fun c => x.getD c 0 - x.getD d 0 * i * R.getD c 0).getD q [] = (List.range (d + 1)).map fun c => ((oth m a m.length).getD q []).getD c 0 - ((oth m a m.length).getD q []).getD d 0 * i * R.getD c 0 := by
          simp [hq]
        rw [e]
        generalize (oth m a m.length).getD q [] = x
        have hget : ∀ c, c < d + 1 → ((List.range (d + 1)).map fun c => x.getD c 0 - x.getD d 0 * i * R.getD c 0).getD c 0 = x.getD c 0 - x.getD d 0 * i * R.getD c 0 := fun c hc => by simp [hc]
        refine ⟨⟨1, -(x.getD d 0 * i), hp.one, fun c hc => ?_⟩, ?_⟩
        · rw [hget c hc]
          exact ⟨0, by grind⟩
        · rw [hget d (by omega)]
          have e2 : x.getD d 0 - x.getD d 0 * i * R.getD d 0 = -(x.getD d 0 * (R.getD d 0 * i - 1)) := by grind
          rw [e2]
          exact Int.dvd_neg.2 (Int.dvd_mul_of_dvd_right hi)
      refine (dpn_step hp (by omega) hrd hc).2 (up _ (fun r hr => ?_) (more_dep hp d _ (by simp; omega)))
      obtain ⟨x, _, rfl⟩ := List.mem_map.1 hr
      have hgd : ((List.range (d + 1)).map fun c => x.getD c 0 - x.getD d 0 * i * R.getD c 0).getD d 0 = x.getD d 0 - x.getD d 0 * i * R.getD d 0 := by simp
      rw [hgd]
      have e2 : x.getD d 0 - x.getD d 0 * i * R.getD d 0 = -(x.getD d 0 * (R.getD d 0 * i - 1)) := by grind
      rw [e2]
      exact Int.dvd_neg.2 (Int.dvd_mul_of_dvd_right hi)

/-- A sum over places. -/
def smV (f : Nat → Int) : Nat → Int
  | 0 => 0
  | k + 1 => smV f k + f k

theorem smV_add (f g : Nat → Int) : ∀ k, smV (fun i => f i + g i) k = smV f k + smV g k
  | 0 => rfl
  | k + 1 => by simp only [smV]; rw [smV_add f g k]; omega

theorem smV_mul (c : Int) (f : Nat → Int) : ∀ k, smV (fun i => c * f i) k = c * smV f k
  | 0 => by simp [smV]
  | k + 1 => by simp only [smV]; rw [smV_mul c f k, Int.mul_add]

theorem smV_congr {f g : Nat → Int} : ∀ k, (∀ i, i < k → f i = g i) → smV f k = smV g k
  | 0, _ => rfl
  | k + 1, h => by simp only [smV]; rw [smV_congr k fun i hi => h i (by omega), h k (by omega)]

theorem smV_dvd {p : Int} {f : Nat → Int} : ∀ k, (∀ i, i < k → p ∣ f i) → p ∣ smV f k
  | 0, _ => Int.dvd_zero _
  | k + 1, h => by simp only [smV]; exact Int.dvd_add (smV_dvd k fun i hi => h i (by omega)) (h k (by omega))

theorem smV_zero : ∀ k, smV (fun _ => 0) k = 0
  | 0 => rfl
  | k + 1 => by simp only [smV]; rw [smV_zero k]; rfl

theorem smV_front (f : Nat → Int) : ∀ k, smV f (k + 1) = f 0 + smV (fun i => f (i + 1)) k
  | 0 => by simp [smV]
  | k + 1 => by
    have := smV_front f k
    simp only [smV] at this ⊢
    omega

theorem lin_smV : ∀ (cs : List Int) (A : List (List Int)) (k : Nat), cs.length = A.length → lin cs A k = smV (fun t => cs.getD t 0 * (A.getD t []).getD k 0) A.length
  | [], [], _, _ => rfl
  | [], _ :: _, _, h => by simp at h
  | _ :: _, [], _, h => by simp at h
  | c :: cs, r :: A, k, h => by
    simp only [lin, List.length_cons]
    rw [smV_front, lin_smV cs A k (by simpa using h)]
    simp

/-- Rows that are sums of A's: what their coefficients come to they do. -/
theorem dep_of {p : Int} {d : Nat} {A : List (List Int)} : ∀ (X M : List (List Int)), X.length = M.length → (∀ j, j < X.length → ∀ k, k < d → p ∣ (X.getD j []).getD k 0 - smV (fun t => (M.getD j []).getD t 0 * (A.getD t []).getD k 0) A.length) → ∀ (cs : List Int), cs.length = X.length → ∀ k, k < d → p ∣ lin cs X k - smV (fun t => lin cs M t * (A.getD t []).getD k 0) A.length
  | [], [], _, _, cs, hc, k, _ => by
    have : cs = [] := List.eq_nil_of_length_eq_zero (by simpa using hc)
    subst this
    have e : smV (fun t => lin [] [] t * (A.getD t []).getD k 0) A.length = 0 := by
      rw [← smV_zero A.length]
      exact smV_congr _ fun i _ => by simp [lin]
    rw [e]
    simp [lin]
  | [], _ :: _, h, _, _, _, _, _ => by simp at h
  | _ :: _, [], h, _, _, _, _, _ => by simp at h
  | x :: X, y :: M, h, hx, cs, hc, k, hk => by
    match cs, hc with
    | c :: cs, hc =>
      have ih := dep_of X M (by simpa using h) (fun j hj => hx (j + 1) (by simpa using hj)) cs (by simpa using hc) k hk
      have h0 := hx 0 (by simp) k hk
      have h0' : p ∣ x.getD k 0 - smV (fun t => y.getD t 0 * (A.getD t []).getD k 0) A.length := h0
      have e : smV (fun t => lin (c :: cs) (y :: M) t * (A.getD t []).getD k 0) A.length = c * smV (fun t => y.getD t 0 * (A.getD t []).getD k 0) A.length + smV (fun t => lin cs M t * (A.getD t []).getD k 0) A.length := by
        rw [← smV_mul, ← smV_add]
        exact smV_congr _ fun i _ => by simp only [lin]; grind
      rw [e]
      simp only [lin]
      have e2 : c * x.getD k 0 + lin cs X k - (c * smV (fun t => y.getD t 0 * (A.getD t []).getD k 0) A.length + smV (fun t => lin cs M t * (A.getD t []).getD k 0) A.length) = c * (x.getD k 0 - smV (fun t => y.getD t 0 * (A.getD t []).getD k 0) A.length) + (lin cs X k - smV (fun t => lin cs M t * (A.getD t []).getD k 0) A.length) := by grind
      rw [e2]
      exact Int.dvd_add (Int.dvd_mul_of_dvd_right h0') ih

theorem dep_more {p : Int} (hp : Prm p) {d : Nat} {A X : List (List Int)} (hl : A.length < X.length) (hx : ∀ j, j < X.length → ∃ y : List Int, ∀ k, k < d → p ∣ (X.getD j []).getD k 0 - smV (fun t => y.getD t 0 * (A.getD t []).getD k 0) A.length) : Dpn p d X := by
  have hch : ∃ Y : Nat → List Int, ∀ j, j < X.length → ∀ k, k < d → p ∣ (X.getD j []).getD k 0 - smV (fun t => (Y j).getD t 0 * (A.getD t []).getD k 0) A.length := by
    refine ⟨fun j => if h : j < X.length then Classical.choose (hx j h) else [], fun j hj => ?_⟩
    simp only [dif_pos hj]
    exact Classical.choose_spec (hx j hj)
  obtain ⟨Y, hY⟩ := hch
  obtain ⟨cs, c1, c2, c3⟩ := more_dep hp A.length ((List.range X.length).map Y) (by simpa using hl)
  refine ⟨cs, by simpa using c1, c2, fun k hk => ?_⟩
  have h := dep_of (p := p) (d := d) (A := A) X ((List.range X.length).map Y) (by simp) (fun j hj k hk => by
    have e : ((List.range X.length).map Y).getD j [] = Y j := by simp [hj]
    rw [e]
    exact hY j hj k hk) cs (by simpa using c1) k hk
  have h2 : p ∣ smV (fun t => lin cs ((List.range X.length).map Y) t * (A.getD t []).getD k 0) A.length := smV_dvd _ fun t ht => Int.dvd_mul_of_dvd_left (c3 t ht)
  have e : lin cs X k = (lin cs X k - smV (fun t => lin cs ((List.range X.length).map Y) t * (A.getD t []).getD k 0) A.length) + smV (fun t => lin cs ((List.range X.length).map Y) t * (A.getD t []).getD k 0) A.length := by omega
  rw [e]
  exact Int.dvd_add h h2

/-- A row on which others hang is a sum of theirs. -/
theorem dep_sum {p : Int} (hp : Prm p) {d : Nat} {r : List Int} {A : List (List Int)} (hA : ¬ Dpn p d A) (h : Dpn p d (r :: A)) : ∃ y : List Int, ∀ k, k < d → p ∣ r.getD k 0 - smV (fun t => y.getD t 0 * (A.getD t []).getD k 0) A.length := by
  obtain ⟨cs, hl, ⟨z, hz, hz0⟩, hs⟩ := h
  match cs, hl with
  | c :: cs, hl =>
    have hl' : cs.length = A.length := by simpa using hl
    by_cases hc : p ∣ c
    · exfalso
      refine hA ⟨cs, hl', ?_, fun k hk => ?_⟩
      · rcases List.mem_cons.1 hz with e | hz
        · rw [e] at hz0; exact absurd hc hz0
        · exact ⟨z, hz, hz0⟩
      · have := hs k hk
        simp only [lin] at this
        have e : lin cs A k = (c * r.getD k 0 + lin cs A k) - c * r.getD k 0 := by omega
        rw [e]
        exact Int.dvd_sub this (Int.dvd_mul_of_dvd_left hc)
    · obtain ⟨i, hi⟩ := hp.inv c hc
      refine ⟨cs.map fun x => -(i * x), fun k hk => ?_⟩
      have h1 := hs k hk
      simp only [lin] at h1
      have e1 : smV (fun t => (cs.map fun x => -(i * x)).getD t 0 * (A.getD t []).getD k 0) A.length = -i * lin cs A k := by
        rw [lin_smV cs A k hl', ← smV_mul]
        refine smV_congr _ fun t ht => ?_
        have e2 : (cs.map fun x => -(i * x)).getD t 0 = -(i * cs.getD t 0) := by
          have : t < cs.length := by omega
          simp [this]
        rw [e2]; grind
      rw [e1]
      have e3 : r.getD k 0 - -i * lin cs A k = i * (c * r.getD k 0 + lin cs A k) - r.getD k 0 * (c * i - 1) := by grind
      rw [e3]
      exact Int.dvd_sub (Int.dvd_mul_of_dvd_right h1) (Int.dvd_mul_of_dvd_right hi)

theorem dep_put {p : Int} {d : Nat} {r : List Int} {A : List (List Int)} (h : Dpn p d A) : Dpn p d (r :: A) := by
  obtain ⟨cs, hl, ⟨z, hz, hz0⟩, hs⟩ := h
  refine ⟨0 :: cs, by simp [hl], ⟨z, by simp [hz], hz0⟩, fun k hk => ?_⟩
  simp only [lin]
  have := hs k hk
  simpa using this

theorem mem8_put : ∀ s, s < 256 → ∀ y, y < 8 → s.testBit y = false → mem8 (s ||| 2 ^ y) = memTo s y ++ (y : Int) :: (mem8 s).drop (memTo s y).length ∧ mem8 s = memTo s y ++ (mem8 s).drop (memTo s y).length := by decide +kernel

theorem dep_or {p : Int} {d : Nat} {m : List (List Int)} {s y : Nat} (hs : s < 256) (hy : y < 8) (h : s.testBit y = false) : Dpn p d (pkV m (mem8 (s ||| 2 ^ y))) ↔ Dpn p d (m.getD y [] :: pkV m (mem8 s)) := by
  obtain ⟨e1, e2⟩ := mem8_put s hs y hy h
  generalize (mem8 s).drop (memTo s y).length = l2 at *
  rw [e1, e2]
  unfold pkV
  rw [List.map_append, List.map_append, List.map_cons, Int.toNat_natCast]
  exact dpn_first

theorem vec_grw {q d : Nat} {m : List (List Int)} (hp : q = 2 ∨ q = 3 ∨ q = 5 ∨ q = 7) (h8 : m.length ≤ 8) : Grw m.length (fvE q d m) := by
  have hP := prm4 hp
  have hf : ∀ s, fvE (q : Int) d m s = true ↔ ¬ Dpn (q : Int) d (pkV m (mem8 s)) := fun s => by
    unfold fvE
    rw [Bool.not_eq_true', dpB_false]
  refine ⟨?_, fun s x hs hF hx => ?_, fun a b ha hb hFa hFb hlt => ?_⟩
  · rw [hf]
    have : mem8 0 = [] := by decide +kernel
    rw [this]
    exact dpn_nil
  · have hx8 : x < 8 := Nat.lt_of_lt_of_le (bit_lt hs hx) h8
    rw [hf] at hF ⊢
    intro h
    refine hF ?_
    have e := out1_or hx
    rw [← e]
    exact (dep_or (lt_256 h8 (out_ltn hs)) hx8 (by rw [out1_bit]; simp)).2 (dep_put h)
  · rw [hf] at hFa hFb
    have ha8 := lt_256 h8 ha
    refine Classical.byContradiction fun hn => hFb (dep_more hP (A := pkV m (mem8 a)) (by rw [pkV_len, pkV_len]; exact hlt) fun j hj => ?_)
    rw [pkV_len] at hj
    obtain ⟨y, hy8, hyb, hye⟩ := mem8_iff.1 (show (mem8 b).getD j 0 ∈ mem8 b by simp [hj])
    have e : (pkV m (mem8 b)).getD j [] = m.getD y [] := by
      unfold pkV
      simp only [List.getD_eq_getElem?_getD, List.getElem?_map]
      have : (mem8 b)[j]? = some (y : Int) := by
        rw [hye]; simp [hj]
      rw [this]
      simp
    rw [e]
    by_cases hya : a.testBit y = true
    · obtain ⟨t, ht, het⟩ := List.getElem_of_mem (show (y : Int) ∈ mem8 a from mem8_iff.2 ⟨y, hy8, hya, rfl⟩)
      have hA : (pkV m (mem8 a)).getD t [] = m.getD y [] := by
        unfold pkV
        simp only [List.getD_eq_getElem?_getD, List.getElem?_map]
        have : (mem8 a)[t]? = some (y : Int) := by rw [List.getElem?_eq_getElem ht, het]
        rw [this]
        simp
      refine ⟨(List.range (pkV m (mem8 a)).length).map fun i => if i = t then 1 else 0, fun k hk => ?_⟩
      have e1 : ∀ n, smV (fun i => (if i = t then (1 : Int) else 0) * ((pkV m (mem8 a)).getD i []).getD k 0) n = if t < n then (m.getD y []).getD k 0 else 0 := fun n => by
        induction n with
        | zero => simp [smV]
        | succ n ih =>
          simp only [smV]
          rw [ih]
          by_cases c : t < n
          · rw [if_pos c, if_neg (show ¬ n = t by omega), if_pos (show t < n + 1 by omega)]; omega
          · by_cases c2 : n = t
            · subst c2
              rw [if_neg c, if_pos rfl, if_pos (show n < n + 1 by omega), hA]; omega
            · rw [if_neg c, if_neg c2, if_neg (show ¬ t < n + 1 by omega)]; omega
      have e2 : smV (fun i => ((List.range (pkV m (mem8 a)).length).map fun i => if i = t then (1 : Int) else 0).getD i 0 * ((pkV m (mem8 a)).getD i []).getD k 0) (pkV m (mem8 a)).length = smV (fun i => (if i = t then (1 : Int) else 0) * ((pkV m (mem8 a)).getD i []).getD k 0) (pkV m (mem8 a)).length := smV_congr _ fun i hi => by simp [hi]
      rw [e2, e1, if_pos (by rw [pkV_len]; exact ht), Int.sub_self]
      exact Int.dvd_zero _
    · have hya' : a.testBit y = false := by simpa using hya
      refine dep_sum hP hFa ((dep_or ha8 hy8 hya').1 ?_)
      refine Classical.byContradiction fun h => hn ⟨y, hyb, hya', (hf _).2 h⟩

end Go.Proofs.YtkdileeahbaobaaDoor
