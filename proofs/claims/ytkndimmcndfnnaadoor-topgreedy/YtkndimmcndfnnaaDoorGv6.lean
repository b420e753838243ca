/- facetref.VectorsOf: what it gives. -/
import Derived.Test.YtkndimmcndfnnaaDoorGvB
namespace Go.Proofs.YtkndimmcndfnnaaDoor
open Go.RowKit
attribute [local go_sem ↓] Go.wp_at_zero Go.wp_at_succ

set_option maxRecDepth 100000 in
set_option maxHeartbeats 1600000 in
theorem vectorsOf_is (p d B : Nat) (hp : p = 2 ∨ p = 3 ∨ p = 5 ∨ p = 7) (hd1 : 1 ≤ d) (hd : d ≤ 8) (m : List (List Int)) (v : Value) (w : World) (hm : m.length ≤ 8) (hr : Rp d p m) (hf : Mat B 22 3 w v m) (hB : B ≤ w.heap.size) :
    Calls Tryd.prog 12 #[.int .i64 p, v] w fun e w' => ∃ u, e = .returned (.agg #[.int .i64 m.length, u]) ∧ Sl 0 3 w' u (ints (greL (setsTo (fvE p d m) (2 ^ m.length)))) ∧ Below w.heap.size w w' := by
  obtain ⟨i3, hi3, hz30, hz31, hz32⟩ := info_parts Tryd.info3
  obtain ⟨i0, hi0, hz0, hz1, hz2⟩ := info_parts infoRow
  obtain ⟨vo, vc, hvv, hlc, -⟩ := mat_open hf
  subst hvv
  have HMA : Hid (∀ W', Below w.heap.size w W' → Mat w.heap.size 22 3 W' (.slice vo m.length vc) m) := fun W' h => (hf.below h (Nat.le_refl _)).more hB
  have HRP : Hid (Rp d p m) := hr
  obtain ⟨W, hW⟩ : ∃ W, W = w.alloc (.cells #[.int .i64 0, .slice none 0 0] 25) := ⟨_, rfl⟩
  have HBA : Hid (Below w.heap.size w W) := by rw [hW]; exact (Below.refl _ _).alloc (Nat.le_refl _) _
  have HR0 : Hid (W.heap[w.heap.size]? = some (.cells #[.int .i64 0, .slice none 0 0] 25 (0, 0))) := by rw [hW]; exact heap_alloc_new w _
  have HWS : Hid (W.heap.size = w.heap.size + 1) := by rw [hW]; show _ = _; simp
  obtain ⟨tn, htn⟩ : ∃ tn : Nat, tn = 2 ^ m.length := ⟨_, rfl⟩
  have hti : (2 : Int) ^ m.length = (tn : Int) := by rw [htn]; simp
  have htl : tn ≤ 256 := by rw [htn]; exact show 2 ^ m.length ≤ 2 ^ 8 from Nat.pow_le_pow_right (by omega) hm
  have hwt : IntKind.i64.wrap (tn : Int) = (tn : Int) := wrap_small (by omega)
  have HGB : Hid (greL (setsTo (fvE p d m) tn) = greL (setsTo (fvE p d m) (2 ^ m.length))) := by show _ = _; rw [htn]
  have HMM : Hid (∀ W' (s : Nat), s < tn → Calls Tryd.prog 19 #[.int .i64 s] W' fun e w' => ∃ uo uc, ∃ L : List Int, e = .returned (.slice uo L.length uc) ∧ Sl 0 3 w' (.slice uo L.length uc) (ints L) ∧ L.length ≤ 8 ∧ (∀ z ∈ L, ∃ i : Nat, z = (i : Int) ∧ i < m.length) ∧ L = mem8 s ∧ Below W'.heap.size W' w') := fun W' s hs =>
    (members8_any s W' (by omega)).mono (by
      rintro e w' ⟨u, rfl, h1, h2⟩
      obtain ⟨uo, uc, rfl⟩ := owns_form h1
      refine ⟨uo, uc, mem8 s, rfl, Sl.own h1, mem8_len s, fun z hz => ?_, rfl, h2⟩
      obtain ⟨i, _, h3, rfl⟩ := mem8_iff.1 hz
      exact ⟨i, rfl, bit_lt (by rw [← htn]; exact hs) h3⟩)
  clear hr hf
  go_enter Tryd.func12, Tryd.ntmps12
  go_wp2
  rw [← hW]
  clear hW htn
  go_loopw [5, 6] (fun gv x wr => ∃ (k : Nat) (xs : List Int), k ≤ tn ∧ x = .int .i64 k ∧ wr.ownsRow W.heap.size 3 1 gv xs.length (ints xs) ∧ xs.length ≤ k ∧ xs = setsTo (fvE p d m) k ∧ Below W.heap.size W wr) (fun _ x _ => tn - (intOf x).toNat)
  case atStart => exact ⟨0, [], Nat.zero_le _, rfl, World.ownsRow_nil _ _ _ _, Nat.le_refl _, rfl, Below.refl _ _⟩
  case round =>
    obtain ⟨k, xs, hk, rfl, ho, hxl, hz, hbr⟩ := hrel
    have HO : Hid (wr.ownsRow W.heap.size 3 1 u5 xs.length (ints xs)) := ho
    have HZ : Hid (xs = setsTo (fvE p d m) k) := hz
    have HZS : Hid (setsTo (fvE p d m) (k + 1) = setsTo (fvE p d m) k ++ (if fvE p d m k = true then [(k : Int)] else [])) := setsTo_succ _ k
    have HB : Hid (Below W.heap.size W wr) := hbr
    have HBW : Hid (Below w.heap.size w wr) := HBA.out.trans (HB.out.mono HBA.out.size)
    clear ho hz hbr
    obtain ⟨wa, rfl⟩ : ∃ wa, wa = wr := ⟨wr, rfl⟩
    by_cases hlt : k < tn
    · have kI : (k : Int) < (tn : Int) := by omega
      go_wp2_with fail
      refine (HMM.out wa k hlt).mono ?_
      rintro e w5 ⟨lo, lc, L, rfl, hsl, hL8, hLm, hLe, hb5⟩
      have HLE : Hid (L = mem8 k) := hLe
      clear hLe
      have HSL : Hid (Sl 0 3 w5 (.slice lo L.length lc) (ints L)) := hsl
      have HLM : Hid (∀ z ∈ L, ∃ i : Nat, z = (i : Int) ∧ i < m.length) := hLm
      have HB5 : Hid (Below wa.heap.size wa w5) := hb5
      clear hsl hLm hb5
      go_wp2
      go_loopw [8, 9] (fun rv x wr => ∃ (i : Nat) (M2 : List (List Int)), i ≤ L.length ∧ x = .int .i64 i ∧ M2.length = i ∧ M2 = pkV m (L.take i) ∧ Rp d p M2 ∧ Rws w5.heap.size 22 3 wr rv M2 ∧ Below w5.heap.size w5 wr) (fun _ x _ => L.length - (intOf x).toNat)
      case atStart => exact ⟨0, [], Nat.zero_le _, rfl, rfl, rfl, fun r hr => by simp at hr, Rws.nil _ _ _ _, Below.refl _ _⟩
      case round =>
        obtain ⟨i, M2, hi, rfl, hM2, hpk, hrp2, hfr2, hbi⟩ := hrel
        have HPK : Hid (M2 = pkV m (L.take i)) := hpk
        clear hpk
        have HR2 : Hid (Rp d p M2) := hrp2
        have HF2 : Hid (Rws w5.heap.size 22 3 wr u8 M2) := hfr2
        have HM2 : Hid (M2.length = i) := hM2
        have HBI : Hid (Below w5.heap.size w5 wr) := hbi
        clear hrp2 hfr2 hbi hM2
        obtain ⟨wi, rfl⟩ : ∃ wi, wi = wr := ⟨wr, rfl⟩
        have HBWI : Hid (Below wa.heap.size wa wi) := HB5.out.trans (HBI.out.mono HB5.out.size)
        by_cases hil : i < L.length
        · obtain ⟨lb, lq, _, hs, _, hcl⟩ := sl_cell (HSL.out.below HBI.out (Nat.le_refl _)) hil
          simp only [Value.slice.injEq] at hs
          obtain ⟨rfl, -, -⟩ := hs
          obtain ⟨x, hx, hxm⟩ := HLM.out (L.getD i 0) (by simp [hil])
          rw [hx] at hcl
          have HPN : Hid (pkV m (L.take (i + 1)) = M2 ++ [m.getD x []]) := by
            show _ = _
            rw [take_snocV L i hil, hx, HPK.out]
            unfold pkV
            rw [List.map_append]; rfl
          obtain ⟨vb', vq', _, ux, hyv, _, hcx, hsx⟩ := mat_cell (HMA.out wi (HBW.out.trans (HBWI.out.mono HBW.out.size))) hxm
          simp only [Value.slice.injEq] at hyv
          obtain ⟨rfl, -, -⟩ := hyv
          have HSX : Hid (Sl w5.heap.size 3 wi ux (ints (m.getD x []))) := hsx.more (Nat.le_trans HBW.out.size HB5.out.size)
          have hrx := HRP.out (m.getD x []) (by simp [hxm])
          have HRX : Hid ((m.getD x []).length = d ∧ ∀ z ∈ m.getD x [], 0 ≤ z ∧ z < (p : Int)) := hrx
          obtain ⟨us, f1, f2, f3⟩ := HF2.out
          have F2 : Hid (wi.ownsRow w5.heap.size 22 1 u8 M2.length us) := f2
          have F1 : Hid (us.length = M2.length) := f1
          have F3 : Hid (∀ i, i < M2.length → Sl w5.heap.size 3 wi (us.getD i (.slice none 0 0)) (ints (M2.getD i []))) := f3
          have hszr : w5.heap.size ≤ wi.heap.size := HBI.out.size
          have hm28 : M2.length ≤ 8 := by have := HM2.out; omega
          obtain ⟨xo, xc, hxv, _, _⟩ := sl_open hsx
          rw [hrx.1] at hxv
          subst hxv
          have iI : (i : Int) < (L.length : Int) := by omega
          have iI0 : (0 : Int) ≤ (i : Int) := by omega
          have xI : (x : Int) < (m.length : Int) := by omega
          have xI0 : (0 : Int) ≤ (x : Int) := by omega
          clear hx hsx hrx f1 f2 f3
          go_wp2_with (first | (at_builtin; refine wpList_append_own _ rfl _ _ 36 rfl w5.heap.size 22 i0 (.slice none 0 0) 1 24 Tryd.underlying36 hi0 hz0 hz1 hz2 rfl (by decide) _ _ _ rfl (F2.out.alloc _) ⟨wi.heap.size, 0, none⟩ 1 1 [.slice xo d xc] rfl rfl (one_new _ _ _) (one_slice _ _ _) ?c3 ?c4 ?c5 ?_))
          case c3 => unfold maxLen; omega
          case c4 => omega
          case c5 => first | exact hszr | omega | (simp; omega)
          intro v' w7 ho7 hg7 _
          have HF7 : Hid (Rws w5.heap.size 22 3 w7 v' (M2 ++ [m.getD x []])) := Rws.push (e2 := 22) (e1 := 3) (m := M2) (u := .slice xo d xc) (zs := m.getD x []) (by decide) F1.out (F2.out.alloc _) (fun i hi => (F3.out i hi).alloc _) (HSX.out.alloc _) ho7 hg7
          have HB7 : Hid (Below w5.heap.size w5 w7) := (HBI.out.alloc hszr _).grown hg7 (by simp; omega) (fun x hx => (F2.out.lt x hx).1)
          have HR7 : Hid (Rp d p (M2 ++ [m.getD x []])) := fun r hr => by
            rcases List.mem_append.1 hr with hr | hr
            · exact HR2.out r hr
            · have : r = m.getD x [] := by simpa using hr
              rw [this]
              exact HRX.out
          clear ho7 hg7
          go_wp2
          exact ⟨⟨i + 1, _, by omega, by go_num, by rw [List.length_append, List.length_singleton, HM2.out], HPN.out.symm, HR7.out, HF7.out, HB7.out⟩, by simp [intOf]; omega⟩
        · have hie : i = L.length := by omega
          subst hie
          have HHG : Hid (Calls Tryd.prog 22 #[.int .i64 p, u8] wi fun e w' => e = .returned (.bool (dpB p d M2)) ∧ Below wi.heap.size wi w') := hangs_is p d w5.heap.size hp hd1 hd M2 u8 wi (by have := HM2.out; omega) HR2.out HF2.out HBI.out.size
          have HFV : Hid (fvE p d m k = !dpB p d M2) := by
            show _ = _
            unfold fvE
            rw [HPK.out, List.take_length, HLE.out]
          generalize dpB p d M2 = b at *
          go_wp2_with fail
          refine HHG.out.mono ?_
          rintro e w3 ⟨rfl, hb3⟩
          have HX3 : Hid (Below wa.heap.size wa w3) := HBWI.out.trans (hb3.mono HBWI.out.size)
          have HB3 : Hid (Below W.heap.size W w3) := HB.out.trans (HX3.out.mono HB.out.size)
          have HO3 : Hid (w3.ownsRow W.heap.size 3 1 u5 xs.length (ints xs)) := by
            refine ⟨HO.out.1, ?_⟩
            rcases HO.out.2 with h1 | ⟨g, cap, cur, e1, h2, h3, h4⟩
            · exact .inl h1
            · exact .inr ⟨g, cap, cur, e1, h2, (HX3.out.block g (Array.getElem?_eq_some_iff.1 h3).1).trans h3, h4⟩
          clear hb3
          have hszr : W.heap.size ≤ w3.heap.size := HB3.out.size
          cases b
          · go_wp2_with (first | (at_builtin; refine wpList_append_own _ rfl _ _ 22 rfl W.heap.size 3 i3 (.int .i64 0) 1 8 Tryd.underlying22 hi3 hz30 hz31 hz32 rfl (by decide) _ _ _ rfl (HO3.out.alloc _) ⟨w3.heap.size, 0, none⟩ 1 1 [.int .i64 k] rfl rfl (one_new _ _ _) (one_int _) ?c3 ?c4 ?c5 ?_))
            case c3 => unfold maxLen; omega
            case c4 => omega
            case c5 => first | exact hszr | omega | (simp; omega)
            intro v' w7 ho5 hg5 _
            have R1 : Hid (w7.ownsRow W.heap.size 3 1 v' (xs ++ [(k : Int)]).length (ints (xs ++ [(k : Int)]))) := by
              have e2 : ints (xs ++ [(k : Int)]) = ints xs ++ [.int .i64 (k : Int)] := by simp [ints]
              show World.ownsRow _ _ _ _ _ _ _
              rw [e2, List.length_append, List.length_singleton]
              exact ho5
            have R2 : Hid (Below W.heap.size W w7) := (HB3.out.alloc hszr _).grown hg5 (by simp; omega) (fun x hx => (HO3.out.lt x hx).1)
            have R3 : Hid (xs ++ [(k : Int)] = setsTo (fvE p d m) (k + 1)) := by
              show _ = _
              rw [HZS.out, HFV.out, HZ.out]; rfl
            clear ho5 hg5
            go_wp2
            exact ⟨⟨k + 1, _, by omega, by go_num, R1.out, by rw [List.length_append, List.length_singleton]; omega, R3.out, R2.out⟩, by simp [intOf]; omega⟩
          · have R3 : Hid (xs = setsTo (fvE p d m) (k + 1)) := by
              show _ = _
              rw [HZS.out, HFV.out, HZ.out]; simp
            go_wp2
            exact ⟨⟨k + 1, xs, by omega, by go_num, HO3.out, by omega, R3.out, HB3.out⟩, by simp [intOf]; omega⟩
    · have hke : tn = k := by omega
      subst hke
      obtain ⟨go, gc, hu⟩ := owns_form HO.out
      subst hu
      have HGR : Hid (Calls Tryd.prog 21 #[.int .i64 m.length, .slice go xs.length gc] wa fun e w' => ∃ u, e = .returned (.agg #[.int .i64 m.length, u]) ∧ Sl 0 3 w' u (ints (greL xs)) ∧ Below wa.heap.size wa w') := greatest_is m.length xs _ wa ((Sl.own (B := 0) HO.out).more (Nat.zero_le _)) (by omega) (by rw [HZ.out]; exact setsTo_b9 _ _ (by omega))
      have HYS : Hid (greL xs = greL (setsTo (fvE p d m) (2 ^ m.length))) := by rw [HZ.out]; exact HGB.out
      rw [HYS.out] at HGR
      generalize hys : greL (setsTo (fvE p d m) (2 ^ m.length)) = ys at *
      have HYE : Hid (greL (setsTo (fvE p d m) (2 ^ m.length)) = ys) := hys
      clear hys
      go_wp2_with fail
      refine HGR.out.mono ?_
      rintro e w3 ⟨u, rfl, hs3, hb3⟩
      have HS3 : Hid (Sl 0 3 w3 u (ints ys)) := hs3
      have hres : w3.heap[w.heap.size]? = some (.cells #[.int .i64 0, .slice none 0 0] 25 (0, 0)) := by
        have h1 := HB.out.size
        have h2 := HWS.out
        exact ((hb3.block _ (by omega)).trans (HB.out.block _ (by omega))).trans HR0.out
      have r0 : w3.cell? ⟨w.heap.size, 0, none⟩ = some (.int .i64 0) := by simp [World.cell?, hres]
      have r1 : w3.cell? ⟨w.heap.size, 1, none⟩ = some (.slice none 0 0) := by simp [World.cell?, hres]
      have rf0 : w3.frozen? ⟨w.heap.size, 0, none⟩ = false := by simp [World.frozen?, hres]
      have rf1 : w3.frozen? ⟨w.heap.size, 1, none⟩ = false := by simp [World.frozen?, hres]
      obtain ⟨yo, yc, hyv, _, _⟩ := sl_open hs3
      subst hyv
      have HB3 : Hid (Below w.heap.size w w3) := HBW.out.trans (hb3.mono HBW.out.size)
      have HTY : Hid (w3.heap[w.heap.size]? = some (.cells #[.int .i64 0, .slice none 0 0] 25 (0, 0))) := hres
      have HBX : Hid (Below w.heap.size w ((w3.setCell ⟨w.heap.size, 0, none⟩ (.int .i64 m.length)).setCell ⟨w.heap.size, 1, none⟩ (.slice yo ys.length yc))) := (HB3.out.setCell (by simp) _).setCell (by simp) _
      have HSX : Hid (Sl 0 3 ((w3.setCell ⟨w.heap.size, 0, none⟩ (.int .i64 m.length)).setCell ⟨w.heap.size, 1, none⟩ (.slice yo ys.length yc)) (.slice yo ys.length yc) (ints ys)) := by
        refine HS3.out.move fun b hb ht => ?_
        rcases ht with ht | ⟨cur, ht⟩
        · omega
        · have hne : b ≠ w.heap.size := fun e => by
            rw [e, HTY.out] at ht
            simp at ht
          exact ⟨(Below.heap_setCell _ _ _ _ (by show b ≠ w.heap.size; exact hne)).trans (Below.heap_setCell _ _ _ _ (by show b ≠ w.heap.size; exact hne)), .inr ⟨cur, ht⟩⟩
      clear hs3 hb3 hres
      go_wp2
      exact bodyPost_ret (v := .agg #[.int .i64 m.length, .slice yo ys.length yc]) (by simp [results, Tryd.results12, go_sem, *]) rfl ⟨_, rfl, by first | exact HSX.out | (rw [HYE.out]; exact HSX.out), HBX.out⟩

end Go.Proofs.YtkndimmcndfnnaaDoor
