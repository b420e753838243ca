/- facetref.OrdersOf. -/
import Derived.Test.YtcmemhdlendlkaaDoorDc2
import Derived.Test.YtcmemhdlendlkaaDoorOr0
import Derived.Test.YtcmemhdlendlkaaDoorSh3
import Derived.Test.YtcmemhdlendlkaaDoorTkA
import Derived.Laws.AppendOwnNone
namespace Go.Proofs.YtcmemhdlendlkaaDoor
open Go.RowKit
attribute [local go_sem ↓] Go.wp_at_zero Go.wp_at_succ

theorem getD_app_left {α : Type} {l m : List α} {i : Nat} (d : α) (h : i < l.length) : (l ++ m).getD i d = l.getD i d := by
  simp only [List.getD_eq_getElem?_getD]; rw [List.getElem?_append_left h]

theorem getD_app_right {α : Type} {l m : List α} {i : Nat} (d : α) (h : l.length ≤ i) : (l ++ m).getD i d = m.getD (i - l.length) d := by
  simp only [List.getD_eq_getElem?_getD]; rw [List.getElem?_append_right h]

/-- Rows of another list behind. -/
theorem Fr.app {B : Nat} {w w' : World} {v v' : Value} {m m2 : List (List Int)} {vs vs2 : List Value}
    (h1 : vs.length = m.length) (h2 : w.ownsRow B 27 1 v m.length vs) (h3 : ∀ i, i < m.length → Sl 0 3 w (vs.getD i (.slice none 0 0)) (ints (m.getD i [])))
    (k1 : vs2.length = m2.length) (k3 : ∀ i, i < m2.length → Sl 0 3 w (vs2.getD i (.slice none 0 0)) (ints (m2.getD i [])))
    (ho : w'.ownsRow B 27 1 v' (m.length + m2.length) (vs ++ vs2)) (hg : w.grownBy w' v.ownBlock) : Fr B 27 3 w' v' (m ++ m2) := by
  have ht : ∀ k, v.ownBlock = some k → 0 ≤ k ∧ ∀ cur, w.heap[k]? ≠ some (.cells cur 3 (0, 0)) := fun k hk => ⟨Nat.zero_le _, (owns_typed h2 (by decide) k hk).2⟩
  refine ⟨vs ++ vs2, by simp [h1, k1], by simpa using ho, fun i hi => ?_⟩
  by_cases hlt : i < m.length
  · rw [getD_app_left _ (by omega), getD_app_left _ hlt]
    exact (h3 i hlt).grown hg ht
  · rw [List.length_append] at hi
    rw [getD_app_right _ (by omega), getD_app_right _ (by omega), h1]
    exact (k3 _ (by omega)).grown hg ht

theorem owns_one (w : World) (B : Nat) (u : Value) (t : TypeId) (hB : B ≤ w.heap.size) : (w.alloc (.cells #[u] t)).ownsRow B t 1 (.slice (some ⟨w.heap.size, 0, none⟩) 1 1) 1 [u] :=
  ⟨rfl, .inr ⟨w.heap.size, 1, #[u], rfl, hB, heap_alloc_new w _, Nat.le_refl _, by decide, rfl, rfl⟩⟩

theorem sl_slice1 {B : Nat} {e : TypeId} {w : World} {v : Value} {xs : List Value} (h : Sl B e w v xs) : v.oneCell' = true := by
  obtain ⟨ao, cap, rfl, _⟩ := h
  rfl

set_option maxRecDepth 100000 in
set_option maxHeartbeats 800000 in
theorem ordersOf_full (n : Nat) (f : Nat → Nat) (v hv : Value) (h : List Int) (W : World) (hu : Sl W.heap.size 3 W v (ints (upL n f))) (hh : Sl W.heap.size 3 W hv (ints h)) (hl : h.length = n) (hn : n ≤ 6) :
    Calls Tryd.prog 6 #[v, hv] W fun e w' => ∃ x, e = .returned x ∧ Fr W.heap.size 27 3 w' x [h] ∧ Below W.heap.size W w' := by
  have HCP := copy_any W.heap.size h hv W hh (by omega)
  obtain ⟨uo, uc, hvv, hlc, hcm⟩ := sl_open hu
  rw [upL_len] at hvv hlc
  subst hvv
  obtain ⟨ho, hc, hvv2, hcap2, hcm2⟩ := sl_open hh
  subst hvv2
  rw [hl] at HCP hcap2
  rw [hl]
  have HLE : Hid (h.length = n) := hl
  clear hu hh hl
  go_enter Tryd.func6, Tryd.ntmps6
  go_wp2_with fail
  refine HCP.mono ?_
  rintro e w2 ⟨u, rfl, ho2, hb2⟩
  obtain ⟨xo, xc, hxv⟩ := owns_form ho2
  subst hxv
  have HF : Hid (Fr W.heap.size 27 3 (w2.alloc (.cells #[.slice xo n xc] 27)) (.slice (some ⟨w2.heap.size, 0, none⟩) 1 1) [h]) := ⟨[.slice xo n xc], rfl, owns_one w2 _ _ _ hb2.size, fun i hi => by
    have : i = 0 := by simp at hi; omega
    subst this
    exact (Sl.own ho2).alloc _⟩
  have HB : Hid (Below W.heap.size W (w2.alloc (.cells #[.slice xo n xc] 27))) := hb2.alloc hb2.size _
  clear ho2 hb2 HCP
  go_wp2
  go_ret
  exact ⟨_, rfl, HF.out, HB.out⟩

set_option maxRecDepth 100000 in
set_option maxHeartbeats 3200000 in
theorem ordersOf_any (n : Nat) (f : Nat → Nat) (hf : ∀ i, i < n → f i < 64) (hn1 : 1 ≤ n) (hn : n ≤ 6) (v : Value) (w : World) (hu : Sl w.heap.size 3 w v (ints (upL n f))) : ∀ (t : Nat) (h : List Int) (hv : Value) (W : World), h.length + t = n → (∀ x ∈ h, ∃ u : Nat, x = (u : Int) ∧ u < n) → Below w.heap.size w W → Sl W.heap.size 3 W hv (ints h) →
    Calls Tryd.prog 6 #[v, hv] W fun e w' => ∃ x, e = .returned x ∧ Fr W.heap.size 27 3 w' x (odF n f t h) ∧ (odF n f t h).length ≤ 6 ^ t ∧ Below W.heap.size W w'
  | 0, h, hv, W, hl, _, hb, hh => (ordersOf_full n f v hv h W ((hu.below hb (Nat.le_refl _)).any (Nat.le_refl _)) hh (by omega) hn).mono (by
      rintro e w' ⟨x, h1, h2, h3⟩
      exact ⟨x, h1, h2, by simp [odF], h3⟩)
  | t + 1, h, hv, W, hl, hbd, hb, hh => by
    obtain ⟨i3, hi3, hz30, hz31, hz32⟩ := info_parts Tryd.info3
    obtain ⟨i0, hi0, hz0, hz1, hz2⟩ := info_parts infoSl
    obtain ⟨ub, uo, uc, hvv, hcap, -⟩ := sl_cell hu (k := 0) (by rw [upL_len]; omega)
    rw [upL_len] at hvv hcap
    have HREC : Hid (∀ (x : Nat) (u : Value) (W2 : World), x < n → Below w.heap.size w W2 → Sl W2.heap.size 3 W2 u (ints (h ++ [(x : Int)])) → Calls Tryd.prog 6 #[.slice (some ⟨ub, uo, none⟩) n uc, u] W2 fun e w' => ∃ y, e = .returned y ∧ Fr W2.heap.size 27 3 w' y (odF n f t (h ++ [(x : Int)])) ∧ (odF n f t (h ++ [(x : Int)])).length ≤ 6 ^ t ∧ Below W2.heap.size W2 w') := fun x u W2 hx h1 h2 => by
      have := ordersOf_any n f hf hn1 hn v w hu t (h ++ [(x : Int)]) u W2 (by rw [List.length_append, List.length_singleton]; omega) (fun y hy => by
        rcases List.mem_append.1 hy with hy | hy
        · exact hbd y hy
        · rw [List.mem_singleton] at hy
          exact ⟨x, hy, hx⟩) h1 h2
      rw [hvv] at this
      exact this
    subst hvv
    have HUC : Hid (∀ i, i < n → w.cell? ⟨ub, uo + i, none⟩ = some (.int .i64 ((f i : Nat) : Int))) := fun i hi => by
      obtain ⟨b2, o2, c2, hs, _, hc⟩ := sl_cell hu (k := i) (by rw [upL_len]; exact hi)
      simp only [Value.slice.injEq, Option.some.injEq, Addr.mk.injEq, and_true] at hs
      obtain ⟨⟨rfl, rfl⟩, -, rfl⟩ := hs
      rw [upL_at f hi] at hc
      exact hc
    obtain ⟨ho, hc, hvv2, hcap2, hcm⟩ := sl_open hh
    subst hvv2
    have HCP : Hid (∀ W2, Below W.heap.size W W2 → Calls Tryd.prog 24 #[.slice ho h.length hc] W2 fun e w' => ∃ u, e = .returned u ∧ w'.ownsRow W2.heap.size 3 1 u h.length (ints h) ∧ Below W2.heap.size W2 w') := fun W2 h2 => copy_any W.heap.size h _ W2 (hh.below h2 (Nat.le_refl _)) (by omega)
    have HIN : Hid (∀ (x : Nat) W2, Below W.heap.size W W2 → Calls Tryd.prog 25 #[.int .i64 (x : Int), .slice ho h.length hc] W2 fun e w' => e = .returned (.bool (h.contains (x : Int))) ∧ Below W2.heap.size W2 w') := fun x W2 h2 => (inR_any W.heap.size (x : Int) h _ W2 (hh.below h2 (Nat.le_refl _))).mono (by
      rintro e w' ⟨h1, m, rfl⟩
      exact ⟨h1, bel_drewN (Below.refl _ _) m⟩)
    have HHC : Hid (∀ j, j < h.length → ∃ (u : Nat) (hb2 ho2 : Nat), u < n ∧ ho = some ⟨hb2, ho2, none⟩ ∧ h.getD j 0 = (u : Int) ∧ W.cell? ⟨hb2, ho2 + j, none⟩ = some (.int .i64 (u : Int))) := fun j hj => by
      obtain ⟨b2, o2, c2, hs, _, hcc⟩ := sl_cell hh (k := j) hj
      simp only [Value.slice.injEq, true_and] at hs
      obtain ⟨rfl, rfl⟩ := hs
      obtain ⟨u, hu1, hu2⟩ := hbd (h.getD j 0) (by simp [hj])
      rw [hu1] at hcc
      exact ⟨u, b2, o2, hu2, rfl, hu1, hcc⟩
    have HBW : Hid (Below w.heap.size w W) := hb
    have HFX : Hid (∀ i, i < n → f i < 64) := hf
    have HO : Hid (odF n f (t + 1) h = (List.range n).flatMap fun x => if odB f h x then odF n f t (h ++ [(x : Int)]) else []) := rfl
    rw [HO.out]
    have HF1 : Hid (∀ x, (List.range (x + 1)).flatMap (fun x => if odB f h x then odF n f t (h ++ [(x : Int)]) else []) = (List.range x).flatMap (fun x => if odB f h x then odF n f t (h ++ [(x : Int)]) else []) ++ if odB f h x then odF n f t (h ++ [(x : Int)]) else []) := fun x => by
      rw [List.range_succ, List.flatMap_append]
      simp
    have HOB : Hid (∀ x, odB f h x = (!h.contains (x : Int) && h.all fun y => !(f x).testBit y.toNat)) := fun _ => rfl
    have hp : 6 ^ t ≤ 7776 := Nat.le_trans (Nat.pow_le_pow_right (by omega) (by omega : t ≤ 5)) (by decide)
    have hlt0 : ((h.length : Int) == (n : Int)) = false := by rw [beq_eq_false_iff_ne]; omega
    have hln : h.length < n := by omega
    have hq : 6 ^ (t + 1) = 6 * 6 ^ t := by rw [Nat.pow_succ, Nat.mul_comm]
    rw [hq]
    generalize 6 ^ t = q at *
    clear hh hb hu hl hbd HO hq hf
    obtain ⟨OD, hOD⟩ : ∃ OD : Nat → List (List Int), OD = fun x => (List.range x).flatMap (fun x => if odB f h x then odF n f t (h ++ [(x : Int)]) else []) := ⟨_, rfl⟩
    have eOD : (List.range n).flatMap (fun x => if odB f h x then odF n f t (h ++ [(x : Int)]) else []) = OD n := by rw [hOD]
    rw [eOD]
    have HOD0 : Hid (OD 0 = []) := by rw [hOD]; rfl
    have HOD1 : Hid (∀ x, OD (x + 1) = OD x ++ if odB f h x then odF n f t (h ++ [(x : Int)]) else []) := by rw [hOD]; exact HF1.out
    clear eOD hOD HF1
    have HE0 := HOD0.out
    go_enter Tryd.func6, Tryd.ntmps6
    go_wp2
    go_loopw [6, 7] (fun lv xv wr => ∃ x : Nat, x ≤ n ∧ xv = .int .i64 (x : Int) ∧ Fr W.heap.size 27 3 wr lv (OD x) ∧ (OD x).length ≤ x * q ∧ Below W.heap.size W wr) (fun _ xv _ => n - (intOf xv).toNat)
    case atStart => exact ⟨0, Nat.zero_le _, rfl, by rw [HE0]; exact Fr.nil _ _ _ _, by rw [HE0]; simp, Below.refl _ _⟩
    case round =>
      obtain ⟨x, hx, rfl, hfr, hln2, hbr⟩ := hrel
      have HBR : Hid (Below W.heap.size W wr) := hbr
      have HFR : Hid (Fr W.heap.size 27 3 wr u6 (OD x)) := hfr
      have HLN2 : Hid ((OD x).length ≤ x * q) := hln2
      clear hbr hfr hln2 HE0 HOD0
      by_cases hlt : x < n
      · have xI : (x : Int) < (n : Int) := by omega
        have xI0 : (0 : Int) ≤ (x : Int) := by omega
        have HINX := HIN.out x wr HBR.out
        have HOBX := HOB.out x
        have HODX := HOD1.out x
        rw [HOBX] at HODX
        have HFXX := HFX.out x hlt
        have HUX := HUC.out x hlt
        have HRECX : Hid (∀ (u : Value) (W2 : World), Below w.heap.size w W2 → Sl W2.heap.size 3 W2 u (ints (h ++ [(x : Int)])) → Calls Tryd.prog 6 #[.slice (some ⟨ub, uo, none⟩) n uc, u] W2 fun e w' => ∃ y, e = .returned y ∧ Fr W2.heap.size 27 3 w' y (odF n f t (h ++ [(x : Int)])) ∧ (odF n f t (h ++ [(x : Int)])).length ≤ q ∧ Below W2.heap.size W2 w') := fun u W2 h1 h2 => HREC.out x u W2 hlt h1 h2
        have HODY : Hid (OD (x + 1) = OD x ++ if (!h.contains (x : Int) && h.all fun y => !(f x).testBit y.toNat) then odF n f t (h ++ [(x : Int)]) else []) := HODX
        clear HOBX HODX
        generalize odF n f t (h ++ [(x : Int)]) = SUB at *
        generalize h.contains (x : Int) = cb at *
        generalize f x = fx at *
        go_wp2_with fail
        refine HINX.mono ?_
        rintro e w2 ⟨rfl, hb2⟩
        have HB2 : Hid (Below W.heap.size W w2) := HBR.out.trans (hb2.mono HBR.out.size)
        have HFR2 : Hid (Fr W.heap.size 27 3 w2 u6 (OD x)) := HFR.out.below hb2 (Nat.le_refl _)
        clear hb2 HBR HFR HINX
        go_wp2
        go_loopw [8, 9] (fun ov jv wq => ∃ j : Nat, j ≤ h.length ∧ jv = .int .i64 (j : Int) ∧ ov = .bool (!cb && (h.take j).all fun y => !fx.testBit y.toNat) ∧ Below w2.heap.size w2 wq) (fun _ jv _ => h.length - (intOf jv).toNat)
        case atStart => exact ⟨0, Nat.zero_le _, rfl, by simp, Below.refl _ _⟩
        case round =>
          obtain ⟨j, hj, rfl, rfl, hbq⟩ := hrel
          rename World => wq
          have HBQ : Hid (Below w2.heap.size w2 wq) := hbq
          clear hbq
          by_cases hlj : j < h.length
          · obtain ⟨y, hb3, ho3, hyn, rfl, hy, hcc⟩ := HHC.out j hlj
            have HN1 : Hid ((!cb && (h.take (j + 1)).all fun y => !fx.testBit y.toNat) = ((!cb && (h.take j).all fun y => !fx.testBit y.toNat) && !fx.testBit y)) := by
              show _ = _
              rw [take_snoc_int h j hlj, List.all_append, hy, Bool.and_assoc]
              simp
            have HBW2 : Below W.heap.size W wq := HB2.out.trans (HBQ.out.mono HB2.out.size)
            have c1 : wq.cell? ⟨hb3, ho3 + j, none⟩ = some (.int .i64 (y : Int)) := (HBW2.cell (lt_of_cell hcc)).trans hcc
            have c2 : wq.cell? ⟨ub, uo + x, none⟩ = some (.int .i64 (fx : Int)) := ((HBW.out.trans (HBW2.mono HBW.out.size)).cell (lt_of_cell HUX)).trans HUX
            have eb := bitq_tab fx HFXX y (by omega)
            generalize (!cb && (h.take j).all fun y => !fx.testBit y.toNat) = ob at *
            generalize fx.testBit y = pb at *
            have jI : (j : Int) < (h.length : Int) := by omega
            have jI0 : (0 : Int) ≤ (j : Int) := by omega
            have yI0 : (0 : Int) ≤ (y : Int) := by omega
            clear hcc HBW2
            cases ob
            · have HN2 : Hid ((!cb && (h.take (j + 1)).all fun y => !fx.testBit y.toNat) = false) := HN1.out.trans (by simp)
              clear HN1 eb
              go_wp2
              refine wp_region_held_drew (S := fun w' => True) (by kernel_rfl) trivial (fun hHeld => ?_)
              refine wpAnyH_tk (i := 0) (d := 34) (v := (.bool false)) rfl rfl (by kernel_rfl) (by kernel_rfl) (by kernel_rfl) (fun _ _ _ h => h) (.inl ⟨by rfl, by (intro wq hSw; (try dsimp only at hSw); go_simp; (try (first | rfl | omega)))⟩) hHeld ?_
              simp only [Act.put, List.setIfInBounds_toArray, List.set_cons_zero, List.set_cons_succ]
              refine wpAnyH_tk (i := 1) (d := 35) (v := (.bool false)) rfl rfl (by kernel_rfl) (by kernel_rfl) (by kernel_rfl) (fun _ _ _ h => h) (.inl ⟨by rfl, by (intro wq hSw; (try dsimp only at hSw); go_simp; (try (first | rfl | omega)))⟩) hHeld ?_
              simp only [Act.put, List.setIfInBounds_toArray, List.set_cons_zero, List.set_cons_succ]
              refine wpAnyH_tk (i := 2) (d := 36) (v := undef) rfl rfl (by kernel_rfl) (by kernel_rfl) (by kernel_rfl) (fun _ _ _ h => h) (.inr ⟨by rfl, rfl⟩) hHeld ?_
              simp only [Act.put, List.setIfInBounds_toArray, List.set_cons_zero, List.set_cons_succ]
              refine wpAnyH_tk (i := 3) (d := 37) (v := undef) rfl rfl (by kernel_rfl) (by kernel_rfl) (by kernel_rfl) (fun _ _ _ h => h) (.inr ⟨by rfl, rfl⟩) hHeld ?_
              simp only [Act.put, List.setIfInBounds_toArray, List.set_cons_zero, List.set_cons_succ]
              refine wpAnyH_tk (i := 4) (d := 38) (v := undef) rfl rfl (by kernel_rfl) (by kernel_rfl) (by kernel_rfl) (fun _ _ _ h => h) (.inr ⟨by rfl, rfl⟩) hHeld ?_
              simp only [Act.put, List.setIfInBounds_toArray, List.set_cons_zero, List.set_cons_succ]
              refine wpAnyH_tk (i := 5) (d := 39) (v := undef) rfl rfl (by kernel_rfl) (by kernel_rfl) (by kernel_rfl) (fun _ _ _ h => h) (.inr ⟨by rfl, rfl⟩) hHeld ?_
              simp only [Act.put, List.setIfInBounds_toArray, List.set_cons_zero, List.set_cons_succ]
              refine wpAnyH_tk (i := 6) (d := 40) (v := undef) rfl rfl (by kernel_rfl) (by kernel_rfl) (by kernel_rfl) (fun _ _ _ h => h) (.inr ⟨by rfl, rfl⟩) hHeld ?_
              simp only [Act.put, List.setIfInBounds_toArray, List.set_cons_zero, List.set_cons_succ]
              refine wpAnyH_tk (i := 7) (d := 41) (v := undef) rfl rfl (by kernel_rfl) (by kernel_rfl) (by kernel_rfl) (fun _ _ _ h => h) (.inr ⟨by rfl, rfl⟩) hHeld ?_
              simp only [Act.put, List.setIfInBounds_toArray, List.set_cons_zero, List.set_cons_succ]
              refine wpAnyH_tk (i := 8) (d := 42) (v := undef) rfl rfl (by kernel_rfl) (by kernel_rfl) (by kernel_rfl) (fun _ _ _ h => h) (.inr ⟨by rfl, rfl⟩) hHeld ?_
              simp only [Act.put, List.setIfInBounds_toArray, List.set_cons_zero, List.set_cons_succ]
              refine wpAnyH_tk (i := 9) (d := 43) (v := undef) rfl rfl (by kernel_rfl) (by kernel_rfl) (by kernel_rfl) (fun _ _ _ h => h) (.inr ⟨by rfl, rfl⟩) hHeld ?_
              simp only [Act.put, List.setIfInBounds_toArray, List.set_cons_zero, List.set_cons_succ]
              refine wpAnyH_tk (i := 10) (d := 44) (v := undef) rfl rfl (by kernel_rfl) (by kernel_rfl) (by kernel_rfl) (fun _ _ _ h => h) (.inr ⟨by rfl, rfl⟩) hHeld ?_
              simp only [Act.put, List.setIfInBounds_toArray, List.set_cons_zero, List.set_cons_succ]
              refine wpAnyH_tk (i := 11) (d := 45) (v := undef) rfl rfl (by kernel_rfl) (by kernel_rfl) (by kernel_rfl) (fun _ _ _ h => h) (.inr ⟨by rfl, rfl⟩) hHeld ?_
              simp only [Act.put, List.setIfInBounds_toArray, List.set_cons_zero, List.set_cons_succ]
              refine wpAnyH_tk (i := 12) (d := 46) (v := undef) rfl rfl (by kernel_rfl) (by kernel_rfl) (by kernel_rfl) (fun _ _ _ h => h) (.inr ⟨by rfl, rfl⟩) hHeld ?_
              simp only [Act.put, List.setIfInBounds_toArray, List.set_cons_zero, List.set_cons_succ]
              refine wpAnyH_tk (i := 13) (d := 47) (v := (.bool false)) rfl rfl (by kernel_rfl) (by kernel_rfl) (by kernel_rfl) (fun _ _ _ h => h) (.inl ⟨by rfl, by (intro wq hSw; (try dsimp only at hSw); go_simp; (try (first | rfl | omega)))⟩) hHeld ?_
              simp only [Act.put, List.setIfInBounds_toArray, List.set_cons_zero, List.set_cons_succ]
              refine wpAnyH_tk (i := 14) (d := 8) (v := (.bool false)) rfl rfl (by kernel_rfl) (by kernel_rfl) (by kernel_rfl) (fun _ _ _ h => h) (.inl ⟨by rfl, by (intro wq hSw; (try dsimp only at hSw); go_simp; (try (first | rfl | omega)))⟩) hHeld ?_
              simp only [Act.put, List.setIfInBounds_toArray, List.set_cons_zero, List.set_cons_succ]
              refine wpAnyH_done (by kernel_rfl) ?_ _
              clear hHeld
              go_wp2
              go_roundw
              case rel => exact ⟨j + 1, by omega, by go_num, by rw [HN2.out], HBQ.out.trans ⟨rfl, rfl, rfl, Nat.le_refl _, fun _ _ => rfl⟩⟩
              case measure => simp [intOf]; omega
            · have HN2 : Hid ((!cb && (h.take (j + 1)).all fun y => !fx.testBit y.toNat) = !pb) := HN1.out.trans (by simp)
              obtain ⟨zq, hzq⟩ : ∃ zq, (fx : Int) / 2 ^ y = zq := ⟨_, rfl⟩
              rw [hzq] at eb
              have eb2 : (zq.tmod 2 == 0) = !pb := by
                rw [eb]
                cases pb <;> rfl
              obtain ⟨zr, hzr⟩ : ∃ zr, zq.tmod 2 = zr := ⟨_, rfl⟩
              rw [hzr] at eb2
              clear HN1 eb
              go_wp2
              refine wp_region_held_drew (S := fun w' => w'.cell? ⟨hb3, ho3 + j, none⟩ = some (.int .i64 (y : Int)) ∧ w'.cell? ⟨ub, uo + x, none⟩ = some (.int .i64 (fx : Int))) (by kernel_rfl) ⟨c1, c2⟩ (fun hHeld => ?_)
              refine wpAnyH_tk (i := 0) (d := 34) (v := (.bool true)) rfl rfl (by kernel_rfl) (by kernel_rfl) (by kernel_rfl) (fun _ _ _ h => h) (.inl ⟨by rfl, by (intro wq hSw; (try dsimp only at hSw); go_simp; (try (first | rfl | omega)))⟩) hHeld ?_
              simp only [Act.put, List.setIfInBounds_toArray, List.set_cons_zero, List.set_cons_succ]
              refine wpAnyH_tk (i := 1) (d := 35) (v := (.bool true)) rfl rfl (by kernel_rfl) (by kernel_rfl) (by kernel_rfl) (fun _ _ _ h => h) (.inl ⟨by rfl, by (intro wq hSw; (try dsimp only at hSw); go_simp; (try (first | rfl | omega)))⟩) hHeld ?_
              simp only [Act.put, List.setIfInBounds_toArray, List.set_cons_zero, List.set_cons_succ]
              refine wpAnyH_tk (i := 2) (d := 36) (v := (.slice (some ⟨ub, uo, none⟩) n uc)) rfl rfl (by kernel_rfl) (by kernel_rfl) (by kernel_rfl) (fun _ _ _ h => h) (.inl ⟨by rfl, by (intro wq hSw; (try dsimp only at hSw); go_simp; (try (first | rfl | omega)))⟩) hHeld ?_
              simp only [Act.put, List.setIfInBounds_toArray, List.set_cons_zero, List.set_cons_succ]
              refine wpAnyH_tk (i := 3) (d := 37) (v := (.int .i64 (x : Int))) rfl rfl (by kernel_rfl) (by kernel_rfl) (by kernel_rfl) (fun _ _ _ h => h) (.inl ⟨by rfl, by (intro wq hSw; (try dsimp only at hSw); go_simp; (try (first | rfl | omega)))⟩) hHeld ?_
              simp only [Act.put, List.setIfInBounds_toArray, List.set_cons_zero, List.set_cons_succ]
              refine wpAnyH_tk (i := 4) (d := 38) (v := (.pointer (some ⟨ub, uo + x, none⟩))) rfl rfl (by kernel_rfl) (by kernel_rfl) (by kernel_rfl) (fun _ _ _ h => h) (.inl ⟨by rfl, by (intro wq hSw; (try dsimp only at hSw); go_simp; (try (first | rfl | omega)))⟩) hHeld ?_
              simp only [Act.put, List.setIfInBounds_toArray, List.set_cons_zero, List.set_cons_succ]
              refine wpAnyH_tk (i := 5) (d := 39) (v := (.int .i64 (fx : Int))) rfl rfl (by kernel_rfl) (by kernel_rfl) (by kernel_rfl) (fun _ _ _ h => h) (.inl ⟨by rfl, by (intro wq hSw; (try dsimp only at hSw); go_simp; (try (first | rfl | omega)))⟩) hHeld ?_
              simp only [Act.put, List.setIfInBounds_toArray, List.set_cons_zero, List.set_cons_succ]
              refine wpAnyH_tk (i := 6) (d := 40) (v := (.slice (some ⟨hb3, ho3, none⟩) h.length hc)) rfl rfl (by kernel_rfl) (by kernel_rfl) (by kernel_rfl) (fun _ _ _ h => h) (.inl ⟨by rfl, by (intro wq hSw; (try dsimp only at hSw); go_simp; (try (first | rfl | omega)))⟩) hHeld ?_
              simp only [Act.put, List.setIfInBounds_toArray, List.set_cons_zero, List.set_cons_succ]
              refine wpAnyH_tk (i := 7) (d := 41) (v := (.int .i64 (j : Int))) rfl rfl (by kernel_rfl) (by kernel_rfl) (by kernel_rfl) (fun _ _ _ h => h) (.inl ⟨by rfl, by (intro wq hSw; (try dsimp only at hSw); go_simp; (try (first | rfl | omega)))⟩) hHeld ?_
              simp only [Act.put, List.setIfInBounds_toArray, List.set_cons_zero, List.set_cons_succ]
              refine wpAnyH_tk (i := 8) (d := 42) (v := (.pointer (some ⟨hb3, ho3 + j, none⟩))) rfl rfl (by kernel_rfl) (by kernel_rfl) (by kernel_rfl) (fun _ _ _ h => h) (.inl ⟨by rfl, by (intro wq hSw; (try dsimp only at hSw); go_simp; (try (first | rfl | omega)))⟩) hHeld ?_
              simp only [Act.put, List.setIfInBounds_toArray, List.set_cons_zero, List.set_cons_succ]
              refine wpAnyH_tk (i := 9) (d := 43) (v := (.int .i64 (y : Int))) rfl rfl (by kernel_rfl) (by kernel_rfl) (by kernel_rfl) (fun _ _ _ h => h) (.inl ⟨by rfl, by (intro wq hSw; (try dsimp only at hSw); go_simp; (try (first | rfl | omega)))⟩) hHeld ?_
              simp only [Act.put, List.setIfInBounds_toArray, List.set_cons_zero, List.set_cons_succ]
              refine wpAnyH_tk (i := 10) (d := 44) (v := (.int .i64 zq)) rfl rfl (by kernel_rfl) (by kernel_rfl) (by kernel_rfl) (fun _ _ _ h => h) (.inl ⟨by rfl, by (intro wq hSw; (try dsimp only at hSw); go_simp; (try (first | rfl | omega)))⟩) hHeld ?_
              simp only [Act.put, List.setIfInBounds_toArray, List.set_cons_zero, List.set_cons_succ]
              refine wpAnyH_tk (i := 11) (d := 45) (v := (.int .i64 zr)) rfl rfl (by kernel_rfl) (by kernel_rfl) (by kernel_rfl) (fun _ _ _ h => h) (.inl ⟨by rfl, by (intro wq hSw; (try dsimp only at hSw); go_simp; (try (first | rfl | omega)))⟩) hHeld ?_
              simp only [Act.put, List.setIfInBounds_toArray, List.set_cons_zero, List.set_cons_succ]
              refine wpAnyH_tk (i := 12) (d := 46) (v := (.bool (!pb))) rfl rfl (by kernel_rfl) (by kernel_rfl) (by kernel_rfl) (fun _ _ _ h => h) (.inl ⟨by rfl, by (intro wq hSw; (try dsimp only at hSw); go_simp; (try (first | rfl | omega)))⟩) hHeld ?_
              simp only [Act.put, List.setIfInBounds_toArray, List.set_cons_zero, List.set_cons_succ]
              refine wpAnyH_tk (i := 13) (d := 47) (v := (.bool (!pb))) rfl rfl (by kernel_rfl) (by kernel_rfl) (by kernel_rfl) (fun _ _ _ h => h) (.inl ⟨by rfl, by (intro wq hSw; (try dsimp only at hSw); go_simp; (try (first | rfl | omega)))⟩) hHeld ?_
              simp only [Act.put, List.setIfInBounds_toArray, List.set_cons_zero, List.set_cons_succ]
              refine wpAnyH_tk (i := 14) (d := 8) (v := (.bool (!pb))) rfl rfl (by kernel_rfl) (by kernel_rfl) (by kernel_rfl) (fun _ _ _ h => h) (.inl ⟨by rfl, by (intro wq hSw; (try dsimp only at hSw); go_simp; (try (first | rfl | omega)))⟩) hHeld ?_
              simp only [Act.put, List.setIfInBounds_toArray, List.set_cons_zero, List.set_cons_succ]
              refine wpAnyH_done (by kernel_rfl) ?_ _
              clear hHeld hzq hzr eb2
              go_wp2
              go_roundw
              case rel => exact ⟨j + 1, by omega, by go_num, by rw [HN2.out], HBQ.out.trans ⟨rfl, rfl, rfl, Nat.le_refl _, fun _ _ => rfl⟩⟩
              case measure => simp [intOf]; omega
          · have hje : j = h.length := by omega
            subst hje
            rw [List.take_length]
            have HB4 : Hid (Below W.heap.size W wq) := HB2.out.trans (HBQ.out.mono HB2.out.size)
            have HFR4 : Hid (Fr W.heap.size 27 3 wq u6 (OD x)) := HFR2.out.below HBQ.out (Nat.le_refl _)
            clear HBQ HFR2 hlj hj
            generalize (!cb && h.all fun y => !fx.testBit y.toNat) = ob at *
            cases ob
            · have HOE : Hid (OD (x + 1) = OD x) := HODY.out.trans (by simp)
              have HFR5 : Hid (Fr W.heap.size 27 3 wq u6 (OD (x + 1))) := by rw [HOE.out]; exact HFR4.out
              have HLN5 : Hid ((OD (x + 1)).length ≤ (x + 1) * q) := by
                show _ ≤ _
                rw [HOE.out, Nat.add_mul]
                exact Nat.le_trans HLN2.out (by omega)
              go_wp2
              go_roundw
              case rel => exact ⟨x + 1, by omega, by go_num, HFR5.out, HLN5.out, HB4.out⟩
              case measure => simp [intOf]; omega
            · have HOE : Hid (OD (x + 1) = OD x ++ SUB) := HODY.out.trans (by simp)
              have HCX := HCP.out wq HB4.out
              go_wp2_with fail
              refine HCX.mono ?_
              rintro e w5 ⟨u, rfl, ho5, hb5⟩
              obtain ⟨xo, xc, hxv⟩ := owns_form ho5
              subst hxv
              have HO5 : Hid (w5.ownsRow wq.heap.size 3 1 (.slice xo h.length xc) h.length (ints h)) := ho5
              have HB5 : Hid (Below wq.heap.size wq w5) := hb5
              have hsz5 : wq.heap.size ≤ w5.heap.size := hb5.size
              clear ho5 hb5 HCX
              go_wp2_with (first | (at_builtin; refine wpList_append_own _ rfl _ _ 27 rfl wq.heap.size 3 i3 (.int .i64 0) 1 8 Tryd.underlying27 hi3 hz30 hz31 hz32 rfl (by decide) _ _ _ rfl (HO5.out.alloc _) ⟨w5.heap.size, 0, none⟩ 1 1 [.int .i64 (x : Int)] rfl rfl (one_new _ _ _) (one_int _) ?c3 ?c4 ?c5 ?_))
              case c3 => unfold maxLen; omega
              case c4 => omega
              case c5 => first | exact hsz5 | omega | (simp; omega)
              intro v2 w6 ho hg _
              have RR := owns_push (z := (x : Int)) (N := h.length + 1) hsz5 (l := h) HO5.out HB5.out ho hg rfl
              have HB6 : Hid (Below W.heap.size W w6) := HB4.out.trans (RR.2.mono HB4.out.size)
              have HFR6 : Hid (Fr W.heap.size 27 3 w6 u6 (OD x)) := HFR4.out.below RR.2 (Nat.le_refl _)
              have HRX := HRECX.out v2 w6 (HBW.out.trans (HB6.out.mono HBW.out.size)) (Sl.own (by rw [show h.length + 1 = (h ++ [(x : Int)]).length by simp] at RR; exact RR.1))
              obtain ⟨vo, vc, hv2⟩ := owns_form ho
              subst hv2
              clear ho hg RR HO5 HB5 HFR4 HB4
              go_wp2_with fail
              refine HRX.mono ?_
              rintro e w7 ⟨y, rfl, hfy, hly, hb7⟩
              obtain ⟨vs, g1, g2, g3⟩ := HFR6.out.below hb7 (Nat.le_refl _)
              obtain ⟨vs2, k1, k2, k3⟩ := hfy
              have HB7 : Hid (Below W.heap.size W w7) := HB6.out.trans (hb7.mono HB6.out.size)
              have hsz7 : W.heap.size ≤ w7.heap.size := HB7.out.size
              have HLN5 : Hid ((OD (x + 1)).length ≤ (x + 1) * q) := by
                show _ ≤ _
                rw [HOE.out, List.length_append, Nat.add_mul]
                have := HLN2.out
                omega
              have hxq : x * q ≤ 6 * 7776 := Nat.mul_le_mul (by omega) hp
              have hodl : (OD x).length ≤ 46656 := by have := HLN2.out; omega
              have hsul : SUB.length ≤ 7776 := by omega
              have G1 : Hid (vs.length = (OD x).length) := g1
              have G2 : Hid (w7.ownsRow W.heap.size 27 1 u6 (OD x).length vs) := g2
              have G3 : Hid (∀ i, i < (OD x).length → Sl 0 3 w7 (vs.getD i (.slice none 0 0)) (ints ((OD x).getD i []))) := g3
              have K1 : Hid (vs2.length = SUB.length) := k1
              have K3 : Hid (∀ i, i < SUB.length → Sl 0 3 w7 (vs2.getD i (.slice none 0 0)) (ints (SUB.getD i []))) := k3
              have HOC : Hid (∀ u ∈ vs2, u.oneCell' = true) := fun u hu => by
                obtain ⟨i, hi, rfl⟩ := List.getElem_of_mem hu
                have := k3 i (by omega)
                have e2 : vs2.getD i (.slice none 0 0) = vs2[i] := by simp [hi]
                rw [e2] at this
                exact sl_slice1 this
              clear HRX hb7 HB6 HFR6 g1 g2 g3 k1 k3 hly
              rcases k2.2 with ⟨hy, h0⟩ | ⟨gg, gc, cur, hy, f2, f3, f4, f5, f6, f7⟩
              · subst hy
                have hS0 : SUB = [] := List.eq_nil_of_length_eq_zero h0
                have R1 : Hid (Fr W.heap.size 27 3 w7 u6 (OD (x + 1))) := by
                  show Fr _ _ _ _ _ _
                  rw [HOE.out, hS0, List.append_nil]
                  exact ⟨vs, G1.out, G2.out, G3.out⟩
                clear k2 h0 hS0
                go_wp2_with (first | (at_builtin; refine wpList_append_own_none rfl _ _ 28 rfl W.heap.size 27 i0 1 Tryd.underlying28 hi0 _ _ _ rfl G2.out rfl ?_))
                go_wp2
                go_roundw
                case rel => exact ⟨x + 1, by omega, by go_num, R1.out, HLN5.out, HB7.out⟩
                case measure => simp [intOf]; omega
              · subst hy
                have HCE : Hid (∀ j u, vs2[j]? = some u → w7.cell? ((⟨gg, 0, none⟩ : Addr).add j) = some u) := fun j u hj => by
                  have hj2 := (List.getElem?_eq_some_iff.1 hj).1
                  rw [K1.out] at hj2
                  rw [← f7, List.getElem?_take_of_lt (by omega), Array.getElem?_toList] at hj
                  have ha : (⟨gg, 0, none⟩ : Addr).add j = ⟨gg, j, none⟩ := by
                    by_cases e : j = 0
                    · subst e; simp [Addr.add]
                    · simp [Addr.add, e]
                  rw [ha]
                  simp [World.cell?, f3, hj]
                have HK1 : Hid (vs2.length = SUB.length * 1) := by show _ = _; rw [K1.out]; omega
                clear k2 f3 f7 f6
                obtain ⟨uo6, uc6, hu6⟩ := owns_form G2.out
                subst hu6
                go_wp2_with (first | (at_builtin; refine wpList_append_own _ rfl _ _ 28 rfl W.heap.size 27 i0 (.slice none 0 0) 1 24 Tryd.underlying28 hi0 hz0 hz1 hz2 rfl (by decide) _ _ _ rfl G2.out ⟨gg, 0, none⟩ SUB.length gc vs2 rfl HK1.out HCE.out HOC.out ?d3 ?d4 ?d5 ?_))
                case d3 => unfold maxLen; omega
                case d4 => omega
                case d5 => first | exact hsz7 | omega
                intro v' w8 ho8 hg8 _
                have R1 : Hid (Fr W.heap.size 27 3 w8 v' (OD (x + 1))) := by
                  show Fr _ _ _ _ _ _
                  rw [HOE.out]
                  exact Fr.app G1.out G2.out G3.out K1.out K3.out ho8 hg8
                have R2 : Hid (Below W.heap.size W w8) := HB7.out.grown hg8 hsz7 (fun z hz => (G2.out.lt z hz).1)
                clear ho8 hg8
                go_wp2
                go_roundw
                case rel => exact ⟨x + 1, by omega, by go_num, R1.out, HLN5.out, R2.out⟩
                case measure => simp [intOf]; omega
      · have hxe : n = x := by omega
        subst hxe
        have HLE : Hid ((OD n).length ≤ 6 * q) := Nat.le_trans HLN2.out (Nat.mul_le_mul_right _ hn)
        clear hlt hx
        go_wp2
        go_ret
        exact ⟨_, rfl, HFR.out, HLE.out, HBR.out⟩

end Go.Proofs.YtcmemhdlendlkaaDoor
