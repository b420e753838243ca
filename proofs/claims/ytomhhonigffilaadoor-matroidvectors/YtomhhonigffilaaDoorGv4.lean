/- choose.Picked over rows; matroid.Vectors's closure; setsThat over it. -/
import Derived.Test.YtomhhonigffilaaDoorGv3
import Derived.Test.YtomhhonigffilaaDoorMt8
import Derived.Test.YtomhhonigffilaaDoorMs0
import Derived.Test.YtomhhonigffilaaDoorTk1
import Derived.Laws.EntriesVeiled
namespace Go.Proofs.YtomhhonigffilaaDoor
open Go.RowKit
attribute [local go_sem ↓] Go.wp_at_zero Go.wp_at_succ

/-- The rows of a choice. -/
def pkV (m : List (List Int)) (x : List Int) : List (List Int) := x.map fun z => m.getD z.toNat []

theorem pkV_len (m : List (List Int)) (x : List Int) : (pkV m x).length = x.length := by simp [pkV]

theorem pkV_rp {d p : Nat} {m : List (List Int)} {x : List Int} (h : Rp d p m) (hx : ∀ i, i < x.length → 0 ≤ x.getD i 0 ∧ x.getD i 0 < m.length) : Rp d p (pkV m x) := fun r hr => by
  obtain ⟨z, hz, rfl⟩ := List.mem_map.1 hr
  obtain ⟨i, hi, rfl⟩ := List.getElem_of_mem hz
  have := hx i hi
  rw [show x.getD i 0 = x[i] by simp [hi]] at this
  exact h _ (by simp [show x[i].toNat < m.length by omega])

theorem take_snocV (x : List Int) (k : Nat) (h : k < x.length) : x.take (k + 1) = x.take k ++ [x.getD k 0] := by
  rw [List.take_succ_eq_append_getElem h]; simp [h]

set_option maxRecDepth 100000 in
set_option maxHeartbeats 800000 in
theorem pickedV_any (B : Nat) (m : List (List Int)) (x : List Int) (v u : Value) (w : World) (hv : Mat B 26 3 w v m) (hB : B ≤ w.heap.size) (hu : Sl w.heap.size 3 w u (ints x)) (hx : ∀ i, i < x.length → 0 ≤ x.getD i 0 ∧ x.getD i 0 < m.length) (hl : x.length ≤ 1000) :
    Calls Tryd.prog 17 #[v, u] w fun e w' => ∃ z, e = .returned z ∧ Rws w.heap.size 26 3 w' z (pkV m x) ∧ Below w.heap.size w w' := by
  obtain ⟨i0, hi0, hz0, hz1, hz2⟩ := info_parts infoRow
  obtain ⟨ao, cap, hvv, hlc, hcm⟩ := mat_open hv
  obtain ⟨bo, cbp, huu, hlb, hcb⟩ := sl_open hu
  subst hvv huu
  have HV : Hid (Mat w.heap.size 26 3 w (.slice ao m.length cap) m) := hv.more hB
  have HU : Hid (Sl w.heap.size 3 w (.slice bo x.length cbp) (ints x)) := hu
  have HX : Hid (∀ i, i < x.length → 0 ≤ x.getD i 0 ∧ x.getD i 0 < m.length) := hx
  clear hv hu hx
  have hmk : (Instr.makeSlice 22 (.int .i64 0) (.int .i64 (x.length : Int))).run Tryd.prog w = .ok (.slice (some ⟨w.heap.size, 0, none⟩) 0 x.length) (w.alloc (.cells (madeCells #[.slice none 0 0] (x.length * 1)) 26)) := by
    have := run_make (P := Tryd.prog) w 22 26 i0 (.slice none 0 0) Tryd.underlying22 hi0 hz0 .i64 .i64 0 x.length (by omega) (by omega) (by rw [hz2]; omega) (by omega)
    rw [hz1, show (Value.slice none 0 0).cells = #[.slice none 0 0] from rfl] at this
    simpa using this
  obtain ⟨wA, hW⟩ : ∃ wA, wA = w.alloc (.cells (madeCells #[.slice none 0 0] (x.length * 1)) 26) := ⟨_, rfl⟩
  have HO0 : Hid (Rws w.heap.size 26 3 wA (.slice (some ⟨w.heap.size, 0, none⟩) 0 x.length) []) := by
    rw [hW]
    refine ⟨[], rfl, World.ownsRow_made w _ x.length (Nat.le_refl _) (by unfold maxLen; omega) (by rw [size_madeCells]), fun i hi => by simp at hi⟩
  have HB0 : Hid (Below w.heap.size w wA) := by rw [hW]; exact (Below.refl _ _).alloc (Nat.le_refl _) _
  rw [← hW] at hmk
  clear hW
  go_enter Tryd.func17, Tryd.ntmps17
  go_wp2
  go_loopw [5, 13] (fun s i wr => ∃ k : Nat, k ≤ x.length ∧ i = .int .i64 k ∧ Rws w.heap.size 26 3 wr s (pkV m (x.take k)) ∧ Below w.heap.size w wr) (fun _ i _ => x.length - (intOf i).toNat)
  case atStart => exact ⟨0, Nat.zero_le _, rfl, HO0.out, HB0.out⟩
  case round =>
    obtain ⟨k, hk, rfl, hr, hb⟩ := hrel
    have HR : Hid (Rws w.heap.size 26 3 wr u5 (pkV m (x.take k))) := hr
    have HB : Hid (Below w.heap.size w wr) := hb
    have hsz : w.heap.size ≤ wr.heap.size := hb.size
    clear hr hb HO0 HB0
    by_cases hlt : k < x.length
    · obtain ⟨b, o, cp, hs, hc1, hcc⟩ := sl_cell (HU.out.below HB.out (Nat.le_refl _)) hlt
      simp only [Value.slice.injEq] at hs
      obtain ⟨rfl, _, rfl⟩ := hs
      obtain ⟨hx0, hx1⟩ := HX.out k hlt
      have HSN : Hid (pkV m (x.take (k + 1)) = pkV m (x.take k) ++ [m.getD (x.getD k 0).toNat []]) := by
        show _ = _
        unfold pkV
        rw [take_snocV x k hlt, List.map_append]; rfl
      have HLN : Hid ((pkV m (x.take k)).length = k) := by show _ = _; rw [pkV_len, List.length_take]; omega
      obtain ⟨q, hq⟩ : ∃ q : Nat, x.getD k 0 = (q : Int) := ⟨(x.getD k 0).toNat, by omega⟩
      rw [hq] at hcc hx0 hx1 HSN
      rw [show ((q : Int)).toNat = q by omega] at HSN
      clear hq
      have hqP : q < m.length := by omega
      obtain ⟨b2, o2, cp2, r2, hs2, _, hcc2, hr2⟩ := mat_cell (HV.out.below HB.out (Nat.le_refl _)) hqP
      simp only [Value.slice.injEq, true_and] at hs2
      obtain ⟨rfl, rfl⟩ := hs2
      obtain ⟨ro, rc, hrv, _, _⟩ := sl_open hr2
      subst hrv
      have HR2 : Hid (Sl w.heap.size 3 wr (.slice ro (m.getD q []).length rc) (ints (m.getD q []))) := hr2
      clear hr2
      generalize m.getD q [] = y at *
      generalize hyl : y.length = yl at *
      clear hyl
      obtain ⟨vs, g1, g2, g3⟩ := HR.out
      have hlen := HLN.out
      rw [hlen] at g1 g2 g3
      have G1 : Hid (vs.length = k) := g1
      have G2 : Hid (wr.ownsRow w.heap.size 26 1 u5 k vs) := g2
      have G3 : Hid (∀ i, i < k → Sl w.heap.size 3 wr (vs.getD i (.slice none 0 0)) (ints ((pkV m (x.take k)).getD i []))) := g3
      clear g1 g2 g3 hlen
      go_wp2_with (first | (at_builtin; refine wpList_append_own _ rfl _ _ 22 rfl w.heap.size 26 i0 (.slice none 0 0) 1 24 Tryd.underlying22 hi0 hz0 hz1 hz2 rfl (by decide) _ _ _ rfl (G2.out.alloc _) ⟨wr.heap.size, 0, none⟩ 1 1 [.slice ro yl rc] rfl rfl (one_new _ _ _) (one_slice _ _ _) ?d3 ?d4 ?d5 ?_))
      case d3 => unfold maxLen; omega
      case d4 => omega
      case d5 => first | exact hsz | (simp; omega)
      intro v' w3 ho hg _
      have R1 : Hid (Rws w.heap.size 26 3 w3 v' (pkV m (x.take (k + 1)))) := by
        have hp := Rws.push (e2 := 26) (e1 := 3) (m := pkV m (x.take k)) (u := .slice ro yl rc) (zs := y) (by decide) (by rw [HLN.out]; exact G1.out) (by rw [HLN.out]; exact G2.out.alloc _)
          (fun i hi => (G3.out i (by rw [HLN.out] at hi; exact hi)).alloc _) (HR2.out.alloc _) (by rw [HLN.out]; exact ho) hg
        rw [← HSN.out] at hp
        exact hp
      have R2 : Hid (Below w.heap.size w w3) := (HB.out.alloc hsz _).grown hg (by simp; omega) (fun x hx => (G2.out.lt x hx).1)
      clear ho hg
      go_wp2
      exact ⟨⟨k + 1, by omega, by go_num, R1.out, R2.out⟩, by simp [intOf]; omega⟩
    · have hke : x.take k = x := List.take_of_length_le (by omega)
      have HR' : Hid (Rws w.heap.size 26 3 wr u5 (pkV m x)) := by have := HR.out; rw [hke] at this; exact this
      clear HR
      go_wp2
      go_ret
      exact ⟨_, rfl, HR'.out, HB.out⟩

theorem mem8_pl {s m : Nat} (hs : s < 2 ^ m) : ∀ i, i < (mem8 s).length → 0 ≤ (mem8 s).getD i 0 ∧ (mem8 s).getD i 0 < m := fun i hi => by
  have hz : (mem8 s).getD i 0 ∈ mem8 s := by simp [hi]
  obtain ⟨k, _, h2, h3⟩ := mem8_iff.1 hz
  have := bit_lt hs h2
  omega

/-- Do the rows of a set stand alone? -/
noncomputable def fvE (p : Int) (d : Nat) (m : List (List Int)) (s : Nat) : Bool := !dpB p d (pkV m (mem8 s))

set_option maxRecDepth 100000 in
set_option maxHeartbeats 800000 in
theorem vectors1_any (B p d s : Nat) (hp : p = 2 ∨ p = 3 ∨ p = 5 ∨ p = 7) (hd1 : 1 ≤ d) (hd : d ≤ 8) (m : List (List Int)) (v : Value) (b1 b2 : Nat) (w : World) (he : Mat B 26 3 w v m) (hB : B ≤ w.heap.size) (hr : Rp d p m) (hs : s < 2 ^ m.length) (hm : m.length ≤ 8) (hT : TabB w)
    (h1 : w.cell? ⟨b1, 0, none⟩ = some (.int .i64 p)) (h2 : w.cell? ⟨b2, 0, none⟩ = some v) :
    Calls Tryd.prog 15 #[.int .u64 s, .pointer (some ⟨b1, 0, none⟩), .pointer (some ⟨b2, 0, none⟩)] w fun e w' => e = .returned (.bool (fvE p d m s)) ∧ Below w.heap.size w w' := by
  have hs8 : s < 256 := Nat.lt_of_lt_of_le hs (show 2 ^ m.length ≤ 2 ^ 8 from Nat.pow_le_pow_right (by omega) hm)
  have HCC : Hid (∀ W', Below w.heap.size w W' → W'.cell? ⟨b1, 0, none⟩ = some (.int .i64 p) ∧ W'.cell? ⟨b2, 0, none⟩ = some v) := fun W' h => ⟨(h.cell (lt_of_cell h1)).trans h1, (h.cell (lt_of_cell h2)).trans h2⟩
  have HLI : Hid (∀ W', Below w.heap.size w W' → Calls Tryd.prog 18 #[.int .u64 s] W' fun e w' => ∃ u, e = .returned u ∧ w'.ownsRow W'.heap.size 3 1 u (mem8 s).length (ints (mem8 s)) ∧ Below W'.heap.size W' w') := fun W' h => list8_any s hs8 W' (hT.below h)
  have HPK : Hid (∀ W' u, Below w.heap.size w W' → Sl W'.heap.size 3 W' u (ints (mem8 s)) → Calls Tryd.prog 17 #[v, u] W' fun e w' => ∃ z, e = .returned z ∧ Rws W'.heap.size 26 3 w' z (pkV m (mem8 s)) ∧ Below W'.heap.size W' w') := fun W' u h hu =>
    pickedV_any B m (mem8 s) v u W' (he.below h (Nat.le_refl _)) (Nat.le_trans hB h.size) hu (mem8_pl hs) (by have := mem8_len s; omega)
  have HIF : Hid (∀ W' B' z, Mat B' 26 3 W' z (pkV m (mem8 s)) → Calls Tryd.prog 16 #[.int .i64 p, z] W' fun e w' => e = .returned (.bool (fvE p d m s)) ∧ Below W'.heap.size W' w') := fun W' B' z h =>
    standAlone_any p d B' hp hd1 hd (pkV m (mem8 s)) z W' (by rw [pkV_len]; have := mem8_len s; omega) (pkV_rp hr (mem8_pl hs)) h
  obtain ⟨po, ec, hvv, _, _⟩ := mat_open he
  subst hvv
  generalize fvE p d m s = fb at *
  clear hT hs hr hp
  go_enter Tryd.func15, Tryd.ntmps15
  go_wp2
  refine wp_region_held_drew (S := fun w' => w'.cell? ⟨b1, 0, none⟩ = some (.int .i64 p) ∧ w'.cell? ⟨b2, 0, none⟩ = some (.slice po m.length ec)) (by kernel_rfl) ⟨h1, h2⟩ (fun hHeld => ?_)
  refine wpAnyH_tk (i := 0) (d := 5) (v := (.int .i64 p)) rfl rfl (by kernel_rfl) (by kernel_rfl) (by kernel_rfl) (fun _ _ _ h => h) (.inl ⟨by rfl, by (intro wq hSw; (try dsimp only at hSw); go_simp; (try (first | rfl | omega)))⟩) hHeld ?_
  simp only [Act.put, List.setIfInBounds_toArray, List.set_cons_zero, List.set_cons_succ]
  refine wpAnyH_tk (i := 1) (d := 6) (v := (.slice po m.length ec)) rfl rfl (by kernel_rfl) (by kernel_rfl) (by kernel_rfl) (fun _ _ _ h => h) (.inl ⟨by rfl, by (intro wq hSw; (try dsimp only at hSw); go_simp; (try (first | rfl | omega)))⟩) hHeld ?_
  simp only [Act.put, List.setIfInBounds_toArray, List.set_cons_zero, List.set_cons_succ]
  refine wpAnyH_tk (i := 2) (d := 7) (v := (.int .u64 s)) rfl rfl (by kernel_rfl) (by kernel_rfl) (by kernel_rfl) (fun _ _ _ h => h) (.inl ⟨by rfl, by (intro wq hSw; (try dsimp only at hSw); go_simp; (try (first | rfl | omega)))⟩) hHeld ?_
  simp only [Act.put, List.setIfInBounds_toArray, List.set_cons_zero, List.set_cons_succ]
  refine wpAnyH_ready (rs := [3]) (by kernel_rfl) (by simp) ?_
  refine ready_tk (i := 3) rfl (by rfl) (fun K hK => ?_) AllReadyH.nil
  go_simp
  have HBD : Hid (Below w.heap.size w w.drew) := Below.drew (Below.refl _ _)
  refine (HLI.out _ HBD.out).mono ?_
  rintro e w3 ⟨u, rfl, hu, hb3⟩
  have HB3 : Hid (Below w.heap.size w w3) := HBD.out.trans (hb3.mono HBD.out.size)
  have HU : Hid (Sl w3.heap.size 3 w3 u (ints (mem8 s))) := (Sl.own (B := 0) hu).more (Nat.zero_le _)
  obtain ⟨uo, uc, huu⟩ := owns_form hu
  subst huu
  clear hb3 hu
  refine hK.out _ _ (HCC.out w3 HB3.out) (fun hHeld => ?_)
  clear hK K
  refine wpAnyH_ready (rs := [4]) (by kernel_rfl) (by simp) ?_
  refine ready_tk (i := 4) rfl (by rfl) (fun K hK => ?_) AllReadyH.nil
  go_simp
  refine (HPK.out _ _ HB3.out HU.out).mono ?_
  rintro e w4 ⟨z, rfl, hz, hb4⟩
  have HB4 : Hid (Below w.heap.size w w4) := HB3.out.trans (hb4.mono HB3.out.size)
  have HZ : Hid (Mat w3.heap.size 26 3 w4 z (pkV m (mem8 s))) := hz.mat (Nat.le_refl _)
  obtain ⟨zo, zc, hzz, _, _⟩ := mat_open HZ.out
  subst hzz
  clear hb4
  refine hK.out _ _ (HCC.out w4 HB4.out) (fun hHeld => ?_)
  clear hK K
  refine wpAnyH_ready (rs := [5]) (by kernel_rfl) (by simp) ?_
  refine ready_tk (i := 5) rfl (by rfl) (fun K hK => ?_) AllReadyH.nil
  go_simp
  refine (HIF.out _ _ _ HZ.out).mono ?_
  rintro e w5 ⟨rfl, hb5⟩
  have HB5 : Hid (Below w.heap.size w w5) := HB4.out.trans (hb5.mono HB4.out.size)
  clear hb5
  refine hK.out _ _ (HCC.out w5 HB5.out) (fun hHeld => ?_)
  clear hK K
  refine wpAnyH_tk (i := 6) (d := 4) (v := (.bool fb)) rfl rfl (by kernel_rfl) (by kernel_rfl) (by kernel_rfl) (fun _ _ _ h => h) (.inl ⟨by rfl, by (intro wq hSw; (try dsimp only at hSw); go_simp; (try (first | rfl | omega)))⟩) hHeld ?_
  simp only [Act.put, List.setIfInBounds_toArray, List.set_cons_zero, List.set_cons_succ]
  refine wpAnyH_done (by kernel_rfl) ?_ _
  clear hHeld
  go_wp2
  go_ret
  exact ⟨rfl, HB5.out⟩

set_option maxRecDepth 100000 in
set_option maxHeartbeats 800000 in
theorem setsV1_any (n : Nat) (p : Nat → Bool) (b1 b2 : Nat) (w : World) (hn : n ≤ 8)
    (hc : ∀ s : Nat, s < 2 ^ n → ∀ W', Below w.heap.size w W' → Calls Tryd.prog 15 #[.int .u64 s, .pointer (some ⟨b1, 0, none⟩), .pointer (some ⟨b2, 0, none⟩)] W' fun e w' => e = .returned (.bool (p s)) ∧ Below W'.heap.size W' w') :
    Calls Tryd.prog 31 #[.int .i64 n, .func (.func 15) #[] #[.pointer (some ⟨b1, 0, none⟩), .pointer (some ⟨b2, 0, none⟩)]] w fun e w' => ∃ u, e = .returned u ∧ w'.ownsRow w.heap.size 3 1 u (setsTo p (2 ^ n)).length (ints (setsTo p (2 ^ n))) ∧ Below w.heap.size w w' := by
  obtain ⟨i3, hi3, hz30, hz31, hz32⟩ := info_parts Tryd.info3
  obtain ⟨tn, htn⟩ : ∃ tn : Nat, tn = 2 ^ n := ⟨_, rfl⟩
  have hti : (2 : Int) ^ n = (tn : Int) := by rw [htn]; simp
  have htl : tn ≤ 256 := by rw [htn]; exact show 2 ^ n ≤ 2 ^ 8 from Nat.pow_le_pow_right (by omega) hn
  have hwt : IntKind.i64.wrap (tn : Int) = (tn : Int) := wrap_small (by omega)
  rw [← htn] at hc ⊢
  have HIL : Hid (∀ s : Nat, s < tn → ∀ W', Below w.heap.size w W' → Calls Tryd.prog 15 #[.int .u64 s, .pointer (some ⟨b1, 0, none⟩), .pointer (some ⟨b2, 0, none⟩)] W' fun e w' => e = .returned (.bool (p s)) ∧ Below W'.heap.size W' w') := hc
  clear hc htn
  go_enter Tryd.func31, Tryd.ntmps31
  go_wp2
  go_loopw [5, 6, 9] (fun gv _ x wr => ∃ k : Nat, k ≤ tn ∧ x = .int .i64 k ∧ wr.ownsRow w.heap.size 3 1 gv (setsTo p k).length (ints (setsTo p k)) ∧ Below w.heap.size w wr) (fun _ _ x _ => tn - (intOf x).toNat)
  case atStart => exact ⟨0, Nat.zero_le _, rfl, World.ownsRow_nil _ _ _ _, Below.refl _ _⟩
  case round =>
    obtain ⟨k, hk, rfl, ho, hbr⟩ := hrel
    have HO : Hid (wr.ownsRow w.heap.size 3 1 u5 (setsTo p k).length (ints (setsTo p k))) := ho
    have HBR : Hid (Below w.heap.size w wr) := hbr
    have hsz : w.heap.size ≤ wr.heap.size := hbr.size
    have hkl := setsTo_len p k
    clear ho hbr
    by_cases hlt : k < tn
    · have kI : (k : Int) < (tn : Int) := by omega
      have qk : IntKind.u64.wrap (k : Int) = (k : Int) := by rw [IntKind.wrap_u64]; omega
      have HIX : Hid (Calls Tryd.prog 15 #[.int .u64 k, .pointer (some ⟨b1, 0, none⟩), .pointer (some ⟨b2, 0, none⟩)] wr fun e w' => e = .returned (.bool (p k)) ∧ Below wr.heap.size wr w') := HIL.out k (by omega) wr HBR.out
      have HSS : Hid (setsTo p (k + 1) = setsTo p k ++ (if p k = true then [(k : Int)] else [])) := setsTo_succ p k
      generalize p k = fb at *
      generalize setsTo p k = L at *
      obtain ⟨xo, xc, hxv⟩ := owns_form HO.out
      subst hxv
      go_wp2_with fail
      refine HIX.out.mono ?_
      rintro e w2 ⟨rfl, hb2⟩
      have HO2 : Hid (w2.ownsRow w.heap.size 3 1 (.slice xo L.length xc) L.length (ints L)) := owns_below HO.out hb2 (Nat.le_refl _)
      have HB2 : Hid (Below w.heap.size w w2) := HBR.out.trans (hb2.mono hsz)
      have hsz2 : w.heap.size ≤ w2.heap.size := HB2.out.size
      clear hb2 HO HBR
      cases fb
      · have HS2 : Hid (setsTo p (k + 1) = L) := by show _ = _; rw [HSS.out]; simp
        clear HSS
        go_wp2
        go_roundw
        case rel => exact ⟨k + 1, by omega, by go_num, by rw [HS2.out]; exact HO2.out, HB2.out⟩
        case measure => simp [intOf]; omega
      · have HS2 : Hid (setsTo p (k + 1) = L ++ [(k : Int)]) := by show _ = _; rw [HSS.out]; simp
        clear HSS
        go_wp2_with (first | (at_builtin; refine wpList_append_own _ rfl _ _ 26 rfl w.heap.size 3 i3 (.int .i64 0) 1 8 Tryd.underlying26 hi3 hz30 hz31 hz32 rfl (by decide) _ _ _ rfl (HO2.out.alloc _) ⟨w2.heap.size, 0, none⟩ 1 1 [.int .i64 k] rfl rfl (one_new _ _ _) (one_int _) ?c3 ?c4 ?c5 ?_))
        case c3 => unfold maxLen; omega
        case c4 => omega
        case c5 => first | exact hsz2 | (simp; omega)
        intro v' w7 ho hg _
        have R := owns_push (z := (k : Int)) (N := L.length + 1) hsz2 (l := L) HO2.out HB2.out ho hg rfl
        have R1 : Hid (w7.ownsRow w.heap.size 3 1 v' (setsTo p (k + 1)).length (ints (setsTo p (k + 1)))) := by
          have h := R.1
          show World.ownsRow _ _ _ _ _ _ _
          rw [HS2.out, List.length_append, List.length_singleton]
          exact h
        have R2 : Hid (Below w.heap.size w w7) := R.2
        clear R ho hg
        go_wp2
        go_roundw
        case rel => exact ⟨k + 1, by omega, by go_num, R1.out, R2.out⟩
        case measure => simp [intOf]; omega
    · have hke : tn = k := by omega
      subst hke
      go_wp2
      go_ret
      exact ⟨_, rfl, HO.out, HBR.out⟩

end Go.Proofs.YtomhhonigffilaaDoor
