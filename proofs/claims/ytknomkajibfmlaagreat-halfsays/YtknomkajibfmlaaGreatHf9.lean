/- half.corners: all places that rows allow at which as many rows meet as there are directions. -/
import Derived.Test.YtknomkajibfmlaaGreatMgAW
import Derived.Test.YtknomkajibfmlaaGreatMgAX
import Derived.Test.YtknomkajibfmlaaGreatMgAR
import Derived.Sort.CutIn
namespace Go.Proofs.YtknomkajibfmlaaGreat
open Go.RowKit Go.Shelf
attribute [local go_sem] Oper.semAt_some

/-- The place of a choice, if there is one. -/
def crC (d : Nat) (rows : List (List Int)) (c : List Int) : List (List Int) := if mtB d (pks rows [] c) = true ∧ inK rows d (mtL d (pks rows [] c)) = true then [mtL d (pks rows [] c)] else []
/-- The places of the choices so far. -/
def crL (d : Nat) (rows pre : List (List Int)) : List (List Int) := pre.flatMap (crC d rows)

theorem crL_snoc (d : Nat) (rows pre : List (List Int)) (c : List Int) : crL d rows (pre ++ [c]) = crL d rows pre ++ crC d rows c := by simp [crL]

theorem crL_len (d : Nat) (rows : List (List Int)) : ∀ pre, (crL d rows pre).length ≤ pre.length
  | [] => by simp [crL]
  | c :: pre => by
    have h := crL_len d rows pre
    have : (crC d rows c).length ≤ 1 := by unfold crC; split <;> simp
    simp only [crL, List.flatMap_cons, List.length_append, List.length_cons] at *
    omega

/-- Between the rounds. -/
structure CrI (w WN : World) (d : Nat) (P : List (List Int)) (S : Nat → Prop) (pre : List (List Int)) (W : World) : Prop where
  sn : ∀ b, S b → w.heap.size + 2 ≤ b
  kp : Kpt (fun b => b < w.heap.size + 1) WN W
  os : W.os = w.os
  tape : W.tape = w.tape
  output : W.output = w.output
  rv : ∃ v vs, W.heap[w.heap.size + 1]? = some (.cells #[v] 22 (0, 0)) ∧ FrO S (w.heap.size + 6) W v (crL d P pre) vs

theorem CrI.stab {w WN W W' : World} {d : Nat} {P : List (List Int)} {pre : List (List Int)} {S S' : Nat → Prop} (h : CrI w WN d P S pre W) (hN : w.heap.size + 2 ≤ WN.heap.size) (hc : Chg S W W') (hs : ∀ b, S' b → S b ∨ W.heap.size ≤ b) : CrI w WN d P S' pre W' := by
  have h0 := h.kp.size
  obtain ⟨v, vs, h1, h2⟩ := h.rv
  refine ⟨fun b hb => ?_, h.kp.trans (Kpt.of_chg hc fun i _ hi hsi => ?_), hc.os.trans h.os, hc.tape.trans h.tape, hc.output.trans h.output, v, vs, (hc.block _ (by omega) (fun hx => by have := h.sn _ hx; omega)).trans h1, h2.keep (fun b hb hn => hc.block b hb hn) hs⟩
  · rcases hs b hb with h1 | h1
    · exact h.sn b h1
    · omega
  · have := h.sn i hsi
    omega

theorem mat_keepC {B : Nat} {w W : World} {v : Value} {m : List (List Int)} (h : Mat B 38 3 w v m) (hk : ∀ b, b < w.heap.size → W.heap[b]? = w.heap[b]?) : Mat B 38 3 W v m := by
  obtain ⟨vs, h1, h2, h3⟩ := h
  exact ⟨vs, h1, h2.move fun b hl ht => ⟨hk b hl, ht⟩, fun i hi => (h3 i hi).move fun b hl ht => ⟨hk b hl, ht⟩⟩

theorem FrO.setC {S : Nat → Prop} {B b j : Nat} {t : TypeId} {w : World} {v u : Value} {m : List (List Int)} {vs : List Value} {cur : Array Value} (h : FrO S B w v m vs) (hb : b < B) (hR : w.heap[b]? = some (.cells cur t (0, 0))) (ht : t ≠ 3) : FrO S B (w.setCell ⟨b, j, none⟩ u) v m vs := by
  refine ⟨h.len, owns_set h.own hb, h.off, fun i hi => (h.sl i hi).setCell u ⟨Nat.zero_le _, fun cur' e => ?_⟩, h.so⟩
  have e' : w.heap[b]? = some (.cells cur' 3 (0, 0)) := e
  rw [hR] at e'
  simp at e'
  exact ht e'.2

theorem pks_lenC (P : List (List Int)) (c : List Int) : (pks P [] c).length = c.length := by simp [pks]

theorem pks_memC {P : List (List Int)} {c : List Int} (h : ∀ i, i < c.length → 0 ≤ c.getD i 0 ∧ c.getD i 0 < P.length) : ∀ x ∈ pks P [] c, x ∈ P := by
  intro x hx
  simp only [pks, List.mem_map] at hx
  obtain ⟨z, hz, rfl⟩ := hx
  obtain ⟨t, ht, rfl⟩ := List.getElem_of_mem hz
  have h1 := h t ht
  have e : c.getD t 0 = c[t] := by simp [ht]
  rw [e] at h1
  rw [List.getD_eq_getElem?_getD, List.getElem?_eq_getElem (by omega)]; exact List.getElem_mem _

theorem pks_mxC {d : Nat} {P t : List (List Int)} (hc : CutF d P) (h : ∀ x ∈ t, x ∈ P) : Mx (d + 1) 60 t :=
  ⟨fun r hr => hc.len r (h r hr), fun r hr z hz => by have := hc.bd r (h r hr) z hz; omega, by have := hc.d4; omega, by omega, by decide, Nat.le_trans (fb_mono (by decide) (show d + 1 ≤ 5 by have := hc.d4; omega)) (by decide)⟩

theorem mt_len {d : Nat} {t : List (List Int)} (hb : mtB d t = true) : (mtL d t).length = d + 1 := by
  have hnb : normB (d + 1) t = true := by unfold mtB at hb; rw [Bool.and_eq_true] at hb; exact hb.1
  exact ngR_len (mtP_len hnb)

theorem mt_bd {d : Nat} {t : List (List Int)} (hx : Mx (d + 1) 60 t) (hb : mtB d t = true) : ∀ z ∈ mtL d t, z.natAbs ≤ 1000000000000 := by
  have hnb : normB (d + 1) t = true := by unfold mtB at hb; rw [Bool.and_eq_true] at hb; exact hb.1
  have hP : ∀ z ∈ mtP d t, z.natAbs ≤ 1000000000000 := fun z hz => by
    unfold mtP at hz
    split at hz
    · obtain ⟨y, hy, rfl⟩ := List.mem_map.1 hz
      have := norm_bd hx y hy; omega
    · exact norm_bd hx z hz
  intro z hz
  unfold mtL ngR at hz
  rcases List.mem_append.1 hz with h1 | h1
  · exact hP z (List.mem_of_mem_take h1)
  · simp only [List.mem_singleton] at h1
    have := hP ((mtP d t).getD d 0) (getD_mem (by rw [mtP_len hnb]; omega))
    omega

set_option maxRecDepth 100000 in
set_option maxHeartbeats 8000000 in
theorem corners_any (d : Nat) (P : List (List Int)) (v : Value) (w : World) {B0 : Nat} (hv0 : Mat B0 38 3 w v P) (hok : CutF d P) :
    Calls Tryz.prog 30 #[.agg #[.int .i64 d, v]] w fun e w' => ∃ u m', e = .returned u ∧ Fr w.heap.size 38 3 w' u m' ∧ Inor m' (crL d P (ext P.length d 0)) ∧ Below w.heap.size w w' := by
  have hv : Mat w.heap.size 38 3 w v P := hv0.any (Nat.le_refl _)
  clear hv0
  obtain ⟨i0, hi0, hz0, hz1, hz2⟩ := info_parts Tryz.info38
  obtain ⟨po, pc, hvv, hlc, hcm⟩ := mat_open hv
  subst hvv
  have HV : Hid (Mat w.heap.size 38 3 w (.slice po P.length pc) P) := hv
  have HOK : Hid (CutF d P) := hok
  have h1 := hok.d1
  have h4 := hok.d4
  have h24 := hok.n12
  clear hv hok
  refine callsIn_wide (n := 0).1 ?_
  refine callsIn_of_wp_marks Tryz.func30 rfl trivial ?_ rfl
  simp only [Tryz.ntmps30, List.size_toArray, List.length_cons, List.length_nil, Nat.reduceAdd, Nat.reduceSub, Array.replicate_succ, Array.replicate_zero, List.push_toArray, List.append_toArray, List.nil_append, List.cons_append]
  gi_wp2_with (refine ⟨trivial, rfl, ?_⟩; gi_at_call 48; refine (callsIn_wide.2 (of_any _ _ _)).mono ?_; rintro e w' ⟨rfl, rfl⟩)
  obtain ⟨WN, hWN, n1, n2, n3, n4, hsN, hbN⟩ := fourB w (.cells #[.int .i64 d, .slice po P.length pc] 24) (.cells #[.slice none 0 0] 22) (.cells #[.int .i64 P.length] 3) (.cells #[.int .i64 d] 3)
  rw [← hWN]
  clear hWN
  have HSQ := of_seq P.length d (w.heap.size + 1 + 1 + 1) (w.heap.size + 1 + 1) WN (by omega) (by omega) (cell_of n4) (cell_of n3)
  have HSZ : Hid (WN.heap.size = w.heap.size + 4) := hsN
  have HI0 : Hid (CrI w WN d P (fun b => b = w.heap.size + 1 + 1 + 1 ∨ b = w.heap.size + 1 + 1) [] WN) := ⟨fun b hb => by omega, Kpt.refl _ _, hbN.os, hbN.tape, hbN.output, .slice none 0 0, [], n2, ⟨rfl, World.ownsRow_nil _ _ _ _, fun g hg => by simp [Value.ownBlock] at hg, fun i hi => absurd hi (by simp [crL]), fun i hi => absurd hi (by simp [crL])⟩⟩
  have HN1 : Hid (WN.heap[w.heap.size]? = some (.cells #[.int .i64 d, .slice po P.length pc] 24 (0, 0))) := n1
  have HBN : Hid (Below w.heap.size w WN) := hbN
  clear n1 n2 n3 n4 hbN
  refine range_s (R := Hand WN.heap.size) (cs := ext P.length d 0) (T := fun _ => False) (S0 := fun b => b = w.heap.size + 1 + 1 + 1 ∨ b = w.heap.size + 1 + 1) (gf := 71) (lb := #[.pointer (some ⟨w.heap.size + 1 + 1 + 1, 0, none⟩), .pointer (some ⟨w.heap.size + 1 + 1, 0, none⟩)]) rfl (enters_of Tryz.func71 (by kernel_rfl) rfl) HSQ (fun b hb => by omega)
    (fun W' S x vs ⟨v, B0, h1, _⟩ => by rw [h1]; rfl) (handA_below _) (handA_put _)
    (fun S pre W' => CrI w WN d P S pre W')
    (fun c S pre W' => False)
    (fun S S' pre W' W'' h hc hs => h.stab (by have := HSZ.out; omega) hc hs) (fun c S S' pre W' W'' h hc hs => h) HI0.out
    (fun vs a' W' => ∃ v, vs = #[v] ∧ a' = { tmps := #[.agg #[.int .i64 d, .slice po P.length pc], .pointer (some ⟨w.heap.size, 0, none⟩), .slice none 0 0, .pointer (some ⟨w.heap.size + 1, 0, none⟩), v, undef, undef, .pointer (some ⟨w.heap.size, 1, none⟩), .slice po P.length pc, .int .i64 P.length, .pointer (some ⟨w.heap.size, 0, none⟩), .int .i64 d, .func (.func 71) #[] #[.pointer (some ⟨w.heap.size + 1 + 1 + 1, 0, none⟩), .pointer (some ⟨w.heap.size + 1 + 1, 0, none⟩)], v, undef, undef, undef, undef, undef, undef, undef, undef, undef, undef, undef, undef, undef, undef, undef, undef, undef, undef, undef, undef, undef, undef], defers := [] })
    (fun vs a' W' l r o h _ => h) ?assign ?body (fun h => h) ?done ?stop
  case assign =>
    rintro S x vs W' K ⟨v, B0, rfl, h2, h3, h4⟩ hK
    gi_wp2
    exact hK _ _ (Below.refl _ _) ⟨v, rfl, rfl⟩
  case stop =>
    rintro c S pre W' hpre h
    exact h.elim
  case body =>
    rintro S pre c vs a' W1 hi hSD hSL hlt1 hdf hlp hpre ⟨S1, ⟨v, B0, hvs, hown, hB0, hN0, hBW⟩, hS1⟩ ⟨v', hvs', rfl⟩
    have hvv : v = v' := by rw [hvs] at hvs'; simpa using hvs'
    subst hvv
    have hcm' : c ∈ ext P.length d 0 := hpre.subset (by simp)
    obtain ⟨hr1, hr2, _⟩ := ext_rise hcm'
    have hsz := HSZ.out
    have hws := hi.kp.size
    have e1 : W1.heap[w.heap.size]? = some (.cells #[.int .i64 d, .slice po P.length pc] 24 (0, 0)) := (hi.kp.block _ (by omega) (by omega)).trans HN1.out
    have hlow : ∀ b, b < w.heap.size → W1.heap[b]? = w.heap[b]? := fun b hb => (hi.kp.block b (by omega) (by omega)).trans (HBN.out.block b hb)
    obtain ⟨rv, rvs, hrv, hfr⟩ := hi.rv
    have HSB : Hid (∀ b, S b → b < W1.heap.size) := fun b hx => by
      rcases (hS1 _).1 hx with hx | hx | hx
      · have := hB0 _ hx; omega
      · omega
      · omega
    have hrl : ∀ i, i < c.length → 0 ≤ c.getD i 0 ∧ c.getD i 0 < P.length := fun i hi => by have := hr2 i (by omega); exact ⟨by omega, this.2⟩
    obtain ⟨vo, vc, hvf⟩ := owns_form hown
    subst hvf
    have HMP : Hid (Mat w.heap.size 38 3 W1 (.slice po P.length pc) P) := mat_keepC HV.out hlow
    have HCL : Hid (∀ X, Below W1.heap.size W1 X → X.cell? ⟨w.heap.size, 0, none⟩ = some (.int .i64 d) ∧ X.cell? ⟨w.heap.size, 1, none⟩ = some (.slice po P.length pc)) := fun X hX => by
      have h0 := (hX.block w.heap.size (by omega)).trans e1
      exact ⟨by simp [World.cell?, h0], by simp [World.cell?, h0]⟩
    obtain ⟨hc0, hc1⟩ := HCL.out W1 (Below.refl _ _)
    have hTM := pks_memC hrl
    have HTX : Hid (Mx (d + 1) 60 (pks P [] c)) := pks_mxC HOK.out hTM
    have HTL : Hid ((pks P [] c).length = d) := by show _ = _; rw [pks_lenC, hr1]
    have HPK : Hid (Calls Tryz.prog 50 #[.slice po P.length pc, .slice vo c.length vc] W1.drew fun e w' => ∃ zo zc, e = .returned (.slice zo d zc) ∧ Below W1.heap.size W1 w' ∧ Mat w'.heap.size 38 3 w' (.slice zo d zc) (pks P [] c)) := by
      have h := pickedP_any (max W1.heap.size w.heap.size) P c _ _ W1.drew ((HMP.out.more (by omega)).drewN 1) ((Sl.own hown).drewN 1) hrl (by omega)
      refine h.mono ?_
      rintro e w' ⟨z, rfl, hz, hb⟩
      obtain ⟨zo, zc, rfl, _, _⟩ := mat_open (hz.mat (Nat.le_refl _))
      rw [HTL.out] at hz ⊢
      have hb' : Below W1.heap.size W1 w' := ((Below.refl _ _).drew (B := W1.heap.size)).trans hb
      exact ⟨zo, zc, rfl, hb', (hz.mat (Nat.le_refl _)).any (Nat.le_refl _)⟩
    have HMT : Hid (∀ zo zc w', Below W1.heap.size W1 w' → Mat w'.heap.size 38 3 w' (.slice zo d zc) (pks P [] c) → Calls Tryz.prog 49 #[.slice zo d zc, .int .i64 d] w' fun e w'' => ∃ xo xl xc, e = .returned (.tuple #[.slice xo xl xc, .bool (mtB d (pks P [] c))]) ∧ (mtB d (pks P [] c) = true → xl = d + 1 ∧ Sl 0 3 w'' (.slice xo xl xc) (ints (mtL d (pks P [] c))) ∧ ∃ a, xo = some a ∧ W1.heap.size ≤ a.block) ∧ Below W1.heap.size W1 w'') := fun zo zc w' hb hm => by
      refine (meetingH_any w'.heap.size d (pks P [] c) _ w' HTX.out hm (by rw [HTL.out]; omega) (by rw [HTL.out]; omega)).mono ?_
      rintro e w'' ⟨xo, xl, xc, rfl, hq, hb2⟩
      refine ⟨xo, xl, xc, rfl, fun h => ?_, hb.trans (hb2.mono hb.size)⟩
      obtain ⟨q1, q2, a, q3, q4⟩ := hq h
      exact ⟨q1, q2, a, q3, Nat.le_trans hb.size q4⟩
    have HII : Hid (∀ xo xc w', Below W1.heap.size W1 w' → mtB d (pks P [] c) = true → Sl 0 3 w' (.slice xo (d + 1) xc) (ints (mtL d (pks P [] c))) → Calls Tryz.prog 51 #[.agg #[.int .i64 d, .slice po P.length pc], .slice xo (d + 1) xc] w' fun e w'' => e = .returned (.bool (inK P d (mtL d (pks P [] c)))) ∧ Below w'.heap.size w' w'') := fun xo xc w' hb hm hs =>
      isIn_any d P (mtL d (pks P [] c)) _ xo xc w' (HMP.out.below hb (Nat.le_refl _)) hs (mt_len hm) (mt_bd HTX.out hm) HOK.out
    obtain ⟨lr, hlp⟩ := hlp
    have HIS : Hid (∀ w7, Below W1.heap.size W1 w7 → CrI w WN d P S pre w7) := fun w7 hb => hi.stab (by omega) (Chg.of_below hb (Nat.le_refl _)) (fun b hb => .inl hb)
    have HSN : Hid (∀ b, S b → w.heap.size + 2 ≤ b) := hi.sn
    have HFR : Hid (FrO S (w.heap.size + 6) W1 rv (crL d P pre) rvs) := hfr
    have HRV : Hid (W1.heap[w.heap.size + 1]? = some (.cells #[rv] 22 (0, 0))) := hrv
    have HRL : Hid ((crL d P pre).length ≤ 1000000) := by
      have hl := crL_len d P pre
      have h2 : pre.length ≤ (ext P.length d 0).length := by
        have := hpre.length_le
        simp only [List.length_append, List.length_cons, List.length_nil] at this
        omega
      have h3 : (ext P.length d 0).length = (chz d P).length := by
        have := congrArg List.length (chz_ext P [] d 0)
        simpa using this
      have h5 : (chz d P).length ≤ 1000000 := by
        rw [← chs_chz]
        refine Nat.le_trans (chs_len _ _) ?_
        exact Nat.le_trans (Nat.pow_le_pow_left (show P.length + 1 ≤ 25 by omega) d) (Nat.le_trans (Nat.pow_le_pow_right (by decide) (show d ≤ 4 by omega)) (by decide))
      show _ ≤ _
      omega
    have HSN1 : Hid (crL d P (pre ++ [c]) = crL d P pre ++ crC d P c) := crL_snoc d P pre c
    have HCR : Hid (crC d P c = if mtB d (pks P [] c) = true ∧ inK P d (mtL d (pks P [] c)) = true then [mtL d (pks P [] c)] else []) := rfl
    have HML : Hid (mtB d (pks P [] c) = true → (mtL d (pks P [] c)).length = d + 1) := mt_len
    have hs2 : w.heap.size + 6 ≤ W1.heap.size := by omega
    clear hi hpre hown hB0 hN0 hBW hS1 hcm' hr1 hr2 hdf hlp hvs hvs' hrl hlow hrv hfr hsz hws e1 HMP HSQ hTM
    generalize mtL d (pks P [] c) = y0 at *
    generalize mtB d (pks P [] c) = mb at *
    generalize inK P d y0 = kb at *
    have HFN : Hid (crC d P c = [] → ∀ w7, Below W1.heap.size W1 w7 → Kpt (fun b => S b ∨ False) W1 w7 ∧ CrI w WN d P S (pre ++ [c]) w7) := fun hcr w7 hb => by
      refine ⟨Kpt.of_below hb (Nat.le_refl _), ?_⟩
      have h := HIS.out w7 hb
      obtain ⟨q1, q2, q3, q4, q5, q6⟩ := h
      refine ⟨q1, q2, q3, q4, q5, ?_⟩
      rw [HSN1.out, hcr, List.append_nil]
      exact q6
    gi_upto_region 4 with fail
    dsimp only
    gi_cut [5, 6] from 14 (fun x y wx => ∃ xo xl xc, x = .slice xo xl xc ∧ y = .bool mb ∧ (mb = true → xl = d + 1 ∧ Sl 0 3 wx (.slice xo xl xc) (ints y0) ∧ ∃ a, xo = some a ∧ W1.heap.size ≤ a.block) ∧ Below W1.heap.size W1 wx)
    case first =>
      refine wpIn_region_rnd (fun w' => w'.cell? ⟨w.heap.size, 0, none⟩ = some (.int .i64 d) ∧ w'.cell? ⟨w.heap.size, 1, none⟩ = some (.slice po P.length pc)) (by kernel_rfl) (no_defer (by kernel_rfl)) (fun a w h => h) ⟨hc0, hc1⟩ (fun hHeld => ?_)
      refine wpAnyH_tk (i := 0) (d := 15) (v := .pointer (some ⟨w.heap.size, 1, none⟩)) rfl rfl (by kernel_rfl) (by kernel_rfl) (by kernel_rfl) (fun _ _ _ h => h) (.inl ⟨by rfl, by (intro wq hSw; (try dsimp only at hSw); go_simp; (try (first | rfl | omega)))⟩) hHeld ?_
      simp only [Act.put, List.setIfInBounds_toArray, List.set_cons_zero, List.set_cons_succ]
      refine wpAnyH_tk (i := 1) (d := 16) (v := .slice po P.length pc) rfl rfl (by kernel_rfl) (by kernel_rfl) (by kernel_rfl) (fun _ _ _ h => h) (.inl ⟨by rfl, by (intro wq hSw; (try dsimp only at hSw); go_simp; (try (first | rfl | omega)))⟩) hHeld ?_
      simp only [Act.put, List.setIfInBounds_toArray, List.set_cons_zero, List.set_cons_succ]
      refine wpAnyH_tk (i := 2) (d := 17) (v := .slice vo c.length vc) rfl rfl (by kernel_rfl) (by kernel_rfl) (by kernel_rfl) (fun _ _ _ h => h) (.inl ⟨by rfl, by (intro wq hSw; (try dsimp only at hSw); go_simp; (try (first | rfl | omega)))⟩) hHeld ?_
      simp only [Act.put, List.setIfInBounds_toArray, List.set_cons_zero, List.set_cons_succ]
      refine wpAnyH_tk (i := 4) (d := 19) (v := .pointer (some ⟨w.heap.size, 0, none⟩)) rfl rfl (by kernel_rfl) (by kernel_rfl) (by kernel_rfl) (fun _ _ _ h => h) (.inl ⟨by rfl, by (intro wq hSw; (try dsimp only at hSw); go_simp; (try (first | rfl | omega)))⟩) hHeld ?_
      simp only [Act.put, List.setIfInBounds_toArray, List.set_cons_zero, List.set_cons_succ]
      refine wpAnyH_tk (i := 5) (d := 20) (v := .int .i64 d) rfl rfl (by kernel_rfl) (by kernel_rfl) (by kernel_rfl) (fun _ _ _ h => h) (.inl ⟨by rfl, by (intro wq hSw; (try dsimp only at hSw); go_simp; (try (first | rfl | omega)))⟩) hHeld ?_
      simp only [Act.put, List.setIfInBounds_toArray, List.set_cons_zero, List.set_cons_succ]
      refine wpAnyH_ready (rs := [3]) (by kernel_rfl) (by simp) ?_
      refine ready_tk (i := 3) rfl (by rfl) (fun K hK => ?_) AllReadyH.nil
      go_simp
      refine HPK.out.mono ?_
      rintro e w6 ⟨zo, zc, rfl, hb6, hm6⟩
      refine hK.out _ _ (HCL.out w6 hb6) (fun hHeld => ?_)
      clear hK K
      refine wpAnyH_ready (rs := [6]) (by kernel_rfl) (by simp) ?_
      refine ready_tk (i := 6) rfl (by rfl) (fun K hK => ?_) AllReadyH.nil
      go_simp
      refine (HMT.out _ _ w6 hb6 hm6).mono ?_
      rintro e w7 ⟨xo, xl, xc, rfl, hq7, hb7⟩
      refine hK.out _ _ (HCL.out w7 hb7) (fun hHeld => ?_)
      clear hK K
      have HQ7 : Hid (mb = true → xl = d + 1 ∧ Sl 0 3 w7 (.slice xo xl xc) (ints y0) ∧ ∃ a, xo = some a ∧ W1.heap.size ≤ a.block) := hq7
      have HB7 : Hid (Below W1.heap.size W1 w7) := hb7
      clear hq7 hb7
      refine wpAnyH_tk (i := 7) (d := 14) (v := .tuple #[.slice xo xl xc, .bool mb]) rfl rfl (by kernel_rfl) (by kernel_rfl) (by kernel_rfl) (fun _ _ _ h => h) (.inl ⟨by rfl, by (intro wq hSw; (try dsimp only at hSw); go_simp; (try (first | rfl | omega)))⟩) hHeld ?_
      simp only [Act.put, List.setIfInBounds_toArray, List.set_cons_zero, List.set_cons_succ]
      refine wpAnyH_tk (i := 8) (d := 22) (v := .slice xo xl xc) rfl rfl (by kernel_rfl) (by kernel_rfl) (by kernel_rfl) (fun _ _ _ h => h) (.inl ⟨by rfl, by (intro wq hSw; (try dsimp only at hSw); go_simp; (try (first | rfl | omega)))⟩) hHeld ?_
      simp only [Act.put, List.setIfInBounds_toArray, List.set_cons_zero, List.set_cons_succ]
      refine wpAnyH_tk (i := 9) (d := 23) (v := .bool mb) rfl rfl (by kernel_rfl) (by kernel_rfl) (by kernel_rfl) (fun _ _ _ h => h) (.inl ⟨by rfl, by (intro wq hSw; (try dsimp only at hSw); go_simp; (try (first | rfl | omega)))⟩) hHeld ?_
      simp only [Act.put, List.setIfInBounds_toArray, List.set_cons_zero, List.set_cons_succ]
      refine wpAnyH_tk (i := 10) (d := 5) (v := .slice xo xl xc) rfl rfl (by kernel_rfl) (by kernel_rfl) (by kernel_rfl) (fun _ _ _ h => h) (.inl ⟨by rfl, by (intro wq hSw; (try dsimp only at hSw); go_simp; (try (first | rfl | omega)))⟩) hHeld ?_
      simp only [Act.put, List.setIfInBounds_toArray, List.set_cons_zero, List.set_cons_succ]
      refine wpAnyH_tk (i := 11) (d := 6) (v := .bool mb) rfl rfl (by kernel_rfl) (by kernel_rfl) (by kernel_rfl) (fun _ _ _ h => h) (.inl ⟨by rfl, by (intro wq hSw; (try dsimp only at hSw); go_simp; (try (first | rfl | omega)))⟩) hHeld ?_
      simp only [Act.put, List.setIfInBounds_toArray, List.set_cons_zero, List.set_cons_succ]
      refine wpAnyH_done (by kernel_rfl) ?_ _
      dsimp only [Nrm]
      gi_wp2_with fail
      gi_meet
      exact ⟨xo, xl, xc, rfl, rfl, HQ7.out, HB7.out⟩
    case rest =>
    obtain ⟨xo, xl, xc, rfl, rfl, hq, hbc⟩ := hcut
    clear HPK HMT
    cases mb with
    | false =>
      have HF : Hid _ := HFN.out (by rw [HCR.out]; simp) wc hbc
      clear hbc hq HII HFN HIS HFR HRV HSN1 HCR HTX HTL HCL HML
      gi_wp2
      refine ⟨trivial, ?_⟩
      gi_wp2
      exact HF.out
    | true =>
      obtain ⟨rfl, hsl, hnw⟩ := hq rfl
      obtain ⟨hd0, hd1⟩ := HCL.out wc hbc
      have HI7 : Hid (Calls Tryz.prog 51 #[.agg #[.int .i64 d, .slice po P.length pc], .slice xo (d + 1) xc] wc fun e w'' => e = .returned (.bool kb) ∧ Below wc.heap.size wc w'') := HII.out xo xc wc hbc rfl hsl
      have HBC : Hid (Below W1.heap.size W1 wc) := hbc
      have HSL : Hid (Sl 0 3 wc (.slice xo (d + 1) xc) (ints y0)) := hsl
      have HNW : Hid (∃ a, xo = some a ∧ W1.heap.size ≤ a.block) := hnw
      clear hbc hsl hnw hq HII HTX HTL HCL HML
      cases kb with
      | false =>
        have HFN2 : Hid (∀ w7, Below W1.heap.size W1 w7 → Kpt (fun b => S b ∨ False) W1 w7 ∧ CrI w WN d P S (pre ++ [c]) w7) := HFN.out (by rw [HCR.out]; simp)
        clear HFN HIS HFR HRV HSN1 HCR
        gi_wp2_with fail
        refine ⟨trivial, rfl, ?_⟩
        gi_at_call 51
        refine (CallsIn.inRound _ (callsIn_wide.2 HI7.out)).mono ?_
        rintro e w8 ⟨rfl, hb8⟩
        have HF : Hid _ := HFN2.out w8 (HBC.out.trans (hb8.mono HBC.out.size))
        clear HFN2 hb8 HI7 HBC HSL HNW
        gi_wp2
        exact HF.out
      | true =>
        have HSN2 : Hid (crL d P (pre ++ [c]) = crL d P pre ++ [y0]) := by show _ = _; rw [HSN1.out, HCR.out]; simp
        gi_wp2_with fail
        refine ⟨trivial, rfl, ?_⟩
        gi_at_call 51
        refine (CallsIn.inRound _ (callsIn_wide.2 HI7.out)).mono ?_
        rintro e w7 ⟨rfl, hb8⟩
        have hb : Below W1.heap.size W1 w7 := HBC.out.trans (hb8.mono HBC.out.size)
        have hxo : Sl 0 3 w7 (.slice xo (d + 1) xc) (ints y0) := HSL.out.below hb8 (Nat.le_refl _)
        have HFF : Hid (∀ v' w8, w8.ownsRow (w.heap.size + 6) 38 1 v' ((crL d P pre).length + 1) (rvs ++ [.slice xo (d + 1) xc]) → (w7.alloc (.cells #[.slice xo (d + 1) xc] 38)).grownBy w8 rv.ownBlock → (v'.ownBlock = rv.ownBlock ∨ v'.ownBlock = some (w7.heap.size + 1)) →
            w8.cell? ⟨w.heap.size + 1, 0, none⟩ = some rv ∧ w8.frozen? ⟨w.heap.size + 1, 0, none⟩ = false ∧ Kpt (fun b => S b ∨ False) W1 (w8.setCell ⟨w.heap.size + 1, 0, none⟩ v') ∧ CrI w WN d P S (pre ++ [c]) (w8.setCell ⟨w.heap.size + 1, 0, none⟩ v')) := fun v' w8 ho hg hat => by
          obtain ⟨xa, hxa, hxn⟩ := HNW.out
          have hbs := hb.size
          have hblk : ∀ b, b < W1.heap.size → (∀ g, rv.ownBlock = some g → b ≠ g) → w8.heap[b]? = W1.heap[b]? := fun b hb1 hne =>
            (hg.block b (by simp; omega) (fun e => hne b e.symm rfl)).trans ((Below.heap_alloc _ _ _ (by omega)).trans (hb.block b hb1))
          have hrn : ∀ g, rv.ownBlock = some g → w.heap.size + 1 ≠ g := fun g hg1 => by have := (HFR.out.own.lt g hg1).1; omega
          have h8 : w8.heap[w.heap.size + 1]? = some (.cells #[rv] 22 (0, 0)) := (hblk _ (by omega) hrn).trans HRV.out
          have hg7 := hg.size
          simp only [World.size_alloc] at hg7
          have hnew : ∀ b, W1.heap.size ≤ b → ¬ S b := fun b hb1 hs => by have := HSB.out b hs; omega
          refine ⟨cell_of h8, by simp [World.frozen?, h8], ⟨by simp [World.setCell]; omega, fun b hb1 hs => ?_⟩, ?_⟩
          · have hs' : S b := hs.elim id False.elim
            refine (Below.heap_setCell _ _ _ _ (by show b ≠ w.heap.size + 1; have := HSN.out b hs'; omega)).trans (hblk b hb1 (fun g hg1 e => ?_))
            subst e
            exact HFR.out.off _ hg1 hs'
          · have hI7 := HIS.out w7 hb
            have hFR7 : FrO S (w.heap.size + 6) (w7.alloc (.cells #[.slice xo (d + 1) xc] 38)) rv (crL d P pre) rvs := HFR.out.keep (fun b hb1 hn => (Below.heap_alloc _ _ _ (by omega)).trans (hb.block b hb1)) (fun b hb => .inl hb)
            have hpush := hFR7.push (u := .slice xo (d + 1) xc) (zs := y0) (hxo.alloc _) (fun hp => ⟨xa, _, _, by rw [hxa], hnew _ hxn⟩) ho hg (fun g hg1 => by
              rcases hat with h | h
              · rw [h] at hg1; exact HFR.out.off g hg1
              · rw [h] at hg1
                simp only [Option.some.injEq] at hg1
                exact hnew g (by omega))
            have hset := hpush.setC (b := w.heap.size + 1) (j := 0) (u := v') (by omega) h8 (by decide)
            obtain ⟨q1, q2, q3, q4, q5, _⟩ := hI7
            refine ⟨q1, q2.trans ⟨?_, fun b hb1 hlt => ?_⟩, ?_, ?_, ?_, v', rvs ++ [.slice xo (d + 1) xc], ?_, by rw [HSN2.out]; exact hset⟩
            · simp [World.setCell]; omega
            · have hbW : b < W1.heap.size := by have := HSZ.out; omega
              refine (Below.heap_setCell _ _ _ _ (by show b ≠ w.heap.size + 1; omega)).trans ((hblk b hbW (fun g hg1 e => ?_)).trans (hb.block b hbW).symm)
              have := (HFR.out.own.lt g hg1).1
              omega
            · exact hg.os.trans q3
            · exact hg.tape.trans q4
            · exact hg.output.trans q5
            · exact set_one h8
        have HOO : Hid (w7.ownsRow (w.heap.size + 6) 38 1 rv (crL d P pre).length rvs) := owns_below HFR.out.own hb (Nat.le_refl _)
        have hsz7 : w.heap.size + 6 ≤ w7.heap.size := Nat.le_trans hs2 hb.size
        have hc8 : w7.cell? ⟨w.heap.size + 1, 0, none⟩ = some rv := cell_of ((hb.block _ (by omega)).trans HRV.out)
        have hrl := HRL.out
        clear hb8 hb hxo HI7 HBC HSL HNW HFN HIS HFR HRV HSN1 HCR HSN2 hd0 hd1 hc0 hc1
        gi_wp2_with (first | (gi_at_builtin; refine wpListIn_append_own_at _ rfl _ _ 22 rfl (w.heap.size + 6) 38 i0 (.slice none 0 0) 1 24 Tryz.underlying22 hi0 hz0 hz1 hz2 rfl (by decide) _ _ _ rfl (HOO.out.alloc _) ⟨w7.heap.size, 0, none⟩ 1 1 [.slice xo (d + 1) xc] rfl rfl (one_new _ _ _) (one_slice _ _ _) ?d3 ?d4 ?d5 ?_))
        case d3 => unfold maxLen; omega
        case d4 => omega
        case d5 => simp; omega
        intro v' w9 ho hg _ hat
        obtain ⟨vo8, vc8, hv8⟩ := owns_form ho
        subst hv8
        obtain ⟨hc9, hf9, hk9, hi9⟩ := HFF.out _ w9 ho hg hat
        have HK9 : Hid _ := hk9
        have HI9 : Hid _ := hi9
        clear ho hg hat HFF hk9 hi9
        gi_wp2
        exact ⟨HK9.out, HI9.out⟩
  case done =>
    rintro S W' hi hSD hdf
    have hsz := HSZ.out
    have hws := hi.kp.size
    obtain ⟨rv, rvs, hrv, hfr⟩ := hi.rv
    have HLEN : Hid ((crL d P (ext P.length d 0)).length ≤ 1000000) := by
      have hl := crL_len d P (ext P.length d 0)
      have h3 : (ext P.length d 0).length = (chz d P).length := by
        have := congrArg List.length (chz_ext P [] d 0)
        simpa using this
      have h5 : (chz d P).length ≤ 1000000 := by
        rw [← chs_chz]
        refine Nat.le_trans (chs_len _ _) ?_
        exact Nat.le_trans (Nat.pow_le_pow_left (show P.length + 1 ≤ 25 by omega) d) (Nat.le_trans (Nat.pow_le_pow_right (by decide) (show d ≤ 4 by omega)) (by decide))
      show _ ≤ _
      omega
    have HIO : Hid (Calls Tryz.prog 45 #[rv] W' fun e w' => ∃ u m', e = .returned u ∧ Fr (w.heap.size + 6) 38 3 w' u m' ∧ Inor m' (crL d P (ext P.length d 0)) ∧ Below (w.heap.size + 6) W' w') := inOrder_any (w.heap.size + 6) (crL d P (ext P.length d 0)) rv W' hfr.fr (Nat.le_trans HLEN.out (by decide))
    have k0 : W'.cell? ⟨w.heap.size + 1, 0, none⟩ = some rv := cell_of hrv
    have HI : Hid (CrI w WN d P S (ext P.length d 0) W') := hi
    have HDF : Hid (W'.heap[WN.heap.size]? = some (.deferred (some []))) := hdf
    obtain ⟨ro, rc, hrf⟩ := owns_form hfr.own
    subst hrf
    clear hi hdf hrv hfr HSQ hsN hsz hws
    gi_wp2_with (refine ⟨trivial, rfl, ?_⟩; gi_at_call 45; refine (callsIn_wide.2 HIO.out).mono ?_; rintro e w4 ⟨u, m', rfl, hf4, hin4, hb4⟩; obtain ⟨xo, xc, hxx, _, _⟩ := fr_open hf4; subst hxx)
    have hsz := HSZ.out
    have hws := HI.out.kp.size
    have hlow : ∀ b, b < w.heap.size → W'.heap[b]? = w.heap[b]? := fun b hb => (HI.out.kp.block b (by omega) (by omega)).trans (HBN.out.block b hb)
    refine leaves_mks [WN.heap.size] w4 (by simp) (fun r hr => ?_) (fun w' hc => ⟨.slice xo m'.length xc, ?_, ?_⟩)
    · simp only [List.mem_singleton] at hr
      subst hr
      exact (hb4.block _ (by omega)).trans HDF.out
    · simp [results, Tryz.results30, go_sem]
    · have hb4s := hb4.size
      refine ⟨_, m', rfl, ?_, hin4, hc.os.trans (hb4.os.trans HI.out.os), hc.tape.trans (hb4.tape.trans HI.out.tape), hc.output.trans (hb4.output.trans HI.out.output), by have := hc.size; omega, fun b hb => ?_⟩
      · obtain ⟨vs, f1, f2, f3⟩ := hf4
        have hD : w4.heap[WN.heap.size]? = some (.deferred (some [])) := (hb4.block _ (by omega)).trans HDF.out
        refine ⟨vs, f1, ⟨f2.1, ?_⟩, fun i hi => (f3 i hi).move fun b hl ht => ⟨hc.block b hl (fun e => ?_), ht⟩⟩
        · rcases f2.2 with h2 | ⟨g, cap, cur, h5, hbb, hh, r⟩
          · exact Or.inl h2
          · refine Or.inr ⟨g, cap, cur, h5, by omega, (hc.block g (lt_of_block hh) (fun e => ?_)).trans hh, r⟩
            simp only [List.mem_singleton] at e
            omega
        · simp only [List.mem_singleton] at e
          subst e
          rcases ht with ht | ⟨c, ht⟩
          · omega
          · rw [hD] at ht; cases ht
      · exact (hc.block b (by omega) (by simp; omega)).trans ((hb4.block b (by omega)).trans (hlow b hb))
end Go.Proofs.YtknomkajibfmlaaGreat
