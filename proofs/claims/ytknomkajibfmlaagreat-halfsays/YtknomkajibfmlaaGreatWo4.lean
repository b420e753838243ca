/- half.without, half.Without. -/
import Derived.Test.YtknomkajibfmlaaGreatMgAQ
import Derived.Test.YtknomkajibfmlaaGreatMgAS
import Derived.Test.YtknomkajibfmlaaGreatMgAL
namespace Go.Proofs.YtknomkajibfmlaaGreat
open Go.RowKit
attribute [local go_sem ↓] Go.wp_at_zero Go.wp_at_succ

/-- What a row gives with another one. -/
def woTwo (k : Nat) (f s : List Int) : List (List Int) := if 0 < f.getD k 0 ∧ s.getD k 0 < 0 then keepL k (combL (-(s.getD k 0)) f (f.getD k 0) s) else []
def woIn (rows : List (List Int)) (k : Nat) (f : List Int) (j : Nat) : List (List Int) := (rows.take j).flatMap (woTwo k f)
def woOne (k : Nat) (f : List Int) : List (List Int) := if f.getD k 0 = 0 then keepL k f else []
def woRow (rows : List (List Int)) (k : Nat) (f : List Int) : List (List Int) := woOne k f ++ woIn rows k f rows.length
def woAll (rows : List (List Int)) (k i : Nat) : List (List Int) := (rows.take i).flatMap (woRow rows k)

theorem keepL_len (k : Nat) (r : List Int) : (keepL k r).length ≤ 1 := by unfold keepL; split <;> simp
theorem woTwo_len (k : Nat) (f s : List Int) : (woTwo k f s).length ≤ 1 := by
  unfold woTwo
  split
  · exact keepL_len _ _
  · simp
theorem flat_bd {α β : Type} {g : α → List β} {b : Nat} (h : ∀ x, (g x).length ≤ b) : ∀ l : List α, (l.flatMap g).length ≤ l.length * b
  | [] => by simp
  | x :: l => by
    have h1 := h x
    have h2 := flat_bd h l
    simp only [List.flatMap_cons, List.length_append, List.length_cons]
    rw [Nat.add_mul]
    omega
theorem woIn_len (rows : List (List Int)) (k : Nat) (f : List Int) (j : Nat) : (woIn rows k f j).length ≤ rows.length := by
  have := flat_bd (g := woTwo k f) (b := 1) (woTwo_len k f) (rows.take j)
  unfold woIn
  have h2 : (rows.take j).length ≤ rows.length := by simp; omega
  omega
theorem woRow_len (rows : List (List Int)) (k : Nat) (f : List Int) : (woRow rows k f).length ≤ rows.length + 1 := by
  unfold woRow woOne
  rw [List.length_append]
  have h1 := woIn_len rows k f rows.length
  split
  · have := keepL_len k f; omega
  · simp; omega
theorem woAll_len (rows : List (List Int)) (k i : Nat) (h : rows.length ≤ 12) : (woAll rows k i).length ≤ 156 := by
  have h1 := flat_bd (g := woRow rows k) (b := 13) (fun f => by have := woRow_len rows k f; omega) (rows.take i)
  unfold woAll
  have h2 : (rows.take i).length ≤ 12 := by simp; omega
  omega
theorem woIn_succ {rows : List (List Int)} {k : Nat} {f : List Int} {j : Nat} (h : j < rows.length) : woIn rows k f (j + 1) = woIn rows k f j ++ woTwo k f (rows.getD j []) := by
  unfold woIn
  rw [List.take_succ_eq_append_getElem h, List.flatMap_append]
  simp [h]
theorem woAll_succ {rows : List (List Int)} {k i : Nat} (h : i < rows.length) : woAll rows k (i + 1) = woAll rows k i ++ woRow rows k (rows.getD i []) := by
  unfold woAll
  rw [List.take_succ_eq_append_getElem h, List.flatMap_append]
  simp [h]

/-- While rows are gone through. -/
structure Wst (W2 : World) (R : Nat) (acc : List (List Int)) (ov : Value) (wr : World) : Prop where
  out : wr.heap[R]? = some (.cells #[ov] 22 (0, 0))
  rows : Fr (R + 1) 38 3 wr ov acc
  but : But (R + 1) R W2 wr

theorem But.trans {M R : Nat} {a b c : World} (h : But M R a b) (k : But M R b c) : But M R a c :=
  ⟨k.os.trans h.os, k.tape.trans h.tape, k.output.trans h.output, Nat.le_trans h.size k.size, fun x hx hn => (k.block x hx hn).trans (h.block x hx hn)⟩

theorem getD_bd {r : List Int} {n k : Nat} (h : ∀ z ∈ r, z.natAbs ≤ n) : (r.getD k 0).natAbs ≤ n := by
  by_cases e : k < r.length
  · exact h _ (by simp [e])
  · simp [List.getElem?_eq_none (Nat.le_of_not_lt e)]

theorem combL_bd {v u : Int} {f s : List Int} (hv : v.natAbs ≤ 20) (hu : u.natAbs ≤ 20) (hf : ∀ z ∈ f, z.natAbs ≤ 20) (hs : ∀ z ∈ s, z.natAbs ≤ 20) : ∀ z ∈ combL v f u s, z.natAbs ≤ 1000000 := by
  intro z hz
  simp only [combL, List.mem_map, List.mem_range] at hz
  obtain ⟨i, _, rfl⟩ := hz
  have m1 := mul20 hv (getD_bd (k := i) hf)
  have m2 := mul20 hu (getD_bd (k := i) hs)
  omega

set_option maxRecDepth 100000 in
set_option maxHeartbeats 4000000 in
theorem without_any (d k : Nat) (rows : List (List Int)) (v : Value) (w : World) (hv : Mat w.heap.size 38 3 w v rows) (hc : CutF d rows) (hk : k < d) :
    Calls Tryz.prog 25 #[v, .int .i64 k] w fun e w' => ∃ u m', e = .returned u ∧ Fr w.heap.size 38 3 w' u m' ∧ Inor m' (woAll rows k rows.length) ∧ Below w.heap.size w w' := by
  obtain ⟨ao, cap, hvv, hlc, hcm⟩ := mat_open hv
  subst hvv
  have HV : Hid (Mat w.heap.size 38 3 w (.slice ao rows.length cap) rows) := hv
  have HC : Hid (CutF d rows) := hc
  have h12 := hc.n12
  obtain ⟨W2, hW2⟩ : ∃ W2, W2 = (w.alloc (.cells #[.int .i64 k] 3)).alloc (.cells #[.slice none 0 0] 22) := ⟨_, rfl⟩
  have hs2 : W2.heap.size = w.heap.size + 2 := by rw [hW2]; simp
  have hb2 : Below w.heap.size w W2 := by rw [hW2]; exact ((Below.refl _ _).alloc (Nat.le_refl _) _).alloc (by simp) _
  have hk2 : W2.cell? ⟨w.heap.size, 0, none⟩ = some (.int .i64 k) := by
    rw [hW2]; exact ((alloc_keep (w.alloc (.cells #[.int .i64 k] 3)) _).cell (p := ⟨w.heap.size, 0, none⟩) (by simp)).trans (cell_of (alloc_new w _))
  have ho2 : W2.heap[w.heap.size + 1]? = some (.cells #[.slice none 0 0] 22 (0, 0)) := by
    rw [hW2]; have := alloc_new (w.alloc (.cells #[.int .i64 k] 3)) (.cells #[.slice none 0 0] 22); rwa [size_alloc] at this
  have HST : Hid (Wst W2 (w.heap.size + 1) (woAll rows k 0) (.slice none 0 0) W2) := ⟨ho2, Fr.nil _ _ _ _, ⟨rfl, rfl, rfl, Nat.le_refl _, fun _ _ _ => rfl⟩⟩
  have HW2 : Hid (W2 = (w.alloc (.cells #[.int .i64 k] 3)).alloc (.cells #[.slice none 0 0] 22)) := hW2
  have HS2 : Hid (W2.heap.size = w.heap.size + 2) := hs2
  have HB2 : Hid (Below w.heap.size w W2) := hb2
  -- what is known wherever rows are gone through
  have HKN : Hid (∀ wr, But (w.heap.size + 1 + 1) (w.heap.size + 1) W2 wr → wr.cell? ⟨w.heap.size, 0, none⟩ = some (.int .i64 k) ∧ Below w.heap.size w wr) := fun wr hb => by
    refine ⟨(World.cell?_of_block (w := W2) (hb.block w.heap.size (by omega) (by omega))).trans hk2, ?_⟩
    exact ⟨hb.os.trans hb2.os, hb.tape.trans hb2.tape, hb.output.trans hb2.output, Nat.le_trans hb2.size hb.size, fun x hx => (hb.block x (by omega) (by omega)).trans (hb2.block x hx)⟩
  have HKP : Hid (∀ (B : Nat) (r : List Int) (v ov : Value) (acc : List (List Int)) (wr : World), Wst W2 (w.heap.size + 1) acc ov wr → Sl B 3 wr v (ints r) → k + 1 < r.length → r.length ≤ 10 → (∀ z ∈ r, z.natAbs ≤ 1000000) → acc.length ≤ 1000 →
      Calls Tryz.prog 40 #[v, .pointer (some ⟨w.heap.size, 0, none⟩), .pointer (some ⟨w.heap.size + 1, 0, none⟩)] wr fun e w' => e = .returned (.tuple #[]) ∧ ∃ ov', Wst W2 (w.heap.size + 1) (acc ++ keepL k r) ov' w') := fun B r v ov acc wr hst hs h1 h2 h3 h4 => by
    refine (keep_any B (w.heap.size + 1 + 1) (w.heap.size + 1) k r acc v ov w.heap.size wr hs h1 h2 h3 (HKN.out wr hst.but).1 hst.out (by omega) (by have := hst.but.size; omega) hst.rows (by omega)).mono ?_
    rintro e w' ⟨rfl, ov', g1, g2, g3⟩
    exact ⟨rfl, ov', g1, g2, hst.but.trans g3⟩
  clear hv hc hW2 hs2 hb2 hk2 ho2
  go_enter Tryz.func25, Tryz.ntmps25
  go_wp2
  rw [← HW2.out]
  go_loopw [14] (fun i wr => ∃ (n : Nat) (ov : Value), n ≤ rows.length ∧ i = .int .i64 n ∧ Wst W2 (w.heap.size + 1) (woAll rows k n) ov wr) (fun i _ => rows.length - (intOf i).toNat)
  case atStart => exact ⟨0, _, Nat.zero_le _, rfl, HST.out⟩
  case round =>
    obtain ⟨n, ov, hn, rfl, hst⟩ := hrel
    obtain ⟨wa, rfl⟩ : ∃ wa, wa = wr := ⟨wr, rfl⟩
    have HSA : Hid (Wst W2 (w.heap.size + 1) (woAll rows k n) ov wa) := hst
    obtain ⟨hkc, hbw⟩ := HKN.out wa hst.but
    have HBW : Hid (Below w.heap.size w wa) := hbw
    clear hst
    by_cases hlt : n < rows.length
    · obtain ⟨f, hf⟩ : ∃ f, f = rows.getD n [] := ⟨_, rfl⟩
      have hfm : f ∈ rows := by rw [hf]; simp [hlt]
      have hfl := HC.out.len f hfm
      have HFB : Hid (∀ z ∈ f, z.natAbs ≤ 20) := HC.out.bd f hfm
      have HFL : Hid (f.length = d + 1) := hfl
      have HAS : Hid (woAll rows k (n + 1) = woAll rows k n ++ (woOne k f ++ woIn rows k f rows.length)) := by show _ = _; rw [woAll_succ hlt, ← hf]; rfl
      have HAL : Hid (∀ j, (woAll rows k n ++ (woOne k f ++ woIn rows k f j)).length ≤ 1000) := fun j => by
        have h1 := woAll_len rows k n h12
        have h2 := woIn_len rows k f j
        have h3 : (woOne k f).length ≤ 1 := by
          unfold woOne
          split
          · exact keepL_len _ _
          · simp
        simp only [List.length_append]
        omega
      obtain ⟨b, o, cp, fv, hs, hc1, hcc, hfv⟩ := mat_cell (HV.out.below hbw (Nat.le_refl _)) hlt
      simp only [Value.slice.injEq] at hs
      obtain ⟨rfl, -, rfl⟩ := hs
      rw [← hf] at hfv
      obtain ⟨fb, fo, fc, hfs, hfc1, hfcell⟩ := sl_cell hfv (k := k) (by omega)
      subst hfs
      have HFV : Hid (∀ wr, Below w.heap.size w wr → Sl w.heap.size 3 wr (.slice (some ⟨fb, fo, none⟩) f.length fc) (ints f)) := fun wr hb => by
        obtain ⟨b', o', cp', fv', hs', _, hcc', hfv'⟩ := mat_cell (HV.out.below hb (Nat.le_refl _)) hlt
        simp only [Value.slice.injEq, Option.some.injEq, Addr.mk.injEq] at hs'
        obtain ⟨⟨rfl, rfl, -⟩, -, -⟩ := hs'
        have hh : fv' = .slice (some ⟨fb, fo, none⟩) f.length fc := by
          obtain ⟨vs, e1, e2, e3⟩ := HV.out
          obtain ⟨b3, o3, c3, he3, _, _, h43⟩ := e2.at (by omega)
          simp only [Value.slice.injEq, Option.some.injEq, Addr.mk.injEq] at he3
          obtain ⟨⟨rfl, rfl, -⟩, -, -⟩ := he3
          have hx : vs[n]? = some vs[n] := List.getElem?_eq_getElem (by omega)
          have c0 := (h43 n (by omega)).trans hx
          have c1 := (hb.cell (p := ⟨b, o + n, none⟩) (lt_of_cell c0)).trans c0
          have c2 := (hbw.cell (p := ⟨b, o + n, none⟩) (lt_of_cell c0)).trans c0
          rw [c1] at hcc'
          rw [c2] at hcc
          exact (Option.some.inj hcc').symm.trans (Option.some.inj hcc)
        rw [hh, ← hf] at hfv'
        exact hfv'
      obtain ⟨fk, hfk⟩ : ∃ fk, fk = f.getD k 0 := ⟨_, rfl⟩
      rw [← hfk] at hfcell
      have HFK : Hid (fk = f.getD k 0) := hfk
      have hfkb : fk.natAbs ≤ 20 := by rw [hfk]; exact getD_bd HFB.out
      have hkI0 : (0 : Int) ≤ (k : Int) := by omega
      have hkI : (k : Int) < (f.length : Int) := by omega
      have hnI0 : (0 : Int) ≤ (n : Int) := by omega
      have hnI : (n : Int) < (rows.length : Int) := by omega
      have hkd : k + 1 < f.length := by omega
      have hfl10 : f.length ≤ 10 := by have := HC.out.d4; omega
      clear hfm hfl hfv hbw hfk hf
      have HZ : Hid (woAll rows k n ++ (woOne k f ++ woIn rows k f 0) = if fk = 0 then woAll rows k n ++ keepL k f else woAll rows k n) := by
        show _ = _
        rw [HFK.out]
        unfold woOne woIn
        split <;> simp
      by_cases hz : fk = 0
      case' pos =>
        subst hz
        have HKC := HKP.out w.heap.size f (.slice (some ⟨fb, fo, none⟩) f.length fc) ov (woAll rows k n) wa HSA.out (HFV.out wa HBW.out) hkd hfl10 (fun z hz => by have := HFB.out z hz; omega) (by have := HAL.out 0; simp at this ⊢; omega)
        rw [if_pos rfl] at HZ
        have HKC' : Hid (Calls Tryz.prog 40 #[.slice (some ⟨fb, fo, none⟩) f.length fc, .pointer (some ⟨w.heap.size, 0, none⟩), .pointer (some ⟨w.heap.size + 1, 0, none⟩)] wa fun e w' => e = .returned (.tuple #[]) ∧ ∃ ov', Wst W2 (w.heap.size + 1) (woAll rows k n ++ (woOne k f ++ woIn rows k f 0)) ov' w') := by rw [HZ.out]; exact HKC
        clear HKC
        go_wp2_with (go_at_call 40; refine HKC'.out.mono ?_; rintro e wb ⟨rfl, ov1, hs1⟩; have HS1 : Hid (Wst W2 (w.heap.size + 1) (woAll rows k n ++ (woOne k f ++ woIn rows k f 0)) ov1 wb) := hs1; clear hs1 hcc hkc hfcell hfkb HFK HSA HBW HKC')
      case' neg =>
        have HS1 : Hid (Wst W2 (w.heap.size + 1) (woAll rows k n ++ (woOne k f ++ woIn rows k f 0)) ov wa) := by rw [HZ.out, if_neg hz]; exact HSA.out
        have hzb : (fk == 0) = false := by simpa using hz
        go_wp2_with fail
        try rw [hzb]
        clear hcc hkc hfcell hfkb HFK HSA HBW hz HZ
      all_goals
        go_loopw [28] (fun i wr => ∃ (j : Nat) (ov : Value), j ≤ rows.length ∧ i = .int .i64 j ∧ Wst W2 (w.heap.size + 1) (woAll rows k n ++ (woOne k f ++ woIn rows k f j)) ov wr) (fun i _ => rows.length - (intOf i).toNat)
        case atStart => exact ⟨0, _, Nat.zero_le _, rfl, HS1.out⟩
        case round =>
          clear HS1
          obtain ⟨j, ov2, hj, rfl, hst⟩ := hrel
          obtain ⟨wc, rfl⟩ : ∃ wc, wc = wr := ⟨wr, rfl⟩
          obtain ⟨acc, hacc⟩ : ∃ acc, acc = woAll rows k n ++ (woOne k f ++ woIn rows k f j) := ⟨_, rfl⟩
          rw [← hacc] at hst
          have HAC : Hid (acc = woAll rows k n ++ (woOne k f ++ woIn rows k f j)) := hacc
          have HSC : Hid (Wst W2 (w.heap.size + 1) acc ov2 wc) := hst
          obtain ⟨hkc, hbc⟩ := HKN.out wc hst.but
          have HBC : Hid (Below w.heap.size w wc) := hbc
          have hacl : acc.length ≤ 1000 := by rw [hacc]; exact HAL.out j
          clear hst hacc
          by_cases hjl : j < rows.length
          · obtain ⟨s, hs⟩ : ∃ s, s = rows.getD j [] := ⟨_, rfl⟩
            have hsm : s ∈ rows := by rw [hs]; simp [hjl]
            have hsl := HC.out.len s hsm
            have HSB : Hid (∀ z ∈ s, z.natAbs ≤ 20) := HC.out.bd s hsm
            have HSL : Hid (s.length = d + 1) := hsl
            have HIS : Hid (woAll rows k n ++ (woOne k f ++ woIn rows k f (j + 1)) = acc ++ woTwo k f s) := by show _ = _; rw [HAC.out, woIn_succ hjl, ← hs]; simp
            obtain ⟨b', o', cp', sv, hs', _, hcj, hsv⟩ := mat_cell HV.out hjl
            simp only [Value.slice.injEq, Option.some.injEq, Addr.mk.injEq] at hs'
            obtain ⟨⟨rfl, rfl, -⟩, -, -⟩ := hs'
            rw [← hs] at hsv
            obtain ⟨sb, so, sc, hss, hsc1, hscell⟩ := sl_cell hsv (k := k) (by omega)
            subst hss
            have HSV : Hid (∀ wr, Below w.heap.size w wr → Sl w.heap.size 3 wr (.slice (some ⟨sb, so, none⟩) s.length sc) (ints s)) := fun wr hb => hsv.below hb (Nat.le_refl _)
            have HSC0 : Hid (∀ wr, Below w.heap.size w wr → wr.cell? ⟨sb, so + k, none⟩ = some (.int .i64 (s.getD k 0))) := fun wr hb => (hb.cell (p := ⟨sb, so + k, none⟩) (lt_of_cell hscell)).trans hscell
            replace hcj := (hbc.cell (p := ⟨b, o + j, none⟩) (lt_of_cell hcj)).trans hcj
            replace hscell := HSC0.out wc hbc
            have HFC0 : Hid (∀ wr, Below w.heap.size w wr → wr.cell? ⟨fb, fo + k, none⟩ = some (.int .i64 (f.getD k 0))) := fun wr hb => by
              obtain ⟨fb', fo', fc', hfs, _, hfcell⟩ := sl_cell (HFV.out wr hb) (k := k) (by omega)
              simp only [Value.slice.injEq, Option.some.injEq, Addr.mk.injEq] at hfs
              obtain ⟨⟨rfl, rfl, -⟩, -, -⟩ := hfs
              exact hfcell
            have hfcell := HFC0.out wc hbc
            obtain ⟨gk, hgk⟩ : ∃ gk, gk = f.getD k 0 := ⟨_, rfl⟩
            obtain ⟨tk, htk⟩ : ∃ tk, tk = s.getD k 0 := ⟨_, rfl⟩
            rw [← hgk] at hfcell HFC0
            rw [← htk] at hscell HSC0
            have HKS : Hid (∀ acc ov wr, Wst W2 (w.heap.size + 1) acc ov wr → wr.cell? ⟨w.heap.size, 0, none⟩ = some (.int .i64 k) ∧ wr.cell? ⟨sb, so + k, none⟩ = some (.int .i64 tk) ∧ wr.cell? ⟨fb, fo + k, none⟩ = some (.int .i64 gk)) := fun acc ov wr h => by
              have hx := HKN.out wr h.but
              exact ⟨hx.1, HSC0.out wr hx.2, HFC0.out wr hx.2⟩
            clear HSC0 HFC0
            have hgb : gk.natAbs ≤ 20 := by rw [hgk]; exact getD_bd HFB.out
            have htb : tk.natAbs ≤ 20 := by rw [htk]; exact getD_bd HSB.out
            have HTW : Hid (woTwo k f s = if 0 < gk ∧ tk < 0 then keepL k (combL (-tk) f gk s) else []) := by show _ = _; rw [hgk, htk]; rfl
            have hks : (k : Int) < (s.length : Int) := by omega
            have hjI0 : (0 : Int) ≤ (j : Int) := by omega
            have hjI : (j : Int) < (rows.length : Int) := by omega
            clear hs hsm hsl hsv hgk htk hbc
            by_cases hpq : 0 < gk ∧ tk < 0
            · obtain ⟨hp, hq⟩ := hpq
              have HSS : Hid (woAll rows k n ++ (woOne k f ++ woIn rows k f (j + 1)) = acc ++ keepL k (combL (-tk) f gk s)) := by show _ = _; rw [HIS.out, HTW.out, if_pos ⟨hp, hq⟩]
              have hwn : IntKind.i64.wrap (-tk) = -tk := by rw [IntKind.wrap_i64]; omega
              have HAD : Hid (Calls Tryz.prog 44 #[.int .i64 (-tk), .slice (some ⟨fb, fo, none⟩) f.length fc, .int .i64 gk, .slice (some ⟨sb, so, none⟩) s.length sc] wc.drew fun e w' => ∃ ro rc, e = .returned (.slice ro f.length rc) ∧ Sl 0 3 w' (.slice ro f.length rc) (ints (combL (-tk) f gk s)) ∧ Wst W2 (w.heap.size + 1) acc ov2 w') := by
                refine (added_own w.heap.size f s (-tk) gk _ _ wc.drew (HFV.out wc HBC.out) (HSV.out wc HBC.out) (by rw [HFL.out, HSL.out]) (by omega) (by omega) hgb HFB.out HSB.out).mono ?_
                rintro e w' ⟨r, rfl, h1, h2⟩
                obtain ⟨ro, rc, rfl⟩ := owns_form h1
                refine ⟨ro, rc, rfl, Sl.own h1, ?_⟩
                have hsz := HSC.out.but.size
                have hs2 := HS2.out
                exact ⟨(h2.block _ (by show _ < wc.heap.size; omega)).trans HSC.out.out, Fr.below (w := wc.drew) HSC.out.rows h2 (Nat.le_refl _), HSC.out.but.trans ⟨h2.os, h2.tape, h2.output, h2.size, fun b hb _ => h2.block b (by show b < wc.heap.size; omega)⟩⟩
              have HKE : Hid (∀ ro rc w', Sl 0 3 w' (.slice ro f.length rc) (ints (combL (-tk) f gk s)) → Wst W2 (w.heap.size + 1) acc ov2 w' → Calls Tryz.prog 40 #[.slice ro f.length rc, .pointer (some ⟨w.heap.size, 0, none⟩), .pointer (some ⟨w.heap.size + 1, 0, none⟩)] w' fun e w'' => e = .returned (.tuple #[]) ∧ ∃ ov', Wst W2 (w.heap.size + 1) (woAll rows k n ++ (woOne k f ++ woIn rows k f (j + 1))) ov' w'') := fun ro rc w' h1 h2 => by
                rw [HSS.out]
                exact HKP.out 0 _ _ ov2 acc w' h2 h1 (by rw [combL_len]; exact hkd) (by rw [combL_len]; exact hfl10) (combL_bd (by omega) hgb HFB.out HSB.out) hacl
              go_wp2_with fail
              have KS : Hid (wc.cell? ⟨w.heap.size, 0, none⟩ = some (.int .i64 k) ∧ wc.cell? ⟨sb, so + k, none⟩ = some (.int .i64 tk) ∧ wc.cell? ⟨fb, fo + k, none⟩ = some (.int .i64 gk)) := ⟨hkc, hscell, hfcell⟩
              go_region_held3 (fun w' => w'.cell? ⟨w.heap.size, 0, none⟩ = some (.int .i64 k) ∧ w'.cell? ⟨sb, so + k, none⟩ = some (.int .i64 tk) ∧ w'.cell? ⟨fb, fo + k, none⟩ = some (.int .i64 gk)) (first | exact KS.out | go_keep)
                (first | (go_at_call 44; refine HAD.out.mono ?_; rintro e w1 ⟨ro, rc, rfl, h1, h2⟩; have HH : Hid (Sl 0 3 w1 (.slice ro f.length rc) (ints (combL (-tk) f gk s)) ∧ Wst W2 (w.heap.size + 1) acc ov2 w1) := ⟨h1, h2⟩; clear h1 h2 KS; have KS : Hid _ := HKS.out _ _ _ HH.out.2) | (go_at_call 40; refine (HKE.out ro rc w1 HH.out.1 HH.out.2).mono ?_; rintro e w2 ⟨rfl, ov3, h3⟩; have HA : Hid (Wst W2 (w.heap.size + 1) (woAll rows k n ++ (woOne k f ++ woIn rows k f (j + 1))) ov3 w2) := h3; clear h3 HH KS; have KS : Hid _ := HKS.out _ _ _ HA.out))
              all_goals
                clear HAD HKE hcj hscell hfcell hkc HKS
                go_wp2
                go_roundw
                case rel => exact ⟨j + 1, ov3, by omega, by go_num, HA.out⟩
                case measure => simp [intOf]; omega
            · have HSS : Hid (Wst W2 (w.heap.size + 1) (woAll rows k n ++ (woOne k f ++ woIn rows k f (j + 1))) ov2 wc) := by
                show Wst _ _ _ _ _
                rw [HIS.out, HTW.out, if_neg hpq, List.append_nil]
                exact HSC.out
              by_cases hp : 0 < gk
              · have hq : ¬ tk < 0 := fun h => hpq ⟨hp, h⟩
                clear hpq
                go_wp2
                go_roundw
                case rel => exact ⟨j + 1, ov2, by omega, by go_num, HSS.out⟩
                case measure => simp [intOf]; omega
              · clear hpq
                go_wp2
                go_roundw
                case rel => exact ⟨j + 1, ov2, by omega, by go_num, HSS.out⟩
                case measure => simp [intOf]; omega
          · have hje : j = rows.length := by omega
            subst hje
            have HSS : Hid (Wst W2 (w.heap.size + 1) (woAll rows k (n + 1)) ov2 wc) := by
              show Wst _ _ _ _ _
              rw [HAS.out, ← HAC.out]
              exact HSC.out
            clear hbc hkc
            go_wp2
            go_roundw
            case rel => exact ⟨n + 1, ov2, by omega, by go_num, HSS.out⟩
            case measure => simp [intOf]; omega
    · have hne : n = rows.length := by omega
      subst hne
      have hovc : wa.cell? ⟨w.heap.size + 1, 0, none⟩ = some ov := by simp [World.cell?, HSA.out.out]
      have HIO : Hid (Calls Tryz.prog 45 #[ov] wa fun e w' => ∃ u m', e = .returned u ∧ Fr w.heap.size 38 3 w' u m' ∧ Inor m' (woAll rows k rows.length) ∧ Below w.heap.size w w') := by
        refine (inOrder_any (w.heap.size + 1 + 1) _ ov wa HSA.out.rows (by have := woAll_len rows k rows.length h12; omega)).mono ?_
        rintro e w' ⟨u, m', rfl, h1, h2, h3⟩
        exact ⟨u, m', rfl, h1.mono (by omega), h2, HBW.out.trans (h3.mono (by omega))⟩
      go_wp2_with (go_at_call 45; refine HIO.out.mono ?_; rintro e w' ⟨u, m', rfl, h1, h2, h3⟩; have HH : Hid (Fr w.heap.size 38 3 w' u m' ∧ Inor m' (woAll rows k rows.length) ∧ Below w.heap.size w w') := ⟨h1, h2, h3⟩; clear h1 h2 h3)
      go_ret
      exact ⟨_, _, rfl, HH.out.1, HH.out.2.1, HH.out.2.2⟩

end Go.Proofs.YtknomkajibfmlaaGreat
