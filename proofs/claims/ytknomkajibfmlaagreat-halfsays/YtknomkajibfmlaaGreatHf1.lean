/- cone.Reaches (as it stands at 9328780): is there a way? -/
import Derived.Test.YtknomkajibfmlaaGreatRef1
import Derived.Test.YtknomkajibfmlaaGreatMgAU
import Derived.Sort.CutIn
namespace Go.Proofs.YtknomkajibfmlaaGreat
open Go.RowKit Go.Shelf
attribute [local go_sem] Oper.semAt_some

theorem sl_keepBB {B L : Nat} {e : TypeId} {w W : World} {v : Value} {xs : List Value} (he : e = 38 ∨ e = 3) (hB : B ≤ L) (h : Sl B e w v xs) (hL : ∃ y, w.heap[L]? = some (.cells #[y] 4 (0, 0))) (hk : ∀ b, b < w.heap.size → b ≠ L → W.heap[b]? = w.heap[b]?) : Sl B e W v xs :=
  h.move fun b hl ht => ⟨hk b hl (by
    obtain ⟨y, h1⟩ := hL
    rcases ht with ht | ⟨cur, ht⟩
    · omega
    · rintro rfl
      rw [h1] at ht
      rcases he with rfl | rfl <;> simp at ht), ht⟩

theorem mat_keepBB {B L : Nat} {w W : World} {v : Value} {m : List (List Int)} (hB : B ≤ L) (h : Mat B 38 3 w v m) (hL : ∃ y, w.heap[L]? = some (.cells #[y] 4 (0, 0))) (hk : ∀ b, b < w.heap.size → b ≠ L → W.heap[b]? = w.heap[b]?) : Mat B 38 3 W v m := by
  obtain ⟨vs, h1, h2, h4⟩ := h
  exact ⟨vs, h1, sl_keepBB (.inl rfl) hB h2 hL hk, fun i hi => sl_keepBB (.inr rfl) hB (h4 i hi) hL hk⟩

/-- Between the rounds; b: a way has been seen. -/
structure RcI (w WN : World) (NB : Nat) (S : Nat → Prop) (W : World) : Prop where
  sn : ∀ b, S b → NB ≤ b
  kp : Kpt (fun b => b < NB ∧ b ≠ w.heap.size) WN W
  os : W.os = w.os
  tape : W.tape = w.tape
  output : W.output = w.output
  ce : ∃ y, W.heap[w.heap.size]? = some (.cells #[y] 4 (0, 0))

theorem RcI.stab {w WN W W' : World} {NB : Nat} {S S' : Nat → Prop} (h : RcI w WN NB S W) (hL : w.heap.size < NB) (hN : NB ≤ WN.heap.size) (hc : Chg S W W') (hs : ∀ b, S' b → S b ∨ W.heap.size ≤ b) : RcI w WN NB S' W' ∧ W'.heap[w.heap.size]? = W.heap[w.heap.size]? := by
  have h0 := h.kp.size
  have hb : W'.heap[w.heap.size]? = W.heap[w.heap.size]? := hc.block _ (by omega) (fun hx => by have := h.sn _ hx; omega)
  obtain ⟨y, hy⟩ := h.ce
  refine ⟨⟨fun b hb => ?_, h.kp.trans (Kpt.of_chg hc fun i _ hi hsi => ?_), hc.os.trans h.os, hc.tape.trans h.tape, hc.output.trans h.output, y, hb.trans hy⟩, hb⟩
  · rcases hs b hb with h1 | h1
    · exact h.sn b h1
    · omega
  · have := h.sn i hsi
    omega

theorem one_set {w : World} {R : Nat} (a : Value) (h : ∃ y, w.heap[R]? = some (.cells #[y] 4 (0, 0))) :
    ∃ Ws, Ws = w.setCell ⟨R, 0, none⟩ a ∧ Ws.heap[R]? = some (.cells #[a] 4 (0, 0)) ∧ (∀ k, k ≠ R → Ws.heap[k]? = w.heap[k]?) ∧ Ws.heap.size = w.heap.size ∧ Ws.os = w.os ∧ Ws.tape = w.tape ∧ Ws.output = w.output := by
  obtain ⟨y, h1⟩ := h
  refine ⟨_, rfl, by rw [World.setCell]; simp [Array.getElem?_modify, h1], fun k h3 => Below.heap_setCell _ _ _ _ h3, by simp [World.setCell], rfl, rfl, rfl⟩

theorem acrL_mxW {g : List Int} {rs : List (List Int)} (hr : ∀ r ∈ rs, ∀ z ∈ r, z.natAbs ≤ 60) (hg : ∀ z ∈ g, z.natAbs ≤ 60) (h19 : rs.length ≤ 19) (hg4 : g.length ≤ 4) : MxW (rs.length + 1) (acrL g rs) := by
  refine ⟨fun r hr => ?_, fun r h z hz => ?_, by omega, by omega, by simpa [acrL] using hg4⟩
  · simp only [acrL, List.mem_map] at hr
    obtain ⟨i, _, rfl⟩ := hr
    simp [acrR]
  · simp only [acrL, List.mem_map] at h
    obtain ⟨i, _, rfl⟩ := h
    simp only [acrR, List.mem_append, List.mem_map, List.mem_singleton] at hz
    rcases hz with ⟨r, h1, rfl⟩ | rfl
    · by_cases e : i < r.length
      · exact hr r h1 _ (by simp [e])
      · simp [List.getElem?_eq_none (Nat.le_of_not_lt e)]
    · by_cases e : i < g.length
      · have := hg (g.getD i 0) (by simp [e])
        rw [Int.natAbs_neg]; exact this
      · simp [List.getElem?_eq_none (Nat.le_of_not_lt e)]

theorem all_snoc {zs : List Int} {k : Nat} {m : Int} (hk : k < zs.length) (h : decide (0 ≤ m) = (zs.take k).all fun z => decide (0 ≤ z)) : decide (0 ≤ min m (zs.getD k 0)) = (zs.take (k + 1)).all fun z => decide (0 ≤ z) := by
  rw [List.take_succ_eq_append_getElem hk, List.all_append, ← h]
  simp only [List.all_cons, List.all_nil, Bool.and_true]
  rw [Bool.eq_iff_iff]
  simp only [decide_eq_true_eq, Bool.and_eq_true, List.getD_eq_getElem?_getD, List.getElem?_eq_getElem hk, Option.getD_some]
  omega

set_option maxRecDepth 100000 in
set_option maxHeartbeats 400000 in
theorem minZ_any (B : Nat) (zs : List Int) (v : Value) (w : World) (hv : Sl B 3 w v (ints zs)) (hz : 1 ≤ zs.length) :
    Calls Tryz.prog 69 #[v] w fun e w' => ∃ m : Int, e = .returned (.int .i64 m) ∧ decide (0 ≤ m) = (zs.all fun z => decide (0 ≤ z)) ∧ w' = w := by
  obtain ⟨ao, cap, hvv, hlc, hcm⟩ := sl_open hv
  subst hvv
  have HV : Hid (Sl B 3 w (.slice ao zs.length cap) (ints zs)) := hv
  clear hv
  obtain ⟨b, o, cp, hs, hc1, hcc⟩ := sl_cell HV.out (k := 0) (by omega)
  simp only [Value.slice.injEq] at hs
  obtain ⟨rfl, _, rfl⟩ := hs
  simp only [Nat.add_zero] at hcc
  have H0 : Hid (decide (0 ≤ zs.getD 0 0) = (zs.take 1).all fun z => decide (0 ≤ z)) := by
    cases zs with
    | nil => simp at hz
    | cons z zs => show decide (0 ≤ z) = ([z].all fun z => decide (0 ≤ z)); simp only [List.all_cons, List.all_nil, Bool.and_true]
  have hz0 : (0 : Int) < (zs.length : Int) := by omega
  have hz1 : ¬ (zs.length : Int) < 1 := by omega
  generalize zs.getD 0 0 = z0 at *
  go_enter Tryz.func69, Tryz.ntmps69
  go_wp2
  go_loopw [4, 3] (fun i u wr => ∃ (k : Nat) (m : Int), 1 ≤ k ∧ k ≤ zs.length ∧ i = .int .i64 k ∧ u = .int .i64 m ∧ decide (0 ≤ m) = ((zs.take k).all fun z => decide (0 ≤ z)) ∧ wr = w) (fun i _ _ => zs.length - (intOf i).toNat)
  case atStart => exact ⟨1, z0, Nat.le_refl _, hz, rfl, rfl, H0.out, rfl⟩
  case round =>
    obtain ⟨k, m, hk1, hk, rfl, rfl, hm, rfl⟩ := hrel
    have HM : Hid (decide (0 ≤ m) = (zs.take k).all fun z => decide (0 ≤ z)) := hm
    clear hm
    by_cases hlt : k < zs.length
    · obtain ⟨b', o', cp', hs, hc1', hcc'⟩ := sl_cell HV.out hlt
      simp only [Value.slice.injEq, Option.some.injEq, Addr.mk.injEq, and_true] at hs
      obtain ⟨⟨rfl, rfl⟩, _, rfl⟩ := hs
      have HN := all_snoc hlt HM.out
      have HNN : Hid (decide (0 ≤ min m (zs.getD k 0)) = (zs.take (k + 1)).all fun z => decide (0 ≤ z)) := HN
      clear HN
      generalize zs.getD k 0 = z at *
      have kI : (k : Int) < (zs.length : Int) := by omega
      have kI0 : (0 : Int) ≤ (k : Int) := by omega
      go_wp2
      go_roundw
      case rel => exact ⟨k + 1, min m z, by omega, by omega, by go_num, by rw [min_if], HNN.out, trivial⟩
      case measure => simp [intOf]; omega
    · have hke : zs.take k = zs := List.take_of_length_le (by omega)
      have HE : Hid (decide (0 ≤ m) = zs.all fun z => decide (0 ≤ z)) := by rw [← hke]; exact HM.out
      have kI : ¬ (k : Int) < (zs.length : Int) := by omega
      go_wp2
      go_ret
      exact ⟨m, rfl, HE.out, rfl⟩

/-- How acrossOf and Normal stand here. -/
def AcN (rows : List (List Int)) (g : List Int) (w3 : World) (v gv : Value) : Prop :=
  Calls Tryz.prog 68 #[v, gv] w3 fun e wa => ∃ ao, e = .returned (.slice ao g.length g.length) ∧ Below w3.heap.size w3 wa ∧
    Calls Tryz.prog 67 #[.slice ao g.length g.length, .int .i64 ((rows.length : Int) + 1)] wa fun e w' => ∃ xo xc, e = .returned (.tuple #[.slice xo (wayN g rows).length xc, .bool (normB (rows.length + 1) (acrL g rows))]) ∧ w'.ownsRow wa.heap.size 3 1 (.slice xo (wayN g rows).length xc) (wayN g rows).length (ints (wayN g rows)) ∧ Below wa.heap.size wa w'

theorem acN_any (rows : List (List Int)) (g : List Int) (v gv : Value) (w : World) {B0 B1 : Nat} (hv0 : Mat B0 38 3 w v rows) (hg0 : Sl B1 3 w gv (ints g)) (hr : ∀ r ∈ rows, g.length ≤ r.length ∧ ∀ z ∈ r, z.natAbs ≤ 60) (hgb : ∀ z ∈ g, z.natAbs ≤ 60) (hg1 : 1 ≤ g.length) (hg4 : g.length ≤ 4) (hrl : rows.length ≤ 19) : AcN rows g w v gv := by
  have hv : Mat w.heap.size 38 3 w v rows := hv0.any (Nat.le_refl _)
  have hg : Sl w.heap.size 3 w gv (ints g) := hg0.any (Nat.le_refl _)
  clear hv0 hg0
  refine (across_any w.heap.size rows g v gv w hv hg hr hgb (by omega) (by omega)).mono ?_
  rintro e wa ⟨f, rfl, ha⟩
  refine ⟨_, rfl, ha.bel, ?_⟩
  have hl : (acrL g rows).length = g.length := by simp [acrL]
  have h := normalW_own 0 (rows.length + 1) (acrL g rows) _ wa (acrL_mxW (fun r h z hz => (hr r h).2 z hz) hgb hrl hg4) (ha.mat (B := 0) (by omega)) (by rw [hl]; omega) (by rw [hl]; omega)
  refine h.mono ?_
  rintro e w' ⟨x, rfl, ho, hb⟩
  obtain ⟨xo, xc, hx⟩ := owns_form ho
  subst hx
  exact ⟨xo, xc, rfl, ho, hb⟩

set_option maxRecDepth 100000 in
set_option maxHeartbeats 4000000 in
theorem reaches_one (rows : List (List Int)) (g : List Int) (v gv : Value) (w : World) {B0 B1 : Nat} (hv0 : Mat B0 38 3 w v rows) (hg0 : Sl B1 3 w gv (ints g)) (hr : ∀ r ∈ rows, g.length ≤ r.length ∧ ∀ z ∈ r, z.natAbs ≤ 60) (hgb : ∀ z ∈ g, z.natAbs ≤ 60) (hg1 : 1 ≤ g.length) (hg4 : g.length ≤ 4) (hrl : rows.length ≤ 19) (hb : normB (rows.length + 1) (acrL g rows) = true) :
    Calls Tryz.prog 46 #[v, gv] w fun e w' => e = .returned (.bool (!(waysL rows g).isEmpty)) ∧ Below w.heap.size w w' := by
  have hv : Mat w.heap.size 38 3 w v rows := hv0.any (Nat.le_refl _)
  have hg : Sl w.heap.size 3 w gv (ints g) := hg0.any (Nat.le_refl _)
  clear hv0 hg0
  obtain ⟨ro, rc, hvv, hlc, hcm⟩ := mat_open hv
  obtain ⟨go, gc, hgg, _, _⟩ := sl_open hg
  subst hvv hgg
  obtain ⟨w3, hw3⟩ : ∃ w3, w3 = w.alloc (.cells #[.bool false] 4) := ⟨_, rfl⟩
  have hb3 : Below w.heap.size w w3 := by rw [hw3]; exact alloc_keep _ _
  have hs3 : w3.heap.size = w.heap.size + 1 := by rw [hw3]; exact size_alloc _ _
  have HK3 : Hid (w3.heap[w.heap.size]? = some (.cells #[.bool false] 4 (0, 0))) := by rw [hw3]; exact alloc_new _ _
  have HB3 : Hid (Below w.heap.size w w3) := hb3
  have HAN : Hid (AcN rows g w3 (.slice ro rows.length rc) (.slice go g.length gc)) := acN_any rows g _ _ w3 (hv.below hb3 (Nat.le_refl _)) (hg.below hb3 (Nat.le_refl _)) hr hgb hg1 hg4 hrl
  have HE : Hid ((!(waysL rows g).isEmpty) = (decide (0 < (wayN g rows).getD rows.length 0) && (wayN g rows).all fun z => decide (0 ≤ z))) := reach_said hb
  have HLN : Hid ((wayN g rows).length = rows.length + 1) := norm_len hb
  have HNB : Hid (normB (rows.length + 1) (acrL g rows) = true) := hb
  have HS3 : Hid (w3.heap.size = w.heap.size + 1) := hs3
  have HW3 : Hid (w3 = w.alloc (.cells #[.bool false] 4)) := hw3
  clear hv hg hr hgb hb hb3 hs3 hw3
  go_enter Tryz.func46, Tryz.ntmps46
  go_wp2_with fail
  rw [← HW3.out]
  refine HAN.out.mono ?_
  rintro e wa ⟨ax, rfl, hba, hno⟩
  rw [HNB.out, HLN.out] at hno
  have HBA : Hid (Below w3.heap.size w3 wa) := hba
  clear hba HAN HW3
  go_wp2_with fail
  refine hno.mono ?_
  rintro e w5 ⟨xo, xc, rfl, ho, hb5⟩
  have hp := HBA.out.size
  have HB5 : Hid (Below w3.heap.size w3 w5) := HBA.out.trans (hb5.mono HBA.out.size)
  have HK5 : Hid (w5.heap[w.heap.size]? = some (.cells #[.bool false] 4 (0, 0))) := (HB5.out.block _ (by have := HS3.out; omega)).trans HK3.out
  have HSL : Hid (Sl 0 3 w5 (.slice xo (rows.length + 1) xc) (ints (wayN g rows))) := Sl.own ho
  obtain ⟨tb, too, tcp, hts, htc, htcell⟩ := sl_cell HSL.out (k := rows.length) (by rw [HLN.out]; omega)
  simp only [Value.slice.injEq] at hts
  obtain ⟨rfl, htl, rfl⟩ := hts
  clear htl
  have HMI : Hid (Calls Tryz.prog 69 #[.slice (some ⟨tb, too, none⟩) (rows.length + 1) xc] w5 fun e w' => ∃ m : Int, e = .returned (.int .i64 m) ∧ decide (0 ≤ m) = ((wayN g rows).all fun z => decide (0 ≤ z)) ∧ w' = w5) := minZ_any 0 (wayN g rows) _ w5 HSL.out (by rw [HLN.out]; omega)
  have HBF : Hid (∀ x : Value, Below w.heap.size w (w5.setCell ⟨w.heap.size, 0, none⟩ x)) := fun x => (HB3.out.trans (HB5.out.mono HB3.out.size)).setCell (p := ⟨w.heap.size, 0, none⟩) (Nat.le_refl _) _
  have f0 : w5.frozen? ⟨w.heap.size, 0, none⟩ = false := by simp [World.frozen?, HK5.out]
  have k0 : w5.cell? ⟨w.heap.size, 0, none⟩ = some (.bool false) := by simp [World.cell?, HK5.out]
  obtain ⟨al, hal⟩ : ∃ al, al = (wayN g rows).all fun z => decide (0 ≤ z) := ⟨_, rfl⟩
  rw [← hal] at HE HMI
  obtain ⟨y, hy⟩ : ∃ y, y = (wayN g rows).getD rows.length 0 := ⟨_, rfl⟩
  rw [← hy] at HE htcell
  have hrI : (rows.length : Int) < (rows.length : Int) + 1 := by omega
  have hrI0 : (0 : Int) ≤ (rows.length : Int) := by omega
  clear hal hy ho hb5 hno hp HSL HLN HNB HK3 HS3
  by_cases hpos : 0 < y
  · have hd : decide (0 < y) = true := decide_eq_true hpos
    go_wp2_with (go_at_call 69; refine HMI.out.mono ?_; rintro e w' ⟨mm, rfl, hmm, rfl⟩)
    refine bodyPost_ret (v := .bool al) (by simp [results, Tryz.results46, go_sem, *]) rfl ?_
    exact ⟨by rw [HE.out, hd]; rfl, HBF.out _⟩
  · have hd : decide (0 < y) = false := decide_eq_false hpos
    go_wp2
    refine bodyPost_ret (v := .bool false) (by simp [results, Tryz.results46, go_sem, *]) rfl ?_
    exact ⟨by rw [HE.out, hd]; rfl, HBF.out _⟩

set_option maxRecDepth 100000 in
set_option maxHeartbeats 8000000 in
theorem reaches_more (rows : List (List Int)) (g : List Int) (v gv : Value) (w : World) {B0 B1 : Nat} (hv0 : Mat B0 38 3 w v rows) (hg0 : Sl B1 3 w gv (ints g)) (hr : ∀ r ∈ rows, g.length ≤ r.length ∧ ∀ z ∈ r, z.natAbs ≤ 60) (hgb : ∀ z ∈ g, z.natAbs ≤ 60) (hg1 : 1 ≤ g.length) (hg4 : g.length ≤ 4) (hrl : rows.length ≤ 19) (hnb : normB (rows.length + 1) (acrL g rows) = false) :
    Calls Tryz.prog 46 #[v, gv] w fun e w' => e = .returned (.bool (!(waysL rows g).isEmpty)) ∧ Below w.heap.size w w' := by
  have hv : Mat w.heap.size 38 3 w v rows := hv0.any (Nat.le_refl _)
  have hg : Sl w.heap.size 3 w gv (ints g) := hg0.any (Nat.le_refl _)
  clear hv0 hg0
  obtain ⟨ro, rc, hvv, hlc, hcm⟩ := mat_open hv
  obtain ⟨go, gc, hgg, _, _⟩ := sl_open hg
  subst hvv hgg
  obtain ⟨w0, hw0⟩ : ∃ w0, w0 = w.alloc (.cells #[.bool false] 4) := ⟨_, rfl⟩
  have hb0 : Below w.heap.size w w0 := by rw [hw0]; exact alloc_keep _ _
  have hk0 : w0.heap[w.heap.size]? = some (.cells #[.bool false] 4 (0, 0)) := by rw [hw0]; exact alloc_new _ _
  have hs0 : w0.heap.size = w.heap.size + 1 := by rw [hw0]; exact size_alloc _ _
  have HAN : Hid (AcN rows g w0 (.slice ro rows.length rc) (.slice go g.length gc)) := acN_any rows g _ _ w0 (hv.below hb0 (Nat.le_refl _)) (hg.below hb0 (Nat.le_refl _)) hr hgb hg1 hg4 hrl
  have HW0 : Hid (w0 = w.alloc (.cells #[.bool false] 4)) := hw0
  have HB0 : Hid (Below w.heap.size w w0) := hb0
  have HK0 : Hid (w0.heap[w.heap.size]? = some (.cells #[.bool false] 4 (0, 0))) := hk0
  have HS0 : Hid (w0.heap.size = w.heap.size + 1) := hs0
  have HV0 : Hid (Mat w.heap.size 38 3 w0 (.slice ro rows.length rc) rows) := hv.below hb0 (Nat.le_refl _)
  have HG0 : Hid (Sl w.heap.size 3 w0 (.slice go g.length gc) (ints g)) := hg.below hb0 (Nat.le_refl _)
  have HRR : Hid (∀ r ∈ rows, g.length ≤ r.length ∧ ∀ z ∈ r, z.natAbs ≤ 60) := hr
  have HGB : Hid (∀ z ∈ g, z.natAbs ≤ 60) := hgb
  have HNB : Hid (normB (rows.length + 1) (acrL g rows) = false) := hnb
  clear hv hg hr hgb hw0 hb0 hk0 hs0 hnb
  refine callsIn_wide (n := 0).1 ?_
  refine callsIn_of_wp_marks Tryz.func46 rfl trivial ?_ rfl
  simp only [Tryz.ntmps46, List.size_toArray, List.length_cons, List.length_nil, Nat.reduceAdd, Nat.reduceSub, Array.replicate_succ, Array.replicate_zero, List.push_toArray, List.append_toArray, List.nil_append, List.cons_append]
  gi_upto_region 1 with fail
  rw [← HW0.out]
  gi_wp2_with (refine ⟨trivial, rfl, ?_⟩; gi_at_call 68; refine (callsIn_wide.2 HAN.out).mono ?_; rintro e wa ⟨ax, rfl, hba, hno⟩; have HBA : Hid (Below w0.heap.size w0 wa) := hba; clear hba; rw [HNB.out] at hno)
  gi_wp2_with (refine ⟨trivial, rfl, ?_⟩; gi_at_call 67; refine (callsIn_wide.2 hno).mono ?_; rintro e w3 ⟨xo, xc, rfl, ho, hb5⟩; have HB53 : Hid (Below wa.heap.size wa w3) := hb5; clear hb5 ho hno)
  have HW03 : Hid (Below w0.heap.size w0 w3) := HBA.out.trans (HB53.out.mono HBA.out.size)
  have HB3 : Hid (Below w.heap.size w w3) := HB0.out.trans (HW03.out.mono HB0.out.size)
  have HK3 : Hid (w3.heap[w.heap.size]? = some (.cells #[.bool false] 4 (0, 0))) := (HW03.out.block _ (by have := HS0.out; omega)).trans HK0.out
  have HS3 : Hid (w.heap.size < w3.heap.size) := by
    have h1 := HS0.out
    have h2 := HW03.out.size
    show _ < _
    omega
  have HV3 : Hid (Mat w.heap.size 38 3 w3 (.slice ro rows.length rc) rows) := HV0.out.below HW03.out (Nat.le_refl _)
  have HG3 : Hid (Sl w.heap.size 3 w3 (.slice go g.length gc) (ints g)) := HG0.out.below HW03.out (Nat.le_refl _)
  clear HW03 HBA HB53 HV0 HG0 HK0 HS0 HB0 HAN HNB HW0
  generalize (wayN g rows).length = xl at *
  gi_wp2_with (refine ⟨trivial, rfl, ?_⟩; gi_at_call 54; refine (callsIn_wide.2 (waysF_any _ _ _ _ _ _ _ _ _ rfl rfl)).mono ?_; rintro e w' ⟨rfl, rfl⟩)
  obtain ⟨NB, hNB⟩ : ∃ NB, NB = w3.heap.size := ⟨_, rfl⟩
  rw [← hNB]
  obtain ⟨WN, hWN⟩ : ∃ WN, WN = (w3.alloc (.cells #[.slice ro rows.length rc] 22)).alloc (.cells #[.slice go g.length gc] 38) := ⟨_, rfl⟩
  rw [← hWN]
  have hs3 := HS3.out
  have n1 : WN.heap[NB]? = some (.cells #[.slice ro rows.length rc] 22 (0, 0)) := by
    rw [hWN, hNB]; exact ((alloc_keep _ _).block _ (by rw [size_alloc]; omega)).trans (alloc_new _ _)
  have n2 : WN.heap[NB + 1]? = some (.cells #[.slice go g.length gc] 38 (0, 0)) := by
    have := alloc_new (w3.alloc (.cells #[.slice ro rows.length rc] 22)) (.cells #[.slice go g.length gc] 38)
    rw [size_alloc] at this
    rw [hWN, hNB]; exact this
  have hsN : WN.heap.size = NB + 2 := by rw [hWN, size_alloc, size_alloc, hNB]
  have hb3N : Below w3.heap.size w3 WN := by rw [hWN]; exact (alloc_keep _ _).trans ((alloc_keep _ _).mono (by rw [size_alloc]; omega))
  have hkeep : ∀ X, Kpt (fun b => b < NB ∧ b ≠ w.heap.size) WN X → ∀ b, b < w3.heap.size → b ≠ w.heap.size → X.heap[b]? = w3.heap[b]? := fun X hk b hb hne => (hk.block b (by omega) ⟨by omega, hne⟩).trans (hb3N.block b hb)
  have HSQ : SeqS Tryz.prog 76 #[.pointer (some ⟨NB + 1, 0, none⟩), .pointer (some ⟨NB, 0, none⟩)] (HandW rows g) (waysL rows g) (fun b => b < NB ∧ b ≠ w.heap.size) (fun b => b = NB + 1 ∨ b = NB) WN :=
    ways_seq w.heap.size (NB + 1) NB rows g ro go rc gc (fun b => b < NB ∧ b ≠ w.heap.size) WN (cell_of n2) (cell_of n1)
      (fun X hk => mat_keepBB (Nat.le_refl _) HV3.out ⟨_, HK3.out⟩ (hkeep X hk)) (fun X hk => sl_keepBB (.inr rfl) (Nat.le_refl _) HG3.out ⟨_, HK3.out⟩ (hkeep X hk))
      (fun b hb => by have := hb.1; omega) HRR.out HGB.out hg1 hg4 (by omega)
  have HSZ : Hid (WN.heap.size = NB + 2 ∧ w.heap.size < NB) := ⟨hsN, by omega⟩
  have HBN : Hid (∀ b, b < w.heap.size → WN.heap[b]? = w.heap[b]?) := fun b hb => (hb3N.block b (by omega)).trans (HB3.out.block b hb)
  have HI0 : Hid (RcI w WN NB (fun b => b = NB + 1 ∨ b = NB) WN) := ⟨fun b hb => by omega, Kpt.refl _ _, hb3N.os.trans HB3.out.os, hb3N.tape.trans HB3.out.tape, hb3N.output.trans HB3.out.output, _, (hb3N.block _ (by omega)).trans HK3.out⟩
  clear n1 n2 hb3N hNB hWN hkeep hs3 hsN
  refine range_s (R := HandW rows g) (cs := waysL rows g) (T := fun b => b < NB ∧ b ≠ w.heap.size) (S0 := fun b => b = NB + 1 ∨ b = NB) (gf := 76) (lb := #[.pointer (some ⟨NB + 1, 0, none⟩), .pointer (some ⟨NB, 0, none⟩)]) rfl (enters_of Tryz.func76 (by kernel_rfl) rfl) HSQ (fun b hb => by have := HSZ.out; omega)
    (fun W' S x vs ⟨_, _, _, _, h1, _⟩ => by rw [h1]; rfl) (handW_below _ _) (handW_put _ _)
    (fun S pre W' => pre = [] ∧ RcI w WN NB S W')
    (fun c S pre W' => c = .ret ∧ pre ≠ [] ∧ RcI w WN NB S W' ∧ W'.heap[w.heap.size]? = some (.cells #[.bool true] 4 (0, 0)))
    (fun S S' pre W' W'' h hc hs => ⟨h.1, (h.2.stab (by have := HSZ.out; omega) (by have := HSZ.out; omega) hc hs).1⟩) (fun c S S' pre W' W'' h hc hs => ⟨h.1, h.2.1, (h.2.2.1.stab (by have := HSZ.out; omega) (by have := HSZ.out; omega) hc hs).1, (h.2.2.1.stab (by have := HSZ.out; omega) (by have := HSZ.out; omega) hc hs).2.trans h.2.2.2⟩) ⟨rfl, HI0.out⟩
    (fun vs a' W' => ∃ p', a' = { tmps := #[.slice ro rows.length rc, .slice go g.length gc, undef, undef, .pointer (some ⟨w.heap.size, 0, none⟩), .slice xo xl xc, .bool false, .tuple #[.slice xo xl xc, .bool false], .slice ro rows.length rc, .slice go g.length gc, .slice ax g.length g.length, .slice ro rows.length rc, .int .i64 rows.length, .int .i64 ((rows.length : Int) + 1), .tuple #[.slice xo xl xc, .bool false], .slice xo xl xc, .bool false, .bool false, undef, undef, undef, undef, undef, undef, undef, undef, undef, undef, undef, .slice ro rows.length rc, .slice go g.length gc, .func (.func 76) #[] #[.pointer (some ⟨NB + 1, 0, none⟩), .pointer (some ⟨NB, 0, none⟩)], p'], defers := [] })
    ?hax ?assign ?body ?tl ?done ?stop
  case hax =>
    rintro vs a' W' l r o h hl
    exact h
  case tl => exact fun h => by have := h.1; have := HSZ.out; omega
  case assign =>
    rintro S y vs W' K ⟨co, cc, mo, mc, rfl, h2, h3⟩ hK
    gi_wp2
    exact hK _ _ (Below.refl _ _) ⟨.agg #[.slice co y.length cc, .slice mo y.length mc, .int .i64 ((wayN g (pks rows [] y)).getD y.length 0)], by simp⟩
  case body =>
    rintro S pre y vs a' W1 ⟨rfl, hi⟩ hSD hSL hlt1 hdf hlp hpre _ ⟨p', rfl⟩
    have HI : Hid (RcI w WN NB S W1) := hi
    obtain ⟨yv, hy⟩ := hi.ce
    have f0 : W1.frozen? ⟨w.heap.size, 0, none⟩ = false := by simp [World.frozen?, hy]
    have r0 : W1.cell? ⟨w.heap.size, 0, none⟩ = some yv := by simp [World.cell?, hy]
    clear hi hdf hlp hpre hy HSQ
    gi_wp2
    obtain ⟨Ws, hWs, g1, g2, g3, g4, g5, g6⟩ := one_set (.bool true) HI.out.ce
    rw [← hWs]
    have hnL : ∀ b, S b → b ≠ w.heap.size := fun b hx e => by have := HI.out.sn b hx; have := HSZ.out; omega
    exact ⟨⟨by omega, fun b hl hx => g2 b (hx.elim (hnL b) fun h => h.2)⟩, rfl, by simp, ⟨HI.out.sn, HI.out.kp.trans ⟨by omega, fun b hl hx => g2 b hx.2⟩, g4.trans HI.out.os, g5.trans HI.out.tape, g6.trans HI.out.output, _, g1⟩, g1⟩
  case done =>
    rintro S W' ⟨hnil, hi⟩ hSD hdf
    have HI : Hid (RcI w WN NB S W') := hi
    have HDF : Hid (W'.heap[WN.heap.size]? = some (.deferred (some []))) := hdf
    have HNIL : Hid (waysL rows g = []) := hnil
    obtain ⟨yv, hy⟩ := hi.ce
    have f0 : W'.frozen? ⟨w.heap.size, 0, none⟩ = false := by simp [World.frozen?, hy]
    have r0 : W'.cell? ⟨w.heap.size, 0, none⟩ = some yv := by simp [World.cell?, hy]
    clear hi hdf hnil hy HSQ
    gi_wp2
    obtain ⟨Ws, hWs, g1, g2, g3, g4, g5, g6⟩ := one_set (.bool false) HI.out.ce
    rw [← hWs]
    have hsz := HSZ.out
    have hws := HI.out.kp.size
    refine leaves_mks [WN.heap.size] Ws (by simp) (fun r hr => ?_) (fun w' hc => ⟨.bool false, ?_, ?_⟩)
    · simp only [List.mem_singleton] at hr
      subst hr
      exact (g2 _ (by omega)).trans HDF.out
    · have q1 : w'.heap[w.heap.size]? = _ := (hc.block _ (by omega) (by simp; omega)).trans g1
      simp [results, Tryz.results46, go_sem, World.cell?, q1]
    · refine ⟨by rw [HNIL.out]; rfl, hc.os.trans (g4.trans HI.out.os), hc.tape.trans (g5.trans HI.out.tape), hc.output.trans (g6.trans HI.out.output), by have := hc.size; omega, fun b hb => ?_⟩
      exact (hc.block b (by omega) (by simp; omega)).trans ((g2 b (by omega)).trans ((HI.out.kp.block b (by omega) ⟨by omega, by omega⟩).trans (HBN.out b hb)))
  case stop =>
    rintro c S pre W' hpre ⟨rfl, hne, hi, hk⟩ hSD hdf
    have HI : Hid (RcI w WN NB S W') := hi
    have HK : Hid (W'.heap[w.heap.size]? = some (.cells #[.bool true] 4 (0, 0))) := hk
    have HDF : Hid (W'.heap[WN.heap.size]? = some (.deferred (some []))) := hdf
    have HE : Hid ((!(waysL rows g).isEmpty) = true) := by
      obtain ⟨t, ht⟩ := hpre
      show _ = _
      rw [← ht]
      cases pre
      · exact absurd rfl hne
      · rfl
    clear hi hk hdf hpre hne HSQ
    gi_wp2
    have hsz := HSZ.out
    have hws := HI.out.kp.size
    refine leaves_mks [WN.heap.size] W' (by simp) (fun r hr => ?_) (fun w' hc => ⟨.bool true, ?_, ?_⟩)
    · simp only [List.mem_singleton] at hr
      subst hr
      exact HDF.out
    · have q1 : w'.heap[w.heap.size]? = _ := (hc.block _ (by omega) (by simp; omega)).trans HK.out
      simp [results, Tryz.results46, go_sem, World.cell?, q1]
    · refine ⟨by rw [HE.out], hc.os.trans HI.out.os, hc.tape.trans HI.out.tape, hc.output.trans HI.out.output, by have := hc.size; omega, fun b hb => ?_⟩
      exact (hc.block b (by omega) (by simp; omega)).trans ((HI.out.kp.block b (by omega) ⟨by omega, by omega⟩).trans (HBN.out b hb))


theorem reaches_any (rows : List (List Int)) (g : List Int) (v gv : Value) (w : World) {B0 B1 : Nat} (hv0 : Mat B0 38 3 w v rows) (hg0 : Sl B1 3 w gv (ints g)) (hr : ∀ r ∈ rows, g.length ≤ r.length ∧ ∀ z ∈ r, z.natAbs ≤ 60) (hgb : ∀ z ∈ g, z.natAbs ≤ 60) (hg1 : 1 ≤ g.length) (hg4 : g.length ≤ 4) (hrl : rows.length ≤ 19) :
    Calls Tryz.prog 46 #[v, gv] w fun e w' => e = .returned (.bool (!(waysL rows g).isEmpty)) ∧ Below w.heap.size w w' := by
  have hv : Mat w.heap.size 38 3 w v rows := hv0.any (Nat.le_refl _)
  have hg : Sl w.heap.size 3 w gv (ints g) := hg0.any (Nat.le_refl _)
  clear hv0 hg0
  cases hb : normB (rows.length + 1) (acrL g rows) with
  | true => exact reaches_one rows g v gv w hv hg hr hgb hg1 hg4 hrl hb
  | false => exact reaches_more rows g v gv w hv hg hr hgb hg1 hg4 hrl hb

end Go.Proofs.YtknomkajibfmlaaGreat
