import Derived.Test.YtgeajopenkkkaaaGreatSu0
import Derived.Test.YtgeajopenkkkaaaGreatRunB
import Derived.Test.YtgeajopenkkkaaaGreatWi1
/- Sums of segments (pure). -/
namespace Go.Proofs.YtgeajopenkkkaaaGreat
open Go.RowKit Lin

theorem ext_asc : ∀ (k n fr : Nat), SAsc (ext n k fr)
  | 0, n, fr => by simp [ext, SAsc]
  | k + 1, n, fr => by
    unfold SAsc
    simp only [ext, List.pairwise_flatMap]
    refine ⟨fun i _ => ?_, ?_⟩
    · rw [List.pairwise_map]
      refine (ext_asc k n (i + 1)).imp fun h => ?_
      simpa [cmpL] using h
    · refine (List.pairwise_lt_range' (s := fr) (n := n - fr)).imp fun {i j} h => ?_
      intro x hx y hy
      simp only [List.mem_map] at hx hy
      obtain ⟨a, _, rfl⟩ := hx
      obtain ⟨b, _, rfl⟩ := hy
      have : (i : Int) < (j : Int) := by omega
      simp [cmpL, this]

theorem sort_chosen {k n : Nat} {s : List (List Int)} (h : SAsc s) (hm : ∀ r, r ∈ s ↔ r ∈ chosenL k n) : s = ext n k 0 :=
  sasc_ext _ _ h (ext_asc k n 0) fun r => (hm r).trans chosen_ext

/-- All sums of some of the ways. -/
def zonP (z : List Int) (ways : List (List Int)) : List (List Int) := ways.foldl (fun A y => sumP A [z, y]) [z]

theorem zonP_snoc {z : List Int} {ways : List (List Int)} {k : Nat} (hk : k < ways.length) : zonP z (ways.take (k + 1)) = sumP (zonP z (ways.take k)) [z, ways.getD k []] := by
  unfold zonP
  rw [List.take_succ_eq_append_getElem hk, List.foldl_append]
  simp [hk]

theorem zonP_len {z : List Int} {ways : List (List Int)} : ∀ k, k ≤ ways.length → (zonP z (ways.take k)).length = 2 ^ k
  | 0, _ => rfl
  | k + 1, h => by
    rw [zonP_snoc (by omega), sumP_len, zonP_len k (by omega), Nat.pow_succ]
    rfl

def nul (d : Nat) : List Int := List.replicate d 0

theorem nul_box (d M : Nat) : Box d M [nul d] := by
  intro r hr
  rw [List.mem_singleton] at hr
  subst hr
  refine ⟨by simp [nul], fun z hz => ?_⟩
  have := List.eq_of_mem_replicate hz
  omega

theorem two_box {d M : Nat} {x : List Int} {ways : List (List Int)} (h : Box d M ways) (hx : x ∈ ways) : Box d M [nul d, x] := by
  intro r hr
  simp only [List.mem_cons, List.not_mem_nil, or_false] at hr
  rcases hr with rfl | rfl
  · exact nul_box d M _ (by simp)
  · exact h _ hx

theorem zonP_box {d M : Nat} {ways : List (List Int)} (h : Box d M ways) : ∀ k, k ≤ ways.length → Box d (M * k) (zonP (nul d) (ways.take k))
  | 0, _ => nul_box d _
  | k + 1, hk => by
    rw [zonP_snoc (by omega)]
    exact sumP_box (zonP_box h k (by omega)) (two_box h (by simp [show k < ways.length by omega]))

theorem add_nul {d : Nat} {x : List Int} (hx : x.length = d) : addL x (nul d) = x := by
  apply List.ext_getElem (by simp [addL])
  intro i h1 h2
  simp [addL, nul, hx, show i < d by rw [← hx]; exact h2]

theorem nul_add {d : Nat} {x : List Int} (hx : x.length = d) : addL (nul d) x = x := by
  apply List.ext_getElem (by simp [addL, nul, hx])
  intro i h1 h2
  have hi : i < d := by rw [← hx]; exact h2
  simp [addL, nul, hx, hi]

theorem zonP_up {d : Nat} {ways : List (List Int)} {x : List Int} (hx : x.length = d) {k : Nat} (hk : k < ways.length) (hm : x ∈ zonP (nul d) (ways.take k)) : x ∈ zonP (nul d) (ways.take (k + 1)) := by
  rw [zonP_snoc hk]
  exact mem_sumP.2 ⟨x, hm, nul d, by simp, add_nul hx⟩

theorem zonP_nul {d : Nat} {ways : List (List Int)} : ∀ k, k ≤ ways.length → nul d ∈ zonP (nul d) (ways.take k)
  | 0, _ => by simp [zonP]
  | k + 1, hk => zonP_up (by simp [nul]) (by omega) (zonP_nul k (by omega))

theorem zonP_way {d : Nat} {ways : List (List Int)} (h : ∀ y ∈ ways, y.length = d) {i : Nat} (hi : i < ways.length) : ∀ k, i < k → k ≤ ways.length → ways.getD i [] ∈ zonP (nul d) (ways.take k)
  | 0, h0, _ => by omega
  | k + 1, h0, hk => by
    have hl : (ways.getD i []).length = d := h _ (by simp [hi])
    by_cases e : i = k
    · subst e
      rw [zonP_snoc hi]
      exact mem_sumP.2 ⟨nul d, zonP_nul i (by omega), ways.getD i [], by simp, nul_add hl⟩
    · exact zonP_up hl (by omega) (zonP_way h hi k (by omega) (by omega))

/-- Ways that span: their sums don't lie flat. -/
theorem zon_good {d M : Nat} {ways : List (List Int)} (h : Box d M ways) (hM : M * ways.length ≤ 30) (hd1 : 1 ≤ d) (hd4 : d ≤ 4) (hn1 : 1 ≤ ways.length) (hn : ways.length ≤ 5) (hr : (pickL d ways).length = d) : Good d (zonP (nul d) ways) := by
  have hb := zonP_box h ways.length (Nat.le_refl _)
  have hl := zonP_len (z := nul d) (ways := ways) ways.length (Nat.le_refl _)
  have hnl := zonP_nul (d := d) (ways := ways) ways.length (Nat.le_refl _)
  have hwy : ∀ i, i < ways.length → ways.getD i [] ∈ zonP (nul d) (ways.take ways.length) := fun i hi => zonP_way (fun y hy => (h y hy).1) hi ways.length hi (Nat.le_refl _)
  rw [List.take_length] at hb hl hnl hwy
  have hb30 : Box d 30 (zonP (nul d) ways) := fun r hr => ⟨(hb r hr).1, fun z hz => by have := (hb r hr).2 z hz; omega⟩
  have hp1 : 2 ^ 1 ≤ 2 ^ ways.length := Nat.pow_le_pow_right (by decide) hn1
  have hp2 : 2 ^ ways.length ≤ 2 ^ 5 := Nat.pow_le_pow_right (by decide) hn
  refine ⟨hd1, hd4, by rw [hl]; exact hp1, by rw [hl]; omega, hb30, full_of_span (fun y hy => (hb y hy).1) fun c hc => ?_⟩
  have hgr := pick_greedy d ways
  refine (greedy_full hgr).1 (by rw [fm_length]; exact hr) c fun r hr => ?_
  obtain ⟨l, hl, rfl⟩ := mem_fm.1 hr
  obtain ⟨i, hi, rfl⟩ := List.mem_iff_getElem.1 hl
  have e : ways.getD i [] = ways[i] := by simp [hi]
  have h1 := hc _ (hwy i hi) _ hnl
  rw [e] at h1
  rw [dot_comm]
  show dot d c (V ways[i]) = 0
  rw [h1]
  unfold dot
  exact sumN_zero fun j hj => by simp [V, nul, hj]

/-- The document's sums have the same members. -/
theorem mem_sumS {A S Q : List (List Int)} (h : ∀ r, r ∈ S ↔ r ∈ A) (r : List Int) : r ∈ sumP S Q ↔ r ∈ sumP A Q := by
  rw [mem_sumP, mem_sumP]
  constructor
  · rintro ⟨x, hx, y, hy, e⟩
    exact ⟨x, (h x).1 hx, y, hy, e⟩
  · rintro ⟨x, hx, y, hy, e⟩
    exact ⟨x, (h x).2 hx, y, hy, e⟩

/-- How much is in the tile of a choice. -/
def tlA (ways : List (List Int)) (c : List Int) : Int := ((detL (pks ways [] c)).natAbs : Int)

/-- The choices that span. -/
def tlS (ways : List (List Int)) (l : List (List Int)) : List (List Int) := l.filter fun c => decide (detL (pks ways [] c) ≠ 0)

theorem tlS_snoc {ways l : List (List Int)} {k : Nat} (hk : k < l.length) : tlS ways (l.take (k + 1)) = tlS ways (l.take k) ++ (if detL (pks ways [] (l.getD k [])) ≠ 0 then [l.getD k []] else []) := by
  have e : l.getD k [] = l[k] := by simp [hk]
  unfold tlS
  rw [List.take_succ_eq_append_getElem hk, List.filter_append, e]
  by_cases h : detL (pks ways [] l[k]) = 0 <;> simp [h]

end Go.Proofs.YtgeajopenkkkaaaGreat

/- Whether segments may be: the program's way and the document's. -/
namespace Go.Proofs.YtgeajopenkkkaaaGreat
open Go.RowKit Lin
attribute [local go_sem ↓] Go.wp_at_zero Go.wp_at_succ

/-- Segments of raw numbers. -/
structure Wys (d : Nat) (ways : List (List Int)) : Prop where
  d1 : 1 ≤ d
  d3 : d ≤ 3
  n1 : 1 ≤ ways.length
  n5 : ways.length ≤ 5
  box : Box d 3 ways

/-- What is said of them: all is flat, or nothing. -/
def zE (d : Nat) (ways : List (List Int)) : Int := if (pickL d ways).length < d then 5 else 0

theorem Wys.mx {d : Nat} {ways : List (List Int)} (h : Wys d ways) : Mx d 60 ways := by
  have := h.d3
  refine ⟨fun r hr => (h.box r hr).1, fun r hr z hz => ?_, by omega, h.d1, by decide, Nat.le_trans (fb_mono (by decide) h.d3) (by decide)⟩
  have := (h.box r hr).2 z hz
  omega

theorem Wys.near {d : Nat} {ways : List (List Int)} (h : Wys d ways) {r : List Int} (hr : r ∈ ways) : (r.any (farB · 20)) = false := by
  rw [List.any_eq_false]
  intro z hz
  have := (h.box r hr).2 z hz
  simp only [farB, Bool.or_eq_true, decide_eq_true_eq, not_or]
  omega

theorem chk20_ok (B d : Nat) (x : List Int) (u : Value) (w : World) (hu : Sl B 3 w u (ints x)) (hx : x.length = d) (hn : (x.any (farB · 20)) = false) :
    Calls Tryz.prog 31 #[u, .int .i64 d, .int .i64 20] w fun e w' => e = .returned (.int .i64 0) ∧ Below w.heap.size w w' := by
  refine (chkL_any B d 20 x u w hu (by omega) (by omega)).mono ?_
  rintro e w' ⟨rfl, hb⟩
  exact ⟨by rw [if_neg (by simp [hx]), if_neg (by simp [hn])], hb⟩

set_option maxRecDepth 100000 in
set_option maxHeartbeats 1600000 in
theorem zcheck_any (d : Nat) (ways : List (List Int)) (v : Value) (w : World) (hv : Mat w.heap.size 22 3 w v ways) (h : Wys d ways) :
    Calls Tryz.prog 14 #[.int .i64 d, v] w fun e w' => e = .returned (.int .i64 (zE d ways)) ∧ Below w.heap.size w w' := by
  obtain ⟨vo, vc, rfl, _, _⟩ := mat_open hv
  have h1 := h.d1
  have h3 := h.d3
  have hn1 := h.n1
  have hn5 := h.n5
  have HM : Hid (∀ X, Below w.heap.size w X → Mat X.heap.size 22 3 X (.slice vo ways.length vc) ways) := fun X hX => (hv.below hX (Nat.le_refl _)).any (Nat.le_refl _)
  have HCX : Hid (∀ X k, Below w.heap.size w X → k < ways.length → ∃ qb qo yo yc, vo = some ⟨qb, qo, none⟩ ∧ X.cell? ⟨qb, qo + k, none⟩ = some (.slice yo d yc) ∧ Calls Tryz.prog 31 #[.slice yo d yc, .int .i64 d, .int .i64 20] X fun e w' => e = .returned (.int .i64 0) ∧ Below X.heap.size X w') := fun X k hX hk => by
    obtain ⟨qb, qo, qcp, q1, hqs, _, hqc, hq1⟩ := mat_cell (HM.out X hX) (k := k) hk
    simp only [Value.slice.injEq] at hqs
    have hkm : ways.getD k [] ∈ ways := by simp [hk]
    obtain ⟨yo, yc, rfl, _, _⟩ := sl_open hq1
    have hl := (h.box _ hkm).1
    have hne := h.near hkm
    rw [hl] at hqc hq1
    exact ⟨qb, qo, yo, yc, hqs.1, hqc, chk20_ok _ d (ways.getD k []) _ X hq1 hl hne⟩
  have HRK : Hid (∀ X, Below w.heap.size w X → Calls Tryz.prog 32 #[.slice vo ways.length vc, .int .i64 d] X fun e w' => e = .returned (.int .i64 ((pickL d ways).length : Nat)) ∧ Below X.heap.size X w') := fun X hX => rankP_any X.heap.size d ways _ X h.mx (HM.out X hX) (by omega) hn1
  have HZE : Hid (zE d ways = if (pickL d ways).length < d then 5 else 0) := rfl
  clear hv h HM
  generalize zE d ways = E at *
  generalize (pickL d ways).length = pk at *
  go_enter Tryz.func14, Tryz.ntmps14
  go_wp2
  go_loopw [24] (fun iv wr => ∃ i : Nat, i ≤ ways.length ∧ iv = .int .i64 (i : Int) ∧ Below w.heap.size w wr) (fun iv _ => ways.length - (intOf iv).toNat)
  case atStart => exact ⟨0, Nat.zero_le _, rfl, Below.refl _ _⟩
  case round =>
    obtain ⟨i, hi, rfl, hbr⟩ := hrel
    have HBR : Hid (Below w.heap.size w wr) := hbr
    clear hbr
    by_cases hlt : i < ways.length
    · obtain ⟨qb, qo, yo, yc, hvo, hc, HCH⟩ := HCX.out wr i HBR.out hlt
      subst hvo
      have hiI : (i : Int) < (ways.length : Int) := by omega
      go_wp2_with fail
      refine HCH.mono ?_
      rintro e w2 ⟨rfl, hb2⟩
      have HB2 : Hid (Below w.heap.size w w2) := HBR.out.trans (hb2.mono HBR.out.size)
      clear hb2 HCH hc
      go_wp2
      go_roundw
      case rel => exact ⟨i + 1, by omega, by go_num, HB2.out⟩
      case measure => simp [intOf]; omega
    · have HRR := HRK.out wr HBR.out
      clear HRK HCX
      go_wp2_with fail
      refine HRR.mono ?_
      rintro e w2 ⟨rfl, hb2⟩
      have HB2 : Hid (Below w.heap.size w w2) := HBR.out.trans (hb2.mono HBR.out.size)
      clear hb2 HRR
      by_cases hpk : pk < d
      · have hE := HZE.out
        rw [if_pos hpk] at hE
        subst hE
        have hpI : (pk : Int) < (d : Int) := by omega
        go_wp2
        go_ret
        exact ⟨rfl, HB2.out⟩
      · have hE := HZE.out
        rw [if_neg hpk] at hE
        subst hE
        go_wp2
        go_ret
        exact ⟨rfl, HB2.out⟩

set_option maxRecDepth 100000 in
set_option maxHeartbeats 1600000 in
theorem zmay_any (d : Nat) (ways : List (List Int)) (v : Value) (w : World) (hv : Mat w.heap.size 22 3 w v ways) (h : Wys d ways) :
    Calls Tryz.prog 8 #[.int .i64 d, v] w fun e w' => e = .returned (.int .i64 (zE d ways)) ∧ Below w.heap.size w w' := by
  obtain ⟨vo, vc, rfl, _, _⟩ := mat_open hv
  have h1 := h.d1
  have h3 := h.d3
  have hn1 := h.n1
  have hn5 := h.n5
  have HM : Hid (∀ X, Below w.heap.size w X → Mat X.heap.size 22 3 X (.slice vo ways.length vc) ways) := fun X hX => (hv.below hX (Nat.le_refl _)).any (Nat.le_refl _)
  have HCX : Hid (∀ X k, Below w.heap.size w X → k < ways.length → ∃ qb qo yo yc, vo = some ⟨qb, qo, none⟩ ∧ X.cell? ⟨qb, qo + k, none⟩ = some (.slice yo d yc) ∧ Calls Tryz.prog 18 #[.slice yo d yc, .int .i64 20] X fun e w' => e = .returned (.bool false) ∧ w' = X) := fun X k hX hk => by
    obtain ⟨qb, qo, qcp, q1, hqs, _, hqc, hq1⟩ := mat_cell (HM.out X hX) (k := k) hk
    simp only [Value.slice.injEq] at hqs
    have hkm : ways.getD k [] ∈ ways := by simp [hk]
    obtain ⟨yo, yc, rfl, _, _⟩ := sl_open hq1
    have hl := (h.box _ hkm).1
    have hne := h.near hkm
    rw [hl] at hqc hq1
    have hf := farAny_any _ (ways.getD k []) _ 20 X hq1 (by decide) (by decide)
    rw [hne] at hf
    exact ⟨qb, qo, yo, yc, hqs.1, hqc, hf⟩
  have HRK : Hid (∀ X, Below w.heap.size w X → Calls Tryz.prog 19 #[.slice vo ways.length vc] X fun e w' => e = .returned (.int .i64 ((pickL d ways).length : Nat)) ∧ Below X.heap.size X w') := fun X hX => rankR_any d 60 X.heap.size ways _ X h.mx (HM.out X hX) (by omega)
  have HZE : Hid (zE d ways = if (pickL d ways).length < d then 5 else 0) := rfl
  clear hv h HM
  generalize zE d ways = E at *
  generalize (pickL d ways).length = pk at *
  go_enter Tryz.func8, Tryz.ntmps8
  go_wp2
  go_loopw [5] (fun iv wr => ∃ i : Nat, i ≤ ways.length ∧ iv = .int .i64 (i : Int) ∧ Below w.heap.size w wr) (fun iv _ => ways.length - (intOf iv).toNat)
  case atStart => exact ⟨0, Nat.zero_le _, rfl, Below.refl _ _⟩
  case round =>
    obtain ⟨i, hi, rfl, hbr⟩ := hrel
    have HBR : Hid (Below w.heap.size w wr) := hbr
    clear hbr
    by_cases hlt : i < ways.length
    · obtain ⟨qb, qo, yo, yc, hvo, hc, HCH⟩ := HCX.out wr i HBR.out hlt
      subst hvo
      have hiI : (i : Int) < (ways.length : Int) := by omega
      have hdd : ((d : Int) != (d : Int)) = false := by simp
      go_wp2_with fail
      refine HCH.mono ?_
      rintro e w2 ⟨rfl, rfl⟩
      clear HCH hc
      go_wp2
      go_roundw
      case rel => exact ⟨i + 1, by omega, by go_num, HBR.out⟩
      case measure => simp [intOf]; omega
    · have HRR := HRK.out wr HBR.out
      clear HRK HCX
      go_wp2_with fail
      refine HRR.mono ?_
      rintro e w2 ⟨rfl, hb2⟩
      have HB2 : Hid (Below w.heap.size w w2) := HBR.out.trans (hb2.mono HBR.out.size)
      clear hb2 HRR
      by_cases hpk : pk < d
      · have hE := HZE.out
        rw [if_pos hpk] at hE
        subst hE
        have hpI : (pk : Int) < (d : Int) := by omega
        go_wp2
        go_ret
        exact ⟨rfl, HB2.out⟩
      · have hE := HZE.out
        rw [if_neg hpk] at hE
        subst hE
        go_wp2
        go_ret
        exact ⟨rfl, HB2.out⟩

theorem Wys.good {d : Nat} {ways : List (List Int)} (h : Wys d ways) (hE : zE d ways = 0) : Good d (zonP (nul d) ways) := by
  have h5 := h.n5
  have h3 := h.d3
  refine zon_good h.box (by omega) h.d1 (by omega) h.n1 h.n5 ?_
  have hc := pickL_cap d ways
  unfold zE at hE
  by_cases hp : (pickL d ways).length < d
  · rw [if_pos hp] at hE; omega
  · omega

theorem Wys.box15 {d : Nat} {ways : List (List Int)} (h : Wys d ways) : Box d 15 (zonP (nul d) ways) := fun r hr => by
  have hb := zonP_box h.box ways.length (Nat.le_refl _)
  rw [List.take_length] at hb
  have h5 := h.n5
  exact ⟨(hb r hr).1, fun z hz => by have := (hb r hr).2 z hz; omega⟩

end Go.Proofs.YtgeajopenkkkaaaGreat
