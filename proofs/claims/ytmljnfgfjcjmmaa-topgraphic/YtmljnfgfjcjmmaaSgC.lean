import Derived.Test.YtmljnfgfjcjmmaaSg3
/- plane.grown: texts of signs grow plane by plane. -/
namespace Go.Proofs.Ytmljnfgfjcjmmaa
open Go.RowKit Lin
attribute [local go_sem ↓] Go.wp_at_zero Go.wp_at_succ

def strT (t : List UInt8) : Value := .string ⟨t.toArray⟩
def strs (ts : List (List UInt8)) : List Value := ts.map strT

@[simp] theorem strs_len (ts : List (List UInt8)) : (strs ts).length = ts.length := by simp [strs]
theorem strs_get (ts : List (List UInt8)) (i : Nat) (h : i < ts.length) : (strs ts)[i]? = some (strT (ts.getD i [])) := by simp [strs, h]

theorem infoStr : (Try.prog.info? 9).map (fun i => (i.zero, i.size, i.bytes)) = some (some (.string ⟨#[]⟩), 1, 16) := by kernel_rfl

theorem one_str (b : ByteArray) : ∀ u ∈ [Value.string b], u.oneCell' = true := by
  intro u hu; simp at hu; subst hu; rfl

theorem sgs_cell {B : Nat} {e : TypeId} {w : World} {ao : Option Addr} {n cap : Nat} {ts : List (List UInt8)} (h : Sl B e w (.slice ao n cap) (strs ts)) {k : Nat} (hk : k < ts.length) : ∃ b o, ao = some ⟨b, o, none⟩ ∧ w.cell? ⟨b, o + k, none⟩ = some (strT (ts.getD k [])) := by
  obtain ⟨ao', cap', e1, _, _, h3, _⟩ := h
  simp only [Value.slice.injEq] at e1
  obtain ⟨rfl, _, _⟩ := e1
  obtain ⟨b, o, e2, hc, _⟩ := h3 k (by simpa using hk)
  exact ⟨b, o, e2, by rw [hc, strs_get _ _ hk]⟩

theorem flat3 {f : List UInt8 → List (List UInt8)} (hf : ∀ t, (f t).length ≤ 3) : ∀ l : List (List UInt8), (l.flatMap f).length ≤ 3 * l.length
  | [] => by simp
  | x :: l => by
    have := flat3 hf l
    have := hf x
    simp only [List.flatMap_cons, List.length_append, List.length_cons]
    omega

theorem str_add (t : List UInt8) (c : UInt8) : (⟨t.toArray⟩ : ByteArray) ++ ⟨#[c]⟩ = ⟨(t ++ [c]).toArray⟩ := by
  apply ByteArray.ext
  simp

end Go.Proofs.Ytmljnfgfjcjmmaa

/- plane.grown for + and - (made by mksg4r.py out of Sg4). -/
namespace Go.Proofs.Ytmljnfgfjcjmmaa
open Go.RowKit Lin
attribute [local go_sem ↓] Go.wp_at_zero Go.wp_at_succ

noncomputable def grOR (d : Nat) (P : List (List Int)) (p : List Int) (t : List UInt8) : List (List UInt8) := ([43, 45].filter (mtC (gaC d (clR P t) p) (gaC d (clR P t) (ngL p)))).map fun c => t ++ [c]

noncomputable def grTR (d : Nat) (P : List (List Int)) : Nat → List (List UInt8)
  | 0 => [[]]
  | k + 1 => (grTR d P k).flatMap (grOR d P (P.getD k []))

theorem own_low {B B' n sz : Nat} {e : TypeId} {w : World} {v : Value} {xs : List Value} (h : w.ownsRow B e sz v n xs) (hB : B' ≤ B) : w.ownsRow B' e sz v n xs := by
  refine ⟨h.1, ?_⟩
  rcases h.2 with h2 | ⟨g, cap, cur, rfl, hb, r⟩
  · exact Or.inl h2
  · exact Or.inr ⟨g, cap, cur, rfl, Nat.le_trans hB hb, r⟩

theorem grr_iff {d : Nat} {P : List (List Int)} : ∀ {k : Nat} {t : List UInt8}, t ∈ grTR d P k ↔ (t.length = k ∧ ∃ z, HasS d P t z) ∧ ∀ c ∈ t, c = 43 ∨ c = 45
  | 0, t => by
    simp only [grTR, List.mem_singleton]
    constructor
    · rintro rfl
      exact ⟨⟨rfl, fun _ => 1, by simp, fun i hi => absurd hi (by simp)⟩, by simp⟩
    · rintro ⟨⟨h, _⟩, _⟩
      exact List.length_eq_zero_iff.1 h
  | k + 1, t => by
    simp only [grTR, List.mem_flatMap]
    constructor
    · rintro ⟨u, hu, h⟩
      obtain ⟨⟨hk, hz⟩, hp⟩ := grr_iff.1 hu
      simp only [grOR, List.mem_map, List.mem_filter] at h
      obtain ⟨c, ⟨hc, hm⟩, rfl⟩ := h
      have hc2 : c = 43 ∨ c = 45 := by simpa using hc
      rw [← hk] at hm
      refine ⟨⟨by simp [hk], (grow_one hz (by rcases hc2 with h | h <;> simp [h])).1 hm⟩, fun q hq => ?_⟩
      rcases List.mem_append.1 hq with hq | hq
      · exact hp q hq
      · rw [List.mem_singleton.1 hq]; exact hc2
    · rintro ⟨⟨hl, z, hz⟩, hp⟩
      obtain ⟨u, c, rfl⟩ : ∃ u c, t = u ++ [c] := by
        refine ⟨t.dropLast, t.getLast (fun e => by rw [e] at hl; simp at hl), ?_⟩
        exact (List.dropLast_concat_getLast _).symm
      simp at hl
      obtain ⟨h1, h2⟩ := hasS_snoc.1 hz
      refine ⟨u, grr_iff.2 ⟨⟨hl, z, h1⟩, fun q hq => hp q (List.mem_append_left _ hq)⟩, ?_⟩
      have hc := hp c (by simp)
      simp only [grOR, List.mem_map, List.mem_filter]
      refine ⟨c, ⟨by simpa using hc, ?_⟩, rfl⟩
      rw [← hl]
      exact (grow_one ⟨z, h1⟩ (by rcases hc with h | h <;> simp [h])).2 ⟨z, hz⟩

theorem grOR_len (d : Nat) (P : List (List Int)) (p : List Int) (t : List UInt8) : (grOR d P p t).length ≤ 3 := by
  unfold grOR
  rw [List.length_map]
  exact Nat.le_trans (List.length_filter_le _ _) (by simp)

theorem grr_len (d : Nat) (P : List (List Int)) : ∀ k, (grTR d P k).length ≤ 3 ^ k
  | 0 => by simp [grTR]
  | k + 1 => by
    have h1 := grr_len d P k
    have h2 := flat3 (grOR_len d P (P.getD k [])) (grTR d P k)
    show ((grTR d P k).flatMap _).length ≤ _
    rw [Nat.pow_succ]
    omega

/-- What is there of a text behind the first signs. -/
def grJR (ab be : Bool) (t : List UInt8) (j : Nat) : List (List UInt8) := ((([43, 45] : List UInt8).take j).filter (mtC ab be)).map fun c => t ++ [c]

theorem grJR_succ (ab be : Bool) (t : List UInt8) (j : Nat) (hj : j < 2) : grJR ab be t (j + 1) = grJR ab be t j ++ (if mtC ab be (([43, 45] : List UInt8).getD j 0) then [t ++ [([43, 45] : List UInt8).getD j 0]] else []) := by
  unfold grJR
  have e : (([43, 45] : List UInt8).take (j + 1)) = ([43, 45] : List UInt8).take j ++ [([43, 45] : List UInt8).getD j 0] := by
    rw [List.take_add_one]; simp [hj]
  rw [e, List.filter_append, List.map_append]
  congr 1
  by_cases h : mtC ab be (([43, 45] : List UInt8).getD j 0) = true
  · rw [if_pos h, List.filter_cons, if_pos h]; rfl
  · rw [if_neg h, List.filter_cons, if_neg h]; rfl

theorem grJR_len (ab be : Bool) (t : List UInt8) (j : Nat) : (grJR ab be t j).length ≤ 3 := by
  unfold grJR
  rw [List.length_map]
  refine Nat.le_trans (List.length_filter_le _ _) ?_
  simp only [List.length_take, List.length_cons, List.length_nil]
  omega

/-- The row of longer texts, the iterator over signs, and both truths. -/
structure GwR (w0 : World) (L : List (List UInt8)) (it q5 q6 : Nat) (ab be : Bool) (j : Nat) (lv : Value) (wr : World) : Prop where
  own : wr.ownsRow w0.heap.size 9 1 lv L.length (strs L)
  ir : wr.heap[it]? = some (.stringIter ⟨#[43, 45]⟩ j)
  b5 : BoxB wr q5 ab
  b6 : BoxB wr q6 be
  bel : Below w0.heap.size w0 wr
  lo : w0.heap.size ≤ it ∧ w0.heap.size ≤ q5 ∧ w0.heap.size ≤ q6

theorem GwR.next {w0 : World} {L : List (List UInt8)} {it q5 q6 : Nat} {ab be : Bool} {j : Nat} {lv : Value} {wr : World} (h : GwR w0 L it q5 q6 ab be j lv wr) (j' : Nat) : GwR w0 L it q5 q6 ab be j' lv (wr.iterAt it ⟨#[43, 45]⟩ j') :=
  ⟨owns_iterAt h.own h.ir j', Lib.iterAt_heap wr it _ j j' h.ir, h.b5.iterAt h.ir j', h.b6.iterAt h.ir j', Lib.below_iterAt h.bel h.lo.1 _ _, h.lo⟩

theorem GwR.push {w0 : World} {L : List (List UInt8)} {it q5 q6 : Nat} {ab be : Bool} {j : Nat} {lv v' : Value} {wr w5 : World} {t : List UInt8} (h : GwR w0 L it q5 q6 ab be j lv wr) (ho : w5.ownsRow w0.heap.size 9 1 v' (L.length + 1) (strs L ++ [strT t])) (hg : (wr.alloc (.cells #[strT t] 9)).grownBy w5 lv.ownBlock) : GwR w0 (L ++ [t]) it q5 q6 ab be j v' w5 := by
  have hne : ∀ b, b < wr.heap.size → some b ≠ lv.ownBlock → w5.heap[b]? = wr.heap[b]? := fun b hb hn => (hg.block b (by simp; omega) hn).trans (Below.heap_alloc wr _ b hb)
  have hkind : ∀ g, lv.ownBlock = some g → ∃ cur, wr.heap[g]? = some (.cells cur 9 (0, 0)) := fun g hgb => by
    rcases h.own.2 with ⟨q, _⟩ | ⟨g', cap, cur, q, _, q2, _⟩
    · rw [q] at hgb; simp [Value.ownBlock] at hgb
    · rw [q] at hgb
      simp [Value.ownBlock] at hgb
      subst hgb
      exact ⟨cur, q2⟩
  have hbx : ∀ q b, BoxB wr q b → BoxB w5 q b := fun q b hq => (hne q hq.lt (fun e => by
    obtain ⟨cur, k⟩ := hkind q e.symm
    unfold BoxB at hq
    rw [hq] at k
    simp at k)).trans hq
  refine ⟨?_, (hne it (Array.getElem?_eq_some_iff.1 h.ir).1 (fun e => by
    obtain ⟨cur, k⟩ := hkind it e.symm
    rw [h.ir] at k; cases k)).trans h.ir, hbx _ _ h.b5, hbx _ _ h.b6, ?_, h.lo⟩
  · simpa [strs] using ho
  · refine (h.bel.alloc h.bel.size (.cells #[strT t] 9)).trans ⟨hg.os, hg.tape, hg.output, Nat.le_trans (by simp) hg.size, fun b hb => hg.block b (by have := h.bel.size; simp; omega) (fun e => ?_)⟩
    have := (h.own.lt b e.symm).1
    omega

set_option maxRecDepth 100000 in
set_option maxHeartbeats 3200000 in
theorem grownR_any (d : Nat) (P : List (List Int)) (v : Value) (w : World) (hv : Mat 0 22 3 w v P) (hP : ∀ p ∈ P, p.length = d + 1 ∧ ∀ z ∈ p, z.natAbs ≤ 20) (hd1 : 1 ≤ d) (hd3 : d ≤ 3) (hs6 : P.length ≤ 6) :
    Calls Try.prog 17 #[.int .i64 d, v, .string ⟨#[43, 45]⟩] w fun e w' => ∃ u, e = .returned u ∧ w'.ownsRow w.heap.size 9 1 u (grTR d P P.length).length (strs (grTR d P P.length)) ∧ Below w.heap.size w w' := by
  obtain ⟨i0, hi0, hz0, hz1, hz2⟩ := info_parts infoStr
  obtain ⟨ro, rc, hvv, hlc, hcm⟩ := mat_open hv
  subst hvv
  have HT : Hid (∀ k t, k < P.length → t ∈ grTR d P k → t.length = k ∧ (∀ c ∈ t, c = 43 ∨ c = 45 ∨ c = 48) ∧ CutOk d (clR P t) ∧ ∃ x y, Fea d (clR P t) x y) := fun k t hk ht => by
    obtain ⟨⟨h1, z, hz⟩, _⟩ := grr_iff.1 ht
    refine ⟨h1, fun c hc => ?_, ⟨hd1, hd3, ?_, fun r hr => ?_, fun r hr => ?_⟩, _, _, hz.fea⟩
    · obtain ⟨i, hi, e⟩ := List.getElem_of_mem hc
      have := hz.2 i hi
      rw [show t.getD i 0 = c by simp [hi, e]] at this
      rcases this with ⟨q, _⟩ | ⟨q, _⟩ | ⟨q, _⟩ <;> simp [q]
    · have := clT_len P t t.length
      show (clT P t t.length).length ≤ 12
      omega
    · obtain ⟨i, hi, h⟩ := clT_mem hr
      have := (hP (P.getD i []) (getD_memR (by omega))).1
      rcases h with rfl | rfl
      · exact this
      · simp only [ngL, List.length_map]; exact this
    · obtain ⟨i, hi, h⟩ := clT_mem hr
      have := (hP (P.getD i []) (getD_memR (by omega))).2
      rcases h with rfl | rfl
      · exact this
      · intro z hz
        simp only [ngL, List.mem_map] at hz
        obtain ⟨y, hy, rfl⟩ := hz
        have := this y hy
        omega
  have HCL : Hid (∀ k t X, k < P.length → t ∈ grTR d P k → Below w.heap.size w X → Calls Try.prog 33 #[.int .i64 d, .slice ro P.length rc, .string ⟨t.toArray⟩] X fun e w' => ∃ xo xc, e = .returned (.agg #[.int .i64 d, .slice xo (clR P t).length xc]) ∧ Mat 0 22 3 w' (.slice xo (clR P t).length xc) (clR P t) ∧ Below X.heap.size X w') := fun k t X hk ht hX => by
    obtain ⟨h1, h2, _, _⟩ := HT.out k t hk ht
    exact closed_any d P t _ X (hv.below hX (Nat.le_refl _)) hP hd3 (by omega) hs6 h2
  have HME : Hid (∀ k t X u pv, k < P.length → t ∈ grTR d P k → Mat 0 22 3 X u (clR P t) → Sl 0 3 X pv (ints (P.getD k [])) → Calls Try.prog 32 #[.agg #[.int .i64 d, u], pv] X fun e w' => ∃ q5 q6, e = .returned (.func (.func 50) #[] #[.pointer (some ⟨q5, 0, none⟩), .pointer (some ⟨q6, 0, none⟩)]) ∧ X.heap.size ≤ q5 ∧ X.heap.size ≤ q6 ∧ BoxB w' q5 (gaC d (clR P t) (P.getD k [])) ∧ BoxB w' q6 (gaC d (clR P t) (ngL (P.getD k []))) ∧ Below X.heap.size X w') := fun k t X u pv hk ht hu hp => by
    obtain ⟨_, _, h3, h4⟩ := HT.out k t hk ht
    obtain ⟨hl, hb⟩ := hP (P.getD k []) (getD_memR hk)
    exact meeting_any d _ _ _ _ X hu hp h3 hl hb h4
  have HV : Hid (∀ k, k < P.length → ∃ pb po pv, ro = some ⟨pb, po, none⟩ ∧ ∀ X, Below w.heap.size w X → X.cell? ⟨pb, po + k, none⟩ = some pv ∧ Sl 0 3 X pv (ints (P.getD k []))) := fun k hk => by
    obtain ⟨pb, po, cap, u, e1, _, h1, h2⟩ := mat_cell hv hk
    simp only [Value.slice.injEq] at e1
    exact ⟨pb, po, u, e1.1, fun X hX => ⟨(hX.cell (lt_of_cell h1)).trans h1, h2.below hX (Nat.le_refl _)⟩⟩
  have HG : Hid (∀ k, k < P.length → (grTR d P k).length ≤ 729 ∧ grTR d P (k + 1) = (grTR d P k).flatMap (grOR d P (P.getD k []))) := fun k hk => ⟨Nat.le_trans (grr_len d P k) (Nat.pow_le_pow_right (by decide) (by omega : k ≤ 6)), rfl⟩
  have HZ : Hid (grTR d P 0 = [[]]) := rfl
  clear hv hP HT
  go_enter Try.func17, Try.ntmps17
  go_wp2
  go_loopw [7, 19] (fun x i wr => ∃ (k : Nat) (ao : Option Addr) (ac : Nat), k ≤ P.length ∧ i = .int .i64 (k : Int) ∧ x = .slice ao (grTR d P k).length ac ∧ (grTR d P k).length ≤ ac ∧ wr.ownsRow w.heap.size 9 1 (.slice ao (grTR d P k).length ac) (grTR d P k).length (strs (grTR d P k)) ∧ Below w.heap.size w wr) (fun _ i _ => P.length - (intOf i).toNat)
  case atStart =>
    refine ⟨0, some ⟨w.heap.size, 0, none⟩, 1, Nat.zero_le _, rfl, rfl, by rw [HZ.out]; decide, ?_, (Below.refl _ _).alloc (Nat.le_refl _) _⟩
    rw [HZ.out]
    exact World.ownsRow_lit (base := w.heap.size) (e := 9) (size := 1) w #[.string { data := #[] }] 1 (Nat.le_refl _) (by unfold maxLen; omega) rfl
  case round =>
    obtain ⟨k, ao, ac, hk, rfl, rfl, hac, hsl, hbel⟩ := hrel
    by_cases hlt : k < P.length
    · obtain ⟨pb, po, pv, hro, hpc⟩ := HV.out k hlt
      subst hro
      obtain ⟨hgl, hgs⟩ := HG.out k hlt
      have HSU : Hid (grTR d P (k + 1) = (grTR d P k).flatMap (grOR d P (P.getD k []))) := hgs
      have HA : Hid (∀ X, Below wr.heap.size wr X → Sl 0 9 X (.slice ao (grTR d P k).length ac) (strs (grTR d P k))) := fun X hX => (Sl.own hsl).below hX (Nat.le_refl _)
      have HBR : Hid (Below w.heap.size w wr) := hbel
      have HCLk : Hid (∀ t X, t ∈ grTR d P k → Below w.heap.size w X → Calls Try.prog 33 #[.int .i64 d, .slice (some ⟨pb, po, none⟩) P.length rc, .string ⟨t.toArray⟩] X fun e w' => ∃ xo xc, e = .returned (.agg #[.int .i64 d, .slice xo (clR P t).length xc]) ∧ Mat 0 22 3 w' (.slice xo (clR P t).length xc) (clR P t) ∧ Below X.heap.size X w') := fun t X ht hX => HCL.out k t X hlt ht hX
      have HMEk : Hid (∀ t X u, t ∈ grTR d P k → Below w.heap.size w X → Mat 0 22 3 X u (clR P t) → Calls Try.prog 32 #[.agg #[.int .i64 d, u], pv] X fun e w' => ∃ q5 q6, e = .returned (.func (.func 50) #[] #[.pointer (some ⟨q5, 0, none⟩), .pointer (some ⟨q6, 0, none⟩)]) ∧ X.heap.size ≤ q5 ∧ X.heap.size ≤ q6 ∧ BoxB w' q5 (gaC d (clR P t) (P.getD k [])) ∧ BoxB w' q6 (gaC d (clR P t) (ngL (P.getD k []))) ∧ Below X.heap.size X w') := fun t X u ht hX hu => HME.out k t X u pv hlt ht hu (hpc X hX).2
      have HTL : Hid (∀ t ∈ grTR d P k, t.length ≤ 6) := fun t ht => by have := (grr_iff.1 ht).1.1; omega
      obtain ⟨cpv, _⟩ := hpc wr hbel
      obtain ⟨G, hG⟩ : ∃ G, G = grTR d P k := ⟨_, rfl⟩
      rw [← hG] at hac hgl HSU HA HCLk HMEk HTL
      have hkI : (k : Int) < (P.length : Int) := by omega
      have hkI0 : (0 : Int) ≤ (k : Int) := by omega
      rw [show (grTR d P k).length = G.length by rw [hG]]
      clear hsl hbel hgs hpc hG HCL HME HV HG HZ
      obtain ⟨w0, rfl⟩ : ∃ w0, w0 = wr := ⟨wr, rfl⟩
      go_wp2
      clear cpv
      go_loopw [10, 25] (fun x i wq => ∃ (j : Nat) (lo : Option Addr) (lc : Nat), j ≤ G.length ∧ i = .int .i64 (j : Int) ∧ x = .slice lo ((G.take j).flatMap (grOR d P (P.getD k []))).length lc ∧ wq.ownsRow w0.heap.size 9 1 (.slice lo ((G.take j).flatMap (grOR d P (P.getD k []))).length lc) ((G.take j).flatMap (grOR d P (P.getD k []))).length (strs ((G.take j).flatMap (grOR d P (P.getD k [])))) ∧ Below w0.heap.size w0 wq) (fun _ i _ => G.length - (intOf i).toNat)
      case atStart => exact ⟨0, none, 0, Nat.zero_le _, rfl, by simp, by simp [strs]; exact World.ownsRow_nil _ _ _ _, Below.refl _ _⟩
      case round =>
        obtain ⟨j, lo, lc, hj, rfl, rfl, hown, hb0⟩ := hrel
        obtain ⟨Lj, hLj⟩ : ∃ Lj, Lj = (G.take j).flatMap (grOR d P (P.getD k [])) := ⟨_, rfl⟩
        have hLl : Lj.length ≤ 2187 := by
          have := flat3 (grOR_len d P (P.getD k [])) (G.take j)
          rw [← hLj] at this
          have h2 : (G.take j).length ≤ G.length := by simp [List.length_take]; omega
          omega
        rw [← hLj] at hown
        rw [show ((G.take j).flatMap (grOR d P (P.getD k []))).length = Lj.length by rw [hLj]]
        have HLJ : Hid (Lj = (G.take j).flatMap (grOR d P (P.getD k []))) := hLj
        have HOW : Hid (wr.ownsRow w0.heap.size 9 1 (.slice lo Lj.length lc) Lj.length (strs Lj)) := hown
        have HB0 : Hid (Below w0.heap.size w0 wr) := hb0
        clear hown hb0 hLj
        by_cases hjl : j < G.length
        · have hmem : G.getD j [] ∈ G := by simp [hjl]
          obtain ⟨ab0, ao0, hao, hct⟩ := sgs_cell (HA.out wr HB0.out) hjl
          subst hao
          have HSN : Hid ((G.take (j + 1)).flatMap (grOR d P (P.getD k [])) = Lj ++ grOR d P (P.getD k []) (G.getD j [])) := by
            have e : G.take (j + 1) = G.take j ++ [G.getD j []] := by rw [List.take_add_one]; simp [hjl]
            show _ = _
            rw [e, List.flatMap_append, ← HLJ.out]
            simp
          obtain ⟨t, ht⟩ : ∃ t, t = G.getD j [] := ⟨_, rfl⟩
          rw [← ht] at hmem hct HSN
          have HC := HCLk.out t
          have HM := HMEk.out t
          have HCX : Hid (∀ X, Below w0.heap.size w0 X → Calls Try.prog 33 #[.int .i64 d, .slice (some ⟨pb, po, none⟩) P.length rc, .string ⟨t.toArray⟩] X fun e w' => ∃ xo xc, e = .returned (.agg #[.int .i64 d, .slice xo (clR P t).length xc]) ∧ Mat 0 22 3 w' (.slice xo (clR P t).length xc) (clR P t) ∧ Below X.heap.size X w') := fun X hX => HC X hmem (HBR.out.trans (hX.mono HBR.out.size))
          have HMX : Hid (∀ X u, Below w0.heap.size w0 X → Mat 0 22 3 X u (clR P t) → Calls Try.prog 32 #[.agg #[.int .i64 d, u], pv] X fun e w' => ∃ q5 q6, e = .returned (.func (.func 50) #[] #[.pointer (some ⟨q5, 0, none⟩), .pointer (some ⟨q6, 0, none⟩)]) ∧ X.heap.size ≤ q5 ∧ X.heap.size ≤ q6 ∧ BoxB w' q5 (gaC d (clR P t) (P.getD k [])) ∧ BoxB w' q6 (gaC d (clR P t) (ngL (P.getD k []))) ∧ Below X.heap.size X w') := fun X u hX hu => HM X u hmem (HBR.out.trans (hX.mono HBR.out.size)) hu
          have htl := HTL.out t hmem
          have HGO : Hid (grOR d P (P.getD k []) t = grJR (gaC d (clR P t) (P.getD k [])) (gaC d (clR P t) (ngL (P.getD k []))) t 2) := rfl
          have hjI : (j : Int) < (G.length : Int) := by omega
          have hjI0 : (0 : Int) ≤ (j : Int) := by omega
          change wr.cell? ⟨ab0, ao0 + j, none⟩ = some (.string ⟨t.toArray⟩) at hct
          obtain ⟨TB, hTB⟩ : ∃ TB : ByteArray, TB = ⟨t.toArray⟩ := ⟨_, rfl⟩
          have HTB : Hid (TB = ⟨t.toArray⟩) := hTB
          have hts : TB.size ≤ 6 := by rw [hTB]; exact htl
          rw [← hTB] at hct
          have HCX2 : Hid (∀ X, Below w0.heap.size w0 X → Calls Try.prog 33 #[.int .i64 d, .slice (some ⟨pb, po, none⟩) P.length rc, .string TB] X fun e w' => ∃ xo xc, e = .returned (.agg #[.int .i64 d, .slice xo (clR P t).length xc]) ∧ Mat 0 22 3 w' (.slice xo (clR P t).length xc) (clR P t) ∧ Below X.heap.size X w') := by rw [hTB]; exact HCX.out
          generalize gaC d (clR P t) (P.getD k []) = ab at *
          generalize gaC d (clR P t) (ngL (P.getD k [])) = be at *
          clear HC HM hmem ht hTB HCX htl
          go_wp2_with fail
          refine (HCX2.out wr HB0.out).mono ?_
          rintro e w2 ⟨xo, xc, rfl, hm2, hb2⟩
          have HB2 : Hid (Below w0.heap.size w0 w2) := HB0.out.trans (hb2.mono HB0.out.size)
          have HOW2 : Hid (w2.ownsRow w0.heap.size 9 1 (.slice lo Lj.length lc) Lj.length (strs Lj)) := owns_below HOW.out hb2 (Nat.le_refl _)
          have HM2 := HMX.out w2 _ HB2.out hm2
          have HM3 : Hid (Calls Try.prog 32 #[.agg #[.int .i64 d, .slice xo (clR P t).length xc], pv] w2 fun e w' => ∃ q5 q6, e = .returned (.func (.func 50) #[] #[.pointer (some ⟨q5, 0, none⟩), .pointer (some ⟨q6, 0, none⟩)]) ∧ w2.heap.size ≤ q5 ∧ w2.heap.size ≤ q6 ∧ BoxB w' q5 ab ∧ BoxB w' q6 be ∧ Below w2.heap.size w2 w') := HM2
          clear HM2 hm2 hb2 hct HCX2 HMX
          generalize (clR P t).length = cln at *
          go_wp2_with fail
          refine HM3.out.mono ?_
          rintro e w3 ⟨q5, q6, rfl, hq5, hq6, hx5, hx6, hb3⟩
          have hsz := HB2.out.size
          have HB3 : Hid (Below w0.heap.size w0 w3) := HB2.out.trans (hb3.mono HB2.out.size)
          have HI0 : Hid (GwR w0 (Lj ++ grJR ab be t 0) w3.heap.size q5 q6 ab be 0 (.slice lo Lj.length lc) (w3.iter ⟨#[43, 45]⟩ 0)) := by
            have ha : Below w3.heap.size w3 (w3.iter ⟨#[43, 45]⟩ 0) := (Below.refl _ _).alloc (Nat.le_refl _) _
            refine ⟨?_, World.iter_heap _ _ _, hx5.below ha (Nat.le_refl _), hx6.below ha (Nat.le_refl _), HB3.out.trans (ha.mono HB3.out.size), HB3.out.size, by omega, by omega⟩
            simp only [grJR, List.take_zero, List.filter_nil, List.map_nil, List.append_nil]
            exact owns_below (owns_below HOW2.out hb3 (Nat.le_refl _)) ha (Nat.le_refl _)
          clear hx5 hx6 hb3 hq5 hq6 hsz HM3
          go_wp2
          go_loopg [10] 2 (fun gk lv wz => ∃ (i : Nat) (so : Option Addr) (sc : Nat), i ≤ 2 ∧ gk = 2 - i ∧ lv = .slice so (Lj ++ grJR ab be t i).length sc ∧ GwR w0 (Lj ++ grJR ab be t i) w3.heap.size q5 q6 ab be i (.slice so (Lj ++ grJR ab be t i).length sc) wz)
          case atStart => exact ⟨0, lo, lc, by decide, rfl, by simp [grJR], by simpa [grJR] using HI0.out⟩
          case round =>
            obtain ⟨i, so, sc, hi, hgk, rfl, hI⟩ := hrel
            have HGK : Hid (gk = 2 - i) := hgk
            obtain ⟨L, hL⟩ : ∃ L, L = Lj ++ grJR ab be t i := ⟨_, rfl⟩
            have hLL : L.length ≤ 2190 := by
              have := grJR_len ab be t i
              rw [hL, List.length_append]; omega
            rw [← hL] at hI
            rw [show (Lj ++ grJR ab be t i).length = L.length by rw [hL]]
            have HL : Hid (L = Lj ++ grJR ab be t i) := hL
            clear hgk hL HI0
            by_cases hi3 : i < 2
            · obtain ⟨c, hc⟩ : ∃ c : UInt8, c = ([43, 45] : List UInt8).getD i 0 := ⟨_, rfl⟩
              have hcc : c = 43 ∨ c = 45 := by
                rw [hc]
                rcases (show i = 0 ∨ i = 1 by omega) with rfl | rfl <;> decide
              have hnx : ∀ ty, (Instr.next (.pointer (some ⟨w3.heap.size, 0, none⟩)) true ty).run Try.prog wr = .ok (.tuple #[.bool true, .int .i64 (i : Int), .int .i32 (c.toNat : Int)]) (wr.iterAt w3.heap.size ⟨#[43, 45]⟩ (i + 1)) := fun ty => by
                rw [hc]
                rcases (show i = 0 ∨ i = 1 by omega) with rfl | rfl
                · exact Lib.run_next_ascii_at wr _ _ 0 ty hI.ir (by decide) (by decide)
                · exact Lib.run_next_ascii_at wr _ _ 1 ty hI.ir (by decide) (by decide)
              have hconv : ∀ X, (Go.convert 21 9 (.int .i32 (c.toNat : Int))).run Try.prog X = .ok (.string ⟨#[c]⟩) X := fun X => by
                rcases hcc with rfl | rfl
                · kernel_rfl
                · kernel_rfl
              have HM1 : Hid (∀ X, BoxB X q5 ab → BoxB X q6 be → Calls Try.prog 50 #[.int .i32 (c.toNat : Int), .pointer (some ⟨q5, 0, none⟩), .pointer (some ⟨q6, 0, none⟩)] X fun e w' => e = .returned (.bool (mtC ab be c)) ∧ w' = X) := fun X h1 h2 => meet1_any c (hcc.imp id .inl) q5 q6 ab be X h1 h2
              have HSU2 : Hid (Lj ++ grJR ab be t (i + 1) = L ++ (if mtC ab be c then [t ++ [c]] else [])) := by
                show _ = _
                rw [grJR_succ ab be t i hi3, ← hc, HL.out, List.append_assoc]
              obtain ⟨CB, hCB⟩ : ∃ CB : ByteArray, CB = ⟨#[c]⟩ := ⟨_, rfl⟩
              have hcs : CB.size = 1 := by rw [hCB]; rfl
              have HAD : Hid (TB ++ CB = ⟨(t ++ [c]).toArray⟩) := by
                show _ = _
                rw [HTB.out, hCB]; exact str_add t c
              rw [← hCB] at hconv
              have hgm : 2 - (i + 1) < gk := by rw [HGK.out]; omega
              have hI1 := hI.next (i + 1)
              obtain ⟨w4, hw4⟩ : ∃ w4, w4 = wr.iterAt w3.heap.size ⟨#[43, 45]⟩ (i + 1) := ⟨_, rfl⟩
              rw [← hw4] at hnx hI1
              have HI1 : Hid (GwR w0 L w3.heap.size q5 q6 ab be (i + 1) (.slice so L.length sc) w4) := hI1
              have HMC := HM1.out w4 hI1.b5 hI1.b6
              generalize (c.toNat : Int) = ci at *
              have HM4 : Hid (Calls Try.prog 50 #[.int .i32 ci, .pointer (some ⟨q5, 0, none⟩), .pointer (some ⟨q6, 0, none⟩)] w4 fun e w' => e = .returned (.bool (mtC ab be c)) ∧ w' = w4) := HMC
              generalize mtC ab be c = mt at *
              clear hI hI1 hw4 hc hcc hCB HMC HM1 HL
              go_wp2_with fail
              refine HM4.out.mono ?_
              rintro e w5 ⟨rfl, rfl⟩
              clear HM4
              cases mt with
              | false =>
                have HF : Hid (GwR w0 (Lj ++ grJR ab be t (i + 1)) w3.heap.size q5 q6 ab be (i + 1) (.slice so L.length sc) w5) := by
                  show GwR _ _ _ _ _ _ _ _ _ _
                  rw [HSU2.out]
                  simpa using HI1.out
                have HFL : Hid (L.length = (Lj ++ grJR ab be t (i + 1)).length) := by
                  show _ = _
                  rw [HSU2.out]
                  simp
                go_wp2
                go_roundg (2 - (i + 1))
                case measure => exact hgm
                case rel => exact ⟨i + 1, so, sc, by omega, rfl, by rw [← HFL.out], by rw [← HFL.out]; exact HF.out⟩
              | true =>
                have hsz5 : w0.heap.size ≤ w5.heap.size := HI1.out.bel.size
                go_wp2_with (first | (at_builtin; refine wpList_append_own _ rfl _ _ 33 rfl w0.heap.size 9 i0 (.string ⟨#[]⟩) 1 16 Try.underlying33 hi0 hz0 hz1 hz2 rfl (by decide) _ _ _ rfl (HI1.out.own.alloc _) ⟨w5.heap.size, 0, none⟩ 1 1 [.string (TB ++ CB)] rfl rfl (one_new _ _ _) (one_str _) ?d3 ?d4 ?d5 ?_))
                case d3 => unfold maxLen; omega
                case d4 => omega
                case d5 => first | exact hsz5 | omega | (simp; omega)
                intro v' w6 ho hg _
                have HF : Hid (GwR w0 (Lj ++ grJR ab be t (i + 1)) w3.heap.size q5 q6 ab be (i + 1) v' w6) := by
                  show GwR _ _ _ _ _ _ _ _ _ _
                  rw [HAD.out] at ho hg
                  rw [HSU2.out]
                  exact HI1.out.push (t := t ++ [c]) ho hg
                have HFL : Hid ((Lj ++ grJR ab be t (i + 1)).length = L.length + 1) := by
                  show _ = _
                  rw [HSU2.out]
                  simp
                obtain ⟨vo, vc, hvf⟩ := owns_form ho
                subst hvf
                clear ho hg
                go_wp2
                go_roundg (2 - (i + 1))
                case measure => exact hgm
                case rel => exact ⟨i + 1, vo, vc, by omega, rfl, by rw [HFL.out], by rw [HFL.out]; exact HF.out⟩
            · have hie : i = 2 := by omega
              have hnx : ∀ ty, (Instr.next (.pointer (some ⟨w3.heap.size, 0, none⟩)) true ty).run Try.prog wr = .ok (.tuple #[.bool false]) wr := fun ty =>
                Lib.run_next_end_at wr _ _ i ty hI.ir (by rw [hie]; decide)
              have HO : Hid (wr.ownsRow w0.heap.size 9 1 (.slice so L.length sc) L.length (strs L)) := hI.own
              have HBZ : Hid (Below w0.heap.size w0 wr) := hI.bel
              have HSE : Hid (L = (G.take (j + 1)).flatMap (grOR d P (P.getD k []))) := by
                show _ = _
                rw [HSN.out, HGO.out, HL.out, hie]
              clear hie hI HL HSN HGO
              go_wp2
              go_roundw
              case rel =>
                refine ⟨j + 1, so, sc, by omega, by go_num, by rw [← HSE.out], ?_, HBZ.out⟩
                rw [← HSE.out]
                exact HO.out
              case measure => simp [intOf]; omega
        · have hje : j = G.length := by omega
          have HSE : Hid (Lj = grTR d P (k + 1)) := by
            show _ = _
            rw [HLJ.out, HSU.out, hje, List.take_length]
          have HSL : Hid (Sl 0 9 wr (.slice lo Lj.length lc) (strs Lj)) := Sl.own HOW.out
          have HOL : Hid (wr.ownsRow w.heap.size 9 1 (.slice lo Lj.length lc) Lj.length (strs Lj)) := own_low HOW.out HBR.out.size
          have HBZ : Hid (Below w.heap.size w wr) := HBR.out.trans (HB0.out.mono HBR.out.size)
          have hlc2 : Lj.length ≤ lc := by
            obtain ⟨_, _, e, q, _⟩ := HSL.out
            simp only [Value.slice.injEq] at e
            obtain ⟨_, _, rfl⟩ := e
            simpa using q
          clear hje HLJ HSU
          go_wp2
          go_roundw
          case rel => exact ⟨k + 1, lo, lc, by omega, by go_num, by rw [← HSE.out], by rw [← HSE.out]; exact hlc2, by rw [← HSE.out]; exact HOL.out, HBZ.out⟩
          case measure => simp [intOf]; omega
    · have hke : k = P.length := by omega
      have HS : Hid (wr.ownsRow w.heap.size 9 1 (.slice ao (grTR d P k).length ac) (grTR d P P.length).length (strs (grTR d P P.length))) := by rw [← hke]; exact hsl
      have HBZ : Hid (Below w.heap.size w wr) := hbel
      clear hke hsl hbel HCL HME HV HG HZ
      go_wp2
      go_ret
      exact ⟨_, rfl, HS.out, HBZ.out⟩

end Go.Proofs.Ytmljnfgfjcjmmaa
