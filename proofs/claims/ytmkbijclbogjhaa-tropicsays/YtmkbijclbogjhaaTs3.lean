/- Roots, sorted. -/
import Derived.Test.YtmkbijclbogjhaaTs0
import Derived.Test.YtmkbijclbogjhaaTs2
namespace Go.Proofs.Ytmkbijclbogjhaa
open Go.Shelf Go.RowKit Go.Lib Go.Sort

/-- A root's three cells. -/
def encT (t : Int × Int × Int) : List Value := [.int .i64 t.1, .int .i64 t.2.1, .int .i64 t.2.2]

/-- Roots that are small. -/
def MT : Type := { p : Int × Int × Int // (1 ≤ p.2.1 ∧ p.2.1 ≤ 19) ∧ (-20000 ≤ p.1 ∧ p.1 ≤ 20000) }

instance : Inhabited MT := ⟨⟨(0, 1, 0), by decide⟩⟩

def MT.enc (x : MT) : List Value := encT x.1
def MT.cf (x y : MT) : Int := cmpI (x.1.1 * y.1.2.1) (y.1.1 * x.1.2.1)

theorem cmpI_lt (x y : Int) : cmpI x y < 0 ↔ x < y := by
  unfold cmpI
  split
  · simp [*]
  · split <;> simp [*] <;> omega

theorem MT.lt_iff (x y : MT) : ltOf MT.cf x y = decide (x.1.1 * y.1.2.1 < y.1.1 * x.1.2.1) := by
  unfold ltOf MT.cf
  rw [Bool.eq_iff_iff, decide_eq_true_iff, decide_eq_true_iff]
  exact cmpI_lt _ _

/-- Quotients: one below another, and that one below a third. -/
theorem quo_lt {a b c d e f : Int} (hb : 0 < b) (hd : 0 < d) (hf : 0 < f) (h1 : a * d < c * b) (h2 : c * f < e * d) : a * f < e * b := by
  have p1 : a * d * f < c * b * f := Int.mul_lt_mul_of_pos_right h1 hf
  have p2 : c * f * b < e * d * b := Int.mul_lt_mul_of_pos_right h2 hb
  have e1 : a * d * f = a * f * d := by rw [Int.mul_assoc, Int.mul_comm d f, ← Int.mul_assoc]
  have e2 : c * b * f = c * f * b := by rw [Int.mul_assoc, Int.mul_comm b f, ← Int.mul_assoc]
  have e3 : e * d * b = e * b * d := by rw [Int.mul_assoc, Int.mul_comm d b, ← Int.mul_assoc]
  have : a * f * d < e * b * d := by omega
  exact Int.lt_of_mul_lt_mul_right this (by omega)

theorem quo_le {a b c d e f : Int} (hb : 0 < b) (hd : 0 < d) (hf : 0 < f) (h1 : a * d ≤ c * b) (h2 : c * f ≤ e * d) : a * f ≤ e * b := by
  have p1 : a * d * f ≤ c * b * f := Int.mul_le_mul_of_nonneg_right h1 (by omega)
  have p2 : c * f * b ≤ e * d * b := Int.mul_le_mul_of_nonneg_right h2 (by omega)
  have e1 : a * d * f = a * f * d := by rw [Int.mul_assoc, Int.mul_comm d f, ← Int.mul_assoc]
  have e2 : c * b * f = c * f * b := by rw [Int.mul_assoc, Int.mul_comm b f, ← Int.mul_assoc]
  have e3 : e * d * b = e * b * d := by rw [Int.mul_assoc, Int.mul_comm d b, ← Int.mul_assoc]
  have : a * f * d ≤ e * b * d := by omega
  exact Int.le_of_mul_le_mul_right this hd

theorem MT.swo : SWO (ltOf MT.cf) where
  irrefl x := by rw [MT.lt_iff]; simp
  trans x y z h1 h2 := by
    rw [MT.lt_iff, decide_eq_true_iff] at *
    exact quo_lt (by have := x.2; omega) (by have := y.2; omega) (by have := z.2; omega) h1 h2
  ntrans x y z h1 h2 := by
    rw [MT.lt_iff, decide_eq_false_iff_not] at *
    have := quo_le (a := z.1.1) (b := z.1.2.1) (c := y.1.1) (d := y.1.2.1) (e := x.1.1) (f := x.1.2.1) (by have := z.2; omega) (by have := y.2; omega) (by have := x.2; omega) (by omega) (by omega)
    omega

theorem MT.one (x : MT) : ∀ v ∈ MT.enc x, v.oneCell' = true := by
  intro v hv
  simp only [MT.enc, encT, List.mem_cons, List.not_mem_nil, or_false] at hv
  rcases hv with rfl | rfl | rfl <;> rfl

theorem prod_bd {x y : Int} (hx : -20000 ≤ x ∧ x ≤ 20000) (hy : 1 ≤ y ∧ y ≤ 19) : -400000 ≤ x * y ∧ x * y ≤ 400000 := by
  have h1 : (x * y).natAbs ≤ 20000 * 20 := by rw [Int.natAbs_mul]; exact Nat.mul_le_mul (by omega) (by omega)
  omega

set_option maxRecDepth 100000 in
set_option maxHeartbeats 1000000 in
theorem rootsCmp_any (x y : MT) (W : World) : Calls Try.prog 16 #[.agg (MT.enc x).toArray, .agg (MT.enc y).toArray] W fun e w' => e = .returned (.int .i64 (MT.cf x y)) ∧ ∃ q os', w' = grow (W.drewN q) os' := by
  obtain ⟨⟨x0, x1, x2⟩, hx1, hx0⟩ := x
  obtain ⟨⟨y0, y1, y2⟩, hy1, hy0⟩ := y
  show Calls Try.prog 16 #[.agg #[.int .i64 x0, .int .i64 x1, .int .i64 x2], .agg #[.int .i64 y0, .int .i64 y1, .int .i64 y2]] W fun e w' => e = .returned (.int .i64 (cmpI (x0 * y1) (y0 * x1))) ∧ ∃ q os', w' = grow (W.drewN q) os'
  simp only at hx1 hx0 hy1 hy0
  have b1 := prod_bd hx0 hy1
  have b2 := prod_bd hy0 hx1
  have hcon := fun W' => cmpI_any (x0 * y1) (y0 * x1) W'
  generalize hp : x0 * y1 = p at *
  generalize hq : y0 * x1 = q at *
  generalize cmpI p q = r at hcon ⊢
  obtain ⟨b11, b12⟩ := b1
  obtain ⟨b21, b22⟩ := b2
  go_enter Try.func16, Try.ntmps16
  go_wp2_with (go_at_call 17; refine (hcon _).mono ?_; rintro e w' ⟨rfl, rfl⟩)
  go_ret
  exact ⟨rfl, 0, _, by rw [alloc_eq_grow, alloc_eq_grow, grow_grow]; rfl⟩

theorem flat_get : ∀ (m : List (Int × Int × Int)) (t : Nat), t < m.length * 3 → (m.flatMap encT)[t]? = (encT (m.getD (t / 3) (0, 1, 0)))[t % 3]?
  | [], t, h => by simp at h
  | x :: m, t, h => by
    rw [List.flatMap_cons]
    by_cases ht : t < 3
    · rw [List.getElem?_append_left (by simp [encT]; exact ht), Nat.div_eq_of_lt ht, Nat.mod_eq_of_lt ht]
      simp
    · rw [List.getElem?_append_right (by simp [encT]; omega)]
      have ih := flat_get m (t - 3) (by simp at h; omega)
      have e1 : (encT x).length = 3 := rfl
      rw [e1, ih]
      have e2 : t / 3 = (t - 3) / 3 + 1 := by omega
      have e3 : t % 3 = (t - 3) % 3 := by omega
      rw [e2, e3]
      simp

theorem flatT_len (m : List (Int × Int × Int)) : (m.flatMap encT).length = m.length * 3 := by
  induction m with
  | nil => rfl
  | cons x m ih => rw [List.flatMap_cons, List.length_append, ih]; simp [encT]; omega

theorem Try.isAggT : ∀ w, (isAgg 30).run Try.prog w = .ok true w := fun w => by kernel_rfl
theorem Try.infoT : (Try.prog.info? 30).map (fun i => (i.zero, i.size, i.bytes)) = some (some (.agg #[.int .i64 0, .int .i64 0, .int .i64 0]), 3, 24) := by kernel_rfl
theorem Try.sizeOfT : ∀ w, (Go.sizeOf 30).run Try.prog w = .ok 3 w := fun w => by kernel_rfl

theorem mem_getT (m : List (Int × Int × Int)) (i : Nat) (h : i < m.length) : m.getD i (0, 1, 0) ∈ m := by
  have e : m.getD i (0, 1, 0) = m[i] := by simp [h]
  rw [e]
  exact List.getElem_mem _

/-- Roots that may be sorted. -/
def Sma (m : List (Int × Int × Int)) : Prop := ∀ t ∈ m, (1 ≤ t.2.1 ∧ t.2.1 ≤ 19) ∧ (-20000 ≤ t.1 ∧ t.1 ≤ 20000)

set_option maxRecDepth 100000 in
set_option maxHeartbeats 1000000 in
theorem sortT_any (B : Nat) (m : List (Int × Int × Int)) (v : Value) (w : World) (hv : w.ownsRow B 30 3 v m.length (m.flatMap encT)) (hs : Sma m) (hm : m.length ≤ 1000000) :
    Calls Try.prog 15 #[v, .func (.func 16) #[] #[]] w fun e w' => e = .returned (.tuple #[]) ∧ ∃ m' : List (Int × Int × Int), m'.Perm m ∧ (∀ i j, i < j → j < m'.length → ¬ (m'.getD j (0, 1, 0)).1 * (m'.getD i (0, 1, 0)).2.1 < (m'.getD i (0, 1, 0)).1 * (m'.getD j (0, 1, 0)).2.1) ∧ w'.ownsRow B 30 3 v m'.length (m'.flatMap encT) ∧ Below B w w' ∧ w.grownBy w' v.ownBlock := by
  by_cases h0 : m.length = 0
  · have hm0 : m = [] := List.eq_nil_of_length_eq_zero h0
    subst hm0
    obtain ⟨ao, cap, hvv⟩ : ∃ ao cap, v = .slice ao 0 cap := by
      rcases hv.2 with ⟨h, _⟩ | ⟨g, cap, cur, h, _⟩
      · exact ⟨_, _, h⟩
      · exact ⟨_, _, h⟩
    subst hvv
    have hcon := AnyF.slices_SortFunc_none (P := Try.prog) (ρ := Try.sortT_ren) { Try.sortT with } ao cap (.func (.func 16) #[] #[]) w
    change Calls Try.prog 15 _ _ _ at hcon
    refine hcon.mono ?_
    rintro e w' ⟨rfl, rfl⟩
    exact ⟨rfl, [], List.Perm.refl _, fun i j _ h => absurd h (by simp), hv, Below.refl _ _, rfl, rfl, rfl, Nat.le_refl _, fun _ _ _ => rfl⟩
  · obtain ⟨g, cap, cur, hvv, hBg, hg, hc1, hc2, hc3, hc4⟩ : ∃ g cap cur, v = .slice (some ⟨g, 0, none⟩) m.length cap ∧ B ≤ g ∧ w.heap[g]? = some (.cells cur 30 (0, 0)) ∧ m.length ≤ cap ∧ cap ≤ maxLen ∧ cur.size = cap * 3 ∧ cur.toList.take (m.length * 3) = m.flatMap encT := by
      rcases hv.2 with ⟨_, h⟩ | h
      · exact absurd h h0
      · exact h
    subst hvv
    have hgw := (Array.getElem?_eq_some_iff.1 hg).1
    obtain ⟨d, hd⟩ : ∃ d : Array MT, d = Array.ofFn (fun i : Fin m.length => (⟨m.getD i (0, 1, 0), hs _ (mem_getT m i.1 i.2)⟩ : MT)) := ⟨_, rfl⟩
    have hds : d.size = m.length := by rw [hd]; exact Array.size_ofFn
    have hdi : ∀ j, j < m.length → (d[j]!).1 = m.getD j (0, 1, 0) := fun j hj => by
      rw [getElem!_pos d j (by omega)]
      subst hd
      exact congrArg Subtype.val (Array.getElem_ofFn _)
    have hcur : ∀ t, t < m.length * 3 → cur[t]? = (encT (m.getD (t / 3) (0, 1, 0)))[t % 3]? := fun t ht => by
      rw [← flat_get m t ht, ← hc4, List.getElem?_take_of_lt ht, Array.getElem?_toList]
    have hH : HoldsK MT.enc 3 w g 0 d := fun j hj => by
      have hj' : j < m.length * 3 := by simpa [hds] using hj
      rw [get_flatK _ _ _ j (by rw [hds]; exact hj')]
      have e : MT.enc (d[j / 3]!) = encT (m.getD (j / 3) (0, 1, 0)) := by unfold MT.enc; rw [hdi _ (by omega)]
      have h3 : j % 3 < 3 := Nat.mod_lt _ (by decide)
      refine ⟨?_, by simp [World.frozen?, hg]⟩
      rw [e]
      have h := hcur j hj'
      rw [List.getElem?_eq_getElem (by simp [encT]; exact h3)] at h
      simp only [Nat.zero_add, World.cell?, hg, id]
      rw [getElem!_pos (encT (m.getD (j / 3) (0, 1, 0))) (j % 3) (by simp [encT]; exact h3)]
      simpa using h
    have eg : ∀ args w, (callFunc 16 args).run Try.prog w = .ok (.enter 16 args) w := enters_of Try.func16 (by kernel_rfl) rfl
    have hcmp : CmpLays Try.prog 16 #[] MT.enc 3 MT.cf g 0 d.size w := fun _ _ _ _ x y => rootsCmp_any x y _
    have hcon := AnyQ.slices_SortFunc Try.sortT 3 Try.isAggT Try.sizeOfT MT.enc (fun _ => rfl) MT.one MT.cf MT.swo 16 #[] g 0 cap d w eg hcmp hH hgw (by omega)
    change Calls Try.prog 15 _ _ _ at hcon
    rw [hds] at hcon
    refine hcon.mono ?_
    rintro e w' ⟨rfl, d', q, os, ⟨hp1, hp2, hp3⟩, hso, rfl⟩
    have hd's : d'.size = m.length := by omega
    have hat : ∀ i, i < m.length → (d'.toList.map (fun x : MT => x.1)).getD i (0, 1, 0) = (d'[i]!).1 := fun i h => by
      rw [getElem!_pos d' i (by omega), List.getD_eq_getElem?_getD, List.getElem?_map, List.getElem?_eq_getElem (by simpa using (show i < d'.size by omega))]
      rfl
    have hlen : (d'.toList.map (fun x : MT => x.1)).length = m.length := by simp [hd's]
    refine ⟨rfl, d'.toList.map (fun x : MT => x.1), ?_, ?_, ?_, ?_, ?_⟩
    · have e1 : (d'.extract 0 m.length).toList = d'.toList := by rw [Array.toList_extract]; simp; exact List.take_of_length_le (by simp; omega)
      have e2 : (d.extract 0 m.length).toList = d.toList := by rw [Array.toList_extract]; simp; exact List.take_of_length_le (by simp; omega)
      rw [e1, e2] at hp3
      have hm' : d.toList.map (fun x : MT => x.1) = m := by
        apply List.ext_getElem (by simp [hds])
        intro i h1 h2
        have h3 := hdi i h2
        rw [getElem!_pos d i (by omega)] at h3
        simp only [List.getElem_map, Array.getElem_toList]
        rw [h3]
        simp [h2]
      rw [← hm']
      exact hp3.map _
    · intro i j hij hj
      rw [hlen] at hj
      have h := hso i j (Nat.zero_le _) hij hj
      rw [MT.lt_iff, decide_eq_false_iff_not] at h
      rw [hat i (by omega), hat j hj]
      exact h
    · rw [hlen]
      refine ⟨by rw [flatT_len, hlen], .inr ⟨g, cap, putCells id 0 (flatK MT.enc 3 d') cur, rfl, hBg, ?_, hc1, hc2, by simp [putCells, hc3], ?_⟩⟩
      · show ((w.heap.modify g _) ++ os)[g]? = _
        rw [Array.getElem?_append_left (by simpa using hgw), Array.getElem?_modify, if_pos rfl, hg]
        rfl
      · refine List.ext_getElem? fun t => ?_
        by_cases ht : t < m.length * 3
        · rw [List.getElem?_take_of_lt ht, Array.getElem?_toList, flat_get _ t (by rw [hlen]; exact ht)]
          unfold putCells
          have hct : cur[t]? = some (cur[t]'(by rw [hc3]; have := Nat.mul_le_mul_right 3 hc1; omega)) := Array.getElem?_eq_getElem _
          have hfs : t < (flatK MT.enc 3 d').size := by simpa [hd's] using ht
          rw [Array.getElem?_mapIdx, hct]
          have hcnd : (0 ≤ t ∧ t < 0 + (flatK MT.enc 3 d').size) := ⟨Nat.zero_le _, by omega⟩
          simp only [Option.map_some, if_pos hcnd, Nat.sub_zero, id]
          rw [get_flatK _ _ _ t (by rw [hd's]; exact ht)]
          have e : MT.enc (d'[t / 3]!) = encT ((d'.toList.map (fun x : MT => x.1)).getD (t / 3) (0, 1, 0)) := by unfold MT.enc; rw [hat _ (by omega)]
          rw [e]
          have h3 : t % 3 < 3 := Nat.mod_lt _ (by decide)
          rw [List.getElem?_eq_getElem (by simp [encT]; exact h3), getElem!_pos _ (t % 3) (by simp [encT]; exact h3)]
        · rw [List.getElem?_eq_none (by simp; omega), List.getElem?_eq_none (by rw [flatT_len, hlen]; omega)]
    · refine ⟨rfl, rfl, rfl, ?_, fun b hb => ?_⟩
      · show w.heap.size ≤ ((w.heap.modify g _) ++ os).size
        simp
      · show ((w.heap.modify g _) ++ os)[b]? = _
        by_cases hbw : b < w.heap.size
        · rw [Array.getElem?_append_left (by simpa using hbw), Array.getElem?_modify, if_neg (fun e => by omega)]
        · omega
    · refine ⟨rfl, rfl, rfl, ?_, fun b hbw hne => ?_⟩
      · show w.heap.size ≤ ((w.heap.modify g _) ++ os).size
        simp
      · show ((w.heap.modify g _) ++ os)[b]? = _
        have hne' : g ≠ b := fun e => hne (by rw [e]; rfl)
        rw [Array.getElem?_append_left (by simpa using hbw), Array.getElem?_modify, if_neg hne']

end Go.Proofs.Ytmkbijclbogjhaa
