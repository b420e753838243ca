/- The document's MarkOfWord. -/
import Derived.Test.YtnooabbcfhmjaaaCr8
import Derived.Deep.OwnRows
namespace Go.Proofs.Ytnooabbcfhmjaaa
open Go.RowKit
attribute [local go_sem ↓] Go.wp_at_zero Go.wp_at_succ

/-- How many more of j than of the next, of the first k. -/
def mkM (wd : List Nat) (k j : Nat) : Int := ((wd.take k).count j : Int) - ((wd.take k).count (j + 1) : Int)

def mkR (n : Nat) (f : Nat → Int) : List Int := (List.range n).map f

theorem mkR_len (n : Nat) (f : Nat → Int) : (mkR n f).length = n := by simp [mkR]

theorem mkR_get {n i : Nat} (f : Nat → Int) (hi : i < n) : (mkR n f).getD i 0 = f i := by simp [mkR, hi]

theorem mkR_set {n i : Nat} {f g : Nat → Int} (hi : i < n) (h : ∀ j, j < n → j ≠ i → g j = f j) : mkR n g = (mkR n f).set i (g i) := by
  apply List.ext_getElem (by simp [mkR])
  intro j h1 h2
  simp [mkR] at h1
  by_cases hj : j = i
  · subst hj; simp [mkR]
  · simp [mkR, h j h1 hj, Ne.symm hj]

theorem mkR_congr {n : Nat} {f g : Nat → Int} (h : ∀ j, j < n → g j = f j) : mkR n g = mkR n f := by
  unfold mkR
  exact List.map_congr_left fun j hj => h j (List.mem_range.1 hj)

theorem mkM_succ {wd : List Nat} {k : Nat} (hk : k < wd.length) (j : Nat) : mkM wd (k + 1) j = mkM wd k j + (if wd.getD k 0 = j then 1 else 0) - (if wd.getD k 0 = j + 1 then 1 else 0) := by
  have e : wd.getD k 0 = wd[k] := by simp [hk]
  unfold mkM
  rw [List.take_succ_eq_append_getElem hk, e]
  simp only [List.count_append, List.count_singleton, beq_iff_eq]
  split <;> split <;> simp <;> omega

theorem mkM_le (wd : List Nat) (k j : Nat) : -(k : Int) ≤ mkM wd k j ∧ mkM wd k j ≤ k := by
  unfold mkM
  have h1 : (wd.take k).count j ≤ k := Nat.le_trans List.count_le_length (by simp; omega)
  have h2 : (wd.take k).count (j + 1) ≤ k := Nat.le_trans List.count_le_length (by simp; omega)
  omega

/-- Between: the first i are a letter further. -/
def mk2 (wd : List Nat) (k i j : Nat) : Int := if j < i then mkM wd (k + 1) j else mkM wd k j

theorem mk2_zero (n : Nat) (wd : List Nat) : mkR n (mk2 wd 0 0) = List.replicate n 0 := by
  apply List.ext_getElem (by simp [mkR])
  intro j h1 h2
  simp [mkR, mk2, mkM]

theorem mk2_end (n : Nat) (wd : List Nat) (k : Nat) : mkR n (mk2 wd k n) = mkR n (mk2 wd (k + 1) 0) := mkR_congr fun j hj => by
  unfold mk2
  rw [if_pos hj, if_neg (by omega)]

theorem mk2_succ {n i : Nat} {wd : List Nat} {k : Nat} (hi : i < n) : mkR n (mk2 wd k (i + 1)) = (mkR n (mk2 wd k i)).set i (mkM wd (k + 1) i) := by
  rw [mkR_set (f := mk2 wd k i) (g := mk2 wd k (i + 1)) hi (fun j _ hji => by
    unfold mk2
    by_cases h : j < i
    · rw [if_pos (by omega), if_pos h]
    · rw [if_neg (by omega), if_neg h])]
  congr 1
  unfold mk2
  rw [if_pos (by omega)]

theorem mk2_get {n i : Nat} {wd : List Nat} {k : Nat} (hi : i < n) : (mkR n (mk2 wd k i)).getD i 0 = mkM wd k i := by
  rw [mkR_get _ hi]
  unfold mk2
  rw [if_neg (by omega)]

/-- A new list of noughts. -/
theorem made_own (w : World) (n B : Nat) (hB : B ≤ w.heap.size) (hn : n ≤ 1000) : (w.alloc (.cells (madeCells #[.int .i64 0] n) 3)).ownsRow B 3 1 (.slice (some ⟨w.heap.size, 0, none⟩) n n) n (ints (List.replicate n 0)) := by
  refine ⟨by simp [ints], .inr ⟨w.heap.size, n, madeCells #[.int .i64 0] n, rfl, hB, heap_alloc_new w _, Nat.le_refl _, by unfold maxLen; omega, by simp [madeCells], ?_⟩⟩
  rw [toList_madeCells_one]
  simp [ints]

/-- One number of an own list anew. -/
theorem num_set {A B g cap p : Nat} {w w2 : World} {l : List Int} {z : Int} (ho : w2.ownsRow B 3 1 (.slice (some ⟨g, 0, none⟩) l.length cap) l.length (ints l)) (hb : Below A w w2) (hAB : A ≤ B) :
    (w2.setCell ⟨g, p, none⟩ (.int .i64 z)).ownsRow B 3 1 (.slice (some ⟨g, 0, none⟩) l.length cap) l.length (ints (l.set p z)) ∧ Below A w (w2.setCell ⟨g, p, none⟩ (.int .i64 z)) := by
  obtain ⟨st1, st2⟩ := ho.stored p (.int .i64 z)
  have hlt := ho.lt g rfl
  refine ⟨?_, hb.grown st2 (by omega) (fun k hk => by simp at hk; omega)⟩
  have e : ints (l.set p z) = (ints l).set p (.int .i64 z) := by unfold ints; rw [List.map_set]
  rw [e]
  exact st1

theorem num_cell {B g cap p : Nat} {w : World} {l : List Int} (ho : w.ownsRow B 3 1 (.slice (some ⟨g, 0, none⟩) l.length cap) l.length (ints l)) (hp : p < l.length) : w.cell? ⟨g, p, none⟩ = some (.int .i64 (l.getD p 0)) := by
  rw [ho.cellAt p (by omega), ints_get _ _ hp]

/-- As far as it is. -/
structure MkI (w0 : World) (n : Nat) (f : Nat → Int) (wr : World) : Prop where
  own : wr.ownsRow w0.heap.size 3 1 (.slice (some ⟨w0.heap.size, 0, none⟩) n n) n (ints (mkR n f))
  bel : Below w0.heap.size w0 wr

theorem MkI.cell {w0 wr : World} {n i : Nat} {f : Nat → Int} (h : MkI w0 n f wr) (hi : i < n) : wr.cell? ⟨w0.heap.size, i, none⟩ = some (.int .i64 (f i)) ∧ wr.frozen? ⟨w0.heap.size, i, none⟩ = false := by
  refine ⟨?_, h.own.frozenAt i⟩
  have := num_cell (l := mkR n f) (by rw [mkR_len]; exact h.own) (p := i) (by rw [mkR_len]; exact hi)
  rw [this, mkR_get f hi]

theorem MkI.set {w0 wr : World} {n i : Nat} {f g : Nat → Int} {z : Int} (h : MkI w0 n f wr) (hi : i < n) (hz : g i = z) (hg : ∀ j, j < n → j ≠ i → g j = f j) : MkI w0 n g (wr.setCell ⟨w0.heap.size, i, none⟩ (.int .i64 z)) := by
  have := num_set (l := mkR n f) (p := i) (z := z) (by rw [mkR_len]; exact h.own) h.bel (Nat.le_refl _)
  rw [mkR_len] at this
  refine ⟨?_, this.2⟩
  rw [mkR_set hi hg, hz]
  exact this.1

theorem MkI.drewN {w0 wr : World} {n q : Nat} {f : Nat → Int} (h : MkI w0 n f wr) : MkI w0 n f (wr.drewN q) := ⟨h.own, h.bel.trans ⟨rfl, rfl, rfl, Nat.le_refl _, fun _ _ => rfl⟩⟩

theorem MkI.to {w0 wr : World} {n : Nat} {f g : Nat → Int} (h : MkI w0 n f wr) (hg : ∀ j, j < n → g j = f j) : MkI w0 n g wr := ⟨by rw [mkR_congr hg]; exact h.own, h.bel⟩

theorem mk2_step {wd : List Nat} {k i : Nat} : ∀ j, j ≠ i → mk2 wd k (i + 1) j = mk2 wd k i j := fun j hji => by
  unfold mk2
  by_cases h : j < i
  · rw [if_pos (by omega), if_pos h]
  · rw [if_neg (by omega), if_neg h]

set_option maxRecDepth 100000 in
set_option maxHeartbeats 1600000 in
theorem markD_any (B n : Nat) (wd : List Nat) (v : Value) (w : World) (hv : Sl B 3 w v (ints (natsI wd))) (hn : n ≤ 3) (hl : wd.length ≤ 8) :
    Calls Try.prog 11 #[.int .i64 (n : Int), v] w fun e w' => e = .returned (.slice (some ⟨w.heap.size, 0, none⟩) n n) ∧ MkI w n (mkM wd wd.length) w' := by
  obtain ⟨ao, cap, hvv, hlc, hcm⟩ := sl_open hv
  subst hvv
  rw [natsI_len] at hv hlc ⊢
  have HV : Hid (Sl B 3 w (.slice ao wd.length cap) (ints (natsI wd))) := hv
  clear hv
  have hmk : ∀ w : World, (Instr.makeSlice 22 (.int .i64 (n : Int)) (.int .i64 (n : Int))).run Try.prog w = .ok (.slice (some ⟨w.heap.size, 0, none⟩) n n) (w.alloc (.cells (madeCells #[.int .i64 0] n) 3)) := run_make_row' (P := Try.prog) 22 3 (.int .i64 0) 8 Try.underlying22 (by kernel_rfl) rfl .i64 .i64 n (by omega) (by omega)
  have HM0 : Hid (MkI w n (mk2 wd 0 0) (w.alloc (.cells (madeCells #[.int .i64 0] n) 3))) := ⟨by rw [mk2_zero]; exact made_own w n _ (Nat.le_refl _) (by omega), (Below.refl _ _).alloc (Nat.le_refl _) _⟩
  go_enter Try.func11, Try.ntmps11
  go_wp2
  clear hmk
  go_loopw [6] (fun kv wr => ∃ k : Nat, k ≤ wd.length ∧ kv = .int .i64 (k : Int) ∧ MkI w n (mk2 wd k 0) wr) (fun kv _ => wd.length - (intOf kv).toNat)
  case atStart => exact ⟨0, Nat.zero_le _, rfl, HM0.out⟩
  case round =>
    obtain ⟨k, hk, rfl, hm⟩ := hrel
    have HM : Hid (MkI w n (mk2 wd k 0) wr) := hm
    clear hm HM0
    by_cases hlt : k < wd.length
    · have hltI : (k : Int) < (wd.length : Int) := by omega
      go_wp2
      go_loopw [7] (fun iv wq => ∃ i : Nat, i ≤ n ∧ iv = .int .i64 (i : Int) ∧ MkI w n (mk2 wd k i) wq) (fun iv _ => n - (intOf iv).toNat)
      case atStart => exact ⟨0, Nat.zero_le _, rfl, HM.out⟩
      case round =>
        obtain ⟨i, hi, rfl, hm⟩ := hrel
        rename World => wq
        have HM2 : Hid (MkI w n (mk2 wd k i) wq) := hm
        clear HM
        by_cases hlti : i < n
        · obtain ⟨hc1, hf1⟩ := hm.cell hlti
          obtain ⟨b1, o, cp, hs, _, hcc⟩ := sl_cell (HV.out.below hm.bel (Nat.le_refl _)) (k := k) (by rw [natsI_len]; exact hlt)
          rw [natsI_len] at hs
          simp only [Value.slice.injEq, true_and] at hs
          obtain ⟨rfl, rfl⟩ := hs
          rw [natsI_at hlt] at hcc
          have e0 : mk2 wd k i i = mkM wd k i := by unfold mk2; rw [if_neg (by omega)]
          have e1 : mk2 wd k (i + 1) i = mkM wd (k + 1) i := by unfold mk2; rw [if_pos (by omega)]
          have e2 := mkM_succ hlt i
          have hbd := mkM_le wd k i
          have HG : Hid (∀ j, j ≠ i → mk2 wd k (i + 1) j = mk2 wd k i j) := mk2_step
          rw [e0] at hc1
          rw [← e1] at e2
          have HZ : Hid (∀ z, mk2 wd k (i + 1) i = z → MkI w n (mk2 wd k (i + 1)) (wq.setCell ⟨w.heap.size, i, none⟩ (.int .i64 z))) := fun z hz => HM2.out.set hlti hz (fun j _ hj => HG.out j hj)
          have HN : Hid (mk2 wd k (i + 1) i = mkM wd k i → MkI w n (mk2 wd k (i + 1)) wq) := fun hz => HM2.out.to fun j _ => by
            by_cases hj : j = i
            · subst hj; rw [hz, e0]
            · exact HG.out j hj
          generalize mk2 wd k (i + 1) i = z2 at *
          generalize mkM wd k i = z1 at *
          generalize wd.getD k 0 = x at *
          have hltiI : (i : Int) < (n : Int) := by omega
          clear e0 e1 hm HG
          by_cases g1 : x = i
          · have gI : (x : Int) = (i : Int) := by omega
            rw [gI] at hcc
            rw [if_pos g1, if_neg (by omega)] at e2
            have HF : Hid (MkI w n (mk2 wd k (i + 1)) (wq.setCell ⟨w.heap.size, i, none⟩ (.int .i64 (z1 + 1)))) := HZ.out _ (by omega)
            have hcc2 : (wq.setCell ⟨w.heap.size, i, none⟩ (.int .i64 (z1 + 1))).cell? ⟨b1, o + k, none⟩ = some (.int .i64 (i : Int)) := by
              obtain ⟨b2, o2, cp2, hs2, _, hcc3⟩ := sl_cell (HV.out.below HF.out.bel (Nat.le_refl _)) (k := k) (by rw [natsI_len]; exact hlt)
              rw [natsI_len] at hs2
              simp only [Value.slice.injEq, true_and, Option.some.injEq, Addr.mk.injEq, and_true] at hs2
              obtain ⟨⟨rfl, rfl⟩, rfl⟩ := hs2
              rw [natsI_at hlt] at hcc3
              rw [hcc3]
              obtain ⟨b3, o3, cp3, hs3, _, hcc4⟩ := sl_cell (HV.out.below HM2.out.bel (Nat.le_refl _)) (k := k) (by rw [natsI_len]; exact hlt)
              rw [natsI_len] at hs3
              simp only [Value.slice.injEq, true_and, Option.some.injEq, Addr.mk.injEq, and_true] at hs3
              obtain ⟨⟨rfl, rfl⟩, rfl⟩ := hs3
              rw [natsI_at hlt, hcc] at hcc4
              exact hcc4.symm
            have gI2 : ¬ (i : Int) = (i : Int) + 1 := by omega
            clear gI g1 e2 HZ HN
            go_wp2
            go_roundw
            case rel => exact ⟨i + 1, by omega, by go_num, HF.out⟩
            case measure => simp [intOf]; omega
          · rw [if_neg g1] at e2
            have gI : ¬ (x : Int) = (i : Int) := by omega
            by_cases g2 : x = i + 1
            · have gI2 : (x : Int) = (i : Int) + 1 := by omega
              rw [gI2] at hcc
              rw [if_pos g2] at e2
              have HF : Hid (MkI w n (mk2 wd k (i + 1)) (wq.setCell ⟨w.heap.size, i, none⟩ (.int .i64 (z1 - 1)))) := HZ.out _ (by omega)
              have gI3 : ¬ (i : Int) + 1 = (i : Int) := by omega
              clear gI gI2 g1 g2 e2 HZ HN
              go_wp2
              go_roundw
              case rel => exact ⟨i + 1, by omega, by go_num, HF.out⟩
              case measure => simp [intOf]; omega
            · rw [if_neg g2] at e2
              have gI2 : ¬ (x : Int) = (i : Int) + 1 := by omega
              have HF : Hid (MkI w n (mk2 wd k (i + 1)) wq) := HN.out (by omega)
              clear g1 g2 e2 HZ HN
              go_wp2
              go_roundw
              case rel => exact ⟨i + 1, by omega, by go_num, HF.out⟩
              case measure => simp [intOf]; omega
        · have hie : i = n := by omega
          subst hie
          have HF : Hid (MkI w i (mk2 wd (k + 1) 0) wq) := HM2.out.to fun j hj => by
            unfold mk2
            rw [if_pos hj, if_neg (by omega)]
          clear hm HM2
          go_wp2
          go_roundw
          case rel => exact ⟨k + 1, by omega, by go_num, HF.out⟩
          case measure => simp [intOf]; omega
    · have hke : k = wd.length := by omega
      subst hke
      have HF : Hid (MkI w n (mkM wd wd.length) wr) := HM.out.to fun j hj => by
        unfold mk2
        rw [if_neg (by omega)]
      go_wp2
      go_ret
      exact ⟨rfl, HF.out⟩

end Go.Proofs.Ytnooabbcfhmjaaa
