/- facetref.LengthsOf: the walk. -/
import Derived.Test.YtilblfoapjnmaaaGreatDoorMgAJ
import Derived.Deep.LoopGhost
import Derived.BigRegion
namespace Go.Proofs.YtilblfoapjnmaaaGreatDoor
open Go.RowKit
attribute [local go_sem ↓] Go.wp_at_zero Go.wp_at_succ

/-- One pair's lengths are even. -/
def gdR (c : List (List Int)) (p l : List Nat) (x y : Nat) : Bool := cE c (p.getD x 0) (p.getD y 0) * ((l.getD y 0 : Nat) + 1) == cE c (p.getD y 0) (p.getD x 0) * ((l.getD x 0 : Nat) + 1)
def gdX (c : List (List Int)) (p l : List Nat) (x : Nat) : Bool := (List.range p.length).all (gdR c p l x)
def gdA (c : List (List Int)) (p l : List Nat) (k : Nat) : Bool := (List.range k).all (gdX c p l)
/-- The least, one more. -/
def lsN (l : List Nat) : Nat → Nat
  | 0 => 10
  | x + 1 => if l.getD x 0 + 1 < lsN l x then l.getD x 0 + 1 else lsN l x
def gdB (c : List (List Int)) (p l : List Nat) : Bool := gdA c p l p.length && lsN l p.length == 1

/-- The first list for which all is so. -/
def lnF (c : List (List Int)) (p : List Nat) : Nat → List Nat → Option (List Nat)
  | 0, _ => none
  | f + 1, l => if gdB c p l = true then some l else if (nxI 6 p.length l).2 = true then lnF c p f (nxI 6 p.length l).1 else none

/-- A part's lengths, written in. -/
def ouX (p l : List Nat) : Nat → List Int → List Int
  | 0, L => L
  | x + 1, L => (ouX p l x L).set (p.getD x 0) ((l.getD x 0 : Nat) + 1)

def prN (c : List (List Int)) (n t : Nat) : List Nat := rsN n ((paL c).getD t [])
def lnR (c : List (List Int)) (n t : Nat) : Option (List Nat) := lnF c (prN c n t) 1300 (List.replicate (prN c n t).length 0)
def ouI (c : List (List Int)) (n : Nat) : Nat → List Int
  | 0 => List.replicate n 0
  | t + 1 => ouX (prN c n t) ((lnR c n t).getD []) (prN c n t).length (ouI c n t)

/-- There are such lists. -/
def lnB (c : List (List Int)) (n : Nat) : Bool := (List.range (paL c).length).all fun t => (lnR c n t).isSome && decide (0 < (prN c n t).length)

theorem all_succ (f : Nat → Bool) (k : Nat) : (List.range (k + 1)).all f = ((List.range k).all f && f k) := by
  rw [List.range_succ, List.all_append]; simp

theorem lsN_bd (l : List Nat) : ∀ x, lsN l x ≤ 10
  | 0 => Nat.le_refl _
  | x + 1 => by
    unfold lsN
    have := lsN_bd l x
    split
    · omega
    · exact this

/-- All blocks that were there but one are as they were. -/
structure But (g : Nat) (a b : World) : Prop where
  os : b.os = a.os
  tape : b.tape = a.tape
  output : b.output = a.output
  size : a.heap.size ≤ b.heap.size
  block : ∀ x, x < a.heap.size → x ≠ g → b.heap[x]? = a.heap[x]?

theorem But.refl (g : Nat) (w : World) : But g w w := ⟨rfl, rfl, rfl, Nat.le_refl _, fun _ _ _ => rfl⟩
theorem But.below {g : Nat} {a b c : World} (h : But g a b) (k : Below b.heap.size b c) : But g a c := ⟨k.os.trans h.os, k.tape.trans h.tape, k.output.trans h.output, Nat.le_trans h.size k.size, fun x hx hg => (k.block x (Nat.lt_of_lt_of_le hx h.size)).trans (h.block x hx hg)⟩
theorem But.only {g : Nat} {a b c : World} (h : But g a b) (k : Only g b c) : But g a c := ⟨k.os.trans h.os, k.tape.trans h.tape, k.output.trans h.output, by rw [k.size]; exact h.size, fun x hx hg => (k.block x hg).trans (h.block x hx hg)⟩
theorem But.new {g e : Nat} {a b c : World} (h : But g a b) (k : Only e b c) (he : a.heap.size ≤ e) : But g a c := ⟨k.os.trans h.os, k.tape.trans h.tape, k.output.trans h.output, by rw [k.size]; exact h.size, fun x hx hg => (k.block x (by omega)).trans (h.block x hx hg)⟩
theorem But.cell {g : Nat} {a b : World} (h : But g a b) {x : Addr} {v : Value} (hc : a.cell? x = some v) (hx : x.block ≠ g) : b.cell? x = some v := (World.cell?_of_block (w := a) (h.block _ (World.block_lt_of_cell? a x hc) hx)).trans hc
theorem But.low {g N : Nat} {a b : World} (h : But g a b) (hN : N ≤ g) (h2 : N ≤ a.heap.size) : Below N a b := ⟨h.os, h.tape, h.output, h.size, fun x hx => h.block x (by omega) (by omega)⟩

theorem Only.drewN {g : Nat} {a b : World} (h : Only g a b) (k : Nat) : Only g a (b.drewN k) := ⟨h.os, h.tape, h.output, h.size, h.block⟩

theorem ouX_len (p l : List Nat) : ∀ (x : Nat) (L : List Int), (ouX p l x L).length = L.length
  | 0, _ => rfl
  | x + 1, L => by
    show (List.set _ _ _).length = _
    rw [List.length_set, ouX_len p l x L]

theorem ouI_len (c : List (List Int)) (n : Nat) : ∀ t, (ouI c n t).length = n
  | 0 => by simp [ouI]
  | t + 1 => by
    show (ouX _ _ _ (ouI c n t)).length = n
    rw [ouX_len, ouI_len c n t]

set_option maxRecDepth 100000 in
set_option maxHeartbeats 3200000 in
theorem lengthsOf_any (n : Nat) (c : List (List Int)) (cv : Value) (w : World) (hc : Sqc n c) (hn1 : 1 ≤ n) (hln : lnB c n = true) (hm : Mat w.heap.size 26 3 w cv c) :
    Calls Tryz.prog 8 #[cv] w fun e w' => ∃ g, e = .returned (.slice (some ⟨g, 0, none⟩) n n) ∧ Sl 0 3 w' (.slice (some ⟨g, 0, none⟩) n n) (ints (ouI c n (paL c).length)) ∧ Below w.heap.size w w' := by
  have HPA : Hid (∀ X, Below w.heap.size w X → Calls Tryz.prog 10 #[cv] X fun e w' => ∃ u, e = .returned u ∧ FrN X.heap.size w' u (prI c n n) ∧ Below X.heap.size X w') := fun X hX => partsOf_any n c cv X hc ((hm.below hX (Nat.le_refl _)).any (Nat.le_refl _))
  obtain ⟨ao, cap, hvv, hlc, hcm⟩ := mat_open hm
  subst hvv
  have hn4 := hc.n4
  have HCL : Hid (c.length = n) := hc.len
  have HM : Hid (∀ W, Below w.heap.size w W → Mat w.heap.size 26 3 W (.slice ao n cap) c) := fun W hW => by
    have := hm.below hW (Nat.le_refl _)
    rw [HCL.out] at this
    exact this
  have HPW : Hid (∀ t, t < (paL c).length → PaW n (prN c n t)) := fun t ht => by
    have h1 : PaW n ((paL c).getD t []) := by
      have : ∀ l ∈ paI c c.length, PaW n l := by
        rw [HCL.out]
        exact (paI_ok HCL.out (Nat.le_refl n)).2
      exact this _ (by show (paL c).getD t [] ∈ paL c; simp [ht])
    refine ⟨fun x hx => h1.lt x ((rsN_mem h1 x).1 hx), ?_⟩
    unfold prN rsN
    exact List.Pairwise.filter _ List.nodup_range
  have HPL : Hid ((paL c).length ≤ 4) := by
    show (paI c c.length).length ≤ 4
    rw [HCL.out]
    have := (paI_ok HCL.out (Nat.le_refl n)).1
    omega
  have HPI : Hid (prI c n n = (paL c).map fun l => natsI (rsN n l)) := by
    show _ = _
    unfold prI paL
    rw [HCL.out]
  have HLN : Hid (∀ t, t < (paL c).length → (∃ r, lnR c n t = some r) ∧ 0 < (prN c n t).length) := fun t ht => by
    unfold lnB at hln
    have h1 := List.all_eq_true.1 hln t (List.mem_range.2 ht)
    simp only [Bool.and_eq_true, decide_eq_true_eq] at h1
    exact ⟨Option.isSome_iff_exists.1 h1.1, h1.2⟩
  have HEN : Hid (∃ b o, ao = some ⟨b, o, none⟩ ∧ ∀ x, x < n → ∃ b3 o3 cp3, ∀ X, Below w.heap.size w X → X.cell? ⟨b, o + x, none⟩ = some (.slice (some ⟨b3, o3, none⟩) n cp3) ∧ ∀ j, j < n → X.cell? ⟨b3, o3 + j, none⟩ = some (.int .i64 (cE c x j))) := by
    obtain ⟨b, o, b3, o3, cp3, h1, h2⟩ := ent_all hc (HM.out w (Below.refl _ _)) (i := 0) (by omega)
    refine ⟨b, o, h1, fun x hx => ?_⟩
    obtain ⟨b', o', b3', o3', cp3', h1', h2'⟩ := ent_all hc (HM.out w (Below.refl _ _)) hx
    rw [h1] at h1'
    simp only [Option.some.injEq, Addr.mk.injEq, and_true] at h1'
    obtain ⟨rfl, rfl⟩ := h1'
    exact ⟨b3', o3', cp3', h2'⟩
  have HCE : Hid (∀ i j, -3 ≤ cE c i j ∧ cE c i j ≤ 3) := hc.ent
  have hmkn : ∀ (k : Nat) (w : World), k ≤ 4 → (Instr.makeSlice 26 (.int .i64 (k : Int)) (.int .i64 (k : Int))).run Tryz.prog w = .ok (.slice (some ⟨w.heap.size, 0, none⟩) k k) (w.alloc (.cells (madeCells #[.int .i64 0] k) 3)) := fun k w hk => run_make_row' (P := Tryz.prog) 26 3 (.int .i64 0) 8 Tryz.underlying26 (by kernel_rfl) rfl .i64 .i64 k (by omega) (by omega) w
  have hmk := fun w => hmkn n w hn4
  have HMK : Hid (∀ (k : Nat) (w : World), k ≤ 4 → (Instr.makeSlice 26 (.int .i64 (k : Int)) (.int .i64 (k : Int))).run Tryz.prog w = .ok (.slice (some ⟨w.heap.size, 0, none⟩) k k) (w.alloc (.cells (madeCells #[.int .i64 0] k) 3))) := hmkn
  rw [HCL.out]
  rw [HCL.out] at HPA
  clear hm hlc hln hmkn hc
  obtain ⟨W1, hW1⟩ : ∃ W1, W1 = w.alloc (.cells (madeCells #[.int .i64 0] n) 3) := ⟨_, rfl⟩
  obtain ⟨g, hgg⟩ : ∃ g, g = w.heap.size := ⟨_, rfl⟩
  have HR0 : Hid (W1.rowIs g 3 n (fun _ => .int .i64 0)) := by rw [hW1, hgg]; exact World.rowIs_made w (.int .i64 0) n 3
  have HBA : Hid (Below w.heap.size w W1) := by rw [hW1]; exact (Below.refl _ _).alloc (Nat.le_refl _) _
  have HGW : Hid (w.heap.size ≤ g) := by rw [hgg]; exact Nat.le_refl _
  have HGS : Hid (W1.heap.size = g + 1) := by rw [hW1, hgg]; show _ = _; simp
  have HP1 := HPA.out W1 HBA.out
  rw [hW1] at HP1
  have HW1 : Hid (W1 = w.alloc (.cells (madeCells #[.int .i64 0] n) 3)) := hW1
  have HGG : Hid (g = w.heap.size) := hgg
  clear hW1 hgg HPA
  go_enter Tryz.func8, Tryz.ntmps8
  go_wp2_with fail
  refine HP1.mono ?_
  rintro e w2 ⟨u, rfl, hfn, hb2⟩
  rw [← HW1.out] at hfn hb2
  have HFN : Hid (FrN (g + 1) w2 u ((paL c).map fun l => natsI (rsN n l))) := by rw [← HGS.out, ← HPI.out]; exact hfn
  obtain ⟨m, hmm⟩ : ∃ m, m = (paL c).length := ⟨_, rfl⟩
  have HMM : Hid (m = (paL c).length) := hmm
  obtain ⟨uo, uc, hu⟩ : ∃ uo uc, u = .slice uo m uc := by
    obtain ⟨vs, g1, g2, g3⟩ := HFN.out
    obtain ⟨a, b, h⟩ := owns_form g2
    exact ⟨a, b, by rw [h]; simp [hmm]⟩
  subst hu
  have HB2 : Hid (Below w.heap.size w w2) := HBA.out.trans (hb2.mono HBA.out.size)
  have HG2 : Hid (g < w2.heap.size) := by
    have := hb2.size
    rw [HGS.out] at this
    show _ < _
    omega
  have HR2 : Hid (w2.rowIs g 3 n (fun k => .int .i64 ((ouI c n 0).getD k 0))) := (HR0.out.of_block (hb2.block g (by rw [HGS.out]; omega))).congr fun k hk => by
    show _ = Value.int .i64 ((List.replicate n (0 : Int)).getD k 0)
    simp [hk]
  rw [← HGG.out]
  have HM4 : m ≤ 4 := by rw [hmm]; exact HPL.out
  rw [← hmm] at HPW HLN
  clear hmm hfn hb2 HR0 HBA HP1 HW1 HM hmk
  go_wp2
  go_loopw [5, 6, 7, 8, 9, 10, 11, 12, 13] (fun iv _ _ _ _ _ _ _ _ wr => ∃ i : Nat, i ≤ m ∧ iv = .int .i64 i ∧ wr.rowIs g 3 n (fun k => .int .i64 ((ouI c n i).getD k 0)) ∧ But g w2 wr) (fun iv _ _ _ _ _ _ _ _ _ => m - (intOf iv).toNat)
  case atStart => exact ⟨0, Nat.zero_le _, rfl, HR2.out, But.refl _ _⟩
  case round =>
    obtain ⟨i, hi, rfl, hrw, hbt⟩ := hrel
    have HRW : Hid (wr.rowIs g 3 n (fun k => .int .i64 ((ouI c n i).getD k 0))) := hrw
    have HBT : Hid (But g w2 wr) := hbt
    clear hrw hbt HR2
    have iI0 : (0 : Int) ≤ (i : Int) := by omega
    by_cases hlt : i < m
    · have iI : (i : Int) < (m : Int) := by omega
      obtain ⟨b1, cap1, r1, hv1, hb1, hc1, hr1⟩ := frN_cell HFN.out (k := i) (by rw [List.length_map, ← HMM.out]; exact hlt)
      rw [List.length_map, ← HMM.out] at hv1
      simp only [Value.slice.injEq, true_and] at hv1
      obtain ⟨rfl, rfl⟩ := hv1
      have hge : ((paL c).map fun l => natsI (rsN n l)).getD i [] = natsI (prN c n i) := by
        have := HMM.out
        simp [prN, show i < (paL c).length by omega]
      rw [hge] at hr1
      obtain ⟨⟨r, hlr⟩, hp0⟩ := HLN.out i hlt
      have hpw := HPW.out i hlt
      have HLS : Hid (ouI c n (i + 1) = ouX (prN c n i) r (prN c n i).length (ouI c n i)) := by
        show ouX _ ((lnR c n i).getD []) _ _ = _
        rw [hlr]; rfl
      have hlf : lnF c (prN c n i) 1300 (List.replicate (prN c n i).length 0) = some r := hlr
      obtain ⟨p, hp⟩ : ∃ p, p = prN c n i := ⟨_, rfl⟩
      rw [← hp] at hr1 hlf hp0 hpw HLS
      have HLF : Hid (lnF c p 1300 (List.replicate p.length 0) = some r) := hlf
      obtain ⟨b2, o2, cp2, rfl, hbg, hcs⟩ := slN_cells hr1 (show g < g + 1 by omega) hp0
      have c1 : wr.cell? ⟨b1, i, none⟩ = some (.slice (some ⟨b2, o2, none⟩) p.length cp2) := HBT.out.cell hc1 (show b1 ≠ g by omega)
      have hp4 : p.length ≤ 4 := by have := hpw.len; omega
      have HPX : Hid (∀ t, t < p.length → p.getD t 0 < n) := fun t ht => hpw.lt _ (by simp [ht])
      have hmk := fun w => HMK.out p.length w hp4
      obtain ⟨W3, hW3⟩ : ∃ W3, W3 = wr.alloc (.cells (madeCells #[.int .i64 0] p.length) 3) := ⟨_, rfl⟩
      obtain ⟨g1, hg1⟩ : ∃ g1, g1 = wr.heap.size := ⟨_, rfl⟩
      have HB3 : Hid (Below wr.heap.size wr W3) := by rw [hW3]; exact (Below.refl _ _).alloc (Nat.le_refl _) _
      have HR3 : Hid (W3.rowIs g1 3 p.length (fun k => .int .i64 ((List.replicate p.length 0).getD k 0 : Nat))) := by
        rw [hW3, hg1]
        exact (World.rowIs_made wr (.int .i64 0) p.length 3).congr fun k hk => by simp [hk]
      have HG1 : Hid (w2.heap.size ≤ g1) := by rw [hg1]; exact HBT.out.size
      have HG1' : Hid (g1 = wr.heap.size) := hg1
      have HBT3 : Hid (But g w2 W3) := HBT.out.below HB3.out
      have HRW3 : Hid (W3.rowIs g 3 n (fun k => .int .i64 ((ouI c n i).getD k 0))) := HRW.out.of_block (HB3.out.block g (by have := HG2.out; have := HBT.out.size; omega))
      have HPC : Hid (∀ X, Only g1 W3 X → ∀ t, t < p.length → X.cell? ⟨b2, o2 + t, none⟩ = some (.int .i64 (p.getD t 0 : Nat))) := fun X hX t ht => by
        have h := HBT3.out.cell (hcs t ht) hbg
        exact (hX.cell (by have := lt_of_cell (hcs t ht); have := HG1.out; simp at *; omega)).trans h
      have HBX : Hid (∀ X, Only g1 W3 X → Below w.heap.size w X) := fun X hX => HB2.out.trans (((HBT3.out.new hX HG1.out).low HGW.out (by have := HG2.out; have := HGW.out; omega)))
      have HXX : Hid (∃ b o, ao = some ⟨b, o, none⟩ ∧ ∀ x, x < n → ∃ b3 o3 cp3, ∀ X, Only g1 W3 X → X.cell? ⟨b, o + x, none⟩ = some (.slice (some ⟨b3, o3, none⟩) n cp3) ∧ ∀ j, j < n → X.cell? ⟨b3, o3 + j, none⟩ = some (.int .i64 (cE c x j))) := by
        obtain ⟨b, o, h1, h2⟩ := HEN.out
        refine ⟨b, o, h1, fun x hx => ?_⟩
        obtain ⟨b3, o3, cp3, h3⟩ := h2 x hx
        exact ⟨b3, o3, cp3, fun X hX => h3 X (HBX.out X hX)⟩
      obtain ⟨b, o, hao, hxx⟩ := HXX.out
      subst hao
      have HXC : Hid (∀ x, x < n → ∃ b3 o3 cp3, ∀ X, Only g1 W3 X → X.cell? ⟨b, o + x, none⟩ = some (.slice (some ⟨b3, o3, none⟩) n cp3) ∧ ∀ j, j < n → X.cell? ⟨b3, o3 + j, none⟩ = some (.int .i64 (cE c x j))) := hxx
      have hpI : (0 : Int) ≤ (p.length : Int) := by omega
      have HL0 : Hid ((List.replicate p.length 0).length = p.length) := by show _ = _; simp
      have HLZ : Hid (∀ k, (List.replicate p.length 0).getD k 0 < 6) := fun k => by
        rw [List.getD_eq_getElem?_getD, List.getElem?_replicate]
        split <;> decide
      clear hr1 hlf hpw hcs hc1 hp hxx HXX HEN hg1 hge hlr HRW HBT
      go_wp2
      rw [← HG1'.out, ← hW3]
      clear hmk c1 hW3
      go_loopg [8, 9, 10, 11, 12] 1300 (fun f mv _ _ _ _ wq => ∃ l : List Nat, mv = .bool true ∧ lnF c p f l = some r ∧ l.length = p.length ∧ (∀ k, l.getD k 0 < 6) ∧ wq.rowIs g1 3 p.length (fun k => .int .i64 (l.getD k 0 : Nat)) ∧ Only g1 W3 wq)
      case atStart => exact ⟨_, rfl, HLF.out, HL0.out, HLZ.out, HR3.out, Only.refl _ _⟩
      case round =>
        obtain ⟨l, rfl, hlf, hll, hlz, hrw, hon⟩ := hrel
        have HLL : Hid (l.length = p.length) := hll
        have HLZ2 : Hid (∀ k, l.getD k 0 < 6) := hlz
        have HRL : Hid (wr.rowIs g1 3 p.length (fun k => .int .i64 (l.getD k 0 : Nat))) := hrw
        have HOL : Hid (Only g1 W3 wr) := hon
        obtain ⟨f, rfl⟩ : ∃ f, gk = f + 1 := by
          cases gk with
          | zero => cases hlf
          | succ f => exact ⟨f, rfl⟩
        have HFF : Hid ((if gdB c p l = true then some l else if (nxI 6 p.length l).2 = true then lnF c p f (nxI 6 p.length l).1 else none) = some r) := hlf
        clear hlf hll hlz hrw hon HR3 HL0 HLZ HLF
        go_wp2
        go_loopw [9, 10, 11, 12] (fun lv gv xv _ wq => ∃ x : Nat, x ≤ p.length ∧ xv = .int .i64 x ∧ lv = .int .i64 (lsN l x : Nat) ∧ gv = .bool (gdA c p l x) ∧ wq.rowIs g1 3 p.length (fun k => .int .i64 (l.getD k 0 : Nat)) ∧ Only g1 W3 wq) (fun _ _ xv _ _ => p.length - (intOf xv).toNat)
        case atStart => exact ⟨0, Nat.zero_le _, rfl, rfl, rfl, HRL.out, HOL.out⟩
        case round =>
          obtain ⟨x, hx, rfl, rfl, rfl, hrw, hon⟩ := hrel
          have HRL2 : Hid (wr.rowIs g1 3 p.length (fun k => .int .i64 (l.getD k 0 : Nat))) := hrw
          have HOL2 : Hid (Only g1 W3 wr) := hon
          clear hrw hon HRL HOL
          have xI0 : (0 : Int) ≤ (x : Int) := by omega
          by_cases hlx : x < p.length
          · have xI : (x : Int) < (p.length : Int) := by omega
            have hpx := HPX.out x hlx
            have hvx := HLZ2.out x
            have cpx := HPC.out wr HOL2.out x hlx
            have clx : wr.cell? ⟨g1, x, none⟩ = some (.int .i64 (l.getD x 0 : Nat)) := HRL2.out.cell hlx
            have HLS2 : Hid (lsN l (x + 1) = if l.getD x 0 + 1 < lsN l x then l.getD x 0 + 1 else lsN l x) := rfl
            have HLB : Hid (lsN l x ≤ 10) := lsN_bd l x
            have HGA : Hid (gdA c p l (x + 1) = (gdA c p l x && (List.range p.length).all (gdR c p l x))) := all_succ _ _
            have HGR : Hid (∀ y, gdR c p l x y = (cE c (p.getD x 0) (p.getD y 0) * ((l.getD y 0 : Nat) + 1) == cE c (p.getD y 0) (p.getD x 0) * ((l.getD x 0 : Nat) + 1))) := fun y => rfl
            have HGS2 : Hid (∀ y, (gdA c p l x && (List.range (y + 1)).all (gdR c p l x)) = ((gdA c p l x && (List.range y).all (gdR c p l x)) && gdR c p l x y)) := fun y => by
              show _ = _
              rw [all_succ, Bool.and_assoc]
            have HG0 : Hid ((gdA c p l x && (List.range 0).all (gdR c p l x)) = gdA c p l x) := by
              show _ = _
              simp
            obtain ⟨px, hpxe⟩ : ∃ px, px = p.getD x 0 := ⟨_, rfl⟩
            obtain ⟨vx, hvxe⟩ : ∃ vx, vx = l.getD x 0 := ⟨_, rfl⟩
            rw [← hpxe] at hpx cpx HGR
            rw [← hvxe] at hvx clx HLS2 HGR
            have hlb := HLB.out
            obtain ⟨lx, hlxe⟩ : ∃ lx, lx = lsN l x := ⟨_, rfl⟩
            rw [← hlxe] at HLS2 hlb
            rw [← hlxe]
            have HPXE : Hid (px = p.getD x 0) := hpxe
            have HVXE : Hid (vx = l.getD x 0) := hvxe
            clear hlxe HLB hpxe hvxe
            have lvI : ∀ lv : Nat, lv = lsN l (x + 1) → True := fun _ _ => trivial
            clear lvI
            by_cases hmin : vx + 1 < lx
            · have hminI : (vx : Int) + 1 < (lx : Int) := by omega
              have HLX2 : Hid (((vx + 1 : Nat) : Int) = ((lsN l (x + 1) : Nat) : Int)) := by
                show _ = _
                rw [HLS2.out, if_pos hmin]
              clear HLS2 hlb hmin
              go_wp2
              go_loopw [10, 12] (fun gv yv wq => ∃ y : Nat, y ≤ p.length ∧ yv = .int .i64 y ∧ gv = .bool (gdA c p l x && (List.range y).all (gdR c p l x)) ∧ wq.rowIs g1 3 p.length (fun k => .int .i64 (l.getD k 0 : Nat)) ∧ Only g1 W3 wq) (fun _ yv _ => p.length - (intOf yv).toNat)
              case atStart => exact ⟨0, Nat.zero_le _, rfl, by rw [HG0.out], HRL2.out, HOL2.out⟩
              case round =>
                obtain ⟨y, hy, rfl, rfl, hrw, hon⟩ := hrel
                have HRL3 : Hid (wr.rowIs g1 3 p.length (fun k => .int .i64 (l.getD k 0 : Nat))) := hrw
                have HOL3 : Hid (Only g1 W3 wr) := hon
                clear hrw hon HRL2 HOL2
                have yI0 : (0 : Int) ≤ (y : Int) := by omega
                by_cases hly : y < p.length
                · have yI : (y : Int) < (p.length : Int) := by omega
                  have hgs := HGS2.out y
                  rw [HGR.out y] at hgs
                  have HGX : Hid _ := hgs
                  obtain ⟨G, hG⟩ : ∃ G, G = (gdA c p l x && (List.range y).all (gdR c p l x)) := ⟨_, rfl⟩
                  rw [← hG] at hgs
                  rw [← hG]
                  have HGN : Hid ((gdA c p l x && (List.range (y + 1)).all (gdR c p l x)) = (G && (cE c px (p.getD y 0) * ((l.getD y 0 : Nat) + 1) == cE c (p.getD y 0) px * ((vx : Nat) + 1)))) := hgs
                  clear hgs HGX hG
                  cases G with
                  | false =>
                    have HGF : Hid ((gdA c p l x && (List.range (y + 1)).all (gdR c p l x)) = false) := HGN.out
                    clear HGN
                    go_wp2
                    go_big_quiet (fail)
                    go_wp2
                    exact ⟨⟨y + 1, by omega, by go_num, by rw [HGF.out], HRL3.out.of_block rfl, HOL3.out.drewN _⟩, by simp [intOf]; omega⟩
                  | true =>
                    have hpy := HPX.out y hly
                    have hvy := HLZ2.out y
                    have cpx2 := HPC.out wr HOL3.out x hlx
                    have cpy := HPC.out wr HOL3.out y hly
                    have clx2 : wr.cell? ⟨g1, x, none⟩ = some (.int .i64 (l.getD x 0 : Nat)) := HRL3.out.cell hlx
                    have cly : wr.cell? ⟨g1, y, none⟩ = some (.int .i64 (l.getD y 0 : Nat)) := HRL3.out.cell hly
                    rw [← HPXE.out] at cpx2
                    rw [← HVXE.out] at clx2
                    generalize p.getD y 0 = py at *
                    generalize l.getD y 0 = vy at *
                    obtain ⟨bx, ox, cx, hrx⟩ := HXC.out px hpx
                    obtain ⟨by', oy, cy, hry⟩ := HXC.out py hpy
                    obtain ⟨x0, x1'⟩ := hrx wr HOL3.out
                    have x1 := x1' py hpy
                    obtain ⟨y0, y1'⟩ := hry wr HOL3.out
                    have y1 := y1' px hpx
                    have he1 := HCE.out px py
                    have he2 := HCE.out py px
                    generalize cE c px py = E1 at *
                    generalize cE c py px = E2 at *
                    have hm1 : -18 ≤ E1 * ((vy : Int) + 1) ∧ E1 * ((vy : Int) + 1) ≤ 18 := by
                      rcases (show E1 = -3 ∨ E1 = -2 ∨ E1 = -1 ∨ E1 = 0 ∨ E1 = 1 ∨ E1 = 2 ∨ E1 = 3 by omega) with rfl | rfl | rfl | rfl | rfl | rfl | rfl <;> omega
                    have hm2 : -18 ≤ E2 * ((vx : Int) + 1) ∧ E2 * ((vx : Int) + 1) ≤ 18 := by
                      rcases (show E2 = -3 ∨ E2 = -2 ∨ E2 = -1 ∨ E2 = 0 ∨ E2 = 1 ∨ E2 = 2 ∨ E2 = 3 by omega) with rfl | rfl | rfl | rfl | rfl | rfl | rfl <;> omega
                    have M1 : Hid (wrap64 (E1 * ((vy : Int) + 1)) = E1 * ((vy : Int) + 1)) := IntWalk.wrap64_in _ ⟨by omega, by omega⟩
                    have M2 : Hid (wrap64 (E2 * ((vx : Int) + 1)) = E2 * ((vx : Int) + 1)) := IntWalk.wrap64_in _ ⟨by omega, by omega⟩
                    have pyI : (py : Int) < (n : Int) := by omega
                    have pxI : (px : Int) < (n : Int) := by omega
                    have pyI0 : (0 : Int) ≤ (py : Int) := by omega
                    have pxI0 : (0 : Int) ≤ (px : Int) := by omega
                    clear x1' y1' hrx hry he1 he2 hm1 hm2
                    go_wp2
                    go_big_quiet (fail)
                    go_wp2
                    simp only [M1.out, M2.out]
                    exact ⟨⟨y + 1, by omega, by go_num, by rw [HGN.out]; rfl, HRL3.out.of_block rfl, HOL3.out.drewN _⟩, by simp [intOf]; omega⟩
                · have hye : y = p.length := by omega
                  subst hye
                  have hly2 : ¬ (p.length : Int) < (p.length : Int) := by omega
                  clear hly hy
                  go_wp2
                  exact ⟨⟨x + 1, by omega, by go_num, by rw [← HLX2.out]; first | rfl | (simp; done) | omega, by rw [HGA.out], HRL3.out, HOL3.out⟩, by simp [intOf]; omega⟩
            · have hminI : ¬ (vx : Int) + 1 < (lx : Int) := by omega
              have HLX2 : Hid (lsN l (x + 1) = lx) := by
                show _ = _
                rw [HLS2.out, if_neg hmin]
              clear HLS2 hlb hmin
              go_wp2
              go_loopw [10, 12] (fun gv yv wq => ∃ y : Nat, y ≤ p.length ∧ yv = .int .i64 y ∧ gv = .bool (gdA c p l x && (List.range y).all (gdR c p l x)) ∧ wq.rowIs g1 3 p.length (fun k => .int .i64 (l.getD k 0 : Nat)) ∧ Only g1 W3 wq) (fun _ yv _ => p.length - (intOf yv).toNat)
              case atStart => exact ⟨0, Nat.zero_le _, rfl, by rw [HG0.out], HRL2.out, HOL2.out⟩
              case round =>
                obtain ⟨y, hy, rfl, rfl, hrw, hon⟩ := hrel
                have HRL3 : Hid (wr.rowIs g1 3 p.length (fun k => .int .i64 (l.getD k 0 : Nat))) := hrw
                have HOL3 : Hid (Only g1 W3 wr) := hon
                clear hrw hon HRL2 HOL2
                have yI0 : (0 : Int) ≤ (y : Int) := by omega
                by_cases hly : y < p.length
                · have yI : (y : Int) < (p.length : Int) := by omega
                  have hgs := HGS2.out y
                  rw [HGR.out y] at hgs
                  have HGX : Hid _ := hgs
                  obtain ⟨G, hG⟩ : ∃ G, G = (gdA c p l x && (List.range y).all (gdR c p l x)) := ⟨_, rfl⟩
                  rw [← hG] at hgs
                  rw [← hG]
                  have HGN : Hid ((gdA c p l x && (List.range (y + 1)).all (gdR c p l x)) = (G && (cE c px (p.getD y 0) * ((l.getD y 0 : Nat) + 1) == cE c (p.getD y 0) px * ((vx : Nat) + 1)))) := hgs
                  clear hgs HGX hG
                  cases G with
                  | false =>
                    have HGF : Hid ((gdA c p l x && (List.range (y + 1)).all (gdR c p l x)) = false) := HGN.out
                    clear HGN
                    go_wp2
                    go_big_quiet (fail)
                    go_wp2
                    exact ⟨⟨y + 1, by omega, by go_num, by rw [HGF.out], HRL3.out.of_block rfl, HOL3.out.drewN _⟩, by simp [intOf]; omega⟩
                  | true =>
                    have hpy := HPX.out y hly
                    have hvy := HLZ2.out y
                    have cpx2 := HPC.out wr HOL3.out x hlx
                    have cpy := HPC.out wr HOL3.out y hly
                    have clx2 : wr.cell? ⟨g1, x, none⟩ = some (.int .i64 (l.getD x 0 : Nat)) := HRL3.out.cell hlx
                    have cly : wr.cell? ⟨g1, y, none⟩ = some (.int .i64 (l.getD y 0 : Nat)) := HRL3.out.cell hly
                    rw [← HPXE.out] at cpx2
                    rw [← HVXE.out] at clx2
                    generalize p.getD y 0 = py at *
                    generalize l.getD y 0 = vy at *
                    obtain ⟨bx, ox, cx, hrx⟩ := HXC.out px hpx
                    obtain ⟨by', oy, cy, hry⟩ := HXC.out py hpy
                    obtain ⟨x0, x1'⟩ := hrx wr HOL3.out
                    have x1 := x1' py hpy
                    obtain ⟨y0, y1'⟩ := hry wr HOL3.out
                    have y1 := y1' px hpx
                    have he1 := HCE.out px py
                    have he2 := HCE.out py px
                    generalize cE c px py = E1 at *
                    generalize cE c py px = E2 at *
                    have hm1 : -18 ≤ E1 * ((vy : Int) + 1) ∧ E1 * ((vy : Int) + 1) ≤ 18 := by
                      rcases (show E1 = -3 ∨ E1 = -2 ∨ E1 = -1 ∨ E1 = 0 ∨ E1 = 1 ∨ E1 = 2 ∨ E1 = 3 by omega) with rfl | rfl | rfl | rfl | rfl | rfl | rfl <;> omega
                    have hm2 : -18 ≤ E2 * ((vx : Int) + 1) ∧ E2 * ((vx : Int) + 1) ≤ 18 := by
                      rcases (show E2 = -3 ∨ E2 = -2 ∨ E2 = -1 ∨ E2 = 0 ∨ E2 = 1 ∨ E2 = 2 ∨ E2 = 3 by omega) with rfl | rfl | rfl | rfl | rfl | rfl | rfl <;> omega
                    have M1 : Hid (wrap64 (E1 * ((vy : Int) + 1)) = E1 * ((vy : Int) + 1)) := IntWalk.wrap64_in _ ⟨by omega, by omega⟩
                    have M2 : Hid (wrap64 (E2 * ((vx : Int) + 1)) = E2 * ((vx : Int) + 1)) := IntWalk.wrap64_in _ ⟨by omega, by omega⟩
                    have pyI : (py : Int) < (n : Int) := by omega
                    have pxI : (px : Int) < (n : Int) := by omega
                    have pyI0 : (0 : Int) ≤ (py : Int) := by omega
                    have pxI0 : (0 : Int) ≤ (px : Int) := by omega
                    clear x1' y1' hrx hry he1 he2 hm1 hm2
                    go_wp2
                    go_big_quiet (fail)
                    go_wp2
                    simp only [M1.out, M2.out]
                    exact ⟨⟨y + 1, by omega, by go_num, by rw [HGN.out]; rfl, HRL3.out.of_block rfl, HOL3.out.drewN _⟩, by simp [intOf]; omega⟩
                · have hye : y = p.length := by omega
                  subst hye
                  have hly2 : ¬ (p.length : Int) < (p.length : Int) := by omega
                  clear hly hy
                  go_wp2
                  exact ⟨⟨x + 1, by omega, by go_num, by rw [HLX2.out], by rw [HGA.out], HRL3.out, HOL3.out⟩, by simp [intOf]; omega⟩
          · have hxe : x = p.length := by omega
            subst hxe
            have hlx2 : ¬ (p.length : Int) < (p.length : Int) := by omega
            clear hlx hx
            have HGD : Hid (gdB c p l = (gdA c p l p.length && lsN l p.length == 1)) := rfl
            generalize gdA c p l p.length = ga at *
            generalize lsN l p.length = ls at *
            by_cases hga : ga = true ∧ ls = 1
            · obtain ⟨rfl, rfl⟩ := hga
              have HGB : Hid (gdB c p l = true) := HGD.out
              have hlr : l = r := by
                have h := HFF.out
                rw [HGB.out, if_pos rfl] at h
                exact Option.some.inj h
              subst hlr
              have HBTb : Hid (But g w2 wr) := HBT3.out.new HOL2.out HG1.out
              have hgg1 : g ≠ g1 := by have := HG2.out; have := HG1.out; omega
              have HRWb : Hid (wr.rowIs g 3 n (fun k => .int .i64 ((ouI c n i).getD k 0))) := HRW3.out.of_block (HOL2.out.block g hgg1)
              have HPCb : Hid (∀ X, Only g wr X → ∀ t, t < p.length → X.cell? ⟨b2, o2 + t, none⟩ = some (.int .i64 (p.getD t 0 : Nat))) := fun X hX t ht => (hX.cell hbg).trans (HPC.out wr HOL2.out t ht)
              have HLCb : Hid (∀ X, Only g wr X → ∀ t, t < p.length → X.cell? ⟨g1, t, none⟩ = some (.int .i64 (l.getD t 0 : Nat))) := fun X hX t ht => (hX.cell (fun e => hgg1 e.symm)).trans (HRL2.out.cell ht)
              have HBS : Hid (∀ X, Only g wr X → But g w2 X) := fun X hX => HBTb.out.only hX
              obtain ⟨wb, hwb⟩ : ∃ wb, wb = wr := ⟨_, rfl⟩
              rw [← hwb] at HPCb HLCb HBS HRWb
              have HON0 : Hid (Only g wb wr) := by rw [hwb]; exact Only.refl _ _
              have HRW0 : Hid (wr.rowIs g 3 n (fun k => .int .i64 ((ouX p l 0 (ouI c n i)).getD k 0))) := by rw [← hwb]; exact HRWb.out
              clear hwb HFF HGB HGD HRL2 HOL2 HPC HBX HXC HBT3 HRW3 HBTb HRWb hgg1
              go_wp2
              go_loopw [13] (fun xv wq => ∃ x : Nat, x ≤ p.length ∧ xv = .int .i64 x ∧ wq.rowIs g 3 n (fun k => .int .i64 ((ouX p l x (ouI c n i)).getD k 0)) ∧ Only g wb wq) (fun xv _ => p.length - (intOf xv).toNat)
              case atStart => exact ⟨0, Nat.zero_le _, rfl, HRW0.out, HON0.out⟩
              case round =>
                obtain ⟨x, hx, rfl, hrw, hon⟩ := hrel
                have HRX : Hid (wr.rowIs g 3 n (fun k => .int .i64 ((ouX p l x (ouI c n i)).getD k 0))) := hrw
                have HOX : Hid (Only g wb wr) := hon
                clear hrw hon HON0 HRW0
                have xI0 : (0 : Int) ≤ (x : Int) := by omega
                by_cases hlx : x < p.length
                · have xI : (x : Int) < (p.length : Int) := by omega
                  have hpx := HPX.out x hlx
                  have hvx := HLZ2.out x
                  have cpx := HPCb.out wr HOX.out x hlx
                  have clx := HLCb.out wr HOX.out x hlx
                  have HUX : Hid (ouX p l (x + 1) (ouI c n i) = (ouX p l x (ouI c n i)).set (p.getD x 0) ((l.getD x 0 : Nat) + 1)) := rfl
                  have HUL : Hid ((ouX p l x (ouI c n i)).length = n) := by
                    show _ = _
                    rw [ouX_len, ouI_len]
                  generalize ouX p l x (ouI c n i) = U at *
                  generalize p.getD x 0 = px at *
                  generalize l.getD x 0 = vx at *
                  have cg : wr.cell? ⟨g, px, none⟩ = some (.int .i64 (U.getD px 0)) := HRX.out.cell hpx
                  have fg := HRX.out.frozen px
                  have HR8 : Hid ((wr.setCell ⟨g, px, none⟩ (.int .i64 ((vx : Int) + 1))).rowIs g 3 n (fun k => .int .i64 ((U.set px ((vx : Int) + 1)).getD k 0))) := (HRX.out.set px _).congr fun k hk => by
                    rw [getD_setN, HUL.out]
                    by_cases e : k = px
                    · rw [if_pos e, if_pos ⟨e, hpx⟩]
                    · rw [if_neg e, if_neg (fun h => e h.1)]
                  have HO8 : Hid (Only g wb (wr.setCell ⟨g, px, none⟩ (.int .i64 ((vx : Int) + 1)))) := HOX.out.set _ _
                  have pI : (px : Int) < (n : Int) := by omega
                  have pI0 : (0 : Int) ≤ (px : Int) := by omega
                  go_wp2
                  go_big_region
                  all_goals
                    go_wp2
                    exact ⟨⟨x + 1, by omega, by go_num, by rw [HUX.out]; exact HR8.out.of_block rfl, HO8.out.drew⟩, by simp [intOf]; omega⟩
                · have hxe : x = p.length := by omega
                  subst hxe
                  have hlx2 : ¬ (p.length : Int) < (p.length : Int) := by omega
                  clear hlx hx
                  have HBE : Hid (But g w2 wr) := HBS.out wr HOX.out
                  go_wp2
                  exact ⟨⟨i + 1, by omega, by go_num, by rw [HLS.out]; exact HRX.out, HBE.out⟩, by simp [intOf]; omega⟩
            · have HGB : Hid (gdB c p l = false) := by
                show _ = _
                rw [HGD.out]
                cases ga with
                | false => rfl
                | true =>
                  have : ¬ ls = 1 := fun e => hga ⟨rfl, e⟩
                  simpa using this
              clear HGD
              cases ga with
              | false =>
                clear hga
                have HG3 : Hid ((nxI 6 p.length l).2 = true ∧ lnF c p f (nxI 6 p.length l).1 = some r) := by
                  have h := HFF.out
                  rw [HGB.out, if_neg (by decide)] at h
                  by_cases h2 : (nxI 6 p.length l).2 = true
                  · rw [if_pos h2] at h
                    exact ⟨h2, h⟩
                  · rw [if_neg h2] at h
                    cases h
                have HNT := next_any p.length g1 l wr HLL.out (by omega) HLZ2.out HRL2.out
                rw [HG3.out.1] at HNT
                have HNK := nxI_ok (q := 6) (by decide) (i := p.length) (l := l) HLZ2.out
                have HN1 : Hid ((nxI 6 p.length l).1.length = p.length) := HNK.1.trans HLL.out
                have HN2 : Hid (∀ k, (nxI 6 p.length l).1.getD k 0 < 6) := HNK.2
                have HN3 : Hid (lnF c p f (nxI 6 p.length l).1 = some r) := HG3.out.2
                clear HNK HG3 HFF
                generalize (nxI 6 p.length l).1 = l2 at *
                go_wp2_with fail
                refine HNT.mono ?_
                rintro e w6 ⟨rfl, hr6, ho6⟩
                have HR6 : Hid (w6.rowIs g1 3 p.length (fun k => .int .i64 (l2.getD k 0 : Nat))) := hr6
                have HO6 : Hid (Only g1 W3 w6) := HOL2.out.trans ho6
                clear hr6 ho6 HNT
                go_wp2
                go_roundg f
                case measure => omega
                case rel => exact ⟨l2, rfl, HN3.out, HN1.out, HN2.out, HR6.out, HO6.out⟩
              | true =>
                have hl1 : ¬ ls = 1 := fun e => hga ⟨rfl, e⟩
                have hl1I : ((ls : Int) == 1) = false := by rw [beq_eq_false_iff_ne]; omega
                clear hga
                have HG3 : Hid ((nxI 6 p.length l).2 = true ∧ lnF c p f (nxI 6 p.length l).1 = some r) := by
                  have h := HFF.out
                  rw [HGB.out, if_neg (by decide)] at h
                  by_cases h2 : (nxI 6 p.length l).2 = true
                  · rw [if_pos h2] at h
                    exact ⟨h2, h⟩
                  · rw [if_neg h2] at h
                    cases h
                have HNT := next_any p.length g1 l wr HLL.out (by omega) HLZ2.out HRL2.out
                rw [HG3.out.1] at HNT
                have HNK := nxI_ok (q := 6) (by decide) (i := p.length) (l := l) HLZ2.out
                have HN1 : Hid ((nxI 6 p.length l).1.length = p.length) := HNK.1.trans HLL.out
                have HN2 : Hid (∀ k, (nxI 6 p.length l).1.getD k 0 < 6) := HNK.2
                have HN3 : Hid (lnF c p f (nxI 6 p.length l).1 = some r) := HG3.out.2
                clear HNK HG3 HFF
                generalize (nxI 6 p.length l).1 = l2 at *
                go_wp2_with fail
                refine HNT.mono ?_
                rintro e w6 ⟨rfl, hr6, ho6⟩
                have HR6 : Hid (w6.rowIs g1 3 p.length (fun k => .int .i64 (l2.getD k 0 : Nat))) := hr6
                have HO6 : Hid (Only g1 W3 w6) := HOL2.out.trans ho6
                clear hr6 ho6 HNT
                go_wp2
                go_roundg f
                case measure => omega
                case rel => exact ⟨l2, rfl, HN3.out, HN1.out, HN2.out, HR6.out, HO6.out⟩
    · have hie : i = m := by omega
      subst hie
      have hlt2 : ¬ (i : Int) < (i : Int) := by omega
      clear hlt hi
      go_wp2
      go_ret
      refine ⟨g, rfl, ?_, HB2.out.trans (HBT.out.low HGW.out (by have := HG2.out; have := HGW.out; omega))⟩
      rw [← HMM.out]
      exact row_slT HRW.out (fun _ _ => rfl) (ouI_len _ _ _) (Nat.le_refl _) (by omega)

end Go.Proofs.YtilblfoapjnmaaaGreatDoor
