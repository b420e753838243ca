/- face.isSimple: does each corner lie on just so many sides? -/
import Derived.Test.YtkfdpcgmpbopnaaGreatDoorFc9
namespace Go.Proofs.YtkfdpcgmpbopnaaGreatDoor
open Go.RowKit Lin
attribute [local go_sem ↓] Go.wp_at_zero Go.wp_at_succ

theorem rowF_own {B g n cap : Nat} {e : TypeId} {w : World} {F : Nat → Value} {l : List Int} (h : w.rowIs g e cap F) (hB : B ≤ g) (hl : l.length = n) (hF : ∀ i, i < n → F i = .int .i64 (l.getD i 0)) (hnc : n ≤ cap) (hcm : cap ≤ 9223372036854775807) : w.ownsRow B e 1 (.slice (some ⟨g, 0, none⟩) n cap) n (ints l) := by
  obtain ⟨cur, hh, hs, hc⟩ := h
  refine ⟨by simp [ints, hl], Or.inr ⟨g, cap, cur, rfl, hB, hh, hnc, by unfold maxLen; exact hcm, by omega, ?_⟩⟩
  apply List.ext_getElem?
  intro i
  rw [Nat.mul_one]
  by_cases hi : i < n
  · rw [List.getElem?_take_of_lt hi, Array.getElem?_toList, hc i (by omega), hF i hi]
    simp [ints, show i < l.length by omega]
  · rw [List.getElem?_eq_none (by simp; omega), List.getElem?_eq_none (by simp [ints]; omega)]

/-- How many of the first i sides have corner j. -/
def cnA (S : List Nat) (i j : Nat) : Int := (((S.take i).filter fun s => s.testBit j).length : Nat)

theorem cnA_bd (S : List Nat) (i j : Nat) : 0 ≤ cnA S i j ∧ cnA S i j ≤ S.length := by
  unfold cnA
  have h1 := List.length_filter_le (fun s : Nat => s.testBit j) (S.take i)
  have h2 := List.length_take_le' i S
  omega

theorem cnA_succ {S : List Nat} {i : Nat} (h : i < S.length) (j : Nat) : cnA S (i + 1) j = cnA S i j + if (S.getD i 0).testBit j then 1 else 0 := by
  unfold cnA
  rw [List.take_succ_eq_append_getElem h, List.filter_append, List.length_append]
  have e : S.getD i 0 = S[i] := by simp [h]
  rw [e]
  by_cases hb : S[i].testBit j
  · simp [hb]
  · simp [hb]

/-- And of the first q corners of a side. -/
def cnQ (S : List Nat) (i : Nat) (l : List Int) (q j : Nat) : Int := cnA S i j + if (j : Int) ∈ l.take q then 1 else 0

theorem cnQ_bd (S : List Nat) (i : Nat) (l : List Int) (q j : Nat) : 0 ≤ cnQ S i l q j ∧ cnQ S i l q j ≤ S.length + 1 := by
  have := cnA_bd S i j
  unfold cnQ
  split <;> omega

theorem cnQ_zero (S : List Nat) (i : Nat) (l : List Int) (j : Nat) : cnQ S i l 0 j = cnA S i j := by simp [cnQ]

theorem cnQ_succ {S : List Nat} {i : Nat} {l : List Int} (hl : Ris l) {q x : Nat} (hq : q < l.length) (hx : l.getD q 0 = (x : Int)) (j : Nat) : cnQ S i l (q + 1) j = if j = x then cnQ S i l q j + 1 else cnQ S i l q j := by
  have e : l.take (q + 1) = l.take q ++ [(x : Int)] := by
    rw [List.take_succ_eq_append_getElem hq]
    have : l[q] = (x : Int) := by rw [← hx]; simp [hq]
    rw [this]
  have hno : (x : Int) ∉ l.take q := fun h => by
    obtain ⟨k, hk, hk2⟩ := List.getElem_of_mem h
    rw [List.getElem_take] at hk2
    have hk3 : k < q := by rw [List.length_take] at hk; omega
    have := List.pairwise_iff_getElem.1 hl k q (by omega) hq hk3
    have hx2 : l[q] = (x : Int) := by rw [← hx]; simp [hq]
    omega
  unfold cnQ
  rw [e]
  by_cases h : j = x
  · subst h
    simp [hno]
  · have h2 : ¬ (j : Int) = (x : Int) := by omega
    simp [h, h2]

theorem cnQ_full {S : List Nat} {i : Nat} (h : i < S.length) (hs : S.getD i 0 < 1024) (j : Nat) : cnQ S i (memL (S.getD i 0)) (memL (S.getD i 0)).length j = cnA S (i + 1) j := by
  rw [cnA_succ h]
  unfold cnQ
  rw [List.take_length]
  have hm := mem_memL (s := S.getD i 0) (x := (j : Int)) (Nat.lt_of_lt_of_le hs (by decide))
  by_cases hb : (S.getD i 0).testBit j = true
  · rw [if_pos (hm.2 ⟨j, rfl, hb⟩), if_pos hb]
  · rw [if_neg (fun h => hb (by obtain ⟨k, hk, hk2⟩ := hm.1 h; have : j = k := by omega
                                subst this; exact hk2)), if_neg hb]

/-- The row of counts, beside the body's box. -/
structure SmI (W0 : World) (G n : Nat) (c : Nat → Int) (wr : World) : Prop where
  row : wr.rowIs G 3 n (fun j => .int .i64 (c j))
  bel : Below G W0 wr

theorem SmI.low {W0 : World} {G n : Nat} {c : Nat → Int} {wr w2 : World} (h : SmI W0 G n c wr) (hb : Below wr.heap.size wr w2) : SmI W0 G n c w2 := by
  obtain ⟨cur, h1, h2, h3⟩ := h.row
  have hl := lt_of_block h1
  exact ⟨⟨cur, (hb.block G hl).trans h1, h2, h3⟩, h.bel.trans (hb.mono (by omega))⟩

theorem SmI.put {W0 : World} {G n : Nat} {c c2 : Nat → Int} {wr : World} (h : SmI W0 G n c wr) (x : Nat) (z : Int) (hc : ∀ j, c2 j = if j = x then z else c j) : SmI W0 G n c2 (wr.setCell ⟨G, x, none⟩ (.int .i64 z)) := by
  refine ⟨(World.rowIs.set h.row x (.int .i64 z)).congr fun j hj => ?_, h.bel.setCell (by exact Nat.le_refl G) _⟩
  rw [hc j]
  by_cases e : j = x
  · simp [e]
  · simp [e]

/-- Does each corner lie on just so many sides? -/
def smpB (d n : Nat) (S : List Nat) : Bool := (List.range n).all fun j => decide (cnA S S.length j = (d : Int))

set_option maxRecDepth 100000 in
set_option maxHeartbeats 1600000 in
theorem isSimple_any (d n : Nat) (co : Option Addr) (cc : Nat) (rv : Value) (so : Option Addr) (sc : Nat) (S : List Nat) (w : World) (hn : n ≤ 10) (hT : TabB w) (hS : Sl w.heap.size 74 w (.slice so S.length sc) (u64s S)) (hS1 : ∀ t ∈ S, t < 2 ^ n) (hSl : S.length ≤ 5000) :
    Calls Tryz.prog 36 #[.agg #[.int .i64 d, .slice co n cc, rv, .slice so S.length sc]] w fun e w' => e = .returned (.bool (smpB d n S)) ∧ Below w.heap.size w w' := by
  have hmk : ∀ w : World, (Instr.makeSlice 22 (.int .i64 (n : Int)) (.int .i64 (n : Int))).run Tryz.prog w = .ok (.slice (some ⟨w.heap.size, 0, none⟩) n n) (w.alloc (.cells (madeCells #[.int .i64 0] n) 3)) := run_make_row' (P := Tryz.prog) 22 3 (.int .i64 0) 8 Tryz.underlying22 (by kernel_rfl) rfl .i64 .i64 n (by omega) (by omega)
  obtain ⟨W, hW⟩ : ∃ W, W = w.alloc (.cells #[.int .i64 d, .slice co n cc, rv, .slice so S.length sc] 60) := ⟨_, rfl⟩
  have HB : Hid (Below w.heap.size w W) := by rw [hW]; exact alloc_keep _ _
  have hsW : W.heap.size = w.heap.size + 1 := by rw [hW]; exact size_alloc _ _
  have hb0 : W.heap[w.heap.size]? = some (.cells #[.int .i64 d, .slice co n cc, rv, .slice so S.length sc] 60 (0, 0)) := by rw [hW]; exact alloc_at _ _
  have c1 : W.cell? ⟨w.heap.size, 1, none⟩ = some (.slice co n cc) := by simp [World.cell?, hb0]
  obtain ⟨W1, hW1⟩ : ∃ W1, W1 = W.alloc (.cells (madeCells #[.int .i64 0] n) 3) := ⟨_, rfl⟩
  have HI0 : Hid (SmI W (w.heap.size + 1) n (fun j => cnA S 0 j) W1) := by
    rw [hW1, ← hsW]
    refine ⟨⟨_, alloc_at _ _, by simp [madeCells], fun i hi => ?_⟩, (Below.refl _ _).alloc (Nat.le_refl _) _⟩
    rw [← Array.getElem?_toList, toList_madeCells_one]
    simp [hi, cnA]
  have HBB : Hid (∀ c wr, SmI W (w.heap.size + 1) n c wr → wr.heap[w.heap.size]? = some (.cells #[.int .i64 d, .slice co n cc, rv, .slice so S.length sc] 60 (0, 0))) := fun c wr h => (h.bel.block _ (by omega)).trans hb0
  have HBE : Hid (∀ c wr, SmI W (w.heap.size + 1) n c wr → Below w.heap.size w wr) := fun c wr h => HB.out.trans (h.bel.mono (by omega))
  have c3 : W1.cell? ⟨w.heap.size, 3, none⟩ = some (.slice so S.length sc) := by
    have := HBB.out _ _ HI0.out
    simp [World.cell?, this]
  have HSD : Hid (∀ X i, Below w.heap.size w X → i < S.length → ∃ sb soo, so = some ⟨sb, soo, none⟩ ∧ X.cell? ⟨sb, soo + i, none⟩ = some (.int .u64 ((S.getD i 0 : Nat) : Int))) := fun X i hb hi => by
    obtain ⟨ao, cap, hv, _, _, h5, _⟩ := hS.below hb (Nat.le_refl _)
    simp only [Value.slice.injEq] at hv
    obtain ⟨sb, soo, hs, hcc, _⟩ := h5 i (by rw [u64s_len]; exact hi)
    refine ⟨sb, soo, hv.1.trans hs, ?_⟩
    rw [hcc]
    simp [u64s, hi]
  have H10 : ∀ t ∈ S, t < 1024 := fun t ht => Nat.lt_of_lt_of_le (hS1 t ht) (Nat.le_trans (Nat.pow_le_pow_right (by decide) hn) (by decide))
  have HLI : Hid (∀ X i, Below w.heap.size w X → i < S.length → Calls Tryz.prog 53 #[.int .u64 ((S.getD i 0 : Nat) : Int)] X fun e w' => ∃ uo uc, e = .returned (.slice uo (memL (S.getD i 0)).length uc) ∧ w'.ownsRow X.heap.size 3 1 (.slice uo (memL (S.getD i 0)).length uc) (memL (S.getD i 0)).length (ints (memL (S.getD i 0))) ∧ Below X.heap.size X w') := fun X i hb hi => by
    refine (list10_any (S.getD i 0) (H10 _ (by simp [hi])) X (hT.below hb)).mono ?_
    rintro e w' ⟨u, rfl, h1, h2⟩
    obtain ⟨uo, uc, rfl⟩ := owns_form h1
    exact ⟨uo, uc, rfl, h1, h2⟩
  have HXB : Hid (∀ i q, i < S.length → q < (memL (S.getD i 0)).length → ∃ x : Nat, (memL (S.getD i 0)).getD q 0 = (x : Int) ∧ x < n) := fun i q hi hq => by
    have := memL_bd (s := S.getD i 0) (hS1 _ (by simp [hi])) (by omega) ((memL (S.getD i 0)).getD q 0) (getD_mem hq)
    exact ⟨((memL (S.getD i 0)).getD q 0).toNat, by omega, by omega⟩
  have HFU : Hid (∀ i, i < S.length → ∀ j, cnQ S i (memL (S.getD i 0)) (memL (S.getD i 0)).length j = cnA S (i + 1) j) := fun i hi j => cnQ_full hi (H10 _ (by simp [hi])) j
  have HHS : Hid (∀ wr, SmI W (w.heap.size + 1) n (fun j => cnA S S.length j) wr → Calls Tryz.prog 58 #[.slice (some ⟨w.heap.size + 1, 0, none⟩) n n, .func (.func 59) #[] #[.pointer (some ⟨w.heap.size, 0, none⟩)]] wr fun e w' => e = .returned (.bool (!smpB d n S)) ∧ Below wr.heap.size wr w') := fun wr h => by
    have hw1 := lt_of_block (HBB.out _ _ h)
    have ho := rowF_own (B := 0) (l := (List.range n).map fun j => cnA S S.length j) h.row (Nat.zero_le _) (by simp) (fun i hi => by simp [hi]) (Nat.le_refl _) (by omega)
    have h2 := hasSmp_any 0 (fun z => z != (d : Int)) ((List.range n).map fun j => cnA S S.length j) (.slice (some ⟨w.heap.size + 1, 0, none⟩) n n) ⟨w.heap.size, 0, none⟩ wr (Sl.own ho) (fun x hx W' hb' =>
      isSimple1_any x d w.heap.size (.slice co n cc) rv (.slice so S.length sc) W' ((hb'.block _ hw1).trans (HBB.out _ _ h)))
    have e : ((List.range n).map fun j => cnA S S.length j).any (fun z => z != (d : Int)) = !smpB d n S := by
      rw [Bool.eq_iff_iff]
      simp only [List.any_eq_true, List.mem_map, smpB, Bool.not_eq_true', List.all_eq_false, decide_eq_true_eq]
      constructor
      · rintro ⟨_, ⟨a, ha, rfl⟩, hne⟩
        exact ⟨a, ha, by simpa using hne⟩
      · rintro ⟨a, ha, hne⟩
        exact ⟨_, ⟨a, ha, rfl⟩, by simpa using hne⟩
    rw [e] at h2
    exact h2
  clear hS hS1 hb0 hT H10
  generalize smpB d n S = qq at *
  go_enter Tryz.func36, Tryz.ntmps36
  go_upto_region 1 with fail
  rw [← hW]
  clear hW
  go_upto_region 2 with fail
  rw [← hW1]
  clear hW1 c1
  go_wp2
  clear c3 hmk
  go_loopw [5, 7, 15] (fun _ _ iv wr => ∃ i : Nat, i ≤ S.length ∧ iv = .int .i64 (i : Int) ∧ SmI W (w.heap.size + 1) n (fun j => cnA S i j) wr) (fun _ _ iv _ => S.length - (intOf iv).toNat)
  case atStart => exact ⟨0, Nat.zero_le _, rfl, HI0.out⟩
  case round =>
    obtain ⟨i, hi, rfl, hI⟩ := hrel
    have HI : Hid (SmI W (w.heap.size + 1) n (fun j => cnA S i j) wr) := hI
    clear hI HI0
    by_cases hlt : i < S.length
    · obtain ⟨sb, soo, hso, hcs⟩ := HSD.out wr i (HBE.out _ _ HI.out) hlt
      have HL := HLI.out wr i (HBE.out _ _ HI.out) hlt
      have HX : Hid (∀ q, q < (memL (S.getD i 0)).length → ∃ x : Nat, (memL (S.getD i 0)).getD q 0 = (x : Int) ∧ x < n) := fun q hq => HXB.out i q hlt hq
      have HF : Hid (∀ j, cnQ S i (memL (S.getD i 0)) (memL (S.getD i 0)).length j = cnA S (i + 1) j) := HFU.out i hlt
      have HR : Hid (Ris (memL (S.getD i 0))) := memL_ris _
      have hiI : (i : Int) < (S.length : Int) := by omega
      have hml : (memL (S.getD i 0)).length ≤ 64 := by
        have := memTo_len (S.getD i 0) 64
        exact this
      clear HSD HLI HXB HFU HHS
      subst hso
      generalize S.getD i 0 = s at *
      generalize memL s = l at *
      go_wp2_with fail
      refine HL.mono ?_
      rintro e w2 ⟨uo, uc, rfl, hu, hb2⟩
      have HI2 : Hid (SmI W (w.heap.size + 1) n (fun j => cnQ S i l 0 j) w2) := by
        have h := HI.out.low hb2
        have e : (fun j => cnQ S i l 0 j) = fun j => cnA S i j := funext fun j => cnQ_zero S i l j
        show SmI W (w.heap.size + 1) n (fun j => cnQ S i l 0 j) w2
        rw [e]
        exact h
      have HSZ : Hid (w.heap.size + 1 < wr.heap.size) := by
        obtain ⟨cur, h1, _, _⟩ := HI.out.row
        exact lt_of_block h1
      have HU : Hid (w2.ownsRow wr.heap.size 3 1 (.slice uo l.length uc) l.length (ints l)) := hu
      clear hu hb2 HL HI hcs
      obtain ⟨wa, rfl⟩ : ∃ wa, wa = wr := ⟨wr, rfl⟩
      go_wp2
      go_loopw [7, 22] (fun _ qv wq => ∃ q : Nat, q ≤ l.length ∧ qv = .int .i64 (q : Int) ∧ SmI W (w.heap.size + 1) n (fun j => cnQ S i l q j) wq ∧ wq.ownsRow wa.heap.size 3 1 (.slice uo l.length uc) l.length (ints l)) (fun _ qv _ => l.length - (intOf qv).toNat)
      case atStart => exact ⟨0, Nat.zero_le _, rfl, HI2.out, HU.out⟩
      case round =>
        obtain ⟨q, hq, rfl, hI, hu⟩ := hrel
        have HI : Hid (SmI W (w.heap.size + 1) n (fun j => cnQ S i l q j) wr) := hI
        have HU3 : Hid (wr.ownsRow wa.heap.size 3 1 (.slice uo l.length uc) l.length (ints l)) := hu
        clear hI hu HI2 HU
        by_cases hlq : q < l.length
        · obtain ⟨x, hx, hxn⟩ := HX.out q hlq
          obtain ⟨ub, uoo, ucp, hs, _, hcu⟩ := sl_cell (B := 0) (Sl.own HU3.out) hlq
          simp only [Value.slice.injEq, true_and] at hs
          obtain ⟨rfl, rfl⟩ := hs
          rw [hx] at hcu
          have ca := HI.out.row.cell (i := x) hxn
          have cf := HI.out.row.frozen x
          have hqI : (q : Int) < (l.length : Int) := by omega
          have hxI : (x : Int) < (n : Int) := by omega
          have hbd := cnQ_bd S i l q x
          have HNX : Hid (SmI W (w.heap.size + 1) n (fun j => cnQ S i l (q + 1) j) (wr.setCell ⟨w.heap.size + 1, x, none⟩ (.int .i64 (cnQ S i l q x + 1)))) :=
            HI.out.put x _ (fun j => by
              show cnQ S i l (q + 1) j = _
              rw [cnQ_succ HR.out hlq hx j]
              by_cases e : j = x
              · subst e; simp
              · simp [e])
          have HUN : Hid ((wr.setCell ⟨w.heap.size + 1, x, none⟩ (.int .i64 (cnQ S i l q x + 1))).ownsRow wa.heap.size 3 1 (.slice (some ⟨ub, uoo, none⟩) l.length uc) l.length (ints l)) :=
            ownsRow_setCell_other HU3.out (a := ⟨w.heap.size + 1, x, none⟩) (fun e => by
              have h1 : wa.heap.size ≤ w.heap.size + 1 := (HU3.out.lt _ e).1
              have := HSZ.out
              omega) _
          have hwr : IntKind.wrap .i64 (cnQ S i l q x + 1) = cnQ S i l q x + 1 := by rw [IntKind.wrap_i64]; omega
          generalize cnQ S i l q x = cx at *
          clear hx HU3 HI
          go_wp2
          go_roundw
          case rel => exact ⟨q + 1, by omega, by go_num, HNX.out, HUN.out⟩
          case measure => simp [intOf]; omega
        · have hqe : q = l.length := by omega
          subst hqe
          have HN : Hid (SmI W (w.heap.size + 1) n (fun j => cnA S (i + 1) j) wr) := by
            have e : (fun j => cnA S (i + 1) j) = fun j => cnQ S i l l.length j := funext fun j => (HF.out j).symm
            show SmI W (w.heap.size + 1) n (fun j => cnA S (i + 1) j) wr
            rw [e]
            exact HI.out
          clear HI HU3 HX HF HR
          go_wp2
          exact ⟨⟨i + 1, by omega, by go_num, HN.out⟩, by simp [intOf]; omega⟩
    · have hie : i = S.length := by omega
      subst hie
      have HH := HHS.out wr HI.out
      have HBW : Hid (Below w.heap.size w wr) := HBE.out _ _ HI.out
      clear HSD HLI HXB HFU HHS HI
      go_wp2_with fail
      refine HH.mono ?_
      rintro e w5 ⟨rfl, hb5⟩
      have HB5 : Hid (Below w.heap.size w w5) := HBW.out.trans (hb5.mono HBW.out.size)
      clear hb5 HH
      go_wp2
      go_ret
      exact ⟨by simp, HB5.out⟩

end Go.Proofs.YtkfdpcgmpbopnaaGreatDoor
