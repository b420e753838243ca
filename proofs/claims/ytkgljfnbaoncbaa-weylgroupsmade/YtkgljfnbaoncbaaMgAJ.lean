import Derived.Test.YtkgljfnbaoncbaaWk5
import Derived.Test.YtkgljfnbaoncbaaMgAI
/- facetref.Piece: the square of a kind. -/
namespace Go.Proofs.Ytkgljfnbaoncbaa
open Go.RowKit
attribute [local go_sem ↓] Go.wp_at_zero Go.wp_at_succ

def pcE (i q : Nat) : Int := if q = i then 2 else if q = i + 1 ∨ q + 1 = i then -1 else 0
def pcR (n i : Nat) : List Int := (List.range n).map (pcE i)
def pcB (n k : Nat) : List (List Int) := (List.range k).map (pcR n)

theorem pcR_len (n i : Nat) : (pcR n i).length = n := by simp [pcR]
theorem pcB_succ (n k : Nat) : pcB n (k + 1) = pcB n k ++ [pcR n k] := by simp [pcB, List.range_succ]

/-- The square of a kind. -/
def pcL (p : UInt8 × UInt8) : List (List Int) :=
  if p.1.toNat = 66 then setM (pcB (rkP p) (rkP p)) (rkP p - 2) (rkP p - 1) (-2)
  else if p.1.toNat = 67 then setM (pcB (rkP p) (rkP p)) (rkP p - 1) (rkP p - 2) (-2)
  else if p.1.toNat = 68 then setM (setM (setM (setM (pcB (rkP p) (rkP p)) 2 3 0) 3 2 0) 1 3 (-1)) 3 1 (-1)
  else if p.1.toNat = 70 then setM (pcB (rkP p) (rkP p)) 1 2 (-2)
  else if p.1.toNat = 71 then setM (pcB (rkP p) (rkP p)) 1 0 (-3)
  else pcB (rkP p) (rkP p)

theorem kd_cases : ∀ p ∈ kdL, p.1.toNat = 65 ∨ (p.1.toNat = 66 ∧ 2 ≤ rkP p) ∨ (p.1.toNat = 67 ∧ 2 ≤ rkP p) ∨ (p.1.toNat = 68 ∧ rkP p = 4) ∨ (p.1.toNat = 70 ∧ rkP p = 4) ∨ (p.1.toNat = 71 ∧ rkP p = 2) := by decide

/-- A row of one's own, out of what lies in its block. -/
theorem row_own {B g n : Nat} {w : World} {F : Nat → Value} {l : List Int} (h : w.rowIs g 3 n F) (hB : B ≤ g) (hm : n ≤ maxLen) (hl : l.length = n) (hF : ∀ k, k < n → F k = .int .i64 (l.getD k 0)) : w.ownsRow B 3 1 (.slice (some ⟨g, 0, none⟩) n n) n (ints l) := by
  obtain ⟨cur, h1, h2, h3⟩ := h
  refine ⟨by rw [ints_length]; omega, .inr ⟨g, n, cur, rfl, hB, h1, Nat.le_refl _, hm, by omega, ?_⟩⟩
  refine List.ext_getElem? fun k => ?_
  by_cases hk : k < n
  · rw [List.getElem?_take_of_lt (by omega), Array.getElem?_toList, h3 k (by omega), hF k hk]
    simp [ints, hl, hk]
  · rw [List.getElem?_eq_none (by simp; omega), List.getElem?_eq_none (by rw [ints_length]; omega)]

set_option maxRecDepth 100000 in
set_option maxHeartbeats 3200000 in
theorem piece_any (p : UInt8 × UInt8) (w : World) (hp : p ∈ kdL) :
    Calls Try.prog 43 #[.string (kdB p)] w fun e w' => ∃ x g c, e = .returned x ∧ OM w.heap.size g c (rkP p) (rkP p) w' x (pcL p) ∧ Below w.heap.size w w' := by
  obtain ⟨i0, hi0, hz0, hz1, hz2⟩ := info_parts Try.info26
  have hs2 : (kdB p).size = 2 := rfl
  obtain ⟨hk1, hk2, hk3⟩ := kd_rk p hp
  have hd0 : ((kdB p)[0]'(by rw [hs2]; decide)).toNat = p.1.toNat := rfl
  have hd1 : ((kdB p)[1]'(by rw [hs2]; decide)).toNat = 48 + rkP p := hk3
  have HCS : Hid _ := kd_cases p hp
  obtain ⟨n, hn⟩ : ∃ n, n = rkP p := ⟨_, rfl⟩
  have hd2 : ((((kdB p)[1]'(by rw [hs2]; decide)).toNat : Int) - 48) % 256 = (n : Int) := by rw [hd1, hn]; omega
  have HPC : Hid (pcL p = if p.1.toNat = 66 then setM (pcB n n) (n - 2) (n - 1) (-2)
    else if p.1.toNat = 67 then setM (pcB n n) (n - 1) (n - 2) (-2)
    else if p.1.toNat = 68 then setM (setM (setM (setM (pcB n n) 2 3 0) 3 2 0) 1 3 (-1)) 3 1 (-1)
    else if p.1.toNat = 70 then setM (pcB n n) 1 2 (-2)
    else if p.1.toNat = 71 then setM (pcB n n) 1 0 (-3)
    else pcB n n) := by rw [hn]; rfl
  have HCS : Hid (p.1.toNat = 65 ∨ (p.1.toNat = 66 ∧ 2 ≤ n) ∨ (p.1.toNat = 67 ∧ 2 ≤ n) ∨ (p.1.toNat = 68 ∧ n = 4) ∨ (p.1.toNat = 70 ∧ n = 4) ∨ (p.1.toNat = 71 ∧ n = 2)) := by rw [hn]; exact kd_cases p hp
  rw [← hn] at hk1 hk2 ⊢
  have hmk : ∀ w : World, (Instr.makeSlice 26 (.int .i64 (n : Int)) (.int .i64 (n : Int))).run Try.prog w = .ok (.slice (some ⟨w.heap.size, 0, none⟩) n n) (w.alloc (.cells (madeCells #[.int .i64 0] n) 3)) := run_make_row' (P := Try.prog) 26 3 (.int .i64 0) 8 Try.underlying26 (by kernel_rfl) rfl .i64 .i64 n (by omega) (by omega)
  clear hk3 hp hn hd1
  go_enter Try.func43, Try.ntmps43
  go_wp2
  try rw [hd2]
  clear hd2
  go_loopw [4, 5, 6, 7] (fun mv iv _ _ wr => ∃ (i : Nat) (g c : Nat → Nat), i ≤ n ∧ iv = .int .i64 i ∧ OM w.heap.size g c i n wr mv (pcB n i) ∧ Below w.heap.size w wr) (fun _ iv _ _ _ => n - (intOf iv).toNat)
  case atStart => exact ⟨0, fun _ => 0, fun _ => 0, Nat.zero_le _, rfl, ⟨rfl, fun i hi => by omega, World.ownsRow_nil _ _ _ _, fun i hi => by omega, fun i j hi => by omega⟩, Below.refl _ _⟩
  case round =>
    obtain ⟨i, g, c, hi, rfl, hom, hb⟩ := hrel
    obtain ⟨wa, rfl⟩ : ∃ wa, wa = wr := ⟨wr, rfl⟩
    have HOM : Hid (OM w.heap.size g c i n wa u4 (pcB n i)) := hom
    have HB2 : Hid (Below w.heap.size w wa) := hb
    obtain ⟨xo, xc, hx⟩ : ∃ xo xc, u4 = .slice xo i xc := owns_form hom.out
    subst hx
    clear hom hb
    by_cases hlt : i < n
    · obtain ⟨w1, hw1⟩ : ∃ w1, w1 = wa.alloc (.cells (madeCells #[.int .i64 0] n) 3) := ⟨_, rfl⟩
      have HR1 : Hid (w1.rowIs wa.heap.size 3 n (fun _ => .int .i64 0)) := by rw [hw1]; exact World.rowIs_made wa (.int .i64 0) n 3
      have HBW : Hid (Below wa.heap.size wa w1) := by rw [hw1]; exact (Below.refl _ _).alloc (Nat.le_refl _) _
      have HS1 : Hid (w1.heap.size = wa.heap.size + 1) := by rw [hw1]; show _ = _; simp
      have HW1 : Hid (w1 = wa.alloc (.cells (madeCells #[.int .i64 0] n) 3)) := hw1
      clear hw1
      go_wp2
      go_loopw [7] (fun jv wr => ∃ j : Nat, j ≤ n ∧ jv = .int .i64 j ∧ wr.rowIs wa.heap.size 3 n (fun k => .int .i64 (if k < j then pcE i k else 0)) ∧ Only wa.heap.size w1 wr) (fun jv _ => n - (intOf jv).toNat)
      case atStart => exact ⟨0, Nat.zero_le _, rfl, by rw [← HW1.out]; exact HR1.out, by rw [← HW1.out]; exact Only.refl _ _⟩
      case round =>
        obtain ⟨j, hj, rfl, hrw, hon⟩ := hrel
        have HRW : Hid (wr.rowIs wa.heap.size 3 n (fun k => .int .i64 (if k < j then pcE i k else 0))) := hrw
        have HON : Hid (Only wa.heap.size w1 wr) := hon
        by_cases hltj : j < n
        · have x0 := hrw.cell hltj
          have f0 := hrw.frozen j
          clear hrw hon
          have HNX : Hid (∀ z, pcE i j = z → (wr.setCell ⟨wa.heap.size, j, none⟩ (.int .i64 z)).rowIs wa.heap.size 3 n (fun k => .int .i64 (if k < j + 1 then pcE i k else 0)) ∧ Only wa.heap.size w1 (wr.setCell ⟨wa.heap.size, j, none⟩ (.int .i64 z))) := fun z hz => by
            refine ⟨(HRW.out.set j (.int .i64 z)).congr fun k hk => ?_, HON.out.set _ _⟩
            by_cases e : k = j
            · subst e
              rw [if_pos rfl, if_pos (by omega), hz]
            · rw [if_neg e]
              by_cases e2 : k < j
              · rw [if_pos e2, if_pos (by omega)]
              · rw [if_neg e2, if_neg (by omega)]
          by_cases h1 : j = i
          · have HN : Hid _ := HNX.out 2 (by unfold pcE; rw [if_pos h1])
            have q1 : ((j : Int) == (i : Int)) = true := by simp [h1]
            have q2 : ((j : Int) == (i : Int) + 1) = false := by rw [beq_eq_false_iff_ne]; omega
            have q3 : ((j : Int) == (i : Int) - 1) = false := by rw [beq_eq_false_iff_ne]; omega
            have q1' : (j : Int) = (i : Int) := by omega
            have q2' : ¬ (j : Int) = (i : Int) + 1 := by omega
            have q3' : ¬ (j : Int) = (i : Int) - 1 := by omega
            clear HNX
            subst h1
            go_wp2
            go_roundw
            case rel => exact ⟨j + 1, by omega, by go_num, HN.out.1, HN.out.2⟩
            case measure => simp [intOf]; omega
          · by_cases h2 : j = i + 1
            · have HN : Hid _ := HNX.out (-1) (by unfold pcE; rw [if_neg h1, if_pos (Or.inl h2)])
              have q1' : ¬ (j : Int) = (i : Int) := by omega
              have q2' : (j : Int) = (i : Int) + 1 := by omega
              have q1 : ((j : Int) == (i : Int)) = false := by rw [beq_eq_false_iff_ne]; exact q1'
              have q2 : ((j : Int) == (i : Int) + 1) = true := by rw [beq_iff_eq]; exact q2'
              clear HNX q2' h2
              go_wp2
              go_roundw
              case rel => exact ⟨j + 1, by omega, by go_num, HN.out.1, HN.out.2⟩
              case measure => simp [intOf]; omega
            · by_cases h3 : j + 1 = i
              · have HN : Hid _ := HNX.out (-1) (by unfold pcE; rw [if_neg h1, if_pos (Or.inr h3)])
                have q1' : ¬ (j : Int) = (i : Int) := by omega
                have q2' : ¬ (j : Int) = (i : Int) + 1 := by omega
                have q3' : (j : Int) = (i : Int) - 1 := by omega
                have q1 : ((j : Int) == (i : Int)) = false := by rw [beq_eq_false_iff_ne]; exact q1'
                have q2 : ((j : Int) == (i : Int) + 1) = false := by rw [beq_eq_false_iff_ne]; exact q2'
                have q3 : ((j : Int) == (i : Int) - 1) = true := by rw [beq_iff_eq]; exact q3'
                clear HNX q3' h3
                go_wp2
                go_roundw
                case rel => exact ⟨j + 1, by omega, by go_num, HN.out.1, HN.out.2⟩
                case measure => simp [intOf]; omega
              · have HN : Hid (wr.rowIs wa.heap.size 3 n (fun k => .int .i64 (if k < j + 1 then pcE i k else 0))) := HRW.out.congr fun k hk => by
                  by_cases e : k = j
                  · subst e
                    rw [if_neg (by omega), if_pos (by omega)]
                    unfold pcE
                    rw [if_neg h1, if_neg (by omega)]
                  · by_cases e2 : k < j
                    · rw [if_pos e2, if_pos (by omega)]
                    · rw [if_neg e2, if_neg (by omega)]
                have q1' : ¬ (j : Int) = (i : Int) := by omega
                have q2' : ¬ (j : Int) = (i : Int) + 1 := by omega
                have q3' : ¬ (j : Int) = (i : Int) - 1 := by omega
                have q1 : ((j : Int) == (i : Int)) = false := by rw [beq_eq_false_iff_ne]; exact q1'
                have q2 : ((j : Int) == (i : Int) + 1) = false := by rw [beq_eq_false_iff_ne]; exact q2'
                have q3 : ((j : Int) == (i : Int) - 1) = false := by rw [beq_eq_false_iff_ne]; exact q3'
                clear HNX
                go_wp2
                go_roundw
                case rel => exact ⟨j + 1, by omega, by go_num, HN.out, HON.out⟩
                case measure => simp [intOf]; omega
        · have hje : j = n := by omega
          have HU : Hid (wr.ownsRow wa.heap.size 3 1 (.slice (some ⟨wa.heap.size, 0, none⟩) n n) n (ints (pcR n i))) := row_own hrw (Nat.le_refl _) (by unfold maxLen; omega) (pcR_len n i) (fun k hk => by
            rw [if_pos (by omega)]
            simp [pcR, hk])
          have HBX : Hid (Below wa.heap.size wa wr) := ⟨hon.os.trans HBW.out.os, hon.tape.trans HBW.out.tape, hon.output.trans HBW.out.output, by rw [hon.size]; exact HBW.out.size, fun b hb => (hon.block b (by omega)).trans (HBW.out.block b hb)⟩
          have HO1 : Hid (wr.ownsRow w.heap.size 26 1 (.slice xo i xc) i (rowsV g c n i)) := owns_below HOM.out.out HBX.out (Nat.le_refl _)
          have hss : w.heap.size ≤ wr.heap.size := Nat.le_trans HB2.out.size HBX.out.size
          clear hrw hon HRW HON
          go_wp2_with (first | (at_builtin; refine wpList_append_own _ rfl _ _ 22 rfl w.heap.size 26 i0 (.slice none 0 0) 1 24 Try.underlying22 hi0 hz0 hz1 hz2 rfl (by decide) _ _ _ rfl (HO1.out.alloc _) ⟨wr.heap.size, 0, none⟩ 1 1 [.slice (some ⟨wa.heap.size, 0, none⟩) n n] rfl rfl (one_new _ _ _) (one_slice _ _ _) ?c3 ?c4 ?c5 ?_))
          case c3 => unfold maxLen; omega
          case c4 => omega
          case c5 => simp; omega
          intro v2 w3 ho3 hg3 _
          have HNX : Hid (OM w.heap.size (updN g i wa.heap.size) (updN c i n) (i + 1) n w3 v2 (pcB n (i + 1))) := by
            rw [pcB_succ]
            exact HOM.out.push HB2.out.size (pcR_len n i) HU.out HBX.out ho3 hg3
          have HB3 : Hid (Below w.heap.size w w3) := ((HB2.out.trans (HBX.out.mono HB2.out.size)).alloc (by omega) _).grown hg3 (by simp; omega) (fun b hx => (HO1.out.lt b hx).1)
          obtain ⟨vo, vc, hv2⟩ := owns_form ho3
          subst hv2
          clear ho3 hg3
          go_wp2
          go_roundw
          case rel => exact ⟨i + 1, _, _, by omega, by go_num, HNX.out, HB3.out⟩
          case measure => simp [intOf]; omega
    · have hie : i = n := by omega
      subst hie
      obtain ⟨G, cap, hG, hGB, hGl, hGc, hGm⟩ := HOM.out.form hk1
      simp only [Value.slice.injEq, true_and] at hG
      obtain ⟨rfl, rfl⟩ := hG
      have HST : Hid (∀ W R (a b : Nat) (z : Int), OM w.heap.size g c i i W (.slice (some ⟨G, 0, none⟩) i xc) R → Below w.heap.size w W → a < i → b < i → (W.cell? ⟨G, a, none⟩ = some (.slice (some ⟨g a, 0, none⟩) i (c a)) ∧ W.cell? ⟨g a, b, none⟩ = some (.int .i64 (ent R a b)) ∧ W.frozen? ⟨g a, b, none⟩ = false) ∧ OM w.heap.size g c i i (W.setCell ⟨g a, b, none⟩ (.int .i64 z)) (.slice (some ⟨G, 0, none⟩) i xc) (setM R a b z) ∧ Below w.heap.size w (W.setCell ⟨g a, b, none⟩ (.int .i64 z))) := fun W R a b z h1 h2 h3 h4 =>
        ⟨⟨h1.cellG h3, (h1.ent h3 h4).1, (h1.ent h3 h4).2⟩, h1.set h3 z, h2.setCell ((h1.row a h3).lt (g a) rfl).1 _⟩
      have hcs := HCS.out
      clear HCS hmk
      rcases hcs with h | ⟨h, h2⟩ | ⟨h, h2⟩ | ⟨h, h2⟩ | ⟨h, h2⟩ | ⟨h, h2⟩
      · rw [h] at hd0 HPC
        simp only [show ¬ (65 : Nat) = 66 by decide, show ¬ (65 : Nat) = 67 by decide, show ¬ (65 : Nat) = 68 by decide, show ¬ (65 : Nat) = 70 by decide, show ¬ (65 : Nat) = 71 by decide, if_false] at HPC
        clear h
        go_wp2
        go_ret
        exact ⟨_, g, c, rfl, by rw [HPC.out]; exact HOM.out, HB2.out⟩
      · rw [h] at hd0 HPC
        rw [if_pos rfl] at HPC
        clear h
        rcases (show i = 2 ∨ i = 3 ∨ i = 4 by omega) with rfl | rfl | rfl
        · obtain ⟨⟨c1, c2, c3⟩, o1, b1⟩ := HST.out wa _ 0 1 (-2) HOM.out HB2.out (by decide) (by decide)
          have HO : Hid _ := o1
          have HBN : Hid _ := b1
          clear o1 b1 HST HOM HB2
          go_wp2
          go_ret
          exact ⟨_, g, c, rfl, by rw [HPC.out]; exact HO.out, HBN.out⟩
        · obtain ⟨⟨c1, c2, c3⟩, o1, b1⟩ := HST.out wa _ 1 2 (-2) HOM.out HB2.out (by decide) (by decide)
          have HO : Hid _ := o1
          have HBN : Hid _ := b1
          clear o1 b1 HST HOM HB2
          go_wp2
          go_ret
          exact ⟨_, g, c, rfl, by rw [HPC.out]; exact HO.out, HBN.out⟩
        · obtain ⟨⟨c1, c2, c3⟩, o1, b1⟩ := HST.out wa _ 2 3 (-2) HOM.out HB2.out (by decide) (by decide)
          have HO : Hid _ := o1
          have HBN : Hid _ := b1
          clear o1 b1 HST HOM HB2
          go_wp2
          go_ret
          exact ⟨_, g, c, rfl, by rw [HPC.out]; exact HO.out, HBN.out⟩
      · rw [h] at hd0 HPC
        rw [if_neg (by decide), if_pos rfl] at HPC
        clear h
        rcases (show i = 2 ∨ i = 3 ∨ i = 4 by omega) with rfl | rfl | rfl
        · obtain ⟨⟨c1, c2, c3⟩, o1, b1⟩ := HST.out wa _ 1 0 (-2) HOM.out HB2.out (by decide) (by decide)
          have HO : Hid _ := o1
          have HBN : Hid _ := b1
          clear o1 b1 HST HOM HB2
          go_wp2
          go_ret
          exact ⟨_, g, c, rfl, by rw [HPC.out]; exact HO.out, HBN.out⟩
        · obtain ⟨⟨c1, c2, c3⟩, o1, b1⟩ := HST.out wa _ 2 1 (-2) HOM.out HB2.out (by decide) (by decide)
          have HO : Hid _ := o1
          have HBN : Hid _ := b1
          clear o1 b1 HST HOM HB2
          go_wp2
          go_ret
          exact ⟨_, g, c, rfl, by rw [HPC.out]; exact HO.out, HBN.out⟩
        · obtain ⟨⟨c1, c2, c3⟩, o1, b1⟩ := HST.out wa _ 3 2 (-2) HOM.out HB2.out (by decide) (by decide)
          have HO : Hid _ := o1
          have HBN : Hid _ := b1
          clear o1 b1 HST HOM HB2
          go_wp2
          go_ret
          exact ⟨_, g, c, rfl, by rw [HPC.out]; exact HO.out, HBN.out⟩
      · subst h2
        rw [h] at hd0 HPC
        rw [if_neg (by decide), if_neg (by decide), if_pos rfl] at HPC
        clear h
        obtain ⟨⟨c1, c2, c3⟩, o1, b1⟩ := HST.out wa _ 2 3 0 HOM.out HB2.out (by decide) (by decide)
        obtain ⟨⟨d1, d2, d3⟩, o2, b2⟩ := HST.out _ _ 3 2 0 o1 b1 (by decide) (by decide)
        obtain ⟨⟨e1, e2, e3⟩, o3, b3⟩ := HST.out _ _ 1 3 (-1) o2 b2 (by decide) (by decide)
        obtain ⟨⟨f1, f2, f3⟩, o4, b4⟩ := HST.out _ _ 3 1 (-1) o3 b3 (by decide) (by decide)
        have HO : Hid _ := o4
        have HBN : Hid _ := b4
        clear o1 b1 o2 b2 o3 b3 o4 b4 HST HOM HB2
        go_wp2
        go_ret
        exact ⟨_, g, c, rfl, by rw [HPC.out]; exact HO.out, HBN.out⟩
      · subst h2
        rw [h] at hd0 HPC
        rw [if_neg (by decide), if_neg (by decide), if_neg (by decide), if_pos rfl] at HPC
        clear h
        obtain ⟨⟨c1, c2, c3⟩, o1, b1⟩ := HST.out wa _ 1 2 (-2) HOM.out HB2.out (by decide) (by decide)
        have HO : Hid _ := o1
        have HBN : Hid _ := b1
        clear o1 b1 HST HOM HB2
        go_wp2
        go_ret
        exact ⟨_, g, c, rfl, by rw [HPC.out]; exact HO.out, HBN.out⟩
      · subst h2
        rw [h] at hd0 HPC
        rw [if_neg (by decide), if_neg (by decide), if_neg (by decide), if_neg (by decide), if_pos rfl] at HPC
        clear h
        obtain ⟨⟨c1, c2, c3⟩, o1, b1⟩ := HST.out wa _ 1 0 (-3) HOM.out HB2.out (by decide) (by decide)
        have HO : Hid _ := o1
        have HBN : Hid _ := b1
        clear o1 b1 HST HOM HB2
        go_wp2
        go_ret
        exact ⟨_, g, c, rfl, by rw [HPC.out]; exact HO.out, HBN.out⟩

end Go.Proofs.Ytkgljfnbaoncbaa

/- All squares of names, in every order: good. -/
namespace Go.Proofs.Ytkgljfnbaoncbaa

def trM (c : List (List Int)) : List (List Int) := (List.range c.length).map fun i => (List.range c.length).map fun j => cE c j i

/-- The roots by rows. -/
def posR (c : List (List Int)) : List (List Int) := abL (trM c)

def RtP (c R : List (List Int)) : Prop :=
  R.Nodup ∧ (∀ b ∈ R, b.length = c.length) ∧ (∀ b ∈ R, ∀ k, k < c.length → 0 ≤ b.getD k 0) ∧ (∀ b ∈ R, 0 < sm c.length fun k => b.getD k 0) ∧ (∀ r, r < c.length → un c.length r ∈ R) ∧
  (∀ r, r < c.length → ((R.erase (un c.length r)).map (ctn c r)).Perm (R.erase (un c.length r))) ∧ (∀ r, r < c.length → cE c r r = 2)

instance (c R : List (List Int)) : Decidable (RtP c R) := by unfold RtP; infer_instance

def GdP (n : Nat) (c : List (List Int)) : Prop :=
  (c.length = n ∧ 1 ≤ n ∧ n ≤ 4 ∧ (∀ r ∈ c, r.length = n)) ∧ (∀ i, i < n → ∀ j, j < n → -3 ≤ cE c i j ∧ cE c i j ≤ 3) ∧
  (∀ i, i < n → cE c i i = 2) ∧ (∀ i, i < n → ∀ j, j < n → i ≠ j → (-3 ≤ cE c i j ∧ cE c i j ≤ 0) ∧ (cE c i j = 0 ↔ cE c j i = 0)) ∧
  (abL c).length ≤ 24 ∧ (∀ b ∈ abL c, b.length = n ∧ ∀ x ∈ b, -1000 ≤ x ∧ x ≤ 1000) ∧ RtP c (posR c) ∧ (posR c).length ≤ 24 ∧ qS n (posR c) (ones n) ≤ 1000

instance (n : Nat) (c : List (List Int)) : Decidable (GdP n c) := by unfold GdP; infer_instance

theorem getD_bd {b : List Int} {M : Int} (hM : 0 ≤ M) (h : ∀ x ∈ b, -M ≤ x ∧ x ≤ M) (k : Nat) : -M ≤ b.getD k 0 ∧ b.getD k 0 ≤ M := by
  by_cases hk : k < b.length
  · have := h (b.getD k 0) (by simp [hk])
    exact this
  · have : b.getD k 0 = 0 := by rw [List.getD_eq_getElem?_getD, List.getElem?_eq_none (by omega)]; rfl
    omega

/-- Two squares, one behind the other. -/
def bdg (A B : List (List Int)) : List (List Int) := A.map (· ++ List.replicate B.length 0) ++ B.map (List.replicate A.length 0 ++ ·)

def mkL (ps : List (UInt8 × UInt8)) : List (List Int) := ps.foldl (fun A p => bdg A (pcL p)) []

def pmM (o : List Int) (c : List (List Int)) : List (List Int) := (List.range c.length).map fun i => (List.range c.length).map fun k => cE c (o.getD i 0).toNat (o.getD k 0).toNat

/-- The names of rank 4 at the most. -/
def nmL : List (List (UInt8 × UInt8)) :=
  kdL.map (fun p => [p]) ++ (kdL.flatMap fun p => (kdL.filter fun q => decide (rkP p + rkP q ≤ 4)).map fun q => [p, q]) ++
  (kdL.flatMap fun p => kdL.flatMap fun q => (kdL.filter fun r => decide (rkP p + rkP q + rkP r ≤ 4)).map fun r => [p, q, r])

theorem mem_nm {ps : List (UInt8 × UInt8)} (h0 : ps ≠ []) (h3 : ps.length ≤ 3) (hk : ∀ p ∈ ps, p ∈ kdL) (hs : (ps.map rkP).sum ≤ 4) : ps ∈ nmL := by
  unfold nmL
  match ps, h0, h3, hk, hs with
  | [p], _, _, hk, _ => simp only [List.mem_append, List.mem_map]; exact Or.inl (Or.inl ⟨p, hk p (by simp), rfl⟩)
  | [p, q], _, _, hk, hs =>
    simp only [List.mem_append, List.mem_flatMap, List.mem_map, List.mem_filter, decide_eq_true_eq]
    exact Or.inl (Or.inr ⟨p, hk p (by simp), q, ⟨hk q (by simp), by simpa using hs⟩, rfl⟩)
  | [p, q, r], _, _, hk, hs =>
    simp only [List.mem_append, List.mem_flatMap, List.mem_map, List.mem_filter, decide_eq_true_eq]
    exact Or.inr ⟨p, hk p (by simp), q, hk q (by simp), r, ⟨hk r (by simp), by simpa [Nat.add_assoc] using hs⟩, rfl⟩

end Go.Proofs.Ytkgljfnbaoncbaa
