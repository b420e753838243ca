import Derived.Test.YtilblfoapjnmaaaGreatDoorMgAO
import Derived.ChangeKeysEq
/- choose.Picked over numbers: the walk. -/
namespace Go.Proofs.YtilblfoapjnmaaaGreatDoor
open Go.RowKit
attribute [local go_sem ↓] Go.wp_at_zero Go.wp_at_succ

/-- The numbers at these places. -/
def pkN (l : List Nat) (x : List Int) : List Nat := x.map fun z => l.getD z.toNat 0

theorem pkN_snoc (l : List Nat) (x : List Int) (k : Nat) (h : k < x.length) : pkN l (x.take (k + 1)) = pkN l (x.take k) ++ [l.getD (x.getD k 0).toNat 0] := by
  have e : x.take (k + 1) = x.take k ++ [x.getD k 0] := by
    rw [List.take_succ_eq_append_getElem h, List.getD_eq_getElem?_getD, List.getElem?_eq_getElem h]; rfl
  rw [e]
  unfold pkN
  rw [List.map_append]
  rfl

set_option maxRecDepth 100000 in
set_option maxHeartbeats 1600000 in
theorem pickN_any (B : Nat) (l : List Nat) (x : List Int) (v u : Value) (w : World) (hv : Sl 0 3 w v (ints (natsI l))) (hu : Sl B 3 w u (ints x)) (hx : ∀ i, i < x.length → 0 ≤ x.getD i 0 ∧ x.getD i 0 < l.length) (hl : x.length ≤ 1000) :
    Calls Tryz.prog 61 #[v, u] w fun e w' => ∃ z, e = .returned z ∧ w'.ownsRow w.heap.size 3 1 z x.length (ints (natsI (pkN l x))) ∧ Below w.heap.size w w' := by
  obtain ⟨i3, hi3, hz30, hz31, hz32⟩ := info_parts Tryz.info3
  obtain ⟨ao, cap, hvv, hlc, hcm⟩ := sl_open hv
  obtain ⟨bo, cbp, huu, hlb, hcb⟩ := sl_open hu
  rw [natsI_lenR] at hvv
  subst hvv huu
  have HV : Hid (Sl 0 3 w (.slice ao l.length cap) (ints (natsI l))) := hv
  have HU : Hid (Sl B 3 w (.slice bo x.length cbp) (ints x)) := hu
  have HX : Hid (∀ i, i < x.length → 0 ≤ x.getD i 0 ∧ x.getD i 0 < l.length) := hx
  clear hv hu hx
  have hmk : (Instr.makeSlice 26 (.int .i64 0) (.int .i64 (x.length : Int))).run Tryz.prog w = .ok (.slice (some ⟨w.heap.size, 0, none⟩) 0 x.length) (w.alloc (.cells (madeCells #[.int .i64 0] (x.length * 1)) 3)) := by
    have := run_make (P := Tryz.prog) w 26 3 i3 (.int .i64 0) Tryz.underlying26 hi3 hz30 .i64 .i64 0 x.length (by omega) (by omega) (by rw [hz32]; omega) (by omega)
    rw [hz31, show (Value.int .i64 0).cells = #[.int .i64 0] from rfl] at this
    simpa using this
  obtain ⟨wA, hW⟩ : ∃ wA, wA = w.alloc (.cells (madeCells #[.int .i64 0] (x.length * 1)) 3) := ⟨_, rfl⟩
  have HO0 : Hid (wA.ownsRow w.heap.size 3 1 (.slice (some ⟨w.heap.size, 0, none⟩) 0 x.length) 0 (ints (natsI (pkN l (x.take 0))))) := by
    rw [hW]
    exact World.ownsRow_made w _ x.length (Nat.le_refl _) (by unfold maxLen; omega) (by rw [size_madeCells])
  have HB0 : Hid (Below w.heap.size w wA) := by rw [hW]; exact (Below.refl _ _).alloc (Nat.le_refl _) _
  rw [← hW] at hmk
  clear hW hlc hcm hlb hcb
  go_enter Tryz.func61, Tryz.ntmps61
  go_wp2
  go_loopw [5, 13] (fun s i wr => ∃ k : Nat, k ≤ x.length ∧ i = .int .i64 k ∧ wr.ownsRow w.heap.size 3 1 s k (ints (natsI (pkN l (x.take k)))) ∧ Below w.heap.size w wr) (fun _ i _ => x.length - (intOf i).toNat)
  case atStart => exact ⟨0, Nat.zero_le _, rfl, HO0.out, HB0.out⟩
  case round =>
    obtain ⟨k, hk, rfl, hr, hb⟩ := hrel
    have HR : Hid (wr.ownsRow w.heap.size 3 1 u5 k (ints (natsI (pkN l (x.take k))))) := hr
    have HB : Hid (Below w.heap.size w wr) := hb
    have hsz : w.heap.size ≤ wr.heap.size := hb.size
    have HSZ : Hid (w.heap.size ≤ wr.heap.size) := hsz
    clear hr hb HO0 HB0 hmk
    by_cases hlt : k < x.length
    · obtain ⟨b, o, cp, hs, hc1, hcc⟩ := sl_cell HU.out hlt
      simp only [Value.slice.injEq] at hs
      obtain ⟨rfl, -, rfl⟩ := hs
      obtain ⟨hx0, hx1⟩ := HX.out k hlt
      have HSN : Hid (pkN l (x.take (k + 1)) = pkN l (x.take k) ++ [l.getD (x.getD k 0).toNat 0]) := pkN_snoc l x k hlt
      have hcc2 := (HB.out.cell (lt_of_cell hcc)).trans hcc
      clear hcc
      obtain ⟨q, hq⟩ : ∃ q : Nat, x.getD k 0 = (q : Int) := ⟨(x.getD k 0).toNat, by omega⟩
      rw [hq] at hcc2 hx0 hx1 HSN
      rw [show ((q : Int)).toNat = q by omega] at HSN
      clear hq
      have hqP : q < l.length := by omega
      obtain ⟨b2, o2, cp2, hs2, _, hc3⟩ := sl_cell HV.out (k := q) (by rw [natsI_lenR]; exact hqP)
      simp only [Value.slice.injEq] at hs2
      obtain ⟨rfl, -, rfl⟩ := hs2
      have hc4 := (HB.out.cell (lt_of_cell hc3)).trans hc3
      rw [natsI_atR hqP] at hc4
      clear hc3
      generalize l.getD q 0 = y at *
      have HAP : Hid (ints (natsI (pkN l (x.take k) ++ [y])) = ints (natsI (pkN l (x.take k))) ++ [.int .i64 (y : Int)]) := natsI_appR _ _
      go_wp2_with (first | (at_builtin; refine wpList_append_own _ rfl _ _ 26 rfl w.heap.size 3 i3 (.int .i64 0) 1 8 Tryz.underlying26 hi3 hz30 hz31 hz32 rfl (by decide) _ _ _ rfl (HR.out.alloc _) ⟨wr.heap.size, 0, none⟩ 1 1 [.int .i64 (y : Int)] rfl rfl (one_new _ _ _) (one_int _) ?c3 ?c4 ?c5 ?_))
      case c3 => unfold maxLen; omega
      case c4 => omega
      case c5 => first | (have := HSZ.out; simp; omega)
      intro v6 w6 ho6 hg6 _
      have HO6 : Hid (w6.ownsRow w.heap.size 3 1 v6 (k + 1) (ints (natsI (pkN l (x.take (k + 1)))))) := by
        show World.ownsRow _ _ _ _ _ _ _
        rw [HSN.out, HAP.out]; exact ho6
      have HB6 : Hid (Below w.heap.size w w6) := (HB.out.alloc HSZ.out _).grown hg6 (by have := HSZ.out; simp; omega) (fun x hx => (HR.out.lt x hx).1)
      clear ho6 hg6
      go_wp2
      exact ⟨⟨k + 1, by omega, by go_num, HO6.out, HB6.out⟩, by simp [intOf]; omega⟩
    · have hke : k = x.length := by omega
      subst hke
      have hlt2 : ¬ (x.length : Int) < (x.length : Int) := by omega
      have HR' : Hid (wr.ownsRow w.heap.size 3 1 u5 x.length (ints (natsI (pkN l x)))) := by have := HR.out; rw [List.take_length] at this; exact this
      clear HR hlt hk
      go_wp2
      go_ret
      exact ⟨_, rfl, HR'.out, HB.out⟩

end Go.Proofs.YtilblfoapjnmaaaGreatDoor

/- Two squares compared. -/
namespace Go.Proofs.YtilblfoapjnmaaaGreatDoor
open Go.RowKit

theorem cellsOfI : Tryz.prog.cellsOf 3 = 1 := by kernel_rfl
theorem cellsOf4 : Tryz.prog.cellsOf 77 = 4 := by kernel_rfl
theorem und4 : Tryz.prog.underlying 77 = some (.array 4 3) := by kernel_rfl
theorem und16 : Tryz.prog.underlying 79 = some (.array 4 77) := by kernel_rfl
theorem plainI : Tryz.prog.plainKey 3 = true := by kernel_rfl
theorem agg4 (w : World) : (isAgg 77).run Tryz.prog w = .ok true w := by
  unfold isAgg
  rw [Sem.run_bind, run_underlying und4 w]
  rfl

theorem eqI (d : Nat) (w : World) (a b : Int) : (Op.equalIn (d + 1) 3 (.int .i64 a) (.int .i64 b)).run Tryz.prog w = .ok (a == b) w := Go.run_equalIn_int w d 3 .i64 .i64 a b Tryz.underlying3

/-- Rows of four. -/
theorem eq4 (d : Nat) (w : World) (a0 a1 a2 a3 b0 b1 b2 b3 : Int) :
    (Op.equalIn (d + 2) 77 (.agg #[.int .i64 a0, .int .i64 a1, .int .i64 a2, .int .i64 a3]) (.agg #[.int .i64 b0, .int .i64 b1, .int .i64 b2, .int .i64 b3])).run Tryz.prog w = .ok (a0 == b0 && (a1 == b1 && (a2 == b2 && a3 == b3))) w := by
  obtain ⟨i3, hi3, hz30, hz31, hz32⟩ := info_parts Tryz.info3
  rw [run_equalIn_array w (d + 1) _ _ und4 hi3, cellsOfI]
  simp only [show List.range 4 = [0, 1, 2, 3] from rfl, Op.eqItems, Sem.run_bind, Nat.reduceMul]
  simp [run_part_plain w plainI (show (#[Value.int .i64 a0, .int .i64 a1, .int .i64 a2, .int .i64 a3])[0]? = some (.int .i64 a0) from rfl),
    run_part_plain w plainI (show (#[Value.int .i64 a0, .int .i64 a1, .int .i64 a2, .int .i64 a3])[1]? = some (.int .i64 a1) from rfl),
    run_part_plain w plainI (show (#[Value.int .i64 a0, .int .i64 a1, .int .i64 a2, .int .i64 a3])[2]? = some (.int .i64 a2) from rfl),
    run_part_plain w plainI (show (#[Value.int .i64 a0, .int .i64 a1, .int .i64 a2, .int .i64 a3])[3]? = some (.int .i64 a3) from rfl),
    run_part_plain w plainI (show (#[Value.int .i64 b0, .int .i64 b1, .int .i64 b2, .int .i64 b3])[0]? = some (.int .i64 b0) from rfl),
    run_part_plain w plainI (show (#[Value.int .i64 b0, .int .i64 b1, .int .i64 b2, .int .i64 b3])[1]? = some (.int .i64 b1) from rfl),
    run_part_plain w plainI (show (#[Value.int .i64 b0, .int .i64 b1, .int .i64 b2, .int .i64 b3])[2]? = some (.int .i64 b2) from rfl),
    run_part_plain w plainI (show (#[Value.int .i64 b0, .int .i64 b1, .int .i64 b2, .int .i64 b3])[3]? = some (.int .i64 b3) from rfl), eqI]
  by_cases h0 : a0 = b0 <;> by_cases h1 : a1 = b1 <;> by_cases h2 : a2 = b2 <;> by_cases h3 : a3 = b3 <;> simp [h0, h1, h2, h3]

theorem info4 : ∃ i, Tryz.prog.info? 77 = some i := by
  have h : (Tryz.prog.info? 77).isSome = true := by kernel_rfl
  exact Option.isSome_iff_exists.1 h

theorem size4 (w : World) : (Go.sizeOf 77).run Tryz.prog w = .ok 4 w := by
  obtain ⟨i, hi⟩ := info4
  rw [run_sizeOf w hi, cellsOf4]

theorem part4 (w : World) (cs : Array Value) (o : Nat) : (part 77 cs o).run Tryz.prog w = .ok (.agg (cs.extract o (o + 4))) w := by
  unfold part
  simp only [Sem.run_bind, agg4, Result.andThen_ok, if_true, size4, Sem.run_pure]

set_option maxRecDepth 100000 in
/-- Squares of sixteen. -/
theorem eq16 (a b : Nat → Int) (w : World) : (binOp .eql 79 (.agg ((List.range 16).map fun k => Value.int .i64 (a k)).toArray) (.agg ((List.range 16).map fun k => Value.int .i64 (b k)).toArray)).run Tryz.prog w =
    .ok (.bool ((List.range 16).all fun k => a k == b k)) w := by
  obtain ⟨i, hi⟩ := info4
  have ha : ((List.range 16).map fun k => Value.int .i64 (a k)).toArray = #[.int .i64 (a 0), .int .i64 (a 1), .int .i64 (a 2), .int .i64 (a 3), .int .i64 (a 4), .int .i64 (a 5), .int .i64 (a 6), .int .i64 (a 7), .int .i64 (a 8), .int .i64 (a 9), .int .i64 (a 10), .int .i64 (a 11), .int .i64 (a 12), .int .i64 (a 13), .int .i64 (a 14), .int .i64 (a 15)] := rfl
  have hb : ((List.range 16).map fun k => Value.int .i64 (b k)).toArray = #[.int .i64 (b 0), .int .i64 (b 1), .int .i64 (b 2), .int .i64 (b 3), .int .i64 (b 4), .int .i64 (b 5), .int .i64 (b 6), .int .i64 (b 7), .int .i64 (b 8), .int .i64 (b 9), .int .i64 (b 10), .int .i64 (b 11), .int .i64 (b 12), .int .i64 (b 13), .int .i64 (b 14), .int .i64 (b 15)] := rfl
  have hl : ((List.range 16).all fun k => a k == b k) = ((a 0 == b 0 && (a 1 == b 1 && (a 2 == b 2 && a 3 == b 3))) && ((a 4 == b 4 && (a 5 == b 5 && (a 6 == b 6 && a 7 == b 7))) && ((a 8 == b 8 && (a 9 == b 9 && (a 10 == b 10 && a 11 == b 11))) && (a 12 == b 12 && (a 13 == b 13 && (a 14 == b 14 && a 15 == b 15)))))) := by
    simp only [show List.range 16 = [0, 1, 2, 3, 4, 5, 6, 7, 8, 9, 10, 11, 12, 13, 14, 15] from rfl, List.all_cons, List.all_nil, Bool.and_true, Bool.and_assoc]
  have hq : (Op.equal 79 (.agg ((List.range 16).map fun k => Value.int .i64 (a k)).toArray) (.agg ((List.range 16).map fun k => Value.int .i64 (b k)).toArray)).run Tryz.prog w = .ok ((List.range 16).all fun k => a k == b k) w := by
    rw [ha, hb, hl]
    show (Op.equalIn (9999 + 1) _ _ _).run _ _ = _
    rw [run_equalIn_array w 9999 _ _ und16 hi, cellsOf4]
    obtain ⟨p0, hp0⟩ : ∃ p, p = (a 0 == b 0 && (a 1 == b 1 && (a 2 == b 2 && a 3 == b 3))) := ⟨_, rfl⟩
    have e0 : (Op.equalIn 9999 77 (.agg #[.int .i64 (a 0), .int .i64 (a 1), .int .i64 (a 2), .int .i64 (a 3)]) (.agg #[.int .i64 (b 0), .int .i64 (b 1), .int .i64 (b 2), .int .i64 (b 3)])).run Tryz.prog w = .ok p0 w := by
      rw [hp0]
      exact eq4 9997 w _ _ _ _ _ _ _ _
    have q0 : (part 77 #[Value.int .i64 (a 0), Value.int .i64 (a 1), Value.int .i64 (a 2), Value.int .i64 (a 3), Value.int .i64 (a 4), Value.int .i64 (a 5), Value.int .i64 (a 6), Value.int .i64 (a 7), Value.int .i64 (a 8), Value.int .i64 (a 9), Value.int .i64 (a 10), Value.int .i64 (a 11), Value.int .i64 (a 12), Value.int .i64 (a 13), Value.int .i64 (a 14), Value.int .i64 (a 15)] 0).run Tryz.prog w = .ok (.agg #[.int .i64 (a 0), .int .i64 (a 1), .int .i64 (a 2), .int .i64 (a 3)]) w := (part4 w _ 0).trans (by simp)
    have r0 : (part 77 #[Value.int .i64 (b 0), Value.int .i64 (b 1), Value.int .i64 (b 2), Value.int .i64 (b 3), Value.int .i64 (b 4), Value.int .i64 (b 5), Value.int .i64 (b 6), Value.int .i64 (b 7), Value.int .i64 (b 8), Value.int .i64 (b 9), Value.int .i64 (b 10), Value.int .i64 (b 11), Value.int .i64 (b 12), Value.int .i64 (b 13), Value.int .i64 (b 14), Value.int .i64 (b 15)] 0).run Tryz.prog w = .ok (.agg #[.int .i64 (b 0), .int .i64 (b 1), .int .i64 (b 2), .int .i64 (b 3)]) w := (part4 w _ 0).trans (by simp)
    rw [← hp0]
    obtain ⟨p4, hp4⟩ : ∃ p, p = (a 4 == b 4 && (a 5 == b 5 && (a 6 == b 6 && a 7 == b 7))) := ⟨_, rfl⟩
    have e4 : (Op.equalIn 9999 77 (.agg #[.int .i64 (a 4), .int .i64 (a 5), .int .i64 (a 6), .int .i64 (a 7)]) (.agg #[.int .i64 (b 4), .int .i64 (b 5), .int .i64 (b 6), .int .i64 (b 7)])).run Tryz.prog w = .ok p4 w := by
      rw [hp4]
      exact eq4 9997 w _ _ _ _ _ _ _ _
    have q4 : (part 77 #[Value.int .i64 (a 0), Value.int .i64 (a 1), Value.int .i64 (a 2), Value.int .i64 (a 3), Value.int .i64 (a 4), Value.int .i64 (a 5), Value.int .i64 (a 6), Value.int .i64 (a 7), Value.int .i64 (a 8), Value.int .i64 (a 9), Value.int .i64 (a 10), Value.int .i64 (a 11), Value.int .i64 (a 12), Value.int .i64 (a 13), Value.int .i64 (a 14), Value.int .i64 (a 15)] 4).run Tryz.prog w = .ok (.agg #[.int .i64 (a 4), .int .i64 (a 5), .int .i64 (a 6), .int .i64 (a 7)]) w := (part4 w _ 4).trans (by simp)
    have r4 : (part 77 #[Value.int .i64 (b 0), Value.int .i64 (b 1), Value.int .i64 (b 2), Value.int .i64 (b 3), Value.int .i64 (b 4), Value.int .i64 (b 5), Value.int .i64 (b 6), Value.int .i64 (b 7), Value.int .i64 (b 8), Value.int .i64 (b 9), Value.int .i64 (b 10), Value.int .i64 (b 11), Value.int .i64 (b 12), Value.int .i64 (b 13), Value.int .i64 (b 14), Value.int .i64 (b 15)] 4).run Tryz.prog w = .ok (.agg #[.int .i64 (b 4), .int .i64 (b 5), .int .i64 (b 6), .int .i64 (b 7)]) w := (part4 w _ 4).trans (by simp)
    rw [← hp4]
    obtain ⟨p8, hp8⟩ : ∃ p, p = (a 8 == b 8 && (a 9 == b 9 && (a 10 == b 10 && a 11 == b 11))) := ⟨_, rfl⟩
    have e8 : (Op.equalIn 9999 77 (.agg #[.int .i64 (a 8), .int .i64 (a 9), .int .i64 (a 10), .int .i64 (a 11)]) (.agg #[.int .i64 (b 8), .int .i64 (b 9), .int .i64 (b 10), .int .i64 (b 11)])).run Tryz.prog w = .ok p8 w := by
      rw [hp8]
      exact eq4 9997 w _ _ _ _ _ _ _ _
    have q8 : (part 77 #[Value.int .i64 (a 0), Value.int .i64 (a 1), Value.int .i64 (a 2), Value.int .i64 (a 3), Value.int .i64 (a 4), Value.int .i64 (a 5), Value.int .i64 (a 6), Value.int .i64 (a 7), Value.int .i64 (a 8), Value.int .i64 (a 9), Value.int .i64 (a 10), Value.int .i64 (a 11), Value.int .i64 (a 12), Value.int .i64 (a 13), Value.int .i64 (a 14), Value.int .i64 (a 15)] 8).run Tryz.prog w = .ok (.agg #[.int .i64 (a 8), .int .i64 (a 9), .int .i64 (a 10), .int .i64 (a 11)]) w := (part4 w _ 8).trans (by simp)
    have r8 : (part 77 #[Value.int .i64 (b 0), Value.int .i64 (b 1), Value.int .i64 (b 2), Value.int .i64 (b 3), Value.int .i64 (b 4), Value.int .i64 (b 5), Value.int .i64 (b 6), Value.int .i64 (b 7), Value.int .i64 (b 8), Value.int .i64 (b 9), Value.int .i64 (b 10), Value.int .i64 (b 11), Value.int .i64 (b 12), Value.int .i64 (b 13), Value.int .i64 (b 14), Value.int .i64 (b 15)] 8).run Tryz.prog w = .ok (.agg #[.int .i64 (b 8), .int .i64 (b 9), .int .i64 (b 10), .int .i64 (b 11)]) w := (part4 w _ 8).trans (by simp)
    rw [← hp8]
    obtain ⟨p12, hp12⟩ : ∃ p, p = (a 12 == b 12 && (a 13 == b 13 && (a 14 == b 14 && a 15 == b 15))) := ⟨_, rfl⟩
    have e12 : (Op.equalIn 9999 77 (.agg #[.int .i64 (a 12), .int .i64 (a 13), .int .i64 (a 14), .int .i64 (a 15)]) (.agg #[.int .i64 (b 12), .int .i64 (b 13), .int .i64 (b 14), .int .i64 (b 15)])).run Tryz.prog w = .ok p12 w := by
      rw [hp12]
      exact eq4 9997 w _ _ _ _ _ _ _ _
    have q12 : (part 77 #[Value.int .i64 (a 0), Value.int .i64 (a 1), Value.int .i64 (a 2), Value.int .i64 (a 3), Value.int .i64 (a 4), Value.int .i64 (a 5), Value.int .i64 (a 6), Value.int .i64 (a 7), Value.int .i64 (a 8), Value.int .i64 (a 9), Value.int .i64 (a 10), Value.int .i64 (a 11), Value.int .i64 (a 12), Value.int .i64 (a 13), Value.int .i64 (a 14), Value.int .i64 (a 15)] 12).run Tryz.prog w = .ok (.agg #[.int .i64 (a 12), .int .i64 (a 13), .int .i64 (a 14), .int .i64 (a 15)]) w := (part4 w _ 12).trans (by simp)
    have r12 : (part 77 #[Value.int .i64 (b 0), Value.int .i64 (b 1), Value.int .i64 (b 2), Value.int .i64 (b 3), Value.int .i64 (b 4), Value.int .i64 (b 5), Value.int .i64 (b 6), Value.int .i64 (b 7), Value.int .i64 (b 8), Value.int .i64 (b 9), Value.int .i64 (b 10), Value.int .i64 (b 11), Value.int .i64 (b 12), Value.int .i64 (b 13), Value.int .i64 (b 14), Value.int .i64 (b 15)] 12).run Tryz.prog w = .ok (.agg #[.int .i64 (b 12), .int .i64 (b 13), .int .i64 (b 14), .int .i64 (b 15)]) w := (part4 w _ 12).trans (by simp)
    rw [← hp12]
    clear hp0 hp4 hp8 hp12
    simp only [show List.range 4 = [0, 1, 2, 3] from rfl, Op.eqItems, Sem.run_bind, Nat.reduceMul]
    cases p0 <;> cases p4 <;> cases p8 <;> cases p12 <;> simp [e0, e4, e8, e12, q0, q4, q8, q12, r0, r4, r8, r12]
  simp [binOp, hq]

end Go.Proofs.YtilblfoapjnmaaaGreatDoor
