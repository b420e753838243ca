/- The sides of a simplex that are met: the program, its two functions. -/
import Derived.Test.YtmldemimdejciaaDoorSh7
namespace Go.Proofs.YtmldemimdejciaaDoor
open Go.RowKit
attribute [local go_sem ↓] Go.wp_at_zero Go.wp_at_succ

theorem Tryd.info43' : (Tryd.prog.info? 43).map (fun i => (i.zero, i.size, i.bytes)) = some (some (.int .u64 0), 1, 8) := by kernel_rfl

theorem owns_lower {B B' : Nat} {e : TypeId} {w : World} {v : Value} {n : Nat} {xs : List Value} (h : w.ownsRow B e 1 v n xs) (hB : B' ≤ B) : w.ownsRow B' e 1 v n xs := by
  obtain ⟨h1, h2⟩ := h
  refine ⟨h1, ?_⟩
  rcases h2 with h2 | ⟨g, cap, cur, q1, q2, q3⟩
  · exact Or.inl h2
  · exact Or.inr ⟨g, cap, cur, q1, by omega, q3⟩

theorem one_u64 (z : Int) : ∀ u ∈ [Value.int .u64 z], u.oneCell' = true := by
  intro u hu; simp at hu; subst hu; rfl

theorem owns_pushS {M N : Nat} {e : TypeId} {w0 w w1 : World} {v v' : Value} {l : List Nat} {z : Nat} {o : Obj} (hN : M ≤ w.heap.size) (h : w.ownsRow M e 1 v l.length (nats l)) (hb : Below M w0 w)
    (ho : w1.ownsRow M e 1 v' N (nats l ++ [.int .u64 (z : Int)])) (hg : (w.alloc o).grownBy w1 v.ownBlock) (hn : N = l.length + 1) :
    w1.ownsRow M e 1 v' (l ++ [z]).length (nats (l ++ [z])) ∧ Below M w0 w1 := by
  subst hn
  refine ⟨by simpa [nats] using ho, ?_⟩
  refine (hb.alloc hN o).grown hg (by simp; omega) ?_
  intro k hk
  exact (h.lt k hk).1

set_option maxRecDepth 100000 in
set_option maxHeartbeats 400000 in
theorem meets_any (B : Nat) (ms ns : List Nat) (x : Nat) (u v : Value) (w : World) (hv : Sl B 43 w v (nats ms)) (hm : L64 ms) (hu : Sl B 43 w u (nats ns)) (hn : L64 ns) (hx : x < 18446744073709551616) :
    Calls Tryd.prog 18 #[.int .u64 (x : Int), v, u] w fun e w' => e = .returned (.bool (!(ms.any fun o => !(ns.any fun a => outN (x &&& o) a == 0)))) ∧ Below w.heap.size w w' := by
  obtain ⟨ao, cap, hvv, hlc, hcm⟩ := sl_openS hv
  obtain ⟨bo, cbp, huu, hlb, hcb⟩ := sl_openS hu
  subst hvv huu
  have HV : Hid (Sl B 43 w (.slice ao ms.length cap) (nats ms)) := hv
  have HU : Hid (Sl B 43 w (.slice bo ns.length cbp) (nats ns)) := hu
  have HM : Hid (L64 ms) := hm
  have HN : Hid (L64 ns) := hn
  clear hu hn hv hm
  go_enter Tryd.func18, Tryd.ntmps18
  go_wp2_with fail
  have HB2 : Hid (Below w.heap.size w ((w.alloc (Obj.cells #[Value.int IntKind.u64 (x : Int)] 43)).alloc (Obj.cells #[Value.slice bo ns.length cbp] 41))) := ((Below.refl _ _).alloc (Nat.le_refl _) _).alloc (by simp) _
  have hp : ((w.alloc (Obj.cells #[Value.int IntKind.u64 (x : Int)] 43)).alloc (Obj.cells #[Value.slice bo ns.length cbp] 41)).cell? ⟨w.heap.size + 1, 0, none⟩ = some (.slice bo ns.length cbp) := by
    have := one_new (w.alloc (Obj.cells #[Value.int IntKind.u64 (x : Int)] 43)) (Value.slice bo ns.length cbp) 41 0 _ rfl
    have e : (w.alloc (Obj.cells #[Value.int IntKind.u64 (x : Int)] 43)).heap.size = w.heap.size + 1 := by simp
    rw [e] at this
    simpa only [Addr.add, if_true] using this
  have hq : ((w.alloc (Obj.cells #[Value.int IntKind.u64 (x : Int)] 43)).alloc (Obj.cells #[Value.slice bo ns.length cbp] 41)).cell? ⟨w.heap.size, 0, none⟩ = some (.int .u64 (x : Int)) := by
    rw [World.cell?_of_block (w := w.alloc (Obj.cells #[Value.int IntKind.u64 (x : Int)] 43)) (a := ⟨w.heap.size, 0, none⟩) (Below.heap_alloc _ _ _ (by simp))]
    simp
  refine (hasC_any B ms ns x _ _ ⟨w.heap.size + 1, 0, none⟩ ⟨w.heap.size, 0, none⟩ _ ((HV.out.alloc _).alloc _) HM.out ((HU.out.alloc _).alloc _) HN.out hx hp hq).mono ?_
  rintro e w' ⟨rfl, hw'⟩
  rw [hw']
  go_wp2
  go_ret
  exact ⟨rfl, HB2.out⟩

set_option maxRecDepth 100000 in
set_option maxHeartbeats 800000 in
theorem sidesMet_any (B : Nat) (zs : List Int) (ns : List Nat) (u : Value) (w : World) (hu : Sl B 43 w u (nats ns)) (hn : L64 ns) (hb : B64 zs) (hr : Ris zs) (hT : TabB w) (hl : zs.length ≤ 1000) :
    Calls Tryd.prog 17 #[.int .u64 (setN zs), u] w fun e w' => ∃ z, e = .returned z ∧ w'.ownsRow w.heap.size 43 1 z (((zs.map fun v => setN (butL zs v)).filter fun s => ns.any fun a => outN s a == 0)).length (nats ((zs.map fun v => setN (butL zs v)).filter fun s => ns.any fun a => outN s a == 0)) ∧ Below w.heap.size w w' := by
  obtain ⟨i3, hi3, hz30, hz31, hz32⟩ := info_parts Tryd.info43'
  obtain ⟨bo, cbp, huu, hlb, hcb⟩ := sl_openS hu
  subst huu
  have HU : Hid (Sl B 43 w (.slice bo ns.length cbp) (nats ns)) := hu
  have HN : Hid (L64 ns) := hn
  have HB : Hid (B64 zs) := hb
  have HR : Hid (Ris zs) := hr
  have HT : Hid (TabB w) := hT
  clear hu hn hb hr hT
  obtain ⟨F, hF⟩ : ∃ F : Nat → List Nat, ∀ k, F k = ((zs.take k).map fun v => setN (butL zs v)).filter fun s => ns.any fun a => outN s a == 0 := ⟨_, fun _ => rfl⟩
  have HF0 : Hid (F 0 = []) := by show _ = _; rw [hF]; rfl
  have HFE : Hid (F zs.length = (zs.map fun v => setN (butL zs v)).filter fun s => ns.any fun a => outN s a == 0) := by show _ = _; rw [hF, List.take_length]
  have HFS : Hid (∀ k, k < zs.length → F (k + 1) = if (ns.any fun a => outN (setN (butL zs (zs.getD k 0))) a == 0) then F k ++ [setN (butL zs (zs.getD k 0))] else F k) := by
    intro k hk
    rw [hF, hF, take_snoc_int zs k hk, List.map_append, List.filter_append]
    cases h : (ns.any fun a => outN (setN (butL zs (zs.getD k 0))) a == 0)
    · simp only [List.map_cons, List.map_nil, List.filter_cons, h, List.filter_nil]; simp
    · simp only [List.map_cons, List.map_nil, List.filter_cons, h, List.filter_nil]; simp
  have HFL : Hid (∀ k, k ≤ zs.length → (F k).length ≤ k) := by
    intro k hk
    rw [hF]
    exact Nat.le_trans (List.length_filter_le _ _) (by simp; omega)
  rw [← HFE.out]
  clear hF
  go_enter Tryd.func17, Tryd.ntmps17
  go_wp2_with fail
  refine (list_any zs w HB.out HR.out HT.out hl).mono ?_
  rintro e w1 ⟨lv, rfl, hlo, hb1⟩
  have HLO : Hid (Sl w1.heap.size 3 w1 lv (ints zs)) := Sl.own hlo
  have HB1 : Hid (Below w.heap.size w w1) := hb1
  have hsz1 : w.heap.size ≤ w1.heap.size := hb1.size
  have HU1 : Hid (Sl B 43 w1 (.slice bo ns.length cbp) (nats ns)) := HU.out.below hb1 (Nat.le_refl _)
  obtain ⟨lo, lc, hlv⟩ := owns_form hlo
  subst hlv
  clear hlo hb1 HU
  go_wp2
  go_loopw [5, 12] (fun s i wr => ∃ k : Nat, k ≤ zs.length ∧ i = .int .i64 k ∧ wr.ownsRow w1.heap.size 43 1 s (F k).length (nats (F k)) ∧ Below w1.heap.size w1 wr ∧ Below w.heap.size w wr) (fun _ i _ => zs.length - (intOf i).toNat)
  case atStart => exact ⟨0, Nat.zero_le _, rfl, by rw [HF0.out]; exact World.ownsRow_nil _ _ _ _, Below.refl _ _, HB1.out⟩
  case round =>
    obtain ⟨k, hk, rfl, ho, hb, hb0⟩ := hrel
    have HO : Hid (wr.ownsRow w1.heap.size 43 1 u5 (F k).length (nats (F k))) := ho
    have HW1 : Hid (Below w1.heap.size w1 wr) := hb
    have HW0 : Hid (Below w.heap.size w wr) := hb0
    have hszr : w1.heap.size ≤ wr.heap.size := hb.size
    have hszs : w.heap.size ≤ wr.heap.size := hb0.size
    have hlk := HFL.out k hk
    clear ho hb hb0
    by_cases hlt : k < zs.length
    · obtain ⟨b, o, cp, hs, hc1, hcc⟩ := sl_cell (HLO.out.below HW1.out (Nat.le_refl _)) hlt
      simp only [Value.slice.injEq] at hs
      obtain ⟨rfl, _, rfl⟩ := hs
      have HK := HFS.out k hlt
      have hzk := HB.out.get hlt
      have HB1z : Hid (B64 [zs.getD k 0]) := by intro x hx; simp only [List.mem_singleton] at hx; subst hx; exact hzk
      have hand : bits .andNot .u64 ((setN zs : Nat) : Int) ((setN [zs.getD k 0] : Nat) : Int) = ((setN (butL zs (zs.getD k 0)) : Nat) : Int) := by
        rw [bits_andNot_u64_nat _ _ (setN_lt' HB.out) (setN_lt' HB1z.out), setN_but zs _ HB.out hzk]
      have HSL : Hid (setN (butL zs (zs.getD k 0)) < 18446744073709551616) := setN_lt' (HB.out.filter _)
      have HKK : Hid (F (k + 1) = if (ns.any fun a => outN (setN (butL zs (zs.getD k 0))) a == 0) then F k ++ [setN (butL zs (zs.getD k 0))] else F k) := HK
      clear HK
      generalize hS : setN (butL zs (zs.getD k 0)) = S at *
      clear hS
      generalize zs.getD k 0 = z at *
      have HO1 : Hid (Calls Tryd.prog 30 #[.int .i64 z] wr fun e w' => e = .returned (.int .u64 ((setN [z] : Nat) : Int)) ∧ w' = wr) := by rw [setN_one]; exact one_any z wr hzk.1 hzk.2
      generalize setN [z] = q2 at *
      go_wp2_with fail
      refine HO1.out.mono ?_
      rintro e wq ⟨rfl, hwq⟩
      subst hwq
      have HO2 : Hid (wq.ownsRow w1.heap.size 43 1 u5 (F k).length (nats (F k))) := HO.out
      have HX1 : Hid (Below w1.heap.size w1 wq) := HW1.out
      have HX0 : Hid (Below w.heap.size w wq) := HW0.out
      have HU2 : Hid (Sl B 43 wq (.slice bo ns.length cbp) (nats ns)) := HU1.out.below HX1.out (Nat.le_refl _)
      have hszq : w1.heap.size ≤ wq.heap.size := HX1.out.size
      clear HO HW1 HW0 hszr hcc HO1
      go_wp2_with fail
      refine (hasB_any B ns S _ wq HU2.out HN.out HSL.out).mono ?_
      rintro e w2 ⟨rfl, hw2⟩
      subst hw2
      cases hf : (ns.any fun a => outN S a == 0)
      · rw [hf] at HKK
        go_wp2
        go_roundw
        case rel => exact ⟨k + 1, by omega, by go_num, by rw [HKK.out]; exact HO2.out, HX1.out, HX0.out⟩
        case measure => simp [intOf]; omega
      · rw [hf] at HKK
        go_wp2_with (first | (at_builtin; refine wpList_append_own _ rfl _ _ 41 rfl w1.heap.size 43 i3 (.int .u64 0) 1 8 Tryd.underlying41 hi3 hz30 hz31 hz32 rfl (by decide) _ _ _ rfl (HO2.out.alloc _) ⟨w2.heap.size, 0, none⟩ 1 1 [.int .u64 (S : Int)] rfl rfl (one_new _ _ _) (one_u64 _) ?c3 ?c4 ?c5 ?_))
        case c3 => unfold maxLen; omega
        case c4 => omega
        case c5 => simp; omega
        intro v' w3 ho hg _
        have R := owns_pushS (z := S) (N := (F k).length + 1) hszq (l := F k) HO2.out HX1.out ho hg rfl
        have R1 : Hid (w3.ownsRow w1.heap.size 43 1 v' (F (k + 1)).length (nats (F (k + 1)))) := by
          show World.ownsRow _ _ _ _ _ _ _
          rw [HKK.out, if_pos trivial]
          exact R.1
        have R3 : Hid (Below w1.heap.size w1 w3) := R.2
        have R2 : Hid (Below w.heap.size w w3) := HB1.out.trans (R.2.mono hsz1)
        clear R ho hg HO2 HX0 HX1
        go_wp2
        go_roundw
        case rel => exact ⟨k + 1, by omega, by go_num, R1.out, R3.out, R2.out⟩
        case measure => simp [intOf]; omega
    · have hke : k = zs.length := by omega
      rw [hke] at HO
      go_wp2
      go_ret
      exact ⟨_, rfl, owns_lower HO.out hsz1, HW0.out⟩
end Go.Proofs.YtmldemimdejciaaDoor
