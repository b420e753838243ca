import Derived.Test.YtknomkajibfmlaaGreatRefs
import Derived.Deep.QuietTactic
import Derived.BigQuiet
import Derived.Test.YtknomkajibfmlaaGreatMgAA
import Derived.Deep.RegionHeld3
import Derived.Deep.RegionLaw
/- The program's own lists: copies, divisors, signs. -/
namespace Go.Proofs.YtknomkajibfmlaaGreat
open Go.RowKit

set_option maxRecDepth 100000 in
set_option maxHeartbeats 400000 in
theorem clone_any (B : Nat) (l : List Int) (v : Value) (w : World) (hv : Sl B 3 w v (ints l)) (hl : l.length ≤ 1000000) :
    Calls Tryz.prog 58 #[v] w fun e w' => ∃ u, e = .returned u ∧ w'.ownsRow w.heap.size 3 1 u l.length (ints l) ∧ Below w.heap.size w w' := by
  obtain ⟨i3, hi3, hz30, hz31, hz32⟩ := info_parts Tryz.info3
  have hv' := hv
  obtain ⟨ao, cap, hvv, hlc, hcm, hcell, hnil⟩ := hv'
  simp only [ints_length] at hvv hlc
  subst hvv
  have HV : Hid (Sl B 3 w (.slice ao l.length cap) (ints l)) := hv
  clear hcell hv
  have HE : Hid ((w.alloc (.cells #[] 3)).ownsRow w.heap.size 3 1 (.slice (some ⟨w.heap.size, 0, none⟩) 0 0) 0 []) :=
    World.ownsRow_made w #[] 0 (Nat.le_refl _) (by simp [maxLen]) (by simp)
  have hq := fun (w : World) (a : Option Addr) (n c : Nat) => Lib.run_eql_slice_nil (P := Tryz.prog) w 38 3 a n c 0 0 Tryz.underlying38
  cases ao with
  | none =>
    have hc0 := hnil rfl
    subst hc0
    have hl0 : l = [] := List.eq_nil_of_length_eq_zero (by omega)
    subst hl0
    go_enter Tryz.func58, Tryz.ntmps58
    go_wp2
    go_ret
    exact ⟨_, rfl, World.ownsRow_nil _ _ _ _, Below.refl _ _⟩
  | some a =>
    clear hnil
    go_enter Tryz.func58, Tryz.ntmps58
    go_wp2_with (first | (at_builtin; refine wpList_append_own _ rfl _ _ 38 rfl w.heap.size 3 i3 (.int .i64 0) 1 8 Tryz.underlying38 hi3 hz30 hz31 hz32 rfl (by decide) _ _ _ rfl HE.out a l.length cap (ints l) rfl (by simp) (sl_cells HV.out _) (ints_oneCell' l) ?c3 ?c4 ?c5 ?_))
    case c3 => unfold maxLen; omega
    case c4 => omega
    case c5 => simp
    intro v' w3 ho hg _
    have ho' : w3.ownsRow w.heap.size 3 1 v' l.length (ints l) := by simpa using ho
    have HO : Hid (w3.ownsRow w.heap.size 3 1 v' l.length (ints l)) := ho'
    have HB : Hid (Below w.heap.size w w3) := ((Below.refl _ _).alloc (Nat.le_refl _) _).grown hg (by simp) (fun k hk => by simp [Value.ownBlock] at hk; omega)
    clear ho ho' hg
    go_wp2
    go_ret
    exact ⟨_, rfl, HO.out, HB.out⟩

set_option maxRecDepth 100000 in
set_option maxHeartbeats 800000 in
theorem divisor_any (B : Nat) (l : List Int) (v : Value) (w : World) (hv : Sl B 3 w v (ints l)) (hb : ∀ z ∈ l, z.natAbs ≤ 4611686018427387904) :
    Calls Tryz.prog 57 #[v] w fun e w' => e = .returned (.int .i64 (Lin.gc l)) ∧ ∃ n, w' = w.drewN n := by
  obtain ⟨ao, cap, hvv, hlc, hcm⟩ := sl_open hv
  subst hvv
  have HV : Hid (Sl B 3 w (.slice ao l.length cap) (ints l)) := hv
  have HBD : Hid (∀ z ∈ l, z.natAbs ≤ 4611686018427387904) := hb
  clear hv hb
  go_enter Tryz.func57, Tryz.ntmps57
  go_wp2
  go_loopw [3, 8] (fun g i wr => ∃ k : Nat, k ≤ l.length ∧ i = .int .i64 k ∧ (∃ d : Int, g = .int .i64 d ∧ d.natAbs = Lin.gc (l.take k)) ∧ ∃ n, wr = w.drewN n) (fun _ i _ => l.length - (intOf i).toNat)
  case atStart => exact ⟨0, Nat.zero_le _, rfl, ⟨0, rfl, rfl⟩, 0, rfl⟩
  case round =>
    obtain ⟨k, hk, rfl, ⟨d, rfl, hd⟩, n, hwr⟩ := hrel
    have HW : Hid (∃ n, wr = w.drewN n) := ⟨n, hwr⟩
    have HVr : Hid (Sl B 3 wr (.slice ao l.length cap) (ints l)) := by subst hwr; exact HV.out.drewN n
    have hgl : Lin.gc (l.take k) ≤ 4611686018427387904 := gc_le fun z hz => HBD.out z (List.mem_of_mem_take hz)
    have hd1 : d.natAbs ≤ 4611686018427387904 := by omega
    have HD : Hid (d.natAbs = Lin.gc (l.take k)) := hd
    clear hwr hd hgl
    obtain ⟨wa, rfl⟩ : ∃ wa, wa = wr := ⟨wr, rfl⟩
    by_cases hlt : k < l.length
    · obtain ⟨b, o, cp, hs, hc1, hcc⟩ := sl_cell HVr.out hlt
      simp only [Value.slice.injEq] at hs
      obtain ⟨rfl, _, rfl⟩ := hs
      have hbd := HBD.out l[k] (List.getElem_mem hlt)
      have HG : Hid (Lin.gc (l.take (k + 1)) = Nat.gcd (Lin.gc (l.take k)) (l[k]).natAbs) := gc_snoc l k hlt
      rw [show l.getD k 0 = l[k] by simp [hlt]] at hcc
      generalize hlk : l[k] = x at *
      clear hlk
      go_wp2
      go_loopw [3, 5] (fun g a wq => ∃ p q : Int, g = .int .i64 p ∧ a = .int .i64 q ∧ p.natAbs ≤ 4611686018427387904 ∧ q.natAbs ≤ 4611686018427387904 ∧ Nat.gcd p.natAbs q.natAbs = Nat.gcd d.natAbs x.natAbs ∧ ∃ n, wq = wa.drewN n) (fun _ a _ => (intOf a).natAbs)
      case atStart => exact ⟨d, x, rfl, rfl, hd1, hbd, rfl, 0, rfl⟩
      case round =>
        obtain ⟨p, q, rfl, rfl, hp, hq, hpq, n2, hwq⟩ := hrel
        have HXY : Hid (Nat.gcd p.natAbs q.natAbs = Nat.gcd d.natAbs x.natAbs) := hpq
        have HWQ : Hid (∃ n, wr = wa.drewN n) := ⟨n2, hwq⟩
        clear hpq hwq
        by_cases hq0 : q = 0
        · subst hq0
          go_wp2
          go_roundw
          case rel =>
            obtain ⟨n1, e1⟩ := HW.out
            obtain ⟨n2, e2⟩ := HWQ.out
            refine ⟨k + 1, by omega, by go_num, ⟨p, rfl, ?_⟩, n1 + n2, by rw [e2, e1, World.drewN_drewN]⟩
            rw [HG.out, ← HD.out, ← HXY.out]; simp
          case measure => simp [intOf]; omega
        · have hqb : (q != 0) = true := by simp [hq0]
          have hm1 : (p.tmod q).natAbs = p.natAbs % q.natAbs := Int.natAbs_tmod p q
          have HM1 : Hid ((p.tmod q).natAbs = p.natAbs % q.natAbs) := hm1
          have hql : p.natAbs % q.natAbs < q.natAbs := Nat.mod_lt _ (by omega)
          have HQL : Hid (p.natAbs % q.natAbs < q.natAbs) := hql
          clear hm1 hql
          go_wp2
          go_region
          all_goals
            go_wp2
            go_roundw
            case rel =>
              obtain ⟨n2, e2⟩ := HWQ.out
              refine ⟨q, p.tmod q, rfl, rfl, hq, ?_, ?_, n2 + 1, by rw [e2]; rfl⟩
              · have h1 := HM1.out; have h2 := HQL.out; omega
              · rw [HM1.out, ← HXY.out, Nat.gcd_comm q.natAbs, ← Nat.gcd_rec, Nat.gcd_comm]
            case measure =>
              have h1 := HM1.out
              have h2 := HQL.out
              simp only [intOf]; omega
    · have HTK : Hid (l.take k = l) := List.take_of_length_le (by omega)
      have HD2 : Hid (d.natAbs = Lin.gc l) := by show _ = _; rw [HD.out, HTK.out]
      by_cases hneg : d < 0
      all_goals
        go_wp2
        all_goals
          go_ret
          exact ⟨ret_int (by have := HD2.out; omega), HW.out⟩


set_option maxHeartbeats 400000 in
theorem prim1_any (x d : Int) (w : World) (a : Addr) (hd : 1 ≤ d) (hx : x.natAbs ≤ 4611686018427387904) (hc : w.cell? a = some (.int .i64 d)) :
    Calls Tryz.prog 60 #[.int .i64 x, .pointer (some a)] w fun e w' => e = .returned (.int .i64 (x.tdiv d)) ∧ w' = w := by
  have h1 : (x.tdiv d).natAbs ≤ 4611686018427387904 := by
    rw [Int.natAbs_tdiv]; exact Nat.le_trans (Nat.div_le_self _ _) hx
  have hdb : (d == 0) = false := beq_eq_false_iff_ne.2 (by omega)
  go_enter Tryz.func60, Tryz.ntmps60
  go_wp2
  go_ret
  exact ⟨rfl, rfl⟩

set_option maxHeartbeats 400000 in
theorem neg1_any (x : Int) (w : World) (hx : x.natAbs ≤ 4611686018427387904) :
    Calls Tryz.prog 70 #[.int .i64 x] w fun e w' => e = .returned (.int .i64 (-x)) ∧ w' = w := by
  go_enter Tryz.func70, Tryz.ntmps70
  go_wp2
  go_ret
  exact ⟨rfl, rfl⟩

theorem low_prog {l : List Int} (h : 1 ≤ Lin.gc l) : (l.map fun z => z.tdiv (Lin.gc l)) = Lin.low l := by
  unfold Lin.low
  refine List.map_congr_left fun z hz => ?_
  obtain ⟨q, hq⟩ := Lin.gc_dvd hz
  have hne : (Lin.gc l : Int) ≠ 0 := by omega
  have e : z = (Lin.gc l : Int) * q := hq
  rw [e, Int.mul_tdiv_cancel_left q hne, Int.mul_ediv_cancel_left q hne]

theorem low_zero {l : List Int} (h : Lin.gc l = 0) : Lin.low l = l := by
  unfold Lin.low
  have : ∀ z ∈ l, z / (Lin.gc l : Int) = z := fun z hz => low_small hz (by omega)
  have e : l.map (fun z => z / (Lin.gc l : Int)) = l.map id := List.map_congr_left fun z hz => this z hz
  rw [e, List.map_id]

set_option maxHeartbeats 400000 in
theorem up1_any (x : Int) (w : World) :
    Calls Tryz.prog 98 #[.int .i64 x] w fun e w' => e = .returned (.bool (x != 0)) ∧ w' = w := by
  go_enter Tryz.func98, Tryz.ntmps98
  go_wp2
  go_ret
  exact ⟨rfl, rfl⟩

set_option maxHeartbeats 400000 in
theorem index92_any (B : Nat) (zs : List Int) (v : Value) (w : World) (hv : Sl B 3 w v (ints zs)) :
    Calls Tryz.prog 78 #[v, .func (.func 98) #[] #[]] w fun e w' => e = .returned (.int .i64 (findI (· != 0) zs)) ∧ w' = w := by
  obtain ⟨ao, cap, hvv, hlc, hcm⟩ := sl_open hv
  subst hvv
  have HV : Hid (Sl B 3 w (.slice ao zs.length cap) (ints zs)) := hv
  clear hv
  go_enter Tryz.func78, Tryz.ntmps78
  go_wp2
  go_loop [8] (fun i => ∃ k : Nat, k ≤ zs.length ∧ i = .int .i64 k ∧ (zs.take k).any (· != 0) = false) (fun i => zs.length - (intOf i).toNat)
  case atStart => exact ⟨0, Nat.zero_le _, rfl, by simp⟩
  case round =>
    obtain ⟨k, hk, rfl, hno⟩ := hrel
    have HN : Hid ((zs.take k).any (· != 0) = false) := hno
    clear hno
    by_cases hlt : k < zs.length
    · obtain ⟨b, o, cp, hs, hc1, hcc⟩ := sl_cell HV.out hlt
      simp only [Value.slice.injEq] at hs
      obtain ⟨rfl, _, rfl⟩ := hs
      have HS1 : Hid ((zs.take (k + 1)).any (· != 0) = (zs[k] != 0)) := any_snoc (p := (· != 0)) hlt HN.out
      have HH : Hid ((zs[k] != 0) = true → findI (· != 0) zs = k) := fun h => findI_hit (p := (· != 0)) hlt HN.out h
      rw [show zs.getD k 0 = zs[k] by simp [hlt]] at hcc
      generalize zs[k] = x at *
      by_cases hx : x = 0
      · have hxb : (x != 0) = false := by simp [hx]
        clear hx
        go_wp2_with (go_at_call 98; refine (up1_any _ _).mono ?_; rintro e w' ⟨rfl, rfl⟩)
        go_round
        case rel => exact ⟨k + 1, by omega, by go_num, by rw [HS1.out, hxb]⟩
        case measure => simp [intOf]; omega
      · have hxb : (x != 0) = true := by simp [hx]
        clear hx
        go_wp2_with (go_at_call 98; refine (up1_any _ _).mono ?_; rintro e w' ⟨rfl, rfl⟩)
        go_ret
        exact ⟨ret_int (HH.out hxb).symm, rfl⟩
    · go_wp2
      go_ret
      have e : zs.take k = zs := List.take_of_length_le (by omega)
      exact ⟨ret_int (findI_none (by rw [← HN.out, e])).symm, rfl⟩

theorem upr_find {l : List Int} (h : l.any (· != 0) = true) : ∃ k : Nat, k < l.length ∧ findI (· != 0) l = k ∧ Lin.upr l = if l.getD k 0 < 0 then l.map (fun v => -v) else l := by
  have hk : l.findIdx (· != 0) < l.length := List.findIdx_lt_length.2 (by obtain ⟨x, hx, h2⟩ := List.any_eq_true.1 h; exact ⟨x, hx, h2⟩)
  refine ⟨l.findIdx (· != 0), hk, by simp [findI, h], ?_⟩
  unfold Lin.upr
  have e : (l.find? (fun v => v != 0)).getD 0 = l.getD (l.findIdx (· != 0)) 0 := by
    refine Lin.find_at hk (fun i hi => ?_) ?_
    · have h1 := List.not_of_lt_findIdx hi
      have h2 : i < l.length := by omega
      simpa [h2] using h1
    · have h1 := List.findIdx_getElem (w := hk)
      simpa [hk] using h1
  rw [e]

theorem upr_none {l : List Int} (h : l.any (· != 0) = false) : Lin.upr l = l := by
  unfold Lin.upr
  have : l.find? (fun v => v != 0) = none := by
    rw [List.find?_eq_none]; intro x hx hh
    exact absurd (List.any_eq_true.2 ⟨x, hx, hh⟩) (by rw [h]; simp)
  rw [this]; simp

end Go.Proofs.YtknomkajibfmlaaGreat

/- The least of a list. -/
namespace Go.Proofs.YtknomkajibfmlaaGreat
open Go.RowKit

def lowB (x : Int) : Bool := decide (x ≤ 0)

theorem min_if (m z : Int) : (if z < m then z else m) = min m z := by split <;> omega

theorem low_snoc {zs : List Int} {k : Nat} {m : Int} (hk : k < zs.length) (h : decide (m ≤ 0) = (zs.take k).any lowB) : decide (min m (zs.getD k 0) ≤ 0) = (zs.take (k + 1)).any lowB := by
  rw [List.take_succ_eq_append_getElem hk, List.any_append, ← h]
  simp only [List.any_cons, List.any_nil, Bool.or_false, lowB]
  rw [Bool.eq_iff_iff]
  simp only [decide_eq_true_eq, Bool.or_eq_true, List.getD_eq_getElem?_getD, List.getElem?_eq_getElem hk, Option.getD_some]
  omega

set_option maxRecDepth 100000 in
set_option maxHeartbeats 400000 in
theorem minS_any (B : Nat) (zs : List Int) (v : Value) (w : World) (hv : Sl B 3 w v (ints zs)) (hz : 1 ≤ zs.length) :
    Calls Tryz.prog 69 #[v] w fun e w' => ∃ m : Int, e = .returned (.int .i64 m) ∧ decide (m ≤ 0) = zs.any lowB ∧ w' = w := by
  obtain ⟨ao, cap, hvv, hlc, hcm⟩ := sl_open hv
  subst hvv
  have HV : Hid (Sl B 3 w (.slice ao zs.length cap) (ints zs)) := hv
  clear hv
  obtain ⟨b, o, cp, hs, hc1, hcc⟩ := sl_cell HV.out (k := 0) (by omega)
  simp only [Value.slice.injEq] at hs
  obtain ⟨rfl, _, rfl⟩ := hs
  simp only [Nat.add_zero] at hcc
  have H0 : Hid (decide (zs.getD 0 0 ≤ 0) = (zs.take 1).any lowB) := by
    cases zs with
    | nil => simp at hz
    | cons z zs => show decide (z ≤ 0) = ([z].any lowB); simp only [List.any_cons, List.any_nil, Bool.or_false, lowB]
  have hz0 : (0 : Int) < (zs.length : Int) := by omega
  have hz1 : ¬ (zs.length : Int) < 1 := by omega
  generalize zs.getD 0 0 = z0 at *
  go_enter Tryz.func69, Tryz.ntmps69
  go_wp2
  go_loopw [4, 3] (fun i u wr => ∃ (k : Nat) (m : Int), 1 ≤ k ∧ k ≤ zs.length ∧ i = .int .i64 k ∧ u = .int .i64 m ∧ decide (m ≤ 0) = (zs.take k).any lowB ∧ wr = w) (fun i _ _ => zs.length - (intOf i).toNat)
  case atStart => exact ⟨1, z0, Nat.le_refl _, hz, rfl, rfl, H0.out, rfl⟩
  case round =>
    obtain ⟨k, m, hk1, hk, rfl, rfl, hm, rfl⟩ := hrel
    have HM : Hid (decide (m ≤ 0) = (zs.take k).any lowB) := hm
    clear hm
    by_cases hlt : k < zs.length
    · obtain ⟨b', o', cp', hs, hc1', hcc'⟩ := sl_cell HV.out hlt
      simp only [Value.slice.injEq, Option.some.injEq, Addr.mk.injEq, and_true] at hs
      obtain ⟨⟨rfl, rfl⟩, _, rfl⟩ := hs
      have HN := low_snoc hlt HM.out
      have HNN : Hid (decide (min m (zs.getD k 0) ≤ 0) = (zs.take (k + 1)).any lowB) := HN
      clear HN
      generalize zs.getD k 0 = z at *
      have kI : (k : Int) < (zs.length : Int) := by omega
      have kI0 : (0 : Int) ≤ (k : Int) := by omega
      go_wp2
      go_roundw
      case rel => exact ⟨k + 1, min m z, by omega, by omega, by go_num, by rw [min_if], HNN.out, trivial⟩
      case measure => simp [intOf]; omega
    · have hke : zs.take k = zs := List.take_of_length_le (by omega)
      have HE : Hid (decide (m ≤ 0) = zs.any lowB) := by rw [← hke]; exact HM.out
      have kI : ¬ (k : Int) < (zs.length : Int) := by omega
      go_wp2
      go_ret
      exact ⟨m, rfl, HE.out, rfl⟩

end Go.Proofs.YtknomkajibfmlaaGreat

/- A step of a region that draws its order: an append to a row of the call's own. -/

namespace Go.Proofs.YtknomkajibfmlaaGreat
open Go.RowKit

theorem step_append_own {P : Program} {ops : Array Oper} {o : Oper} {a : Act} {w : World} {K : Act → World → Prop} {Q : Exit → Act → World → Prop} {E : Prop}
    (hg : o.guard = none) (s x : Operand) (t : TypeId) (hop : o.op = Op.call { callee := Callee.builtin Builtin.append, args := #[s, x], argTypes := #[t, t] })
    (base : Nat) (e : TypeId) (i : TypeInfo) (z : Value) (size bytes : Nat) (h1 : P.underlying t = some (.slice e)) (h2 : P.info? e = some i) (h3 : i.zero = some z) (h4 : i.size = size) (h5 : i.bytes = bytes) (h6 : z.cells.size = size) (h7 : 0 < size)
    (v : Value) (n : Nat) (xs : List Value) (hs : a.eval s = v) (hown : w.ownsRow base e size v n xs)
    (ad : Addr) (m c : Nat) (news : List Value) (hx : a.eval x = .slice (some ad) m c) (hn : news.length = m * size) (hc : ∀ j u, news[j]? = some u → w.cell? (ad.add j) = some u) (h1c : ∀ u ∈ news, u.oneCell' = true)
    (b1 : n + m ≤ maxLen) (b2 : (n + m) * bytes ≤ 140737488355328) (hb : base ≤ w.heap.size)
    (hK : ∀ v' w', w'.ownsRow base e size v' (n + m) (xs ++ news) → w.grownBy w' v.ownBlock → K (a.put o.dst v') w') :
    if Region.wanted o (yielded ops a.tmps) = true then Oper.wp P o a w K Q else E := by
  have hw : Region.wanted o (yielded ops a.tmps) = true := by simp [Region.wanted, hg]
  rw [if_pos hw]
  obtain ⟨v', w', hrun, r1, r2, _⟩ := run_append_own (P := P) w base t o.type e i z size bytes h1 h2 h3 h4 h5 h6 h7 v n xs hown ad m c news hn hc h1c b1 b2 hb
  unfold Oper.wp
  simp [execOp, hop, resolve, invoke, builtin, hs, hx, hrun, Result.andThen]
  exact hK v' w' r1 r2

/-- .. from a source that is nil. -/
theorem step_append_none {P : Program} {ops : Array Oper} {o : Oper} {a : Act} {w : World} {K : Act → World → Prop} {Q : Exit → Act → World → Prop} {E : Prop}
    (hg : o.guard = none) (s x : Operand) (t : TypeId) (hop : o.op = Op.call { callee := Callee.builtin Builtin.append, args := #[s, x], argTypes := #[t, t] })
    (base : Nat) (e : TypeId) (i : TypeInfo) (size : Nat) (h1 : P.underlying t = some (.slice e)) (h2 : P.info? e = some i)
    (v : Value) (n : Nat) (xs : List Value) (hs : a.eval s = v) (hown : w.ownsRow base e size v n xs) (hx : a.eval x = .slice none 0 0)
    (hK : K (a.put o.dst v) w) :
    if Region.wanted o (yielded ops a.tmps) = true then Oper.wp P o a w K Q else E := by
  have hw : Region.wanted o (yielded ops a.tmps) = true := by simp [Region.wanted, hg]
  rw [if_pos hw]
  have hrun := run_append_owned_none (P := P) (w := w) base t o.type e i size h1 h2 v n xs hown
  unfold Oper.wp
  simp [execOp, hop, resolve, invoke, builtin, hs, hx, hrun, Result.andThen]
  exact hK

end Go.Proofs.YtknomkajibfmlaaGreat

/- A step of a region that draws its order: a call, by its contract. -/
namespace Go.Proofs.YtknomkajibfmlaaGreat
open Go.RowKit

theorem step_call {P : Program} {ops : Array Oper} {o : Oper} {a : Act} {w : World} {K : Act → World → Prop} {Q : Exit → Act → World → Prop} {E : Prop}
    (hg : o.guard = none) (f : FuncId) (x : Operand) (t : TypeId) (hop : o.op = Op.call { callee := Callee.value (Operand.func f), args := #[x], argTypes := #[t] }) (v : Value) (hv : a.eval x = v) (hf : ∃ fn, P.funcs[f]? = some fn ∧ (fn.name == "runtime.NumGoroutine") = false ∧ fn.body.isNone = false)
    (hc : Calls P f #[v] w fun e w' => ∃ u, e = .returned u ∧ K (a.put o.dst u) w') :
    if Region.wanted o (yielded ops a.tmps) = true then Oper.wp P o a w K Q else E := by
  have hw : Region.wanted o (yielded ops a.tmps) = true := by simp [Region.wanted, hg]
  rw [if_pos hw]
  unfold Oper.wp
  obtain ⟨fn, f1, f2, f3⟩ := hf
  have e : (execOp a.eval o).run P w = .ok (.enter f #[v]) w := by
    have hfn : a.eval (Operand.func f) = Value.func (Fn.func f) #[] #[] := rfl
    have hcf : (callFunc f #[v]).run P w = .ok (.enter f #[v]) w := by
      unfold callFunc
      have g2 : ¬ fn.name = "runtime.NumGoroutine" := by simpa using f2
      have g3 : ¬ fn.body = none := by intro e; rw [e] at f3; simp at f3
      simp [f1, g2, g3]
    unfold execOp
    rw [hop]
    simp [resolve, invoke, hv, hfn, Deferred.ofValue, hcf]
  rw [e, Oper.upon_enter]
  refine hc.mono ?_
  rintro e w' ⟨u, rfl, h⟩
  exact h

end Go.Proofs.YtknomkajibfmlaaGreat
