import Derived.Deep.RegionHeld3
import Derived.Test.YtknomkajibfmlaaGreatMgAB
import Derived.Maps.AppendAt
import Derived.Test.YtknomkajibfmlaaGreatMgAQ
import Derived.Test.YtknomkajibfmlaaGreatRefs
import Derived.Deep.DeepCutAuto
import Derived.Test.YtknomkajibfmlaaGreatMgAA
import Derived.Shelf.SlSortCmp.NoneTotal
import Derived.Shelf.SlGeneric
import Derived.Ground.SlsfProg
import Derived.Test.YtknomkajibfmlaaGreatMgAM
import Derived.Lib.SliceRun
import Derived.Lib.LazyBuf
/- An operation of a drawn region is taken first, its slot told. -/
namespace Go.Proofs.YtknomkajibfmlaaGreat
open Go

theorem wpAnyH_tk {P : Program} {md : Region.Mode} {ops : Array Oper} {Q : Exit → Act → World → Prop} {S : World → Prop} {i d : Nat} {oi : Oper} {v : Value} {fuel : Nat} {listed : Array Bool} {a : Act} {w : World} (hi : ops.toList[i]? = some oi) (hd : oi.dst = some d)
    (hs : Region.noSelect ops = true) (hf : Region.free md ops listed i = true) (hr : (Region.ready md ops listed).contains i = true)
    (hQ : ∀ c a w, Q (.panic c) (a.put (some d) v) w → Q (.panic c) a w) (hy : YieldsIf P ops S oi v a) (hS : S w)
    (h : wpAnyH P md ops Q S fuel (listed.setIfInBounds i true) (a.put (some d) v) w) : wpAnyH P md ops Q S (fuel + 1) listed a w := by
  rw [Array.getElem?_toList] at hi
  rw [← hd] at hQ h
  exact wpAnyH_take hi hs hf hr hQ hy hS h

theorem ready_tk {P : Program} {md : Region.Mode} {ops : Array Oper} {Q : Exit → Act → World → Prop} {S : World → Prop} {fuel : Nat} {listed : Array Bool} {a : Act} {w : World} {i : Nat} {o : Oper} {rs : List Nat} (ho : ops.toList[i]? = some o) (hw : Region.wanted o (yielded ops a.tmps) = true)
    (h : ∀ K' : Act → World → Prop, Shut (∀ a w, S w → (S w → wpAnyH P md ops Q S fuel (listed.setIfInBounds i true) a w) → K' a w) → Oper.wp P o a w K' Q)
    (hs : AllReadyH P md ops Q S fuel listed a w rs) : AllReadyH P md ops Q S fuel listed a w (i :: rs) := by
  rw [Array.getElem?_toList] at ho
  refine AllReadyH.cons ho (fun K' hK => ?_) hs
  rw [if_pos hw]
  exact h K' hK

end Go.Proofs.YtknomkajibfmlaaGreat

/- An append, as one operation of a drawn region, to a row of the call's own. -/
namespace Go.Proofs.YtknomkajibfmlaaGreat
open Go Go.RowKit

theorem op_append_ownA {P : Program} {o : Oper} {a : Act} {w : World} {K : Act → World → Prop} {Q : Exit → Act → World → Prop}
    (s x : Operand) (t : TypeId) (hop : o.op = Op.call { callee := Callee.builtin Builtin.append, args := #[s, x], argTypes := #[t, t] })
    (base : Nat) (e : TypeId) (i : TypeInfo) (z : Value) (size bytes : Nat) (h1 : P.underlying t = some (.slice e)) (h2 : P.info? e = some i) (h3 : i.zero = some z) (h4 : i.size = size) (h5 : i.bytes = bytes) (h6 : z.cells.size = size) (h7 : 0 < size)
    (v : Value) (n : Nat) (xs : List Value) (hs : a.eval s = v) (hown : w.ownsRow base e size v n xs)
    (ad : Addr) (m c : Nat) (news : List Value) (hx : a.eval x = .slice (some ad) m c) (hn : news.length = m * size) (hc : ∀ j u, news[j]? = some u → w.cell? (ad.add j) = some u) (h1c : ∀ u ∈ news, u.oneCell' = true)
    (b1 : n + m ≤ maxLen) (b2 : (n + m) * bytes ≤ 140737488355328) (hb : base ≤ w.heap.size)
    (hK : ∀ v' w', w'.ownsRow base e size v' (n + m) (xs ++ news) → w.grownBy w' v.ownBlock → (v'.ownBlock = v.ownBlock ∨ v'.ownBlock = some w.heap.size) → K (a.put o.dst v') w') : Oper.wp P o a w K Q := by
  obtain ⟨v', w', hrun, r1, r2, _, r3⟩ := run_append_own_at (P := P) w base t o.type e i z size bytes h1 h2 h3 h4 h5 h6 h7 v n xs hown ad m c news hn hc h1c b1 b2 hb
  unfold Oper.wp
  simp [execOp, hop, resolve, invoke, builtin, hs, hx, hrun, Result.andThen]
  exact hK v' w' r1 r2 r3

end Go.Proofs.YtknomkajibfmlaaGreat

/- facetref.drop: a list without its k-th number. -/
namespace Go.Proofs.YtknomkajibfmlaaGreat
open Go.RowKit
attribute [local go_sem ↓] Go.wp_at_zero Go.wp_at_succ

theorem dropK_len {r : List Int} {k : Nat} (hk : k + 1 < r.length) : (dropK r k).length = r.length - 1 := by simp [dropK]; omega

set_option maxRecDepth 100000 in
set_option maxHeartbeats 1600000 in
theorem drop_own (k : Nat) (r : List Int) (v : Value) (w : World) {B0 : Nat} (hv : Sl B0 3 w v (ints r)) (hk : k + 1 < r.length) (hn : r.length ≤ 10) :
    Calls Tryz.prog 22 #[v, .int .i64 k] w fun e w' => ∃ u, e = .returned u ∧ w'.ownsRow w.heap.size 3 1 u (r.length - 1) (ints (dropK r k)) ∧ Below w.heap.size w w' := by
  obtain ⟨i3, hi3, hz30, hz31, hz32⟩ := info_parts Tryz.info3
  obtain ⟨b, o, c, hvv, hc1, _⟩ := sl_cell hv (k := k) (by omega)
  subst hvv
  obtain ⟨n, hnn⟩ : ∃ n, n = r.length := ⟨_, rfl⟩
  rw [← hnn] at hv hc1 hk hn ⊢
  have HT : ∀ w, (Instr.slice 38 (.slice (some ⟨b, o, none⟩) n c) (some (.int .i64 ((k : Int) + 1))) none none).run Tryz.prog w = .ok (.slice (some ⟨b, o + (k + 1), none⟩) (n - (k + 1)) (c - (k + 1))) w := fun w => run_tail (by omega) hc1 w
  have HCP : Hid (Calls Tryz.prog 16 #[.slice (some ⟨b, o, none⟩) k c] w.drew fun e w' => ∃ uo uc, e = .returned (.slice uo k uc) ∧ w'.ownsRow w.heap.size 3 1 (.slice uo k uc) k (ints (r.take k)) ∧ Below w.heap.size w w') := by
    have hv' := hv
    rw [hnn] at hv'
    have h1 : Sl B0 3 w (.slice (some ⟨b, o, none⟩) k c) (ints (r.take k)) := Sl.takeN hv' (by omega)
    refine (copy_any _ (r.take k) _ w.drew (h1.drewN 1) (by simp; omega)).mono ?_
    rintro e w' ⟨u, rfl, ho, hb⟩
    have e1 : (r.take k).length = k := by rw [List.length_take]; omega
    rw [e1] at ho
    obtain ⟨uo, uc, rfl⟩ := owns_form ho
    exact ⟨uo, uc, rfl, ho, ((Below.refl _ _).drew (B := w.heap.size)).trans hb⟩
  have HTL : Hid (∀ W, Below w.heap.size w W → ∀ j u, (ints (r.drop (k + 1)))[j]? = some u → W.cell? ((⟨b, o + (k + 1), none⟩ : Addr).add j) = some u) := fun W hb => sl_cells0 ((Sl.tailN (j := k + 1) hv (by omega)).below hb (Nat.le_refl _))
  have HEND : Hid (ints (r.take k) ++ ints (r.drop (k + 1)) = ints (dropK r k)) := by show _ = _; unfold dropK; simp [ints]
  have HLD : Hid ((ints (r.drop (k + 1))).length = (n - (k + 1)) * 1) := by show _ = _; simp [ints, ← hnn]
  have hk0 : (0 : Int) ≤ (k : Int) := by omega
  have hkc : (k : Int) ≤ (c : Int) := by omega
  have hkcN : k ≤ c := by omega
  have hw1 : IntKind.i64.wrap ((k : Int) + 1) = (k : Int) + 1 := by rw [IntKind.wrap_i64]; omega
  have hw2 : wrap64 ((k : Int) + 1) = (k : Int) + 1 := IntWalk.wrap64_in _ ⟨by omega, by omega⟩
  have HN1 : Hid (k + (n - (k + 1)) = n - 1) := by show _ = _; omega
  have HN10 : Hid (n ≤ 10 ∧ k + 1 < n) := ⟨hn, hk⟩
  clear hv hnn
  go_enter Tryz.func22, Tryz.ntmps22
  go_upto_region 1 with fail
  refine wp_region_held_drew (S := fun _ => True) (by kernel_rfl) trivial (fun hHeld => ?_)
  refine wpAnyH_tk (i := 0) (d := 5) (v := .slice (some ⟨b, o, none⟩) n c) rfl rfl (by kernel_rfl) (by kernel_rfl) (by kernel_rfl) (fun _ _ _ h => h) (.inl ⟨by rfl, by (intro wq hSw; (try dsimp only at hSw); go_simp; (try (first | rfl | omega)))⟩) hHeld ?_
  simp only [Act.put, List.setIfInBounds_toArray, List.set_cons_zero, List.set_cons_succ]
  refine wpAnyH_tk (i := 1) (d := 6) (v := .int .i64 k) rfl rfl (by kernel_rfl) (by kernel_rfl) (by kernel_rfl) (fun _ _ _ h => h) (.inl ⟨by rfl, by (intro wq hSw; (try dsimp only at hSw); go_simp; (try (first | rfl | omega)))⟩) hHeld ?_
  simp only [Act.put, List.setIfInBounds_toArray, List.set_cons_zero, List.set_cons_succ]
  refine wpAnyH_tk (i := 2) (d := 7) (v := .slice (some ⟨b, o, none⟩) k c) rfl rfl (by kernel_rfl) (by kernel_rfl) (by kernel_rfl) (fun _ _ _ h => h) (.inl ⟨by rfl, by (intro wq hSw; (try dsimp only at hSw); go_simp; (try (first | rfl | omega)))⟩) hHeld ?_
  simp only [Act.put, List.setIfInBounds_toArray, List.set_cons_zero, List.set_cons_succ]
  refine wpAnyH_tk (i := 4) (d := 9) (v := .slice (some ⟨b, o, none⟩) n c) rfl rfl (by kernel_rfl) (by kernel_rfl) (by kernel_rfl) (fun _ _ _ h => h) (.inl ⟨by rfl, by (intro wq hSw; (try dsimp only at hSw); go_simp; (try (first | rfl | omega)))⟩) hHeld ?_
  simp only [Act.put, List.setIfInBounds_toArray, List.set_cons_zero, List.set_cons_succ]
  refine wpAnyH_tk (i := 5) (d := 10) (v := .int .i64 k) rfl rfl (by kernel_rfl) (by kernel_rfl) (by kernel_rfl) (fun _ _ _ h => h) (.inl ⟨by rfl, by (intro wq hSw; (try dsimp only at hSw); go_simp; (try (first | rfl | omega)))⟩) hHeld ?_
  simp only [Act.put, List.setIfInBounds_toArray, List.set_cons_zero, List.set_cons_succ]
  refine wpAnyH_tk (i := 6) (d := 11) (v := .int .i64 ((k : Int) + 1)) rfl rfl (by kernel_rfl) (by kernel_rfl) (by kernel_rfl) (fun _ _ _ h => h) (.inl ⟨by rfl, by (intro wq hSw; (try dsimp only at hSw); go_simp; (try (first | rfl | omega)))⟩) hHeld ?_
  simp only [Act.put, List.setIfInBounds_toArray, List.set_cons_zero, List.set_cons_succ]
  refine wpAnyH_tk (i := 7) (d := 12) (v := .slice (some ⟨b, o + (k + 1), none⟩) (n - (k + 1)) (c - (k + 1))) rfl rfl (by kernel_rfl) (by kernel_rfl) (by kernel_rfl) (fun _ _ _ h => h) (.inl ⟨by rfl, by (intro wq hSw; (try dsimp only at hSw); go_simp; (try (first | rfl | omega)))⟩) hHeld ?_
  simp only [Act.put, List.setIfInBounds_toArray, List.set_cons_zero, List.set_cons_succ]
  refine wpAnyH_ready (rs := [3]) (by kernel_rfl) (by simp) ?_
  refine ready_tk (i := 3) rfl (by rfl) (fun K hK => ?_) AllReadyH.nil
  go_simp
  refine HCP.out.mono ?_
  rintro e w6 ⟨uo, uc, rfl, ho6, hb6⟩
  refine hK.out _ _ trivial (fun hHeld => ?_)
  clear hK K
  have HO6 : Hid (w6.ownsRow w.heap.size 3 1 (.slice uo k uc) k (ints (r.take k))) := ho6
  have HB6 : Hid (Below w.heap.size w w6) := hb6
  have HC6 : Hid (∀ j u, (ints (r.drop (k + 1)))[j]? = some u → w6.cell? ((⟨b, o + (k + 1), none⟩ : Addr).add j) = some u) := HTL.out w6 hb6
  clear ho6 hb6
  refine wpAnyH_ready (rs := [8]) (by kernel_rfl) (by simp) ?_
  refine ready_tk (i := 8) rfl (by rfl) (fun K hK => ?_) AllReadyH.nil
  refine op_append_ownA (.tmp 8) (.tmp 12) 38 (by rfl) w.heap.size 3 i3 (.int .i64 0) 1 8 Tryz.underlying38 hi3 hz30 hz31 hz32 rfl (by decide) _ _ _ (by rfl) HO6.out ⟨b, o + (k + 1), none⟩ (n - (k + 1)) (c - (k + 1)) (ints (r.drop (k + 1))) (by rfl) HLD.out HC6.out (ints_oneCell' _) (by unfold maxLen; omega) (by omega) HB6.out.size ?_
  intro v' w7 ho7 hg7 _
  rw [HN1.out, HEND.out] at ho7
  refine hK.out _ _ trivial (fun hHeld => ?_)
  clear hK K
  simp only [Act.put, List.setIfInBounds_toArray, List.set_cons_zero, List.set_cons_succ]
  obtain ⟨vo, vc, hvv⟩ := owns_form ho7
  subst hvv
  have HO7 : Hid (w7.ownsRow w.heap.size 3 1 (.slice vo (n - 1) vc) (n - 1) (ints (dropK r k))) := ho7
  have HB7 : Hid (Below w.heap.size w w7) := HB6.out.grown hg7 HB6.out.size (fun x hx => (HO6.out.lt x hx).1)
  clear ho7 hg7
  refine wpAnyH_tk (i := 9) (d := 4) (v := .slice vo (n - 1) vc) rfl rfl (by kernel_rfl) (by kernel_rfl) (by kernel_rfl) (fun _ _ _ h => h) (.inl ⟨by rfl, by (intro wq hSw; (try dsimp only at hSw); go_simp; (try (first | rfl | omega)))⟩) hHeld ?_
  simp only [Act.put, List.setIfInBounds_toArray, List.set_cons_zero, List.set_cons_succ]
  refine wpAnyH_done (by kernel_rfl) ?_ _
  clear hHeld
  go_wp2
  go_ret
  exact ⟨_, rfl, HO7.out, HB7.out⟩
end Go.Proofs.YtknomkajibfmlaaGreat

/- Lists compared, and whether they are one. -/
namespace Go.Proofs.YtknomkajibfmlaaGreat
open Go.RowKit

def cmpI (x y : Int) : Int := if x < y then -1 else if y < x then 1 else 0

/-- In order, as lists. -/
def cmpL : List Int → List Int → Int
  | [], [] => 0
  | [], _ :: _ => -1
  | _ :: _, [] => 1
  | x :: xs, y :: ys => if x < y then -1 else if y < x then 1 else cmpL xs ys

set_option maxRecDepth 100000 in
theorem nan_any (x : Int) (w : World) : Calls Tryz.prog 95 #[.int .i64 x] w fun e w' => e = .returned (.bool false) ∧ w' = w := by
  have hx : (x != x) = false := by simp
  go_enter Tryz.func95, Tryz.ntmps95
  go_wp2
  go_ret
  exact ⟨ret_bool (by simp), rfl⟩

set_option maxRecDepth 100000 in
theorem cmpI_any (x y : Int) (w : World) : Calls Tryz.prog 81 #[.int .i64 x, .int .i64 y] w fun e w' => e = .returned (.int .i64 (cmpI x y)) ∧ w' = w := by
  by_cases h1 : x < y
  · have HE : Hid (cmpI x y = -1) := if_pos h1
    go_enter Tryz.func81, Tryz.ntmps81
    go_wp2_with fail
    refine (nan_any x w).mono ?_
    rintro e w1 ⟨rfl, rfl⟩
    go_wp2_with fail
    refine (nan_any y w1).mono ?_
    rintro e w2 ⟨rfl, rfl⟩
    go_wp2
    go_ret
    exact ⟨by rw [HE.out]; rfl, rfl⟩
  · by_cases h2 : y < x
    · have HE : Hid (cmpI x y = 1) := by
        show _ = _
        unfold cmpI; rw [if_neg h1, if_pos h2]
      go_enter Tryz.func81, Tryz.ntmps81
      go_wp2_with fail
      refine (nan_any x w).mono ?_
      rintro e w1 ⟨rfl, rfl⟩
      go_wp2_with fail
      refine (nan_any y w1).mono ?_
      rintro e w2 ⟨rfl, rfl⟩
      go_wp2
      go_ret
      exact ⟨by rw [HE.out]; rfl, rfl⟩
    · have HE : Hid (cmpI x y = 0) := by
        show _ = _
        unfold cmpI; rw [if_neg h1, if_neg h2]
      go_enter Tryz.func81, Tryz.ntmps81
      go_wp2_with fail
      refine (nan_any x w).mono ?_
      rintro e w1 ⟨rfl, rfl⟩
      go_wp2_with fail
      refine (nan_any y w1).mono ?_
      rintro e w2 ⟨rfl, rfl⟩
      go_wp2
      go_ret
      exact ⟨by rw [HE.out]; rfl, rfl⟩

theorem cmpL_at {x y : List Int} {k : Nat} (h1 : k < x.length) (h2 : k < y.length) : cmpL (x.drop k) (y.drop k) = if cmpI (x.getD k 0) (y.getD k 0) = 0 then cmpL (x.drop (k + 1)) (y.drop (k + 1)) else cmpI (x.getD k 0) (y.getD k 0) := by
  rw [List.drop_eq_getElem_cons h1, List.drop_eq_getElem_cons h2]
  simp only [cmpL, cmpI, List.getD_eq_getElem?_getD, List.getElem?_eq_getElem h1, List.getElem?_eq_getElem h2, Option.getD_some]
  by_cases a : x[k] < y[k]
  · simp [a]
  · by_cases b : y[k] < x[k]
    · simp [a, b]
    · simp [a, b]

set_option maxRecDepth 100000 in
set_option maxHeartbeats 400000 in
theorem compare_any (B : Nat) (x y : List Int) (u v : Value) (w : World) (hu : Sl B 3 w u (ints x)) (hv : Sl B 3 w v (ints y)) :
    Calls Tryz.prog 64 #[u, v] w fun e w' => e = .returned (.int .i64 (cmpL x y)) ∧ w' = w := by
  obtain ⟨ao, cap, hvv, hlc, hcm⟩ := sl_open hu
  obtain ⟨bo, cbp, huu, hlb, hcb⟩ := sl_open hv
  subst hvv huu
  have HU : Hid (Sl B 3 w (.slice ao x.length cap) (ints x)) := hu
  have HV : Hid (Sl B 3 w (.slice bo y.length cbp) (ints y)) := hv
  clear hu hv
  go_enter Tryz.func64, Tryz.ntmps64
  go_wp2
  go_loopw [11] (fun i wr => ∃ k : Nat, k ≤ x.length ∧ k ≤ y.length ∧ i = .int .i64 k ∧ cmpL x y = cmpL (x.drop k) (y.drop k) ∧ wr = w) (fun i _ => x.length - (intOf i).toNat)
  case atStart => exact ⟨0, Nat.zero_le _, Nat.zero_le _, rfl, rfl, rfl⟩
  case round =>
    obtain ⟨k, hk, hk2, rfl, hcm2, rfl⟩ := hrel
    have HC : Hid (cmpL x y = cmpL (x.drop k) (y.drop k)) := hcm2
    clear hcm2
    by_cases hlt : k < x.length
    · obtain ⟨b, o, cp, hs, hc1, hcc⟩ := sl_cell HU.out hlt
      simp only [Value.slice.injEq] at hs
      obtain ⟨rfl, _, rfl⟩ := hs
      by_cases hlt2 : k < y.length
      · obtain ⟨b2, o2, cp2, hs2, hc2, hcc2⟩ := sl_cell HV.out hlt2
        simp only [Value.slice.injEq] at hs2
        obtain ⟨rfl, _, rfl⟩ := hs2
        have HA : Hid (cmpL (x.drop k) (y.drop k) = if cmpI (x.getD k 0) (y.getD k 0) = 0 then cmpL (x.drop (k + 1)) (y.drop (k + 1)) else cmpI (x.getD k 0) (y.getD k 0)) := cmpL_at hlt hlt2
        generalize x.getD k 0 = a at *
        generalize y.getD k 0 = c at *
        go_wp2_with fail
        refine (cmpI_any a c wr).mono ?_
        rintro e w1 ⟨rfl, rfl⟩
        generalize cmpI a c = r at *
        by_cases hr : r = 0
        · have HR : Hid (cmpL x y = cmpL (x.drop (k + 1)) (y.drop (k + 1))) := by
            show _ = _
            rw [HC.out, HA.out, if_pos hr]
          have hrb : (r != 0) = false := by simp [hr]
          clear hr
          go_wp2
          go_roundw
          case rel => exact ⟨k + 1, by omega, by omega, by go_num, HR.out, trivial⟩
          case measure => simp [intOf]; omega
        · have HR : Hid (cmpL x y = r) := by
            show _ = _
            rw [HC.out, HA.out, if_neg hr]
          have hrb : (r != 0) = true := by simp [hr]
          clear hr
          go_wp2
          go_ret
          exact ⟨by rw [HR.out]; rfl, rfl⟩
      · have hke : k = y.length := by omega
        have HR : Hid (cmpL x y = 1) := by
          show _ = _
          rw [HC.out, hke, List.drop_length, List.drop_eq_getElem_cons (by omega)]; rfl
        clear hke
        go_wp2
        go_ret
        exact ⟨by rw [HR.out]; rfl, rfl⟩
    · have hke : k = x.length := by omega
      by_cases hxy : x.length < y.length
      · have HR : Hid (cmpL x y = -1) := by
          show _ = _
          rw [HC.out, hke, List.drop_length, List.drop_eq_getElem_cons hxy]; rfl
        go_wp2
        go_ret
        exact ⟨by rw [HR.out]; rfl, rfl⟩
      · have HR : Hid (cmpL x y = 0) := by
          show _ = _
          have h2 : y.drop k = [] := List.drop_eq_nil_of_le (by omega)
          rw [HC.out, h2, hke, List.drop_length]; rfl
        go_wp2
        go_ret
        exact ⟨by rw [HR.out]; rfl, rfl⟩

set_option maxRecDepth 100000 in
set_option maxHeartbeats 400000 in
theorem equal_any (B : Nat) (x y : List Int) (u v : Value) (w : World) (hu : Sl B 3 w u (ints x)) (hv : Sl B 3 w v (ints y)) :
    Calls Tryz.prog 66 #[u, v] w fun e w' => e = .returned (.bool (x == y)) ∧ ∃ n, w' = w.drewN n := by
  have hu' := hu
  have hv' := hv
  obtain ⟨ao, cap, hvv, hlc, hcm, -⟩ := hu'
  obtain ⟨bo, cbp, huu, hlb, hcb, -⟩ := hv'
  simp only [ints_length] at hlc hvv hlb huu
  subst hvv huu
  have HU : Hid (Sl B 3 w (.slice ao x.length cap) (ints x)) := hu
  have HV : Hid (Sl B 3 w (.slice bo y.length cbp) (ints y)) := hv
  clear hu hv
  unfold maxLen at hcm hcb
  by_cases hl : x.length = y.length
  · have hbe : ((x.length : Int) != (y.length : Int)) = false := by simp [hl]
    have HL : Hid (x.length = y.length) := hl
    have hle : y.length ≤ x.length := by omega
    have hge : x.length ≤ y.length := by omega
    clear hl
    go_enter Tryz.func66, Tryz.ntmps66
    go_wp2
    go_loopw [13] (fun i wr => ∃ k : Nat, k ≤ x.length ∧ i = .int .i64 k ∧ (∀ j, j < k → x.getD j 0 = y.getD j 0) ∧ ∃ n, wr = w.drewN n) (fun i _ => x.length - (intOf i).toNat)
    case atStart => exact ⟨0, Nat.zero_le _, rfl, fun j hj => absurd hj (by omega), 0, rfl⟩
    case round =>
      obtain ⟨k, hk, rfl, hno, n, rfl⟩ := hrel
      have HN : Hid (∀ j, j < k → x.getD j 0 = y.getD j 0) := hno
      clear hno
      by_cases hlt : k < x.length
      · have hlt2 : k < y.length := by omega
        obtain ⟨b, o, cp, hs, hc1, hcc⟩ := sl_cell HU.out hlt
        simp only [Value.slice.injEq] at hs
        obtain ⟨rfl, _, rfl⟩ := hs
        obtain ⟨b2, o2, cp2, hs2, hc2, hcc2⟩ := sl_cell HV.out hlt2
        simp only [Value.slice.injEq] at hs2
        obtain ⟨rfl, _, rfl⟩ := hs2
        go_wp2
        go_quiet (fail)
        go_wp2
        · have hf : (x[k] != y[k]) = true := by assumption
          go_ret
          refine ⟨ret_bool (Eq.symm ?_), n + nq, by rw [World.drewN_drewN]⟩
          rw [beq_eq_false_iff_ne]
          rintro rfl
          simp at hf
        · have hf : (x[k] != y[k]) = false := by assumption
          go_roundw
          case rel =>
            refine ⟨k + 1, by omega, by go_num, fun j hj => ?_, _, rfl⟩
            by_cases hjk : j < k
            · exact HN.out j hjk
            · have : j = k := by omega
              subst this
              simpa [hlt, hlt2] using hf
          case measure => simp [intOf]; omega
      · go_wp2
        go_ret
        refine ⟨ret_bool (Eq.symm ?_), _, rfl⟩
        rw [beq_iff_eq]
        exact eq_of_all HL.out fun i hi => HN.out i (by omega)
  · have hbe : ((x.length : Int) != (y.length : Int)) = true := by simp; omega
    go_enter Tryz.func66, Tryz.ntmps66
    go_wp2
    go_ret
    refine ⟨ret_bool (Eq.symm ?_), 0, rfl⟩
    rw [beq_eq_false_iff_ne]
    rintro rfl
    exact hl rfl

end Go.Proofs.YtknomkajibfmlaaGreat

/- The library's sort, as this program calls it. -/
namespace Go.Proofs
open Go.Shelf Go.RowKit Go.Lib Go.Sort
shelf_lay_g SlLaysF.n6 Slsf 6 at Tryz 63 as Tryz.sortM
end Go.Proofs

/- Rows of the call's own, from a lesser block on. -/
namespace Go.Proofs.YtknomkajibfmlaaGreat
open Go.RowKit

theorem Fr.mono {B B' : Nat} {w : World} {v : Value} {m : List (List Int)} (h : Fr B 38 3 w v m) (hB : B' ≤ B) : Fr B' 38 3 w v m := by
  obtain ⟨vs, h1, h2, h3⟩ := h
  exact ⟨vs, h1, h2.mono hB, h3⟩

end Go.Proofs.YtknomkajibfmlaaGreat

/- Lists that follow each other and are one: each once. -/
namespace Go.Proofs.YtknomkajibfmlaaGreat
open Go.RowKit
attribute [local go_sem ↓] Go.wp_at_zero Go.wp_at_succ

/-- The places below k that are kept: the first, and each that is not what lies ahead of it. -/
def keptI (m : List (List Int)) : Nat → List Nat
  | 0 => []
  | k + 1 => if k = 0 ∨ m.getD k [] ≠ m.getD (k - 1) [] then keptI m k ++ [k] else keptI m k

def compL (m : List (List Int)) : List (List Int) := (keptI m m.length).map fun i => m.getD i []

theorem keptI_lt {m : List (List Int)} : ∀ {k i : Nat}, i ∈ keptI m k → i < k
  | 0, i, h => by simp [keptI] at h
  | k + 1, i, h => by
    simp only [keptI] at h
    split at h
    · rcases List.mem_append.1 h with h | h
      · have := keptI_lt h; omega
      · simp at h; omega
    · have := keptI_lt h; omega

theorem keptI_len (m : List (List Int)) : ∀ k, (keptI m k).length ≤ k
  | 0 => by simp [keptI]
  | k + 1 => by
    have := keptI_len m k
    simp only [keptI]
    split
    · simp; omega
    · omega

theorem keptI_all {m : List (List Int)} : ∀ k, (∀ i, 1 ≤ i → i < k → m.getD i [] ≠ m.getD (i - 1) []) → keptI m k = List.range k
  | 0, _ => by simp [keptI]
  | k + 1, h => by
    simp only [keptI]
    rw [keptI_all k (fun i h1 h2 => h i h1 (by omega)), List.range_succ, if_pos]
    rcases Nat.eq_zero_or_pos k with h0 | h0
    · exact Or.inl h0
    · exact Or.inr (h k h0 (by omega))

theorem compL_short {m : List (List Int)} (h : m.length < 2) : compL m = m := by
  match m, h with
  | [], _ => rfl
  | [x], _ => rfl
  | _ :: _ :: _, h => simp at h; omega

theorem mem_compL {m : List (List Int)} {r : List Int} : r ∈ compL m ↔ r ∈ m := by
  constructor
  · intro h
    simp only [compL, List.mem_map] at h
    obtain ⟨i, hi, rfl⟩ := h
    have := keptI_lt hi
    simp [this]
  · intro h
    obtain ⟨i, hi, rfl⟩ := List.mem_iff_getElem.1 h
    -- the first place of a run is kept
    have key : ∀ i, i < m.length → ∃ j ∈ keptI m (i + 1), m.getD j [] = m.getD i [] := by
      intro i
      induction i with
      | zero => intro _; exact ⟨0, by simp [keptI], rfl⟩
      | succ i ih =>
        intro hi
        by_cases hne : m.getD (i + 1) [] ≠ m.getD i []
        · exact ⟨i + 1, by rw [keptI, if_pos (Or.inr (by simpa using hne))]; simp, rfl⟩
        · have he : m.getD (i + 1) [] = m.getD i [] := Classical.not_not.1 hne
          obtain ⟨j, hj, hje⟩ := ih (by omega)
          refine ⟨j, ?_, by rw [hje, he]⟩
          rw [keptI]
          split
          · exact List.mem_append_left _ hj
          · exact hj
    have grow : ∀ a b, a ≤ b → ∀ j, j ∈ keptI m a → j ∈ keptI m b := by
      intro a b hab
      induction b with
      | zero => intro j hj; have : a = 0 := by omega
                subst this; exact hj
      | succ b ih =>
        intro j hj
        by_cases e : a = b + 1
        · subst e; exact hj
        · have := ih (by omega) j hj
          rw [keptI]
          split
          · exact List.mem_append_left _ this
          · exact this
    obtain ⟨j, hj, hje⟩ := key i hi
    simp only [compL, List.mem_map]
    refine ⟨j, grow (i + 1) m.length (by omega) j hj, ?_⟩
    rw [hje]; simp [hi]

/-- A call of two words through a function value. -/
theorem step_call2v {P : Program} {ops : Array Oper} {o : Oper} {a : Act} {w : World} {K : Act → World → Prop} {Q : Exit → Act → World → Prop} {E : Prop}
    (hg : o.guard = none) (f : FuncId) (z x y : Operand) (t s : TypeId) (hop : o.op = Op.call { callee := Callee.value z, args := #[x, y], argTypes := #[t, s] }) (v u : Value) (hz : a.eval z = Value.func (Fn.func f) #[] #[]) (hv : a.eval x = v) (hu : a.eval y = u) (hf : ∃ fn, P.funcs[f]? = some fn ∧ (fn.name == "runtime.NumGoroutine") = false ∧ fn.body.isNone = false)
    (hc : Calls P f #[v, u] w fun e w' => ∃ u, e = .returned u ∧ K (a.put o.dst u) w') :
    if Region.wanted o (yielded ops a.tmps) = true then Oper.wp P o a w K Q else E := by
  have hw : Region.wanted o (yielded ops a.tmps) = true := by simp [Region.wanted, hg]
  rw [if_pos hw]
  unfold Oper.wp
  obtain ⟨fn, f1, f2, f3⟩ := hf
  have e : (execOp a.eval o).run P w = .ok (.enter f #[v, u]) w := by
    have hcf : (callFunc f #[v, u]).run P w = .ok (.enter f #[v, u]) w := by
      unfold callFunc
      have g2 : ¬ fn.name = "runtime.NumGoroutine" := by simpa using f2
      have g3 : ¬ fn.body = none := by intro e; rw [e] at f3; simp at f3
      simp [f1, g2, g3]
    unfold execOp
    rw [hop]
    simp [resolve, invoke, hv, hu, hz, Deferred.ofValue, hcf]
  rw [e, Oper.upon_enter]
  refine hc.mono ?_
  rintro e w' ⟨u, rfl, h⟩
  exact h

/-- A row of rows in a block of its own, all its cells told. -/
structure RowM (w : World) (g cap : Nat) (f : Nat → Value) (m : List (List Int)) : Prop where
  row : w.rowIs g 38 cap f
  cap1 : m.length ≤ cap
  cap2 : cap ≤ 9223372036854775807
  inn : ∀ i, i < m.length → Sl 0 3 w (f i) (ints (m.getD i []))

theorem Fr.rowM {B : Nat} {w : World} {v : Value} {m : List (List Int)} (h : Fr B 38 3 w v m) (hm : 0 < m.length) : ∃ g cap f, v = .slice (some ⟨g, 0, none⟩) m.length cap ∧ B ≤ g ∧ g < w.heap.size ∧ RowM w g cap f m := by
  obtain ⟨vs, h1, h2, h3⟩ := h
  rcases h2.2 with ⟨_, h0⟩ | ⟨g, cap, cur, hv, hb, hh, hn, hc, hs, ht⟩
  · omega
  · refine ⟨g, cap, fun i => cur.toList.getD i (.slice none 0 0), hv, hb, lt_of_block hh, ⟨cur, hh, by omega, fun i hi => ?_⟩, hn, by unfold maxLen at hc; exact hc, fun i hi => ?_⟩
    · show cur[i]? = some (cur.toList.getD i (.slice none 0 0))
      rw [← Array.getElem?_toList, List.getD_eq_getElem?_getD, List.getElem?_eq_getElem (by simp; omega)]; rfl
    · have e : cur.toList.getD i (.slice none 0 0) = vs.getD i (.slice none 0 0) := by
        rw [← ht]
        simp only [List.getD_eq_getElem?_getD]
        rw [List.getElem?_take_of_lt (by omega)]
      rw [e]; exact h3 i hi

theorem RowM.fr {B : Nat} {w : World} {g cap : Nat} {f : Nat → Value} {m : List (List Int)} (h : RowM w g cap f m) (hB : B ≤ g) : Fr B 38 3 w (.slice (some ⟨g, 0, none⟩) m.length cap) m := by
  obtain ⟨⟨c, h1, h2, h3⟩, h4, h5, h6⟩ := h
  refine ⟨(List.range m.length).map f, by simp, ⟨by simp, Or.inr ⟨g, cap, c, rfl, hB, h1, h4, by unfold maxLen; exact h5, by omega, ?_⟩⟩, fun i hi => ?_⟩
  · apply List.ext_getElem?
    intro i
    by_cases hi : i < m.length
    · rw [List.getElem?_take_of_lt (by omega), Array.getElem?_toList, h3 i (by omega)]; simp [hi]
    · rw [List.getElem?_eq_none (by simp; omega), List.getElem?_eq_none (by simp; omega)]
  · have e : ((List.range m.length).map f).getD i (.slice none 0 0) = f i := by simp [hi]
    rw [e]; exact h6 i hi

theorem Tryz.zero38 : ∀ w, (zeroValue 38).run Tryz.prog w = .ok (.slice none 0 0) w := fun w => by kernel_rfl

end Go.Proofs.YtknomkajibfmlaaGreat
