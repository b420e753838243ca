import Derived.Test.YtknomkajibfmlaaGreatHf1
import Derived.Test.YtknomkajibfmlaaGreatMgAM
import Derived.Test.YtknomkajibfmlaaGreatMgAN
import Derived.Test.YtknomkajibfmlaaGreatMgAL
import Derived.Test.YtknomkajibfmlaaGreatMgAO
import Derived.Laws.AppendOwnNone
/- half.meeting: where so many rows meet. -/
namespace Go.Proofs.YtknomkajibfmlaaGreat
open Go.RowKit
attribute [local go_sem ↓] Go.wp_at_zero Go.wp_at_succ

/-- The place, w behind, w above 0. -/
def mtP (d : Nat) (t : List (List Int)) : List Int := if 0 < (normL (d + 1) t).getD d 0 then (normL (d + 1) t).map fun z => -z else normL (d + 1) t
def mtL (d : Nat) (t : List (List Int)) : List Int := ngR d (mtP d t)
def mtB (d : Nat) (t : List (List Int)) : Bool := normB (d + 1) t && !((normL (d + 1) t).getD d 0 == 0)

theorem mtP_len {d : Nat} {t : List (List Int)} (h : normB (d + 1) t = true) : (mtP d t).length = d + 1 := by
  unfold mtP
  split <;> simp [norm_len h]

theorem own_lower {B B' n : Nat} {e : TypeId} {w : World} {v : Value} {xs : List Value} (h : w.ownsRow B e 1 v n xs) (hB : B' ≤ B) : w.ownsRow B' e 1 v n xs := by
  obtain ⟨h1, h2⟩ := h
  refine ⟨h1, ?_⟩
  rcases h2 with h2 | ⟨g, cap, cur, hu, hg, hr⟩
  · exact .inl h2
  · exact .inr ⟨g, cap, cur, hu, Nat.le_trans hB hg, hr⟩

set_option maxRecDepth 100000 in
set_option maxHeartbeats 1600000 in
theorem meetingH_any (B d : Nat) (t : List (List Int)) (v : Value) (w : World) (hx : Mx (d + 1) 60 t) (hv : Mat B 38 3 w v t) (hm : t.length ≤ 500) (hm0 : 1 ≤ t.length) :
    Calls Tryz.prog 49 #[v, .int .i64 d] w fun e w' => ∃ xo xl xc, e = .returned (.tuple #[.slice xo xl xc, .bool (mtB d t)]) ∧ (mtB d t = true → xl = d + 1 ∧ Sl 0 3 w' (.slice xo xl xc) (ints (mtL d t)) ∧ ∃ a, xo = some a ∧ w.heap.size ≤ a.block) ∧ Below w.heap.size w w' := by
  have h := normalP_own B (d + 1) t v w hx hv hm hm0
  rw [show ((d + 1 : Nat) : Int) = (d : Int) + 1 by omega] at h
  have HNO : Hid (Calls Tryz.prog 67 #[v, .int .i64 ((d : Int) + 1)] w fun e w' => ∃ x, e = .returned (.tuple #[x, .bool (normB (d + 1) t)]) ∧ w'.ownsRow w.heap.size 3 1 x (normL (d + 1) t).length (ints (normL (d + 1) t)) ∧ Below w.heap.size w w') := h
  have HBD : Hid (∀ z ∈ normL (d + 1) t, z.natAbs ≤ 1000000000000) := norm_bd hx
  have hc5 := hx.c5
  have HLEN : Hid (normB (d + 1) t = true → (normL (d + 1) t).length = d + 1) := norm_len
  have HML : Hid (mtL d t = ngR d (if 0 < (normL (d + 1) t).getD d 0 then (normL (d + 1) t).map (fun z => -z) else normL (d + 1) t)) := rfl
  have HMB : Hid (mtB d t = (normB (d + 1) t && !((normL (d + 1) t).getD d 0 == 0))) := rfl
  obtain ⟨vo, vc, hvv, _, _⟩ := mat_open hv
  subst hvv
  clear h hx hv hm hm0
  generalize mtL d t = L at *
  generalize mtB d t = b at *
  generalize normB (d + 1) t = nb at *
  generalize normL (d + 1) t = n at *
  go_enter Tryz.func49, Tryz.ntmps49
  go_wp2_with fail
  refine HNO.out.mono ?_
  rintro e w1 ⟨x, rfl, ho, hb1⟩
  have HB1 : Hid (Below w.heap.size w w1) := hb1
  clear HNO hb1
  cases nb
  case false =>
    have HBF : Hid (b = false) := by show _ = _; rw [HMB.out]; rfl
    obtain ⟨xo, xc, rfl⟩ := owns_form ho
    clear ho
    go_wp2
    exact bodyPost_ret (v := .tuple #[.slice none 0 0, .bool false]) (by simp [results, Tryz.results49, go_sem]) rfl ⟨none, 0, 0, by rw [HBF.out], fun h => (by rw [HBF.out] at h; cases h), HB1.out⟩
  case true =>
    have hl := HLEN.out rfl
    rw [hl] at ho
    have HO1 : Hid (w1.ownsRow w.heap.size 3 1 x (d + 1) (ints n)) := ho
    obtain ⟨nb, no, nc, hnv, hnc, hxd⟩ := sl_cell (Sl.own (B := 0) ho) (k := d) (by rw [hl]; omega)
    rw [hl] at hnv
    subst hnv
    have hzb := HBD.out (n.getD d 0) (getD_mem (by rw [hl]; omega))
    have HNL : Hid (n.length = d + 1) := hl
    have hdI : (d : Int) < (d : Int) + 1 := by omega
    have hdI0 : (0 : Int) ≤ (d : Int) := by omega
    clear ho hl
    by_cases h0 : n.getD d 0 = 0
    · have HBF : Hid (b = false) := by show _ = _; rw [HMB.out, h0]; rfl
      rw [h0] at hxd
      clear h0 hzb
      go_wp2
      exact bodyPost_ret (v := .tuple #[.slice none 0 0, .bool false]) (by simp [results, Tryz.results49, go_sem]) rfl ⟨none, 0, 0, by rw [HBF.out], fun h => (by rw [HBF.out] at h; cases h), HB1.out⟩
    · have HBT : Hid (b = true) := by show _ = _; rw [HMB.out]; simp; simpa using h0
      have h0b : (n.getD d 0 == 0) = false := by simpa using h0
      by_cases hp : 0 < n.getD d 0
      case' pos =>
        have HLL : Hid (L = ngR d (n.map fun z => -z)) := by show _ = _; rw [HML.out, if_pos hp]
        have hpb : decide (0 < n.getD d 0) = true := decide_eq_true hp
        have HNG : Hid (Calls Tryz.prog 47 #[.slice (some ⟨nb, no, none⟩) (d + 1) nc] w1 fun e w' => ∃ u, e = .returned u ∧ w'.ownsRow w1.heap.size 3 1 u (d + 1) (ints (n.map fun z => -z)) ∧ Below w1.heap.size w1 w') := by
          have h := negated_own 0 n (.slice (some ⟨nb, no, none⟩) (d + 1) nc) w1 (Sl.own HO1.out) (by rw [HNL.out]; omega) (fun z hz => by have := HBD.out z hz; omega)
          rw [HNL.out] at h
          exact h
        generalize n.getD d 0 = nd at *
        go_wp2_with fail
        refine HNG.out.mono ?_
        rintro e W6 ⟨u, rfl, ho6, hb6⟩
        obtain ⟨p, hpe⟩ : ∃ p, p = n.map fun z => -z := ⟨_, rfl⟩
        rw [← hpe] at HLL ho6
        have HPL : Hid (p.length = d + 1) := by show _ = _; rw [hpe, List.length_map, HNL.out]
        have HPB : Hid (∀ z ∈ p, z.natAbs ≤ 1000000000000) := fun z hz => by
          rw [hpe] at hz
          obtain ⟨y, hy, rfl⟩ := List.mem_map.1 hz
          have := HBD.out y hy; omega
        have HO6 : Hid (W6.ownsRow w.heap.size 3 1 u (d + 1) (ints p)) := own_lower ho6 HB1.out.size
        have HB6 : Hid (Below w.heap.size w W6) := HB1.out.trans (hb6.mono HB1.out.size)
        clear ho6 hb6 hxd HNG HO1 hpe
      case' neg =>
        have HLL : Hid (L = ngR d n) := by show _ = _; rw [HML.out, if_neg hp]
        have hpb : decide (0 < n.getD d 0) = false := decide_eq_false hp
        obtain ⟨p, hpe⟩ : ∃ p, p = n := ⟨_, rfl⟩
        obtain ⟨u, hu⟩ : ∃ u, u = Value.slice (some (⟨nb, no, none⟩ : Addr)) (d + 1) nc := ⟨_, rfl⟩
        have HPL : Hid (p.length = d + 1) := by show _ = _; rw [hpe]; exact HNL.out
        have HPB : Hid (∀ z ∈ p, z.natAbs ≤ 1000000000000) := by rw [hpe]; exact HBD.out
        have HO6 : Hid (w1.ownsRow w.heap.size 3 1 u (d + 1) (ints p)) := by rw [hu, hpe]; exact HO1.out
        have HB6 : Hid (Below w.heap.size w w1) := HB1.out
        rw [← hpe] at HLL
        generalize n.getD d 0 = nd at *
        go_upto_region 6 with fail
        rw [← hu]
        obtain ⟨W6, rfl⟩ : ∃ W6, W6 = w1 := ⟨_, rfl⟩
        clear hxd HO1 hpe hu
      all_goals
        obtain ⟨gb, gc, F, hu, hg, hrow, hF, hgn, hgm⟩ := own_rw HO6.out (by omega)
        subst hu
        have ca := hrow.cell (i := d) (by omega)
        have cf := hrow.frozen d
        rw [hF d (by omega)] at ca
        have hzb2 := HPB.out (p.getD d 0) (getD_mem (by rw [HPL.out]; omega))
        have HSL : Hid (Sl 0 3 (W6.setCell ⟨gb, d, none⟩ (.int .i64 (-(p.getD d 0)))) (.slice (some ⟨gb, 0, none⟩) (d + 1) gc) (ints L)) := by
          rw [HLL.out]
          refine row_slT (hrow.set d _) (fun i hi => ?_) (ngR_len HPL.out) hgn hgm
          show (if i = d then Value.int .i64 (-(p.getD d 0)) else F i) = _
          rw [ngR_get HPL.out hi]
          by_cases e : i = d
          · rw [if_pos e, if_pos e]
          · rw [if_neg e, if_neg e, hF i hi]
        have HBE : Hid (Below w.heap.size w (W6.setCell ⟨gb, d, none⟩ (.int .i64 (-(p.getD d 0))))) := HB6.out.setCell hg _
        have HGG : Hid (w.heap.size ≤ gb) := hg
        generalize p.getD d 0 = z at *
        have hnz : wrap64 (-z) = -z := IntWalk.wrap64_in _ ⟨by omega, by omega⟩
        clear hrow hF
        go_wp2
        exact bodyPost_ret (v := .tuple #[.slice (some ⟨gb, 0, none⟩) (d + 1) gc, .bool true]) (by simp [results, Tryz.results49, go_sem]) rfl ⟨_, _, _, by rw [HBT.out], fun _ => ⟨rfl, HSL.out, _, rfl, HGG.out⟩, HBE.out⟩

end Go.Proofs.YtknomkajibfmlaaGreat

/- What Greatest leans on. -/
namespace Go.Proofs.YtknomkajibfmlaaGreat
open Go.RowKit Lin

/-- A slice, nil or not, behind a row of the call's own. -/
theorem wpList_app_sl {P : Program} {w : World} {ops : Array Oper} {rest : List Oper} {o : Oper} {a : Act} {Q : Exit → Act → World → Prop} (hgd : o.guard = none) (s x : Operand) (t : TypeId)
    (ho : o.op = .call { callee := .builtin .append, args := #[s, x], argTypes := #[t, t] })
    (base : Nat) (e : TypeId) (i : TypeInfo) (z : Value) (bytes : Nat) (ht : P.underlying t = some (.slice e)) (hi : P.info? e = some i) (hz : i.zero = some z)
    (hsize : i.size = 1) (hby : i.bytes = bytes) (hzs : z.cells.size = 1)
    (v : Value) (n : Nat) (xs : List Value) (hs : a.eval s = v) (hown : w.ownsRow base e 1 v n xs)
    (ro : Option Addr) (m c : Nat) (news : List Value) (hx : a.eval x = .slice ro m c) {Bn : Nat} (hsl : Sl Bn e w (.slice ro m c) news) (h1 : ∀ u ∈ news, u.oneCell' = true)
    (h63 : n + m ≤ maxLen) (hbytes : (n + m) * bytes ≤ 140737488355328) (hbase : base ≤ w.heap.size)
    (h : ∀ v' w', w'.ownsRow base e 1 v' (n + m) (xs ++ news) → w.grownBy w' v.ownBlock → wpList P ops Q rest (a.put o.dst v') w') : wpList P ops Q (o :: rest) a w := by
  cases ro with
  | none =>
    obtain ⟨ao, cp, he, h2, _, h3, h4⟩ := hsl
    simp only [Value.slice.injEq] at he
    have hl0 : news.length = 0 := by
      apply Classical.byContradiction
      intro hne
      obtain ⟨b, o, ha, _⟩ := h3 0 (by omega)
      rw [← he.1] at ha; cases ha
    have hm0 : m = 0 := by omega
    have hc0 : c = 0 := by rw [he.2.2]; exact h4 he.1.symm
    have hn0 : news = [] := List.eq_nil_of_length_eq_zero hl0
    subst hm0 hc0 hn0
    refine wpList_append_own_none hgd s x t ho base e i 1 ht hi v n xs hs hown hx (h v w (by simpa using hown) (World.grownBy.refl _ _))
  | some ad =>
    have hl : news.length = m * 1 := by
      obtain ⟨ao, cp, he, _⟩ := hsl
      simp only [Value.slice.injEq] at he
      omega
    exact wpList_append_own w hgd s x t ho base e i z 1 bytes ht hi hz hsize hby hzs (by decide) v n xs hs hown ad m c news hx hl (slice_cells hsl) h1 h63 hbytes hbase fun v' w' h2 h3 _ => h v' w' h2 h3

end Go.Proofs.YtknomkajibfmlaaGreat
