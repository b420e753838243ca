import Derived.Test.YtdanomklbiidaaaGreatDoorMgAV
import Derived.Test.YtdanomklbiidaaaGreatDoorMgAI
namespace Go.Proofs.YtdanomklbiidaaaGreatDoor
open Go.RowKit
open Lin
attribute [local go_sem ↓] Go.wp_at_zero Go.wp_at_succ
theorem cell_newA (w:World) (cs:Array Value) (t:TypeId) (j:Nat) (u:Value) (h:cs[j]?=some u):(w.alloc (.cells cs t)).cell? ⟨w.heap.size,j,none⟩=some u:=by
 simpa using h
theorem two_of {K:List (List Int)} (h:K.length=2):∃u v,K=[u,v]:=by
 match K,h with
 | [u,v],_=>exact ⟨u,v,rfl⟩
theorem step_call3W {P:Program} {ops:Array Oper} {o:Oper} {a:Act} {w:World} {K:Act→World→Prop} {Q:Exit→Act→World→Prop} {E:Prop}
  (hg : o.guard = none) (f : FuncId) (x y z : Operand) (t s r : TypeId) (hop : o.op = Op.call { callee := Callee.value (Operand.func f), args := #[x, y, z], argTypes := #[t, s, r] }) (v u q : Value) (hv : a.eval x = v) (hu : a.eval y = u) (hq : a.eval z = q) (hf : ∃ fn, P.funcs[f]? = some fn ∧ (fn.name == "runtime.NumGoroutine") = false ∧ fn.body.isNone = false)
  (hc:Calls P f #[v,u,q] w fun e w'=>∃u,e=.returned u∧K (a.put o.dst u) w') :
  if Region.wanted o (yielded ops a.tmps)=true then Oper.wp P o a w K Q else E:=by
 have hw:Region.wanted o (yielded ops a.tmps)=true:=by simp [Region.wanted,hg]
 rw [if_pos hw]
 unfold Oper.wp
 obtain ⟨fn,f1,f2,f3⟩:=hf
 have e:(execOp a.eval o).run P w=.ok (.enter f #[v,u,q]) w:=by
  have hfn:a.eval (Operand.func f)=Value.func (Fn.func f) #[] #[]:=rfl
  have hcf:(callFunc f #[v,u,q]).run P w=.ok (.enter f #[v,u,q]) w:=by
   unfold callFunc
   have g2 : ¬ fn.name = "runtime.NumGoroutine" := by simpa using f2
   have g3:¬fn.body=none:=by intro e; rw [e] at f3; simp at f3
   simp [f1,g2,g3]
  unfold execOp
  rw [hop]
  simp [resolve,invoke,hv,hu,hq,hfn,Deferred.ofValue,hcf]
 rw [e,Oper.upon_enter]
 refine hc.mono ?_
 rintro e w' ⟨u,rfl,h⟩
 exact h
theorem push_row {N : Nat} {W0 wr w8 : World} {v u : Value} {m : List (List Int)} {vs : List Value} {zs : List Int} (g1 : vs.length = m.length) (g2 : wr.ownsRow N 22 1 v m.length vs)
    (g3 : ∀ i, i < m.length → wr.ownsRow N 3 1 (vs.getD i (.slice none 0 0)) (m.getD i []).length (ints (m.getD i []))) (hb : Below wr.heap.size wr w8) (hrow : w8.ownsRow wr.heap.size 3 1 u zs.length (ints zs)) (hN : N ≤ wr.heap.size) (hw : Below N W0 wr) :
    ∀ v' w9, w9.ownsRow N 22 1 v' (m.length + 1) (vs ++ [u]) → (w8.alloc (.cells #[u] 22)).grownBy w9 v.ownBlock → Rwo N w9 v' (m ++ [zs]) ∧ Below N W0 w9 := fun v' w9 ho hg =>
  ⟨Rwo.push g1 ((owns_below g2 hb (Nat.le_refl _)).alloc _) (fun i hi => (owns_below (g3 i hi) hb (Nat.le_refl _)).alloc _) ((hrow.mono hN).alloc _) ho hg,
   ((hw.trans (hb.mono hN)).alloc (Nat.le_trans hN hb.size) _).grown hg (by rw [size_alloc]; have := hb.size; omega) (fun x hx => (g2.lt x hx).1)⟩
def thrK (d:Nat) (K:List (List Int)) (x:List Int) (P:List (List Int)):List (List Int):=if K.length=2 then thrL d (K.getD 0 []) (K.getD 1 []) x P else []
set_option maxRecDepth 100000 in
set_option maxHeartbeats 3200000 in
theorem rowsThrough_any (d : Nat) (t P : List (List Int)) (KP : List (List Int) → Prop) (vt vp : Value) (w : World)
    (ht : Mat w.heap.size 22 3 w vt t) (hp : Mat w.heap.size 22 3 w vp P) (ht1 : 1 ≤ t.length) (hP1 : 1 ≤ P.length) (hP0 : (P.getD 0 []).length = d)
    (hdf : ∀ W, Below w.heap.size w W → Calls Tryz.prog 40 #[vt] W fun e w' => ∃ z, e = .returned z ∧ Mat w'.heap.size 22 3 w' z (diffL t) ∧ Below W.heap.size W w')
    (hke : ∀ W z, Below w.heap.size w W → Mat W.heap.size 22 3 W z (diffL t) → Calls Tryz.prog 104 #[z, .int .i64 d] W fun e w' => ∃ K y, e = .returned y ∧ KP K ∧ K.length ≤ 1000 ∧ Mat w'.heap.size 22 3 w' y K ∧ Below W.heap.size W w')
    (hok : ∀ K, KP K → K.length = 2 → SeeOk d (K.getD 0 []) (K.getD 1 []) (t.getD 0 []) P ∧ offL d (K.getD 0 []) (K.getD 1 []) (t.getD 0 []) P ≠ [] ∧ 1 ≤ d) :
    Calls Tryz.prog 87 #[vt, vp] w fun e w' => ∃ K z, KP K ∧ e = .returned z ∧ Rwo w.heap.size w' z (thrK d K (t.getD 0 []) P) ∧ Below w.heap.size w w' := by
  obtain ⟨i0, hi0, hz0, hz1, hz2⟩ := info_parts Tryz.info22
  obtain ⟨tb, tf, tc, t1, rfl, htl, htc, ht1'⟩ := mat_cell ht (k := 0) (by omega)
  obtain ⟨pb, pf, pc, p1, rfl, hpl, hpc, hp1'⟩ := mat_cell hp (k := 0) (by omega)
  obtain ⟨xo, xc, rfl, _, _⟩ := sl_open ht1'
  obtain ⟨yo, yc, rfl, _, _⟩ := sl_open hp1'
  rw [hP0] at hpc
  rw [Nat.add_zero] at htc hpc
  have HCC : Hid (∀ W', Below w.heap.size w W' → W'.cell? ⟨tb, tf, none⟩ = some (.slice xo (t.getD 0 []).length xc) ∧ W'.cell? ⟨pb, pf, none⟩ = some (.slice yo d yc)) := fun W' h => ⟨(h.cell (lt_of_cell htc)).trans htc, (h.cell (lt_of_cell hpc)).trans hpc⟩
  have HX : Hid (∀ W', Below w.heap.size w W' → Sl W'.heap.size 3 W' (.slice xo (t.getD 0 []).length xc) (ints (t.getD 0 []))) := fun W' h => (ht1'.below h (Nat.le_refl _)).any (Nat.le_refl _)
  have HP : Hid (∀ W', Below w.heap.size w W' → Mat W'.heap.size 22 3 W' (.slice (some ⟨pb, pf, none⟩) P.length pc) P) := fun W' h => (hp.below h (Nat.le_refl _)).any (Nat.le_refl _)
  have HOK : Hid (∀ K, KP K → K.length = 2 → SeeOk d (K.getD 0 []) (K.getD 1 []) (t.getD 0 []) P ∧ offL d (K.getD 0 []) (K.getD 1 []) (t.getD 0 []) P ≠ [] ∧ 1 ≤ d) := hok
  have HDF : Hid (∀ W, Below w.heap.size w W → Calls Tryz.prog 40 #[.slice (some ⟨tb, tf, none⟩) t.length tc] W fun e w' => ∃ zo zl zc, e = .returned (.slice zo zl zc) ∧ (Mat w'.heap.size 22 3 w' (.slice zo zl zc) (diffL t) ∧ Below w.heap.size w w')) := fun W hB => by
    refine (hdf W hB).mono ?_
    rintro e w' ⟨z, rfl, h1, h2⟩
    obtain ⟨zo, zc, rfl, _, _⟩ := mat_open h1
    exact ⟨_, _, _, rfl, h1, hB.trans (h2.mono hB.size)⟩
  have HKE : Hid (∀ W zo zl zc, Mat W.heap.size 22 3 W (.slice zo zl zc) (diffL t) → Below w.heap.size w W → Calls Tryz.prog 104 #[.slice zo zl zc, .int .i64 d] W fun e w' => ∃ K ko kc, e = .returned (.slice ko K.length kc) ∧ KP K ∧ K.length ≤ 1000 ∧ Mat w'.heap.size 22 3 w' (.slice ko K.length kc) K ∧ Below w.heap.size w w') := fun W zo zl zc hm hB => by
    refine (hke W _ hB hm).mono ?_
    rintro e w' ⟨K, y, rfl, h0, hk, h1, h2⟩
    obtain ⟨ko, kc, rfl, _, _⟩ := mat_open h1
    exact ⟨K, _, _, rfl, h0, hk, h1, hB.trans (h2.mono hB.size)⟩
  clear ht hp ht1' hp1' hdf hke hok
  have tI : (0 : Int) < (t.length : Int) := by omega
  have pI : (0 : Int) < (P.length : Int) := by omega
  have tN : 0 < t.length := by omega
  have pN : 0 < P.length := by omega
  go_enter Tryz.func87, Tryz.ntmps87
  go_upto_region 1 with fail
  go_cut [5] from 13 (fun x wx => ∃ K ko kc, x = .slice ko K.length kc ∧ KP K ∧ K.length ≤ 1000 ∧ Mat wx.heap.size 22 3 wx (.slice ko K.length kc) K ∧ Below w.heap.size w wx)
  case first =>
   go_region_law (first
    | (refine step_call (o := { dst := some 14, op := _, type := _, pos := _, after := _, guard := _ }) (by rfl) 40 _ 23 (by rfl) _ (by rfl) ⟨_, Tryz.func40, by rfl, by rfl⟩ ?_; refine (HDF.out _ (Below.refl _ _).drew).mono ?_; rintro e w2 ⟨zo, zl, zc, rfl, hx⟩; refine ⟨_, rfl, ?_⟩; have HX2 : Hid (Mat w2.heap.size 22 3 w2 (.slice zo zl zc) (diffL t) ∧ Below w.heap.size w w2) := hx; have f0 := (HCC.out w2 hx.2).2; clear hx)
    | (refine step_call2 (o := { dst := some 19, op := _, type := _, pos := _, after := _, guard := _ }) (by rfl) 104 _ _ 23 3 (by rfl) _ _ (by rfl) (by rfl) ⟨_, Tryz.func104, by rfl, by rfl⟩ ?_; refine (HKE.out w2 zo zl zc HX2.out.1 HX2.out.2).mono ?_; rintro e w3 ⟨K, ko, kc, rfl, hkp, hkl, hmk, hb3⟩; refine ⟨_, rfl, ?_⟩; have HKP : Hid (KP K) := hkp; have HMK : Hid (Mat w3.heap.size 22 3 w3 (.slice ko K.length kc) K) := hmk; have HB3 : Hid (Below w.heap.size w w3) := hb3; clear hkp hmk hb3))
   all_goals go_wp2
   all_goals go_meet
   all_goals exact ⟨K, _, _, rfl, HKP.out, hkl, HMK.out, HB3.out⟩
  case rest =>
    obtain ⟨K, ko, kc, rfl, hkp, hkl, hmk, hb3⟩ := hcut
    have HKP : Hid (KP K) := hkp
    have HMK : Hid (Mat wc.heap.size 22 3 wc (.slice ko K.length kc) K) := hmk
    have HB3 : Hid (Below w.heap.size w wc) := hb3
    clear hkp hmk hb3
    obtain ⟨ct, cp⟩ := HCC.out wc HB3.out
    by_cases hk2 : K.length = 2
    · obtain ⟨hse, hne, hd1⟩ := HOK.out K HKP.out hk2
      have HTH : Hid (thrK d K (t.getD 0 []) P = thrL d (K.getD 0 []) (K.getD 1 []) (t.getD 0 []) P) := by show _ = _; unfold thrK; rw [if_pos hk2]
      obtain ⟨u, v, hK⟩ := two_of hk2
      have eu : K.getD 0 [] = u := by rw [hK]; rfl
      have ev : K.getD 1 [] = v := by rw [hK]; rfl
      rw [eu, ev] at hse hne HTH
      have HMU : Hid (Mat wc.heap.size 22 3 wc (.slice ko K.length kc) [u, v]) := by
        have h := HMK.out
        rw [← hK]; exact h
      rw [hk2] at HMU ⊢
      clear eu ev hK HMK hk2 hkl
      obtain ⟨x, hxe⟩ : ∃ x, x = t.getD 0 [] := ⟨_, rfl⟩
      rw [← hxe] at hse hne HTH ct HCC HX
      have HXE : Hid (x = t.getD 0 []) := hxe
      clear hxe HOK htc hpc
      have HSE : Hid (SeeOk d u v x P) := hse
      have hxl := hse.xl
      rw [hxl] at ct HCC HX
      clear hxl
      obtain ⟨m, l, hoff⟩ : ∃ m l, offL d u v x P = m :: l := by
        cases h : offL d u v x P with
        | nil => exact absurd h hne
        | cons m l => exact ⟨m, l, rfl⟩
      have HOF : Hid (offL d u v x P = m :: l) := hoff
      have HOB : Hid (∀ s ∈ m :: l, s.1.natAbs ≤ 3000000 ∧ s.2.natAbs ≤ 3000000) := fun s hs => by
        rw [← hoff] at hs
        obtain ⟨y, hy, rfl, _⟩ := off_mem.1 hs
        have g1 := dotL_bd hse.ul hse.xl hse.d5 hse.ub hse.xb
        have g2 := dotL_bd hse.vl hse.xl hse.d5 hse.vb hse.xb
        have g3 := dotL_bd hse.ul (hse.pb y hy).1 hse.d5 hse.ub (hse.pb y hy).2
        have g4 := dotL_bd hse.vl (hse.pb y hy).1 hse.d5 hse.vb (hse.pb y hy).2
        unfold senP
        rw [dotL_eq hse.ul] at g1 g3
        rw [dotL_eq hse.vl] at g2 g4
        dsimp only
        omega
      have hll1 : l.length + 1 ≤ 1000 := by
        have h1 := off_len d u v x P
        rw [hoff] at h1
        have h2 := hse.pl
        simp at h1
        omega
      have hll : l.length ≤ 1000 := by omega
      have HSO : Hid (Calls Tryz.prog 105 #[.slice xo d xc, .slice ko 2 kc, .slice (some ⟨pb, pf, none⟩) P.length pc] wc fun e w' => ∃ zo zc, e = .returned (.slice zo (l.length + 1) zc) ∧ Sns w'.heap.size w' (.slice zo (l.length + 1) zc) (m :: l) ∧ Below wc.heap.size wc w') := by
        refine (seenOff_any d u v x P _ _ _ wc (HX.out wc HB3.out) HMU.out (HP.out wc HB3.out) hse).mono ?_
        rintro e w' ⟨z, rfl, h1, h2⟩
        rw [hoff] at h1
        obtain ⟨zo, zc, rfl, h3⟩ := h1
        exact ⟨zo, zc, rfl, ⟨zo, zc, rfl, h3⟩, h2⟩
      clear hse hne hoff
      go_wp2_with fail
      refine HSO.out.mono ?_
      rintro e w4 ⟨zo, zc, rfl, hsn, hb4⟩
      have HSN : Hid (∀ W', Below w4.heap.size w4 W' → Sns W'.heap.size W' (.slice zo (l.length + 1) zc) (m :: l)) := fun W' h => (hsn.below h (Nat.le_refl _)).more h.size
      have HB4 : Hid (Below wc.heap.size wc w4) := hb4
      clear hsn hb4 HSO ct cp
      have HPB : Hid (∀ s ∈ m :: l, s.1.natAbs ≤ 100000000 ∧ s.2.natAbs ≤ 100000000) := fun s hs => by have := HOB.out s hs; omega
      go_wp2_with fail
      refine (maxS_any m l _ w4 (HSN.out w4 (Below.refl _ _)) HPB.out hll).mono ?_
      rintro e w5 ⟨rfl, hb5⟩
      have HB5 : Hid (Below w4.heap.size w4 w5) := hb5
      clear hb5
      go_wp2_with fail
      refine (minS2_any m l _ w5 (HSN.out w5 HB5.out) HPB.out hll).mono ?_
      rintro e w6 ⟨rfl, hb6⟩
      have HB6 : Hid (Below w4.heap.size w4 w6) := HB5.out.trans (hb6.mono HB5.out.size)
      clear hb6
      unfold arr2
      have hLb : mxF m l ∈ m :: l := by
        rcases mxF_mem l m with h | h
        · rw [h]; exact List.mem_cons_self
        · exact List.mem_cons_of_mem _ h
      have hRb : mnF m l ∈ m :: l := by
        rcases mnF_mem l m with h | h
        · rw [h]; exact List.mem_cons_self
        · exact List.mem_cons_of_mem _ h
      have b1 := HOB.out _ hLb
      have b2 := HOB.out _ hRb
      clear hLb hRb
      have HTL : Hid (thrL d u v x P = endR d u v x (m :: l) (mxF m l) ++ endR d u v x (m :: l) (negP (mnF m l))) := by
        show _ = _
        unfold thrL
        rw [HOF.out]
      generalize mxF m l = Lp at *
      generalize mnF m l = Rp at *
      obtain ⟨L1, L2⟩ := Lp
      obtain ⟨R1, R2⟩ := Rp
      dsimp only at b1 b2
      have b3 : -3000000 ≤ R1 ∧ R1 ≤ 3000000 := by omega
      have b4 : -3000000 ≤ R2 ∧ R2 ≤ 3000000 := by omega
      obtain ⟨b3a, b3b⟩ := b3
      obtain ⟨b4a, b4b⟩ := b4
      have HEB : Hid (∀ k, k < 2 → (([(L1, L2), (-R1, -R2)] : List (Int × Int)).getD k (0, 0)).1.natAbs ≤ 3000000 ∧ (([(L1, L2), (-R1, -R2)] : List (Int × Int)).getD k (0, 0)).2.natAbs ≤ 3000000) := fun k hk => by
        match k, hk with
        | 0, _ => exact b1
        | 1, _ => exact ⟨by show (-R1).natAbs ≤ _; omega, by show (-R2).natAbs ≤ _; omega⟩
      have HEC0 : Hid (∀ k, k < 2 → (((w6.alloc (.cells #[.int .i64 L1, .int .i64 L2] 131)).alloc (.cells #[.int .i64 R1, .int .i64 R2] 131)).alloc (.cells #[.int .i64 L1, .int .i64 L2, .int .i64 (-R1), .int .i64 (-R2)] 131)).cell? ⟨w6.heap.size + 1 + 1, k * 2, none⟩ = some (.int .i64 (([(L1, L2), (-R1, -R2)] : List (Int × Int)).getD k (0, 0)).1) ∧ (((w6.alloc (.cells #[.int .i64 L1, .int .i64 L2] 131)).alloc (.cells #[.int .i64 R1, .int .i64 R2] 131)).alloc (.cells #[.int .i64 L1, .int .i64 L2, .int .i64 (-R1), .int .i64 (-R2)] 131)).cell? ⟨w6.heap.size + 1 + 1, k * 2 + 1, none⟩ = some (.int .i64 (([(L1, L2), (-R1, -R2)] : List (Int × Int)).getD k (0, 0)).2)) := fun k hk => by
        have hs : ((w6.alloc (.cells #[.int .i64 L1, .int .i64 L2] 131)).alloc (.cells #[.int .i64 R1, .int .i64 R2] 131)).heap.size = w6.heap.size + 1 + 1 := by rw [size_alloc, size_alloc]
        rw [← hs]
        match k, hk with
        | 0, _ => exact ⟨cell_newA _ _ _ _ _ rfl, cell_newA _ _ _ _ _ rfl⟩
        | 1, _ => exact ⟨cell_newA _ _ _ _ _ rfl, cell_newA _ _ _ _ _ rfl⟩
      have HBA : Hid (Below w6.heap.size w6 (((w6.alloc (.cells #[.int .i64 L1, .int .i64 L2] 131)).alloc (.cells #[.int .i64 R1, .int .i64 R2] 131)).alloc (.cells #[.int .i64 L1, .int .i64 L2, .int .i64 (-R1), .int .i64 (-R2)] 131))) := by
        refine Below.alloc (Below.alloc (Below.alloc (Below.refl _ _) (Nat.le_refl _) _) ?_ _) ?_ _
        · rw [size_alloc]; omega
        · rw [size_alloc, size_alloc]; omega
      go_wp2
      obtain ⟨W0, hW0⟩ : ∃ W0, W0 = (((w6.alloc (.cells #[.int .i64 L1, .int .i64 L2] 131)).alloc (.cells #[.int .i64 R1, .int .i64 R2] 131)).alloc (.cells #[.int .i64 L1, .int .i64 L2, .int .i64 (-R1), .int .i64 (-R2)] 131)) := ⟨_, rfl⟩
      rw [← hW0] at HEC0 HBA ⊢
      have HBW : Hid (Below w.heap.size w W0) := HB3.out.trans ((HB4.out.trans ((HB6.out.trans (HBA.out.mono HB6.out.size)).mono HB4.out.size)).mono HB3.out.size)
      have HB40 : Hid (Below w4.heap.size w4 W0) := HB6.out.trans (HBA.out.mono HB6.out.size)
      have HBc0 : Hid (Below wc.heap.size wc W0) := HB4.out.trans (HB40.out.mono HB4.out.size)
      obtain ⟨E, hE⟩ : ∃ E, E = w6.heap.size + 1 + 1 := ⟨_, rfl⟩
      rw [← hE] at HEC0 ⊢
      obtain ⟨ends, hends⟩ : ∃ ends : List (Int × Int), ends = [(L1, L2), (-R1, -R2)] := ⟨_, rfl⟩
      rw [← hends] at HEC0 HEB
      have HEN : Hid (ends = [(L1, L2), (-R1, -R2)]) := hends
      clear hW0 hE hends b1 b2
      go_loopw [9, 43] (fun s i wr => ∃ k : Nat, k ≤ 2 ∧ i = .int .i64 k ∧ Rwo W0.heap.size wr s ((ends.take k).flatMap (endR d u v x (m :: l))) ∧ Below W0.heap.size W0 wr) (fun _ i _ => 2 - (intOf i).toNat)
      case atStart => exact ⟨0, by omega, rfl, Rwo.nil _ _, Below.refl _ _⟩
      case round =>
        obtain ⟨k, hk, rfl, hrw, hbr⟩ := hrel
        have HR : Hid (Rwo W0.heap.size wr u9 ((ends.take k).flatMap (endR d u v x (m :: l)))) := hrw
        have HBR : Hid (Below W0.heap.size W0 wr) := hbr
        clear hrw hbr
        by_cases hlt : k < 2
        · have HF : Hid ((ends.take (k + 1)).flatMap (endR d u v x (m :: l)) = (ends.take k).flatMap (endR d u v x (m :: l)) ++ endR d u v x (m :: l) (ends.getD k (0, 0))) := by
            show _ = _
            have hl2 : k < ends.length := by rw [HEN.out]; simpa using hlt
            rw [List.take_succ_eq_append_getElem hl2, List.flatMap_append]
            simp [hl2]
          obtain ⟨x0, x1⟩ := HEC0.out k hlt
          have c0 := (HBR.out.cell (lt_of_cell x0)).trans x0
          have c1 := (HBR.out.cell (lt_of_cell x1)).trans x1
          have heb := HEB.out k hlt
          clear x0 x1
          generalize ends.getD k (0, 0) = ee at *
          obtain ⟨e1, e2⟩ := ee
          dsimp only at c0 c1 heb
          have HCF : Hid (Calls Tryz.prog 110 #[.slice zo (l.length + 1) zc, .func (.func 109) #[] #[.pointer (some ⟨wr.heap.size, 0, none⟩)]] (wr.alloc (.cells #[.int .i64 e1, .int .i64 e2] 131)) fun r w' => r = .returned (.bool ((m :: l).any fun s => decide (0 < trn s (e1, e2)))) ∧ Below (wr.heap.size + 1) (wr.alloc (.cells #[.int .i64 e1, .int .i64 e2] 131)) w') := by
            have hbx : Below w4.heap.size w4 (wr.alloc (.cells #[.int .i64 e1, .int .i64 e2] 131)) := (HB40.out.trans (HBR.out.mono HB40.out.size)).alloc (Nat.le_trans HB40.out.size HBR.out.size) _
            have h := hasS_any (m :: l) (e1, e2) (.slice zo (l.length + 1) zc) wr.heap.size (wr.alloc (.cells #[.int .i64 e1, .int .i64 e2] 131)) (HSN.out _ hbx) HPB.out (by simp; omega) ⟨by dsimp only; omega, by dsimp only; omega⟩ (cell_new2 wr _ _ _ 0 _ rfl) (cell_new2 wr _ _ _ 1 _ rfl)
            rw [size_alloc] at h
            exact h
          generalize hany : ((m :: l).any fun s => decide (0 < trn s (e1, e2))) = R at *
          go_wp2_with fail
          refine HCF.out.mono ?_
          rintro r w7 ⟨rfl, hb7⟩
          have HBx : Hid (Below wr.heap.size wr (wr.alloc (.cells #[.int .i64 e1, .int .i64 e2] 131))) := (Below.refl _ _).alloc (Nat.le_refl _) _
          have hszx : (wr.alloc (.cells #[.int .i64 e1, .int .i64 e2] 131)).heap.size = wr.heap.size + 1 := size_alloc _ _
          have k0 := (hb7.cell (p := ⟨wr.heap.size, 0, none⟩) (by show wr.heap.size < wr.heap.size + 1; omega)).trans (cell_new2 wr (.int .i64 e1) (.int .i64 e2) 131 0 _ rfl)
          have k1 := (hb7.cell (p := ⟨wr.heap.size, 1, none⟩) (by show wr.heap.size < wr.heap.size + 1; omega)).trans (cell_new2 wr (.int .i64 e1) (.int .i64 e2) 131 1 _ rfl)
          have HB7 : Hid (Below wr.heap.size wr w7) := HBx.out.trans (hb7.mono (by omega))
          have HW7 : Hid (Below w.heap.size w w7) := HBW.out.trans ((HBR.out.trans (HB7.out.mono HBR.out.size)).mono HBW.out.size)
          clear hb7 HCF HBx hszx c0 c1
          cases hR : R
          · have HEE : Hid ((ends.take (k + 1)).flatMap (endR d u v x (m :: l)) = (ends.take k).flatMap (endR d u v x (m :: l)) ++ [rowE d u v x (e1, e2)]) := by
              show _ = _
              rw [HF.out]
              unfold endR
              rw [hany, hR]
              rfl
            clear hany hR HF
            obtain ⟨vs, g1, g2, g3⟩ := HR.out
            obtain ⟨so, scp, rfl⟩ := owns_form g2
            obtain ⟨rows, hrows⟩ : ∃ rows, rows = (ends.take k).flatMap (endR d u v x (m :: l)) := ⟨_, rfl⟩
            rw [← hrows] at g1 g2 g3 HEE HR ⊢
            have hrl : rows.length ≤ 1000 := by
              have h2 : ∀ (es : List (Int × Int)), (es.flatMap (endR d u v x (m :: l))).length ≤ es.length := fun es => by
                induction es with
                | nil => simp
                | cons a es ih =>
                  rw [List.flatMap_cons, List.length_append, List.length_cons]
                  have : (endR d u v x (m :: l) a).length ≤ 1 := by unfold endR; split <;> simp
                  omega
              rw [hrows]
              have := h2 (ends.take k)
              have h3 : (ends.take k).length ≤ k := by simp; omega
              omega
            clear hrows
            have HAT : Hid (AtOk d u v x (e1, e2)) := ⟨HSE.out.ul, HSE.out.vl, HSE.out.xl, hd1, HSE.out.d5, HSE.out.ub, HSE.out.vb, HSE.out.xb, by dsimp only; omega⟩
            obtain ⟨row, hrow⟩ : ∃ row, row = rowE d u v x (e1, e2) := ⟨_, rfl⟩
            have HRL : Hid (row.length = d + 1) := by
              show _ = _
              rw [hrow]
              unfold rowE
              rw [List.length_append, (rwA_facts HAT.out).1]
              rfl
            have HRA : Hid (∀ W', Below w7.heap.size w7 W' → Calls Tryz.prog 111 #[.agg #[.int .i64 e1, .int .i64 e2], .slice ko 2 kc, .slice xo d xc] W' fun r w' => ∃ yo yc, r = .returned (.slice yo (d + 1) yc) ∧ w'.ownsRow wr.heap.size 3 1 (.slice yo (d + 1) yc) row.length (ints row) ∧ Below wr.heap.size wr w') := fun W' hB => by
              have hBw : Below w.heap.size w W' := HW7.out.trans (hB.mono HW7.out.size)
              have hBc : Below wc.heap.size wc W' := HBc0.out.trans ((HBR.out.trans ((HB7.out.trans (hB.mono HB7.out.size)).mono HBR.out.size)).mono HBc0.out.size)
              have hBr : Below wr.heap.size wr W' := HB7.out.trans (hB.mono HB7.out.size)
              refine (rowAt_any d u v x (e1, e2) (.slice ko 2 kc) (.slice xo d xc) W' (HX.out W' hBw) ((HMU.out.below hBc (Nat.le_refl _)).any (Nat.le_refl _)) HAT.out).mono ?_
              rintro r w' ⟨z, rfl, h1, h2⟩
              obtain ⟨yo, yc, rfl⟩ := owns_form h1
              refine ⟨yo, yc, rfl, ?_, hBr.trans (h2.mono hBr.size)⟩
              rw [HRL.out, hrow]
              exact h1.mono hBr.size
            rw [← hrow] at HEE
            clear hrow
            obtain ⟨ct7, -⟩ := HCC.out w7 HW7.out
            have hNr : W0.heap.size ≤ wr.heap.size := HBR.out.size
            have HPU : Hid (∀ w8 yo yc, w8.ownsRow wr.heap.size 3 1 (.slice yo (d + 1) yc) row.length (ints row) → Below wr.heap.size wr w8 → ∀ v' w9, w9.ownsRow W0.heap.size 22 1 v' (rows.length + 1) (vs ++ [.slice yo (d + 1) yc]) → (w8.alloc (.cells #[.slice yo (d + 1) yc] 22)).grownBy w9 (Value.slice so rows.length scp).ownBlock → Rwo W0.heap.size w9 v' (rows ++ [row]) ∧ Below W0.heap.size W0 w9) := fun w8 yo yc h1 h2 => push_row g1 g2 g3 h2 h1 hNr HBR.out
            have HG2 : Hid (∀ w8, Below wr.heap.size wr w8 → w8.ownsRow W0.heap.size 22 1 (.slice so rows.length scp) rows.length vs) := fun w8 h => owns_below g2 h (Nat.le_refl _)
            have htm : rows.length + 1 ≤ maxLen := by unfold maxLen; omega
            clear g1 g2 g3
            go_upto_region 12 with fail
            go_region_law (first
              | (refine step_call3W (o := { dst := some 58, op := _, type := _, pos := _, after := _, guard := _ }) (by rfl) 111 _ _ _ 131 23 22 (by rfl) _ _ _ (by rfl) (by rfl) (by rfl) ⟨_, Tryz.func111, by rfl, by rfl⟩ ?_; refine (HRA.out _ (by repeat (first | exact Below.refl _ _ | refine below_drewN ?_ _ | refine Below.drew ?_ | refine Below.alloc ?_ (by simp) _))).mono ?_; rintro r w8 ⟨yo, yc, rfl, hy1, hy2⟩; refine ⟨_, rfl, ?_⟩; have HY1 : Hid (w8.ownsRow wr.heap.size 3 1 (.slice yo (d + 1) yc) row.length (ints row)) := hy1; have HY2 : Hid (Below wr.heap.size wr w8) := hy2; clear hy1 hy2)
              | (refine step_append_own (o := { dst := some 60, op := _, type := _, pos := _, after := _, guard := _ }) (by rfl) _ _ 23 (by rfl) W0.heap.size 22 i0 (.slice none 0 0) 1 24 Tryz.underlying23 hi0 hz0 hz1 hz2 rfl (by decide) _ _ _ (by rfl) ((HG2.out w8 HY2.out).alloc _) ⟨w8.heap.size, 0, none⟩ 1 1 [.slice yo (d + 1) yc] (by rfl) rfl (one_new _ _ _) (one_slice _ _ _) htm (by omega) (by rw [size_alloc]; have := HY2.out.size; omega) ?_; intro v' w9 ho hg; have FF : Hid (Rwo W0.heap.size w9 v' (rows ++ [row]) ∧ Below W0.heap.size W0 w9) := HPU.out w8 yo yc HY1.out HY2.out v' w9 ho hg; clear ho hg))
            all_goals
              clear k0 k1 ct7
              go_wp2
              go_roundw
              case rel => exact ⟨k + 1, by omega, by go_num, by rw [HEE.out]; exact FF.out.1, FF.out.2⟩
              case measure => simp [intOf]; omega
          · have HEE : Hid ((ends.take (k + 1)).flatMap (endR d u v x (m :: l)) = (ends.take k).flatMap (endR d u v x (m :: l))) := by
              show _ = _
              rw [HF.out]
              unfold endR
              rw [hany, hR, if_pos rfl, List.append_nil]
            clear hany hR HF k0 k1
            go_wp2
            go_roundw
            case rel => exact ⟨k + 1, by omega, by go_num, by rw [HEE.out]; exact HR.out.below HB7.out (Nat.le_refl _), HBR.out.trans (HB7.out.mono HBR.out.size)⟩
            case measure => simp [intOf]; omega
        · have hk2 : k = 2 := by omega
          subst hk2
          go_wp2
          go_ret
          refine ⟨K, _, HKP.out, rfl, ?_, HBW.out.trans (HBR.out.mono HBW.out.size)⟩
          have h := HR.out.low HBW.out.size
          rw [← HXE.out, HTH.out, HTL.out]
          rw [HEN.out] at h
          simpa [negP] using h
    · have hb2 : ((K.length : Int) != 2) = true := by simp; omega
      have HTH : Hid (thrK d K (t.getD 0 []) P = []) := by show _ = _; unfold thrK; rw [if_neg hk2]
      clear htc hpc ct cp
      go_wp2
      go_ret
      refine ⟨K, _, HKP.out, rfl, ?_, HB3.out⟩
      rw [HTH.out]
      exact Rwo.nil _ _
end Go.Proofs.YtdanomklbiidaaaGreatDoor
