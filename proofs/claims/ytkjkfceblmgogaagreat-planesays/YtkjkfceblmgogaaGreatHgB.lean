import Derived.Test.YtkjkfceblmgogaaGreatHf9
import Derived.Test.YtkjkfceblmgogaaGreatDsA
set_option maxRecDepth 100000
set_option maxHeartbeats 3200000
namespace Go.Proofs.YtkjkfceblmgogaaGreat
open Lin
def stR(d:Nat)(r:List Int):List Int:=r.take d ++ [0]
def onS(d k:Nat)(s:Int):List Int:=(List.range (d+1)).map fun i=>if i=d then -1 else if i=k then s else 0
def opR(d:Nat)(rows:List (List Int))(k:Nat)(s:Int):List (List Int):=rows.map (stR d) ++ [onS d k s]
def opD(d:Nat)(rows:List (List Int)):Bool:=(List.range d).any fun k=>!ZBm d (opR d rows k (-1)) || !ZBm d (opR d rows k 1)
theorem ZMI{d:Nat}{r:List Int}(h:r.length=d+1):(stR d r).length=d+1:=by simp [stR,h]
theorem ZMJ(d k:Nat)(s:Int):(onS d k s).length=d+1:=by simp [onS]
theorem ZMK{d i:Nat}{r:List Int}(h:r.length=d+1)(hi:i < d):V (stR d r) i=V r i:=by
 unfold V stR
 rw [Za2,Za7 (by simp [h]; omega),Zaa5 hi,←Za2]
theorem ZGO{d:Nat}{r:List Int}(h:r.length=d+1):V (stR d r) d=0:=by
 unfold V stR
 rw [Za2,Za8 (by simp [h])]
 simp [h]
theorem ZML{d k:Nat}{s:Int}(hk:k < d)(x:Nat→Int):dot d (V (onS d k s)) x=s*x k:=by
 unfold dot
 rw [ZAs (k:=k) hk (fun i hi hne=>by simp [V,onS,show i < d+1 by omega,show ¬i=d by omega,hne])]
 simp [V,onS,show k < d+1 by omega,show ¬k=d by omega]
theorem ZJJ{d k:Nat}{s:Int} : V (onS d k s) d=-1:=by simp [V,onS]
theorem ZMM{d k:Nat}{s:Int}{rows:List (List Int)}(hl:∀r∈rows,r.length=d+1):∀r∈opR d rows k s,r.length=d+1:=fun r hr=>by
 unfold opR at hr
 rcases List.mem_append.1 hr with h | h
 ·obtain ⟨q,a,rfl⟩:=List.mem_map.1 h
  exact ZMI (hl q a)
 ·simp only [List.mem_singleton] at h
  rw [h]; exact ZMJ d k s
theorem ZMN{d i:Nat}{s:Int}(hi:i < d)(c:Nat→Int):dot d c (V (axG d i s))=s*c i:=by
 unfold dot
 rw [ZAs (k:=i) hi (fun j hj hne=>by simp [V,axG,hj,hne])]
 simp [V,axG,hi,Int.mul_comm]
theorem ZOu{d k:Nat}{s:Int}{rows:List (List Int)}(hl:∀r∈rows,r.length=d+1)(hk:k < d):ZBm d (opR d rows k s)=false↔ZAY rows (axG d k (-s))=[]:=by
 rw [ZPX (ZMM hl),ZDZ,ZCP,ZCz]
 constructor
 ·rintro ⟨x,w,j,b⟩
  refine ⟨x,fun r hr=>?_,?_⟩
  ·have:=b (stR d r) (by unfold opR; exact List.mem_append_left _ (List.mem_map.2 ⟨r,hr,rfl⟩))
   rw [ZGO (hl r hr),Int.zero_mul,ZAa (fun i hi=>ZMK (hl r hr) hi) (fun _ _=>rfl)] at this
   rw [ZAU]; exact this
  ·have:=b (onS d k s) (by unfold opR; simp)
   rw [ZML hk,ZJJ] at this;rw [ZMN hk,Int.neg_mul];omega
 ·rintro ⟨c,f,g⟩
  rw [ZMN hk,Int.neg_mul] at g
  refine ⟨c,-(s*c k),by omega,fun r hr=>?_⟩
  unfold opR at hr
  rcases List.mem_append.1 hr with h | h
  ·obtain ⟨q,a,rfl⟩:=List.mem_map.1 h
   rw [ZGO (hl q a),Int.zero_mul,ZAa (fun i hi=>ZMK (hl q a) hi) (fun _ _=>rfl),ZAU]
   exact f q a
  ·simp only [List.mem_singleton] at h
   rw [h,ZML hk,ZJJ];omega
theorem ZRA{d:Nat}{rows:List (List Int)}(hl:∀r∈rows,r.length=d+1):opD d rows=opB d rows:=by
 unfold opD opB;rw [Bool.eq_iff_iff,List.any_eq_true,List.any_eq_true]
 have f:∀k,k < d→((!ZBm d (opR d rows k (-1)) || !ZBm d (opR d rows k 1))=opI d rows k):=fun k c=>by
  have a:=ZOu (s:=-1) hl c;have b:=ZOu (s:=1) hl c;unfold opI
  rw [show -(-1:Int)=1 by decide] at a
  have g:(!ZBm d (opR d rows k (-1)))=(ZAY rows (axG d k 1)).isEmpty:=by
   rw [Bool.eq_iff_iff,Bool.not_eq_true',List.isEmpty_iff]; exact a
  have i:(!ZBm d (opR d rows k 1))=(ZAY rows (axG d k (-1))).isEmpty:=by
   rw [Bool.eq_iff_iff,Bool.not_eq_true',List.isEmpty_iff]; exact b
  rw [g,i]
 constructor
 ·rintro ⟨k,c,h⟩
  exact ⟨k,c,by rw [←f k (List.mem_range.1 c)]; exact h⟩
 ·rintro ⟨k,c,h⟩
  exact ⟨k,c,by rw [f k (List.mem_range.1 c)]; exact h⟩
end Go.Proofs.YtkjkfceblmgogaaGreat
namespace Go.Proofs.YtkjkfceblmgogaaGreat
open Go.RowKit
attribute [local go_sem ↓] Go.wp_at_zero Go.wp_at_succ
theorem ZRB{w:World}{d k:Nat}{s:Int}(hk:k < d)(hd:d≤100){o:Obj}(ho:o=.cells (((madeCells #[.int .i64 0] (d+1)).setIfInBounds k (.int .i64 s)).setIfInBounds d (.int .i64 (-1))) 3):Sl 0 3 (w.alloc o) (.slice (some ⟨w.heap.size,0,none⟩) (d+1) (d+1)) (ZAB (onS d k s)):=by
 subst ho;have f:=ZAL w (.cells (((madeCells #[.int .i64 0] (d+1)).setIfInBounds k (.int .i64 s)).setIfInBounds d (.int .i64 (-1))) 3)
 have b:(madeCells #[.int .i64 0] (d+1)).size=d+1:=by rw [←Array.length_toList,toList_madeCells_one]; simp
 have a:(w.alloc (.cells (((madeCells #[.int .i64 0] (d+1)).setIfInBounds k (.int .i64 s)).setIfInBounds d (.int .i64 (-1))) 3)).rowIs w.heap.size 3 (d+1) (fun j=>if j=d then .int .i64 (-1) else if j=k then .int .i64 s else .int .i64 0):=by
  refine ⟨_,f,?_,fun i hi=>?_⟩
  ·simp only [Array.size_setIfInBounds]
   exact b
  ·rw [Array.getElem?_setIfInBounds]
   by_cases e:d=i
   ·subst e
    simp [b]
   ·rw [if_neg e,Array.getElem?_setIfInBounds]
    by_cases e2:k=i
    ·subst e2
     have g:k < (madeCells #[.int .i64 0] (d+1)).size:=by rw [b]; omega
     simp [g,show ¬k=d from fun h=>e h.symm]
    ·rw [if_neg e2,←Array.getElem?_toList,toList_madeCells_one]
     simp [hi,show ¬i=k from fun h=>e2 h.symm,show ¬i=d from fun h=>e h.symm]
 refine Sl.row' a (by unfold maxLen; omega) (by simp [onS]) (fun i hi=>?_)
 rw [ZAZ _ _ (by rw [ZMJ]; exact hi)]
 have c:(onS d k s).getD i 0=if i=d then -1 else if i=k then s else 0:=by simp [onS,hi]
 rw [c]
 by_cases e:i=d
 ·simp [e]
 ·by_cases e2:i=k
  ·subst e2
   simp [e]
  ·simp [e,e2]
theorem ZP4{d i:Nat}{r:List Int}(h:r.length=d+1)(hi:i < d+1):(stR d r).getD i 0=if i=d then 0 else r.getD i 0:=by
 by_cases e:i=d
 ·rw [if_pos e,e]; exact ZGO h
 ·rw [if_neg e]; exact ZMK h (by omega)
theorem ZP5{B:Nat}{W w1:World}{v0 v1:Value}{m:List (List Int)}{vs:List Value}(g1:vs.length=m.length)(g3:∀i,i < m.length→Sl 0 3 W (vs.getD i (.slice none 0 0)) (ZAB (m.getD i [])))(h0:W.ownsRow B 27 1 v0 0 [])(ho:w1.ownsRow B 27 1 v1 m.length vs)(hg:W.grownBy w1 v0.ownBlock):Fr B 27 3 w1 v1 m:=
 ⟨vs,g1,ho,fun i hi=>(g3 i hi).grown hg (fun k hk=>⟨Za5 _,(ZAt h0 (by decide) k hk).2⟩)⟩
theorem ZRk{d:Nat}{rows:List (List Int)}(hc:CutF d rows){k:Nat}{s:Int}(hs:s.natAbs≤1):RwE d (opR d rows k s):=fun r hr=>by
 refine ⟨ZMM hc.len r hr,fun z hz=>?_⟩
 unfold opR at hr
 rcases List.mem_append.1 hr with h | h
 ·obtain ⟨q,a,rfl⟩:=List.mem_map.1 h
  unfold stR at hz
  rcases List.mem_append.1 hz with h2 | h2
  ·have:=hc.bd q a z (Zaa7 h2); omega
  ·simp only [List.mem_singleton] at h2; rw [h2]; decide
 ·simp only [List.mem_singleton] at h
  rw [h] at hz;simp only [onS,List.mem_map] at hz;obtain ⟨i,_,rfl⟩:=hz
  split
  ·decide
  ·split
   ·omega
   ·decide
theorem ZP6{d k:Nat}{rows:List (List Int)}{s:Int}(hk:k < d)(hs:s=-1∨s=1)(h:ZBm d (opR d rows k s)=false):opD d rows=true:=by
 unfold opD;rw [List.any_eq_true];refine ⟨k,List.mem_range.2 hk,?_⟩
 rcases hs with rfl | rfl
 ·simp [h]
 ·simp [h]
theorem ZRC{d:Nat}{rows:List (List Int)}(h:∀q,q < d→ZBm d (opR d rows q (-1))=true∧ZBm d (opR d rows q 1)=true):opD d rows=false:=by
 unfold opD;rw [List.any_eq_false];intro q c;obtain ⟨a,b⟩:=h q (List.mem_range.1 c);simp [a,b]
theorem ZMO(d : Nat)(rows : List (List Int))(v : Value)(w : World){B0 : Nat}(hv : Mat B0 27 3 w v rows)(hc : CutF d rows) :
    Calls Tryz.prog 24 #[v, .int .i64 d] w fun e w' => e = .returned (.bool (opD d rows)) ∧ Below w.heap.size w w' := by
  obtain ⟨i0, r, ay, au, ak⟩ := info_parts Tryz.info27;obtain ⟨ro, rc, bH, bT, bY⟩ := ZAD hv;subst bH;have HV : Hid (Mat B0 27 3 w (.slice ro rows.length rc) rows) := hv;have HC:=hid hc;have bL := hc.n12;have bF := hc.d4;have bI := hc.d1;have ar : Hid ((rows.map (stR d)).length = rows.length) := Zab1 _
  have bA := run_make_row' (P := Tryz.prog) 27 3 (.int .i64 0) 8 Tryz.underlying27 Tryz.info3 rfl .i64 .i64 (d + 1) (by omega) (by omega)
  rw [show (((d + 1 : Nat) : Int)) = (d : Int) + 1 by omega] at bA
  clear hv hc;go_enter Tryz.func24, Tryz.ntmps24;go_wp2
  go_loopw [5, 6] (fun x i wr => ∃ p : Nat, p ≤ rows.length ∧ i = .int .i64 p ∧ Fr w.heap.size 27 3 wr x ((rows.map (stR d)).take p) ∧ Below w.heap.size w wr) (fun _ i _ => rows.length - (intOf i).toNat)
  case atStart => exact ⟨0, Za5 _, rfl, Fr.nil _ _ _ _, Below.refl _ _⟩
  case round =>
    obtain ⟨p, hp, rfl, aG, c⟩ := hrel
    obtain ⟨a, rfl⟩ : ∃ a, a = wr := ⟨_, rfl⟩
    have HB:=hid c;have HF:=hid aG;have R : w.heap.size ≤ a.heap.size := c.size;clear c aG
    by_cases hlt : p < rows.length
    · have am : Hid ((rows.map (stR d)).take (p + 1) = (rows.map (stR d)).take p ++ [stR d (rows.getD p [])]) := by
        show _ = _
        rw [Zaa1 (by rw [ar.out]; exact hlt)]
        simp [hlt]
      obtain ⟨b, o, cp, fv, hs, _, bW, aa⟩ := ZAP (HV.out.below HB.out (Za4 _)) hlt;simp only [Za3] at hs;obtain ⟨rfl, -, rfl⟩ := hs
      have an : rows.getD p [] ∈ rows := by rw [Za2, Za9 hlt]; exact List.getElem_mem _
      obtain ⟨y, hy⟩ : ∃ y, y = rows.getD p [] := ⟨_, rfl⟩
      rw [← hy] at aa an am;clear hy;have L : Hid (y.length = d + 1) := HC.out.len y an;obtain ⟨yo, yc, aS, _, _⟩ := ZAI aa;rw [L.out] at aS;subst aS;have bi:=hid aa
      have bZ : (p : Int) < (rows.length : Int) := by omega
      have bN : (0 : Int) ≤ (p : Int) := by omega
      clear aa an
      go_wp2_with fail
      refine (ZBj _ y _ a bi.out (by rw [L.out]; omega)).mono ?_
      rintro e w2 ⟨u, rfl, A, aE⟩;rw [L.out] at A
      obtain ⟨g, gc, F, hu, Q, l, hF, bK, bC⟩ := ZIz A (by omega)
      subst hu
      have ca := l.cell (i := d) (by omega)
      have cf := l.frozen d
      rw [hF d (by omega)] at ca
      have ag : Hid ((w2.setCell ⟨g, d, none⟩ (.int .i64 0)).rowIs g 3 gc (fun i => if i = d then .int .i64 0 else F i)) := l.set d _
      have ae : Hid (∀ Z, Sl Z 3 (w2.setCell ⟨g, d, none⟩ (.int .i64 0)) (.slice (some ⟨g, 0, none⟩) (d + 1) gc) (ZAB (stR d y))) := fun Z => ZCv ag.out (fun i r => by
        show (if i = d then Value.int .i64 0 else F i) = _
        rw [ZP4 L.out r]
        by_cases e : i = d
        · rw [if_pos e, if_pos e]
        · rw [if_neg e, if_neg e, hF i r]) (ZMI L.out) bK bC
      have t : Hid (Below a.heap.size a (w2.setCell ⟨g, d, none⟩ (.int .i64 0))) := ((Touch.refl _ _).setCell d _).below aE Q;generalize y.getD d 0 = z at *
      have bG : (d : Int) < (d : Int) + 1 := by omega
      have aC : (0 : Int) ≤ (d : Int) := by omega
      clear l hF A aE
      go_upto_region 7 with fail
      obtain ⟨f, j⟩ : ∃ f, f = w2.setCell ⟨g, d, none⟩ (.int .i64 0) := ⟨_, rfl⟩
      rw [← j] at ae t ⊢;clear j ag ca cf;have aj : Hid (Below w.heap.size w f) := HB.out.trans (t.out.mono R)
      obtain ⟨M, hM⟩ : ∃ M, M = (rows.map (stR d)).take p := ⟨_, rfl⟩
      have bV : M.length ≤ 12 := by rw [hM, List.length_take]; omega
      rw [← hM] at HF am;clear hM;obtain ⟨vs, g1, V, g3⟩ := HF.out.below t.out (Za4 _);have G2:=hid V;have n : w.heap.size ≤ f.heap.size := aj.out.size
      have S : Hid (∀ X J, J.ownsRow w.heap.size 27 1 X (M.length + 1) (vs ++ [.slice (some ⟨g, 0, none⟩) (d + 1) gc]) → (f.alloc (.cells #[.slice (some ⟨g, 0, none⟩) (d + 1) gc] 27)).grownBy J u5.ownBlock → Fr w.heap.size 27 3 J X (M ++ [stR d y]) ∧ Below w.heap.size w J) := fun X J ho Q =>
        ⟨Fr.push (e2 := 27) (e1 := 3) (m := M) (u := .slice (some ⟨g, 0, none⟩) (d + 1) gc) (zs := stR d y) (by decide) g1 (V.alloc _) (fun i r => (g3 i r).alloc _) ((ae.out 0).alloc _) ho Q,
         (aj.out.alloc n _).grown Q (by simp; omega) (fun x hx => (V.lt x hx).1)⟩
      clear g1 V g3
      go_wp2_with (first | (at_builtin; refine wpList_append_own _ rfl _ _ 22 rfl w.heap.size 27 i0 (.slice none 0 0) 1 24 Tryz.underlying22 r ay au ak rfl (by decide) _ _ _ rfl (G2.out.alloc _) ⟨f.heap.size, 0, none⟩ 1 1 [.slice (some ⟨g, 0, none⟩) (d + 1) gc] rfl rfl (ZAS _ _ _) (ZAM _ _ _) ?d3 ?d4 ?d5 ?_))
      case d3 => unfold maxLen; omega
      case d4 => omega
      case d5 => simp; omega
      intro X w4 ho aV _;obtain ⟨q1, q2⟩ := S.out X w4 ho aV
      have R1 : Hid (Fr w.heap.size 27 3 w4 X ((rows.map (stR d)).take (p + 1))) := by show Fr _ _ _ _ _ _; rw [am.out]; exact q1
      have R2:=hid q2;clear ho aV q1 q2 S G2;go_wp2
      go_roundw
      case rel => exact ⟨p + 1, by omega, by go_num, R1.out, R2.out⟩
      case measure => simp [intOf]; omega
    · have bv : p = rows.length := by omega
      subst bv;have hf := HF.out
      rw [Zaa2 (by rw [ar.out]; exact Za4 _)] at hf
      obtain ⟨T, hT⟩ : ∃ T, T = rows.map (stR d) := ⟨_, rfl⟩
      have aX : Hid (∀ k s, opR d rows k s = T ++ [onS d k s]) := fun k s => by rw [hT]; rfl
      have bJ : T.length = rows.length := by rw [hT]; exact ar.out
      rw [← hT] at hf;obtain ⟨D, t1, t2, t3⟩ := hf;obtain ⟨tO, tc, bt⟩ := ZAE t2;subst bt
      have bQ : T.length ≤ 12 := by omega
      have T1:=hid t1
      have T3 : Hid (∀ W', Below a.heap.size a W' → Sl 0 27 W' (.slice tO T.length tc) D ∧ ∀ i, i < T.length → Sl 0 3 W' (D.getD i (.slice none 0 0)) (ZAB (T.getD i []))) := fun W' hB => ⟨(Sl.own (B := 0) t2).below hB (Za4 _), fun i r => (t3 i r).below hB (Za4 _)⟩
      have az : Hid (∀ u ∈ D, u.oneCell' = true) := ZEa (m := T) t1 t3
      clear HF hT bJ t1 t2 t3;go_wp2
      go_loopw [8] (fun i wr => ∃ k : Nat, k ≤ d ∧ i = .int .i64 k ∧ (∀ q, q < k → ZBm d (opR d rows q (-1)) = true ∧ ZBm d (opR d rows q 1) = true) ∧ Below a.heap.size a wr) (fun i _ => d - (intOf i).toNat)
      case atStart => exact ⟨0, Za5 _, rfl, fun q hq => by omega, Below.refl _ _⟩
      case round =>
        obtain ⟨k, hk, rfl, aY, c⟩ := hrel
        obtain ⟨wb, rfl⟩ : ∃ wb, wb = wr := ⟨_, rfl⟩
        have aQ:=hid c;have bg:=hid aY;clear c aY
        by_cases hlt2 : k < d
        · have bX : (k : Int) < (d : Int) := by omega
          have bP : (0 : Int) ≤ (k : Int) := by omega
          have bM : (k : Int) < (d : Int) + 1 := by omega
          have bG : (d : Int) < (d : Int) + 1 := by omega
          have aC : (0 : Int) ≤ (d : Int) := by omega
          go_wp2
          go_loopw [9] (fun i wr => ∃ s : Int, i = .int .i64 s ∧ (s = -1 ∨ s = 1 ∧ ZBm d (opR d rows k (-1)) = true ∨ s = 3 ∧ ZBm d (opR d rows k (-1)) = true ∧ ZBm d (opR d rows k 1) = true) ∧ Below a.heap.size a wr) (fun i _ => (3 - intOf i).toNat)
          case atStart => exact ⟨-1, rfl, .inl rfl, aQ.out⟩
          case round =>
            obtain ⟨s, rfl, U, c⟩ := hrel
            obtain ⟨G, rfl⟩ : ∃ G, G = wr := ⟨_, rfl⟩
            have aI:=hid c;have aD : a.heap.size ≤ G.heap.size := c.size;clear c
            by_cases h3 : s = 3
            · have bj : Hid (ZBm d (opR d rows k (-1)) = true ∧ ZBm d (opR d rows k 1) = true) := by
                rcases U with h | ⟨h, _⟩ | ⟨_, h⟩
                · omega
                · omega
                · exact h
              subst h3;clear U;go_wp2
              exact ⟨⟨k + 1, by omega, by go_num, fun q hq => (by
                by_cases e : q = k
                · subst e; exact bj.out
                · exact bg.out q (by omega)), aI.out⟩, by simp [intOf]; omega⟩
            · have aL : s = -1 ∨ s = 1 := by
                rcases U with h | ⟨h, _⟩ | ⟨h, _⟩
                · exact .inl h
                · exact .inr h
                · exact absurd h h3
              have aK:=hid aL
              have bz : Hid (s = 1 → ZBm d (opR d rows k (-1)) = true) := fun e => by
                rcases U with h | ⟨_, h⟩ | ⟨h, _⟩
                · omega
                · exact h
                · exact absurd h h3
              have aM : s ≤ 1 := by omega
              have bO : -1 ≤ s := by omega
              have bR : decide (s ≤ 1) = true := decide_eq_true aM;clear U h3 aL
              have bD : (madeCells #[.int .i64 0] (d + 1))[k]? = some (.int .i64 0) := by
                rw [← Array.getElem?_toList, toList_madeCells_one, List.getElem?_replicate, if_pos (by omega)]
              have bB : ((madeCells #[.int .i64 0] (d + 1)).setIfInBounds k (.int .i64 s))[d]? = some (.int .i64 0) := by
                rw [Array.getElem?_setIfInBounds, if_neg (by omega), ← Array.getElem?_toList, toList_madeCells_one, List.getElem?_replicate, if_pos (by omega)]
              obtain ⟨f, j⟩ : ∃ f, f = G.alloc (.cells (((madeCells #[.int .i64 0] (d + 1)).setIfInBounds k (.int .i64 s)).setIfInBounds d (.int .i64 (-1))) 3) := ⟨_, rfl⟩
              have ae : Hid (Sl 0 3 f (.slice (some ⟨G.heap.size, 0, none⟩) (d + 1) (d + 1)) (ZAB (onS d k s))) := by rw [j]; exact ZRB hlt2 (by omega) rfl
              have t : Hid (Below G.heap.size G f) := by rw [j]; exact ZAG _ _
              go_upto_region 17 with fail
              rw [← j];clear j bD bB;have ah : Hid (Below a.heap.size a f) := aI.out.trans (t.out.mono aD);have n : a.heap.size ≤ f.heap.size := ah.out.size;have Y : Hid ((f.alloc (.cells #[] 27)).ownsRow a.heap.size 27 1 (.slice (some ⟨f.heap.size, 0, none⟩) 0 0) 0 []) := ZCL f a.heap.size n;have aw : Hid (Below f.heap.size f (f.alloc (.cells #[] 27))) := ZAG _ _;have N : Hid (Below a.heap.size a (f.alloc (.cells #[] 27))) := ah.out.trans (aw.out.mono n)
              have bp : Hid (Sl 0 27 (f.alloc (.cells #[] 27)) (.slice tO T.length tc) D) := (T3.out _ N.out).1
              have ai : Hid (a.heap.size ≤ (f.alloc (.cells #[] 27)).heap.size) := by show _ ≤ _; rw [size_alloc]; omega
              have bh : Hid (∀ v1 O, O.ownsRow a.heap.size 27 1 v1 T.length D → (f.alloc (.cells #[] 27)).grownBy O (Value.slice (some ⟨f.heap.size, 0, none⟩) 0 0).ownBlock → Fr a.heap.size 27 3 O v1 T ∧ Below a.heap.size a O ∧ Sl 0 3 O (.slice (some ⟨G.heap.size, 0, none⟩) (d + 1) (d + 1)) (ZAB (onS d k s))) := fun v1 O ho Q => by
                refine ⟨ZP5 T1.out (fun i r => (T3.out _ N.out).2 i r) Y.out ho Q, N.out.grown Q ai.out (fun x hx => (Y.out.lt x hx).1), ?_⟩
                exact (ae.out.below aw.out (Za4 _)).grown Q (fun k hk => ⟨Za5 _, (ZAt Y.out (by decide) k hk).2⟩)
              clear t aw
              go_wp2_with (first | (at_builtin; refine ZDF rfl _ _ 22 rfl a.heap.size 27 i0 (.slice none 0 0) 24 Tryz.underlying22 r ay au ak rfl _ 0 [] rfl Y.out tO T.length tc D rfl bp.out az.out ?d3 ?d4 ai.out ?_))
              case d3 => unfold maxLen; omega
              case d4 => omega
              intro v1 O aH aJ;obtain ⟨q1, q2, q3⟩ := bh.out v1 O aH aJ;obtain ⟨vs, g1, V, g3⟩ := q1;obtain ⟨vo, vc, bk⟩ := ZAE V;subst bk;have G2:=hid V;have aO : a.heap.size ≤ O.heap.size := q2.size
              have S : Hid (∀ X J, J.ownsRow a.heap.size 27 1 X (T.length + 1) (vs ++ [.slice (some ⟨G.heap.size, 0, none⟩) (d + 1) (d + 1)]) → (O.alloc (.cells #[.slice (some ⟨G.heap.size, 0, none⟩) (d + 1) (d + 1)] 27)).grownBy J (Value.slice vo T.length vc).ownBlock → Fr a.heap.size 27 3 J X (T ++ [onS d k s]) ∧ Below a.heap.size a J) := fun X J ho Q =>
                ⟨Fr.push (e2 := 27) (e1 := 3) (m := T) (u := .slice (some ⟨G.heap.size, 0, none⟩) (d + 1) (d + 1)) (zs := onS d k s) (by decide) g1 (V.alloc _) (fun i r => (g3 i r).alloc _) (q3.alloc _) ho Q,
                 (q2.alloc aO _).grown Q (by simp; omega) (fun x hx => (V.lt x hx).1)⟩
              clear q2 q3 g1 V g3 aH aJ bh
              go_wp2_with (first | (at_builtin; refine wpList_append_own _ rfl _ _ 22 rfl a.heap.size 27 i0 (.slice none 0 0) 1 24 Tryz.underlying22 r ay au ak rfl (by decide) _ _ _ rfl (G2.out.alloc _) ⟨O.heap.size, 0, none⟩ 1 1 [.slice (some ⟨G.heap.size, 0, none⟩) (d + 1) (d + 1)] rfl rfl (ZAS _ _ _) (ZAM _ _ _) ?d3 ?d4 ?d5 ?_))
              case d3 => unfold maxLen; omega
              case d4 => omega
              case d5 => simp; omega
              intro v2 w2 A aZ _;obtain ⟨q1, q2⟩ := S.out v2 w2 A aZ;rw [← aX.out] at q1;have aR:=hid q2;have aq := ZCw q1;obtain ⟨bq, bl, aT, _, _⟩ := ZAD aq
              obtain ⟨n2, aA⟩ : ∃ n2, n2 = (opR d rows k s).length := ⟨_, rfl⟩
              rw [← aA] at aT;subst aT
              have aW : (opR d rows k s).length ≤ 13 := by rw [aX.out, Zaa4]; simp; omega
              have aF : Hid (Calls Tryz.prog 42 #[.slice bq n2 bl, .int .i64 d] w2 fun e w' => e = .returned (.bool (ZBm d (opR d rows k s))) ∧ Below a.heap.size a w') := by
                refine (ZLD d (opR d rows k s) _ w2 aq bI bF aW (ZRk HC.out (by omega))).mono ?_
                rintro e w' ⟨rfl, hb⟩;exact ⟨rfl, aR.out.trans (hb.mono aR.out.size)⟩
              clear q1 q2 A aZ S G2 aq aW aA
              have aU : Hid (ZBm d (opR d rows k s) = false → opD d rows = true) := fun h => ZP6 hlt2 aK.out h
              have aN : Hid (ZBm d (opR d rows k s) = true → (s + 2 = -1 ∨ s + 2 = 1 ∧ ZBm d (opR d rows k (-1)) = true ∨ s + 2 = 3 ∧ ZBm d (opR d rows k (-1)) = true ∧ ZBm d (opR d rows k 1) = true)) := fun h => by
                rcases aK.out with e | e
                · rw [e] at h ⊢; exact .inr (.inl ⟨by decide, h⟩)
                · rw [e] at h ⊢; exact .inr (.inr ⟨by decide, bz.out e, h⟩)
              generalize ZBm d (opR d rows k s) = E at *
              have bU : IntKind.i64.wrap (s + 2) = s + 2 := by rw [IntKind.wrap_i64]; omega
              have bS : wrap64 (s + 2) = s + 2 := IntWalk.wrap64_in _ ⟨by omega, by omega⟩
              go_wp2_with fail
              refine aF.out.mono ?_;rintro e J ⟨rfl, aP⟩;have af:=hid aP;clear aP aF
              cases E with
              | false =>
                have HY := aU.out rfl;have bE:=hid HY;clear HY;go_wp2;go_ret
                exact ⟨by rw [bE.out]; rfl, HB.out.trans (af.out.mono R)⟩
              | true =>
                have aB : Hid (s + 2 = -1 ∨ s + 2 = 1 ∧ ZBm d (opR d rows k (-1)) = true ∨ s + 2 = 3 ∧ ZBm d (opR d rows k (-1)) = true ∧ ZBm d (opR d rows k 1) = true) := aN.out rfl;clear aN;go_wp2
                exact ⟨⟨s + 2, rfl, aB.out, af.out⟩, by simp [intOf]; omega⟩
        · have bw : k = d := by omega
          have bu : Hid (opD d rows = false) := ZRC (fun q hq => bg.out q (by omega))
          subst bw;go_wp2;go_ret
          exact ⟨by rw [bu.out]; rfl, HB.out.trans (aQ.out.mono R)⟩
end Go.Proofs.YtkjkfceblmgogaaGreat
