import Derived.Test.YtgfnmkenpgnllaaGreatHf9
import Derived.Test.YtgfnmkenpgnllaaGreatDsA
set_option maxRecDepth 100000
set_option maxHeartbeats 3200000
namespace Go.Proofs.YtgfnmkenpgnllaaGreat
open Lin
def stR(d:Nat)(r:List Int):List Int:=r.take d ++ [0]
def onS(d k:Nat)(s:Int):List Int:=(List.range (d+1)).map fun i=>if i=d then -1 else if i=k then s else 0
def opR(d:Nat)(rows:List (List Int))(k:Nat)(s:Int):List (List Int):=rows.map (stR d) ++ [onS d k s]
def opD(d:Nat)(rows:List (List Int)):Bool:=(List.range d).any fun k=>!ZBk d (opR d rows k (-1)) || !ZBk d (opR d rows k 1)
theorem ZL3{d:Nat}{r:List Int}(h:r.length=d+1):(stR d r).length=d+1:=by simp [stR,h]
theorem ZL4(d k:Nat)(s:Int):(onS d k s).length=d+1:=by simp [onS]
theorem ZL5{d i:Nat}{r:List Int}(h:r.length=d+1)(hi:i < d):V (stR d r) i=V r i:=by
 unfold V stR
 rw [Za2,Za7 (by simp [h]; omega),Zaa5 hi,←Za2]
theorem ZGH{d:Nat}{r:List Int}(h:r.length=d+1):V (stR d r) d=0:=by
 unfold V stR
 rw [Za2,Za8 (by simp [h])]
 simp [h]
theorem ZL6{d k:Nat}{s:Int}(hk:k < d)(x:Nat→Int):dot d (V (onS d k s)) x=s*x k:=by
 unfold dot
 rw [ZAs (k:=k) hk (fun i hi hne=>by simp [V,onS,show i < d+1 by omega,show ¬i=d by omega,hne])]
 simp [V,onS,show k < d+1 by omega,show ¬k=d by omega]
theorem ZI6{d k:Nat}{s:Int} : V (onS d k s) d=-1:=by simp [V,onS]
theorem ZL7{d k:Nat}{s:Int}{rows:List (List Int)}(hl:∀r∈rows,r.length=d+1):∀r∈opR d rows k s,r.length=d+1:=fun r hr=>by
 unfold opR at hr
 rcases List.mem_append.1 hr with h | h
 ·obtain ⟨q,a,rfl⟩:=List.mem_map.1 h
  exact ZL3 (hl q a)
 ·simp only [List.mem_singleton] at h
  rw [h]; exact ZL4 d k s
theorem ZL8{d i:Nat}{s:Int}(hi:i < d)(c:Nat→Int):dot d c (V (axG d i s))=s*c i:=by
 unfold dot
 rw [ZAs (k:=i) hi (fun j hj hne=>by simp [V,axG,hj,hne])]
 simp [V,axG,hi,Int.mul_comm]
theorem ZOV{d k:Nat}{s:Int}{rows:List (List Int)}(hl:∀r∈rows,r.length=d+1)(hk:k < d):ZBk d (opR d rows k s)=false↔ZAZ rows (axG d k (-s))=[]:=by
 rw [ZO8 (ZL7 hl),ZDZ,ZCQ,ZC0]
 constructor
 ·rintro ⟨x,w,j,b⟩
  refine ⟨x,fun r hr=>?_,?_⟩
  ·have:=b (stR d r) (by unfold opR; exact List.mem_append_left _ (List.mem_map.2 ⟨r,hr,rfl⟩))
   rw [ZGH (hl r hr),Int.zero_mul,ZAb (fun i hi=>ZL5 (hl r hr) hi) (fun _ _=>rfl)] at this
   rw [ZAV]; exact this
  ·have:=b (onS d k s) (by unfold opR; simp)
   rw [ZL6 hk,ZI6] at this;rw [ZL8 hk,Int.neg_mul];omega
 ·rintro ⟨c,f,g⟩
  rw [ZL8 hk,Int.neg_mul] at g
  refine ⟨c,-(s*c k),by omega,fun r hr=>?_⟩
  unfold opR at hr
  rcases List.mem_append.1 hr with h | h
  ·obtain ⟨q,a,rfl⟩:=List.mem_map.1 h
   rw [ZGH (hl q a),Int.zero_mul,ZAb (fun i hi=>ZL5 (hl q a) hi) (fun _ _=>rfl),ZAV]
   exact f q a
  ·simp only [List.mem_singleton] at h
   rw [h,ZL6 hk,ZI6];omega
theorem ZQi{d:Nat}{rows:List (List Int)}(hl:∀r∈rows,r.length=d+1):opD d rows=opB d rows:=by
 unfold opD opB;rw [Bool.eq_iff_iff,List.any_eq_true,List.any_eq_true]
 have f:∀k,k < d→((!ZBk d (opR d rows k (-1)) || !ZBk d (opR d rows k 1))=opI d rows k):=fun k c=>by
  have a:=ZOV (s:=-1) hl c;have b:=ZOV (s:=1) hl c;unfold opI
  rw [show -(-1:Int)=1 by decide] at a
  have i:(!ZBk d (opR d rows k (-1)))=(ZAZ rows (axG d k 1)).isEmpty:=by
   rw [Bool.eq_iff_iff,Bool.not_eq_true',List.isEmpty_iff]; exact a
  have g:(!ZBk d (opR d rows k 1))=(ZAZ rows (axG d k (-1))).isEmpty:=by
   rw [Bool.eq_iff_iff,Bool.not_eq_true',List.isEmpty_iff]; exact b
  rw [i,g]
 constructor
 ·rintro ⟨k,c,h⟩
  exact ⟨k,c,by rw [←f k (List.mem_range.1 c)]; exact h⟩
 ·rintro ⟨k,c,h⟩
  exact ⟨k,c,by rw [f k (List.mem_range.1 c)]; exact h⟩
end Go.Proofs.YtgfnmkenpgnllaaGreat
namespace Go.Proofs.YtgfnmkenpgnllaaGreat
open Go.RowKit
attribute [local go_sem ↓] Go.wp_at_zero Go.wp_at_succ
theorem ZQj{w:World}{d k:Nat}{s:Int}(hk:k < d)(hd:d≤100){o:Obj}(ho:o=.cells (((madeCells #[.int .i64 0] (d+1)).setIfInBounds k (.int .i64 s)).setIfInBounds d (.int .i64 (-1))) 3):Sl 0 3 (w.alloc o) (.slice (some ⟨w.heap.size,0,none⟩) (d+1) (d+1)) (ZAB (onS d k s)):=by
 subst ho;have c:=ZAM w (.cells (((madeCells #[.int .i64 0] (d+1)).setIfInBounds k (.int .i64 s)).setIfInBounds d (.int .i64 (-1))) 3)
 have a:(madeCells #[.int .i64 0] (d+1)).size=d+1:=by rw [←Array.length_toList,toList_madeCells_one]; simp
 have b:(w.alloc (.cells (((madeCells #[.int .i64 0] (d+1)).setIfInBounds k (.int .i64 s)).setIfInBounds d (.int .i64 (-1))) 3)).rowIs w.heap.size 3 (d+1) (fun j=>if j=d then .int .i64 (-1) else if j=k then .int .i64 s else .int .i64 0):=by
  refine ⟨_,c,?_,fun i hi=>?_⟩
  ·simp only [Array.size_setIfInBounds]
   exact a
  ·rw [Array.getElem?_setIfInBounds]
   by_cases e:d=i
   ·subst e
    simp [a]
   ·rw [if_neg e,Array.getElem?_setIfInBounds]
    by_cases e2:k=i
    ·subst e2
     have g:k < (madeCells #[.int .i64 0] (d+1)).size:=by rw [a]; omega
     simp [g,show ¬k=d from fun h=>e h.symm]
    ·rw [if_neg e2,←Array.getElem?_toList,toList_madeCells_one]
     simp [hi,show ¬i=k from fun h=>e2 h.symm,show ¬i=d from fun h=>e h.symm]
 refine Sl.row' b (by unfold maxLen; omega) (by simp [onS]) (fun i hi=>?_)
 rw [ZAa _ _ (by rw [ZL4]; exact hi)]
 have f:(onS d k s).getD i 0=if i=d then -1 else if i=k then s else 0:=by simp [onS,hi]
 rw [f]
 by_cases e:i=d
 ·simp [e]
 ·by_cases e2:i=k
  ·subst e2
   simp [e]
  ·simp [e,e2]
theorem ZPc{d i:Nat}{r:List Int}(h:r.length=d+1)(hi:i < d+1):(stR d r).getD i 0=if i=d then 0 else r.getD i 0:=by
 by_cases e:i=d
 ·rw [if_pos e,e]; exact ZGH h
 ·rw [if_neg e]; exact ZL5 h (by omega)
theorem ZPd{B:Nat}{W w1:World}{v0 v1:Value}{m:List (List Int)}{vs:List Value}(g1:vs.length=m.length)(g3:∀i,i < m.length→Sl 0 3 W (vs.getD i (.slice none 0 0)) (ZAB (m.getD i [])))(h0:W.ownsRow B 22 1 v0 0 [])(ho:w1.ownsRow B 22 1 v1 m.length vs)(hg:W.grownBy w1 v0.ownBlock):Fr B 22 3 w1 v1 m:=
 ⟨vs,g1,ho,fun i hi=>(g3 i hi).grown hg (fun k hk=>⟨Za5 _,(ZAz h0 (by decide) k hk).2⟩)⟩
theorem ZRG{d:Nat}{rows:List (List Int)}(hc:CutOk d rows){k:Nat}{s:Int}(hs:s.natAbs≤1):RwE d (opR d rows k s):=fun r hr=>by
 refine ⟨ZL7 hc.len r hr,fun z hz=>?_⟩
 unfold opR at hr
 rcases List.mem_append.1 hr with h | h
 ·obtain ⟨q,a,rfl⟩:=List.mem_map.1 h
  unfold stR at hz
  rcases List.mem_append.1 hz with h2 | h2
  ·have:=hc.bd q a z (Zaa7 h2); omega
  ·simp only [List.mem_singleton] at h2; rw [h2]; decide
 ·simp only [List.mem_singleton] at h
  rw [h] at hz;simp only [onS,List.mem_map] at hz;obtain ⟨i,_,rfl⟩:=hz
  split
  ·decide
  ·split
   ·omega
   ·decide
theorem ZPe{d k:Nat}{rows:List (List Int)}{s:Int}(hk:k < d)(hs:s=-1∨s=1)(h:ZBk d (opR d rows k s)=false):opD d rows=true:=by
 unfold opD;rw [List.any_eq_true];refine ⟨k,List.mem_range.2 hk,?_⟩
 rcases hs with rfl | rfl
 ·simp [h]
 ·simp [h]
theorem ZQk{d:Nat}{rows:List (List Int)}(h:∀q,q < d→ZBk d (opR d rows q (-1))=true∧ZBk d (opR d rows q 1)=true):opD d rows=false:=by
 unfold opD;rw [List.any_eq_false];intro q c;obtain ⟨a,b⟩:=h q (List.mem_range.1 c);simp [a,b]
theorem ZL9(d : Nat)(rows : List (List Int))(v : Value)(w : World)(hv : Mat 0 22 3 w v rows)(hc : CutOk d rows) :
    Calls Tryz.prog 29 #[v, .int .i64 d] w fun e w' => e = .returned (.bool (opD d rows)) ∧ Below w.heap.size w w' := by
  obtain ⟨i0, l, am, an, aw⟩ := info_parts Tryz.info22;obtain ⟨ro, rc, bE, bX, bU⟩ := ZAE hv;subst bE;have HV : Hid (Mat 0 22 3 w (.slice ro rows.length rc) rows) := hv;have HC:=hid hc;have bO := hc.n12;have bI := hc.d3;have bv := hc.d1;have ay : Hid ((rows.map (stR d)).length = rows.length) := Zab1 _
  have bj := run_make_row' (P := Tryz.prog) 22 3 (.int .i64 0) 8 Tryz.underlying22 Tryz.info3 rfl .i64 .i64 (d + 1) (by omega) (by omega)
  rw [show (((d + 1 : Nat) : Int)) = (d : Int) + 1 by omega] at bj
  clear hv hc;go_enter Tryz.func29, Tryz.ntmps29;go_wp2
  go_loopw [5, 6] (fun x i wr => ∃ p : Nat, p ≤ rows.length ∧ i = .int .i64 p ∧ Fr w.heap.size 22 3 wr x ((rows.map (stR d)).take p) ∧ Below w.heap.size w wr) (fun _ i _ => rows.length - (intOf i).toNat)
  case atStart => exact ⟨0, Za5 _, rfl, Fr.nil _ _ _ _, Below.refl _ _⟩
  case round =>
    obtain ⟨p, hp, rfl, aY, c⟩ := hrel
    obtain ⟨a, rfl⟩ : ∃ a, a = wr := ⟨_, rfl⟩
    have HB:=hid c;have HF:=hid aY;have Q : w.heap.size ≤ a.heap.size := c.size;clear c aY
    by_cases hlt : p < rows.length
    · have ar : Hid ((rows.map (stR d)).take (p + 1) = (rows.map (stR d)).take p ++ [stR d (rows.getD p [])]) := by
        show _ = _
        rw [Zaa1 (by rw [ay.out]; exact hlt)]
        simp [hlt]
      obtain ⟨b, o, cp, fv, hs, _, bW, ae⟩ := ZAP (HV.out.below HB.out (Za4 _)) hlt;simp only [Za3] at hs;obtain ⟨rfl, -, rfl⟩ := hs
      have az : rows.getD p [] ∈ rows := by rw [Za2, Za9 hlt]; exact List.getElem_mem _
      obtain ⟨y, hy⟩ : ∃ y, y = rows.getD p [] := ⟨_, rfl⟩
      rw [← hy] at ae az ar;clear hy;have R : Hid (y.length = d + 1) := HC.out.len y az;obtain ⟨yo, yc, aD, _, _⟩ := ZAH ae;rw [R.out] at aD;subst aD;have bz:=hid ae
      have bS : (p : Int) < (rows.length : Int) := by omega
      have bM : (0 : Int) ≤ (p : Int) := by omega
      clear ae az
      go_wp2_with fail
      refine (ZBh 0 y _ a bz.out (by rw [R.out]; omega)).mono ?_
      rintro e w2 ⟨u, rfl, D, aU⟩;rw [R.out] at D
      obtain ⟨g, gc, F, hu, U, r, hF, bG, bL⟩ := ZIm D (by omega)
      subst hu
      have ca := r.cell (i := d) (by omega)
      have cf := r.frozen d
      rw [hF d (by omega)] at ca
      have aj : Hid ((w2.setCell ⟨g, d, none⟩ (.int .i64 0)).rowIs g 3 gc (fun i => if i = d then .int .i64 0 else F i)) := r.set d _
      have aa : Hid (∀ Z, Sl Z 3 (w2.setCell ⟨g, d, none⟩ (.int .i64 0)) (.slice (some ⟨g, 0, none⟩) (d + 1) gc) (ZAB (stR d y))) := fun Z => ZCw aj.out (fun i l => by
        show (if i = d then Value.int .i64 0 else F i) = _
        rw [ZPc R.out l]
        by_cases e : i = d
        · rw [if_pos e, if_pos e]
        · rw [if_neg e, if_neg e, hF i l]) (ZL3 R.out) bG bL
      have A : Hid (Below a.heap.size a (w2.setCell ⟨g, d, none⟩ (.int .i64 0))) := ((Touch.refl _ _).setCell d _).below aU U;generalize y.getD d 0 = z at *
      have bK : (d : Int) < (d : Int) + 1 := by omega
      have aQ : (0 : Int) ≤ (d : Int) := by omega
      clear r hF D aU
      go_upto_region 7 with fail
      obtain ⟨f, j⟩ : ∃ f, f = w2.setCell ⟨g, d, none⟩ (.int .i64 0) := ⟨_, rfl⟩
      rw [← j] at aa A ⊢;clear j aj ca cf;have ai : Hid (Below w.heap.size w f) := HB.out.trans (A.out.mono Q)
      obtain ⟨M, hM⟩ : ∃ M, M = (rows.map (stR d)).take p := ⟨_, rfl⟩
      have bV : M.length ≤ 12 := by rw [hM, List.length_take]; omega
      rw [← hM] at HF ar;clear hM;obtain ⟨vs, g1, X, g3⟩ := HF.out.below A.out (Za4 _);have G2:=hid X;have n : w.heap.size ≤ f.heap.size := ai.out.size
      have N : Hid (∀ V J, J.ownsRow w.heap.size 22 1 V (M.length + 1) (vs ++ [.slice (some ⟨g, 0, none⟩) (d + 1) gc]) → (f.alloc (.cells #[.slice (some ⟨g, 0, none⟩) (d + 1) gc] 22)).grownBy J u5.ownBlock → Fr w.heap.size 22 3 J V (M ++ [stR d y]) ∧ Below w.heap.size w J) := fun V J ho U =>
        ⟨Fr.push (e2 := 22) (e1 := 3) (m := M) (u := .slice (some ⟨g, 0, none⟩) (d + 1) gc) (zs := stR d y) (by decide) g1 (X.alloc _) (fun i l => (g3 i l).alloc _) ((aa.out 0).alloc _) ho U,
         (ai.out.alloc n _).grown U (by simp; omega) (fun x hx => (X.lt x hx).1)⟩
      clear g1 X g3
      go_wp2_with (first | (at_builtin; refine wpList_append_own _ rfl _ _ 25 rfl w.heap.size 22 i0 (.slice none 0 0) 1 24 Tryz.underlying25 l am an aw rfl (by decide) _ _ _ rfl (G2.out.alloc _) ⟨f.heap.size, 0, none⟩ 1 1 [.slice (some ⟨g, 0, none⟩) (d + 1) gc] rfl rfl (ZAQ _ _ _) (ZAL _ _ _) ?d3 ?d4 ?d5 ?_))
      case d3 => unfold maxLen; omega
      case d4 => omega
      case d5 => simp; omega
      intro V w4 ho aV _;obtain ⟨q1, Y⟩ := N.out V w4 ho aV
      have R1 : Hid (Fr w.heap.size 22 3 w4 V ((rows.map (stR d)).take (p + 1))) := by show Fr _ _ _ _ _ _; rw [ar.out]; exact q1
      have R2:=hid Y;clear ho aV q1 Y N G2;go_wp2
      go_roundw
      case rel => exact ⟨p + 1, by omega, by go_num, R1.out, R2.out⟩
      case measure => simp [intOf]; omega
    · have bp : p = rows.length := by omega
      subst bp;have hf := HF.out
      rw [Zaa2 (by rw [ay.out]; exact Za4 _)] at hf
      obtain ⟨T, hT⟩ : ∃ T, T = rows.map (stR d) := ⟨_, rfl⟩
      have aB : Hid (∀ k s, opR d rows k s = T ++ [onS d k s]) := fun k s => by rw [hT]; rfl
      have bB : T.length = rows.length := by rw [hT]; exact ay.out
      rw [← hT] at hf;obtain ⟨t, t1, t2, t3⟩ := hf;obtain ⟨tO, tc, bl⟩ := ZAD t2;subst bl
      have bN : T.length ≤ 12 := by omega
      have T1:=hid t1
      have T3 : Hid (∀ W', Below a.heap.size a W' → Sl 0 22 W' (.slice tO T.length tc) t ∧ ∀ i, i < T.length → Sl 0 3 W' (t.getD i (.slice none 0 0)) (ZAB (T.getD i []))) := fun W' hB => ⟨(Sl.own (B := 0) t2).below hB (Za4 _), fun i l => (t3 i l).below hB (Za4 _)⟩
      have aZ : Hid (∀ u ∈ t, u.oneCell' = true) := ZEe (m := T) t1 t3
      clear HF hT bB t1 t2 t3;go_wp2
      go_loopw [8] (fun i wr => ∃ k : Nat, k ≤ d ∧ i = .int .i64 k ∧ (∀ q, q < k → ZBk d (opR d rows q (-1)) = true ∧ ZBk d (opR d rows q 1) = true) ∧ Below a.heap.size a wr) (fun i _ => d - (intOf i).toNat)
      case atStart => exact ⟨0, Za5 _, rfl, fun q hq => by omega, Below.refl _ _⟩
      case round =>
        obtain ⟨k, hk, rfl, aX, c⟩ := hrel
        obtain ⟨wb, rfl⟩ : ∃ wb, wb = wr := ⟨_, rfl⟩
        have aP:=hid c;have aG:=hid aX;clear c aX
        by_cases hlt2 : k < d
        · have bY : (k : Int) < (d : Int) := by omega
          have bR : (0 : Int) ≤ (k : Int) := by omega
          have bQ : (k : Int) < (d : Int) + 1 := by omega
          have bK : (d : Int) < (d : Int) + 1 := by omega
          have aQ : (0 : Int) ≤ (d : Int) := by omega
          go_wp2
          go_loopw [9] (fun i wr => ∃ s : Int, i = .int .i64 s ∧ (s = -1 ∨ s = 1 ∧ ZBk d (opR d rows k (-1)) = true ∨ s = 3 ∧ ZBk d (opR d rows k (-1)) = true ∧ ZBk d (opR d rows k 1) = true) ∧ Below a.heap.size a wr) (fun i _ => (3 - intOf i).toNat)
          case atStart => exact ⟨-1, rfl, .inl rfl, aP.out⟩
          case round =>
            obtain ⟨s, rfl, S, c⟩ := hrel
            obtain ⟨G, rfl⟩ : ∃ G, G = wr := ⟨_, rfl⟩
            have aF:=hid c;have aK : a.heap.size ≤ G.heap.size := c.size;clear c
            by_cases h3 : s = 3
            · have bD : Hid (ZBk d (opR d rows k (-1)) = true ∧ ZBk d (opR d rows k 1) = true) := by
                rcases S with h | ⟨h, _⟩ | ⟨_, h⟩
                · omega
                · omega
                · exact h
              subst h3;clear S;go_wp2
              exact ⟨⟨k + 1, by omega, by go_num, fun q hq => (by
                by_cases e : q = k
                · subst e; exact bD.out
                · exact aG.out q (by omega)), aF.out⟩, by simp [intOf]; omega⟩
            · have aC : s = -1 ∨ s = 1 := by
                rcases S with h | ⟨h, _⟩ | ⟨h, _⟩
                · exact .inl h
                · exact .inr h
                · exact absurd h h3
              have aL:=hid aC
              have bA : Hid (s = 1 → ZBk d (opR d rows k (-1)) = true) := fun e => by
                rcases S with h | ⟨_, h⟩ | ⟨h, _⟩
                · omega
                · exact h
                · exact absurd h h3
              have aT : s ≤ 1 := by omega
              have bP : -1 ≤ s := by omega
              have cd : decide (s ≤ 1) = true := decide_eq_true aT;clear S h3 aC
              have bF : (madeCells #[.int .i64 0] (d + 1))[k]? = some (.int .i64 0) := by
                rw [← Array.getElem?_toList, toList_madeCells_one, List.getElem?_replicate, if_pos (by omega)]
              have bu : ((madeCells #[.int .i64 0] (d + 1)).setIfInBounds k (.int .i64 s))[d]? = some (.int .i64 0) := by
                rw [Array.getElem?_setIfInBounds, if_neg (by omega), ← Array.getElem?_toList, toList_madeCells_one, List.getElem?_replicate, if_pos (by omega)]
              obtain ⟨f, j⟩ : ∃ f, f = G.alloc (.cells (((madeCells #[.int .i64 0] (d + 1)).setIfInBounds k (.int .i64 s)).setIfInBounds d (.int .i64 (-1))) 3) := ⟨_, rfl⟩
              have aa : Hid (Sl 0 3 f (.slice (some ⟨G.heap.size, 0, none⟩) (d + 1) (d + 1)) (ZAB (onS d k s))) := by rw [j]; exact ZQj hlt2 (by omega) rfl
              have A : Hid (Below G.heap.size G f) := by rw [j]; exact ZAG _ _
              go_upto_region 17 with fail
              rw [← j];clear j bF bu;have ah : Hid (Below a.heap.size a f) := aF.out.trans (A.out.mono aK);have n : a.heap.size ≤ f.heap.size := ah.out.size;have af : Hid ((f.alloc (.cells #[] 22)).ownsRow a.heap.size 22 1 (.slice (some ⟨f.heap.size, 0, none⟩) 0 0) 0 []) := ZCK f a.heap.size n;have aq : Hid (Below f.heap.size f (f.alloc (.cells #[] 22))) := ZAG _ _;have L : Hid (Below a.heap.size a (f.alloc (.cells #[] 22))) := ah.out.trans (aq.out.mono n)
              have bC : Hid (Sl 0 22 (f.alloc (.cells #[] 22)) (.slice tO T.length tc) t) := (T3.out _ L.out).1
              have ag : Hid (a.heap.size ≤ (f.alloc (.cells #[] 22)).heap.size) := by show _ ≤ _; rw [size_alloc]; omega
              have aN : Hid (∀ v1 O, O.ownsRow a.heap.size 22 1 v1 T.length t → (f.alloc (.cells #[] 22)).grownBy O (Value.slice (some ⟨f.heap.size, 0, none⟩) 0 0).ownBlock → Fr a.heap.size 22 3 O v1 T ∧ Below a.heap.size a O ∧ Sl 0 3 O (.slice (some ⟨G.heap.size, 0, none⟩) (d + 1) (d + 1)) (ZAB (onS d k s))) := fun v1 O ho U => by
                refine ⟨ZPd T1.out (fun i l => (T3.out _ L.out).2 i l) af.out ho U, L.out.grown U ag.out (fun x hx => (af.out.lt x hx).1), ?_⟩
                exact (aa.out.below aq.out (Za4 _)).grown U (fun k hk => ⟨Za5 _, (ZAz af.out (by decide) k hk).2⟩)
              clear A aq
              go_wp2_with (first | (at_builtin; refine ZDF rfl _ _ 25 rfl a.heap.size 22 i0 (.slice none 0 0) 24 Tryz.underlying25 l am an aw rfl _ 0 [] rfl af.out tO T.length tc t rfl bC.out aZ.out ?d3 ?d4 ag.out ?_))
              case d3 => unfold maxLen; omega
              case d4 => omega
              intro v1 O aE aJ;obtain ⟨q1, Y, q3⟩ := aN.out v1 O aE aJ;obtain ⟨vs, g1, X, g3⟩ := q1;obtain ⟨vo, vc, bt⟩ := ZAD X;subst bt;have G2:=hid X;have bi : a.heap.size ≤ O.heap.size := Y.size
              have N : Hid (∀ V J, J.ownsRow a.heap.size 22 1 V (T.length + 1) (vs ++ [.slice (some ⟨G.heap.size, 0, none⟩) (d + 1) (d + 1)]) → (O.alloc (.cells #[.slice (some ⟨G.heap.size, 0, none⟩) (d + 1) (d + 1)] 22)).grownBy J (Value.slice vo T.length vc).ownBlock → Fr a.heap.size 22 3 J V (T ++ [onS d k s]) ∧ Below a.heap.size a J) := fun V J ho U =>
                ⟨Fr.push (e2 := 22) (e1 := 3) (m := T) (u := .slice (some ⟨G.heap.size, 0, none⟩) (d + 1) (d + 1)) (zs := onS d k s) (by decide) g1 (X.alloc _) (fun i l => (g3 i l).alloc _) (q3.alloc _) ho U,
                 (Y.alloc bi _).grown U (by simp; omega) (fun x hx => (X.lt x hx).1)⟩
              clear Y q3 g1 X g3 aE aJ aN
              go_wp2_with (first | (at_builtin; refine wpList_append_own _ rfl _ _ 25 rfl a.heap.size 22 i0 (.slice none 0 0) 1 24 Tryz.underlying25 l am an aw rfl (by decide) _ _ _ rfl (G2.out.alloc _) ⟨O.heap.size, 0, none⟩ 1 1 [.slice (some ⟨G.heap.size, 0, none⟩) (d + 1) (d + 1)] rfl rfl (ZAQ _ _ _) (ZAL _ _ _) ?d3 ?d4 ?d5 ?_))
              case d3 => unfold maxLen; omega
              case d4 => omega
              case d5 => simp; omega
              intro v2 w2 D aS _;obtain ⟨q1, Y⟩ := N.out v2 w2 D aS;rw [← aB.out] at q1;have aM:=hid Y;have au := ZB7 q1;obtain ⟨bq, bJ, aR, _, _⟩ := ZAE au
              obtain ⟨n2, aI⟩ : ∃ n2, n2 = (opR d rows k s).length := ⟨_, rfl⟩
              rw [← aI] at aR;subst aR
              have bg : (opR d rows k s).length ≤ 13 := by rw [aB.out, Zaa4]; simp; omega
              have bh : Hid (Calls Tryz.prog 47 #[.slice bq n2 bJ, .int .i64 d] w2 fun e w' => e = .returned (.bool (ZBk d (opR d rows k s))) ∧ Below a.heap.size a w') := by
                refine (ZKw d (opR d rows k s) _ w2 au bv bI bg (ZRG HC.out (by omega))).mono ?_
                rintro e w' ⟨rfl, hb⟩;exact ⟨rfl, aM.out.trans (hb.mono aM.out.size)⟩
              clear q1 Y D aS N G2 au bg aI
              have aW : Hid (ZBk d (opR d rows k s) = false → opD d rows = true) := fun h => ZPe hlt2 aL.out h
              have aA : Hid (ZBk d (opR d rows k s) = true → (s + 2 = -1 ∨ s + 2 = 1 ∧ ZBk d (opR d rows k (-1)) = true ∨ s + 2 = 3 ∧ ZBk d (opR d rows k (-1)) = true ∧ ZBk d (opR d rows k 1) = true)) := fun h => by
                rcases aL.out with e | e
                · rw [e] at h ⊢; exact .inr (.inl ⟨by decide, h⟩)
                · rw [e] at h ⊢; exact .inr (.inr ⟨by decide, bA.out e, h⟩)
              generalize ZBk d (opR d rows k s) = E at *
              have bZ : IntKind.i64.wrap (s + 2) = s + 2 := by rw [IntKind.wrap_i64]; omega
              have bT : wrap64 (s + 2) = s + 2 := IntWalk.wrap64_in _ ⟨by omega, by omega⟩
              go_wp2_with fail
              refine bh.out.mono ?_;rintro e J ⟨rfl, aO⟩;have ak:=hid aO;clear aO bh
              cases E with
              | false =>
                have HY := aW.out rfl;have bw:=hid HY;clear HY;go_wp2;go_ret
                exact ⟨by rw [bw.out]; rfl, HB.out.trans (ak.out.mono Q)⟩
              | true =>
                have aH : Hid (s + 2 = -1 ∨ s + 2 = 1 ∧ ZBk d (opR d rows k (-1)) = true ∨ s + 2 = 3 ∧ ZBk d (opR d rows k (-1)) = true ∧ ZBk d (opR d rows k 1) = true) := aA.out rfl;clear aA;go_wp2
                exact ⟨⟨s + 2, rfl, aH.out, ak.out⟩, by simp [intOf]; omega⟩
        · have bH : k = d := by omega
          have bk : Hid (opD d rows = false) := ZQk (fun q hq => aG.out q (by omega))
          subst bH;go_wp2;go_ret
          exact ⟨by rw [bk.out]; rfl, HB.out.trans (aP.out.mono Q)⟩
end Go.Proofs.YtgfnmkenpgnllaaGreat
