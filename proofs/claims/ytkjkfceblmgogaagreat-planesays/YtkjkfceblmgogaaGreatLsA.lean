import Derived.Test.YtkjkfceblmgogaaGreatEz9
import Derived.Test.YtkjkfceblmgogaaGreatEzG
set_option maxRecDepth 100000
set_option maxHeartbeats 8000000
namespace Go.Proofs.YtkjkfceblmgogaaGreat
open Go.RowKit
attribute [local go_sem ↓] Go.wp_at_zero Go.wp_at_succ
theorem ZHT(B:Nat)(m:List (List Int))(v:Value)(w:World)(hv:Mat B 27 3 w v m) :
  Calls Tryz.prog 4 #[v] w fun e w'=>∃b,e=.returned (.bool b)∧(b=false→m.length≤300)∧w'=w:=by
 obtain ⟨F,f,d,E,x⟩:=ZAD hv;subst d;have r:Hid (Mat B 27 3 w (.slice F m.length f) m):=hv;clear hv
 by_cases h1:300 < m.length
 ·have A:decide ((300:Int) < (m.length:Int))=true:=decide_eq_true (by omega)
  go_enter Tryz.func4,Tryz.ntmps4;go_wp2;go_ret
  exact ⟨true,rfl,(fun h=>absurd h (by decide)),rfl⟩
 ·have A:decide ((300:Int) < (m.length:Int))=false:=decide_eq_false (by omega)
  have y:Hid (m.length≤300):=by show _≤_; omega
  go_enter Tryz.func4,Tryz.ntmps4;go_wp2
  go_loopw [3,4] (fun n i wr=>∃t s:Nat,t≤m.length∧s≤300*t∧n=.int .i64 s∧i=.int .i64 t∧wr=w) (fun _ i _=>m.length-(intOf i).toNat)
  case atStart=>exact ⟨0,0,Za5 _,Za4 _,rfl,rfl,rfl⟩
  case round=>
   obtain ⟨t,s,G,c,rfl,rfl,rfl⟩:=hrel
   by_cases htn:t < m.length
   ·obtain ⟨b,o,J,u,c,_,D,g⟩:=ZAP r.out htn
    simp only [Za3,true_and] at c;obtain ⟨rfl,rfl⟩:=c;obtain ⟨L,M,a,j,z⟩:=ZAI g;subst a;generalize (m.getD t []).length=l at *;clear g
    by_cases hl:300 < l
    ·have p:decide ((300:Int) < (l:Int))=true:=decide_eq_true (by omega)
     go_wp2;go_ret
     exact ⟨true,rfl,(fun h=>absurd h (by decide)),rfl⟩
    ·have p:decide ((300:Int) < (l:Int))=false:=decide_eq_false (by omega)
     go_wp2
     go_roundw
     case rel=>exact ⟨t+1,s+l,by omega,by omega,by go_num,by go_num,trivial⟩
     case measure=>simp [intOf]; omega
   ·go_wp2
    go_ret
    exact ⟨_,rfl,fun _=>y.out,rfl⟩
theorem ZMh(B:Nat)(x:List Int)(u v:Value)(w:World)(hu:Sl B 3 w u (ZAB x))(hv:Sl B 3 w v (ZAB x)) :
  Calls Tryz.prog 17 #[u,.int .i64 0,v,.int .i64 0] w fun x w'=>x=.returned (.bool true)∧Below w.heap.size w w':=by
 obtain ⟨g,i,rfl,_,_⟩:=ZAI hu;obtain ⟨f,d,rfl,_,_⟩:=ZAI hv;have b:=hid hu;have c:Hid (Sl B 3 w (.slice f x.length d) (ZAB x)):=hv;clear hu hv;go_enter Tryz.func17,Tryz.ntmps17
 go_wp2_with fail
 refine (ZFg B x x _ _ w b.out c.out).mono ?_;rintro e w' ⟨rfl,n,rfl⟩
 have a:(x == x)=true:=by simp
 rw [a];go_wp2;go_ret
 exact ⟨rfl,⟨rfl,rfl,rfl,Za4 _,fun _ _=>rfl⟩⟩
end Go.Proofs.YtkjkfceblmgogaaGreat
namespace Go.Proofs.YtkjkfceblmgogaaGreat
open Go.RowKit Lin
attribute [local go_sem ↓] Go.wp_at_zero Go.wp_at_succ
theorem ZIY(B:Nat)(x:List (List Int))(u v:Value)(w:World)(hu:Mat B 27 3 w u x)(hv:Mat B 27 3 w v x) :
  Calls Tryz.prog 16 #[u,.int .i64 0,v,.int .i64 0] w fun x w'=>x=.returned (.bool true)∧Below w.heap.size w w':=by
 obtain ⟨g,i,rfl,_,_⟩:=ZAD hu;obtain ⟨f,d,rfl,_,_⟩:=ZAD hv;have b:=hid hu;have c:Hid (Mat B 27 3 w (.slice f x.length d) x):=hv;clear hu hv;go_enter Tryz.func16,Tryz.ntmps16
 go_wp2_with fail
 refine (ZHV B x x _ _ w b.out c.out).mono ?_;rintro e w' ⟨rfl,n,rfl⟩
 have a:(x == x)=true:=by simp
 rw [a];go_wp2;go_ret
 exact ⟨rfl,⟨rfl,rfl,rfl,Za4 _,fun _ _=>rfl⟩⟩
theorem ZHU{B0:Nat}(d:Nat)(P:List (List Int))(v:Value)(w:World)(hd1:1≤d)(hd3:d≤3)(hG:PlG d P)(h5:P.length≤6)(hv:Mat B0 27 3 w v P) :
  Calls Tryz.prog 3 #[.int .i64 d,v] w fun e w'=>e=.returned (.bool true)∧Below w.heap.size w w':=by
 obtain ⟨ro,rc,dt,du,dv⟩:=ZAD hv;subst dt
 have cG:∀p∈P,p.length=d+1∧∀z∈p,z.natAbs≤20:=hG.row
 have cZ:Hid (Calls Tryz.prog 4 #[.slice ro P.length rc] w fun e w'=>∃b,e=.returned (.bool b)∧w'=w):=by
  refine (ZHT _ P _ w hv).mono ?_;rintro e w' ⟨b,rfl,_,rfl⟩;exact ⟨b,rfl,rfl⟩
 have S0:Hid (∀X,Below w.heap.size w X→Calls Tryz.prog 5 #[.int .i64 d,.slice ro P.length rc] X fun e w'=>e=.returned (.int .i64 0)∧Below X.heap.size X w'):=fun X hX=>ZGF d P _ X hd1 hd3 hG (by omega) (hv.below hX (Za4 _))
 obtain ⟨f,aL⟩:∃f,f=ZBi d P P.length:=⟨_,rfl⟩
 obtain ⟨g,cI⟩:∃g,g=f.filter fun t=>!opB d (clR P t):=⟨_,rfl⟩
 obtain ⟨o,bZ⟩:∃o,o=(List.range (d+1)).map (whC d P):=⟨_,rfl⟩
 have dq:o.length=d+1:=by rw [bZ]; simp
 obtain ⟨TL,cL⟩:∃TL,TL=grT d P P.length:=⟨_,rfl⟩
 have S1:Hid (∀X,Below w.heap.size w X→Calls Tryz.prog 6 #[.int .i64 d,.slice ro P.length rc,.string ⟨#[43,45]⟩,.string ⟨#[]⟩] X fun e w'=>∃l j,e=.returned (.slice l f.length j)∧Sl 0 9 w' (.slice l f.length j) (ZAe f)∧Below X.heap.size X w'):=fun X hX=>by
  refine (ZEt d P [43,45] ⟨#[43,45]⟩ _ cG hd1 hd3 (by omega) (by simp) (by simp) (.inl (by simp)) rfl P.length [] ⟨#[]⟩ X (by simp) (by simp) rfl (hv.below hX (Za4 _))).mono ?_
  rintro e w' ⟨x,rfl,ho,a⟩;rw [ZQ9,←aL] at ho;obtain ⟨l,j,rfl⟩:=ZAE ho;exact ⟨l,j,rfl,Sl.own ho,a⟩
 have cX:∀t∈f,t.length=P.length∧∀c∈t,c=43∨c=45:=fun t ht=>by
  rw [aL] at ht;obtain ⟨⟨h1,_⟩,h2⟩:=ZCy.1 ht;exact ⟨h1,h2⟩
 have cS:f.length≤100000:=by rw [aL]; exact Zaa8 (ZGM d P P.length) (Zaa8 (Nat.pow_le_pow_right (by decide) h5) (by decide))
 have S2:Hid (∀X l j,Below w.heap.size w X→Sl 0 9 X (.slice l f.length j) (ZAe f)→Calls Tryz.prog 7 #[.int .i64 d,.slice ro P.length rc,.slice l f.length j] X fun e w'=>∃Y T,e=.returned (.slice Y g.length T)∧Sl 0 9 w' (.slice Y g.length T) (ZAe g)∧Below X.heap.size X w'):=fun X l j hX hx=>by
  refine (ZGP d P f _ _ X (hv.below hX (Za4 _)) hx hG.row hd1 hd3 (by omega) cX cS).mono ?_
  rintro e w' ⟨x,rfl,ho,a⟩;rw [←cI] at ho;obtain ⟨Y,T,rfl⟩:=ZAE ho;exact ⟨Y,T,rfl,Sl.own ho,a⟩
 have S3:Hid (∀X,Below w.heap.size w X→Calls Tryz.prog 8 #[.int .i64 d,.slice ro P.length rc] X fun e w'=>∃U V O rv,e=.returned (.tuple #[.slice U (List.length O) V,rv])∧Mat 0 27 3 w' (.slice U (List.length O) V) O∧FlQ d P (d+1) O∧Below X.heap.size X w'):=fun X hX=>by
  refine (ZFB d P _ X (hv.below hX (Za4 _)) hG.row hd1 hd3 (by omega)).mono ?_
  rintro e w' ⟨ov,rv,O,rfl,hf,hq,a⟩;have hm:=hf.mat0;obtain ⟨U,V,rfl,_,_⟩:=ZAD hm;exact ⟨U,V,O,rv,rfl,hm,hq,a⟩
 have S4:Hid (∀X,Below w.heap.size w X→Calls Tryz.prog 9 #[.int .i64 d,.slice ro P.length rc] X fun e w'=>∃co cc,e=.returned (.slice co (d+1) cc)∧Sl 0 3 w' (.slice co (d+1) cc) (ZAB o)∧Below X.heap.size X w'):=fun X hX=>by
  rw [bZ]
  exact ZJ3 d P _ X (hv.below hX (Za4 _)) hG.row hd1 hd3 (by omega)
 have S5:Hid (∀X,Below w.heap.size w X→Calls Tryz.prog 10 #[.int .i64 d,.slice ro P.length rc] X fun e w'=>∃m n,e=.returned (.tuple #[.slice m f.length n,.int .i64 0])∧Sl 0 9 w' (.slice m f.length n) (ZAe f)∧Below X.heap.size X w'):=fun X hX=>by
  rw [aL]
  refine (ZEw d P _ X hd1 hd3 hG (by omega) (hv.below hX (Za4 _))).mono ?_
  rintro e w' ⟨m,n,rfl,ho,a⟩;exact ⟨m,n,rfl,Sl.own ho,a⟩
 have S6:Hid (∀X,Below w.heap.size w X→Calls Tryz.prog 11 #[.int .i64 d,.slice ro P.length rc] X fun e w'=>∃m n,e=.returned (.tuple #[.slice m g.length n,.int .i64 0])∧Sl 0 9 w' (.slice m g.length n) (ZAe g)∧Below X.heap.size X w'):=fun X hX=>by
  rw [cI,aL]
  exact ZHL d P _ X hd1 hd3 hG (by omega) (hv.below hX (Za4 _))
 have S7:Hid (∀X O',FlQ d P (d+1) O'→Below w.heap.size w X→Calls Tryz.prog 12 #[.int .i64 d,.slice ro P.length rc] X fun e w'=>∃m n,e=.returned (.tuple #[.slice m O'.length n,.int .i64 0])∧Mat 0 27 3 w' (.slice m O'.length n) O'∧Below X.heap.size X w'):=fun X O' hO hX=>by
  refine (ZEz d P _ X hd1 hd3 hG h5 (hv.below hX (Za4 _))).mono ?_;rintro e w' ⟨m,ul,n,rfl,⟨O,hm,dg⟩,a⟩;have dr:=dg O' hO;subst dr;obtain ⟨U,V,hh,_,_⟩:=ZAD hm;simp only [Za3] at hh;obtain ⟨rfl,rfl,rfl⟩:=hh;exact ⟨_,_,rfl,hm,a⟩
 have S8:Hid (∀X,Below w.heap.size w X→Calls Tryz.prog 13 #[.int .i64 d,.slice ro P.length rc] X fun e w'=>∃co cc,e=.returned (.tuple #[.slice co (d+1) cc,.int .i64 0])∧Sl 0 3 w' (.slice co (d+1) cc) (ZAB o)∧Below X.heap.size X w'):=fun X hX=>by
  rw [bZ];exact ZOI d P _ X hd1 hd3 hG h5 (hv.below hX (Za4 _))
 have S9:Hid (∀X,Below w.heap.size w X→Calls Tryz.prog 14 #[.int .i64 d,.slice ro P.length rc] X fun e w'=>e=.returned (.int .i64 0)∧Below X.heap.size X w'):=fun X hX=>ZBJ d P _ X hd1 hd3 hG (by omega) (hv.below hX (Za4 _))
 have SA:Hid (P.length≤4→∀X,Below w.heap.size w X→Calls Tryz.prog 6 #[.int .i64 d,.slice ro P.length rc,.string ⟨#[43,45,48]⟩,.string ⟨#[]⟩] X fun e w'=>∃l j,e=.returned (.slice l TL.length j)∧Sl 0 9 w' (.slice l TL.length j) (ZAe TL)∧Below X.heap.size X w'):=fun h4 X hX=>by
  refine (ZEt d P [43,45,48] ⟨#[43,45,48]⟩ _ cG hd1 hd3 (by omega) (by simp) (by simp) (.inr h4) rfl P.length [] ⟨#[]⟩ X (by simp) (by simp) rfl (hv.below hX (Za4 _))).mono ?_
  rintro e w' ⟨x,rfl,ho,a⟩;rw [ZQ8,←cL] at ho;obtain ⟨l,j,rfl⟩:=ZAE ho;exact ⟨l,j,rfl,Sl.own ho,a⟩
 have SB:Hid (∀X,Below w.heap.size w X→Calls Tryz.prog 18 #[.int .i64 d,.slice ro P.length rc] X fun e w'=>∃m n,e=.returned (.tuple #[.slice m TL.length n,.int .i64 0])∧Sl 0 9 w' (.slice m TL.length n) (ZAe TL)∧Below X.heap.size X w'):=fun X hX=>by
  rw [cL]
  exact ZLd d P _ X hd1 hd3 hG (by omega) (hv.below hX (Za4 _))
 have TX:Hid (∀(x:List (List UInt8)) X m n vo vc,Sl 0 9 X (.slice m x.length n) (ZAe x)→Sl 0 9 X (.slice vo x.length vc) (ZAe x)→Calls Tryz.prog 15 #[.slice m x.length n,.int .i64 0,.slice vo x.length vc,.int .i64 0] X fun e w'=>e=.returned (.bool true)∧Below X.heap.size X w'):=fun x X m n vo vc h1 h2=>ZJ4 x _ _ X h1 h2
 have LL:Hid (∀(x:List (List Int)) X m n vo vc,Mat 0 27 3 X (.slice m x.length n) x→Mat 0 27 3 X (.slice vo x.length vc) x→Calls Tryz.prog 16 #[.slice m x.length n,.int .i64 0,.slice vo x.length vc,.int .i64 0] X fun e w'=>e=.returned (.bool true)∧Below X.heap.size X w'):=fun x X m n vo vc h1 h2=>ZIY 0 x _ _ X h1 h2
 have LI:Hid (∀X m n vo vc,Sl 0 3 X (.slice m (d+1) n) (ZAB o)→Sl 0 3 X (.slice vo (d+1) vc) (ZAB o)→Calls Tryz.prog 17 #[.slice m (d+1) n,.int .i64 0,.slice vo (d+1) vc,.int .i64 0] X fun e w'=>e=.returned (.bool true)∧Below X.heap.size X w'):=fun X m n vo vc h1 h2=>ZMh 0 o _ _ X h1 h2
 clear hv hG cG cX cS aL cI bZ cL dq;go_enter Tryz.func3,Tryz.ntmps3
 go_wp2_with fail
 refine cZ.out.mono ?_;rintro e w0 ⟨b,rfl,cY⟩;obtain rfl:=cY.symm;clear cY cZ
 cases b with
 | true=>
  go_wp2;go_ret;exact ⟨rfl,Below.refl _ _⟩
 | false=>
  have da:=S0.out w (Below.refl _ _)
  go_wp2_with fail
  refine da.mono ?_;rintro e z1 ⟨rfl,a⟩;have aY:=hid a;clear a da;have cO:=S1.out z1 aY.out
  go_wp2_with fail
  refine cO.mono ?_;rintro e z2 ⟨l,j,rfl,i,a⟩;have bt:Hid (Below w.heap.size w z2):=aY.out.trans (a.mono aY.out.size);have ae:=hid i;clear a cO i;have cW:=S2.out z2 l j bt.out ae.out
  go_wp2_with fail
  refine cW.mono ?_;rintro e z3 ⟨Y,T,rfl,i,a⟩;have aP:Hid (Below w.heap.size w z3):=bt.out.trans (a.mono bt.out.size);have bA:Hid (Sl 0 9 z3 (.slice l f.length j) (ZAe f)):=ae.out.below a (Za4 _);have bj:=hid i;clear a cW i;clear ae;have dc:=S3.out z3 aP.out
  go_wp2_with fail
  refine dc.mono ?_;rintro e z4 ⟨U,V,O,rv,rfl,i,hq,a⟩;have bT:Hid (Below w.heap.size w z4):=aP.out.trans (a.mono aP.out.size);have bg:Hid (Sl 0 9 z4 (.slice l f.length j) (ZAe f)):=bA.out.below a (Za4 _);have bQ:Hid (Sl 0 9 z4 (.slice Y g.length T) (ZAe g)):=bj.out.below a (Za4 _);have bU:=hid i;clear a dc i;clear bA;clear bj;have HQ:=hid hq;clear hq;have cQ:=S4.out z4 bT.out
  go_wp2_with fail
  refine cQ.mono ?_;rintro e z5 ⟨co,cc,rfl,i,a⟩;have bi:Hid (Below w.heap.size w z5):=bT.out.trans (a.mono bT.out.size);have bH:Hid (Sl 0 9 z5 (.slice l f.length j) (ZAe f)):=bg.out.below a (Za4 _);have bF:Hid (Sl 0 9 z5 (.slice Y g.length T) (ZAe g)):=bQ.out.below a (Za4 _);have bD:Hid (Mat 0 27 3 z5 (.slice U O.length V) O):=bU.out.below a (Za4 _);have bL:=hid i;clear a cQ i
  clear bg;clear bQ;clear bU;have cT:=S5.out z5 bi.out
  go_wp2_with fail
  refine cT.mono ?_;rintro e z6 ⟨ao,ac,rfl,i,a⟩;have aU:Hid (Below w.heap.size w z6):=bi.out.trans (a.mono bi.out.size);have bv:Hid (Sl 0 9 z6 (.slice l f.length j) (ZAe f)):=bH.out.below a (Za4 _);have aT:Hid (Sl 0 9 z6 (.slice Y g.length T) (ZAe g)):=bF.out.below a (Za4 _);have aR:Hid (Mat 0 27 3 z6 (.slice U O.length V) O):=bD.out.below a (Za4 _);have aX:Hid (Sl 0 3 z6 (.slice co (d+1) cc) (ZAB o)):=bL.out.below a (Za4 _)
  have aN:=hid i;clear a cT i;clear bH;clear bF;clear bD;clear bL;have cP:=S6.out z6 aU.out
  go_wp2_with fail
  refine cP.mono ?_;rintro e z7 ⟨bo,bc,rfl,i,a⟩;have aS:Hid (Below w.heap.size w z7):=aU.out.trans (a.mono aU.out.size);have bS:Hid (Sl 0 9 z7 (.slice l f.length j) (ZAe f)):=bv.out.below a (Za4 _);have bR:Hid (Sl 0 9 z7 (.slice Y g.length T) (ZAe g)):=aT.out.below a (Za4 _);have bw:Hid (Mat 0 27 3 z7 (.slice U O.length V) O):=aR.out.below a (Za4 _);have bM:Hid (Sl 0 3 z7 (.slice co (d+1) cc) (ZAB o)):=aX.out.below a (Za4 _)
  have bP:Hid (Sl 0 9 z7 (.slice ao f.length ac) (ZAe f)):=aN.out.below a (Za4 _);have aQ:=hid i;clear a cP i;clear bv;clear aT;clear aR;clear aX;clear aN;have cV:=S7.out z7 O HQ.out aS.out
  go_wp2_with fail
  refine cV.mono ?_;rintro e z8 ⟨po,pc,rfl,i,a⟩;have bJ:Hid (Below w.heap.size w z8):=aS.out.trans (a.mono aS.out.size);have aW:Hid (Sl 0 9 z8 (.slice l f.length j) (ZAe f)):=bS.out.below a (Za4 _);have bu:Hid (Sl 0 9 z8 (.slice Y g.length T) (ZAe g)):=bR.out.below a (Za4 _);have bk:Hid (Mat 0 27 3 z8 (.slice U O.length V) O):=bw.out.below a (Za4 _);have bC:Hid (Sl 0 3 z8 (.slice co (d+1) cc) (ZAB o)):=bM.out.below a (Za4 _)
  have bN:Hid (Sl 0 9 z8 (.slice ao f.length ac) (ZAe f)):=bP.out.below a (Za4 _);have bV:Hid (Sl 0 9 z8 (.slice bo g.length bc) (ZAe g)):=aQ.out.below a (Za4 _);have bO:=hid i;clear a cV i;clear bS;clear bR;clear bw;clear bM;clear bP;clear aQ;have cR:=S8.out z8 bJ.out
  go_wp2_with fail
  refine cR.mono ?_;rintro e z9 ⟨qo,qc,rfl,i,a⟩;have bp:Hid (Below w.heap.size w z9):=bJ.out.trans (a.mono bJ.out.size);have aO:Hid (Sl 0 9 z9 (.slice l f.length j) (ZAe f)):=aW.out.below a (Za4 _);have bq:Hid (Sl 0 9 z9 (.slice Y g.length T) (ZAe g)):=bu.out.below a (Za4 _);have aZ:Hid (Mat 0 27 3 z9 (.slice U O.length V) O):=bk.out.below a (Za4 _);have bz:Hid (Sl 0 3 z9 (.slice co (d+1) cc) (ZAB o)):=bC.out.below a (Za4 _)
  have bI:Hid (Sl 0 9 z9 (.slice ao f.length ac) (ZAe f)):=bN.out.below a (Za4 _);have bh:Hid (Sl 0 9 z9 (.slice bo g.length bc) (ZAe g)):=bV.out.below a (Za4 _);have bE:Hid (Mat 0 27 3 z9 (.slice po O.length pc) O):=bO.out.below a (Za4 _);have bB:=hid i;clear a cR i;clear aW;clear bu;clear bk;clear bC;clear bN;clear bV;clear bO;have cw:=S9.out z9 bp.out
  go_wp2_with fail
  refine cw.mono ?_;rintro e y ⟨rfl,a⟩;have bl:Hid (Below w.heap.size w y):=bp.out.trans (a.mono bp.out.size);have N:Hid (Sl 0 9 y (.slice l f.length j) (ZAe f)):=aO.out.below a (Za4 _);have aj:Hid (Sl 0 9 y (.slice Y g.length T) (ZAe g)):=bq.out.below a (Za4 _);have aB:Hid (Mat 0 27 3 y (.slice U O.length V) O):=aZ.out.below a (Za4 _);have aA:Hid (Sl 0 3 y (.slice co (d+1) cc) (ZAB o)):=bz.out.below a (Za4 _)
  have E:Hid (Sl 0 9 y (.slice ao f.length ac) (ZAe f)):=bI.out.below a (Za4 _);have aC:Hid (Sl 0 9 y (.slice bo g.length bc) (ZAe g)):=bh.out.below a (Za4 _);have ag:Hid (Mat 0 27 3 y (.slice po O.length pc) O):=bE.out.below a (Za4 _);have aw:Hid (Sl 0 3 y (.slice qo (d+1) qc) (ZAB o)):=bB.out.below a (Za4 _);clear a cw;clear aO;clear bq;clear aZ;clear bz;clear bI;clear bh
  clear bE;clear bB;have cF:=TX.out f y ao ac l j E.out N.out
  go_wp2_with fail
  refine cF.mono ?_;rintro e A ⟨rfl,a⟩;have bK:Hid (Below w.heap.size w A):=bl.out.trans (a.mono bl.out.size);have aI:Hid (Sl 0 9 A (.slice l f.length j) (ZAe f)):=N.out.below a (Za4 _);have Q:Hid (Sl 0 9 A (.slice Y g.length T) (ZAe g)):=aj.out.below a (Za4 _);have af:Hid (Mat 0 27 3 A (.slice U O.length V) O):=aB.out.below a (Za4 _);have aG:Hid (Sl 0 3 A (.slice co (d+1) cc) (ZAB o)):=aA.out.below a (Za4 _)
  have an:Hid (Sl 0 9 A (.slice ao f.length ac) (ZAe f)):=E.out.below a (Za4 _);have R:Hid (Sl 0 9 A (.slice bo g.length bc) (ZAe g)):=aC.out.below a (Za4 _);have aJ:Hid (Mat 0 27 3 A (.slice po O.length pc) O):=ag.out.below a (Za4 _);have aq:Hid (Sl 0 3 A (.slice qo (d+1) qc) (ZAB o)):=aw.out.below a (Za4 _);clear a cF;clear N;clear aj;clear aB;clear aA;clear E;clear aC
  clear ag;clear aw;have cC:=TX.out g A bo bc Y T R.out Q.out
  go_wp2_with fail
  refine cC.mono ?_;rintro e s ⟨rfl,a⟩;have aM:Hid (Below w.heap.size w s):=bK.out.trans (a.mono bK.out.size);have aH:Hid (Sl 0 9 s (.slice l f.length j) (ZAe f)):=aI.out.below a (Za4 _);have aE:Hid (Sl 0 9 s (.slice Y g.length T) (ZAe g)):=Q.out.below a (Za4 _);have D:Hid (Mat 0 27 3 s (.slice U O.length V) O):=af.out.below a (Za4 _);have ar:Hid (Sl 0 3 s (.slice co (d+1) cc) (ZAB o)):=aG.out.below a (Za4 _)
  have ak:Hid (Sl 0 9 s (.slice ao f.length ac) (ZAe f)):=an.out.below a (Za4 _);have aD:Hid (Sl 0 9 s (.slice bo g.length bc) (ZAe g)):=R.out.below a (Za4 _);have J:Hid (Mat 0 27 3 s (.slice po O.length pc) O):=aJ.out.below a (Za4 _);have az:Hid (Sl 0 3 s (.slice qo (d+1) qc) (ZAB o)):=aq.out.below a (Za4 _);clear a cC;clear aI;clear Q;clear af;clear aG;clear an;clear R
  clear aJ;clear aq;have cB:=LL.out O s po pc U V J.out D.out
  go_wp2_with fail
  refine cB.mono ?_;rintro e r ⟨rfl,a⟩;have aV:Hid (Below w.heap.size w r):=aM.out.trans (a.mono aM.out.size);have am:Hid (Sl 0 9 r (.slice l f.length j) (ZAe f)):=aH.out.below a (Za4 _);have ah:Hid (Sl 0 9 r (.slice Y g.length T) (ZAe g)):=aE.out.below a (Za4 _);have aK:Hid (Mat 0 27 3 r (.slice U O.length V) O):=D.out.below a (Za4 _);have G:Hid (Sl 0 3 r (.slice co (d+1) cc) (ZAB o)):=ar.out.below a (Za4 _)
  have au:Hid (Sl 0 9 r (.slice ao f.length ac) (ZAe f)):=ak.out.below a (Za4 _);have ay:Hid (Sl 0 9 r (.slice bo g.length bc) (ZAe g)):=aD.out.below a (Za4 _);have aF:Hid (Mat 0 27 3 r (.slice po O.length pc) O):=J.out.below a (Za4 _);have L:Hid (Sl 0 3 r (.slice qo (d+1) qc) (ZAB o)):=az.out.below a (Za4 _);clear a cB;clear aH;clear aE;clear D;clear ar;clear ak;clear aD
  clear J;clear az;have cD:=LI.out r qo qc co cc L.out G.out
  go_wp2_with fail
  refine cD.mono ?_;rintro e B ⟨rfl,a⟩;have F:Hid (Below w.heap.size w B):=aV.out.trans (a.mono aV.out.size);have cq:Hid (Sl 0 9 B (.slice l f.length j) (ZAe f)):=am.out.below a (Za4 _);have cg:Hid (Sl 0 9 B (.slice Y g.length T) (ZAe g)):=ah.out.below a (Za4 _);have bX:Hid (Mat 0 27 3 B (.slice U O.length V) O):=aK.out.below a (Za4 _);have bW:Hid (Sl 0 3 B (.slice co (d+1) cc) (ZAB o)):=G.out.below a (Za4 _)
  have cd:Hid (Sl 0 9 B (.slice ao f.length ac) (ZAe f)):=au.out.below a (Za4 _);have bY:Hid (Sl 0 9 B (.slice bo g.length bc) (ZAe g)):=ay.out.below a (Za4 _);have cj:Hid (Mat 0 27 3 B (.slice po O.length pc) O):=aF.out.below a (Za4 _);have ck:Hid (Sl 0 3 B (.slice qo (d+1) qc) (ZAB o)):=L.out.below a (Za4 _);clear a cD;clear am;clear ah;clear aK;clear G;clear au;clear ay
  clear aF;clear L
  by_cases h4:4 < P.length
  ·have dl:decide ((4:Int) < (P.length:Int))=true:=decide_eq_true (by omega)
   go_wp2;go_ret;exact ⟨rfl,F.out⟩
  ·have dl:decide ((4:Int) < (P.length:Int))=false:=decide_eq_false (by omega)
   clear cq;clear cg;clear bX;clear bW;clear cd;clear bY;clear cj;clear ck
   have cE:=SA.out (by omega) B F.out
   go_wp2_with fail
   refine cE.mono ?_;rintro e cU ⟨cH,cN,rfl,i,a⟩;have aa:Hid (Below w.heap.size w cU):=F.out.trans (a.mono F.out.size);have ai:=hid i;clear a cE i;have cA:=SB.out cU aa.out
   go_wp2_with fail
   refine cA.mono ?_;rintro e cK ⟨db,de,rfl,i,a⟩;have bG:Hid (Below w.heap.size w cK):=aa.out.trans (a.mono aa.out.size);have S:Hid (Sl 0 9 cK (.slice cH TL.length cN) (ZAe TL)):=ai.out.below a (Za4 _);have M:=hid i;clear a cA i;clear ai;have cr:=TX.out TL cK db de cH cN M.out S.out
   go_wp2_with fail
   refine cr.mono ?_;rintro e cM ⟨rfl,a⟩;have cJ:Hid (Below w.heap.size w cM):=bG.out.trans (a.mono bG.out.size);have dj:Hid (Sl 0 9 cM (.slice cH TL.length cN) (ZAe TL)):=S.out.below a (Za4 _);have dh:Hid (Sl 0 9 cM (.slice db TL.length de) (ZAe TL)):=M.out.below a (Za4 _);clear a cr;clear S;clear M;go_wp2;go_ret;exact ⟨rfl,cJ.out⟩
end Go.Proofs.YtkjkfceblmgogaaGreat
