import Derived.Test.YtgfnmkenpgnllaaGreatEz9
import Derived.Test.YtgfnmkenpgnllaaGreatEzG
set_option maxRecDepth 100000
set_option maxHeartbeats 8000000
namespace Go.Proofs.YtgfnmkenpgnllaaGreat
open Go.RowKit
attribute [local go_sem ↓] Go.wp_at_zero Go.wp_at_succ
theorem ZMS(B:Nat)(m:List (List Int))(v:Value)(w:World)(hv:Mat B 22 3 w v m) :
  Calls Tryz.prog 7 #[v] w fun e w'=>∃b,e=.returned (.bool b)∧(b=false→m.length≤300)∧w'=w:=by
 obtain ⟨F,d,a,j,z⟩:=ZAE hv;subst a;have r:Hid (Mat B 22 3 w (.slice F m.length d) m):=hv;clear hv
 by_cases h1:300 < m.length
 ·have y:decide ((300:Int) < (m.length:Int))=true:=decide_eq_true (by omega)
  go_enter Tryz.func7,Tryz.ntmps7;go_wp2;go_ret
  exact ⟨true,rfl,(fun h=>absurd h (by decide)),rfl⟩
 ·have y:decide ((300:Int) < (m.length:Int))=false:=decide_eq_false (by omega)
  have x:Hid (m.length≤300):=by show _≤_; omega
  go_enter Tryz.func7,Tryz.ntmps7;go_wp2
  go_loopw [3,4] (fun n i wr=>∃t s:Nat,t≤m.length∧s≤300*t∧n=.int .i64 s∧i=.int .i64 t∧wr=w) (fun _ i _=>m.length-(intOf i).toNat)
  case atStart=>exact ⟨0,0,Za5 _,Za4 _,rfl,rfl,rfl⟩
  case round=>
   obtain ⟨t,s,M,f,rfl,rfl,rfl⟩:=hrel
   by_cases htn:t < m.length
   ·obtain ⟨b,o,G,u,f,_,D,g⟩:=ZAP r.out htn
    simp only [Za3,true_and] at f;obtain ⟨rfl,rfl⟩:=f;obtain ⟨J,L,c,E,A⟩:=ZAH g;subst c;generalize (m.getD t []).length=l at *;clear g
    by_cases hl:300 < l
    ·have p:decide ((300:Int) < (l:Int))=true:=decide_eq_true (by omega)
     go_wp2;go_ret
     exact ⟨true,rfl,(fun h=>absurd h (by decide)),rfl⟩
    ·have p:decide ((300:Int) < (l:Int))=false:=decide_eq_false (by omega)
     go_wp2
     go_roundw
     case rel=>exact ⟨t+1,s+l,by omega,by omega,by go_num,by go_num,trivial⟩
     case measure=>simp [intOf]; omega
   ·go_wp2
    go_ret
    exact ⟨_,rfl,fun _=>x.out,rfl⟩
theorem ZMT(B:Nat)(x:List Int)(u v:Value)(w:World)(hu:Sl B 3 w u (ZAB x))(hv:Sl B 3 w v (ZAB x)) :
  Calls Tryz.prog 20 #[u,.int .i64 0,v,.int .i64 0] w fun x w'=>x=.returned (.bool true)∧Below w.heap.size w w':=by
 obtain ⟨i,g,rfl,_,_⟩:=ZAH hu;obtain ⟨c,b,rfl,_,_⟩:=ZAH hv;have d:=hid hu;have f:Hid (Sl B 3 w (.slice c x.length b) (ZAB x)):=hv;clear hu hv;go_enter Tryz.func20,Tryz.ntmps20
 go_wp2_with fail
 refine (ZFZ B x x _ _ w d.out f.out).mono ?_;rintro e w' ⟨rfl,n,rfl⟩
 have a:(x == x)=true:=by simp
 rw [a];go_wp2;go_ret
 exact ⟨rfl,⟨rfl,rfl,rfl,Za4 _,fun _ _=>rfl⟩⟩
end Go.Proofs.YtgfnmkenpgnllaaGreat
namespace Go.Proofs.YtgfnmkenpgnllaaGreat
open Go.RowKit Lin
attribute [local go_sem ↓] Go.wp_at_zero Go.wp_at_succ
theorem ZIL(B:Nat)(x:List (List Int))(u v:Value)(w:World)(hu:Mat B 22 3 w u x)(hv:Mat B 22 3 w v x) :
  Calls Tryz.prog 19 #[u,.int .i64 0,v,.int .i64 0] w fun x w'=>x=.returned (.bool true)∧Below w.heap.size w w':=by
 obtain ⟨i,g,rfl,_,_⟩:=ZAE hu;obtain ⟨c,b,rfl,_,_⟩:=ZAE hv;have d:=hid hu;have f:Hid (Mat B 22 3 w (.slice c x.length b) x):=hv;clear hu hv;go_enter Tryz.func19,Tryz.ntmps19
 go_wp2_with fail
 refine (ZHI B x x _ _ w d.out f.out).mono ?_;rintro e w' ⟨rfl,n,rfl⟩
 have a:(x == x)=true:=by simp
 rw [a];go_wp2;go_ret
 exact ⟨rfl,⟨rfl,rfl,rfl,Za4 _,fun _ _=>rfl⟩⟩
theorem ZHH(d:Nat)(P:List (List Int))(v:Value)(w:World)(hd1:1≤d)(hd3:d≤3)(hG:PlG d P)(h3:P3 P)(h5:P.length≤6)(hv:Mat 0 22 3 w v P) :
  Calls Tryz.prog 5 #[.int .i64 d,v] w fun e w'=>e=.returned (.bool true)∧Below w.heap.size w w':=by
 obtain ⟨ro,rc,dl,dv,du⟩:=ZAE hv;subst dl
 have cN:∀p∈P,p.length=d+1∧∀z∈p,z.natAbs≤3:=fun p hp=>⟨(hG.row p hp).1,h3 p hp⟩
 have cX:Hid (Calls Tryz.prog 7 #[.slice ro P.length rc] w fun e w'=>∃b,e=.returned (.bool b)∧w'=w):=by
  refine (ZMS 0 P _ w hv).mono ?_;rintro e w' ⟨b,rfl,_,rfl⟩;exact ⟨b,rfl,rfl⟩
 have S0:Hid (∀X,Below w.heap.size w X→Calls Tryz.prog 8 #[.int .i64 d,.slice ro P.length rc] X fun e w'=>e=.returned (.int .i64 0)∧Below X.heap.size X w'):=fun X hX=>ZF5 d P _ X hd1 hd3 hG (by omega) (hv.below hX (Za4 _))
 obtain ⟨f,aL⟩:∃f,f=ZBF d P P.length:=⟨_,rfl⟩
 obtain ⟨g,cK⟩:∃g,g=f.filter fun t=>!opB d (clR P t):=⟨_,rfl⟩
 obtain ⟨o,cg⟩:∃o,o=(List.range (d+1)).map (whC d P):=⟨_,rfl⟩
 have dr:o.length=d+1:=by rw [cg]; simp
 obtain ⟨TL,cL⟩:∃TL,TL=grT d P P.length:=⟨_,rfl⟩
 have S1:Hid (∀X,Below w.heap.size w X→Calls Tryz.prog 9 #[.int .i64 d,.slice ro P.length rc,.string ⟨#[43,45]⟩,.string ⟨#[]⟩] X fun e w'=>∃j l,e=.returned (.slice j f.length l)∧Sl 0 9 w' (.slice j f.length l) (ZAc f)∧Below X.heap.size X w'):=fun X hX=>by
  refine (ZEs d P [43,45] ⟨#[43,45]⟩ _ cN hd1 hd3 (by omega) (by simp) (by simp) (.inl (by simp)) rfl P.length [] ⟨#[]⟩ X (by simp) (by simp) rfl (hv.below hX (Za4 _))).mono ?_
  rintro e w' ⟨x,rfl,ho,a⟩;rw [ZQh,←aL] at ho;obtain ⟨j,l,rfl⟩:=ZAD ho;exact ⟨j,l,rfl,Sl.own ho,a⟩
 have cS:∀t∈f,t.length=P.length∧∀c∈t,c=43∨c=45:=fun t ht=>by
  rw [aL] at ht;obtain ⟨⟨h1,_⟩,h2⟩:=ZCa.1 ht;exact ⟨h1,h2⟩
 have da:f.length≤100000:=by rw [aL]; exact Zaa8 (ZGE d P P.length) (Zaa8 (Nat.pow_le_pow_right (by decide) h5) (by decide))
 have S2:Hid (∀X j l,Below w.heap.size w X→Sl 0 9 X (.slice j f.length l) (ZAc f)→Calls Tryz.prog 10 #[.int .i64 d,.slice ro P.length rc,.slice j f.length l] X fun e w'=>∃V U,e=.returned (.slice V g.length U)∧Sl 0 9 w' (.slice V g.length U) (ZAc g)∧Below X.heap.size X w'):=fun X j l hX hx=>by
  refine (ZGI d P f _ _ X (hv.below hX (Za4 _)) hx hG.row hd1 hd3 (by omega) cS da).mono ?_
  rintro e w' ⟨x,rfl,ho,a⟩;rw [←cK] at ho;obtain ⟨V,U,rfl⟩:=ZAD ho;exact ⟨V,U,rfl,Sl.own ho,a⟩
 have S3:Hid (∀X,Below w.heap.size w X→Calls Tryz.prog 11 #[.int .i64 d,.slice ro P.length rc] X fun e w'=>∃T Y O rv,e=.returned (.tuple #[.slice T (List.length O) Y,rv])∧Mat 0 22 3 w' (.slice T (List.length O) Y) O∧FlQ d P (d+1) O∧Below X.heap.size X w'):=fun X hX=>by
  refine (ZE6 d P _ X (hv.below hX (Za4 _)) hG.row hd1 hd3 (by omega)).mono ?_
  rintro e w' ⟨ov,rv,O,rfl,hf,hq,a⟩;have hm:=hf.mat0;obtain ⟨T,Y,rfl,_,_⟩:=ZAE hm;exact ⟨T,Y,O,rv,rfl,hm,hq,a⟩
 have S4:Hid (∀X,Below w.heap.size w X→Calls Tryz.prog 12 #[.int .i64 d,.slice ro P.length rc] X fun e w'=>∃co cc,e=.returned (.slice co (d+1) cc)∧Sl 0 3 w' (.slice co (d+1) cc) (ZAB o)∧Below X.heap.size X w'):=fun X hX=>by
  rw [cg]
  exact ZJo d P _ X (hv.below hX (Za4 _)) hG.row hd1 hd3 (by omega)
 have S5:Hid (∀X,Below w.heap.size w X→Calls Tryz.prog 13 #[.int .i64 d,.slice ro P.length rc] X fun e w'=>∃m n,e=.returned (.tuple #[.slice m f.length n,.int .i64 0])∧Sl 0 9 w' (.slice m f.length n) (ZAc f)∧Below X.heap.size X w'):=fun X hX=>by
  rw [aL]
  refine (ZEu d P _ X hd1 hd3 hG (by omega) (hv.below hX (Za4 _))).mono ?_
  rintro e w' ⟨m,n,rfl,ho,a⟩;exact ⟨m,n,rfl,Sl.own ho,a⟩
 have S6:Hid (∀X,Below w.heap.size w X→Calls Tryz.prog 14 #[.int .i64 d,.slice ro P.length rc] X fun e w'=>∃m n,e=.returned (.tuple #[.slice m g.length n,.int .i64 0])∧Sl 0 9 w' (.slice m g.length n) (ZAc g)∧Below X.heap.size X w'):=fun X hX=>by
  rw [cK,aL]
  exact ZG9 d P _ X hd1 hd3 hG (by omega) (hv.below hX (Za4 _))
 have S7:Hid (∀X O',FlQ d P (d+1) O'→Below w.heap.size w X→Calls Tryz.prog 15 #[.int .i64 d,.slice ro P.length rc] X fun e w'=>∃m n,e=.returned (.tuple #[.slice m O'.length n,.int .i64 0])∧Mat 0 22 3 w' (.slice m O'.length n) O'∧Below X.heap.size X w'):=fun X O' hO hX=>by
  refine (ZEx d P _ X hd1 hd3 hG h5 (hv.below hX (Za4 _))).mono ?_;rintro e w' ⟨m,ul,n,rfl,⟨O,hm,dg⟩,a⟩;have dt:=dg O' hO;subst dt;obtain ⟨T,Y,hh,_,_⟩:=ZAE hm;simp only [Za3] at hh;obtain ⟨rfl,rfl,rfl⟩:=hh;exact ⟨_,_,rfl,hm,a⟩
 have S8:Hid (∀X,Below w.heap.size w X→Calls Tryz.prog 16 #[.int .i64 d,.slice ro P.length rc] X fun e w'=>∃co cc,e=.returned (.tuple #[.slice co (d+1) cc,.int .i64 0])∧Sl 0 3 w' (.slice co (d+1) cc) (ZAB o)∧Below X.heap.size X w'):=fun X hX=>by
  rw [cg];exact ZNv d P _ X hd1 hd3 hG h5 (hv.below hX (Za4 _))
 have S9:Hid (∀X,Below w.heap.size w X→Calls Tryz.prog 17 #[.int .i64 d,.slice ro P.length rc] X fun e w'=>e=.returned (.int .i64 0)∧Below X.heap.size X w'):=fun X hX=>ZBJ d P _ X hd1 hd3 hG (by omega) (hv.below hX (Za4 _))
 have SA:Hid (P.length≤4→∀X,Below w.heap.size w X→Calls Tryz.prog 9 #[.int .i64 d,.slice ro P.length rc,.string ⟨#[43,45,48]⟩,.string ⟨#[]⟩] X fun e w'=>∃j l,e=.returned (.slice j TL.length l)∧Sl 0 9 w' (.slice j TL.length l) (ZAc TL)∧Below X.heap.size X w'):=fun h4 X hX=>by
  refine (ZEs d P [43,45,48] ⟨#[43,45,48]⟩ _ cN hd1 hd3 (by omega) (by simp) (by simp) (.inr h4) rfl P.length [] ⟨#[]⟩ X (by simp) (by simp) rfl (hv.below hX (Za4 _))).mono ?_
  rintro e w' ⟨x,rfl,ho,a⟩;rw [ZQg,←cL] at ho;obtain ⟨j,l,rfl⟩:=ZAD ho;exact ⟨j,l,rfl,Sl.own ho,a⟩
 have SB:Hid (∀X,Below w.heap.size w X→Calls Tryz.prog 21 #[.int .i64 d,.slice ro P.length rc] X fun e w'=>∃m n,e=.returned (.tuple #[.slice m TL.length n,.int .i64 0])∧Sl 0 9 w' (.slice m TL.length n) (ZAc TL)∧Below X.heap.size X w'):=fun X hX=>by
  rw [cL]
  exact ZLK d P _ X hd1 hd3 hG (by omega) (hv.below hX (Za4 _))
 have TX:Hid (∀(x:List (List UInt8)) X m n vo vc,Sl 0 9 X (.slice m x.length n) (ZAc x)→Sl 0 9 X (.slice vo x.length vc) (ZAc x)→Calls Tryz.prog 18 #[.slice m x.length n,.int .i64 0,.slice vo x.length vc,.int .i64 0] X fun e w'=>e=.returned (.bool true)∧Below X.heap.size X w'):=fun x X m n vo vc h1 h2=>ZJp x _ _ X h1 h2
 have LL:Hid (∀(x:List (List Int)) X m n vo vc,Mat 0 22 3 X (.slice m x.length n) x→Mat 0 22 3 X (.slice vo x.length vc) x→Calls Tryz.prog 19 #[.slice m x.length n,.int .i64 0,.slice vo x.length vc,.int .i64 0] X fun e w'=>e=.returned (.bool true)∧Below X.heap.size X w'):=fun x X m n vo vc h1 h2=>ZIL 0 x _ _ X h1 h2
 have LI:Hid (∀X m n vo vc,Sl 0 3 X (.slice m (d+1) n) (ZAB o)→Sl 0 3 X (.slice vo (d+1) vc) (ZAB o)→Calls Tryz.prog 20 #[.slice m (d+1) n,.int .i64 0,.slice vo (d+1) vc,.int .i64 0] X fun e w'=>e=.returned (.bool true)∧Below X.heap.size X w'):=fun X m n vo vc h1 h2=>ZMT 0 o _ _ X h1 h2
 clear hv hG h3 cN cS da aL cK cg cL dr;go_enter Tryz.func5,Tryz.ntmps5
 go_wp2_with fail
 refine cX.out.mono ?_;rintro e w0 ⟨b,rfl,cP⟩;obtain rfl:=cP.symm;clear cP cX
 cases b with
 | true=>
  go_wp2;go_ret;exact ⟨rfl,Below.refl _ _⟩
 | false=>
  have db:=S0.out w (Below.refl _ _)
  go_wp2_with fail
  refine db.mono ?_;rintro e z1 ⟨rfl,a⟩;have bD:=hid a;clear a db;have cY:=S1.out z1 bD.out
  go_wp2_with fail
  refine cY.mono ?_;rintro e z2 ⟨j,l,rfl,i,a⟩;have bN:Hid (Below w.heap.size w z2):=bD.out.trans (a.mono bD.out.size);have ae:=hid i;clear a cY i;have cW:=S2.out z2 j l bN.out ae.out
  go_wp2_with fail
  refine cW.mono ?_;rintro e z3 ⟨V,U,rfl,i,a⟩;have bO:Hid (Below w.heap.size w z3):=bN.out.trans (a.mono bN.out.size);have aZ:Hid (Sl 0 9 z3 (.slice j f.length l) (ZAc f)):=ae.out.below a (Za4 _);have bS:=hid i;clear a cW i;clear ae;have cT:=S3.out z3 bO.out
  go_wp2_with fail
  refine cT.mono ?_;rintro e z4 ⟨T,Y,O,rv,rfl,i,hq,a⟩;have bP:Hid (Below w.heap.size w z4):=bO.out.trans (a.mono bO.out.size);have bq:Hid (Sl 0 9 z4 (.slice j f.length l) (ZAc f)):=aZ.out.below a (Za4 _);have bT:Hid (Sl 0 9 z4 (.slice V g.length U) (ZAc g)):=bS.out.below a (Za4 _);have aM:=hid i;clear a cT i;clear aZ;clear bS;have HQ:=hid hq;clear hq;have cO:=S4.out z4 bP.out
  go_wp2_with fail
  refine cO.mono ?_;rintro e z5 ⟨co,cc,rfl,i,a⟩;have aO:Hid (Below w.heap.size w z5):=bP.out.trans (a.mono bP.out.size);have bp:Hid (Sl 0 9 z5 (.slice j f.length l) (ZAc f)):=bq.out.below a (Za4 _);have bC:Hid (Sl 0 9 z5 (.slice V g.length U) (ZAc g)):=bT.out.below a (Za4 _);have bB:Hid (Mat 0 22 3 z5 (.slice T O.length Y) O):=aM.out.below a (Za4 _);have bR:=hid i;clear a cO i
  clear bq;clear bT;clear aM;have cR:=S5.out z5 aO.out
  go_wp2_with fail
  refine cR.mono ?_;rintro e z6 ⟨ao,ac,rfl,i,a⟩;have bJ:Hid (Below w.heap.size w z6):=aO.out.trans (a.mono aO.out.size);have bA:Hid (Sl 0 9 z6 (.slice j f.length l) (ZAc f)):=bp.out.below a (Za4 _);have aT:Hid (Sl 0 9 z6 (.slice V g.length U) (ZAc g)):=bC.out.below a (Za4 _);have bj:Hid (Mat 0 22 3 z6 (.slice T O.length Y) O):=bB.out.below a (Za4 _);have bK:Hid (Sl 0 3 z6 (.slice co (d+1) cc) (ZAB o)):=bR.out.below a (Za4 _)
  have bk:=hid i;clear a cR i;clear bp;clear bC;clear bB;clear bR;have cV:=S6.out z6 bJ.out
  go_wp2_with fail
  refine cV.mono ?_;rintro e z7 ⟨bo,bc,rfl,i,a⟩;have bi:Hid (Below w.heap.size w z7):=bJ.out.trans (a.mono bJ.out.size);have aU:Hid (Sl 0 9 z7 (.slice j f.length l) (ZAc f)):=bA.out.below a (Za4 _);have aX:Hid (Sl 0 9 z7 (.slice V g.length U) (ZAc g)):=aT.out.below a (Za4 _);have bQ:Hid (Mat 0 22 3 z7 (.slice T O.length Y) O):=bj.out.below a (Za4 _);have aR:Hid (Sl 0 3 z7 (.slice co (d+1) cc) (ZAB o)):=bK.out.below a (Za4 _)
  have aW:Hid (Sl 0 9 z7 (.slice ao f.length ac) (ZAc f)):=bk.out.below a (Za4 _);have bz:=hid i;clear a cV i;clear bA;clear aT;clear bj;clear bK;clear bk;have de:=S7.out z7 O HQ.out bi.out
  go_wp2_with fail
  refine de.mono ?_;rintro e z8 ⟨po,pc,rfl,i,a⟩;have bE:Hid (Below w.heap.size w z8):=bi.out.trans (a.mono bi.out.size);have bu:Hid (Sl 0 9 z8 (.slice j f.length l) (ZAc f)):=aU.out.below a (Za4 _);have bU:Hid (Sl 0 9 z8 (.slice V g.length U) (ZAc g)):=aX.out.below a (Za4 _);have bF:Hid (Mat 0 22 3 z8 (.slice T O.length Y) O):=bQ.out.below a (Za4 _);have bv:Hid (Sl 0 3 z8 (.slice co (d+1) cc) (ZAB o)):=aR.out.below a (Za4 _)
  have aS:Hid (Sl 0 9 z8 (.slice ao f.length ac) (ZAc f)):=aW.out.below a (Za4 _);have aQ:Hid (Sl 0 9 z8 (.slice bo g.length bc) (ZAc g)):=bz.out.below a (Za4 _);have aN:=hid i;clear a de i;clear aU;clear aX;clear bQ;clear aR;clear aW;clear bz;have cZ:=S8.out z8 bE.out
  go_wp2_with fail
  refine cZ.mono ?_;rintro e z9 ⟨qo,qc,rfl,i,a⟩;have aV:Hid (Below w.heap.size w z9):=bE.out.trans (a.mono bE.out.size);have bV:Hid (Sl 0 9 z9 (.slice j f.length l) (ZAc f)):=bu.out.below a (Za4 _);have bI:Hid (Sl 0 9 z9 (.slice V g.length U) (ZAc g)):=bU.out.below a (Za4 _);have bG:Hid (Mat 0 22 3 z9 (.slice T O.length Y) O):=bF.out.below a (Za4 _);have aY:Hid (Sl 0 3 z9 (.slice co (d+1) cc) (ZAB o)):=bv.out.below a (Za4 _)
  have bt:Hid (Sl 0 9 z9 (.slice ao f.length ac) (ZAc f)):=aS.out.below a (Za4 _);have bg:Hid (Sl 0 9 z9 (.slice bo g.length bc) (ZAc g)):=aQ.out.below a (Za4 _);have aP:Hid (Mat 0 22 3 z9 (.slice po O.length pc) O):=aN.out.below a (Za4 _);have bL:=hid i;clear a cZ i;clear bu;clear bU;clear bF;clear bv;clear aS;clear aQ;clear aN;have cw:=S9.out z9 aV.out
  go_wp2_with fail
  refine cw.mono ?_;rintro e r ⟨rfl,a⟩;have bh:Hid (Below w.heap.size w r):=aV.out.trans (a.mono aV.out.size);have D:Hid (Sl 0 9 r (.slice j f.length l) (ZAc f)):=bV.out.below a (Za4 _);have aC:Hid (Sl 0 9 r (.slice V g.length U) (ZAc g)):=bI.out.below a (Za4 _);have aH:Hid (Mat 0 22 3 r (.slice T O.length Y) O):=bG.out.below a (Za4 _);have aK:Hid (Sl 0 3 r (.slice co (d+1) cc) (ZAB o)):=aY.out.below a (Za4 _)
  have J:Hid (Sl 0 9 r (.slice ao f.length ac) (ZAc f)):=bt.out.below a (Za4 _);have aw:Hid (Sl 0 9 r (.slice bo g.length bc) (ZAc g)):=bg.out.below a (Za4 _);have aB:Hid (Mat 0 22 3 r (.slice po O.length pc) O):=aP.out.below a (Za4 _);have ag:Hid (Sl 0 3 r (.slice qo (d+1) qc) (ZAB o)):=bL.out.below a (Za4 _);clear a cw;clear bV;clear bI;clear bG;clear aY;clear bt;clear bg
  clear aP;clear bL;have cC:=TX.out f r ao ac j l J.out D.out
  go_wp2_with fail
  refine cC.mono ?_;rintro e B ⟨rfl,a⟩;have bH:Hid (Below w.heap.size w B):=bh.out.trans (a.mono bh.out.size);have aG:Hid (Sl 0 9 B (.slice j f.length l) (ZAc f)):=D.out.below a (Za4 _);have S:Hid (Sl 0 9 B (.slice V g.length U) (ZAc g)):=aC.out.below a (Za4 _);have aI:Hid (Mat 0 22 3 B (.slice T O.length Y) O):=aH.out.below a (Za4 _);have ay:Hid (Sl 0 3 B (.slice co (d+1) cc) (ZAB o)):=aK.out.below a (Za4 _)
  have ah:Hid (Sl 0 9 B (.slice ao f.length ac) (ZAc f)):=J.out.below a (Za4 _);have M:Hid (Sl 0 9 B (.slice bo g.length bc) (ZAc g)):=aw.out.below a (Za4 _);have au:Hid (Mat 0 22 3 B (.slice po O.length pc) O):=aB.out.below a (Za4 _);have ar:Hid (Sl 0 3 B (.slice qo (d+1) qc) (ZAB o)):=ag.out.below a (Za4 _);clear a cC;clear D;clear aC;clear aH;clear aK;clear J;clear aw
  clear aB;clear ag;have cB:=TX.out g B bo bc V U M.out S.out
  go_wp2_with fail
  refine cB.mono ?_;rintro e A ⟨rfl,a⟩;have bM:Hid (Below w.heap.size w A):=bH.out.trans (a.mono bH.out.size);have aj:Hid (Sl 0 9 A (.slice j f.length l) (ZAc f)):=aG.out.below a (Za4 _);have am:Hid (Sl 0 9 A (.slice V g.length U) (ZAc g)):=S.out.below a (Za4 _);have N:Hid (Mat 0 22 3 A (.slice T O.length Y) O):=aI.out.below a (Za4 _);have az:Hid (Sl 0 3 A (.slice co (d+1) cc) (ZAB o)):=ay.out.below a (Za4 _)
  have aJ:Hid (Sl 0 9 A (.slice ao f.length ac) (ZAc f)):=ah.out.below a (Za4 _);have an:Hid (Sl 0 9 A (.slice bo g.length bc) (ZAc g)):=M.out.below a (Za4 _);have E:Hid (Mat 0 22 3 A (.slice po O.length pc) O):=au.out.below a (Za4 _);have aE:Hid (Sl 0 3 A (.slice qo (d+1) qc) (ZAB o)):=ar.out.below a (Za4 _);clear a cB;clear aG;clear S;clear aI;clear ay;clear ah;clear M
  clear au;clear ar;have cA:=LL.out O A po pc T Y E.out N.out
  go_wp2_with fail
  refine cA.mono ?_;rintro e s ⟨rfl,a⟩;have bw:Hid (Below w.heap.size w s):=bM.out.trans (a.mono bM.out.size);have ak:Hid (Sl 0 9 s (.slice j f.length l) (ZAc f)):=aj.out.below a (Za4 _);have ai:Hid (Sl 0 9 s (.slice V g.length U) (ZAc g)):=am.out.below a (Za4 _);have aD:Hid (Mat 0 22 3 s (.slice T O.length Y) O):=N.out.below a (Za4 _);have Q:Hid (Sl 0 3 s (.slice co (d+1) cc) (ZAB o)):=az.out.below a (Za4 _)
  have af:Hid (Sl 0 9 s (.slice ao f.length ac) (ZAc f)):=aJ.out.below a (Za4 _);have aA:Hid (Sl 0 9 s (.slice bo g.length bc) (ZAc g)):=an.out.below a (Za4 _);have aq:Hid (Mat 0 22 3 s (.slice po O.length pc) O):=E.out.below a (Za4 _);have R:Hid (Sl 0 3 s (.slice qo (d+1) qc) (ZAB o)):=aE.out.below a (Za4 _);clear a cA;clear aj;clear am;clear N;clear az;clear aJ;clear an
  clear E;clear aE;have cD:=LI.out s qo qc co cc R.out Q.out
  go_wp2_with fail
  refine cD.mono ?_;rintro e y ⟨rfl,a⟩;have G:Hid (Below w.heap.size w y):=bw.out.trans (a.mono bw.out.size);have cq:Hid (Sl 0 9 y (.slice j f.length l) (ZAc f)):=ak.out.below a (Za4 _);have bY:Hid (Sl 0 9 y (.slice V g.length U) (ZAc g)):=ai.out.below a (Za4 _);have cj:Hid (Mat 0 22 3 y (.slice T O.length Y) O):=aD.out.below a (Za4 _);have bW:Hid (Sl 0 3 y (.slice co (d+1) cc) (ZAB o)):=Q.out.below a (Za4 _)
  have ck:Hid (Sl 0 9 y (.slice ao f.length ac) (ZAc f)):=af.out.below a (Za4 _);have bX:Hid (Sl 0 9 y (.slice bo g.length bc) (ZAc g)):=aA.out.below a (Za4 _);have cd:Hid (Mat 0 22 3 y (.slice po O.length pc) O):=aq.out.below a (Za4 _);have bZ:Hid (Sl 0 3 y (.slice qo (d+1) qc) (ZAB o)):=R.out.below a (Za4 _);clear a cD;clear ak;clear ai;clear aD;clear Q;clear af;clear aA
  clear aq;clear R
  by_cases h4:4 < P.length
  ·have dq:decide ((4:Int) < (P.length:Int))=true:=decide_eq_true (by omega)
   go_wp2;go_ret;exact ⟨rfl,G.out⟩
  ·have dq:decide ((4:Int) < (P.length:Int))=false:=decide_eq_false (by omega)
   clear cq;clear bY;clear cj;clear bW;clear ck;clear bX;clear cd;clear bZ
   have cr:=SA.out (by omega) y G.out
   go_wp2_with fail
   refine cr.mono ?_;rintro e cQ ⟨cM,cJ,rfl,i,a⟩;have aa:Hid (Below w.heap.size w cQ):=G.out.trans (a.mono G.out.size);have aF:=hid i;clear a cr i;have cF:=SB.out cQ aa.out
   go_wp2_with fail
   refine cF.mono ?_;rintro e cG ⟨cU,dc,rfl,i,a⟩;have bl:Hid (Below w.heap.size w cG):=aa.out.trans (a.mono aa.out.size);have F:Hid (Sl 0 9 cG (.slice cM TL.length cJ) (ZAc TL)):=aF.out.below a (Za4 _);have L:=hid i;clear a cF i;clear aF;have cE:=TX.out TL cG cU dc cM cJ L.out F.out
   go_wp2_with fail
   refine cE.mono ?_;rintro e cI ⟨rfl,a⟩;have cH:Hid (Below w.heap.size w cI):=bl.out.trans (a.mono bl.out.size);have dh:Hid (Sl 0 9 cI (.slice cM TL.length cJ) (ZAc TL)):=F.out.below a (Za4 _);have dj:Hid (Sl 0 9 cI (.slice cU TL.length dc) (ZAc TL)):=L.out.below a (Za4 _);clear a cE;clear F;clear L;go_wp2;go_ret;exact ⟨rfl,cH.out⟩
theorem ZGJ(l:List Int)(dm my:Int)(v:Value)(w:World)(hv:Sl w.heap.size 3 w v (ZAB l))(hr:∀z∈l,ZFo z)(h1:ZFo dm)(h2:ZFo my) :
  Calls Tryz.prog 3 #[v,.int .i64 dm,.int .i64 my] w fun e w'=>e=.returned (.bool true)∧Below w.heap.size w w':=by
 obtain ⟨D,y,rfl,E,T⟩:=ZAH hv;have F:Hid (Sl w.heap.size 3 w (.slice D l.length y) (ZAB l)):=hv;have J:=hid hr
 have b:Hid (∀(c:Int) (n:Nat) (X:World),ZFo c→1≤n→n≤100000→Calls Tryz.prog 4 #[.int .i64 c,.int .i64 (n:Int)] X fun e w'=>∃z:Nat,e=.returned (.int .i64 (z:Int))∧z < n∧w'=X):=fun c n X hc h1 h2=>by
  refine (ZC8 c n X (by omega) (by omega) hc).mono ?_
  rintro e w' ⟨z,rfl,V,a⟩
  exact ⟨z.toNat,by rw [show ((z.toNat:Nat):Int)=z by omega],by omega,a⟩
 have O:=hid h1;have R:=hid h2;clear hv hr h1 h2
 by_cases hbig:256 < l.length
 ·have M:(256:Int) < (l.length:Int):=by omega
  go_enter Tryz.func3,Tryz.ntmps3;go_wp2;go_ret;exact ⟨rfl,Below.refl _ _⟩
 ·have M:¬(256:Int) < (l.length:Int):=by omega
  have f:Hid (∀(d m:Nat) X,1≤d→d≤3→m≤5→Below w.heap.size w X→Calls Tryz.prog 6 #[.slice D l.length y,.int .i64 (d:Int),.int .i64 (m:Int)] X fun e w'=>∃r s P,e=.returned (.slice r P.length s)∧Mat 0 22 3 w' (.slice r P.length s) P∧P.length≤m∧(PlG d P∧P3 P)∧Below X.heap.size X w'):=fun d m X a1 a2 a3 hX=>ZGC w.heap.size l d m _ X (F.out.below hX (Za4 _)) J.out (by omega) a1 a2 (by omega)
  go_enter Tryz.func3,Tryz.ntmps3
  go_wp2_with fail
  refine (b.out dm 3 w O.out (by decide) (by decide)).mono ?_
  rintro e w' ⟨o,rfl,N,a⟩;obtain rfl:=a.symm;clear a
  have S:IntKind.i64.wrap (1+(o:Int))=((o+1:Nat):Int):=by rw [IntKind.wrap_i64]; omega
  go_wp2_with fail
  refine (b.out my 6 w R.out (by decide) (by decide)).mono ?_
  rintro e w' ⟨m,rfl,U,a⟩;obtain rfl:=a.symm;clear a
  go_wp2_with fail
  refine (f.out (o+1) m w (by omega) (by omega) (by omega) (Below.refl _ _)).mono ?_
  rintro e L ⟨r,s,P,rfl,A,G,⟨x,B⟩,i⟩
  have t:=ZHH (o+1) P _ L (by omega) (by omega) x B (by omega) A
  have g:=hid i;clear i A x B f b
  go_wp2_with fail
  refine t.mono ?_;rintro e Q ⟨rfl,j⟩;have p:Hid (Below w.heap.size w Q):=g.out.trans (j.mono g.out.size);clear j t;go_wp2;go_ret;exact ⟨rfl,p.out⟩
end Go.Proofs.YtgfnmkenpgnllaaGreat
