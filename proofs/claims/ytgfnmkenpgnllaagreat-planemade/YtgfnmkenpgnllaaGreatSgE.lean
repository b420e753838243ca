import Derived.Test.YtgfnmkenpgnllaaGreatEzD
import Derived.Test.YtgfnmkenpgnllaaGreatSgC
import Derived.Test.YtgfnmkenpgnllaaGreatHfB
set_option maxRecDepth 100000
set_option maxHeartbeats 1600000
namespace Go.Proofs.YtgfnmkenpgnllaaGreat
open Go.RowKit
attribute [local go_sem ↓] Go.wp_at_zero Go.wp_at_succ
theorem ZNN(B:Nat)(f:List Int→Bool)(m:List (List Int))(v:Value)(p1 p2:Addr)(w:World)(hv:Mat B 22 3 w v m)
 (hc:∀r∈m,∀(W:World) (rv:Value),Below w.heap.size w W→Sl B 3 W rv (ZAB r)→Calls Tryz.prog 68 #[rv,.pointer (some p1),.pointer (some p2)] W fun e w'=>e=.returned (.bool (f r))∧Below w.heap.size w w') :
  Calls Tryz.prog 98 #[v,.func (.func 68) #[] #[.pointer (some p1),.pointer (some p2)]] w fun e w'=>(∃z,e=.returned (.int .i64 z)∧-1≤z∧z < m.length∧decide (0≤z)=m.any f)∧Below w.heap.size w w':=by
 obtain ⟨S,E,t,N,P⟩:=ZAE hv;subst t;have O:Hid (Mat B 22 3 w (.slice S m.length E) m):=hv;have T:=hid hc;clear hv hc;go_enter Tryz.func98,Tryz.ntmps98;go_wp2
 go_loopw [8] (fun i wr=>∃k:Nat,k≤m.length∧i=.int .i64 k∧(m.take k).any f=false∧Below w.heap.size w wr) (fun i _=>m.length-(intOf i).toNat)
 case atStart=>exact ⟨0,Za5 _,rfl,by simp,Below.refl _ _⟩
 case round=>
  obtain ⟨k,X,rfl,j,L⟩:=hrel;have J:=hid j;have F:=hid L;clear j L
  by_cases hlt:k < m.length
  ·obtain ⟨V,o,U,G,M,R,Q,d⟩:=ZAP (O.out.below F.out (Za4 _)) hlt
   simp only [Za3] at M;obtain ⟨rfl,D,rfl⟩:=M;clear D;have s:Hid ((m.take (k+1)).any f=f (m.getD k [])):=ZED (p:=f) hlt J.out
   have g:Hid (m.getD k []∈m):=by
    show _∈_
    simp [hlt]
   have b:Hid (Calls Tryz.prog 68 #[G,.pointer (some p1),.pointer (some p2)] wr fun e w'=>e=.returned (.bool (f (m.getD k [])))∧Below w.heap.size w w'):=T.out _ g.out wr G F.out d
   clear d;generalize m.getD k []=x at *
   obtain ⟨fb,a⟩:∃fb,fb=f x:=⟨_,rfl⟩
   have c:=hid a;rw [←a] at b;clear a
   go_wp2_with fail
   refine b.out.mono ?_;rintro e Y ⟨rfl,n⟩;have l:=hid n;clear n b
   cases hf:fb
   ·have A:Hid (f x=false):=by rw [←hf]; exact c.out.symm
    clear hf;go_wp2
    go_roundw
    case rel=>exact ⟨k+1,by omega,by go_num,by rw [s.out]; exact A.out,l.out⟩
    case measure=>simp [intOf]; omega
   ·have A:Hid (f x=true):=by rw [←hf]; exact c.out.symm
    clear hf;go_wp2;go_ret
    refine ⟨⟨_,rfl,by omega,by omega,?_⟩,l.out⟩
    rw [decide_eq_true (by omega)]
    exact (List.any_eq_true.2 ⟨x,g.out,A.out⟩).symm
  ·have y:Hid (m.take k=m):=Zaa2 (by omega)
   go_wp2;go_ret
   exact ⟨⟨-1,rfl,by omega,by omega,by rw [←y.out,J.out]; rfl⟩,F.out⟩
theorem ZNO(B:Nat)(f:List Int→Bool)(m:List (List Int))(v:Value)(p1 p2:Addr)(w:World)(hv:Mat B 22 3 w v m)
 (hc:∀r∈m,∀(W:World) (rv:Value),Below w.heap.size w W→Sl B 3 W rv (ZAB r)→Calls Tryz.prog 68 #[rv,.pointer (some p1),.pointer (some p2)] W fun e w'=>e=.returned (.bool (f r))∧Below w.heap.size w w') :
  Calls Tryz.prog 69 #[v,.func (.func 68) #[] #[.pointer (some p1),.pointer (some p2)]] w fun e w'=>e=.returned (.bool (m.any f))∧Below w.heap.size w w':=by
 have j:Hid (Calls Tryz.prog 98 #[v,.func (.func 68) #[] #[.pointer (some p1),.pointer (some p2)]] w fun e w'=>(∃z,e=.returned (.int .i64 z)∧-1≤z∧z < m.length∧decide (0≤z)=m.any f)∧Below w.heap.size w w'):=ZNN B f m v p1 p2 w hv hc
 obtain ⟨s,p,b,g,d⟩:=ZAE hv;subst b;clear hv hc;generalize m.any f=R at *;go_enter Tryz.func69,Tryz.ntmps69
 go_wp2_with fail
 refine j.out.mono ?_;rintro e w' ⟨⟨z,rfl,n,o,a⟩,c⟩;have l:=hid a;have i:=hid c;clear a c;go_wp2;go_ret;exact ⟨ZAW l.out,i.out⟩
end Go.Proofs.YtgfnmkenpgnllaaGreat
namespace Go.Proofs.YtgfnmkenpgnllaaGreat
open Go.RowKit Lin
attribute [local go_sem ↓] Go.wp_at_zero Go.wp_at_succ
theorem ZLI{w:World}{u:Value}{p:List Int}(h:Sl 0 3 w u (ZAB p)):Mat 0 22 3 (w.alloc (.cells #[u] 22)) (.slice (some ⟨w.heap.size,0,none⟩) 1 1) [p]:=by
 have a:=heap_alloc_new w (.cells #[u] 22)
 refine ⟨[u],rfl,⟨some ⟨w.heap.size,0,none⟩,1,rfl,by simp,by unfold maxLen; omega,fun i hi=>⟨w.heap.size,0,rfl,?_,.inr ⟨_,a⟩⟩,fun e=>by cases e⟩,fun i hi=>?_⟩
 ·have:i=0:=by simpa using hi
  subst this;unfold World.cell?;rw [a];rfl
 ·have:i=0:=by simpa using hi
  subst this;exact h.alloc _
theorem ZHu{w:World}{u x:Value}{p o:List Int}(h:Sl 0 3 w u (ZAB p))(h2:Sl 0 3 w x (ZAB o)):Mat 0 22 3 (w.alloc (.cells #[u,x] 22)) (.slice (some ⟨w.heap.size,0,none⟩) 2 2) [p,o]:=by
 have a:=heap_alloc_new w (.cells #[u,x] 22)
 refine ⟨[u,x],rfl,⟨some ⟨w.heap.size,0,none⟩,2,rfl,by simp,by unfold maxLen; omega,fun i hi=>⟨w.heap.size,0,rfl,?_,.inr ⟨_,a⟩⟩,fun e=>by cases e⟩,fun i hi=>?_⟩
 ·rcases (show i=0∨i=1 by simp at hi; omega) with rfl | rfl
  ·unfold World.cell?
   rw [a];rfl
  ·unfold World.cell?
   rw [a];rfl
 ·rcases (show i=0∨i=1 by simp at hi; omega) with rfl | rfl
  ·exact h.alloc _
  ·exact h2.alloc _
theorem ZDl{d:Nat}{m:List (List Int)}(h1:1≤d)(h3:d≤3)(h:∀p∈m,p.length=d+1∧∀z∈p,z.natAbs≤20):Mx (d+1) 60 m:=by
 refine ⟨fun r hr=>(h r hr).1,fun r hr z hz=>by have:=(h r hr).2 z hz; omega,by omega,by omega,by decide,?_⟩
 rcases (show d=1∨d=2∨d=3 by omega) with rfl | rfl | rfl <;> decide
structure PlG(d:Nat)(P:List (List Int)):Prop where
 row:∀p∈P,p.length=d+1∧∀z∈p,z.natAbs≤20
 one:∀p∈P,(ZAK d [p]).length≠0
 two:∀i k,i < k→k < P.length→(ZAK (d+1) [P.getD k [],P.getD i []]).length≠1
theorem ZLJ(d:Nat)(p o:List Int)(u x:Value)(q1 q2:Nat)(w:World)(hd1:1≤d)(hd3:d≤3)(hp:p.length=d+1∧∀z∈p,z.natAbs≤20)(ho:o.length=d+1∧∀z∈o,z.natAbs≤20)(hu:Sl 0 3 w u (ZAB p))(hx:Sl 0 3 w x (ZAB o))(c1:w.cell? ⟨q1,0,none⟩=some u)(c2:w.cell? ⟨q2,0,none⟩=some (.int .i64 d)) :
  Calls Tryz.prog 68 #[x,.pointer (some ⟨q1,0,none⟩),.pointer (some ⟨q2,0,none⟩)] w fun e w'=>e=.returned (.bool (decide ((ZAK (d+1) [p,o]).length=1)))∧Below w.heap.size w w':=by
 have j:Hid (Calls Tryz.prog 58 #[.slice (some ⟨w.heap.size,0,none⟩) 2 2,.int .i64 ((d:Int)+1)] (w.alloc (.cells #[u,x] 22)) fun e w'=>e=.returned (.int .i64 ((ZAK (d+1) [p,o]).length:Nat))∧Below w.heap.size w w'):=by
  refine (ZCP 0 (d+1) (d+1) [p,o] _ _ (Za4 _) (by omega) (ZDl hd1 hd3 (fun r hr=>?_)) (ZHu hu hx) (by simp)).mono ?_
  ·simp only [List.mem_cons,List.not_mem_nil,or_false] at hr
   rcases hr with rfl | rfl
   ·exact hp
   ·exact ho
  ·rintro e w' ⟨rfl,g⟩
   exact ⟨rfl,((Below.refl _ _).alloc (Za4 _) _).trans (g.mono (by simp))⟩
 have b:=ZAI c1;have a:=ZAI c2;have y:(w.alloc (.cells #[u,x] 22)).cell? ⟨q2,0,none⟩=some (.int .i64 d):=((ZAG w (.cells #[u,x] 22)).cell (p:=⟨q2,0,none⟩) a).trans c2;obtain ⟨v,m,f,_,_⟩:=ZAH hu;obtain ⟨t,s,c,_,_⟩:=ZAH hx;rw [hp.1] at f;rw [ho.1] at c;subst f c;generalize (ZAK (d+1) [p,o]).length=rk at *;clear hu hx hp ho b a;go_enter Tryz.func68,Tryz.ntmps68
 go_wp2_with fail
 refine j.out.mono ?_;rintro e n ⟨rfl,g⟩;have i:=hid g;clear g;go_wp2;go_ret;refine ⟨ZAW ?_,i.out⟩
 by_cases h:rk=1
 ·subst h; rfl
 ·have l:((rk:Int) == 1)=false:=by simp; omega
  simp [h,l]
theorem ZGu(d:Nat)(p:List Int)(A:List (List Int))(u v:Value)(w:World)(hd1:1≤d)(hd3:d≤3)(hp:p.length=d+1∧∀z∈p,z.natAbs≤20)(hA:∀o∈A,o.length=d+1∧∀z∈o,z.natAbs≤20)(h1:(ZAK d [p]).length≠0)(h2:∀o∈A,(ZAK (d+1) [p,o]).length≠1)
 (hu:Sl 0 3 w u (ZAB p))(hv:Mat 0 22 3 w v A) :
  Calls Tryz.prog 41 #[.int .i64 d,u,v] w fun e w'=>e=.returned (.int .i64 0)∧Below w.heap.size w w':=by
 obtain ⟨ao,ac,rfl,_,_⟩:=ZAE hv
 obtain ⟨W,i⟩:∃W,W=(w.alloc (.cells #[.int .i64 d] 3)).alloc (.cells #[u] 22):=⟨_,rfl⟩
 have t:(w.alloc (.cells #[.int .i64 d] 3)).heap.size=w.heap.size+1:=by simp
 have g:Below w.heap.size w W:=by rw [i]; exact ((Below.refl _ _).alloc (Za4 _) _).alloc (by simp) _
 have l:W.heap[w.heap.size]?=some (.cells #[.int .i64 d] 3 (0,0)):=by
  rw [i]
  exact (Below.heap_alloc _ _ _ (by simp)).trans (heap_alloc_new w _)
 have y:W.heap[w.heap.size+1]?=some (.cells #[u] 22 (0,0)):=by
  rw [i];have:=heap_alloc_new (w.alloc (.cells #[.int .i64 d] 3)) (.cells #[u] 22)
  rwa [t] at this
 have J:W.heap.size=w.heap.size+1+1:=by rw [i]; simp
 have D:=hid i
 have b:Hid (∀X,Below W.heap.size W X→Below w.heap.size w X):=fun X hX=>g.trans (hX.mono g.size)
 have c:Hid (∀X,Below W.heap.size W X→X.cell? ⟨w.heap.size,0,none⟩=some (.int .i64 d)∧X.cell? ⟨w.heap.size+1,0,none⟩=some u):=fun X hX=>by
  have q0:=(hX.block w.heap.size (by omega)).trans l
  have T:=(hX.block (w.heap.size+1) (by omega)).trans y
  exact ⟨by simp [World.cell?,q0],by simp [World.cell?,T]⟩
 have R:Hid (∀X,Below W.heap.size W X→Calls Tryz.prog 67 #[u,.int .i64 ((d:Int)+1),.int .i64 20] X fun e w'=>e=.returned (.int .i64 0)∧Below W.heap.size W w'):=fun X hX=>by
  refine (ZIk 0 (d+1) 20 p u X (hu.below (b.out X hX) (Za4 _)) (by decide) (by decide)).mono ?_
  rintro e w' ⟨rfl,f⟩;refine ⟨?_,hX.trans (f.mono hX.size)⟩
  rw [if_neg (by simp [hp.1]),if_neg (by rw [ZQM hp.2]; decide)]
 have S:Hid (∀X,Below W.heap.size W X→Calls Tryz.prog 58 #[.slice (some ⟨X.heap.size,0,none⟩) 1 1,.int .i64 (d:Int)] (X.alloc (.cells #[u] 22)) fun e w'=>e=.returned (.int .i64 ((ZAK d [p]).length:Nat))∧Below W.heap.size W w'):=fun X hX=>by
  refine (ZCP 0 (d+1) d [p] _ _ (by omega) (by omega) (ZDl hd1 hd3 (fun r hr=>?_)) (ZLI (hu.below (b.out X hX) (Za4 _))) (by simp)).mono ?_
  ·simp only [List.mem_cons,List.not_mem_nil,or_false] at hr
   subst hr;exact hp
  ·rintro e w' ⟨rfl,f⟩
   exact ⟨rfl,(hX.alloc hX.size _).trans (f.mono (by have:=hX.size; simp; omega))⟩
 have Q:Hid (∀X,Below W.heap.size W X→Calls Tryz.prog 69 #[.slice ao A.length ac,.func (.func 68) #[] #[.pointer (some ⟨w.heap.size+1,0,none⟩),.pointer (some ⟨w.heap.size,0,none⟩)]] X fun e w'=>e=.returned (.bool false)∧Below W.heap.size W w'):=fun X hX=>by
  refine (ZNO 0 (fun o=>decide ((ZAK (d+1) [p,o]).length=1)) A _ ⟨w.heap.size+1,0,none⟩ ⟨w.heap.size,0,none⟩ X (hv.below (b.out X hX) (Za4 _)) (fun o O Y ov hY hov=>?_)).mono ?_
  ·have j:Below W.heap.size W Y:=hX.trans (hY.mono hX.size)
   obtain ⟨B,n⟩:=c.out Y j;refine (ZLJ d p o u ov _ _ Y hd1 hd3 hp (hA o O) (hu.below (b.out Y j) (Za4 _)) hov n B).mono ?_;rintro e w' ⟨rfl,f⟩;exact ⟨rfl,hY.trans (f.mono hY.size)⟩
  ·rintro e w' ⟨rfl,f⟩
   refine ⟨ZAW ?_,hX.trans (f.mono hX.size)⟩;rw [List.any_eq_false];intro o O;simp [h2 o O]
 have F:(((ZAK d [p]).length:Nat):Int)≠0:=by omega
 obtain ⟨U,V,m,_,_⟩:=ZAH hu;rw [hp.1] at m;subst m;obtain ⟨B,n⟩:=c.out W (Below.refl _ _);generalize (ZAK d [p]).length=rk at *
 have aa:((rk:Int) == 0)=false:=by simpa using F
 clear hu hv hp hA h1 h2 i g l y J t;go_enter Tryz.func41,Tryz.ntmps41
 go_upto_region 1 with fail
 rw [←D.out]
 go_wp2_with fail
 refine (R.out W (Below.refl _ _)).mono ?_;rintro e M ⟨rfl,a⟩;have G:=hid a;clear B n;obtain ⟨B,n⟩:=c.out M a;obtain ⟨E,P⟩:=c.out (M.alloc (.cells #[.slice U (d+1) V] 22)) (a.alloc a.size _);clear a
 go_wp2_with fail
 refine (S.out M G.out).mono ?_;rintro e w2 ⟨rfl,x⟩;have N:=hid x;clear B n E P x
 go_wp2_with fail
 refine (Q.out w2 N.out).mono ?_;rintro e w3 ⟨rfl,s⟩;have L:=hid s;clear s;go_wp2;go_ret;exact ⟨rfl,b.out _ L.out⟩
theorem ZBJ(d:Nat)(P:List (List Int))(v:Value)(w:World)(hd1:1≤d)(hd3:d≤3)(hG:PlG d P)(h6:P.length≤6)(hv:Mat 0 22 3 w v P) :
  Calls Tryz.prog 17 #[.int .i64 d,v] w fun e w'=>e=.returned (.int .i64 0)∧Below w.heap.size w w':=by
 obtain ⟨S,l,rfl,M,V⟩:=ZAE hv
 have z:Hid (∀k,k < P.length→∃a f D,S=some ⟨a,f,none⟩∧∀X,Below w.heap.size w X→X.cell? ⟨a,f+k,none⟩=some D∧Calls Tryz.prog 41 #[.int .i64 d,D,.slice (some ⟨a,f,none⟩) k l] X fun e w'=>e=.returned (.int .i64 0)∧Below w.heap.size w w'):=fun k r=>by
  obtain ⟨a,f,B,u,y,_,G,N⟩:=ZAP hv r;simp only [Za3] at y;obtain ⟨m,_,rfl⟩:=y;subst m
  refine ⟨a,f,u,rfl,fun X hX=>⟨(hX.cell (ZAI G)).trans G,?_⟩⟩
  have F:P.getD k []∈P:=ZAT r
  have t:Mat 0 22 3 X (.slice (some ⟨a,f,none⟩) k l) (P.take k):=by
   obtain ⟨J,a1,⟨ao,B,e,a2,O,Q,a5⟩,T⟩:=hv.below hX (Za4 _);simp only [Za3] at e;obtain ⟨rfl,_,rfl⟩:=e
   have c:(J.take k).length=k:=by rw [List.length_take]; omega
   refine ⟨J.take k,by rw [c,List.length_take]; omega,⟨some ⟨a,f,none⟩,l,by rw [c],by rw [c]; omega,O,fun i p=>?_,a5⟩,fun i p=>?_⟩
   ·rw [c] at p
    obtain ⟨b,o,q1,R,q3⟩:=Q i (by omega)
    exact ⟨b,o,q1,by rw [R,Zaa5 p],q3⟩
   ·rw [List.length_take] at p
    have:=T i (by omega)
    rw [Za2,Za2,Zaa5 (by omega),Zaa5 (by omega),←Za2,←Za2]
    exact this
  refine (ZGu d (P.getD k []) (P.take k) u _ X hd1 hd3 (hG.row _ F) (fun o ho=>hG.row o (Zaa7 ho)) (hG.one _ F) (fun o ho=>?_) (N.below hX (Za4 _)) t).mono ?_
  ·obtain ⟨i,p,e⟩:=List.getElem_of_mem ho
   rw [List.length_take] at p
   have:=hG.two i k (by omega) r
   rw [show P.getD i []=o by rw [←e]; simp [show i < P.length by omega]] at this
   exact this
  ·rintro e w' ⟨rfl,s⟩
   exact ⟨rfl,hX.trans (s.mono hX.size)⟩
 have g:∀(a f k:Nat),k≤P.length→∀X,(Instr.slice 25 (.slice (some ⟨a,f,none⟩) P.length l) none (some (.int .i64 (k:Int))) none).run Tryz.prog X=.ok (.slice (some ⟨a,f,none⟩) k l) X:=fun a f k r X=>by
  have y:(0:Int)≤(k:Int)∧(k:Int)≤(l:Int):=by omega
  have e2:k≤l:=by omega
  have Y:∀w,(Go.sizeOf 22).run Tryz.prog w=.ok 1 w:=fun w=>by kernel_rfl
  simp [Instr.slice,Instr.sliceBounds,Instr.sliceBound,run_underlying Tryz.underlying25,asIntOf,y,e2,Y,Addr.add,go_sem]
 have n:=hid g;clear hv hG g;go_enter Tryz.func17,Tryz.ntmps17;go_wp2
 go_loopw [19] (fun i wr=>∃k:Nat,k≤P.length∧i=.int .i64 (k:Int)∧Below w.heap.size w wr) (fun i _=>P.length-(intOf i).toNat)
 case atStart=>exact ⟨0,Za5 _,rfl,Below.refl _ _⟩
 case round=>
  obtain ⟨k,r,rfl,s⟩:=hrel
  by_cases c:k < P.length
  ·obtain ⟨a,f,D,m,E⟩:=z.out k c
   subst m;obtain ⟨U,j⟩:=E wr s;have HC:=hid j;have aa:=n.out a f k r
   have ae:(k:Int) < (P.length:Int):=by omega
   have L:(0:Int)≤(k:Int):=by omega
   clear E j s z n
   go_wp2_with fail
   refine HC.out.mono ?_;rintro e w2 ⟨rfl,x⟩;have A:=hid x;clear x U;go_wp2
   go_roundw
   case rel=>exact ⟨k+1,by omega,by go_num,A.out⟩
   case measure=>simp [intOf]; omega
  ·have HB:=hid s
   clear s z n;go_wp2;go_ret;exact ⟨rfl,HB.out⟩
theorem ZLK(d:Nat)(P:List (List Int))(v:Value)(w:World)(hd1:1≤d)(hd3:d≤3)(hG:PlG d P)(h6:P.length≤6)(hv:Mat 0 22 3 w v P) :
  Calls Tryz.prog 21 #[.int .i64 d,v] w fun e w'=>∃uo uc,e=.returned (.tuple #[.slice uo (grT d P P.length).length uc,.int .i64 0])∧Sl 0 9 w' (.slice uo (grT d P P.length).length uc) (ZAc (grT d P P.length))∧Below w.heap.size w w':=by
 have n:Hid (Calls Tryz.prog 17 #[.int .i64 d,v] w fun e w'=>e=.returned (.int .i64 0)∧Below w.heap.size w w'):=ZBJ d P v w hd1 hd3 hG h6 hv
 have l:Hid (∀X,Below w.heap.size w X→Calls Tryz.prog 34 #[.int .i64 d,v,.string ⟨#[43,45,48]⟩] X fun e w'=>∃u,e=.returned u∧Sl 0 9 w' u (ZAc (grT d P P.length))∧Below X.heap.size X w'):=fun X hX=>ZLH d P v X (hv.below hX (Za4 _)) hG.row hd1 hd3 h6
 clear hv hG;go_enter Tryz.func21,Tryz.ntmps21
 go_wp2_with fail
 refine n.out.mono ?_;rintro e m ⟨rfl,b⟩;have a:=hid b;clear b
 go_wp2_with fail
 refine (l.out m a.out).mono ?_;rintro e j ⟨u,rfl,f,c⟩;obtain ⟨uo,uc,rfl,_,_⟩:=ZDK f;have i:=hid f;have g:Hid (Below w.heap.size w j):=a.out.trans (c.mono a.out.size);clear f c;go_wp2
 refine bodyPost_ret (v:=.tuple #[.slice uo (grT d P P.length).length uc,.int .i64 0]) (by simp [results,Tryz.results21,go_sem]) rfl ⟨uo,uc,rfl,i.out,g.out⟩
end Go.Proofs.YtgfnmkenpgnllaaGreat
namespace Go.Proofs.YtgfnmkenpgnllaaGreat
open Go.RowKit
attribute [local go_sem ↓] Go.wp_at_zero Go.wp_at_succ
theorem ZG8(B:Nat)(a x:List Int)(u v:Value)(w:World)(hu:Sl B 3 w u (ZAB a))(hv:Sl B 3 w v (ZAB x))(hs:Swe a x) :
  Calls Tryz.prog 109 #[u,v] w fun e w'=>e=.returned (.int .i64 (ZC9 a x))∧∃n,w'=w.drewN n:=by
 obtain ⟨ao,U,j,A,L⟩:=ZAH hu;obtain ⟨N,m,r,z,J⟩:=ZAH hv;subst j r;have T:=hid hu;have E:Hid (Sl B 3 w (.slice N x.length m) (ZAB x)):=hv;have g:=hid hs;have F:a.length≤x.length:=hs.1;have X:a.length≤8:=hs.2.1;clear hu hv hs;go_enter Tryz.func109,Tryz.ntmps109;go_wp2
 go_loopw [5,9] (fun s i wr=>∃k:Nat,k≤a.length∧i=.int .i64 k∧s=.int .i64 (Lin.sumN k fun i=>a.getD i 0*x.getD i 0)∧∃n,wr=w.drewN n) (fun _ i _=>a.length-(intOf i).toNat)
 case atStart=>exact ⟨0,Za5 _,rfl,rfl,0,rfl⟩
 case round=>
  obtain ⟨k,R,rfl,rfl,n,rfl⟩:=hrel
  by_cases hlt:k < a.length
  ·have c:k < x.length:=by omega
   obtain ⟨b,o,Y,hs,Q,O⟩:=ZAJ T.out hlt;simp only [Za3] at hs;obtain ⟨rfl,_,rfl⟩:=hs;obtain ⟨b2,o2,G,f,D,y⟩:=ZAJ E.out c;simp only [Za3] at f;obtain ⟨rfl,_,rfl⟩:=f;have V:=ZF1 g.out k R
   have t:=ZF1 g.out (k+1) (by omega)
   have M:(a.getD k 0*x.getD k 0).natAbs≤1000000000000000:=ZHn (g.out.2.2.1 _ (by simp [hlt])) (g.out.2.2.2 _ (by simp [c]))
   have d:Hid ((Lin.sumN (k+1) fun i=>a.getD i 0*x.getD i 0)=(Lin.sumN k fun i=>a.getD i 0*x.getD i 0)+a.getD k 0*x.getD k 0):=rfl
   rw [d.out] at t
   generalize (Lin.sumN k fun i=>a.getD i 0*x.getD i 0)=S at *
   generalize a.getD k 0=p at *;generalize x.getD k 0=q at *
   have P:wrap64 (S+wrap64 (p*q))=S+p*q:=by
    rw [IntWalk.wrap64_in (p*q) ⟨by omega,by omega⟩,IntWalk.wrap64_in _ ⟨by omega,by omega⟩]
   clear V t M;go_wp2
   go_quiet (fail)
   go_wp2
   go_roundw
   case rel=>exact ⟨k+1,by omega,by go_num,by rw [d.out,P],_,rfl⟩
   case measure=>simp [intOf]; omega
  ·have l:k=a.length:=by omega
   subst l;go_wp2;go_ret;exact ⟨rfl,n,rfl⟩
theorem ZNg(B:Nat)(f:List Int→Bool)(m:List (List Int))(v:Value)(p1 p2 p3:Addr)(w:World)(hv:Mat B 22 3 w v m)
 (hc:∀r∈m,∀(W:World) (rv:Value),Below w.heap.size w W→Sl B 3 W rv (ZAB r)→Calls Tryz.prog 108 #[rv,.pointer (some p1),.pointer (some p2),.pointer (some p3)] W fun e w'=>e=.returned (.bool (f r))∧Below w.heap.size w w') :
  Calls Tryz.prog 98 #[v,.func (.func 108) #[] #[.pointer (some p1),.pointer (some p2),.pointer (some p3)]] w fun e w'=>(∃z,e=.returned (.int .i64 z)∧-1≤z∧z < m.length∧decide (0≤z)=m.any f)∧Below w.heap.size w w':=by
 obtain ⟨S,E,t,N,P⟩:=ZAE hv;subst t;have O:Hid (Mat B 22 3 w (.slice S m.length E) m):=hv;have T:=hid hc;clear hv hc;go_enter Tryz.func98,Tryz.ntmps98;go_wp2
 go_loopw [8] (fun i wr=>∃k:Nat,k≤m.length∧i=.int .i64 k∧(m.take k).any f=false∧Below w.heap.size w wr) (fun i _=>m.length-(intOf i).toNat)
 case atStart=>exact ⟨0,Za5 _,rfl,by simp,Below.refl _ _⟩
 case round=>
  obtain ⟨k,X,rfl,j,L⟩:=hrel;have J:=hid j;have F:=hid L;clear j L
  by_cases hlt:k < m.length
  ·obtain ⟨V,o,U,G,M,R,Q,d⟩:=ZAP (O.out.below F.out (Za4 _)) hlt
   simp only [Za3] at M;obtain ⟨rfl,D,rfl⟩:=M;clear D;have s:Hid ((m.take (k+1)).any f=f (m.getD k [])):=ZED (p:=f) hlt J.out
   have g:Hid (m.getD k []∈m):=by
    show _∈_
    simp [hlt]
   have b:Hid (Calls Tryz.prog 108 #[G,.pointer (some p1),.pointer (some p2),.pointer (some p3)] wr fun e w'=>e=.returned (.bool (f (m.getD k [])))∧Below w.heap.size w w'):=T.out _ g.out wr G F.out d
   clear d;generalize m.getD k []=x at *
   obtain ⟨fb,a⟩:∃fb,fb=f x:=⟨_,rfl⟩
   have c:=hid a;rw [←a] at b;clear a
   go_wp2_with fail
   refine b.out.mono ?_;rintro e Y ⟨rfl,n⟩;have l:=hid n;clear n b
   cases hf:fb
   ·have A:Hid (f x=false):=by rw [←hf]; exact c.out.symm
    clear hf;go_wp2
    go_roundw
    case rel=>exact ⟨k+1,by omega,by go_num,by rw [s.out]; exact A.out,l.out⟩
    case measure=>simp [intOf]; omega
   ·have A:Hid (f x=true):=by rw [←hf]; exact c.out.symm
    clear hf;go_wp2;go_ret
    refine ⟨⟨_,rfl,by omega,by omega,?_⟩,l.out⟩
    rw [decide_eq_true (by omega)]
    exact (List.any_eq_true.2 ⟨x,g.out,A.out⟩).symm
  ·have y:Hid (m.take k=m):=Zaa2 (by omega)
   go_wp2;go_ret
   exact ⟨⟨-1,rfl,by omega,by omega,by rw [←y.out,J.out]; rfl⟩,F.out⟩
theorem ZNh(B:Nat)(f:List Int→Bool)(m:List (List Int))(v:Value)(p1 p2 p3:Addr)(w:World)(hv:Mat B 22 3 w v m)
 (hc:∀r∈m,∀(W:World) (rv:Value),Below w.heap.size w W→Sl B 3 W rv (ZAB r)→Calls Tryz.prog 108 #[rv,.pointer (some p1),.pointer (some p2),.pointer (some p3)] W fun e w'=>e=.returned (.bool (f r))∧Below w.heap.size w w') :
  Calls Tryz.prog 69 #[v,.func (.func 108) #[] #[.pointer (some p1),.pointer (some p2),.pointer (some p3)]] w fun e w'=>e=.returned (.bool (m.any f))∧Below w.heap.size w w':=by
 have j:Hid (Calls Tryz.prog 98 #[v,.func (.func 108) #[] #[.pointer (some p1),.pointer (some p2),.pointer (some p3)]] w fun e w'=>(∃z,e=.returned (.int .i64 z)∧-1≤z∧z < m.length∧decide (0≤z)=m.any f)∧Below w.heap.size w w'):=ZNg B f m v p1 p2 p3 w hv hc
 obtain ⟨s,p,b,g,d⟩:=ZAE hv;subst b;clear hv hc;generalize m.any f=R at *;go_enter Tryz.func69,Tryz.ntmps69
 go_wp2_with fail
 refine j.out.mono ?_;rintro e w' ⟨⟨z,rfl,n,o,a⟩,c⟩;have l:=hid a;have i:=hid c;clear a c;go_wp2;go_ret;exact ⟨ZAW l.out,i.out⟩
theorem ZL0(d:Nat)(r y:List Int)(ww:Int)(ro:Option Addr)(rc:Nat)(xo:Option Addr)(xc:Nat)(b1 b2 b3:Nat)(w:World)(hr:Sl 0 3 w (.slice ro (d+1) rc) (ZAB r))(hx:Sl 0 3 w (.slice xo d xc) (ZAB y))(hrl:r.length=d+1)(hyl:y.length=d)(hrb:∀z∈r,z.natAbs≤20)(hyb:∀z∈y,z.natAbs≤1000000000000)(hwb:ww.natAbs≤1000000000000)(hd:d≤3)
 (c1:w.cell? ⟨b1,0,none⟩=some (.int .i64 d))(c2:w.cell? ⟨b2,0,none⟩=some (.slice xo d xc))(c3:w.cell? ⟨b3,0,none⟩=some (.int .i64 ww)) :
  Calls Tryz.prog 108 #[.slice ro (d+1) rc,.pointer (some ⟨b1,0,none⟩),.pointer (some ⟨b2,0,none⟩),.pointer (some ⟨b3,0,none⟩)] w fun e w'=>e=.returned (.bool (decide (r.getD d 0*ww < ZC9 (r.take d) y)))∧∃n,w'=w.drewN n:=by
 obtain ⟨B,v,s,b,j,x⟩:=ZAJ hr (k:=d) (by rw [hrl]; omega)
 rw [hrl] at b j;simp only [Za3] at b;obtain ⟨rfl,-,rfl⟩:=b;have a:=hr;rw [←hrl] at a
 have f:=Sl.takeE (n:=d) a (by rw [hrl]; omega)
 have i:Hid (∀m,Calls Tryz.prog 109 #[.slice (some ⟨B,v,none⟩) d rc,.slice xo d xc] (w.drewN m) fun e w'=>e=.returned (.int .i64 (ZC9 (r.take d) y))∧∃k,w'=(w.drewN m).drewN k):=fun m=>
  ZG8 0 _ y _ _ _ (f.drewN m) (hx.drewN m) ⟨by rw [hyl]; simp; omega,by simp; omega,fun z hz=>by have:=hrb z (Zaa7 hz); omega,hyb⟩
 have c:=hrb (r.getD d 0) (ZAn (by rw [hrl]; omega))
 have l:(r.getD d 0*ww).natAbs≤20*1000000000000:=by rw [Int.natAbs_mul]; exact Nat.mul_le_mul c hwb
 generalize ZC9 (r.take d) y=D at *;generalize r.getD d 0=rd at *
 have g:wrap64 (rd*ww)=rd*ww:=IntWalk.wrap64_in _ ⟨by omega,by omega⟩
 have A:IntKind.i64.wrap (rd*ww)=rd*ww:=by rw [IntWalk.i64_left]; exact g
 have t:(d:Int) < (d:Int)+1:=by omega
 have p:(0:Int)≤(d:Int):=by omega
 have E:(d:Int)≤(rc:Int):=by omega
 have o:d≤rc:=by omega
 clear hr a hx f hrb hyb c l hwb;go_enter Tryz.func108,Tryz.ntmps108;go_wp2
 go_quiet ((go_at_call 109; exact Calls.quiet_of (w:=w) (i.out _)))
 go_wp2;go_ret;exact ⟨rfl,_,rfl⟩
def inK(rows:List (List Int))(d:Nat)(p:List Int):Bool:=!(rows.any fun r=>decide (r.getD d 0*p.getD d 0 < ZC9 (r.take d) (p.take d)))
theorem ZFU(W:World)(o1 o2:Obj):((W.alloc o1).alloc o2).drew.heap[W.heap.size]?=some o1∧((W.alloc o1).alloc o2).drew.heap[W.heap.size+1]?=some o2∧Below W.heap.size W ((W.alloc o1).alloc o2).drew:=by
 have b:=ZAG W o1;have a:=ZAG (W.alloc o1) o2;have c:=ZAM (W.alloc o1) o2;rw [size_alloc] at c
 exact ⟨(a.block _ (by rw [size_alloc]; omega)).trans (ZAM _ _),c,(b.trans (a.mono b.size)).drew⟩
theorem ZNi(d:Nat)(rows:List (List Int))(p:List Int)(v:Value)(po:Option Addr)(pc:Nat)(w:World)(hv:Mat 0 22 3 w v rows)(hp:Sl 0 3 w (.slice po (d+1) pc) (ZAB p))(hpl:p.length=d+1)(hpb:∀z∈p,z.natAbs≤1000000000000)(hc:CutOk d rows) :
  Calls Tryz.prog 82 #[.agg #[.int .i64 d,v],.slice po (d+1) pc] w fun e w'=>e=.returned (.bool (inK rows d p))∧Below w.heap.size w w':=by
 obtain ⟨ro,rc,Y,ar,aw⟩:=ZAE hv;subst Y
 obtain ⟨F,G,au,A,af,B⟩:=ZAJ hp (k:=d) (by rw [hpl]; omega)
 rw [hpl] at A af;simp only [Za3] at A;obtain ⟨rfl,-,rfl⟩:=A;have t:=hp;rw [←hpl] at t
 have L:=Sl.takeE (n:=d) t (by rw [hpl]; omega)
 obtain ⟨b,U,g,aa,f⟩:=ZCS w d (.slice ro rows.length rc)
 have J:=hpb (p.getD d 0) (ZAn (by rw [hpl]; omega))
 have ag:Hid (∀W c j,Below b.heap.size b W→W.heap[c]?=some (.cells #[.slice (some ⟨F,G,none⟩) d pc] 22 (0,0))→W.heap[j]?=some (.cells #[.int .i64 (p.getD d 0)] 3 (0,0))→Calls Tryz.prog 69 #[.slice ro rows.length rc,.func (.func 108) #[] #[.pointer (some ⟨w.heap.size,0,none⟩),.pointer (some ⟨c,0,none⟩),.pointer (some ⟨j,0,none⟩)]] W fun e w'=>e=.returned (.bool (rows.any fun r=>decide (r.getD d 0*p.getD d 0 < ZC9 (r.take d) (p.take d))))∧Below W.heap.size W w'):=fun W c j l T N=>by
  have E:Below w.heap.size w W:=g.trans (l.mono g.size)
  refine ZNh 0 (fun r=>decide (r.getD d 0*p.getD d 0 < ZC9 (r.take d) (p.take d))) rows _ ⟨w.heap.size,0,none⟩ ⟨c,0,none⟩ ⟨j,0,none⟩ W (hv.below E (Za4 _)) fun r hr X rv hX hrs=>?_
  obtain ⟨uo,uc,hu,_,_⟩:=ZAH hrs;rw [hc.len r hr] at hu;subst hu;have q2:=(hX.block c (Zaa3.1 T).1).trans T;have q3:=(hX.block j (Zaa3.1 N).1).trans N;have ae:Below w.heap.size w X:=E.trans (hX.mono E.size)
  refine (ZL0 d r (p.take d) (p.getD d 0) uo uc (some ⟨F,G,none⟩) pc w.heap.size c j X hrs (L.below ae (Za4 _)) (hc.len r hr) (by rw [List.length_take,hpl]; omega) (hc.bd r hr) (fun z hz=>hpb z (Zaa7 hz)) J hc.d3 (f X (l.trans (hX.mono l.size))).1 (by simp [World.cell?,q2]) (by simp [World.cell?,q3])).mono ?_
  rintro e w' ⟨rfl,n,rfl⟩;exact ⟨rfl,hX.trans (Qe.below ⟨n,rfl⟩)⟩
 have O:=hid g
 have ak:Hid (∀W,Below b.heap.size b W→W.cell? ⟨w.heap.size,1,none⟩=some (.slice ro rows.length rc)):=fun W l=>(f W l).2
 have aj:Hid (inK rows d p=!(rows.any fun r=>decide (r.getD d 0*p.getD d 0 < ZC9 (r.take d) (p.take d)))):=rfl
 have i:b.cell? ⟨F,G+d,none⟩=some (.int .i64 (p.getD d 0)):=(g.cell (ZAI B)).trans B;have am:=hid U;obtain ⟨c0,c1⟩:=f b (Below.refl _ _)
 have m:Hid (∀X,Below b.heap.size b X→X.cell? ⟨w.heap.size,0,none⟩=some (.int .i64 d)∧X.cell? ⟨F,G+d,none⟩=some (.int .i64 (p.getD d 0))):=fun X hX=>⟨(f X hX).1,(hX.cell (ZAI i)).trans i⟩
 have D:∀o,Below b.heap.size b (b.drew.alloc o):=fun o=>((Below.refl _ _).drew).alloc (Za4 _) o
 have V:∀o,Below b.heap.size b (b.alloc o):=fun o=>(Below.refl _ _).alloc (Za4 _) o
 have P:∀o o',Below b.heap.size b ((b.drew.alloc o).alloc o'):=fun o o'=>(D o).alloc (D o).size o'
 have ai:∀o o' (a:Addr) (x:Value),b.heap.size≤a.block→Below b.heap.size b (((b.drew.alloc o).alloc o').setCell a x):=fun o o' a x h=>(P o o').setCell h x
 have ay:(d:Int) < (d:Int)+1:=by omega
 have aq:(0:Int)≤(d:Int):=by omega
 have az:(d:Int)≤(pc:Int):=by omega
 have an:d≤pc:=by omega
 clear hv hp t L g aa f U J hpb B hc
 generalize (rows.any fun r=>decide (r.getD d 0*p.getD d 0 < ZC9 (r.take d) (p.take d)))=R at *
 generalize inK rows d p=K at *;generalize p.getD d 0=z at *;go_enter Tryz.func82,Tryz.ntmps82
 go_upto_region 1 with fail
 rw [←am.out]
 go_cut [5,6] from 7 (fun x y wx=>∃c j,x=.pointer (some ⟨c,0,none⟩)∧y=.pointer (some ⟨j,0,none⟩)∧wx.heap[c]?=some (.cells #[.slice (some ⟨F,G,none⟩) d pc] 22 (0,0))∧wx.heap[j]?=some (.cells #[.int .i64 z] 3 (0,0))∧Below b.heap.size b wx)
 case first=>
  go_region_held3 (fun X=>X.cell? ⟨w.heap.size,0,none⟩=some (.int .i64 d)∧X.cell? ⟨F,G+d,none⟩=some (.int .i64 z)) (first | exact m.out _ (D _) | exact m.out _ (V _) | exact m.out _ (P _ _) | exact m.out _ (ai _ _ _ _) | go_keep) (fail)
  all_goals go_wp2
  all_goals go_meet
  all_goals first
   | exact ⟨b.heap.size+1,b.heap.size,rfl,rfl,(ZFU b _ _).2.1,(ZFU b _ _).1,(ZFU b _ _).2.2⟩
   | exact ⟨b.heap.size,b.heap.size+1,rfl,rfl,(ZFU b _ _).1,(ZFU b _ _).2.1,(ZFU b _ _).2.2⟩
 case rest=>
 obtain ⟨c,j,rfl,rfl,T,N,l⟩:=hcut;have s:=ag.out wc c j l T N;have M:Hid (Below w.heap.size w wc):=O.out.trans (l.mono O.out.size);have S:=hid s;have c9:=ak.out wc l;clear s l T N c0 c1 i
 go_wp2_with fail
 refine S.out.mono ?_;rintro e w5 ⟨rfl,Q⟩;have ah:Hid (Below w.heap.size w w5):=M.out.trans (Q.mono M.out.size);clear Q;go_wp2;go_ret
 exact ⟨by rw [aj.out]; rfl,ah.out⟩
end Go.Proofs.YtgfnmkenpgnllaaGreat
