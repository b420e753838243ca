import Derived.Test.YtgfnmkenpgnllaaGreatOrdB
import Derived.Test.YtgfnmkenpgnllaaGreatSgE
set_option maxRecDepth 100000
set_option maxHeartbeats 3200000
namespace Go.Proofs.YtgfnmkenpgnllaaGreat
open Go.RowKit
def SlN(B:Nat)(w:World)(v:Value)(xs:List Value):Prop:=Sl 0 3 w v xs∧∀b o n c,v=.slice (some ⟨b,o,none⟩) n c→B≤b
theorem SlN.below{B N:Nat}{w w':World}{v:Value}{xs:List Value}(h:SlN B w v xs)(hb:Below N w w')(hN:w.heap.size≤N):SlN B w' v xs:=⟨h.1.below hb hN,h.2⟩
theorem SlN.alloc{B:Nat}{w:World}{v:Value}{xs:List Value}(h:SlN B w v xs)(o:Obj):SlN B (w.alloc o) v xs:=⟨h.1.alloc o,h.2⟩
theorem SlN.mono{B B':Nat}{w:World}{v:Value}{xs:List Value}(h:SlN B w v xs)(hB:B'≤B):SlN B' w v xs:=⟨h.1,fun b o n c e=>Zaa8 hB (h.2 b o n c e)⟩
theorem SlN.own{B n:Nat}{w:World}{v:Value}{l:List Int}(h:w.ownsRow B 3 1 v n (ZAB l)):SlN B w v (ZAB l):=by
 refine ⟨Sl.own h,fun b o k c e=>?_⟩
 subst e;exact (h.lt b rfl).1
def FrN(B:Nat)(w:World)(v:Value)(m:List (List Int)):Prop:=
 ∃vs,vs.length=m.length∧w.ownsRow B 22 1 v m.length vs∧∀i,i < m.length→SlN B w (vs.getD i (.slice none 0 0)) (ZAB (m.getD i []))
theorem FrN.fr{B:Nat}{w:World}{v:Value}{m:List (List Int)}(h:FrN B w v m):Fr B 22 3 w v m:=by
 obtain ⟨c,a,b,d⟩:=h
 exact ⟨c,a,b,fun i hi=>(d i hi).1⟩
theorem FrN.nil(B:Nat)(w:World):FrN B w (.slice none 0 0) []:=⟨[],rfl,World.ownsRow_nil _ _ _ _,fun i hi=>absurd hi (by simp)⟩
theorem FrN.below{B N:Nat}{w w':World}{v:Value}{m:List (List Int)}(h:FrN B w v m)(hb:Below N w w')(hN:w.heap.size≤N):FrN B w' v m:=by
 obtain ⟨c,a,b,d⟩:=h
 exact ⟨c,a,ZAN b hb hN,fun i hi=>(d i hi).below hb hN⟩
theorem FrN.push{B:Nat}{w w':World}{v v' u:Value}{m:List (List Int)}{vs:List Value}{zs:List Int}
 (h1:vs.length=m.length)(h2:w.ownsRow B 22 1 v m.length vs)(h3:∀i,i < m.length→SlN B w (vs.getD i (.slice none 0 0)) (ZAB (m.getD i [])))(hu:SlN B w u (ZAB zs))
 (ho:w'.ownsRow B 22 1 v' (m.length+1) (vs ++ [u]))(hg:w.grownBy w' v.ownBlock):FrN B w' v' (m ++ [zs]):=by
 have d:∀k,v.ownBlock=some k→0≤k∧∀cur,w.heap[k]?≠some (.cells cur 3 (0,0)):=fun k hk=>⟨Za5 _,(ZAz h2 (by decide) k hk).2⟩
 refine ⟨vs ++ [u],by simp [h1],by simpa using ho,fun i hi=>?_⟩
 by_cases hlt:i < m.length
 ·have a:(vs ++ [u]).getD i (.slice none 0 0)=vs.getD i (.slice none 0 0):=by
   simp only [Za2]; rw [Za7 (by omega)]
  have b:(m ++ [zs]).getD i []=m.getD i []:=by
   simp only [Za2]; rw [Za7 (by omega)]
  rw [a,b];exact ⟨(h3 i hlt).1.grown hg d,(h3 i hlt).2⟩
 ·have c:i=m.length:=by simp at hi; omega
  subst c
  have a:(vs ++ [u]).getD m.length (.slice none 0 0)=u:=by
   rw [←h1]; simp
  have b:(m ++ [zs]).getD m.length []=zs:=by simp
  rw [a,b];exact ⟨hu.1.grown hg d,hu.2⟩
end Go.Proofs.YtgfnmkenpgnllaaGreat
namespace Go.Proofs.YtgfnmkenpgnllaaGreat
open Go.RowKit
attribute [local go_sem ↓] Go.wp_at_zero Go.wp_at_succ
theorem ZPU(B:Nat)(l:List Int)(v:Value)(i:Nat)(w:World)(hv:Sl B 3 w v (ZAB l))(hr:∀z∈l,ZFo z)(hl:l.length≤9223372036854775807)(hi:i≤1000000) :
  Calls Tryz.prog 23 #[v,.int .i64 i] w fun e w'=>∃z,e=.returned (.int .i64 z)∧(0≤z∧z≤4611686018427387904)∧Below w.heap.size w w':=by
 obtain ⟨P,L,f,p,E⟩:=ZAH hv;subst f
 by_cases h0:l.length=0
 ·rw [h0]
  clear hv;go_enter Tryz.func23,Tryz.ntmps23;go_wp2;go_ret
  exact ⟨_,rfl,by omega,Below.refl _ _⟩
 ·have j:i % l.length < l.length:=Nat.mod_lt _ (by omega)
  obtain ⟨b,o,N,m,O,G⟩:=ZAJ hv j;simp only [Za3] at m;obtain ⟨rfl,_,rfl⟩:=m
  have a:l.getD (i % l.length) 0∈l:=by simp [j]
  have d:ZFo (l.getD (i % l.length) 0):=hr _ a
  have t:Hid (Calls Tryz.prog 4 #[.int .i64 (l.getD (i % l.length) 0),.int .i64 1000003] w.drew fun e w'=>∃z,e=.returned (.int .i64 z)∧(0≤z∧z < 1000003)∧w'=w.drew):=ZC8 _ _ _ (by omega) (by omega) d
  generalize c:l.getD (i % l.length) 0=z0 at *;have s:i / l.length≤1000000:=Zaa8 (Nat.div_le_self _ _) hi
  have M:(i:Int).tmod (l.length:Int)=((i % l.length:Nat):Int):=by rw [Int.tmod_eq_emod_of_nonneg (by omega)]; rfl
  have r:(i:Int).tdiv (l.length:Int)=((i / l.length:Nat):Int):=by rw [Int.tdiv_eq_ediv_of_nonneg (by omega)]; rfl
  clear hv hr a d c;generalize i % l.length=k at *;generalize i / l.length=q at *;generalize l.length=n at *
  have g:¬(n:Int)=0:=by omega
  have A:((n:Int) == 0)=false:=by rw [beq_eq_false_iff_ne]; exact g
  have y:(0:Int)≤(k:Int):=by omega
  have F:(k:Int) < (n:Int):=by omega
  go_enter Tryz.func23,Tryz.ntmps23;go_wp2
  go_region_law (refine ZFI (o:={ dst:=some 17,op:=_,type:=_,pos:=_,after:=_,guard:=_ }) (by rfl) 4 _ _ 3 3 (by rfl) _ _ (by rfl) (by rfl) ⟨_,Tryz.func4,by rfl,by rfl⟩ ?_; refine (t.out).mono ?_; rintro e Q ⟨z,rfl,c,rfl⟩; refine ⟨_,rfl,?_⟩; have J:=c.1; have x:=c.2; clear c)
  all_goals
   have D:IntKind.i64.wrap (z+IntKind.i64.wrap (IntKind.i64.wrap (q:Int)*7919))=z+q*7919:=by
    rw [IntWalk.i64_left,IntWalk.i64_left,IntWalk.i64_left,IntWalk.wrap64_in (q:Int) ⟨by omega,by omega⟩,IntWalk.wrap64_in ((q:Int)*7919) ⟨by omega,by omega⟩,IntWalk.wrap64_in _ ⟨by omega,by omega⟩]
   go_wp2;go_ret
   exact ⟨_,rfl,by rw [D]; omega,Below.drew (Below.refl _ _)⟩
theorem ZG3(B:Nat)(l:List Int)(v:Value)(fr n many wd:Nat)(w:World)(hv:Sl B 3 w v (ZAB l))(hr:∀z∈l,ZFo z)(hl:l.length≤9223372036854775807)(hfr:fr≤1000)(hn:n≤100)(hmy:many≤100)(hwd:wd≤1000000) :
  Calls Tryz.prog 22 #[v,.int .i64 fr,.int .i64 n,.int .i64 many,.int .i64 wd] w fun e w'=>∃x m,e=.returned x∧m.length=many∧Box n wd m∧FrN w.heap.size w' x m∧Below w.heap.size w w':=by
 obtain ⟨i0,hi,ar,O,aa⟩:=info_parts Tryz.info22;obtain ⟨i3,aq,S,T,G⟩:=info_parts Tryz.info3;obtain ⟨ao,D,aC,aH,aF⟩:=ZAH hv;subst aC;have HV:Hid (Sl B 3 w (.slice ao l.length D) (ZAB l)):=hv;have HR:=hid hr;have aD:=hid hl;clear hv hr hl;go_enter Tryz.func22,Tryz.ntmps22;go_wp2
 go_loopw [11,12] (fun x i wr=>∃(k:Nat) (m:List (List Int)),k≤many∧i=.int .i64 k∧m.length=k∧Box n wd m∧FrN w.heap.size wr x m∧Below w.heap.size w wr) (fun _ i _=>many-(intOf i).toNat)
 case atStart=>exact ⟨0,[],Za5 _,rfl,rfl,(fun r hr=>absurd hr (by simp)),FrN.nil _ _,Below.refl _ _⟩
 case round=>
  obtain ⟨k,m,hk,rfl,g,P,ak,a⟩:=hrel
  obtain ⟨A,rfl⟩:∃A,A=wr:=⟨wr,rfl⟩
  have b:=hid g;have ag:=hid P;have aj:=hid ak;have HB:=hid a;have aG:w.heap.size≤A.heap.size:=a.size;clear ak a g P
  by_cases hlt:k < many
  ·have au:Hid (Sl B 3 A (.slice ao l.length D) (ZAB l)):=HV.out.below HB.out (Za4 _)
   have ay:k*n≤10000:=Zaa8 (Nat.mul_le_mul (show k≤100 by omega) hn) (by decide)
   obtain ⟨E,o⟩:∃E,E=k*n:=⟨_,rfl⟩
   have aJ:(k:Int)*(n:Int)=(E:Int):=by rw [o]; simp
   rw [←o] at ay;clear o
   obtain ⟨M,hM⟩:∃M,M=A.heap.size:=⟨_,rfl⟩
   have HM:=hid hM
   have ah:w.heap.size≤M:=by omega
   clear hM;go_wp2
   go_loopw [13,14] (fun x i wq=>∃(j:Nat) (r:List Int),j≤n∧i=.int .i64 j∧r.length=j∧(∀z∈r,-(wd:Int)≤z∧z≤wd)∧wq.ownsRow M 3 1 x j (ZAB r)∧Below M A wq) (fun _ i _=>n-(intOf i).toNat)
   case atStart=>exact ⟨0,[],Za5 _,rfl,rfl,(fun r hr=>absurd hr (by simp)),World.ownsRow_nil _ _ _ _,Below.refl _ _⟩
   case round=>
    obtain ⟨j,r,hj,rfl,ai,Y,t,a⟩:=hrel
    obtain ⟨p,rfl⟩:∃p,p=wr:=⟨wr,rfl⟩
    have J:=hid t;have f:=hid a;have d:=hid ai;have X:=hid Y
    have y:M≤p.heap.size:=by have:=a.size; rw [HM.out]; exact this
    clear t a ai Y;obtain ⟨xo,xc,aB⟩:=ZAD J.out;subst aB
    by_cases hjl:j < n
    ·have an:Hid (Sl B 3 p (.slice ao l.length D) (ZAB l)):=au.out.below f.out (by rw [HM.out]; exact Za4 _)
     have am:Hid ((fr:Int)+E+j=((fr+E+j:Nat):Int)):=by
      show _=_
      omega
     go_wp2_with fail
     rw [am.out]
     refine (ZPU B l _ (fr+E+j) p an.out HR.out aD.out (by omega)).mono ?_
     rintro e w1 ⟨c,rfl,hc,ae⟩
     have HC:Hid (ZFo c):=⟨by have:=hc.1; omega,by have:=hc.2; omega⟩
     have s:=hid ae;clear hc ae
     go_wp2_with fail
     refine (ZC8 c (2*(wd:Int)+1) w1 (by omega) (by omega) HC.out).mono ?_
     rintro e w2 ⟨z,rfl,hz,rfl⟩;have O:=hz.1;have aa:=hz.2
     have HZ:Hid (-(wd:Int)≤z-wd∧z-wd≤wd):=⟨by omega,by omega⟩
     have aK : -1000000≤z-wd:=by omega
     have aI:z-wd≤1000000:=by omega
     have af:Hid (w2.ownsRow M 3 1 (.slice xo j xc) j (ZAB r)):=ZAN J.out s.out (Za4 _);have Q:Hid (Below M A w2):=f.out.trans (s.out.mono y);have U:M≤w2.heap.size:=Zaa8 y s.out.size;clear hz J f s HC
     go_wp2_with (first | (at_builtin; refine wpList_append_own _ rfl _ _ 22 rfl M 3 i3 (.int .i64 0) 1 8 Tryz.underlying22 aq S T G rfl (by decide) _ _ _ rfl (af.out.alloc _) ⟨w2.heap.size,0,none⟩ 1 1 [.int .i64 (z-wd)] rfl rfl (ZAQ _ _ _) (ZA2 _) ?c3 ?c4 ?c5 ?_))
     case c3=>unfold maxLen; omega
     case c4=>omega
     case c5=>simp; omega
     intro v' V L F _
     have R:=ZBN (z:=z-wd) (N:=j+1) U (l:=r) (by rw [d.out]; exact af.out) Q.out (by rw [d.out]; exact L) F (by rw [d.out])
     have R1:Hid (V.ownsRow M 3 1 v' (j+1) (ZAB (r ++ [z-wd]))):=R.1;have R2:Hid (Below M A V):=R.2;clear R L F;go_wp2
     go_roundw
     case rel=>exact ⟨j+1,r ++ [z-wd],by omega,by go_num,by simp [d.out],ZKU X.out HZ.out,R1.out,R2.out⟩
     case measure=>simp [intOf]; omega
    ·have aE:j=n:=by omega
     subst aE;have HX:Hid (SlN w.heap.size p (.slice xo j xc) (ZAB r)):=(SlN.own J.out).mono ah
     have az:Hid (FrN w.heap.size p u11 m):=aj.out.below f.out (by rw [HM.out]; exact Za4 _)
     have aA:Hid (Below w.heap.size w p):=HB.out.trans (f.out.mono ah);obtain ⟨vs,g1,g2,g3⟩:=az.out;have g:=b.out;rw [g] at g1 g2 g3;have G1:=hid g1;have G2:=hid g2;have G3:=hid g3;clear g1 g2 g3 g J hjl
     go_wp2_with (first | (at_builtin; refine wpList_append_own _ rfl _ _ 25 rfl w.heap.size 22 i0 (.slice none 0 0) 1 24 Tryz.underlying25 hi ar O aa rfl (by decide) _ _ _ rfl (G2.out.alloc _) ⟨p.heap.size,0,none⟩ 1 1 [.slice xo j xc] rfl rfl (ZAQ _ _ _) (ZAL _ _ _) ?d3 ?d4 ?d5 ?_))
     case d3=>unfold maxLen; omega
     case d4=>omega
     case d5=>simp; omega
     intro v' V L F _
     have R1:Hid (FrN w.heap.size V v' (m ++ [r])):=
      FrN.push (m:=m) (u:=.slice xo j xc) (zs:=r) (by rw [b.out]; exact G1.out) (by rw [b.out]; exact G2.out.alloc _)
       (fun i hi=>(G3.out i (by rw [b.out] at hi; exact hi)).alloc _) (HX.out.alloc _) (by rw [b.out]; exact L) F
     have R2:Hid (Below w.heap.size w V):=(aA.out.alloc (by omega) _).grown F (by simp; omega) (fun x hx=>(G2.out.lt x hx).1)
     clear L F;go_wp2
     go_roundw
     case rel=>exact ⟨k+1,m ++ [r],by omega,by go_num,by simp [b.out],ag.out.snoc d.out X.out,R1.out,R2.out⟩
     case measure=>simp [intOf]; omega
  ·have aw:k=many:=by omega
   subst aw;clear hlt;go_wp2;go_ret;exact ⟨_,m,rfl,b.out,ag.out,aj.out,HB.out⟩
end Go.Proofs.YtgfnmkenpgnllaaGreat
namespace Go.Proofs.YtgfnmkenpgnllaaGreat
open Go.RowKit Lin
attribute [local go_sem ↓] Go.wp_at_zero Go.wp_at_succ
theorem ZPV{d j:Nat}{p:List Int}(hj:j < d)(h:p.getD j 0≠0):(ZAK d [p]).length≠0:=by
 intro f;have a:=ZAy d [p];have b:ZAK d [p]=[]:=List.length_eq_zero_iff.1 f;rw [b] at a
 obtain ⟨e,l,m,c⟩:=a.dep (fun i=>p.getD i 0) (by simp [fm])
 have:=c j hj
 have g:comb (fm ([]:List (List Int))).length l (row (fm [])) j=0:=by simp [fm,comb,sumN]
 rw [g] at this
 rcases Int.mul_eq_zero.1 this with q | q
 ·exact m q
 ·exact h q
theorem SlN.put{B:Nat}{w:World}{b o n c:Nat}{p:List Int}(h:SlN B w (.slice (some ⟨b,o,none⟩) n c) (ZAB p)){k:Nat}(hk:k < p.length)(z:Int) :
  (∃q,w.cell? ⟨b,o+k,none⟩=some q)∧w.frozen? ⟨b,o+k,none⟩=false∧B≤b∧SlN B (w.setCell ⟨b,o+k,none⟩ (.int .i64 z)) (.slice (some ⟨b,o,none⟩) n c) (ZAB (p.set k z)):=by
 obtain ⟨⟨M,A,e,y,D,s,F⟩,x⟩:=h;have E:=x b o n c rfl;simp only [Za3] at e;obtain ⟨rfl,rfl,rfl⟩:=e
 obtain ⟨L,O,v,J,m⟩:=s k (by simpa using hk)
 simp only [Zaa9,Addr.mk.injEq] at v;obtain ⟨rfl,rfl,_⟩:=v
 obtain ⟨f,d⟩:∃f,w.heap[b]?=some (.cells f 3 (0,0)):=by
  rcases m with m | m
  ·omega
  ·exact m
 have a:∀i,i < p.length→f[o+i]?=some (.int .i64 (p.getD i 0)):=fun i hi=>by
  obtain ⟨G,N,t,l,_⟩:=s i (by simpa using hi)
  simp only [Zaa9,Addr.mk.injEq] at t;obtain ⟨rfl,rfl,_⟩:=t;rw [ZAa _ _ hi] at l
  simpa [World.cell?,d] using l
 have r:o+k < f.size:=(Zaa3.1 (a k hk)).1
 have g:(w.setCell ⟨b,o+k,none⟩ (.int .i64 z)).heap[b]?=some (.cells (f.setIfInBounds (o+k) (.int .i64 z)) 3 (0,0)):=by simp [World.setCell,Array.getElem?_modify,d]
 refine ⟨⟨_,by simpa [World.cell?,d] using a k hk⟩,by simp [World.frozen?,d],E,⟨some ⟨b,o,none⟩,c,by simp,by simpa using y,D,fun i hi=>⟨b,o,rfl,?_,.inr ⟨_,g⟩⟩,fun e=>by cases e⟩,x⟩
 have j:i < p.length:=by simpa using hi
 rw [ZAa _ _ (by simpa using j)]
 have:(w.setCell ⟨b,o+k,none⟩ (.int .i64 z)).cell? ⟨b,o+i,none⟩=(f.setIfInBounds (o+k) (.int .i64 z))[o+i]?:=by simp [World.cell?,g]
 rw [this]
 by_cases e:i=k
 ·subst e
  simp [r,j]
 ·rw [Array.getElem?_setIfInBounds_ne (by omega),a i j]
  simp [List.getElem?_set_ne (Ne.symm e)]
def ZJe(d:Nat)(p:List Int)(P:List (List Int))(k:Nat):Bool:=(List.range k).all fun i=>(ZAK (d+1) [p,P.getD i []]).length == 2
theorem ZLo(d:Nat)(p:List Int)(P:List (List Int))(k:Nat):ZJe d p P (k+1)=(ZJe d p P k && ((ZAK (d+1) [p,P.getD k []]).length == 2)):=by
 simp [ZJe,List.range_succ]
theorem PlG.nil(d:Nat):PlG d []:=⟨fun p hp=>absurd hp (by simp),fun p hp=>absurd hp (by simp),fun i k _ hk=>absurd hk (by simp)⟩
theorem PlG.push{d:Nat}{P:List (List Int)}{p:List Int}(h:PlG d P)(hp:p.length=d+1∧∀z∈p,z.natAbs≤20)(h1:(ZAK d [p]).length≠0)(h2:ZJe d p P P.length=true):PlG d (P ++ [p]):=by
 refine ⟨fun q hq=>?_,fun q hq=>?_,fun i k hik hk=>?_⟩
 ·rcases List.mem_append.1 hq with hq | hq
  ·exact h.row q hq
  ·simp only [List.mem_singleton] at hq; subst hq; exact hp
 ·rcases List.mem_append.1 hq with hq | hq
  ·exact h.one q hq
  ·simp only [List.mem_singleton] at hq; subst hq; exact h1
 ·simp only [Zaa4,List.length_cons,List.length_nil] at hk
  rw [ZCT,ZCT,if_pos (by omega:i < P.length)]
  by_cases hkl:k < P.length
  ·rw [if_pos hkl]
   exact h.two i k hik hkl
  ·rw [if_neg hkl,if_pos (by omega)]
   have:=List.all_eq_true.1 h2 i (List.mem_range.2 (by omega))
   have a:(ZAK (d+1) [p,P.getD i []]).length=2:=eq_of_beq this;rw [a]; decide
def P3(P:List (List Int)):Prop:=∀p∈P,∀z∈p,z.natAbs≤3
theorem ZGC(B:Nat)(l:List Int)(d many:Nat)(v:Value)(w:World)(hv:Sl B 3 w v (ZAB l))(hr:∀z∈l,ZFo z)(hl:l.length≤1000000)(hd1:1≤d)(hd3:d≤3)(hm:many≤6) :
  Calls Tryz.prog 6 #[v,.int .i64 d,.int .i64 many] w fun e w'=>∃uo uc P,e=.returned (.slice uo P.length uc)∧Mat 0 22 3 w' (.slice uo P.length uc) P∧P.length≤many∧(PlG d P∧P3 P)∧Below w.heap.size w w':=by
 obtain ⟨i0,bC,bk,bl,bz⟩:=info_parts ZLC;obtain ⟨vo,vc,rfl,bI,bJ⟩:=ZAH hv
 have HP:Hid (∀(k:Nat) (X:World),k≤6→Below w.heap.size w X→Calls Tryz.prog 22 #[.slice vo l.length vc,.int .i64 ((k:Int)*((d:Int)+1)),.int .i64 ((d:Int)+1),.int .i64 1,.int .i64 3] X fun e w'=>∃g gc b o c p,e=.returned (.slice (some ⟨g,0,none⟩) 1 gc)∧w'.cell? ⟨g,0,none⟩=some (.slice (some ⟨b,o,none⟩) (d+1) c)∧SlN X.heap.size w' (.slice (some ⟨b,o,none⟩) (d+1) c) (ZAB p)∧p.length=d+1∧(∀z∈p,z.natAbs≤3)∧Below X.heap.size X w'):=fun k X hk hX=>by
  have e1:(k:Int)*((d:Int)+1)=((k*(d+1):Nat):Int):=by simp
  have e2:((d:Int)+1)=((d+1:Nat):Int):=by simp
  rw [e1,e2]
  refine (ZG3 B l _ (k*(d+1)) (d+1) 1 3 X (hv.below hX (Za4 _)) hr (by omega) ?_ (by omega) (by decide) (by decide)).mono ?_
  ·have:=Nat.mul_le_mul hk (show d+1≤4 by omega)
   omega
  ·rintro e w' ⟨x,m,rfl,h1,h2,⟨U,h3,h4,h5⟩,h6⟩
   rw [h1] at h3 h4 h5
   obtain ⟨g,gc,rfl⟩:=ZFf h4 (by decide)
   match m,h1 with
   | [p],_=>
    obtain ⟨D,G⟩:=h2 p (by simp)
    have hs:=h5 0 (by decide)
    match U,h3 with
    | [u],_=>
     have hs:SlN X.heap.size w' u (ZAB p):=hs;obtain ⟨uo,uc,hu,_,_⟩:=ZAH hs.1;rw [D] at hu;subst hu
     obtain ⟨b,o,rfl⟩:∃b o,uo=some ⟨b,o,none⟩:=by
      obtain ⟨ao,aR,e1,_,_,h3,_⟩:=hs.1
      obtain ⟨b,o,e,_⟩:=h3 0 (by simp; omega)
      simp only [Za3] at e1;exact ⟨b,o,e1.1.trans e⟩
     refine ⟨g,gc,b,o,uc,p,rfl,?_,hs,D,fun z Q=>by have:=G z Q; omega,h6⟩
     obtain ⟨ao,aR,e1,_,_,h8,_⟩:=Sl.own (B:=0) h4
     obtain ⟨b2,o2,e2,h9,_⟩:=h8 0 (by simp)
     simp only [Za3] at e1;have e3:=e1.1.trans e2;simp only [Zaa9,Addr.mk.injEq] at e3;obtain ⟨rfl,rfl,_⟩:=e3
     simpa using h9
 have aZ:Hid (∀(k:Nat) X,k≤100→Below w.heap.size w X→Calls Tryz.prog 23 #[.slice vo l.length vc,.int .i64 (k:Int)] X fun e w'=>∃z,e=.returned (.int .i64 z)∧(0≤z∧z≤4611686018427387904)∧Below X.heap.size X w'):=fun k X hk hX=>ZOs B l _ k X (hv.below hX (Za4 _)) hr hl (by omega)
 have aU:Hid (∀(c:Int) (n:Nat) X,1≤n→n≤3→0≤c→c≤4611686018427387904→Calls Tryz.prog 4 #[.int .i64 c,.int .i64 (n:Int)] X fun e w'=>∃z:Nat,e=.returned (.int .i64 (z:Int))∧z < n∧w'=X):=fun c n X h1 h2 h3 h4=>by
  refine (ZC8 c n X (by omega) (by omega) ⟨by omega,by omega⟩).mono ?_
  rintro e w' ⟨z,rfl,Q,hw⟩
  exact ⟨z.toNat,by rw [show ((z.toNat:Nat):Int)=z by omega],by omega,hw⟩
 clear hv hr;go_enter Tryz.func6,Tryz.ntmps6;go_wp2
 go_loopw [7,8] (fun x i wr=>∃(k:Nat) (P:List (List Int)) (J:Option Addr) (O:Nat),k≤many∧i=.int .i64 (k:Int)∧P.length≤k∧(PlG d P∧P3 P)∧x=.slice J P.length O∧Fr w.heap.size 22 3 wr (.slice J P.length O) P∧Below w.heap.size w wr) (fun _ i _=>many-(intOf i).toNat)
 case atStart=>exact ⟨0,[],none,0,Za5 _,rfl,Za4 _,⟨PlG.nil d,fun p hp=>absurd hp (by simp)⟩,rfl,Fr.nil _ _ _ _,Below.refl _ _⟩
 case round=>
  obtain ⟨k,P,J,O,hk,rfl,bM,hG,rfl,bg,hb⟩:=hrel;have HG:Hid (PlG d P):=hG.1;have aE:Hid (P3 P):=hG.2;have HB:=hid hb;have HF:=hid bg;clear hG hb bg
  by_cases hlt:k < many
  ·obtain ⟨f,rfl⟩:∃f,f=wr:=⟨wr,rfl⟩
   have aC:wrap64 ((k:Int)*((d:Int)+1))=(k:Int)*((d:Int)+1):=by
    have h1:k*(d+1)≤6*4:=Nat.mul_le_mul (by omega) (by omega)
    have h2:((k*(d+1):Nat):Int)=(k:Int)*((d:Int)+1):=by simp
    exact IntWalk.wrap64_in _ ⟨by rw [←h2]; omega,by rw [←h2]; omega⟩
   have bK:=hid aC
   have bL:(k:Int) < (many:Int):=by omega
   have aP:=HP.out k f (by omega) HB.out
   have aO:Hid (Calls Tryz.prog 22 #[.slice vo l.length vc,.int .i64 (wrap64 ((k:Int)*((d:Int)+1))),.int .i64 ((d:Int)+1),.int .i64 1,.int .i64 3] f fun e w'=>∃g gc b o c p,e=.returned (.slice (some ⟨g,0,none⟩) 1 gc)∧w'.cell? ⟨g,0,none⟩=some (.slice (some ⟨b,o,none⟩) (d+1) c)∧SlN f.heap.size w' (.slice (some ⟨b,o,none⟩) (d+1) c) (ZAB p)∧p.length=d+1∧(∀z∈p,z.natAbs≤3)∧Below f.heap.size f w'):=by rw [aC]; exact aP
   clear aP aC
   go_wp2_with fail
   refine aO.out.mono ?_;rintro e w1 ⟨g,gc,b,o,c,p,rfl,bt,aM,D,G,aN⟩;have aI:=hid aM
   have R:Hid (p.length=d+1∧∀z∈p,z.natAbs≤3):=⟨D,G⟩
   have aw:=hid aN
   have az:Hid (∀X,Below f.heap.size f X→Below w.heap.size w X):=fun X hX=>HB.out.trans (hX.mono HB.out.size)
   have ak:k≤100:=by omega
   have an:k+7≤100:=by omega
   clear aM D G aN aO HP
   go_wp2_with fail
   refine (aZ.out k w1 ak (az.out _ aw.out)).mono ?_;rintro e w2 ⟨z1,rfl,⟨ag,ae⟩,aA⟩;have ay:Hid (Below f.heap.size f w2):=aw.out.trans (aA.mono aw.out.size);have ah:Hid (SlN f.heap.size w2 (.slice (some ⟨b,o,none⟩) (d+1) c) (ZAB p)):=aI.out.below aA (Za4 _);clear aA aI bt
   go_wp2_with fail
   refine (aU.out z1 d w2 hd1 hd3 ag ae).mono ?_;rintro e w3 ⟨j,rfl,hj,rfl⟩;have aX:=aZ.out (k+7) w3 an (az.out _ ay.out);have bh:=hid aX;clear aX ag ae
   go_wp2_with fail
   refine bh.out.mono ?_;rintro e w4 ⟨z2,rfl,⟨V,af⟩,aB⟩;have bj:Hid (Below f.heap.size f w4):=ay.out.trans (aB.mono ay.out.size);have aj:Hid (SlN f.heap.size w4 (.slice (some ⟨b,o,none⟩) (d+1) c) (ZAB p)):=ah.out.below aB (Za4 _);clear aB ah bh
   go_wp2_with fail
   refine (aU.out z2 2 w4 (by decide) (by decide) V af).mono ?_
   rintro e w5 ⟨y,rfl,hy,rfl⟩
   have aD:j < p.length:=by rw [R.out.1]; omega
   obtain ⟨⟨qv,bw⟩,bD,aG,M⟩:=aj.out.put aD (1+(y:Int))
   obtain ⟨a,F⟩:∃a,a=p.set j (1+(y:Int)):=⟨_,rfl⟩
   rw [←F] at M
   have t:Hid (a.length=d+1∧(∀z∈a,z.natAbs≤3)∧(ZAK d [a]).length≠0):=by
    refine ⟨by rw [F]; simp [R.out.1],fun z Q=>?_,ZPV hj ?_⟩
    ·rw [F] at Q
     rcases List.mem_or_eq_of_mem_set Q with h | h
     ·have:=R.out.2 z h; omega
     ·omega
    ·rw [F]
     simp [aD];omega
   obtain ⟨w6,T⟩:∃w6,w6=w5.setCell ⟨b,o+j,none⟩ (.int .i64 (1+(y:Int))):=⟨_,rfl⟩
   rw [←T] at M;have aY:=hid T;have aJ:=hid M
   have aK:Hid (Below f.heap.size f w6):=by
    show Below _ _ _
    rw [T]; exact bj.out.setCell aG _
   have bN:(y:Int)≤1:=by omega
   have bH:(j:Int) < ((d:Int)+1):=by omega
   clear aG M T F aj R aD V af;go_wp2;rw [←aY.out];clear bw bD
   go_loopw [10,11] (fun x i wq=>∃n:Nat,n≤P.length∧i=.int .i64 (n:Int)∧x=.bool (ZJe d a P n)∧Below f.heap.size f wq∧SlN f.heap.size wq (.slice (some ⟨b,o,none⟩) (d+1) c) (ZAB a)) (fun _ i _=>P.length-(intOf i).toNat)
   case atStart=>exact ⟨0,Za5 _,rfl,rfl,aK.out,aJ.out⟩
   case round=>
    obtain ⟨n,hn,rfl,rfl,aW,aT⟩:=hrel;have s:=hid aW;have S:=hid aT;clear aW aT aK aJ aY
    by_cases hnl:n < P.length
    ·have L:Hid (ZJe d a P (n+1)=(ZJe d a P n && ((ZAK (d+1) [a,P.getD n []]).length == 2))):=ZLo d a P n
     have bG:(n:Int) < (P.length:Int):=by omega
     have bE:(0:Int)≤(n:Int):=by omega
     generalize ZJe d a P n=ob at *
     cases ob with
     | false=>
      have A:Hid (ZJe d a P (n+1)=false):=by
       show _=_
       rw [L.out]; rfl
      clear L;go_wp2
      go_roundw
      case rel=>exact ⟨n+1,by omega,by go_num,by rw [A.out],s.out,S.out⟩
      case measure=>simp [intOf]; omega
     | true=>
      obtain ⟨U,Y,f2,f3⟩:=HF.out;have ai:Mat 0 22 3 f (.slice J P.length O) P:=⟨U,Y,Sl.own f2,f3⟩;obtain ⟨xb,xf,aR,rv,e1,_,bu,am⟩:=ZAP (ai.below s.out (Za4 _)) hnl;simp only [Za3] at e1;obtain ⟨rfl,-,-⟩:=e1;have E:=HG.out.row (P.getD n []) (ZAT hnl);obtain ⟨ra,bB,aS,_,_⟩:=ZAH am;rw [E.1] at aS;subst aS
      have aH:Hid (Calls Tryz.prog 24 #[.slice (some ⟨wr.heap.size,0,none⟩) 2 2] (wr.alloc (.cells #[.slice (some ⟨b,o,none⟩) (d+1) c,.slice ra (d+1) bB] 22)) fun e w'=>e=.returned (.int .i64 ((ZAK (d+1) [a,P.getD n []]).length:Nat))∧Below wr.heap.size wr w'):=by
       refine (ZCL (d+1) 60 0 [a,P.getD n []] _ _ (ZDl hd1 hd3 (fun r hr=>?_)) (ZHu S.out.1 am) (by simp)).mono ?_
       ·simp only [List.mem_cons,List.not_mem_nil,or_false] at hr
        rcases hr with rfl | rfl
        ·exact ⟨t.out.1,fun z Q=>Zaa8 (t.out.2.1 z Q) (by decide)⟩
        ·exact E
       ·rintro e w' ⟨rfl,hb⟩
        exact ⟨rfl,((Below.refl _ _).alloc (Za4 _) _).trans (hb.mono (by simp))⟩
      generalize hrk:(ZAK (d+1) [a,P.getD n []]).length=rk at *
      have A:Hid (ZJe d a P (n+1)=(rk == 2)):=by
       show _=_
       rw [L.out]; rfl
      clear hrk L am E Y f2 f3 ai
      go_wp2_with fail
      refine aH.out.mono ?_;rintro e w8 ⟨rfl,aq⟩;have aL:Hid (Below f.heap.size f w8):=s.out.trans (aq.mono s.out.size);have aV:Hid (SlN f.heap.size w8 (.slice (some ⟨b,o,none⟩) (d+1) c) (ZAB a)):=S.out.below aq (Za4 _)
      have N:Hid (((rk:Int) == 2)=(rk == 2)):=by
       show _=_
       rw [Bool.eq_iff_iff]; simp; omega
      clear aq aH bu
      cases h2:((rk:Int) == 2) with
      | true=>
       have aF:Hid (ZJe d a P (n+1)=true):=by
        show _=_
        rw [A.out,←N.out,h2]
       clear A N;go_wp2
       go_roundw
       case rel=>exact ⟨n+1,by omega,by go_num,by rw [aF.out],aL.out,aV.out⟩
       case measure=>simp [intOf]; omega
      | false=>
       have aF:Hid (ZJe d a P (n+1)=false):=by
        show _=_
        rw [A.out,←N.out,h2]
       clear A N;go_wp2
       go_roundw
       case rel=>exact ⟨n+1,by omega,by go_num,by rw [aF.out],aL.out,aV.out⟩
       case measure=>simp [intOf]; omega
    ·have bi:n=P.length:=by omega
     subst bi;obtain ⟨U,Y,f2,f3⟩:=HF.out;have F1:=hid Y;have F2:Hid (wr.ownsRow w.heap.size 22 1 (.slice J P.length O) P.length U):=ZAN f2 s.out (Za4 _)
     have F3:Hid (∀i,i < P.length→Sl 0 3 wr (U.getD i (.slice none 0 0)) (ZAB (P.getD i []))):=fun i hi=>(f3 i hi).below s.out (Za4 _)
     have ar:Hid (Below w.heap.size w wr):=az.out _ s.out;have aa:w.heap.size≤wr.heap.size:=ar.out.size;clear Y f2 f3
     cases hob:ZJe d a P P.length with
     | false=>
      have bq:Hid (Fr w.heap.size 22 3 wr (.slice J P.length O) P):=⟨U,F1.out,F2.out,F3.out⟩;clear hob;go_wp2
      go_roundw
      case rel=>exact ⟨k+1,P,J,O,by omega,by go_num,by omega,⟨HG.out,aE.out⟩,rfl,bq.out,ar.out⟩
      case measure=>simp [intOf]; omega
     | true=>
      have bA:Hid (PlG d (P ++ [a])):=HG.out.push ⟨t.out.1,fun z Q=>Zaa8 (t.out.2.1 z Q) (by decide)⟩ t.out.2.2 hob
      have bv:Hid (P3 (P ++ [a])):=fun p hp=>by
       rcases List.mem_append.1 hp with hp | hp
       ·exact aE.out p hp
       ·rw [List.mem_singleton.1 hp]; exact t.out.2.1
      have bF:P.length≤6:=by omega
      clear hob
      go_wp2_with (first | (at_builtin; refine wpList_append_own _ rfl _ _ 25 rfl w.heap.size 22 i0 (.slice none 0 0) 1 24 Tryz.underlying25 bC bk bl bz rfl (by decide) _ _ _ rfl (F2.out.alloc _) ⟨wr.heap.size,0,none⟩ 1 1 [.slice (some ⟨b,o,none⟩) (d+1) c] rfl rfl (ZAQ _ _ _) (ZAL _ _ _) ?d3 ?d4 ?d5 ?_))
      case d3=>unfold maxLen; omega
      case d4=>omega
      case d5=>first | exact aa | omega | (simp; omega)
      intro v' w9 ho hg _
      have R1:Hid (Fr w.heap.size 22 3 w9 v' (P ++ [a])):=Fr.push (e2:=22) (e1:=3) (by decide) F1.out (F2.out.alloc _) (fun i hi=>(F3.out i hi).alloc _) (S.out.1.alloc _) ho hg
      have R2:Hid (Below w.heap.size w w9):=(ar.out.alloc aa _).grown hg (by simp; omega) (fun x hx=>(F2.out.lt x hx).1)
      obtain ⟨yo,yc,bp⟩:=ZAD ho;subst bp
      have aQ:(P ++ [a]).length=P.length+1:=by simp
      have au:=hid aQ;clear ho hg aQ;go_wp2
      go_roundw
      case rel=>exact ⟨k+1,P ++ [a],yo,yc,by omega,by go_num,by rw [au.out]; omega,⟨bA.out,bv.out⟩,by rw [au.out],by rw [au.out]; exact R1.out,R2.out⟩
      case measure=>simp [intOf]; omega
  ·obtain ⟨U,Y,f2,f3⟩:=HF.out
   have HM:Hid (Mat 0 22 3 wr (.slice J P.length O) P):=⟨U,Y,Sl.own f2,f3⟩;clear Y f2 f3;go_wp2;go_ret
   exact ⟨J,O,P,rfl,HM.out,by omega,⟨HG.out,aE.out⟩,HB.out⟩
end Go.Proofs.YtgfnmkenpgnllaaGreat
