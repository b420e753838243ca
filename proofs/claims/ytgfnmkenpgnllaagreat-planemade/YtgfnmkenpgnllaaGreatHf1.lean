import Derived.Test.YtgfnmkenpgnllaaGreatHfA
import Derived.Sort.CutIn
namespace Go.Proofs.YtgfnmkenpgnllaaGreat
set_option maxRecDepth 100000
set_option maxHeartbeats 8000000
open Go.RowKit Go.Shelf
attribute [local go_sem] Oper.semAt_some
theorem ZGG{L:Nat}{e:TypeId}{w W:World}{v:Value}{xs:List Value}(he:e=22∨e=3)(h:Sl 0 e w v xs)(hL:∃y,w.heap[L]?=some (.cells #[y] 4 (0,0)))(hk:∀b,b < w.heap.size→b≠L→W.heap[b]?=w.heap[b]?):Sl 0 e W v xs:=
 h.move fun b hl ht=>⟨hk b hl (by
  obtain ⟨y,a⟩:=hL
  rcases ht with ht | ⟨cur,ht⟩
  ·omega
  ·rintro rfl
   rw [a] at ht
   rcases he with rfl | rfl <;> simp at ht),ht⟩
theorem ZLu{L:Nat}{w W:World}{v:Value}{m:List (List Int)}(h:Mat 0 22 3 w v m)(hL:∃y,w.heap[L]?=some (.cells #[y] 4 (0,0)))(hk:∀b,b < w.heap.size→b≠L→W.heap[b]?=w.heap[b]?):Mat 0 22 3 W v m:=by
 obtain ⟨c,a,f,d⟩:=h
 exact ⟨c,a,ZGG (.inl rfl) f hL hk,fun i hi=>ZGG (.inr rfl) (d i hi) hL hk⟩
structure RcI(w WN:World)(NB:Nat)(S:Nat→Prop)(W:World):Prop where
 sn:∀b,S b→NB≤b
 kp:Kpt (fun b=>b < NB∧b≠w.heap.size) WN W
 os:W.os=w.os
 tape:W.tape=w.tape
 output:W.output=w.output
 ce:∃y,W.heap[w.heap.size]?=some (.cells #[y] 4 (0,0))
theorem RcI.stab{w WN W W':World}{NB:Nat}{S S':Nat→Prop}(h:RcI w WN NB S W)(hL:w.heap.size < NB)(hN:NB≤WN.heap.size)(hc:Chg S W W')(hs:∀b,S' b→S b∨W.heap.size≤b):RcI w WN NB S' W'∧W'.heap[w.heap.size]?=W.heap[w.heap.size]?:=by
 have d:=h.kp.size
 have a:W'.heap[w.heap.size]?=W.heap[w.heap.size]?:=hc.block _ (by omega) (fun hx=>by have:=h.sn _ hx; omega)
 obtain ⟨y,c⟩:=h.ce
 refine ⟨⟨fun b a=>?_,h.kp.trans (Kpt.of_chg hc fun i _ hi hsi=>?_),hc.os.trans h.os,hc.tape.trans h.tape,hc.output.trans h.output,y,a.trans c⟩,a⟩
 ·rcases hs b a with h1 | h1
  ·exact h.sn b h1
  ·omega
 ·have:=h.sn i hsi
  omega
theorem ZLv{w:World}{R:Nat}(a:Value)(h:∃y,w.heap[R]?=some (.cells #[y] 4 (0,0))) :
  ∃Ws,Ws=w.setCell ⟨R,0,none⟩ a∧Ws.heap[R]?=some (.cells #[a] 4 (0,0))∧(∀k,k≠R→Ws.heap[k]?=w.heap[k]?)∧Ws.heap.size=w.heap.size∧Ws.os=w.os∧Ws.tape=w.tape∧Ws.output=w.output:=by
 obtain ⟨y,b⟩:=h
 refine ⟨_,rfl,by rw [World.setCell]; simp [Array.getElem?_modify,b],fun k h3=>Below.heap_setCell _ _ _ _ h3,by simp [World.setCell],rfl,rfl,rfl⟩
theorem ZNd{g:List Int}{rs:List (List Int)}(hr:∀r∈rs,∀z∈r,z.natAbs≤60)(hg:∀z∈g,z.natAbs≤60)(h19:rs.length≤19)(hg4:g.length≤4):MxW (rs.length+1) (ZA4 g rs):=by
 refine ⟨fun r hr=>?_,fun r h z hz=>?_,by omega,by omega,by simpa [ZA4] using hg4⟩
 ·simp only [ZA4,List.mem_map] at hr
  obtain ⟨i,_,rfl⟩:=hr;simp [ZHe]
 ·simp only [ZA4,List.mem_map] at h
  obtain ⟨i,_,rfl⟩:=h;simp only [ZHe,List.mem_append,List.mem_map,List.mem_singleton] at hz
  rcases hz with ⟨r,h1,rfl⟩ | rfl
  ·by_cases e:i < r.length
   ·exact hr r h1 _ (by simp [e])
   ·simp [Zaa6 (Nat.le_of_not_lt e)]
  ·by_cases e:i < g.length
   ·have:=hg (g.getD i 0) (by simp [e])
    rw [Int.natAbs_neg]; exact this
   ·simp [Zaa6 (Nat.le_of_not_lt e)]
theorem ZNe{zs:List Int}{k:Nat}{m:Int}(hk:k < zs.length)(h:decide (0≤m)=(zs.take k).all fun z=>decide (0≤z)):decide (0≤min m (zs.getD k 0))=(zs.take (k+1)).all fun z=>decide (0≤z):=by
 rw [Zaa1 hk,List.all_append,←h];simp only [List.all_cons,List.all_nil,Bool.and_true];rw [Bool.eq_iff_iff];simp only [decide_eq_true_eq,Bool.and_eq_true,Za2,Za9 hk,Option.getD_some];omega
theorem ZNf(B:Nat)(zs:List Int)(v:Value)(w:World)(hv:Sl B 3 w v (ZAB zs))(hz:1≤zs.length) :
  Calls Tryz.prog 107 #[v] w fun e w'=>∃m:Int,e=.returned (.int .i64 m)∧decide (0≤m)=(zs.all fun z=>decide (0≤z))∧w'=w:=by
 obtain ⟨M,g,c,y,E⟩:=ZAH hv;subst c;have l:Hid (Sl B 3 w (.slice M zs.length g) (ZAB zs)):=hv;clear hv
 obtain ⟨b,o,P,a,J,f⟩:=ZAJ l.out (k:=0) (by omega)
 simp only [Za3] at a;obtain ⟨rfl,_,rfl⟩:=a;simp only [Nat.add_zero] at f
 have F:Hid (decide (0≤zs.getD 0 0)=(zs.take 1).all fun z=>decide (0≤z)):=by
  cases zs with
  | nil=>simp at hz
  | cons z zs=>show decide (0≤z)=([z].all fun z=>decide (0≤z)); simp only [List.all_cons,List.all_nil,Bool.and_true]
 have A:(0:Int) < (zs.length:Int):=by omega
 have G:¬(zs.length:Int) < 1:=by omega
 generalize zs.getD 0 0=z0 at *;go_enter Tryz.func107,Tryz.ntmps107;go_wp2
 go_loopw [4,3] (fun i u wr=>∃(k:Nat) (m:Int),1≤k∧k≤zs.length∧i=.int .i64 k∧u=.int .i64 m∧decide (0≤m)=((zs.take k).all fun z=>decide (0≤z))∧wr=w) (fun i _ _=>zs.length-(intOf i).toNat)
 case atStart=>exact ⟨1,z0,Za4 _,hz,rfl,rfl,F.out,rfl⟩
 case round=>
  obtain ⟨k,m,N,R,rfl,rfl,p,rfl⟩:=hrel;have s:=hid p;clear p
  by_cases hlt:k < zs.length
  ·obtain ⟨Q,S,L,a,n,t⟩:=ZAJ l.out hlt
   simp only [Za3,Zaa9,Addr.mk.injEq,and_true] at a;obtain ⟨⟨rfl,rfl⟩,_,rfl⟩:=a;have r:=ZNe hlt s.out;have d:=hid r;clear r;generalize zs.getD k 0=z at *
   have O:(k:Int) < (zs.length:Int):=by omega
   have D:(0:Int)≤(k:Int):=by omega
   go_wp2
   go_roundw
   case rel=>exact ⟨k+1,min m z,by omega,by omega,by go_num,by rw [ZN1],d.out,trivial⟩
   case measure=>simp [intOf]; omega
  ·have j:zs.take k=zs:=Zaa2 (by omega)
   have x:Hid (decide (0≤m)=zs.all fun z=>decide (0≤z)):=by rw [←j]; exact s.out
   have O:¬(k:Int) < (zs.length:Int):=by omega
   go_wp2;go_ret;exact ⟨m,rfl,x.out,rfl⟩
def AcN(rows:List (List Int))(g:List Int)(w3:World)(v gv:Value):Prop:=
 Calls Tryz.prog 106 #[v,gv] w3 fun e wa=>∃ao,e=.returned (.slice ao g.length g.length)∧Below w3.heap.size w3 wa∧
  Calls Tryz.prog 105 #[.slice ao g.length g.length,.int .i64 ((rows.length:Int)+1)] wa fun e w'=>∃xo xc,e=.returned (.tuple #[.slice xo (ZAv g rows).length xc,.bool (ZAp (rows.length+1) (ZA4 g rows))])∧w'.ownsRow wa.heap.size 3 1 (.slice xo (ZAv g rows).length xc) (ZAv g rows).length (ZAB (ZAv g rows))∧Below wa.heap.size wa w'
theorem ZLw(rows:List (List Int))(g:List Int)(v gv:Value)(w:World)(hv:Mat 0 22 3 w v rows)(hg:Sl 0 3 w gv (ZAB g))(hr:∀r∈rows,g.length≤r.length∧∀z∈r,z.natAbs≤60)(hgb:∀z∈g,z.natAbs≤60)(hg1:1≤g.length)(hg4:g.length≤4)(hrl:rows.length≤19):AcN rows g w v gv:=by
 refine (ZFM 0 rows g v gv w hv hg hr hgb (by omega) (by omega)).mono ?_
 rintro e l ⟨f,rfl,b⟩;refine ⟨_,rfl,b.bel,?_⟩
 have a:(ZA4 g rows).length=g.length:=by simp [ZA4]
 have h:=ZH5 0 (rows.length+1) (ZA4 g rows) _ l (ZNd (fun r h z hz=>(hr r h).2 z hz) hgb hrl hg4) (b.mat (B:=0) (by omega)) (by rw [a]; omega) (by rw [a]; omega)
 refine h.mono ?_;rintro e n ⟨x,rfl,c,d⟩;obtain ⟨m,j,i⟩:=ZAD c;subst i;exact ⟨m,j,rfl,c,d⟩
theorem ZH6(rows:List (List Int))(g:List Int)(v gv:Value)(w:World)(hv:Mat 0 22 3 w v rows)(hg:Sl 0 3 w gv (ZAB g))(hr:∀r∈rows,g.length≤r.length∧∀z∈r,z.natAbs≤60)(hgb:∀z∈g,z.natAbs≤60)(hg1:1≤g.length)(hg4:g.length≤4)(hrl:rows.length≤19)(hb:ZAp (rows.length+1) (ZA4 g rows)=true) :
  Calls Tryz.prog 80 #[v,gv] w fun e w'=>e=.returned (.bool (!(ZAZ rows g).isEmpty))∧Below w.heap.size w w':=by
 obtain ⟨ro,rc,S,ae,ah⟩:=ZAE hv;obtain ⟨go,gc,X,_,_⟩:=ZAH hg;subst S X
 obtain ⟨f,a⟩:∃f,f=w.alloc (.cells #[.bool false] 4):=⟨_,rfl⟩
 have d:Below w.heap.size w f:=by rw [a]; exact ZAG _ _
 have s:f.heap.size=w.heap.size+1:=by rw [a]; exact size_alloc _ _
 have J:Hid (f.heap[w.heap.size]?=some (.cells #[.bool false] 4 (0,0))):=by rw [a]; exact ZAM _ _
 have B:=hid d;have F:Hid (AcN rows g f (.slice ro rows.length rc) (.slice go g.length gc)):=ZLw rows g _ _ f (hv.below d (Za4 _)) (hg.below d (Za4 _)) hr hgb hg1 hg4 hrl
 have Q:Hid ((!(ZAZ rows g).isEmpty)=(decide (0 < (ZAv g rows).getD rows.length 0) && (ZAv g rows).all fun z=>decide (0≤z))):=ZJh hb
 have c:Hid ((ZAv g rows).length=rows.length+1):=ZAx hb;have N:=hid hb;have G:=hid s;have O:=hid a;clear hv hg hr hgb hb d s a;go_enter Tryz.func80,Tryz.ntmps80
 go_wp2_with fail
 rw [←O.out];refine F.out.mono ?_;rintro e wa ⟨ax,rfl,o,l⟩;rw [N.out,c.out] at l;have j:=hid o;clear o F O
 go_wp2_with fail
 refine l.mono ?_;rintro e b ⟨xo,xc,rfl,ho,M⟩;have hp:=j.out.size;have E:Hid (Below f.heap.size f b):=j.out.trans (M.mono j.out.size)
 have t:Hid (b.heap[w.heap.size]?=some (.cells #[.bool false] 4 (0,0))):=(E.out.block _ (by have:=G.out; omega)).trans J.out
 have n:Hid (Sl 0 3 b (.slice xo (rows.length+1) xc) (ZAB (ZAv g rows))):=Sl.own ho
 obtain ⟨tb,R,af,L,ag,i⟩:=ZAJ n.out (k:=rows.length) (by rw [c.out]; omega)
 simp only [Za3] at L;obtain ⟨rfl,U,rfl⟩:=L;clear U
 have D:Hid (Calls Tryz.prog 107 #[.slice (some ⟨tb,R,none⟩) (rows.length+1) xc] b fun e w'=>∃m:Int,e=.returned (.int .i64 m)∧decide (0≤m)=((ZAv g rows).all fun z=>decide (0≤z))∧w'=b):=ZNf 0 (ZAv g rows) _ b n.out (by rw [c.out]; omega)
 have A:Hid (∀x:Value,Below w.heap.size w (b.setCell ⟨w.heap.size,0,none⟩ x)):=fun x=>(B.out.trans (E.out.mono B.out.size)).setCell (p:=⟨w.heap.size,0,none⟩) (Za4 _) _
 have f0:b.frozen? ⟨w.heap.size,0,none⟩=false:=by simp [World.frozen?,t.out]
 have k0:b.cell? ⟨w.heap.size,0,none⟩=some (.bool false):=by simp [World.cell?,t.out]
 obtain ⟨T,P⟩:∃T,T=(ZAv g rows).all fun z=>decide (0≤z):=⟨_,rfl⟩
 rw [←P] at Q D
 obtain ⟨y,Y⟩:∃y,y=(ZAv g rows).getD rows.length 0:=⟨_,rfl⟩
 rw [←Y] at Q i
 have aj:(rows.length:Int) < (rows.length:Int)+1:=by omega
 have aa:(0:Int)≤(rows.length:Int):=by omega
 clear P Y ho M l hp n c N J G
 by_cases hpos:0 < y
 ·have V:decide (0 < y)=true:=decide_eq_true hpos
  go_wp2_with (go_at_call 107; refine D.out.mono ?_; rintro e w' ⟨mm,rfl,ai,rfl⟩)
  refine bodyPost_ret (v:=.bool T) (by simp [results,Tryz.results80,go_sem, *]) rfl ?_
  exact ⟨by rw [Q.out,V]; rfl,A.out _⟩
 ·have V:decide (0 < y)=false:=decide_eq_false hpos
  go_wp2
  refine bodyPost_ret (v:=.bool false) (by simp [results,Tryz.results80,go_sem, *]) rfl ?_
  exact ⟨by rw [Q.out,V]; rfl,A.out _⟩
theorem ZG6(rows:List (List Int))(g:List Int)(v gv:Value)(w:World)(hv:Mat 0 22 3 w v rows)(hg:Sl 0 3 w gv (ZAB g))(hr:∀r∈rows,g.length≤r.length∧∀z∈r,z.natAbs≤60)(hgb:∀z∈g,z.natAbs≤60)(hg1:1≤g.length)(hg4:g.length≤4)(hrl:rows.length≤19)(hnb:ZAp (rows.length+1) (ZA4 g rows)=false) :
  Calls Tryz.prog 80 #[v,gv] w fun e w'=>e=.returned (.bool (!(ZAZ rows g).isEmpty))∧Below w.heap.size w w':=by
 obtain ⟨O,M,aQ,aX,aV⟩:=ZAE hv;obtain ⟨Q,gc,aI,_,_⟩:=ZAH hg;subst aQ aI
 obtain ⟨F,L⟩:∃F,F=w.alloc (.cells #[.bool false] 4):=⟨_,rfl⟩
 have G:Below w.heap.size w F:=by rw [L]; exact ZAG _ _
 have ar:F.heap[w.heap.size]?=some (.cells #[.bool false] 4 (0,0)):=by rw [L]; exact ZAM _ _
 have aC:F.heap.size=w.heap.size+1:=by rw [L]; exact size_alloc _ _
 have au:Hid (AcN rows g F (.slice O rows.length M) (.slice Q g.length gc)):=ZLw rows g _ _ F (hv.below G (Za4 _)) (hg.below G (Za4 _)) hr hgb hg1 hg4 hrl;have aA:=hid L;have ah:=hid G;have aE:=hid ar;have ai:=hid aC;have aD:Hid (Mat 0 22 3 F (.slice O rows.length M) rows):=hv.below G (Za4 _);have ay:Hid (Sl 0 3 F (.slice Q g.length gc) (ZAB g)):=hg.below G (Za4 _);have aJ:=hid hr
 have aS:=hid hgb;have aF:=hid hnb;clear hv hg hr hgb L G ar aC hnb;refine callsIn_wide (n:=0).1 ?_;refine callsIn_of_wp_marks Tryz.func80 rfl trivial ?_ rfl;simp only [Tryz.ntmps80,List.size_toArray,List.length_cons,List.length_nil,Nat.reduceAdd,Nat.reduceSub,Array.replicate_succ,Array.replicate_zero,List.push_toArray,List.append_toArray,List.nil_append,List.cons_append]
 gi_upto_region 1 with fail
 rw [←aA.out]
 gi_wp2_with (refine ⟨trivial,rfl,?_⟩; gi_at_call 106; refine (callsIn_wide.2 au.out).mono ?_; rintro e wa ⟨ax,rfl,aq,am⟩; have ak:Hid (Below F.heap.size F wa):=aq; clear aq; rw [aF.out] at am)
 gi_wp2_with (refine ⟨trivial,rfl,?_⟩; gi_at_call 105; refine (callsIn_wide.2 am).mono ?_; rintro e E ⟨xo,xc,rfl,ho,az⟩; have ae:Hid (Below wa.heap.size wa E):=az; clear az ho am)
 have j:Hid (Below F.heap.size F E):=ak.out.trans (ae.out.mono ak.out.size);have V:Hid (Below w.heap.size w E):=ah.out.trans (j.out.mono ah.out.size)
 have ag:Hid (E.heap[w.heap.size]?=some (.cells #[.bool false] 4 (0,0))):=(j.out.block _ (by have:=ai.out; omega)).trans aE.out
 have aO:Hid (w.heap.size < E.heap.size):=by
  have h1:=ai.out;have h2:=j.out.size
  show _ < _
  omega
 have aM:Hid (Mat 0 22 3 E (.slice O rows.length M) rows):=aD.out.below j.out (Za4 _);have aT:Hid (Sl 0 3 E (.slice Q g.length gc) (ZAB g)):=ay.out.below j.out (Za4 _);clear j ak ae aD ay aE ai ah au aF aA;generalize (ZAv g rows).length=xl at *
 gi_wp2_with (refine ⟨trivial,rfl,?_⟩; gi_at_call 103; refine (callsIn_wide.2 (ZEZ _ _ _ _ _ _ _ _ _ rfl rfl)).mono ?_; rintro e w' ⟨rfl,rfl⟩)
 obtain ⟨a,N⟩:∃a,a=E.heap.size:=⟨_,rfl⟩
 rw [←N]
 obtain ⟨p,J⟩:∃p,p=(E.alloc (.cells #[.slice O rows.length M] 25)).alloc (.cells #[.slice Q g.length gc] 22):=⟨_,rfl⟩
 rw [←J];have aP:=aO.out
 have n1:p.heap[a]?=some (.cells #[.slice O rows.length M] 25 (0,0)):=by
  rw [J,N]; exact ((ZAG _ _).block _ (by rw [size_alloc]; omega)).trans (ZAM _ _)
 have n2:p.heap[a+1]?=some (.cells #[.slice Q g.length gc] 22 (0,0)):=by
  have:=ZAM (E.alloc (.cells #[.slice O rows.length M] 25)) (.cells #[.slice Q g.length gc] 22);rw [size_alloc] at this;rw [J,N]; exact this
 have an:p.heap.size=a+2:=by rw [J,size_alloc,size_alloc,N]
 have d:Below E.heap.size E p:=by rw [J]; exact (ZAG _ _).trans ((ZAG _ _).mono (by rw [size_alloc]; omega))
 have A:∀X,Kpt (fun b=>b < a∧b≠w.heap.size) p X→∀b,b < E.heap.size→b≠w.heap.size→X.heap[b]?=E.heap[b]?:=fun X hk b hb U=>(hk.block b (by omega) ⟨by omega,U⟩).trans (d.block b hb)
 have Y:ZPt Tryz.prog 130 #[.pointer (some ⟨a+1,0,none⟩),.pointer (some ⟨a,0,none⟩)] (ZDp rows g) (ZAZ rows g) (fun b=>b < a∧b≠w.heap.size) (fun b=>b=a+1∨b=a) p:=
  ZFt 0 (a+1) a rows g O Q M gc (fun b=>b < a∧b≠w.heap.size) p (ZAe n2) (ZAe n1)
   (fun X hk=>ZLu aM.out ⟨_,ag.out⟩ (A X hk)) (fun X hk=>ZGG (.inr rfl) aT.out ⟨_,ag.out⟩ (A X hk))
   (fun b hb=>by have:=hb.1; omega) aJ.out aS.out hg1 hg4 (by omega)
 have f:Hid (p.heap.size=a+2∧w.heap.size < a):=⟨an,by omega⟩
 have aB:Hid (∀b,b < w.heap.size→p.heap[b]?=w.heap[b]?):=fun b hb=>(d.block b (by omega)).trans (V.out.block b hb)
 have aL:Hid (RcI w p a (fun b=>b=a+1∨b=a) p):=⟨fun b hb=>by omega,Kpt.refl _ _,d.os.trans V.out.os,d.tape.trans V.out.tape,d.output.trans V.out.output,_,(d.block _ (by omega)).trans ag.out⟩
 clear n1 n2 d N J A aP an
 refine ZDX (R:=ZDp rows g) (cs:=ZAZ rows g) (T:=fun b=>b < a∧b≠w.heap.size) (S0:=fun b=>b=a+1∨b=a) (gf:=130) (lb:=#[.pointer (some ⟨a+1,0,none⟩),.pointer (some ⟨a,0,none⟩)]) rfl (enters_of Tryz.func130 (by kernel_rfl) rfl) Y (fun b hb=>by have:=f.out; omega)
  (fun s S x vs ⟨_,_,_,_,h1,_⟩=>by rw [h1]; rfl) (ZCv _ _) (ZEa _ _)
  (fun S m s=>m=[]∧RcI w p a S s)
  (fun c S m s=>c=.ret∧m≠[]∧RcI w p a S s∧s.heap[w.heap.size]?=some (.cells #[.bool true] 4 (0,0)))
  (fun S S' m s W'' h hc hs=>⟨h.1,(h.2.stab (by have:=f.out; omega) (by have:=f.out; omega) hc hs).1⟩) (fun c S S' m s W'' h hc hs=>⟨h.1,h.2.1,(h.2.2.1.stab (by have:=f.out; omega) (by have:=f.out; omega) hc hs).1,(h.2.2.1.stab (by have:=f.out; omega) (by have:=f.out; omega) hc hs).2.trans h.2.2.2⟩) ⟨rfl,aL.out⟩
  (fun vs a' s=>∃p',a' = { tmps:=#[.slice O rows.length M,.slice Q g.length gc,undef,undef,.pointer (some ⟨w.heap.size,0,none⟩),.slice xo xl xc,.bool false,.tuple #[.slice xo xl xc,.bool false],.slice O rows.length M,.slice Q g.length gc,.slice ax g.length g.length,.slice O rows.length M,.int .i64 rows.length,.int .i64 ((rows.length:Int)+1),.tuple #[.slice xo xl xc,.bool false],.slice xo xl xc,.bool false,.bool false,undef,undef,undef,undef,undef,undef,undef,undef,undef,undef,undef,.slice O rows.length M,.slice Q g.length gc,.func (.func 130) #[] #[.pointer (some ⟨a+1,0,none⟩),.pointer (some ⟨a,0,none⟩)],p'],defers:=[] })
  ?hax ?assign ?body ?tl ?done ?stop
 case hax=>
  rintro vs a' s l r o h hl;exact h
 case tl=>exact fun h=>by have:=h.1; have:=f.out; omega
 case assign=>
  rintro S y vs s K ⟨co,cc,mo,mc,rfl,h2,h3⟩ hK
  gi_wp2
  exact hK _ _ (Below.refl _ _) ⟨.agg #[.slice co y.length cc,.slice mo y.length mc,.int .i64 ((ZAv g (pks rows [] y)).getD y.length 0)],by simp⟩
 case body=>
  rintro S m y vs a' W1 ⟨rfl,P⟩ aG aW aU B aK D _ ⟨p',rfl⟩;have i:=hid P;obtain ⟨yv,hy⟩:=P.ce
  have f0:W1.frozen? ⟨w.heap.size,0,none⟩=false:=by simp [World.frozen?,hy]
  have r0:W1.cell? ⟨w.heap.size,0,none⟩=some yv:=by simp [World.cell?,hy]
  clear P B aK D hy Y
  gi_wp2
  obtain ⟨Ws,aj,g1,g2,g3,g4,g5,g6⟩:=ZLv (.bool true) i.out.ce;rw [←aj]
  have aR:∀b,S b→b≠w.heap.size:=fun b hx e=>by have:=i.out.sn b hx; have:=f.out; omega
  exact ⟨⟨by omega,fun b hl hx=>g2 b (hx.elim (aR b) fun h=>h.2)⟩,rfl,by simp,⟨i.out.sn,i.out.kp.trans ⟨by omega,fun b hl hx=>g2 b hx.2⟩,g4.trans i.out.os,g5.trans i.out.tape,g6.trans i.out.output,_,g1⟩,g1⟩
 case done=>
  rintro S s ⟨aa,P⟩ aG B;have i:=hid P;have af:=hid B;have aw:=hid aa;obtain ⟨yv,hy⟩:=P.ce
  have f0:s.frozen? ⟨w.heap.size,0,none⟩=false:=by simp [World.frozen?,hy]
  have r0:s.cell? ⟨w.heap.size,0,none⟩=some yv:=by simp [World.cell?,hy]
  clear P B aa hy Y
  gi_wp2
  obtain ⟨Ws,aj,g1,g2,g3,g4,g5,g6⟩:=ZLv (.bool false) i.out.ce;rw [←aj];have aH:=f.out;have aN:=i.out.kp.size
  refine ZAq [p.heap.size] Ws (by simp) (fun r hr=>?_) (fun w' hc=>⟨.bool false,?_,?_⟩)
  ·simp only [List.mem_singleton] at hr
   subst hr
   exact (g2 _ (by omega)).trans af.out
  ·have q1:w'.heap[w.heap.size]?=_:=(hc.block _ (by omega) (by simp; omega)).trans g1
   simp [results,Tryz.results80,go_sem,World.cell?,q1]
  ·refine ⟨by rw [aw.out]; rfl,hc.os.trans (g4.trans i.out.os),hc.tape.trans (g5.trans i.out.tape),hc.output.trans (g6.trans i.out.output),by have:=hc.size; omega,fun b hb=>?_⟩
   exact (hc.block b (by omega) (by simp; omega)).trans ((g2 b (by omega)).trans ((i.out.kp.block b (by omega) ⟨by omega,by omega⟩).trans (aB.out b hb)))
 case stop=>
  rintro c S m s D ⟨rfl,U,P,hk⟩ aG B;have i:=hid P;have HK:=hid hk;have af:=hid B
  have HE:Hid ((!(ZAZ rows g).isEmpty)=true):=by
   obtain ⟨t,ht⟩:=D
   show _=_
   rw [←ht]
   cases m
   ·exact absurd rfl U
   ·rfl
  clear P hk B D U Y
  gi_wp2
  have aH:=f.out;have aN:=i.out.kp.size
  refine ZAq [p.heap.size] s (by simp) (fun r hr=>?_) (fun w' hc=>⟨.bool true,?_,?_⟩)
  ·simp only [List.mem_singleton] at hr
   subst hr;exact af.out
  ·have q1:w'.heap[w.heap.size]?=_:=(hc.block _ (by omega) (by simp; omega)).trans HK.out
   simp [results,Tryz.results80,go_sem,World.cell?,q1]
  ·refine ⟨by rw [HE.out],hc.os.trans i.out.os,hc.tape.trans i.out.tape,hc.output.trans i.out.output,by have:=hc.size; omega,fun b hb=>?_⟩
   exact (hc.block b (by omega) (by simp; omega)).trans ((i.out.kp.block b (by omega) ⟨by omega,by omega⟩).trans (aB.out b hb))
theorem ZH7(rows:List (List Int))(g:List Int)(v gv:Value)(w:World)(hv:Mat 0 22 3 w v rows)(hg:Sl 0 3 w gv (ZAB g))(hr:∀r∈rows,g.length≤r.length∧∀z∈r,z.natAbs≤60)(hgb:∀z∈g,z.natAbs≤60)(hg1:1≤g.length)(hg4:g.length≤4)(hrl:rows.length≤19) :
  Calls Tryz.prog 80 #[v,gv] w fun e w'=>e=.returned (.bool (!(ZAZ rows g).isEmpty))∧Below w.heap.size w w':=by
 cases hb:ZAp (rows.length+1) (ZA4 g rows) with
 | true=>exact ZH6 rows g v gv w hv hg hr hgb hg1 hg4 hrl hb
 | false=>exact ZG6 rows g v gv w hv hg hr hgb hg1 hg4 hrl hb
end Go.Proofs.YtgfnmkenpgnllaaGreat
