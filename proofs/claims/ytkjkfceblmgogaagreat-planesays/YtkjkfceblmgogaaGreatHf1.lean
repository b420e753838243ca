import Derived.Test.YtkjkfceblmgogaaGreatHfA
import Derived.Sort.CutIn
namespace Go.Proofs.YtkjkfceblmgogaaGreat
set_option maxRecDepth 100000
set_option maxHeartbeats 8000000
open Go.RowKit Go.Shelf
attribute [local go_sem] Oper.semAt_some
theorem ZEu{B L:Nat}{e:TypeId}{w W:World}{v:Value}{xs:List Value}(he:e=27∨e=3)(hB:B≤L)(h:Sl B e w v xs)(hL:∃y,w.heap[L]?=some (.cells #[y] 4 (0,0)))(hk:∀b,b < w.heap.size→b≠L→W.heap[b]?=w.heap[b]?):Sl B e W v xs:=
 h.move fun b hl ht=>⟨hk b hl (by
  obtain ⟨y,a⟩:=hL
  rcases ht with ht | ⟨cur,ht⟩
  ·omega
  ·rintro rfl
   rw [a] at ht
   rcases he with rfl | rfl <;> simp at ht),ht⟩
theorem ZJw{B L:Nat}{w W:World}{v:Value}{m:List (List Int)}(hB:B≤L)(h:Mat B 27 3 w v m)(hL:∃y,w.heap[L]?=some (.cells #[y] 4 (0,0)))(hk:∀b,b < w.heap.size→b≠L→W.heap[b]?=w.heap[b]?):Mat B 27 3 W v m:=by
 obtain ⟨a,f,d,c⟩:=h
 exact ⟨a,f,ZEu (.inl rfl) hB d hL hk,fun i hi=>ZEu (.inr rfl) hB (c i hi) hL hk⟩
structure RcI(w WN:World)(NB:Nat)(S:Nat→Prop)(W:World):Prop where
 sn:∀b,S b→NB≤b
 kp:Kpt (fun b=>b < NB∧b≠w.heap.size) WN W
 os:W.os=w.os
 tape:W.tape=w.tape
 output:W.output=w.output
 ce:∃y,W.heap[w.heap.size]?=some (.cells #[y] 4 (0,0))
theorem RcI.stab{w WN W W':World}{NB:Nat}{S S':Nat→Prop}(h:RcI w WN NB S W)(hL:w.heap.size < NB)(hN:NB≤WN.heap.size)(hc:Chg S W W')(hs:∀b,S' b→S b∨W.heap.size≤b):RcI w WN NB S' W'∧W'.heap[w.heap.size]?=W.heap[w.heap.size]?:=by
 have d:=h.kp.size
 have a:W'.heap[w.heap.size]?=W.heap[w.heap.size]?:=hc.block _ (by omega) (fun hx=>by have:=h.sn _ hx; omega)
 obtain ⟨y,c⟩:=h.ce
 refine ⟨⟨fun b a=>?_,h.kp.trans (Kpt.of_chg hc fun i _ hi hsi=>?_),hc.os.trans h.os,hc.tape.trans h.tape,hc.output.trans h.output,y,a.trans c⟩,a⟩
 ·rcases hs b a with h1 | h1
  ·exact h.sn b h1
  ·omega
 ·have:=h.sn i hsi
  omega
theorem ZMA{w:World}{R:Nat}(a:Value)(h:∃y,w.heap[R]?=some (.cells #[y] 4 (0,0))) :
  ∃Ws,Ws=w.setCell ⟨R,0,none⟩ a∧Ws.heap[R]?=some (.cells #[a] 4 (0,0))∧(∀k,k≠R→Ws.heap[k]?=w.heap[k]?)∧Ws.heap.size=w.heap.size∧Ws.os=w.os∧Ws.tape=w.tape∧Ws.output=w.output:=by
 obtain ⟨y,b⟩:=h
 refine ⟨_,rfl,by rw [World.setCell]; simp [Array.getElem?_modify,b],fun k h3=>Below.heap_setCell _ _ _ _ h3,by simp [World.setCell],rfl,rfl,rfl⟩
theorem ZN0{g:List Int}{rs:List (List Int)}(hr:∀r∈rs,∀z∈r,z.natAbs≤60)(hg:∀z∈g,z.natAbs≤60)(h19:rs.length≤19)(hg4:g.length≤4):MxW (rs.length+1) (ZA0 g rs):=by
 refine ⟨fun r hr=>?_,fun r h z hz=>?_,by omega,by omega,by simpa [ZA0] using hg4⟩
 ·simp only [ZA0,List.mem_map] at hr
  obtain ⟨i,_,rfl⟩:=hr;simp [ZFu]
 ·simp only [ZA0,List.mem_map] at h
  obtain ⟨i,_,rfl⟩:=h;simp only [ZFu,List.mem_append,List.mem_map,List.mem_singleton] at hz
  rcases hz with ⟨r,h1,rfl⟩ | rfl
  ·by_cases e:i < r.length
   ·exact hr r h1 _ (by simp [e])
   ·simp [Zaa6 (Nat.le_of_not_lt e)]
  ·by_cases e:i < g.length
   ·have:=hg (g.getD i 0) (by simp [e])
    rw [Int.natAbs_neg]; exact this
   ·simp [Zaa6 (Nat.le_of_not_lt e)]
theorem ZN1{zs:List Int}{k:Nat}{m:Int}(hk:k < zs.length)(h:decide (0≤m)=(zs.take k).all fun z=>decide (0≤z)):decide (0≤min m (zs.getD k 0))=(zs.take (k+1)).all fun z=>decide (0≤z):=by
 rw [Zaa1 hk,List.all_append,←h];simp only [List.all_cons,List.all_nil,Bool.and_true];rw [Bool.eq_iff_iff];simp only [decide_eq_true_eq,Bool.and_eq_true,Za2,Za9 hk,Option.getD_some];omega
theorem ZN2(B:Nat)(zs:List Int)(v:Value)(w:World)(hv:Sl B 3 w v (ZAB zs))(hz:1≤zs.length) :
  Calls Tryz.prog 102 #[v] w fun e w'=>∃m:Int,e=.returned (.int .i64 m)∧decide (0≤m)=(zs.all fun z=>decide (0≤z))∧w'=w:=by
 obtain ⟨O,j,d,N,y⟩:=ZAI hv;subst d;have l:Hid (Sl B 3 w (.slice O zs.length j) (ZAB zs)):=hv;clear hv
 obtain ⟨b,o,Q,a,E,g⟩:=ZAK l.out (k:=0) (by omega)
 simp only [Za3] at a;obtain ⟨rfl,_,rfl⟩:=a;simp only [Nat.add_zero] at g
 have D:Hid (decide (0≤zs.getD 0 0)=(zs.take 1).all fun z=>decide (0≤z)):=by
  cases zs with
  | nil=>simp at hz
  | cons z zs=>show decide (0≤z)=([z].all fun z=>decide (0≤z)); simp only [List.all_cons,List.all_nil,Bool.and_true]
 have x:(0:Int) < (zs.length:Int):=by omega
 have F:¬(zs.length:Int) < 1:=by omega
 generalize zs.getD 0 0=z0 at *;go_enter Tryz.func102,Tryz.ntmps102;go_wp2
 go_loopw [4,3] (fun i u wr=>∃(k:Nat) (m:Int),1≤k∧k≤zs.length∧i=.int .i64 k∧u=.int .i64 m∧decide (0≤m)=((zs.take k).all fun z=>decide (0≤z))∧wr=w) (fun i _ _=>zs.length-(intOf i).toNat)
 case atStart=>exact ⟨1,z0,Za4 _,hz,rfl,rfl,D.out,rfl⟩
 case round=>
  obtain ⟨k,m,G,P,rfl,rfl,t,rfl⟩:=hrel;have p:=hid t;clear t
  by_cases hlt:k < zs.length
  ·obtain ⟨S,R,A,a,s,r⟩:=ZAK l.out hlt
   simp only [Za3,Zaa9,Addr.mk.injEq,and_true] at a;obtain ⟨⟨rfl,rfl⟩,_,rfl⟩:=a;have n:=ZN1 hlt p.out;have f:=hid n;clear n;generalize zs.getD k 0=z at *
   have J:(k:Int) < (zs.length:Int):=by omega
   have L:(0:Int)≤(k:Int):=by omega
   go_wp2
   go_roundw
   case rel=>exact ⟨k+1,min m z,by omega,by omega,by go_num,by rw [ZOR],f.out,trivial⟩
   case measure=>simp [intOf]; omega
  ·have c:zs.take k=zs:=Zaa2 (by omega)
   have M:Hid (decide (0≤m)=zs.all fun z=>decide (0≤z)):=by rw [←c]; exact p.out
   have J:¬(k:Int) < (zs.length:Int):=by omega
   go_wp2;go_ret;exact ⟨m,rfl,M.out,rfl⟩
def AcN(rows:List (List Int))(g:List Int)(w3:World)(v gv:Value):Prop:=
 Calls Tryz.prog 101 #[v,gv] w3 fun e wa=>∃ao,e=.returned (.slice ao g.length g.length)∧Below w3.heap.size w3 wa∧
  Calls Tryz.prog 100 #[.slice ao g.length g.length,.int .i64 ((rows.length:Int)+1)] wa fun e w'=>∃xo xc,e=.returned (.tuple #[.slice xo (ZAw g rows).length xc,.bool (ZAp (rows.length+1) (ZA0 g rows))])∧w'.ownsRow wa.heap.size 3 1 (.slice xo (ZAw g rows).length xc) (ZAw g rows).length (ZAB (ZAw g rows))∧Below wa.heap.size wa w'
theorem ZMB(rows:List (List Int))(g:List Int)(v gv:Value)(w:World){B0 B1:Nat}(hv0:Mat B0 27 3 w v rows)(hg0:Sl B1 3 w gv (ZAB g))(hr:∀r∈rows,g.length≤r.length∧∀z∈r,z.natAbs≤60)(hgb:∀z∈g,z.natAbs≤60)(hg1:1≤g.length)(hg4:g.length≤4)(hrl:rows.length≤19):AcN rows g w v gv:=by
 have hv:Mat w.heap.size 27 3 w v rows:=hv0.any (Za4 _);have d:Sl w.heap.size 3 w gv (ZAB g):=hg0.any (Za4 _);clear hv0 hg0
 refine (ZFS w.heap.size rows g v gv w hv d hr hgb (by omega) (by omega)).mono ?_
 rintro e i ⟨f,rfl,c⟩;refine ⟨_,rfl,c.bel,?_⟩
 have b:(ZA0 g rows).length=g.length:=by simp [ZA0]
 have h:=ZII 0 (rows.length+1) (ZA0 g rows) _ i (ZN0 (fun r h z hz=>(hr r h).2 z hz) hgb hrl hg4) (c.mat (B:=0) (by omega)) (by rw [b]; omega) (by rw [b]; omega)
 refine h.mono ?_;rintro e o ⟨x,rfl,a,n⟩;obtain ⟨j,m,l⟩:=ZAE a;subst l;exact ⟨j,m,rfl,a,n⟩
theorem ZIJ(rows:List (List Int))(g:List Int)(v gv:Value)(w:World){B0 B1:Nat}(hv0:Mat B0 27 3 w v rows)(hg0:Sl B1 3 w gv (ZAB g))(hr:∀r∈rows,g.length≤r.length∧∀z∈r,z.natAbs≤60)(hgb:∀z∈g,z.natAbs≤60)(hg1:1≤g.length)(hg4:g.length≤4)(hrl:rows.length≤19)(hb:ZAp (rows.length+1) (ZA0 g rows)=true) :
  Calls Tryz.prog 75 #[v,gv] w fun e w'=>e=.returned (.bool (!(ZAY rows g).isEmpty))∧Below w.heap.size w w':=by
 have hv:Mat w.heap.size 27 3 w v rows:=hv0.any (Za4 _);have Y:Sl w.heap.size 3 w gv (ZAB g):=hg0.any (Za4 _);clear hv0 hg0;obtain ⟨ro,rc,U,ai,af⟩:=ZAD hv;obtain ⟨go,gc,V,_,_⟩:=ZAI Y;subst U V
 obtain ⟨b,a⟩:∃b,b=w.alloc (.cells #[.bool false] 4):=⟨_,rfl⟩
 have c:Below w.heap.size w b:=by rw [a]; exact ZAG _ _
 have o:b.heap.size=w.heap.size+1:=by rw [a]; exact size_alloc _ _
 have E:Hid (b.heap[w.heap.size]?=some (.cells #[.bool false] 4 (0,0))):=by rw [a]; exact ZAL _ _
 have B:=hid c;have A:Hid (AcN rows g b (.slice ro rows.length rc) (.slice go g.length gc)):=ZMB rows g _ _ b (hv.below c (Za4 _)) (Y.below c (Za4 _)) hr hgb hg1 hg4 hrl
 have Q:Hid ((!(ZAY rows g).isEmpty)=(decide (0 < (ZAw g rows).getD rows.length 0) && (ZAw g rows).all fun z=>decide (0≤z))):=ZJv hb
 have d:Hid ((ZAw g rows).length=rows.length+1):=ZAy hb;have t:=hid hb;have G:=hid o;have s:=hid a;clear hv Y hr hgb hb c o a;go_enter Tryz.func75,Tryz.ntmps75
 go_wp2_with fail
 rw [←s.out];refine A.out.mono ?_;rintro e wa ⟨ax,rfl,D,n⟩;rw [t.out,d.out] at n;have j:=hid D;clear D A s
 go_wp2_with fail
 refine n.mono ?_;rintro e f ⟨xo,xc,rfl,ho,M⟩;have hp:=j.out.size;have O:Hid (Below b.heap.size b f):=j.out.trans (M.mono j.out.size)
 have N:Hid (f.heap[w.heap.size]?=some (.cells #[.bool false] 4 (0,0))):=(O.out.block _ (by have:=G.out; omega)).trans E.out
 have l:Hid (Sl 0 3 f (.slice xo (rows.length+1) xc) (ZAB (ZAw g rows))):=Sl.own ho
 obtain ⟨tb,X,ag,L,ah,i⟩:=ZAK l.out (k:=rows.length) (by rw [d.out]; omega)
 simp only [Za3] at L;obtain ⟨rfl,R,rfl⟩:=L;clear R
 have J:Hid (Calls Tryz.prog 102 #[.slice (some ⟨tb,X,none⟩) (rows.length+1) xc] f fun e w'=>∃m:Int,e=.returned (.int .i64 m)∧decide (0≤m)=((ZAw g rows).all fun z=>decide (0≤z))∧w'=f):=ZN2 0 (ZAw g rows) _ f l.out (by rw [d.out]; omega)
 have P:Hid (∀x:Value,Below w.heap.size w (f.setCell ⟨w.heap.size,0,none⟩ x)):=fun x=>(B.out.trans (O.out.mono B.out.size)).setCell (p:=⟨w.heap.size,0,none⟩) (Za4 _) _
 have f0:f.frozen? ⟨w.heap.size,0,none⟩=false:=by simp [World.frozen?,N.out]
 have k0:f.cell? ⟨w.heap.size,0,none⟩=some (.bool false):=by simp [World.cell?,N.out]
 obtain ⟨S,F⟩:∃S,S=(ZAw g rows).all fun z=>decide (0≤z):=⟨_,rfl⟩
 rw [←F] at Q J
 obtain ⟨y,hy⟩:∃y,y=(ZAw g rows).getD rows.length 0:=⟨_,rfl⟩
 rw [←hy] at Q i
 have ae:(rows.length:Int) < (rows.length:Int)+1:=by omega
 have aa:(0:Int)≤(rows.length:Int):=by omega
 clear F hy ho M n hp l d t E G
 by_cases hpos:0 < y
 ·have T:decide (0 < y)=true:=decide_eq_true hpos
  go_wp2_with (go_at_call 102; refine J.out.mono ?_; rintro e w' ⟨mm,rfl,aj,rfl⟩)
  refine bodyPost_ret (v:=.bool S) (by simp [results,Tryz.results75,go_sem, *]) rfl ?_
  exact ⟨by rw [Q.out,T]; rfl,P.out _⟩
 ·have T:decide (0 < y)=false:=decide_eq_false hpos
  go_wp2
  refine bodyPost_ret (v:=.bool false) (by simp [results,Tryz.results75,go_sem, *]) rfl ?_
  exact ⟨by rw [Q.out,T]; rfl,P.out _⟩
theorem ZHI(rows:List (List Int))(g:List Int)(v gv:Value)(w:World){B0 B1:Nat}(hv0:Mat B0 27 3 w v rows)(hg0:Sl B1 3 w gv (ZAB g))(hr:∀r∈rows,g.length≤r.length∧∀z∈r,z.natAbs≤60)(hgb:∀z∈g,z.natAbs≤60)(hg1:1≤g.length)(hg4:g.length≤4)(hrl:rows.length≤19)(hnb:ZAp (rows.length+1) (ZA0 g rows)=false) :
  Calls Tryz.prog 75 #[v,gv] w fun e w'=>e=.returned (.bool (!(ZAY rows g).isEmpty))∧Below w.heap.size w w':=by
 have hv:Mat w.heap.size 27 3 w v rows:=hv0.any (Za4 _);have hg:Sl w.heap.size 3 w gv (ZAB g):=hg0.any (Za4 _);clear hv0 hg0;obtain ⟨N,M,aO,aV,aW⟩:=ZAD hv;obtain ⟨P,gc,aP,_,_⟩:=ZAI hg;subst aO aP
 obtain ⟨G,O⟩:∃G,G=w.alloc (.cells #[.bool false] 4):=⟨_,rfl⟩
 have F:Below w.heap.size w G:=by rw [O]; exact ZAG _ _
 have aq:G.heap[w.heap.size]?=some (.cells #[.bool false] 4 (0,0)):=by rw [O]; exact ZAL _ _
 have aA:G.heap.size=w.heap.size+1:=by rw [O]; exact size_alloc _ _
 have aw:Hid (AcN rows g G (.slice N rows.length M) (.slice P g.length gc)):=ZMB rows g _ _ G (hv.below F (Za4 _)) (hg.below F (Za4 _)) hr hgb hg1 hg4 hrl;have au:=hid O;have ah:=hid F;have aD:=hid aq;have ai:=hid aA;have az:Hid (Mat w.heap.size 27 3 G (.slice N rows.length M) rows):=hv.below F (Za4 _);have ay:Hid (Sl w.heap.size 3 G (.slice P g.length gc) (ZAB g)):=hg.below F (Za4 _)
 have aL:=hid hr;have aT:=hid hgb;have an:=hid hnb;clear hv hg hr hgb O F aq aA hnb;refine callsIn_wide (n:=0).1 ?_;refine callsIn_of_wp_marks Tryz.func75 rfl trivial ?_ rfl;simp only [Tryz.ntmps75,List.size_toArray,List.length_cons,List.length_nil,Nat.reduceAdd,Nat.reduceSub,Array.replicate_succ,Array.replicate_zero,List.push_toArray,List.append_toArray,List.nil_append,List.cons_append]
 gi_upto_region 1 with fail
 rw [←au.out]
 gi_wp2_with (refine ⟨trivial,rfl,?_⟩; gi_at_call 101; refine (callsIn_wide.2 aw.out).mono ?_; rintro e wa ⟨ax,rfl,aE,am⟩; have aj:Hid (Below G.heap.size G wa):=aE; clear aE; rw [an.out] at am)
 gi_wp2_with (refine ⟨trivial,rfl,?_⟩; gi_at_call 100; refine (callsIn_wide.2 am).mono ?_; rintro e D ⟨xo,xc,rfl,ho,aB⟩; have ae:Hid (Below wa.heap.size wa D):=aB; clear aB ho am)
 have i:Hid (Below G.heap.size G D):=aj.out.trans (ae.out.mono aj.out.size);have U:Hid (Below w.heap.size w D):=ah.out.trans (i.out.mono ah.out.size)
 have ag:Hid (D.heap[w.heap.size]?=some (.cells #[.bool false] 4 (0,0))):=(i.out.block _ (by have:=ai.out; omega)).trans aD.out
 have aJ:Hid (w.heap.size < D.heap.size):=by
  have h1:=ai.out;have h2:=i.out.size
  show _ < _
  omega
 have aQ:Hid (Mat w.heap.size 27 3 D (.slice N rows.length M) rows):=az.out.below i.out (Za4 _);have aH:Hid (Sl w.heap.size 3 D (.slice P g.length gc) (ZAB g)):=ay.out.below i.out (Za4 _);clear i aj ae az ay aD ai ah aw an au;generalize (ZAw g rows).length=xl at *
 gi_wp2_with (refine ⟨trivial,rfl,?_⟩; gi_at_call 98; refine (callsIn_wide.2 (ZEU _ _ _ _ _ _ _ _ _ rfl rfl)).mono ?_; rintro e w' ⟨rfl,rfl⟩)
 obtain ⟨a,L⟩:∃a,a=D.heap.size:=⟨_,rfl⟩
 rw [←L]
 obtain ⟨m,J⟩:∃m,m=(D.alloc (.cells #[.slice N rows.length M] 22)).alloc (.cells #[.slice P g.length gc] 27):=⟨_,rfl⟩
 rw [←J];have aI:=aJ.out
 have n1:m.heap[a]?=some (.cells #[.slice N rows.length M] 22 (0,0)):=by
  rw [J,L]; exact ((ZAG _ _).block _ (by rw [size_alloc]; omega)).trans (ZAL _ _)
 have n2:m.heap[a+1]?=some (.cells #[.slice P g.length gc] 27 (0,0)):=by
  have:=ZAL (D.alloc (.cells #[.slice N rows.length M] 22)) (.cells #[.slice P g.length gc] 27);rw [size_alloc] at this;rw [J,L]; exact this
 have aG:m.heap.size=a+2:=by rw [J,size_alloc,size_alloc,L]
 have d:Below D.heap.size D m:=by rw [J]; exact (ZAG _ _).trans ((ZAG _ _).mono (by rw [size_alloc]; omega))
 have A:∀X,Kpt (fun b=>b < a∧b≠w.heap.size) m X→∀b,b < D.heap.size→b≠w.heap.size→X.heap[b]?=D.heap[b]?:=fun X hk b hb V=>(hk.block b (by omega) ⟨by omega,V⟩).trans (d.block b hb)
 have Y:ZPF Tryz.prog 125 #[.pointer (some ⟨a+1,0,none⟩),.pointer (some ⟨a,0,none⟩)] (ZDY rows g) (ZAY rows g) (fun b=>b < a∧b≠w.heap.size) (fun b=>b=a+1∨b=a) m:=
  ZIx w.heap.size (a+1) a rows g N P M gc (fun b=>b < a∧b≠w.heap.size) m (ZAc n2) (ZAc n1)
   (fun X hk=>ZJw (Za4 _) aQ.out ⟨_,ag.out⟩ (A X hk)) (fun X hk=>ZEu (.inr rfl) (Za4 _) aH.out ⟨_,ag.out⟩ (A X hk))
   (fun b hb=>by have:=hb.1; omega) aL.out aT.out hg1 hg4 (by omega)
 have f:Hid (m.heap.size=a+2∧w.heap.size < a):=⟨aG,by omega⟩
 have aF:Hid (∀b,b < w.heap.size→m.heap[b]?=w.heap[b]?):=fun b hb=>(d.block b (by omega)).trans (U.out.block b hb)
 have aN:Hid (RcI w m a (fun b=>b=a+1∨b=a) m):=⟨fun b hb=>by omega,Kpt.refl _ _,d.os.trans U.out.os,d.tape.trans U.out.tape,d.output.trans U.out.output,_,(d.block _ (by omega)).trans ag.out⟩
 clear n1 n2 d L J A aI aG
 refine ZDW (R:=ZDY rows g) (cs:=ZAY rows g) (T:=fun b=>b < a∧b≠w.heap.size) (S0:=fun b=>b=a+1∨b=a) (gf:=125) (lb:=#[.pointer (some ⟨a+1,0,none⟩),.pointer (some ⟨a,0,none⟩)]) rfl (enters_of Tryz.func125 (by kernel_rfl) rfl) Y (fun b hb=>by have:=f.out; omega)
  (fun s S x vs ⟨_,_,_,_,h1,_⟩=>by rw [h1]; rfl) (ZCu _ _) (ZEV _ _)
  (fun S p s=>p=[]∧RcI w m a S s)
  (fun c S p s=>c=.ret∧p≠[]∧RcI w m a S s∧s.heap[w.heap.size]?=some (.cells #[.bool true] 4 (0,0)))
  (fun S S' p s W'' h hc hs=>⟨h.1,(h.2.stab (by have:=f.out; omega) (by have:=f.out; omega) hc hs).1⟩) (fun c S S' p s W'' h hc hs=>⟨h.1,h.2.1,(h.2.2.1.stab (by have:=f.out; omega) (by have:=f.out; omega) hc hs).1,(h.2.2.1.stab (by have:=f.out; omega) (by have:=f.out; omega) hc hs).2.trans h.2.2.2⟩) ⟨rfl,aN.out⟩
  (fun vs a' s=>∃p',a' = { tmps:=#[.slice N rows.length M,.slice P g.length gc,undef,undef,.pointer (some ⟨w.heap.size,0,none⟩),.slice xo xl xc,.bool false,.tuple #[.slice xo xl xc,.bool false],.slice N rows.length M,.slice P g.length gc,.slice ax g.length g.length,.slice N rows.length M,.int .i64 rows.length,.int .i64 ((rows.length:Int)+1),.tuple #[.slice xo xl xc,.bool false],.slice xo xl xc,.bool false,.bool false,undef,undef,undef,undef,undef,undef,undef,undef,undef,undef,undef,.slice N rows.length M,.slice P g.length gc,.func (.func 125) #[] #[.pointer (some ⟨a+1,0,none⟩),.pointer (some ⟨a,0,none⟩)],p'],defers:=[] })
  ?hax ?assign ?body ?tl ?done ?stop
 case hax=>
  rintro vs a' s l r o h hl;exact h
 case tl=>exact fun h=>by have:=h.1; have:=f.out; omega
 case assign=>
  rintro S y vs s K ⟨co,cc,mo,mc,rfl,h2,h3⟩ hK
  gi_wp2
  exact hK _ _ (Below.refl _ _) ⟨.agg #[.slice co y.length cc,.slice mo y.length mc,.int .i64 ((ZAw g (pks rows [] y)).getD y.length 0)],by simp⟩
 case body=>
  rintro S p y vs a' W1 ⟨rfl,Q⟩ aC aX aU B aS E _ ⟨p',rfl⟩;have j:=hid Q;obtain ⟨yv,hy⟩:=Q.ce
  have f0:W1.frozen? ⟨w.heap.size,0,none⟩=false:=by simp [World.frozen?,hy]
  have r0:W1.cell? ⟨w.heap.size,0,none⟩=some yv:=by simp [World.cell?,hy]
  clear Q B aS E hy Y
  gi_wp2
  obtain ⟨Ws,af,g1,g2,g3,g4,g5,g6⟩:=ZMA (.bool true) j.out.ce;rw [←af]
  have aM:∀b,S b→b≠w.heap.size:=fun b hx e=>by have:=j.out.sn b hx; have:=f.out; omega
  exact ⟨⟨by omega,fun b hl hx=>g2 b (hx.elim (aM b) fun h=>h.2)⟩,rfl,by simp,⟨j.out.sn,j.out.kp.trans ⟨by omega,fun b hl hx=>g2 b hx.2⟩,g4.trans j.out.os,g5.trans j.out.tape,g6.trans j.out.output,_,g1⟩,g1⟩
 case done=>
  rintro S s ⟨aa,Q⟩ aC B;have j:=hid Q;have ak:=hid B;have ar:=hid aa;obtain ⟨yv,hy⟩:=Q.ce
  have f0:s.frozen? ⟨w.heap.size,0,none⟩=false:=by simp [World.frozen?,hy]
  have r0:s.cell? ⟨w.heap.size,0,none⟩=some yv:=by simp [World.cell?,hy]
  clear Q B aa hy Y
  gi_wp2
  obtain ⟨Ws,af,g1,g2,g3,g4,g5,g6⟩:=ZMA (.bool false) j.out.ce;rw [←af];have aR:=f.out;have aK:=j.out.kp.size
  refine ZAq [m.heap.size] Ws (by simp) (fun r hr=>?_) (fun w' hc=>⟨.bool false,?_,?_⟩)
  ·simp only [List.mem_singleton] at hr
   subst hr
   exact (g2 _ (by omega)).trans ak.out
  ·have q1:w'.heap[w.heap.size]?=_:=(hc.block _ (by omega) (by simp; omega)).trans g1
   simp [results,Tryz.results75,go_sem,World.cell?,q1]
  ·refine ⟨by rw [ar.out]; rfl,hc.os.trans (g4.trans j.out.os),hc.tape.trans (g5.trans j.out.tape),hc.output.trans (g6.trans j.out.output),by have:=hc.size; omega,fun b hb=>?_⟩
   exact (hc.block b (by omega) (by simp; omega)).trans ((g2 b (by omega)).trans ((j.out.kp.block b (by omega) ⟨by omega,by omega⟩).trans (aF.out b hb)))
 case stop=>
  rintro c S p s E ⟨rfl,V,Q,hk⟩ aC B;have j:=hid Q;have HK:=hid hk;have ak:=hid B
  have HE:Hid ((!(ZAY rows g).isEmpty)=true):=by
   obtain ⟨t,ht⟩:=E
   show _=_
   rw [←ht]
   cases p
   ·exact absurd rfl V
   ·rfl
  clear Q hk B E V Y
  gi_wp2
  have aR:=f.out;have aK:=j.out.kp.size
  refine ZAq [m.heap.size] s (by simp) (fun r hr=>?_) (fun w' hc=>⟨.bool true,?_,?_⟩)
  ·simp only [List.mem_singleton] at hr
   subst hr;exact ak.out
  ·have q1:w'.heap[w.heap.size]?=_:=(hc.block _ (by omega) (by simp; omega)).trans HK.out
   simp [results,Tryz.results75,go_sem,World.cell?,q1]
  ·refine ⟨by rw [HE.out],hc.os.trans j.out.os,hc.tape.trans j.out.tape,hc.output.trans j.out.output,by have:=hc.size; omega,fun b hb=>?_⟩
   exact (hc.block b (by omega) (by simp; omega)).trans ((j.out.kp.block b (by omega) ⟨by omega,by omega⟩).trans (aF.out b hb))
theorem ZIK(rows:List (List Int))(g:List Int)(v gv:Value)(w:World){B0 B1:Nat}(hv0:Mat B0 27 3 w v rows)(hg0:Sl B1 3 w gv (ZAB g))(hr:∀r∈rows,g.length≤r.length∧∀z∈r,z.natAbs≤60)(hgb:∀z∈g,z.natAbs≤60)(hg1:1≤g.length)(hg4:g.length≤4)(hrl:rows.length≤19) :
  Calls Tryz.prog 75 #[v,gv] w fun e w'=>e=.returned (.bool (!(ZAY rows g).isEmpty))∧Below w.heap.size w w':=by
 have hv:Mat w.heap.size 27 3 w v rows:=hv0.any (Za4 _);have a:Sl w.heap.size 3 w gv (ZAB g):=hg0.any (Za4 _);clear hv0 hg0
 cases hb:ZAp (rows.length+1) (ZA0 g rows) with
 | true=>exact ZIJ rows g v gv w hv a hr hgb hg1 hg4 hrl hb
 | false=>exact ZHI rows g v gv w hv a hr hgb hg1 hg4 hrl hb
end Go.Proofs.YtkjkfceblmgogaaGreat
