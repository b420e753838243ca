import Derived.Test.YtgfnmkenpgnllaaGreatSg3
set_option maxRecDepth 100000
set_option maxHeartbeats 3200000
namespace Go.Proofs.YtgfnmkenpgnllaaGreat
open Go.RowKit Lin
attribute [local go_sem ↓] Go.wp_at_zero Go.wp_at_succ
def ZDJ(t:List UInt8):Value:=.string ⟨t.toArray⟩
def ZAc(ts:List (List UInt8)):List Value:=ts.map ZDJ
@[simp] theorem ZQs(ts:List (List UInt8)):(ZAc ts).length=ts.length:=by simp [ZAc]
theorem ZNL(ts:List (List UInt8))(i:Nat)(h:i < ts.length):(ZAc ts)[i]?=some (ZDJ (ts.getD i [])):=by simp [ZAc,h]
theorem ZF4:(Tryz.prog.info? 9).map (fun i=>(i.zero,i.size,i.bytes))=some (some (.string ⟨#[]⟩),1,16):=by kernel_rfl
theorem ZLE(b:ByteArray):∀u∈[Value.string b],u.oneCell'=true:=by
 intro u a; simp at a; subst a; rfl
theorem ZDK{B:Nat}{e:TypeId}{w:World}{v:Value}{ts:List (List UInt8)}(h:Sl B e w v (ZAc ts)):∃ao cap,v=.slice ao ts.length cap∧ts.length≤cap∧cap≤9223372036854775807:=by
 obtain ⟨ao,cap,rfl,b,a,_⟩:=h
 refine ⟨ao,cap,by simp,by simpa using b,?_⟩
 unfold maxLen at a; omega
theorem ZCf{B:Nat}{e:TypeId}{w:World}{ao:Option Addr}{n cap:Nat}{ts:List (List UInt8)}(h:Sl B e w (.slice ao n cap) (ZAc ts)){k:Nat}(hk:k < ts.length):∃b o,ao=some ⟨b,o,none⟩∧w.cell? ⟨b,o+k,none⟩=some (ZDJ (ts.getD k [])):=by
 obtain ⟨g,a,c,_,_,d,_⟩:=h;simp only [Za3] at c;obtain ⟨rfl,_,_⟩:=c
 obtain ⟨b,o,i,f,_⟩:=d k (by simpa using hk)
 exact ⟨b,o,i,by rw [f,ZNL _ _ hk]⟩
theorem ZLF(d:Nat)(P:List (List Int))(p:List Int)(t:List UInt8):(grO d P p t).length≤3:=by
 unfold grO;rw [Zab1]
 exact Zaa8 (List.length_filter_le _ _) (by simp)
theorem ZLG{f:List UInt8→List (List UInt8)}(hf:∀t,(f t).length≤3):∀l:List (List UInt8),(l.flatMap f).length≤3*l.length
 | []=>by simp
 | x :: l=>by
  have:=ZLG hf l;have:=hf x;simp only [List.flatMap_cons,Zaa4,List.length_cons];omega
theorem ZOM(d:Nat)(P:List (List Int)):∀k,(grT d P k).length≤3 ^ k
 | 0=>by simp [grT]
 | k+1=>by
  have h1:=ZOM d P k;have h2:=ZLG (ZLF d P (P.getD k [])) (grT d P k)
  show ((grT d P k).flatMap _).length≤_
  rw [Nat.pow_succ];omega
def grJ(ab be:Bool)(t:List UInt8)(j:Nat):List (List UInt8):=((([43,45,48]:List UInt8).take j).filter (mtC ab be)).map fun c=>t ++ [c]
theorem ZNM(ab be:Bool)(t:List UInt8)(j:Nat)(hj:j < 3):grJ ab be t (j+1)=grJ ab be t j ++ (if mtC ab be (([43,45,48]:List UInt8).getD j 0) then [t ++ [([43,45,48]:List UInt8).getD j 0]] else []):=by
 unfold grJ
 have e:(([43,45,48]:List UInt8).take (j+1))=([43,45,48]:List UInt8).take j ++ [([43,45,48]:List UInt8).getD j 0]:=by
  rw [List.take_add_one]; simp [hj]
 rw [e,List.filter_append,List.map_append]
 congr 1
 by_cases h:mtC ab be (([43,45,48]:List UInt8).getD j 0)=true
 ·rw [if_pos h,List.filter_cons,if_pos h]; rfl
 ·rw [if_neg h,List.filter_cons,if_neg h]; rfl
theorem ZPJ(ab be:Bool)(t:List UInt8)(j:Nat):(grJ ab be t j).length≤3:=by
 unfold grJ;rw [Zab1];refine Zaa8 (List.length_filter_le _ _) ?_;simp only [List.length_take,List.length_cons,List.length_nil];omega
theorem ZHt(t:List UInt8)(c:UInt8):(⟨t.toArray⟩:ByteArray) ++ ⟨#[c]⟩=⟨(t ++ [c]).toArray⟩:=by
 apply ByteArray.ext
 simp
structure GwI(w0:World)(L:List (List UInt8))(it q5 q6:Nat)(ab be:Bool)(j:Nat)(lv:Value)(wr:World):Prop where
 own:wr.ownsRow w0.heap.size 9 1 lv L.length (ZAc L)
 ir:wr.heap[it]?=some (.stringIter ⟨#[43,45,48]⟩ j)
 b5:ZBM wr q5 ab
 b6:ZBM wr q6 be
 bel:Below w0.heap.size w0 wr
 lo:w0.heap.size≤it∧w0.heap.size≤q5∧w0.heap.size≤q6
theorem GwI.next{w0:World}{L:List (List UInt8)}{it q5 q6:Nat}{ab be:Bool}{j:Nat}{lv:Value}{wr:World}(h:GwI w0 L it q5 q6 ab be j lv wr)(j':Nat):GwI w0 L it q5 q6 ab be j' lv (wr.iterAt it ⟨#[43,45,48]⟩ j'):=
 ⟨ZCy h.own h.ir j',Lib.iterAt_heap wr it _ j j' h.ir,h.b5.iterAt h.ir j',h.b6.iterAt h.ir j',Lib.below_iterAt h.bel h.lo.1 _ _,h.lo⟩
theorem GwI.push{w0:World}{L:List (List UInt8)}{it q5 q6:Nat}{ab be:Bool}{j:Nat}{lv v':Value}{wr w5:World}{t:List UInt8}(h:GwI w0 L it q5 q6 ab be j lv wr)(ho:w5.ownsRow w0.heap.size 9 1 v' (L.length+1) (ZAc L ++ [ZDJ t]))(hg:(wr.alloc (.cells #[ZDJ t] 9)).grownBy w5 lv.ownBlock):GwI w0 (L ++ [t]) it q5 q6 ab be j v' w5:=by
 have f:∀b,b < wr.heap.size→some b≠lv.ownBlock→w5.heap[b]?=wr.heap[b]?:=fun b hb hn=>(hg.block b (by simp; omega) hn).trans (Below.heap_alloc wr _ b hb)
 have c:∀g,lv.ownBlock=some g→∃a,wr.heap[g]?=some (.cells a 9 (0,0)):=fun g hgb=>by
  rcases h.own.2 with ⟨q,_⟩ | ⟨g',cap,a,q,_,q2,_⟩
  ·rw [q] at hgb; simp [Value.ownBlock] at hgb
  ·rw [q] at hgb
   simp [Value.ownBlock] at hgb;subst hgb;exact ⟨a,q2⟩
 have d:∀q b,ZBM wr q b→ZBM w5 q b:=fun q b hq=>(f q hq.lt (fun e=>by
  obtain ⟨a,k⟩:=c q e.symm;unfold ZBM at hq;rw [hq] at k;simp at k)).trans hq
 refine ⟨?_,(f it (Zaa3.1 h.ir).1 (fun e=>by
  obtain ⟨a,k⟩:=c it e.symm;rw [h.ir] at k; cases k)).trans h.ir,d _ _ h.b5,d _ _ h.b6,?_,h.lo⟩
 ·simpa [ZAc] using ho
 ·refine (h.bel.alloc h.bel.size (.cells #[ZDJ t] 9)).trans ⟨hg.os,hg.tape,hg.output,Zaa8 (by simp) hg.size,fun b hb=>hg.block b (by have:=h.bel.size; simp; omega) (fun e=>?_)⟩
  have:=(h.own.lt b e.symm).1;omega
theorem ZLH(d:Nat)(P:List (List Int))(v:Value)(w:World)(hv:Mat 0 22 3 w v P)(hP:∀p∈P,p.length=d+1∧∀z∈p,z.natAbs≤20)(hd1:1≤d)(hd3:d≤3)(hs6:P.length≤6) :
  Calls Tryz.prog 34 #[.int .i64 d,v,.string ⟨#[43,45,48]⟩] w fun e w'=>∃u,e=.returned u∧Sl 0 9 w' u (ZAc (grT d P P.length))∧Below w.heap.size w w':=by
 obtain ⟨i0,bG,bj,bl,bv⟩:=info_parts ZF4;obtain ⟨ro,rc,bD,bQ,bL⟩:=ZAE hv;subst bD
 have HT:Hid (∀k t,k < P.length→t∈grT d P k→t.length=k∧(∀c∈t,c=43∨c=45∨c=48)∧CutOk d (clR P t)∧∃x y,Fea d (clR P t) x y):=fun k t hk n=>by
  obtain ⟨h1,z,hz⟩:=ZFR.1 n
  refine ⟨h1,fun c hc=>?_,⟨hd1,hd3,?_,fun r hr=>?_,fun r hr=>?_⟩,_,_,hz.fea⟩
  ·obtain ⟨i,hi,e⟩:=List.getElem_of_mem hc
   have:=hz.2 i hi
   rw [show t.getD i 0=c by simp [hi,e]] at this
   rcases this with ⟨q,_⟩ | ⟨q,_⟩ | ⟨q,_⟩ <;> simp [q]
  ·have:=ZDb P t t.length
   show (clT P t t.length).length≤12
   omega
  ·obtain ⟨i,hi,h⟩:=ZCx hr
   have:=(hP (P.getD i []) (ZAT (by omega))).1
   rcases h with rfl | rfl
   ·exact this
   ·simp only [ngL,Zab1]; exact this
  ·obtain ⟨i,hi,h⟩:=ZCx hr
   have:=(hP (P.getD i []) (ZAT (by omega))).2
   rcases h with rfl | rfl
   ·exact this
   ·intro z hz
    simp only [ngL,List.mem_map] at hz;obtain ⟨y,hy,rfl⟩:=hz;have:=this y hy;omega
 have ay:Hid (∀k t X,k < P.length→t∈grT d P k→Below w.heap.size w X→Calls Tryz.prog 37 #[.int .i64 d,.slice ro P.length rc,.string ⟨t.toArray⟩] X fun e w'=>∃D E,e=.returned (.agg #[.int .i64 d,.slice D (clR P t).length E])∧Mat 0 22 3 w' (.slice D (clR P t).length E) (clR P t)∧Below X.heap.size X w'):=fun k t X hk n hX=>by
  obtain ⟨h1,h2,_,_⟩:=HT.out k t hk n
  exact ZDc d P t _ X (hv.below hX (Za4 _)) hP hd3 (by omega) hs6 h2
 have aj:Hid (∀k t X u T,k < P.length→t∈grT d P k→Mat 0 22 3 X u (clR P t)→Sl 0 3 X T (ZAB (P.getD k []))→Calls Tryz.prog 49 #[.agg #[.int .i64 d,u],T] X fun e w'=>∃f g,e=.returned (.func (.func 78) #[] #[.pointer (some ⟨f,0,none⟩),.pointer (some ⟨g,0,none⟩)])∧X.heap.size≤f∧X.heap.size≤g∧ZBM w' f (gaC d (clR P t) (P.getD k []))∧ZBM w' g (gaC d (clR P t) (ngL (P.getD k [])))∧Below X.heap.size X w'):=fun k t X u T hk n hu hp=>by
  obtain ⟨_,_,h3,h4⟩:=HT.out k t hk n;obtain ⟨hl,hb⟩:=hP (P.getD k []) (ZAT hk);exact ZEh d _ _ _ _ X hu hp h3 hl hb h4
 have HV:Hid (∀k,k < P.length→∃pb po T,ro=some ⟨pb,po,none⟩∧∀X,Below w.heap.size w X→X.cell? ⟨pb,po+k,none⟩=some T∧Sl 0 3 X T (ZAB (P.getD k []))):=fun k hk=>by
  obtain ⟨pb,po,bR,u,e1,_,h1,h2⟩:=ZAP hv hk;simp only [Za3] at e1
  exact ⟨pb,po,u,e1.1,fun X hX=>⟨(hX.cell (ZAI h1)).trans h1,h2.below hX (Za4 _)⟩⟩
 have HG:Hid (∀k,k < P.length→(grT d P k).length≤729∧grT d P (k+1)=(grT d P k).flatMap (grO d P (P.getD k []))):=fun k hk=>⟨Zaa8 (ZOM d P k) (Nat.pow_le_pow_right (by decide) (by omega:k≤6)),rfl⟩
 have HZ:Hid (grT d P 0=[[]]):=rfl;clear hv hP HT;go_enter Tryz.func34,Tryz.ntmps34;go_wp2
 go_loopw [7,19] (fun x i wr=>∃(k:Nat) (ao:Option Addr) (ac:Nat),k≤P.length∧i=.int .i64 (k:Int)∧x=.slice ao (grT d P k).length ac∧(grT d P k).length≤ac∧Sl 0 9 wr (.slice ao (grT d P k).length ac) (ZAc (grT d P k))∧Below w.heap.size w wr) (fun _ i _=>P.length-(intOf i).toNat)
 case atStart=>
  refine ⟨0,some ⟨w.heap.size,0,none⟩,1,Za5 _,rfl,rfl,by rw [HZ.out]; decide,?_,(Below.refl _ _).alloc (Za4 _) _⟩
  rw [HZ.out]
  refine ⟨some ⟨w.heap.size,0,none⟩,1,rfl,by simp,by unfold maxLen; omega,fun i hi=>⟨w.heap.size,0,rfl,?_,.inr ⟨_,heap_alloc_new w _⟩⟩,fun e=>by cases e⟩
  have:i=0:=by simpa using hi
  subst this;have:=heap_alloc_new w (.cells #[.string { data:=#[] }] 9)
  show World.cell? _ ⟨w.heap.size,0+0,none⟩=_
  unfold World.cell?;rw [this];rfl
 case round=>
  obtain ⟨k,ao,ac,hk,rfl,rfl,bk,aa,l⟩:=hrel
  by_cases hlt:k < P.length
  ·obtain ⟨pb,po,T,bB,ai⟩:=HV.out k hlt
   subst bB;obtain ⟨bw,aH⟩:=HG.out k hlt;have ak:=hid aH
   have HA:Hid (∀X,Below wr.heap.size wr X→Sl 0 9 X (.slice ao (grT d P k).length ac) (ZAc (grT d P k))):=fun X hX=>aa.below hX (Za4 _)
   have A:=hid l
   have ah:Hid (∀t X,t∈grT d P k→Below w.heap.size w X→Calls Tryz.prog 37 #[.int .i64 d,.slice (some ⟨pb,po,none⟩) P.length rc,.string ⟨t.toArray⟩] X fun e w'=>∃D E,e=.returned (.agg #[.int .i64 d,.slice D (clR P t).length E])∧Mat 0 22 3 w' (.slice D (clR P t).length E) (clR P t)∧Below X.heap.size X w'):=fun t X n hX=>ay.out k t X hlt n hX
   have af:Hid (∀t X u,t∈grT d P k→Below w.heap.size w X→Mat 0 22 3 X u (clR P t)→Calls Tryz.prog 49 #[.agg #[.int .i64 d,u],T] X fun e w'=>∃f g,e=.returned (.func (.func 78) #[] #[.pointer (some ⟨f,0,none⟩),.pointer (some ⟨g,0,none⟩)])∧X.heap.size≤f∧X.heap.size≤g∧ZBM w' f (gaC d (clR P t) (P.getD k []))∧ZBM w' g (gaC d (clR P t) (ngL (P.getD k [])))∧Below X.heap.size X w'):=fun t X u n hX hu=>aj.out k t X u T hlt n hu (ai X hX).2
   have aG:Hid (∀t∈grT d P k,t.length≤6):=fun t n=>by have:=(ZFR.1 n).1; omega
   obtain ⟨bC,_⟩:=ai wr l
   obtain ⟨G,hG⟩:∃G,G=grT d P k:=⟨_,rfl⟩
   rw [←hG] at bk bw ak HA ah af aG
   have bS:(k:Int) < (P.length:Int):=by omega
   have bJ:(0:Int)≤(k:Int):=by omega
   rw [show (grT d P k).length=G.length by rw [hG]]
   clear aa l aH ai hG ay aj HV HG HZ
   obtain ⟨a,rfl⟩:∃a,a=wr:=⟨wr,rfl⟩
   go_wp2;clear bC
   go_loopw [10,25] (fun x i wq=>∃(j:Nat) (lo:Option Addr) (lc:Nat),j≤G.length∧i=.int .i64 (j:Int)∧x=.slice lo ((G.take j).flatMap (grO d P (P.getD k []))).length lc∧wq.ownsRow a.heap.size 9 1 (.slice lo ((G.take j).flatMap (grO d P (P.getD k []))).length lc) ((G.take j).flatMap (grO d P (P.getD k []))).length (ZAc ((G.take j).flatMap (grO d P (P.getD k []))))∧Below a.heap.size a wq) (fun _ i _=>G.length-(intOf i).toNat)
   case atStart=>exact ⟨0,none,0,Za5 _,rfl,by simp,by simp [ZAc]; exact World.ownsRow_nil _ _ _ _,Below.refl _ _⟩
   case round=>
    obtain ⟨j,lo,lc,hj,rfl,rfl,F,aQ⟩:=hrel
    obtain ⟨b,R⟩:∃b,b=(G.take j).flatMap (grO d P (P.getD k [])):=⟨_,rfl⟩
    have bN:b.length≤2187:=by
     have:=ZLG (ZLF d P (P.getD k [])) (G.take j);rw [←R] at this
     have h2:(G.take j).length≤G.length:=by simp [List.length_take]; omega
     omega
    rw [←R] at F
    rw [show ((G.take j).flatMap (grO d P (P.getD k []))).length=b.length by rw [R]]
    have aA:=hid R;have aF:=hid F;have J:=hid aQ;clear F aQ R
    by_cases hjl:j < G.length
    ·have m:G.getD j []∈G:=by simp [hjl]
     obtain ⟨bq,bi,bz,U⟩:=ZCf (HA.out wr J.out) hjl;subst bz
     have am:Hid ((G.take (j+1)).flatMap (grO d P (P.getD k []))=b ++ grO d P (P.getD k []) (G.getD j [])):=by
      have e:G.take (j+1)=G.take j ++ [G.getD j []]:=by rw [List.take_add_one]; simp [hjl]
      show _=_
      rw [e,List.flatMap_append,←aA.out];simp
     obtain ⟨t,n⟩:∃t,t=G.getD j []:=⟨_,rfl⟩
     rw [←n] at m U am;have HC:=ah.out t;have HM:=af.out t
     have aR:Hid (∀X,Below a.heap.size a X→Calls Tryz.prog 37 #[.int .i64 d,.slice (some ⟨pb,po,none⟩) P.length rc,.string ⟨t.toArray⟩] X fun e w'=>∃D E,e=.returned (.agg #[.int .i64 d,.slice D (clR P t).length E])∧Mat 0 22 3 w' (.slice D (clR P t).length E) (clR P t)∧Below X.heap.size X w'):=fun X hX=>HC X m (A.out.trans (hX.mono A.out.size))
     have aU:Hid (∀X u,Below a.heap.size a X→Mat 0 22 3 X u (clR P t)→Calls Tryz.prog 49 #[.agg #[.int .i64 d,u],T] X fun e w'=>∃f g,e=.returned (.func (.func 78) #[] #[.pointer (some ⟨f,0,none⟩),.pointer (some ⟨g,0,none⟩)])∧X.heap.size≤f∧X.heap.size≤g∧ZBM w' f (gaC d (clR P t) (P.getD k []))∧ZBM w' g (gaC d (clR P t) (ngL (P.getD k [])))∧Below X.heap.size X w'):=fun X u hX hu=>HM X u m (A.out.trans (hX.mono A.out.size)) hu
     have aW:=aG.out t m;have aO:Hid (grO d P (P.getD k []) t=grJ (gaC d (clR P t) (P.getD k [])) (gaC d (clR P t) (ngL (P.getD k []))) t 3):=rfl
     have bM:(j:Int) < (G.length:Int):=by omega
     have bI:(0:Int)≤(j:Int):=by omega
     change wr.cell? ⟨bq,bi+j,none⟩=some (.string ⟨t.toArray⟩) at U
     obtain ⟨TB,Q⟩:∃TB:ByteArray,TB=⟨t.toArray⟩:=⟨_,rfl⟩
     have bF:=hid Q
     have bO:TB.size≤6:=by rw [Q]; exact aW
     rw [←Q] at U
     have ag:Hid (∀X,Below a.heap.size a X→Calls Tryz.prog 37 #[.int .i64 d,.slice (some ⟨pb,po,none⟩) P.length rc,.string TB] X fun e w'=>∃D E,e=.returned (.agg #[.int .i64 d,.slice D (clR P t).length E])∧Mat 0 22 3 w' (.slice D (clR P t).length E) (clR P t)∧Below X.heap.size X w'):=by rw [Q]; exact aR.out
     generalize gaC d (clR P t) (P.getD k [])=ab at *;generalize gaC d (clR P t) (ngL (P.getD k []))=be at *;clear HC HM m n Q aR aW
     go_wp2_with fail
     refine (ag.out wr J.out).mono ?_;rintro e w2 ⟨D,E,rfl,aL,aw⟩;have ae:Hid (Below a.heap.size a w2):=J.out.trans (aw.mono J.out.size);have aP:Hid (w2.ownsRow a.heap.size 9 1 (.slice lo b.length lc) b.length (ZAc b)):=ZAN aF.out aw (Za4 _);have aC:=aU.out w2 _ ae.out aL;have aT:=hid aC;clear aC aL aw U ag aU;generalize (clR P t).length=cln at *
     go_wp2_with fail
     refine aT.out.mono ?_;rintro e s ⟨f,g,rfl,bt,bA,aV,aE,au⟩;have bp:=ae.out.size;have az:Hid (Below a.heap.size a s):=ae.out.trans (au.mono ae.out.size)
     have aM:Hid (GwI a (b ++ grJ ab be t 0) s.heap.size f g ab be 0 (.slice lo b.length lc) (s.iter ⟨#[43,45,48]⟩ 0)):=by
      have ha:Below s.heap.size s (s.iter ⟨#[43,45,48]⟩ 0):=(Below.refl _ _).alloc (Za4 _) _
      refine ⟨?_,World.iter_heap _ _ _,aV.below ha (Za4 _),aE.below ha (Za4 _),az.out.trans (ha.mono az.out.size),az.out.size,by omega,by omega⟩
      simp only [grJ,List.take_zero,List.filter_nil,List.map_nil,List.append_nil];exact ZAN (ZAN aP.out au (Za4 _)) ha (Za4 _)
     clear aV aE au bt bA bp aT;go_wp2
     go_loopg [10] 3 (fun gk lv wz=>∃(i:Nat) (so:Option Addr) (sc:Nat),i≤3∧gk=3-i∧lv=.slice so (b ++ grJ ab be t i).length sc∧GwI a (b ++ grJ ab be t i) s.heap.size f g ab be i (.slice so (b ++ grJ ab be t i).length sc) wz)
     case atStart=>exact ⟨0,lo,lc,by decide,rfl,by simp [grJ],by simpa [grJ] using aM.out⟩
     case round=>
      obtain ⟨i,so,sc,hi,aK,rfl,S⟩:=hrel;have bu:=hid aK
      obtain ⟨L,hL⟩:∃L,L=b ++ grJ ab be t i:=⟨_,rfl⟩
      have bK:L.length≤2190:=by
       have:=ZPJ ab be t i;rw [hL,Zaa4]; omega
      rw [←hL] at S
      rw [show (b ++ grJ ab be t i).length=L.length by rw [hL]]
      have HL:=hid hL;clear aK hL aM
      by_cases hi3:i < 3
      ·obtain ⟨c,hc⟩:∃c:UInt8,c=([43,45,48]:List UInt8).getD i 0:=⟨_,rfl⟩
       have an:c=43∨c=45∨c=48:=by
        rw [hc]
        rcases (show i=0∨i=1∨i=2 by omega) with rfl | rfl | rfl <;> decide
       have aS:∀ty,(Instr.next (.pointer (some ⟨s.heap.size,0,none⟩)) true ty).run Tryz.prog wr=.ok (.tuple #[.bool true,.int .i64 (i:Int),.int .i32 (c.toNat:Int)]) (wr.iterAt s.heap.size ⟨#[43,45,48]⟩ (i+1)):=fun ty=>by
        rw [hc]
        rcases (show i=0∨i=1∨i=2 by omega) with rfl | rfl | rfl
        ·exact Lib.run_next_ascii_at wr _ _ 0 ty S.ir (by decide) (by decide)
        ·exact Lib.run_next_ascii_at wr _ _ 1 ty S.ir (by decide) (by decide)
        ·exact Lib.run_next_ascii_at wr _ _ 2 ty S.ir (by decide) (by decide)
       have aq:∀X,(Go.convert 21 9 (.int .i32 (c.toNat:Int))).run Tryz.prog X=.ok (.string ⟨#[c]⟩) X:=fun X=>by
        rcases an with rfl | rfl | rfl
        ·kernel_rfl
        ·kernel_rfl
        ·kernel_rfl
       have aY:Hid (∀X,ZBM X f ab→ZBM X g be→Calls Tryz.prog 78 #[.int .i32 (c.toNat:Int),.pointer (some ⟨f,0,none⟩),.pointer (some ⟨g,0,none⟩)] X fun e w'=>e=.returned (.bool (mtC ab be c))∧w'=X):=fun X h1 h2=>ZGt c an f g ab be X h1 h2
       have o:Hid (b ++ grJ ab be t (i+1)=L ++ (if mtC ab be c then [t ++ [c]] else [])):=by
        show _=_
        rw [ZNM ab be t i hi3,←hc,HL.out,List.append_assoc]
       obtain ⟨CB,V⟩:∃CB:ByteArray,CB=⟨#[c]⟩:=⟨_,rfl⟩
       have bP:CB.size=1:=by rw [V]; rfl
       have bE:Hid (TB ++ CB=⟨(t ++ [c]).toArray⟩):=by
        show _=_
        rw [bF.out,V]; exact ZHt t c
       rw [←V] at aq
       have bh:3-(i+1) < gk:=by rw [bu.out]; omega
       have M:=S.next (i+1)
       obtain ⟨w4,bg⟩:∃w4,w4=wr.iterAt s.heap.size ⟨#[43,45,48]⟩ (i+1):=⟨_,rfl⟩
       rw [←bg] at aS M;have Y:=hid M;have aX:=aY.out w4 M.b5 M.b6;generalize (c.toNat:Int)=ci at *;have aD:=hid aX;generalize mtC ab be c=mt at *;clear S M bg hc an V aX aY HL
       go_wp2_with fail
       refine aD.out.mono ?_;rintro e w5 ⟨rfl,rfl⟩;clear aD
       cases mt with
       | false=>
        have HF:Hid (GwI a (b ++ grJ ab be t (i+1)) s.heap.size f g ab be (i+1) (.slice so L.length sc) w5):=by
         show GwI _ _ _ _ _ _ _ _ _ _
         rw [o.out]
         simpa using Y.out
        have N:Hid (L.length=(b ++ grJ ab be t (i+1)).length):=by
         show _=_
         rw [o.out];simp
        go_wp2
        go_roundg (3-(i+1))
        case measure=>exact bh
        case rel=>exact ⟨i+1,so,sc,by omega,rfl,by rw [←N.out],by rw [←N.out]; exact HF.out⟩
       | true=>
        have aN:a.heap.size≤w5.heap.size:=Y.out.bel.size
        go_wp2_with (first | (at_builtin; refine wpList_append_own _ rfl _ _ 31 rfl a.heap.size 9 i0 (.string ⟨#[]⟩) 1 16 Tryz.underlying31 bG bj bl bv rfl (by decide) _ _ _ rfl (Y.out.own.alloc _) ⟨w5.heap.size,0,none⟩ 1 1 [.string (TB ++ CB)] rfl rfl (ZAQ _ _ _) (ZLE _) ?d3 ?d4 ?d5 ?_))
        case d3=>unfold maxLen; omega
        case d4=>omega
        case d5=>first | exact aN | omega | (simp; omega)
        intro v' w6 ho hg _
        have HF:Hid (GwI a (b ++ grJ ab be t (i+1)) s.heap.size f g ab be (i+1) v' w6):=by
         show GwI _ _ _ _ _ _ _ _ _ _
         rw [bE.out] at ho hg;rw [o.out];exact Y.out.push (t:=t ++ [c]) ho hg
        have N:Hid ((b ++ grJ ab be t (i+1)).length=L.length+1):=by
         show _=_
         rw [o.out];simp
        obtain ⟨vo,vc,bH⟩:=ZAD ho;subst bH;clear ho hg;go_wp2
        go_roundg (3-(i+1))
        case measure=>exact bh
        case rel=>exact ⟨i+1,vo,vc,by omega,rfl,by rw [N.out],by rw [N.out]; exact HF.out⟩
      ·have ar:i=3:=by omega
       have aS:∀ty,(Instr.next (.pointer (some ⟨s.heap.size,0,none⟩)) true ty).run Tryz.prog wr=.ok (.tuple #[.bool false]) wr:=fun ty=>
        Lib.run_next_end_at wr _ _ i ty S.ir (by rw [ar]; decide)
       have HO:Hid (wr.ownsRow a.heap.size 9 1 (.slice so L.length sc) L.length (ZAc L)):=S.own;have O:Hid (Below a.heap.size a wr):=S.bel
       have B:Hid (L=(G.take (j+1)).flatMap (grO d P (P.getD k []))):=by
        show _=_
        rw [am.out,aO.out,HL.out,ar]
       clear ar S HL am aO;go_wp2
       go_roundw
       case rel=>
        refine ⟨j+1,so,sc,by omega,by go_num,by rw [←B.out],?_,O.out⟩
        rw [←B.out];exact HO.out
       case measure=>simp [intOf]; omega
    ·have aJ:j=G.length:=by omega
     have B:Hid (b=grT d P (k+1)):=by
      show _=_
      rw [aA.out,ak.out,aJ,List.take_length]
     have aI:Hid (Sl 0 9 wr (.slice lo b.length lc) (ZAc b)):=Sl.own aF.out;have O:Hid (Below w.heap.size w wr):=A.out.trans (J.out.mono A.out.size)
     have aB:b.length≤lc:=by
      obtain ⟨_,_,e,q,_⟩:=aI.out;simp only [Za3] at e;obtain ⟨_,_,rfl⟩:=e
      simpa using q
     clear aJ aA ak;go_wp2
     go_roundw
     case rel=>exact ⟨k+1,lo,lc,by omega,by go_num,by rw [←B.out],by rw [←B.out]; exact aB,by rw [←B.out]; exact aI.out,O.out⟩
     case measure=>simp [intOf]; omega
  ·have aZ:k=P.length:=by omega
   have HS:Hid (Sl 0 9 wr (.slice ao (grT d P k).length ac) (ZAc (grT d P P.length))):=by rw [←aZ]; exact aa
   have O:=hid l;clear aZ aa l ay aj HV HG HZ;go_wp2;go_ret;exact ⟨_,rfl,HS.out,O.out⟩
noncomputable def ZGD(d:Nat)(P:List (List Int))(p:List Int)(t:List UInt8):List (List UInt8):=([43,45].filter (mtC (gaC d (clR P t) p) (gaC d (clR P t) (ngL p)))).map fun c=>t ++ [c]
noncomputable def ZBF(d:Nat)(P:List (List Int)):Nat→List (List UInt8)
 | 0=>[[]]
 | k+1=>(ZBF d P k).flatMap (ZGD d P (P.getD k []))
theorem ZLp{B B' n sz:Nat}{e:TypeId}{w:World}{v:Value}{xs:List Value}(h:w.ownsRow B e sz v n xs)(hB:B'≤B):w.ownsRow B' e sz v n xs:=by
 refine ⟨h.1,?_⟩
 rcases h.2 with h2 | ⟨g,cap,cur,rfl,hb,r⟩
 ·exact Or.inl h2
 ·exact Or.inr ⟨g,cap,cur,rfl,Zaa8 hB hb,r⟩
theorem ZCa{d:Nat}{P:List (List Int)} : ∀{k:Nat} {t:List UInt8},t∈ZBF d P k↔(t.length=k∧∃z,ZDH d P t z)∧∀c∈t,c=43∨c=45
 | 0,t=>by
  simp only [ZBF,List.mem_singleton]
  constructor
  ·rintro rfl
   exact ⟨⟨rfl,fun _=>1,by simp,fun i hi=>absurd hi (by simp)⟩,by simp⟩
  ·rintro ⟨⟨h,_⟩,_⟩
   exact List.length_eq_zero_iff.1 h
 | k+1,t=>by
  simp only [ZBF,List.mem_flatMap]
  constructor
  ·rintro ⟨u,hu,h⟩
   obtain ⟨⟨hk,hz⟩,hp⟩:=ZCa.1 hu;simp only [ZGD,List.mem_map,List.mem_filter] at h;obtain ⟨c,⟨hc,hm⟩,rfl⟩:=h
   have hc2:c=43∨c=45:=by simpa using hc
   rw [←hk] at hm
   refine ⟨⟨by simp [hk],(ZDI hz (by rcases hc2 with h | h <;> simp [h])).1 hm⟩,fun q hq=>?_⟩
   rcases List.mem_append.1 hq with hq | hq
   ·exact hp q hq
   ·rw [List.mem_singleton.1 hq]; exact hc2
  ·rintro ⟨⟨hl,z,hz⟩,hp⟩
   obtain ⟨u,c,rfl⟩:∃u c,t=u ++ [c]:=by
    refine ⟨t.dropLast,t.getLast (fun e=>by rw [e] at hl; simp at hl),?_⟩
    exact (List.dropLast_concat_getLast _).symm
   simp at hl;obtain ⟨a,b⟩:=ZBO.1 hz
   refine ⟨u,ZCa.2 ⟨⟨hl,z,a⟩,fun q hq=>hp q (List.mem_append_left _ hq)⟩,?_⟩
   have hc:=hp c (by simp)
   simp only [ZGD,List.mem_map,List.mem_filter]
   refine ⟨c,⟨by simpa using hc,?_⟩,rfl⟩
   rw [←hl]
   exact (ZDI ⟨z,a⟩ (by rcases hc with h | h <;> simp [h])).2 ⟨z,hz⟩
theorem ZI3(d:Nat)(P:List (List Int))(p:List Int)(t:List UInt8):(ZGD d P p t).length≤3:=by
 unfold ZGD;rw [Zab1]
 exact Zaa8 (List.length_filter_le _ _) (by simp)
theorem ZGE(d:Nat)(P:List (List Int)):∀k,(ZBF d P k).length≤3 ^ k
 | 0=>by simp [ZBF]
 | k+1=>by
  have h1:=ZGE d P k;have h2:=ZLG (ZI3 d P (P.getD k [])) (ZBF d P k)
  show ((ZBF d P k).flatMap _).length≤_
  rw [Nat.pow_succ];omega
def ZE5(ab be:Bool)(t:List UInt8)(j:Nat):List (List UInt8):=((([43,45]:List UInt8).take j).filter (mtC ab be)).map fun c=>t ++ [c]
theorem ZLq(ab be:Bool)(t:List UInt8)(j:Nat)(hj:j < 2):ZE5 ab be t (j+1)=ZE5 ab be t j ++ (if mtC ab be (([43,45]:List UInt8).getD j 0) then [t ++ [([43,45]:List UInt8).getD j 0]] else []):=by
 unfold ZE5
 have e:(([43,45]:List UInt8).take (j+1))=([43,45]:List UInt8).take j ++ [([43,45]:List UInt8).getD j 0]:=by
  rw [List.take_add_one]; simp [hj]
 rw [e,List.filter_append,List.map_append]
 congr 1
 by_cases h:mtC ab be (([43,45]:List UInt8).getD j 0)=true
 ·rw [if_pos h,List.filter_cons,if_pos h]; rfl
 ·rw [if_neg h,List.filter_cons,if_neg h]; rfl
theorem ZNa(ab be:Bool)(t:List UInt8)(j:Nat):(ZE5 ab be t j).length≤3:=by
 unfold ZE5;rw [Zab1];refine Zaa8 (List.length_filter_le _ _) ?_;simp only [List.length_take,List.length_cons,List.length_nil];omega
structure GwR(w0:World)(L:List (List UInt8))(it q5 q6:Nat)(ab be:Bool)(j:Nat)(lv:Value)(wr:World):Prop where
 own:wr.ownsRow w0.heap.size 9 1 lv L.length (ZAc L)
 ir:wr.heap[it]?=some (.stringIter ⟨#[43,45]⟩ j)
 b5:ZBM wr q5 ab
 b6:ZBM wr q6 be
 bel:Below w0.heap.size w0 wr
 lo:w0.heap.size≤it∧w0.heap.size≤q5∧w0.heap.size≤q6
theorem GwR.next{w0:World}{L:List (List UInt8)}{it q5 q6:Nat}{ab be:Bool}{j:Nat}{lv:Value}{wr:World}(h:GwR w0 L it q5 q6 ab be j lv wr)(j':Nat):GwR w0 L it q5 q6 ab be j' lv (wr.iterAt it ⟨#[43,45]⟩ j'):=
 ⟨ZCy h.own h.ir j',Lib.iterAt_heap wr it _ j j' h.ir,h.b5.iterAt h.ir j',h.b6.iterAt h.ir j',Lib.below_iterAt h.bel h.lo.1 _ _,h.lo⟩
theorem GwR.push{w0:World}{L:List (List UInt8)}{it q5 q6:Nat}{ab be:Bool}{j:Nat}{lv v':Value}{wr w5:World}{t:List UInt8}(h:GwR w0 L it q5 q6 ab be j lv wr)(ho:w5.ownsRow w0.heap.size 9 1 v' (L.length+1) (ZAc L ++ [ZDJ t]))(hg:(wr.alloc (.cells #[ZDJ t] 9)).grownBy w5 lv.ownBlock):GwR w0 (L ++ [t]) it q5 q6 ab be j v' w5:=by
 have f:∀b,b < wr.heap.size→some b≠lv.ownBlock→w5.heap[b]?=wr.heap[b]?:=fun b hb hn=>(hg.block b (by simp; omega) hn).trans (Below.heap_alloc wr _ b hb)
 have c:∀g,lv.ownBlock=some g→∃a,wr.heap[g]?=some (.cells a 9 (0,0)):=fun g hgb=>by
  rcases h.own.2 with ⟨q,_⟩ | ⟨g',cap,a,q,_,q2,_⟩
  ·rw [q] at hgb; simp [Value.ownBlock] at hgb
  ·rw [q] at hgb
   simp [Value.ownBlock] at hgb;subst hgb;exact ⟨a,q2⟩
 have d:∀q b,ZBM wr q b→ZBM w5 q b:=fun q b hq=>(f q hq.lt (fun e=>by
  obtain ⟨a,k⟩:=c q e.symm;unfold ZBM at hq;rw [hq] at k;simp at k)).trans hq
 refine ⟨?_,(f it (Zaa3.1 h.ir).1 (fun e=>by
  obtain ⟨a,k⟩:=c it e.symm;rw [h.ir] at k; cases k)).trans h.ir,d _ _ h.b5,d _ _ h.b6,?_,h.lo⟩
 ·simpa [ZAc] using ho
 ·refine (h.bel.alloc h.bel.size (.cells #[ZDJ t] 9)).trans ⟨hg.os,hg.tape,hg.output,Zaa8 (by simp) hg.size,fun b hb=>hg.block b (by have:=h.bel.size; simp; omega) (fun e=>?_)⟩
  have:=(h.own.lt b e.symm).1;omega
theorem ZJf(d:Nat)(P:List (List Int))(v:Value)(w:World)(hv:Mat 0 22 3 w v P)(hP:∀p∈P,p.length=d+1∧∀z∈p,z.natAbs≤20)(hd1:1≤d)(hd3:d≤3)(hs6:P.length≤6) :
  Calls Tryz.prog 34 #[.int .i64 d,v,.string ⟨#[43,45]⟩] w fun e w'=>∃u,e=.returned u∧w'.ownsRow w.heap.size 9 1 u (ZBF d P P.length).length (ZAc (ZBF d P P.length))∧Below w.heap.size w w':=by
 obtain ⟨i0,bH,bi,bk,bw⟩:=info_parts ZF4;obtain ⟨ro,rc,bE,bR,bM⟩:=ZAE hv;subst bE
 have HT:Hid (∀k t,k < P.length→t∈ZBF d P k→t.length=k∧(∀c∈t,c=43∨c=45∨c=48)∧CutOk d (clR P t)∧∃x y,Fea d (clR P t) x y):=fun k t hk o=>by
  obtain ⟨⟨h1,z,hz⟩,_⟩:=ZCa.1 o
  refine ⟨h1,fun c hc=>?_,⟨hd1,hd3,?_,fun r hr=>?_,fun r hr=>?_⟩,_,_,hz.fea⟩
  ·obtain ⟨i,hi,e⟩:=List.getElem_of_mem hc
   have:=hz.2 i hi
   rw [show t.getD i 0=c by simp [hi,e]] at this
   rcases this with ⟨q,_⟩ | ⟨q,_⟩ | ⟨q,_⟩ <;> simp [q]
  ·have:=ZDb P t t.length
   show (clT P t t.length).length≤12
   omega
  ·obtain ⟨i,hi,h⟩:=ZCx hr
   have:=(hP (P.getD i []) (ZAT (by omega))).1
   rcases h with rfl | rfl
   ·exact this
   ·simp only [ngL,Zab1]; exact this
  ·obtain ⟨i,hi,h⟩:=ZCx hr
   have:=(hP (P.getD i []) (ZAT (by omega))).2
   rcases h with rfl | rfl
   ·exact this
   ·intro z hz
    simp only [ngL,List.mem_map] at hz;obtain ⟨y,hy,rfl⟩:=hz;have:=this y hy;omega
 have az:Hid (∀k t X,k < P.length→t∈ZBF d P k→Below w.heap.size w X→Calls Tryz.prog 37 #[.int .i64 d,.slice ro P.length rc,.string ⟨t.toArray⟩] X fun e w'=>∃D E,e=.returned (.agg #[.int .i64 d,.slice D (clR P t).length E])∧Mat 0 22 3 w' (.slice D (clR P t).length E) (clR P t)∧Below X.heap.size X w'):=fun k t X hk o hX=>by
  obtain ⟨h1,h2,_,_⟩:=HT.out k t hk o
  exact ZDc d P t _ X (hv.below hX (Za4 _)) hP hd3 (by omega) hs6 h2
 have ak:Hid (∀k t X u S,k < P.length→t∈ZBF d P k→Mat 0 22 3 X u (clR P t)→Sl 0 3 X S (ZAB (P.getD k []))→Calls Tryz.prog 49 #[.agg #[.int .i64 d,u],S] X fun e w'=>∃f g,e=.returned (.func (.func 78) #[] #[.pointer (some ⟨f,0,none⟩),.pointer (some ⟨g,0,none⟩)])∧X.heap.size≤f∧X.heap.size≤g∧ZBM w' f (gaC d (clR P t) (P.getD k []))∧ZBM w' g (gaC d (clR P t) (ngL (P.getD k [])))∧Below X.heap.size X w'):=fun k t X u S hk o hu hp=>by
  obtain ⟨_,_,h3,h4⟩:=HT.out k t hk o;obtain ⟨hl,hb⟩:=hP (P.getD k []) (ZAT hk);exact ZEh d _ _ _ _ X hu hp h3 hl hb h4
 have HV:Hid (∀k,k < P.length→∃pb po S,ro=some ⟨pb,po,none⟩∧∀X,Below w.heap.size w X→X.cell? ⟨pb,po+k,none⟩=some S∧Sl 0 3 X S (ZAB (P.getD k []))):=fun k hk=>by
  obtain ⟨pb,po,bS,u,e1,_,h1,h2⟩:=ZAP hv hk;simp only [Za3] at e1
  exact ⟨pb,po,u,e1.1,fun X hX=>⟨(hX.cell (ZAI h1)).trans h1,h2.below hX (Za4 _)⟩⟩
 have HG:Hid (∀k,k < P.length→(ZBF d P k).length≤729∧ZBF d P (k+1)=(ZBF d P k).flatMap (ZGD d P (P.getD k []))):=fun k hk=>⟨Zaa8 (ZGE d P k) (Nat.pow_le_pow_right (by decide) (by omega:k≤6)),rfl⟩
 have HZ:Hid (ZBF d P 0=[[]]):=rfl;clear hv hP HT;go_enter Tryz.func34,Tryz.ntmps34;go_wp2
 go_loopw [7,19] (fun x i wr=>∃(k:Nat) (ao:Option Addr) (ac:Nat),k≤P.length∧i=.int .i64 (k:Int)∧x=.slice ao (ZBF d P k).length ac∧(ZBF d P k).length≤ac∧wr.ownsRow w.heap.size 9 1 (.slice ao (ZBF d P k).length ac) (ZBF d P k).length (ZAc (ZBF d P k))∧Below w.heap.size w wr) (fun _ i _=>P.length-(intOf i).toNat)
 case atStart=>
  refine ⟨0,some ⟨w.heap.size,0,none⟩,1,Za5 _,rfl,rfl,by rw [HZ.out]; decide,?_,(Below.refl _ _).alloc (Za4 _) _⟩
  rw [HZ.out]
  exact World.ownsRow_lit (base:=w.heap.size) (e:=9) (size:=1) w #[.string { data:=#[] }] 1 (Za4 _) (by unfold maxLen; omega) rfl
 case round=>
  obtain ⟨k,ao,ac,hk,rfl,rfl,bj,aa,l⟩:=hrel
  by_cases hlt:k < P.length
  ·obtain ⟨pb,po,S,bC,ai⟩:=HV.out k hlt
   subst bC;obtain ⟨bz,aH⟩:=HG.out k hlt;have am:=hid aH
   have HA:Hid (∀X,Below wr.heap.size wr X→Sl 0 9 X (.slice ao (ZBF d P k).length ac) (ZAc (ZBF d P k))):=fun X hX=>(Sl.own aa).below hX (Za4 _)
   have n:=hid l
   have ah:Hid (∀t X,t∈ZBF d P k→Below w.heap.size w X→Calls Tryz.prog 37 #[.int .i64 d,.slice (some ⟨pb,po,none⟩) P.length rc,.string ⟨t.toArray⟩] X fun e w'=>∃D E,e=.returned (.agg #[.int .i64 d,.slice D (clR P t).length E])∧Mat 0 22 3 w' (.slice D (clR P t).length E) (clR P t)∧Below X.heap.size X w'):=fun t X o hX=>az.out k t X hlt o hX
   have af:Hid (∀t X u,t∈ZBF d P k→Below w.heap.size w X→Mat 0 22 3 X u (clR P t)→Calls Tryz.prog 49 #[.agg #[.int .i64 d,u],S] X fun e w'=>∃f g,e=.returned (.func (.func 78) #[] #[.pointer (some ⟨f,0,none⟩),.pointer (some ⟨g,0,none⟩)])∧X.heap.size≤f∧X.heap.size≤g∧ZBM w' f (gaC d (clR P t) (P.getD k []))∧ZBM w' g (gaC d (clR P t) (ngL (P.getD k [])))∧Below X.heap.size X w'):=fun t X u o hX hu=>ak.out k t X u S hlt o hu (ai X hX).2
   have aG:Hid (∀t∈ZBF d P k,t.length≤6):=fun t o=>by have:=(ZCa.1 o).1.1; omega
   obtain ⟨bD,_⟩:=ai wr l
   obtain ⟨G,hG⟩:∃G,G=ZBF d P k:=⟨_,rfl⟩
   rw [←hG] at bj bz am HA ah af aG
   have bT:(k:Int) < (P.length:Int):=by omega
   have bK:(0:Int)≤(k:Int):=by omega
   rw [show (ZBF d P k).length=G.length by rw [hG]]
   clear aa l aH ai hG az ak HV HG HZ
   obtain ⟨b,rfl⟩:∃b,b=wr:=⟨wr,rfl⟩
   go_wp2;clear bD
   go_loopw [10,25] (fun x i wq=>∃(j:Nat) (T:Option Addr) (lc:Nat),j≤G.length∧i=.int .i64 (j:Int)∧x=.slice T ((G.take j).flatMap (ZGD d P (P.getD k []))).length lc∧wq.ownsRow b.heap.size 9 1 (.slice T ((G.take j).flatMap (ZGD d P (P.getD k []))).length lc) ((G.take j).flatMap (ZGD d P (P.getD k []))).length (ZAc ((G.take j).flatMap (ZGD d P (P.getD k []))))∧Below b.heap.size b wq) (fun _ i _=>G.length-(intOf i).toNat)
   case atStart=>exact ⟨0,none,0,Za5 _,rfl,by simp,by simp [ZAc]; exact World.ownsRow_nil _ _ _ _,Below.refl _ _⟩
   case round=>
    obtain ⟨j,T,lc,hj,rfl,rfl,F,aP⟩:=hrel
    obtain ⟨a,R⟩:∃a,a=(G.take j).flatMap (ZGD d P (P.getD k [])):=⟨_,rfl⟩
    have bO:a.length≤2187:=by
     have:=ZLG (ZI3 d P (P.getD k [])) (G.take j);rw [←R] at this
     have h2:(G.take j).length≤G.length:=by simp [List.length_take]; omega
     omega
    rw [←R] at F
    rw [show ((G.take j).flatMap (ZGD d P (P.getD k []))).length=a.length by rw [R]]
    have aB:=hid R;have aj:=hid F;have J:=hid aP;clear F aP R
    by_cases hjl:j < G.length
    ·have m:G.getD j []∈G:=by simp [hjl]
     obtain ⟨bp,bh,bA,U⟩:=ZCf (HA.out wr J.out) hjl;subst bA
     have an:Hid ((G.take (j+1)).flatMap (ZGD d P (P.getD k []))=a ++ ZGD d P (P.getD k []) (G.getD j [])):=by
      have e:G.take (j+1)=G.take j ++ [G.getD j []]:=by rw [List.take_add_one]; simp [hjl]
      show _=_
      rw [e,List.flatMap_append,←aB.out];simp
     obtain ⟨t,o⟩:∃t,t=G.getD j []:=⟨_,rfl⟩
     rw [←o] at m U an;have HC:=ah.out t;have HM:=af.out t
     have aQ:Hid (∀X,Below b.heap.size b X→Calls Tryz.prog 37 #[.int .i64 d,.slice (some ⟨pb,po,none⟩) P.length rc,.string ⟨t.toArray⟩] X fun e w'=>∃D E,e=.returned (.agg #[.int .i64 d,.slice D (clR P t).length E])∧Mat 0 22 3 w' (.slice D (clR P t).length E) (clR P t)∧Below X.heap.size X w'):=fun X hX=>HC X m (n.out.trans (hX.mono n.out.size))
     have aT:Hid (∀X u,Below b.heap.size b X→Mat 0 22 3 X u (clR P t)→Calls Tryz.prog 49 #[.agg #[.int .i64 d,u],S] X fun e w'=>∃f g,e=.returned (.func (.func 78) #[] #[.pointer (some ⟨f,0,none⟩),.pointer (some ⟨g,0,none⟩)])∧X.heap.size≤f∧X.heap.size≤g∧ZBM w' f (gaC d (clR P t) (P.getD k []))∧ZBM w' g (gaC d (clR P t) (ngL (P.getD k [])))∧Below X.heap.size X w'):=fun X u hX hu=>HM X u m (n.out.trans (hX.mono n.out.size)) hu
     have aV:=aG.out t m;have aN:Hid (ZGD d P (P.getD k []) t=ZE5 (gaC d (clR P t) (P.getD k [])) (gaC d (clR P t) (ngL (P.getD k []))) t 2):=rfl
     have bN:(j:Int) < (G.length:Int):=by omega
     have bJ:(0:Int)≤(j:Int):=by omega
     change wr.cell? ⟨bp,bh+j,none⟩=some (.string ⟨t.toArray⟩) at U
     obtain ⟨TB,Q⟩:∃TB:ByteArray,TB=⟨t.toArray⟩:=⟨_,rfl⟩
     have bG:=hid Q
     have bP:TB.size≤6:=by rw [Q]; exact aV
     rw [←Q] at U
     have ag:Hid (∀X,Below b.heap.size b X→Calls Tryz.prog 37 #[.int .i64 d,.slice (some ⟨pb,po,none⟩) P.length rc,.string TB] X fun e w'=>∃D E,e=.returned (.agg #[.int .i64 d,.slice D (clR P t).length E])∧Mat 0 22 3 w' (.slice D (clR P t).length E) (clR P t)∧Below X.heap.size X w'):=by rw [Q]; exact aQ.out
     generalize gaC d (clR P t) (P.getD k [])=ab at *;generalize gaC d (clR P t) (ngL (P.getD k []))=be at *;clear HC HM m o Q aQ aV
     go_wp2_with fail
     refine (ag.out wr J.out).mono ?_;rintro e w2 ⟨D,E,rfl,aK,ay⟩;have ae:Hid (Below b.heap.size b w2):=J.out.trans (ay.mono J.out.size);have aO:Hid (w2.ownsRow b.heap.size 9 1 (.slice T a.length lc) a.length (ZAc a)):=ZAN aj.out ay (Za4 _);have aD:=aT.out w2 _ ae.out aK;have aS:=hid aD;clear aD aK ay U ag aT;generalize (clR P t).length=cln at *
     go_wp2_with fail
     refine aS.out.mono ?_;rintro e A ⟨f,g,rfl,bu,bB,aU,aF,aw⟩;have bl:=ae.out.size;have aA:Hid (Below b.heap.size b A):=ae.out.trans (aw.mono ae.out.size)
     have aL:Hid (GwR b (a ++ ZE5 ab be t 0) A.heap.size f g ab be 0 (.slice T a.length lc) (A.iter ⟨#[43,45]⟩ 0)):=by
      have ha:Below A.heap.size A (A.iter ⟨#[43,45]⟩ 0):=(Below.refl _ _).alloc (Za4 _) _
      refine ⟨?_,World.iter_heap _ _ _,aU.below ha (Za4 _),aF.below ha (Za4 _),aA.out.trans (ha.mono aA.out.size),aA.out.size,by omega,by omega⟩
      simp only [ZE5,List.take_zero,List.filter_nil,List.map_nil,List.append_nil];exact ZAN (ZAN aO.out aw (Za4 _)) ha (Za4 _)
     clear aU aF aw bu bB bl aS;go_wp2
     go_loopg [10] 2 (fun gk lv wz=>∃(i:Nat) (so:Option Addr) (sc:Nat),i≤2∧gk=2-i∧lv=.slice so (a ++ ZE5 ab be t i).length sc∧GwR b (a ++ ZE5 ab be t i) A.heap.size f g ab be i (.slice so (a ++ ZE5 ab be t i).length sc) wz)
     case atStart=>exact ⟨0,T,lc,by decide,rfl,by simp [ZE5],by simpa [ZE5] using aL.out⟩
     case round=>
      obtain ⟨i,so,sc,hi,aJ,rfl,hI⟩:=hrel;have bv:=hid aJ
      obtain ⟨L,hL⟩:∃L,L=a ++ ZE5 ab be t i:=⟨_,rfl⟩
      have bL:L.length≤2190:=by
       have:=ZNa ab be t i;rw [hL,Zaa4]; omega
      rw [←hL] at hI
      rw [show (a ++ ZE5 ab be t i).length=L.length by rw [hL]]
      have HL:=hid hL;clear aJ hL aL
      by_cases hi3:i < 2
      ·obtain ⟨c,hc⟩:∃c:UInt8,c=([43,45]:List UInt8).getD i 0:=⟨_,rfl⟩
       have aq:c=43∨c=45:=by
        rw [hc]
        rcases (show i=0∨i=1 by omega) with rfl | rfl <;> decide
       have aR:∀ty,(Instr.next (.pointer (some ⟨A.heap.size,0,none⟩)) true ty).run Tryz.prog wr=.ok (.tuple #[.bool true,.int .i64 (i:Int),.int .i32 (c.toNat:Int)]) (wr.iterAt A.heap.size ⟨#[43,45]⟩ (i+1)):=fun ty=>by
        rw [hc]
        rcases (show i=0∨i=1 by omega) with rfl | rfl
        ·exact Lib.run_next_ascii_at wr _ _ 0 ty hI.ir (by decide) (by decide)
        ·exact Lib.run_next_ascii_at wr _ _ 1 ty hI.ir (by decide) (by decide)
       have ar:∀X,(Go.convert 21 9 (.int .i32 (c.toNat:Int))).run Tryz.prog X=.ok (.string ⟨#[c]⟩) X:=fun X=>by
        rcases aq with rfl | rfl
        ·kernel_rfl
        ·kernel_rfl
       have aX:Hid (∀X,ZBM X f ab→ZBM X g be→Calls Tryz.prog 78 #[.int .i32 (c.toNat:Int),.pointer (some ⟨f,0,none⟩),.pointer (some ⟨g,0,none⟩)] X fun e w'=>e=.returned (.bool (mtC ab be c))∧w'=X):=fun X h1 h2=>ZGt c (aq.imp id .inl) f g ab be X h1 h2
       have s:Hid (a ++ ZE5 ab be t (i+1)=L ++ (if mtC ab be c then [t ++ [c]] else [])):=by
        show _=_
        rw [ZLq ab be t i hi3,←hc,HL.out,List.append_assoc]
       obtain ⟨CB,V⟩:∃CB:ByteArray,CB=⟨#[c]⟩:=⟨_,rfl⟩
       have bQ:CB.size=1:=by rw [V]; rfl
       have bF:Hid (TB ++ CB=⟨(t ++ [c]).toArray⟩):=by
        show _=_
        rw [bG.out,V]; exact ZHt t c
       rw [←V] at ar
       have bg:2-(i+1) < gk:=by rw [bv.out]; omega
       have M:=hI.next (i+1)
       obtain ⟨w4,aZ⟩:∃w4,w4=wr.iterAt A.heap.size ⟨#[43,45]⟩ (i+1):=⟨_,rfl⟩
       rw [←aZ] at aR M;have Y:=hid M;have aW:=aX.out w4 M.b5 M.b6;generalize (c.toNat:Int)=ci at *;have aE:=hid aW;generalize mtC ab be c=mt at *;clear hI M aZ hc aq V aW aX HL
       go_wp2_with fail
       refine aE.out.mono ?_;rintro e w5 ⟨rfl,rfl⟩;clear aE
       cases mt with
       | false=>
        have HF:Hid (GwR b (a ++ ZE5 ab be t (i+1)) A.heap.size f g ab be (i+1) (.slice so L.length sc) w5):=by
         show GwR _ _ _ _ _ _ _ _ _ _
         rw [s.out]
         simpa using Y.out
        have N:Hid (L.length=(a ++ ZE5 ab be t (i+1)).length):=by
         show _=_
         rw [s.out];simp
        go_wp2
        go_roundg (2-(i+1))
        case measure=>exact bg
        case rel=>exact ⟨i+1,so,sc,by omega,rfl,by rw [←N.out],by rw [←N.out]; exact HF.out⟩
       | true=>
        have aM:b.heap.size≤w5.heap.size:=Y.out.bel.size
        go_wp2_with (first | (at_builtin; refine wpList_append_own _ rfl _ _ 31 rfl b.heap.size 9 i0 (.string ⟨#[]⟩) 1 16 Tryz.underlying31 bH bi bk bw rfl (by decide) _ _ _ rfl (Y.out.own.alloc _) ⟨w5.heap.size,0,none⟩ 1 1 [.string (TB ++ CB)] rfl rfl (ZAQ _ _ _) (ZLE _) ?d3 ?d4 ?d5 ?_))
        case d3=>unfold maxLen; omega
        case d4=>omega
        case d5=>first | exact aM | omega | (simp; omega)
        intro v' w6 ho hg _
        have HF:Hid (GwR b (a ++ ZE5 ab be t (i+1)) A.heap.size f g ab be (i+1) v' w6):=by
         show GwR _ _ _ _ _ _ _ _ _ _
         rw [bF.out] at ho hg;rw [s.out];exact Y.out.push (t:=t ++ [c]) ho hg
        have N:Hid ((a ++ ZE5 ab be t (i+1)).length=L.length+1):=by
         show _=_
         rw [s.out];simp
        obtain ⟨vo,vc,bI⟩:=ZAD ho;subst bI;clear ho hg;go_wp2
        go_roundg (2-(i+1))
        case measure=>exact bg
        case rel=>exact ⟨i+1,vo,vc,by omega,rfl,by rw [N.out],by rw [N.out]; exact HF.out⟩
      ·have au:i=2:=by omega
       have aR:∀ty,(Instr.next (.pointer (some ⟨A.heap.size,0,none⟩)) true ty).run Tryz.prog wr=.ok (.tuple #[.bool false]) wr:=fun ty=>
        Lib.run_next_end_at wr _ _ i ty hI.ir (by rw [au]; decide)
       have HO:Hid (wr.ownsRow b.heap.size 9 1 (.slice so L.length sc) L.length (ZAc L)):=hI.own;have O:Hid (Below b.heap.size b wr):=hI.bel
       have B:Hid (L=(G.take (j+1)).flatMap (ZGD d P (P.getD k []))):=by
        show _=_
        rw [an.out,aN.out,HL.out,au]
       clear au hI HL an aN;go_wp2
       go_roundw
       case rel=>
        refine ⟨j+1,so,sc,by omega,by go_num,by rw [←B.out],?_,O.out⟩
        rw [←B.out];exact HO.out
       case measure=>simp [intOf]; omega
    ·have aI:j=G.length:=by omega
     have B:Hid (a=ZBF d P (k+1)):=by
      show _=_
      rw [aB.out,am.out,aI,List.take_length]
     have bt:Hid (Sl 0 9 wr (.slice T a.length lc) (ZAc a)):=Sl.own aj.out;have bq:Hid (wr.ownsRow w.heap.size 9 1 (.slice T a.length lc) a.length (ZAc a)):=ZLp aj.out n.out.size;have O:Hid (Below w.heap.size w wr):=n.out.trans (J.out.mono n.out.size)
     have aC:a.length≤lc:=by
      obtain ⟨_,_,e,q,_⟩:=bt.out;simp only [Za3] at e;obtain ⟨_,_,rfl⟩:=e
      simpa using q
     clear aI aB am;go_wp2
     go_roundw
     case rel=>exact ⟨k+1,T,lc,by omega,by go_num,by rw [←B.out],by rw [←B.out]; exact aC,by rw [←B.out]; exact bq.out,O.out⟩
     case measure=>simp [intOf]; omega
  ·have aY:k=P.length:=by omega
   have HS:Hid (wr.ownsRow w.heap.size 9 1 (.slice ao (ZBF d P k).length ac) (ZBF d P P.length).length (ZAc (ZBF d P P.length))):=by rw [←aY]; exact aa
   have O:=hid l;clear aY aa l az ak HV HG HZ;go_wp2;go_ret;exact ⟨_,rfl,HS.out,O.out⟩
end Go.Proofs.YtgfnmkenpgnllaaGreat
