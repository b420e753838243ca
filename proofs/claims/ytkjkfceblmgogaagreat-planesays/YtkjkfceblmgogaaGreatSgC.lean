import Derived.Test.YtkjkfceblmgogaaGreatSg3
set_option maxRecDepth 100000
set_option maxHeartbeats 3200000
namespace Go.Proofs.YtkjkfceblmgogaaGreat
open Go.RowKit Lin
attribute [local go_sem ↓] Go.wp_at_zero Go.wp_at_succ
def ZDj(t:List UInt8):Value:=.string ⟨t.toArray⟩
def ZAe(ts:List (List UInt8)):List Value:=ts.map ZDj
@[simp] theorem ZRL(ts:List (List UInt8)):(ZAe ts).length=ts.length:=by simp [ZAe]
theorem ZNe(ts:List (List UInt8))(i:Nat)(h:i < ts.length):(ZAe ts)[i]?=some (ZDj (ts.getD i [])):=by simp [ZAe,h]
theorem ZH5:(Tryz.prog.info? 9).map (fun i=>(i.zero,i.size,i.bytes))=some (some (.string ⟨#[]⟩),1,16):=by kernel_rfl
theorem ZPk(b:ByteArray):∀u∈[Value.string b],u.oneCell'=true:=by
 intro u a; simp at a; subst a; rfl
theorem ZDI{B:Nat}{e:TypeId}{w:World}{v:Value}{ts:List (List UInt8)}(h:Sl B e w v (ZAe ts)):∃ao cap,v=.slice ao ts.length cap∧ts.length≤cap∧cap≤9223372036854775807:=by
 obtain ⟨ao,cap,rfl,a,b,_⟩:=h
 refine ⟨ao,cap,by simp,by simpa using a,?_⟩
 unfold maxLen at b; omega
theorem ZDJ{B:Nat}{e:TypeId}{w:World}{ao:Option Addr}{n cap:Nat}{ts:List (List UInt8)}(h:Sl B e w (.slice ao n cap) (ZAe ts)){k:Nat}(hk:k < ts.length):∃b o,ao=some ⟨b,o,none⟩∧w.cell? ⟨b,o+k,none⟩=some (ZDj (ts.getD k [])):=by
 obtain ⟨d,a,c,_,_,i,_⟩:=h;simp only [Za3] at c;obtain ⟨rfl,_,_⟩:=c
 obtain ⟨b,o,f,g,_⟩:=i k (by simpa using hk)
 exact ⟨b,o,f,by rw [g,ZNe _ _ hk]⟩
theorem ZPl(d:Nat)(P:List (List Int))(p:List Int)(t:List UInt8):(grO d P p t).length≤3:=by
 unfold grO;rw [Zab1]
 exact Zaa8 (List.length_filter_le _ _) (by simp)
theorem ZNf{f:List UInt8→List (List UInt8)}(hf:∀t,(f t).length≤3):∀l:List (List UInt8),(l.flatMap f).length≤3*l.length
 | []=>by simp
 | x :: l=>by
  have:=ZNf hf l;have:=hf x;simp only [List.flatMap_cons,Zaa4,List.length_cons];omega
theorem ZOl(d:Nat)(P:List (List Int)):∀k,(grT d P k).length≤3 ^ k
 | 0=>by simp [grT]
 | k+1=>by
  have h1:=ZOl d P k;have h2:=ZNf (ZPl d P (P.getD k [])) (grT d P k)
  show ((grT d P k).flatMap _).length≤_
  rw [Nat.pow_succ];omega
theorem ZLT(t:List UInt8)(c:UInt8):(⟨t.toArray⟩:ByteArray) ++ ⟨#[c]⟩=⟨(t ++ [c]).toArray⟩:=by
 apply ByteArray.ext
 simp
theorem ZLU{B B' n sz:Nat}{e:TypeId}{w:World}{v:Value}{xs:List Value}(h:w.ownsRow B e sz v n xs)(hB:B'≤B):w.ownsRow B' e sz v n xs:=by
 refine ⟨h.1,?_⟩
 rcases h.2 with h2 | ⟨g,cap,cur,rfl,hb,r⟩
 ·exact Or.inl h2
 ·exact Or.inr ⟨g,cap,cur,rfl,Zaa8 hB hb,r⟩
noncomputable def ZG5(ks:List UInt8)(d:Nat)(P:List (List Int))(p:List Int)(t:List UInt8):List (List UInt8):=(ks.filter (mtC (gaC d (clR P t) p) (gaC d (clR P t) (ngL p)))).map fun c=>t ++ [c]
noncomputable def grK(ks:List UInt8)(d:Nat)(P:List (List Int)):Nat→List (List UInt8)
 | 0=>[[]]
 | k+1=>(grK ks d P k).flatMap (ZG5 ks d P (P.getD k []))
theorem ZNg{ks:List UInt8}(hk:ks.length≤3)(d:Nat)(P:List (List Int))(p:List Int)(t:List UInt8):(ZG5 ks d P p t).length≤3:=by
 unfold ZG5;rw [Zab1];exact Zaa8 (List.length_filter_le _ _) hk
def ZE3(ks:List UInt8)(ab be:Bool)(t:List UInt8)(j:Nat):List (List UInt8):=((ks.take j).filter (mtC ab be)).map fun c=>t ++ [c]
theorem ZLV(ks:List UInt8)(ab be:Bool)(t:List UInt8)(j:Nat)(hj:j < ks.length):ZE3 ks ab be t (j+1)=ZE3 ks ab be t j ++ (if mtC ab be (ks.getD j 0) then [t ++ [ks.getD j 0]] else []):=by
 unfold ZE3
 have e:(ks.take (j+1))=ks.take j ++ [ks.getD j 0]:=by
  rw [List.take_add_one]; simp [hj]
 rw [e,List.filter_append,List.map_append]
 congr 1
 by_cases h:mtC ab be (ks.getD j 0)=true
 ·rw [if_pos h,List.filter_cons,if_pos h]; rfl
 ·rw [if_neg h,List.filter_cons,if_neg h]; rfl
theorem ZNh{ks:List UInt8}(hk:ks.length≤3)(ab be:Bool)(t:List UInt8)(j:Nat):(ZE3 ks ab be t j).length≤3:=by
 unfold ZE3;rw [Zab1];refine Zaa8 (List.length_filter_le _ _) ?_;rw [List.length_take];omega
structure GwK(SB:ByteArray)(w0:World)(L:List (List UInt8))(it q5 q6:Nat)(ab be:Bool)(j:Nat)(lv:Value)(wr:World):Prop where
 own:wr.ownsRow w0.heap.size 9 1 lv L.length (ZAe L)
 ir:wr.heap[it]?=some (.stringIter SB j)
 b5:ZBZ wr q5 ab
 b6:ZBZ wr q6 be
 bel:Below w0.heap.size w0 wr
 lo:w0.heap.size≤it∧w0.heap.size≤q5∧w0.heap.size≤q6
theorem GwK.next{SB:ByteArray}{w0:World}{L:List (List UInt8)}{it q5 q6:Nat}{ab be:Bool}{j:Nat}{lv:Value}{wr:World}(h:GwK SB w0 L it q5 q6 ab be j lv wr)(j':Nat):GwK SB w0 L it q5 q6 ab be j' lv (wr.iterAt it SB j'):=
 ⟨ZEf h.own h.ir j',Lib.iterAt_heap wr it _ j j' h.ir,h.b5.iterAt h.ir j',h.b6.iterAt h.ir j',Lib.below_iterAt h.bel h.lo.1 _ _,h.lo⟩
theorem GwK.push{SB:ByteArray}{w0:World}{L:List (List UInt8)}{it q5 q6:Nat}{ab be:Bool}{j:Nat}{lv v':Value}{wr w5:World}{t:List UInt8}(h:GwK SB w0 L it q5 q6 ab be j lv wr)(ho:w5.ownsRow w0.heap.size 9 1 v' (L.length+1) (ZAe L ++ [ZDj t]))(hg:(wr.alloc (.cells #[ZDj t] 9)).grownBy w5 lv.ownBlock):GwK SB w0 (L ++ [t]) it q5 q6 ab be j v' w5:=by
 have d:∀b,b < wr.heap.size→some b≠lv.ownBlock→w5.heap[b]?=wr.heap[b]?:=fun b hb hn=>(hg.block b (by simp; omega) hn).trans (Below.heap_alloc wr _ b hb)
 have c:∀g,lv.ownBlock=some g→∃a,wr.heap[g]?=some (.cells a 9 (0,0)):=fun g hgb=>by
  rcases h.own.2 with ⟨q,_⟩ | ⟨g',cap,a,q,_,q2,_⟩
  ·rw [q] at hgb; simp [Value.ownBlock] at hgb
  ·rw [q] at hgb
   simp [Value.ownBlock] at hgb;subst hgb;exact ⟨a,q2⟩
 have f:∀q b,ZBZ wr q b→ZBZ w5 q b:=fun q b hq=>(d q hq.lt (fun e=>by
  obtain ⟨a,k⟩:=c q e.symm;unfold ZBZ at hq;rw [hq] at k;simp at k)).trans hq
 refine ⟨?_,(d it (Zaa3.1 h.ir).1 (fun e=>by
  obtain ⟨a,k⟩:=c it e.symm;rw [h.ir] at k; cases k)).trans h.ir,f _ _ h.b5,f _ _ h.b6,?_,h.lo⟩
 ·simpa [ZAe] using ho
 ·refine (h.bel.alloc h.bel.size (.cells #[ZDj t] 9)).trans ⟨hg.os,hg.tape,hg.output,Zaa8 (by simp) hg.size,fun b hb=>hg.block b (by have:=h.bel.size; simp; omega) (fun e=>?_)⟩
  have:=(h.own.lt b e.symm).1;omega
theorem ZFY(ks:List UInt8)(hks:ks=[43,45,48]∨ks=[43,45])(d:Nat)(P:List (List Int))(v:Value)(w:World){B0:Nat}(hv:Mat B0 27 3 w v P)(hP:∀p∈P,p.length=d+1∧∀z∈p,z.natAbs≤20)(hd1:1≤d)(hd3:d≤3)(hs6:P.length≤6)(hmem:∀k t,k < P.length→t∈grK ks d P k→t.length=k∧∃z,ZC0 d P t z)(hlen:∀k,k < P.length→(grK ks d P k).length≤729) :
  Calls Tryz.prog 29 #[.int .i64 d,v,.string ⟨ks.toArray⟩] w fun e w'=>∃u,e=.returned u∧w'.ownsRow w.heap.size 9 1 u (grK ks d P P.length).length (ZAe (grK ks d P P.length))∧Below w.heap.size w w':=by
 obtain ⟨i0,bJ,bK,bG,bq⟩:=info_parts ZH5;obtain ⟨ro,rc,bN,bY,cd⟩:=ZAD hv;subst bN
 have aN:Hid (ks.length≤3):=by show _≤_; rcases hks with rfl | rfl <;> decide
 have aU:Hid (∀i,i < ks.length→∃c:UInt8,c=ks.getD i 0∧(c=43∨c=45∨c=48)∧∀(X:World) (t ty:Nat),X.heap[t]?=some (.stringIter ⟨ks.toArray⟩ i)→(Instr.next (.pointer (some ⟨t,0,none⟩)) true ty).run Tryz.prog X=.ok (.tuple #[.bool true,.int .i64 (i:Int),.int .i32 (c.toNat:Int)]) (X.iterAt t ⟨ks.toArray⟩ (i+1))):=fun i hi=>by
  rcases hks with rfl | rfl
  ·rcases (show i=0∨i=1∨i=2 by simp at hi; omega) with rfl | rfl | rfl
   ·exact ⟨43,rfl,.inl rfl,fun X t ty h=>Lib.run_next_ascii_at X t _ 0 ty h (by decide) (by decide)⟩
   ·exact ⟨45,rfl,.inr (.inl rfl),fun X t ty h=>Lib.run_next_ascii_at X t _ 1 ty h (by decide) (by decide)⟩
   ·exact ⟨48,rfl,.inr (.inr rfl),fun X t ty h=>Lib.run_next_ascii_at X t _ 2 ty h (by decide) (by decide)⟩
  ·rcases (show i=0∨i=1 by simp at hi; omega) with rfl | rfl
   ·exact ⟨43,rfl,.inl rfl,fun X t ty h=>Lib.run_next_ascii_at X t _ 0 ty h (by decide) (by decide)⟩
   ·exact ⟨45,rfl,.inr (.inl rfl),fun X t ty h=>Lib.run_next_ascii_at X t _ 1 ty h (by decide) (by decide)⟩
 obtain ⟨M,aC⟩:∃M:ByteArray,M=⟨ks.toArray⟩:=⟨_,rfl⟩
 rw [←aC] at aU ⊢
 have bO:Hid (M.size=ks.length):=(by rw [aC]; rfl:M.size=ks.length)
 have bA:Hid (∀k,k < P.length→∀t∈grK ks d P k,t.length=k):=fun k F t o=>(hmem k t F o).1
 have HT:Hid (∀k t,k < P.length→t∈grK ks d P k→t.length=k∧(∀c∈t,c=43∨c=45∨c=48)∧CutOk d (clR P t)∧∃x y,Fea d (clR P t) x y):=fun k t F o=>by
  obtain ⟨h1,z,hz⟩:=hmem k t F o
  refine ⟨h1,fun c hc=>?_,⟨hd1,hd3,?_,fun r hr=>?_,fun r hr=>?_⟩,_,_,hz.fea⟩
  ·obtain ⟨i,hi,e⟩:=List.getElem_of_mem hc
   have:=hz.2 i hi
   rw [show t.getD i 0=c by simp [hi,e]] at this
   rcases this with ⟨q,_⟩ | ⟨q,_⟩ | ⟨q,_⟩ <;> simp [q]
  ·have:=ZEc P t t.length
   show (clT P t t.length).length≤12
   omega
  ·obtain ⟨i,hi,h⟩:=ZEd hr
   have:=(hP (P.getD i []) (ZAg (by omega))).1
   rcases h with rfl | rfl
   ·exact this
   ·simp only [ngL,Zab1]; exact this
  ·obtain ⟨i,hi,h⟩:=ZEd hr
   have:=(hP (P.getD i []) (ZAg (by omega))).2
   rcases h with rfl | rfl
   ·exact this
   ·intro z hz
    simp only [ngL,List.mem_map] at hz;obtain ⟨y,hy,rfl⟩:=hz;have:=this y hy;omega
 have ar:Hid (∀k t X,k < P.length→t∈grK ks d P k→Below w.heap.size w X→Calls Tryz.prog 32 #[.int .i64 d,.slice ro P.length rc,.string ⟨t.toArray⟩] X fun e w'=>∃D A,e=.returned (.agg #[.int .i64 d,.slice D (clR P t).length A])∧(∃Bm,Mat Bm 27 3 w' (.slice D (clR P t).length A) (clR P t))∧Below X.heap.size X w'):=fun k t X F o hX=>by
  obtain ⟨h1,h2,_,_⟩:=HT.out k t F o
  exact (ZFX d P t _ X (hv.below hX (Za4 _)) hP hd3 (by omega) hs6 h2).mono fun e w' ⟨D,A,a,b,c⟩=>⟨D,A,a,⟨_,b⟩,c⟩
 have aB:Hid (∀k t X u V,k < P.length→t∈grK ks d P k→(∃Bm,Mat Bm 27 3 X u (clR P t))→Sl B0 3 X V (ZAB (P.getD k []))→Calls Tryz.prog 44 #[.agg #[.int .i64 d,u],V] X fun e w'=>∃l m,e=.returned (.func (.func 73) #[] #[.pointer (some ⟨l,0,none⟩),.pointer (some ⟨m,0,none⟩)])∧X.heap.size≤l∧X.heap.size≤m∧ZBZ w' l (gaC d (clR P t) (P.getD k []))∧ZBZ w' m (gaC d (clR P t) (ngL (P.getD k [])))∧Below X.heap.size X w'):=fun k t X u V F o hu hp=>by
  obtain ⟨_,_,h3,h4⟩:=HT.out k t F o;obtain ⟨hl,hb⟩:=hP (P.getD k []) (ZAg F);obtain ⟨_,hu⟩:=hu;exact ZH4 d _ _ _ _ X hu hp h3 hl hb h4
 have HV:Hid (∀k,k < P.length→∃pb po V,ro=some ⟨pb,po,none⟩∧∀X,Below w.heap.size w X→X.cell? ⟨pb,po+k,none⟩=some V∧Sl B0 3 X V (ZAB (P.getD k []))):=fun k F=>by
  obtain ⟨pb,po,bX,u,e1,_,h1,h2⟩:=ZAP hv F;simp only [Za3] at e1
  exact ⟨pb,po,u,e1.1,fun X hX=>⟨(hX.cell (ZAH h1)).trans h1,h2.below hX (Za4 _)⟩⟩
 have HG:Hid (∀k,k < P.length→(grK ks d P k).length≤729∧grK ks d P (k+1)=(grK ks d P k).flatMap (ZG5 ks d P (P.getD k []))):=fun k F=>⟨hlen k F,rfl⟩
 have HZ:Hid (grK ks d P 0=[[]]):=rfl;clear hv hP HT hks aC hmem hlen;go_enter Tryz.func29,Tryz.ntmps29;go_wp2
 go_loopw [7,19] (fun x i wr=>∃(k:Nat) (ao:Option Addr) (ac:Nat),k≤P.length∧i=.int .i64 (k:Int)∧x=.slice ao (grK ks d P k).length ac∧(grK ks d P k).length≤ac∧wr.ownsRow w.heap.size 9 1 (.slice ao (grK ks d P k).length ac) (grK ks d P k).length (ZAe (grK ks d P k))∧Below w.heap.size w wr) (fun _ i _=>P.length-(intOf i).toNat)
 case atStart=>
  refine ⟨0,some ⟨w.heap.size,0,none⟩,1,Za5 _,rfl,rfl,by rw [HZ.out]; decide,?_,(Below.refl _ _).alloc (Za4 _) _⟩
  rw [HZ.out]
  exact World.ownsRow_lit (base:=w.heap.size) (e:=9) (size:=1) w #[.string { data:=#[] }] 1 (Za4 _) (by unfold maxLen; omega) rfl
 case round=>
  obtain ⟨k,ao,ac,F,rfl,rfl,bu,af,n⟩:=hrel
  by_cases hlt:k < P.length
  ·obtain ⟨pb,po,V,bM,aE⟩:=HV.out k hlt
   subst bM;obtain ⟨bv,bj⟩:=HG.out k hlt;have az:=hid bj
   have HA:Hid (∀X,Below wr.heap.size wr X→Sl 0 9 X (.slice ao (grK ks d P k).length ac) (ZAe (grK ks d P k))):=fun X hX=>(Sl.own af).below hX (Za4 _)
   have s:=hid n
   have aj:Hid (∀t X,t∈grK ks d P k→Below w.heap.size w X→Calls Tryz.prog 32 #[.int .i64 d,.slice (some ⟨pb,po,none⟩) P.length rc,.string ⟨t.toArray⟩] X fun e w'=>∃D A,e=.returned (.agg #[.int .i64 d,.slice D (clR P t).length A])∧(∃Bm,Mat Bm 27 3 w' (.slice D (clR P t).length A) (clR P t))∧Below X.heap.size X w'):=fun t X o hX=>ar.out k t X hlt o hX
   have ai:Hid (∀t X u,t∈grK ks d P k→Below w.heap.size w X→(∃Bm,Mat Bm 27 3 X u (clR P t))→Calls Tryz.prog 44 #[.agg #[.int .i64 d,u],V] X fun e w'=>∃l m,e=.returned (.func (.func 73) #[] #[.pointer (some ⟨l,0,none⟩),.pointer (some ⟨m,0,none⟩)])∧X.heap.size≤l∧X.heap.size≤m∧ZBZ w' l (gaC d (clR P t) (P.getD k []))∧ZBZ w' m (gaC d (clR P t) (ngL (P.getD k [])))∧Below X.heap.size X w'):=fun t X u o hX hu=>aB.out k t X u V hlt o hu (aE X hX).2
   have bi:Hid (∀t∈grK ks d P k,t.length≤6):=fun t o=>by have:=bA.out k hlt t o; omega
   obtain ⟨bw,_⟩:=aE wr n
   obtain ⟨G,hG⟩:∃G,G=grK ks d P k:=⟨_,rfl⟩
   rw [←hG] at bu bv az HA aj ai bi
   have bZ:(k:Int) < (P.length:Int):=by omega
   have bS:(0:Int)≤(k:Int):=by omega
   rw [show (grK ks d P k).length=G.length by rw [hG]]
   clear af n bj aE hG ar aB HV HG HZ
   obtain ⟨g,rfl⟩:∃g,g=wr:=⟨wr,rfl⟩
   go_wp2;clear bw
   go_loopw [10,25] (fun x i wq=>∃(j:Nat) (lo:Option Addr) (lc:Nat),j≤G.length∧i=.int .i64 (j:Int)∧x=.slice lo ((G.take j).flatMap (ZG5 ks d P (P.getD k []))).length lc∧wq.ownsRow g.heap.size 9 1 (.slice lo ((G.take j).flatMap (ZG5 ks d P (P.getD k []))).length lc) ((G.take j).flatMap (ZG5 ks d P (P.getD k []))).length (ZAe ((G.take j).flatMap (ZG5 ks d P (P.getD k []))))∧Below g.heap.size g wq) (fun _ i _=>G.length-(intOf i).toNat)
   case atStart=>exact ⟨0,none,0,Za5 _,rfl,by simp,by simp [ZAe]; exact World.ownsRow_nil _ _ _ _,Below.refl _ _⟩
   case round=>
    obtain ⟨j,lo,lc,hj,rfl,rfl,U,aK⟩:=hrel
    obtain ⟨f,N⟩:∃f,f=(G.take j).flatMap (ZG5 ks d P (P.getD k [])):=⟨_,rfl⟩
    have bT:f.length≤2187:=by
     have:=ZNf (ZNg aN.out d P (P.getD k [])) (G.take j);rw [←N] at this
     have h2:(G.take j).length≤G.length:=by simp [List.length_take]; omega
     omega
    rw [←N] at U
    rw [show ((G.take j).flatMap (ZG5 ks d P (P.getD k []))).length=f.length by rw [N]]
    have ay:=hid N;have aq:=hid U;have O:=hid aK;clear U aK N
    by_cases hjl:j < G.length
    ·have hmem:G.getD j []∈G:=by simp [hjl]
     obtain ⟨bF,bQ,bE,ag⟩:=ZDJ (HA.out wr O.out) hjl;subst bE
     have am:Hid ((G.take (j+1)).flatMap (ZG5 ks d P (P.getD k []))=f ++ ZG5 ks d P (P.getD k []) (G.getD j [])):=by
      have e:G.take (j+1)=G.take j ++ [G.getD j []]:=by rw [List.take_add_one]; simp [hjl]
      show _=_
      rw [e,List.flatMap_append,←ay.out];simp
     obtain ⟨t,o⟩:∃t,t=G.getD j []:=⟨_,rfl⟩
     rw [←o] at hmem ag am;have HC:=aj.out t;have HM:=ai.out t
     have aR:Hid (∀X,Below g.heap.size g X→Calls Tryz.prog 32 #[.int .i64 d,.slice (some ⟨pb,po,none⟩) P.length rc,.string ⟨t.toArray⟩] X fun e w'=>∃D A,e=.returned (.agg #[.int .i64 d,.slice D (clR P t).length A])∧(∃Bm,Mat Bm 27 3 w' (.slice D (clR P t).length A) (clR P t))∧Below X.heap.size X w'):=fun X hX=>HC X hmem (s.out.trans (hX.mono s.out.size))
     have aH:Hid (∀X u,Below g.heap.size g X→(∃Bm,Mat Bm 27 3 X u (clR P t))→Calls Tryz.prog 44 #[.agg #[.int .i64 d,u],V] X fun e w'=>∃l m,e=.returned (.func (.func 73) #[] #[.pointer (some ⟨l,0,none⟩),.pointer (some ⟨m,0,none⟩)])∧X.heap.size≤l∧X.heap.size≤m∧ZBZ w' l (gaC d (clR P t) (P.getD k []))∧ZBZ w' m (gaC d (clR P t) (ngL (P.getD k [])))∧Below X.heap.size X w'):=fun X u hX hu=>HM X u hmem (s.out.trans (hX.mono s.out.size)) hu
     have aG:=bi.out t hmem
     have aL:Hid (ZG5 ks d P (P.getD k []) t=ZE3 ks (gaC d (clR P t) (P.getD k [])) (gaC d (clR P t) (ngL (P.getD k []))) t ks.length):=by show _=_; unfold ZG5 ZE3; rw [List.take_length]
     have bW:(j:Int) < (G.length:Int):=by omega
     have bR:(0:Int)≤(j:Int):=by omega
     change wr.cell? ⟨bF,bQ+j,none⟩=some (.string ⟨t.toArray⟩) at ag
     obtain ⟨TB,S⟩:∃TB:ByteArray,TB=⟨t.toArray⟩:=⟨_,rfl⟩
     have bt:=hid S
     have bU:TB.size≤6:=by rw [S]; exact aG
     rw [←S] at ag
     have ak:Hid (∀X,Below g.heap.size g X→Calls Tryz.prog 32 #[.int .i64 d,.slice (some ⟨pb,po,none⟩) P.length rc,.string TB] X fun e w'=>∃D A,e=.returned (.agg #[.int .i64 d,.slice D (clR P t).length A])∧(∃Bm,Mat Bm 27 3 w' (.slice D (clR P t).length A) (clR P t))∧Below X.heap.size X w'):=by rw [S]; exact aR.out
     generalize gaC d (clR P t) (P.getD k [])=ab at *;generalize gaC d (clR P t) (ngL (P.getD k []))=be at *;clear HC HM hmem o S aR aG
     go_wp2_with fail
     refine (ak.out wr O.out).mono ?_;rintro e w2 ⟨D,A,rfl,aP,au⟩;have ae:Hid (Below g.heap.size g w2):=O.out.trans (au.mono O.out.size);have bl:Hid (w2.ownsRow g.heap.size 9 1 (.slice lo f.length lc) f.length (ZAe f)):=ZAQ aq.out au (Za4 _);have aJ:=aH.out w2 _ ae.out aP;have aQ:=hid aJ;clear aJ aP au ag ak aH;generalize (clR P t).length=cln at *
     go_wp2_with fail
     refine aQ.out.mono ?_;rintro e E ⟨l,m,rfl,bC,bI,bg,aZ,aA⟩;have bP:=ae.out.size;have an:Hid (Below g.heap.size g E):=ae.out.trans (aA.mono ae.out.size)
     have aY:Hid (GwK M g (f ++ ZE3 ks ab be t 0) E.heap.size l m ab be 0 (.slice lo f.length lc) (E.iter M 0)):=by
      have ha:Below E.heap.size E (E.iter M 0):=(Below.refl _ _).alloc (Za4 _) _
      refine ⟨?_,World.iter_heap _ _ _,bg.below ha (Za4 _),aZ.below ha (Za4 _),an.out.trans (ha.mono an.out.size),an.out.size,by omega,by omega⟩
      simp only [ZE3,List.take_zero,List.filter_nil,List.map_nil,List.append_nil];exact ZAQ (ZAQ bl.out aA (Za4 _)) ha (Za4 _)
     clear bg aZ aA bC bI bP aQ;go_wp2
     go_loopg [10] ks.length (fun gk lv wz=>∃(i:Nat) (so:Option Addr) (sc:Nat),i≤ks.length∧gk=ks.length-i∧lv=.slice so (f ++ ZE3 ks ab be t i).length sc∧GwK M g (f ++ ZE3 ks ab be t i) E.heap.size l m ab be i (.slice so (f ++ ZE3 ks ab be t i).length sc) wz)
     case atStart=>exact ⟨0,lo,lc,Za5 _,rfl,by simp [ZE3],by simpa [ZE3] using aY.out⟩
     case round=>
      obtain ⟨i,so,sc,hi,bp,rfl,hI⟩:=hrel;have bL:=hid bp
      obtain ⟨L,hL⟩:∃L,L=f ++ ZE3 ks ab be t i:=⟨_,rfl⟩
      have cg:L.length≤2190:=by
       have:=ZNh aN.out ab be t i;rw [hL,Zaa4]; omega
      rw [←hL] at hI
      rw [show (f ++ ZE3 ks ab be t i).length=L.length by rw [hL]]
      have HL:=hid hL;clear bp hL aY
      by_cases hi3:i < ks.length
      ·obtain ⟨c,hc,aF,ah⟩:=aU.out i hi3
       have aO:∀ty,(Instr.next (.pointer (some ⟨E.heap.size,0,none⟩)) true ty).run Tryz.prog wr=.ok (.tuple #[.bool true,.int .i64 (i:Int),.int .i32 (c.toNat:Int)]) (wr.iterAt E.heap.size M (i+1)):=fun ty=>ah wr E.heap.size ty hI.ir
       clear ah
       have aw:∀X,(Go.convert 21 9 (.int .i32 (c.toNat:Int))).run Tryz.prog X=.ok (.string ⟨#[c]⟩) X:=fun X=>by
        rcases aF with rfl | rfl | rfl
        ·kernel_rfl
        ·kernel_rfl
        ·kernel_rfl
       have aM:Hid (∀X,ZBZ X l ab→ZBZ X m be→Calls Tryz.prog 73 #[.int .i32 (c.toNat:Int),.pointer (some ⟨l,0,none⟩),.pointer (some ⟨m,0,none⟩)] X fun e w'=>e=.returned (.bool (mtC ab be c))∧w'=X):=fun X h1 h2=>ZLS c aF l m ab be X h1 h2
       have B:Hid (f ++ ZE3 ks ab be t (i+1)=L ++ (if mtC ab be c then [t ++ [c]] else [])):=by
        show _=_
        rw [ZLV ks ab be t i hi3,←hc,HL.out,List.append_assoc]
       obtain ⟨CB,aa⟩:∃CB:ByteArray,CB=⟨#[c]⟩:=⟨_,rfl⟩
       have bV:CB.size=1:=by rw [aa]; rfl
       have bH:Hid (TB ++ CB=⟨(t ++ [c]).toArray⟩):=by
        show _=_
        rw [bt.out,aa]; exact ZLT t c
       rw [←aa] at aw
       have aX:ks.length-(i+1) < gk:=by rw [bL.out]; omega
       have Q:=hI.next (i+1)
       obtain ⟨w4,aT⟩:∃w4,w4=wr.iterAt E.heap.size M (i+1):=⟨_,rfl⟩
       rw [←aT] at aO Q;have Y:=hid Q;have aW:=aM.out w4 Q.b5 Q.b6;generalize (c.toNat:Int)=ci at *;have bh:=hid aW;generalize mtC ab be c=mt at *;clear hI Q aT hc aF aa aW aM HL
       go_wp2_with fail
       refine bh.out.mono ?_;rintro e w5 ⟨rfl,rfl⟩;clear bh
       cases mt with
       | false=>
        have HF:Hid (GwK M g (f ++ ZE3 ks ab be t (i+1)) E.heap.size l m ab be (i+1) (.slice so L.length sc) w5):=by
         show GwK _ _ _ _ _ _ _ _ _ _ _
         rw [B.out]
         simpa using Y.out
        have R:Hid (L.length=(f ++ ZE3 ks ab be t (i+1)).length):=by
         show _=_
         rw [B.out];simp
        go_wp2
        go_roundg (ks.length-(i+1))
        case measure=>exact aX
        case rel=>exact ⟨i+1,so,sc,by omega,rfl,by rw [←R.out],by rw [←R.out]; exact HF.out⟩
       | true=>
        have aV:g.heap.size≤w5.heap.size:=Y.out.bel.size
        go_wp2_with (first | (at_builtin; refine wpList_append_own _ rfl _ _ 26 rfl g.heap.size 9 i0 (.string ⟨#[]⟩) 1 16 Tryz.underlying26 bJ bK bG bq rfl (by decide) _ _ _ rfl (Y.out.own.alloc _) ⟨w5.heap.size,0,none⟩ 1 1 [.string (TB ++ CB)] rfl rfl (ZAS _ _ _) (ZPk _) ?d3 ?d4 ?d5 ?_))
        case d3=>unfold maxLen; omega
        case d4=>omega
        case d5=>first | exact aV | omega | (simp; omega)
        intro v' w6 ho hg _
        have HF:Hid (GwK M g (f ++ ZE3 ks ab be t (i+1)) E.heap.size l m ab be (i+1) v' w6):=by
         show GwK _ _ _ _ _ _ _ _ _ _ _
         rw [bH.out] at ho hg;rw [B.out];exact Y.out.push (t:=t ++ [c]) ho hg
        have R:Hid ((f ++ ZE3 ks ab be t (i+1)).length=L.length+1):=by
         show _=_
         rw [B.out];simp
        obtain ⟨vo,vc,bB⟩:=ZAE ho;subst bB;clear ho hg;go_wp2
        go_roundg (ks.length-(i+1))
        case measure=>exact aX
        case rel=>exact ⟨i+1,vo,vc,by omega,rfl,by rw [R.out],by rw [R.out]; exact HF.out⟩
      ·have aD:i=ks.length:=by omega
       have aO:∀ty,(Instr.next (.pointer (some ⟨E.heap.size,0,none⟩)) true ty).run Tryz.prog wr=.ok (.tuple #[.bool false]) wr:=fun ty=>
        Lib.run_next_end_at wr _ _ i ty hI.ir (by rw [aD,bO.out]; exact Nat.lt_irrefl _)
       have HO:Hid (wr.ownsRow g.heap.size 9 1 (.slice so L.length sc) L.length (ZAe L)):=hI.own;have T:Hid (Below g.heap.size g wr):=hI.bel
       have J:Hid (L=(G.take (j+1)).flatMap (ZG5 ks d P (P.getD k []))):=by
        show _=_
        rw [am.out,aL.out,HL.out,aD]
       clear aD hI HL am aL;go_wp2
       go_roundw
       case rel=>
        refine ⟨j+1,so,sc,by omega,by go_num,by rw [←J.out],?_,T.out⟩
        rw [←J.out];exact HO.out
       case measure=>simp [intOf]; omega
    ·have aI:j=G.length:=by omega
     have J:Hid (f=grK ks d P (k+1)):=by
      show _=_
      rw [ay.out,az.out,aI,List.take_length]
     have bz:Hid (Sl 0 9 wr (.slice lo f.length lc) (ZAe f)):=Sl.own aq.out;have bD:Hid (wr.ownsRow w.heap.size 9 1 (.slice lo f.length lc) f.length (ZAe f)):=ZLU aq.out s.out.size;have T:Hid (Below w.heap.size w wr):=s.out.trans (O.out.mono s.out.size)
     have bk:f.length≤lc:=by
      obtain ⟨_,_,e,q,_⟩:=bz.out;simp only [Za3] at e;obtain ⟨_,_,rfl⟩:=e
      simpa using q
     clear aI ay az;go_wp2
     go_roundw
     case rel=>exact ⟨k+1,lo,lc,by omega,by go_num,by rw [←J.out],by rw [←J.out]; exact bk,by rw [←J.out]; exact bD.out,T.out⟩
     case measure=>simp [intOf]; omega
  ·have aS:k=P.length:=by omega
   have HS:Hid (wr.ownsRow w.heap.size 9 1 (.slice ao (grK ks d P k).length ac) (grK ks d P P.length).length (ZAe (grK ks d P P.length))):=by rw [←aS]; exact af
   have T:=hid n;clear aS af n ar aB HV HG HZ;go_wp2;go_ret;exact ⟨_,rfl,HS.out,T.out⟩
theorem ZNi(d:Nat)(P:List (List Int)):∀k,grK [43,45,48] d P k=grT d P k
 | 0=>rfl
 | k+1=>by show (grK [43,45,48] d P k).flatMap _=(grT d P k).flatMap _; rw [ZNi d P k]; rfl
theorem ZLW(d:Nat)(P:List (List Int))(v:Value)(w:World){B0:Nat}(hv:Mat B0 27 3 w v P)(hP:∀p∈P,p.length=d+1∧∀z∈p,z.natAbs≤20)(hd1:1≤d)(hd3:d≤3)(hs6:P.length≤6) :
  Calls Tryz.prog 29 #[.int .i64 d,v,.string ⟨#[43,45,48]⟩] w fun e w'=>∃u,e=.returned u∧Sl 0 9 w' u (ZAe (grT d P P.length))∧Below w.heap.size w w':=by
 refine (ZFY [43,45,48] (.inl rfl) d P v w hv hP hd1 hd3 hs6 (fun k t _ ht=>ZG1.1 (by rwa [ZNi] at ht)) (fun k hk=>?_)).mono ?_
 ·rw [ZNi]; exact Zaa8 (ZOl d P k) (Nat.pow_le_pow_right (by decide) (by omega:k≤6))
 ·rintro e w' ⟨u,rfl,a,b⟩
  rw [ZNi] at a;exact ⟨u,rfl,Sl.own a,b⟩
noncomputable def ZQL(d:Nat)(P:List (List Int))(p:List Int)(t:List UInt8):List (List UInt8):=([43,45].filter (mtC (gaC d (clR P t) p) (gaC d (clR P t) (ngL p)))).map fun c=>t ++ [c]
noncomputable def ZBi(d:Nat)(P:List (List Int)):Nat→List (List UInt8)
 | 0=>[[]]
 | k+1=>(ZBi d P k).flatMap (ZQL d P (P.getD k []))
theorem ZCy{d:Nat}{P:List (List Int)} : ∀{k:Nat} {t:List UInt8},t∈ZBi d P k↔(t.length=k∧∃z,ZC0 d P t z)∧∀c∈t,c=43∨c=45
 | 0,t=>by
  simp only [ZBi,List.mem_singleton]
  constructor
  ·rintro rfl
   exact ⟨⟨rfl,fun _=>1,by simp,fun i hi=>absurd hi (by simp)⟩,by simp⟩
  ·rintro ⟨⟨h,_⟩,_⟩
   exact List.length_eq_zero_iff.1 h
 | k+1,t=>by
  simp only [ZBi,List.mem_flatMap]
  constructor
  ·rintro ⟨u,hu,h⟩
   obtain ⟨⟨hk,hz⟩,hp⟩:=ZCy.1 hu;simp only [ZQL,List.mem_map,List.mem_filter] at h;obtain ⟨c,⟨hc,hm⟩,rfl⟩:=h
   have hc2:c=43∨c=45:=by simpa using hc
   rw [←hk] at hm
   refine ⟨⟨by simp [hk],(ZDH hz (by rcases hc2 with h | h <;> simp [h])).1 hm⟩,fun q hq=>?_⟩
   rcases List.mem_append.1 hq with hq | hq
   ·exact hp q hq
   ·rw [List.mem_singleton.1 hq]; exact hc2
  ·rintro ⟨⟨hl,z,hz⟩,hp⟩
   obtain ⟨u,c,rfl⟩:∃u c,t=u ++ [c]:=by
    refine ⟨t.dropLast,t.getLast (fun e=>by rw [e] at hl; simp at hl),?_⟩
    exact (List.dropLast_concat_getLast _).symm
   simp at hl;obtain ⟨a,b⟩:=ZBM.1 hz
   refine ⟨u,ZCy.2 ⟨⟨hl,z,a⟩,fun q hq=>hp q (List.mem_append_left _ hq)⟩,?_⟩
   have hc:=hp c (by simp)
   simp only [ZQL,List.mem_map,List.mem_filter]
   refine ⟨c,⟨by simpa using hc,?_⟩,rfl⟩
   rw [←hl]
   exact (ZDH ⟨z,a⟩ (by rcases hc with h | h <;> simp [h])).2 ⟨z,hz⟩
theorem ZNx(d:Nat)(P:List (List Int))(p:List Int)(t:List UInt8):(ZQL d P p t).length≤3:=by
 unfold ZQL;rw [Zab1]
 exact Zaa8 (List.length_filter_le _ _) (by simp)
theorem ZGM(d:Nat)(P:List (List Int)):∀k,(ZBi d P k).length≤3 ^ k
 | 0=>by simp [ZBi]
 | k+1=>by
  have h1:=ZGM d P k;have h2:=ZNf (ZNx d P (P.getD k [])) (ZBi d P k)
  show ((ZBi d P k).flatMap _).length≤_
  rw [Nat.pow_succ];omega
theorem ZJG(d:Nat)(P:List (List Int)):∀k,grK [43,45] d P k=ZBi d P k
 | 0=>rfl
 | k+1=>by show (grK [43,45] d P k).flatMap _=(ZBi d P k).flatMap _; rw [ZJG d P k]; rfl
theorem ZJt(d:Nat)(P:List (List Int))(v:Value)(w:World){B0:Nat}(hv:Mat B0 27 3 w v P)(hP:∀p∈P,p.length=d+1∧∀z∈p,z.natAbs≤20)(hd1:1≤d)(hd3:d≤3)(hs6:P.length≤6) :
  Calls Tryz.prog 29 #[.int .i64 d,v,.string ⟨#[43,45]⟩] w fun e w'=>∃u,e=.returned u∧w'.ownsRow w.heap.size 9 1 u (ZBi d P P.length).length (ZAe (ZBi d P P.length))∧Below w.heap.size w w':=by
 have h:=ZFY [43,45] (.inr rfl) d P v w hv hP hd1 hd3 hs6 (fun k t _ ht=>(ZCy.1 (by rwa [ZJG] at ht)).1) (fun k hk=>by
  rw [ZJG]; exact Zaa8 (ZGM d P k) (Nat.pow_le_pow_right (by decide) (by omega:k≤6)))
 rwa [ZJG] at h
end Go.Proofs.YtkjkfceblmgogaaGreat
