import Derived.Test.YtkjkfceblmgogaaGreatFlC
import Derived.Test.YtkjkfceblmgogaaGreatEzF
import Derived.Test.YtkjkfceblmgogaaGreatEzA
set_option maxRecDepth 100000
set_option maxHeartbeats 8000000
namespace Go.Proofs.YtkjkfceblmgogaaGreat
open Lin
def abB:Bool:=(List.range 7).all fun n=>(List.range (2 ^ n)).all fun s=>(List.range n).all fun i=>s.testBit i || (decide (s+2 ^ i < 2 ^ n) && (List.range n).all fun k=>(s+2 ^ i).testBit k == (s.testBit k || k == i))
theorem ZRl:abB=true:=by decide +kernel
theorem ZMb{n s i:Nat}(hn:n≤6)(hs:s < 2 ^ n)(hi:i < n)(hb:s.testBit i=false):s+2 ^ i < 2 ^ n∧∀k,k < n→(s+2 ^ i).testBit k=(s.testBit k || k == i):=by
 have h:=ZRl;unfold abB at h;rw [List.all_eq_true] at h
 have b:=List.all_eq_true.1 (h n (List.mem_range.2 (by omega))) s (List.mem_range.2 hs)
 have a:=List.all_eq_true.1 b i (List.mem_range.2 hi);rw [hb,Bool.false_or,Bool.and_eq_true,decide_eq_true_eq] at a
 exact ⟨a.1,fun k hk=>by have:=List.all_eq_true.1 a.2 k (List.mem_range.2 hk); exact eq_of_beq this⟩
theorem ZOv{d:Nat}{P:List (List Int)}{s i:Nat}(hn:P.length≤6)(hs:s < 2 ^ P.length)(hi:i < P.length)(hb:s.testBit i=false){v:Nat→Int} : Zr d P (s+2 ^ i) v↔Zr d P s v∧dot (d+1) (V (P.getD i [])) v=0:=by
 obtain ⟨_,c⟩:=ZMb hn hs hi hb
 constructor
 ·intro h
  refine ⟨fun k a b=>h k a (by rw [c k a,b]; rfl),h i hi (by rw [c i hi]; simp)⟩
 ·rintro ⟨f,g⟩ k a b
  rw [c k a] at b
  cases hb2:s.testBit k
  ·rw [hb2] at b
   have:k=i:=by simpa using b
   subst this; exact g
  ·exact f k a hb2
def dfT(d:Nat)(P:List (List Int))(r s k:Nat):Bool:=(List.range k).all fun i=>s.testBit i || !(cen d P (s+2 ^ i) && decide (rk d (plS P (s+2 ^ i))=r))
def dfl(d:Nat)(P:List (List Int))(r s:Nat):Bool:=(cen d P s && decide (rk d (plS P s)=r)) && dfT d P r s P.length
theorem ZOF(d:Nat)(P:List (List Int))(r s k:Nat):dfT d P r s (k+1)=(dfT d P r s k && (s.testBit k || !(cen d P (s+2 ^ k) && decide (rk d (plS P (s+2 ^ k))=r)))):=by
 unfold dfT;rw [List.range_succ,List.all_append];simp
theorem ZMc{d:Nat}{P:List (List Int)}{r s:Nat}(hn:P.length≤6)(hs:s < 2 ^ P.length):dfl d P r s=true↔flB d P s=true∧rS d P s=r:=by
 unfold dfl dfT;rw [Bool.and_eq_true,Bool.and_eq_true,decide_eq_true_eq,List.all_eq_true]
 constructor
 ·rintro ⟨⟨g,b⟩,y⟩
  rw [ZGo g] at b
  refine ⟨ZDB.2 ⟨g,fun i f l=>?_⟩,b⟩
  cases hb:s.testBit i
  ·have n:=y i (List.mem_range.2 f)
   rw [hb,Bool.false_or] at n
   have j:∀v,Zr d P (s+2 ^ i) v↔Zr d P s v:=fun v=>by
    rw [ZOv hn hs f hb]
    exact ⟨fun h=>h.1,fun h=>⟨h,ZB5.1 l v h⟩⟩
   have c:cen d P (s+2 ^ i)=true:=by
    obtain ⟨v,x,o⟩:=ZCq.1 g;exact ZCq.2 ⟨v,(j v).2 x,o⟩
   have m:rS d P (s+2 ^ i)=rS d P s:=Nat.le_antisymm (ZNF fun v h=>(j v).2 h) (ZNF fun v h=>(j v).1 h)
   rw [c,ZGo c,m,b] at n;simp at n
  ·rfl
 ·rintro ⟨t,b⟩
  obtain ⟨g,l⟩:=ZDB.1 t
  refine ⟨⟨g,by rw [ZGo g]; exact b⟩,fun i f=>?_⟩
  have f:=List.mem_range.1 f
  cases hb:s.testBit i
  ·rw [Bool.false_or]
   cases c:cen d P (s+2 ^ i)
   ·rfl
   ·rw [Bool.true_and,ZGo c]
    by_cases e:rS d P (s+2 ^ i)=r
    ·exfalso
     have p:rk (d+1) (plS P (s+2 ^ i))=rk (d+1) (plS P s ++ [P.getD i []]):=ZPK fun v=>by
      have a:=ZOv (v:=v) (d:=d) hn hs f hb;rw [ZDA,ZDA] at a
      constructor
      ·intro h
       refine a.2 ⟨fun r b=>h r (List.mem_append.2 (Or.inl b)),h _ (List.mem_append.2 (Or.inr (by simp)))⟩
      ·intro h r b
       have:=a.1 h
       rcases List.mem_append.1 b with b | b
       ·exact this.1 r b
       ·rw [List.mem_singleton.1 b]; exact this.2
     have o:thr d P s i=true:=by
      unfold thr;rw [←p,beq_iff_eq]
      show rS d P (s+2 ^ i)=rS d P s
      rw [e,b]
     have:=l i f o;rw [hb] at this
     cases this
    ·rw [decide_eq_false e]; rfl
  ·rfl
theorem ZJL{α:Type}(key:α→Nat)(K:Nat):∀l:List α,l.Pairwise (fun a b=>key a≤key b)→(∀x∈l,key x < K+1)→l=l.filter (fun x=>decide (key x < K)) ++ l.filter (fun x=>decide (key x=K))
 | [],_,_=>rfl
 | x :: xs,h,hb=>by
  obtain ⟨h1,h2⟩:=List.pairwise_cons.1 h
  have ih:=ZJL key K xs h2 fun y hy=>hb y (by simp [hy])
  by_cases e:key x < K
  ·rw [List.filter_cons_of_pos (by simpa using e),List.filter_cons_of_neg (by simp; omega),List.cons_append,←ih]
  ·have e2:key x=K:=by have:=hb x (by simp); omega
   have e3:∀y∈xs,key y=K:=fun y hy=>by have:=h1 y hy; have:=hb y (by simp [hy]); omega
   have d:xs.filter (fun x=>decide (key x < K))=[]:=List.filter_eq_nil_iff.2 fun y hy=>by simp; have:=e3 y hy; omega
   have c:xs.filter (fun x=>decide (key x=K))=xs:=List.filter_eq_self.2 fun y hy=>by simp; exact e3 y hy
   rw [List.filter_cons_of_neg (by simpa using e),List.filter_cons_of_pos (by simpa using e2),d,c,List.nil_append]
theorem ZHR{α:Type}(key:α→Nat):∀(K:Nat) (l:List α),l.Pairwise (fun a b=>key a≤key b)→(∀x∈l,key x < K)→l=(List.range K).flatMap fun q=>l.filter fun x=>decide (key x=q)
 | 0,l,_,hb=>by
  cases l with
  | nil=>rfl
  | cons x xs=>exact absurd (hb x (by simp)) (by omega)
 | K+1,l,h,hb=>by
  have h1:=ZJL key K l h hb
  have h2:=ZHR key K (l.filter fun x=>decide (key x < K)) (h.sublist List.filter_sublist) fun x hx=>by simpa using (List.mem_filter.1 hx).2
  rw [List.range_succ,List.flatMap_append]
  have e1:((List.range K).flatMap fun q=>(l.filter fun x=>decide (key x < K)).filter fun x=>decide (key x=q))=(List.range K).flatMap fun q=>l.filter fun x=>decide (key x=q):=by
   rw [List.flatMap_def,List.flatMap_def]
   congr 1
   apply List.map_congr_left
   intro q c;have c:=List.mem_range.1 c;rw [List.filter_filter]
   apply List.filter_congr
   intro x _
   by_cases e:key x=q
   ·simp [e,c]
   ·simp [e]
  rw [e1] at h2;rw [←h2]
  simpa using h1
def FlQ(d:Nat)(P:List (List Int))(r:Nat)(O:List (List Int)):Prop:=∃A:Nat→List (List Int),O=(List.range r).flatMap A∧∀q,q < r→ZGH (A q)∧∀c,c∈A q↔∃s,s < 2 ^ P.length∧dfl d P q s=true∧c=ZBH P.length s
theorem FlQ.zero(d:Nat)(P:List (List Int)):FlQ d P 0 []:=⟨fun _=>[],rfl,fun q hq=>by omega⟩
def dfM(d:Nat)(P:List (List Int))(r s:Nat):List (List Int):=((List.range s).filter fun t=>dfl d P r t).map (ZBH P.length)
theorem ZOG(d:Nat)(P:List (List Int))(r s:Nat):dfM d P r (s+1)=dfM d P r s ++ if dfl d P r s=true then [ZBH P.length s] else []:=by
 unfold dfM;rw [List.range_succ,List.filter_append,List.map_append]
 cases h:dfl d P r s <;> simp [h]
theorem ZIW(d:Nat)(P:List (List Int))(r s:Nat):(dfM d P r s).length≤s:=by
 unfold dfM;rw [Zab1]
 exact Zaa8 (List.length_filter_le _ _) (by simp)
theorem FlQ.succ{d:Nat}{P:List (List Int)}{r:Nat}{O s:List (List Int)}(h:FlQ d P r O)(hs:ZGH s)(hm:∀c,c∈s↔c∈dfM d P r (2 ^ P.length)):FlQ d P (r+1) (O ++ s):=by
 obtain ⟨A,i,j⟩:=h
 refine ⟨fun q=>if q=r then s else A q,?_,fun q b=>?_⟩
 ·rw [List.range_succ,List.flatMap_append,i]
  congr 1
  ·rw [List.flatMap_def,List.flatMap_def]
   congr 1
   apply List.map_congr_left
   intro q b;have b:=List.mem_range.1 b
   rw [if_neg (by omega)]
  ·simp
 ·dsimp only
  by_cases e:q=r
  ·rw [if_pos e,e]
   refine ⟨hs,fun c=>?_⟩
   rw [hm];unfold dfM;rw [List.mem_map]
   constructor
   ·rintro ⟨t,g,rfl⟩
    obtain ⟨a,f⟩:=List.mem_filter.1 g;exact ⟨t,List.mem_range.1 a,f,rfl⟩
   ·rintro ⟨t,a,f,rfl⟩
    exact ⟨t,List.mem_filter.2 ⟨List.mem_range.2 a,f⟩,rfl⟩
  ·rw [if_neg e]
   exact j q (by omega)
theorem ZHS{α:Type}{R:α→α→Prop}(l:List α)(e:α)(h:∀i j,i < j→j < l.length→R (l.getD i e) (l.getD j e)):l.Pairwise R:=by
 rw [List.pairwise_iff_getElem];intro i j c b a;have:=h i j a b
 simpa [c,b] using this
theorem ZJ2{d:Nat}{P O:List (List Int)}{m:List (List Int×Nat)}(hn:P.length≤6)(h:FlS d P m)(ha:FlA m)(hO:FlQ d P (d+1) O):m.map Prod.fst=O:=by
 obtain ⟨A,M,N⟩:=hO
 have L:m.Pairwise (fun a b=>a.2≤b.2):=ZHS m ([],0) h.ord
 have J:∀x∈m,x.2 < d+1:=fun x g=>by
  have a:=(h.mem hn g).2;rw [a.2.1,←ZGo (ZDB.1 a.1).1];have:=ZFP d (plS P (ZA5 x.1));omega
 have e:=ZHR Prod.snd (d+1) m L J
 have i:m.Pairwise (fun a b=>¬fcf b a < 0):=ZHS m ([],0) ha
 have p:m.Pairwise (fun a b=>ZA5 a.1≠ZA5 b.1):=by
  have:=h.nodup hn;unfold msk at this;exact List.pairwise_map.1 this
 have v:m.Pairwise (fun a b=>a.2=b.2→ZAm a.1 b.1 < 0):=(i.and p).imp fun {a b} f e2=>by
  refine Za6 fun hc=>f.2 ?_
  refine congrArg ZA5 (ZIC a.1 b.1 hc fun h3=>f.1 ?_)
  exact (ZDK _ _).2 (Or.inr ⟨e2.symm,h3⟩)
 rw [e,List.map_flatMap,M,List.flatMap_def,List.flatMap_def]
 congr 1
 apply List.map_congr_left
 intro q t;have t:=List.mem_range.1 t;obtain ⟨R,Q⟩:=N q t
 refine ZJA _ _ ?_ R fun c=>?_
 ·unfold ZGH
  rw [List.pairwise_map];refine List.Pairwise.imp_of_mem ?_ (v.sublist List.filter_sublist);intro a b j r f;have B:=(List.mem_filter.1 j).2;have E:=(List.mem_filter.1 r).2;simp only [decide_eq_true_eq] at B E
  exact f (by rw [B,E])
 ·rw [Q,List.mem_map]
  constructor
  ·rintro ⟨x,g,rfl⟩
   obtain ⟨T,F⟩:=List.mem_filter.1 g;simp only [decide_eq_true_eq] at F;obtain ⟨o,z,l,n⟩:=h.mem hn T
   refine ⟨ZA5 x.1,n,(ZMc hn n).2 ⟨z,by rw [←l,F]⟩,((ZBl hn).1 x.1 o).2.1⟩
  ·rintro ⟨s,D,S,rfl⟩
   obtain ⟨U,V⟩:=(ZMc hn D).1 S;have G:=(h.iff hn D).2 U;unfold msk at G;obtain ⟨x,g,y⟩:=List.mem_map.1 G;obtain ⟨o,z,l,n⟩:=h.mem hn g
   refine ⟨x,List.mem_filter.2 ⟨g,by simp only [decide_eq_true_eq]; rw [l,y,V]⟩,?_⟩
   have:=((ZBl hn).1 x.1 o).2.1;rw [this,y]
def pwC(d:Nat)(P:List (List Int))(s j:Nat):Int:=sumN s fun t=>if cen d P t=true then sg t*(if d-rS d P t=j then 1 else 0) else 0
def poW(d:Nat)(P:List (List Int))(s:Nat):List Int:=(List.range (d+1)).map (pwC d P s)
theorem ZEy(d:Nat)(P:List (List Int))(s:Nat):(poW d P s).length=d+1:=by simp [poW]
theorem ZOH(d:Nat)(P:List (List Int)):poW d P 0=List.replicate (d+1) 0:=by
 unfold poW
 apply List.ext_getElem (by simp)
 intro i b a;simp [pwC,sumN]
theorem ZQC(d:Nat)(P:List (List Int)):poW d P (2 ^ P.length)=(List.range (d+1)).map (whC d P):=rfl
theorem ZMd{d:Nat}{P:List (List Int)}{s j:Nat}(hj:j < d+1):(poW d P s).getD j 0=pwC d P s j:=by
 simp [poW,hj]
theorem ZQD(d:Nat)(P:List (List Int))(s j:Nat):(pwC d P s j).natAbs≤s:=by
 unfold pwC
 refine ZFx fun i _=>?_
 have:=sg_abs i
 by_cases e:cen d P i=true
 ·rw [if_pos e]
  by_cases e2:d-rS d P i=j
  ·rw [if_pos e2]; omega
  ·rw [if_neg e2]; omega
 ·rw [if_neg e]; decide
theorem ZRH{d:Nat}{P:List (List Int)}{s:Nat}(h:cen d P s=false):poW d P (s+1)=poW d P s:=by
 unfold poW
 apply List.map_congr_left
 intro j _;unfold pwC
 rw [sumN,if_neg (by rw [h]; decide),Int.add_zero]
theorem ZQE{d:Nat}{P:List (List Int)}{s:Nat}(h:cen d P s=true):poW d P (s+1)=(poW d P s).set (d-rk d (plS P s)) ((poW d P s).getD (d-rk d (plS P s)) 0+sg s):=by
 rw [ZMd (by omega),ZGo h]
 apply List.ext_getElem?
 intro j;rw [List.getElem?_set]
 by_cases hj:j < d+1
 ·have a:(poW d P (s+1))[j]?=some (pwC d P (s+1) j):=by simp [poW,hj]
  have b:(poW d P s)[j]?=some (pwC d P s j):=by simp [poW,hj]
  have c:pwC d P (s+1) j=pwC d P s j+sg s*(if d-rS d P s=j then 1 else 0):=by
   unfold pwC;rw [sumN,if_pos h]
  rw [a,b,ZEy,c]
  by_cases e:d-rS d P s=j
  ·rw [if_pos e,if_pos e,if_pos (by omega),e,Int.mul_one]
  ·rw [if_neg e,if_neg e,Int.mul_zero,Int.add_zero]
 ·rw [Zaa6 (by rw [ZEy]; omega),if_neg (by omega),Zaa6 (by rw [ZEy]; omega)]
def sgB:Bool:=(List.range 7).all fun n=>(List.range (2 ^ n)).all fun s=>sg s == if (ZBH n s).length % 2=0 then 1 else -1
theorem ZRm:sgB=true:=by decide +kernel
theorem ZQF{n s:Nat}(hn:n≤6)(hs:s < 2 ^ n):sg s=if (ZBH n s).length % 2=0 then 1 else -1:=by
 have h:=ZRm;unfold sgB at h;rw [List.all_eq_true] at h
 have a:=List.all_eq_true.1 (h n (List.mem_range.2 (by omega))) s (List.mem_range.2 hs)
 exact eq_of_beq a
end Go.Proofs.YtkjkfceblmgogaaGreat
namespace Go.Proofs.YtkjkfceblmgogaaGreat
open Go.RowKit Lin
attribute [local go_sem ↓] Go.wp_at_zero Go.wp_at_succ
structure PfI(B:Nat)(w0 W:World)(ov rv:Value)(O:List (List Int))(n:Nat):Prop where
 ex:∃vs xs,vs.length=O.length∧W.ownsRow B 27 1 ov O.length vs∧(∀i,i < O.length→Sl 0 3 W (vs.getD i (.slice none 0 0)) (ZAB (O.getD i [])))∧(∀i,i < O.length→0 < (O.getD i []).length→∀a k c,vs.getD i (.slice none 0 0)=.slice (some a) k c→rv.ownBlock≠some a.block)∧W.ownsRow B 3 1 rv n (ZAB xs)
 bel:Below B w0 W
theorem PfI.nil(B:Nat)(w:World):PfI B w w (.slice none 0 0) (.slice none 0 0) [] 0:=
 ⟨⟨[],[],rfl,World.ownsRow_nil _ _ _ _,fun i hi=>absurd hi (by simp),fun i hi=>absurd hi (by simp),World.ownsRow_nil _ _ _ _⟩,Below.refl _ _⟩
theorem PfI.low{B n:Nat}{w0 W W':World}{ov rv:Value}{O:List (List Int)}(h:PfI B w0 W ov rv O n)(hB:B≤W.heap.size)(hb:Below W.heap.size W W'):PfI B w0 W' ov rv O n:=by
 obtain ⟨⟨b,g,d,j,l,f,c⟩,a⟩:=h
 exact ⟨⟨b,g,d,ZAQ j hb (Za4 _),fun i hi=>(l i hi).below hb (Za4 _),f,ZAQ c hb (Za4 _)⟩,a.trans (hb.mono hB)⟩
theorem PfI.ne{B n:Nat}{w0 W:World}{ov rv:Value}{O:List (List Int)}(h:PfI B w0 W ov rv O n):∀g,ov.ownBlock=some g→rv.ownBlock≠some g:=fun g h1 h2=>by
 obtain ⟨⟨j,r,o,d,l,p,c⟩,i⟩:=h;obtain ⟨_,_,m,b⟩:=ZBG d g h1;obtain ⟨_,_,f,a⟩:=ZBG c g h2;rw [b] at a;simp at a
theorem PfI.pushO{B n:Nat}{w0 W w5:World}{ov rv v' u:Value}{O:List (List Int)}{zs:List Int}{ob:Obj}{vs:List Value}{xs:List Int}(hB:B≤W.heap.size)(h6:Below B w0 W)
 (h1:vs.length=O.length)(h2:W.ownsRow B 27 1 ov O.length vs)(h3:∀i,i < O.length→Sl 0 3 W (vs.getD i (.slice none 0 0)) (ZAB (O.getD i [])))(h4:∀i,i < O.length→0 < (O.getD i []).length→∀a k c,vs.getD i (.slice none 0 0)=.slice (some a) k c→rv.ownBlock≠some a.block)(h5:W.ownsRow B 3 1 rv n (ZAB xs))
 (hne:∀g,ov.ownBlock=some g→rv.ownBlock≠some g)(hu:Sl 0 3 W u (ZAB zs))(hub:0 < zs.length→∀a k c,u=.slice (some a) k c→rv.ownBlock≠some a.block)
 (ho:w5.ownsRow B 27 1 v' (O.length+1) (vs ++ [u]))(hg:(W.alloc ob).grownBy w5 ov.ownBlock):PfI B w0 w5 v' rv (O ++ [zs]) n:=by
 have o:Fr B 27 3 w5 v' (O ++ [zs]):=Fr.push (e2:=27) (e1:=3) (by decide) h1 (h2.alloc _) (fun i hi=>(h3 i hi).alloc _) (hu.alloc _) ho hg
 have f:∀i,i < O.length→(vs ++ [u]).getD i (.slice none 0 0)=vs.getD i (.slice none 0 0)∧(O ++ [zs]).getD i []=O.getD i []:=fun i hi=>by
  simp only [Za2]
  rw [Za7 (by omega),Za7 (by omega)]
  exact ⟨rfl,rfl⟩
 have j:(vs ++ [u]).getD O.length (.slice none 0 0)=u∧(O ++ [zs]).getD O.length []=zs:=by
  constructor
  ·rw [←h1]; simp
  ·simp
 have m:∀k,ov.ownBlock=some k→0≤k∧∀cur,(W.alloc ob).heap[k]?≠some (.cells cur 3 (0,0)):=fun k hk=>⟨Za5 _,(ZAt (h2.alloc ob) (by decide) k hk).2⟩
 refine ⟨⟨vs ++ [u],xs,by simp [h1],by simpa using ho,fun i hi=>?_,fun i hi hp a k c e=>?_,?_⟩,(h6.alloc hB _).grown hg (by simp; omega) (fun x hx=>(h2.lt x hx).1)⟩
 ·by_cases d:i < O.length
  ·rw [(f i d).1,(f i d).2]
   exact ((h3 i d).alloc ob).grown hg m
  ·have l:i=O.length:=by simp at hi; omega
   subst l;rw [j.1,j.2];exact (hu.alloc ob).grown hg m
 ·by_cases d:i < O.length
  ·rw [(f i d).1] at e
   rw [(f i d).2] at hp;exact h4 i d hp a k c e
  ·have l:i=O.length:=by simp at hi; omega
   subst l;rw [j.1] at e;rw [j.2] at hp;exact hub hp a k c e
 ·refine ZDN h5 fun b hb=>?_
  have d:=(ZBG h5 b hb).2.1
  rw [hg.block b (by simp; omega) (fun e=>hne b e.symm hb)]
  exact Below.heap_alloc _ _ _ d
theorem PfI.pushR{B n:Nat}{w0 W w5:World}{ov rv v':Value}{O:List (List Int)}{z:Int}{ob:Obj}{vs:List Value}{xs:List Int}(hB:B≤W.heap.size)(h6:Below B w0 W)
 (h1:vs.length=O.length)(h2:W.ownsRow B 27 1 ov O.length vs)(h3:∀i,i < O.length→Sl 0 3 W (vs.getD i (.slice none 0 0)) (ZAB (O.getD i [])))(h4:∀i,i < O.length→0 < (O.getD i []).length→∀a k c,vs.getD i (.slice none 0 0)=.slice (some a) k c→rv.ownBlock≠some a.block)(h5:W.ownsRow B 3 1 rv n (ZAB xs))
 (hne:∀g,ov.ownBlock=some g→rv.ownBlock≠some g)
 (ho:w5.ownsRow B 3 1 v' (n+1) (ZAB xs ++ [.int .i64 z]))(hg:(W.alloc ob).grownBy w5 rv.ownBlock)(hat:v'.ownBlock=rv.ownBlock∨v'.ownBlock=some (W.heap.size+1)):PfI B w0 w5 ov v' O (n+1):=by
 refine ⟨⟨vs,xs ++ [z],h1,?_,fun i hi=>?_,fun i hi hp a k c e=>?_,by simpa [ZAB] using ho⟩,(h6.alloc hB _).grown hg (by simp; omega) (fun x hx=>(h5.lt x hx).1)⟩
 ·refine ZDN h2 fun b hb=>?_
  have d:=(ZBG h2 b hb).2.1
  rw [hg.block b (by simp; omega) (fun e=>hne b hb e.symm)]
  exact Below.heap_alloc _ _ _ d
 ·refine ZCY (h3 i hi) fun hp a k c e=>?_
  have d:=ZBy (by rw [←e]; exact h3 i hi) hp
  rw [hg.block a.block (by simp; omega) (fun f=>h4 i hi hp a k c e f.symm)]
  exact Below.heap_alloc _ _ _ d
 ·have d:=ZBy (by rw [←e]; exact h3 i hi) hp
  rcases hat with h | h
  ·rw [h]; exact h4 i hi hp a k c e
  ·rw [h]
   intro f;simp only [Zaa9] at f;omega
def Win(N:Nat)(W W':World):Prop:=∀b,N≤b→b < W.heap.size→W'.heap[b]?=W.heap[b]?
theorem Win.grown{N:Nat}{W W' w5:World}{v:Value}{ob:Obj}(h:Win N W W')(hs:W.heap.size≤W'.heap.size)(hg:(W'.alloc ob).grownBy w5 v.ownBlock)(hv:∀g,v.ownBlock=some g→g < N∨W.heap.size≤g):Win N W w5:=fun b h1 h2=>by
 rw [hg.block b (by simp; omega) (fun e=>by have:=hv b e.symm; omega),Below.heap_alloc _ _ _ (by omega)]
 exact h b h1 h2
theorem FrN.win{N:Nat}{W W':World}{x:Value}{s:List (List Int)}(h:FrN N W x s)(hw:Win N W W'){k:Nat}(hk:k < s.length):∃b o rv c,x=.slice (some ⟨b,o,none⟩) s.length c∧W'.cell? ⟨b,o+k,none⟩=some rv∧Sl 0 3 W' rv (ZAB (s.getD k []))∧∀a n c,rv=.slice (some a) n c→0 < (s.getD k []).length→N≤a.block∧a.block < W.heap.size:=by
 obtain ⟨p,A,y,z⟩:=h;obtain ⟨j,t⟩:=z k hk
 rcases y.2 with ⟨_,h0⟩ | ⟨g,cap,cur,hv,hb,hh,hn,hc,hs,ht⟩
 ·omega
 ·have l:g < W.heap.size:=lt_of_block hh
  refine ⟨g,0,p.getD k (.slice none 0 0),cap,hv,?_,?_,?_⟩
  ·unfold World.cell?
   rw [hw g hb l,hh]
   have e:cur[k]?=some (p.getD k (.slice none 0 0)):=by
    rw [←Array.getElem?_toList,←Zaa5 (show k < s.length by omega)]
    have:cur.toList.take s.length=p:=by simpa using ht
    rw [this,Za2,Za9 (by omega)]
    rfl
   simpa using e
  ·refine ZCY j fun i a n c e=>?_
   have f:=ZBy (by rw [←e]; exact j) i
   refine hw a.block ?_ f
   obtain ⟨m,r,v,d,_,_⟩:=ZAK j (k:=0) (by simpa using i)
   rw [e] at d;simp only [Za3,Zaa9] at d
   have:=t m r _ _ (by rw [e,d.1])
   rw [d.1];exact this
  ·intro a n c e i
   have f:=ZBy (by rw [←e]; exact j) i
   obtain ⟨m,r,v,d,_,_⟩:=ZAK j (k:=0) (by simpa using i)
   rw [e] at d;simp only [Za3,Zaa9] at d
   have:=t m r _ _ (by rw [e,d.1])
   rw [d.1] at f ⊢;exact ⟨this,f⟩
theorem ZQG(t k:Nat):(((t:Int) / 2 ^ k).tmod 2 == 0)=!t.testBit k:=by
 have b:(t:Int) / 2 ^ k=((t / 2 ^ k:Nat):Int):=by simp
 have a:t.testBit k=decide (t / 2 ^ k % 2=1):=Nat.testBit_eq_decide_div_mod_eq;rw [b,a];generalize t / 2 ^ k=q
 have e:(q:Int).tmod 2=((q % 2:Nat):Int):=by rw [Int.tmod_eq_emod_of_nonneg (by omega)]; omega
 rw [e]
 rcases (show q % 2=0∨q % 2=1 by omega) with h | h <;> simp [h]
theorem ZFB{B0:Nat}(d:Nat)(P:List (List Int))(v:Value)(w:World)(hv:Mat B0 27 3 w v P)(hP:∀p∈P,p.length=d+1∧∀z∈p,z.natAbs≤20)(hd1:1≤d)(hd3:d≤3)(h6:P.length≤6) :
  Calls Tryz.prog 8 #[.int .i64 d,v] w fun e w'=>∃ov rv O,e=.returned (.tuple #[ov,rv])∧Fr w.heap.size 27 3 w' ov O∧FlQ d P (d+1) O∧Below w.heap.size w w':=by
 obtain ⟨i0,hi,bT,bO,aZ⟩:=info_parts Tryz.info27;obtain ⟨i3,dh,cq,bl,cr⟩:=info_parts Tryz.info3;obtain ⟨ro,rc,dq,dI,dK⟩:=ZAD hv;subst dq
 obtain ⟨E,L⟩:∃E:Nat,E=2 ^ P.length:=⟨_,rfl⟩
 have bV:Hid ((2:Int) ^ P.length=(E:Int)):=by show _=_; rw [L]; simp
 have cB:E≤64:=by rw [L]; exact show 2 ^ P.length≤2 ^ 6 from Nat.pow_le_pow_right (by omega) h6
 have bh:Hid (IntKind.i64.wrap (E:Int)=(E:Int)):=wrap_small _ (by omega) (by omega)
 have aQ:Hid (∀s X,s < E→Below w.heap.size w X→Calls Tryz.prog 25 #[.int .i64 d,.slice ro P.length rc,.int .i64 s] X fun e w'=>e=.returned (.tuple #[.bool (cen d P s),.int .i64 (rk d (plS P s):Nat)])∧Below X.heap.size X w'):=fun s X hs hX=>ZG9 d s P _ X (hv.below hX (Za4 _)) hP hd1 hd3 h6 (by rw [←L]; exact hs)
 have bM:Hid (∀s X,s < E→Calls Tryz.prog 26 #[.int .i64 s] X fun e w'=>∃uo uc,e=.returned (.slice uo (ZBH P.length s).length uc)∧Sl 0 3 w' (.slice uo (ZBH P.length s).length uc) (ZAB (ZBH P.length s))∧Below X.heap.size X w'):=fun s X hs=>by
  refine (ZCN s P.length X (by rw [←L]; exact hs) (by omega)).mono ?_
  rintro e w' ⟨u,rfl,h1,h2⟩;obtain ⟨uo,uc,rfl⟩:=ZAE h1;exact ⟨uo,uc,rfl,Sl.own h1,h2⟩
 have bE:Hid (∀q u X,Mat 0 27 3 X u (dfM d P q E)→Calls Tryz.prog 27 #[u] X fun e w'=>∃xo xc s,e=.returned (.slice xo s.length xc)∧FrN X.heap.size w' (.slice xo s.length xc) s∧(s.length≤64∧∀O,FlQ d P q O→FlQ d P (q+1) (O ++ s))∧Below X.heap.size X w'):=fun q u X hu=>by
  refine (ZHD 0 _ u X hu (Zaa8 (ZIW d P q E) (by omega)) (fun r hr=>?_)).mono ?_
  ·unfold dfM at hr
   obtain ⟨t,_,rfl⟩:=List.mem_map.1 hr
   exact Zaa8 (ZHu t P.length) (by omega)
  ·rintro e w' ⟨x,s,rfl,h1,h2,h3,h4⟩
   obtain ⟨xo,xc,rfl,_,_⟩:=ZCW h1.fr
   refine ⟨xo,xc,s,rfl,h1,⟨?_,fun O hO=>hO.succ h2 (by rw [←L]; exact h3)⟩,h4⟩
   exact Zaa8 (ZLt s _ (ZQz h2) fun r hr=>(h3 r).1 hr) (Zaa8 (ZIW d P q E) cB)
 have cY:Hid (∀s i,s < E→i < P.length→s.testBit i=false→s+2 ^ i < E):=fun s i hs hi hb=>by
  rw [L] at hs ⊢;exact (ZMb h6 hs hi hb).1
 have cU:Hid (∀i,i < P.length→2 ^ i≤64):=fun i hi=>Zaa8 (Nat.pow_le_pow_right (by decide) (show i≤6 by omega)) (by decide)
 have bQ:Hid (∀q s,dfM d P q (s+1)=dfM d P q s ++ if dfl d P q s=true then [ZBH P.length s] else []):=fun q s=>ZOG d P q s
 have bP:Hid (∀q s,(dfM d P q s).length≤s):=fun q s=>ZIW d P q s
 have bU:Hid (∀q s,dfl d P q s=((cen d P s && decide (rk d (plS P s)=q)) && dfT d P q s P.length)):=fun q s=>rfl
 have bZ:Hid (∀q s k,dfT d P q s (k+1)=(dfT d P q s k && (s.testBit k || !(cen d P (s+2 ^ k) && decide (rk d (plS P (s+2 ^ k))=q))))):=fun q s k=>ZOF d P q s k
 have cD:Hid (FlQ d P 0 []):=FlQ.zero d P
 have dc:Hid (∀q s,dfT d P q s 0=true):=fun q s=>rfl
 have cR:Hid (∀q,dfM d P q 0=[]):=fun q=>rfl
 clear hv hP L;generalize hnp:P.length=nP at *;clear hnp;go_enter Tryz.func8,Tryz.ntmps8;go_wp2
 go_loopw [6,7,8,9,10,11,12,13,14,15,16] (fun x y r _ _ _ _ _ _ _ _ wr=>∃(q:Nat) (O:List (List Int)),q≤d+1∧r=.int .i64 q∧FlQ d P q O∧O.length≤64*q∧PfI w.heap.size w wr x y O O.length) (fun _ _ r _ _ _ _ _ _ _ _ _=>d+1-(intOf r).toNat)
 case atStart=>exact ⟨0,[],Za5 _,rfl,cD.out,Za5 _,PfI.nil _ _⟩
 case round=>
  obtain ⟨q,O,hq,rfl,bi,cd,aJ⟩:=hrel
  obtain ⟨f,rfl⟩:∃f,f=wr:=⟨_,rfl⟩
  have bg:=hid bi;have aw:=hid aJ;have aO:=hid cd;have aA:w.heap.size≤f.heap.size:=aJ.bel.size;clear bi aJ cd
  by_cases hlt:q≤d
  ·have cP:(q:Int)≤(d:Int):=by omega
   have dL:q≤3:=by omega
   go_wp2
   go_loopw [9,10,11,12,13,14,15] (fun l s _ _ _ _ _ D=>∃t:Nat,t≤E∧s=.int .i64 t∧Fr f.heap.size 27 3 D l (dfM d P q t)∧Below f.heap.size f D) (fun _ s _ _ _ _ _ _=>E-(intOf s).toNat)
   case atStart=>exact ⟨0,Za5 _,rfl,by rw [cR.out]; exact Fr.nil _ _ _ _,Below.refl _ _⟩
   case round=>
    obtain ⟨t,ht,rfl,bv,ak⟩:=hrel
    obtain ⟨D,rfl⟩:∃D,D=wr:=⟨_,rfl⟩
    have aq:=hid bv;have bu:=hid ak;have aK:Hid (Below w.heap.size w D):=aw.out.bel.trans (ak.mono aA);have bS:f.heap.size≤D.heap.size:=ak.size;clear bv ak
    by_cases htl2:t < E
    ·have dE:(t:Int) < (E:Int):=Int.ofNat_lt.2 htl2
     have HM:Hid (Calls Tryz.prog 25 #[.int .i64 d,.slice ro nP rc,.int .i64 t] D fun e w'=>e=.returned (.tuple #[.bool (cen d P t),.int .i64 (rk d (plS P t):Nat)])∧Below D.heap.size D w'):=aQ.out t D htl2 aK.out
     have ae:Hid (dfM d P q (t+1)=dfM d P q t ++ if dfl d P q t=true then [ZBH nP t] else []):=bQ.out q t
     have ar:Hid (dfl d P q t=((cen d P t && decide (rk d (plS P t)=q)) && dfT d P q t nP)):=bU.out q t
     have cE:Hid ((dfM d P q t).length≤64):=Zaa8 (bP.out q t) (by omega)
     generalize cen d P t=c at *;generalize rk d (plS P t)=rv at *;generalize dfl d P q t=df at *;generalize dfM d P q t=A at *
     obtain ⟨A',aD⟩:∃A',A'=dfM d P q (t+1):=⟨_,rfl⟩
     rw [←aD] at ae;have ai:=hid aD;clear aD;have aM:=bV.out;have aS:=bh.out
     go_wp2_with fail
     clear aM aS;refine HM.out.mono ?_;rintro e w1 ⟨rfl,an⟩;have aj:Hid (Below f.heap.size f w1):=bu.out.trans (an.mono bS);have az:Hid (Below w.heap.size w w1):=aK.out.trans (an.mono aK.out.size);have ah:Hid (Fr f.heap.size 27 3 w1 u9 A):=aq.out.below an (Za4 _);clear an HM aq
     cases c with
     | false=>
      have R1:Hid (Fr f.heap.size 27 3 w1 u9 A'):=by
       show Fr _ _ _ _ _ _
       rw [ae.out,ar.out]
       simpa using ah.out
      go_wp2
      exact ⟨⟨t+1,by omega,by go_num,by rw [←ai.out]; exact R1.out,aj.out⟩,by simp [intOf]; omega⟩
     | true=>
      by_cases hr:rv=q
      ·have cS:((rv:Int) == (q:Int))=true:=by rw [hr]; simp
       have dv:((rv:Int) != (q:Int))=false:=by rw [hr]; simp
       have cX:Hid (df=dfT d P q t nP):=by
        show _=_
        rw [ar.out,decide_eq_true hr]; rfl
       clear hr ar;go_wp2
       go_loopw [11,13,14,15] (fun ok i _ _ j=>∃k:Nat,k≤nP∧i=.int .i64 k∧ok=.bool (dfT d P q t k)∧Below w1.heap.size w1 j) (fun _ i _ _ _=>nP-(intOf i).toNat)
       case atStart=>exact ⟨0,Za5 _,rfl,by rw [dc.out],Below.refl _ _⟩
       case round=>
        obtain ⟨k,hk,rfl,rfl,aI⟩:=hrel
        obtain ⟨j,rfl⟩:∃j,j=wr:=⟨_,rfl⟩
        have af:=hid aI;have cj:Hid (Below w.heap.size w j):=az.out.trans (aI.mono az.out.size);clear aI
        by_cases hkn:k < nP
        ·have cW:(k:Int) < (nP:Int):=by omega
         have bX:(0:Int)≤(k:Int):=by omega
         have G:Hid (dfT d P q t (k+1)=(dfT d P q t k && (t.testBit k || !(cen d P (t+2 ^ k) && decide (rk d (plS P (t+2 ^ k))=q))))):=bZ.out q t k
         have T:=ZQG t k
         cases hbk:t.testBit k with
         | true=>
          rw [hbk] at T G
          have N:Hid (dfT d P q t (k+1)=dfT d P q t k):=by show _=_; rw [G.out]; simp
          have V:(((t:Int) / 2 ^ k).tmod 2 == 0)=false:=T;clear T hbk G;go_wp2
          exact ⟨⟨k+1,by omega,by go_num,by rw [N.out],af.out⟩,by simp [intOf]; omega⟩
         | false=>
          rw [hbk] at T G;have V:(((t:Int) / 2 ^ k).tmod 2 == 0)=true:=T;have aC:=cY.out t k htl2 hkn hbk;have cI:=cU.out k hkn
          have HM:Hid (Calls Tryz.prog 25 #[.int .i64 d,.slice ro nP rc,.int .i64 ((t+2 ^ k:Nat):Int)] j fun e w'=>e=.returned (.tuple #[.bool (cen d P (t+2 ^ k)),.int .i64 (rk d (plS P (t+2 ^ k)):Nat)])∧Below j.heap.size j w'):=aQ.out (t+2 ^ k) j aC cj.out
          obtain ⟨z,hz⟩:∃z:Nat,z=t+2 ^ k:=⟨_,rfl⟩
          obtain ⟨pk,aH⟩:∃pk:Nat,pk=2 ^ k:=⟨_,rfl⟩
          rw [←hz] at HM G aC;rw [←aH] at hz cI
          have bR:(t:Int)+(pk:Int)=(z:Int):=by omega
          have dw:Hid (IntKind.i64.wrap ((t:Int)+(pk:Int))=(z:Int)):=by show _=_; rw [bR]; exact wrap_small _ (by omega) (by omega)
          clear bR
          have bz:Hid (IntKind.i64.wrap (pk:Int)=(pk:Int)):=wrap_small _ (by omega) (by omega)
          have bW:(2:Int) ^ k=(pk:Int):=by rw [aH]; simp
          have bJ:(((t:Int) / (pk:Int)).tmod 2 == 0)=true:=by rw [←bW]; exact V
          clear V;generalize cen d P z=cz at *;generalize rk d (plS P z)=rz at *;clear T hbk aH hz aC;have cT:=bz.out;have dt:=dw.out
          go_wp2_with fail
          refine HM.out.mono ?_;rintro e w2 ⟨rfl,bq⟩;have M:Hid (Below w1.heap.size w1 w2):=af.out.trans (bq.mono af.out.size);clear bq HM dt cT bW bJ
          cases cz with
          | false=>
           have N:Hid (dfT d P q t (k+1)=dfT d P q t k):=by show _=_; rw [G.out]; simp
           go_wp2
           exact ⟨⟨k+1,by omega,by go_num,by rw [N.out],M.out⟩,by simp [intOf]; omega⟩
          | true=>
           by_cases hr:rz=q
           ·have da:((rz:Int) == (q:Int))=true:=by rw [hr]; simp
            have N:Hid (dfT d P q t (k+1)=false):=by show _=_; rw [G.out,decide_eq_true hr]; simp
            clear hr;go_wp2
            exact ⟨⟨k+1,by omega,by go_num,by rw [N.out],M.out⟩,by simp [intOf]; omega⟩
           ·have da:((rz:Int) == (q:Int))=false:=by rw [beq_eq_false_iff_ne]; omega
            have N:Hid (dfT d P q t (k+1)=dfT d P q t k):=by show _=_; rw [G.out,decide_eq_false hr]; simp
            clear hr;go_wp2
            exact ⟨⟨k+1,by omega,by go_num,by rw [N.out],M.out⟩,by simp [intOf]; omega⟩
        ·have aL:k=nP:=by omega
         subst aL;have M:Hid (Below f.heap.size f j):=aj.out.trans (af.out.mono aj.out.size);have aa:Hid (Fr f.heap.size 27 3 j u9 A):=ah.out.below af.out (Za4 _);have bt:f.heap.size≤j.heap.size:=M.out.size;rw [←cX.out]
         cases df with
         | false=>
          have R1:Hid (Fr f.heap.size 27 3 j u9 A'):=by
           show Fr _ _ _ _ _ _
           rw [ae.out]
           simpa using aa.out
          go_wp2
          exact ⟨⟨t+1,by omega,by go_num,by rw [←ai.out]; exact R1.out,M.out⟩,by simp [intOf]; omega⟩
         | true=>
          have bY:=bM.out t j htl2;have aY:=hid bY;have cK:Hid (A.length≤64):=cE.out
          have dr:Hid (A'=A ++ [ZBH k t]):=by show _=_; rw [ae.out]; rfl
          clear bY;generalize ZBH k t=ml at *
          obtain ⟨ln,aG⟩:∃ln,ln=ml.length:=⟨_,rfl⟩
          rw [←aG] at aY;have dD:=hid aG;clear aG
          go_wp2_with fail
          refine aY.out.mono ?_;rintro e w3 ⟨uo,uc,rfl,bw,aP⟩;have cO:=hid bw;obtain ⟨vs,g1,g2,g3⟩:=aa.out.below aP (Za4 _);have bk:Hid (Below f.heap.size f w3):=M.out.trans (aP.mono bt);have bF:f.heap.size≤w3.heap.size:=bk.out.size;have G2:=hid g2
          have J:Hid (∀v' n,n.ownsRow f.heap.size 27 1 v' (A.length+1) (vs ++ [.slice uo ln uc])→(w3.alloc (.cells #[.slice uo ln uc] 27)).grownBy n u9.ownBlock→Fr f.heap.size 27 3 n v' (A ++ [ml])∧Below f.heap.size f n):=fun v' n S m=>⟨Fr.push (e2:=27) (e1:=3) (by decide) g1 (g2.alloc _) (fun i hi=>(g3 i hi).alloc _) (cO.out.alloc _) S m,(bk.out.alloc bF _).grown m (by simp; omega) (fun x hx=>(g2.lt x hx).1)⟩
          have dG:=cK.out;clear g1 g2 g3 bw aP aY aa
          go_wp2_with (first | (at_builtin; refine wpList_append_own _ rfl _ _ 22 rfl f.heap.size 27 i0 (.slice none 0 0) 1 24 Tryz.underlying22 hi bT bO aZ rfl (by decide) _ _ _ rfl (G2.out.alloc _) ⟨w3.heap.size,0,none⟩ 1 1 [.slice uo ln uc] rfl rfl (ZAS _ _ _) (ZAM _ _ _) ?d3 ?d4 ?d5 ?_))
          case d3=>unfold maxLen; omega
          case d4=>omega
          case d5=>first | omega | (simp; omega)
          intro x6 n S m _;obtain ⟨q1,q2⟩:=J.out x6 n S m
          have R1:Hid (Fr f.heap.size 27 3 n x6 A'):=by show Fr _ _ _ _ _ _; rw [dr.out]; exact q1
          have R2:=hid q2;clear q1 q2 S m J G2;go_wp2
          exact ⟨⟨t+1,by omega,by go_num,by rw [←ai.out]; exact R1.out,R2.out⟩,by simp [intOf]; omega⟩
      ·have cS:((rv:Int) == (q:Int))=false:=by rw [beq_eq_false_iff_ne]; omega
       have dv:((rv:Int) != (q:Int))=true:=by simp; omega
       have R1:Hid (Fr f.heap.size 27 3 w1 u9 A'):=by
        show Fr _ _ _ _ _ _
        rw [ae.out,ar.out,decide_eq_false hr]
        simpa using ah.out
       clear hr;go_wp2
       exact ⟨⟨t+1,by omega,by go_num,by rw [←ai.out]; exact R1.out,aj.out⟩,by simp [intOf]; omega⟩
    ·have cN:t=E:=by omega
     subst cN;have bp:=bE.out q u9 D aq.out.mat0;have bG:=hid bp;clear bp aq aQ bM bE bQ bP bU bZ;have aM:=bV.out;have aS:=bh.out
     go_wp2_with fail
     clear aM aS;refine bG.out.mono ?_;rintro e n ⟨xo,xc,s,rfl,cg,⟨aU,bj⟩,am⟩;have dy:=hid cg;have dx:Hid (FlQ d P (q+1) (O ++ s)):=bj O bg.out;have cL:=hid aU;have dz:s.length≤64:=aU;have dH:=hid am;have dA:D.heap.size≤n.heap.size:=am.size
     have cG:Hid (PfI w.heap.size w n u6 u7 O O.length):=(aw.out.low aA (bu.out)).low (by omega) am
     have bL:Hid ((∀g,u6.ownBlock=some g→g < D.heap.size∨n.heap.size≤g)∧(∀g,u7.ownBlock=some g→g < D.heap.size∨n.heap.size≤g)):=by
      obtain ⟨⟨vs,xs,p1,p2,p3,p4,p5⟩,p6⟩:=aw.out
      exact ⟨fun g m=>.inl (by have:=(ZBG p2 g m).2.1; omega),fun g m=>.inl (by have:=(ZBG p5 g m).2.1; omega)⟩
     clear cg bj aU am bG;go_wp2
     go_loopw [6,7,16] (fun x y i j=>∃k:Nat,k≤s.length∧i=.int .i64 k∧PfI w.heap.size w j x y (O ++ s.take k) (O.length+k)∧Win D.heap.size n j∧n.heap.size≤j.heap.size∧(∀g,x.ownBlock=some g→g < D.heap.size∨n.heap.size≤g)∧(∀g,y.ownBlock=some g→g < D.heap.size∨n.heap.size≤g)) (fun _ _ i _=>s.length-(intOf i).toNat)
     case atStart=>exact ⟨0,Za5 _,rfl,by simpa using cG.out,fun b _ _=>rfl,Za4 _,bL.out.1,bL.out.2⟩
     case round=>
      obtain ⟨k,hk,rfl,aF,bH,ck,bK,bN⟩:=hrel
      obtain ⟨j,rfl⟩:∃j,j=wr:=⟨_,rfl⟩
      have aV:=hid aF;have aB:=hid bH;have aN:=hid bK;have aW:=hid bN;have ay:=hid ck;have bC:w.heap.size≤j.heap.size:=aF.bel.size;clear aF bH bK bN ck
      by_cases hks:k < s.length
      ·obtain ⟨b,o,dF,cc,bD,ag,au,U⟩:=dy.out.win aB.out hks
       simp only [Za3,true_and] at bD;obtain ⟨rfl,rfl⟩:=bD;have bA:Hid (s.take (k+1)=s.take k ++ [s.getD k []]):=ZEj s k hks []
       have dl:Hid ((O ++ s.take k).length=O.length+k):=by
        show _=_
        rw [Zaa4,List.length_take]; omega
       obtain ⟨yo,yc,cF,_,_⟩:=ZAI au;subst cF;generalize s.getD k []=y at *;generalize s.take k=B at *
       obtain ⟨B',aR⟩:∃B',B'=s.take (k+1):=⟨_,rfl⟩
       rw [←aR] at bA;have cC:=hid aR;clear aR
       obtain ⟨yl,bB⟩:∃yl,yl=y.length:=⟨_,rfl⟩
       rw [←bB] at ag au U;have cA:=hid au
       have cJ:Hid (0 < y.length→∀a k c,Value.slice yo yl yc=.slice (some a) k c→u7.ownBlock≠some a.block):=fun hp a kk c e e2=>by
        have h1:=U a kk c e (by omega)
        have h2:=aW.out _ e2;omega
       clear bB U au;obtain ⟨⟨vs,xs,p1,p2,p3,p4,p5⟩,p6⟩:=aV.out;have Y:=aV.out.ne;have G2:=hid p2
       have J:Hid (∀v' R,R.ownsRow w.heap.size 27 1 v' ((O ++ B).length+1) (vs ++ [.slice yo yl yc])→(j.alloc (.cells #[.slice yo yl yc] 27)).grownBy R u6.ownBlock→PfI w.heap.size w R v' u7 (O ++ B ++ [y]) (O.length+k)):=fun v' R S m=>PfI.pushO bC p6 p1 p2 p3 p4 p5 Y cA.out cJ.out S m
       have dC:(O ++ B).length≤256:=by have:=dl.out; have:=aO.out; omega
       have cW:(k:Int) < (s.length:Int):=by omega
       have bX:(0:Int)≤(k:Int):=by omega
       clear p1 p2 p3 p4 p5 p6 Y;generalize hOB:O ++ B=OB at *
       go_wp2_with (first | (at_builtin; refine wpList_append_own_at _ rfl _ _ 22 rfl w.heap.size 27 i0 (.slice none 0 0) 1 24 Tryz.underlying22 hi bT bO aZ rfl (by decide) _ _ _ rfl (G2.out.alloc _) ⟨j.heap.size,0,none⟩ 1 1 [.slice yo yl yc] rfl rfl (ZAS _ _ _) (ZAM _ _ _) ?d3 ?d4 ?d5 ?_))
       case d3=>unfold maxLen; omega
       case d4=>omega
       case d5=>first | omega | (simp; omega)
       intro x6 R S m _ Q;have aE:Hid (PfI w.heap.size w R x6 u7 (OB ++ [y]) (O.length+k)):=J.out x6 R S m;have db:Hid (Win D.heap.size n R):=aB.out.grown ay.out m aN.out
       have aX:Hid (n.heap.size≤R.heap.size):=by
        have h1:=m.size;rw [size_alloc] at h1;have h2:=ay.out
        show _≤_
        omega
       have de:Hid (∀g,x6.ownBlock=some g→g < D.heap.size∨n.heap.size≤g):=fun g hgb=>by
        have F:x6.ownBlock=u6.ownBlock∨x6.ownBlock=some (j.heap.size+1):=by simpa using Q
        rcases F with h | h
        ·exact aN.out g (by rw [←h]; exact hgb)
        ·rw [h] at hgb
         simp only [Zaa9] at hgb;have:=ay.out;omega
       have aT:w.heap.size≤R.heap.size:=aE.out.bel.size;clear S m Q J G2 aB ag aN ay;obtain ⟨⟨dJ,cZ,p1,p2,p3,p4,p5⟩,p6⟩:=aE.out;have Y:=aE.out.ne;have G2:=hid p5
       have J:Hid (∀v' w7,w7.ownsRow w.heap.size 3 1 v' (O.length+k+1) (ZAB cZ ++ [.int .i64 (q:Int)])→(R.alloc (.cells #[.int .i64 (q:Int)] 3)).grownBy w7 u7.ownBlock→(v'.ownBlock=u7.ownBlock∨v'.ownBlock=some (R.heap.size+1))→PfI w.heap.size w w7 x6 v' (OB ++ [y]) (O.length+k+1)):=fun v' w7 S m Q=>PfI.pushR aT p6 p1 p2 p3 p4 p5 Y S m Q
       have dB:O.length+k≤512:=by have:=aO.out; omega
       clear p1 p2 p3 p4 p5 p6 Y
       go_wp2_with (first | (at_builtin; refine wpList_append_own_at _ rfl _ _ 27 rfl w.heap.size 3 i3 (.int .i64 0) 1 8 Tryz.underlying27 dh cq bl cr rfl (by decide) _ _ _ rfl (G2.out.alloc _) ⟨R.heap.size,0,none⟩ 1 1 [.int .i64 (q:Int)] rfl rfl (ZAS _ _ _) (ZA6 _) ?d3 ?d4 ?d5 ?_))
       case d3=>unfold maxLen; omega
       case d4=>omega
       case d5=>first | omega | (simp; omega)
       intro y7 w7 S m _ Q
       have F:y7.ownBlock=u7.ownBlock∨y7.ownBlock=some (R.heap.size+1):=by simpa using Q
       have cw:Hid (PfI w.heap.size w w7 x6 y7 (O ++ B') (O.length+(k+1))):=by
        show PfI _ _ _ _ _ _ _
        rw [bA.out,←List.append_assoc,hOB];exact J.out y7 w7 S m F
       have cV:Hid (Win D.heap.size n w7):=db.out.grown aX.out m aW.out
       have du:Hid (n.heap.size≤w7.heap.size):=by
        have h1:=m.size;rw [size_alloc] at h1;have h2:=aX.out
        show _≤_
        omega
       have cQ:Hid (∀g,y7.ownBlock=some g→g < D.heap.size∨n.heap.size≤g):=fun g hgb=>by
        rcases F with h | h
        ·exact aW.out g (by rw [←h]; exact hgb)
        ·rw [h] at hgb
         simp only [Zaa9] at hgb;have:=aX.out;omega
       clear S m Q F J G2 hOB;go_wp2
       exact ⟨⟨k+1,by omega,by go_num,by rw [←cC.out]; exact cw.out,cV.out,du.out,de.out,cQ.out⟩,by simp [intOf]; omega⟩
      ·have aL:k=s.length:=by omega
       subst aL
       have cM:Hid (PfI w.heap.size w j u6 u7 (O ++ s) (O ++ s).length):=by
        have:=aV.out;rw [List.take_length] at this;rw [Zaa4];exact this
       have cH:Hid ((O ++ s).length≤64*(q+1)):=by
        show _≤_
        rw [Zaa4];have:=aO.out;have:=cL.out;omega
       go_wp2
       exact ⟨⟨q+1,O ++ s,by omega,by go_num,dx.out,cH.out,cM.out⟩,by simp [intOf]; omega⟩
  ·have cP:¬(q:Int)≤(d:Int):=by omega
   have bI:Hid (FlQ d P (d+1) O):=by
    have h:=bg.out
    rw [show q=d+1 by omega] at h
    exact h
   obtain ⟨⟨vs,xs,p1,p2,p3,p4,p5⟩,p6⟩:=aw.out;have dj:Hid (Fr w.heap.size 27 3 f u6 O):=⟨vs,p1,p2,p3⟩;have dg:=hid p6;clear p1 p2 p3 p4 p5 p6;go_wp2
   refine bodyPost_ret (v:=.tuple #[u6,u7]) (by simp [results,Tryz.results8,go_sem]) rfl ⟨u6,⟨u7,rfl⟩,O,dj.out,bI.out,dg.out⟩
end Go.Proofs.YtkjkfceblmgogaaGreat
