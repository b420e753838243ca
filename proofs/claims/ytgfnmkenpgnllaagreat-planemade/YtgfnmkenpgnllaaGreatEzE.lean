import Derived.Test.YtgfnmkenpgnllaaGreatFlC
import Derived.Test.YtgfnmkenpgnllaaGreatEzF
import Derived.Test.YtgfnmkenpgnllaaGreatEzA
set_option maxRecDepth 100000
set_option maxHeartbeats 8000000
namespace Go.Proofs.YtgfnmkenpgnllaaGreat
open Lin
def abB:Bool:=(List.range 7).all fun n=>(List.range (2 ^ n)).all fun s=>(List.range n).all fun i=>s.testBit i || (decide (s+2 ^ i < 2 ^ n) && (List.range n).all fun k=>(s+2 ^ i).testBit k == (s.testBit k || k == i))
theorem ZRH:abB=true:=by decide +kernel
theorem ZMM{n s i:Nat}(hn:n≤6)(hs:s < 2 ^ n)(hi:i < n)(hb:s.testBit i=false):s+2 ^ i < 2 ^ n∧∀k,k < n→(s+2 ^ i).testBit k=(s.testBit k || k == i):=by
 have h:=ZRH;unfold abB at h;rw [List.all_eq_true] at h
 have b:=List.all_eq_true.1 (h n (List.mem_range.2 (by omega))) s (List.mem_range.2 hs)
 have a:=List.all_eq_true.1 b i (List.mem_range.2 hi);rw [hb,Bool.false_or,Bool.and_eq_true,decide_eq_true_eq] at a
 exact ⟨a.1,fun k hk=>by have:=List.all_eq_true.1 a.2 k (List.mem_range.2 hk); exact eq_of_beq this⟩
theorem ZOW{d:Nat}{P:List (List Int)}{s i:Nat}(hn:P.length≤6)(hs:s < 2 ^ P.length)(hi:i < P.length)(hb:s.testBit i=false){v:Nat→Int} : Zr d P (s+2 ^ i) v↔Zr d P s v∧dot (d+1) (V (P.getD i [])) v=0:=by
 obtain ⟨_,c⟩:=ZMM hn hs hi hb
 constructor
 ·intro h
  refine ⟨fun k b a=>h k b (by rw [c k b,a]; rfl),h i hi (by rw [c i hi]; simp)⟩
 ·rintro ⟨f,g⟩ k b a
  rw [c k b] at a
  cases hb2:s.testBit k
  ·rw [hb2] at a
   have:k=i:=by simpa using a
   subst this; exact g
  ·exact f k b hb2
def dfT(d:Nat)(P:List (List Int))(r s k:Nat):Bool:=(List.range k).all fun i=>s.testBit i || !(cen d P (s+2 ^ i) && decide (rk d (plS P (s+2 ^ i))=r))
def dfl(d:Nat)(P:List (List Int))(r s:Nat):Bool:=(cen d P s && decide (rk d (plS P s)=r)) && dfT d P r s P.length
theorem ZNs(d:Nat)(P:List (List Int))(r s k:Nat):dfT d P r s (k+1)=(dfT d P r s k && (s.testBit k || !(cen d P (s+2 ^ k) && decide (rk d (plS P (s+2 ^ k))=r)))):=by
 unfold dfT;rw [List.range_succ,List.all_append];simp
theorem ZMN{d:Nat}{P:List (List Int)}{r s:Nat}(hn:P.length≤6)(hs:s < 2 ^ P.length):dfl d P r s=true↔flB d P s=true∧rS d P s=r:=by
 unfold dfl dfT;rw [Bool.and_eq_true,Bool.and_eq_true,decide_eq_true_eq,List.all_eq_true]
 constructor
 ·rintro ⟨⟨g,b⟩,t⟩
  rw [ZGe g] at b
  refine ⟨ZDB.2 ⟨g,fun i f o=>?_⟩,b⟩
  cases hb:s.testBit i
  ·have j:=t i (List.mem_range.2 f)
   rw [hb,Bool.false_or] at j
   have n:∀v,Zr d P (s+2 ^ i) v↔Zr d P s v:=fun v=>by
    rw [ZOW hn hs f hb]
    exact ⟨fun h=>h.1,fun h=>⟨h,ZB4.1 o v h⟩⟩
   have c:cen d P (s+2 ^ i)=true:=by
    obtain ⟨v,x,m⟩:=ZCr.1 g;exact ZCr.2 ⟨v,(n v).2 x,m⟩
   have l:rS d P (s+2 ^ i)=rS d P s:=Nat.le_antisymm (ZMv fun v h=>(n v).2 h) (ZMv fun v h=>(n v).1 h)
   rw [c,ZGe c,l,b] at j;simp at j
  ·rfl
 ·rintro ⟨y,b⟩
  obtain ⟨g,o⟩:=ZDB.1 y
  refine ⟨⟨g,by rw [ZGe g]; exact b⟩,fun i f=>?_⟩
  have f:=List.mem_range.1 f
  cases hb:s.testBit i
  ·rw [Bool.false_or]
   cases c:cen d P (s+2 ^ i)
   ·rfl
   ·rw [Bool.true_and,ZGe c]
    by_cases e:rS d P (s+2 ^ i)=r
    ·exfalso
     have p:rk (d+1) (plS P (s+2 ^ i))=rk (d+1) (plS P s ++ [P.getD i []]):=ZOv fun v=>by
      have a:=ZOW (v:=v) (d:=d) hn hs f hb;rw [ZDA,ZDA] at a
      constructor
      ·intro h
       refine a.2 ⟨fun r b=>h r (List.mem_append.2 (Or.inl b)),h _ (List.mem_append.2 (Or.inr (by simp)))⟩
      ·intro h r b
       have:=a.1 h
       rcases List.mem_append.1 b with b | b
       ·exact this.1 r b
       ·rw [List.mem_singleton.1 b]; exact this.2
     have m:thr d P s i=true:=by
      unfold thr;rw [←p,beq_iff_eq]
      show rS d P (s+2 ^ i)=rS d P s
      rw [e,b]
     have:=o i f m;rw [hb] at this
     cases this
    ·rw [decide_eq_false e]; rfl
  ·rfl
theorem ZI8{α:Type}(key:α→Nat)(K:Nat):∀l:List α,l.Pairwise (fun a b=>key a≤key b)→(∀x∈l,key x < K+1)→l=l.filter (fun x=>decide (key x < K)) ++ l.filter (fun x=>decide (key x=K))
 | [],_,_=>rfl
 | x :: xs,h,hb=>by
  obtain ⟨h1,h2⟩:=List.pairwise_cons.1 h
  have ih:=ZI8 key K xs h2 fun y hy=>hb y (by simp [hy])
  by_cases e:key x < K
  ·rw [List.filter_cons_of_pos (by simpa using e),List.filter_cons_of_neg (by simp; omega),List.cons_append,←ih]
  ·have e2:key x=K:=by have:=hb x (by simp); omega
   have e3:∀y∈xs,key y=K:=fun y hy=>by have:=h1 y hy; have:=hb y (by simp [hy]); omega
   have d:xs.filter (fun x=>decide (key x < K))=[]:=List.filter_eq_nil_iff.2 fun y hy=>by simp; have:=e3 y hy; omega
   have c:xs.filter (fun x=>decide (key x=K))=xs:=List.filter_eq_self.2 fun y hy=>by simp; exact e3 y hy
   rw [List.filter_cons_of_neg (by simpa using e),List.filter_cons_of_pos (by simpa using e2),d,c,List.nil_append]
theorem ZHF{α:Type}(key:α→Nat):∀(K:Nat) (l:List α),l.Pairwise (fun a b=>key a≤key b)→(∀x∈l,key x < K)→l=(List.range K).flatMap fun q=>l.filter fun x=>decide (key x=q)
 | 0,l,_,hb=>by
  cases l with
  | nil=>rfl
  | cons x xs=>exact absurd (hb x (by simp)) (by omega)
 | K+1,l,h,hb=>by
  have h1:=ZI8 key K l h hb
  have h2:=ZHF key K (l.filter fun x=>decide (key x < K)) (h.sublist List.filter_sublist) fun x hx=>by simpa using (List.mem_filter.1 hx).2
  rw [List.range_succ,List.flatMap_append]
  have e1:((List.range K).flatMap fun q=>(l.filter fun x=>decide (key x < K)).filter fun x=>decide (key x=q))=(List.range K).flatMap fun q=>l.filter fun x=>decide (key x=q):=by
   rw [List.flatMap_def,List.flatMap_def]
   congr 1
   apply List.map_congr_left
   intro q c;have c:=List.mem_range.1 c;rw [List.filter_filter]
   apply List.filter_congr
   intro x _
   by_cases e:key x=q
   ·simp [e,c]
   ·simp [e]
  rw [e1] at h2;rw [←h2]
  simpa using h1
def FlQ(d:Nat)(P:List (List Int))(r:Nat)(O:List (List Int)):Prop:=∃A:Nat→List (List Int),O=(List.range r).flatMap A∧∀q,q < r→ZF7 (A q)∧∀c,c∈A q↔∃s,s < 2 ^ P.length∧dfl d P q s=true∧c=ZBH P.length s
theorem FlQ.zero(d:Nat)(P:List (List Int)):FlQ d P 0 []:=⟨fun _=>[],rfl,fun q hq=>by omega⟩
def dfM(d:Nat)(P:List (List Int))(r s:Nat):List (List Int):=((List.range s).filter fun t=>dfl d P r t).map (ZBH P.length)
theorem ZNt(d:Nat)(P:List (List Int))(r s:Nat):dfM d P r (s+1)=dfM d P r s ++ if dfl d P r s=true then [ZBH P.length s] else []:=by
 unfold dfM;rw [List.range_succ,List.filter_append,List.map_append]
 cases h:dfl d P r s <;> simp [h]
theorem ZIJ(d:Nat)(P:List (List Int))(r s:Nat):(dfM d P r s).length≤s:=by
 unfold dfM;rw [Zab1]
 exact Zaa8 (List.length_filter_le _ _) (by simp)
theorem FlQ.succ{d:Nat}{P:List (List Int)}{r:Nat}{O s:List (List Int)}(h:FlQ d P r O)(hs:ZF7 s)(hm:∀c,c∈s↔c∈dfM d P r (2 ^ P.length)):FlQ d P (r+1) (O ++ s):=by
 obtain ⟨A,g,i⟩:=h
 refine ⟨fun q=>if q=r then s else A q,?_,fun q f=>?_⟩
 ·rw [List.range_succ,List.flatMap_append,g]
  congr 1
  ·rw [List.flatMap_def,List.flatMap_def]
   congr 1
   apply List.map_congr_left
   intro q f;have f:=List.mem_range.1 f
   rw [if_neg (by omega)]
  ·simp
 ·dsimp only
  by_cases e:q=r
  ·rw [if_pos e,e]
   refine ⟨hs,fun c=>?_⟩
   rw [hm];unfold dfM;rw [List.mem_map]
   constructor
   ·rintro ⟨t,j,rfl⟩
    obtain ⟨b,a⟩:=List.mem_filter.1 j;exact ⟨t,List.mem_range.1 b,a,rfl⟩
   ·rintro ⟨t,b,a,rfl⟩
    exact ⟨t,List.mem_filter.2 ⟨List.mem_range.2 b,a⟩,rfl⟩
  ·rw [if_neg e]
   exact i q (by omega)
theorem ZHG{α:Type}{R:α→α→Prop}(l:List α)(e:α)(h:∀i j,i < j→j < l.length→R (l.getD i e) (l.getD j e)):l.Pairwise R:=by
 rw [List.pairwise_iff_getElem];intro i j c b a;have:=h i j a b
 simpa [c,b] using this
theorem ZJn{d:Nat}{P O:List (List Int)}{m:List (List Int×Nat)}(hn:P.length≤6)(h:FlS d P m)(ha:FlA m)(hO:FlQ d P (d+1) O):m.map Prod.fst=O:=by
 obtain ⟨A,R,V⟩:=hO
 have J:m.Pairwise (fun a b=>a.2≤b.2):=ZHG m ([],0) h.ord
 have Q:∀x∈m,x.2 < d+1:=fun x g=>by
  have a:=(h.mem hn g).2;rw [a.2.1,←ZGe (ZDB.1 a.1).1];have:=ZFJ d (plS P (ZA5 x.1));omega
 have e:=ZHF Prod.snd (d+1) m J Q
 have v:m.Pairwise (fun a b=>¬fcf b a < 0):=ZHG m ([],0) ha
 have p:m.Pairwise (fun a b=>ZA5 a.1≠ZA5 b.1):=by
  have:=h.nodup hn;unfold msk at this;exact List.pairwise_map.1 this
 have o:m.Pairwise (fun a b=>a.2=b.2→ZAl a.1 b.1 < 0):=(v.and p).imp fun {a b} f e2=>by
  refine Za6 fun hc=>f.2 ?_
  refine congrArg ZA5 (ZHz a.1 b.1 hc fun h3=>f.1 ?_)
  exact (ZDL _ _).2 (Or.inr ⟨e2.symm,h3⟩)
 rw [e,List.map_flatMap,R,List.flatMap_def,List.flatMap_def]
 congr 1
 apply List.map_congr_left
 intro q j;have j:=List.mem_range.1 j;obtain ⟨N,M⟩:=V q j
 refine ZIx _ _ ?_ N fun c=>?_
 ·unfold ZF7
  rw [List.pairwise_map];refine List.Pairwise.imp_of_mem ?_ (o.sublist List.filter_sublist);intro a b i n f;have z:=(List.mem_filter.1 i).2;have E:=(List.mem_filter.1 n).2;simp only [decide_eq_true_eq] at z E
  exact f (by rw [z,E])
 ·rw [M,List.mem_map]
  constructor
  ·rintro ⟨x,g,rfl⟩
   obtain ⟨S,y⟩:=List.mem_filter.1 g;simp only [decide_eq_true_eq] at y;obtain ⟨r,F,t,l⟩:=h.mem hn S
   refine ⟨ZA5 x.1,l,(ZMN hn l).2 ⟨F,by rw [←t,y]⟩,((ZBj hn).1 x.1 r).2.1⟩
  ·rintro ⟨s,G,T,rfl⟩
   obtain ⟨U,L⟩:=(ZMN hn G).1 T;have B:=(h.iff hn G).2 U;unfold msk at B;obtain ⟨x,g,D⟩:=List.mem_map.1 B;obtain ⟨r,F,t,l⟩:=h.mem hn g
   refine ⟨x,List.mem_filter.2 ⟨g,by simp only [decide_eq_true_eq]; rw [t,D,L]⟩,?_⟩
   have:=((ZBj hn).1 x.1 r).2.1;rw [this,D]
def pwC(d:Nat)(P:List (List Int))(s j:Nat):Int:=sumN s fun t=>if cen d P t=true then sg t*(if d-rS d P t=j then 1 else 0) else 0
def poW(d:Nat)(P:List (List Int))(s:Nat):List Int:=(List.range (d+1)).map (pwC d P s)
theorem ZEw(d:Nat)(P:List (List Int))(s:Nat):(poW d P s).length=d+1:=by simp [poW]
theorem ZNu(d:Nat)(P:List (List Int)):poW d P 0=List.replicate (d+1) 0:=by
 unfold poW
 apply List.ext_getElem (by simp)
 intro i a b;simp [pwC,sumN]
theorem ZPk(d:Nat)(P:List (List Int)):poW d P (2 ^ P.length)=(List.range (d+1)).map (whC d P):=rfl
theorem ZMO{d:Nat}{P:List (List Int)}{s j:Nat}(hj:j < d+1):(poW d P s).getD j 0=pwC d P s j:=by
 simp [poW,hj]
theorem ZPl(d:Nat)(P:List (List Int))(s j:Nat):(pwC d P s j).natAbs≤s:=by
 unfold pwC
 refine ZFq fun i _=>?_
 have:=sg_abs i
 by_cases e:cen d P i=true
 ·rw [if_pos e]
  by_cases e2:d-rS d P i=j
  ·rw [if_pos e2]; omega
  ·rw [if_neg e2]; omega
 ·rw [if_neg e]; decide
theorem ZQp{d:Nat}{P:List (List Int)}{s:Nat}(h:cen d P s=false):poW d P (s+1)=poW d P s:=by
 unfold poW
 apply List.map_congr_left
 intro j _;unfold pwC
 rw [sumN,if_neg (by rw [h]; decide),Int.add_zero]
theorem ZPm{d:Nat}{P:List (List Int)}{s:Nat}(h:cen d P s=true):poW d P (s+1)=(poW d P s).set (d-rk d (plS P s)) ((poW d P s).getD (d-rk d (plS P s)) 0+sg s):=by
 rw [ZMO (by omega),ZGe h]
 apply List.ext_getElem?
 intro j;rw [List.getElem?_set]
 by_cases hj:j < d+1
 ·have c:(poW d P (s+1))[j]?=some (pwC d P (s+1) j):=by simp [poW,hj]
  have a:(poW d P s)[j]?=some (pwC d P s j):=by simp [poW,hj]
  have b:pwC d P (s+1) j=pwC d P s j+sg s*(if d-rS d P s=j then 1 else 0):=by
   unfold pwC;rw [sumN,if_pos h]
  rw [c,a,ZEw,b]
  by_cases e:d-rS d P s=j
  ·rw [if_pos e,if_pos e,if_pos (by omega),e,Int.mul_one]
  ·rw [if_neg e,if_neg e,Int.mul_zero,Int.add_zero]
 ·rw [Zaa6 (by rw [ZEw]; omega),if_neg (by omega),Zaa6 (by rw [ZEw]; omega)]
def sgB:Bool:=(List.range 7).all fun n=>(List.range (2 ^ n)).all fun s=>sg s == if (ZBH n s).length % 2=0 then 1 else -1
theorem ZRI:sgB=true:=by decide +kernel
theorem ZPn{n s:Nat}(hn:n≤6)(hs:s < 2 ^ n):sg s=if (ZBH n s).length % 2=0 then 1 else -1:=by
 have h:=ZRI;unfold sgB at h;rw [List.all_eq_true] at h
 have a:=List.all_eq_true.1 (h n (List.mem_range.2 (by omega))) s (List.mem_range.2 hs)
 exact eq_of_beq a
end Go.Proofs.YtgfnmkenpgnllaaGreat
namespace Go.Proofs.YtgfnmkenpgnllaaGreat
open Go.RowKit Lin
attribute [local go_sem ↓] Go.wp_at_zero Go.wp_at_succ
structure PfI(B:Nat)(w0 W:World)(ov rv:Value)(O:List (List Int))(n:Nat):Prop where
 ex:∃vs xs,vs.length=O.length∧W.ownsRow B 22 1 ov O.length vs∧(∀i,i < O.length→Sl 0 3 W (vs.getD i (.slice none 0 0)) (ZAB (O.getD i [])))∧(∀i,i < O.length→0 < (O.getD i []).length→∀a k c,vs.getD i (.slice none 0 0)=.slice (some a) k c→rv.ownBlock≠some a.block)∧W.ownsRow B 3 1 rv n (ZAB xs)
 bel:Below B w0 W
theorem PfI.nil(B:Nat)(w:World):PfI B w w (.slice none 0 0) (.slice none 0 0) [] 0:=
 ⟨⟨[],[],rfl,World.ownsRow_nil _ _ _ _,fun i hi=>absurd hi (by simp),fun i hi=>absurd hi (by simp),World.ownsRow_nil _ _ _ _⟩,Below.refl _ _⟩
theorem PfI.low{B n:Nat}{w0 W W':World}{ov rv:Value}{O:List (List Int)}(h:PfI B w0 W ov rv O n)(hB:B≤W.heap.size)(hb:Below W.heap.size W W'):PfI B w0 W' ov rv O n:=by
 obtain ⟨⟨c,f,a,j,d,b,g⟩,l⟩:=h
 exact ⟨⟨c,f,a,ZAN j hb (Za4 _),fun i hi=>(d i hi).below hb (Za4 _),b,ZAN g hb (Za4 _)⟩,l.trans (hb.mono hB)⟩
theorem PfI.ne{B n:Nat}{w0 W:World}{ov rv:Value}{O:List (List Int)}(h:PfI B w0 W ov rv O n):∀g,ov.ownBlock=some g→rv.ownBlock≠some g:=fun g h1 h2=>by
 obtain ⟨⟨i,j,l,c,r,p,b⟩,o⟩:=h;obtain ⟨_,_,m,d⟩:=ZBE c g h1;obtain ⟨_,_,f,a⟩:=ZBE b g h2;rw [d] at a;simp at a
theorem PfI.pushO{B n:Nat}{w0 W w5:World}{ov rv v' u:Value}{O:List (List Int)}{zs:List Int}{ob:Obj}{vs:List Value}{xs:List Int}(hB:B≤W.heap.size)(h6:Below B w0 W)
 (h1:vs.length=O.length)(h2:W.ownsRow B 22 1 ov O.length vs)(h3:∀i,i < O.length→Sl 0 3 W (vs.getD i (.slice none 0 0)) (ZAB (O.getD i [])))(h4:∀i,i < O.length→0 < (O.getD i []).length→∀a k c,vs.getD i (.slice none 0 0)=.slice (some a) k c→rv.ownBlock≠some a.block)(h5:W.ownsRow B 3 1 rv n (ZAB xs))
 (hne:∀g,ov.ownBlock=some g→rv.ownBlock≠some g)(hu:Sl 0 3 W u (ZAB zs))(hub:0 < zs.length→∀a k c,u=.slice (some a) k c→rv.ownBlock≠some a.block)
 (ho:w5.ownsRow B 22 1 v' (O.length+1) (vs ++ [u]))(hg:(W.alloc ob).grownBy w5 ov.ownBlock):PfI B w0 w5 v' rv (O ++ [zs]) n:=by
 have o:Fr B 22 3 w5 v' (O ++ [zs]):=Fr.push (e2:=22) (e1:=3) (by decide) h1 (h2.alloc _) (fun i hi=>(h3 i hi).alloc _) (hu.alloc _) ho hg
 have f:∀i,i < O.length→(vs ++ [u]).getD i (.slice none 0 0)=vs.getD i (.slice none 0 0)∧(O ++ [zs]).getD i []=O.getD i []:=fun i hi=>by
  simp only [Za2]
  rw [Za7 (by omega),Za7 (by omega)]
  exact ⟨rfl,rfl⟩
 have j:(vs ++ [u]).getD O.length (.slice none 0 0)=u∧(O ++ [zs]).getD O.length []=zs:=by
  constructor
  ·rw [←h1]; simp
  ·simp
 have m:∀k,ov.ownBlock=some k→0≤k∧∀cur,(W.alloc ob).heap[k]?≠some (.cells cur 3 (0,0)):=fun k hk=>⟨Za5 _,(ZAz (h2.alloc ob) (by decide) k hk).2⟩
 refine ⟨⟨vs ++ [u],xs,by simp [h1],by simpa using ho,fun i hi=>?_,fun i hi hp a k c e=>?_,?_⟩,(h6.alloc hB _).grown hg (by simp; omega) (fun x hx=>(h2.lt x hx).1)⟩
 ·by_cases d:i < O.length
  ·rw [(f i d).1,(f i d).2]
   exact ((h3 i d).alloc ob).grown hg m
  ·have l:i=O.length:=by simp at hi; omega
   subst l;rw [j.1,j.2];exact (hu.alloc ob).grown hg m
 ·by_cases d:i < O.length
  ·rw [(f i d).1] at e
   rw [(f i d).2] at hp;exact h4 i d hp a k c e
  ·have l:i=O.length:=by simp at hi; omega
   subst l;rw [j.1] at e;rw [j.2] at hp;exact hub hp a k c e
 ·refine ZDO h5 fun b hb=>?_
  have d:=(ZBE h5 b hb).2.1
  rw [hg.block b (by simp; omega) (fun e=>hne b e.symm hb)]
  exact Below.heap_alloc _ _ _ d
theorem PfI.pushR{B n:Nat}{w0 W w5:World}{ov rv v':Value}{O:List (List Int)}{z:Int}{ob:Obj}{vs:List Value}{xs:List Int}(hB:B≤W.heap.size)(h6:Below B w0 W)
 (h1:vs.length=O.length)(h2:W.ownsRow B 22 1 ov O.length vs)(h3:∀i,i < O.length→Sl 0 3 W (vs.getD i (.slice none 0 0)) (ZAB (O.getD i [])))(h4:∀i,i < O.length→0 < (O.getD i []).length→∀a k c,vs.getD i (.slice none 0 0)=.slice (some a) k c→rv.ownBlock≠some a.block)(h5:W.ownsRow B 3 1 rv n (ZAB xs))
 (hne:∀g,ov.ownBlock=some g→rv.ownBlock≠some g)
 (ho:w5.ownsRow B 3 1 v' (n+1) (ZAB xs ++ [.int .i64 z]))(hg:(W.alloc ob).grownBy w5 rv.ownBlock)(hat:v'.ownBlock=rv.ownBlock∨v'.ownBlock=some (W.heap.size+1)):PfI B w0 w5 ov v' O (n+1):=by
 refine ⟨⟨vs,xs ++ [z],h1,?_,fun i hi=>?_,fun i hi hp a k c e=>?_,by simpa [ZAB] using ho⟩,(h6.alloc hB _).grown hg (by simp; omega) (fun x hx=>(h5.lt x hx).1)⟩
 ·refine ZDO h2 fun b hb=>?_
  have d:=(ZBE h2 b hb).2.1
  rw [hg.block b (by simp; omega) (fun e=>hne b hb e.symm)]
  exact Below.heap_alloc _ _ _ d
 ·refine ZCb (h3 i hi) fun hp a k c e=>?_
  have d:=ZBw (by rw [←e]; exact h3 i hi) hp
  rw [hg.block a.block (by simp; omega) (fun f=>h4 i hi hp a k c e f.symm)]
  exact Below.heap_alloc _ _ _ d
 ·have d:=ZBw (by rw [←e]; exact h3 i hi) hp
  rcases hat with h | h
  ·rw [h]; exact h4 i hi hp a k c e
  ·rw [h]
   intro f;simp only [Zaa9] at f;omega
def Win(N:Nat)(W W':World):Prop:=∀b,N≤b→b < W.heap.size→W'.heap[b]?=W.heap[b]?
theorem Win.grown{N:Nat}{W W' w5:World}{v:Value}{ob:Obj}(h:Win N W W')(hs:W.heap.size≤W'.heap.size)(hg:(W'.alloc ob).grownBy w5 v.ownBlock)(hv:∀g,v.ownBlock=some g→g < N∨W.heap.size≤g):Win N W w5:=fun b h1 h2=>by
 rw [hg.block b (by simp; omega) (fun e=>by have:=hv b e.symm; omega),Below.heap_alloc _ _ _ (by omega)]
 exact h b h1 h2
theorem FrN.win{N:Nat}{W W':World}{x:Value}{s:List (List Int)}(h:FrN N W x s)(hw:Win N W W'){k:Nat}(hk:k < s.length):∃b o rv c,x=.slice (some ⟨b,o,none⟩) s.length c∧W'.cell? ⟨b,o+k,none⟩=some rv∧Sl 0 3 W' rv (ZAB (s.getD k []))∧∀a n c,rv=.slice (some a) n c→0 < (s.getD k []).length→N≤a.block∧a.block < W.heap.size:=by
 obtain ⟨m,A,z,y⟩:=h;obtain ⟨j,t⟩:=y k hk
 rcases z.2 with ⟨_,h0⟩ | ⟨g,cap,cur,hv,hb,hh,hn,hc,hs,ht⟩
 ·omega
 ·have l:g < W.heap.size:=lt_of_block hh
  refine ⟨g,0,m.getD k (.slice none 0 0),cap,hv,?_,?_,?_⟩
  ·unfold World.cell?
   rw [hw g hb l,hh]
   have e:cur[k]?=some (m.getD k (.slice none 0 0)):=by
    rw [←Array.getElem?_toList,←Zaa5 (show k < s.length by omega)]
    have:cur.toList.take s.length=m:=by simpa using ht
    rw [this,Za2,Za9 (by omega)]
    rfl
   simpa using e
  ·refine ZCb j fun i a n c e=>?_
   have f:=ZBw (by rw [←e]; exact j) i
   refine hw a.block ?_ f
   obtain ⟨p,r,v,d,_,_⟩:=ZAJ j (k:=0) (by simpa using i)
   rw [e] at d;simp only [Za3,Zaa9] at d
   have:=t p r _ _ (by rw [e,d.1])
   rw [d.1];exact this
  ·intro a n c e i
   have f:=ZBw (by rw [←e]; exact j) i
   obtain ⟨p,r,v,d,_,_⟩:=ZAJ j (k:=0) (by simpa using i)
   rw [e] at d;simp only [Za3,Zaa9] at d
   have:=t p r _ _ (by rw [e,d.1])
   rw [d.1] at f ⊢;exact ⟨this,f⟩
theorem ZPo(t k:Nat):(((t:Int) / 2 ^ k).tmod 2 == 0)=!t.testBit k:=by
 have b:(t:Int) / 2 ^ k=((t / 2 ^ k:Nat):Int):=by simp
 have a:t.testBit k=decide (t / 2 ^ k % 2=1):=Nat.testBit_eq_decide_div_mod_eq;rw [b,a];generalize t / 2 ^ k=q
 have e:(q:Int).tmod 2=((q % 2:Nat):Int):=by rw [Int.tmod_eq_emod_of_nonneg (by omega)]; omega
 rw [e]
 rcases (show q % 2=0∨q % 2=1 by omega) with h | h <;> simp [h]
theorem ZE6(d:Nat)(P:List (List Int))(v:Value)(w:World)(hv:Mat 0 22 3 w v P)(hP:∀p∈P,p.length=d+1∧∀z∈p,z.natAbs≤20)(hd1:1≤d)(hd3:d≤3)(h6:P.length≤6) :
  Calls Tryz.prog 11 #[.int .i64 d,v] w fun e w'=>∃ov rv O,e=.returned (.tuple #[ov,rv])∧Fr w.heap.size 22 3 w' ov O∧FlQ d P (d+1) O∧Below w.heap.size w w':=by
 obtain ⟨i0,hi,bq,bw,bK⟩:=info_parts Tryz.info22;obtain ⟨i3,cA,bB,bC,bj⟩:=info_parts Tryz.info3;obtain ⟨ro,rc,dq,dF,dD⟩:=ZAE hv;subst dq
 obtain ⟨E,Q⟩:∃E:Nat,E=2 ^ P.length:=⟨_,rfl⟩
 have bS:Hid ((2:Int) ^ P.length=(E:Int)):=by show _=_; rw [Q]; simp
 have dt:E≤64:=by rw [Q]; exact show 2 ^ P.length≤2 ^ 6 from Nat.pow_le_pow_right (by omega) h6
 have bX:Hid (IntKind.i64.wrap (E:Int)=(E:Int)):=wrap_small _ (by omega) (by omega)
 have aG:Hid (∀s X,s < E→Below w.heap.size w X→Calls Tryz.prog 30 #[.int .i64 d,.slice ro P.length rc,.int .i64 s] X fun e w'=>e=.returned (.tuple #[.bool (cen d P s),.int .i64 (rk d (plS P s):Nat)])∧Below X.heap.size X w'):=fun s X hs hX=>ZGw d s P _ X (hv.below hX (Za4 _)) hP hd1 hd3 h6 (by rw [←Q]; exact hs)
 have bA:Hid (∀s X,s < E→Calls Tryz.prog 31 #[.int .i64 s] X fun e w'=>∃uo uc,e=.returned (.slice uo (ZBH P.length s).length uc)∧Sl 0 3 w' (.slice uo (ZBH P.length s).length uc) (ZAB (ZBH P.length s))∧Below X.heap.size X w'):=fun s X hs=>by
  refine (ZCO s P.length X (by rw [←Q]; exact hs) (by omega)).mono ?_
  rintro e w' ⟨u,rfl,h1,h2⟩;obtain ⟨uo,uc,rfl⟩:=ZAD h1;exact ⟨uo,uc,rfl,Sl.own h1,h2⟩
 have bu:Hid (∀q u X,Mat 0 22 3 X u (dfM d P q E)→Calls Tryz.prog 32 #[u] X fun e w'=>∃xo xc s,e=.returned (.slice xo s.length xc)∧FrN X.heap.size w' (.slice xo s.length xc) s∧(s.length≤64∧∀O,FlQ d P q O→FlQ d P (q+1) (O ++ s))∧Below X.heap.size X w'):=fun q u X hu=>by
  refine (ZG0 0 _ u X hu (Zaa8 (ZIJ d P q E) (by omega)) (fun r hr=>?_)).mono ?_
  ·unfold dfM at hr
   obtain ⟨t,_,rfl⟩:=List.mem_map.1 hr
   exact Zaa8 (ZHi t P.length) (by omega)
  ·rintro e w' ⟨x,s,rfl,h1,h2,h3,h4⟩
   obtain ⟨xo,xc,rfl,_,_⟩:=ZCY h1.fr
   refine ⟨xo,xc,s,rfl,h1,⟨?_,fun O hO=>hO.succ h2 (by rw [←Q]; exact h3)⟩,h4⟩
   exact Zaa8 (ZLa s _ (ZQX h2) fun r hr=>(h3 r).1 hr) (Zaa8 (ZIJ d P q E) dt)
 have cH:Hid (∀s i,s < E→i < P.length→s.testBit i=false→s+2 ^ i < E):=fun s i hs hi hb=>by
  rw [Q] at hs ⊢;exact (ZMM h6 hs hi hb).1
 have cN:Hid (∀i,i < P.length→2 ^ i≤64):=fun i hi=>Zaa8 (Nat.pow_le_pow_right (by decide) (show i≤6 by omega)) (by decide)
 have bN:Hid (∀q s,dfM d P q (s+1)=dfM d P q s ++ if dfl d P q s=true then [ZBH P.length s] else []):=fun q s=>ZNt d P q s
 have aZ:Hid (∀q s,(dfM d P q s).length≤s):=fun q s=>ZIJ d P q s
 have bt:Hid (∀q s,dfl d P q s=((cen d P s && decide (rk d (plS P s)=q)) && dfT d P q s P.length)):=fun q s=>rfl
 have bJ:Hid (∀q s k,dfT d P q s (k+1)=(dfT d P q s k && (s.testBit k || !(cen d P (s+2 ^ k) && decide (rk d (plS P (s+2 ^ k))=q))))):=fun q s k=>ZNs d P q s k
 have dg:Hid (FlQ d P 0 []):=FlQ.zero d P
 have dy:Hid (∀q s,dfT d P q s 0=true):=fun q s=>rfl
 have dx:Hid (∀q,dfM d P q 0=[]):=fun q=>rfl
 clear hv hP Q;generalize hnp:P.length=nP at *;clear hnp;go_enter Tryz.func11,Tryz.ntmps11;go_wp2
 go_loopw [6,7,8,9,10,11,12,13,14,15,16] (fun x y r _ _ _ _ _ _ _ _ wr=>∃(q:Nat) (O:List (List Int)),q≤d+1∧r=.int .i64 q∧FlQ d P q O∧O.length≤64*q∧PfI w.heap.size w wr x y O O.length) (fun _ _ r _ _ _ _ _ _ _ _ _=>d+1-(intOf r).toNat)
 case atStart=>exact ⟨0,[],Za5 _,rfl,dg.out,Za5 _,PfI.nil _ _⟩
 case round=>
  obtain ⟨q,O,hq,rfl,cj,ck,aQ⟩:=hrel
  obtain ⟨f,rfl⟩:∃f,f=wr:=⟨_,rfl⟩
  have bG:=hid cj;have au:=hid aQ;have aF:=hid ck;have aA:w.heap.size≤f.heap.size:=aQ.bel.size;clear cj aQ ck
  by_cases hlt:q≤d
  ·have cK:(q:Int)≤(d:Int):=by omega
   have dE:q≤3:=by omega
   go_wp2
   go_loopw [9,10,11,12,13,14,15] (fun l s _ _ _ _ _ D=>∃t:Nat,t≤E∧s=.int .i64 t∧Fr f.heap.size 22 3 D l (dfM d P q t)∧Below f.heap.size f D) (fun _ s _ _ _ _ _ _=>E-(intOf s).toNat)
   case atStart=>exact ⟨0,Za5 _,rfl,by rw [dx.out]; exact Fr.nil _ _ _ _,Below.refl _ _⟩
   case round=>
    obtain ⟨t,ht,rfl,bZ,aw⟩:=hrel
    obtain ⟨D,rfl⟩:∃D,D=wr:=⟨_,rfl⟩
    have ar:=hid bZ;have bD:=hid aw;have aR:Hid (Below w.heap.size w D):=au.out.bel.trans (aw.mono aA);have bL:f.heap.size≤D.heap.size:=aw.size;clear bZ aw
    by_cases htl2:t < E
    ·have dI:(t:Int) < (E:Int):=Int.ofNat_lt.2 htl2
     have HM:Hid (Calls Tryz.prog 30 #[.int .i64 d,.slice ro nP rc,.int .i64 t] D fun e w'=>e=.returned (.tuple #[.bool (cen d P t),.int .i64 (rk d (plS P t):Nat)])∧Below D.heap.size D w'):=aG.out t D htl2 aR.out
     have ah:Hid (dfM d P q (t+1)=dfM d P q t ++ if dfl d P q t=true then [ZBH nP t] else []):=bN.out q t
     have am:Hid (dfl d P q t=((cen d P t && decide (rk d (plS P t)=q)) && dfT d P q t nP)):=bt.out q t
     have cO:Hid ((dfM d P q t).length≤64):=Zaa8 (aZ.out q t) (by omega)
     generalize cen d P t=c at *;generalize rk d (plS P t)=rv at *;generalize dfl d P q t=df at *;generalize dfM d P q t=A at *
     obtain ⟨A',aD⟩:∃A',A'=dfM d P q (t+1):=⟨_,rfl⟩
     rw [←aD] at ah;have ai:=hid aD;clear aD;have aM:=bS.out;have aV:=bX.out
     go_wp2_with fail
     clear aM aV;refine HM.out.mono ?_;rintro e w1 ⟨rfl,aq⟩;have an:Hid (Below f.heap.size f w1):=bD.out.trans (aq.mono bL);have az:Hid (Below w.heap.size w w1):=aR.out.trans (aq.mono aR.out.size);have aa:Hid (Fr f.heap.size 22 3 w1 u9 A):=ar.out.below aq (Za4 _);clear aq HM ar
     cases c with
     | false=>
      have R1:Hid (Fr f.heap.size 22 3 w1 u9 A'):=by
       show Fr _ _ _ _ _ _
       rw [ah.out,am.out]
       simpa using aa.out
      go_wp2
      exact ⟨⟨t+1,by omega,by go_num,by rw [←ai.out]; exact R1.out,an.out⟩,by simp [intOf]; omega⟩
     | true=>
      by_cases hr:rv=q
      ·have dl:((rv:Int) == (q:Int))=true:=by rw [hr]; simp
       have dv:((rv:Int) != (q:Int))=false:=by rw [hr]; simp
       have cF:Hid (df=dfT d P q t nP):=by
        show _=_
        rw [am.out,decide_eq_true hr]; rfl
       clear hr am;go_wp2
       go_loopw [11,13,14,15] (fun ok i _ _ j=>∃k:Nat,k≤nP∧i=.int .i64 k∧ok=.bool (dfT d P q t k)∧Below w1.heap.size w1 j) (fun _ i _ _ _=>nP-(intOf i).toNat)
       case atStart=>exact ⟨0,Za5 _,rfl,by rw [dy.out],Below.refl _ _⟩
       case round=>
        obtain ⟨k,hk,rfl,rfl,aU⟩:=hrel
        obtain ⟨j,rfl⟩:∃j,j=wr:=⟨_,rfl⟩
        have af:=hid aU;have bP:Hid (Below w.heap.size w j):=az.out.trans (aU.mono az.out.size);clear aU
        by_cases hkn:k < nP
        ·have de:(k:Int) < (nP:Int):=by omega
         have cg:(0:Int)≤(k:Int):=by omega
         have G:Hid (dfT d P q t (k+1)=(dfT d P q t k && (t.testBit k || !(cen d P (t+2 ^ k) && decide (rk d (plS P (t+2 ^ k))=q))))):=bJ.out q t k
         have T:=ZPo t k
         cases hbk:t.testBit k with
         | true=>
          rw [hbk] at T G
          have M:Hid (dfT d P q t (k+1)=dfT d P q t k):=by show _=_; rw [G.out]; simp
          have Y:(((t:Int) / 2 ^ k).tmod 2 == 0)=false:=T;clear T hbk G;go_wp2
          exact ⟨⟨k+1,by omega,by go_num,by rw [M.out],af.out⟩,by simp [intOf]; omega⟩
         | false=>
          rw [hbk] at T G;have Y:(((t:Int) / 2 ^ k).tmod 2 == 0)=true:=T;have aB:=cH.out t k htl2 hkn hbk;have cS:=cN.out k hkn
          have HM:Hid (Calls Tryz.prog 30 #[.int .i64 d,.slice ro nP rc,.int .i64 ((t+2 ^ k:Nat):Int)] j fun e w'=>e=.returned (.tuple #[.bool (cen d P (t+2 ^ k)),.int .i64 (rk d (plS P (t+2 ^ k)):Nat)])∧Below j.heap.size j w'):=aG.out (t+2 ^ k) j aB bP.out
          obtain ⟨z,hz⟩:∃z:Nat,z=t+2 ^ k:=⟨_,rfl⟩
          obtain ⟨pk,aS⟩:∃pk:Nat,pk=2 ^ k:=⟨_,rfl⟩
          rw [←hz] at HM G aB;rw [←aS] at hz cS
          have bY:(t:Int)+(pk:Int)=(z:Int):=by omega
          have cM:Hid (IntKind.i64.wrap ((t:Int)+(pk:Int))=(z:Int)):=by show _=_; rw [bY]; exact wrap_small _ (by omega) (by omega)
          clear bY
          have bE:Hid (IntKind.i64.wrap (pk:Int)=(pk:Int)):=wrap_small _ (by omega) (by omega)
          have bg:(2:Int) ^ k=(pk:Int):=by rw [aS]; simp
          have bi:(((t:Int) / (pk:Int)).tmod 2 == 0)=true:=by rw [←bg]; exact Y
          clear Y;generalize cen d P z=cz at *;generalize rk d (plS P z)=rz at *;clear T hbk aS hz aB;have cJ:=bE.out;have dh:=cM.out
          go_wp2_with fail
          refine HM.out.mono ?_;rintro e w2 ⟨rfl,bR⟩;have N:Hid (Below w1.heap.size w1 w2):=af.out.trans (bR.mono af.out.size);clear bR HM dh cJ bg bi
          cases cz with
          | false=>
           have M:Hid (dfT d P q t (k+1)=dfT d P q t k):=by show _=_; rw [G.out]; simp
           go_wp2
           exact ⟨⟨k+1,by omega,by go_num,by rw [M.out],N.out⟩,by simp [intOf]; omega⟩
          | true=>
           by_cases hr:rz=q
           ·have dr:((rz:Int) == (q:Int))=true:=by rw [hr]; simp
            have M:Hid (dfT d P q t (k+1)=false):=by show _=_; rw [G.out,decide_eq_true hr]; simp
            clear hr;go_wp2
            exact ⟨⟨k+1,by omega,by go_num,by rw [M.out],N.out⟩,by simp [intOf]; omega⟩
           ·have dr:((rz:Int) == (q:Int))=false:=by rw [beq_eq_false_iff_ne]; omega
            have M:Hid (dfT d P q t (k+1)=dfT d P q t k):=by show _=_; rw [G.out,decide_eq_false hr]; simp
            clear hr;go_wp2
            exact ⟨⟨k+1,by omega,by go_num,by rw [M.out],N.out⟩,by simp [intOf]; omega⟩
        ·have aW:k=nP:=by omega
         subst aW;have N:Hid (Below f.heap.size f j):=an.out.trans (af.out.mono an.out.size);have V:Hid (Fr f.heap.size 22 3 j u9 A):=aa.out.below af.out (Za4 _);have bk:f.heap.size≤j.heap.size:=N.out.size;rw [←cF.out]
         cases df with
         | false=>
          have R1:Hid (Fr f.heap.size 22 3 j u9 A'):=by
           show Fr _ _ _ _ _ _
           rw [ah.out]
           simpa using V.out
          go_wp2
          exact ⟨⟨t+1,by omega,by go_num,by rw [←ai.out]; exact R1.out,N.out⟩,by simp [intOf]; omega⟩
         | true=>
          have bv:=bA.out t j htl2;have aY:=hid bv;have cX:Hid (A.length≤64):=cO.out
          have dc:Hid (A'=A ++ [ZBH k t]):=by show _=_; rw [ah.out]; rfl
          clear bv;generalize ZBH k t=ml at *
          obtain ⟨ln,aP⟩:∃ln,ln=ml.length:=⟨_,rfl⟩
          rw [←aP] at aY;have dH:=hid aP;clear aP
          go_wp2_with fail
          refine aY.out.mono ?_;rintro e w3 ⟨uo,uc,rfl,bU,aO⟩;have db:=hid bU;obtain ⟨vs,g1,g2,g3⟩:=V.out.below aO (Za4 _);have bW:Hid (Below f.heap.size f w3):=N.out.trans (aO.mono bk);have bI:f.heap.size≤w3.heap.size:=bW.out.size;have G2:=hid g2
          have F:Hid (∀v' m,m.ownsRow f.heap.size 22 1 v' (A.length+1) (vs ++ [.slice uo ln uc])→(w3.alloc (.cells #[.slice uo ln uc] 22)).grownBy m u9.ownBlock→Fr f.heap.size 22 3 m v' (A ++ [ml])∧Below f.heap.size f m):=fun v' m S n=>⟨Fr.push (e2:=22) (e1:=3) (by decide) g1 (g2.alloc _) (fun i hi=>(g3 i hi).alloc _) (db.out.alloc _) S n,(bW.out.alloc bI _).grown n (by simp; omega) (fun x hx=>(g2.lt x hx).1)⟩
          have dL:=cX.out;clear g1 g2 g3 bU aO aY V
          go_wp2_with (first | (at_builtin; refine wpList_append_own _ rfl _ _ 25 rfl f.heap.size 22 i0 (.slice none 0 0) 1 24 Tryz.underlying25 hi bq bw bK rfl (by decide) _ _ _ rfl (G2.out.alloc _) ⟨w3.heap.size,0,none⟩ 1 1 [.slice uo ln uc] rfl rfl (ZAQ _ _ _) (ZAL _ _ _) ?d3 ?d4 ?d5 ?_))
          case d3=>unfold maxLen; omega
          case d4=>omega
          case d5=>first | omega | (simp; omega)
          intro x6 m S n _;obtain ⟨q1,q2⟩:=F.out x6 m S n
          have R1:Hid (Fr f.heap.size 22 3 m x6 A'):=by show Fr _ _ _ _ _ _; rw [dc.out]; exact q1
          have R2:=hid q2;clear q1 q2 S n F G2;go_wp2
          exact ⟨⟨t+1,by omega,by go_num,by rw [←ai.out]; exact R1.out,R2.out⟩,by simp [intOf]; omega⟩
      ·have dl:((rv:Int) == (q:Int))=false:=by rw [beq_eq_false_iff_ne]; omega
       have dv:((rv:Int) != (q:Int))=true:=by simp; omega
       have R1:Hid (Fr f.heap.size 22 3 w1 u9 A'):=by
        show Fr _ _ _ _ _ _
        rw [ah.out,am.out,decide_eq_false hr]
        simpa using aa.out
       clear hr;go_wp2
       exact ⟨⟨t+1,by omega,by go_num,by rw [←ai.out]; exact R1.out,an.out⟩,by simp [intOf]; omega⟩
    ·have dw:t=E:=by omega
     subst dw;have bQ:=bu.out q u9 D ar.out.mat0;have cq:=hid bQ;clear bQ ar aG bA bu bN aZ bt bJ;have aM:=bS.out;have aV:=bX.out
     go_wp2_with fail
     clear aM aV;refine cq.out.mono ?_;rintro e m ⟨xo,xc,s,rfl,bl,⟨aJ,bM⟩,ak⟩;have cw:=hid bl;have cE:Hid (FlQ d P (q+1) (O ++ s)):=bM O bG.out;have cL:=hid aJ;have dB:s.length≤64:=aJ;have dK:=hid ak;have dC:D.heap.size≤m.heap.size:=ak.size
     have cI:Hid (PfI w.heap.size w m u6 u7 O O.length):=(au.out.low aA (bD.out)).low (by omega) ak
     have bF:Hid ((∀g,u6.ownBlock=some g→g < D.heap.size∨m.heap.size≤g)∧(∀g,u7.ownBlock=some g→g < D.heap.size∨m.heap.size≤g)):=by
      obtain ⟨⟨vs,xs,p1,p2,p3,p4,p5⟩,p6⟩:=au.out
      exact ⟨fun g n=>.inl (by have:=(ZBE p2 g n).2.1; omega),fun g n=>.inl (by have:=(ZBE p5 g n).2.1; omega)⟩
     clear bl bM aJ ak cq;go_wp2
     go_loopw [6,7,16] (fun x y i j=>∃k:Nat,k≤s.length∧i=.int .i64 k∧PfI w.heap.size w j x y (O ++ s.take k) (O.length+k)∧Win D.heap.size m j∧m.heap.size≤j.heap.size∧(∀g,x.ownBlock=some g→g < D.heap.size∨m.heap.size≤g)∧(∀g,y.ownBlock=some g→g < D.heap.size∨m.heap.size≤g)) (fun _ _ i _=>s.length-(intOf i).toNat)
     case atStart=>exact ⟨0,Za5 _,rfl,by simpa using cI.out,fun b _ _=>rfl,Za4 _,bF.out.1,bF.out.2⟩
     case round=>
      obtain ⟨k,hk,rfl,aE,bO,bz,cr,bV⟩:=hrel
      obtain ⟨j,rfl⟩:∃j,j=wr:=⟨_,rfl⟩
      have aN:=hid aE;have aX:=hid bO;have aC:=hid cr;have aL:=hid bV;have aj:=hid bz;have bp:w.heap.size≤j.heap.size:=aE.bel.size;clear aE bO cr bV bz
      by_cases hks:k < s.length
      ·obtain ⟨b,o,dG,cc,bH,ae,ay,ag⟩:=cw.out.win aX.out hks
       simp only [Za3,true_and] at bH;obtain ⟨rfl,rfl⟩:=bH;have bh:Hid (s.take (k+1)=s.take k ++ [s.getD k []]):=ZEi s k hks []
       have cG:Hid ((O ++ s.take k).length=O.length+k):=by
        show _=_
        rw [Zaa4,List.length_take]; omega
       obtain ⟨yo,yc,cR,_,_⟩:=ZAH ay;subst cR;generalize s.getD k []=y at *;generalize s.take k=B at *
       obtain ⟨B',aK⟩:∃B',B'=s.take (k+1):=⟨_,rfl⟩
       rw [←aK] at bh;have cU:=hid aK;clear aK
       obtain ⟨yl,bT⟩:∃yl,yl=y.length:=⟨_,rfl⟩
       rw [←bT] at ae ay ag;have da:=hid ay
       have cD:Hid (0 < y.length→∀a k c,Value.slice yo yl yc=.slice (some a) k c→u7.ownBlock≠some a.block):=fun hp a kk c e e2=>by
        have h1:=ag a kk c e (by omega)
        have h2:=aL.out _ e2;omega
       clear bT ag ay;obtain ⟨⟨vs,xs,p1,p2,p3,p4,p5⟩,p6⟩:=aN.out;have U:=aN.out.ne;have G2:=hid p2
       have F:Hid (∀v' R,R.ownsRow w.heap.size 22 1 v' ((O ++ B).length+1) (vs ++ [.slice yo yl yc])→(j.alloc (.cells #[.slice yo yl yc] 22)).grownBy R u6.ownBlock→PfI w.heap.size w R v' u7 (O ++ B ++ [y]) (O.length+k)):=fun v' R S n=>PfI.pushO bp p6 p1 p2 p3 p4 p5 U da.out cD.out S n
       have dA:(O ++ B).length≤256:=by have:=cG.out; have:=aF.out; omega
       have de:(k:Int) < (s.length:Int):=by omega
       have cg:(0:Int)≤(k:Int):=by omega
       clear p1 p2 p3 p4 p5 p6 U;generalize hOB:O ++ B=OB at *
       go_wp2_with (first | (at_builtin; refine wpList_append_own_at _ rfl _ _ 25 rfl w.heap.size 22 i0 (.slice none 0 0) 1 24 Tryz.underlying25 hi bq bw bK rfl (by decide) _ _ _ rfl (G2.out.alloc _) ⟨j.heap.size,0,none⟩ 1 1 [.slice yo yl yc] rfl rfl (ZAQ _ _ _) (ZAL _ _ _) ?d3 ?d4 ?d5 ?_))
       case d3=>unfold maxLen; omega
       case d4=>omega
       case d5=>first | omega | (simp; omega)
       intro x6 R S n _ L;have aH:Hid (PfI w.heap.size w R x6 u7 (OB ++ [y]) (O.length+k)):=F.out x6 R S n;have du:Hid (Win D.heap.size m R):=aX.out.grown aj.out n aC.out
       have aI:Hid (m.heap.size≤R.heap.size):=by
        have h1:=n.size;rw [size_alloc] at h1;have h2:=aj.out
        show _≤_
        omega
       have cW:Hid (∀g,x6.ownBlock=some g→g < D.heap.size∨m.heap.size≤g):=fun g hgb=>by
        have J:x6.ownBlock=u6.ownBlock∨x6.ownBlock=some (j.heap.size+1):=by simpa using L
        rcases J with h | h
        ·exact aC.out g (by rw [←h]; exact hgb)
        ·rw [h] at hgb
         simp only [Zaa9] at hgb;have:=aj.out;omega
       have aT:w.heap.size≤R.heap.size:=aH.out.bel.size;clear S n L F G2 aX ae aC aj;obtain ⟨⟨dJ,cQ,p1,p2,p3,p4,p5⟩,p6⟩:=aH.out;have U:=aH.out.ne;have G2:=hid p5
       have F:Hid (∀v' w7,w7.ownsRow w.heap.size 3 1 v' (O.length+k+1) (ZAB cQ ++ [.int .i64 (q:Int)])→(R.alloc (.cells #[.int .i64 (q:Int)] 3)).grownBy w7 u7.ownBlock→(v'.ownBlock=u7.ownBlock∨v'.ownBlock=some (R.heap.size+1))→PfI w.heap.size w w7 x6 v' (OB ++ [y]) (O.length+k+1)):=fun v' w7 S n L=>PfI.pushR aT p6 p1 p2 p3 p4 p5 U S n L
       have dz:O.length+k≤512:=by have:=aF.out; omega
       clear p1 p2 p3 p4 p5 p6 U
       go_wp2_with (first | (at_builtin; refine wpList_append_own_at _ rfl _ _ 22 rfl w.heap.size 3 i3 (.int .i64 0) 1 8 Tryz.underlying22 cA bB bC bj rfl (by decide) _ _ _ rfl (G2.out.alloc _) ⟨R.heap.size,0,none⟩ 1 1 [.int .i64 (q:Int)] rfl rfl (ZAQ _ _ _) (ZA2 _) ?d3 ?d4 ?d5 ?_))
       case d3=>unfold maxLen; omega
       case d4=>omega
       case d5=>first | omega | (simp; omega)
       intro y7 w7 S n _ L
       have J:y7.ownBlock=u7.ownBlock∨y7.ownBlock=some (R.heap.size+1):=by simpa using L
       have cC:Hid (PfI w.heap.size w w7 x6 y7 (O ++ B') (O.length+(k+1))):=by
        show PfI _ _ _ _ _ _ _
        rw [bh.out,←List.append_assoc,hOB];exact F.out y7 w7 S n J
       have cT:Hid (Win D.heap.size m w7):=du.out.grown aI.out n aL.out
       have cY:Hid (m.heap.size≤w7.heap.size):=by
        have h1:=n.size;rw [size_alloc] at h1;have h2:=aI.out
        show _≤_
        omega
       have cB:Hid (∀g,y7.ownBlock=some g→g < D.heap.size∨m.heap.size≤g):=fun g hgb=>by
        rcases J with h | h
        ·exact aL.out g (by rw [←h]; exact hgb)
        ·rw [h] at hgb
         simp only [Zaa9] at hgb;have:=aI.out;omega
       clear S n L J F G2 hOB;go_wp2
       exact ⟨⟨k+1,by omega,by go_num,by rw [←cU.out]; exact cC.out,cT.out,cY.out,cW.out,cB.out⟩,by simp [intOf]; omega⟩
      ·have aW:k=s.length:=by omega
       subst aW
       have cZ:Hid (PfI w.heap.size w j u6 u7 (O ++ s) (O ++ s).length):=by
        have:=aN.out;rw [List.take_length] at this;rw [Zaa4];exact this
       have dj:Hid ((O ++ s).length≤64*(q+1)):=by
        show _≤_
        rw [Zaa4];have:=aF.out;have:=cL.out;omega
       go_wp2
       exact ⟨⟨q+1,O ++ s,by omega,by go_num,cE.out,dj.out,cZ.out⟩,by simp [intOf]; omega⟩
  ·have cK:¬(q:Int)≤(d:Int):=by omega
   have cd:Hid (FlQ d P (d+1) O):=by
    have h:=bG.out
    rw [show q=d+1 by omega] at h
    exact h
   obtain ⟨⟨vs,xs,p1,p2,p3,p4,p5⟩,p6⟩:=au.out;have cV:Hid (Fr w.heap.size 22 3 f u6 O):=⟨vs,p1,p2,p3⟩;have cP:=hid p6;clear p1 p2 p3 p4 p5 p6;go_wp2
   refine bodyPost_ret (v:=.tuple #[u6,u7]) (by simp [results,Tryz.results11,go_sem]) rfl ⟨u6,⟨u7,rfl⟩,O,cV.out,cd.out,cP.out⟩
end Go.Proofs.YtgfnmkenpgnllaaGreat
