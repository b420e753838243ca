import Derived.Test.YtkjkfceblmgogaaGreatWyA
import Derived.Lib.TrailingZeros
namespace Go.Proofs.YtkjkfceblmgogaaGreat
open Lin
def rk(c:Nat)(m:List (List Int)):Nat:=(ZAJ c m).length
theorem ZEL(c:Nat)(m w:List (List Int)):∃t,t.Sublist w∧ZAJ c (m ++ w)=ZAJ c m ++ t:=by
 have b:∀(w h:List (List Int)),∃t,t.Sublist w∧w.foldl (fun h r=>if ZA7 c (h ++ [r]) then h ++ [r] else h) h=h ++ t:=by
  intro w
  induction w with
  | nil=>intro h; exact ⟨[],List.Sublist.refl _,by simp⟩
  | cons a w ih=>
   intro h;rw [List.foldl_cons]
   by_cases hf:ZA7 c (h ++ [a])
   ·rw [if_pos hf]
    obtain ⟨t,f,d⟩:=ih (h ++ [a])
    exact ⟨a :: t,f.cons_cons a,by rw [d]; simp⟩
   ·rw [if_neg hf]
    obtain ⟨t,f,d⟩:=ih h;exact ⟨t,f.cons a,d⟩
 unfold ZAJ;rw [List.foldl_append];exact b w _
theorem ZFP(c:Nat)(m:List (List Int)):rk c m≤c:=ZGg c m
theorem ZEM{c:Nat}{m:List (List Int)} : rk c m=c↔∀v:Nat→Int,(∀r∈m,dot c (V r) v=0)→∀i,i < c→v i=0:=by
 have h:=ZCi (ZA4 c m);rw [ZA1] at h;unfold rk;rw [h]
 constructor
 ·intro h v hv
  exact h v fun r hr=>by
   obtain ⟨l,a,rfl⟩:=ZCF.1 hr;exact hv l a
 ·intro h v hv
  exact h v fun r hr=>hv _ (ZCF.2 ⟨r,hr,rfl⟩)
theorem ZEN{c:Nat}{m:List (List Int)}{v:Nat→Int}(hv:∀r∈ZAJ c m,dot c (V r) v=0){r:List Int}(hr:r∈m):dot c (V r) v=0:=by
 have a:=ZA4 c m
 refine ZDQ (a.dep (V r) (ZCF.2 ⟨r,hr,rfl⟩)) fun i hi=>?_
 obtain ⟨l,b,d⟩:=ZCF.1 (ZB0 hi);rw [d];exact hv l b
def ZKl(c:Nat):List (List Int):=(List.range c).map fun i=>(List.range c).map fun j=>if j=i then 1 else 0
theorem ZJf{c:Nat}{v:Nat→Int}(hv:∀r∈ZKl c,dot c (V r) v=0):∀i,i < c→v i=0:=by
 intro i b
 have h:=hv ((List.range c).map fun j=>if j=i then 1 else 0) (List.mem_map.2 ⟨i,List.mem_range.2 b,rfl⟩)
 unfold dot at h
 rw [ZAs (k:=i) b (fun a ha hne=>by simp [V,ha,hne])] at h
 simpa [V,b] using h
theorem ZKm(c:Nat)(m:List (List Int)):∃w:List (List Int),w.length+rk c m=c∧∀v:Nat→Int,(∀r∈m,dot c (V r) v=0)→(∀r∈w,dot c (V r) v=0)→∀i,i < c→v i=0:=by
 obtain ⟨t,f,d⟩:=ZEL c m (ZKl c)
 have b:rk c (m ++ ZKl c)=c:=ZEM.2 fun v hv=>ZJf fun r hr=>hv r (List.mem_append_right _ hr)
 unfold rk at b;have a:=b;rw [d,Zaa4] at a
 refine ⟨t,by unfold rk; omega,fun v h1 h2=>?_⟩
 refine ZEM.1 b v fun r hr=>ZEN (fun q hq=>?_) hr
 rw [d] at hq
 rcases List.mem_append.1 hq with hq | hq
 ·exact h1 q (ZBU hq)
 ·exact h2 q hq
theorem ZIr(c:Nat)(m w:List (List Int)):rk c (m ++ w)≤rk c m+w.length:=by
 obtain ⟨t,a,b⟩:=ZEL c m w;unfold rk;rw [b,Zaa4];have:=a.length_le;omega
theorem ZHs{c:Nat}{L L':List (List Int)}(h:∀v:Nat→Int,(∀r∈L',dot c (V r) v=0)→∀r∈L,dot c (V r) v=0):rk c L≤rk c L':=by
 obtain ⟨w,f,d⟩:=ZKm c L
 refine Za6 fun hn=>?_
 have a:=ZIr c L' w
 have b:¬rk c (L' ++ w)=c:=by omega
 refine b (ZEM.2 fun v hv=>d v (h v fun r a=>hv r (List.mem_append_left _ a)) fun r a=>hv r (List.mem_append_right _ a))
theorem ZPJ{c:Nat}{A B:List (List Int)}(hs:∀x∈A,x∈B){v:Nat→Int}(hv:∀x∈A,dot c (V x) v=0){b:List Int}(hb:b∈B)(hbv:dot c (V b) v≠0):rk c A < rk c B:=by
 obtain ⟨t,g,d⟩:=ZEL c A [b]
 have f:rk c (A ++ [b])≤rk c B:=ZHs fun u hu r hr=>by
  rcases List.mem_append.1 hr with hr | hr
  ·exact hu r (hs r hr)
  ·rw [List.mem_singleton.1 hr]; exact hu b hb
 cases t with
 | nil=>
  exact absurd (ZEN (c:=c) (m:=A ++ [b]) (v:=v) (fun q hq=>by
   rw [d,List.append_nil] at hq
   exact hv q (ZBU hq)) (r:=b) (by simp)) hbv
 | cons a t=>
  unfold rk at f ⊢;rw [d,Zaa4,List.length_cons] at f;omega
theorem ZPK{c:Nat}{L L':List (List Int)}(h:∀v:Nat→Int,(∀r∈L',dot c (V r) v=0)↔∀r∈L,dot c (V r) v=0):rk c L=rk c L':=
 Nat.le_antisymm (ZHs fun v=>(h v).1) (ZHs fun v=>(h v).2)
theorem ZQh(c:Nat)(m:List (List Int)):rk c m≤m.length:=by
 have:=ZIr c [] m
 simpa [rk,ZAJ] using this
theorem ZPL{c:Nat}{m:List (List Int)}{p:List Int} : rk c (m ++ [p])=rk c m↔∀v:Nat→Int,(∀r∈m,dot c (V r) v=0)→dot c (V p) v=0:=by
 constructor
 ·intro h v hv
  refine Za6 fun hne=>?_
  have:=ZPJ (A:=m) (B:=m ++ [p]) (fun x hx=>List.mem_append_left _ hx) hv (b:=p) (by simp) hne
  omega
 ·intro h
  refine ZPK fun v=>⟨fun hv r hr=>?_,fun hv r hr=>hv r (List.mem_append_left _ hr)⟩
  rcases List.mem_append.1 hr with hr | hr
  ·exact hv r hr
  ·rw [List.mem_singleton.1 hr]; exact h v hv
theorem ZCb(d:Nat)(a v:Nat→Int):dot (d+1) a v=dot d a v+a d*v d:=rfl
theorem ZKn(d:Nat)(s r:Int)(a x y:Nat→Int):dot d a (fun k=>s*x k+r*y k)=s*dot d a x+r*dot d a y:=by
 rw [ZAU,ZBI,ZAU d x,ZAU d y]
theorem ZKo(d:Nat)(m:List (List Int)):rk d m≤rk (d+1) m:=by
 obtain ⟨w,n,g⟩:=ZKm d m
 have e:rk (d+1) (m ++ (w.map (List.take d) ++ [(List.range (d+1)).map fun j=>if j=d then 1 else 0]))=d+1:=by
  refine ZEM.2 fun v hv=>?_
  have b:v d=0:=by
   have:=hv ((List.range (d+1)).map fun j=>if j=d then 1 else 0) (by simp)
   unfold dot at this
   rw [ZAs (k:=d) (by omega) (fun a ha hne=>by simp [V,ha,hne])] at this
   simpa [V] using this
  have l:∀i,i < d→v i=0:=g v (fun r hr=>by
   have:=hv r (List.mem_append_left _ hr);rw [ZCb,b] at this
   omega) (fun r hr=>by
   have:=hv (r.take d) (by simp only [List.mem_append,List.mem_map]; exact .inr (.inl ⟨r,hr,rfl⟩))
   rw [ZCb,b] at this
   have e:dot d (V (r.take d)) v=dot d (V r) v:=ZAa (fun i f=>by simp [V,Zaa5 f]) fun _ _=>rfl
   rw [e] at this;omega)
  intro i f
  by_cases q:i=d
  ·subst q; exact b
  ·exact l i (by omega)
 have c:=ZIr (d+1) m (w.map (List.take d) ++ [(List.range (d+1)).map fun j=>if j=d then 1 else 0])
 rw [e] at c;simp at c;omega
theorem ZPM{d:Nat}{m:List (List Int)} : rk d m=rk (d+1) m↔∃v:Nat→Int,(∀r∈m,dot (d+1) (V r) v=0)∧v d≠0:=by
 constructor
 ·intro h
  refine Za6 fun hn=>?_
  have o:∀v:Nat→Int,(∀r∈m,dot (d+1) (V r) v=0)→v d=0:=fun v hv=>Za6 fun a=>hn ⟨v,hv,a⟩
  obtain ⟨w,s,n⟩:=ZKm d m
  have e:rk (d+1) (m ++ w)=d+1:=by
   refine ZEM.2 fun v hv=>?_
   have c:=o v fun r hr=>hv r (List.mem_append_left _ hr)
   have g:∀i,i < d→v i=0:=n v (fun r hr=>by
    have:=hv r (List.mem_append_left _ hr);rw [ZCb,c] at this
    omega) (fun r hr=>by
    have:=hv r (List.mem_append_right _ hr);rw [ZCb,c] at this;omega)
   intro i t
   by_cases q:i=d
   ·subst q; exact c
   ·exact g i (by omega)
  have:=ZIr (d+1) m w;omega
 ·rintro ⟨b,f,a⟩
  refine Nat.le_antisymm (ZKo d m) ?_
  have g:rk (d+1) m≤rk (d+1) (ZAJ d m):=ZHs fun v hv r hr=>by
   have l:dot (d+1) (V r) (fun k=>b d*v k+(- v d)*b k)=0:=by
    have c:b d*v d+(- v d)*b d=0:=by grind
    rw [ZCb,c,Int.mul_zero,Int.add_zero]
    refine ZEN (m:=m) (fun q hq=>?_) hr
    have:=hv q hq;have p:=f q (ZBU hq)
    have j:dot (d+1) (V q) (fun k=>b d*v k+(- v d)*b k)=0:=by rw [ZKn,this,p]; simp
    rw [ZCb,c,Int.mul_zero,Int.add_zero] at j;exact j
   rw [ZKn,f r hr,Int.mul_zero,Int.add_zero] at l
   rcases Int.mul_eq_zero.1 l with q | q
   ·exact absurd q a
   ·exact q
  exact Zaa8 g (ZQh _ _)
def mkS(f:Nat→Bool):Nat→Nat
 | 0=>0
 | n+1=>mkS f n+if f n then 2 ^ n else 0
theorem ZKp(f:Nat→Bool):∀n,mkS f n < 2 ^ n
 | 0=>by simp [mkS]
 | n+1=>by
  have:=ZKp f n;rw [mkS,Nat.pow_succ]
  split <;> omega
theorem ZHt(f:Nat→Bool):∀n i,(mkS f n).testBit i=(decide (i < n) && f i)
 | 0,i=>by simp [mkS]
 | n+1,i=>by
  rw [mkS];have hl:=ZKp f n
  by_cases h:f n=true
  ·rw [if_pos h,Nat.add_comm]
   by_cases e:i=n
   ·subst e
    rw [Nat.testBit_two_pow_add_eq];have:(mkS f i).testBit i=false:=Nat.testBit_lt_two_pow hl;simp [this,h]
   ·by_cases q:i < n
    ·rw [Nat.testBit_two_pow_add_gt q,ZHt f n i]
     simp [q]; omega
    ·have:(2 ^ n+mkS f n).testBit i=false:=Nat.testBit_lt_two_pow (by
      have h1:2 ^ (n+1)≤2 ^ i:=Nat.pow_le_pow_right (by decide) (by omega)
      rw [Nat.pow_succ] at h1;omega)
     rw [this];simp; omega
  ·rw [if_neg h,Nat.add_zero,ZHt f n i]
   by_cases e:i=n
   ·subst e; simp [h]
   ·have:(i < n+1)=(i < n):=by simp; omega
    simp [this]
def sg(s:Nat):Int:=(List.range 6).foldl (fun a i=>if s.testBit i then -a else a) 1
def whB:Bool:=(List.range 7).all fun n=>(List.range (2 ^ n)).all fun F=>sumN (2 ^ n) (fun s=>if s &&& F=s then sg s else 0) == if F=0 then 1 else 0
theorem ZRX:whB=true:=by decide +kernel
theorem ZPN{n F:Nat}(hn:n≤6)(hF:F < 2 ^ n):sumN (2 ^ n) (fun s=>if s &&& F=s then sg s else 0)=if F=0 then 1 else 0:=by
 have b:=List.all_eq_true.1 ZRX n (List.mem_range.2 (by omega))
 have a:=List.all_eq_true.1 b F (List.mem_range.2 hF);exact eq_of_beq a
theorem ZCo{s t:Nat} : s &&& t=s↔∀i,s.testBit i=true→t.testBit i=true:=by
 constructor
 ·intro h i a
  rw [←h,Nat.testBit_and] at a;simp at a;exact a.2
 ·intro h
  apply Nat.eq_of_testBit_eq
  intro i;rw [Nat.testBit_and]
  cases hs:s.testBit i
  ·rfl
  ·simp [h i hs]
theorem ZFQ{n s i:Nat}(hs:s < 2 ^ n)(hi:s.testBit i=true):i < n:=by
 refine Za6 fun h=>?_
 have:s.testBit i=false:=Nat.testBit_lt_two_pow (Nat.lt_of_lt_of_le hs (Nat.pow_le_pow_right (by decide) (by omega)))
 rw [this] at hi
 cases hi
def plS(P:List (List Int))(s:Nat):List (List Int):=((List.range P.length).filter fun i=>s.testBit i).map fun i=>P.getD i []
theorem ZCp{P:List (List Int)}{s:Nat}{r:List Int} : r∈plS P s↔∃i,i < P.length∧s.testBit i=true∧r=P.getD i []:=by
 simp only [plS,List.mem_map,List.mem_filter,List.mem_range]
 exact ⟨fun ⟨i,⟨h1,h2⟩,h3⟩=>⟨i,h1,h2,h3.symm⟩,fun ⟨i,h1,h2,h3⟩=>⟨i,⟨h1,h2⟩,h3.symm⟩⟩
def Zr(d:Nat)(P:List (List Int))(s:Nat)(v:Nat→Int):Prop:=∀i,i < P.length→s.testBit i=true→dot (d+1) (V (P.getD i [])) v=0
theorem ZDA{d:Nat}{P:List (List Int)}{s:Nat}{v:Nat→Int} : Zr d P s v↔∀r∈plS P s,dot (d+1) (V r) v=0:=
 ⟨fun h r hr=>by obtain ⟨i,b,a,rfl⟩:=ZCp.1 hr; exact h i b a,fun h i b a=>h _ (ZCp.2 ⟨i,b,a,rfl⟩)⟩
def rS(d:Nat)(P:List (List Int))(s:Nat):Nat:=rk (d+1) (plS P s)
def cen(d:Nat)(P:List (List Int))(s:Nat):Bool:=rk d (plS P s) == rk (d+1) (plS P s)
theorem ZCq{d:Nat}{P:List (List Int)}{s:Nat} : cen d P s=true↔∃v,Zr d P s v∧v d≠0:=by
 unfold cen;rw [beq_iff_eq,ZPM]
 exact ⟨fun ⟨v,h1,h2⟩=>⟨v,ZDA.2 h1,h2⟩,fun ⟨v,h1,h2⟩=>⟨v,ZDA.1 h1,h2⟩⟩
def thr(d:Nat)(P:List (List Int))(s i:Nat):Bool:=rk (d+1) (plS P s ++ [P.getD i []]) == rk (d+1) (plS P s)
theorem ZB5{d:Nat}{P:List (List Int)}{s i:Nat} : thr d P s i=true↔∀v,Zr d P s v→dot (d+1) (V (P.getD i [])) v=0:=by
 unfold thr;rw [beq_iff_eq,ZPL]
 exact ⟨fun h v hv=>h v (ZDA.1 hv),fun h v hv=>h v (ZDA.2 hv)⟩
def clS(d:Nat)(P:List (List Int))(s:Nat):Nat:=mkS (thr d P s) P.length
theorem ZQi(d:Nat)(P:List (List Int))(s:Nat):clS d P s < 2 ^ P.length:=ZKp _ _
theorem ZGn{d:Nat}{P:List (List Int)}{s i:Nat} : (clS d P s).testBit i=true↔i < P.length∧thr d P s i=true:=by
 unfold clS;rw [ZHt];simp
def flB(d:Nat)(P:List (List Int))(s:Nat):Bool:=cen d P s && (List.range P.length).all fun i=>s.testBit i || !thr d P s i
theorem ZDB{d:Nat}{P:List (List Int)}{s:Nat} : flB d P s=true↔cen d P s=true∧∀i,i < P.length→thr d P s i=true→s.testBit i=true:=by
 unfold flB;rw [Bool.and_eq_true,List.all_eq_true]
 constructor
 ·rintro ⟨b,a⟩
  refine ⟨b,fun i hi ht=>?_⟩
  have:=a i (List.mem_range.2 hi)
  simpa [ht] using this
 ·rintro ⟨b,a⟩
  refine ⟨b,fun i hi=>?_⟩
  cases ht:thr d P s i
  ·simp
  ·simp [a i (List.mem_range.1 hi) ht]
theorem ZKq{d:Nat}{P:List (List Int)}{s i:Nat}(hi:i < P.length)(h:s.testBit i=true):thr d P s i=true:=ZB5.2 fun _ hv=>hv i hi h
theorem ZNE{d:Nat}{P:List (List Int)}{s:Nat}{v:Nat→Int} : Zr d P (clS d P s) v↔Zr d P s v:=
 ⟨fun h i hi hb=>h i hi (ZGn.2 ⟨hi,ZKq hi hb⟩),fun h _ _ hb=>ZB5.1 (ZGn.1 hb).2 v h⟩
theorem ZNF{d:Nat}{P:List (List Int)}{s t:Nat}(h:∀v,Zr d P t v→Zr d P s v):rS d P s≤rS d P t:=
 ZHs fun v hv=>ZDA.1 (h v (ZDA.2 hv))
theorem ZRY{d:Nat}{P:List (List Int)}{s:Nat} : rS d P (clS d P s)=rS d P s:=
 Nat.le_antisymm (ZNF fun _ hv=>ZNE.2 hv) (ZNF fun _ hv=>ZNE.1 hv)
theorem ZOY{d:Nat}{P:List (List Int)}{s t:Nat}{v:Nat→Int}(h:∀i,s.testBit i=true→t.testBit i=true)(hv:Zr d P t v):Zr d P s v:=fun i hi hb=>hv i hi (h i hb)
theorem ZKr{d:Nat}{P:List (List Int)}{s:Nat}(h:cen d P s=true):flB d P (clS d P s)=true:=by
 obtain ⟨v,b,a⟩:=ZCq.1 h
 refine ZDB.2 ⟨ZCq.2 ⟨v,ZNE.2 b,a⟩,fun i hi ht=>ZGn.2 ⟨hi,ZB5.2 fun u hu=>ZB5.1 ht u (ZNE.2 hu)⟩⟩
theorem ZOZ{d:Nat}{P:List (List Int)}{s F:Nat}(h:flB d P F=true)(hs:∀i,s.testBit i=true→F.testBit i=true):cen d P s=true∧∀i,(clS d P s).testBit i=true→F.testBit i=true:=by
 obtain ⟨c,a⟩:=ZDB.1 h;obtain ⟨v,b,g⟩:=ZCq.1 c
 refine ⟨ZCq.2 ⟨v,ZOY hs b,g⟩,fun i hi=>?_⟩
 obtain ⟨j,f⟩:=ZGn.1 hi
 exact a i j (ZB5.2 fun u hu=>ZB5.1 f u (ZOY hs hu))
theorem ZPO{d:Nat}{P:List (List Int)}{F G:Nat}(hF:flB d P F=true)(hG:G < 2 ^ P.length)(hs:∀i,F.testBit i=true→G.testBit i=true)(hr:rS d P G≤rS d P F):F=G:=by
 apply Nat.eq_of_testBit_eq
 intro i;rw [Bool.eq_iff_iff]
 refine ⟨hs i,fun hb=>(ZDB.1 hF).2 i (ZFQ hG hb) (ZB5.2 fun v hv=>Za6 fun hne=>?_)⟩
 have:=ZPJ (c:=d+1) (A:=plS P F) (B:=plS P G) (v:=v) (fun x hx=>by
  obtain ⟨k,g,f,a⟩:=ZCp.1 hx;exact ZCp.2 ⟨k,g,hs k f,a⟩) (ZDA.1 hv) (b:=P.getD i []) (ZCp.2 ⟨i,ZFQ hG hb,hb,rfl⟩) hne
 unfold rS at hr;omega
def wf(d:Nat)(P:List (List Int))(F:Nat):Int:=sumN (2 ^ P.length) fun s=>if cen d P s=true∧clS d P s=F then sg s else 0
theorem ZNG{d:Nat}{P:List (List Int)}(g:Nat→Int) :
  (sumN (2 ^ P.length) fun F=>if flB d P F=true then wf d P F*g (rS d P F) else 0)=sumN (2 ^ P.length) fun s=>if cen d P s=true then sg s*g (rS d P s) else 0:=by
 have a:(sumN (2 ^ P.length) fun F=>if flB d P F=true then wf d P F*g (rS d P F) else 0)=sumN (2 ^ P.length) fun F=>sumN (2 ^ P.length) fun s=>if cen d P s=true∧clS d P s=F then sg s*g (rS d P s) else 0:=by
  refine ZAC fun F hF=>?_
  by_cases hf:flB d P F=true
  ·rw [if_pos hf,wf,←ZAT]
   refine ZAC fun s _=>?_
   by_cases hc:cen d P s=true∧clS d P s=F
   ·rw [if_pos hc,if_pos hc,←hc.2,ZRY]
   ·rw [if_neg hc,if_neg hc,Int.zero_mul]
  ·rw [if_neg hf]
   refine (ZAd fun s _=>?_).symm
   refine if_neg fun ⟨h1,h2⟩=>hf ?_
   rw [←h2];exact ZKr h1
 rw [a,ZBS]
 refine ZAC fun s _=>?_
 rw [ZAs (k:=clS d P s) (ZQi d P s) (fun F _ hne=>if_neg fun ⟨_,h⟩=>hne h.symm)]
 by_cases hc:cen d P s=true
 ·rw [if_pos ⟨hc,rfl⟩,if_pos hc]
 ·rw [if_neg fun h=>hc h.1,if_neg hc]
theorem ZKs{d:Nat}{P:List (List Int)}{F:Nat}(hn:P.length≤6)(hf:flB d P F=true)(hF:F < 2 ^ P.length) :
  (sumN (2 ^ P.length) fun G=>if flB d P G=true∧G &&& F=G then wf d P G else 0)=if F=0 then 1 else 0:=by
 rw [←ZPN hn hF]
 have g:(sumN (2 ^ P.length) fun G=>if flB d P G=true∧G &&& F=G then wf d P G else 0)=sumN (2 ^ P.length) fun G=>sumN (2 ^ P.length) fun s=>if s &&& F=s∧clS d P s=G then sg s else 0:=by
  refine ZAC fun G hG=>?_
  by_cases hc:flB d P G=true∧G &&& F=G
  ·rw [if_pos hc,wf]
   refine ZAC fun s hs=>?_
   by_cases h1:clS d P s=G
   ·have f:∀i,s.testBit i=true→G.testBit i=true:=fun i hi=>by
     rw [←h1]; exact ZGn.2 ⟨ZFQ hs hi,ZKq (ZFQ hs hi) hi⟩
    have c:s &&& F=s:=ZCo.2 fun i hi=>ZCo.1 hc.2 i (f i hi)
    rw [if_pos ⟨(ZOZ hf (ZCo.1 c)).1,h1⟩,if_pos ⟨c,h1⟩]
   ·rw [if_neg fun h=>h1 h.2,if_neg fun h=>h1 h.2]
  ·rw [if_neg hc]
   refine (ZAd fun s _=>if_neg fun ⟨h1,h2⟩=>hc ?_).symm
   obtain ⟨a,b⟩:=ZOZ hf (ZCo.1 h1);rw [←h2];exact ⟨ZKr a,ZCo.2 b⟩
 rw [g,ZBS]
 refine ZAC fun s _=>?_
 rw [ZAs (k:=clS d P s) (ZQi d P s) (fun G _ hne=>if_neg fun ⟨_,h⟩=>hne h.symm)]
 by_cases hc:s &&& F=s
 ·rw [if_pos ⟨hc,rfl⟩,if_pos hc]
 ·rw [if_neg fun h=>hc h.1,if_neg hc]
theorem ZDC{d:Nat}{P:List (List Int)}(h1:∀i,i < P.length→∃j,j < d∧V (P.getD i []) j≠0):flB d P 0=true:=by
 refine ZDB.2 ⟨ZCq.2 ⟨fun _=>1,fun i _ h=>by simp at h,by simp⟩,fun i hi ht=>?_⟩
 obtain ⟨j,c,b⟩:=h1 i hi
 have:=ZB5.1 ht (fun k=>if k=j then 1 else 0) (fun k _ h=>by simp at h)
 unfold dot at this
 rw [ZAs (k:=j) (by omega) (fun a _ hx=>by simp [hx])] at this
 simp at this;exact absurd this b
theorem ZPP{d:Nat}{P:List (List Int)}{s:Nat}(h1:∀i,i < P.length→∃j,j < d∧V (P.getD i []) j≠0)(hs:s < 2 ^ P.length)(h0:rS d P s=0):s=0:=by
 apply Nat.eq_of_testBit_eq
 intro i;rw [Nat.zero_testBit]
 refine Bool.eq_false_iff.2 fun hb=>?_
 obtain ⟨j,l,f⟩:=h1 i (ZFQ hs hb)
 have g:=ZPJ (c:=d+1) (A:=[]) (B:=plS P s) (v:=fun k=>if k=j then 1 else 0) (fun x hx=>absurd hx (by simp)) (fun x hx=>absurd hx (by simp)) (b:=P.getD i []) (ZCp.2 ⟨i,ZFQ hs hb,hb,rfl⟩) (by
  unfold dot
  rw [ZAs (k:=j) (by omega) (fun a _ hx=>by simp [hx])]
  simpa using f)
 unfold rS at h0;omega
theorem ZPQ{d:Nat}{P:List (List Int)}(hn:P.length≤6)(h1:∀i,i < P.length→∃j,j < d∧V (P.getD i []) j≠0):wf d P 0=1:=by
 have h:=ZKs hn (ZDC h1) (Nat.pow_pos (by decide))
 rw [if_pos rfl,ZAs (k:=0) (Nat.pow_pos (by decide)) (fun G _ hne=>if_neg fun ⟨_,hg⟩=>hne (by simpa using hg.symm))] at h
 rw [if_pos ⟨ZDC h1,by simp⟩] at h
 exact h
end Go.Proofs.YtkjkfceblmgogaaGreat
namespace Go.Proofs.YtkjkfceblmgogaaGreat
open Go.RowKit
def ZA5:List Int→Nat
 | []=>0
 | v :: l=>2 ^ v.toNat ||| ZA5 l
def B64(l:List Int):Prop:=∀x∈l,0≤x∧x≤63
theorem B64.tail{v:Int}{l:List Int}(h:B64 (v :: l)):B64 l:=fun x hx=>h x (by simp [hx])
theorem ZKt:∀(l:List Int),B64 l→ZA5 l < 2 ^ 64
 | [],_=>by simp [ZA5]
 | v :: l,h=>by
  have hv:=h v (by simp)
  exact Nat.or_lt_two_pow (Nat.pow_lt_pow_right (by omega) (by omega)) (ZKt l h.tail)
theorem ZEO:∀(a b:List Int),ZA5 (a ++ b)=ZA5 a ||| ZA5 b
 | [],b=>by simp [ZA5]
 | v :: a,b=>by simp only [List.cons_append,ZA5]; rw [ZEO a b,Nat.or_assoc]
def ZPR(a b:Nat):Nat:=a ^^^ (a &&& b)
theorem ZFw(a b i:Nat):(ZPR a b).testBit i=((a.testBit i) && !(b.testBit i)):=by
 unfold ZPR;rw [Nat.testBit_xor,Nat.testBit_and]
 cases a.testBit i <;> cases b.testBit i <;> rfl
theorem ZPS(a b:Nat)(ha:a < 2 ^ 64):ZPR a b < 2 ^ 64:=Nat.xor_lt_two_pow ha (Nat.lt_of_le_of_lt Nat.and_le_left ha)
theorem ZCr(a b:Nat)(ha:a < 18446744073709551616)(hb:b < 18446744073709551616) :
  bits .andNot .u64 (a:Int) (b:Int)=((ZPR a b:Nat):Int):=by
 have c:(BitVec.ofInt 64 (a:Int)).toNat=a:=by
  rw [BitVec.ofInt_natCast,BitVec.toNat_ofNat]; exact Nat.mod_eq_of_lt (by omega)
 have g:(BitVec.ofInt 64 (b:Int)).toNat=b:=by
  rw [BitVec.ofInt_natCast,BitVec.toNat_ofNat]; exact Nat.mod_eq_of_lt (by omega)
 show IntKind.u64.wrap ((BitVec.ofInt 64 (a:Int) &&& ~~~ BitVec.ofInt 64 (b:Int)).toNat:Int)=_
 have f:(BitVec.ofInt 64 (a:Int) &&& ~~~ BitVec.ofInt 64 (b:Int)).toNat=ZPR a b:=by
  apply Nat.eq_of_testBit_eq
  intro i;rw [ZFw]
  by_cases hi:i < 64
  ·rw [BitVec.toNat_and,Nat.testBit_and,c]
   have:(~~~ BitVec.ofInt 64 (b:Int)).toNat.testBit i=!(b.testBit i):=by
    rw [BitVec.testBit_toNat,BitVec.getLsbD_not,←BitVec.testBit_toNat,g];simp [hi]
   rw [this]
  ·have d:a.testBit i=false:=Nat.testBit_lt_two_pow (Nat.lt_of_lt_of_le ha (Zaa8 (by decide:18446744073709551616≤2 ^ 64) (Nat.pow_le_pow_right (by omega) (by omega))))
   rw [BitVec.toNat_and,Nat.testBit_and,c,d];rfl
 rw [f,IntKind.wrap_u64]
 have:=ZPS a b (by simpa using ha)
 omega
end Go.Proofs.YtkjkfceblmgogaaGreat
namespace Go.Proofs.YtkjkfceblmgogaaGreat
open Lin
def ZBH(n s:Nat):List Int:=((List.range n).filter fun i=>s.testBit i).map fun (i:Nat)=>(i:Int)
def ZDX(n:Nat):List (List Int):=(List.range (n+1)).flatMap fun k=>ext n k 0
def xtB:Bool:=(List.range 7).all fun n=>((ZDX n).all fun c=>decide (ZA5 c < 2 ^ n) && (c == ZBH n (ZA5 c)) && c.all fun z=>decide (0≤z) && decide (z < n)) && ((List.range (2 ^ n)).all fun s=>(ZDX n).contains (ZBH n s) && (ZA5 (ZBH n s) == s)) && decide ((ZDX n).map ZA5).Nodup
theorem ZRZ:xtB=true:=by decide +kernel
theorem ZBl{n:Nat}(hn:n≤6):(∀c∈ZDX n,ZA5 c < 2 ^ n∧c=ZBH n (ZA5 c)∧∀z∈c,0≤z∧z < n)∧(∀s,s < 2 ^ n→ZBH n s∈ZDX n∧ZA5 (ZBH n s)=s)∧((ZDX n).map ZA5).Nodup:=by
 have h:=List.all_eq_true.1 ZRZ n (List.mem_range.2 (by omega))
 simp only [Bool.and_eq_true,List.all_eq_true,decide_eq_true_eq,beq_iff_eq,List.mem_range,List.contains_iff_mem] at h;obtain ⟨⟨a,b⟩,d⟩:=h
 exact ⟨fun c hc=>⟨(a c hc).1.1,(a c hc).1.2,(a c hc).2⟩,b,d⟩
theorem ZNH{n k:Nat}{c:List Int}(hk:k≤n)(h:c∈ext n k 0):c∈ZDX n:=List.mem_flatMap.2 ⟨k,List.mem_range.2 (by omega),h⟩
theorem ZKu{P:List (List Int)}(hn:P.length≤6){c:List Int}(h:c∈ZDX P.length):pks P [] c=plS P (ZA5 c):=by
 have:=((ZBl hn).1 c h).2.1;unfold pks plS
 conv=>lhs; rw [this]
 unfold ZBH;rw [List.map_map];rfl
theorem ZPT{n:Nat}(hn:n≤6){c:List Int}(h:c∈ZDX n){i:Nat}(hi:i < n):c.contains (i:Int)=(ZA5 c).testBit i:=by
 rw [Bool.eq_iff_iff,List.contains_iff_mem];have:=((ZBl hn).1 c h).2.1
 constructor
 ·intro a
  rw [this] at a;simp only [ZBH,List.mem_map,List.mem_filter,List.mem_range] at a;obtain ⟨j,⟨f,d⟩,g⟩:=a
  have:j=i:=by omega
  subst this;exact d
 ·intro b
  rw [this];exact List.mem_map.2 ⟨i,List.mem_filter.2 ⟨List.mem_range.2 hi,b⟩,rfl⟩
def flU(d:Nat)(P:List (List Int))(cs:List (List Int)):List (List Int×Nat):=(cs.filter fun c=>flB d P (ZA5 c)).map fun c=>(c,rk d (pks P [] c))
theorem ZPU(d:Nat)(P:List (List Int))(a b:List (List Int)):flU d P (a ++ b)=flU d P a ++ flU d P b:=by simp [flU]
theorem ZPV(d:Nat)(P:List (List Int))(c:List Int):flU d P [c]=if flB d P (ZA5 c) then [(c,rk d (pks P [] c))] else []:=by
 unfold flU
 by_cases h:flB d P (ZA5 c)=true
 ·simp [h]
 ·simp [h]
theorem ZKv(d:Nat)(P:List (List Int))(cs:List (List Int)):(flU d P cs).length≤cs.length:=by
 unfold flU;rw [Zab1];exact List.length_filter_le _ _
structure FlS(d:Nat)(P:List (List Int))(m:List (List Int×Nat)):Prop where
 perm:m.Perm (flU d P (ZDX P.length))
 ord:∀i j,i < j→j < m.length→(m.getD i ([],0)).2≤(m.getD j ([],0)).2
def msk(m:List (List Int×Nat)):List Nat:=m.map fun x=>ZA5 x.1
theorem ZGo{d:Nat}{P:List (List Int)}{s:Nat}(h:cen d P s=true):rk d (plS P s)=rS d P s:=by
 unfold cen at h;exact eq_of_beq h
theorem FlS.mem{d:Nat}{P:List (List Int)}{m:List (List Int×Nat)}(h:FlS d P m)(hn:P.length≤6){x:List Int×Nat}(hx:x∈m):x.1∈ZDX P.length∧flB d P (ZA5 x.1)=true∧x.2=rS d P (ZA5 x.1)∧ZA5 x.1 < 2 ^ P.length:=by
 have:=h.perm.mem_iff.1 hx;simp only [flU,List.mem_map,List.mem_filter] at this;obtain ⟨c,⟨a,b⟩,rfl⟩:=this;refine ⟨a,b,?_,((ZBl hn).1 c a).1⟩
 show rk d (pks P [] c)=_
 rw [ZKu hn a,ZGo (ZDB.1 b).1]
theorem FlS.nodup{d:Nat}{P:List (List Int)}{m:List (List Int×Nat)}(h:FlS d P m)(hn:P.length≤6):(msk m).Nodup:=by
 have a:(msk m).Perm (msk (flU d P (ZDX P.length))):=h.perm.map _;refine a.nodup_iff.2 ?_
 have e:msk (flU d P (ZDX P.length))=((ZDX P.length).filter fun c=>flB d P (ZA5 c)).map ZA5:=by
  unfold msk flU;rw [List.map_map];rfl
 rw [e];exact List.Nodup.sublist (List.filter_sublist.map ZA5) (ZBl hn).2.2
theorem FlS.iff{d:Nat}{P:List (List Int)}{m:List (List Int×Nat)}(h:FlS d P m)(hn:P.length≤6){s:Nat}(hs:s < 2 ^ P.length):s∈msk m↔flB d P s=true:=by
 constructor
 ·intro f
  obtain ⟨x,c,rfl⟩:=List.mem_map.1 f;exact (h.mem hn c).2.1
 ·intro g
  obtain ⟨b,a⟩:=(ZBl hn).2.1 s hs;refine List.mem_map.2 ⟨(ZBH P.length s,rk d (pks P [] (ZBH P.length s))),h.perm.mem_iff.2 ?_,a⟩
  exact List.mem_map.2 ⟨_,List.mem_filter.2 ⟨b,by rw [a]; exact g⟩,rfl⟩
theorem ZEP{N:Nat}(f:Nat→Int):∀(l:List Nat),l.Nodup→(∀x∈l,x < N)→(l.map f).sum=sumN N fun x=>if x∈l then f x else 0
 | [],_,_=>by
  rw [ZAd fun x _=>by simp]
  rfl
 | a :: l,hn,hl=>by
  rw [List.map_cons,List.sum_cons,ZEP f l (List.nodup_cons.1 hn).2 fun x hx=>hl x (List.mem_cons_of_mem _ hx)]
  have e1:f a=sumN N fun x=>if x=a then f x else 0:=by
   rw [ZAs (k:=a) (hl a (by simp)) (fun x _ hne=>by simp [hne])]
   simp
  conv=>lhs; rw [e1]
  rw [←ZA9]
  refine ZAC fun x _=>?_
  by_cases hx:x=a
  ·subst hx
   simp [(List.nodup_cons.1 hn).1]
  ·simp [hx]
def moS(d:Nat)(P:List (List Int))(M:List Nat)(F:Nat):Int:=(M.map fun x=>if x &&& F=x then wf d P x else 0).sum
theorem FlS.moe{d:Nat}{P:List (List Int)}{m:List (List Int×Nat)}(h:FlS d P m)(hn:P.length≤6){k:Nat}(hk:k < m.length)(hr:(m.getD k ([],0)).2≠0) :
  - moS d P ((msk m).take k) (ZA5 (m.getD k ([],0)).1)=wf d P (ZA5 (m.getD k ([],0)).1):=by
 have E:m.getD k ([],0)∈m:=by simp [hk]
 obtain ⟨U,v,J,r⟩:=h.mem hn E;have g:=h.nodup hn
 obtain ⟨F,t⟩:∃F,F=ZA5 (m.getD k ([],0)).1:=⟨_,rfl⟩
 have A:(msk m).getD k 0=F:=by rw [t]; simp [msk,hk]
 rw [←t] at v J r ⊢
 have B:F≠0:=fun e=>by
  rw [J,e] at hr;refine hr ?_
  have:plS P 0=[]:=by simp [plS]
  unfold rS;rw [this];rfl
 have M:=ZKs (d:=d) hn v r;rw [if_neg B] at M
 have n:∀x∈(msk m).take k,x < 2 ^ P.length:=fun x hx=>by
  obtain ⟨y,Q,rfl⟩:=List.mem_map.1 (Zaa7 hx);exact (h.mem hn Q).2.2.2
 unfold moS;rw [ZEP _ _ (List.Nodup.sublist (List.take_sublist _ _) g) n]
 have T:(sumN (2 ^ P.length) fun G=>if flB d P G=true∧G &&& F=G then wf d P G else 0)=sumN (2 ^ P.length) fun G=>(if G∈(msk m).take k then (if G &&& F=G then wf d P G else 0) else 0)+if G=F then wf d P G else 0:=by
  refine ZAC fun G hG=>?_
  by_cases hGF:G=F
  ·subst hGF
   have D:¬G∈(msk m).take k:=fun hx=>by
    obtain ⟨i,O,p⟩:=List.getElem_of_mem hx;rw [List.length_take] at O
    have z:(msk m)[i]'(by omega)=(msk m)[k]'(by simp [msk,hk]):=by
     rw [List.getElem_take] at p;rw [p,←A];simp [msk,hk]
    have:=(List.getElem_inj g).1 z;omega
   rw [if_pos ⟨v,by simp⟩,if_neg D,if_pos rfl,Int.zero_add]
  ·rw [if_neg hGF,Int.add_zero]
   by_cases hc:flB d P G=true∧G &&& F=G
   ·have a:G∈(msk m).take k:=by
     have R:=(h.iff hn hG).2 hc.1;obtain ⟨j,S,p⟩:=List.getElem_of_mem R
     have b:j < m.length:=by simpa [msk] using S
     have s:m.getD j ([],0)∈m:=by simp [b]
     have o:ZA5 (m.getD j ([],0)).1=G:=by rw [←p]; simp [msk,b]
     refine Za6 fun hn2=>?_
     have N:¬j < k:=fun n=>hn2 (by
      refine List.mem_iff_getElem.2 ⟨j,by rw [List.length_take]; omega,?_⟩
      rw [List.getElem_take]; exact p)
     have l:j≠k:=fun e=>hGF (by subst e; rw [←o,t])
     have c:=h.ord k j (by omega) b
     have L:=(h.mem hn s).2.2.1;rw [o] at L;rw [J,L] at c;exact hGF (ZPO hc.1 r (ZCo.1 hc.2) c)
    rw [if_pos hc,if_pos a,if_pos hc.2]
   ·rw [if_neg hc]
    by_cases a:G∈(msk m).take k
    ·rw [if_pos a,if_neg fun z=>hc ⟨(h.iff hn hG).1 (Zaa7 a),z⟩]
    ·rw [if_neg a]
 rw [T,ZA9,ZAs (k:=F) r (f:=fun G=>if G=F then wf d P G else 0) (fun x _ l=>by simp [l]),if_pos rfl] at M
 omega
def coV(d:Nat)(P:List (List Int))(m:List (List Int×Nat))(k j:Nat):Int:=((m.take k).map fun x=>if d-x.2=j then wf d P (ZA5 x.1) else 0).sum
def coF(d:Nat)(P:List (List Int))(m:List (List Int×Nat))(k:Nat):List Int:=(List.range (d+1)).map (coV d P m k)
theorem ZEQ(d:Nat)(P:List (List Int))(m:List (List Int×Nat))(k:Nat):(coF d P m k).length=d+1:=by simp [coF]
theorem ZNI(d:Nat)(P:List (List Int))(m:List (List Int×Nat)):coF d P m 0=List.replicate (d+1) 0:=by
 unfold coF
 apply List.ext_getElem (by simp)
 intro i b a;simp [coV]
theorem ZNJ{d:Nat}{P:List (List Int)}{m:List (List Int×Nat)}{k:Nat}(hk:k < m.length)(j:Nat):coV d P m (k+1) j=coV d P m k j+if d-(m.getD k ([],0)).2=j then wf d P (ZA5 (m.getD k ([],0)).1) else 0:=by
 have a:m.getD k ([],0)=m[k]:=by simp [hk]
 rw [a];unfold coV;rw [Zaa1 hk,List.map_append,List.sum_append];simp
theorem ZKw{d:Nat}{P:List (List Int)}{m:List (List Int×Nat)}{k j:Nat}(hj:j < d+1):(coF d P m k).getD j 0=coV d P m k j:=by
 simp [coF,hj]
theorem ZNK{d:Nat}{P:List (List Int)}{m:List (List Int×Nat)}{k:Nat}(hk:k < m.length):coF d P m (k+1)=(coF d P m k).set (d-(m.getD k ([],0)).2) ((coF d P m k).getD (d-(m.getD k ([],0)).2) 0+wf d P (ZA5 (m.getD k ([],0)).1)):=by
 rw [ZKw (by omega)]
 apply List.ext_getElem?
 intro j;rw [List.getElem?_set]
 by_cases hj:j < d+1
 ·have a:(coF d P m (k+1))[j]?=some (coV d P m (k+1) j):=by simp [coF,hj]
  have b:(coF d P m k)[j]?=some (coV d P m k j):=by simp [coF,hj]
  rw [a,b,ZEQ,ZNJ hk]
  by_cases e:d-(m.getD k ([],0)).2=j
  ·rw [if_pos e,if_pos e,if_pos (by omega),e]
  ·rw [if_neg e,if_neg e,Int.add_zero]
 ·rw [Zaa6 (by rw [ZEQ]; omega),if_neg (by omega),Zaa6 (by rw [ZEQ]; omega)]
def whC(d:Nat)(P:List (List Int))(j:Nat):Int:=sumN (2 ^ P.length) fun s=>if cen d P s=true then sg s*(if d-rS d P s=j then 1 else 0) else 0
theorem FlS.coef{d:Nat}{P:List (List Int)}{m:List (List Int×Nat)}(h:FlS d P m)(hn:P.length≤6):coF d P m m.length=(List.range (d+1)).map (whC d P):=by
 unfold coF
 refine List.map_congr_left fun j _=>?_
 unfold coV;rw [List.take_length];unfold whC
 rw [←ZNG (d:=d) (P:=P) fun r=>if d-r=j then 1 else 0]
 have b:(m.map fun x=>if d-x.2=j then wf d P (ZA5 x.1) else 0)=(msk m).map fun s=>wf d P s*if d-rS d P s=j then 1 else 0:=by
  unfold msk;rw [List.map_map]
  refine List.map_congr_left fun x hx=>?_
  obtain ⟨_,_,c,_⟩:=h.mem hn hx;simp only [Function.comp_def];rw [←c]
  split <;> simp
 rw [b,ZEP _ _ (h.nodup hn) (fun x hx=>by
  obtain ⟨y,a,rfl⟩:=List.mem_map.1 hx;exact (h.mem hn a).2.2.2)]
 refine ZAC fun s hs=>?_
 by_cases hf:flB d P s=true
 ·rw [if_pos ((h.iff hn hs).2 hf),if_pos hf]
 ·rw [if_neg fun hx=>hf ((h.iff hn hs).1 hx),if_neg hf]
theorem sg_abs(s:Nat):(sg s).natAbs=1:=by
 have:∀(l:List Nat) (a:Int),(l.foldl (fun a i=>if s.testBit i then -a else a) a).natAbs=a.natAbs:=by
  intro l
  induction l with
  | nil=>intro a; rfl
  | cons x l ih=>
   intro a;rw [List.foldl_cons,ih]
   split
   ·simp
   ·rfl
 exact this _ 1
theorem ZFx{f:Nat→Int} : ∀{n:Nat},(∀i,i < n→(f i).natAbs≤1)→(sumN n f).natAbs≤n
 | 0,_=>by simp [sumN]
 | n+1,h=>by
  have h1:=ZFx (n:=n) fun i hi=>h i (by omega)
  have h2:=h n (by omega)
  rw [sumN];omega
theorem ZIs{d:Nat}{P:List (List Int)}(hn:P.length≤6)(F:Nat):(wf d P F).natAbs≤64:=by
 refine Zaa8 (ZFx fun i _=>?_) (Zaa8 (Nat.pow_le_pow_right (by decide) hn) (by decide))
 split
 ·rw [sg_abs]; exact Za4 _
 ·decide
theorem ZFy{α:Type}{f:α→Int}{B:Nat} : ∀(l:List α),(∀x∈l,(f x).natAbs≤B)→((l.map f).sum).natAbs≤l.length*B
 | [],_=>by simp
 | a :: l,h=>by
  have h1:=ZFy l fun x hx=>h x (List.mem_cons_of_mem _ hx)
  have h2:=h a (by simp)
  rw [List.map_cons,List.sum_cons,List.length_cons,Nat.succ_mul];omega
end Go.Proofs.YtkjkfceblmgogaaGreat
