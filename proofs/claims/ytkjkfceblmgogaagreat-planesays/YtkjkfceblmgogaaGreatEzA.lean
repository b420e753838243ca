import Derived.Test.YtkjkfceblmgogaaGreatDsA
namespace Go.Proofs.YtkjkfceblmgogaaGreat
open Lin
theorem ZEk{α:Type}(c a:α→Int):∀l:List α,(∃r∈l,0 < c r)→∃i∈l,0 < c i∧∀r∈l,0 < c r→c i*a r≤c r*a i
 | [],⟨_,h,_⟩=>absurd h (by simp)
 | x :: t,hx=>by
  by_cases ht:∃r∈t,0 < c r
  ·obtain ⟨i,hi,hci,hb⟩:=ZEk c a t ht
   by_cases hw:0 < c x∧c x*a i < c i*a x
   ·refine ⟨x,List.mem_cons_self,hw.1,fun r hr hcr=>?_⟩
    rcases List.mem_cons.1 hr with rfl | hr
    ·exact Int.le_refl _
    ·have h1:=hb r hr hcr
     refine Int.le_of_mul_le_mul_left ?_ hci
     have h2:c x*(c i*a r)≤c x*(c r*a i):=Int.mul_le_mul_of_nonneg_left h1 (by omega)
     have h3:c r*(c x*a i)≤c r*(c i*a x):=Int.mul_le_mul_of_nonneg_left (by omega) (by omega)
     have e1:c i*(c x*a r)=c x*(c i*a r):=by grind
     have e2:c x*(c r*a i)=c r*(c x*a i):=by grind
     have e3:c i*(c r*a x)=c r*(c i*a x):=by grind
     omega
   ·refine ⟨i,List.mem_cons_of_mem _ hi,hci,fun r hr hcr=>?_⟩
    rcases List.mem_cons.1 hr with rfl | hr
    ·exact Int.not_lt.1 fun h=>hw ⟨hcr,h⟩
    ·exact hb r hr hcr
  ·obtain ⟨r,hr,hcr⟩:=hx
   rcases List.mem_cons.1 hr with rfl | hr
   ·refine ⟨r,List.mem_cons_self,hcr,fun s hs hcs=>?_⟩
    rcases List.mem_cons.1 hs with rfl | hs
    ·exact Int.le_refl _
    ·exact absurd ⟨s,hs,hcs⟩ ht
   ·exact absurd ⟨r,hr,hcr⟩ ht
theorem ZBE{x y:Int}(hx:0≤x)(hy:y≤0):x*y≤0:=by
 have:=Int.mul_le_mul_of_nonneg_left hy hx;omega
theorem ZBO{x y:Int}(hx:0 < x)(hy:y < 0):x*y < 0:=Int.mul_neg_of_pos_of_neg hx hy
theorem ZPq{α:Type}(l:List α)(a c:α→Int)(m:α→Prop)(h0:∀r∈l,c r=0→a r≤0∧(m r→a r < 0))
 (h1:∀i∈l,∀j∈l,0 < c i→c j < 0→-(c j)*a i+c i*a j≤0∧(m i∨m j→-(c j)*a i+c i*a j < 0)) :
  ∃p q:Int,0 < q∧∀r∈l,q*a r+c r*p≤0∧(m r→q*a r+c r*p < 0):=by
 by_cases hp:∃r∈l,0 < c r <;> by_cases hn:∃r∈l,0 < -(c r)
 ·obtain ⟨i,z,d,g⟩:=ZEk c a l hp
  obtain ⟨j,v,f,n⟩:=ZEk (fun r=>-(c r)) a l hn
  refine ⟨a j*c i+a i*c j,2*(-(c j)*c i),?_,fun r hr=>?_⟩
  ·have:=Int.mul_pos f d
   omega
  ·rcases Int.lt_trichotomy (c r) 0 with b | b | b
   ·have e:2*(-(c j)*c i)*a r+c r*(a j*c i+a i*c j)=c i*(-(c j)*a r - -(c r)*a j) + -(c j)*(-(c r)*a i+c i*a r):=by grind
    have t:=n r hr (by omega)
    have o:=h1 i z r hr d b
    have A:=ZBE (x:=c i) (y:=-(c j)*a r - -(c r)*a j) (by omega) (by omega)
    refine ⟨?_,fun hm=>?_⟩
    ·have s:=ZBE (x:=-(c j)) (y:=-(c r)*a i+c i*a r) (by omega) o.1
     omega
    ·have s:=ZBO (x:=-(c j)) (y:=-(c r)*a i+c i*a r) f (o.2 (.inr hm))
     omega
   ·have k:=h0 r hr b
    have B:=Int.mul_pos f d;rw [b,Int.zero_mul,Int.add_zero]
    exact ⟨ZBE (by omega) k.1,fun hm=>ZBO (by omega) (k.2 hm)⟩
   ·have e:2*(-(c j)*c i)*a r+c r*(a j*c i+a i*c j)=-(c j)*(c i*a r-c r*a i)+c i*(-(c j)*a r+c r*a j):=by grind
    have t:=g r hr b
    have o:=h1 r hr j v b (by omega)
    have A:=ZBE (x:=-(c j)) (y:=c i*a r-c r*a i) (by omega) (by omega)
    refine ⟨?_,fun hm=>?_⟩
    ·have s:=ZBE (x:=c i) (y:=-(c j)*a r+c r*a j) (by omega) o.1
     omega
    ·have s:=ZBO (x:=c i) (y:=-(c j)*a r+c r*a j) d (o.2 (.inl hm))
     omega
 ·obtain ⟨i,z,d,g⟩:=ZEk c a l hp
  refine ⟨-(a i)-c i,c i,d,fun r hr=>?_⟩
  rcases Int.lt_trichotomy (c r) 0 with b | b | b
  ·exact absurd ⟨r,hr,by omega⟩ hn
  ·have k:=h0 r hr b
   rw [b,Int.zero_mul,Int.add_zero]
   exact ⟨ZBE (by omega) k.1,fun hm=>ZBO (by omega) (k.2 hm)⟩
  ·have e:c i*a r+c r*(-(a i)-c i)=(c i*a r-c r*a i)-c r*c i:=by grind
   have t:=g r hr b;have o:=Int.mul_pos b d
   exact ⟨by omega,fun _=>by omega⟩
 ·obtain ⟨j,v,f,n⟩:=ZEk (fun r=>-(c r)) a l hn
  refine ⟨a j-c j,-(c j),f,fun r hr=>?_⟩
  rcases Int.lt_trichotomy (c r) 0 with b | b | b
  ·have e : -(c j)*a r+c r*(a j-c j)=(-(c j)*a r - -(c r)*a j) - -(c r) * -(c j):=by grind
   have t:=n r hr (by omega)
   have o:=Int.mul_pos (show (0:Int) < -(c r) by omega) f
   exact ⟨by omega,fun _=>by omega⟩
  ·have k:=h0 r hr b
   rw [b,Int.zero_mul,Int.add_zero]
   exact ⟨ZBE (by omega) k.1,fun hm=>ZBO (by omega) (k.2 hm)⟩
  ·exact absurd ⟨r,hr,b⟩ hp
 ·refine ⟨0,1,by decide,fun r hr=>?_⟩
  have b:c r=0:=by
   rcases Int.lt_trichotomy (c r) 0 with h | h | h
   ·exact absurd ⟨r,hr,by omega⟩ hn
   ·exact h
   ·exact absurd ⟨r,hr,h⟩ hp
  have k:=h0 r hr b;rw [b,Int.one_mul,Int.zero_mul,Int.add_zero];exact k
def RwH(k:Nat)(r:List Int)(v:Nat→Int)(w:Int):Prop:=dot k (V r) v≤V r k*w∧(0 < V r (k+1)→dot k (V r) v < V r k*w)
def Ths(k:Nat)(rows:List (List Int)):Prop:=∃v w,0 < w∧∀r∈rows,RwH k r v w
def drE(r:List Int)(k:Nat):List Int:=r.take k ++ r.drop (k+1)
def cmE(v:Int)(f:List Int)(u:Int)(s:List Int):List Int:=(List.range f.length).map fun i=>v*f.getD i 0+u*s.getD i 0
def eaO(k:Nat)(rows:List (List Int)):List (List Int):=rows.flatMap fun f=>(if f.getD k 0=0 then [drE f k] else []) ++ rows.flatMap fun s=>if 0 < f.getD k 0∧s.getD k 0 < 0 then [drE (cmE (-(s.getD k 0)) f (f.getD k 0) s) k] else []
theorem ZQw{r:List Int}{k i:Nat}(h:i < k)(hk:k < r.length):V (drE r k) i=V r i:=by
 simp only [V,drE,Za2]
 rw [Za7 (by simp; omega),Zaa5 h]
theorem ZDk{r:List Int}{k i:Nat}(h:k≤i)(hk:k < r.length):V (drE r k) i=V r (i+1):=by
 simp only [V,drE,Za2]
 rw [Za8 (by simp; omega),List.getElem?_drop]
 congr 2
 simp;omega
theorem ZFZ{v u:Int}{f s:List Int}{i:Nat}(h:i < f.length):V (cmE v f u s) i=v*V f i+u*V s i:=by simp [cmE,V,h]
theorem ZEl{k:Nat}{rows:List (List Int)}{r:List Int} : r∈eaO k rows↔(∃f∈rows,V f k=0∧r=drE f k)∨∃f∈rows,∃s∈rows,0 < V f k∧V s k < 0∧r=drE (cmE (-(V s k)) f (V f k) s) k:=by
 simp only [eaO,List.mem_flatMap,List.mem_append]
 constructor
 ·rintro ⟨f,a,h | ⟨s,b,h⟩⟩
  ·split at h
   ·rename_i e
    exact .inl ⟨f,a,e,List.mem_singleton.1 h⟩
   ·cases h
  ·split at h
   ·rename_i e
    exact .inr ⟨f,a,s,b,e.1,e.2,List.mem_singleton.1 h⟩
   ·cases h
 ·rintro (⟨f,a,e,rfl⟩ | ⟨f,a,s,b,c,d,rfl⟩)
  ·refine ⟨f,a,.inl ?_⟩
   rw [if_pos (show f.getD k 0=0 from e)]
   exact List.mem_singleton.2 rfl
  ·refine ⟨f,a,.inr ⟨s,b,?_⟩⟩
   rw [if_pos (show 0 < f.getD k 0∧s.getD k 0 < 0 from ⟨c,d⟩)]
   exact List.mem_singleton.2 rfl
theorem ZH8{r:List Int}{k:Nat}(hk:k < r.length)(v:Nat→Int):dot k (V (drE r k)) v=dot k (V r) v:=ZAa (fun _ h=>ZQw h hk) fun _ _=>rfl
theorem ZLh{a b:Int}{f s:List Int}{k:Nat}(hk:k < f.length)(v:Nat→Int):dot k (V (drE (cmE a f b s) k)) v=a*dot k (V f) v+b*dot k (V s) v:=by
 rw [ZH8 (by simpa [cmE] using hk),←ZBI]
 exact ZAa (fun i h=>ZFZ (by omega)) fun _ _=>rfl
theorem ZNn{k:Nat}{rows:List (List Int)}(hl:∀r∈rows,r.length=k+3)(hm:∀r∈rows,0≤V r (k+2)):Ths (k+1) rows↔Ths k (eaO k rows):=by
 have j:∀(r:List Int) v,dot (k+1) (V r) v=dot k (V r) v+V r k*v k:=fun _ _=>rfl
 constructor
 ·rintro ⟨v,w,n,h⟩
  refine ⟨v,w,n,fun r hr=>?_⟩
  rcases ZEl.1 hr with ⟨f,hf,e,rfl⟩ | ⟨f,hf,s,hs,c,g,rfl⟩
  ·have a:=h f hf
   unfold RwH at a ⊢;rw [j,e,Int.zero_mul,Int.add_zero] at a;have b:=hl f hf
   rw [ZH8 (by omega),ZDk (Za4 _) (by omega),ZDk (by omega) (by omega)]
   exact a
  ·have a:=h f hf
   have l:=h s hs;have b:=hl f hf;have t:=hm f hf;have o:=hm s hs
   have m:(cmE (-(V s k)) f (V f k) s).length=k+3:=by simp [cmE,b]
   unfold RwH at a l ⊢;rw [j] at a l
   rw [ZLh (by omega),ZDk (Za4 _) (by omega),ZDk (by omega) (by omega),ZFZ (by omega),ZFZ (by omega)]
   have e : -(V s k)*dot k (V f) v+V f k*dot k (V s) v-(-(V s k)*V f (k+1)+V f k*V s (k+1))*w=-(V s k)*(dot k (V f) v+V f k*v k-V f (k+1)*w)+V f k*(dot k (V s) v+V s k*v k-V s (k+1)*w):=by grind
   have M:=ZBE (x:=-(V s k)) (y:=dot k (V f) v+V f k*v k-V f (k+1)*w) (by omega) (by omega)
   have N:=ZBE (x:=V f k) (y:=dot k (V s) v+V s k*v k-V s (k+1)*w) (by omega) (by omega)
   refine ⟨by omega,fun hmk=>?_⟩
   by_cases q:0 < V f (k+2)
   ·have E:=ZBO (x:=-(V s k)) (y:=dot k (V f) v+V f k*v k-V f (k+1)*w) (by omega) (by have:=a.2 q; omega)
    omega
   ·have A:V f (k+2)=0:=by omega
    have B:0 < V s (k+2):=by
     refine Int.not_le.1 fun hle=>?_
     have z:V s (k+2)=0:=by omega
     have:V f (k+1+1)=0:=A;have:V s (k+1+1)=0:=z
     simp_all
    have E:=ZBO (x:=V f k) (y:=dot k (V s) v+V s k*v k-V s (k+1)*w) c (by have:=l.2 B; omega)
    omega
 ·rintro ⟨v,w,n,h⟩
  obtain ⟨p,q,F,G⟩:=ZPq rows (fun r=>dot k (V r) v-V r (k+1)*w) (fun r=>V r k) (fun r=>0 < V r (k+2)) (fun r hr m=>by
   have a:=h (drE r k) (ZEl.2 (.inl ⟨r,hr,m,rfl⟩));have J:=hl r hr;unfold RwH at a
   rw [ZH8 (by omega),ZDk (Za4 _) (by omega),ZDk (by omega) (by omega)] at a
   exact ⟨by omega,fun hm=>by have:=a.2 hm; omega⟩) (fun f hf s hs c g=>by
   have a:=h _ (ZEl.2 (.inr ⟨f,hf,s,hs,c,g,rfl⟩));have b:=hl f hf;have t:=hm f hf;have o:=hm s hs
   have m:(cmE (-(V s k)) f (V f k) s).length=k+3:=by simp [cmE,b]
   unfold RwH at a
   rw [ZLh (by omega),ZDk (Za4 _) (by omega),ZDk (by omega) (by omega),ZFZ (by omega),ZFZ (by omega)] at a
   have e : -(V s k)*(dot k (V f) v-V f (k+1)*w)+V f k*(dot k (V s) v-V s (k+1)*w)=-(V s k)*dot k (V f) v+V f k*dot k (V s) v-(-(V s k)*V f (k+1)+V f k*V s (k+1))*w:=by grind
   refine ⟨by rw [e]; omega,fun hmm=>?_⟩
   have d:0 < -(V s k)*V f (k+1+1)+V f k*V s (k+1+1):=by
    have L:=Int.mul_nonneg (show (0:Int)≤-(V s k) by omega) t
    have O:=Int.mul_nonneg (show (0:Int)≤V f k by omega) o
    show 0 < -(V s k)*V f (k+2)+V f k*V s (k+2)
    rcases hmm with hmm | hmm
    ·have:=Int.mul_pos (show (0:Int) < -(V s k) by omega) hmm
     omega
    ·have:=Int.mul_pos c hmm
     omega
   have:=a.2 d;rw [e]; omega)
  refine ⟨fun i=>if i=k then p else q*v i,q*w,Int.mul_pos F n,fun r hr=>?_⟩
  have a:=G r hr
  have c:dot k (V r) (fun i=>if i=k then p else q*v i)=q*dot k (V r) v:=by
   have g:dot k (V r) (fun i=>if i=k then p else q*v i)=dot k (fun i=>q*V r i+0*V r i) v:=ZAC fun i hi=>by
    show V r i*(if i=k then p else q*v i)=(q*V r i+0*V r i)*v i
    rw [if_neg (by omega)]; grind
   rw [g,ZBI]; omega
  unfold RwH;rw [j,c];simp only [if_true]
  have D:q*(dot k (V r) v-V r (k+1)*w)+V r k*p=q*dot k (V r) v+V r k*p-V r (k+1)*(q*w):=by grind
  rw [D] at a
  exact ⟨by omega,fun hm=>by have:=a.2 hm; omega⟩
theorem ZNo{rows:List (List Int)} : Ths 0 rows↔∀r∈rows,0≤V r 0∧(0 < V r 1→0 < V r 0):=by
 have c:∀(r:List Int) v,dot 0 (V r) v=0:=fun _ _=>rfl
 constructor
 ·rintro ⟨v,w,d,h⟩ r b
  have a:=h r b;unfold RwH at a;rw [c] at a
  refine ⟨Int.not_lt.1 fun hn=>?_,fun hm=>Int.not_le.1 fun hn=>?_⟩
  ·have:=Int.mul_neg_of_neg_of_pos hn d
   omega
  ·have f:=a.2 hm
   have:=Int.mul_le_mul_of_nonneg_right hn (show (0:Int)≤w by omega)
   omega
 ·intro h
  refine ⟨fun _=>0,1,by decide,fun r b=>?_⟩
  have a:=h r b;unfold RwH;rw [c,Int.mul_one];exact a
theorem ZLt:∀s t:List (List Int),s.Nodup→(∀r∈s,r∈t)→s.length≤t.length
 | [],_,_,_=>by simp
 | a :: s,t,hn,h=>by
  obtain ⟨h1,h2⟩:=List.nodup_cons.1 hn
  have ha:=h a (by simp)
  have ih:=ZLt s (t.erase a) h2 fun r hr=>(List.mem_erase_of_ne (fun e=>h1 (by rw [←e]; exact hr))).2 (h r (by simp [hr]))
  rw [List.length_erase_of_mem ha] at ih;have:=List.length_pos_of_mem ha;simp;omega
theorem ZQz{s:List (List Int)}(h:ZGH s):s.Nodup:=
 List.Pairwise.imp (fun {a b} hab e=>by
  subst e;rw [ZCT] at hab;omega) h
def lmE(r:List Int):List Int:=low (r.take (r.length-1)) ++ [if 0 < r.getD (r.length-1) 0 then 1 else 0]
theorem ZGI(l:List Int):(low l).length=l.length:=by simp [low]
theorem ZLu{r:List Int}(h:0 < r.length):(lmE r).length=r.length:=by
 simp [lmE,ZGI]; omega
theorem ZOm{r:List Int}{k i:Nat}(h:r.length=k+2)(hi:i < k+1):V (lmE r) i=V (low (r.take (k+1))) i:=by
 have e:r.length-1=k+1:=by omega
 simp only [V,lmE,e,Za2]
 rw [Za7 (by rw [ZGI]; simp; omega)]
theorem ZOn{r:List Int}{k:Nat}(h:r.length=k+2):V (lmE r) (k+1)=if 0 < V r (k+1) then 1 else 0:=by
 have e:r.length-1=k+1:=by omega
 have a:(low (r.take (k+1))).length=k+1:=by rw [ZGI]; simp; omega
 simp only [V,lmE,e]
 rw [Za2,Za8 (by omega),a,Nat.sub_self]
 rfl
theorem ZPt{r:List Int}{k:Nat}(h:r.length=k+2):∃g:Int,0 < g∧∀i,i < k+1→V r i=g*V (lmE r) i:=by
 have a:∀i,i < k+1→V (r.take (k+1)) i=V r i:=fun i hi=>by
  simp only [V,Za2];rw [Zaa5 hi]
 by_cases h0:gc (r.take (k+1))=0
 ·refine ⟨1,by decide,fun i hi=>?_⟩
  rw [ZOm h hi,ZIg h0,a i hi,Int.one_mul]
 ·refine ⟨(gc (r.take (k+1)):Int),by omega,fun i hi=>?_⟩
  rw [ZOm h hi,←a i hi];exact (ZOi (r.take (k+1)) i).symm
theorem ZNu{g a b:Int}(hg:0 < g):g*a≤g*b↔a≤b:=⟨fun h=>Int.le_of_mul_le_mul_left h hg,fun h=>Int.mul_le_mul_of_nonneg_left h (by omega)⟩
theorem ZNv{g a b:Int}(hg:0 < g):g*a < g*b↔a < b:=⟨fun h=>Int.lt_of_mul_lt_mul_left h (by omega),fun h=>Int.mul_lt_mul_of_pos_left h hg⟩
theorem ZQ0{r:List Int}{k:Nat}(h:r.length=k+2)(v:Nat→Int)(w:Int):RwH k (lmE r) v w↔RwH k r v w:=by
 obtain ⟨g,a,b⟩:=ZPt h;unfold RwH
 have c:dot k (V r) v=g*dot k (V (lmE r)) v:=by
  have:dot k (V r) v=dot k (fun i=>g*V (lmE r) i+0*V (lmE r) i) v:=ZAa (fun i hi=>by rw [b i (by omega)]; omega) fun _ _=>rfl
  rw [this,ZBI]; omega
 have d:V r k*w=g*(V (lmE r) k*w):=by rw [b k (by omega)]; grind
 rw [c,d,ZNu a,ZNv a,ZOn h]
 by_cases hm:0 < V r (k+1)
 ·simp [hm]
 ·simp [hm]
theorem ZPu{k:Nat}{a b:List (List Int)}(h:∀r,r∈a↔r∈b):Ths k a↔Ths k b:=
 ⟨fun ⟨v,w,hw,hr⟩=>⟨v,w,hw,fun r hb=>hr r ((h r).2 hb)⟩,fun ⟨v,w,hw,hr⟩=>⟨v,w,hw,fun r hb=>hr r ((h r).1 hb)⟩⟩
theorem ZQ1{k:Nat}{m:List (List Int)}(hl:∀r∈m,r.length=k+2):Ths k (m.map lmE)↔Ths k m:=by
 constructor
 ·rintro ⟨v,w,a,h⟩
  exact ⟨v,w,a,fun r hr=>(ZQ0 (hl r hr) v w).1 (h _ (List.mem_map.2 ⟨r,hr,rfl⟩))⟩
 ·rintro ⟨v,w,a,h⟩
  refine ⟨v,w,a,fun r hr=>?_⟩
  obtain ⟨q,b,rfl⟩:=List.mem_map.1 hr;exact (ZQ0 (hl q b) v w).2 (h q b)
def thR(p:List Int)(c:UInt8):List (List Int):=if c=43 then [ngL p ++ [1]] else if c=45 then [p ++ [1]] else [p ++ [0],ngL p ++ [0]]
def thT(P:List (List Int))(s:List UInt8)(k:Nat):List (List Int):=(List.range k).flatMap fun i=>thR (P.getD i []) (s.getD i 0)
theorem ZGJ(P:List (List Int))(s:List UInt8)(k:Nat):thT P s (k+1)=thT P s k ++ thR (P.getD k []) (s.getD k 0):=by
 simp [thT,List.range_succ]
theorem ZPv(p:List Int)(c:UInt8):(thR p c).length≤2:=by
 unfold thR
 split
 ·simp
 ·split <;> simp
theorem ZPw{p:List Int}{c:UInt8}(h:c=43∨c=45):(thR p c).length=1:=by
 rcases h with rfl | rfl <;> rfl
theorem ZGK(P:List (List Int))(s:List UInt8):∀k,(thT P s k).length≤2*k
 | 0=>by simp [thT]
 | k+1=>by
  have h1:=ZGK P s k;have h2:=ZPv (P.getD k []) (s.getD k 0);rw [ZGJ,Zaa4];omega
theorem ZID{P:List (List Int)}{s:List UInt8} : ∀k,k≤s.length→(∀c∈s,c=43∨c=45)→(thT P s k).length=k
 | 0,_,_=>by simp [thT]
 | k+1,hk,h=>by
  have h1:=ZID (P:=P) k (by omega) h
  have h2:=ZPw (p:=P.getD k []) (c:=s.getD k 0) (h _ (by
   rw [Za2,Za9 (show k < s.length by omega)]
   exact List.getElem_mem _))
  rw [ZGJ,Zaa4];omega
theorem ZLv{p:List Int}{m:Int}{i:Nat}(h:i < p.length):V (p ++ [m]) i=V p i:=by
 simp only [V,Za2];rw [Za7 h]
theorem ZLw{p:List Int}{m:Int}{k:Nat}(h:p.length=k):V (p ++ [m]) k=m:=by
 simp [V,←h]
theorem ZGL(p:List Int):(ngL p).length=p.length:=by simp [ngL]
theorem ZCd{d:Nat}{p:List Int}{m:Int}(hp:p.length=d+1)(z:Nat→Int):RwH d (p ++ [m]) z (z d)↔hv d p z≤0∧(0 < m→hv d p z < 0):=by
 unfold RwH hv
 have c:dot d (V (p ++ [m])) z=dot d (V p) z:=ZAa (fun i hi=>ZLv (by omega)) fun _ _=>rfl
 rw [c,ZLv (by omega),ZLw (by omega)]
 constructor
 ·rintro ⟨a,b⟩
  exact ⟨by omega,fun h=>by have:=b h; omega⟩
 ·rintro ⟨a,b⟩
  exact ⟨by omega,fun h=>by have:=b h; omega⟩
theorem ZLx{d:Nat}{p:List Int}{c:UInt8}(hp:p.length=d+1)(hc:c=43∨c=45∨c=48)(z:Nat→Int):(∀r∈thR p c,RwH d r z (z d))↔SgO c (hv d p z):=by
 have g:(ngL p).length=d+1:=by rw [ZGL,hp]
 unfold thR SgO
 rcases hc with rfl | rfl | rfl
 ·simp only [List.mem_singleton,if_true,forall_eq,ZCd g,ZE9]
  constructor
  ·rintro ⟨a,b⟩
   exact .inl ⟨trivial,by have:=b (by decide); omega⟩
  ·rintro (⟨_,a⟩ | ⟨e,_⟩ | ⟨e,_⟩)
   ·exact ⟨by omega,fun _=>by omega⟩
   ·exact absurd e (by decide)
   ·exact absurd e (by decide)
 ·rw [if_neg (by decide),if_pos rfl]
  simp only [List.mem_singleton,forall_eq,ZCd hp]
  constructor
  ·rintro ⟨a,b⟩
   exact .inr (.inl ⟨trivial,b (by decide)⟩)
  ·rintro (⟨e,_⟩ | ⟨_,a⟩ | ⟨e,_⟩)
   ·exact absurd e (by decide)
   ·exact ⟨by omega,fun _=>by omega⟩
   ·exact absurd e (by decide)
 ·rw [if_neg (by decide),if_neg (by decide)]
  constructor
  ·intro h
   have j:=(ZCd (m:=0) hp z).1 (h _ (by simp))
   have i:=(ZCd (m:=0) g z).1 (h _ (by simp))
   rw [ZE9] at i
   exact .inr (.inr ⟨rfl,by omega⟩)
  ·rintro (⟨e,_⟩ | ⟨e,_⟩ | ⟨_,a⟩)
   ·exact absurd e (by decide)
   ·exact absurd e (by decide)
   ·intro r f
    rcases List.mem_cons.1 f with rfl | f
    ·exact (ZCd hp z).2 ⟨by omega,fun h=>absurd h (by decide)⟩
    ·rw [List.mem_singleton.1 f]
     refine (ZCd g z).2 ⟨?_,fun h=>absurd h (by decide)⟩
     rw [ZE9]; omega
def Chs(s:List UInt8):Prop:=∀c∈s,c=43∨c=45∨c=48
theorem ZQ2{s:List UInt8}{i:Nat}(h:i < s.length):s.getD i 0∈s:=by
 rw [Za2,Za9 h];exact List.getElem_mem _
theorem ZRh{d:Nat}{r:List Int}{v:Nat→Int}{w:Int} : RwH d r (fun i=>if i=d then w else v i) w↔RwH d r v w:=by
 unfold RwH
 have e:dot d (V r) (fun i=>if i=d then w else v i)=dot d (V r) v:=ZAa (fun _ _=>rfl) fun i hi=>if_neg (by omega)
 rw [e]
theorem ZQ3{d:Nat}{P:List (List Int)}{s:List UInt8}(hP:∀i,i < s.length→(P.getD i []).length=d+1)(hs:Chs s):Ths d (thT P s s.length)↔∃z,ZC0 d P s z:=by
 constructor
 ·rintro ⟨v,w,f,h⟩
  refine ⟨fun i=>if i=d then w else v i,by simpa using f,fun i a=>?_⟩
  refine (ZLx (hP i a) (hs _ (ZQ2 a)) _).1 fun r b=>?_
  have:=h r (List.mem_flatMap.2 ⟨i,List.mem_range.2 a,b⟩);simp only [if_true];exact ZRh.2 this
 ·rintro ⟨z,c,h⟩
  refine ⟨z,z d,c,fun r b=>?_⟩
  obtain ⟨i,a,b⟩:=List.mem_flatMap.1 b;have a:=List.mem_range.1 a;exact (ZLx (hP i a) (hs _ (ZQ2 a)) z).2 (h i a) r b
def bdE(j:Nat):Nat:=if j=0 then 20 else if j=1 then 800 else if j=2 then 1280000 else 3276800000000
def lnE(j:Nat):Nat:=if j=0 then 8 else if j=1 then 64 else if j=2 then 4096 else 16777216
structure EaI(d q:Nat)(D:Prop)(m:List (List Int)):Prop where
 ths:Ths q m↔D
 len:∀r∈m,r.length=q+2
 bd:∀r∈m,∀z∈r,z.natAbs≤bdE (d-q)
 mrk:∀r∈m,0≤V r (q+1)
 n:m.length≤lnE (d-q)
theorem ZLy{r:List Int}{k:Nat}(h:k < r.length):(drE r k).length=r.length-1:=by simp [drE]; omega
theorem ZIE(v:Int)(f:List Int)(u:Int)(s:List Int):(cmE v f u s).length=f.length:=by simp [cmE]
theorem ZLz{q:Nat}{m:List (List Int)}(h:∀r∈m,r.length=q+3){r:List Int}(hr:r∈eaO q m):r.length=q+2:=by
 rcases ZEl.1 hr with ⟨f,hf,_,rfl⟩ | ⟨f,hf,s,hs,_,_,rfl⟩
 ·have:=h f hf
  rw [ZLy (by omega)]; omega
 ·have:=h f hf
  rw [ZLy (by rw [ZIE]; omega),ZIE]; omega
theorem ZNw{r:List Int}{b k:Nat}(h:∀z∈r,z.natAbs≤b):(r.getD k 0).natAbs≤b:=by
 rw [Za2]
 cases e:r[k]? with
 | none=>simp
 | some z=>simpa using h z (List.mem_of_getElem? e)
theorem ZRi{a b:Int}{n:Nat}(ha:a.natAbs≤n)(hb:b.natAbs≤n):(a*b).natAbs≤n*n:=by
 rw [Int.natAbs_mul];exact Nat.mul_le_mul ha hb
theorem ZOo{v u:Int}{f s:List Int}{n:Nat}(hv:v.natAbs≤n)(hu:u.natAbs≤n)(hf:∀z∈f,z.natAbs≤n)(hs:∀z∈s,z.natAbs≤n):∀z∈cmE v f u s,z.natAbs≤2*(n*n):=fun z hz=>by
 simp only [cmE,List.mem_map,List.mem_range] at hz;obtain ⟨i,_,rfl⟩:=hz;have a:=ZRi hv (ZNw (k:=i) hf);have b:=ZRi hu (ZNw (k:=i) hs);omega
theorem ZOp{r:List Int}{k n:Nat}(h:∀z∈r,z.natAbs≤n):∀z∈drE r k,z.natAbs≤n:=fun z hz=>by
 unfold drE at hz
 rcases List.mem_append.1 hz with h1 | h1
 ·exact h z (Zaa7 h1)
 ·exact h z (List.mem_of_mem_drop h1)
theorem ZOq{q n:Nat}{m:List (List Int)}(h:∀r∈m,∀z∈r,z.natAbs≤n)(hn:1≤n){r:List Int}(hr:r∈eaO q m):∀z∈r,z.natAbs≤2*(n*n):=by
 have a:n≤n*n:=Nat.le_mul_of_pos_left n hn
 rcases ZEl.1 hr with ⟨f,hf,_,rfl⟩ | ⟨f,hf,s,hs,_,_,rfl⟩
 ·intro z b
  have:=ZOp (h f hf) z b;omega
 ·exact ZOp (ZOo (by rw [Int.natAbs_neg]; exact ZNw (h s hs)) (ZNw (h f hf)) (h f hf) (h s hs))
theorem ZPx{l:List Int}{b:Nat}(h:∀z∈l,z.natAbs≤b):∀z∈low l,z.natAbs≤b:=ZFL h
theorem ZQ4{r:List Int}{n:Nat}(h:∀z∈r,z.natAbs≤n)(hn:1≤n):∀z∈lmE r,z.natAbs≤n:=fun z hz=>by
 unfold lmE at hz
 rcases List.mem_append.1 hz with h1 | h1
 ·exact ZPx (fun z hz=>h z (Zaa7 hz)) z h1
 ·rw [List.mem_singleton.1 h1]
  split <;> simp <;> omega
theorem ZCA{α β:Type}{g:α→List β}{b:Nat} : ∀(l:List α),(∀x∈l,(g x).length≤b)→(l.flatMap g).length≤l.length*b
 | [],_=>by simp
 | a :: l,h=>by
  have h1:=ZCA l fun x hx=>h x (List.mem_cons_of_mem _ hx)
  have h2:=h a List.mem_cons_self;rw [List.flatMap_cons,Zaa4,List.length_cons,Nat.add_mul,Nat.one_mul];omega
theorem ZQ5(q:Nat)(m:List (List Int)):(eaO q m).length≤m.length*m.length:=by
 unfold eaO
 refine ZCA m fun f hf=>?_
 have a:=List.length_pos_of_mem hf;rw [Zaa4]
 by_cases h:f.getD q 0=0
 ·rw [if_pos h]
  have:(m.flatMap fun s=>if 0 < f.getD q 0∧s.getD q 0 < 0 then [drE (cmE (-(s.getD q 0)) f (f.getD q 0) s) q] else [])=[]:=by
   rw [List.flatMap_eq_nil_iff];intro s _;rw [if_neg];omega
  rw [this];simp;omega
 ·rw [if_neg h]
  have:=ZCA (g:=fun s=>if 0 < f.getD q 0∧s.getD q 0 < 0 then [drE (cmE (-(s.getD q 0)) f (f.getD q 0) s) q] else []) (b:=1) m fun s _=>by split <;> simp
  simp at this ⊢;omega
theorem EaI.next{d q:Nat}{D:Prop}{m s:List (List Int)}(h:EaI d (q+1) D m)(hq:q+1≤d)(hd:d≤3)(hs:ZGH s)(hm:∀r,r∈s↔r∈(eaO q m).map lmE):EaI d q D s:=by
 have o:∀r∈eaO q m,r.length=q+2:=fun r f=>ZLz h.len f
 have g:∀r∈s,∃x∈eaO q m,r=lmE x:=fun r f=>by
  obtain ⟨x,i,e⟩:=List.mem_map.1 ((hm r).1 f);exact ⟨x,i,e.symm⟩
 have p:(d-(q+1)=0∧d-q=1)∨(d-(q+1)=1∧d-q=2)∨(d-(q+1)=2∧d-q=3):=by omega
 have y:∃n,1≤n∧bdE (d-(q+1))=n∧2*(n*n)≤bdE (d-q):=by
  rcases p with ⟨a,b⟩ | ⟨a,b⟩ | ⟨a,b⟩ <;> rw [a,b]
  ·exact ⟨20,by decide,rfl,by decide⟩
  ·exact ⟨800,by decide,rfl,by decide⟩
  ·exact ⟨1280000,by decide,rfl,by decide⟩
 have v:∃n,lnE (d-(q+1))=n∧n*n≤lnE (d-q):=by
  rcases p with ⟨a,b⟩ | ⟨a,b⟩ | ⟨a,b⟩ <;> rw [a,b]
  ·exact ⟨8,rfl,by decide⟩
  ·exact ⟨64,rfl,by decide⟩
  ·exact ⟨4096,rfl,by decide⟩
 refine ⟨?_,?_,?_,?_,?_⟩
 ·rw [ZPu hm,ZQ1 o,←ZNn h.len h.mrk]
  exact h.ths
 ·intro r f
  obtain ⟨x,i,rfl⟩:=g r f;have:=o x i
  rw [ZLu (by omega)]; exact this
 ·intro r f
  obtain ⟨x,i,rfl⟩:=g r f;obtain ⟨n,l,t,B⟩:=y;have j:=h.bd;rw [t] at j;intro z A
  have:=ZQ4 (ZOq j l i) (by have:=Nat.le_mul_of_pos_left n l; omega) z A
  omega
 ·intro r f
  obtain ⟨x,i,rfl⟩:=g r f;rw [ZOn (o x i)]
  split <;> decide
 ·obtain ⟨n,l,t⟩:=v
  have a:=ZLt s _ (ZQz hs) fun r f=>(hm r).1 f
  rw [Zab1] at a;have b:=ZQ5 q m;have c:=h.n;rw [l] at c;have:m.length*m.length≤n*n:=Nat.mul_le_mul c c;omega
theorem EaI.start{d:Nat}{P:List (List Int)}{s:List UInt8}(hP:∀i,i < s.length→(P.getD i []).length=d+1∧∀z∈P.getD i [],z.natAbs≤20)(hs:Chs s)(hn:(thT P s s.length).length≤8):EaI d d (∃z,ZC0 d P s z) (thT P s s.length):=by
 have a:∀r∈thT P s s.length,r.length=d+2∧(∀z∈r,z.natAbs≤20)∧0≤V r (d+1):=fun r a=>by
  obtain ⟨i,c,a⟩:=List.mem_flatMap.1 a;obtain ⟨j,n⟩:=hP i (List.mem_range.1 c);generalize P.getD i []=p at *
  have o:(ngL p).length=d+1:=by rw [ZGL,j]
  have t:∀z∈ngL p,z.natAbs≤20:=fun z hz=>by
   obtain ⟨y,g,rfl⟩:=List.mem_map.1 hz;rw [Int.natAbs_neg]; exact n y g
  have b:∀(q:List Int) (m:Int),(q=p∨q=ngL p)→(m=0∨m=1)→(q ++ [m]).length=d+2∧(∀z∈q ++ [m],z.natAbs≤20)∧0≤V (q ++ [m]) (d+1):=fun q m hq hm=>by
   have f:q.length=d+1:=by rcases hq with rfl | rfl <;> assumption
   have l:∀z∈q,z.natAbs≤20:=by rcases hq with rfl | rfl <;> assumption
   refine ⟨by simp [f],fun z hz=>?_,?_⟩
   ·rcases List.mem_append.1 hz with h | h
    ·exact l z h
    ·rw [List.mem_singleton.1 h]
     rcases hm with rfl | rfl <;> decide
   ·rw [ZLw f]
    rcases hm with rfl | rfl <;> decide
  unfold thR at a
  split at a
  ·rw [List.mem_singleton.1 a]; exact b _ _ (.inr rfl) (.inr rfl)
  ·split at a
   ·rw [List.mem_singleton.1 a]; exact b _ _ (.inl rfl) (.inr rfl)
   ·rcases List.mem_cons.1 a with rfl | a
    ·exact b _ _ (.inl rfl) (.inl rfl)
    ·rw [List.mem_singleton.1 a]; exact b _ _ (.inr rfl) (.inl rfl)
 refine ⟨ZQ3 (fun i c=>(hP i c).1) hs,fun r h=>(a r h).1,?_,fun r h=>(a r h).2.2,?_⟩
 ·rw [Nat.sub_self]; exact fun r h=>(a r h).2.1
 ·rw [Nat.sub_self]; exact hn
def edB(r:List Int):Bool:=decide (r.getD 0 0 < 0) || (decide (r.getD 0 0=0) && decide (0 < r.getD 1 0))
theorem EaI.fin{d:Nat}{D:Prop}{m:List (List Int)}(h:EaI d 0 D m):(m.any edB=false)↔D:=by
 rw [←h.ths,ZNo,List.any_eq_false]
 refine ⟨fun k r hr=>?_,fun k r hr=>?_⟩
 ·have:=k r hr
  simp only [edB,Bool.or_eq_true,Bool.and_eq_true,decide_eq_true_eq,not_or,not_and] at this;unfold V
  refine ⟨by omega,fun h1=>?_⟩
  have a:=this.1
  by_cases e:r.getD 0 0=0
  ·exact absurd h1 (this.2 e)
  ·omega
 ·have:=k r hr
  unfold V at this;simp only [edB,Bool.or_eq_true,Bool.and_eq_true,decide_eq_true_eq,not_or,not_and]
  exact ⟨by omega,fun e h1=>by have:=this.2 h1; omega⟩
end Go.Proofs.YtkjkfceblmgogaaGreat
