import Derived.Test.YtkjkfceblmgogaaGreatLpC
set_option maxRecDepth 100000
set_option maxHeartbeats 1600000
namespace Go.Proofs.YtkjkfceblmgogaaGreat
open Lin
def hv(d:Nat)(r:List Int)(z:Nat→Int):Int:=dot d (V r) z-V r d*z d
theorem ZH2(d:Nat)(r:List Int)(a b:Int)(z y:Nat→Int):hv d r (fun k=>a*z k+b*y k)=a*hv d r z+b*hv d r y:=by
 unfold hv
 rw [ZAU d (V r) fun k=>a*z k+b*y k,ZBI,ZAU d z,ZAU d y]
 grind
def ngL(p:List Int):List Int:=p.map fun z=>-z
theorem ZRs(p:List Int)(i:Nat):V (ngL p) i=- V p i:=by
 simp only [V,ngL]
 by_cases h:i < p.length
 ·simp [h]
 ·simp [h]
theorem ZE9(d:Nat)(p:List Int)(z:Nat→Int):hv d (ngL p) z=- hv d p z:=by
 unfold hv
 have e:dot d (V (ngL p)) z=- dot d (V p) z:=by
  rw [←ZBn]
  exact ZAa (fun i _=>ZRs p i) (fun _ _=>rfl)
 rw [e,ZRs]
 grind
def SgO(c:UInt8)(v:Int):Prop:=(c=43∧0 < v)∨(c=45∧v < 0)∨(c=48∧v=0)
def ZC0(d:Nat)(P:List (List Int))(s:List UInt8)(z:Nat→Int):Prop:=0 < z d∧∀i,i < s.length→SgO (s.getD i 0) (hv d (P.getD i []) z)
def clO(p:List Int)(c:UInt8):List (List Int):=(if c=43 then [] else [p]) ++ (if c=45 then [] else [ngL p])
def clT(P:List (List Int))(s:List UInt8)(k:Nat):List (List Int):=(List.range k).flatMap fun i=>clO (P.getD i []) (s.getD i 0)
def clR(P:List (List Int))(s:List UInt8):List (List Int):=clT P s s.length
theorem ZBX(P:List (List Int))(s:List UInt8)(k:Nat):clT P s (k+1)=clT P s k ++ clO (P.getD k []) (s.getD k 0):=by
 simp [clT,List.range_succ,List.flatMap_append]
theorem ZPe(p:List Int)(c:UInt8):(clO p c).length≤2:=by
 unfold clO
 split <;> split <;> simp
theorem ZEc(P:List (List Int))(s:List UInt8)(k:Nat):(clT P s k).length≤2*k:=by
 induction k with
 | zero=>simp [clT]
 | succ k ih=>
  rw [ZBX,Zaa4];have:=ZPe (P.getD k []) (s.getD k 0);omega
theorem ZEd{P:List (List Int)}{s:List UInt8}{k:Nat}{r:List Int}(h:r∈clT P s k):∃i,i < k∧(r=P.getD i []∨r=ngL (P.getD i [])):=by
 simp only [clT,List.mem_flatMap,List.mem_range] at h;obtain ⟨i,a,h⟩:=h;refine ⟨i,a,?_⟩;unfold clO at h
 rcases List.mem_append.1 h with h | h
 ·split at h
  ·simp at h
  ·exact .inl (by simpa using h)
 ·split at h
  ·simp at h
  ·exact .inr (by simpa using h)
def SgC(c:UInt8)(v:Int):Prop:=(c≠43→v≤0)∧(c≠45→0≤v)
theorem ZLP{d:Nat}{P:List (List Int)}{s:List UInt8}{z:Nat→Int} : Fea d (clR P s) z (z d)↔0 < z d∧∀i,i < s.length→SgC (s.getD i 0) (hv d (P.getD i []) z):=by
 constructor
 ·rintro ⟨c,h⟩
  refine ⟨c,fun i b=>⟨fun hc=>?_,fun hc=>?_⟩⟩
  ·have:=h (P.getD i []) (by
    simp only [clR,clT,List.mem_flatMap,List.mem_range]
    exact ⟨i,b,by simp only [clO,if_neg hc]; simp⟩)
   unfold hv; omega
  ·have:=h (ngL (P.getD i [])) (by
    simp only [clR,clT,List.mem_flatMap,List.mem_range]
    exact ⟨i,b,by simp only [clO,if_neg hc]; simp⟩)
   have e:=ZE9 d (P.getD i []) z;unfold hv at e ⊢; omega
 ·rintro ⟨c,h⟩
  refine ⟨c,fun r a=>?_⟩
  simp only [clR,clT,List.mem_flatMap,List.mem_range] at a;obtain ⟨i,b,a⟩:=a;obtain ⟨f,g⟩:=h i b;unfold clO at a
  rcases List.mem_append.1 a with a | a
  ·split at a
   ·simp at a
   ·rename_i hc
    have:=f hc;simp only [List.mem_singleton] at a;subst a;unfold hv at this; omega
  ·split at a
   ·simp at a
   ·rename_i hc
    have:=g hc;simp only [List.mem_singleton] at a;subst a;have e:=ZE9 d (P.getD i []) z;unfold hv at e this; omega
theorem SgO.near{c:UInt8}{v:Int}(h:SgO c v):SgC c v:=by
 rcases h with ⟨rfl,h⟩ | ⟨rfl,h⟩ | ⟨rfl,h⟩
 ·exact ⟨fun q=>absurd rfl q,fun _=>by omega⟩
 ·exact ⟨fun _=>by omega,fun q=>absurd rfl q⟩
 ·exact ⟨fun _=>by omega,fun _=>by omega⟩
theorem ZC0.fea{d:Nat}{P:List (List Int)}{s:List UInt8}{z:Nat→Int}(h:ZC0 d P s z):Fea d (clR P s) z (z d):=ZLP.2 ⟨h.1,fun i hi=>(h.2 i hi).near⟩
theorem SgO.add{c:UInt8}{v u a b:Int}(h:SgO c v)(hu:SgC c u)(ha:0 < a)(hb:0≤b):SgO c (a*v+b*u):=by
 rcases h with ⟨rfl,h⟩ | ⟨rfl,h⟩ | ⟨rfl,h⟩
 ·have d:=hu.2 (by decide)
  have:=Int.mul_pos ha h;have:=Int.mul_nonneg hb d
  exact .inl ⟨rfl,by omega⟩
 ·have d:=hu.1 (by decide)
  have:=Int.mul_neg_of_pos_of_neg ha h;have:=Int.mul_nonpos_of_nonneg_of_nonpos hb d
  exact .inr (.inl ⟨rfl,by omega⟩)
 ·have d:=hu.1 (by decide)
  have f:=hu.2 (by decide)
  have:u=0:=by omega
  subst this h
  exact .inr (.inr ⟨rfl,by simp⟩)
def Abv(d:Nat)(rows:List (List Int))(p:List Int):Prop:=∃z:Nat→Int,Fea d rows z (z d)∧0 < hv d p z
theorem ZQq{p:List Int}{d i:Nat}(h:i < d):V (p.take d) i=V p i:=ZLM h
theorem ZGA(d:Nat)(p:List Int)(z:Nat→Int):dot d (V (p.take d)) z=dot d (V p) z:=ZAa (fun _ h=>ZQq h) fun _ _=>rfl
theorem ZQr{d:Nat}{rows:List (List Int)}{x:Nat→Int}{w:Int}(h:Fea d rows x w):∃z:Nat→Int,Fea d rows z (z d)∧z d=w∧∀a:Nat→Int,dot d a z=dot d a x:=by
 have e:∀a:Nat→Int,dot d a (fun k=>if k=d then w else x k)=dot d a x:=fun a=>ZAa (fun _ _=>rfl) fun i hi=>by simp [show i≠d by omega]
 refine ⟨fun k=>if k=d then w else x k,⟨by simpa using h.1,fun r hr=>?_⟩,by simp,e⟩
 rw [e]
 simpa using h.2 r hr
theorem ZQs{d:Nat}{rows:List (List Int)}{p:List Int}{a b:Int}(hp:p.length=d+1)(hf:∃x w,Fea d rows x w)(hB:ZJo d rows (p.take d) a b) :
  (gmE d rows (p.take d)=7∨V p d*b < a)↔Abv d rows p:=by
 have o:(p.take d).length=d:=by simp; omega
 have he:ZDO d rows=false:=ZDZ.2 hf
 rcases hB with ⟨hne,ha,hb⟩ | ⟨y,h0,hy,hlow⟩
 ·have X:gmE d rows (p.take d)=7∧ZAY rows (p.take d)=[]:=by
   unfold gmE at hne ⊢
   rw [if_neg (by simp [he])] at hne ⊢
   split at hne
   ·rename_i q; simp [q]
   ·exact absurd rfl hne
  refine ⟨fun _=>?_,fun _=>.inl X.1⟩
  obtain ⟨c,A,B⟩:=ZCP.1 X.2;rw [o] at A B;obtain ⟨x,w,j⟩:=hf;obtain ⟨z,m,-,-⟩:=ZQr j;rw [ZAU,ZGA] at B
  obtain ⟨N,T,hN⟩:∃N:Int,0≤N∧0 < hv d p z+N*dot d (V p) c:=by
   refine ⟨(hv d p z).natAbs+1,by omega,?_⟩
   have:((hv d p z).natAbs+1:Int)*1≤((hv d p z).natAbs+1:Int)*dot d (V p) c:=Int.mul_le_mul_of_nonneg_left (by omega) (by omega)
   omega
  let c0:Nat→Int:=fun k=>if k=d then 0 else c k
  have Y:∀q:Nat→Int,dot d q c0=dot d q c:=fun q=>ZAa (fun _ _=>rfl) fun i hi=>by simp [c0,show i≠d by omega]
  have F:c0 d=0:=by simp [c0]
  refine ⟨fun k=>1*z k+N*c0 k,⟨?_,fun r hr=>?_⟩,?_⟩
  ·have:=m.1
   simp only [F]; omega
  ·have k1:=m.2 r hr
   have k2:=A r hr;rw [ZAU,ZBI,ZAU d z,ZAU d c0,Y]
   show _≤V r d*(1*z d+N*c0 d)
   rw [F];rw [ZAU] at k2;have:=Int.mul_nonpos_of_nonneg_of_nonpos T k2
   have e:V r d*(1*z d+N*0)=V r d*z d:=by grind
   rw [e];omega
  ·rw [ZH2]
   have:hv d p c0=dot d (V p) c:=by unfold hv; rw [Y,F]; omega
   rw [this]; omega
 ·have f:=ZDa hy
  have hw:=(ZH0 f).1;have L:0 < uW rows (p.take d) y:=ZI2 f
  have O:gmE d rows (p.take d)≠7:=by rw [h0]; decide
  rw [ZPd o,ZNb] at hlow;rw [ZNb] at L
  have v:∀t,t.Sublist rows→ZBN (p.take d) t=true→wS (p.take d) (pks rows [] y)*wU (p.take d) t≤wS (p.take d) t*wU (p.take d) (pks rows [] y):=fun t hs hwt=>by
   obtain ⟨c,hc,rfl⟩:=ZNc (g:=rows) hs hwt rfl
   have:=ZLK (fun x hx=>ZI2 hx) hy c hc
   rwa [ZPd o,ZPd o,ZNb,ZNb] at this
  obtain ⟨E,-,-⟩:=ZG0 hlow
  have R:0 < b:=by
   have l:=ZOi [wS (p.take d) (pks rows [] y),wU (p.take d) (pks rows [] y)] 1;rw [hlow] at l;simp at l
   by_cases q:0 < b
   ·exact q
   ·have:=Int.mul_nonpos_of_nonneg_of_nonpos (Int.natCast_nonneg (gc [wS (p.take d) (pks rows [] y),wU (p.take d) (pks rows [] y)])) (show b≤0 by omega)
    omega
  generalize hS:wS (p.take d) (pks rows [] y)=S at *;generalize hUU:wU (p.take d) (pks rows [] y)=U at *
  have s:V p d*b < a↔V p d*U < S:=by
   constructor
   ·intro h
    have l:V p d*b*U < a*U:=Int.mul_lt_mul_of_pos_right h L;rw [←E] at l
    have n:(V p d*U)*b < S*b:=by
     have:V p d*b*U=(V p d*U)*b:=by grind
     omega
    exact Int.lt_of_mul_lt_mul_right n (by omega)
   ·intro h
    have l:V p d*U*b < S*b:=Int.mul_lt_mul_of_pos_right h R;rw [E] at l
    have n:(V p d*b)*U < a*U:=by
     have:V p d*U*b=(V p d*b)*U:=by grind
     omega
    exact Int.lt_of_mul_lt_mul_right n (by omega)
  obtain ⟨x0,w0,P⟩:=hf
  constructor
  ·rintro (h | h)
   ·exact absurd h O
   ·obtain ⟨x,w,j,D,-⟩:=ZQo o P (ZLO f) hw (by rw [hS,hUU]; exact v)
    rw [hS,hUU,ZGA] at D;obtain ⟨z,m,J,G⟩:=ZQr j;refine ⟨z,m,?_⟩;have n:=s.1 h
    have h3:(V p d*w)*U < dot d (V p) x*U:=by
     rw [D];have:(V p d*U)*w < S*w:=Int.mul_lt_mul_of_pos_right n j.1
     have e:V p d*w*U=V p d*U*w:=by grind
     omega
    have h4:=Int.lt_of_mul_lt_mul_right h3 (by omega)
    unfold hv;rw [G,J]; omega
  ·rintro ⟨z,m,Q⟩
   refine .inr (s.2 ?_)
   have M:=ZRr o m (fun r hr=>(ZLO f).subset hr) hw
   rw [hS,hUU,ZGA] at M;unfold hv at Q
   have l:(V p d*z d)*U < dot d (V p) z*U:=Int.mul_lt_mul_of_pos_right (by omega) L
   have n:(V p d*U)*z d < S*z d:=by
    have e:V p d*z d*U=V p d*U*z d:=by grind
    omega
   exact Int.lt_of_mul_lt_mul_right n (by have:=m.1; omega)
open Classical in
noncomputable def gaC(d:Nat)(rows:List (List Int))(p:List Int):Bool:=decide (Abv d rows p)
theorem ZH3{d:Nat}{rows:List (List Int)}{p:List Int} : gaC d rows p=true↔Abv d rows p:=by simp [gaC]
def mtC(ab be:Bool)(c:UInt8):Bool:=if c=43 then ab else if c=45 then be else ab == be
noncomputable def grO(d:Nat)(P:List (List Int))(p:List Int)(t:List UInt8):List (List UInt8):=([43,45,48].filter (mtC (gaC d (clR P t) p) (gaC d (clR P t) (ngL p)))).map fun c=>t ++ [c]
noncomputable def grT(d:Nat)(P:List (List Int)):Nat→List (List UInt8)
 | 0=>[[]]
 | k+1=>(grT d P k).flatMap (grO d P (P.getD k []))
theorem ZPf{u v:Int}(h:0 < u):∃N:Int,0 < N∧0 < N*u+v:=by
 refine ⟨v.natAbs+1,by omega,?_⟩
 have:(v.natAbs+1:Int)*1≤(v.natAbs+1:Int)*u:=Int.mul_le_mul_of_nonneg_left (by omega) (by omega)
 omega
theorem ZC0.up{d:Nat}{P:List (List Int)}{s:List UInt8}{z y:Nat→Int}(h:ZC0 d P s z)(hy:Fea d (clR P s) y (y d)){p:List Int}(hp:0 < hv d p y):∃q,ZC0 d P s q∧0 < hv d p q:=by
 obtain ⟨N,b,f⟩:=ZPf (v:=hv d p z) hp;obtain ⟨a,c⟩:=ZLP.1 hy
 refine ⟨fun k=>1*z k+N*y k,⟨?_,fun i hi=>?_⟩,?_⟩
 ·have:=h.1
  have:=Int.mul_pos b a
  show 0 < 1*z d+N*y d
  omega
 ·rw [ZH2]
  exact (h.2 i hi).add (c i hi) (by decide) (by omega)
 ·rw [ZH2]; omega
theorem ZPg{c:UInt8}{v N u:Int}(h:SgO c v)(hc:c≠48)(hb:(u.natAbs:Int) < N):SgO c (N*v+u):=by
 have q:∀t:Int,0 < t→N≤N*t:=fun t ht=>by
  have:N*1≤N*t:=Int.mul_le_mul_of_nonneg_left (by omega) (by omega)
  omega
 rcases h with ⟨rfl,h⟩ | ⟨rfl,h⟩ | ⟨rfl,h⟩
 ·have:=q v h
  exact .inl ⟨rfl,by omega⟩
 ·have:=q (-v) (by omega)
  rw [Int.mul_neg] at this
  exact .inr (.inl ⟨rfl,by omega⟩)
 ·exact absurd rfl hc
theorem ZLQ(f:Nat→Int):∀n:Nat,∃N:Int,0 < N∧∀i,i < n→((f i).natAbs:Int) < N
 | 0=>⟨1,by decide,fun i hi=>absurd hi (by omega)⟩
 | n+1=>by
  obtain ⟨N,h0,h⟩:=ZLQ f n
  refine ⟨N+(f n).natAbs,by omega,fun i hi=>?_⟩
  by_cases q:i < n
  ·have:=h i q
   omega
  ·have:i=n:=by omega
   subst this;omega
theorem ZC0.flip{d:Nat}{P:List (List Int)}{s:List UInt8}{z y:Nat→Int}(h:ZC0 d P s z)(hy:Fea d (clR P s) y (y d)){p:List Int}(h0:hv d p z=0)(hp:0 < hv d p y):∃q,ZC0 d P s q∧hv d p q < 0:=by
 obtain ⟨N,r,j⟩:=ZLQ (fun i=>hv d (P.getD i []) y) s.length
 obtain ⟨o,g⟩:=ZLP.1 hy
 refine ⟨fun k=>(N+y d)*z k+(-1)*y k,⟨?_,fun i hi=>?_⟩,?_⟩
 ·have n:=h.1
  have:(N+y d)*1≤(N+y d)*z d:=Int.mul_le_mul_of_nonneg_left (by omega) (by omega)
  show 0 < (N+y d)*z d+(-1)*y d
  omega
 ·rw [ZH2]
  have a:=h.2 i hi;have b:=g i hi;have f:=j i hi
  by_cases hc:s.getD i 0=48
  ·rw [hc] at a b ⊢
   have l:=b.1 (by decide)
   have m:=b.2 (by decide)
   have c:hv d (P.getD i []) y=0:=by omega
   rcases a with ⟨q,_⟩ | ⟨q,_⟩ | ⟨_,q⟩
   ·exact absurd q (by decide)
   ·exact absurd q (by decide)
   ·rw [q,c]
    exact .inr (.inr ⟨rfl,by simp⟩)
  ·exact ZPg a hc (by omega)
 ·rw [ZH2,h0]
  omega
theorem ZC0.mix{d:Nat}{P:List (List Int)}{s:List UInt8}{z y:Nat→Int}(h:ZC0 d P s z)(hy:ZC0 d P s y){a b:Int}(ha:0 < a)(hb:0 < b):ZC0 d P s fun k=>a*z k+b*y k:=by
 refine ⟨?_,fun i hi=>?_⟩
 ·have:=Int.mul_pos ha h.1
  have:=Int.mul_pos hb hy.1
  show 0 < a*z d+b*y d
  omega
 ·rw [ZH2]
  exact (h.2 i hi).add (hy.2 i hi).near ha (by omega)
theorem ZOj{d:Nat}{P:List (List Int)}{s:List UInt8}{p:List Int}(h:∃z,ZC0 d P s z):Abv d (clR P s) p↔∃q,ZC0 d P s q∧0 < hv d p q:=by
 obtain ⟨z,a⟩:=h
 exact ⟨fun ⟨y,hy,hp⟩=>a.up hy hp,fun ⟨q,hq,hp⟩=>⟨q,hq.fea,hp⟩⟩
theorem ZQt{d:Nat}{P:List (List Int)}{s:List UInt8}{p:List Int}(h:∃z,ZC0 d P s z):Abv d (clR P s) (ngL p)↔∃q,ZC0 d P s q∧hv d p q < 0:=by
 rw [ZOj h]
 constructor
 ·rintro ⟨q,a,b⟩
  rw [ZE9] at b
  exact ⟨q,a,by omega⟩
 ·rintro ⟨q,a,b⟩
  refine ⟨q,a,?_⟩;rw [ZE9]; omega
theorem ZEe{α:Type}(t:List α)(c e:α)(i:Nat):(t ++ [c]).getD i e=if i < t.length then t.getD i e else if i=t.length then c else e:=by
 by_cases h:i < t.length
 ·rw [if_pos h]
  simp [Za7 h]
 ·rw [if_neg h]
  by_cases h2:i=t.length
  ·subst h2; simp
  ·rw [if_neg h2]
   simp [Za8 (by omega:t.length≤i),show i-t.length≠0 by omega]
theorem ZBM{d:Nat}{P:List (List Int)}{t:List UInt8}{c:UInt8}{z:Nat→Int} : ZC0 d P (t ++ [c]) z↔ZC0 d P t z∧SgO c (hv d (P.getD t.length []) z):=by
 constructor
 ·rintro ⟨a,h⟩
  refine ⟨⟨a,fun i hi=>?_⟩,?_⟩
  ·have:=h i (by simp; omega)
   rwa [ZEe,if_pos hi] at this
  ·have:=h t.length (by simp)
   rwa [ZEe,if_neg (by omega),if_pos rfl] at this
 ·rintro ⟨⟨a,h⟩,b⟩
  refine ⟨a,fun i hi=>?_⟩
  rw [ZEe]
  by_cases q:i < t.length
  ·rw [if_pos q]; exact h i q
  ·have:i=t.length:=by simp at hi; omega
   subst this;rw [if_neg q,if_pos rfl]; exact b
theorem ZDH{d:Nat}{P:List (List Int)}{t:List UInt8}{c:UInt8}(h:∃z,ZC0 d P t z)(hc:c=43∨c=45∨c=48):mtC (gaC d (clR P t) (P.getD t.length [])) (gaC d (clR P t) (ngL (P.getD t.length []))) c=true↔∃z,ZC0 d P (t ++ [c]) z:=by
 have i:=(ZH3 (d:=d) (rows:=clR P t) (p:=P.getD t.length [])).trans (ZOj h);have j:=(ZH3 (d:=d) (rows:=clR P t) (p:=ngL (P.getD t.length []))).trans (ZQt h);generalize gaC d (clR P t) (P.getD t.length [])=ab at *;generalize gaC d (clR P t) (ngL (P.getD t.length []))=be at *
 rcases hc with rfl | rfl | rfl
 ·rw [show mtC ab be 43=ab from rfl,i]
  exact ⟨fun ⟨q,b,a⟩=>⟨q,ZBM.2 ⟨b,.inl ⟨rfl,a⟩⟩⟩,fun ⟨q,hq⟩=>by
   obtain ⟨b,a⟩:=ZBM.1 hq
   rcases a with ⟨_,a⟩ | ⟨e,_⟩ | ⟨e,_⟩
   ·exact ⟨q,b,a⟩
   ·exact absurd e (by decide)
   ·exact absurd e (by decide)⟩
 ·rw [show mtC ab be 45=be from rfl,j]
  exact ⟨fun ⟨q,b,a⟩=>⟨q,ZBM.2 ⟨b,.inr (.inl ⟨rfl,a⟩)⟩⟩,fun ⟨q,hq⟩=>by
   obtain ⟨b,a⟩:=ZBM.1 hq
   rcases a with ⟨e,_⟩ | ⟨_,a⟩ | ⟨e,_⟩
   ·exact absurd e (by decide)
   ·exact ⟨q,b,a⟩
   ·exact absurd e (by decide)⟩
 ·rw [show mtC ab be 48=(ab == be) from rfl]
  constructor
  ·intro l
   have l:ab=be:=by simpa using l
   cases hab:ab
   ·obtain ⟨z,g⟩:=h
    refine ⟨z,ZBM.2 ⟨g,.inr (.inr ⟨rfl,?_⟩)⟩⟩
    have B:¬0 < hv d (P.getD t.length []) z:=fun q=>by
     have:=i.2 ⟨z,g,q⟩;rw [hab] at this; cases this
    have v:¬hv d (P.getD t.length []) z < 0:=fun q=>by
     have:=j.2 ⟨z,g,q⟩;rw [←l,hab] at this; cases this
    omega
   ·obtain ⟨y,f,m⟩:=i.1 hab
    obtain ⟨x,n,o⟩:=j.1 (by rw [←l]; exact hab)
    refine ⟨fun k=>(- hv d (P.getD t.length []) x)*y k+(hv d (P.getD t.length []) y)*x k,ZBM.2 ⟨f.mix n (by omega) (by omega),.inr (.inr ⟨rfl,?_⟩)⟩⟩
    rw [ZH2]; grind
  ·rintro ⟨z,g⟩
   obtain ⟨b,a⟩:=ZBM.1 g
   have r:hv d (P.getD t.length []) z=0:=by
    rcases a with ⟨e,_⟩ | ⟨e,_⟩ | ⟨_,e⟩
    ·exact absurd e (by decide)
    ·exact absurd e (by decide)
    ·exact e
   have s:ab=true→be=true:=fun q=>by
    obtain ⟨y,f,m⟩:=i.1 q;exact j.2 (b.flip f.fea r m)
   have A:be=true→ab=true:=fun q=>by
    obtain ⟨y,f,m⟩:=j.1 q
    obtain ⟨x,n,o⟩:=b.flip (p:=ngL (P.getD t.length [])) f.fea (by rw [ZE9]; omega) (by rw [ZE9]; omega)
    rw [ZE9] at o
    exact i.2 ⟨x,n,by omega⟩
   cases ab <;> cases be <;> simp_all
theorem ZG1{d:Nat}{P:List (List Int)} : ∀{k:Nat} {t:List UInt8},t∈grT d P k↔t.length=k∧∃z,ZC0 d P t z
 | 0,t=>by
  simp only [grT,List.mem_singleton]
  constructor
  ·rintro rfl
   exact ⟨rfl,fun _=>1,by simp,fun i hi=>absurd hi (by simp)⟩
  ·rintro ⟨h,_⟩
   exact List.length_eq_zero_iff.1 h
 | k+1,t=>by
  simp only [grT,List.mem_flatMap]
  constructor
  ·rintro ⟨u,hu,h⟩
   obtain ⟨hk,hz⟩:=ZG1.1 hu;simp only [grO,List.mem_map,List.mem_filter] at h;obtain ⟨c,⟨hc,hm⟩,rfl⟩:=h
   refine ⟨by simp [hk],?_⟩
   rw [←hk] at hm
   exact (ZDH hz (by simpa using hc)).1 hm
  ·rintro ⟨hl,z,hz⟩
   obtain ⟨u,c,rfl⟩:∃u c,t=u ++ [c]:=by
    refine ⟨t.dropLast,t.getLast (fun e=>by rw [e] at hl; simp at hl),?_⟩
    exact (List.dropLast_concat_getLast _).symm
   simp at hl;obtain ⟨a,b⟩:=ZBM.1 hz;refine ⟨u,ZG1.2 ⟨hl,z,a⟩,?_⟩
   have hc:c=43∨c=45∨c=48:=by
    rcases b with ⟨e,_⟩ | ⟨e,_⟩ | ⟨e,_⟩ <;> simp [e]
   simp only [grO,List.mem_map,List.mem_filter]
   refine ⟨c,⟨by simpa using hc,?_⟩,rfl⟩
   rw [←hl];exact (ZDH ⟨z,a⟩ hc).2 ⟨z,hz⟩
end Go.Proofs.YtkjkfceblmgogaaGreat
namespace Go.Proofs.YtkjkfceblmgogaaGreat
open Go.RowKit
theorem ZPh:(Tryz.prog.info? 27).map (fun i=>(i.zero,i.size,i.bytes))=some (some (.slice none 0 0),1,24):=by kernel_rfl
theorem ZBv{B:Nat}{w w':World}{a:Addr}{u:Value}(h:Below B w w')(ha:B≤a.block):Below B w (w'.setCell a u):=h.setCell ha u
def Fw(B' B:Nat)(w:World)(v:Value)(m:List (List Int)):Prop:=
 ∃vs,vs.length=m.length∧w.ownsRow B 27 1 v m.length vs∧∀i,i < m.length→Sl B' 3 w (vs.getD i (.slice none 0 0)) (ZAB (m.getD i []))
theorem Fw.nil(B' B:Nat)(w:World):Fw B' B w (.slice none 0 0) []:=
 ⟨[],rfl,World.ownsRow_nil _ _ _ _,fun i hi=>absurd hi (by simp)⟩
theorem Fw.below{B' B N:Nat}{w w':World}{v:Value}{m:List (List Int)}(h:Fw B' B w v m)(hb:Below N w w')(hN:w.heap.size≤N):Fw B' B w' v m:=by
 obtain ⟨a,b,c,d⟩:=h
 exact ⟨a,b,ZAQ c hb hN,fun i hi=>(d i hi).below hb hN⟩
theorem Fw.push{B' B:Nat}{w w':World}{v v' u:Value}{m:List (List Int)}{vs:List Value}{zs:List Int}(hBB:B'≤B)
 (h1:vs.length=m.length)(h2:w.ownsRow B 27 1 v m.length vs)(h3:∀i,i < m.length→Sl B' 3 w (vs.getD i (.slice none 0 0)) (ZAB (m.getD i [])))(hu:Sl B' 3 w u (ZAB zs))
 (ho:w'.ownsRow B 27 1 v' (m.length+1) (vs ++ [u]))(hg:w.grownBy w' v.ownBlock):Fw B' B w' v' (m ++ [zs]):=by
 have c:∀k,v.ownBlock=some k→B'≤k∧∀cur,w.heap[k]?≠some (.cells cur 3 (0,0)):=fun k hk=>⟨Zaa8 hBB (h2.lt k hk).1,(ZAt h2 (by decide) k hk).2⟩
 refine ⟨vs ++ [u],by simp [h1],by simpa using ho,fun i hi=>?_⟩
 by_cases hlt:i < m.length
 ·have a:(vs ++ [u]).getD i (.slice none 0 0)=vs.getD i (.slice none 0 0):=by
   simp only [Za2]; rw [Za7 (by omega)]
  have b:(m ++ [zs]).getD i []=m.getD i []:=by
   simp only [Za2]; rw [Za7 (by omega)]
  rw [a,b];exact (h3 i hlt).grown hg c
 ·have d:i=m.length:=by simp at hi; omega
  subst d
  have a:(vs ++ [u]).getD m.length (.slice none 0 0)=u:=by
   simp only [Za2]; rw [Za8 (by omega),h1]; simp
  have b:(m ++ [zs]).getD m.length []=zs:=by
   simp only [Za2]; rw [Za8 (by omega)]; simp
  rw [a,b];exact hu.grown hg c
structure CtI(w:World)(R Q n:Nat)(m:List (List Int))(wr:World):Prop where
 lo:w.heap.size≤R
 rq:R < Q
 res:wr.heap[R]?=some (.cells #[.int .i64 0,.slice none 0 0] 56 (0,0))
 box:∃sv,wr.heap[Q]?=some (.cells #[.int .i64 (n:Int),sv] 56 (0,0))∧Fw w.heap.size (Q+1) wr sv m
 bel:Below w.heap.size w wr
 sz:Q+1≤wr.heap.size
theorem CtI.below{w wr w2:World}{R Q n N:Nat}{m:List (List Int)}(h:CtI w R Q n m wr)(hb:Below N wr w2)(hN:wr.heap.size≤N):CtI w R Q n m w2:=by
 obtain ⟨sv,c,f⟩:=h.box;have b:=h.sz;have a:=h.rq;have d:=h.bel.size
 exact ⟨h.lo,a,(hb.block _ (by omega)).trans h.res,⟨sv,(hb.block _ (by omega)).trans c,f.below hb hN⟩,h.bel.trans (hb.mono (by omega)),Zaa8 b hb.size⟩
theorem CtI.push{w wr wx:World}{R Q n:Nat}{m:List (List Int)}{u:Value}{zs:List Int}(h:CtI w R Q n m wr)(hx:Below wr.heap.size wr wx)(hu:Sl w.heap.size 3 wx u (ZAB zs)) :
  ∃so sc vs,wx.cell? ⟨Q,1,none⟩=some (.slice so m.length sc)∧wx.ownsRow (Q+1) 27 1 (.slice so m.length sc) m.length vs∧Q+1≤wx.heap.size∧∀v' w5,w5.ownsRow (Q+1) 27 1 v' (m.length+1) (vs ++ [u])→(wx.alloc (.cells #[u] 27)).grownBy w5 (Value.slice so m.length sc).ownBlock→w5.cell? ⟨Q,1,none⟩=some (.slice so m.length sc)∧w5.frozen? ⟨Q,1,none⟩=false∧CtI w R Q n (m ++ [zs]) (w5.setCell ⟨Q,1,none⟩ v'):=by
 have c:=h.below hx (Za4 _);obtain ⟨sv,d,vs,B,j,z⟩:=c.box;obtain ⟨so,sc,rfl⟩:=ZAE j;have v:=c.sz;have l:=h.lo;have r:=h.rq
 refine ⟨so,sc,vs,by simp [World.cell?,d],j,v,fun v' w5 ho hg=>?_⟩
 have f:∀b,b < Q+1→w5.heap[b]?=wx.heap[b]?:=fun b hb=>(hg.block b (by simp; omega) (fun e=>by
  have:=(j.lt b e.symm).1
  omega)).trans (Below.heap_alloc wx _ b (by omega))
 have a:=(f Q (by omega)).trans d
 have t:wx.heap.size≤w5.heap.size:=Zaa8 (by simp) hg.size
 have p:Below w.heap.size w w5:=⟨hg.os.trans c.bel.os,hg.tape.trans c.bel.tape,hg.output.trans c.bel.output,Zaa8 c.bel.size t,fun b hb=>(f b (by omega)).trans (c.bel.block b hb)⟩
 have s:Fw w.heap.size (Q+1) w5 v' (m ++ [zs]):=Fw.push (by omega) B (j.alloc _) (fun i hi=>(z i hi).alloc _) (hu.alloc _) ho hg
 refine ⟨by simp [World.cell?,a],by simp [World.frozen?,a],l,r,?_,⟨v',?_,?_⟩,ZBv p (by show _≤Q; omega),by simp only [World.setCell,Array.size_modify]; omega⟩
 ·exact (Below.heap_setCell _ _ _ _ (by show R≠Q; omega)).trans ((f _ (by omega)).trans c.res)
 ·simp [World.setCell,Array.getElem?_modify,a]
 ·obtain ⟨o,A,x,y⟩:=s
  refine ⟨o,A,?_,fun i hi=>?_⟩
  ·refine ⟨x.1,?_⟩
   rcases x.2 with q | ⟨g,cap,cur,e1,e2,e3,e4⟩
   ·exact .inl q
   ·exact .inr ⟨g,cap,cur,e1,e2,(Below.heap_setCell _ _ _ _ (by show g≠Q; omega)).trans e3,e4⟩
  ·refine Sl.setCell (y i hi) _ ⟨(by show _≤Q; omega),fun cur=>?_⟩
   rw [show (⟨Q,1,none⟩:Addr).block=Q from rfl,a]
   simp
theorem CtI.fin{w wr:World}{R Q n:Nat}{m:List (List Int)}(h:CtI w R Q n m wr):∃so sc,wr.cell? ⟨Q,0,none⟩=some (.int .i64 (n:Int))∧wr.cell? ⟨Q,1,none⟩=some (.slice so m.length sc)∧wr.cell? ⟨R,0,none⟩=some (.int .i64 0)∧wr.cell? ⟨R,1,none⟩=some (.slice none 0 0)∧wr.frozen? ⟨R,0,none⟩=false∧wr.frozen? ⟨R,1,none⟩=false∧Mat w.heap.size 27 3 ((wr.setCell ⟨R,0,none⟩ (.int .i64 (n:Int))).setCell ⟨R,1,none⟩ (.slice so m.length sc)) (.slice so m.length sc) m∧Below w.heap.size w ((wr.setCell ⟨R,0,none⟩ (.int .i64 (n:Int))).setCell ⟨R,1,none⟩ (.slice so m.length sc)):=by
 obtain ⟨sv,b,f,o,d,l⟩:=h.box;obtain ⟨so,sc,rfl⟩:=ZAE d;have a:=h.res;have j:=h.rq
 have c:(wr.setCell ⟨R,0,none⟩ (.int .i64 (n:Int))).heap[R]?=some (.cells #[.int .i64 (n:Int),.slice none 0 0] 56 (0,0)):=by simp [World.setCell,Array.getElem?_modify,a]
 refine ⟨so,sc,by simp [World.cell?,b],by simp [World.cell?,b],by simp [World.cell?,a],by simp [World.cell?,a],by simp [World.frozen?,a],by simp [World.frozen?,a],⟨f,o,?_,fun i hi=>?_⟩,ZBv (ZBv h.bel h.lo) h.lo⟩
 ·refine Sl.own (base:=Q+1) ⟨d.1,?_⟩
  rcases d.2 with h1 | ⟨g,cap,cur,e1,h2,h3,h4⟩
  ·exact .inl h1
  ·exact .inr ⟨g,cap,cur,e1,h2,(Below.heap_setCell _ _ _ _ (by show g≠R; omega)).trans ((Below.heap_setCell _ _ _ _ (by show g≠R; omega)).trans h3),h4⟩
 ·refine Sl.setCell (Sl.setCell (l i hi) _ ⟨h.lo,fun cur=>?_⟩) _ ⟨h.lo,fun cur=>?_⟩
  ·rw [show (⟨R,0,none⟩:Addr).block=R from rfl,a]
   simp
  ·rw [show (⟨R,1,none⟩:Addr).block=R from rfl,c]
   simp
theorem CtI.start(w wr:World)(R n:Nat)(hlo:w.heap.size≤R)(hR:wr.heap[R]?=some (.cells #[.int .i64 0,.slice none 0 0] 56 (0,0)))(hb:Below w.heap.size w wr):CtI w R wr.heap.size n [] (wr.alloc (.cells #[.int .i64 (n:Int),.slice none 0 0] 56)):=by
 have a:=(Zaa3.1 hR).1
 exact ⟨hlo,a,(Below.heap_alloc _ _ _ a).trans hR,⟨.slice none 0 0,heap_alloc_new wr _,Fw.nil _ _ _⟩,hb.alloc hb.size _,by simp⟩
theorem Sl.cutC{B:Nat}{w:World}{a:Addr}{n c c' d:Nat}{l:List Int}(h:Sl B 3 w (.slice (some a) n c) (ZAB l))(hd:d≤l.length)(h1:d≤c')(h2:c'≤maxLen):Sl B 3 w (.slice (some a) d c') (ZAB (l.take d)):=by
 obtain ⟨p,j,hv,_,_,m,_⟩:=h;simp only [Za3] at hv;obtain ⟨rfl,_,_⟩:=hv
 refine ⟨some a,c',by simp [show min d l.length=d by omega],by simp; omega,h2,fun i hi=>?_,fun e=>by cases e⟩
 simp at hi
 obtain ⟨b,o,e,g,f⟩:=m i (by simp; omega)
 refine ⟨b,o,e,g.trans ?_,f⟩
 rw [ZAZ _ _ (by omega),ZAZ _ _ (by simp; omega)]
 simp [show i < d by omega]
theorem ZLR{a:Addr}{n c d:Nat}(h1:d≤n)(h2:n≤c)(w:World):(Instr.slice 27 (.slice (some a) n c) none (some (.int .i64 (d:Int))) none).run Tryz.prog w=.ok (.slice (some a) d c) w:=by
 have b:(0:Int)≤(d:Int)∧(d:Int)≤(c:Int):=by omega
 have g:d≤c:=by omega
 have f:∀w,(Go.sizeOf 3).run Tryz.prog w=.ok 1 w:=fun w=>by kernel_rfl
 simp [Instr.slice,Instr.sliceBounds,Instr.sliceBound,run_underlying Tryz.underlying27,asIntOf,b,g,f,Addr.add,go_sem]
theorem Sl.iterAt{B:Nat}{e:TypeId}{w:World}{v:Value}{xs:List Value}(h:Sl B e w v xs){k:Nat}{s:ByteArray}{pos:Nat}(hB:B≤k)(hk:w.heap[k]?=some (.stringIter s pos))(pos':Nat):Sl B e (w.iterAt k s pos') v xs:=
 h.move fun b hl ht=>⟨Lib.iterAt_other w k b s pos' (fun e1=>by
  rcases ht with ht | ⟨cur,ht⟩
  ·omega
  ·rw [e1,hk] at ht; cases ht),ht⟩
theorem ZEf{w:World}{B e size n:Nat}{v:Value}{xs:List Value}{k:Nat}{s:ByteArray}{pos:Nat}(h:w.ownsRow B e size v n xs)(hk:w.heap[k]?=some (.stringIter s pos))(pos':Nat):(w.iterAt k s pos').ownsRow B e size v n xs:=by
 refine ⟨h.1,?_⟩
 rcases h.2 with q | ⟨g,cap,cur,e1,e2,e3,e4⟩
 ·exact .inl q
 ·exact .inr ⟨g,cap,cur,e1,e2,(Lib.iterAt_other w k g s pos' (fun e=>by rw [e,hk] at e3; cases e3)).trans e3,e4⟩
theorem Fw.iterAt{B' B:Nat}{w:World}{v:Value}{m:List (List Int)}(h:Fw B' B w v m){k:Nat}{s:ByteArray}{pos:Nat}(hB:B'≤k)(hk:w.heap[k]?=some (.stringIter s pos))(pos':Nat):Fw B' B (w.iterAt k s pos') v m:=by
 obtain ⟨a,b,c,d⟩:=h
 exact ⟨a,b,ZEf c hk pos',fun i hi=>(d i hi).iterAt hB hk pos'⟩
theorem CtI.iterAt{w wr:World}{R Q n:Nat}{m:List (List Int)}(h:CtI w R Q n m wr){k:Nat}{s:ByteArray}{pos:Nat}(hk:wr.heap[k]?=some (.stringIter s pos))(pos':Nat)(hlo:w.heap.size≤k):CtI w R Q n m (wr.iterAt k s pos'):=by
 obtain ⟨sv,b,c⟩:=h.box;have a:=h.res
 exact ⟨h.lo,h.rq,(Lib.iterAt_other wr k R s pos' (fun e=>by rw [e,hk] at a; cases a)).trans a,⟨sv,(Lib.iterAt_other wr k Q s pos' (fun e=>by rw [e,hk] at b; cases b)).trans b,c.iterAt hlo hk pos'⟩,Lib.below_iterAt h.bel hlo s pos',by rw [Lib.iterAt_size]; exact h.sz⟩
end Go.Proofs.YtkjkfceblmgogaaGreat
namespace Go.Proofs.YtkjkfceblmgogaaGreat
open Go.RowKit Lin
attribute [local go_sem ↓] Go.wp_at_zero Go.wp_at_succ
theorem ZPi{d:Nat}{rows:List (List Int)}{g:List Int}{a b:Int}(hc:CutOk d rows)(hgl:g.length=d)(hgb:∀z∈g,z.natAbs≤20)(h:ZJo d rows g a b):a.natAbs≤400000000∧b.natAbs≤400000000:=by
 rcases h with ⟨_,rfl,rfl⟩ | ⟨y,h0,hy,hl⟩
 ·exact ⟨by decide,by decide⟩
 ·have c:=ZLJ hc hgl hgb (ZDa hy)
  have f:=ZI1 c hc.rw;have l:=c.ub;obtain ⟨_,i,j⟩:=ZG0 hl
  constructor <;> omega
theorem ZG2(d:Nat)(rows:List (List Int))(p:List Int)(v pv:Value)(w:World){B0 B1:Nat}(hv:Mat B0 27 3 w v rows)(hp:Sl B1 3 w pv (ZAB p))(hc:CutOk d rows)(hpl:p.length=d+1)(hpb:∀z∈p,z.natAbs≤20)(hf:∃x y,Fea d rows x y) :
  Calls Tryz.prog 72 #[.agg #[.int .i64 d,v],pv] w fun e w'=>e=.returned (.bool (gaC d rows p))∧Below w.heap.size w w':=by
 obtain ⟨U,T,ak,aE,aw⟩:=ZAD hv;obtain ⟨po,Y,M,P,aA⟩:=ZAI hp;rw [hpl] at M;subst ak M
 obtain ⟨pa,rfl⟩:∃pa,po=some pa:=by
  obtain ⟨ao,R,s,_,_,N,_⟩:=hp
  obtain ⟨b,o,e,_⟩:=N 0 (by simp; omega)
  simp only [Za3] at s;exact ⟨_,s.1.trans e⟩
 obtain ⟨B,g,aa⟩:∃B g,pa=⟨B,g,none⟩:=by
  obtain ⟨ao,R,s,_,_,N,_⟩:=hp
  obtain ⟨b,o,e,_⟩:=N 0 (by simp; omega)
  simp only [Za3] at s;have:=s.1.trans e
  exact ⟨b,o,by simpa using this⟩
 subst aa;obtain ⟨W,hW,D,af,G⟩:=ZCQ w d (.slice U rows.length T);have an:=hid hW
 have m:Hid (∀X,Below W.heap.size W X→Below w.heap.size w X):=fun X hX=>D.trans (hX.mono D.size)
 have F:=hid G
 have A:(p.take d).length=d:=by simp; omega
 have t:∀z∈p.take d,z.natAbs≤20:=fun z hz=>hpb z (Zaa7 hz)
 have ai:Hid (∀X,Below W.heap.size W X→Calls Tryz.prog 97 #[.agg #[.int .i64 d,.slice U rows.length T],.slice (some ⟨B,g,none⟩) d Y] X fun e w'=>∃a b,e=.returned (.tuple #[.int .i64 a,.int .i64 b,.int .i64 (gmE d rows (p.take d))])∧ZJo d rows (p.take d) a b∧Below W.heap.size W w'):=fun X hX=>by
  have O:=m.out X hX
  refine (ZNa d rows (p.take d) _ _ X (hv.below O (Za4 _)) ((hp.below O (Za4 _)).cutC (by omega) (by omega) (by unfold maxLen; omega)) hc A t).mono ?_
  rintro e w' ⟨a,b,rfl,h1,h2⟩;exact ⟨a,b,rfl,h1,hX.trans (h2.mono hX.size)⟩
 have ae:Hid (∀X,Below W.heap.size W X→X.cell? ⟨B,g+d,none⟩=some (.int .i64 (V p d))):=fun X hX=>by
  obtain ⟨ao,R,s,_,_,N,_⟩:=hp.below (m.out X hX) (Za4 _)
  obtain ⟨b,o,e,aq,_⟩:=N d (by simp; omega)
  simp only [Za3] at s;have:=s.1.trans e;simp only [Zaa9,Addr.mk.injEq] at this;obtain ⟨rfl,rfl,_⟩:=this
  rw [aq,ZAZ _ _ (by omega)]
  rfl
 have ah:Hid (∀a b,ZJo d rows (p.take d) a b→(decide (gmE d rows (p.take d)=7) || decide (V p d*b < a))=gaC d rows p∧a.natAbs≤400000000∧b.natAbs≤400000000):=fun a b O=>by
  refine ⟨?_,ZPi hc A t O⟩;have:=(ZQs hpl hf O).trans ZH3.symm;rw [Bool.eq_iff_iff,←this];simp
 have aj:(V p d).natAbs≤20:=hpb _ (by simp [V,hpl])
 have aF:=hc.d3
 have aB:=fun w=>ZLR (a:=⟨B,g,none⟩) (n:=d+1) (c:=Y) (d:=d) (by omega) (by omega) w
 have ag:=P;rw [hpl] at ag;obtain ⟨c0,c1⟩:=G W (Below.refl _ _);clear hv hp hc hpl hpb hf hW D af G A t P;generalize gmE d rows (p.take d)=E at *;generalize hvp:V p d=vd at *;clear hvp;go_enter Tryz.func72,Tryz.ntmps72
 go_upto_region 1 with fail
 rw [←an.out]
 refine wp_region_held_drew (S:=fun X=>Below W.heap.size W X∧X.cell? ⟨w.heap.size,0,none⟩=some (.int .i64 d)∧X.cell? ⟨w.heap.size,1,none⟩=some (.slice U rows.length T)) (by kernel_rfl) ⟨(Below.refl _ _).drew,F.out _ (Below.refl _ _).drew⟩ (fun hHeld=>?_)
 refine ZAA (i:=0) (d:=9) (v:=(.agg #[.int .i64 d,.slice U rows.length T])) rfl rfl (by kernel_rfl) (by kernel_rfl) (by kernel_rfl) (fun _ _ _ h=>h) (.inl ⟨by rfl,by (intro l f; (try dsimp only at f); go_simp; (try (first | rfl | omega)))⟩) hHeld ?_
 simp only [Act.put,Za1,List.set]
 refine ZAA (i:=1) (d:=10) (v:=(.slice (some ⟨B,g,none⟩) (d+1) Y)) rfl rfl (by kernel_rfl) (by kernel_rfl) (by kernel_rfl) (fun _ _ _ h=>h) (.inl ⟨by rfl,by (intro l f; (try dsimp only at f); go_simp; (try (first | rfl | omega)))⟩) hHeld ?_
 simp only [Act.put,Za1,List.set]
 refine ZAA (i:=2) (d:=11) (v:=(.pointer (some ⟨w.heap.size,0,none⟩))) rfl rfl (by kernel_rfl) (by kernel_rfl) (by kernel_rfl) (fun _ _ _ h=>h) (.inl ⟨by rfl,by (intro l f; (try dsimp only at f); go_simp; (try (first | rfl | omega)))⟩) hHeld ?_
 simp only [Act.put,Za1,List.set]
 refine ZAA (i:=3) (d:=12) (v:=(.int .i64 d)) rfl rfl (by kernel_rfl) (by kernel_rfl) (by kernel_rfl) (fun _ _ _ h=>h) (.inl ⟨by rfl,by (intro l f; (try dsimp only at f); go_simp; (try (first | rfl | omega)))⟩) hHeld ?_
 simp only [Act.put,Za1,List.set]
 refine ZAA (i:=4) (d:=13) (v:=(.slice (some ⟨B,g,none⟩) d Y)) rfl rfl (by kernel_rfl) (by kernel_rfl) (by kernel_rfl) (fun _ _ _ h=>h) (.inl ⟨by rfl,by (intro l f; (try dsimp only at f); go_simp; (try (first | rfl | omega)))⟩) hHeld ?_
 simp only [Act.put,Za1,List.set]
 refine wpAnyH_ready (rs:=[5]) (by kernel_rfl) (by simp) ?_
 refine ZAF (i:=5) rfl (by rfl) (fun K hK=>?_) AllReadyH.nil
 go_simp;refine (ai.out _ (Below.refl _ _).drew).mono ?_;rintro e w5 ⟨a,b,rfl,J,j⟩
 refine hK.out _ _ ⟨j,F.out w5 j⟩ (fun hHeld=>?_)
 clear hK K;obtain ⟨r,aC,am⟩:=ah.out a b J
 refine ZAA (i:=6) (d:=8) (v:=(.tuple #[.int .i64 a,.int .i64 b,.int .i64 E])) rfl rfl (by kernel_rfl) (by kernel_rfl) (by kernel_rfl) (fun _ _ _ h=>h) (.inl ⟨by rfl,by (intro l f; (try dsimp only at f); go_simp; (try (first | rfl | omega)))⟩) hHeld ?_
 simp only [Act.put,Za1,List.set]
 refine ZAA (i:=7) (d:=15) (v:=(.int .i64 a)) rfl rfl (by kernel_rfl) (by kernel_rfl) (by kernel_rfl) (fun _ _ _ h=>h) (.inl ⟨by rfl,by (intro l f; (try dsimp only at f); go_simp; (try (first | rfl | omega)))⟩) hHeld ?_
 simp only [Act.put,Za1,List.set]
 refine ZAA (i:=8) (d:=16) (v:=(.int .i64 b)) rfl rfl (by kernel_rfl) (by kernel_rfl) (by kernel_rfl) (fun _ _ _ h=>h) (.inl ⟨by rfl,by (intro l f; (try dsimp only at f); go_simp; (try (first | rfl | omega)))⟩) hHeld ?_
 simp only [Act.put,Za1,List.set]
 refine ZAA (i:=9) (d:=17) (v:=(.int .i64 E)) rfl rfl (by kernel_rfl) (by kernel_rfl) (by kernel_rfl) (fun _ _ _ h=>h) (.inl ⟨by rfl,by (intro l f; (try dsimp only at f); go_simp; (try (first | rfl | omega)))⟩) hHeld ?_
 simp only [Act.put,Za1,List.set]
 refine ZAA (i:=10) (d:=5) (v:=(.int .i64 a)) rfl rfl (by kernel_rfl) (by kernel_rfl) (by kernel_rfl) (fun _ _ _ h=>h) (.inl ⟨by rfl,by (intro l f; (try dsimp only at f); go_simp; (try (first | rfl | omega)))⟩) hHeld ?_
 simp only [Act.put,Za1,List.set]
 refine ZAA (i:=11) (d:=6) (v:=(.int .i64 b)) rfl rfl (by kernel_rfl) (by kernel_rfl) (by kernel_rfl) (fun _ _ _ h=>h) (.inl ⟨by rfl,by (intro l f; (try dsimp only at f); go_simp; (try (first | rfl | omega)))⟩) hHeld ?_
 simp only [Act.put,Za1,List.set]
 refine ZAA (i:=12) (d:=7) (v:=(.int .i64 E)) rfl rfl (by kernel_rfl) (by kernel_rfl) (by kernel_rfl) (fun _ _ _ h=>h) (.inl ⟨by rfl,by (intro l f; (try dsimp only at f); go_simp; (try (first | rfl | omega)))⟩) hHeld ?_
 simp only [Act.put,Za1,List.set]
 refine wpAnyH_done (by kernel_rfl) ?_ _
 have Q:=hid j;obtain ⟨ar,aD⟩:=F.out w5 j;have c2:=ae.out w5 j
 have au:IntKind.i64.wrap (vd*b)=vd*b:=by
  have:(vd*b).natAbs≤20*400000000:=by rw [Int.natAbs_mul]; exact Nat.mul_le_mul aj am
  rw [IntKind.wrap_i64]; omega
 have L:=hid r;clear hHeld j J r c0 c1
 by_cases h7:E=7
 ·subst h7
  go_wp2;go_ret;refine ⟨?_,m.out _ Q.out⟩;rw [←L.out];simp
 ·have az:decide (E=7)=false:=by simpa using h7
  have ay:(E == 7)=false:=by simpa using h7
  go_wp2;go_ret;refine ⟨?_,m.out _ Q.out⟩;rw [←L.out];simp [h7]
end Go.Proofs.YtkjkfceblmgogaaGreat
namespace Go.Proofs.YtkjkfceblmgogaaGreat
open Go
def ZOk(o:Oper):Bool:=match o.op with
 | .defer _=>false
 | _=>true
theorem ZI4{ops:Array Oper}(h:ops.all ZOk=true):∀(i:Nat) (o:Oper),ops[i]?=some o→∀c,o.op≠.defer c:=by
 intro i o b c a;obtain ⟨d,rfl⟩:=Zaa3.1 b;have:=Array.all_eq_true.1 h i d;unfold ZOk at this;rw [a] at this
 cases this
def Nrm(K:Act→World→Prop):Exit→Act→World→Prop
 | .normal,a,w=>K a w
 | _,_,_=>False
theorem ZI5{K:Act→World→Prop}(h:LetsOut (Nrm K)):False:=by
 obtain ⟨a,w,h⟩:=h;exact h
theorem ZJp{P:Program}{L n:Nat}{row:String}{args:Array Value}{w:World}{R:Value→World→Prop}(h:Rows P row args w R):RowsIn (Fence.wide.inRound L) n P row args w R:=by
 intro c cs _;obtain ⟨v,a,d,b⟩:=h c cs;exact ⟨v,a,d,stepsIn_wide.2 b⟩
theorem ZNd{P:Program}{L n:Nat}{ops:Array Oper}{K0:Act→World→Prop}{Q:Exit→Act→World→Prop}{K K':Act→World→Prop}{i:Nat}{a:Act}{w:World}(hd:∀o,ops[i]?=some o→∀c,o.op≠.defer c)
 (hK:∀a w,K a w→K' a w)(h:wpOp P ops (Nrm K0) i K a w):wpOpIn (Fence.wide.inRound L) n P ops Q i K' a w:=by
 unfold wpOp at h;unfold wpOpIn
 cases ho:ops[i]? with
 | none=>
  rw [ho] at h;exact hK _ _ h
 | some o=>
  rw [ho] at h;simp only at h ⊢
  by_cases hw:Region.wanted o (yielded ops a.tmps)=true
  ·rw [if_pos hw] at h ⊢
   rcases h with h | ⟨_,h⟩
   ·refine ⟨fun f _=>trivial,?_⟩
    have b:o.semAt (Fence.wide.inRound L).round a.eval=execOp a.eval o:=Oper.semAt_plain (Fence.wide.inRound L) _ _ (hd o ho);rw [b];unfold Oper.wp at h;generalize (execOp a.eval o).run P w=r at *
    cases r with
    | ok nx w'=>
     cases nx with
     | value v=>exact hK _ _ h
     | skip=>exact hK _ _ h
     | defer d=>exact hK _ _ h
     | enter f args=>
      refine ⟨fun hx=>(by cases hx),?_⟩
      refine CallsIn.inRound L (callsIn_wide.2 (Calls.mono h ?_));intro e j g
      cases e with
      | returned v=>exact hK _ _ g
      | panicked c=>exact g.elim
      | outgrown=>exact (ZI5 g).elim
     | row row args=>
      refine ⟨fun hx=>(by cases hx),ZJp (Rows.mono h fun v j g=>hK _ _ g)⟩
     | _=>exact h.elim
    | halt x w'=>
     cases x <;> exact h.elim
   ·exact (ZI5 h).elim
  ·rw [if_neg hw] at h ⊢
   exact ⟨fun f _=>trivial,hK _ _ h⟩
theorem ZEg{P:Program}{L n:Nat}{md:Region.Mode}{ops:Array Oper}{S:World→Prop}{K:Act→World→Prop}{Q:Exit→Act→World→Prop}(hd:∀(i:Nat) (o:Oper),ops[i]?=some o→∀c,o.op≠.defer c)(hQ:∀a w,K a w→Q .normal a w) :
  ∀(fuel:Nat) (listed:Array Bool) (a:Act) (w:World),wpAnyH P md ops (Nrm K) S fuel listed a w→wpAnyIn (Fence.wide.inRound L) n P md ops Q fuel listed a w
 | 0,_,_,_,h=>⟨h.1,hQ _ _ h.2⟩
 | fuel+1,_,_,_,h=>⟨fun hr=>hQ _ _ (h.1 hr),fun i hi=>ZNd (hd i) (fun a' w' h'=>ZEg hd hQ fuel _ a' w' h'.2) (h.2 i hi)⟩
theorem ZCR{P:Program}{L n id:Nat}{ops:Array Oper}(S:World→Prop){K:Act→World→Prop}{Q:Exit→Act→World→Prop}{a:Act}{w:World}(hm:P.follows .mixedOrders=true)(hd:∀(i:Nat) (o:Oper),ops[i]?=some o→∀c,o.op≠.defer c)(hQ:∀a w,K a w→Q .normal a w)
 (hS:S w.drew)(h:S w.drew→wpAnyH P .any ops (Nrm K) S ops.size (Array.replicate ops.size false) a w.drew):(Code.region id ops true).wpIn (Fence.wide.inRound L) n P Q a w:=
 wpIn_region_any hm (ZEg hd hQ _ _ _ _ (h hS))
end Go.Proofs.YtkjkfceblmgogaaGreat
namespace Go.Proofs.YtkjkfceblmgogaaGreat
open Go Go.RowKit
theorem ZG3{L:List Bool} : ∀{i:Nat},L[i]?=some false→(L.set i true).count false+1=L.count false:=by
 induction L with
 | nil=>intro i h; simp at h
 | cons x L ih=>
  intro i h
  cases i with
  | zero=>
   simp only [List.getElem?_cons_zero,Zaa9] at h;subst h;simp
  | succ i=>
   simp only [List.getElem?_cons_succ] at h;have:=ih h
   cases x <;> simp <;> omega
theorem ZDx{md:Region.Mode}{ops:Array Oper}{L:Array Bool}{i:Nat}(h:i∈Region.ready md ops L):L[i]?=some false:=by
 unfold Region.ready at h;have:=(List.mem_filter.1 h).2;simp only [Bool.and_eq_true,Bool.not_eq_true'] at this;have a:=this.1;rw [Array.getD_eq_getD_getElem?] at a
 cases hx:L[i]? with
 | none=>rw [hx] at a; simp at a
 | some b=>rw [hx] at a; simp at a; rw [a]
theorem ZJq{P:Program}{md:Region.Mode}{ops:Array Oper}{Q:Exit→Act→World→Prop}(Inv:Array Bool→Act→World→Prop)
 (hstep:∀L a w i,Inv L a w→i∈Region.ready md ops L→wpOp P ops Q i (fun a' w'=>Inv (L.setIfInBounds i true) a' w') a w)
 (hend:∀L a w,Inv L a w→Region.ready md ops L=[]→Q .normal a w) :
  ∀(fuel:Nat) (L:Array Bool) (a:Act) (w:World),Inv L a w→L.toList.count false≤fuel→wpAnyH P md ops Q (fun _=>True) fuel L a w
 | 0,L,a,w,h,hf=>by
  have hr:Region.ready md ops L=[]:=by
   refine List.eq_nil_iff_forall_not_mem.2 fun i hi=>?_
   have b:=ZDx hi;rw [←Array.getElem?_toList] at b;have:=List.count_pos_iff.2 (List.mem_of_getElem? b);omega
  exact ⟨hr,hend L a w h hr⟩
 | fuel+1,L,a,w,h,hf=>by
  refine ⟨fun hr=>hend L a w h hr,fun i hi=>?_⟩
  have b:=ZDx hi
  refine wpOp_mono (fun a' w' h'=>⟨trivial,ZJq Inv hstep hend fuel _ a' w' h' ?_⟩) (hstep L a w i h hi)
  rw [←Array.getElem?_toList] at b;have:=ZG3 b;rw [Array.toList_setIfInBounds];omega
theorem ZB9{P:Program}{ops:Array Oper}{Q:Exit→Act→World→Prop}{i:Nat}{K:Act→World→Prop}{a:Act}{w:World}{o:Oper}(ho:ops[i]?=some o)(hg:o.guard=none)
 (h:∀K':Act→World→Prop,Hid (∀a' w',K a' w'→K' a' w')→o.wp P a w K' Q):wpOp P ops Q i K a w:=by
 unfold wpOp;rw [ho]
 have b:Region.wanted o (yielded ops a.tmps)=true:=by simp [Region.wanted,hg]
 simp only [b,if_true]
 exact Or.inl (h K (fun _ _ h=>h))
end Go.Proofs.YtkjkfceblmgogaaGreat
