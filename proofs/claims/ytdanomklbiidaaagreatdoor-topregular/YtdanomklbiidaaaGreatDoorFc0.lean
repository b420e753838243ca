import Derived.Test.YtdanomklbiidaaaGreatDoorMgBD
import Derived.Test.YtdanomklbiidaaaGreatDoorMgAS
import Derived.Test.YtdanomklbiidaaaGreatDoorMgAR
namespace Go.Proofs.YtdanomklbiidaaaGreatDoor
open Lin
theorem clo_all {n:Nat} {S A:List Nat} (h:Clo n S A A.length) {a:Nat} (ha:Itr n S a):a∈A:=by
 induction ha with
 | full=>rw [←h.hd.2]; simp [h.hd.1]
 | cut _ ht ih=>
  obtain ⟨j,hj,rfl⟩:=List.getElem_of_mem ih
  have:=h.cl j hj _ ht
  simpa [hj] using this
theorem clo_iff {n:Nat} {S A:List Nat} (h:Clo n S A A.length) {a:Nat} : a∈A↔Itr n S a:=⟨h.gen a,clo_all h⟩
theorem itr_rows {C s:List (List Int)} {a:Nat} (h:Itr C.length (s.map (sdN C)) a):∃R:List (List Int),(∀r∈R,r∈s)∧∀k,a.testBit k=(decide (k < C.length) && R.all fun r=>decide (overL r (C.getD k [])=0)):=by
 induction h with
 | full=>exact ⟨[],fun r hr=>(by cases hr),fun k=>by rw [Nat.testBit_two_pow_sub_one]; simp⟩
 | cut _ ht ih=>
  obtain ⟨R,h1,h2⟩:=ih
  obtain ⟨r,hr,rfl⟩:=List.mem_map.1 ht
  refine ⟨r :: R,fun q hq=>?_,fun k=>?_⟩
  ·rcases List.mem_cons.1 hq with rfl | hq
   ·exact hr
   ·exact h1 q hq
  ·rw [Nat.testBit_and,h2 k]
   unfold sdN
   rw [sdTo_bit,List.all_cons]
   cases decide (k < C.length) <;> cases decide (overL r (C.getD k [])=0) <;> simp
theorem rows_itr {C s:List (List Int)} : ∀R:List (List Int),(∀r∈R,r∈s)→∃a,Itr C.length (s.map (sdN C)) a∧∀k,a.testBit k=(decide (k < C.length) && R.all fun r=>decide (overL r (C.getD k [])=0))
 | [],_=>⟨_,.full,fun k=>by rw [Nat.testBit_two_pow_sub_one]; simp⟩
 | r :: R,h=>by
  obtain ⟨a,h1,h2⟩:=rows_itr R fun q hq=>h q (by simp [hq])
  refine ⟨a &&& sdN C r,.cut h1 (List.mem_map.2 ⟨r,h r (by simp),rfl⟩),fun k=>?_⟩
  rw [Nat.testBit_and,h2 k]
  unfold sdN
  rw [sdTo_bit,List.all_cons]
  cases decide (k < C.length) <;> cases decide (overL r (C.getD k [])=0) <;> simp
theorem mem_pts {C:List (List Int)} {a:Nat} (ha:a < 2 ^ C.length) (hC:C.length≤16) {y:List Int} : y∈pks C [] (memL a)↔∃k,k < C.length∧a.testBit k=true∧C.getD k []=y:=by
 have hlt:a < 2 ^ 64:=Nat.lt_of_lt_of_le ha (Nat.pow_le_pow_right (by decide) (by omega))
 unfold pks
 simp only [List.mem_map]
 constructor
 ·rintro ⟨x,hx,rfl⟩
  obtain ⟨k,rfl,hk⟩:=(mem_memL hlt).1 hx
  refine ⟨k,Nat.lt_of_not_le fun hle=>?_,hk,by simp⟩
  have:=Nat.testBit_lt_two_pow (Nat.lt_of_lt_of_le ha (Nat.pow_le_pow_right (by decide) hle))
  rw [this] at hk
  cases hk
 ·rintro ⟨k,hk,hb,rfl⟩
  exact ⟨(k:Int),(mem_memL hlt).2 ⟨k,rfl,hb⟩,by simp⟩
theorem par_side {d:Nat} {p:List (List Int)} (hp:∀y∈p,y.length=d) (hl:(pickL d (diffL p)).length+1=d) {u v:Nat→Int} {x0:List Int} (hx0:x0∈p) (hu:∀y∈p,dot d u (V y)=dot d u (V x0)) (hv:∀y∈p,dot d v (V y)=dot d v (V x0)) (hune:∃i,i < d∧u i≠0) :
  ∃m l:Int,m≠0∧∀i,i < d→m*v i=l*u i:=by
 obtain ⟨⟨j0,hj0,hj⟩,_,h3⟩:=norm_spec hl
 have hpar:∀c:Nat→Int,(∀y∈p,dot d c (V y)=dot d c (V x0))→Par d c (V (normL d (diffL p))):=fun c hc=>h3 c fun r hr=>by
  unfold diffL at hr
  obtain ⟨y,hy,rfl⟩:=List.mem_map.1 hr
  have hy':=List.mem_of_mem_drop hy
  have h0:p.getD 0 []∈p:=by
   have:0 < p.length:=List.length_pos_of_mem hx0
   simp [this]
  rw [dot_comm,dot_subL c (hp y hy'),hc y hy',hc _ h0]
  omega
 have pu:=hpar u hu
 have pv:=hpar v hv
 obtain ⟨N,hN⟩:∃N,N=V (normL d (diffL p)):=⟨_,rfl⟩
 rw [←hN] at pu pv hj
 have huj:u j0≠0:=fun e=>by
  obtain ⟨i,hi,hne⟩:=hune
  have:=pu i j0 hi hj0
  rw [e,Int.zero_mul] at this
  rcases Int.mul_eq_zero.1 this with h | h
  ·exact hne h
  ·exact hj h
 refine ⟨u j0,v j0,huj,fun i hi=>?_⟩
 have h1:=pu i j0 hi hj0
 have h2:=pv i j0 hi hj0
 -- N j0*(u j0*v i)=N j0*(v j0*u i)
 have:N j0*(u j0*v i)=N j0*(v j0*u i):=by
  have a1:N j0*(u j0*v i)=u j0*(v i*N j0):=by grind
  have a2:N j0*(v j0*u i)=v j0*(u i*N j0):=by grind
  rw [a1,a2,h1,h2]
  grind
 exact Int.eq_of_mul_eq_mul_left hj this
theorem dot_mulL {d:Nat} {m l:Int} {u v:Nat→Int} (h:∀i,i < d→m*v i=l*u i) (z:Nat→Int):m*dot d v z=l*dot d u z:=by
 unfold dot
 rw [←sumN_mul,←sumN_mul]
 exact sumN_congr fun i hi=>by rw [←Int.mul_assoc,h i hi,Int.mul_assoc]
structure FcC (d:Nat) (C s:List (List Int)):Prop where
 g:Good d C
 n16:C.length≤16
 asc:SAsc C
 rows:∀r,r∈s↔r∈rowsC C [] d C
 srt:SAsc s
 one:∀x∈C,∀y∈C,(∀r∈s,overL r x=0→overL r y=0)→y=x
theorem FcC.len {d:Nat} {C s:List (List Int)} (h:FcC d C s) {r:List Int} (hr:r∈s):RowOf d C r:=
 rowsC_fit h.g.box h.g.d1 (by have:=h.g.d4; omega) (fun _=>Iff.rfl) ((h.rows r).1 hr)
theorem FcC.over {d:Nat} {C s:List (List Int)} (h:FcC d C s) {r y:List Int} (hr:r∈s) (hy:y∈C):overL r y=0↔r.getD d 0=dot d (V r) (V y):=
 over_zero (h.len hr).len (h.g.box y hy).1
theorem sasc_nodup {s:List (List Int)} (h:SAsc s):s.Nodup:=by
 refine List.Pairwise.imp (fun {a b} hab e=>?_) h
 subst e
 have:∀l:List Int,cmpL l l=0:=fun l=>by
  induction l with
  | nil=>rfl
  | cons x xs ih=>simp [cmpL,ih]
 rw [this] at hab
 omega
theorem sasc_idx {C:List (List Int)} (h:SAsc C) {j k:Nat} (hj:j < C.length) (hk:k < C.length) (he:C[j]=C[k]):j=k:=by
 have hn:=List.pairwise_iff_getElem.1 (sasc_nodup h)
 rcases Nat.lt_trichotomy j k with h1 | h1 | h1
 ·exact absurd he (hn j k hj hk h1)
 ·exact h1
 ·exact absurd he.symm (hn k j hk hj h1)
theorem row_ne0 {d:Nat} {C:List (List Int)} (hg:Good d C) {r:List Int} (hr:r∈rowsC C [] d C):∃i,i < d∧V r i≠0:=by
 obtain ⟨_,_,_,h,_⟩:=row_one (fun y hy=>(hg.box y hy).1) hg.d1 hr
 exact h
theorem side_dim {d:Nat} {C s:List (List Int)} (h:FcC d C s) {r:List Int} (hr:r∈s):Itr C.length (s.map (sdN C)) (sdN C r)∧dimL d C (sdN C r)=(d:Int)-1:=by
 have hrC:=(h.rows r).1 hr
 have hg:=h.g
 have hC:=h.n16
 have hlt:=sdTo_lt C r C.length
 refine ⟨?_,?_⟩
 ·have:Itr C.length (s.map (sdN C)) ((2 ^ C.length-1) &&& sdN C r):=.cut .full (List.mem_map.2 ⟨r,hr,rfl⟩)
  rwa [Nat.and_comm,Nat.and_two_pow_sub_one_eq_mod,Nat.mod_eq_of_lt (show sdN C r < 2 ^ C.length from hlt)] at this
 ·have hz:∀y∈C,(overL r y=0↔r.getD d 0=dot d (V r) (V y)):=fun y hy=>h.over hr hy
  have hrk:=side_rank hg hrC (p:=pks C [] (memL (sdN C r))) (fun y=>by
   rw [mem_side hC]
   exact and_congr_right fun hy=>hz y hy)
  obtain ⟨y,hy,hty⟩:=row_meets hg hrC
  have hin:y∈pks C [] (memL (sdN C r)):=(mem_side hC).2 ⟨hy,(hz y hy).2 hty⟩
  have hne:memL (sdN C r)≠[]:=by
   intro h0
   rw [h0] at hin
   simp [pks] at hin
  unfold dimL
  rw [if_neg hne]
  omega
theorem low_atF (l:List Int) (i:Nat):(gc l:Int)*(low l).getD i 0=l.getD i 0:=by
 have h:=low_mul l
 have h2:=congrArg (fun m:List Int=>m.getD i 0) h
 simp only [List.getD_eq_getElem?_getD,List.getElem?_map] at h2
 simp only [List.getD_eq_getElem?_getD]
 cases hz:(low l)[i]? with
 | none=>rw [hz] at h2; simpa using h2
 | some z=>rw [hz] at h2; simpa using h2
theorem prim_lowF {d:Nat} {c:Nat→Int} {q:List Int} {s t:Int} (hq:q.length=d) (hg:gc q=1) (hs:0 < s) (ht:0 < t) (h:∀i,i < d→s*c i=t*V q i) (hc:∃i,i < d∧c i≠0):low ((List.range d).map c)=q:=by
 obtain ⟨L,hL⟩:∃L,L=(List.range d).map c:=⟨_,rfl⟩
 have hLl:L.length=d:=by rw [hL]; simp
 have hLi:∀i,i < d→L.getD i 0=c i:=fun i hi=>by rw [hL]; simp [hi]
 rw [←hL]
 have hlow:=low_mul L
 have hG:gc L≠0:=fun e=>by
  obtain ⟨i,hi,hne⟩:=hc
  have hm:c i∈L:=by rw [←hLi i hi]; exact getD_mem (by omega)
  have hd:=gc_dvd hm
  rw [e] at hd
  simp at hd
  exact hne hd
 have hlg:gc (low L)=1:=by
  have:=congrArg gc hlow
  rw [gc_scale,Int.natAbs_natCast] at this
  have hp:0 < gc L:=Nat.pos_of_ne_zero hG
  have h2:gc L*gc (low L)=gc L*1:=by rw [Nat.mul_one]; exact this
  exact Nat.eq_of_mul_eq_mul_left hp h2
 have hcross:(low L).map ((s*(gc L:Int)) * ·)=q.map (t * ·):=by
  refine List.ext_getElem (by rw [List.length_map,List.length_map,low_len,hLl,hq]) fun i h1 h2=>?_
  rw [List.getElem_map,List.getElem_map]
  have hi:i < d:=by rw [List.length_map,hq] at h2; exact h2
  have e1:(gc L:Int)*(low L)[i]'(by rw [low_len,hLl]; exact hi)=L[i]'(by omega):=by
   have:=congrArg (fun m:List Int=>m[i]?) hlow
   simp only [List.getElem?_map,List.getElem?_eq_getElem (show i < (low L).length by rw [low_len,hLl]; exact hi),List.getElem?_eq_getElem (show i < L.length by omega),Option.map_some,Option.some.injEq] at this
   exact this
  have e2:L[i]'(by omega)=c i:=by rw [←hLi i hi]; simp [show i < L.length by omega]
  have e3:q[i]'(by omega)=V q i:=by simp [V,show i < q.length by omega]
  rw [Int.mul_assoc,e1,e2,e3]
  exact h i hi
 have hsg:s*(gc L:Int)≠0:=Int.mul_ne_zero (by omega) (by omega)
 rcases prim_eq hlg hg hsg (by omega) hcross with e | e
 ·exact e
 ·exfalso
  obtain ⟨i,hi,hne⟩:=hc
  have e0:=low_atF L i
  rw [e] at e0
  have e1:(q.map fun z=>-z).getD i 0=- V q i:=by
   unfold V
   simp only [List.getD_eq_getElem?_getD,List.getElem?_map]
   cases q[i]? <;> simp
  rw [e1,hLi i hi] at e0
  have e2:=h i hi
  rw [←e0] at e2
  have hgp:0 < (gc L:Int):=by omega
  have e3:(s*(gc L:Int)+t)*V q i=0:=by grind
  rcases Int.mul_eq_zero.1 e3 with h0 | h0
  ·have:=Int.mul_pos hs hgp; omega
  ·rw [h0] at e0
   simp at e0
   exact hne e0.symm
theorem row_primF {d:Nat} {P:List (List Int)} (hg:Good d P) {r:List Int} (hr:r∈rowsC P [] d P):r.length=d+1∧gc (r.take d)=1:=by
 obtain ⟨T,hTs,hTl,hrT⟩:=mem_rowsC.1 hr
 obtain ⟨σ,hσ,hnb,hre⟩:=rowT_form hTl hrT
 have hl:(pickL d (diffL T)).length+1=d:=of_decide_eq_true hnb
 have hal:=norm_len hnb
 refine ⟨(rowsC_fit hg.box hg.d1 (by have:=hg.d4; omega) (fun _=>Iff.rfl) hr).len,?_⟩
 have hqe:r.take d=(normL d (diffL T)).map (σ * ·):=by
  rw [hre,List.map_append,List.take_left' (by rw [List.length_map,hal])]
 rw [hqe,gc_scale,norm_gc hl]
 rcases hσ with rfl | rfl <;> rfl
theorem side_inj {d:Nat} {C s:List (List Int)} (h:FcC d C s) {r q:List Int} (hr:r∈s) (hq:q∈s) (he:sdN C r=sdN C q):r=q:=by
 have hrC:=(h.rows r).1 hr
 have hqC:=(h.rows q).1 hq
 obtain ⟨_,hdim⟩:=side_dim h hr
 have hlt:sdN C r < 2 ^ C.length:=sdTo_lt C r C.length
 have hp:∀y,y∈pks C [] (memL (sdN C r))↔y∈C∧overL r y=0:=fun y=>mem_side h.n16
 have hp2:∀y,y∈pks C [] (memL (sdN C r))↔y∈C∧overL q y=0:=fun y=>by rw [he]; exact mem_side h.n16
 have hpl:∀y∈pks C [] (memL (sdN C r)),y.length=d:=fun y hy=>(h.g.box y ((hp y).1 hy).1).1
 have hd1:=h.g.d1
 have hne:memL (sdN C r)≠[]:=fun e=>by
  unfold dimL at hdim
  rw [if_pos e] at hdim
  omega
 have hrk:(pickL d (diffL (pks C [] (memL (sdN C r))))).length+1=d:=by
  unfold dimL at hdim
  rw [if_neg hne] at hdim
  omega
 obtain ⟨x0,hx0⟩:∃x0,x0∈pks C [] (memL (sdN C r)):=by
  cases hm:memL (sdN C r) with
  | nil=>exact absurd hm hne
  | cons k l=>exact ⟨C.getD k.toNat [],by unfold pks; rw [List.map_cons]; simp⟩
 have hx0C:=((hp x0).1 hx0).1
 have r0:=(h.over hr hx0C).1 ((hp x0).1 hx0).2
 have q0:=(h.over hq hx0C).1 ((hp2 x0).1 hx0).2
 have onr:∀y∈pks C [] (memL (sdN C r)),dot d (V r) (V y)=dot d (V r) (V x0):=fun y hy=>by
  have:=(h.over hr ((hp y).1 hy).1).1 ((hp y).1 hy).2
  omega
 have onq:∀y∈pks C [] (memL (sdN C r)),dot d (V q) (V y)=dot d (V q) (V x0):=fun y hy=>by
  have:=(h.over hq ((hp2 y).1 hy).1).1 ((hp2 y).1 hy).2
  omega
 obtain ⟨m,l,hm,hml⟩:=par_side hpl hrk hx0 (u:=V r) (v:=V q) onr onq (row_ne0 h.g hrC)
 -- a point off the side
 obtain ⟨y,hyC,hyr⟩:∃y∈C,dot d (V r) (V y) < dot d (V r) (V x0):=by
  refine Classical.byContradiction fun hn=>?_
  have hall:∀y∈C,dot d (V r) (V y)=dot d (V r) (V x0):=fun y hy=>by
   have h1:=(h.len hr).all y hy
   rcases Int.lt_or_le (dot d (V r) (V y)) (dot d (V r) (V x0)) with h2 | h2
   ·exact absurd ⟨y,hy,h2⟩ hn
   ·omega
  obtain ⟨i,hi,hne0⟩:=row_ne0 h.g hrC
  exact hne0 (good_span h.g (V r) (fun y hy z hz=>by rw [hall y hy,hall z hz]) i hi)
 have hyq:dot d (V q) (V y) < dot d (V q) (V x0):=by
  have h1:=(h.len hq).all y hyC
  have hno:overL r y≠0:=fun e=>by
   have:=(h.over hr hyC).1 e
   omega
  have hnq:¬overL q y=0:=fun e=>by
   have:=(hp2 y).2 ⟨hyC,e⟩
   exact hno ((hp y).1 this).2
  rw [h.over hq hyC] at hnq
  omega
 have dy:=dot_mulL hml (V y)
 have dx:=dot_mulL hml (V x0)
 have hmlp:0 < m*l:=by
  obtain ⟨a,ha⟩:∃a,a=dot d (V q) (V x0)-dot d (V q) (V y):=⟨_,rfl⟩
  obtain ⟨b,hb⟩:∃b,b=dot d (V r) (V x0)-dot d (V r) (V y):=⟨_,rfl⟩
  have e:m*a=l*b:=by rw [ha,hb,Int.mul_sub,Int.mul_sub,dx,dy]
  have ha0:0 < a:=by omega
  have hb0:0 < b:=by omega
  have hm2:0 < m*m:=by
   rcases Int.lt_or_gt_of_ne hm with h | h
   ·exact Int.mul_pos_of_neg_of_neg h h
   ·exact Int.mul_pos h h
  have e2:(m*m)*a=(m*l)*b:=by
   have:m*(m*a)=m*(l*b):=by rw [e]
   grind
  have h0:0 < (m*m)*a:=Int.mul_pos hm2 ha0
  rcases Int.lt_or_le 0 (m*l) with h | h
  ·exact h
  ·exfalso
   have:=Int.mul_nonneg (show 0≤-(m*l) by omega) (show 0≤b by omega)
   have e3 : -(m*l)*b=-((m*l)*b):=by grind
   omega
 have hm2:0 < m*m:=by
  rcases Int.lt_or_gt_of_ne hm with h | h
  ·exact Int.mul_pos_of_neg_of_neg h h
  ·exact Int.mul_pos h h
 obtain ⟨hrl,hrg⟩:=row_primF h.g hrC
 obtain ⟨hql,hqg⟩:=row_primF h.g hqC
 have hr1:=prim_lowF (c:=V r) (q:=r.take d) (s:=1) (t:=1) (by rw [List.length_take]; omega) hrg (by decide) (by decide) (fun i hi=>by rw [V_take hi]) (row_ne0 h.g hrC)
 have hr2:=prim_lowF (c:=V r) (q:=q.take d) (s:=m*l) (t:=m*m) (by rw [List.length_take]; omega) hqg hmlp hm2 (fun i hi=>by
  rw [V_take hi]
  have:=hml i hi
  have:m*(m*V q i)=m*(l*V r i):=by rw [this]
  grind) (row_ne0 h.g hrC)
 have htk:r.take d=q.take d:=by rw [←hr1,←hr2]
 have hVr:∀i,i < d→V r i=V q i:=fun i hi=>by rw [←V_take (r:=r) hi,←V_take (r:=q) hi,htk]
 have hlast:r.getD d 0=q.getD d 0:=by
  rw [r0,q0]
  exact dot_congr hVr (fun _ _=>rfl)
 have h1:=List.take_succ_eq_append_getElem (l:=r) (i:=d) (by omega)
 have h2:=List.take_succ_eq_append_getElem (l:=q) (i:=d) (by omega)
 rw [List.take_of_length_le (by omega)] at h1 h2
 rw [h1,h2,htk]
 congr 2
 have a1:r.getD d 0=r[d]:=by simp [show d < r.length by omega]
 have a2:q.getD d 0=q[d]:=by simp [show d < q.length by omega]
 rw [←a1,←a2]
 exact hlast
theorem vert_itr {d:Nat} {C s:List (List Int)} (h:FcC d C s) {k:Nat} (hk:k < C.length):Itr C.length (s.map (sdN C)) (2 ^ k):=by
 obtain ⟨a,ha,hb⟩:=rows_itr (C:=C) (s:=s) (s.filter fun r=>decide (overL r (C.getD k [])=0)) fun r hr=>(List.mem_filter.1 hr).1
 have hkC:C.getD k []∈C:=by simp [hk]
 have:a=2 ^ k:=Nat.eq_of_testBit_eq fun j=>by
  rw [hb j]
  by_cases hjk:j=k
  ·subst hjk
   rw [Nat.testBit_two_pow_self]
   simp only [Bool.and_eq_true,decide_eq_true_eq,List.all_eq_true,List.mem_filter]
   exact ⟨hk,fun r hr=>hr.2⟩
  ·rw [Nat.testBit_two_pow_of_ne (fun e=>hjk e.symm)]
   rw [Bool.eq_false_iff]
   intro hc
   simp only [Bool.and_eq_true,decide_eq_true_eq,List.all_eq_true,List.mem_filter] at hc
   obtain ⟨hj,hall⟩:=hc
   have hjC:C.getD j []∈C:=by simp [hj]
   have he:=h.one _ hkC _ hjC fun r hr ho=>hall r ⟨hr,ho⟩
   have e1:C.getD j []=C[j]:=by simp [hj]
   have e2:C.getD k []=C[k]:=by simp [hk]
   rw [e1,e2] at he
   exact hjk (sasc_idx h.asc hj hk he)
 rw [←this]
 exact ha
theorem memL_one {k:Nat} (hk:k < 64):memL (2 ^ k)=[(k:Int)]:=by
 revert k
 decide +kernel
theorem vert_dim {d:Nat} {C:List (List Int)} {k:Nat} (hk:k < 64):dimL d C (2 ^ k)=0:=by
 unfold dimL
 rw [memL_one hk,if_neg (by simp)]
 have:diffL (pks C [] [(k:Int)])=[]:=by simp [pks,diffL]
 rw [this]
 have h0:=pickL_len d []
 simp at h0
 simp [h0]
theorem vert_of {d:Nat} {C s:List (List Int)} (h:FcC d C s) {a:Nat} (ha:a < 2 ^ C.length) (hd:dimL d C a=0):∃k,k < C.length∧a=2 ^ k:=by
 have hne:memL a≠[]:=fun e=>by
  unfold dimL at hd
  rw [if_pos e] at hd
  omega
 have h0:(pickL d (diffL (pks C [] (memL a)))).length=0:=by
  unfold dimL at hd
  rw [if_neg hne] at hd
  omega
 have hpl:∀y∈pks C [] (memL a),y.length=d:=fun y hy=>by
  obtain ⟨k,hk,_,rfl⟩:=(mem_pts ha h.n16).1 hy
  exact (h.g.box _ (by simp [hk])).1
 have hgr:=pick_greedy d (diffL (pks C [] (memL a)))
 have hz:∀r∈diffL (pks C [] (memL a)),∀i,i < d→V r i=0:=fun r hr i hi=>by
  have:=dot_dep (v:=unit i) (hgr.dep (V r) (mem_fm.2 ⟨r,hr,rfl⟩)) (fun j hj=>by rw [fm_length,h0] at hj; omega)
  rwa [dot_comm,dot_unit hi] at this
 have hsame:∀y∈pks C [] (memL a),y=(pks C [] (memL a)).getD 0 []:=fun y hy=>by
  obtain ⟨j,hj,rfl⟩:=List.getElem_of_mem hy
  cases j with
  | zero=>simp [hj]
  | succ j=>
   have hm:subL ((pks C [] (memL a))[j+1]) ((pks C [] (memL a)).getD 0 [])∈diffL (pks C [] (memL a)):=by
    unfold diffL
    refine List.mem_map.2 ⟨(pks C [] (memL a))[j+1],?_,rfl⟩
    rw [List.mem_drop_iff_getElem]
    exact ⟨j,by omega,by simp [Nat.add_comm]⟩
   have h0m:(pks C [] (memL a)).getD 0 []∈pks C [] (memL a):=by simp [show 0 < (pks C [] (memL a)).length by omega]
   have hl1:=hpl _ hy
   have hl0:=hpl _ h0m
   refine List.ext_getElem (by rw [hl1,hl0]) fun i h1 h2=>?_
   have:=hz _ hm i (by omega)
   unfold V at this
   rw [subL_at (by omega)] at this
   have e1:((pks C [] (memL a))[j+1]).getD i 0=((pks C [] (memL a))[j+1])[i]:=by simp [h1]
   have e2:((pks C [] (memL a)).getD 0 []).getD i 0=((pks C [] (memL a)).getD 0 [])[i]:=by
    rw [List.getD_eq_getElem?_getD (l:=(pks C [] (memL a)).getD 0 []),List.getElem?_eq_getElem h2]
    rfl
   rw [e1,e2] at this
   omega
 obtain ⟨k0,hk0⟩:∃k:Int,k∈memL a:=by
  cases hm:memL a with
  | nil=>exact absurd hm hne
  | cons k l=>exact ⟨k,by simp⟩
 have hlt:a < 2 ^ 64:=Nat.lt_of_lt_of_le ha (Nat.pow_le_pow_right (by decide) (by have:=h.n16; omega))
 obtain ⟨k,rfl,hkb⟩:=(mem_memL hlt).1 hk0
 have hkn:k < C.length:=Nat.lt_of_not_le fun hle=>by
  have:=Nat.testBit_lt_two_pow (Nat.lt_of_lt_of_le ha (Nat.pow_le_pow_right (by decide) hle))
  rw [this] at hkb
  cases hkb
 refine ⟨k,hkn,Nat.eq_of_testBit_eq fun j=>?_⟩
 by_cases hjk:j=k
 ·subst hjk
  rw [hkb,Nat.testBit_two_pow_self]
 ·rw [Nat.testBit_two_pow_of_ne (fun e=>hjk e.symm),Bool.eq_false_iff]
  intro hjb
  have hjn:j < C.length:=Nat.lt_of_not_le fun hle=>by
   have:=Nat.testBit_lt_two_pow (Nat.lt_of_lt_of_le ha (Nat.pow_le_pow_right (by decide) hle))
   rw [this] at hjb
   cases hjb
  have e1:=hsame _ ((mem_pts ha h.n16).2 ⟨j,hjn,hjb,rfl⟩)
  have e2:=hsame _ ((mem_pts ha h.n16).2 ⟨k,hkn,hkb,rfl⟩)
  have he:C.getD j []=C.getD k []:=by rw [e1,e2]
  have f1:C.getD j []=C[j]:=by simp [hjn]
  have f2:C.getD k []=C[k]:=by simp [hkn]
  rw [f1,f2] at he
  exact hjk (sasc_idx h.asc hjn hkn he)
end Go.Proofs.YtdanomklbiidaaaGreatDoor
