import Derived.Test.YtkfdpcgmpbopnaaGreatDoorLtZ
import Derived.Test.YtkfdpcgmpbopnaaGreatDoorWyY
import Derived.Test.YtkfdpcgmpbopnaaGreatDoorLtA
import Derived.Test.YtkfdpcgmpbopnaaGreatDoorShY
namespace Go.Proofs.YtkfdpcgmpbopnaaGreatDoor
open Lin
theorem itr_lt {n:Nat} {S:List Nat} {a:Nat} (h:Itr n S a):a < 2 ^ n:=by
 induction h with
 | full=>have:0 < 2 ^ n:=Nat.pow_pos (by decide); omega
 | cut _ _ ih=>exact Nat.lt_of_le_of_lt Nat.and_le_left ih
theorem clo_all {n:Nat} {S A:List Nat} (h:Clo n S A A.length) {a:Nat} (ha:Itr n S a):a∈A:=by
 induction ha with
 | full=>rw [←h.hd.2]; simp [h.hd.1]
 | cut _ ht ih=>
  obtain ⟨j,hj,rfl⟩:=List.getElem_of_mem ih
  have:=h.cl j hj _ ht
  simpa [hj] using this
theorem clo_iff {n:Nat} {S A:List Nat} (h:Clo n S A A.length) {a:Nat} : a∈A↔Itr n S a:=⟨h.gen a,clo_all h⟩
theorem itr_rows {C s:List (List Int)} {a:Nat} (h:Itr C.length (s.map (sdN C)) a):∃R:List (List Int),(∀r∈R,r∈s)∧∀k,a.testBit k=(decide (k < C.length) && R.all fun r=>decide (overL r (C.getD k [])=0)):=by
 induction h with
 | full=>exact ⟨[],fun r hr=>(by cases hr),fun k=>by rw [Nat.testBit_two_pow_sub_one]; simp⟩
 | cut _ ht ih=>
  obtain ⟨R,h1,h2⟩:=ih
  obtain ⟨r,hr,rfl⟩:=List.mem_map.1 ht
  refine ⟨r :: R,fun q hq=>?_,fun k=>?_⟩
  ·rcases List.mem_cons.1 hq with rfl | hq
   ·exact hr
   ·exact h1 q hq
  ·rw [Nat.testBit_and,h2 k]
   unfold sdN
   rw [sdTo_bit,List.all_cons]
   cases decide (k < C.length) <;> cases decide (overL r (C.getD k [])=0) <;> simp
theorem rows_itr {C s:List (List Int)} : ∀R:List (List Int),(∀r∈R,r∈s)→∃a,Itr C.length (s.map (sdN C)) a∧∀k,a.testBit k=(decide (k < C.length) && R.all fun r=>decide (overL r (C.getD k [])=0))
 | [],_=>⟨_,.full,fun k=>by rw [Nat.testBit_two_pow_sub_one]; simp⟩
 | r :: R,h=>by
  obtain ⟨a,h1,h2⟩:=rows_itr R fun q hq=>h q (by simp [hq])
  refine ⟨a &&& sdN C r,.cut h1 (List.mem_map.2 ⟨r,h r (by simp),rfl⟩),fun k=>?_⟩
  rw [Nat.testBit_and,h2 k]
  unfold sdN
  rw [sdTo_bit,List.all_cons]
  cases decide (k < C.length) <;> cases decide (overL r (C.getD k [])=0) <;> simp
theorem mem_pts {C:List (List Int)} {a:Nat} (ha:a < 2 ^ C.length) (hC:C.length≤16) {y:List Int} : y∈pks C [] (memL a)↔∃k,k < C.length∧a.testBit k=true∧C.getD k []=y:=by
 have hlt:a < 2 ^ 64:=Nat.lt_of_lt_of_le ha (Nat.pow_le_pow_right (by decide) (by omega))
 unfold pks
 simp only [List.mem_map]
 constructor
 ·rintro ⟨x,hx,rfl⟩
  obtain ⟨k,rfl,hk⟩:=(mem_memL hlt).1 hx
  refine ⟨k,Nat.lt_of_not_le fun hle=>?_,hk,by simp⟩
  have:=Nat.testBit_lt_two_pow (Nat.lt_of_lt_of_le ha (Nat.pow_le_pow_right (by decide) hle))
  rw [this] at hk
  cases hk
 ·rintro ⟨k,hk,hb,rfl⟩
  exact ⟨(k:Int),(mem_memL hlt).2 ⟨k,rfl,hb⟩,by simp⟩
theorem par_side {d:Nat} {p:List (List Int)} (hp:∀y∈p,y.length=d) (hl:(pickL d (diffL p)).length+1=d) {u v:Nat→Int} {x0:List Int} (hx0:x0∈p) (hu:∀y∈p,dot d u (V y)=dot d u (V x0)) (hv:∀y∈p,dot d v (V y)=dot d v (V x0)) (hune:∃i,i < d∧u i≠0) :
  ∃m l:Int,m≠0∧∀i,i < d→m*v i=l*u i:=by
 obtain ⟨⟨j0,hj0,hj⟩,_,h3⟩:=norm_spec hl
 have hpar:∀c:Nat→Int,(∀y∈p,dot d c (V y)=dot d c (V x0))→Par d c (V (normL d (diffL p))):=fun c hc=>h3 c fun r hr=>by
  unfold diffL at hr
  obtain ⟨y,hy,rfl⟩:=List.mem_map.1 hr
  have hy':=List.mem_of_mem_drop hy
  have h0:p.getD 0 []∈p:=by
   have:0 < p.length:=List.length_pos_of_mem hx0
   simp [this]
  rw [dot_comm,dot_subL c (hp y hy'),hc y hy',hc _ h0]
  omega
 have pu:=hpar u hu
 have pv:=hpar v hv
 obtain ⟨N,hN⟩:∃N,N=V (normL d (diffL p)):=⟨_,rfl⟩
 rw [←hN] at pu pv hj
 have huj:u j0≠0:=fun e=>by
  obtain ⟨i,hi,hne⟩:=hune
  have:=pu i j0 hi hj0
  rw [e,Int.zero_mul] at this
  rcases Int.mul_eq_zero.1 this with h | h
  ·exact hne h
  ·exact hj h
 refine ⟨u j0,v j0,huj,fun i hi=>?_⟩
 have h1:=pu i j0 hi hj0
 have h2:=pv i j0 hi hj0
 -- N j0*(u j0*v i)=N j0*(v j0*u i)
 have:N j0*(u j0*v i)=N j0*(v j0*u i):=by
  have a1:N j0*(u j0*v i)=u j0*(v i*N j0):=by grind
  have a2:N j0*(v j0*u i)=v j0*(u i*N j0):=by grind
  rw [a1,a2,h1,h2]
  grind
 exact Int.eq_of_mul_eq_mul_left hj this
theorem dot_mulL {d:Nat} {m l:Int} {u v:Nat→Int} (h:∀i,i < d→m*v i=l*u i) (z:Nat→Int):m*dot d v z=l*dot d u z:=by
 unfold dot
 rw [←sumN_mul,←sumN_mul]
 exact sumN_congr fun i hi=>by rw [←Int.mul_assoc,h i hi,Int.mul_assoc]
structure FcC (d:Nat) (C s:List (List Int)):Prop where
 g:Good d C
 n16:C.length≤16
 asc:SAsc C
 rows:∀r,r∈s↔r∈rowsC C [] d C
 srt:SAsc s
 one:∀x∈C,∀y∈C,(∀r∈s,overL r x=0→overL r y=0)→y=x
theorem FcC.len {d:Nat} {C s:List (List Int)} (h:FcC d C s) {r:List Int} (hr:r∈s):RowOf d C r:=
 rowsC_fit h.g.box h.g.d1 (by have:=h.g.d4; omega) (fun _=>Iff.rfl) ((h.rows r).1 hr)
theorem FcC.over {d:Nat} {C s:List (List Int)} (h:FcC d C s) {r y:List Int} (hr:r∈s) (hy:y∈C):overL r y=0↔r.getD d 0=dot d (V r) (V y):=
 over_zero (h.len hr).len (h.g.box y hy).1
theorem sasc_nodup {s:List (List Int)} (h:SAsc s):s.Nodup:=by
 refine List.Pairwise.imp (fun {a b} hab e=>?_) h
 subst e
 have:∀l:List Int,cmpL l l=0:=fun l=>by
  induction l with
  | nil=>rfl
  | cons x xs ih=>simp [cmpL,ih]
 rw [this] at hab
 omega
theorem sasc_idx {C:List (List Int)} (h:SAsc C) {j k:Nat} (hj:j < C.length) (hk:k < C.length) (he:C[j]=C[k]):j=k:=by
 have hn:=List.pairwise_iff_getElem.1 (sasc_nodup h)
 rcases Nat.lt_trichotomy j k with h1 | h1 | h1
 ·exact absurd he (hn j k hj hk h1)
 ·exact h1
 ·exact absurd he.symm (hn k j hk hj h1)
theorem row_ne0 {d:Nat} {C:List (List Int)} (hg:Good d C) {r:List Int} (hr:r∈rowsC C [] d C):∃i,i < d∧V r i≠0:=by
 obtain ⟨_,_,_,h,_⟩:=row_one (fun y hy=>(hg.box y hy).1) hg.d1 hr
 exact h
theorem side_dim {d:Nat} {C s:List (List Int)} (h:FcC d C s) {r:List Int} (hr:r∈s):Itr C.length (s.map (sdN C)) (sdN C r)∧dimL d C (sdN C r)=(d:Int)-1:=by
 have hrC:=(h.rows r).1 hr
 have hg:=h.g
 have hC:=h.n16
 have hlt:=sdTo_lt C r C.length
 refine ⟨?_,?_⟩
 ·have:Itr C.length (s.map (sdN C)) ((2 ^ C.length-1) &&& sdN C r):=.cut .full (List.mem_map.2 ⟨r,hr,rfl⟩)
  rwa [Nat.and_comm,Nat.and_two_pow_sub_one_eq_mod,Nat.mod_eq_of_lt (show sdN C r < 2 ^ C.length from hlt)] at this
 ·have hz:∀y∈C,(overL r y=0↔r.getD d 0=dot d (V r) (V y)):=fun y hy=>h.over hr hy
  have hrk:=side_rank hg hrC (p:=pks C [] (memL (sdN C r))) (fun y=>by
   rw [mem_side hC]
   exact and_congr_right fun hy=>hz y hy)
  obtain ⟨y,hy,hty⟩:=row_meets hg hrC
  have hin:y∈pks C [] (memL (sdN C r)):=(mem_side hC).2 ⟨hy,(hz y hy).2 hty⟩
  have hne:memL (sdN C r)≠[]:=by
   intro h0
   rw [h0] at hin
   simp [pks] at hin
  unfold dimL
  rw [if_neg hne]
  omega
theorem face_side {d:Nat} {C s:List (List Int)} (h:FcC d C s) {a:Nat} (ha:Itr C.length (s.map (sdN C)) a) (hd:dimL d C a=(d:Int)-1):∃r∈s,a=sdN C r:=by
 obtain ⟨R,hR,hbit⟩:=itr_rows ha
 have hlt:=itr_lt ha
 have hd1:=h.g.d1
 have hne:memL a≠[]:=fun e=>by
  unfold dimL at hd
  rw [if_pos e] at hd
  omega
 have hrk:(pickL d (diffL (pks C [] (memL a)))).length+1=d:=by
  unfold dimL at hd
  rw [if_neg hne] at hd
  omega
 have hpt:∀y,y∈pks C [] (memL a)↔y∈C∧∀r∈R,overL r y=0:=fun y=>by
  rw [mem_pts hlt h.n16]
  constructor
  ·rintro ⟨k,hk,hb,rfl⟩
   rw [hbit k] at hb
   simp only [Bool.and_eq_true,List.all_eq_true,decide_eq_true_eq] at hb
   exact ⟨by simp [hk],hb.2⟩
  ·rintro ⟨hy,ho⟩
   obtain ⟨k,hk,rfl⟩:=List.getElem_of_mem hy
   have e:C.getD k []=C[k]:=by simp [hk]
   refine ⟨k,hk,?_,e⟩
   rw [hbit k,e]
   simp only [Bool.and_eq_true,List.all_eq_true,decide_eq_true_eq]
   exact ⟨hk,ho⟩
 have hpl:∀y∈pks C [] (memL a),y.length=d:=fun y hy=>(h.g.box y ((hpt y).1 hy).1).1
 obtain ⟨x0,hx0⟩:∃x0,x0∈pks C [] (memL a):=by
  cases hm:memL a with
  | nil=>exact absurd hm hne
  | cons k l=>exact ⟨C.getD k.toNat [],by unfold pks; rw [List.map_cons]; simp⟩
 cases hRc:R with
 | nil=>
  exfalso
  have hall:∀y,y∈pks C [] (memL a)↔y∈C:=fun y=>by rw [hpt y,hRc]; simp
  have:=full_of_span hpl fun c hc=>good_span h.g c fun y hy z hz=>hc y ((hall y).2 hy) z ((hall z).2 hz)
  omega
 | cons r R'=>
  have hrR:r∈R:=by rw [hRc]; simp
  have hrs:=hR r hrR
  refine ⟨r,hrs,?_⟩
  refine Nat.eq_of_testBit_eq fun k=>?_
  rw [hbit k]
  unfold sdN
  rw [sdTo_bit]
  by_cases hk:k < C.length
  ·have hkC:C.getD k []∈C:=by simp [hk]
   have key:(R.all fun r=>decide (overL r (C.getD k [])=0))=decide (overL r (C.getD k [])=0):=by
    rw [Bool.eq_iff_iff,List.all_eq_true,decide_eq_true_eq]
    constructor
    ·intro hq
     exact of_decide_eq_true (hq r hrR)
    ·intro hro q hq
     rw [decide_eq_true_eq]
     have hqs:=hR q hq
     have hx0C:=((hpt x0).1 hx0).1
     have hon:∀q∈R,∀y∈pks C [] (memL a),dot d (V q) (V y)=dot d (V q) (V x0):=fun q hq y hy=>by
      have h1:=(h.over (hR q hq) ((hpt y).1 hy).1).1 (((hpt y).1 hy).2 q hq)
      have h2:=(h.over (hR q hq) hx0C).1 (((hpt x0).1 hx0).2 q hq)
      omega
     obtain ⟨m,l,hm,hml⟩:=par_side hpl hrk hx0 (u:=V r) (v:=V q) (hon r hrR) (hon q hq) (row_ne0 h.g ((h.rows r).1 hrs))
     rw [h.over hqs hkC]
     have e1:=(h.over hrs hkC).1 hro
     have e2:=(h.over hrs hx0C).1 (((hpt x0).1 hx0).2 r hrR)
     have e3:=(h.over hqs hx0C).1 (((hpt x0).1 hx0).2 q hq)
     have d1:=dot_mulL hml (V (C.getD k []))
     have d2:=dot_mulL hml (V x0)
     rw [e3]
     refine Int.eq_of_mul_eq_mul_left hm ?_
     rw [d1,d2,←e1,←e2]
   rw [key]
  ·simp [hk]
theorem low_atF (l:List Int) (i:Nat):(gc l:Int)*(low l).getD i 0=l.getD i 0:=by
 have h:=low_mul l
 have h2:=congrArg (fun m:List Int=>m.getD i 0) h
 simp only [List.getD_eq_getElem?_getD,List.getElem?_map] at h2
 simp only [List.getD_eq_getElem?_getD]
 cases hz:(low l)[i]? with
 | none=>rw [hz] at h2; simpa using h2
 | some z=>rw [hz] at h2; simpa using h2
theorem prim_lowF {d:Nat} {c:Nat→Int} {q:List Int} {s t:Int} (hq:q.length=d) (hg:gc q=1) (hs:0 < s) (ht:0 < t) (h:∀i,i < d→s*c i=t*V q i) (hc:∃i,i < d∧c i≠0):low ((List.range d).map c)=q:=by
 obtain ⟨L,hL⟩:∃L,L=(List.range d).map c:=⟨_,rfl⟩
 have hLl:L.length=d:=by rw [hL]; simp
 have hLi:∀i,i < d→L.getD i 0=c i:=fun i hi=>by rw [hL]; simp [hi]
 rw [←hL]
 have hlow:=low_mul L
 have hG:gc L≠0:=fun e=>by
  obtain ⟨i,hi,hne⟩:=hc
  have hm:c i∈L:=by rw [←hLi i hi]; exact getD_mem (by omega)
  have hd:=gc_dvd hm
  rw [e] at hd
  simp at hd
  exact hne hd
 have hlg:gc (low L)=1:=by
  have:=congrArg gc hlow
  rw [gc_scale,Int.natAbs_natCast] at this
  have hp:0 < gc L:=Nat.pos_of_ne_zero hG
  have h2:gc L*gc (low L)=gc L*1:=by rw [Nat.mul_one]; exact this
  exact Nat.eq_of_mul_eq_mul_left hp h2
 have hcross:(low L).map ((s*(gc L:Int)) * ·)=q.map (t * ·):=by
  refine List.ext_getElem (by rw [List.length_map,List.length_map,low_len,hLl,hq]) fun i h1 h2=>?_
  rw [List.getElem_map,List.getElem_map]
  have hi:i < d:=by rw [List.length_map,hq] at h2; exact h2
  have e1:(gc L:Int)*(low L)[i]'(by rw [low_len,hLl]; exact hi)=L[i]'(by omega):=by
   have:=congrArg (fun m:List Int=>m[i]?) hlow
   simp only [List.getElem?_map,List.getElem?_eq_getElem (show i < (low L).length by rw [low_len,hLl]; exact hi),List.getElem?_eq_getElem (show i < L.length by omega),Option.map_some,Option.some.injEq] at this
   exact this
  have e2:L[i]'(by omega)=c i:=by rw [←hLi i hi]; simp [show i < L.length by omega]
  have e3:q[i]'(by omega)=V q i:=by simp [V,show i < q.length by omega]
  rw [Int.mul_assoc,e1,e2,e3]
  exact h i hi
 have hsg:s*(gc L:Int)≠0:=Int.mul_ne_zero (by omega) (by omega)
 rcases prim_eq hlg hg hsg (by omega) hcross with e | e
 ·exact e
 ·exfalso
  obtain ⟨i,hi,hne⟩:=hc
  have e0:=low_atF L i
  rw [e] at e0
  have e1:(q.map fun z=>-z).getD i 0=- V q i:=by
   unfold V
   simp only [List.getD_eq_getElem?_getD,List.getElem?_map]
   cases q[i]? <;> simp
  rw [e1,hLi i hi] at e0
  have e2:=h i hi
  rw [←e0] at e2
  have hgp:0 < (gc L:Int):=by omega
  have e3:(s*(gc L:Int)+t)*V q i=0:=by grind
  rcases Int.mul_eq_zero.1 e3 with h0 | h0
  ·have:=Int.mul_pos hs hgp; omega
  ·rw [h0] at e0
   simp at e0
   exact hne e0.symm
theorem row_primF {d:Nat} {P:List (List Int)} (hg:Good d P) {r:List Int} (hr:r∈rowsC P [] d P):r.length=d+1∧gc (r.take d)=1:=by
 obtain ⟨T,hTs,hTl,hrT⟩:=mem_rowsC.1 hr
 obtain ⟨σ,hσ,hnb,hre⟩:=rowT_form hTl hrT
 have hl:(pickL d (diffL T)).length+1=d:=of_decide_eq_true hnb
 have hal:=norm_len hnb
 refine ⟨(rowsC_fit hg.box hg.d1 (by have:=hg.d4; omega) (fun _=>Iff.rfl) hr).len,?_⟩
 have hqe:r.take d=(normL d (diffL T)).map (σ * ·):=by
  rw [hre,List.map_append,List.take_left' (by rw [List.length_map,hal])]
 rw [hqe,gc_scale,norm_gc hl]
 rcases hσ with rfl | rfl <;> rfl
theorem side_inj {d:Nat} {C s:List (List Int)} (h:FcC d C s) {r q:List Int} (hr:r∈s) (hq:q∈s) (he:sdN C r=sdN C q):r=q:=by
 have hrC:=(h.rows r).1 hr
 have hqC:=(h.rows q).1 hq
 obtain ⟨_,hdim⟩:=side_dim h hr
 have hlt:sdN C r < 2 ^ C.length:=sdTo_lt C r C.length
 have hp:∀y,y∈pks C [] (memL (sdN C r))↔y∈C∧overL r y=0:=fun y=>mem_side h.n16
 have hp2:∀y,y∈pks C [] (memL (sdN C r))↔y∈C∧overL q y=0:=fun y=>by rw [he]; exact mem_side h.n16
 have hpl:∀y∈pks C [] (memL (sdN C r)),y.length=d:=fun y hy=>(h.g.box y ((hp y).1 hy).1).1
 have hd1:=h.g.d1
 have hne:memL (sdN C r)≠[]:=fun e=>by
  unfold dimL at hdim
  rw [if_pos e] at hdim
  omega
 have hrk:(pickL d (diffL (pks C [] (memL (sdN C r))))).length+1=d:=by
  unfold dimL at hdim
  rw [if_neg hne] at hdim
  omega
 obtain ⟨x0,hx0⟩:∃x0,x0∈pks C [] (memL (sdN C r)):=by
  cases hm:memL (sdN C r) with
  | nil=>exact absurd hm hne
  | cons k l=>exact ⟨C.getD k.toNat [],by unfold pks; rw [List.map_cons]; simp⟩
 have hx0C:=((hp x0).1 hx0).1
 have r0:=(h.over hr hx0C).1 ((hp x0).1 hx0).2
 have q0:=(h.over hq hx0C).1 ((hp2 x0).1 hx0).2
 have onr:∀y∈pks C [] (memL (sdN C r)),dot d (V r) (V y)=dot d (V r) (V x0):=fun y hy=>by
  have:=(h.over hr ((hp y).1 hy).1).1 ((hp y).1 hy).2
  omega
 have onq:∀y∈pks C [] (memL (sdN C r)),dot d (V q) (V y)=dot d (V q) (V x0):=fun y hy=>by
  have:=(h.over hq ((hp2 y).1 hy).1).1 ((hp2 y).1 hy).2
  omega
 obtain ⟨m,l,hm,hml⟩:=par_side hpl hrk hx0 (u:=V r) (v:=V q) onr onq (row_ne0 h.g hrC)
 -- a point off the side
 obtain ⟨y,hyC,hyr⟩:∃y∈C,dot d (V r) (V y) < dot d (V r) (V x0):=by
  refine Classical.byContradiction fun hn=>?_
  have hall:∀y∈C,dot d (V r) (V y)=dot d (V r) (V x0):=fun y hy=>by
   have h1:=(h.len hr).all y hy
   rcases Int.lt_or_le (dot d (V r) (V y)) (dot d (V r) (V x0)) with h2 | h2
   ·exact absurd ⟨y,hy,h2⟩ hn
   ·omega
  obtain ⟨i,hi,hne0⟩:=row_ne0 h.g hrC
  exact hne0 (good_span h.g (V r) (fun y hy z hz=>by rw [hall y hy,hall z hz]) i hi)
 have hyq:dot d (V q) (V y) < dot d (V q) (V x0):=by
  have h1:=(h.len hq).all y hyC
  have hno:overL r y≠0:=fun e=>by
   have:=(h.over hr hyC).1 e
   omega
  have hnq:¬overL q y=0:=fun e=>by
   have:=(hp2 y).2 ⟨hyC,e⟩
   exact hno ((hp y).1 this).2
  rw [h.over hq hyC] at hnq
  omega
 have dy:=dot_mulL hml (V y)
 have dx:=dot_mulL hml (V x0)
 have hmlp:0 < m*l:=by
  obtain ⟨a,ha⟩:∃a,a=dot d (V q) (V x0)-dot d (V q) (V y):=⟨_,rfl⟩
  obtain ⟨b,hb⟩:∃b,b=dot d (V r) (V x0)-dot d (V r) (V y):=⟨_,rfl⟩
  have e:m*a=l*b:=by rw [ha,hb,Int.mul_sub,Int.mul_sub,dx,dy]
  have ha0:0 < a:=by omega
  have hb0:0 < b:=by omega
  have hm2:0 < m*m:=by
   rcases Int.lt_or_gt_of_ne hm with h | h
   ·exact Int.mul_pos_of_neg_of_neg h h
   ·exact Int.mul_pos h h
  have e2:(m*m)*a=(m*l)*b:=by
   have:m*(m*a)=m*(l*b):=by rw [e]
   grind
  have h0:0 < (m*m)*a:=Int.mul_pos hm2 ha0
  rcases Int.lt_or_le 0 (m*l) with h | h
  ·exact h
  ·exfalso
   have:=Int.mul_nonneg (show 0≤-(m*l) by omega) (show 0≤b by omega)
   have e3 : -(m*l)*b=-((m*l)*b):=by grind
   omega
 have hm2:0 < m*m:=by
  rcases Int.lt_or_gt_of_ne hm with h | h
  ·exact Int.mul_pos_of_neg_of_neg h h
  ·exact Int.mul_pos h h
 obtain ⟨hrl,hrg⟩:=row_primF h.g hrC
 obtain ⟨hql,hqg⟩:=row_primF h.g hqC
 have hr1:=prim_lowF (c:=V r) (q:=r.take d) (s:=1) (t:=1) (by rw [List.length_take]; omega) hrg (by decide) (by decide) (fun i hi=>by rw [V_take hi]) (row_ne0 h.g hrC)
 have hr2:=prim_lowF (c:=V r) (q:=q.take d) (s:=m*l) (t:=m*m) (by rw [List.length_take]; omega) hqg hmlp hm2 (fun i hi=>by
  rw [V_take hi]
  have:=hml i hi
  have:m*(m*V q i)=m*(l*V r i):=by rw [this]
  grind) (row_ne0 h.g hrC)
 have htk:r.take d=q.take d:=by rw [←hr1,←hr2]
 have hVr:∀i,i < d→V r i=V q i:=fun i hi=>by rw [←V_take (r:=r) hi,←V_take (r:=q) hi,htk]
 have hlast:r.getD d 0=q.getD d 0:=by
  rw [r0,q0]
  exact dot_congr hVr (fun _ _=>rfl)
 have h1:=List.take_succ_eq_append_getElem (l:=r) (i:=d) (by omega)
 have h2:=List.take_succ_eq_append_getElem (l:=q) (i:=d) (by omega)
 rw [List.take_of_length_le (by omega)] at h1 h2
 rw [h1,h2,htk]
 congr 2
 have a1:r.getD d 0=r[d]:=by simp [show d < r.length by omega]
 have a2:q.getD d 0=q[d]:=by simp [show d < q.length by omega]
 rw [←a1,←a2]
 exact hlast
theorem vert_itr {d:Nat} {C s:List (List Int)} (h:FcC d C s) {k:Nat} (hk:k < C.length):Itr C.length (s.map (sdN C)) (2 ^ k):=by
 obtain ⟨a,ha,hb⟩:=rows_itr (C:=C) (s:=s) (s.filter fun r=>decide (overL r (C.getD k [])=0)) fun r hr=>(List.mem_filter.1 hr).1
 have hkC:C.getD k []∈C:=by simp [hk]
 have:a=2 ^ k:=Nat.eq_of_testBit_eq fun j=>by
  rw [hb j]
  by_cases hjk:j=k
  ·subst hjk
   rw [Nat.testBit_two_pow_self]
   simp only [Bool.and_eq_true,decide_eq_true_eq,List.all_eq_true,List.mem_filter]
   exact ⟨hk,fun r hr=>hr.2⟩
  ·rw [Nat.testBit_two_pow_of_ne (fun e=>hjk e.symm)]
   rw [Bool.eq_false_iff]
   intro hc
   simp only [Bool.and_eq_true,decide_eq_true_eq,List.all_eq_true,List.mem_filter] at hc
   obtain ⟨hj,hall⟩:=hc
   have hjC:C.getD j []∈C:=by simp [hj]
   have he:=h.one _ hkC _ hjC fun r hr ho=>hall r ⟨hr,ho⟩
   have e1:C.getD j []=C[j]:=by simp [hj]
   have e2:C.getD k []=C[k]:=by simp [hk]
   rw [e1,e2] at he
   exact hjk (sasc_idx h.asc hj hk he)
 rw [←this]
 exact ha
theorem memL_one {k:Nat} (hk:k < 64):memL (2 ^ k)=[(k:Int)]:=by
 revert k
 decide +kernel
theorem vert_dim {d:Nat} {C:List (List Int)} {k:Nat} (hk:k < 64):dimL d C (2 ^ k)=0:=by
 unfold dimL
 rw [memL_one hk,if_neg (by simp)]
 have:diffL (pks C [] [(k:Int)])=[]:=by simp [pks,diffL]
 rw [this]
 have h0:=pickL_len d []
 simp at h0
 simp [h0]
theorem vert_of {d:Nat} {C s:List (List Int)} (h:FcC d C s) {a:Nat} (ha:a < 2 ^ C.length) (hd:dimL d C a=0):∃k,k < C.length∧a=2 ^ k:=by
 have hne:memL a≠[]:=fun e=>by
  unfold dimL at hd
  rw [if_pos e] at hd
  omega
 have h0:(pickL d (diffL (pks C [] (memL a)))).length=0:=by
  unfold dimL at hd
  rw [if_neg hne] at hd
  omega
 have hpl:∀y∈pks C [] (memL a),y.length=d:=fun y hy=>by
  obtain ⟨k,hk,_,rfl⟩:=(mem_pts ha h.n16).1 hy
  exact (h.g.box _ (by simp [hk])).1
 have hgr:=pick_greedy d (diffL (pks C [] (memL a)))
 have hz:∀r∈diffL (pks C [] (memL a)),∀i,i < d→V r i=0:=fun r hr i hi=>by
  have:=dot_dep (v:=unit i) (hgr.dep (V r) (mem_fm.2 ⟨r,hr,rfl⟩)) (fun j hj=>by rw [fm_length,h0] at hj; omega)
  rwa [dot_comm,dot_unit hi] at this
 have hsame:∀y∈pks C [] (memL a),y=(pks C [] (memL a)).getD 0 []:=fun y hy=>by
  obtain ⟨j,hj,rfl⟩:=List.getElem_of_mem hy
  cases j with
  | zero=>simp [hj]
  | succ j=>
   have hm:subL ((pks C [] (memL a))[j+1]) ((pks C [] (memL a)).getD 0 [])∈diffL (pks C [] (memL a)):=by
    unfold diffL
    refine List.mem_map.2 ⟨(pks C [] (memL a))[j+1],?_,rfl⟩
    rw [List.mem_drop_iff_getElem]
    exact ⟨j,by omega,by simp [Nat.add_comm]⟩
   have h0m:(pks C [] (memL a)).getD 0 []∈pks C [] (memL a):=by simp [show 0 < (pks C [] (memL a)).length by omega]
   have hl1:=hpl _ hy
   have hl0:=hpl _ h0m
   refine List.ext_getElem (by rw [hl1,hl0]) fun i h1 h2=>?_
   have:=hz _ hm i (by omega)
   unfold V at this
   rw [subL_at (by omega)] at this
   have e1:((pks C [] (memL a))[j+1]).getD i 0=((pks C [] (memL a))[j+1])[i]:=by simp [h1]
   have e2:((pks C [] (memL a)).getD 0 []).getD i 0=((pks C [] (memL a)).getD 0 [])[i]:=by
    rw [List.getD_eq_getElem?_getD (l:=(pks C [] (memL a)).getD 0 []),List.getElem?_eq_getElem h2]
    rfl
   rw [e1,e2] at this
   omega
 obtain ⟨k0,hk0⟩:∃k:Int,k∈memL a:=by
  cases hm:memL a with
  | nil=>exact absurd hm hne
  | cons k l=>exact ⟨k,by simp⟩
 have hlt:a < 2 ^ 64:=Nat.lt_of_lt_of_le ha (Nat.pow_le_pow_right (by decide) (by have:=h.n16; omega))
 obtain ⟨k,rfl,hkb⟩:=(mem_memL hlt).1 hk0
 have hkn:k < C.length:=Nat.lt_of_not_le fun hle=>by
  have:=Nat.testBit_lt_two_pow (Nat.lt_of_lt_of_le ha (Nat.pow_le_pow_right (by decide) hle))
  rw [this] at hkb
  cases hkb
 refine ⟨k,hkn,Nat.eq_of_testBit_eq fun j=>?_⟩
 by_cases hjk:j=k
 ·subst hjk
  rw [hkb,Nat.testBit_two_pow_self]
 ·rw [Nat.testBit_two_pow_of_ne (fun e=>hjk e.symm),Bool.eq_false_iff]
  intro hjb
  have hjn:j < C.length:=Nat.lt_of_not_le fun hle=>by
   have:=Nat.testBit_lt_two_pow (Nat.lt_of_lt_of_le ha (Nat.pow_le_pow_right (by decide) hle))
   rw [this] at hjb
   cases hjb
  have e1:=hsame _ ((mem_pts ha h.n16).2 ⟨j,hjn,hjb,rfl⟩)
  have e2:=hsame _ ((mem_pts ha h.n16).2 ⟨k,hkn,hkb,rfl⟩)
  have he:C.getD j []=C.getD k []:=by rw [e1,e2]
  have f1:C.getD j []=C[j]:=by simp [hjn]
  have f2:C.getD k []=C[k]:=by simp [hkn]
  rw [f1,f2] at he
  exact hjk (sasc_idx h.asc hjn hkn he)
end Go.Proofs.YtkfdpcgmpbopnaaGreatDoor
namespace Go.Proofs.YtkfdpcgmpbopnaaGreatDoor
open Go.RowKit
attribute [local go_sem ↓] Go.wp_at_zero Go.wp_at_succ
def mtTo (C:List (List Int)) (r:List Int) (k:Nat):List Int:=((List.range k).filter fun i=>decide (overL r (C.getD i [])=0)).map fun i:Nat=>(i:Int)
theorem mtTo_succ (C:List (List Int)) (r:List Int) (k:Nat):mtTo C r (k+1)=mtTo C r k ++ (if overL r (C.getD k [])=0 then [(k:Int)] else []):=by
 unfold mtTo
 rw [List.range_succ,List.filter_append,List.map_append]
 by_cases h:overL r (C.getD k [])=0
 ·rw [if_pos h,List.filter_cons_of_pos (by exact decide_eq_true h)]; rfl
 ·rw [if_neg h,List.filter_cons_of_neg (by rw [decide_eq_false h]; decide)]; rfl
theorem setN_app:∀(l:List Int) (x:Int),setN (l ++ [x])=setN l ||| 2 ^ x.toNat
 | [],x=>by simp [setN]
 | v :: l,x=>by
  rw [List.cons_append]
  unfold setN
  rw [setN_app l x,Nat.or_assoc]
theorem setN_mt (C:List (List Int)) (r:List Int):∀k,setN (mtTo C r k)=sdTo C r k
 | 0=>rfl
 | k+1=>by
  rw [mtTo_succ]
  unfold sdTo
  by_cases h:overL r (C.getD k [])=0
  ·rw [if_pos h,if_pos h,setN_app,setN_mt C r k]; simp
  ·rw [if_neg h,if_neg h,List.append_nil,setN_mt C r k,Nat.or_zero]
theorem mtTo_mem {C:List (List Int)} {r:List Int} {k:Nat} {x:Int} (h:x∈mtTo C r k):0≤x∧x < (k:Int):=by
 unfold mtTo at h
 simp only [List.mem_map,List.mem_filter,List.mem_range] at h
 obtain ⟨i,⟨hi,_⟩,rfl⟩:=h
 omega
theorem mtTo_len (C:List (List Int)) (r:List Int) (k:Nat):(mtTo C r k).length≤k:=by
 unfold mtTo
 rw [List.length_map]
 exact Nat.le_trans (List.length_filter_le _ _) (by simp)
set_option maxRecDepth 100000 in
set_option maxHeartbeats 1600000 in
theorem metBy_any (d:Nat) (C:List (List Int)) (r:List Int) (rv cv:Value) (w:World) (hr:Sl w.heap.size 3 w rv (ints r)) (hc:Mat w.heap.size 22 3 w cv C) (hrl:r.length=d+1) (hlen:∀y∈C,y.length=d) (hsm:∀y∈C,Sm (r.take d) y) (hn:C.length≤16) :
  Calls Tryz.prog 49 #[rv,cv] w fun e w'=>e=.returned (.int .u64 (sdN C r))∧Below w.heap.size w w':=by
 obtain ⟨i3,hi3,hz30,hz31,hz32⟩:=info_parts Tryz.info3
 obtain ⟨co,cc,rfl,hlc,hcm⟩:=mat_open hc
 obtain ⟨rb,ro,rcp,rfl,hc1,hcc⟩:=sl_cell hr (k:=d) (by omega)
 have hTK:=Sl.take (n:=d) hr (by omega)
 have HTK:Hid (∀W',Below w.heap.size w W'→Sl w.heap.size 3 W' (.slice (some ⟨rb,ro,none⟩) d rcp) (ints (r.take d))):=fun W' h=>by
  exact hTK.below h (Nat.le_refl _)
 have HRC:Hid (∀W',Below w.heap.size w W'→W'.cell? ⟨rb,ro+d,none⟩=some (.int .i64 (r.getD d 0))):=fun W' h=>(h.cell (lt_of_cell hcc)).trans hcc
 have HC:Hid (∀W',Below w.heap.size w W'→Mat w.heap.size 22 3 W' (.slice co C.length cc) C):=fun W' h=>hc.below h (Nat.le_refl _)
 have HLN:Hid (∀y∈C,y.length=d):=hlen
 have HSM:Hid (∀y∈C,Sm (r.take d) y):=hsm
 rw [hrl] at hc1
 rw [hrl]
 clear hr hc hrl hlen hsm hTK hcc
 go_enter Tryz.func49,Tryz.ntmps49
 go_wp2
 go_loopw [5,6,7,10] (fun x _ _ i wr=>∃k:Nat,k≤C.length∧i=.int .i64 k∧wr.ownsRow w.heap.size 3 1 x (mtTo C r k).length (ints (mtTo C r k))∧Below w.heap.size w wr) (fun _ _ _ i _=>C.length-(intOf i).toNat)
 case atStart=>exact ⟨0,Nat.zero_le _,rfl,by rw [show mtTo C r 0=[] from rfl]; exact World.ownsRow_nil _ _ _ _,Below.refl _ _⟩
 case round=>
  obtain ⟨k,hk,rfl,ho,hb⟩:=hrel
  have HO:Hid (wr.ownsRow w.heap.size 3 1 u5 (mtTo C r k).length (ints (mtTo C r k))):=ho
  have HB:Hid (Below w.heap.size w wr):=hb
  have hszr:w.heap.size≤wr.heap.size:=hb.size
  have HML:Hid ((mtTo C r k).length≤16):=Nat.le_trans (mtTo_len C r k) (by omega)
  clear ho hb
  by_cases hlt:k < C.length
  ·obtain ⟨qb,qo,qcp,q1,hqs,_,hqc,hq1⟩:=mat_cell (HC.out wr HB.out) hlt
   simp only [Value.slice.injEq,true_and] at hqs
   obtain ⟨rfl,rfl⟩:=hqs
   have hkm:C.getD k []∈C:=by simp [hlt]
   have hyl:=HLN.out _ hkm
   obtain ⟨yo,yc,rfl,_,_⟩:=sl_open hq1
   have hrc:=HRC.out wr HB.out
   have HPR:Hid (∀n,Calls Tryz.prog 69 #[.slice (some ⟨rb,ro,none⟩) d rcp,.slice yo d yc] (wr.drewN n) fun e w'=>e=.returned (.int .i64 (dotL (r.take d) (C.getD k [])))∧∃k,w'=(wr.drewN n).drewN k):=fun n=>by
    have h:=product_any w.heap.size (r.take d) (C.getD k []) (.slice (some ⟨rb,ro,none⟩) d rcp) (.slice yo (C.getD k []).length yc) (wr.drewN n) ((HTK.out wr HB.out).drewN n) (hq1.drewN n) (HSM.out _ hkm)
    rw [hyl] at h
    exact h
   have HOV:Hid (overL r (C.getD k [])=dotL (r.take d) (C.getD k [])-r.getD d 0):=by
    show _=_
    unfold overL
    rw [hyl]
   have HSU:Hid (mtTo C r (k+1)=mtTo C r k ++ (if overL r (C.getD k [])=0 then [(k:Int)] else [])):=mtTo_succ C r k
   rw [hyl] at hqc
   rw [HOV.out] at HSU
   clear hq1 hkm hyl HOV
   generalize dotL (r.take d) (C.getD k [])=D at *
   generalize r.getD d 0=q at *
   have hd0:(0:Int)≤(d:Int):=by omega
   have hd1:(d:Int) < (d:Int)+1:=by omega
   have hdc:d≤rcp:=by omega
   have hdc2:(d:Int)≤(rcp:Int):=by omega
   by_cases hD:D=q
   ·have hDq:(D == q)=true:=by simp [hD]
    have HS2:Hid (mtTo C r (k+1)=mtTo C r k ++ [(k:Int)]):=by
     have h:=HSU.out
     rw [if_pos (by omega)] at h
     exact h
    clear HSU hD
    obtain ⟨ol,hol⟩:∃ol,ol=(mtTo C r k).length:=⟨_,rfl⟩
    have HOL:Hid (ol=(mtTo C r k).length):=hol
    rw [←hol] at HO HML
    have hol2:ol≤16:=HML.out
    clear hol
    go_wp2
    go_quiet (first | (go_at_call 69; exact Calls.quiet_of (w:=wr) (HPR.out _)))
    obtain ⟨WX,hWX⟩:∃WX,WX=wr.drewN nq:=⟨_,rfl⟩
    rw [←hWX]
    have HOX:Hid (WX.ownsRow w.heap.size 3 1 u5 ol (ints (mtTo C r k))):=by rw [hWX]; exact HO.out
    have HBX:Hid (Below w.heap.size w WX):=by rw [hWX]; exact ⟨HB.out.os,HB.out.tape,HB.out.output,HB.out.size,HB.out.block⟩
    have hszx:w.heap.size≤WX.heap.size:=HBX.out.size
    clear hWX hrc hqc HPR HO
    go_wp2_with (first | (at_builtin; refine wpList_append_own _ rfl _ _ 22 rfl w.heap.size 3 i3 (.int .i64 0) 1 8 Tryz.underlying22 hi3 hz30 hz31 hz32 rfl (by decide) _ _ _ rfl (HOX.out.alloc _) ⟨WX.heap.size,0,none⟩ 1 1 [.int .i64 k] rfl rfl (one_new _ _ _) (one_int _) ?c3 ?c4 ?c5 ?_))
    case c3=>unfold maxLen; omega
    case c4=>omega
    case c5=>first | exact hszx | omega | (simp; omega)
    intro v' w3 ho3 hg3 _
    have R1:Hid (w3.ownsRow w.heap.size 3 1 v' (mtTo C r (k+1)).length (ints (mtTo C r (k+1)))):=by
     have e1:(mtTo C r (k+1)).length=ol+1:=by rw [HS2.out,List.length_append,←HOL.out]; rfl
     have e2:ints (mtTo C r (k+1))=ints (mtTo C r k) ++ [.int .i64 (k:Int)]:=by rw [HS2.out]; simp [ints]
     show World.ownsRow _ _ _ _ _ _ _
     rw [e1,e2]
     exact ho3
    have R2:Hid (Below w.heap.size w w3):=(HBX.out.alloc hszx _).grown hg3 (by simp; omega) (fun x hx=>(HOX.out.lt x hx).1)
    clear ho3 hg3
    go_wp2
    go_roundw
    case rel=>exact ⟨k+1,by omega,by go_num,R1.out,R2.out⟩
    case measure=>simp [intOf]; omega
   ·have hDq:(D == q)=false:=by simp [hD]
    have HS2:Hid (mtTo C r (k+1)=mtTo C r k):=by
     have h:=HSU.out
     rw [if_neg (by omega),List.append_nil] at h
     exact h
    clear HSU hD
    go_wp2
    go_quiet (first | (go_at_call 69; exact Calls.quiet_of (w:=wr) (HPR.out _)))
    obtain ⟨WX,hWX⟩:∃WX,WX=wr.drewN nq:=⟨_,rfl⟩
    rw [←hWX]
    have HOX:Hid (WX.ownsRow w.heap.size 3 1 u5 (mtTo C r (k+1)).length (ints (mtTo C r (k+1)))):=by rw [hWX,HS2.out]; exact HO.out
    have HBX:Hid (Below w.heap.size w WX):=by rw [hWX]; exact ⟨HB.out.os,HB.out.tape,HB.out.output,HB.out.size,HB.out.block⟩
    clear hWX hrc hqc HPR HO
    go_wp2
    go_roundw
    case rel=>exact ⟨k+1,by omega,by go_num,HOX.out,HBX.out⟩
    case measure=>simp [intOf]; omega
  ·have hke:k=C.length:=by omega
   have HSO:Hid (Calls Tryz.prog 70 #[u5] wr fun e w'=>e=.returned (.int .u64 (sdN C r))∧∃n,w'=wr.drewN n):=by
    have h:=setOf_any w.heap.size (mtTo C r k) u5 wr (Sl.own HO.out) (fun x hx=>by have:=mtTo_mem hx; omega)
    rw [setN_mt,hke] at h
    exact h
   subst hke
   clear hlt
   obtain ⟨uo,uc,huv⟩:=owns_form HO.out
   subst huv
   go_wp2_with fail
   refine HSO.out.mono ?_
   rintro e w2 ⟨rfl,n,rfl⟩
   have HBX:Hid (Below w.heap.size w (wr.drewN n)):=⟨HB.out.os,HB.out.tape,HB.out.output,HB.out.size,HB.out.block⟩
   go_wp2
   go_ret
   exact ⟨rfl,HBX.out⟩
end Go.Proofs.YtkfdpcgmpbopnaaGreatDoor
