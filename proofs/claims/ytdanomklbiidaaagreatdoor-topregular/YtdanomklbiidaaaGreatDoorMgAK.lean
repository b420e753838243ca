import Derived.Test.YtdanomklbiidaaaGreatDoorMgAJ
namespace Go.Proofs.YtdanomklbiidaaaGreatDoor.Pick
section
variable {ρ:Type} {P:List (Int×Int)} {s:List ρ} {a b c px py qx qy:ρ→Int}
theorem Pol.tele (h:Pol P s a b c px py qx qy) {X0 Y0:Int} {N M:Nat} (hB:Bx P X0 N Y0 M) {σ:Int} (hσ:σ=1∨σ=-1) (φ:Int→Int→Int) {r0:ρ} (hr0:r0∈s) (hb0:0 < σ*b r0) (h00:px r0=X0) :
  ∀n:Nat,∀r∈s,0 < σ*b r→(qx r-X0).toNat=n→ls s (fun t=>if 0 < σ*b t∧qx t≤qx r then φ (qx t) (qy t)-φ (px t) (py t) else 0)=φ (qx r) (qy r)-φ (px r0) (py r0):=by
 intro n
 induction n using Nat.strongRecOn with
 | ind n ih=>
  intro r hr hb hn
  have hx:=h.xne hr (fun e=>by rw [e] at hb; omega)
  have b1:=hB.x _ (h.pin r hr)
  have b2:=hB.x _ (h.qin r hr)
  simp only at b1 b2
  have hx0:=h.xne hr0 (fun e=>by rw [e] at hb0; omega)
  by_cases hp:px r=X0
  ·have he:r=r0:=h.one hσ hr hr0 hb hb0 (x:=X0) (by omega) (by omega) (by omega) (by omega)
   have hz:∀t∈s,t≠r→(if 0 < σ*b t∧qx t≤qx r then φ (qx t) (qy t)-φ (px t) (py t) else 0)=0:=fun t ht hne=>by
    refine if_neg fun q=>hne ?_
    have hxt:=h.xne ht (fun e=>by rw [e] at q; omega)
    have b3:=hB.x _ (h.pin t ht)
    simp only at b3
    exact h.one hσ ht hr q.1 hb (x:=px t) (by omega) (by omega) (by omega) (by omega)
   rw [ls_one h.nd hr hz,if_pos ⟨hb,Int.le_refl _⟩,he]
  ·obtain ⟨z1,hz1,e1⟩:=hB.l
   obtain ⟨r1,hr1,hb1,k1,k2⟩:=h.span hσ (px r-1) ⟨z1,hz1,by omega⟩ ⟨_,h.pin r hr,by simp only; omega⟩
   have hq1:qx r1=px r:=by
    refine Int.le_antisymm (Int.not_lt.1 fun q=>?_) (by omega)
    have:=h.one hσ hr1 hr hb1 hb (x:=px r) (by omega) q (Int.le_refl _) hx
    rw [this] at k1
    omega
   have hy1:qy r1=py r:=by
    have g1:=h.hold r hr _ (h.qin r1 hr1)
    have g2:=h.hold r1 hr1 _ (h.pin r hr)
    have e1:=h.pon r hr
    have e2:=h.qon r1 hr1
    simp only at g1 g2
    rw [hq1] at g1 e2
    have t1:b r*(qy r1-py r)≤0:=by rw [Int.mul_sub]; omega
    have t2:b r1*(py r-qy r1)≤0:=by rw [Int.mul_sub]; omega
    have s1:1*(b r*(qy r1-py r))=(σ*b r)*(σ*(qy r1-py r)):=by
     rcases hσ with rfl | rfl
     ·simp only [Int.one_mul]
     ·grind
    have s2:1*(b r1*(py r-qy r1))=(σ*b r1)*(σ*(py r-qy r1)):=by
     rcases hσ with rfl | rfl
     ·simp only [Int.one_mul]
     ·grind
    have w1:=(sgn_le (by decide) hb s1).1 t1
    have w2:=(sgn_le (by decide) hb1 s2).1 t2
    rcases hσ with rfl | rfl <;> omega
   have h3:=ih (qx r1-X0).toNat (by omega) r1 hr1 hb1 rfl
   rw [hq1] at h3
   have hsp:ls s (fun t=>if 0 < σ*b t∧qx t≤qx r then φ (qx t) (qy t)-φ (px t) (py t) else 0)=ls s (fun t=>if 0 < σ*b t∧qx t≤px r then φ (qx t) (qy t)-φ (px t) (py t) else 0)+ls s (fun t=>if 0 < σ*b t∧px r < qx t∧qx t≤qx r then φ (qx t) (qy t)-φ (px t) (py t) else 0):=by
    rw [←ls_add]
    refine ls_congr fun t _=>?_
    by_cases q0:0 < σ*b t
    ·by_cases q1:qx t≤px r
     ·rw [if_pos ⟨q0,by omega⟩,if_pos ⟨q0,q1⟩,if_neg (by omega)]; omega
     ·by_cases q2:qx t≤qx r
      ·rw [if_pos ⟨q0,q2⟩,if_neg (by omega),if_pos ⟨q0,by omega,q2⟩]; omega
      ·rw [if_neg (by omega),if_neg (by omega),if_neg (by omega)]; omega
    ·rw [if_neg (by omega),if_neg (by omega),if_neg (by omega)]; omega
   have h4:ls s (fun t=>if 0 < σ*b t∧px r < qx t∧qx t≤qx r then φ (qx t) (qy t)-φ (px t) (py t) else 0)=φ (qx r) (qy r)-φ (px r) (py r):=by
    have hz:∀t∈s,t≠r→(if 0 < σ*b t∧px r < qx t∧qx t≤qx r then φ (qx t) (qy t)-φ (px t) (py t) else 0)=0:=fun t ht hne=>by
     refine if_neg fun q=>hne ?_
     have hxt:=h.xne ht (fun e=>by rw [e] at q; omega)
     exact h.one hσ ht hr q.1 hb (x:=qx t-1) (by omega) (by omega) (by omega) (by omega)
    rw [ls_one h.nd hr hz,if_pos ⟨hb,hx,Int.le_refl _⟩]
   rw [hsp,h3,h4]
   rw [hy1]
   omega
theorem Pol.tele_all (h:Pol P s a b c px py qx qy) {X0 Y0:Int} {N M:Nat} (hB:Bx P X0 N Y0 M) (hN:1≤N) {σ:Int} (hσ:σ=1∨σ=-1) (φ:Int→Int→Int) :
  ∃r0∈s,∃r1∈s,0 < σ*b r0∧0 < σ*b r1∧px r0=X0∧qx r1=X0+N∧ls s (fun t=>if 0 < σ*b t then φ (qx t) (qy t)-φ (px t) (py t) else 0)=φ (qx r1) (qy r1)-φ (px r0) (py r0):=by
 obtain ⟨z1,hz1,e1⟩:=hB.l
 obtain ⟨z2,hz2,e2⟩:=hB.r
 obtain ⟨r0,hr0,hb0,k1,k2⟩:=h.span hσ X0 ⟨z1,hz1,by omega⟩ ⟨z2,hz2,by omega⟩
 obtain ⟨r1,hr1,hb1,k3,k4⟩:=h.span hσ (X0+N-1) ⟨z1,hz1,by omega⟩ ⟨z2,hz2,by omega⟩
 have b1:=hB.x _ (h.pin r0 hr0)
 have b2:=hB.x _ (h.qin r1 hr1)
 simp only at b1 b2
 have hp:px r0=X0:=by omega
 have hq:qx r1=X0+N:=by omega
 refine ⟨r0,hr0,r1,hr1,hb0,hb1,hp,hq,?_⟩
 rw [←h.tele hB hσ φ hr0 hb0 hp _ r1 hr1 hb1 rfl]
 refine ls_congr fun t ht=>?_
 have b3:=hB.x _ (h.qin t ht)
 simp only at b3
 by_cases q:0 < σ*b t
 ·rw [if_pos q,if_pos ⟨q,by omega⟩]
 ·rw [if_neg q,if_neg (by omega)]
def tri (px py qx qy:ρ→Int) (A:Int×Int) (r:ρ):Int:=(((px r-A.1)*(qy r-A.2)-(py r-A.2)*(qx r-A.1)).natAbs:Int)
theorem Pol.upright (h:Pol P s a b c px py qx qy) {X0 Y0:Int} {N M:Nat} (hB:Bx P X0 N Y0 M) (hN:1≤N) {A:Int×Int} (hA1:A.1=X0) {u l:ρ} (hu:u∈s) (hl:l∈s) (hbu:0 < b u) (hbl:b l < 0) (hqu:qx u=X0+N) (hql:qx l=X0+N) :
  ls s (fun t=>if b t=0 then tri px py qx qy A t else 0)=N*(qy u-qy l):=by
 have mU:=h.qin u hu
 have mL:=h.qin l hl
 rw [hqu] at mU
 rw [hql] at mL
 have left:∀t∈s,b t=0→a t < 0→tri px py qx qy A t=0:=fun t ht hb ha=>by
  have ex:=h.xeq ht hb
  obtain ⟨z1,hz1,e1⟩:=hB.l
  have g:=h.hold t ht z1 hz1
  have e:=h.pon t ht
  rw [hb] at g e
  have b1:=hB.x _ (h.pin t ht)
  simp only at b1
  have:px t=X0:=by
   refine Int.le_antisymm (Int.not_lt.1 fun q=>?_) b1.1
   have:=Int.mul_pos_of_neg_of_neg ha (show X0-px t < 0 by omega)
   rw [e1] at g
   rw [Int.mul_sub] at this
   omega
  unfold tri
  rw [←ex,this,hA1]
  simp
 have right:∀t∈s,b t=0→0 < a t→px t=X0+N∧tri px py qx qy A t=N*(qy t-py t):=fun t ht hb ha=>by
  have ex:=h.xeq ht hb
  obtain ⟨z2,hz2,e2⟩:=hB.r
  have g:=h.hold t ht z2 hz2
  have e:=h.pon t ht
  rw [hb] at g e
  have b1:=hB.x _ (h.pin t ht)
  simp only at b1
  have hpx:px t=X0+N:=by
   refine Int.le_antisymm b1.2 (Int.not_lt.1 fun q=>?_)
   have:=Int.mul_pos ha (show 0 < X0+N-px t by omega)
   rw [e2] at g
   rw [Int.mul_sub] at this
   omega
  refine ⟨hpx,?_⟩
  have hlx:=h.lex t ht
  unfold tri
  rw [←ex,hpx,hA1]
  have e3:(X0 + ↑N-X0)*(qy t-A.2)-(py t-A.2)*(X0 + ↑N-X0)=(N:Int)*(qy t-py t):=by grind
  rw [e3]
  have:=Int.mul_nonneg (show (0:Int)≤N by omega) (show 0≤qy t-py t by omega)
  omega
 by_cases hex:∃t∈s,b t=0∧0 < a t
 ·obtain ⟨t,ht,hb,ha⟩:=hex
  obtain ⟨hpx,htr⟩:=right t ht hb ha
  rw [ls_one h.nd ht fun t' ht' hne=>?_]
  ·rw [if_pos hb,htr]
   have ex:=h.xeq ht hb
   -- the ends are those of both sides
   have onl:∀y:Int,a t*(X0+N)+b t*y=c t:=fun y=>by
    have:=h.pon t ht
    rw [hb,hpx] at this
    rw [hb]; omega
   have bU:=h.btw t ht _ mU (onl _)
   have bL:=h.btw t ht _ mL (onl _)
   simp only at bU bL
   have xu:=h.xne hu (by omega)
   have xl:=h.xne hl (by omega)
   have g1:=(up_iff (X0+N) (qy t) hbu xu (h.pon u hu) (h.qon u hu)).1.1 (by
    have:=h.hold u hu _ (h.qin t ht)
    simp only at this
    rw [←ex,hpx] at this
    exact this)
   have g2:=(dn_iff (X0+N) (py t) hbl xl (h.pon l hl) (h.qon l hl)).1.1 (by
    have:=h.hold l hl _ (h.pin t ht)
    simp only at this
    rw [hpx] at this
    exact this)
   have r1:=(ends_r (py:=py u) (qy:=qy u) xu).1
   have r2:=(ends_r (py:=py l) (qy:=qy l) xl).2
   rw [hqu] at r1
   rw [hql] at r2
   rw [hqu,r1] at g1
   rw [hql,r2] at g2
   have e1:qy t=qy u:=by omega
   have e2:py t=qy l:=by omega
   rw [e1,e2]
  ·by_cases hb':b t'=0
   ·rw [if_pos hb']
    rcases Int.lt_trichotomy (a t') 0 with q | q | q
    ·exact left t' ht' hb' q
    ·exact absurd ⟨q,hb'⟩ (h.nz t' ht')
    ·exact absurd (h.inja t' ht' t ht hb' hb (Int.mul_pos q ha)) hne
   ·exact if_neg hb'
 ·have hz:ls s (fun t=>if b t=0 then tri px py qx qy A t else 0)=0:=ls_zero fun t ht=>by
   by_cases hb:b t=0
   ·rw [if_pos hb]
    rcases Int.lt_trichotomy (a t) 0 with q | q | q
    ·exact left t ht hb q
    ·exact absurd ⟨q,hb⟩ (h.nz t ht)
    ·exact absurd ⟨t,ht,hb,q⟩ hex
   ·exact if_neg hb
  have he:qy u=qy l:=by
   refine Classical.byContradiction fun hne=>hex ?_
   obtain ⟨r,hr,e1,e2,_⟩:=h.side 1 0 _ mU _ mL (fun e=>hne (by simp only [Prod.mk.injEq,true_and] at e; exact e)) (fun v hv=>by have:=hB.x v hv; simp only; omega) (by simp) (by omega)
   exact ⟨r,hr,by omega,by omega⟩
  rw [hz,he]
  simp
theorem Pol.area (h:Pol P s a b c px py qx qy) {X0 Y0:Int} {N M:Nat} (hB:Bx P X0 N Y0 M) (hN:1≤N) {A:Int×Int} (hA:A∈P) (hA1:A.1=X0) :
  ls s (tri px py qx qy A)=ls s (fun r=>if 0 < 1*b r then (qx r-px r)*(py r+qy r) else 0)-ls s (fun r=>if 0 < -1*b r then (qx r-px r)*(py r+qy r) else 0):=by
 obtain ⟨φ,hφ⟩:∃φ:Int→Int→Int,φ=fun x y=>(x-A.1)*y+A.2*x:=⟨_,rfl⟩
 have hφ0:∀x y,φ x y=(x-A.1)*y+A.2*x:=fun x y=>by rw [hφ]
 obtain ⟨u0,hu0,u1,hu1,bu0,bu1,pu,qu,eu⟩:=h.tele_all hB hN (σ:=1) (.inl rfl) φ
 obtain ⟨l0,hl0,l1,hl1,bl0,bl1,pl,ql,el⟩:=h.tele_all hB hN (σ:=-1) (.inr rfl) φ
 have hup:=h.upright hB hN hA1 hu1 hl1 (by omega) (by omega) qu ql
 have key:∀r∈s,tri px py qx qy A r=((if 0 < 1*b r then (qx r-px r)*(py r+qy r) else 0)-(if 0 < 1*b r then φ (qx r) (qy r)-φ (px r) (py r) else 0))+(((if 0 < -1*b r then φ (qx r) (qy r)-φ (px r) (py r) else 0)-(if 0 < -1*b r then (qx r-px r)*(py r+qy r) else 0))+(if b r=0 then tri px py qx qy A r else 0)):=fun r hr=>by
  rcases Int.lt_trichotomy (b r) 0 with hb | hb | hb
  ·rw [if_neg (by omega),if_neg (by omega),if_pos (by omega),if_pos (by omega),if_neg (by omega)]
   have hx:=h.xne hr (by omega)
   have e1:=h.pon r hr
   have e2:=h.qon r hr
   have g:=h.hold r hr A hA
   have t:(qx r-px r)*(a r*A.1+b r*A.2-c r)=(-b r) * -((px r-A.1)*(qy r-A.2)-(py r-A.2)*(qx r-A.1)):=by grind
   have t1:=(sgn_le (by omega) (by omega) t).1 (by omega)
   have t2:(px r-A.1)*(qy r-A.2)-(py r-A.2)*(qx r-A.1)=0-0+(φ (qx r) (qy r)-φ (px r) (py r)-(qx r-px r)*(py r+qy r)+0):=by rw [hφ0,hφ0]; clear t t1 e1 e2 g; grind
   rw [←t2]
   unfold tri
   omega
  ·rw [if_neg (by omega),if_neg (by omega),if_neg (by omega),if_neg (by omega),if_pos hb]
   omega
  ·rw [if_pos (by omega),if_pos (by omega),if_neg (by omega),if_neg (by omega),if_neg (by omega)]
   have hx:=h.xne hr (by omega)
   have e1:=h.pon r hr
   have e2:=h.qon r hr
   have g:=h.hold r hr A hA
   have t:(qx r-px r)*(a r*A.1+b r*A.2-c r)=b r*((px r-A.1)*(qy r-A.2)-(py r-A.2)*(qx r-A.1)):=by grind
   have t1:=(sgn_le (by omega) hb t).1 (by omega)
   have t2 : -((px r-A.1)*(qy r-A.2)-(py r-A.2)*(qx r-A.1))=(qx r-px r)*(py r+qy r)-(φ (qx r) (qy r)-φ (px r) (py r))+(0-0+0):=by rw [hφ0,hφ0]; clear t t1 e1 e2 g; grind
   rw [←t2]
   unfold tri
   omega
 rw [ls_congr key,ls_add,ls_add,ls_sub,ls_sub,eu,el,hup,hφ0,hφ0,hφ0,hφ0,pu,qu,pl,ql,hA1]
 have:(X0 + ↑N-X0)=(N:Int):=by omega
 rw [this]
 have e3:(N:Int)*(qy u1-qy l1)=N*qy u1-N*qy l1:=Int.mul_sub _ _ _
 rw [e3]
 simp only [Int.sub_self,Int.zero_mul]
 omega
end
end Go.Proofs.YtdanomklbiidaaaGreatDoor.Pick

namespace Go.Proofs.YtdanomklbiidaaaGreatDoor.Pick
def gk (α β γ x:Int):Int:=(γ-α*x) / β-(α*x-γ) / β
theorem hh_up {a b c px py qx qy:Int} (hb:0 < b) (hd:px < qx) (hp:a*px+b*py=c) (hq:a*qx+b*qy=c) (x:Int):hh px py qx qy x=gk a b c x:=by
 have key:∀y,y≤fl px py qx qy x↔y≤(c-a*x) / b:=fun y=>by
  rw [←(up_iff x y hb hd hp hq).1,Int.le_ediv_iff_mul_le hb,Int.mul_comm y b]
  omega
 have key2:∀y,y < ce px py qx qy x↔y < -((a*x-c) / b):=fun y=>by
  rw [←(up_iff x y hb hd hp hq).2]
  have:=Int.le_ediv_iff_mul_le (a:=-y) (b:=a*x-c) hb
  rw [Int.neg_mul,Int.mul_comm y b] at this
  omega
 have e1:fl px py qx qy x=(c-a*x) / b:=Int.le_antisymm ((key _).1 (Int.le_refl _)) ((key _).2 (Int.le_refl _))
 have e2:ce px py qx qy x=-((a*x-c) / b):=by
  have h1:=key2 (ce px py qx qy x-1)
  have h2:=key2 (-((a*x-c) / b)-1)
  omega
 rw [hh_eq,e1,e2]
 unfold gk
 omega
theorem hh_dn {a b c px py qx qy:Int} (hb:b < 0) (hd:px < qx) (hp:a*px+b*py=c) (hq:a*qx+b*qy=c) (x:Int):hh px py qx qy x=gk (-a) (-b) (-c) x:=
 hh_up (by omega) hd (by grind) (by grind) x
theorem ls_perm {α:Type} (f:α→Int) {l m:List α} (h:l.Perm m):ls l f=ls m f:=by
 unfold ls
 induction h with
 | nil=>rfl
 | cons x _ ih=>simp [ih]
 | swap x y l=>simp; omega
 | trans _ _ ih1 ih2=>exact ih1.trans ih2
theorem stack {κ K:Type} {S:List κ} (u l:κ→K) (g:K→Int) {kU kL:K} (hS:S.Nodup)
  (hu:∀c∈S,∀c'∈S,u c=u c'→c=c') (hl:∀c∈S,∀c'∈S,l c=l c'→c=c')
  (hUn:∀c∈S,u c=kU∨∃c'∈S,l c'=u c) (hLn:∀c∈S,l c=kL∨∃c'∈S,u c'=l c)
  (hU:∃c∈S,u c=kU) (hL:∃c∈S,l c=kL) (hU0:∀c∈S,l c≠kU) (hL0:∀c∈S,u c≠kL) :
  ls S (fun c=>g (u c))-ls S (fun c=>g (l c))=g kU-g kL:=by
 have nd:∀f:κ→K,(∀c∈S,∀c'∈S,f c=f c'→c=c')→(S.map f).Nodup:=fun f hf=>by
  rw [List.nodup_iff_pairwise_ne,List.pairwise_map]
  exact List.Pairwise.imp_of_mem (fun {a b} ha hb hne e=>hne (hf a ha b hb e)) (List.nodup_iff_pairwise_ne.1 hS)
 have hp:(kL :: S.map u).Perm (kU :: S.map l):=by
  refine (List.perm_ext_iff_of_nodup (List.nodup_cons.2 ⟨fun h=>?_,nd u hu⟩) (List.nodup_cons.2 ⟨fun h=>?_,nd l hl⟩)).2 fun k=>?_
  ·obtain ⟨c,hc,e⟩:=List.mem_map.1 h
   exact hL0 c hc e
  ·obtain ⟨c,hc,e⟩:=List.mem_map.1 h
   exact hU0 c hc e
  ·simp only [List.mem_cons,List.mem_map]
   constructor
   ·rintro (rfl | ⟨c,hc,rfl⟩)
    ·obtain ⟨c,hc,e⟩:=hL
     exact Or.inr ⟨c,hc,e⟩
    ·rcases hUn c hc with e | ⟨c',hc',e⟩
     ·exact Or.inl e
     ·exact Or.inr ⟨c',hc',e⟩
   ·rintro (rfl | ⟨c,hc,rfl⟩)
    ·obtain ⟨c,hc,e⟩:=hU
     exact Or.inr ⟨c,hc,e⟩
    ·rcases hLn c hc with e | ⟨c',hc',e⟩
     ·exact Or.inl e
     ·exact Or.inr ⟨c',hc',e⟩
 have h:=ls_perm g hp
 rw [ls_cons,ls_cons] at h
 have e:∀f:κ→K,ls (S.map f) g=ls S fun c=>g (f c):=fun f=>by simp [ls,List.map_map,Function.comp_def]
 rw [e,e] at h
 omega
structure Pln where
 A:Int
 B:Int
 C:Int
 D:Int
def Pln.f (p:Pln) (x y h:Int):Int:=p.A*x+p.B*y+p.C*h-p.D
theorem tilt {ι:Type} (I:List ι) (X Y H:ι→Int) (p:Pln) (hC:0 < p.C) (a b c:Int)
  (h0:∀k∈I,a*X k+b*Y k=c→0≤p.f (X k) (Y k) (H k)) (hex:∃k∈I,c < a*X k+b*Y k) :
  ∃q:Pln,0 < q.C∧(∃k0∈I,c < a*X k0+b*Y k0∧q.f (X k0) (Y k0) (H k0)=0∧∀x y h,q.f x y h=(a*X k0+b*Y k0-c)*p.f x y h-p.f (X k0) (Y k0) (H k0)*(a*x+b*y-c))∧
   ∀k∈I,c≤a*X k+b*Y k→0≤q.f (X k) (Y k) (H k):=by
 obtain ⟨L,hL⟩:∃L,L=I.filter fun k=>decide (c < a*X k+b*Y k):=⟨_,rfl⟩
 have mem:∀k,k∈L↔k∈I∧c < a*X k+b*Y k:=fun k=>by rw [hL]; simp
 obtain ⟨k1,hk1,hk2⟩:=hex
 obtain ⟨k0,hk0,hmax⟩:=frac_max (fun k=>-p.f (X k) (Y k) (H k)) (fun k=>a*X k+b*Y k-c) L (List.ne_nil_of_mem ((mem k1).2 ⟨hk1,hk2⟩)) fun k hk=>by
  have:=((mem k).1 hk).2; omega
 obtain ⟨hI0,hs0⟩:=(mem k0).1 hk0
 have hd:0 < a*X k0+b*Y k0-c:=by omega
 obtain ⟨s,hs⟩:∃s,s=a*X k0+b*Y k0-c:=⟨_,rfl⟩
 obtain ⟨F,hF⟩:∃F,F=p.f (X k0) (Y k0) (H k0):=⟨_,rfl⟩
 have hq:∀x y h,(Pln.mk (s*p.A-F*a) (s*p.B-F*b) (s*p.C) (s*p.D-F*c)).f x y h=s*p.f x y h-F*(a*x+b*y-c):=fun x y h=>by
  simp only [Pln.f]
  grind
 refine ⟨⟨s*p.A-F*a,s*p.B-F*b,s*p.C,s*p.D-F*c⟩,Int.mul_pos (by omega) hC,⟨k0,hI0,hs0,?_,fun x y h=>?_⟩,fun k hk hge=>?_⟩
 ·rw [hq,←hF,←hs]; grind
 ·rw [hq,←hF,←hs]
 ·rw [hq]
  by_cases e:a*X k+b*Y k=c
  ·have h1:=Int.mul_nonneg (show 0≤s by omega) (h0 k hk e)
   have h2:F*(a*X k+b*Y k-c)=0:=by rw [e]; simp
   omega
  ·have h1:=hmax k ((mem k).2 ⟨hk,by omega⟩)
   rw [←hF,←hs] at h1
   have e1 : -p.f (X k) (Y k) (H k)*s=-(s*p.f (X k) (Y k) (H k)):=by grind
   have e2 : -F*(a*X k+b*Y k-c)=-(F*(a*X k+b*Y k-c)):=by grind
   rw [e1,e2] at h1
   omega
end Go.Proofs.YtdanomklbiidaaaGreatDoor.Pick

namespace Go.Proofs.YtdanomklbiidaaaGreatDoor.Pick
def pts {ι:Type} (X Y:ι→Int) (M:List ι):List (Int×Int):=M.map fun k=>(X k,Y k)
def tn (x y x' y' x'' y'':Int):Int:=(x'-x)*(y''-y)-(y'-y)*(x''-x)
def zer {ι:Type} (X Y H:ι→Int) (I:List ι) (p:Pln):List ι:=I.filter fun k=>decide (p.f (X k) (Y k) (H k)=0)
theorem mem_zer {ι:Type} {X Y H:ι→Int} {I:List ι} {p:Pln} {k:ι} : k∈zer X Y H I p↔k∈I∧p.f (X k) (Y k) (H k)=0:=by simp [zer]
structure Reg {ι κ ρ:Type} (I:List ι) (X Y H:ι→Int) (S:List κ) (pl:κ→Pln) (Gd:ρ→Prop) (neg:ρ→ρ) (a b g:ρ→Int) (s:κ→List ρ) (px py qx qy:κ→ρ→Int) (s0:List ρ) (px0 py0 qx0 qy0:ρ→Int):Prop where
 nd:S.Nodup
 cpos:∀c∈S,0 < (pl c).C
 ge:∀c∈S,∀k∈I,0≤(pl c).f (X k) (Y k) (H k)
 pol:∀c∈S,Pol (pts X Y (zer X Y H I (pl c))) (s c) a b g (px c) (py c) (qx c) (qy c)
 one:∀c∈S,∀c'∈S,(∀k∈I,(pl c).f (X k) (Y k) (H k)=0↔(pl c').f (X k) (Y k) (H k)=0)→c=c'
 all:∀q:Pln,0 < q.C→(∀k∈I,0≤q.f (X k) (Y k) (H k))→(∃i∈I,∃j∈I,∃k∈I,q.f (X i) (Y i) (H i)=0∧q.f (X j) (Y j) (H j)=0∧q.f (X k) (Y k) (H k)=0∧tn (X i) (Y i) (X j) (Y j) (X k) (Y k)≠0)→∃c∈S,∀k∈I,q.f (X k) (Y k) (H k)=0↔(pl c).f (X k) (Y k) (H k)=0
 tot:Pol (pts X Y I) s0 a b g px0 py0 qx0 qy0
 gds:∀c∈S,∀r∈s c,Gd r
 gd0:∀r∈s0,Gd r
 gdn:∀r,Gd r→Gd (neg r)
 na:∀r,a (neg r)=- a r
 nb:∀r,b (neg r)=- b r
 ng:∀r,g (neg r)=- g r
 nn:∀r,neg (neg r)=r
 can:∀r r',Gd r→Gd r'→∀k k':Int,0 < k→0 < k'→k'*a r=k*a r'→k'*b r=k*b r'→k'*g r=k*g r'→r=r'
section
variable {ι κ ρ:Type} {I:List ι} {X Y H:ι→Int} {S:List κ} {pl:κ→Pln} {Gd:ρ→Prop} {neg:ρ→ρ} {a b g:ρ→Int} {s:κ→List ρ} {px py qx qy:κ→ρ→Int} {s0:List ρ} {px0 py0 qx0 qy0:ρ→Int}
theorem side_row {P:List (Int×Int)} {t:List ρ} {ax ay bx by':ρ→Int} (h:Pol P t a b g ax ay bx by') (hgd:∀r∈t,Gd r) (hcan:∀r r',Gd r→Gd r'→∀k k':Int,0 < k→0 < k'→k'*a r=k*a r'→k'*b r=k*b r'→k'*g r=k*g r'→r=r')
  {r:ρ} (hr:Gd r) {σ:Int} (hσ:σ=1∨σ=-1) (hb:0 < σ*b r) {z w:Int×Int} (hz:z∈P) (hw:w∈P) (hle:∀v∈P,a r*v.1+b r*v.2≤g r) (ez:a r*z.1+b r*z.2=g r) (ew:a r*w.1+b r*w.2=g r) {x:Int} (hzx:z.1≤x) (hwx:x < w.1) :
  r∈t∧ax r≤x∧x < bx r:=by
 obtain ⟨r',hr',e1,e2,e3⟩:=h.side (a r) (b r) z hz w hw (fun e=>by rw [e] at hzx; omega) (fun v hv=>by rw [ez]; exact hle v hv) (by rw [ew,ez]) (fun e=>by rw [e.2] at hb; simp at hb)
 have hσσ:σ*σ=1:=by rcases hσ with rfl | rfl <;> rfl
 have hb':0 < σ*b r':=by
  have k1:(σ*b r)*(a r'*a r+b r'*b r)=(σ*b r')*(a r*a r+b r*b r):=by
   have:a r'*b r*(σ*a r)=a r*b r'*(σ*a r):=by rw [e1]
   grind
  have sq:∀q:Int,0≤q*q:=fun q=>by
   rcases Int.le_total 0 q with h | h
   ·exact Int.mul_nonneg h h
   ·exact Int.mul_nonneg_of_nonpos_of_nonpos h h
  have k2:=Int.mul_pos hb e2
  rw [k1] at k2
  refine Int.not_le.1 fun q=>?_
  have:=Int.mul_le_mul_of_nonneg_right q (show 0≤a r*a r+b r*b r by have:=sq (a r); have:=sq (b r); omega)
  rw [Int.zero_mul] at this
  omega
 have e4:σ*(a r'*b r)=σ*(a r*b r'):=by rw [e1]
 have e5:σ*b r*g r'=σ*b r'*g r:=by
  have q1:σ*b r*g r'=σ*b r*(a r'*z.1+b r'*z.2):=by rw [e3]
  have q2:σ*b r'*g r=σ*b r'*(a r*z.1+b r*z.2):=by rw [ez]
  rw [q1,q2]
  grind
 have he:r'=r:=hcan r' r (hgd r' hr') hr (σ*b r') (σ*b r) hb' hb (by grind) (by grind) e5
 rw [he] at hr' e3
 have b1:=(h.btw r hr' z hz ez).1
 have b2:=(h.btw r hr' w hw ew).2
 exact ⟨hr',by omega,by omega⟩
theorem mem_pts {M:List ι} {z:Int×Int} (h:z∈pts X Y M):∃k∈M,z=(X k,Y k):=by
 obtain ⟨k,hk,e⟩:=List.mem_map.1 h
 exact ⟨k,hk,e.symm⟩
theorem pts_mem {M:List ι} {k:ι} (h:k∈M):(X k,Y k)∈pts X Y M:=List.mem_map.2 ⟨k,h,rfl⟩
theorem off_line {P:List (Int×Int)} {t:List ρ} {ax ay bx by':ρ→Int} (h:Pol P t a b g ax ay bx by') {α β γ:Int} (h0:¬(α=0∧β=0)):∃v∈P,α*v.1+β*v.2≠γ:=by
 refine Classical.byContradiction fun hn=>h0 (h.full α β fun v hv w hw=>?_)
 have e1:α*v.1+β*v.2=γ:=Classical.byContradiction fun q=>hn ⟨v,hv,q⟩
 have e2:α*w.1+β*w.2=γ:=Classical.byContradiction fun q=>hn ⟨w,hw,q⟩
 rw [e1,e2]
theorem Reg.next (h:Reg I X Y H S pl Gd neg a b g s px py qx qy s0 px0 py0 qx0 qy0) {σ:Int} (hσ:σ=1∨σ=-1) {c:κ} (hc:c∈S) {r:ρ} (hr:r∈s c) (hb:0 < σ*b r) {x:Int} (h1:px c r≤x) (h2:x < qx c r) (hex:∃k∈I,g r < a r*X k+b r*Y k) :
  ∃c'∈S,neg r∈s c'∧px c' (neg r)≤x∧x < qx c' (neg r):=by
 have hp:=h.pol c hc
 obtain ⟨q,hqC,⟨k0,hk0,hs0,hz0,hq⟩,hge⟩:=tilt I X Y H (pl c) (h.cpos c hc) (a r) (b r) (g r) (fun k hk _=>h.ge c hc k hk) hex
 have hF0:0 < (pl c).f (X k0) (Y k0) (H k0):=by
  have:=h.ge c hc k0 hk0
  refine Int.not_le.1 fun hle=>?_
  have e:(pl c).f (X k0) (Y k0) (H k0)=0:=by omega
  have:=hp.hold r hr _ (pts_mem (X:=X) (Y:=Y) (mem_zer.2 ⟨hk0,e⟩))
  simp only at this
  omega
 -- the plane is beneath all
 have hall:∀k∈I,0≤q.f (X k) (Y k) (H k)∧(a r*X k+b r*Y k < g r→0 < q.f (X k) (Y k) (H k)):=fun k hk=>by
  by_cases hlt:a r*X k+b r*Y k < g r
  ·rw [hq]
   have m1:=Int.mul_nonneg (show 0≤a r*X k0+b r*Y k0-g r by omega) (h.ge c hc k hk)
   have m2:=Int.mul_pos hF0 (show 0 < g r-(a r*X k+b r*Y k) by omega)
   have e:(pl c).f (X k0) (Y k0) (H k0)*(a r*X k+b r*Y k-g r)=-((pl c).f (X k0) (Y k0) (H k0)*(g r-(a r*X k+b r*Y k))):=by grind
   rw [e]
   omega
  ·exact ⟨hge k hk (by omega),fun q=>absurd q hlt⟩
 obtain ⟨kp,hkp,ep⟩:=mem_pts (hp.pin r hr)
 obtain ⟨kq,hkq,eq⟩:=mem_pts (hp.qin r hr)
 rw [Prod.mk.injEq] at ep eq
 obtain ⟨mp,zp⟩:=mem_zer.1 hkp
 obtain ⟨mq,zq⟩:=mem_zer.1 hkq
 have onp:=hp.pon r hr
 have onq:=hp.qon r hr
 have ezp:q.f (X kp) (Y kp) (H kp)=0:=by rw [hq,zp,←ep.1,←ep.2,onp]; simp
 have ezq:q.f (X kq) (Y kq) (H kq)=0:=by rw [hq,zq,←eq.1,←eq.2,onq]; simp
 obtain ⟨c',hc',hsame⟩:=h.all q hqC (fun k hk=>(hall k hk).1) ⟨kp,mp,kq,mq,k0,hk0,ezp,ezq,hz0,fun e=>by
  unfold tn at e
  rw [←ep.1,←ep.2,←eq.1,←eq.2] at e
  have hx:0 < qx c r-px c r:=by omega
  have k1:(qx c r-px c r)*(a r*X k0+b r*Y k0-g r)=b r*((qx c r-px c r)*(Y k0-py c r)-(qy c r-py c r)*(X k0-px c r)):=by grind
  rw [e,Int.mul_zero] at k1
  have:=Int.mul_pos hx (show 0 < a r*X k0+b r*Y k0-g r by omega)
  omega⟩
 have hpm:(X kp,Y kp)∈pts X Y (zer X Y H I (pl c')):=pts_mem (mem_zer.2 ⟨mp,(hsame kp mp).1 ezp⟩)
 have hqm:(X kq,Y kq)∈pts X Y (zer X Y H I (pl c')):=pts_mem (mem_zer.2 ⟨mq,(hsame kq mq).1 ezq⟩)
 have hgr:=h.gds c hc r hr
 refine ⟨c',hc',side_row (h.pol c' hc') (h.gds c' hc') h.can (h.gdn r hgr) (σ:=-σ) (by omega) (by rw [h.nb]; grind) hpm hqm (fun v hv=>?_) ?_ ?_ (by simp only; omega) (by simp only; omega)⟩
 ·obtain ⟨k,hk,rfl⟩:=mem_pts hv
  obtain ⟨mk,zk⟩:=mem_zer.1 hk
  have zq':=(hsame k mk).2 zk
  have:=(hall k mk).2
  rw [h.na,h.nb,h.ng]
  simp only
  have e : -a r*X k + -b r*Y k=-(a r*X k+b r*Y k):=by grind
  rw [e]
  have:¬(a r*X k+b r*Y k < g r):=fun q=>by have:=this q; omega
  omega
 ·rw [h.na,h.nb,h.ng]; simp only; rw [←ep.1,←ep.2,←onp]; grind
 ·rw [h.na,h.nb,h.ng]; simp only; rw [←eq.1,←eq.2,←onq]; grind
theorem Reg.lone (h:Reg I X Y H S pl Gd neg a b g s px py qx qy s0 px0 py0 qx0 qy0) {σ:Int} (hσ:σ=1∨σ=-1) {c1 c2:κ} (hc1:c1∈S) (hc2:c2∈S) {r:ρ} (hr1:r∈s c1) (hr2:r∈s c2) (hb:0 < σ*b r) {x:Int} (h1:px c1 r≤x) (h1':x < qx c1 r) (h2:px c2 r≤x) (h2':x < qx c2 r):c1=c2:=by
 have hp1:=h.pol c1 hc1
 have hp2:=h.pol c2 hc2
 have C1:=h.cpos c1 hc1
 have C2:=h.cpos c2 hc2
 refine h.one c1 hc1 c2 hc2 ?_
 obtain ⟨P1,hP1⟩:∃p,p=pl c1:=⟨_,rfl⟩
 obtain ⟨P2,hP2⟩:∃p,p=pl c2:=⟨_,rfl⟩
 obtain ⟨G,hG⟩:∃G:Int→Int→Int,G=fun x y=>P2.C*(P1.A*x+P1.B*y-P1.D)-P1.C*(P2.A*x+P2.B*y-P2.D):=⟨_,rfl⟩
 have hG0:∀x y,G x y=P2.C*(P1.A*x+P1.B*y-P1.D)-P1.C*(P2.A*x+P2.B*y-P2.D):=fun x y=>by rw [hG]
 have hGk:∀x y z,P2.C*P1.f x y z-P1.C*P2.f x y z=G x y:=fun x y z=>by rw [hG0]; simp only [Pln.f]; grind
 obtain ⟨m,hm⟩:∃m,m=P2.C*(P1.A*b r-P1.B*a r)-P1.C*(P2.A*b r-P2.B*a r):=⟨_,rfl⟩
 obtain ⟨n,hn⟩:∃n,n=P2.C*(P1.B*g r-P1.D*b r)-P1.C*(P2.B*g r-P2.D*b r):=⟨_,rfl⟩
 obtain ⟨κ',hκ⟩:∃κ',κ'=P2.C*P1.B-P1.C*P2.B:=⟨_,rfl⟩
 have hbG:∀x y,b r*G x y=m*x+n+κ'*(a r*x+b r*y-g r):=fun x y=>by rw [hG0,hm,hn,hκ]; grind
 rw [←hP1] at hp1 C1
 rw [←hP2] at hp2 C2
 have ge1:=h.ge c1 hc1
 have ge2:=h.ge c2 hc2
 rw [←hP1] at ge1 ⊢
 rw [←hP2] at ge2 ⊢
 have s1:∀v∈pts X Y (zer X Y H I P1),G v.1 v.2≤0:=fun v hv=>by
  obtain ⟨k,hk,rfl⟩:=mem_pts hv
  obtain ⟨mk,zk⟩:=mem_zer.1 hk
  have e:=hGk (X k) (Y k) (H k)
  rw [zk,Int.mul_zero] at e
  have:=Int.mul_nonneg (Int.le_of_lt C1) (ge2 k mk)
  simp only
  omega
 have s2:∀v∈pts X Y (zer X Y H I P2),0≤G v.1 v.2:=fun v hv=>by
  obtain ⟨k,hk,rfl⟩:=mem_pts hv
  obtain ⟨mk,zk⟩:=mem_zer.1 hk
  have e:=hGk (X k) (Y k) (H k)
  rw [zk,Int.mul_zero] at e
  have:=Int.mul_nonneg (Int.le_of_lt C2) (ge1 k mk)
  simp only
  omega
 have on1:=hp1.pon r hr1
 have on2:=hp1.qon r hr1
 have on3:=hp2.pon r hr2
 have on4:=hp2.qon r hr2
 have t1:=s1 _ (hp1.pin r hr1)
 have t2:=s1 _ (hp1.qin r hr1)
 have t3:=s2 _ (hp2.pin r hr2)
 have t4:=s2 _ (hp2.qin r hr2)
 simp only at t1 t2 t3 t4
 have lin:∀x y,a r*x+b r*y=g r→b r*G x y=m*x+n:=fun x y e=>by rw [hbG,e]; simp
 have l1:=lin _ _ on1
 have l2:=lin _ _ on2
 have l3:=lin _ _ on3
 have l4:=lin _ _ on4
 have sg:∀u v:Int,b r*u=v→(u≤0→σ*v≤0)∧(0≤u→0≤σ*v):=fun u v e=>by
  have e':(σ*b r)*u=σ*v:=by rw [←e,Int.mul_assoc]
  constructor
  ·intro hu
   have:=Int.mul_le_mul_of_nonneg_left hu (Int.le_of_lt hb)
   rw [Int.mul_zero,e'] at this
   exact this
  ·intro hu
   have:=Int.mul_nonneg (Int.le_of_lt hb) hu
   rw [e'] at this
   exact this
 have w1:=(sg _ _ l1).1 t1
 have w2:=(sg _ _ l2).1 t2
 have w3:=(sg _ _ l3).2 t3
 have w4:=(sg _ _ l4).2 t4
 have between:∀p q z:Int,p≤z→z≤q→p < q→(σ*(m*p+n)≤0→σ*(m*q+n)≤0→σ*(m*z+n)≤0)∧(0≤σ*(m*p+n)→0≤σ*(m*q+n)→0≤σ*(m*z+n)):=fun p q z hpz hzq hpq=>by
  have e:(q-p)*(σ*(m*z+n))=1*((q-z)*(σ*(m*p+n))+(z-p)*(σ*(m*q+n))):=by grind
  constructor
  ·intro k1 k2
   have m1:=Int.mul_le_mul_of_nonneg_left k1 (show 0≤q-z by omega)
   have m2:=Int.mul_le_mul_of_nonneg_left k2 (show 0≤z-p by omega)
   rw [Int.mul_zero] at m1 m2
   exact (sgn_le (by omega) (by decide) e).2 (by omega)
  ·intro k1 k2
   have m1:=Int.mul_nonneg (show 0≤q-z by omega) k1
   have m2:=Int.mul_nonneg (show 0≤z-p by omega) k2
   have:=mt (sgn_lt (by omega) (by decide) e).1 (by omega)
   omega
 have a1:=(between _ _ x h1 (by omega) (by omega)).1 w1 w2
 have a2:=(between _ _ (x+1) (by omega) (by omega) (show px c1 r < qx c1 r by omega)).1 w1 w2
 have a3:=(between _ _ x h2 (by omega) (by omega)).2 w3 w4
 have a4:=(between _ _ (x+1) (by omega) (by omega) (show px c2 r < qx c2 r by omega)).2 w3 w4
 have hσ0:σ≠0:=by rcases hσ with rfl | rfl <;> decide
 have z1:m*x+n=0:=by
  rcases Int.mul_eq_zero.1 (show σ*(m*x+n)=0 by omega) with q | q
  ·exact absurd q hσ0
  ·exact q
 have z2:m*(x+1)+n=0:=by
  rcases Int.mul_eq_zero.1 (show σ*(m*(x+1)+n)=0 by omega) with q | q
  ·exact absurd q hσ0
  ·exact q
 have m0:m=0:=by grind
 have n0:n=0:=by rw [m0] at z1; omega
 have hb0:b r≠0:=fun e=>by rw [e] at hb; simp at hb
 -- what is left of the difference of both planes
 obtain ⟨v1,hv1,o1⟩:=off_line hp1 (α:=a r) (β:=b r) (γ:=g r) (fun e=>hb0 e.2)
 obtain ⟨v2,hv2,o2⟩:=off_line hp2 (α:=a r) (β:=b r) (γ:=g r) (fun e=>hb0 e.2)
 have i1:=hp1.hold r hr1 v1 hv1
 have i2:=hp2.hold r hr2 v2 hv2
 have j1:=hbG v1.1 v1.2
 have j2:=hbG v2.1 v2.2
 rw [m0,n0] at j1 j2
 have y1:=(sg _ _ j1).1 (s1 v1 hv1)
 have y2:=(sg _ _ j2).2 (s2 v2 hv2)
 have k0:κ'=0:=by
  have e1:σ*(0*v1.1+0+κ'*(a r*v1.1+b r*v1.2-g r))=-((σ*κ')*(g r-(a r*v1.1+b r*v1.2))):=by grind
  have e2:σ*(0*v2.1+0+κ'*(a r*v2.1+b r*v2.2-g r))=-((σ*κ')*(g r-(a r*v2.1+b r*v2.2))):=by grind
  rw [e1] at y1
  rw [e2] at y2
  have f1:0≤σ*κ':=Int.not_lt.1 fun q=>by
   have:=Int.mul_pos (show 0 < -(σ*κ') by omega) (show 0 < g r-(a r*v1.1+b r*v1.2) by omega)
   rw [Int.neg_mul] at this
   omega
  have f2:σ*κ'≤0:=Int.not_lt.1 fun q=>by
   have:=Int.mul_pos q (show 0 < g r-(a r*v2.1+b r*v2.2) by omega)
   omega
  rcases Int.mul_eq_zero.1 (show σ*κ'=0 by omega) with q | q
  ·exact absurd q hσ0
  ·exact q
 intro k hk
 have e:=hbG (X k) (Y k)
 rw [m0,n0,k0] at e
 have eG:G (X k) (Y k)=0:=by
  rcases Int.mul_eq_zero.1 (show b r*G (X k) (Y k)=0 by rw [e]; simp) with q | q
  ·exact absurd q hb0
  ·exact q
 have e2:=hGk (X k) (Y k) (H k)
 rw [eG] at e2
 constructor
 ·intro q
  rw [q,Int.mul_zero] at e2
  rcases Int.mul_eq_zero.1 (show P1.C*P2.f (X k) (Y k) (H k)=0 by omega) with q | q
  ·omega
  ·exact q
 ·intro q
  rw [q,Int.mul_zero] at e2
  rcases Int.mul_eq_zero.1 (show P2.C*P1.f (X k) (Y k) (H k)=0 by omega) with q | q
  ·omega
  ·exact q
theorem Reg.last (h:Reg I X Y H S pl Gd neg a b g s px py qx qy s0 px0 py0 qx0 qy0) {σ:Int} (hσ:σ=1∨σ=-1) {r:ρ} (hr:r∈s0) (hb:0 < σ*b r) {x:Int} (h1:px0 r≤x) (h2:x < qx0 r) :
  ∃c∈S,r∈s c∧px c r≤x∧x < qx c r:=by
 have hp:=h.tot
 have onp:=hp.pon r hr
 have onq:=hp.qon r hr
 obtain ⟨kp,mp,ep⟩:=mem_pts (hp.pin r hr)
 obtain ⟨kq,mq,eq⟩:=mem_pts (hp.qin r hr)
 rw [Prod.mk.injEq] at ep eq
 obtain ⟨L,hL⟩:∃L,L=(I.filter fun z=>decide (a r*X z+b r*Y z=g r∧X z≤x)).flatMap fun z=>(I.filter fun w=>decide (a r*X w+b r*Y w=g r∧x < X w)).map fun w=>(z,w):=⟨_,rfl⟩
 have mem:∀e:ι×ι,e∈L↔(e.1∈I∧a r*X e.1+b r*Y e.1=g r∧X e.1≤x)∧e.2∈I∧a r*X e.2+b r*Y e.2=g r∧x < X e.2:=fun e=>by
  rw [hL,List.mem_flatMap]
  constructor
  ·rintro ⟨z,hz,he⟩
   obtain ⟨w,hw,rfl⟩:=List.mem_map.1 he
   simp only [List.mem_filter,decide_eq_true_eq] at hz hw
   exact ⟨hz,hw⟩
  ·rintro ⟨hz,hw⟩
   exact ⟨e.1,by simp only [List.mem_filter,decide_eq_true_eq]; exact hz,List.mem_map.2 ⟨e.2,by simp only [List.mem_filter,decide_eq_true_eq]; exact hw,rfl⟩⟩
 have hne:L≠[]:=List.ne_nil_of_mem ((mem (kp,kq)).2 ⟨⟨mp,by rw [←ep.1,←ep.2]; exact onp,by rw [←ep.1]; exact h1⟩,mq,by rw [←eq.1,←eq.2]; exact onq,by rw [←eq.1]; exact h2⟩)
 obtain ⟨⟨z,w⟩,hm,hmax⟩:=frac_max (fun e:ι×ι=>-(H e.1*(2*X e.2-(2*x+1))+H e.2*(2*x+1-2*X e.1))) (fun e=>X e.2-X e.1) L hne fun e he=>by
  have:=(mem e).1 he
  omega
 obtain ⟨⟨mz,oz,hzx⟩,mw,ow,hwx⟩:=(mem _).1 hm
 simp only at mz oz hzx mw ow hwx hmax
 have hd:0 < X w-X z:=by omega
 obtain ⟨p0,hp0⟩:∃p0:Pln,p0=⟨-(H w-H z),0,X w-X z,H z*X w-H w*X z⟩:=⟨_,rfl⟩
 have f0:∀x y t,p0.f x y t=(X w-X z)*t-(H z*(X w-x)+H w*(x-X z)):=fun x y t=>by rw [hp0]; simp only [Pln.f]; grind
 have hC0:0 < p0.C:=by rw [hp0]; exact hd
 -- on the line all are above
 have hon:∀k∈I,a r*X k+b r*Y k=g r→0≤p0.f (X k) (Y k) (H k):=fun k hk hok=>by
  rw [f0]
  by_cases hkx:X k≤x
  ·have q:=hmax (k,w) ((mem _).2 ⟨⟨hk,hok,hkx⟩,mw,ow,hwx⟩)
   simp only at q
   have key:(2*X w-(2*x+1)) * -((X w-X z)*H k-(H z*(X w-X k)+H w*(X k-X z)))=1*(-(H k*(2*X w-(2*x+1))+H w*(2*x+1-2*X k))*(X w-X z) - -(H z*(2*X w-(2*x+1))+H w*(2*x+1-2*X z))*(X w-X k)):=by grind
   have:=(sgn_le (by omega) (by decide) key).2 (by omega)
   omega
  ·have q:=hmax (z,k) ((mem _).2 ⟨⟨mz,oz,hzx⟩,hk,hok,by simp only; omega⟩)
   simp only at q
   have key:(2*x+1-2*X z) * -((X w-X z)*H k-(H z*(X w-X k)+H w*(X k-X z)))=1*(-(H z*(2*X k-(2*x+1))+H k*(2*x+1-2*X z))*(X w-X z) - -(H z*(2*X w-(2*x+1))+H w*(2*x+1-2*X z))*(X k-X z)):=by grind
   have:=(sgn_le (by omega) (by decide) key).2 (by omega)
   omega
 have hb0:b r≠0:=fun e=>by rw [e] at hb; simp at hb
 obtain ⟨v,hv,ov⟩:=off_line hp (α:=a r) (β:=b r) (γ:=g r) (fun e=>hb0 e.2)
 obtain ⟨kv,mv,rfl⟩:=mem_pts hv
 have iv:=hp.hold r hr _ hv
 simp only at ov iv
 obtain ⟨q,hqC,⟨k0,hk0,hs0,hz0,hq⟩,hge⟩:=tilt I X Y H p0 hC0 (-a r) (-b r) (-g r) (fun k hk e=>hon k hk (by grind)) ⟨kv,mv,by
  have e : -a r*X kv + -b r*Y kv=-(a r*X kv+b r*Y kv):=by grind
  rw [e]; omega⟩
 have hneg:∀k,-a r*X k + -b r*Y k=-(a r*X k+b r*Y k):=fun k=>by grind
 have zz:q.f (X z) (Y z) (H z)=0:=by rw [hq,f0,hneg z,oz]; grind
 have zw:q.f (X w) (Y w) (H w)=0:=by rw [hq,f0,hneg w,ow]; grind
 have hall:∀k∈I,0≤q.f (X k) (Y k) (H k):=fun k hk=>hge k hk (by
  have:=hp.hold r hr _ (pts_mem (X:=X) (Y:=Y) hk)
  simp only at this
  rw [hneg]; omega)
 obtain ⟨c,hc,hsame⟩:=h.all q hqC hall ⟨z,mz,w,mw,k0,hk0,zz,zw,hz0,fun e=>by
  unfold tn at e
  have k1:(X w-X z)*(a r*X k0+b r*Y k0-g r)=b r*((X w-X z)*(Y k0-Y z)-(Y w-Y z)*(X k0-X z)):=by grind
  rw [e,Int.mul_zero] at k1
  rw [hneg] at hs0
  rcases Int.mul_eq_zero.1 k1 with k | k <;> omega⟩
 refine ⟨c,hc,side_row (h.pol c hc) (h.gds c hc) h.can (h.gd0 r hr) hσ hb (pts_mem (mem_zer.2 ⟨mz,(hsame z mz).1 zz⟩)) (pts_mem (mem_zer.2 ⟨mw,(hsame w mw).1 zw⟩)) (fun v hv=>?_) oz ow hzx hwx⟩
 obtain ⟨k,hk,rfl⟩:=mem_pts hv
 exact hp.hold r hr _ (pts_mem (mem_zer.1 hk).1)
end
end Go.Proofs.YtdanomklbiidaaaGreatDoor.Pick
