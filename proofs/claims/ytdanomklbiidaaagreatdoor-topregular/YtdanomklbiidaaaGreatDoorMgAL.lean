import Derived.Test.YtdanomklbiidaaaGreatDoorMgAK
import Derived.Test.YtdanomklbiidaaaGreatDoorMgAA
import Derived.Shelf.SlSortCmp.NoneTotal
import Derived.Shelf.SlGeneric
import Derived.Ground.SlsfProg
import Derived.Test.YtdanomklbiidaaaGreatDoorMgAI
import Derived.Lib.SliceRun
import Derived.Lib.LazyBuf
namespace Go.Proofs.YtdanomklbiidaaaGreatDoor.Pick
theorem ls_filt {κ:Type} (f:κ→Int) (p:κ→Bool):∀l:List κ,(∀c∈l,p c=false→f c=0)→ls (l.filter p) f=ls l f
 | [],_=>rfl
 | c :: l,h=>by
  have ih:=ls_filt f p l fun d hd=>h d (by simp [hd])
  rw [List.filter_cons,ls_cons]
  by_cases hp:p c=true
  ·rw [if_pos hp,ls_cons,ih]
  ·rw [if_neg hp,ih,h c (by simp) (by simpa using hp)]; omega
def Gs {ρ:Type} (a b g:ρ→Int) (x:Int) (r:ρ):Int:=gk (a r) (b r) (g r) x+gk (a r) (b r) (g r) (x+1)
def Es {ρ:Type} (a b g:ρ→Int) (neg:ρ→ρ) (t:List ρ) (ax bx:ρ→Int) (x:Int):Int:=
 ls t (fun r=>if 0 < 1*b r then (if ax r≤x∧x < bx r then Gs a b g x r else 0) else 0)-ls t (fun r=>if 0 < -1*b r then (if ax r≤x∧x < bx r then Gs a b g x (neg r) else 0) else 0)
section
variable {ρ:Type} {P:List (Int×Int)} {t:List ρ} {a b g ax ay bx by':ρ→Int} {neg:ρ→ρ}
theorem Pol.twice (h:Pol P t a b g ax ay bx by') (na:∀r,a (neg r)=- a r) (nb:∀r,b (neg r)=- b r) (ng:∀r,g (neg r)=- g r)
  {X1 Y1:Int} {N1 M1:Nat} (hB:Bx P X1 N1 Y1 M1) (hN:1≤N1) {A:Int×Int} (hA:A∈P) (hA1:A.1=X1) {X0:Int} {N:Nat} (hx:∀z∈P,X0≤z.1∧z.1≤X0+N) :
  2*ls t (tri ax ay bx by' A)=zs X0 N (Es a b g neg t ax bx):=by
 have side:∀σ:Int,(σ=1∨σ=-1)→2*ls t (fun r=>if 0 < σ*b r then (bx r-ax r)*(ay r+by' r) else 0)=zs X0 N (fun x=>ls t fun r=>if 0 < σ*b r then (if ax r≤x∧x < bx r then (if σ=1 then Gs a b g x r else Gs a b g x (neg r)) else 0) else 0):=fun σ hσ=>by
  rw [←ls_zs,show 2*ls t (fun r=>if 0 < σ*b r then (bx r-ax r)*(ay r+by' r) else 0)=ls t (fun r=>if 0 < σ*b r then 2*((bx r-ax r)*(ay r+by' r)) else 0) by
   have e:=ls_add (fun r=>if 0 < σ*b r then (bx r-ax r)*(ay r+by' r) else 0) (fun r=>if 0 < σ*b r then (bx r-ax r)*(ay r+by' r) else 0) t
   have e2:ls t (fun r=>if 0 < σ*b r then 2*((bx r-ax r)*(ay r+by' r)) else 0)=ls t (fun r=>(if 0 < σ*b r then (bx r-ax r)*(ay r+by' r) else 0)+if 0 < σ*b r then (bx r-ax r)*(ay r+by' r) else 0):=ls_congr fun r _=>by
    by_cases q:0 < σ*b r
    ·rw [if_pos q,if_pos q]; omega
    ·rw [if_neg q,if_neg q]; rfl
   rw [e2,e]; omega]
  refine ls_congr fun r hr=>?_
  by_cases q:0 < σ*b r
  ·rw [if_pos q]
   have hlt:=h.xne hr (fun e=>by rw [e] at q; simp at q)
   have p1:=hx _ (h.pin r hr)
   have p2:=hx _ (h.qin r hr)
   simp only at p1 p2
   rw [←under hlt,←zs_part (lo:=X0) (n:=N) p1.1 (Int.le_of_lt hlt) p2.2]
   refine zs_congr fun i _=>?_
   rw [if_pos q]
   by_cases sp:ax r≤X0+i∧X0+i < bx r
   ·rw [if_pos sp,if_pos sp]
    rcases hσ with rfl | rfl
    ·rw [if_pos rfl,hh_up (by omega) hlt (h.pon r hr) (h.qon r hr),hh_up (by omega) hlt (h.pon r hr) (h.qon r hr)]
     rfl
    ·rw [if_neg (by decide),hh_dn (by omega) hlt (h.pon r hr) (h.qon r hr),hh_dn (by omega) hlt (h.pon r hr) (h.qon r hr)]
     unfold Gs
     rw [na,nb,ng]
   ·rw [if_neg sp,if_neg sp]
  ·rw [if_neg q]
   exact (zs_zero fun i _=>if_neg q).symm
 have s1:=side 1 (.inl rfl)
 have s2:=side (-1) (.inr rfl)
 rw [h.area hB hN hA hA1,Int.mul_sub,s1,s2,←zs_sub]
 refine zs_congr fun i _=>?_
 have e2:¬(-1:Int)=1:=by decide
 simp only [if_neg e2]
 rfl
theorem Pol.es (h:Pol P t a b g ax ay bx by') {x:Int} {u l:ρ} (hu:u∈t) (hl:l∈t) (bu:0 < 1*b u) (bl:0 < -1*b l) (u1:ax u≤x) (u2:x < bx u) (l1:ax l≤x) (l2:x < bx l):Es a b g neg t ax bx x=Gs a b g x u-Gs a b g x (neg l):=by
 unfold Es
 rw [h.step_one (.inl rfl) hu bu u1 u2 (fun r=>Gs a b g x r),h.step_one (.inr rfl) hl bl l1 l2 (fun r=>Gs a b g x (neg r))]
theorem Pol.other (h:Pol P t a b g ax ay bx by') {σ:Int} (hσ:σ=1∨σ=-1) {x:Int} {u:ρ} (hu:u∈t) (u1:ax u≤x) (u2:x < bx u):∃r∈t,0 < σ*b r∧ax r≤x∧x < bx r:=
 h.span hσ x ⟨_,h.pin u hu,u1⟩ ⟨_,h.qin u hu,u2⟩
end
section
variable {ι κ ρ:Type} {I:List ι} {X Y H:ι→Int} {S:List κ} {pl:κ→Pln} {Gd:ρ→Prop} {neg:ρ→ρ} {a b g:ρ→Int} {s:κ→List ρ} {px py qx qy:κ→ρ→Int} {s0:List ρ} {px0 py0 qx0 qy0:ρ→Int}
open Classical in
theorem Reg.step (h:Reg I X Y H S pl Gd neg a b g s px py qx qy s0 px0 py0 qx0 qy0) {x:Int} {rU rL:ρ} (hU:rU∈s0) (hL:rL∈s0) (bU:0 < 1*b rU) (bL:0 < -1*b rL) (U1:px0 rU≤x) (U2:x < qx0 rU) (L1:px0 rL≤x) (L2:x < qx0 rL) :
  ls S (fun c=>Es a b g neg (s c) (px c) (qx c) x)=Gs a b g x rU-Gs a b g x (neg rL):=by
 have hneg:∀r r',neg r=neg r'→r=r':=fun r r' e=>by rw [←h.nn r,e,h.nn]
 have bn:∀r,-1*b (neg r)=1*b r∧1*b (neg r)=-1*b r:=fun r=>by rw [h.nb]; omega
 obtain ⟨sp,hsp⟩:∃sp:κ→Prop,sp=fun c=>∃r∈s c,0 < 1*b r∧px c r≤x∧x < qx c r:=⟨_,rfl⟩
 have hsp':∀c,sp c↔∃r∈s c,0 < 1*b r∧px c r≤x∧x < qx c r:=fun c=>by rw [hsp]
 obtain ⟨u,hu⟩:∃u:κ→ρ,u=fun c=>if q:∃r∈s c,0 < 1*b r∧px c r≤x∧x < qx c r then q.choose else rU:=⟨_,rfl⟩
 obtain ⟨l,hl⟩:∃l:κ→ρ,l=fun c=>if q:∃r∈s c,0 < -1*b r∧px c r≤x∧x < qx c r then q.choose else rL:=⟨_,rfl⟩
 have fu:∀c∈S,sp c→u c∈s c∧0 < 1*b (u c)∧px c (u c)≤x∧x < qx c (u c):=fun c _ hc=>by
  have q:=(hsp' c).1 hc
  rw [hu]
  simp only
  rw [dif_pos q]
  exact q.choose_spec
 have fl:∀c∈S,sp c→l c∈s c∧0 < -1*b (l c)∧px c (l c)≤x∧x < qx c (l c):=fun c hcS hc=>by
  obtain ⟨k1,_,k3,k4⟩:=fu c hcS hc
  have q:∃r∈s c,0 < -1*b r∧px c r≤x∧x < qx c r:=(h.pol c hcS).other (.inr rfl) k1 k3 k4
  rw [hl]
  simp only
  rw [dif_pos q]
  exact q.choose_spec
 have uone:∀c∈S,∀r∈s c,0 < 1*b r→px c r≤x→x < qx c r→sp c∧u c=r:=fun c hc r hr q1 q2 q3=>by
  have hs:sp c:=(hsp' c).2 ⟨r,hr,q1,q2,q3⟩
  obtain ⟨k1,k2,k3,k4⟩:=fu c hc hs
  exact ⟨hs,(h.pol c hc).one (.inl rfl) k1 hr k2 q1 k3 k4 q2 q3⟩
 have lone':∀c∈S,∀r∈s c,0 < -1*b r→px c r≤x→x < qx c r→sp c∧l c=r:=fun c hc r hr q1 q2 q3=>by
  have hs:sp c:=(hsp' c).2 ((h.pol c hc).other (.inl rfl) hr q2 q3)
  obtain ⟨k1,k2,k3,k4⟩:=fl c hc hs
  exact ⟨hs,(h.pol c hc).one (.inr rfl) k1 hr k2 q1 k3 k4 q2 q3⟩
 obtain ⟨T,hT⟩:∃T,T=S.filter fun c=>decide (sp c):=⟨_,rfl⟩
 have mT:∀c,c∈T↔c∈S∧sp c:=fun c=>by rw [hT]; simp
 have e0:ls S (fun c=>Es a b g neg (s c) (px c) (qx c) x)=ls T (fun c=>Es a b g neg (s c) (px c) (qx c) x):=by
  rw [hT]
  refine (ls_filt _ _ S fun c hc q=>?_).symm
  have hno:¬sp c:=by simpa using q
  have hno2:∀r∈s c,¬(px c r≤x∧x < qx c r):=fun r hr q=>hno ((hsp' c).2 ((h.pol c hc).other (.inl rfl) hr q.1 q.2))
  unfold Es
  rw [ls_zero fun r hr=>by
   by_cases k:0 < 1*b r
   ·rw [if_pos k,if_neg (hno2 r hr)]
   ·rw [if_neg k],ls_zero fun r hr=>by
   by_cases k:0 < -1*b r
   ·rw [if_pos k,if_neg (hno2 r hr)]
   ·rw [if_neg k]]
  rfl
 have e1:ls T (fun c=>Es a b g neg (s c) (px c) (qx c) x)=ls T (fun c=>Gs a b g x (u c))-ls T (fun c=>Gs a b g x (neg (l c))):=by
  rw [←ls_sub]
  refine ls_congr fun c hc=>?_
  obtain ⟨hcS,hcs⟩:=(mT c).1 hc
  obtain ⟨k1,k2,k3,k4⟩:=fu c hcS hcs
  obtain ⟨j1,j2,j3,j4⟩:=fl c hcS hcs
  exact (h.pol c hcS).es k1 j1 k2 j2 k3 k4 j3 j4
 -- what supports the whole is a row of the whole
 have supp:∀σ:Int,(σ=1∨σ=-1)→∀c∈S,∀r∈s c,0 < σ*b r→px c r≤x→x < qx c r→(∀k∈I,a r*X k+b r*Y k≤g r)→r∈s0∧px0 r≤x∧x < qx0 r:=fun σ hσ c hc r hr q1 q2 q3 hall=>by
  have hp:=h.pol c hc
  obtain ⟨kp,mp,ep⟩:=mem_pts (hp.pin r hr)
  obtain ⟨kq,mq,eq⟩:=mem_pts (hp.qin r hr)
  rw [Prod.mk.injEq] at ep eq
  exact side_row h.tot h.gd0 h.can (h.gds c hc r hr) hσ q1 (pts_mem (mem_zer.1 mp).1) (pts_mem (mem_zer.1 mq).1) (fun v hv=>by
   obtain ⟨k,hk,rfl⟩:=mem_pts hv
   exact hall k hk) (by simp only; rw [←ep.1,←ep.2]; exact hp.pon r hr) (by simp only; rw [←eq.1,←eq.2]; exact hp.qon r hr) (by simp only; rw [←ep.1]; exact q2) (by simp only; rw [←eq.1]; exact q3)
 have hbne:∀r,0 < 1*b r∨0 < -1*b r→¬(a r=0∧b r=0):=fun r q e=>by rw [e.2] at q; omega
 rw [e0,e1]
 refine stack u (fun c=>neg (l c)) (Gs a b g x) (kU:=rU) (kL:=neg rL) (by rw [hT]; exact h.nd.sublist List.filter_sublist) (fun c hc c' hc' e=>?_) (fun c hc c' hc' e=>?_) (fun c hc=>?_) (fun c hc=>?_) ?_ ?_ (fun c hc e=>?_) (fun c hc e=>?_)
 ·obtain ⟨m1,m2⟩:=(mT c).1 hc
  obtain ⟨m3,m4⟩:=(mT c').1 hc'
  obtain ⟨k1,k2,k3,k4⟩:=fu c m1 m2
  obtain ⟨j1,_,j3,j4⟩:=fu c' m3 m4
  rw [←e] at j1 j3 j4
  exact h.lone (.inl rfl) m1 m3 k1 j1 k2 k3 k4 j3 j4
 ·have e:=hneg _ _ e
  obtain ⟨m1,m2⟩:=(mT c).1 hc
  obtain ⟨m3,m4⟩:=(mT c').1 hc'
  obtain ⟨k1,k2,k3,k4⟩:=fl c m1 m2
  obtain ⟨j1,_,j3,j4⟩:=fl c' m3 m4
  rw [←e] at j1 j3 j4
  exact h.lone (.inr rfl) m1 m3 k1 j1 k2 k3 k4 j3 j4
 ·obtain ⟨m1,m2⟩:=(mT c).1 hc
  obtain ⟨k1,k2,k3,k4⟩:=fu c m1 m2
  by_cases hex:∃k∈I,g (u c) < a (u c)*X k+b (u c)*Y k
  ·right
   obtain ⟨c',hc',n1,n2,n3⟩:=h.next (.inl rfl) m1 k1 k2 k3 k4 hex
   obtain ⟨o1,o2⟩:=lone' c' hc' _ n1 (by rw [(bn _).1]; exact k2) n2 n3
   exact ⟨c',(mT c').2 ⟨hc',o1⟩,by rw [o2,h.nn]⟩
  ·left
   obtain ⟨o1,o2,o3⟩:=supp 1 (.inl rfl) c m1 _ k1 k2 k3 k4 fun k hk=>Int.not_lt.1 fun q=>hex ⟨k,hk,q⟩
   exact h.tot.one (.inl rfl) o1 hU k2 bU o2 o3 U1 U2
 ·obtain ⟨m1,m2⟩:=(mT c).1 hc
  obtain ⟨k1,k2,k3,k4⟩:=fl c m1 m2
  by_cases hex:∃k∈I,g (l c) < a (l c)*X k+b (l c)*Y k
  ·right
   obtain ⟨c',hc',n1,n2,n3⟩:=h.next (.inr rfl) m1 k1 k2 k3 k4 hex
   obtain ⟨o1,o2⟩:=uone c' hc' _ n1 (by rw [(bn _).2]; exact k2) n2 n3
   exact ⟨c',(mT c').2 ⟨hc',o1⟩,o2⟩
  ·left
   obtain ⟨o1,o2,o3⟩:=supp (-1) (.inr rfl) c m1 _ k1 k2 k3 k4 fun k hk=>Int.not_lt.1 fun q=>hex ⟨k,hk,q⟩
   rw [h.tot.one (.inr rfl) o1 hL k2 bL o2 o3 L1 L2]
 ·obtain ⟨c,hc,n1,n2,n3⟩:=h.last (.inl rfl) hU bU U1 U2
  obtain ⟨o1,o2⟩:=uone c hc _ n1 bU n2 n3
  exact ⟨c,(mT c).2 ⟨hc,o1⟩,o2⟩
 ·obtain ⟨c,hc,n1,n2,n3⟩:=h.last (.inr rfl) hL bL L1 L2
  obtain ⟨o1,o2⟩:=lone' c hc _ n1 bL n2 n3
  exact ⟨c,(mT c).2 ⟨hc,o1⟩,by rw [o2]⟩
 ·obtain ⟨m1,m2⟩:=(mT c).1 hc
  obtain ⟨k1,_⟩:=fl c m1 m2
  have e2:l c=neg rU:=by rw [←e]; exact (h.nn _).symm
  rw [e2] at k1
  obtain ⟨v,hv,ov⟩:=off_line (h.pol c m1) (γ:=g rU) (hbne rU (.inl bU))
  have i1:=(h.pol c m1).hold _ k1 v hv
  obtain ⟨k,hk,rfl⟩:=mem_pts hv
  have i2:=h.tot.hold rU hU _ (pts_mem (mem_zer.1 hk).1)
  rw [h.na,h.nb,h.ng] at i1
  simp only at i1 i2 ov
  have e3 : -a rU*X k + -b rU*Y k=-(a rU*X k+b rU*Y k):=by grind
  omega
 ·obtain ⟨m1,m2⟩:=(mT c).1 hc
  obtain ⟨k1,_⟩:=fu c m1 m2
  rw [e] at k1
  obtain ⟨v,hv,ov⟩:=off_line (h.pol c m1) (γ:=g rL) (hbne rL (.inr bL))
  have i1:=(h.pol c m1).hold _ k1 v hv
  obtain ⟨k,hk,rfl⟩:=mem_pts hv
  have i2:=h.tot.hold rL hL _ (pts_mem (mem_zer.1 hk).1)
  rw [h.na,h.nb,h.ng] at i1
  simp only at i1 i2 ov
  have e3 : -a rL*X k + -b rL*Y k=-(a rL*X k+b rL*Y k):=by grind
  omega
theorem Reg.fill (h:Reg I X Y H S pl Gd neg a b g s px py qx qy s0 px0 py0 qx0 qy0) (A:κ→Int×Int) (hA:∀c∈S,∃X1 Y1 N1 M1,Bx (pts X Y (zer X Y H I (pl c))) X1 N1 Y1 M1∧1≤N1∧A c∈pts X Y (zer X Y H I (pl c))∧(A c).1=X1)
  {X0 Y0:Int} {N M:Nat} (hB:Bx (pts X Y I) X0 N Y0 M) (hN:1≤N) {A0:Int×Int} (hA0:A0∈pts X Y I) (hA1:A0.1=X0) :
  ls S (fun c=>ls (s c) (tri (px c) (py c) (qx c) (qy c) (A c)))=ls s0 (tri px0 py0 qx0 qy0 A0):=by
 have t0:=h.tot.twice (neg:=neg) h.na h.nb h.ng hB hN hA0 hA1 hB.x
 have t1:2*ls S (fun c=>ls (s c) (tri (px c) (py c) (qx c) (qy c) (A c)))=ls S (fun c=>zs X0 N (Es a b g neg (s c) (px c) (qx c))):=by
  have e:=ls_add (fun c=>ls (s c) (tri (px c) (py c) (qx c) (qy c) (A c))) (fun c=>ls (s c) (tri (px c) (py c) (qx c) (qy c) (A c))) S
  have e2:ls S (fun c=>zs X0 N (Es a b g neg (s c) (px c) (qx c)))=ls S (fun c=>ls (s c) (tri (px c) (py c) (qx c) (qy c) (A c))+ls (s c) (tri (px c) (py c) (qx c) (qy c) (A c))):=ls_congr fun c hc=>by
   obtain ⟨X1,Y1,N1,M1,b1,b2,b3,b4⟩:=hA c hc
   have:=(h.pol c hc).twice (neg:=neg) h.na h.nb h.ng b1 b2 b3 b4 (X0:=X0) (N:=N) fun z hz=>by
    obtain ⟨k,hk,rfl⟩:=mem_pts hz
    exact hB.x _ (pts_mem (mem_zer.1 hk).1)
   omega
  rw [e2,e]; omega
 rw [ls_zs] at t1
 have e:zs X0 N (fun x=>ls S fun c=>Es a b g neg (s c) (px c) (qx c) x)=zs X0 N (Es a b g neg s0 px0 qx0):=zs_congr fun i hi=>by
  obtain ⟨z1,hz1,e1⟩:=hB.l
  obtain ⟨z2,hz2,e2⟩:=hB.r
  obtain ⟨rU,hU,bU,U1,U2⟩:=h.tot.span (σ:=1) (.inl rfl) (X0+i) ⟨z1,hz1,by omega⟩ ⟨z2,hz2,by omega⟩
  obtain ⟨rL,hL,bL,L1,L2⟩:=h.tot.span (σ:=-1) (.inr rfl) (X0+i) ⟨z1,hz1,by omega⟩ ⟨z2,hz2,by omega⟩
  rw [h.tot.es hU hL bU bL U1 U2 L1 L2]
  exact h.step hU hL bU bL U1 U2 L1 L2
 have:=t1.trans (e.trans t0.symm)
 omega
end
end Go.Proofs.YtdanomklbiidaaaGreatDoor.Pick

namespace Go.Proofs.YtdanomklbiidaaaGreatDoor
open Go.RowKit
def cmpI (x y:Int):Int:=if x < y then -1 else if y < x then 1 else 0
def cmpL:List Int→List Int→Int
 | [],[]=>0
 | [],_ :: _=>-1
 | _ :: _,[]=>1
 | x :: xs,y :: ys=>if x < y then -1 else if y < x then 1 else cmpL xs ys
set_option maxRecDepth 100000 in
theorem nan_any (x:Int) (w:World):Calls Tryz.prog 79 #[.int .i64 x] w fun e w'=>e=.returned (.bool false)∧w'=w:=by
 have hx:(x != x)=false:=by simp
 go_enter Tryz.func79,Tryz.ntmps79
 go_wp2
 go_ret
 exact ⟨ret_bool (by simp),rfl⟩
set_option maxRecDepth 100000 in
theorem cmpI_any (x y:Int) (w:World):Calls Tryz.prog 51 #[.int .i64 x,.int .i64 y] w fun e w'=>e=.returned (.int .i64 (cmpI x y))∧w'=w:=by
 by_cases h1:x < y
 ·have HE:Hid (cmpI x y=-1):=if_pos h1
  go_enter Tryz.func51,Tryz.ntmps51
  go_wp2_with fail
  refine (nan_any x w).mono ?_
  rintro e w1 ⟨rfl,rfl⟩
  go_wp2_with fail
  refine (nan_any y w1).mono ?_
  rintro e w2 ⟨rfl,rfl⟩
  go_wp2
  go_ret
  exact ⟨by rw [HE.out]; rfl,rfl⟩
 ·by_cases h2:y < x
  ·have HE:Hid (cmpI x y=1):=by
    show _=_
    unfold cmpI; rw [if_neg h1,if_pos h2]
   go_enter Tryz.func51,Tryz.ntmps51
   go_wp2_with fail
   refine (nan_any x w).mono ?_
   rintro e w1 ⟨rfl,rfl⟩
   go_wp2_with fail
   refine (nan_any y w1).mono ?_
   rintro e w2 ⟨rfl,rfl⟩
   go_wp2
   go_ret
   exact ⟨by rw [HE.out]; rfl,rfl⟩
  ·have HE:Hid (cmpI x y=0):=by
    show _=_
    unfold cmpI; rw [if_neg h1,if_neg h2]
   go_enter Tryz.func51,Tryz.ntmps51
   go_wp2_with fail
   refine (nan_any x w).mono ?_
   rintro e w1 ⟨rfl,rfl⟩
   go_wp2_with fail
   refine (nan_any y w1).mono ?_
   rintro e w2 ⟨rfl,rfl⟩
   go_wp2
   go_ret
   exact ⟨by rw [HE.out]; rfl,rfl⟩
theorem cmpL_at {x y:List Int} {k:Nat} (h1:k < x.length) (h2:k < y.length):cmpL (x.drop k) (y.drop k)=if cmpI (x.getD k 0) (y.getD k 0)=0 then cmpL (x.drop (k+1)) (y.drop (k+1)) else cmpI (x.getD k 0) (y.getD k 0):=by
 rw [List.drop_eq_getElem_cons h1,List.drop_eq_getElem_cons h2]
 simp only [cmpL,cmpI,List.getD_eq_getElem?_getD,List.getElem?_eq_getElem h1,List.getElem?_eq_getElem h2,Option.getD_some]
 by_cases a:x[k] < y[k]
 ·simp [a]
 ·by_cases b:y[k] < x[k]
  ·simp [a,b]
  ·simp [a,b]
set_option maxRecDepth 100000 in
set_option maxHeartbeats 400000 in
theorem compare_any (B:Nat) (x y:List Int) (u v:Value) (w:World) (hu:Sl B 3 w u (ints x)) (hv:Sl B 3 w v (ints y)) :
  Calls Tryz.prog 36 #[u,v] w fun e w'=>e=.returned (.int .i64 (cmpL x y))∧w'=w:=by
 obtain ⟨ao,cap,hvv,hlc,hcm⟩:=sl_open hu
 obtain ⟨bo,cbp,huu,hlb,hcb⟩:=sl_open hv
 subst hvv huu
 have HU:Hid (Sl B 3 w (.slice ao x.length cap) (ints x)):=hu
 have HV:Hid (Sl B 3 w (.slice bo y.length cbp) (ints y)):=hv
 clear hu hv
 go_enter Tryz.func36,Tryz.ntmps36
 go_wp2
 go_loopw [11] (fun i wr=>∃k:Nat,k≤x.length∧k≤y.length∧i=.int .i64 k∧cmpL x y=cmpL (x.drop k) (y.drop k)∧wr=w) (fun i _=>x.length-(intOf i).toNat)
 case atStart=>exact ⟨0,Nat.zero_le _,Nat.zero_le _,rfl,rfl,rfl⟩
 case round=>
  obtain ⟨k,hk,hk2,rfl,hcm2,rfl⟩:=hrel
  have HC:Hid (cmpL x y=cmpL (x.drop k) (y.drop k)):=hcm2
  clear hcm2
  by_cases hlt:k < x.length
  ·obtain ⟨b,o,cp,hs,hc1,hcc⟩:=sl_cell HU.out hlt
   simp only [Value.slice.injEq] at hs
   obtain ⟨rfl,_,rfl⟩:=hs
   by_cases hlt2:k < y.length
   ·obtain ⟨b2,o2,cp2,hs2,hc2,hcc2⟩:=sl_cell HV.out hlt2
    simp only [Value.slice.injEq] at hs2
    obtain ⟨rfl,_,rfl⟩:=hs2
    have HA:Hid (cmpL (x.drop k) (y.drop k)=if cmpI (x.getD k 0) (y.getD k 0)=0 then cmpL (x.drop (k+1)) (y.drop (k+1)) else cmpI (x.getD k 0) (y.getD k 0)):=cmpL_at hlt hlt2
    generalize x.getD k 0=a at *
    generalize y.getD k 0=c at *
    go_wp2_with fail
    refine (cmpI_any a c wr).mono ?_
    rintro e w1 ⟨rfl,rfl⟩
    generalize cmpI a c=r at *
    by_cases hr:r=0
    ·have HR:Hid (cmpL x y=cmpL (x.drop (k+1)) (y.drop (k+1))):=by
      show _=_
      rw [HC.out,HA.out,if_pos hr]
     have hrb:(r != 0)=false:=by simp [hr]
     clear hr
     go_wp2
     go_roundw
     case rel=>exact ⟨k+1,by omega,by omega,by go_num,HR.out,trivial⟩
     case measure=>simp [intOf]; omega
    ·have HR:Hid (cmpL x y=r):=by
      show _=_
      rw [HC.out,HA.out,if_neg hr]
     have hrb:(r != 0)=true:=by simp [hr]
     clear hr
     go_wp2
     go_ret
     exact ⟨by rw [HR.out]; rfl,rfl⟩
   ·have hke:k=y.length:=by omega
    have HR:Hid (cmpL x y=1):=by
     show _=_
     rw [HC.out,hke,List.drop_length,List.drop_eq_getElem_cons (by omega)]; rfl
    clear hke
    go_wp2
    go_ret
    exact ⟨by rw [HR.out]; rfl,rfl⟩
  ·have hke:k=x.length:=by omega
   by_cases hxy:x.length < y.length
   ·have HR:Hid (cmpL x y=-1):=by
     show _=_
     rw [HC.out,hke,List.drop_length,List.drop_eq_getElem_cons hxy]; rfl
    go_wp2
    go_ret
    exact ⟨by rw [HR.out]; rfl,rfl⟩
   ·have HR:Hid (cmpL x y=0):=by
     show _=_
     have h2:y.drop k=[]:=List.drop_eq_nil_of_le (by omega)
     rw [HC.out,h2,hke,List.drop_length]; rfl
    go_wp2
    go_ret
    exact ⟨by rw [HR.out]; rfl,rfl⟩
set_option maxRecDepth 100000 in
set_option maxHeartbeats 400000 in
theorem equal_any (B:Nat) (x y:List Int) (u v:Value) (w:World) (hu:Sl B 3 w u (ints x)) (hv:Sl B 3 w v (ints y)) :
  Calls Tryz.prog 21 #[u,v] w fun e w'=>e=.returned (.bool (x == y))∧∃n,w'=w.drewN n:=by
 have hu':=hu
 have hv':=hv
 obtain ⟨ao,cap,hvv,hlc,hcm,-⟩:=hu'
 obtain ⟨bo,cbp,huu,hlb,hcb,-⟩:=hv'
 simp only [ints_length] at hlc hvv hlb huu
 subst hvv huu
 have HU:Hid (Sl B 3 w (.slice ao x.length cap) (ints x)):=hu
 have HV:Hid (Sl B 3 w (.slice bo y.length cbp) (ints y)):=hv
 clear hu hv
 unfold maxLen at hcm hcb
 by_cases hl:x.length=y.length
 ·have hbe:((x.length:Int) != (y.length:Int))=false:=by simp [hl]
  have HL:Hid (x.length=y.length):=hl
  have hle:y.length≤x.length:=by omega
  have hge:x.length≤y.length:=by omega
  clear hl
  go_enter Tryz.func21,Tryz.ntmps21
  go_wp2
  go_loopw [13] (fun i wr=>∃k:Nat,k≤x.length∧i=.int .i64 k∧(∀j,j < k→x.getD j 0=y.getD j 0)∧∃n,wr=w.drewN n) (fun i _=>x.length-(intOf i).toNat)
  case atStart=>exact ⟨0,Nat.zero_le _,rfl,fun j hj=>absurd hj (by omega),0,rfl⟩
  case round=>
   obtain ⟨k,hk,rfl,hno,n,rfl⟩:=hrel
   have HN:Hid (∀j,j < k→x.getD j 0=y.getD j 0):=hno
   clear hno
   by_cases hlt:k < x.length
   ·have hlt2:k < y.length:=by omega
    obtain ⟨b,o,cp,hs,hc1,hcc⟩:=sl_cell HU.out hlt
    simp only [Value.slice.injEq] at hs
    obtain ⟨rfl,_,rfl⟩:=hs
    obtain ⟨b2,o2,cp2,hs2,hc2,hcc2⟩:=sl_cell HV.out hlt2
    simp only [Value.slice.injEq] at hs2
    obtain ⟨rfl,_,rfl⟩:=hs2
    go_wp2
    go_quiet (fail)
    go_wp2
    ·have hf:(x[k] != y[k])=true:=by assumption
     go_ret
     refine ⟨ret_bool (Eq.symm ?_),n+nq,by rw [World.drewN_drewN]⟩
     rw [beq_eq_false_iff_ne]
     rintro rfl
     simp at hf
    ·have hf:(x[k] != y[k])=false:=by assumption
     go_roundw
     case rel=>
      refine ⟨k+1,by omega,by go_num,fun j hj=>?_,_,rfl⟩
      by_cases hjk:j < k
      ·exact HN.out j hjk
      ·have:j=k:=by omega
       subst this
       simpa [hlt,hlt2] using hf
     case measure=>simp [intOf]; omega
   ·go_wp2
    go_ret
    refine ⟨ret_bool (Eq.symm ?_),_,rfl⟩
    rw [beq_iff_eq]
    exact eq_of_all HL.out fun i hi=>HN.out i (by omega)
 ·have hbe:((x.length:Int) != (y.length:Int))=true:=by simp; omega
  go_enter Tryz.func21,Tryz.ntmps21
  go_wp2
  go_ret
  refine ⟨ret_bool (Eq.symm ?_),0,rfl⟩
  rw [beq_eq_false_iff_ne]
  rintro rfl
  exact hl rfl
end Go.Proofs.YtdanomklbiidaaaGreatDoor

namespace Go.Proofs
open Go.Shelf Go.RowKit Go.Lib Go.Sort
shelf_lay_g SlLaysF.n6 Slsf 6 at Tryz 35 as Tryz.sortM
end Go.Proofs

namespace Go.Proofs.YtdanomklbiidaaaGreatDoor
open Go.RowKit
attribute [local go_sem ↓] Go.wp_at_zero Go.wp_at_succ
theorem set_one {w:World} {b:Nat} {x u:Value} {t:TypeId} (h:w.heap[b]?=some (.cells #[x] t (0,0))):(w.setCell ⟨b,0,none⟩ u).heap[b]?=some (.cells #[u] t (0,0)):=by
 simp [World.setCell,Array.getElem?_modify,h]
theorem owns_set {B R n j:Nat} {e:TypeId} {w:World} {v u:Value} {xs:List Value} (h:w.ownsRow B e 1 v n xs) (hR:R < B):(w.setCell ⟨R,j,none⟩ u).ownsRow B e 1 v n xs:=by
 refine ⟨h.1,?_⟩
 rcases h.2 with h2 | ⟨k,cap,cur,rfl,hb,hh,r⟩
 ·exact Or.inl h2
 ·exact Or.inr ⟨k,cap,cur,rfl,hb,(Below.heap_setCell w _ u k (by show k≠R; omega)).trans hh,r⟩
end Go.Proofs.YtdanomklbiidaaaGreatDoor

namespace Go.Proofs.YtdanomklbiidaaaGreatDoor
open Go.RowKit
theorem Fr.mono {B B':Nat} {w:World} {v:Value} {m:List (List Int)} (h:Fr B 22 3 w v m) (hB:B'≤B):Fr B' 22 3 w v m:=by
 obtain ⟨vs,h1,h2,h3⟩:=h
 exact ⟨vs,h1,h2.mono hB,h3⟩
end Go.Proofs.YtdanomklbiidaaaGreatDoor

namespace Go.Proofs.YtdanomklbiidaaaGreatDoor
open Go.RowKit
attribute [local go_sem ↓] Go.wp_at_zero Go.wp_at_succ
def keptI (m:List (List Int)):Nat→List Nat
 | 0=>[]
 | k+1=>if k=0∨m.getD k []≠m.getD (k-1) [] then keptI m k ++ [k] else keptI m k
def compL (m:List (List Int)):List (List Int):=(keptI m m.length).map fun i=>m.getD i []
theorem keptI_lt {m:List (List Int)} : ∀{k i:Nat},i∈keptI m k→i < k
 | 0,i,h=>by simp [keptI] at h
 | k+1,i,h=>by
  simp only [keptI] at h
  split at h
  ·rcases List.mem_append.1 h with h | h
   ·have:=keptI_lt h; omega
   ·simp at h; omega
  ·have:=keptI_lt h; omega
theorem keptI_len (m:List (List Int)):∀k,(keptI m k).length≤k
 | 0=>by simp [keptI]
 | k+1=>by
  have:=keptI_len m k
  simp only [keptI]
  split
  ·simp; omega
  ·omega
theorem keptI_all {m:List (List Int)} : ∀k,(∀i,1≤i→i < k→m.getD i []≠m.getD (i-1) [])→keptI m k=List.range k
 | 0,_=>by simp [keptI]
 | k+1,h=>by
  simp only [keptI]
  rw [keptI_all k (fun i h1 h2=>h i h1 (by omega)),List.range_succ,if_pos]
  rcases Nat.eq_zero_or_pos k with h0 | h0
  ·exact Or.inl h0
  ·exact Or.inr (h k h0 (by omega))
theorem compL_short {m:List (List Int)} (h:m.length < 2):compL m=m:=by
 match m,h with
 | [],_=>rfl
 | [x],_=>rfl
 | _ :: _ :: _,h=>simp at h; omega
theorem mem_compL {m : List (List Int)} {r : List Int} : r ∈ compL m ↔ r ∈ m := by
  constructor
  · intro h
    simp only [compL, List.mem_map] at h
    obtain ⟨i, hi, rfl⟩ := h
    have := keptI_lt hi
    simp [this]
  · intro h
    obtain ⟨i, hi, rfl⟩ := List.mem_iff_getElem.1 h
    -- the first place of a run is kept
    have key : ∀ i, i < m.length → ∃ j ∈ keptI m (i + 1), m.getD j [] = m.getD i [] := by
      intro i
      induction i with
      | zero => intro _; exact ⟨0, by simp [keptI], rfl⟩
      | succ i ih =>
        intro hi
        by_cases hne : m.getD (i + 1) [] ≠ m.getD i []
        · exact ⟨i + 1, by rw [keptI, if_pos (Or.inr (by simpa using hne))]; simp, rfl⟩
        · have he : m.getD (i + 1) [] = m.getD i [] := Classical.not_not.1 hne
          obtain ⟨j, hj, hje⟩ := ih (by omega)
          refine ⟨j, ?_, by rw [hje, he]⟩
          rw [keptI]
          split
          · exact List.mem_append_left _ hj
          · exact hj
    have grow : ∀ a b, a ≤ b → ∀ j, j ∈ keptI m a → j ∈ keptI m b := by
      intro a b hab
      induction b with
      | zero => intro j hj; have : a = 0 := by omega
                subst this; exact hj
      | succ b ih =>
        intro j hj
        by_cases e : a = b + 1
        · subst e; exact hj
        · have := ih (by omega) j hj
          rw [keptI]
          split
          · exact List.mem_append_left _ this
          · exact this
    obtain ⟨j, hj, hje⟩ := key i hi
    simp only [compL, List.mem_map]
    refine ⟨j, grow (i + 1) m.length (by omega) j hj, ?_⟩
    rw [hje]; simp [hi]
theorem step_call2v {P:Program} {ops:Array Oper} {o:Oper} {a:Act} {w:World} {K:Act→World→Prop} {Q:Exit→Act→World→Prop} {E:Prop}
  (hg : o.guard = none) (f : FuncId) (z x y : Operand) (t s : TypeId) (hop : o.op = Op.call { callee := Callee.value z, args := #[x, y], argTypes := #[t, s] }) (v u : Value) (hz : a.eval z = Value.func (Fn.func f) #[] #[]) (hv : a.eval x = v) (hu : a.eval y = u) (hf : ∃ fn, P.funcs[f]? = some fn ∧ (fn.name == "runtime.NumGoroutine") = false ∧ fn.body.isNone = false)
  (hc:Calls P f #[v,u] w fun e w'=>∃u,e=.returned u∧K (a.put o.dst u) w') :
  if Region.wanted o (yielded ops a.tmps)=true then Oper.wp P o a w K Q else E:=by
 have hw:Region.wanted o (yielded ops a.tmps)=true:=by simp [Region.wanted,hg]
 rw [if_pos hw]
 unfold Oper.wp
 obtain ⟨fn,f1,f2,f3⟩:=hf
 have e:(execOp a.eval o).run P w=.ok (.enter f #[v,u]) w:=by
  have hcf:(callFunc f #[v,u]).run P w=.ok (.enter f #[v,u]) w:=by
   unfold callFunc
   have g2 : ¬ fn.name = "runtime.NumGoroutine" := by simpa using f2
   have g3:¬fn.body=none:=by intro e; rw [e] at f3; simp at f3
   simp [f1,g2,g3]
  unfold execOp
  rw [hop]
  simp [resolve,invoke,hv,hu,hz,Deferred.ofValue,hcf]
 rw [e,Oper.upon_enter]
 refine hc.mono ?_
 rintro e w' ⟨u,rfl,h⟩
 exact h
structure RowM (w:World) (g cap:Nat) (f:Nat→Value) (m:List (List Int)):Prop where
 row:w.rowIs g 22 cap f
 cap1:m.length≤cap
 cap2:cap≤9223372036854775807
 inn:∀i,i < m.length→Sl 0 3 w (f i) (ints (m.getD i []))
theorem Fr.rowM {B:Nat} {w:World} {v:Value} {m:List (List Int)} (h:Fr B 22 3 w v m) (hm:0 < m.length):∃g cap f,v=.slice (some ⟨g,0,none⟩) m.length cap∧B≤g∧g < w.heap.size∧RowM w g cap f m:=by
 obtain ⟨vs,h1,h2,h3⟩:=h
 rcases h2.2 with ⟨_,h0⟩ | ⟨g,cap,cur,hv,hb,hh,hn,hc,hs,ht⟩
 ·omega
 ·refine ⟨g,cap,fun i=>cur.toList.getD i (.slice none 0 0),hv,hb,lt_of_block hh,⟨cur,hh,by omega,fun i hi=>?_⟩,hn,by unfold maxLen at hc; exact hc,fun i hi=>?_⟩
  ·show cur[i]?=some (cur.toList.getD i (.slice none 0 0))
   rw [←Array.getElem?_toList,List.getD_eq_getElem?_getD,List.getElem?_eq_getElem (by simp; omega)]; rfl
  ·have e:cur.toList.getD i (.slice none 0 0)=vs.getD i (.slice none 0 0):=by
    rw [←ht]
    simp only [List.getD_eq_getElem?_getD]
    rw [List.getElem?_take_of_lt (by omega)]
   rw [e]; exact h3 i hi
theorem RowM.fr {B:Nat} {w:World} {g cap:Nat} {f:Nat→Value} {m:List (List Int)} (h:RowM w g cap f m) (hB:B≤g):Fr B 22 3 w (.slice (some ⟨g,0,none⟩) m.length cap) m:=by
 obtain ⟨⟨c,h1,h2,h3⟩,h4,h5,h6⟩:=h
 refine ⟨(List.range m.length).map f,by simp,⟨by simp,Or.inr ⟨g,cap,c,rfl,hB,h1,h4,by unfold maxLen; exact h5,by omega,?_⟩⟩,fun i hi=>?_⟩
 ·apply List.ext_getElem?
  intro i
  by_cases hi:i < m.length
  ·rw [List.getElem?_take_of_lt (by omega),Array.getElem?_toList,h3 i (by omega)]; simp [hi]
  ·rw [List.getElem?_eq_none (by simp; omega),List.getElem?_eq_none (by simp; omega)]
 ·have e:((List.range m.length).map f).getD i (.slice none 0 0)=f i:=by simp [hi]
  rw [e]; exact h6 i hi
theorem Tryz.zero22:∀w,(zeroValue 22).run Tryz.prog w=.ok (.slice none 0 0) w:=fun w=>by kernel_rfl
end Go.Proofs.YtdanomklbiidaaaGreatDoor
