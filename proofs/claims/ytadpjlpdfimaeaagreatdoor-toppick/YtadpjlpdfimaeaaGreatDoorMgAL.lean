import Derived.Test.YtadpjlpdfimaeaaGreatDoorMgAK
namespace Go.Proofs.YtadpjlpdfimaeaaGreatDoor.Pick
theorem fl_bd {px py qx qy:Int} (h:px < qx) (x:Int):(qx-px)*fl px py qx qy x≤(qx-px)*py+(qy-py)*(x-px)∧(qx-px)*py+(qy-py)*(x-px) < (qx-px)*(fl px py qx qy x+1):=by
 have d:0 < qx-px:=by omega
 have h1:=(floor_le (N:=(qy-py)*(x-px)) (k:=fl px py qx qy x-py) d).2 (by unfold fl; omega)
 have h2:=mt (floor_le (N:=(qy-py)*(x-px)) (k:=fl px py qx qy x+1-py) d).1 (by unfold fl; omega)
 have e1:(qx-px)*(fl px py qx qy x-py)=(qx-px)*fl px py qx qy x-(qx-px)*py:=Int.mul_sub _ _ _
 have e2:(qx-px)*(fl px py qx qy x+1-py)=(qx-px)*(fl px py qx qy x+1)-(qx-px)*py:=Int.mul_sub _ _ _
 omega
theorem ce_bd {px py qx qy:Int} (h:px < qx) (x:Int):(qx-px)*(ce px py qx qy x-1) < (qx-px)*py+(qy-py)*(x-px)∧(qx-px)*py+(qy-py)*(x-px)≤(qx-px)*ce px py qx qy x:=by
 have d:0 < qx-px:=by omega
 have h1:=(ceil_le (N:=(qy-py)*(x-px)) (k:=ce px py qx qy x-py) d).2 (by unfold ce; omega)
 have h2:=mt (ceil_le (N:=(qy-py)*(x-px)) (k:=ce px py qx qy x-1-py) d).1 (by unfold ce; omega)
 have e1:(qx-px)*(ce px py qx qy x-py)=(qx-px)*ce px py qx qy x-(qx-px)*py:=Int.mul_sub _ _ _
 have e2:(qx-px)*(ce px py qx qy x-1-py)=(qx-px)*(ce px py qx qy x-1)-(qx-px)*py:=Int.mul_sub _ _ _
 omega
theorem mul_lt_cancel {d x y:Int} (hd:0 < d) (h:d*x < d*y):x < y:=Int.not_le.1 fun q=>by
 have:=Int.mul_le_mul_of_nonneg_left q (Int.le_of_lt hd)
 omega
theorem seg_bd {px py qx qy A B x:Int} (h:px < qx) (h1:px≤x) (h2:x≤qx) (hp:A≤py∧py≤B) (hq:A≤qy∧qy≤B) :
  A≤fl px py qx qy x∧fl px py qx qy x≤B∧A≤ce px py qx qy x∧ce px py qx qy x≤B:=by
 have d:0 < qx-px:=by omega
 obtain ⟨f1,f2⟩:=fl_bd (py:=py) (qy:=qy) h x
 obtain ⟨c1,c2⟩:=ce_bd (py:=py) (qy:=qy) h x
 have e:(qx-px)*py+(qy-py)*(x-px)=(qx-x)*py+(x-px)*qy:=by grind
 have m1:=Int.mul_le_mul_of_nonneg_left hp.1 (show 0≤qx-x by omega)
 have m2:=Int.mul_le_mul_of_nonneg_left hp.2 (show 0≤qx-x by omega)
 have m3:=Int.mul_le_mul_of_nonneg_left hq.1 (show 0≤x-px by omega)
 have m4:=Int.mul_le_mul_of_nonneg_left hq.2 (show 0≤x-px by omega)
 have eA:(qx-px)*A=(qx-x)*A+(x-px)*A:=by grind
 have eB:(qx-px)*B=(qx-x)*B+(x-px)*B:=by grind
 have k1:=mul_lt_cancel d (show (qx-px)*A < (qx-px)*(fl px py qx qy x+1) by omega)
 have k2:=mul_lt_cancel d (x:=ce px py qx qy x-1) (y:=B) (by omega)
 have k3:=mul_lt_cancel d (x:=fl px py qx qy x) (y:=B+1) (by rw [Int.mul_add]; omega)
 have k4:=mul_lt_cancel d (x:=A) (y:=ce px py qx qy x+1) (by rw [Int.mul_add]; omega)
 omega
section
variable {ρ:Type} {P:List (Int×Int)} {s:List ρ} {a b c px py qx qy:ρ→Int}
def cA (s:List ρ) (a b c:ρ→Int) (Y0:Int) (M:Nat) (x:Int):Int:=zs Y0 M fun y=>if okB s a b c x y=true then 1 else 0
def cI (s:List ρ) (a b c:ρ→Int) (Y0:Int) (M:Nat) (x:Int):Int:=zs Y0 M fun y=>if inB s a b c x y=true then 1 else 0
theorem Pol.col_in (h:Pol P s a b c px py qx qy) {Y0:Int} {M:Nat} (hY:∀z∈P,Y0≤z.2∧z.2 < Y0+M) {u l:ρ} (hu:u∈s) (hl:l∈s) (hbu:0 < b u) (hbl:b l < 0) {x:Int} (u1:px u≤x) (u2:x≤qx u) (l1:px l≤x) (l2:x≤qx l)
  (hlo:∃z∈P,z.1 < x) (hhi:∃z∈P,x < z.1) :
  cA s a b c Y0 M x+cI s a b c Y0 M x=hh (px u) (py u) (qx u) (qy u) x-hh (px l) (py l) (qx l) (qy l) x:=by
 have xu:=h.xne hu (by omega)
 have xl:=h.xne hl (by omega)
 have hap:=h.apart hu hl hbu hbl hlo hhi
 have y1:=hY _ (h.pin u hu)
 have y2:=hY _ (h.qin u hu)
 have y3:=hY _ (h.pin l hl)
 have y4:=hY _ (h.qin l hl)
 simp only at y1 y2 y3 y4
 obtain ⟨b1,b2,b3,b4⟩:=seg_bd (py:=py u) (qy:=qy u) (A:=Y0) (B:=Y0+M-1) xu u1 u2 (by omega) (by omega)
 obtain ⟨b5,b6,b7,b8⟩:=seg_bd (py:=py l) (qy:=qy l) (A:=Y0) (B:=Y0+M-1) xl l1 l2 (by omega) (by omega)
 obtain ⟨f1,f2⟩:=fl_bd (py:=py u) (qy:=qy u) xu x
 obtain ⟨f3,f4⟩:=ce_bd (py:=py u) (qy:=qy u) xu x
 obtain ⟨f5,f6⟩:=fl_bd (py:=py l) (qy:=qy l) xl x
 obtain ⟨f7,f8⟩:=ce_bd (py:=py l) (qy:=qy l) xl x
 have du:0 < qx u-px u:=by omega
 have dl:0 < qx l-px l:=by omega
 have hA:=zs_ends (p:=okB s a b c x) (F:=ce (px l) (py l) (qx l) (qy l) x) (T:=fl (px u) (py u) (qx u) (qy u) x) (a:=Y0) M fun i _=>h.ok_iff hu hl hbu hbl u1 u2 l1 l2 (Y0+i)
 have hI:=zs_ends (p:=inB s a b c x) (F:=fl (px l) (py l) (qx l) (qy l) x+1) (T:=ce (px u) (py u) (qx u) (qy u) x-1) (a:=Y0) M fun i _=>by
  rw [h.in_iff hu hl hbu hbl u1 u2 l1 l2 hlo hhi (Y0+i)]; omega
 have t1:ce (px l) (py l) (qx l) (qy l) x-1 < fl (px u) (py u) (qx u) (qy u) x+1:=by
  refine mul_lt_cancel (Int.mul_pos du dl) ?_
  have m1:=Int.mul_lt_mul_of_pos_left f2 dl
  have m2:=Int.mul_lt_mul_of_pos_left f7 du
  have e1:(qx u-px u)*(qx l-px l)*(ce (px l) (py l) (qx l) (qy l) x-1)=(qx u-px u)*((qx l-px l)*(ce (px l) (py l) (qx l) (qy l) x-1)):=Int.mul_assoc _ _ _
  have e2:(qx u-px u)*(qx l-px l)*(fl (px u) (py u) (qx u) (qy u) x+1)=(qx l-px l)*((qx u-px u)*(fl (px u) (py u) (qx u) (qy u) x+1)):=by rw [Int.mul_comm (qx u-px u),Int.mul_assoc]
  omega
 have t2:fl (px l) (py l) (qx l) (qy l) x < ce (px u) (py u) (qx u) (qy u) x:=by
  refine mul_lt_cancel (Int.mul_pos du dl) ?_
  have m1:=Int.mul_le_mul_of_nonneg_left f4 (Int.le_of_lt dl)
  have m2:=Int.mul_le_mul_of_nonneg_left f5 (Int.le_of_lt du)
  have e1:(qx u-px u)*(qx l-px l)*fl (px l) (py l) (qx l) (qy l) x=(qx u-px u)*((qx l-px l)*fl (px l) (py l) (qx l) (qy l) x):=Int.mul_assoc _ _ _
  have e2:(qx u-px u)*(qx l-px l)*ce (px u) (py u) (qx u) (qy u) x=(qx l-px l)*((qx u-px u)*ce (px u) (py u) (qx u) (qy u) x):=by rw [Int.mul_comm (qx u-px u),Int.mul_assoc]
  omega
 unfold cA cI
 rw [hA,hI,hh_eq,hh_eq]
 omega
theorem Pol.col_end (h:Pol P s a b c px py qx qy) {Y0:Int} {M:Nat} (hY:∀z∈P,Y0≤z.2∧z.2 < Y0+M) {u l:ρ} (hu:u∈s) (hl:l∈s) (hbu:0 < b u) (hbl:b l < 0) {x:Int} (u1:px u≤x) (u2:x≤qx u) (l1:px l≤x) (l2:x≤qx l)
  {U L:Int} (hU:fl (px u) (py u) (qx u) (qy u) x=U∧ce (px u) (py u) (qx u) (qy u) x=U) (hL:fl (px l) (py l) (qx l) (qy l) x=L∧ce (px l) (py l) (qx l) (qy l) x=L) (mU:(x,U)∈P) (mL:(x,L)∈P)
  (hx:(∀z∈P,x≤z.1)∨∀z∈P,z.1≤x) :
  2*(cA s a b c Y0 M x+cI s a b c Y0 M x)-2=hh (px u) (py u) (qx u) (qy u) x-hh (px l) (py l) (qx l) (qy l) x:=by
 have xu:=h.xne hu (by omega)
 have xl:=h.xne hl (by omega)
 have y1:=hY _ mU
 have y2:=hY _ mL
 simp only at y1 y2
 have hge:L≤U:=by
  have:=(dn_iff x U hbl xl (h.pon l hl) (h.qon l hl)).1.1 (h.hold l hl _ mU)
  omega
 have hA:=zs_ends (p:=okB s a b c x) (F:=ce (px l) (py l) (qx l) (qy l) x) (T:=fl (px u) (py u) (qx u) (qy u) x) (a:=Y0) M fun i _=>h.ok_iff hu hl hbu hbl u1 u2 l1 l2 (Y0+i)
 have hI:cI s a b c Y0 M x=0:=by
  refine zs_zero fun i _=>if_neg fun q=>?_
  rw [inB_iff] at q
  have i1:=(up_iff x (Y0+i) hbu xu (h.pon u hu) (h.qon u hu)).2.1 (q u hu)
  have i2:=(dn_iff x (Y0+i) hbl xl (h.pon l hl) (h.qon l hl)).2.1 (q l hl)
  have hne:((x,U):Int×Int)≠(x,L):=fun e=>by
   simp only [Prod.mk.injEq,true_and] at e
   omega
  have:∃r∈s,b r=0∧a r*x=c r:=by
   rcases hx with hx | hx
   ·obtain ⟨r,hr,e1,_,e3⟩:=h.side (-1) 0 _ mU _ mL hne (fun v hv=>by have:=hx v hv; simp only; omega) (by simp) (by omega)
    have hb:b r=0:=by omega
    refine ⟨r,hr,hb,?_⟩
    rw [hb] at e3
    simp only at e3
    omega
   ·obtain ⟨r,hr,e1,_,e3⟩:=h.side 1 0 _ mU _ mL hne (fun v hv=>by have:=hx v hv; simp only; omega) (by simp) (by omega)
    have hb:b r=0:=by omega
    refine ⟨r,hr,hb,?_⟩
    rw [hb] at e3
    simp only at e3
    omega
  obtain ⟨r,hr,hb,e⟩:=this
  have:=q r hr
  rw [hb,e] at this
  omega
 rw [hI]
 unfold cA
 rw [hA,hh_eq,hh_eq]
 omega
def tc (s:List ρ) (a b c:ρ→Int) (Y0:Int) (M:Nat) (X0:Int) (N:Nat) (x:Int):Int:=if x=X0∨x=X0+N then 2*(cA s a b c Y0 M x+cI s a b c Y0 M x)-2 else cA s a b c Y0 M x+cI s a b c Y0 M x
structure Bx (P:List (Int×Int)) (X0:Int) (N:Nat) (Y0:Int) (M:Nat):Prop where
 y:∀z∈P,Y0≤z.2∧z.2 < Y0+M
 x:∀z∈P,X0≤z.1∧z.1≤X0+N
 l:∃z∈P,z.1=X0
 r:∃z∈P,z.1=X0+N
theorem Pol.col (h:Pol P s a b c px py qx qy) {X0 Y0:Int} {N M:Nat} (hB:Bx P X0 N Y0 M) {u l:ρ} (hu:u∈s) (hl:l∈s) (hbu:0 < b u) (hbl:b l < 0) {x:Int} (u1:px u≤x) (u2:x≤qx u) (l1:px l≤x) (l2:x≤qx l) :
  hh (px u) (py u) (qx u) (qy u) x-hh (px l) (py l) (qx l) (qy l) x=tc s a b c Y0 M X0 N x:=by
 have p1:=hB.x _ (h.pin u hu)
 have p2:=hB.x _ (h.qin u hu)
 have p3:=hB.x _ (h.pin l hl)
 have p4:=hB.x _ (h.qin l hl)
 simp only at p1 p2 p3 p4
 have xu:=h.xne hu (by omega)
 have xl:=h.xne hl (by omega)
 unfold tc
 by_cases h0:x=X0
 ·rw [if_pos (Or.inl h0)]
  have e1:px u=x:=by omega
  have e2:px l=x:=by omega
  refine (h.col_end hB.y hu hl hbu hbl u1 u2 l1 l2 (U:=py u) (L:=py l) ?_ ?_ ?_ ?_ (.inl fun z hz=>by have:=hB.x z hz; omega)).symm
  ·have:=ends_l (px u) (py u) (qx u) (qy u); rw [e1] at this; rw [e1]; exact this
  ·have:=ends_l (px l) (py l) (qx l) (qy l); rw [e2] at this; rw [e2]; exact this
  ·have:=h.pin u hu; rwa [e1] at this
  ·have:=h.pin l hl; rwa [e2] at this
 ·by_cases h1:x=X0+N
  ·rw [if_pos (Or.inr h1)]
   have e1:qx u=x:=by omega
   have e2:qx l=x:=by omega
   refine (h.col_end hB.y hu hl hbu hbl u1 u2 l1 l2 (U:=qy u) (L:=qy l) ?_ ?_ ?_ ?_ (.inr fun z hz=>by have:=hB.x z hz; omega)).symm
   ·have:=ends_r (py:=py u) (qy:=qy u) xu; rw [e1] at this; rw [e1]; exact this
   ·have:=ends_r (py:=py l) (qy:=qy l) xl; rw [e2] at this; rw [e2]; exact this
   ·have:=h.qin u hu; rwa [e1] at this
   ·have:=h.qin l hl; rwa [e2] at this
  ·rw [if_neg (by omega)]
   obtain ⟨z1,hz1,e1⟩:=hB.l
   obtain ⟨z2,hz2,e2⟩:=hB.r
   exact (h.col_in hB.y hu hl hbu hbl u1 u2 l1 l2 ⟨z1,hz1,by omega⟩ ⟨z2,hz2,by omega⟩).symm
theorem Pol.side_sum (h:Pol P s a b c px py qx qy) {X0 Y0:Int} {N M:Nat} (hB:Bx P X0 N Y0 M) (σ:Int) :
  ls s (fun r=>if 0 < σ*b r then 2*((qx r-px r)*(py r+qy r)) else 0)=zs X0 N (fun x=>ls s fun r=>if 0 < σ*b r then (if px r≤x∧x < qx r then hh (px r) (py r) (qx r) (qy r) x+hh (px r) (py r) (qx r) (qy r) (x+1) else 0) else 0):=by
 rw [←ls_zs]
 refine ls_congr fun r hr=>?_
 by_cases hb:0 < σ*b r
 ·rw [if_pos hb]
  have hx:=h.xne hr (fun e=>by rw [e] at hb; omega)
  have p1:=hB.x _ (h.pin r hr)
  have p2:=hB.x _ (h.qin r hr)
  simp only at p1 p2
  rw [←under hx,←zs_part (lo:=X0) (n:=N) p1.1 (Int.le_of_lt hx) p2.2]
  exact zs_congr fun i _=>by rw [if_pos hb]
 ·rw [if_neg hb]
  exact (zs_zero fun i _=>if_neg hb).symm
theorem Pol.step_one (h:Pol P s a b c px py qx qy) {σ:Int} (hσ:σ=1∨σ=-1) {r0:ρ} (hr0:r0∈s) (hb0:0 < σ*b r0) {x:Int} (h1:px r0≤x) (h2:x < qx r0) (f:ρ→Int) :
  ls s (fun r=>if 0 < σ*b r then (if px r≤x∧x < qx r then f r else 0) else 0)=f r0:=by
 rw [ls_one h.nd hr0 fun r hr hne=>?_]
 ·rw [if_pos hb0,if_pos ⟨h1,h2⟩]
 ·by_cases hb:0 < σ*b r
  ·rw [if_pos hb]
   refine if_neg fun ⟨q1,q2⟩=>hne ?_
   exact h.one hσ hr hr0 hb hb0 q1 q2 h1 h2
  ·exact if_neg hb
theorem two_sums (X0:Int) (T:Int→Int):∀N:Nat,zs X0 N (fun x=>T x+T (x+1))=2*zs X0 (N+1) T-T X0-T (X0+N)
 | 0=>by simp [zs]; omega
 | N+1=>by
  have ih:=two_sums X0 T N
  simp only [zs] at ih ⊢
  rw [show X0+(N:Int)+1=X0+((N+1:Nat):Int) by omega]
  omega
theorem Pol.pick (h:Pol P s a b c px py qx qy) {X0 Y0:Int} {N M:Nat} (hB:Bx P X0 N Y0 M) (hN:1≤N) :
  zs X0 (N+1) (fun x=>cA s a b c Y0 M x+cI s a b c Y0 M x)-2=ls s (fun r=>if 0 < 1*b r then (qx r-px r)*(py r+qy r) else 0)-ls s (fun r=>if 0 < -1*b r then (qx r-px r)*(py r+qy r) else 0):=by
 have h1:=h.side_sum hB 1
 have h2:=h.side_sum hB (-1)
 have dbl:∀σ:Int,ls s (fun r=>if 0 < σ*b r then 2*((qx r-px r)*(py r+qy r)) else 0)=2*ls s (fun r=>if 0 < σ*b r then (qx r-px r)*(py r+qy r) else 0):=fun σ=>by
  have:=ls_add (fun r=>if 0 < σ*b r then (qx r-px r)*(py r+qy r) else 0) (fun r=>if 0 < σ*b r then (qx r-px r)*(py r+qy r) else 0) s
  rw [show 2*ls s (fun r=>if 0 < σ*b r then (qx r-px r)*(py r+qy r) else 0)=ls s (fun r=>if 0 < σ*b r then (qx r-px r)*(py r+qy r) else 0)+ls s (fun r=>if 0 < σ*b r then (qx r-px r)*(py r+qy r) else 0) by omega,←this]
  refine ls_congr fun r _=>?_
  by_cases hb:0 < σ*b r
  ·simp only [if_pos hb]; omega
  ·simp only [if_neg hb]; omega
 rw [dbl] at h1 h2
 have hd:zs X0 N (fun x=>tc s a b c Y0 M X0 N x+tc s a b c Y0 M X0 N (x+1))=2*ls s (fun r=>if 0 < 1*b r then (qx r-px r)*(py r+qy r) else 0)-2*ls s (fun r=>if 0 < -1*b r then (qx r-px r)*(py r+qy r) else 0):=by
  rw [h1,h2,←zs_sub]
  refine zs_congr fun i hi=>?_
  obtain ⟨z1,hz1,e1⟩:=hB.l
  obtain ⟨z2,hz2,e2⟩:=hB.r
  obtain ⟨u,hu,bu,u1,u2⟩:=h.span (σ:=1) (.inl rfl) (X0+i) ⟨z1,hz1,by omega⟩ ⟨z2,hz2,by omega⟩
  obtain ⟨l,hl,bl,l1,l2⟩:=h.span (σ:=-1) (.inr rfl) (X0+i) ⟨z1,hz1,by omega⟩ ⟨z2,hz2,by omega⟩
  rw [h.step_one (.inl rfl) hu bu u1 u2 fun r=>hh (px r) (py r) (qx r) (qy r) (X0+i)+hh (px r) (py r) (qx r) (qy r) (X0+i+1),h.step_one (.inr rfl) hl bl l1 l2 fun r=>hh (px r) (py r) (qx r) (qy r) (X0+i)+hh (px r) (py r) (qx r) (qy r) (X0+i+1)]
  have k1:=h.col hB hu hl (by omega) (by omega) (x:=X0+i) u1 (by omega) l1 (by omega)
  have k2:=h.col hB hu hl (by omega) (by omega) (x:=X0+i+1) (by omega) (by omega) (by omega) (by omega)
  omega
 rw [two_sums] at hd
 obtain ⟨T,hT⟩:∃T:Int→Int,T=fun x=>cA s a b c Y0 M x+cI s a b c Y0 M x:=⟨_,rfl⟩
 have hsum:zs X0 (N+1) (tc s a b c Y0 M X0 N)=zs X0 (N+1) T+(T X0-2)+(T (X0+N)-2):=by
  obtain ⟨n,rfl⟩:∃n,N=n+1:=⟨N-1,by omega⟩
  rw [zs_first,zs_first X0 T]
  simp only [zs]
  rw [show X0+1+(n:Int)=X0+((n+1:Nat):Int) by omega]
  rw [zs_congr (lo:=X0+1) (n:=n) (g:=T) fun i hi=>by
   unfold tc
   rw [if_neg (by omega),hT]]
  have hT0:∀x,T x=cA s a b c Y0 M x+cI s a b c Y0 M x:=fun x=>by rw [hT]
  unfold tc
  rw [if_pos (Or.inl rfl),if_pos (Or.inr rfl),hT0,hT0]
  omega
 have t0:tc s a b c Y0 M X0 N X0=2*T X0-2:=by unfold tc; rw [if_pos (Or.inl rfl),hT]
 have t1:tc s a b c Y0 M X0 N (X0+N)=2*T (X0+N)-2:=by unfold tc; rw [if_pos (Or.inr rfl),hT]
 rw [hsum,t0,t1] at hd
 rw [←hT]
 omega
end
end Go.Proofs.YtadpjlpdfimaeaaGreatDoor.Pick

namespace Go.Proofs.YtadpjlpdfimaeaaGreatDoor.Pick
section
variable {ρ:Type} {P:List (Int×Int)} {s:List ρ} {a b c px py qx qy:ρ→Int}
theorem Pol.tele (h:Pol P s a b c px py qx qy) {X0 Y0:Int} {N M:Nat} (hB:Bx P X0 N Y0 M) {σ:Int} (hσ:σ=1∨σ=-1) (φ:Int→Int→Int) {r0:ρ} (hr0:r0∈s) (hb0:0 < σ*b r0) (h00:px r0=X0) :
  ∀n:Nat,∀r∈s,0 < σ*b r→(qx r-X0).toNat=n→ls s (fun t=>if 0 < σ*b t∧qx t≤qx r then φ (qx t) (qy t)-φ (px t) (py t) else 0)=φ (qx r) (qy r)-φ (px r0) (py r0):=by
 intro n
 induction n using Nat.strongRecOn with
 | ind n ih=>
  intro r hr hb hn
  have hx:=h.xne hr (fun e=>by rw [e] at hb; omega)
  have b1:=hB.x _ (h.pin r hr)
  have b2:=hB.x _ (h.qin r hr)
  simp only at b1 b2
  have hx0:=h.xne hr0 (fun e=>by rw [e] at hb0; omega)
  by_cases hp:px r=X0
  ·have he:r=r0:=h.one hσ hr hr0 hb hb0 (x:=X0) (by omega) (by omega) (by omega) (by omega)
   have hz:∀t∈s,t≠r→(if 0 < σ*b t∧qx t≤qx r then φ (qx t) (qy t)-φ (px t) (py t) else 0)=0:=fun t ht hne=>by
    refine if_neg fun q=>hne ?_
    have hxt:=h.xne ht (fun e=>by rw [e] at q; omega)
    have b3:=hB.x _ (h.pin t ht)
    simp only at b3
    exact h.one hσ ht hr q.1 hb (x:=px t) (by omega) (by omega) (by omega) (by omega)
   rw [ls_one h.nd hr hz,if_pos ⟨hb,Int.le_refl _⟩,he]
  ·obtain ⟨z1,hz1,e1⟩:=hB.l
   obtain ⟨r1,hr1,hb1,k1,k2⟩:=h.span hσ (px r-1) ⟨z1,hz1,by omega⟩ ⟨_,h.pin r hr,by simp only; omega⟩
   have hq1:qx r1=px r:=by
    refine Int.le_antisymm (Int.not_lt.1 fun q=>?_) (by omega)
    have:=h.one hσ hr1 hr hb1 hb (x:=px r) (by omega) q (Int.le_refl _) hx
    rw [this] at k1
    omega
   have hy1:qy r1=py r:=by
    have g1:=h.hold r hr _ (h.qin r1 hr1)
    have g2:=h.hold r1 hr1 _ (h.pin r hr)
    have e1:=h.pon r hr
    have e2:=h.qon r1 hr1
    simp only at g1 g2
    rw [hq1] at g1 e2
    have t1:b r*(qy r1-py r)≤0:=by rw [Int.mul_sub]; omega
    have t2:b r1*(py r-qy r1)≤0:=by rw [Int.mul_sub]; omega
    have s1:1*(b r*(qy r1-py r))=(σ*b r)*(σ*(qy r1-py r)):=by
     rcases hσ with rfl | rfl
     ·simp only [Int.one_mul]
     ·grind
    have s2:1*(b r1*(py r-qy r1))=(σ*b r1)*(σ*(py r-qy r1)):=by
     rcases hσ with rfl | rfl
     ·simp only [Int.one_mul]
     ·grind
    have w1:=(sgn_le (by decide) hb s1).1 t1
    have w2:=(sgn_le (by decide) hb1 s2).1 t2
    rcases hσ with rfl | rfl <;> omega
   have h3:=ih (qx r1-X0).toNat (by omega) r1 hr1 hb1 rfl
   rw [hq1] at h3
   have hsp:ls s (fun t=>if 0 < σ*b t∧qx t≤qx r then φ (qx t) (qy t)-φ (px t) (py t) else 0)=ls s (fun t=>if 0 < σ*b t∧qx t≤px r then φ (qx t) (qy t)-φ (px t) (py t) else 0)+ls s (fun t=>if 0 < σ*b t∧px r < qx t∧qx t≤qx r then φ (qx t) (qy t)-φ (px t) (py t) else 0):=by
    rw [←ls_add]
    refine ls_congr fun t _=>?_
    by_cases q0:0 < σ*b t
    ·by_cases q1:qx t≤px r
     ·rw [if_pos ⟨q0,by omega⟩,if_pos ⟨q0,q1⟩,if_neg (by omega)]; omega
     ·by_cases q2:qx t≤qx r
      ·rw [if_pos ⟨q0,q2⟩,if_neg (by omega),if_pos ⟨q0,by omega,q2⟩]; omega
      ·rw [if_neg (by omega),if_neg (by omega),if_neg (by omega)]; omega
    ·rw [if_neg (by omega),if_neg (by omega),if_neg (by omega)]; omega
   have h4:ls s (fun t=>if 0 < σ*b t∧px r < qx t∧qx t≤qx r then φ (qx t) (qy t)-φ (px t) (py t) else 0)=φ (qx r) (qy r)-φ (px r) (py r):=by
    have hz:∀t∈s,t≠r→(if 0 < σ*b t∧px r < qx t∧qx t≤qx r then φ (qx t) (qy t)-φ (px t) (py t) else 0)=0:=fun t ht hne=>by
     refine if_neg fun q=>hne ?_
     have hxt:=h.xne ht (fun e=>by rw [e] at q; omega)
     exact h.one hσ ht hr q.1 hb (x:=qx t-1) (by omega) (by omega) (by omega) (by omega)
    rw [ls_one h.nd hr hz,if_pos ⟨hb,hx,Int.le_refl _⟩]
   rw [hsp,h3,h4]
   rw [hy1]
   omega
theorem Pol.tele_all (h:Pol P s a b c px py qx qy) {X0 Y0:Int} {N M:Nat} (hB:Bx P X0 N Y0 M) (hN:1≤N) {σ:Int} (hσ:σ=1∨σ=-1) (φ:Int→Int→Int) :
  ∃r0∈s,∃r1∈s,0 < σ*b r0∧0 < σ*b r1∧px r0=X0∧qx r1=X0+N∧ls s (fun t=>if 0 < σ*b t then φ (qx t) (qy t)-φ (px t) (py t) else 0)=φ (qx r1) (qy r1)-φ (px r0) (py r0):=by
 obtain ⟨z1,hz1,e1⟩:=hB.l
 obtain ⟨z2,hz2,e2⟩:=hB.r
 obtain ⟨r0,hr0,hb0,k1,k2⟩:=h.span hσ X0 ⟨z1,hz1,by omega⟩ ⟨z2,hz2,by omega⟩
 obtain ⟨r1,hr1,hb1,k3,k4⟩:=h.span hσ (X0+N-1) ⟨z1,hz1,by omega⟩ ⟨z2,hz2,by omega⟩
 have b1:=hB.x _ (h.pin r0 hr0)
 have b2:=hB.x _ (h.qin r1 hr1)
 simp only at b1 b2
 have hp:px r0=X0:=by omega
 have hq:qx r1=X0+N:=by omega
 refine ⟨r0,hr0,r1,hr1,hb0,hb1,hp,hq,?_⟩
 rw [←h.tele hB hσ φ hr0 hb0 hp _ r1 hr1 hb1 rfl]
 refine ls_congr fun t ht=>?_
 have b3:=hB.x _ (h.qin t ht)
 simp only at b3
 by_cases q:0 < σ*b t
 ·rw [if_pos q,if_pos ⟨q,by omega⟩]
 ·rw [if_neg q,if_neg (by omega)]
def tri (px py qx qy:ρ→Int) (A:Int×Int) (r:ρ):Int:=(((px r-A.1)*(qy r-A.2)-(py r-A.2)*(qx r-A.1)).natAbs:Int)
theorem Pol.upright (h:Pol P s a b c px py qx qy) {X0 Y0:Int} {N M:Nat} (hB:Bx P X0 N Y0 M) (hN:1≤N) {A:Int×Int} (hA1:A.1=X0) {u l:ρ} (hu:u∈s) (hl:l∈s) (hbu:0 < b u) (hbl:b l < 0) (hqu:qx u=X0+N) (hql:qx l=X0+N) :
  ls s (fun t=>if b t=0 then tri px py qx qy A t else 0)=N*(qy u-qy l):=by
 have mU:=h.qin u hu
 have mL:=h.qin l hl
 rw [hqu] at mU
 rw [hql] at mL
 have left:∀t∈s,b t=0→a t < 0→tri px py qx qy A t=0:=fun t ht hb ha=>by
  have ex:=h.xeq ht hb
  obtain ⟨z1,hz1,e1⟩:=hB.l
  have g:=h.hold t ht z1 hz1
  have e:=h.pon t ht
  rw [hb] at g e
  have b1:=hB.x _ (h.pin t ht)
  simp only at b1
  have:px t=X0:=by
   refine Int.le_antisymm (Int.not_lt.1 fun q=>?_) b1.1
   have:=Int.mul_pos_of_neg_of_neg ha (show X0-px t < 0 by omega)
   rw [e1] at g
   rw [Int.mul_sub] at this
   omega
  unfold tri
  rw [←ex,this,hA1]
  simp
 have right:∀t∈s,b t=0→0 < a t→px t=X0+N∧tri px py qx qy A t=N*(qy t-py t):=fun t ht hb ha=>by
  have ex:=h.xeq ht hb
  obtain ⟨z2,hz2,e2⟩:=hB.r
  have g:=h.hold t ht z2 hz2
  have e:=h.pon t ht
  rw [hb] at g e
  have b1:=hB.x _ (h.pin t ht)
  simp only at b1
  have hpx:px t=X0+N:=by
   refine Int.le_antisymm b1.2 (Int.not_lt.1 fun q=>?_)
   have:=Int.mul_pos ha (show 0 < X0+N-px t by omega)
   rw [e2] at g
   rw [Int.mul_sub] at this
   omega
  refine ⟨hpx,?_⟩
  have hlx:=h.lex t ht
  unfold tri
  rw [←ex,hpx,hA1]
  have e3:(X0 + ↑N-X0)*(qy t-A.2)-(py t-A.2)*(X0 + ↑N-X0)=(N:Int)*(qy t-py t):=by grind
  rw [e3]
  have:=Int.mul_nonneg (show (0:Int)≤N by omega) (show 0≤qy t-py t by omega)
  omega
 by_cases hex:∃t∈s,b t=0∧0 < a t
 ·obtain ⟨t,ht,hb,ha⟩:=hex
  obtain ⟨hpx,htr⟩:=right t ht hb ha
  rw [ls_one h.nd ht fun t' ht' hne=>?_]
  ·rw [if_pos hb,htr]
   have ex:=h.xeq ht hb
   -- the ends are those of both sides
   have onl:∀y:Int,a t*(X0+N)+b t*y=c t:=fun y=>by
    have:=h.pon t ht
    rw [hb,hpx] at this
    rw [hb]; omega
   have bU:=h.btw t ht _ mU (onl _)
   have bL:=h.btw t ht _ mL (onl _)
   simp only at bU bL
   have xu:=h.xne hu (by omega)
   have xl:=h.xne hl (by omega)
   have g1:=(up_iff (X0+N) (qy t) hbu xu (h.pon u hu) (h.qon u hu)).1.1 (by
    have:=h.hold u hu _ (h.qin t ht)
    simp only at this
    rw [←ex,hpx] at this
    exact this)
   have g2:=(dn_iff (X0+N) (py t) hbl xl (h.pon l hl) (h.qon l hl)).1.1 (by
    have:=h.hold l hl _ (h.pin t ht)
    simp only at this
    rw [hpx] at this
    exact this)
   have r1:=(ends_r (py:=py u) (qy:=qy u) xu).1
   have r2:=(ends_r (py:=py l) (qy:=qy l) xl).2
   rw [hqu] at r1
   rw [hql] at r2
   rw [hqu,r1] at g1
   rw [hql,r2] at g2
   have e1:qy t=qy u:=by omega
   have e2:py t=qy l:=by omega
   rw [e1,e2]
  ·by_cases hb':b t'=0
   ·rw [if_pos hb']
    rcases Int.lt_trichotomy (a t') 0 with q | q | q
    ·exact left t' ht' hb' q
    ·exact absurd ⟨q,hb'⟩ (h.nz t' ht')
    ·exact absurd (h.inja t' ht' t ht hb' hb (Int.mul_pos q ha)) hne
   ·exact if_neg hb'
 ·have hz:ls s (fun t=>if b t=0 then tri px py qx qy A t else 0)=0:=ls_zero fun t ht=>by
   by_cases hb:b t=0
   ·rw [if_pos hb]
    rcases Int.lt_trichotomy (a t) 0 with q | q | q
    ·exact left t ht hb q
    ·exact absurd ⟨q,hb⟩ (h.nz t ht)
    ·exact absurd ⟨t,ht,hb,q⟩ hex
   ·exact if_neg hb
  have he:qy u=qy l:=by
   refine Classical.byContradiction fun hne=>hex ?_
   obtain ⟨r,hr,e1,e2,_⟩:=h.side 1 0 _ mU _ mL (fun e=>hne (by simp only [Prod.mk.injEq,true_and] at e; exact e)) (fun v hv=>by have:=hB.x v hv; simp only; omega) (by simp) (by omega)
   exact ⟨r,hr,by omega,by omega⟩
  rw [hz,he]
  simp
theorem Pol.area (h:Pol P s a b c px py qx qy) {X0 Y0:Int} {N M:Nat} (hB:Bx P X0 N Y0 M) (hN:1≤N) {A:Int×Int} (hA:A∈P) (hA1:A.1=X0) :
  ls s (tri px py qx qy A)=ls s (fun r=>if 0 < 1*b r then (qx r-px r)*(py r+qy r) else 0)-ls s (fun r=>if 0 < -1*b r then (qx r-px r)*(py r+qy r) else 0):=by
 obtain ⟨φ,hφ⟩:∃φ:Int→Int→Int,φ=fun x y=>(x-A.1)*y+A.2*x:=⟨_,rfl⟩
 have hφ0:∀x y,φ x y=(x-A.1)*y+A.2*x:=fun x y=>by rw [hφ]
 obtain ⟨u0,hu0,u1,hu1,bu0,bu1,pu,qu,eu⟩:=h.tele_all hB hN (σ:=1) (.inl rfl) φ
 obtain ⟨l0,hl0,l1,hl1,bl0,bl1,pl,ql,el⟩:=h.tele_all hB hN (σ:=-1) (.inr rfl) φ
 have hup:=h.upright hB hN hA1 hu1 hl1 (by omega) (by omega) qu ql
 have key:∀r∈s,tri px py qx qy A r=((if 0 < 1*b r then (qx r-px r)*(py r+qy r) else 0)-(if 0 < 1*b r then φ (qx r) (qy r)-φ (px r) (py r) else 0))+(((if 0 < -1*b r then φ (qx r) (qy r)-φ (px r) (py r) else 0)-(if 0 < -1*b r then (qx r-px r)*(py r+qy r) else 0))+(if b r=0 then tri px py qx qy A r else 0)):=fun r hr=>by
  rcases Int.lt_trichotomy (b r) 0 with hb | hb | hb
  ·rw [if_neg (by omega),if_neg (by omega),if_pos (by omega),if_pos (by omega),if_neg (by omega)]
   have hx:=h.xne hr (by omega)
   have e1:=h.pon r hr
   have e2:=h.qon r hr
   have g:=h.hold r hr A hA
   have t:(qx r-px r)*(a r*A.1+b r*A.2-c r)=(-b r) * -((px r-A.1)*(qy r-A.2)-(py r-A.2)*(qx r-A.1)):=by grind
   have t1:=(sgn_le (by omega) (by omega) t).1 (by omega)
   have t2:(px r-A.1)*(qy r-A.2)-(py r-A.2)*(qx r-A.1)=0-0+(φ (qx r) (qy r)-φ (px r) (py r)-(qx r-px r)*(py r+qy r)+0):=by rw [hφ0,hφ0]; clear t t1 e1 e2 g; grind
   rw [←t2]
   unfold tri
   omega
  ·rw [if_neg (by omega),if_neg (by omega),if_neg (by omega),if_neg (by omega),if_pos hb]
   omega
  ·rw [if_pos (by omega),if_pos (by omega),if_neg (by omega),if_neg (by omega),if_neg (by omega)]
   have hx:=h.xne hr (by omega)
   have e1:=h.pon r hr
   have e2:=h.qon r hr
   have g:=h.hold r hr A hA
   have t:(qx r-px r)*(a r*A.1+b r*A.2-c r)=b r*((px r-A.1)*(qy r-A.2)-(py r-A.2)*(qx r-A.1)):=by grind
   have t1:=(sgn_le (by omega) hb t).1 (by omega)
   have t2 : -((px r-A.1)*(qy r-A.2)-(py r-A.2)*(qx r-A.1))=(qx r-px r)*(py r+qy r)-(φ (qx r) (qy r)-φ (px r) (py r))+(0-0+0):=by rw [hφ0,hφ0]; clear t t1 e1 e2 g; grind
   rw [←t2]
   unfold tri
   omega
 rw [ls_congr key,ls_add,ls_add,ls_sub,ls_sub,eu,el,hup,hφ0,hφ0,hφ0,hφ0,pu,qu,pl,ql,hA1]
 have:(X0 + ↑N-X0)=(N:Int):=by omega
 rw [this]
 have e3:(N:Int)*(qy u1-qy l1)=N*qy u1-N*qy l1:=Int.mul_sub _ _ _
 rw [e3]
 simp only [Int.sub_self,Int.zero_mul]
 omega
theorem Pol.thm (h:Pol P s a b c px py qx qy) {X0 Y0:Int} {N M:Nat} (hB:Bx P X0 N Y0 M) (hN:1≤N) {A:Int×Int} (hA:A∈P) (hA1:A.1=X0) :
  ls s (tri px py qx qy A)=zs X0 (N+1) (fun x=>cA s a b c Y0 M x+cI s a b c Y0 M x)-2:=by
 rw [h.area hB hN hA hA1,h.pick hB hN]
end
end Go.Proofs.YtadpjlpdfimaeaaGreatDoor.Pick
