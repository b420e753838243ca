import Derived.Test.YtdanomklbiidaaaGreatDoorMgAZ
namespace Go.Proofs.YtdanomklbiidaaaGreatDoor
open Go.RowKit Lin
noncomputable def rowsS (Q:List (List Int)):List (List Int):=(sort_of (rowsD Q 2)).choose
noncomputable def crnS (Q:List (List Int)):List (List Int):=(sort_of (crn 2 (rowsS Q) Q)).choose
noncomputable def arQ (Q:List (List Int)):Int:=arS (crnS Q) (rowsS Q)
theorem srS {Q:List (List Int)} (hg:Good 2 Q):SrC 2 Q (rowsS Q) (crnS Q):=
 ⟨hg,(sort_of (rowsD Q 2)).choose_spec.1,(sort_of (rowsD Q 2)).choose_spec.2,(sort_of (crn 2 (rowsS Q) Q)).choose_spec.1,(sort_of (crn 2 (rowsS Q) Q)).choose_spec.2⟩
section
variable {P s C:List (List Int)}
theorem SrC.bxP (h:SrC 2 P s C):Pick.Bx (P.map pt) (loT P 0 P.length) (hiT P 0 P.length-loT P 0 P.length).toNat (loT P 1 P.length) (hiT P 1 P.length-loT P 1 P.length+1).toNat∧1≤(hiT P 0 P.length-loT P 0 P.length).toNat:=by
 obtain ⟨hB,hN⟩:=h.bx
 have h2:=h.good.n2
 have hlh:∀c,loT P c P.length≤hiT P c P.length:=fun c=>by have:=lo_le P c P.length (Nat.le_refl _) 0 (by omega); omega
 have l0:=hlh 0
 have l1:=hlh 1
 have up:∀z,z∈C.map pt→z∈P.map pt:=fun z hz=>by
  obtain ⟨y,hy,rfl⟩:=List.mem_map.1 hz
  exact List.mem_map.2 ⟨y,h.sub hy,rfl⟩
 refine ⟨⟨fun z hz=>?_,fun z hz=>?_,?_,?_⟩,hN⟩
 ·obtain ⟨y,hy,rfl⟩:=List.mem_map.1 hz
  have:=inPB hy 1
  simp only [pt]
  omega
 ·obtain ⟨y,hy,rfl⟩:=List.mem_map.1 hz
  have:=inPB hy 0
  simp only [pt]
  omega
 ·obtain ⟨z,hz,e⟩:=hB.l
  exact ⟨z,up z hz,e⟩
 ·obtain ⟨z,hz,e⟩:=hB.r
  exact ⟨z,up z hz,e⟩
end
def Xk (P:List (List Int)) (k:Nat):Int:=V (P.getD k []) 0
def Yk (P:List (List Int)) (k:Nat):Int:=V (P.getD k []) 1
def plnR (P:List (List Int)) (hs:List Int) (i j k:Nat):Pick.Pln:=
 let w:=Pick.tn (Xk P i) (Yk P i) (Xk P j) (Yk P j) (Xk P k) (Yk P k)
 let n0:=(Yk P j-Yk P i)*(hs.getD k 0-hs.getD i 0)-(hs.getD j 0-hs.getD i 0)*(Yk P k-Yk P i)
 let n1:=(hs.getD j 0-hs.getD i 0)*(Xk P k-Xk P i)-(Xk P j-Xk P i)*(hs.getD k 0-hs.getD i 0)
 ⟨w*n0,w*n1,w*w,w*(n0*Xk P i+n1*Yk P i+w*hs.getD i 0)⟩
def htR (P:List (List Int)) (hs:List Int) (i j k q:Nat):Int:=(plnR P hs i j k).f (Xk P q) (Yk P q) (hs.getD q 0)
def okR (P:List (List Int)) (hs:List Int) (i j k:Nat):Prop:=Pick.tn (Xk P i) (Yk P i) (Xk P j) (Yk P j) (Xk P k) (Yk P k)≠0∧∀q,q < P.length→0≤htR P hs i j k q
def onR (P:List (List Int)) (hs:List Int) (i j k:Nat):List Int:=((List.range P.length).filter fun q=>decide (htR P hs i j k q=0)).map fun q:Nat=>(q:Int)
theorem htR_at (P:List (List Int)) (hs:List Int) (i j k:Nat):htR P hs i j k i=0∧htR P hs i j k j=0∧htR P hs i j k k=0:=by
 unfold htR plnR Pick.Pln.f Pick.tn
 simp only
 refine ⟨by grind,by grind,by grind⟩
theorem pln_one {x0 y0 x1 y1 x2 y2 m n o:Int} (ht:Pick.tn x0 y0 x1 y1 x2 y2≠0) (h0:m*x0+n*y0+o=0) (h1:m*x1+n*y1+o=0) (h2:m*x2+n*y2+o=0):m=0∧n=0∧o=0:=by
 unfold Pick.tn at ht
 have e1:((x1-x0)*(y2-y0)-(y1-y0)*(x2-x0))*m=0:=by grind
 have e2:((x1-x0)*(y2-y0)-(y1-y0)*(x2-x0))*n=0:=by grind
 have m0:m=0:=by
  rcases Int.mul_eq_zero.1 e1 with q | q
  ·exact absurd q ht
  ·exact q
 have n0:n=0:=by
  rcases Int.mul_eq_zero.1 e2 with q | q
  ·exact absurd q ht
  ·exact q
 refine ⟨m0,n0,?_⟩
 rw [m0,n0] at h0
 omega
theorem sq_pos {w:Int} (h:w≠0):0 < w*w:=by
 rcases Int.lt_or_gt_of_ne h with q | q
 ·exact Int.mul_pos_of_neg_of_neg q q
 ·exact Int.mul_pos q q
theorem pln_same {P:List (List Int)} {hs:List Int} {q:Pick.Pln} {i j k:Nat} (ht:Pick.tn (Xk P i) (Yk P i) (Xk P j) (Yk P j) (Xk P k) (Yk P k)≠0)
  (hi:q.f (Xk P i) (Yk P i) (hs.getD i 0)=0) (hj:q.f (Xk P j) (Yk P j) (hs.getD j 0)=0) (hk:q.f (Xk P k) (Yk P k) (hs.getD k 0)=0) :
  ∃l:Int,0 < l∧∀t,q.C*htR P hs i j k t=l*q.f (Xk P t) (Yk P t) (hs.getD t 0):=by
 obtain ⟨p,hp⟩:∃p,p=plnR P hs i j k:=⟨_,rfl⟩
 have hpC:p.C=Pick.tn (Xk P i) (Yk P i) (Xk P j) (Yk P j) (Xk P k) (Yk P k)*Pick.tn (Xk P i) (Yk P i) (Xk P j) (Yk P j) (Xk P k) (Yk P k):=by rw [hp]; rfl
 obtain ⟨z0,z1,z2⟩:=htR_at P hs i j k
 unfold htR at z0 z1 z2 ⊢
 rw [←hp] at z0 z1 z2 ⊢
 have e:∀x y h,q.C*p.f x y h-p.C*q.f x y h=(q.C*p.A-p.C*q.A)*x+(q.C*p.B-p.C*q.B)*y+(p.C*q.D-q.C*p.D):=fun x y h=>by
  simp only [Pick.Pln.f]
  grind
 have f0:=e (Xk P i) (Yk P i) (hs.getD i 0)
 have f1:=e (Xk P j) (Yk P j) (hs.getD j 0)
 have f2:=e (Xk P k) (Yk P k) (hs.getD k 0)
 rw [z0,hi] at f0
 rw [z1,hj] at f1
 rw [z2,hk] at f2
 simp only [Int.mul_zero,Int.sub_self] at f0 f1 f2
 obtain ⟨a,b,c⟩:=pln_one ht f0.symm f1.symm f2.symm
 refine ⟨p.C,by rw [hpC]; exact sq_pos ht,fun t=>?_⟩
 have:=e (Xk P t) (Yk P t) (hs.getD t 0)
 rw [a,b,c] at this
 simp only [Int.zero_mul] at this
 omega
theorem tn_perm (x0 y0 x1 y1 x2 y2:Int):Pick.tn x0 y0 x2 y2 x1 y1=-Pick.tn x0 y0 x1 y1 x2 y2∧Pick.tn x1 y1 x0 y0 x2 y2=-Pick.tn x0 y0 x1 y1 x2 y2:=by
 unfold Pick.tn
 constructor <;> grind
theorem tn_sort {P:List (List Int)} {Q:Nat→Prop} {i j k:Nat} (hi:Q i) (hj:Q j) (hk:Q k) (ht:Pick.tn (Xk P i) (Yk P i) (Xk P j) (Yk P j) (Xk P k) (Yk P k)≠0) :
  ∃i' j' k',Q i'∧Q j'∧Q k'∧i' < j'∧j' < k'∧Pick.tn (Xk P i') (Yk P i') (Xk P j') (Yk P j') (Xk P k') (Yk P k')≠0:=by
 have sw2:∀{i j k:Nat},Pick.tn (Xk P i) (Yk P i) (Xk P j) (Yk P j) (Xk P k) (Yk P k)≠0→Pick.tn (Xk P i) (Yk P i) (Xk P k) (Yk P k) (Xk P j) (Yk P j)≠0:=fun {i j k} h=>by
  rw [(tn_perm (Xk P i) (Yk P i) (Xk P j) (Yk P j) (Xk P k) (Yk P k)).1]; omega
 have sw1:∀{i j k:Nat},Pick.tn (Xk P i) (Yk P i) (Xk P j) (Yk P j) (Xk P k) (Yk P k)≠0→Pick.tn (Xk P j) (Yk P j) (Xk P i) (Yk P i) (Xk P k) (Yk P k)≠0:=fun {i j k} h=>by
  rw [(tn_perm (Xk P i) (Yk P i) (Xk P j) (Yk P j) (Xk P k) (Yk P k)).2]; omega
 have n1:i≠j:=fun e=>ht (by rw [e]; unfold Pick.tn; grind)
 have n2:i≠k:=fun e=>ht (by rw [e]; unfold Pick.tn; grind)
 have n3:j≠k:=fun e=>ht (by rw [e]; unfold Pick.tn; grind)
 by_cases a:i < j
 ·by_cases b:j < k
  ·exact ⟨i,j,k,hi,hj,hk,a,b,ht⟩
  ·by_cases c:i < k
   ·exact ⟨i,k,j,hi,hk,hj,c,by omega,sw2 ht⟩
   ·exact ⟨k,i,j,hk,hi,hj,by omega,a,sw1 (sw2 ht)⟩
 ·by_cases b:i < k
  ·exact ⟨j,i,k,hj,hi,hk,by omega,b,sw1 ht⟩
  ·by_cases c:j < k
   ·exact ⟨j,k,i,hj,hk,hi,c,by omega,sw2 (sw1 ht)⟩
   ·exact ⟨k,j,i,hk,hj,hi,by omega,by omega,sw1 (sw2 (sw1 ht))⟩
def GdR (r:List Int):Prop:=r.length=3∧gc r=1
theorem can_rows (r r':List Int) (h:GdR r) (h':GdR r') (k k':Int) (hk:0 < k) (hk':0 < k') (e0:k'*V r 0=k*V r' 0) (e1:k'*V r 1=k*V r' 1) (e2:k'*r.getD 2 0=k*r'.getD 2 0):r=r':=by
 have f3:∀x:List Int,x.length=3→x=[V x 0,V x 1,x.getD 2 0]:=fun x hx=>by
  match x,hx with
  | [a,b,c],_=>rfl
 have hmap:r.map (k' * ·)=r'.map (k * ·):=by
  rw [f3 r h.1,f3 r' h'.1]
  simp only [List.map_cons,List.map_nil]
  rw [e0,e1,e2]
 rcases prim_eq h.2 h'.2 (by omega) (by omega) hmap with e | e
 ·exact e
 ·exfalso
  have hz:∀i,V r i=- V r' i:=fun i=>by
   rw [e]
   simp only [V,List.getD_eq_getElem?_getD,List.getElem?_map]
   cases r'[i]? <;> simp
  have z:∀i,k'*V r i=k*V r' i→V r i=0:=fun i q=>by
   have q2:=hz i
   have:(k'+k)*V r i=0:=by grind
   rcases Int.mul_eq_zero.1 this with q | q
   ·omega
   ·exact q
  have:r=[0,0,0]:=by
   rw [f3 r h.1,z 0 e0,z 1 e1,show r.getD 2 0=0 from z 2 e2]
  have hg:=h.2
  rw [this] at hg
  exact absurd hg (by decide)
theorem neg_gd {r:List Int} (h:GdR r):GdR (r.map fun z=>-z):=⟨by rw [List.length_map]; exact h.1,by rw [gc_neg]; exact h.2⟩
theorem neg_V (r:List Int) (i:Nat):V (r.map fun z=>-z) i=- V r i:=by
 simp only [V,List.getD_eq_getElem?_getD,List.getElem?_map]
 cases r[i]? <;> simp
theorem sub_good {P:List (List Int)} (hg:Good 2 P) {M:List Nat} (hM:∀q∈M,q < P.length) (hn:M.length≤P.length) {i j k:Nat} (hi:i∈M) (hj:j∈M) (hk:k∈M) (ht:Pick.tn (Xk P i) (Yk P i) (Xk P j) (Yk P j) (Xk P k) (Yk P k)≠0):Good 2 (M.map fun q=>P.getD q []):=by
 have hb:Box 2 30 (M.map fun q=>P.getD q []):=fun y hy=>by
  obtain ⟨q,hq,rfl⟩:=List.mem_map.1 hy
  have:=hM q hq
  exact hg.box _ (by simp [this])
 have mem:∀{q},q∈M→P.getD q []∈M.map fun q=>P.getD q []:=fun {q} hq=>List.mem_map.2 ⟨q,hq,rfl⟩
 have hne:i≠j:=fun e=>ht (by rw [e]; unfold Pick.tn; grind)
 refine ⟨by decide,by decide,?_,by rw [List.length_map]; exact Nat.le_trans hn hg.n24,hb,full_of_span (fun y hy=>(hb y hy).1) fun c hc=>?_⟩
 ·rw [List.length_map]
  match M,hi,hj with
  | [a],hi,hj=>simp at hi hj; omega
  | _ :: _ :: _,_,_=>simp
 ·have f1:=hc _ (mem hi) _ (mem hj)
  have f2:=hc _ (mem hi) _ (mem hk)
  rw [dot2,dot2] at f1 f2
  have g1:c 0*Xk P i+c 1*Yk P i + -(c 0*Xk P i+c 1*Yk P i)=0:=by omega
  have g2:c 0*Xk P j+c 1*Yk P j + -(c 0*Xk P i+c 1*Yk P i)=0:=by unfold Xk Yk; omega
  have g3:c 0*Xk P k+c 1*Yk P k + -(c 0*Xk P i+c 1*Yk P i)=0:=by unfold Xk Yk; omega
  obtain ⟨a,b,_⟩:=pln_one ht g1 g2 g3
  intro q hq
  have:q=0∨q=1:=by omega
  rcases this with rfl | rfl
  ·exact a
  ·exact b
open Classical in
theorem reg_fill {P:List (List Int)} (hg:Good 2 P) (hs:List Int) {m:List (List Int)} (hm:m.Nodup) (hmm:∀c,c∈m↔∃i j k,i < j∧j < k∧k < P.length∧okR P hs i j k∧c=onR P hs i j k) :
  Pick.ls m (fun c=>arQ (pks P [] c))=arQ P∧m≠[]:=by
 obtain ⟨pl,hpl⟩:∃pl:List Int→Pick.Pln,∀c∈m,∃i j k,i < j∧j < k∧k < P.length∧okR P hs i j k∧c=onR P hs i j k∧pl c=plnR P hs i j k:=by
  refine ⟨fun c=>if h:∃p:Nat×Nat×Nat,p.1 < p.2.1∧p.2.1 < p.2.2∧p.2.2 < P.length∧okR P hs p.1 p.2.1 p.2.2∧c=onR P hs p.1 p.2.1 p.2.2 then plnR P hs h.choose.1 h.choose.2.1 h.choose.2.2 else ⟨0,0,0,0⟩,fun c hc=>?_⟩
  obtain ⟨i,j,k,h1,h2,h3,h4,h5⟩:=(hmm c).1 hc
  have h:∃p:Nat×Nat×Nat,p.1 < p.2.1∧p.2.1 < p.2.2∧p.2.2 < P.length∧okR P hs p.1 p.2.1 p.2.2∧c=onR P hs p.1 p.2.1 p.2.2:=⟨(i,j,k),h1,h2,h3,h4,h5⟩
  obtain ⟨g1,g2,g3,g4,g5⟩:=h.choose_spec
  exact ⟨_,_,_,g1,g2,g3,g4,g5,dif_pos h⟩
 have hfz:∀c∈m,c=(Pick.zer (Xk P) (Yk P) (fun q=>hs.getD q 0) (List.range P.length) (pl c)).map fun q:Nat=>(q:Int):=fun c hc=>by
  obtain ⟨i,j,k,_,_,_,_,h5,h6⟩:=hpl c hc
  rw [h6]
  exact h5
 have hpk:∀c∈m,pks P [] c=(Pick.zer (Xk P) (Yk P) (fun q=>hs.getD q 0) (List.range P.length) (pl c)).map fun q=>P.getD q []:=fun c hc=>by
  conv=>lhs; rw [hfz c hc]
  unfold pks
  rw [List.map_map]
  exact List.map_congr_left fun q _=>by simp
 have hpts:∀c∈m,Pick.pts (Xk P) (Yk P) (Pick.zer (Xk P) (Yk P) (fun q=>hs.getD q 0) (List.range P.length) (pl c))=(pks P [] c).map pt:=fun c hc=>by
  rw [hpk c hc,List.map_map]
  rfl
 have hall:Pick.pts (Xk P) (Yk P) (List.range P.length)=P.map pt:=by
  unfold Pick.pts
  apply List.ext_getElem (by simp)
  intro q h1 h2
  simp only [List.getElem_map,List.getElem_range]
  unfold pt Xk Yk
  have:q < P.length:=by simpa using h1
  simp [this]
 have hgood:∀c∈m,Good 2 (pks P [] c):=fun c hc=>by
  obtain ⟨i,j,k,h1,h2,h3,h4,_,h6⟩:=hpl c hc
  obtain ⟨z0,z1,z2⟩:=htR_at P hs i j k
  rw [hpk c hc]
  have mz:∀q,q < P.length→htR P hs i j k q=0→q∈Pick.zer (Xk P) (Yk P) (fun q=>hs.getD q 0) (List.range P.length) (pl c):=fun q hq e=>Pick.mem_zer.2 ⟨List.mem_range.2 hq,by rw [h6]; exact e⟩
  refine sub_good hg (fun q hq=>List.mem_range.1 (Pick.mem_zer.1 hq).1) ?_ (mz i (by omega) z0) (mz j (by omega) z1) (mz k h3 z2) h4.1
  exact Nat.le_trans (List.length_filter_le _ _) (by simp)
 have hR:Pick.Reg (List.range P.length) (Xk P) (Yk P) (fun q=>hs.getD q 0) m pl GdR (fun r=>r.map fun z=>-z) (fun r=>V r 0) (fun r=>V r 1) (fun r=>r.getD 2 0) (fun c=>rowsS (pks P [] c)) (fun c r=>V (ep (crnS (pks P [] c)) 0 r) 0) (fun c r=>V (ep (crnS (pks P [] c)) 0 r) 1) (fun c r=>V (ep (crnS (pks P [] c)) 1 r) 0) (fun c r=>V (ep (crnS (pks P [] c)) 1 r) 1) (rowsS P) (fun r=>V (ep (crnS P) 0 r) 0) (fun r=>V (ep (crnS P) 0 r) 1) (fun r=>V (ep (crnS P) 1 r) 0) (fun r=>V (ep (crnS P) 1 r) 1):=by
  have gds:∀Q:List (List Int),Good 2 Q→∀r∈rowsS Q,GdR r:=fun Q hQ r hr=>by
   have h:=srS hQ
   have hr':=(mem_rowsD).1 ((h.rows r).1 hr)
   exact ⟨(rowsC_fit hQ.box hQ.d1 (by decide) (fun _=>Iff.rfl) hr').len,row_gcP hr'⟩
  refine ⟨hm,fun c hc=>?_,fun c hc q hq=>?_,fun c hc=>?_,fun c hc c' hc' he=>?_,fun q hqC hge hex=>?_,?_,fun c hc=>gds _ (hgood c hc),gds P hg,fun r hr=>neg_gd hr,fun r=>neg_V r 0,fun r=>neg_V r 1,fun r=>neg_V r 2,fun r=>by rw [List.map_map]; simp [Function.comp_def],can_rows⟩
  ·obtain ⟨i,j,k,_,_,_,h4,_,h6⟩:=hpl c hc
   rw [h6]
   exact sq_pos h4.1
  ·obtain ⟨i,j,k,_,_,_,h4,_,h6⟩:=hpl c hc
   rw [h6]
   exact h4.2 q (List.mem_range.1 hq)
  ·rw [hpts c hc]
   exact (srS (hgood c hc)).polP
  ·rw [hfz c hc,hfz c' hc']
   refine congrArg (List.map fun q:Nat=>(q:Int)) (List.filter_congr fun q hq=>?_)
   rw [decide_eq_decide]
   exact he q hq
  ·obtain ⟨i,hi,j,hj,k,hk,e1,e2,e3,ht⟩:=hex
   obtain ⟨i',j',k',⟨q1,p1⟩,⟨q2,p2⟩,⟨q3,p3⟩,o1,o2,ht'⟩:=tn_sort (Q:=fun t=>t < P.length∧q.f (Xk P t) (Yk P t) (hs.getD t 0)=0) ⟨List.mem_range.1 hi,e1⟩ ⟨List.mem_range.1 hj,e2⟩ ⟨List.mem_range.1 hk,e3⟩ ht
   obtain ⟨l,hl,hsm⟩:=pln_same ht' p1 p2 p3
   have hzz:∀t,q.f (Xk P t) (Yk P t) (hs.getD t 0)=0↔htR P hs i' j' k' t=0:=fun t=>by
    have:=hsm t
    constructor
    ·intro z
     rw [z,Int.mul_zero] at this
     rcases Int.mul_eq_zero.1 this with w | w
     ·omega
     ·exact w
    ·intro z
     rw [z,Int.mul_zero] at this
     rcases Int.mul_eq_zero.1 this.symm with w | w
     ·omega
     ·exact w
   have hok:okR P hs i' j' k':=⟨ht',fun t ht=>by
    have h1:=Int.mul_nonneg (Int.le_of_lt hl) (hge t (List.mem_range.2 ht))
    rw [←hsm t] at h1
    refine Int.not_lt.1 fun w=>?_
    have:=Int.mul_pos hqC (show 0 < -htR P hs i' j' k' t by omega)
    rw [Int.mul_neg] at this
    omega⟩
   have hc:onR P hs i' j' k'∈m:=(hmm _).2 ⟨i',j',k',o1,o2,q3,hok,rfl⟩
   refine ⟨_,hc,fun t ht=>?_⟩
   rw [hzz t]
   have hcz:=hfz _ hc
   have m1:htR P hs i' j' k' t=0↔(t:Int)∈onR P hs i' j' k':=by
    unfold onR
    simp only [List.mem_map,List.mem_filter,decide_eq_true_eq]
    constructor
    ·intro z; exact ⟨t,⟨ht,z⟩,rfl⟩
    ·rintro ⟨t',⟨_,z⟩,e⟩
     rw [show t=t' by omega]; exact z
   have m2:(pl (onR P hs i' j' k')).f (Xk P t) (Yk P t) (hs.getD t 0)=0↔(t:Int)∈onR P hs i' j' k':=by
    conv=>rhs; rw [hcz]
    simp only [List.mem_map,Pick.mem_zer]
    constructor
    ·intro z; exact ⟨t,⟨ht,z⟩,rfl⟩
    ·rintro ⟨t',⟨_,z⟩,e⟩
     rw [show t=t' by omega]; exact z
   exact m1.trans m2.symm
  ·rw [hall]
   exact (srS hg).polP
 obtain ⟨hB,hN⟩:=(srS hg).bxP
 have hne:m≠[]:=by
  obtain ⟨z,hz,ez⟩:=hB.l
  obtain ⟨z',hz',ez'⟩:=hB.r
  obtain ⟨r,hr,b0,x1,x2⟩:=(srS hg).polP.span (σ:=1) (Or.inl rfl) z.1 ⟨z,hz,Int.le_refl _⟩ ⟨z',hz',by omega⟩
  obtain ⟨c,hc,_⟩:=hR.last (Or.inl rfl) hr b0 x1 x2
  exact List.ne_nil_of_mem hc
 have hleft:=(srS hg).left
 have hf:=hR.fill (fun c=>pt ((crnS (pks P [] c)).getD 0 [])) (fun c hc=>by
  obtain ⟨b1,b2⟩:=(srS (hgood c hc)).bxP
  have hl:=(srS (hgood c hc)).left
  rw [hpts c hc]
  exact ⟨_,_,_,_,b1,b2,List.mem_map.2 ⟨_,(srS (hgood c hc)).sub hl.1,rfl⟩,hl.2⟩) (by rw [hall]; exact hB) hN (A0:=pt ((crnS P).getD 0 [])) (by rw [hall]; exact List.mem_map.2 ⟨_,(srS hg).sub hleft.1,rfl⟩) hleft.2
 have e0:arQ P=Pick.ls (rowsS P) (Pick.tri (fun r=>V (ep (crnS P) 0 r) 0) (fun r=>V (ep (crnS P) 0 r) 1) (fun r=>V (ep (crnS P) 1 r) 0) (fun r=>V (ep (crnS P) 1 r) 1) (pt ((crnS P).getD 0 []))):=
  Pick.ls_congr (f:=arR (crnS P)) fun r hr=>(srS hg).triR hr
 refine ⟨?_,hne⟩
 rw [e0,←hf]
 exact Pick.ls_congr fun c hc=>Pick.ls_congr (f:=arR (crnS (pks P [] c))) fun r hr=>(srS (hgood c hc)).triR hr
end Go.Proofs.YtdanomklbiidaaaGreatDoor
