import Derived.Test.YtdanomklbiidaaaGreatDoorMgAU
import Derived.Test.YtdanomklbiidaaaGreatDoorRun12
import Derived.Test.YtdanomklbiidaaaGreatDoorMgAI
import Derived.Test.YtdanomklbiidaaaGreatDoorWr8
import Derived.OrdersIn
import Derived.OwnWalkIn
import Derived.OrdersHeld
import Derived.RangeFuncCalls
import Derived.RangeFuncNested
import Derived.Deep.RegionHeld3
import Derived.Test.YtdanomklbiidaaaGreatDoorMgAB
import Derived.Test.YtdanomklbiidaaaGreatDoorMgAG
import Derived.Test.YtdanomklbiidaaaGreatDoorMgAN
import Derived.Test.YtdanomklbiidaaaGreatDoorMgAH
import Derived.Test.YtdanomklbiidaaaGreatDoorMgAA
import Derived.Test.YtdanomklbiidaaaGreatDoorMgAE
import Derived.Test.YtdanomklbiidaaaGreatDoorMgAQ
import Derived.Deep.OwnRows
namespace Go.Proofs.YtdanomklbiidaaaGreatDoor
open Lin
def KerP (d:Nat) (D K:List (List Int)):Prop:=∃M' C k sgn,Red (mOf D) D.length d M' C k sgn∧K=(freesT k C d).map (kvec M' C d k)
theorem fr_mem {k:Nat} {C:Nat→Nat} {q f:Nat} : f∈freesT k C q↔f < q∧∀a,a < k→C a≠f:=by
 unfold freesT
 rw [List.mem_filter,List.mem_range]
 refine and_congr_right fun _=>?_
 constructor
 ·intro h a ha e
  rw [pivot_has.2 ⟨a,ha,e⟩] at h
  cases h
 ·intro h
  cases hc:((List.range k).map fun b=>(C b:Int)).contains (f:Int) with
  | false=>rfl
  | true=>
   obtain ⟨a,ha,e⟩:=pivot_has.1 hc
   exact absurd e (h a ha)
theorem fr_two {k d:Nat} {C:Nat→Nat} (h:(freesT k C d).length=2) :
  ∃f g,freesT k C d=[f,g]∧f≠g∧f < d∧g < d∧(∀a,a < k→C a≠f)∧(∀a,a < k→C a≠g)∧∀j,j < d→j=f∨j=g∨∃a,a < k∧C a=j:=by
 have hn:(freesT k C d).Nodup:=by unfold freesT; exact List.nodup_range.filter _
 match hl:freesT k C d,h with
 | [f,g],_=>
  have hf:=fr_mem.1 (show f∈freesT k C d by rw [hl]; simp)
  have hg:=fr_mem.1 (show g∈freesT k C d by rw [hl]; simp)
  rw [hl] at hn
  refine ⟨f,g,rfl,by simpa using hn,hf.1,hg.1,hf.2,hg.2,fun j hj=>?_⟩
  by_cases hp:∃a,a < k∧C a=j
  ·exact Or.inr (Or.inr hp)
  ·have hm:j∈freesT k C d:=fr_mem.2 ⟨hj,fun a ha e=>hp ⟨a,ha,e⟩⟩
   rw [hl] at hm
   simp at hm
   rcases hm with e | e
   ·exact Or.inl e
   ·exact Or.inr (Or.inl e)
structure Nf (M:Nat→Nat→Int) (d k:Nat) (C:Nat→Nat) (f:Nat) (N:Nat→Int):Prop where
 fd:f < d
 off:∀a,a < k→C a≠f
 atf:N f=dk M C k
 atC:∀a,a < k→N (C a)=- rr M C k a f
 els:∀j,j≠f→(∀a,a < k→C a≠j)→N j=0
theorem nf_nv {M:Nat→Nat→Int} {d k f:Nat} {C:Nat→Nat} (hr:Rising k d C) (hf:f < d) (hoff:∀a,a < k→C a≠f):Nf M d k C f (nv (dk M C k) f (fun a=>rr M C k a f) C k):=
 ⟨hf,hoff,by rw [nv_off hoff,if_pos rfl],fun a ha=>nv_at ha hr.1,fun j hj hp=>by rw [nv_off hp,if_neg hj]⟩
theorem nf_orth {M:Nat→Nat→Int} {n d k f:Nat} {C:Nat→Nat} {N:Nat→Int} (h:Done M n d k C) (hN:Nf M d k C f N) {i:Nat} (hi:i < n):sumN d (fun j=>M i j*N j)=0:=by
 have hr:∀a,a < k→sumN d (fun j=>rr M C k a j*N j)=0:=by
  intro a ha
  have e:∀j,j < d→rr M C k a j*N j=(if j=C a then dk M C k*(- rr M C k a f) else 0)+(if j=f then rr M C k a f*dk M C k else 0):=by
   intro j hj
   by_cases hjf:j=f
   ·subst hjf
    have hne:j≠C a:=fun e=>hN.off a ha e.symm
    simp [hne,hN.atf]
   ·by_cases hp:∃b,b < k∧C b=j
    ·obtain ⟨b,hb,rfl⟩:=hp
     rw [rr_pivot h.nz h.rise.1 ha hb,hN.atC b hb]
     by_cases hab:a=b
     ·subst hab; simp [hjf]
     ·have:C b≠C a:=by
       rcases Nat.lt_or_gt_of_ne hab with h' | h'
       ·have:=h.rise.1 a b h' hb; omega
       ·have:=h.rise.1 b a h' ha; omega
      simp [hab,hjf,this]
    ·rw [hN.els j hjf (fun a ha e=>hp ⟨a,ha,e⟩)]
     have hne:j≠C a:=fun e=>hp ⟨a,ha,e.symm⟩
     simp [hjf,hne]
  rw [sumN_congr e,sumN_add,sumN_one (k:=C a) (h.rise.2 a ha) (fun i _ hne=>by simp [hne]),sumN_one (k:=f) hN.fd (fun i _ hne=>by simp [hne])]
  rw [if_pos rfl,if_pos rfl]
  grind
 have h4:dk M C k*sumN d (fun j=>M i j*N j)=0:=by
  rw [←sumN_mul,sumN_congr (g:=fun j=>sumN k (fun a=>M i (C a)*(rr M C k a j*N j))) (fun j hj=>by
   rw [←Int.mul_assoc,done_rows h hi hj]; unfold comb; rw [←sumN_mul_right]; exact sumN_congr fun a _=>by rw [Int.mul_assoc])]
  rw [sumN_swap]
  exact sumN_zero fun a ha=>by rw [sumN_mul,hr a ha,Int.mul_zero]
 rcases Int.mul_eq_zero.1 h4 with h5 | h5
 ·exact absurd h5 h.nz
 ·exact h5
theorem nf_span {M:Nat→Nat→Int} {n d k f g:Nat} {C:Nat→Nat} {N Q y:Nat→Int} (h:Done M n d k C) (hN:Nf M d k C f N) (hQ:Nf M d k C g Q) (hfg:f≠g) (hall:∀j,j < d→j=f∨j=g∨∃a,a < k∧C a=j)
  (hy:∀i,i < n→sumN d (fun j=>M i j*y j)=0) {j:Nat} (hj:j < d):dk M C k*y j=y f*N j+y g*Q j:=by
 have hr:∀a,a < k→sumN d (fun j=>rr M C k a j*y j)=0:=by
  intro a ha
  obtain ⟨e,l,he,h1⟩:=rr_made h.nz ha
  have h2:e*sumN d (fun j=>rr M C k a j*y j)=0:=by
   rw [←sumN_mul,sumN_congr (g:=fun j=>sumN k (fun i=>l i*(M i j*y j))) (fun j hj=>by
    rw [←Int.mul_assoc,h1 j]; unfold comb; rw [←sumN_mul_right]; exact sumN_congr fun i _=>by rw [Int.mul_assoc])]
   rw [sumN_swap]
   exact sumN_zero fun i hi=>by rw [sumN_mul,hy i (by have:=h.kn; omega),Int.mul_zero]
  rcases Int.mul_eq_zero.1 h2 with h3 | h3
  ·exact absurd h3 he
  ·exact h3
 rcases hall j hj with rfl | rfl | ⟨a,ha,rfl⟩
 ·rw [hN.atf,hQ.els j hfg hN.off]; grind
 ·rw [hQ.atf,hN.els j (fun e=>hfg e.symm) hQ.off]; grind
 ·have h1:=hr a ha
  have h2:sumN d (fun j=>rr M C k a j*y j)=dk M C k*y (C a)+(rr M C k a f*y f+rr M C k a g*y g):=by
   have e:∀j,j < d→rr M C k a j*y j=(if j=C a then dk M C k*y (C a) else 0)+((if j=f then rr M C k a f*y f else 0)+(if j=g then rr M C k a g*y g else 0)):=by
    intro j hj
    rcases hall j hj with rfl | rfl | ⟨b,hb,rfl⟩
    ·have hne:j≠C a:=fun e=>hN.off a ha e.symm
     simp [hne,hfg]
    ·have hne:j≠C a:=fun e=>hQ.off a ha e.symm
     have hgf:j≠f:=fun e=>hfg e.symm
     simp [hne,hgf]
    ·rw [rr_pivot h.nz h.rise.1 ha hb]
     have hnf:=hN.off b hb
     have hng:=hQ.off b hb
     by_cases hab:a=b
     ·subst hab; simp [hnf,hng]
     ·have:C b≠C a:=by
       rcases Nat.lt_or_gt_of_ne hab with h' | h'
       ·have:=h.rise.1 a b h' hb; omega
       ·have:=h.rise.1 b a h' ha; omega
      simp [hab,hnf,hng,this]
   rw [sumN_congr e,sumN_add,sumN_add,sumN_one (k:=C a) (h.rise.2 a ha) (fun i _ hne=>by simp [hne]),sumN_one (k:=f) hN.fd (fun i _ hne=>by simp [hne]),sumN_one (k:=g) hQ.fd (fun i _ hne=>by simp [hne])]
   simp
  rw [hN.atC a ha,hQ.atC a ha]
  rw [h1] at h2
  grind
theorem d1_eqK (M:Nat→Nat→Int) (C:Nat→Nat):dk M C 1=M 0 (C 0):=by
 simp [dk,cols,srows,od,sumN,sg,List.range,List.range.loop]
theorem d2_eqK (M:Nat→Nat→Int) (C:Nat→Nat):dk M C 2=M 0 (C 0)*M 1 (C 1)-M 0 (C 1)*M 1 (C 0):=by
 simp [dk,cols,srows,od,sumN,sg,ins,List.range,List.range.loop]
 grind
theorem mul_absB {a b:Int} {B:Nat} (h1:a.natAbs≤B) (h2:b.natAbs≤B):(a*b).natAbs≤B*B:=by
 rw [Int.natAbs_mul]; exact Nat.mul_le_mul h1 h2
theorem rr_two {M:Nat→Nat→Int} {n d k f a B:Nat} {C:Nat→Nat} (h:Done M n d k C) (hk:k≤2) (hf:f < d) (ha:a < k) (hb:∀i,i < n→∀j,j < d→(M i j).natAbs≤B):(rr M C k a f).natAbs≤(if k=1 then B else 2*(B*B)):=by
 have hkn:=h.kn
 have hC:=h.rise.2
 have hnz:=h.nz
 have hrow:∀i,i < k→dk M C k*M i f=comb k (fun a=>M i (C a)) (rr M C k) f:=fun i hi=>done_rows h (by omega) hf
 rcases (show k=1∨k=2 by omega) with rfl | rfl
 ·have h0:=hrow 0 (by omega)
  rw [d1_eqK] at h0 hnz
  simp only [comb,sumN,Int.zero_add] at h0
  have:a=0:=by omega
  subst this
  have e:=Int.eq_of_mul_eq_mul_left hnz h0
  rw [←e,if_pos rfl]; exact hb 0 (by omega) f hf
 ·have h0:=hrow 0 (by omega)
  have h1:=hrow 1 (by omega)
  have hd:=d2_eqK M C
  simp only [comb,sumN,Int.zero_add] at h0 h1
  have b00:=hb 0 (by omega) (C 0) (hC 0 (by omega))
  have b01:=hb 0 (by omega) (C 1) (hC 1 (by omega))
  have b10:=hb 1 (by omega) (C 0) (hC 0 (by omega))
  have b11:=hb 1 (by omega) (C 1) (hC 1 (by omega))
  have b0f:=hb 0 (by omega) f hf
  have b1f:=hb 1 (by omega) f hf
  generalize dk M C 2=D at *
  generalize M 0 (C 0)=m00 at *
  generalize M 0 (C 1)=m01 at *
  generalize M 1 (C 0)=m10 at *
  generalize M 1 (C 1)=m11 at *
  generalize M 0 f=m0f at *
  generalize M 1 f=m1f at *
  have key:∀{x y:Int},D*x=D*y→x=y:=fun e=>Int.eq_of_mul_eq_mul_left hnz e
  rcases (show a=0∨a=1 by omega) with rfl | rfl
  ·have e:rr M C 2 0 f=m11*m0f-m01*m1f:=key (by rw [hd] at h0 h1 ⊢; grind)
   have q1:=mul_absB b11 b0f
   have q2:=mul_absB b01 b1f
   rw [e,if_neg (by decide)]; omega
  ·have e:rr M C 2 1 f=m00*m1f-m10*m0f:=key (by rw [hd] at h0 h1 ⊢; grind)
   have q1:=mul_absB b00 b1f
   have q2:=mul_absB b10 b0f
   rw [e,if_neg (by decide)]; omega
theorem ker_len {d:Nat} {D K:List (List Int)} (h:KerP d D K):K.length+(pickL d D).length=d:=by
 obtain ⟨M',C,k,sgn,hr,rfl⟩:=h
 rw [List.length_map,←red_rank hr]
 exact freesT_len hr.done.rise
theorem kv_at {M':Nat→Nat→Int} {C:Nat→Nat} {d k f j:Nat} (hj:j < d):∃G:Int,G=(gc ((List.range d).map (nv (dk M' C k) f (fun a=>rr M' C k a f) C k)):Int)∧G*V (kvec M' C d k f) j=nv (dk M' C k) f (fun a=>rr M' C k a f) C k j:=by
 refine ⟨_,rfl,?_⟩
 unfold V kvec
 rw [low_atW]
 simp [hj]
theorem ker_bas {d:Nat} {t K:List (List Int)} (hbox:Box d 30 t) (hd1:1≤d) (hd4:d≤4) (hK:KerP d (diffL t) K) (h2:K.length=2) (h1:1≤t.length) :
  Bas d t (t.getD 0 []) (K.getD 0 []) (K.getD 1 [])∧(K.getD 0 []).length=d∧(K.getD 1 []).length=d∧(∀z∈K.getD 0 [],z.natAbs≤10000)∧∀z∈K.getD 1 [],z.natAbs≤10000:=by
 have hx:=diff_mx hbox hd1 (by omega)
 have hlk:=ker_len hK
 obtain ⟨M',C,k,sgn,hr,rfl⟩:=hK
 have hkk:=red_rank hr
 have hk2:k≤2:=by omega
 rw [List.length_map] at h2
 obtain ⟨f,g,hfg,hne,hfd,hgd,hof,hog,hall⟩:=fr_two h2
 have hF:=nf_nv (M:=M') hr.done.rise hfd hof
 have hG:=nf_nv (M:=M') hr.done.rise hgd hog
 rw [hfg]
 have e0:([f,g].map (kvec M' C d k)).getD 0 []=kvec M' C d k f:=rfl
 have e1:([f,g].map (kvec M' C d k)).getD 1 []=kvec M' C d k g:=rfl
 rw [e0,e1]
 have hent:=red_entry hx hr
 have hdkb:(dk M' C k).natAbs≤7200:=by
  have h5:fb 60 2=7200:=by decide
  have m1:fb 60 k≤fb 60 2:=fb_mono (by decide) hk2
  have hb:=dk_bd (B:=60) (k:=k) (M:=M') (C:=C) (fun i hi b hb=>hent i (by have:=hr.done.kn; omega) _ (hr.done.rise.2 b hb))
  omega
 have hbd:∀q,q < d→∀z∈kvec M' C d k q,z.natAbs≤10000:=fun q hq=>by
  unfold kvec
  refine low_bd fun z hz=>?_
  obtain ⟨j,_,rfl⟩:=List.mem_map.1 hz
  exact nv_bd (by omega) fun a ha=>by have:=rr_two hr.done (by omega) hq ha hent; split at this <;> omega
 -- orthogonal to all differences
 have horth:∀{N:Nat→Int},(∀i,i < (diffL t).length→sumN d (fun j=>M' i j*N j)=0)↔∀y∈t,dot d N (V y)=dot d N (V (t.getD 0 [])):=fun {N}=>by
  have hrow:∀i,i < (diffL t).length→sumN d (fun j=>mOf (diffL t) i j*N j)=dot d N (V (t.getD (i+1) []))-dot d N (V (t.getD 0 [])):=fun i hi=>by
   have hi':i+1 < t.length:=by rw [diffL_length] at hi; omega
   have hm:t.getD (i+1) []∈t:=by simp [hi']
   rw [←dot_subL N (hbox _ hm).1]
   unfold dot
   refine sumN_congr fun j _=>?_
   have:mOf (diffL t) i j=V (subL (t.getD (i+1) []) (t.getD 0 [])) j:=by
    unfold mOf V
    congr 1
    unfold diffL
    rw [List.getD_eq_getElem?_getD,List.getElem?_map,List.getElem?_drop,Nat.add_comm 1 i]
    simp [hi']
   rw [this,Int.mul_comm]
  constructor
  ·intro h y hy
   obtain ⟨i,hi,rfl⟩:=List.mem_iff_getElem.1 hy
   cases i with
   | zero=>simp [hi]
   | succ i=>
    have hi2:i < (diffL t).length:=by rw [diffL_length]; omega
    obtain ⟨i',hi',he⟩:=hr.sup i hi2
    have h3:=hrow i hi2
    rw [he,h i' hi'] at h3
    have:t.getD (i+1) []=t[i+1]:=by simp [hi]
    rw [←this]
    omega
  ·intro h i hi
   obtain ⟨i',hi',he⟩:=hr.sub i hi
   rw [he,hrow i' hi']
   have hi2:i'+1 < t.length:=by rw [diffL_length] at hi'; omega
   have hm:t.getD (i'+1) []∈t:=by simp [hi2]
   rw [h _ hm]
   omega
 obtain ⟨N,hNe⟩:∃N,N=nv (dk M' C k) f (fun a=>rr M' C k a f) C k:=⟨_,rfl⟩
 obtain ⟨Q,hQe⟩:∃Q,Q=nv (dk M' C k) g (fun a=>rr M' C k a g) C k:=⟨_,rfl⟩
 obtain ⟨Gf,hGf⟩:∃Gf:Int,Gf=(gc ((List.range d).map N):Int):=⟨_,rfl⟩
 obtain ⟨Gg,hGg⟩:∃Gg:Int,Gg=(gc ((List.range d).map Q):Int):=⟨_,rfl⟩
 have hu:∀j,j < d→Gf*V (kvec M' C d k f) j=N j:=fun j hj=>by
  obtain ⟨G,e,h⟩:=kv_at (M':=M') (C:=C) (k:=k) (f:=f) hj
  rw [hGf,hNe,←e]; exact h
 have hv:∀j,j < d→Gg*V (kvec M' C d k g) j=Q j:=fun j hj=>by
  obtain ⟨G,e,h⟩:=kv_at (M':=M') (C:=C) (k:=k) (f:=g) hj
  rw [hGg,hQe,←e]; exact h
 rw [←hNe] at hF
 rw [←hQe] at hG
 have hGf0:Gf≠0:=fun e=>by
  have:=hu f hfd
  rw [e,Int.zero_mul,hF.atf] at this
  exact hr.done.nz this.symm
 have hGg0:Gg≠0:=fun e=>by
  have:=hv g hgd
  rw [e,Int.zero_mul,hG.atf] at this
  exact hr.done.nz this.symm
 have hdotu:∀y,Gf*dot d (V (kvec M' C d k f)) y=dot d N y:=fun y=>by
  unfold dot; rw [←sumN_mul]; exact sumN_congr fun j hj=>by rw [←Int.mul_assoc,hu j hj]
 have hdotv:∀y,Gg*dot d (V (kvec M' C d k g)) y=dot d Q y:=fun y=>by
  unfold dot; rw [←sumN_mul]; exact sumN_congr fun j hj=>by rw [←Int.mul_assoc,hv j hj]
 refine ⟨⟨fun y hy=>?_,fun y hy=>?_,fun a b hab=>?_,fun w hw=>?_⟩,by unfold kvec; simp [low_len],by unfold kvec; simp [low_len],hbd f hfd,hbd g hgd⟩
 ·refine Int.eq_of_mul_eq_mul_left hGf0 ?_
  rw [hdotu,hdotu]
  exact (horth.1 fun i hi=>nf_orth hr.done hF hi) y hy
 ·refine Int.eq_of_mul_eq_mul_left hGg0 ?_
  rw [hdotv,hdotv]
  exact (horth.1 fun i hi=>nf_orth hr.done hG hi) y hy
 ·have hvf:V (kvec M' C d k g) f=0:=by
   have:=hv f hfd
   rw [hG.els f hne hof] at this
   rcases Int.mul_eq_zero.1 this with h | h
   ·exact absurd h hGg0
   ·exact h
  have hug:V (kvec M' C d k f) g=0:=by
   have:=hu g hgd
   rw [hF.els g (fun e=>hne e.symm) hog] at this
   rcases Int.mul_eq_zero.1 this with h | h
   ·exact absurd h hGf0
   ·exact h
  have huf:V (kvec M' C d k f) f≠0:=fun e=>by
   have:=hu f hfd
   rw [e,Int.mul_zero,hF.atf] at this
   exact hr.done.nz this.symm
  have hvg:V (kvec M' C d k g) g≠0:=fun e=>by
   have:=hv g hgd
   rw [e,Int.mul_zero,hG.atf] at this
   exact hr.done.nz this.symm
  have p1:=hab f hfd
  have p2:=hab g hgd
  rw [hvf,Int.mul_zero,Int.add_zero] at p1
  rw [hug,Int.mul_zero,Int.zero_add] at p2
  exact ⟨(Int.mul_eq_zero.1 p1).resolve_right huf,(Int.mul_eq_zero.1 p2).resolve_right hvg⟩
 ·have hs:=fun j (hj:j < d)=>nf_span hr.done hF hG hne hall (y:=w) (horth.2 hw) hj
  refine ⟨dk M' C k,w f*Gf,w g*Gg,hr.done.nz,fun i hi=>?_⟩
  rw [hs i hi,←hu i hi,←hv i hi]
  grind
theorem off_some {d:Nat} {P t:List (List Int)} (hg:Good d P) {x u v:List Int} (hB:Bas d t x u v):offL d u v x P≠[]:=fun e=>by
 have hz:∀y∈P,senP d u v x y=(0,0):=fun y hy=>Classical.byContradiction fun hn=>by
  have:=off_mem.2 ⟨y,hy,rfl,hn⟩
  rw [e] at this
  cases this
 have h0:=good_span hg (V u) (fun y hy z hz'=>by
  have h1:=congrArg Prod.fst (hz y hy)
  have h2:=congrArg Prod.fst (hz z hz')
  simp only [senP] at h1 h2
  omega)
 have:=(hB.ind 1 0 fun i hi=>by rw [h0 i hi]; simp).1
 omega
end Go.Proofs.YtdanomklbiidaaaGreatDoor

namespace Go.Proofs.YtdanomklbiidaaaGreatDoor
open Go.RowKit
open Lin
theorem diff_gives (d:Nat) (t:List (List Int)) (vt:Value) (w:World) (ht:Mat w.heap.size 22 3 w vt t) (h1:1≤t.length) (h2:t.length≤1000) (hd:1≤d) (hd5:d≤5) (hb:Box d 30 t) :
  ∀W,Below w.heap.size w W→Calls Tryz.prog 40 #[vt] W fun e w'=>∃z,e=.returned z∧Mat w'.heap.size 22 3 w' z (diffL t)∧Below W.heap.size W w':=fun W hB=>by
 refine (differences_any W.heap.size d t vt W ((ht.below hB (Nat.le_refl _)).any (Nat.le_refl _)) h1 h2 hd (by omega) (fun r hr=>(hb r hr).1) (fun r hr z hz=>by have:=(hb r hr).2 z hz; omega)).mono ?_
 rintro e w' ⟨x,rfl,⟨vs,g1,g2,g3⟩,h4⟩
 exact ⟨x,rfl,⟨vs,g1,Sl.own g2,fun i hi=>(g3 i hi).any (Nat.le_refl _)⟩,h4⟩
theorem ker_gives (d:Nat) (D:List (List Int)) (w:World) (hx:Mx d 60 D) (hc4:d≤4) (h1:D.length≤500) (hd:d≤1000) :
  ∀W z,Below w.heap.size w W→Mat W.heap.size 22 3 W z D→Calls Tryz.prog 104 #[z,.int .i64 d] W fun e w'=>∃K y,e=.returned y∧KerP d D K∧K.length≤1000∧Mat w'.heap.size 22 3 w' y K∧Below W.heap.size W w':=fun W z _ hz=>by
 refine (kernelD_any0 W.heap.size d D z W hx hc4 hz h1).mono ?_
 rintro e w' ⟨M',C,k,sgn,hr,u,rfl,⟨vs,g1,g2,g3⟩,_,h3⟩
 refine ⟨_,u,rfl,⟨M',C,k,sgn,hr,rfl⟩,?_,⟨vs,g1,Sl.own g2,fun i hi=>(g3 i hi).any (Nat.le_refl _)⟩,h3⟩
 rw [List.length_map]
 unfold freesT
 refine Nat.le_trans (List.length_filter_le _ _) ?_
 simp
 omega
end Go.Proofs.YtdanomklbiidaaaGreatDoor

namespace Go.Proofs.YtdanomklbiidaaaGreatDoor
open Lin
theorem thr_len (d:Nat) (u v x:List Int) (P:List (List Int)):(thrL d u v x P).length≤2:=by
 have h:∀off e,(endR d u v x off e).length≤1:=fun off e=>by unfold endR; split <;> simp
 unfold thrL
 split
 ·simp
 ·rw [List.length_append]
  have h1:=h
  rename_i m l _
  have a:=h (m :: l) (mxF m l)
  have b:=h (m :: l) (negP (mnF m l))
  omega
structure RwQ (d:Nat) (P pre m:List (List Int)):Prop where
 is:∀r∈m,r∈rowsC P [] d P
 all:∀c∈pre,FlatOk d (pks P [] c)→∃u v,Bas d (pks P [] c) ((pks P [] c).getD 0 []) u v∧∀r∈thrL d u v ((pks P [] c).getD 0 []) P,r∈m
 len:m.length≤2*pre.length
theorem RwQ.nil (d:Nat) (P:List (List Int)):RwQ d P [] []:=⟨fun r hr=>(by cases hr),fun c hc=>(by cases hc),Nat.le_refl _⟩
def ThrQ (d:Nat) (P t R:List (List Int)):Prop:=∃K,KerP d (diffL t) K∧R=thrK d K (t.getD 0 []) P
theorem ThrQ.len {d:Nat} {P t R:List (List Int)} (h:ThrQ d P t R):R.length≤2:=by
 obtain ⟨K,_,rfl⟩:=h
 unfold thrK
 split
 ·exact thr_len _ _ _ _ _
 ·simp
theorem RwQ.snoc {d:Nat} {P pre m R:List (List Int)} {c:List Int} (h:RwQ d P pre m) (hg:Good d P) (ht:∀y∈pks P [] c,y∈P) (h1:1≤(pks P [] c).length) (hR:ThrQ d P (pks P [] c) R):RwQ d P (pre ++ [c]) (m ++ R):=by
 have hRl:=hR.len
 obtain ⟨K,hK,rfl⟩:=hR
 have hbox:Box d 30 (pks P [] c):=fun y hy=>hg.box y (ht y hy)
 have hx:(pks P [] c).getD 0 []∈P:=ht _ (by simp [show 0 < (pks P [] c).length by omega])
 refine ⟨fun r hr=>?_,fun c' hc' hf=>?_,by rw [List.length_append,List.length_append,List.length_singleton]; have:=h.len; omega⟩
 ·rcases List.mem_append.1 hr with hr | hr
  ·exact h.is r hr
  ·unfold thrK at hr
   split at hr
   ·rename_i h2
    obtain ⟨hB,_⟩:=ker_bas hbox hg.d1 hg.dm hK h2 h1
    exact wr_in hg hx ht hB hr
   ·cases hr
 ·rcases List.mem_append.1 hc' with hc' | hc'
  ·obtain ⟨u,v,hB,ha⟩:=h.all c' hc' hf
   exact ⟨u,v,hB,fun r hr=>List.mem_append.2 (Or.inl (ha r hr))⟩
  ·simp only [List.mem_singleton] at hc'
   subst hc'
   have h2:K.length=2:=by
    have:=ker_len hK
    unfold FlatOk at hf
    omega
   obtain ⟨hB,_⟩:=ker_bas hbox hg.d1 hg.dm hK h2 h1
   refine ⟨_,_,hB,fun r hr=>List.mem_append.2 (Or.inr ?_)⟩
   unfold thrK
   rw [if_pos h2]
   exact hr
theorem RwQ.mem {e:Nat} {P m:List (List Int)} (hg:Good (e+1) P) (he:1≤e) (h:RwQ (e+1) P (ext P.length e 0) m) (r:List Int):r∈m↔r∈rowsC P [] (e+1) P:=by
 refine ⟨h.is r,fun hr=>?_⟩
 obtain ⟨t,hts,htl,hfl,hall⟩:=wr_complete hg he hr
 have hx:=chz_ext P [] e 0
 rw [List.drop_zero] at hx
 have hm:t∈chz e P:=chz_mem.2 ⟨hts,htl⟩
 rw [←hx] at hm
 obtain ⟨c,hc,rfl⟩:=List.mem_map.1 hm
 obtain ⟨u,v,hB,ha⟩:=h.all c hc hfl
 exact ha r (hall u v hB)
theorem ext_lenW {P:List (List Int)} {e:Nat} (h24:P.length≤64) (h4:e≤3):(ext P.length e 0).length≤400000:=by
 have h3:(ext P.length e 0).length=(chz e P).length:=by
  have:=congrArg List.length (chz_ext P [] e 0)
  simpa using this
 rw [h3,←chs_chz]
 refine Nat.le_trans (chs_len _ _) ?_
 exact Nat.le_trans (Nat.pow_le_pow_left (show P.length+1≤65 by omega) e) (Nat.le_trans (Nat.pow_le_pow_right (by decide) h4) (by decide))
theorem thr_ok {d:Nat} {P t:List (List Int)} (hg:Good d P) (ht:∀y∈t,y∈P) (h1:1≤t.length):∀K,KerP d (diffL t) K→K.length=2→SeeOk d (K.getD 0 []) (K.getD 1 []) (t.getD 0 []) P∧offL d (K.getD 0 []) (K.getD 1 []) (t.getD 0 []) P≠[]∧1≤d:=fun K hK h2=>by
 have hbox:Box d 30 t:=fun y hy=>hg.box y (ht y hy)
 have hx:t.getD 0 []∈P:=ht _ (by simp [show 0 < t.length by omega])
 obtain ⟨hB,l1,l2,b1,b2⟩:=ker_bas hbox hg.d1 hg.dm hK h2 h1
 have hn:∀y∈P,∀z∈y,z.natAbs≤30:=fun y hy z hz=>by have:=(hg.box y hy).2 z hz; omega
 exact ⟨⟨l1,l2,(hg.box _ hx).1,by have:=hg.d4; omega,by have:=hg.n24; omega,b1,b2,hn _ hx,fun y hy=>⟨(hg.box y hy).1,hn y hy⟩⟩,off_some hg hB,hg.d1⟩
end Go.Proofs.YtdanomklbiidaaaGreatDoor

namespace Go.Proofs.YtdanomklbiidaaaGreatDoor
open Go
def notDef (o:Oper):Bool:=match o.op with
 | .defer _=>false
 | _=>true
theorem no_defer {ops:Array Oper} (h:ops.all notDef=true):∀(i:Nat) (o:Oper),ops[i]?=some o→∀c,o.op≠.defer c:=by
 intro i o ho c hc
 obtain ⟨hi,rfl⟩:=Array.getElem?_eq_some_iff.1 ho
 have:=Array.all_eq_true.1 h i hi
 unfold notDef at this
 rw [hc] at this
 cases this
def Nrm (K:Act→World→Prop):Exit→Act→World→Prop
 | .normal,a,w=>K a w
 | _,_,_=>False
theorem nrm_lets {K:Act→World→Prop} (h:LetsOut (Nrm K)):False:=by
 obtain ⟨a,w,h⟩:=h
 exact h
theorem rowsIn_rnd {P:Program} {L n:Nat} {row:String} {args:Array Value} {w:World} {R:Value→World→Prop} (h:Rows P row args w R):RowsIn (Fence.wide.inRound L) n P row args w R:=by
 intro c cs _
 obtain ⟨v,w',h1,h2⟩:=h c cs
 exact ⟨v,w',h1,stepsIn_wide.2 h2⟩
theorem wpOp_rnd {P:Program} {L n:Nat} {ops:Array Oper} {K0:Act→World→Prop} {Q:Exit→Act→World→Prop} {K K':Act→World→Prop} {i:Nat} {a:Act} {w:World} (hd:∀o,ops[i]?=some o→∀c,o.op≠.defer c)
  (hK:∀a w,K a w→K' a w) (h:wpOp P ops (Nrm K0) i K a w):wpOpIn (Fence.wide.inRound L) n P ops Q i K' a w:=by
 unfold wpOp at h
 unfold wpOpIn
 cases ho:ops[i]? with
 | none=>
  rw [ho] at h
  exact hK _ _ h
 | some o=>
  rw [ho] at h
  simp only at h ⊢
  by_cases hw:Region.wanted o (yielded ops a.tmps)=true
  ·rw [if_pos hw] at h ⊢
   rcases h with h | ⟨_,h⟩
   ·refine ⟨fun f _=>trivial,?_⟩
    have hsem:o.semAt (Fence.wide.inRound L).round a.eval=execOp a.eval o:=Oper.semAt_plain (Fence.wide.inRound L) _ _ (hd o ho)
    rw [hsem]
    unfold Oper.wp at h
    generalize (execOp a.eval o).run P w=r at *
    cases r with
    | ok nx w'=>
     cases nx with
     | value v=>exact hK _ _ h
     | skip=>exact hK _ _ h
     | defer d=>exact hK _ _ h
     | enter f args=>
      refine ⟨fun hx=>(by cases hx),?_⟩
      refine CallsIn.inRound L (callsIn_wide.2 (Calls.mono h ?_))
      intro e w'' he
      cases e with
      | returned v=>exact hK _ _ he
      | panicked c=>exact he.elim
      | outgrown=>exact (nrm_lets he).elim
     | row row args=>
      refine ⟨fun hx=>(by cases hx),rowsIn_rnd (Rows.mono h fun v w'' he=>hK _ _ he)⟩
     | _=>exact h.elim
    | halt x w'=>
     cases x <;> exact h.elim
   ·exact (nrm_lets h).elim
  ·rw [if_neg hw] at h ⊢
   exact ⟨fun f _=>trivial,hK _ _ h⟩
theorem wpAnyIn_rnd {P:Program} {L n:Nat} {md:Region.Mode} {ops:Array Oper} {S:World→Prop} {K:Act→World→Prop} {Q:Exit→Act→World→Prop} (hd:∀(i:Nat) (o:Oper),ops[i]?=some o→∀c,o.op≠.defer c) (hQ:∀a w,K a w→Q .normal a w) :
  ∀(fuel:Nat) (listed:Array Bool) (a:Act) (w:World),wpAnyH P md ops (Nrm K) S fuel listed a w→wpAnyIn (Fence.wide.inRound L) n P md ops Q fuel listed a w
 | 0,_,_,_,h=>⟨h.1,hQ _ _ h.2⟩
 | fuel+1,_,_,_,h=>⟨fun hr=>hQ _ _ (h.1 hr),fun i hi=>wpOp_rnd (hd i) (fun a' w' h'=>wpAnyIn_rnd hd hQ fuel _ a' w' h'.2) (h.2 i hi)⟩
theorem wpIn_region_rnd {P:Program} {L n id:Nat} {ops:Array Oper} (S:World→Prop) {K:Act→World→Prop} {Q:Exit→Act→World→Prop} {a:Act} {w:World} (hm:P.follows .mixedOrders=true) (hd:∀(i:Nat) (o:Oper),ops[i]?=some o→∀c,o.op≠.defer c) (hQ:∀a w,K a w→Q .normal a w)
  (hS:S w.drew) (h:S w.drew→wpAnyH P .any ops (Nrm K) S ops.size (Array.replicate ops.size false) a w.drew):(Code.region id ops true).wpIn (Fence.wide.inRound L) n P Q a w:=
 wpIn_region_any hm (wpAnyIn_rnd hd hQ _ _ _ _ (h hS))
end Go.Proofs.YtdanomklbiidaaaGreatDoor

namespace Go.Proofs.YtdanomklbiidaaaGreatDoor
open Go
theorem wpAnyH_tk {P:Program} {md:Region.Mode} {ops:Array Oper} {Q:Exit→Act→World→Prop} {S:World→Prop} {i d:Nat} {oi:Oper} {v:Value} {fuel:Nat} {listed:Array Bool} {a:Act} {w:World} (hi:ops.toList[i]?=some oi) (hd:oi.dst=some d)
  (hs:Region.noSelect ops=true) (hf:Region.free md ops listed i=true) (hr:(Region.ready md ops listed).contains i=true)
  (hQ:∀c a w,Q (.panic c) (a.put (some d) v) w→Q (.panic c) a w) (hy:YieldsIf P ops S oi v a) (hS:S w)
  (h:wpAnyH P md ops Q S fuel (listed.setIfInBounds i true) (a.put (some d) v) w):wpAnyH P md ops Q S (fuel+1) listed a w:=by
 rw [Array.getElem?_toList] at hi
 rw [←hd] at hQ h
 exact wpAnyH_take hi hs hf hr hQ hy hS h
theorem ready_tk {P:Program} {md:Region.Mode} {ops:Array Oper} {Q:Exit→Act→World→Prop} {S:World→Prop} {fuel:Nat} {listed:Array Bool} {a:Act} {w:World} {i:Nat} {o:Oper} {rs:List Nat} (ho:ops.toList[i]?=some o) (hw:Region.wanted o (yielded ops a.tmps)=true)
  (h:∀K':Act→World→Prop,Shut (∀a w,S w→(S w→wpAnyH P md ops Q S fuel (listed.setIfInBounds i true) a w)→K' a w)→Oper.wp P o a w K' Q)
  (hs:AllReadyH P md ops Q S fuel listed a w rs):AllReadyH P md ops Q S fuel listed a w (i :: rs):=by
 rw [Array.getElem?_toList] at ho
 refine AllReadyH.cons ho (fun K' hK=>?_) hs
 rw [if_pos hw]
 exact h K' hK
end Go.Proofs.YtdanomklbiidaaaGreatDoor

namespace Go.Proofs.YtdanomklbiidaaaGreatDoor
open Lin
def sm (t:List (Nat→Int)) (a:Nat→Int) (j:Nat):Int:=sumN t.length fun i=>a i*(t.getD i fun _=>0) j
end Go.Proofs.YtdanomklbiidaaaGreatDoor

namespace Go.Proofs.YtdanomklbiidaaaGreatDoor
open Lin
def sv (t:List (List Int)) (a:Nat→Int) (j:Nat):Int:=sm (t.map V) a j
end Go.Proofs.YtdanomklbiidaaaGreatDoor

namespace Go.Proofs.YtdanomklbiidaaaGreatDoor
open Go.RowKit
attribute [local go_sem ↓] Go.wp_at_zero Go.wp_at_succ
def outB (lo hi x:Int):Bool:=decide (x < lo) || decide (hi < x)
set_option maxHeartbeats 400000 in
theorem out1_any (x lo hi:Int) (w:World) (a b:Addr) (hc:w.cell? a=some (.int .i64 lo)) (hd:w.cell? b=some (.int .i64 hi)) :
  Calls Tryz.prog 80 #[.int .i64 x,.pointer (some a),.pointer (some b)] w fun e w'=>e=.returned (.bool (outB lo hi x))∧w'=w:=by
 by_cases hb:x < lo
 ·go_enter Tryz.func80,Tryz.ntmps80
  go_wp2
  go_ret
  exact ⟨ret_bool (by simp [outB,hb]),rfl⟩
 ·go_enter Tryz.func80,Tryz.ntmps80
  go_wp2
  go_ret
  exact ⟨ret_bool (by rw [outB,decide_eq_false (by omega:¬x < lo)]; rfl),rfl⟩
set_option maxHeartbeats 400000 in
theorem indexW_any (B:Nat) (lo hi:Int) (zs:List Int) (v:Value) (a b:Addr) (w:World) (hv:Sl B 3 w v (ints zs)) (hc:w.cell? a=some (.int .i64 lo)) (hd:w.cell? b=some (.int .i64 hi)) :
  Calls Tryz.prog 48 #[v,.func (.func 80) #[] #[.pointer (some a),.pointer (some b)]] w fun e w'=>e=.returned (.int .i64 (findI (outB lo hi) zs))∧w'=w:=by
 obtain ⟨ao,cap,hvv,hlc,hcm⟩:=sl_open hv
 subst hvv
 have HV:Hid (Sl B 3 w (.slice ao zs.length cap) (ints zs)):=hv
 have HIL:Hid (∀x,Calls Tryz.prog 80 #[.int .i64 x,.pointer (some a),.pointer (some b)] w fun e w'=>e=.returned (.bool (outB lo hi x))∧w'=w):=fun x=>out1_any x lo hi w a b hc hd
 clear hv hc hd
 go_enter Tryz.func48,Tryz.ntmps48
 go_wp2
 go_loop [8] (fun i=>∃k:Nat,k≤zs.length∧i=.int .i64 k∧(zs.take k).any (outB lo hi)=false) (fun i=>zs.length-(intOf i).toNat)
 case atStart=>exact ⟨0,Nat.zero_le _,rfl,by simp⟩
 case round=>
  obtain ⟨k,hk,rfl,hno⟩:=hrel
  have HN:Hid ((zs.take k).any (outB lo hi)=false):=hno
  clear hno
  by_cases hlt:k < zs.length
  ·obtain ⟨b',o,cp,hs,hc1,hcc⟩:=sl_cell HV.out hlt
   simp only [Value.slice.injEq] at hs
   obtain ⟨rfl,_,rfl⟩:=hs
   have HS1:Hid ((zs.take (k+1)).any (outB lo hi)=outB lo hi zs[k]):=any_snoc (p:=outB lo hi) hlt HN.out
   have HH:Hid (outB lo hi zs[k]=true→findI (outB lo hi) zs=k):=fun h=>findI_hit (p:=outB lo hi) hlt HN.out h
   rw [show zs.getD k 0=zs[k] by simp [hlt]] at hcc
   generalize zs[k]=x at *
   have HIX:Hid (Calls Tryz.prog 80 #[.int .i64 x,.pointer (some a),.pointer (some b)] w fun e w'=>e=.returned (.bool (outB lo hi x))∧w'=w):=HIL.out x
   generalize outB lo hi x=fb at *
   cases fb
   ·go_wp2_with (go_at_call 80; refine HIX.out.mono ?_; rintro e w' ⟨rfl,rfl⟩)
    go_round
    case rel=>exact ⟨k+1,by omega,by go_num,HS1.out⟩
    case measure=>simp [intOf]; omega
   ·have HH2:Hid (findI (outB lo hi) zs=k):=HH.out rfl
    clear HH
    go_wp2_with (go_at_call 80; refine HIX.out.mono ?_; rintro e w' ⟨rfl,rfl⟩)
    go_ret
    exact ⟨ret_int HH2.out.symm,rfl⟩
  ·have e:zs.take k=zs:=List.take_of_length_le (by omega)
   rw [e] at HN
   have HF:Hid (findI (outB lo hi) zs=-1):=findI_none HN.out
   go_wp2
   go_ret
   exact ⟨ret_int HF.out.symm,rfl⟩
set_option maxRecDepth 100000 in
theorem containsW_any (B:Nat) (lo hi:Int) (zs:List Int) (v:Value) (a b:Addr) (w:World) (hv:Sl B 3 w v (ints zs)) (hc:w.cell? a=some (.int .i64 lo)) (hd:w.cell? b=some (.int .i64 hi)) :
  Calls Tryz.prog 27 #[v,.func (.func 80) #[] #[.pointer (some a),.pointer (some b)]] w fun e w'=>e=.returned (.bool (zs.any (outB lo hi)))∧w'=w:=by
 have HII:=indexW_any B lo hi zs v a b w hv hc hd
 go_enter Tryz.func27,Tryz.ntmps27
 go_wp2_with fail
 refine HII.mono ?_
 rintro e w' ⟨rfl,rfl⟩
 go_wp2
 go_ret
 exact ⟨ret_bool findI_ge,rfl⟩
def withE (c:Nat) (lo hi:Int) (r:List Int):Int:=if r.length≠c then 3 else if r.any (outB lo hi) then 4 else 0
set_option maxRecDepth 100000 in
set_option maxHeartbeats 400000 in
theorem within_any (B:Nat) (c:Nat) (lo hi:Int) (r:List Int) (v:Value) (w:World) (hv:Sl B 3 w v (ints r)) :
  Calls Tryz.prog 52 #[v,.int .i64 c,.int .i64 lo,.int .i64 hi] w fun e w'=>e=.returned (.int .i64 (withE c lo hi r))∧Below w.heap.size w w':=by
 obtain ⟨ao,cap,hvv,hlc,hcm⟩:=sl_open hv
 subst hvv
 have HV:Hid (Sl B 3 w (.slice ao r.length cap) (ints r)):=hv
 clear hv
 by_cases hl:r.length=c
 ·have b0:((r.length:Int) != (c:Int))=false:=by rw [bne_eq_false_iff_eq]; omega
  rw [withE,if_neg (by omega)]
  clear hl
  obtain ⟨w1,hw1⟩:∃w1,w1=(w.alloc (.cells #[.int .i64 lo] 3)).alloc (.cells #[.int .i64 hi] 3):=⟨_,rfl⟩
  have HA:Hid (Calls Tryz.prog 27 #[.slice ao r.length cap,.func (.func 80) #[] #[.pointer (some ⟨w.heap.size,0,none⟩),.pointer (some ⟨w.heap.size+1,0,none⟩)]] w1 fun e w'=>e=.returned (.bool (r.any (outB lo hi)))∧w'=w1):=by
   subst hw1
   exact containsW_any B lo hi r _ _ _ _ ((HV.out.alloc _).alloc _) (by simp) (by simp)
  have HBB:Hid (Below w.heap.size w w1):=by
   subst hw1
   exact ((Below.refl _ _).alloc (Nat.le_refl _) _).alloc (by simp) _
  generalize r.any (outB lo hi)=R at *
  go_enter Tryz.func52,Tryz.ntmps52
  go_wp2_with fail
  try rw [←hw1]
  refine HA.out.mono ?_
  rintro e w' ⟨rfl,rfl⟩
  cases R
  ·go_wp2
   go_ret
   exact ⟨rfl,by have:=HBB.out; rw [hw1] at this; exact this⟩
  ·go_wp2
   go_ret
   exact ⟨rfl,by have:=HBB.out; rw [hw1] at this; exact this⟩
 ·have b0:((r.length:Int) != (c:Int))=true:=by rw [bne_iff_ne]; omega
  rw [withE,if_pos hl]
  clear hl
  go_enter Tryz.func52,Tryz.ntmps52
  go_wp2
  go_ret
  exact ⟨rfl,((Below.refl _ _).alloc (Nat.le_refl _) _).alloc (by simp) _⟩
theorem outB_far (most:Int):outB (-most) most=(farB · most):=by
 funext x
 rw [Bool.eq_iff_iff]
 simp [outB,farB,Bool.or_comm]
set_option maxRecDepth 100000 in
set_option maxHeartbeats 400000 in
theorem chkL_any (B:Nat) (c:Nat) (most:Int) (r:List Int) (v:Value) (w:World) (hv:Sl B 3 w v (ints r)) (h0:0≤most) (h1:most≤1000000) :
  Calls Tryz.prog 38 #[v,.int .i64 c,.int .i64 most] w fun e w'=>e=.returned (.int .i64 (if r.length≠c then 3 else if r.any (farB · most) then 4 else 0))∧Below w.heap.size w w':=by
 have HA:Hid (Calls Tryz.prog 52 #[v,.int .i64 c,.int .i64 (-most),.int .i64 most] w fun e w'=>e=.returned (.int .i64 (if r.length≠c then 3 else if r.any (farB · most) then 4 else 0))∧Below w.heap.size w w'):=by
  have:=within_any B c (-most) most r v w hv
  rw [withE,outB_far] at this
  exact this
 generalize (if r.length≠c then (3:Int) else if r.any (farB · most) then 4 else 0)=R at *
 go_enter Tryz.func38,Tryz.ntmps38
 go_wp2_with fail
 refine HA.out.mono ?_
 rintro e w' ⟨rfl,hb⟩
 have HB:Hid (Below w.heap.size w w'):=hb
 clear hb
 go_wp2
 go_ret
 exact ⟨rfl,HB.out⟩
end Go.Proofs.YtdanomklbiidaaaGreatDoor

namespace Go.Proofs.YtdanomklbiidaaaGreatDoor
open Go.RowKit
structure CutOk (d:Nat) (rows:List (List Int)):Prop where
 d1:1≤d
 d3:d≤3
 n12:rows.length≤12
 len:∀r∈rows,r.length=d+1
 bd:∀r∈rows,∀z∈r,z.natAbs≤20
structure CutF (d:Nat) (rows:List (List Int)):Prop where
 d1:1≤d
 d4:d≤4
 n12:rows.length≤12
 len:∀r∈rows,r.length=d+1
 bd:∀r∈rows,∀z∈r,z.natAbs≤20
end Go.Proofs.YtdanomklbiidaaaGreatDoor

namespace Go.Proofs.YtdanomklbiidaaaGreatDoor
open Go.RowKit Lin
attribute [local go_sem ↓] Go.wp_at_zero Go.wp_at_succ
theorem slice_cells {B:Nat} {e:TypeId} {w:World} {a:Addr} {n cap:Nat} {us:List Value} (h:Sl B e w (.slice (some a) n cap) us):∀j u,us[j]?=some u→w.cell? (a.add j)=some u:=by
 intro j u hj
 have hlt:j < us.length:=(List.getElem?_eq_some_iff.1 hj).1
 obtain ⟨ao,c,hv,_,_,h3,_⟩:=h
 obtain ⟨b,o,ha,hc,_⟩:=h3 j hlt
 simp only [Value.slice.injEq] at hv
 rw [←hv.1] at ha
 simp only [Option.some.injEq] at ha
 rw [ha]
 have h5:=hc.trans hj
 unfold Addr.add
 by_cases e:j=0
 ·subst e; simpa using h5
 ·simpa [e] using h5
end Go.Proofs.YtdanomklbiidaaaGreatDoor
