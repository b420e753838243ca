import Derived.Test.YtcoeneldaohpnaaGreatMgAU
import Derived.Test.YtcoeneldaohpnaaGreatRun12
import Derived.Test.YtcoeneldaohpnaaGreatMgAI
namespace Go.Proofs.YtcoeneldaohpnaaGreat
open Lin
def KerP (d:Nat) (D K:List (List Int)):Prop:=∃M' C k sgn,Red (mOf D) D.length d M' C k sgn∧K=(freesT k C d).map (kvec M' C d k)
theorem fr_mem {k:Nat} {C:Nat→Nat} {q f:Nat} : f∈freesT k C q↔f < q∧∀a,a < k→C a≠f:=by
 unfold freesT
 rw [List.mem_filter,List.mem_range]
 refine and_congr_right fun _=>?_
 constructor
 ·intro h a ha e
  rw [pivot_has.2 ⟨a,ha,e⟩] at h
  cases h
 ·intro h
  cases hc:((List.range k).map fun b=>(C b:Int)).contains (f:Int) with
  | false=>rfl
  | true=>
   obtain ⟨a,ha,e⟩:=pivot_has.1 hc
   exact absurd e (h a ha)
theorem fr_two {k d:Nat} {C:Nat→Nat} (h:(freesT k C d).length=2) :
  ∃f g,freesT k C d=[f,g]∧f≠g∧f < d∧g < d∧(∀a,a < k→C a≠f)∧(∀a,a < k→C a≠g)∧∀j,j < d→j=f∨j=g∨∃a,a < k∧C a=j:=by
 have hn:(freesT k C d).Nodup:=by unfold freesT; exact List.nodup_range.filter _
 match hl:freesT k C d,h with
 | [f,g],_=>
  have hf:=fr_mem.1 (show f∈freesT k C d by rw [hl]; simp)
  have hg:=fr_mem.1 (show g∈freesT k C d by rw [hl]; simp)
  rw [hl] at hn
  refine ⟨f,g,rfl,by simpa using hn,hf.1,hg.1,hf.2,hg.2,fun j hj=>?_⟩
  by_cases hp:∃a,a < k∧C a=j
  ·exact Or.inr (Or.inr hp)
  ·have hm:j∈freesT k C d:=fr_mem.2 ⟨hj,fun a ha e=>hp ⟨a,ha,e⟩⟩
   rw [hl] at hm
   simp at hm
   rcases hm with e | e
   ·exact Or.inl e
   ·exact Or.inr (Or.inl e)
structure Nf (M:Nat→Nat→Int) (d k:Nat) (C:Nat→Nat) (f:Nat) (N:Nat→Int):Prop where
 fd:f < d
 off:∀a,a < k→C a≠f
 atf:N f=dk M C k
 atC:∀a,a < k→N (C a)=- rr M C k a f
 els:∀j,j≠f→(∀a,a < k→C a≠j)→N j=0
theorem nf_nv {M:Nat→Nat→Int} {d k f:Nat} {C:Nat→Nat} (hr:Rising k d C) (hf:f < d) (hoff:∀a,a < k→C a≠f):Nf M d k C f (nv (dk M C k) f (fun a=>rr M C k a f) C k):=
 ⟨hf,hoff,by rw [nv_off hoff,if_pos rfl],fun a ha=>nv_at ha hr.1,fun j hj hp=>by rw [nv_off hp,if_neg hj]⟩
theorem nf_orth {M:Nat→Nat→Int} {n d k f:Nat} {C:Nat→Nat} {N:Nat→Int} (h:Done M n d k C) (hN:Nf M d k C f N) {i:Nat} (hi:i < n):sumN d (fun j=>M i j*N j)=0:=by
 have hr:∀a,a < k→sumN d (fun j=>rr M C k a j*N j)=0:=by
  intro a ha
  have e:∀j,j < d→rr M C k a j*N j=(if j=C a then dk M C k*(- rr M C k a f) else 0)+(if j=f then rr M C k a f*dk M C k else 0):=by
   intro j hj
   by_cases hjf:j=f
   ·subst hjf
    have hne:j≠C a:=fun e=>hN.off a ha e.symm
    simp [hne,hN.atf]
   ·by_cases hp:∃b,b < k∧C b=j
    ·obtain ⟨b,hb,rfl⟩:=hp
     rw [rr_pivot h.nz h.rise.1 ha hb,hN.atC b hb]
     by_cases hab:a=b
     ·subst hab; simp [hjf]
     ·have:C b≠C a:=by
       rcases Nat.lt_or_gt_of_ne hab with h' | h'
       ·have:=h.rise.1 a b h' hb; omega
       ·have:=h.rise.1 b a h' ha; omega
      simp [hab,hjf,this]
    ·rw [hN.els j hjf (fun a ha e=>hp ⟨a,ha,e⟩)]
     have hne:j≠C a:=fun e=>hp ⟨a,ha,e.symm⟩
     simp [hjf,hne]
  rw [sumN_congr e,sumN_add,sumN_one (k:=C a) (h.rise.2 a ha) (fun i _ hne=>by simp [hne]),sumN_one (k:=f) hN.fd (fun i _ hne=>by simp [hne])]
  rw [if_pos rfl,if_pos rfl]
  grind
 have h4:dk M C k*sumN d (fun j=>M i j*N j)=0:=by
  rw [←sumN_mul,sumN_congr (g:=fun j=>sumN k (fun a=>M i (C a)*(rr M C k a j*N j))) (fun j hj=>by
   rw [←Int.mul_assoc,done_rows h hi hj]; unfold comb; rw [←sumN_mul_right]; exact sumN_congr fun a _=>by rw [Int.mul_assoc])]
  rw [sumN_swap]
  exact sumN_zero fun a ha=>by rw [sumN_mul,hr a ha,Int.mul_zero]
 rcases Int.mul_eq_zero.1 h4 with h5 | h5
 ·exact absurd h5 h.nz
 ·exact h5
theorem nf_span {M:Nat→Nat→Int} {n d k f g:Nat} {C:Nat→Nat} {N Q y:Nat→Int} (h:Done M n d k C) (hN:Nf M d k C f N) (hQ:Nf M d k C g Q) (hfg:f≠g) (hall:∀j,j < d→j=f∨j=g∨∃a,a < k∧C a=j)
  (hy:∀i,i < n→sumN d (fun j=>M i j*y j)=0) {j:Nat} (hj:j < d):dk M C k*y j=y f*N j+y g*Q j:=by
 have hr:∀a,a < k→sumN d (fun j=>rr M C k a j*y j)=0:=by
  intro a ha
  obtain ⟨e,l,he,h1⟩:=rr_made h.nz ha
  have h2:e*sumN d (fun j=>rr M C k a j*y j)=0:=by
   rw [←sumN_mul,sumN_congr (g:=fun j=>sumN k (fun i=>l i*(M i j*y j))) (fun j hj=>by
    rw [←Int.mul_assoc,h1 j]; unfold comb; rw [←sumN_mul_right]; exact sumN_congr fun i _=>by rw [Int.mul_assoc])]
   rw [sumN_swap]
   exact sumN_zero fun i hi=>by rw [sumN_mul,hy i (by have:=h.kn; omega),Int.mul_zero]
  rcases Int.mul_eq_zero.1 h2 with h3 | h3
  ·exact absurd h3 he
  ·exact h3
 rcases hall j hj with rfl | rfl | ⟨a,ha,rfl⟩
 ·rw [hN.atf,hQ.els j hfg hN.off]; grind
 ·rw [hQ.atf,hN.els j (fun e=>hfg e.symm) hQ.off]; grind
 ·have h1:=hr a ha
  have h2:sumN d (fun j=>rr M C k a j*y j)=dk M C k*y (C a)+(rr M C k a f*y f+rr M C k a g*y g):=by
   have e:∀j,j < d→rr M C k a j*y j=(if j=C a then dk M C k*y (C a) else 0)+((if j=f then rr M C k a f*y f else 0)+(if j=g then rr M C k a g*y g else 0)):=by
    intro j hj
    rcases hall j hj with rfl | rfl | ⟨b,hb,rfl⟩
    ·have hne:j≠C a:=fun e=>hN.off a ha e.symm
     simp [hne,hfg]
    ·have hne:j≠C a:=fun e=>hQ.off a ha e.symm
     have hgf:j≠f:=fun e=>hfg e.symm
     simp [hne,hgf]
    ·rw [rr_pivot h.nz h.rise.1 ha hb]
     have hnf:=hN.off b hb
     have hng:=hQ.off b hb
     by_cases hab:a=b
     ·subst hab; simp [hnf,hng]
     ·have:C b≠C a:=by
       rcases Nat.lt_or_gt_of_ne hab with h' | h'
       ·have:=h.rise.1 a b h' hb; omega
       ·have:=h.rise.1 b a h' ha; omega
      simp [hab,hnf,hng,this]
   rw [sumN_congr e,sumN_add,sumN_add,sumN_one (k:=C a) (h.rise.2 a ha) (fun i _ hne=>by simp [hne]),sumN_one (k:=f) hN.fd (fun i _ hne=>by simp [hne]),sumN_one (k:=g) hQ.fd (fun i _ hne=>by simp [hne])]
   simp
  rw [hN.atC a ha,hQ.atC a ha]
  rw [h1] at h2
  grind
theorem d1_eqK (M:Nat→Nat→Int) (C:Nat→Nat):dk M C 1=M 0 (C 0):=by
 simp [dk,cols,srows,od,sumN,sg,List.range,List.range.loop]
theorem d2_eqK (M:Nat→Nat→Int) (C:Nat→Nat):dk M C 2=M 0 (C 0)*M 1 (C 1)-M 0 (C 1)*M 1 (C 0):=by
 simp [dk,cols,srows,od,sumN,sg,ins,List.range,List.range.loop]
 grind
theorem mul_absB {a b:Int} {B:Nat} (h1:a.natAbs≤B) (h2:b.natAbs≤B):(a*b).natAbs≤B*B:=by
 rw [Int.natAbs_mul]; exact Nat.mul_le_mul h1 h2
theorem rr_two {M:Nat→Nat→Int} {n d k f a B:Nat} {C:Nat→Nat} (h:Done M n d k C) (hk:k≤2) (hf:f < d) (ha:a < k) (hb:∀i,i < n→∀j,j < d→(M i j).natAbs≤B):(rr M C k a f).natAbs≤(if k=1 then B else 2*(B*B)):=by
 have hkn:=h.kn
 have hC:=h.rise.2
 have hnz:=h.nz
 have hrow:∀i,i < k→dk M C k*M i f=comb k (fun a=>M i (C a)) (rr M C k) f:=fun i hi=>done_rows h (by omega) hf
 rcases (show k=1∨k=2 by omega) with rfl | rfl
 ·have h0:=hrow 0 (by omega)
  rw [d1_eqK] at h0 hnz
  simp only [comb,sumN,Int.zero_add] at h0
  have:a=0:=by omega
  subst this
  have e:=Int.eq_of_mul_eq_mul_left hnz h0
  rw [←e,if_pos rfl]; exact hb 0 (by omega) f hf
 ·have h0:=hrow 0 (by omega)
  have h1:=hrow 1 (by omega)
  have hd:=d2_eqK M C
  simp only [comb,sumN,Int.zero_add] at h0 h1
  have b00:=hb 0 (by omega) (C 0) (hC 0 (by omega))
  have b01:=hb 0 (by omega) (C 1) (hC 1 (by omega))
  have b10:=hb 1 (by omega) (C 0) (hC 0 (by omega))
  have b11:=hb 1 (by omega) (C 1) (hC 1 (by omega))
  have b0f:=hb 0 (by omega) f hf
  have b1f:=hb 1 (by omega) f hf
  generalize dk M C 2=D at *
  generalize M 0 (C 0)=m00 at *
  generalize M 0 (C 1)=m01 at *
  generalize M 1 (C 0)=m10 at *
  generalize M 1 (C 1)=m11 at *
  generalize M 0 f=m0f at *
  generalize M 1 f=m1f at *
  have key:∀{x y:Int},D*x=D*y→x=y:=fun e=>Int.eq_of_mul_eq_mul_left hnz e
  rcases (show a=0∨a=1 by omega) with rfl | rfl
  ·have e:rr M C 2 0 f=m11*m0f-m01*m1f:=key (by rw [hd] at h0 h1 ⊢; grind)
   have q1:=mul_absB b11 b0f
   have q2:=mul_absB b01 b1f
   rw [e,if_neg (by decide)]; omega
  ·have e:rr M C 2 1 f=m00*m1f-m10*m0f:=key (by rw [hd] at h0 h1 ⊢; grind)
   have q1:=mul_absB b00 b1f
   have q2:=mul_absB b10 b0f
   rw [e,if_neg (by decide)]; omega
theorem ker_len {d:Nat} {D K:List (List Int)} (h:KerP d D K):K.length+(pickL d D).length=d:=by
 obtain ⟨M',C,k,sgn,hr,rfl⟩:=h
 rw [List.length_map,←red_rank hr]
 exact freesT_len hr.done.rise
theorem kv_at {M':Nat→Nat→Int} {C:Nat→Nat} {d k f j:Nat} (hj:j < d):∃G:Int,G=(gc ((List.range d).map (nv (dk M' C k) f (fun a=>rr M' C k a f) C k)):Int)∧G*V (kvec M' C d k f) j=nv (dk M' C k) f (fun a=>rr M' C k a f) C k j:=by
 refine ⟨_,rfl,?_⟩
 unfold V kvec
 rw [low_atW]
 simp [hj]
theorem ker_bas {d:Nat} {t K:List (List Int)} (hbox:Box d 100 t) (hd1:1≤d) (hd4:d≤3) (hK:KerP d (diffL t) K) (h2:K.length=2) (h1:1≤t.length) :
  Bas d t (t.getD 0 []) (K.getD 0 []) (K.getD 1 [])∧(K.getD 0 []).length=d∧(K.getD 1 []).length=d∧(∀z∈K.getD 0 [],z.natAbs≤10000)∧∀z∈K.getD 1 [],z.natAbs≤10000:=by
 have hx:=diff_mx hbox hd1 (by omega)
 have hlk:=ker_len hK
 obtain ⟨M',C,k,sgn,hr,rfl⟩:=hK
 have hkk:=red_rank hr
 have hk2:k≤1:=by omega
 rw [List.length_map] at h2
 obtain ⟨f,g,hfg,hne,hfd,hgd,hof,hog,hall⟩:=fr_two h2
 have hF:=nf_nv (M:=M') hr.done.rise hfd hof
 have hG:=nf_nv (M:=M') hr.done.rise hgd hog
 rw [hfg]
 have e0:([f,g].map (kvec M' C d k)).getD 0 []=kvec M' C d k f:=rfl
 have e1:([f,g].map (kvec M' C d k)).getD 1 []=kvec M' C d k g:=rfl
 rw [e0,e1]
 have hent:=red_entry hx hr
 have hdkb:(dk M' C k).natAbs≤200:=by
  have h5:fb 200 1=200:=by decide
  have m1:fb 200 k≤fb 200 1:=fb_mono (by decide) hk2
  have hb:=dk_bd (B:=200) (k:=k) (M:=M') (C:=C) (fun i hi b hb=>hent i (by have:=hr.done.kn; omega) _ (hr.done.rise.2 b hb))
  omega
 have hbd:∀q,q < d→∀z∈kvec M' C d k q,z.natAbs≤10000:=fun q hq=>by
  unfold kvec
  refine low_bd fun z hz=>?_
  obtain ⟨j,_,rfl⟩:=List.mem_map.1 hz
  exact nv_bd (by omega) fun a ha=>by have:=rr_two hr.done (by omega) hq ha hent; split at this <;> omega
 -- orthogonal to all differences
 have horth:∀{N:Nat→Int},(∀i,i < (diffL t).length→sumN d (fun j=>M' i j*N j)=0)↔∀y∈t,dot d N (V y)=dot d N (V (t.getD 0 [])):=fun {N}=>by
  have hrow:∀i,i < (diffL t).length→sumN d (fun j=>mOf (diffL t) i j*N j)=dot d N (V (t.getD (i+1) []))-dot d N (V (t.getD 0 [])):=fun i hi=>by
   have hi':i+1 < t.length:=by rw [diffL_length] at hi; omega
   have hm:t.getD (i+1) []∈t:=by simp [hi']
   rw [←dot_subL N (hbox _ hm).1]
   unfold dot
   refine sumN_congr fun j _=>?_
   have:mOf (diffL t) i j=V (subL (t.getD (i+1) []) (t.getD 0 [])) j:=by
    unfold mOf V
    congr 1
    unfold diffL
    rw [List.getD_eq_getElem?_getD,List.getElem?_map,List.getElem?_drop,Nat.add_comm 1 i]
    simp [hi']
   rw [this,Int.mul_comm]
  constructor
  ·intro h y hy
   obtain ⟨i,hi,rfl⟩:=List.mem_iff_getElem.1 hy
   cases i with
   | zero=>simp [hi]
   | succ i=>
    have hi2:i < (diffL t).length:=by rw [diffL_length]; omega
    obtain ⟨i',hi',he⟩:=hr.sup i hi2
    have h3:=hrow i hi2
    rw [he,h i' hi'] at h3
    have:t.getD (i+1) []=t[i+1]:=by simp [hi]
    rw [←this]
    omega
  ·intro h i hi
   obtain ⟨i',hi',he⟩:=hr.sub i hi
   rw [he,hrow i' hi']
   have hi2:i'+1 < t.length:=by rw [diffL_length] at hi'; omega
   have hm:t.getD (i'+1) []∈t:=by simp [hi2]
   rw [h _ hm]
   omega
 obtain ⟨N,hNe⟩:∃N,N=nv (dk M' C k) f (fun a=>rr M' C k a f) C k:=⟨_,rfl⟩
 obtain ⟨Q,hQe⟩:∃Q,Q=nv (dk M' C k) g (fun a=>rr M' C k a g) C k:=⟨_,rfl⟩
 obtain ⟨Gf,hGf⟩:∃Gf:Int,Gf=(gc ((List.range d).map N):Int):=⟨_,rfl⟩
 obtain ⟨Gg,hGg⟩:∃Gg:Int,Gg=(gc ((List.range d).map Q):Int):=⟨_,rfl⟩
 have hu:∀j,j < d→Gf*V (kvec M' C d k f) j=N j:=fun j hj=>by
  obtain ⟨G,e,h⟩:=kv_at (M':=M') (C:=C) (k:=k) (f:=f) hj
  rw [hGf,hNe,←e]; exact h
 have hv:∀j,j < d→Gg*V (kvec M' C d k g) j=Q j:=fun j hj=>by
  obtain ⟨G,e,h⟩:=kv_at (M':=M') (C:=C) (k:=k) (f:=g) hj
  rw [hGg,hQe,←e]; exact h
 rw [←hNe] at hF
 rw [←hQe] at hG
 have hGf0:Gf≠0:=fun e=>by
  have:=hu f hfd
  rw [e,Int.zero_mul,hF.atf] at this
  exact hr.done.nz this.symm
 have hGg0:Gg≠0:=fun e=>by
  have:=hv g hgd
  rw [e,Int.zero_mul,hG.atf] at this
  exact hr.done.nz this.symm
 have hdotu:∀y,Gf*dot d (V (kvec M' C d k f)) y=dot d N y:=fun y=>by
  unfold dot; rw [←sumN_mul]; exact sumN_congr fun j hj=>by rw [←Int.mul_assoc,hu j hj]
 have hdotv:∀y,Gg*dot d (V (kvec M' C d k g)) y=dot d Q y:=fun y=>by
  unfold dot; rw [←sumN_mul]; exact sumN_congr fun j hj=>by rw [←Int.mul_assoc,hv j hj]
 refine ⟨⟨fun y hy=>?_,fun y hy=>?_,fun a b hab=>?_,fun w hw=>?_⟩,by unfold kvec; simp [low_len],by unfold kvec; simp [low_len],hbd f hfd,hbd g hgd⟩
 ·refine Int.eq_of_mul_eq_mul_left hGf0 ?_
  rw [hdotu,hdotu]
  exact (horth.1 fun i hi=>nf_orth hr.done hF hi) y hy
 ·refine Int.eq_of_mul_eq_mul_left hGg0 ?_
  rw [hdotv,hdotv]
  exact (horth.1 fun i hi=>nf_orth hr.done hG hi) y hy
 ·have hvf:V (kvec M' C d k g) f=0:=by
   have:=hv f hfd
   rw [hG.els f hne hof] at this
   rcases Int.mul_eq_zero.1 this with h | h
   ·exact absurd h hGg0
   ·exact h
  have hug:V (kvec M' C d k f) g=0:=by
   have:=hu g hgd
   rw [hF.els g (fun e=>hne e.symm) hog] at this
   rcases Int.mul_eq_zero.1 this with h | h
   ·exact absurd h hGf0
   ·exact h
  have huf:V (kvec M' C d k f) f≠0:=fun e=>by
   have:=hu f hfd
   rw [e,Int.mul_zero,hF.atf] at this
   exact hr.done.nz this.symm
  have hvg:V (kvec M' C d k g) g≠0:=fun e=>by
   have:=hv g hgd
   rw [e,Int.mul_zero,hG.atf] at this
   exact hr.done.nz this.symm
  have p1:=hab f hfd
  have p2:=hab g hgd
  rw [hvf,Int.mul_zero,Int.add_zero] at p1
  rw [hug,Int.mul_zero,Int.zero_add] at p2
  exact ⟨(Int.mul_eq_zero.1 p1).resolve_right huf,(Int.mul_eq_zero.1 p2).resolve_right hvg⟩
 ·have hs:=fun j (hj:j < d)=>nf_span hr.done hF hG hne hall (y:=w) (horth.2 hw) hj
  refine ⟨dk M' C k,w f*Gf,w g*Gg,hr.done.nz,fun i hi=>?_⟩
  rw [hs i hi,←hu i hi,←hv i hi]
  grind
theorem off_some {d:Nat} {P t:List (List Int)} (hg:Good d P) {x u v:List Int} (hB:Bas d t x u v):offL d u v x P≠[]:=fun e=>by
 have hz:∀y∈P,senP d u v x y=(0,0):=fun y hy=>Classical.byContradiction fun hn=>by
  have:=off_mem.2 ⟨y,hy,rfl,hn⟩
  rw [e] at this
  cases this
 have h0:=good_span hg (V u) (fun y hy z hz'=>by
  have h1:=congrArg Prod.fst (hz y hy)
  have h2:=congrArg Prod.fst (hz z hz')
  simp only [senP] at h1 h2
  omega)
 have:=(hB.ind 1 0 fun i hi=>by rw [h0 i hi]; simp).1
 omega
end Go.Proofs.YtcoeneldaohpnaaGreat
