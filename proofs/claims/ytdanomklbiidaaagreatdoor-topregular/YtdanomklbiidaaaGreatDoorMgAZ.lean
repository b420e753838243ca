import Derived.Test.YtdanomklbiidaaaGreatDoorMgAK
import Derived.Test.YtdanomklbiidaaaGreatDoorMgAY
import Derived.Test.YtdanomklbiidaaaGreatDoorMgAS
import Derived.Test.YtdanomklbiidaaaGreatDoorMgAL
import Derived.Test.YtdanomklbiidaaaGreatDoorMgAA
namespace Go.Proofs.YtdanomklbiidaaaGreatDoor
open Go.RowKit Lin
def pt (x:List Int):Int×Int:=(V x 0,V x 1)
theorem dot2 (u v:Nat→Int):dot 2 u v=u 0*v 0+u 1*v 1:=by simp [dot,sumN]
theorem cmp2 {x y:List Int} (hx:x.length=2) (hy:y.length=2):cmpL x y < 0↔V x 0 < V y 0∨V x 0=V y 0∧V x 1 < V y 1:=by
 match x,hx,y,hy with
 | [a,b],_,[c,e],_=>
  simp only [cmpL,V,List.getD_cons_zero,List.getD_cons_succ]
  by_cases h1:a < c
  ·rw [if_pos h1]; omega
  ·rw [if_neg h1]
   by_cases h2:c < a
   ·rw [if_pos h2]; omega
   ·rw [if_neg h2]
    by_cases h3:b < e
    ·rw [if_pos h3]; omega
    ·rw [if_neg h3]
     by_cases h4:e < b
     ·rw [if_pos h4]; omega
     ·rw [if_neg h4]; omega
theorem row_gcP {d:Nat} {P:List (List Int)} {r:List Int} (hr:r∈rowsC P [] d P):gc r=1:=by
 obtain ⟨t,hts,htl,hrt⟩:=mem_rowsC.1 hr
 obtain ⟨σ,hσ,hnb,hre⟩:=rowT_form htl hrt
 rw [hre,gc_scale,gc_snoc1 (norm_gc (of_decide_eq_true hnb))]
 rcases hσ with rfl | rfl <;> rfl
theorem row_dir {C:List (List Int)} (hg:Good 2 C) {r r':List Int} (hr:r∈rowsC C [] 2 C) (hr':r'∈rowsC C [] 2 C) {k k':Int} (hk:0 < k) (hk':0 < k') (h0:k'*V r 0=k*V r' 0) (h1:k'*V r 1=k*V r' 1):r=r':=by
 have hf:=rowsC_fit hg.box hg.d1 (by decide) (fun _=>Iff.rfl) hr
 have hf':=rowsC_fit hg.box hg.d1 (by decide) (fun _=>Iff.rfl) hr'
 have hbox:∀y∈C,y.length=2:=fun y hy=>(hg.box y hy).1
 obtain ⟨t,ht,ht0,⟨i,hi,hi0⟩,_⟩:=row_one hbox (by decide) hr
 obtain ⟨t',ht',ht0',_,_⟩:=row_one hbox (by decide) hr'
 obtain ⟨m1,e1⟩:=ht _ ht0
 obtain ⟨m2,e2⟩:=ht' _ ht0'
 have g1:=hf'.all _ m1
 have g2:=hf.all _ m2
 rw [dot2] at e1 e2 g1 g2
 have p1:=Int.mul_le_mul_of_nonneg_left g1 (Int.le_of_lt hk)
 have p2:=Int.mul_le_mul_of_nonneg_left g2 (Int.le_of_lt hk')
 have h2:k'*V r 2=k*V r' 2:=by
  have q1:k'*V r 2=k*(V r' 0*V (t.getD 0 []) 0+V r' 1*V (t.getD 0 []) 1):=by
   show k'*r.getD 2 0=_
   rw [e1]
   grind
  have q2:k*V r' 2=k'*(V r 0*V (t'.getD 0 []) 0+V r 1*V (t'.getD 0 []) 1):=by
   show k*r'.getD 2 0=_
   rw [e2]
   grind
  have w1:k*r'.getD 2 0=k*V r' 2:=rfl
  have w2:k'*r.getD 2 0=k'*V r 2:=rfl
  omega
 have hmap:r.map (k' * ·)=r'.map (k * ·):=by
  have e3:∀x:List Int,x.length=3→x=[V x 0,V x 1,V x 2]:=fun x hx=>by
   match x,hx with
   | [a,b,c],_=>rfl
  rw [e3 r hf.len,e3 r' hf'.len]
  simp only [List.map_cons,List.map_nil]
  rw [h0,h1,h2]
 rcases prim_eq (row_gcP hr) (row_gcP hr') (by omega) (by omega) hmap with e | e
 ·exact e
 ·exfalso
  have hV:V r i=- V r' i:=by
   rw [e]
   simp only [V,List.getD_eq_getElem?_getD,List.getElem?_map]
   cases r'[i]? <;> simp
  have hkk:k'*V r i=k*V r' i:=by
   have:i=0∨i=1:=by omega
   rcases this with rfl | rfl
   ·exact h0
   ·exact h1
  rw [hV] at hkk
  have:(k'+k)*V r' i=0:=by grind
  rcases Int.mul_eq_zero.1 this with q | q
  ·omega
  ·exact hi0 (by rw [hV,q]; rfl)
section
variable {P s C:List (List Int)}
theorem SrC.rc (h:SrC 2 P s C) (r:List Int):r∈s↔r∈rowsC C [] 2 C:=by
 rw [h.rows r,mem_rowsD]
 exact (rows_corners h.good h.rows (fun _ hx=>corner_rank h.good (fun _=>Iff.rfl) h.rows hx) h.crns h.casc.nodup r).symm
theorem SrC.onl (h:SrC 2 P s C) {r:List Int} (hr:r∈s) {y:List Int} : y∈endL C r↔y∈C∧V r 0*V y 0+V r 1*V y 1=r.getD 2 0:=by
 have hgC:=h.cgood
 have hf:=rowsC_fit hgC.box hgC.d1 (by decide) (fun _=>Iff.rfl) ((h.rc r).1 hr)
 unfold endL
 rw [List.mem_filter,decide_eq_true_eq]
 refine and_congr_right fun hy=>?_
 rw [over_zero hf.len (hgC.box y hy).1,dot2]
 exact eq_comm
theorem SrC.mid (h:SrC 2 P s C) {x p q:List Int} (hx:x∈C) (hp:p∈C) (hq:q∈C) {k l:Int} (hk:0 < k) (hl:0 < l) (h0:(k+l)*V x 0=k*V p 0+l*V q 0) (h1:(k+l)*V x 1=k*V p 1+l*V q 1):p=x:=by
 have hgC:=h.cgood
 refine Classical.byContradiction fun hne=>?_
 have hxP:=h.sub hx
 have hfull:=(corner_rank h.good (fun _=>Iff.rfl) h.rows hxP).1 (by
  have:=(List.mem_filter.1 ((h.crns x).1 hx)).2
  simpa using this)
 obtain ⟨r,hr,e1,e2⟩:=(corner_iff h.good (fun _=>Iff.rfl) hxP).2 hfull p (h.sub hp) hne
 have hf:=rowsC_fit h.good.box h.good.d1 (by decide) (fun _=>Iff.rfl) hr
 have g1:=hf.all p (h.sub hp)
 have g2:=hf.all q (h.sub hq)
 rw [dot2] at e1 e2 g1 g2
 have p1:=Int.mul_lt_mul_of_pos_left (show V r 0*V p 0+V r 1*V p 1 < r.getD 2 0 by omega) hk
 have p2:=Int.mul_le_mul_of_nonneg_left g2 (Int.le_of_lt hl)
 have e3:(k+l)*r.getD 2 0=k*(V r 0*V p 0+V r 1*V p 1)+l*(V r 0*V q 0+V r 1*V q 1):=by
  rw [e1]
  grind
 rw [Int.add_mul] at e3
 omega
theorem SrC.two (h:SrC 2 P s C) {r:List Int} (hr:r∈s):∃p q,endL C r=[p,q]∧(p∈C∧V r 0*V p 0+V r 1*V p 1=r.getD 2 0)∧(q∈C∧V r 0*V q 0+V r 1*V q 1=r.getD 2 0)∧cmpL p q < 0:=by
 have hgC:=h.cgood
 have h2:=h.ends hr
 have hasc:SAsc (endL C r):=h.casc.sublist List.filter_sublist
 have hm:∀y,y∈endL C r↔y∈C∧V r 0*V y 0+V r 1*V y 1=r.getD 2 0:=fun y=>h.onl hr
 obtain ⟨_,_,_,⟨i,hi,hi0⟩,_⟩:=row_one (fun y hy=>(hgC.box y hy).1) (by decide) ((h.rc r).1 hr)
 cases hE:endL C r with
 | nil=>rw [hE] at h2; simp at h2
 | cons p E=>
  cases E with
  | nil=>rw [hE] at h2; simp at h2
  | cons q E=>
   cases E with
   | nil=>
    rw [hE] at hasc hm
    exact ⟨p,q,rfl,(hm p).1 (by simp),(hm q).1 (by simp),(List.pairwise_cons.1 hasc).1 q (by simp)⟩
   | cons t E=>
    exfalso
    rw [hE] at hasc hm
    have a1:=(List.pairwise_cons.1 hasc).1 q (by simp)
    have a2:=(List.pairwise_cons.1 (List.pairwise_cons.1 hasc).2).1 t (by simp)
    obtain ⟨cp,ep⟩:=(hm p).1 (by simp)
    obtain ⟨cq,eq⟩:=(hm q).1 (by simp)
    obtain ⟨ct,et⟩:=(hm t).1 (by simp)
    have b1:=(cmp2 (hgC.box p cp).1 (hgC.box q cq).1).1 a1
    have b2:=(cmp2 (hgC.box q cq).1 (hgC.box t ct).1).1 a2
    have hpq:p≠q:=fun e=>by rw [e] at a1; exact absurd a1 (cmpL_asym a1)
    by_cases hb:V r 1=0
    ·-- upright
     have ha:V r 0≠0:=fun e=>hi0 (by
      have:i=0∨i=1:=by omega
      rcases this with rfl | rfl
      ·exact e
      ·exact hb)
     rw [hb] at ep eq et
     have x1:V p 0=V q 0:=Int.eq_of_mul_eq_mul_left ha (by omega)
     have x2:V q 0=V t 0:=Int.eq_of_mul_eq_mul_left ha (by omega)
     refine hpq (h.mid cq cp ct (k:=V t 1-V q 1) (l:=V q 1-V p 1) (by omega) (by omega) ?_ ?_)
     ·rw [x1,←x2]; grind
     ·grind
    ·have y1:V p 0 < V q 0:=by
      rcases b1 with b1 | ⟨b1,b1'⟩
      ·exact b1
      ·exfalso
       rw [b1] at ep
       have:=Int.eq_of_mul_eq_mul_left hb (show V r 1*V p 1=V r 1*V q 1 by omega)
       omega
     have y2:V q 0 < V t 0:=by
      rcases b2 with b2 | ⟨b2,b2'⟩
      ·exact b2
      ·exfalso
       rw [b2] at eq
       have:=Int.eq_of_mul_eq_mul_left hb (show V r 1*V q 1=V r 1*V t 1 by omega)
       omega
     refine hpq (h.mid cq cp ct (k:=V t 0-V q 0) (l:=V q 0-V p 0) (by omega) (by omega) (by grind) ?_)
     refine Int.eq_of_mul_eq_mul_left hb ?_
     have z1:V r 1*V p 1=r.getD 2 0-V r 0*V p 0:=by omega
     have z2:V r 1*V q 1=r.getD 2 0-V r 0*V q 0:=by omega
     have z3:V r 1*V t 1=r.getD 2 0-V r 0*V t 0:=by omega
     have w1:V r 1*((V t 0-V q 0+(V q 0-V p 0))*V q 1)=(V t 0-V p 0)*(V r 1*V q 1):=by grind
     have w2:V r 1*((V t 0-V q 0)*V p 1+(V q 0-V p 0)*V t 1)=(V t 0-V q 0)*(V r 1*V p 1)+(V q 0-V p 0)*(V r 1*V t 1):=by grind
     rw [w1,w2,z1,z2,z3]
     grind
def ep (C:List (List Int)) (i:Nat) (r:List Int):List Int:=(endL C r).getD i []
theorem SrC.pol (h:SrC 2 P s C):Pick.Pol (C.map pt) s (fun r=>V r 0) (fun r=>V r 1) (fun r=>r.getD 2 0) (fun r=>V (ep C 0 r) 0) (fun r=>V (ep C 0 r) 1) (fun r=>V (ep C 1 r) 0) (fun r=>V (ep C 1 r) 1):=by
 have hgC:=h.cgood
 have hlen:∀y∈C,y.length=2:=fun y hy=>(hgC.box y hy).1
 have hends:∀r∈s,(ep C 0 r∈C∧V r 0*V (ep C 0 r) 0+V r 1*V (ep C 0 r) 1=r.getD 2 0)∧(ep C 1 r∈C∧V r 0*V (ep C 1 r) 0+V r 1*V (ep C 1 r) 1=r.getD 2 0)∧cmpL (ep C 0 r) (ep C 1 r) < 0∧∀y∈C,V r 0*V y 0+V r 1*V y 1=r.getD 2 0→y=ep C 0 r∨y=ep C 1 r:=fun r hr=>by
  obtain ⟨p,q,hE,hp,hq,hlt⟩:=h.two hr
  have e0:ep C 0 r=p:=by unfold ep; rw [hE]; rfl
  have e1:ep C 1 r=q:=by unfold ep; rw [hE]; rfl
  rw [e0,e1]
  refine ⟨hp,hq,hlt,fun y hy he=>?_⟩
  have:=(h.onl hr).2 ⟨hy,he⟩
  rw [hE] at this
  simpa using this
 refine ⟨h.asc.nodup,fun r hr r' hr' hpar hpos=>?_,fun r hr r' hr' hb hb' hpos=>?_,fun r hr hz=>?_,fun r hr z hz=>?_,fun r hr=>List.mem_map.2 ⟨_,(hends r hr).1.1,rfl⟩,fun r hr=>List.mem_map.2 ⟨_,(hends r hr).2.1.1,rfl⟩,fun r hr=>(hends r hr).1.2,fun r hr=>(hends r hr).2.1.2,fun r hr=>?_,fun r hr z hz he=>?_,fun α β z hz w hw hne hmax heq h0=>?_,fun α β hall=>?_⟩
 ·rcases Int.lt_trichotomy (V r 1) 0 with q | q | q
  ·have q':V r' 1 < 0:=Int.not_le.1 fun k=>by
    have:=Int.mul_nonneg (show 0≤-V r 1 by omega) k
    rw [Int.neg_mul] at this
    omega
   exact row_dir hgC ((h.rc r).1 hr) ((h.rc r').1 hr') (k:=-V r 1) (k':=-V r' 1) (by omega) (by omega) (by grind) (by grind)
  ·rw [q] at hpos; omega
  ·have q':0 < V r' 1:=Int.not_le.1 fun k=>by
    have:=Int.mul_nonneg (show 0≤V r 1 by omega) (show 0≤-V r' 1 by omega)
    rw [Int.mul_neg] at this
    omega
   exact row_dir hgC ((h.rc r).1 hr) ((h.rc r').1 hr') (k:=V r 1) (k':=V r' 1) q q' (by grind) (by grind)
 ·rcases Int.lt_trichotomy (V r 0) 0 with q | q | q
  ·have q':V r' 0 < 0:=Int.not_le.1 fun k=>by
    have:=Int.mul_nonneg (show 0≤-V r 0 by omega) k
    rw [Int.neg_mul] at this
    omega
   exact row_dir hgC ((h.rc r).1 hr) ((h.rc r').1 hr') (k:=-V r 0) (k':=-V r' 0) (by omega) (by omega) (by grind) (by rw [hb,hb']; grind)
  ·rw [q] at hpos; omega
  ·have q':0 < V r' 0:=Int.not_le.1 fun k=>by
    have:=Int.mul_nonneg (show 0≤V r 0 by omega) (show 0≤-V r' 0 by omega)
    rw [Int.mul_neg] at this
    omega
   exact row_dir hgC ((h.rc r).1 hr) ((h.rc r').1 hr') (k:=V r 0) (k':=V r' 0) q q' (by grind) (by rw [hb,hb']; grind)
 ·obtain ⟨_,_,_,⟨i,hi,hi0⟩,_⟩:=row_one hlen (by decide) ((h.rc r).1 hr)
  have:i=0∨i=1:=by omega
  rcases this with rfl | rfl
  ·exact hi0 hz.1
  ·exact hi0 hz.2
 ·obtain ⟨y,hy,rfl⟩:=List.mem_map.1 hz
  have hf:=rowsC_fit hgC.box hgC.d1 (by decide) (fun _=>Iff.rfl) ((h.rc r).1 hr)
  have:=hf.all y hy
  rw [dot2] at this
  exact this
 ·obtain ⟨h1,h2,h3,_⟩:=hends r hr
  exact (cmp2 (hlen _ h1.1) (hlen _ h2.1)).1 h3
 ·obtain ⟨y,hy,rfl⟩:=List.mem_map.1 hz
  obtain ⟨h1,h2,h3,h4⟩:=hends r hr
  have h5:=(cmp2 (hlen _ h1.1) (hlen _ h2.1)).1 h3
  simp only [pt]
  rcases h4 y hy he with e | e
  ·rw [e]; omega
  ·rw [e]; omega
 ·obtain ⟨x,hx,rfl⟩:=List.mem_map.1 hz
  obtain ⟨y,hy,rfl⟩:=List.mem_map.1 hw
  have hv:∀v∈C,α*V v 0+β*V v 1≤α*V x 0+β*V x 1:=fun v hv=>hmax (pt v) (List.mem_map.2 ⟨v,hv,rfl⟩)
  obtain ⟨c,hc⟩:∃c:Nat→Int,c=fun i=>if i=0 then α else β:=⟨_,rfl⟩
  have c0:c 0=α:=by rw [hc]; rfl
  have c1:c 1=β:=by rw [hc]; rfl
  have hdc:∀v:List Int,dot 2 c (V v)=α*V v 0+β*V v 1:=fun v=>by rw [dot2,c0,c1]
  have hxy:V x 0≠V y 0∨V x 1≠V y 1:=by
   refine Classical.byContradiction fun q=>hne ?_
   unfold pt
   rw [Prod.mk.injEq]
   omega
  obtain ⟨r,hr,hrx,k,l,hk,hl,hkl⟩:=side_some (P:=C) (x:=x) (c:=c) hgC.box (good_span hgC) hx (by
   by_cases q:α=0
   ·exact ⟨1,by decide,by rw [c1]; exact fun e=>h0 ⟨q,e⟩⟩
   ·exact ⟨0,by decide,by rw [c0]; exact q⟩) (fun v hvC=>by rw [hdc,hdc]; exact hv v hvC) (fun u hu=>by
   have e1:=hu y hy (by rw [hdc,hdc]; exact heq)
   rw [dot2,dot2] at e1
   have heq':α*V y 0+β*V y 1=α*V x 0+β*V x 1:=heq
   have f1:(V y 0-V x 0)*(u 0*β-u 1*α)=0:=by grind
   have f2:(V y 1-V x 1)*(u 0*β-u 1*α)=0:=by grind
   have f3:u 0*β=u 1*α:=by
    rcases Int.mul_eq_zero.1 f1 with q | q
    ·rcases Int.mul_eq_zero.1 f2 with q2 | q2
     ·exfalso; omega
     ·omega
    ·omega
   intro i j hi hj
   have hi':i=0∨i=1:=by omega
   have hj':j=0∨j=1:=by omega
   rcases hi' with rfl | rfl <;> rcases hj' with rfl | rfl
   ·rfl
   ·rw [c0,c1]; exact f3
   ·rw [c0,c1]; exact f3.symm
   ·rfl)
  have k0:=hkl 0 (by decide)
  have k1:=hkl 1 (by decide)
  rw [c0] at k0
  rw [c1] at k1
  refine ⟨r,(h.rc r).2 hr,?_,?_,?_⟩
  ·have e:l*(V r 0*β-α*V r 1)=0:=by grind
   rcases Int.mul_eq_zero.1 e with q | q
   ·omega
   ·omega
  ·have e:l*(V r 0*α+V r 1*β)=k*(α*α+β*β):=by grind
   have p0:0 < α*α+β*β:=by
    have sq:∀z:Int,0≤z*z:=fun z=>by
     rcases Int.le_total 0 z with q | q
     ·exact Int.mul_nonneg q q
     ·exact Int.mul_nonneg_of_nonpos_of_nonpos q q
    have sp:∀z:Int,z≠0→0 < z*z:=fun z hz=>by
     rcases Int.lt_or_gt_of_ne hz with q | q
     ·exact Int.mul_pos_of_neg_of_neg q q
     ·exact Int.mul_pos q q
    by_cases q:α=0
    ·have:=sp β fun e=>h0 ⟨q,e⟩
     have:=sq α
     omega
    ·have:=sp α q
     have:=sq β
     omega
   have p1:=Int.mul_pos hk p0
   rw [←e] at p1
   exact Int.not_le.1 fun q=>by
    have:=Int.mul_le_mul_of_nonneg_left q (Int.le_of_lt hl)
    rw [Int.mul_zero] at this
    omega
  ·rw [dot2] at hrx
   exact hrx.symm
 ·obtain ⟨c,hc⟩:∃c:Nat→Int,c=fun i=>if i=0 then α else β:=⟨_,rfl⟩
  have c0:c 0=α:=by rw [hc]; rfl
  have c1:c 1=β:=by rw [hc]; rfl
  have:=good_span hgC c fun y hy z hz=>by
   rw [dot2,dot2,c0,c1]
   exact hall (pt y) (List.mem_map.2 ⟨y,hy,rfl⟩) (pt z) (List.mem_map.2 ⟨z,hz,rfl⟩)
  have q0:=this 0 (by decide)
  have q1:=this 1 (by decide)
  rw [c0] at q0
  rw [c1] at q1
  exact ⟨q0,q1⟩
end
end Go.Proofs.YtdanomklbiidaaaGreatDoor

namespace Go.Proofs.YtdanomklbiidaaaGreatDoor
open Go.RowKit Lin
section
variable {P s C:List (List Int)}
theorem SrC.btwP (h:SrC 2 P s C) {r:List Int} (hr:r∈s) {y:List Int} (hy:y∈P) (he:V r 0*V y 0+V r 1*V y 1=r.getD 2 0) :
  (V (ep C 0 r) 0 < V y 0∨V (ep C 0 r) 0=V y 0∧V (ep C 0 r) 1≤V y 1)∧(V y 0 < V (ep C 1 r) 0∨V y 0=V (ep C 1 r) 0∧V y 1≤V (ep C 1 r) 1):=by
 have hgC:=h.cgood
 have hf:=rowsC_fit h.good.box h.good.d1 (by decide) (fun _=>Iff.rfl) ((mem_rowsD).1 ((h.rows r).1 hr))
 obtain ⟨p,q,hE,hp,hq,hlt⟩:=h.two hr
 have e0:ep C 0 r=p:=by unfold ep; rw [hE]; rfl
 have e1:ep C 1 r=q:=by unfold ep; rw [hE]; rfl
 have hlt':=(cmp2 (hgC.box _ hp.1).1 (hgC.box _ hq.1).1).1 hlt
 have bd:∀z∈P,∀i,i < 2→-100≤V z i∧V z i≤100:=fun z hz i hi=>by
  have:=(h.good.box z hz).2 (V z i) (getD_mem (by rw [(h.good.box z hz).1]; exact hi))
  omega
 have hall:∀z∈P,V r 0*V z 0+V r 1*V z 1≤r.getD 2 0:=fun z hz=>by
  have:=hf.all z hz
  rw [dot2] at this
  exact this
 rw [e0,e1]
 have key:∀τ:Int,(τ=1∨τ=-1)→∃z,(z=p∨z=q)∧τ*(1000*V y 0+V y 1)≤τ*(1000*V z 0+V z 1):=fun τ hτ=>by
  obtain ⟨z,hz,hm⟩:=corner_max h.good h.rows (fun _ hx=>corner_rank h.good (fun _=>Iff.rfl) h.rows hx) (fun i=>if i=0 then 10000000*V r 0+τ*1000 else 10000000*V r 1+τ)
  have hzC:=(h.crns z).2 hz
  have hzP:=h.sub hzC
  have a:=hm y hy
  rw [dot2,dot2] at a
  simp only [if_true,Nat.one_ne_zero,if_false] at a
  have k1:(10000000*V r 0+τ*1000)*V y 0+(10000000*V r 1+τ)*V y 1=10000000*(V r 0*V y 0+V r 1*V y 1)+τ*(1000*V y 0+V y 1):=by grind
  have k2:(10000000*V r 0+τ*1000)*V z 0+(10000000*V r 1+τ)*V z 1=10000000*(V r 0*V z 0+V r 1*V z 1)+τ*(1000*V z 0+V z 1):=by grind
  rw [k1,k2,he] at a
  have b0:=bd y hy 0 (by decide)
  have b1:=bd y hy 1 (by decide)
  have b2:=bd z hzP 0 (by decide)
  have b3:=bd z hzP 1 (by decide)
  have hz1:=hall z hzP
  have hz2:V r 0*V z 0+V r 1*V z 1=r.getD 2 0:=by
   rcases hτ with rfl | rfl <;> omega
  refine ⟨z,?_,by rw [hz2] at a; omega⟩
  have:=(h.onl hr).2 ⟨hzC,hz2⟩
  rw [hE] at this
  simpa using this
 have b0:=bd y hy 0 (by decide)
 have b1:=bd y hy 1 (by decide)
 have p0:=bd p (h.sub hp.1) 0 (by decide)
 have p1:=bd p (h.sub hp.1) 1 (by decide)
 have q0:=bd q (h.sub hq.1) 0 (by decide)
 have q1:=bd q (h.sub hq.1) 1 (by decide)
 obtain ⟨z,hz,kz⟩:=key 1 (.inl rfl)
 obtain ⟨w,hw,kw⟩:=key (-1) (.inr rfl)
 constructor
 ·rcases hw with rfl | rfl <;> omega
 ·rcases hz with rfl | rfl <;> omega
theorem SrC.polP (h:SrC 2 P s C):Pick.Pol (P.map pt) s (fun r=>V r 0) (fun r=>V r 1) (fun r=>r.getD 2 0) (fun r=>V (ep C 0 r) 0) (fun r=>V (ep C 0 r) 1) (fun r=>V (ep C 1 r) 0) (fun r=>V (ep C 1 r) 1):=by
 have hp:=h.pol
 have up:∀z,z∈C.map pt→z∈P.map pt:=fun z hz=>by
  obtain ⟨y,hy,rfl⟩:=List.mem_map.1 hz
  exact List.mem_map.2 ⟨y,h.sub hy,rfl⟩
 refine ⟨hp.nd,hp.injb,hp.inja,hp.nz,fun r hr z hz=>?_,fun r hr=>up _ (hp.pin r hr),fun r hr=>up _ (hp.qin r hr),hp.pon,hp.qon,hp.lex,fun r hr z hz he=>?_,fun α β z hz w hw hne hmax heq h0=>?_,fun α β hall=>hp.full α β fun v hv w hw=>hall v (up v hv) w (up w hw)⟩
 ·obtain ⟨y,hy,rfl⟩:=List.mem_map.1 hz
  have hf:=rowsC_fit h.good.box h.good.d1 (by decide) (fun _=>Iff.rfl) ((mem_rowsD).1 ((h.rows r).1 hr))
  have:=hf.all y hy
  rw [dot2] at this
  exact this
 ·obtain ⟨y,hy,rfl⟩:=List.mem_map.1 hz
  exact h.btwP hr hy he
 ·-- two points of a side: two corners of it
  obtain ⟨x,hx,rfl⟩:=List.mem_map.1 hz
  obtain ⟨y,hy,rfl⟩:=List.mem_map.1 hw
  have hv:∀v∈P,α*V v 0+β*V v 1≤α*V x 0+β*V x 1:=fun v hv=>hmax (pt v) (List.mem_map.2 ⟨v,hv,rfl⟩)
  obtain ⟨c,hc⟩:∃c:Nat→Int,c=fun i=>if i=0 then α else β:=⟨_,rfl⟩
  have c0:c 0=α:=by rw [hc]; rfl
  have c1:c 1=β:=by rw [hc]; rfl
  have hdc:∀v:List Int,dot 2 c (V v)=α*V v 0+β*V v 1:=fun v=>by rw [dot2,c0,c1]
  have hxy:V x 0≠V y 0∨V x 1≠V y 1:=by
   refine Classical.byContradiction fun q=>hne ?_
   unfold pt
   rw [Prod.mk.injEq]
   omega
  have heq':α*V y 0+β*V y 1=α*V x 0+β*V x 1:=heq
  obtain ⟨r,hr,hrx,k,l,hk,hl,hkl⟩:=side_some (P:=P) (x:=x) (c:=c) h.good.box (good_span h.good) hx (by
   by_cases q:α=0
   ·exact ⟨1,by decide,by rw [c1]; exact fun e=>h0 ⟨q,e⟩⟩
   ·exact ⟨0,by decide,by rw [c0]; exact q⟩) (fun v hvC=>by rw [hdc,hdc]; exact hv v hvC) (fun u hu=>by
   have e1:=hu y hy (by rw [hdc,hdc]; exact heq')
   rw [dot2,dot2] at e1
   have f1:(V y 0-V x 0)*(u 0*β-u 1*α)=0:=by grind
   have f2:(V y 1-V x 1)*(u 0*β-u 1*α)=0:=by grind
   have f3:u 0*β=u 1*α:=by
    rcases Int.mul_eq_zero.1 f1 with q | q
    ·rcases Int.mul_eq_zero.1 f2 with q2 | q2
     ·exfalso; omega
     ·omega
    ·omega
   intro i j hi hj
   have hi':i=0∨i=1:=by omega
   have hj':j=0∨j=1:=by omega
   rcases hi' with rfl | rfl <;> rcases hj' with rfl | rfl
   ·rfl
   ·rw [c0,c1]; exact f3
   ·rw [c0,c1]; exact f3.symm
   ·rfl)
  have hrs:r∈s:=(h.rows r).2 (mem_rowsD.2 hr)
  have k0:=hkl 0 (by decide)
  have k1:=hkl 1 (by decide)
  rw [c0] at k0
  rw [c1] at k1
  rw [dot2] at hrx
  -- the row of the points,as the corners tell it
  refine ⟨r,hrs,?_,?_,hrx.symm⟩
  ·have e:l*(V r 0*β-α*V r 1)=0:=by grind
   rcases Int.mul_eq_zero.1 e with q | q
   ·omega
   ·omega
  ·have e:l*(V r 0*α+V r 1*β)=k*(α*α+β*β):=by grind
   have p0:0 < α*α+β*β:=by
    have sq:∀z:Int,0≤z*z:=fun z=>by
     rcases Int.le_total 0 z with q | q
     ·exact Int.mul_nonneg q q
     ·exact Int.mul_nonneg_of_nonpos_of_nonpos q q
    have sp:∀z:Int,z≠0→0 < z*z:=fun z hz=>by
     rcases Int.lt_or_gt_of_ne hz with q | q
     ·exact Int.mul_pos_of_neg_of_neg q q
     ·exact Int.mul_pos q q
    by_cases q:α=0
    ·have:=sp β fun e=>h0 ⟨q,e⟩
     have:=sq α
     omega
    ·have:=sp α q
     have:=sq β
     omega
   have p1:=Int.mul_pos hk p0
   rw [←e] at p1
   exact Int.not_le.1 fun q=>by
    have:=Int.mul_le_mul_of_nonneg_left q (Int.le_of_lt hl)
    rw [Int.mul_zero] at this
    omega
end
end Go.Proofs.YtdanomklbiidaaaGreatDoor

namespace Go.Proofs.YtdanomklbiidaaaGreatDoor
def loT (P:List (List Int)) (c j:Nat):Int:=(P.take j).foldl (fun a x=>min a (x.getD c 0)) ((P.getD 0 []).getD c 0)
def hiT (P:List (List Int)) (c j:Nat):Int:=(P.take j).foldl (fun a x=>max a (x.getD c 0)) ((P.getD 0 []).getD c 0)
theorem loT_succ (P:List (List Int)) (c j:Nat) (h:j < P.length):loT P c (j+1)=min (loT P c j) ((P.getD j []).getD c 0):=by
 unfold loT
 have e:P.getD j []=P[j]:=by simp [h]
 rw [List.take_succ_eq_append_getElem h,List.foldl_append,e]
 rfl
theorem hiT_succ (P:List (List Int)) (c j:Nat) (h:j < P.length):hiT P c (j+1)=max (hiT P c j) ((P.getD j []).getD c 0):=by
 unfold hiT
 have e:P.getD j []=P[j]:=by simp [h]
 rw [List.take_succ_eq_append_getElem h,List.foldl_append,e]
 rfl
end Go.Proofs.YtdanomklbiidaaaGreatDoor

namespace Go.Proofs.YtdanomklbiidaaaGreatDoor
open Go.RowKit Lin
theorem sort_put (q:List Int):∀s:List (List Int),SAsc s→∃t,SAsc t∧∀r,r∈t↔r=q∨r∈s
 | [],_=>⟨[q],by simp [SAsc],fun r=>by simp⟩
 | a :: s,h=>by
  have h':=List.pairwise_cons.1 h
  by_cases h1:cmpL q a < 0
  ·refine ⟨q :: a :: s,List.pairwise_cons.2 ⟨fun r hr=>?_,h⟩,fun r=>by simp⟩
   rcases List.mem_cons.1 hr with rfl | hr
   ·exact h1
   ·exact cmpL_trans _ _ _ h1 (h'.1 r hr)
  ·by_cases h2:cmpL a q < 0
   ·obtain ⟨t,ht,hm⟩:=sort_put q s h'.2
    refine ⟨a :: t,List.pairwise_cons.2 ⟨fun r hr=>?_,ht⟩,fun r=>?_⟩
    ·rcases (hm r).1 hr with rfl | hr
     ·exact h2
     ·exact h'.1 r hr
    ·simp only [List.mem_cons,hm r]
     constructor
     ·rintro (e | e | e)
      ·exact Or.inr (Or.inl e)
      ·exact Or.inl e
      ·exact Or.inr (Or.inr e)
     ·rintro (e | e | e)
      ·exact Or.inr (Or.inl e)
      ·exact Or.inl e
      ·exact Or.inr (Or.inr e)
   ·have e:=cmpL_eq q a h1 h2
    subst e
    exact ⟨q :: s,h,fun r=>by simp⟩
theorem sort_of:∀L:List (List Int),∃s,SAsc s∧∀r,r∈s↔r∈L
 | []=>⟨[],by simp [SAsc],fun r=>Iff.rfl⟩
 | q :: L=>by
  obtain ⟨s,h1,h2⟩:=sort_of L
  obtain ⟨t,h3,h4⟩:=sort_put q s h1
  exact ⟨t,h3,fun r=>by rw [h4 r,h2 r,List.mem_cons]⟩
theorem det2 (a b c e:Int):detL [[a,b],[c,e]]=a*e-b*c:=by
 have h:∀u v:Nat→Int,od 2 [u,v] (fun _=>false)=u 0*v 1-u 1*v 0:=fun u v=>by
  simp [od,sumN,sg,ins]
  grind
 unfold detL fm
 show od 2 [_,_] _=_
 rw [h]
 simp
theorem sub2 {x y:List Int} (hx:x.length=2):subL x y=[V x 0-V y 0,V x 1-V y 1]:=by
 match x,hx with
 | [a,b],_=>rfl
theorem lo_le (P:List (List Int)) (c:Nat):∀j,j≤P.length→∀i,i < j→loT P c j≤(P.getD i []).getD c 0∧(P.getD i []).getD c 0≤hiT P c j
 | 0,_,i,hi=>absurd hi (by omega)
 | j+1,hj,i,hi=>by
  rw [loT_succ P c j (by omega),hiT_succ P c j (by omega)]
  by_cases h:i=j
  ·subst h; omega
  ·have:=lo_le P c j (by omega) i (by omega)
   omega
theorem lo_at {P:List (List Int)} (c:Nat) (h1:1≤P.length):∀j,j≤P.length→(∃i,i < P.length∧loT P c j=(P.getD i []).getD c 0)∧∃i,i < P.length∧hiT P c j=(P.getD i []).getD c 0
 | 0,_=>⟨⟨0,by omega,rfl⟩,⟨0,by omega,rfl⟩⟩
 | j+1,hj=>by
  obtain ⟨⟨i,hi,e⟩,k,hk,f⟩:=lo_at c h1 j (by omega)
  rw [loT_succ P c j (by omega),hiT_succ P c j (by omega)]
  constructor
  ·by_cases q:loT P c j≤(P.getD j []).getD c 0
   ·exact ⟨i,hi,by omega⟩
   ·exact ⟨j,by omega,by omega⟩
  ·by_cases q:(P.getD j []).getD c 0≤hiT P c j
   ·exact ⟨k,hk,by omega⟩
   ·exact ⟨j,by omega,by omega⟩
section
variable {P s C:List (List Int)}
theorem inPB {y:List Int} (hy:y∈P) (c:Nat):loT P c P.length≤V y c∧V y c≤hiT P c P.length:=by
 obtain ⟨i,hi,rfl⟩:=List.mem_iff_getElem.1 hy
 have:=lo_le P c P.length (Nat.le_refl _) i hi
 simp only [List.getD_eq_getElem?_getD,List.getElem?_eq_getElem hi,Option.getD_some] at this
 simp only [V,List.getD_eq_getElem?_getD]
 exact this
theorem SrC.bx (h:SrC 2 P s C):Pick.Bx (C.map pt) (loT P 0 P.length) (hiT P 0 P.length-loT P 0 P.length).toNat (loT P 1 P.length) (hiT P 1 P.length-loT P 1 P.length+1).toNat∧1≤(hiT P 0 P.length-loT P 0 P.length).toNat:=by
 have hgC:=h.cgood
 have h2:=h.good.n2
 have hPn:∀c i,i < P.length→loT P c P.length≤(P.getD i []).getD c 0∧(P.getD i []).getD c 0≤hiT P c P.length:=fun c i hi=>lo_le P c P.length (Nat.le_refl _) i hi
 have hlh:∀c,loT P c P.length≤hiT P c P.length:=fun c=>by have:=hPn c 0 (by omega); omega
 have hmx:∀c:Nat→Int,∃x∈C,∀y∈P,dot 2 c (V y)≤dot 2 c (V x):=fun c=>by
  obtain ⟨x,hx,hm⟩:=corner_max h.good h.rows (fun _ hx=>corner_rank h.good (fun _=>Iff.rfl) h.rows hx) c
  exact ⟨x,(h.crns x).2 hx,hm⟩
 have hge:∀i,i < P.length→P.getD i []∈P:=fun i hi=>by simp [hi]
 obtain ⟨⟨i0,hi0,e0⟩,i1,hi1,e1⟩:=lo_at (P:=P) 0 (by omega) P.length (Nat.le_refl _)
 obtain ⟨x0,hx0,m0⟩:=hmx fun i=>if i=0 then -1 else 0
 obtain ⟨x1,hx1,m1⟩:=hmx fun i=>if i=0 then 1 else 0
 have f0:V x0 0=loT P 0 P.length:=by
  have a:=m0 _ (hge i0 hi0)
  rw [dot2,dot2] at a
  have b:=(inPB (h.sub hx0) 0).1
  have c:V (P.getD i0 []) 0=loT P 0 P.length:=e0.symm
  rw [c] at a
  simp only [if_true,Nat.one_ne_zero,if_false] at a
  omega
 have f1:V x1 0=hiT P 0 P.length:=by
  have a:=m1 _ (hge i1 hi1)
  rw [dot2,dot2] at a
  have b:=(inPB (h.sub hx1) 0).2
  have c:V (P.getD i1 []) 0=hiT P 0 P.length:=e1.symm
  rw [c] at a
  simp only [if_true,Nat.one_ne_zero,if_false] at a
  omega
 have hlh0:=hlh 0
 have hlh1:=hlh 1
 have hN:1≤(hiT P 0 P.length-loT P 0 P.length).toNat:=by
  refine Classical.byContradiction fun q=>?_
  have:=good_span hgC (fun i=>if i=0 then 1 else 0) (fun y hy z hz=>by
   have a:=inPB (h.sub hy) 0
   have b:=inPB (h.sub hz) 0
   rw [dot2,dot2]
   simp only [if_true,Nat.one_ne_zero,if_false]
   omega) 0 (by decide)
  simp at this
 refine ⟨⟨fun z hz=>?_,fun z hz=>?_,⟨pt x0,List.mem_map.2 ⟨x0,hx0,rfl⟩,f0⟩,⟨pt x1,List.mem_map.2 ⟨x1,hx1,rfl⟩,?_⟩⟩,hN⟩
 ·obtain ⟨y,hy,rfl⟩:=List.mem_map.1 hz
  have:=inPB (h.sub hy) 1
  simp only [pt]
  omega
 ·obtain ⟨y,hy,rfl⟩:=List.mem_map.1 hz
  have:=inPB (h.sub hy) 0
  simp only [pt]
  omega
 ·simp only [pt,f1]
  omega
theorem SrC.left (h:SrC 2 P s C):C.getD 0 []∈C∧V (C.getD 0 []) 0=loT P 0 P.length:=by
 have hgC:=h.cgood
 have h2:=hgC.n2
 obtain ⟨z,hz,e⟩:=h.bx.1.l
 obtain ⟨y,hy,rfl⟩:=List.mem_map.1 hz
 have hasc:=h.casc
 cases hC:C with
 | nil=>rw [hC] at h2; simp at h2
 | cons a C'=>
  rw [hC] at hy hasc
  have ha:a∈C:=by rw [hC]; simp
  refine ⟨by simp,?_⟩
  show V a 0=_
  have b:=(inPB (h.sub ha) 0).1
  rcases List.mem_cons.1 hy with rfl | hy'
  ·exact e
  ·have lt:=(List.pairwise_cons.1 hasc).1 y hy'
   have hyC:y∈C:=by rw [hC]; simp [hy']
   have:=(cmp2 (hgC.box a ha).1 (hgC.box y hyC).1).1 lt
   have e':V y 0=loT P 0 P.length:=e
   omega
theorem SrC.epC (h:SrC 2 P s C) {r:List Int} (hr:r∈s):ep C 0 r∈C∧ep C 1 r∈C∧cmpL (ep C 0 r) (ep C 1 r) < 0:=by
 obtain ⟨p,q,hE,hp,hq,hlt⟩:=h.two hr
 have e0:ep C 0 r=p:=by unfold ep; rw [hE]; rfl
 have e1:ep C 1 r=q:=by unfold ep; rw [hE]; rfl
 rw [e0,e1]
 exact ⟨hp.1,hq.1,hlt⟩
theorem SrC.triR (h:SrC 2 P s C) {r:List Int} (hr:r∈s):arR C r=Pick.tri (fun r=>V (ep C 0 r) 0) (fun r=>V (ep C 0 r) 1) (fun r=>V (ep C 1 r) 0) (fun r=>V (ep C 1 r) 1) (pt (C.getD 0 [])) r:=by
 have hgC:=h.cgood
 obtain ⟨h0,h1,_⟩:=h.epC hr
 have e:diffL [C.getD 0 [],(endL C r).getD 0 [],(endL C r).getD 1 []]=[subL (ep C 0 r) (C.getD 0 []),subL (ep C 1 r) (C.getD 0 [])]:=rfl
 unfold arR
 rw [e,sub2 (hgC.box _ h0).1,sub2 (hgC.box _ h1).1,det2]
 rfl
end
end Go.Proofs.YtdanomklbiidaaaGreatDoor
