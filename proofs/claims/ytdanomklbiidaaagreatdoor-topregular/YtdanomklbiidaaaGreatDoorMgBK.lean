import Derived.Test.YtdanomklbiidaaaGreatDoorMgAZ
import Derived.Test.YtdanomklbiidaaaGreatDoorMgBB
import Derived.Test.YtdanomklbiidaaaGreatDoorMgBJ
import Derived.Test.YtdanomklbiidaaaGreatDoorMgBH
import Derived.Test.YtdanomklbiidaaaGreatDoorMgBI
namespace Go.Proofs.YtdanomklbiidaaaGreatDoor
open Go.RowKit Lin
section
variable {P s C:List (List Int)}
theorem SrC.same2 (h:SrC 2 P s C) {r r' p q:List Int} (hr:r∈s) (hr':r'∈s) (hne:V p 0≠V q 0∨V p 1≠V q 1) (e1:V r 0*V p 0+V r 1*V p 1=r.getD 2 0) (e2:V r 0*V q 0+V r 1*V q 1=r.getD 2 0) (f1:V r' 0*V p 0+V r' 1*V p 1=r'.getD 2 0) (f2:V r' 0*V q 0+V r' 1*V q 1=r'.getD 2 0):r=r':=by
 have hgC:=h.cgood
 have hpol:=h.pol
 have nz:=hpol.nz r hr
 have nz':=hpol.nz r' hr'
 have hf:=rowsC_fit hgC.box hgC.d1 (by decide) (fun _=>Iff.rfl) ((h.rc r).1 hr)
 have hf':=rowsC_fit hgC.box hgC.d1 (by decide) (fun _=>Iff.rfl) ((h.rc r').1 hr')
 have hex:∃y∈C,V r 0*V y 0+V r 1*V y 1 < r.getD 2 0:=by
  refine Classical.byContradiction fun hno=>nz ?_
  have hall:∀y∈C,V r 0*V y 0+V r 1*V y 1=r.getD 2 0:=fun y hy=>by
   have:=hf.all y hy
   rw [dot2] at this
   exact Int.le_antisymm this (Int.not_lt.1 fun q=>hno ⟨y,hy,q⟩)
  have:=good_span hgC (V r) fun y hy z hz=>by rw [dot2,dot2,hall y hy,hall z hz]
  exact ⟨this 0 (by decide),this 1 (by decide)⟩
 obtain ⟨y,hy,hlt⟩:=hex
 have g:=hf'.all y hy
 rw [dot2] at g
 obtain ⟨ρ,hρ⟩:∃ρ,ρ=r.getD 2 0-(V r 0*V y 0+V r 1*V y 1):=⟨_,rfl⟩
 obtain ⟨ρ',hρ'⟩:∃ρ',ρ'=r'.getD 2 0-(V r' 0*V y 0+V r' 1*V y 1):=⟨_,rfl⟩
 obtain ⟨w0,hw0⟩:∃w0,w0=V q 0-V p 0:=⟨_,rfl⟩
 obtain ⟨w1,hw1⟩:∃w1,w1=V q 1-V p 1:=⟨_,rfl⟩
 obtain ⟨δ,hδ⟩:∃δ,δ=w0*(V y 1-V p 1)-w1*(V y 0-V p 0):=⟨_,rfl⟩
 have a1:w0*ρ=-(V r 1*δ):=by grind
 have a2:w1*ρ=V r 0*δ:=by grind
 have b1:w0*ρ'=-(V r' 1*δ):=by grind
 have b2:w1*ρ'=V r' 0*δ:=by grind
 have hδ0:δ≠0:=fun e=>by
  rw [e] at a1 a2
  rcases Int.mul_eq_zero.1 (show w0*ρ=0 by omega) with k | k
  ·rcases Int.mul_eq_zero.1 (show w1*ρ=0 by omega) with k2 | k2
   ·omega
   ·omega
  ·omega
 have hpos':0 < ρ':=by
  refine Classical.byContradiction fun q=>?_
  have z:ρ'=0:=by omega
  rw [z] at b1 b2
  refine nz' ⟨?_,?_⟩
  ·rcases Int.mul_eq_zero.1 (show V r' 0*δ=0 by omega) with k | k
   ·exact k
   ·exact absurd k hδ0
  ·rcases Int.mul_eq_zero.1 (show V r' 1*δ=0 by omega) with k | k
   ·exact k
   ·exact absurd k hδ0
 refine row_dir hgC ((h.rc r).1 hr) ((h.rc r').1 hr') (k:=ρ) (k':=ρ') (by omega) hpos' ?_ ?_
 ·exact Int.eq_of_mul_eq_mul_right hδ0 (by grind)
 ·exact Int.eq_of_mul_eq_mul_right hδ0 (by grind)
def clR (C:List (List Int)) (r:List Int):List Int:=[0,((C.idxOf (ep C 0 r):Nat):Int),((C.idxOf (ep C 1 r):Nat):Int)]
theorem idx_get {y:List Int} (hy:y∈C):C.idxOf y < C.length∧C.getD (C.idxOf y) []=y:=by
 have h1:=List.idxOf_lt_length_of_mem hy
 refine ⟨h1,?_⟩
 rw [List.getD_eq_getElem?_getD,List.getElem?_eq_getElem h1,Option.getD_some]
 exact List.getElem_idxOf h1
theorem SrC.idx_lt (h:SrC 2 P s C) {r:List Int} (hr:r∈s):C.idxOf (ep C 0 r) < C.idxOf (ep C 1 r):=by
 obtain ⟨h0,h1,hlt⟩:=h.epC hr
 obtain ⟨i1,e1⟩:=idx_get h0
 obtain ⟨i2,e2⟩:=idx_get h1
 refine Nat.lt_of_not_le fun q=>?_
 rcases Nat.eq_or_lt_of_le q with q | q
 ·rw [←q,e2] at e1
  rw [e1] at hlt
  exact absurd hlt (cmpL_asym hlt)
 ·have:=List.pairwise_iff_getElem.1 h.casc _ _ i2 i1 q
  rw [List.getD_eq_getElem?_getD,List.getElem?_eq_getElem i1,Option.getD_some] at e1
  rw [List.getD_eq_getElem?_getD,List.getElem?_eq_getElem i2,Option.getD_some] at e2
  rw [e1,e2] at this
  exact absurd hlt (cmpL_asym this)
theorem SrC.amtR (h:SrC 2 P s C) {r:List Int} (hr:r∈s):amt C (clR C r)=arR C r:=by
 obtain ⟨h0,h1,_⟩:=h.epC hr
 have e0:=(idx_get h0).2
 have e1:=(idx_get h1).2
 have:pks C [] (clR C r)=[C.getD 0 [],(endL C r).getD 0 [],(endL C r).getD 1 []]:=by
  show [C.getD 0 [],C.getD (C.idxOf (ep C 0 r)) [],C.getD (C.idxOf (ep C 1 r)) []]=_
  rw [e0,e1]
  rfl
 unfold amt arR
 rw [this]
theorem SrC.flat (h:SrC 2 P s C) {r:List Int} (hr:r∈s) (h0:C.idxOf (ep C 0 r)=0):arR C r=0:=by
 obtain ⟨k0,k1,_⟩:=h.epC hr
 have e:=(idx_get k0).2
 rw [h0] at e
 rw [h.triR hr]
 unfold Pick.tri pt
 rw [e]
 simp
theorem SrC.clR_inj (h:SrC 2 P s C) {r r':List Int} (hr:r∈s) (hr':r'∈s) (e:clR C r=clR C r'):r=r':=by
 unfold clR at e
 simp only [List.cons.injEq,and_true,true_and] at e
 obtain ⟨h0,h1,hlt⟩:=h.epC hr
 obtain ⟨h0',h1',_⟩:=h.epC hr'
 have e0:ep C 0 r=ep C 0 r':=by rw [←(idx_get h0).2,←(idx_get h0').2,show C.idxOf (ep C 0 r)=C.idxOf (ep C 0 r') by omega]
 have e1:ep C 1 r=ep C 1 r':=by rw [←(idx_get h1).2,←(idx_get h1').2,show C.idxOf (ep C 1 r)=C.idxOf (ep C 1 r') by omega]
 have hpol:=h.pol
 have c1:=hpol.pon r hr
 have c2:=hpol.qon r hr
 have c3:=hpol.pon r' hr'
 have c4:=hpol.qon r' hr'
 rw [←e0] at c3
 rw [←e1] at c4
 have hgC:=h.cgood
 have:=(cmp2 (hgC.box _ h0).1 (hgC.box _ h1).1).1 hlt
 exact h.same2 hr hr' (q:=ep C 1 r) (by omega) c1 c2 c3 c4
theorem sum_filt {α:Type} (f:α→Int) (p:α→Bool):∀l:List α,(∀a∈l,p a=false→f a=0)→((l.filter p).map f).sum=(l.map f).sum
 | [],_=>rfl
 | a :: l,h=>by
  have ih:=sum_filt f p l fun b hb=>h b (by simp [hb])
  rw [List.filter_cons]
  by_cases hp:p a=true
  ·rw [if_pos hp]; simp [ih]
  ·rw [if_neg hp,ih]
   have:=h a (by simp) (by simpa using hp)
   simp [this]
theorem perm_sum {l m:List Int} (h:l.Perm m):l.sum=m.sum:=by
 induction h with
 | nil=>rfl
 | cons x _ ih=>simp [ih]
 | swap x y l=>simp; omega
 | trans _ _ ih1 ih2=>exact ih1.trans ih2
theorem SrC.cells (h:SrC 2 P s C) {m:List (List Int)} (hm:m.Nodup) (hmm:∀x,x∈m↔∃r∈s,C.idxOf (ep C 0 r)≠0∧x=clR C r):amS C m=arS C s:=by
 have hfn:(s.filter fun r=>decide (C.idxOf (ep C 0 r)≠0)).Nodup:=h.asc.nodup.sublist List.filter_sublist
 have hnd:((s.filter fun r=>decide (C.idxOf (ep C 0 r)≠0)).map (clR C)).Nodup:=by
  rw [List.nodup_iff_pairwise_ne,List.pairwise_map]
  refine List.Pairwise.imp_of_mem (fun {a b} ha hb hne e=>hne ?_) (List.nodup_iff_pairwise_ne.1 hfn)
  exact h.clR_inj (List.mem_filter.1 ha).1 (List.mem_filter.1 hb).1 e
 have hp:m.Perm ((s.filter fun r=>decide (C.idxOf (ep C 0 r)≠0)).map (clR C)):=(List.perm_ext_iff_of_nodup hm hnd).2 fun x=>by
  rw [hmm x]
  simp only [List.mem_map,List.mem_filter,decide_eq_true_eq]
  constructor
  ·rintro ⟨r,hr,h0,rfl⟩; exact ⟨r,⟨hr,h0⟩,rfl⟩
  ·rintro ⟨r,⟨hr,h0⟩,rfl⟩; exact ⟨r,hr,h0,rfl⟩
 unfold amS arS
 rw [perm_sum (hp.map _),List.map_map,←sum_filt (arR C) (fun r=>decide (C.idxOf (ep C 0 r)≠0)) s fun r hr hz=>h.flat hr (by simpa using hz)]
 exact congrArg List.sum (List.map_congr_left fun r hr=>h.amtR (List.mem_filter.1 hr).1)
end
end Go.Proofs.YtdanomklbiidaaaGreatDoor

namespace Go.Proofs.YtdanomklbiidaaaGreatDoor
open Lin
theorem doc_hcr {d:Nat} {P s0:List (List Int)} (hg:Good d P) (hs:∀r,r∈s0↔r∈rowsD P d):∀x∈P,((pickL d (onL d s0 x)).length=d↔∀v:Nat→Int,(∀r∈rowsC P [] d P,r.getD d 0=dot d (V r) (V x)→dot d (V r) v=0)→∀i,i < d→v i=0):=fun _ hx=>corner_rank hg (fun _=>Iff.rfl) hs hx
theorem doc_fc {d:Nat} {P C s:List (List Int)} {A:List Nat} (hg:Good d P) (hn:P.length≤10) (hD:DocF d P C s A):FcC d C s:=by
 obtain ⟨hasc,s0,hs0,hcm⟩:=hD.crn
 have hcr:=doc_hcr hg hs0
 have hgC:=corners_good hg hs0 hcr hcm (sasc_nodup hasc)
 have hCP:∀y∈C,y∈P:=fun y hy=>(List.mem_filter.1 ((hcm y).1 hy)).1
 have hrows:∀r,r∈s↔r∈rowsC C [] d C:=fun r=>(hD.rows.2 r).trans mem_rowsD
 refine ⟨hgC,Nat.le_trans (doc_small hD hn) (by decide),hasc,hrows,hD.rows.1,fun x hx y hy hxy=>?_⟩
 have hxP:=hCP x hx
 have hrk:(pickL d (onL d s0 x)).length=d:=by
  have:=(List.mem_filter.1 ((hcm x).1 hx)).2
  simpa using this
 have hv:=(hcr x hxP).1 hrk (fun i=>V y i-V x i) fun r hr hrx=>by
  have hrC:r∈rowsC C [] d C:=(rows_corners hg hs0 hcr hcm (sasc_nodup hasc) r).2 hr
  have hfit:=rowsC_fit hgC.box hgC.d1 (by have:=hgC.d4; omega) (fun _=>Iff.rfl) hrC
  have h1:=hxy r ((hrows r).2 hrC) ((over_zero hfit.len (hgC.box x hx).1).2 hrx)
  have h2:=(over_zero hfit.len (hgC.box y hy).1).1 h1
  rw [dot_sub,←hrx,←h2]
  omega
 have lx:=(hgC.box x hx).1
 have ly:=(hgC.box y hy).1
 apply List.ext_getElem (by omega)
 intro i h1 h2
 have:=hv i (by omega)
 simp only [V] at this
 have e1:y.getD i 0=y[i]:=by simp [h1]
 have e2:x.getD i 0=x[i]:=by simp [h2]
 rw [e1,e2] at this
 omega
theorem set_memL {a:Nat} (h:a < 1024):setN (memL a)=a:=by
 rw [←mem10_L h]
 exact setN_mem10 a h
theorem face_full {d:Nat} {C s:List (List Int)} (h:FcC d C s) {a:Nat} (ha:Itr C.length (s.map (sdN C)) a) (hd:dimL d C a=(d:Int)):a=2 ^ C.length-1:=by
 cases ha with
 | full=>rfl
 | @cut b t hb ht=>
  exfalso
  obtain ⟨r,hr,rfl⟩:=List.mem_map.1 ht
  have hlt:b &&& sdN C r < 2 ^ C.length:=Nat.lt_of_le_of_lt Nat.and_le_right (sdTo_lt C r C.length)
  have hd1:=h.g.d1
  unfold dimL at hd
  split at hd
  ·omega
  ·rename_i hne
   have hfull:(pickL d (diffL (pks C [] (memL (b &&& sdN C r))))).length=d:=by omega
   have hall:∀y∈pks C [] (memL (b &&& sdN C r)),r.getD d 0=dot d (V r) (V y):=fun y hy=>by
    obtain ⟨k,hk,hbt,rfl⟩:=(mem_pts hlt h.n16).1 hy
    rw [Nat.testBit_and] at hbt
    have h2:(sdN C r).testBit k=true:=by
     cases hq:(sdN C r).testBit k with
     | true=>rfl
     | false=>rw [hq] at hbt; simp at hbt
    have h3:(sdN C r).testBit k=(decide (k < C.length) && decide (overL r (C.getD k [])=0)):=sdTo_bit C r C.length k
    rw [h2,decide_eq_true hk] at h3
    have h4:overL r (C.getD k [])=0:=by simpa using h3.symm
    exact (h.over hr (by simp [hk])).1 h4
   obtain ⟨i,hi,hne0⟩:=row_ne0 h.g ((h.rows r).1 hr)
   have hz:=(greedy_full (pick_greedy d (diffL (pks C [] (memL (b &&& sdN C r)))))).1 (by simpa [fm] using hfull) (V r) fun q hq=>by
    simp only [fm,List.mem_map] at hq
    obtain ⟨l,hl,rfl⟩:=hq
    simp only [diffL,List.mem_map] at hl
    obtain ⟨y,hy,rfl⟩:=hl
    have hyl:∀y∈pks C [] (memL (b &&& sdN C r)),y.length=d:=fun y hy=>by
     obtain ⟨k,hk,_,rfl⟩:=(mem_pts hlt h.n16).1 hy
     exact (h.g.box _ (by simp [hk])).1
    have hym:=List.mem_of_mem_drop hy
    have h0m:(pks C [] (memL (b &&& sdN C r))).getD 0 []∈pks C [] (memL (b &&& sdN C r)):=by
     have:0 < (pks C [] (memL (b &&& sdN C r))).length:=List.length_pos_of_mem hym
     simp [this]
    rw [dot_comm]
    refine (dot_subL (V r) (hyl y hym)).trans ?_
    rw [←hall y hym,←hall _ h0m]
    omega
   exact hne0 (hz i hi)
theorem crn_same {d:Nat} {P s0 s1:List (List Int)} (hg:Good d P) (h0:∀r,r∈s0↔r∈rowsD P d) (h1:∀r,r∈s1↔r∈rowsD P d) (y:List Int):y∈crn d s0 P↔y∈crn d s1 P:=by
 constructor
 ·intro h
  obtain ⟨a,b⟩:=List.mem_filter.1 h
  refine List.mem_filter.2 ⟨a,?_⟩
  have b':(pickL d (onL d s0 y)).length=d:=by simpa using b
  have:=(doc_hcr hg h1 y a).2 ((doc_hcr hg h0 y a).1 b')
  simpa using this
 ·intro h
  obtain ⟨a,b⟩:=List.mem_filter.1 h
  refine List.mem_filter.2 ⟨a,?_⟩
  have b':(pickL d (onL d s1 y)).length=d:=by simpa using b
  have:=(doc_hcr hg h0 y a).2 ((doc_hcr hg h1 y a).1 b')
  simpa using this
theorem doc_fnds {d:Nat} {P C s:List (List Int)} {A:List Nat} (hg:Good d P) (hn:P.length≤10) (hD:DocF d P C s A):FndS d P C s:=by
 obtain ⟨hasc,s1,hs1,hcm⟩:=hD.crn
 refine ⟨doc_fc hg hn hD,fun s0 c h0 hc hm=>sasc_ext C c hasc hc fun y=>?_,doc_small hD hn⟩
 rw [hcm y,hm y]
 exact crn_same hg hs1 h0 y
theorem memL_whole {n:Nat} (h:n≤64):memL (2 ^ n-1)=(List.range n).map fun k:Nat=>(k:Int):=by
 rw [←memL_top (i:=n) (by have:0 < 2 ^ n:=Nat.pow_pos (by decide); omega) h]
 unfold memTo
 congr 1
 rw [List.filter_eq_self]
 intro k hk
 rw [Nat.testBit_two_pow_sub_one]
 simpa using hk
theorem pks_whole {C:List (List Int)} (h:C.length≤64):pks C [] (memL (2 ^ C.length-1))=C:=by
 rw [memL_whole h]
 unfold pks
 apply List.ext_getElem
 ·simp
 ·intro i h1 h2
  simp [h2]
theorem dim_whole {d:Nat} {C s:List (List Int)} (h:FcC d C s):dimL d C (2 ^ C.length-1)=(d:Int):=by
 have hn:=h.n16
 have h2:=h.g.n2
 unfold dimL
 rw [pks_whole (by omega),h.g.full,if_neg]
 rw [memL_whole (by omega)]
 intro e
 have:=congrArg List.length e
 simp at this
 rw [this] at h2
 simp at h2
theorem lvP_of {d:Nat} {P C s:List (List Int)} {A:List Nat} {LV:Nat→List (List Int)} {order:List Int} (hg:Good d P) (hn:P.length≤10) (hD:DocF d P C s A) (hL:∀t,t < d+2→LevOk d C A t (LV t)) (h0:∀t,d+2≤t→LV t=[])
  (hord:∀x∈order,0≤x∧x < (C.length:Int)) (hall:∀k:Nat,k < C.length→(k:Int)∈order) (hol:order.length≤10):LvP LV order C.length d∧LV (d+1)=[memL (2 ^ C.length-1)]∧(LV 1).length=C.length∧∀g∈LV 1,g.length=1:=by
 have hF:=doc_fc hg hn hD
 have hC10:=doc_small hD hn
 have hd1:=hg.d1
 have hat:∀t,∀g∈LV t,∃a,a < 2 ^ C.length∧a < 1024∧Itr C.length (s.map (sdN C)) a∧dimL d C a=(t:Int)-1∧g=memL a:=fun t g hgm=>by
  by_cases ht:t < d+2
  ·obtain ⟨a,ha,h1,h2⟩:=((hL t ht).2 g).1 hgm
   exact ⟨a,hD.all.lt a ha,hD.lt10 hC10 ha,(hD.mem a).1 ha,h1,h2⟩
  ·rw [h0 t (by omega)] at hgm
   simp at hgm
 have htop:LV (d+1)=[memL (2 ^ C.length-1)]:=by
  refine sasc_ext _ _ (hL (d+1) (by omega)).1 (by simp [SAsc]) fun r=>?_
  rw [(hL (d+1) (by omega)).2 r,List.mem_singleton]
  constructor
  ·rintro ⟨a,ha,h1,rfl⟩
   rw [face_full hF ((hD.mem a).1 ha) (by omega)]
  ·rintro rfl
   exact ⟨_,(hD.mem _).2 .full,by rw [dim_whole hF]; omega,rfl⟩
 have hone:∀g∈LV 1,∃k,k < C.length∧g=[(k:Int)]:=fun g hgm=>by
  obtain ⟨a,h1,h2,_,h4,rfl⟩:=hat 1 g hgm
  obtain ⟨k,hk,rfl⟩:=vert_of hF h1 (by omega)
  exact ⟨k,hk,memL_one (by omega)⟩
 refine ⟨⟨⟨fun t=>?_,fun t g hgm=>?_,hord,fun t g hgm=>?_,hol⟩,fun g hgm=>?_,fun t ht g hgm=>?_,⟨_,htop⟩⟩,htop,?_,fun g hgm=>?_⟩
 ·by_cases ht:t < d+2
  ·exact (lev_small hD hC10 (hL t ht)).1
  ·rw [h0 t (by omega)]; simp
 ·obtain ⟨a,h1,_,_,_,rfl⟩:=hat t g hgm
  exact ⟨Nat.le_trans (memL_len h1 (by omega)) hC10,memL_bd h1 (by omega)⟩
 ·obtain ⟨a,h1,_,_,h4,rfl⟩:=hat (t+1) g hgm
  have hne:memL a≠[]:=fun e=>by
   unfold dimL at h4
   rw [if_pos e] at h4
   omega
  obtain ⟨x,xs,hx⟩:=List.exists_cons_of_ne_nil hne
  have hxm:x∈memL a:=by rw [hx]; simp
  have hb:=memL_bd h1 (by omega) x hxm
  have:=hall x.toNat (by omega)
  rw [show ((x.toNat:Nat):Int)=x by omega] at this
  exact ⟨x,this,hxm⟩
 ·obtain ⟨k,hk,rfl⟩:=hone g hgm
  rw [setN_one,show ((k:Int).toNat)=k by omega,memL_one (by omega)]
  rfl
 ·obtain ⟨a,h1,h2,_,h4,rfl⟩:=hat (t+2) g hgm
  rw [set_memL h2]
  intro e
  unfold dimL at h4
  obtain ⟨x,hx⟩:=List.length_eq_one_iff.1 e
  rw [hx] at h4
  simp [pks,diffL,pickL] at h4
  omega
 ·exact doc_verts (doc_fnds hg hn hD) hD (hL 1 (by omega))
 ·obtain ⟨k,hk,rfl⟩:=hone g hgm
  rfl
theorem tk_sub {order face g:List Int} (hf:∀x∈face,0≤x∧x < (10:Int)) (hgb:∀x∈g,0≤x∧x < (10:Int)) (h:tkB order face g=true):fstO order face∉g∧∀x∈g,x∈face:=by
 unfold tkB at h
 simp only [Bool.and_eq_true,Bool.not_eq_true',decide_eq_false_iff_not,decide_eq_true_eq] at h
 refine ⟨h.1,fun x hx=>?_⟩
 have hb:=hgb x hx
 have e1:=(setN_bit g x.toNat (fun y hy=>by have:=hgb y hy; omega)).2 (by rw [show ((x.toNat:Nat):Int)=x by omega]; exact hx)
 rw [←h.2,Nat.testBit_and] at e1
 simp only [Bool.and_eq_true] at e1
 have:=(setN_bit face x.toNat (fun y hy=>by have:=hf y hy; omega)).1 e1.2
 rw [show ((x.toNat:Nat):Int)=x by omega] at this
 exact this
theorem pulD_cell {LV:Nat→List (List Int)} {order:List Int} {n:Nat} (h:LvO LV order n) (hn:n≤10) (h1:∀g∈LV 1,g.length=1):∀t,∀face∈LV (t+1),∀c∈pulD LV order (t+1) face,c.length=t+1∧c.Nodup∧∀x∈c,x∈face
 | 0,face,hf=>fun c hc=>by
  simp only [pulD,List.mem_singleton] at hc
  subst hc
  have:=h1 c hf
  refine ⟨this,?_,fun x hx=>hx⟩
  obtain ⟨x,rfl⟩:=List.length_eq_one_iff.1 this
  simp
 | t+1,face,hf=>fun c hc=>by
  unfold pulD at hc
  obtain ⟨g,hg,hc⟩:=List.mem_flatMap.1 hc
  split at hc
  ·rename_i htk
   obtain ⟨c',hc',rfl⟩:=List.mem_map.1 hc
   obtain ⟨h2,h3,h4⟩:=pulD_cell h hn h1 t g hg c' hc'
   obtain ⟨hno,hsub⟩:=tk_sub (fun x hx=>by have:=(h.row _ _ hf).2 x hx; omega) (fun x hx=>by have:=(h.row _ _ hg).2 x hx; omega) htk
   have hfm:=(fstO_mem (h.has (t+1) face hf)).2
   refine ⟨by rw [List.length_append,h2]; rfl,?_,fun x hx=>?_⟩
   ·rw [List.nodup_append]
    refine ⟨h3,by simp,fun a ha b hb e=>?_⟩
    simp only [List.mem_singleton] at hb
    subst hb e
    exact hno (h4 _ ha)
   ·rcases List.mem_append.1 hx with hx | hx
    ·exact hsub x (h4 x hx)
    ·simp only [List.mem_singleton] at hx
     subst hx
     exact hfm
  ·simp at hc
theorem memL_nodup (s:Nat):(memL s).Nodup:=by
 unfold memL memTo
 rw [List.nodup_iff_pairwise_ne,List.pairwise_map]
 refine List.Pairwise.imp (fun {a b} hab e=>hab ?_) (List.nodup_iff_pairwise_ne.1 (List.Nodup.sublist List.filter_sublist List.nodup_range))
 omega
theorem cellL_len {c:List Int} (hb:∀x∈c,0≤x∧x < (10:Int)) (hnd:c.Nodup):(cellL c).length=c.length∧∀x∈cellL c,x∈c:=by
 have hB:B64 c:=fun y hy=>by have:=hb y hy; omega
 have hm:∀x,x∈cellL c↔x∈c:=fun x=>by
  unfold cellL
  rw [mem_memL (setN_lt c hB)]
  constructor
  ·rintro ⟨k,rfl,hk⟩
   exact (setN_bit c k hB).1 hk
  ·intro hx
   have:=hb x hx
   have e:((x.toNat:Nat):Int)=x:=by omega
   exact ⟨x.toNat,e.symm,(setN_bit c _ hB).2 (by rw [e]; exact hx)⟩
 refine ⟨?_,fun x hx=>(hm x).1 hx⟩
 have:(cellL c).Perm c:=by
  rw [List.perm_iff_count]
  intro a
  have hcd:(cellL c).Nodup:=memL_nodup (setN c)
  rw [hcd.count,hnd.count]
  by_cases e:a∈c
  ·simp [e,(hm a).2 e]
  ·have e2:¬a∈cellL c:=fun k=>e ((hm a).1 k)
   simp [e,e2]
 exact this.length_eq
theorem pul_cells (LV:Nat→List (List Int)) (order:List Int) (t:Nat) (face:List Int):(pulS LV order t face).map memL=(pulD LV order t face).map cellL:=by
 rw [pul_same,List.map_map]
 rfl
theorem cells_fit {LV:Nat→List (List Int)} {order:List Int} {n d:Nat} (h:LvO LV order n) (hn:n≤10) (h1:∀g∈LV 1,g.length=1) {face:List Int} (hf:LV (d+1)=[face]):∀c∈(pulD LV order (d+1) face).map cellL,c.length=d+1∧∀x∈c,0≤x∧x < (n:Int):=fun c hc=>by
 obtain ⟨c',hc',rfl⟩:=List.mem_map.1 hc
 have hfm:face∈LV (d+1):=by rw [hf]; simp
 obtain ⟨q1,q2,q3⟩:=pulD_cell h hn h1 d face hfm c' hc'
 have hb:∀x∈c',0≤x∧x < (n:Int):=fun x hx=>(h.row _ _ hfm).2 x (q3 x hx)
 obtain ⟨r1,r2⟩:=cellL_len (fun x hx=>by have:=hb x hx; omega) q2
 exact ⟨by rw [r1,q1],fun x hx=>hb x (r2 x hx)⟩
end Go.Proofs.YtdanomklbiidaaaGreatDoor

namespace Go.Proofs.YtdanomklbiidaaaGreatDoor
open Go.RowKit Lin
attribute [local go_sem ↓] Go.wp_at_zero Go.wp_at_succ
structure VDo (d:Nat) (P C s:List (List Int)) (A:List Nat) (LV:Nat→List (List Int)):Prop where
 f:DocF d P C s A
 l:∀t,t < d+2→LevOk d C A t (LV t)
 z:∀t,d+2≤t→LV t=[]
theorem idn_mem {n:Nat} {x:Int} : x∈idn n↔0≤x∧x < (n:Int):=by
 unfold idn
 simp only [List.mem_map,List.mem_range]
 constructor
 ·rintro ⟨k,hk,rfl⟩; omega
 ·intro h; exact ⟨x.toNat,by omega,by omega⟩
theorem VDo.lvp {d:Nat} {P C s:List (List Int)} {A:List Nat} {LV:Nat→List (List Int)} {order:List Int} (h:VDo d P C s A LV) (hg:Good d P) (hn:P.length≤10) (hord:∀x∈order,0≤x∧x < (C.length:Int)) (hall:∀k:Nat,k < C.length→(k:Int)∈order) (hol:order.length≤10) :
  LvP LV order C.length d∧LV (d+1)=[memL (2 ^ C.length-1)]∧(LV 1).length=C.length∧∀g∈LV 1,g.length=1:=lvP_of hg hn h.f h.l h.z hord hall hol
theorem VDo.idp {d:Nat} {P C s:List (List Int)} {A:List Nat} {LV:Nat→List (List Int)} (h:VDo d P C s A LV) (hg:Good d P) (hn:P.length≤10) :
  LvP LV (idn C.length) C.length d∧LV (d+1)=[memL (2 ^ C.length-1)]∧(LV 1).length=C.length∧∀g∈LV 1,g.length=1:=
 h.lvp hg hn (fun x hx=>idn_mem.1 hx) (fun k hk=>idn_mem.2 ⟨by omega,by omega⟩) (by rw [idn_len]; exact doc_small h.f hn)
end Go.Proofs.YtdanomklbiidaaaGreatDoor
