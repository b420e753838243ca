import Derived.Test.YtcoeneldaohpnaaGreatMgAT
namespace Go.Proofs.YtcoeneldaohpnaaGreat
open Lin
def drpJ (j:Nat) (y:List Int):List Int:=y.take j ++ y.drop (j+1)
def lftJ (j:Nat) (w:Nat→Int):Nat→Int:=fun i=>if i < j then w i else if i=j then 0 else w (i-1)
theorem drpJ_len {d j:Nat} {y:List Int} (hy:y.length=d+1) (hj:j < d+1):(drpJ j y).length=d:=by
 unfold drpJ
 rw [List.length_append,List.length_take,List.length_drop]
 omega
theorem drpJ_at {d j i:Nat} {y:List Int} (hy:y.length=d+1) (hj:j < d+1) (_hi:i < d):V (drpJ j y) i=if i < j then V y i else V y (i+1):=by
 unfold V drpJ
 by_cases h:i < j
 ·rw [if_pos h,List.getD_eq_getElem?_getD,List.getElem?_append_left (by rw [List.length_take]; omega),List.getElem?_take_of_lt h,←List.getD_eq_getElem?_getD]
 ·rw [if_neg h,List.getD_eq_getElem?_getD,List.getElem?_append_right (by rw [List.length_take]; omega),List.length_take,List.getElem?_drop,←List.getD_eq_getElem?_getD]
  congr 1
  omega
theorem sumN_split (f:Nat→Int) (j:Nat):∀d,j < d+1→sumN (d+1) f=(sumN d fun i=>if i < j then f i else f (i+1))+f j
 | 0,h=>by
  have:j=0:=by omega
  subst this
  simp [sumN]
 | d+1,h=>by
  have e1:sumN (d+1+1) f=sumN (d+1) f+f (d+1):=rfl
  have e2:(sumN (d+1) fun i=>if i < j then f i else f (i+1))=(sumN d fun i=>if i < j then f i else f (i+1))+(if d < j then f d else f (d+1)):=rfl
  by_cases hj:j < d+1
  ·rw [e1,e2,sumN_split f j d hj,if_neg (by omega)]
   omega
  ·have hj2:j=d+1:=by omega
   subst hj2
   rw [e1,e2,if_pos (by omega)]
   have e3:sumN (d+1) f=sumN d f+f d:=rfl
   rw [e3]
   have e4:(sumN d fun i=>if i < d+1 then f i else f (i+1))=sumN d f:=sumN_congr fun i hi=>by rw [if_pos (by omega)]
   rw [e4]
theorem lft_dot {d j:Nat} (hj:j < d+1) (w:Nat→Int) {y:List Int} (hy:y.length=d+1):dot (d+1) (lftJ j w) (V y)=dot d w (V (drpJ j y)):=by
 unfold dot
 rw [sumN_split _ j d hj]
 have e0:lftJ j w j*V y j=0:=by unfold lftJ; simp
 rw [e0,Int.add_zero]
 refine sumN_congr fun i hi=>?_
 rw [drpJ_at hy hj hi]
 by_cases h:i < j
 ·rw [if_pos h,if_pos h]
  unfold lftJ
  rw [if_pos h]
 ·rw [if_neg h,if_neg h]
  unfold lftJ
  rw [if_neg (by omega),if_neg (by omega),Nat.add_sub_cancel]
theorem lft_zero {d j:Nat} (_hj:j < d+1) {w:Nat→Int} (h:∀i,i < d+1→lftJ j w i=0):∀i,i < d→w i=0:=fun i hi=>by
 by_cases hij:i < j
 ·have:=h i (by omega)
  unfold lftJ at this
  rw [if_pos hij] at this
  exact this
 ·have:=h (i+1) (by omega)
  unfold lftJ at this
  rw [if_neg (by omega),if_neg (by omega),Nat.add_sub_cancel] at this
  exact this
theorem few_orthW {d:Nat} {m:List (List Int)} (h:m.length < d):∃v:Nat→Int,(∃i,i < d∧v i≠0)∧∀r∈m,dot d (V r) v=0:=by
 refine Classical.byContradiction fun hn=>?_
 have hg:=pick_greedy d m
 have hall:∀v:Nat→Int,(∀r∈fm m,dot d r v=0)→∀i,i < d→v i=0:=fun v hv i hi=>by
  refine Classical.byContradiction fun hne=>hn ⟨v,⟨i,hi,hne⟩,fun r hr=>hv (V r) (mem_fm.2 ⟨r,hr,rfl⟩)⟩
 have hl:=(greedy_full hg).2 hall
 rw [fm_length] at hl
 have:=(pickL_sub d m).length_le
 omega
theorem greedy_orth {d:Nat} {L H:List (Nat→Int)} (hg:Greedy d L H) {v:Nat→Int} (h:∀r∈H,dot d r v=0):∀r∈L,dot d r v=0:=fun r hr=>dot_dep (hg.dep r hr) (fun _ hi=>h _ (row_mem hi))
def FlatOk (d:Nat) (t:List (List Int)):Prop:=(pickL d (diffL t)).length+2=d
theorem wr_flat {d:Nat} {P:List (List Int)} (hg:Good (d+1) P) (hd:1≤d) {r:List Int} (hr:r∈rowsC P [] (d+1) P) :
  ∃t:List (List Int),t.Sublist P∧t.length=d∧FlatOk (d+1) t∧(∀y∈t,r.getD (d+1) 0=dot (d+1) (V r) (V y))∧
   ∃h:Nat→Int,(∀y∈t,dot (d+1) h (V y)=dot (d+1) h (V (t.getD 0 [])))∧(∀y∈P,r.getD (d+1) 0=dot (d+1) (V r) (V y)→dot (d+1) h (V y)≤dot (d+1) h (V (t.getD 0 [])))∧¬Par (d+1) h (V r):=by
 have hlen:∀y∈P,y.length=d+1:=fun y hy=>(hg.box y hy).1
 obtain ⟨t0,ht0,ht0m,⟨j,hj,hjne⟩,huni⟩:=row_one hlen hg.d1 hr
 obtain ⟨F,hF⟩:∃F,F=P.filter fun y=>decide (r.getD (d+1) 0=dot (d+1) (V r) (V y)):=⟨_,rfl⟩
 have hFm:∀y,y∈F↔y∈P∧r.getD (d+1) 0=dot (d+1) (V r) (V y):=fun y=>by rw [hF]; simp
 have hFs:F.Sublist P:=by rw [hF]; exact List.filter_sublist
 have hFl:∀y∈F,y.length=d+1:=fun y hy=>hlen y ((hFm y).1 hy).1
 have hFu:∀u:Nat→Int,(∀y∈F,∀z∈F,dot (d+1) u (V y)=dot (d+1) u (V z))→Par (d+1) u (V r):=fun u hu=>huni u fun y hy=>hu y ((hFm y).2 (ht0 y hy)) _ ((hFm _).2 (ht0 _ ht0m))
 have hbox:Box d 100 (F.map (drpJ j)):=fun y hy=>by
  obtain ⟨q,hq,rfl⟩:=List.mem_map.1 hy
  refine ⟨drpJ_len (hFl q hq) hj,fun z hz=>?_⟩
  have hb:=(hg.box q ((hFm q).1 hq).1).2
  unfold drpJ at hz
  rcases List.mem_append.1 hz with h | h
  ·exact hb z (List.mem_of_mem_take h)
  ·exact hb z (List.mem_of_mem_drop h)
 have hfull:(pickL d (diffL (F.map (drpJ j)))).length=d:=full_of_span (fun y hy=>(hbox y hy).1) fun c hc=>by
  refine lft_zero hj fun i hi=>?_
  have hp:=hFu (lftJ j c) (fun y hy z hz=>by
   rw [lft_dot hj c (hFl y hy),lft_dot hj c (hFl z hz)]
   exact hc _ (List.mem_map.2 ⟨y,hy,rfl⟩) _ (List.mem_map.2 ⟨z,hz,rfl⟩)) i j hi hj
  have:lftJ j c j=0:=by unfold lftJ; simp
  rw [this,Int.zero_mul] at hp
  rcases Int.mul_eq_zero.1 hp with h | h
  ·exact h
  ·exact absurd h hjne
 have hn2:2≤(F.map (drpJ j)).length:=by
  have:=pickL_len d (diffL (F.map (drpJ j)))
  rw [diffL_length] at this
  omega
 have hgF:Good d (F.map (drpJ j)):=⟨hd,by have:=hg.dm; omega,hn2,by rw [List.length_map]; exact Nat.le_trans hFs.length_le hg.n24,hbox,hfull⟩
 obtain ⟨r',hr'⟩:=row_some hgF
 have hfit:=rowsC_fit hgF.box hgF.d1 (by have:=hgF.d4; omega) (fun _=>Iff.rfl) hr'
 obtain ⟨t',hts',htl',hrt'⟩:=mem_rowsC.1 hr'
 obtain ⟨t,hts,htm⟩:=List.sublist_map_iff.1 hts'
 have htl:t.length=d:=by rw [←htl',htm,List.length_map]
 have htF:∀y∈t,y∈F:=fun y hy=>hts.subset hy
 have ht0m:t.getD 0 []∈t:=by simp [show 0 < t.length by omega]
 have htd:∀i,(t'.getD i [])=if i < t.length then drpJ j (t.getD i []) else []:=fun i=>by
  rw [htm]
  by_cases h:i < t.length
  ·simp [h]
  ·simp [h]
 -- what t' says
 obtain ⟨σ,hσ,hnb,hre⟩:=rowT_form htl' hrt'
 have hl':(pickL d (diffL t')).length+1=d:=of_decide_eq_true hnb
 have hal:=norm_len hnb
 obtain ⟨⟨p,hp,hpne⟩,hn1,hn2'⟩:=norm_spec hl'
 have hσ0:σ≠0:=by rcases hσ with rfl | rfl <;> decide
 have hVr:∀i,i < d→V r' i=σ*V (normL d (diffL t')) i:=fun i hi=>by
  rw [hre]
  have h:=V_map (normL d (diffL t') ++ [dotL (normL d (diffL t')) (t'.getD 0 [])]) σ i
  rw [h,(row_app hal).2.2.2 i hi]
 have hlast:r'.getD d 0=σ*dotL (normL d (diffL t')) (t'.getD 0 []):=by
  rw [hre]
  have h:=V_map (normL d (diffL t') ++ [dotL (normL d (diffL t')) (t'.getD 0 [])]) σ d
  simp only [V] at h
  rw [h,(row_app hal).2.2.1]
 have hdr:∀x:Nat→Int,dot d (V r') x=σ*dot d (V (normL d (diffL t'))) x:=fun x=>by
  unfold dot
  rw [←sumN_mul]
  exact sumN_congr fun i hi=>by rw [hVr i hi,Int.mul_assoc]
 have hks:∀y∈t',dot d (V (normL d (diffL t'))) (V y)=dot d (V (normL d (diffL t'))) (V (t'.getD 0 [])):=fun y hy=>by
  rcases mem_head_drop hy with e | hy'
  ·rw [←e]
  ·have h1:=hn1 (subL y (t'.getD 0 [])) (List.mem_map.2 ⟨y,hy',rfl⟩)
   rw [dot_comm,dot_subL _ (hbox y (hts'.subset hy)).1] at h1
   omega
 have htm0:t'.getD 0 []=drpJ j (t.getD 0 []):=by rw [htd 0,if_pos (by omega)]
 have hmt:∀y∈t,dot d (V r') (V (drpJ j y))=r'.getD d 0:=fun y hy=>by
  have hy':drpJ j y∈t':=by rw [htm]; exact List.mem_map.2 ⟨y,hy,rfl⟩
  rw [hdr,hks _ hy',hlast,dotL_eq hal]
 refine ⟨t,hts.trans hFs,htl,?_,fun y hy=>((hFm y).1 (htF y hy)).2,lftJ j (V r'),fun y hy=>?_,fun y hy hyr=>?_,fun hpar=>?_⟩
 ·-- independent
  unfold FlatOk
  have hle:=pickL_len (d+1) (diffL t)
  rw [diffL_length,htl] at hle
  have hge:d-1≤(pickL (d+1) (diffL t)).length:=by
   refine Classical.byContradiction fun hn=>?_
   have hgr:=pick_greedy (d+1) (diffL t)
   -- a direction that is across what is picked,and across the normal
   have hsubm:∀q∈pickL (d+1) (diffL t),∃y∈t,q=subL y (t.getD 0 []):=fun q hq=>by
    have:=(pickL_sub (d+1) (diffL t)).subset hq
    simp only [diffL,List.mem_map] at this
    obtain ⟨y,hy,rfl⟩:=this
    exact ⟨y,List.mem_of_mem_drop hy,rfl⟩
   obtain ⟨w,⟨i,hi,hine⟩,hw⟩:=few_orthW (d:=d) (m:=(pickL (d+1) (diffL t)).map (drpJ j) ++ [normL d (diffL t')]) (by rw [List.length_append,List.length_map,List.length_singleton]; omega)
   have hsl:∀y∈t,(subL y (t.getD 0 [])).length=d+1:=fun y hy=>by
    unfold subL
    simp [hFl y (htF y hy)]
   have hwl:∀q∈fm (pickL (d+1) (diffL t)),dot (d+1) q (lftJ j w)=0:=fun q hq=>by
    obtain ⟨l,hl,rfl⟩:=mem_fm.1 hq
    obtain ⟨y,hy,rfl⟩:=hsubm l hl
    rw [dot_comm,lft_dot hj w (hsl y hy),dot_comm]
    exact hw _ (List.mem_append_left _ (List.mem_map.2 ⟨_,hl,rfl⟩))
   have hall:∀q∈fm (diffL t),dot (d+1) q (lftJ j w)=0:=fun q hq=>greedy_orth hgr hwl q hq
   have hpw:=hn2' w fun q hq=>by
    simp only [diffL,List.mem_map] at hq
    obtain ⟨y',hy',rfl⟩:=hq
    have hy't:=List.mem_of_mem_drop hy'
    rw [htm] at hy't
    obtain ⟨y,hy,rfl⟩:=List.mem_map.1 hy't
    have h1:dot (d+1) (lftJ j w) (V y)=dot (d+1) (lftJ j w) (V (t.getD 0 [])):=by
     rcases mem_head_drop hy with e | hyd
     ·rw [←e]
     ·have:=hall (V (subL y (t.getD 0 []))) (mem_fm.2 ⟨_,List.mem_map.2 ⟨y,hyd,rfl⟩,rfl⟩)
      rw [dot_comm,dot_subL _ (hFl y (htF y hy))] at this
      omega
    rw [dot_comm,dot_subL _ (drpJ_len (hFl y (htF y hy)) hj),htm0,←lft_dot hj w (hFl y (htF y hy)),←lft_dot hj w (hFl _ (htF _ ht0m)),h1]
    omega
   have hwn:=hw (normL d (diffL t')) (by simp)
   -- parallel and across: nothing
   have hnn:=dot_pos (d:=d) (a:=V (normL d (diffL t'))) ⟨p,hp,hpne⟩
   have:dot d (V (normL d (diffL t'))) (V (normL d (diffL t')))*w i=V (normL d (diffL t')) i*dot d (V (normL d (diffL t'))) w:=by
    unfold dot
    rw [←sumN_mul_right,←sumN_mul]
    refine sumN_congr fun k hk=>?_
    have:=hpw i k hi hk
    grind
   rw [hwn,Int.mul_zero] at this
   rcases Int.mul_eq_zero.1 this with h | h
   ·omega
   ·exact hine h
  omega
 ·rw [lft_dot hj _ (hFl y (htF y hy)),lft_dot hj _ (hFl _ (htF _ ht0m)),hmt y hy,hmt _ ht0m]
 ·have hyF:y∈F:=(hFm y).2 ⟨hy,hyr⟩
  rw [lft_dot hj _ (hFl y hyF),lft_dot hj _ (hFl _ (htF _ ht0m)),hmt _ ht0m]
  exact hfit.all _ (List.mem_map.2 ⟨y,hyF,rfl⟩)
 ·have h0:∀i,i < d+1→lftJ j (V r') i=0:=fun i hi=>by
   have:=hpar i j hi hj
   have e:lftJ j (V r') j=0:=by unfold lftJ; simp
   rw [e,Int.zero_mul] at this
   rcases Int.mul_eq_zero.1 this with h | h
   ·exact h
   ·exact absurd h hjne
  have:=lft_zero hj h0 p hp
  rw [hVr p hp] at this
  rcases Int.mul_eq_zero.1 this with h | h
  ·exact hσ0 h
  ·exact hpne h
end Go.Proofs.YtcoeneldaohpnaaGreat
