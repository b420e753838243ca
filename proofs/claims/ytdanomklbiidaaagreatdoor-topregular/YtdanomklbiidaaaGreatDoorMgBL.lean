import Derived.Test.YtdanomklbiidaaaGreatDoorMgBK
import Derived.Test.YtdanomklbiidaaaGreatDoorMgBB
import Derived.Test.YtdanomklbiidaaaGreatDoorMgBJ
import Derived.Test.YtdanomklbiidaaaGreatDoorMgAY
import Derived.Test.YtdanomklbiidaaaGreatDoorMgAQ
import Derived.Test.YtdanomklbiidaaaGreatDoorMgAI
namespace Go.Proofs.YtdanomklbiidaaaGreatDoor
open Go.RowKit Lin
theorem itr_ltP {n:Nat} {S:List Nat} {a:Nat} (h:Itr n S a):a < 2 ^ n:=by
 induction h with
 | full=>have:0 < 2 ^ n:=Nat.pow_pos (by decide); omega
 | cut _ _ ih=>exact Nat.lt_of_le_of_lt Nat.and_le_left ih
open Classical in
theorem clo_some (n:Nat) (S:List Nat):∃A,Clo n S A A.length:=by
 obtain ⟨A,hA⟩:∃A,A=(2 ^ n-1) :: (List.range (2 ^ n-1)).filter fun a=>decide (Itr n S a):=⟨_,rfl⟩
 have hm:∀a,a∈A↔Itr n S a:=fun a=>by
  rw [hA,List.mem_cons,List.mem_filter,List.mem_range,decide_eq_true_eq]
  constructor
  ·rintro (rfl | ⟨_,h⟩)
   ·exact .full
   ·exact h
  ·intro h
   have:=itr_ltP h
   by_cases e:a=2 ^ n-1
   ·exact Or.inl e
   ·exact Or.inr ⟨by omega,h⟩
 refine ⟨A,?_,fun a ha=>itr_ltP ((hm a).1 ha),⟨by rw [hA]; simp,by rw [hA]; rfl⟩,fun j hj t ht=>?_,fun a ha=>(hm a).1 ha,Nat.le_refl _⟩
 ·rw [hA]
  refine List.nodup_cons.2 ⟨fun h=>?_,List.nodup_range.sublist List.filter_sublist⟩
  have:=List.mem_range.1 (List.mem_filter.1 h).1
  omega
 ·refine (hm _).2 (.cut ((hm _).1 ?_) ht)
  simp [hj]
section
variable {P s C:List (List Int)}
theorem SrC.vdo (h:SrC 2 P s C):∃A LV,VDo 2 P C s A LV:=by
 obtain ⟨A,hA⟩:=clo_some C.length (s.map (sdN C))
 have hl:∀t:Nat,∃l,LevOk 2 C A t l:=fun t=>by
  obtain ⟨l,h1,h2⟩:=sort_of ((A.filter fun a=>decide (dimL 2 C a=(t:Int)-1)).map memL)
  refine ⟨l,h1,fun r=>?_⟩
  rw [h2 r]
  simp only [List.mem_map,List.mem_filter,decide_eq_true_eq]
  constructor
  ·rintro ⟨a,⟨q1,q2⟩,rfl⟩; exact ⟨a,q1,q2,rfl⟩
  ·rintro ⟨a,q1,q2,rfl⟩; exact ⟨a,⟨q1,q2⟩,rfl⟩
 refine ⟨A,fun t=>if t < 2+2 then (hl t).choose else [],⟨⟨h.casc,s,h.rows,h.crns⟩,⟨h.asc,fun r=>(h.rc r).trans mem_rowsD.symm⟩,hA⟩,fun t ht=>?_,fun t ht=>?_⟩
 ·simp only [ht,if_true]
  exact (hl t).choose_spec
 ·simp only [show ¬t < 2+2 by omega,if_false]
theorem mem_two:∀i j:Fin 10,i < j→memL (2 ^ i.val ||| 2 ^ j.val)=[(i.val:Int),(j.val:Int)]:=by decide +kernel
theorem cell_three:∀i j:Fin 10,0 < i.val→i < j→cellL [(j.val:Int),(i.val:Int),0]=[0,(i.val:Int),(j.val:Int)]:=by decide +kernel
theorem set_in2:∀i j:Fin 10,setN [(j.val:Int)] &&& setN [(i.val:Int),(j.val:Int)]=setN [(j.val:Int)]:=by decide +kernel
theorem set_inW:∀n:Fin 11,∀i j:Fin 10,i.val < n.val→j.val < n.val→setN [(i.val:Int),(j.val:Int)] &&& setN (memL (2 ^ n.val-1))=setN [(i.val:Int),(j.val:Int)]:=by decide +kernel
theorem whole_lt:∀n:Fin 11,∀x∈memL (2 ^ n.val-1),0≤x∧x < (10:Int):=by decide +kernel
theorem whole_0:∀n:Fin 11,0 < n.val→(0:Int)∈memL (2 ^ n.val-1):=by decide +kernel
theorem idn_at {n k:Nat} (hk:k < n):(idn n).getD k 0=(k:Int):=by simp [idn,hk]
theorem fst_two {n i j:Nat} (hi:i < n) (hij:i < j):fstO (idn n) [(i:Int),(j:Int)]=(i:Int):=by
 rw [fstO_take (k:=i) (by rw [idn_len]; exact hi) (fun x hx=>?_) (by rw [idn_at hi]; simp),idn_at hi]
 unfold idn at hx
 rw [←List.map_take,List.take_range,List.mem_map] at hx
 obtain ⟨k,hk,rfl⟩:=hx
 have:=List.mem_range.1 hk
 simp
 omega
theorem SrC.sd (h:SrC 2 P s C) {r:List Int} (hr:r∈s):sdN C r=2 ^ C.idxOf (ep C 0 r) ||| 2 ^ C.idxOf (ep C 1 r):=by
 obtain ⟨h0,h1,_⟩:=h.epC hr
 obtain ⟨i0,e0⟩:=idx_get h0
 obtain ⟨i1,e1⟩:=idx_get h1
 refine Nat.eq_of_testBit_eq fun k=>?_
 unfold sdN
 rw [sdTo_bit,Nat.testBit_or,Nat.testBit_two_pow,Nat.testBit_two_pow]
 have hE:endL C r=[ep C 0 r,ep C 1 r]:=by
  obtain ⟨p,q,hE,_⟩:=h.two hr
  unfold ep
  rw [hE]; rfl
 have hin:∀y∈C,overL r y=0↔y=ep C 0 r∨y=ep C 1 r:=fun y hy=>by
  have:y∈endL C r↔overL r y=0:=by unfold endL; rw [List.mem_filter,decide_eq_true_eq]; exact ⟨fun q=>q.2,fun q=>⟨hy,q⟩⟩
  rw [←this,hE]
  simp
 rw [Bool.eq_iff_iff]
 simp only [Bool.and_eq_true,Bool.or_eq_true,decide_eq_true_eq]
 constructor
 ·rintro ⟨hk,ho⟩
  have hm:C.getD k []∈C:=by simp [hk]
  have ek:C.getD k []=C[k]:=by simp [hk]
  rcases (hin _ hm).1 ho with e | e
  ·left
   rw [ek] at e
   rw [←e]
   exact sasc_idx h.casc (by rw [e]; exact i0) hk (List.getElem_idxOf _)
  ·right
   rw [ek] at e
   rw [←e]
   exact sasc_idx h.casc (by rw [e]; exact i1) hk (List.getElem_idxOf _)
 ·rintro (rfl | rfl)
  ·exact ⟨i0,(hin _ (by rw [e0]; exact h0)).2 (Or.inl e0)⟩
  ·exact ⟨i1,(hin _ (by rw [e1]; exact h1)).2 (Or.inr e1)⟩
theorem SrC.lev2 (h:SrC 2 P s C) (hn:P.length≤10) {A:List Nat} {LV:Nat→List (List Int)} (hD:VDo 2 P C s A LV) (g:List Int):g∈LV 2↔∃r∈s,g=[((C.idxOf (ep C 0 r):Nat):Int),((C.idxOf (ep C 1 r):Nat):Int)]:=by
 have hF:=doc_fc h.good hn hD.f
 have hC10:=doc_small hD.f hn
 rw [(hD.l 2 (by decide)).2 g]
 constructor
 ·rintro ⟨a,ha,hd,rfl⟩
  obtain ⟨R,hR,hbit⟩:=itr_rows ((hD.f.mem a).1 ha)
  cases R with
  | nil=>
   exfalso
   have:a=2 ^ C.length-1:=Nat.eq_of_testBit_eq fun k=>by
    rw [hbit k,Nat.testBit_two_pow_sub_one]; simp
   rw [this,dim_whole hF] at hd
   omega
  | cons r R=>
   have hr:=hR r (by simp)
   have hlt:=h.idx_lt hr
   obtain ⟨h0,h1,_⟩:=h.epC hr
   have i1:=(idx_get h1).1
   have hsub:∀k,a.testBit k=true→k=C.idxOf (ep C 0 r)∨k=C.idxOf (ep C 1 r):=fun k hk=>by
    rw [hbit k] at hk
    simp only [List.all_cons,Bool.and_eq_true,decide_eq_true_eq] at hk
    have:(sdN C r).testBit k=true:=by
     unfold sdN
     rw [sdTo_bit,Bool.and_eq_true,decide_eq_true_eq,decide_eq_true_eq]
     exact ⟨hk.1,hk.2.1⟩
    rw [h.sd hr,Nat.testBit_or,Nat.testBit_two_pow,Nat.testBit_two_pow,Bool.or_eq_true,decide_eq_true_eq,decide_eq_true_eq] at this
    omega
   refine ⟨r,hr,?_⟩
   obtain ⟨i,hi⟩:∃i,i=C.idxOf (ep C 0 r):=⟨_,rfl⟩
   obtain ⟨j,hj⟩:∃j,j=C.idxOf (ep C 1 r):=⟨_,rfl⟩
   rw [←hi,←hj] at hsub hlt ⊢
   rw [←hj] at i1
   have ext:∀b:Nat,(∀k,b.testBit k=a.testBit k)→a=b:=fun b hb=>Nat.eq_of_testBit_eq fun k=>(hb k).symm
   cases bi:a.testBit i
   ·cases bj:a.testBit j
    ·exfalso
     rw [ext 0 fun k=>by
      rw [Nat.zero_testBit]
      cases hk:a.testBit k
      ·rfl
      ·rcases hsub k hk with rfl | rfl
       ·rw [bi] at hk; cases hk
       ·rw [bj] at hk; cases hk] at hd
     have:memL 0=[]:=by decide +kernel
     simp [dimL,this] at hd
    ·exfalso
     have e:a=2 ^ j:=ext (2 ^ j) fun k=>by
      rw [Nat.testBit_two_pow]
      cases hk:a.testBit k
      ·refine decide_eq_false fun e=>?_
       rw [←e,bj] at hk; cases hk
      ·refine decide_eq_true ?_
       rcases hsub k hk with rfl | rfl
       ·rw [bi] at hk; cases hk
       ·rfl
     rw [e,vert_dim (by omega)] at hd
     omega
   ·cases bj:a.testBit j
    ·exfalso
     have e:a=2 ^ i:=ext (2 ^ i) fun k=>by
      rw [Nat.testBit_two_pow]
      cases hk:a.testBit k
      ·refine decide_eq_false fun e=>?_
       rw [←e,bi] at hk; cases hk
      ·refine decide_eq_true ?_
       rcases hsub k hk with rfl | rfl
       ·rfl
       ·rw [bj] at hk; cases hk
     rw [e,vert_dim (by omega)] at hd
     omega
    ·rw [ext (2 ^ i ||| 2 ^ j) fun k=>by
      rw [Nat.testBit_or,Nat.testBit_two_pow,Nat.testBit_two_pow]
      cases hk:a.testBit k
      ·rw [Bool.or_eq_false_iff]
       refine ⟨decide_eq_false fun e=>?_,decide_eq_false fun e=>?_⟩
       ·rw [←e,bi] at hk; cases hk
       ·rw [←e,bj] at hk; cases hk
      ·rw [Bool.or_eq_true,decide_eq_true_eq,decide_eq_true_eq]
       rcases hsub k hk with e | e
       ·exact Or.inl e.symm
       ·exact Or.inr e.symm]
     exact mem_two ⟨i,by omega⟩ ⟨j,by omega⟩ hlt
 ·rintro ⟨r,hr,rfl⟩
  have hlt:=h.idx_lt hr
  obtain ⟨h0,h1,_⟩:=h.epC hr
  have i1:=(idx_get h1).1
  have hgC:=h.cgood
  have hml:memL (sdN C r)=[((C.idxOf (ep C 0 r):Nat):Int),((C.idxOf (ep C 1 r):Nat):Int)]:=by
   rw [h.sd hr]
   exact mem_two ⟨C.idxOf (ep C 0 r),by omega⟩ ⟨C.idxOf (ep C 1 r),by omega⟩ hlt
  refine ⟨sdN C r,(hD.f.mem _).2 ?_,?_,hml.symm⟩
  ·have:=Itr.cut (n:=C.length) (S:=s.map (sdN C)) .full (List.mem_map.2 ⟨r,hr,rfl⟩)
   rw [Nat.and_comm,Nat.and_two_pow_sub_one_eq_mod,Nat.mod_eq_of_lt (show sdN C r < 2 ^ C.length from sdTo_lt C r C.length)] at this
   exact this
  ·unfold dimL
   rw [hml,if_neg (by simp)]
   have hpk:pks C [] [((C.idxOf (ep C 0 r):Nat):Int),((C.idxOf (ep C 1 r):Nat):Int)]=[ep C 0 r,ep C 1 r]:=by
    show [C.getD (C.idxOf (ep C 0 r)) [],C.getD (C.idxOf (ep C 1 r)) []]=_
    rw [(idx_get h0).2,(idx_get h1).2]
   have hE:endL C r=[ep C 0 r,ep C 1 r]:=by
    obtain ⟨p,q,hE,_⟩:=h.two hr
    unfold ep
    rw [hE]; rfl
   have:=side_rank hgC ((h.rc r).1 hr) (p:=[ep C 0 r,ep C 1 r]) fun y=>by
    rw [←hE,h.onl hr,dot2]
    exact and_congr_right fun _=>eq_comm
   rw [hpk]
   omega
theorem SrC.pulled (h:SrC 2 P s C) (hn:P.length≤10) {A:List Nat} {LV:Nat→List (List Int)} (hD:VDo 2 P C s A LV) (x:List Int) :
  x∈(pulS LV (idn C.length) 3 (memL (2 ^ C.length-1))).map memL↔∃r∈s,C.idxOf (ep C 0 r)≠0∧x=clR C r:=by
 have hF:=doc_fc h.good hn hD.f
 have hC10:=doc_small hD.f hn
 have hC2:=h.cgood.n2
 obtain ⟨_,_,_,hone⟩:=hD.idp h.good hn
 have hv:∀v∈LV 1,∃k,k < C.length∧v=[(k:Int)]:=fun v hv=>by
  obtain ⟨a,ha,h1,rfl⟩:=((hD.l 1 (by decide)).2 v).1 hv
  obtain ⟨k,hk,rfl⟩:=vert_of hF (hD.f.all.lt a ha) (by omega)
  exact ⟨k,hk,memL_one (by omega)⟩
 have hv':∀k,k < C.length→[(k:Int)]∈LV 1:=fun k hk=>((hD.l 1 (by decide)).2 _).2 ⟨2 ^ k,(hD.f.mem _).2 (vert_itr hF hk),by rw [vert_dim (by omega)]; rfl,(memL_one (by omega)).symm⟩
 have hf0:fstO (idn C.length) (memL (2 ^ C.length-1))=0:=by
  rw [fstO_take (k:=0) (by rw [idn_len]; omega) (fun x hx=>by simp at hx) (by rw [idn_at (by omega)]; exact whole_0 ⟨C.length,by omega⟩ (by simp only; omega)),idn_at (by omega)]
  rfl
 -- the cells beneath one side
 have h2:∀i j:Nat,i < j→j < C.length→∀c,c∈pulD LV (idn C.length) 2 [(i:Int),(j:Int)]↔c=[(j:Int),(i:Int)]:=fun i j hij hj c=>by
  have hfi:=fst_two (n:=C.length) (show i < C.length by omega) hij
  unfold pulD
  rw [List.mem_flatMap]
  constructor
  ·rintro ⟨v,hvm,hc⟩
   obtain ⟨k,hk,rfl⟩:=hv v hvm
   by_cases ht:tkB (idn C.length) [(i:Int),(j:Int)] [(k:Int)]=true
   ·rw [if_pos ht] at hc
    obtain ⟨t1,t2⟩:=tk_sub (fun y hy=>by
     simp only [List.mem_cons,List.not_mem_nil,or_false] at hy; omega) (fun y hy=>by
     simp only [List.mem_cons,List.not_mem_nil,or_false] at hy; omega) ht
    rw [hfi] at t1 hc
    have t3:=t2 (k:Int) (by simp)
    simp only [List.mem_cons,List.not_mem_nil,or_false] at t1 t3
    have hkj:k=j:=by omega
    subst hkj
    simp only [pulD,List.map_cons,List.map_nil,List.mem_cons,List.not_mem_nil,or_false] at hc
    rw [hc]; rfl
   ·rw [if_neg ht] at hc
    simp at hc
  ·rintro rfl
   refine ⟨[(j:Int)],hv' j hj,?_⟩
   have ht:tkB (idn C.length) [(i:Int),(j:Int)] [(j:Int)]=true:=by
    unfold tkB
    rw [hfi,Bool.and_eq_true]
    refine ⟨?_,decide_eq_true (set_in2 ⟨i,by omega⟩ ⟨j,by omega⟩)⟩
    rw [Bool.not_eq_true',decide_eq_false_iff_not]
    simp
    omega
   rw [if_pos ht,hfi]
   simp [pulD]
 rw [pul_cells]
 have h3:∀c,c∈pulD LV (idn C.length) 3 (memL (2 ^ C.length-1))↔∃r∈s,C.idxOf (ep C 0 r)≠0∧c=[((C.idxOf (ep C 1 r):Nat):Int),((C.idxOf (ep C 0 r):Nat):Int),0]:=fun c=>by
  rw [show pulD LV (idn C.length) 3 (memL (2 ^ C.length-1))=(LV 2).flatMap fun g=>if tkB (idn C.length) (memL (2 ^ C.length-1)) g then (pulD LV (idn C.length) 2 g).map fun c=>c ++ [fstO (idn C.length) (memL (2 ^ C.length-1))] else [] from rfl,List.mem_flatMap,hf0]
  constructor
  ·rintro ⟨g,hg,hc⟩
   obtain ⟨r,hr,rfl⟩:=(h.lev2 hn hD g).1 hg
   have hlt:=h.idx_lt hr
   have i1:=(idx_get (h.epC hr).2.1).1
   refine ⟨r,hr,?_⟩
   by_cases ht:tkB (idn C.length) (memL (2 ^ C.length-1)) [((C.idxOf (ep C 0 r):Nat):Int),((C.idxOf (ep C 1 r):Nat):Int)]=true
   ·rw [if_pos ht] at hc
    obtain ⟨t1,_⟩:=tk_sub (whole_lt ⟨C.length,by omega⟩) (fun y hy=>by
     simp only [List.mem_cons,List.not_mem_nil,or_false] at hy; omega) ht
    rw [hf0] at t1
    obtain ⟨c',hc',rfl⟩:=List.mem_map.1 hc
    rw [(h2 _ _ hlt i1 c').1 hc']
    refine ⟨fun e=>t1 ?_,rfl⟩
    rw [e]; simp
   ·rw [if_neg ht] at hc
    simp at hc
  ·rintro ⟨r,hr,hne,rfl⟩
   have hlt:=h.idx_lt hr
   have i1:=(idx_get (h.epC hr).2.1).1
   refine ⟨_,(h.lev2 hn hD _).2 ⟨r,hr,rfl⟩,?_⟩
   have ht:tkB (idn C.length) (memL (2 ^ C.length-1)) [((C.idxOf (ep C 0 r):Nat):Int),((C.idxOf (ep C 1 r):Nat):Int)]=true:=by
    unfold tkB
    rw [hf0,Bool.and_eq_true]
    refine ⟨?_,decide_eq_true (set_inW ⟨C.length,by omega⟩ ⟨C.idxOf (ep C 0 r),by omega⟩ ⟨C.idxOf (ep C 1 r),by omega⟩ (by simp only; omega) (by simp only; omega))⟩
    rw [Bool.not_eq_true',decide_eq_false_iff_not]
    simp
    omega
   rw [if_pos ht]
   exact List.mem_map.2 ⟨_,(h2 _ _ hlt i1 _).2 rfl,rfl⟩
 rw [List.mem_map]
 constructor
 ·rintro ⟨c,hc,rfl⟩
  obtain ⟨r,hr,hne,rfl⟩:=(h3 c).1 hc
  have hlt:=h.idx_lt hr
  have i1:=(idx_get (h.epC hr).2.1).1
  exact ⟨r,hr,hne,cell_three ⟨C.idxOf (ep C 0 r),by omega⟩ ⟨C.idxOf (ep C 1 r),by omega⟩ (by simp only; omega) hlt⟩
 ·rintro ⟨r,hr,hne,rfl⟩
  have hlt:=h.idx_lt hr
  have i1:=(idx_get (h.epC hr).2.1).1
  exact ⟨_,(h3 _).2 ⟨r,hr,hne,rfl⟩,cell_three ⟨C.idxOf (ep C 0 r),by omega⟩ ⟨C.idxOf (ep C 1 r),by omega⟩ (by simp only; omega) hlt⟩
end
end Go.Proofs.YtdanomklbiidaaaGreatDoor

namespace Go.Proofs.YtdanomklbiidaaaGreatDoor
open Go.RowKit Lin
theorem sum_bdQ {α:Type} (f:α→Int) (B:Nat):∀l:List α,(∀x∈l,0≤f x∧f x≤B)→0≤(l.map f).sum∧(l.map f).sum≤B*(l.length:Nat)
 | [],_=>by simp
 | x :: l,h=>by
  obtain ⟨h1,h2⟩:=sum_bdQ f B l fun y hy=>h y (by simp [hy])
  obtain ⟨h3,h4⟩:=h x (by simp)
  have e:(B:Int)*((x :: l).length:Nat)=B*(l.length:Nat)+B:=by simp [Int.mul_add]
  simp only [List.map_cons,List.sum_cons]
  rw [e]
  omega
theorem arQ_bd {Q:List (List Int)} (hg:Good 2 Q) (h16:Q.length≤16):0≤arQ Q∧arQ Q≤200000000000:=by
 have hS:=srS hg
 have hl:=rowsD_len (d:=2) (by decide) h16 (sort_of (rowsD Q 2)).choose_spec.1 (sort_of (rowsD Q 2)).choose_spec.2
 have hb:=sum_bdQ (arR (crnS Q)) 10000 (rowsS Q) fun r hr=>by
  obtain ⟨p,q,he,⟨hp,_⟩,⟨hq,_⟩,_⟩:=hS.two hr
  have h0:(crnS Q).getD 0 []∈crnS Q:=hS.left.1
  unfold arR
  rw [he]
  have hbx:Box 2 30 [(crnS Q).getD 0 [],p,q]:=fun y hy=>by
   simp only [List.mem_cons,List.not_mem_nil,or_false] at hy
   rcases hy with rfl | rfl | rfl
   ·exact hg.box _ (hS.sub h0)
   ·exact hg.box _ (hS.sub hp)
   ·exact hg.box _ (hS.sub hq)
  have hln:(diffL [(crnS Q).getD 0 [],p,q]).length=2:=rfl
  have hmx:=diff_mx hbx (by decide) (by decide)
  have hsq:Sq (diffL [(crnS Q).getD 0 [],p,q]).length 60 (diffL [(crnS Q).getD 0 [],p,q]):=⟨rfl,fun r hr=>by rw [hmx.row r hr,hln]; exact Nat.le_refl _,fun r hr j hj=>hmx.bd r hr _ (getD_mem (by rw [hmx.row r hr]; omega)),by rw [hln]; decide,by omega,by decide⟩
  have:=detL_bdC hsq
  rw [hln] at this
  have h2:Lin.fb 60 2≤10000:=by decide
  show (0:Int)≤((detL (diffL [(crnS Q).getD 0 [],p,q])).natAbs:Int)∧((detL (diffL [(crnS Q).getD 0 [],p,q])).natAbs:Int)≤_
  omega
 unfold arQ arS
 have hl':(rowsS Q).length≤16777216:=hl
 omega
set_option maxRecDepth 100000 in
theorem volQ_any (Q:List (List Int)) (v:Value) (w:World) (hv:Mat w.heap.size 22 3 w v Q) (hg:Good 2 Q) (h10:Q.length≤10) (hT:TabB w) :
  Calls Tryz.prog 9 #[.agg #[.int .i64 2,v]] w fun e w'=>e=.returned (.tuple #[.int .i64 (arQ Q),.int .i64 0])∧Below w.heap.size w w':=by
 have hS:=srS hg
 obtain ⟨A,LV,hD⟩:=hS.vdo
 obtain ⟨q1,q2,q3,q4⟩:=hD.idp hg h10
 refine (volOf_any 2 Q (crnS Q) (rowsS Q) (rowsS Q) A v w hv hg hg.box h10 hT hD.f hD.l q1 q3 _ q2 hS.rows hS.casc hS.crns (by rw [pul_cells]; exact cells_fit q1.o (doc_small hD.f h10) q4 q2)).mono ?_
 rintro e w' ⟨mm,rfl,h1,h2,h3⟩
 refine ⟨?_,h3⟩
 rw [hS.cells h1.nodup fun x=>(h2 x).trans (hS.pulled h10 hD x)]
 rfl
theorem cell_ok {P:List (List Int)} (hg:Good 2 P) {hs c:List Int} (h:∃i j k,i < j∧j < k∧k < P.length∧okR P hs i j k∧c=onR P hs i j k) :
  (∀z∈c,0≤z∧z < (P.length:Int))∧Good 2 (pks P [] c)∧c.length≤P.length:=by
 obtain ⟨i,j,k,h1,h2,h3,h4,rfl⟩:=h
 obtain ⟨z0,z1,z2⟩:=htR_at P hs i j k
 have e:pks P [] (onR P hs i j k)=((List.range P.length).filter fun q=>decide (htR P hs i j k q=0)).map fun q=>P.getD q []:=by
  unfold pks onR
  rw [List.map_map]
  exact List.map_congr_left fun q _=>by simp
 have hl:((List.range P.length).filter fun q=>decide (htR P hs i j k q=0)).length≤P.length:=Nat.le_trans (List.length_filter_le _ _) (by simp)
 have mz:∀q,q < P.length→htR P hs i j k q=0→q∈(List.range P.length).filter fun q=>decide (htR P hs i j k q=0):=fun q hq e=>by
  rw [List.mem_filter]; exact ⟨List.mem_range.2 hq,by rw [e]; rfl⟩
 refine ⟨fun z hz=>?_,?_,by unfold onR; rw [List.length_map]; exact hl⟩
 ·obtain ⟨q,hq,rfl⟩:=List.mem_map.1 hz
  have:=List.mem_range.1 (List.mem_filter.1 hq).1
  omega
 ·rw [e]
  exact sub_good hg (fun q hq=>List.mem_range.1 (List.mem_filter.1 hq).1) hl (mz i (by omega) z0) (mz j (by omega) z1) (mz k h3 z2) h4.1
end Go.Proofs.YtdanomklbiidaaaGreatDoor

namespace Go.Proofs.YtdanomklbiidaaaGreatDoor
open Go.RowKit
attribute [local go_sem ↓] Go.wp_at_zero Go.wp_at_succ
set_option maxRecDepth 100000 in
set_option maxHeartbeats 400000 in
theorem rawW_any (B:Nat) (l:List Int) (v:Value) (i:Nat) (w:World) (hv:Sl B 3 w v (ints l)) (hr:∀z∈l,In64 z) (hl:l.length≤9223372036854775807) (hi:i≤1000000) :
  Calls Tryz.prog 13 #[v,.int .i64 i] w fun e w'=>∃z,e=.returned (.int .i64 z)∧(0≤z∧z≤4611686018427387904)∧Below w.heap.size w w':=by
 obtain ⟨ao,cap,hvv,hlc,hcm⟩:=sl_open hv
 subst hvv
 by_cases h0:l.length=0
 ·rw [h0]
  clear hv
  go_enter Tryz.func13,Tryz.ntmps13
  go_wp2
  go_ret
  exact ⟨_,rfl,by omega,Below.refl _ _⟩
 ·have hk:i % l.length < l.length:=Nat.mod_lt _ (by omega)
  obtain ⟨b,o,cp,hs,hc,hcc⟩:=sl_cell hv hk
  simp only [Value.slice.injEq] at hs
  obtain ⟨rfl,_,rfl⟩:=hs
  have hmem:l.getD (i % l.length) 0∈l:=by simp [hk]
  have hin:In64 (l.getD (i % l.length) 0):=hr _ hmem
  have HP:Hid (Calls Tryz.prog 6 #[.int .i64 (l.getD (i % l.length) 0),.int .i64 1000003] w.drew fun e w'=>∃z,e=.returned (.int .i64 z)∧(0≤z∧z < 1000003)∧w'=w.drew):=pick_any _ _ _ (by omega) (by omega) hin
  generalize hz:l.getD (i % l.length) 0=z0 at *
  have hd0:i / l.length≤1000000:=Nat.le_trans (Nat.div_le_self _ _) hi
  have hq:(i:Int).tmod (l.length:Int)=((i % l.length:Nat):Int):=by rw [Int.tmod_eq_emod_of_nonneg (by omega)]; rfl
  have hqd:(i:Int).tdiv (l.length:Int)=((i / l.length:Nat):Int):=by rw [Int.tdiv_eq_ediv_of_nonneg (by omega)]; rfl
  clear hv hr hmem hin hz
  generalize i % l.length=k at *
  generalize i / l.length=q at *
  generalize l.length=n at *
  have hn0:¬(n:Int)=0:=by omega
  have hnb:((n:Int) == 0)=false:=by rw [beq_eq_false_iff_ne]; exact hn0
  have hk0:(0:Int)≤(k:Int):=by omega
  have hkn:(k:Int) < (n:Int):=by omega
  go_enter Tryz.func13,Tryz.ntmps13
  go_wp2
  go_region_law (refine step_call2 (o:={ dst:=some 17,op:=_,type:=_,pos:=_,after:=_,guard:=_ }) (by rfl) 6 _ _ 3 3 (by rfl) _ _ (by rfl) (by rfl) ⟨_,Tryz.func6,by rfl,by rfl⟩ ?_; refine (HP.out).mono ?_; rintro e w2 ⟨z,rfl,hz,rfl⟩; refine ⟨_,rfl,?_⟩; have hz1:=hz.1; have hz2:=hz.2; clear hz)
  all_goals
   have e1:IntKind.i64.wrap (z+IntKind.i64.wrap (IntKind.i64.wrap (q:Int)*7919))=z+q*7919:=by
    rw [IntWalk.i64_left,IntWalk.i64_left,IntWalk.i64_left,IntWalk.wrap64_in (q:Int) ⟨by omega,by omega⟩,IntWalk.wrap64_in ((q:Int)*7919) ⟨by omega,by omega⟩,IntWalk.wrap64_in _ ⟨by omega,by omega⟩]
   go_wp2
   go_ret
   exact ⟨_,rfl,by rw [e1]; omega,Below.drew (Below.refl _ _)⟩
set_option maxRecDepth 100000 in
set_option maxHeartbeats 1600000 in
theorem pointsOfW_any (B:Nat) (l:List Int) (v:Value) (fr n many wd:Nat) (w:World) (hv:Sl B 3 w v (ints l)) (hr:∀z∈l,In64 z) (hl:l.length≤9223372036854775807) (hfr:fr≤1000) (hn:n≤100) (hmy:many≤100) (hwd:wd≤1000000) :
  Calls Tryz.prog 5 #[v,.int .i64 fr,.int .i64 n,.int .i64 many,.int .i64 wd] w fun e w'=>∃x m,e=.returned x∧m.length=many∧Box n wd m∧Fr w.heap.size 22 3 w' x m∧Below w.heap.size w w':=by
 obtain ⟨i0,hi,hz0,hz1,hz2⟩:=info_parts Tryz.info22
 obtain ⟨i3,hi3,hz30,hz31,hz32⟩:=info_parts Tryz.info3
 obtain ⟨ao,cap,hvv,hlc,hcm⟩:=sl_open hv
 subst hvv
 have HV:Hid (Sl B 3 w (.slice ao l.length cap) (ints l)):=hv
 have HR:Hid (∀z∈l,In64 z):=hr
 have HLL:Hid (l.length≤9223372036854775807):=hl
 clear hv hr hl
 go_enter Tryz.func5,Tryz.ntmps5
 go_wp2
 go_loopw [11,12] (fun x i wr=>∃(k:Nat) (m:List (List Int)),k≤many∧i=.int .i64 k∧m.length=k∧Box n wd m∧Fr w.heap.size 22 3 wr x m∧Below w.heap.size w wr) (fun _ i _=>many-(intOf i).toNat)
 case atStart=>exact ⟨0,[],Nat.zero_le _,rfl,rfl,(fun r hr=>absurd hr (by simp)),Fr.nil _ _ _ _,Below.refl _ _⟩
 case round=>
  obtain ⟨k,m,hk,rfl,hml,hbx,hrw,hbel⟩:=hrel
  obtain ⟨wa,rfl⟩:∃wa,wa=wr:=⟨wr,rfl⟩
  have HML:Hid (m.length=k):=hml
  have HBX:Hid (Box n wd m):=hbx
  have HRW:Hid (Fr w.heap.size 22 3 wa u11 m):=hrw
  have HB:Hid (Below w.heap.size w wa):=hbel
  have hsz:w.heap.size≤wa.heap.size:=hbel.size
  clear hrw hbel hml hbx
  by_cases hlt:k < many
  ·have HVa:Hid (Sl B 3 wa (.slice ao l.length cap) (ints l)):=HV.out.below HB.out (Nat.le_refl _)
   have hkn:k*n≤10000:=Nat.le_trans (Nat.mul_le_mul (show k≤100 by omega) hn) (by decide)
   obtain ⟨kn,hkne⟩:∃kn,kn=k*n:=⟨_,rfl⟩
   have hkI:(k:Int)*(n:Int)=(kn:Int):=by rw [hkne]; simp
   rw [←hkne] at hkn
   clear hkne
   obtain ⟨M,hM⟩:∃M,M=wa.heap.size:=⟨_,rfl⟩
   have HM:Hid (M=wa.heap.size):=hM
   have hMs:w.heap.size≤M:=by omega
   clear hM
   go_wp2
   go_loopw [13,14] (fun x i wq=>∃(j:Nat) (r:List Int),j≤n∧i=.int .i64 j∧r.length=j∧(∀z∈r,-(wd:Int)≤z∧z≤wd)∧wq.ownsRow M 3 1 x j (ints r)∧Below M wa wq) (fun _ i _=>n-(intOf i).toNat)
   case atStart=>exact ⟨0,[],Nat.zero_le _,rfl,rfl,(fun r hr=>absurd hr (by simp)),World.ownsRow_nil _ _ _ _,Below.refl _ _⟩
   case round=>
    obtain ⟨j,r,hj,rfl,hrl,hrb,hown,hbel⟩:=hrel
    obtain ⟨wb,rfl⟩:∃wb,wb=wr:=⟨wr,rfl⟩
    have HO:Hid (wb.ownsRow M 3 1 u13 j (ints r)):=hown
    have HBq:Hid (Below M wa wb):=hbel
    have HRL:Hid (r.length=j):=hrl
    have HRB:Hid (∀z∈r,-(wd:Int)≤z∧z≤wd):=hrb
    have hszq:M≤wb.heap.size:=by have:=hbel.size; rw [HM.out]; exact this
    clear hown hbel hrl hrb
    obtain ⟨xo,xc,hxv⟩:=owns_form HO.out
    subst hxv
    by_cases hjl:j < n
    ·have HVb:Hid (Sl B 3 wb (.slice ao l.length cap) (ints l)):=HVa.out.below HBq.out (by rw [HM.out]; exact Nat.le_refl _)
     have HIX:Hid ((fr:Int)+kn+j=((fr+kn+j:Nat):Int)):=by
      show _=_
      omega
     go_wp2_with fail
     rw [HIX.out]
     refine (rawW_any B l _ (fr+kn+j) wb HVb.out HR.out HLL.out (by omega)).mono ?_
     rintro e w1 ⟨c,rfl,hc,hb1⟩
     have HC:Hid (In64 c):=⟨by have:=hc.1; omega,by have:=hc.2; omega⟩
     have HB1:Hid (Below wb.heap.size wb w1):=hb1
     clear hc hb1
     go_wp2_with fail
     refine (pick_any c (2*(wd:Int)+1) w1 (by omega) (by omega) HC.out).mono ?_
     rintro e w2 ⟨z,rfl,hz,rfl⟩
     have hz1:=hz.1
     have hz2:=hz.2
     have HZ:Hid (-(wd:Int)≤z-wd∧z-wd≤wd):=⟨by omega,by omega⟩
     have hzI : -1000000≤z-wd:=by omega
     have hzJ:z-wd≤1000000:=by omega
     have HO1:Hid (w2.ownsRow M 3 1 (.slice xo j xc) j (ints r)):=owns_below HO.out HB1.out (Nat.le_refl _)
     have HBq1:Hid (Below M wa w2):=HBq.out.trans (HB1.out.mono hszq)
     have hsz2:M≤w2.heap.size:=Nat.le_trans hszq HB1.out.size
     clear hz HO HBq HB1 HC
     go_wp2_with (first | (at_builtin; refine wpList_append_own _ rfl _ _ 22 rfl M 3 i3 (.int .i64 0) 1 8 Tryz.underlying22 hi3 hz30 hz31 hz32 rfl (by decide) _ _ _ rfl (HO1.out.alloc _) ⟨w2.heap.size,0,none⟩ 1 1 [.int .i64 (z-wd)] rfl rfl (one_new _ _ _) (one_int _) ?c3 ?c4 ?c5 ?_))
     case c3=>unfold maxLen; omega
     case c4=>omega
     case c5=>simp; omega
     intro v' w3 ho hg _
     have R:=owns_push (z:=z-wd) (N:=j+1) hsz2 (l:=r) (by rw [HRL.out]; exact HO1.out) HBq1.out (by rw [HRL.out]; exact ho) hg (by rw [HRL.out])
     have R1:Hid (w3.ownsRow M 3 1 v' (j+1) (ints (r ++ [z-wd]))):=R.1
     have R2:Hid (Below M wa w3):=R.2
     clear R ho hg
     go_wp2
     go_roundw
     case rel=>exact ⟨j+1,r ++ [z-wd],by omega,by go_num,by simp [HRL.out],near_snoc HRB.out HZ.out,R1.out,R2.out⟩
     case measure=>simp [intOf]; omega
    ·have hjn:j=n:=by omega
     subst hjn
     have HX:Hid (Sl 0 3 wb (.slice xo j xc) (ints r)):=Sl.own HO.out
     have HRq:Hid (Fr w.heap.size 22 3 wb u11 m):=HRW.out.below HBq.out (by rw [HM.out]; exact Nat.le_refl _)
     have HBw:Hid (Below w.heap.size w wb):=HB.out.trans (HBq.out.mono hMs)
     obtain ⟨vs,g1,g2,g3⟩:=HRq.out
     have hml:=HML.out
     rw [hml] at g1 g2 g3
     have G1:Hid (vs.length=k):=g1
     have G2:Hid (wb.ownsRow w.heap.size 22 1 u11 k vs):=g2
     have G3:Hid (∀i,i < k→Sl 0 3 wb (vs.getD i (.slice none 0 0)) (ints (m.getD i []))):=g3
     clear g1 g2 g3 hml HO hjl
     go_wp2_with (first | (at_builtin; refine wpList_append_own _ rfl _ _ 23 rfl w.heap.size 22 i0 (.slice none 0 0) 1 24 Tryz.underlying23 hi hz0 hz1 hz2 rfl (by decide) _ _ _ rfl (G2.out.alloc _) ⟨wb.heap.size,0,none⟩ 1 1 [.slice xo j xc] rfl rfl (one_new _ _ _) (one_slice _ _ _) ?d3 ?d4 ?d5 ?_))
     case d3=>unfold maxLen; omega
     case d4=>omega
     case d5=>simp; omega
     intro v' w3 ho hg _
     have R1:Hid (Fr w.heap.size 22 3 w3 v' (m ++ [r])):=
      Fr.push (e2:=22) (e1:=3) (m:=m) (u:=.slice xo j xc) (zs:=r) (by decide) (by rw [HML.out]; exact G1.out) (by rw [HML.out]; exact G2.out.alloc _)
       (fun i hi=>(G3.out i (by rw [HML.out] at hi; exact hi)).alloc _) (HX.out.alloc _) (by rw [HML.out]; exact ho) hg
     have R2:Hid (Below w.heap.size w w3):=(HBw.out.alloc (by omega) _).grown hg (by simp; omega) (fun x hx=>(G2.out.lt x hx).1)
     clear ho hg
     go_wp2
     go_roundw
     case rel=>exact ⟨k+1,m ++ [r],by omega,by go_num,by simp [HML.out],HBX.out.snoc HRL.out HRB.out,R1.out,R2.out⟩
     case measure=>simp [intOf]; omega
  ·have hkm:k=many:=by omega
   subst hkm
   clear hlt
   go_wp2
   go_ret
   exact ⟨_,m,rfl,HML.out,HBX.out,HRW.out,HB.out⟩
end Go.Proofs.YtdanomklbiidaaaGreatDoor
