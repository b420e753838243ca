import Derived.Test.YtadpjlpdfimaeaaGreatDoorMgBM
import Derived.Test.YtadpjlpdfimaeaaGreatDoorMgBB
import Derived.Test.YtadpjlpdfimaeaaGreatDoorMgAP
import Derived.Test.YtadpjlpdfimaeaaGreatDoorMgAO
import Derived.Test.YtadpjlpdfimaeaaGreatDoorMgAE
import Derived.Test.YtadpjlpdfimaeaaGreatDoorMgAI
import Derived.Test.YtadpjlpdfimaeaaGreatDoorMgAZ
namespace Go.Proofs.YtadpjlpdfimaeaaGreatDoor
open Go.RowKit Lin
theorem sort_put (q:List Int):∀s:List (List Int),SAsc s→∃t,SAsc t∧∀r,r∈t↔r=q∨r∈s
 | [],_=>⟨[q],by simp [SAsc],fun r=>by simp⟩
 | a :: s,h=>by
  have h':=List.pairwise_cons.1 h
  by_cases h1:cmpL q a < 0
  ·refine ⟨q :: a :: s,List.pairwise_cons.2 ⟨fun r hr=>?_,h⟩,fun r=>by simp⟩
   rcases List.mem_cons.1 hr with rfl | hr
   ·exact h1
   ·exact cmpL_trans _ _ _ h1 (h'.1 r hr)
  ·by_cases h2:cmpL a q < 0
   ·obtain ⟨t,ht,hm⟩:=sort_put q s h'.2
    refine ⟨a :: t,List.pairwise_cons.2 ⟨fun r hr=>?_,ht⟩,fun r=>?_⟩
    ·rcases (hm r).1 hr with rfl | hr
     ·exact h2
     ·exact h'.1 r hr
    ·simp only [List.mem_cons,hm r]
     constructor
     ·rintro (e | e | e)
      ·exact Or.inr (Or.inl e)
      ·exact Or.inl e
      ·exact Or.inr (Or.inr e)
     ·rintro (e | e | e)
      ·exact Or.inr (Or.inl e)
      ·exact Or.inl e
      ·exact Or.inr (Or.inr e)
   ·have e:=cmpL_eq q a h1 h2
    subst e
    exact ⟨q :: s,h,fun r=>by simp⟩
theorem sort_of:∀L:List (List Int),∃s,SAsc s∧∀r,r∈s↔r∈L
 | []=>⟨[],by simp [SAsc],fun r=>Iff.rfl⟩
 | q :: L=>by
  obtain ⟨s,h1,h2⟩:=sort_of L
  obtain ⟨t,h3,h4⟩:=sort_put q s h1
  exact ⟨t,h3,fun r=>by rw [h4 r,h2 r,List.mem_cons]⟩
theorem itr_ltP {n:Nat} {S:List Nat} {a:Nat} (h:Itr n S a):a < 2 ^ n:=by
 induction h with
 | full=>have:0 < 2 ^ n:=Nat.pow_pos (by decide); omega
 | cut _ _ ih=>exact Nat.lt_of_le_of_lt Nat.and_le_left ih
open Classical in
theorem clo_some (n:Nat) (S:List Nat):∃A,Clo n S A A.length:=by
 obtain ⟨A,hA⟩:∃A,A=(2 ^ n-1) :: (List.range (2 ^ n-1)).filter fun a=>decide (Itr n S a):=⟨_,rfl⟩
 have hm:∀a,a∈A↔Itr n S a:=fun a=>by
  rw [hA,List.mem_cons,List.mem_filter,List.mem_range,decide_eq_true_eq]
  constructor
  ·rintro (rfl | ⟨_,h⟩)
   ·exact .full
   ·exact h
  ·intro h
   have:=itr_ltP h
   by_cases e:a=2 ^ n-1
   ·exact Or.inl e
   ·exact Or.inr ⟨by omega,h⟩
 refine ⟨A,?_,fun a ha=>itr_ltP ((hm a).1 ha),⟨by rw [hA]; simp,by rw [hA]; rfl⟩,fun j hj t ht=>?_,fun a ha=>(hm a).1 ha,Nat.le_refl _⟩
 ·rw [hA]
  refine List.nodup_cons.2 ⟨fun h=>?_,List.nodup_range.sublist List.filter_sublist⟩
  have:=List.mem_range.1 (List.mem_filter.1 h).1
  omega
 ·refine (hm _).2 (.cut ((hm _).1 ?_) ht)
  simp [hj]
section
variable {P s C:List (List Int)}
theorem SrC.vdo (h:SrC 2 P s C):∃A LV,VDo 2 P C s A LV:=by
 obtain ⟨A,hA⟩:=clo_some C.length (s.map (sdN C))
 have hl:∀t:Nat,∃l,LevOk 2 C A t l:=fun t=>by
  obtain ⟨l,h1,h2⟩:=sort_of ((A.filter fun a=>decide (dimL 2 C a=(t:Int)-1)).map memL)
  refine ⟨l,h1,fun r=>?_⟩
  rw [h2 r]
  simp only [List.mem_map,List.mem_filter,decide_eq_true_eq]
  constructor
  ·rintro ⟨a,⟨q1,q2⟩,rfl⟩; exact ⟨a,q1,q2,rfl⟩
  ·rintro ⟨a,q1,q2,rfl⟩; exact ⟨a,⟨q1,q2⟩,rfl⟩
 refine ⟨A,fun t=>if t < 2+2 then (hl t).choose else [],⟨⟨h.casc,s,h.rows,h.crns⟩,⟨h.asc,fun r=>(h.rc r).trans mem_rowsD.symm⟩,hA⟩,fun t ht=>?_,fun t ht=>?_⟩
 ·simp only [ht,if_true]
  exact (hl t).choose_spec
 ·simp only [show ¬t < 2+2 by omega,if_false]
theorem mem_two:∀i j:Fin 10,i < j→memL (2 ^ i.val ||| 2 ^ j.val)=[(i.val:Int),(j.val:Int)]:=by decide +kernel
theorem cell_three:∀i j:Fin 10,0 < i.val→i < j→cellL [(j.val:Int),(i.val:Int),0]=[0,(i.val:Int),(j.val:Int)]:=by decide +kernel
theorem set_in2:∀i j:Fin 10,setN [(j.val:Int)] &&& setN [(i.val:Int),(j.val:Int)]=setN [(j.val:Int)]:=by decide +kernel
theorem set_inW:∀n:Fin 11,∀i j:Fin 10,i.val < n.val→j.val < n.val→setN [(i.val:Int),(j.val:Int)] &&& setN (memL (2 ^ n.val-1))=setN [(i.val:Int),(j.val:Int)]:=by decide +kernel
theorem whole_lt:∀n:Fin 11,∀x∈memL (2 ^ n.val-1),0≤x∧x < (10:Int):=by decide +kernel
theorem whole_0:∀n:Fin 11,0 < n.val→(0:Int)∈memL (2 ^ n.val-1):=by decide +kernel
theorem idn_at {n k:Nat} (hk:k < n):(idn n).getD k 0=(k:Int):=by simp [idn,hk]
theorem fst_two {n i j:Nat} (hi:i < n) (hij:i < j):fstO (idn n) [(i:Int),(j:Int)]=(i:Int):=by
 rw [fstO_take (k:=i) (by rw [idn_len]; exact hi) (fun x hx=>?_) (by rw [idn_at hi]; simp),idn_at hi]
 unfold idn at hx
 rw [←List.map_take,List.take_range,List.mem_map] at hx
 obtain ⟨k,hk,rfl⟩:=hx
 have:=List.mem_range.1 hk
 simp
 omega
theorem SrC.sd (h:SrC 2 P s C) {r:List Int} (hr:r∈s):sdN C r=2 ^ C.idxOf (ep C 0 r) ||| 2 ^ C.idxOf (ep C 1 r):=by
 obtain ⟨h0,h1,_⟩:=h.epC hr
 obtain ⟨i0,e0⟩:=idx_get h0
 obtain ⟨i1,e1⟩:=idx_get h1
 refine Nat.eq_of_testBit_eq fun k=>?_
 unfold sdN
 rw [sdTo_bit,Nat.testBit_or,Nat.testBit_two_pow,Nat.testBit_two_pow]
 have hE:endL C r=[ep C 0 r,ep C 1 r]:=by
  obtain ⟨p,q,hE,_⟩:=h.two hr
  unfold ep
  rw [hE]; rfl
 have hin:∀y∈C,overL r y=0↔y=ep C 0 r∨y=ep C 1 r:=fun y hy=>by
  have:y∈endL C r↔overL r y=0:=by unfold endL; rw [List.mem_filter,decide_eq_true_eq]; exact ⟨fun q=>q.2,fun q=>⟨hy,q⟩⟩
  rw [←this,hE]
  simp
 rw [Bool.eq_iff_iff]
 simp only [Bool.and_eq_true,Bool.or_eq_true,decide_eq_true_eq]
 constructor
 ·rintro ⟨hk,ho⟩
  have hm:C.getD k []∈C:=by simp [hk]
  have ek:C.getD k []=C[k]:=by simp [hk]
  rcases (hin _ hm).1 ho with e | e
  ·left
   rw [ek] at e
   rw [←e]
   exact sasc_idx h.casc (by rw [e]; exact i0) hk (List.getElem_idxOf _)
  ·right
   rw [ek] at e
   rw [←e]
   exact sasc_idx h.casc (by rw [e]; exact i1) hk (List.getElem_idxOf _)
 ·rintro (rfl | rfl)
  ·exact ⟨i0,(hin _ (by rw [e0]; exact h0)).2 (Or.inl e0)⟩
  ·exact ⟨i1,(hin _ (by rw [e1]; exact h1)).2 (Or.inr e1)⟩
theorem SrC.lev2 (h:SrC 2 P s C) (hn:P.length≤10) {A:List Nat} {LV:Nat→List (List Int)} (hD:VDo 2 P C s A LV) (g:List Int):g∈LV 2↔∃r∈s,g=[((C.idxOf (ep C 0 r):Nat):Int),((C.idxOf (ep C 1 r):Nat):Int)]:=by
 have hF:=doc_fc h.good hn hD.f
 have hC10:=doc_small hD.f hn
 rw [(hD.l 2 (by decide)).2 g]
 constructor
 ·rintro ⟨a,ha,hd,rfl⟩
  obtain ⟨R,hR,hbit⟩:=itr_rows ((hD.f.mem a).1 ha)
  cases R with
  | nil=>
   exfalso
   have:a=2 ^ C.length-1:=Nat.eq_of_testBit_eq fun k=>by
    rw [hbit k,Nat.testBit_two_pow_sub_one]; simp
   rw [this,dim_whole hF] at hd
   omega
  | cons r R=>
   have hr:=hR r (by simp)
   have hlt:=h.idx_lt hr
   obtain ⟨h0,h1,_⟩:=h.epC hr
   have i1:=(idx_get h1).1
   have hsub:∀k,a.testBit k=true→k=C.idxOf (ep C 0 r)∨k=C.idxOf (ep C 1 r):=fun k hk=>by
    rw [hbit k] at hk
    simp only [List.all_cons,Bool.and_eq_true,decide_eq_true_eq] at hk
    have:(sdN C r).testBit k=true:=by
     unfold sdN
     rw [sdTo_bit,Bool.and_eq_true,decide_eq_true_eq,decide_eq_true_eq]
     exact ⟨hk.1,hk.2.1⟩
    rw [h.sd hr,Nat.testBit_or,Nat.testBit_two_pow,Nat.testBit_two_pow,Bool.or_eq_true,decide_eq_true_eq,decide_eq_true_eq] at this
    omega
   refine ⟨r,hr,?_⟩
   obtain ⟨i,hi⟩:∃i,i=C.idxOf (ep C 0 r):=⟨_,rfl⟩
   obtain ⟨j,hj⟩:∃j,j=C.idxOf (ep C 1 r):=⟨_,rfl⟩
   rw [←hi,←hj] at hsub hlt ⊢
   rw [←hj] at i1
   have ext:∀b:Nat,(∀k,b.testBit k=a.testBit k)→a=b:=fun b hb=>Nat.eq_of_testBit_eq fun k=>(hb k).symm
   cases bi:a.testBit i
   ·cases bj:a.testBit j
    ·exfalso
     rw [ext 0 fun k=>by
      rw [Nat.zero_testBit]
      cases hk:a.testBit k
      ·rfl
      ·rcases hsub k hk with rfl | rfl
       ·rw [bi] at hk; cases hk
       ·rw [bj] at hk; cases hk] at hd
     have:memL 0=[]:=by decide +kernel
     simp [dimL,this] at hd
    ·exfalso
     have e:a=2 ^ j:=ext (2 ^ j) fun k=>by
      rw [Nat.testBit_two_pow]
      cases hk:a.testBit k
      ·refine decide_eq_false fun e=>?_
       rw [←e,bj] at hk; cases hk
      ·refine decide_eq_true ?_
       rcases hsub k hk with rfl | rfl
       ·rw [bi] at hk; cases hk
       ·rfl
     rw [e,vert_dim (by omega)] at hd
     omega
   ·cases bj:a.testBit j
    ·exfalso
     have e:a=2 ^ i:=ext (2 ^ i) fun k=>by
      rw [Nat.testBit_two_pow]
      cases hk:a.testBit k
      ·refine decide_eq_false fun e=>?_
       rw [←e,bi] at hk; cases hk
      ·refine decide_eq_true ?_
       rcases hsub k hk with rfl | rfl
       ·rfl
       ·rw [bj] at hk; cases hk
     rw [e,vert_dim (by omega)] at hd
     omega
    ·rw [ext (2 ^ i ||| 2 ^ j) fun k=>by
      rw [Nat.testBit_or,Nat.testBit_two_pow,Nat.testBit_two_pow]
      cases hk:a.testBit k
      ·rw [Bool.or_eq_false_iff]
       refine ⟨decide_eq_false fun e=>?_,decide_eq_false fun e=>?_⟩
       ·rw [←e,bi] at hk; cases hk
       ·rw [←e,bj] at hk; cases hk
      ·rw [Bool.or_eq_true,decide_eq_true_eq,decide_eq_true_eq]
       rcases hsub k hk with e | e
       ·exact Or.inl e.symm
       ·exact Or.inr e.symm]
     exact mem_two ⟨i,by omega⟩ ⟨j,by omega⟩ hlt
 ·rintro ⟨r,hr,rfl⟩
  have hlt:=h.idx_lt hr
  obtain ⟨h0,h1,_⟩:=h.epC hr
  have i1:=(idx_get h1).1
  have hgC:=h.cgood
  have hml:memL (sdN C r)=[((C.idxOf (ep C 0 r):Nat):Int),((C.idxOf (ep C 1 r):Nat):Int)]:=by
   rw [h.sd hr]
   exact mem_two ⟨C.idxOf (ep C 0 r),by omega⟩ ⟨C.idxOf (ep C 1 r),by omega⟩ hlt
  refine ⟨sdN C r,(hD.f.mem _).2 ?_,?_,hml.symm⟩
  ·have:=Itr.cut (n:=C.length) (S:=s.map (sdN C)) .full (List.mem_map.2 ⟨r,hr,rfl⟩)
   rw [Nat.and_comm,Nat.and_two_pow_sub_one_eq_mod,Nat.mod_eq_of_lt (show sdN C r < 2 ^ C.length from sdTo_lt C r C.length)] at this
   exact this
  ·unfold dimL
   rw [hml,if_neg (by simp)]
   have hpk:pks C [] [((C.idxOf (ep C 0 r):Nat):Int),((C.idxOf (ep C 1 r):Nat):Int)]=[ep C 0 r,ep C 1 r]:=by
    show [C.getD (C.idxOf (ep C 0 r)) [],C.getD (C.idxOf (ep C 1 r)) []]=_
    rw [(idx_get h0).2,(idx_get h1).2]
   have hE:endL C r=[ep C 0 r,ep C 1 r]:=by
    obtain ⟨p,q,hE,_⟩:=h.two hr
    unfold ep
    rw [hE]; rfl
   have:=side_rank hgC ((h.rc r).1 hr) (p:=[ep C 0 r,ep C 1 r]) fun y=>by
    rw [←hE,h.onl hr,dot2]
    exact and_congr_right fun _=>eq_comm
   rw [hpk]
   omega
theorem SrC.pulled (h:SrC 2 P s C) (hn:P.length≤10) {A:List Nat} {LV:Nat→List (List Int)} (hD:VDo 2 P C s A LV) (x:List Int) :
  x∈(pulS LV (idn C.length) 3 (memL (2 ^ C.length-1))).map memL↔∃r∈s,C.idxOf (ep C 0 r)≠0∧x=clR C r:=by
 have hF:=doc_fc h.good hn hD.f
 have hC10:=doc_small hD.f hn
 have hC2:=h.cgood.n2
 obtain ⟨_,_,_,hone⟩:=hD.idp h.good hn
 have hv:∀v∈LV 1,∃k,k < C.length∧v=[(k:Int)]:=fun v hv=>by
  obtain ⟨a,ha,h1,rfl⟩:=((hD.l 1 (by decide)).2 v).1 hv
  obtain ⟨k,hk,rfl⟩:=vert_of hF (hD.f.all.lt a ha) (by omega)
  exact ⟨k,hk,memL_one (by omega)⟩
 have hv':∀k,k < C.length→[(k:Int)]∈LV 1:=fun k hk=>((hD.l 1 (by decide)).2 _).2 ⟨2 ^ k,(hD.f.mem _).2 (vert_itr hF hk),by rw [vert_dim (by omega)]; rfl,(memL_one (by omega)).symm⟩
 have hf0:fstO (idn C.length) (memL (2 ^ C.length-1))=0:=by
  rw [fstO_take (k:=0) (by rw [idn_len]; omega) (fun x hx=>by simp at hx) (by rw [idn_at (by omega)]; exact whole_0 ⟨C.length,by omega⟩ (by simp only; omega)),idn_at (by omega)]
  rfl
 -- the cells beneath one side
 have h2:∀i j:Nat,i < j→j < C.length→∀c,c∈pulD LV (idn C.length) 2 [(i:Int),(j:Int)]↔c=[(j:Int),(i:Int)]:=fun i j hij hj c=>by
  have hfi:=fst_two (n:=C.length) (show i < C.length by omega) hij
  unfold pulD
  rw [List.mem_flatMap]
  constructor
  ·rintro ⟨v,hvm,hc⟩
   obtain ⟨k,hk,rfl⟩:=hv v hvm
   by_cases ht:tkB (idn C.length) [(i:Int),(j:Int)] [(k:Int)]=true
   ·rw [if_pos ht] at hc
    obtain ⟨t1,t2⟩:=tk_sub (fun y hy=>by
     simp only [List.mem_cons,List.not_mem_nil,or_false] at hy; omega) (fun y hy=>by
     simp only [List.mem_cons,List.not_mem_nil,or_false] at hy; omega) ht
    rw [hfi] at t1 hc
    have t3:=t2 (k:Int) (by simp)
    simp only [List.mem_cons,List.not_mem_nil,or_false] at t1 t3
    have hkj:k=j:=by omega
    subst hkj
    simp only [pulD,List.map_cons,List.map_nil,List.mem_cons,List.not_mem_nil,or_false] at hc
    rw [hc]; rfl
   ·rw [if_neg ht] at hc
    simp at hc
  ·rintro rfl
   refine ⟨[(j:Int)],hv' j hj,?_⟩
   have ht:tkB (idn C.length) [(i:Int),(j:Int)] [(j:Int)]=true:=by
    unfold tkB
    rw [hfi,Bool.and_eq_true]
    refine ⟨?_,decide_eq_true (set_in2 ⟨i,by omega⟩ ⟨j,by omega⟩)⟩
    rw [Bool.not_eq_true',decide_eq_false_iff_not]
    simp
    omega
   rw [if_pos ht,hfi]
   simp [pulD]
 rw [pul_cells]
 have h3:∀c,c∈pulD LV (idn C.length) 3 (memL (2 ^ C.length-1))↔∃r∈s,C.idxOf (ep C 0 r)≠0∧c=[((C.idxOf (ep C 1 r):Nat):Int),((C.idxOf (ep C 0 r):Nat):Int),0]:=fun c=>by
  rw [show pulD LV (idn C.length) 3 (memL (2 ^ C.length-1))=(LV 2).flatMap fun g=>if tkB (idn C.length) (memL (2 ^ C.length-1)) g then (pulD LV (idn C.length) 2 g).map fun c=>c ++ [fstO (idn C.length) (memL (2 ^ C.length-1))] else [] from rfl,List.mem_flatMap,hf0]
  constructor
  ·rintro ⟨g,hg,hc⟩
   obtain ⟨r,hr,rfl⟩:=(h.lev2 hn hD g).1 hg
   have hlt:=h.idx_lt hr
   have i1:=(idx_get (h.epC hr).2.1).1
   refine ⟨r,hr,?_⟩
   by_cases ht:tkB (idn C.length) (memL (2 ^ C.length-1)) [((C.idxOf (ep C 0 r):Nat):Int),((C.idxOf (ep C 1 r):Nat):Int)]=true
   ·rw [if_pos ht] at hc
    obtain ⟨t1,_⟩:=tk_sub (whole_lt ⟨C.length,by omega⟩) (fun y hy=>by
     simp only [List.mem_cons,List.not_mem_nil,or_false] at hy; omega) ht
    rw [hf0] at t1
    obtain ⟨c',hc',rfl⟩:=List.mem_map.1 hc
    rw [(h2 _ _ hlt i1 c').1 hc']
    refine ⟨fun e=>t1 ?_,rfl⟩
    rw [e]; simp
   ·rw [if_neg ht] at hc
    simp at hc
  ·rintro ⟨r,hr,hne,rfl⟩
   have hlt:=h.idx_lt hr
   have i1:=(idx_get (h.epC hr).2.1).1
   refine ⟨_,(h.lev2 hn hD _).2 ⟨r,hr,rfl⟩,?_⟩
   have ht:tkB (idn C.length) (memL (2 ^ C.length-1)) [((C.idxOf (ep C 0 r):Nat):Int),((C.idxOf (ep C 1 r):Nat):Int)]=true:=by
    unfold tkB
    rw [hf0,Bool.and_eq_true]
    refine ⟨?_,decide_eq_true (set_inW ⟨C.length,by omega⟩ ⟨C.idxOf (ep C 0 r),by omega⟩ ⟨C.idxOf (ep C 1 r),by omega⟩ (by simp only; omega) (by simp only; omega))⟩
    rw [Bool.not_eq_true',decide_eq_false_iff_not]
    simp
    omega
   rw [if_pos ht]
   exact List.mem_map.2 ⟨_,(h2 _ _ hlt i1 _).2 rfl,rfl⟩
 rw [List.mem_map]
 constructor
 ·rintro ⟨c,hc,rfl⟩
  obtain ⟨r,hr,hne,rfl⟩:=(h3 c).1 hc
  have hlt:=h.idx_lt hr
  have i1:=(idx_get (h.epC hr).2.1).1
  exact ⟨r,hr,hne,cell_three ⟨C.idxOf (ep C 0 r),by omega⟩ ⟨C.idxOf (ep C 1 r),by omega⟩ (by simp only; omega) hlt⟩
 ·rintro ⟨r,hr,hne,rfl⟩
  have hlt:=h.idx_lt hr
  have i1:=(idx_get (h.epC hr).2.1).1
  exact ⟨_,(h3 _).2 ⟨r,hr,hne,rfl⟩,cell_three ⟨C.idxOf (ep C 0 r),by omega⟩ ⟨C.idxOf (ep C 1 r),by omega⟩ (by simp only; omega) hlt⟩
end
end Go.Proofs.YtadpjlpdfimaeaaGreatDoor

namespace Go.Proofs.YtadpjlpdfimaeaaGreatDoor
def cn (k:Nat) (lo hi:List Int) (rows:List (List Int)):Nat→Nat→List Int→Int
 | 0,_,rooms=>b01 (rooms.all fun R=>decide (0≤R))
 | m+1,dir,rooms=>isum (irange (lok k lo dir) (lok k hi dir)) fun v=>cn k lo hi rows m (dir+1) (lef rows rooms dir v)
theorem thr_cn (k:Nat) (lo hi:List Int) (rows:List (List Int)):∀(rem dir:Nat) (rooms:List Int),thr k lo hi rows rem dir rooms=cn k lo hi rows (rem+1) dir rooms
 | 0,dir,rooms=>by
  show (endsOf ⟨lok k lo dir,lok k hi dir,true⟩ (prs rows rooms dir)).cnt=isum (irange (lok k lo dir) (lok k hi dir)) fun v=>b01 ((lef rows rooms dir v).all fun R=>decide (0≤R))
  rw [along_eq]
  refine isum_congr fun v _=>?_
  have e:((lef rows rooms dir v).all fun R=>decide (0≤R))=decide (∀p∈prs rows rooms dir,p.1*v≤p.2):=by
   rw [Bool.eq_iff_iff,decide_eq_true_iff,List.all_eq_true]
   constructor
   ·intro h p hp
    unfold prs at hp
    obtain ⟨j,hj,rfl⟩:=List.mem_map.1 hp
    have:=of_decide_eq_true (h (rooms.getD j 0-(rows.getD j []).getD dir 0*v) (by unfold lef; exact List.mem_map.2 ⟨j,hj,rfl⟩))
    show (rows.getD j []).getD dir 0*v≤rooms.getD j 0
    omega
   ·intro h R hR
    unfold lef at hR
    obtain ⟨j,hj,rfl⟩:=List.mem_map.1 hR
    have:=h ((rows.getD j []).getD dir 0,rooms.getD j 0) (by unfold prs; exact List.mem_map.2 ⟨j,hj,rfl⟩)
    have h2:(rows.getD j []).getD dir 0*v≤rooms.getD j 0:=this
    exact decide_eq_true (by omega)
  rw [e]
  unfold b01
  simp only [decide_eq_true_eq]
 | rem+1,dir,rooms=>by
  show isum (irange (lok k lo dir) (lok k hi dir)) (fun v=>thr k lo hi rows rem (dir+1) (lef rows rooms dir v))=isum (irange (lok k lo dir) (lok k hi dir)) fun v=>cn k lo hi rows (rem+1) (dir+1) (lef rows rooms dir v)
  exact isum_congr fun v _=>thr_cn k lo hi rows rem (dir+1) _
def rmx (k:Nat) (sp:Int) (d:Nat) (rows:List (List Int)) (x:List Int):List Int:=rows.map fun r=>(k:Int)*r.getD d 0-sp-dotL (r.take x.length) x
theorem rmx_nil (k:Nat) (sp:Int) (d:Nat) (rows:List (List Int)):rmx k sp d rows []=rms k sp d rows:=by
 unfold rmx rms
 refine List.map_congr_left fun r _=>?_
 simp [dotL,Lin.sumN]
theorem dotL_snoc {r x:List Int} {v:Int} (h:x.length < r.length):dotL (r.take (x.length+1)) (x ++ [v])=dotL (r.take x.length) x+r.getD x.length 0*v:=by
 unfold dotL
 have e1:(r.take (x.length+1)).length=x.length+1:=by rw [List.length_take]; omega
 have e2:(r.take x.length).length=x.length:=by rw [List.length_take]; omega
 rw [e1,e2]
 show Lin.sumN x.length (fun i=>(r.take (x.length+1)).getD i 0*(x ++ [v]).getD i 0)+(r.take (x.length+1)).getD x.length 0*(x ++ [v]).getD x.length 0=_
 have a1:(r.take (x.length+1)).getD x.length 0=r.getD x.length 0:=by
  simp only [List.getD_eq_getElem?_getD]; rw [List.getElem?_take_of_lt (by omega)]
 have a2:(x ++ [v]).getD x.length 0=v:=by simp
 rw [a1,a2]
 congr 1
 refine Lin.sumN_congr fun i hi=>?_
 have b1:(r.take (x.length+1)).getD i 0=(r.take x.length).getD i 0:=by
  simp only [List.getD_eq_getElem?_getD]; rw [List.getElem?_take_of_lt (by omega),List.getElem?_take_of_lt hi]
 have b2:(x ++ [v]).getD i 0=x.getD i 0:=by
  simp only [List.getD_eq_getElem?_getD]; rw [List.getElem?_append_left hi]
 rw [b1,b2]
theorem lef_rmx {k d:Nat} {sp:Int} {rows:List (List Int)} {x:List Int} {v:Int} (hr:∀r∈rows,r.length=d+1) (hx:x.length < d):lef rows (rmx k sp d rows x) x.length v=rmx k sp d rows (x ++ [v]):=by
 have hl:(rmx k sp d rows x).length=rows.length:=by simp [rmx]
 apply List.ext_getElem
 ·simp [lef,rmx]
 ·intro j h1 h2
  have hj:j < rows.length:=by simpa [lef] using h1
  have hrj:=hr rows[j] (List.getElem_mem hj)
  have e:=dotL_snoc (r:=rows[j]) (x:=x) (v:=v) (by omega)
  simp only [lef,rmx,List.getElem_map,List.getElem_range,List.length_append,List.length_cons,List.length_nil,Nat.zero_add]
  rw [e]
  have e1:(rows.map fun r=>(k:Int)*r.getD d 0-sp-dotL (r.take x.length) x).getD j 0=(k:Int)*rows[j].getD d 0-sp-dotL (rows[j].take x.length) x:=by simp [hj]
  have e2:rows.getD j []=rows[j]:=by simp [hj]
  rw [e1,e2]
  omega
theorem pl_cn {k d:Nat} {P rows:List (List Int)} (hr:∀r∈rows,r.length=d+1):∀(m:Nat) (x:List Int),x.length+m=d→
  plA k d P rows m x=cn k (loL P d) (hiL P d) rows m x.length (rmx k 0 d rows x)∧plI k d P rows m x=cn k (loL P d) (hiL P d) rows m x.length (rmx k 1 d rows x)
 | 0,x,hx=>by
  have hxd:x.length=d:=by omega
  have ha:allB k d rows x=(rmx k 0 d rows x).all fun R=>decide (0≤R):=by
   unfold allB rmx
   rw [List.all_map]
   congr 1
   funext r
   refine decide_eq_decide.2 ?_
   have e:ovr k d r x=dotL (r.take x.length) x-(k:Int)*r.getD d 0:=by unfold ovr; rw [hxd,Int.mul_comm]
   rw [e]
   dsimp only
   omega
  have hi:innB k d rows x=(rmx k 1 d rows x).all fun R=>decide (0≤R):=by
   unfold innB rmx
   rw [List.all_map]
   congr 1
   funext r
   refine decide_eq_decide.2 ?_
   have e:ovr k d r x=dotL (r.take x.length) x-(k:Int)*r.getD d 0:=by unfold ovr; rw [hxd,Int.mul_comm]
   rw [e]
   dsimp only
   omega
  exact ⟨by simp only [plA,cn,ha],by simp only [plI,cn,hi]⟩
 | m+1,x,hx=>by
  have hxd:x.length < d:=by omega
  have el:loT P x.length P.length*(k:Int)=lok k (loL P d) x.length:=by unfold lok; rw [loL_get hxd,Int.mul_comm]
  have eh:hiT P x.length P.length*(k:Int)=lok k (hiL P d) x.length:=by unfold lok; rw [hiL_get hxd,Int.mul_comm]
  have ih:=fun v=>pl_cn (P:=P) (k:=k) hr m (x ++ [v]) (by simp; omega)
  simp only [plA,plI,cn,el,eh]
  constructor
  ·refine isum_congr fun v _=>?_
   rw [(ih v).1,lef_rmx hr hxd]
   simp
  ·refine isum_congr fun v _=>?_
   rw [(ih v).2,lef_rmx hr hxd]
   simp
theorem count_eq {k d:Nat} {P rows:List (List Int)} (hd:1≤d) (hr:∀r∈rows,r.length=d+1) :
  plA k d P rows d []=thr k (loL P d) (hiL P d) rows (d-1) 0 (rms k 0 d rows)∧plI k d P rows d []=thr k (loL P d) (hiL P d) rows (d-1) 0 (rms k 1 d rows):=by
 have h:=pl_cn (P:=P) (k:=k) hr d [] (by simp)
 rw [h.1,h.2,rmx_nil,rmx_nil,thr_cn,thr_cn,show d-1+1=d by omega]
 exact ⟨rfl,rfl⟩
end Go.Proofs.YtadpjlpdfimaeaaGreatDoor

namespace Go.Proofs.YtadpjlpdfimaeaaGreatDoor
open Go.RowKit
attribute [local go_sem ↓] Go.wp_at_zero Go.wp_at_succ
theorem dotL_bdC {a x:List Int} {A X:Nat} (ha:∀z∈a,z.natAbs≤A) (hx:∀z∈x,z.natAbs≤X):(dotL a x).natAbs≤a.length*(A*X):=by
 have key:∀n,n≤a.length→(Lin.sumN n fun i=>a.getD i 0*x.getD i 0).natAbs≤n*(A*X):=by
  intro n
  induction n with
  | zero=>intro _; simp [Lin.sumN]
  | succ n ih=>
   intro hn
   have h1:=ih (by omega)
   have h2:(a.getD n 0*x.getD n 0).natAbs≤A*X:=by
    rw [Int.natAbs_mul]
    refine Nat.mul_le_mul (ha _ (getD_mem (by omega))) ?_
    by_cases hxn:n < x.length
    ·exact hx _ (getD_mem hxn)
    ·rw [show x.getD n 0=0 by simp only [List.getD_eq_getElem?_getD]; rw [List.getElem?_eq_none (by omega)]; rfl]; simp
   show (Lin.sumN n (fun i=>a.getD i 0*x.getD i 0)+a.getD n 0*x.getD n 0).natAbs≤(n+1)*(A*X)
   have e:(n+1)*(A*X)=n*(A*X)+A*X:=by rw [Nat.succ_mul]
   rw [e]
   generalize n*(A*X)=p at *
   generalize A*X=q at *
   omega
 exact key a.length (Nat.le_refl _)
end Go.Proofs.YtadpjlpdfimaeaaGreatDoor

namespace Go.Proofs.YtadpjlpdfimaeaaGreatDoor
open Go.RowKit
attribute [local go_sem ↓] Go.wp_at_zero Go.wp_at_succ
def FieldOk (d:Nat) (P s:List (List Int)):Prop:=∀(v:Value) (w:World),Mat w.heap.size 22 3 w v P→Calls Tryz.prog 25 #[.agg #[.int .i64 d,v]] w fun e w'=>∃ro rl rc lo ll lc mo ml mc,e=.returned (.tuple #[.agg #[.slice ro rl rc,.slice lo ll lc,.slice mo ml mc],.int .i64 0])∧(Mat w'.heap.size 22 3 w' (.slice ro rl rc) s∧Sl w'.heap.size 3 w' (.slice lo ll lc) (ints (loL P d))∧Sl w'.heap.size 3 w' (.slice mo ml mc) (ints (hiL P d))∧Below w.heap.size w w')
set_option maxRecDepth 100000 in
set_option maxHeartbeats 800000 in
theorem placesOfF_any (d k least:Nat) (sp:Int) (P s:List (List Int)) (v:Value) (w:World) (hv:Mat w.heap.size 22 3 w v P) (hg:Good d P) (hfl:Fld d s (loL P d) (hiL P d) k) (hla:∀r∈s,(r.getD d 0).natAbs≤1000000000) (hbx:bx k (loL P d) (hiL P d) d≤200000) (hk:k≤6) (hsp:sp=0∨sp=1) (hF:FieldOk d P s) :
  Calls Tryz.prog 14 #[.agg #[.int .i64 d,v],.int .i64 k,.int .i64 least,.int .i64 sp] w fun e w'=>e=.returned (.tuple #[.int .i64 (if k < least then 0 else thr k (loL P d) (hiL P d) s (d-1) 0 (rms k sp d s)),.int .i64 (if k < least then 9 else 0)])∧Below w.heap.size w w':=by
 have hn:=hg.n2
 obtain ⟨b,o,cap,r1,hvv,hlc,_,_⟩:=mat_cell hv (k:=0) (by omega)
 obtain ⟨vl,hvl⟩:∃vl,vl=P.length:=⟨_,rfl⟩
 rw [←hvl] at hvv
 clear hvl
 subst hvv
 obtain ⟨W,hW⟩:∃W,W=w.alloc (.cells #[.int .i64 d,.slice (some ⟨b,o,none⟩) vl cap] 25):=⟨_,rfl⟩
 have hbw:Below w.heap.size w W:=by rw [hW]; exact (Below.refl _ _).alloc (Nat.le_refl _) _
 have HW:Hid (Below w.heap.size w W):=hbw
 have hsW:W.heap.size=w.heap.size+1:=by rw [hW]; simp
 have HSW:Hid (w.heap.size≤W.heap.size):=by show _≤_; omega
 have c0:W.cell? ⟨w.heap.size,0,none⟩=some (.int .i64 d):=by rw [hW]; simp
 have c1:W.cell? ⟨w.heap.size,1,none⟩=some (.slice (some ⟨b,o,none⟩) vl cap):=by rw [hW]; simp
 have hvW:Mat W.heap.size 22 3 W (.slice (some ⟨b,o,none⟩) vl cap) P:=(hv.below hbw (Nat.le_refl _)).any (Nat.le_refl _)
 have HCH:Hid (Calls Tryz.prog 16 #[.agg #[.int .i64 d,.slice (some ⟨b,o,none⟩) vl cap]] W fun e w'=>e=.returned (.int .i64 0)∧(Below W.heap.size W w'∧w'.cell? ⟨w.heap.size,0,none⟩=some (.int .i64 d)∧w'.cell? ⟨w.heap.size,1,none⟩=some (.slice (some ⟨b,o,none⟩) vl cap))):=
  (hullCheckK d P _ W hvW hg).mono fun e w' ⟨e1,e2⟩=>⟨e1,e2,(e2.cell (lt_of_cell c0)).trans c0,(e2.cell (lt_of_cell c1)).trans c1⟩
 have HFO:Hid (∀W',Below W.heap.size W W'→Calls Tryz.prog 25 #[.agg #[.int .i64 d,.slice (some ⟨b,o,none⟩) vl cap]] W' fun e w'=>∃ro rl rc lo ll lc mo ml mc,e=.returned (.tuple #[.agg #[.slice ro rl rc,.slice lo ll lc,.slice mo ml mc],.int .i64 0])∧(Mat w'.heap.size 22 3 w' (.slice ro rl rc) s∧Sl w'.heap.size 3 w' (.slice lo ll lc) (ints (loL P d))∧Sl w'.heap.size 3 w' (.slice mo ml mc) (ints (hiL P d))∧Below W'.heap.size W' w')):=fun W' hb=>hF _ W' ((hvW.below hb (Nat.le_refl _)).any (Nat.le_refl _))
 have HPL:Hid (∀W' rv lv mv,Mat W'.heap.size 22 3 W' rv s→Sl W'.heap.size 3 W' lv (ints (loL P d))→Sl W'.heap.size 3 W' mv (ints (hiL P d))→Calls Tryz.prog 26 #[.agg #[rv,lv,mv],.int .i64 k,.int .i64 sp] W' fun e w'=>e=.returned (.tuple #[.int .i64 (thr k (loL P d) (hiL P d) s (d-1) 0 (rms k sp d s)),.int .i64 0])∧Below W'.heap.size W' w'):=fun W' rv lv mv h1 h2 h3=>
  fplaces_any d k sp s (loL P d) (hiL P d) rv lv mv W' hfl hg.d1 hg.d4 hsp hla hbx h1 h2 h3
 generalize thr k (loL P d) (hiL P d) s (d-1) 0 (rms k sp d s)=TT at *
 have hk6:¬(6:Int) < (k:Int):=by omega
 clear hv hbw hsW hvW c0 c1 hfl hla hbx
 by_cases hkl:k < least
 ·have t1:(k:Int) < (least:Int):=by omega
  rw [if_pos hkl,if_pos hkl]
  go_enter Tryz.func14,Tryz.ntmps14
  go_wp2_with fail
  rw [←hW]
  clear hW
  refine HCH.out.mono ?_
  rintro e w1 ⟨rfl,hb1,_,_⟩
  have HB1:Hid (Below w.heap.size w w1):=HW.out.trans (hb1.mono HSW.out)
  clear hb1
  go_wp2
  go_ret2
  exact ⟨rfl,HB1.out⟩
 ·have t1:¬(k:Int) < (least:Int):=by omega
  rw [if_neg hkl,if_neg hkl]
  go_enter Tryz.func14,Tryz.ntmps14
  go_wp2_with fail
  rw [←hW]
  clear hW
  refine HCH.out.mono ?_
  rintro e w1 ⟨rfl,hb1,e0,e1⟩
  have HB1:Hid (Below W.heap.size W w1):=hb1
  clear hb1
  go_wp2_with fail
  refine (HFO.out w1 HB1.out).mono ?_
  rintro e w2 ⟨ro,rl,rc,lo,ll,lc,mo,ml,mc,rfl,hx⟩
  have HX:Hid (Mat w2.heap.size 22 3 w2 (.slice ro rl rc) s∧Sl w2.heap.size 3 w2 (.slice lo ll lc) (ints (loL P d))∧Sl w2.heap.size 3 w2 (.slice mo ml mc) (ints (hiL P d))∧Below w1.heap.size w1 w2):=hx
  clear hx e0 e1
  obtain ⟨W3,hW3⟩:∃W3,W3=w2.alloc (.cells #[.slice ro rl rc,.slice lo ll lc,.slice mo ml mc] 53):=⟨_,rfl⟩
  have HB3:Hid (Below w2.heap.size w2 W3):=by rw [hW3]; exact (Below.refl _ _).alloc (Nat.le_refl _) _
  go_wp2_with fail
  rw [←hW3]
  clear hW3
  refine (HPL.out W3 _ _ _ ((HX.out.1.below HB3.out (Nat.le_refl _)).any (Nat.le_refl _)) ((HX.out.2.1.below HB3.out (Nat.le_refl _)).any (Nat.le_refl _)) ((HX.out.2.2.1.below HB3.out (Nat.le_refl _)).any (Nat.le_refl _))).mono ?_
  rintro e w4 ⟨rfl,hb4⟩
  have HB4:Hid (Below w.heap.size w w4):=by
   have q1:=HB1.out.trans (HX.out.2.2.2.mono HB1.out.size)
   have q2:=q1.trans (HB3.out.mono q1.size)
   have q3:=q2.trans (hb4.mono q2.size)
   exact HW.out.trans (q3.mono HSW.out)
  clear hb4
  go_wp2
  go_ret2
  exact ⟨rfl,HB4.out⟩
set_option maxRecDepth 100000 in
theorem pointsF_any (d k:Nat) (P s:List (List Int)) (v:Value) (w:World) (hv:Mat w.heap.size 22 3 w v P) (hg:Good d P) (hfl:Fld d s (loL P d) (hiL P d) k) (hla:∀r∈s,(r.getD d 0).natAbs≤1000000000) (hbx:bx k (loL P d) (hiL P d) d≤200000) (hk:k≤6) (hF:FieldOk d P s) :
  Calls Tryz.prog 7 #[.agg #[.int .i64 d,v],.int .i64 k] w fun e w'=>e=.returned (.tuple #[.int .i64 (plA k d P s d []),.int .i64 0])∧Below w.heap.size w w':=by
 have hc:=(count_eq (k:=k) (P:=P) hg.d1 hfl.len).1
 rw [hc]
 have HPO:Hid (∀W,Below w.heap.size w W→Calls Tryz.prog 14 #[.agg #[.int .i64 d,v],.int .i64 k,.int .i64 0,.int .i64 0] W fun e w'=>e=.returned (.tuple #[.int .i64 (thr k (loL P d) (hiL P d) s (d-1) 0 (rms k 0 d s)),.int .i64 0])∧Below w.heap.size w w'):=fun W hW=>
  (placesOfF_any d k 0 0 P s v W ((hv.below hW (Nat.le_refl _)).any (Nat.le_refl _)) hg hfl hla hbx hk (Or.inl rfl) hF).mono fun e w' ⟨e1,e2⟩=>⟨by rw [e1,if_neg (by omega),if_neg (by omega)],hW.trans (e2.mono hW.size)⟩
 obtain ⟨b,o,cap,r1,hvv,_,_,_⟩:=mat_cell hv (k:=0) (by have:=hg.n2; omega)
 obtain ⟨vl,hvl⟩:∃vl,vl=P.length:=⟨_,rfl⟩
 rw [←hvl] at hvv
 clear hvl
 subst hvv
 generalize thr k (loL P d) (hiL P d) s (d-1) 0 (rms k 0 d s)=TT at *
 obtain ⟨W,hW⟩:∃W,W=w.alloc (.cells #[.int .i64 d,.slice (some ⟨b,o,none⟩) vl cap] 25):=⟨_,rfl⟩
 have HW:Hid (Below w.heap.size w W):=by rw [hW]; exact (Below.refl _ _).alloc (Nat.le_refl _) _
 clear hv hc
 go_enter Tryz.func7,Tryz.ntmps7
 go_wp2_with fail
 rw [←hW]
 clear hW
 refine (HPO.out W HW.out).mono ?_
 rintro e w2 ⟨rfl,hb2⟩
 have HB2:Hid (Below w.heap.size w w2):=hb2
 clear hb2
 go_wp2
 go_ret2
 exact ⟨rfl,HB2.out⟩
set_option maxRecDepth 100000 in
theorem innerF_any (d k:Nat) (P s:List (List Int)) (v:Value) (w:World) (hv:Mat w.heap.size 22 3 w v P) (hg:Good d P) (hfl:Fld d s (loL P d) (hiL P d) k) (hla:∀r∈s,(r.getD d 0).natAbs≤1000000000) (hbx:bx k (loL P d) (hiL P d) d≤200000) (hk:k≤6) (hF:FieldOk d P s) :
  Calls Tryz.prog 8 #[.agg #[.int .i64 d,v],.int .i64 k] w fun e w'=>e=.returned (.tuple #[.int .i64 (if k < 1 then 0 else plI k d P s d []),.int .i64 (if k < 1 then 9 else 0)])∧Below w.heap.size w w':=by
 have hc:=(count_eq (k:=k) (P:=P) hg.d1 hfl.len).2
 rw [hc]
 have HPO:Hid (∀W,Below w.heap.size w W→Calls Tryz.prog 14 #[.agg #[.int .i64 d,v],.int .i64 k,.int .i64 1,.int .i64 1] W fun e w'=>e=.returned (.tuple #[.int .i64 (if k < 1 then 0 else thr k (loL P d) (hiL P d) s (d-1) 0 (rms k 1 d s)),.int .i64 (if k < 1 then 9 else 0)])∧Below w.heap.size w w'):=fun W hW=>
  (placesOfF_any d k 1 1 P s v W ((hv.below hW (Nat.le_refl _)).any (Nat.le_refl _)) hg hfl hla hbx hk (Or.inr rfl) hF).mono fun e w' ⟨e1,e2⟩=>⟨e1,hW.trans (e2.mono hW.size)⟩
 obtain ⟨b,o,cap,r1,hvv,_,_,_⟩:=mat_cell hv (k:=0) (by have:=hg.n2; omega)
 obtain ⟨vl,hvl⟩:∃vl,vl=P.length:=⟨_,rfl⟩
 rw [←hvl] at hvv
 clear hvl
 subst hvv
 obtain ⟨TT,hTT⟩:∃TT,TT=(if k < 1 then 0 else thr k (loL P d) (hiL P d) s (d-1) 0 (rms k 1 d s)):=⟨_,rfl⟩
 obtain ⟨EE,hEE⟩:∃EE:Int,EE=(if k < 1 then 9 else 0):=⟨_,rfl⟩
 rw [←hTT,←hEE] at HPO ⊢
 obtain ⟨W,hW⟩:∃W,W=w.alloc (.cells #[.int .i64 d,.slice (some ⟨b,o,none⟩) vl cap] 25):=⟨_,rfl⟩
 have HW:Hid (Below w.heap.size w W):=by rw [hW]; exact (Below.refl _ _).alloc (Nat.le_refl _) _
 clear hv hc hTT hEE
 go_enter Tryz.func8,Tryz.ntmps8
 go_wp2_with fail
 rw [←hW]
 clear hW
 refine (HPO.out W HW.out).mono ?_
 rintro e w2 ⟨rfl,hb2⟩
 have HB2:Hid (Below w.heap.size w w2):=hb2
 clear hb2
 go_wp2
 go_ret2
 exact ⟨rfl,HB2.out⟩
end Go.Proofs.YtadpjlpdfimaeaaGreatDoor
