import Derived.Test.YtbdacimjebaihaaGreatZqA
import Derived.Test.YtbdacimjebaihaaGreatSgC
import Derived.Test.YtbdacimjebaihaaGreatHfB
namespace Go.Proofs.YtbdacimjebaihaaGreat
open Lin
theorem flat_sum {α:Type} (f:List UInt8→Int) (g:α→List (List UInt8)):∀l:List α,((l.flatMap g).map f).sum=(l.map fun t=>((g t).map f).sum).sum
 | []=>rfl
 | a :: l=>by
  rw [List.flatMap_cons,List.map_append,List.sum_append,flat_sum f g l]
  rfl
open Classical in
theorem gr_sum {d:Nat} {P:List (List Int)} : ∀(k:Nat) (g:List UInt8→Int),((grTR d P k).map g).sum=((alT k).map fun t=>if ∃z,HasS d P t z then g t else 0).sum
 | 0,g=>by
  have:∃z,HasS d P [] z:=⟨fun _=>1,by simp,fun i hi=>absurd hi (by simp)⟩
  simp [grTR,alT,this]
 | k+1,g=>by
  show (((grTR d P k).flatMap (grOR d P (P.getD k []))).map g).sum=_
  rw [flat_sum,gr_sum k]
  show _=(((alT k).flatMap fun t=>[t ++ [43],t ++ [45]]).map _).sum
  rw [sum_flat2 _ fun t=>(t ++ [43],t ++ [45])]
  congr 1
  refine List.map_congr_left fun t ht=>?_
  have htl:=(alT_len ht).1
  by_cases hz:∃z,HasS d P t z
  ·rw [if_pos hz]
   have h1:=grow_one (c:=43) hz (by simp)
   have h2:=grow_one (c:=45) hz (by simp)
   rw [htl] at h1 h2
   unfold grOR
   generalize gaC d (clR P t) (P.getD k [])=ab at *
   generalize gaC d (clR P t) (ngL (P.getD k []))=be at *
   cases e1:mtC ab be 43 <;> cases e2:mtC ab be 45
   ·have n1:¬∃z,HasS d P (t ++ [43]) z:=fun h=>by have:=h1.2 h; rw [e1] at this; cases this
    have n2:¬∃z,HasS d P (t ++ [45]) z:=fun h=>by have:=h2.2 h; rw [e2] at this; cases this
    rw [if_neg n1,if_neg n2]
    simp [e1,e2]
   ·have n1:¬∃z,HasS d P (t ++ [43]) z:=fun h=>by have:=h1.2 h; rw [e1] at this; cases this
    rw [if_neg n1,if_pos (h2.1 e2)]
    simp [e1,e2]
   ·have n2:¬∃z,HasS d P (t ++ [45]) z:=fun h=>by have:=h2.2 h; rw [e2] at this; cases this
    rw [if_pos (h1.1 e1),if_neg n2]
    simp [e1,e2]
   ·rw [if_pos (h1.1 e1),if_pos (h2.1 e2)]
    simp [e1,e2]
  ·have n:∀c:UInt8,¬∃z,HasS d P (t ++ [c]) z:=fun c ⟨z,h⟩=>hz ⟨z,(hasS_snoc.1 h).1⟩
   rw [if_neg hz,if_neg (n 43),if_neg (n 45)]
   rfl
theorem len_sum {α:Type} : ∀l:List α,(l.length:Int)=(l.map fun _=>(1:Int)).sum
 | []=>rfl
 | a :: l=>by
  rw [List.map_cons,List.sum_cons,←len_sum l,List.length_cons]
  omega
theorem filt_sum {α:Type} (p:α→Bool):∀l:List α,((l.filter p).length:Int)=(l.map fun x=>if p x then (1:Int) else 0).sum
 | []=>rfl
 | a :: l=>by
  rw [List.map_cons,List.sum_cons,←filt_sum p l,List.filter_cons]
  by_cases h:p a=true
  ·rw [if_pos h,if_pos h,List.length_cons]; omega
  ·rw [if_neg h,if_neg h]; omega
theorem reg_len {d:Nat} {P:List (List Int)} : ((grTR d P P.length).length:Int)=rgN d P 0 P.length:=by
 rw [len_sum,gr_sum]
 unfold rgN
 congr 1
 refine List.map_congr_left fun t _=>?_
 by_cases h:∃z,HasS d P t z
 ·rw [if_pos h,ind_pos (has_hsZ.1 h)]
 ·rw [if_neg h,ind_neg fun h2=>h (has_hsZ.2 h2)]
theorem dot_axG (d i:Nat) (hi:i < d) (s:Int) (c:Nat→Int):dot d c (V (axG d i s))=c i*s:=by
 unfold dot
 rw [sumN_one (k:=i) hi (fun a ha hne=>by simp [V,axG,ha,hne])]
 simp [V,axG,hi]
theorem op_iff {d:Nat} {P:List (List Int)} {t:List UInt8} : opB d (clR P t)=true↔∃c:Nat→Int,(∀i,i < t.length→SgC (t.getD i 0) (dot d (V (P.getD i [])) c))∧∃j,j < d∧c j≠0:=by
 have hrows:∀c:Nat→Int,(∀r∈clR P t,dot d c (V r)≤0)↔∀i,i < t.length→SgC (t.getD i 0) (dot d (V (P.getD i [])) c):=fun c=>by
  have hneg:∀p:List Int,dot d c (V (ngL p))=- dot d (V p) c:=fun p=>by
   rw [dot_comm,←dot_neg]
   exact dot_congr (fun i _=>ng_V p i) (fun _ _=>rfl)
  constructor
  ·intro h i hi
   refine ⟨fun hc=>?_,fun hc=>?_⟩
   ·have:=h (P.getD i []) (by
     simp only [clR,clT,List.mem_flatMap,List.mem_range]
     exact ⟨i,hi,by simp only [clO,if_neg hc]; simp⟩)
    rwa [dot_comm] at this
   ·have:=h (ngL (P.getD i [])) (by
     simp only [clR,clT,List.mem_flatMap,List.mem_range]
     exact ⟨i,hi,by simp only [clO,if_neg hc]; simp⟩)
    rw [hneg] at this
    omega
  ·intro h r hr
   simp only [clR,clT,List.mem_flatMap,List.mem_range] at hr
   obtain ⟨i,hi,hr⟩:=hr
   obtain ⟨h1,h2⟩:=h i hi
   unfold clO at hr
   rcases List.mem_append.1 hr with hr | hr
   ·split at hr
    ·simp at hr
    ·rename_i hc
     simp only [List.mem_singleton] at hr
     subst hr
     rw [dot_comm]; exact h1 hc
   ·split at hr
    ·simp at hr
    ·rename_i hc
     simp only [List.mem_singleton] at hr
     subst hr
     rw [hneg]
     have:=h2 hc
     omega
 have hax:∀i s,(axG d i s).length=d:=fun i s=>by simp [axG]
 unfold opB
 rw [List.any_eq_true]
 constructor
 ·rintro ⟨i,hi,h⟩
  have hi:=List.mem_range.1 hi
  unfold opI at h
  rw [Bool.or_eq_true,List.isEmpty_iff,List.isEmpty_iff] at h
  rcases h with h | h
  ·obtain ⟨c,h1,h2⟩:=ways_none.1 h
   rw [hax] at h1 h2
   rw [dot_axG d i hi] at h2
   exact ⟨c,(hrows c).1 h1,i,hi,by omega⟩
  ·obtain ⟨c,h1,h2⟩:=ways_none.1 h
   rw [hax] at h1 h2
   rw [dot_axG d i hi] at h2
   exact ⟨c,(hrows c).1 h1,i,hi,by omega⟩
 ·rintro ⟨c,h1,j,hj,hne⟩
  refine ⟨j,List.mem_range.2 hj,?_⟩
  unfold opI
  rw [Bool.or_eq_true,List.isEmpty_iff,List.isEmpty_iff]
  rcases Int.lt_or_gt_of_ne hne with q | q
  ·first
    | exact .inr (ways_none.2 ⟨c,by rw [hax]; exact (hrows c).2 h1,by rw [hax,dot_axG d j hj]; omega⟩)
    | exact .inl (ways_none.2 ⟨c,by rw [hax]; exact (hrows c).2 h1,by rw [hax,dot_axG d j hj]; omega⟩)
  ·first
    | exact .inl (ways_none.2 ⟨c,by rw [hax]; exact (hrows c).2 h1,by rw [hax,dot_axG d j hj]; omega⟩)
    | exact .inr (ways_none.2 ⟨c,by rw [hax]; exact (hrows c).2 h1,by rw [hax,dot_axG d j hj]; omega⟩)
theorem Ez_flat {d:Nat} {P:List (List Int)} {i:Nat} {v:Nat→Int} (h:v d=0):Ez d P i v=dot d (V (P.getD i [])) v:=by
 unfold Ez
 rw [dot_snoc,h]; omega
theorem span_iff {d:Nat} {P:List (List Int)} : rk d P=d↔∀v,liZ d P 0 P.length v→∀i,i < d→v i=0:=by
 rw [rk_full]
 constructor
 ·rintro h v ⟨h0,_,h2⟩
  refine h v fun r hr=>?_
  obtain ⟨i,hi,e⟩:=List.getElem_of_mem hr
  have:=h2 i hi
  rw [Ez_flat h0,show P.getD i []=r by rw [←e]; simp [hi]] at this
  exact this
 ·intro h v hv i hi
  have:=h (fun q=>if q < d then v q else 0) ⟨by simp,fun i _ hb=>by simp at hb,fun k hk=>?_⟩ i hi
  ·simpa [hi] using this
  ·rw [Ez_flat (by simp)]
   have e:dot d (V (P.getD k [])) (fun q=>if q < d then v q else 0)=dot d (V (P.getD k [])) v:=dot_congr (fun _ _=>rfl) fun q hq=>by simp [hq]
   rw [e]
   exact hv _ (getD_memR hk)
theorem op_rb {d:Nat} {P:List (List Int)} (hs:rk d P=d) {t:List UInt8} (ht:t.length=P.length):opB d (clR P t)=false↔rbZ d P 0 t:=by
 constructor
 ·intro h v hv
  refine ⟨hv.1,hv.2.1,fun i hi=>?_⟩
  have hz:∀j,j < d→v j=0:=fun j hj=>Classical.byContradiction fun hne=>by
   have:opB d (clR P t)=true:=op_iff.2 ⟨v,fun i hi=>by rw [←Ez_flat hv.1]; exact hv.2.2 i hi,j,hj,hne⟩
   rw [h] at this; cases this
  rw [Ez_flat hv.1]
  rw [dot_comm]
  exact dot_zero hz
 ·intro h
  refine Bool.eq_false_iff.2 fun ho=>?_
  obtain ⟨c,h1,j,hj,hne⟩:=op_iff.1 ho
  have hl:=h (fun q=>if q < d then c q else 0) ⟨by simp,fun i _ hb=>by simp at hb,fun i hi=>?_⟩
  ·rw [ht] at hl
   have:=span_iff.1 hs _ hl j hj
   simp [hj] at this
   exact hne this
  ·rw [Ez_flat (by simp)]
   have e:dot d (V (P.getD i [])) (fun q=>if q < d then c q else 0)=dot d (V (P.getD i [])) c:=dot_congr (fun _ _=>rfl) fun q hq=>by simp [hq]
   rw [e]; exact h1 i hi
theorem bd_len {d:Nat} {P:List (List Int)} (hs:rk d P=d):(((grTR d P P.length).filter fun t=>!opB d (clR P t)).length:Int)=bdN d P 0 P.length:=by
 rw [filt_sum,gr_sum]
 unfold bdN
 congr 1
 refine List.map_congr_left fun t ht=>?_
 have hor:=op_rb hs (alT_len ht).1
 by_cases h:∃z,HasS d P t z
 ·rw [if_pos h]
  cases ho:opB d (clR P t)
  ·rw [ind_pos ⟨has_hsZ.1 h,hor.1 ho⟩]; rfl
  ·rw [ind_neg fun h2=>by have:=hor.2 h2.2; rw [ho] at this; cases this]; rfl
 ·rw [if_neg h,ind_neg fun h2=>h (has_hsZ.2 h2.1)]
theorem bd_zero {d:Nat} {P:List (List Int)} (hs:rk d P≠d):((grTR d P P.length).filter fun t=>!opB d (clR P t))=[]:=by
 rw [List.filter_eq_nil_iff]
 intro t ht
 obtain ⟨⟨hl,_⟩,_⟩:=grr_iff.1 ht
 have hn:¬∀v,liZ d P 0 P.length v→∀i,i < d→v i=0:=fun h=>hs (span_iff.2 h)
 obtain ⟨v,hv⟩:=Classical.not_forall.1 hn
 obtain ⟨hv1,hv2⟩:=Classical.not_imp.1 hv
 obtain ⟨i,hi⟩:=Classical.not_forall.1 hv2
 obtain ⟨hi1,hi2⟩:=Classical.not_imp.1 hi
 have:opB d (clR P t)=true:=op_iff.2 ⟨v,fun q hq=>by rw [←Ez_flat hv1.1,hv1.2.2 q (by omega)]; exact sgC_zero _,i,hi1,hi2⟩
 simp [this]
theorem mi_abs (n:Nat):(mi n).natAbs=1:=by
 induction n with
 | zero=>rfl
 | succ n ih=>rw [mi_succ]; omega
theorem zas_reg {d:Nat} {P:List (List Int)} (h6:P.length≤6):(grTR d P P.length).length=(sumN (d+1) fun j=>whC d P j*(-1:Int) ^ j).natAbs:=by
 have h1:=reg_len (d:=d) (P:=P)
 rw [regions P.length 0 (Nat.le_refl _) h6,Xk_poly] at h1
 have h2:((grTR d P P.length).length:Int).natAbs=(sumN (d+1) fun j=>whC d P j*(-1:Int) ^ j).natAbs:=by rw [h1,Int.natAbs_mul,mi_abs,Nat.one_mul]
 simpa using h2
theorem zas_bd {d:Nat} {P:List (List Int)} (h6:P.length≤6):((grTR d P P.length).filter fun t=>!opB d (clR P t)).length=if rk d P=d then (sumN (d+1) fun j=>whC d P j*(1:Int) ^ j).natAbs else 0:=by
 by_cases hs:rk d P=d
 ·rw [if_pos hs]
  have h1:=bd_len hs
  rw [bounded P.length 0 (Nat.le_refl _) h6,Xk_poly] at h1
  have h2:(((grTR d P P.length).filter fun t=>!opB d (clR P t)).length:Int).natAbs=(sumN (d+1) fun j=>whC d P j*(1:Int) ^ j).natAbs:=by rw [h1,Int.natAbs_mul,mi_abs,Nat.one_mul]
  simpa using h2
 ·rw [if_neg hs,bd_zero hs]; rfl
end Go.Proofs.YtbdacimjebaihaaGreat
