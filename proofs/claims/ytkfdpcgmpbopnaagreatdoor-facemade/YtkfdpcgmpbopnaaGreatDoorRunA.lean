import Derived.Test.YtkfdpcgmpbopnaaGreatDoorWiA
import Derived.Test.YtkfdpcgmpbopnaaGreatDoorStepsAll
import Derived.Test.YtkfdpcgmpbopnaaGreatDoorLinAll
import Derived.Deep.DrawnRows
namespace Go.Proofs.YtkfdpcgmpbopnaaGreatDoor
open Go.RowKit
attribute [local go_sem ↓] Go.wp_at_zero Go.wp_at_succ
structure Touch (g:Nat) (w w':World):Prop where
 os:w'.os=w.os
 tape:w'.tape=w.tape
 output:w'.output=w.output
 size:w'.heap.size=w.heap.size
 block:∀b,b≠g→w'.heap[b]?=w.heap[b]?
theorem Touch.refl (g:Nat) (w:World):Touch g w w:=⟨rfl,rfl,rfl,rfl,fun _ _=>rfl⟩
theorem Touch.drewN {g:Nat} {w w':World} (h:Touch g w w') (n:Nat):Touch g w (w'.drewN n):=⟨h.os,h.tape,h.output,h.size,h.block⟩
theorem Touch.drew {g:Nat} {w w':World} (h:Touch g w w'):Touch g w w'.drew:=⟨h.os,h.tape,h.output,h.size,h.block⟩
theorem Touch.setCell {g:Nat} {w w':World} (h:Touch g w w') (j:Nat) (u:Value):Touch g w (w'.setCell ⟨g,j,none⟩ u):=
 ⟨h.os,h.tape,h.output,by simp [World.setCell,h.size],fun b hb=>(Below.heap_setCell _ _ _ _ hb).trans (h.block b hb)⟩
theorem Touch.cell {g:Nat} {w w':World} (h:Touch g w w') {a:Addr} (ha:a.block≠g):w'.cell? a=w.cell? a:=World.cell?_of_block (w:=w) (h.block _ ha)
theorem Touch.owns {g B n:Nat} {e:TypeId} {w w':World} {v:Value} {xs:List Value} (h:Touch g w w') (ho:w.ownsRow B e 1 v n xs) (hv:v.ownBlock≠some g):w'.ownsRow B e 1 v n xs:=by
 obtain ⟨h1,h2⟩:=ho
 refine ⟨h1,?_⟩
 rcases h2 with h2 | ⟨k,cap,cur,rfl,hb,hh,r⟩
 ·exact Or.inl h2
 ·exact Or.inr ⟨k,cap,cur,rfl,hb,(h.block k (fun e=>hv (by simp [Value.ownBlock,e]))).trans hh,r⟩
theorem quo_even {k r t p d q:Int} (hd:d≠0) (he:k*r-t*p=d*q) (hb : -9223372036854775808 < d*q∧d*q≤9223372036854775807) (hq : -9223372036854775808≤q∧q≤9223372036854775807) :
  wrap64 ((wrap64 (wrap64 (k*r)-wrap64 (t*p))).tdiv d)=q:=by
 have e1:wrap64 (wrap64 (k*r)-wrap64 (t*p))=d*q:=by
  have e2:wrap64 (wrap64 (k*r)-wrap64 (t*p))=wrap64 (k*r-t*p):=by unfold wrap64; omega
  rw [e2,he]
  exact IntWalk.wrap64_in _ ⟨by omega,by omega⟩
 rw [e1,Int.mul_tdiv_cancel_left q hd]
 exact IntWalk.wrap64_in _ hq
set_option maxRecDepth 100000 in
set_option maxHeartbeats 1600000 in
theorem clear_any (B g gp c cap capp q:Nat) (r p nr:List Int) (d:Int) (w:World) (hr:w.ownsRow B 3 1 (.slice (some ⟨g,0,none⟩) c cap) c (ints r)) (hp:w.ownsRow B 3 1 (.slice (some ⟨gp,0,none⟩) c capp) c (ints p))
  (hgp:gp≠g) (hq:q < c) (hd:d≠0) (hrl:r.length=c) (hpl:p.length=c) (hnl:nr.length=c)
  (he:∀j,j < c→p.getD q 0*r.getD j 0-r.getD q 0*p.getD j 0=d*nr.getD j 0)
  (hb:∀j,j < c→(d*nr.getD j 0).natAbs≤9223372036854775807∧(nr.getD j 0).natAbs≤9223372036854775807) :
  Calls Tryz.prog 132 #[.slice (some ⟨g,0,none⟩) c cap,.slice (some ⟨gp,0,none⟩) c capp,.int .i64 q,.int .i64 d] w fun e w'=>
   e=.returned (.tuple #[])∧w'.ownsRow B 3 1 (.slice (some ⟨g,0,none⟩) c cap) c (ints nr)∧Touch g w w':=by
 have hcq1:w.cell? ⟨gp,q,none⟩=some (.int .i64 (p.getD q 0)):=by rw [hp.cellAt q (by omega),ints_get _ _ (by omega)]
 have hcq2:w.cell? ⟨g,q,none⟩=some (.int .i64 (r.getD q 0)):=by rw [hr.cellAt q (by omega),ints_get _ _ (by omega)]
 have HR:Hid (w.ownsRow B 3 1 (.slice (some ⟨g,0,none⟩) c cap) c (ints r)):=hr
 have HP:Hid (w.ownsRow B 3 1 (.slice (some ⟨gp,0,none⟩) c capp) c (ints p)):=hp
 have HE:Hid (∀j,j < c→p.getD q 0*r.getD j 0-r.getD q 0*p.getD j 0=d*nr.getD j 0):=he
 have HBD:Hid (∀j,j < c→(d*nr.getD j 0).natAbs≤9223372036854775807∧(nr.getD j 0).natAbs≤9223372036854775807):=hb
 have HRL:Hid (r.length=c∧p.length=c∧nr.length=c):=⟨hrl,hpl,hnl⟩
 have hcc:c≤cap∧cap≤9223372036854775807:=by
  obtain ⟨_,h2⟩:=hr
  rcases h2 with ⟨h,_⟩ | ⟨k,cp,cur,h,_,_,h3,h4,_⟩
  ·simp at h
  ·simp only [Value.slice.injEq] at h; unfold maxLen at h4; omega
 have hccp:c≤capp∧capp≤9223372036854775807:=by
  obtain ⟨_,h2⟩:=hp
  rcases h2 with ⟨h,_⟩ | ⟨k,cp,cur,h,_,_,h3,h4,_⟩
  ·simp at h
  ·simp only [Value.slice.injEq] at h; unfold maxLen at h4; omega
 clear hr hp he hb hrl hpl hnl
 generalize hkp:p.getD q 0=kp at *
 generalize htk:r.getD q 0=tk at *
 clear hkp htk
 have hqI0:(0:Int)≤(q:Int):=by omega
 have hqI1:(q:Int) < (c:Int):=by omega
 go_enter Tryz.func132,Tryz.ntmps132
 go_wp2
 go_quiet (fail)
 go_wp2
 go_loopw [21] (fun i wr=>∃k:Nat,k≤c∧i=.int .i64 k∧wr.ownsRow B 3 1 (.slice (some ⟨g,0,none⟩) c cap) c (ints (nr.take k ++ r.drop k))∧Touch g w wr) (fun i _=>c-(intOf i).toNat)
 case atStart=>
  refine ⟨0,Nat.zero_le _,rfl,?_,(Touch.refl _ _).drewN _⟩
  rw [List.take_zero,List.drop_zero,List.nil_append]; exact HR.out
 case round=>
  obtain ⟨k,hk,rfl,hown,ht⟩:=hrel
  have HO:Hid (wr.ownsRow B 3 1 (.slice (some ⟨g,0,none⟩) c cap) c (ints (nr.take k ++ r.drop k))):=hown
  have HT:Hid (Touch g w wr):=ht
  obtain ⟨hl1,hl2,hl3⟩:=HRL.out
  by_cases hlt:k < c
  ·have e1:(nr.take k ++ r.drop k).getD k 0=r.getD k 0:=by
    simp only [List.getD_eq_getElem?_getD]; rw [List.getElem?_append_right (by simp; omega)]; simp [show k-min k nr.length=0 by omega]
   have hck:wr.cell? ⟨g,k,none⟩=some (.int .i64 (r.getD k 0)):=by
    rw [hown.cellAt k (by omega),ints_get _ _ (by simp; omega),e1]
   have hcp:wr.cell? ⟨gp,k,none⟩=some (.int .i64 (p.getD k 0)):=by
    rw [ht.cell hgp,HP.out.cellAt k (by omega),ints_get _ _ (by omega)]
   have hfz:=hown.frozenAt k
   have hee:=HE.out k hlt
   have hbb:=HBD.out k hlt
   have HEE:Hid (kp*r.getD k 0-tk*p.getD k 0=d*nr.getD k 0):=hee
   have HST:Hid (ints (nr.take (k+1) ++ r.drop (k+1))=(ints (nr.take k ++ r.drop k)).set k (.int .i64 (nr.getD k 0))):=by
    show _=_
    apply List.ext_getElem?
    intro i
    rw [List.getElem?_set,ints_length]
    simp only [ints,List.getElem?_map]
    by_cases hik:i < k
    ·rw [List.getElem?_append_left (by simp; omega),List.getElem?_append_left (by simp; omega),if_neg (by omega)]
     simp [hik,show i < k+1 by omega]
    ·by_cases hik2:i=k
     ·subst hik2
      rw [List.getElem?_append_left (by simp; omega),if_pos rfl,if_pos (by simp; omega)]
      simp [show i < nr.length by omega]
     ·rw [List.getElem?_append_right (by simp; omega),List.getElem?_append_right (by simp; omega),if_neg (by omega)]
      simp only [List.length_take,List.getElem?_drop]
      rw [show k+1+(i-min (k+1) nr.length)=i by omega,show k+(i-min k nr.length)=i by omega]
   generalize r.getD k 0=rk at *
   generalize p.getD k 0=pk at *
   generalize nr.getD k 0=nk at *
   clear hown ht e1 hee hl1 hl2 hl3 hcq1 hcq2
   have hkI0:(0:Int)≤(k:Int):=by omega
   have hkI1:(k:Int) < (c:Int):=by omega
   have hdb:(d == 0)=false:=beq_eq_false_iff_ne.2 hd
   go_wp2
   go_region
   rw [quo_even hd HEE.out ⟨by omega,by omega⟩ ⟨by omega,by omega⟩]
   go_wp2
   go_roundw
   case rel=>
    refine ⟨k+1,by omega,by go_num,?_,(HT.out.setCell k _).drew⟩
    rw [HST.out]
    exact (HO.out.stored k _).1.drew
   case measure=>simp [intOf]; omega
  ·clear hown ht hcq1 hcq2
   have HN:Hid (nr.take k ++ r.drop k=nr):=by
    show _=_
    rw [List.take_of_length_le (by omega),List.drop_eq_nil_of_le (by omega),List.append_nil]
   clear hl1 hl2 hl3
   go_wp2
   go_end0
   exact ⟨rfl,by rw [←HN.out]; exact HO.out,HT.out⟩
end Go.Proofs.YtkfdpcgmpbopnaaGreatDoor
namespace Go.Proofs.YtkfdpcgmpbopnaaGreatDoor
open Go.RowKit
set_option maxRecDepth 100000 in
set_option maxHeartbeats 400000 in
theorem piv1_any (B q:Nat) (r:List Int) (v:Value) (a:Addr) (w:World) (hv:Sl B 3 w v (ints r)) (hq:q < r.length) (hc:w.cell? a=some (.int .i64 q)) :
  Calls Tryz.prog 131 #[v,.pointer (some a)] w fun e w'=>e=.returned (.bool (r.getD q 0 != 0))∧w'=w:=by
 obtain ⟨ao,cap,hvv,hlc,hcm⟩:=sl_open hv
 subst hvv
 obtain ⟨b,o,cp,hs,hc1,hcc⟩:=sl_cell hv hq
 simp only [Value.slice.injEq] at hs
 obtain ⟨rfl,_,rfl⟩:=hs
 clear hv
 generalize r.getD q 0=x at *
 go_enter Tryz.func131,Tryz.ntmps131
 go_wp2
 go_ret
 exact ⟨rfl,rfl⟩
def findR (m:List (List Int)) (q:Nat):Int:=if m.any (fun r=>r.getD q 0 != 0) then (m.findIdx (fun r=>r.getD q 0 != 0):Int) else -1
theorem anyR_snoc {p:List Int→Bool} {l:List (List Int)} {k:Nat} (h:k < l.length) (h0:(l.take k).any p=false):(l.take (k+1)).any p=p (l.getD k []):=by
 rw [List.take_succ_eq_append_getElem h,List.any_append,h0]; simp [h]
theorem findR_hit {l:List (List Int)} {q k:Nat} (h:k < l.length) (h0:(l.take k).any (fun r=>r.getD q 0 != 0)=false) (h1:((l.getD k []).getD q 0 != 0)=true):findR l q=k:=by
 have hk:l.getD k []=l[k]:=by simp [h]
 have ha:l.any (fun r=>r.getD q 0 != 0)=true:=List.any_eq_true.2 ⟨l[k],List.getElem_mem h,by rw [←hk]; exact h1⟩
 have hi:l.findIdx (fun r=>r.getD q 0 != 0)=k:=by
  rw [List.findIdx_eq h]
  refine ⟨by rw [←hk]; exact h1,fun j hj=>?_⟩
  have:=List.any_eq_false.1 h0 l[j] (by rw [List.mem_take_iff_getElem]; exact ⟨j,by omega,rfl⟩)
  simpa using this
 unfold findR; rw [ha,hi]; rfl
theorem findR_none {l:List (List Int)} {q:Nat} (h0:l.any (fun r=>r.getD q 0 != 0)=false):findR l q=-1:=by
 unfold findR; rw [h0]; rfl
set_option maxRecDepth 100000 in
set_option maxHeartbeats 800000 in
theorem index103_any (B q:Nat) (m:List (List Int)) (v:Value) (a:Addr) (w:World) (hv:Mat B 22 3 w v m) (hr:∀r∈m,q < r.length) (hc:w.cell? a=some (.int .i64 q)) :
  Calls Tryz.prog 128 #[v,.func (.func 131) #[] #[.pointer (some a)]] w fun e w'=>e=.returned (.int .i64 (findR m q))∧w'=w:=by
 obtain ⟨ao,cap,hvv,hlc,hcm⟩:=mat_open hv
 subst hvv
 have HV:Hid (Mat B 22 3 w (.slice ao m.length cap) m):=hv
 have HR:Hid (∀r∈m,q < r.length):=hr
 have HC:Hid (w.cell? a=some (.int .i64 q)):=hc
 clear hv hr hc
 go_enter Tryz.func128,Tryz.ntmps128
 go_wp2
 go_loop [8] (fun i=>∃k:Nat,k≤m.length∧i=.int .i64 k∧(m.take k).any (fun r=>r.getD q 0 != 0)=false) (fun i=>m.length-(intOf i).toNat)
 case atStart=>exact ⟨0,Nat.zero_le _,rfl,by simp⟩
 case round=>
  obtain ⟨k,hk,rfl,hno⟩:=hrel
  have HN:Hid ((m.take k).any (fun r=>r.getD q 0 != 0)=false):=hno
  clear hno
  by_cases hlt:k < m.length
  ·obtain ⟨b,o,cp,r1,hs,hc1,hcc,hr1⟩:=mat_cell HV.out hlt
   simp only [Value.slice.injEq] at hs
   obtain ⟨rfl,_,rfl⟩:=hs
   have HS1:Hid ((m.take (k+1)).any (fun r=>r.getD q 0 != 0)=((m.getD k []).getD q 0 != 0)):=anyR_snoc (p:=fun r=>r.getD q 0 != 0) hlt HN.out
   have HH:Hid (((m.getD k []).getD q 0 != 0)=true→findR m q=k):=fun h=>findR_hit hlt HN.out h
   have HQ:Hid (q < (m.getD k []).length):=HR.out _ (by simp [hlt])
   have HR1:Hid (Sl B 3 w r1 (ints (m.getD k []))):=hr1
   clear hr1
   generalize m.getD k []=r at *
   go_wp2_with fail
   refine (piv1_any B q r r1 a w HR1.out HQ.out HC.out).mono ?_
   rintro e w' ⟨rfl,rfl⟩
   generalize r.getD q 0=x at *
   by_cases hx:x=0
   ·have hxb:(x != 0)=false:=by simp [hx]
    clear hx
    go_wp2
    go_round
    case rel=>exact ⟨k+1,by omega,by go_num,by rw [HS1.out,hxb]⟩
    case measure=>simp [intOf]; omega
   ·have hxb:(x != 0)=true:=by simp [hx]
    clear hx
    go_wp2
    go_ret
    exact ⟨ret_int (HH.out hxb).symm,rfl⟩
  ·have HTK:Hid (m.take k=m):=List.take_of_length_le (by omega)
   go_wp2
   go_ret
   exact ⟨ret_int (findR_none (by rw [←HN.out,HTK.out])).symm,rfl⟩
structure RS (B R n c:Nat) (mat:Nat→Nat→Int) (piv:List Int) (val sgn:Int) (go capo:Nat) (pv:Value) (bs caps:Nat→Nat) (w:World):Prop where
 st:w.heap[R]?=some (.cells #[.slice (some ⟨go,0,none⟩) n capo,pv,.int .i64 val,.int .i64 sgn] 103 (0,0))
 out:w.ownsRow B 22 1 (.slice (some ⟨go,0,none⟩) n capo) n ((List.range n).map fun i=>.slice (some ⟨bs i,0,none⟩) c (caps i))
 row:∀i,i < n→w.ownsRow B 3 1 (.slice (some ⟨bs i,0,none⟩) c (caps i)) c (ints ((List.range c).map (mat i)))
 inj:∀i j,i < n→j < n→i≠j→bs i≠bs j
 piv:w.ownsRow B 3 1 pv piv.length (ints piv)
 off:∀g,pv.ownBlock=some g→∀i,i < n→bs i≠g
def rowsOf (n c:Nat) (mat:Nat→Nat→Int):List (List Int):=(List.range n).map fun i=>(List.range c).map (mat i)
end Go.Proofs.YtkfdpcgmpbopnaaGreatDoor
namespace Go.Proofs.YtkfdpcgmpbopnaaGreatDoor
open Go.RowKit
attribute [local go_sem ↓] Go.wp_at_zero Go.wp_at_succ
theorem RS.below {B N R n c:Nat} {mat:Nat→Nat→Int} {piv:List Int} {val sgn:Int} {go capo:Nat} {pv:Value} {bs caps:Nat→Nat} {w w':World} (h:RS B R n c mat piv val sgn go capo pv bs caps w) (hb:Below N w w') (hN:w.heap.size≤N) :
  RS B R n c mat piv val sgn go capo pv bs caps w':=
 ⟨(hb.block R (Nat.lt_of_lt_of_le (lt_of_block h.st) hN)).trans h.st,owns_below h.out hb hN,fun i hi=>owns_below (h.row i hi) hb hN,h.inj,owns_below h.piv hb hN,h.off⟩
theorem RS.tail {B R n c:Nat} {mat:Nat→Nat→Int} {piv:List Int} {val sgn:Int} {go capo:Nat} {pv:Value} {bs caps:Nat→Nat} {w:World} (h:RS B R n c mat piv val sgn go capo pv bs caps w) (k:Nat) (hk:k < n) :
  Mat B 22 3 w (.slice (some ⟨go,k,none⟩) (n-k) (capo-k)) ((rowsOf n c mat).drop k):=by
 have hl:((rowsOf n c mat).drop k).length=n-k:=by simp [rowsOf]
 obtain ⟨q1,q2⟩:=h.out
 rcases q2 with ⟨q2,_⟩ | ⟨g,cap,cur,q2,hg,hh,hn,hc,hs,ht⟩
 ·simp at q2
 ·simp only [Value.slice.injEq,Option.some.injEq,Addr.mk.injEq,and_true,true_and] at q2
  obtain ⟨rfl,rfl⟩:=q2
  refine ⟨((List.range n).map fun i=>Value.slice (some ⟨bs i,0,none⟩) c (caps i)).drop k,by simp [rowsOf],⟨some ⟨go,k,none⟩,capo-k,?_,?_,?_,fun i hi=>⟨go,k,rfl,?_,Or.inr ⟨cur,hh⟩⟩,fun h=>by cases h⟩,fun i hi=>?_⟩
  ·simp
  ·simp; omega
  ·omega
  ·have hi':k+i < n:=by simp at hi; omega
   have:=h.out.cellAt (k+i) (by omega)
   rw [this,List.getElem?_drop]
  ·rw [hl] at hi
   have e1:(((List.range n).map fun i=>Value.slice (some ⟨bs i,0,none⟩) c (caps i)).drop k).getD i (.slice none 0 0)=.slice (some ⟨bs (k+i),0,none⟩) c (caps (k+i)):=by
    simp [show k+i < n by omega]
   have e2:((rowsOf n c mat).drop k).getD i []=(List.range c).map (mat (k+i)):=by
    simp [rowsOf,show k+i < n by omega]
   rw [e1,e2]
   exact Sl.own (h.row (k+i) (by omega))
theorem mat_empty (B:Nat) (w:World) (a:Addr) (cap:Nat) (h:cap≤maxLen):Mat B 22 3 w (.slice (some a) 0 cap) []:=
 ⟨[],rfl,⟨some a,cap,rfl,by simp,h,fun i hi=>absurd hi (by simp),fun h=>by cases h⟩,fun i hi=>absurd hi (by simp)⟩
theorem rows_find_none {n c q k:Nat} {mat:Nat→Nat→Int} (hq:q < c) (hz:∀i,k≤i→i < n→mat i q=0):findR ((rowsOf n c mat).drop k) q=-1:=by
 apply findR_none
 rw [List.any_eq_false]
 intro r hr
 obtain ⟨i,hi,rfl⟩:=List.mem_iff_getElem.1 hr
 have hi':k+i < n:=by simp [rowsOf] at hi; omega
 have:=hz (k+i) (by omega) hi'
 simp [rowsOf,hq,this]
theorem rows_len {n c q k:Nat} {mat:Nat→Nat→Int} (hq:q < c):∀r∈(rowsOf n c mat).drop k,q < r.length:=by
 intro r hr
 have:=List.mem_of_mem_drop hr
 simp only [rowsOf,List.mem_map] at this
 obtain ⟨i,_,rfl⟩:=this
 simpa using hq
set_option maxRecDepth 100000 in
set_option maxHeartbeats 800000 in
theorem pivot_none (B R n c q:Nat) (mat:Nat→Nat→Int) (piv:List Int) (val sgn:Int) (go capo:Nat) (pv:Value) (bs caps:Nat→Nat) (w:World) (h:RS B R n c mat piv val sgn go capo pv bs caps w) (hB:B≤w.heap.size)
  (hn:n≤500) (hk:piv.length≤n) (hq:q < c) (hz:∀i,piv.length≤i→i < n→mat i q=0) :
  Calls Tryz.prog 105 #[.pointer (some ⟨R,0,none⟩),.int .i64 q] w fun e w'=>e=.returned (.tuple #[])∧RS B R n c mat piv val sgn go capo pv bs caps w'∧Below B w w':=by
 obtain ⟨po,pc,hpv⟩:=owns_form h.piv
 subst hpv
 have HR:Hid (RS B R n c mat piv val sgn go capo (.slice po piv.length pc) bs caps w):=h
 have HZ:Hid (∀i,piv.length≤i→i < n→mat i q=0):=hz
 have hcc:n≤capo∧capo≤9223372036854775807:=by
  obtain ⟨_,h2⟩:=h.out
  rcases h2 with ⟨h,_⟩ | ⟨k,cp,cur,h,_,_,h3,h4,_⟩
  ·simp at h
  ·simp only [Value.slice.injEq] at h; unfold maxLen at h4; omega
 have hst:=h.st
 have hRlt:=lt_of_block hst
 have h0:w.cell? ⟨R,0,none⟩=some (.slice (some ⟨go,0,none⟩) n capo):=by simp [World.cell?,hst]
 have h1:w.cell? ⟨R,1,none⟩=some (.slice po piv.length pc):=by simp [World.cell?,hst]
 clear h hz hst
 generalize hkl:piv.length=k at *
 clear hkl
 have HAL:Hid (Below w.heap.size w (w.alloc (.cells #[.int .i64 q] 3))):=(Below.refl _ _).alloc (Nat.le_refl _) _
 have HF:Hid (findR ((rowsOf n c mat).drop k) q=-1):=rows_find_none hq HZ.out
 by_cases hkn:k < n
 ·have hkc:k < capo:=by omega
  go_enter Tryz.func105,Tryz.ntmps105
  go_wp2_with fail
  refine (index103_any B q _ _ ⟨w.heap.size,0,none⟩ _ ((HR.out.tail k hkn).below HAL.out (Nat.le_refl _)) (rows_len hq) (by simp)).mono ?_
  rintro e w' ⟨rfl,rfl⟩
  rw [HF.out]
  go_wp2
  exact bodyPost_ret (v:=.tuple #[]) (by simp [results,Tryz.results105,go_sem]) rfl ⟨rfl,HR.out.below HAL.out (Nat.le_refl _),(HAL.out).mono hB⟩
 ·have hkn':k=n:=by omega
  have HE:Hid (findR [] q=-1):=rfl
  subst hkn'
  go_enter Tryz.func105,Tryz.ntmps105
  go_wp2_with fail
  all_goals
   refine (index103_any B q [] _ ⟨w.heap.size,0,none⟩ _ (mat_empty _ _ _ _ (by unfold maxLen; omega)) (fun r hr=>absurd hr (by simp)) (by simp)).mono ?_
   rintro e w' ⟨rfl,rfl⟩
   rw [HE.out]
   go_wp2
   exact bodyPost_ret (v:=.tuple #[]) (by simp [results,Tryz.results105,go_sem]) rfl ⟨rfl,HR.out.below HAL.out (Nat.le_refl _),(HAL.out).mono hB⟩
end Go.Proofs.YtkfdpcgmpbopnaaGreatDoor
namespace Go.Proofs.YtkfdpcgmpbopnaaGreatDoor
open Go.RowKit
attribute [local go_sem ↓] Go.wp_at_zero Go.wp_at_succ
def sw (k i0 i:Nat):Nat:=if i=k then i0 else if i=i0 then k else i
theorem sw_lt {k i0 i n:Nat} (hk:k < n) (hi0:i0 < n) (hi:i < n):sw k i0 i < n:=by
 unfold sw; split
 ·exact hi0
 ·split
  ·exact hk
  ·exact hi
theorem sw_inj {k i0 i j:Nat} (h:i≠j):sw k i0 i≠sw k i0 j:=by
 unfold sw; grind
theorem sw_self (k i:Nat):sw k k i=i:=by unfold sw; by_cases h:i=k <;> simp [h]
theorem rows_find {n c q k f:Nat} {mat:Nat→Nat→Int} (hq:q < c) (hf:k+f < n) (hz:∀i,k≤i→i < k+f→mat i q=0) (hne:mat (k+f) q≠0):findR ((rowsOf n c mat).drop k) q=f:=by
 have hg:∀i,i < n-k→((rowsOf n c mat).drop k).getD i []=(List.range c).map (mat (k+i)):=by
  intro i hi; simp [rowsOf,show k+i < n by omega]
 refine findR_hit (by simp [rowsOf]; omega) ?_ ?_
 ·rw [List.any_eq_false]
  intro r hr
  rw [List.mem_take_iff_getElem] at hr
  obtain ⟨i,hi,rfl⟩:=hr
  have hi1:i < f:=by omega
  have:=hz (k+i) (by omega) (by omega)
  simp [rowsOf,hq,this]
 ·rw [hg f (by omega)]; simp [hq,hne]
theorem RS.swap {B R n c k i0:Nat} {mat:Nat→Nat→Int} {piv:List Int} {val sgn:Int} {go capo:Nat} {pv:Value} {bs caps:Nat→Nat} {w:World} (h:RS B R n c mat piv val sgn go capo pv bs caps w) (hk:k < n) (hi0:i0 < n) (hne:k≠i0) (sgn':Int) :
  RS B R n c (fun i j=>mat (sw k i0 i) j) piv val sgn' go capo pv (fun i=>bs (sw k i0 i)) (fun i=>caps (sw k i0 i))
   (((w.setCell ⟨go,k,none⟩ (.slice (some ⟨bs i0,0,none⟩) c (caps i0))).setCell ⟨go,i0,none⟩ (.slice (some ⟨bs k,0,none⟩) c (caps k))).setCell ⟨R,3,none⟩ (.int .i64 sgn')):=by
 have hgoR:go≠R:=by
  intro e
  obtain ⟨_,q2⟩:=h.out
  rcases q2 with ⟨q2,_⟩ | ⟨g,cap,cur,q2,_,hh,_⟩
  ·simp at q2
  ·simp only [Value.slice.injEq,Option.some.injEq,Addr.mk.injEq,and_true,true_and] at q2
   have hst:=h.st
   rw [←q2.1,e,hst] at hh
   simp at hh
 have hoff:∀b,(∃cur,w.heap[b]?=some (.cells cur 3 (0,0)))→b≠go∧b≠R:=by
  rintro b ⟨cur,hb⟩
  constructor
  ·rintro rfl
   obtain ⟨_,q2⟩:=h.out
   rcases q2 with ⟨q2,_⟩ | ⟨g,cap,cur2,q2,_,hh,_⟩
   ·simp at q2
   ·simp only [Value.slice.injEq,Option.some.injEq,Addr.mk.injEq,and_true,true_and] at q2
    rw [←q2.1,hb] at hh
    simp at hh
  ·rintro rfl
   have hst:=h.st
   rw [hb] at hst
   simp at hst
 have hown:∀v m xs,w.ownsRow B 3 1 v m xs→(((w.setCell ⟨go,k,none⟩ (.slice (some ⟨bs i0,0,none⟩) c (caps i0))).setCell ⟨go,i0,none⟩ (.slice (some ⟨bs k,0,none⟩) c (caps k))).setCell ⟨R,3,none⟩ (.int .i64 sgn')).ownsRow B 3 1 v m xs:=by
  intro v m xs hv
  obtain ⟨q1,q2⟩:=hv
  refine ⟨q1,?_⟩
  rcases q2 with q2 | ⟨g,cap,cur,rfl,r1,r2,r3⟩
  ·exact Or.inl q2
  ·obtain ⟨n1,n2⟩:=hoff g ⟨cur,r2⟩
   refine Or.inr ⟨g,cap,cur,rfl,r1,?_,r3⟩
   rw [Below.heap_setCell _ _ _ _ n2,Below.heap_setCell _ _ _ _ n1,Below.heap_setCell _ _ _ _ n1]; exact r2
 refine ⟨?_,?_,fun i hi=>hown _ _ _ (h.row _ (sw_lt hk hi0 hi)),fun i j hi hj hij=>h.inj _ _ (sw_lt hk hi0 hi) (sw_lt hk hi0 hj) (sw_inj hij),hown _ _ _ h.piv,fun g hg i hi=>h.off g hg _ (sw_lt hk hi0 hi)⟩
 ·have e:((w.setCell ⟨go,k,none⟩ (.slice (some ⟨bs i0,0,none⟩) c (caps i0))).setCell ⟨go,i0,none⟩ (.slice (some ⟨bs k,0,none⟩) c (caps k))).heap[R]?=w.heap[R]?:=by
   rw [Below.heap_setCell _ _ _ _ (Ne.symm hgoR),Below.heap_setCell _ _ _ _ (Ne.symm hgoR)]
  rw [h.st] at e
  simp [World.setCell,Array.getElem?_modify] at e ⊢
  rw [e]; simp
 ·have o1:=((h.out.stored k (.slice (some ⟨bs i0,0,none⟩) c (caps i0))).1.stored i0 (.slice (some ⟨bs k,0,none⟩) c (caps k))).1
  have o2:=ownsRow_setCell_other o1 (a:=⟨R,3,none⟩) (by simp [Value.ownBlock]; exact hgoR) (.int .i64 sgn')
  have e:(((List.range n).map fun i=>Value.slice (some ⟨bs i,0,none⟩) c (caps i)).set k (.slice (some ⟨bs i0,0,none⟩) c (caps i0))).set i0 (.slice (some ⟨bs k,0,none⟩) c (caps k))=(List.range n).map fun i=>Value.slice (some ⟨bs (sw k i0 i),0,none⟩) c (caps (sw k i0 i)):=by
   apply List.ext_getElem?
   intro i
   rw [List.getElem?_set,List.getElem?_set]
   by_cases e1:i0=i
   ·subst e1; simp [sw,hi0,Ne.symm hne]
   ·by_cases e2:k=i
    ·subst e2; simp [sw,hk,e1]
    ·have e1':i≠i0:=fun h=>e1 h.symm
     have e2':i≠k:=fun h=>e2 h.symm
     rw [if_neg e1,if_neg e2]
     by_cases hin:i < n
     ·simp [hin,sw,e1',e2']
     ·rw [List.getElem?_eq_none (by simp; omega),List.getElem?_eq_none (by simp; omega)]
  rw [e] at o2
  exact o2
end Go.Proofs.YtkfdpcgmpbopnaaGreatDoor
