import Derived.Test.YtkjkfceblmgogaaGreatRun1
import Derived.Test.YtkjkfceblmgogaaGreatStepsAll
import Derived.Deep.DrawnRows
set_option maxRecDepth 100000
set_option maxHeartbeats 1600000
namespace Go.Proofs.YtkjkfceblmgogaaGreat
open Go.RowKit
attribute [local go_sem ↓] Go.wp_at_zero Go.wp_at_succ
structure Touch(g:Nat)(w w':World):Prop where
 os:w'.os=w.os
 tape:w'.tape=w.tape
 output:w'.output=w.output
 size:w'.heap.size=w.heap.size
 block:∀b,b≠g→w'.heap[b]?=w.heap[b]?
theorem Touch.refl(g:Nat)(w:World):Touch g w w:=⟨rfl,rfl,rfl,rfl,fun _ _=>rfl⟩
theorem Touch.drewN{g:Nat}{w w':World}(h:Touch g w w')(n:Nat):Touch g w (w'.drewN n):=⟨h.os,h.tape,h.output,h.size,h.block⟩
theorem Touch.drew{g:Nat}{w w':World}(h:Touch g w w'):Touch g w w'.drew:=⟨h.os,h.tape,h.output,h.size,h.block⟩
theorem Touch.setCell{g:Nat}{w w':World}(h:Touch g w w')(j:Nat)(u:Value):Touch g w (w'.setCell ⟨g,j,none⟩ u):=
 ⟨h.os,h.tape,h.output,by simp [World.setCell,h.size],fun b hb=>(Below.heap_setCell _ _ _ _ hb).trans (h.block b hb)⟩
theorem Touch.cell{g:Nat}{w w':World}(h:Touch g w w'){a:Addr}(ha:a.block≠g):w'.cell? a=w.cell? a:=World.cell?_of_block (w:=w) (h.block _ ha)
theorem Touch.owns{g B n:Nat}{e:TypeId}{w w':World}{v:Value}{xs:List Value}(h:Touch g w w')(ho:w.ownsRow B e 1 v n xs)(hv:v.ownBlock≠some g):w'.ownsRow B e 1 v n xs:=by
 obtain ⟨b,a⟩:=ho;refine ⟨b,?_⟩
 rcases a with a | ⟨k,cap,cur,rfl,hb,hh,r⟩
 ·exact Or.inl a
 ·exact Or.inr ⟨k,cap,cur,rfl,hb,(h.block k (fun e=>hv (by simp [Value.ownBlock,e]))).trans hh,r⟩
theorem ZM0{k r t p d q:Int}(hd:d≠0)(he:k*r-t*p=d*q)(hb : -9223372036854775808 < d*q∧d*q≤9223372036854775807)(hq : -9223372036854775808≤q∧q≤9223372036854775807) :
  wrap64 ((wrap64 (wrap64 (k*r)-wrap64 (t*p))).tdiv d)=q:=by
 have a:wrap64 (wrap64 (k*r)-wrap64 (t*p))=d*q:=by
  have b:wrap64 (wrap64 (k*r)-wrap64 (t*p))=wrap64 (k*r-t*p):=by unfold wrap64; omega
  rw [b,he]
  exact IntWalk.wrap64_in _ ⟨by omega,by omega⟩
 rw [a,Int.mul_tdiv_cancel_left q hd];exact IntWalk.wrap64_in _ hq
theorem ZGZ(B g gp c cap capp q:Nat)(r p nr:List Int)(d:Int)(w:World)(hr:w.ownsRow B 3 1 (.slice (some ⟨g,0,none⟩) c cap) c (ZAB r))(hp:w.ownsRow B 3 1 (.slice (some ⟨gp,0,none⟩) c capp) c (ZAB p))
 (hgp:gp≠g)(hq:q < c)(hd:d≠0)(hrl:r.length=c)(hpl:p.length=c)(hnl:nr.length=c)
 (he:∀j,j < c→p.getD q 0*r.getD j 0-r.getD q 0*p.getD j 0=d*nr.getD j 0)
 (hb:∀j,j < c→(d*nr.getD j 0).natAbs≤9223372036854775807∧(nr.getD j 0).natAbs≤9223372036854775807) :
  Calls Tryz.prog 133 #[.slice (some ⟨g,0,none⟩) c cap,.slice (some ⟨gp,0,none⟩) c capp,.int .i64 q,.int .i64 d] w fun e w'=>
   e=.returned (.tuple #[])∧w'.ownsRow B 3 1 (.slice (some ⟨g,0,none⟩) c cap) c (ZAB nr)∧Touch g w w':=by
 have f:w.cell? ⟨gp,q,none⟩=some (.int .i64 (p.getD q 0)):=by rw [hp.cellAt q (by omega),ZAZ _ _ (by omega)]
 have b:w.cell? ⟨g,q,none⟩=some (.int .i64 (r.getD q 0)):=by rw [hr.cellAt q (by omega),ZAZ _ _ (by omega)]
 have O:=hid hr;have R:=hid hp;have X:=hid he;have y:=hid hb;have t:Hid (r.length=c∧p.length=c∧nr.length=c):=⟨hrl,hpl,hnl⟩
 have U:c≤cap∧cap≤9223372036854775807:=by
  obtain ⟨_,v⟩:=hr
  rcases v with ⟨h,_⟩ | ⟨k,cp,cur,h,_,_,h3,h4,_⟩
  ·simp at h
  ·simp only [Za3] at h; unfold maxLen at h4; omega
 have D:c≤capp∧capp≤9223372036854775807:=by
  obtain ⟨_,v⟩:=hp
  rcases v with ⟨h,_⟩ | ⟨k,cp,cur,h,_,_,h3,h4,_⟩
  ·simp at h
  ·simp only [Za3] at h; unfold maxLen at h4; omega
 clear hr hp he hb hrl hpl hnl;generalize hkp:p.getD q 0=kp at *;generalize htk:r.getD q 0=tk at *;clear hkp htk
 have A:(0:Int)≤(q:Int):=by omega
 have E:(q:Int) < (c:Int):=by omega
 go_enter Tryz.func133,Tryz.ntmps133;go_wp2
 go_quiet (fail)
 go_wp2
 go_loopw [21] (fun i wr=>∃k:Nat,k≤c∧i=.int .i64 k∧wr.ownsRow B 3 1 (.slice (some ⟨g,0,none⟩) c cap) c (ZAB (nr.take k ++ r.drop k))∧Touch g w wr) (fun i _=>c-(intOf i).toNat)
 case atStart=>
  refine ⟨0,Za5 _,rfl,?_,(Touch.refl _ _).drewN _⟩;rw [List.take_zero,List.drop_zero,List.nil_append]; exact O.out
 case round=>
  obtain ⟨k,Y,rfl,a,s⟩:=hrel;have G:=hid a;have J:=hid s;obtain ⟨o,l,n⟩:=t.out
  by_cases hlt:k < c
  ·have L:(nr.take k ++ r.drop k).getD k 0=r.getD k 0:=by
    simp only [Za2]; rw [Za8 (by simp; omega)]; simp [show k-min k nr.length=0 by omega]
   have P:wr.cell? ⟨g,k,none⟩=some (.int .i64 (r.getD k 0)):=by
    rw [a.cellAt k (by omega),ZAZ _ _ (by simp; omega),L]
   have V:wr.cell? ⟨gp,k,none⟩=some (.int .i64 (p.getD k 0)):=by
    rw [s.cell hgp,R.out.cellAt k (by omega),ZAZ _ _ (by omega)]
   have Q:=a.frozenAt k;have m:=X.out k hlt;have S:=y.out k hlt;have x:=hid m
   have z:Hid (ZAB (nr.take (k+1) ++ r.drop (k+1))=(ZAB (nr.take k ++ r.drop k)).set k (.int .i64 (nr.getD k 0))):=by
    show _=_
    apply List.ext_getElem?
    intro i;rw [List.getElem?_set,ZA2];simp only [ZAB,List.getElem?_map]
    by_cases hik:i < k
    ·rw [Za7 (by simp; omega),Za7 (by simp; omega),if_neg (by omega)]
     simp [hik,show i < k+1 by omega]
    ·by_cases hik2:i=k
     ·subst hik2
      rw [Za7 (by simp; omega),if_pos rfl,if_pos (by simp; omega)]
      simp [show i < nr.length by omega]
     ·rw [Za8 (by simp; omega),Za8 (by simp; omega),if_neg (by omega)]
      simp only [List.length_take,List.getElem?_drop]
      rw [show k+1+(i-min (k+1) nr.length)=i by omega,show k+(i-min k nr.length)=i by omega]
   generalize r.getD k 0=rk at *;generalize p.getD k 0=pk at *;generalize nr.getD k 0=nk at *;clear a s L m o l n f b
   have F:(0:Int)≤(k:Int):=by omega
   have M:(k:Int) < (c:Int):=by omega
   have T:(d == 0)=false:=beq_eq_false_iff_ne.2 hd;go_wp2
   go_region
   rw [ZM0 hd x.out ⟨by omega,by omega⟩ ⟨by omega,by omega⟩]
   go_wp2
   go_roundw
   case rel=>
    refine ⟨k+1,by omega,by go_num,?_,(J.out.setCell k _).drew⟩
    rw [z.out];exact (G.out.stored k _).1.drew
   case measure=>simp [intOf]; omega
  ·clear a s f b
   have N:Hid (nr.take k ++ r.drop k=nr):=by
    show _=_
    rw [Zaa2 (by omega),List.drop_eq_nil_of_le (by omega),List.append_nil]
   clear o l n;go_wp2
   go_end0
   exact ⟨rfl,by rw [←N.out]; exact G.out,J.out⟩
end Go.Proofs.YtkjkfceblmgogaaGreat
namespace Go.Proofs.YtkjkfceblmgogaaGreat
open Go.RowKit
theorem ZM1(B q:Nat)(r:List Int)(v:Value)(a:Addr)(w:World)(hv:Sl B 3 w v (ZAB r))(hq:q < r.length)(hc:w.cell? a=some (.int .i64 q)) :
  Calls Tryz.prog 132 #[v,.pointer (some a)] w fun e w'=>e=.returned (.bool (r.getD q 0 != 0))∧w'=w:=by
 obtain ⟨n,f,c,j,g⟩:=ZAI hv;subst c;obtain ⟨b,o,m,d,l,i⟩:=ZAK hv hq;simp only [Za3] at d;obtain ⟨rfl,_,rfl⟩:=d;clear hv;generalize r.getD q 0=x at *;go_enter Tryz.func132,Tryz.ntmps132;go_wp2;go_ret;exact ⟨rfl,rfl⟩
def ZD9(m:List (List Int))(q:Nat):Int:=if m.any (fun r=>r.getD q 0 != 0) then (m.findIdx (fun r=>r.getD q 0 != 0):Int) else -1
theorem ZEA{p:List Int→Bool}{l:List (List Int)}{k:Nat}(h:k < l.length)(h0:(l.take k).any p=false):(l.take (k+1)).any p=p (l.getD k []):=by
 rw [Zaa1 h,List.any_append,h0]; simp [h]
theorem ZGa{l:List (List Int)}{q k:Nat}(h:k < l.length)(h0:(l.take k).any (fun r=>r.getD q 0 != 0)=false)(h1:((l.getD k []).getD q 0 != 0)=true):ZD9 l q=k:=by
 have a:l.getD k []=l[k]:=by simp [h]
 have b:l.any (fun r=>r.getD q 0 != 0)=true:=List.any_eq_true.2 ⟨l[k],List.getElem_mem h,by rw [←a]; exact h1⟩
 have c:l.findIdx (fun r=>r.getD q 0 != 0)=k:=by
  rw [List.findIdx_eq h]
  refine ⟨by rw [←a]; exact h1,fun j hj=>?_⟩
  have:=List.any_eq_false.1 h0 l[j] (by rw [List.mem_take_iff_getElem]; exact ⟨j,by omega,rfl⟩)
  simpa using this
 unfold ZD9; rw [b,c]; rfl
theorem ZFG{l:List (List Int)}{q:Nat}(h0:l.any (fun r=>r.getD q 0 != 0)=false):ZD9 l q=-1:=by
 unfold ZD9; rw [h0]; rfl
theorem ZCJ(B q:Nat)(m:List (List Int))(v:Value)(a:Addr)(w:World)(hv:Mat B 27 3 w v m)(hr:∀r∈m,q < r.length)(hc:w.cell? a=some (.int .i64 q)) :
  Calls Tryz.prog 93 #[v,.func (.func 132) #[] #[.pointer (some a)]] w fun e w'=>e=.returned (.int .i64 (ZD9 m q))∧w'=w:=by
 obtain ⟨N,s,l,M,D⟩:=ZAD hv;subst l;have A:Hid (Mat B 27 3 w (.slice N m.length s) m):=hv;have G:=hid hr;have O:=hid hc;clear hv hr hc;go_enter Tryz.func93,Tryz.ntmps93;go_wp2
 go_loop [8] (fun i=>∃k:Nat,k≤m.length∧i=.int .i64 k∧(m.take k).any (fun r=>r.getD q 0 != 0)=false) (fun i=>m.length-(intOf i).toNat)
 case atStart=>exact ⟨0,Za5 _,rfl,by simp⟩
 case round=>
  obtain ⟨k,P,rfl,d⟩:=hrel;have g:=hid d;clear d
  by_cases hlt:k < m.length
  ·obtain ⟨b,o,Q,F,y,J,L,f⟩:=ZAP A.out hlt
   simp only [Za3] at y;obtain ⟨rfl,_,rfl⟩:=y
   have n:Hid ((m.take (k+1)).any (fun r=>r.getD q 0 != 0)=((m.getD k []).getD q 0 != 0)):=ZEA (p:=fun r=>r.getD q 0 != 0) hlt g.out
   have E:Hid (((m.getD k []).getD q 0 != 0)=true→ZD9 m q=k):=fun h=>ZGa hlt g.out h
   have z:Hid (q < (m.getD k []).length):=G.out _ (by simp [hlt])
   have t:=hid f;clear f;generalize m.getD k []=r at *
   go_wp2_with fail
   refine (ZM1 B q r F a w t.out z.out O.out).mono ?_;rintro e w' ⟨rfl,rfl⟩;generalize r.getD q 0=x at *
   by_cases hx:x=0
   ·have c:(x != 0)=false:=by simp [hx]
    clear hx;go_wp2
    go_round
    case rel=>exact ⟨k+1,by omega,by go_num,by rw [n.out,c]⟩
    case measure=>simp [intOf]; omega
   ·have c:(x != 0)=true:=by simp [hx]
    clear hx;go_wp2;go_ret;exact ⟨ZBA (E.out c).symm,rfl⟩
  ·have j:Hid (m.take k=m):=Zaa2 (by omega)
   go_wp2;go_ret
   exact ⟨ZBA (ZFG (by rw [←g.out,j.out])).symm,rfl⟩
structure RS(B R n c:Nat)(mat:Nat→Nat→Int)(piv:List Int)(val sgn:Int)(go capo:Nat)(pv:Value)(bs caps:Nat→Nat)(w:World):Prop where
 st:w.heap[R]?=some (.cells #[.slice (some ⟨go,0,none⟩) n capo,pv,.int .i64 val,.int .i64 sgn] 109 (0,0))
 out:w.ownsRow B 27 1 (.slice (some ⟨go,0,none⟩) n capo) n ((List.range n).map fun i=>.slice (some ⟨bs i,0,none⟩) c (caps i))
 row:∀i,i < n→w.ownsRow B 3 1 (.slice (some ⟨bs i,0,none⟩) c (caps i)) c (ZAB ((List.range c).map (mat i)))
 inj:∀i j,i < n→j < n→i≠j→bs i≠bs j
 piv:w.ownsRow B 3 1 pv piv.length (ZAB piv)
 off:∀g,pv.ownBlock=some g→∀i,i < n→bs i≠g
def ZAl(n c:Nat)(mat:Nat→Nat→Int):List (List Int):=(List.range n).map fun i=>(List.range c).map (mat i)
end Go.Proofs.YtkjkfceblmgogaaGreat
namespace Go.Proofs.YtkjkfceblmgogaaGreat
open Go.RowKit
attribute [local go_sem ↓] Go.wp_at_zero Go.wp_at_succ
theorem RS.below{B N R n c:Nat}{mat:Nat→Nat→Int}{piv:List Int}{val sgn:Int}{go capo:Nat}{pv:Value}{bs caps:Nat→Nat}{w w':World}(h:RS B R n c mat piv val sgn go capo pv bs caps w)(hb:Below N w w')(hN:w.heap.size≤N) :
  RS B R n c mat piv val sgn go capo pv bs caps w':=
 ⟨(hb.block R (Nat.lt_of_lt_of_le (lt_of_block h.st) hN)).trans h.st,ZAQ h.out hb hN,fun i hi=>ZAQ (h.row i hi) hb hN,h.inj,ZAQ h.piv hb hN,h.off⟩
theorem RS.tail{B R n c:Nat}{mat:Nat→Nat→Int}{piv:List Int}{val sgn:Int}{go capo:Nat}{pv:Value}{bs caps:Nat→Nat}{w:World}(h:RS B R n c mat piv val sgn go capo pv bs caps w)(k:Nat)(hk:k < n) :
  Mat B 27 3 w (.slice (some ⟨go,k,none⟩) (n-k) (capo-k)) ((ZAl n c mat).drop k):=by
 have f:((ZAl n c mat).drop k).length=n-k:=by simp [ZAl]
 obtain ⟨l,a⟩:=h.out
 rcases a with ⟨a,_⟩ | ⟨g,cap,cur,a,hg,hh,hn,hc,hs,ht⟩
 ·simp at a
 ·simp only [Za3,Zaa9,Addr.mk.injEq,and_true,true_and] at a
  obtain ⟨rfl,rfl⟩:=a
  refine ⟨((List.range n).map fun i=>Value.slice (some ⟨bs i,0,none⟩) c (caps i)).drop k,by simp [ZAl],⟨some ⟨go,k,none⟩,capo-k,?_,?_,?_,fun i hi=>⟨go,k,rfl,?_,Or.inr ⟨cur,hh⟩⟩,fun h=>by cases h⟩,fun i hi=>?_⟩
  ·simp
  ·simp; omega
  ·omega
  ·have j:k+i < n:=by simp at hi; omega
   have:=h.out.cellAt (k+i) (by omega)
   rw [this,List.getElem?_drop]
  ·rw [f] at hi
   have b:(((List.range n).map fun i=>Value.slice (some ⟨bs i,0,none⟩) c (caps i)).drop k).getD i (.slice none 0 0)=.slice (some ⟨bs (k+i),0,none⟩) c (caps (k+i)):=by
    simp [show k+i < n by omega]
   have d:((ZAl n c mat).drop k).getD i []=(List.range c).map (mat (k+i)):=by
    simp [ZAl,show k+i < n by omega]
   rw [b,d]
   exact Sl.own (h.row (k+i) (by omega))
theorem ZKR(B:Nat)(w:World)(a:Addr)(cap:Nat)(h:cap≤maxLen):Mat B 27 3 w (.slice (some a) 0 cap) []:=
 ⟨[],rfl,⟨some a,cap,rfl,by simp,h,fun i hi=>absurd hi (by simp),fun h=>by cases h⟩,fun i hi=>absurd hi (by simp)⟩
theorem ZE7{n c q k:Nat}{mat:Nat→Nat→Int}(hq:q < c)(hz:∀i,k≤i→i < n→mat i q=0):ZD9 ((ZAl n c mat).drop k) q=-1:=by
 apply ZFG
 rw [List.any_eq_false];intro r b;obtain ⟨i,d,rfl⟩:=List.mem_iff_getElem.1 b
 have a:k+i < n:=by simp [ZAl] at d; omega
 have:=hz (k+i) (by omega) a
 simp [ZAl,hq,this]
theorem ZIh{n c q k:Nat}{mat:Nat→Nat→Int}(hq:q < c):∀r∈(ZAl n c mat).drop k,q < r.length:=by
 intro r a;have:=List.mem_of_mem_drop a;simp only [ZAl,List.mem_map] at this;obtain ⟨i,_,rfl⟩:=this
 simpa using hq
theorem ZJS(B R n c q:Nat)(mat:Nat→Nat→Int)(piv:List Int)(val sgn:Int)(go capo:Nat)(pv:Value)(bs caps:Nat→Nat)(w:World)(h:RS B R n c mat piv val sgn go capo pv bs caps w)(hB:B≤w.heap.size)
 (hn:n≤500)(hk:piv.length≤n)(hq:q < c)(hz:∀i,piv.length≤i→i < n→mat i q=0) :
  Calls Tryz.prog 110 #[.pointer (some ⟨R,0,none⟩),.int .i64 q] w fun e w'=>e=.returned (.tuple #[])∧RS B R n c mat piv val sgn go capo pv bs caps w'∧Below B w w':=by
 obtain ⟨m,o,g⟩:=ZAE h.piv;subst g;have f:=hid h;have t:=hid hz
 have p:n≤capo∧capo≤9223372036854775807:=by
  obtain ⟨_,y⟩:=h.out
  rcases y with ⟨h,_⟩ | ⟨k,cp,cur,h,_,_,h3,h4,_⟩
  ·simp at h
  ·simp only [Za3] at h; unfold maxLen at h4; omega
 have b:=h.st;have j:=lt_of_block b
 have A:w.cell? ⟨R,0,none⟩=some (.slice (some ⟨go,0,none⟩) n capo):=by simp [World.cell?,b]
 have z:w.cell? ⟨R,1,none⟩=some (.slice m piv.length o):=by simp [World.cell?,b]
 clear h hz b;generalize hkl:piv.length=k at *;clear hkl;have a:Hid (Below w.heap.size w (w.alloc (.cells #[.int .i64 q] 3))):=(Below.refl _ _).alloc (Za4 _) _;have s:Hid (ZD9 ((ZAl n c mat).drop k) q=-1):=ZE7 hq t.out
 by_cases hkn:k < n
 ·have l:k < capo:=by omega
  go_enter Tryz.func110,Tryz.ntmps110
  go_wp2_with fail
  refine (ZCJ B q _ _ ⟨w.heap.size,0,none⟩ _ ((f.out.tail k hkn).below a.out (Za4 _)) (ZIh hq) (by simp)).mono ?_
  rintro e w' ⟨rfl,rfl⟩;rw [s.out];go_wp2
  exact bodyPost_ret (v:=.tuple #[]) (by simp [results,Tryz.results110,go_sem]) rfl ⟨rfl,f.out.below a.out (Za4 _),(a.out).mono hB⟩
 ·have d:k=n:=by omega
  have x:Hid (ZD9 [] q=-1):=rfl;subst d;go_enter Tryz.func110,Tryz.ntmps110
  go_wp2_with fail
  all_goals
   refine (ZCJ B q [] _ ⟨w.heap.size,0,none⟩ _ (ZKR _ _ _ _ (by unfold maxLen; omega)) (fun r hr=>absurd hr (by simp)) (by simp)).mono ?_
   rintro e w' ⟨rfl,rfl⟩;rw [x.out];go_wp2
   exact bodyPost_ret (v:=.tuple #[]) (by simp [results,Tryz.results110,go_sem]) rfl ⟨rfl,f.out.below a.out (Za4 _),(a.out).mono hB⟩
def sw(k i0 i:Nat):Nat:=if i=k then i0 else if i=i0 then k else i
theorem ZFk{k i0 i n:Nat}(hk:k < n)(hi0:i0 < n)(hi:i < n):sw k i0 i < n:=by
 unfold sw; split
 ·exact hi0
 ·split
  ·exact hk
  ·exact hi
theorem ZQV{k i0 i j:Nat}(h:i≠j):sw k i0 i≠sw k i0 j:=by
 unfold sw; grind
theorem ZFl(k i:Nat):sw k k i=i:=by unfold sw; by_cases h:i=k <;> simp [h]
theorem ZKS{n c q k f:Nat}{mat:Nat→Nat→Int}(hq:q < c)(hf:k+f < n)(hz:∀i,k≤i→i < k+f→mat i q=0)(hne:mat (k+f) q≠0):ZD9 ((ZAl n c mat).drop k) q=f:=by
 have b:∀i,i < n-k→((ZAl n c mat).drop k).getD i []=(List.range c).map (mat (k+i)):=by
  intro i d; simp [ZAl,show k+i < n by omega]
 refine ZGa (by simp [ZAl]; omega) ?_ ?_
 ·rw [List.any_eq_false]
  intro r a;rw [List.mem_take_iff_getElem] at a;obtain ⟨i,d,rfl⟩:=a
  have g:i < f:=by omega
  have:=hz (k+i) (by omega) (by omega)
  simp [ZAl,hq,this]
 ·rw [b f (by omega)]; simp [hq,hne]
theorem RS.swap{B R n c k i0:Nat}{mat:Nat→Nat→Int}{piv:List Int}{val sgn:Int}{go capo:Nat}{pv:Value}{bs caps:Nat→Nat}{w:World}(h:RS B R n c mat piv val sgn go capo pv bs caps w)(hk:k < n)(hi0:i0 < n)(hne:k≠i0)(sgn':Int) :
  RS B R n c (fun i j=>mat (sw k i0 i) j) piv val sgn' go capo pv (fun i=>bs (sw k i0 i)) (fun i=>caps (sw k i0 i))
   (((w.setCell ⟨go,k,none⟩ (.slice (some ⟨bs i0,0,none⟩) c (caps i0))).setCell ⟨go,i0,none⟩ (.slice (some ⟨bs k,0,none⟩) c (caps k))).setCell ⟨R,3,none⟩ (.int .i64 sgn')):=by
 have l:go≠R:=by
  intro e;obtain ⟨_,d⟩:=h.out
  rcases d with ⟨d,_⟩ | ⟨g,cap,f,d,_,hh,_⟩
  ·simp at d
  ·simp only [Za3,Zaa9,Addr.mk.injEq,and_true,true_and] at d
   have o:=h.st;rw [←d.1,e,o] at hh;simp at hh
 have r:∀b,(∃f,w.heap[b]?=some (.cells f 3 (0,0)))→b≠go∧b≠R:=by
  rintro b ⟨f,z⟩
  constructor
  ·rintro rfl
   obtain ⟨_,d⟩:=h.out
   rcases d with ⟨d,_⟩ | ⟨g,cap,cur2,d,_,hh,_⟩
   ·simp at d
   ·simp only [Za3,Zaa9,Addr.mk.injEq,and_true,true_and] at d
    rw [←d.1,z] at hh;simp at hh
  ·rintro rfl
   have o:=h.st;rw [z] at o;simp at o
 have p:∀v m t,w.ownsRow B 3 1 v m t→(((w.setCell ⟨go,k,none⟩ (.slice (some ⟨bs i0,0,none⟩) c (caps i0))).setCell ⟨go,i0,none⟩ (.slice (some ⟨bs k,0,none⟩) c (caps k))).setCell ⟨R,3,none⟩ (.int .i64 sgn')).ownsRow B 3 1 v m t:=by
  intro v m t hv;obtain ⟨E,d⟩:=hv;refine ⟨E,?_⟩
  rcases d with d | ⟨g,cap,f,rfl,r1,r2,r3⟩
  ·exact Or.inl d
  ·obtain ⟨A,F⟩:=r g ⟨f,r2⟩
   refine Or.inr ⟨g,cap,f,rfl,r1,?_,r3⟩;rw [Below.heap_setCell _ _ _ _ F,Below.heap_setCell _ _ _ _ A,Below.heap_setCell _ _ _ _ A]; exact r2
 refine ⟨?_,?_,fun i hi=>p _ _ _ (h.row _ (ZFk hk hi0 hi)),fun i j hi hj hij=>h.inj _ _ (ZFk hk hi0 hi) (ZFk hk hi0 hj) (ZQV hij),p _ _ _ h.piv,fun g hg i hi=>h.off g hg _ (ZFk hk hi0 hi)⟩
 ·have e:((w.setCell ⟨go,k,none⟩ (.slice (some ⟨bs i0,0,none⟩) c (caps i0))).setCell ⟨go,i0,none⟩ (.slice (some ⟨bs k,0,none⟩) c (caps k))).heap[R]?=w.heap[R]?:=by
   rw [Below.heap_setCell _ _ _ _ (Ne.symm l),Below.heap_setCell _ _ _ _ (Ne.symm l)]
  rw [h.st] at e;simp [World.setCell,Array.getElem?_modify] at e ⊢;rw [e]; simp
 ·have D:=((h.out.stored k (.slice (some ⟨bs i0,0,none⟩) c (caps i0))).1.stored i0 (.slice (some ⟨bs k,0,none⟩) c (caps k))).1
  have y:=ownsRow_setCell_other D (a:=⟨R,3,none⟩) (by simp [Value.ownBlock]; exact l) (.int .i64 sgn')
  have e:(((List.range n).map fun i=>Value.slice (some ⟨bs i,0,none⟩) c (caps i)).set k (.slice (some ⟨bs i0,0,none⟩) c (caps i0))).set i0 (.slice (some ⟨bs k,0,none⟩) c (caps k))=(List.range n).map fun i=>Value.slice (some ⟨bs (sw k i0 i),0,none⟩) c (caps (sw k i0 i)):=by
   apply List.ext_getElem?
   intro i;rw [List.getElem?_set,List.getElem?_set]
   by_cases e1:i0=i
   ·subst e1; simp [sw,hi0,Ne.symm hne]
   ·by_cases e2:k=i
    ·subst e2; simp [sw,hk,e1]
    ·have s:i≠i0:=fun h=>e1 h.symm
     have x:i≠k:=fun h=>e2 h.symm
     rw [if_neg e1,if_neg e2]
     by_cases hin:i < n
     ·simp [hin,sw,s,x]
     ·rw [Zaa6 (by simp; omega),Zaa6 (by simp; omega)]
  rw [e] at y;exact y
end Go.Proofs.YtkjkfceblmgogaaGreat
