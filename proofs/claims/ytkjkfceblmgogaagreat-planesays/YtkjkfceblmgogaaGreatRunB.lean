import Derived.Test.YtkjkfceblmgogaaGreatLinB
set_option maxRecDepth 100000
set_option maxHeartbeats 400000
namespace Go.Proofs.YtkjkfceblmgogaaGreat
open Go.RowKit Lin
attribute [local go_sem ↓] Go.wp_at_zero Go.wp_at_succ
theorem ZRp{c:Nat}{m:List (List Int)}(hx:Mx c 60 m):Bd (mOf m) m.length c:=ZRS hx (by decide) ZRV
theorem ZQc(a b c d:Value)(w:World):(Instr.field 109 (.agg #[a,b,c,d]) 1).run Tryz.prog w=.ok b w:=by kernel_rfl
end Go.Proofs.YtkjkfceblmgogaaGreat
namespace Go.Proofs.YtkjkfceblmgogaaGreat
open Go.RowKit
attribute [local go_sem ↓] Go.wp_at_zero Go.wp_at_succ
theorem ZFq(zs:List Int)(x:Int):zs.any (fun z=>z == x)=zs.contains x:=by
 rw [Bool.eq_iff_iff]; simp
theorem ZKd{α:Type}{p:α→Bool}{l:List α}{d:α}{k:Nat}(h:k < l.length)(h0:(l.take k).any p=false):(l.take (k+1)).any p=p (l.getD k d):=by
 rw [Zaa1 h,List.any_append,h0]; simp [h]
theorem ZM8{α:Type}{p:α→Bool}{l:List α}{d:α}{k:Nat}(h:k < l.length)(h0:p (l.getD k d)=true):l.any p=true:=
 List.any_eq_true.2 ⟨l.getD k d,by simp [h],h0⟩
theorem ZJb(B:Nat)(x:Int)(zs:List Int)(v:Value)(w:World)(hv:Sl B 3 w v (ZAB zs)) :
  Calls Tryz.prog 108 #[v,.int .i64 x] w fun e w'=>∃k:Int,e=.returned (.int .i64 k)∧decide (0≤k)=zs.contains x∧w'=w:=by
 obtain ⟨F,j,d,E,r⟩:=ZAI hv;subst d;have n:Hid (Sl B 3 w (.slice F zs.length j) (ZAB zs)):=hv;clear hv;rw [←ZFq];go_enter Tryz.func108,Tryz.ntmps108;go_wp2
 go_loopw [8,5] (fun i _ wr=>∃k:Nat,k≤zs.length∧i=.int .i64 k∧(zs.take k).any (fun z=>z == x)=false∧wr=w) (fun i _ _=>zs.length-(intOf i).toNat)
 case atStart=>exact ⟨0,Za5 _,rfl,by simp,rfl⟩
 case round=>
  obtain ⟨k,G,rfl,a,rfl⟩:=hrel;have l:=hid a;clear a
  by_cases hlt:k < zs.length
  ·obtain ⟨b,o,J,m,t,y⟩:=ZAK n.out hlt
   simp only [Za3] at m;obtain ⟨rfl,_,rfl⟩:=m
   have f:Hid ((zs.take (k+1)).any (fun z=>z == x)=(zs.getD k 0 == x)):=ZKd (p:=fun z=>z == x) hlt l.out
   have s:Hid ((zs.getD k 0 == x)=true→zs.any (fun z=>z == x)=true):=fun h=>ZM8 (p:=fun z=>z == x) hlt h
   generalize zs.getD k 0=z at *
   cases hf:(x == z)
   ·have g:Hid ((z == x)=false):=by rw [beq_eq_false_iff_ne] at hf ⊢; exact fun e=>hf e.symm
    go_wp2
    go_roundw
    case rel=>exact ⟨k+1,by omega,by go_num,by rw [f.out]; exact g.out,trivial⟩
    case measure=>simp [intOf]; omega
   ·have g:Hid ((z == x)=true):=by rw [beq_iff_eq] at hf ⊢; exact hf.symm
    have A:Hid (decide ((0:Int)≤(k:Int))=true):=decide_eq_true (by omega)
    go_wp2;go_ret
    exact ⟨k,rfl,by rw [A.out,s.out g.out],rfl⟩
  ·have c:zs.take k=zs:=Zaa2 (by omega)
   have D:Hid (zs.any (fun z=>z == x)=false):=by rw [←c]; exact l.out
   go_wp2;go_ret
   exact ⟨-1,rfl,by rw [D.out]; rfl,rfl⟩
theorem ZC7(B:Nat)(x:Int)(zs:List Int)(v:Value)(w:World)(hv:Sl B 3 w v (ZAB zs)) :
  Calls Tryz.prog 84 #[v,.int .i64 x] w fun e w'=>e=.returned (.bool (zs.contains x))∧w'=w:=by
 obtain ⟨l,b,a,j,i⟩:=ZAI hv;subst a
 have f:Hid (Calls Tryz.prog 108 #[.slice l zs.length b,.int .i64 x] w fun e w'=>∃k:Int,e=.returned (.int .i64 k)∧decide (0≤k)=zs.contains x∧w'=w):=ZJb B x zs _ w hv
 clear hv;generalize zs.contains x=c at *;go_enter Tryz.func84,Tryz.ntmps84
 go_wp2_with fail
 refine f.out.mono ?_;rintro e w' ⟨k,rfl,d,rfl⟩;have g:=hid d;clear d;go_wp2;go_ret;exact ⟨ZAX g.out,rfl⟩
end Go.Proofs.YtkjkfceblmgogaaGreat
namespace Go.Proofs.YtkjkfceblmgogaaGreat
open Go.RowKit Lin
attribute [local go_sem ↓] Go.wp_at_zero Go.wp_at_succ
def nv(val:Int)(f:Nat)(D:Nat→Int)(C:Nat→Nat):Nat→Nat→Int
 | 0=>fun j=>if j=f then val else 0
 | t+1=>fun j=>if j=C t then-D t else nv val f D C t j
theorem ZOW{val:Int}{f:Nat}{D:Nat→Int}{C:Nat→Nat}{j:Nat} : ∀{t},(∀a,a < t→C a≠j)→nv val f D C t j=if j=f then val else 0
 | 0,_=>rfl
 | t+1,h=>by
  unfold nv
  rw [if_neg (fun e=>h t (by omega) e.symm)]
  exact ZOW fun a ha=>h a (by omega)
theorem ZQd{val:Int}{f:Nat}{D:Nat→Int}{C:Nat→Nat} : ∀{t a},a < t→(∀a b,a < b→b < t→C a < C b)→nv val f D C t (C a)=- D a
 | t+1,a,ha,h=>by
  unfold nv
  by_cases e:a=t
  ·subst e; rw [if_pos rfl]
  ·have:=h a t (by omega) (by omega)
   rw [if_neg (by omega)]
   exact ZQd (by omega) fun a b h1 h2=>h a b h1 (by omega)
theorem ZQe{val:Int}{f:Nat}{D:Nat→Int}{C:Nat→Nat}{b:Nat} : ∀{t j},val.natAbs≤b→(∀a,a < t→(D a).natAbs≤b)→(nv val f D C t j).natAbs≤b
 | 0,j,h,_=>by unfold nv; split; exact h; simp
 | t+1,j,h,hd=>by
  unfold nv
  split
  ·have:=hd t (by omega); omega
  ·exact ZQe h fun a ha=>hd a (by omega)
theorem ZRW{M':Nat→Nat→Int}{c k f:Nat}{C:Nat→Nat}(hr:Rising k c C)(hk:k+1=c)(hf:f≤k)(h1:∀b,b < f→C b=b)(h2:f < k→C f≠f):Nu M' c k C f (nv (dk M' C k) f (fun a=>rr M' C k a f) C k):=by
 have n:∀i,i < k→i≤C i:=by
  intro i
  induction i with
  | zero=>intro _; omega
  | succ i ih=>
   intro t
   have:=ih (by omega)
   have:=hr.1 i (i+1) (by omega) t
   omega
 have o:∀d,f+d < k→f+d+1≤C (f+d):=by
  intro d
  induction d with
  | zero=>intro h; have:=n f (by omega); have:=h2 (by omega); simp at *; omega
  | succ d ih=>
   intro h
   have:=ih (by omega)
   have:=hr.1 (f+d) (f+(d+1)) (by omega) h
   omega
 have m:∀d,d < k→C (k-1-d)+d+1≤k+0+1:=by
  intro d
  induction d with
  | zero=>intro h; have:=hr.2 (k-1) (by omega); simp; omega
  | succ d ih=>
   intro h
   have:=ih (by omega)
   have:=hr.1 (k-1-(d+1)) (k-1-d) (by omega) (by omega)
   omega
 have l:∀i,f≤i→i < k→C i=i+1:=by
  intro i a b
  have r:=o (i-f) (by omega)
  have s:=m (k-1-i) (by omega)
  rw [show f+(i-f)=i by omega] at r
  rw [show k-1-(k-1-i)=i by omega] at s
  omega
 have g:∀a,a < k→C a≠f:=by
  intro a p
  by_cases h:a < f
  ·rw [h1 a h]; omega
  ·rw [l a (by omega) p]; omega
 refine ⟨by omega,g,fun j hj=>?_,?_,fun a p=>ZQd p hr.1⟩
 ·by_cases e:j=f
  ·exact Or.inl e
  ·refine Or.inr ?_
   by_cases h:j < f
   ·exact ⟨j,by omega,h1 j h⟩
   ·exact ⟨j-1,by omega,by rw [l (j-1) (by omega) (by omega)]; omega⟩
 ·rw [ZOW g,if_pos rfl]
theorem ZPE{n c:Nat}{mat:Nat→Nat→Int}{i:Nat}(h:i < n):(ZAl n c mat).getD i []=(List.range c).map (mat i):=by simp [ZAl,h]
def ZAf(k:Nat)(C:Nat→Nat)(q:Nat):List Nat:=(List.range q).filter fun f=>!(((List.range k).map fun b=>(C b:Int)).contains (f:Int))
def ZFr(M':Nat→Nat→Int)(C:Nat→Nat)(c k f:Nat):List Int:=low ((List.range c).map (nv (dk M' C k) f (fun a=>rr M' C k a f) C k))
theorem ZGl{k:Nat}{C:Nat→Nat}{q:Nat}(h:((List.range k).map fun b=>(C b:Int)).contains (q:Int)=true):ZAf k C (q+1)=ZAf k C q:=by
 unfold ZAf;rw [List.range_succ,List.filter_append];simp only [List.filter_cons,List.filter_nil,h];simp
theorem ZFM{k:Nat}{C:Nat→Nat}{q:Nat}(h:((List.range k).map fun b=>(C b:Int)).contains (q:Int)=false):ZAf k C (q+1)=ZAf k C q ++ [q]:=by
 unfold ZAf;rw [List.range_succ,List.filter_append];simp only [List.filter_cons,List.filter_nil,h];simp
theorem ZC8{k:Nat}{C:Nat→Nat}{q:Nat} : ((List.range k).map fun b=>(C b:Int)).contains (q:Int)=true↔∃b,b < k∧C b=q:=by
 rw [List.contains_iff_mem,List.mem_map]
 constructor
 ·rintro ⟨b,a,c⟩; exact ⟨b,by simpa using a,by omega⟩
 ·rintro ⟨b,a,c⟩; exact ⟨b,by simpa using a,by omega⟩
theorem ZDV{k c:Nat}{C:Nat→Nat}(hr:Rising k c C):(ZAf k C c).length+k=c:=by
 have j:∀q,q≤c→∃t,t≤k∧(∀b,b < t→C b < q)∧(∀b,t≤b→b < k→q≤C b)∧(ZAf k C q).length+t=q:=by
  intro q
  induction q with
  | zero=>intro _; exact ⟨0,Za5 _,fun b a=>absurd a (by omega),fun b _ _=>Za5 _,by simp [ZAf]⟩
  | succ q ih=>
   intro p
   obtain ⟨t,l,d,f,n⟩:=ih (by omega)
   cases hc:((List.range k).map fun b=>(C b:Int)).contains (q:Int) with
   | true=>
    obtain ⟨b,a,e⟩:=ZC8.1 hc
    have g:b=t:=by
     apply Za6
     intro i
     by_cases h:b < t
     ·have:=d b h; omega
     ·have m:=f t (Za4 _) (by omega)
      have o:=hr.1 t b (by omega) a
      omega
    subst g
    refine ⟨b+1,by omega,fun b' hb'=>?_,fun b' hb' hk'=>?_,by rw [ZGl hc]; omega⟩
    ·by_cases e2:b'=b
     ·subst e2; omega
     ·have:=d b' (by omega); omega
    ·have:=hr.1 b b' (by omega) hk'; omega
   | false=>
    refine ⟨t,l,fun b a=>?_,fun b a hk=>?_,by rw [ZFM hc]; simp; omega⟩
    ·have:=d b a; omega
    ·have m:=f b a hk
     have:C b≠q:=fun e=>by
      rw [ZC8.2 ⟨b,hk,e⟩] at hc; simp at hc
     omega
 obtain ⟨t,l,d,f,n⟩:=j c (Za4 _)
 have:t=k:=by
  apply Za6
  intro i
  have m:=f t (Za4 _) (by omega)
  have:=hr.2 t (by omega)
  omega
 omega
theorem ZKe(k:Nat)(C:Nat→Nat):∃f,f≤k∧(∀b,b < f→C b=b)∧(f < k→C f≠f):=by
 induction k with
 | zero=>exact ⟨0,Za4 _,fun b hb=>absurd hb (by omega),fun h=>absurd h (by omega)⟩
 | succ k ih=>
  obtain ⟨f,d,a,c⟩:=ih
  by_cases e:f=k
  ·subst e
   by_cases e2:C f=f
   ·refine ⟨f+1,Za4 _,fun b hb=>?_,fun h=>absurd h (by omega)⟩
    by_cases e3:b=f
    ·subst e3; exact e2
    ·exact a b (by omega)
   ·exact ⟨f,by omega,a,fun _=>e2⟩
  ·exact ⟨f,by omega,a,fun _=>c (by omega)⟩
theorem ZJc{m:List (List Int)}{c k:Nat}{M':Nat→Nat→Int}{C:Nat→Nat}{sgn:Int}(hr:Red (mOf m) m.length c M' C k sgn)(hk:k+1=c) :
  ∃l,(ZAf k C c).map (ZFr M' C c k)=[l]∧upr l=ZAO c m:=by
 obtain ⟨f,p,o,r⟩:=ZKe k C;have i:=ZRW (M':=M') hr.done.rise hk p o r;have t:=ZDV hr.done.rise
 have d:(ZAf k C c).length=1:=by omega
 obtain ⟨x,j⟩:=List.length_eq_one_iff.1 d
 have b:x∈ZAf k C c:=by rw [j]; simp
 have g:x=f:=by
  unfold ZAf at b;rw [List.mem_filter] at b;obtain ⟨s,n⟩:=b
  rcases i.all x (by simpa using s) with e | ⟨a,ha,e⟩
  ·exact e
  ·rw [ZC8.2 ⟨a,ha,e⟩] at n; simp at n
 subst g
 refine ⟨ZFr M' C c k x,by rw [j]; rfl,?_⟩
 exact ZM7 hr hk i
theorem ZEI{B B' n:Nat}{e:TypeId}{w:World}{v:Value}{xs:List Value}(h:w.ownsRow B e 1 v n xs)(hB:B'≤B):w.ownsRow B' e 1 v n xs:=by
 refine ⟨h.1,?_⟩
 rcases h.2 with q | ⟨b,cap,cur,rfl,r1,r2,r3⟩
 ·exact Or.inl q
 ·exact Or.inr ⟨b,cap,cur,rfl,by omega,r2,r3⟩
end Go.Proofs.YtkjkfceblmgogaaGreat
