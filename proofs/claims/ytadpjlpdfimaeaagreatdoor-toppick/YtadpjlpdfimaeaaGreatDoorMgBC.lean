import Derived.Test.YtadpjlpdfimaeaaGreatDoorMgBB
import Derived.Test.YtadpjlpdfimaeaaGreatDoorMgAS
import Derived.Test.YtadpjlpdfimaeaaGreatDoorMgAA
import Derived.Lib.TrailingZeros
import Derived.Laws.Bits64b
namespace Go.Proofs.YtadpjlpdfimaeaaGreatDoor
open Go.RowKit Lin
theorem isum_zs (f:Int→Int) (a b:Int):isum (irange a b) f=Pick.zs a (b-a+1).toNat f:=by
 unfold isum irange
 generalize (b-a+1).toNat=n
 induction n with
 | zero=>rfl
 | succ n ih=>
  rw [List.range_succ,List.map_append,List.map_append,List.sum_append,ih]
  simp [Pick.zs]
theorem det2 (a b c e:Int):detL [[a,b],[c,e]]=a*e-b*c:=by
 have h:∀u v:Nat→Int,od 2 [u,v] (fun _=>false)=u 0*v 1-u 1*v 0:=fun u v=>by
  simp [od,sumN,sg,ins]
  grind
 unfold detL fm
 show od 2 [_,_] _=_
 rw [h]
 simp
theorem sub2 {x y:List Int} (hx:x.length=2):subL x y=[V x 0-V y 0,V x 1-V y 1]:=by
 match x,hx with
 | [a,b],_=>rfl
theorem lo_le (P:List (List Int)) (c:Nat):∀j,j≤P.length→∀i,i < j→loT P c j≤(P.getD i []).getD c 0∧(P.getD i []).getD c 0≤hiT P c j
 | 0,_,i,hi=>absurd hi (by omega)
 | j+1,hj,i,hi=>by
  rw [loT_succ P c j (by omega),hiT_succ P c j (by omega)]
  by_cases h:i=j
  ·subst h; omega
  ·have:=lo_le P c j (by omega) i (by omega)
   omega
theorem lo_at {P:List (List Int)} (c:Nat) (h1:1≤P.length):∀j,j≤P.length→(∃i,i < P.length∧loT P c j=(P.getD i []).getD c 0)∧∃i,i < P.length∧hiT P c j=(P.getD i []).getD c 0
 | 0,_=>⟨⟨0,by omega,rfl⟩,⟨0,by omega,rfl⟩⟩
 | j+1,hj=>by
  obtain ⟨⟨i,hi,e⟩,k,hk,f⟩:=lo_at c h1 j (by omega)
  rw [loT_succ P c j (by omega),hiT_succ P c j (by omega)]
  constructor
  ·by_cases q:loT P c j≤(P.getD j []).getD c 0
   ·exact ⟨i,hi,by omega⟩
   ·exact ⟨j,by omega,by omega⟩
  ·by_cases q:(P.getD j []).getD c 0≤hiT P c j
   ·exact ⟨k,hk,by omega⟩
   ·exact ⟨j,by omega,by omega⟩
section
variable {P s C:List (List Int)}
theorem inPB {y:List Int} (hy:y∈P) (c:Nat):loT P c P.length≤V y c∧V y c≤hiT P c P.length:=by
 obtain ⟨i,hi,rfl⟩:=List.mem_iff_getElem.1 hy
 have:=lo_le P c P.length (Nat.le_refl _) i hi
 simp only [List.getD_eq_getElem?_getD,List.getElem?_eq_getElem hi,Option.getD_some] at this
 simp only [V,List.getD_eq_getElem?_getD]
 exact this
theorem SrC.bx (h:SrC 2 P s C):Pick.Bx (C.map pt) (loT P 0 P.length) (hiT P 0 P.length-loT P 0 P.length).toNat (loT P 1 P.length) (hiT P 1 P.length-loT P 1 P.length+1).toNat∧1≤(hiT P 0 P.length-loT P 0 P.length).toNat:=by
 have hgC:=h.cgood
 have h2:=h.good.n2
 have hPn:∀c i,i < P.length→loT P c P.length≤(P.getD i []).getD c 0∧(P.getD i []).getD c 0≤hiT P c P.length:=fun c i hi=>lo_le P c P.length (Nat.le_refl _) i hi
 have hlh:∀c,loT P c P.length≤hiT P c P.length:=fun c=>by have:=hPn c 0 (by omega); omega
 have hmx:∀c:Nat→Int,∃x∈C,∀y∈P,dot 2 c (V y)≤dot 2 c (V x):=fun c=>by
  obtain ⟨x,hx,hm⟩:=corner_max h.good h.rows (fun _ hx=>corner_rank h.good (fun _=>Iff.rfl) h.rows hx) c
  exact ⟨x,(h.crns x).2 hx,hm⟩
 have hge:∀i,i < P.length→P.getD i []∈P:=fun i hi=>by simp [hi]
 obtain ⟨⟨i0,hi0,e0⟩,i1,hi1,e1⟩:=lo_at (P:=P) 0 (by omega) P.length (Nat.le_refl _)
 obtain ⟨x0,hx0,m0⟩:=hmx fun i=>if i=0 then -1 else 0
 obtain ⟨x1,hx1,m1⟩:=hmx fun i=>if i=0 then 1 else 0
 have f0:V x0 0=loT P 0 P.length:=by
  have a:=m0 _ (hge i0 hi0)
  rw [dot2,dot2] at a
  have b:=(inPB (h.sub hx0) 0).1
  have c:V (P.getD i0 []) 0=loT P 0 P.length:=e0.symm
  rw [c] at a
  simp only [if_true,Nat.one_ne_zero,if_false] at a
  omega
 have f1:V x1 0=hiT P 0 P.length:=by
  have a:=m1 _ (hge i1 hi1)
  rw [dot2,dot2] at a
  have b:=(inPB (h.sub hx1) 0).2
  have c:V (P.getD i1 []) 0=hiT P 0 P.length:=e1.symm
  rw [c] at a
  simp only [if_true,Nat.one_ne_zero,if_false] at a
  omega
 have hlh0:=hlh 0
 have hlh1:=hlh 1
 have hN:1≤(hiT P 0 P.length-loT P 0 P.length).toNat:=by
  refine Classical.byContradiction fun q=>?_
  have:=good_span hgC (fun i=>if i=0 then 1 else 0) (fun y hy z hz=>by
   have a:=inPB (h.sub hy) 0
   have b:=inPB (h.sub hz) 0
   rw [dot2,dot2]
   simp only [if_true,Nat.one_ne_zero,if_false]
   omega) 0 (by decide)
  simp at this
 refine ⟨⟨fun z hz=>?_,fun z hz=>?_,⟨pt x0,List.mem_map.2 ⟨x0,hx0,rfl⟩,f0⟩,⟨pt x1,List.mem_map.2 ⟨x1,hx1,rfl⟩,?_⟩⟩,hN⟩
 ·obtain ⟨y,hy,rfl⟩:=List.mem_map.1 hz
  have:=inPB (h.sub hy) 1
  simp only [pt]
  omega
 ·obtain ⟨y,hy,rfl⟩:=List.mem_map.1 hz
  have:=inPB (h.sub hy) 0
  simp only [pt]
  omega
 ·simp only [pt,f1]
  omega
theorem SrC.left (h:SrC 2 P s C):C.getD 0 []∈C∧V (C.getD 0 []) 0=loT P 0 P.length:=by
 have hgC:=h.cgood
 have h2:=hgC.n2
 obtain ⟨z,hz,e⟩:=h.bx.1.l
 obtain ⟨y,hy,rfl⟩:=List.mem_map.1 hz
 have hasc:=h.casc
 cases hC:C with
 | nil=>rw [hC] at h2; simp at h2
 | cons a C'=>
  rw [hC] at hy hasc
  have ha:a∈C:=by rw [hC]; simp
  refine ⟨by simp,?_⟩
  show V a 0=_
  have b:=(inPB (h.sub ha) 0).1
  rcases List.mem_cons.1 hy with rfl | hy'
  ·exact e
  ·have lt:=(List.pairwise_cons.1 hasc).1 y hy'
   have hyC:y∈C:=by rw [hC]; simp [hy']
   have:=(cmp2 (hgC.box a ha).1 (hgC.box y hyC).1).1 lt
   have e':V y 0=loT P 0 P.length:=e
   omega
theorem SrC.epC (h:SrC 2 P s C) {r:List Int} (hr:r∈s):ep C 0 r∈C∧ep C 1 r∈C∧cmpL (ep C 0 r) (ep C 1 r) < 0:=by
 obtain ⟨p,q,hE,hp,hq,hlt⟩:=h.two hr
 have e0:ep C 0 r=p:=by unfold ep; rw [hE]; rfl
 have e1:ep C 1 r=q:=by unfold ep; rw [hE]; rfl
 rw [e0,e1]
 exact ⟨hp.1,hq.1,hlt⟩
theorem SrC.triR (h:SrC 2 P s C) {r:List Int} (hr:r∈s):arR C r=Pick.tri (fun r=>V (ep C 0 r) 0) (fun r=>V (ep C 0 r) 1) (fun r=>V (ep C 1 r) 0) (fun r=>V (ep C 1 r) 1) (pt (C.getD 0 [])) r:=by
 have hgC:=h.cgood
 obtain ⟨h0,h1,_⟩:=h.epC hr
 have e:diffL [C.getD 0 [],(endL C r).getD 0 [],(endL C r).getD 1 []]=[subL (ep C 0 r) (C.getD 0 []),subL (ep C 1 r) (C.getD 0 [])]:=rfl
 unfold arR
 rw [e,sub2 (hgC.box _ h0).1,sub2 (hgC.box _ h1).1,det2]
 rfl
theorem SrC.pick (h:SrC 2 P s C):arS C s=plA 1 2 P s 2 []+plI 1 2 P s 2 []-2:=by
 obtain ⟨hB,hN⟩:=h.bx
 have h2:=h.good.n2
 have hth:=h.pol.thm hB hN (A:=pt (C.getD 0 [])) (List.mem_map.2 ⟨_,h.left.1,rfl⟩) h.left.2
 have e1:arS C s=Pick.ls s (Pick.tri (fun r=>V (ep C 0 r) 0) (fun r=>V (ep C 0 r) 1) (fun r=>V (ep C 1 r) 0) (fun r=>V (ep C 1 r) 1) (pt (C.getD 0 []))):=
  Pick.ls_congr (f:=arR C) fun r hr=>h.triR hr
 have hlh:loT P 0 P.length≤hiT P 0 P.length:=by have:=lo_le P 0 P.length (Nat.le_refl _) 0 (by omega); omega
 have hlen:∀r∈s,r.length=3:=fun r hr=>by
  have hgC:=h.cgood
  exact (rowsC_fit hgC.box hgC.d1 (by decide) (fun _=>Iff.rfl) ((h.rc r).1 hr)).len
 have hov:∀r∈s,∀v w:Int,ovr 1 2 r [v,w]=V r 0*v+V r 1*w-r.getD 2 0:=fun r hr v w=>by
  match r,hlen r hr with
  | [a,b,c],_=>
   simp [ovr,dotL,sumN,V]
 have hA:∀v w:Int,b01 (allB 1 2 s [v,w])=if Pick.okB s (fun r=>V r 0) (fun r=>V r 1) (fun r=>r.getD 2 0) v w=true then 1 else 0:=fun v w=>by
  have:allB 1 2 s [v,w]=Pick.okB s (fun r=>V r 0) (fun r=>V r 1) (fun r=>r.getD 2 0) v w:=by
   unfold allB Pick.okB
   rw [Bool.eq_iff_iff,List.all_eq_true,List.all_eq_true]
   refine forall_congr' fun r=>forall_congr' fun hr=>?_
   rw [decide_eq_true_eq,decide_eq_true_eq,hov r hr]
   show V r 0*v+V r 1*w-r.getD 2 0≤0↔V r 0*v+V r 1*w≤r.getD 2 0
   omega
  rw [this]; rfl
 have hI:∀v w:Int,b01 (innB 1 2 s [v,w])=if Pick.inB s (fun r=>V r 0) (fun r=>V r 1) (fun r=>r.getD 2 0) v w=true then 1 else 0:=fun v w=>by
  have:innB 1 2 s [v,w]=Pick.inB s (fun r=>V r 0) (fun r=>V r 1) (fun r=>r.getD 2 0) v w:=by
   unfold innB Pick.inB
   rw [Bool.eq_iff_iff,List.all_eq_true,List.all_eq_true]
   refine forall_congr' fun r=>forall_congr' fun hr=>?_
   rw [decide_eq_true_eq,decide_eq_true_eq,hov r hr]
   show V r 0*v+V r 1*w-r.getD 2 0 < 0↔V r 0*v+V r 1*w < r.getD 2 0
   omega
  rw [this]; rfl
 have a1:plA 1 2 P s 2 []=isum (irange (loT P 0 P.length*((1:Nat):Int)) (hiT P 0 P.length*((1:Nat):Int))) fun v=>isum (irange (loT P 1 P.length*((1:Nat):Int)) (hiT P 1 P.length*((1:Nat):Int))) fun w=>b01 (allB 1 2 s [v,w]):=rfl
 have a2:plI 1 2 P s 2 []=isum (irange (loT P 0 P.length*((1:Nat):Int)) (hiT P 0 P.length*((1:Nat):Int))) fun v=>isum (irange (loT P 1 P.length*((1:Nat):Int)) (hiT P 1 P.length*((1:Nat):Int))) fun w=>b01 (innB 1 2 s [v,w]):=rfl
 have m1:∀z:Int,z*((1:Nat):Int)=z:=fun z=>by omega
 simp only [m1,isum_zs,hA,hI] at a1 a2
 rw [e1,hth,a1,a2,show (hiT P 0 P.length-loT P 0 P.length+1).toNat=(hiT P 0 P.length-loT P 0 P.length).toNat+1 by omega,←Pick.zs_add]
 rfl
end
end Go.Proofs.YtadpjlpdfimaeaaGreatDoor

namespace Go.Proofs.YtadpjlpdfimaeaaGreatDoor
open Go.RowKit
attribute [local go_sem ↓] Go.wp_at_zero Go.wp_at_succ
def memTo (s i:Nat):List Int:=((List.range i).filter fun k=>s.testBit k).map fun k:Nat=>(k:Int)
def memL (s:Nat):List Int:=memTo s 64
theorem memTo_succ (s i:Nat):memTo s (i+1)=memTo s i ++ (if s.testBit i=true then [(i:Int)] else []):=by
 unfold memTo
 rw [List.range_succ,List.filter_append,List.map_append]
 cases h:s.testBit i <;> simp [h]
theorem memTo_len (s i:Nat):(memTo s i).length≤i:=by
 unfold memTo
 rw [List.length_map]
 exact Nat.le_trans (List.length_filter_le _ _) (by simp)
theorem memTo_top {s i:Nat} (hs:s < 2 ^ i):∀k,memTo s (i+k)=memTo s i
 | 0=>rfl
 | k+1=>by
  rw [←Nat.add_assoc,memTo_succ,memTo_top hs k]
  have:s.testBit (i+k)=false:=Nat.testBit_lt_two_pow (Nat.lt_of_lt_of_le hs (Nat.pow_le_pow_right (by decide) (by omega)))
  simp [this]
theorem memL_top {s i:Nat} (hs:s < 2 ^ i) (hi:i≤64):memTo s i=memL s:=by
 have:=memTo_top hs (64-i)
 rw [show i+(64-i)=64 by omega] at this
 exact this.symm
theorem mem_memL {s:Nat} (hs:s < 2 ^ 64) {x:Int} : x∈memL s↔∃k:Nat,x=k∧s.testBit k=true:=by
 unfold memL memTo
 simp only [List.mem_map,List.mem_filter,List.mem_range]
 constructor
 ·rintro ⟨k,⟨_,h⟩,rfl⟩; exact ⟨k,rfl,h⟩
 ·rintro ⟨k,rfl,h⟩
  refine ⟨k,⟨?_,h⟩,rfl⟩
  refine Nat.lt_of_not_le fun hle=>?_
  have:=Nat.testBit_lt_two_pow (Nat.lt_of_lt_of_le hs (Nat.pow_le_pow_right (by decide) hle))
  rw [this] at h
  exact absurd h (by decide)
end Go.Proofs.YtadpjlpdfimaeaaGreatDoor

namespace Go.Proofs.YtadpjlpdfimaeaaGreatDoor
open Go.RowKit
attribute [local go_sem ↓] Go.wp_at_zero Go.wp_at_succ
def sdTo (C:List (List Int)) (r:List Int):Nat→Nat
 | 0=>0
 | i+1=>sdTo C r i ||| (if overL r (C.getD i [])=0 then 2 ^ i else 0)
theorem sdTo_lt (C:List (List Int)) (r:List Int):∀i,sdTo C r i < 2 ^ i
 | 0=>by simp [sdTo]
 | i+1=>by
  have ih:=sdTo_lt C r i
  have h1:(2:Nat) ^ i < 2 ^ (i+1):=Nat.pow_lt_pow_right (by decide) (by omega)
  unfold sdTo
  refine Nat.or_lt_two_pow (by omega) ?_
  split
  ·exact h1
  ·exact Nat.pow_pos (by decide)
theorem sdTo_bit (C:List (List Int)) (r:List Int):∀i k,(sdTo C r i).testBit k=(decide (k < i) && decide (overL r (C.getD k [])=0))
 | 0,k=>by simp [sdTo]
 | i+1,k=>by
  unfold sdTo
  rw [Nat.testBit_or,sdTo_bit C r i k]
  by_cases hk:k=i
  ·subst hk
   by_cases h:overL r (C.getD k [])=0
   ·rw [if_pos h,Nat.testBit_two_pow_self,decide_eq_true h]; simp
   ·rw [if_neg h,decide_eq_false h]; simp
  ·have e:(if overL r (C.getD i [])=0 then 2 ^ i else 0).testBit k=false:=by
    split
    ·exact Nat.testBit_two_pow_of_ne (fun h=>hk h.symm)
    ·simp
   rw [e]
   have:decide (k < i+1)=decide (k < i):=decide_eq_decide.2 (by omega)
   rw [this]; simp
def sdN (C:List (List Int)) (r:List Int):Nat:=sdTo C r C.length
end Go.Proofs.YtadpjlpdfimaeaaGreatDoor

namespace Go.Proofs.YtadpjlpdfimaeaaGreatDoor
open Go.RowKit
def sharedL (a b:List Int):List Int:=a.filter (fun x=>b.contains x)
def okB (l:List Int) (ahead sides:List (List Int)):Bool:=
 ahead.all (fun o=>sides.any (fun s=>decide ((sharedL (sharedL l o) s).length=(sharedL l o).length)))
def Ris (l:List Int):Prop:=l.Pairwise (· < ·)
theorem nodup_len {α:Type} [BEq α] [LawfulBEq α]:∀(l o:List α),l.Nodup→(∀x∈l,x∈o)→l.length≤o.length
 | [],o,_,_=>Nat.zero_le _
 | a :: l,o,hn,hs=>by
  have ha:a∈o:=hs a (by simp)
  have hn':=List.nodup_cons.1 hn
  have:=nodup_len l (o.erase a) hn'.2 (fun x hx=>by
   have hxa:x≠a:=fun e=>hn'.1 (e ▸ hx)
   exact (List.mem_erase_of_ne hxa).2 (hs x (by simp [hx])))
  have hl:=List.length_erase_of_mem ha
  have hp:0 < o.length:=List.length_pos_of_mem ha
  simp only [List.length_cons]
  omega
def setN:List Int→Nat
 | []=>0
 | v :: l=>2 ^ v.toNat ||| setN l
def B64 (l:List Int):Prop:=∀x∈l,0≤x∧x≤63
theorem B64.tail {v:Int} {l:List Int} (h:B64 (v :: l)):B64 l:=fun x hx=>h x (by simp [hx])
theorem setN_bit:∀(l:List Int) (i:Nat),B64 l→((setN l).testBit i=true↔(i:Int)∈l)
 | [],i,_=>by simp [setN]
 | v :: l,i,h=>by
  have hv:=h v (by simp)
  rw [setN,Nat.testBit_or,Bool.or_eq_true,setN_bit l i h.tail,Nat.testBit_two_pow,decide_eq_true_iff,List.mem_cons]
  constructor
  ·rintro (e | e)
   ·exact Or.inl (by omega)
   ·exact Or.inr e
  ·rintro (e | e)
   ·exact Or.inl (by omega)
   ·exact Or.inr e
theorem setN_lt:∀(l:List Int),B64 l→setN l < 2 ^ 64
 | [],_=>by simp [setN]
 | v :: l,h=>by
  have hv:=h v (by simp)
  exact Nat.or_lt_two_pow (Nat.pow_lt_pow_right (by omega) (by omega)) (setN_lt l h.tail)
theorem setN_append:∀(a b:List Int),setN (a ++ b)=setN a ||| setN b
 | [],b=>by simp [setN]
 | v :: a,b=>by simp only [List.cons_append,setN]; rw [setN_append a b,Nat.or_assoc]
def outN (a b:Nat):Nat:=a ^^^ (a &&& b)
theorem outN_bit (a b i:Nat):(outN a b).testBit i=((a.testBit i) && !(b.testBit i)):=by
 unfold outN
 rw [Nat.testBit_xor,Nat.testBit_and]
 cases a.testBit i <;> cases b.testBit i <;> rfl
theorem outN_lt (a b:Nat) (ha:a < 2 ^ 64):outN a b < 2 ^ 64:=Nat.xor_lt_two_pow ha (Nat.lt_of_le_of_lt Nat.and_le_left ha)
theorem setN_even:∀(l:List Int) (k:Nat),(∀x∈l,(k:Int)≤x)→∃m,setN l=2 ^ k*m
 | [],k,_=>⟨0,rfl⟩
 | v :: l,k,h=>by
  obtain ⟨m,hm⟩:=setN_even l k (fun x hx=>h x (by simp [hx]))
  have hv:=h v (by simp)
  refine ⟨2 ^ (v.toNat-k) ||| m,?_⟩
  rw [setN,hm]
  have e:2 ^ v.toNat=2 ^ k*2 ^ (v.toNat-k):=by rw [←Nat.pow_add]; congr 1; omega
  rw [e]
  apply Nat.eq_of_testBit_eq
  intro i
  rw [Nat.testBit_or,Nat.testBit_two_pow_mul,Nat.testBit_two_pow_mul,Nat.testBit_two_pow_mul,Nat.testBit_or]
  cases decide (i≥k) <;> rfl
theorem setN_low {v:Int} {l:List Int} (h:Ris (v :: l)) (hb:B64 (v :: l)):∃m,setN (v :: l)=2 ^ v.toNat*(2*m+1)∧setN l=2 ^ v.toNat*(2*m):=by
 obtain ⟨h1,_⟩:=List.pairwise_cons.1 h
 have hv:=hb v (by simp)
 obtain ⟨m,hm⟩:=setN_even l (v.toNat+1) (fun x hx=>by have:=h1 x hx; omega)
 refine ⟨m,?_,by rw [hm,Nat.pow_succ,Nat.mul_assoc]⟩
 rw [setN,hm,Nat.pow_succ,Nat.mul_assoc]
 have:2 ^ v.toNat*(2*m+1)=2 ^ v.toNat+2 ^ v.toNat*(2*m):=by rw [Nat.mul_add,Nat.mul_one,Nat.add_comm]
 rw [this]
 have h2:=Nat.two_pow_add_eq_or_of_lt (i:=v.toNat) (b:=0) (Nat.two_pow_pos _) (2*m)
 apply Nat.eq_of_testBit_eq
 intro i
 rw [Nat.testBit_or,Nat.testBit_two_pow,Nat.testBit_two_pow_mul,←this,Nat.testBit_two_pow_mul]
 by_cases hi:v.toNat≤i
 ·by_cases hi':v.toNat=i
  ·simp [hi',Nat.testBit_zero]
  ·have h3:(2*m+1).testBit (i-v.toNat)=(2*m).testBit (i-v.toNat):=by
    obtain ⟨j,hj⟩:∃j,i-v.toNat=j+1:=⟨i-v.toNat-1,by omega⟩
    rw [hj,Nat.testBit_succ,Nat.testBit_succ]
    congr 1
    omega
   simp [hi,hi',h3]
 ·simp [hi]; omega
theorem ctzFrom_low:∀(f k m:Nat),k < f→Lib.ctzFrom f (2 ^ k*(2*m+1))=k
 | 0,k,m,h=>by omega
 | f+1,0,m,_=>by
  rw [Lib.ctzFrom,if_pos (by omega)]
 | f+1,k+1,m,h=>by
  have e:2 ^ (k+1)*(2*m+1)=2*(2 ^ k*(2*m+1)):=by rw [Nat.pow_succ,Nat.mul_comm (2 ^ k) 2,Nat.mul_assoc]
  rw [Lib.ctzFrom,e,if_neg (by omega),Nat.mul_div_cancel_left _ (by omega),ctzFrom_low f k m (by omega)]
  omega
theorem setN_ctz {v:Int} {l:List Int} (h:Ris (v :: l)) (hb:B64 (v :: l)):((Lib.ctz 64 (setN (v :: l)):Nat):Int)=v:=by
 obtain ⟨m,hm,_⟩:=setN_low h hb
 have hv:=hb v (by simp)
 have hp:0 < 2 ^ v.toNat*(2*m+1):=Nat.mul_pos (Nat.two_pow_pos _) (by omega)
 rw [Lib.ctz,if_neg (by rw [hm]; omega),hm,ctzFrom_low _ _ _ (by omega)]
 omega
theorem setN_pos {v:Int} {l:List Int} (h:Ris (v :: l)) (hb:B64 (v :: l)):0 < setN (v :: l):=by
 obtain ⟨m,hm,_⟩:=setN_low h hb
 rw [hm]
 exact Nat.mul_pos (Nat.two_pow_pos _) (by omega)
theorem setN_rest {v:Int} {l:List Int} (h:Ris (v :: l)) (hb:B64 (v :: l)):setN (v :: l) &&& (setN (v :: l)-1)=setN l:=by
 obtain ⟨m,hm,hl⟩:=setN_low h hb
 rw [hm,hl]
 have e:2 ^ v.toNat*(2*m+1)-1=2 ^ v.toNat*(2*m)+(2 ^ v.toNat-1):=by
  have:=Nat.two_pow_pos v.toNat
  rw [Nat.mul_add,Nat.mul_one]; omega
 apply Nat.eq_of_testBit_eq
 intro i
 rw [Nat.testBit_and,e,Nat.testBit_two_pow_mul_add _ (by have:=Nat.two_pow_pos v.toNat; omega),Nat.testBit_two_pow_mul,Nat.testBit_two_pow_mul]
 by_cases hi:v.toNat≤i
 ·rw [if_neg (by omega)]
  by_cases hi':i=v.toNat
  ·simp [hi',Nat.testBit_zero]
  ·have h3:(2*m+1).testBit (i-v.toNat)=(2*m).testBit (i-v.toNat):=by
    obtain ⟨j,hj⟩:∃j,i-v.toNat=j+1:=⟨i-v.toNat-1,by omega⟩
    rw [hj,Nat.testBit_succ,Nat.testBit_succ]
    congr 1
    omega
   rw [h3]
   simp [hi]
 ·simp [hi]
theorem bits_andNot_u64_nat (a b:Nat) (ha:a < 18446744073709551616) (hb:b < 18446744073709551616) :
  bits .andNot .u64 (a:Int) (b:Int)=((outN a b:Nat):Int):=by
 have h1:(BitVec.ofInt 64 (a:Int)).toNat=a:=by
  rw [BitVec.ofInt_natCast,BitVec.toNat_ofNat]; exact Nat.mod_eq_of_lt (by omega)
 have h2:(BitVec.ofInt 64 (b:Int)).toNat=b:=by
  rw [BitVec.ofInt_natCast,BitVec.toNat_ofNat]; exact Nat.mod_eq_of_lt (by omega)
 show IntKind.u64.wrap ((BitVec.ofInt 64 (a:Int) &&& ~~~ BitVec.ofInt 64 (b:Int)).toNat:Int)=_
 have h3:(BitVec.ofInt 64 (a:Int) &&& ~~~ BitVec.ofInt 64 (b:Int)).toNat=outN a b:=by
  apply Nat.eq_of_testBit_eq
  intro i
  rw [outN_bit]
  by_cases hi:i < 64
  ·rw [BitVec.toNat_and,Nat.testBit_and,h1]
   have:(~~~ BitVec.ofInt 64 (b:Int)).toNat.testBit i=!(b.testBit i):=by
    rw [BitVec.testBit_toNat,BitVec.getLsbD_not,←BitVec.testBit_toNat,h2]
    simp [hi]
   rw [this]
  ·have e1:a.testBit i=false:=Nat.testBit_lt_two_pow (Nat.lt_of_lt_of_le ha (Nat.le_trans (by decide:18446744073709551616≤2 ^ 64) (Nat.pow_le_pow_right (by omega) (by omega))))
   rw [BitVec.toNat_and,Nat.testBit_and,h1,e1]
   rfl
 rw [h3,IntKind.wrap_u64]
 have:=outN_lt a b (by simpa using ha)
 omega
end Go.Proofs.YtadpjlpdfimaeaaGreatDoor
