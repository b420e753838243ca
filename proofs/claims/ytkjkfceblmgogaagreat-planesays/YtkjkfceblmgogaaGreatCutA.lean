import Derived.Test.YtkjkfceblmgogaaGreatSgE
import Derived.Test.YtkjkfceblmgogaaGreatOrdB
namespace Go.Proofs.YtkjkfceblmgogaaGreat
open Go.RowKit
def SlN(B:Nat)(w:World)(v:Value)(xs:List Value):Prop:=Sl 0 3 w v xs∧∀b o n c,v=.slice (some ⟨b,o,none⟩) n c→B≤b
theorem SlN.below{B N:Nat}{w w':World}{v:Value}{xs:List Value}(h:SlN B w v xs)(hb:Below N w w')(hN:w.heap.size≤N):SlN B w' v xs:=⟨h.1.below hb hN,h.2⟩
theorem SlN.alloc{B:Nat}{w:World}{v:Value}{xs:List Value}(h:SlN B w v xs)(o:Obj):SlN B (w.alloc o) v xs:=⟨h.1.alloc o,h.2⟩
theorem SlN.mono{B B':Nat}{w:World}{v:Value}{xs:List Value}(h:SlN B w v xs)(hB:B'≤B):SlN B' w v xs:=⟨h.1,fun b o n c e=>Zaa8 hB (h.2 b o n c e)⟩
theorem SlN.own{B n:Nat}{w:World}{v:Value}{l:List Int}(h:w.ownsRow B 3 1 v n (ZAB l)):SlN B w v (ZAB l):=by
 refine ⟨Sl.own h,fun b o k c e=>?_⟩
 subst e;exact (h.lt b rfl).1
def FrN(B:Nat)(w:World)(v:Value)(m:List (List Int)):Prop:=
 ∃vs,vs.length=m.length∧w.ownsRow B 27 1 v m.length vs∧∀i,i < m.length→SlN B w (vs.getD i (.slice none 0 0)) (ZAB (m.getD i []))
theorem FrN.fr{B:Nat}{w:World}{v:Value}{m:List (List Int)}(h:FrN B w v m):Fr B 27 3 w v m:=by
 obtain ⟨a,b,c,d⟩:=h
 exact ⟨a,b,c,fun i hi=>(d i hi).1⟩
theorem FrN.nil(B:Nat)(w:World):FrN B w (.slice none 0 0) []:=⟨[],rfl,World.ownsRow_nil _ _ _ _,fun i hi=>absurd hi (by simp)⟩
theorem FrN.push{B:Nat}{w w':World}{v v' u:Value}{m:List (List Int)}{vs:List Value}{zs:List Int}
 (h1:vs.length=m.length)(h2:w.ownsRow B 27 1 v m.length vs)(h3:∀i,i < m.length→SlN B w (vs.getD i (.slice none 0 0)) (ZAB (m.getD i [])))(hu:SlN B w u (ZAB zs))
 (ho:w'.ownsRow B 27 1 v' (m.length+1) (vs ++ [u]))(hg:w.grownBy w' v.ownBlock):FrN B w' v' (m ++ [zs]):=by
 have d:∀k,v.ownBlock=some k→0≤k∧∀cur,w.heap[k]?≠some (.cells cur 3 (0,0)):=fun k hk=>⟨Za5 _,(ZAt h2 (by decide) k hk).2⟩
 refine ⟨vs ++ [u],by simp [h1],by simpa using ho,fun i hi=>?_⟩
 by_cases hlt:i < m.length
 ·have a:(vs ++ [u]).getD i (.slice none 0 0)=vs.getD i (.slice none 0 0):=by
   simp only [Za2]; rw [Za7 (by omega)]
  have b:(m ++ [zs]).getD i []=m.getD i []:=by
   simp only [Za2]; rw [Za7 (by omega)]
  rw [a,b];exact ⟨(h3 i hlt).1.grown hg d,(h3 i hlt).2⟩
 ·have c:i=m.length:=by simp at hi; omega
  subst c
  have a:(vs ++ [u]).getD m.length (.slice none 0 0)=u:=by
   rw [←h1]; simp
  have b:(m ++ [zs]).getD m.length []=zs:=by simp
  rw [a,b];exact ⟨hu.1.grown hg d,hu.2⟩
end Go.Proofs.YtkjkfceblmgogaaGreat
namespace Go.Proofs.YtkjkfceblmgogaaGreat
open Go.RowKit Lin
attribute [local go_sem ↓] Go.wp_at_zero Go.wp_at_succ
theorem SlN.put{B:Nat}{w:World}{b o n c:Nat}{p:List Int}(h:SlN B w (.slice (some ⟨b,o,none⟩) n c) (ZAB p)){k:Nat}(hk:k < p.length)(z:Int) :
  (∃q,w.cell? ⟨b,o+k,none⟩=some q)∧w.frozen? ⟨b,o+k,none⟩=false∧B≤b∧SlN B (w.setCell ⟨b,o+k,none⟩ (.int .i64 z)) (.slice (some ⟨b,o,none⟩) n c) (ZAB (p.set k z)):=by
 obtain ⟨⟨O,E,e,y,A,x,G⟩,t⟩:=h;have D:=t b o n c rfl;simp only [Za3] at e;obtain ⟨rfl,rfl,rfl⟩:=e
 obtain ⟨M,L,s,J,m⟩:=x k (by simpa using hk)
 simp only [Zaa9,Addr.mk.injEq] at s;obtain ⟨rfl,rfl,_⟩:=s
 obtain ⟨f,d⟩:∃f,w.heap[b]?=some (.cells f 3 (0,0)):=by
  rcases m with m | m
  ·omega
  ·exact m
 have a:∀i,i < p.length→f[o+i]?=some (.int .i64 (p.getD i 0)):=fun i hi=>by
  obtain ⟨F,N,v,l,_⟩:=x i (by simpa using hi)
  simp only [Zaa9,Addr.mk.injEq] at v;obtain ⟨rfl,rfl,_⟩:=v;rw [ZAZ _ _ hi] at l
  simpa [World.cell?,d] using l
 have r:o+k < f.size:=(Zaa3.1 (a k hk)).1
 have g:(w.setCell ⟨b,o+k,none⟩ (.int .i64 z)).heap[b]?=some (.cells (f.setIfInBounds (o+k) (.int .i64 z)) 3 (0,0)):=by simp [World.setCell,Array.getElem?_modify,d]
 refine ⟨⟨_,by simpa [World.cell?,d] using a k hk⟩,by simp [World.frozen?,d],D,⟨some ⟨b,o,none⟩,c,by simp,by simpa using y,A,fun i hi=>⟨b,o,rfl,?_,.inr ⟨_,g⟩⟩,fun e=>by cases e⟩,t⟩
 have j:i < p.length:=by simpa using hi
 rw [ZAZ _ _ (by simpa using j)]
 have:(w.setCell ⟨b,o+k,none⟩ (.int .i64 z)).cell? ⟨b,o+i,none⟩=(f.setIfInBounds (o+k) (.int .i64 z))[o+i]?:=by simp [World.cell?,g]
 rw [this]
 by_cases e:i=k
 ·subst e
  simp [r,j]
 ·rw [Array.getElem?_setIfInBounds_ne (by omega),a i j]
  simp [List.getElem?_set_ne (Ne.symm e)]
end Go.Proofs.YtkjkfceblmgogaaGreat
