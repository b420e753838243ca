import Derived.Test.YtkjkfceblmgogaaGreatOrdB
import Derived.Maps.OwnIn
namespace Go.Proofs.YtkjkfceblmgogaaGreat
open Go.RowKit Go.Shelf
attribute [local go_sem] Oper.semAt_some
attribute [local go_sem ↓] Go.wp_at_zero Go.wp_at_succ
theorem ZIL(B:Nat)(P:List (List Int))(x:List Int)(v u:Value)(w:World)(hv:Mat B 27 3 w v P)(hu:Sl B 3 w u (ZAB x))(hx:∀i,i < x.length→0≤x.getD i 0∧x.getD i 0 < P.length)(hl:x.length≤1000) :
  Calls Tryz.prog 54 #[v,u] w fun e w'=>∃z,e=.returned z∧Rws w.heap.size 27 3 w' z (pks P [] x)∧Below w.heap.size w w':=
 ZB6 B P x v u w hv hu hx hl
end Go.Proofs.YtkjkfceblmgogaaGreat
namespace Go.Proofs.YtkjkfceblmgogaaGreat
open Go.RowKit Go.Shelf
attribute [local go_sem] Oper.semAt_some
theorem ZIM(N0:Nat)(W:World)(S:Nat→Prop)(x:List Int)(vs:Array Value)(W':World)(h:ZJe N0 W S x vs)(hb:Below W.heap.size W W'):ZJe N0 W' S x vs:=by
 obtain ⟨v,a,b,f,g,d,c⟩:=h;exact ⟨v,a,b,ZAQ f hb (Za4 _),g,d,Zaa8 c hb.size⟩
theorem ZMG(N0:Nat)(W:World)(S:Nat→Prop)(x:List Int)(vs:Array Value)(l:Nat)(r:Loop)(o:Obj)(h:ZJe N0 W S x vs)(hl:W.heap[l]?=some (.loop r)):ZJe N0 (W.putObj l o) S x vs:=by
 obtain ⟨v,a,b,f,g,d,c⟩:=h
 exact ⟨v,a,b,ownsRow_putObj f _ hl rfl,g,d,by simpa using c⟩
structure FrO(S:Nat→Prop)(B:Nat)(W:World)(v:Value)(m:List (List Int))(vs:List Value):Prop where
 len:vs.length=m.length
 own:W.ownsRow B 27 1 v m.length vs
 off:∀g,v.ownBlock=some g→¬S g
 sl:∀i,i < m.length→Sl 0 3 W (vs.getD i (.slice none 0 0)) (ZAB (m.getD i []))
 so:∀i,i < m.length→0 < (m.getD i []).length→∃a n c,vs.getD i (.slice none 0 0)=.slice (some a) n c∧¬S a.block
theorem FrO.fr{S:Nat→Prop}{B:Nat}{W:World}{v:Value}{m:List (List Int)}{vs:List Value}(h:FrO S B W v m vs):Fr B 27 3 W v m:=⟨vs,h.len,h.own,h.sl⟩
theorem ZIN{w W:World}{v:Value}{xs:List Int}(h:Sl 0 3 w v (ZAB xs))(hk:0 < xs.length→∀a n c,v=.slice (some a) n c→W.heap[a.block]?=w.heap[a.block]?):Sl 0 3 W v (ZAB xs):=by
 obtain ⟨m,f,rfl,l,r,s,p⟩:=h
 refine ⟨m,f,rfl,l,r,fun i hi=>?_,p⟩
 obtain ⟨b,o,rfl,j,d⟩:=s i hi
 have g:=hk (by simpa using (Nat.lt_of_le_of_lt (Za5 _) hi)) _ _ _ rfl
 refine ⟨b,o,rfl,(World.cell?_of_block (w:=w) (a:=⟨b,o+i,none⟩) g).trans j,?_⟩
 rcases d with d | ⟨cur,d⟩
 ·omega
 ·exact .inr ⟨cur,g.trans d⟩
theorem ZJI{w:World}{a:Addr}{n c:Nat}{xs:List Int}(h:Sl 0 3 w (.slice (some a) n c) (ZAB xs))(hp:0 < xs.length):a.block < w.heap.size:=by
 obtain ⟨l,g,hv,_,_,j,_⟩:=h;simp only [Za3] at hv;obtain ⟨rfl,_,_⟩:=hv
 obtain ⟨b,o,i,d,_⟩:=j 0 (by simpa using hp)
 cases i
 have f:(ZAB xs)[0]?=some (.int .i64 (xs.getD 0 0)):=ZAZ _ _ hp;exact ZAH (d.trans f)
theorem FrO.keep{S S':Nat→Prop}{B:Nat}{W W':World}{v:Value}{m:List (List Int)}{vs:List Value}(h:FrO S B W v m vs)(hc:∀b,b < W.heap.size→¬S b→W'.heap[b]?=W.heap[b]?)(hs:∀b,S' b→S b∨W.heap.size≤b):FrO S' B W' v m vs:=by
 refine ⟨h.len,⟨h.own.1,?_⟩,fun g hg hx=>?_,fun i hi=>ZIN (h.sl i hi) (fun hp a n c e=>?_),fun i hi hp=>?_⟩
 ·rcases h.own.2 with h2 | ⟨g,cap,cur,rfl,hb,hh,r⟩
  ·exact Or.inl h2
  ·exact Or.inr ⟨g,cap,cur,rfl,hb,(hc g (lt_of_block hh) (h.off g rfl)).trans hh,r⟩
 ·rcases hs g hx with h1 | h1
  ·exact h.off g hg h1
  ·have:=(h.own.lt g hg).2; omega
 ·obtain ⟨o,p,l,j,f⟩:=h.so i hi hp
  rw [e] at j
  cases j
  have d:=h.sl i hi;rw [e] at d;exact hc _ (ZJI d hp) f
 ·obtain ⟨a,n,c,e,f⟩:=h.so i hi hp
  refine ⟨a,n,c,e,fun hx=>?_⟩
  have d:=h.sl i hi;rw [e] at d
  rcases hs _ hx with h1 | h1
  ·exact f h1
  ·have:=ZJI d hp; omega
theorem FrO.push{S:Nat→Prop}{B:Nat}{W W':World}{v v' u:Value}{m:List (List Int)}{vs:List Value}{zs:List Int}(h:FrO S B W v m vs)(hu:Sl 0 3 W u (ZAB zs))(hun:0 < zs.length→∃a n c,u=.slice (some a) n c∧¬S a.block)
 (ho:W'.ownsRow B 27 1 v' (m.length+1) (vs ++ [u]))(hg:W.grownBy W' v.ownBlock)(hn:∀g,v'.ownBlock=some g→¬S g):FrO S B W' v' (m ++ [zs]) (vs ++ [u]):=by
 have l:=Fr.push (e2:=27) (e1:=3) (m:=m) (u:=u) (zs:=zs) (by decide) h.len h.own h.sl hu ho hg
 have j:∀k,v.ownBlock=some k→0≤k∧∀cur,W.heap[k]?≠some (.cells cur 3 (0,0)):=fun k hk=>⟨Za5 _,(ZAt h.own (by decide) k hk).2⟩
 refine ⟨by simp [h.len],by simpa using ho,hn,fun i hi=>?_,fun i hi hpos=>?_⟩
 ·by_cases hlt:i < m.length
  ·have b:(vs ++ [u]).getD i (.slice none 0 0)=vs.getD i (.slice none 0 0):=by
    simp only [Za2]; rw [Za7 (by have:=h.len; omega)]
   have d:(m ++ [zs]).getD i []=m.getD i []:=by
    simp only [Za2]; rw [Za7 (by omega)]
   rw [b,d];exact (h.sl i hlt).grown hg j
  ·have f:i=m.length:=by simp at hi; omega
   subst f
   have b:(vs ++ [u]).getD m.length (.slice none 0 0)=u:=by
    rw [←h.len]; simp
   have d:(m ++ [zs]).getD m.length []=zs:=by simp
   rw [b,d];exact hu.grown hg j
 ·by_cases hlt:i < m.length
  ·have b:(vs ++ [u]).getD i (.slice none 0 0)=vs.getD i (.slice none 0 0):=by
    simp only [Za2]; rw [Za7 (by have:=h.len; omega)]
   have d:(m ++ [zs]).getD i []=m.getD i []:=by
    simp only [Za2]; rw [Za7 (by omega)]
   rw [d] at hpos;rw [b];exact h.so i hlt hpos
  ·have f:i=m.length:=by simp at hi; omega
   subst f
   have b:(vs ++ [u]).getD m.length (.slice none 0 0)=u:=by
    rw [←h.len]; simp
   have d:(m ++ [zs]).getD m.length []=zs:=by simp
   rw [d] at hpos;rw [b];exact hun hpos
end Go.Proofs.YtkjkfceblmgogaaGreat
