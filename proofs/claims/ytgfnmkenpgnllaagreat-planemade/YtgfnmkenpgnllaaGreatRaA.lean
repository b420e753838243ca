import Derived.Test.YtgfnmkenpgnllaaGreatOrdB
import Derived.Maps.OwnIn
namespace Go.Proofs.YtgfnmkenpgnllaaGreat
open Go.RowKit Go.Shelf
attribute [local go_sem] Oper.semAt_some
attribute [local go_sem ↓] Go.wp_at_zero Go.wp_at_succ
theorem ZH8(B:Nat)(P:List (List Int))(x:List Int)(v u:Value)(w:World)(hv:Mat B 22 3 w v P)(hu:Sl B 3 w u (ZAB x))(hx:∀i,i < x.length→0≤x.getD i 0∧x.getD i 0 < P.length)(hl:x.length≤1000) :
  Calls Tryz.prog 59 #[v,u] w fun e w'=>∃z,e=.returned z∧Rws w.heap.size 22 3 w' z (pks P [] x)∧Below w.heap.size w w':=
 ZB5 B P x v u w hv hu hx hl
end Go.Proofs.YtgfnmkenpgnllaaGreat
namespace Go.Proofs.YtgfnmkenpgnllaaGreat
open Go.RowKit Go.Shelf
attribute [local go_sem] Oper.semAt_some
theorem ZH9(N0:Nat)(W:World)(S:Nat→Prop)(x:List Int)(vs:Array Value)(W':World)(h:ZJQ N0 W S x vs)(hb:Below W.heap.size W W'):ZJQ N0 W' S x vs:=by
 obtain ⟨v,d,a,g,c,b,f⟩:=h;exact ⟨v,d,a,ZAN g hb (Za4 _),c,b,Zaa8 f hb.size⟩
theorem ZL1(N0:Nat)(W:World)(S:Nat→Prop)(x:List Int)(vs:Array Value)(l:Nat)(r:Loop)(o:Obj)(h:ZJQ N0 W S x vs)(hl:W.heap[l]?=some (.loop r)):ZJQ N0 (W.putObj l o) S x vs:=by
 obtain ⟨v,d,a,g,c,b,f⟩:=h
 exact ⟨v,d,a,ownsRow_putObj g _ hl rfl,c,b,by simpa using f⟩
structure FrO(S:Nat→Prop)(B:Nat)(W:World)(v:Value)(m:List (List Int))(vs:List Value):Prop where
 len:vs.length=m.length
 own:W.ownsRow B 22 1 v m.length vs
 off:∀g,v.ownBlock=some g→¬S g
 sl:∀i,i < m.length→Sl 0 3 W (vs.getD i (.slice none 0 0)) (ZAB (m.getD i []))
 so:∀i,i < m.length→0 < (m.getD i []).length→∃a n c,vs.getD i (.slice none 0 0)=.slice (some a) n c∧¬S a.block
theorem FrO.fr{S:Nat→Prop}{B:Nat}{W:World}{v:Value}{m:List (List Int)}{vs:List Value}(h:FrO S B W v m vs):Fr B 22 3 W v m:=⟨vs,h.len,h.own,h.sl⟩
theorem ZIA{w W:World}{v:Value}{xs:List Int}(h:Sl 0 3 w v (ZAB xs))(hk:0 < xs.length→∀a n c,v=.slice (some a) n c→W.heap[a.block]?=w.heap[a.block]?):Sl 0 3 W v (ZAB xs):=by
 obtain ⟨s,f,rfl,j,r,m,l⟩:=h
 refine ⟨s,f,rfl,j,r,fun i hi=>?_,l⟩
 obtain ⟨b,o,rfl,p,d⟩:=m i hi
 have g:=hk (by simpa using (Nat.lt_of_le_of_lt (Za5 _) hi)) _ _ _ rfl
 refine ⟨b,o,rfl,(World.cell?_of_block (w:=w) (a:=⟨b,o+i,none⟩) g).trans p,?_⟩
 rcases d with d | ⟨cur,d⟩
 ·omega
 ·exact .inr ⟨cur,g.trans d⟩
theorem ZI5{w:World}{a:Addr}{n c:Nat}{xs:List Int}(h:Sl 0 3 w (.slice (some a) n c) (ZAB xs))(hp:0 < xs.length):a.block < w.heap.size:=by
 obtain ⟨l,j,hv,_,_,d,_⟩:=h;simp only [Za3] at hv;obtain ⟨rfl,_,_⟩:=hv
 obtain ⟨b,o,i,g,_⟩:=d 0 (by simpa using hp)
 cases i
 have f:(ZAB xs)[0]?=some (.int .i64 (xs.getD 0 0)):=ZAa _ _ hp;exact ZAI (g.trans f)
theorem FrO.keep{S S':Nat→Prop}{B:Nat}{W W':World}{v:Value}{m:List (List Int)}{vs:List Value}(h:FrO S B W v m vs)(hc:∀b,b < W.heap.size→¬S b→W'.heap[b]?=W.heap[b]?)(hs:∀b,S' b→S b∨W.heap.size≤b):FrO S' B W' v m vs:=by
 refine ⟨h.len,⟨h.own.1,?_⟩,fun g hg hx=>?_,fun i hi=>ZIA (h.sl i hi) (fun hp a n c e=>?_),fun i hi hp=>?_⟩
 ·rcases h.own.2 with h2 | ⟨g,cap,cur,rfl,hb,hh,r⟩
  ·exact Or.inl h2
  ·exact Or.inr ⟨g,cap,cur,rfl,hb,(hc g (lt_of_block hh) (h.off g rfl)).trans hh,r⟩
 ·rcases hs g hx with h1 | h1
  ·exact h.off g hg h1
  ·have:=(h.own.lt g hg).2; omega
 ·obtain ⟨p,l,o,j,f⟩:=h.so i hi hp
  rw [e] at j
  cases j
  have d:=h.sl i hi;rw [e] at d;exact hc _ (ZI5 d hp) f
 ·obtain ⟨a,n,c,e,f⟩:=h.so i hi hp
  refine ⟨a,n,c,e,fun hx=>?_⟩
  have d:=h.sl i hi;rw [e] at d
  rcases hs _ hx with h1 | h1
  ·exact f h1
  ·have:=ZI5 d hp; omega
theorem FrO.push{S:Nat→Prop}{B:Nat}{W W':World}{v v' u:Value}{m:List (List Int)}{vs:List Value}{zs:List Int}(h:FrO S B W v m vs)(hu:Sl 0 3 W u (ZAB zs))(hun:0 < zs.length→∃a n c,u=.slice (some a) n c∧¬S a.block)
 (ho:W'.ownsRow B 22 1 v' (m.length+1) (vs ++ [u]))(hg:W.grownBy W' v.ownBlock)(hn:∀g,v'.ownBlock=some g→¬S g):FrO S B W' v' (m ++ [zs]) (vs ++ [u]):=by
 have l:=Fr.push (e2:=22) (e1:=3) (m:=m) (u:=u) (zs:=zs) (by decide) h.len h.own h.sl hu ho hg
 have j:∀k,v.ownBlock=some k→0≤k∧∀cur,W.heap[k]?≠some (.cells cur 3 (0,0)):=fun k hk=>⟨Za5 _,(ZAz h.own (by decide) k hk).2⟩
 refine ⟨by simp [h.len],by simpa using ho,hn,fun i hi=>?_,fun i hi hpos=>?_⟩
 ·by_cases hlt:i < m.length
  ·have d:(vs ++ [u]).getD i (.slice none 0 0)=vs.getD i (.slice none 0 0):=by
    simp only [Za2]; rw [Za7 (by have:=h.len; omega)]
   have b:(m ++ [zs]).getD i []=m.getD i []:=by
    simp only [Za2]; rw [Za7 (by omega)]
   rw [d,b];exact (h.sl i hlt).grown hg j
  ·have f:i=m.length:=by simp at hi; omega
   subst f
   have d:(vs ++ [u]).getD m.length (.slice none 0 0)=u:=by
    rw [←h.len]; simp
   have b:(m ++ [zs]).getD m.length []=zs:=by simp
   rw [d,b];exact hu.grown hg j
 ·by_cases hlt:i < m.length
  ·have d:(vs ++ [u]).getD i (.slice none 0 0)=vs.getD i (.slice none 0 0):=by
    simp only [Za2]; rw [Za7 (by have:=h.len; omega)]
   have b:(m ++ [zs]).getD i []=m.getD i []:=by
    simp only [Za2]; rw [Za7 (by omega)]
   rw [b] at hpos;rw [d];exact h.so i hlt hpos
  ·have f:i=m.length:=by simp at hi; omega
   subst f
   have d:(vs ++ [u]).getD m.length (.slice none 0 0)=u:=by
    rw [←h.len]; simp
   have b:(m ++ [zs]).getD m.length []=zs:=by simp
   rw [b] at hpos;rw [d];exact hun hpos
end Go.Proofs.YtgfnmkenpgnllaaGreat
