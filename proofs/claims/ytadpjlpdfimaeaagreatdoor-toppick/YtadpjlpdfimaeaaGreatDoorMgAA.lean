import Derived.WalkKit
import Derived.WalkSpells
import Derived.Test.YtadpjlpdfimaeaaGreatDoorRows
import Derived.Deep.QuietTactic
import Derived.BigQuiet
import Derived.WalkLawsBesides
import Derived.Deep.OwnRows
import Derived.Laws.ResultCell
namespace Go.Proofs.YtadpjlpdfimaeaaGreatDoor
open Go.RowKit
def Sl (B:Nat) (e:TypeId) (w:World) (v:Value) (xs:List Value):Prop:=
 ∃ao cap,v=.slice ao xs.length cap∧xs.length≤cap∧cap≤maxLen∧
  (∀i,i < xs.length→∃b o,ao=some ⟨b,o,none⟩∧w.cell? ⟨b,o+i,none⟩=xs[i]?∧(b < B∨∃cur,w.heap[b]?=some (.cells cur e (0,0))))∧(ao=none→cap=0)
def ints (zs:List Int):List Value:=zs.map (Value.int .i64)
@[simp] theorem ints_length (zs:List Int):(ints zs).length=zs.length:=by simp [ints]
theorem ints_get (zs:List Int) (i:Nat) (h:i < zs.length):(ints zs)[i]?=some (.int .i64 (zs.getD i 0)):=by
 simp [ints,h]
theorem lt_of_cell {w:World} {b o:Nat} {v:Value} (h:w.cell? ⟨b,o,none⟩=some v):b < w.heap.size:=
 World.block_lt_of_cell? w ⟨b,o,none⟩ h
theorem Sl.move {B B':Nat} {e:TypeId} {w w':World} {v:Value} {xs:List Value} (h:Sl B e w v xs)
  (hk:∀b,b < w.heap.size→(b < B∨∃cur,w.heap[b]?=some (.cells cur e (0,0)))→w'.heap[b]?=w.heap[b]?∧(b < B'∨∃cur,w.heap[b]?=some (.cells cur e (0,0)))):Sl B' e w' v xs:=by
 obtain ⟨ao,cap,rfl,h1,h2,h3,h4⟩:=h
 refine ⟨ao,cap,rfl,h1,h2,fun i hi=>?_,h4⟩
 obtain ⟨b,o,ha,hc,ht⟩:=h3 i hi
 have hx:xs[i]?=some xs[i]:=List.getElem?_eq_getElem hi
 have hb:=lt_of_cell (hc.trans hx)
 obtain ⟨k1,k2⟩:=hk b hb ht
 refine ⟨b,o,ha,(World.cell?_of_block (w:=w) (a:=⟨b,o+i,none⟩) k1).trans hc,?_⟩
 rcases k2 with k2 | ⟨cur,k2⟩
 ·exact Or.inl k2
 ·exact Or.inr ⟨cur,k1.trans k2⟩
theorem Sl.below {B N:Nat} {e:TypeId} {w w':World} {v:Value} {xs:List Value} (h:Sl B e w v xs) (hb:Below N w w') (hN:w.heap.size≤N):Sl B e w' v xs:=
 h.move fun b hl ht=>⟨hb.block b (by omega),ht⟩
theorem Sl.any {B B':Nat} {e:TypeId} {w:World} {v:Value} {xs:List Value} (h:Sl B e w v xs) (hB:w.heap.size≤B'):Sl B' e w v xs:=
 h.move fun b hl _=>⟨rfl,Or.inl (by omega)⟩
theorem Sl.more {B B':Nat} {e:TypeId} {w:World} {v:Value} {xs:List Value} (h:Sl B e w v xs) (hB:B≤B'):Sl B' e w v xs:=
 h.move fun b hl ht=>⟨rfl,ht.imp_left (fun _=>by omega)⟩
theorem Sl.drew {B:Nat} {e:TypeId} {w:World} {v:Value} {xs:List Value} (h:Sl B e w v xs):Sl B e w.drew v xs:=h
theorem Sl.alloc {B:Nat} {e:TypeId} {w:World} {v:Value} {xs:List Value} (h:Sl B e w v xs) (o:Obj):Sl B e (w.alloc o) v xs:=
 h.move fun b hl ht=>⟨Below.heap_alloc w o b hl,ht⟩
theorem Sl.grown {B:Nat} {e:TypeId} {w w':World} {row:Option Nat} {v:Value} {xs:List Value} (h:Sl B e w v xs) (hg:w.grownBy w' row)
  (hr:∀k,row=some k→B≤k∧∀cur,w.heap[k]?≠some (.cells cur e (0,0))):Sl B e w' v xs:=
 h.move fun b hl ht=>⟨hg.block b hl (fun e1=>by
  obtain ⟨q1,q2⟩:=hr b e1.symm
  rcases ht with ht | ⟨cur,ht⟩
  ·omega
  ·exact q2 cur ht),ht⟩
theorem Sl.setCell {B:Nat} {e:TypeId} {w:World} {v:Value} {xs:List Value} (h:Sl B e w v xs) {a:Addr} (u:Value)
  (hr:B≤a.block∧∀cur,w.heap[a.block]?≠some (.cells cur e (0,0))):Sl B e (w.setCell a u) v xs:=
 h.move fun b hl ht=>⟨Below.heap_setCell w a u b (fun e1=>by
  obtain ⟨q1,q2⟩:=hr
  rcases ht with ht | ⟨cur,ht⟩
  ·omega
  ·exact q2 cur (e1 ▸ ht)),ht⟩
theorem Sl.own {B base:Nat} {e:TypeId} {w:World} {v:Value} {n:Nat} {xs:List Value} (h:w.ownsRow base e 1 v n xs):Sl B e w v xs:=by
 obtain ⟨h1,h2⟩:=h
 rcases h2 with ⟨rfl,rfl⟩ | ⟨g,cap,cur,rfl,hg,hh,hn,hc,hs,ht⟩
 ·have:xs=[]:=List.eq_nil_of_length_eq_zero (by simpa using h1)
  subst this
  exact ⟨none,0,rfl,by simp,by simp [maxLen],fun i hi=>absurd hi (by simp),fun _=>rfl⟩
 ·have hl:xs.length=n:=by simpa using h1
  refine ⟨some ⟨g,0,none⟩,cap,by rw [hl],by omega,hc,fun i hi=>⟨g,0,rfl,?_,Or.inr ⟨cur,hh⟩⟩,fun h=>by cases h⟩
  subst ht
  simp [World.cell?,hh,List.getElem?_take]
  simp at hi
  omega
theorem Sl.nil (B:Nat) (e:TypeId) (w:World):Sl B e w (.slice none 0 0) []:=
 ⟨none,0,rfl,by simp,by simp [maxLen],fun i hi=>absurd hi (by simp),fun _=>rfl⟩
theorem Sl.at {B:Nat} {e:TypeId} {w:World} {v:Value} {xs:List Value} (h:Sl B e w v xs) (hp:0 < xs.length) :
  ∃b o cap,v=.slice (some ⟨b,o,none⟩) xs.length cap∧xs.length≤cap∧cap≤maxLen∧∀i,i < xs.length→w.cell? ⟨b,o+i,none⟩=xs[i]?:=by
 obtain ⟨ao,cap,rfl,h1,h2,h3,_⟩:=h
 obtain ⟨b,o,rfl,_,_⟩:=h3 0 hp
 refine ⟨b,o,cap,rfl,h1,h2,fun i hi=>?_⟩
 obtain ⟨b',o',he,hc,_⟩:=h3 i hi
 simp only [Option.some.injEq,Addr.mk.injEq] at he
 obtain ⟨rfl,rfl,_⟩:=he
 exact hc
def Mat (B:Nat) (e2 e1:TypeId) (w:World) (v:Value) (m:List (List Int)):Prop:=
 ∃vs,vs.length=m.length∧Sl B e2 w v vs∧∀i,i < m.length→Sl B e1 w (vs.getD i (.slice none 0 0)) (ints (m.getD i []))
theorem Mat.below {B N:Nat} {e2 e1:TypeId} {w w':World} {v:Value} {m:List (List Int)} (h:Mat B e2 e1 w v m) (hb:Below N w w') (hN:w.heap.size≤N):Mat B e2 e1 w' v m:=by
 obtain ⟨vs,h1,h2,h3⟩:=h
 exact ⟨vs,h1,h2.below hb hN,fun i hi=>(h3 i hi).below hb hN⟩
theorem Mat.any {B B':Nat} {e2 e1:TypeId} {w:World} {v:Value} {m:List (List Int)} (h:Mat B e2 e1 w v m) (hB:w.heap.size≤B'):Mat B' e2 e1 w v m:=by
 obtain ⟨vs,h1,h2,h3⟩:=h
 exact ⟨vs,h1,h2.any hB,fun i hi=>(h3 i hi).any hB⟩
theorem Mat.more {B B':Nat} {e2 e1:TypeId} {w:World} {v:Value} {m:List (List Int)} (h:Mat B e2 e1 w v m) (hB:B≤B'):Mat B' e2 e1 w v m:=by
 obtain ⟨vs,h1,h2,h3⟩:=h
 exact ⟨vs,h1,h2.more hB,fun i hi=>(h3 i hi).more hB⟩
def Rws (B:Nat) (e2 e1:TypeId) (w:World) (v:Value) (m:List (List Int)):Prop:=
 ∃vs,vs.length=m.length∧w.ownsRow B e2 1 v m.length vs∧∀i,i < m.length→Sl B e1 w (vs.getD i (.slice none 0 0)) (ints (m.getD i []))
theorem Rws.mat {B B':Nat} {e2 e1:TypeId} {w:World} {v:Value} {m:List (List Int)} (h:Rws B e2 e1 w v m) (hB:B≤B'):Mat B' e2 e1 w v m:=by
 obtain ⟨vs,h1,h2,h3⟩:=h
 exact ⟨vs,h1,Sl.own h2,fun i hi=>(h3 i hi).more hB⟩
theorem owns_below {B N:Nat} {e:TypeId} {w w':World} {v:Value} {n:Nat} {xs:List Value} (h:w.ownsRow B e 1 v n xs) (hb:Below N w w') (hN:w.heap.size≤N):w'.ownsRow B e 1 v n xs:=
 h.kept (row:=none) ⟨hb.os,hb.tape,hb.output,hb.size,fun k hk _=>hb.block k (by omega)⟩ (by
  cases hv:v.ownBlock <;> simp)
theorem Rws.below {B N:Nat} {e2 e1:TypeId} {w w':World} {v:Value} {m:List (List Int)} (h:Rws B e2 e1 w v m) (hb:Below N w w') (hN:w.heap.size≤N):Rws B e2 e1 w' v m:=by
 obtain ⟨vs,h1,h2,h3⟩:=h
 exact ⟨vs,h1,owns_below h2 hb hN,fun i hi=>(h3 i hi).below hb hN⟩
theorem owns_typed {B:Nat} {e e1:TypeId} {w:World} {v:Value} {n:Nat} {xs:List Value} (h:w.ownsRow B e 1 v n xs) (hne:e≠e1) :
  ∀k,v.ownBlock=some k→B≤k∧∀cur,w.heap[k]?≠some (.cells cur e1 (0,0)):=by
 intro k hk
 obtain ⟨_,h2⟩:=h
 rcases h2 with ⟨rfl,rfl⟩ | ⟨g,cap,cur,rfl,hg,hh,_⟩
 ·simp [Value.ownBlock] at hk
 ·simp [Value.ownBlock] at hk
  subst hk
  refine ⟨hg,fun cur'=>?_⟩
  rw [hh]
  simp
  intro _ h
  exact absurd h hne
theorem Rws.push {B:Nat} {e2 e1:TypeId} {w w':World} {v v' u:Value} {m:List (List Int)} {vs:List Value} {zs:List Int} (hne:e2≠e1)
  (h1:vs.length=m.length) (h2:w.ownsRow B e2 1 v m.length vs) (h3:∀i,i < m.length→Sl B e1 w (vs.getD i (.slice none 0 0)) (ints (m.getD i []))) (hu:Sl B e1 w u (ints zs))
  (ho:w'.ownsRow B e2 1 v' (m.length+1) (vs ++ [u])) (hg:w.grownBy w' v.ownBlock):Rws B e2 e1 w' v' (m ++ [zs]):=by
 refine ⟨vs ++ [u],by simp [h1],by simpa using ho,fun i hi=>?_⟩
 by_cases hlt:i < m.length
 ·have e1':(vs ++ [u]).getD i (.slice none 0 0)=vs.getD i (.slice none 0 0):=by
   simp only [List.getD_eq_getElem?_getD]; rw [List.getElem?_append_left (by omega)]
  have e2':(m ++ [zs]).getD i []=m.getD i []:=by
   simp only [List.getD_eq_getElem?_getD]; rw [List.getElem?_append_left (by omega)]
  rw [e1',e2']
  exact (h3 i hlt).grown hg (owns_typed h2 hne)
 ·have hi':i=m.length:=by simp at hi; omega
  subst hi'
  have e1':(vs ++ [u]).getD m.length (.slice none 0 0)=u:=by
   rw [←h1]; simp
  have e2':(m ++ [zs]).getD m.length []=zs:=by simp
  rw [e1',e2']
  exact hu.grown hg (owns_typed h2 hne)
theorem ints_snoc (l:List Int) (z:Int):ints l ++ [.int .i64 z]=ints (l ++ [z]):=by simp [ints]
theorem owns_push {M N:Nat} {e:TypeId} {w0 w w1:World} {v v':Value} {l:List Int} {z:Int} {o:Obj} (hN:M≤w.heap.size) (h:w.ownsRow M e 1 v l.length (ints l)) (hb:Below M w0 w)
  (ho:w1.ownsRow M e 1 v' (l.length+1) (ints l ++ [.int .i64 z])) (hg:(w.alloc o).grownBy w1 v.ownBlock) (hNN:N=l.length+1) :
  w1.ownsRow M e 1 v' N (ints (l ++ [z]))∧Below M w0 w1:=by
 subst hNN
 refine ⟨by rw [ints_snoc] at ho; exact ho,?_⟩
 refine (hb.alloc hN o).grown hg (by simp; omega) (fun k hk=>?_)
 exact (h.lt k hk).1
theorem owns_form {B:Nat} {e:TypeId} {w:World} {v:Value} {n:Nat} {xs:List Value} (h:w.ownsRow B e 1 v n xs):∃vo vc,v=.slice vo n vc:=by
 rcases h.2 with ⟨h1,h0⟩ | ⟨g,cap,cur,hv,_⟩
 ·exact ⟨_,_,by rw [h1,h0]⟩
 ·exact ⟨_,_,hv⟩
theorem one_new (w:World) (x:Value) (t:TypeId):∀j u,[x][j]?=some u→(w.alloc (.cells #[x] t)).cell? ((⟨w.heap.size,0,none⟩:Addr).add j)=some u:=by
 intro j u hj
 match j,hj with
 | 0,hj=>simp at hj; subst hj; simp [Addr.add]
theorem one_int (z:Int):∀u∈[Value.int .i64 z],u.oneCell'=true:=by
 intro u hu; simp at hu; subst hu; rfl
theorem one_slice (a:Option Addr) (n c:Nat):∀u∈[Value.slice a n c],u.oneCell'=true:=by
 intro u hu; simp at hu; subst hu; rfl
end Go.Proofs.YtadpjlpdfimaeaaGreatDoor

namespace Go.Proofs.YtadpjlpdfimaeaaGreatDoor
open Go.RowKit
def farB (v most:Int):Bool:=decide (most < v) || decide (v < -most)
theorem ret_bool {a b:Bool} (h:a=b):Ending.returned (.bool a)=.returned (.bool b):=by rw [h]
theorem take_snoc_int (l:List Int) (k:Nat) (h:k < l.length):l.take (k+1)=l.take k ++ [l.getD k 0]:=by
 rw [List.take_succ_eq_append_getElem h]; simp [h]
theorem sl_cell {B:Nat} {w:World} {v:Value} {zs:List Int} (h:Sl B 3 w v (ints zs)) {k:Nat} (hk:k < zs.length) :
  ∃b o cap,v=.slice (some ⟨b,o,none⟩) zs.length cap∧zs.length≤cap∧w.cell? ⟨b,o+k,none⟩=some (.int .i64 (zs.getD k 0)):=by
 obtain ⟨b,o,cap,hv,h1,_,h3⟩:=h.at (by simp; omega)
 simp only [ints_length] at hv h1 h3
 exact ⟨b,o,cap,hv,h1,by rw [h3 k hk,ints_get zs k hk]⟩
theorem any_snoc {p:Int→Bool} {l:List Int} {k:Nat} (h:k < l.length) (h0:(l.take k).any p=false):(l.take (k+1)).any p=p l[k]:=by
 rw [List.take_succ_eq_append_getElem h,List.any_append,h0]; simp
theorem any_hit {p:Int→Bool} {l:List Int} {k:Nat} (h:k < l.length) (h0:p l[k]=true):l.any p=true:=
 List.any_eq_true.2 ⟨l[k],List.getElem_mem h,h0⟩
theorem eq_of_all {x y:List Int} (hl:x.length=y.length) (h:∀i,i < x.length→x.getD i 0=y.getD i 0):x=y:=by
 apply List.ext_getElem hl
 intro i h1 h2
 have:=h i h1
 simpa [h1,h2] using this
theorem mat_cell {B:Nat} {w:World} {v:Value} {m:List (List Int)} (h:Mat B 22 3 w v m) {k:Nat} (hk:k < m.length) :
  ∃b o cap u,v=.slice (some ⟨b,o,none⟩) m.length cap∧m.length≤cap∧w.cell? ⟨b,o+k,none⟩=some u∧Sl B 3 w u (ints (m.getD k [])):=by
 obtain ⟨vs,h1,h2,h3⟩:=h
 obtain ⟨b,o,cap,hv,hc,_,h4⟩:=h2.at (by omega)
 rw [h1] at hv hc
 refine ⟨b,o,cap,vs.getD k (.slice none 0 0),hv,hc,?_,h3 k hk⟩
 rw [h4 k (by omega)]
 simp [show k < vs.length by omega]
theorem mat_open {B:Nat} {w:World} {v:Value} {m:List (List Int)} (h:Mat B 22 3 w v m):∃ao cap,v=.slice ao m.length cap∧m.length≤cap∧cap≤9223372036854775807:=by
 obtain ⟨vs,h1,⟨ao,cap,rfl,h2,h3,_⟩,_⟩:=h
 refine ⟨ao,cap,by rw [h1],by omega,?_⟩
 unfold maxLen at h3; omega
theorem sl_open {B:Nat} {e:TypeId} {w:World} {v:Value} {x:List Int} (h:Sl B e w v (ints x)):∃ao cap,v=.slice ao x.length cap∧x.length≤cap∧cap≤9223372036854775807:=by
 obtain ⟨ao,cap,rfl,h2,h3,_⟩:=h
 refine ⟨ao,cap,by simp,by simpa using h2,?_⟩
 unfold maxLen at h3; omega
theorem Mat.drewN {B:Nat} {e2 e1:TypeId} {w:World} {v:Value} {m:List (List Int)} (h:Mat B e2 e1 w v m) (n:Nat):Mat B e2 e1 (w.drewN n) v m:=h
theorem Sl.drewN {B:Nat} {e:TypeId} {w:World} {v:Value} {m:List Value} (h:Sl B e w v m) (n:Nat):Sl B e (w.drewN n) v m:=h
end Go.Proofs.YtadpjlpdfimaeaaGreatDoor

namespace Go.Proofs.YtadpjlpdfimaeaaGreatDoor
def pw (t:Int):Nat→List Int
 | 0=>[]
 | d+1=>pw t d ++ [t ^ (d+1)]
@[simp] theorem pw_length (t:Int) (d:Nat):(pw t d).length=d:=by
 induction d with
 | zero=>rfl
 | succ d ih=>simp [pw,ih]
def cpts (n d:Nat):Nat→List (List Int)
 | 0=>[]
 | k+1=>cpts n d k ++ [pw ((k:Int)-(n:Int) / 2) d]
@[simp] theorem cpts_length (n d k:Nat):(cpts n d k).length=k:=by
 induction k with
 | zero=>rfl
 | succ k ih=>simp [cpts,ih]
end Go.Proofs.YtadpjlpdfimaeaaGreatDoor
namespace Go.Proofs.YtadpjlpdfimaeaaGreatDoor
open Go.RowKit
theorem Tryz.info3:(Tryz.prog.info? 3).map (fun i=>(i.zero,i.size,i.bytes))=some (some (.int .i64 0),1,8):=by kernel_rfl
theorem Tryz.info22:(Tryz.prog.info? 22).map (fun i=>(i.zero,i.size,i.bytes))=some (some (.slice none 0 0),1,24):=by kernel_rfl
theorem Sl.row {B b:Nat} {e:TypeId} {w:World} {n:Nat} {f:Nat→Value} {xs:List Value} (h:w.rowIs b e n f) (hn:xs.length=n) (hm:n≤maxLen) (hx:∀i,i < n→xs[i]?=some (f i)) :
  Sl B e w (.slice (some ⟨b,0,none⟩) n n) xs:=by
 refine ⟨_,n,by rw [hn],by omega,hm,fun i hi=>⟨b,0,rfl,?_,?_⟩,fun h=>by cases h⟩
 ·rw [hx i (by omega),Nat.zero_add]; exact h.cell (by omega)
 ·obtain ⟨c,hb,_,_⟩:=h; exact Or.inr ⟨c,hb⟩
def findI (p:Int→Bool) (zs:List Int):Int:=if zs.any p then (zs.findIdx p:Int) else -1
theorem ret_int {k:IntKind} {a b:Int} (h:a=b):Ending.returned (.int k a)=.returned (.int k b):=by rw [h]
theorem findI_hit {p:Int→Bool} {l:List Int} {k:Nat} (h:k < l.length) (h0:(l.take k).any p=false) (h1:p l[k]=true):findI p l=k:=by
 have ha:l.any p=true:=any_hit h h1
 have hi:l.findIdx p=k:=by
  rw [List.findIdx_eq h]
  refine ⟨h1,fun j hj=>?_⟩
  have:=List.any_eq_false.1 h0 l[j] (by rw [List.mem_take_iff_getElem]; exact ⟨j,by omega,rfl⟩)
  simpa using this
 simp [findI,ha,hi]
theorem findI_none {p:Int→Bool} {l:List Int} (h0:l.any p=false):findI p l=-1:=by
 unfold findI; rw [h0]; rfl
theorem findI_ge {p:Int→Bool} {l:List Int} : decide (0≤findI p l)=l.any p:=by
 cases h:l.any p
 ·rw [findI_none h]; rfl
 ·unfold findI; rw [h]; simp
end Go.Proofs.YtadpjlpdfimaeaaGreatDoor
