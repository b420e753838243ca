import Derived.WalkKit
import Derived.WalkSpells
import Derived.Test.YtdanomklbiidaaaGreatDoorRows
import Derived.Deep.QuietTactic
import Derived.BigQuiet
import Derived.WalkLawsBesides
import Derived.Deep.OwnRows
import Derived.Laws.ResultCell
namespace Go.Proofs.YtdanomklbiidaaaGreatDoor
open Go.RowKit
def Sl (B:Nat) (e:TypeId) (w:World) (v:Value) (xs:List Value):Prop:=
 ∃ao cap,v=.slice ao xs.length cap∧xs.length≤cap∧cap≤maxLen∧
  (∀i,i < xs.length→∃b o,ao=some ⟨b,o,none⟩∧w.cell? ⟨b,o+i,none⟩=xs[i]?∧(b < B∨∃cur,w.heap[b]?=some (.cells cur e (0,0))))∧(ao=none→cap=0)
def ints (zs:List Int):List Value:=zs.map (Value.int .i64)
@[simp] theorem ints_length (zs:List Int):(ints zs).length=zs.length:=by simp [ints]
theorem ints_get (zs:List Int) (i:Nat) (h:i < zs.length):(ints zs)[i]?=some (.int .i64 (zs.getD i 0)):=by
 simp [ints,h]
theorem lt_of_cell {w:World} {b o:Nat} {v:Value} (h:w.cell? ⟨b,o,none⟩=some v):b < w.heap.size:=
 World.block_lt_of_cell? w ⟨b,o,none⟩ h
theorem Sl.move {B B':Nat} {e:TypeId} {w w':World} {v:Value} {xs:List Value} (h:Sl B e w v xs)
  (hk:∀b,b < w.heap.size→(b < B∨∃cur,w.heap[b]?=some (.cells cur e (0,0)))→w'.heap[b]?=w.heap[b]?∧(b < B'∨∃cur,w.heap[b]?=some (.cells cur e (0,0)))):Sl B' e w' v xs:=by
 obtain ⟨ao,cap,rfl,h1,h2,h3,h4⟩:=h
 refine ⟨ao,cap,rfl,h1,h2,fun i hi=>?_,h4⟩
 obtain ⟨b,o,ha,hc,ht⟩:=h3 i hi
 have hx:xs[i]?=some xs[i]:=List.getElem?_eq_getElem hi
 have hb:=lt_of_cell (hc.trans hx)
 obtain ⟨k1,k2⟩:=hk b hb ht
 refine ⟨b,o,ha,(World.cell?_of_block (w:=w) (a:=⟨b,o+i,none⟩) k1).trans hc,?_⟩
 rcases k2 with k2 | ⟨cur,k2⟩
 ·exact Or.inl k2
 ·exact Or.inr ⟨cur,k1.trans k2⟩
theorem Sl.below {B N:Nat} {e:TypeId} {w w':World} {v:Value} {xs:List Value} (h:Sl B e w v xs) (hb:Below N w w') (hN:w.heap.size≤N):Sl B e w' v xs:=
 h.move fun b hl ht=>⟨hb.block b (by omega),ht⟩
theorem Sl.any {B B':Nat} {e:TypeId} {w:World} {v:Value} {xs:List Value} (h:Sl B e w v xs) (hB:w.heap.size≤B'):Sl B' e w v xs:=
 h.move fun b hl _=>⟨rfl,Or.inl (by omega)⟩
theorem Sl.more {B B':Nat} {e:TypeId} {w:World} {v:Value} {xs:List Value} (h:Sl B e w v xs) (hB:B≤B'):Sl B' e w v xs:=
 h.move fun b hl ht=>⟨rfl,ht.imp_left (fun _=>by omega)⟩
theorem Sl.drew {B:Nat} {e:TypeId} {w:World} {v:Value} {xs:List Value} (h:Sl B e w v xs):Sl B e w.drew v xs:=h
theorem Sl.alloc {B:Nat} {e:TypeId} {w:World} {v:Value} {xs:List Value} (h:Sl B e w v xs) (o:Obj):Sl B e (w.alloc o) v xs:=
 h.move fun b hl ht=>⟨Below.heap_alloc w o b hl,ht⟩
theorem Sl.grown {B:Nat} {e:TypeId} {w w':World} {row:Option Nat} {v:Value} {xs:List Value} (h:Sl B e w v xs) (hg:w.grownBy w' row)
  (hr:∀k,row=some k→B≤k∧∀cur,w.heap[k]?≠some (.cells cur e (0,0))):Sl B e w' v xs:=
 h.move fun b hl ht=>⟨hg.block b hl (fun e1=>by
  obtain ⟨q1,q2⟩:=hr b e1.symm
  rcases ht with ht | ⟨cur,ht⟩
  ·omega
  ·exact q2 cur ht),ht⟩
theorem Sl.setCell {B:Nat} {e:TypeId} {w:World} {v:Value} {xs:List Value} (h:Sl B e w v xs) {a:Addr} (u:Value)
  (hr:B≤a.block∧∀cur,w.heap[a.block]?≠some (.cells cur e (0,0))):Sl B e (w.setCell a u) v xs:=
 h.move fun b hl ht=>⟨Below.heap_setCell w a u b (fun e1=>by
  obtain ⟨q1,q2⟩:=hr
  rcases ht with ht | ⟨cur,ht⟩
  ·omega
  ·exact q2 cur (e1 ▸ ht)),ht⟩
theorem Sl.own {B base:Nat} {e:TypeId} {w:World} {v:Value} {n:Nat} {xs:List Value} (h:w.ownsRow base e 1 v n xs):Sl B e w v xs:=by
 obtain ⟨h1,h2⟩:=h
 rcases h2 with ⟨rfl,rfl⟩ | ⟨g,cap,cur,rfl,hg,hh,hn,hc,hs,ht⟩
 ·have:xs=[]:=List.eq_nil_of_length_eq_zero (by simpa using h1)
  subst this
  exact ⟨none,0,rfl,by simp,by simp [maxLen],fun i hi=>absurd hi (by simp),fun _=>rfl⟩
 ·have hl:xs.length=n:=by simpa using h1
  refine ⟨some ⟨g,0,none⟩,cap,by rw [hl],by omega,hc,fun i hi=>⟨g,0,rfl,?_,Or.inr ⟨cur,hh⟩⟩,fun h=>by cases h⟩
  subst ht
  simp [World.cell?,hh,List.getElem?_take]
  simp at hi
  omega
theorem Sl.nil (B:Nat) (e:TypeId) (w:World):Sl B e w (.slice none 0 0) []:=
 ⟨none,0,rfl,by simp,by simp [maxLen],fun i hi=>absurd hi (by simp),fun _=>rfl⟩
theorem Sl.at {B:Nat} {e:TypeId} {w:World} {v:Value} {xs:List Value} (h:Sl B e w v xs) (hp:0 < xs.length) :
  ∃b o cap,v=.slice (some ⟨b,o,none⟩) xs.length cap∧xs.length≤cap∧cap≤maxLen∧∀i,i < xs.length→w.cell? ⟨b,o+i,none⟩=xs[i]?:=by
 obtain ⟨ao,cap,rfl,h1,h2,h3,_⟩:=h
 obtain ⟨b,o,rfl,_,_⟩:=h3 0 hp
 refine ⟨b,o,cap,rfl,h1,h2,fun i hi=>?_⟩
 obtain ⟨b',o',he,hc,_⟩:=h3 i hi
 simp only [Option.some.injEq,Addr.mk.injEq] at he
 obtain ⟨rfl,rfl,_⟩:=he
 exact hc
def Mat (B:Nat) (e2 e1:TypeId) (w:World) (v:Value) (m:List (List Int)):Prop:=
 ∃vs,vs.length=m.length∧Sl B e2 w v vs∧∀i,i < m.length→Sl B e1 w (vs.getD i (.slice none 0 0)) (ints (m.getD i []))
theorem Mat.below {B N:Nat} {e2 e1:TypeId} {w w':World} {v:Value} {m:List (List Int)} (h:Mat B e2 e1 w v m) (hb:Below N w w') (hN:w.heap.size≤N):Mat B e2 e1 w' v m:=by
 obtain ⟨vs,h1,h2,h3⟩:=h
 exact ⟨vs,h1,h2.below hb hN,fun i hi=>(h3 i hi).below hb hN⟩
theorem Mat.any {B B':Nat} {e2 e1:TypeId} {w:World} {v:Value} {m:List (List Int)} (h:Mat B e2 e1 w v m) (hB:w.heap.size≤B'):Mat B' e2 e1 w v m:=by
 obtain ⟨vs,h1,h2,h3⟩:=h
 exact ⟨vs,h1,h2.any hB,fun i hi=>(h3 i hi).any hB⟩
theorem Mat.more {B B':Nat} {e2 e1:TypeId} {w:World} {v:Value} {m:List (List Int)} (h:Mat B e2 e1 w v m) (hB:B≤B'):Mat B' e2 e1 w v m:=by
 obtain ⟨vs,h1,h2,h3⟩:=h
 exact ⟨vs,h1,h2.more hB,fun i hi=>(h3 i hi).more hB⟩
def Rws (B:Nat) (e2 e1:TypeId) (w:World) (v:Value) (m:List (List Int)):Prop:=
 ∃vs,vs.length=m.length∧w.ownsRow B e2 1 v m.length vs∧∀i,i < m.length→Sl B e1 w (vs.getD i (.slice none 0 0)) (ints (m.getD i []))
theorem Rws.mat {B B':Nat} {e2 e1:TypeId} {w:World} {v:Value} {m:List (List Int)} (h:Rws B e2 e1 w v m) (hB:B≤B'):Mat B' e2 e1 w v m:=by
 obtain ⟨vs,h1,h2,h3⟩:=h
 exact ⟨vs,h1,Sl.own h2,fun i hi=>(h3 i hi).more hB⟩
theorem Rws.nil (B:Nat) (e2 e1:TypeId) (w:World):Rws B e2 e1 w (.slice none 0 0) []:=
 ⟨[],rfl,World.ownsRow_nil _ _ _ _,fun i hi=>absurd hi (by simp)⟩
theorem owns_below {B N:Nat} {e:TypeId} {w w':World} {v:Value} {n:Nat} {xs:List Value} (h:w.ownsRow B e 1 v n xs) (hb:Below N w w') (hN:w.heap.size≤N):w'.ownsRow B e 1 v n xs:=
 h.kept (row:=none) ⟨hb.os,hb.tape,hb.output,hb.size,fun k hk _=>hb.block k (by omega)⟩ (by
  cases hv:v.ownBlock <;> simp)
theorem Rws.below {B N:Nat} {e2 e1:TypeId} {w w':World} {v:Value} {m:List (List Int)} (h:Rws B e2 e1 w v m) (hb:Below N w w') (hN:w.heap.size≤N):Rws B e2 e1 w' v m:=by
 obtain ⟨vs,h1,h2,h3⟩:=h
 exact ⟨vs,h1,owns_below h2 hb hN,fun i hi=>(h3 i hi).below hb hN⟩
theorem owns_typed {B:Nat} {e e1:TypeId} {w:World} {v:Value} {n:Nat} {xs:List Value} (h:w.ownsRow B e 1 v n xs) (hne:e≠e1) :
  ∀k,v.ownBlock=some k→B≤k∧∀cur,w.heap[k]?≠some (.cells cur e1 (0,0)):=by
 intro k hk
 obtain ⟨_,h2⟩:=h
 rcases h2 with ⟨rfl,rfl⟩ | ⟨g,cap,cur,rfl,hg,hh,_⟩
 ·simp [Value.ownBlock] at hk
 ·simp [Value.ownBlock] at hk
  subst hk
  refine ⟨hg,fun cur'=>?_⟩
  rw [hh]
  simp
  intro _ h
  exact absurd h hne
theorem Rws.push {B:Nat} {e2 e1:TypeId} {w w':World} {v v' u:Value} {m:List (List Int)} {vs:List Value} {zs:List Int} (hne:e2≠e1)
  (h1:vs.length=m.length) (h2:w.ownsRow B e2 1 v m.length vs) (h3:∀i,i < m.length→Sl B e1 w (vs.getD i (.slice none 0 0)) (ints (m.getD i []))) (hu:Sl B e1 w u (ints zs))
  (ho:w'.ownsRow B e2 1 v' (m.length+1) (vs ++ [u])) (hg:w.grownBy w' v.ownBlock):Rws B e2 e1 w' v' (m ++ [zs]):=by
 refine ⟨vs ++ [u],by simp [h1],by simpa using ho,fun i hi=>?_⟩
 by_cases hlt:i < m.length
 ·have e1':(vs ++ [u]).getD i (.slice none 0 0)=vs.getD i (.slice none 0 0):=by
   simp only [List.getD_eq_getElem?_getD]; rw [List.getElem?_append_left (by omega)]
  have e2':(m ++ [zs]).getD i []=m.getD i []:=by
   simp only [List.getD_eq_getElem?_getD]; rw [List.getElem?_append_left (by omega)]
  rw [e1',e2']
  exact (h3 i hlt).grown hg (owns_typed h2 hne)
 ·have hi':i=m.length:=by simp at hi; omega
  subst hi'
  have e1':(vs ++ [u]).getD m.length (.slice none 0 0)=u:=by
   rw [←h1]; simp
  have e2':(m ++ [zs]).getD m.length []=zs:=by simp
  rw [e1',e2']
  exact hu.grown hg (owns_typed h2 hne)
theorem ints_snoc (l:List Int) (z:Int):ints l ++ [.int .i64 z]=ints (l ++ [z]):=by simp [ints]
theorem owns_push {M N:Nat} {e:TypeId} {w0 w w1:World} {v v':Value} {l:List Int} {z:Int} {o:Obj} (hN:M≤w.heap.size) (h:w.ownsRow M e 1 v l.length (ints l)) (hb:Below M w0 w)
  (ho:w1.ownsRow M e 1 v' (l.length+1) (ints l ++ [.int .i64 z])) (hg:(w.alloc o).grownBy w1 v.ownBlock) (hNN:N=l.length+1) :
  w1.ownsRow M e 1 v' N (ints (l ++ [z]))∧Below M w0 w1:=by
 subst hNN
 refine ⟨by rw [ints_snoc] at ho; exact ho,?_⟩
 refine (hb.alloc hN o).grown hg (by simp; omega) (fun k hk=>?_)
 exact (h.lt k hk).1
theorem owns_form {B:Nat} {e:TypeId} {w:World} {v:Value} {n:Nat} {xs:List Value} (h:w.ownsRow B e 1 v n xs):∃vo vc,v=.slice vo n vc:=by
 rcases h.2 with ⟨h1,h0⟩ | ⟨g,cap,cur,hv,_⟩
 ·exact ⟨_,_,by rw [h1,h0]⟩
 ·exact ⟨_,_,hv⟩
theorem one_new (w:World) (x:Value) (t:TypeId):∀j u,[x][j]?=some u→(w.alloc (.cells #[x] t)).cell? ((⟨w.heap.size,0,none⟩:Addr).add j)=some u:=by
 intro j u hj
 match j,hj with
 | 0,hj=>simp at hj; subst hj; simp [Addr.add]
theorem one_int (z:Int):∀u∈[Value.int .i64 z],u.oneCell'=true:=by
 intro u hu; simp at hu; subst hu; rfl
theorem one_slice (a:Option Addr) (n c:Nat):∀u∈[Value.slice a n c],u.oneCell'=true:=by
 intro u hu; simp at hu; subst hu; rfl
end Go.Proofs.YtdanomklbiidaaaGreatDoor

namespace Go.Proofs.YtdanomklbiidaaaGreatDoor
open Go.RowKit
def farB (v most:Int):Bool:=decide (most < v) || decide (v < -most)
theorem ret_bool {a b:Bool} (h:a=b):Ending.returned (.bool a)=.returned (.bool b):=by rw [h]
theorem take_snoc_int (l:List Int) (k:Nat) (h:k < l.length):l.take (k+1)=l.take k ++ [l.getD k 0]:=by
 rw [List.take_succ_eq_append_getElem h]; simp [h]
theorem sl_cell {B:Nat} {w:World} {v:Value} {zs:List Int} (h:Sl B 3 w v (ints zs)) {k:Nat} (hk:k < zs.length) :
  ∃b o cap,v=.slice (some ⟨b,o,none⟩) zs.length cap∧zs.length≤cap∧w.cell? ⟨b,o+k,none⟩=some (.int .i64 (zs.getD k 0)):=by
 obtain ⟨b,o,cap,hv,h1,_,h3⟩:=h.at (by simp; omega)
 simp only [ints_length] at hv h1 h3
 exact ⟨b,o,cap,hv,h1,by rw [h3 k hk,ints_get zs k hk]⟩
theorem any_snoc {p:Int→Bool} {l:List Int} {k:Nat} (h:k < l.length) (h0:(l.take k).any p=false):(l.take (k+1)).any p=p l[k]:=by
 rw [List.take_succ_eq_append_getElem h,List.any_append,h0]; simp
theorem any_hit {p:Int→Bool} {l:List Int} {k:Nat} (h:k < l.length) (h0:p l[k]=true):l.any p=true:=
 List.any_eq_true.2 ⟨l[k],List.getElem_mem h,h0⟩
theorem eq_of_all {x y:List Int} (hl:x.length=y.length) (h:∀i,i < x.length→x.getD i 0=y.getD i 0):x=y:=by
 apply List.ext_getElem hl
 intro i h1 h2
 have:=h i h1
 simpa [h1,h2] using this
set_option maxHeartbeats 400000 in
theorem same_any (B:Nat) (x y:List Int) (u v:Value) (w:World) (hu:Sl B 3 w u (ints x)) (hv:Sl B 3 w v (ints y)) :
  Calls Tryz.prog 11 #[u,v] w fun e w'=>e=.returned (.bool (x == y))∧∃n,w'=w.drewN n:=by
 have hu':=hu
 have hv':=hv
 obtain ⟨ao,cap,hvv,hlc,hcm,-⟩:=hu'
 obtain ⟨bo,cbp,huu,hlb,hcb,-⟩:=hv'
 simp only [ints_length] at hlc hvv hlb huu
 subst hvv huu
 have HU:Hid (Sl B 3 w (.slice ao x.length cap) (ints x)):=hu
 have HV:Hid (Sl B 3 w (.slice bo y.length cbp) (ints y)):=hv
 clear hu hv
 unfold maxLen at hcm hcb
 by_cases hl:x.length=y.length
 ·have hbe:((x.length:Int) != (y.length:Int))=false:=by simp [hl]
  have HL:Hid (x.length=y.length):=hl
  have hle:y.length≤x.length:=by omega
  have hge:x.length≤y.length:=by omega
  clear hl
  go_enter Tryz.func11,Tryz.ntmps11
  go_wp2
  go_loopw [5] (fun i wr=>∃k:Nat,k≤x.length∧i=.int .i64 k∧(∀j,j < k→x.getD j 0=y.getD j 0)∧∃n,wr=w.drewN n) (fun i _=>x.length-(intOf i).toNat)
  case atStart=>exact ⟨0,Nat.zero_le _,rfl,fun j hj=>absurd hj (by omega),0,rfl⟩
  case round=>
   obtain ⟨k,hk,rfl,hno,n,rfl⟩:=hrel
   have HN:Hid (∀j,j < k→x.getD j 0=y.getD j 0):=hno
   clear hno
   by_cases hlt:k < x.length
   ·have hlt2:k < y.length:=by omega
    obtain ⟨b,o,cp,hs,hc1,hcc⟩:=sl_cell HU.out hlt
    simp only [Value.slice.injEq] at hs
    obtain ⟨rfl,_,rfl⟩:=hs
    obtain ⟨b2,o2,cp2,hs2,hc2,hcc2⟩:=sl_cell HV.out hlt2
    simp only [Value.slice.injEq] at hs2
    obtain ⟨rfl,_,rfl⟩:=hs2
    go_wp2
    go_quiet (fail)
    go_wp2
    ·have hf:(x[k] != y[k])=true:=by assumption
     go_ret
     refine ⟨ret_bool (Eq.symm ?_),n+nq,by rw [World.drewN_drewN]⟩
     rw [beq_eq_false_iff_ne]
     rintro rfl
     simp at hf
    ·have hf:(x[k] != y[k])=false:=by assumption
     go_roundw
     case rel=>
      refine ⟨k+1,by omega,by go_num,fun j hj=>?_,_,rfl⟩
      by_cases hjk:j < k
      ·exact HN.out j hjk
      ·have:j=k:=by omega
       subst this
       simpa [hlt,hlt2] using hf
     case measure=>simp [intOf]; omega
   ·go_wp2
    go_ret
    refine ⟨ret_bool (Eq.symm ?_),_,rfl⟩
    rw [beq_iff_eq]
    exact eq_of_all HL.out fun i hi=>HN.out i (by omega)
 ·have hbe:((x.length:Int) != (y.length:Int))=true:=by simp; omega
  go_enter Tryz.func11,Tryz.ntmps11
  go_wp2
  go_ret
  refine ⟨ret_bool (Eq.symm ?_),0,rfl⟩
  rw [beq_eq_false_iff_ne]
  rintro rfl
  exact hl rfl
theorem mat_cell {B:Nat} {w:World} {v:Value} {m:List (List Int)} (h:Mat B 22 3 w v m) {k:Nat} (hk:k < m.length) :
  ∃b o cap u,v=.slice (some ⟨b,o,none⟩) m.length cap∧m.length≤cap∧w.cell? ⟨b,o+k,none⟩=some u∧Sl B 3 w u (ints (m.getD k [])):=by
 obtain ⟨vs,h1,h2,h3⟩:=h
 obtain ⟨b,o,cap,hv,hc,_,h4⟩:=h2.at (by omega)
 rw [h1] at hv hc
 refine ⟨b,o,cap,vs.getD k (.slice none 0 0),hv,hc,?_,h3 k hk⟩
 rw [h4 k (by omega)]
 simp [show k < vs.length by omega]
theorem mat_open {B:Nat} {w:World} {v:Value} {m:List (List Int)} (h:Mat B 22 3 w v m):∃ao cap,v=.slice ao m.length cap∧m.length≤cap∧cap≤9223372036854775807:=by
 obtain ⟨vs,h1,⟨ao,cap,rfl,h2,h3,_⟩,_⟩:=h
 refine ⟨ao,cap,by rw [h1],by omega,?_⟩
 unfold maxLen at h3; omega
theorem sl_open {B:Nat} {e:TypeId} {w:World} {v:Value} {x:List Int} (h:Sl B e w v (ints x)):∃ao cap,v=.slice ao x.length cap∧x.length≤cap∧cap≤9223372036854775807:=by
 obtain ⟨ao,cap,rfl,h2,h3,_⟩:=h
 refine ⟨ao,cap,by simp,by simpa using h2,?_⟩
 unfold maxLen at h3; omega
theorem Mat.drewN {B:Nat} {e2 e1:TypeId} {w:World} {v:Value} {m:List (List Int)} (h:Mat B e2 e1 w v m) (n:Nat):Mat B e2 e1 (w.drewN n) v m:=h
theorem Sl.drewN {B:Nat} {e:TypeId} {w:World} {v:Value} {m:List Value} (h:Sl B e w v m) (n:Nat):Sl B e (w.drewN n) v m:=h
end Go.Proofs.YtdanomklbiidaaaGreatDoor

namespace Go.Proofs.YtdanomklbiidaaaGreatDoor
def pw (t:Int):Nat→List Int
 | 0=>[]
 | d+1=>pw t d ++ [t ^ (d+1)]
@[simp] theorem pw_length (t:Int) (d:Nat):(pw t d).length=d:=by
 induction d with
 | zero=>rfl
 | succ d ih=>simp [pw,ih]
def cpts (n d:Nat):Nat→List (List Int)
 | 0=>[]
 | k+1=>cpts n d k ++ [pw ((k:Int)-(n:Int) / 2) d]
@[simp] theorem cpts_length (n d k:Nat):(cpts n d k).length=k:=by
 induction k with
 | zero=>rfl
 | succ k ih=>simp [cpts,ih]
end Go.Proofs.YtdanomklbiidaaaGreatDoor
namespace Go.Proofs.YtdanomklbiidaaaGreatDoor
open Go.RowKit
theorem Tryz.info3:(Tryz.prog.info? 3).map (fun i=>(i.zero,i.size,i.bytes))=some (some (.int .i64 0),1,8):=by kernel_rfl
theorem Tryz.info22:(Tryz.prog.info? 22).map (fun i=>(i.zero,i.size,i.bytes))=some (some (.slice none 0 0),1,24):=by kernel_rfl
theorem Sl.row {B b:Nat} {e:TypeId} {w:World} {n:Nat} {f:Nat→Value} {xs:List Value} (h:w.rowIs b e n f) (hn:xs.length=n) (hm:n≤maxLen) (hx:∀i,i < n→xs[i]?=some (f i)) :
  Sl B e w (.slice (some ⟨b,0,none⟩) n n) xs:=by
 refine ⟨_,n,by rw [hn],by omega,hm,fun i hi=>⟨b,0,rfl,?_,?_⟩,fun h=>by cases h⟩
 ·rw [hx i (by omega),Nat.zero_add]; exact h.cell (by omega)
 ·obtain ⟨c,hb,_,_⟩:=h; exact Or.inr ⟨c,hb⟩
set_option maxHeartbeats 400000 in
theorem beyond_any (x most:Int) (w:World) (a:Addr) (h0:0≤most) (h1:most≤1000000) (hc:w.cell? a=some (.int .i64 most)) :
  Calls Tryz.prog 28 #[.int .i64 x,.pointer (some a)] w fun e w'=>e=.returned (.bool (farB x most))∧w'=w:=by
 by_cases hb:most < x
 ·go_enter Tryz.func28,Tryz.ntmps28
  go_wp2
  go_ret
  exact ⟨ret_bool (by simp [farB,hb]),rfl⟩
 ·go_enter Tryz.func28,Tryz.ntmps28
  go_wp2
  go_ret
  exact ⟨ret_bool (by rw [farB,decide_eq_false (by omega:¬most < x)]; rfl),rfl⟩
def findI (p:Int→Bool) (zs:List Int):Int:=if zs.any p then (zs.findIdx p:Int) else -1
theorem ret_int {k:IntKind} {a b:Int} (h:a=b):Ending.returned (.int k a)=.returned (.int k b):=by rw [h]
theorem findI_hit {p:Int→Bool} {l:List Int} {k:Nat} (h:k < l.length) (h0:(l.take k).any p=false) (h1:p l[k]=true):findI p l=k:=by
 have ha:l.any p=true:=any_hit h h1
 have hi:l.findIdx p=k:=by
  rw [List.findIdx_eq h]
  refine ⟨h1,fun j hj=>?_⟩
  have:=List.any_eq_false.1 h0 l[j] (by rw [List.mem_take_iff_getElem]; exact ⟨j,by omega,rfl⟩)
  simpa using this
 simp [findI,ha,hi]
theorem findI_none {p:Int→Bool} {l:List Int} (h0:l.any p=false):findI p l=-1:=by
 unfold findI; rw [h0]; rfl
theorem findI_ge {p:Int→Bool} {l:List Int} : decide (0≤findI p l)=l.any p:=by
 cases h:l.any p
 ·rw [findI_none h]; rfl
 ·unfold findI; rw [h]; simp
set_option maxHeartbeats 400000 in
theorem index89_any (B:Nat) (zs:List Int) (v:Value) (most:Int) (a:Addr) (w:World) (hv:Sl B 3 w v (ints zs)) (h0:0≤most) (h1:most≤1000000) (hc:w.cell? a=some (.int .i64 most)) :
  Calls Tryz.prog 48 #[v,.func (.func 28) #[] #[.pointer (some a)]] w fun e w'=>e=.returned (.int .i64 (findI (farB · most) zs))∧w'=w:=by
 obtain ⟨ao,cap,hvv,hlc,hcm⟩:=sl_open hv
 subst hvv
 have HV:Hid (Sl B 3 w (.slice ao zs.length cap) (ints zs)):=hv
 clear hv
 go_enter Tryz.func48,Tryz.ntmps48
 go_wp2
 go_loop [8] (fun i=>∃k:Nat,k≤zs.length∧i=.int .i64 k∧(zs.take k).any (farB · most)=false) (fun i=>zs.length-(intOf i).toNat)
 case atStart=>exact ⟨0,Nat.zero_le _,rfl,by simp⟩
 case round=>
  obtain ⟨k,hk,rfl,hno⟩:=hrel
  have HN:Hid ((zs.take k).any (farB · most)=false):=hno
  clear hno
  by_cases hlt:k < zs.length
  ·obtain ⟨b,o,cp,hs,hc1,hcc⟩:=sl_cell HV.out hlt
   simp only [Value.slice.injEq] at hs
   obtain ⟨rfl,_,rfl⟩:=hs
   go_wp2_with (go_at_call 28; refine (beyond_any _ most _ a (by omega) (by omega) (by exact hc)).mono ?_; rintro e w' ⟨rfl,rfl⟩)
   ·have hf:farB zs[k] most=true:=by assumption
    go_ret
    exact ⟨ret_int (findI_hit (p:=(farB · most)) hlt HN.out hf).symm,rfl⟩
   ·have hf:farB zs[k] most=false:=by assumption
    go_round
    case rel=>exact ⟨k+1,by omega,by go_num,(any_snoc hlt HN.out).trans hf⟩
    case measure=>simp [intOf]; omega
  ·go_wp2
   go_ret
   have e:zs.take k=zs:=List.take_of_length_le (by omega)
   exact ⟨ret_int (findI_none (by rw [←HN.out,e])).symm,rfl⟩
set_option maxHeartbeats 400000 in
theorem contains89_any (B:Nat) (zs:List Int) (v:Value) (most:Int) (a:Addr) (w:World) (hv:Sl B 3 w v (ints zs)) (h0:0≤most) (h1:most≤1000000) (hc:w.cell? a=some (.int .i64 most)) :
  Calls Tryz.prog 27 #[v,.func (.func 28) #[] #[.pointer (some a)]] w fun e w'=>e=.returned (.bool (zs.any (farB · most)))∧w'=w:=by
 go_enter Tryz.func27,Tryz.ntmps27
 go_wp2_with fail
 refine (index89_any B zs v most a w hv h0 h1 hc).mono ?_
 rintro e w' ⟨rfl,rfl⟩
 go_wp2
 go_ret
 exact ⟨ret_bool findI_ge,rfl⟩
set_option maxHeartbeats 400000 in
theorem anyBeyond_any (B:Nat) (zs:List Int) (v:Value) (most:Int) (w:World) (hv:Sl B 3 w v (ints zs)) (h0:0≤most) (h1:most≤1000000) :
  Calls Tryz.prog 14 #[v,.int .i64 most] w fun e w'=>e=.returned (.bool (zs.any (farB · most)))∧Below w.heap.size w w':=by
 go_enter Tryz.func14,Tryz.ntmps14
 go_wp2_with fail
 refine (contains89_any B zs v most ⟨w.heap.size,0,none⟩ _ (hv.alloc _) h0 h1 (by simp)).mono ?_
 rintro e w' ⟨rfl,rfl⟩
 go_wp2
 go_ret
 exact ⟨rfl,(Below.refl _ _).alloc (Nat.le_refl _) _⟩
end Go.Proofs.YtdanomklbiidaaaGreatDoor
