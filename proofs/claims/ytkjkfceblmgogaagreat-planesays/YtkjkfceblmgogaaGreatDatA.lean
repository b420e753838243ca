import Derived.WalkSpells
import Derived.Test.YtkjkfceblmgogaaGreatRows
import Derived.BigQuiet
import Derived.WalkLawsBesides
set_option maxHeartbeats 400000
namespace Go.Proofs.YtkjkfceblmgogaaGreat
open Go.RowKit
theorem Za1{α:Type _}(l:List α)(i:Nat)(a:α):l.toArray.setIfInBounds i a=(l.set i a).toArray:=List.setIfInBounds_toArray l i a
theorem Za2{α:Type _}{l:List α}{i:Nat}{a:α}:l.getD i a=l[i]?.getD a:=List.getD_eq_getElem?_getD
theorem Za4(n:Nat):n≤n:=Nat.le_refl n
theorem Za5(n:Nat):0≤n:=Nat.zero_le n
theorem Za6{p:Prop}(h:¬p→False):p:=Classical.byContradiction h
theorem Za3(a:Option Addr)(b c:Nat)(d:Option Addr)(e f:Nat):(Value.slice a b c=Value.slice d e f)=(a=d∧b=e∧c=f):=Value.slice.injEq a b c d e f
theorem Za7{α:Type _}{l t:List α}{i:Nat}(h:i<l.length):(l++t)[i]?=l[i]?:=List.getElem?_append_left h
theorem Za8{α:Type _}{l t:List α}{i:Nat}(h:l.length≤i):(l++t)[i]?=t[i-l.length]?:=List.getElem?_append_right h
theorem Za9{α:Type _}{l:List α}{i:Nat}(h:i<l.length):l[i]?=some l[i]:=List.getElem?_eq_getElem h
theorem Zaa1{α:Type _}{i:Nat}{l:List α}(h:i<l.length):l.take (i+1)=l.take i++[l[i]]:=List.take_succ_eq_append_getElem h
theorem Zaa2{α:Type _}{i:Nat}{l:List α}(h:l.length≤i):l.take i=l:=List.take_of_length_le h
theorem Zaa3{α:Type _}{i:Nat}{b:α}{s:Array α}:s[i]?=some b↔∃h,s[i]=b:=Array.getElem?_eq_some_iff
theorem Zaa4{α:Type _}{a b:List α}:(a++b).length=a.length+b.length:=List.length_append
theorem Zaa5{α:Type _}{l:List α}{i j:Nat}(h:i<j):(l.take j)[i]?=l[i]?:=List.getElem?_take_of_lt h
theorem Zaa6{α:Type _}{l:List α}{i:Nat}(h:l.length≤i):l[i]?=none:=List.getElem?_eq_none h
theorem Zaa7{α:Type _}{i:Nat}{a:α}{l:List α}(h:a∈l.take i):a∈l:=List.mem_of_mem_take h
theorem Zaa8{n m k:Nat}(h:n≤m)(g:m≤k):n≤k:=Nat.le_trans h g
theorem Zaa9{α:Type _}(a b:α):(some a=some b)=(a=b):=Option.some.injEq a b
theorem Zab1{α:Type _}{β:Type _}{l:List α}(f:α→β):(l.map f).length=l.length:=List.length_map f
theorem hid{p:Prop}(h:p):Hid p:=h
def Sl(B:Nat)(e:TypeId)(w:World)(v:Value)(xs:List Value):Prop:=
 ∃ao cap,v=.slice ao xs.length cap∧xs.length≤cap∧cap≤maxLen∧
  (∀i,i < xs.length→∃b o,ao=some ⟨b,o,none⟩∧w.cell? ⟨b,o+i,none⟩=xs[i]?∧(b < B∨∃cur,w.heap[b]?=some (.cells cur e (0,0))))∧(ao=none→cap=0)
def ZAB(zs:List Int):List Value:=zs.map (Value.int .i64)
@[simp] theorem ZA2(zs:List Int):(ZAB zs).length=zs.length:=by simp [ZAB]
theorem ZAZ(zs:List Int)(i:Nat)(h:i < zs.length):(ZAB zs)[i]?=some (.int .i64 (zs.getD i 0)):=by
 simp [ZAB,h]
theorem ZAH{w:World}{b o:Nat}{v:Value}(h:w.cell? ⟨b,o,none⟩=some v):b < w.heap.size:=
 World.block_lt_of_cell? w ⟨b,o,none⟩ h
theorem Sl.move{B B':Nat}{e:TypeId}{w w':World}{v:Value}{xs:List Value}(h:Sl B e w v xs)
 (hk:∀b,b < w.heap.size→(b < B∨∃cur,w.heap[b]?=some (.cells cur e (0,0)))→w'.heap[b]?=w.heap[b]?∧(b < B'∨∃cur,w.heap[b]?=some (.cells cur e (0,0)))):Sl B' e w' v xs:=by
 obtain ⟨n,d,rfl,l,s,x,r⟩:=h
 refine ⟨n,d,rfl,l,s,fun i hi=>?_,r⟩
 obtain ⟨b,o,t,f,j⟩:=x i hi;have m:xs[i]?=some xs[i]:=List.getElem?_eq_getElem hi;have p:=ZAH (f.trans m);obtain ⟨g,c⟩:=hk b p j;refine ⟨b,o,t,(World.cell?_of_block (w:=w) (a:=⟨b,o+i,none⟩) g).trans f,?_⟩
 rcases c with c | ⟨cur,c⟩
 ·exact Or.inl c
 ·exact Or.inr ⟨cur,g.trans c⟩
theorem Sl.below{B N:Nat}{e:TypeId}{w w':World}{v:Value}{xs:List Value}(h:Sl B e w v xs)(hb:Below N w w')(hN:w.heap.size≤N):Sl B e w' v xs:=
 h.move fun b hl ht=>⟨hb.block b (by omega),ht⟩
theorem Sl.any{B B':Nat}{e:TypeId}{w:World}{v:Value}{xs:List Value}(h:Sl B e w v xs)(hB:w.heap.size≤B'):Sl B' e w v xs:=
 h.move fun b hl _=>⟨rfl,Or.inl (by omega)⟩
theorem Sl.more{B B':Nat}{e:TypeId}{w:World}{v:Value}{xs:List Value}(h:Sl B e w v xs)(hB:B≤B'):Sl B' e w v xs:=
 h.move fun b hl ht=>⟨rfl,ht.imp_left (fun _=>by omega)⟩
theorem Sl.drew{B:Nat}{e:TypeId}{w:World}{v:Value}{xs:List Value}(h:Sl B e w v xs):Sl B e w.drew v xs:=h
theorem Sl.alloc{B:Nat}{e:TypeId}{w:World}{v:Value}{xs:List Value}(h:Sl B e w v xs)(o:Obj):Sl B e (w.alloc o) v xs:=
 h.move fun b hl ht=>⟨Below.heap_alloc w o b hl,ht⟩
theorem Sl.grown{B:Nat}{e:TypeId}{w w':World}{row:Option Nat}{v:Value}{xs:List Value}(h:Sl B e w v xs)(hg:w.grownBy w' row)
 (hr:∀k,row=some k→B≤k∧∀cur,w.heap[k]?≠some (.cells cur e (0,0))):Sl B e w' v xs:=
 h.move fun b hl ht=>⟨hg.block b hl (fun e1=>by
  obtain ⟨c,a⟩:=hr b e1.symm
  rcases ht with ht | ⟨cur,ht⟩
  ·omega
  ·exact a cur ht),ht⟩
theorem Sl.setCell{B:Nat}{e:TypeId}{w:World}{v:Value}{xs:List Value}(h:Sl B e w v xs){a:Addr}(u:Value)
 (hr:B≤a.block∧∀cur,w.heap[a.block]?≠some (.cells cur e (0,0))):Sl B e (w.setCell a u) v xs:=
 h.move fun b hl ht=>⟨Below.heap_setCell w a u b (fun e1=>by
  obtain ⟨d,c⟩:=hr
  rcases ht with ht | ⟨cur,ht⟩
  ·omega
  ·exact c cur (e1 ▸ ht)),ht⟩
theorem Sl.own{B base:Nat}{e:TypeId}{w:World}{v:Value}{n:Nat}{xs:List Value}(h:w.ownsRow base e 1 v n xs):Sl B e w v xs:=by
 obtain ⟨a,b⟩:=h
 rcases b with ⟨rfl,rfl⟩ | ⟨g,cap,cur,rfl,hg,hh,hn,hc,hs,ht⟩
 ·have:xs=[]:=List.eq_nil_of_length_eq_zero (by simpa using a)
  subst this
  exact ⟨none,0,rfl,by simp,by simp [maxLen],fun i hi=>absurd hi (by simp),fun _=>rfl⟩
 ·have c:xs.length=n:=by simpa using a
  refine ⟨some ⟨g,0,none⟩,cap,by rw [c],by omega,hc,fun i hi=>⟨g,0,rfl,?_,Or.inr ⟨cur,hh⟩⟩,fun h=>by cases h⟩
  subst ht;simp [World.cell?,hh,List.getElem?_take];simp at hi;omega
theorem Sl.nil(B:Nat)(e:TypeId)(w:World):Sl B e w (.slice none 0 0) []:=
 ⟨none,0,rfl,by simp,by simp [maxLen],fun i hi=>absurd hi (by simp),fun _=>rfl⟩
theorem Sl.at{B:Nat}{e:TypeId}{w:World}{v:Value}{xs:List Value}(h:Sl B e w v xs)(hp:0 < xs.length) :
  ∃b o cap,v=.slice (some ⟨b,o,none⟩) xs.length cap∧xs.length≤cap∧cap≤maxLen∧∀i,i < xs.length→w.cell? ⟨b,o+i,none⟩=xs[i]?:=by
 obtain ⟨l,cap,rfl,d,g,c,_⟩:=h;obtain ⟨b,o,rfl,_,_⟩:=c 0 hp
 refine ⟨b,o,cap,rfl,d,g,fun i hi=>?_⟩
 obtain ⟨j,m,a,f,_⟩:=c i hi;simp only [Option.some.injEq,Addr.mk.injEq] at a;obtain ⟨rfl,rfl,_⟩:=a;exact f
def Mat(B:Nat)(e2 e1:TypeId)(w:World)(v:Value)(m:List (List Int)):Prop:=
 ∃vs,vs.length=m.length∧Sl B e2 w v vs∧∀i,i < m.length→Sl B e1 w (vs.getD i (.slice none 0 0)) (ZAB (m.getD i []))
theorem Mat.below{B N:Nat}{e2 e1:TypeId}{w w':World}{v:Value}{m:List (List Int)}(h:Mat B e2 e1 w v m)(hb:Below N w w')(hN:w.heap.size≤N):Mat B e2 e1 w' v m:=by
 obtain ⟨a,b,c,d⟩:=h
 exact ⟨a,b,c.below hb hN,fun i hi=>(d i hi).below hb hN⟩
theorem Mat.any{B B':Nat}{e2 e1:TypeId}{w:World}{v:Value}{m:List (List Int)}(h:Mat B e2 e1 w v m)(hB:w.heap.size≤B'):Mat B' e2 e1 w v m:=by
 obtain ⟨a,b,c,d⟩:=h
 exact ⟨a,b,c.any hB,fun i hi=>(d i hi).any hB⟩
theorem Mat.more{B B':Nat}{e2 e1:TypeId}{w:World}{v:Value}{m:List (List Int)}(h:Mat B e2 e1 w v m)(hB:B≤B'):Mat B' e2 e1 w v m:=by
 obtain ⟨a,b,c,d⟩:=h
 exact ⟨a,b,c.more hB,fun i hi=>(d i hi).more hB⟩
def Rws(B:Nat)(e2 e1:TypeId)(w:World)(v:Value)(m:List (List Int)):Prop:=
 ∃vs,vs.length=m.length∧w.ownsRow B e2 1 v m.length vs∧∀i,i < m.length→Sl B e1 w (vs.getD i (.slice none 0 0)) (ZAB (m.getD i []))
theorem Rws.mat{B B':Nat}{e2 e1:TypeId}{w:World}{v:Value}{m:List (List Int)}(h:Rws B e2 e1 w v m)(hB:B≤B'):Mat B' e2 e1 w v m:=by
 obtain ⟨a,b,c,d⟩:=h
 exact ⟨a,b,Sl.own c,fun i hi=>(d i hi).more hB⟩
theorem Rws.nil(B:Nat)(e2 e1:TypeId)(w:World):Rws B e2 e1 w (.slice none 0 0) []:=
 ⟨[],rfl,World.ownsRow_nil _ _ _ _,fun i hi=>absurd hi (by simp)⟩
theorem Rws.alloc{B:Nat}{e2 e1:TypeId}{w:World}{v:Value}{m:List (List Int)}(h:Rws B e2 e1 w v m)(o:Obj):Rws B e2 e1 (w.alloc o) v m:=by
 obtain ⟨a,b,c,d⟩:=h
 exact ⟨a,b,c.alloc o,fun i hi=>(d i hi).alloc o⟩
theorem ZAQ{B N:Nat}{e:TypeId}{w w':World}{v:Value}{n:Nat}{xs:List Value}(h:w.ownsRow B e 1 v n xs)(hb:Below N w w')(hN:w.heap.size≤N):w'.ownsRow B e 1 v n xs:=
 h.kept (row:=none) ⟨hb.os,hb.tape,hb.output,hb.size,fun k hk _=>hb.block k (by omega)⟩ (by
  cases hv:v.ownBlock <;> simp)
theorem Rws.below{B N:Nat}{e2 e1:TypeId}{w w':World}{v:Value}{m:List (List Int)}(h:Rws B e2 e1 w v m)(hb:Below N w w')(hN:w.heap.size≤N):Rws B e2 e1 w' v m:=by
 obtain ⟨a,b,c,d⟩:=h
 exact ⟨a,b,ZAQ c hb hN,fun i hi=>(d i hi).below hb hN⟩
theorem ZAt{B:Nat}{e e1:TypeId}{w:World}{v:Value}{n:Nat}{xs:List Value}(h:w.ownsRow B e 1 v n xs)(hne:e≠e1) :
  ∀k,v.ownBlock=some k→B≤k∧∀cur,w.heap[k]?≠some (.cells cur e1 (0,0)):=by
 intro k a;obtain ⟨_,b⟩:=h
 rcases b with ⟨rfl,rfl⟩ | ⟨g,cap,cur,rfl,hg,hh,_⟩
 ·simp [Value.ownBlock] at a
 ·simp [Value.ownBlock] at a
  subst a
  refine ⟨hg,fun cur'=>?_⟩
  rw [hh];simp;intro _ h;exact absurd h hne
theorem Rws.push{B:Nat}{e2 e1:TypeId}{w w':World}{v v' u:Value}{m:List (List Int)}{vs:List Value}{zs:List Int}(hne:e2≠e1)
 (h1:vs.length=m.length)(h2:w.ownsRow B e2 1 v m.length vs)(h3:∀i,i < m.length→Sl B e1 w (vs.getD i (.slice none 0 0)) (ZAB (m.getD i [])))(hu:Sl B e1 w u (ZAB zs))
 (ho:w'.ownsRow B e2 1 v' (m.length+1) (vs ++ [u]))(hg:w.grownBy w' v.ownBlock):Rws B e2 e1 w' v' (m ++ [zs]):=by
 refine ⟨vs ++ [u],by simp [h1],by simpa using ho,fun i hi=>?_⟩
 by_cases hlt:i < m.length
 ·have a:(vs ++ [u]).getD i (.slice none 0 0)=vs.getD i (.slice none 0 0):=by
   simp only [List.getD_eq_getElem?_getD]; rw [List.getElem?_append_left (by omega)]
  have b:(m ++ [zs]).getD i []=m.getD i []:=by
   simp only [List.getD_eq_getElem?_getD]; rw [List.getElem?_append_left (by omega)]
  rw [a,b];exact (h3 i hlt).grown hg (ZAt h2 hne)
 ·have c:i=m.length:=by simp at hi; omega
  subst c
  have a:(vs ++ [u]).getD m.length (.slice none 0 0)=u:=by
   rw [←h1]; simp
  have b:(m ++ [zs]).getD m.length []=zs:=by simp
  rw [a,b];exact hu.grown hg (ZAt h2 hne)
theorem ZDz(l:List Int)(z:Int):ZAB l ++ [.int .i64 z]=ZAB (l ++ [z]):=by simp [ZAB]
theorem ZBR{M N:Nat}{e:TypeId}{w0 w w1:World}{v v':Value}{l:List Int}{z:Int}{o:Obj}(hN:M≤w.heap.size)(h:w.ownsRow M e 1 v l.length (ZAB l))(hb:Below M w0 w)
 (ho:w1.ownsRow M e 1 v' (l.length+1) (ZAB l ++ [.int .i64 z]))(hg:(w.alloc o).grownBy w1 v.ownBlock)(hNN:N=l.length+1) :
  w1.ownsRow M e 1 v' N (ZAB (l ++ [z]))∧Below M w0 w1:=by
 subst hNN
 refine ⟨by rw [ZDz] at ho; exact ho,?_⟩
 refine (hb.alloc hN o).grown hg (by simp; omega) (fun k hk=>?_)
 exact (h.lt k hk).1
theorem ZAE{B:Nat}{e:TypeId}{w:World}{v:Value}{n:Nat}{xs:List Value}(h:w.ownsRow B e 1 v n xs):∃vo vc,v=.slice vo n vc:=by
 rcases h.2 with ⟨h1,h0⟩ | ⟨g,cap,cur,hv,_⟩
 ·exact ⟨_,_,by rw [h1,h0]⟩
 ·exact ⟨_,_,hv⟩
theorem ZAS(w:World)(x:Value)(t:TypeId):∀j u,[x][j]?=some u→(w.alloc (.cells #[x] t)).cell? ((⟨w.heap.size,0,none⟩:Addr).add j)=some u:=by
 intro j u a
 match j,a with
 | 0,a=>simp at a; subst a; simp [Addr.add]
theorem ZA6(z:Int):∀u∈[Value.int .i64 z],u.oneCell'=true:=by
 intro u a; simp at a; subst a; rfl
theorem ZAM(a:Option Addr)(n c:Nat):∀u∈[Value.slice a n c],u.oneCell'=true:=by
 intro u b; simp at b; subst b; rfl
def ZDm(v most:Int):Bool:=decide (most < v) || decide (v < -most)
theorem ZAX{a b:Bool}(h:a=b):Ending.returned (.bool a)=.returned (.bool b):=by rw [h]
theorem ZOw(v most:Int)(w:World)(h0:0≤most)(h1:most≤1000000000000) :
  Calls Tryz.prog 39 #[.int .i64 v,.int .i64 most] w fun e w'=>e=.returned (.bool (ZDm v most))∧w'=w:=by
 by_cases hb:most < v
 ·go_enter Tryz.func39,Tryz.ntmps39
  go_wp2;go_ret
  exact ⟨ZAX (by simp [ZDm,hb]),rfl⟩
 ·go_enter Tryz.func39,Tryz.ntmps39
  go_wp2;go_ret
  exact ⟨ZAX (by rw [ZDm,decide_eq_false (by omega:¬most < v)]; rfl),rfl⟩
theorem ZBz(l:List Int)(k:Nat)(h:k < l.length):l.take (k+1)=l.take k ++ [l.getD k 0]:=by
 rw [List.take_succ_eq_append_getElem h]; simp [h]
theorem ZAK{B:Nat}{w:World}{v:Value}{zs:List Int}(h:Sl B 3 w v (ZAB zs)){k:Nat}(hk:k < zs.length) :
  ∃b o cap,v=.slice (some ⟨b,o,none⟩) zs.length cap∧zs.length≤cap∧w.cell? ⟨b,o+k,none⟩=some (.int .i64 (zs.getD k 0)):=by
 obtain ⟨b,o,cap,hv,c,_,a⟩:=h.at (by simp; omega)
 simp only [ZA2] at hv c a
 exact ⟨b,o,cap,hv,c,by rw [a k hk,ZAZ zs k hk]⟩
theorem ZFf{p:Int→Bool}{l:List Int}{k:Nat}(h:k < l.length)(h0:(l.take k).any p=false):(l.take (k+1)).any p=p l[k]:=by
 rw [List.take_succ_eq_append_getElem h,List.any_append,h0]; simp
theorem ZJ7{p:Int→Bool}{l:List Int}{k:Nat}(h:k < l.length)(h0:p l[k]=true):l.any p=true:=
 List.any_eq_true.2 ⟨l[k],List.getElem_mem h,h0⟩
theorem ZJN(B:Nat)(zs:List Int)(v:Value)(most:Int)(w:World)(hv:Sl B 3 w v (ZAB zs))(h0:0≤most)(h1:most≤1000000000000) :
  Calls Tryz.prog 19 #[v,.int .i64 most] w fun e w'=>e=.returned (.bool (zs.any (ZDm · most)))∧w'=w:=by
 have f:=hv;obtain ⟨t,g,a,j,d,-⟩:=f;simp only [ZA2] at j a;subst a;have r:Hid (Sl B 3 w (.slice t zs.length g) (ZAB zs)):=hv;clear hv;unfold maxLen at d;go_enter Tryz.func19,Tryz.ntmps19;go_wp2
 go_loop [5] (fun i=>∃k:Nat,k≤zs.length∧i=.int .i64 k∧(zs.take k).any (ZDm · most)=false) (fun i=>zs.length-(intOf i).toNat)
 case atStart=>exact ⟨0,Nat.zero_le _,rfl,by simp⟩
 case round=>
  obtain ⟨k,y,rfl,c⟩:=hrel;have n:=hid c;clear c
  by_cases hlt:k < zs.length
  ·obtain ⟨b,o,z,m,x,s⟩:=ZAK r.out hlt
   simp only [Value.slice.injEq] at m;obtain ⟨rfl,_,rfl⟩:=m
   go_wp2_with (go_at_call 39; refine (ZOw _ _ _ (by omega) (by omega)).mono ?_; rintro e w' ⟨rfl,rfl⟩)
   ·have l:ZDm zs[k] most=true:=by assumption
    go_ret;exact ⟨ZAX (ZJ7 (p:=(ZDm · most)) hlt l).symm,rfl⟩
   ·have l:ZDm zs[k] most=false:=by assumption
    go_round
    case rel=>exact ⟨k+1,by omega,by go_num,(ZFf hlt n.out).trans l⟩
    case measure=>simp [intOf]; omega
  ·go_wp2
   go_ret
   have:zs.take k=zs:=List.take_of_length_le (by omega)
   exact ⟨ZAX (by rw [←n.out,this]),rfl⟩
theorem ZGU{x y:List Int}(hl:x.length=y.length)(h:∀i,i < x.length→x.getD i 0=y.getD i 0):x=y:=by
 apply List.ext_getElem hl
 intro i a b;have:=h i a
 simpa [a,b] using this
theorem ZFg(B:Nat)(x y:List Int)(u v:Value)(w:World)(hu:Sl B 3 w u (ZAB x))(hv:Sl B 3 w v (ZAB y)) :
  Calls Tryz.prog 38 #[u,v] w fun e w'=>e=.returned (.bool (x == y))∧∃n,w'=w.drewN n:=by
 have D:=hu;have t:=hv;obtain ⟨ao,U,f,A,l,-⟩:=D;obtain ⟨J,r,c,m,z,-⟩:=t;simp only [ZA2] at A f m c;subst f c;have N:=hid hu;have L:Hid (Sl B 3 w (.slice J y.length r) (ZAB y)):=hv;clear hu hv;unfold maxLen at l z
 by_cases hl:x.length=y.length
 ·have p:((x.length:Int) != (y.length:Int))=false:=by simp [hl]
  have M:=hid hl
  have S:y.length≤x.length:=by omega
  have P:x.length≤y.length:=by omega
  clear hl;go_enter Tryz.func38,Tryz.ntmps38;go_wp2
  go_loopw [5] (fun i wr=>∃k:Nat,k≤x.length∧i=.int .i64 k∧(∀j,j < k→x.getD j 0=y.getD j 0)∧∃n,wr=w.drewN n) (fun i _=>x.length-(intOf i).toNat)
  case atStart=>exact ⟨0,Nat.zero_le _,rfl,fun j hj=>absurd hj (by omega),0,rfl⟩
  case round=>
   obtain ⟨k,V,rfl,g,n,rfl⟩:=hrel;have E:=hid g;clear g
   by_cases hlt:k < x.length
   ·have a:k < y.length:=by omega
    obtain ⟨b,o,X,F,Q,T⟩:=ZAK N.out hlt;simp only [Value.slice.injEq] at F;obtain ⟨rfl,_,rfl⟩:=F;obtain ⟨Y,o2,O,d,R,G⟩:=ZAK L.out a;simp only [Value.slice.injEq] at d;obtain ⟨rfl,_,rfl⟩:=d;go_wp2
    go_quiet (fail)
    go_wp2
    ·have s:(x[k] != y[k])=true:=by assumption
     go_ret
     refine ⟨ZAX (Eq.symm ?_),n+nq,by rw [World.drewN_drewN]⟩
     rw [beq_eq_false_iff_ne];rintro rfl;simp at s
    ·have s:(x[k] != y[k])=false:=by assumption
     go_roundw
     case rel=>
      refine ⟨k+1,by omega,by go_num,fun j hj=>?_,_,rfl⟩
      by_cases hjk:j < k
      ·exact E.out j hjk
      ·have:j=k:=by omega
       subst this
       simpa [hlt,a] using s
     case measure=>simp [intOf]; omega
   ·go_wp2
    go_ret;refine ⟨ZAX (Eq.symm ?_),_,rfl⟩;rw [beq_iff_eq]
    exact ZGU M.out fun i hi=>E.out i (by omega)
 ·have p:((x.length:Int) != (y.length:Int))=true:=by simp; omega
  go_enter Tryz.func38,Tryz.ntmps38;go_wp2;go_ret;refine ⟨ZAX (Eq.symm ?_),0,rfl⟩;rw [beq_eq_false_iff_ne];rintro rfl;exact hl rfl
theorem ZAP{B:Nat}{w:World}{v:Value}{m:List (List Int)}(h:Mat B 27 3 w v m){k:Nat}(hk:k < m.length) :
  ∃b o cap u,v=.slice (some ⟨b,o,none⟩) m.length cap∧m.length≤cap∧w.cell? ⟨b,o+k,none⟩=some u∧Sl B 3 w u (ZAB (m.getD k [])):=by
 obtain ⟨a,d,g,i⟩:=h
 obtain ⟨b,o,cap,hv,c,_,f⟩:=g.at (by omega)
 rw [d] at hv c;refine ⟨b,o,cap,a.getD k (.slice none 0 0),hv,c,?_,i k hk⟩
 rw [f k (by omega)]
 simp [show k < a.length by omega]
theorem ZAD{B:Nat}{w:World}{v:Value}{m:List (List Int)}(h:Mat B 27 3 w v m):∃ao cap,v=.slice ao m.length cap∧m.length≤cap∧cap≤9223372036854775807:=by
 obtain ⟨d,b,⟨ao,cap,rfl,c,a,_⟩,_⟩:=h
 refine ⟨ao,cap,by rw [b],by omega,?_⟩
 unfold maxLen at a; omega
theorem ZAI{B:Nat}{e:TypeId}{w:World}{v:Value}{x:List Int}(h:Sl B e w v (ZAB x)):∃ao cap,v=.slice ao x.length cap∧x.length≤cap∧cap≤9223372036854775807:=by
 obtain ⟨ao,cap,rfl,a,b,_⟩:=h
 refine ⟨ao,cap,by simp,by simpa using a,?_⟩
 unfold maxLen at b; omega
theorem ZE5{x y:List (List Int)}(hl:x.length=y.length)(h:∀i,i < x.length→x.getD i []=y.getD i []):x=y:=by
 apply List.ext_getElem hl
 intro i a b;have:=h i a
 simpa [a,b] using this
theorem Mat.drewN{B:Nat}{e2 e1:TypeId}{w:World}{v:Value}{m:List (List Int)}(h:Mat B e2 e1 w v m)(n:Nat):Mat B e2 e1 (w.drewN n) v m:=h
theorem Sl.drewN{B:Nat}{e:TypeId}{w:World}{v:Value}{m:List Value}(h:Sl B e w v m)(n:Nat):Sl B e (w.drewN n) v m:=h
theorem ZHV(B:Nat)(x y:List (List Int))(u v:Value)(w:World)(hu:Mat B 27 3 w u x)(hv:Mat B 27 3 w v y) :
  Calls Tryz.prog 37 #[u,v] w fun e w'=>e=.returned (.bool (x == y))∧∃n,w'=w.drewN n:=by
 obtain ⟨ao,G,D,ag,R⟩:=ZAD hu;obtain ⟨L,f,r,S,af⟩:=ZAD hv;subst D r;have O:=hid hu;have M:Hid (Mat B 27 3 w (.slice L y.length f) y):=hv;clear hu hv
 by_cases hl:x.length=y.length
 ·have A:((x.length:Int) != (y.length:Int))=false:=by simp [hl]
  have T:=hid hl
  have aa:y.length≤x.length:=by omega
  have V:x.length≤y.length:=by omega
  clear hl;go_enter Tryz.func37,Tryz.ntmps37;go_wp2
  go_loopw [5] (fun i wr=>∃k:Nat,k≤x.length∧i=.int .i64 k∧(∀j,j < k→x.getD j []=y.getD j [])∧∃n,wr=w.drewN n) (fun i _=>x.length-(intOf i).toNat)
  case atStart=>exact ⟨0,Nat.zero_le _,rfl,fun j hj=>absurd hj (by omega),0,rfl⟩
  case round=>
   obtain ⟨k,hk,rfl,l,n,a⟩:=hrel
   have t:Hid (Mat B 27 3 wr (.slice ao x.length G) x):=by subst a; exact O.out.drewN n
   have z:Hid (Mat B 27 3 wr (.slice L y.length f) y):=by subst a; exact M.out.drewN n
   have p:Hid (∃n,wr=w.drewN n):=⟨n,a⟩
   clear a O M;have N:=hid l;clear l
   by_cases hlt:k < x.length
   ·have c:k < y.length:=by omega
    obtain ⟨b,o,cp,r1,P,X,ae,m⟩:=ZAP t.out hlt;simp only [Value.slice.injEq] at P;obtain ⟨rfl,_,rfl⟩:=P;obtain ⟨b2,o2,U,r2,d,Y,Q,g⟩:=ZAP z.out c;simp only [Value.slice.injEq] at d;obtain ⟨rfl,_,rfl⟩:=d;have J:=hid m;have s:=hid g;clear m g;go_wp2
    go_quiet ((go_at_call 38; exact Calls.quiet_of (w:=wr) (ZFg B (x.getD k []) (y.getD k []) _ _ _ (J.out.drewN _) (s.out.drewN _))))
    go_wp2
    ·have E:(!x[k] == y[k])=true:=by assumption
     go_ret;refine ⟨ZAX (Eq.symm ?_),?_⟩
     ·rw [beq_eq_false_iff_ne]
      rintro rfl;simp at E
     ·obtain ⟨n,F⟩:=p.out
      exact ⟨n+nq,by rw [F,World.drewN_drewN]⟩
    ·have E:(!x[k] == y[k])=false:=by assumption
     go_roundw
     case rel=>
      refine ⟨k+1,by omega,by go_num,fun j hj=>?_,?_⟩
      ·by_cases hjk:j < k
       ·exact N.out j hjk
       ·have:j=k:=by omega
        subst this
        simpa [hlt,c] using E
      ·obtain ⟨n,F⟩:=p.out
       exact ⟨n+nq,by rw [F,World.drewN_drewN]⟩
     case measure=>simp [intOf]; omega
   ·go_wp2
    go_ret;refine ⟨ZAX (Eq.symm ?_),p.out⟩;rw [beq_iff_eq]
    exact ZE5 T.out fun i hi=>N.out i (by omega)
 ·have A:((x.length:Int) != (y.length:Int))=true:=by simp; omega
  go_enter Tryz.func37,Tryz.ntmps37;go_wp2;go_ret;refine ⟨ZAX (Eq.symm ?_),0,rfl⟩;rw [beq_eq_false_iff_ne];rintro rfl;exact hl rfl
end Go.Proofs.YtkjkfceblmgogaaGreat
