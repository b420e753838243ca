import Derived.Test.YtdanomklbiidaaaGreatDoorMgAT
import Derived.Test.YtdanomklbiidaaaGreatDoorMgAR
import Derived.Deep.OwnRows
import Derived.Test.YtdanomklbiidaaaGreatDoorMgAL
namespace Go.Proofs.YtdanomklbiidaaaGreatDoor
open Lin
theorem wr_complete {d:Nat} {P:List (List Int)} (hg:Good (d+1) P) (hd:1≤d) {r:List Int} (hr:r∈rowsC P [] (d+1) P) :
  ∃t:List (List Int),t.Sublist P∧t.length=d∧FlatOk (d+1) t∧∀u v,Bas (d+1) t (t.getD 0 []) u v→r∈thrL (d+1) u v (t.getD 0 []) P:=by
 obtain ⟨t,hts,htl,hfl,htr,h,hht,hhF,hhn⟩:=wr_flat hg hd hr
 refine ⟨t,hts,htl,hfl,fun u v hB=>?_⟩
 have ht0:t.getD 0 []∈t:=by simp [show 0 < t.length by omega]
 obtain ⟨x,hx⟩:∃x,x=t.getD 0 []:=⟨_,rfl⟩
 rw [←hx] at hB hht hhF ht0 ⊢
 have hrx:=htr x ht0
 obtain ⟨ρ,a,b,hρ,hab⟩:=hB.spn (V r) fun y hy=>by rw [←htr y hy,←hrx]
 obtain ⟨ρ',a',b',hρ',hab'⟩:=hB.spn h hht
 obtain ⟨_,_,_,⟨p,hp,hpne⟩,_⟩:=row_one (fun y hy=>(hg.box y hy).1) hg.d1 hr
 obtain ⟨T,hTF,hT0,_,huni⟩:=row_one (fun y hy=>(hg.box y hy).1) hg.d1 hr
 -- the directions are not one
 have hdet:a*b'-b*a'≠0:=fun h0=>hhn fun i j hi hj=>by
  have p1:=hab i hi
  have p2:=hab j hj
  have q1:=hab' i hi
  have q2:=hab' j hj
  have key:(ρ'*ρ)*(h i*V r j-h j*V r i)=0:=by
   have e1:(ρ'*ρ)*(h i*V r j-h j*V r i)=(ρ'*h i)*(ρ*V r j)-(ρ'*h j)*(ρ*V r i):=by grind
   rw [e1,q1,q2,p1,p2]
   have e2:(a'*V u i+b'*V v i)*(a*V u j+b*V v j)-(a'*V u j+b'*V v j)*(a*V u i+b*V v i)=(a*b'-b*a')*(V u j*V v i-V u i*V v j):=by grind
   rw [e2,h0,Int.zero_mul]
  rcases Int.mul_eq_zero.1 key with h1 | h1
  ·exact absurd h1 (Int.mul_ne_zero hρ' hρ)
  ·omega
 -- on the row,off the flat: the direction is below
 have hneg:∀y∈P,r.getD (d+1) 0=dot (d+1) (V r) (V y)→senP (d+1) u v x y≠(0,0)→a*(senP (d+1) u v x y).1+b*(senP (d+1) u v x y).2=0∧dot (d+1) h (V y)-dot (d+1) h (V x) < 0:=fun y hy hyr h0=>by
  have k1:a*(senP (d+1) u v x y).1+b*(senP (d+1) u v x y).2=0:=by
   rw [←comb_sen (x:=x) hab y,←hyr,←hrx,Int.sub_self,Int.mul_zero]
  have k2:=comb_sen (x:=x) hab' y
  refine ⟨k1,?_⟩
  have k3:=hhF y hy hyr
  rcases Int.lt_or_le (dot (d+1) h (V y)-dot (d+1) h (V x)) 0 with h1 | h1
  ·exact h1
  ·exfalso
   have k4:dot (d+1) h (V y)-dot (d+1) h (V x)=0:=by omega
   rw [k4,Int.mul_zero] at k2
   generalize senP (d+1) u v x y=s at *
   obtain ⟨s0,s1⟩:=s
   simp only at k1 k2
   have m0:(a*b'-b*a')*s0=0:=by grind
   have m1:(a*b'-b*a')*s1=0:=by grind
   rcases Int.mul_eq_zero.1 m0 with h2 | h2
   ·exact hdet h2
   ·rcases Int.mul_eq_zero.1 m1 with h3 | h3
    ·exact hdet h3
    ·exact h0 (by rw [h2,h3])
 -- there is one
 obtain ⟨z,hzP,hzr,hz0⟩:∃z∈P,r.getD (d+1) 0=dot (d+1) (V r) (V z)∧senP (d+1) u v x z≠(0,0):=by
  refine Classical.byContradiction fun hn=>?_
  have hall:∀y∈P,r.getD (d+1) 0=dot (d+1) (V r) (V y)→senP (d+1) u v x y=(0,0):=fun y hy hyr=>Classical.byContradiction fun h=>hn ⟨y,hy,hyr,h⟩
  have hsame:∀y∈T,dot (d+1) (V u) (V y)=dot (d+1) (V u) (V x)∧dot (d+1) (V v) (V y)=dot (d+1) (V v) (V x):=fun y hy=>by
   have:=hall y (hTF y hy).1 (hTF y hy).2
   unfold senP at this
   simp only [Prod.mk.injEq] at this
   omega
  have pu:=huni (V u) fun y hy=>by rw [(hsame y hy).1,(hsame _ hT0).1]
  have pv:=huni (V v) fun y hy=>by rw [(hsame y hy).2,(hsame _ hT0).2]
  have h1:=hB.ind (V v p) (-(V u p)) fun i hi=>by
   have e1:=pu i p hi hp
   have e2:=pv i p hi hp
   have:V r p*(V v p*V u i + -(V u p)*V v i)=0:=by grind
   rcases Int.mul_eq_zero.1 this with h | h
   ·exact absurd h hpne
   ·exact h
  have hu0:∀i,i < d+1→V u i=0:=fun i hi=>by
   have e1:=pu i p hi hp
   have:V u p=0:=by omega
   rw [this,Int.zero_mul] at e1
   rcases Int.mul_eq_zero.1 e1 with h | h
   ·exact h
   ·exact absurd h hpne
  have h2:=hB.ind 1 0 fun i hi=>by rw [hu0 i hi]; simp
  omega
 obtain ⟨kz1,kz2⟩:=hneg z hzP hzr hz0
 refine wr_end hg hB hr hrx hρ hab hzP hzr hz0 fun y hy hy0 hyr=>?_
 obtain ⟨ky1,ky2⟩:=hneg y hy hyr hy0
 have cz:=comb_sen (x:=x) hab' z
 have cy:=comb_sen (x:=x) hab' y
 have hN:=dt2_pos hz0
 generalize senP (d+1) u v x z=e at *
 generalize senP (d+1) u v x y=s at *
 obtain ⟨e0,e1⟩:=e
 obtain ⟨s0,s1⟩:=s
 simp only at kz1 ky1 cz cy
 unfold dt2 at hN ⊢
 simp only at hN ⊢
 have hab0:a≠0∨b≠0:=by
  rcases Int.decEq a 0 with ha | ha
  ·exact .inl ha
  ·right
   intro hb
   exact hdet (by rw [ha,hb]; simp)
 have hcr:e0*s1-e1*s0=0:=by
  have m0:a*(e0*s1-e1*s0)=0:=by grind
  have m1:b*(e0*s1-e1*s0)=0:=by grind
  rcases hab0 with h0 | h0
  ·rcases Int.mul_eq_zero.1 m0 with h | h
   ·exact absurd h h0
   ·exact h
  ·rcases Int.mul_eq_zero.1 m1 with h | h
   ·exact absurd h h0
   ·exact h
 obtain ⟨N,hNe⟩:∃N,N=e0*e0+e1*e1:=⟨_,rfl⟩
 obtain ⟨D,hDe⟩:∃D,D=e0*s0+e1*s1:=⟨_,rfl⟩
 have f0:N*s0=D*e0:=by rw [hNe,hDe]; grind
 have f1:N*s1=D*e1:=by rw [hNe,hDe]; grind
 have key:N*(ρ'*(dot (d+1) h (V y)-dot (d+1) h (V x)))=D*(ρ'*(dot (d+1) h (V z)-dot (d+1) h (V x))):=by
  rw [cy,cz]
  have g1:N*(a'*s0+b'*s1)=a'*(N*s0)+b'*(N*s1):=by grind
  rw [g1,f0,f1]; grind
 have key2:N*(dot (d+1) h (V y)-dot (d+1) h (V x))=D*(dot (d+1) h (V z)-dot (d+1) h (V x)):=by
  have:ρ'*(N*(dot (d+1) h (V y)-dot (d+1) h (V x)))=ρ'*(D*(dot (d+1) h (V z)-dot (d+1) h (V x))):=by grind
  exact Int.eq_of_mul_eq_mul_left hρ' this
 show 0 < e0*s0+e1*s1
 rw [←hDe]
 rw [←hNe] at hN
 have l1:=Int.mul_pos hN (show 0 < -(dot (d+1) h (V y)-dot (d+1) h (V x)) by omega)
 rcases Int.lt_or_le 0 D with h1 | h1
 ·exact h1
 ·exfalso
  have l2:=Int.mul_nonneg (show 0≤-D by omega) (show 0≤-(dot (d+1) h (V z)-dot (d+1) h (V x)) by omega)
  have l3 : -D * -(dot (d+1) h (V z)-dot (d+1) h (V x))=D*(dot (d+1) h (V z)-dot (d+1) h (V x)):=by grind
  have l4:N * -(dot (d+1) h (V y)-dot (d+1) h (V x))=-(N*(dot (d+1) h (V y)-dot (d+1) h (V x))):=by grind
  omega
theorem wr_in {d:Nat} {P t:List (List Int)} (hg:Good d P) {x u v:List Int} (hxP:x∈P) (htP:∀y∈t,y∈P) (hB:Bas d t x u v) {r:List Int} (hr:r∈thrL d u v x P):r∈rowsC P [] d P:=by
 unfold thrL at hr
 cases hoff:offL d u v x P with
 | nil=>rw [hoff] at hr; cases hr
 | cons m l=>
  rw [hoff] at hr
  have hsp:∀s∈m :: l,∃y∈P,senP d u v x y=s∧s≠(0,0):=fun s hs=>off_mem.1 (by rw [hoff]; exact hs)
  have key:∀e:Int×Int,(∃s∈m :: l,e=s∨e=negP s)→r∈endR d u v x (m :: l) e→r∈rowsC P [] d P:=fun e ⟨s,hs,he⟩ hre=>by
   obtain ⟨z,hz,hze,hz0⟩:=hsp s hs
   unfold endR at hre
   split at hre
   ·cases hre
   ·rename_i hany
    simp only [List.mem_singleton] at hre
    rw [hre]
    have hall:∀q∈m :: l,trn q e≤0:=fun q hq=>by
     rcases Int.lt_or_le 0 (trn q e) with h | h
     ·exact absurd (List.any_eq_true.2 ⟨q,hq,decide_eq_true h⟩) hany
     ·exact h
    have hst:trn s e=0:=by
     rcases he with rfl | rfl
     ·exact trn_self _
     ·have:=trn_op s s
      rw [trn_self] at this
      unfold negP
      omega
    have he0:e≠(0,0):=fun h=>by
     rcases he with h1 | h1
     ·exact hz0 (by rw [←h1]; exact h)
     ·rw [h1] at h
      unfold negP at h
      simp at h
      exact hz0 (Prod.ext h.1 h.2)
    refine wr_sound hg hxP htP hB he0 ⟨z,hz,by rw [hze]; exact hz0,by rw [hze]; exact hst⟩ fun y hy=>?_
    by_cases h0:senP d u v x y=(0,0)
    ·rw [h0]; unfold trn; simp
    ·exact hall _ (by rw [←hoff]; exact off_mem.2 ⟨y,hy,rfl,h0⟩)
  rcases List.mem_append.1 hr with h | h
  ·refine key _ ⟨mxF m l,?_,.inl rfl⟩ h
   rcases mxF_mem l m with h | h
   ·rw [h]; simp
   ·simp [h]
  ·refine key _ ⟨mnF m l,?_,.inr rfl⟩ h
   rcases mnF_mem l m with h | h
   ·rw [h]; simp
   ·simp [h]
end Go.Proofs.YtdanomklbiidaaaGreatDoor

namespace Go.Proofs.YtdanomklbiidaaaGreatDoor
open Go.RowKit
attribute [local go_sem ↓] Go.wp_at_zero Go.wp_at_succ
def Sns (B:Nat) (w:World) (v:Value) (es:List (Int×Int)):Prop:=
 ∃po pc,v=.slice po es.length pc∧∀i,i < es.length→∃b o,po=some ⟨b,o,none⟩∧b < B∧w.cell? ⟨b,o+i*2,none⟩=some (.int .i64 (es.getD i (0,0)).1)∧w.cell? ⟨b,o+i*2+1,none⟩=some (.int .i64 (es.getD i (0,0)).2)
theorem Sns.below {B N:Nat} {w w':World} {v:Value} {es:List (Int×Int)} (h:Sns B w v es) (hb:Below N w w') (hN:B≤N):Sns B w' v es:=by
 obtain ⟨po,pc,h1,h2⟩:=h
 refine ⟨po,pc,h1,fun i hi=>?_⟩
 obtain ⟨b,o,e,l,c1,c2⟩:=h2 i hi
 exact ⟨b,o,e,l,(hb.cell (by show b < N; omega)).trans c1,(hb.cell (by show b < N; omega)).trans c2⟩
theorem Sns.more {B B':Nat} {w:World} {v:Value} {es:List (Int×Int)} (h:Sns B w v es) (hB:B≤B'):Sns B' w v es:=by
 obtain ⟨po,pc,h1,h2⟩:=h
 refine ⟨po,pc,h1,fun i hi=>?_⟩
 obtain ⟨b,o,e,l,c⟩:=h2 i hi
 exact ⟨b,o,e,by omega,c⟩
def prV (es:List (Int×Int)):List Value:=es.flatMap fun e=>[.int .i64 e.1,.int .i64 e.2]
theorem prV_len:∀es:List (Int×Int),(prV es).length=es.length*2
 | []=>rfl
 | e :: es=>by
  have:=prV_len es
  unfold prV at this ⊢
  simp only [List.flatMap_cons,List.length_append,List.length_cons,List.length_nil]
  omega
theorem prV_get:∀(es:List (Int×Int)) (i:Nat) (e:Int×Int),es[i]?=some e→(prV es)[i*2]?=some (.int .i64 e.1)∧(prV es)[i*2+1]?=some (.int .i64 e.2)
 | [],i,e,h=>by simp at h
 | x :: es,0,e,h=>by
  simp only [List.getElem?_cons_zero,Option.some.injEq] at h
  subst h
  exact ⟨rfl,rfl⟩
 | x :: es,i+1,e,h=>by
  simp only [List.getElem?_cons_succ] at h
  have:=prV_get es i e h
  have e1:(i+1)*2=i*2+1+1:=by omega
  have e2:prV (x :: es)=.int .i64 x.1 :: .int .i64 x.2 :: prV es:=rfl
  rw [e1,e2]
  exact this
theorem infoS2:(Tryz.prog.info? 131).map (fun i=>(i.zero,i.size,i.bytes))=some (some (.agg #[.int .i64 0,.int .i64 0]),2,16):=by kernel_rfl
theorem two_newS (w:World) (x y:Value) (t:TypeId):∀j u,[x,y][j]?=some u→(w.alloc (.cells #[x,y] t)).cell? ((⟨w.heap.size,0,none⟩:Addr).add j)=some u:=fun j u hj=>by
 rcases j with _ | _ | j
 ·simp at hj; subst hj; simp [Addr.add]
 ·simp at hj; subst hj; simp [Addr.add]
 ·simp at hj
theorem two_intS (a b:Int):∀u∈[Value.int .i64 a,.int .i64 b],u.oneCell'=true:=fun u hu=>by
 simp at hu
 rcases hu with rfl | rfl <;> rfl
theorem Sns.own {B:Nat} {w:World} {v:Value} {es:List (Int×Int)} (h:w.ownsRow B 131 2 v es.length (prV es)):Sns w.heap.size w v es:=by
 rcases h.2 with ⟨e,h0⟩ | ⟨g,cap,cur,e1,h2,h3,h4,h5,h6,h7⟩
 ·exact ⟨none,0,by rw [e,h0],fun i hi=>by omega⟩
 ·refine ⟨some ⟨g,0,none⟩,cap,e1,fun i hi=>⟨g,0,rfl,(Array.getElem?_eq_some_iff.1 h3).1,?_⟩⟩
  obtain ⟨k1,k2⟩:=prV_get es i es[i] (List.getElem?_eq_getElem hi)
  have hel:=prV_len es
  have hce:∀j u,(prV es)[j]?=some u→w.cell? ⟨g,0+j,none⟩=some u:=fun j u hj=>by
   have hj2:=(List.getElem?_eq_some_iff.1 hj).1
   rw [←h7,List.getElem?_take_of_lt (by omega),Array.getElem?_toList] at hj
   simp [World.cell?,h3,hj]
  have e2:es.getD i (0,0)=es[i]:=by simp [hi]
  rw [e2]
  exact ⟨hce _ _ k1,hce _ _ k2⟩
end Go.Proofs.YtdanomklbiidaaaGreatDoor

namespace Go.Proofs.YtdanomklbiidaaaGreatDoor
open Go.RowKit
open Lin
attribute [local go_sem ↓] Go.wp_at_zero Go.wp_at_succ
structure MB (N:Nat) (w:World) (m:Int×Int) (W:World):Prop where
 z0:W.cell? ⟨N,0,none⟩=some (.int .i64 0)
 z1:W.cell? ⟨N,1,none⟩=some (.int .i64 0)
 c0:W.cell? ⟨N+1,0,none⟩=some (.int .i64 m.1)
 c1:W.cell? ⟨N+1,1,none⟩=some (.int .i64 m.2)
 y0:W.frozen? ⟨N,0,none⟩=false
 y1:W.frozen? ⟨N,1,none⟩=false
 f0:W.frozen? ⟨N+1,0,none⟩=false
 f1:W.frozen? ⟨N+1,1,none⟩=false
 bel:Below N w W
theorem frozen_below {N:Nat} {w W:World} {a:Addr} (h:Below N w W) (ha:a.block < N) (hf:w.frozen? a=false):W.frozen? a=false:=by
 have:=h.block a.block ha
 unfold World.frozen? at hf ⊢
 rw [this]
 exact hf
theorem MB.keep {N:Nat} {w W W':World} {m:Int×Int} (h:MB N w m W) (hb:Below W.heap.size W W'):MB N w m W':=by
 have e0:=lt_of_cell h.z0
 have e1:=lt_of_cell h.c0
 exact ⟨(hb.cell (lt_of_cell h.z0)).trans h.z0,(hb.cell (lt_of_cell h.z1)).trans h.z1,(hb.cell (lt_of_cell h.c0)).trans h.c0,(hb.cell (lt_of_cell h.c1)).trans h.c1,frozen_below hb e0 h.y0,frozen_below hb e0 h.y1,frozen_below hb e1 h.f0,frozen_below hb e1 h.f1,h.bel.trans (hb.mono (Nat.le_of_lt e0))⟩
theorem MB.put {N:Nat} {w W:World} {m:Int×Int} (h:MB N w m W) (n:Int×Int):MB N w n ((W.setCell ⟨N+1,0,none⟩ (.int .i64 n.1)).setCell ⟨N+1,1,none⟩ (.int .i64 n.2)):=by
 refine ⟨?_,?_,?_,?_,?_,?_,?_,?_,(h.bel.setCell (by show N≤N+1; omega) _).setCell (by show N≤N+1; omega) _⟩
 ·rw [World.cell?_setCell_other _ _ _ _ (by simp),World.cell?_setCell_other _ _ _ _ (by simp)]; exact h.z0
 ·rw [World.cell?_setCell_other _ _ _ _ (by simp),World.cell?_setCell_other _ _ _ _ (by simp)]; exact h.z1
 ·rw [World.cell?_setCell_other _ _ _ _ (by simp),World.cell?_setCell_same _ _ _ h.c0]
 ·rw [World.cell?_setCell_same _ _ _ ((World.cell?_setCell_other _ _ _ _ (by simp)).trans h.c1)]
 ·simpa using h.y0
 ·simpa using h.y1
 ·simpa using h.f0
 ·simpa using h.f1
theorem MB.start (w:World) (m:Int×Int):MB w.heap.size w m ((w.alloc (.cells #[.int .i64 0,.int .i64 0] 131)).alloc (.cells #[.int .i64 m.1,.int .i64 m.2] 131)):=by
 refine ⟨?_,?_,?_,?_,?_,?_,?_,?_,((Below.refl _ _).alloc (Nat.le_refl _) _).alloc (by rw [size_alloc]; omega) _⟩
 all_goals simp
theorem results_cellS {fn:Func} {t:Tmp} {ty:TypeId} {tmps:Array Value} {P:Program} {w:World} {ad:Addr} {v:Value} (h:fn.results=#[.cell t ty]) (hp:tmps.getD t undef=.pointer (some ad)) (hl:(loadVar ty ad).run P w=.ok v w) :
  (results fn tmps).run P w=.ok v w:=by
 rw [Array.getD_eq_getD_getElem?] at hp
 simp [results,h,asAddr,hp,hl]
theorem mxF_snoc (m:Int×Int) (l:List (Int×Int)) (k:Nat) (h:k < l.length):mxF m (l.take (k+1))=if 0 < trn (l.getD k (0,0)) (mxF m (l.take k)) then l.getD k (0,0) else mxF m (l.take k):=by
 rw [List.take_succ_eq_append_getElem h]
 unfold mxF
 rw [List.foldl_append]
 have e:l.getD k (0,0)=l[k]:=by simp [h]
 rw [e]
 rfl
theorem mul_bd8 {a b:Int} (ha:a.natAbs≤100000000) (hb:b.natAbs≤100000000) : -10000000000000000≤a*b∧a*b≤10000000000000000:=by
 have:(a*b).natAbs≤100000000*100000000:=by
  rw [Int.natAbs_mul]
  exact Nat.mul_le_mul ha hb
 omega
set_option maxRecDepth 100000 in
set_option maxHeartbeats 1600000 in
theorem maxS_any (m0:Int×Int) (l:List (Int×Int)) (v:Value) (w:World) (hs:Sns w.heap.size w v (m0 :: l)) (hb:∀s∈m0 :: l,s.1.natAbs≤100000000∧s.2.natAbs≤100000000) (hl:l.length≤1000) :
  Calls Tryz.prog 106 #[v,.func (.func 107) #[] #[]] w fun e w'=>e=.returned (arr2 (mxF m0 l).1 (mxF m0 l).2)∧Below w.heap.size w w':=by
 obtain ⟨po,pc,hv,hcell⟩:=hs
 subst hv
 have hcell':∀i,i < l.length+1→∃b o,po=some ⟨b,o,none⟩∧b < w.heap.size∧w.cell? ⟨b,o+i*2,none⟩=some (.int .i64 ((m0 :: l).getD i (0,0)).1)∧w.cell? ⟨b,o+i*2+1,none⟩=some (.int .i64 ((m0 :: l).getD i (0,0)).2):=fun i hi=>hcell i (by simpa using hi)
 obtain ⟨b,o,rfl,hbB,hc0,hc1⟩:=hcell' 0 (by omega)
 have HC:Hid (∀W',Below w.heap.size w W'→∀i,i < l.length+1→W'.cell? ⟨b,o+i*2,none⟩=some (.int .i64 ((m0 :: l).getD i (0,0)).1)∧W'.cell? ⟨b,o+i*2+1,none⟩=some (.int .i64 ((m0 :: l).getD i (0,0)).2)):=fun W' h i hi=>by
  obtain ⟨b',o',e,_,k0,k1⟩:=hcell' i hi
  simp only [Option.some.injEq,Addr.mk.injEq,and_true] at e
  obtain ⟨rfl,rfl⟩:=e
  exact ⟨(h.cell hbB).trans k0,(h.cell hbB).trans k1⟩
 simp only [List.getD_cons_zero,Nat.zero_mul,Nat.add_zero] at hc0 hc1
 rw [List.length_cons]
 have HBD:Hid (∀s∈m0 :: l,s.1.natAbs≤100000000∧s.2.natAbs≤100000000):=hb
 clear hcell hcell' hb
 have t1:decide (((l.length+1:Nat):Int) < 1)=false:=by simp; omega
 have t2:decide ((l.length:Int)+1 < 1)=false:=by simp; omega
 have hll:(0:Int) < (l.length:Int)+1:=by omega
 obtain ⟨m1,m2⟩:=m0
 go_enter Tryz.func106,Tryz.ntmps106
 go_wp2
 go_loopw [6] (fun i wr=>∃k:Nat,k≤l.length∧i=.int .i64 (k+1)∧MB w.heap.size w (mxF (m1,m2) (l.take k)) wr) (fun i _=>l.length+1-(intOf i).toNat)
 case atStart=>exact ⟨0,Nat.zero_le _,rfl,MB.start w (m1,m2)⟩
 case round=>
  obtain ⟨k,hk,rfl,hmb⟩:=hrel
  have HM:Hid (MB w.heap.size w (mxF (m1,m2) (l.take k)) wr):=hmb
  clear hmb hc0 hc1
  by_cases hlt:k < l.length
  ·obtain ⟨a0,a1⟩:=HC.out wr HM.out.bel (k+1) (by omega)
   have HCK:Hid (∀W',Below wr.heap.size wr W'→W'.cell? ⟨b,o+(k+1)*2,none⟩=some (.int .i64 ((l.getD k (0,0)).1))∧W'.cell? ⟨b,o+(k+1)*2+1,none⟩=some (.int .i64 ((l.getD k (0,0)).2))):=fun W' h=>HC.out W' (HM.out.bel.trans (h.mono HM.out.bel.size)) (k+1) (by omega)
   have HSN:=mxF_snoc (m1,m2) l k hlt
   have hsm:l.getD k (0,0)∈(m1,m2) :: l:=by
    have e:l.getD k (0,0)=l[k]:=by simp [hlt]
    rw [e]; exact List.mem_cons_of_mem _ (List.getElem_mem _)
   have hmm:mxF (m1,m2) (l.take k)∈(m1,m2) :: l:=by
    rcases mxF_mem (l.take k) (m1,m2) with e | e
    ·rw [e]; exact List.mem_cons_self
    ·exact List.mem_cons_of_mem _ (List.mem_of_mem_take e)
   obtain ⟨bs1,bs2⟩:=HBD.out _ hsm
   obtain ⟨bm1,bm2⟩:=HBD.out _ hmm
   have HF:Hid (mxF (m1,m2) (l.take (k+1))=if 0 < trn (l.getD k (0,0)) (mxF (m1,m2) (l.take k)) then l.getD k (0,0) else mxF (m1,m2) (l.take k)):=HSN
   rw [List.getD_cons_succ] at a0 a1
   clear HSN hsm hmm
   generalize mxF (m1,m2) (l.take k)=mm at *
   generalize l.getD k (0,0)=ss at *
   obtain ⟨mm1,mm2⟩:=mm
   obtain ⟨s1,s2⟩:=ss
   dsimp only at a0 a1 bs1 bs2 bm1 bm2
   have HT:Hid (∀W',Calls Tryz.prog 107 #[.agg #[.int .i64 s1,.int .i64 s2],.agg #[.int .i64 mm1,.int .i64 mm2]] W' fun r w'=>r=.returned (.int .i64 (trn (s1,s2) (mm1,mm2)))∧Below W'.heap.size W' w'):=fun W'=>
    turn_any s1 s2 mm1 mm2 W' (by have:=mul_bd8 bm1 bs2; omega) (by have:=mul_bd8 bm2 bs1; omega)
   have c0:=HM.out.c0
   have c1:=HM.out.c1
   dsimp only at c0 c1
   generalize trn (s1,s2) (mm1,mm2)=T at *
   have kI:(k:Int)+1 < (l.length:Int)+1:=by omega
   have kI0:(0:Int)≤(k:Int)+1:=by omega
   go_upto_region 7 with fail
   go_region_law (refine step_call2v (o:={ dst:=some 26,op:=_,type:=_,pos:=_,after:=_,guard:=_ }) (by rfl) 107 _ _ _ 131 131 (by rfl) _ _ (by rfl) (by rfl) (by rfl) ⟨_,Tryz.func107,by rfl,by rfl⟩ ?_; refine (HT.out _).mono ?_; rintro e w2 ⟨rfl,hb2⟩; refine ⟨_,rfl,?_⟩; have HB2:Hid (Below wr.heap.size wr w2):=(Below.refl _ _).drew.trans hb2; clear hb2)
   all_goals
    have HM2:Hid (MB w.heap.size w (mm1,mm2) w2):=HM.out.keep HB2.out
    obtain ⟨e0,e1⟩:=HCK.out w2 HB2.out
    have d0:=HM2.out.c0
    have d1:=HM2.out.c1
    have g0:=HM2.out.f0
    have g1:=HM2.out.f1
    dsimp only at d0 d1 e0 e1
    clear a0 a1 c0 c1
    by_cases hT:0 < T
    ·have HF2:Hid (mxF (m1,m2) (l.take (k+1))=(s1,s2)):=by
      show _=_
      rw [HF.out,if_pos hT]
     clear HF
     go_wp2
     go_roundw
     case rel=>
      refine ⟨k+1,by omega,by go_num,?_⟩
      rw [HF2.out]
      exact HM2.out.put (s1,s2)
     case measure=>simp [intOf]; omega
    ·have HF2:Hid (mxF (m1,m2) (l.take (k+1))=(mm1,mm2)):=by
      show _=_
      rw [HF.out,if_neg hT]
     clear HF
     go_wp2
     go_roundw
     case rel=>
      refine ⟨k+1,by omega,by go_num,?_⟩
      rw [HF2.out]
      exact HM2.out
     case measure=>simp [intOf]; omega
  ·have hke:k=l.length:=by omega
   subst hke
   rw [List.take_length] at HM
   have d0:=HM.out.c0
   have d1:=HM.out.c1
   have z0:=HM.out.z0
   have z1:=HM.out.z1
   have y0:=HM.out.y0
   have y1:=HM.out.y1
   have HB:Hid (Below w.heap.size w wr):=HM.out.bel
   clear HM
   obtain ⟨mm,hmm⟩:∃mm,mm=mxF (m1,m2) l:=⟨_,rfl⟩
   rw [←hmm] at d0 d1
   have HMM:Hid (mm=mxF (m1,m2) l):=hmm
   clear hmm
   go_wp2
   refine bodyPost_ret (results_cellS (ad:=⟨w.heap.size,0,none⟩) rfl rfl ?_) rfl ⟨rfl,(HB.out.setCell (Nat.le_refl _) _).setCell (Nat.le_refl _) _⟩
   have hsz:=Tryz.sizeOf131
   have hag:=Tryz.isAgg131
   go_simp
   rw [HMM.out]
   rfl
end Go.Proofs.YtdanomklbiidaaaGreatDoor

namespace Go.Proofs.YtdanomklbiidaaaGreatDoor
open Go.RowKit
open Lin
attribute [local go_sem ↓] Go.wp_at_zero Go.wp_at_succ
theorem mnF_snoc (m:Int×Int) (l:List (Int×Int)) (k:Nat) (h:k < l.length):mnF m (l.take (k+1))=if trn (l.getD k (0,0)) (mnF m (l.take k)) < 0 then l.getD k (0,0) else mnF m (l.take k):=by
 rw [List.take_succ_eq_append_getElem h]
 unfold mnF
 rw [List.foldl_append]
 have e:l.getD k (0,0)=l[k]:=by simp [h]
 rw [e]
 rfl
set_option maxRecDepth 100000 in
set_option maxHeartbeats 1600000 in
theorem minS2_any (m0:Int×Int) (l:List (Int×Int)) (v:Value) (w:World) (hs:Sns w.heap.size w v (m0 :: l)) (hb:∀s∈m0 :: l,s.1.natAbs≤100000000∧s.2.natAbs≤100000000) (hl:l.length≤1000) :
  Calls Tryz.prog 108 #[v,.func (.func 107) #[] #[]] w fun e w'=>e=.returned (arr2 (mnF m0 l).1 (mnF m0 l).2)∧Below w.heap.size w w':=by
 obtain ⟨po,pc,hv,hcell⟩:=hs
 subst hv
 have hcell':∀i,i < l.length+1→∃b o,po=some ⟨b,o,none⟩∧b < w.heap.size∧w.cell? ⟨b,o+i*2,none⟩=some (.int .i64 ((m0 :: l).getD i (0,0)).1)∧w.cell? ⟨b,o+i*2+1,none⟩=some (.int .i64 ((m0 :: l).getD i (0,0)).2):=fun i hi=>hcell i (by simpa using hi)
 obtain ⟨b,o,rfl,hbB,hc0,hc1⟩:=hcell' 0 (by omega)
 have HC:Hid (∀W',Below w.heap.size w W'→∀i,i < l.length+1→W'.cell? ⟨b,o+i*2,none⟩=some (.int .i64 ((m0 :: l).getD i (0,0)).1)∧W'.cell? ⟨b,o+i*2+1,none⟩=some (.int .i64 ((m0 :: l).getD i (0,0)).2)):=fun W' h i hi=>by
  obtain ⟨b',o',e,_,k0,k1⟩:=hcell' i hi
  simp only [Option.some.injEq,Addr.mk.injEq,and_true] at e
  obtain ⟨rfl,rfl⟩:=e
  exact ⟨(h.cell hbB).trans k0,(h.cell hbB).trans k1⟩
 simp only [List.getD_cons_zero,Nat.zero_mul,Nat.add_zero] at hc0 hc1
 rw [List.length_cons]
 have HBD:Hid (∀s∈m0 :: l,s.1.natAbs≤100000000∧s.2.natAbs≤100000000):=hb
 clear hcell hcell' hb
 have t1:decide (((l.length+1:Nat):Int) < 1)=false:=by simp; omega
 have t2:decide ((l.length:Int)+1 < 1)=false:=by simp; omega
 have hll:(0:Int) < (l.length:Int)+1:=by omega
 obtain ⟨m1,m2⟩:=m0
 go_enter Tryz.func108,Tryz.ntmps108
 go_wp2
 go_loopw [6] (fun i wr=>∃k:Nat,k≤l.length∧i=.int .i64 (k+1)∧MB w.heap.size w (mnF (m1,m2) (l.take k)) wr) (fun i _=>l.length+1-(intOf i).toNat)
 case atStart=>exact ⟨0,Nat.zero_le _,rfl,MB.start w (m1,m2)⟩
 case round=>
  obtain ⟨k,hk,rfl,hmb⟩:=hrel
  have HM:Hid (MB w.heap.size w (mnF (m1,m2) (l.take k)) wr):=hmb
  clear hmb hc0 hc1
  by_cases hlt:k < l.length
  ·obtain ⟨a0,a1⟩:=HC.out wr HM.out.bel (k+1) (by omega)
   have HCK:Hid (∀W',Below wr.heap.size wr W'→W'.cell? ⟨b,o+(k+1)*2,none⟩=some (.int .i64 ((l.getD k (0,0)).1))∧W'.cell? ⟨b,o+(k+1)*2+1,none⟩=some (.int .i64 ((l.getD k (0,0)).2))):=fun W' h=>HC.out W' (HM.out.bel.trans (h.mono HM.out.bel.size)) (k+1) (by omega)
   have HSN:=mnF_snoc (m1,m2) l k hlt
   have hsm:l.getD k (0,0)∈(m1,m2) :: l:=by
    have e:l.getD k (0,0)=l[k]:=by simp [hlt]
    rw [e]; exact List.mem_cons_of_mem _ (List.getElem_mem _)
   have hmm:mnF (m1,m2) (l.take k)∈(m1,m2) :: l:=by
    rcases mnF_mem (l.take k) (m1,m2) with e | e
    ·rw [e]; exact List.mem_cons_self
    ·exact List.mem_cons_of_mem _ (List.mem_of_mem_take e)
   obtain ⟨bs1,bs2⟩:=HBD.out _ hsm
   obtain ⟨bm1,bm2⟩:=HBD.out _ hmm
   have HF:Hid (mnF (m1,m2) (l.take (k+1))=if trn (l.getD k (0,0)) (mnF (m1,m2) (l.take k)) < 0 then l.getD k (0,0) else mnF (m1,m2) (l.take k)):=HSN
   rw [List.getD_cons_succ] at a0 a1
   clear HSN hsm hmm
   generalize mnF (m1,m2) (l.take k)=mm at *
   generalize l.getD k (0,0)=ss at *
   obtain ⟨mm1,mm2⟩:=mm
   obtain ⟨s1,s2⟩:=ss
   dsimp only at a0 a1 bs1 bs2 bm1 bm2
   have HT:Hid (∀W',Calls Tryz.prog 107 #[.agg #[.int .i64 s1,.int .i64 s2],.agg #[.int .i64 mm1,.int .i64 mm2]] W' fun r w'=>r=.returned (.int .i64 (trn (s1,s2) (mm1,mm2)))∧Below W'.heap.size W' w'):=fun W'=>
    turn_any s1 s2 mm1 mm2 W' (by have:=mul_bd8 bm1 bs2; omega) (by have:=mul_bd8 bm2 bs1; omega)
   have c0:=HM.out.c0
   have c1:=HM.out.c1
   dsimp only at c0 c1
   generalize trn (s1,s2) (mm1,mm2)=T at *
   have kI:(k:Int)+1 < (l.length:Int)+1:=by omega
   have kI0:(0:Int)≤(k:Int)+1:=by omega
   go_upto_region 7 with fail
   go_region_law (refine step_call2v (o:={ dst:=some 26,op:=_,type:=_,pos:=_,after:=_,guard:=_ }) (by rfl) 107 _ _ _ 131 131 (by rfl) _ _ (by rfl) (by rfl) (by rfl) ⟨_,Tryz.func107,by rfl,by rfl⟩ ?_; refine (HT.out _).mono ?_; rintro e w2 ⟨rfl,hb2⟩; refine ⟨_,rfl,?_⟩; have HB2:Hid (Below wr.heap.size wr w2):=(Below.refl _ _).drew.trans hb2; clear hb2)
   all_goals
    have HM2:Hid (MB w.heap.size w (mm1,mm2) w2):=HM.out.keep HB2.out
    obtain ⟨e0,e1⟩:=HCK.out w2 HB2.out
    have d0:=HM2.out.c0
    have d1:=HM2.out.c1
    have g0:=HM2.out.f0
    have g1:=HM2.out.f1
    dsimp only at d0 d1 e0 e1
    clear a0 a1 c0 c1
    by_cases hT:T < 0
    ·have HF2:Hid (mnF (m1,m2) (l.take (k+1))=(s1,s2)):=by
      show _=_
      rw [HF.out,if_pos hT]
     clear HF
     go_wp2
     go_roundw
     case rel=>
      refine ⟨k+1,by omega,by go_num,?_⟩
      rw [HF2.out]
      exact HM2.out.put (s1,s2)
     case measure=>simp [intOf]; omega
    ·have HF2:Hid (mnF (m1,m2) (l.take (k+1))=(mm1,mm2)):=by
      show _=_
      rw [HF.out,if_neg hT]
     clear HF
     go_wp2
     go_roundw
     case rel=>
      refine ⟨k+1,by omega,by go_num,?_⟩
      rw [HF2.out]
      exact HM2.out
     case measure=>simp [intOf]; omega
  ·have hke:k=l.length:=by omega
   subst hke
   rw [List.take_length] at HM
   have d0:=HM.out.c0
   have d1:=HM.out.c1
   have z0:=HM.out.z0
   have z1:=HM.out.z1
   have y0:=HM.out.y0
   have y1:=HM.out.y1
   have HB:Hid (Below w.heap.size w wr):=HM.out.bel
   clear HM
   obtain ⟨mm,hmm⟩:∃mm,mm=mnF (m1,m2) l:=⟨_,rfl⟩
   rw [←hmm] at d0 d1
   have HMM:Hid (mm=mnF (m1,m2) l):=hmm
   clear hmm
   go_wp2
   refine bodyPost_ret (results_cellS (ad:=⟨w.heap.size,0,none⟩) rfl rfl ?_) rfl ⟨rfl,(HB.out.setCell (Nat.le_refl _) _).setCell (Nat.le_refl _) _⟩
   have hsz:=Tryz.sizeOf131
   have hag:=Tryz.isAgg131
   go_simp
   rw [HMM.out]
   rfl
end Go.Proofs.YtdanomklbiidaaaGreatDoor

namespace Go.Proofs.YtdanomklbiidaaaGreatDoor
open Go.RowKit
open Lin
attribute [local go_sem ↓] Go.wp_at_zero Go.wp_at_succ
def PrB (s:Int×Int):Prop:=s.1.natAbs≤100000000∧s.2.natAbs≤100000000
theorem turnP_any (s e:Int×Int) (hs:PrB s) (he:PrB e) (w:World) :
  Calls Tryz.prog 107 #[arr2 s.1 s.2,arr2 e.1 e.2] w fun r w'=>r=.returned (.int .i64 (trn s e))∧Below w.heap.size w w':=
 turn_any s.1 s.2 e.1 e.2 w (by have:=mul_bd8 he.1 hs.2; omega) (by have:=mul_bd8 he.2 hs.1; omega)
set_option maxRecDepth 100000 in
theorem beyondS_any (s e:Int×Int) (q:Nat) (w:World) (hs:PrB s) (he:PrB e) (c0:w.cell? ⟨q,0,none⟩=some (.int .i64 e.1)) (c1:w.cell? ⟨q,1,none⟩=some (.int .i64 e.2)) :
  Calls Tryz.prog 109 #[arr2 s.1 s.2,.pointer (some ⟨q,0,none⟩)] w fun r w'=>r=.returned (.bool (decide (0 < trn s e)))∧Below w.heap.size w w':=by
 have HT:Hid (∀W',Calls Tryz.prog 107 #[.agg #[.int .i64 s.1,.int .i64 s.2],.agg #[.int .i64 e.1,.int .i64 e.2]] W' fun r w'=>r=.returned (.int .i64 (trn s e))∧Below W'.heap.size W' w'):=fun W'=>turnP_any s e hs he W'
 have hbW:Below w.heap.size w (w.alloc (.cells #[.int .i64 s.1,.int .i64 s.2] 131)):=(Below.refl _ _).alloc (Nat.le_refl _) _
 have HBW:Hid (Below w.heap.size w (w.alloc (.cells #[.int .i64 s.1,.int .i64 s.2] 131))):=hbW
 have hq:q < w.heap.size:=lt_of_cell c0
 clear hbW
 unfold arr2
 generalize trn s e=T at *
 obtain ⟨s1,s2⟩:=s
 obtain ⟨e1,e2⟩:=e
 dsimp only at *
 go_enter Tryz.func109,Tryz.ntmps109
 go_wp2_with fail
 refine (HT.out _).mono ?_
 rintro r w2 ⟨rfl,hb2⟩
 have HB2:Hid (Below w.heap.size w w2):=HBW.out.trans (hb2.mono HBW.out.size)
 clear hb2 c0 c1
 go_wp2
 go_ret
 exact ⟨rfl,HB2.out⟩
theorem any_snocS {p:Int×Int→Bool} {m:List (Int×Int)} {k:Nat} (hk:k < m.length) (h:(m.take k).any p=false):(m.take (k+1)).any p=p (m.getD k (0,0)):=by
 rw [List.take_succ_eq_append_getElem hk,List.any_append,h]
 simp [hk]
set_option maxRecDepth 100000 in
set_option maxHeartbeats 800000 in
theorem idxS_any (m:List (Int×Int)) (e:Int×Int) (v:Value) (q:Nat) (w:World) (hv:Sns w.heap.size w v m) (hm:∀s∈m,PrB s) (hml:m.length≤1000) (he:PrB e) (hc0:w.cell? ⟨q,0,none⟩=some (.int .i64 e.1)) (hc1:w.cell? ⟨q,1,none⟩=some (.int .i64 e.2)) :
  Calls Tryz.prog 117 #[v,.func (.func 109) #[] #[.pointer (some ⟨q,0,none⟩)]] w fun r w'=>(∃z,r=.returned (.int .i64 z)∧-1≤z∧z < m.length∧decide (0≤z)=m.any fun s=>decide (0 < trn s e))∧Below w.heap.size w w':=by
 obtain ⟨po,pc,rfl,hcell⟩:=hv
 have HCE:Hid (∀W',Below w.heap.size w W'→∀i,i < m.length→∃b o,po=some ⟨b,o,none⟩∧W'.cell? ⟨b,o+i*2,none⟩=some (.int .i64 (m.getD i (0,0)).1)∧W'.cell? ⟨b,o+i*2+1,none⟩=some (.int .i64 (m.getD i (0,0)).2)):=fun W' h i hi=>by
  obtain ⟨b,o,e1,e2,e3,e4⟩:=hcell i hi
  exact ⟨b,o,e1,(h.cell e2).trans e3,(h.cell e2).trans e4⟩
 have HC:Hid (∀s∈m,∀W:World,Below w.heap.size w W→Calls Tryz.prog 109 #[.agg #[.int .i64 s.1,.int .i64 s.2],.pointer (some ⟨q,0,none⟩)] W fun r w'=>r=.returned (.bool (decide (0 < trn s e)))∧Below w.heap.size w w'):=fun s hs W hb=>
  (beyondS_any s e q W (hm s hs) he ((hb.cell (lt_of_cell hc0)).trans hc0) ((hb.cell (lt_of_cell hc1)).trans hc1)).mono fun r w' ⟨h1,h2⟩=>⟨h1,hb.trans (h2.mono hb.size)⟩
 clear hcell hc0 hc1 hm he
 obtain ⟨f,hf⟩:∃f:Int×Int→Bool,f=fun s=>decide (0 < trn s e):=⟨_,rfl⟩
 have HC':Hid (∀s∈m,∀W:World,Below w.heap.size w W→Calls Tryz.prog 109 #[.agg #[.int .i64 s.1,.int .i64 s.2],.pointer (some ⟨q,0,none⟩)] W fun r w'=>r=.returned (.bool (f s))∧Below w.heap.size w w'):=by
  rw [hf]; exact HC.out
 rw [←hf]
 clear hf HC
 go_enter Tryz.func117,Tryz.ntmps117
 go_wp2
 go_loopw [8] (fun i wr=>∃k:Nat,k≤m.length∧i=.int .i64 k∧(m.take k).any f=false∧Below w.heap.size w wr) (fun i _=>m.length-(intOf i).toNat)
 case atStart=>exact ⟨0,Nat.zero_le _,rfl,by simp,Below.refl _ _⟩
 case round=>
  obtain ⟨k,hk,rfl,hno,hb⟩:=hrel
  have HN:Hid ((m.take k).any f=false):=hno
  have HB:Hid (Below w.heap.size w wr):=hb
  clear hno hb
  by_cases hlt:k < m.length
  ·obtain ⟨b1,o1,hs,hcc0,hcc1⟩:=HCE.out wr HB.out k hlt
   subst hs
   have HS1:Hid ((m.take (k+1)).any f=f (m.getD k (0,0))):=any_snocS (p:=f) hlt HN.out
   have HME:Hid (m.getD k (0,0)∈m):=by
    show _∈_
    simp [hlt]
   have HCA:Hid (Calls Tryz.prog 109 #[.agg #[.int .i64 (m.getD k (0,0)).1,.int .i64 (m.getD k (0,0)).2],.pointer (some ⟨q,0,none⟩)] wr fun r w'=>r=.returned (.bool (f (m.getD k (0,0))))∧Below w.heap.size w w'):=HC'.out _ HME.out wr HB.out
   generalize m.getD k (0,0)=x at *
   obtain ⟨fb,hfb⟩:∃fb,fb=f x:=⟨_,rfl⟩
   have HFB:Hid (fb=f x):=hfb
   rw [←hfb] at HCA
   clear hfb
   have kI:(k:Int) < (m.length:Int):=by omega
   have kI0:(0:Int)≤(k:Int):=by omega
   go_wp2_with fail
   refine HCA.out.mono ?_
   rintro e w2 ⟨rfl,hb2⟩
   have HB2:Hid (Below w.heap.size w w2):=hb2
   clear hb2 HCA hcc0 hcc1
   cases hf:fb
   ·have HF:Hid (f x=false):=by rw [←hf]; exact HFB.out.symm
    clear hf
    go_wp2
    go_roundw
    case rel=>exact ⟨k+1,by omega,by go_num,by rw [HS1.out]; exact HF.out,HB2.out⟩
    case measure=>simp [intOf]; omega
   ·have HF:Hid (f x=true):=by rw [←hf]; exact HFB.out.symm
    clear hf
    go_wp2
    go_ret
    refine ⟨⟨_,rfl,by omega,by omega,?_⟩,HB2.out⟩
    rw [decide_eq_true (by omega)]
    exact (List.any_eq_true.2 ⟨x,HME.out,HF.out⟩).symm
  ·have HTK:Hid (m.take k=m):=List.take_of_length_le (by omega)
   go_wp2
   go_ret
   exact ⟨⟨-1,rfl,by omega,by omega,by rw [←HTK.out,HN.out]; rfl⟩,HB.out⟩
set_option maxRecDepth 100000 in
theorem hasS_any (m:List (Int×Int)) (e:Int×Int) (v:Value) (q:Nat) (w:World) (hv:Sns w.heap.size w v m) (hm:∀s∈m,PrB s) (hml:m.length≤1000) (he:PrB e) (hc0:w.cell? ⟨q,0,none⟩=some (.int .i64 e.1)) (hc1:w.cell? ⟨q,1,none⟩=some (.int .i64 e.2)) :
  Calls Tryz.prog 110 #[v,.func (.func 109) #[] #[.pointer (some ⟨q,0,none⟩)]] w fun r w'=>r=.returned (.bool (m.any fun s=>decide (0 < trn s e)))∧Below w.heap.size w w':=by
 have HI:Hid (Calls Tryz.prog 117 #[v,.func (.func 109) #[] #[.pointer (some ⟨q,0,none⟩)]] w fun r w'=>(∃z,r=.returned (.int .i64 z)∧-1≤z∧z < m.length∧decide (0≤z)=m.any fun s=>decide (0 < trn s e))∧Below w.heap.size w w'):=idxS_any m e v q w hv hm hml he hc0 hc1
 obtain ⟨po,pc,rfl,-⟩:=hv
 clear hm he hc0 hc1
 generalize (m.any fun s=>decide (0 < trn s e))=R at *
 go_enter Tryz.func110,Tryz.ntmps110
 go_wp2_with fail
 refine HI.out.mono ?_
 rintro e w' ⟨⟨z,rfl,hz1,hz2,hz3⟩,hb⟩
 have HZ:Hid (decide (0≤z)=R):=hz3
 have HB:Hid (Below w.heap.size w w'):=hb
 clear hz3 hb
 go_wp2
 go_ret
 exact ⟨by rw [←HZ.out]; rfl,HB.out⟩
end Go.Proofs.YtdanomklbiidaaaGreatDoor
