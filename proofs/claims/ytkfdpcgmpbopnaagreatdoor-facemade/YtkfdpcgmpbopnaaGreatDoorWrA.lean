import Derived.Test.YtkfdpcgmpbopnaaGreatDoorRaY
import Derived.Test.YtkfdpcgmpbopnaaGreatDoorWqA
import Derived.Deep.OwnRows
namespace Go.Proofs.YtkfdpcgmpbopnaaGreatDoor
open Go.RowKit
attribute [local go_sem ↓] Go.wp_at_zero Go.wp_at_succ
def arr2 (a b:Int):Value:=.agg #[.int .i64 a,.int .i64 b]
set_option maxRecDepth 100000 in
theorem turn_any (a b c e:Int) (w:World) (h1 : -4000000000000000000≤c*b∧c*b≤4000000000000000000) (h2 : -4000000000000000000≤e*a∧e*a≤4000000000000000000) :
  Calls Tryz.prog 123 #[arr2 a b,arr2 c e] w fun r w'=>r=.returned (.int .i64 (c*b-e*a))∧Below w.heap.size w w':=by
 unfold arr2
 obtain ⟨h1a,h1b⟩:=h1
 obtain ⟨h2a,h2b⟩:=h2
 go_enter Tryz.func123,Tryz.ntmps123
 go_wp2
 go_ret
 exact ⟨rfl,((Below.refl _ _).alloc (Nat.le_refl _) _).alloc (by rw [size_alloc]; omega) _⟩
end Go.Proofs.YtkfdpcgmpbopnaaGreatDoor
namespace Go.Proofs.YtkfdpcgmpbopnaaGreatDoor
open Go.RowKit
attribute [local go_sem ↓] Go.wp_at_zero Go.wp_at_succ
def Sns (B:Nat) (w:World) (v:Value) (es:List (Int×Int)):Prop:=
 ∃po pc,v=.slice po es.length pc∧∀i,i < es.length→∃b o,po=some ⟨b,o,none⟩∧b < B∧w.cell? ⟨b,o+i*2,none⟩=some (.int .i64 (es.getD i (0,0)).1)∧w.cell? ⟨b,o+i*2+1,none⟩=some (.int .i64 (es.getD i (0,0)).2)
theorem Sns.below {B N:Nat} {w w':World} {v:Value} {es:List (Int×Int)} (h:Sns B w v es) (hb:Below N w w') (hN:B≤N):Sns B w' v es:=by
 obtain ⟨po,pc,h1,h2⟩:=h
 refine ⟨po,pc,h1,fun i hi=>?_⟩
 obtain ⟨b,o,e,l,c1,c2⟩:=h2 i hi
 exact ⟨b,o,e,l,(hb.cell (by show b < N; omega)).trans c1,(hb.cell (by show b < N; omega)).trans c2⟩
theorem Sns.more {B B':Nat} {w:World} {v:Value} {es:List (Int×Int)} (h:Sns B w v es) (hB:B≤B'):Sns B' w v es:=by
 obtain ⟨po,pc,h1,h2⟩:=h
 refine ⟨po,pc,h1,fun i hi=>?_⟩
 obtain ⟨b,o,e,l,c⟩:=h2 i hi
 exact ⟨b,o,e,by omega,c⟩
def prV (es:List (Int×Int)):List Value:=es.flatMap fun e=>[.int .i64 e.1,.int .i64 e.2]
theorem prV_len:∀es:List (Int×Int),(prV es).length=es.length*2
 | []=>rfl
 | e :: es=>by
  have:=prV_len es
  unfold prV at this ⊢
  simp only [List.flatMap_cons,List.length_append,List.length_cons,List.length_nil]
  omega
theorem prV_get:∀(es:List (Int×Int)) (i:Nat) (e:Int×Int),es[i]?=some e→(prV es)[i*2]?=some (.int .i64 e.1)∧(prV es)[i*2+1]?=some (.int .i64 e.2)
 | [],i,e,h=>by simp at h
 | x :: es,0,e,h=>by
  simp only [List.getElem?_cons_zero,Option.some.injEq] at h
  subst h
  exact ⟨rfl,rfl⟩
 | x :: es,i+1,e,h=>by
  simp only [List.getElem?_cons_succ] at h
  have:=prV_get es i e h
  have e1:(i+1)*2=i*2+1+1:=by omega
  have e2:prV (x :: es)=.int .i64 x.1 :: .int .i64 x.2 :: prV es:=rfl
  rw [e1,e2]
  exact this
theorem infoS2:(Tryz.prog.info? 132).map (fun i=>(i.zero,i.size,i.bytes))=some (some (.agg #[.int .i64 0,.int .i64 0]),2,16):=by kernel_rfl
theorem two_newS (w:World) (x y:Value) (t:TypeId):∀j u,[x,y][j]?=some u→(w.alloc (.cells #[x,y] t)).cell? ((⟨w.heap.size,0,none⟩:Addr).add j)=some u:=fun j u hj=>by
 rcases j with _ | _ | j
 ·simp at hj; subst hj; simp [Addr.add]
 ·simp at hj; subst hj; simp [Addr.add]
 ·simp at hj
theorem two_intS (a b:Int):∀u∈[Value.int .i64 a,.int .i64 b],u.oneCell'=true:=fun u hu=>by
 simp at hu
 rcases hu with rfl | rfl <;> rfl
theorem Sns.own {B:Nat} {w:World} {v:Value} {es:List (Int×Int)} (h:w.ownsRow B 132 2 v es.length (prV es)):Sns w.heap.size w v es:=by
 rcases h.2 with ⟨e,h0⟩ | ⟨g,cap,cur,e1,h2,h3,h4,h5,h6,h7⟩
 ·exact ⟨none,0,by rw [e,h0],fun i hi=>by omega⟩
 ·refine ⟨some ⟨g,0,none⟩,cap,e1,fun i hi=>⟨g,0,rfl,(Array.getElem?_eq_some_iff.1 h3).1,?_⟩⟩
  obtain ⟨k1,k2⟩:=prV_get es i es[i] (List.getElem?_eq_getElem hi)
  have hel:=prV_len es
  have hce:∀j u,(prV es)[j]?=some u→w.cell? ⟨g,0+j,none⟩=some u:=fun j u hj=>by
   have hj2:=(List.getElem?_eq_some_iff.1 hj).1
   rw [←h7,List.getElem?_take_of_lt (by omega),Array.getElem?_toList] at hj
   simp [World.cell?,h3,hj]
  have e2:es.getD i (0,0)=es[i]:=by simp [hi]
  rw [e2]
  exact ⟨hce _ _ k1,hce _ _ k2⟩
end Go.Proofs.YtkfdpcgmpbopnaaGreatDoor
