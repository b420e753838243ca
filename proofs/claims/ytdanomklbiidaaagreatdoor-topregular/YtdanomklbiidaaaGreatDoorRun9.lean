import Derived.Test.YtdanomklbiidaaaGreatDoorMgAD
import Derived.Test.YtdanomklbiidaaaGreatDoorMgAB
import Derived.Lib.JoinLaws
import Derived.Deep.Cut
import Derived.Laws.MakeOwn
namespace Go.Proofs.YtdanomklbiidaaaGreatDoor
open Go.RowKit Lin
attribute [local go_sem ↓] Go.wp_at_zero Go.wp_at_succ
structure GS (B R t c:Nat) (mat:Nat→Nat→Int) (rv pv:Value) (bs caps:Nat→Nat) (w:World):Prop where
 st:w.heap[R]?=some (.cells #[rv,pv,.int .i64 1,.int .i64 1] 78 (0,0))
 out:w.ownsRow B 22 1 rv t ((List.range t).map fun i=>.slice (some ⟨bs i,0,none⟩) c (caps i))
 row:∀i,i < t→w.ownsRow B 3 1 (.slice (some ⟨bs i,0,none⟩) c (caps i)) c (ints ((List.range c).map (mat i)))
 inj:∀i j,i < t→j < t→i≠j→bs i≠bs j
 piv:w.ownsRow B 3 1 pv 0 []
 off:∀g,pv.ownBlock=some g→∀i,i < t→bs i≠g
theorem GS.push {B R t c g uc:Nat} {mat:Nat→Nat→Int} {rv pv v':Value} {bs caps:Nat→Nat} {w w2 w3:World} {o:Obj} (h:GS B R t c mat rv pv bs caps w) (hB:B≤w.heap.size) (hb:Below w.heap.size w w2)
  (hu:w2.ownsRow w.heap.size 3 1 (.slice (some ⟨g,0,none⟩) c uc) c (ints ((List.range c).map (mat t)))) (hg:(w2.alloc o).grownBy w3 rv.ownBlock)
  (ho:w3.ownsRow B 22 1 v' (t+1) (((List.range t).map fun i=>.slice (some ⟨bs i,0,none⟩) c (caps i)) ++ [.slice (some ⟨g,0,none⟩) c uc])) (hat:v'.ownBlock=rv.ownBlock∨v'.ownBlock=some (w2.alloc o).heap.size) :
  GS B R (t+1) c mat v' pv (fun i=>if i=t then g else bs i) (fun i=>if i=t then uc else caps i) (w3.setCell ⟨R,0,none⟩ v')∧w3.cell? ⟨R,0,none⟩=some rv∧w3.frozen? ⟨R,0,none⟩=false∧Below B w w3:=by
 have hR:=lt_of_block h.st
 have hsz:(w2.alloc o).heap.size=w2.heap.size+1:=by simp
 have h2s:=hb.size
 have hrv:∀k,rv.ownBlock=some k→∃cur,w.heap[k]?=some (.cells cur 22 (0,0))∧B≤k:=by
  intro k hk
  rcases h.out.2 with ⟨e,_⟩ | ⟨g',cap,cur,e,hb',hh,_⟩
  ·rw [e] at hk; simp [Value.ownBlock] at hk
  ·rw [e] at hk; simp [Value.ownBlock] at hk; subst hk; exact ⟨cur,hh,hb'⟩
 have hst:=h.st
 have hrR:rv.ownBlock≠some R:=by
  intro e; obtain ⟨cur,h1,_⟩:=hrv R e; rw [hst] at h1; simp at h1
 have keep:∀b,b < w2.heap.size→rv.ownBlock≠some b→w3.heap[b]?=w2.heap[b]?:=by
  intro b h1 h2
  rw [hg.block b (by omega) (fun e=>h2 e.symm),Below.heap_alloc _ _ _ h1]
 have hR3:w3.heap[R]?=some (.cells #[rv,pv,.int .i64 1,.int .i64 1] 78 (0,0)):=by
  rw [keep R (by omega) hrR,hb.block R hR]; exact hst
 have hbel:Below B w w3:=(((hb.mono hB).alloc (by omega) o)).grown hg (by omega) (fun k hk=>(hrv k hk).choose_spec.2)
 have hv'R:v'.ownBlock≠some R:=by
  rcases hat with e | e
  ·rw [e]; exact hrR
  ·rw [e,hsz]; simp; omega
 have ints3:∀{B' n':Nat} {v:Value} {xs:List Value},w2.ownsRow B' 3 1 v n' xs→B≤B'→(w3.setCell ⟨R,0,none⟩ v').ownsRow B 3 1 v n' xs:=by
  intro B' n' v xs hv hBB
  refine ⟨hv.1,?_⟩
  rcases hv.2 with q2 | ⟨b,cap,cur,rfl,r1,r2,r3⟩
  ·exact Or.inl q2
  ·have n1:b≠R:=by
    rintro rfl; rw [hb.block b hR,hst] at r2; simp at r2
   have n2:rv.ownBlock≠some b:=by
    intro e; obtain ⟨cur',h1,_⟩:=hrv b e
    rw [hb.block b (lt_of_block h1),h1] at r2; simp at r2
   exact Or.inr ⟨b,cap,cur,rfl,by omega,by rw [Below.heap_setCell _ _ _ _ n1,keep b (lt_of_block r2) n2]; exact r2,r3⟩
 have hgw:w.heap.size≤g:=(hu.lt g (by simp [Value.ownBlock])).1
 refine ⟨⟨?_,?_,fun i hi=>?_,fun i j hi hj hij=>?_,ints3 (owns_below h.piv hb (Nat.le_refl _)) (Nat.le_refl _),fun g' hg' i hi=>?_⟩,by simp [World.cell?,hR3],by simp [World.frozen?,hR3],hbel⟩
 ·simp [World.setCell,Array.getElem?_modify,hR3]
 ·have h1:=ownsRow_setCell_other ho (a:=⟨R,0,none⟩) hv'R v'
  have e:((List.range (t+1)).map fun i=>Value.slice (some ⟨if i=t then g else bs i,0,none⟩) c (if i=t then uc else caps i))=((List.range t).map fun i=>.slice (some ⟨bs i,0,none⟩) c (caps i)) ++ [.slice (some ⟨g,0,none⟩) c uc]:=by
   rw [List.range_succ,List.map_append]
   congr 1
   ·refine List.map_congr_left fun i hi=>?_
    have:i < t:=by simpa using hi
    simp [show i≠t by omega]
   ·simp
  rw [e]; exact h1
 ·by_cases e:i=t
  ·subst e; simpa using ints3 hu hB
  ·simp only [e,if_false]
   exact ints3 (owns_below (h.row i (by omega)) hb (Nat.le_refl _)) (Nat.le_refl _)
 ·by_cases e:i=t
  ·subst e
   have hji:j≠i:=fun h=>hij h.symm
   simp only [if_true,hji,if_false]
   have:=(h.row j (by omega)).lt (bs j) (by simp [Value.ownBlock]); omega
  ·by_cases e2:j=t
   ·subst e2
    simp only [if_true,e,if_false]
    have:=(h.row i (by omega)).lt (bs i) (by simp [Value.ownBlock]); omega
   ·simp only [e,e2,if_false]
    exact h.inj i j (by omega) (by omega) hij
 ·by_cases e:i=t
  ·subst e
   simp only [if_true]
   have:=(h.piv.lt g' hg').2; omega
  ·simp only [e,if_false]
   exact h.off g' hg' i (by omega)
theorem GS.rs {B R n c:Nat} {mat:Nat→Nat→Int} {rv pv:Value} {bs caps:Nat→Nat} {w:World} (h:GS B R n c mat rv pv bs caps w) (hn:0 < n):∃go capo,RS B R n c mat [] 1 1 go capo pv bs caps w:=by
 rcases h.out.2 with ⟨_,e⟩ | ⟨go,capo,cur,e,_⟩
 ·omega
 ·subst e
  exact ⟨go,capo,h.st,h.out,h.row,h.inj,h.piv,h.off⟩
theorem GS.ls0 {B R n c ra rc:Nat} {mat:Nat→Nat→Int} {pv:Value} {bs caps:Nat→Nat} {w:World} (h:GS B R n c mat (.slice (some ⟨ra,0,none⟩) n rc) pv bs caps w):LS B R n c mat 0 w:=by
 refine ⟨mat,fun _=>0,0,1,Red.start _ _ _,ra,rc,pv,bs,caps,?_⟩
 have e:dk mat (fun _=>0) 0=1:=by simp [dk,cols,srows,od]
 rw [e]
 have hr:RS B R n c mat [] 1 1 ra rc pv bs caps w:=⟨h.st,h.out,h.row,h.inj,h.piv,h.off⟩
 exact hr.congr fun i _ j _=>(rr_zero _ _ _ _).symm
theorem alloc_at (w:World) (o:Obj):(w.alloc o).heap[w.heap.size]?=some o:=by
 show (w.heap.push o)[w.heap.size]?=_
 simp
def mOf (m:List (List Int)):Nat→Nat→Int:=fun i j=>(m.getD i []).getD j 0
theorem RS.above {B R n c:Nat} {mat:Nat→Nat→Int} {piv:List Int} {val sgn:Int} {go capo:Nat} {pv:Value} {bs caps:Nat→Nat} {w w':World} (h:RS B R n c mat piv val sgn go capo pv bs caps w) (hR:B≤R) (hb:∀b,B≤b→w'.heap[b]?=w.heap[b]?) :
  RS B R n c mat piv val sgn go capo pv bs caps w':=by
 have own:∀{e:TypeId} {n':Nat} {v:Value} {xs:List Value},w.ownsRow B e 1 v n' xs→w'.ownsRow B e 1 v n' xs:=by
  intro e n' v xs hv
  refine ⟨hv.1,?_⟩
  rcases hv.2 with q2 | ⟨b,cap,cur,rfl,r1,r2,r3⟩
  ·exact Or.inl q2
  ·exact Or.inr ⟨b,cap,cur,rfl,r1,by rw [hb b r1]; exact r2,r3⟩
 exact ⟨by rw [hb R hR]; exact h.st,own h.out,fun i hi=>own (h.row i hi),h.inj,own h.piv,h.off⟩
theorem RS.whole {B B' R n c:Nat} {mat:Nat→Nat→Int} {piv:List Int} {val sgn:Int} {go capo:Nat} {pv:Value} {bs caps:Nat→Nat} {w:World} (h:RS B R n c mat piv val sgn go capo pv bs caps w) :
  Mat B' 22 3 w (.slice (some ⟨go,0,none⟩) n capo) (rowsOf n c mat):=by
 have ho:=h.out
 obtain ⟨q1,q2⟩:=h.out
 rcases q2 with ⟨q2,_⟩ | ⟨g,cap,cur,q2,_⟩
 ·simp at q2
 ·simp only [Value.slice.injEq,Option.some.injEq,Addr.mk.injEq,and_true,true_and] at q2
  obtain ⟨rfl,rfl⟩:=q2
  refine ⟨(List.range n).map fun i=>Value.slice (some ⟨bs i,0,none⟩) c (caps i),by simp [rowsOf],Sl.own ho,fun i hi=>?_⟩
  have hi':i < n:=by simpa [rowsOf] using hi
  have e1:((List.range n).map fun i=>Value.slice (some ⟨bs i,0,none⟩) c (caps i)).getD i (.slice none 0 0)=.slice (some ⟨bs i,0,none⟩) c (caps i):=by simp [hi']
  have e2:(rowsOf n c mat).getD i []=(List.range c).map (mat i):=by simp [rowsOf,hi']
  rw [e1,e2]
  exact Sl.own (h.row i hi')
theorem row_range {m:List (List Int)} {c t:Nat} (hw:∀r∈m,r.length=c) (ht:t < m.length):(List.range c).map (mOf m t)=m.getD t []:=by
 have hl:(m.getD t []).length=c:=by
  rw [List.getD_eq_getElem?_getD,List.getElem?_eq_getElem ht]; exact hw _ (List.getElem_mem ht)
 apply List.ext_getElem?
 intro j
 by_cases hj:j < c
 ·rw [List.getElem?_map,List.getElem?_range hj]
  unfold mOf
  show some ((m.getD t []).getD j 0)=(m.getD t [])[j]?
  rw [List.getD_eq_getElem?_getD (l:=m.getD t []),List.getElem?_eq_getElem (show j < (m.getD t []).length by omega)]; rfl
 ·rw [List.getElem?_eq_none (by simp; omega),List.getElem?_eq_none (by omega)]
theorem own_some {B n:Nat} {e:TypeId} {w:World} {u:Value} {xs:List Value} (h:w.ownsRow B e 1 u n xs) (hn:0 < n):∃g uc,u=.slice (some ⟨g,0,none⟩) n uc:=by
 rcases h.2 with ⟨_,e⟩ | ⟨g,cap,cur,e,_⟩
 ·omega
 ·exact ⟨g,cap,e⟩
theorem own_some3 {B n:Nat} {e:TypeId} {w:World} {u:Value} {xs:List Value} (h:w.ownsRow B e 1 u n xs) (hn:0 < n):∃g n2 uc,u=.slice (some ⟨g,0,none⟩) n2 uc:=by
 obtain ⟨g,uc,e⟩:=own_some h hn
 exact ⟨g,n,uc,e⟩
theorem alloc_heapK (w:World) (o:Obj):(w.alloc o).heap=w.heap.push o:=rfl
theorem drew_heapK (w:World):w.drew.heap=w.heap:=rfl
theorem GS.start {B R n c a b:Nat} {mat:Nat→Nat→Int} {W:World} {f g:Nat→Nat} (hR:W.heap[R]?=some (.cells #[.slice (some ⟨a,0,none⟩) 0 n,.slice (some ⟨b,0,none⟩) 0 c,.int .i64 1,.int .i64 1] 78 (0,0)))
  (ha:W.heap[a]?=some (.cells (madeCells #[.slice none 0 0] n) 22 (0,0))) (hb:W.heap[b]?=some (.cells (madeCells #[.int .i64 0] c) 3 (0,0))) (ha':B≤a) (hb':B≤b) (hn:n≤maxLen) (hc:c≤maxLen) :
  GS B R 0 c mat (.slice (some ⟨a,0,none⟩) 0 n) (.slice (some ⟨b,0,none⟩) 0 c) f g W:=
 ⟨hR,⟨by simp,Or.inr ⟨a,n,_,rfl,ha',ha,Nat.zero_le _,hn,by rw [size_madeCells]; omega,by simp⟩⟩,fun i hi=>absurd hi (by omega),fun i j hi=>absurd hi (by omega),
  ⟨by simp,Or.inr ⟨b,c,_,rfl,hb',hb,Nat.zero_le _,hc,by rw [size_madeCells]; omega,by simp⟩⟩,fun _ _ i hi=>absurd hi (by omega)⟩
set_option linter.unusedSimpArgs false in
set_option maxRecDepth 100000 in
set_option maxHeartbeats 4000000 in
theorem reduce_any0 (B0 c:Nat) (m:List (List Int)) (v:Value) (w:World) (hv:Mat B0 22 3 w v m) (hm:m.length≤500) (hc0:0 < c) (hc:c≤64) (hw:∀r∈m,r.length=c) (hbd:Bd (mOf m) m.length c) :
  Calls Tryz.prog 53 #[v,.int .i64 c] w fun e w'=>∃M' C k sgn,Red (mOf m) m.length c M' C k sgn∧∃rv pv,e=.returned (.agg #[rv,pv,.int .i64 (dk M' C k),.int .i64 sgn])∧
   Mat w.heap.size 22 3 w' rv (rowsOf m.length c (rr M' C k))∧Sl w.heap.size 3 w' pv (ints ((List.range k).map fun b=>(C b:Int)))∧Below w.heap.size w w':=by
 obtain ⟨i3,hi3,hz30,hz31,hz32⟩:=info_parts Tryz.info22
 obtain ⟨ao,cap,hvv,hcap,hcm⟩:=mat_open hv
 subst hvv
 have HV:Hid (Mat B0 22 3 w (.slice ao m.length cap) m):=hv
 have HBD:Hid (Bd (mOf m) m.length c):=hbd
 have HW:Hid (∀r∈m,r.length=c):=hw
 clear hv hbd hw
 have hmL:=run_make_room (P:=Tryz.prog) 23 22 (.slice none 0 0) 24 Tryz.underlying23 Tryz.info22 rfl .i64 .i64 m.length (by omega) (by omega)
 have hmI:=run_make_room (P:=Tryz.prog) 22 3 (.int .i64 0) 8 Tryz.underlying22 Tryz.info3 rfl .i64 .i64 c (by omega) (by omega)
 go_enter Tryz.func53,Tryz.ntmps53
 go_upto_region 1 with fail
 go_cut [5] from 9 (fun x wx=>∃R rv pv,x=.pointer (some ⟨R,0,none⟩)∧w.heap.size+1≤R∧GS (w.heap.size+1) R 0 c (mOf m) rv pv (fun _=>0) (fun _=>0) wx∧Below w.heap.size w wx∧wx.heap[w.heap.size]?=some (.cells #[.slice none 0 0,.slice none 0 0,.int .i64 0,.int .i64 0] 78 (0,0))∧∃ra rcp,rv=.slice (some ⟨ra,0,none⟩) 0 rcp)
 case first=>
  go_region_law fail
  all_goals go_wp2
  all_goals go_meet
  all_goals (have n1:(w.heap.size=w.heap.size+1+1+1)=False:=by simp; omega)
  all_goals (have n2:(w.heap.size=w.heap.size+1+1)=False:=by simp; omega)
  all_goals first
   | (refine ⟨_,.slice (some ⟨w.heap.size+1,0,none⟩) 0 m.length,.slice (some ⟨w.heap.size+1+1,0,none⟩) 0 c,rfl,?g0,GS.start ?g1 ?g2 ?g3 ?g4 ?g5 ?g6 ?g7,?g8,?g9,_,_,rfl⟩; (case g1=>simp [alloc_heapK,drew_heapK,Array.getElem_push]); (case g2=>simp [alloc_heapK,drew_heapK,Array.getElem_push]); (case g3=>simp [alloc_heapK,drew_heapK,Array.getElem_push]); (case g0=>omega); (case g4=>omega); (case g5=>omega); (case g6=>unfold maxLen; omega); (case g7=>unfold maxLen; omega); (case g8=>repeat first | exact Below.refl _ _ | refine Below.drew ?_ | refine Below.setCell ?_ (by simp; try omega) _ | refine Below.alloc ?_ (by simp; try omega) _); (case g9=>simp [alloc_heapK,drew_heapK,Array.getElem?_push,n1,n2]))
   | (refine ⟨_,.slice (some ⟨w.heap.size+1,0,none⟩) 0 m.length,.slice (some ⟨w.heap.size+1+1+1,0,none⟩) 0 c,rfl,?g0,GS.start ?g1 ?g2 ?g3 ?g4 ?g5 ?g6 ?g7,?g8,?g9,_,_,rfl⟩; (case g1=>simp [alloc_heapK,drew_heapK,Array.getElem_push]); (case g2=>simp [alloc_heapK,drew_heapK,Array.getElem_push]); (case g3=>simp [alloc_heapK,drew_heapK,Array.getElem_push]); (case g0=>omega); (case g4=>omega); (case g5=>omega); (case g6=>unfold maxLen; omega); (case g7=>unfold maxLen; omega); (case g8=>repeat first | exact Below.refl _ _ | refine Below.drew ?_ | refine Below.setCell ?_ (by simp; try omega) _ | refine Below.alloc ?_ (by simp; try omega) _); (case g9=>simp [alloc_heapK,drew_heapK,Array.getElem?_push,n1,n2]))
   | (refine ⟨_,.slice (some ⟨w.heap.size+1+1,0,none⟩) 0 m.length,.slice (some ⟨w.heap.size+1,0,none⟩) 0 c,rfl,?g0,GS.start ?g1 ?g2 ?g3 ?g4 ?g5 ?g6 ?g7,?g8,?g9,_,_,rfl⟩; (case g1=>simp [alloc_heapK,drew_heapK,Array.getElem_push]); (case g2=>simp [alloc_heapK,drew_heapK,Array.getElem_push]); (case g3=>simp [alloc_heapK,drew_heapK,Array.getElem_push]); (case g0=>omega); (case g4=>omega); (case g5=>omega); (case g6=>unfold maxLen; omega); (case g7=>unfold maxLen; omega); (case g8=>repeat first | exact Below.refl _ _ | refine Below.drew ?_ | refine Below.setCell ?_ (by simp; try omega) _ | refine Below.alloc ?_ (by simp; try omega) _); (case g9=>simp [alloc_heapK,drew_heapK,Array.getElem?_push,n1,n2]))
   | (refine ⟨_,.slice (some ⟨w.heap.size+1+1,0,none⟩) 0 m.length,.slice (some ⟨w.heap.size+1+1+1,0,none⟩) 0 c,rfl,?g0,GS.start ?g1 ?g2 ?g3 ?g4 ?g5 ?g6 ?g7,?g8,?g9,_,_,rfl⟩; (case g1=>simp [alloc_heapK,drew_heapK,Array.getElem_push]); (case g2=>simp [alloc_heapK,drew_heapK,Array.getElem_push]); (case g3=>simp [alloc_heapK,drew_heapK,Array.getElem_push]); (case g0=>omega); (case g4=>omega); (case g5=>omega); (case g6=>unfold maxLen; omega); (case g7=>unfold maxLen; omega); (case g8=>repeat first | exact Below.refl _ _ | refine Below.drew ?_ | refine Below.setCell ?_ (by simp; try omega) _ | refine Below.alloc ?_ (by simp; try omega) _); (case g9=>simp [alloc_heapK,drew_heapK,Array.getElem?_push,n1,n2]))
   | (refine ⟨_,.slice (some ⟨w.heap.size+1+1+1,0,none⟩) 0 m.length,.slice (some ⟨w.heap.size+1,0,none⟩) 0 c,rfl,?g0,GS.start ?g1 ?g2 ?g3 ?g4 ?g5 ?g6 ?g7,?g8,?g9,_,_,rfl⟩; (case g1=>simp [alloc_heapK,drew_heapK,Array.getElem_push]); (case g2=>simp [alloc_heapK,drew_heapK,Array.getElem_push]); (case g3=>simp [alloc_heapK,drew_heapK,Array.getElem_push]); (case g0=>omega); (case g4=>omega); (case g5=>omega); (case g6=>unfold maxLen; omega); (case g7=>unfold maxLen; omega); (case g8=>repeat first | exact Below.refl _ _ | refine Below.drew ?_ | refine Below.setCell ?_ (by simp; try omega) _ | refine Below.alloc ?_ (by simp; try omega) _); (case g9=>simp [alloc_heapK,drew_heapK,Array.getElem?_push,n1,n2]))
   | (refine ⟨_,.slice (some ⟨w.heap.size+1+1+1,0,none⟩) 0 m.length,.slice (some ⟨w.heap.size+1+1,0,none⟩) 0 c,rfl,?g0,GS.start ?g1 ?g2 ?g3 ?g4 ?g5 ?g6 ?g7,?g8,?g9,_,_,rfl⟩; (case g1=>simp [alloc_heapK,drew_heapK,Array.getElem_push]); (case g2=>simp [alloc_heapK,drew_heapK,Array.getElem_push]); (case g3=>simp [alloc_heapK,drew_heapK,Array.getElem_push]); (case g0=>omega); (case g4=>omega); (case g5=>omega); (case g6=>unfold maxLen; omega); (case g7=>unfold maxLen; omega); (case g8=>repeat first | exact Below.refl _ _ | refine Below.drew ?_ | refine Below.setCell ?_ (by simp; try omega) _ | refine Below.alloc ?_ (by simp; try omega) _); (case g9=>simp [alloc_heapK,drew_heapK,Array.getElem?_push,n1,n2]))
 case rest=>
 obtain ⟨R,rv0,pv,rfl,hR1,hgs0,hb0,hk0,hrv0⟩:=hcut
 obtain ⟨W0,hW0⟩:∃W0,W0=wc:=⟨_,rfl⟩
 rw [←hW0] at hgs0 hb0 hk0 ⊢
 obtain ⟨B,hB⟩:∃B,B=w.heap.size+1:=⟨_,rfl⟩
 rw [←hB] at hgs0 hR1
 have HR:Hid (B=w.heap.size+1):=hB
 have HBR:Hid (B≤R):=hR1
 have HG0:Hid (GS B R 0 c (mOf m) rv0 pv (fun _=>0) (fun _=>0) W0):=hgs0
 have HB0:Hid (Below w.heap.size w W0):=hb0
 have HS0:Hid (B≤W0.heap.size):=Nat.le_trans hR1 (Nat.le_of_lt (lt_of_block hgs0.st))
 have HRV:Hid (∃ra rcp,rv0=.slice (some ⟨ra,0,none⟩) 0 rcp):=hrv0
 have HK0:Hid (W0.heap[w.heap.size]?=some (.cells #[.slice none 0 0,.slice none 0 0,.int .i64 0,.int .i64 0] 78 (0,0))):=hk0
 clear hW0 hR1 hgs0 hb0 hk0 hB hmL hmI hrv0
 go_wp2
 go_loopw [17,7] (fun i _ wr=>∃t:Nat,t≤m.length∧i=.int .i64 t∧Below B W0 wr∧∃rv bs caps,GS B R t c (mOf m) rv pv bs caps wr∧∃ra n2 rcp,rv=.slice (some ⟨ra,0,none⟩) n2 rcp) (fun i _ _=>m.length-(intOf i).toNat)
 case atStart=>
  obtain ⟨ra,rcp,e⟩:=HRV.out
  exact ⟨0,Nat.zero_le _,rfl,Below.refl _ _,_,_,_,HG0.out,ra,0,rcp,e⟩
 case round=>
  obtain ⟨t,ht,rfl,hbel,rv,bs,caps,hgs,hsome⟩:=hrel
  obtain ⟨ro,rc,hrv⟩:=owns_form hgs.out
  subst hrv
  have HSM:Hid (∃ra,ro=some ⟨ra,0,none⟩):=by
   obtain ⟨ra,n2,rcp,e⟩:=hsome
   simp only [Value.slice.injEq] at e
   exact ⟨ra,e.1⟩
  clear hsome
  have HGS:Hid (GS B R t c (mOf m) (.slice ro t rc) pv bs caps wr):=hgs
  have HBL:Hid (Below B W0 wr):=hbel
  have HBW:Hid (Below w.heap.size w wr):=HB0.out.trans (hbel.mono (by rw [HR.out]; omega))
  have HRW:Hid (R < wr.heap.size):=lt_of_block hgs.st
  have g0:wr.cell? ⟨R,0,none⟩=some (.slice ro t rc):=by simp [World.cell?,hgs.st]
  clear hgs hbel
  by_cases htn:t < m.length
  ·obtain ⟨b,o,cap2,u,hv1,_,hcc,hsl⟩:=mat_cell (HV.out.below HBW.out (Nat.le_refl _)) htn
   simp only [Value.slice.injEq,true_and] at hv1
   obtain ⟨rfl,rfl⟩:=hv1
   have hlen:(m.getD t []).length=c:=by
    rw [List.getD_eq_getElem?_getD,List.getElem?_eq_getElem htn]; exact HW.out _ (List.getElem_mem htn)
   obtain ⟨xo,xc,hu,_,_⟩:=sl_open hsl
   rw [hlen] at hu
   subst hu
   have HCL:Hid (Calls Tryz.prog 31 #[.slice xo c xc] wr.drew fun e w2=>∃g uc,e=.returned (.slice (some ⟨g,0,none⟩) c uc)∧w2.ownsRow wr.heap.size 3 1 (.slice (some ⟨g,0,none⟩) c uc) c (ints ((List.range c).map (mOf m t)))∧Below wr.heap.size wr w2):=by
    refine (clone_any B0 (m.getD t []) _ wr.drew hsl.drew (by omega)).mono ?_
    rintro e w2 ⟨u,rfl,h1,h2⟩
    rw [hlen] at h1
    obtain ⟨g,uc,rfl⟩:=own_some h1 hc0
    exact ⟨g,uc,rfl,by rw [row_range HW.out htn]; exact h1,⟨h2.os,h2.tape,h2.output,h2.size,h2.block⟩⟩
   have HFL:Hid (∀w2 g uc o v' w3,w2.ownsRow wr.heap.size 3 1 (.slice (some ⟨g,0,none⟩) c uc) c (ints ((List.range c).map (mOf m t)))→Below wr.heap.size wr w2→(w2.alloc o).grownBy w3 (Value.slice ro t rc).ownBlock→
     w3.ownsRow B 22 1 v' (t+1) (((List.range t).map fun i=>.slice (some ⟨bs i,0,none⟩) c (caps i)) ++ [.slice (some ⟨g,0,none⟩) c uc])→(v'.ownBlock=(Value.slice ro t rc).ownBlock∨v'.ownBlock=some (w2.alloc o).heap.size)→
     GS B R (t+1) c (mOf m) v' pv (fun i=>if i=t then g else bs i) (fun i=>if i=t then uc else caps i) (w3.setCell ⟨R,0,none⟩ v')∧w3.cell? ⟨R,0,none⟩=some (.slice ro t rc)∧w3.frozen? ⟨R,0,none⟩=false∧Below B wr w3):=
    fun w2 g uc o v' w3 a1 a2 a3 a4 a5=>HGS.out.push (Nat.le_trans HBR.out (Nat.le_of_lt HRW.out)) a2 a1 a3 a4 a5
   have HC2:Hid (∀w2,Below wr.heap.size wr w2→w2.cell? ⟨R,0,none⟩=some (.slice ro t rc)∧R < w2.heap.size∧w2.ownsRow B 22 1 (.slice ro t rc) t ((List.range t).map fun i=>.slice (some ⟨bs i,0,none⟩) c (caps i))):=
    fun _ h=>⟨(h.cell HRW.out).trans g0,Nat.lt_of_lt_of_le HRW.out h.size,owns_below HGS.out.out h (Nat.le_refl _)⟩
   have htm:t+1≤maxLen:=by unfold maxLen; omega
   have hRw:R < wr.heap.size:=HRW.out
   clear hsl hlen
   go_wp2
   go_region_law (first
    | (refine step_call (o:={ dst:=some 24,op:=_,type:=_,pos:=_,after:=_,guard:=_ }) (by rfl) 31 _ 22 (by rfl) _ (by rfl) ⟨_,Tryz.func31,by rfl,by rfl⟩ ?_; refine (HCL.out).mono ?_; rintro e w2 ⟨g,uc,rfl,ho2,hb2⟩; refine ⟨_,rfl,?_⟩; have OW2:Hid (w2.ownsRow wr.heap.size 3 1 (.slice (some ⟨g,0,none⟩) c uc) c (ints ((List.range c).map (mOf m t)))):=ho2; have BE2:Hid (Below wr.heap.size wr w2):=hb2; have KS1:=(HC2.out w2 hb2).1; have KS2:=(HC2.out w2 hb2).2.1; have KS3:Hid (w2.ownsRow B 22 1 (.slice ro t rc) t ((List.range t).map fun i=>.slice (some ⟨bs i,0,none⟩) c (caps i))):=(HC2.out w2 hb2).2.2; clear ho2 hb2)
    | (refine step_append_at (o:={ dst:=some 26,op:=_,type:=_,pos:=_,after:=_,guard:=_ }) (by rfl) _ _ 23 (by rfl) B 22 i3 (.slice none 0 0) 1 24 Tryz.underlying23 hi3 hz30 hz31 hz32 rfl (by decide) _ _ _ (by rfl) (KS3.out.alloc _) ⟨w2.heap.size,0,none⟩ 1 1 [.slice (some ⟨g,0,none⟩) c uc] (by rfl) rfl (one_new _ _ _) (one_slice _ _ _) htm (by omega) (Nat.le_trans HBR.out (Nat.le_trans (Nat.le_of_lt KS2) (by simp))) ?_; intro v' w3 ho hg hat; obtain ⟨vo,vc,hv'⟩:=owns_form ho; subst hv'; have FF:Hid _:=HFL.out w2 g uc _ _ w3 OW2.out BE2.out hg ho hat; have LS1:=FF.out.2.1; have LS2:=FF.out.2.2.1))
   all_goals
    have S1:Hid (∃rv bs caps,GS B R (t+1) c (mOf m) rv pv bs caps (w3.setCell ⟨R,0,none⟩ (.slice vo (t+1) vc))∧∃ra n2 rcp,rv=.slice (some ⟨ra,0,none⟩) n2 rcp):=⟨_,_,_,FF.out.1,own_some3 FF.out.1.out (by omega)⟩
    have S2:Hid (Below B W0 (w3.setCell ⟨R,0,none⟩ (.slice vo (t+1) vc))):=(HBL.out.trans FF.out.2.2.2).setCell (by exact HBR.out) _
    clear FF hg ho hat LS1 LS2 KS1 KS2 KS3 OW2 BE2
    go_wp2
    go_roundw
    case rel=>exact ⟨t+1,by omega,by go_num,S2.out,S1.out⟩
    case measure=>simp [intOf]; omega
  ·have htn':t=m.length:=by omega
   subst htn'
   have HL0:Hid (LS B R m.length c (mOf m) 0 wr):=by
    obtain ⟨ra,e⟩:=HSM.out
    subst e
    exact HGS.out.ls0
   clear htn g0 HGS
   go_wp2
   go_loopw [30,8] (fun i _ wx=>∃q:Nat,q≤c∧i=.int .i64 q∧Below B W0 wx∧LS B R m.length c (mOf m) q wx) (fun i _ _=>c-(intOf i).toNat)
   case atStart=>exact ⟨0,Nat.zero_le _,rfl,HBL.out,HL0.out⟩
   case round=>
    obtain ⟨q,hq,rfl,hbq,hlq⟩:=hrel
    have hsz:B≤wr.heap.size:=Nat.le_trans HS0.out hbq.size
    have HBQ:Hid (Below B W0 wr):=hbq
    by_cases hqc:q < c
    ·have HP:Hid (Calls Tryz.prog 81 #[.pointer (some ⟨R,0,none⟩),.int .i64 q] wr fun e w'=>e=.returned (.tuple #[])∧LS B R m.length c (mOf m) (q+1) w'∧Below B wr w'):=pivot_step B R m.length c q (mOf m) wr hlq hsz HBR.out hm hqc HBD.out
     clear hlq hbq
     go_wp2_with fail
     refine (HP.out).mono ?_
     rintro e w2 ⟨rfl,hl2,hb2⟩
     have S1:Hid (LS B R m.length c (mOf m) (q+1) w2):=hl2
     have S2:Hid (Below B W0 w2):=HBQ.out.trans hb2
     clear hl2 hb2 HP
     go_wp2
     go_roundw
     case rel=>exact ⟨q+1,by omega,by go_num,S2.out,S1.out⟩
     case measure=>simp [intOf]; omega
    ·have hqc':q=c:=by omega
     subst hqc'
     obtain ⟨M',C,k,sgn,hred,go,capo,pv,bs,caps,hrs⟩:=hlq
     obtain ⟨po,pc,hpv⟩:=owns_form hrs.piv
     simp only [List.length_map,List.length_range] at hpv
     subst hpv
     obtain ⟨c0,c1,c2,c3,_,_,_,_⟩:=hrs.cells
     have HRD:Hid (Red (mOf m) m.length q M' C k sgn):=hred
     have HRS:Hid (RS B R m.length q (rr M' C k) ((List.range k).map fun b=>(C b:Int)) (dk M' C k) sgn go capo (.slice po k pc) bs caps wr):=hrs
     have hk:wr.heap[w.heap.size]?=some (.cells #[.slice none 0 0,.slice none 0 0,.int .i64 0,.int .i64 0] 78 (0,0)):=(hbq.block _ (by rw [HR.out]; omega)).trans HK0.out
     have k0:wr.cell? ⟨w.heap.size,0,none⟩=some (.slice none 0 0):=by simp [World.cell?,hk]
     have k1:wr.cell? ⟨w.heap.size,1,none⟩=some (.slice none 0 0):=by simp [World.cell?,hk]
     have k2:wr.cell? ⟨w.heap.size,2,none⟩=some (.int .i64 0):=by simp [World.cell?,hk]
     have k3:wr.cell? ⟨w.heap.size,3,none⟩=some (.int .i64 0):=by simp [World.cell?,hk]
     have kf:∀i,wr.frozen? ⟨w.heap.size,i,none⟩=false:=fun i=>by simp [World.frozen?,hk]
     have f0:=kf 0
     have f1:=kf 1
     have f2:=kf 2
     have f3:=kf 3
     generalize hdd:dk M' C k=dd at *
     clear hred hrs hbq hk kf hqc hq HL0 HBL HBW HRW
     have HFN:Hid (∀x0 x1 x2 x3,Mat w.heap.size 22 3 ((((wr.setCell ⟨w.heap.size,0,none⟩ x0).setCell ⟨w.heap.size,1,none⟩ x1).setCell ⟨w.heap.size,2,none⟩ x2).setCell ⟨w.heap.size,3,none⟩ x3) (.slice (some ⟨go,0,none⟩) m.length capo) (rowsOf m.length q (rr M' C k))∧
       Sl w.heap.size 3 ((((wr.setCell ⟨w.heap.size,0,none⟩ x0).setCell ⟨w.heap.size,1,none⟩ x1).setCell ⟨w.heap.size,2,none⟩ x2).setCell ⟨w.heap.size,3,none⟩ x3) (.slice po k pc) (ints ((List.range k).map fun b=>(C b:Int)))∧
       Below w.heap.size w ((((wr.setCell ⟨w.heap.size,0,none⟩ x0).setCell ⟨w.heap.size,1,none⟩ x1).setCell ⟨w.heap.size,2,none⟩ x2).setCell ⟨w.heap.size,3,none⟩ x3)):=by
      intro x0 x1 x2 x3
      have hr:=HR.out
      have h1:=HRS.out.above (w':=(((wr.setCell ⟨w.heap.size,0,none⟩ x0).setCell ⟨w.heap.size,1,none⟩ x1).setCell ⟨w.heap.size,2,none⟩ x2).setCell ⟨w.heap.size,3,none⟩ x3) HBR.out (fun b hb=>by
       have hne:b≠w.heap.size:=by omega
       rw [Below.heap_setCell _ _ _ _ hne,Below.heap_setCell _ _ _ _ hne,Below.heap_setCell _ _ _ _ hne,Below.heap_setCell _ _ _ _ hne])
      refine ⟨?_,Sl.own h1.piv,?_⟩
      ·exact h1.whole
      ·exact (((((HB0.out.trans (HBQ.out.mono (by omega))).setCell (by exact Nat.le_refl _) _).setCell (by exact Nat.le_refl _) _).setCell (by exact Nat.le_refl _) _).setCell (by exact Nat.le_refl _) _)
     have HDD:Hid (dk M' C k=dd):=hdd
     clear hdd
     go_wp2
     refine bodyPost_ret (v:=.agg #[.slice (some ⟨go,0,none⟩) m.length capo,.slice po k pc,.int .i64 dd,.int .i64 sgn]) (by simp [results,Tryz.results53,go_sem, *]) rfl ?_
     exact ⟨M',C,k,sgn,HRD.out,_,_,by rw [HDD.out],(HFN.out _ _ _ _).1,(HFN.out _ _ _ _).2.1,(HFN.out _ _ _ _).2.2⟩
theorem reduce_any (B0 c:Nat) (m:List (List Int)) (v:Value) (w:World) (hv:Mat B0 22 3 w v m) (hm:m.length≤500) (_hm0:0 < m.length) (hc0:0 < c) (hc:c≤64) (hw:∀r∈m,r.length=c) (hbd:Bd (mOf m) m.length c) :
  Calls Tryz.prog 53 #[v,.int .i64 c] w fun e w'=>∃M' C k sgn,Red (mOf m) m.length c M' C k sgn∧∃rv pv,e=.returned (.agg #[rv,pv,.int .i64 (dk M' C k),.int .i64 sgn])∧
   Mat w.heap.size 22 3 w' rv (rowsOf m.length c (rr M' C k))∧Sl w.heap.size 3 w' pv (ints ((List.range k).map fun b=>(C b:Int)))∧Below w.heap.size w w':=
 reduce_any0 B0 c m v w hv hm hc0 hc hw hbd
end Go.Proofs.YtdanomklbiidaaaGreatDoor
