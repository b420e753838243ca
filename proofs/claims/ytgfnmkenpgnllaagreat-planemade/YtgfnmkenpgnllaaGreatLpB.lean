import Derived.Test.YtgfnmkenpgnllaaGreatLpA
import Derived.Sort.CutIn
set_option maxRecDepth 100000
set_option maxHeartbeats 8000000
namespace Go.Proofs.YtgfnmkenpgnllaaGreat
open Go.RowKit Lin
def mW(rows:List (List Int))(g y:List Int):List Int:=(ZAv g (pks rows [] y)).take y.length
def uW(rows:List (List Int))(g y:List Int):Int:=(ZAv g (pks rows [] y)).getD y.length 0
theorem ZHp{rows:List (List Int)}{g y:List Int}(h:y∈ZAZ rows g):ZBP g (pks rows [] y)=true∧y.length≤g.length∧(∀z∈y,0≤z∧z < (rows.length:Int))∧∀i j,i < j→j < y.length→y.getD i 0 < y.getD j 0:=by
 simp only [ZAZ,ZAw,List.mem_flatMap,List.mem_range,List.mem_filter] at h;obtain ⟨m,n,a,b⟩:=h;obtain ⟨l,f,c⟩:=ZBi a
 refine ⟨b,by omega,fun z hz=>?_,fun i j hij hj=>c i j hij (by omega)⟩
 obtain ⟨i,d,rfl⟩:=List.mem_iff_getElem.1 hz
 have:=f i (by omega)
 rw [Za2,Za9 d] at this;simp only [Option.getD_some] at this;omega
theorem ZK3{d:Nat}{rows:List (List Int)}{g y:List Int}(hc:CutOk d rows)(hg:g.length=d)(hgb:∀z∈g,z.natAbs≤20)(h:y∈ZAZ rows g):WyOk rows y (mW rows g y) (uW rows g y):=by
 obtain ⟨m,o,l,_⟩:=ZHp h;have p:=hc.d3
 have b:(pks rows [] y).length=y.length:=by simp [pks]
 have f:Mx (y.length+1) 60 (ZA4 g (pks rows [] y)):=by
  rw [←b]
  refine ZHf (fun r hr z hz=>?_) (fun z hz=>by have:=hgb z hz; omega) (by omega)
  have j:r∈rows:=by
   simp only [pks,List.mem_map] at hr;obtain ⟨i,n,rfl⟩:=hr;have:=l i n
   exact ZAT (by omega)
  have:=hc.bd r j z hz;omega
 have c:∀z∈ZAv g (pks rows [] y),z.natAbs≤1296000:=fun z hz=>by
  unfold ZAv at hz;rw [b] at hz
  exact ZNE f (by omega) z hz
 have a:=(ZDG m).1;rw [b] at a
 exact ⟨by unfold mW; rw [List.length_take,a]; omega,by omega,l,fun z hz=>c z (Zaa7 hz),c _ (ZAn (by rw [a]; omega))⟩
theorem ZIp{rows:List (List Int)}{g y:List Int}(h:y∈ZAZ rows g):0 < uW rows g y:=by
 have:=ZKz (ZHp h).1;unfold wU V at this;unfold uW
 have a:(pks rows [] y).length=y.length:=by simp [pks]
 rw [a] at this;exact this
theorem ZHq{α:Type}{p:List α→Prop}(nil:p [])(append_singleton:∀l x,p l→p (l ++ [x]))(l:List α):p l:=by
 have h:∀m:List α,p m.reverse:=fun m=>by
  induction m with
  | nil=>exact nil
  | cons x m ih=>rw [List.reverse_cons]; exact append_singleton _ _ ih
 have:=h l.reverse
 rwa [List.reverse_reverse] at this
def lwS(d:Nat)(rows:List (List Int))(g:List Int):Option (List Int)→List Int→Option (List Int)
 | none,y=>some y
 | some z,y=>if sdL rows d y (mW rows g y)*uW rows g z < sdL rows d z (mW rows g z)*uW rows g y then some y else some z
def lwO(d:Nat)(rows:List (List Int))(g:List Int)(cs:List (List Int)):Option (List Int):=cs.foldl (lwS d rows g) none
theorem ZDy{d:Nat}{rows:List (List Int)}{g:List Int}{cs:List (List Int)}{y:List Int} : lwO d rows g (cs ++ [y])=lwS d rows g (lwO d rows g cs) y:=by simp [lwO,List.foldl_append]
theorem ZDa{d:Nat}{rows:List (List Int)}{g:List Int} : ∀{cs:List (List Int)} {y:List Int},lwO d rows g cs=some y→y∈cs:=by
 intro cs
 induction cs using ZHq with
 | nil=>intro y h; simp [lwO] at h
 | append_singleton cs x ih=>
  intro y h;rw [ZDy] at h
  cases hz:lwO d rows g cs with
  | none=>rw [hz] at h; simp only [lwS,Zaa9] at h; simp [h]
  | some z=>
   rw [hz] at h;simp only [lwS] at h
   split at h
   ·simp only [Zaa9] at h; simp [h]
   ·simp only [Zaa9] at h; subst h; exact List.mem_append_left _ (ih hz)
theorem ZNG{d:Nat}{rows:List (List Int)}{g:List Int}{cs:List (List Int)} : lwO d rows g cs=none↔cs=[]:=by
 constructor
 ·induction cs using ZHq with
  | nil=>intro _; rfl
  | append_singleton cs x ih=>
   intro h;rw [ZDy] at h
   cases hz:lwO d rows g cs with
   | none=>rw [hz] at h; simp [lwS] at h
   | some z=>rw [hz] at h; simp only [lwS] at h; split at h <;> simp at h
 ·rintro rfl; rfl
theorem ZK4{d:Nat}{rows:List (List Int)}{g:List Int} : ∀{cs:List (List Int)} {y:List Int},(∀x∈cs,0 < uW rows g x)→lwO d rows g cs=some y→∀x∈cs,sdL rows d y (mW rows g y)*uW rows g x≤sdL rows d x (mW rows g x)*uW rows g y:=by
 intro cs
 induction cs using ZHq with
 | nil=>intro y _ h; simp [lwO] at h
 | append_singleton cs x ih=>
  intro y p h j c
  have f:∀x∈cs,0 < uW rows g x:=fun x hx=>p x (List.mem_append_left _ hx)
  have l:0 < uW rows g x:=p x (by simp)
  rw [ZDy] at h
  cases hz:lwO d rows g cs with
  | none=>
   rw [hz] at h;have r:=ZNG.1 hz;subst r;simp only [lwS,Zaa9] at h;simp only [List.nil_append,List.mem_singleton] at c;subst c h;exact Int.le_refl _
  | some z=>
   rw [hz] at h;have n:=ih f hz;have m:=f z (ZDa hz);simp only [lwS] at h
   rcases List.mem_append.1 c with c | c
   ·have o:=n j c
    have i:=f j c
    split at h
    ·rename_i hlt
     simp only [Zaa9] at h;subst h;generalize sdL rows d z (mW rows g z)=sz at *;generalize uW rows g z=uz at *;generalize sdL rows d j (mW rows g j)=a at *;generalize uW rows g j=ua at *;generalize sdL rows d x (mW rows g x)=b at *;generalize uW rows g x=ub at *
     -- b / ub < sz / uz≤a / ua
     have v:b*uz*ua≤sz*ub*ua:=Int.mul_le_mul_of_nonneg_right (Int.le_of_lt hlt) (Int.le_of_lt i);have t:sz*ua*ub≤a*uz*ub:=Int.mul_le_mul_of_nonneg_right o (Int.le_of_lt l)
     have s:b*ua*uz≤a*ub*uz:=by
      rw [Int.mul_right_comm b ua uz,Int.mul_right_comm a ub uz];refine Int.le_trans v ?_;rw [Int.mul_right_comm sz ub ua];exact t
     exact Int.le_of_mul_le_mul_right s m
    ·simp only [Zaa9] at h
     subst h;exact o
   ·simp only [List.mem_singleton] at c
    subst c
    split at h
    ·simp only [Zaa9] at h
     subst h;exact Int.le_refl _
    ·rename_i hlt
     simp only [Zaa9] at h;subst h;omega
end Go.Proofs.YtgfnmkenpgnllaaGreat
namespace Go.Proofs.YtgfnmkenpgnllaaGreat
open Go.RowKit Go.Shelf Lin
attribute [local go_sem] Oper.semAt_some
def ZOI:Value:=.agg #[.slice none 0 0,.slice none 0 0,.int .i64 0]
def LwV(d:Nat)(rows:List (List Int))(g:List Int)(w:World)(tv:Value):Prop:=
 (gmE d rows g≠0∧tv=ZOI)∨
 ∃y co cc po pc,gmE d rows g=0∧lwO d rows g (ZAZ rows g)=some y∧tv=.agg #[.slice co y.length cc,.slice po y.length pc,.int .i64 (uW rows g y)]∧Sl 0 3 w (.slice co y.length cc) (ZAB y)∧Sl 0 3 w (.slice po y.length pc) (ZAB (mW rows g y))
theorem ZBs{w:World}{R:Nat}(a b c:Value)(h:∃x0 x1 x2,w.heap[R]?=some (.cells #[x0,x1,x2] 105 (0,0))) :
  ∃Ws,Ws=((w.setCell ⟨R,0,none⟩ a).setCell ⟨R,1,none⟩ b).setCell ⟨R,2,none⟩ c∧Ws.heap[R]?=some (.cells #[a,b,c] 105 (0,0))∧(∀k,k≠R→Ws.heap[k]?=w.heap[k]?)∧Ws.heap.size=w.heap.size∧Ws.os=w.os∧Ws.tape=w.tape∧Ws.output=w.output:=by
 obtain ⟨x0,x1,x2,d⟩:=h
 have f:(w.setCell ⟨R,0,none⟩ a).heap[R]?=some (.cells #[a,x1,x2] 105 (0,0)):=by simp [World.setCell,Array.getElem?_modify,d]
 have g:((w.setCell ⟨R,0,none⟩ a).setCell ⟨R,1,none⟩ b).heap[R]?=some (.cells #[a,b,x2] 105 (0,0)):=by rw [World.setCell]; simp [Array.getElem?_modify,f]
 refine ⟨_,rfl,by rw [World.setCell]; simp [Array.getElem?_modify,g],fun k h3=>?_,by simp [World.setCell],rfl,rfl,rfl⟩
 rw [Below.heap_setCell _ _ _ _ h3,Below.heap_setCell _ _ _ _ h3,Below.heap_setCell _ _ _ _ h3]
def Wb(L:Nat)(w:World):Prop:=∃x0 x1 x2,w.heap[L]?=some (.cells #[x0,x1,x2] 105 (0,0))
theorem Wb.frozen{L:Nat}{w:World}(h:Wb L w):w.frozen? ⟨L,0,none⟩=false∧w.frozen? ⟨L,1,none⟩=false∧w.frozen? ⟨L,2,none⟩=false:=by
 obtain ⟨a,b,c,d⟩:=h
 exact ⟨by simp [World.frozen?,d],by simp [World.frozen?,d],by simp [World.frozen?,d]⟩
theorem Wb.cells{L:Nat}{w:World}(h:Wb L w):∃x0 x1 x2,w.cell? ⟨L,0,none⟩=some x0∧w.cell? ⟨L,1,none⟩=some x1∧w.cell? ⟨L,2,none⟩=some x2:=by
 obtain ⟨a,b,c,d⟩:=h
 exact ⟨a,b,c,by simp [World.cell?,d],by simp [World.cell?,d],by simp [World.cell?,d]⟩
theorem Wb.off{L b:Nat}{w:World}(h:Wb L w)(ht:(∃cur,w.heap[b]?=some (.cells cur 22 (0,0)))∨∃cur,w.heap[b]?=some (.cells cur 3 (0,0))):b≠L:=by
 obtain ⟨a,f,c,d⟩:=h;rintro rfl;rw [d] at ht; simp at ht
theorem ZDz{L:Nat}{e:TypeId}{w W:World}{v:Value}{xs:List Value}(he:e=22∨e=3)(h:Sl 0 e w v xs)(hL:Wb L w)(hk:∀b,b < w.heap.size→b≠L→W.heap[b]?=w.heap[b]?):Sl 0 e W v xs:=
 h.move fun b hl ht=>⟨hk b hl (by
  rcases ht with ht | ht
  ·omega
  ·rcases he with rfl | rfl
   ·exact hL.off (.inl ht)
   ·exact hL.off (.inr ht)),ht⟩
theorem ZK5{L:Nat}{w W:World}{v:Value}{m:List (List Int)}(h:Mat 0 22 3 w v m)(hL:Wb L w)(hk:∀b,b < w.heap.size→b≠L→W.heap[b]?=w.heap[b]?):Mat 0 22 3 W v m:=by
 obtain ⟨c,a,f,d⟩:=h
 exact ⟨c,a,ZDz (.inl rfl) f hL hk,fun i hi=>ZDz (.inr rfl) (d i hi) hL hk⟩
def LeI(d:Nat)(rows:List (List Int))(g:List Int)(L:Nat)(S:Nat→Prop)(pre:List (List Int))(W:World):Prop:=
 (pre=[]∧W.heap[L]?=some (.cells #[.slice none 0 0,.slice none 0 0,.int .i64 0] 105 (0,0)))∨
 ∃y co cc po pc,lwO d rows g pre=some y∧W.heap[L]?=some (.cells #[.slice co y.length cc,.slice po y.length pc,.int .i64 (uW rows g y)] 105 (0,0))∧Sl 0 3 W (.slice co y.length cc) (ZAB y)∧Sl 0 3 W (.slice po y.length pc) (ZAB (mW rows g y))∧
  (∀a,co=some a→¬S a.block∧isC W a.block)∧∀a,po=some a→¬S a.block∧isC W a.block
theorem LeI.wb{d:Nat}{rows:List (List Int)}{g:List Int}{L:Nat}{S:Nat→Prop}{pre:List (List Int)}{W:World}(h:LeI d rows g L S pre W):Wb L W:=by
 rcases h with ⟨_,h⟩ | ⟨y,co,cc,po,pc,_,h,_⟩
 ·exact ⟨_,_,_,h⟩
 ·exact ⟨_,_,_,h⟩
structure LwI(d:Nat)(rows:List (List Int))(g:List Int)(w WN:World)(NB L:Nat)(S:Nat→Prop)(pre:List (List Int))(W:World):Prop where
 sn:∀b,S b→NB≤b
 kp:Kpt (fun b=>b < NB∧b≠L) WN W
 os:W.os=w.os
 tape:W.tape=w.tape
 output:W.output=w.output
 le:LeI d rows g L S pre W
theorem LeI.keep{d:Nat}{rows:List (List Int)}{g:List Int}{L:Nat}{S S':Nat→Prop}{pre:List (List Int)}{W W':World}(h:LeI d rows g L S pre W)(hL:W'.heap[L]?=W.heap[L]?)(hk:∀b,b < W.heap.size→¬S b→W'.heap[b]?=W.heap[b]?)(hs:∀b,S' b→S b∨W.heap.size≤b):LeI d rows g L S' pre W':=by
 have c:∀(a:Addr),¬S a.block∧isC W a.block→¬S' a.block∧isC W' a.block:=fun a ha=>⟨fun hx=>by
  rcases hs _ hx with h1 | h1
  ·exact ha.1 h1
  ·have:=ha.2.lt; omega,ha.2.keep (hk _ ha.2.lt ha.1)⟩
 rcases h with ⟨h1,h2⟩ | ⟨y,co,cc,po,pc,h1,h2,h3,h4,h5,h6⟩
 ·exact .inl ⟨h1,hL.trans h2⟩
 ·exact .inr ⟨y,co,cc,po,pc,h1,hL.trans h2,ZBr h3 (fun a ha hl=>hk _ hl (h5 a ha).1),ZBr h4 (fun a ha hl=>hk _ hl (h6 a ha).1),fun a ha=>c a (h5 a ha),fun a ha=>c a (h6 a ha)⟩
theorem LwI.stab{d:Nat}{rows:List (List Int)}{g:List Int}{w WN W W':World}{NB L:Nat}{S S':Nat→Prop}{pre:List (List Int)}(h:LwI d rows g w WN NB L S pre W)(hL:L < NB)(hN:NB≤WN.heap.size)(hc:Chg S W W')(hs:∀b,S' b→S b∨W.heap.size≤b):LwI d rows g w WN NB L S' pre W':=by
 have a:=h.kp.size
 refine ⟨fun b hb=>?_,h.kp.trans (Kpt.of_chg hc fun i _ hi hsi=>?_),hc.os.trans h.os,hc.tape.trans h.tape,hc.output.trans h.output,h.le.keep (hc.block L (by omega) (fun hx=>by have:=h.sn L hx; omega)) (fun b hb hsb=>hc.block b hb hsb) hs⟩
 ·rcases hs b hb with h1 | h1
  ·exact h.sn b h1
  ·omega
 ·have:=h.sn i hsi
  omega
theorem ZIq{d:Nat}{rows:List (List Int)}{g:List Int}{w WN W1 X Ws:World}{NB L:Nat}{S:Nat→Prop}{pre:List (List Int)}{y:List Int}{co mo:Option Addr}{cc mc:Nat}(hi:LwI d rows g w WN NB L S pre W1)(hL:L < NB)(hb:Below W1.heap.size W1 X)
 (g1:Ws.heap[L]?=some (.cells #[.slice co y.length cc,.slice mo y.length mc,.int .i64 (uW rows g y)] 105 (0,0)))(g2:∀k,k≠L→Ws.heap[k]?=X.heap[k]?)(g3:Ws.heap.size=X.heap.size)(g4:Ws.os=X.os)(g5:Ws.tape=X.tape)(g6:Ws.output=X.output)
 (hcs:Sl 0 3 W1 (.slice co y.length cc) (ZAB y))(hms:Sl 0 3 W1 (.slice mo y.length mc) (ZAB (mW rows g y)))(hcb:∀a,co=some a→¬S a.block∧isC W1 a.block)(hmb:∀a,mo=some a→¬S a.block∧isC W1 a.block)(hlw:lwO d rows g (pre ++ [y])=some y) :
  Kpt (fun b=>S b∨(b < NB∧b≠L)) W1 Ws∧LwI d rows g w WN NB L S (pre ++ [y]) Ws:=by
 have r:=hi.kp.size;have p:=hb.size
 have i:∀b,S b→b≠L:=fun b hx e=>by have:=hi.sn b hx; omega
 have c:∀b,b < W1.heap.size→b≠L→Ws.heap[b]?=W1.heap[b]?:=fun b hl hne=>(g2 b hne).trans (hb.block b hl)
 have l:=hi.le.wb
 have n:∀{v:Value} {xs:List Value},Sl 0 3 W1 v xs→Sl 0 3 Ws v xs:=fun h=>ZDz (.inr rfl) h l c
 have f:∀a:Addr,¬S a.block∧isC W1 a.block→¬S a.block∧isC Ws a.block:=by
  rintro a ⟨o,j,t,m⟩;refine ⟨o,?_⟩
  by_cases e:a.block=L
  ·exact ⟨_,_,by rw [e]; exact g1⟩
  ·exact ⟨j,t,(c _ (Zaa3.1 m).1 e).trans m⟩
 refine ⟨⟨by omega,fun b hl hx=>c b hl (hx.elim (i b) fun h=>h.2)⟩,hi.sn,hi.kp.trans ⟨by omega,fun b hl hx=>c b hl hx.2⟩,g4.trans (hb.os.trans hi.os),g5.trans (hb.tape.trans hi.tape),g6.trans (hb.output.trans hi.output),.inr ⟨y,co,cc,mo,mc,hlw,g1,n hcs,n hms,fun a ha=>f a (hcb a ha),fun a ha=>f a (hmb a ha)⟩⟩
theorem ZPB{d:Nat}{rows:List (List Int)}{g:List Int}{w WN W1 X:World}{NB L:Nat}{S:Nat→Prop}{pre:List (List Int)}{y z:List Int}(hi:LwI d rows g w WN NB L S pre W1)(hL:L < NB)(hN:NB≤WN.heap.size)(hb:Below W1.heap.size W1 X)(hz:lwO d rows g pre=some z)(hlw:lwO d rows g (pre ++ [y])=some z) :
  Kpt (fun b=>S b∨(b < NB∧b≠L)) W1 X∧LwI d rows g w WN NB L S (pre ++ [y]) X:=by
 have c:=hi.kp.size
 have a:=hi.le.keep (S':=S) (W':=X) (hb.block L (by omega)) (fun b hl _=>hb.block b hl) (fun b h=>.inl h)
 refine ⟨⟨hb.size,fun b hl _=>hb.block b hl⟩,hi.sn,hi.kp.trans ⟨hb.size,fun b hl _=>hb.block b hl⟩,hb.os.trans hi.os,hb.tape.trans hi.tape,hb.output.trans hi.output,?_⟩
 rcases a with ⟨h1,_⟩ | ⟨z',co,cc,po,pc,h1,h2⟩
 ·subst h1; simp [lwO] at hz
 ·rw [hz] at h1
  simp only [Zaa9] at h1;subst h1;exact .inr ⟨z,co,cc,po,pc,hlw,h2⟩
theorem ZGo(d:Nat)(rows:List (List Int))(g:List Int)(v gv:Value)(w:World)(hv:Mat 0 22 3 w v rows)(hg:Sl 0 3 w gv (ZAB g))(hc:CutOk d rows)(hgl:g.length=d)(hgb:∀z∈g,z.natAbs≤20) :
  Calls Tryz.prog 128 #[.agg #[.int .i64 d,v],gv] w fun e w'=>∃tv,e=.returned (.tuple #[tv,.int .i64 (gmE d rows g)])∧LwV d rows g w' tv∧Below w.heap.size w w':=by
 obtain ⟨M,L,cD,cM,cI⟩:=ZAE hv;obtain ⟨go,gc,bh,_,_⟩:=ZAH hg;rw [hgl] at bh;subst cD bh;obtain ⟨W,hW,aP,bK,aD,bC⟩:=ZPA w d (.slice M rows.length L);have cr:=hid hW
 have P:Hid (∀X,Below W.heap.size W X→Below w.heap.size w X):=fun X hX=>aP.trans (hX.mono aP.size)
 have bT:=hid bK
 have aF:Hid (∀X,Below W.heap.size W X→X.heap[w.heap.size]?=some (.cells #[.int .i64 d,.slice M rows.length L] 61 (0,0))):=fun X hX=>(hX.block _ (by omega)).trans aD
 have aA:Hid (∀X,Below W.heap.size W X→Wb (w.heap.size+1) X):=fun X hX=>⟨_,_,_,(hX.block _ (by omega)).trans bC⟩
 have bR:Hid (∀X,Below W.heap.size W X→Mat 0 22 3 X (.slice M rows.length L) rows):=fun X hX=>hv.below (P.out X hX) (Za4 _)
 have bI:Hid (∀X,Below W.heap.size W X→Sl 0 3 X (.slice go d gc) (ZAB g)):=fun X hX=>hg.below (P.out X hX) (Za4 _)
 have HC:=hid hc;have ae:=hid hgl;have bQ:=hid hgb
 have bF:Hid (Calls Tryz.prog 145 #[.agg #[.int .i64 d,.slice M rows.length L],.slice go d gc] W fun e w'=>e=.returned (.int .i64 (if ZDP d rows=true then 6 else 0))∧Below W.heap.size W w'):=ZGn d rows g _ _ W (bR.out W (Below.refl _ _)) (bI.out W (Below.refl _ _)) hc hgl hgb
 have c0:W.cell? ⟨w.heap.size,0,none⟩=some (.int .i64 d):=by simp [World.cell?,aD]
 have c1:W.cell? ⟨w.heap.size,1,none⟩=some (.slice M rows.length L):=by simp [World.cell?,aD]
 clear hv hg hc hgl hgb hW aP bK aD bC;refine callsIn_wide (n:=0).1 ?_;refine callsIn_of_wp_marks Tryz.func128 rfl trivial ?_ rfl;simp only [Tryz.ntmps128,List.size_toArray,List.length_cons,List.length_nil,Nat.reduceAdd,Nat.reduceSub,Array.replicate_succ,Array.replicate_zero,List.push_toArray,List.append_toArray,List.nil_append,List.cons_append]
 gi_upto_region 1 with fail
 rw [←cr.out]
 gi_wp2_with fail
 refine ⟨trivial,rfl,?_⟩;refine (callsIn_wide.2 bF.out).mono ?_;rintro e U ⟨rfl,ag⟩;have aq:=hid ag;have am:=aF.out U ag;have cH:=ag.size;obtain ⟨f0,f1,f2⟩:=(aA.out U ag).frozen;obtain ⟨x0,x1,x2,r0,r1,r2⟩:=(aA.out U ag).cells;clear ag bF c0 c1
 cases heb:ZDP d rows
 case true=>
  have HE:Hid (gmE d rows g=6):=by show _=_; unfold gmE; rw [if_pos heb]
  clear heb
  gi_wp2
  obtain ⟨Ws,E,g1,g2,g3,g4,g5,g6⟩:=ZBs (.slice none 0 0) (.slice none 0 0) (.int .i64 0) (aA.out U aq.out);rw [←E];have cJ:=bT.out;have cK:=aq.out.size;have az:=P.out U aq.out
  refine ZAq [] Ws (by simp) (fun r hr=>by simp at hr) (fun w' hc=>⟨.tuple #[ZOI,.int .i64 6],?_,?_⟩)
  ·have q1:w'.heap[w.heap.size+1]?=_:=(hc.block _ (by omega) (by simp)).trans g1
   simp [results,Tryz.results128,go_sem,World.cell?,q1,ZOI]
  ·refine ⟨ZOI,by rw [HE.out],.inl ⟨by rw [HE.out]; decide,rfl⟩,hc.os.trans (g4.trans az.os),hc.tape.trans (g5.trans az.tape),hc.output.trans (g6.trans az.output),by have:=hc.size; omega,fun b hb=>?_⟩
   exact (hc.block b (by omega) (by simp)).trans ((g2 b (by omega)).trans (az.block b hb))
 case false=>
  have HE:Hid (gmE d rows g=if ZAZ rows g=[] then 7 else 0):=by show _=_; unfold gmE; rw [if_neg (by rw [heb]; decide)]
  clear heb
  have c0:U.cell? ⟨w.heap.size,0,none⟩=some (.int .i64 d):=by simp [World.cell?,am]
  have c1:U.cell? ⟨w.heap.size,1,none⟩=some (.slice M rows.length L):=by simp [World.cell?,am]
  gi_upto_region 6 with fail
  obtain ⟨F,hF⟩:∃F,F=U.heap.size:=⟨_,rfl⟩
  obtain ⟨m,aa⟩:∃m,m=(U.alloc (.cells #[.func (.func 146) #[] #[.pointer (some ⟨w.heap.size,0,none⟩)]] 163)).alloc (.cells #[.slice none 0 0,.slice none 0 0,.int .i64 0] 105):=⟨_,rfl⟩
  rw [←aa,←hF];have k1:=ZAG U (.cells #[.func (.func 146) #[] #[.pointer (some ⟨w.heap.size,0,none⟩)]] 163);have k2:=ZAG (U.alloc (.cells #[.func (.func 146) #[] #[.pointer (some ⟨w.heap.size,0,none⟩)]] 163)) (.cells #[.slice none 0 0,.slice none 0 0,.int .i64 0] 105)
  have aI:Below U.heap.size U m:=by rw [aa]; exact k1.trans (k2.mono k1.size)
  have ar:m.heap.size=F+2:=by rw [aa,size_alloc,size_alloc,hF]
  have bv:m.heap[F]?=some (.cells #[.func (.func 146) #[] #[.pointer (some ⟨w.heap.size,0,none⟩)]] 163 (0,0)):=by
   rw [aa,hF]; exact (k2.block _ (by rw [size_alloc]; omega)).trans (ZAM _ _)
  have aV:m.heap[F+1]?=some (.cells #[.slice none 0 0,.slice none 0 0,.int .i64 0] 105 (0,0)):=by
   have:=ZAM (U.alloc (.cells #[.func (.func 146) #[] #[.pointer (some ⟨w.heap.size,0,none⟩)]] 163)) (.cells #[.slice none 0 0,.slice none 0 0,.int .i64 0] 105);rw [size_alloc] at this;rw [aa,hF]; exact this
  have aG:Below W.heap.size W m:=aq.out.trans (aI.mono aq.out.size)
  have cd:w.heap.size+2≤F:=by have:=bT.out; omega
  have c0:m.cell? ⟨w.heap.size,0,none⟩=some (.int .i64 d):=by simp [World.cell?,aF.out m aG]
  have c1:m.cell? ⟨w.heap.size,1,none⟩=some (.slice M rows.length L):=by simp [World.cell?,aF.out m aG]
  have G:=hid aG;have cC:=hid ar;clear ar;clear aa hF k1 k2 aI aG f0 f1 f2 r0 r1 r2 am
  gi_wp2_with (refine ⟨trivial,rfl,?_⟩; gi_at_call 103; refine (callsIn_wide.2 (ZEZ _ _ _ _ _ _ _ _ _ rfl rfl)).mono ?_; rintro e w' ⟨rfl,rfl⟩)
  obtain ⟨i,ai⟩:∃i,i=m.heap.size:=⟨_,rfl⟩
  rw [←ai];have ar:=cC.out
  obtain ⟨A,ah⟩:∃A,A=(m.alloc (.cells #[.slice M rows.length L] 25)).alloc (.cells #[.slice go d gc] 22):=⟨_,rfl⟩
  rw [←ah]
  have n1:A.heap[i]?=some (.cells #[.slice M rows.length L] 25 (0,0)):=by
   rw [ah,ai]; exact ((ZAG _ _).block _ (by rw [size_alloc]; omega)).trans (ZAM _ _)
  have n2:A.heap[i+1]?=some (.cells #[.slice go d gc] 22 (0,0)):=by
   have:=ZAM (m.alloc (.cells #[.slice M rows.length L] 25)) (.cells #[.slice go d gc] 22);rw [size_alloc] at this;rw [ah,ai]; exact this
  have bY:A.heap.size=i+2:=by rw [ah,size_alloc,size_alloc,ai]
  have s:Below m.heap.size m A:=by rw [ah]; exact (ZAG _ _).trans ((ZAG _ _).mono (by rw [size_alloc]; omega))
  have aO:Wb (F+1) m:=⟨_,_,_,aV⟩
  have j:∀X,Kpt (fun b=>b < i∧b≠F+1) A X→∀b,b < m.heap.size→b≠F+1→X.heap[b]?=m.heap[b]?:=fun X hk b hb hne=>(hk.block b (by omega) ⟨by omega,hne⟩).trans (s.block b hb)
  have aK:∀X,Kpt (fun b=>b < i∧b≠F+1) A X→Mat 0 22 3 X (.slice M rows.length L) rows:=fun X hk=>ZK5 (bR.out m G.out) aO (j X hk)
  have bN:∀X,Kpt (fun b=>b < i∧b≠F+1) A X→Sl 0 3 X (.slice go d gc) (ZAB g):=fun X hk=>ZDz (.inr rfl) (bI.out m G.out) aO (j X hk)
  have bP:∀X,Kpt (fun b=>b < i∧b≠F+1) A X→X.heap[w.heap.size]?=some (.cells #[.int .i64 d,.slice M rows.length L] 61 (0,0))∧X.heap[F]?=some (.cells #[.func (.func 146) #[] #[.pointer (some ⟨w.heap.size,0,none⟩)]] 163 (0,0))∧Wb (w.heap.size+1) X:=fun X hk=>by
   refine ⟨(j X hk _ (by omega) (by omega)).trans (aF.out m G.out),(j X hk _ (by omega) (by omega)).trans bv,?_⟩
   obtain ⟨a1,a2,a3,h⟩:=aA.out m G.out
   exact ⟨a1,a2,a3,(j X hk _ (by omega) (by omega)).trans h⟩
  have aW:ZPt Tryz.prog 130 #[.pointer (some ⟨i+1,0,none⟩),.pointer (some ⟨i,0,none⟩)] (ZDp rows g) (ZAZ rows g) (fun b=>b < i∧b≠F+1) (fun b=>b=i+1∨b=i) A:=
   ZFt 0 (i+1) i rows g M go L gc (fun b=>b < i∧b≠F+1) A (by rw [ae.out]; exact ZAe n2) (ZAe n1)
    (fun X hk=>aK X hk) (fun X hk=>by rw [ae.out]; exact bN X hk)
    (fun b hb=>by have:=hb.1; omega)
    (fun r hr=>⟨by rw [ae.out,HC.out.len r hr]; omega,fun z hz=>by have:=HC.out.bd r hr z hz; omega⟩)
    (fun z hz=>by have:=bQ.out z hz; omega) (by rw [ae.out]; exact HC.out.d1) (by rw [ae.out]; have:=HC.out.d3; omega) (by have:=HC.out.n12; omega)
  have af:=hid bY
  have N:Hid (i=F+2∧w.heap.size+2≤F):=⟨by rw [ai]; exact ar,cd⟩
  have cB:=hid aK;have bj:=hid bP
  have cq:Hid (∀b,b < w.heap.size→A.heap[b]?=w.heap[b]?):=fun b hb=>(s.block b (by omega)).trans ((P.out m G.out).block b hb)
  have aT:Hid (A.os=w.os∧A.tape=w.tape∧A.output=w.output):=⟨s.os.trans (P.out m G.out).os,s.tape.trans (P.out m G.out).tape,s.output.trans (P.out m G.out).output⟩
  have ck:Hid (LwI d rows g w A i (F+1) (fun b=>b=i+1∨b=i) [] A):=⟨fun b hb=>by omega,Kpt.refl _ _,aT.out.1,aT.out.2.1,aT.out.2.2,.inl ⟨rfl,(s.block _ (by omega)).trans aV⟩⟩
  have bw:Hid (∀y,y∈ZAZ rows g→WyOk rows y (mW rows g y) (uW rows g y)):=fun y hy=>ZK3 HC.out ae.out bQ.out hy
  have cE:Hid (RwE d rows):=HC.out.rw;clear n1 n2 aK bN bP s ai ah aO j bv aV ar c0 c1
  refine ZDX (R:=ZDp rows g) (cs:=ZAZ rows g) (T:=fun b=>b < i∧b≠F+1) (S0:=fun b=>b=i+1∨b=i) (gf:=130) (lb:=#[.pointer (some ⟨i+1,0,none⟩),.pointer (some ⟨i,0,none⟩)]) rfl (enters_of Tryz.func130 (by kernel_rfl) rfl) aW (fun b hb=>by omega)
   (fun D S x vs ⟨_,_,_,_,h1,_⟩=>by rw [h1]; rfl) (ZCv _ _) (ZEa _ _)
   (fun S p D=>LwI d rows g w A i (F+1) S p D)
   (fun c S p D=>False)
   (fun S S' p D W'' h hc hs=>h.stab (by have:=N.out.1; omega) (by have:=af.out; omega) hc hs) (fun c S S' p D W'' h hc hs=>h) ck.out
   (fun vs a' D=>∃p' q' u' bx,vs=#[.agg #[p',q',u']]∧D.heap[bx]?=some (.cells #[p',q',u'] 105 (0,0))∧a' = { tmps:=#[.agg #[.int .i64 d,.slice M rows.length L],.slice go d gc,.pointer (some ⟨w.heap.size,0,none⟩),undef,.pointer (some ⟨w.heap.size+1,0,none⟩),.int .i64 0,.int .i64 0,.pointer (some ⟨F,0,none⟩),.pointer (some ⟨F+1,0,none⟩),.pointer (some ⟨bx,0,none⟩),.agg #[.int .i64 d,.slice M rows.length L],.slice go d gc,.int .i64 0,.int .i64 0,.bool false,undef,undef,.func (.func 146) #[] #[.pointer (some ⟨w.heap.size,0,none⟩)],.pointer (some ⟨w.heap.size,1,none⟩),.slice M rows.length L,.slice go d gc,.func (.func 130) #[] #[.pointer (some ⟨i+1,0,none⟩),.pointer (some ⟨i,0,none⟩)],.agg #[p',q',u'],undef,undef,undef,undef,undef,undef,undef,undef,undef,undef,undef,undef,undef,undef,undef],defers:=[] })
   ?hax ?assign ?body ?tl ?done ?stop
  case hax=>
   rintro vs a' D l r o ⟨p',q',u',bx,h1,h2,h3⟩ hl
   exact ⟨p',q',u',bx,h1,(World.putObj_heap_other (fun e=>by subst e; rw [hl] at h2; cases h2)).trans h2,h3⟩
  case tl=>exact fun h=>by have:=h.1; have:=af.out; omega
  case assign=>
   rintro S y vs D K ⟨co,cc,mo,mc,rfl,h2,h3⟩ hK
   gi_wp2
   exact hK _ _ (ZAG _ _) ⟨_,_,_,D.heap.size,rfl,ZAM _ _,rfl⟩
  case body=>
   rintro S p y vs a' B hi cF cL cG an aB Q ⟨S1,⟨co,cc,mo,mc,bD,cg,bt,ay,bp,bJ,bS⟩,bk⟩ ⟨p',q',u',bx,ak,O,rfl⟩;rw [bD] at ak;simp only [Array.mk.injEq,List.cons.injEq,Value.agg.injEq,and_true] at ak;obtain ⟨rfl,rfl,rfl⟩:=ak;have O:B.heap[bx]?=some (.cells #[.slice co y.length cc,.slice mo y.length mc,.int .i64 (uW rows g y)] 105 (0,0)):=O;have ay:Sl 0 3 B (.slice mo y.length mc) (ZAB (mW rows g y)):=ay
   have aU:∀a:Addr,¬S1 a.block∧isC B a.block→¬S a.block∧isC B a.block:=by
    rintro a ⟨h1,cw,t,h3⟩
    refine ⟨fun hx=>?_,cw,t,h3⟩
    rcases (bk _).1 hx with h | h | h
    ·exact h1 h
    ·rw [h] at h3; rw [an] at h3; cases h3
    ·obtain ⟨r,aB⟩:=aB; rw [h] at h3; rw [aB] at h3; cases h3
   have bH:Hid (∀a,co=some a→¬S a.block∧isC B a.block):=fun a ha=>aU a (bp a ha)
   have bi:Hid (∀a,mo=some a→¬S a.block∧isC B a.block):=fun a ha=>aU a (bJ a ha)
   have aY:=hid bt;have aR:=hid ay;have Y:=hid hi
   have bV:y∈ZAZ rows g:=Q.subset (by simp)
   have bZ:Hid (∀z∈p,z∈ZAZ rows g):=fun z hz=>Q.subset (List.mem_append_left _ hz)
   have cA:Hid (WyOk rows y (mW rows g y) (uW rows g y)):=bw.out y bV
   have bA:B.cell? ⟨bx,0,none⟩=some (.slice co y.length cc):=by simp [World.cell?,O]
   have bq:B.cell? ⟨bx,1,none⟩=some (.slice mo y.length mc):=by simp [World.cell?,O]
   have bB:B.cell? ⟨bx,2,none⟩=some (.int .i64 (uW rows g y)):=by simp [World.cell?,O]
   have bE:=hid O;obtain ⟨bG,bu,_⟩:=bj.out B hi.kp
   have cf:B.cell? ⟨F,0,none⟩=some (.func (.func 146) #[] #[.pointer (some ⟨w.heap.size,0,none⟩)]):=by simp [World.cell?,bu]
   have bg:=hid bG;obtain ⟨f0,f1,f2⟩:=hi.le.wb.frozen;have aX:=hi.le;clear hi bt ay bp bJ bS bk an aB Q cg bD O aU bG bu aW
   rcases aX with ⟨hp0,hL0⟩ | ⟨z,zo,zc,po,pc,hz,hL0,hzs,hps,_,_⟩
   ·have l0:B.cell? ⟨F+1,0,none⟩=some (.slice none 0 0):=by simp [World.cell?,hL0]
    have l1:B.cell? ⟨F+1,1,none⟩=some (.slice none 0 0):=by simp [World.cell?,hL0]
    have l2:B.cell? ⟨F+1,2,none⟩=some (.int .i64 0):=by simp [World.cell?,hL0]
    have aj:Hid (lwO d rows g (p ++ [y])=some y):=by show _=_; rw [hp0]; rfl
    clear hL0
    gi_wp2
    refine ⟨fun f hf=>(by cases hf),?_⟩
    gi_wp2
    obtain ⟨Ws,E,g1,g2,g3,g4,g5,g6⟩:=ZBs (.slice co y.length cc) (.slice mo y.length mc) (.int .i64 (uW rows g y)) Y.out.le.wb;rw [←E]
    exact ZIq Y.out (by have:=N.out.1; omega) (Below.refl _ _) g1 g2 g3 g4 g5 g6 aY.out aR.out bH.out bi.out aj.out
   ·have l0:B.cell? ⟨F+1,0,none⟩=some (.slice zo z.length zc):=by simp [World.cell?,hL0]
    have l1:B.cell? ⟨F+1,1,none⟩=some (.slice po z.length pc):=by simp [World.cell?,hL0]
    have l2:B.cell? ⟨F+1,2,none⟩=some (.int .i64 (uW rows g z)):=by simp [World.cell?,hL0]
    have J:=bZ.out z (ZDa hz);have aS:=ZIp J
    have bX:(uW rows g z == 0)=false:=by rw [beq_eq_false_iff_ne]; omega
    have bU:Hid (Calls Tryz.prog 146 #[.agg #[.slice co y.length cc,.slice mo y.length mc,.int .i64 (uW rows g y)],.agg #[.slice zo z.length zc,.slice po z.length pc,.int .i64 (uW rows g z)],.pointer (some ⟨w.heap.size,0,none⟩)] B fun e w'=>e=.returned (.bool (decide (sdL rows d y (mW rows g y)*uW rows g z < sdL rows d z (mW rows g z)*uW rows g y)))∧Below B.heap.size B w'):=
     ZNF d rows y (mW rows g y) z (mW rows g z) (uW rows g y) (uW rows g z) _ co mo zo po cc mc zc pc y.length z.length w.heap.size B (cB.out B Y.out.kp) bg.out aY.out aR.out hzs hps cE.out cA.out (bw.out z J) rfl rfl
    have HZ:=hid hz
    have aH:Hid (lwO d rows g (p ++ [y])=if sdL rows d y (mW rows g y)*uW rows g z < sdL rows d z (mW rows g z)*uW rows g y then some y else some z):=by show _=_; rw [ZDy,hz]; rfl
    have bM:=hid hL0;clear hzs hps hL0 J aS hz
    gi_wp2_with fail
    refine ⟨trivial,rfl,?_⟩;refine (CallsIn.inRound _ (callsIn_wide.2 bU.out)).mono ?_;rintro e w5 ⟨rfl,aE⟩;have bL:=hid aE;have V:=(aE.block bx (Zaa3.1 bE.out).1).trans bE.out;have aw:=(aE.block (F+1) (Zaa3.1 bM.out).1).trans bM.out;clear bA bq bB l0 l1 l2 f0 f1 f2 cf aE bU
    have bA:w5.cell? ⟨bx,0,none⟩=some (.slice co y.length cc):=by simp [World.cell?,V]
    have bq:w5.cell? ⟨bx,1,none⟩=some (.slice mo y.length mc):=by simp [World.cell?,V]
    have bB:w5.cell? ⟨bx,2,none⟩=some (.int .i64 (uW rows g y)):=by simp [World.cell?,V]
    have l0:w5.cell? ⟨F+1,0,none⟩=some (.slice zo z.length zc):=by simp [World.cell?,aw]
    have l1:w5.cell? ⟨F+1,1,none⟩=some (.slice po z.length pc):=by simp [World.cell?,aw]
    have l2:w5.cell? ⟨F+1,2,none⟩=some (.int .i64 (uW rows g z)):=by simp [World.cell?,aw]
    have bl:Hid (Wb (F+1) w5):=⟨_,_,_,aw⟩;obtain ⟨f0,f1,f2⟩:=bl.out.frozen;clear V aw
    by_cases hlt:sdL rows d y (mW rows g y)*uW rows g z < sdL rows d z (mW rows g z)*uW rows g y
    ·have aj:Hid (lwO d rows g (p ++ [y])=some y):=by show _=_; rw [aH.out,if_pos hlt]
     have au:decide (sdL rows d y (mW rows g y)*uW rows g z < sdL rows d z (mW rows g z)*uW rows g y)=true:=decide_eq_true hlt;rw [au];clear au hlt aH
     gi_wp2
     obtain ⟨Ws,E,g1,g2,g3,g4,g5,g6⟩:=ZBs (.slice co y.length cc) (.slice mo y.length mc) (.int .i64 (uW rows g y)) bl.out;rw [←E]
     exact ZIq Y.out (by have:=N.out.1; omega) bL.out g1 g2 g3 g4 g5 g6 aY.out aR.out bH.out bi.out aj.out
    ·have aj:Hid (lwO d rows g (p ++ [y])=some z):=by show _=_; rw [aH.out,if_neg hlt]
     have au:decide (sdL rows d y (mW rows g y)*uW rows g z < sdL rows d z (mW rows g z)*uW rows g y)=false:=decide_eq_false hlt;rw [au];clear au hlt aH
     gi_wp2
     exact ZPB Y.out (by have:=N.out.1; omega) (by have:=af.out; omega) bL.out HZ.out aj.out
  case done=>
   rintro S D hi cF an;have aM:=af.out;have aQ:=hi.kp.size;have aL:=N.out;obtain ⟨_,_,aC⟩:=bj.out D hi.kp;obtain ⟨f0,f1,f2⟩:=aC.frozen;obtain ⟨x0,x1,x2,r0,r1,r2⟩:=aC.cells;have aN:=hid aC;have Y:=hid hi;have aJ:=hid an
   have bz:Hid (∀b,b < w.heap.size→D.heap[b]?=w.heap[b]?):=fun b hb=>(hi.kp.block b (by omega) ⟨by omega,by omega⟩).trans (cq.out b hb)
   have aX:=hi.le;clear hi an aW aQ aM aL aC
   rcases aX with ⟨hp0,hL0⟩ | ⟨z,zo,zc,po,pc,hz,hL0,hzs,hps,hzb,hpb⟩
   ·have l0:D.cell? ⟨F+1,0,none⟩=some (.slice none 0 0):=by simp [World.cell?,hL0]
    have l1:D.cell? ⟨F+1,1,none⟩=some (.slice none 0 0):=by simp [World.cell?,hL0]
    have l2:D.cell? ⟨F+1,2,none⟩=some (.int .i64 0):=by simp [World.cell?,hL0]
    have aZ:Hid (gmE d rows g=7):=by show _=_; rw [HE.out,if_pos hp0]
    clear hL0 hp0
    gi_wp2
    obtain ⟨Ws,E,g1,g2,g3,g4,g5,g6⟩:=ZBs (.slice none 0 0) (.slice none 0 0) (.int .i64 0) aN.out;rw [←E];have aM:=af.out;have aQ:=Y.out.kp.size;have aL:=N.out
    refine ZAq [A.heap.size] Ws (by simp) (fun r hr=>?_) (fun w' hc=>⟨.tuple #[ZOI,.int .i64 7],?_,?_⟩)
    ·simp only [List.mem_singleton] at hr
     subst hr
     exact (g2 _ (by omega)).trans aJ.out
    ·have q1:w'.heap[w.heap.size+1]?=_:=(hc.block _ (by omega) (by simp; omega)).trans g1
     simp [results,Tryz.results128,go_sem,World.cell?,q1,ZOI]
    ·refine ⟨ZOI,by rw [aZ.out],.inl ⟨by rw [aZ.out]; decide,rfl⟩,hc.os.trans (g4.trans Y.out.os),hc.tape.trans (g5.trans Y.out.tape),hc.output.trans (g6.trans Y.out.output),by have:=hc.size; omega,fun b hb=>?_⟩
     exact (hc.block b (by omega) (by simp; omega)).trans ((g2 b (by omega)).trans (bz.out b hb))
   ·have l0:D.cell? ⟨F+1,0,none⟩=some (.slice zo z.length zc):=by simp [World.cell?,hL0]
    have l1:D.cell? ⟨F+1,1,none⟩=some (.slice po z.length pc):=by simp [World.cell?,hL0]
    have l2:D.cell? ⟨F+1,2,none⟩=some (.int .i64 (uW rows g z)):=by simp [World.cell?,hL0]
    have J:=ZDa hz;have aS:=ZIp J
    have bX:(uW rows g z == 0)=false:=by rw [beq_eq_false_iff_ne]; omega
    have bO:Hid (gmE d rows g=0):=by show _=_; rw [HE.out,if_neg (fun e=>by rw [e] at J; simp at J)]
    have HZ:=hid hz;have bW:=hid hzs;have cj:=hid hps;clear hL0 J aS hz hzs hps hzb hpb
    gi_wp2
    obtain ⟨Ws,E,g1,g2,g3,g4,g5,g6⟩:=ZBs (.slice zo z.length zc) (.slice po z.length pc) (.int .i64 (uW rows g z)) aN.out;rw [←E];have aM:=af.out;have aQ:=Y.out.kp.size;have aL:=N.out
    have ty:∀(w':World),Chg (fun b=>b∈[A.heap.size]) Ws w'→∀{v:Value} {xs:List Value},Sl 0 3 D v xs→Sl 0 3 w' v xs:=fun w' hc v xs h=>h.move fun k hl ht=>⟨by
     have h1:k≠w.heap.size+1:=by
      rcases ht with ht | ht
      ·omega
      ·exact aN.out.off (.inr ht)
     have h2:k≠A.heap.size:=fun e=>by
      subst e
      rcases ht with ht | ⟨c,ht⟩
      ·omega
      ·rw [aJ.out] at ht; cases ht
     exact (hc.block k (by omega) (by simpa using h2)).trans (g2 k h1),ht⟩
    refine ZAq [A.heap.size] Ws (by simp) (fun r hr=>?_) (fun w' hc=>⟨.tuple #[.agg #[.slice zo z.length zc,.slice po z.length pc,.int .i64 (uW rows g z)],.int .i64 0],?_,?_⟩)
    ·simp only [List.mem_singleton] at hr
     subst hr
     exact (g2 _ (by omega)).trans aJ.out
    ·have q1:w'.heap[w.heap.size+1]?=_:=(hc.block _ (by omega) (by simp; omega)).trans g1
     simp [results,Tryz.results128,go_sem,World.cell?,q1]
    ·refine ⟨_,by rw [bO.out],.inr ⟨z,zo,zc,po,pc,bO.out,HZ.out,rfl,ty w' hc bW.out,ty w' hc cj.out⟩,hc.os.trans (g4.trans Y.out.os),hc.tape.trans (g5.trans Y.out.tape),hc.output.trans (g6.trans Y.out.output),by have:=hc.size; omega,fun b hb=>?_⟩
     exact (hc.block b (by omega) (by simp; omega)).trans ((g2 b (by omega)).trans (bz.out b hb))
  case stop=>
   rintro c S p D Q h;exact h.elim
end Go.Proofs.YtgfnmkenpgnllaaGreat
