import Derived.Test.YtkjkfceblmgogaaGreatLpA
import Derived.Sort.CutIn
set_option maxRecDepth 100000
set_option maxHeartbeats 8000000
namespace Go.Proofs.YtkjkfceblmgogaaGreat
open Go.RowKit Lin
def mW(rows:List (List Int))(g y:List Int):List Int:=(ZAw g (pks rows [] y)).take y.length
def uW(rows:List (List Int))(g y:List Int):Int:=(ZAw g (pks rows [] y)).getD y.length 0
theorem ZH0{rows:List (List Int)}{g y:List Int}(h:y∈ZAY rows g):ZBN g (pks rows [] y)=true∧y.length≤g.length∧(∀z∈y,0≤z∧z < (rows.length:Int))∧∀i j,i < j→j < y.length→y.getD i 0 < y.getD j 0:=by
 simp only [ZAY,ZAx,List.mem_flatMap,List.mem_range,List.mem_filter] at h;obtain ⟨m,n,a,b⟩:=h;obtain ⟨l,d,c⟩:=ZBk a
 refine ⟨b,by omega,fun z hz=>?_,fun i j hij hj=>c i j hij (by omega)⟩
 obtain ⟨i,f,rfl⟩:=List.mem_iff_getElem.1 hz
 have:=d i (by omega)
 rw [Za2,Za9 f] at this;simp only [Option.getD_some] at this;omega
theorem ZRf{rows:List (List Int)}{g y:List Int}(h:∀i∈y,∀z∈rows.getD i.toNat [],z.natAbs≤20)(hg:∀z∈g,z.natAbs≤20):∀r∈ZA0 g (pks rows [] y),∀z∈r,z.natAbs≤20:=fun r hr z hz=>by
 simp only [ZA0,List.mem_map] at hr;obtain ⟨i,_,rfl⟩:=hr;simp only [ZFu,List.mem_append,List.mem_map,List.mem_singleton] at hz
 rcases hz with ⟨r,h1,rfl⟩ | rfl
 ·simp only [pks,List.mem_map] at h1
  obtain ⟨q,a,rfl⟩:=h1
  by_cases e:i < (rows.getD q.toNat []).length
  ·exact h q a _ (ZAj e)
  ·simp only [Za2] at e ⊢
   rw [Zaa6 (Nat.le_of_not_lt e)]; simp
 ·by_cases e:i < g.length
  ·have:=hg _ (ZAj e)
   omega
  ·simp [Zaa6 (Nat.le_of_not_lt e)]
theorem ZLJ{d:Nat}{rows:List (List Int)}{g y:List Int}(hc:CutF d rows)(hg:g.length=d)(hgb:∀z∈g,z.natAbs≤20)(h:y∈ZAY rows g):WyOk rows y (mW rows g y) (uW rows g y):=by
 obtain ⟨l,n,j,_⟩:=ZH0 h;have m:=hc.d4
 have c:(pks rows [] y).length=y.length:=by simp [pks]
 have f:∀r∈ZA0 g (pks rows [] y),∀z∈r,z.natAbs≤20:=ZRf (fun i hi=>by
  have:=j i hi
  exact hc.bd _ (ZAg (by omega))) hgb
 have b:∀z∈ZAw g (pks rows [] y),z.natAbs≤3840000:=fun z hz=>by
  unfold ZAw at hz;rw [c] at hz;have o:=ZFv f z hz
  have p:Lin.fb 20 (y.length+1-1)≤Lin.fb 20 4:=ZAz (by decide) (by omega)
  have m:Lin.fb 20 4=3840000:=by decide
  omega
 have a:=(ZDG l).1;rw [c] at a
 exact ⟨by unfold mW; rw [List.length_take,a]; omega,by omega,j,fun z hz=>b z (Zaa7 hz),b _ (ZAj (by rw [a]; omega))⟩
theorem ZI2{rows:List (List Int)}{g y:List Int}(h:y∈ZAY rows g):0 < uW rows g y:=by
 have:=ZLF (ZH0 h).1;unfold wU V at this;unfold uW
 have a:(pks rows [] y).length=y.length:=by simp [pks]
 rw [a] at this;exact this
theorem ZH1{α:Type}{p:List α→Prop}(nil:p [])(append_singleton:∀l x,p l→p (l ++ [x]))(l:List α):p l:=by
 have h:∀m:List α,p m.reverse:=fun m=>by
  induction m with
  | nil=>exact nil
  | cons x m ih=>rw [List.reverse_cons]; exact append_singleton _ _ ih
 have:=h l.reverse
 rwa [List.reverse_reverse] at this
def lwS(d:Nat)(rows:List (List Int))(g:List Int):Option (List Int)→List Int→Option (List Int)
 | none,y=>some y
 | some z,y=>if sdL rows d y (mW rows g y)*uW rows g z < sdL rows d z (mW rows g z)*uW rows g y then some y else some z
def lwO(d:Nat)(rows:List (List Int))(g:List Int)(cs:List (List Int)):Option (List Int):=cs.foldl (lwS d rows g) none
theorem ZDw{d:Nat}{rows:List (List Int)}{g:List Int}{cs:List (List Int)}{y:List Int} : lwO d rows g (cs ++ [y])=lwS d rows g (lwO d rows g cs) y:=by simp [lwO,List.foldl_append]
theorem ZDa{d:Nat}{rows:List (List Int)}{g:List Int} : ∀{cs:List (List Int)} {y:List Int},lwO d rows g cs=some y→y∈cs:=by
 intro cs
 induction cs using ZH1 with
 | nil=>intro y h; simp [lwO] at h
 | append_singleton cs x ih=>
  intro y h;rw [ZDw] at h
  cases hz:lwO d rows g cs with
  | none=>rw [hz] at h; simp only [lwS,Zaa9] at h; simp [h]
  | some z=>
   rw [hz] at h;simp only [lwS] at h
   split at h
   ·simp only [Zaa9] at h; simp [h]
   ·simp only [Zaa9] at h; subst h; exact List.mem_append_left _ (ih hz)
theorem ZNY{d:Nat}{rows:List (List Int)}{g:List Int}{cs:List (List Int)} : lwO d rows g cs=none↔cs=[]:=by
 constructor
 ·induction cs using ZH1 with
  | nil=>intro _; rfl
  | append_singleton cs x ih=>
   intro h;rw [ZDw] at h
   cases hz:lwO d rows g cs with
   | none=>rw [hz] at h; simp [lwS] at h
   | some z=>rw [hz] at h; simp only [lwS] at h; split at h <;> simp at h
 ·rintro rfl; rfl
theorem ZLK{d:Nat}{rows:List (List Int)}{g:List Int} : ∀{cs:List (List Int)} {y:List Int},(∀x∈cs,0 < uW rows g x)→lwO d rows g cs=some y→∀x∈cs,sdL rows d y (mW rows g y)*uW rows g x≤sdL rows d x (mW rows g x)*uW rows g y:=by
 intro cs
 induction cs using ZH1 with
 | nil=>intro y _ h; simp [lwO] at h
 | append_singleton cs x ih=>
  intro y o h j c
  have f:∀x∈cs,0 < uW rows g x:=fun x hx=>o x (List.mem_append_left _ hx)
  have m:0 < uW rows g x:=o x (by simp)
  rw [ZDw] at h
  cases hz:lwO d rows g cs with
  | none=>
   rw [hz] at h;have t:=ZNY.1 hz;subst t;simp only [lwS,Zaa9] at h;simp only [List.nil_append,List.mem_singleton] at c;subst c h;exact Int.le_refl _
  | some z=>
   rw [hz] at h;have n:=ih f hz;have l:=f z (ZDa hz);simp only [lwS] at h
   rcases List.mem_append.1 c with c | c
   ·have p:=n j c
    have i:=f j c
    split at h
    ·rename_i hlt
     simp only [Zaa9] at h;subst h;generalize sdL rows d z (mW rows g z)=sz at *;generalize uW rows g z=uz at *;generalize sdL rows d j (mW rows g j)=a at *;generalize uW rows g j=ua at *;generalize sdL rows d x (mW rows g x)=b at *;generalize uW rows g x=ub at *
     -- b / ub < sz / uz≤a / ua
     have r:b*uz*ua≤sz*ub*ua:=Int.mul_le_mul_of_nonneg_right (Int.le_of_lt hlt) (Int.le_of_lt i);have s:sz*ua*ub≤a*uz*ub:=Int.mul_le_mul_of_nonneg_right p (Int.le_of_lt m)
     have v:b*ua*uz≤a*ub*uz:=by
      rw [Int.mul_right_comm b ua uz,Int.mul_right_comm a ub uz];refine Int.le_trans r ?_;rw [Int.mul_right_comm sz ub ua];exact s
     exact Int.le_of_mul_le_mul_right v l
    ·simp only [Zaa9] at h
     subst h;exact p
   ·simp only [List.mem_singleton] at c
    subst c
    split at h
    ·simp only [Zaa9] at h
     subst h;exact Int.le_refl _
    ·rename_i hlt
     simp only [Zaa9] at h;subst h;omega
end Go.Proofs.YtkjkfceblmgogaaGreat
namespace Go.Proofs.YtkjkfceblmgogaaGreat
open Go.RowKit Go.Shelf Lin
attribute [local go_sem] Oper.semAt_some
def ZOh:Value:=.agg #[.slice none 0 0,.slice none 0 0,.int .i64 0]
def LwV(d:Nat)(rows:List (List Int))(g:List Int)(w:World)(tv:Value):Prop:=
 (gmE d rows g≠0∧tv=ZOh)∨
 ∃y co cc po pc,gmE d rows g=0∧lwO d rows g (ZAY rows g)=some y∧tv=.agg #[.slice co y.length cc,.slice po y.length pc,.int .i64 (uW rows g y)]∧Sl 0 3 w (.slice co y.length cc) (ZAB y)∧Sl 0 3 w (.slice po y.length pc) (ZAB (mW rows g y))
theorem ZBu{w:World}{R:Nat}(a b c:Value)(h:∃x0 x1 x2,w.heap[R]?=some (.cells #[x0,x1,x2] 101 (0,0))) :
  ∃Ws,Ws=((w.setCell ⟨R,0,none⟩ a).setCell ⟨R,1,none⟩ b).setCell ⟨R,2,none⟩ c∧Ws.heap[R]?=some (.cells #[a,b,c] 101 (0,0))∧(∀k,k≠R→Ws.heap[k]?=w.heap[k]?)∧Ws.heap.size=w.heap.size∧Ws.os=w.os∧Ws.tape=w.tape∧Ws.output=w.output:=by
 obtain ⟨x0,x1,x2,d⟩:=h
 have f:(w.setCell ⟨R,0,none⟩ a).heap[R]?=some (.cells #[a,x1,x2] 101 (0,0)):=by simp [World.setCell,Array.getElem?_modify,d]
 have g:((w.setCell ⟨R,0,none⟩ a).setCell ⟨R,1,none⟩ b).heap[R]?=some (.cells #[a,b,x2] 101 (0,0)):=by rw [World.setCell]; simp [Array.getElem?_modify,f]
 refine ⟨_,rfl,by rw [World.setCell]; simp [Array.getElem?_modify,g],fun k h3=>?_,by simp [World.setCell],rfl,rfl,rfl⟩
 rw [Below.heap_setCell _ _ _ _ h3,Below.heap_setCell _ _ _ _ h3,Below.heap_setCell _ _ _ _ h3]
def Wb(L:Nat)(w:World):Prop:=∃x0 x1 x2,w.heap[L]?=some (.cells #[x0,x1,x2] 101 (0,0))
theorem Wb.frozen{L:Nat}{w:World}(h:Wb L w):w.frozen? ⟨L,0,none⟩=false∧w.frozen? ⟨L,1,none⟩=false∧w.frozen? ⟨L,2,none⟩=false:=by
 obtain ⟨a,b,c,d⟩:=h
 exact ⟨by simp [World.frozen?,d],by simp [World.frozen?,d],by simp [World.frozen?,d]⟩
theorem Wb.cells{L:Nat}{w:World}(h:Wb L w):∃x0 x1 x2,w.cell? ⟨L,0,none⟩=some x0∧w.cell? ⟨L,1,none⟩=some x1∧w.cell? ⟨L,2,none⟩=some x2:=by
 obtain ⟨a,b,c,d⟩:=h
 exact ⟨a,b,c,by simp [World.cell?,d],by simp [World.cell?,d],by simp [World.cell?,d]⟩
theorem Wb.off{L b:Nat}{w:World}(h:Wb L w)(ht:(∃cur,w.heap[b]?=some (.cells cur 27 (0,0)))∨∃cur,w.heap[b]?=some (.cells cur 3 (0,0))):b≠L:=by
 obtain ⟨a,f,c,d⟩:=h;rintro rfl;rw [d] at ht; simp at ht
theorem ZNZ{L:Nat}{e:TypeId}{w W:World}{v:Value}{xs:List Value}(he:e=27∨e=3)(h:Sl 0 e w v xs)(hL:Wb L w)(hk:∀b,b < w.heap.size→b≠L→W.heap[b]?=w.heap[b]?):Sl 0 e W v xs:=
 h.move fun b hl ht=>⟨hk b hl (by
  rcases ht with ht | ht
  ·omega
  ·rcases he with rfl | rfl
   ·exact hL.off (.inl ht)
   ·exact hL.off (.inr ht)),ht⟩
theorem ZEb{B L:Nat}{e:TypeId}{w W:World}{v:Value}{xs:List Value}(he:e=27∨e=3)(hB:B≤L)(h:Sl B e w v xs)(hL:Wb L w)(hk:∀b,b < w.heap.size→b≠L→W.heap[b]?=w.heap[b]?):Sl B e W v xs:=
 h.move fun b hl ht=>⟨hk b hl (by
  rcases ht with ht | ht
  ·omega
  ·rcases he with rfl | rfl
   ·exact hL.off (.inl ht)
   ·exact hL.off (.inr ht)),ht⟩
theorem ZJn{B L:Nat}{w W:World}{v:Value}{m:List (List Int)}(hB:B≤L)(h:Mat B 27 3 w v m)(hL:Wb L w)(hk:∀b,b < w.heap.size→b≠L→W.heap[b]?=w.heap[b]?):Mat B 27 3 W v m:=by
 obtain ⟨a,f,d,c⟩:=h
 exact ⟨a,f,ZEb (.inl rfl) hB d hL hk,fun i hi=>ZEb (.inr rfl) hB (c i hi) hL hk⟩
def LeI(d:Nat)(rows:List (List Int))(g:List Int)(L:Nat)(S:Nat→Prop)(pre:List (List Int))(W:World):Prop:=
 (pre=[]∧W.heap[L]?=some (.cells #[.slice none 0 0,.slice none 0 0,.int .i64 0] 101 (0,0)))∨
 ∃y co cc po pc,lwO d rows g pre=some y∧W.heap[L]?=some (.cells #[.slice co y.length cc,.slice po y.length pc,.int .i64 (uW rows g y)] 101 (0,0))∧Sl 0 3 W (.slice co y.length cc) (ZAB y)∧Sl 0 3 W (.slice po y.length pc) (ZAB (mW rows g y))∧
  (∀a,co=some a→¬S a.block∧isC W a.block)∧∀a,po=some a→¬S a.block∧isC W a.block
theorem LeI.wb{d:Nat}{rows:List (List Int)}{g:List Int}{L:Nat}{S:Nat→Prop}{pre:List (List Int)}{W:World}(h:LeI d rows g L S pre W):Wb L W:=by
 rcases h with ⟨_,h⟩ | ⟨y,co,cc,po,pc,_,h,_⟩
 ·exact ⟨_,_,_,h⟩
 ·exact ⟨_,_,_,h⟩
structure LwI(d:Nat)(rows:List (List Int))(g:List Int)(w WN:World)(NB L:Nat)(S:Nat→Prop)(pre:List (List Int))(W:World):Prop where
 sn:∀b,S b→NB≤b
 kp:Kpt (fun b=>b < NB∧b≠L) WN W
 os:W.os=w.os
 tape:W.tape=w.tape
 output:W.output=w.output
 le:LeI d rows g L S pre W
theorem LeI.keep{d:Nat}{rows:List (List Int)}{g:List Int}{L:Nat}{S S':Nat→Prop}{pre:List (List Int)}{W W':World}(h:LeI d rows g L S pre W)(hL:W'.heap[L]?=W.heap[L]?)(hk:∀b,b < W.heap.size→¬S b→W'.heap[b]?=W.heap[b]?)(hs:∀b,S' b→S b∨W.heap.size≤b):LeI d rows g L S' pre W':=by
 have c:∀(a:Addr),¬S a.block∧isC W a.block→¬S' a.block∧isC W' a.block:=fun a ha=>⟨fun hx=>by
  rcases hs _ hx with h1 | h1
  ·exact ha.1 h1
  ·have:=ha.2.lt; omega,ha.2.keep (hk _ ha.2.lt ha.1)⟩
 rcases h with ⟨h1,h2⟩ | ⟨y,co,cc,po,pc,h1,h2,h3,h4,h5,h6⟩
 ·exact .inl ⟨h1,hL.trans h2⟩
 ·exact .inr ⟨y,co,cc,po,pc,h1,hL.trans h2,ZBt h3 (fun a ha hl=>hk _ hl (h5 a ha).1),ZBt h4 (fun a ha hl=>hk _ hl (h6 a ha).1),fun a ha=>c a (h5 a ha),fun a ha=>c a (h6 a ha)⟩
theorem LwI.stab{d:Nat}{rows:List (List Int)}{g:List Int}{w WN W W':World}{NB L:Nat}{S S':Nat→Prop}{pre:List (List Int)}(h:LwI d rows g w WN NB L S pre W)(hL:L < NB)(hN:NB≤WN.heap.size)(hc:Chg S W W')(hs:∀b,S' b→S b∨W.heap.size≤b):LwI d rows g w WN NB L S' pre W':=by
 have a:=h.kp.size
 refine ⟨fun b hb=>?_,h.kp.trans (Kpt.of_chg hc fun i _ hi hsi=>?_),hc.os.trans h.os,hc.tape.trans h.tape,hc.output.trans h.output,h.le.keep (hc.block L (by omega) (fun hx=>by have:=h.sn L hx; omega)) (fun b hb hsb=>hc.block b hb hsb) hs⟩
 ·rcases hs b hb with h1 | h1
  ·exact h.sn b h1
  ·omega
 ·have:=h.sn i hsi
  omega
theorem ZI3{d:Nat}{rows:List (List Int)}{g:List Int}{w WN W1 X Ws:World}{NB L:Nat}{S:Nat→Prop}{pre:List (List Int)}{y:List Int}{co mo:Option Addr}{cc mc:Nat}(hi:LwI d rows g w WN NB L S pre W1)(hL:L < NB)(hb:Below W1.heap.size W1 X)
 (g1:Ws.heap[L]?=some (.cells #[.slice co y.length cc,.slice mo y.length mc,.int .i64 (uW rows g y)] 101 (0,0)))(g2:∀k,k≠L→Ws.heap[k]?=X.heap[k]?)(g3:Ws.heap.size=X.heap.size)(g4:Ws.os=X.os)(g5:Ws.tape=X.tape)(g6:Ws.output=X.output)
 (hcs:Sl 0 3 W1 (.slice co y.length cc) (ZAB y))(hms:Sl 0 3 W1 (.slice mo y.length mc) (ZAB (mW rows g y)))(hcb:∀a,co=some a→¬S a.block∧isC W1 a.block)(hmb:∀a,mo=some a→¬S a.block∧isC W1 a.block)(hlw:lwO d rows g (pre ++ [y])=some y) :
  Kpt (fun b=>S b∨(b < NB∧b≠L)) W1 Ws∧LwI d rows g w WN NB L S (pre ++ [y]) Ws:=by
 have r:=hi.kp.size;have p:=hb.size
 have l:∀b,S b→b≠L:=fun b hx e=>by have:=hi.sn b hx; omega
 have c:∀b,b < W1.heap.size→b≠L→Ws.heap[b]?=W1.heap[b]?:=fun b hl hne=>(g2 b hne).trans (hb.block b hl)
 have i:=hi.le.wb
 have m:∀{v:Value} {xs:List Value},Sl 0 3 W1 v xs→Sl 0 3 Ws v xs:=fun h=>ZNZ (.inr rfl) h i c
 have f:∀a:Addr,¬S a.block∧isC W1 a.block→¬S a.block∧isC Ws a.block:=by
  rintro a ⟨o,j,t,n⟩;refine ⟨o,?_⟩
  by_cases e:a.block=L
  ·exact ⟨_,_,by rw [e]; exact g1⟩
  ·exact ⟨j,t,(c _ (Zaa3.1 n).1 e).trans n⟩
 refine ⟨⟨by omega,fun b hl hx=>c b hl (hx.elim (l b) fun h=>h.2)⟩,hi.sn,hi.kp.trans ⟨by omega,fun b hl hx=>c b hl hx.2⟩,g4.trans (hb.os.trans hi.os),g5.trans (hb.tape.trans hi.tape),g6.trans (hb.output.trans hi.output),.inr ⟨y,co,cc,mo,mc,hlw,g1,m hcs,m hms,fun a ha=>f a (hcb a ha),fun a ha=>f a (hmb a ha)⟩⟩
theorem ZPb{d:Nat}{rows:List (List Int)}{g:List Int}{w WN W1 X:World}{NB L:Nat}{S:Nat→Prop}{pre:List (List Int)}{y z:List Int}(hi:LwI d rows g w WN NB L S pre W1)(hL:L < NB)(hN:NB≤WN.heap.size)(hb:Below W1.heap.size W1 X)(hz:lwO d rows g pre=some z)(hlw:lwO d rows g (pre ++ [y])=some z) :
  Kpt (fun b=>S b∨(b < NB∧b≠L)) W1 X∧LwI d rows g w WN NB L S (pre ++ [y]) X:=by
 have c:=hi.kp.size
 have a:=hi.le.keep (S':=S) (W':=X) (hb.block L (by omega)) (fun b hl _=>hb.block b hl) (fun b h=>.inl h)
 refine ⟨⟨hb.size,fun b hl _=>hb.block b hl⟩,hi.sn,hi.kp.trans ⟨hb.size,fun b hl _=>hb.block b hl⟩,hb.os.trans hi.os,hb.tape.trans hi.tape,hb.output.trans hi.output,?_⟩
 rcases a with ⟨h1,_⟩ | ⟨z',co,cc,po,pc,h1,h2⟩
 ·subst h1; simp [lwO] at hz
 ·rw [hz] at h1
  simp only [Zaa9] at h1;subst h1;exact .inr ⟨z,co,cc,po,pc,hlw,h2⟩
theorem ZGz(d:Nat)(rows:List (List Int))(g:List Int)(v gv:Value)(w:World){B0 B1:Nat}(hv0:Mat B0 27 3 w v rows)(hg0:Sl B1 3 w gv (ZAB g))(hc:CutF d rows)(hgl:g.length=d)(hgb:∀z∈g,z.natAbs≤20) :
  Calls Tryz.prog 123 #[.agg #[.int .i64 d,v],gv] w fun e w'=>∃tv,e=.returned (.tuple #[tv,.int .i64 (gmE d rows g)])∧LwV d rows g w' tv∧Below w.heap.size w w':=by
 have hv:Mat w.heap.size 27 3 w v rows:=hv0.any (Za4 _);have hg:Sl w.heap.size 3 w gv (ZAB g):=hg0.any (Za4 _);clear hv0 hg0;obtain ⟨M,L,cE,cK,cL⟩:=ZAD hv;obtain ⟨go,gc,bP,_,_⟩:=ZAI hg;rw [hgl] at bP;subst cE bP;obtain ⟨W,hW,aW,bK,aE,bA⟩:=ZPa w d (.slice M rows.length L);have bZ:=hid hW
 have P:Hid (∀X,Below W.heap.size W X→Below w.heap.size w X):=fun X hX=>aW.trans (hX.mono aW.size)
 have bJ:=hid bK
 have ay:Hid (∀X,Below W.heap.size W X→X.heap[w.heap.size]?=some (.cells #[.int .i64 d,.slice M rows.length L] 56 (0,0))):=fun X hX=>(hX.block _ (by omega)).trans aE
 have aF:Hid (∀X,Below W.heap.size W X→Wb (w.heap.size+1) X):=fun X hX=>⟨_,_,_,(hX.block _ (by omega)).trans bA⟩
 have bw:Hid (∀X,Below W.heap.size W X→Mat w.heap.size 27 3 X (.slice M rows.length L) rows):=fun X hX=>hv.below (P.out X hX) (Za4 _)
 have bQ:Hid (∀X,Below W.heap.size W X→Sl w.heap.size 3 X (.slice go d gc) (ZAB g)):=fun X hX=>hg.below (P.out X hX) (Za4 _)
 have HC:=hid hc;have ag:=hid hgl;have bR:=hid hgb
 have bq:Hid (Calls Tryz.prog 140 #[.agg #[.int .i64 d,.slice M rows.length L],.slice go d gc] W fun e w'=>e=.returned (.int .i64 (if ZDO d rows=true then 6 else 0))∧Below W.heap.size W w'):=ZGy d rows g _ _ W (bw.out W (Below.refl _ _)) (bQ.out W (Below.refl _ _)) hc hgl hgb
 have c0:W.cell? ⟨w.heap.size,0,none⟩=some (.int .i64 d):=by simp [World.cell?,aE]
 have c1:W.cell? ⟨w.heap.size,1,none⟩=some (.slice M rows.length L):=by simp [World.cell?,aE]
 clear hv hg hc hgl hgb hW aW bK aE bA;refine callsIn_wide (n:=0).1 ?_;refine callsIn_of_wp_marks Tryz.func123 rfl trivial ?_ rfl;simp only [Tryz.ntmps123,List.size_toArray,List.length_cons,List.length_nil,Nat.reduceAdd,Nat.reduceSub,Array.replicate_succ,Array.replicate_zero,List.push_toArray,List.append_toArray,List.nil_append,List.cons_append]
 gi_upto_region 1 with fail
 rw [←bZ.out]
 gi_wp2_with fail
 refine ⟨trivial,rfl,?_⟩;refine (callsIn_wide.2 bq.out).mono ?_;rintro e V ⟨rfl,af⟩;have am:=hid af;have au:=ay.out V af;have cH:=af.size;obtain ⟨f0,f1,f2⟩:=(aF.out V af).frozen;obtain ⟨x0,x1,x2,r0,r1,r2⟩:=(aF.out V af).cells;clear af bq c0 c1
 cases heb:ZDO d rows
 case true=>
  have HE:Hid (gmE d rows g=6):=by show _=_; unfold gmE; rw [if_pos heb]
  clear heb
  gi_wp2
  obtain ⟨Ws,E,g1,g2,g3,g4,g5,g6⟩:=ZBu (.slice none 0 0) (.slice none 0 0) (.int .i64 0) (aF.out V am.out);rw [←E];have cJ:=bJ.out;have cI:=am.out.size;have aH:=P.out V am.out
  refine ZAq [] Ws (by simp) (fun r hr=>by simp at hr) (fun w' hc=>⟨.tuple #[ZOh,.int .i64 6],?_,?_⟩)
  ·have q1:w'.heap[w.heap.size+1]?=_:=(hc.block _ (by omega) (by simp)).trans g1
   simp [results,Tryz.results123,go_sem,World.cell?,q1,ZOh]
  ·refine ⟨ZOh,by rw [HE.out],.inl ⟨by rw [HE.out]; decide,rfl⟩,hc.os.trans (g4.trans aH.os),hc.tape.trans (g5.trans aH.tape),hc.output.trans (g6.trans aH.output),by have:=hc.size; omega,fun b hb=>?_⟩
   exact (hc.block b (by omega) (by simp)).trans ((g2 b (by omega)).trans (aH.block b hb))
 case false=>
  have HE:Hid (gmE d rows g=if ZAY rows g=[] then 7 else 0):=by show _=_; unfold gmE; rw [if_neg (by rw [heb]; decide)]
  clear heb
  have c0:V.cell? ⟨w.heap.size,0,none⟩=some (.int .i64 d):=by simp [World.cell?,au]
  have c1:V.cell? ⟨w.heap.size,1,none⟩=some (.slice M rows.length L):=by simp [World.cell?,au]
  gi_upto_region 6 with fail
  obtain ⟨F,hF⟩:∃F,F=V.heap.size:=⟨_,rfl⟩
  obtain ⟨m,ae⟩:∃m,m=(V.alloc (.cells #[.func (.func 141) #[] #[.pointer (some ⟨w.heap.size,0,none⟩)]] 160)).alloc (.cells #[.slice none 0 0,.slice none 0 0,.int .i64 0] 101):=⟨_,rfl⟩
  rw [←ae,←hF];have k1:=ZAG V (.cells #[.func (.func 141) #[] #[.pointer (some ⟨w.heap.size,0,none⟩)]] 160);have k2:=ZAG (V.alloc (.cells #[.func (.func 141) #[] #[.pointer (some ⟨w.heap.size,0,none⟩)]] 160)) (.cells #[.slice none 0 0,.slice none 0 0,.int .i64 0] 101)
  have aI:Below V.heap.size V m:=by rw [ae]; exact k1.trans (k2.mono k1.size)
  have an:m.heap.size=F+2:=by rw [ae,size_alloc,size_alloc,hF]
  have bD:m.heap[F]?=some (.cells #[.func (.func 141) #[] #[.pointer (some ⟨w.heap.size,0,none⟩)]] 160 (0,0)):=by
   rw [ae,hF]; exact (k2.block _ (by rw [size_alloc]; omega)).trans (ZAL _ _)
  have aQ:m.heap[F+1]?=some (.cells #[.slice none 0 0,.slice none 0 0,.int .i64 0] 101 (0,0)):=by
   have:=ZAL (V.alloc (.cells #[.func (.func 141) #[] #[.pointer (some ⟨w.heap.size,0,none⟩)]] 160)) (.cells #[.slice none 0 0,.slice none 0 0,.int .i64 0] 101);rw [size_alloc] at this;rw [ae,hF]; exact this
  have aD:Below W.heap.size W m:=am.out.trans (aI.mono am.out.size)
  have bW:w.heap.size+2≤F:=by have:=bJ.out; omega
  have c0:m.cell? ⟨w.heap.size,0,none⟩=some (.int .i64 d):=by simp [World.cell?,ay.out m aD]
  have c1:m.cell? ⟨w.heap.size,1,none⟩=some (.slice M rows.length L):=by simp [World.cell?,ay.out m aD]
  have G:=hid aD;have cj:=hid an;clear an;clear ae hF k1 k2 aI aD f0 f1 f2 r0 r1 r2 au
  gi_wp2_with (refine ⟨trivial,rfl,?_⟩; gi_at_call 98; refine (callsIn_wide.2 (ZEU _ _ _ _ _ _ _ _ _ rfl rfl)).mono ?_; rintro e w' ⟨rfl,rfl⟩)
  obtain ⟨i,aa⟩:∃i,i=m.heap.size:=⟨_,rfl⟩
  rw [←aa];have an:=cj.out
  obtain ⟨p,ah⟩:∃p,p=(m.alloc (.cells #[.slice M rows.length L] 22)).alloc (.cells #[.slice go d gc] 27):=⟨_,rfl⟩
  rw [←ah]
  have n1:p.heap[i]?=some (.cells #[.slice M rows.length L] 22 (0,0)):=by
   rw [ah,aa]; exact ((ZAG _ _).block _ (by rw [size_alloc]; omega)).trans (ZAL _ _)
  have n2:p.heap[i+1]?=some (.cells #[.slice go d gc] 27 (0,0)):=by
   have:=ZAL (m.alloc (.cells #[.slice M rows.length L] 22)) (.cells #[.slice go d gc] 27);rw [size_alloc] at this;rw [ah,aa]; exact this
  have cC:p.heap.size=i+2:=by rw [ah,size_alloc,size_alloc,aa]
  have s:Below m.heap.size m p:=by rw [ah]; exact (ZAG _ _).trans ((ZAG _ _).mono (by rw [size_alloc]; omega))
  have aT:Wb (F+1) m:=⟨_,_,_,aQ⟩
  have j:∀X,Kpt (fun b=>b < i∧b≠F+1) p X→∀b,b < m.heap.size→b≠F+1→X.heap[b]?=m.heap[b]?:=fun X hk b hb hne=>(hk.block b (by omega) ⟨by omega,hne⟩).trans (s.block b hb)
  have aN:∀X,Kpt (fun b=>b < i∧b≠F+1) p X→Mat w.heap.size 27 3 X (.slice M rows.length L) rows:=fun X hk=>ZJn (by omega) (bw.out m G.out) aT (j X hk)
  have bi:∀X,Kpt (fun b=>b < i∧b≠F+1) p X→Sl w.heap.size 3 X (.slice go d gc) (ZAB g):=fun X hk=>ZEb (.inr rfl) (by omega) (bQ.out m G.out) aT (j X hk)
  have bH:∀X,Kpt (fun b=>b < i∧b≠F+1) p X→X.heap[w.heap.size]?=some (.cells #[.int .i64 d,.slice M rows.length L] 56 (0,0))∧X.heap[F]?=some (.cells #[.func (.func 141) #[] #[.pointer (some ⟨w.heap.size,0,none⟩)]] 160 (0,0))∧Wb (w.heap.size+1) X:=fun X hk=>by
   refine ⟨(j X hk _ (by omega) (by omega)).trans (ay.out m G.out),(j X hk _ (by omega) (by omega)).trans bD,?_⟩
   obtain ⟨a1,a2,a3,h⟩:=aF.out m G.out
   exact ⟨a1,a2,a3,(j X hk _ (by omega) (by omega)).trans h⟩
  have aS:ZPF Tryz.prog 125 #[.pointer (some ⟨i+1,0,none⟩),.pointer (some ⟨i,0,none⟩)] (ZDY rows g) (ZAY rows g) (fun b=>b < i∧b≠F+1) (fun b=>b=i+1∨b=i) p:=
   ZIx w.heap.size (i+1) i rows g M go L gc (fun b=>b < i∧b≠F+1) p (by rw [ag.out]; exact ZAc n2) (ZAc n1)
    (fun X hk=>aN X hk) (fun X hk=>by rw [ag.out]; exact bi X hk)
    (fun b hb=>by have:=hb.1; omega)
    (fun r hr=>⟨by rw [ag.out,HC.out.len r hr]; omega,fun z hz=>by have:=HC.out.bd r hr z hz; omega⟩)
    (fun z hz=>by have:=bR.out z hz; omega) (by rw [ag.out]; exact HC.out.d1) (by rw [ag.out]; have:=HC.out.d4; omega) (by have:=HC.out.n12; omega)
  have ai:=hid cC
  have N:Hid (i=F+2∧w.heap.size+2≤F):=⟨by rw [aa]; exact an,bW⟩
  have bX:=hid aN;have bu:=hid bH
  have cw:Hid (∀b,b < w.heap.size→p.heap[b]?=w.heap[b]?):=fun b hb=>(s.block b (by omega)).trans ((P.out m G.out).block b hb)
  have aJ:Hid (p.os=w.os∧p.tape=w.tape∧p.output=w.output):=⟨s.os.trans (P.out m G.out).os,s.tape.trans (P.out m G.out).tape,s.output.trans (P.out m G.out).output⟩
  have cB:Hid (LwI d rows g w p i (F+1) (fun b=>b=i+1∨b=i) [] p):=⟨fun b hb=>by omega,Kpt.refl _ _,aJ.out.1,aJ.out.2.1,aJ.out.2.2,.inl ⟨rfl,(s.block _ (by omega)).trans aQ⟩⟩
  have bM:Hid (∀y,y∈ZAY rows g→WyOk rows y (mW rows g y) (uW rows g y)):=fun y hy=>ZLJ HC.out ag.out bR.out hy
  have ck:Hid (RwE d rows):=HC.out.rw;clear n1 n2 aN bi bH s aa ah aT j bD aQ an c0 c1
  refine ZDW (R:=ZDY rows g) (cs:=ZAY rows g) (T:=fun b=>b < i∧b≠F+1) (S0:=fun b=>b=i+1∨b=i) (gf:=125) (lb:=#[.pointer (some ⟨i+1,0,none⟩),.pointer (some ⟨i,0,none⟩)]) rfl (enters_of Tryz.func125 (by kernel_rfl) rfl) aS (fun b hb=>by omega)
   (fun D S x vs ⟨_,_,_,_,h1,_⟩=>by rw [h1]; rfl) (ZCu _ _) (ZEV _ _)
   (fun S A D=>LwI d rows g w p i (F+1) S A D)
   (fun c S A D=>False)
   (fun S S' A D W'' h hc hs=>h.stab (by have:=N.out.1; omega) (by have:=ai.out; omega) hc hs) (fun c S S' A D W'' h hc hs=>h) cB.out
   (fun vs a' D=>∃p' q' u' bx,vs=#[.agg #[p',q',u']]∧D.heap[bx]?=some (.cells #[p',q',u'] 101 (0,0))∧a' = { tmps:=#[.agg #[.int .i64 d,.slice M rows.length L],.slice go d gc,.pointer (some ⟨w.heap.size,0,none⟩),undef,.pointer (some ⟨w.heap.size+1,0,none⟩),.int .i64 0,.int .i64 0,.pointer (some ⟨F,0,none⟩),.pointer (some ⟨F+1,0,none⟩),.pointer (some ⟨bx,0,none⟩),.agg #[.int .i64 d,.slice M rows.length L],.slice go d gc,.int .i64 0,.int .i64 0,.bool false,undef,undef,.func (.func 141) #[] #[.pointer (some ⟨w.heap.size,0,none⟩)],.pointer (some ⟨w.heap.size,1,none⟩),.slice M rows.length L,.slice go d gc,.func (.func 125) #[] #[.pointer (some ⟨i+1,0,none⟩),.pointer (some ⟨i,0,none⟩)],.agg #[p',q',u'],undef,undef,undef,undef,undef,undef,undef,undef,undef,undef,undef,undef,undef,undef,undef],defers:=[] })
   ?hax ?assign ?body ?tl ?done ?stop
  case hax=>
   rintro vs a' D l r o ⟨p',q',u',bx,h1,h2,h3⟩ hl
   exact ⟨p',q',u',bx,h1,(World.putObj_heap_other (fun e=>by subst e; rw [hl] at h2; cases h2)).trans h2,h3⟩
  case tl=>exact fun h=>by have:=h.1; have:=ai.out; omega
  case assign=>
   rintro S y vs D K ⟨co,cc,mo,mc,rfl,h2,h3⟩ hK
   gi_wp2
   exact hK _ _ (ZAG _ _) ⟨_,_,_,D.heap.size,rfl,ZAL _ _,rfl⟩
  case body=>
   rintro S A y vs a' B hi cr cM cG aw aG Y ⟨S1,⟨co,cc,mo,mc,bC,cF,bp,aA,bv,bF,bE⟩,bz⟩ ⟨p',q',u',bx,ar,O,rfl⟩;rw [bC] at ar;simp only [Array.mk.injEq,List.cons.injEq,Value.agg.injEq,and_true] at ar;obtain ⟨rfl,rfl,rfl⟩:=ar;have O:B.heap[bx]?=some (.cells #[.slice co y.length cc,.slice mo y.length mc,.int .i64 (uW rows g y)] 101 (0,0)):=O;have aA:Sl 0 3 B (.slice mo y.length mc) (ZAB (mW rows g y)):=aA
   have aX:∀a:Addr,¬S1 a.block∧isC B a.block→¬S a.block∧isC B a.block:=by
    rintro a ⟨h1,cg,t,h3⟩
    refine ⟨fun hx=>?_,cg,t,h3⟩
    rcases (bz _).1 hx with h | h | h
    ·exact h1 h
    ·rw [h] at h3; rw [aw] at h3; cases h3
    ·obtain ⟨r,aG⟩:=aG; rw [h] at h3; rw [aG] at h3; cases h3
   have bl:Hid (∀a,co=some a→¬S a.block∧isC B a.block):=fun a ha=>aX a (bv a ha)
   have bL:Hid (∀a,mo=some a→¬S a.block∧isC B a.block):=fun a ha=>aX a (bF a ha)
   have aO:=hid bp;have aM:=hid aA;have U:=hid hi
   have bY:y∈ZAY rows g:=Y.subset (by simp)
   have cd:Hid (∀z∈A,z∈ZAY rows g):=fun z hz=>Y.subset (List.mem_append_left _ hz)
   have bV:Hid (WyOk rows y (mW rows g y) (uW rows g y)):=bM.out y bY
   have bT:B.cell? ⟨bx,0,none⟩=some (.slice co y.length cc):=by simp [World.cell?,O]
   have bB:B.cell? ⟨bx,1,none⟩=some (.slice mo y.length mc):=by simp [World.cell?,O]
   have aZ:B.cell? ⟨bx,2,none⟩=some (.int .i64 (uW rows g y)):=by simp [World.cell?,O]
   have bt:=hid O;obtain ⟨bI,bh,_⟩:=bu.out B hi.kp
   have cf:B.cell? ⟨F,0,none⟩=some (.func (.func 141) #[] #[.pointer (some ⟨w.heap.size,0,none⟩)]):=by simp [World.cell?,bh]
   have bS:=hid bI;obtain ⟨f0,f1,f2⟩:=hi.le.wb.frozen;have aV:=hi.le;clear hi bp aA bv bF bE bz aw aG Y cF bC O aX bI bh aS
   rcases aV with ⟨hp0,hL0⟩ | ⟨z,zo,zc,po,pc,hz,hL0,hzs,hps,_,_⟩
   ·have l0:B.cell? ⟨F+1,0,none⟩=some (.slice none 0 0):=by simp [World.cell?,hL0]
    have l1:B.cell? ⟨F+1,1,none⟩=some (.slice none 0 0):=by simp [World.cell?,hL0]
    have l2:B.cell? ⟨F+1,2,none⟩=some (.int .i64 0):=by simp [World.cell?,hL0]
    have aq:Hid (lwO d rows g (A ++ [y])=some y):=by show _=_; rw [hp0]; rfl
    clear hL0
    gi_wp2
    refine ⟨fun f hf=>(by cases hf),?_⟩
    gi_wp2
    obtain ⟨Ws,E,g1,g2,g3,g4,g5,g6⟩:=ZBu (.slice co y.length cc) (.slice mo y.length mc) (.int .i64 (uW rows g y)) U.out.le.wb;rw [←E]
    exact ZI3 U.out (by have:=N.out.1; omega) (Below.refl _ _) g1 g2 g3 g4 g5 g6 aO.out aM.out bl.out bL.out aq.out
   ·have l0:B.cell? ⟨F+1,0,none⟩=some (.slice zo z.length zc):=by simp [World.cell?,hL0]
    have l1:B.cell? ⟨F+1,1,none⟩=some (.slice po z.length pc):=by simp [World.cell?,hL0]
    have l2:B.cell? ⟨F+1,2,none⟩=some (.int .i64 (uW rows g z)):=by simp [World.cell?,hL0]
    have J:=cd.out z (ZDa hz);have aL:=ZI2 J
    have cD:(uW rows g z == 0)=false:=by rw [beq_eq_false_iff_ne]; omega
    have bO:Hid (Calls Tryz.prog 141 #[.agg #[.slice co y.length cc,.slice mo y.length mc,.int .i64 (uW rows g y)],.agg #[.slice zo z.length zc,.slice po z.length pc,.int .i64 (uW rows g z)],.pointer (some ⟨w.heap.size,0,none⟩)] B fun e w'=>e=.returned (.bool (decide (sdL rows d y (mW rows g y)*uW rows g z < sdL rows d z (mW rows g z)*uW rows g y)))∧Below B.heap.size B w'):=
     ZNX d rows y (mW rows g y) z (mW rows g z) (uW rows g y) (uW rows g z) _ co mo zo po cc mc zc pc y.length z.length w.heap.size B (bX.out B U.out.kp) bS.out aO.out aM.out hzs hps ck.out bV.out (bM.out z J) rfl rfl
    have HZ:=hid hz
    have aC:Hid (lwO d rows g (A ++ [y])=if sdL rows d y (mW rows g y)*uW rows g z < sdL rows d z (mW rows g z)*uW rows g y then some y else some z):=by show _=_; rw [ZDw,hz]; rfl
    have bj:=hid hL0;clear hzs hps hL0 J aL hz
    gi_wp2_with fail
    refine ⟨trivial,rfl,?_⟩;refine (CallsIn.inRound _ (callsIn_wide.2 bO.out)).mono ?_;rintro e w5 ⟨rfl,aB⟩;have bG:=hid aB;have Q:=(aB.block bx (Zaa3.1 bt.out).1).trans bt.out;have ak:=(aB.block (F+1) (Zaa3.1 bj.out).1).trans bj.out;clear bT bB aZ l0 l1 l2 f0 f1 f2 cf aB bO
    have bT:w5.cell? ⟨bx,0,none⟩=some (.slice co y.length cc):=by simp [World.cell?,Q]
    have bB:w5.cell? ⟨bx,1,none⟩=some (.slice mo y.length mc):=by simp [World.cell?,Q]
    have aZ:w5.cell? ⟨bx,2,none⟩=some (.int .i64 (uW rows g y)):=by simp [World.cell?,Q]
    have l0:w5.cell? ⟨F+1,0,none⟩=some (.slice zo z.length zc):=by simp [World.cell?,ak]
    have l1:w5.cell? ⟨F+1,1,none⟩=some (.slice po z.length pc):=by simp [World.cell?,ak]
    have l2:w5.cell? ⟨F+1,2,none⟩=some (.int .i64 (uW rows g z)):=by simp [World.cell?,ak]
    have bU:Hid (Wb (F+1) w5):=⟨_,_,_,ak⟩;obtain ⟨f0,f1,f2⟩:=bU.out.frozen;clear Q ak
    by_cases hlt:sdL rows d y (mW rows g y)*uW rows g z < sdL rows d z (mW rows g z)*uW rows g y
    ·have aq:Hid (lwO d rows g (A ++ [y])=some y):=by show _=_; rw [aC.out,if_pos hlt]
     have aj:decide (sdL rows d y (mW rows g y)*uW rows g z < sdL rows d z (mW rows g z)*uW rows g y)=true:=decide_eq_true hlt;rw [aj];clear aj hlt aC
     gi_wp2
     obtain ⟨Ws,E,g1,g2,g3,g4,g5,g6⟩:=ZBu (.slice co y.length cc) (.slice mo y.length mc) (.int .i64 (uW rows g y)) bU.out;rw [←E]
     exact ZI3 U.out (by have:=N.out.1; omega) bG.out g1 g2 g3 g4 g5 g6 aO.out aM.out bl.out bL.out aq.out
    ·have aq:Hid (lwO d rows g (A ++ [y])=some z):=by show _=_; rw [aC.out,if_neg hlt]
     have aj:decide (sdL rows d y (mW rows g y)*uW rows g z < sdL rows d z (mW rows g z)*uW rows g y)=false:=decide_eq_false hlt;rw [aj];clear aj hlt aC
     gi_wp2
     exact ZPb U.out (by have:=N.out.1; omega) (by have:=ai.out; omega) bG.out HZ.out aq.out
  case done=>
   rintro S D hi cr aw;have aY:=ai.out;have aR:=hi.kp.size;have aP:=N.out;obtain ⟨_,_,az⟩:=bu.out D hi.kp;obtain ⟨f0,f1,f2⟩:=az.frozen;obtain ⟨x0,x1,x2,r0,r1,r2⟩:=az.cells;have aK:=hid az;have U:=hid hi;have aU:=hid aw
   have bk:Hid (∀b,b < w.heap.size→D.heap[b]?=w.heap[b]?):=fun b hb=>(hi.kp.block b (by omega) ⟨by omega,by omega⟩).trans (cw.out b hb)
   have aV:=hi.le;clear hi aw aS aR aY aP az
   rcases aV with ⟨hp0,hL0⟩ | ⟨z,zo,zc,po,pc,hz,hL0,hzs,hps,hzb,hpb⟩
   ·have l0:D.cell? ⟨F+1,0,none⟩=some (.slice none 0 0):=by simp [World.cell?,hL0]
    have l1:D.cell? ⟨F+1,1,none⟩=some (.slice none 0 0):=by simp [World.cell?,hL0]
    have l2:D.cell? ⟨F+1,2,none⟩=some (.int .i64 0):=by simp [World.cell?,hL0]
    have bN:Hid (gmE d rows g=7):=by show _=_; rw [HE.out,if_pos hp0]
    clear hL0 hp0
    gi_wp2
    obtain ⟨Ws,E,g1,g2,g3,g4,g5,g6⟩:=ZBu (.slice none 0 0) (.slice none 0 0) (.int .i64 0) aK.out;rw [←E];have aY:=ai.out;have aR:=U.out.kp.size;have aP:=N.out
    refine ZAq [p.heap.size] Ws (by simp) (fun r hr=>?_) (fun w' hc=>⟨.tuple #[ZOh,.int .i64 7],?_,?_⟩)
    ·simp only [List.mem_singleton] at hr
     subst hr
     exact (g2 _ (by omega)).trans aU.out
    ·have q1:w'.heap[w.heap.size+1]?=_:=(hc.block _ (by omega) (by simp; omega)).trans g1
     simp [results,Tryz.results123,go_sem,World.cell?,q1,ZOh]
    ·refine ⟨ZOh,by rw [bN.out],.inl ⟨by rw [bN.out]; decide,rfl⟩,hc.os.trans (g4.trans U.out.os),hc.tape.trans (g5.trans U.out.tape),hc.output.trans (g6.trans U.out.output),by have:=hc.size; omega,fun b hb=>?_⟩
     exact (hc.block b (by omega) (by simp; omega)).trans ((g2 b (by omega)).trans (bk.out b hb))
   ·have l0:D.cell? ⟨F+1,0,none⟩=some (.slice zo z.length zc):=by simp [World.cell?,hL0]
    have l1:D.cell? ⟨F+1,1,none⟩=some (.slice po z.length pc):=by simp [World.cell?,hL0]
    have l2:D.cell? ⟨F+1,2,none⟩=some (.int .i64 (uW rows g z)):=by simp [World.cell?,hL0]
    have J:=ZDa hz;have aL:=ZI2 J
    have cD:(uW rows g z == 0)=false:=by rw [beq_eq_false_iff_ne]; omega
    have bg:Hid (gmE d rows g=0):=by show _=_; rw [HE.out,if_neg (fun e=>by rw [e] at J; simp at J)]
    have HZ:=hid hz;have cq:=hid hzs;have cA:=hid hps;clear hL0 J aL hz hzs hps hzb hpb
    gi_wp2
    obtain ⟨Ws,E,g1,g2,g3,g4,g5,g6⟩:=ZBu (.slice zo z.length zc) (.slice po z.length pc) (.int .i64 (uW rows g z)) aK.out;rw [←E];have aY:=ai.out;have aR:=U.out.kp.size;have aP:=N.out
    have ty:∀(w':World),Chg (fun b=>b∈[p.heap.size]) Ws w'→∀{v:Value} {xs:List Value},Sl 0 3 D v xs→Sl 0 3 w' v xs:=fun w' hc v xs h=>h.move fun k hl ht=>⟨by
     have h1:k≠w.heap.size+1:=by
      rcases ht with ht | ht
      ·omega
      ·exact aK.out.off (.inr ht)
     have h2:k≠p.heap.size:=fun e=>by
      subst e
      rcases ht with ht | ⟨c,ht⟩
      ·omega
      ·rw [aU.out] at ht; cases ht
     exact (hc.block k (by omega) (by simpa using h2)).trans (g2 k h1),ht⟩
    refine ZAq [p.heap.size] Ws (by simp) (fun r hr=>?_) (fun w' hc=>⟨.tuple #[.agg #[.slice zo z.length zc,.slice po z.length pc,.int .i64 (uW rows g z)],.int .i64 0],?_,?_⟩)
    ·simp only [List.mem_singleton] at hr
     subst hr
     exact (g2 _ (by omega)).trans aU.out
    ·have q1:w'.heap[w.heap.size+1]?=_:=(hc.block _ (by omega) (by simp; omega)).trans g1
     simp [results,Tryz.results123,go_sem,World.cell?,q1]
    ·refine ⟨_,by rw [bg.out],.inr ⟨z,zo,zc,po,pc,bg.out,HZ.out,rfl,ty w' hc cq.out,ty w' hc cA.out⟩,hc.os.trans (g4.trans U.out.os),hc.tape.trans (g5.trans U.out.tape),hc.output.trans (g6.trans U.out.output),by have:=hc.size; omega,fun b hb=>?_⟩
     exact (hc.block b (by omega) (by simp; omega)).trans ((g2 b (by omega)).trans (bk.out b hb))
  case stop=>
   rintro c S A D Y h;exact h.elim
end Go.Proofs.YtkjkfceblmgogaaGreat
