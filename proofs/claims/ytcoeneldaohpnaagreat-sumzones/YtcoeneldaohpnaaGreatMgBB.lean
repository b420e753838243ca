import Derived.Test.YtcoeneldaohpnaaGreatMgAM
import Derived.Test.YtcoeneldaohpnaaGreatRfF
import Derived.Test.YtcoeneldaohpnaaGreatSz5
namespace Go.Proofs.YtcoeneldaohpnaaGreat
open Go.RowKit Go.Shelf
attribute [local go_sem] Oper.semAt_some
def HandC (N0:Nat) (W0 W:World) (S:Nat→Prop) (x:List Int) (vs:Array Value):Prop:=
 ∃v,vs=#[v]∧W.ownsRow W0.heap.size 3 1 v x.length (ints x)∧(∀b,S b→b < W0.heap.size)∧N0≤W0.heap.size∧W0.heap.size≤W.heap.size∧∀(b:Nat) (cur:Array Value) (t:TypeId) (f:Nat×Nat),W0.heap[b]?=some (.cells cur t f)→W.heap[b]?=some (.cells cur t f)
theorem handC_below (N0:Nat) (W0 W:World) (S:Nat→Prop) (x:List Int) (vs:Array Value) (W':World) (h:HandC N0 W0 W S x vs) (hb:Below W.heap.size W W'):HandC N0 W0 W' S x vs:=by
 obtain ⟨v,h1,h2,h3,h4,h5,h6⟩:=h
 exact ⟨v,h1,owns_below h2 hb (Nat.le_refl _),h3,h4,Nat.le_trans h5 hb.size,fun b cur t f hx=>(hb.block b (Array.getElem?_eq_some_iff.1 (h6 b cur t f hx)).1).trans (h6 b cur t f hx)⟩
theorem handC_put (N0:Nat) (W0 W:World) (S:Nat→Prop) (x:List Int) (vs:Array Value) (l:Nat) (r:Loop) (o:Obj) (h:HandC N0 W0 W S x vs) (hl:W.heap[l]?=some (.loop r)):HandC N0 W0 (W.putObj l o) S x vs:=by
 obtain ⟨v,h1,h2,h3,h4,h5,h6⟩:=h
 refine ⟨v,h1,ownsRow_putObj h2 _ hl rfl,h3,h4,by simpa using h5,fun b cur t f hx=>?_⟩
 have:=h6 b cur t f hx
 exact (World.putObj_heap_other (fun e=>by subst e; rw [hl] at this; cases this)).trans this
def FillC (k:Nat):Prop:=∀(N0 l n many bm by' bc bn bf ba:Nat) (S T:Nat→Prop) (J Jx:(Nat→Prop)→List (List Int)→World→Prop) (cs:List (List Int)),Stab J→Bxo S bm by' bc bn bf ba→many≤8→n≤1000→N0≤ba→
 (∀m S pre x vs W0 W1,J S pre W0→J S pre W1→(pre ++ [x]) <+: cs→HandC N0 W0 W1 S x vs→YieldAt Fence.wide m Tryz.prog l vs W1 fun e W'=>Kpt (fun b=>S b∨T b) W1 W'∧
   ((e=.returned (.bool true)∧J S (pre ++ [x]) W')∨(e=.returned (.bool false)∧Jx S (pre ++ [x]) W')))→
 ∀(ix:List Int) (fr:Nat) (pre:List (List Int)) (f:Nat→Value) (W:World),ix.length+k=many→fr≤n→Ox W l n many bm by' bc bn bf ba→W.rowIs ba 3 many f→(∀j,j < ix.length→f j=.int .i64 (ix.getD j 0))→
  (∀b,S b→b < W.heap.size)→J S pre W→(pre ++ (ext n k fr).map (ix ++ ·)) <+: cs→
  CallsIn Fence.wide 0 Tryz.prog 45 #[.int .i64 ix.length,.int .i64 fr,.pointer (some ⟨bm,0,none⟩),.pointer (some ⟨by',0,none⟩),.pointer (some ⟨bc,0,none⟩),.pointer (some ⟨bn,0,none⟩),.pointer (some ⟨bf,0,none⟩)] W fun e W'=>
   (e=.returned (.bool true)∧J S (pre ++ (ext n k fr).map (ix ++ ·)) W'∧Ox W' l n many bm by' bc bn bf ba∧W.heap.size≤W'.heap.size∧∃f',W'.rowIs ba 3 many f'∧∀j,j < ix.length→f' j=f j)∨
   (e=.returned (.bool false)∧∃q,q <+: cs∧Jx S q W')
set_option maxRecDepth 100000 in
set_option maxHeartbeats 2000000 in
theorem fillC_zero:FillC 0:=by
 intro N0 l n many bm by' bc bn bf ba S T J Jx cs hst hbx hm5 hn hN0 hY ix fr pre f W hk hfr ho hrow hf hsz hJ hpre
 have hk':ix.length=many:=by omega
 subst hk'
 have hext:(ext n 0 fr).map (ix ++ ·)=[ix]:=by simp [ext]
 rw [hext] at hpre ⊢
 have c1:=ho.cm
 have c2:=ho.cy
 have c3:=ho.cc
 have HV:Hid (Sl 0 3 W.drew (.slice (some ⟨ba,0,none⟩) ix.length ix.length) (ints ix)):=Sl.row' hrow (by unfold maxLen; omega) (by simp) (fun i hi=>by rw [hf i hi,ints_get ix i hi])
 have HCL:Hid (Calls Tryz.prog 46 #[.slice (some ⟨ba,0,none⟩) ix.length ix.length] W.drew fun e w'=>∃u,e=.returned u∧w'.ownsRow W.heap.size 3 1 u ix.length (ints ix)∧Below W.heap.size W.drew w'):=clone_any 0 ix _ W.drew HV.out (by omega)
 have HYY:Hid (∀u w1,w1.ownsRow W.heap.size 3 1 u ix.length (ints ix)→Below W.heap.size W.drew w1→YieldAt Fence.wide 0 Tryz.prog l #[u] w1 fun e W'=>
   ∃b,e=.returned (.bool b)∧((b=true∧J S (pre ++ [ix]) W'∧Kpt (fun b=>S b∨T b) w1 W'∧Below W.heap.size W.drew w1)∨(b=false∧Jx S (pre ++ [ix]) W'))):=fun u w1 h1 h2=>
  YieldAt.mono (hY 0 S pre ix #[u] W w1 hJ (hst S S pre W w1 hJ (Chg.of_below (a:=W) (N:=W.heap.size) ⟨h2.os,h2.tape,h2.output,h2.size,h2.block⟩ (Nat.le_refl _)) (fun b hb=>.inl hb)) hpre ⟨u,rfl,h1,hsz,by have:=hsz ba hbx.a; omega,h2.size,fun b cur t f hb=>(h2.block b (Array.getElem?_eq_some_iff.1 hb).1).trans hb⟩) fun e W' h=>h.2.elim (fun ⟨a,b⟩=>⟨true,a,.inl ⟨rfl,b,h.1,h2⟩⟩) (fun ⟨a,b⟩=>⟨false,a,.inr ⟨rfl,b⟩⟩)
 have HO:Hid (Ox W l n ix.length bm by' bc bn bf ba):=ho
 have HR:Hid (W.rowIs ba 3 ix.length f):=hrow
 have HSZ:Hid (∀b,S b→b < W.heap.size):=hsz
 have HBX:Hid (Bxo S bm by' bc bn bf ba):=hbx
 have HPRE:Hid ((pre ++ [ix]) <+: cs):=hpre
 have HLT:Hid (by' < W.heap.size):=lt_cell0 c2
 clear hst hY ho hrow hf hsz hJ hpre hbx hext
 refine callsIn_of_wp Tryz.func45 rfl trivial ?_ rfl
 simp only [Tryz.ntmps45,List.size_toArray,List.length_cons,List.length_nil,Nat.reduceAdd,Nat.reduceSub,Array.replicate_succ,Array.replicate_zero,List.push_toArray,List.append_toArray,List.nil_append,List.cons_append]
 gi_wp2_with fail
 gi_region_with (first | (refine ⟨trivial,rfl,?_⟩; gi_at_call 46; refine (callsIn_wide.2 HCL.out).mono ?_; rintro e w1 ⟨u,rfl,h1,h2⟩; have c2':=(h2.cell (p:=⟨by',0,none⟩) HLT.out).trans c2; obtain ⟨fn,tmps,assign,body,hy,hR⟩:=HYY.out u w1 h1 h2; clear h1 h2) | (refine ⟨rfl,?_⟩; refine hR.mono ?_; clear hR hy; rintro e W' ⟨b,rfl,hP⟩; have HP:Hid ((b=true∧J S (pre ++ [ix]) W'∧Kpt (fun b=>S b∨T b) w1 W'∧Below W.heap.size W.drew w1)∨(b=false∧Jx S (pre ++ [ix]) W')):=hP; clear hP))
 all_goals
  gi_wp2
  go_ret
  rcases HP.out with ⟨rfl,hJ',hkp,hb⟩ | ⟨rfl,hJx⟩
  ·have hkw:∀b,S b→b < W.heap.size→W'.heap[b]?=W.heap[b]?:=fun b hb1 hb2=>(hkp.block b (Nat.lt_of_lt_of_le hb2 hb.size) (.inl hb1)).trans (hb.block b hb2)
   refine .inl ⟨rfl,hJ',HO.out.move (fun b hb1 hb2=>hkw b (HBX.out.of hb1) hb2),Nat.le_trans hb.size hkp.size,f,?_,fun _ _=>rfl⟩
   obtain ⟨c,q1,q2,q3⟩:=HR.out
   exact ⟨c,(hkw ba HBX.out.a (HSZ.out ba HBX.out.a)).trans q1,q2,q3⟩
  ·exact .inr ⟨rfl,_,HPRE.out,hJx⟩
set_option maxRecDepth 100000 in
set_option maxHeartbeats 4000000 in
theorem fillC_succ (k:Nat) (ih:FillC k):FillC (k+1):=by
 intro N0 l n many bm by' bc bn bf ba S T J Jx cs hst hbx hm5 hn hN0 hY ix fr pre f W hk hfr ho hrow hf hsz hJ hpre
 have HIH:Hid (∀(ix:List Int) (fr:Nat) (pre:List (List Int)) (f:Nat→Value) (W:World),ix.length+k=many→fr≤n→Ox W l n many bm by' bc bn bf ba→W.rowIs ba 3 many f→(∀j,j < ix.length→f j=.int .i64 (ix.getD j 0))→
  (∀b,S b→b < W.heap.size)→J S pre W→(pre ++ (ext n k fr).map (ix ++ ·)) <+: cs→
  CallsIn Fence.wide 0 Tryz.prog 45 #[.int .i64 ix.length,.int .i64 fr,.pointer (some ⟨bm,0,none⟩),.pointer (some ⟨by',0,none⟩),.pointer (some ⟨bc,0,none⟩),.pointer (some ⟨bn,0,none⟩),.pointer (some ⟨bf,0,none⟩)] W fun e W'=>
   (e=.returned (.bool true)∧J S (pre ++ (ext n k fr).map (ix ++ ·)) W'∧Ox W' l n many bm by' bc bn bf ba∧W.heap.size≤W'.heap.size∧∃f',W'.rowIs ba 3 many f'∧∀j,j < ix.length→f' j=f j)∨
   (e=.returned (.bool false)∧∃q,q <+: cs∧Jx S q W')):=ih N0 l n many bm by' bc bn bf ba S T J Jx cs hst hbx hm5 hn hN0 hY
 have HST:Hid (Stab J):=hst
 have HBX:Hid (Bxo S bm by' bc bn bf ba):=hbx
 have HO:Hid (Ox W l n many bm by' bc bn bf ba):=ho
 have HRW:Hid (W.rowIs ba 3 many f):=hrow
 have HF:Hid (∀j,j < ix.length→f j=.int .i64 (ix.getD j 0)):=hf
 have HSZ:Hid (∀b,S b→b < W.heap.size):=hsz
 have HJ:Hid (J S pre W):=hJ
 have HPRE:Hid ((pre ++ (ext n (k+1) fr).map (ix ++ ·)) <+: cs):=hpre
 have c1:=ho.cm
 have c2:=ho.cn
 have hne:((ix.length:Int) == (many:Int))=false:=by rw [beq_eq_false_iff_ne]; omega
 clear hst hbx hY ho hrow hf hsz hJ hpre ih
 refine callsIn_of_wp Tryz.func45 rfl trivial ?_ rfl
 simp only [Tryz.ntmps45,List.size_toArray,List.length_cons,List.length_nil,Nat.reduceAdd,Nat.reduceSub,Array.replicate_succ,Array.replicate_zero,List.push_toArray,List.append_toArray,List.nil_append,List.cons_append]
 gi_wp2
 gi_loopw [21,10] (fun i _ wr=>∃(q:Nat) (g:Nat→Value) (pr:List (List Int)),fr+q≤n∧i=.int .i64 q∧Ox wr l n many bm by' bc bn bf ba∧wr.rowIs ba 3 many g∧(∀j,j < ix.length→g j=f j)∧W.heap.size≤wr.heap.size∧J S pr wr∧
   pr ++ (ext n (k+1) (fr+q)).map (ix ++ ·)=pre ++ (ext n (k+1) fr).map (ix ++ ·)) (fun i _ _=>n-(intOf i).toNat)
 case atStart=>exact ⟨0,f,pre,hfr,rfl,HO.out,HRW.out,fun _ _=>rfl,Nat.le_refl _,HJ.out,rfl⟩
 case round=>
  obtain ⟨q,g,pr,hq,rfl,ho,hrow,hg,hsz,hJ,hpr⟩:=hrel
  have HO2:Hid (Ox wr l n many bm by' bc bn bf ba):=ho
  have HRW2:Hid (wr.rowIs ba 3 many g):=hrow
  have HG:Hid (∀j,j < ix.length→g j=f j):=hg
  have HJ2:Hid (J S pr wr):=hJ
  have HPR:Hid (pr ++ (ext n (k+1) (fr+q)).map (ix ++ ·)=pre ++ (ext n (k+1) fr).map (ix ++ ·)):=hpr
  have HWS:Hid (W.heap.size≤wr.heap.size):=hsz
  by_cases hlt:fr+q < n
  ·have d1:=ho.cc
   have d4:=hrow.cell (i:=ix.length) (by omega)
   have d5:=hrow.frozen ix.length
   obtain ⟨W5,hW5⟩:∃W5,W5=wr.setCell ⟨ba,ix.length,none⟩ (.int .i64 ((fr:Int)+(q:Int))):=⟨_,rfl⟩
   have HO5:Hid (Ox W5 l n many bm by' bc bn bf ba):=by
    rw [hW5]
    exact ho.move (fun b hb _=>Below.heap_setCell _ _ _ _ (HBX.out.ne b hb))
   have HRW5:Hid (W5.rowIs ba 3 many (fun i=>if i=ix.length then .int .i64 ((fr:Int)+(q:Int)) else g i)):=by rw [hW5]; exact hrow.set _ _
   have HJ5:Hid (J S pr W5):=HST.out S S pr wr W5 hJ (by rw [hW5]; exact (Chg.refl _ _).setCell HBX.out.a _) (fun b hb=>.inl hb)
   have hs5:W5.heap.size=wr.heap.size:=by rw [hW5]; simp [World.setCell]
   have d6:(wr.setCell ⟨ba,ix.length,none⟩ (.int .i64 ((fr:Int)+(q:Int)))).cell? ⟨bf,0,none⟩=some (.func (.func 45) #[] #[.pointer (some ⟨bm,0,none⟩),.pointer (some ⟨by',0,none⟩),.pointer (some ⟨bc,0,none⟩),.pointer (some ⟨bn,0,none⟩),.pointer (some ⟨bf,0,none⟩)]):=by rw [←hW5]; exact HO5.out.cf
   have HW5:Hid (W5=wr.setCell ⟨ba,ix.length,none⟩ (.int .i64 ((fr:Int)+(q:Int)))):=hW5
   have HCONS:Hid ((ext n (k+1) (fr+q)).map (ix ++ ·)=(ext n k (fr+q+1)).map ((ix ++ [((fr+q:Nat):Int)]) ++ ·) ++ (ext n (k+1) (fr+q+1)).map (ix ++ ·)):=ext_cons_map hlt ix
   have HCALL:Hid (CallsIn Fence.wide 0 Tryz.prog 45 #[.int .i64 ((ix.length:Int)+1),.int .i64 ((fr:Int)+(q:Int)+1),.pointer (some ⟨bm,0,none⟩),.pointer (some ⟨by',0,none⟩),.pointer (some ⟨bc,0,none⟩),.pointer (some ⟨bn,0,none⟩),.pointer (some ⟨bf,0,none⟩)] W5 fun e W'=>
     (e=.returned (.bool true)∧J S (pr ++ (ext n k (fr+q+1)).map ((ix ++ [((fr+q:Nat):Int)]) ++ ·)) W'∧Ox W' l n many bm by' bc bn bf ba∧W5.heap.size≤W'.heap.size∧∃f',W'.rowIs ba 3 many f'∧∀j,j < ix.length→f' j=f j)∨
     (e=.returned (.bool false)∧∃q,q <+: cs∧Jx S q W')):=by
    have h:=HIH.out (ix ++ [((fr+q:Nat):Int)]) (fr+q+1) pr _ W5 (by simp; omega) (by omega) HO5.out HRW5.out (fun j hj=>by
      simp only [List.length_append,List.length_singleton] at hj
      by_cases e:j=ix.length
      ·subst e; simp
      ·have hj':j < ix.length:=by omega
       simp only [e,if_false]
       rw [HG.out j hj',HF.out j hj']
       simp only [List.getD_eq_getElem?_getD]; rw [List.getElem?_append_left hj']) (fun b hb=>by have:=HSZ.out b hb; omega) HJ5.out (by
      refine List.IsPrefix.trans ?_ HPRE.out
      rw [←HPR.out,HCONS.out,←List.append_assoc]
      exact List.prefix_append _ _)
    have e1:((ix ++ [((fr+q:Nat):Int)]).length:Int)=(ix.length:Int)+1:=by simp
    have e2:((fr+q+1:Nat):Int)=(fr:Int)+(q:Int)+1:=by omega
    rw [e1,e2] at h
    refine h.mono ?_
    rintro e W' (⟨rfl,a1,a2,a3,f',a4,a5⟩ | h)
    ·refine .inl ⟨rfl,a1,a2,a3,f',a4,fun j hj=>?_⟩
     rw [a5 j (by simp; omega)]
     simp only [show j≠ix.length by omega,if_false]
     exact HG.out j hj
    ·exact .inr h
   clear ho hrow hg hsz hJ hpr hW5
   have hqI:(0:Int)≤(q:Int):=by omega
   have hfI:(0:Int)≤(fr:Int):=by omega
   have hI0:(0:Int)≤(ix.length:Int):=by omega
   have hI1:(ix.length:Int) < (many:Int):=by omega
   have hqJ:(q:Int) < (n:Int)-(fr:Int):=by omega
   have hfq:(fr:Int)+(q:Int) < (n:Int):=by omega
   have hfq0:(0:Int)≤(fr:Int)+(q:Int):=by omega
   gi_wp2_with fail
   refine ⟨trivial,rfl,?_⟩
   rw [←HW5.out]
   refine HCALL.out.mono ?_
   rintro e w6 (⟨rfl,a1,a2,a3,f6,a4,a5⟩ | ⟨rfl,a1⟩)
   ·have S1:Hid (J S (pr ++ (ext n k (fr+q+1)).map ((ix ++ [((fr+q:Nat):Int)]) ++ ·)) w6):=a1
    have S2:Hid (Ox w6 l n many bm by' bc bn bf ba):=a2
    have S3:Hid (W.heap.size≤w6.heap.size):=by show _≤_; have:=HWS.out; omega
    have S4:Hid (w6.rowIs ba 3 many f6):=a4
    have S5:Hid (∀j,j < ix.length→f6 j=f j):=a5
    clear a1 a2 a3 a4 a5
    gi_wp2
    go_roundw
    case rel=>
     refine ⟨q+1,f6,_,by omega,by go_num,S2.out,S4.out,S5.out,S3.out,S1.out,?_⟩
     rw [←HPR.out,HCONS.out,List.append_assoc]
     rfl
    case measure=>simp [intOf]; omega
   ·have S1:Hid (∃q,q <+: cs∧Jx S q w6):=a1
    clear a1
    gi_wp2
    go_ret
    exact .inr ⟨rfl,S1.out⟩
  ·have hqe:fr+q=n:=by omega
   have HCE:Hid (pr=pre ++ (ext n (k+1) fr).map (ix ++ ·)):=by
    show _=_
    rw [←hpr,hqe,ext_end (Nat.le_refl _)]
    simp
   clear ho hrow hg hsz hJ hpr
   have hqK:decide ((q:Int) < (n:Int)-(fr:Int))=false:=by simp; omega
   gi_wp2
   go_ret
   exact .inl ⟨rfl,by rw [←HCE.out]; exact HJ2.out,HO2.out,HWS.out,g,HRW2.out,HG.out⟩
theorem fillC_any:∀k,FillC k
 | 0=>fillC_zero
 | k+1=>fillC_succ k (fillC_any k)
set_option maxRecDepth 100000 in
set_option maxHeartbeats 4000000 in
theorem of_seqC (n many bm bn:Nat) (w0:World) (hm5:many≤8) (hn:n≤1000) (hcm:w0.cell? ⟨bm,0,none⟩=some (.int .i64 many)) (hcn:w0.cell? ⟨bn,0,none⟩=some (.int .i64 n)) :
  SeqF Tryz.prog 44 #[.pointer (some ⟨bm,0,none⟩),.pointer (some ⟨bn,0,none⟩)] (HandC w0.heap.size) (ext n many 0) (fun _=>False) (fun b=>b=bm∨b=bn) w0:=by
 intro l J Jx W hW hst hstx hY hJ
 have hbm:=lt_cell0 hcm
 have hbn:=lt_cell0 hcn
 have c1:W.cell? ⟨bm,0,none⟩=some (.int .i64 many):=(hW.cell (p:=⟨bm,0,none⟩) hbm).trans hcm
 have c2:W.cell? ⟨bn,0,none⟩=some (.int .i64 n):=(hW.cell (p:=⟨bn,0,none⟩) hbn).trans hcn
 have hmk:=run_make_row' (P:=Tryz.prog) 26 3 (.int .i64 0) 8 Tryz.underlying26 Tryz.info3 rfl .i64 .i64 many (by omega) (by omega)
 obtain ⟨W4,hW4,e1,e2,e3,e4,hsz,hbw⟩:=fourB W (.cells #[.func (.yield l) #[] #[]] 58) (.cells (madeCells #[.int .i64 0] many) 3) (.cells #[.slice (some ⟨W.heap.size+1,0,none⟩) many many] 26)
  (.cells #[.func (.func 45) #[] #[.pointer (some ⟨bm,0,none⟩),.pointer (some ⟨W.heap.size,0,none⟩),.pointer (some ⟨W.heap.size+1+1,0,none⟩),.pointer (some ⟨bn,0,none⟩),.pointer (some ⟨W.heap.size+1+1+1,0,none⟩)]] 51)
 have hwm:=lt_cell0 c1
 have hwn:=lt_cell0 c2
 obtain ⟨S,hS⟩:∃S:Nat→Prop,S=fun b=>b=bm∨b=bn∨(W.heap.size≤b∧b < W.heap.size+4):=⟨_,rfl⟩
 have ho:Ox W4 l n many bm W.heap.size (W.heap.size+1+1) bn (W.heap.size+1+1+1) (W.heap.size+1):=
  ⟨(hbw.cell (p:=⟨bm,0,none⟩) hwm).trans c1,cell_of e1,cell_of e3,(hbw.cell (p:=⟨bn,0,none⟩) hwn).trans c2,cell_of e4⟩
 have hrow:W4.rowIs (W.heap.size+1) 3 many (fun _=>.int .i64 0):=by
  refine ⟨_,e2,?_,fun i hi=>?_⟩
  ·rw [←Array.length_toList,toList_madeCells_one]; simp
  ·rw [←Array.getElem?_toList,toList_madeCells_one]; simp [hi]
 have hbx:Bxo S bm W.heap.size (W.heap.size+1+1) bn (W.heap.size+1+1+1) (W.heap.size+1):=by
  rw [hS]
  exact ⟨.inl rfl,.inr (.inr (by omega)),.inr (.inr (by omega)),.inr (.inl rfl),.inr (.inr (by omega)),.inr (.inr (by omega)),fun b hb=>by omega⟩
 have hJ4:J S [] W4:=hst _ S [] W W4 hJ (Chg.of_below hbw (Nat.le_refl _)) (fun b hb=>by
  rw [hS] at hb
  rcases hb with h | h | h
  ·exact .inl (.inl h)
  ·exact .inl (.inr h)
  ·exact .inr h.1)
 have HC:Hid (CallsIn Fence.wide 0 Tryz.prog 45 #[.int .i64 0,.int .i64 0,.pointer (some ⟨bm,0,none⟩),.pointer (some ⟨W.heap.size,0,none⟩),.pointer (some ⟨W.heap.size+1+1,0,none⟩),.pointer (some ⟨bn,0,none⟩),.pointer (some ⟨W.heap.size+1+1+1,0,none⟩)] W4 fun e W'=>
   (e=.returned (.bool true)∧J S ([] ++ (ext n many 0).map ([] ++ ·)) W'∧Ox W' l n many bm W.heap.size (W.heap.size+1+1) bn (W.heap.size+1+1+1) (W.heap.size+1)∧W4.heap.size≤W'.heap.size∧∃f',W'.rowIs (W.heap.size+1) 3 many f'∧∀j,j < 0→f' j=.int .i64 0)∨
   (e=.returned (.bool false)∧∃q,q <+: ext n many 0∧Jx S q W')):=fillC_any many w0.heap.size l n many bm W.heap.size (W.heap.size+1+1) bn (W.heap.size+1+1+1) (W.heap.size+1) S (fun _=>False) J Jx (ext n many 0) hst hbx hm5 hn (by have:=hW.size; omega) hY [] 0 [] _ W4 (by simp) (Nat.zero_le _) ho hrow (fun j hj=>absurd hj (by simp)) (fun b hb=>by
  rw [hS] at hb
  rcases hb with h | h | h <;> omega) hJ4 (by simp)
 have HW4:Hid (W4=(((W.alloc (.cells #[.func (.yield l) #[] #[]] 58)).alloc (.cells (madeCells #[.int .i64 0] many) 3)).alloc (.cells #[.slice (some ⟨W.heap.size+1,0,none⟩) many many] 26)).alloc
  (.cells #[.func (.func 45) #[] #[.pointer (some ⟨bm,0,none⟩),.pointer (some ⟨W.heap.size,0,none⟩),.pointer (some ⟨W.heap.size+1+1,0,none⟩),.pointer (some ⟨bn,0,none⟩),.pointer (some ⟨W.heap.size+1+1+1,0,none⟩)]] 51)):=hW4
 clear hst hstx hY hJ ho hrow hbx hJ4 e1 e2 e3 e4 hsz hbw hW hcm hcn hW4
 refine callsIn_of_wp Tryz.func44 rfl trivial ?_ rfl
 simp only [Tryz.ntmps44,List.size_toArray,List.length_cons,List.length_nil,Nat.reduceAdd,Nat.reduceSub,Array.replicate_succ,Array.replicate_zero,List.push_toArray,List.append_toArray,List.nil_append,List.cons_append]
 gi_wp2_with fail
 refine ⟨trivial,rfl,?_⟩
 rw [←HW4.out]
 refine (HC.out).mono ?_
 rintro e W' (⟨rfl,a1,_⟩ | ⟨rfl,a1⟩)
 ·have A:Hid (J S (ext n many 0) W'):=by
   have e : [] ++ (ext n many 0).map ([] ++ ·)=ext n many 0:=by simp
   rw [e] at a1
   exact a1
  clear a1
  gi_wp2
  go_end0
  exact ⟨⟨_,rfl⟩,.inl ⟨S,A.out⟩⟩
 ·have A:Hid (∃q,q <+: ext n many 0∧Jx S q W'):=a1
  clear a1
  gi_wp2
  go_end0
  exact ⟨⟨_,rfl⟩,.inr ⟨S,A.out⟩⟩
end Go.Proofs.YtcoeneldaohpnaaGreat

namespace Go.Proofs.YtcoeneldaohpnaaGreat
open Go.RowKit Lin
structure IwO (S:Nat→Prop) (B:Nat) (W:World) (u:Value) (l:List Int):Prop where
 own:W.ownsRow B 3 1 u l.length (ints l)
 off:∀g,u.ownBlock=some g→¬S g
theorem IwO.keep {S S':Nat→Prop} {B:Nat} {W W':World} {u:Value} {l:List Int} (h:IwO S B W u l) (hc:∀b,b < W.heap.size→¬S b→W'.heap[b]?=W.heap[b]?) (hs:∀b,S' b→S b∨W.heap.size≤b):IwO S' B W' u l:=by
 refine ⟨own_keepS h.own fun b hb=>hc b (h.own.lt b hb).2 (h.off b hb),fun g hg hx=>?_⟩
 rcases hs g hx with h1 | h1
 ·exact h.off g hg h1
 ·have:=(h.own.lt g hg).2; omega
def SU (S:Nat→Prop) (u:Value):Nat→Prop:=fun b=>S b∨u.ownBlock=some b
structure TwoL (w:World) (B:Nat) (S:Nat→Prop) (W:World) (v:Value) (vs:List Value) (u:Value) (m:List (List Int)) (l:List Int):Prop where
 b1:W.heap[w.heap.size+1]?=some (.cells #[v] 22 (0,0))
 b2:W.heap[w.heap.size+2]?=some (.cells #[u] 26 (0,0))
 fr:FrO (SU S u) B W v m vs
 iw:IwO S B W u l
theorem TwoL.keep {w W W' : World} {B : Nat} {S S' : Nat → Prop} {v u : Value} {vs : List Value} {m : List (List Int)} {l : List Int} (h : TwoL w B S W v vs u m l) (h1 : ¬ S (w.heap.size + 1)) (h2 : ¬ S (w.heap.size + 2)) (hc : ∀ b, b < W.heap.size → ¬ S b → W'.heap[b]? = W.heap[b]?) (hs : ∀ b, S' b → S b ∨ W.heap.size ≤ b) : TwoL w B S' W' v vs u m l :=
  ⟨(hc _ (Array.getElem?_eq_some_iff.1 h.b1).1 h1).trans h.b1, (hc _ (Array.getElem?_eq_some_iff.1 h.b2).1 h2).trans h.b2,
   h.fr.keep (fun b hb hn => hc b hb fun hx => hn (.inl hx)) (fun b hb => by
    rcases hb with hb | hb
    · rcases hs b hb with hx | hx
      · exact .inl (.inl hx)
      · exact .inr hx
    · exact .inl (.inr hb)), h.iw.keep hc hs⟩
theorem TwoL.row {w W w8:World} {B:Nat} {S:Nat→Prop} {v u v' cv:Value} {vs:List Value} {m:List (List Int)} {l c:List Int} (h:TwoL w B S W v vs u m l) (hB:w.heap.size+3≤B) (hBW:B≤W.heap.size) (hS:∀b,S b→b < W.heap.size)
  (hcv:Sl 0 3 W cv (ints c)) (hun:0 < c.length→∃a n k,cv=.slice (some a) n k∧¬SU S u a.block)
  (ho:w8.ownsRow B 26 1 v' (m.length+1) (vs ++ [cv])) (hg:(W.alloc (.cells #[cv] 26)).grownBy w8 v.ownBlock) (hat:v'.ownBlock=v.ownBlock∨v'.ownBlock=some (W.heap.size+1)) :
  w8.heap[w.heap.size+1]?=some (.cells #[v] 22 (0,0))∧TwoL w B S (w8.setCell ⟨w.heap.size+1,0,none⟩ v') v' (vs ++ [cv]) u (m ++ [c]) l∧(∀b,b < W.heap.size→b≠w.heap.size+1→v.ownBlock≠some b→(w8.setCell ⟨w.heap.size+1,0,none⟩ v').heap[b]?=W.heap[b]?)∧W.heap.size≤(w8.setCell ⟨w.heap.size+1,0,none⟩ v').heap.size:=by
 have hblk:∀b,b < W.heap.size→v.ownBlock≠some b→w8.heap[b]?=W.heap[b]?:=fun b hb hne=>
  (hg.block b (by simp; omega) (fun e=>hne e.symm)).trans (Below.heap_alloc _ _ _ hb)
 have hvB:∀g,v.ownBlock=some g→B≤g:=fun g hg1=>(h.fr.own.lt g hg1).1
 have huB:∀g,u.ownBlock=some g→B≤g∧g < W.heap.size:=fun g hg1=>h.iw.own.lt g hg1
 have hg8:=hg.size
 simp only [World.size_alloc] at hg8
 have h8:w8.heap[w.heap.size+1]?=some (.cells #[v] 22 (0,0)):=(hblk _ (by omega) fun e=>by have:=hvB _ e; omega).trans h.b1
 have hset:∀b,b≠w.heap.size+1→(w8.setCell ⟨w.heap.size+1,0,none⟩ v').heap[b]?=w8.heap[b]?:=fun b hb=>Below.heap_setCell _ _ _ _ hb
 refine ⟨h8,⟨set_one h8,?_,?_,?_⟩,fun b hb hn hv=>(hset b hn).trans (hblk b hb hv),by simp [World.setCell]; omega⟩
 ·rw [hset _ (by omega)]
  exact (hblk _ (by omega) fun e=>by have:=hvB _ e; omega).trans h.b2
 ·have hFR:FrO (SU S u) B (W.alloc (.cells #[cv] 26)) v m vs:=h.fr.keep (fun b hb _=>Below.heap_alloc _ _ _ hb) (fun b hb=>.inl hb)
  have hpush:=hFR.push (u:=cv) (zs:=c) (hcv.alloc _) hun ho hg (fun g hg1 hx=>by
   rcases hat with h1 | h1
   ·rw [h1] at hg1; exact h.fr.off g hg1 hx
   ·rw [h1] at hg1
    simp only [Option.some.injEq] at hg1
    rcases hx with hx | hx
    ·have:=hS g hx; omega
    ·have:=(huB g hx).2; omega)
  exact hpush.set (b:=w.heap.size+1) (j:=0) (u:=v') (by omega) h8 (by decide)
 ·refine ⟨own_keepS h.iw.own fun b hb=>?_,h.iw.off⟩
  obtain ⟨q1,q2,cur,q3⟩:=own_typS h.iw.own b hb
  rw [hset b (by omega)]
  refine hblk b q2 fun e=>?_
  obtain ⟨_,_,cur2,q4⟩:=own_typS h.fr.own b e
  rw [q3] at q4
  simp at q4
theorem TwoL.num {w W w8:World} {B:Nat} {S:Nat→Prop} {v u u':Value} {vs:List Value} {m:List (List Int)} {l:List Int} {z:Int} (h:TwoL w B S W v vs u m l) (hB:w.heap.size+3≤B) (hBW:B≤W.heap.size) (hS:∀b,S b→b < W.heap.size)
  (ho:w8.ownsRow B 3 1 u' (l.length+1) (ints l ++ [.int .i64 z])) (hg:(W.alloc (.cells #[.int .i64 z] 3)).grownBy w8 u.ownBlock) (hat:u'.ownBlock=u.ownBlock∨u'.ownBlock=some (W.heap.size+1)) :
  w8.heap[w.heap.size+2]?=some (.cells #[u] 26 (0,0))∧TwoL w B S (w8.setCell ⟨w.heap.size+2,0,none⟩ u') v vs u' m (l ++ [z])∧(∀b,b < W.heap.size→b≠w.heap.size+2→u.ownBlock≠some b→(w8.setCell ⟨w.heap.size+2,0,none⟩ u').heap[b]?=W.heap[b]?)∧W.heap.size≤(w8.setCell ⟨w.heap.size+2,0,none⟩ u').heap.size:=by
 have hblk:∀b,b < W.heap.size→u.ownBlock≠some b→w8.heap[b]?=W.heap[b]?:=fun b hb hne=>
  (hg.block b (by simp; omega) (fun e=>hne e.symm)).trans (Below.heap_alloc _ _ _ hb)
 have huB:∀g,u.ownBlock=some g→B≤g∧g < W.heap.size:=fun g hg1=>h.iw.own.lt g hg1
 have hg8:=hg.size
 simp only [World.size_alloc] at hg8
 have h8:w8.heap[w.heap.size+2]?=some (.cells #[u] 26 (0,0)):=(hblk _ (by omega) fun e=>by have:=(huB _ e).1; omega).trans h.b2
 have hset:∀b,b≠w.heap.size+2→(w8.setCell ⟨w.heap.size+2,0,none⟩ u').heap[b]?=w8.heap[b]?:=fun b hb=>Below.heap_setCell _ _ _ _ hb
 refine ⟨h8,⟨?_,set_one h8,?_,?_⟩,fun b hb hn hv=>(hset b hn).trans (hblk b hb hv),by simp [World.setCell]; omega⟩
 ·rw [hset _ (by omega)]
  exact (hblk _ (by omega) fun e=>by have:=(huB _ e).1; omega).trans h.b1
 ·have hFR:FrO (SU S u') B w8 v m vs:=h.fr.keep (fun b hb hn=>hblk b hb fun e=>hn (.inr e)) (fun b hb=>by
   rcases hb with hb | hb
   ·exact .inl (.inl hb)
   ·rcases hat with h1 | h1
    ·rw [h1] at hb; exact .inl (.inr hb)
    ·rw [h1] at hb
     simp only [Option.some.injEq] at hb
     exact .inr (by omega))
  exact hFR.set (b:=w.heap.size+2) (j:=0) (u:=u') (by omega) h8 (by decide)
 ·have e1:ints (l ++ [z])=ints l ++ [.int .i64 z]:=by simp [ints]
  refine ⟨?_,fun g hg1 hx=>?_⟩
  ·rw [e1,List.length_append]
   exact own_keepS ho fun b hb=>hset b (by have:=(ho.lt b hb).1; omega)
  ·rcases hat with h1 | h1
   ·rw [h1] at hg1; exact h.iw.off g hg1 hx
   ·rw [h1] at hg1
    simp only [Option.some.injEq] at hg1
    have:=hS g hx; omega
structure TlI (w WN:World) (N:Nat) (ways:List (List Int)) (S:Nat→Prop) (pre:List (List Int)) (W:World):Prop where
 sn:∀b,S b→N≤b
 kp:Kpt (fun b=>b < w.heap.size+1) WN W
 os:W.os=w.os
 tape:W.tape=w.tape
 output:W.output=w.output
 rv:∃v vs u,TwoL w (WN.heap.size+2) S W v vs u (tlS ways pre) ((tlS ways pre).map (tlA ways))
theorem TlI.stab {w WN W W':World} {N:Nat} {ways:List (List Int)} {pre:List (List Int)} {S S':Nat→Prop} (h:TlI w WN N ways S pre W) (h1:w.heap.size+3≤N) (h2:N≤WN.heap.size) (hc:Chg S W W') (hs:∀b,S' b→S b∨W.heap.size≤b):TlI w WN N ways S' pre W':=by
 have h0:=h.kp.size
 obtain ⟨v,vs,u,ht⟩:=h.rv
 refine ⟨fun b hb=>?_,h.kp.trans (Kpt.of_chg hc fun i _ hi hsi=>?_),hc.os.trans h.os,hc.tape.trans h.tape,hc.output.trans h.output,v,vs,u,ht.keep (fun hx=>by have:=h.sn _ hx; omega) (fun hx=>by have:=h.sn _ hx; omega) hc.block hs⟩
 ·rcases hs b hb with hx | hx
  ·exact h.sn b hx
  ·omega
 ·have:=h.sn i hsi
  omega
end Go.Proofs.YtcoeneldaohpnaaGreat
