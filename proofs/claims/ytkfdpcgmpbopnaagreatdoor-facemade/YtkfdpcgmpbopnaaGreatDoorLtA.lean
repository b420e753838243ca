import Derived.Test.YtkfdpcgmpbopnaaGreatDoorHmA
import Derived.Test.YtkfdpcgmpbopnaaGreatDoorHmB
import Derived.Test.YtkfdpcgmpbopnaaGreatDoorRefY
import Derived.Test.YtkfdpcgmpbopnaaGreatDoorRowA
import Derived.Test.YtkfdpcgmpbopnaaGreatDoorHulAll
import Derived.Test.YtkfdpcgmpbopnaaGreatDoorBetY
namespace Go.Proofs.YtkfdpcgmpbopnaaGreatDoor
open Go.RowKit
attribute [local go_sem ↓] Go.wp_at_zero Go.wp_at_succ
def rowsTo (P:List (List Int)) (C:List (List Int)) (i:Nat):List (List Int):=(C.take i).flatMap fun c=>(rowT (pks P [] c) P).toList
theorem rowsTo_succ (P C:List (List Int)) (i:Nat) (h:i < C.length):rowsTo P C (i+1)=rowsTo P C i ++ (rowT (pks P [] (C.getD i [])) P).toList:=by
 unfold rowsTo
 have e:C.getD i []=C[i]:=by simp [h]
 rw [List.take_succ_eq_append_getElem h,List.flatMap_append,e]
 simp
theorem rowsTo_len (P C:List (List Int)):∀i,(rowsTo P C i).length≤i:=by
 intro i
 induction i with
 | zero=>simp [rowsTo]
 | succ i ih=>
  by_cases h:i < C.length
  ·rw [rowsTo_succ P C i h,List.length_append]
   have:(rowT (pks P [] (C.getD i [])) P).toList.length≤1:=by cases rowT (pks P [] (C.getD i [])) P <;> simp
   omega
  ·have:rowsTo P C (i+1)=rowsTo P C i:=by unfold rowsTo; rw [List.take_of_length_le (by omega),List.take_of_length_le (by omega)]
   rw [this]; omega
theorem pks_in {P:List (List Int)} {c:List Int} (h:∀q∈c,0≤q∧q < (P.length:Int)):∀x∈pks P [] c,x∈P:=by
 intro x hx
 obtain ⟨q,hq,rfl⟩:=List.mem_map.1 hx
 obtain ⟨h1,h2⟩:=h q hq
 simp [show q.toNat < P.length by omega]
theorem rowsD_facts {d:Nat} {P:List (List Int)} (hP:Box d 30 P) (h1:1≤d) (h5:d≤5) (r:List Int) (hr:r∈rowsD P d):RowOf d P r:=by
 unfold rowsD at hr
 obtain ⟨c,hc,hr⟩:=List.mem_flatMap.1 hr
 have hl:=chosen_row d P.length c hc
 refine rowT_facts hP h1 h5 (by rw [←hl]; simp [pks]) (pks_in fun q hq=>?_) (Option.mem_toList.1 hr)
 obtain ⟨i,hi,rfl⟩:=List.mem_iff_getElem.1 hq
 have:=(chosen_mem d P.length c hc).1 i (by omega)
 simpa [hi] using this
theorem row_end {W5:World} {l:List Int} {z:Int} {d:Nat} (hl:l.length=d) (hd:d≤10) (w6:World) (cv:Value) (nn:Nat) (hc:w6.ownsRow W5.heap.size 3 1 cv d (ints l)) (hb:Below W5.heap.size W5 w6)
  (ops:Array Oper) (o:Oper) (a:Act) (K:Act→World→Prop) (Q:Exit→Act→World→Prop) (E:Prop) (hgd:o.guard=none) (ho:o.op=.call { callee:=.builtin .append,args:=#[.tmp 60,.tmp 66],argTypes:=#[22,22] })
  (h1:a.eval (.tmp 60)=cv) (h2:a.eval (.tmp 66)=.slice (some ⟨(w6.drewN nn).heap.size,0,none⟩) 1 1)
  (h:∀v' w3,w3.ownsRow W5.heap.size 3 1 v' (d+1) (ints (l ++ [z]))∧Below W5.heap.size W5 w3→K (a.put o.dst v') w3) :
  if Region.wanted o (yielded ops a.tmps)=true then Oper.wp Tryz.prog o a ((w6.drewN nn).alloc (.cells #[.int .i64 z] 3)) K Q else E:=by
 obtain ⟨i3,hi3,hz30,hz31,hz32⟩:=info_parts Tryz.info3
 have hsz:W5.heap.size≤(w6.drewN nn).heap.size:=hb.size
 have hc':(w6.drewN nn).ownsRow W5.heap.size 3 1 cv d (ints l):=hc
 refine step_append_own hgd (.tmp 60) (.tmp 66) 22 ho W5.heap.size 3 i3 (.int .i64 0) 1 8 Tryz.underlying22 hi3 hz30 hz31 hz32 rfl (by decide) cv d (ints l) h1 (hc'.alloc _) ⟨(w6.drewN nn).heap.size,0,none⟩ 1 1 [.int .i64 z] h2 rfl (one_new _ _ _) (one_int _) (by unfold maxLen; omega) (by omega) (by have:=hb.size; simp; omega) ?_
 intro v' w3 ho3 hg3
 subst hl
 exact h v' w3 (owns_push (z:=z) (N:=l.length+1) hsz (l:=l) hc' (hb.trans ⟨rfl,rfl,rfl,Nat.le_refl _,fun _ _=>rfl⟩) ho3 hg3 rfl)
set_option maxRecDepth 100000 in
set_option maxHeartbeats 400000 in
theorem rowsOf_any (B d:Nat) (P:List (List Int)) (v:Value) (w:World) (hv:Mat B 22 3 w v P) (hd1:1≤d) (hd:d≤4) (hP1:1≤P.length) (hP:P.length≤16) (hx:Box d 30 P) :
  Calls Tryz.prog 43 #[v] w fun e w'=>∃x s,e=.returned x∧Fr w.heap.size 22 3 w' x s∧SAsc s∧(∀r,r∈s↔r∈rowsD P d)∧Below w.heap.size w w':=by
 obtain ⟨i0,hi,hz0,hz1,hz2⟩:=info_parts Tryz.info22
 obtain ⟨i3,hi3,hz30,hz31,hz32⟩:=info_parts Tryz.info3
 obtain ⟨b,o,cap,r0,hvv,hlc,hcc,hr0⟩:=mat_cell hv (k:=0) (by omega)
 subst hvv
 have HV:Hid (Mat B 22 3 w (.slice (some ⟨b,o,none⟩) P.length cap) P):=hv
 have HX:Hid (Box d 30 P):=hx
 have hm0:P.getD 0 []∈P:=by simp [show 0 < P.length by omega]
 obtain ⟨ro,rc,hrv,hrl,_⟩:=sl_open hr0
 rw [(hx _ hm0).1] at hrv hrl
 subst hrv
 clear hv hx hr0 hm0 hrl
 obtain ⟨n,hn⟩:∃n,n=P.length:=⟨_,rfl⟩
 have HN:Hid (n=P.length):=hn
 rw [←hn] at HV hP1 hP hlc ⊢
 have hcc0:w.cell? ⟨b,o,none⟩=some (.slice ro d rc):=hcc
 clear hcc
 clear hn
 have h0I:(0:Int) < (n:Int):=by omega
 have h0N:0 < n:=by omega
 go_enter Tryz.func43,Tryz.ntmps43
 go_wp2_with fail
 refine (chosen_any d (by omega) n w (by omega)).mono ?_
 rintro e w1 ⟨cv,rfl,hcf,hb1⟩
 have HCF:Hid (Fr w.heap.size 22 3 w1 cv (chosenL d n)):=hcf
 have HB1:Hid (Below w.heap.size w w1):=hb1
 have hsz1:w.heap.size≤w1.heap.size:=hb1.size
 obtain ⟨co,cc,hcv,hcc1,hcc2⟩:=fr_open hcf
 subst hcv
 have HCL:Hid ((chosenL d n).length≤16777216):=Nat.le_trans (chosen_len d n (by omega)) (Nat.le_trans (Nat.pow_le_pow_right (by decide) hd) (by decide))
 have HCR:Hid (∀c∈chosenL d n,c.length=d∧∀i,i < d→0≤c.getD i 0∧c.getD i 0 < (n:Int)):=fun c h=>⟨chosen_row d n c h,(chosen_mem d n c h).1⟩
 clear hcf hb1
 obtain ⟨C,hC⟩:∃C,C=chosenL d n:=⟨_,rfl⟩
 have HCC:Hid (C=chosenL d n):=hC
 rw [←hC] at HCF HCL HCR hcc1 ⊢
 clear hC
 go_wp2
 go_loopw [5,6] (fun x i wr=>∃k:Nat,k≤C.length∧i=.int .i64 k∧Fr w1.heap.size 22 3 wr x (rowsTo P C k)∧Below w1.heap.size w1 wr) (fun _ i _=>C.length-(intOf i).toNat)
 case atStart=>exact ⟨0,Nat.zero_le _,rfl,Fr.nil _ _ _ _,Below.refl _ _⟩
 case round=>
  obtain ⟨k,hk,rfl,hfr,hbel⟩:=hrel
  rename World=>wa
  have HF:Hid (Fr w1.heap.size 22 3 wa u5 (rowsTo P C k)):=hfr
  have HB:Hid (Below w1.heap.size w1 wa):=hbel
  have HBa:Hid (Below w.heap.size w wa):=HB1.out.trans (hbel.mono hsz1)
  have hsza:w1.heap.size≤wa.heap.size:=hbel.size
  clear hfr hbel
  by_cases hlt:k < C.length
  ·obtain ⟨b2,o2,cp2,r1,hs,hc1,hcc1a,hr1⟩:=mat_cell (HCF.out.rws.mat (Nat.le_refl _)) hlt
   simp only [Value.slice.injEq,true_and] at hs
   obtain ⟨rfl,rfl⟩:=hs
   have hmem:C.getD k []∈C:=by simp [hlt]
   obtain ⟨hcl,hcq⟩:=HCR.out _ hmem
   obtain ⟨so,sc,hsv,_,_⟩:=sl_open hr1
   rw [hcl] at hsv
   subst hsv
   have HRS:Hid (rowsTo P C (k+1)=rowsTo P C k ++ (rowT (pks P [] (C.getD k [])) P).toList):=rowsTo_succ P C k hlt
   generalize C.getD k []=c at *
   have HCK:Hid (∀W,Below w1.heap.size w1 W→W.cell? ⟨b2,o2+k,none⟩=some (.slice so d sc)):=fun W h=>(h.cell (lt_of_cell hcc1a)).trans hcc1a
   have HSC:Hid (∀W,Below w1.heap.size w1 W→Sl w.heap.size 3 W (.slice so d sc) (ints c)):=fun W h=>hr1.below h (Nat.le_refl _)
   have HCQ:Hid (∀i,i < d→0≤c.getD i 0∧c.getD i 0 < (n:Int)):=hcq
   have HCD:Hid (c.length=d):=hcl
   clear hr1 hcc1a hcq hcl hmem
   have hkI:(k:Int) < (C.length:Int):=by omega
   have hkI0:(0:Int)≤(k:Int):=by omega
   go_wp2
   go_loopw [7,8] (fun x i wq=>∃j:Nat,j≤d∧i=.int .i64 j∧Rws wa.heap.size 22 3 wq x (pks P [] (c.take j))∧Below wa.heap.size wa wq) (fun _ i _=>d-(intOf i).toNat)
   case atStart=>exact ⟨0,Nat.zero_le _,rfl,Rws.nil _ _ _ _,Below.refl _ _⟩
   case round=>
    obtain ⟨j,hj,rfl,hfr,hbel⟩:=hrel
    have HFS:Hid (Rws wa.heap.size 22 3 wr u7 (pks P [] (c.take j))):=hfr
    have HBS:Hid (Below wa.heap.size wa wr):=hbel
    have HB1r:Hid (Below w1.heap.size w1 wr):=HB.out.trans (hbel.mono hsza)
    have HBr:Hid (Below w.heap.size w wr):=HBa.out.trans (hbel.mono HBa.out.size)
    clear hfr hbel
    by_cases hjl:j < d
    ·have HSN:Hid (pks P [] (c.take (j+1))=pks P [] (c.take j) ++ [P.getD (c.getD j 0).toNat []]):=pks_snocP P c j (by rw [HCD.out]; exact hjl)
     have HLN:Hid ((pks P [] (c.take j)).length=j):=by show _=_; have:=HCD.out; simp [pks]; omega
     obtain ⟨b3,o3,cp3,hs3,hc3,hcc3⟩:=sl_cell (HSC.out wr HB1r.out) (k:=j) (by rw [HCD.out]; exact hjl)
     simp only [Value.slice.injEq] at hs3
     obtain ⟨rfl,hxx,rfl⟩:=hs3
     clear hxx
     have hccK:=HCK.out wr HB1r.out
     obtain ⟨hx0,hx1⟩:=HCQ.out j hjl
     obtain ⟨q,hq⟩:∃q:Nat,c.getD j 0=(q:Int):=⟨(c.getD j 0).toNat,by omega⟩
     rw [hq] at hcc3 hx0 hx1 HSN
     rw [show ((q:Int)).toNat=q by omega] at HSN
     clear hq
     have hqP:q < P.length:=by rw [←HN.out]; omega
     have hqn:q < n:=by omega
     obtain ⟨b4,o4,cp4,r2,hs4,_,hcc4,hr2⟩:=mat_cell ((HV.out.any (Nat.le_refl _)).below HBr.out (Nat.le_refl _)) hqP
     simp only [Value.slice.injEq,Option.some.injEq,Addr.mk.injEq,and_true] at hs4
     obtain ⟨⟨rfl,rfl⟩,hxx,rfl⟩:=hs4
     clear hxx
     obtain ⟨yo,yc,hrv,_,_⟩:=sl_open hr2
     subst hrv
     have hwa:w.heap.size≤wa.heap.size:=HBa.out.size
     have HR2:Hid (Sl wa.heap.size 3 wr (.slice yo (P.getD q []).length yc) (ints (P.getD q []))):=hr2.more hwa
     clear hr2
     generalize P.getD q []=y at *
     generalize hyl:y.length=yl at *
     clear hyl hc3 hqP
     obtain ⟨vs,g1,g2,g3⟩:=HFS.out
     have hlen:=HLN.out
     rw [hlen] at g1 g2 g3
     have G1:Hid (vs.length=j):=g1
     have G2:Hid (wr.ownsRow wa.heap.size 22 1 u7 j vs):=g2
     have G3:Hid (∀i,i < j→Sl wa.heap.size 3 wr (vs.getD i (.slice none 0 0)) (ints ((pks P [] (c.take j)).getD i []))):=g3
     have hszr:wa.heap.size≤wr.heap.size:=HBS.out.size
     have hjI:(j:Int) < (d:Int):=by omega
     have hjI0:(0:Int)≤(j:Int):=by omega
     clear g1 g2 g3 hlen
     go_wp2_with (first | (at_builtin; refine wpList_append_own _ rfl _ _ 25 rfl wa.heap.size 22 i0 (.slice none 0 0) 1 24 Tryz.underlying25 hi hz0 hz1 hz2 rfl (by decide) _ _ _ rfl (G2.out.alloc _) ⟨wr.heap.size,0,none⟩ 1 1 [.slice yo yl yc] rfl rfl (one_new _ _ _) (one_slice _ _ _) ?d3 ?d4 ?d5 ?_))
     case d3=>unfold maxLen; omega
     case d4=>omega
     case d5=>simp; omega
     intro v' w3 ho hg _
     have R1:Hid (Rws wa.heap.size 22 3 w3 v' (pks P [] (c.take (j+1)))):=by
      have hp:=Rws.push (e2:=22) (e1:=3) (m:=pks P [] (c.take j)) (u:=.slice yo yl yc) (zs:=y) (by decide) (by rw [HLN.out]; exact G1.out) (by rw [HLN.out]; exact G2.out.alloc _)
       (fun i hi=>(G3.out i (by rw [HLN.out] at hi; exact hi)).alloc _) (HR2.out.alloc _) (by rw [HLN.out]; exact ho) hg
      rw [←HSN.out] at hp
      exact hp
     have R2:Hid (Below wa.heap.size wa w3):=(HBS.out.alloc hszr _).grown hg (by simp; omega) (fun x hx=>(G2.out.lt x hx).1)
     clear ho hg
     go_wp2
     go_roundw
     case rel=>exact ⟨j+1,by omega,by go_num,R1.out,R2.out⟩
     case measure=>simp [intOf]; omega
    ·obtain rfl:d=j:=by omega
     have HT:Hid (Rws wa.heap.size 22 3 wr u7 (pks P [] c)):=by
      have:=HFS.out
      rw [List.take_of_length_le (by rw [HCD.out]; exact Nat.le_refl _)] at this
      exact this
     clear HFS hj hjl
     have HTL:Hid ((pks P [] c).length=d):=by show _=_; rw [←HCD.out]; simp [pks]
     have HTM:Hid (∀x∈pks P [] c,x∈P):=pks_in fun q hq=>by
      obtain ⟨i,hi,rfl⟩:=List.mem_iff_getElem.1 hq
      have:=HCQ.out i (by rw [←HCD.out]; exact hi)
      rw [←HN.out]
      simpa [hi] using this
     generalize pks P [] c=t at *
     have HTX:Hid (Mx d 60 (diffL t)):=diff_mx (fun x hx=>HX.out x (HTM.out x hx)) hd1 (by omega)
     have HWS:Hid (∀W,Below wr.heap.size wr W→Below wa.heap.size wa W):=fun W h=>HBS.out.trans (h.mono HBS.out.size)
     by_cases hd2:d=1
     case' pos=>
      have hdI:decide ((1:Int) < (d:Int))=false:=by simp; omega
      have hdN:decide (1 < d)=false:=by simp; omega
      have HNB:Hid (normB d (diffL t)=true∧normL d (diffL t)=[1]):=by
       have:diffL t=[]:=List.eq_nil_of_length_eq_zero (by rw [diffL_length,HTL.out]; omega)
       rw [this,hd2]
       exact ⟨by decide,by decide⟩
      clear hd2
      go_wp2
      have HB5:Hid (Below wr.heap.size wr (wr.alloc (.cells #[.int .i64 1] 3))):=(Below.refl _ _).alloc (Nat.le_refl _) _
      have HA5:Hid (Sl wr.heap.size 3 (wr.alloc (.cells #[.int .i64 1] 3)) (.slice (some ⟨wr.heap.size,0,none⟩) 1 1) (ints (normL d (diffL t)))):=by
       rw [HNB.out.2]
       have h:=World.ownsRow_lit (base:=wr.heap.size) (e:=3) (size:=1) wr #[.int .i64 1] 1 (by simp) (by simp [maxLen]) (by simp)
       exact Sl.own h
      have HNT:Hid (normB d (diffL t)=true):=HNB.out.1
      clear HNB hdI hdN
      generalize wr.alloc (.cells #[.int .i64 1] 3)=W5 at *
      generalize Value.slice (some (⟨wr.heap.size,0,none⟩:Addr)) 1 1=nv at *
      have HAA:Hid (∃Z,Sl Z 3 W5 nv (ints (normL d (diffL t)))):=⟨_,HA5.out⟩
      clear HA5
     case' neg=>
      have hdI:decide ((1:Int) < (d:Int))=true:=by simp; omega
      have hdN:decide (1 < d)=true:=by simp; omega
      have HD2:Hid (2≤d):=by show _≤_; omega
      have HTB:Hid ((∀r∈t,r.length=d)∧∀r∈t,∀z∈r,z.natAbs≤1000000):=⟨fun r hr=>(HX.out r (HTM.out r hr)).1,fun r hr z hz=>by have:=(HX.out r (HTM.out r hr)).2 z hz; omega⟩
      clear hd2
      go_wp2_with fail
      refine (from_any wa.heap.size d t u7 _ ((HT.out.mat (Nat.le_refl _)).below ((Below.refl wr.heap.size wr).alloc (Nat.le_refl _) _) (Nat.le_refl _)) (by rw [HTL.out]; exact hd1) (by rw [HTL.out]; omega) (by omega) HTB.out.1 HTB.out.2).mono ?_
      rintro e w3 ⟨fv,rfl,hff,hbf⟩
      have HFF:Hid (Fr (wr.alloc (.cells #[.int .i64 1] 3)).heap.size 22 3 w3 fv (diffL t)):=hff
      have HB3:Hid (Below wr.heap.size wr w3):=((Below.refl wr.heap.size wr).alloc (Nat.le_refl _) (.cells #[.int .i64 1] 3)).trans (hbf.mono (by simp))
      clear hff hbf
      go_wp2_with fail
      refine (normalR_any d 60 _ (diffL t) fv w3 HTX.out (HFF.out.rws.mat (Nat.le_refl _)) (by rw [diffL_length,HTL.out]; omega) (by rw [diffL_length,HTL.out]; have:=HD2.out; omega)).mono ?_
      rintro e W5 ⟨nv,rfl,hns,hbn⟩
      have HA5:Hid (Sl w3.heap.size 3 W5 nv (ints (normL d (diffL t)))):=hns
      have HB5:Hid (Below wr.heap.size wr W5):=HB3.out.trans (hbn.mono HB3.out.size)
      clear hns hbn hdI hdN
      have HAA:Hid (∃Z,Sl Z 3 W5 nv (ints (normL d (diffL t)))):=⟨_,HA5.out⟩
      clear HA5
      cases hnb:normB d (diffL t)
      case' false=>
       have HNO:Hid (rowsTo P C (k+1)=rowsTo P C k):=by
        have h:=HRS.out
        have:rowT t P=none:=by unfold rowT; rw [HTL.out,hnb]; simp
        rw [this] at h
        exact (by simpa using h:rowsTo P C (k+1)=rowsTo P C k)
       have HFE:Hid (Fr w1.heap.size 22 3 W5 u5 (rowsTo P C (k+1))):=by rw [HNO.out]; exact HF.out.below (HWS.out W5 HB5.out) (Nat.le_refl _)
       have HBE:Hid (Below w1.heap.size w1 W5):=HB.out.trans ((HWS.out W5 HB5.out).mono hsza)
       clear hnb
       go_wp2
       go_roundw
       case rel=>exact ⟨k+1,hlt,by go_num,HFE.out,HBE.out⟩
       case measure=>simp [intOf]; omega
      case' true=>
       have HNT:Hid (normB d (diffL t)=true):=hnb
       clear hnb
       go_wp2
     all_goals
      have HAL:Hid ((normL d (diffL t)).length=d∧∀z∈normL d (diffL t),z.natAbs≤1000000000000):=⟨norm_len HNT.out,norm_bd HTX.out⟩
      obtain ⟨tb,tO,tcp,x0v,hs,htc,hcct,hx0⟩:=mat_cell ((HT.out.mat (Nat.le_refl _)).below HB5.out (Nat.le_refl _)) (k:=0) (by rw [HTL.out]; exact hd1)
      subst hs
      have hcT:W5.cell? ⟨tb,tO,none⟩=some x0v:=hcct
      have HKS:Hid (∀W,Below W5.heap.size W5 W→W.cell? ⟨tb,tO,none⟩=some x0v):=fun W h=>(h.cell (lt_of_cell hcT)).trans hcT
      have h0t:t.getD 0 []∈P:=HTM.out _ (by simp [show 0 < t.length by rw [HTL.out]; exact hd1])
      have HROW:Hid (rowT t P=if (P.any fun x=>decide (dotL (normL d (diffL t)) (t.getD 0 []) < dotL (normL d (diffL t)) x))=false then some (normL d (diffL t) ++ [dotL (normL d (diffL t)) (t.getD 0 [])]) else if (P.any fun x=>decide (dotL (normL d (diffL t)) x < dotL (normL d (diffL t)) (t.getD 0 [])))=false then some ((normL d (diffL t) ++ [dotL (normL d (diffL t)) (t.getD 0 [])]).map fun z=>-z) else none):=by
       show _=_
       unfold rowT
       rw [HTL.out,if_pos HNT.out]
      have HSM:Hid (∀x∈P,Sm (normL d (diffL t)) x):=fun x hx=>⟨by rw [HAL.out.1,(HX.out x hx).1]; exact Nat.le_refl _,by rw [HAL.out.1]; omega,HAL.out.2,fun z hz=>by have:=(HX.out x hx).2 z hz; omega⟩
      have HX0:Hid (∃Z,Sl Z 3 W5 x0v (ints (t.getD 0 []))):=⟨_,hx0⟩
      have HTN:Hid (t.length=d):=HTL.out
      clear hx0 hcct
      have HDO:Hid (∀W,Below W5.heap.size W5 W→Calls Tryz.prog 64 #[nv,x0v] W fun e w'=>e=.returned (.int .i64 (dotL (normL d (diffL t)) (t.getD 0 [])))∧∃n,w'=W.drewN n):=fun W h=>by
       obtain ⟨Z1,h1⟩:=HAA.out
       obtain ⟨Z2,h2⟩:=HX0.out
       exact dotR_any (max Z1 Z2) _ _ _ _ W ((h1.below h (Nat.le_refl _)).more (by omega)) ((h2.below h (Nat.le_refl _)).more (by omega)) (HSM.out _ h0t)
      have HCO:Hid (Calls Tryz.prog 46 #[nv] W5.drew fun e w'=>∃u,e=.returned u∧w'.ownsRow W5.heap.size 3 1 u d (ints (normL d (diffL t)))∧Below W5.heap.size W5 w'):=by
       obtain ⟨Z1,h1⟩:=HAA.out
       refine (copy_any Z1 _ nv W5.drew h1 (by rw [HAL.out.1]; omega)).mono ?_
       rintro e w' ⟨u,rfl,g1,g2⟩
       rw [HAL.out.1] at g1
       exact ⟨u,rfl,g1,(Below.drew (Below.refl _ _)).trans g2⟩
      generalize normL d (diffL t)=a at *
      generalize t.getD 0 []=x0 at *
      obtain ⟨z,hz⟩:∃z,z=dotL a x0:=⟨_,rfl⟩
      have HZ:Hid (z=dotL a x0):=hz
      rw [←hz] at HDO HROW
      clear hz
      have HEND:=fun w6 cv nn (h1:w6.ownsRow W5.heap.size 3 1 cv d (ints a)) (h2:Below W5.heap.size W5 w6)=>row_end (z:=z) HAL.out.1 (by omega) w6 cv nn h1 h2
      have HEN:Hid _:=HEND
      clear HEND
      rw [HTN.out]
      have h0d:(0:Int) < (d:Int):=by omega
      have h0dN:0 < d:=by omega
      go_region_held3 (fun w'=>w'.cell? ⟨tb,tO,none⟩=some x0v) (first | exact KS.out | go_keep)
       (first | (go_at_call 46; refine HCO.out.mono ?_; rintro e w6 ⟨cv,rfl,h1,h2⟩; have HH:Hid (w6.ownsRow W5.heap.size 3 1 cv d (ints a)∧Below W5.heap.size W5 w6):=⟨h1,h2⟩; clear h1 h2; have KS:Hid (w6.cell? ⟨tb,tO,none⟩=some x0v):=HKS.out w6 HH.out.2) | (go_at_call 64; refine (HDO.out w6 HH.out.2).mono ?_; rintro e w7 ⟨rfl,nn,rfl⟩; clear KS; have KS:Hid ((w6.drewN nn).cell? ⟨tb,tO,none⟩=some x0v):=HKS.out w6 HH.out.2) | (refine HEN.out w6 cv nn HH.out.1 HH.out.2 _ _ _ _ _ _ rfl rfl (by simp [Act.eval]) (by simp [Act.eval]) ?_; rintro rv w8 hw8; have HW8:Hid (w8.ownsRow W5.heap.size 3 1 rv (d+1) (ints (a ++ [z]))∧Below W5.heap.size W5 w8):=hw8; clear hw8 KS; have KS:Hid (w8.cell? ⟨tb,tO,none⟩=some x0v):=HKS.out w8 HW8.out.2))
      clear h0d h0dN KS HH hcT
      have HB8:Hid (Below wa.heap.size wa w8):=HWS.out w8 (HB5.out.trans (HW8.out.2.mono HB5.out.size))
      have HBw8:Hid (Below w.heap.size w w8):=HBa.out.trans (HB8.out.mono HBa.out.size)
      have HR8:Hid (Sl 0 3 w8 rv (ints (a ++ [z]))):=Sl.own HW8.out.1
      clear HCO HDO HEN HKS HX0 HAA
      go_wp2
      go_loopw [12,13,14,15] (fun p q i _ wq=>∃j:Nat,j≤n∧i=.int .i64 j∧p=.bool ((P.take j).any fun x=>decide (z < dotL a x))∧q=.bool ((P.take j).any fun x=>decide (dotL a x < z))∧Qw w8 wq) (fun _ _ i _ _=>n-(intOf i).toNat)
      case atStart=>exact ⟨0,Nat.zero_le _,rfl,rfl,rfl,Qw.refl _⟩
      case round=>
       obtain ⟨j,hj,rfl,rfl,rfl,hqw⟩:=hrel
       have HQW:Hid (Qw w8 wr):=hqw
       have HBw9:Hid (Below w.heap.size w wr):=HBw8.out.trans hqw.below
       have HB9:Hid (Below wa.heap.size wa wr):=HB8.out.trans hqw.below
       have HR9:Hid (Sl 0 3 wr rv (ints (a ++ [z]))):=by
        obtain ⟨nn,rfl⟩:=hqw
        exact HR8.out.drewN nn
       clear hqw
       by_cases hjl:j < n
       ·have hjP:j < P.length:=by rw [←HN.out]; exact hjl
        obtain ⟨b4,o4,cp4,xv,hs4,_,hcc4,hx4⟩:=mat_cell ((HV.out.any (Nat.le_refl _)).below HBw9.out (Nat.le_refl _)) hjP
        simp only [Value.slice.injEq,Option.some.injEq,Addr.mk.injEq,and_true] at hs4
        obtain ⟨⟨rfl,rfl⟩,hxx,rfl⟩:=hs4
        clear hxx
        have HTJ:Hid (P.take (j+1)=P.take j ++ [P.getD j []]):=by
         show _=_
         rw [List.take_succ_eq_append_getElem hjP]; simp [hjP]
        have hxP:P.getD j []∈P:=by simp [hjP]
        have HOV:Hid (Calls Tryz.prog 44 #[rv,xv] wr fun e w'=>e=.returned (.int .i64 (dotL a (P.getD j [])-z))∧∃n,w'=wr.drewN n):=by
         have hxl:=(HX.out _ hxP).1
         have hal:=HAL.out.1
         have e1:(a ++ [z]).take (P.getD j []).length=a:=by rw [hxl,←hal]; simp
         have e2:(a ++ [z]).getD (P.getD j []).length 0=z:=by rw [hxl,←hal]; simp
         have h:=over_any w.heap.size (a ++ [z]) (P.getD j []) rv xv wr (HR9.out.more (Nat.zero_le _)) hx4 (by rw [hxl,List.length_append,hal]; rfl) (by rw [e1]; exact HSM.out _ hxP) (by rw [e2,HZ.out]; exact Nat.le_trans (dot_small0 (HSM.out _ h0t)) (by decide))
         unfold overL at h
         rw [e1,e2] at h
         exact h
        have HJ1:Hid (((P.take (j+1)).any fun x=>decide (z < dotL a x))=(((P.take j).any fun x=>decide (z < dotL a x)) || decide (0 < dotL a (P.getD j [])-z))):=by
         show _=_
         rw [HTJ.out,List.any_append]
         simp only [List.any_cons,List.any_nil,Bool.or_false]
         congr 1
         exact decide_eq_decide.2 (by omega)
        have HJ2:Hid (((P.take (j+1)).any fun x=>decide (dotL a x < z))=(((P.take j).any fun x=>decide (dotL a x < z)) || decide (dotL a (P.getD j [])-z < 0))):=by
         show _=_
         rw [HTJ.out,List.any_append]
         simp only [List.any_cons,List.any_nil,Bool.or_false]
         congr 1
         exact decide_eq_decide.2 (by omega)
        clear hx4 hxP hjP
        generalize dotL a (P.getD j [])-z=vv at *
        generalize ((P.take j).any fun x=>decide (z < dotL a x))=pb at *
        generalize ((P.take j).any fun x=>decide (dotL a x < z))=qb at *
        have hjI:(j:Int) < (n:Int):=by omega
        have hjI0:(0:Int)≤(j:Int):=by omega
        go_wp2_with fail
        refine HOV.out.mono ?_
        rintro e w9 ⟨rfl,nn,rfl⟩
        have HQ9:Hid (Qw w8 (wr.drewN nn)):=HQW.out.drewN nn
        generalize wr.drewN nn=w9 at *
        clear HOV
        cases pb <;> cases qb
        all_goals
         go_wp2
         exact ⟨⟨j+1,hjl,by go_num,by rw [HJ1.out]; rfl,by rw [HJ2.out]; rfl,HQ9.out⟩,by simp [intOf]; omega⟩
       ·obtain rfl:n=j:=by omega
        rw [List.take_of_length_le (show P.length≤n by rw [←HN.out]; exact Nat.le_refl _)]
        have HF9:Hid (Fr w1.heap.size 22 3 wr u5 (rowsTo P C k)):=HF.out.below HB9.out (Nat.le_refl _)
        have HC9:Hid (Below w1.heap.size w1 wr):=HB.out.trans (HB9.out.mono hsza)
        have HLR:Hid ((rowsTo P C k).length≤16777216):=Nat.le_trans (rowsTo_len P C k) (Nat.le_trans hk HCL.out)
        generalize (P.any fun x=>decide (z < dotL a x))=pb at *
        generalize (P.any fun x=>decide (dotL a x < z))=qb at *
        clear hj hjl HQW
        cases pb <;> cases qb
        case true.true=>
         have HNO:Hid (rowsTo P C (k+1)=rowsTo P C k):=by
          have h:=HRS.out
          rw [HROW.out] at h
          exact (by simpa using h:rowsTo P C (k+1)=rowsTo P C k)
         have HFE:Hid (Fr w1.heap.size 22 3 wr u5 (rowsTo P C (k+1))):=by rw [HNO.out]; exact HF9.out
         go_wp2
         exact ⟨⟨k+1,hlt,by go_num,HFE.out,HC9.out⟩,by simp [intOf]; omega⟩
        case' true.false=>
         have HNO:Hid (rowsTo P C (k+1)=rowsTo P C k ++ [(a ++ [z]).map fun z=>-z]):=by
          have h:=HRS.out
          rw [HROW.out,if_neg (by decide),if_pos rfl] at h
          exact h
         have HTU:Hid (Calls Tryz.prog 65 #[rv] wr fun e w'=>∃u,e=.returned u∧w'.ownsRow wr.heap.size 3 1 u (a ++ [z]).length (ints ((a ++ [z]).map fun z=>-z))∧Below wr.heap.size wr w'):=turned_any 0 (a ++ [z]) rv wr HR9.out (by rw [List.length_append,HAL.out.1]; simp; omega) (fun y hy=>by
          rcases List.mem_append.1 hy with h | h
          ·have:=HAL.out.2 y h; omega
          ·simp at h
           subst h
           have:=dot_small0 (HSM.out _ h0t)
           rw [←HZ.out] at this
           omega)
         go_wp2_with fail
         refine HTU.out.mono ?_
         rintro e W ⟨yv,rfl,hyo,hyb⟩
         have HY:Hid (Sl 0 3 W yv (ints ((a ++ [z]).map fun z=>-z))):=Sl.own hyo
         have HFW:Hid (Fr w1.heap.size 22 3 W u5 (rowsTo P C k)):=HF9.out.below hyb (Nat.le_refl _)
         have HCW:Hid (Below w1.heap.size w1 W):=HC9.out.trans (hyb.mono HC9.out.size)
         have hw1:w1.heap.size≤W.heap.size:=HCW.out.size
         clear hyo hyb HTU
         generalize ((a ++ [z]).map fun z=>-z)=y at *
         clear HF9 HC9 HR9
        case' false.false=>
         have HNO:Hid (rowsTo P C (k+1)=rowsTo P C k ++ [a ++ [z]]):=by
          have h:=HRS.out
          rw [HROW.out,if_pos rfl] at h
          exact h
         have HY:Hid (Sl 0 3 wr rv (ints (a ++ [z]))):=HR9.out
         have HFW:Hid (Fr w1.heap.size 22 3 wr u5 (rowsTo P C k)):=HF9.out
         have HCW:Hid (Below w1.heap.size w1 wr):=HC9.out
         have hw1:w1.heap.size≤wr.heap.size:=HCW.out.size
         generalize a ++ [z]=y at *
         obtain ⟨W,rfl⟩:∃W,W=wr:=⟨wr,rfl⟩
         obtain ⟨yv,rfl⟩:∃yv,yv=rv:=⟨rv,rfl⟩
        case' false.true=>
         have HNO:Hid (rowsTo P C (k+1)=rowsTo P C k ++ [a ++ [z]]):=by
          have h:=HRS.out
          rw [HROW.out,if_pos rfl] at h
          exact h
         have HY:Hid (Sl 0 3 wr rv (ints (a ++ [z]))):=HR9.out
         have HFW:Hid (Fr w1.heap.size 22 3 wr u5 (rowsTo P C k)):=HF9.out
         have HCW:Hid (Below w1.heap.size w1 wr):=HC9.out
         have hw1:w1.heap.size≤wr.heap.size:=HCW.out.size
         generalize a ++ [z]=y at *
         obtain ⟨W,rfl⟩:∃W,W=wr:=⟨wr,rfl⟩
         obtain ⟨yv,rfl⟩:∃yv,yv=rv:=⟨rv,rfl⟩
        all_goals
         obtain ⟨yo,yc,hyv,_,_⟩:=sl_open HY.out
         obtain ⟨yl,hyl⟩:∃yl,yl=y.length:=⟨_,rfl⟩
         rw [←hyl] at hyv
         clear hyl
         subst hyv
         obtain ⟨vs,g1,g2,g3⟩:=HFW.out
         obtain ⟨ol,hol⟩:∃ol,ol=(rowsTo P C k).length:=⟨_,rfl⟩
         rw [←hol] at g1 g2 g3 HLR
         have HOL:Hid (ol=(rowsTo P C k).length):=hol
         have G1:Hid (vs.length=ol):=g1
         have G2:Hid (W.ownsRow w1.heap.size 22 1 u5 ol vs):=g2
         have G3:Hid (∀i,i < ol→Sl 0 3 W (vs.getD i (.slice none 0 0)) (ints ((rowsTo P C k).getD i []))):=g3
         have hol2:ol≤16777216:=HLR.out
         clear g1 g2 g3 hol
         go_wp2_with (first | (at_builtin; refine wpList_append_own _ rfl _ _ 25 rfl w1.heap.size 22 i0 (.slice none 0 0) 1 24 Tryz.underlying25 hi hz0 hz1 hz2 rfl (by decide) _ _ _ rfl (G2.out.alloc _) ⟨W.heap.size,0,none⟩ 1 1 [.slice yo yl yc] rfl rfl (one_new _ _ _) (one_slice _ _ _) ?d3 ?d4 ?d5 ?_))
         case d3=>unfold maxLen; omega
         case d4=>omega
         case d5=>first | exact hw1 | omega | (simp; omega)
         intro v' w3 ho hg _
         have R1:Hid (Fr w1.heap.size 22 3 w3 v' (rowsTo P C (k+1))):=by
          have hp:=Fr.push (e2:=22) (e1:=3) (m:=rowsTo P C k) (u:=.slice yo yl yc) (zs:=y) (by decide) (by rw [←HOL.out]; exact G1.out) (by rw [←HOL.out]; exact G2.out.alloc _)
           (fun i hi=>(G3.out i (by rw [←HOL.out] at hi; exact hi)).alloc _) (HY.out.alloc _) (by rw [←HOL.out]; exact ho) hg
          rw [←HNO.out] at hp
          exact hp
         have R2:Hid (Below w1.heap.size w1 w3):=(HCW.out.alloc HCW.out.size _).grown hg (by have:=HCW.out.size; simp; omega) (fun x hx=>(G2.out.lt x hx).1)
         clear ho hg
         go_wp2
         exact ⟨⟨k+1,hlt,by go_num,R1.out,R2.out⟩,by simp [intOf]; omega⟩
  ·have hke:rowsTo P C k=rowsD P d:=by
    unfold rowsTo rowsD
    rw [List.take_of_length_le (by omega),HCC.out,HN.out]
   have HFF:Hid (Fr w.heap.size 22 3 wa u5 (rowsD P d)):=by have:=HF.out; rw [hke] at this; exact this.mono hsz1
   have HLR:Hid ((rowsD P d).length≤16777216):=by rw [←hke]; exact Nat.le_trans (rowsTo_len P C k) (Nat.le_trans hk HCL.out)
   clear hke
   go_wp2_with fail
   refine (sortR_any w.heap.size (rowsD P d) u5 wa (HFF.out.rws.mat (Nat.le_refl _)) (Nat.le_trans HLR.out (by decide)) (fun r hr=>by rw [(rowsD_facts HX.out hd1 (by omega) r hr).len]; omega)).mono ?_
   rintro e w2 ⟨x2,s2,rfl,hf2,hs2,hm2,hb2⟩
   have HF2:Hid (Fr w.heap.size 22 3 w2 x2 s2):=hf2.mono HBa.out.size
   have HS2:Hid (SAsc s2):=hs2
   have HM2:Hid (∀r,r∈s2↔r∈rowsD P d):=hm2
   have HB2:Hid (Below w.heap.size w w2):=HBa.out.trans (hb2.mono HBa.out.size)
   clear hf2 hs2 hm2 hb2
   go_wp2
   go_ret
   exact ⟨_,s2,rfl,HF2.out,HS2.out,HM2.out,HB2.out⟩
end Go.Proofs.YtkfdpcgmpbopnaaGreatDoor
namespace Go.Proofs.YtkfdpcgmpbopnaaGreatDoor
open Go.RowKit
attribute [local go_sem ↓] Go.wp_at_zero Go.wp_at_succ
theorem over_of {d:Nat} {P:List (List Int)} {r x:List Int} (hr:RowOf d P r) (hx:x.length=d) (hb:(r.getD d 0).natAbs≤1000000000000000000) (h4:d≤4) (hxb:∀z∈x,z.natAbs≤1000) (B:Nat) (u v:Value) (w:World) (hu:Sl B 3 w u (ints r)) (hv:Sl B 3 w v (ints x)) :
  Calls Tryz.prog 44 #[u,v] w fun e w'=>e=.returned (.int .i64 (overL r x))∧∃n,w'=w.drewN n:=by
 refine over_any B r x u v w hu hv (by rw [hx]; exact hr.len) ⟨?_,?_,?_,hxb⟩ (by rw [hx]; exact hb)
 ·rw [List.length_take]; omega
 ·rw [List.length_take]; omega
 ·rw [hx]; exact hr.bd
end Go.Proofs.YtkfdpcgmpbopnaaGreatDoor
namespace Go.Proofs.YtkfdpcgmpbopnaaGreatDoor
open Go.RowKit
attribute [local go_sem ↓] Go.wp_at_zero Go.wp_at_succ
theorem rowsD_last {d:Nat} {P:List (List Int)} (hP:Box d 30 P) (h1:1≤d) (h5:d≤5) {r:List Int} (hr:r∈rowsD P d):(r.getD d 0).natAbs≤1000000000000000000:=by
 have hr0:=hr
 unfold rowsD at hr
 obtain ⟨c,hc,hr⟩:=List.mem_flatMap.1 hr
 have hl:=chosen_row d P.length c hc
 have htl:(pks P [] c).length=d:=by rw [←hl]; simp [pks]
 have htm:∀x∈pks P [] c,x∈P:=pks_in fun q hq=>by
  obtain ⟨i,hi,rfl⟩:=List.mem_iff_getElem.1 hq
  have:=(chosen_mem d P.length c hc).1 i (by omega)
  simpa [hi] using this
 obtain ⟨σ,hσ,hnb,hre⟩:=rowT_form htl (Option.mem_toList.1 hr)
 have hal:=norm_len hnb
 have hbd:=norm_bd (diff_mx (fun x hx=>hP x (htm x hx)) h1 h5)
 have h0:(pks P [] c).getD 0 []∈P:=htm _ (by simp [show 0 < (pks P [] c).length by omega])
 have hsm:Sm (normL d (diffL (pks P [] c))) ((pks P [] c).getD 0 []):=⟨by rw [hal,(hP _ h0).1]; exact Nat.le_refl _,by rw [hal]; omega,hbd,fun z hz=>by have:=(hP _ h0).2 z hz; omega⟩
 have hd:=dot_small0 hsm
 have e:r.getD d 0=σ*dotL (normL d (diffL (pks P [] c))) ((pks P [] c).getD 0 []):=by
  rw [hre]
  have:=V_map (normL d (diffL (pks P [] c)) ++ [dotL (normL d (diffL (pks P [] c))) ((pks P [] c).getD 0 [])]) σ d
  simp only [V] at this
  rw [this,(row_app hal).2.2.1]
 rw [e,Int.natAbs_mul]
 generalize dotL (normL d (diffL (pks P [] c))) ((pks P [] c).getD 0 [])=q at *
 rcases hσ with rfl | rfl <;> simp <;> omega
end Go.Proofs.YtkfdpcgmpbopnaaGreatDoor
namespace Go.Proofs.YtkfdpcgmpbopnaaGreatDoor
open Go.RowKit
attribute [local go_sem ↓] Go.wp_at_zero Go.wp_at_succ
theorem diff_mx12 {d:Nat} {t:List (List Int)} (h:Box d 6 t) (h1:1≤d) (h5:d≤5):Mx d 12 (diffL t):=by
 refine ⟨fun r hr=>?_,fun r hr z hz=>?_,h5,h1,by decide,Nat.le_trans (fb_mono (by decide) h5) (by decide)⟩
 ·simp only [diffL,List.mem_map] at hr
  obtain ⟨x,hx,rfl⟩:=hr
  rw [subL_length]; exact (h x (List.mem_of_mem_drop hx)).1
 ·simp only [diffL,List.mem_map] at hr
  obtain ⟨x,hx,rfl⟩:=hr
  simp only [subL,List.mem_map,List.mem_range] at hz
  obtain ⟨i,hi,rfl⟩:=hz
  have h1:=(h x (List.mem_of_mem_drop hx)).2 (x.getD i 0) (by simp [hi])
  have h2 : -(6:Int)≤(t.getD 0 []).getD i 0∧(t.getD 0 []).getD i 0≤6:=by
   by_cases ht:0 < t.length
   ·have h3:=h (t.getD 0 []) (by simp [ht])
    by_cases hi2:i < (t.getD 0 []).length
    ·exact h3.2 _ (getD_mem hi2)
    ·rw [show (t.getD 0 []).getD i 0=0 by simp only [List.getD_eq_getElem?_getD]; rw [List.getElem?_eq_none (by simpa using hi2)]; rfl]; omega
   ·have:t=[]:=List.eq_nil_of_length_eq_zero (by omega)
    subst this; simp
  omega
theorem mu_12 {c:Nat} {m:List (List Int)} (hx:Mx c 12 m) (h4:c≤4) (hl:(pickL c m).length+1=c):∀z∈muL c (pickL c m),z.natAbs≤10368:=by
 intro z hz
 simp only [muL,List.mem_map,List.mem_range] at hz
 obtain ⟨k,hk,rfl⟩:=hz
 unfold Lin.mu
 rw [Int.natAbs_mul]
 have h2:(Lin.ngo k).natAbs=1:=by rw [ngo_mod]; by_cases e:k % 2=1 <;> simp [e]
 rw [h2,Nat.one_mul,fm_length]
 have h5:Lin.fb 12 3=10368:=by decide
 have m2:Lin.fb 12 (pickL c m).length≤Lin.fb 12 3:=fb_mono (by decide) (by omega)
 have hb:=Lin.od_bd (n:=(pickL c m).length) (B:=12) (Lin.cols (fm (pickL c m)) (Lin.skp k)) (fun _=>false) (fun r hr j hj=>by
  simp only [Lin.cols,fm,List.mem_map] at hr
  obtain ⟨_,⟨l,hl',rfl⟩,rfl⟩:=hr
  by_cases hi:Lin.skp k j < l.length
  ·exact hx.bd l (pickL_mem hl') _ (by simp [hi])
  ·simp only [List.getD_eq_getElem?_getD]; rw [List.getElem?_eq_none (by omega)]; simp) (by rw [Lin.cu_none]; simp [Lin.cols,fm])
 have hl2:(Lin.cols (fm (pickL c m)) (Lin.skp k)).length=(pickL c m).length:=by simp [Lin.cols,fm]
 rw [hl2] at hb
 omega
theorem norm_12 {c:Nat} {m:List (List Int)} (hx:Mx c 12 m) (h4:c≤4):∀z∈normL c m,z.natAbs≤10368:=by
 intro z hz
 unfold normL at hz
 split at hz
 ·rename_i hl
  exact upr_bd (low_bd (mu_12 hx h4 hl)) z hz
 ·simp at hz
theorem box_up {d:Nat} {P:List (List Int)} (h:Box d 6 P):Box d 30 P:=fun r hr=>⟨(h r hr).1,fun z hz=>by have:=(h r hr).2 z hz; omega⟩
theorem rowsD_12 {d:Nat} {P:List (List Int)} (hP:Box d 6 P) (h1:1≤d) (h4:d≤4) {r:List Int} (hr:r∈rowsD P d):∀z∈r.take d,z.natAbs≤10368:=by
 unfold rowsD at hr
 obtain ⟨c,hc,hr⟩:=List.mem_flatMap.1 hr
 have hl:=chosen_row d P.length c hc
 have htl:(pks P [] c).length=d:=by rw [←hl]; simp [pks]
 have htm:∀x∈pks P [] c,x∈P:=pks_in fun q hq=>by
  obtain ⟨i,hi,rfl⟩:=List.mem_iff_getElem.1 hq
  have:=(chosen_mem d P.length c hc).1 i (by omega)
  simpa [hi] using this
 obtain ⟨σ,hσ,hnb,hre⟩:=rowT_form htl (Option.mem_toList.1 hr)
 have hal:=norm_len hnb
 have hbd:=norm_12 (diff_mx12 (fun x hx=>hP x (htm x hx)) h1 (by omega)) h4
 intro z hz
 rw [hre,←List.map_take,(row_app hal).2.1] at hz
 obtain ⟨y,hy,rfl⟩:=List.mem_map.1 hz
 have:=hbd y hy
 rcases hσ with rfl | rfl
 ·rw [Int.one_mul]; exact this
 ·rw [Int.neg_mul,Int.one_mul,Int.natAbs_neg]; exact this
def onL (d:Nat) (s:List (List Int)) (x:List Int):List (List Int):=(s.filter fun r=>decide (overL r x=0)).map fun r=>r.take d
theorem onL_snoc {d:Nat} {s:List (List Int)} {x:List Int} {j:Nat} (hj:j < s.length):onL d (s.take (j+1)) x=onL d (s.take j) x ++ (if overL (s.getD j []) x=0 then [(s.getD j []).take d] else []):=by
 have e:s.getD j []=s[j]:=by simp [hj]
 unfold onL
 rw [List.take_succ_eq_append_getElem hj,List.filter_append,List.map_append,e]
 by_cases h:overL s[j] x=0 <;> simp [h]
theorem onL_len (d:Nat) (s:List (List Int)) (x:List Int):(onL d s x).length≤s.length:=by
 unfold onL
 rw [List.length_map]
 exact List.length_filter_le _ _
theorem onL_mx {d:Nat} {P s:List (List Int)} (hP:Box d 6 P) (h1:1≤d) (h4:d≤4) (hs:∀r∈s,r∈rowsD P d) (x:List Int):Mx d 10368 (onL d s x):=by
 have hmem:∀r∈onL d s x,∃q∈rowsD P d,r=q.take d:=fun r hr=>by
  obtain ⟨q,hq,rfl⟩:=List.mem_map.1 hr
  exact ⟨q,hs q (List.mem_filter.1 hq).1,rfl⟩
 refine ⟨fun r hr=>?_,fun r hr=>?_,by omega,h1,by decide,Nat.le_trans (fb_mono (by decide) h4) (by decide)⟩
 ·obtain ⟨q,hq,rfl⟩:=hmem r hr
  have:=(rowsD_facts (box_up hP) h1 (by omega) q hq).len
  rw [List.length_take]; omega
 ·obtain ⟨q,hq,rfl⟩:=hmem r hr
  exact rowsD_12 hP h1 h4 hq
theorem nodup_lenL:∀s t:List (List Int),s.Nodup→(∀r∈s,r∈t)→s.length≤t.length
 | [],_,_,_=>by simp
 | a :: s,t,hn,h=>by
  obtain ⟨h1,h2⟩:=List.nodup_cons.1 hn
  have ha:=h a (by simp)
  have ih:=nodup_lenL s (t.erase a) h2 fun r hr=>(List.mem_erase_of_ne (fun e=>h1 (by rw [←e]; exact hr))).2 (h r (by simp [hr]))
  rw [List.length_erase_of_mem ha] at ih
  have:=List.length_pos_of_mem ha
  simp
  omega
theorem SAsc.nodup {s:List (List Int)} (h:SAsc s):s.Nodup:=
 List.Pairwise.imp (fun {a b} hab e=>by
  subst e
  rw [cmpL_self] at hab
  omega) h
theorem rowsD_len {d:Nat} {P s:List (List Int)} (hd:d≤4) (hP:P.length≤16) (hs:SAsc s) (hm:∀r,r∈s↔r∈rowsD P d):s.length≤16777216:=by
 have h1:=nodup_lenL s (rowsD P d) hs.nodup fun r hr=>(hm r).1 hr
 have h2:(rowsD P d).length≤(chosenL d P.length).length:=by
  have h:=rowsTo_len P (chosenL d P.length) (chosenL d P.length).length
  unfold rowsTo at h
  rw [List.take_length] at h
  exact h
 have h3:(chosenL d P.length).length≤16777216:=Nat.le_trans (chosen_len d P.length (by omega)) (Nat.le_trans (Nat.pow_le_pow_right (by decide) hd) (by decide))
 omega
def crn (d:Nat) (s P:List (List Int)):List (List Int):=P.filter fun x=>decide ((pickL d (onL d s x)).length=d)
theorem crn_snoc {d:Nat} {s P:List (List Int)} {k:Nat} (hk:k < P.length):crn d s (P.take (k+1))=crn d s (P.take k) ++ (if (pickL d (onL d s (P.getD k []))).length=d then [P.getD k []] else []):=by
 have e:P.getD k []=P[k]:=by simp [hk]
 unfold crn
 rw [List.take_succ_eq_append_getElem hk,List.filter_append,e]
 by_cases h:(pickL d (onL d s P[k])).length=d <;> simp [h]
set_option maxRecDepth 100000 in
set_option maxHeartbeats 1600000 in
theorem cornersOf_any (B d:Nat) (P:List (List Int)) (v:Value) (w:World) (hv:Mat B 22 3 w v P) (hd1:1≤d) (hd:d≤4) (hP1:1≤P.length) (hP:P.length≤16) (hx:Box d 6 P) :
  Calls Tryz.prog 25 #[v] w fun e w'=>∃x c s,e=.returned x∧Fr w.heap.size 22 3 w' x c∧SAsc c∧SAsc s∧(∀r,r∈s↔r∈rowsD P d)∧(∀y,y∈c↔y∈crn d s P)∧Below w.heap.size w w':=by
 obtain ⟨i0,hi,hz0,hz1,hz2⟩:=info_parts Tryz.info22
 obtain ⟨b,o,cap,r0,hvv,hlc,hcc,hr0⟩:=mat_cell hv (k:=0) (by omega)
 subst hvv
 have HV:Hid (Mat w.heap.size 22 3 w (.slice (some ⟨b,o,none⟩) P.length cap) P):=hv.any (Nat.le_refl _)
 have HX:Hid (Box d 6 P):=hx
 have hm0:P.getD 0 []∈P:=by simp [show 0 < P.length by omega]
 obtain ⟨ro,rc,hrv,hrl,_⟩:=sl_open hr0
 rw [(hx _ hm0).1] at hrv hrl
 subst hrv
 have hcc0:w.cell? ⟨b,o,none⟩=some (.slice ro d rc):=hcc
 clear hv hx hr0 hm0 hrl hcc
 have HRO:Hid (Calls Tryz.prog 43 #[.slice (some ⟨b,o,none⟩) P.length cap] w fun e w'=>∃x s,e=.returned x∧Fr w.heap.size 22 3 w' x s∧SAsc s∧(∀r,r∈s↔r∈rowsD P d)∧Below w.heap.size w w'):=rowsOf_any w.heap.size d P _ w HV.out hd1 hd hP1 hP (box_up HX.out)
 obtain ⟨n,hn⟩:∃n,n=P.length:=⟨_,rfl⟩
 have HN:Hid (n=P.length):=hn
 rw [←hn] at HV HRO hP1 hP hlc ⊢
 clear hn
 have h0I:(0:Int) < (n:Int):=by omega
 have h0N:0 < n:=by omega
 go_enter Tryz.func25,Tryz.ntmps25
 go_wp2_with fail
 refine HRO.out.mono ?_
 rintro e w1 ⟨sv,s,rfl,hf,hsa,hm,hb⟩
 have HF:Hid (Fr w.heap.size 22 3 w1 sv s):=hf
 have HSA:Hid (SAsc s):=hsa
 have HM:Hid (∀r,r∈s↔r∈rowsD P d):=hm
 have HB1:Hid (Below w.heap.size w w1):=hb
 have hsz1:w.heap.size≤w1.heap.size:=hb.size
 obtain ⟨so,sc,hsv,hsl1,hsl2⟩:=fr_open hf
 subst hsv
 have HSL:Hid (s.length≤16777216):=rowsD_len hd (by rw [←HN.out]; exact hP) hsa hm
 have hcc1:w1.cell? ⟨b,o,none⟩=some (.slice ro d rc):=(hb.cell (lt_of_cell hcc0)).trans hcc0
 clear hf hsa hm hb hcc0 HRO
 go_wp2
 go_loopw [5,6] (fun x i wr=>∃k:Nat,k≤n∧i=.int .i64 k∧Rws w1.heap.size 22 3 wr x (crn d s (P.take k))∧Below w1.heap.size w1 wr) (fun _ i _=>n-(intOf i).toNat)
 case atStart=>exact ⟨0,Nat.zero_le _,rfl,Rws.nil _ _ _ _,Below.refl _ _⟩
 case round=>
  obtain ⟨k,hk,rfl,hfr,hbel⟩:=hrel
  rename World=>wa
  have HFA:Hid (Rws w1.heap.size 22 3 wa u5 (crn d s (P.take k))):=hfr
  have HB:Hid (Below w1.heap.size w1 wa):=hbel
  have HBa:Hid (Below w.heap.size w wa):=HB1.out.trans (hbel.mono hsz1)
  have hsza:w1.heap.size≤wa.heap.size:=hbel.size
  clear hfr hbel
  by_cases hlt:k < n
  ·have hkP:k < P.length:=by rw [←HN.out]; exact hlt
   have hmem:P.getD k []∈P:=by simp [hkP]
   have HCS:Hid (crn d s (P.take (k+1))=crn d s (P.take k) ++ (if (pickL d (onL d s (P.getD k []))).length=d then [P.getD k []] else [])):=crn_snoc hkP
   obtain ⟨b4,o4,cp4,xv,hs4,_,hcc4,hx4⟩:=mat_cell HV.out hkP
   simp only [Value.slice.injEq,Option.some.injEq,Addr.mk.injEq,and_true] at hs4
   obtain ⟨⟨rfl,rfl⟩,hxx,rfl⟩:=hs4
   clear hxx
   have HXB:Hid ((P.getD k []).length=d∧∀z∈P.getD k [],z.natAbs≤1000):=⟨(HX.out _ hmem).1,fun z hz=>by have:=(HX.out _ hmem).2 z hz; omega⟩
   have HXP:Hid (P.getD k []∈P):=hmem
   obtain ⟨xo,xc,hxe,_,_⟩:=sl_open hx4
   rw [HXB.out.1] at hxe
   subst hxe
   have HXS:Hid (∀W,Below w.heap.size w W→W.cell? ⟨b,o+k,none⟩=some (.slice xo d xc)∧Sl w.heap.size 3 W (.slice xo d xc) (ints (P.getD k []))):=fun W h=>⟨(h.cell (lt_of_cell hcc4)).trans hcc4,hx4.below h (Nat.le_refl _)⟩
   have HONM:Hid (Mx d 10368 (onL d s (P.getD k []))):=onL_mx HX.out hd1 hd (fun r hr=>(HM.out r).1 hr) _
   clear hmem hx4 hcc4
   generalize P.getD k []=y at *
   have HOV:Hid (∀r∈s,∀(wq:World) (rv:Value),Below w.heap.size w wq→Sl w.heap.size 3 wq rv (ints r)→∀nn,Calls Tryz.prog 44 #[rv,.slice xo d xc] (wq.drewN nn) fun e w'=>e=.returned (.int .i64 (overL r y))∧∃n,w'=(wq.drewN nn).drewN n):=fun r hr wq rv hq hs nn=>
    over_of (rowsD_facts (box_up HX.out) hd1 (by omega) r ((HM.out r).1 hr)) HXB.out.1 (rowsD_last (box_up HX.out) hd1 (by omega) ((HM.out r).1 hr)) hd HXB.out.2 w.heap.size rv _ (wq.drewN nn) (hs.drewN nn) ((HXS.out wq hq).2.drewN nn)
   have hkI:(k:Int) < (n:Int):=by omega
   have hkI0:(0:Int)≤(k:Int):=by omega
   go_wp2
   go_loopw [7,8] (fun x i wq=>∃j:Nat,j≤s.length∧i=.int .i64 j∧Rws wa.heap.size 22 3 wq x (onL d (s.take j) y)∧Below wa.heap.size wa wq) (fun _ i _=>s.length-(intOf i).toNat)
   case atStart=>exact ⟨0,Nat.zero_le _,rfl,Rws.nil _ _ _ _,Below.refl _ _⟩
   case round=>
    obtain ⟨j,hj,rfl,hfr,hbel⟩:=hrel
    have HFS:Hid (Rws wa.heap.size 22 3 wr u7 (onL d (s.take j) y)):=hfr
    have HBS:Hid (Below wa.heap.size wa wr):=hbel
    have HB1r:Hid (Below w1.heap.size w1 wr):=HB.out.trans (hbel.mono hsza)
    have HBr:Hid (Below w.heap.size w wr):=HBa.out.trans (hbel.mono HBa.out.size)
    have hszr:wa.heap.size≤wr.heap.size:=hbel.size
    clear hfr hbel
    by_cases hjl:j < s.length
    ·obtain ⟨b2,o2,cp2,rv,hs2,_,hcc2,hr2⟩:=mat_cell ((HF.out.rws.mat (Nat.le_refl _)).below HB1r.out (Nat.le_refl _)) hjl
     simp only [Value.slice.injEq,true_and] at hs2
     obtain ⟨rfl,rfl⟩:=hs2
     have hmem:s.getD j []∈s:=by simp [hjl]
     have HON:Hid (onL d (s.take (j+1)) y=onL d (s.take j) y ++ (if overL (s.getD j []) y=0 then [(s.getD j []).take d] else [])):=onL_snoc hjl
     have HLE:Hid ((onL d (s.take j) y).length≤16777216):=by
      have h1:=onL_len d (s.take j) y
      have h2:=HSL.out
      rw [List.length_take] at h1
      show _≤_
      omega
     have hrl:=(rowsD_facts (box_up HX.out) hd1 (by omega) _ ((HM.out _).1 hmem)).len
     obtain ⟨qa,qc,hqe,hqc,_⟩:=sl_open hr2
     obtain ⟨qb,qo,qc',hqs,_,_⟩:=sl_cell hr2 (k:=0) (by rw [hrl]; omega)
     rw [hqe] at hqs
     simp only [Value.slice.injEq] at hqs
     obtain ⟨rfl,hxx,rfl⟩:=hqs
     clear hxx
     rw [hrl] at hqe hqc
     subst hqe
     have HCA:Hid (∀nn,Calls Tryz.prog 44 #[.slice (some ⟨qb,qo,none⟩) (d+1) qc,.slice xo d xc] (wr.drewN nn) fun e w'=>e=.returned (.int .i64 (overL (s.getD j []) y))∧∃n,w'=(wr.drewN nn).drewN n):=HOV.out _ hmem wr _ HBr.out hr2
     have HTK:Hid (Sl w.heap.size 3 wr (.slice (some ⟨qb,qo,none⟩) d qc) (ints ((s.getD j []).take d))):=by
      have h:=hr2
      rw [←hrl] at h
      exact Sl.take h (by omega)
     have hccX:=(HXS.out wr HBr.out).1
     clear hr2 hmem hrl
     generalize s.getD j []=r at *
     have hjI:(j:Int) < (s.length:Int):=by omega
     have hjI0:(0:Int)≤(j:Int):=by omega
     have hdc:d≤qc:=by omega
     have hdcI:(d:Int)≤(qc:Int):=by omega
     have hd0I:(0:Int)≤(d:Int):=by omega
     obtain ⟨z,hz⟩:∃z,z=overL r y:=⟨_,rfl⟩
     rw [←hz] at HCA HON
     clear hz
     go_wp2
     go_quiet ((go_at_call 44; exact Calls.quiet_of (w:=wr) (HCA.out _)))
     obtain ⟨Wq,hWq⟩:∃Wq,Wq=wr.drewN nq:=⟨_,rfl⟩
     rw [←hWq]
     have hbq:Below wr.heap.size wr Wq:=by rw [hWq]; exact ⟨rfl,rfl,rfl,Nat.le_refl _,fun _ _=>rfl⟩
     have hccq:Wq.cell? ⟨b2,o2+j,none⟩=some (.slice (some ⟨qb,qo,none⟩) (d+1) qc):=(hbq.cell (lt_of_cell hcc2)).trans hcc2
     have HFq:Hid (Rws wa.heap.size 22 3 Wq u7 (onL d (s.take j) y)):=HFS.out.below hbq (Nat.le_refl _)
     have HTq:Hid (Sl wa.heap.size 3 Wq (.slice (some ⟨qb,qo,none⟩) d qc) (ints (r.take d))):=(HTK.out.below hbq (Nat.le_refl _)).more HBa.out.size
     have HBq:Hid (Below wa.heap.size wa Wq):=HBS.out.trans (hbq.mono HBS.out.size)
     have hszq:wa.heap.size≤Wq.heap.size:=HBq.out.size
     clear hWq hbq hcc2 hccX HFS HTK HCA
     by_cases hzz:z=0
     ·subst hzz
      rw [if_pos rfl] at HON
      obtain ⟨vs,g1,g2,g3⟩:=HFq.out
      obtain ⟨ol,hol⟩:∃ol,ol=(onL d (s.take j) y).length:=⟨_,rfl⟩
      rw [←hol] at g1 g2 g3 HLE
      have HOL:Hid (ol=(onL d (s.take j) y).length):=hol
      have G1:Hid (vs.length=ol):=g1
      have G2:Hid (Wq.ownsRow wa.heap.size 22 1 u7 ol vs):=g2
      have G3:Hid (∀i,i < ol→Sl wa.heap.size 3 Wq (vs.getD i (.slice none 0 0)) (ints ((onL d (s.take j) y).getD i []))):=g3
      have hol2:ol≤16777216:=HLE.out
      clear g1 g2 g3 hol
      go_wp2_with (first | (at_builtin; refine wpList_append_own _ rfl _ _ 25 rfl wa.heap.size 22 i0 (.slice none 0 0) 1 24 Tryz.underlying25 hi hz0 hz1 hz2 rfl (by decide) _ _ _ rfl (G2.out.alloc _) ⟨Wq.heap.size,0,none⟩ 1 1 [.slice (some ⟨qb,qo,none⟩) d qc] rfl rfl (one_new _ _ _) (one_slice _ _ _) ?d3 ?d4 ?d5 ?_))
      case d3=>unfold maxLen; omega
      case d4=>omega
      case d5=>first | exact hszq | omega | (simp; omega)
      intro v' w3 ho hg _
      have R1:Hid (Rws wa.heap.size 22 3 w3 v' (onL d (s.take (j+1)) y)):=by
       have hp:=Rws.push (e2:=22) (e1:=3) (m:=onL d (s.take j) y) (u:=.slice (some ⟨qb,qo,none⟩) d qc) (zs:=r.take d) (by decide) (by rw [←HOL.out]; exact G1.out) (by rw [←HOL.out]; exact G2.out.alloc _)
        (fun i hi=>(G3.out i (by rw [←HOL.out] at hi; exact hi)).alloc _) (HTq.out.alloc _) (by rw [←HOL.out]; exact ho) hg
       rw [←HON.out] at hp
       exact hp
      have R2:Hid (Below wa.heap.size wa w3):=(HBq.out.alloc hszq _).grown hg (by simp; omega) (fun x hx=>(G2.out.lt x hx).1)
      clear ho hg
      go_wp2
      exact ⟨⟨j+1,hjl,by go_num,R1.out,R2.out⟩,by simp [intOf]; omega⟩
     ·have HON2:Hid (onL d (s.take (j+1)) y=onL d (s.take j) y):=by
       have h:=HON.out
       rw [if_neg hzz,List.append_nil] at h
       exact h
      have R1:Hid (Rws wa.heap.size 22 3 Wq u7 (onL d (s.take (j+1)) y)):=by rw [HON2.out]; exact HFq.out
      have tz:(z == 0)=false:=by simp [hzz]
      clear HON hzz
      go_wp2
      exact ⟨⟨j+1,hjl,by go_num,R1.out,HBq.out⟩,by simp [intOf]; omega⟩
    ·have HTE:Hid (s.take j=s):=List.take_of_length_le (by omega)
     have HON3:Hid (Mat wa.heap.size 22 3 wr u7 (onL d s y)):=by
      have h:=HFS.out
      rw [HTE.out] at h
      exact h.mat (Nat.le_refl _)
     have HRK:Hid (Calls Tryz.prog 23 #[u7] wr fun e w'=>e=.returned (.int .i64 ((pickL d (onL d s y)).length:Nat))∧Below wr.heap.size wr w'):=rankR_any d 10368 wa.heap.size (onL d s y) u7 wr HONM.out HON3.out (Nat.le_trans (onL_len d s y) HSL.out)
     obtain ⟨pk,hpk⟩:∃pk,pk=(pickL d (onL d s y)).length:=⟨_,rfl⟩
     have HPC:Hid (pk≤d):=by show _≤_; rw [hpk]; exact pickL_cap d _
     rw [←hpk] at HRK HCS
     have hpkd:pk≤d:=HPC.out
     clear hpk HON3 HFS HTE
     go_wp2_with fail
     refine HRK.out.mono ?_
     rintro e w9 ⟨rfl,hb9⟩
     have HB9a:Hid (Below wa.heap.size wa w9):=HBS.out.trans (hb9.mono HBS.out.size)
     have HB9:Hid (Below w1.heap.size w1 w9):=HB.out.trans (HB9a.out.mono hsza)
     have HF9:Hid (Rws w1.heap.size 22 3 w9 u5 (crn d s (P.take k))):=HFA.out.below HB9a.out (Nat.le_refl _)
     have hsz9:w1.heap.size≤w9.heap.size:=HB9.out.size
     have hx9:=(HXS.out w9 (HBr.out.trans (hb9.mono HBr.out.size))).1
     have HX9:Hid (Sl w1.heap.size 3 w9 (.slice xo d xc) (ints y)):=(HXS.out w9 (HBr.out.trans (hb9.mono HBr.out.size))).2.more hsz1
     clear hb9 HRK
     by_cases hpd:pk=d
     ·rw [if_pos hpd] at HCS
      have tp:((pk:Int) == (d:Int))=true:=by simp [hpd]
      obtain ⟨vs,g1,g2,g3⟩:=HF9.out
      obtain ⟨ol,hol⟩:∃ol,ol=(crn d s (P.take k)).length:=⟨_,rfl⟩
      have hol3:ol≤16:=by
       rw [hol]
       have:=List.length_filter_le (fun x=>decide ((pickL d (onL d s x)).length=d)) (P.take k)
       rw [List.length_take,←HN.out] at this
       unfold crn
       omega
      rw [←hol] at g1 g2 g3
      have HOL:Hid (ol=(crn d s (P.take k)).length):=hol
      have G1:Hid (vs.length=ol):=g1
      have G2:Hid (w9.ownsRow w1.heap.size 22 1 u5 ol vs):=g2
      have G3:Hid (∀i,i < ol→Sl w1.heap.size 3 w9 (vs.getD i (.slice none 0 0)) (ints ((crn d s (P.take k)).getD i []))):=g3
      clear g1 g2 g3 hol hpd
      go_wp2_with (first | (at_builtin; refine wpList_append_own _ rfl _ _ 25 rfl w1.heap.size 22 i0 (.slice none 0 0) 1 24 Tryz.underlying25 hi hz0 hz1 hz2 rfl (by decide) _ _ _ rfl (G2.out.alloc _) ⟨w9.heap.size,0,none⟩ 1 1 [.slice xo d xc] rfl rfl (one_new _ _ _) (one_slice _ _ _) ?d3 ?d4 ?d5 ?_))
      case d3=>unfold maxLen; omega
      case d4=>omega
      case d5=>first | exact hsz9 | omega | (simp; omega)
      intro v' w3 ho hg _
      have R1:Hid (Rws w1.heap.size 22 3 w3 v' (crn d s (P.take (k+1)))):=by
       have hp:=Rws.push (e2:=22) (e1:=3) (m:=crn d s (P.take k)) (u:=.slice xo d xc) (zs:=y) (by decide) (by rw [←HOL.out]; exact G1.out) (by rw [←HOL.out]; exact G2.out.alloc _)
        (fun i hi=>(G3.out i (by rw [←HOL.out] at hi; exact hi)).alloc _) (HX9.out.alloc _) (by rw [←HOL.out]; exact ho) hg
       rw [←HCS.out] at hp
       exact hp
      have R2:Hid (Below w1.heap.size w1 w3):=(HB9.out.alloc hsz9 _).grown hg (by simp; omega) (fun x hx=>(G2.out.lt x hx).1)
      clear ho hg
      go_wp2
      exact ⟨⟨k+1,hlt,by go_num,R1.out,R2.out⟩,by simp [intOf]; omega⟩
     ·have HCS2:Hid (crn d s (P.take (k+1))=crn d s (P.take k)):=by
       have h:=HCS.out
       rw [if_neg hpd,List.append_nil] at h
       exact h
      have R1:Hid (Rws w1.heap.size 22 3 w9 u5 (crn d s (P.take (k+1)))):=by rw [HCS2.out]; exact HF9.out
      have tp:((pk:Int) == (d:Int))=false:=by simp; omega
      clear HCS hpd
      go_wp2
      exact ⟨⟨k+1,hlt,by go_num,R1.out,HB9.out⟩,by simp [intOf]; omega⟩
  ·have HPT:Hid (P.take k=P):=List.take_of_length_le (by rw [←HN.out]; omega)
   have HCM:Hid (Mat w1.heap.size 22 3 wa u5 (crn d s P)):=by
    have h:=HFA.out
    rw [HPT.out] at h
    exact h.mat (Nat.le_refl _)
   have HCL:Hid ((crn d s P).length≤16):=by
    show _≤_
    have:=List.length_filter_le (fun x=>decide ((pickL d (onL d s x)).length=d)) P
    rw [←HN.out] at this
    unfold crn
    omega
   have HSO:Hid (Calls Tryz.prog 30 #[u5] wa fun e w'=>∃x c,e=.returned x∧(Fr wa.heap.size 22 3 w' x c∧SAsc c∧(∀r,r∈c↔r∈crn d s P)∧Below wa.heap.size wa w')):=
    (sortR_any w1.heap.size (crn d s P) u5 wa HCM.out (Nat.le_trans HCL.out (by decide)) (fun r hr=>by rw [(HX.out r (List.mem_filter.1 hr).1).1]; omega)).mono fun e w' ⟨x2,s2,e1,e2,e3,e4,e5⟩=>⟨x2,s2,e1,e2,e3,e4,e5⟩
   clear HCM HCL HPT HFA
   go_wp2_with fail
   refine HSO.out.mono ?_
   rintro e w2 ⟨x2,c,rfl,hx2⟩
   have HX2:Hid (Fr wa.heap.size 22 3 w2 x2 c∧SAsc c∧(∀r,r∈c↔r∈crn d s P)∧Below wa.heap.size wa w2):=hx2
   clear hx2
   go_wp2
   go_ret
   exact ⟨_,c,s,rfl,HX2.out.1.mono HBa.out.size,HX2.out.2.1,HSA.out,HM.out,HX2.out.2.2.1,HBa.out.trans (HX2.out.2.2.2.mono HBa.out.size)⟩
end Go.Proofs.YtkfdpcgmpbopnaaGreatDoor
namespace Go.Proofs.YtkfdpcgmpbopnaaGreatDoor
open Lin
theorem corner_of_max {d:Nat} {P:List (List Int)} (hg:Good d P) {x:List Int} (hx:x∈P) {c:Nat→Int} (hmax:∀y∈P,y≠x→dot d c (V y) < dot d c (V x)) :
  ∀v:Nat→Int,(∀r∈rowsC P [] d P,r.getD d 0=dot d (V r) (V x)→dot d (V r) v=0)→∀i,i < d→v i=0:=by
 refine (corner_iff hg (P':=P) (fun _=>Iff.rfl) hx).1 fun y hy hne=>?_
 refine Classical.byContradiction fun hn=>?_
 have hall:∀r∈rowsC P [] d P,RowOf d P r:=fun r hr=>rowsC_fit hg.box hg.d1 (by have:=hg.d4; omega) (fun _=>Iff.rfl) hr
 have h1:=tight_tell hg (P':=P) (fun _=>Iff.rfl) hx (v:=fun j=>V y j-V x j) (c:=c) (fun r hr he=>by
  rw [dot_sub]
  rcases Int.lt_or_le (dot d (V r) (V y)) (r.getD d 0) with h | h
  ·exact absurd ⟨r,hr,he,by omega⟩ hn
  ·have:=(hall r hr).all y hy
   omega) (fun z hz=>by
   by_cases hzx:z=x
   ·subst hzx; exact Int.le_refl _
   ·exact Int.le_of_lt (hmax z hz hzx))
 rw [dot_sub] at h1
 have:=hmax y hy hne
 omega
theorem argmax {α:Type} (g:α→Int):∀P:List α,P≠[]→∃x∈P,∀y∈P,g y≤g x
 | [],h=>absurd rfl h
 | [a],_=>⟨a,by simp,fun y hy=>by simp at hy; subst hy; exact Int.le_refl _⟩
 | a :: b :: P,_=>by
  obtain ⟨x,hx,h⟩:=argmax g (b :: P) (by simp)
  rcases Int.lt_or_le (g x) (g a) with hlt | hle
  ·exact ⟨a,by simp,fun y hy=>by
    rcases List.mem_cons.1 hy with rfl | hy
    ·exact Int.le_refl _
    ·have:=h y hy; omega⟩
  ·exact ⟨x,List.mem_cons_of_mem _ hx,fun y hy=>by
    rcases List.mem_cons.1 hy with rfl | hy
    ·exact hle
    ·exact h y hy⟩
def wgt:Nat→Int
 | 0=>1
 | 1=>61
 | 2=>3721
 | 3=>226981
 | _=>0
theorem wgt_apart {d:Nat} (h4:d≤4) {z:Nat→Int} (hz:∀i,i < d→-60≤z i∧z i≤60) (h:dot d wgt z=0):∀i,i < d→z i=0:=by
 have cs:d=0∨d=1∨d=2∨d=3∨d=4:=by omega
 rcases cs with rfl | rfl | rfl | rfl | rfl
 ·intro i hi; omega
 ·have h0:=hz 0 (by decide)
  simp only [dot,sumN,wgt] at h
  intro i hi
  obtain rfl:i=0:=by omega
  omega
 ·have h0:=hz 0 (by decide)
  have h1:=hz 1 (by decide)
  simp only [dot,sumN,wgt] at h
  intro i hi
  have:i=0∨i=1:=by omega
  rcases this with rfl | rfl <;> omega
 ·have h0:=hz 0 (by decide)
  have h1:=hz 1 (by decide)
  have h2:=hz 2 (by decide)
  simp only [dot,sumN,wgt] at h
  intro i hi
  have:i=0∨i=1∨i=2:=by omega
  rcases this with rfl | rfl | rfl <;> omega
 ·have h0:=hz 0 (by decide)
  have h1:=hz 1 (by decide)
  have h2:=hz 2 (by decide)
  have h3:=hz 3 (by decide)
  simp only [dot,sumN,wgt] at h
  intro i hi
  have:i=0∨i=1∨i=2∨i=3:=by omega
  rcases this with rfl | rfl | rfl | rfl <;> omega
theorem wgt_small {d:Nat} (h4:d≤4) {z:Nat→Int} (hz:∀i,i < d→-60≤z i∧z i≤60) : -20000000 < dot d wgt z∧dot d wgt z < 20000000:=by
 have cs:d=0∨d=1∨d=2∨d=3∨d=4:=by omega
 rcases cs with rfl | rfl | rfl | rfl | rfl
 ·simp [dot,sumN]
 ·have h0:=hz 0 (by decide)
  simp only [dot,sumN,wgt]
  omega
 ·have h0:=hz 0 (by decide)
  have h1:=hz 1 (by decide)
  simp only [dot,sumN,wgt]
  omega
 ·have h0:=hz 0 (by decide)
  have h1:=hz 1 (by decide)
  have h2:=hz 2 (by decide)
  simp only [dot,sumN,wgt]
  omega
 ·have h0:=hz 0 (by decide)
  have h1:=hz 1 (by decide)
  have h2:=hz 2 (by decide)
  have h3:=hz 3 (by decide)
  simp only [dot,sumN,wgt]
  omega
theorem mem_crn {d:Nat} {P s:List (List Int)} (hg:Good d P) (hs:∀r,r∈s↔r∈rowsD P d) (hcr:∀x∈P,((pickL d (onL d s x)).length=d↔∀v:Nat→Int,(∀r∈rowsC P [] d P,r.getD d 0=dot d (V r) (V x)→dot d (V r) v=0)→∀i,i < d→v i=0))
  {x:List Int} (hx:x∈P) {c:Nat→Int} (hmax:∀y∈P,y≠x→dot d c (V y) < dot d c (V x)):x∈crn d s P:=by
 have _:=hs
 unfold crn
 exact List.mem_filter.2 ⟨hx,decide_eq_true ((hcr x hx).2 (corner_of_max hg hx hmax))⟩
theorem corner_max {d:Nat} {P s:List (List Int)} (hg:Good d P) (hs:∀r,r∈s↔r∈rowsD P d) (hcr:∀x∈P,((pickL d (onL d s x)).length=d↔∀v:Nat→Int,(∀r∈rowsC P [] d P,r.getD d 0=dot d (V r) (V x)→dot d (V r) v=0)→∀i,i < d→v i=0)) (c:Nat→Int) :
  ∃x∈crn d s P,∀y∈P,dot d c (V y)≤dot d c (V x):=by
 have hd4:=hg.d4
 have hne:P≠[]:=by
  intro h
  have:=hg.n2
  rw [h] at this
  simp at this
 obtain ⟨x,hx,hmx⟩:=argmax (fun y:List Int=>dot d (fun k=>20000000*c k+1*wgt k) (V y)) P hne
 have hdf:∀y∈P,∀i,i < d→-60≤V y i-V x i∧V y i-V x i≤60:=fun y hy i hi=>by
  have h1:=(hg.box y hy).2 (V y i) (getD_mem (by rw [(hg.box y hy).1]; exact hi))
  have h2:=(hg.box x hx).2 (V x i) (getD_mem (by rw [(hg.box x hx).1]; exact hi))
  omega
 have key:∀y∈P,20000000*(dot d c (V y)-dot d c (V x))+dot d wgt (fun j=>V y j-V x j)≤0:=fun y hy=>by
  have h:=hmx y hy
  simp only [dot_lc] at h
  rw [dot_sub]
  omega
 have hle:∀y∈P,dot d c (V y)≤dot d c (V x):=fun y hy=>by
  have h1:=key y hy
  have h2:=wgt_small hd4 (hdf y hy)
  omega
 refine ⟨x,mem_crn hg hs hcr hx (c:=fun k=>20000000*c k+1*wgt k) (fun y hy hyx=>?_),hle⟩
 have h1:=hmx y hy
 rcases Int.lt_or_le (dot d (fun k=>20000000*c k+1*wgt k) (V y)) (dot d (fun k=>20000000*c k+1*wgt k) (V x)) with h | h
 ·exact h
 ·exfalso
  refine hyx (eq_of_all (by rw [(hg.box y hy).1,(hg.box x hx).1]) fun i hi=>?_)
  rw [(hg.box y hy).1] at hi
  simp only [dot_lc] at h h1
  have h3:=hle y hy
  have h4:=wgt_small hd4 (hdf y hy)
  have h5:dot d wgt (fun j=>V y j-V x j)=0:=by
   rw [dot_sub] at h4 ⊢
   omega
  have h6:=wgt_apart hd4 (hdf y hy) h5 i hi
  show V y i=V x i
  omega
theorem corners_good {d:Nat} {P s C:List (List Int)} (hg:Good d P) (hs:∀r,r∈s↔r∈rowsD P d) (hcr:∀x∈P,((pickL d (onL d s x)).length=d↔∀v:Nat→Int,(∀r∈rowsC P [] d P,r.getD d 0=dot d (V r) (V x)→dot d (V r) v=0)→∀i,i < d→v i=0))
  (hC:∀y,y∈C↔y∈crn d s P) (hCn:C.Nodup):Good d C:=by
 have hsub:∀y∈C,y∈P:=fun y hy=>(List.mem_filter.1 ((hC y).1 hy)).1
 have hbox:Box d 30 C:=fun r hr=>hg.box r (hsub r hr)
 have hfull:(pickL d (diffL C)).length=d:=full_of_span (fun y hy=>(hbox y hy).1) fun c hc=>by
  obtain ⟨x1,h1,m1⟩:=corner_max hg hs hcr c
  obtain ⟨x2,h2,m2⟩:=corner_max hg hs hcr (fun k=>- c k)
  have he:=hc x1 ((hC x1).2 h1) x2 ((hC x2).2 h2)
  refine good_span hg c fun y hy z hz=>?_
  have a1:=m1 y hy
  have a2:=m1 z hz
  have a3:=m2 y hy
  have a4:=m2 z hz
  rw [dot_neg,dot_neg] at a3 a4
  omega
 have hlen:2≤C.length:=by
  have h1:=pickL_len d (diffL C)
  have h2:=hg.d1
  rw [diffL_length] at h1
  omega
 refine ⟨hg.d1,hg.d4,hlen,?_,hbox,hfull⟩
 have:=nodup_lenL C P hCn hsub
 have:=hg.n24
 omega
theorem row_some {d:Nat} {C:List (List Int)} (hg:Good d C):∃r,r∈rowsC C [] d C:=by
 refine Classical.byContradiction fun hn=>?_
 have hne:C≠[]:=by
  intro h
  have:=hg.n2
  rw [h] at this
  simp at this
 have hd1:=hg.d1
 obtain ⟨x,hx,hmx⟩:=argmax (fun y:List Int=>dot d (unit 0) (V y)) C hne
 have h:=rows_tell hg (P':=C) (fun _=>Iff.rfl) (q:=[1000]) (fun r hr=>absurd ⟨r,hr⟩ hn) hx (c:=unit 0) hmx
 rw [dot_unit (by omega),dot_unit (by omega)] at h
 have h2:=(hg.box x hx).2 (V x 0) (getD_mem (by rw [(hg.box x hx).1]; omega))
 simp [V] at h h2
 omega
theorem mem_head_drop {t:List (List Int)} {y:List Int} (hy:y∈t):y=t.getD 0 []∨y∈t.drop 1:=by
 cases t with
 | nil=>simp at hy
 | cons a t=>
  rcases List.mem_cons.1 hy with h | h
  ·exact Or.inl h
  ·exact Or.inr h
theorem side_rank {d:Nat} {C:List (List Int)} (hg:Good d C) {r:List Int} (hr:r∈rowsC C [] d C) {p:List (List Int)} (hp:∀y,y∈p↔y∈C∧r.getD d 0=dot d (V r) (V y)):(pickL d (diffL p)).length+1=d:=by
 obtain ⟨t,hts,htl,hrt⟩:=mem_rowsC.1 hr
 obtain ⟨σ,hσ,hnb,hre⟩:=rowT_form htl hrt
 have hnl:(pickL d (diffL t)).length+1=d:=of_decide_eq_true hnb
 obtain ⟨hn0,hn1,hn2⟩:=norm_spec hnl
 have hal:=norm_len hnb
 have hσ0:σ≠0:=by rcases hσ with rfl | rfl <;> decide
 have hVr:∀i,i < d→V r i=σ*V (normL d (diffL t)) i:=fun i hi=>by
  rw [hre]
  have h:=V_map (normL d (diffL t) ++ [dotL (normL d (diffL t)) (t.getD 0 [])]) σ i
  rw [h,(row_app hal).2.2.2 i hi]
 have hlast:r.getD d 0=σ*dotL (normL d (diffL t)) (t.getD 0 []):=by
  rw [hre]
  have h:=V_map (normL d (diffL t) ++ [dotL (normL d (diffL t)) (t.getD 0 [])]) σ d
  simp only [V] at h
  rw [h,(row_app hal).2.2.1]
 have hdr:∀x:Nat→Int,dot d (V r) x=σ*dot d (V (normL d (diffL t))) x:=fun x=>by
  unfold dot
  rw [←sumN_mul]
  exact sumN_congr fun i hi=>by rw [hVr i hi,Int.mul_assoc]
 have hd1:=hg.d1
 have ht0:t.getD 0 []∈t:=by simp [show 0 < t.length by omega]
 have hbox:∀y∈C,y.length=d:=fun y hy=>(hg.box y hy).1
 have hlast2:r.getD d 0=dot d (V r) (V (t.getD 0 [])):=by rw [hlast,hdr,dotL_eq hal]
 have hks:∀y∈t,dot d (V (normL d (diffL t))) (V y)=dot d (V (normL d (diffL t))) (V (t.getD 0 [])):=fun y hy=>by
  rcases mem_head_drop hy with e | hy'
  ·rw [←e]
  ·have h1:=hn1 (subL y (t.getD 0 [])) (List.mem_map.2 ⟨y,hy',rfl⟩)
   rw [dot_comm,dot_subL _ (hbox y (hts.subset hy))] at h1
   omega
 have htp:∀y∈t,y∈p:=fun y hy=>by
  refine (hp y).2 ⟨hts.subset hy,?_⟩
  rw [hlast2,hdr,hdr,hks y hy]
 have hpb:∀y∈p,y.length=d:=fun y hy=>hbox y ((hp y).1 hy).1
 have hp0:p.getD 0 []∈p:=by
  have:=List.length_pos_of_mem (htp _ ht0)
  simp [this]
 have hcount:=greedy_count (pick_greedy d (diffL p)) (a:=V (normL d (diffL t))) hn0 (fun q hq=>by
  obtain ⟨l,hl,rfl⟩:=mem_fm.1 hq
  obtain ⟨y,hy,rfl⟩:=List.mem_map.1 hl
  have hyp:=List.mem_of_mem_drop hy
  rw [dot_comm,dot_subL _ (hpb y hyp)]
  have h1:=((hp y).1 hyp).2
  have h2:=((hp _).1 hp0).2
  rw [h1,hdr,hdr] at h2
  have:=Int.eq_of_mul_eq_mul_left hσ0 h2
  omega) (fun u hu=>hn2 u fun q hq=>by
  have hcon:∀y∈p,dot d u (V y)=dot d u (V (p.getD 0 [])):=fun y hy=>by
   rcases mem_head_drop hy with e | hy'
   ·rw [←e]
   ·have h1:=hu (V (subL y (p.getD 0 []))) (mem_fm.2 ⟨_,List.mem_map.2 ⟨y,hy',rfl⟩,rfl⟩)
    rw [dot_comm,dot_subL _ (hpb y hy)] at h1
    omega
  obtain ⟨y,hy,rfl⟩:=List.mem_map.1 hq
  have hyt:=List.mem_of_mem_drop hy
  rw [dot_comm,dot_subL _ (hpb y (htp y hyt)),hcon y (htp y hyt),hcon _ (htp _ ht0)]
  omega)
 rw [fm_length] at hcount
 exact hcount
end Go.Proofs.YtkfdpcgmpbopnaaGreatDoor
namespace Go.Proofs.YtkfdpcgmpbopnaaGreatDoor
open Lin
theorem row_one {d:Nat} {P:List (List Int)} (hbox:∀y∈P,y.length=d) (hd1:1≤d) {r:List Int} (hr:r∈rowsC P [] d P) :
  ∃t:List (List Int),(∀y∈t,y∈P∧r.getD d 0=dot d (V r) (V y))∧t.getD 0 []∈t∧(∃i,i < d∧V r i≠0)∧∀u:Nat→Int,(∀y∈t,dot d u (V y)=dot d u (V (t.getD 0 [])))→Par d u (V r):=by
 obtain ⟨t,hts,htl,hrt⟩:=mem_rowsC.1 hr
 obtain ⟨σ,hσ,hnb,hre⟩:=rowT_form htl hrt
 have hal:=norm_len hnb
 obtain ⟨⟨p,hp,hne⟩,hn1,hn2⟩:=norm_spec (of_decide_eq_true hnb)
 have hσ0:σ≠0:=by rcases hσ with rfl | rfl <;> decide
 have ht0:t.getD 0 []∈t:=by simp [show 0 < t.length by omega]
 have hVr:∀i,i < d→V r i=σ*V (normL d (diffL t)) i:=fun i hi=>by
  rw [hre]
  have h:=V_map (normL d (diffL t) ++ [dotL (normL d (diffL t)) (t.getD 0 [])]) σ i
  rw [h,(row_app hal).2.2.2 i hi]
 have hlast:r.getD d 0=σ*dotL (normL d (diffL t)) (t.getD 0 []):=by
  rw [hre]
  have h:=V_map (normL d (diffL t) ++ [dotL (normL d (diffL t)) (t.getD 0 [])]) σ d
  simp only [V] at h
  rw [h,(row_app hal).2.2.1]
 have hdr:∀x:Nat→Int,dot d (V r) x=σ*dot d (V (normL d (diffL t))) x:=fun x=>by
  unfold dot
  rw [←sumN_mul]
  exact sumN_congr fun i hi=>by rw [hVr i hi,Int.mul_assoc]
 have hks:∀y∈t,dot d (V (normL d (diffL t))) (V y)=dot d (V (normL d (diffL t))) (V (t.getD 0 [])):=fun y hy=>by
  rcases mem_head_drop hy with e | hy'
  ·rw [←e]
  ·have h1:=hn1 (subL y (t.getD 0 [])) (List.mem_map.2 ⟨y,hy',rfl⟩)
   rw [dot_comm,dot_subL _ (hbox y (hts.subset hy))] at h1
   omega
 refine ⟨t,fun y hy=>⟨hts.subset hy,?_⟩,ht0,⟨p,hp,by rw [hVr p hp]; exact Int.mul_ne_zero hσ0 hne⟩,fun u hu=>?_⟩
 ·rw [hlast,hdr,dotL_eq hal,hks y hy]
 ·have h1:Par d u (V (normL d (diffL t))):=hn2 u fun q hq=>by
   obtain ⟨y,hy,rfl⟩:=List.mem_map.1 hq
   have hyt:=List.mem_of_mem_drop hy
   rw [dot_comm,dot_subL _ (hbox y (hts.subset hyt)),hu y hyt]
   omega
  intro i j hi hj
  have:=h1 i j hi hj
  rw [hVr i hi,hVr j hj]
  grind
theorem row_land {d:Nat} {P0 P:List (List Int)} (hbox:Box d 30 P) (hspan:∀c:Nat→Int,(∀y∈P,∀z∈P,dot d c (V y)=dot d c (V z))→∀i,i < d→c i=0) {r:List Int} (hr:r∈rowsC P0 [] d P0) {x:List Int} (hx:x∈P) (hb:r.getD d 0=dot d (V r) (V x))
  (hv:∀y∈P,dot d (V r) (V y)≤dot d (V r) (V x)) (hone:∀u:Nat→Int,(∀y∈P,dot d (V r) (V y)=dot d (V r) (V x)→dot d u (V y)=dot d u (V x))→Par d u (V r)):r∈rowsC P [] d P:=by
 obtain ⟨t,hts,htl,hrt⟩:=mem_rowsC.1 hr
 obtain ⟨σ,hσ,hnb,hre⟩:=rowT_form htl hrt
 have hl:(pickL d (diffL t)).length+1=d:=of_decide_eq_true hnb
 have hal:=norm_len hnb
 obtain ⟨⟨p,hp,hne⟩,_,_⟩:=norm_spec hl
 obtain ⟨k1,hk1,hmu1⟩:=norm_par hl
 have hn1:normL d (diffL t)=upr (low (muL d (pickL d (diffL t)))):=if_pos hl
 have hlast:∀(a:List Int) (b τ:Int),a.length=d→V ((a ++ [b]).map (τ * ·)) d=τ*b∧∀i,i < d→V ((a ++ [b]).map (τ * ·)) i=τ*V a i:=fun a b τ h=>by
  obtain ⟨_,_,e3,e4⟩:=row_app (b:=b) h
  refine ⟨?_,fun i hi=>by rw [V_map,e4 i hi]⟩
  rw [V_map]
  show τ*(a ++ [b]).getD d 0=_
  rw [e3]
 have hV:∀i,i < d→V r i=σ*V (normL d (diffL t)) i:=fun i hi=>by rw [hre]; exact (hlast _ _ _ hal).2 i hi
 have hσ0:σ≠0:=by rcases hσ with h | h <;> omega
 obtain ⟨r2,hr2,hb2,s,q,hs,hq,hsq⟩:=side_some (c:=V r) hbox hspan hx ⟨p,hp,by rw [hV p hp]; exact Int.mul_ne_zero hσ0 hne⟩ hv hone
 obtain ⟨t2,hts2,htl2,hrt2⟩:=mem_rowsC.1 hr2
 obtain ⟨τ,hτ,hnb2,hre2⟩:=rowT_form htl2 hrt2
 have hτ0:τ≠0:=by rcases hτ with h | h <;> omega
 have hl2:(pickL d (diffL t2)).length+1=d:=of_decide_eq_true hnb2
 have hal2:=norm_len hnb2
 obtain ⟨k2,hk2,hmu2⟩:=norm_par hl2
 have hn2:normL d (diffL t2)=upr (low (muL d (pickL d (diffL t2)))):=if_pos hl2
 have hV2:∀i,i < d→V r2 i=τ*V (normL d (diffL t2)) i:=fun i hi=>by rw [hre2]; exact (hlast _ _ _ hal2).2 i hi
 have haa:normL d (diffL t)=normL d (diffL t2):=by
  rw [hn1,hn2]
  refine norm_eq (a:=s*σ*k2) (b:=q*τ*k1) (Int.mul_ne_zero (Int.mul_ne_zero (by omega) hσ0) hk2) (Int.mul_ne_zero (Int.mul_ne_zero (by omega) hτ0) hk1) ?_
  unfold muL
  rw [List.map_map,List.map_map]
  refine List.map_congr_left fun i hi=>?_
  have hi':i < d:=List.mem_range.1 hi
  show s*σ*k2*mu (fm (pickL d (diffL t))) i=q*τ*k1*mu (fm (pickL d (diffL t2))) i
  have h:=hsq i hi'
  rw [hV i hi',hV2 i hi'] at h
  rw [hmu1 i hi',hmu2 i hi']
  grind
 have hst:σ=τ:=by
  have h:=hsq p hp
  rw [hV p hp,hV2 p hp,←haa] at h
  have h':s*σ*V (normL d (diffL t)) p=q*τ*V (normL d (diffL t)) p:=by grind
  have h2:=Int.eq_of_mul_eq_mul_right hne h'
  rcases hσ with rfl | rfl <;> rcases hτ with rfl | rfl <;> omega
 have hlst:σ*dotL (normL d (diffL t)) (t.getD 0 [])=τ*dotL (normL d (diffL t2)) (t2.getD 0 []):=by
  have e1:=(hlast (normL d (diffL t)) (dotL (normL d (diffL t)) (t.getD 0 [])) σ hal).1
  have e2:=(hlast (normL d (diffL t2)) (dotL (normL d (diffL t2)) (t2.getD 0 [])) τ hal2).1
  rw [←hre] at e1
  rw [←hre2] at e2
  rw [←e1,←e2]
  show r.getD d 0=r2.getD d 0
  rw [hb,hb2]
  unfold dot
  exact sumN_congr fun i hi=>by rw [hV i hi,hV2 i hi,haa,hst]
 have:r=r2:=by
  rw [hre,hre2,List.map_append,List.map_append,←haa,←hst]
  rw [←haa,←hst] at hlst
  simp only [List.map_cons,List.map_nil]
  rw [hlst]
 rw [this]
 exact hr2
theorem rows_corners {d:Nat} {P s C:List (List Int)} (hg:Good d P) (hs:∀r,r∈s↔r∈rowsD P d) (hcr:∀x∈P,((pickL d (onL d s x)).length=d↔∀v:Nat→Int,(∀r∈rowsC P [] d P,r.getD d 0=dot d (V r) (V x)→dot d (V r) v=0)→∀i,i < d→v i=0))
  (hC:∀y,y∈C↔y∈crn d s P) (hCn:C.Nodup) (r:List Int):r∈rowsC C [] d C↔r∈rowsC P [] d P:=by
 have hgC:=corners_good hg hs hcr hC hCn
 have hd5:d≤5:=by have:=hg.d4; omega
 have hsub:∀y∈C,y∈P:=fun y hy=>(List.mem_filter.1 ((hC y).1 hy)).1
 constructor
 ·intro hr
  have hrow:=rowsC_fit hgC.box hgC.d1 hd5 (fun _=>Iff.rfl) hr
  obtain ⟨t,ht1,ht0,_,ht2⟩:=row_one (fun y hy=>(hgC.box y hy).1) hg.d1 hr
  have hx:=ht1 _ ht0
  refine row_land hg.box (good_span hg) hr (hsub _ hx.1) hx.2 (fun y hy=>?_) (fun u hu=>ht2 u fun y hy=>?_)
  ·obtain ⟨x1,h1,m1⟩:=corner_max hg hs hcr (V r)
   have a1:=m1 y hy
   have a2:=hrow.all x1 ((hC x1).2 h1)
   rw [←hx.2]
   omega
  ·exact hu y (hsub y (ht1 y hy).1) (by rw [←(ht1 y hy).2,←hx.2])
 ·intro hr
  have hrow:=rowsC_fit hg.box hg.d1 hd5 (fun _=>Iff.rfl) hr
  obtain ⟨t,ht1,ht0,_,ht2⟩:=row_one (fun y hy=>(hg.box y hy).1) hg.d1 hr
  obtain ⟨x1,h1,m1⟩:=corner_max hg hs hcr (V r)
  have hx1P:=(List.mem_filter.1 h1).1
  have hx1:r.getD d 0=dot d (V r) (V x1):=by
   have a1:=m1 _ (ht1 _ ht0).1
   have a2:=hrow.all x1 hx1P
   have a3:=(ht1 _ ht0).2
   omega
  refine row_land hgC.box (good_span hgC) hr ((hC x1).2 h1) hx1 (fun y hy=>?_) (fun u hu=>ht2 u ?_)
  ·rw [←hx1]
   exact hrow.all y (hsub y hy)
  ·-- what is one and the same at all corners of a side is so at all its points
   have hne:P≠[]:=by
    intro h
    have:=hg.n2
    rw [h] at this
    simp at this
   obtain ⟨y0,hy0,hM⟩:=argmax (fun y:List Int=>((dot d u (V y)).natAbs:Int)) P hne
   obtain ⟨M,hMe⟩:∃M:Int,M=((dot d u (V y0)).natAbs:Int):=⟨_,rfl⟩
   have hbd:∀y∈P,-M≤dot d u (V y)∧dot d u (V y)≤M:=fun y hy=>by
    have:=hM y hy
    omega
   have half:∀e:Int,e=1∨e=-1→∀y∈P,r.getD d 0=dot d (V r) (V y)→e*dot d u (V y)≤e*dot d u (V x1):=fun e he y hy hty=>by
    obtain ⟨z,hz,mz⟩:=corner_max hg hs hcr (fun k=>(2*M+1)*V r k+e*u k)
    have hzP:=(List.mem_filter.1 hz).1
    have a1:=mz y hy
    rw [dot_lc,dot_lc] at a1
    have b1:=hbd y hy
    have b2:=hbd z hzP
    have a2:=hrow.all z hzP
    have hzt:r.getD d 0=dot d (V r) (V z):=by
     rcases Int.lt_or_le (dot d (V r) (V z)) (r.getD d 0) with hlt | hge
     ·exfalso
      rw [←hty] at a1
      have hle:dot d (V r) (V z)≤r.getD d 0-1:=by omega
      have hM0:0≤2*M+1:=by omega
      have h3:=Int.mul_le_mul_of_nonneg_left hle hM0
      have h4:(2*M+1)*(r.getD d 0-1)=(2*M+1)*r.getD d 0-(2*M+1):=by grind
      generalize (2*M+1)*r.getD d 0=K at *
      generalize (2*M+1)*dot d (V r) (V z)=K2 at *
      rcases he with rfl | rfl <;> omega
     ·omega
    have hzx:=hu z ((hC z).2 hz) (by rw [←hzt,←hx1])
    rw [←hty,←hzt,hzx] at a1
    omega
   intro y hy
   have q1:=half 1 (Or.inl rfl) y (ht1 y hy).1 (ht1 y hy).2
   have q2:=half (-1) (Or.inr rfl) y (ht1 y hy).1 (ht1 y hy).2
   have q3:=half 1 (Or.inl rfl) _ (ht1 _ ht0).1 (ht1 _ ht0).2
   have q4:=half (-1) (Or.inr rfl) _ (ht1 _ ht0).1 (ht1 _ ht0).2
   omega
end Go.Proofs.YtkfdpcgmpbopnaaGreatDoor
