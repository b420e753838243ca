import Derived.Test.YtcoeneldaohpnaaGreatHm7
import Derived.Test.YtcoeneldaohpnaaGreatMgAP
import Derived.Test.YtcoeneldaohpnaaGreatRefs7
import Derived.Test.YtcoeneldaohpnaaGreatMgAN
namespace Go.Proofs.YtcoeneldaohpnaaGreat
open Go.RowKit
attribute [local go_sem ↓] Go.wp_at_zero Go.wp_at_succ
def rowsTo (P:List (List Int)) (C:List (List Int)) (i:Nat):List (List Int):=(C.take i).flatMap fun c=>(rowT (pks P [] c) P).toList
theorem rowsTo_succ (P C:List (List Int)) (i:Nat) (h:i < C.length):rowsTo P C (i+1)=rowsTo P C i ++ (rowT (pks P [] (C.getD i [])) P).toList:=by
 unfold rowsTo
 have e:C.getD i []=C[i]:=by simp [h]
 rw [List.take_succ_eq_append_getElem h,List.flatMap_append,e]
 simp
theorem rowsTo_len (P C:List (List Int)):∀i,(rowsTo P C i).length≤i:=by
 intro i
 induction i with
 | zero=>simp [rowsTo]
 | succ i ih=>
  by_cases h:i < C.length
  ·rw [rowsTo_succ P C i h,List.length_append]
   have:(rowT (pks P [] (C.getD i [])) P).toList.length≤1:=by cases rowT (pks P [] (C.getD i [])) P <;> simp
   omega
  ·have:rowsTo P C (i+1)=rowsTo P C i:=by unfold rowsTo; rw [List.take_of_length_le (by omega),List.take_of_length_le (by omega)]
   rw [this]; omega
theorem pks_in {P:List (List Int)} {c:List Int} (h:∀q∈c,0≤q∧q < (P.length:Int)):∀x∈pks P [] c,x∈P:=by
 intro x hx
 obtain ⟨q,hq,rfl⟩:=List.mem_map.1 hx
 obtain ⟨h1,h2⟩:=h q hq
 simp [show q.toNat < P.length by omega]
theorem rowsD_facts {d:Nat} {P:List (List Int)} (hP:Box d 100 P) (h1:1≤d) (h5:d≤5) (r:List Int) (hr:r∈rowsD P d):RowOf d P r:=by
 unfold rowsD at hr
 obtain ⟨c,hc,hr⟩:=List.mem_flatMap.1 hr
 have hl:=chosen_row d P.length c hc
 refine rowT_facts hP h1 h5 (by rw [←hl]; simp [pks]) (pks_in fun q hq=>?_) (Option.mem_toList.1 hr)
 obtain ⟨i,hi,rfl⟩:=List.mem_iff_getElem.1 hq
 have:=(chosen_mem d P.length c hc).1 i (by omega)
 simpa [hi] using this
theorem row_end {W5:World} {l:List Int} {z:Int} {d:Nat} (hl:l.length=d) (hd:d≤10) (w6:World) (cv:Value) (nn:Nat) (hc:w6.ownsRow W5.heap.size 3 1 cv d (ints l)) (hb:Below W5.heap.size W5 w6)
  (ops:Array Oper) (o:Oper) (a:Act) (K:Act→World→Prop) (Q:Exit→Act→World→Prop) (E:Prop) (hgd:o.guard=none) (ho:o.op=.call { callee:=.builtin .append,args:=#[.tmp 60,.tmp 66],argTypes:=#[26,26] })
  (h1:a.eval (.tmp 60)=cv) (h2:a.eval (.tmp 66)=.slice (some ⟨(w6.drewN nn).heap.size,0,none⟩) 1 1)
  (h:∀v' w3,w3.ownsRow W5.heap.size 3 1 v' (d+1) (ints (l ++ [z]))∧Below W5.heap.size W5 w3→K (a.put o.dst v') w3) :
  if Region.wanted o (yielded ops a.tmps)=true then Oper.wp Tryz.prog o a ((w6.drewN nn).alloc (.cells #[.int .i64 z] 3)) K Q else E:=by
 obtain ⟨i3,hi3,hz30,hz31,hz32⟩:=info_parts Tryz.info3
 have hsz:W5.heap.size≤(w6.drewN nn).heap.size:=hb.size
 have hc':(w6.drewN nn).ownsRow W5.heap.size 3 1 cv d (ints l):=hc
 refine step_append_own hgd (.tmp 60) (.tmp 66) 26 ho W5.heap.size 3 i3 (.int .i64 0) 1 8 Tryz.underlying26 hi3 hz30 hz31 hz32 rfl (by decide) cv d (ints l) h1 (hc'.alloc _) ⟨(w6.drewN nn).heap.size,0,none⟩ 1 1 [.int .i64 z] h2 rfl (one_new _ _ _) (one_int _) (by unfold maxLen; omega) (by omega) (by have:=hb.size; simp; omega) ?_
 intro v' w3 ho3 hg3
 subst hl
 exact h v' w3 (owns_push (z:=z) (N:=l.length+1) hsz (l:=l) hc' (hb.trans ⟨rfl,rfl,rfl,Nat.le_refl _,fun _ _=>rfl⟩) ho3 hg3 rfl)
set_option maxRecDepth 100000 in
set_option maxHeartbeats 400000 in
theorem rowsOf_any (B d:Nat) (P:List (List Int)) (v:Value) (w:World) (hv:Mat B 26 3 w v P) (hd1:1≤d) (hd:d≤4) (hP1:1≤P.length) (hP:P.length≤64) (hx:Box d 100 P) :
  Calls Tryz.prog 16 #[v] w fun e w'=>∃x s,e=.returned x∧Fr w.heap.size 26 3 w' x s∧SAsc s∧(∀r,r∈s↔r∈rowsD P d)∧Below w.heap.size w w':=by
 obtain ⟨i0,hi,hz0,hz1,hz2⟩:=info_parts Tryz.info26
 obtain ⟨i3,hi3,hz30,hz31,hz32⟩:=info_parts Tryz.info3
 obtain ⟨b,o,cap,r0,hvv,hlc,hcc,hr0⟩:=mat_cell hv (k:=0) (by omega)
 subst hvv
 have HV:Hid (Mat B 26 3 w (.slice (some ⟨b,o,none⟩) P.length cap) P):=hv
 have HX:Hid (Box d 100 P):=hx
 have hm0:P.getD 0 []∈P:=by simp [show 0 < P.length by omega]
 obtain ⟨ro,rc,hrv,hrl,_⟩:=sl_open hr0
 rw [(hx _ hm0).1] at hrv hrl
 subst hrv
 clear hv hx hr0 hm0 hrl
 obtain ⟨n,hn⟩:∃n,n=P.length:=⟨_,rfl⟩
 have HN:Hid (n=P.length):=hn
 rw [←hn] at HV hP1 hP hlc ⊢
 have hcc0:w.cell? ⟨b,o,none⟩=some (.slice ro d rc):=hcc
 clear hcc
 clear hn
 have h0I:(0:Int) < (n:Int):=by omega
 have h0N:0 < n:=by omega
 go_enter Tryz.func16,Tryz.ntmps16
 go_wp2_with fail
 refine (chosen_any d (by omega) n w (by omega)).mono ?_
 rintro e w1 ⟨cv,rfl,hcf,hb1⟩
 have HCF:Hid (Fr w.heap.size 26 3 w1 cv (chosenL d n)):=hcf
 have HB1:Hid (Below w.heap.size w w1):=hb1
 have hsz1:w.heap.size≤w1.heap.size:=hb1.size
 obtain ⟨co,cc,hcv,hcc1,hcc2⟩:=fr_open hcf
 subst hcv
 have HCL:Hid ((chosenL d n).length≤16777216):=Nat.le_trans (chosen_len d n (by omega)) (Nat.le_trans (Nat.pow_le_pow_right (by decide) hd) (by decide))
 have HCR:Hid (∀c∈chosenL d n,c.length=d∧∀i,i < d→0≤c.getD i 0∧c.getD i 0 < (n:Int)):=fun c h=>⟨chosen_row d n c h,(chosen_mem d n c h).1⟩
 clear hcf hb1
 obtain ⟨C,hC⟩:∃C,C=chosenL d n:=⟨_,rfl⟩
 have HCC:Hid (C=chosenL d n):=hC
 rw [←hC] at HCF HCL HCR hcc1 ⊢
 clear hC
 go_wp2
 go_loopw [5,6] (fun x i wr=>∃k:Nat,k≤C.length∧i=.int .i64 k∧Fr w1.heap.size 26 3 wr x (rowsTo P C k)∧Below w1.heap.size w1 wr) (fun _ i _=>C.length-(intOf i).toNat)
 case atStart=>exact ⟨0,Nat.zero_le _,rfl,Fr.nil _ _ _ _,Below.refl _ _⟩
 case round=>
  obtain ⟨k,hk,rfl,hfr,hbel⟩:=hrel
  rename World=>wa
  have HF:Hid (Fr w1.heap.size 26 3 wa u5 (rowsTo P C k)):=hfr
  have HB:Hid (Below w1.heap.size w1 wa):=hbel
  have HBa:Hid (Below w.heap.size w wa):=HB1.out.trans (hbel.mono hsz1)
  have hsza:w1.heap.size≤wa.heap.size:=hbel.size
  clear hfr hbel
  by_cases hlt:k < C.length
  ·obtain ⟨b2,o2,cp2,r1,hs,hc1,hcc1a,hr1⟩:=mat_cell (HCF.out.rws.mat (Nat.le_refl _)) hlt
   simp only [Value.slice.injEq,true_and] at hs
   obtain ⟨rfl,rfl⟩:=hs
   have hmem:C.getD k []∈C:=by simp [hlt]
   obtain ⟨hcl,hcq⟩:=HCR.out _ hmem
   obtain ⟨so,sc,hsv,_,_⟩:=sl_open hr1
   rw [hcl] at hsv
   subst hsv
   have HRS:Hid (rowsTo P C (k+1)=rowsTo P C k ++ (rowT (pks P [] (C.getD k [])) P).toList):=rowsTo_succ P C k hlt
   generalize C.getD k []=c at *
   have HCK:Hid (∀W,Below w1.heap.size w1 W→W.cell? ⟨b2,o2+k,none⟩=some (.slice so d sc)):=fun W h=>(h.cell (lt_of_cell hcc1a)).trans hcc1a
   have HSC:Hid (∀W,Below w1.heap.size w1 W→Sl w.heap.size 3 W (.slice so d sc) (ints c)):=fun W h=>hr1.below h (Nat.le_refl _)
   have HCQ:Hid (∀i,i < d→0≤c.getD i 0∧c.getD i 0 < (n:Int)):=hcq
   have HCD:Hid (c.length=d):=hcl
   clear hr1 hcc1a hcq hcl hmem
   have hkI:(k:Int) < (C.length:Int):=by omega
   have hkI0:(0:Int)≤(k:Int):=by omega
   go_wp2
   go_loopw [7,8] (fun x i wq=>∃j:Nat,j≤d∧i=.int .i64 j∧Rws wa.heap.size 26 3 wq x (pks P [] (c.take j))∧Below wa.heap.size wa wq) (fun _ i _=>d-(intOf i).toNat)
   case atStart=>exact ⟨0,Nat.zero_le _,rfl,Rws.nil _ _ _ _,Below.refl _ _⟩
   case round=>
    obtain ⟨j,hj,rfl,hfr,hbel⟩:=hrel
    have HFS:Hid (Rws wa.heap.size 26 3 wr u7 (pks P [] (c.take j))):=hfr
    have HBS:Hid (Below wa.heap.size wa wr):=hbel
    have HB1r:Hid (Below w1.heap.size w1 wr):=HB.out.trans (hbel.mono hsza)
    have HBr:Hid (Below w.heap.size w wr):=HBa.out.trans (hbel.mono HBa.out.size)
    clear hfr hbel
    by_cases hjl:j < d
    ·have HSN:Hid (pks P [] (c.take (j+1))=pks P [] (c.take j) ++ [P.getD (c.getD j 0).toNat []]):=pks_snocP P c j (by rw [HCD.out]; exact hjl)
     have HLN:Hid ((pks P [] (c.take j)).length=j):=by show _=_; have:=HCD.out; simp [pks]; omega
     obtain ⟨b3,o3,cp3,hs3,hc3,hcc3⟩:=sl_cell (HSC.out wr HB1r.out) (k:=j) (by rw [HCD.out]; exact hjl)
     simp only [Value.slice.injEq] at hs3
     obtain ⟨rfl,hxx,rfl⟩:=hs3
     clear hxx
     have hccK:=HCK.out wr HB1r.out
     obtain ⟨hx0,hx1⟩:=HCQ.out j hjl
     obtain ⟨q,hq⟩:∃q:Nat,c.getD j 0=(q:Int):=⟨(c.getD j 0).toNat,by omega⟩
     rw [hq] at hcc3 hx0 hx1 HSN
     rw [show ((q:Int)).toNat=q by omega] at HSN
     clear hq
     have hqP:q < P.length:=by rw [←HN.out]; omega
     have hqn:q < n:=by omega
     obtain ⟨b4,o4,cp4,r2,hs4,_,hcc4,hr2⟩:=mat_cell ((HV.out.any (Nat.le_refl _)).below HBr.out (Nat.le_refl _)) hqP
     simp only [Value.slice.injEq,Option.some.injEq,Addr.mk.injEq,and_true] at hs4
     obtain ⟨⟨rfl,rfl⟩,hxx,rfl⟩:=hs4
     clear hxx
     obtain ⟨yo,yc,hrv,_,_⟩:=sl_open hr2
     subst hrv
     have hwa:w.heap.size≤wa.heap.size:=HBa.out.size
     have HR2:Hid (Sl wa.heap.size 3 wr (.slice yo (P.getD q []).length yc) (ints (P.getD q []))):=hr2.more hwa
     clear hr2
     generalize P.getD q []=y at *
     generalize hyl:y.length=yl at *
     clear hyl hc3 hqP
     obtain ⟨vs,g1,g2,g3⟩:=HFS.out
     have hlen:=HLN.out
     rw [hlen] at g1 g2 g3
     have G1:Hid (vs.length=j):=g1
     have G2:Hid (wr.ownsRow wa.heap.size 26 1 u7 j vs):=g2
     have G3:Hid (∀i,i < j→Sl wa.heap.size 3 wr (vs.getD i (.slice none 0 0)) (ints ((pks P [] (c.take j)).getD i []))):=g3
     have hszr:wa.heap.size≤wr.heap.size:=HBS.out.size
     have hjI:(j:Int) < (d:Int):=by omega
     have hjI0:(0:Int)≤(j:Int):=by omega
     clear g1 g2 g3 hlen
     go_wp2_with (first | (at_builtin; refine wpList_append_own _ rfl _ _ 22 rfl wa.heap.size 26 i0 (.slice none 0 0) 1 24 Tryz.underlying22 hi hz0 hz1 hz2 rfl (by decide) _ _ _ rfl (G2.out.alloc _) ⟨wr.heap.size,0,none⟩ 1 1 [.slice yo yl yc] rfl rfl (one_new _ _ _) (one_slice _ _ _) ?d3 ?d4 ?d5 ?_))
     case d3=>unfold maxLen; omega
     case d4=>omega
     case d5=>simp; omega
     intro v' w3 ho hg _
     have R1:Hid (Rws wa.heap.size 26 3 w3 v' (pks P [] (c.take (j+1)))):=by
      have hp:=Rws.push (e2:=26) (e1:=3) (m:=pks P [] (c.take j)) (u:=.slice yo yl yc) (zs:=y) (by decide) (by rw [HLN.out]; exact G1.out) (by rw [HLN.out]; exact G2.out.alloc _)
       (fun i hi=>(G3.out i (by rw [HLN.out] at hi; exact hi)).alloc _) (HR2.out.alloc _) (by rw [HLN.out]; exact ho) hg
      rw [←HSN.out] at hp
      exact hp
     have R2:Hid (Below wa.heap.size wa w3):=(HBS.out.alloc hszr _).grown hg (by simp; omega) (fun x hx=>(G2.out.lt x hx).1)
     clear ho hg
     go_wp2
     go_roundw
     case rel=>exact ⟨j+1,by omega,by go_num,R1.out,R2.out⟩
     case measure=>simp [intOf]; omega
    ·obtain rfl:d=j:=by omega
     have HT:Hid (Rws wa.heap.size 26 3 wr u7 (pks P [] c)):=by
      have:=HFS.out
      rw [List.take_of_length_le (by rw [HCD.out]; exact Nat.le_refl _)] at this
      exact this
     clear HFS hj hjl
     have HTL:Hid ((pks P [] c).length=d):=by show _=_; rw [←HCD.out]; simp [pks]
     have HTM:Hid (∀x∈pks P [] c,x∈P):=pks_in fun q hq=>by
      obtain ⟨i,hi,rfl⟩:=List.mem_iff_getElem.1 hq
      have:=HCQ.out i (by rw [←HCD.out]; exact hi)
      rw [←HN.out]
      simpa [hi] using this
     generalize pks P [] c=t at *
     have HTX:Hid (Mx d 200 (diffL t)):=diff_mx (fun x hx=>HX.out x (HTM.out x hx)) hd1 (by omega)
     have HWS:Hid (∀W,Below wr.heap.size wr W→Below wa.heap.size wa W):=fun W h=>HBS.out.trans (h.mono HBS.out.size)
     by_cases hd2:d=1
     case' pos=>
      have hdI:decide ((1:Int) < (d:Int))=false:=by simp; omega
      have hdN:decide (1 < d)=false:=by simp; omega
      have HNB:Hid (normB d (diffL t)=true∧normL d (diffL t)=[1]):=by
       have:diffL t=[]:=List.eq_nil_of_length_eq_zero (by rw [diffL_length,HTL.out]; omega)
       rw [this,hd2]
       exact ⟨by decide,by decide⟩
      clear hd2
      go_wp2
      have HB5:Hid (Below wr.heap.size wr (wr.alloc (.cells #[.int .i64 1] 3))):=(Below.refl _ _).alloc (Nat.le_refl _) _
      have HA5:Hid (Sl wr.heap.size 3 (wr.alloc (.cells #[.int .i64 1] 3)) (.slice (some ⟨wr.heap.size,0,none⟩) 1 1) (ints (normL d (diffL t)))):=by
       rw [HNB.out.2]
       have h:=World.ownsRow_lit (base:=wr.heap.size) (e:=3) (size:=1) wr #[.int .i64 1] 1 (by simp) (by simp [maxLen]) (by simp)
       exact Sl.own h
      have HNT:Hid (normB d (diffL t)=true):=HNB.out.1
      clear HNB hdI hdN
      generalize wr.alloc (.cells #[.int .i64 1] 3)=W5 at *
      generalize Value.slice (some (⟨wr.heap.size,0,none⟩:Addr)) 1 1=nv at *
      have HAA:Hid (∃Z,Sl Z 3 W5 nv (ints (normL d (diffL t)))):=⟨_,HA5.out⟩
      clear HA5
     case' neg=>
      have hdI:decide ((1:Int) < (d:Int))=true:=by simp; omega
      have hdN:decide (1 < d)=true:=by simp; omega
      have HD2:Hid (2≤d):=by show _≤_; omega
      have HTB:Hid ((∀r∈t,r.length=d)∧∀r∈t,∀z∈r,z.natAbs≤1000000):=⟨fun r hr=>(HX.out r (HTM.out r hr)).1,fun r hr z hz=>by have:=(HX.out r (HTM.out r hr)).2 z hz; omega⟩
      clear hd2
      go_wp2_with fail
      refine (from_any wa.heap.size d t u7 _ ((HT.out.mat (Nat.le_refl _)).below ((Below.refl wr.heap.size wr).alloc (Nat.le_refl _) _) (Nat.le_refl _)) (by rw [HTL.out]; exact hd1) (by rw [HTL.out]; omega) (by omega) HTB.out.1 HTB.out.2).mono ?_
      rintro e w3 ⟨fv,rfl,hff,hbf⟩
      have HFF:Hid (Fr (wr.alloc (.cells #[.int .i64 1] 3)).heap.size 26 3 w3 fv (diffL t)):=hff
      have HB3:Hid (Below wr.heap.size wr w3):=((Below.refl wr.heap.size wr).alloc (Nat.le_refl _) (.cells #[.int .i64 1] 3)).trans (hbf.mono (by simp))
      clear hff hbf
      go_wp2_with fail
      refine (normalR_any d 200 _ (diffL t) fv w3 HTX.out (HFF.out.rws.mat (Nat.le_refl _)) (by rw [diffL_length,HTL.out]; omega) (by rw [diffL_length,HTL.out]; have:=HD2.out; omega)).mono ?_
      rintro e W5 ⟨nv,rfl,hns,hbn⟩
      have HA5:Hid (Sl w3.heap.size 3 W5 nv (ints (normL d (diffL t)))):=hns
      have HB5:Hid (Below wr.heap.size wr W5):=HB3.out.trans (hbn.mono HB3.out.size)
      clear hns hbn hdI hdN
      have HAA:Hid (∃Z,Sl Z 3 W5 nv (ints (normL d (diffL t)))):=⟨_,HA5.out⟩
      clear HA5
      cases hnb:normB d (diffL t)
      case' false=>
       have HNO:Hid (rowsTo P C (k+1)=rowsTo P C k):=by
        have h:=HRS.out
        have:rowT t P=none:=by unfold rowT; rw [HTL.out,hnb]; simp
        rw [this] at h
        exact (by simpa using h:rowsTo P C (k+1)=rowsTo P C k)
       have HFE:Hid (Fr w1.heap.size 26 3 W5 u5 (rowsTo P C (k+1))):=by rw [HNO.out]; exact HF.out.below (HWS.out W5 HB5.out) (Nat.le_refl _)
       have HBE:Hid (Below w1.heap.size w1 W5):=HB.out.trans ((HWS.out W5 HB5.out).mono hsza)
       clear hnb
       go_wp2
       go_roundw
       case rel=>exact ⟨k+1,hlt,by go_num,HFE.out,HBE.out⟩
       case measure=>simp [intOf]; omega
      case' true=>
       have HNT:Hid (normB d (diffL t)=true):=hnb
       clear hnb
       go_wp2
     all_goals
      have HAL:Hid ((normL d (diffL t)).length=d∧∀z∈normL d (diffL t),z.natAbs≤1000000000000):=⟨norm_len HNT.out,norm_bd HTX.out⟩
      obtain ⟨tb,tO,tcp,x0v,hs,htc,hcct,hx0⟩:=mat_cell ((HT.out.mat (Nat.le_refl _)).below HB5.out (Nat.le_refl _)) (k:=0) (by rw [HTL.out]; exact hd1)
      subst hs
      have hcT:W5.cell? ⟨tb,tO,none⟩=some x0v:=hcct
      have HKS:Hid (∀W,Below W5.heap.size W5 W→W.cell? ⟨tb,tO,none⟩=some x0v):=fun W h=>(h.cell (lt_of_cell hcT)).trans hcT
      have h0t:t.getD 0 []∈P:=HTM.out _ (by simp [show 0 < t.length by rw [HTL.out]; exact hd1])
      have HROW:Hid (rowT t P=if (P.any fun x=>decide (dotL (normL d (diffL t)) (t.getD 0 []) < dotL (normL d (diffL t)) x))=false then some (normL d (diffL t) ++ [dotL (normL d (diffL t)) (t.getD 0 [])]) else if (P.any fun x=>decide (dotL (normL d (diffL t)) x < dotL (normL d (diffL t)) (t.getD 0 [])))=false then some ((normL d (diffL t) ++ [dotL (normL d (diffL t)) (t.getD 0 [])]).map fun z=>-z) else none):=by
       show _=_
       unfold rowT
       rw [HTL.out,if_pos HNT.out]
      have HSM:Hid (∀x∈P,Sm (normL d (diffL t)) x):=fun x hx=>⟨by rw [HAL.out.1,(HX.out x hx).1]; exact Nat.le_refl _,by rw [HAL.out.1]; omega,HAL.out.2,fun z hz=>by have:=(HX.out x hx).2 z hz; omega⟩
      have HX0:Hid (∃Z,Sl Z 3 W5 x0v (ints (t.getD 0 []))):=⟨_,hx0⟩
      have HTN:Hid (t.length=d):=HTL.out
      clear hx0 hcct
      have HDO:Hid (∀W,Below W5.heap.size W5 W→Calls Tryz.prog 36 #[nv,x0v] W fun e w'=>e=.returned (.int .i64 (dotL (normL d (diffL t)) (t.getD 0 [])))∧∃n,w'=W.drewN n):=fun W h=>by
       obtain ⟨Z1,h1⟩:=HAA.out
       obtain ⟨Z2,h2⟩:=HX0.out
       exact dotR_any (max Z1 Z2) _ _ _ _ W ((h1.below h (Nat.le_refl _)).more (by omega)) ((h2.below h (Nat.le_refl _)).more (by omega)) (HSM.out _ h0t)
      have HCO:Hid (Calls Tryz.prog 35 #[nv] W5.drew fun e w'=>∃u,e=.returned u∧w'.ownsRow W5.heap.size 3 1 u d (ints (normL d (diffL t)))∧Below W5.heap.size W5 w'):=by
       obtain ⟨Z1,h1⟩:=HAA.out
       refine (copy_any Z1 _ nv W5.drew h1 (by rw [HAL.out.1]; omega)).mono ?_
       rintro e w' ⟨u,rfl,g1,g2⟩
       rw [HAL.out.1] at g1
       exact ⟨u,rfl,g1,(Below.drew (Below.refl _ _)).trans g2⟩
      generalize normL d (diffL t)=a at *
      generalize t.getD 0 []=x0 at *
      obtain ⟨z,hz⟩:∃z,z=dotL a x0:=⟨_,rfl⟩
      have HZ:Hid (z=dotL a x0):=hz
      rw [←hz] at HDO HROW
      clear hz
      have HEND:=fun w6 cv nn (h1:w6.ownsRow W5.heap.size 3 1 cv d (ints a)) (h2:Below W5.heap.size W5 w6)=>row_end (z:=z) HAL.out.1 (by omega) w6 cv nn h1 h2
      have HEN:Hid _:=HEND
      clear HEND
      rw [HTN.out]
      have h0d:(0:Int) < (d:Int):=by omega
      have h0dN:0 < d:=by omega
      go_region_held3 (fun w'=>w'.cell? ⟨tb,tO,none⟩=some x0v) (first | exact KS.out | go_keep)
       (first | (go_at_call 35; refine HCO.out.mono ?_; rintro e w6 ⟨cv,rfl,h1,h2⟩; have HH:Hid (w6.ownsRow W5.heap.size 3 1 cv d (ints a)∧Below W5.heap.size W5 w6):=⟨h1,h2⟩; clear h1 h2; have KS:Hid (w6.cell? ⟨tb,tO,none⟩=some x0v):=HKS.out w6 HH.out.2) | (go_at_call 36; refine (HDO.out w6 HH.out.2).mono ?_; rintro e w7 ⟨rfl,nn,rfl⟩; clear KS; have KS:Hid ((w6.drewN nn).cell? ⟨tb,tO,none⟩=some x0v):=HKS.out w6 HH.out.2) | (refine HEN.out w6 cv nn HH.out.1 HH.out.2 _ _ _ _ _ _ rfl rfl (by simp [Act.eval]) (by simp [Act.eval]) ?_; rintro rv w8 hw8; have HW8:Hid (w8.ownsRow W5.heap.size 3 1 rv (d+1) (ints (a ++ [z]))∧Below W5.heap.size W5 w8):=hw8; clear hw8 KS; have KS:Hid (w8.cell? ⟨tb,tO,none⟩=some x0v):=HKS.out w8 HW8.out.2))
      clear h0d h0dN KS HH hcT
      have HB8:Hid (Below wa.heap.size wa w8):=HWS.out w8 (HB5.out.trans (HW8.out.2.mono HB5.out.size))
      have HBw8:Hid (Below w.heap.size w w8):=HBa.out.trans (HB8.out.mono HBa.out.size)
      have HR8:Hid (Sl 0 3 w8 rv (ints (a ++ [z]))):=Sl.own HW8.out.1
      clear HCO HDO HEN HKS HX0 HAA
      go_wp2
      go_loopw [12,13,14,15] (fun p q i _ wq=>∃j:Nat,j≤n∧i=.int .i64 j∧p=.bool ((P.take j).any fun x=>decide (z < dotL a x))∧q=.bool ((P.take j).any fun x=>decide (dotL a x < z))∧Qw w8 wq) (fun _ _ i _ _=>n-(intOf i).toNat)
      case atStart=>exact ⟨0,Nat.zero_le _,rfl,rfl,rfl,Qw.refl _⟩
      case round=>
       obtain ⟨j,hj,rfl,rfl,rfl,hqw⟩:=hrel
       have HQW:Hid (Qw w8 wr):=hqw
       have HBw9:Hid (Below w.heap.size w wr):=HBw8.out.trans hqw.below
       have HB9:Hid (Below wa.heap.size wa wr):=HB8.out.trans hqw.below
       have HR9:Hid (Sl 0 3 wr rv (ints (a ++ [z]))):=by
        obtain ⟨nn,rfl⟩:=hqw
        exact HR8.out.drewN nn
       clear hqw
       by_cases hjl:j < n
       ·have hjP:j < P.length:=by rw [←HN.out]; exact hjl
        obtain ⟨b4,o4,cp4,xv,hs4,_,hcc4,hx4⟩:=mat_cell ((HV.out.any (Nat.le_refl _)).below HBw9.out (Nat.le_refl _)) hjP
        simp only [Value.slice.injEq,Option.some.injEq,Addr.mk.injEq,and_true] at hs4
        obtain ⟨⟨rfl,rfl⟩,hxx,rfl⟩:=hs4
        clear hxx
        have HTJ:Hid (P.take (j+1)=P.take j ++ [P.getD j []]):=by
         show _=_
         rw [List.take_succ_eq_append_getElem hjP]; simp [hjP]
        have hxP:P.getD j []∈P:=by simp [hjP]
        have HOV:Hid (Calls Tryz.prog 17 #[rv,xv] wr fun e w'=>e=.returned (.int .i64 (dotL a (P.getD j [])-z))∧∃n,w'=wr.drewN n):=by
         have hxl:=(HX.out _ hxP).1
         have hal:=HAL.out.1
         have e1:(a ++ [z]).take (P.getD j []).length=a:=by rw [hxl,←hal]; simp
         have e2:(a ++ [z]).getD (P.getD j []).length 0=z:=by rw [hxl,←hal]; simp
         have h:=over_any w.heap.size (a ++ [z]) (P.getD j []) rv xv wr (HR9.out.more (Nat.zero_le _)) hx4 (by rw [hxl,List.length_append,hal]; rfl) (by rw [e1]; exact HSM.out _ hxP) (by rw [e2,HZ.out]; exact Nat.le_trans (dot_small0 (HSM.out _ h0t)) (by decide))
         unfold overL at h
         rw [e1,e2] at h
         exact h
        have HJ1:Hid (((P.take (j+1)).any fun x=>decide (z < dotL a x))=(((P.take j).any fun x=>decide (z < dotL a x)) || decide (0 < dotL a (P.getD j [])-z))):=by
         show _=_
         rw [HTJ.out,List.any_append]
         simp only [List.any_cons,List.any_nil,Bool.or_false]
         congr 1
         exact decide_eq_decide.2 (by omega)
        have HJ2:Hid (((P.take (j+1)).any fun x=>decide (dotL a x < z))=(((P.take j).any fun x=>decide (dotL a x < z)) || decide (dotL a (P.getD j [])-z < 0))):=by
         show _=_
         rw [HTJ.out,List.any_append]
         simp only [List.any_cons,List.any_nil,Bool.or_false]
         congr 1
         exact decide_eq_decide.2 (by omega)
        clear hx4 hxP hjP
        generalize dotL a (P.getD j [])-z=vv at *
        generalize ((P.take j).any fun x=>decide (z < dotL a x))=pb at *
        generalize ((P.take j).any fun x=>decide (dotL a x < z))=qb at *
        have hjI:(j:Int) < (n:Int):=by omega
        have hjI0:(0:Int)≤(j:Int):=by omega
        go_wp2_with fail
        refine HOV.out.mono ?_
        rintro e w9 ⟨rfl,nn,rfl⟩
        have HQ9:Hid (Qw w8 (wr.drewN nn)):=HQW.out.drewN nn
        generalize wr.drewN nn=w9 at *
        clear HOV
        cases pb <;> cases qb
        all_goals
         go_wp2
         exact ⟨⟨j+1,hjl,by go_num,by rw [HJ1.out]; rfl,by rw [HJ2.out]; rfl,HQ9.out⟩,by simp [intOf]; omega⟩
       ·obtain rfl:n=j:=by omega
        rw [List.take_of_length_le (show P.length≤n by rw [←HN.out]; exact Nat.le_refl _)]
        have HF9:Hid (Fr w1.heap.size 26 3 wr u5 (rowsTo P C k)):=HF.out.below HB9.out (Nat.le_refl _)
        have HC9:Hid (Below w1.heap.size w1 wr):=HB.out.trans (HB9.out.mono hsza)
        have HLR:Hid ((rowsTo P C k).length≤16777216):=Nat.le_trans (rowsTo_len P C k) (Nat.le_trans hk HCL.out)
        generalize (P.any fun x=>decide (z < dotL a x))=pb at *
        generalize (P.any fun x=>decide (dotL a x < z))=qb at *
        clear hj hjl HQW
        cases pb <;> cases qb
        case true.true=>
         have HNO:Hid (rowsTo P C (k+1)=rowsTo P C k):=by
          have h:=HRS.out
          rw [HROW.out] at h
          exact (by simpa using h:rowsTo P C (k+1)=rowsTo P C k)
         have HFE:Hid (Fr w1.heap.size 26 3 wr u5 (rowsTo P C (k+1))):=by rw [HNO.out]; exact HF9.out
         go_wp2
         exact ⟨⟨k+1,hlt,by go_num,HFE.out,HC9.out⟩,by simp [intOf]; omega⟩
        case' true.false=>
         have HNO:Hid (rowsTo P C (k+1)=rowsTo P C k ++ [(a ++ [z]).map fun z=>-z]):=by
          have h:=HRS.out
          rw [HROW.out,if_neg (by decide),if_pos rfl] at h
          exact h
         have HTU:Hid (Calls Tryz.prog 37 #[rv] wr fun e w'=>∃u,e=.returned u∧w'.ownsRow wr.heap.size 3 1 u (a ++ [z]).length (ints ((a ++ [z]).map fun z=>-z))∧Below wr.heap.size wr w'):=turned_any 0 (a ++ [z]) rv wr HR9.out (by rw [List.length_append,HAL.out.1]; simp; omega) (fun y hy=>by
          rcases List.mem_append.1 hy with h | h
          ·have:=HAL.out.2 y h; omega
          ·simp at h
           subst h
           have:=dot_small0 (HSM.out _ h0t)
           rw [←HZ.out] at this
           omega)
         go_wp2_with fail
         refine HTU.out.mono ?_
         rintro e W ⟨yv,rfl,hyo,hyb⟩
         have HY:Hid (Sl 0 3 W yv (ints ((a ++ [z]).map fun z=>-z))):=Sl.own hyo
         have HFW:Hid (Fr w1.heap.size 26 3 W u5 (rowsTo P C k)):=HF9.out.below hyb (Nat.le_refl _)
         have HCW:Hid (Below w1.heap.size w1 W):=HC9.out.trans (hyb.mono HC9.out.size)
         have hw1:w1.heap.size≤W.heap.size:=HCW.out.size
         clear hyo hyb HTU
         generalize ((a ++ [z]).map fun z=>-z)=y at *
         clear HF9 HC9 HR9
        case' false.false=>
         have HNO:Hid (rowsTo P C (k+1)=rowsTo P C k ++ [a ++ [z]]):=by
          have h:=HRS.out
          rw [HROW.out,if_pos rfl] at h
          exact h
         have HY:Hid (Sl 0 3 wr rv (ints (a ++ [z]))):=HR9.out
         have HFW:Hid (Fr w1.heap.size 26 3 wr u5 (rowsTo P C k)):=HF9.out
         have HCW:Hid (Below w1.heap.size w1 wr):=HC9.out
         have hw1:w1.heap.size≤wr.heap.size:=HCW.out.size
         generalize a ++ [z]=y at *
         obtain ⟨W,rfl⟩:∃W,W=wr:=⟨wr,rfl⟩
         obtain ⟨yv,rfl⟩:∃yv,yv=rv:=⟨rv,rfl⟩
        case' false.true=>
         have HNO:Hid (rowsTo P C (k+1)=rowsTo P C k ++ [a ++ [z]]):=by
          have h:=HRS.out
          rw [HROW.out,if_pos rfl] at h
          exact h
         have HY:Hid (Sl 0 3 wr rv (ints (a ++ [z]))):=HR9.out
         have HFW:Hid (Fr w1.heap.size 26 3 wr u5 (rowsTo P C k)):=HF9.out
         have HCW:Hid (Below w1.heap.size w1 wr):=HC9.out
         have hw1:w1.heap.size≤wr.heap.size:=HCW.out.size
         generalize a ++ [z]=y at *
         obtain ⟨W,rfl⟩:∃W,W=wr:=⟨wr,rfl⟩
         obtain ⟨yv,rfl⟩:∃yv,yv=rv:=⟨rv,rfl⟩
        all_goals
         obtain ⟨yo,yc,hyv,_,_⟩:=sl_open HY.out
         obtain ⟨yl,hyl⟩:∃yl,yl=y.length:=⟨_,rfl⟩
         rw [←hyl] at hyv
         clear hyl
         subst hyv
         obtain ⟨vs,g1,g2,g3⟩:=HFW.out
         obtain ⟨ol,hol⟩:∃ol,ol=(rowsTo P C k).length:=⟨_,rfl⟩
         rw [←hol] at g1 g2 g3 HLR
         have HOL:Hid (ol=(rowsTo P C k).length):=hol
         have G1:Hid (vs.length=ol):=g1
         have G2:Hid (W.ownsRow w1.heap.size 26 1 u5 ol vs):=g2
         have G3:Hid (∀i,i < ol→Sl 0 3 W (vs.getD i (.slice none 0 0)) (ints ((rowsTo P C k).getD i []))):=g3
         have hol2:ol≤16777216:=HLR.out
         clear g1 g2 g3 hol
         go_wp2_with (first | (at_builtin; refine wpList_append_own _ rfl _ _ 22 rfl w1.heap.size 26 i0 (.slice none 0 0) 1 24 Tryz.underlying22 hi hz0 hz1 hz2 rfl (by decide) _ _ _ rfl (G2.out.alloc _) ⟨W.heap.size,0,none⟩ 1 1 [.slice yo yl yc] rfl rfl (one_new _ _ _) (one_slice _ _ _) ?d3 ?d4 ?d5 ?_))
         case d3=>unfold maxLen; omega
         case d4=>omega
         case d5=>first | exact hw1 | omega | (simp; omega)
         intro v' w3 ho hg _
         have R1:Hid (Fr w1.heap.size 26 3 w3 v' (rowsTo P C (k+1))):=by
          have hp:=Fr.push (e2:=26) (e1:=3) (m:=rowsTo P C k) (u:=.slice yo yl yc) (zs:=y) (by decide) (by rw [←HOL.out]; exact G1.out) (by rw [←HOL.out]; exact G2.out.alloc _)
           (fun i hi=>(G3.out i (by rw [←HOL.out] at hi; exact hi)).alloc _) (HY.out.alloc _) (by rw [←HOL.out]; exact ho) hg
          rw [←HNO.out] at hp
          exact hp
         have R2:Hid (Below w1.heap.size w1 w3):=(HCW.out.alloc HCW.out.size _).grown hg (by have:=HCW.out.size; simp; omega) (fun x hx=>(G2.out.lt x hx).1)
         clear ho hg
         go_wp2
         exact ⟨⟨k+1,hlt,by go_num,R1.out,R2.out⟩,by simp [intOf]; omega⟩
  ·have hke:rowsTo P C k=rowsD P d:=by
    unfold rowsTo rowsD
    rw [List.take_of_length_le (by omega),HCC.out,HN.out]
   have HFF:Hid (Fr w.heap.size 26 3 wa u5 (rowsD P d)):=by have:=HF.out; rw [hke] at this; exact this.mono hsz1
   have HLR:Hid ((rowsD P d).length≤16777216):=by rw [←hke]; exact Nat.le_trans (rowsTo_len P C k) (Nat.le_trans hk HCL.out)
   clear hke
   go_wp2_with fail
   refine (sortR_any w.heap.size (rowsD P d) u5 wa (HFF.out.rws.mat (Nat.le_refl _)) (Nat.le_trans HLR.out (by decide)) (fun r hr=>by rw [(rowsD_facts HX.out hd1 (by omega) r hr).len]; omega)).mono ?_
   rintro e w2 ⟨x2,s2,rfl,hf2,hs2,hm2,hb2⟩
   have HF2:Hid (Fr w.heap.size 26 3 w2 x2 s2):=hf2.mono HBa.out.size
   have HS2:Hid (SAsc s2):=hs2
   have HM2:Hid (∀r,r∈s2↔r∈rowsD P d):=hm2
   have HB2:Hid (Below w.heap.size w w2):=HBa.out.trans (hb2.mono HBa.out.size)
   clear hf2 hs2 hm2 hb2
   go_wp2
   go_ret
   exact ⟨_,s2,rfl,HF2.out,HS2.out,HM2.out,HB2.out⟩
end Go.Proofs.YtcoeneldaohpnaaGreat
