import Derived.Test.YtfhjjpiakffagaaGreatDoorVoA
import Derived.Test.YtfhjjpiakffagaaGreatDoorHmU
import Derived.Test.YtfhjjpiakffagaaGreatDoorLtA
import Derived.Test.YtfhjjpiakffagaaGreatDoorLinY
import Derived.Test.YtfhjjpiakffagaaGreatDoorRowY
import Derived.Test.YtfhjjpiakffagaaGreatDoorWrY
import Derived.Test.YtfhjjpiakffagaaGreatDoorGZ
import Derived.Test.YtfhjjpiakffagaaGreatDoorVpY
namespace Go.Proofs.YtfhjjpiakffagaaGreatDoor
open Go.RowKit Lin
attribute [local go_sem ↓] Go.wp_at_zero Go.wp_at_succ
def amt (C:List (List Int)) (cell:List Int):Int:=((detL (diffL (pks C [] cell))).natAbs:Int)
theorem pks_snocV {C:List (List Int)} {cell:List Int} {k:Nat} (hk:k < cell.length):pks C [] (cell.take (k+1))=pks C [] (cell.take k) ++ [C.getD (cell.getD k 0).toNat []]:=by
 unfold pks
 rw [List.take_succ_eq_append_getElem hk,List.map_append]
 simp [hk]
theorem pks_lenP (C:List (List Int)) (cell:List Int):(pks C [] cell).length=cell.length:=by simp [pks]
theorem pks_boxV {d M:Nat} {C:List (List Int)} (hC:Box d M C) {cell:List Int} (hc:∀x∈cell,0≤x∧x < (C.length:Int)):Box d M (pks C [] cell):=by
 intro r hr
 obtain ⟨x,hx,rfl⟩:=List.mem_map.1 hr
 have:=hc x hx
 exact hC _ (by simp [show x.toNat < C.length by omega])
theorem cell_sq {d:Nat} {C:List (List Int)} (hC:Box d 6 C) (hd:d≤4) {cell:List Int} (hc:∀x∈cell,0≤x∧x < (C.length:Int)) (hl:cell.length=d+1):Sq (diffL (pks C [] cell)).length 12 (diffL (pks C [] cell))∧(diffL (pks C [] cell)).length=d:=by
 have hb:=pks_boxV hC hc
 have hlen:(diffL (pks C [] cell)).length=d:=by rw [diffL_length,pks_lenP]; omega
 by_cases h0:d=0
 ·subst h0
  have he:diffL (pks C [] cell)=[]:=List.eq_nil_of_length_eq_zero hlen
  rw [he]
  exact ⟨⟨rfl,by simp,by simp,by decide,by decide,by decide⟩,rfl⟩
 ·have hmx:=diff_mx12 hb (by omega) (by omega)
  refine ⟨⟨rfl,fun r hr=>?_,fun r hr j hj=>?_,?_,by omega,by decide⟩,hlen⟩
  ·rw [hmx.row r hr,hlen]; exact Nat.le_refl _
  ·have hrl:=hmx.row r hr
   have:=hmx.bd r hr (r.getD j 0) (getD_mem (by omega))
   omega
  ·rw [hlen]
   exact Nat.le_trans (fb_mono (by decide) hd) (by decide)
theorem detL_bd {m:List (List Int)} {Bd:Nat} (h:Sq m.length Bd m):(detL m).natAbs≤fb Bd m.length:=by
 have hb:=Lin.od_bd (n:=m.length) (B:=Bd) (fm m) (fun _=>false) (fun r hr j hj=>by
  simp only [fm,List.mem_map] at hr
  obtain ⟨l,hl,rfl⟩:=hr
  exact h.bd l hl j hj) (by rw [Lin.cu_none]; simp [fm])
 have e:(fm m).length=m.length:=by simp [fm]
 rw [e] at hb
 exact hb
set_option maxRecDepth 100000 in
set_option maxHeartbeats 1600000 in
theorem simplex_any (d:Nat) (C:List (List Int)) (cell:List Int) (cv:Value) (xo:Option Addr) (xc:Nat) (w:World) (hC:Mat 0 22 3 w cv C) (hX:Sl w.heap.size 3 w (.slice xo cell.length xc) (ints cell)) (hbx:Box d 6 C) (hd:d≤4) (hc:∀x∈cell,0≤x∧x < (C.length:Int)) (hl:cell.length=d+1) :
  Calls Tryz.prog 37 #[cv,.slice xo cell.length xc] w fun e w'=>e=.returned (.int .i64 (amt C cell))∧Below w.heap.size w w':=by
 obtain ⟨i0,hi,hz0,hz1,hz2⟩:=info_parts Tryz.info22
 obtain ⟨co,cc,rfl,_,_⟩:=mat_open hC
 obtain ⟨hsq,hln⟩:=cell_sq hbx hd hc hl
 have hdb:(detL (diffL (pks C [] cell))).natAbs≤1000000000:=by
  have:=detL_bd hsq
  rw [hln] at this
  exact Nat.le_trans this (Nat.le_trans (fb_mono (by decide) hd) (by decide))
 have HCX:Hid (∀X k,Below w.heap.size w X→k < cell.length→∃xb xf cb cf yo yc,xo=some ⟨xb,xf,none⟩∧co=some ⟨cb,cf,none⟩∧X.cell? ⟨xb,xf+k,none⟩=some (.int .i64 ((cell.getD k 0).toNat:Int))∧(cell.getD k 0).toNat < C.length∧X.cell? ⟨cb,cf+(cell.getD k 0).toNat,none⟩=some (.slice yo d yc)∧Sl 0 3 X (.slice yo d yc) (ints (C.getD (cell.getD k 0).toNat []))):=fun X k hXb hk=>by
  obtain ⟨xb,xf,cp,hs,_,hcc⟩:=sl_cell (hX.below hXb (Nat.le_refl _)) hk
  simp only [Value.slice.injEq,true_and] at hs
  have hx:=hc (cell.getD k 0) (getD_mem hk)
  have hlt:(cell.getD k 0).toNat < C.length:=by omega
  obtain ⟨cb,cf,qcp,q1,hqs,_,hqc,hq1⟩:=mat_cell (hC.below hXb (Nat.le_refl _)) hlt
  simp only [Value.slice.injEq,true_and] at hqs
  obtain ⟨yo,yc,rfl,_,_⟩:=sl_open hq1
  have hkm:C.getD (cell.getD k 0).toNat []∈C:=by rw [List.getD_eq_getElem?_getD,List.getElem?_eq_getElem hlt]; exact List.getElem_mem _
  rw [(hbx _ hkm).1] at hqc hq1
  refine ⟨xb,xf,cb,cf,yo,yc,hs.1,hqs.1,?_,hlt,hqc,hq1⟩
  rw [hcc,Int.toNat_of_nonneg hx.1]
 have HFR:Hid (∀X v,Fr w.heap.size 22 3 X v (pks C [] cell)→Calls Tryz.prog 26 #[v] X fun e w'=>∃xo' xl xc',e=.returned (.slice xo' xl xc')∧Mat w'.heap.size 22 3 w' (.slice xo' xl xc') (diffL (pks C [] cell))∧Below X.heap.size X w'):=fun X v hv=>by
  have hb:=pks_boxV hbx hc
  obtain ⟨vs,q1,q2,q3⟩:=hv
  refine (from_any X.heap.size d (pks C [] cell) v X ⟨vs,q1,Sl.own q2,fun i hi=>(q3 i hi).more (Nat.zero_le _)⟩ (by rw [pks_lenP]; omega) (by rw [pks_lenP]; omega) (by omega) (fun r hr=>(hb r hr).1) (fun r hr z hz=>by have:=(hb r hr).2 z hz; omega)).mono ?_
  rintro e w' ⟨x,rfl,hf,hb2⟩
  have hM:=fr_mat0F hf
  obtain ⟨yo,yc,rfl,_,_⟩:=mat_open hM
  exact ⟨yo,_,yc,rfl,hM.more (Nat.zero_le _),hb2⟩
 have HDT:Hid (∀X v,Mat X.heap.size 22 3 X v (diffL (pks C [] cell))→Calls Tryz.prog 25 #[v] X fun e w'=>e=.returned (.int .i64 (detL (diffL (pks C [] cell))))∧Below X.heap.size X w'):=fun X v hv=>det_any 12 X.heap.size _ v X hsq hv
 have HSN:Hid (∀k,k < cell.length→pks C [] (cell.take (k+1))=pks C [] (cell.take k) ++ [C.getD (cell.getD k 0).toNat []]):=fun k hk=>pks_snocV hk
 have HPL:Hid (∀k,k≤cell.length→(pks C [] (cell.take k)).length=k):=fun k hk=>by rw [pks_lenP,List.length_take]; omega
 have HAM:Hid (amt C cell=((detL (diffL (pks C [] cell))).natAbs:Int)):=rfl
 have hcl5:cell.length≤5:=by omega
 clear hC hX hc hsq hln hl
 go_enter Tryz.func37,Tryz.ntmps37
 go_wp2
 go_loopw [5,6] (fun x kv wr=>∃(k:Nat) (ao:Option Addr) (ac:Nat),k≤cell.length∧kv=.int .i64 (k:Int)∧x=.slice ao k ac∧Fr w.heap.size 22 3 wr (.slice ao k ac) (pks C [] (cell.take k))∧Below w.heap.size w wr) (fun _ kv _=>cell.length-(intOf kv).toNat)
 case atStart=>exact ⟨0,none,0,Nat.zero_le _,rfl,rfl,Fr.nil _ _ _ _,Below.refl _ _⟩
 case round=>
  obtain ⟨k,ao,ac,hk,rfl,rfl,hfr,hbr⟩:=hrel
  have HF:Hid (Fr w.heap.size 22 3 wr (.slice ao k ac) (pks C [] (cell.take k))):=hfr
  have HBR:Hid (Below w.heap.size w wr):=hbr
  have HTL:Hid ((pks C [] (cell.take k)).length=k):=HPL.out k hk
  clear hfr hbr
  by_cases hlt:k < cell.length
  ·obtain ⟨xb,xf,cb,cf,yo,yc,hxo,hco,hx1,hx2,hx3,hx4⟩:=HCX.out wr k HBR.out hlt
   have HTS:Hid (pks C [] (cell.take (k+1))=pks C [] (cell.take k) ++ [C.getD (cell.getD k 0).toNat []]):=HSN.out k hlt
   obtain ⟨vs,g1,g2,g3⟩:=HF.out
   rw [HTL.out] at g1 g2 g3
   have G1:Hid (vs.length=k):=g1
   have G2:Hid (wr.ownsRow w.heap.size 22 1 (.slice ao k ac) k vs):=g2
   have G3:Hid (∀j,j < k→Sl 0 3 wr (vs.getD j (.slice none 0 0)) (ints ((pks C [] (cell.take k)).getD j []))):=g3
   have hkI:(k:Int) < (cell.length:Int):=by omega
   have hszr:=HBR.out.size
   have hx2I:((cell.getD k 0).toNat:Int) < (C.length:Int):=by omega
   have HY:Hid (Sl 0 3 wr (.slice yo d yc) (ints (C.getD (cell.getD k 0).toNat []))):=hx4
   subst hxo hco
   clear g1 g2 g3 hx4 HF
   generalize (cell.getD k 0).toNat=q at *
   go_wp2_with (first | (at_builtin; refine wpList_append_own _ rfl _ _ 24 rfl w.heap.size 22 i0 (.slice none 0 0) 1 24 Tryz.underlying24 hi hz0 hz1 hz2 rfl (by decide) _ _ _ rfl (G2.out.alloc _) ⟨wr.heap.size,0,none⟩ 1 1 [.slice yo d yc] rfl rfl (one_new _ _ _) (one_slice _ _ _) ?d3 ?d4 ?d5 ?_))
   case d3=>unfold maxLen; omega
   case d4=>omega
   case d5=>first | exact hszr | omega | (simp; omega)
   intro v' w7 ho7 hg7 _
   obtain ⟨vo,vc,hv7⟩:=owns_form ho7
   subst hv7
   have R1:Hid (Fr w.heap.size 22 3 w7 (.slice vo (k+1) vc) (pks C [] (cell.take (k+1)))):=by
    have hp:=Fr.push (e2:=22) (e1:=3) (m:=pks C [] (cell.take k)) (u:=.slice yo d yc) (zs:=C.getD q []) (by decide) (by rw [HTL.out]; exact G1.out) (by rw [HTL.out]; exact G2.out.alloc _)
     (fun j hj=>(G3.out j (by rw [HTL.out] at hj; exact hj)).alloc _) (HY.out.alloc _) (by rw [HTL.out]; exact ho7) hg7
    rw [←HTS.out] at hp
    exact hp
   have R2:Hid (Below w.heap.size w w7):=(HBR.out.alloc hszr _).grown hg7 (by simp; omega) (fun x hx=>(G2.out.lt x hx).1)
   clear ho7 hg7
   go_wp2
   exact ⟨⟨k+1,vo,vc,by omega,by go_num,rfl,R1.out,R2.out⟩,by simp [intOf]; omega⟩
  ·have hke:k=cell.length:=by omega
   subst hke
   have hfr:=HF.out
   rw [List.take_length] at hfr
   have HFM:=HFR.out wr _ hfr
   clear hfr HF HCX HFR
   go_wp2_with fail
   refine HFM.mono ?_
   rintro e w2 ⟨fo,fl,fc,rfl,hM,hb2⟩
   have HDD:=HDT.out w2 _ hM
   have HB2:Hid (Below w.heap.size w w2):=HBR.out.trans (hb2.mono HBR.out.size)
   clear hM hb2 HFM HDT
   generalize detL (diffL (pks C [] cell))=D at *
   go_wp2_with fail
   refine HDD.mono ?_
   rintro e w3 ⟨rfl,hb3⟩
   have HB3:Hid (Below w.heap.size w w3):=HB2.out.trans (hb3.mono HB2.out.size)
   clear hb3 HDD
   by_cases hD:D < 0
   ·have tD:decide (D < 0)=true:=decide_eq_true hD
    have hw1:IntKind.wrap .i64 (-D)=-D:=by rw [IntKind.wrap_i64]; omega
    have HE:Hid (-D=amt C cell):=by
     show _=_
     rw [HAM.out]; omega
    go_wp2
    go_ret
    exact ⟨ret_int HE.out,HB3.out⟩
   ·have tD:decide (D < 0)=false:=decide_eq_false hD
    have HE:Hid (D=amt C cell):=by
     show _=_
     rw [HAM.out]; omega
    go_wp2
    go_ret
    exact ⟨ret_int HE.out,HB3.out⟩
end Go.Proofs.YtfhjjpiakffagaaGreatDoor
namespace Go.Proofs.YtfhjjpiakffagaaGreatDoor
open Go.RowKit Lin
attribute [local go_sem ↓] Go.wp_at_zero Go.wp_at_succ
set_option maxRecDepth 100000 in
set_option maxHeartbeats 1600000 in
theorem much_any (B d:Nat) (m:List (List Int)) (v:Value) (w:World) (hv:Mat B 22 3 w v m) (hbx:Box d 30 m) (hd1:1≤d) (hd:d≤4) (hl:m.length=d+1) :
  Calls Tryz.prog 44 #[v] w fun e w'=>e=.returned (.int .i64 ((detL (diffL m)).natAbs:Int))∧Below w.heap.size w w':=by
 obtain ⟨vo,vc,rfl,_,_⟩:=mat_open hv
 have hln:(diffL m).length=d:=by rw [diffL_length]; omega
 have hmx:=diff_mx hbx hd1 (by omega)
 have hdb:(detL (diffL m)).natAbs≤1000000000000:=by
  have hsq:Sq (diffL m).length 60 (diffL m):=⟨rfl,fun r hr=>by rw [hmx.row r hr,hln]; exact Nat.le_refl _,fun r hr j hj=>hmx.bd r hr _ (getD_mem (by rw [hmx.row r hr]; omega)),by rw [hln]; exact Nat.le_trans (fb_mono (by decide) hd) (by decide),by omega,by decide⟩
  have:=detL_bd hsq
  rw [hln] at this
  exact Nat.le_trans this (Nat.le_trans (fb_mono (by decide) hd) (by decide))
 have H1:Hid (Calls Tryz.prog 61 #[.slice vo m.length vc] w fun e w'=>∃xo xl xc,e=.returned (.slice xo xl xc)∧Mat w'.heap.size 22 3 w' (.slice xo xl xc) (diffL m)∧Below w.heap.size w w'):=by
  refine (differences_any B d m _ w hv (by omega) (by omega) hd1 (by omega) (fun r hr=>(hbx r hr).1) (fun r hr z hz=>by have:=(hbx r hr).2 z hz; omega)).mono ?_
  rintro e w' ⟨x,rfl,hx,hb⟩
  have hM:=hx.mat (B':=w'.heap.size) hb.size
  obtain ⟨xo,xc,rfl,_,_⟩:=mat_open hM
  exact ⟨xo,_,xc,rfl,hM,hb⟩
 have H2:Hid (∀X u,Mat X.heap.size 22 3 X u (diffL m)→Calls Tryz.prog 60 #[u] X fun e w'=>e=.returned (.int .i64 (detL (diffL m)))∧Below X.heap.size X w'):=fun X u hu=>detP_any X.heap.size (diffL m) u X (by rw [hln]; exact hmx) hu (by omega)
 clear hv hbx hmx hln hl
 go_enter Tryz.func44,Tryz.ntmps44
 go_wp2_with fail
 refine H1.out.mono ?_
 rintro e w1 ⟨xo,xl,xc,rfl,hM,hb1⟩
 have HD:=H2.out w1 _ hM
 have HB1:Hid (Below w.heap.size w w1):=hb1
 clear hM hb1 H1 H2
 obtain ⟨D,hDe⟩:∃D,D=detL (diffL m):=⟨_,rfl⟩
 have HDE:Hid (D=detL (diffL m)):=hDe
 rw [←hDe] at HD hdb
 clear hDe
 go_wp2_with fail
 refine HD.mono ?_
 rintro e w2 ⟨rfl,hb2⟩
 have HB2:Hid (Below w.heap.size w w2):=HB1.out.trans (hb2.mono HB1.out.size)
 clear hb2 HD
 have hw1:IntKind.wrap .i64 (-D)=-D:=by rw [IntKind.wrap_i64]; omega
 go_wp2
 go_ret
 refine ⟨ret_int ?_,HB2.out⟩
 rw [←HDE.out]
 omega
end Go.Proofs.YtfhjjpiakffagaaGreatDoor
namespace Go.Proofs.YtfhjjpiakffagaaGreatDoor
open Go.RowKit Lin
attribute [local go_sem ↓] Go.wp_at_zero Go.wp_at_succ
theorem diff_sq {d:Nat} {m:List (List Int)} (hbx:Box d 30 m) (hd1:1≤d) (hd:d≤4) (hl:m.length=d+1):Sq (diffL m).length 60 (diffL m)∧(detL (diffL m)).natAbs≤1000000000000:=by
 have hln:(diffL m).length=d:=by rw [diffL_length]; omega
 have hmx:=diff_mx hbx hd1 (by omega)
 have hsq:Sq (diffL m).length 60 (diffL m):=⟨rfl,fun r hr=>by rw [hmx.row r hr,hln]; exact Nat.le_refl _,fun r hr j hj=>hmx.bd r hr _ (getD_mem (by rw [hmx.row r hr]; omega)),by rw [hln]; exact Nat.le_trans (fb_mono (by decide) hd) (by decide),by omega,by decide⟩
 refine ⟨hsq,?_⟩
 have:=detL_bd hsq
 rw [hln] at this
 exact Nat.le_trans this (Nat.le_trans (fb_mono (by decide) hd) (by decide))
set_option maxRecDepth 100000 in
set_option maxHeartbeats 1600000 in
theorem cellP_any (d:Nat) (m:List (List Int)) (vo:Option Addr) (vc:Nat) (w:World) (hv:Mat w.heap.size 22 3 w (.slice vo (d+1) vc) m) (hbx:Box d 30 m) (hd1:1≤d) (hd:d≤4) (hl:m.length=d+1) :
  Calls Tryz.prog 27 #[.slice vo (d+1) vc] w fun e w'=>e=.returned (.tuple #[.int .i64 ((detL (diffL m)).natAbs:Int),.int .i64 0])∧Below w.heap.size w w':=by
 have HM:Hid (∀X,Below w.heap.size w X→Mat X.heap.size 22 3 X (.slice vo (d+1) vc) m):=fun X h=>(hv.below h (Nat.le_refl _)).any (Nat.le_refl _)
 have HCX:Hid (∀X k,Below w.heap.size w X→k < d+1→∃qb qo yo yc,vo=some ⟨qb,qo,none⟩∧X.cell? ⟨qb,qo+k,none⟩=some (.slice yo d yc)∧Calls Tryz.prog 54 #[.slice yo d yc,.int .i64 d,.int .i64 100] X fun e w'=>e=.returned (.int .i64 0)∧Below X.heap.size X w'):=fun X k hX hk=>by
  obtain ⟨qb,qo,qcp,q1,hqs,_,hqc,hq1⟩:=mat_cell (HM.out X hX) (k:=k) (by omega)
  simp only [Value.slice.injEq] at hqs
  have hkm:m.getD k []∈m:=by simp [show k < m.length by omega]
  obtain ⟨yo,yc,rfl,_,_⟩:=sl_open hq1
  rw [(hbx _ hkm).1] at hqc hq1
  refine ⟨qb,qo,yo,yc,hqs.1,hqc,chk100_ok _ d (m.getD k []) _ X hq1 (hbx _ hkm).1 ?_⟩
  rw [List.any_eq_false]
  intro z hz
  have:=(hbx _ hkm).2 z hz
  simp only [farB,Bool.or_eq_true,decide_eq_true_eq,not_or]
  omega
 have HMU:Hid (∀X,Below w.heap.size w X→Calls Tryz.prog 44 #[.slice vo (d+1) vc] X fun e w'=>e=.returned (.int .i64 ((detL (diffL m)).natAbs:Int))∧Below X.heap.size X w'):=fun X hX=>much_any _ d m _ X (HM.out X hX) hbx hd1 hd hl
 have c1:decide (((d+1:Nat):Int) < 2)=false:=by simp; omega
 have c2:decide ((5:Int) < ((d+1:Nat):Int))=false:=by simp; omega
 have hs:((d+1:Nat):Int)-1=(d:Int):=by omega
 have hw:IntKind.wrap .i64 (d:Int)=(d:Int):=by rw [IntKind.wrap_i64]; omega
 clear hv hbx hl HM
 generalize (((detL (diffL m)).natAbs:Nat):Int)=am at *
 go_enter Tryz.func27,Tryz.ntmps27
 go_wp2
 go_loopw [17] (fun iv wr=>∃i:Nat,i≤d+1∧iv=.int .i64 (i:Int)∧Below w.heap.size w wr) (fun iv _=>d+1-(intOf iv).toNat)
 case atStart=>exact ⟨0,Nat.zero_le _,rfl,Below.refl _ _⟩
 case round=>
  obtain ⟨i,hi,rfl,hbr⟩:=hrel
  have HBR:Hid (Below w.heap.size w wr):=hbr
  clear hbr
  by_cases hlt:i < d+1
  ·obtain ⟨qb,qo,yo,yc,hvo,hc,HCH⟩:=HCX.out wr i HBR.out hlt
   subst hvo
   have hiI:(i:Int) < ((d+1:Nat):Int):=by omega
   have hiI2:(i:Int) < (d:Int)+1:=by omega
   go_wp2_with fail
   refine HCH.mono ?_
   rintro e w2 ⟨rfl,hb2⟩
   have HB2:Hid (Below w.heap.size w w2):=HBR.out.trans (hb2.mono HBR.out.size)
   clear hb2 HCH hc
   go_wp2
   go_roundw
   case rel=>exact ⟨i+1,by omega,by go_num,HB2.out⟩
   case measure=>simp [intOf]; omega
  ·have hie:i=d+1:=by omega
   subst hie
   have HMM:=HMU.out wr HBR.out
   clear hlt hi HCX HMU
   go_wp2_with fail
   refine HMM.mono ?_
   rintro e w2 ⟨rfl,hb2⟩
   have HB2:Hid (Below w.heap.size w w2):=HBR.out.trans (hb2.mono HBR.out.size)
   clear hb2 HMM
   go_wp2
   go_ret2
   exact ⟨rfl,HB2.out⟩
end Go.Proofs.YtfhjjpiakffagaaGreatDoor
namespace Go.Proofs.YtfhjjpiakffagaaGreatDoor
open Go.RowKit Lin
theorem doc_small {d:Nat} {P C s:List (List Int)} {A:List Nat} (hD:DocF d P C s A) (hn:P.length≤10):C.length≤10:=by
 obtain ⟨h1,s0,h2,h3⟩:=hD.crn
 have:=nodup_lenL C P (sasc_nodup h1) fun x hx=>(List.mem_filter.1 ((h3 x).1 hx)).1
 omega
theorem lev_small {d:Nat} {P C s:List (List Int)} {A:List Nat} (hD:DocF d P C s A) (hn:C.length≤10) {t:Nat} {lev:List (List Int)} (hl:LevOk d C A t lev):lev.length≤1024∧∀r∈lev,r.length≤10:=by
 constructor
 ·have h1:=nodup_lenL lev (A.map memL) (sasc_nodup hl.1) fun r hr=>by
   obtain ⟨a,ha,_,rfl⟩:=(hl.2 r).1 hr
   exact List.mem_map.2 ⟨a,ha,rfl⟩
  rw [List.length_map] at h1
  have h2:=hD.all.len
  have h3:2 ^ C.length≤2 ^ 10:=Nat.pow_le_pow_right (by decide) hn
  have h4:(2:Nat) ^ 10=1024:=by decide
  omega
 ·intro r hr
  obtain ⟨a,ha,_,rfl⟩:=(hl.2 r).1 hr
  exact Nat.le_trans (memL_len (hD.all.lt a ha) (by omega)) hn
theorem lvs_same {d:Nat} {P C s C' s':List (List Int)} {A A':List Nat} {LV:Nat→List (List Int)} (h:Fnd d P C s A) (hD:DocF d P C' s' A') (hL:∀t,t < d+2→LevOk d C' A' t (LV t)) {t:Nat} (ht:t < d+2) {m:List (List Int)} (hm:Inor m ((lvA d C A t).map memL)):m=LV t:=by
 obtain ⟨rfl,rfl⟩:=h.toS.same hD
 exact h.lev hD (hL t ht) hm
theorem LvV.congr {w:World} {x:Value} {j:Nat} {LV LV2:Nat→List (List Int)} (h:LvV w x j LV) (he:∀t,t < j→LV t=LV2 t):LvV w x j LV2:=by
 obtain ⟨ao,cap,hx,h1⟩:=h.rows
 refine ⟨ao,cap,hx,fun X t hX ht=>?_⟩
 have:=h1 X t hX ht
 rw [he t ht] at this
 exact this
theorem lat_same {d:Nat} {P C s C' s':List (List Int)} {A A':List Nat} {LV:Nat→List (List Int)} {B:Nat} {w:World} {u:Value} (h:Fnd d P C s A) (hD:DocF d P C' s' A') (hL:∀t,t < d+2→LevOk d C' A' t (LV t)) (hl:Lvs B w u (d+2) (fun t m=>Inor m ((lvA d C A t).map memL))):LvV w u (d+2) LV:=by
 obtain ⟨LV2,h1,h2⟩:=hl.named
 exact h1.congr fun t ht=>lvs_same h hD hL ht (h2 t ht)
end Go.Proofs.YtfhjjpiakffagaaGreatDoor
namespace Go.Proofs.YtfhjjpiakffagaaGreatDoor
open Lin
theorem doc_hcr {d:Nat} {P s0:List (List Int)} (hg:Good d P) (hs:∀r,r∈s0↔r∈rowsD P d):∀x∈P,((pickL d (onL d s0 x)).length=d↔∀v:Nat→Int,(∀r∈rowsC P [] d P,r.getD d 0=dot d (V r) (V x)→dot d (V r) v=0)→∀i,i < d→v i=0):=fun _ hx=>corner_rank hg (fun _=>Iff.rfl) hs hx
theorem doc_fc {d:Nat} {P C s:List (List Int)} {A:List Nat} (hg:Good d P) (hn:P.length≤10) (hD:DocF d P C s A):FcC d C s:=by
 obtain ⟨hasc,s0,hs0,hcm⟩:=hD.crn
 have hcr:=doc_hcr hg hs0
 have hgC:=corners_good hg hs0 hcr hcm (sasc_nodup hasc)
 have hCP:∀y∈C,y∈P:=fun y hy=>(List.mem_filter.1 ((hcm y).1 hy)).1
 have hrows:∀r,r∈s↔r∈rowsC C [] d C:=fun r=>(hD.rows.2 r).trans mem_rowsD
 refine ⟨hgC,Nat.le_trans (doc_small hD hn) (by decide),hasc,hrows,hD.rows.1,fun x hx y hy hxy=>?_⟩
 have hxP:=hCP x hx
 have hrk:(pickL d (onL d s0 x)).length=d:=by
  have:=(List.mem_filter.1 ((hcm x).1 hx)).2
  simpa using this
 have hv:=(hcr x hxP).1 hrk (fun i=>V y i-V x i) fun r hr hrx=>by
  have hrC:r∈rowsC C [] d C:=(rows_corners hg hs0 hcr hcm (sasc_nodup hasc) r).2 hr
  have hfit:=rowsC_fit hgC.box hgC.d1 (by have:=hgC.d4; omega) (fun _=>Iff.rfl) hrC
  have h1:=hxy r ((hrows r).2 hrC) ((over_zero hfit.len (hgC.box x hx).1).2 hrx)
  have h2:=(over_zero hfit.len (hgC.box y hy).1).1 h1
  rw [dot_sub,←hrx,←h2]
  omega
 have lx:=(hgC.box x hx).1
 have ly:=(hgC.box y hy).1
 apply List.ext_getElem (by omega)
 intro i h1 h2
 have:=hv i (by omega)
 simp only [V] at this
 have e1:y.getD i 0=y[i]:=by simp [h1]
 have e2:x.getD i 0=x[i]:=by simp [h2]
 rw [e1,e2] at this
 omega
theorem set_memL {a:Nat} (h:a < 1024):setN (memL a)=a:=by
 rw [←mem10_L h]
 exact setN_mem10 a h
theorem face_full {d:Nat} {C s:List (List Int)} (h:FcC d C s) {a:Nat} (ha:Itr C.length (s.map (sdN C)) a) (hd:dimL d C a=(d:Int)):a=2 ^ C.length-1:=by
 cases ha with
 | full=>rfl
 | @cut b t hb ht=>
  exfalso
  obtain ⟨r,hr,rfl⟩:=List.mem_map.1 ht
  have hlt:b &&& sdN C r < 2 ^ C.length:=Nat.lt_of_le_of_lt Nat.and_le_right (sdTo_lt C r C.length)
  have hd1:=h.g.d1
  unfold dimL at hd
  split at hd
  ·omega
  ·rename_i hne
   have hfull:(pickL d (diffL (pks C [] (memL (b &&& sdN C r))))).length=d:=by omega
   have hall:∀y∈pks C [] (memL (b &&& sdN C r)),r.getD d 0=dot d (V r) (V y):=fun y hy=>by
    obtain ⟨k,hk,hbt,rfl⟩:=(mem_pts hlt h.n16).1 hy
    rw [Nat.testBit_and] at hbt
    have h2:(sdN C r).testBit k=true:=by
     cases hq:(sdN C r).testBit k with
     | true=>rfl
     | false=>rw [hq] at hbt; simp at hbt
    have h3:(sdN C r).testBit k=(decide (k < C.length) && decide (overL r (C.getD k [])=0)):=sdTo_bit C r C.length k
    rw [h2,decide_eq_true hk] at h3
    have h4:overL r (C.getD k [])=0:=by simpa using h3.symm
    exact (h.over hr (by simp [hk])).1 h4
   obtain ⟨i,hi,hne0⟩:=row_ne0 h.g ((h.rows r).1 hr)
   have hz:=(greedy_full (pick_greedy d (diffL (pks C [] (memL (b &&& sdN C r)))))).1 (by simpa [fm] using hfull) (V r) fun q hq=>by
    simp only [fm,List.mem_map] at hq
    obtain ⟨l,hl,rfl⟩:=hq
    simp only [diffL,List.mem_map] at hl
    obtain ⟨y,hy,rfl⟩:=hl
    have hyl:∀y∈pks C [] (memL (b &&& sdN C r)),y.length=d:=fun y hy=>by
     obtain ⟨k,hk,_,rfl⟩:=(mem_pts hlt h.n16).1 hy
     exact (h.g.box _ (by simp [hk])).1
    have hym:=List.mem_of_mem_drop hy
    have h0m:(pks C [] (memL (b &&& sdN C r))).getD 0 []∈pks C [] (memL (b &&& sdN C r)):=by
     have:0 < (pks C [] (memL (b &&& sdN C r))).length:=List.length_pos_of_mem hym
     simp [this]
    rw [dot_comm]
    refine (dot_subL (V r) (hyl y hym)).trans ?_
    rw [←hall y hym,←hall _ h0m]
    omega
   exact hne0 (hz i hi)
theorem crn_same {d:Nat} {P s0 s1:List (List Int)} (hg:Good d P) (h0:∀r,r∈s0↔r∈rowsD P d) (h1:∀r,r∈s1↔r∈rowsD P d) (y:List Int):y∈crn d s0 P↔y∈crn d s1 P:=by
 constructor
 ·intro h
  obtain ⟨a,b⟩:=List.mem_filter.1 h
  refine List.mem_filter.2 ⟨a,?_⟩
  have b':(pickL d (onL d s0 y)).length=d:=by simpa using b
  have:=(doc_hcr hg h1 y a).2 ((doc_hcr hg h0 y a).1 b')
  simpa using this
 ·intro h
  obtain ⟨a,b⟩:=List.mem_filter.1 h
  refine List.mem_filter.2 ⟨a,?_⟩
  have b':(pickL d (onL d s1 y)).length=d:=by simpa using b
  have:=(doc_hcr hg h0 y a).2 ((doc_hcr hg h1 y a).1 b')
  simpa using this
theorem doc_fnds {d:Nat} {P C s:List (List Int)} {A:List Nat} (hg:Good d P) (hn:P.length≤10) (hD:DocF d P C s A):FndS d P C s:=by
 obtain ⟨hasc,s1,hs1,hcm⟩:=hD.crn
 refine ⟨doc_fc hg hn hD,fun s0 c h0 hc hm=>sasc_ext C c hasc hc fun y=>?_,doc_small hD hn⟩
 rw [hcm y,hm y]
 exact crn_same hg hs1 h0 y
theorem memL_whole {n:Nat} (h:n≤64):memL (2 ^ n-1)=(List.range n).map fun k:Nat=>(k:Int):=by
 rw [←memL_top (i:=n) (by have:0 < 2 ^ n:=Nat.pow_pos (by decide); omega) h]
 unfold memTo
 congr 1
 rw [List.filter_eq_self]
 intro k hk
 rw [Nat.testBit_two_pow_sub_one]
 simpa using hk
theorem pks_whole {C:List (List Int)} (h:C.length≤64):pks C [] (memL (2 ^ C.length-1))=C:=by
 rw [memL_whole h]
 unfold pks
 apply List.ext_getElem
 ·simp
 ·intro i h1 h2
  simp [h2]
theorem dim_whole {d:Nat} {C s:List (List Int)} (h:FcC d C s):dimL d C (2 ^ C.length-1)=(d:Int):=by
 have hn:=h.n16
 have h2:=h.g.n2
 unfold dimL
 rw [pks_whole (by omega),h.g.full,if_neg]
 rw [memL_whole (by omega)]
 intro e
 have:=congrArg List.length e
 simp at this
 rw [this] at h2
 simp at h2
theorem lvP_of {d:Nat} {P C s:List (List Int)} {A:List Nat} {LV:Nat→List (List Int)} {order:List Int} (hg:Good d P) (hn:P.length≤10) (hD:DocF d P C s A) (hL:∀t,t < d+2→LevOk d C A t (LV t)) (h0:∀t,d+2≤t→LV t=[])
  (hord:∀x∈order,0≤x∧x < (C.length:Int)) (hall:∀k:Nat,k < C.length→(k:Int)∈order) (hol:order.length≤10):LvP LV order C.length d∧LV (d+1)=[memL (2 ^ C.length-1)]∧(LV 1).length=C.length∧∀g∈LV 1,g.length=1:=by
 have hF:=doc_fc hg hn hD
 have hC10:=doc_small hD hn
 have hd1:=hg.d1
 have hat:∀t,∀g∈LV t,∃a,a < 2 ^ C.length∧a < 1024∧Itr C.length (s.map (sdN C)) a∧dimL d C a=(t:Int)-1∧g=memL a:=fun t g hgm=>by
  by_cases ht:t < d+2
  ·obtain ⟨a,ha,h1,h2⟩:=((hL t ht).2 g).1 hgm
   exact ⟨a,hD.all.lt a ha,hD.lt10 hC10 ha,(hD.mem a).1 ha,h1,h2⟩
  ·rw [h0 t (by omega)] at hgm
   simp at hgm
 have htop:LV (d+1)=[memL (2 ^ C.length-1)]:=by
  refine sasc_ext _ _ (hL (d+1) (by omega)).1 (by simp [SAsc]) fun r=>?_
  rw [(hL (d+1) (by omega)).2 r,List.mem_singleton]
  constructor
  ·rintro ⟨a,ha,h1,rfl⟩
   rw [face_full hF ((hD.mem a).1 ha) (by omega)]
  ·rintro rfl
   exact ⟨_,(hD.mem _).2 .full,by rw [dim_whole hF]; omega,rfl⟩
 have hone:∀g∈LV 1,∃k,k < C.length∧g=[(k:Int)]:=fun g hgm=>by
  obtain ⟨a,h1,h2,_,h4,rfl⟩:=hat 1 g hgm
  obtain ⟨k,hk,rfl⟩:=vert_of hF h1 (by omega)
  exact ⟨k,hk,memL_one (by omega)⟩
 refine ⟨⟨⟨fun t=>?_,fun t g hgm=>?_,hord,fun t g hgm=>?_,hol⟩,fun g hgm=>?_,fun t ht g hgm=>?_,⟨_,htop⟩⟩,htop,?_,fun g hgm=>?_⟩
 ·by_cases ht:t < d+2
  ·exact (lev_small hD hC10 (hL t ht)).1
  ·rw [h0 t (by omega)]; simp
 ·obtain ⟨a,h1,_,_,_,rfl⟩:=hat t g hgm
  exact ⟨Nat.le_trans (memL_len h1 (by omega)) hC10,memL_bd h1 (by omega)⟩
 ·obtain ⟨a,h1,_,_,h4,rfl⟩:=hat (t+1) g hgm
  have hne:memL a≠[]:=fun e=>by
   unfold dimL at h4
   rw [if_pos e] at h4
   omega
  obtain ⟨x,xs,hx⟩:=List.exists_cons_of_ne_nil hne
  have hxm:x∈memL a:=by rw [hx]; simp
  have hb:=memL_bd h1 (by omega) x hxm
  have:=hall x.toNat (by omega)
  rw [show ((x.toNat:Nat):Int)=x by omega] at this
  exact ⟨x,this,hxm⟩
 ·obtain ⟨k,hk,rfl⟩:=hone g hgm
  rw [setN_one,show ((k:Int).toNat)=k by omega,memL_one (by omega)]
  rfl
 ·obtain ⟨a,h1,h2,_,h4,rfl⟩:=hat (t+2) g hgm
  rw [set_memL h2]
  intro e
  unfold dimL at h4
  obtain ⟨x,hx⟩:=List.length_eq_one_iff.1 e
  rw [hx] at h4
  simp [pks,diffL,pickL] at h4
  omega
 ·exact doc_verts (doc_fnds hg hn hD) hD (hL 1 (by omega))
 ·obtain ⟨k,hk,rfl⟩:=hone g hgm
  rfl
theorem tk_sub {order face g:List Int} (hf:∀x∈face,0≤x∧x < (10:Int)) (hgb:∀x∈g,0≤x∧x < (10:Int)) (h:tkB order face g=true):fstO order face∉g∧∀x∈g,x∈face:=by
 unfold tkB at h
 simp only [Bool.and_eq_true,Bool.not_eq_true',decide_eq_false_iff_not,decide_eq_true_eq] at h
 refine ⟨h.1,fun x hx=>?_⟩
 have hb:=hgb x hx
 have e1:=(setN_bit g x.toNat (fun y hy=>by have:=hgb y hy; omega)).2 (by rw [show ((x.toNat:Nat):Int)=x by omega]; exact hx)
 rw [←h.2,Nat.testBit_and] at e1
 simp only [Bool.and_eq_true] at e1
 have:=(setN_bit face x.toNat (fun y hy=>by have:=hf y hy; omega)).1 e1.2
 rw [show ((x.toNat:Nat):Int)=x by omega] at this
 exact this
theorem pulD_cell {LV:Nat→List (List Int)} {order:List Int} {n:Nat} (h:LvO LV order n) (hn:n≤10) (h1:∀g∈LV 1,g.length=1):∀t,∀face∈LV (t+1),∀c∈pulD LV order (t+1) face,c.length=t+1∧c.Nodup∧∀x∈c,x∈face
 | 0,face,hf=>fun c hc=>by
  simp only [pulD,List.mem_singleton] at hc
  subst hc
  have:=h1 c hf
  refine ⟨this,?_,fun x hx=>hx⟩
  obtain ⟨x,rfl⟩:=List.length_eq_one_iff.1 this
  simp
 | t+1,face,hf=>fun c hc=>by
  unfold pulD at hc
  obtain ⟨g,hg,hc⟩:=List.mem_flatMap.1 hc
  split at hc
  ·rename_i htk
   obtain ⟨c',hc',rfl⟩:=List.mem_map.1 hc
   obtain ⟨h2,h3,h4⟩:=pulD_cell h hn h1 t g hg c' hc'
   obtain ⟨hno,hsub⟩:=tk_sub (fun x hx=>by have:=(h.row _ _ hf).2 x hx; omega) (fun x hx=>by have:=(h.row _ _ hg).2 x hx; omega) htk
   have hfm:=(fstO_mem (h.has (t+1) face hf)).2
   refine ⟨by rw [List.length_append,h2]; rfl,?_,fun x hx=>?_⟩
   ·rw [List.nodup_append]
    refine ⟨h3,by simp,fun a ha b hb e=>?_⟩
    simp only [List.mem_singleton] at hb
    subst hb e
    exact hno (h4 _ ha)
   ·rcases List.mem_append.1 hx with hx | hx
    ·exact hsub x (h4 x hx)
    ·simp only [List.mem_singleton] at hx
     subst hx
     exact hfm
  ·simp at hc
theorem memL_nodup (s:Nat):(memL s).Nodup:=by
 unfold memL memTo
 rw [List.nodup_iff_pairwise_ne,List.pairwise_map]
 refine List.Pairwise.imp (fun {a b} hab e=>hab ?_) (List.nodup_iff_pairwise_ne.1 (List.Nodup.sublist List.filter_sublist List.nodup_range))
 omega
theorem cellL_len {c:List Int} (hb:∀x∈c,0≤x∧x < (10:Int)) (hnd:c.Nodup):(cellL c).length=c.length∧∀x∈cellL c,x∈c:=by
 have hB:B64 c:=fun y hy=>by have:=hb y hy; omega
 have hm:∀x,x∈cellL c↔x∈c:=fun x=>by
  unfold cellL
  rw [mem_memL (setN_lt c hB)]
  constructor
  ·rintro ⟨k,rfl,hk⟩
   exact (setN_bit c k hB).1 hk
  ·intro hx
   have:=hb x hx
   have e:((x.toNat:Nat):Int)=x:=by omega
   exact ⟨x.toNat,e.symm,(setN_bit c _ hB).2 (by rw [e]; exact hx)⟩
 refine ⟨?_,fun x hx=>(hm x).1 hx⟩
 have:(cellL c).Perm c:=by
  rw [List.perm_iff_count]
  intro a
  have hcd:(cellL c).Nodup:=memL_nodup (setN c)
  rw [hcd.count,hnd.count]
  by_cases e:a∈c
  ·simp [e,(hm a).2 e]
  ·have e2:¬a∈cellL c:=fun k=>e ((hm a).1 k)
   simp [e,e2]
 exact this.length_eq
theorem pul_cells (LV:Nat→List (List Int)) (order:List Int) (t:Nat) (face:List Int):(pulS LV order t face).map memL=(pulD LV order t face).map cellL:=by
 rw [pul_same,List.map_map]
 rfl
theorem cells_fit {LV:Nat→List (List Int)} {order:List Int} {n d:Nat} (h:LvO LV order n) (hn:n≤10) (h1:∀g∈LV 1,g.length=1) {face:List Int} (hf:LV (d+1)=[face]):∀c∈(pulD LV order (d+1) face).map cellL,c.length=d+1∧∀x∈c,0≤x∧x < (n:Int):=fun c hc=>by
 obtain ⟨c',hc',rfl⟩:=List.mem_map.1 hc
 have hfm:face∈LV (d+1):=by rw [hf]; simp
 obtain ⟨q1,q2,q3⟩:=pulD_cell h hn h1 d face hfm c' hc'
 have hb:∀x∈c',0≤x∧x < (n:Int):=fun x hx=>(h.row _ _ hfm).2 x (q3 x hx)
 obtain ⟨r1,r2⟩:=cellL_len (fun x hx=>by have:=hb x hx; omega) q2
 exact ⟨by rw [r1,q1],fun x hx=>hb x (r2 x hx)⟩
end Go.Proofs.YtfhjjpiakffagaaGreatDoor
