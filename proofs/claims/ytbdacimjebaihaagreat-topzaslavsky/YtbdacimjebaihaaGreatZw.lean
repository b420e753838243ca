import Derived.Test.YtbdacimjebaihaaGreatZq4
import Derived.Test.YtbdacimjebaihaaGreatHgA
import Derived.Test.YtbdacimjebaihaaGreatCutA
import Derived.Test.YtbdacimjebaihaaGreatFlD
namespace Go.Proofs.YtbdacimjebaihaaGreat
open Go.RowKit Lin
attribute [local go_sem ↓] Go.wp_at_zero Go.wp_at_succ
theorem whC_top {d:Nat} {P:List (List Int)} (hP:∀i,i < P.length→∃j,j < d∧V (P.getD i []) j≠0) (hd:1≤d):whC d P d=1:=by
 unfold whC
 have h0:(0:Nat) < 2 ^ P.length:=Nat.pow_pos (by decide)
 rw [sumN_one (k:=0) h0 (fun s hs hne=>?_)]
 ·have hc:cen d P 0=true:=cen_iff.2 ⟨fun _=>1,fun i _ h=>by simp at h,by simp⟩
  have h2:rS d P 0=0:=by
   have:plS P 0=[]:=by simp [plS]
   unfold rS
   rw [this]; rfl
  rw [if_pos hc,h2,if_pos (by omega)]
  decide
 ·by_cases hc:cen d P s=true
  ·rw [if_pos hc,if_neg fun e=>hne (rS_zero hP hs (by omega)),Int.mul_zero]
  ·rw [if_neg hc]
theorem rk_take {d:Nat} {P:List (List Int)} : rk d (P.map (List.take d))=rk d P:=by
 have e:∀(r:List Int) v,dot d (V (r.take d)) v=dot d (V r) v:=fun r v=>dot_congr (fun i hi=>by simp [V,List.getD_eq_getElem?_getD,List.getElem?_take_of_lt hi]) fun _ _=>rfl
 refine rk_eq fun v=>⟨fun h r hr=>?_,fun h r hr=>?_⟩
 ·obtain ⟨p,hp,rfl⟩:=List.mem_map.1 hr
  rw [e]; exact h p hp
 ·rw [←e]; exact h _ (List.mem_map.2 ⟨r,hr,rfl⟩)
theorem whC_bd {d:Nat} {P:List (List Int)} (h6:P.length≤6):∀z∈(List.range (d+1)).map (whC d P),z.natAbs≤64:=fun z hz=>by
 obtain ⟨j,_,rfl⟩:=List.mem_map.1 hz
 unfold whC
 refine Nat.le_trans (sumN_abs fun s _=>?_) (Nat.le_trans (Nat.pow_le_pow_right (by decide) h6) (by decide))
 split
 ·rw [Int.natAbs_mul,sg_abs]
  split <;> decide
 ·decide
set_option maxRecDepth 100000 in
set_option maxHeartbeats 1600000 in
theorem topZaslavsky_any (l:List Int) (dm my:Int) (v:Value) (w:World) (hv:Sl w.heap.size 3 w v (ints l)) (hr:∀z∈l,In64 z) (h1:In64 dm) (h2:In64 my) :
  Calls Tryz.prog 3 #[v,.int .i64 dm,.int .i64 my] w fun e w'=>e=.returned (.bool true)∧Below w.heap.size w w':=by
 obtain ⟨i0,hi0,hz0,hz1,hz2⟩:=info_parts infoSlC
 obtain ⟨vo,vc,rfl,hvc,hvm⟩:=sl_open hv
 have HV:Hid (Sl w.heap.size 3 w (.slice vo l.length vc) (ints l)):=hv
 have HR:Hid (∀z∈l,In64 z):=hr
 have HPK:Hid (∀(c:Int) (n:Nat) (X:World),In64 c→1≤n→n≤100000→Calls Tryz.prog 4 #[.int .i64 c,.int .i64 (n:Int)] X fun e w'=>∃z:Nat,e=.returned (.int .i64 (z:Int))∧z < n∧w'=X):=fun c n X hc h1 h2=>by
  refine (pick_any c n X (by omega) (by omega) hc).mono ?_
  rintro e w' ⟨z,rfl,hz,hw⟩
  exact ⟨z.toNat,by rw [show ((z.toNat:Nat):Int)=z by omega],by omega,hw⟩
 have H1:Hid (In64 dm):=h1
 have H2:Hid (In64 my):=h2
 clear hv hr h1 h2
 by_cases hbig:256 < l.length
 ·have t1:(256:Int) < (l.length:Int):=by omega
  go_enter Tryz.func3,Tryz.ntmps3
  go_wp2
  go_ret
  exact ⟨rfl,Below.refl _ _⟩
 have t1:¬(256:Int) < (l.length:Int):=by omega
 have HPL:Hid (∀(d m:Nat) X,1≤d→d≤3→m≤5→Below w.heap.size w X→Calls Tryz.prog 5 #[.slice vo l.length vc,.int .i64 (d:Int),.int .i64 (m:Int)] X fun e w'=>∃uo uc P,e=.returned (.slice uo P.length uc)∧Mat 0 22 3 w' (.slice uo P.length uc) P∧P.length≤m∧PlG d P∧Below X.heap.size X w'):=fun d m X a1 a2 a3 hX=>planesOf_any w.heap.size l d m _ X (HV.out.below hX (Nat.le_refl _)) HR.out (by omega) a1 a2 (by omega)
 go_enter Tryz.func3,Tryz.ntmps3
 go_wp2_with fail
 refine (HPK.out dm 3 w H1.out (by decide) (by decide)).mono ?_
 rintro e w' ⟨z1,rfl,hz1',hw⟩
 obtain rfl:=hw.symm
 clear hw
 obtain ⟨d,hd⟩:∃d,d=z1+1:=⟨_,rfl⟩
 have hdI:IntKind.i64.wrap (1+(z1:Int))=(d:Int):=by rw [IntKind.wrap_i64]; omega
 have hdI2:(1:Int)+(z1:Int)=(d:Int):=by omega
 have hd1:1≤d:=by omega
 have hd3:d≤3:=by omega
 clear hd
 go_wp2_with fail
 refine (HPK.out my 6 w H2.out (by decide) (by decide)).mono ?_
 rintro e w' ⟨m,rfl,hm,hw⟩
 obtain rfl:=hw.symm
 clear hw
 go_wp2_with fail
 refine (HPL.out d m w hd1 hd3 (by omega) (Below.refl _ _)).mono ?_
 rintro e w1 ⟨uo,uc,P,rfl,hM,hPl,hG,hb1⟩
 have hP5:P.length≤5:=by omega
 have hPn:∀i,i < P.length→∃j,j < d∧V (P.getD i []) j≠0:=fun i hi=>by
  refine Classical.byContradiction fun hn=>hG.one _ (getD_memR hi) ?_
  have h1:rk d [P.getD i []]≤rk d []:=rk_le fun u _ r hr=>by
   rw [List.mem_singleton.1 hr]
   exact dot_zero fun j hj=>Classical.byContradiction fun h=>hn ⟨j,hj,h⟩
  have h2:rk d ([]:List (List Int))=0:=rfl
  unfold rk at h1 h2
  omega
 have HRE:Hid (Calls Tryz.prog 6 #[.int .i64 (d:Int),.slice uo P.length uc] w1 fun e w'=>∃ao ac,e=.returned (.tuple #[.slice ao (grTR d P P.length).length ac,.int .i64 0])∧Below w1.heap.size w1 w'):=(regions_any d P _ w1 hd1 hd3 hG (by omega) hM).mono fun _ _ ⟨ao,ac,h1,_,h3⟩=>⟨ao,ac,h1,h3⟩
 have HBO:Hid (∀X,Below w1.heap.size w1 X→Calls Tryz.prog 7 #[.int .i64 (d:Int),.slice uo P.length uc] X fun e w'=>∃bo bc,e=.returned (.tuple #[.slice bo ((grTR d P P.length).filter fun t=>!opB d (clR P t)).length bc,.int .i64 0])∧Below X.heap.size X w'):=fun X hX=>bounded_any d P _ X hd1 hd3 hG (by omega) (hM.below hX (Nat.le_refl _))
 have HPO:Hid (∀X,Below w1.heap.size w1 X→Calls Tryz.prog 8 #[.int .i64 (d:Int),.slice uo P.length uc] X fun e w'=>∃co cc,e=.returned (.tuple #[.slice co (d+1) cc,.int .i64 0])∧Sl 0 3 w' (.slice co (d+1) cc) (ints ((List.range (d+1)).map (whC d P)))∧Below X.heap.size X w'):=fun X hX=>poly_any d P _ X hd1 hd3 hG hP5 (hM.below hX (Nat.le_refl _))
 have HZ1:Hid ((grTR d P P.length).length=(hor (-1) ((List.range (d+1)).map (whC d P))).natAbs):=by
  show _=_
  rw [zas_reg (by omega),hor_sum]
  congr 1
  have e:((List.range (d+1)).map (whC d P)).length=d+1:=by simp
  rw [e]
  exact sumN_congr fun j hj=>by simp [hj]
 have HZ2:Hid (((grTR d P P.length).filter fun t=>!opB d (clR P t)).length=if rk d P=d then (hor 1 ((List.range (d+1)).map (whC d P))).natAbs else 0):=by
  show _=_
  rw [zas_bd (by omega),hor_sum]
  have e:((List.range (d+1)).map (whC d P)).length=d+1:=by simp
  rw [e]
  have e2:(sumN (d+1) fun j=>whC d P j*(1:Int) ^ j)=sumN (d+1) fun j=>((List.range (d+1)).map (whC d P)).getD j 0*1 ^ j:=sumN_congr fun j hj=>by simp [hj]
  rw [e2]
 have HTP:Hid (((List.range (d+1)).map (whC d P)).getD d 0=1):=by
  show _=_
  have:((List.range (d+1)).map (whC d P)).getD d 0=whC d P d:=by simp
  rw [this]
  exact whC_top hPn hd1
 have HWB:Hid (∀z∈(List.range (d+1)).map (whC d P),z.natAbs≤64):=whC_bd (by omega)
 have HLL:Hid (((List.range (d+1)).map (whC d P)).length=d+1):=by show _=_; simp
 have HRK:Hid (∀(u:Value) X,Mat 0 22 3 X u (P.map (List.take d))→Calls Tryz.prog 10 #[u] X fun e w'=>e=.returned (.int .i64 (rk d P:Nat))∧Below X.heap.size X w'):=fun u X hu=>by
  have:=rankR_any d 60 0 (P.map (List.take d)) u X ⟨fun r hr=>by
   obtain ⟨p,hp,rfl⟩:=List.mem_map.1 hr
   rw [List.length_take,(hG.row p hp).1]; omega,fun r hr z hz=>by
   obtain ⟨p,hp,rfl⟩:=List.mem_map.1 hr
   have:=(hG.row p hp).2 z (List.mem_of_mem_take hz)
   omega,by omega,by omega,by decide,by
   rcases (show d=1∨d=2∨d=3 by omega) with rfl | rfl | rfl <;> decide⟩ hu (by simp; omega)
  have e:(pickL d (P.map (List.take d))).length=rk d P:=rk_take
  rw [e] at this
  exact this
 have HRW:Hid (∀k,k < P.length→∃pb po rb ro rc,uo=some ⟨pb,po,none⟩∧d+1≤rc∧rc≤9223372036854775807∧∀X,Below w1.heap.size w1 X→X.cell? ⟨pb,po+k,none⟩=some (.slice (some ⟨rb,ro,none⟩) (d+1) rc)∧Sl 0 3 X (.slice (some ⟨rb,ro,none⟩) d rc) (ints ((P.map (List.take d)).getD k []))):=fun k hk=>by
  obtain ⟨pb,po,cap,rv,e1,_,hc1,hs1⟩:=mat_cell hM hk
  simp only [Value.slice.injEq] at e1
  have hpl:=(hG.row _ (getD_memR hk)).1
  obtain ⟨ro',rc,hrv,hrc1,hrc2⟩:=sl_open hs1
  rw [hpl] at hrv hrc1
  obtain ⟨rb,ro,cp2,hs2,hc2,hcc2⟩:=sl_cell hs1 (show d < (P.getD k []).length by omega)
  rw [hrv] at hs2
  simp only [Value.slice.injEq] at hs2
  obtain ⟨hro,_,_⟩:=hs2
  subst hro
  refine ⟨pb,po,rb,ro,rc,e1.1,hrc1,hrc2,fun X hX=>⟨(hX.cell (lt_of_cell hc1)).trans (by rw [hc1,hrv]),?_⟩⟩
  have e3:(P.map (List.take d)).getD k []=(P.getD k []).take d:=by simp [hk]
  rw [e3]
  have hsx:=hs1.below hX (Nat.le_refl _)
  rw [hrv] at hsx
  obtain ⟨ao,cap3,e4,q2,q3,q4,q5⟩:=hsx
  simp only [Value.slice.injEq] at e4
  obtain ⟨rfl,_,rfl⟩:=e4
  have hlt:((P.getD k []).take d).length=d:=by rw [List.length_take]; omega
  refine ⟨some ⟨rb,ro,none⟩,rc,by rw [ints_length,hlt],by rw [ints_length,hlt]; omega,q3,fun i hi=>?_,q5⟩
  rw [ints_length,hlt] at hi
  obtain ⟨b,o,s1,s2,s3⟩:=q4 i (by rw [ints_length]; omega)
  refine ⟨b,o,s1,?_,s3⟩
  rw [s2,ints_get _ _ (by omega),ints_get _ _ (by omega)]
  simp only [List.getD_eq_getElem?_getD]
  rw [List.getElem?_take_of_lt hi]
 have HB1:Hid (Below w.heap.size w w1):=hb1
 clear hM hG hPn hb1 HPL HR HV HPK
 generalize ((List.range (d+1)).map (whC d P))=cf at *
 generalize ((grTR d P P.length).filter fun t=>!opB d (clR P t))=FL at *
 generalize grTR d P P.length=GL at *
 have hrkc:rk d P≤d:=rk_cap d P
 go_wp2_with fail
 refine HRE.out.mono ?_
 rintro e w2 ⟨ao,ac,rfl,hb2⟩
 have HB2:Hid (Below w1.heap.size w1 w2):=hb2
 clear hb2 HRE
 go_wp2_with fail
 refine (HBO.out w2 HB2.out).mono ?_
 rintro e w3 ⟨bo,bc,rfl,hb3⟩
 have HB3:Hid (Below w1.heap.size w1 w3):=HB2.out.trans (hb3.mono HB2.out.size)
 clear hb3 HBO HB2
 go_wp2_with fail
 refine (HPO.out w3 HB3.out).mono ?_
 rintro e w4 ⟨co,cc,rfl,hs4,hb4⟩
 have HB4:Hid (Below w1.heap.size w1 w4):=HB3.out.trans (hb4.mono HB3.out.size)
 obtain ⟨cb,cof,ccp,hce,hc0,hcd⟩:=sl_cell hs4 (show d < cf.length by rw [HLL.out]; omega)
 simp only [Value.slice.injEq] at hce
 obtain ⟨hco,-,-⟩:=hce
 subst hco
 rw [HTP.out] at hcd
 have HS4:Hid (Sl 0 3 w4 (.slice (some ⟨cb,cof,none⟩) (d+1) cc) (ints cf)):=hs4
 have HV1:Hid (∀X,Below w4.heap.size w4 X→Calls Tryz.prog 9 #[.slice (some ⟨cb,cof,none⟩) (d+1) cc,.int .i64 (-1)] X fun e w'=>e=.returned (.int .i64 (hor (-1) cf))∧w'=X):=fun X hX=>value_any 0 cf (-1) _ X (HS4.out.below hX (Nat.le_refl _)) (by rw [HLL.out]; omega) (fun z hz=>Nat.le_trans (HWB.out z hz) (by decide)) (by decide)
 have HV2:Hid (∀X,Below w4.heap.size w4 X→Calls Tryz.prog 9 #[.slice (some ⟨cb,cof,none⟩) (d+1) cc,.int .i64 1] X fun e w'=>e=.returned (.int .i64 (hor 1 cf))∧w'=X):=fun X hX=>value_any 0 cf 1 _ X (HS4.out.below hX (Nat.le_refl _)) (by rw [HLL.out]; omega) (fun z hz=>Nat.le_trans (HWB.out z hz) (by decide)) (by decide)
 have hx1:(hor (-1) cf).natAbs≤200000000000000000:=by
  have h1:=hor_abs (x:=-1) (by decide) cf fun z hz=>Nat.le_trans (HWB.out z hz) (by decide)
  have h3:1001 ^ cf.length≤1001 ^ 4:=Nat.pow_le_pow_right (by decide) (by rw [HLL.out]; omega)
  have h4:(1001:Nat) ^ 4≤1004006004001:=by decide
  omega
 have hx2:(hor 1 cf).natAbs≤200000000000000000:=by
  have h1:=hor_abs (x:=1) (by decide) cf fun z hz=>Nat.le_trans (HWB.out z hz) (by decide)
  have h3:1001 ^ cf.length≤1001 ^ 4:=Nat.pow_le_pow_right (by decide) (by rw [HLL.out]; omega)
  have h4:(1001:Nat) ^ 4≤1004006004001:=by decide
  omega
 generalize hor (-1) cf=X1 at *
 generalize hor 1 cf=X2 at *
 have hld:((d:Int)+1 == (d:Int)+1)=true:=by simp
 have hddI:(d:Int) < (d:Int)+1:=by omega
 have HW1:Hid (wrap64 (-X1)=-X1):=IntWalk.wrap64_in _ ⟨by omega,by omega⟩
 have HW2:Hid (wrap64 (-X2)=-X2):=IntWalk.wrap64_in _ ⟨by omega,by omega⟩
 clear hs4 hb4 HPO HB3 HTP HWB hc0 hx1 hx2
 go_wp2_with fail
 refine (HV1.out w4 (Below.refl _ _)).mono ?_
 rintro e w5 ⟨rfl,hw5⟩
 obtain rfl:=hw5.symm
 clear hw5
 go_wp2_with fail
 refine (HV2.out _ (Below.refl _ _)).mono ?_
 rintro e w5 ⟨rfl,hw5⟩
 obtain rfl:=hw5.symm
 clear hw5 HV1 HV2 hcd HS4
 by_cases hs1:X1 < 0 <;> by_cases hs2:X2 < 0
 ·have HA1:Hid (((GL.length:Int) == (wrap64 (-X1)))=true):=by
   show _=_
   have e:=HW1.out
   rw [beq_iff_eq,HZ1.out]
   omega
  have HA2:Hid (rk d P=d→((FL.length:Int) == (wrap64 (-X2)))=true):=fun h=>by
   have e:=HW2.out
   rw [beq_iff_eq,HZ2.out,if_pos h]
   omega
  have HA3:Hid (rk d P≠d→((FL.length:Int) == 0)=true):=fun h=>by
   rw [beq_iff_eq,HZ2.out,if_neg h]
   rfl
  go_wp2
  go_loopw [16,17] (fun u i wr=>∃(k:Nat) (xo:Option Addr) (xc:Nat),k≤P.length∧i=.int .i64 (k:Int)∧u=.slice xo k xc∧Fr w1.heap.size 22 3 wr (.slice xo k xc) ((P.map (List.take d)).take k)∧Below w1.heap.size w1 wr) (fun _ i _=>P.length-(intOf i).toNat)
  case atStart=>exact ⟨0,none,0,Nat.zero_le _,rfl,rfl,Fr.nil _ _ _ _,HB4.out⟩
  case round=>
   obtain ⟨k,xo,xc,hk,rfl,rfl,hfr,hbk⟩:=hrel
   have HBK:Hid (Below w1.heap.size w1 wr):=hbk
   have HTL:Hid (∀k,k≤P.length→((P.map (List.take d)).take k).length=k):=fun k hk=>by rw [List.length_take,List.length_map]; omega
   obtain ⟨vs,f1,f2,f3⟩:=hfr
   rw [HTL.out k hk] at f1 f2 f3
   by_cases hlt:k < P.length
   ·obtain ⟨pb,po,rb,ro,rc,hvo,hrc1,hrc2,hx⟩:=HRW.out k hlt
    subst hvo
    obtain ⟨q1,q2⟩:=hx wr hbk
    have hkI:(k:Int) < (P.length:Int):=by omega
    have hcut:∀X:World,(Instr.slice 22 (.slice (some ⟨rb,ro,none⟩) (d+1) rc) none (some (.int .i64 (d:Int))) none).run Tryz.prog X=.ok (.slice (some ⟨rb,ro,none⟩) d rc) X:=fun X=>by
     have e1:(0:Int)≤(d:Int)∧(d:Int)≤(rc:Int):=by omega
     have e2:d≤rc:=by omega
     have hz:∀w,(Go.sizeOf 3).run Tryz.prog w=.ok 1 w:=fun w=>by kernel_rfl
     simp [Instr.slice,Instr.sliceBounds,Instr.sliceBound,run_underlying Tryz.underlying22,asIntOf,e1,e2,hz,Addr.add,go_sem]
    have F1:Hid (vs.length=((P.map (List.take d)).take k).length):=by show _=_; rw [HTL.out k hk]; exact f1
    have F2:Hid (wr.ownsRow w1.heap.size 22 1 (.slice xo k xc) k vs):=f2
    have F3:Hid (∀i,i < k→Sl 0 3 wr (vs.getD i (.slice none 0 0)) (ints (((P.map (List.take d)).take k).getD i []))):=f3
    have HSU:Hid ((P.map (List.take d)).take (k+1)=(P.map (List.take d)).take k ++ [(P.map (List.take d)).getD k []]):=by
     show _=_
     rw [List.take_succ_eq_append_getElem (by simpa using hlt)]
     simp [hlt]
    have HQ2:Hid (Sl 0 3 wr (.slice (some ⟨rb,ro,none⟩) d rc) (ints ((P.map (List.take d)).getD k []))):=q2
    have hszr:w1.heap.size≤wr.heap.size:=hbk.size
    clear f1 f2 f3 q2 hx hbk hlt
    go_wp2_with (first | (at_builtin; refine wpList_append_own _ rfl _ _ 24 rfl w1.heap.size 22 i0 (.slice none 0 0) 1 24 Tryz.underlying24 hi0 hz0 hz1 hz2 rfl (by decide) _ _ _ rfl (F2.out.alloc _) ⟨wr.heap.size,0,none⟩ 1 1 [.slice (some ⟨rb,ro,none⟩) d rc] rfl rfl (one_new _ _ _) (one_slice _ _ _) ?d3 ?d4 ?d5 ?_))
    case d3=>unfold maxLen; omega
    case d4=>omega
    case d5=>first | exact hszr | omega | (simp; omega)
    intro v' w9 ho hg _
    have R1:Hid (Fr w1.heap.size 22 3 w9 v' ((P.map (List.take d)).take (k+1))):=by
     rw [HSU.out]
     refine Fr.push (e2:=22) (e1:=3) (vs:=vs) (v:=.slice xo k xc) (by decide) F1.out (by rw [HTL.out k hk]; exact F2.out.alloc _) (fun i hi=>(F3.out i (by rw [HTL.out k hk] at hi; exact hi)).alloc _) (HQ2.out.alloc _) (by rw [HTL.out k hk]; exact ho) hg
    have R2:Hid (Below w1.heap.size w1 w9):=(HBK.out.alloc hszr _).grown hg (by simp; omega) (fun x hx=>(F2.out.lt x hx).1)
    obtain ⟨yo,yc,hyv⟩:=owns_form ho
    subst hyv
    have hk1:k+1≤P.length:=by omega
    clear ho hg hcut
    go_wp2
    go_roundw
    case rel=>exact ⟨k+1,yo,yc,hk1,by go_num,rfl,R1.out,R2.out⟩
    case measure=>simp [intOf]; omega
   ·have hke:k=P.length:=by omega
    subst hke
    have HMM:Hid (Mat 0 22 3 wr (.slice xo P.length xc) (P.map (List.take d))):=by
     have e:(P.map (List.take d)).take P.length=P.map (List.take d):=List.take_of_length_le (by simp)
     rw [e] at f3
     exact ⟨vs,by rw [f1]; simp,Sl.own f2,fun i hi=>f3 i (by simpa using hi)⟩
    have HKR:=HRK.out _ wr HMM.out
    clear f1 f2 f3 hbk HMM hlt hk
    go_wp2_with fail
    refine HKR.mono ?_
    rintro e w6 ⟨rfl,hb6⟩
    have HB6:Hid (Below w.heap.size w w6):=HB1.out.trans ((HBK.out.trans (hb6.mono HBK.out.size)).mono HB1.out.size)
    clear hb6 HKR
    have hA1:=HA1.out
    by_cases hrk:rk d P=d
    ·have hA2:=HA2.out hrk
     have hri:¬((rk d P:Nat):Int) < (d:Int):=by omega
     have hri2:decide (rk d P < d)=false:=decide_eq_false (by omega)
     generalize rk d P=rr at *
     clear hrk HA1 HA2 HA3 HZ1 HZ2
     go_wp2
     go_ret
     exact ⟨ret_bool (by simp_all),HB6.out⟩
    ·have hA3:=HA3.out hrk
     have hri:((rk d P:Nat):Int) < (d:Int):=by omega
     have hri2:decide (rk d P < d)=true:=decide_eq_true (by omega)
     generalize rk d P=rr at *
     clear hrk HA1 HA2 HA3 HZ1 HZ2
     go_wp2
     go_ret
     exact ⟨ret_bool (by simp_all),HB6.out⟩
 ·have HA1:Hid (((GL.length:Int) == (wrap64 (-X1)))=true):=by
   show _=_
   have e:=HW1.out
   rw [beq_iff_eq,HZ1.out]
   omega
  have HA2:Hid (rk d P=d→((FL.length:Int) == (X2))=true):=fun h=>by
   have e:=HW2.out
   rw [beq_iff_eq,HZ2.out,if_pos h]
   omega
  have HA3:Hid (rk d P≠d→((FL.length:Int) == 0)=true):=fun h=>by
   rw [beq_iff_eq,HZ2.out,if_neg h]
   rfl
  go_wp2
  go_loopw [16,17] (fun u i wr=>∃(k:Nat) (xo:Option Addr) (xc:Nat),k≤P.length∧i=.int .i64 (k:Int)∧u=.slice xo k xc∧Fr w1.heap.size 22 3 wr (.slice xo k xc) ((P.map (List.take d)).take k)∧Below w1.heap.size w1 wr) (fun _ i _=>P.length-(intOf i).toNat)
  case atStart=>exact ⟨0,none,0,Nat.zero_le _,rfl,rfl,Fr.nil _ _ _ _,HB4.out⟩
  case round=>
   obtain ⟨k,xo,xc,hk,rfl,rfl,hfr,hbk⟩:=hrel
   have HBK:Hid (Below w1.heap.size w1 wr):=hbk
   have HTL:Hid (∀k,k≤P.length→((P.map (List.take d)).take k).length=k):=fun k hk=>by rw [List.length_take,List.length_map]; omega
   obtain ⟨vs,f1,f2,f3⟩:=hfr
   rw [HTL.out k hk] at f1 f2 f3
   by_cases hlt:k < P.length
   ·obtain ⟨pb,po,rb,ro,rc,hvo,hrc1,hrc2,hx⟩:=HRW.out k hlt
    subst hvo
    obtain ⟨q1,q2⟩:=hx wr hbk
    have hkI:(k:Int) < (P.length:Int):=by omega
    have hcut:∀X:World,(Instr.slice 22 (.slice (some ⟨rb,ro,none⟩) (d+1) rc) none (some (.int .i64 (d:Int))) none).run Tryz.prog X=.ok (.slice (some ⟨rb,ro,none⟩) d rc) X:=fun X=>by
     have e1:(0:Int)≤(d:Int)∧(d:Int)≤(rc:Int):=by omega
     have e2:d≤rc:=by omega
     have hz:∀w,(Go.sizeOf 3).run Tryz.prog w=.ok 1 w:=fun w=>by kernel_rfl
     simp [Instr.slice,Instr.sliceBounds,Instr.sliceBound,run_underlying Tryz.underlying22,asIntOf,e1,e2,hz,Addr.add,go_sem]
    have F1:Hid (vs.length=((P.map (List.take d)).take k).length):=by show _=_; rw [HTL.out k hk]; exact f1
    have F2:Hid (wr.ownsRow w1.heap.size 22 1 (.slice xo k xc) k vs):=f2
    have F3:Hid (∀i,i < k→Sl 0 3 wr (vs.getD i (.slice none 0 0)) (ints (((P.map (List.take d)).take k).getD i []))):=f3
    have HSU:Hid ((P.map (List.take d)).take (k+1)=(P.map (List.take d)).take k ++ [(P.map (List.take d)).getD k []]):=by
     show _=_
     rw [List.take_succ_eq_append_getElem (by simpa using hlt)]
     simp [hlt]
    have HQ2:Hid (Sl 0 3 wr (.slice (some ⟨rb,ro,none⟩) d rc) (ints ((P.map (List.take d)).getD k []))):=q2
    have hszr:w1.heap.size≤wr.heap.size:=hbk.size
    clear f1 f2 f3 q2 hx hbk hlt
    go_wp2_with (first | (at_builtin; refine wpList_append_own _ rfl _ _ 24 rfl w1.heap.size 22 i0 (.slice none 0 0) 1 24 Tryz.underlying24 hi0 hz0 hz1 hz2 rfl (by decide) _ _ _ rfl (F2.out.alloc _) ⟨wr.heap.size,0,none⟩ 1 1 [.slice (some ⟨rb,ro,none⟩) d rc] rfl rfl (one_new _ _ _) (one_slice _ _ _) ?d3 ?d4 ?d5 ?_))
    case d3=>unfold maxLen; omega
    case d4=>omega
    case d5=>first | exact hszr | omega | (simp; omega)
    intro v' w9 ho hg _
    have R1:Hid (Fr w1.heap.size 22 3 w9 v' ((P.map (List.take d)).take (k+1))):=by
     rw [HSU.out]
     refine Fr.push (e2:=22) (e1:=3) (vs:=vs) (v:=.slice xo k xc) (by decide) F1.out (by rw [HTL.out k hk]; exact F2.out.alloc _) (fun i hi=>(F3.out i (by rw [HTL.out k hk] at hi; exact hi)).alloc _) (HQ2.out.alloc _) (by rw [HTL.out k hk]; exact ho) hg
    have R2:Hid (Below w1.heap.size w1 w9):=(HBK.out.alloc hszr _).grown hg (by simp; omega) (fun x hx=>(F2.out.lt x hx).1)
    obtain ⟨yo,yc,hyv⟩:=owns_form ho
    subst hyv
    have hk1:k+1≤P.length:=by omega
    clear ho hg hcut
    go_wp2
    go_roundw
    case rel=>exact ⟨k+1,yo,yc,hk1,by go_num,rfl,R1.out,R2.out⟩
    case measure=>simp [intOf]; omega
   ·have hke:k=P.length:=by omega
    subst hke
    have HMM:Hid (Mat 0 22 3 wr (.slice xo P.length xc) (P.map (List.take d))):=by
     have e:(P.map (List.take d)).take P.length=P.map (List.take d):=List.take_of_length_le (by simp)
     rw [e] at f3
     exact ⟨vs,by rw [f1]; simp,Sl.own f2,fun i hi=>f3 i (by simpa using hi)⟩
    have HKR:=HRK.out _ wr HMM.out
    clear f1 f2 f3 hbk HMM hlt hk
    go_wp2_with fail
    refine HKR.mono ?_
    rintro e w6 ⟨rfl,hb6⟩
    have HB6:Hid (Below w.heap.size w w6):=HB1.out.trans ((HBK.out.trans (hb6.mono HBK.out.size)).mono HB1.out.size)
    clear hb6 HKR
    have hA1:=HA1.out
    by_cases hrk:rk d P=d
    ·have hA2:=HA2.out hrk
     have hri:¬((rk d P:Nat):Int) < (d:Int):=by omega
     have hri2:decide (rk d P < d)=false:=decide_eq_false (by omega)
     generalize rk d P=rr at *
     clear hrk HA1 HA2 HA3 HZ1 HZ2
     go_wp2
     go_ret
     exact ⟨ret_bool (by simp_all),HB6.out⟩
    ·have hA3:=HA3.out hrk
     have hri:((rk d P:Nat):Int) < (d:Int):=by omega
     have hri2:decide (rk d P < d)=true:=decide_eq_true (by omega)
     generalize rk d P=rr at *
     clear hrk HA1 HA2 HA3 HZ1 HZ2
     go_wp2
     go_ret
     exact ⟨ret_bool (by simp_all),HB6.out⟩
 ·have HA1:Hid (((GL.length:Int) == (X1))=true):=by
   show _=_
   have e:=HW1.out
   rw [beq_iff_eq,HZ1.out]
   omega
  have HA2:Hid (rk d P=d→((FL.length:Int) == (wrap64 (-X2)))=true):=fun h=>by
   have e:=HW2.out
   rw [beq_iff_eq,HZ2.out,if_pos h]
   omega
  have HA3:Hid (rk d P≠d→((FL.length:Int) == 0)=true):=fun h=>by
   rw [beq_iff_eq,HZ2.out,if_neg h]
   rfl
  go_wp2
  go_loopw [16,17] (fun u i wr=>∃(k:Nat) (xo:Option Addr) (xc:Nat),k≤P.length∧i=.int .i64 (k:Int)∧u=.slice xo k xc∧Fr w1.heap.size 22 3 wr (.slice xo k xc) ((P.map (List.take d)).take k)∧Below w1.heap.size w1 wr) (fun _ i _=>P.length-(intOf i).toNat)
  case atStart=>exact ⟨0,none,0,Nat.zero_le _,rfl,rfl,Fr.nil _ _ _ _,HB4.out⟩
  case round=>
   obtain ⟨k,xo,xc,hk,rfl,rfl,hfr,hbk⟩:=hrel
   have HBK:Hid (Below w1.heap.size w1 wr):=hbk
   have HTL:Hid (∀k,k≤P.length→((P.map (List.take d)).take k).length=k):=fun k hk=>by rw [List.length_take,List.length_map]; omega
   obtain ⟨vs,f1,f2,f3⟩:=hfr
   rw [HTL.out k hk] at f1 f2 f3
   by_cases hlt:k < P.length
   ·obtain ⟨pb,po,rb,ro,rc,hvo,hrc1,hrc2,hx⟩:=HRW.out k hlt
    subst hvo
    obtain ⟨q1,q2⟩:=hx wr hbk
    have hkI:(k:Int) < (P.length:Int):=by omega
    have hcut:∀X:World,(Instr.slice 22 (.slice (some ⟨rb,ro,none⟩) (d+1) rc) none (some (.int .i64 (d:Int))) none).run Tryz.prog X=.ok (.slice (some ⟨rb,ro,none⟩) d rc) X:=fun X=>by
     have e1:(0:Int)≤(d:Int)∧(d:Int)≤(rc:Int):=by omega
     have e2:d≤rc:=by omega
     have hz:∀w,(Go.sizeOf 3).run Tryz.prog w=.ok 1 w:=fun w=>by kernel_rfl
     simp [Instr.slice,Instr.sliceBounds,Instr.sliceBound,run_underlying Tryz.underlying22,asIntOf,e1,e2,hz,Addr.add,go_sem]
    have F1:Hid (vs.length=((P.map (List.take d)).take k).length):=by show _=_; rw [HTL.out k hk]; exact f1
    have F2:Hid (wr.ownsRow w1.heap.size 22 1 (.slice xo k xc) k vs):=f2
    have F3:Hid (∀i,i < k→Sl 0 3 wr (vs.getD i (.slice none 0 0)) (ints (((P.map (List.take d)).take k).getD i []))):=f3
    have HSU:Hid ((P.map (List.take d)).take (k+1)=(P.map (List.take d)).take k ++ [(P.map (List.take d)).getD k []]):=by
     show _=_
     rw [List.take_succ_eq_append_getElem (by simpa using hlt)]
     simp [hlt]
    have HQ2:Hid (Sl 0 3 wr (.slice (some ⟨rb,ro,none⟩) d rc) (ints ((P.map (List.take d)).getD k []))):=q2
    have hszr:w1.heap.size≤wr.heap.size:=hbk.size
    clear f1 f2 f3 q2 hx hbk hlt
    go_wp2_with (first | (at_builtin; refine wpList_append_own _ rfl _ _ 24 rfl w1.heap.size 22 i0 (.slice none 0 0) 1 24 Tryz.underlying24 hi0 hz0 hz1 hz2 rfl (by decide) _ _ _ rfl (F2.out.alloc _) ⟨wr.heap.size,0,none⟩ 1 1 [.slice (some ⟨rb,ro,none⟩) d rc] rfl rfl (one_new _ _ _) (one_slice _ _ _) ?d3 ?d4 ?d5 ?_))
    case d3=>unfold maxLen; omega
    case d4=>omega
    case d5=>first | exact hszr | omega | (simp; omega)
    intro v' w9 ho hg _
    have R1:Hid (Fr w1.heap.size 22 3 w9 v' ((P.map (List.take d)).take (k+1))):=by
     rw [HSU.out]
     refine Fr.push (e2:=22) (e1:=3) (vs:=vs) (v:=.slice xo k xc) (by decide) F1.out (by rw [HTL.out k hk]; exact F2.out.alloc _) (fun i hi=>(F3.out i (by rw [HTL.out k hk] at hi; exact hi)).alloc _) (HQ2.out.alloc _) (by rw [HTL.out k hk]; exact ho) hg
    have R2:Hid (Below w1.heap.size w1 w9):=(HBK.out.alloc hszr _).grown hg (by simp; omega) (fun x hx=>(F2.out.lt x hx).1)
    obtain ⟨yo,yc,hyv⟩:=owns_form ho
    subst hyv
    have hk1:k+1≤P.length:=by omega
    clear ho hg hcut
    go_wp2
    go_roundw
    case rel=>exact ⟨k+1,yo,yc,hk1,by go_num,rfl,R1.out,R2.out⟩
    case measure=>simp [intOf]; omega
   ·have hke:k=P.length:=by omega
    subst hke
    have HMM:Hid (Mat 0 22 3 wr (.slice xo P.length xc) (P.map (List.take d))):=by
     have e:(P.map (List.take d)).take P.length=P.map (List.take d):=List.take_of_length_le (by simp)
     rw [e] at f3
     exact ⟨vs,by rw [f1]; simp,Sl.own f2,fun i hi=>f3 i (by simpa using hi)⟩
    have HKR:=HRK.out _ wr HMM.out
    clear f1 f2 f3 hbk HMM hlt hk
    go_wp2_with fail
    refine HKR.mono ?_
    rintro e w6 ⟨rfl,hb6⟩
    have HB6:Hid (Below w.heap.size w w6):=HB1.out.trans ((HBK.out.trans (hb6.mono HBK.out.size)).mono HB1.out.size)
    clear hb6 HKR
    have hA1:=HA1.out
    by_cases hrk:rk d P=d
    ·have hA2:=HA2.out hrk
     have hri:¬((rk d P:Nat):Int) < (d:Int):=by omega
     have hri2:decide (rk d P < d)=false:=decide_eq_false (by omega)
     generalize rk d P=rr at *
     clear hrk HA1 HA2 HA3 HZ1 HZ2
     go_wp2
     go_ret
     exact ⟨ret_bool (by simp_all),HB6.out⟩
    ·have hA3:=HA3.out hrk
     have hri:((rk d P:Nat):Int) < (d:Int):=by omega
     have hri2:decide (rk d P < d)=true:=decide_eq_true (by omega)
     generalize rk d P=rr at *
     clear hrk HA1 HA2 HA3 HZ1 HZ2
     go_wp2
     go_ret
     exact ⟨ret_bool (by simp_all),HB6.out⟩
 ·have HA1:Hid (((GL.length:Int) == (X1))=true):=by
   show _=_
   have e:=HW1.out
   rw [beq_iff_eq,HZ1.out]
   omega
  have HA2:Hid (rk d P=d→((FL.length:Int) == (X2))=true):=fun h=>by
   have e:=HW2.out
   rw [beq_iff_eq,HZ2.out,if_pos h]
   omega
  have HA3:Hid (rk d P≠d→((FL.length:Int) == 0)=true):=fun h=>by
   rw [beq_iff_eq,HZ2.out,if_neg h]
   rfl
  go_wp2
  go_loopw [16,17] (fun u i wr=>∃(k:Nat) (xo:Option Addr) (xc:Nat),k≤P.length∧i=.int .i64 (k:Int)∧u=.slice xo k xc∧Fr w1.heap.size 22 3 wr (.slice xo k xc) ((P.map (List.take d)).take k)∧Below w1.heap.size w1 wr) (fun _ i _=>P.length-(intOf i).toNat)
  case atStart=>exact ⟨0,none,0,Nat.zero_le _,rfl,rfl,Fr.nil _ _ _ _,HB4.out⟩
  case round=>
   obtain ⟨k,xo,xc,hk,rfl,rfl,hfr,hbk⟩:=hrel
   have HBK:Hid (Below w1.heap.size w1 wr):=hbk
   have HTL:Hid (∀k,k≤P.length→((P.map (List.take d)).take k).length=k):=fun k hk=>by rw [List.length_take,List.length_map]; omega
   obtain ⟨vs,f1,f2,f3⟩:=hfr
   rw [HTL.out k hk] at f1 f2 f3
   by_cases hlt:k < P.length
   ·obtain ⟨pb,po,rb,ro,rc,hvo,hrc1,hrc2,hx⟩:=HRW.out k hlt
    subst hvo
    obtain ⟨q1,q2⟩:=hx wr hbk
    have hkI:(k:Int) < (P.length:Int):=by omega
    have hcut:∀X:World,(Instr.slice 22 (.slice (some ⟨rb,ro,none⟩) (d+1) rc) none (some (.int .i64 (d:Int))) none).run Tryz.prog X=.ok (.slice (some ⟨rb,ro,none⟩) d rc) X:=fun X=>by
     have e1:(0:Int)≤(d:Int)∧(d:Int)≤(rc:Int):=by omega
     have e2:d≤rc:=by omega
     have hz:∀w,(Go.sizeOf 3).run Tryz.prog w=.ok 1 w:=fun w=>by kernel_rfl
     simp [Instr.slice,Instr.sliceBounds,Instr.sliceBound,run_underlying Tryz.underlying22,asIntOf,e1,e2,hz,Addr.add,go_sem]
    have F1:Hid (vs.length=((P.map (List.take d)).take k).length):=by show _=_; rw [HTL.out k hk]; exact f1
    have F2:Hid (wr.ownsRow w1.heap.size 22 1 (.slice xo k xc) k vs):=f2
    have F3:Hid (∀i,i < k→Sl 0 3 wr (vs.getD i (.slice none 0 0)) (ints (((P.map (List.take d)).take k).getD i []))):=f3
    have HSU:Hid ((P.map (List.take d)).take (k+1)=(P.map (List.take d)).take k ++ [(P.map (List.take d)).getD k []]):=by
     show _=_
     rw [List.take_succ_eq_append_getElem (by simpa using hlt)]
     simp [hlt]
    have HQ2:Hid (Sl 0 3 wr (.slice (some ⟨rb,ro,none⟩) d rc) (ints ((P.map (List.take d)).getD k []))):=q2
    have hszr:w1.heap.size≤wr.heap.size:=hbk.size
    clear f1 f2 f3 q2 hx hbk hlt
    go_wp2_with (first | (at_builtin; refine wpList_append_own _ rfl _ _ 24 rfl w1.heap.size 22 i0 (.slice none 0 0) 1 24 Tryz.underlying24 hi0 hz0 hz1 hz2 rfl (by decide) _ _ _ rfl (F2.out.alloc _) ⟨wr.heap.size,0,none⟩ 1 1 [.slice (some ⟨rb,ro,none⟩) d rc] rfl rfl (one_new _ _ _) (one_slice _ _ _) ?d3 ?d4 ?d5 ?_))
    case d3=>unfold maxLen; omega
    case d4=>omega
    case d5=>first | exact hszr | omega | (simp; omega)
    intro v' w9 ho hg _
    have R1:Hid (Fr w1.heap.size 22 3 w9 v' ((P.map (List.take d)).take (k+1))):=by
     rw [HSU.out]
     refine Fr.push (e2:=22) (e1:=3) (vs:=vs) (v:=.slice xo k xc) (by decide) F1.out (by rw [HTL.out k hk]; exact F2.out.alloc _) (fun i hi=>(F3.out i (by rw [HTL.out k hk] at hi; exact hi)).alloc _) (HQ2.out.alloc _) (by rw [HTL.out k hk]; exact ho) hg
    have R2:Hid (Below w1.heap.size w1 w9):=(HBK.out.alloc hszr _).grown hg (by simp; omega) (fun x hx=>(F2.out.lt x hx).1)
    obtain ⟨yo,yc,hyv⟩:=owns_form ho
    subst hyv
    have hk1:k+1≤P.length:=by omega
    clear ho hg hcut
    go_wp2
    go_roundw
    case rel=>exact ⟨k+1,yo,yc,hk1,by go_num,rfl,R1.out,R2.out⟩
    case measure=>simp [intOf]; omega
   ·have hke:k=P.length:=by omega
    subst hke
    have HMM:Hid (Mat 0 22 3 wr (.slice xo P.length xc) (P.map (List.take d))):=by
     have e:(P.map (List.take d)).take P.length=P.map (List.take d):=List.take_of_length_le (by simp)
     rw [e] at f3
     exact ⟨vs,by rw [f1]; simp,Sl.own f2,fun i hi=>f3 i (by simpa using hi)⟩
    have HKR:=HRK.out _ wr HMM.out
    clear f1 f2 f3 hbk HMM hlt hk
    go_wp2_with fail
    refine HKR.mono ?_
    rintro e w6 ⟨rfl,hb6⟩
    have HB6:Hid (Below w.heap.size w w6):=HB1.out.trans ((HBK.out.trans (hb6.mono HBK.out.size)).mono HB1.out.size)
    clear hb6 HKR
    have hA1:=HA1.out
    by_cases hrk:rk d P=d
    ·have hA2:=HA2.out hrk
     have hri:¬((rk d P:Nat):Int) < (d:Int):=by omega
     have hri2:decide (rk d P < d)=false:=decide_eq_false (by omega)
     generalize rk d P=rr at *
     clear hrk HA1 HA2 HA3 HZ1 HZ2
     go_wp2
     go_ret
     exact ⟨ret_bool (by simp_all),HB6.out⟩
    ·have hA3:=HA3.out hrk
     have hri:((rk d P:Nat):Int) < (d:Int):=by omega
     have hri2:decide (rk d P < d)=true:=decide_eq_true (by omega)
     generalize rk d P=rr at *
     clear hrk HA1 HA2 HA3 HZ1 HZ2
     go_wp2
     go_ret
     exact ⟨ret_bool (by simp_all),HB6.out⟩
end Go.Proofs.YtbdacimjebaihaaGreat
