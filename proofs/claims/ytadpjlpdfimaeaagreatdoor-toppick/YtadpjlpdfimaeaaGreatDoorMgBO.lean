import Derived.Test.YtadpjlpdfimaeaaGreatDoorMgBN
import Derived.Test.YtadpjlpdfimaeaaGreatDoorCt24
import Derived.Test.YtadpjlpdfimaeaaGreatDoorMgBA
import Derived.Test.YtadpjlpdfimaeaaGreatDoorMgAS
import Derived.Test.YtadpjlpdfimaeaaGreatDoorMgAI
import Derived.Test.YtadpjlpdfimaeaaGreatDoorMgAA
import Derived.Deep.Matrix
import Derived.Carry
namespace Go.Proofs.YtadpjlpdfimaeaaGreatDoor
open Go.RowKit Lin
attribute [local go_sem ↓] Go.wp_at_zero Go.wp_at_succ
theorem norm_60 {m:List (List Int)} (hx:Mx 2 60 m):∀z∈normL 2 m,z.natAbs≤60:=by
 intro z hz
 unfold normL at hz
 split at hz
 ·rename_i hl
  refine upr_bd (low_bd (fun z hz=>?_)) z hz
  simp only [muL,List.mem_map,List.mem_range] at hz
  obtain ⟨k,hk,rfl⟩:=hz
  unfold Lin.mu
  rw [Int.natAbs_mul]
  have h2:(Lin.ngo k).natAbs=1:=by rw [ngo_mod]; by_cases e:k % 2=1 <;> simp [e]
  rw [h2,Nat.one_mul,fm_length]
  have h5:Lin.fb 60 1=60:=by decide
  have m2:Lin.fb 60 (pickL 2 m).length≤Lin.fb 60 1:=fb_mono (by decide) (by omega)
  have hb:=Lin.od_bd (n:=(pickL 2 m).length) (B:=60) (Lin.cols (fm (pickL 2 m)) (Lin.skp k)) (fun _=>false) (fun r hr j hj=>by
   simp only [Lin.cols,fm,List.mem_map] at hr
   obtain ⟨_,⟨l,hl',rfl⟩,rfl⟩:=hr
   by_cases hi:Lin.skp k j < l.length
   ·exact hx.bd l (pickL_mem hl') _ (by simp [hi])
   ·simp only [List.getD_eq_getElem?_getD]; rw [List.getElem?_eq_none (by omega)]; simp) (by rw [Lin.cu_none]; simp [Lin.cols,fm])
  have hl2:(Lin.cols (fm (pickL 2 m)) (Lin.skp k)).length=(pickL 2 m).length:=by simp [Lin.cols,fm]
  rw [hl2] at hb
  omega
 ·simp at hz
theorem row2_bd {P:List (List Int)} (hP:Box 2 30 P) {r:List Int} (hr:r∈rowsD P 2):(∀i,i < 2→(r.getD i 0).natAbs≤60)∧(r.getD 2 0).natAbs≤10000:=by
 unfold rowsD at hr
 obtain ⟨c,hc,hr⟩:=List.mem_flatMap.1 hr
 have hl:=chosen_row 2 P.length c hc
 have htl:(pks P [] c).length=2:=by rw [←hl]; simp [pks]
 have htm:∀x∈pks P [] c,x∈P:=pks_in fun q hq=>by
  obtain ⟨i,hi,rfl⟩:=List.mem_iff_getElem.1 hq
  have:=(chosen_mem 2 P.length c hc).1 i (by omega)
  simpa [hi] using this
 obtain ⟨σ,hσ,hnb,hre⟩:=rowT_form htl (Option.mem_toList.1 hr)
 have hal:=norm_len hnb
 have hbd:=norm_60 (diff_mx (fun x hx=>hP x (htm x hx)) (by decide) (by decide))
 have h0:(pks P [] c).getD 0 []∈P:=htm _ (by simp [show 0 < (pks P [] c).length by omega])
 have hd:=dotL_bdC (X:=30) hbd (x:=(pks P [] c).getD 0 []) (fun z hz=>by have:=(hP _ h0).2 z hz; omega)
 rw [hal] at hd
 constructor
 ·intro i hi
  have e:r.getD i 0=σ*(normL 2 (diffL (pks P [] c))).getD i 0:=by
   rw [hre]
   have:=V_map (normL 2 (diffL (pks P [] c)) ++ [dotL (normL 2 (diffL (pks P [] c))) ((pks P [] c).getD 0 [])]) σ i
   simp only [V] at this
   rw [this]
   have:=(row_app (b:=dotL (normL 2 (diffL (pks P [] c))) ((pks P [] c).getD 0 [])) hal).2.2.2 i hi
   simp only [V] at this
   rw [this]
  have:=hbd _ (getD_mem (l:=normL 2 (diffL (pks P [] c))) (i:=i) (by omega))
  rw [e,Int.natAbs_mul]
  generalize (normL 2 (diffL (pks P [] c))).getD i 0=q at *
  rcases hσ with rfl | rfl <;> simp <;> omega
 ·have e:r.getD 2 0=σ*dotL (normL 2 (diffL (pks P [] c))) ((pks P [] c).getD 0 []):=by
   rw [hre]
   have:=V_map (normL 2 (diffL (pks P [] c)) ++ [dotL (normL 2 (diffL (pks P [] c))) ((pks P [] c).getD 0 [])]) σ 2
   simp only [V] at this
   rw [this,(row_app hal).2.2.1]
  rw [e,Int.natAbs_mul]
  generalize dotL (normL 2 (diffL (pks P [] c))) ((pks P [] c).getD 0 [])=q at *
  rcases hσ with rfl | rfl <;> simp <;> omega
theorem pick_fld {P s:List (List Int)} (hg:Good 2 P) (h10:P.length≤10) (hs:SAsc s) (hm:∀r,r∈s↔r∈rowsD P 2):Fld 2 s (loL P 2) (hiL P 2) 1∧(∀r∈s,(r.getD 2 0).natAbs≤1000000000)∧bx 1 (loL P 2) (hiL P 2) 2≤200000:=by
 have hn:=hg.n2
 have hT:=fun i (hi:i < 2)=>T_bd hg.box (by omega) hi P.length (Nat.le_refl _)
 refine ⟨⟨fun r hr=>(rowsD_facts hg.box (by decide) (by decide) r ((hm r).1 hr)).len,fun r hr i hi=>Nat.le_trans ((row2_bd hg.box ((hm r).1 hr)).1 i hi) (by decide),by simp [loL],by simp [hiL],fun i hi=>?_,fun i hi=>?_,by decide,Nat.le_trans (rowsD_len (by decide) (show P.length≤16 by omega) hs hm) (by decide)⟩,fun r hr=>Nat.le_trans (row2_bd hg.box ((hm r).1 hr)).2 (by decide),?_⟩
 ·have:=hT i hi
  rw [loL_get hi]
  omega
 ·have:=hT i hi
  rw [hiL_get hi]
  omega
 ·have h0:=hT 0 (by decide)
  have h1:=hT 1 (by decide)
  have e:bx 1 (loL P 2) (hiL P 2) 2=1*(((1:Nat):Int)*((hiL P 2).getD 0 0-(loL P 2).getD 0 0)+1)*(((1:Nat):Int)*((hiL P 2).getD 1 0-(loL P 2).getD 1 0)+1):=rfl
  rw [e,loL_get (by decide),loL_get (by decide),hiL_get (by decide),hiL_get (by decide)]
  have a1:0≤((1:Nat):Int)*(hiT P 0 P.length-loT P 0 P.length)+1∧((1:Nat):Int)*(hiT P 0 P.length-loT P 0 P.length)+1≤61:=by omega
  have a2:0≤((1:Nat):Int)*(hiT P 1 P.length-loT P 1 P.length)+1∧((1:Nat):Int)*(hiT P 1 P.length-loT P 1 P.length)+1≤61:=by omega
  have m1:=Int.mul_le_mul_of_nonneg_left a2.2 a1.1
  generalize ((1:Nat):Int)*(hiT P 0 P.length-loT P 0 P.length)+1=p at *
  generalize ((1:Nat):Int)*(hiT P 1 P.length-loT P 1 P.length)+1=q at *
  rw [Int.one_mul]
  omega
theorem pick_field {P s:List (List Int)} (hg:Good 2 P) (h10:P.length≤10) (hs:SAsc s) (hm:∀r,r∈s↔r∈rowsD P 2):FieldOk 2 P s:=fun v w hv=>
 field_core 2 P s v w hv (by decide) (by decide) hg.n2 (by omega) (fun x hx=>(hg.box x hx).1) fun W hW=>
  (rowsK_fr 2 P v W hW hg).mono fun e w' ⟨P',u,rows,hP,hr,he,hf,hb⟩=>by
   have hq:=rows_equalK hg hP hr hs hm
   subst hq
   obtain ⟨ro,rc,hv',_,_⟩:=fr_open hf
   subst hv'
   exact ⟨ro,rc,he,hf,hb⟩
theorem poly_box20 {n wd:Nat} {m:List (List Int)} (hm:Box n wd m) (hw:wd≤20):Box n 30 (polyL n m):=by
 intro r hr
 simp only [polyL,List.mem_append,List.mem_singleton,List.mem_map,List.mem_range] at hr
 rcases hr with (hr | rfl) | ⟨k,hk,rfl⟩
 ·refine ⟨(hm r hr).1,fun z hz=>?_⟩
  have:=(hm r hr).2 z hz
  omega
 ·refine ⟨by simp [zerosL],fun z hz=>?_⟩
  simp only [zerosL,List.mem_map] at hz
  obtain ⟨_,_,rfl⟩:=hz
  omega
 ·refine ⟨by simp [spk],fun z hz=>?_⟩
  simp only [spk,List.mem_map] at hz
  obtain ⟨j,_,rfl⟩:=hz
  have:=Nat.mod_lt k (show 0 < 2 by decide)
  split <;> omega
theorem poly_good20 {n wd:Nat} {m:List (List Int)} (h1:1≤n) (h4:n≤4) (hm:Box n wd m) (hw:wd≤20) (hl:m.length≤10):Good n (polyL n m):=by
 have hb:=poly_box20 hm hw
 exact ⟨h1,h4,by rw [poly_len]; omega,by rw [poly_len]; omega,hb,full_of_span (fun y hy=>(hb y hy).1) (fun c hc=>poly_span c hc)⟩
set_option maxRecDepth 100000 in
set_option maxHeartbeats 1600000 in
theorem topPick_any (B:Nat) (raw:List Int) (m0 a0:Int) (v:Value) (w:World) (hv:Sl B 3 w v (ints raw)) (hr:∀z∈raw,In64 z) (hm:In64 m0) (ha:In64 a0) (hT:TabB w) :
  Calls Tryz.prog 3 #[v,.int .i64 m0,.int .i64 a0] w fun e w'=>e=.returned (.bool true)∧Below w.heap.size w w':=by
 obtain ⟨ao,cap,hvv,hlc,hcm⟩:=sl_open hv
 subst hvv
 have HV:Hid (Sl B 3 w (.slice ao raw.length cap) (ints raw)):=hv
 have HRR:Hid (∀z∈raw,In64 z):=hr
 have HMM:Hid (In64 m0):=hm
 have HAA:Hid (In64 a0):=ha
 have HTT:Hid (TabB w):=hT
 clear hv hr hm ha hT
 by_cases h1:256 < raw.length
 ·have b1:decide ((256:Int) < (raw.length:Int))=true:=decide_eq_true (by omega)
  go_enter Tryz.func3,Tryz.ntmps3
  go_wp2
  go_ret
  exact ⟨rfl,Below.refl _ _⟩
 ·have b1:decide ((256:Int) < (raw.length:Int))=false:=decide_eq_false (by omega)
  have HRL:Hid (raw.length≤1000000):=by
   show _≤_
   omega
  clear h1
  go_enter Tryz.func3,Tryz.ntmps3
  go_wp2_with fail
  refine (pick_any m0 6 w (by omega) (by omega) HMM.out).mono ?_
  rintro e w2 ⟨y,rfl,hy,rfl⟩
  obtain ⟨k,hk⟩:∃k:Nat,(k:Int)=y:=⟨y.toNat,by omega⟩
  have hk3:k≤5:=by omega
  subst hk
  clear hy
  go_wp2_with fail
  refine (pick_any a0 20 w2 (by omega) (by omega) HAA.out).mono ?_
  rintro e w3 ⟨y2,rfl,hy2,rfl⟩
  obtain ⟨wd,hwd⟩:∃wd:Nat,(wd:Int)=1+y2:=⟨(1+y2).toNat,by omega⟩
  have hy1':=hy2.1
  have hy2':=hy2.2
  have HWD:Hid ((wd:Int)=1+y2):=hwd
  have hwd3:wd≤20:=by omega
  clear hy2 hwd
  go_wp2_with fail
  rw [←HWD.out]
  refine (polytopeOf_any B raw _ 2 k wd w3 HV.out HRR.out HRL.out (by decide) (by decide) (by omega) (by omega)).mono ?_
  rintro e w4 ⟨x,m,rfl,hml,hbx,hmat,hb4⟩
  have hg:Good 2 (polyL 2 m):=poly_good20 (by decide) (by decide) hbx (by omega) (by omega)
  have h10:(polyL 2 m).length≤10:=by rw [poly_len]; omega
  generalize polyL 2 m=P at *
  obtain ⟨s,hs,hsm⟩:=sort_of (rowsD P 2)
  obtain ⟨C,hC,hCm⟩:=sort_of (crn 2 s P)
  have hS:SrC 2 P s C:=⟨hg,hs,hsm,hC,hCm⟩
  obtain ⟨A,LV,hD⟩:=hS.vdo
  obtain ⟨q1,q2,q3,q4⟩:=hD.idp hg h10
  obtain ⟨hfl,hla,hbb⟩:=pick_fld hg h10 hs hsm
  have hF:=pick_field hg h10 hs hsm
  have hpk:=hS.pick
  obtain ⟨xo,xc,rfl,_,_⟩:=mat_open hmat
  obtain ⟨W,hW⟩:∃W,W=w4.alloc (.cells #[.int .i64 2,.slice xo P.length xc] 25):=⟨_,rfl⟩
  have hbW:Below w4.heap.size w4 W:=by rw [hW]; exact alloc_keep _ _
  have hsW:W.heap.size=w4.heap.size+1:=by rw [hW]; exact size_alloc _ _
  have c0:W.cell? ⟨w4.heap.size,0,none⟩=some (.int .i64 2):=by rw [hW]; simp
  have c1:W.cell? ⟨w4.heap.size,1,none⟩=some (.slice xo P.length xc):=by rw [hW]; simp
  have HC:Hid (∀X,Below W.heap.size W X→X.cell? ⟨w4.heap.size,0,none⟩=some (.int .i64 2)∧X.cell? ⟨w4.heap.size,1,none⟩=some (.slice xo P.length xc)):=fun X h=>⟨(h.cell (lt_of_cell c0)).trans c0,(h.cell (lt_of_cell c1)).trans c1⟩
  have hM:∀X,Below W.heap.size W X→Mat X.heap.size 22 3 X (.slice xo P.length xc) P:=fun X h=>(((hmat.below hbW (Nat.le_refl _)).any (Nat.le_refl _)).below h (Nat.le_refl _)).any (Nat.le_refl _)
  have hTW:=(HTT.out.below hb4).below hbW
  have K1:Hid (Calls Tryz.prog 6 #[.agg #[.int .i64 2,.slice xo P.length xc]] W fun e w'=>e=.returned (.tuple #[.int .i64 (arS C s),.int .i64 0])∧Below W.heap.size W w'):=by
   refine (volOf_any 2 P C s s A _ W (hM W (Below.refl _ _)) hg hg.box h10 hTW hD.f hD.l q1 q3 _ q2 hsm hC hCm (by rw [pul_cells]; exact cells_fit q1.o (doc_small hD.f h10) q4 q2)).mono ?_
   rintro e w' ⟨mm,rfl,h1,h2,h3⟩
   refine ⟨?_,h3⟩
   rw [hS.cells h1.nodup fun x=>(h2 x).trans (hS.pulled h10 hD x)]
  have K2:Hid (∀X,Below W.heap.size W X→Calls Tryz.prog 7 #[.agg #[.int .i64 2,.slice xo P.length xc],.int .i64 1] X fun e w'=>e=.returned (.tuple #[.int .i64 (plA 1 2 P s 2 []),.int .i64 0])∧Below W.heap.size W w'):=fun X hX=>(pointsF_any 2 1 P s _ X (hM X hX) hg hfl hla hbb (by decide) hF).mono fun e w' ⟨e1,e2⟩=>⟨e1,hX.trans (e2.mono hX.size)⟩
  have K3:Hid (∀X,Below W.heap.size W X→Calls Tryz.prog 8 #[.agg #[.int .i64 2,.slice xo P.length xc],.int .i64 1] X fun e w'=>e=.returned (.tuple #[.int .i64 (plI 1 2 P s 2 []),.int .i64 0])∧Below W.heap.size W w'):=fun X hX=>(innerF_any 2 1 P s _ X (hM X hX) hg hfl hla hbb (by decide) hF).mono fun e w' ⟨e1,e2⟩=>⟨e1,hX.trans (e2.mono hX.size)⟩
  have hbA:0≤plA 1 2 P s 2 []∧plA 1 2 P s 2 []≤1000000000000∧0≤plI 1 2 P s 2 []∧plI 1 2 P s 2 []≤1000000000000:=by
   have hT2:=fun i (hi:i < 2)=>T_bd hg.box (by have:=hg.n2; omega) hi P.length (Nat.le_refl _)
   have hpf:Pfd 2 1 P s:=⟨by decide,by decide,by have:=hg.n2; omega,by omega,fun x hx=>(hg.box x hx).1,fun r hr=>(rowsD_facts hg.box (by decide) (by decide) r ((hsm r).1 hr)).len,fun r hr=>(rowsD_facts hg.box (by decide) (by decide) r ((hsm r).1 hr)).bd,fun r hr=>Nat.le_trans (row2_bd hg.box ((hsm r).1 hr)).2 (by decide),fun i hi=>by have:=hT2 i hi; omega,fun i hi=>by have:=hT2 i hi; omega,by decide,hfl.nr⟩
   have:=pl_bd hpf 2 [] rfl
   omega
  have HBW:Hid (Below w3.heap.size w3 W):=hb4.trans (hbW.mono hb4.size)
  generalize plA 1 2 P s 2 []=pa at *
  generalize plI 1 2 P s 2 []=pi at *
  generalize arS C s=ar at *
  have HPK:Hid (ar=pa+pi-2):=hpk
  have HBA:Hid (0≤pa∧pa≤1000000000000∧0≤pi∧pi≤1000000000000):=hbA
  clear hml hbx hmat hb4 hg h10 hs hsm hC hCm hS hD q1 q2 q3 q4 hfl hla hbb hF hpk hbA hy1' hy2' HWD hM hTW c0 c1 hbW hsW
  obtain ⟨g0,g1⟩:=HC.out W (Below.refl _ _)
  go_wp2_with fail
  rw [←hW]
  clear hW
  refine K1.out.mono ?_
  rintro e w5 ⟨rfl,hb5⟩
  have HK2:=K2.out w5 hb5
  have HB5:Hid (Below W.heap.size W w5):=hb5
  obtain ⟨g2,g3⟩:=HC.out w5 hb5
  clear hb5 K1 K2 g0 g1
  go_wp2_with fail
  refine HK2.mono ?_
  rintro e w6 ⟨rfl,hb6⟩
  have HK3:=K3.out w6 hb6
  have HB6:Hid (Below W.heap.size W w6):=hb6
  obtain ⟨g4,g5⟩:=HC.out w6 hb6
  clear hb6 K3 HK2 g2 g3
  go_wp2_with fail
  refine HK3.mono ?_
  rintro e w7 ⟨rfl,hb7⟩
  have HB7:Hid (Below w3.heap.size w3 w7):=HBW.out.trans (hb7.mono HBW.out.size)
  clear hb7 HK3 g4 g5
  have e1:wrap64 (2*pi)=2*pi:=IntWalk.wrap64_in _ ⟨by have:=HBA.out; omega,by have:=HBA.out; omega⟩
  have e2:wrap64 (pa-pi)=pa-pi:=IntWalk.wrap64_in _ ⟨by have:=HBA.out; omega,by have:=HBA.out; omega⟩
  have e3:wrap64 (2*pi+(pa-pi))=2*pi+(pa-pi):=IntWalk.wrap64_in _ ⟨by have:=HBA.out; omega,by have:=HBA.out; omega⟩
  have e4:wrap64 (2*pi+(pa-pi)-2)=2*pi+(pa-pi)-2:=IntWalk.wrap64_in _ ⟨by have:=HBA.out; omega,by have:=HBA.out; omega⟩
  have e5:(ar == 2*pi+(pa-pi)-2)=true:=beq_iff_eq.2 (by have:=HPK.out; omega)
  have HE5:Hid ((ar == 2*pi+(pa-pi)-2)=true):=e5
  clear e5
  go_wp2
  go_ret
  refine ⟨?_,HB7.out⟩
  show Ending.returned (Value.bool (ar == 2*pi+(pa-pi)-2))=_
  rw [HE5.out]
end Go.Proofs.YtadpjlpdfimaeaaGreatDoor

namespace Go.Proofs.YtadpjlpdfimaeaaGreatDoor
open Go.ChangeShapes Go.WideShapes Go.RowKit Go.Deep
theorem Tryz.cells3:Tryz.prog.cellsOf 3=1:=by kernel_rfl
theorem Tryz.laidOut:laidOutB Tryz.prog=true:=by kernel_rfl
theorem addr_none {w:World} {a:Addr} {u:Value} (h:w.cell? a=some u):a=⟨a.block,a.off,none⟩:=by
 obtain ⟨b,o,s⟩:=a
 cases s with
 | none=>rfl
 | some s=>
  exfalso
  unfold World.cell? at h
  split at h <;> simp at h
theorem sl_of_cells {w:World} {a:Addr} {len cap:Nat} {e:TypeId} {xs:List Value} (hl:xs.length=len) (h1:len≤cap) (h2:cap≤maxLen) (hc:∀i,i < len→w.cell? (a.add i)=xs[i]?):Sl w.heap.size e w (.slice (some a) len cap) xs:=by
 refine ⟨some a,cap,by rw [hl],by omega,h2,fun i hi=>?_,fun h=>by cases h⟩
 have hi':i < len:=by omega
 have hx:xs[i]?=some xs[i]:=List.getElem?_eq_getElem hi
 have hz:xs[0]?=some xs[0]:=List.getElem?_eq_getElem (by omega)
 have h0:=hc i hi'
 have ha:a=⟨a.block,a.off,none⟩:=addr_none (u:=xs[0]) (by have:=hc 0 (by omega); rw [hz] at this; simpa [Addr.add] using this)
 obtain ⟨b,o,s⟩:=a
 simp only [Addr.mk.injEq,true_and] at ha
 subst ha
 have e:(⟨b,o,none⟩:Addr).add i=⟨b,o+i,none⟩:=by
  unfold Addr.add
  by_cases h:i=0
  ·subst h; simp
  ·simp [h]
 rw [e] at h0
 exact ⟨b,o,rfl,h0,Or.inl (World.block_lt_of_cell? w ⟨b,o+i,none⟩ (h0.trans hx))⟩
end Go.Proofs.YtadpjlpdfimaeaaGreatDoor
namespace Go.Proofs.YtadpjlpdfimaeaaGreatDoor
open Go.ChangeShapes Go.WideShapes Go.RowKit Go.Deep
theorem in64_of {n:Int} (h:(Lit.int .i64 n).wf=true):In64 n:=by
 have h1:(decide (IntKind.i64.min≤n) && decide (n≤IntKind.i64.max))=true:=h
 simp only [Bool.and_eq_true,decide_eq_true_eq] at h1
 have e1:IntKind.i64.min=-9223372036854775808:=by decide
 have e2:IntKind.i64.max=9223372036854775807:=by decide
 unfold In64
 omega
theorem open_list64 {H:Type} {enc:TypeId×Value→H} {w:World} {ao:Option Addr} {l0 c0:Nat} {d:DataW H} {p:List MemPlace} (h:DataW.Trod enc Tryz.prog w 0 (fun _=>true) true 22 (.slice ao l0 c0) d p):∃zs,Sl w.heap.size 3 w (.slice ao l0 c0) (ints zs)∧∀z∈zs,In64 z:=by
 obtain ⟨fuel,hf⟩:=h
 rcases open_ints Tryz.underlying22 Tryz.underlying3 Tryz.cells3 hf with ⟨hcs,_⟩ | ⟨a,len,cap,zs,hcs,_,hl,hm,hz,_,hcell,hwf⟩
 ·simp [Value.cells] at hcs
  obtain ⟨rfl,rfl,rfl⟩:=hcs
  exact ⟨[],Sl.nil _ _ _,fun z hz=>absurd hz (by simp)⟩
 ·simp [Value.cells] at hcs
  simp only [if_true] at hz
  obtain ⟨rfl,rfl,rfl⟩:=hcs
  refine ⟨zs.take l0,?_,fun z hz=>in64_of (hwf z (List.mem_of_mem_take hz))⟩
  have hlen:(ints (zs.take l0)).length=l0:=by simp; omega
  refine sl_of_cells hlen hl hm fun i hi=>?_
  rw [hcell i (by omega),ints_get _ _ (by simp; omega)]
  simp [hi]
end Go.Proofs.YtadpjlpdfimaeaaGreatDoor
