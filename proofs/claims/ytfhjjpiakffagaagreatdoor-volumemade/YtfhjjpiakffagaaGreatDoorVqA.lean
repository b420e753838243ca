import Derived.Test.YtfhjjpiakffagaaGreatDoorVo8
import Derived.Test.YtfhjjpiakffagaaGreatDoorVoY
import Derived.Test.YtfhjjpiakffagaaGreatDoorGZ
import Derived.Test.YtfhjjpiakffagaaGreatDoorHmY
import Derived.Test.YtfhjjpiakffagaaGreatDoorHmU
import Derived.Test.YtfhjjpiakffagaaGreatDoorMade1
namespace Go.Proofs.YtfhjjpiakffagaaGreatDoor
open Go.RowKit Lin
attribute [local go_sem ↓] Go.wp_at_zero Go.wp_at_succ
theorem nodup_lenI:∀s t:List Int,s.Nodup→(∀r∈s,r∈t)→s.length≤t.length
 | [],t,_,_=>by simp
 | a :: s,t,hn,h=>by
  rw [List.nodup_cons] at hn
  have ha:=h a (by simp)
  have:=nodup_lenI s (t.erase a) hn.2 fun r hr=>(List.mem_erase_of_ne (fun (e:r=a)=>hn.1 (e ▸ hr))).2 (h r (by simp [hr]))
  rw [List.length_erase_of_mem ha] at this
  have:=List.length_pos_of_mem ha
  simp only [List.length_cons]
  omega
theorem order_all {n:Nat} {order:List Int} (hl:order.length=n) (hnd:order.Nodup) (hb:∀x∈order,0≤x∧x < (n:Int)) (k:Nat) (hk:k < n):(k:Int)∈order:=by
 refine Decidable.byContradiction fun hno=>?_
 have:=nodup_lenI ((k:Int) :: order) (idn n) (List.nodup_cons.2 ⟨hno,hnd⟩) fun r hr=>by
  rcases List.mem_cons.1 hr with rfl | hr
  ·exact idn_mem.2 ⟨by omega,by omega⟩
  ·exact idn_mem.2 (hb r hr)
 rw [idn_len] at this
 simp at this
 omega
theorem nodup_take {order:List Int} (h:order.Nodup) {i:Nat} (hi:i < order.length):(order.take i).contains (order.getD i 0)=false:=by
 rw [←Bool.not_eq_true,List.contains_iff_mem]
 intro hm
 obtain ⟨j,hj,e⟩:=List.getElem_of_mem hm
 rw [List.getElem_take] at e
 have e2:order.getD i 0=order[i]:=by simp [hi]
 rw [e2] at e
 rw [List.length_take] at hj
 have:=(List.getElem_inj h).1 e
 omega
set_option maxRecDepth 100000 in
set_option maxHeartbeats 6400000 in
theorem volumeSays_any (d:Nat) (P m:List (List Int)) (order:List Int) (v:Value) (oo:Option Addr) (oc:Nat) (qo:Option Addr) (qc:Nat) (w:World) (hv:Mat w.heap.size 22 3 w v P) (hg:Good d P) (hx:Box d 6 P) (hn:P.length≤10) (hT:TabB w)
  (hO:Sl w.heap.size 3 w (.slice oo order.length oc) (ints order)) (hnd:order.Nodup) (hol:order.length≤10) (hord:∀C s A LV,VDo d P C s A LV→order.length=C.length∧∀x∈order,0≤x∧x < (C.length:Int))
  (hm:Mat w.heap.size 22 3 w (.slice qo (d+1) qc) m) (hmb:Box d 30 m) (hml:m.length=d+1) :
  Calls Tryz.prog 9 #[.agg #[.int .i64 d,v],.slice oo order.length oc,.slice qo (d+1) qc] w fun e w'=>e=.returned (.bool true)∧Below w.heap.size w w':=by
 obtain ⟨po,pc,rfl,hlc,hcm⟩:=mat_open hv
 have h1:=hg.d1
 have h4:=hg.d4
 obtain ⟨W,hW⟩:∃W,W=w.alloc (.cells #[.int .i64 d,.slice po P.length pc] 26):=⟨_,rfl⟩
 have hbw:Below w.heap.size w W:=by rw [hW]; exact alloc_keep _ _
 have HW:Hid (Below w.heap.size w W):=hbw
 have hsW:W.heap.size=w.heap.size+1:=by rw [hW]; exact size_alloc _ _
 have c0:W.cell? ⟨w.heap.size,0,none⟩=some (.int .i64 d):=by rw [hW]; simp
 have c1:W.cell? ⟨w.heap.size,1,none⟩=some (.slice po P.length pc):=by rw [hW]; simp
 have HC:Hid (∀X,Below W.heap.size W X→X.cell? ⟨w.heap.size,0,none⟩=some (.int .i64 d)∧X.cell? ⟨w.heap.size,1,none⟩=some (.slice po P.length pc)):=fun X h=>⟨(h.cell (lt_of_cell c0)).trans c0,(h.cell (lt_of_cell c1)).trans c1⟩
 have HM:Hid (∀X,Below W.heap.size W X→Mat X.heap.size 22 3 X (.slice po P.length pc) P):=fun X h=>(((hv.below hbw (Nat.le_refl _)).any (Nat.le_refl _)).below h (Nat.le_refl _)).any (Nat.le_refl _)
 have HQ:Hid (∀X,Below W.heap.size W X→Mat X.heap.size 22 3 X (.slice qo (d+1) qc) m):=fun X h=>(((hm.below hbw (Nat.le_refl _)).any (Nat.le_refl _)).below h (Nat.le_refl _)).any (Nat.le_refl _)
 have HO:Hid (∀X,Below W.heap.size W X→Sl X.heap.size 3 X (.slice oo order.length oc) (ints order)):=fun X h=>(((hO.below hbw (Nat.le_refl _)).any (Nat.le_refl _)).below h (Nat.le_refl _)).any (Nat.le_refl _)
 have HT:Hid (∀X,Below W.heap.size W X→TabB X):=fun X h=>(hT.below hbw).below h
 have K1:Hid (Calls Tryz.prog 15 #[.slice po P.length pc] W fun e w'=>∃q,e=.returned (.bool q)∧w'=W):=(heavy_any W.heap.size P _ W (HM.out W (Below.refl _ _))).mono fun e w' ⟨q,h1,_,h3⟩=>⟨q,h1,h3⟩
 have K1':Hid (Calls Tryz.prog 15 #[.slice qo (d+1) qc] W fun e w'=>∃q,e=.returned (.bool q)∧w'=W):=(heavy_any W.heap.size m _ W (HQ.out W (Below.refl _ _))).mono fun e w' ⟨q,h1,_,h3⟩=>⟨q,h1,h3⟩
 have K2:Hid (∀X,Below W.heap.size W X→Calls Tryz.prog 16 #[.agg #[.int .i64 d,.slice po P.length pc]] X fun e w'=>e=.returned (.int .i64 0)∧Below W.heap.size W w'):=fun X h=>(hullMay_ok d P _ X (HM.out X h) hg).mono fun e w' ⟨e1,e2⟩=>⟨e1,h.trans (e2.mono h.size)⟩
 have K3:Hid (∀X,Below W.heap.size W X→Calls Tryz.prog 17 #[.slice po P.length pc] X fun e w'=>∃C s A LV mm,e=.returned (.int .i64 (amS C mm))∧(VDo d P C s A LV∧SAsc mm∧(∀r,r∈mm↔r∈(pulD LV (idn C.length) (d+1) (memL (2 ^ C.length-1))).map cellL)∧Below W.heap.size W w')):=fun X h=>by
  refine (amount_any d P _ X (HM.out X h) hg hx hn).mono ?_
  rintro e w' ⟨C,s,A,LV,mm,rfl,q1,q2,q3,q4⟩
  exact ⟨C,s,A,LV,mm,rfl,q1,q2,q3,h.trans (q4.mono h.size)⟩
 have K4:Hid (∀X C s A LV,VDo d P C s A LV→Below W.heap.size W X→Calls Tryz.prog 18 #[.slice po P.length pc] X fun e w'=>∃ao cap,e=.returned (.slice ao (d+2) cap)∧(LvV w' (.slice ao (d+2) cap) (d+2) LV∧Below W.heap.size W w')):=fun X C s A LV hD h=>by
  refine (latV_any d P _ X (HM.out X h) hg hn hx).mono ?_
  rintro e w' ⟨ao,cap,C2,s2,A2,LV2,rfl,hD2,hL2,hb⟩
  obtain ⟨rfl,rfl⟩:=hD.same hD2 hg hn
  exact ⟨ao,cap,rfl,hL2,h.trans (hb.mono h.size)⟩
 have HLP:Hid (∀C s A LV,VDo d P C s A LV→LvP LV order C.length d∧LV (d+1)=[memL (2 ^ C.length-1)]∧(LV 1).length=order.length∧order.length=C.length∧order.length≤10):=fun C s A LV hD=>by
  obtain ⟨q1,q2⟩:=hord C s A LV hD
  have h10:=doc_small hD.f hn
  obtain ⟨r1,r2,r3,r4⟩:=hD.lvp hg hn q2 (order_all q1 hnd q2) (by omega)
  exact ⟨r1,r2,by omega,q1,by omega⟩
 have K5:Hid (∀X C s A LV ao cap,VDo d P C s A LV→Below W.heap.size W X→LvV X (.slice ao (d+2) cap) (d+2) LV→Calls Tryz.prog 19 #[.slice ao (d+2) cap,.slice oo order.length oc] X fun e w'=>∃(cs:List (List Int)) (xo:Option Addr) (xc:Nat),e=.returned (.slice xo cs.length xc)∧(SAsc cs∧(∀r,r∈cs↔r∈(pulD LV order (d+1) (memL (2 ^ C.length-1))).map cellL)∧Mat 0 22 3 w' (.slice xo cs.length xc) cs∧Below W.heap.size W w')):=fun X C s A LV ao cap hD hX hL=>by
  obtain ⟨q1,q2,q3,q4,q5⟩:=HLP.out C s A LV hD
  refine (pulledBy_any q1.o (by omega) h1 h4 _ q2 ao cap oo oc X hL (HO.out X hX)).mono ?_
  rintro e w' ⟨cs,xo,xc,rfl,r1,r2,r3,r4⟩
  exact ⟨cs,xo,xc,rfl,r1,r2,r3,hX.trans (r4.mono hX.size)⟩
 have K6:Hid (∀X C s A LV mm,VDo d P C s A LV→SAsc mm→(∀r,r∈mm↔r∈(pulD LV (idn C.length) (d+1) (memL (2 ^ C.length-1))).map cellL)→Below W.heap.size W X→Calls Tryz.prog 20 #[.agg #[.int .i64 d,.slice po P.length pc]] X fun e w'=>e=.returned (.tuple #[.int .i64 (amS C mm),.int .i64 0])∧Below X.heap.size X w'):=fun X C s A LV mm hD hs hmm hX=>by
  obtain ⟨q1,q2,q3,q4⟩:=hD.idp hg hn
  obtain ⟨hasc,s0,hs0,hcm0⟩:=hD.f.crn
  refine (volOf_any d P C s s0 A _ X (HM.out X hX) hg hx hn (HT.out X hX) hD.f hD.l q1 q3 _ q2 hs0 hasc hcm0 (by rw [pul_cells]; exact cells_fit q1.o (doc_small hD.f hn) q4 q2)).mono ?_
  rintro e w' ⟨m2,rfl,r1,r2,r3⟩
  have he:m2=mm:=sasc_ext m2 mm r1 hs fun r=>by rw [r2 r,hmm r,pul_cells]
  subst he
  exact ⟨rfl,r3⟩
 have K7:Hid (∀X C s A LV cs,VDo d P C s A LV→SAsc cs→(∀r,r∈cs↔r∈(pulD LV order (d+1) (memL (2 ^ C.length-1))).map cellL)→Below W.heap.size W X→Calls Tryz.prog 21 #[.agg #[.int .i64 d,.slice po P.length pc],.slice oo order.length oc] X fun e w'=>∃xo xc,e=.returned (.tuple #[.slice xo cs.length xc,.int .i64 0])∧(Mat 0 22 3 w' (.slice xo cs.length xc) cs∧Below X.heap.size X w')):=fun X C s A LV cs hD hs hcs hX=>by
  obtain ⟨q1,q2,q3,q4,q5⟩:=HLP.out C s A LV hD
  refine (cells_any (LV:=LV) (order:=order) d P C s A (.slice po P.length pc) oo oc X (HM.out X hX) hg hn (HT.out X hX) hD.f hD.l q1 (by omega) _ q2 (HO.out X hX) q4 hnd).mono ?_
  rintro e w' ⟨m2,xo,xc,rfl,r1,r2,r3,r4⟩
  have he:m2=cs:=sasc_ext m2 cs r1 hs fun r=>by rw [r2 r,hcs r,pul_cells]
  subst he
  exact ⟨xo,xc,rfl,r3,r4⟩
 obtain ⟨hsq,hdb⟩:=diff_sq hmb h1 h4 hml
 have K8:Hid (∀X,Below W.heap.size W X→Calls Tryz.prog 26 #[.slice qo (d+1) qc] X fun e w'=>∃zo zl zc,e=.returned (.slice zo zl zc)∧(Mat w'.heap.size 22 3 w' (.slice zo zl zc) (diffL m)∧Below W.heap.size W w')):=fun X hX=>by
  refine (from_any X.heap.size d m _ X (HQ.out X hX) (by omega) (by omega) (by omega) (fun r hr=>(hmb r hr).1) (fun r hr z hz=>by have:=(hmb r hr).2 z hz; omega)).mono ?_
  rintro e w' ⟨x,rfl,hf,hb2⟩
  have hM:=fr_mat0F hf
  obtain ⟨yo,yc,rfl,_,_⟩:=mat_open hM
  exact ⟨yo,_,yc,rfl,hM.more (Nat.zero_le _),hX.trans (hb2.mono hX.size)⟩
 have K9:Hid (∀X u,Mat X.heap.size 22 3 X u (diffL m)→Calls Tryz.prog 25 #[u] X fun e w'=>e=.returned (.int .i64 (detL (diffL m)))∧Below X.heap.size X w'):=fun X u hu=>det_any 60 X.heap.size _ u X hsq hu
 have K10:Hid (∀X,Below W.heap.size W X→Calls Tryz.prog 27 #[.slice qo (d+1) qc] X fun e w'=>e=.returned (.tuple #[.int .i64 ((detL (diffL m)).natAbs:Int),.int .i64 0])∧Below W.heap.size W w'):=fun X hX=>(cellP_any d m qo qc X (HQ.out X hX) hmb h1 h4 hml).mono fun e w' ⟨a,b⟩=>⟨a,hX.trans (b.mono hX.size)⟩
 have HRW:Hid (∀X k,Below W.heap.size W X→k < d+1→∃rb ro yo yc,qo=some ⟨rb,ro,none⟩∧X.cell? ⟨rb,ro+k,none⟩=some (.slice yo d yc)∧Calls Tryz.prog 24 #[.slice yo d yc,.int .i64 100] X fun e w'=>e=.returned (.bool false)∧w'=X):=fun X k hX hk=>by
  obtain ⟨rb,ro,qcp,q1,hqs,_,hqc,hq1⟩:=mat_cell (HQ.out X hX) (k:=k) (by omega)
  simp only [Value.slice.injEq] at hqs
  have hkm:m.getD k []∈m:=by simp [show k < m.length by omega]
  obtain ⟨yo,yc,rfl,_,_⟩:=sl_open hq1
  rw [(hmb _ hkm).1] at hqc hq1
  refine ⟨rb,ro,yo,yc,hqs.1,hqc,(farAny_any _ (m.getD k []) _ 100 X hq1 (by omega) (by omega)).mono ?_⟩
  rintro e w' ⟨rfl,rfl⟩
  refine ⟨?_,rfl⟩
  have:(m.getD k []).any (farB · 100)=false:=by
   rw [List.any_eq_false]
   intro z hz
   have:=(hmb _ hkm).2 z hz
   simp only [farB,Bool.or_eq_true,decide_eq_true_eq,not_or]
   omega
  rw [this]
 have HOC:Hid (∀X k,Below W.heap.size W X→k < order.length→∃ob of,oo=some ⟨ob,of,none⟩∧X.cell? ⟨ob,of+k,none⟩=some (.int .i64 (order.getD k 0))∧k≤oc):=fun X k hX hk=>by
  obtain ⟨ob,of,cp,hs,hle,hcc⟩:=sl_cell (HO.out X hX) hk
  simp only [Value.slice.injEq,true_and] at hs
  exact ⟨ob,of,hs.1,hcc,by rw [←hs.2] at hle; omega⟩
 have HOB:Hid (∀C s A LV,VDo d P C s A LV→∀k,k < order.length→0≤order.getD k 0∧order.getD k 0 < (order.length:Int)):=fun C s A LV hD k hk=>by
  obtain ⟨q1,q2⟩:=hord C s A LV hD
  rw [q1]
  exact q2 _ (getD_mem hk)
 have HIN:Hid (∀X k,Below W.heap.size W X→k < order.length→Calls Tryz.prog 8 #[.int .i64 (order.getD k 0),.slice oo k oc] X fun e w'=>e=.returned (.bool false)∧Below X.heap.size X w'):=fun X k hX hk=>by
  refine (inR_any X.heap.size (order.getD k 0) (order.take k) _ X ((HO.out X hX).take (Nat.le_of_lt hk))).mono ?_
  rintro e w' ⟨rfl,n,rfl⟩
  exact ⟨by rw [nodup_take hnd hk],below_drewN (Below.refl _ _) n⟩
 have HL1:Hid (∀X C s A LV ao cap,VDo d P C s A LV→LvV X (.slice ao (d+2) cap) (d+2) LV→∃lb lf ro rc,ao=some ⟨lb,lf,none⟩∧X.cell? ⟨lb,lf+1,none⟩=some (.slice ro order.length rc)):=fun X C s A LV ao cap hD hL=>by
  obtain ⟨ao2,cap2,e,hr⟩:=hL.rows
  simp only [Value.slice.injEq,true_and] at e
  obtain ⟨rfl,rfl⟩:=e
  obtain ⟨b,o,ro,rc,q1,q2,_⟩:=hr X 1 (Below.refl _ _) (by omega)
  rw [(HLP.out C s A LV hD).2.2.1] at q2
  exact ⟨b,o,ro,rc,q1,q2⟩
 have HN1:Hid (∀X (a:Int),Calls Tryz.prog 22 #[.int .i64 a,.int .i64 0,.int .i64 a,.int .i64 0] X fun x w'=>x=.returned (.bool true)∧w'=X):=fun X a=>num_true a 0 a 0 X rfl (fun h=>absurd rfl h) (fun _=>rfl)
 have HLS:Hid (∀X (cs:List (List Int)) u v2,Mat 0 22 3 X u cs→Mat 0 22 3 X v2 cs→Calls Tryz.prog 23 #[u,.int .i64 0,v2,.int .i64 0] X fun x w'=>x=.returned (.bool true)∧Below X.heap.size X w'):=fun X cs u v2 a b=>listsF_same 0 cs u v2 X a b
 have HOL:Hid (∀C s A LV,VDo d P C s A LV→order.length≤10):=fun C s A LV hD=>(HLP.out C s A LV hD).2.2.2.2
 have HDT:Hid (((detL (diffL m)).natAbs:Int)=if detL (diffL m) < 0 then -(detL (diffL m)) else detL (diffL m)):=by
  show _=_
  split <;> omega
 obtain ⟨dt,hdt⟩:∃dt,dt=detL (diffL m):=⟨_,rfl⟩
 rw [←hdt] at hdb HDT K9 K10
 have b300:decide ((300:Int) < (order.length:Int))=false:=decide_eq_false (by omega)
 have hc2:decide (((d+1:Nat):Int) < 2)=false:=by simp; omega
 have hc5:decide ((5:Int) < ((d+1:Nat):Int))=false:=by simp; omega
 clear hv hg hT hbw hx c0 c1 hO hm hmb hml hsq hdt hord hnd HLP HM HQ HO HT
 go_enter Tryz.func9,Tryz.ntmps9
 obtain ⟨e0,e1⟩:=HC.out W (Below.refl _ _)
 go_wp2_with fail
 rw [←hW]
 clear hW
 refine K1.out.mono ?_
 rintro e w0 ⟨q,rfl,rfl⟩
 clear K1
 cases q
 case true=>
  go_wp2
  go_ret
  exact ⟨rfl,HW.out⟩
 case false=>
  go_wp2_with fail
  refine K1'.out.mono ?_
  rintro e w0' ⟨q,rfl,rfl⟩
  clear K1'
  cases q
  case true=>
   go_wp2
   go_ret
   exact ⟨rfl,HW.out⟩
  case false=>
   go_wp2_with fail
   refine (K2.out _ (Below.refl _ _)).mono ?_
   rintro e w1 ⟨rfl,hb1⟩
   have HB1:Hid (Below w0'.heap.size w0' w1):=hb1
   clear hb1 e0 e1 K2
   obtain ⟨e0,e1⟩:=HC.out w1 HB1.out
   go_wp2_with fail
   refine (K3.out w1 HB1.out).mono ?_
   rintro e w2 ⟨C,s,A,LV,mm,rfl,hD,hs2,hm2,hb2⟩
   have HD:Hid (VDo d P C s A LV):=hD
   have HSM:Hid (SAsc mm∧∀r,r∈mm↔r∈(pulD LV (idn C.length) (d+1) (memL (2 ^ C.length-1))).map cellL):=⟨hs2,hm2⟩
   have HB2:Hid (Below w0'.heap.size w0' w2):=hb2
   have HOF:Hid (∀X,Below w0'.heap.size w0' X→Calls Tryz.prog 20 #[.agg #[.int .i64 d,.slice po P.length pc]] X fun e w'=>e=.returned (.tuple #[.int .i64 (amS C mm),.int .i64 0])∧Below X.heap.size X w'):=fun X hX=>K6.out X C s A LV mm hD hs2 hm2 hX
   clear hs2 hm2 hb2 hD e0 e1 K3 K6
   generalize amS C mm=am at *
   obtain ⟨e0,e1⟩:=HC.out w2 HB2.out
   go_wp2_with fail
   refine (K4.out w2 C s A LV HD.out HB2.out).mono ?_
   rintro e w3 ⟨ao,cap,rfl,hL3,hb3⟩
   have HL3:Hid (LvV w3 (.slice ao (d+2) cap) (d+2) LV):=hL3
   have HB3:Hid (Below w0'.heap.size w0' w3):=hb3
   obtain ⟨lb,lf,ro,rc,hao,hl1⟩:=HL1.out w3 C s A LV ao cap HD.out hL3
   have HCL:Hid (w3.cell? ⟨lb,lf+1,none⟩=some (.slice ro order.length rc)):=hl1
   have HOB2:Hid (∀k,k < order.length→0≤order.getD k 0∧order.getD k 0 < (order.length:Int)):=HOB.out C s A LV HD.out
   subst hao
   have hd12:(1:Int) < ((d+2:Nat):Int):=by omega
   have hd12':(1:Int) < (d:Int)+2:=by omega
   clear hL3 hb3 e0 e1 K4 HOB HL1
   go_wp2
   clear hl1
   go_loopw [8,12] (fun sv iv wr=>∃i:Nat,i≤order.length∧iv=.int .i64 (i:Int)∧sv=.int .i64 0∧Below w3.heap.size w3 wr) (fun _ iv _=>order.length-(intOf iv).toNat)
   case atStart=>exact ⟨0,Nat.zero_le _,rfl,rfl,Below.refl _ _⟩
   case round=>
    obtain ⟨i,hi,rfl,rfl,hbr⟩:=hrel
    have HBR:Hid (Below w3.heap.size w3 wr):=hbr
    clear hbr
    by_cases hlt:i < order.length
    ·obtain ⟨ob,of,hoo,hoc,hle⟩:=HOC.out wr i (HB3.out.trans (HBR.out.mono HB3.out.size)) hlt
     obtain ⟨hx0,hx1⟩:=HOB2.out i hlt
     have HIX:Hid (∀X,Below wr.heap.size wr X→Calls Tryz.prog 8 #[.int .i64 (order.getD i 0),.slice oo i oc] X fun e w'=>e=.returned (.bool false)∧Below X.heap.size X w'):=fun X hX=>HIN.out X i (HB3.out.trans ((HBR.out.trans (hX.mono HBR.out.size)).mono HB3.out.size)) hlt
     have HSS:Hid (∀X,Below wr.heap.size wr X→X.cell? ⟨ob,of+i,none⟩=some (.int .i64 (order.getD i 0))∧X.cell? ⟨lb,lf+1,none⟩=some (.slice ro order.length rc)):=fun X hX=>⟨(hX.cell (lt_of_cell hoc)).trans hoc,((HBR.out.trans (hX.mono HBR.out.size)).cell (lt_of_cell HCL.out)).trans HCL.out⟩
     have hiI:(i:Int) < (order.length:Int):=by omega
     have hiO:(i:Int)≤(oc:Int):=by omega
     subst hoo
     clear hoc HOC HIN HOB2
     generalize order.getD i 0=xx at *
     have hx0':decide (xx < 0)=false:=decide_eq_false (by omega)
     have hx1':decide ((order.length:Int)≤xx)=false:=decide_eq_false (by omega)
     go_upto_region 15 with fail
     obtain ⟨WD,hWD⟩:∃WD,WD=wr.drew:=⟨_,rfl⟩
     have HBD:Hid (Below wr.heap.size wr WD):=by rw [hWD]; exact (Below.refl _ _).drew
     have S0:=HSS.out WD HBD.out
     rw [hWD] at S0
     refine wp_region_held_drew (S:=fun X=>X.cell? ⟨ob,of+i,none⟩=some (.int .i64 xx)∧X.cell? ⟨lb,lf+1,none⟩=some (.slice ro order.length rc)) (by kernel_rfl) S0 (fun hHeld=>?_)
     rw [←hWD] at hHeld ⊢
     clear hWD S0
     refine wpAnyH_tk (i:=0) (d:=58) (v:=.slice (some ⟨ob,of,none⟩) order.length oc) rfl rfl (by kernel_rfl) (by kernel_rfl) (by kernel_rfl) (fun _ _ _ h=>h) (.inl ⟨by rfl,by (intro wq hSw; (try dsimp only at hSw); go_simp; (try (first | rfl | omega)))⟩) hHeld ?_
     simp only [Act.put,List.setIfInBounds_toArray,List.set_cons_zero,List.set_cons_succ]
     refine wpAnyH_tk (i:=1) (d:=59) (v:=.int .i64 (i:Int)) rfl rfl (by kernel_rfl) (by kernel_rfl) (by kernel_rfl) (fun _ _ _ h=>h) (.inl ⟨by rfl,by (intro wq hSw; (try dsimp only at hSw); go_simp; (try (first | rfl | omega)))⟩) hHeld ?_
     simp only [Act.put,List.setIfInBounds_toArray,List.set_cons_zero,List.set_cons_succ]
     refine wpAnyH_tk (i:=2) (d:=60) (v:=.pointer (some ⟨ob,of+i,none⟩)) rfl rfl (by kernel_rfl) (by kernel_rfl) (by kernel_rfl) (fun _ _ _ h=>h) (.inl ⟨by rfl,by (intro wq hSw; (try dsimp only at hSw); go_simp; (try (first | rfl | omega)))⟩) hHeld ?_
     simp only [Act.put,List.setIfInBounds_toArray,List.set_cons_zero,List.set_cons_succ]
     refine wpAnyH_tk (i:=3) (d:=61) (v:=.int .i64 xx) rfl rfl (by kernel_rfl) (by kernel_rfl) (by kernel_rfl) (fun _ _ _ h=>h) (.inl ⟨by rfl,by (intro wq hSw; (try dsimp only at hSw); go_simp; (try (first | rfl | omega)))⟩) hHeld ?_
     simp only [Act.put,List.setIfInBounds_toArray,List.set_cons_zero,List.set_cons_succ]
     refine wpAnyH_tk (i:=4) (d:=62) (v:=.bool false) rfl rfl (by kernel_rfl) (by kernel_rfl) (by kernel_rfl) (fun _ _ _ h=>h) (.inl ⟨by rfl,by (intro wq hSw; (try dsimp only at hSw); go_simp; (try (first | rfl | omega)))⟩) hHeld ?_
     simp only [Act.put,List.setIfInBounds_toArray,List.set_cons_zero,List.set_cons_succ]
     refine wpAnyH_tk (i:=5) (d:=63) (v:=.bool false) rfl rfl (by kernel_rfl) (by kernel_rfl) (by kernel_rfl) (fun _ _ _ h=>h) (.inl ⟨by rfl,by (intro wq hSw; (try dsimp only at hSw); go_simp; (try (first | rfl | omega)))⟩) hHeld ?_
     simp only [Act.put,List.setIfInBounds_toArray,List.set_cons_zero,List.set_cons_succ]
     refine wpAnyH_tk (i:=6) (d:=64) (v:=.slice (some ⟨ob,of,none⟩) order.length oc) rfl rfl (by kernel_rfl) (by kernel_rfl) (by kernel_rfl) (fun _ _ _ h=>h) (.inl ⟨by rfl,by (intro wq hSw; (try dsimp only at hSw); go_simp; (try (first | rfl | omega)))⟩) hHeld ?_
     simp only [Act.put,List.setIfInBounds_toArray,List.set_cons_zero,List.set_cons_succ]
     refine wpAnyH_tk (i:=7) (d:=65) (v:=.int .i64 (i:Int)) rfl rfl (by kernel_rfl) (by kernel_rfl) (by kernel_rfl) (fun _ _ _ h=>h) (.inl ⟨by rfl,by (intro wq hSw; (try dsimp only at hSw); go_simp; (try (first | rfl | omega)))⟩) hHeld ?_
     simp only [Act.put,List.setIfInBounds_toArray,List.set_cons_zero,List.set_cons_succ]
     refine wpAnyH_tk (i:=8) (d:=66) (v:=.pointer (some ⟨ob,of+i,none⟩)) rfl rfl (by kernel_rfl) (by kernel_rfl) (by kernel_rfl) (fun _ _ _ h=>h) (.inl ⟨by rfl,by (intro wq hSw; (try dsimp only at hSw); go_simp; (try (first | rfl | omega)))⟩) hHeld ?_
     simp only [Act.put,List.setIfInBounds_toArray,List.set_cons_zero,List.set_cons_succ]
     refine wpAnyH_tk (i:=9) (d:=67) (v:=.int .i64 xx) rfl rfl (by kernel_rfl) (by kernel_rfl) (by kernel_rfl) (fun _ _ _ h=>h) (.inl ⟨by rfl,by (intro wq hSw; (try dsimp only at hSw); go_simp; (try (first | rfl | omega)))⟩) hHeld ?_
     simp only [Act.put,List.setIfInBounds_toArray,List.set_cons_zero,List.set_cons_succ]
     refine wpAnyH_tk (i:=10) (d:=68) (v:=.slice (some ⟨lb,lf,none⟩) (d+2) cap) rfl rfl (by kernel_rfl) (by kernel_rfl) (by kernel_rfl) (fun _ _ _ h=>h) (.inl ⟨by rfl,by (intro wq hSw; (try dsimp only at hSw); go_simp; (try (first | rfl | omega)))⟩) hHeld ?_
     simp only [Act.put,List.setIfInBounds_toArray,List.set_cons_zero,List.set_cons_succ]
     refine wpAnyH_tk (i:=11) (d:=69) (v:=.pointer (some ⟨lb,lf+1,none⟩)) rfl rfl (by kernel_rfl) (by kernel_rfl) (by kernel_rfl) (fun _ _ _ h=>h) (.inl ⟨by rfl,by (intro wq hSw; (try dsimp only at hSw); go_simp; (try (first | rfl | omega)))⟩) hHeld ?_
     simp only [Act.put,List.setIfInBounds_toArray,List.set_cons_zero,List.set_cons_succ]
     refine wpAnyH_tk (i:=12) (d:=70) (v:=.slice ro order.length rc) rfl rfl (by kernel_rfl) (by kernel_rfl) (by kernel_rfl) (fun _ _ _ h=>h) (.inl ⟨by rfl,by (intro wq hSw; (try dsimp only at hSw); go_simp; (try (first | rfl | omega)))⟩) hHeld ?_
     simp only [Act.put,List.setIfInBounds_toArray,List.set_cons_zero,List.set_cons_succ]
     refine wpAnyH_tk (i:=13) (d:=71) (v:=.int .i64 (order.length:Int)) rfl rfl (by kernel_rfl) (by kernel_rfl) (by kernel_rfl) (fun _ _ _ h=>h) (.inl ⟨by rfl,by (intro wq hSw; (try dsimp only at hSw); go_simp; (try (first | rfl | omega)))⟩) hHeld ?_
     simp only [Act.put,List.setIfInBounds_toArray,List.set_cons_zero,List.set_cons_succ]
     refine wpAnyH_tk (i:=14) (d:=72) (v:=.bool false) rfl rfl (by kernel_rfl) (by kernel_rfl) (by kernel_rfl) (fun _ _ _ h=>h) (.inl ⟨by rfl,by (intro wq hSw; (try dsimp only at hSw); go_simp; (try (first | rfl | omega)))⟩) hHeld ?_
     simp only [Act.put,List.setIfInBounds_toArray,List.set_cons_zero,List.set_cons_succ]
     refine wpAnyH_tk (i:=15) (d:=73) (v:=.bool false) rfl rfl (by kernel_rfl) (by kernel_rfl) (by kernel_rfl) (fun _ _ _ h=>h) (.inl ⟨by rfl,by (intro wq hSw; (try dsimp only at hSw); go_simp; (try (first | rfl | omega)))⟩) hHeld ?_
     simp only [Act.put,List.setIfInBounds_toArray,List.set_cons_zero,List.set_cons_succ]
     refine wpAnyH_done (by kernel_rfl) ?_ _
     clear hHeld
     go_upto_region 17 with fail
     obtain ⟨WE,hWE⟩:∃WE,WE=WD.drew:=⟨_,rfl⟩
     have HBE:Hid (Below wr.heap.size wr WE):=by rw [hWE]; exact HBD.out.drew
     have S0:=HSS.out WE HBE.out
     rw [hWE] at S0
     refine wp_region_held_drew (S:=fun X=>X.cell? ⟨ob,of+i,none⟩=some (.int .i64 xx)∧X.cell? ⟨lb,lf+1,none⟩=some (.slice ro order.length rc)) (by kernel_rfl) S0 (fun hHeld=>?_)
     rw [←hWE] at hHeld ⊢
     clear hWE S0
     refine wpAnyH_tk (i:=0) (d:=74) (v:=.slice (some ⟨ob,of,none⟩) order.length oc) rfl rfl (by kernel_rfl) (by kernel_rfl) (by kernel_rfl) (fun _ _ _ h=>h) (.inl ⟨by rfl,by (intro wq hSw; (try dsimp only at hSw); go_simp; (try (first | rfl | omega)))⟩) hHeld ?_
     simp only [Act.put,List.setIfInBounds_toArray,List.set_cons_zero,List.set_cons_succ]
     refine wpAnyH_tk (i:=1) (d:=75) (v:=.int .i64 (i:Int)) rfl rfl (by kernel_rfl) (by kernel_rfl) (by kernel_rfl) (fun _ _ _ h=>h) (.inl ⟨by rfl,by (intro wq hSw; (try dsimp only at hSw); go_simp; (try (first | rfl | omega)))⟩) hHeld ?_
     simp only [Act.put,List.setIfInBounds_toArray,List.set_cons_zero,List.set_cons_succ]
     refine wpAnyH_tk (i:=2) (d:=76) (v:=.pointer (some ⟨ob,of+i,none⟩)) rfl rfl (by kernel_rfl) (by kernel_rfl) (by kernel_rfl) (fun _ _ _ h=>h) (.inl ⟨by rfl,by (intro wq hSw; (try dsimp only at hSw); go_simp; (try (first | rfl | omega)))⟩) hHeld ?_
     simp only [Act.put,List.setIfInBounds_toArray,List.set_cons_zero,List.set_cons_succ]
     refine wpAnyH_tk (i:=3) (d:=77) (v:=.int .i64 xx) rfl rfl (by kernel_rfl) (by kernel_rfl) (by kernel_rfl) (fun _ _ _ h=>h) (.inl ⟨by rfl,by (intro wq hSw; (try dsimp only at hSw); go_simp; (try (first | rfl | omega)))⟩) hHeld ?_
     simp only [Act.put,List.setIfInBounds_toArray,List.set_cons_zero,List.set_cons_succ]
     refine wpAnyH_tk (i:=4) (d:=78) (v:=.slice (some ⟨ob,of,none⟩) order.length oc) rfl rfl (by kernel_rfl) (by kernel_rfl) (by kernel_rfl) (fun _ _ _ h=>h) (.inl ⟨by rfl,by (intro wq hSw; (try dsimp only at hSw); go_simp; (try (first | rfl | omega)))⟩) hHeld ?_
     simp only [Act.put,List.setIfInBounds_toArray,List.set_cons_zero,List.set_cons_succ]
     refine wpAnyH_tk (i:=5) (d:=79) (v:=.int .i64 (i:Int)) rfl rfl (by kernel_rfl) (by kernel_rfl) (by kernel_rfl) (fun _ _ _ h=>h) (.inl ⟨by rfl,by (intro wq hSw; (try dsimp only at hSw); go_simp; (try (first | rfl | omega)))⟩) hHeld ?_
     simp only [Act.put,List.setIfInBounds_toArray,List.set_cons_zero,List.set_cons_succ]
     refine wpAnyH_tk (i:=6) (d:=80) (v:=.slice (some ⟨ob,of,none⟩) i oc) rfl rfl (by kernel_rfl) (by kernel_rfl) (by kernel_rfl) (fun _ _ _ h=>h) (.inl ⟨by rfl,by (intro wq hSw; (try dsimp only at hSw); go_simp; (try (first | rfl | omega)))⟩) hHeld ?_
     simp only [Act.put,List.setIfInBounds_toArray,List.set_cons_zero,List.set_cons_succ]
     refine wpAnyH_ready (rs:=[7]) (by kernel_rfl) (by simp) ?_
     refine ready_tk (i:=7) rfl (by rfl) (fun K hK=>?_) AllReadyH.nil
     go_simp
     refine (HIX.out WE HBE.out).mono ?_
     rintro e WF ⟨rfl,hbf⟩
     have HBF:Hid (Below wr.heap.size wr WF):=HBE.out.trans (hbf.mono HBE.out.size)
     refine hK.out _ _ (HSS.out WF HBF.out) (fun hHeld=>?_)
     clear hK K hbf
     try simp only [Act.put,List.setIfInBounds_toArray,List.set_cons_zero,List.set_cons_succ]
     refine wpAnyH_done (by kernel_rfl) ?_ _
     clear hHeld
     have HBG:Hid (Below w3.heap.size w3 WF):=HBR.out.trans (HBF.out.mono HBR.out.size)
     go_wp2
     exact ⟨⟨i+1,by omega,by go_num,rfl,HBG.out⟩,by simp [intOf]; omega⟩
    ·have hie:i=order.length:=by omega
     subst hie
     have HBX:Hid (Below w0'.heap.size w0' wr):=HB3.out.trans (HBR.out.mono HB3.out.size)
     have HPB:=K5.out wr C s A LV (some ⟨lb,lf,none⟩) cap HD.out HBX.out (HL3.out.low HBR.out)
     have HCS:Hid (∀cs,SAsc cs→(∀r,r∈cs↔r∈(pulD LV order (d+1) (memL (2 ^ C.length-1))).map cellL)→∀X,Below w0'.heap.size w0' X→Calls Tryz.prog 21 #[.agg #[.int .i64 d,.slice po P.length pc],.slice oo order.length oc] X fun e w'=>∃xo xc,e=.returned (.tuple #[.slice xo cs.length xc,.int .i64 0])∧(Mat 0 22 3 w' (.slice xo cs.length xc) cs∧Below X.heap.size X w')):=fun cs q1 q2 X hX=>by
      refine (K7.out X C s A LV cs HD.out q1 q2 hX).mono ?_
      rintro e w' ⟨xo,xc,rfl,r1,r2⟩
      exact ⟨xo,xc,rfl,r1,r2⟩
     clear K5 K7 HIN HOC HOB2 HL3 hi hlt
     go_wp2_with fail
     refine HPB.mono ?_
     rintro e w4 ⟨cs,xo,xc,rfl,hs4,hm4,hM4,hb4⟩
     have HCE:Hid (∀X,Below w0'.heap.size w0' X→Calls Tryz.prog 21 #[.agg #[.int .i64 d,.slice po P.length pc],.slice oo order.length oc] X fun e w'=>∃yo yc,e=.returned (.tuple #[.slice yo cs.length yc,.int .i64 0])∧(Mat 0 22 3 w' (.slice yo cs.length yc) cs∧Below X.heap.size X w')):=fun X hX=>by
      refine (HCS.out cs hs4 hm4 X hX).mono ?_
      rintro e w' ⟨yo,yc,rfl,r1,r2⟩
      exact ⟨yo,yc,rfl,r1,r2⟩
     have HM4:Hid (∀X,Below w4.heap.size w4 X→Mat 0 22 3 X (.slice xo cs.length xc) cs):=fun X hX=>hM4.below hX (Nat.le_refl _)
     have HB4:Hid (Below w0'.heap.size w0' w4):=hb4
     clear hs4 hm4 hM4 hb4 HCS HPB
     obtain ⟨e0,e1⟩:=HC.out w4 HB4.out
     go_wp2_with fail
     refine (HOF.out w4 HB4.out).mono ?_
     rintro e w5 ⟨rfl,hb5⟩
     have HB5:Hid (Below w4.heap.size w4 w5):=hb5
     have HB5':Hid (Below w0'.heap.size w0' w5):=HB4.out.trans (hb5.mono HB4.out.size)
     clear hb5 e0 e1 HOF
     obtain ⟨e0,e1⟩:=HC.out w5 HB5'.out
     go_wp2_with fail
     refine (HCE.out w5 HB5'.out).mono ?_
     rintro e w6 ⟨yo,yc,rfl,hM6,hb6⟩
     have HLI:Hid (Calls Tryz.prog 23 #[.slice yo cs.length yc,.int .i64 0,.slice xo cs.length xc,.int .i64 0] w6 fun x w'=>x=.returned (.bool true)∧Below w6.heap.size w6 w'):=HLS.out w6 cs _ _ hM6 (HM4.out w6 (HB5.out.trans (hb6.mono HB5.out.size)))
     have HB6:Hid (Below w0'.heap.size w0' w6):=HB5'.out.trans (hb6.mono HB5'.out.size)
     clear hM6 hb6 e0 e1 HCE HM4 HLS
     generalize cs.length=cl at *
     go_wp2_with fail
     refine (HN1.out w6 am).mono ?_
     rintro e w6' ⟨rfl,rfl⟩
     go_wp2_with fail
     refine HLI.out.mono ?_
     rintro e w7 ⟨rfl,hb7⟩
     have HB7:Hid (Below w0'.heap.size w0' w7):=HB6.out.trans (hb7.mono HB6.out.size)
     clear hb7 HLI HB4 HB5 HB5' HB6 HBX HBR HB3 HB2 HB1 HCL HD HSM
     go_wp2
     go_loopw [7,17] (fun sv iv wr=>∃i:Nat,i≤d+1∧iv=.int .i64 (i:Int)∧sv=.int .i64 0∧Below w7.heap.size w7 wr) (fun _ iv _=>d+1-(intOf iv).toNat)
     case atStart=>exact ⟨0,Nat.zero_le _,rfl,rfl,Below.refl _ _⟩
     case round=>
      obtain ⟨i,hi,rfl,rfl,hbr⟩:=hrel
      have HBR:Hid (Below w0'.heap.size w0' wr):=HB7.out.trans (hbr.mono HB7.out.size)
      have HBR7:Hid (Below w7.heap.size w7 wr):=hbr
      clear hbr
      by_cases hlt:i < d+1
      ·obtain ⟨rb,rf,zo,zc,hqo,hcc,HFA⟩:=HRW.out wr i HBR.out hlt
       have hiI:(i:Int) < ((d+1:Nat):Int):=by omega
       have hiI2:(i:Int) < (d:Int)+1:=by omega
       have hdd:((d:Int) != ((d+1:Nat):Int)-1)=false:=by rw [bne_eq_false_iff_eq]; omega
       have hdd2:((d+1:Nat):Int)-1=(d:Int):=by omega
       have hww:IntKind.wrap .i64 (d:Int)=(d:Int):=by rw [IntKind.wrap_i64]; omega
       subst hqo
       go_wp2_with fail
       refine HFA.mono ?_
       rintro e w8 ⟨rfl,rfl⟩
       clear HFA hcc
       go_wp2
       exact ⟨⟨i+1,by omega,by go_num,rfl,HBR7.out⟩,by simp [intOf]; omega⟩
      ·have hie:i=d+1:=by omega
       subst hie
       have HFM:=K8.out wr HBR.out
       clear hlt hi HRW K8
       go_wp2_with fail
       refine HFM.mono ?_
       rintro e w8 ⟨zo,zl,zc,rfl,hM8,hb8⟩
       have HDD:=K9.out w8 _ hM8
       have HB8:Hid (Below w0'.heap.size w0' w8):=hb8
       clear hM8 hb8 HFM K9
       go_wp2_with fail
       refine HDD.mono ?_
       rintro e w9 ⟨rfl,hb9⟩
       have HB9:Hid (Below w0'.heap.size w0' w9):=HB8.out.trans (hb9.mono HB8.out.size)
       have HCL9:=K10.out w9 HB9.out
       have HABS:=HDT.out
       clear hb9 HDD HB8 K10 HDT
       by_cases hneg:dt < 0
       ·rw [if_pos hneg] at HABS
        rw [HABS] at HCL9
        have hn1:decide (dt < 0)=true:=decide_eq_true hneg
        have hwn:IntKind.wrap .i64 (-dt)=-dt:=by rw [IntKind.wrap_i64]; omega
        clear HABS hneg hdb
        go_wp2_with fail
        refine HCL9.mono ?_
        rintro e wa ⟨rfl,hba⟩
        have HBA:Hid (Below w0'.heap.size w0' wa):=hba
        clear hba HCL9
        go_wp2_with fail
        refine (HN1.out wa (-dt)).mono ?_
        rintro e wb ⟨rfl,rfl⟩
        go_wp2
        go_ret
        exact ⟨rfl,HW.out.trans (HBA.out.mono (by omega))⟩
       ·rw [if_neg hneg] at HABS
        rw [HABS] at HCL9
        have hn1:decide (dt < 0)=false:=decide_eq_false hneg
        clear HABS hneg hdb
        go_wp2_with fail
        refine HCL9.mono ?_
        rintro e wa ⟨rfl,hba⟩
        have HBA:Hid (Below w0'.heap.size w0' wa):=hba
        clear hba HCL9
        go_wp2_with fail
        refine (HN1.out wa dt).mono ?_
        rintro e wb ⟨rfl,rfl⟩
        go_wp2
        go_ret
        exact ⟨rfl,HW.out.trans (HBA.out.mono (by omega))⟩
end Go.Proofs.YtfhjjpiakffagaaGreatDoor
namespace Go.Proofs.YtfhjjpiakffagaaGreatDoor
open Go.RowKit Lin
attribute [local go_sem ↓] Go.wp_at_zero Go.wp_at_succ
theorem poly_boxV {n wd:Nat} {m:List (List Int)} (hm:Box n wd m) (hw:wd≤6):Box n 6 (polyL n m):=by
 intro r hr
 simp only [polyL,List.mem_append,List.mem_singleton,List.mem_map,List.mem_range] at hr
 rcases hr with (hr | rfl) | ⟨k,hk,rfl⟩
 ·refine ⟨(hm r hr).1,fun z hz=>?_⟩
  have:=(hm r hr).2 z hz
  omega
 ·refine ⟨by simp [zerosL],fun z hz=>?_⟩
  simp only [zerosL,List.mem_map] at hz
  obtain ⟨_,_,rfl⟩:=hz
  omega
 ·refine ⟨by simp [spk],fun z hz=>?_⟩
  simp only [spk,List.mem_map] at hz
  obtain ⟨j,_,rfl⟩:=hz
  have:=Nat.mod_lt k (show 0 < 2 by decide)
  split <;> omega
theorem free_some {n:Nat} {o:List Int} (h:o.length < n):∃f:Int,0≤f∧f < (n:Int)∧f∉o:=by
 refine Classical.byContradiction fun hno=>?_
 have:=nodup_lenI (idn n) o (idn_nodup n) fun r hr=>by
  obtain ⟨h1,h2⟩:=idn_mem.1 hr
  exact Decidable.byContradiction fun hr=>hno ⟨r,h1,h2,hr⟩
 rw [idn_len] at this
 omega
def farF (n:Nat) (f k:Int):Nat:=if k≤f then (f-k).toNat else (f+n-k).toNat
theorem far_step {n:Nat} {f k:Int} (h0:0≤k) (h1:k < (n:Int)) (f0:0≤f) (f1:f < (n:Int)) (hne:k≠f):0≤(k+1) % (n:Int)∧(k+1) % (n:Int) < (n:Int)∧farF n f ((k+1) % (n:Int)) < farF n f k:=by
 by_cases h:k+1 < (n:Int)
 ·rw [Int.emod_eq_of_lt (by omega) h]
  unfold farF
  refine ⟨by omega,h,?_⟩
  split <;> split <;> omega
 ·have e:k+1=(n:Int):=by omega
  rw [e,Int.emod_self]
  unfold farF
  refine ⟨by omega,by omega,?_⟩
  split <;> split <;> omega
set_option maxRecDepth 100000 in
set_option maxHeartbeats 3200000 in
theorem volumeMade_any (B:Nat) (raw:List Int) (d0 m0 a0:Int) (v:Value) (w:World) (hv:Sl B 3 w v (ints raw)) (hr:∀z∈raw,In64 z) (hd:In64 d0) (hm:In64 m0) (ha:In64 a0) (hT:TabB w) :
  Calls Tryz.prog 3 #[v,.int .i64 d0,.int .i64 m0,.int .i64 a0] w fun e w'=>e=.returned (.bool true)∧Below w.heap.size w w':=by
 obtain ⟨i3,hi3,hz30,hz31,hz32⟩:=info_parts Tryz.info3
 obtain ⟨ao,cap,hvv,hlc,hcm⟩:=sl_open hv
 subst hvv
 have HV:Hid (Sl B 3 w (.slice ao raw.length cap) (ints raw)):=hv
 have HRR:Hid (∀z∈raw,In64 z):=hr
 have HD:Hid (In64 d0):=hd
 have HMM:Hid (In64 m0):=hm
 have HAA:Hid (In64 a0):=ha
 have HT:Hid (TabB w):=hT
 clear hv hr hd hm ha hT
 by_cases h1:256 < raw.length
 ·have b1:decide ((256:Int) < (raw.length:Int))=true:=decide_eq_true (by omega)
  go_enter Tryz.func3,Tryz.ntmps3
  go_wp2
  go_ret
  exact ⟨rfl,Below.refl _ _⟩
 ·have b1:decide ((256:Int) < (raw.length:Int))=false:=decide_eq_false (by omega)
  have HRL:Hid (raw.length≤1000000):=by
   show _≤_
   omega
  clear h1
  go_enter Tryz.func3,Tryz.ntmps3
  go_wp2_with fail
  refine (pick_any d0 4 w (by omega) (by omega) HD.out).mono ?_
  rintro e w1 ⟨z,rfl,hz,rfl⟩
  obtain ⟨n,hn⟩:∃n:Nat,(n:Int)=1+z:=⟨(1+z).toNat,by omega⟩
  have hz1':=hz.1
  have hz2':=hz.2
  have HN:Hid ((n:Int)=1+z):=hn
  have hn1:1≤n:=by omega
  have hn4:n≤4:=by omega
  clear hz hn
  go_wp2_with fail
  rw [←HN.out]
  refine (pick_any m0 5 w1 (by omega) (by omega) HMM.out).mono ?_
  rintro e w2 ⟨y,rfl,hy,rfl⟩
  obtain ⟨k,hk⟩:∃k:Nat,(k:Int)=y:=⟨y.toNat,by omega⟩
  have hk5:k≤4:=by omega
  subst hk
  clear hy hz1' hz2' HN
  go_wp2_with fail
  refine (pick_any a0 4 w2 (by omega) (by omega) HAA.out).mono ?_
  rintro e w2' ⟨y2,rfl,hy2,rfl⟩
  obtain ⟨wd,hwd⟩:∃wd:Nat,(wd:Int)=1+y2:=⟨(1+y2).toNat,by omega⟩
  have hy1':=hy2.1
  have hy2':=hy2.2
  have HWD:Hid ((wd:Int)=1+y2):=hwd
  have hwd4:wd≤4:=by omega
  clear hy2 hwd
  go_wp2_with fail
  rw [←HWD.out]
  refine (polytopeOf_any B raw _ n k wd w2' HV.out HRR.out HRL.out hn1 hn4 (by omega) (by omega)).mono ?_
  rintro e w3 ⟨x,m,rfl,hml,hbx,hmat,hb3⟩
  have hgood:Good n (polyL n m):=poly_good hn1 hn4 hbx (by omega) (by omega)
  have hlen:(polyL n m).length≤10:=by rw [poly_len]; omega
  have hpb:=poly_boxV hbx (show wd≤6 by omega)
  generalize hPP:polyL n m=P at *
  clear hPP hml hbx
  obtain ⟨xo,xc,hxv,_,_⟩:=mat_open hmat
  subst hxv
  have hsz:w2'.heap.size≤w3.heap.size:=hb3.size
  obtain ⟨W,hW⟩:∃W,W=w3.alloc (.cells #[.int .i64 n,.slice xo P.length xc] 26):=⟨_,rfl⟩
  have hbw:Below w3.heap.size w3 W:=by rw [hW]; exact alloc_keep _ _
  have hsW:W.heap.size=w3.heap.size+1:=by rw [hW]; exact size_alloc _ _
  have c0:W.cell? ⟨w3.heap.size,0,none⟩=some (.int .i64 n):=by rw [hW]; simp
  have c1:W.cell? ⟨w3.heap.size,1,none⟩=some (.slice xo P.length xc):=by rw [hW]; simp
  have HBW:Hid (Below w2'.heap.size w2' W):=hb3.trans (hbw.mono hb3.size)
  have HC:Hid (∀X,Below W.heap.size W X→X.cell? ⟨w3.heap.size,0,none⟩=some (.int .i64 n)∧X.cell? ⟨w3.heap.size,1,none⟩=some (.slice xo P.length xc)):=fun X h=>⟨(h.cell (lt_of_cell c0)).trans c0,(h.cell (lt_of_cell c1)).trans c1⟩
  have HM:Hid (∀X,Below W.heap.size W X→Mat X.heap.size 22 3 X (.slice xo P.length xc) P):=fun X h=>(((hmat.below hbw (Nat.le_refl _)).any (Nat.le_refl _)).below h (Nat.le_refl _)).any (Nat.le_refl _)
  have HRW:Hid (∀X,Below W.heap.size W X→Sl X.heap.size 3 X (.slice ao raw.length cap) (ints raw)):=fun X h=>(((HV.out.below hb3 (Nat.le_refl _)).below hbw (Nat.le_refl _)).below h (Nat.le_refl _)).any (Nat.le_refl _)
  have HTX:Hid (∀X,Below W.heap.size W X→TabB X):=fun X h=>((HT.out.below hb3).below hbw).below h
  have HCO:Hid (Calls Tryz.prog 6 #[.slice xo P.length xc] W fun e w'=>∃co cn cc,e=.returned (.slice co cn cc)∧(cn≤10∧(∀C s A LV,VDo n P C s A LV→C.length=cn)∧Below W.heap.size W w')):=by
   refine (cornersOf_any W.heap.size n P _ W (HM.out W (Below.refl _ _)) hn1 hn4 (by have:=hgood.n2; omega) (by omega) hpb).mono ?_
   rintro e w' ⟨x,c,s0,rfl,hf,hc,_,h0,hm,hb⟩
   have hM:=fr_mat0F hf
   obtain ⟨co,cc,rfl,_,_⟩:=mat_open hM
   refine ⟨co,c.length,cc,rfl,?_,fun C s A LV hD=>?_,hb⟩
   ·have:=nodup_lenL c P (sasc_nodup hc) fun y hy=>(List.mem_filter.1 ((hm y).1 hy)).1
    omega
   ·rw [hD.crn hgood hc h0 hm]
  have HRA:Hid (∀X (i:Nat),Below W.heap.size W X→i≤100→Calls Tryz.prog 7 #[.slice ao raw.length cap,.int .i64 (60+(i:Int))] X fun e w'=>∃z,e=.returned (.int .i64 z)∧In64 z∧Below X.heap.size X w'):=fun X i hX hi=>by
   rw [show (60:Int)+(i:Int)=((60+i:Nat):Int) by omega]
   refine (raw_any X.heap.size raw _ (60+i) X (HRW.out X hX) HRR.out HRL.out (by omega)).mono ?_
   rintro e w' ⟨z,rfl,hz,hb⟩
   exact ⟨z,rfl,⟨by omega,by omega⟩,hb⟩
  have HPO:Hid (∀X,Below W.heap.size W X→Calls Tryz.prog 10 #[.slice ao raw.length cap,.int .i64 3,.int .i64 n,.int .i64 ((n:Int)+1),.int .i64 5] X fun e w'=>∃(pts:List (List Int)) (qo:Option Addr) (qc:Nat),e=.returned (.slice qo (n+1) qc)∧(pts.length=n+1∧Box n 30 pts∧Mat w'.heap.size 22 3 w' (.slice qo (n+1) qc) pts∧Below X.heap.size X w')):=fun X hX=>by
   rw [show (n:Int)+1=((n+1:Nat):Int) by omega]
   refine (pointsOf_any X.heap.size raw _ 3 n (n+1) 5 X (HRW.out X hX) HRR.out HRL.out (by omega) (by omega) (by omega) (by omega)).mono ?_
   rintro e w' ⟨x,pts,rfl,hl,hbx,hfr,hb⟩
   have hM:=fr_mat0F hfr
   obtain ⟨qo,qc,rfl,_,_⟩:=mat_open hM
   rw [hl] at hM ⊢
   exact ⟨pts,qo,qc,rfl,hl,fun r hr=>⟨(hbx r hr).1,fun z hz=>by have:=(hbx r hr).2 z hz; omega⟩,hM.more (Nat.zero_le _),hb⟩
  have HVS:Hid (∀X cn (order:List Int) oo oc pts qo qc,Below W.heap.size W X→cn≤10→(∀C s A LV,VDo n P C s A LV→C.length=cn)→order.length=cn→order.Nodup→(∀x∈order,0≤x∧x < (cn:Int))→Sl X.heap.size 3 X (.slice oo cn oc) (ints order)→pts.length=n+1→Box n 30 pts→Mat X.heap.size 22 3 X (.slice qo (n+1) qc) pts→Calls Tryz.prog 9 #[.agg #[.int .i64 n,.slice xo P.length xc],.slice oo cn oc,.slice qo (n+1) qc] X fun e w'=>e=.returned (.bool true)∧Below X.heap.size X w'):=fun X cn order oo oc pts qo qc hX h10 hC hol hnd hb hO hpl hpx hpm=>by
   subst hol
   exact volumeSays_any n P pts order _ oo oc qo qc X (HM.out X hX) hgood hpb hlen (HTX.out X hX) hO hnd h10 (fun C s A LV hD=>by rw [hC C s A LV hD]; exact ⟨rfl,hb⟩) hpm hpx hpl
  clear hmat hgood hlen hpb hbw c0 c1 hb3 HM HRW HTX hy1' hy2' HWD HV HT HD HMM HAA HRR HRL
  obtain ⟨e0,e1⟩:=HC.out W (Below.refl _ _)
  go_upto_region 5 with fail
  rw [←hW]
  clear hW
  go_wp2_with fail
  refine HCO.out.mono ?_
  rintro e w4 ⟨co,cn,cc,rfl,hcn,hCn,hb4⟩
  have HCN:Hid (∀C s A LV,VDo n P C s A LV→C.length=cn):=hCn
  have HB4:Hid (Below W.heap.size W w4):=hb4
  clear hCn hb4 HCO e0 e1
  go_wp2
  go_loopw [11,12,13] (fun x iv kv wr=>∃(i:Nat) (oo:Option Addr) (oc:Nat) (od:List Int),i≤cn∧iv=.int .i64 (i:Int)∧x=.slice oo i oc∧od.length=i∧od.Nodup∧(∀y∈od,0≤y∧y < (cn:Int))∧wr.ownsRow w4.heap.size 3 1 (.slice oo i oc) i (ints od)∧Below w4.heap.size w4 wr) (fun _ iv _ _=>cn-(intOf iv).toNat)
  case atStart=>exact ⟨0,none,0,[],Nat.zero_le _,rfl,rfl,rfl,List.nodup_nil,fun y hy=>by simp at hy,World.ownsRow_nil _ _ _ _,Below.refl _ _⟩
  case round=>
   obtain ⟨i,oo,oc,od,hi,rfl,rfl,hol,hnd,hob,hown,hbr⟩:=hrel
   have HOL:Hid (od.length=i):=hol
   have HND:Hid od.Nodup:=hnd
   have HOB:Hid (∀y∈od,0≤y∧y < (cn:Int)):=hob
   have HOW:Hid (wr.ownsRow w4.heap.size 3 1 (.slice oo i oc) i (ints od)):=hown
   have HBR:Hid (Below w4.heap.size w4 wr):=hbr
   clear hol hnd hob hown hbr
   obtain ⟨wa,hwa⟩:∃wa,wa=wr:=⟨wr,rfl⟩
   rw [←hwa] at HOW HBR ⊢
   clear hwa wr
   by_cases hlt:i < cn
   ·obtain ⟨f,hf0,hf1,hfn⟩:=free_some (o:=od) (n:=cn) (by rw [HOL.out]; exact hlt)
    have HFN:Hid (f∉od):=hfn
    have HFS:Hid (∀k:Int,0≤k→k < (cn:Int)→k∈od→0≤(k+1) % (cn:Int)∧(k+1) % (cn:Int) < (cn:Int)∧farF cn f ((k+1) % (cn:Int)) < farF cn f k):=fun k h0 h1 hk=>far_step h0 h1 hf0 hf1 (fun e=>hfn (e ▸ hk))
    have HRX:Hid (Calls Tryz.prog 7 #[.slice ao raw.length cap,.int .i64 (60+(i:Int))] wa fun e w'=>∃z,e=.returned (.int .i64 z)∧In64 z∧Below wa.heap.size wa w'):=HRA.out wa i (HB4.out.trans (HBR.out.mono HB4.out.size)) (by omega)
    have hiI:(i:Int) < (cn:Int):=by omega
    have hw60:IntKind.wrap .i64 (60+(i:Int))=60+(i:Int):=by rw [IntKind.wrap_i64]; omega
    clear hfn hf0 hf1
    go_wp2_with fail
    refine HRX.out.mono ?_
    rintro e w5 ⟨z5,rfl,hz5,hb5⟩
    have HB5:Hid (Below wa.heap.size wa w5):=hb5
    have HZ5:Hid (In64 z5):=hz5
    clear hb5 hz5 HRX hw60
    go_wp2_with fail
    refine (pick_any z5 cn w5 (by omega) (by omega) HZ5.out).mono ?_
    rintro e w5' ⟨k0,rfl,hk0,rfl⟩
    have HK0:Hid (0≤k0∧k0 < (cn:Int)):=hk0
    clear hk0
    go_wp2
    go_loopw [13] (fun kv wq=>∃k:Int,kv=.int .i64 k∧0≤k∧k < (cn:Int)∧Below w5'.heap.size w5' wq) (fun kv _=>farF cn f (intOf kv))
    case atStart=>exact ⟨k0,rfl,HK0.out.1,HK0.out.2,Below.refl _ _⟩
    case round=>
     obtain ⟨k,rfl,hk0,hk1,hbq⟩:=hrel
     have HBQ:Hid (Below wa.heap.size wa wr):=HB5.out.trans (hbq.mono HB5.out.size)
     have HBQ5:Hid (Below w5'.heap.size w5' wr):=hbq
     have HIN:Hid (Calls Tryz.prog 8 #[.int .i64 k,.slice oo i oc] wr fun e w'=>e=.returned (.bool (od.contains k))∧Below wr.heap.size wr w'):=by
      have hs:=(Sl.own (B:=wr.heap.size) HOW.out).below HBQ.out (Nat.le_refl _)
      refine (inR_any wr.heap.size k od _ wr hs).mono ?_
      rintro e w' ⟨rfl,nn,rfl⟩
      exact ⟨rfl,below_drewN (Below.refl _ _) nn⟩
     have HFK:Hid (od.contains k=true→0≤(k+1) % (cn:Int)∧(k+1) % (cn:Int) < (cn:Int)∧farF cn f ((k+1) % (cn:Int)) < farF cn f k):=fun hc=>HFS.out k hk0 hk1 (List.contains_iff_mem.1 hc)
     have HFC:Hid (od.contains k=false→k∉od):=fun hc hm=>by rw [List.contains_iff_mem.2 hm] at hc; cases hc
     clear hbq
     generalize od.contains k=q at *
     have hk64:IntKind.wrap .i64 (k+1)=k+1:=by rw [IntKind.wrap_i64]; omega
     have hcn0:(cn:Int)≠0:=by omega
     go_wp2_with fail
     refine HIN.out.mono ?_
     rintro e w6 ⟨rfl,hb6⟩
     have HB6:Hid (Below w5'.heap.size w5' w6):=HBQ5.out.trans (hb6.mono HBQ5.out.size)
     clear hb6 HIN
     cases q
     case true=>
      obtain ⟨t0,t1,t2⟩:=HFK.out rfl
      have HT2:Hid (farF cn f ((k+1) % (cn:Int)) < farF cn f k):=t2
      have hwt:IntKind.wrap .i64 ((k+1) % (cn:Int))=(k+1) % (cn:Int):=by rw [IntKind.wrap_i64]; omega
      clear t2 HFK HFC
      go_wp2
      exact ⟨⟨_,rfl,t0,t1,HB6.out⟩,HT2.out⟩
     case false=>
      have HNK:Hid (k∉od):=HFC.out rfl
      have HB6a:Hid (Below wa.heap.size wa w6):=HB5.out.trans (HB6.out.mono HB5.out.size)
      have HO6:Hid (w6.ownsRow w4.heap.size 3 1 (.slice oo i oc) i (ints od)):=owns_below HOW.out HB6a.out (Nat.le_refl _)
      have hsz6:w4.heap.size≤w6.heap.size:=Nat.le_trans HBR.out.size HB6a.out.size
      have HK:Hid (0≤k∧k < (cn:Int)):=⟨hk0,hk1⟩
      clear HFK HFC hk64 hcn0 HFS hk0 hk1
      go_wp2_with (first | (at_builtin; refine wpList_append_own _ rfl _ _ 22 rfl w4.heap.size 3 i3 (.int .i64 0) 1 8 Tryz.underlying22 hi3 hz30 hz31 hz32 rfl (by decide) _ _ _ rfl (HO6.out.alloc _) ⟨w6.heap.size,0,none⟩ 1 1 [.int .i64 k] rfl rfl (one_new _ _ _) (one_int _) ?d3 ?d4 ?d5 ?_))
      case d3=>unfold maxLen; omega
      case d4=>omega
      case d5=>first | exact hsz6 | omega | (simp; omega)
      intro v' w7 ho7 hg7 _
      obtain ⟨vo,vc,hv7⟩:=owns_form ho7
      subst hv7
      have R1:Hid (w7.ownsRow w4.heap.size 3 1 (.slice vo (i+1) vc) (i+1) (ints (od ++ [k]))):=by
       have e:ints (od ++ [k])=ints od ++ [.int .i64 k]:=by simp [ints]
       rw [e]; exact ho7
      have R2:Hid (Below w4.heap.size w4 w7):=((HBR.out.trans (HB6a.out.mono HBR.out.size)).alloc hsz6 _).grown hg7 (by simp; omega) (fun x hx=>(HO6.out.lt x hx).1)
      have R3:Hid ((od ++ [k]).length=i+1):=by
       show _=_
       rw [List.length_append,HOL.out]; rfl
      have R4:Hid (od ++ [k]).Nodup:=by
       show (od ++ [k]).Nodup
       rw [List.nodup_append]
       refine ⟨HND.out,by simp,fun a ha b hb e=>?_⟩
       simp only [List.mem_singleton] at hb
       subst hb e
       exact HNK.out ha
      have R5:Hid (∀y∈od ++ [k],0≤y∧y < (cn:Int)):=fun y hy=>by
       rcases List.mem_append.1 hy with hy | hy
       ·exact HOB.out y hy
       ·simp only [List.mem_singleton] at hy
        subst hy
        exact HK.out
      clear ho7 hg7
      go_wp2
      exact ⟨⟨i+1,vo,vc,od ++ [k],by omega,by go_num,rfl,R3.out,R4.out,R5.out,R1.out,R2.out⟩,by simp [intOf]; omega⟩
   ·have hie:i=cn:=by omega
    have HIE:Hid (i=cn):=hie
    rw [hie] at HOL HOW ⊢
    clear hie hlt hi HIE i
    have HWA:Hid (Below W.heap.size W wa):=HB4.out.trans (HBR.out.mono HB4.out.size)
    have HSO:Hid (∀X,Below wa.heap.size wa X→Sl X.heap.size 3 X (.slice oo cn oc) (ints od)):=fun X hX=>((Sl.own (B:=X.heap.size) HOW.out).below hX (Nat.le_refl _))
    have HSS:Hid (∀X,Below wa.heap.size wa X→X.cell? ⟨w3.heap.size,0,none⟩=some (.int .i64 n)∧X.cell? ⟨w3.heap.size,1,none⟩=some (.slice xo P.length xc)):=fun X hX=>HC.out X (HWA.out.trans (hX.mono HWA.out.size))
    have hwn:IntKind.wrap .i64 ((n:Int)+1)=(n:Int)+1:=by rw [IntKind.wrap_i64]; omega
    clear HC HRA HOW HBR
    go_upto_region 14 with fail
    obtain ⟨WD,hWD⟩:∃WD,WD=wa.drew:=⟨_,rfl⟩
    have HBD:Hid (Below wa.heap.size wa WD):=by rw [hWD]; exact (Below.refl _ _).drew
    have S0:=HSS.out WD HBD.out
    rw [hWD] at S0
    refine wp_region_held_drew (S:=fun X=>X.cell? ⟨w3.heap.size,0,none⟩=some (.int .i64 n)∧X.cell? ⟨w3.heap.size,1,none⟩=some (.slice xo P.length xc)) (by kernel_rfl) S0 (fun hHeld=>?_)
    rw [←hWD] at hHeld ⊢
    clear hWD S0
    refine wpAnyH_tk (i:=0) (d:=54) (v:=.agg #[.int .i64 n,.slice xo P.length xc]) rfl rfl (by kernel_rfl) (by kernel_rfl) (by kernel_rfl) (fun _ _ _ h=>h) (.inl ⟨by rfl,by (intro wq hSw; (try dsimp only at hSw); go_simp; (try (first | rfl | omega)))⟩) hHeld ?_
    simp only [Act.put,List.setIfInBounds_toArray,List.set_cons_zero,List.set_cons_succ]
    refine wpAnyH_tk (i:=1) (d:=55) (v:=.slice oo cn oc) rfl rfl (by kernel_rfl) (by kernel_rfl) (by kernel_rfl) (fun _ _ _ h=>h) (.inl ⟨by rfl,by (intro wq hSw; (try dsimp only at hSw); go_simp; (try (first | rfl | omega)))⟩) hHeld ?_
    simp only [Act.put,List.setIfInBounds_toArray,List.set_cons_zero,List.set_cons_succ]
    refine wpAnyH_tk (i:=2) (d:=56) (v:=.slice ao raw.length cap) rfl rfl (by kernel_rfl) (by kernel_rfl) (by kernel_rfl) (fun _ _ _ h=>h) (.inl ⟨by rfl,by (intro wq hSw; (try dsimp only at hSw); go_simp; (try (first | rfl | omega)))⟩) hHeld ?_
    simp only [Act.put,List.setIfInBounds_toArray,List.set_cons_zero,List.set_cons_succ]
    refine wpAnyH_tk (i:=3) (d:=57) (v:=.int .i64 n) rfl rfl (by kernel_rfl) (by kernel_rfl) (by kernel_rfl) (fun _ _ _ h=>h) (.inl ⟨by rfl,by (intro wq hSw; (try dsimp only at hSw); go_simp; (try (first | rfl | omega)))⟩) hHeld ?_
    simp only [Act.put,List.setIfInBounds_toArray,List.set_cons_zero,List.set_cons_succ]
    refine wpAnyH_tk (i:=4) (d:=58) (v:=.int .i64 n) rfl rfl (by kernel_rfl) (by kernel_rfl) (by kernel_rfl) (fun _ _ _ h=>h) (.inl ⟨by rfl,by (intro wq hSw; (try dsimp only at hSw); go_simp; (try (first | rfl | omega)))⟩) hHeld ?_
    simp only [Act.put,List.setIfInBounds_toArray,List.set_cons_zero,List.set_cons_succ]
    refine wpAnyH_tk (i:=5) (d:=59) (v:=.int .i64 ((n:Int)+1)) rfl rfl (by kernel_rfl) (by kernel_rfl) (by kernel_rfl) (fun _ _ _ h=>h) (.inl ⟨by rfl,by (intro wq hSw; (try dsimp only at hSw); go_simp; (try (first | rfl | omega)))⟩) hHeld ?_
    simp only [Act.put,List.setIfInBounds_toArray,List.set_cons_zero,List.set_cons_succ]
    refine wpAnyH_ready (rs:=[6]) (by kernel_rfl) (by simp) ?_
    refine ready_tk (i:=6) rfl (by rfl) (fun K hK=>?_) AllReadyH.nil
    go_simp
    refine (HPO.out WD (HWA.out.trans (HBD.out.mono HWA.out.size))).mono ?_
    rintro e WE ⟨pts,qo,qc,rfl,hpl,hpx,hpm,hbe⟩
    have HBE:Hid (Below wa.heap.size wa WE):=HBD.out.trans (hbe.mono HBD.out.size)
    have HVX:Hid (Calls Tryz.prog 9 #[.agg #[.int .i64 n,.slice xo P.length xc],.slice oo cn oc,.slice qo (n+1) qc] WE fun e w'=>e=.returned (.bool true)∧Below WE.heap.size WE w'):=
     HVS.out WE cn od oo oc pts qo qc (HWA.out.trans (HBE.out.mono HWA.out.size)) hcn HCN.out HOL.out HND.out HOB.out (HSO.out WE HBE.out) hpl hpx hpm
    refine hK.out _ _ (HSS.out WE HBE.out) (fun hHeld=>?_)
    clear hK K hpl hpx hpm hbe HVS HPO
    try simp only [Act.put,List.setIfInBounds_toArray,List.set_cons_zero,List.set_cons_succ]
    refine wpAnyH_ready (rs:=[7]) (by kernel_rfl) (by simp) ?_
    refine ready_tk (i:=7) rfl (by rfl) (fun K hK=>?_) AllReadyH.nil
    go_simp
    refine HVX.out.mono ?_
    rintro e WF ⟨rfl,hbf⟩
    have HBF:Hid (Below wa.heap.size wa WF):=HBE.out.trans (hbf.mono HBE.out.size)
    refine hK.out _ _ (HSS.out WF HBF.out) (fun hHeld=>?_)
    clear hK K hbf
    try simp only [Act.put,List.setIfInBounds_toArray,List.set_cons_zero,List.set_cons_succ]
    refine wpAnyH_tk (i:=8) (d:=8) (v:=.bool true) rfl rfl (by kernel_rfl) (by kernel_rfl) (by kernel_rfl) (fun _ _ _ h=>h) (.inl ⟨by rfl,by (intro wq hSw; (try dsimp only at hSw); go_simp; (try (first | rfl | omega)))⟩) hHeld ?_
    simp only [Act.put,List.setIfInBounds_toArray,List.set_cons_zero,List.set_cons_succ]
    refine wpAnyH_done (by kernel_rfl) ?_ _
    clear hHeld
    have HFIN:Hid (Below w2'.heap.size w2' WF):=HBW.out.trans ((HWA.out.trans (HBF.out.mono HWA.out.size)).mono HBW.out.size)
    go_wp2
    go_ret
    exact ⟨rfl,HFIN.out⟩
end Go.Proofs.YtfhjjpiakffagaaGreatDoor
