import Derived.Test.YtfhjjpiakffagaaGreatDoorVoY
import Derived.Test.YtfhjjpiakffagaaGreatDoorVp8
namespace Go.Proofs.YtfhjjpiakffagaaGreatDoor
open Go.RowKit Lin
attribute [local go_sem ↓] Go.wp_at_zero Go.wp_at_succ
structure VDo (d:Nat) (P C s:List (List Int)) (A:List Nat) (LV:Nat→List (List Int)):Prop where
 f:DocF d P C s A
 l:∀t,t < d+2→LevOk d C A t (LV t)
 z:∀t,d+2≤t→LV t=[]
theorem idn_mem {n:Nat} {x:Int} : x∈idn n↔0≤x∧x < (n:Int):=by
 unfold idn
 simp only [List.mem_map,List.mem_range]
 constructor
 ·rintro ⟨k,hk,rfl⟩; omega
 ·intro h; exact ⟨x.toNat,by omega,by omega⟩
theorem VDo.lvp {d:Nat} {P C s:List (List Int)} {A:List Nat} {LV:Nat→List (List Int)} {order:List Int} (h:VDo d P C s A LV) (hg:Good d P) (hn:P.length≤10) (hord:∀x∈order,0≤x∧x < (C.length:Int)) (hall:∀k:Nat,k < C.length→(k:Int)∈order) (hol:order.length≤10) :
  LvP LV order C.length d∧LV (d+1)=[memL (2 ^ C.length-1)]∧(LV 1).length=C.length∧∀g∈LV 1,g.length=1:=lvP_of hg hn h.f h.l h.z hord hall hol
theorem VDo.idp {d:Nat} {P C s:List (List Int)} {A:List Nat} {LV:Nat→List (List Int)} (h:VDo d P C s A LV) (hg:Good d P) (hn:P.length≤10) :
  LvP LV (idn C.length) C.length d∧LV (d+1)=[memL (2 ^ C.length-1)]∧(LV 1).length=C.length∧∀g∈LV 1,g.length=1:=
 h.lvp hg hn (fun x hx=>idn_mem.1 hx) (fun k hk=>idn_mem.2 ⟨by omega,by omega⟩) (by rw [idn_len]; exact doc_small h.f hn)
theorem LevOk.same {d:Nat} {C:List (List Int)} {A A':List Nat} {t:Nat} {l m:List (List Int)} (hA:∀a,a∈A↔a∈A') (hl:LevOk d C A t l) (hm:LevOk d C A' t m):l=m:=by
 refine sasc_ext l m hl.1 hm.1 fun r=>?_
 rw [hl.2 r,hm.2 r]
 constructor
 ·rintro ⟨a,h1,h2⟩; exact ⟨a,(hA a).1 h1,h2⟩
 ·rintro ⟨a,h1,h2⟩; exact ⟨a,(hA a).2 h1,h2⟩
theorem VDo.same {d:Nat} {P C s C' s':List (List Int)} {A A':List Nat} {LV LV':Nat→List (List Int)} (h:VDo d P C s A LV) (h':VDo d P C' s' A' LV') (hg:Good d P) (hn:P.length≤10):C'=C∧LV'=LV:=by
 obtain ⟨rfl,rfl⟩:=(doc_fnds hg hn h.f).same h'.f
 refine ⟨rfl,funext fun t=>?_⟩
 by_cases ht:t < d+2
 ·exact LevOk.same (fun a=>(h'.f.mem a).trans (h.f.mem a).symm) (h'.l t ht) (h.l t ht)
 ·rw [h.z t (by omega),h'.z t (by omega)]
theorem latV_any (d:Nat) (P:List (List Int)) (v:Value) (w:World) (hv:Mat w.heap.size 22 3 w v P) (hg:Good d P) (hn:P.length≤10) (hx:Box d 6 P) :
  Calls Tryz.prog 18 #[v] w fun e w'=>∃ao cap C s A LV,e=.returned (.slice ao (d+2) cap)∧(VDo d P C s A LV∧LvV w' (.slice ao (d+2) cap) (d+2) LV∧Below w.heap.size w w'):=by
 refine (latticeOf_any w.heap.size d P _ w hv hg (by omega) hx).mono ?_
 rintro e w' ⟨x,C,s,A,rfl,hL,hb⟩
 obtain ⟨LV,l1,l2⟩:=hL.lev.named
 have l3:=l1.congr (LV2:=fun t=>if t < d+2 then LV t else []) fun t ht=>by simp [ht]
 obtain ⟨ao,cap,rfl,hr⟩:=l1.rows
 refine ⟨ao,cap,C,s,A,_,rfl,⟨hL.docF,fun t ht=>?_,fun t ht=>?_⟩,l3,hb⟩
 ·simp only [ht,if_true]; exact l2 t ht
 ·simp [show ¬t < d+2 by omega]
theorem VDo.crn {d:Nat} {P C s:List (List Int)} {A:List Nat} {LV:Nat→List (List Int)} (h:VDo d P C s A LV) (hg:Good d P) {c s0:List (List Int)} (hc:SAsc c) (h0:∀r,r∈s0↔r∈rowsD P d) (hm:∀y,y∈c↔y∈crn d s0 P):c=C:=by
 obtain ⟨hasc,s1,hs1,hcm⟩:=h.f.crn
 refine sasc_ext c C hc hasc fun y=>?_
 rw [hm y,hcm y]
 exact crn_same hg h0 hs1 y
set_option maxRecDepth 100000 in
set_option maxHeartbeats 1600000 in
theorem pulledR_any {LV:Nat→List (List Int)} {d:Nat} {C:List (List Int)} (h:LvO LV (idn C.length) C.length) (hn:C.length≤10) (hd1:1≤d) (hd:d≤4) (face:List Int) (hone:LV (d+1)=[face]) (lo:Option Addr) (lc:Nat) (co:Option Addr) (cc:Nat) (w:World) (hL:LvV w (.slice lo (d+2) lc) (d+2) LV) :
  Calls Tryz.prog 36 #[.slice lo (d+2) lc,.slice co C.length cc] w fun e w'=>∃s xo xc,e=.returned (.slice xo s.length xc)∧SAsc s∧(∀r,r∈s↔r∈(pulD LV (idn C.length) (d+1) face).map cellL)∧Mat 0 22 3 w' (.slice xo s.length xc) s∧Below w.heap.size w w':=by
 obtain ⟨i3,hi3,hz30,hz31,hz32⟩:=info_parts Tryz.info3
 have K:Hid (∀X oo oc,Below w.heap.size w X→Sl X.heap.size 3 X (.slice oo C.length oc) (ints (idn C.length))→Calls Tryz.prog 19 #[.slice lo (d+2) lc,.slice oo C.length oc] X fun e w'=>∃(s:List (List Int)) (xo:Option Addr) (xc:Nat),e=.returned (.slice xo s.length xc)∧(SAsc s∧(∀r,r∈s↔r∈(pulD LV (idn C.length) (d+1) face).map cellL)∧Mat 0 22 3 w' (.slice xo s.length xc) s∧Below X.heap.size X w')):=fun X oo oc hX hO=>by
  have hp:=pulledBy_any h hn hd1 hd face hone lo lc oo oc X (hL.low hX) (by rw [idn_len]; exact hO)
  rw [idn_len] at hp
  refine hp.mono ?_
  rintro e w' ⟨s,xo,xc,rfl,q1,q2,q3,q4⟩
  exact ⟨s,xo,xc,rfl,q1,q2,q3,q4⟩
 clear hL hone h
 go_enter Tryz.func36,Tryz.ntmps36
 go_wp2
 go_loopw [5,6] (fun x kv wr=>∃(k:Nat) (ao:Option Addr) (ac:Nat),k≤C.length∧kv=.int .i64 (k:Int)∧x=.slice ao k ac∧wr.ownsRow w.heap.size 3 1 (.slice ao k ac) k (ints (idn k))∧Below w.heap.size w wr) (fun _ kv _=>C.length-(intOf kv).toNat)
 case atStart=>exact ⟨0,none,0,Nat.zero_le _,rfl,rfl,World.ownsRow_nil _ _ _ _,Below.refl _ _⟩
 case round=>
  obtain ⟨k,ao,ac,hk,rfl,rfl,ho,hbr⟩:=hrel
  have HO:Hid (wr.ownsRow w.heap.size 3 1 (.slice ao k ac) k (ints (idn k))):=ho
  have HBR:Hid (Below w.heap.size w wr):=hbr
  clear ho hbr
  by_cases hlt:k < C.length
  ·have hkI:(k:Int) < (C.length:Int):=by omega
   have hszr:=HBR.out.size
   go_wp2_with (first | (at_builtin; refine wpList_append_own _ rfl _ _ 22 rfl w.heap.size 3 i3 (.int .i64 0) 1 8 Tryz.underlying22 hi3 hz30 hz31 hz32 rfl (by decide) _ _ _ rfl (HO.out.alloc _) ⟨wr.heap.size,0,none⟩ 1 1 [.int .i64 (k:Int)] rfl rfl (one_new _ _ _) (one_int _) ?d3 ?d4 ?d5 ?_))
   case d3=>unfold maxLen; omega
   case d4=>omega
   case d5=>first | exact hszr | omega | (simp; omega)
   intro v' w7 ho7 hg7 _
   obtain ⟨vo,vc,hv7⟩:=owns_form ho7
   subst hv7
   have R1:Hid (w7.ownsRow w.heap.size 3 1 (.slice vo (k+1) vc) (k+1) (ints (idn (k+1)))):=by
    rw [idn_snoc]; exact ho7
   have R2:Hid (Below w.heap.size w w7):=(HBR.out.alloc hszr _).grown hg7 (by simp; omega) (fun x hx=>(HO.out.lt x hx).1)
   clear ho7 hg7
   go_wp2
   exact ⟨⟨k+1,vo,vc,by omega,by go_num,rfl,R1.out,R2.out⟩,by simp [intOf]; omega⟩
  ·have hke:k=C.length:=by omega
   subst hke
   have HCE:=K.out wr ao ac HBR.out ((Sl.own (B:=0) HO.out).more (Nat.zero_le _))
   clear HO hlt hk K
   go_wp2_with fail
   refine HCE.mono ?_
   rintro e w2 ⟨m,xo,xc,rfl,hs2,hm2,hM2,hb2⟩
   have HF:Hid (SAsc m∧(∀r,r∈m↔r∈(pulD LV (idn C.length) (d+1) face).map cellL)∧Mat 0 22 3 w2 (.slice xo m.length xc) m∧Below w.heap.size w w2):=⟨hs2,hm2,hM2,HBR.out.trans (hb2.mono HBR.out.size)⟩
   clear hs2 hm2 hM2 hb2 HCE
   generalize hml:m.length=ml at *
   have HML:Hid (m.length=ml):=hml
   clear hml
   go_wp2
   go_ret
   exact ⟨m,xo,xc,by rw [HML.out]; rfl,HF.out.1,HF.out.2.1,by rw [HML.out]; exact HF.out.2.2.1,HF.out.2.2.2⟩
set_option maxRecDepth 100000 in
set_option maxHeartbeats 3200000 in
theorem amount_any (d:Nat) (P:List (List Int)) (v:Value) (w:World) (hv:Mat w.heap.size 22 3 w v P) (hg:Good d P) (hx:Box d 6 P) (hn:P.length≤10) :
  Calls Tryz.prog 17 #[v] w fun e w'=>∃C s A LV m,e=.returned (.int .i64 (amS C m))∧VDo d P C s A LV∧SAsc m∧(∀r,r∈m↔r∈(pulD LV (idn C.length) (d+1) (memL (2 ^ C.length-1))).map cellL)∧Below w.heap.size w w':=by
 obtain ⟨po,pc,rfl,hlc,hcm⟩:=mat_open hv
 have h1:=hg.d1
 have h4:=hg.d4
 have h2:=hg.n2
 have HM:Hid (∀X,Below w.heap.size w X→Mat X.heap.size 22 3 X (.slice po P.length pc) P):=fun X h=>(hv.below h (Nat.le_refl _)).any (Nat.le_refl _)
 have K1:Hid (Calls Tryz.prog 18 #[.slice po P.length pc] w fun e w'=>∃ao cap C s A LV,e=.returned (.slice ao (d+2) cap)∧(VDo d P C s A LV∧LvV w' (.slice ao (d+2) cap) (d+2) LV∧Below w.heap.size w w')):=latV_any d P _ w hv hg hn hx
 have K2:Hid (∀X C s A LV,VDo d P C s A LV→Below w.heap.size w X→Calls Tryz.prog 6 #[.slice po P.length pc] X fun e w'=>∃co cc,e=.returned (.slice co C.length cc)∧(Mat 0 22 3 w' (.slice co C.length cc) C∧Below X.heap.size X w')):=fun X C s A LV hD hX=>by
  refine (cornersOf_any X.heap.size d P _ X (HM.out X hX) h1 h4 (by omega) (by omega) hx).mono ?_
  rintro e w' ⟨x,c,s0,rfl,hf,hc,_,h0,hm,hb⟩
  have hce:=hD.crn hg hc h0 hm
  subst hce
  have hM:=fr_mat0F hf
  obtain ⟨co,cc,rfl,_,_⟩:=mat_open hM
  exact ⟨co,cc,rfl,hM,hb⟩
 have K3:Hid (∀X C s A LV ao cap co cc,VDo d P C s A LV→LvV X (.slice ao (d+2) cap) (d+2) LV→Calls Tryz.prog 36 #[.slice ao (d+2) cap,.slice co C.length cc] X fun e w'=>∃(m:List (List Int)) (xo:Option Addr) (xc:Nat),e=.returned (.slice xo m.length xc)∧(SAsc m∧(∀r,r∈m↔r∈(pulD LV (idn C.length) (d+1) (memL (2 ^ C.length-1))).map cellL)∧Mat 0 22 3 w' (.slice xo m.length xc) m∧Below X.heap.size X w')):=fun X C s A LV ao cap co cc hD hL=>by
  obtain ⟨q1,q2,q3,q4⟩:=hD.idp hg hn
  refine (pulledR_any q1.o (doc_small hD.f hn) h1 h4 _ q2 ao cap co cc X hL).mono ?_
  rintro e w' ⟨m,xo,xc,rfl,r1,r2,r3,r4⟩
  exact ⟨m,xo,xc,rfl,r1,r2,r3,r4⟩
 have HCB:Hid (∀C s A LV,VDo d P C s A LV→Box d 6 C):=fun C s A LV hD y hy=>by
  obtain ⟨_,s1,hs1,hcm⟩:=hD.f.crn
  exact hx y (List.mem_filter.1 ((hcm y).1 hy)).1
 have HFIT:Hid (∀C s A LV,VDo d P C s A LV→∀c∈(pulD LV (idn C.length) (d+1) (memL (2 ^ C.length-1))).map cellL,c.length=d+1∧∀x∈c,0≤x∧x < (C.length:Int)):=fun C s A LV hD=>by
  obtain ⟨q1,q2,q3,q4⟩:=hD.idp hg hn
  exact cells_fit q1.o (doc_small hD.f hn) q4 q2
 have K4:Hid (∀X C s A LV co cc yo yc c,VDo d P C s A LV→c∈(pulD LV (idn C.length) (d+1) (memL (2 ^ C.length-1))).map cellL→Mat 0 22 3 X (.slice co C.length cc) C→Sl X.heap.size 3 X (.slice yo c.length yc) (ints c)→Calls Tryz.prog 37 #[.slice co C.length cc,.slice yo c.length yc] X fun e w'=>e=.returned (.int .i64 (amt C c))∧Below X.heap.size X w'):=fun X C s A LV co cc yo yc c hD hc hM hS=>by
  obtain ⟨q1,q2⟩:=HFIT.out C s A LV hD c hc
  exact simplex_any d C c _ yo yc X hM hS (HCB.out C s A LV hD) h4 q2 q1
 have HAB:Hid (∀C s A LV c,VDo d P C s A LV→c∈(pulD LV (idn C.length) (d+1) (memL (2 ^ C.length-1))).map cellL→0≤amt C c∧amt C c≤1000000000):=fun C s A LV c hD hc=>by
  obtain ⟨q1,q2⟩:=HFIT.out C s A LV hD c hc
  obtain ⟨hsq,hln⟩:=cell_sq (HCB.out C s A LV hD) h4 q2 q1
  have hb:=detL_bd hsq
  rw [hln] at hb
  have h2:=Nat.le_trans hb (Nat.le_trans (fb_mono (by decide) h4) (show fb 12 4≤1000000000 by decide))
  unfold amt
  omega
 have HMC:Hid (∀C s A LV (m:List (List Int)),VDo d P C s A LV→SAsc m→(∀r,r∈m↔r∈(pulD LV (idn C.length) (d+1) (memL (2 ^ C.length-1))).map cellL)→m.length≤1024):=fun C s A LV m hD hs hm=>by
  obtain ⟨q1,q2,q3,q4⟩:=hD.idp hg hn
  have hC10:=doc_small hD.f hn
  have:=nodup_lenL m ((List.range 1024).map memL) hs.nodup fun r hr=>by
   obtain ⟨l,hl,rfl⟩:=List.mem_map.1 ((hm r).1 hr)
   exact List.mem_map.2 ⟨setN l,List.mem_range.2 (setN_lt10 l fun x hx=>by have:=(pulD_mem q1.o d _ (by rw [q2]; simp) l hl).2 x hx; omega),rfl⟩
  simpa using this
 clear hv hg hx HFIT HCB HM hlc hcm
 go_enter Tryz.func17,Tryz.ntmps17
 go_wp2_with fail
 refine K1.out.mono ?_
 rintro e w1 ⟨ao,cap,C,s,A,LV,rfl,hD,hL,hb1⟩
 have HD:Hid (VDo d P C s A LV):=hD
 have HL:Hid (LvV w1 (.slice ao (d+2) cap) (d+2) LV):=hL
 have HB1:Hid (Below w.heap.size w w1):=hb1
 clear hD hL hb1 K1
 go_wp2_with fail
 refine (K2.out w1 C s A LV HD.out HB1.out).mono ?_
 rintro e w2 ⟨co,cc,rfl,hM2,hb2⟩
 have HM2:Hid (∀X,Below w2.heap.size w2 X→Mat 0 22 3 X (.slice co C.length cc) C):=fun X hX=>hM2.below hX (Nat.le_refl _)
 have HB2:Hid (Below w1.heap.size w1 w2):=hb2
 clear hM2 hb2 K2
 go_wp2_with fail
 refine (K3.out w2 C s A LV ao cap co cc HD.out (HL.out.low HB2.out)).mono ?_
 rintro e w3 ⟨m,xo,xc,rfl,hs3,hm3,hM3,hb3⟩
 have HS:Hid (SAsc m∧∀r,r∈m↔r∈(pulD LV (idn C.length) (d+1) (memL (2 ^ C.length-1))).map cellL):=⟨hs3,hm3⟩
 have HM3:Hid (∀X,Below w3.heap.size w3 X→Mat 0 22 3 X (.slice xo m.length xc) m):=fun X hX=>hM3.below hX (Nat.le_refl _)
 have HB3:Hid (Below w2.heap.size w2 w3):=hb3
 have hml:=HMC.out C s A LV m HD.out hs3 hm3
 have HAS:Hid (∀k,k≤m.length→0≤amS C (m.take k)∧amS C (m.take k)≤1000000000*k):=amS_bd fun c hc=>HAB.out C s A LV c HD.out ((hm3 c).1 hc)
 have HSN:Hid (∀k,k < m.length→amS C (m.take (k+1))=amS C (m.take k)+amt C (m.getD k [])):=fun k hk=>amS_snoc hk
 clear hs3 hm3 hM3 hb3 K3 HMC
 go_wp2
 go_loopw [6,7] (fun sv kv wr=>∃k:Nat,k≤m.length∧kv=.int .i64 (k:Int)∧sv=.int .i64 (amS C (m.take k))∧Below w3.heap.size w3 wr) (fun _ kv _=>m.length-(intOf kv).toNat)
 case atStart=>exact ⟨0,Nat.zero_le _,rfl,by simp [amS],Below.refl _ _⟩
 case round=>
  obtain ⟨k,hk,rfl,rfl,hbk⟩:=hrel
  have HBK:Hid (Below w3.heap.size w3 wr):=hbk
  clear hbk
  by_cases hlk:k < m.length
  ·obtain ⟨qb,qo,qcp,q1,hqs,_,hqc,hq1⟩:=mat_cell (HM3.out wr HBK.out) hlk
   simp only [Value.slice.injEq,true_and] at hqs
   obtain ⟨rfl,rfl⟩:=hqs
   obtain ⟨yo,yc,rfl,_,_⟩:=sl_open hq1
   have hcm:m.getD k []∈(pulD LV (idn C.length) (d+1) (memL (2 ^ C.length-1))).map cellL:=(HS.out.2 _).1 (by simp [hlk])
   have HSI:=K4.out wr C s A LV co cc yo yc (m.getD k []) HD.out hcm (HM2.out wr (HB3.out.trans (HBK.out.mono HB3.out.size))) (hq1.more (Nat.zero_le _))
   have hs1:=HSN.out k hlk
   have hb1:=HAS.out k (by omega)
   have hb2:=HAS.out (k+1) hlk
   obtain ⟨S1,hS1⟩:∃S1,S1=amS C (m.take (k+1)):=⟨_,rfl⟩
   have HS1:Hid (S1=amS C (m.take (k+1))):=hS1
   rw [←hS1] at hs1 hb2
   have hkI:(k:Int) < (m.length:Int):=by omega
   clear hq1 hcm hS1
   generalize amS C (m.take k)=S0 at *
   generalize amt C (m.getD k [])=am at *
   have hw1:IntKind.wrap .i64 (S0+am)=S1:=by rw [←hs1,IntKind.wrap_i64]; omega
   clear hs1
   generalize (m.getD k []).length=yl at *
   go_wp2_with fail
   refine HSI.mono ?_
   rintro e w5 ⟨rfl,hb5⟩
   have HB5:Hid (Below w3.heap.size w3 w5):=HBK.out.trans (hb5.mono HBK.out.size)
   clear hb5 HSI
   go_wp2
   exact ⟨⟨k+1,by omega,by go_num,by rw [HS1.out],HB5.out⟩,by simp [intOf]; omega⟩
  ·have hke:k=m.length:=by omega
   subst hke
   rw [List.take_length]
   have HBF:Hid (Below w.heap.size w wr):=HB1.out.trans ((HB2.out.trans ((HB3.out.trans (HBK.out.mono HB3.out.size)).mono HB2.out.size)).mono HB1.out.size)
   obtain ⟨am,ham⟩:∃am,am=amS C m:=⟨_,rfl⟩
   have HAM:Hid (am=amS C m):=ham
   rw [←ham]
   clear ham HAS HSN
   go_wp2
   go_ret
   exact ⟨C,s,A,LV,m,by rw [←HAM.out]; rfl,HD.out,HS.out.1,HS.out.2,HBF.out⟩
end Go.Proofs.YtfhjjpiakffagaaGreatDoor
