import Derived.Test.YtdanomklbiidaaaGreatDoorMgBG
import Derived.Test.YtdanomklbiidaaaGreatDoorMgBF
import Derived.Test.YtdanomklbiidaaaGreatDoorMgBH
import Derived.Test.YtdanomklbiidaaaGreatDoorMgAN
namespace Go.Proofs.YtdanomklbiidaaaGreatDoor
open Go.RowKit Lin
theorem doc_small {d:Nat} {P C s:List (List Int)} {A:List Nat} (hD:DocF d P C s A) (hn:P.length≤10):C.length≤10:=by
 obtain ⟨h1,s0,h2,h3⟩:=hD.crn
 have:=nodup_lenL C P (sasc_nodup h1) fun x hx=>(List.mem_filter.1 ((h3 x).1 hx)).1
 omega
theorem lev_small {d:Nat} {P C s:List (List Int)} {A:List Nat} (hD:DocF d P C s A) (hn:C.length≤10) {t:Nat} {lev:List (List Int)} (hl:LevOk d C A t lev):lev.length≤1024∧∀r∈lev,r.length≤10:=by
 constructor
 ·have h1:=nodup_lenL lev (A.map memL) (sasc_nodup hl.1) fun r hr=>by
   obtain ⟨a,ha,_,rfl⟩:=(hl.2 r).1 hr
   exact List.mem_map.2 ⟨a,ha,rfl⟩
  rw [List.length_map] at h1
  have h2:=hD.all.len
  have h3:2 ^ C.length≤2 ^ 10:=Nat.pow_le_pow_right (by decide) hn
  have h4:(2:Nat) ^ 10=1024:=by decide
  omega
 ·intro r hr
  obtain ⟨a,ha,_,rfl⟩:=(hl.2 r).1 hr
  exact Nat.le_trans (memL_len (hD.all.lt a ha) (by omega)) hn
theorem lvs_same {d:Nat} {P C s C' s':List (List Int)} {A A':List Nat} {LV:Nat→List (List Int)} (h:Fnd d P C s A) (hD:DocF d P C' s' A') (hL:∀t,t < d+2→LevOk d C' A' t (LV t)) {t:Nat} (ht:t < d+2) {m:List (List Int)} (hm:Inor m ((lvA d C A t).map memL)):m=LV t:=by
 obtain ⟨rfl,rfl⟩:=h.toS.same hD
 exact h.lev hD (hL t ht) hm
theorem LvV.congr {w:World} {x:Value} {j:Nat} {LV LV2:Nat→List (List Int)} (h:LvV w x j LV) (he:∀t,t < j→LV t=LV2 t):LvV w x j LV2:=by
 obtain ⟨ao,cap,hx,h1⟩:=h.rows
 refine ⟨ao,cap,hx,fun X t hX ht=>?_⟩
 have:=h1 X t hX ht
 rw [he t ht] at this
 exact this
theorem lat_same {d:Nat} {P C s C' s':List (List Int)} {A A':List Nat} {LV:Nat→List (List Int)} {B:Nat} {w:World} {u:Value} (h:Fnd d P C s A) (hD:DocF d P C' s' A') (hL:∀t,t < d+2→LevOk d C' A' t (LV t)) (hl:Lvs B w u (d+2) (fun t m=>Inor m ((lvA d C A t).map memL))):LvV w u (d+2) LV:=by
 obtain ⟨LV2,h1,h2⟩:=hl.named
 exact h1.congr fun t ht=>lvs_same h hD hL ht (h2 t ht)
end Go.Proofs.YtdanomklbiidaaaGreatDoor

namespace Go.Proofs.YtdanomklbiidaaaGreatDoor
open Go.RowKit Lin
attribute [local go_sem ↓] Go.wp_at_zero Go.wp_at_succ
structure BodW (w:World) (d:Nat) (P C s:List (List Int)) (S:List Nat) (co:Option Addr) (cc:Nat) (so:Option Addr) (sc:Nat) (w':World):Prop where
 cns:∀X,Below w'.heap.size w' X→Mat X.heap.size 22 3 X (.slice co C.length cc) C
 sds:∀X,Below w'.heap.size w' X→Sl X.heap.size 70 X (.slice so S.length sc) (u64s S)
 tab:∀X,Below w'.heap.size w' X→TabB X
 se:S=s.map (sdN C)
 n10:C.length≤10
 lt:∀t∈S,t < 2 ^ C.length
 lt10:∀t∈S,t < 1024
 sl:S.length≤5000
 ok:FcC d C s
 doc:∀s0 c,(∀r,r∈s0↔r∈rowsD P d)→SAsc c→(∀y,y∈c↔y∈crn d s0 P)→C=c
 bel:Below w.heap.size w w'
theorem bodW_any (d:Nat) (P:List (List Int)) (v:Value) (w:World) (hv:Mat w.heap.size 22 3 w v P) (hg:Good d P) (hn:P.length≤10) (hT:TabB w) :
  Calls Tryz.prog 57 #[.agg #[.int .i64 d,v]] w fun e w'=>∃C s S co cc ro rl rc so sc,e=.returned (.tuple #[.agg #[.int .i64 d,.slice co C.length cc,.slice ro rl rc,.slice so S.length sc],.int .i64 0])∧BodW w d P C s S co cc so sc w':=by
 refine (bodyOf_any d P v w hv hg (by omega)).mono ?_
 rintro e w' ⟨C,s,co,cc,ro,rc,so,sc,rfl,h⟩
 have hn10:C.length≤10:=Nat.le_trans h.len hn
 have hlt:∀t∈s.map (sdN C),t < 2 ^ C.length:=fun t ht=>by
  obtain ⟨r,_,rfl⟩:=List.mem_map.1 ht
  exact sdTo_lt C r C.length
 have hlt10:∀t∈s.map (sdN C),t < 1024:=fun t ht=>Nat.lt_of_lt_of_le (hlt t ht) (Nat.le_trans (Nat.pow_le_pow_right (by decide) hn10) (by decide))
 have hsl:(s.map (sdN C)).length≤1024:=by
  have:=nodup_len (s.map (sdN C)) (List.range 1024) h.ok.nod fun x hx=>List.mem_range.2 (hlt10 x hx)
  simpa using this
 refine ⟨C,s,s.map (sdN C),co,cc,ro,s.length,rc,so,sc,by rw [List.length_map],fun X hX=>(h.cns.below hX (Nat.le_refl _)).more (Nat.zero_le _),fun X hX=>?_,fun X hX=>(hT.below h.bel).below hX,rfl,hn10,hlt,hlt10,by omega,h.ok,h.doc,h.bel⟩
 rw [List.length_map]
 have:=Sl.own (B:=0) (owns_below h.sds hX (Nat.le_refl _))
 exact this.more (Nat.zero_le _)
theorem levW_any {w:World} {d:Nat} {P C s:List (List Int)} {S:List Nat} {co:Option Addr} {cc:Nat} {so:Option Addr} {sc:Nat} {w':World} (h:BodW w d P C s S co cc so sc w') (rv:Value) (X:World) (hX:Below w'.heap.size w' X) :
  Calls Tryz.prog 58 #[.agg #[.int .i64 d,.slice co C.length cc,rv,.slice so S.length sc]] X fun e w2=>∃(A:List Nat) (g:Nat) (vs:List Value),e=.returned (.slice (some ⟨g,0,none⟩) (d+2) (d+2))∧Fnd d P C s A∧w2.heap[g]?=some (.cells vs.toArray 67 (0,0))∧vs.length=d+2∧(∀t,t < d+2→∃ao cp,vs.getD t undef=.slice ao (lvA d C A t).length cp∧Sl 0 70 w2 (.slice ao (lvA d C A t).length cp) (u64s (lvA d C A t)))∧Below X.heap.size X w2:=by
 refine (levels_any d C co cc rv so sc S X (h.cns X hX) h.ok.g.box h.ok.g.d1 h.ok.g.d4 h.n10 (h.tab X hX) (h.sds X hX) h.lt10 h.sl).mono ?_
 rintro e w2 ⟨rfl,A,hW,hP⟩
 obtain ⟨vs,r1,r2,r3,_⟩:=hW.i.ro
 refine ⟨A,X.heap.size+1,vs,rfl,⟨h.ok,h.doc,h.n10,hW.nd,hW.lt,fun a=>?_⟩,r2,r1,fun t ht=>?_,hW.i.bel⟩
 ·rw [←h.se]
  exact see_all hP
 ·obtain ⟨ao,cp,e⟩:=owns_form (r3 t ht)
  refine ⟨ao,cp,e,?_⟩
  rw [←e]
  exact Sl.own (r3 t ht)
end Go.Proofs.YtdanomklbiidaaaGreatDoor

namespace Go.Proofs.YtdanomklbiidaaaGreatDoor
open Go.RowKit Lin
attribute [local go_sem ↓] Go.wp_at_zero Go.wp_at_succ
set_option maxRecDepth 100000 in
set_option maxHeartbeats 1600000 in
theorem latticeP_any (d:Nat) (P:List (List Int)) (v:Value) (w:World) (hv:Mat w.heap.size 22 3 w v P) (hg:Good d P) (hn:P.length≤10) (hT:TabB w) :
  Calls Tryz.prog 43 #[.agg #[.int .i64 d,v]] w fun e w'=>∃u C s A,e=.returned (.tuple #[u,.int .i64 0])∧Fnd d P C s A∧Lvs w.heap.size w' u (d+2) (fun t m=>Inor m ((lvA d C A t).map memL))∧Below w.heap.size w w':=by
 obtain ⟨i2,hi2,hz20,hz21,hz22⟩:=info_parts Tryz.info23
 obtain ⟨po,pc,rfl,hlc,hcm⟩:=mat_open hv
 have h1:=hg.d1
 have h4:=hg.d4
 obtain ⟨W,hW⟩:∃W,W=w.alloc (.cells #[.int .i64 d,.slice po P.length pc] 34):=⟨_,rfl⟩
 have hbw:Below w.heap.size w W:=by rw [hW]; exact alloc_keep _ _
 have HW:Hid (Below w.heap.size w W):=hbw
 have hsW:W.heap.size=w.heap.size+1:=by rw [hW]; exact size_alloc _ _
 have c0:W.cell? ⟨w.heap.size,0,none⟩=some (.int .i64 d):=by rw [hW]; simp
 have c1:W.cell? ⟨w.heap.size,1,none⟩=some (.slice po P.length pc):=by rw [hW]; simp
 have HBO:=bodW_any d P (.slice po P.length pc) W ((hv.below hbw (Nat.le_refl _)).any (Nat.le_refl _)) hg hn (hT.below hbw)
 have HTB:Hid (∀X,Below w.heap.size w X→TabB X):=fun X hX=>hT.below hX
 clear hv hg hT hbw
 go_enter Tryz.func43,Tryz.ntmps43
 go_wp2_with fail
 rw [←hW]
 clear hW
 refine HBO.mono ?_
 rintro e w2 ⟨C,s,S,co,cc,ro,rl,rc,so,sc,rfl,hB⟩
 have HB:Hid (BodW W d P C s S co cc so sc w2):=hB
 clear HBO hB c0 c1
 obtain ⟨W3,hW3⟩:∃W3,W3=w2.alloc (.cells #[.int .i64 d,.slice co C.length cc,.slice ro rl rc,.slice so S.length sc] 82):=⟨_,rfl⟩
 have HB3:Hid (Below w2.heap.size w2 W3):=by rw [hW3]; exact alloc_keep _ _
 have HLV:=levW_any HB.out (.slice ro rl rc) W3 HB3.out
 rw [hW3] at HLV HB3
 go_wp2_with fail
 refine HLV.mono ?_
 rintro e w4 ⟨A,g,vs,rfl,hF,hg4,hvl,hvs,hb4⟩
 have HF:Hid (Fnd d P C s A):=hF
 have HB4:Hid (Below w.heap.size w w4):=HW.out.trans ((HB.out.bel.trans ((HB3.out.trans (hb4.mono HB3.out.size)).mono HB.out.bel.size)).mono (by omega))
 have HFC:Hid (∀X t,Below w4.heap.size w4 X→t < d+2→∃ao cp ll,X.cell? ⟨g,t,none⟩=some (.slice ao ll cp)∧Calls Tryz.prog 59 #[.slice ao ll cp] X fun e w'=>∃u m,e=.returned u∧Fr X.heap.size 22 3 w' u m∧Inor m ((lvA d C A t).map memL)∧Below X.heap.size X w'):=fun X t hX ht=>by
  obtain ⟨ao,cp,e2,hs2⟩:=hvs t ht
  refine ⟨ao,cp,(lvA d C A t).length,?_,told_any 0 (lvA d C A t) (.slice ao (lvA d C A t).length cp) X (hs2.below hX (Nat.le_refl _)) (fun x hx=>hF.lt x (List.mem_filter.1 hx).1) ?_ (HTB.out X (HB4.out.trans (hX.mono HB4.out.size)))⟩
  ·rw [←e2]
   have h0:=(hX.block g (lt_of_block hg4)).trans hg4
   simp [World.cell?,h0,show t < vs.length by omega]
  ·have h5:=lvA_len d C A t
   have h6:=nodup_len A (List.range 1024) hF.nd fun x hx=>List.mem_range.2 (hF.lt x hx)
   rw [List.length_range] at h6
   omega
 clear HLV hF hg4 hvl hvs hb4 hW3 HB3 HTB
 go_wp2
 go_loopw [6,8,20] (fun x _ i wr=>∃k:Nat,k≤d+2∧i=.int .i64 (k:Int)∧Lvs w4.heap.size wr x k (fun t m=>Inor m ((lvA d C A t).map memL))∧Below w4.heap.size w4 wr) (fun _ _ i _=>d+2-(intOf i).toNat)
 case atStart=>exact ⟨0,Nat.zero_le _,rfl,Lvs.nil _ _ _,Below.refl _ _⟩
 case round=>
  obtain ⟨k,hk,rfl,hL,hb⟩:=hrel
  have HBR:Hid (Below w4.heap.size w4 wr):=hb
  obtain ⟨us,u1,u2,u3⟩:=hL.rows
  obtain ⟨xo,xc,hx⟩:=owns_form u2
  subst hx
  have HL:Hid (Lvs w4.heap.size wr (.slice xo k xc) k (fun t m=>Inor m ((lvA d C A t).map memL))):=hL
  clear hb u1 u2 u3 hL
  by_cases hlt:k < d+2
  ·obtain ⟨ao,cp,ll,hc,hto⟩:=HFC.out wr k HBR.out hlt
   have hkI:(k:Int) < (d:Int)+2:=by omega
   clear HFC
   go_wp2_with fail
   refine hto.mono ?_
   rintro e w5 ⟨u,m,rfl,hfr,hin,hb5⟩
   obtain ⟨uo,uc,hu,_,_⟩:=fr_open hfr
   subst hu
   obtain ⟨vs2,v1,v2,v3⟩:=(HL.out.below hb5 (Nat.le_refl _)).rows
   have HO:Hid (w5.ownsRow w4.heap.size 23 1 (.slice xo k xc) k vs2):=v2
   have HB5:Hid (Below w4.heap.size w4 w5):=HBR.out.trans (hb5.mono HBR.out.size)
   have HPU:Hid (∀v' w6,w6.ownsRow w4.heap.size 23 1 v' (k+1) (vs2 ++ [.slice uo m.length uc])→(w5.alloc (.cells #[.slice uo m.length uc] 23)).grownBy w6 (Value.slice xo k xc).ownBlock→Lvs w4.heap.size w6 v' (k+1) (fun t m=>Inor m ((lvA d C A t).map memL))):=fun v' w6 ho hg=>
    Lvs.push v1 (v2.alloc _) (fun t ht=>by
     obtain ⟨lev,g1,g2⟩:=v3 t ht
     exact ⟨lev,g1.alloc _,g2⟩) ((hfr.mono HBR.out.size).alloc _) hin ho hg
   have hsz:w4.heap.size≤w5.heap.size:=HB5.out.size
   clear v1 v2 v3 hfr hin hb5 hto hc HL
   generalize m.length=ml at *
   go_wp2_with (first | (at_builtin; refine wpList_append_own _ rfl _ _ 63 rfl w4.heap.size 23 i2 (.slice none 0 0) 1 24 Tryz.underlying63 hi2 hz20 hz21 hz22 rfl (by decide) _ _ _ rfl (HO.out.alloc _) ⟨w5.heap.size,0,none⟩ 1 1 [.slice uo ml uc] rfl rfl (one_new _ _ _) (one_slice _ _ _) ?d3 ?d4 ?d5 ?_))
   case d3=>unfold maxLen; omega
   case d4=>omega
   case d5=>simp; omega
   intro v' w6 ho hg _
   have HNX:Hid (Lvs w4.heap.size w6 v' (k+1) (fun t m=>Inor m ((lvA d C A t).map memL))):=HPU.out v' w6 ho hg
   have HB6:Hid (Below w4.heap.size w4 w6):=(HB5.out.alloc hsz _).grown hg (by simp; omega) (fun y hy=>(HO.out.lt y hy).1)
   clear ho hg
   go_wp2
   go_roundw
   case rel=>exact ⟨k+1,by omega,by go_num,HNX.out,HB6.out⟩
   case measure=>simp [intOf]; omega
  ·have hke:k=d+2:=by omega
   subst hke
   have HRR:Hid (Lvs w.heap.size wr (.slice xo (d+2) xc) (d+2) (fun t m=>Inor m ((lvA d C A t).map memL))∧Below w.heap.size w wr):=⟨HL.out.mono HB4.out.size,HB4.out.trans (HBR.out.mono HB4.out.size)⟩
   clear HFC HL
   go_wp2
   go_ret2
   exact ⟨_,C,s,A,rfl,HF.out,HRR.out.1,HRR.out.2⟩
end Go.Proofs.YtdanomklbiidaaaGreatDoor

namespace Go.Proofs.YtdanomklbiidaaaGreatDoor
open Go.RowKit Lin
attribute [local go_sem ↓] Go.wp_at_zero Go.wp_at_succ
set_option maxRecDepth 100000 in
set_option maxHeartbeats 1600000 in
theorem checkOrder_ok (B:Nat) (order:List Int) (ov:Value) (w:World) (hv:Sl B 3 w ov (ints order)) (n:Nat) (hn:n≤10) (hl:order.length=n) (hb:∀x∈order,0≤x∧x < (n:Int)) (hnd:order.Nodup) :
  Calls Tryz.prog 44 #[ov,.int .i64 (n:Int)] w fun e w'=>e=.returned (.int .i64 0)∧w'=w:=by
 obtain ⟨oo,oc,rfl,hl1,hl2⟩:=sl_open hv
 have HV:Hid (Sl B 3 w (.slice oo order.length oc) (ints order)):=hv
 have HB:Hid (∀x∈order,0≤x∧x < (n:Int)):=hb
 have HND:Hid (order.Nodup):=hnd
 have HL:Hid (order.length=n):=hl
 rw [hl] at HV hl1 ⊢
 clear hv hb hnd hl
 have tn:((n:Int) != (n:Int))=false:=by simp
 go_enter Tryz.func44,Tryz.ntmps44
 go_wp2
 go_loopw [5,14] (fun sv kv wr=>∃k:Nat,k≤n∧kv=.int .i64 (k:Int)∧sv=.int .u64 ((setN (order.take k):Nat):Int)∧wr=w) (fun _ kv _=>n-(intOf kv).toNat)
 case atStart=>exact ⟨0,Nat.zero_le _,rfl,by simp [setN],rfl⟩
 case round=>
  obtain ⟨k,hk,rfl,rfl,rfl⟩:=hrel
  by_cases hlt:k < n
  ·have hv0:=HV.out
   have hl:=HL.out
   rw [←hl] at hv0
   obtain ⟨b,o,cp,hs,_,hcc⟩:=sl_cell hv0 (k:=k) (by omega)
   simp only [Value.slice.injEq,true_and] at hs
   obtain ⟨rfl,rfl⟩:=hs
   have hm:order.getD k 0∈order:=getD_mem (by omega)
   have hx:=HB.out _ hm
   obtain ⟨j,hj⟩:∃j:Nat,order.getD k 0=(j:Int):=⟨(order.getD k 0).toNat,by omega⟩
   have h64:B64 (order.take k):=fun x hx=>by have:=HB.out x (List.mem_of_mem_take hx); omega
   have hno:(setN (order.take k)).testBit j=false:=by
    have h1:=setN_bit (order.take k) j h64
    cases hc:(setN (order.take k)).testBit j with
    | false=>rfl
    | true=>
     exfalso
     have h2:=h1.1 hc
     rw [←hj] at h2
     obtain ⟨i,hi,he⟩:=List.getElem_of_mem h2
     rw [List.getElem_take] at he
     have hik:i < k:=by rw [List.length_take] at hi; omega
     have e2:order.getD k 0=order[k]'(by omega):=by simp [show k < order.length by omega]
     rw [e2] at he
     exact List.pairwise_iff_getElem.1 (List.nodup_iff_pairwise_ne.1 HND.out) i k (by omega) (by omega) hik he
   have hsu:setN (order.take (k+1))=setN (order.take k) ||| 2 ^ j:=by
    rw [List.take_succ_eq_append_getElem (by omega),setN_app]
    congr 2
    have e2:order.getD k 0=order[k]'(by omega):=by simp [show k < order.length by omega]
    rw [←e2,hj]
    simp
   have hS:setN (order.take k) < 1024:=setN_lt10 _ fun x hx=>by have:=HB.out x (List.mem_of_mem_take hx); omega
   rw [hj] at hcc hx
   have hj10:j < 10:=by omega
   have hpj:2 ^ j < 1024:=Nat.lt_of_lt_of_le (Nat.pow_lt_pow_right (by decide) hj10) (by decide)
   have hor:bits .or .u64 ((setN (order.take k):Nat):Int) ((2 ^ j:Nat):Int)=((setN (order.take (k+1)):Nat):Int):=by
    rw [hsu]
    exact bits_or_u64_nat _ _ (by omega) (by omega)
   have H1:Hid (Calls Tryz.prog 60 #[.int .i64 (j:Int)] wr fun e w'=>e=.returned (.int .u64 ((2 ^ j:Nat):Int))∧w'=wr):=by
    have h:=one_any (j:Int) wr (by omega) (by omega)
    rw [Int.toNat_natCast] at h
    exact h
   have H2:Hid (Calls Tryz.prog 61 #[.int .u64 ((2 ^ j:Nat):Int),.int .u64 ((setN (order.take k):Nat):Int)] wr fun e w'=>e=.returned (.bool false)∧w'=wr):=by
    have h:=in_any (2 ^ j) (setN (order.take k)) wr (by omega) (by omega)
    rw [out_one,hno] at h
    exact h
   obtain ⟨S1,hS1⟩:∃S1,S1=setN (order.take (k+1)):=⟨_,rfl⟩
   have HS1:Hid (S1=setN (order.take (k+1))):=hS1
   rw [←hS1] at hor
   have hkI:(k:Int) < (n:Int):=by omega
   have hjn:(j:Int) < (n:Int):=by omega
   have tj0:decide ((j:Int) < 0)=false:=by simp
   have tjn:decide ((n:Int)≤(j:Int))=false:=decide_eq_false (by omega)
   clear hno hsu hS hpj hS1 h64 hm hj hv0 hl
   generalize setN (order.take k)=S at *
   generalize 2 ^ j=pj at *
   go_wp2_with fail
   refine H1.out.mono ?_
   rintro e w2 ⟨rfl,rfl⟩
   go_wp2_with fail
   refine H2.out.mono ?_
   rintro e w3 ⟨rfl,rfl⟩
   go_wp2_with fail
   refine H1.out.mono ?_
   rintro e w4 ⟨rfl,rfl⟩
   go_wp2
   go_roundw
   case rel=>exact ⟨k+1,by omega,by go_num,by rw [HS1.out],by first | rfl | trivial⟩
   case measure=>simp [intOf]; omega
  ·go_wp2
   go_ret
   exact ⟨rfl,rfl⟩
set_option maxRecDepth 100000 in
set_option maxHeartbeats 3200000 in
theorem cells_any {LV:Nat→List (List Int)} {order:List Int} (d:Nat) (P C s:List (List Int)) (A:List Nat) (v:Value) (oo:Option Addr) (oc:Nat) (w:World) (hv:Mat w.heap.size 22 3 w v P) (hg:Good d P) (hn:P.length≤10) (hT:TabB w) (hD:DocF d P C s A) (hLv:∀t,t < d+2→LevOk d C A t (LV t)) (hP:LvP LV order C.length d) (hl1:(LV 1).length=C.length) (face:List Int) (hone:LV (d+1)=[face])
  (hO:Sl w.heap.size 3 w (.slice oo order.length oc) (ints order)) (hol:order.length=C.length) (hnd:order.Nodup) :
  Calls Tryz.prog 24 #[.agg #[.int .i64 d,v],.slice oo order.length oc] w fun e w'=>∃(m:List (List Int)) (xo:Option Addr) (xc:Nat),e=.returned (.tuple #[.slice xo m.length xc,.int .i64 0])∧SAsc m∧(∀r,r∈m↔r∈(pulS LV order (d+1) face).map memL)∧Mat 0 22 3 w' (.slice xo m.length xc) m∧Below w.heap.size w w':=by
 obtain ⟨i0,hi,hz0,hz1,hz2⟩:=info_parts Tryz.info22
 obtain ⟨po,pc,rfl,hlc,hcm⟩:=mat_open hv
 have h1:=hg.d1
 have h4:=hg.d4
 have hC10:=doc_small hD hn
 obtain ⟨W,hW⟩:∃W,W=w.alloc (.cells #[.int .i64 d,.slice po P.length pc] 34):=⟨_,rfl⟩
 have hbw:Below w.heap.size w W:=by rw [hW]; exact alloc_keep _ _
 have HW:Hid (Below w.heap.size w W):=hbw
 have hsW:W.heap.size=w.heap.size+1:=by rw [hW]; exact size_alloc _ _
 have c0:W.cell? ⟨w.heap.size,0,none⟩=some (.int .i64 d):=by rw [hW]; simp
 have c1:W.cell? ⟨w.heap.size,1,none⟩=some (.slice po P.length pc):=by rw [hW]; simp
 have HTX:Hid (∀X,Below W.heap.size W X→TabB X):=fun X hX=>(hT.below hbw).below hX
 have HOX:Hid (∀X,Below W.heap.size W X→Sl X.heap.size 3 X (.slice oo order.length oc) (ints order)):=fun X hX=>(hO.below (hbw.trans (hX.mono (by omega))) (Nat.le_refl _)).any (Nat.le_refl _)
 have K1:Hid (Calls Tryz.prog 43 #[.agg #[.int .i64 d,.slice po P.length pc]] W fun e w'=>∃uo uc,e=.returned (.tuple #[.slice uo (d+2) uc,.int .i64 0])∧(LvV w' (.slice uo (d+2) uc) (d+2) LV∧d+2≤uc∧Below W.heap.size W w')):=by
  refine (latticeP_any d P _ W ((hv.below hbw (Nat.le_refl _)).any (Nat.le_refl _)) hg hn (hT.below hbw)).mono ?_
  rintro e w' ⟨u,C2,s2,A2,rfl,hF,hl,hb⟩
  have hV:=lat_same hF hD hLv hl
  obtain ⟨vs,q1,q2,q3⟩:=hl.rows
  obtain ⟨uo,uc,rfl,_⟩:=hV.rows
  have hcap:d+2≤uc:=by
   rcases q2.2 with ⟨_,h0⟩ | ⟨g,cap,cur,hx,_,_,hnc,_⟩
   ·omega
   ·simp only [Value.slice.injEq] at hx
    omega
  exact ⟨uo,uc,rfl,hV,hcap,hb⟩
 have K2:Hid (∀X,Below W.heap.size W X→Calls Tryz.prog 44 #[.slice oo order.length oc,.int .i64 ((LV 1).length:Int)] X fun e w'=>e=.returned (.int .i64 0)∧w'=X):=fun X hX=>by
  rw [hl1]
  exact checkOrder_ok X.heap.size order _ X (HOX.out X hX) C.length hC10 hol hP.o.ord hnd
 have K3:Hid (∀X uo uc,Below W.heap.size W X→LvV X (.slice uo (d+2) uc) (d+2) LV→d+2≤uc→Calls Tryz.prog 45 #[.slice uo (d+2) uc,.slice oo order.length oc] X fun e w'=>∃xo xc,e=.returned (.slice xo (pulS LV order (d+1) face).length xc)∧(Sl 0 70 w' (.slice xo (pulS LV order (d+1) face).length xc) (u64s (pulS LV order (d+1) face))∧Below W.heap.size W w')):=fun X uo uc hX hL hlu=>by
  refine (pulledP_any hP hC10 h1 h4 face hone uo uc oo oc X hL hlu (HOX.out X hX)).mono ?_
  rintro e w' ⟨xo,xc,rfl,q1,q2⟩
  exact ⟨xo,xc,rfl,q1,hX.trans (q2.mono hX.size)⟩
 have HS10:Hid (∀x∈pulS LV order (d+1) face,x < 1024):=fun c hc=>by
  rw [pul_same] at hc
  obtain ⟨l,hl,rfl⟩:=List.mem_map.1 hc
  exact setN_lt10 l fun x hx=>by have:=(pulD_mem hP.o d face (by rw [hone]; simp) l hl).2 x hx; omega
 have HCL:Hid ((pulS LV order (d+1) face).length≤1099511627776):=by
  show _≤_
  rw [pul_same,List.length_map]
  exact Nat.le_trans (pulD_len LV order hP.o.len d face) (Nat.le_trans (Nat.pow_le_pow_right (by decide) h4) (by decide))
 have HLV1:Hid (∀X uo uc,LvV X (.slice uo (d+2) uc) (d+2) LV→∃b o ro rc,uo=some ⟨b,o,none⟩∧X.cell? ⟨b,o+1,none⟩=some (.slice ro (LV 1).length rc)):=fun X uo uc hL=>by
  obtain ⟨ao2,cap2,e,hr⟩:=hL.rows
  simp only [Value.slice.injEq,true_and] at e
  obtain ⟨rfl,rfl⟩:=e
  obtain ⟨b,o,ro,rc,q1,q2,_⟩:=hr X 1 (Below.refl _ _) (by omega)
  exact ⟨b,o,ro,rc,q1,q2⟩
 clear hv hg hT hbw hD hLv hP hO hl1 hol hone hnd
 go_enter Tryz.func24,Tryz.ntmps24
 go_wp2_with fail
 rw [←hW]
 clear hW
 refine K1.out.mono ?_
 rintro e w1 ⟨uo,uc,rfl,hL1,huc,hb1⟩
 have HL1:Hid (LvV w1 (.slice uo (d+2) uc) (d+2) LV):=hL1
 have HB1:Hid (Below W.heap.size W w1):=hb1
 obtain ⟨lb,lf,ro,rc,huo,hlc1⟩:=HLV1.out w1 uo uc hL1
 subst huo
 clear hL1 hb1 K1 c0 c1 HLV1
 have hd12:(1:Int) < ((d+2:Nat):Int):=by omega
 have hd12':(1:Int) < (d:Int)+2:=by omega
 go_wp2_with fail
 refine (K2.out w1 HB1.out).mono ?_
 rintro e w2 ⟨rfl,rfl⟩
 go_wp2_with fail
 refine (K3.out w2 _ _ HB1.out HL1.out huc).mono ?_
 rintro e w3 ⟨xo,xc,rfl,hs3,hb3⟩
 have HB3:Hid (Below W.heap.size W w3):=hb3
 have HCX:Hid (∀X k,Below w3.heap.size w3 X→k < (pulS LV order (d+1) face).length→∃cb cf,xo=some ⟨cb,cf,none⟩∧X.cell? ⟨cb,cf+k,none⟩=some (.int .u64 (((pulS LV order (d+1) face).getD k 0:Nat):Int))):=fun X k hX hk=>by
  obtain ⟨a1,a2,a3,_,_,a6,_⟩:=hs3.below hX (Nat.le_refl _)
  simp only [Value.slice.injEq] at a3
  obtain ⟨b,o,b1,b2,_⟩:=a6 k (by rw [u64s_len]; exact hk)
  refine ⟨b,o,a3.1.trans b1,?_⟩
  rw [b2]
  generalize pulS LV order (d+1) face=qq at *
  simp [u64s,hk]
 have HLI:Hid (∀X k,Below w3.heap.size w3 X→k < (pulS LV order (d+1) face).length→Calls Tryz.prog 46 #[.int .u64 (((pulS LV order (d+1) face).getD k 0:Nat):Int)] X fun e w'=>∃zo zc,e=.returned (.slice zo (memL ((pulS LV order (d+1) face).getD k 0)).length zc)∧Sl 0 3 w' (.slice zo (memL ((pulS LV order (d+1) face).getD k 0)).length zc) (ints (memL ((pulS LV order (d+1) face).getD k 0)))∧Below X.heap.size X w'):=fun X k hX hk=>by
  refine (list10_any ((pulS LV order (d+1) face).getD k 0) (HS10.out _ (by simp [hk])) X (HTX.out X (hb3.trans (hX.mono hb3.size)))).mono ?_
  rintro e w' ⟨u,rfl,h1,h2⟩
  obtain ⟨uo,uc,rfl⟩:=owns_form h1
  exact ⟨uo,uc,rfl,Sl.own h1,h2⟩
 clear hs3 hb3 K2 K3 HOX HS10 hlc1 HL1
 obtain ⟨cs,hcs⟩:∃cs,cs=pulS LV order (d+1) face:=⟨_,rfl⟩
 have HCS:Hid (cs=pulS LV order (d+1) face):=hcs
 rw [←hcs] at HCX HLI HCL ⊢
 clear hcs
 have hcl2:cs.length≤1099511627776:=HCL.out
 go_wp2
 go_loopw [9,33] (fun x iv wr=>∃(i:Nat) (ao:Option Addr) (ac:Nat),i≤cs.length∧iv=.int .i64 (i:Int)∧x=.slice ao i ac∧Fr w3.heap.size 22 3 wr (.slice ao i ac) ((cs.map memL).take i)∧Below w3.heap.size w3 wr) (fun _ iv _=>cs.length-(intOf iv).toNat)
 case atStart=>exact ⟨0,none,0,Nat.zero_le _,rfl,rfl,Fr.nil _ _ _ _,Below.refl _ _⟩
 case round=>
  obtain ⟨i,ao,ac,hil,rfl,rfl,hfr,hbr⟩:=hrel
  have HFR:Hid (Fr w3.heap.size 22 3 wr (.slice ao i ac) ((cs.map memL).take i)):=hfr
  have HBR:Hid (Below w3.heap.size w3 wr):=hbr
  clear hfr hbr
  have HTL:Hid (((cs.map memL).take i).length=i):=by
   show _=_
   rw [List.length_take,List.length_map]
   omega
  by_cases hlt:i < cs.length
  ·obtain ⟨cb,cf,hxo,hcc⟩:=HCX.out wr i HBR.out hlt
   have HLX:=HLI.out wr i HBR.out hlt
   have HTS:Hid ((cs.map memL).take (i+1)=(cs.map memL).take i ++ [memL (cs.getD i 0)]):=by
    show _=_
    rw [List.take_succ_eq_append_getElem (by simpa using hlt)]
    simp [hlt]
   have hiI:(i:Int) < (cs.length:Int):=by omega
   subst hxo
   generalize cs.getD i 0=ci at *
   go_wp2_with fail
   refine HLX.mono ?_
   rintro e w6 ⟨zo,zc,rfl,hz6,hb6⟩
   have HB6:Hid (Below wr.heap.size wr w6):=hb6
   have HZ6:Hid (Sl 0 3 w6 (.slice zo (memL ci).length zc) (ints (memL ci))):=hz6
   obtain ⟨vs,g1,g2,g3⟩:=HFR.out.below HB6.out (Nat.le_refl _)
   rw [HTL.out] at g1 g2 g3
   have G1:Hid (vs.length=i):=g1
   have G2:Hid (w6.ownsRow w3.heap.size 22 1 (.slice ao i ac) i vs):=g2
   have G3:Hid (∀j,j < i→Sl 0 3 w6 (vs.getD j (.slice none 0 0)) (ints (((cs.map memL).take i).getD j []))):=g3
   have hsz6:w3.heap.size≤w6.heap.size:=Nat.le_trans HBR.out.size HB6.out.size
   clear g1 g2 g3 hz6 hb6 HLX hcc
   generalize hzl:(memL ci).length=zl at *
   go_wp2_with (first | (at_builtin; refine wpList_append_own _ rfl _ _ 23 rfl w3.heap.size 22 i0 (.slice none 0 0) 1 24 Tryz.underlying23 hi hz0 hz1 hz2 rfl (by decide) _ _ _ rfl (G2.out.alloc _) ⟨w6.heap.size,0,none⟩ 1 1 [.slice zo zl zc] rfl rfl (one_new _ _ _) (one_slice _ _ _) ?d3 ?d4 ?d5 ?_))
   case d3=>unfold maxLen; omega
   case d4=>omega
   case d5=>first | exact hsz6 | omega | (simp; omega)
   intro v' w7 ho7 hg7 _
   obtain ⟨vo,vc,hv7⟩:=owns_form ho7
   subst hv7
   have R1:Hid (Fr w3.heap.size 22 3 w7 (.slice vo (i+1) vc) ((cs.map memL).take (i+1))):=by
    have hp:=Fr.push (e2:=22) (e1:=3) (m:=(cs.map memL).take i) (u:=.slice zo zl zc) (zs:=memL ci) (by decide) (by rw [HTL.out]; exact G1.out) (by rw [HTL.out]; exact G2.out.alloc _)
     (fun j hj=>(G3.out j (by rw [HTL.out] at hj; exact hj)).alloc _) (HZ6.out.alloc _) (by rw [HTL.out]; exact ho7) hg7
    rw [←HTS.out] at hp
    exact hp
   have R2:Hid (Below w3.heap.size w3 w7):=((HBR.out.trans (HB6.out.mono HBR.out.size)).alloc hsz6 _).grown hg7 (by simp; omega) (fun x hx=>(G2.out.lt x hx).1)
   clear ho7 hg7
   go_wp2
   go_roundw
   case rel=>exact ⟨i+1,vo,vc,by omega,by go_num,rfl,R1.out,R2.out⟩
   case measure=>simp [intOf]; omega
  ·have hie:i=cs.length:=by omega
   subst hie
   have hfr:=HFR.out
   rw [show cs.length=(cs.map memL).length by simp,List.take_length] at hfr
   rw [List.length_map] at hfr
   have HIO:Hid (Calls Tryz.prog 17 #[.slice ao cs.length ac] wr fun e w'=>∃u m',e=.returned u∧Fr w3.heap.size 22 3 w' u m'∧Inor m' (cs.map memL)∧Below w3.heap.size wr w'):=inOrder_any w3.heap.size (cs.map memL) _ wr hfr (by rw [List.length_map]; omega)
   have HBW:Hid (Below w.heap.size w wr):=HW.out.trans ((HB3.out.trans (HBR.out.mono HB3.out.size)).mono (by omega))
   have hsz3:w.heap.size≤w3.heap.size:=by have:=HB3.out.size; omega
   clear hfr HFR
   go_wp2_with fail
   refine HIO.out.mono ?_
   rintro e w8 ⟨u,m',rfl,hf8,hin,hb8⟩
   have hM8:=fr_mat0F hf8
   obtain ⟨yo,yc,rfl,_,_⟩:=mat_open hM8
   have HFI:Hid (SAsc m'∧(∀r,r∈m'↔r∈cs.map memL)∧Mat 0 22 3 w8 (.slice yo m'.length yc) m'∧Below w.heap.size w w8):=⟨hin.asc,hin.mem,hM8,HBW.out.trans (hb8.mono hsz3)⟩
   clear hf8 hin hb8 hM8 HIO
   generalize hml:m'.length=ml at *
   have HML:Hid (m'.length=ml):=hml
   clear hml
   go_wp2
   go_ret2
   exact ⟨m',yo,yc,by rw [HML.out]; rfl,HFI.out.1,by rw [←HCS.out]; exact HFI.out.2.1,by rw [HML.out]; exact HFI.out.2.2.1,HFI.out.2.2.2⟩
end Go.Proofs.YtdanomklbiidaaaGreatDoor
