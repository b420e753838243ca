import Derived.Test.YtkfdpcgmpbopnaaGreatDoorGB
import Derived.Test.YtkfdpcgmpbopnaaGreatDoorLtZ
import Derived.Test.YtkfdpcgmpbopnaaGreatDoorGC
namespace Go.Proofs.YtkfdpcgmpbopnaaGreatDoor
open Go.RowKit Lin
structure Fnd (d:Nat) (P C s:List (List Int)) (A:List Nat):Prop where
 ok:FcC d C s
 doc:∀s0 c,(∀r,r∈s0↔r∈rowsD P d)→SAsc c→(∀y,y∈c↔y∈crn d s0 P)→C=c
 n10:C.length≤10
 nd:A.Nodup
 lt:∀a∈A,a < 1024
 itr:∀a,a∈A↔Itr C.length (s.map (sdN C)) a
structure FndS (d:Nat) (P C s:List (List Int)):Prop where
 ok:FcC d C s
 doc:∀s0 c,(∀r,r∈s0↔r∈rowsD P d)→SAsc c→(∀y,y∈c↔y∈crn d s0 P)→C=c
 n10:C.length≤10
structure DocF (d:Nat) (P C s:List (List Int)) (A:List Nat):Prop where
 crn:SAsc C∧∃s0,(∀r,r∈s0↔r∈rowsD P d)∧∀y,y∈C↔y∈crn d s0 P
 rows:SAsc s∧∀r,r∈s↔r∈rowsD C d
 all:Clo C.length (s.map (sdN C)) A A.length
theorem Lat.docF {B d:Nat} {P:List (List Int)} {w:World} {x:Value} {C s:List (List Int)} {A:List Nat} (h:Lat B d P w x C s A):DocF d P C s A:=⟨h.crn,h.rows,h.all⟩
theorem memL_inj10 {a b:Nat} (ha:a < 1024) (hb:b < 1024) (h:memL a=memL b):a=b:=by
 have e1:=setN_mem10 a ha
 have e2:=setN_mem10 b hb
 rw [mem10_L ha] at e1
 rw [mem10_L hb] at e2
 rw [←e1,←e2,h]
theorem FndS.same {d:Nat} {P C s C' s':List (List Int)} {A':List Nat} (h:FndS d P C s) (hD:DocF d P C' s' A'):C'=C∧s'=s:=by
 obtain ⟨h1,s0,h2,h3⟩:=hD.crn
 have hC:=h.doc s0 C' h2 h1 h3
 subst hC
 refine ⟨rfl,sasc_ext s' s hD.rows.1 h.ok.srt fun r=>?_⟩
 rw [hD.rows.2 r,mem_rowsD,h.ok.rows r]
theorem Fnd.toS {d:Nat} {P C s:List (List Int)} {A:List Nat} (h:Fnd d P C s A):FndS d P C s:=⟨h.ok,h.doc,h.n10⟩
theorem DocF.mem {d:Nat} {P C s:List (List Int)} {A:List Nat} (h:DocF d P C s A) (a:Nat):a∈A↔Itr C.length (s.map (sdN C)) a:=clo_iff h.all
theorem DocF.lt10 {d:Nat} {P C s:List (List Int)} {A:List Nat} (h:DocF d P C s A) (hn:C.length≤10) {a:Nat} (ha:a∈A):a < 1024:=
 Nat.lt_of_lt_of_le (h.all.lt a ha) (Nat.le_trans (Nat.pow_le_pow_right (by decide) hn) (by decide))
theorem nodup_same {l m:List (List Int)} (hl:l.Nodup) (hm:m.Nodup) (h:∀r,r∈l↔r∈m):l.Perm m:=by
 rw [List.perm_iff_count]
 intro a
 rw [hl.count,hm.count]
 by_cases e:a∈l
 ·simp [e,(h a).1 e]
 ·have e2:¬a∈m:=fun k=>e ((h a).2 k)
  simp [e,e2]
theorem Fnd.levm {d:Nat} {P C s:List (List Int)} {A A':List Nat} (h:Fnd d P C s A) (hD:DocF d P C s A') {t:Nat} {lev:List (List Int)} (hl:LevOk d C A' t lev) (r:List Int):r∈lev↔r∈(lvA d C A t).map memL:=by
 rw [hl.2 r,List.mem_map]
 unfold lvA
 constructor
 ·rintro ⟨a,ha,h1,rfl⟩
  refine ⟨a,List.mem_filter.2 ⟨(h.itr a).2 ((hD.mem a).1 ha),?_⟩,rfl⟩
  simp only [decide_eq_true_eq]
  omega
 ·rintro ⟨a,ha,rfl⟩
  obtain ⟨h1,h2⟩:=List.mem_filter.1 ha
  simp only [decide_eq_true_eq] at h2
  exact ⟨a,(hD.mem a).2 ((h.itr a).1 h1),by omega,rfl⟩
theorem Fnd.lev {d:Nat} {P C s:List (List Int)} {A A':List Nat} (h:Fnd d P C s A) (hD:DocF d P C s A') {t:Nat} {lev m:List (List Int)} (hl:LevOk d C A' t lev) (hm:Inor m ((lvA d C A t).map memL)):m=lev:=by
 refine sasc_ext m lev hm.asc hl.1 fun r=>?_
 rw [hm.mem r]
 exact (h.levm hD hl r).symm
theorem Fnd.lvn {d:Nat} {P C s:List (List Int)} {A:List Nat} (h:Fnd d P C s A) (t:Nat):((lvA d C A t).map memL).Nodup:=by
 have h1:(lvA d C A t).Nodup:=List.Nodup.sublist List.filter_sublist h.nd
 rw [List.nodup_iff_pairwise_ne,List.pairwise_map]
 exact (List.Pairwise.and_mem.1 (List.nodup_iff_pairwise_ne.1 h1)).imp fun {a b} ⟨ha,hb,hne⟩ e=>hne (memL_inj10 (h.lt a (List.mem_filter.1 ha).1) (h.lt b (List.mem_filter.1 hb).1) e)
theorem Fnd.levn {d:Nat} {P C s:List (List Int)} {A A':List Nat} (h:Fnd d P C s A) (hD:DocF d P C s A') {t:Nat} {lev:List (List Int)} (hl:LevOk d C A' t lev):lev.length=(lvA d C A t).length:=by
 have:=(nodup_same (sasc_nodup hl.1) (h.lvn t) (h.levm hD hl)).length_eq
 rw [List.length_map] at this
 exact this
theorem doc_sides {d:Nat} {P C s:List (List Int)} {A':List Nat} (h:FndS d P C s) (hD:DocF d P C s A') {lev:List (List Int)} (hl:LevOk d C A' d lev):lev.Perm ((s.map (sdN C)).map memL):=by
 have hlt:∀r,sdN C r < 1024:=fun r=>Nat.lt_of_lt_of_le (sdTo_lt C r C.length) (Nat.le_trans (Nat.pow_le_pow_right (by decide) h.n10) (by decide))
 have hnd:((s.map (sdN C)).map memL).Nodup:=by
  rw [List.map_map,List.nodup_iff_pairwise_ne,List.pairwise_map]
  exact (List.Pairwise.and_mem.1 (List.nodup_iff_pairwise_ne.1 (sasc_nodup h.ok.srt))).imp fun {a b} ⟨ha,hb,hne⟩ e=>hne (side_inj h.ok ha hb (memL_inj10 (hlt a) (hlt b) e))
 refine nodup_same (sasc_nodup hl.1) hnd fun r=>?_
 rw [hl.2 r]
 simp only [List.mem_map]
 constructor
 ·rintro ⟨a,ha,h1,rfl⟩
  obtain ⟨q,hq,rfl⟩:=face_side h.ok ((hD.mem a).1 ha) h1
  exact ⟨_,⟨q,hq,rfl⟩,rfl⟩
 ·rintro ⟨_,⟨q,hq,rfl⟩,rfl⟩
  obtain ⟨h1,h2⟩:=side_dim h.ok hq
  exact ⟨_,(hD.mem _).2 h1,h2,rfl⟩
theorem doc_verts {d:Nat} {P C s:List (List Int)} {A':List Nat} (h:FndS d P C s) (hD:DocF d P C s A') {lev:List (List Int)} (hl:LevOk d C A' 1 lev):lev.length=C.length:=by
 have hn:=h.n10
 have hnd:((List.range C.length).map fun k:Nat=>[(k:Int)]).Nodup:=by
  rw [List.nodup_iff_pairwise_ne,List.pairwise_map]
  exact (List.nodup_iff_pairwise_ne.1 List.nodup_range).imp fun {a b} hne e=>hne (by simp only [List.cons.injEq,and_true] at e; omega)
 have:=(nodup_same (sasc_nodup hl.1) hnd fun r=>by
  rw [hl.2 r]
  simp only [List.mem_map,List.mem_range]
  constructor
  ·rintro ⟨a,ha,h1,rfl⟩
   obtain ⟨k,hk,rfl⟩:=vert_of h.ok (hD.all.lt a ha) (by omega)
   exact ⟨k,hk,(memL_one (by omega)).symm⟩
  ·rintro ⟨k,hk,rfl⟩
   exact ⟨2 ^ k,(hD.mem _).2 (vert_itr h.ok hk),by rw [vert_dim (by omega)]; rfl,(memL_one (by omega)).symm⟩).length_eq
 simpa using this
end Go.Proofs.YtkfdpcgmpbopnaaGreatDoor
namespace Go.Proofs.YtkfdpcgmpbopnaaGreatDoor
open Go.RowKit Lin
attribute [local go_sem ↓] Go.wp_at_zero Go.wp_at_succ
structure BodW (w:World) (d:Nat) (P C s:List (List Int)) (S:List Nat) (co:Option Addr) (cc:Nat) (so:Option Addr) (sc:Nat) (w':World):Prop where
 cns:∀X,Below w'.heap.size w' X→Mat X.heap.size 22 3 X (.slice co C.length cc) C
 sds:∀X,Below w'.heap.size w' X→Sl X.heap.size 74 X (.slice so S.length sc) (u64s S)
 tab:∀X,Below w'.heap.size w' X→TabB X
 se:S=s.map (sdN C)
 n10:C.length≤10
 lt:∀t∈S,t < 2 ^ C.length
 lt10:∀t∈S,t < 1024
 sl:S.length≤5000
 ok:FcC d C s
 doc:∀s0 c,(∀r,r∈s0↔r∈rowsD P d)→SAsc c→(∀y,y∈c↔y∈crn d s0 P)→C=c
 bel:Below w.heap.size w w'
theorem bodW_any (d:Nat) (P:List (List Int)) (v:Value) (w:World) (hv:Mat w.heap.size 22 3 w v P) (hg:Good d P) (hn:P.length≤10) (hT:TabB w) :
  Calls Tryz.prog 31 #[.agg #[.int .i64 d,v]] w fun e w'=>∃C s S co cc ro rl rc so sc,e=.returned (.tuple #[.agg #[.int .i64 d,.slice co C.length cc,.slice ro rl rc,.slice so S.length sc],.int .i64 0])∧BodW w d P C s S co cc so sc w':=by
 refine (bodyOf_any d P v w hv hg (by omega)).mono ?_
 rintro e w' ⟨C,s,co,cc,ro,rc,so,sc,rfl,h⟩
 have hn10:C.length≤10:=Nat.le_trans h.len hn
 have hlt:∀t∈s.map (sdN C),t < 2 ^ C.length:=fun t ht=>by
  obtain ⟨r,_,rfl⟩:=List.mem_map.1 ht
  exact sdTo_lt C r C.length
 have hlt10:∀t∈s.map (sdN C),t < 1024:=fun t ht=>Nat.lt_of_lt_of_le (hlt t ht) (Nat.le_trans (Nat.pow_le_pow_right (by decide) hn10) (by decide))
 have hsl:(s.map (sdN C)).length≤1024:=by
  have:=nodup_len (s.map (sdN C)) (List.range 1024) h.ok.nod fun x hx=>List.mem_range.2 (hlt10 x hx)
  simpa using this
 refine ⟨C,s,s.map (sdN C),co,cc,ro,s.length,rc,so,sc,by rw [List.length_map],fun X hX=>(h.cns.below hX (Nat.le_refl _)).more (Nat.zero_le _),fun X hX=>?_,fun X hX=>(hT.below h.bel).below hX,rfl,hn10,hlt,hlt10,by omega,h.ok,h.doc,h.bel⟩
 rw [List.length_map]
 have:=Sl.own (B:=0) (owns_below h.sds hX (Nat.le_refl _))
 exact this.more (Nat.zero_le _)
theorem levW_any {w:World} {d:Nat} {P C s:List (List Int)} {S:List Nat} {co:Option Addr} {cc:Nat} {so:Option Addr} {sc:Nat} {w':World} (h:BodW w d P C s S co cc so sc w') (rv:Value) (X:World) (hX:Below w'.heap.size w' X) :
  Calls Tryz.prog 32 #[.agg #[.int .i64 d,.slice co C.length cc,rv,.slice so S.length sc]] X fun e w2=>∃(A:List Nat) (g:Nat) (vs:List Value),e=.returned (.slice (some ⟨g,0,none⟩) (d+2) (d+2))∧Fnd d P C s A∧w2.heap[g]?=some (.cells vs.toArray 58 (0,0))∧vs.length=d+2∧(∀t,t < d+2→∃ao cp,vs.getD t undef=.slice ao (lvA d C A t).length cp∧Sl 0 74 w2 (.slice ao (lvA d C A t).length cp) (u64s (lvA d C A t)))∧Below X.heap.size X w2:=by
 refine (levels_any d C co cc rv so sc S X (h.cns X hX) h.ok.g.box h.ok.g.d1 h.ok.g.d4 h.n10 (h.tab X hX) (h.sds X hX) h.lt10 h.sl).mono ?_
 rintro e w2 ⟨rfl,A,hW,hP⟩
 obtain ⟨vs,r1,r2,r3,_⟩:=hW.i.ro
 refine ⟨A,X.heap.size+1,vs,rfl,⟨h.ok,h.doc,h.n10,hW.nd,hW.lt,fun a=>?_⟩,r2,r1,fun t ht=>?_,hW.i.bel⟩
 ·rw [←h.se]
  exact see_all hP
 ·obtain ⟨ao,cp,e⟩:=owns_form (r3 t ht)
  refine ⟨ao,cp,e,?_⟩
  rw [←e]
  exact Sl.own (r3 t ht)
set_option maxRecDepth 100000 in
set_option maxHeartbeats 1600000 in
theorem countsP_any (d:Nat) (P:List (List Int)) (v:Value) (w:World) (hv:Mat w.heap.size 22 3 w v P) (hg:Good d P) (hn:P.length≤10) (hT:TabB w) :
  Calls Tryz.prog 14 #[.agg #[.int .i64 d,v]] w fun e w'=>∃u C s A,e=.returned (.tuple #[u,.int .i64 0])∧Fnd d P C s A∧w'.ownsRow w.heap.size 3 1 u (d+2) (ints (cnF (fun t=>(lvA d C A t).length) (d+2)))∧Below w.heap.size w w':=by
 obtain ⟨po,pc,rfl,hlc,hcm⟩:=mat_open hv
 have h4:=hg.d4
 obtain ⟨W,hW⟩:∃W,W=w.alloc (.cells #[.int .i64 d,.slice po P.length pc] 27):=⟨_,rfl⟩
 have hbw:Below w.heap.size w W:=by rw [hW]; exact alloc_keep _ _
 have HW:Hid (Below w.heap.size w W):=hbw
 have hsW:W.heap.size=w.heap.size+1:=by rw [hW]; exact size_alloc _ _
 have c0:W.cell? ⟨w.heap.size,0,none⟩=some (.int .i64 d):=by rw [hW]; simp
 have c1:W.cell? ⟨w.heap.size,1,none⟩=some (.slice po P.length pc):=by rw [hW]; simp
 have HBO:=bodW_any d P (.slice po P.length pc) W ((hv.below hbw (Nat.le_refl _)).any (Nat.le_refl _)) hg hn (hT.below hbw)
 clear hv hg hT hbw
 go_enter Tryz.func14,Tryz.ntmps14
 go_wp2_with fail
 rw [←hW]
 clear hW
 refine HBO.mono ?_
 rintro e w2 ⟨C,s,S,co,cc,ro,rl,rc,so,sc,rfl,hB⟩
 have HB:Hid (BodW W d P C s S co cc so sc w2):=hB
 clear HBO hB c0 c1
 obtain ⟨W3,hW3⟩:∃W3,W3=w2.alloc (.cells #[.int .i64 d,.slice co C.length cc,.slice ro rl rc,.slice so S.length sc] 60):=⟨_,rfl⟩
 have HB3:Hid (Below w2.heap.size w2 W3):=by rw [hW3]; exact alloc_keep _ _
 have HLV:=levW_any HB.out (.slice ro rl rc) W3 HB3.out
 rw [hW3] at HLV HB3
 go_wp2_with fail
 refine HLV.mono ?_
 rintro e w4 ⟨A,g,vs,rfl,hF,hg4,hvl,hvs,hb4⟩
 have HF:Hid (Fnd d P C s A):=hF
 have HB4:Hid (Below w.heap.size w w4):=HW.out.trans ((HB.out.bel.trans ((HB3.out.trans (hb4.mono HB3.out.size)).mono HB.out.bel.size)).mono (by omega))
 have HCO:Hid (Calls Tryz.prog 34 #[.slice (some ⟨g,0,none⟩) (d+2) (d+2)] w4 fun e w'=>∃u,e=.returned u∧w'.ownsRow w4.heap.size 3 1 u (d+2) (ints (cnF (fun t=>(lvA d C A t).length) (d+2)))∧Below w4.heap.size w4 w'):=
  countsF_any g (d+2) (d+2) vs (fun t=>(lvA d C A t).length) w4 hg4 (by omega) (by omega) fun t ht=>by
   obtain ⟨ao,cp,e,_⟩:=hvs t ht
   exact ⟨ao,cp,e⟩
 clear HLV hF hg4 hvl hvs hb4 hW3 HB3
 go_wp2_with fail
 refine HCO.out.mono ?_
 rintro e w5 ⟨u,rfl,ho,hb5⟩
 obtain ⟨uo,uc,hu⟩:=owns_form ho
 subst hu
 have HO:Hid (w5.ownsRow w4.heap.size 3 1 (.slice uo (d+2) uc) (d+2) (ints (cnF (fun t=>(lvA d C A t).length) (d+2)))):=ho
 have HB5:Hid (Below w.heap.size w w5):=HB4.out.trans (hb5.mono HB4.out.size)
 clear ho hb5 HCO
 go_wp2
 go_ret2
 exact ⟨_,C,s,A,rfl,HF.out,HO.out.mono HB4.out.size,HB5.out⟩
set_option maxRecDepth 100000 in
set_option maxHeartbeats 1600000 in
theorem graphP_any (d:Nat) (P:List (List Int)) (v:Value) (w:World) (hv:Mat w.heap.size 22 3 w v P) (hg:Good d P) (hn:P.length≤10) (hT:TabB w) :
  Calls Tryz.prog 16 #[.agg #[.int .i64 d,v]] w fun e w'=>∃u C s A m,e=.returned (.tuple #[u,.int .i64 0])∧Fnd d P C s A∧Fr w.heap.size 22 3 w' u m∧Inor m ((lvA d C A 2).map memL)∧Below w.heap.size w w':=by
 obtain ⟨po,pc,rfl,hlc,hcm⟩:=mat_open hv
 have h1:=hg.d1
 have h4:=hg.d4
 obtain ⟨W,hW⟩:∃W,W=w.alloc (.cells #[.int .i64 d,.slice po P.length pc] 27):=⟨_,rfl⟩
 have hbw:Below w.heap.size w W:=by rw [hW]; exact alloc_keep _ _
 have HW:Hid (Below w.heap.size w W):=hbw
 have hsW:W.heap.size=w.heap.size+1:=by rw [hW]; exact size_alloc _ _
 have c0:W.cell? ⟨w.heap.size,0,none⟩=some (.int .i64 d):=by rw [hW]; simp
 have c1:W.cell? ⟨w.heap.size,1,none⟩=some (.slice po P.length pc):=by rw [hW]; simp
 have HBO:=bodW_any d P (.slice po P.length pc) W ((hv.below hbw (Nat.le_refl _)).any (Nat.le_refl _)) hg hn (hT.below hbw)
 have HTB:Hid (∀X,Below w.heap.size w X→TabB X):=fun X hX=>hT.below hX
 clear hv hg hT hbw
 go_enter Tryz.func16,Tryz.ntmps16
 go_wp2_with fail
 rw [←hW]
 clear hW
 refine HBO.mono ?_
 rintro e w2 ⟨C,s,S,co,cc,ro,rl,rc,so,sc,rfl,hB⟩
 have HB:Hid (BodW W d P C s S co cc so sc w2):=hB
 clear HBO hB c0 c1
 obtain ⟨W3,hW3⟩:∃W3,W3=w2.alloc (.cells #[.int .i64 d,.slice co C.length cc,.slice ro rl rc,.slice so S.length sc] 60):=⟨_,rfl⟩
 have HB3:Hid (Below w2.heap.size w2 W3):=by rw [hW3]; exact alloc_keep _ _
 have HLV:=levW_any HB.out (.slice ro rl rc) W3 HB3.out
 rw [hW3] at HLV HB3
 go_wp2_with fail
 refine HLV.mono ?_
 rintro e w4 ⟨A,g,vs,rfl,hF,hg4,hvl,hvs,hb4⟩
 have HF:Hid (Fnd d P C s A):=hF
 have HB4:Hid (Below w.heap.size w w4):=HW.out.trans ((HB.out.bel.trans ((HB3.out.trans (hb4.mono HB3.out.size)).mono HB.out.bel.size)).mono (by omega))
 obtain ⟨ao,cp,e2,hs2⟩:=hvs 2 (by omega)
 have hc2:w4.cell? ⟨g,2,none⟩=some (.slice ao (lvA d C A 2).length cp):=by
  rw [←e2]
  simp [World.cell?,hg4,show 2 < vs.length by omega]
 have HTO:=told_any 0 (lvA d C A 2) (.slice ao (lvA d C A 2).length cp) w4 hs2 (fun x hx=>hF.lt x (List.mem_filter.1 hx).1) (by
  have h5:=lvA_len d C A 2
  have h6:=nodup_len A (List.range 1024) hF.nd fun x hx=>List.mem_range.2 (hF.lt x hx)
  rw [List.length_range] at h6
  omega) (HTB.out w4 HB4.out)
 have hd2:(2:Int) < (d:Int)+2:=by omega
 clear HLV hF hg4 hvl hvs hb4 hW3 HB3 e2 hs2
 obtain ⟨L,hL⟩:∃L,L=lvA d C A 2:=⟨_,rfl⟩
 rw [←hL] at HTO hc2
 have HLE:Hid (L=lvA d C A 2):=hL
 clear hL
 go_wp2_with fail
 refine HTO.mono ?_
 rintro e w5 ⟨u,m,rfl,ho,hin,hb5⟩
 obtain ⟨uo,uc,hu,_,_⟩:=fr_open ho
 subst hu
 have HO:Hid (Fr w4.heap.size 22 3 w5 (.slice uo m.length uc) m∧Inor m (L.map memL)):=⟨ho,hin⟩
 have HB5:Hid (Below w.heap.size w w5):=HB4.out.trans (hb5.mono HB4.out.size)
 clear ho hb5 HTO hc2 hin
 go_wp2
 go_ret2
 exact ⟨_,C,s,A,m,rfl,HF.out,HO.out.1.mono HB4.out.size,by rw [←HLE.out]; exact HO.out.2,HB5.out⟩
end Go.Proofs.YtkfdpcgmpbopnaaGreatDoor
namespace Go.Proofs.YtkfdpcgmpbopnaaGreatDoor
open Go.RowKit Lin
attribute [local go_sem ↓] Go.wp_at_zero Go.wp_at_succ
set_option maxRecDepth 100000 in
set_option maxHeartbeats 1600000 in
theorem kindP_any (d:Nat) (P:List (List Int)) (v:Value) (w:World) (hv:Mat w.heap.size 22 3 w v P) (hg:Good d P) (hn:P.length≤10) (hT:TabB w) :
  Calls Tryz.prog 15 #[.agg #[.int .i64 d,v]] w fun e w'=>∃C s,e=.returned (.tuple #[.bool (splB d (s.map (sdN C))),.bool (smpB d C.length (s.map (sdN C))),.int .i64 0])∧FndS d P C s∧Below w.heap.size w w':=by
 obtain ⟨po,pc,rfl,hlc,hcm⟩:=mat_open hv
 have h4:=hg.d4
 obtain ⟨W,hW⟩:∃W,W=w.alloc (.cells #[.int .i64 d,.slice po P.length pc] 27):=⟨_,rfl⟩
 have hbw:Below w.heap.size w W:=by rw [hW]; exact alloc_keep _ _
 have HW:Hid (Below w.heap.size w W):=hbw
 have hsW:W.heap.size=w.heap.size+1:=by rw [hW]; exact size_alloc _ _
 have c0:W.cell? ⟨w.heap.size,0,none⟩=some (.int .i64 d):=by rw [hW]; simp
 have c1:W.cell? ⟨w.heap.size,1,none⟩=some (.slice po P.length pc):=by rw [hW]; simp
 have HBO:=bodW_any d P (.slice po P.length pc) W ((hv.below hbw (Nat.le_refl _)).any (Nat.le_refl _)) hg hn (hT.below hbw)
 clear hv hg hT hbw
 go_enter Tryz.func15,Tryz.ntmps15
 go_wp2_with fail
 rw [←hW]
 clear hW
 refine HBO.mono ?_
 rintro e w2 ⟨C,s,S,co,cc,ro,rl,rc,so,sc,rfl,hB⟩
 have HB:Hid (BodW W d P C s S co cc so sc w2):=hB
 clear HBO hB c0 c1
 obtain ⟨W3,hW3⟩:∃W3,W3=w2.alloc (.cells #[.int .i64 d,.slice co C.length cc,.slice ro rl rc,.slice so S.length sc] 60):=⟨_,rfl⟩
 have HB3:Hid (Below w2.heap.size w2 W3):=by rw [hW3]; exact alloc_keep _ _
 have HF:Hid (FndS d P C s):=⟨HB.out.ok,HB.out.doc,HB.out.n10⟩
 have HSE:Hid (S=s.map (sdN C)):=HB.out.se
 have hb3:W3.heap[w2.heap.size]?=some (.cells #[.int .i64 d,.slice co C.length cc,.slice ro rl rc,.slice so S.length sc] 60 (0,0)):=by rw [hW3]; exact alloc_at _ _
 have hs3:W3.heap.size=w2.heap.size+1:=by rw [hW3]; exact size_alloc _ _
 have HCE:Hid (∀X,Below W3.heap.size W3 X→X.cell? ⟨w2.heap.size,0,none⟩=some (.int .i64 d)∧X.cell? ⟨w2.heap.size,1,none⟩=some (.slice co C.length cc)∧X.cell? ⟨w2.heap.size,2,none⟩=some (.slice ro rl rc)∧X.cell? ⟨w2.heap.size,3,none⟩=some (.slice so S.length sc)):=fun X hX=>by
  have h0:=(hX.block w2.heap.size (by omega)).trans hb3
  exact ⟨by simp [World.cell?,h0],by simp [World.cell?,h0],by simp [World.cell?,h0],by simp [World.cell?,h0]⟩
 have HSP:Hid (∀X,Below W3.heap.size W3 X→Calls Tryz.prog 35 #[.agg #[.int .i64 d,.slice co C.length cc,.slice ro rl rc,.slice so S.length sc]] X fun e w'=>e=.returned (.bool (splB d S))∧Below W3.heap.size W3 w'):=fun X hX=>
  (isSimplicial_any d _ _ so sc S X (HB.out.sds X (HB3.out.trans (hX.mono HB3.out.size))) HB.out.lt10).mono fun e w' ⟨e1,e2⟩=>⟨e1,hX.trans (e2.mono hX.size)⟩
 have HSM:Hid (∀X,Below W3.heap.size W3 X→Calls Tryz.prog 36 #[.agg #[.int .i64 d,.slice co C.length cc,.slice ro rl rc,.slice so S.length sc]] X fun e w'=>e=.returned (.bool (smpB d C.length S))∧Below W3.heap.size W3 w'):=fun X hX=>
  (isSimple_any d C.length co cc _ so sc S X HB.out.n10 (HB.out.tab X (HB3.out.trans (hX.mono HB3.out.size))) (HB.out.sds X (HB3.out.trans (hX.mono HB3.out.size))) HB.out.lt HB.out.sl).mono fun e w' ⟨e1,e2⟩=>⟨e1,hX.trans (e2.mono hX.size)⟩
 have HBF:Hid (∀X,Below W3.heap.size W3 X→Below w.heap.size w X):=fun X hX=>HW.out.trans ((HB.out.bel.trans ((HB3.out.trans (hX.mono HB3.out.size)).mono HB.out.bel.size)).mono (by omega))
 have HRES:Hid (splB d S=splB d (s.map (sdN C))∧smpB d C.length S=smpB d C.length (s.map (sdN C))):=by
  show _∧_
  rw [HSE.out]
  exact ⟨rfl,rfl⟩
 generalize splB d S=q1 at *
 generalize smpB d C.length S=q2 at *
 clear hb3 hs3 HB HB3 HSE
 go_upto_region 4 with fail
 rw [←hW3]
 clear hW3
 have hc3:=HCE.out W3 (Below.refl _ _)
 refine wp_region_held_drew (S:=fun X=>X.cell? ⟨w2.heap.size,0,none⟩=some (.int .i64 d)∧X.cell? ⟨w2.heap.size,1,none⟩=some (.slice co C.length cc)∧X.cell? ⟨w2.heap.size,2,none⟩=some (.slice ro rl rc)∧X.cell? ⟨w2.heap.size,3,none⟩=some (.slice so S.length sc)) (by kernel_rfl) hc3 (fun hHeld=>?_)
 clear hc3
 refine wpAnyH_tk (i:=0) (d:=14) (v:=(.agg #[.int .i64 d,.slice co C.length cc,.slice ro rl rc,.slice so S.length sc])) rfl rfl (by kernel_rfl) (by kernel_rfl) (by kernel_rfl) (fun _ _ _ h=>h) (.inl ⟨by rfl,by (intro wq hSw; (try dsimp only at hSw); go_simp; (try (first | rfl | omega)))⟩) hHeld ?_
 simp only [Act.put,List.setIfInBounds_toArray,List.set_cons_zero,List.set_cons_succ]
 refine wpAnyH_tk (i:=2) (d:=16) (v:=(.agg #[.int .i64 d,.slice co C.length cc,.slice ro rl rc,.slice so S.length sc])) rfl rfl (by kernel_rfl) (by kernel_rfl) (by kernel_rfl) (fun _ _ _ h=>h) (.inl ⟨by rfl,by (intro wq hSw; (try dsimp only at hSw); go_simp; (try (first | rfl | omega)))⟩) hHeld ?_
 simp only [Act.put,List.setIfInBounds_toArray,List.set_cons_zero,List.set_cons_succ]
 refine wpAnyH_ready (rs:=[1]) (by kernel_rfl) (by simp) ?_
 refine ready_tk (i:=1) rfl (by rfl) (fun K hK=>?_) AllReadyH.nil
 go_simp
 refine (HSP.out W3.drew (Below.refl _ _).drew).mono ?_
 rintro e w4 ⟨rfl,hb4⟩
 have HB4:Hid (Below W3.heap.size W3 w4):=hb4
 clear hb4
 refine hK.out _ _ (HCE.out w4 HB4.out) (fun hHeld=>?_)
 clear hK K
 refine wpAnyH_ready (rs:=[3]) (by kernel_rfl) (by simp) ?_
 refine ready_tk (i:=3) rfl (by rfl) (fun K hK=>?_) AllReadyH.nil
 go_simp
 refine (HSM.out w4 HB4.out).mono ?_
 rintro e w5 ⟨rfl,hb5⟩
 have HB5:Hid (Below W3.heap.size W3 w5):=hb5
 clear hb5
 refine hK.out _ _ (HCE.out w5 HB5.out) (fun hHeld=>?_)
 clear hK K
 refine wpAnyH_tk (i:=4) (d:=2) (v:=(.bool q1)) rfl rfl (by kernel_rfl) (by kernel_rfl) (by kernel_rfl) (fun _ _ _ h=>h) (.inl ⟨by rfl,by (intro wq hSw; (try dsimp only at hSw); go_simp; (try (first | rfl | omega)))⟩) hHeld ?_
 simp only [Act.put,List.setIfInBounds_toArray,List.set_cons_zero,List.set_cons_succ]
 refine wpAnyH_tk (i:=5) (d:=3) (v:=(.bool q2)) rfl rfl (by kernel_rfl) (by kernel_rfl) (by kernel_rfl) (fun _ _ _ h=>h) (.inl ⟨by rfl,by (intro wq hSw; (try dsimp only at hSw); go_simp; (try (first | rfl | omega)))⟩) hHeld ?_
 simp only [Act.put,List.setIfInBounds_toArray,List.set_cons_zero,List.set_cons_succ]
 refine wpAnyH_tk (i:=6) (d:=4) (v:=(.int .i64 0)) rfl rfl (by kernel_rfl) (by kernel_rfl) (by kernel_rfl) (fun _ _ _ h=>h) (.inl ⟨by rfl,by (intro wq hSw; (try dsimp only at hSw); go_simp; (try (first | rfl | omega)))⟩) hHeld ?_
 simp only [Act.put,List.setIfInBounds_toArray,List.set_cons_zero,List.set_cons_succ]
 refine wpAnyH_done (by kernel_rfl) ?_ _
 clear hHeld
 go_wp2
 refine bodyPost_ret (v:=.tuple #[.bool q1,.bool q2,.int .i64 0]) (by simp [results,Tryz.results15,go_sem]) rfl ?_
 exact ⟨C,s,by rw [HRES.out.1,HRES.out.2],HF.out,HBF.out w5 HB5.out⟩
end Go.Proofs.YtkfdpcgmpbopnaaGreatDoor
namespace Go.Proofs.YtkfdpcgmpbopnaaGreatDoor
open Go.RowKit Lin
attribute [local go_sem ↓] Go.wp_at_zero Go.wp_at_succ
set_option maxRecDepth 100000 in
set_option maxHeartbeats 1600000 in
theorem latticeP_any (d:Nat) (P:List (List Int)) (v:Value) (w:World) (hv:Mat w.heap.size 22 3 w v P) (hg:Good d P) (hn:P.length≤10) (hT:TabB w) :
  Calls Tryz.prog 13 #[.agg #[.int .i64 d,v]] w fun e w'=>∃u C s A,e=.returned (.tuple #[u,.int .i64 0])∧Fnd d P C s A∧Lvs w.heap.size w' u (d+2) (fun t m=>Inor m ((lvA d C A t).map memL))∧Below w.heap.size w w':=by
 obtain ⟨i2,hi2,hz20,hz21,hz22⟩:=info_parts Tryz.info25
 obtain ⟨po,pc,rfl,hlc,hcm⟩:=mat_open hv
 have h1:=hg.d1
 have h4:=hg.d4
 obtain ⟨W,hW⟩:∃W,W=w.alloc (.cells #[.int .i64 d,.slice po P.length pc] 27):=⟨_,rfl⟩
 have hbw:Below w.heap.size w W:=by rw [hW]; exact alloc_keep _ _
 have HW:Hid (Below w.heap.size w W):=hbw
 have hsW:W.heap.size=w.heap.size+1:=by rw [hW]; exact size_alloc _ _
 have c0:W.cell? ⟨w.heap.size,0,none⟩=some (.int .i64 d):=by rw [hW]; simp
 have c1:W.cell? ⟨w.heap.size,1,none⟩=some (.slice po P.length pc):=by rw [hW]; simp
 have HBO:=bodW_any d P (.slice po P.length pc) W ((hv.below hbw (Nat.le_refl _)).any (Nat.le_refl _)) hg hn (hT.below hbw)
 have HTB:Hid (∀X,Below w.heap.size w X→TabB X):=fun X hX=>hT.below hX
 clear hv hg hT hbw
 go_enter Tryz.func13,Tryz.ntmps13
 go_wp2_with fail
 rw [←hW]
 clear hW
 refine HBO.mono ?_
 rintro e w2 ⟨C,s,S,co,cc,ro,rl,rc,so,sc,rfl,hB⟩
 have HB:Hid (BodW W d P C s S co cc so sc w2):=hB
 clear HBO hB c0 c1
 obtain ⟨W3,hW3⟩:∃W3,W3=w2.alloc (.cells #[.int .i64 d,.slice co C.length cc,.slice ro rl rc,.slice so S.length sc] 60):=⟨_,rfl⟩
 have HB3:Hid (Below w2.heap.size w2 W3):=by rw [hW3]; exact alloc_keep _ _
 have HLV:=levW_any HB.out (.slice ro rl rc) W3 HB3.out
 rw [hW3] at HLV HB3
 go_wp2_with fail
 refine HLV.mono ?_
 rintro e w4 ⟨A,g,vs,rfl,hF,hg4,hvl,hvs,hb4⟩
 have HF:Hid (Fnd d P C s A):=hF
 have HB4:Hid (Below w.heap.size w w4):=HW.out.trans ((HB.out.bel.trans ((HB3.out.trans (hb4.mono HB3.out.size)).mono HB.out.bel.size)).mono (by omega))
 have HFC:Hid (∀X t,Below w4.heap.size w4 X→t < d+2→∃ao cp ll,X.cell? ⟨g,t,none⟩=some (.slice ao ll cp)∧Calls Tryz.prog 33 #[.slice ao ll cp] X fun e w'=>∃u m,e=.returned u∧Fr X.heap.size 22 3 w' u m∧Inor m ((lvA d C A t).map memL)∧Below X.heap.size X w'):=fun X t hX ht=>by
  obtain ⟨ao,cp,e2,hs2⟩:=hvs t ht
  refine ⟨ao,cp,(lvA d C A t).length,?_,told_any 0 (lvA d C A t) (.slice ao (lvA d C A t).length cp) X (hs2.below hX (Nat.le_refl _)) (fun x hx=>hF.lt x (List.mem_filter.1 hx).1) ?_ (HTB.out X (HB4.out.trans (hX.mono HB4.out.size)))⟩
  ·rw [←e2]
   have h0:=(hX.block g (lt_of_block hg4)).trans hg4
   simp [World.cell?,h0,show t < vs.length by omega]
  ·have h5:=lvA_len d C A t
   have h6:=nodup_len A (List.range 1024) hF.nd fun x hx=>List.mem_range.2 (hF.lt x hx)
   rw [List.length_range] at h6
   omega
 clear HLV hF hg4 hvl hvs hb4 hW3 HB3 HTB
 go_wp2
 go_loopw [6,8,20] (fun x _ i wr=>∃k:Nat,k≤d+2∧i=.int .i64 (k:Int)∧Lvs w4.heap.size wr x k (fun t m=>Inor m ((lvA d C A t).map memL))∧Below w4.heap.size w4 wr) (fun _ _ i _=>d+2-(intOf i).toNat)
 case atStart=>exact ⟨0,Nat.zero_le _,rfl,Lvs.nil _ _ _,Below.refl _ _⟩
 case round=>
  obtain ⟨k,hk,rfl,hL,hb⟩:=hrel
  have HBR:Hid (Below w4.heap.size w4 wr):=hb
  obtain ⟨us,u1,u2,u3⟩:=hL.rows
  obtain ⟨xo,xc,hx⟩:=owns_form u2
  subst hx
  have HL:Hid (Lvs w4.heap.size wr (.slice xo k xc) k (fun t m=>Inor m ((lvA d C A t).map memL))):=hL
  clear hb u1 u2 u3 hL
  by_cases hlt:k < d+2
  ·obtain ⟨ao,cp,ll,hc,hto⟩:=HFC.out wr k HBR.out hlt
   have hkI:(k:Int) < (d:Int)+2:=by omega
   clear HFC
   go_wp2_with fail
   refine hto.mono ?_
   rintro e w5 ⟨u,m,rfl,hfr,hin,hb5⟩
   obtain ⟨uo,uc,hu,_,_⟩:=fr_open hfr
   subst hu
   obtain ⟨vs2,v1,v2,v3⟩:=(HL.out.below hb5 (Nat.le_refl _)).rows
   have HO:Hid (w5.ownsRow w4.heap.size 25 1 (.slice xo k xc) k vs2):=v2
   have HB5:Hid (Below w4.heap.size w4 w5):=HBR.out.trans (hb5.mono HBR.out.size)
   have HPU:Hid (∀v' w6,w6.ownsRow w4.heap.size 25 1 v' (k+1) (vs2 ++ [.slice uo m.length uc])→(w5.alloc (.cells #[.slice uo m.length uc] 25)).grownBy w6 (Value.slice xo k xc).ownBlock→Lvs w4.heap.size w6 v' (k+1) (fun t m=>Inor m ((lvA d C A t).map memL))):=fun v' w6 ho hg=>
    Lvs.push v1 (v2.alloc _) (fun t ht=>by
     obtain ⟨lev,g1,g2⟩:=v3 t ht
     exact ⟨lev,g1.alloc _,g2⟩) ((hfr.mono HBR.out.size).alloc _) hin ho hg
   have hsz:w4.heap.size≤w5.heap.size:=HB5.out.size
   clear v1 v2 v3 hfr hin hb5 hto hc HL
   generalize m.length=ml at *
   go_wp2_with (first | (at_builtin; refine wpList_append_own _ rfl _ _ 33 rfl w4.heap.size 25 i2 (.slice none 0 0) 1 24 Tryz.underlying33 hi2 hz20 hz21 hz22 rfl (by decide) _ _ _ rfl (HO.out.alloc _) ⟨w5.heap.size,0,none⟩ 1 1 [.slice uo ml uc] rfl rfl (one_new _ _ _) (one_slice _ _ _) ?d3 ?d4 ?d5 ?_))
   case d3=>unfold maxLen; omega
   case d4=>omega
   case d5=>simp; omega
   intro v' w6 ho hg _
   have HNX:Hid (Lvs w4.heap.size w6 v' (k+1) (fun t m=>Inor m ((lvA d C A t).map memL))):=HPU.out v' w6 ho hg
   have HB6:Hid (Below w4.heap.size w4 w6):=(HB5.out.alloc hsz _).grown hg (by simp; omega) (fun y hy=>(HO.out.lt y hy).1)
   clear ho hg
   go_wp2
   go_roundw
   case rel=>exact ⟨k+1,by omega,by go_num,HNX.out,HB6.out⟩
   case measure=>simp [intOf]; omega
  ·have hke:k=d+2:=by omega
   subst hke
   have HRR:Hid (Lvs w.heap.size wr (.slice xo (d+2) xc) (d+2) (fun t m=>Inor m ((lvA d C A t).map memL))∧Below w.heap.size w wr):=⟨HL.out.mono HB4.out.size,HB4.out.trans (HBR.out.mono HB4.out.size)⟩
   clear HFC HL
   go_wp2
   go_ret2
   exact ⟨_,C,s,A,rfl,HF.out,HRR.out.1,HRR.out.2⟩
end Go.Proofs.YtkfdpcgmpbopnaaGreatDoor
namespace Go.Proofs.YtkfdpcgmpbopnaaGreatDoor
open Go.RowKit Lin
attribute [local go_sem ↓] Go.wp_at_zero Go.wp_at_succ
theorem hvN_congr {c c2:Nat→Int} : ∀i,(∀k,k < i→c k=c2 k)→∀j,hvN c i j=hvN c2 i j
 | 0,_,_=>rfl
 | i+1,h,j=>by
  simp only [hvN]
  rw [hvN_congr i (fun k hk=>h k (by omega)) j,hvN_congr i (fun k hk=>h k (by omega)) (j-1),h i (by omega)]
theorem hvF_cnF (L:Nat→Nat) (n:Nat):hvF (fun k=>(cnF L n).getD k 0) n=hvF (fun k=>(L k:Int)) n:=by
 unfold hvF
 refine List.map_congr_left fun j _=>hvN_congr n (fun k hk=>?_) j
 simp [cnF,hk]
set_option maxRecDepth 100000 in
set_option maxHeartbeats 1600000 in
theorem shortP_any (d:Nat) (P:List (List Int)) (v:Value) (w:World) (hv:Mat w.heap.size 22 3 w v P) (hg:Good d P) (hn:P.length≤10) (hT:TabB w) :
  Calls Tryz.prog 17 #[.agg #[.int .i64 d,v]] w fun e w'=>∃C s,FndS d P C s∧Below w.heap.size w w'∧((splB d (s.map (sdN C))=false∧e=.returned (.tuple #[.slice none 0 0,.int .i64 3]))∨(splB d (s.map (sdN C))=true∧∃u A,e=.returned (.tuple #[u,.int .i64 0])∧Fnd d P C s A∧w'.ownsRow w.heap.size 3 1 u (d+1) (ints (hvF (fun t=>((lvA d C A t).length:Int)) (d+1))))):=by
 obtain ⟨po,pc,rfl,hlc,hcm⟩:=mat_open hv
 have h4:=hg.d4
 obtain ⟨W,hW⟩:∃W,W=w.alloc (.cells #[.int .i64 d,.slice po P.length pc] 27):=⟨_,rfl⟩
 have hbw:Below w.heap.size w W:=by rw [hW]; exact alloc_keep _ _
 have HW:Hid (Below w.heap.size w W):=hbw
 have hsW:W.heap.size=w.heap.size+1:=by rw [hW]; exact size_alloc _ _
 have c0:W.cell? ⟨w.heap.size,0,none⟩=some (.int .i64 d):=by rw [hW]; simp
 have c1:W.cell? ⟨w.heap.size,1,none⟩=some (.slice po P.length pc):=by rw [hW]; simp
 have HBO:=bodW_any d P (.slice po P.length pc) W ((hv.below hbw (Nat.le_refl _)).any (Nat.le_refl _)) hg hn (hT.below hbw)
 clear hv hg hT hbw
 go_enter Tryz.func17,Tryz.ntmps17
 go_wp2_with fail
 rw [←hW]
 clear hW
 refine HBO.mono ?_
 rintro e w2 ⟨C,s,S,co,cc,ro,rl,rc,so,sc,rfl,hB⟩
 have HB:Hid (BodW W d P C s S co cc so sc w2):=hB
 clear HBO hB c0 c1
 obtain ⟨W3,hW3⟩:∃W3,W3=w2.alloc (.cells #[.int .i64 d,.slice co C.length cc,.slice ro rl rc,.slice so S.length sc] 60):=⟨_,rfl⟩
 have HB3:Hid (Below w2.heap.size w2 W3):=by rw [hW3]; exact alloc_keep _ _
 have HF:Hid (FndS d P C s):=⟨HB.out.ok,HB.out.doc,HB.out.n10⟩
 have hb3:W3.heap[w2.heap.size]?=some (.cells #[.int .i64 d,.slice co C.length cc,.slice ro rl rc,.slice so S.length sc] 60 (0,0)):=by rw [hW3]; exact alloc_at _ _
 have hs3:W3.heap.size=w2.heap.size+1:=by rw [hW3]; exact size_alloc _ _
 have HCE:Hid (∀X,Below W3.heap.size W3 X→X.cell? ⟨w2.heap.size,0,none⟩=some (.int .i64 d)∧X.cell? ⟨w2.heap.size,1,none⟩=some (.slice co C.length cc)∧X.cell? ⟨w2.heap.size,2,none⟩=some (.slice ro rl rc)∧X.cell? ⟨w2.heap.size,3,none⟩=some (.slice so S.length sc)):=fun X hX=>by
  have h0:=(hX.block w2.heap.size (by omega)).trans hb3
  exact ⟨by simp [World.cell?,h0],by simp [World.cell?,h0],by simp [World.cell?,h0],by simp [World.cell?,h0]⟩
 have HSP:Hid (∀X,Below W3.heap.size W3 X→Calls Tryz.prog 35 #[.agg #[.int .i64 d,.slice co C.length cc,.slice ro rl rc,.slice so S.length sc]] X fun e w'=>e=.returned (.bool (splB d S))∧Below W3.heap.size W3 w'):=fun X hX=>
  (isSimplicial_any d _ _ so sc S X (HB.out.sds X (HB3.out.trans (hX.mono HB3.out.size))) HB.out.lt10).mono fun e w' ⟨e1,e2⟩=>⟨e1,hX.trans (e2.mono hX.size)⟩
 have HBF:Hid (∀X,Below W3.heap.size W3 X→Below w.heap.size w X):=fun X hX=>HW.out.trans ((HB.out.bel.trans ((HB3.out.trans (hX.mono HB3.out.size)).mono HB.out.bel.size)).mono (by omega))
 have HLV:Hid (∀X,Below W3.heap.size W3 X→Calls Tryz.prog 32 #[.agg #[.int .i64 d,.slice co C.length cc,.slice ro rl rc,.slice so S.length sc]] X fun e w4=>∃A g,e=.returned (.slice (some ⟨g,0,none⟩) (d+2) (d+2))∧Fnd d P C s A∧Below W3.heap.size W3 w4∧Calls Tryz.prog 34 #[.slice (some ⟨g,0,none⟩) (d+1) (d+2)] w4 fun e w5=>∃u,e=.returned u∧w5.ownsRow w4.heap.size 3 1 u (d+1) (ints (cnF (fun t=>(lvA d C A t).length) (d+1)))∧Below w4.heap.size w4 w5):=fun X hX=>by
  refine (levW_any HB.out (.slice ro rl rc) X (HB3.out.trans (hX.mono HB3.out.size))).mono ?_
  rintro e w4 ⟨A,g,vs,rfl,hF,hg4,hvl,hvs,hb4⟩
  refine ⟨A,g,rfl,hF,hX.trans (hb4.mono hX.size),countsF_any g (d+1) (d+2) vs (fun t=>(lvA d C A t).length) w4 hg4 (by omega) (by omega) fun t ht=>?_⟩
  obtain ⟨ao,cp,e,_⟩:=hvs t (by omega)
  exact ⟨ao,cp,e⟩
 have HSH:Hid (∀A uo uc w5,Fnd d P C s A→Sl 0 3 w5 (.slice uo (d+1) uc) (ints (cnF (fun t=>(lvA d C A t).length) (d+1)))→Calls Tryz.prog 37 #[.slice uo (d+1) uc] w5 fun e w6=>∃u,e=.returned u∧w6.ownsRow w5.heap.size 3 1 u (d+1) (ints (hvF (fun t=>((lvA d C A t).length:Int)) (d+1)))∧Below w5.heap.size w5 w6):=fun A uo uc w5 hF hs=>by
  have h:=short_any 0 (cnF (fun t=>(lvA d C A t).length) (d+1)) (.slice uo (d+1) uc) w5 hs (by rw [cnF_len]; omega) (fun z hz=>by
   simp only [cnF,List.mem_map,List.mem_range] at hz
   obtain ⟨t,_,rfl⟩:=hz
   have h5:=lvA_len d C A t
   have h6:=nodup_len A (List.range 1024) hF.nd fun x hx=>List.mem_range.2 (hF.lt x hx)
   rw [List.length_range] at h6
   omega)
  rw [cnF_len,hvF_cnF] at h
  exact h
 have HRES:Hid (splB d S=splB d (s.map (sdN C))):=by
  show _=_
  rw [HB.out.se]
 generalize splB d S=q1 at *
 clear hb3 hs3 HB HB3
 have hc3:=HCE.out W3 (Below.refl _ _)
 go_upto_region 4 with fail
 rw [←hW3]
 clear hW3
 obtain ⟨k0,k1,k2,k3⟩:=hc3
 cases q1
 ·go_wp2_with fail
  refine (HSP.out W3 (Below.refl _ _)).mono ?_
  rintro e w4 ⟨rfl,hb4⟩
  have HB4:Hid (Below W3.heap.size W3 w4):=hb4
  clear hb4
  go_wp2
  go_ret2
  exact ⟨C,s,HF.out,HBF.out w4 HB4.out,Or.inl ⟨HRES.out.symm,rfl⟩⟩
 ·go_wp2_with fail
  refine (HSP.out W3 (Below.refl _ _)).mono ?_
  rintro e w4 ⟨rfl,hb4⟩
  have HB4:Hid (Below W3.heap.size W3 w4):=hb4
  clear hb4 k0 k1 k2 k3
  have hc4:=HCE.out w4 HB4.out
  have hwd:IntKind.wrap .i64 ((d:Int)+1)=(d:Int)+1:=by rw [IntKind.wrap_i64]; omega
  go_upto_region 6 with fail
  refine wp_region_held_drew (S:=fun X=>X.cell? ⟨w2.heap.size,0,none⟩=some (.int .i64 d)∧X.cell? ⟨w2.heap.size,1,none⟩=some (.slice co C.length cc)∧X.cell? ⟨w2.heap.size,2,none⟩=some (.slice ro rl rc)∧X.cell? ⟨w2.heap.size,3,none⟩=some (.slice so S.length sc)) (by kernel_rfl) hc4 (fun hHeld=>?_)
  clear hc4
  refine wpAnyH_tk (i:=0) (d:=17) (v:=(.agg #[.int .i64 d,.slice co C.length cc,.slice ro rl rc,.slice so S.length sc])) rfl rfl (by kernel_rfl) (by kernel_rfl) (by kernel_rfl) (fun _ _ _ h=>h) (.inl ⟨by rfl,by (intro wq hSw; (try dsimp only at hSw); go_simp; (try (first | rfl | omega)))⟩) hHeld ?_
  simp only [Act.put,List.setIfInBounds_toArray,List.set_cons_zero,List.set_cons_succ]
  refine wpAnyH_tk (i:=2) (d:=19) (v:=(.pointer (some ⟨w2.heap.size,0,none⟩))) rfl rfl (by kernel_rfl) (by kernel_rfl) (by kernel_rfl) (fun _ _ _ h=>h) (.inl ⟨by rfl,by (intro wq hSw; (try dsimp only at hSw); go_simp; (try (first | rfl | omega)))⟩) hHeld ?_
  simp only [Act.put,List.setIfInBounds_toArray,List.set_cons_zero,List.set_cons_succ]
  refine wpAnyH_tk (i:=3) (d:=20) (v:=(.int .i64 d)) rfl rfl (by kernel_rfl) (by kernel_rfl) (by kernel_rfl) (fun _ _ _ h=>h) (.inl ⟨by rfl,by (intro wq hSw; (try dsimp only at hSw); go_simp; (try (first | rfl | omega)))⟩) hHeld ?_
  simp only [Act.put,List.setIfInBounds_toArray,List.set_cons_zero,List.set_cons_succ]
  refine wpAnyH_tk (i:=4) (d:=21) (v:=(.int .i64 ((d:Int)+1))) rfl rfl (by kernel_rfl) (by kernel_rfl) (by kernel_rfl) (fun _ _ _ h=>h) (.inl ⟨by rfl,by (intro wq hSw; (try dsimp only at hSw); go_simp; (try (first | rfl | omega)))⟩) hHeld ?_
  simp only [Act.put,List.setIfInBounds_toArray,List.set_cons_zero,List.set_cons_succ]
  refine wpAnyH_ready (rs:=[1]) (by kernel_rfl) (by simp) ?_
  refine ready_tk (i:=1) rfl (by rfl) (fun K hK=>?_) AllReadyH.nil
  go_simp
  refine (HLV.out w4.drew HB4.out.drew).mono ?_
  rintro e w5 ⟨A,g,rfl,hF,hb5,hcnt⟩
  have HFA:Hid (Fnd d P C s A):=hF
  have HB5:Hid (Below W3.heap.size W3 w5):=hb5
  have HCN:Hid (Calls Tryz.prog 34 #[.slice (some ⟨g,0,none⟩) (d+1) (d+2)] w5 fun e w6=>∃u,e=.returned u∧w6.ownsRow w5.heap.size 3 1 u (d+1) (ints (cnF (fun t=>(lvA d C A t).length) (d+1)))∧Below w5.heap.size w5 w6):=hcnt
  clear hF hb5 hcnt
  refine hK.out _ _ (HCE.out w5 HB5.out) (fun hHeld=>?_)
  clear hK K
  refine wpAnyH_tk (i:=5) (d:=22) (v:=(.slice (some ⟨g,0,none⟩) (d+1) (d+2))) rfl rfl (by kernel_rfl) (by kernel_rfl) (by kernel_rfl) (fun _ _ _ h=>h) (.inl ⟨by rfl,by (intro wq hSw; (try dsimp only at hSw); go_simp; (try (first | rfl | omega)))⟩) hHeld ?_
  simp only [Act.put,List.setIfInBounds_toArray,List.set_cons_zero,List.set_cons_succ]
  refine wpAnyH_ready (rs:=[6]) (by kernel_rfl) (by simp) ?_
  refine ready_tk (i:=6) rfl (by rfl) (fun K hK=>?_) AllReadyH.nil
  go_simp
  refine HCN.out.mono ?_
  rintro e w6 ⟨u,rfl,ho,hb6⟩
  obtain ⟨uo,uc,hu⟩:=owns_form ho
  subst hu
  have HB6:Hid (Below W3.heap.size W3 w6):=HB5.out.trans (hb6.mono HB5.out.size)
  have HS6:Hid (Sl 0 3 w6 (.slice uo (d+1) uc) (ints (cnF (fun t=>(lvA d C A t).length) (d+1)))):=Sl.own ho
  clear ho hb6
  refine hK.out _ _ (HCE.out w6 HB6.out) (fun hHeld=>?_)
  clear hK K
  refine wpAnyH_ready (rs:=[7]) (by kernel_rfl) (by simp) ?_
  refine ready_tk (i:=7) rfl (by rfl) (fun K hK=>?_) AllReadyH.nil
  go_simp
  refine (HSH.out A uo uc w6 HFA.out HS6.out).mono ?_
  rintro e w7 ⟨u,rfl,ho,hb7⟩
  obtain ⟨xo,xc,hu⟩:=owns_form ho
  subst hu
  have HB7:Hid (Below W3.heap.size W3 w7):=HB6.out.trans (hb7.mono HB6.out.size)
  have HO7:Hid (w7.ownsRow w6.heap.size 3 1 (.slice xo (d+1) xc) (d+1) (ints (hvF (fun t=>((lvA d C A t).length:Int)) (d+1)))):=ho
  clear ho hb7
  refine hK.out _ _ (HCE.out w7 HB7.out) (fun hHeld=>?_)
  clear hK K
  refine wpAnyH_tk (i:=8) (d:=2) (v:=(.slice xo (d+1) xc)) rfl rfl (by kernel_rfl) (by kernel_rfl) (by kernel_rfl) (fun _ _ _ h=>h) (.inl ⟨by rfl,by (intro wq hSw; (try dsimp only at hSw); go_simp; (try (first | rfl | omega)))⟩) hHeld ?_
  simp only [Act.put,List.setIfInBounds_toArray,List.set_cons_zero,List.set_cons_succ]
  refine wpAnyH_tk (i:=9) (d:=3) (v:=(.int .i64 0)) rfl rfl (by kernel_rfl) (by kernel_rfl) (by kernel_rfl) (fun _ _ _ h=>h) (.inl ⟨by rfl,by (intro wq hSw; (try dsimp only at hSw); go_simp; (try (first | rfl | omega)))⟩) hHeld ?_
  simp only [Act.put,List.setIfInBounds_toArray,List.set_cons_zero,List.set_cons_succ]
  refine wpAnyH_done (by kernel_rfl) ?_ _
  clear hHeld
  go_wp2
  go_ret2
  exact ⟨C,s,HF.out,HBF.out w7 HB7.out,Or.inr ⟨HRES.out.symm,_,A,rfl,HFA.out,HO7.out.mono (HBF.out w6 HB6.out).size⟩⟩
end Go.Proofs.YtkfdpcgmpbopnaaGreatDoor
