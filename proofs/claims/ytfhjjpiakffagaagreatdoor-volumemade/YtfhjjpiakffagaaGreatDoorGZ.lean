import Derived.Test.YtfhjjpiakffagaaGreatDoorGB
import Derived.Test.YtfhjjpiakffagaaGreatDoorLtY
import Derived.Test.YtfhjjpiakffagaaGreatDoorGY
namespace Go.Proofs.YtfhjjpiakffagaaGreatDoor
open Go.RowKit Lin
attribute [local go_sem ↓] Go.wp_at_zero Go.wp_at_succ
set_option maxRecDepth 100000 in
set_option maxHeartbeats 1600000 in
theorem told_any (B:Nat) (A:List Nat) (v:Value) (w:World) (hv:Sl B 70 w v (u64s A)) (hA:∀x∈A,x < 1024) (hl:A.length≤5000) (hT:TabB w) :
  Calls Tryz.prog 64 #[v] w fun e w'=>∃u m',e=.returned u∧Fr w.heap.size 22 3 w' u m'∧Inor m' (A.map memL)∧Below w.heap.size w w':=by
 obtain ⟨i0,hi0,hz0,hz1,hz2⟩:=info_parts Tryz.info22
 have hv0:=hv
 obtain ⟨ao,cap,hvv,hlc,hcm,_,_⟩:=hv0
 rw [u64s_len] at hvv hlc
 subst hvv
 have HV:Hid (∀W k,Below w.heap.size w W→k < A.length→∃b o,ao=some ⟨b,o,none⟩∧W.cell? ⟨b,o+k,none⟩=some (.int .u64 ((A.getD k 0:Nat):Int))):=fun W k hb hk=>by
  obtain ⟨ao2,c2,e2,_,_,h5,_⟩:=(hv.below hb (Nat.le_refl _))
  simp only [Value.slice.injEq] at e2
  obtain ⟨b,o,e3,h6,_⟩:=h5 k (by rw [u64s_len]; exact hk)
  refine ⟨b,o,e2.1.trans e3,?_⟩
  rw [h6]
  simp [u64s,hk]
 have HLI:Hid (∀W k,Below w.heap.size w W→k < A.length→Calls Tryz.prog 49 #[.int .u64 ((A.getD k 0:Nat):Int)] W fun e w'=>∃uo uc,e=.returned (.slice uo (memL (A.getD k 0)).length uc)∧Sl 0 3 w' (.slice uo (memL (A.getD k 0)).length uc) (ints (memL (A.getD k 0)))∧Below W.heap.size W w'):=fun W k hb hk=>by
  refine (list10_any (A.getD k 0) (hA _ (by simp [hk])) W (hT.below hb)).mono ?_
  rintro e w' ⟨u,rfl,h1,h2⟩
  obtain ⟨uo,uc,rfl⟩:=owns_form h1
  exact ⟨uo,uc,rfl,Sl.own h1,h2⟩
 have HTK:Hid (∀k,k < A.length→(A.take (k+1)).map memL=(A.take k).map memL ++ [memL (A.getD k 0)]):=fun k hk=>by
  rw [List.take_succ_eq_append_getElem hk,List.map_append]
  simp [hk]
 have HAL:Hid ((A.take A.length).map memL=A.map memL):=by show _=_; rw [List.take_length]
 clear hv hT hA
 go_enter Tryz.func64,Tryz.ntmps64
 go_wp2
 go_loopw [3,5,8] (fun x _ i wr=>∃k:Nat,k≤A.length∧i=.int .i64 (k:Int)∧Fr w.heap.size 22 3 wr x ((A.take k).map memL)∧Below w.heap.size w wr) (fun _ _ i _=>A.length-(intOf i).toNat)
 case atStart=>exact ⟨0,Nat.zero_le _,rfl,⟨[],rfl,World.ownsRow_nil _ _ _ _,fun i hi=>by simp at hi⟩,Below.refl _ _⟩
 case round=>
  obtain ⟨k,hk,rfl,hf,hb⟩:=hrel
  obtain ⟨wa,rfl⟩:∃wa,wa=wr:=⟨wr,rfl⟩
  have HB:Hid (Below w.heap.size w wa):=hb
  have hkl:((A.take k).map memL).length=k:=by simp; omega
  have hform:=fr_open hf
  rw [hkl] at hform
  obtain ⟨xo,xc,hx,_,_⟩:=hform
  subst hx
  have HF:Hid (Fr w.heap.size 22 3 wa (.slice xo k xc) ((A.take k).map memL)):=hf
  have HKL:Hid (((A.take k).map memL).length=k):=hkl
  clear hf hb hkl
  by_cases hlt:k < A.length
  ·obtain ⟨b,o,hao,hcc⟩:=HV.out wa k HB.out hlt
   have H2:=HLI.out wa k HB.out hlt
   have hT2:=HTK.out k hlt
   have HT2:Hid ((A.take (k+1)).map memL=(A.take k).map memL ++ [memL (A.getD k 0)]):=hT2
   have hkI:(k:Int) < (A.length:Int):=by omega
   subst hao
   clear HV HLI hT2 HTK HAL
   generalize A.getD k 0=x at *
   go_wp2_with fail
   refine H2.mono ?_
   rintro e w2 ⟨uo,uc,rfl,hu,hb2⟩
   obtain ⟨vs,f1,f2,f3⟩:=HF.out.below hb2 (Nat.le_refl _)
   rw [HKL.out] at f1 f2
   have HO:Hid (w2.ownsRow w.heap.size 22 1 (.slice xo k xc) k vs):=f2
   have HB2:Hid (Below w.heap.size w w2):=HB.out.trans (hb2.mono HB.out.size)
   have HPU:Hid (∀v' w3,w3.ownsRow w.heap.size 22 1 v' (k+1) (vs ++ [.slice uo (memL x).length uc])→(w2.alloc (.cells #[.slice uo (memL x).length uc] 22)).grownBy w3 (Value.slice xo k xc).ownBlock→Fr w.heap.size 22 3 w3 v' ((A.take (k+1)).map memL)):=fun v' w3 ho hg=>by
    rw [HT2.out]
    exact Fr.push (m:=(A.take k).map memL) (by decide) (by rw [HKL.out]; exact f1) (by rw [HKL.out]; exact f2.alloc _) (fun i hi=>(f3 i hi).alloc _) (hu.alloc _) (by rw [HKL.out]; exact ho) hg
   have hsz:w.heap.size≤w2.heap.size:=HB2.out.size
   clear f1 f2 f3 hu hb2 H2 hcc HT2 HF
   generalize (memL x).length=ml at *
   go_wp2_with (first | (at_builtin; refine wpList_append_own _ rfl _ _ 24 rfl w.heap.size 22 i0 (.slice none 0 0) 1 24 Tryz.underlying24 hi0 hz0 hz1 hz2 rfl (by decide) _ _ _ rfl (HO.out.alloc _) ⟨w2.heap.size,0,none⟩ 1 1 [.slice uo ml uc] rfl rfl (one_new _ _ _) (one_slice _ _ _) ?c3 ?c4 ?c5 ?_))
   case c3=>unfold maxLen; omega
   case c4=>omega
   case c5=>simp; omega
   intro v' w3 ho hg _
   have HNX:Hid (Fr w.heap.size 22 3 w3 v' ((A.take (k+1)).map memL)):=HPU.out v' w3 ho hg
   have HB3:Hid (Below w.heap.size w w3):=(HB2.out.alloc hsz _).grown hg (by simp; omega) (fun y hy=>(HO.out.lt y hy).1)
   clear ho hg
   go_wp2
   go_roundw
   case rel=>exact ⟨k+1,by omega,by go_num,HNX.out,HB3.out⟩
   case measure=>simp [intOf]; omega
  ·have hke:k=A.length:=by omega
   subst hke
   have HIO:Hid (Calls Tryz.prog 50 #[.slice xo A.length xc] wa fun e w'=>∃u m',e=.returned u∧Fr w.heap.size 22 3 w' u m'∧Inor m' (A.map memL)∧Below w.heap.size wa w'):=by
    have:=inOrder_any w.heap.size ((A.take A.length).map memL) (.slice xo A.length xc) wa HF.out (by rw [HKL.out]; omega)
    rw [HAL.out] at this
    exact this
   clear HV HLI HTK HAL HF HKL
   go_wp2_with fail
   refine HIO.out.mono ?_
   rintro e w4 ⟨u,m',rfl,h1,h2,h3⟩
   have HR:Hid (Fr w.heap.size 22 3 w4 u m'∧Inor m' (A.map memL)∧Below w.heap.size w w4):=⟨h1,h2,HB.out.trans h3⟩
   clear h1 h2 h3
   go_wp2
   go_ret
   exact ⟨u,m',rfl,HR.out⟩
end Go.Proofs.YtfhjjpiakffagaaGreatDoor
namespace Go.Proofs.YtfhjjpiakffagaaGreatDoor
open Go.RowKit Lin
structure Fnd (d:Nat) (P C s:List (List Int)) (A:List Nat):Prop where
 ok:FcC d C s
 doc:∀s0 c,(∀r,r∈s0↔r∈rowsD P d)→SAsc c→(∀y,y∈c↔y∈crn d s0 P)→C=c
 n10:C.length≤10
 nd:A.Nodup
 lt:∀a∈A,a < 1024
 itr:∀a,a∈A↔Itr C.length (s.map (sdN C)) a
structure FndS (d:Nat) (P C s:List (List Int)):Prop where
 ok:FcC d C s
 doc:∀s0 c,(∀r,r∈s0↔r∈rowsD P d)→SAsc c→(∀y,y∈c↔y∈crn d s0 P)→C=c
 n10:C.length≤10
structure DocF (d:Nat) (P C s:List (List Int)) (A:List Nat):Prop where
 crn:SAsc C∧∃s0,(∀r,r∈s0↔r∈rowsD P d)∧∀y,y∈C↔y∈crn d s0 P
 rows:SAsc s∧∀r,r∈s↔r∈rowsD C d
 all:Clo C.length (s.map (sdN C)) A A.length
theorem Lat.docF {B d:Nat} {P:List (List Int)} {w:World} {x:Value} {C s:List (List Int)} {A:List Nat} (h:Lat B d P w x C s A):DocF d P C s A:=⟨h.crn,h.rows,h.all⟩
theorem memL_inj10 {a b:Nat} (ha:a < 1024) (hb:b < 1024) (h:memL a=memL b):a=b:=by
 have e1:=setN_mem10 a ha
 have e2:=setN_mem10 b hb
 rw [mem10_L ha] at e1
 rw [mem10_L hb] at e2
 rw [←e1,←e2,h]
theorem FndS.same {d:Nat} {P C s C' s':List (List Int)} {A':List Nat} (h:FndS d P C s) (hD:DocF d P C' s' A'):C'=C∧s'=s:=by
 obtain ⟨h1,s0,h2,h3⟩:=hD.crn
 have hC:=h.doc s0 C' h2 h1 h3
 subst hC
 refine ⟨rfl,sasc_ext s' s hD.rows.1 h.ok.srt fun r=>?_⟩
 rw [hD.rows.2 r,mem_rowsD,h.ok.rows r]
theorem Fnd.toS {d:Nat} {P C s:List (List Int)} {A:List Nat} (h:Fnd d P C s A):FndS d P C s:=⟨h.ok,h.doc,h.n10⟩
theorem DocF.mem {d:Nat} {P C s:List (List Int)} {A:List Nat} (h:DocF d P C s A) (a:Nat):a∈A↔Itr C.length (s.map (sdN C)) a:=clo_iff h.all
theorem DocF.lt10 {d:Nat} {P C s:List (List Int)} {A:List Nat} (h:DocF d P C s A) (hn:C.length≤10) {a:Nat} (ha:a∈A):a < 1024:=
 Nat.lt_of_lt_of_le (h.all.lt a ha) (Nat.le_trans (Nat.pow_le_pow_right (by decide) hn) (by decide))
theorem nodup_same {l m:List (List Int)} (hl:l.Nodup) (hm:m.Nodup) (h:∀r,r∈l↔r∈m):l.Perm m:=by
 rw [List.perm_iff_count]
 intro a
 rw [hl.count,hm.count]
 by_cases e:a∈l
 ·simp [e,(h a).1 e]
 ·have e2:¬a∈m:=fun k=>e ((h a).2 k)
  simp [e,e2]
theorem Fnd.levm {d:Nat} {P C s:List (List Int)} {A A':List Nat} (h:Fnd d P C s A) (hD:DocF d P C s A') {t:Nat} {lev:List (List Int)} (hl:LevOk d C A' t lev) (r:List Int):r∈lev↔r∈(lvA d C A t).map memL:=by
 rw [hl.2 r,List.mem_map]
 unfold lvA
 constructor
 ·rintro ⟨a,ha,h1,rfl⟩
  refine ⟨a,List.mem_filter.2 ⟨(h.itr a).2 ((hD.mem a).1 ha),?_⟩,rfl⟩
  simp only [decide_eq_true_eq]
  omega
 ·rintro ⟨a,ha,rfl⟩
  obtain ⟨h1,h2⟩:=List.mem_filter.1 ha
  simp only [decide_eq_true_eq] at h2
  exact ⟨a,(hD.mem a).2 ((h.itr a).1 h1),by omega,rfl⟩
theorem Fnd.lev {d:Nat} {P C s:List (List Int)} {A A':List Nat} (h:Fnd d P C s A) (hD:DocF d P C s A') {t:Nat} {lev m:List (List Int)} (hl:LevOk d C A' t lev) (hm:Inor m ((lvA d C A t).map memL)):m=lev:=by
 refine sasc_ext m lev hm.asc hl.1 fun r=>?_
 rw [hm.mem r]
 exact (h.levm hD hl r).symm
theorem doc_sides {d:Nat} {P C s:List (List Int)} {A':List Nat} (h:FndS d P C s) (hD:DocF d P C s A') {lev:List (List Int)} (hl:LevOk d C A' d lev):lev.Perm ((s.map (sdN C)).map memL):=by
 have hlt:∀r,sdN C r < 1024:=fun r=>Nat.lt_of_lt_of_le (sdTo_lt C r C.length) (Nat.le_trans (Nat.pow_le_pow_right (by decide) h.n10) (by decide))
 have hnd:((s.map (sdN C)).map memL).Nodup:=by
  rw [List.map_map,List.nodup_iff_pairwise_ne,List.pairwise_map]
  exact (List.Pairwise.and_mem.1 (List.nodup_iff_pairwise_ne.1 (sasc_nodup h.ok.srt))).imp fun {a b} ⟨ha,hb,hne⟩ e=>hne (side_inj h.ok ha hb (memL_inj10 (hlt a) (hlt b) e))
 refine nodup_same (sasc_nodup hl.1) hnd fun r=>?_
 rw [hl.2 r]
 simp only [List.mem_map]
 constructor
 ·rintro ⟨a,ha,h1,rfl⟩
  obtain ⟨q,hq,rfl⟩:=face_side h.ok ((hD.mem a).1 ha) h1
  exact ⟨_,⟨q,hq,rfl⟩,rfl⟩
 ·rintro ⟨_,⟨q,hq,rfl⟩,rfl⟩
  obtain ⟨h1,h2⟩:=side_dim h.ok hq
  exact ⟨_,(hD.mem _).2 h1,h2,rfl⟩
theorem doc_verts {d:Nat} {P C s:List (List Int)} {A':List Nat} (h:FndS d P C s) (hD:DocF d P C s A') {lev:List (List Int)} (hl:LevOk d C A' 1 lev):lev.length=C.length:=by
 have hn:=h.n10
 have hnd:((List.range C.length).map fun k:Nat=>[(k:Int)]).Nodup:=by
  rw [List.nodup_iff_pairwise_ne,List.pairwise_map]
  exact (List.nodup_iff_pairwise_ne.1 List.nodup_range).imp fun {a b} hne e=>hne (by simp only [List.cons.injEq,and_true] at e; omega)
 have:=(nodup_same (sasc_nodup hl.1) hnd fun r=>by
  rw [hl.2 r]
  simp only [List.mem_map,List.mem_range]
  constructor
  ·rintro ⟨a,ha,h1,rfl⟩
   obtain ⟨k,hk,rfl⟩:=vert_of h.ok (hD.all.lt a ha) (by omega)
   exact ⟨k,hk,(memL_one (by omega)).symm⟩
  ·rintro ⟨k,hk,rfl⟩
   exact ⟨2 ^ k,(hD.mem _).2 (vert_itr h.ok hk),by rw [vert_dim (by omega)]; rfl,(memL_one (by omega)).symm⟩).length_eq
 simpa using this
end Go.Proofs.YtfhjjpiakffagaaGreatDoor
namespace Go.Proofs.YtfhjjpiakffagaaGreatDoor
open Go.RowKit Lin
attribute [local go_sem ↓] Go.wp_at_zero Go.wp_at_succ
structure BodW (w:World) (d:Nat) (P C s:List (List Int)) (S:List Nat) (co:Option Addr) (cc:Nat) (so:Option Addr) (sc:Nat) (w':World):Prop where
 cns:∀X,Below w'.heap.size w' X→Mat X.heap.size 22 3 X (.slice co C.length cc) C
 sds:∀X,Below w'.heap.size w' X→Sl X.heap.size 70 X (.slice so S.length sc) (u64s S)
 tab:∀X,Below w'.heap.size w' X→TabB X
 se:S=s.map (sdN C)
 n10:C.length≤10
 lt:∀t∈S,t < 2 ^ C.length
 lt10:∀t∈S,t < 1024
 sl:S.length≤5000
 ok:FcC d C s
 doc:∀s0 c,(∀r,r∈s0↔r∈rowsD P d)→SAsc c→(∀y,y∈c↔y∈crn d s0 P)→C=c
 bel:Below w.heap.size w w'
theorem bodW_any (d:Nat) (P:List (List Int)) (v:Value) (w:World) (hv:Mat w.heap.size 22 3 w v P) (hg:Good d P) (hn:P.length≤10) (hT:TabB w) :
  Calls Tryz.prog 62 #[.agg #[.int .i64 d,v]] w fun e w'=>∃C s S co cc ro rl rc so sc,e=.returned (.tuple #[.agg #[.int .i64 d,.slice co C.length cc,.slice ro rl rc,.slice so S.length sc],.int .i64 0])∧BodW w d P C s S co cc so sc w':=by
 refine (bodyOf_any d P v w hv hg (by omega)).mono ?_
 rintro e w' ⟨C,s,co,cc,ro,rc,so,sc,rfl,h⟩
 have hn10:C.length≤10:=Nat.le_trans h.len hn
 have hlt:∀t∈s.map (sdN C),t < 2 ^ C.length:=fun t ht=>by
  obtain ⟨r,_,rfl⟩:=List.mem_map.1 ht
  exact sdTo_lt C r C.length
 have hlt10:∀t∈s.map (sdN C),t < 1024:=fun t ht=>Nat.lt_of_lt_of_le (hlt t ht) (Nat.le_trans (Nat.pow_le_pow_right (by decide) hn10) (by decide))
 have hsl:(s.map (sdN C)).length≤1024:=by
  have:=nodup_len (s.map (sdN C)) (List.range 1024) h.ok.nod fun x hx=>List.mem_range.2 (hlt10 x hx)
  simpa using this
 refine ⟨C,s,s.map (sdN C),co,cc,ro,s.length,rc,so,sc,by rw [List.length_map],fun X hX=>(h.cns.below hX (Nat.le_refl _)).more (Nat.zero_le _),fun X hX=>?_,fun X hX=>(hT.below h.bel).below hX,rfl,hn10,hlt,hlt10,by omega,h.ok,h.doc,h.bel⟩
 rw [List.length_map]
 have:=Sl.own (B:=0) (owns_below h.sds hX (Nat.le_refl _))
 exact this.more (Nat.zero_le _)
theorem levW_any {w:World} {d:Nat} {P C s:List (List Int)} {S:List Nat} {co:Option Addr} {cc:Nat} {so:Option Addr} {sc:Nat} {w':World} (h:BodW w d P C s S co cc so sc w') (rv:Value) (X:World) (hX:Below w'.heap.size w' X) :
  Calls Tryz.prog 63 #[.agg #[.int .i64 d,.slice co C.length cc,rv,.slice so S.length sc]] X fun e w2=>∃(A:List Nat) (g:Nat) (vs:List Value),e=.returned (.slice (some ⟨g,0,none⟩) (d+2) (d+2))∧Fnd d P C s A∧w2.heap[g]?=some (.cells vs.toArray 67 (0,0))∧vs.length=d+2∧(∀t,t < d+2→∃ao cp,vs.getD t undef=.slice ao (lvA d C A t).length cp∧Sl 0 70 w2 (.slice ao (lvA d C A t).length cp) (u64s (lvA d C A t)))∧Below X.heap.size X w2:=by
 refine (levels_any d C co cc rv so sc S X (h.cns X hX) h.ok.g.box h.ok.g.d1 h.ok.g.d4 h.n10 (h.tab X hX) (h.sds X hX) h.lt10 h.sl).mono ?_
 rintro e w2 ⟨rfl,A,hW,hP⟩
 obtain ⟨vs,r1,r2,r3,_⟩:=hW.i.ro
 refine ⟨A,X.heap.size+1,vs,rfl,⟨h.ok,h.doc,h.n10,hW.nd,hW.lt,fun a=>?_⟩,r2,r1,fun t ht=>?_,hW.i.bel⟩
 ·rw [←h.se]
  exact see_all hP
 ·obtain ⟨ao,cp,e⟩:=owns_form (r3 t ht)
  refine ⟨ao,cp,e,?_⟩
  rw [←e]
  exact Sl.own (r3 t ht)
end Go.Proofs.YtfhjjpiakffagaaGreatDoor
namespace Go.Proofs.YtfhjjpiakffagaaGreatDoor
open Go.RowKit Lin
attribute [local go_sem ↓] Go.wp_at_zero Go.wp_at_succ
set_option maxRecDepth 100000 in
set_option maxHeartbeats 1600000 in
theorem latticeP_any (d:Nat) (P:List (List Int)) (v:Value) (w:World) (hv:Mat w.heap.size 22 3 w v P) (hg:Good d P) (hn:P.length≤10) (hT:TabB w) :
  Calls Tryz.prog 46 #[.agg #[.int .i64 d,v]] w fun e w'=>∃u C s A,e=.returned (.tuple #[u,.int .i64 0])∧Fnd d P C s A∧Lvs w.heap.size w' u (d+2) (fun t m=>Inor m ((lvA d C A t).map memL))∧Below w.heap.size w w':=by
 obtain ⟨i2,hi2,hz20,hz21,hz22⟩:=info_parts Tryz.info24
 obtain ⟨po,pc,rfl,hlc,hcm⟩:=mat_open hv
 have h1:=hg.d1
 have h4:=hg.d4
 obtain ⟨W,hW⟩:∃W,W=w.alloc (.cells #[.int .i64 d,.slice po P.length pc] 26):=⟨_,rfl⟩
 have hbw:Below w.heap.size w W:=by rw [hW]; exact alloc_keep _ _
 have HW:Hid (Below w.heap.size w W):=hbw
 have hsW:W.heap.size=w.heap.size+1:=by rw [hW]; exact size_alloc _ _
 have c0:W.cell? ⟨w.heap.size,0,none⟩=some (.int .i64 d):=by rw [hW]; simp
 have c1:W.cell? ⟨w.heap.size,1,none⟩=some (.slice po P.length pc):=by rw [hW]; simp
 have HBO:=bodW_any d P (.slice po P.length pc) W ((hv.below hbw (Nat.le_refl _)).any (Nat.le_refl _)) hg hn (hT.below hbw)
 have HTB:Hid (∀X,Below w.heap.size w X→TabB X):=fun X hX=>hT.below hX
 clear hv hg hT hbw
 go_enter Tryz.func46,Tryz.ntmps46
 go_wp2_with fail
 rw [←hW]
 clear hW
 refine HBO.mono ?_
 rintro e w2 ⟨C,s,S,co,cc,ro,rl,rc,so,sc,rfl,hB⟩
 have HB:Hid (BodW W d P C s S co cc so sc w2):=hB
 clear HBO hB c0 c1
 obtain ⟨W3,hW3⟩:∃W3,W3=w2.alloc (.cells #[.int .i64 d,.slice co C.length cc,.slice ro rl rc,.slice so S.length sc] 78):=⟨_,rfl⟩
 have HB3:Hid (Below w2.heap.size w2 W3):=by rw [hW3]; exact alloc_keep _ _
 have HLV:=levW_any HB.out (.slice ro rl rc) W3 HB3.out
 rw [hW3] at HLV HB3
 go_wp2_with fail
 refine HLV.mono ?_
 rintro e w4 ⟨A,g,vs,rfl,hF,hg4,hvl,hvs,hb4⟩
 have HF:Hid (Fnd d P C s A):=hF
 have HB4:Hid (Below w.heap.size w w4):=HW.out.trans ((HB.out.bel.trans ((HB3.out.trans (hb4.mono HB3.out.size)).mono HB.out.bel.size)).mono (by omega))
 have HFC:Hid (∀X t,Below w4.heap.size w4 X→t < d+2→∃ao cp ll,X.cell? ⟨g,t,none⟩=some (.slice ao ll cp)∧Calls Tryz.prog 64 #[.slice ao ll cp] X fun e w'=>∃u m,e=.returned u∧Fr X.heap.size 22 3 w' u m∧Inor m ((lvA d C A t).map memL)∧Below X.heap.size X w'):=fun X t hX ht=>by
  obtain ⟨ao,cp,e2,hs2⟩:=hvs t ht
  refine ⟨ao,cp,(lvA d C A t).length,?_,told_any 0 (lvA d C A t) (.slice ao (lvA d C A t).length cp) X (hs2.below hX (Nat.le_refl _)) (fun x hx=>hF.lt x (List.mem_filter.1 hx).1) ?_ (HTB.out X (HB4.out.trans (hX.mono HB4.out.size)))⟩
  ·rw [←e2]
   have h0:=(hX.block g (lt_of_block hg4)).trans hg4
   simp [World.cell?,h0,show t < vs.length by omega]
  ·have h5:=lvA_len d C A t
   have h6:=nodup_len A (List.range 1024) hF.nd fun x hx=>List.mem_range.2 (hF.lt x hx)
   rw [List.length_range] at h6
   omega
 clear HLV hF hg4 hvl hvs hb4 hW3 HB3 HTB
 go_wp2
 go_loopw [6,8,20] (fun x _ i wr=>∃k:Nat,k≤d+2∧i=.int .i64 (k:Int)∧Lvs w4.heap.size wr x k (fun t m=>Inor m ((lvA d C A t).map memL))∧Below w4.heap.size w4 wr) (fun _ _ i _=>d+2-(intOf i).toNat)
 case atStart=>exact ⟨0,Nat.zero_le _,rfl,Lvs.nil _ _ _,Below.refl _ _⟩
 case round=>
  obtain ⟨k,hk,rfl,hL,hb⟩:=hrel
  have HBR:Hid (Below w4.heap.size w4 wr):=hb
  obtain ⟨us,u1,u2,u3⟩:=hL.rows
  obtain ⟨xo,xc,hx⟩:=owns_form u2
  subst hx
  have HL:Hid (Lvs w4.heap.size wr (.slice xo k xc) k (fun t m=>Inor m ((lvA d C A t).map memL))):=hL
  clear hb u1 u2 u3 hL
  by_cases hlt:k < d+2
  ·obtain ⟨ao,cp,ll,hc,hto⟩:=HFC.out wr k HBR.out hlt
   have hkI:(k:Int) < (d:Int)+2:=by omega
   clear HFC
   go_wp2_with fail
   refine hto.mono ?_
   rintro e w5 ⟨u,m,rfl,hfr,hin,hb5⟩
   obtain ⟨uo,uc,hu,_,_⟩:=fr_open hfr
   subst hu
   obtain ⟨vs2,v1,v2,v3⟩:=(HL.out.below hb5 (Nat.le_refl _)).rows
   have HO:Hid (w5.ownsRow w4.heap.size 24 1 (.slice xo k xc) k vs2):=v2
   have HB5:Hid (Below w4.heap.size w4 w5):=HBR.out.trans (hb5.mono HBR.out.size)
   have HPU:Hid (∀v' w6,w6.ownsRow w4.heap.size 24 1 v' (k+1) (vs2 ++ [.slice uo m.length uc])→(w5.alloc (.cells #[.slice uo m.length uc] 24)).grownBy w6 (Value.slice xo k xc).ownBlock→Lvs w4.heap.size w6 v' (k+1) (fun t m=>Inor m ((lvA d C A t).map memL))):=fun v' w6 ho hg=>
    Lvs.push v1 (v2.alloc _) (fun t ht=>by
     obtain ⟨lev,g1,g2⟩:=v3 t ht
     exact ⟨lev,g1.alloc _,g2⟩) ((hfr.mono HBR.out.size).alloc _) hin ho hg
   have hsz:w4.heap.size≤w5.heap.size:=HB5.out.size
   clear v1 v2 v3 hfr hin hb5 hto hc HL
   generalize m.length=ml at *
   go_wp2_with (first | (at_builtin; refine wpList_append_own _ rfl _ _ 39 rfl w4.heap.size 24 i2 (.slice none 0 0) 1 24 Tryz.underlying39 hi2 hz20 hz21 hz22 rfl (by decide) _ _ _ rfl (HO.out.alloc _) ⟨w5.heap.size,0,none⟩ 1 1 [.slice uo ml uc] rfl rfl (one_new _ _ _) (one_slice _ _ _) ?d3 ?d4 ?d5 ?_))
   case d3=>unfold maxLen; omega
   case d4=>omega
   case d5=>simp; omega
   intro v' w6 ho hg _
   have HNX:Hid (Lvs w4.heap.size w6 v' (k+1) (fun t m=>Inor m ((lvA d C A t).map memL))):=HPU.out v' w6 ho hg
   have HB6:Hid (Below w4.heap.size w4 w6):=(HB5.out.alloc hsz _).grown hg (by simp; omega) (fun y hy=>(HO.out.lt y hy).1)
   clear ho hg
   go_wp2
   go_roundw
   case rel=>exact ⟨k+1,by omega,by go_num,HNX.out,HB6.out⟩
   case measure=>simp [intOf]; omega
  ·have hke:k=d+2:=by omega
   subst hke
   have HRR:Hid (Lvs w.heap.size wr (.slice xo (d+2) xc) (d+2) (fun t m=>Inor m ((lvA d C A t).map memL))∧Below w.heap.size w wr):=⟨HL.out.mono HB4.out.size,HB4.out.trans (HBR.out.mono HB4.out.size)⟩
   clear HFC HL
   go_wp2
   go_ret2
   exact ⟨_,C,s,A,rfl,HF.out,HRR.out.1,HRR.out.2⟩
end Go.Proofs.YtfhjjpiakffagaaGreatDoor
namespace Go.Proofs.YtfhjjpiakffagaaGreatDoor
open Go.RowKit Lin
attribute [local go_sem ↓] Go.wp_at_zero Go.wp_at_succ
structure LvV (w:World) (x:Value) (j:Nat) (LV:Nat→List (List Int)):Prop where
 rows:∃ao cap,x=.slice ao j cap∧∀X t,Below w.heap.size w X→t < j→∃b o ro rc,ao=some ⟨b,o,none⟩∧X.cell? ⟨b,o+t,none⟩=some (.slice ro (LV t).length rc)∧Mat X.heap.size 22 3 X (.slice ro (LV t).length rc) (LV t)
theorem Lvs.named {B:Nat} {w:World} {x:Value} {j:Nat} {ok:Nat→List (List Int)→Prop} (h:Lvs B w x j ok):∃LV,LvV w x j LV∧∀t,t < j→ok t (LV t):=by
 obtain ⟨vs,h1,h2,h3⟩:=h.rows
 have hch:∃LV:Nat→List (List Int),∀t,t < j→Fr B 22 3 w (vs.getD t (.slice none 0 0)) (LV t)∧ok t (LV t):=by
  refine ⟨fun t=>if ht:t < j then Classical.choose (h3 t ht) else [],fun t ht=>?_⟩
  simp only [ht,dif_pos]
  exact Classical.choose_spec (h3 t ht)
 obtain ⟨LV,hLV⟩:=hch
 obtain ⟨ao,cap,hx⟩:=owns_form h2
 refine ⟨LV,⟨ao,cap,hx,fun X t hX ht=>?_⟩,fun t ht=>(hLV t ht).2⟩
 obtain ⟨ao2,cap2,hx2,_,_,h5,_⟩:=Sl.own (B:=0) h2
 rw [hx] at hx2
 simp only [Value.slice.injEq] at hx2
 obtain ⟨rfl,_,rfl⟩:=hx2
 obtain ⟨b,o,hb,hc,_⟩:=h5 t (by omega)
 have hm:Mat 0 22 3 w (vs.getD t (.slice none 0 0)) (LV t):=by
  obtain ⟨us,u1,u2,u3⟩:=(hLV t ht).1
  exact ⟨us,u1,Sl.own u2,u3⟩
 obtain ⟨ro,rc,hv,_,_⟩:=mat_open hm
 refine ⟨b,o,ro,rc,hb,?_,?_⟩
 ·rw [←hv]
  have e:vs[t]?=some (vs.getD t (.slice none 0 0)):=by simp [show t < vs.length by omega]
  rw [e] at hc
  have hbl:=lt_of_cell hc
  exact (hX.cell hbl).trans hc
 ·rw [←hv]
  exact (hm.below hX (Nat.le_refl _)).more (Nat.zero_le _)
theorem LvV.low {w w2:World} {x:Value} {j:Nat} {LV:Nat→List (List Int)} (h:LvV w x j LV) (hb:Below w.heap.size w w2):LvV w2 x j LV:=by
 obtain ⟨ao,cap,hx,h1⟩:=h.rows
 exact ⟨ao,cap,hx,fun X t hX ht=>h1 X t (hb.trans (hX.mono hb.size)) ht⟩
end Go.Proofs.YtfhjjpiakffagaaGreatDoor
namespace Go.Proofs.YtfhjjpiakffagaaGreatDoor
open Go.RowKit Lin
attribute [local go_sem ↓] Go.wp_at_zero Go.wp_at_succ
set_option maxRecDepth 100000 in
theorem listsF_same (B:Nat) (x:List (List Int)) (u v:Value) (w:World) (hu:Mat B 22 3 w u x) (hv:Mat B 22 3 w v x) :
  Calls Tryz.prog 23 #[u,.int .i64 0,v,.int .i64 0] w fun x w'=>x=.returned (.bool true)∧Below w.heap.size w w':=by
 obtain ⟨uo,uc,rfl,_,_⟩:=mat_open hu
 obtain ⟨vo,vc,rfl,_,_⟩:=mat_open hv
 have HS:Hid (Calls Tryz.prog 51 #[.slice uo x.length uc,.slice vo x.length vc] w fun e w'=>e=.returned (.bool true)∧Below w.heap.size w w'):=by
  refine (sameAll_any B x x _ _ w hu hv).mono ?_
  rintro e w' ⟨rfl,n,rfl⟩
  exact ⟨by simp,below_drewN (Below.refl _ _) n⟩
 clear hu hv
 go_enter Tryz.func23,Tryz.ntmps23
 go_wp2_with fail
 refine HS.out.mono ?_
 rintro e w' ⟨rfl,hb⟩
 have HB:Hid (Below w.heap.size w w'):=hb
 clear hb
 go_wp2
 go_ret
 exact ⟨rfl,HB.out⟩
end Go.Proofs.YtfhjjpiakffagaaGreatDoor
namespace Go.Proofs.YtfhjjpiakffagaaGreatDoor
open Lin
def fstO (order face:List Int):Int:=(order.find? fun x=>decide (x∈face)).getD (-1)
def tkB (order face g:List Int):Bool:=!decide (fstO order face∈g) && decide (setN g &&& setN face=setN g)
def pulD (LV:Nat→List (List Int)) (order:List Int):Nat→List Int→List (List Int)
 | 0,_=>[]
 | 1,face=>[face]
 | t+2,face=>(LV (t+1)).flatMap fun g=>if tkB order face g then (pulD LV order (t+1) g).map fun c=>c ++ [fstO order face] else []
def pulS (LV:Nat→List (List Int)) (order:List Int):Nat→List Int→List Nat
 | 0,_=>[]
 | 1,face=>[setN face]
 | t+2,face=>(LV (t+1)).flatMap fun g=>if tkB order face g then (pulS LV order (t+1) g).map fun c=>2 ^ (fstO order face).toNat ||| c else []
theorem pul_same (LV:Nat→List (List Int)) (order:List Int):∀t face,pulS LV order t face=(pulD LV order t face).map setN
 | 0,_=>rfl
 | 1,_=>rfl
 | t+2,face=>by
  unfold pulS pulD
  rw [List.map_flatMap]
  refine congrArg (fun f=>(LV (t+1)).flatMap f) (funext fun g=>?_)
  by_cases h:tkB order face g
  ·simp only [h,if_true]
   rw [pul_same LV order (t+1) g,List.map_map,List.map_map]
   refine List.map_congr_left fun c _=>?_
   simp only [Function.comp]
   rw [setN_app,Nat.or_comm]
  ·simp [h]
theorem flat_len {α β:Type} (f:α→List β) (M:Nat):∀l:List α,(∀a∈l,(f a).length≤M)→(l.flatMap f).length≤l.length*M
 | [],_=>by simp
 | a :: l,h=>by
  rw [List.flatMap_cons,List.length_append,List.length_cons,Nat.add_mul]
  have h1:=h a (by simp)
  have h2:=flat_len f M l fun b hb=>h b (by simp [hb])
  omega
theorem pulD_len (LV:Nat→List (List Int)) (order:List Int) (hl:∀t,(LV t).length≤1024):∀t face,(pulD LV order (t+1) face).length≤1024 ^ t
 | 0,_=>by simp [pulD]
 | t+1,face=>by
  unfold pulD
  refine Nat.le_trans (flat_len _ (1024 ^ t) _ fun g _=>?_) ?_
  ·split
   ·rw [List.length_map]; exact pulD_len LV order hl t g
   ·simp
  ·rw [Nat.pow_succ,Nat.mul_comm (1024 ^ t)]
   exact Nat.mul_le_mul_right _ (hl (t+1))
theorem fstO_mem {order face:List Int} (h:∃x∈order,x∈face):fstO order face∈order∧fstO order face∈face:=by
 unfold fstO
 obtain ⟨x,h1,h2⟩:=h
 cases hf:order.find? fun x=>decide (x∈face) with
 | none=>
  have:=List.find?_eq_none.1 hf x h1
  simp [h2] at this
 | some y=>
  have e1:=List.mem_of_find?_eq_some hf
  have e2:=List.find?_some hf
  exact ⟨e1,by simpa using e2⟩
theorem fstO_take {order face:List Int} {k:Nat} (hk:k < order.length) (hno:∀x∈order.take k,x∉face) (hin:order.getD k 0∈face):fstO order face=order.getD k 0:=by
 have e:order.getD k 0=order[k]:=by simp [hk]
 rw [e] at hin ⊢
 unfold fstO
 have h:order.find? (fun x=>decide (x∈face))=some order[k]:=by
  rw [List.find?_eq_some_iff_append]
  refine ⟨by simpa using hin,order.take k,order.drop (k+1),?_,fun a ha=>by simpa using hno a ha⟩
  rw [List.getElem_cons_drop,List.take_append_drop]
 rw [h]
 rfl
structure LvO (LV:Nat→List (List Int)) (order:List Int) (n:Nat):Prop where
 len:∀t,(LV t).length≤1024
 row:∀t,∀g∈LV t,g.length≤10∧∀x∈g,0≤x∧x < (n:Int)
 ord:∀x∈order,0≤x∧x < (n:Int)
 has:∀t,∀g∈LV (t+1),∃x∈order,x∈g
 olen:order.length≤10
theorem pulD_mem {LV:Nat→List (List Int)} {order:List Int} {n:Nat} (h:LvO LV order n):∀t,∀face∈LV (t+1),∀c∈pulD LV order (t+1) face,c.length≤10+t∧∀x∈c,0≤x∧x < (n:Int)
 | 0,face,hf=>fun c hc=>by
  simp only [pulD,List.mem_singleton] at hc
  subst hc
  exact h.row 1 c hf
 | t+1,face,hf=>fun c hc=>by
  unfold pulD at hc
  obtain ⟨g,hg,hc⟩:=List.mem_flatMap.1 hc
  split at hc
  ·obtain ⟨c',hc',rfl⟩:=List.mem_map.1 hc
   obtain ⟨h1,h2⟩:=pulD_mem h t g hg c' hc'
   have h3:=h.ord _ (fstO_mem (h.has (t+1) face hf)).1
   refine ⟨by rw [List.length_append]; simp; omega,fun x hx=>?_⟩
   rcases List.mem_append.1 hx with hx | hx
   ·exact h2 x hx
   ·simp at hx; subst hx; exact h3
  ·simp at hc
end Go.Proofs.YtfhjjpiakffagaaGreatDoor
