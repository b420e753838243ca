import Derived.Test.YtkfdpcgmpbopnaaGreatDoorGE
import Derived.Test.YtkfdpcgmpbopnaaGreatDoorGY
import Derived.Test.YtkfdpcgmpbopnaaGreatDoorHmW
import Derived.Test.YtkfdpcgmpbopnaaGreatDoorBetY
namespace Go.Proofs.YtkfdpcgmpbopnaaGreatDoor
open Go.RowKit Lin
theorem kind_simplicial {d:Nat} {P C s:List (List Int)} {A':List Nat} (h:FndS d P C s) (hD:DocF d P C s A') {lev:List (List Int)} (hl:LevOk d C A' d lev):kdA d lev=splB d (s.map (sdN C)):=by
 have hp:=doc_sides h hD hl
 rw [Bool.eq_iff_iff]
 unfold kdA splB
 rw [List.all_eq_true,List.all_eq_true]
 constructor
 ·intro h1 x hx
  exact h1 (memL x) (hp.mem_iff.2 (List.mem_map.2 ⟨x,hx,rfl⟩))
 ·intro h1 r hr
  obtain ⟨x,hx,rfl⟩:=List.mem_map.1 (hp.mem_iff.1 hr)
  exact h1 x hx
theorem kind_count {d:Nat} {P C s:List (List Int)} {A':List Nat} (h:FndS d P C s) (hD:DocF d P C s A') {lev:List (List Int)} (hl:LevOk d C A' d lev) (v:Nat):(kdN lev v:Int)=cnA (s.map (sdN C)) (s.map (sdN C)).length v:=by
 have hp:=doc_sides h hD hl
 unfold kdN cnA
 rw [List.take_length,(hp.filter _).length_eq,List.filter_map,List.length_map]
 congr 2
 refine List.filter_congr fun x hx=>?_
 obtain ⟨r,_,rfl⟩:=List.mem_map.1 hx
 have hlt:sdN C r < 2 ^ 64:=Nat.lt_of_lt_of_le (sdTo_lt C r C.length) (Nat.pow_le_pow_right (by decide) (by have:=h.n10; omega))
 rw [Bool.eq_iff_iff]
 simp only [Function.comp_apply,List.contains_iff_mem]
 rw [mem_memL hlt]
 constructor
 ·rintro ⟨k,hk,hb⟩
  have:v=k:=by omega
  subst this
  exact hb
 ·intro hb
  exact ⟨v,rfl,hb⟩
theorem kind_simple {d:Nat} {P C s:List (List Int)} {A':List Nat} (h:FndS d P C s) (hD:DocF d P C s A') {lev lev1:List (List Int)} (hl:LevOk d C A' d lev) (hl1:LevOk d C A' 1 lev1):kdB d lev lev1.length=smpB d C.length (s.map (sdN C)):=by
 rw [doc_verts h hD hl1]
 unfold kdB smpB
 rw [Bool.eq_iff_iff,List.all_eq_true,List.all_eq_true]
 have hk:=kind_count h hD hl
 constructor
 ·intro h1 v hv
  have:=h1 v hv
  simp only [decide_eq_true_eq] at this ⊢
  rw [←hk v]
  omega
 ·intro h1 v hv
  have:=h1 v hv
  simp only [decide_eq_true_eq] at this ⊢
  rw [←hk v] at this
  omega
theorem short_same (c:Nat→Int) {d j:Nat} (h1:1≤d) (h4:d≤4) (hj:j≤d):smD c d (d+1) j=hvN c (d+1) j:=by
 have hd:d=1∨d=2∨d=3∨d=4:=by omega
 rcases hd with rfl | rfl | rfl | rfl
 ·have:j=0∨j=1:=by omega
  rcases this with rfl | rfl <;> simp [smD,dltN,dlt,one1,hvN] <;> omega
 ·have:j=0∨j=1∨j=2:=by omega
  rcases this with rfl | rfl | rfl <;> simp [smD,dltN,dlt,one1,hvN] <;> omega
 ·have:j=0∨j=1∨j=2∨j=3:=by omega
  rcases this with rfl | rfl | rfl | rfl <;> simp [smD,dltN,dlt,one1,hvN] <;> omega
 ·have:j=0∨j=1∨j=2∨j=3∨j=4:=by omega
  rcases this with rfl | rfl | rfl | rfl | rfl <;> simp [smD,dltN,dlt,one1,hvN] <;> omega
end Go.Proofs.YtkfdpcgmpbopnaaGreatDoor
namespace Go.Proofs.YtkfdpcgmpbopnaaGreatDoor
open Go.RowKit Lin
theorem doc_small {d:Nat} {P C s:List (List Int)} {A:List Nat} (hD:DocF d P C s A) (hn:P.length≤10):C.length≤10:=by
 obtain ⟨h1,s0,h2,h3⟩:=hD.crn
 have:=nodup_lenL C P (sasc_nodup h1) fun x hx=>(List.mem_filter.1 ((h3 x).1 hx)).1
 omega
theorem lev_small {d:Nat} {P C s:List (List Int)} {A:List Nat} (hD:DocF d P C s A) (hn:C.length≤10) {t:Nat} {lev:List (List Int)} (hl:LevOk d C A t lev):lev.length≤1024∧∀r∈lev,r.length≤10:=by
 constructor
 ·have h1:=nodup_lenL lev (A.map memL) (sasc_nodup hl.1) fun r hr=>by
   obtain ⟨a,ha,_,rfl⟩:=(hl.2 r).1 hr
   exact List.mem_map.2 ⟨a,ha,rfl⟩
  rw [List.length_map] at h1
  have h2:=hD.all.len
  have h3:2 ^ C.length≤2 ^ 10:=Nat.pow_le_pow_right (by decide) hn
  have h4:(2:Nat) ^ 10=1024:=by decide
  omega
 ·intro r hr
  obtain ⟨a,ha,_,rfl⟩:=(hl.2 r).1 hr
  exact Nat.le_trans (memL_len (hD.all.lt a ha) (by omega)) hn
theorem cnt_same {d:Nat} {P C s C' s':List (List Int)} {A A':List Nat} {LV:Nat→List (List Int)} (h:Fnd d P C s A) (hD:DocF d P C' s' A') (hL:∀t,t < d+2→LevOk d C' A' t (LV t)) {n:Nat} (hn:n≤d+2):cnF (fun t=>(lvA d C A t).length) n=cnF (fun t=>(LV t).length) n:=by
 obtain ⟨rfl,rfl⟩:=h.toS.same hD
 unfold cnF
 refine List.map_congr_left fun t ht=>?_
 show ((lvA d _ A t).length:Int)=((LV t).length:Int)
 rw [h.levn hD (hL t (by have:=List.mem_range.1 ht; omega))]
theorem lvs_same {d:Nat} {P C s C' s':List (List Int)} {A A':List Nat} {LV:Nat→List (List Int)} (h:Fnd d P C s A) (hD:DocF d P C' s' A') (hL:∀t,t < d+2→LevOk d C' A' t (LV t)) {t:Nat} (ht:t < d+2) {m:List (List Int)} (hm:Inor m ((lvA d C A t).map memL)):m=LV t:=by
 obtain ⟨rfl,rfl⟩:=h.toS.same hD
 exact h.lev hD (hL t ht) hm
theorem LvV.congr {w:World} {x:Value} {j:Nat} {LV LV2:Nat→List (List Int)} (h:LvV w x j LV) (he:∀t,t < j→LV t=LV2 t):LvV w x j LV2:=by
 obtain ⟨ao,cap,hx,h1⟩:=h.rows
 refine ⟨ao,cap,hx,fun X t hX ht=>?_⟩
 have:=h1 X t hX ht
 rw [he t ht] at this
 exact this
theorem lat_same {d:Nat} {P C s C' s':List (List Int)} {A A':List Nat} {LV:Nat→List (List Int)} {B:Nat} {w:World} {u:Value} (h:Fnd d P C s A) (hD:DocF d P C' s' A') (hL:∀t,t < d+2→LevOk d C' A' t (LV t)) (hl:Lvs B w u (d+2) (fun t m=>Inor m ((lvA d C A t).map memL))):LvV w u (d+2) LV:=by
 obtain ⟨LV2,h1,h2⟩:=hl.named
 exact h1.congr fun t ht=>lvs_same h hD hL ht (h2 t ht)
theorem kind_same {d:Nat} {P C s C' s':List (List Int)} {A':List Nat} {LV:Nat→List (List Int)} (h:FndS d P C s) (hd:1≤d) (hD:DocF d P C' s' A') (hL:∀t,t < d+2→LevOk d C' A' t (LV t)):splB d (s.map (sdN C))=kdA d (LV d)∧smpB d C.length (s.map (sdN C))=kdB d (LV d) (LV 1).length:=by
 obtain ⟨rfl,rfl⟩:=h.same hD
 exact ⟨(kind_simplicial h hD (hL d (by omega))).symm,(kind_simple h hD (hL d (by omega)) (hL 1 (by omega))).symm⟩
def shD (L:Nat→Nat) (d:Nat):List Int:=(List.range (d+1)).map fun j=>smD (fun k=>(cnF L (d+2)).getD k 0) d (d+1) j
theorem hvN_le {c c2:Nat→Int} (n:Nat) (h:∀k,k < n→c k=c2 k):∀i,i≤n→∀j,hvN c i j=hvN c2 i j
 | 0,_,_=>rfl
 | i+1,hi,j=>by
  simp only [hvN]
  rw [hvN_le n h i (by omega) j,hvN_le n h i (by omega) (j-1),h i (by omega)]
theorem sh_same {d:Nat} {P C s C' s':List (List Int)} {A A':List Nat} {LV:Nat→List (List Int)} (h:Fnd d P C s A) (h1:1≤d) (h4:d≤4) (hD:DocF d P C' s' A') (hL:∀t,t < d+2→LevOk d C' A' t (LV t)):hvF (fun t=>((lvA d C A t).length:Int)) (d+1)=shD (fun t=>(LV t).length) d:=by
 obtain ⟨rfl,rfl⟩:=h.toS.same hD
 unfold hvF shD
 refine List.map_congr_left fun j hj=>?_
 have hj2:=List.mem_range.1 hj
 rw [short_same _ h1 h4 (by omega)]
 refine hvN_le (d+1) (fun k hk=>?_) (d+1) (Nat.le_refl _) j
 have e:(cnF (fun t=>(LV t).length) (d+2)).getD k 0=((LV k).length:Int):=by simp [cnF,show k < d+2 by omega]
 rw [e,h.levn hD (hL k (by omega))]
end Go.Proofs.YtkfdpcgmpbopnaaGreatDoor
namespace Go.Proofs.YtkfdpcgmpbopnaaGreatDoor
open Go.RowKit Lin
attribute [local go_sem ↓] Go.wp_at_zero Go.wp_at_succ
structure DocA (d:Nat) (P C s:List (List Int)) (A:List Nat) (LV:Nat→List (List Int)):Prop where
 f:DocF d P C s A
 l:∀t,t < d+2→LevOk d C A t (LV t)
set_option maxRecDepth 100000 in
set_option maxHeartbeats 3200000 in
theorem faceSays_any (d:Nat) (P:List (List Int)) (v:Value) (w:World) (hv:Mat w.heap.size 22 3 w v P) (hg:Good d P) (hx:Box d 6 P) (hn:P.length≤10) (hT:TabB w) :
  Calls Tryz.prog 5 #[.agg #[.int .i64 d,v]] w fun e w'=>e=.returned (.bool true)∧Below w.heap.size w w':=by
 obtain ⟨po,pc,rfl,hlc,hcm⟩:=mat_open hv
 have h1:=hg.d1
 have h4:=hg.d4
 obtain ⟨W,hW⟩:∃W,W=w.alloc (.cells #[.int .i64 d,.slice po P.length pc] 27):=⟨_,rfl⟩
 have hbw:Below w.heap.size w W:=by rw [hW]; exact alloc_keep _ _
 have HW:Hid (Below w.heap.size w W):=hbw
 have hsW:W.heap.size=w.heap.size+1:=by rw [hW]; exact size_alloc _ _
 have c0:W.cell? ⟨w.heap.size,0,none⟩=some (.int .i64 d):=by rw [hW]; simp
 have c1:W.cell? ⟨w.heap.size,1,none⟩=some (.slice po P.length pc):=by rw [hW]; simp
 have HC:Hid (∀X,Below W.heap.size W X→X.cell? ⟨w.heap.size,0,none⟩=some (.int .i64 d)∧X.cell? ⟨w.heap.size,1,none⟩=some (.slice po P.length pc)):=fun X h=>⟨(h.cell (lt_of_cell c0)).trans c0,(h.cell (lt_of_cell c1)).trans c1⟩
 have HM:Hid (∀X,Below W.heap.size W X→Mat X.heap.size 22 3 X (.slice po P.length pc) P):=fun X h=>(((hv.below hbw (Nat.le_refl _)).any (Nat.le_refl _)).below h (Nat.le_refl _)).any (Nat.le_refl _)
 have HT:Hid (∀X,Below W.heap.size W X→TabB X):=fun X h=>(hT.below hbw).below h
 have K1:Hid (Calls Tryz.prog 7 #[.slice po P.length pc] W fun e w'=>∃q,e=.returned (.bool q)∧w'=W):=(heavy_any W.heap.size P _ W (HM.out W (Below.refl _ _))).mono fun e w' ⟨q,h1,_,h3⟩=>⟨q,h1,h3⟩
 have K2:Hid (∀X,Below W.heap.size W X→Calls Tryz.prog 8 #[.agg #[.int .i64 d,.slice po P.length pc]] X fun e w'=>e=.returned (.int .i64 0)∧Below W.heap.size W w'):=fun X h=>(hullMay_ok d P _ X (HM.out X h) hg).mono fun e w' ⟨e1,e2⟩=>⟨e1,h.trans (e2.mono h.size)⟩
 have K3:Hid (∀X,Below W.heap.size W X→Calls Tryz.prog 9 #[.slice po P.length pc] X fun e w'=>∃ao cap C s A LV,e=.returned (.slice ao (d+2) cap)∧(DocA d P C s A LV∧LvV w' (.slice ao (d+2) cap) (d+2) LV∧Below W.heap.size W w')):=fun X h=>by
  refine (latticeOf_any X.heap.size d P _ X (HM.out X h) hg (by omega) hx).mono ?_
  rintro e w' ⟨x,C,s,A,rfl,hL,hb⟩
  obtain ⟨LV,l1,l2⟩:=hL.lev.named
  obtain ⟨ao,cap,rfl,hr⟩:=l1.rows
  exact ⟨ao,cap,C,s,A,LV,rfl,⟨hL.docF,l2⟩,l1,h.trans (hb.mono h.size)⟩
 have K4:Hid (∀X ao cap LV,LvV X (.slice ao (d+2) cap) (d+2) LV→Calls Tryz.prog 10 #[.slice ao (d+2) cap] X fun e w'=>∃uo uc,e=.returned (.slice uo (d+2) uc)∧(Sl 0 3 w' (.slice uo (d+2) uc) (ints (cnF (fun t=>(LV t).length) (d+2)))∧Below X.heap.size X w')):=fun X ao cap LV h=>by
  refine (countsOfR_any (d+2) _ LV X h (by omega)).mono ?_
  rintro e w' ⟨u,rfl,ho,hb⟩
  obtain ⟨uo,uc,rfl⟩:=owns_form ho
  exact ⟨uo,uc,rfl,Sl.own ho,hb⟩
 have HSM:Hid (∀C s A LV,DocA d P C s A LV→∀t,t < d+2→(LV t).length≤1024∧∀r∈LV t,r.length≤10):=fun C s A LV h t ht=>lev_small h.f (doc_small h.f hn) (h.l t ht)
 have K5:Hid (∀X ao cap C s A LV,DocA d P C s A LV→LvV X (.slice ao (d+2) cap) (d+2) LV→Calls Tryz.prog 11 #[.slice ao (d+2) cap] X fun e w'=>e=.returned (.tuple #[.bool (kdA d (LV d)),.bool (kdB d (LV d) (LV 1).length)])∧Below X.heap.size X w'):=fun X ao cap C s A LV hD h=>by
  have b1:=HSM.out C s A LV hD d (by omega)
  have b2:=HSM.out C s A LV hD 1 (by omega)
  exact kindOfR_any d _ LV X h h1 (by omega) (by omega) (by omega) (fun r hr=>by have:=b1.2 r hr; omega)
 have K6:Hid (∀X uo uc C s A LV,DocA d P C s A LV→Sl 0 3 X (.slice uo (d+2) uc) (ints (cnF (fun t=>(LV t).length) (d+2)))→Calls Tryz.prog 12 #[.slice uo (d+2) uc] X fun e w'=>∃g,e=.returned (.slice (some ⟨g,0,none⟩) (d+1) (d+1))∧(Sl 0 3 w' (.slice (some ⟨g,0,none⟩) (d+1) (d+1)) (ints (shD (fun t=>(LV t).length) d))∧Below X.heap.size X w')):=fun X uo uc C s A LV hD h=>by
  refine (shortOfR_any 0 d (cnF (fun t=>(LV t).length) (d+2)) _ X h (cnF_len _ _) h4 (fun z hz=>?_)).mono ?_
  ·simp only [cnF,List.mem_map,List.mem_range] at hz
   obtain ⟨t,ht,rfl⟩:=hz
   have:=(HSM.out C s A LV hD t ht).1
   omega
  ·rintro e w' ⟨rfl,hI⟩
   refine ⟨X.heap.size,rfl,Sl.own (rowF_own (B:=0) hI.row (Nat.zero_le _) (by simp [shD]) (fun i hi=>?_) (Nat.le_refl _) (by omega)),hI.bel⟩
   have e:(shD (fun t=>(LV t).length) d).getD i 0=smD (fun k=>(cnF (fun t=>(LV t).length) (d+2)).getD k 0) d (d+1) i:=by simp [shD,hi]
   rw [e]
 have P1:Hid (∀X C s A LV,DocA d P C s A LV→Below W.heap.size W X→Calls Tryz.prog 13 #[.agg #[.int .i64 d,.slice po P.length pc]] X fun e w'=>∃uo uc,e=.returned (.tuple #[.slice uo (d+2) uc,.int .i64 0])∧(LvV w' (.slice uo (d+2) uc) (d+2) LV∧Below X.heap.size X w')):=fun X C s A LV hD hX=>by
  refine (latticeP_any d P _ X (HM.out X hX) hg hn (HT.out X hX)).mono ?_
  rintro e w' ⟨u,C2,s2,A2,rfl,hF,hl,hb⟩
  have hV:=lat_same hF hD.f hD.l hl
  obtain ⟨uo,uc,rfl,_⟩:=hV.rows
  exact ⟨uo,uc,rfl,hV,hb⟩
 have P2:Hid (∀X C s A LV,DocA d P C s A LV→Below W.heap.size W X→Calls Tryz.prog 14 #[.agg #[.int .i64 d,.slice po P.length pc]] X fun e w'=>∃uo uc,e=.returned (.tuple #[.slice uo (d+2) uc,.int .i64 0])∧(Sl 0 3 w' (.slice uo (d+2) uc) (ints (cnF (fun t=>(LV t).length) (d+2)))∧Below X.heap.size X w')):=fun X C s A LV hD hX=>by
  refine (countsP_any d P _ X (HM.out X hX) hg hn (HT.out X hX)).mono ?_
  rintro e w' ⟨u,C2,s2,A2,rfl,hF,ho,hb⟩
  obtain ⟨uo,uc,rfl⟩:=owns_form ho
  refine ⟨uo,uc,rfl,?_,hb⟩
  rw [←cnt_same hF hD.f hD.l (Nat.le_refl _)]
  exact Sl.own ho
 have P3:Hid (∀X C s A LV,DocA d P C s A LV→Below W.heap.size W X→Calls Tryz.prog 15 #[.agg #[.int .i64 d,.slice po P.length pc]] X fun e w'=>e=.returned (.tuple #[.bool (kdA d (LV d)),.bool (kdB d (LV d) (LV 1).length),.int .i64 0])∧Below X.heap.size X w'):=fun X C s A LV hD hX=>by
  refine (kindP_any d P _ X (HM.out X hX) hg hn (HT.out X hX)).mono ?_
  rintro e w' ⟨C2,s2,rfl,hF,hb⟩
  obtain ⟨k1,k2⟩:=kind_same hF h1 hD.f hD.l
  exact ⟨by rw [k1,k2],hb⟩
 have P4:Hid (∀X C s A LV,DocA d P C s A LV→Below W.heap.size W X→Calls Tryz.prog 16 #[.agg #[.int .i64 d,.slice po P.length pc]] X fun e w'=>∃uo ul uc,e=.returned (.tuple #[.slice uo ul uc,.int .i64 0])∧(Mat 0 22 3 w' (.slice uo ul uc) (LV 2)∧Below X.heap.size X w')):=fun X C s A LV hD hX=>by
  refine (graphP_any d P _ X (HM.out X hX) hg hn (HT.out X hX)).mono ?_
  rintro e w' ⟨u,C2,s2,A2,m,rfl,hF,hf,hin,hb⟩
  have e2:=lvs_same hF hD.f hD.l (t:=2) (by omega) hin
  subst e2
  have hm:=fr_mat0F hf
  obtain ⟨uo,uc,rfl,_,_⟩:=mat_open hm
  exact ⟨uo,_,uc,rfl,hm,hb⟩
 have P5:Hid (∀X C s A LV,DocA d P C s A LV→Below W.heap.size W X→Calls Tryz.prog 17 #[.agg #[.int .i64 d,.slice po P.length pc]] X fun e w'=>(kdA d (LV d)=false→e=.returned (.tuple #[.slice none 0 0,.int .i64 3]))∧(kdA d (LV d)=true→∃uo uc,e=.returned (.tuple #[.slice uo (d+1) uc,.int .i64 0])∧Sl 0 3 w' (.slice uo (d+1) uc) (ints (shD (fun t=>(LV t).length) d)))∧Below X.heap.size X w'):=fun X C s A LV hD hX=>by
  refine (shortP_any d P _ X (HM.out X hX) hg hn (HT.out X hX)).mono ?_
  rintro e w' ⟨C2,s2,hF,hb,hor⟩
  obtain ⟨k1,_⟩:=kind_same hF h1 hD.f hD.l
  rw [k1] at hor
  refine ⟨fun h=>?_,fun h=>?_,hb⟩
  ·rcases hor with ⟨_,rfl⟩ | ⟨h2,_⟩
   ·rfl
   ·rw [h] at h2; cases h2
  ·rcases hor with ⟨h2,_⟩ | ⟨_,u,A2,rfl,hFA,ho⟩
   ·rw [h] at h2; cases h2
   ·obtain ⟨uo,uc,rfl⟩:=owns_form ho
    refine ⟨uo,uc,rfl,?_⟩
    rw [←sh_same hFA h1 h4 hD.f hD.l]
    exact Sl.own ho
 have HED:Hid (∀X ao cap LV,LvV X (.slice ao (d+2) cap) (d+2) LV→∃b o ro rc,ao=some ⟨b,o,none⟩∧X.cell? ⟨b,o+2,none⟩=some (.slice ro (LV 2).length rc)∧Mat X.heap.size 22 3 X (.slice ro (LV 2).length rc) (LV 2)):=fun X ao cap LV h=>by
  obtain ⟨ao2,cap2,e,hr⟩:=h.rows
  simp only [Value.slice.injEq,true_and] at e
  obtain ⟨rfl,rfl⟩:=e
  exact hr X 2 (Below.refl _ _) (by omega)
 clear hv hg hT hbw hx c0 c1
 go_enter Tryz.func5,Tryz.ntmps5
 obtain ⟨e0,e1⟩:=HC.out W (Below.refl _ _)
 go_wp2_with fail
 rw [←hW]
 clear hW
 refine K1.out.mono ?_
 rintro e w0 ⟨q,rfl,rfl⟩
 clear K1
 cases q
 case true=>
  go_wp2
  go_ret
  exact ⟨rfl,HW.out⟩
 case false=>
  go_wp2_with fail
  refine (K2.out _ (Below.refl _ _)).mono ?_
  rintro e w1 ⟨rfl,hb1⟩
  have HB1:Hid (Below w0.heap.size w0 w1):=hb1
  clear hb1 e0 e1 K2
  obtain ⟨e0,e1⟩:=HC.out w1 HB1.out
  go_wp2_with fail
  refine (K3.out w1 HB1.out).mono ?_
  rintro e w2 ⟨ao,cap,C,s,A,LV,rfl,hD,hL,hb2⟩
  have HD:Hid (DocA d P C s A LV):=hD
  have HL:Hid (LvV w2 (.slice ao (d+2) cap) (d+2) LV):=hL
  have HB2:Hid (Below w0.heap.size w0 w2):=hb2
  clear hD hL hb2 e0 e1 K3
  go_wp2_with fail
  refine (K4.out w2 ao cap LV HL.out).mono ?_
  rintro e w3 ⟨uo,uc,rfl,hu,hb3⟩
  have HU:Hid (Sl 0 3 w3 (.slice uo (d+2) uc) (ints (cnF (fun t=>(LV t).length) (d+2)))):=hu
  have HB3:Hid (Below w2.heap.size w2 w3):=hb3
  have HL3:Hid (LvV w3 (.slice ao (d+2) cap) (d+2) LV):=HL.out.low hb3
  clear hu hb3 K4
  obtain ⟨b,o,ro,rc,hao,hce,hme⟩:=HED.out w3 ao cap LV HL3.out
  have HME:Hid (Mat w3.heap.size 22 3 w3 (.slice ro (LV 2).length rc) (LV 2)):=hme
  have hd2:(2:Int) < (d:Int)+2:=by omega
  subst hao
  clear hme HED
  generalize hll:(LV 2).length=ll at *
  clear hll
  have K5':Hid (Calls Tryz.prog 11 #[.slice (some ⟨b,o,none⟩) (d+2) cap] w3 fun e w'=>e=.returned (.tuple #[.bool (kdA d (LV d)),.bool (kdB d (LV d) (LV 1).length)])∧Below w3.heap.size w3 w'):=K5.out w3 (some ⟨b,o,none⟩) cap C s A LV HD.out HL3.out
  have K6':Hid (∀X,Below w3.heap.size w3 X→Calls Tryz.prog 12 #[.slice uo (d+2) uc] X fun e w'=>∃g,e=.returned (.slice (some ⟨g,0,none⟩) (d+1) (d+1))∧(Sl 0 3 w' (.slice (some ⟨g,0,none⟩) (d+1) (d+1)) (ints (shD (fun t=>(LV t).length) d))∧Below X.heap.size X w')):=fun X hX=>K6.out X uo uc C s A LV HD.out (HU.out.below hX (Nat.le_refl _))
  have Q1:Hid (∀X,Below w0.heap.size w0 X→Calls Tryz.prog 13 #[.agg #[.int .i64 d,.slice po P.length pc]] X fun e w'=>∃uo uc,e=.returned (.tuple #[.slice uo (d+2) uc,.int .i64 0])∧(LvV w' (.slice uo (d+2) uc) (d+2) LV∧Below X.heap.size X w')):=fun X hX=>P1.out X C s A LV HD.out hX
  have Q2:Hid (∀X,Below w0.heap.size w0 X→Calls Tryz.prog 14 #[.agg #[.int .i64 d,.slice po P.length pc]] X fun e w'=>∃uo uc,e=.returned (.tuple #[.slice uo (d+2) uc,.int .i64 0])∧(Sl 0 3 w' (.slice uo (d+2) uc) (ints (cnF (fun t=>(LV t).length) (d+2)))∧Below X.heap.size X w')):=fun X hX=>P2.out X C s A LV HD.out hX
  have Q3:Hid (∀X,Below w0.heap.size w0 X→Calls Tryz.prog 15 #[.agg #[.int .i64 d,.slice po P.length pc]] X fun e w'=>e=.returned (.tuple #[.bool (kdA d (LV d)),.bool (kdB d (LV d) (LV 1).length),.int .i64 0])∧Below X.heap.size X w'):=fun X hX=>P3.out X C s A LV HD.out hX
  have Q4:Hid (∀X,Below w0.heap.size w0 X→Calls Tryz.prog 16 #[.agg #[.int .i64 d,.slice po P.length pc]] X fun e w'=>∃uo ul uc,e=.returned (.tuple #[.slice uo ul uc,.int .i64 0])∧(Mat 0 22 3 w' (.slice uo ul uc) (LV 2)∧Below X.heap.size X w')):=fun X hX=>P4.out X C s A LV HD.out hX
  have Q5:Hid (∀X,Below w0.heap.size w0 X→Calls Tryz.prog 17 #[.agg #[.int .i64 d,.slice po P.length pc]] X fun e w'=>(kdA d (LV d)=false→e=.returned (.tuple #[.slice none 0 0,.int .i64 3]))∧(kdA d (LV d)=true→∃uo uc,e=.returned (.tuple #[.slice uo (d+1) uc,.int .i64 0])∧Sl 0 3 w' (.slice uo (d+1) uc) (ints (shD (fun t=>(LV t).length) d)))∧Below X.heap.size X w'):=fun X hX=>P5.out X C s A LV HD.out hX
  clear P1 P2 P3 P4 P5 K5 K6 HSM HM HT
  generalize kdA d (LV d)=qa at *
  generalize kdB d (LV d) (LV 1).length=qb at *
  generalize shD (fun t=>(LV t).length) d=shl at *
  generalize cnF (fun t=>(LV t).length) (d+2)=cnl at *
  go_wp2_with fail
  refine K5'.out.mono ?_
  rintro e w4 ⟨rfl,hb4⟩
  have HB4:Hid (Below w3.heap.size w3 w4):=hb4
  clear hb4 hce K5'
  go_wp2_with fail
  refine (K6'.out w4 HB4.out).mono ?_
  rintro e w5 ⟨g,rfl,hs5,hb5⟩
  have HS5:Hid (Sl 0 3 w5 (.slice (some ⟨g,0,none⟩) (d+1) (d+1)) (ints shl)):=hs5
  have HB35:Hid (Below w3.heap.size w3 w5):=HB4.out.trans (hb5.mono HB4.out.size)
  have HB5:Hid (Below w0.heap.size w0 w5):=(HB2.out.trans (HB3.out.mono HB2.out.size)).trans (HB35.out.mono (Nat.le_trans HB2.out.size HB3.out.size))
  have HL5:Hid (LvV w5 (.slice (some ⟨b,o,none⟩) (d+2) cap) (d+2) LV):=HL3.out.low HB35.out
  have HU5:Hid (Sl 0 3 w5 (.slice uo (d+2) uc) (ints cnl)):=HU.out.below HB35.out (Nat.le_refl _)
  have HE5:Hid (Mat w3.heap.size 22 3 w5 (.slice ro ll rc) (LV 2)):=HME.out.below HB35.out (Nat.le_refl _)
  clear hs5 hb5 K6' HL HL3 HU HME HB4
  cases qa
  ·obtain ⟨e0,e1⟩:=HC.out w5 HB5.out
   go_wp2_with fail
   refine (Q1.out w5 HB5.out).mono ?_
   rintro e w6 ⟨lo,lc,rfl,hl6,hb6⟩
   have H6:Hid (LvV w6 (.slice lo (d+2) lc) (d+2) LV∧Below w5.heap.size w5 w6):=⟨hl6,hb6⟩
   have HB6:Hid (Below w0.heap.size w0 w6):=HB5.out.trans (hb6.mono HB5.out.size)
   clear hl6 hb6 e0 e1 Q1
   obtain ⟨e0,e1⟩:=HC.out w6 HB6.out
   go_wp2_with fail
   refine (Q2.out w6 HB6.out).mono ?_
   rintro e w7 ⟨no,nc,rfl,hn7,hb7⟩
   have H7:Hid (Sl 0 3 w7 (.slice no (d+2) nc) (ints cnl)∧Below w6.heap.size w6 w7):=⟨hn7,hb7⟩
   have HB7:Hid (Below w0.heap.size w0 w7):=HB6.out.trans (hb7.mono HB6.out.size)
   clear hn7 hb7 e0 e1 Q2
   obtain ⟨e0,e1⟩:=HC.out w7 HB7.out
   go_wp2_with fail
   refine (Q3.out w7 HB7.out).mono ?_
   rintro e w8 ⟨rfl,hb8⟩
   have H8:Hid (Below w7.heap.size w7 w8):=hb8
   have HB8:Hid (Below w0.heap.size w0 w8):=HB7.out.trans (hb8.mono HB7.out.size)
   clear hb8 e0 e1 Q3
   obtain ⟨e0,e1⟩:=HC.out w8 HB8.out
   go_wp2_with fail
   refine (Q4.out w8 HB8.out).mono ?_
   rintro e w9 ⟨go,gl,gc,rfl,hg9,hb9⟩
   have H9:Hid (Mat 0 22 3 w9 (.slice go gl gc) (LV 2)∧Below w8.heap.size w8 w9):=⟨hg9,hb9⟩
   have HB9:Hid (Below w0.heap.size w0 w9):=HB8.out.trans (hb9.mono HB8.out.size)
   clear hg9 hb9 e0 e1 Q4
   obtain ⟨e0,e1⟩:=HC.out w9 HB9.out
   go_wp2_with fail
   refine (Q5.out w9 HB9.out).mono ?_
   rintro e w10 ⟨hq1,hq2,hb10⟩
   have he:=hq1 (by first | trivial | rfl)
   subst he
   clear hq2
   have H10:Hid (Below w9.heap.size w9 w10):=hb10
   have HB10:Hid (Below w0.heap.size w0 w10):=HB9.out.trans (hb10.mono HB9.out.size)
   have HB79:Hid (Below w7.heap.size w7 w10):=(H8.out.trans (H9.out.2.mono H8.out.size)).trans (H10.out.mono (Nat.le_trans H8.out.size H9.out.2.size))
   have HB610:Hid (Below w6.heap.size w6 w10):=H7.out.2.trans (HB79.out.mono H7.out.2.size)
   have HB510:Hid (Below w5.heap.size w5 w10):=H6.out.2.trans (HB610.out.mono H6.out.2.size)
   have R1:Hid (∀X,Below w10.heap.size w10 X→Calls Tryz.prog 18 #[.slice lo (d+2) lc,.int .i64 0,.slice (some ⟨b,o,none⟩) (d+2) cap,.int .i64 0] X fun x w'=>x=.returned (.bool true)∧Below X.heap.size X w'):=fun X hX=>levelsF_same (d+2) LV _ _ X ((H6.out.1.low HB610.out).low hX) ((HL5.out.low HB510.out).low hX) (by omega)
   have R2:Hid (∀X,Below w10.heap.size w10 X→Calls Tryz.prog 19 #[.slice no (d+2) nc,.int .i64 0,.slice uo (d+2) uc,.int .i64 0] X fun x w'=>x=.returned (.bool true)∧Below X.heap.size X w'):=fun X hX=>listF_same 0 cnl _ _ X ((H7.out.1.below HB79.out (Nat.le_refl _)).below hX (Nat.le_refl _)) ((HU5.out.below HB510.out (Nat.le_refl _)).below hX (Nat.le_refl _))
   have R3:Hid (∀X,Below w10.heap.size w10 X→Calls Tryz.prog 20 #[.slice go gl gc,.int .i64 0,.slice ro ll rc,.int .i64 0] X fun x w'=>x=.returned (.bool true)∧Below X.heap.size X w'):=fun X hX=>listsF_same w3.heap.size (LV 2) _ _ X ((((H9.out.1.below H10.out (Nat.le_refl _)).below hX (Nat.le_refl _))).more (Nat.zero_le _)) ((HE5.out.below HB510.out (Nat.le_refl _)).below hX (Nat.le_refl _))
   have R4:Hid (∀X,Below w10.heap.size w10 X→Calls Tryz.prog 19 #[.slice none 0 0,.int .i64 3,.slice (some ⟨g,0,none⟩) (d+1) (d+1),.int .i64 3] X fun x w'=>x=.returned (.bool true)∧Below X.heap.size X w'):=fun X hX=>listF_no 3 (by decide) _ _ _ _ rfl X
   clear hb10 e0 e1 Q5 H6 H7 H8 H9 H10 HL5 HU5 HE5 HS5 HB79 HB610 HB510
   go_wp2_with fail
   refine (R1.out w10 (Below.refl _ _)).mono ?_
   rintro e x1 ⟨rfl,hx1⟩
   have HX1:Hid (Below w10.heap.size w10 x1):=hx1
   clear hx1 R1
   go_wp2_with fail
   refine (R2.out x1 HX1.out).mono ?_
   rintro e x2 ⟨rfl,hx2⟩
   have HX2:Hid (Below w10.heap.size w10 x2):=HX1.out.trans (hx2.mono HX1.out.size)
   clear hx2 R2
   have hqb:(qb == qb)=true:=by simp
   go_wp2_with fail
   refine (R3.out x2 HX2.out).mono ?_
   rintro e x3 ⟨rfl,hx3⟩
   have HX3:Hid (Below w10.heap.size w10 x3):=HX2.out.trans (hx3.mono HX2.out.size)
   clear hx3 R3
   go_wp2_with fail
   refine (R4.out x3 HX3.out).mono ?_
   rintro e x4 ⟨rfl,hx4⟩
   have HX4:Hid (Below w.heap.size w x4):=HW.out.trans ((HB10.out.trans ((HX3.out.trans (hx4.mono HX3.out.size)).mono HB10.out.size)).mono (by omega))
   clear hx4 R4
   go_wp2
   go_ret
   exact ⟨rfl,HX4.out⟩
  ·obtain ⟨e0,e1⟩:=HC.out w5 HB5.out
   go_wp2_with fail
   refine (Q1.out w5 HB5.out).mono ?_
   rintro e w6 ⟨lo,lc,rfl,hl6,hb6⟩
   have H6:Hid (LvV w6 (.slice lo (d+2) lc) (d+2) LV∧Below w5.heap.size w5 w6):=⟨hl6,hb6⟩
   have HB6:Hid (Below w0.heap.size w0 w6):=HB5.out.trans (hb6.mono HB5.out.size)
   clear hl6 hb6 e0 e1 Q1
   obtain ⟨e0,e1⟩:=HC.out w6 HB6.out
   go_wp2_with fail
   refine (Q2.out w6 HB6.out).mono ?_
   rintro e w7 ⟨no,nc,rfl,hn7,hb7⟩
   have H7:Hid (Sl 0 3 w7 (.slice no (d+2) nc) (ints cnl)∧Below w6.heap.size w6 w7):=⟨hn7,hb7⟩
   have HB7:Hid (Below w0.heap.size w0 w7):=HB6.out.trans (hb7.mono HB6.out.size)
   clear hn7 hb7 e0 e1 Q2
   obtain ⟨e0,e1⟩:=HC.out w7 HB7.out
   go_wp2_with fail
   refine (Q3.out w7 HB7.out).mono ?_
   rintro e w8 ⟨rfl,hb8⟩
   have H8:Hid (Below w7.heap.size w7 w8):=hb8
   have HB8:Hid (Below w0.heap.size w0 w8):=HB7.out.trans (hb8.mono HB7.out.size)
   clear hb8 e0 e1 Q3
   obtain ⟨e0,e1⟩:=HC.out w8 HB8.out
   go_wp2_with fail
   refine (Q4.out w8 HB8.out).mono ?_
   rintro e w9 ⟨go,gl,gc,rfl,hg9,hb9⟩
   have H9:Hid (Mat 0 22 3 w9 (.slice go gl gc) (LV 2)∧Below w8.heap.size w8 w9):=⟨hg9,hb9⟩
   have HB9:Hid (Below w0.heap.size w0 w9):=HB8.out.trans (hb9.mono HB8.out.size)
   clear hg9 hb9 e0 e1 Q4
   obtain ⟨e0,e1⟩:=HC.out w9 HB9.out
   go_wp2_with fail
   refine (Q5.out w9 HB9.out).mono ?_
   rintro e w10 ⟨hq1,hq2,hb10⟩
   obtain ⟨ho,hc,he,hs10⟩:=hq2 (by first | trivial | rfl)
   subst he
   clear hq1
   have H10:Hid (Below w9.heap.size w9 w10):=hb10
   have HB10:Hid (Below w0.heap.size w0 w10):=HB9.out.trans (hb10.mono HB9.out.size)
   have HB79:Hid (Below w7.heap.size w7 w10):=(H8.out.trans (H9.out.2.mono H8.out.size)).trans (H10.out.mono (Nat.le_trans H8.out.size H9.out.2.size))
   have HB610:Hid (Below w6.heap.size w6 w10):=H7.out.2.trans (HB79.out.mono H7.out.2.size)
   have HB510:Hid (Below w5.heap.size w5 w10):=H6.out.2.trans (HB610.out.mono H6.out.2.size)
   have R1:Hid (∀X,Below w10.heap.size w10 X→Calls Tryz.prog 18 #[.slice lo (d+2) lc,.int .i64 0,.slice (some ⟨b,o,none⟩) (d+2) cap,.int .i64 0] X fun x w'=>x=.returned (.bool true)∧Below X.heap.size X w'):=fun X hX=>levelsF_same (d+2) LV _ _ X ((H6.out.1.low HB610.out).low hX) ((HL5.out.low HB510.out).low hX) (by omega)
   have R2:Hid (∀X,Below w10.heap.size w10 X→Calls Tryz.prog 19 #[.slice no (d+2) nc,.int .i64 0,.slice uo (d+2) uc,.int .i64 0] X fun x w'=>x=.returned (.bool true)∧Below X.heap.size X w'):=fun X hX=>listF_same 0 cnl _ _ X ((H7.out.1.below HB79.out (Nat.le_refl _)).below hX (Nat.le_refl _)) ((HU5.out.below HB510.out (Nat.le_refl _)).below hX (Nat.le_refl _))
   have R3:Hid (∀X,Below w10.heap.size w10 X→Calls Tryz.prog 20 #[.slice go gl gc,.int .i64 0,.slice ro ll rc,.int .i64 0] X fun x w'=>x=.returned (.bool true)∧Below X.heap.size X w'):=fun X hX=>listsF_same w3.heap.size (LV 2) _ _ X ((((H9.out.1.below H10.out (Nat.le_refl _)).below hX (Nat.le_refl _))).more (Nat.zero_le _)) ((HE5.out.below HB510.out (Nat.le_refl _)).below hX (Nat.le_refl _))
   have R4:Hid (∀X,Below w10.heap.size w10 X→Calls Tryz.prog 19 #[.slice ho (d+1) hc,.int .i64 0,.slice (some ⟨g,0,none⟩) (d+1) (d+1),.int .i64 0] X fun x w'=>x=.returned (.bool true)∧Below X.heap.size X w'):=fun X hX=>listF_same 0 shl _ _ X (hs10.below hX (Nat.le_refl _)) ((HS5.out.below HB510.out (Nat.le_refl _)).below hX (Nat.le_refl _))
   clear hs10
   clear hb10 e0 e1 Q5 H6 H7 H8 H9 H10 HL5 HU5 HE5 HS5 HB79 HB610 HB510
   go_wp2_with fail
   refine (R1.out w10 (Below.refl _ _)).mono ?_
   rintro e x1 ⟨rfl,hx1⟩
   have HX1:Hid (Below w10.heap.size w10 x1):=hx1
   clear hx1 R1
   go_wp2_with fail
   refine (R2.out x1 HX1.out).mono ?_
   rintro e x2 ⟨rfl,hx2⟩
   have HX2:Hid (Below w10.heap.size w10 x2):=HX1.out.trans (hx2.mono HX1.out.size)
   clear hx2 R2
   have hqb:(qb == qb)=true:=by simp
   go_wp2_with fail
   refine (R3.out x2 HX2.out).mono ?_
   rintro e x3 ⟨rfl,hx3⟩
   have HX3:Hid (Below w10.heap.size w10 x3):=HX2.out.trans (hx3.mono HX2.out.size)
   clear hx3 R3
   go_wp2_with fail
   refine (R4.out x3 HX3.out).mono ?_
   rintro e x4 ⟨rfl,hx4⟩
   have HX4:Hid (Below w.heap.size w x4):=HW.out.trans ((HB10.out.trans ((HX3.out.trans (hx4.mono HX3.out.size)).mono HB10.out.size)).mono (by omega))
   clear hx4 R4
   go_wp2
   go_ret
   exact ⟨rfl,HX4.out⟩
end Go.Proofs.YtkfdpcgmpbopnaaGreatDoor
namespace Go.Proofs.YtkfdpcgmpbopnaaGreatDoor
open Go.RowKit
attribute [local go_sem ↓] Go.wp_at_zero Go.wp_at_succ
theorem poly_boxF {n wd:Nat} {m:List (List Int)} (hm:Box n wd m) (hw:wd≤6):Box n 6 (polyL n m):=by
 intro r hr
 simp only [polyL,List.mem_append,List.mem_singleton,List.mem_map,List.mem_range] at hr
 rcases hr with (hr | rfl) | ⟨k,hk,rfl⟩
 ·refine ⟨(hm r hr).1,fun z hz=>?_⟩
  have:=(hm r hr).2 z hz
  omega
 ·refine ⟨by simp [zerosL],fun z hz=>?_⟩
  simp only [zerosL,List.mem_map] at hz
  obtain ⟨_,_,rfl⟩:=hz
  omega
 ·refine ⟨by simp [spk],fun z hz=>?_⟩
  simp only [spk,List.mem_map] at hz
  obtain ⟨j,_,rfl⟩:=hz
  have:=Nat.mod_lt k (show 0 < 2 by decide)
  split <;> omega
set_option maxRecDepth 100000 in
set_option maxHeartbeats 1600000 in
theorem faceMade_any (B:Nat) (raw:List Int) (d0 m0 a0:Int) (v:Value) (w:World) (hv:Sl B 3 w v (ints raw)) (hr:∀z∈raw,In64 z) (hd:In64 d0) (hm:In64 m0) (ha:In64 a0) (hT:TabB w) :
  Calls Tryz.prog 3 #[v,.int .i64 d0,.int .i64 m0,.int .i64 a0] w fun e w'=>e=.returned (.bool true)∧Below w.heap.size w w':=by
 obtain ⟨ao,cap,hvv,hlc,hcm⟩:=sl_open hv
 subst hvv
 have HV:Hid (Sl B 3 w (.slice ao raw.length cap) (ints raw)):=hv
 have HRR:Hid (∀z∈raw,In64 z):=hr
 have HD:Hid (In64 d0):=hd
 have HMM:Hid (In64 m0):=hm
 have HAA:Hid (In64 a0):=ha
 have HT:Hid (TabB w):=hT
 clear hv hr hd hm ha hT
 by_cases h1:256 < raw.length
 ·have b1:decide ((256:Int) < (raw.length:Int))=true:=decide_eq_true (by omega)
  go_enter Tryz.func3,Tryz.ntmps3
  go_wp2
  go_ret
  exact ⟨rfl,Below.refl _ _⟩
 ·have b1:decide ((256:Int) < (raw.length:Int))=false:=decide_eq_false (by omega)
  have HRL:Hid (raw.length≤1000000):=by
   show _≤_
   omega
  clear h1
  go_enter Tryz.func3,Tryz.ntmps3
  go_wp2_with fail
  refine (pick_any d0 4 w (by omega) (by omega) HD.out).mono ?_
  rintro e w1 ⟨z,rfl,hz,rfl⟩
  obtain ⟨n,hn⟩:∃n:Nat,(n:Int)=1+z:=⟨(1+z).toNat,by omega⟩
  have hz1':=hz.1
  have hz2':=hz.2
  have HN:Hid ((n:Int)=1+z):=hn
  have hn1:1≤n:=by omega
  have hn4:n≤4:=by omega
  clear hz hn
  go_wp2_with fail
  rw [←HN.out]
  refine (pick_any m0 6 w1 (by omega) (by omega) HMM.out).mono ?_
  rintro e w2 ⟨y,rfl,hy,rfl⟩
  obtain ⟨k,hk⟩:∃k:Nat,(k:Int)=y:=⟨y.toNat,by omega⟩
  have hk5:k≤5:=by omega
  subst hk
  clear hy hz1' hz2' HN
  go_wp2_with fail
  refine (pick_any a0 4 w2 (by omega) (by omega) HAA.out).mono ?_
  rintro e w2' ⟨y2,rfl,hy2,rfl⟩
  obtain ⟨wd,hwd⟩:∃wd:Nat,(wd:Int)=1+y2:=⟨(1+y2).toNat,by omega⟩
  have hy1':=hy2.1
  have hy2':=hy2.2
  have HWD:Hid ((wd:Int)=1+y2):=hwd
  have hwd4:wd≤4:=by omega
  clear hy2 hwd
  go_wp2_with fail
  rw [←HWD.out]
  refine (polytopeOf_any B raw _ n k wd w2' HV.out HRR.out HRL.out hn1 hn4 (by omega) (by omega)).mono ?_
  rintro e w3 ⟨x,m,rfl,hml,hbx,hmat,hb3⟩
  have hgood:Good n (polyL n m):=poly_good hn1 hn4 hbx (by omega) (by omega)
  have hlen:(polyL n m).length≤10:=by rw [poly_len]; omega
  have HFS:Hid (Calls Tryz.prog 5 #[.agg #[.int .i64 n,x]] w3 fun e w'=>e=.returned (.bool true)∧Below w3.heap.size w3 w'):=
   faceSays_any n (polyL n m) x w3 (hmat.any (Nat.le_refl _)) hgood (poly_boxF hbx (by omega)) hlen (HT.out.below hb3)
  have HB3:Hid (Below w2'.heap.size w2' w3):=hb3
  obtain ⟨xo,xc,hxv,_,_⟩:=mat_open hmat
  subst hxv
  clear hml hbx hmat hb3 hgood hlen hy1' hy2' HWD
  go_wp2_with fail
  refine HFS.out.mono ?_
  rintro e w4 ⟨rfl,hb4⟩
  have HB4:Hid (Below w2'.heap.size w2' w4):=HB3.out.trans (hb4.mono HB3.out.size)
  clear hb4
  go_wp2
  go_ret
  exact ⟨rfl,HB4.out⟩
end Go.Proofs.YtkfdpcgmpbopnaaGreatDoor
