import Derived.Test.YtdanomklbiidaaaGreatDoorFc0
import Derived.Test.YtdanomklbiidaaaGreatDoorMgBC
import Derived.Test.YtdanomklbiidaaaGreatDoorMgAY
import Derived.Test.YtdanomklbiidaaaGreatDoorMgAR
import Derived.Test.YtdanomklbiidaaaGreatDoorMgBA
namespace Go.Proofs.YtdanomklbiidaaaGreatDoor
open Go.RowKit Lin
attribute [local go_sem ↓] Go.wp_at_zero Go.wp_at_succ
theorem Tryz.infoS:(Tryz.prog.info? 70).map (fun i=>(i.zero,i.size,i.bytes))=some (some (.int .u64 0),1,8):=by kernel_rfl
def u64s (xs:List Nat):List Value:=xs.map fun a:Nat=>Value.int .u64 (a:Int)
theorem u64s_len (xs:List Nat):(u64s xs).length=xs.length:=by simp [u64s]
theorem fc_make {d:Nat} {P P' rows:List (List Int)} (hg:Good d P) (hn:P.length≤16) (hP:Inor P' P) (hr:Inw rows (rowsC P' [] d P')):FcC d (P'.filter fun x=>!twin rows P' x) rows:=by
 have hs:∀r,r∈rowsD P d↔r∈rowsD P d:=fun _=>Iff.rfl
 have hrl:∀r∈rows,RowOf d P r:=fun r hr'=>rowsC_fit hg.box hg.d1 (by have:=hg.d4; omega) hP.mem ((hr.mem r).1 hr')
 have htw:∀y∈P,(twin rows P' y=false↔∀z∈P',z≠y→∃r∈rows,r.getD d 0=dot d (V r) (V y)∧r.getD d 0≠dot d (V r) (V z)):=fun y hy=>
  twin_iff (d:=d) (m:=rows) (P:=P') (x:=y) (fun r hr'=>(hrl r hr').len) (fun z hz=>(hg.box z ((hP.mem z).1 hz)).1) (hg.box y hy).1
 have hcr:∀x∈P,((pickL d (onL d (rowsD P d) x)).length=d↔∀v:Nat→Int,(∀r∈rowsC P [] d P,r.getD d 0=dot d (V r) (V x)→dot d (V r) v=0)→∀i,i < d→v i=0):=fun x hx=>corner_rank hg (fun _=>Iff.rfl) hs hx
 obtain ⟨C,hCe⟩:∃C,C=P'.filter fun x=>!twin rows P' x:=⟨_,rfl⟩
 have hCm:∀y,y∈C↔y∈crn d (rowsD P d) P:=fun y=>by
  rw [hCe]
  unfold crn
  rw [List.mem_filter,List.mem_filter,hP.mem y]
  refine and_congr_right fun hy=>?_
  have h2:=corner_iff hg hP.mem hy
  have h3:=corner_rank hg hP.mem hs hy
  simp only [Bool.not_eq_true',decide_eq_true_eq]
  rw [htw y hy,h3,←h2]
  constructor
  ·intro h z hz hne
   obtain ⟨r,hr1,hr2⟩:=h z ((hP.mem z).2 hz) hne
   exact ⟨r,(hr.mem r).1 hr1,hr2⟩
  ·intro h z hz hne
   obtain ⟨r,hr1,hr2⟩:=h z ((hP.mem z).1 hz) hne
   exact ⟨r,(hr.mem r).2 hr1,hr2⟩
 have hasc:SAsc C:=by rw [hCe]; exact List.Pairwise.filter _ hP.asc
 have hCP:∀y∈C,y∈P:=fun y hy=>(List.mem_filter.1 ((hCm y).1 hy)).1
 rw [←hCe]
 refine ⟨corners_good hg hs hcr hCm (sasc_nodup hasc),?_,hasc,fun r=>?_,hr.asc,fun x hx y hy hxy=>?_⟩
 ·rw [hCe]
  exact Nat.le_trans (List.length_filter_le _ _) (Nat.le_trans hP.len hn)
 ·rw [hr.mem r,rows_same hg hP.mem r]
  exact (rows_corners hg hs hcr hCm (sasc_nodup hasc) r).symm
 ·refine Classical.byContradiction fun hne=>?_
  have hx':x∈P'.filter fun x=>!twin rows P' x:=by rw [←hCe]; exact hx
  have ht:twin rows P' x=false:=by simpa using (List.mem_filter.1 hx').2
  obtain ⟨r,hr1,hr2,hr3⟩:=(htw x (hCP x hx)).1 ht y ((hP.mem y).2 (hCP y hy)) hne
  have:=hxy r hr1 ((over_zero (hrl r hr1).len (hg.box x (hCP x hx)).1).2 hr2)
  exact hr3 ((over_zero (hrl r hr1).len (hg.box y (hCP y hy)).1).1 this)
theorem corners_equalX {d:Nat} {P P' s rows c:List (List Int)} (hg:Good d P) (hP:Inor P' P) (hr:Inw rows (rowsC P' [] d P')) (hm:∀r,r∈s↔r∈rowsD P d) (hc:SAsc c) (hcm:∀y,y∈c↔y∈crn d s P) :
  (P'.filter fun x=>!twin rows P' x)=c:=by
 refine sasc_ext _ c (List.Pairwise.filter _ hP.asc) hc fun y=>?_
 rw [hcm y]
 unfold crn
 rw [List.mem_filter,List.mem_filter,hP.mem y]
 refine and_congr_right fun hy=>?_
 have hrl:∀r∈rows,r.length=d+1:=fun r hr'=>(rowsC_fit hg.box hg.d1 (by have:=hg.d4; omega) hP.mem ((hr.mem r).1 hr')).len
 have h1:=twin_iff (d:=d) (m:=rows) (P:=P') (x:=y) hrl (fun z hz=>(hg.box z ((hP.mem z).1 hz)).1) (hg.box y hy).1
 have h2:=corner_iff hg hP.mem hy
 have h3:=corner_rank hg hP.mem hm hy
 simp only [Bool.not_eq_true',decide_eq_true_eq]
 rw [h1,h3,←h2]
 constructor
 ·intro h z hz hne
  obtain ⟨r,hr1,hr2⟩:=h z ((hP.mem z).2 hz) hne
  exact ⟨r,(hr.mem r).1 hr1,hr2⟩
 ·intro h z hz hne
  obtain ⟨r,hr1,hr2⟩:=h z ((hP.mem z).1 hz) hne
  exact ⟨r,(hr.mem r).2 hr1,hr2⟩
theorem FcC.nod {d:Nat} {C s:List (List Int)} (h:FcC d C s):(s.map (sdN C)).Nodup:=by
 rw [List.nodup_iff_pairwise_ne,List.pairwise_map]
 have h1:s.Pairwise (·≠·):=List.nodup_iff_pairwise_ne.1 (sasc_nodup h.srt)
 exact (List.Pairwise.and_mem.1 h1).imp fun {a b} ⟨ha,hb,hne⟩ e=>hne (side_inj h ha hb e)
theorem FcC.many {d:Nat} {C s:List (List Int)} (h:FcC d C s):s.length≤65536:=by
 have:=nodup_len (s.map (sdN C)) (List.range (2 ^ C.length)) h.nod fun x hx=>by
  obtain ⟨r,_,rfl⟩:=List.mem_map.1 hx
  exact List.mem_range.2 (sdTo_lt C r C.length)
 rw [List.length_map,List.length_range] at this
 exact Nat.le_trans this (pow16 h.n16)
structure BdI (w0:World) (R d:Nat) (cv rv:Value) (xs:List Nat) (sv:Value) (wr:World):Prop where
 box:wr.heap[R]?=some (.cells #[.int .i64 d,cv,rv,sv] 82 (0,0))
 own:wr.ownsRow (R+1) 70 1 sv xs.length (u64s xs)
 bel:Below w0.heap.size w0 wr
 lo:w0.heap.size≤R
theorem BdI.below {w0:World} {R d:Nat} {cv rv:Value} {xs:List Nat} {sv:Value} {wr w2:World} (h:BdI w0 R d cv rv xs sv wr) (hb:Below wr.heap.size wr w2):BdI w0 R d cv rv xs sv w2:=
 ⟨(hb.block R (lt_of_block h.box)).trans h.box,owns_below h.own hb (Nat.le_refl _),h.bel.trans (hb.mono h.bel.size),h.lo⟩
theorem BdI.push {w0:World} {R d t:Nat} {cv rv:Value} {xs:List Nat} {sv v':Value} {wr w3:World} (h:BdI w0 R d cv rv xs sv wr)
  (ho:w3.ownsRow (R+1) 70 1 v' (xs.length+1) (u64s xs ++ [.int .u64 (t:Int)])) (hg:(wr.alloc (.cells #[.int .u64 (t:Int)] 70)).grownBy w3 sv.ownBlock) :
  w3.cell? ⟨R,3,none⟩=some sv∧w3.frozen? ⟨R,3,none⟩=false∧BdI w0 R d cv rv (xs ++ [t]) v' (w3.setCell ⟨R,3,none⟩ v'):=by
 have hR:=lt_of_block h.box
 have hlo:=h.lo
 have hne:sv.ownBlock≠some R:=fun e=>by have:=(h.own.lt R e).1; omega
 have hne':v'.ownBlock≠some R:=fun e=>by have:=(ho.lt R e).1; omega
 have h3:w3.heap[R]?=some (.cells #[.int .i64 d,cv,rv,sv] 82 (0,0)):=by
  rw [hg.block R (by simp; omega) (fun e=>hne e.symm),Below.heap_alloc _ _ _ hR]
  exact h.box
 refine ⟨by simp [World.cell?,h3],by simp [World.frozen?,h3],⟨?_,?_,?_,h.lo⟩⟩
 ·simp [World.setCell,Array.getElem?_modify,h3]
 ·have:=ownsRow_setCell_other ho (a:=⟨R,3,none⟩) hne' v'
  simpa [u64s] using this
 ·exact ((h.bel.alloc (Nat.le_trans hlo (Nat.le_of_lt hR)) _).grown hg (by simp; omega) (fun k hk=>by have:=(h.own.lt k hk).1; omega)).setCell (by exact hlo) _
theorem mat0_off {w W:World} {v:Value} {m:List (List Int)} {R2:Nat} {cur:Array Value} (h:Mat 0 22 3 w v m) (hR:w.heap[R2]?=some (.cells cur 82 (0,0))) (hk:∀b,b≠R2→W.heap[b]?=w.heap[b]?):Mat 0 22 3 W v m:=by
 obtain ⟨vs,h1,h2,h3⟩:=h
 refine ⟨vs,h1,h2.move fun b hl ht=>⟨hk b fun e=>?_,ht⟩,fun i hi=>(h3 i hi).move fun b hl ht=>⟨hk b fun e=>?_,ht⟩⟩
 ·subst e
  rcases ht with ht | ⟨c,ht⟩
  ·omega
  ·rw [hR] at ht; simp at ht
 ·subst e
  rcases ht with ht | ⟨c,ht⟩
  ·omega
  ·rw [hR] at ht; simp at ht
theorem fr_mat0F {B:Nat} {w:World} {v:Value} {m:List (List Int)} (h:Fr B 22 3 w v m):Mat 0 22 3 w v m:=by
 obtain ⟨vs,h1,h2,h3⟩:=h
 exact ⟨vs,h1,Sl.own h2,h3⟩
theorem four_set (w:World) (R:Nat) (x0 x1 x2 x3 y0 y1 y2 y3:Value) (t:TypeId) (h:w.heap[R]?=some (.cells #[x0,x1,x2,x3] t (0,0))) :
  ∃W,W=(((w.setCell ⟨R,0,none⟩ y0).setCell ⟨R,1,none⟩ y1).setCell ⟨R,2,none⟩ y2).setCell ⟨R,3,none⟩ y3∧W.heap[R]?=some (.cells #[y0,y1,y2,y3] t (0,0))∧(∀b,b≠R→W.heap[b]?=w.heap[b]?)∧W.heap.size=w.heap.size∧W.os=w.os∧W.tape=w.tape∧W.output=w.output:=by
 refine ⟨_,rfl,?_,fun b hb=>?_,by simp [World.setCell],rfl,rfl,rfl⟩
 ·simp [World.setCell,Array.getElem?_modify,h]
 ·rw [Below.heap_setCell _ _ _ _ hb,Below.heap_setCell _ _ _ _ hb,Below.heap_setCell _ _ _ _ hb,Below.heap_setCell _ _ _ _ hb]
theorem owns_off {w W:World} {B n R2:Nat} {e:TypeId} {v:Value} {xs:List Value} (h:w.ownsRow B e 1 v n xs) (hk:∀b,b≠R2→W.heap[b]?=w.heap[b]?) (hR:R2 < B):W.ownsRow B e 1 v n xs:=by
 refine ⟨h.1,?_⟩
 rcases h.2 with q | ⟨b,cap,cur,rfl,r1,r2,r3⟩
 ·exact Or.inl q
 ·exact Or.inr ⟨b,cap,cur,rfl,r1,(hk b (by omega)).trans r2,r3⟩
theorem two_heapF (w:World) (A B:Obj):((w.alloc A).alloc B).heap[w.heap.size]?=some A∧((w.alloc A).alloc B).heap[w.heap.size+1]?=some B:=by
 have e:((w.alloc A).alloc B).heap=(w.heap.push A).push B:=rfl
 rw [e]
 simp only [Array.getElem?_push,Array.size_push]
 refine ⟨?_,?_⟩
 ·rw [if_neg (by omega),if_pos trivial]
 ·rw [if_pos trivial]
structure BodP (w0:World) (d:Nat) (P:List (List Int)) (C s:List (List Int)) (cv rv sv:Value) (w':World):Prop where
 cns:Mat 0 22 3 w' cv C
 rows:Mat 0 22 3 w' rv s
 sds:w'.ownsRow w0.heap.size 70 1 sv s.length (u64s (s.map (sdN C)))
 ok:FcC d C s
 doc:∀s0 c,(∀r,r∈s0↔r∈rowsD P d)→SAsc c→(∀y,y∈c↔y∈crn d s0 P)→C=c
 len:C.length≤P.length
 bel:Below w0.heap.size w0 w'
 req:∀s0,SAsc s0→(∀r,r∈s0↔r∈rowsD P d)→s=s0
set_option maxRecDepth 100000 in
set_option maxHeartbeats 4000000 in
theorem bodyOf_any (d:Nat) (P:List (List Int)) (v:Value) (w:World) (hv:Mat w.heap.size 22 3 w v P) (hg:Good d P) (hn:P.length≤16) :
  Calls Tryz.prog 57 #[.agg #[.int .i64 d,v]] w fun e w'=>∃C s co cc ro rc to tc,e=.returned (.tuple #[.agg #[.int .i64 d,.slice co C.length cc,.slice ro s.length rc,.slice to s.length tc],.int .i64 0])∧BodP w d P C s (.slice co C.length cc) (.slice ro s.length rc) (.slice to s.length tc) w':=by
 obtain ⟨i3,hi3,hz30,hz31,hz32⟩:=info_parts Tryz.infoS
 obtain ⟨po,pc,rfl,hlc,hcm⟩:=mat_open hv
 have HG:Hid (Good d P):=hg
 have h1:=hg.d1
 have h4:=hg.d4
 obtain ⟨W,hW⟩:∃W,W=(w.alloc (.cells #[.int .i64 d,.slice po P.length pc] 34)).alloc (.cells #[.int .i64 0,.slice none 0 0,.slice none 0 0,.slice none 0 0] 82):=⟨_,rfl⟩
 have hbw:Below w.heap.size w W:=by rw [hW]; exact ((Below.refl _ _).alloc (Nat.le_refl _) _).alloc (by simp) _
 have hsW:W.heap.size=w.heap.size+2:=by rw [hW]; simp
 have b0:W.heap[w.heap.size]?=some (.cells #[.int .i64 d,.slice po P.length pc] 34 (0,0)):=by rw [hW]; exact (two_heapF _ _ _).1
 have b1:W.heap[w.heap.size+1]?=some (.cells #[.int .i64 0,.slice none 0 0,.slice none 0 0,.slice none 0 0] 82 (0,0)):=by rw [hW]; exact (two_heapF _ _ _).2
 have HW:Hid (Below w.heap.size w W):=hbw
 have HV:Hid (∀X,Below W.heap.size W X→Mat X.heap.size 22 3 X (.slice po P.length pc) P):=fun X hX=>(((hv.below hbw (Nat.le_refl _)).any (Nat.le_refl _)).below hX (Nat.le_refl _)).any (Nat.le_refl _)
 have HC:Hid (∀X,Below W.heap.size W X→X.cell? ⟨w.heap.size,0,none⟩=some (.int .i64 d)∧X.cell? ⟨w.heap.size,1,none⟩=some (.slice po P.length pc)):=fun X hX=>by
  have h0:=(hX.block w.heap.size (by omega)).trans b0
  exact ⟨by simp [World.cell?,h0],by simp [World.cell?,h0]⟩
 have HB1:Hid (∀X,Below W.heap.size W X→X.heap[w.heap.size+1]?=some (.cells #[.int .i64 0,.slice none 0 0,.slice none 0 0,.slice none 0 0] 82 (0,0))):=fun X hX=>(hX.block _ (by omega)).trans b1
 have HRO:Hid (∀X,Below W.heap.size W X→Calls Tryz.prog 88 #[.agg #[.int .i64 d,.slice po P.length pc]] X fun e w'=>∃P' ro rc rows,e=.returned (.tuple #[.slice ro rows.length rc,.int .i64 0])∧(Inor P' P∧Inw rows (rowsC P' [] d P')∧Mat 0 22 3 w' (.slice ro rows.length rc) rows∧Below X.heap.size X w')):=fun X hX=>by
  refine (rowsK_fr d P _ X (HV.out X hX) HG.out).mono ?_
  rintro e w' ⟨P',u,rows,q1,q2,rfl,q4,q3⟩
  have q5:=fr_mat0F q4
  obtain ⟨ro,rc,rfl,_,_⟩:=mat_open q5
  exact ⟨P',ro,rc,rows,rfl,q1,q2,q5,q3⟩
 have HCO:Hid (∀X,Below W.heap.size W X→Calls Tryz.prog 23 #[.agg #[.int .i64 d,.slice po P.length pc]] X fun e w'=>∃P' co cl cc rows,e=.returned (.tuple #[.slice co cl cc,.int .i64 0])∧(Inor P' P∧Inw rows (rowsC P' [] d P')∧cl=(P'.filter fun x=>!twin rows P' x).length∧Mat 0 22 3 w' (.slice co cl cc) (P'.filter fun x=>!twin rows P' x)∧Below X.heap.size X w')):=fun X hX=>by
  refine (cornersK_fr d P _ X (HV.out X hX) HG.out).mono ?_
  rintro e w' ⟨P',u,rows,q1,q2,rfl,q4,q3⟩
  have q5:=fr_mat0F q4
  obtain ⟨co,cc,rfl,_,_⟩:=mat_open q5
  exact ⟨P',co,_,cc,rows,rfl,q1,q2,rfl,q5,q3⟩
 clear hv hg hbw b0 b1
 go_enter Tryz.func57,Tryz.ntmps57
 obtain ⟨e0,e1⟩:=HC.out W (Below.refl _ _)
 go_upto_region 1 with fail
 rw [←hW]
 clear hW
 go_wp2_with fail
 refine (HRO.out W (Below.refl _ _)).mono ?_
 rintro e w3 ⟨P1,ro,rc,rows,rfl,hr1,hr2,hr3,hr4⟩
 have HB3:Hid (Below W.heap.size W w3):=hr4
 have HM3:Hid (Mat 0 22 3 w3 (.slice ro rows.length rc) rows):=hr3
 clear e0 e1 hr3 hr4
 obtain ⟨e0,e1⟩:=HC.out w3 HB3.out
 go_wp2_with fail
 refine (HCO.out w3 HB3.out).mono ?_
 rintro e w4 ⟨P',co,cl,cc,rows',rfl,hq1,hq2,hq3,hq4,hq5⟩
 have hPP:P1=P':=sasc_ext _ _ hr1.asc hq1.asc fun r=>(hr1.mem r).trans (hq1.mem r).symm
 subst hPP
 have hRR:rows=rows':=sasc_ext _ _ hr2.asc hq2.asc fun r=>(hr2.mem r).trans (hq2.mem r).symm
 subst hRR
 obtain ⟨C,hCe⟩:∃C,C=P1.filter fun x=>!twin rows P1 x:=⟨_,rfl⟩
 rw [←hCe] at hq3 hq4
 have HOKF:Hid (FcC d C rows):=by rw [hCe]; exact fc_make HG.out hn hr1 hr2
 have HREQ:Hid (∀s0,SAsc s0→(∀r,r∈s0↔r∈rowsD P d)→rows=s0):=fun s0 k1 k2=>sasc_ext rows s0 hr2.asc k1 fun r=>by rw [hr2.mem r,k2 r,mem_rowsD]; exact rows_same HG.out hr1.mem r
 have HFROM:Hid ((∀s0 c,(∀r,r∈s0↔r∈rowsD P d)→SAsc c→(∀y,y∈c↔y∈crn d s0 P)→C=c)∧C.length≤P.length):=⟨fun s0 c k1 k2 k3=>by rw [hCe]; exact corners_equalX HG.out hr1 hr2 k1 k2 k3,by rw [hCe]; exact Nat.le_trans (List.length_filter_le _ _) hr1.len⟩
 have HB4:Hid (Below W.heap.size W w4):=HB3.out.trans (hq5.mono HB3.out.size)
 have HM4:Hid (∀X,Below w4.heap.size w4 X→Mat 0 22 3 X (.slice ro rows.length rc) rows):=fun X hX=>(HM3.out.below hq5 (Nat.le_refl _)).below hX (Nat.le_refl _)
 have HC4:Hid (∀X,Below w4.heap.size w4 X→Mat 0 22 3 X (.slice co cl cc) C):=fun X hX=>hq4.below hX (Nat.le_refl _)
 have HCL:Hid (cl=C.length):=hq3
 obtain ⟨vs0,cp0,hrv0,hrlc,hrlm⟩:=mat_open HM3.out
 have hrl:rows.length≤9223372036854775807:=by omega
 have HRL:Hid (rows.length≤1000000):=by
  exact Nat.le_trans HOKF.out.many (by decide)
 clear e0 e1 hr1 hr2 hq1 hq2 hq3 hq4 hq5 hCe hrv0 hrlc hrlm HRO HCO HM3
 obtain ⟨e0,e1⟩:=HC.out w4 HB4.out
 obtain ⟨R,hR⟩:∃R,R=w4.heap.size:=⟨_,rfl⟩
 obtain ⟨W5,hW5⟩:∃W5,W5=w4.alloc (.cells #[.int .i64 d,.slice co cl cc,.slice ro rows.length rc,.slice none 0 0] 82):=⟨_,rfl⟩
 have HBI0:Hid (BdI w4 R d (.slice co cl cc) (.slice ro rows.length rc) [] (.slice none 0 0) W5):=by
  rw [hR,hW5]
  exact ⟨alloc_at _ _,World.ownsRow_nil _ _ _ _,(Below.refl _ _).alloc (Nat.le_refl _) _,Nat.le_refl _⟩
 have HRR:Hid (R=w4.heap.size):=hR
 have HW5:Hid (W5=w4.alloc (.cells #[.int .i64 d,.slice co cl cc,.slice ro rows.length rc,.slice none 0 0] 82)):=hW5
 clear hR hW5
 go_upto_region 8 with fail
 rw [←HW5.out,←HRR.out]
 clear HW5 e0 e1
 have hrl6:=HRL.out
 go_wp2
 go_loopw [9,35] (fun _ i wr=>∃k:Nat,k≤rows.length∧i=.int .i64 k∧∃so sc,BdI w4 R d (.slice co cl cc) (.slice ro rows.length rc) ((rows.take k).map (sdN C)) (.slice so k sc) wr) (fun _ i _=>rows.length-(intOf i).toNat)
 case atStart=>exact ⟨0,Nat.zero_le _,rfl,none,0,HBI0.out⟩
 case round=>
  obtain ⟨k,hk,rfl,so,sc,hbi⟩:=hrel
  have HBI:Hid (BdI w4 R d (.slice co cl cc) (.slice ro rows.length rc) ((rows.take k).map (sdN C)) (.slice so k sc) wr):=hbi
  have HCB:Hid (∀X,Below wr.heap.size wr X→X.cell? ⟨R,3,none⟩=some (.slice so k sc)):=fun X hX=>by
   have h0:=(hX.block R (lt_of_block HBI.out.box)).trans HBI.out.box
   simp [World.cell?,h0]
  clear hbi
  by_cases hlt:k < rows.length
  ·obtain ⟨qb,qo,qcp,q1,hqs,_,hqc,hq1⟩:=mat_cell (HM4.out wr HBI.out.bel) hlt
   simp only [Value.slice.injEq,true_and] at hqs
   obtain ⟨rfl,rfl⟩:=hqs
   have hkm:rows.getD k []∈rows:=by simp [hlt]
   have hro:=HOKF.out.len hkm
   obtain ⟨yo,yc,rfl,_,_⟩:=sl_open hq1
   have HMB:Hid (∀X,Below wr.heap.size wr X→Calls Tryz.prog 89 #[.slice yo (rows.getD k []).length yc,.slice co cl cc] X fun e w'=>e=.returned (.int .u64 (sdN C (rows.getD k [])))∧Below X.heap.size X w'):=fun X hX=>
    metBy_any d C (rows.getD k []) _ _ X ((hq1.below hX (Nat.le_refl _)).more (Nat.zero_le _)) ((HC4.out X (HBI.out.bel.trans (hX.mono HBI.out.bel.size))).more (Nat.zero_le _)) hro.len (fun y hy=>(HOKF.out.g.box y hy).1) (fun y hy=>by
     have:=sm_of hro HOKF.out.g.d4 (HOKF.out.g.box y hy).1 (box_small HOKF.out.g.box hy)
     have h2:=this.2
     rw [(HOKF.out.g.box y hy).1] at h2
     exact h2) HOKF.out.n16
   have HKL:Hid (((rows.take k).map (sdN C)).length=k):=by show _=_; simp; omega
   have HPU:Hid (∀w2 v' w3,BdI w4 R d (.slice co cl cc) (.slice (some ⟨qb,qo,none⟩) rows.length rc) ((rows.take k).map (sdN C)) (.slice so k sc) w2→w3.ownsRow (R+1) 70 1 v' (k+1) (u64s ((rows.take k).map (sdN C)) ++ [.int .u64 (sdN C (rows.getD k []):Int)])→(w2.alloc (.cells #[.int .u64 (sdN C (rows.getD k []):Int)] 70)).grownBy w3 (Value.slice so k sc).ownBlock→
     w3.cell? ⟨R,3,none⟩=some (.slice so k sc)∧w3.frozen? ⟨R,3,none⟩=false∧BdI w4 R d (.slice co cl cc) (.slice (some ⟨qb,qo,none⟩) rows.length rc) ((rows.take (k+1)).map (sdN C)) v' (w3.setCell ⟨R,3,none⟩ v')):=fun w2 v' w3 h ho hg=>by
    have h2:=h.push (t:=sdN C (rows.getD k [])) (v':=v') (w3:=w3) (by rw [HKL.out]; exact ho) hg
    have e:(rows.take (k+1)).map (sdN C)=(rows.take k).map (sdN C) ++ [sdN C (rows.getD k [])]:=by
     rw [List.take_succ_eq_append_getElem hlt,List.map_append]
     simp [hlt]
    rw [e]
    exact h2
   generalize sdN C (rows.getD k [])=tt at *
   generalize hql:(rows.getD k []).length=ql at *
   clear hql hkm hro hq1
   have hkI:(k:Int) < (rows.length:Int):=by omega
   go_upto_region 11 with fail
   obtain ⟨WD,hWD⟩:∃WD,WD=wr.drew:=⟨_,rfl⟩
   have HBD:Hid (Below wr.heap.size wr WD):=by rw [hWD]; exact (Below.refl _ _).drew
   refine wp_region_held_drew (S:=fun _=>True) (by kernel_rfl) trivial (fun hHeld=>?_)
   rw [←hWD]
   clear hWD
   refine wpAnyH_tk (i:=0) (d:=39) (v:=.pointer (some ⟨R,3,none⟩)) rfl rfl (by kernel_rfl) (by kernel_rfl) (by kernel_rfl) (fun _ _ _ h=>h) (.inl ⟨by rfl,by (intro wq hSw; (try dsimp only at hSw); go_simp; (try (first | rfl | omega)))⟩) hHeld ?_
   simp only [Act.put,List.setIfInBounds_toArray,List.set_cons_zero,List.set_cons_succ]
   refine wpAnyH_tk (i:=2) (d:=41) (v:=.slice yo ql yc) rfl rfl (by kernel_rfl) (by kernel_rfl) (by kernel_rfl) (fun _ _ _ h=>h) (.inl ⟨by rfl,by (intro wq hSw; (try dsimp only at hSw); go_simp; (try (first | rfl | omega)))⟩) hHeld ?_
   simp only [Act.put,List.setIfInBounds_toArray,List.set_cons_zero,List.set_cons_succ]
   refine wpAnyH_tk (i:=3) (d:=42) (v:=.slice co cl cc) rfl rfl (by kernel_rfl) (by kernel_rfl) (by kernel_rfl) (fun _ _ _ h=>h) (.inl ⟨by rfl,by (intro wq hSw; (try dsimp only at hSw); go_simp; (try (first | rfl | omega)))⟩) hHeld ?_
   simp only [Act.put,List.setIfInBounds_toArray,List.set_cons_zero,List.set_cons_succ]
   refine wpAnyH_ready (rs:=[1,4]) (by kernel_rfl) (by simp) ?_
   refine ready_tk (i:=1) rfl (by rfl) (fun K hK=>?_) (ready_tk (i:=4) rfl (by rfl) (fun K hK=>?_) AllReadyH.nil)
   ·have hcr:=HCB.out WD HBD.out
    go_simp
    refine hK.out _ _ trivial (fun hHeld=>?_)
    clear hK K hcr
    try simp only [Act.put,List.setIfInBounds_toArray,List.set_cons_zero,List.set_cons_succ]
    refine wpAnyH_ready (rs:=[4]) (by kernel_rfl) (by simp) ?_
    refine ready_tk (i:=4) rfl (by rfl) (fun K hK=>?_) AllReadyH.nil
    go_simp
    refine (HMB.out WD HBD.out).mono ?_
    rintro e w2 ⟨rfl,hb2⟩
    refine hK.out _ _ trivial (fun hHeld=>?_)
    clear hK K
    try simp only [Act.put,List.setIfInBounds_toArray,List.set_cons_zero,List.set_cons_succ]
    refine wpAnyH_ready (rs:=[5]) (by kernel_rfl) (by simp) ?_
    refine ready_tk (i:=5) rfl (by rfl) (fun K hK=>?_) AllReadyH.nil
    go_simp
    refine hK.out _ _ trivial (fun hHeld=>?_)
    clear hK K
    try simp only [Act.put,List.setIfInBounds_toArray,List.set_cons_zero,List.set_cons_succ]
    have HI2:Hid (BdI w4 R d (.slice co cl cc) (.slice (some ⟨qb,qo,none⟩) rows.length rc) ((rows.take k).map (sdN C)) (.slice so k sc) w2):=HBI.out.below (HBD.out.trans (hb2.mono HBD.out.size))
    refine wpAnyH_ready (rs:=[6]) (by kernel_rfl) (by simp) ?_
    refine ready_tk (i:=6) rfl (by rfl) (fun K hK=>?_) AllReadyH.nil
    refine op_append_ownA _ _ 67 rfl (R+1) 70 i3 (.int .u64 0) 1 8 Tryz.underlying67 hi3 hz30 hz31 hz32 rfl (by decide) (.slice so k sc) k (u64s ((rows.take k).map (sdN C))) rfl (by have h:=HI2.out.own; rw [HKL.out] at h; exact h.alloc _) ⟨w2.heap.size,0,none⟩ 1 1 [.int .u64 (tt:Int)] rfl rfl (one_new _ _ _) (one_u64 _) (by unfold maxLen; omega) (by omega) (by have:=lt_of_block HI2.out.box; simp; omega) ?_
    intro v' w3 ho hg _
    obtain ⟨vo8,vc8,hv8⟩:=owns_form ho
    subst hv8
    obtain ⟨k1,k2,k3⟩:=HPU.out w2 (.slice vo8 (k+1) vc8) w3 HI2.out ho hg
    have K3:Hid (BdI w4 R d (.slice co cl cc) (.slice (some ⟨qb,qo,none⟩) rows.length rc) ((rows.take (k+1)).map (sdN C)) (.slice vo8 (k+1) vc8) (w3.setCell ⟨R,3,none⟩ (.slice vo8 (k+1) vc8))):=k3
    clear k3 ho hg
    refine hK.out _ _ trivial (fun hHeld=>?_)
    clear hK K
    try simp only [Act.put,List.setIfInBounds_toArray,List.set_cons_zero,List.set_cons_succ]
    refine wpAnyH_tk (i:=7) (d:=46) (v:=.pointer (some ⟨R,3,none⟩)) rfl rfl (by kernel_rfl) (by kernel_rfl) (by kernel_rfl) (fun _ _ _ h=>h) (.inl ⟨by rfl,by (intro wq hSw; (try dsimp only at hSw); go_simp; (try (first | rfl | omega)))⟩) hHeld ?_
    simp only [Act.put,List.setIfInBounds_toArray,List.set_cons_zero,List.set_cons_succ]
    refine wpAnyH_ready (rs:=[8]) (by kernel_rfl) (by simp) ?_
    refine ready_tk (i:=8) rfl (by rfl) (fun K hK=>?_) AllReadyH.nil
    go_simp
    refine hK.out _ _ trivial (fun hHeld=>?_)
    clear hK K
    refine wpAnyH_done (by kernel_rfl) ?_ _
    clear hHeld k1 k2
    go_wp2
    go_roundw
    case rel=>exact ⟨k+1,by omega,by go_num,_,_,K3.out⟩
    case measure=>simp [intOf]; omega
   ·go_simp
    refine (HMB.out WD HBD.out).mono ?_
    rintro e w2 ⟨rfl,hb2⟩
    refine hK.out _ _ trivial (fun hHeld=>?_)
    clear hK K
    try simp only [Act.put,List.setIfInBounds_toArray,List.set_cons_zero,List.set_cons_succ]
    refine wpAnyH_ready (rs:=[1,5]) (by kernel_rfl) (by simp) ?_
    refine ready_tk (i:=1) rfl (by rfl) (fun K hK=>?_) (ready_tk (i:=5) rfl (by rfl) (fun K hK=>?_) AllReadyH.nil)
    ·have hcr:=HCB.out w2 (HBD.out.trans (hb2.mono HBD.out.size))
     go_simp
     refine hK.out _ _ trivial (fun hHeld=>?_)
     clear hK K hcr
     try simp only [Act.put,List.setIfInBounds_toArray,List.set_cons_zero,List.set_cons_succ]
     refine wpAnyH_ready (rs:=[5]) (by kernel_rfl) (by simp) ?_
     refine ready_tk (i:=5) rfl (by rfl) (fun K hK=>?_) AllReadyH.nil
     go_simp
     refine hK.out _ _ trivial (fun hHeld=>?_)
     clear hK K
     try simp only [Act.put,List.setIfInBounds_toArray,List.set_cons_zero,List.set_cons_succ]
     have HI2:Hid (BdI w4 R d (.slice co cl cc) (.slice (some ⟨qb,qo,none⟩) rows.length rc) ((rows.take k).map (sdN C)) (.slice so k sc) w2):=HBI.out.below (HBD.out.trans (hb2.mono HBD.out.size))
     refine wpAnyH_ready (rs:=[6]) (by kernel_rfl) (by simp) ?_
     refine ready_tk (i:=6) rfl (by rfl) (fun K hK=>?_) AllReadyH.nil
     refine op_append_ownA _ _ 67 rfl (R+1) 70 i3 (.int .u64 0) 1 8 Tryz.underlying67 hi3 hz30 hz31 hz32 rfl (by decide) (.slice so k sc) k (u64s ((rows.take k).map (sdN C))) rfl (by have h:=HI2.out.own; rw [HKL.out] at h; exact h.alloc _) ⟨w2.heap.size,0,none⟩ 1 1 [.int .u64 (tt:Int)] rfl rfl (one_new _ _ _) (one_u64 _) (by unfold maxLen; omega) (by omega) (by have:=lt_of_block HI2.out.box; simp; omega) ?_
     intro v' w3 ho hg _
     obtain ⟨vo8,vc8,hv8⟩:=owns_form ho
     subst hv8
     obtain ⟨k1,k2,k3⟩:=HPU.out w2 (.slice vo8 (k+1) vc8) w3 HI2.out ho hg
     have K3:Hid (BdI w4 R d (.slice co cl cc) (.slice (some ⟨qb,qo,none⟩) rows.length rc) ((rows.take (k+1)).map (sdN C)) (.slice vo8 (k+1) vc8) (w3.setCell ⟨R,3,none⟩ (.slice vo8 (k+1) vc8))):=k3
     clear k3 ho hg
     refine hK.out _ _ trivial (fun hHeld=>?_)
     clear hK K
     try simp only [Act.put,List.setIfInBounds_toArray,List.set_cons_zero,List.set_cons_succ]
     refine wpAnyH_tk (i:=7) (d:=46) (v:=.pointer (some ⟨R,3,none⟩)) rfl rfl (by kernel_rfl) (by kernel_rfl) (by kernel_rfl) (fun _ _ _ h=>h) (.inl ⟨by rfl,by (intro wq hSw; (try dsimp only at hSw); go_simp; (try (first | rfl | omega)))⟩) hHeld ?_
     simp only [Act.put,List.setIfInBounds_toArray,List.set_cons_zero,List.set_cons_succ]
     refine wpAnyH_ready (rs:=[8]) (by kernel_rfl) (by simp) ?_
     refine ready_tk (i:=8) rfl (by rfl) (fun K hK=>?_) AllReadyH.nil
     go_simp
     refine hK.out _ _ trivial (fun hHeld=>?_)
     clear hK K
     refine wpAnyH_done (by kernel_rfl) ?_ _
     clear hHeld k1 k2
     go_wp2
     go_roundw
     case rel=>exact ⟨k+1,by omega,by go_num,_,_,K3.out⟩
     case measure=>simp [intOf]; omega
    ·go_simp
     refine hK.out _ _ trivial (fun hHeld=>?_)
     clear hK K
     try simp only [Act.put,List.setIfInBounds_toArray,List.set_cons_zero,List.set_cons_succ]
     refine wpAnyH_ready (rs:=[1]) (by kernel_rfl) (by simp) ?_
     refine ready_tk (i:=1) rfl (by rfl) (fun K hK=>?_) AllReadyH.nil
     have hcr:=HCB.out (w2.alloc (.cells #[.int .u64 (tt:Int)] 70)) ((HBD.out.trans (hb2.mono HBD.out.size)).alloc (Nat.le_trans HBD.out.size hb2.size) _)
     go_simp
     refine hK.out _ _ trivial (fun hHeld=>?_)
     clear hK K hcr
     try simp only [Act.put,List.setIfInBounds_toArray,List.set_cons_zero,List.set_cons_succ]
     have HI2:Hid (BdI w4 R d (.slice co cl cc) (.slice (some ⟨qb,qo,none⟩) rows.length rc) ((rows.take k).map (sdN C)) (.slice so k sc) w2):=HBI.out.below (HBD.out.trans (hb2.mono HBD.out.size))
     refine wpAnyH_ready (rs:=[6]) (by kernel_rfl) (by simp) ?_
     refine ready_tk (i:=6) rfl (by rfl) (fun K hK=>?_) AllReadyH.nil
     refine op_append_ownA _ _ 67 rfl (R+1) 70 i3 (.int .u64 0) 1 8 Tryz.underlying67 hi3 hz30 hz31 hz32 rfl (by decide) (.slice so k sc) k (u64s ((rows.take k).map (sdN C))) rfl (by have h:=HI2.out.own; rw [HKL.out] at h; exact h.alloc _) ⟨w2.heap.size,0,none⟩ 1 1 [.int .u64 (tt:Int)] rfl rfl (one_new _ _ _) (one_u64 _) (by unfold maxLen; omega) (by omega) (by have:=lt_of_block HI2.out.box; simp; omega) ?_
     intro v' w3 ho hg _
     obtain ⟨vo8,vc8,hv8⟩:=owns_form ho
     subst hv8
     obtain ⟨k1,k2,k3⟩:=HPU.out w2 (.slice vo8 (k+1) vc8) w3 HI2.out ho hg
     have K3:Hid (BdI w4 R d (.slice co cl cc) (.slice (some ⟨qb,qo,none⟩) rows.length rc) ((rows.take (k+1)).map (sdN C)) (.slice vo8 (k+1) vc8) (w3.setCell ⟨R,3,none⟩ (.slice vo8 (k+1) vc8))):=k3
     clear k3 ho hg
     refine hK.out _ _ trivial (fun hHeld=>?_)
     clear hK K
     try simp only [Act.put,List.setIfInBounds_toArray,List.set_cons_zero,List.set_cons_succ]
     refine wpAnyH_tk (i:=7) (d:=46) (v:=.pointer (some ⟨R,3,none⟩)) rfl rfl (by kernel_rfl) (by kernel_rfl) (by kernel_rfl) (fun _ _ _ h=>h) (.inl ⟨by rfl,by (intro wq hSw; (try dsimp only at hSw); go_simp; (try (first | rfl | omega)))⟩) hHeld ?_
     simp only [Act.put,List.setIfInBounds_toArray,List.set_cons_zero,List.set_cons_succ]
     refine wpAnyH_ready (rs:=[8]) (by kernel_rfl) (by simp) ?_
     refine ready_tk (i:=8) rfl (by rfl) (fun K hK=>?_) AllReadyH.nil
     go_simp
     refine hK.out _ _ trivial (fun hHeld=>?_)
     clear hK K
     refine wpAnyH_done (by kernel_rfl) ?_ _
     clear hHeld k1 k2
     go_wp2
     go_roundw
     case rel=>exact ⟨k+1,by omega,by go_num,_,_,K3.out⟩
     case measure=>simp [intOf]; omega
  ·have hke:k=rows.length:=by omega
   subst hke
   have hbx:=HBI.out.box
   have hRB:Below W.heap.size W wr:=HB4.out.trans (HBI.out.bel.mono HB4.out.size)
   have hz:=HB1.out wr hRB
   have c0:wr.cell? ⟨R,0,none⟩=some (.int .i64 d):=by simp [World.cell?,hbx]
   have c1:wr.cell? ⟨R,1,none⟩=some (.slice co cl cc):=by simp [World.cell?,hbx]
   have c2:wr.cell? ⟨R,2,none⟩=some (.slice ro rows.length rc):=by simp [World.cell?,hbx]
   have c3:wr.cell? ⟨R,3,none⟩=some (.slice so rows.length sc):=by simp [World.cell?,hbx]
   have z0:wr.cell? ⟨w.heap.size+1,0,none⟩=some (.int .i64 0):=by simp [World.cell?,hz]
   have z1:wr.cell? ⟨w.heap.size+1,1,none⟩=some (.slice none 0 0):=by simp [World.cell?,hz]
   have z2:wr.cell? ⟨w.heap.size+1,2,none⟩=some (.slice none 0 0):=by simp [World.cell?,hz]
   have z3:wr.cell? ⟨w.heap.size+1,3,none⟩=some (.slice none 0 0):=by simp [World.cell?,hz]
   have f0:wr.frozen? ⟨w.heap.size+1,0,none⟩=false:=by simp [World.frozen?,hz]
   have f1:wr.frozen? ⟨w.heap.size+1,1,none⟩=false:=by simp [World.frozen?,hz]
   have f2:wr.frozen? ⟨w.heap.size+1,2,none⟩=false:=by simp [World.frozen?,hz]
   have f3:wr.frozen? ⟨w.heap.size+1,3,none⟩=false:=by simp [World.frozen?,hz]
   obtain ⟨Wf,hWf,g0,g1,g2,g3,g4,g5⟩:=four_set wr (w.heap.size+1) _ _ _ _ (.int .i64 d) (.slice co cl cc) (.slice ro rows.length rc) (.slice so rows.length sc) _ hz
   have hRlo:w.heap.size+2≤R:=by have:=HB4.out.size; have:=HRR.out; omega
   have hcl:=HCL.out
   have HPOST:Hid (BodP w d P C rows (.slice co C.length cc) (.slice ro rows.length rc) (.slice so rows.length sc) Wf):=by
    refine ⟨?_,mat0_off (HM4.out wr HBI.out.bel) hz g1,?_,HOKF.out,HFROM.out.1,HFROM.out.2,?_,HREQ.out⟩
    ·rw [←hcl]
     exact mat0_off (HC4.out wr HBI.out.bel) hz g1
    ·have h:=HBI.out.own
     rw [List.take_length,List.length_map] at h
     exact (owns_off h g1 (by omega)).mono (by omega)
    ·have hb:=HW.out.trans (hRB.mono HW.out.size)
     exact ⟨g3.trans hb.os,g4.trans hb.tape,g5.trans hb.output,by rw [g2]; exact hb.size,fun b hlt'=>(g1 b (by omega)).trans (hb.block b hlt')⟩
   have HG0:Hid (Wf.heap[w.heap.size+1]?=some (.cells #[.int .i64 d,.slice co cl cc,.slice ro rows.length rc,.slice so rows.length sc] 82 (0,0))):=g0
   clear hbx hRB hz g0 g1 g2 g3 g4 g5 HBI HCB HM4 HC4 hcl
   go_wp2
   rw [←hWf]
   have g0:=HG0.out
   refine bodyPost_ret (v:=.tuple #[.agg #[.int .i64 d,.slice co cl cc,.slice ro rows.length rc,.slice so rows.length sc],.int .i64 0]) (by simp [results,Tryz.results57,go_sem,World.cell?,g0]) rfl ?_
   exact ⟨C,rows,co,cc,ro,rc,so,sc,by rw [←HCL.out],HPOST.out⟩
end Go.Proofs.YtdanomklbiidaaaGreatDoor
