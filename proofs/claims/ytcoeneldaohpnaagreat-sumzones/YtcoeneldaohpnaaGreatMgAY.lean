import Derived.Test.YtcoeneldaohpnaaGreatHmz
import Derived.Test.YtcoeneldaohpnaaGreatMgAX
import Derived.Test.YtcoeneldaohpnaaGreatMgAM
import Derived.Test.YtcoeneldaohpnaaGreatMgAW
import Derived.Test.YtcoeneldaohpnaaGreatMgAR
import Derived.Test.YtcoeneldaohpnaaGreatMgAS
import Derived.Test.YtcoeneldaohpnaaGreatMgAH
import Derived.Test.YtcoeneldaohpnaaGreatMgAF
namespace Go.Proofs.YtcoeneldaohpnaaGreat
open Go.RowKit Lin
attribute [local go_sem ↓] Go.wp_at_zero Go.wp_at_succ
set_option maxRecDepth 100000 in
set_option maxHeartbeats 800000 in
theorem wrapCorners_any (d:Nat) (P:List (List Int)) (v:Value) (w:World) (hv:Mat w.heap.size 26 3 w v P) (hg:Good d P) :
  Calls Tryz.prog 23 #[v] w fun e w'=>∃u P' rows,e=.returned u∧Fr w.heap.size 26 3 w' u (P'.filter fun x=>!twin rows P' x)∧Inor P' P∧Inw rows (rowsC P' [] d P')∧Below w.heap.size w w':=by
 obtain ⟨po,pc,rfl,hlc,hcm⟩:=mat_open hv
 have HG:Hid (Good d P):=hg
 have h4:=hg.d4
 have HDS:Hid (Calls Tryz.prog 41 #[.slice po P.length pc] w fun e w'=>∃xo xl xc P',e=.returned (.slice xo xl xc)∧(Mat 0 26 3 w' (.slice xo xl xc) P'∧Inor P' P∧Below w.heap.size w w')):=by
  refine (distinct_any w.heap.size P _ w hv (by have:=hg.n24; omega) (fun r hr=>by rw [(hg.box r hr).1]; have:=hg.d4; omega)).mono ?_
  rintro e w' ⟨y,P',rfl,hf,hin,hb⟩
  have hM:Mat 0 26 3 w' y P':=by
   obtain ⟨vs,f1,f2,f3⟩:=hf
   exact ⟨vs,f1,Sl.own f2,f3⟩
  obtain ⟨yo,yc,hyv,_,_⟩:=mat_open hM
  subst hyv
  exact ⟨yo,_,yc,P',rfl,hM,hin,hb⟩
 have HRA:Hid (∀w' xo xl xc P',Mat 0 26 3 w' (.slice xo xl xc) P'→Inor P' P→Below w.heap.size w w'→Calls Tryz.prog 43 #[.slice xo xl xc] w' fun e w''=>∃yo yl yc rows,e=.returned (.slice yo yl yc)∧(Mat w''.heap.size 26 3 w'' (.slice yo yl yc) rows∧Mat 0 26 3 w'' (.slice xo xl xc) P'∧Inw rows (rowsC P' [] d P')∧Below w.heap.size w w'')):=fun w' xo xl xc P' hM hin hb=>by
  refine (wrapAround_any d P' _ w' (hM.more (Nat.zero_le _)) (good_of HG.out hin.mem hin.len) hin.asc).mono ?_
  rintro e w'' ⟨y,rows,rfl,hf,hin2,hb2⟩
  have hM2:Mat w''.heap.size 26 3 w'' y rows:=hf.rws.mat hb2.size
  obtain ⟨yo,yc,hyv,_,_⟩:=mat_open hM2
  subst hyv
  exact ⟨yo,_,yc,rows,rfl,hM2,hM.below hb2 (Nat.le_refl _),hin2,hb.trans (hb2.mono hb.size)⟩
 have HCO:Hid (∀w' xv yv P' rows,Mat 0 26 3 w' xv P'→Mat w'.heap.size 26 3 w' yv rows→Inor P' P→Inw rows (rowsC P' [] d P')→Below w.heap.size w w'→Calls Tryz.prog 42 #[xv,yv] w' fun e w''=>∃u,e=.returned u∧(Fr w.heap.size 26 3 w'' u (P'.filter fun x=>!twin rows P' x)∧Below w.heap.size w w'')):=fun w' xv yv P' rows hM hR hin hin2 hb=>by
  refine (cornersZ_any w'.heap.size rows P' xv yv w' hM hR (by have:=hin.len; have:=HG.out.n24; omega) fun x hx r hr y hy=>?_).mono ?_
  ·have hrow:=rowsC_fit HG.out.box HG.out.d1 (by omega) hin.mem ((hin2.mem r).1 hr)
   have hxP:=(hin.mem x).1 hx
   have hyP:=(hin.mem y).1 hy
   have s1:=sm_of hrow h4 (HG.out.box x hxP).1 (box_small HG.out.box hxP)
   have s2:=sm_of hrow h4 (HG.out.box y hyP).1 (box_small HG.out.box hyP)
   exact ⟨s1.1,s2.1,s1.2,s2.2⟩
  ·rintro e w'' ⟨u,rfl,h1,h2⟩
   exact ⟨u,rfl,h1.mono hb.size,hb.trans (h2.mono hb.size)⟩
 clear hv hg
 go_enter Tryz.func23,Tryz.ntmps23
 go_wp2_with fail
 refine HDS.out.mono ?_
 rintro e w3 ⟨xo,xl,xc,P',rfl,hx⟩
 have HX3:Hid (Mat 0 26 3 w3 (.slice xo xl xc) P'∧Inor P' P∧Below w.heap.size w w3):=hx
 clear hx HDS
 go_wp2_with fail
 refine (HRA.out w3 xo xl xc P' HX3.out.1 HX3.out.2.1 HX3.out.2.2).mono ?_
 rintro e w4 ⟨yo,yl,yc,rows,rfl,hy⟩
 have HY4:Hid (Mat w4.heap.size 26 3 w4 (.slice yo yl yc) rows∧Mat 0 26 3 w4 (.slice xo xl xc) P'∧Inw rows (rowsC P' [] d P')∧Below w.heap.size w w4):=hy
 clear hy
 go_wp2_with fail
 refine (HCO.out w4 _ _ P' rows HY4.out.2.1 HY4.out.1 HX3.out.2.1 HY4.out.2.2.1 HY4.out.2.2.2).mono ?_
 rintro e w5 ⟨u,rfl,hu⟩
 have HU5:Hid (Fr w.heap.size 26 3 w5 u (P'.filter fun x=>!twin rows P' x)∧Below w.heap.size w w5):=hu
 clear hu
 go_wp2
 go_ret
 exact ⟨u,P',rows,rfl,HU5.out.1,HX3.out.2.1,HY4.out.2.2.1,HU5.out.2⟩
end Go.Proofs.YtcoeneldaohpnaaGreat

namespace Go.Proofs.YtcoeneldaohpnaaGreat
open Go.RowKit Lin
def sumP (xs ys:List (List Int)):List (List Int):=xs.flatMap fun x=>ys.map fun y=>addL x y
theorem sumP_cons (x:List Int) (xs ys:List (List Int)):sumP (x :: xs) ys=ys.map (fun y=>addL x y) ++ sumP xs ys:=by
 simp [sumP]
theorem sumP_len (xs ys:List (List Int)):(sumP xs ys).length=xs.length*ys.length:=by
 induction xs with
 | nil=>simp [sumP]
 | cons x xs ih=>rw [sumP_cons,List.length_append,ih,List.length_map,List.length_cons,Nat.succ_mul]; omega
theorem mem_sumP {xs ys:List (List Int)} {z:List Int} : z∈sumP xs ys↔∃x∈xs,∃y∈ys,addL x y=z:=by
 simp [sumP]
theorem sumP_snoc {xs ys:List (List Int)} {i:Nat} (hi:i < xs.length):sumP (xs.take (i+1)) ys=sumP (xs.take i) ys ++ ys.map fun y=>addL (xs.getD i []) y:=by
 unfold sumP
 rw [List.take_succ_eq_append_getElem hi,List.flatMap_append]
 simp [hi]
theorem map_snocS {ys:List (List Int)} {x:List Int} {j:Nat} (hj:j < ys.length):(ys.take (j+1)).map (fun y=>addL x y)=(ys.take j).map (fun y=>addL x y) ++ [addL x (ys.getD j [])]:=by
 rw [List.take_succ_eq_append_getElem hj,List.map_append]
 simp [hj]
theorem sumP_box {d a b:Nat} {xs ys:List (List Int)} (hx:Box d a xs) (hy:Box d b ys):Box d (a+b) (sumP xs ys):=by
 intro r hr
 obtain ⟨x,h1,y,h2,rfl⟩:=mem_sumP.1 hr
 refine ⟨by rw [addL_length]; exact (hx x h1).1,fun z hz=>?_⟩
 simp only [addL,List.mem_map,List.mem_range] at hz
 obtain ⟨i,hi,rfl⟩:=hz
 have e1:=(hx x h1).2 (x.getD i 0) (getD_mem hi)
 have e2:=(hy y h2).2 (y.getD i 0) (getD_mem (by rw [(hy y h2).1,←(hx x h1).1]; exact hi))
 constructor <;> omega
def endL (C:List (List Int)) (r:List Int):List (List Int):=C.filter fun x=>decide (overL r x=0)
structure SrC (d:Nat) (P s C:List (List Int)):Prop where
 good:Good d P
 asc:SAsc s
 rows:∀r,r∈s↔r∈rowsD P d
 casc:SAsc C
 crns:∀y,y∈C↔y∈crn d s P
theorem crn_sameS {d:Nat} {P P' s s':List (List Int)} (hg:Good d P) (hP:∀r,r∈P'↔r∈P) (hs:∀r,r∈s↔r∈rowsD P d) (hs':∀r,r∈s'↔r∈rowsD P d) (y:List Int):y∈crn d s' P'↔y∈crn d s P:=by
 unfold crn
 rw [List.mem_filter,List.mem_filter,hP y]
 refine and_congr_right fun hy=>?_
 simp only [decide_eq_true_eq]
 rw [corner_rank hg hP hs' hy,corner_rank hg hP hs hy]
theorem rowsD_sameS {d:Nat} {P P':List (List Int)} (hg:Good d P) (hP:∀r,r∈P'↔r∈P) (r:List Int):r∈rowsD P' d↔r∈rowsD P d:=by
 rw [mem_rowsD,mem_rowsD]
 exact rows_same hg hP r
theorem SrC.other {d:Nat} {P P' s C s' C':List (List Int)} (h:SrC d P s C) (h':SrC d P' s' C') (hP:∀r,r∈P'↔r∈P):s'=s∧C'=C:=by
 have hss:∀r,r∈s'↔r∈rowsD P d:=fun r=>(h'.rows r).trans (rowsD_sameS h.good hP r)
 refine ⟨sasc_ext _ _ h'.asc h.asc fun r=>(hss r).trans (h.rows r).symm,sasc_ext _ _ h'.casc h.casc fun y=>?_⟩
 rw [h'.crns y,h.crns y]
 exact crn_sameS h.good hP h.rows hss y
theorem detL_bdS {m:List (List Int)} {Bd:Nat} (h:Sq m.length Bd m):(detL m).natAbs≤fb Bd m.length:=by
 have hb:=Lin.od_bd (n:=m.length) (B:=Bd) (fm m) (fun _=>false) (fun r hr j hj=>by
  simp only [fm,List.mem_map] at hr
  obtain ⟨l,hl,rfl⟩:=hr
  exact h.bd l hl j hj) (by rw [Lin.cu_none]; simp [fm])
 have e:(fm m).length=m.length:=by simp [fm]
 rw [e] at hb
 exact hb
end Go.Proofs.YtcoeneldaohpnaaGreat

namespace Go.Proofs.YtcoeneldaohpnaaGreat
open Go.RowKit Lin
theorem ext_asc:∀(k n fr:Nat),SAsc (ext n k fr)
 | 0,n,fr=>by simp [ext,SAsc]
 | k+1,n,fr=>by
  unfold SAsc
  simp only [ext,List.pairwise_flatMap]
  refine ⟨fun i _=>?_,?_⟩
  ·rw [List.pairwise_map]
   refine (ext_asc k n (i+1)).imp fun h=>?_
   simpa [cmpL] using h
  ·refine (List.pairwise_lt_range' (s:=fr) (n:=n-fr)).imp fun {i j} h=>?_
   intro x hx y hy
   simp only [List.mem_map] at hx hy
   obtain ⟨a,_,rfl⟩:=hx
   obtain ⟨b,_,rfl⟩:=hy
   have:(i:Int) < (j:Int):=by omega
   simp [cmpL,this]
theorem sort_chosen {k n:Nat} {s:List (List Int)} (h:SAsc s) (hm:∀r,r∈s↔r∈chosenL k n):s=ext n k 0:=
 sasc_ext _ _ h (ext_asc k n 0) fun r=>(hm r).trans chosen_ext
def zonP (z:List Int) (ways:List (List Int)):List (List Int):=ways.foldl (fun A y=>sumP A [z,y]) [z]
theorem zonP_snoc {z:List Int} {ways:List (List Int)} {k:Nat} (hk:k < ways.length):zonP z (ways.take (k+1))=sumP (zonP z (ways.take k)) [z,ways.getD k []]:=by
 unfold zonP
 rw [List.take_succ_eq_append_getElem hk,List.foldl_append]
 simp [hk]
theorem zonP_len {z:List Int} {ways:List (List Int)} : ∀k,k≤ways.length→(zonP z (ways.take k)).length=2 ^ k
 | 0,_=>rfl
 | k+1,h=>by
  rw [zonP_snoc (by omega),sumP_len,zonP_len k (by omega),Nat.pow_succ]
  rfl
def nul (d:Nat):List Int:=List.replicate d 0
theorem nul_box (d M:Nat):Box d M [nul d]:=by
 intro r hr
 rw [List.mem_singleton] at hr
 subst hr
 refine ⟨by simp [nul],fun z hz=>?_⟩
 have:=List.eq_of_mem_replicate hz
 omega
theorem two_box {d M:Nat} {x:List Int} {ways:List (List Int)} (h:Box d M ways) (hx:x∈ways):Box d M [nul d,x]:=by
 intro r hr
 simp only [List.mem_cons,List.not_mem_nil,or_false] at hr
 rcases hr with rfl | rfl
 ·exact nul_box d M _ (by simp)
 ·exact h _ hx
theorem zonP_box {d M:Nat} {ways:List (List Int)} (h:Box d M ways):∀k,k≤ways.length→Box d (M*k) (zonP (nul d) (ways.take k))
 | 0,_=>nul_box d _
 | k+1,hk=>by
  rw [zonP_snoc (by omega)]
  exact sumP_box (zonP_box h k (by omega)) (two_box h (by simp [show k < ways.length by omega]))
theorem add_nul {d:Nat} {x:List Int} (hx:x.length=d):addL x (nul d)=x:=by
 apply List.ext_getElem (by simp [addL])
 intro i h1 h2
 simp [addL,nul,hx,show i < d by rw [←hx]; exact h2]
theorem nul_add {d:Nat} {x:List Int} (hx:x.length=d):addL (nul d) x=x:=by
 apply List.ext_getElem (by simp [addL,nul,hx])
 intro i h1 h2
 have hi:i < d:=by rw [←hx]; exact h2
 simp [addL,nul,hx,hi]
theorem zonP_up {d:Nat} {ways:List (List Int)} {x:List Int} (hx:x.length=d) {k:Nat} (hk:k < ways.length) (hm:x∈zonP (nul d) (ways.take k)):x∈zonP (nul d) (ways.take (k+1)):=by
 rw [zonP_snoc hk]
 exact mem_sumP.2 ⟨x,hm,nul d,by simp,add_nul hx⟩
theorem zonP_nul {d:Nat} {ways:List (List Int)} : ∀k,k≤ways.length→nul d∈zonP (nul d) (ways.take k)
 | 0,_=>by simp [zonP]
 | k+1,hk=>zonP_up (by simp [nul]) (by omega) (zonP_nul k (by omega))
theorem zonP_way {d:Nat} {ways:List (List Int)} (h:∀y∈ways,y.length=d) {i:Nat} (hi:i < ways.length):∀k,i < k→k≤ways.length→ways.getD i []∈zonP (nul d) (ways.take k)
 | 0,h0,_=>by omega
 | k+1,h0,hk=>by
  have hl:(ways.getD i []).length=d:=h _ (by simp [hi])
  by_cases e:i=k
  ·subst e
   rw [zonP_snoc hi]
   exact mem_sumP.2 ⟨nul d,zonP_nul i (by omega),ways.getD i [],by simp,nul_add hl⟩
  ·exact zonP_up hl (by omega) (zonP_way h hi k (by omega) (by omega))
theorem zon_good {d M:Nat} {ways:List (List Int)} (h:Box d M ways) (hM:M*ways.length≤100) (hd1:1≤d) (hd4:d≤3) (hn1:1≤ways.length) (hn:ways.length≤5) (hr:(pickL d ways).length=d):Good d (zonP (nul d) ways):=by
 have hb:=zonP_box h ways.length (Nat.le_refl _)
 have hl:=zonP_len (z:=nul d) (ways:=ways) ways.length (Nat.le_refl _)
 have hnl:=zonP_nul (d:=d) (ways:=ways) ways.length (Nat.le_refl _)
 have hwy:∀i,i < ways.length→ways.getD i []∈zonP (nul d) (ways.take ways.length):=fun i hi=>zonP_way (fun y hy=>(h y hy).1) hi ways.length hi (Nat.le_refl _)
 rw [List.take_length] at hb hl hnl hwy
 have hb30:Box d 100 (zonP (nul d) ways):=fun r hr=>⟨(hb r hr).1,fun z hz=>by have:=(hb r hr).2 z hz; omega⟩
 have hp1:2 ^ 1≤2 ^ ways.length:=Nat.pow_le_pow_right (by decide) hn1
 have hp2:2 ^ ways.length≤2 ^ 5:=Nat.pow_le_pow_right (by decide) hn
 refine ⟨hd1,hd4,by rw [hl]; exact hp1,by rw [hl]; omega,hb30,full_of_span (fun y hy=>(hb y hy).1) fun c hc=>?_⟩
 have hgr:=pick_greedy d ways
 refine (greedy_full hgr).1 (by rw [fm_length]; exact hr) c fun r hr=>?_
 obtain ⟨l,hl,rfl⟩:=mem_fm.1 hr
 obtain ⟨i,hi,rfl⟩:=List.mem_iff_getElem.1 hl
 have e:ways.getD i []=ways[i]:=by simp [hi]
 have h1:=hc _ (hwy i hi) _ hnl
 rw [e] at h1
 rw [dot_comm]
 show dot d c (V ways[i])=0
 rw [h1]
 unfold dot
 exact sumN_zero fun j hj=>by simp [V,nul,hj]
theorem mem_sumS {A S Q:List (List Int)} (h:∀r,r∈S↔r∈A) (r:List Int):r∈sumP S Q↔r∈sumP A Q:=by
 rw [mem_sumP,mem_sumP]
 constructor
 ·rintro ⟨x,hx,y,hy,e⟩
  exact ⟨x,(h x).1 hx,y,hy,e⟩
 ·rintro ⟨x,hx,y,hy,e⟩
  exact ⟨x,(h x).2 hx,y,hy,e⟩
def tlA (ways:List (List Int)) (c:List Int):Int:=((detL (pks ways [] c)).natAbs:Int)
def tlS (ways:List (List Int)) (l:List (List Int)):List (List Int):=l.filter fun c=>decide (detL (pks ways [] c)≠0)
theorem tlS_snoc {ways l:List (List Int)} {k:Nat} (hk:k < l.length):tlS ways (l.take (k+1))=tlS ways (l.take k) ++ (if detL (pks ways [] (l.getD k []))≠0 then [l.getD k []] else []):=by
 have e:l.getD k []=l[k]:=by simp [hk]
 unfold tlS
 rw [List.take_succ_eq_append_getElem hk,List.filter_append,e]
 by_cases h:detL (pks ways [] l[k])=0 <;> simp [h]
end Go.Proofs.YtcoeneldaohpnaaGreat

namespace Go.Proofs.YtcoeneldaohpnaaGreat
open Go.RowKit Lin
attribute [local go_sem ↓] Go.wp_at_zero Go.wp_at_succ
structure Wys (d:Nat) (ways:List (List Int)):Prop where
 d1:1≤d
 d3:d≤3
 n1:1≤ways.length
 n5:ways.length≤5
 box:Box d 20 ways
def zE (d:Nat) (ways:List (List Int)):Int:=if (pickL d ways).length < d then 5 else 0
theorem Wys.mx {d:Nat} {ways:List (List Int)} (h:Wys d ways):Mx d 60 ways:=by
 have:=h.d3
 refine ⟨fun r hr=>(h.box r hr).1,fun r hr z hz=>?_,by omega,h.d1,by decide,Nat.le_trans (fb_mono (by decide) h.d3) (by decide)⟩
 have:=(h.box r hr).2 z hz
 omega
theorem Wys.near {d:Nat} {ways:List (List Int)} (h:Wys d ways) {r:List Int} (hr:r∈ways):(r.any (farB · 20))=false:=by
 rw [List.any_eq_false]
 intro z hz
 have:=(h.box r hr).2 z hz
 simp only [farB,Bool.or_eq_true,decide_eq_true_eq,not_or]
 omega
theorem chk20_ok (B d:Nat) (x:List Int) (u:Value) (w:World) (hu:Sl B 3 w u (ints x)) (hx:x.length=d) (hn:(x.any (farB · 20))=false) :
  Calls Tryz.prog 27 #[u,.int .i64 d,.int .i64 20] w fun e w'=>e=.returned (.int .i64 0)∧Below w.heap.size w w':=by
 refine (chkL_any B d 20 x u w hu (by omega) (by omega)).mono ?_
 rintro e w' ⟨rfl,hb⟩
 exact ⟨by rw [if_neg (by simp [hx]),if_neg (by simp [hn])],hb⟩
set_option maxRecDepth 100000 in
set_option maxHeartbeats 1600000 in
theorem zcheck_any (d:Nat) (ways:List (List Int)) (v:Value) (w:World) (hv:Mat w.heap.size 26 3 w v ways) (h:Wys d ways) :
  Calls Tryz.prog 11 #[.int .i64 d,v] w fun e w'=>e=.returned (.int .i64 (zE d ways))∧Below w.heap.size w w':=by
 obtain ⟨vo,vc,rfl,_,_⟩:=mat_open hv
 have h1:=h.d1
 have h3:=h.d3
 have hn1:=h.n1
 have hn5:=h.n5
 have HM:Hid (∀X,Below w.heap.size w X→Mat X.heap.size 26 3 X (.slice vo ways.length vc) ways):=fun X hX=>(hv.below hX (Nat.le_refl _)).any (Nat.le_refl _)
 have HCX:Hid (∀X k,Below w.heap.size w X→k < ways.length→∃qb qo yo yc,vo=some ⟨qb,qo,none⟩∧X.cell? ⟨qb,qo+k,none⟩=some (.slice yo d yc)∧Calls Tryz.prog 27 #[.slice yo d yc,.int .i64 d,.int .i64 20] X fun e w'=>e=.returned (.int .i64 0)∧Below X.heap.size X w'):=fun X k hX hk=>by
  obtain ⟨qb,qo,qcp,q1,hqs,_,hqc,hq1⟩:=mat_cell (HM.out X hX) (k:=k) hk
  simp only [Value.slice.injEq] at hqs
  have hkm:ways.getD k []∈ways:=by simp [hk]
  obtain ⟨yo,yc,rfl,_,_⟩:=sl_open hq1
  have hl:=(h.box _ hkm).1
  have hne:=h.near hkm
  rw [hl] at hqc hq1
  exact ⟨qb,qo,yo,yc,hqs.1,hqc,chk20_ok _ d (ways.getD k []) _ X hq1 hl hne⟩
 have HRK:Hid (∀X,Below w.heap.size w X→Calls Tryz.prog 28 #[.slice vo ways.length vc,.int .i64 d] X fun e w'=>e=.returned (.int .i64 ((pickL d ways).length:Nat))∧Below X.heap.size X w'):=fun X hX=>rankP_any X.heap.size d ways _ X h.mx (HM.out X hX) (by omega) hn1
 have HZE:Hid (zE d ways=if (pickL d ways).length < d then 5 else 0):=rfl
 clear hv h HM
 generalize zE d ways=E at *
 generalize (pickL d ways).length=pk at *
 go_enter Tryz.func11,Tryz.ntmps11
 go_wp2
 go_loopw [24] (fun iv wr=>∃i:Nat,i≤ways.length∧iv=.int .i64 (i:Int)∧Below w.heap.size w wr) (fun iv _=>ways.length-(intOf iv).toNat)
 case atStart=>exact ⟨0,Nat.zero_le _,rfl,Below.refl _ _⟩
 case round=>
  obtain ⟨i,hi,rfl,hbr⟩:=hrel
  have HBR:Hid (Below w.heap.size w wr):=hbr
  clear hbr
  by_cases hlt:i < ways.length
  ·obtain ⟨qb,qo,yo,yc,hvo,hc,HCH⟩:=HCX.out wr i HBR.out hlt
   subst hvo
   have hiI:(i:Int) < (ways.length:Int):=by omega
   go_wp2_with fail
   refine HCH.mono ?_
   rintro e w2 ⟨rfl,hb2⟩
   have HB2:Hid (Below w.heap.size w w2):=HBR.out.trans (hb2.mono HBR.out.size)
   clear hb2 HCH hc
   go_wp2
   go_roundw
   case rel=>exact ⟨i+1,by omega,by go_num,HB2.out⟩
   case measure=>simp [intOf]; omega
  ·have HRR:=HRK.out wr HBR.out
   clear HRK HCX
   go_wp2_with fail
   refine HRR.mono ?_
   rintro e w2 ⟨rfl,hb2⟩
   have HB2:Hid (Below w.heap.size w w2):=HBR.out.trans (hb2.mono HBR.out.size)
   clear hb2 HRR
   by_cases hpk:pk < d
   ·have hE:=HZE.out
    rw [if_pos hpk] at hE
    subst hE
    have hpI:(pk:Int) < (d:Int):=by omega
    go_wp2
    go_ret
    exact ⟨rfl,HB2.out⟩
   ·have hE:=HZE.out
    rw [if_neg hpk] at hE
    subst hE
    go_wp2
    go_ret
    exact ⟨rfl,HB2.out⟩
set_option maxRecDepth 100000 in
set_option maxHeartbeats 1600000 in
theorem zmay_any (d:Nat) (ways:List (List Int)) (v:Value) (w:World) (hv:Mat w.heap.size 26 3 w v ways) (h:Wys d ways) :
  Calls Tryz.prog 5 #[.int .i64 d,v] w fun e w'=>e=.returned (.int .i64 (zE d ways))∧Below w.heap.size w w':=by
 obtain ⟨vo,vc,rfl,_,_⟩:=mat_open hv
 have h1:=h.d1
 have h3:=h.d3
 have hn1:=h.n1
 have hn5:=h.n5
 have HM:Hid (∀X,Below w.heap.size w X→Mat X.heap.size 26 3 X (.slice vo ways.length vc) ways):=fun X hX=>(hv.below hX (Nat.le_refl _)).any (Nat.le_refl _)
 have HCX:Hid (∀X k,Below w.heap.size w X→k < ways.length→∃qb qo yo yc,vo=some ⟨qb,qo,none⟩∧X.cell? ⟨qb,qo+k,none⟩=some (.slice yo d yc)∧Calls Tryz.prog 14 #[.slice yo d yc,.int .i64 20] X fun e w'=>e=.returned (.bool false)∧w'=X):=fun X k hX hk=>by
  obtain ⟨qb,qo,qcp,q1,hqs,_,hqc,hq1⟩:=mat_cell (HM.out X hX) (k:=k) hk
  simp only [Value.slice.injEq] at hqs
  have hkm:ways.getD k []∈ways:=by simp [hk]
  obtain ⟨yo,yc,rfl,_,_⟩:=sl_open hq1
  have hl:=(h.box _ hkm).1
  have hne:=h.near hkm
  rw [hl] at hqc hq1
  have hf:=farAny_any _ (ways.getD k []) _ 20 X hq1 (by decide) (by decide)
  rw [hne] at hf
  exact ⟨qb,qo,yo,yc,hqs.1,hqc,hf⟩
 have HRK:Hid (∀X,Below w.heap.size w X→Calls Tryz.prog 15 #[.slice vo ways.length vc] X fun e w'=>e=.returned (.int .i64 ((pickL d ways).length:Nat))∧Below X.heap.size X w'):=fun X hX=>rankR_any d 60 X.heap.size ways _ X h.mx (HM.out X hX) (by omega)
 have HZE:Hid (zE d ways=if (pickL d ways).length < d then 5 else 0):=rfl
 clear hv h HM
 generalize zE d ways=E at *
 generalize (pickL d ways).length=pk at *
 go_enter Tryz.func5,Tryz.ntmps5
 go_wp2
 go_loopw [5] (fun iv wr=>∃i:Nat,i≤ways.length∧iv=.int .i64 (i:Int)∧Below w.heap.size w wr) (fun iv _=>ways.length-(intOf iv).toNat)
 case atStart=>exact ⟨0,Nat.zero_le _,rfl,Below.refl _ _⟩
 case round=>
  obtain ⟨i,hi,rfl,hbr⟩:=hrel
  have HBR:Hid (Below w.heap.size w wr):=hbr
  clear hbr
  by_cases hlt:i < ways.length
  ·obtain ⟨qb,qo,yo,yc,hvo,hc,HCH⟩:=HCX.out wr i HBR.out hlt
   subst hvo
   have hiI:(i:Int) < (ways.length:Int):=by omega
   have hdd:((d:Int) != (d:Int))=false:=by simp
   go_wp2_with fail
   refine HCH.mono ?_
   rintro e w2 ⟨rfl,rfl⟩
   clear HCH hc
   go_wp2
   go_roundw
   case rel=>exact ⟨i+1,by omega,by go_num,HBR.out⟩
   case measure=>simp [intOf]; omega
  ·have HRR:=HRK.out wr HBR.out
   clear HRK HCX
   go_wp2_with fail
   refine HRR.mono ?_
   rintro e w2 ⟨rfl,hb2⟩
   have HB2:Hid (Below w.heap.size w w2):=HBR.out.trans (hb2.mono HBR.out.size)
   clear hb2 HRR
   by_cases hpk:pk < d
   ·have hE:=HZE.out
    rw [if_pos hpk] at hE
    subst hE
    have hpI:(pk:Int) < (d:Int):=by omega
    go_wp2
    go_ret
    exact ⟨rfl,HB2.out⟩
   ·have hE:=HZE.out
    rw [if_neg hpk] at hE
    subst hE
    go_wp2
    go_ret
    exact ⟨rfl,HB2.out⟩
theorem Wys.good {d:Nat} {ways:List (List Int)} (h:Wys d ways) (hE:zE d ways=0):Good d (zonP (nul d) ways):=by
 have h5:=h.n5
 have h3:=h.d3
 refine zon_good h.box (by omega) h.d1 (by omega) h.n1 h.n5 ?_
 have hc:=pickL_cap d ways
 unfold zE at hE
 by_cases hp:(pickL d ways).length < d
 ·rw [if_pos hp] at hE; omega
 ·omega
theorem Wys.box15 {d:Nat} {ways:List (List Int)} (h:Wys d ways):Box d 100 (zonP (nul d) ways):=fun r hr=>by
 have hb:=zonP_box h.box ways.length (Nat.le_refl _)
 rw [List.take_length] at hb
 have h5:=h.n5
 exact ⟨(hb r hr).1,fun z hz=>by have:=(hb r hr).2 z hz; omega⟩
end Go.Proofs.YtcoeneldaohpnaaGreat

namespace Go.Proofs.YtcoeneldaohpnaaGreat
open Go.RowKit
attribute [local go_sem ↓] Go.wp_at_zero Go.wp_at_succ
theorem addL_at {a b:List Int} {k:Nat} (h:k < a.length):(addL a b).getD k 0=a.getD k 0+b.getD k 0:=by simp [addL,h]
set_option maxRecDepth 100000 in
set_option maxHeartbeats 1600000 in
theorem exSum_any (c:Nat) (q1 q0:List Int) (u v:Value) (w:World) (hu:Sl w.heap.size 3 w u (ints q1)) (hv:Sl w.heap.size 3 w v (ints q0)) (hl1:q1.length=c) (hl0:q0.length=c) (hc1:1≤c) (hc0:c≤1000) (hb1:∀z∈q1,z.natAbs≤1000000) (hb0:∀z∈q0,z.natAbs≤1000000) :
  Calls Tryz.prog 40 #[u,v] w fun e w'=>∃g sc,e=.returned (.slice (some ⟨g,0,none⟩) c sc)∧w'.ownsRow w.heap.size 3 1 (.slice (some ⟨g,0,none⟩) c sc) c (ints (addL q1 q0))∧Below w.heap.size w w':=by
 obtain ⟨rko,rkc,hrkv,_,_⟩:=sl_open hu
 subst hrkv
 have HRK:Hid (Sl w.heap.size 3 w (.slice rko q1.length rkc) (ints q1)):=hu
 have HR0:Hid (Sl w.heap.size 3 w v (ints q0)):=hv
 have HL1:Hid (q1.length=c):=hl1
 have HL0:Hid (q0.length=c):=hl0
 have HB1:Hid (∀z∈q1,z.natAbs≤1000000):=hb1
 have HB0:Hid (∀z∈q0,z.natAbs≤1000000):=hb0
 clear hu hv hl1 hl0 hb1 hb0
 go_enter Tryz.func40,Tryz.ntmps40
 go_wp2_with fail
 refine (clone_any w.heap.size q1 _ w HRK.out (by have:=HL1.out; omega)).mono ?_
 rintro e w2 ⟨u,rfl,ho2,hb2⟩
 rw [HL1.out] at ho2
 obtain ⟨g,uc,hue⟩:=own_some ho2 (by omega)
 subst hue
 obtain ⟨M,hM⟩:∃M,M=w.heap.size:=⟨_,rfl⟩
 have HM:Hid (M=w.heap.size):=hM
 have hgM:M≤g:=by rw [hM]; exact (ho2.lt g (by simp [Value.ownBlock])).1
 have hgs:g < w2.heap.size:=(ho2.lt g (by simp [Value.ownBlock])).2
 have HO2:Hid (w2.ownsRow M 3 1 (.slice (some ⟨g,0,none⟩) c uc) c (ints q1)):=by rw [hM]; exact ho2
 have HB2:Hid (Below M w w2):=by rw [hM]; exact hb2
 have huc:c≤uc∧uc≤9223372036854775807:=by
  obtain ⟨_,h2⟩:=ho2
  rcases h2 with ⟨h,_⟩ | ⟨k,cp,cur,h,_,_,h3,h4,_⟩
  ·simp at h
  ·simp only [Value.slice.injEq] at h; unfold maxLen at h4; omega
 have HR0w:Hid (Sl w.heap.size 3 w2 v (ints q0)):=HR0.out.below hb2 (Nat.le_refl _)
 obtain ⟨q0o,q0c,hq0v,hq0l,hq0m⟩:=sl_open HR0.out
 have hl0:=HL0.out
 rw [hl0] at hq0v hq0l
 subst hq0v
 clear ho2 hb2 hM hl0
 go_wp2
 go_loopw [11] (fun i wq=>∃j:Nat,j≤c∧i=.int .i64 j∧wq.ownsRow M 3 1 (.slice (some ⟨g,0,none⟩) c uc) c (ints ((addL q1 q0).take j ++ q1.drop j))∧Touch g w2 wq) (fun i _=>c-(intOf i).toNat)
 case atStart=>
  refine ⟨0,Nat.zero_le _,rfl,?_,Touch.refl _ _⟩
  rw [List.take_zero,List.drop_zero,List.nil_append]; exact HO2.out
 case round=>
  obtain ⟨j,hj,rfl,hown,ht⟩:=hrel
  have HO:Hid (wr.ownsRow M 3 1 (.slice (some ⟨g,0,none⟩) c uc) c (ints ((addL q1 q0).take j ++ q1.drop j))):=hown
  have HT:Hid (Touch g w2 wr):=ht
  have HLE:Hid (q1.length=(addL q1 q0).length):=(addL_length _ _).symm
  by_cases hjl:j < c
  ·have hj1:j < q1.length:=by have:=HL1.out; omega
   have hcj:wr.cell? ⟨g,j,none⟩=some (.int .i64 (q1.getD j 0)):=by
    rw [hown.cellAt j (by omega),ints_get _ _ (by simp [addL_length]; omega),mix_at HLE.out hj1]
   obtain ⟨b3,o3,cp3,hs3,_,hcc3⟩:=sl_cell HR0w.out (k:=j) (by have:=HL0.out; omega)
   simp only [Value.slice.injEq] at hs3
   obtain ⟨rfl,_,rfl⟩:=hs3
   have hb3:b3≠g:=by
    obtain ⟨b4,o4,cp4,hs4,_,hcc4⟩:=sl_cell HR0.out (k:=j) (by have:=HL0.out; omega)
    simp only [Value.slice.injEq,Option.some.injEq,Addr.mk.injEq,and_true] at hs4
    have:=lt_of_cell hcc4
    have:=HM.out
    omega
   have hcc3':wr.cell? ⟨b3,o3+j,none⟩=some (.int .i64 (q0.getD j 0)):=(ht.cell hb3).trans hcc3
   have hfz:=hown.frozenAt j
   have HST:Hid (ints ((addL q1 q0).take (j+1) ++ q1.drop (j+1))=(ints ((addL q1 q0).take j ++ q1.drop j)).set j (.int .i64 (q1.getD j 0+q0.getD j 0))):=by
    show _=_
    rw [set_mix HLE.out hj1,addL_at hj1]
   have h1b:(q1.getD j 0).natAbs≤1000000:=HB1.out _ (by simp [hj1])
   have h0b:(q0.getD j 0).natAbs≤1000000:=HB0.out _ (by simp [show j < q0.length by have:=HL0.out; omega])
   generalize q1.getD j 0=x1 at *
   generalize q0.getD j 0=x0 at *
   clear hown ht hcc3 hj1
   have hjI0:(0:Int)≤(j:Int):=by omega
   have hjI1:(j:Int) < (c:Int):=by omega
   have h1b1 : -1000000≤x1:=by omega
   have h1b2:x1≤1000000:=by omega
   have h0b1 : -1000000≤x0:=by omega
   have h0b2:x0≤1000000:=by omega
   clear h1b h0b
   go_wp2
   go_region
   go_wp2
   go_roundw
   case rel=>
    refine ⟨j+1,by omega,by go_num,?_,(HT.out.setCell j _).drew⟩
    rw [HST.out]
    exact (HO.out.stored j _).1.drew
   case measure=>simp [intOf]; omega
  ·have HX:Hid (wr.ownsRow M 3 1 (.slice (some ⟨g,0,none⟩) c uc) c (ints (addL q1 q0))):=by
    have h:=HO.out
    rw [mix_end HLE.out (by have:=HL1.out; omega)] at h
    exact h
   have HBw:Hid (Below M w wr):=HT.out.below HB2.out hgM
   clear HO hown ht
   go_wp2
   go_ret
   exact ⟨g,uc,rfl,by rw [←HM.out]; exact HX.out,by rw [←HM.out]; exact HBw.out⟩
end Go.Proofs.YtcoeneldaohpnaaGreat
