import Derived.Test.YtdanomklbiidaaaGreatDoorMgAW
import Derived.Test.YtdanomklbiidaaaGreatDoorMgAB
import Derived.Maps.AppendAt
import Derived.Test.YtdanomklbiidaaaGreatDoorMgAF
import Derived.Test.YtdanomklbiidaaaGreatDoorMgAI
import Derived.ArgAppend
import Derived.Test.YtdanomklbiidaaaGreatDoorMgAQ
import Derived.Test.YtdanomklbiidaaaGreatDoorMgAL
namespace Go.Proofs.YtdanomklbiidaaaGreatDoor
open Go Go.RowKit
theorem op_append_ownA {P:Program} {o:Oper} {a:Act} {w:World} {K:Act→World→Prop} {Q:Exit→Act→World→Prop}
  (s x:Operand) (t:TypeId) (hop:o.op=Op.call { callee:=Callee.builtin Builtin.append,args:=#[s,x],argTypes:=#[t,t] })
  (base:Nat) (e:TypeId) (i:TypeInfo) (z:Value) (size bytes:Nat) (h1:P.underlying t=some (.slice e)) (h2:P.info? e=some i) (h3:i.zero=some z) (h4:i.size=size) (h5:i.bytes=bytes) (h6:z.cells.size=size) (h7:0 < size)
  (v:Value) (n:Nat) (xs:List Value) (hs:a.eval s=v) (hown:w.ownsRow base e size v n xs)
  (ad:Addr) (m c:Nat) (news:List Value) (hx:a.eval x=.slice (some ad) m c) (hn:news.length=m*size) (hc:∀j u,news[j]?=some u→w.cell? (ad.add j)=some u) (h1c:∀u∈news,u.oneCell'=true)
  (b1:n+m≤maxLen) (b2:(n+m)*bytes≤140737488355328) (hb:base≤w.heap.size)
  (hK:∀v' w',w'.ownsRow base e size v' (n+m) (xs ++ news)→w.grownBy w' v.ownBlock→(v'.ownBlock=v.ownBlock∨v'.ownBlock=some w.heap.size)→K (a.put o.dst v') w'):Oper.wp P o a w K Q:=by
 obtain ⟨v',w',hrun,r1,r2,_,r3⟩:=run_append_own_at (P:=P) w base t o.type e i z size bytes h1 h2 h3 h4 h5 h6 h7 v n xs hown ad m c news hn hc h1c b1 b2 hb
 unfold Oper.wp
 simp [execOp,hop,resolve,invoke,builtin,hs,hx,hrun,Result.andThen]
 exact hK v' w' r1 r2 r3
end Go.Proofs.YtdanomklbiidaaaGreatDoor

namespace Go.Proofs.YtdanomklbiidaaaGreatDoor
open Go.RowKit Lin
attribute [local go_sem ↓] Go.wp_at_zero Go.wp_at_succ
theorem detL_bdC {m:List (List Int)} {Bd:Nat} (h:Sq m.length Bd m):(detL m).natAbs≤fb Bd m.length:=by
 have hb:=Lin.od_bd (n:=m.length) (B:=Bd) (fm m) (fun _=>false) (fun r hr j hj=>by
  simp only [fm,List.mem_map] at hr
  obtain ⟨l,hl,rfl⟩:=hr
  exact h.bd l hl j hj) (by rw [Lin.cu_none]; simp [fm])
 have e:(fm m).length=m.length:=by simp [fm]
 rw [e] at hb
 exact hb
theorem turn_bd {d:Nat} {m:List (List Int)} (hbx:Box d 30 m) (hd1:1≤d) (hd:d≤4) (hl:m.length=d+1):(detL (diffL m)).natAbs≤1000000000000:=by
 have hln:(diffL m).length=d:=by rw [diffL_length]; omega
 have hmx:=diff_mx hbx hd1 (by omega)
 have hsq:Sq (diffL m).length 60 (diffL m):=⟨rfl,fun r hr=>by rw [hmx.row r hr,hln]; exact Nat.le_refl _,fun r hr j hj=>hmx.bd r hr _ (getD_mem (by rw [hmx.row r hr]; omega)),by rw [hln]; exact Nat.le_trans (fb_mono (by decide) hd) (by decide),by omega,by decide⟩
 have:=detL_bdC hsq
 rw [hln] at this
 exact Nat.le_trans this (Nat.le_trans (fb_mono (by decide) hd) (by decide))
set_option maxRecDepth 100000 in
set_option maxHeartbeats 1600000 in
theorem turnC_any (B d:Nat) (m:List (List Int)) (v:Value) (w:World) (hv:Mat B 22 3 w v m) (hbx:Box d 30 m) (hd1:1≤d) (hd:d≤4) (hl:m.length=d+1) :
  Calls Tryz.prog 32 #[v] w fun e w'=>e=.returned (.int .i64 (detL (diffL m)))∧Below w.heap.size w w':=by
 obtain ⟨vo,vc,rfl,_,_⟩:=mat_open hv
 have hln:(diffL m).length=d:=by rw [diffL_length]; omega
 have hmx:=diff_mx hbx hd1 (by omega)
 have H1:Hid (Calls Tryz.prog 40 #[.slice vo m.length vc] w fun e w'=>∃xo xl xc,e=.returned (.slice xo xl xc)∧Mat w'.heap.size 22 3 w' (.slice xo xl xc) (diffL m)∧Below w.heap.size w w'):=by
  refine (differences_any B d m _ w hv (by omega) (by omega) hd1 (by omega) (fun r hr=>(hbx r hr).1) (fun r hr z hz=>by have:=(hbx r hr).2 z hz; omega)).mono ?_
  rintro e w' ⟨x,rfl,hx,hb⟩
  have hM:=hx.mat (B':=w'.heap.size) hb.size
  obtain ⟨xo,xc,rfl,_,_⟩:=mat_open hM
  exact ⟨xo,_,xc,rfl,hM,hb⟩
 have H2:Hid (∀X u,Mat X.heap.size 22 3 X u (diffL m)→Calls Tryz.prog 47 #[u] X fun e w'=>e=.returned (.int .i64 (detL (diffL m)))∧Below X.heap.size X w'):=fun X u hu=>detP_any X.heap.size (diffL m) u X (by rw [hln]; exact hmx) hu (by omega)
 clear hv hbx hmx hln hl
 go_enter Tryz.func32,Tryz.ntmps32
 go_wp2_with fail
 refine H1.out.mono ?_
 rintro e w1 ⟨xo,xl,xc,rfl,hM,hb1⟩
 have HD:=H2.out w1 _ hM
 have HB1:Hid (Below w.heap.size w w1):=hb1
 clear hM hb1 H1 H2
 obtain ⟨D,hDe⟩:∃D,D=detL (diffL m):=⟨_,rfl⟩
 have HDE:Hid (D=detL (diffL m)):=hDe
 rw [←hDe] at HD
 clear hDe
 go_wp2_with fail
 refine HD.mono ?_
 rintro e w2 ⟨rfl,hb2⟩
 have HB2:Hid (Below w.heap.size w w2):=HB1.out.trans (hb2.mono HB1.out.size)
 clear hb2 HD
 go_wp2
 go_ret
 exact ⟨ret_int HDE.out,HB2.out⟩
theorem op_append_full {P:Program} {o:Oper} {a:Act} {w:World} {K:Act→World→Prop} {Q:Exit→Act→World→Prop}
  (s x:Operand) (t:TypeId) (hop:o.op=Op.call { callee:=Callee.builtin Builtin.append,args:=#[s,x],argTypes:=#[t,t] })
  (e:TypeId) (i:TypeInfo) (z:Value) (size bytes:Nat) (h1:P.underlying t=some (.slice e)) (h2:P.info? e=some i) (h3:i.zero=some z) (h4:i.size=size) (h5:i.bytes=bytes) (h6:z.cells.size=size) (h7:0 < size)
  (b:Addr) (n cap:Nat) (olds:List Value) (hs:a.eval s=.slice (some b) n cap) (hlo:olds.length=n*size) (holds:∀j u,olds[j]?=some u→w.cell? (b.add j)=some u)
  (ad:Addr) (m c:Nat) (news:List Value) (hx:a.eval x=.slice (some ad) m c) (hn:news.length=m*size) (hc:∀j u,news[j]?=some u→w.cell? (ad.add j)=some u)
  (hfull:cap < n+m) (b1:n+m≤maxLen) (b2:(n+m)*bytes≤140737488355328)
  (hK:∀v' w',w'.ownsRow w.heap.size e size v' (n+m) (olds ++ news)→w.grownBy w' none→K (a.put o.dst v') w'):Oper.wp P o a w K Q:=by
 obtain ⟨v',w',hrun,r1,r2⟩:=run_append_arg_grows (P:=P) w t o.type e i z size bytes h1 h2 h3 h4 h5 h6 h7 b n cap olds hlo holds ad m c news hn hc hfull b1 b2
 unfold Oper.wp
 simp [execOp,hop,resolve,invoke,builtin,hs,hx,hrun,Result.andThen]
 exact hK v' w' r1 r2
set_option maxRecDepth 100000 in
set_option maxHeartbeats 1600000 in
theorem hgt_any (L3:List (List Int)) (x:List Int) (wy:Int) (xv:Value) (q1 q2:Nat) (po:Option Addr) (pc:Nat) (w:World) (hx:Sl w.heap.size 3 w xv (ints x)) (hp:Mat w.heap.size 22 3 w (.slice po 3 pc) L3) (hl:L3.length=3)
  (hb:Box 3 30 (L3 ++ [x])) (hw:wy.natAbs≤10000) (c1:w.cell? ⟨q1,0,none⟩=some (.int .i64 wy)) (c2:w.cell? ⟨q2,0,none⟩=some (.slice po 3 pc)) :
  Calls Tryz.prog 33 #[xv,.pointer (some ⟨q1,0,none⟩),.pointer (some ⟨q2,0,none⟩)] w fun e w'=>e=.returned (.int .i64 (wy*detL (diffL (L3 ++ [x]))))∧Below w.heap.size w w':=by
 obtain ⟨i0,hi,hz0,hz1,hz2⟩:=info_parts Tryz.info22
 obtain ⟨xo,xc,rfl,_,_⟩:=sl_open hx
 obtain ⟨vs,hvl,hsl,hrows⟩:=hp
 have hbd:=turn_bd hb (by decide) (by decide) (by simp [hl])
 have HT:Hid (∀X u,Mat X.heap.size 22 3 X u (L3 ++ [x])→Calls Tryz.prog 32 #[u] X fun e w'=>e=.returned (.int .i64 (detL (diffL (L3 ++ [x]))))∧Below X.heap.size X w'):=fun X u hu=>turnC_any X.heap.size 3 (L3 ++ [x]) u X hu hb (by decide) (by decide) (by simp [hl])
 obtain ⟨ao,cap,e,h1,h2,h3,h4⟩:=hsl
 have hv3:vs.length=3:=by rw [hvl,hl]
 rw [hv3] at e h1 h3
 simp only [Value.slice.injEq,true_and] at e
 obtain ⟨rfl,rfl⟩:=e
 have HV:Hid (∀i,i < 3→Sl w.heap.size 3 w (vs.getD i (.slice none 0 0)) (ints (L3.getD i []))):=fun i h=>hrows i (by omega)
 have HX:Hid (Sl w.heap.size 3 w (.slice xo x.length xc) (ints x)):=hx
 have HC1:Hid (w.cell? ⟨q1,0,none⟩=some (.int .i64 wy)):=c1
 have hold:∀b,po=some b→∀(j:Nat) (u:Value),vs[j]?=some u→(w.alloc (.cells #[.slice xo x.length xc] 22)).cell? (b.add j)=some u:=fun b hb' j u hj=>by
  have hj3:j < 3:=by
   have:=(List.getElem?_eq_some_iff.1 hj).1
   omega
  obtain ⟨b',o,e1,e2,_⟩:=h3 j hj3
  rw [hb'] at e1
  obtain rfl:=Option.some.inj e1
  rw [hj] at e2
  rw [Addr.add_lit,←e2]
  exact ((Below.refl w.heap.size w).alloc (Nat.le_refl _) (.cells #[.slice xo x.length xc] 22)).cell (lt_of_cell e2)
 obtain ⟨pb,po',hpo,_⟩:=h3 0 (by decide)
 have HL3:Hid (L3.length=3):=hl
 have HVL:Hid (vs.length=3*1):=by show _=_; omega
 rw [hpo] at c2
 obtain ⟨pa,hpa⟩:∃pa:Addr,pa=⟨pb,po',none⟩:=⟨_,rfl⟩
 rw [←hpa] at c2 hpo
 have HOLD:Hid (∀(j:Nat) (u:Value),vs[j]?=some u→(w.drew.alloc (.cells #[.slice xo x.length xc] 22)).cell? (pa.add j)=some u):=fun j u hj=>hold pa hpo j u hj
 subst hpo
 have HC2:Hid (w.cell? ⟨q2,0,none⟩=some (.slice (some pa) 3 pc)):=c2
 have HSA:Hid ((w.drew.alloc (.cells #[.slice xo x.length xc] 22)).cell? ⟨q1,0,none⟩=some (.int .i64 wy)∧(w.drew.alloc (.cells #[.slice xo x.length xc] 22)).cell? ⟨q2,0,none⟩=some (.slice (some pa) 3 pc)):=by
  have hbA:Below w.heap.size w (w.drew.alloc (.cells #[.slice xo x.length xc] 22)):=((Below.refl _ _).drew).alloc (Nat.le_refl _) _
  exact ⟨(hbA.cell (lt_of_cell c1)).trans c1,(hbA.cell (lt_of_cell c2)).trans c2⟩
 clear hx hrows h3 h4 hb hold hpa
 go_enter Tryz.func33,Tryz.ntmps33
 go_wp2_with fail
 refine wp_region_held_drew (S:=fun w'=>w'.cell? ⟨q1,0,none⟩=some (.int .i64 wy)∧w'.cell? ⟨q2,0,none⟩=some (.slice (some pa) 3 pc)) (by kernel_rfl) ⟨c1,c2⟩ (fun hHeld=>?_)
 refine wpAnyH_tk (i:=0) (d:=5) (v:=(.int .i64 wy)) rfl rfl (by kernel_rfl) (by kernel_rfl) (by kernel_rfl) (fun _ _ _ h=>h) (.inl ⟨by rfl,by (intro wq hSw; (try dsimp only at hSw); go_simp; (try (first | rfl | omega)))⟩) hHeld ?_
 simp only [Act.put,List.setIfInBounds_toArray,List.set_cons_zero,List.set_cons_succ]
 refine wpAnyH_tk (i:=1) (d:=6) (v:=(.slice (some pa) 3 pc)) rfl rfl (by kernel_rfl) (by kernel_rfl) (by kernel_rfl) (fun _ _ _ h=>h) (.inl ⟨by rfl,by (intro wq hSw; (try dsimp only at hSw); go_simp; (try (first | rfl | omega)))⟩) hHeld ?_
 simp only [Act.put,List.setIfInBounds_toArray,List.set_cons_zero,List.set_cons_succ]
 refine wpAnyH_tk (i:=2) (d:=7) (v:=(.slice (some pa) 3 3)) rfl rfl (by kernel_rfl) (by kernel_rfl) (by kernel_rfl) (fun _ _ _ h=>h) (.inl ⟨by rfl,by (intro wq hSw; (try dsimp only at hSw); go_simp; (try (first | rfl | omega)))⟩) hHeld ?_
 simp only [Act.put,List.setIfInBounds_toArray,List.set_cons_zero,List.set_cons_succ]
 refine wpAnyH_tk (i:=3) (d:=8) (v:=(.slice xo x.length xc)) rfl rfl (by kernel_rfl) (by kernel_rfl) (by kernel_rfl) (fun _ _ _ h=>h) (.inl ⟨by rfl,by (intro wq hSw; (try dsimp only at hSw); go_simp; (try (first | rfl | omega)))⟩) hHeld ?_
 simp only [Act.put,List.setIfInBounds_toArray,List.set_cons_zero,List.set_cons_succ]
 refine wpAnyH_ready (rs:=[4]) (by kernel_rfl) (by simp) ?_
 refine ready_tk (i:=4) rfl (by rfl) (fun K hK=>?_) AllReadyH.nil
 go_simp
 refine hK.out _ _ HSA.out (fun hHeld=>?_)
 clear hK K
 refine wpAnyH_ready (rs:=[5]) (by kernel_rfl) (by simp) ?_
 refine ready_tk (i:=5) rfl (by rfl) (fun K hK=>?_) AllReadyH.nil
 refine op_append_full (.tmp 7) (.tmp 9) 23 (by rfl) 22 i0 (.slice none 0 0) 1 24 Tryz.underlying23 hi hz0 hz1 hz2 rfl (by decide) pa 3 3 vs (by rfl) HVL.out HOLD.out ⟨w.heap.size,0,none⟩ 1 1 [.slice xo x.length xc] (by rfl) rfl (one_new _ _ _) (by decide) (by unfold maxLen; decide) (by decide) ?_
 intro v' w7 ho hg7
 have hl4:L3.length=3:=by have:=HL3.out; omega
 have hbA:Below w.heap.size w (w.drew.alloc (.cells #[.slice xo x.length xc] 22)):=((Below.refl _ _).drew).alloc (Nat.le_refl _) _
 have hb7:Below w.heap.size w w7:=hbA.grown hg7 hbA.size (fun r hr=>by cases hr)
 have hM:Mat w7.heap.size 22 3 w7 v' (L3 ++ [x]):=by
  refine ⟨vs ++ [Value.slice xo x.length xc],by simp [HVL.out,hl4],Sl.own ho,fun i hi=>?_⟩
  by_cases h:i < 3
  ·have e1:(vs ++ [Value.slice xo x.length xc]).getD i (.slice none 0 0)=vs.getD i (.slice none 0 0):=by
    simp only [List.getD_eq_getElem?_getD]; rw [List.getElem?_append_left (by have:=HVL.out; omega)]
   have e2:(L3 ++ [x]).getD i []=L3.getD i []:=by
    simp only [List.getD_eq_getElem?_getD]; rw [List.getElem?_append_left (by omega)]
   rw [e1,e2]
   exact ((HV.out i h).below hb7 (Nat.le_refl _)).any (Nat.le_refl _)
  ·have hi3:i=3:=by simp [hl4] at hi; omega
   subst hi3
   have e1:(vs ++ [Value.slice xo x.length xc]).getD 3 (.slice none 0 0)=.slice xo x.length xc:=by
    simp only [List.getD_eq_getElem?_getD]; rw [List.getElem?_append_right (by have:=HVL.out; omega)]; simp [HVL.out]
   have e2:(L3 ++ [x]).getD 3 []=x:=by
    simp only [List.getD_eq_getElem?_getD]; rw [List.getElem?_append_right (by omega)]; simp [hl4]
   rw [e1,e2]
   exact ((HX.out).below hb7 (Nat.le_refl _)).any (Nat.le_refl _)
 have HTT:=HT.out w7 v' hM
 have HB7:Hid (Below w.heap.size w w7):=hb7
 have HC7:Hid (∀X,Below w7.heap.size w7 X→X.cell? ⟨q1,0,none⟩=some (.int .i64 wy)):=fun X hX=>(hX.cell (Nat.lt_of_lt_of_le (lt_of_cell HC1.out) hb7.size)).trans ((hb7.cell (lt_of_cell HC1.out)).trans HC1.out)
 obtain ⟨D,hDe⟩:∃D,D=detL (diffL (L3 ++ [x])):=⟨_,rfl⟩
 have HC8:Hid (w7.cell? ⟨q2,0,none⟩=some (.slice (some pa) 3 pc)):=(hb7.cell (lt_of_cell HC2.out)).trans HC2.out
 have HDE:Hid (D=detL (diffL (L3 ++ [x]))):=hDe
 have HBD:Hid (D.natAbs≤1000000000000):=by rw [hDe]; exact hbd
 have HW:Hid (wy.natAbs≤10000):=hw
 rw [←hDe] at HTT
 clear hM hbA hb7 ho hg7 hDe hbd hw c1 c2
 refine hK.out _ _ ⟨(HC7.out w7 (Below.refl _ _)),HC8.out⟩ (fun hHeld=>?_)
 clear hK K
 simp only [Act.put,List.setIfInBounds_toArray,List.set_cons_zero,List.set_cons_succ]
 refine wpAnyH_ready (rs:=[6]) (by kernel_rfl) (by simp) ?_
 refine ready_tk (i:=6) rfl (by rfl) (fun K hK=>?_) AllReadyH.nil
 go_simp
 refine HTT.mono ?_
 rintro e w8 ⟨rfl,hb8⟩
 have HB8:Hid (Below w.heap.size w w8):=HB7.out.trans (hb8.mono HB7.out.size)
 refine hK.out _ _ ⟨HC7.out w8 hb8,(hb8.cell (lt_of_cell HC8.out)).trans HC8.out⟩ (fun hHeld=>?_)
 clear hK K hb8
 have hmul:IntKind.wrap .i64 (wy*D)=wy*D:=by
  have h1:(wy*D).natAbs≤10000*1000000000000:=by rw [Int.natAbs_mul]; exact Nat.mul_le_mul HW.out HBD.out
  rw [IntKind.wrap_i64]
  omega
 refine wpAnyH_tk (i:=7) (d:=12) (v:=(.int .i64 (wy*D))) rfl rfl (by kernel_rfl) (by kernel_rfl) (by kernel_rfl) (fun _ _ _ h=>h) (.inl ⟨by rfl,by (intro wq hSw; (try dsimp only at hSw); go_simp; (try (first | rfl | omega)))⟩) hHeld ?_
 simp only [Act.put,List.setIfInBounds_toArray,List.set_cons_zero,List.set_cons_succ]
 refine wpAnyH_tk (i:=8) (d:=4) (v:=(.int .i64 (wy*D))) rfl rfl (by kernel_rfl) (by kernel_rfl) (by kernel_rfl) (fun _ _ _ h=>h) (.inl ⟨by rfl,by (intro wq hSw; (try dsimp only at hSw); go_simp; (try (first | rfl | omega)))⟩) hHeld ?_
 simp only [Act.put,List.setIfInBounds_toArray,List.set_cons_zero,List.set_cons_succ]
 refine wpAnyH_done (by kernel_rfl) ?_ _
 clear hHeld
 go_wp2
 go_ret
 exact ⟨ret_int (by rw [HDE.out]),HB8.out⟩
end Go.Proofs.YtdanomklbiidaaaGreatDoor

namespace Go.Proofs.YtdanomklbiidaaaGreatDoor
open Go.RowKit
attribute [local go_sem ↓] Go.wp_at_zero Go.wp_at_succ
set_option maxRecDepth 100000 in
set_option maxHeartbeats 800000 in
theorem idxK_any (B:Nat) (f:List Int→Bool) (m:List (List Int)) (v:Value) (p1:Addr) (w:World) (hv:Mat B 22 3 w v m)
  (hc:∀r∈m,∀(W:World) (rv:Value),Below w.heap.size w W→Sl B 3 W rv (ints r)→Calls Tryz.prog 20 #[rv,.pointer (some p1)] W fun e w'=>e=.returned (.bool (f r))∧Below w.heap.size w w') :
  Calls Tryz.prog 41 #[v,.func (.func 20) #[] #[.pointer (some p1)]] w fun e w'=>(∃z,e=.returned (.int .i64 z)∧-1≤z∧z < m.length∧decide (0≤z)=m.any f)∧Below w.heap.size w w':=by
 obtain ⟨ao,cap,hvv,hlc,hcm⟩:=mat_open hv
 subst hvv
 have HV:Hid (Mat B 22 3 w (.slice ao m.length cap) m):=hv
 have HC:Hid (∀r∈m,∀(W:World) (rv:Value),Below w.heap.size w W→Sl B 3 W rv (ints r)→Calls Tryz.prog 20 #[rv,.pointer (some p1)] W fun e w'=>e=.returned (.bool (f r))∧Below w.heap.size w w'):=hc
 clear hv hc
 go_enter Tryz.func41,Tryz.ntmps41
 go_wp2
 go_loopw [8] (fun i wr=>∃k:Nat,k≤m.length∧i=.int .i64 k∧(m.take k).any f=false∧Below w.heap.size w wr) (fun i _=>m.length-(intOf i).toNat)
 case atStart=>exact ⟨0,Nat.zero_le _,rfl,by simp,Below.refl _ _⟩
 case round=>
  obtain ⟨k,hk,rfl,hno,hb⟩:=hrel
  have HN:Hid ((m.take k).any f=false):=hno
  have HB:Hid (Below w.heap.size w wr):=hb
  clear hno hb
  by_cases hlt:k < m.length
  ·obtain ⟨b1,o,cp,r1,hs,hc1,hcc,hr1⟩:=mat_cell (HV.out.below HB.out (Nat.le_refl _)) hlt
   simp only [Value.slice.injEq] at hs
   obtain ⟨rfl,hxx,rfl⟩:=hs
   clear hxx
   have HS1:Hid ((m.take (k+1)).any f=f (m.getD k [])):=anyR_snoc (p:=f) hlt HN.out
   have HME:Hid (m.getD k []∈m):=by
    show _∈_
    simp [hlt]
   have HCA:Hid (Calls Tryz.prog 20 #[r1,.pointer (some p1)] wr fun e w'=>e=.returned (.bool (f (m.getD k [])))∧Below w.heap.size w w'):=HC.out _ HME.out wr r1 HB.out hr1
   clear hr1
   generalize m.getD k []=x at *
   obtain ⟨fb,hfb⟩:∃fb,fb=f x:=⟨_,rfl⟩
   have HFB:Hid (fb=f x):=hfb
   rw [←hfb] at HCA
   clear hfb
   go_wp2_with fail
   refine HCA.out.mono ?_
   rintro e w2 ⟨rfl,hb2⟩
   have HB2:Hid (Below w.heap.size w w2):=hb2
   clear hb2 HCA
   cases hf:fb
   ·have HF:Hid (f x=false):=by rw [←hf]; exact HFB.out.symm
    clear hf
    go_wp2
    go_roundw
    case rel=>exact ⟨k+1,by omega,by go_num,by rw [HS1.out]; exact HF.out,HB2.out⟩
    case measure=>simp [intOf]; omega
   ·have HF:Hid (f x=true):=by rw [←hf]; exact HFB.out.symm
    clear hf
    go_wp2
    go_ret
    refine ⟨⟨_,rfl,by omega,by omega,?_⟩,HB2.out⟩
    rw [decide_eq_true (by omega)]
    exact (List.any_eq_true.2 ⟨x,HME.out,HF.out⟩).symm
  ·have HTK:Hid (m.take k=m):=List.take_of_length_le (by omega)
   go_wp2
   go_ret
   exact ⟨⟨-1,rfl,by omega,by omega,by rw [←HTK.out,HN.out]; rfl⟩,HB.out⟩
set_option maxRecDepth 100000 in
theorem hasK_any (B:Nat) (f:List Int→Bool) (m:List (List Int)) (v:Value) (p1:Addr) (w:World) (hv:Mat B 22 3 w v m)
  (hc:∀r∈m,∀(W:World) (rv:Value),Below w.heap.size w W→Sl B 3 W rv (ints r)→Calls Tryz.prog 20 #[rv,.pointer (some p1)] W fun e w'=>e=.returned (.bool (f r))∧Below w.heap.size w w') :
  Calls Tryz.prog 22 #[v,.func (.func 20) #[] #[.pointer (some p1)]] w fun e w'=>e=.returned (.bool (m.any f))∧Below w.heap.size w w':=by
 have HI:Hid (Calls Tryz.prog 41 #[v,.func (.func 20) #[] #[.pointer (some p1)]] w fun e w'=>(∃z,e=.returned (.int .i64 z)∧-1≤z∧z < m.length∧decide (0≤z)=m.any f)∧Below w.heap.size w w'):=idxK_any B f m v p1 w hv hc
 obtain ⟨ao,cap,hvv,hlc,hcm⟩:=mat_open hv
 subst hvv
 clear hv hc
 generalize m.any f=R at *
 go_enter Tryz.func22,Tryz.ntmps22
 go_wp2_with fail
 refine HI.out.mono ?_
 rintro e w' ⟨⟨z,rfl,hz1,hz2,hz3⟩,hb⟩
 have HZ:Hid (decide (0≤z)=R):=hz3
 have HB:Hid (Below w.heap.size w w'):=hb
 clear hz3 hb
 go_wp2
 go_ret
 exact ⟨ret_bool HZ.out,HB.out⟩
set_option maxRecDepth 100000 in
set_option maxHeartbeats 800000 in
theorem idxW_any (B:Nat) (f:List Int→Bool) (m:List (List Int)) (v:Value) (p1:Addr) (w:World) (hv:Mat B 22 3 w v m)
  (hc:∀r∈m,∀(W:World) (rv:Value),Below w.heap.size w W→Sl B 3 W rv (ints r)→Calls Tryz.prog 34 #[rv,.pointer (some p1)] W fun e w'=>e=.returned (.bool (f r))∧Below w.heap.size w w') :
  Calls Tryz.prog 41 #[v,.func (.func 34) #[] #[.pointer (some p1)]] w fun e w'=>(∃z,e=.returned (.int .i64 z)∧-1≤z∧z < m.length∧decide (0≤z)=m.any f)∧Below w.heap.size w w':=by
 obtain ⟨ao,cap,hvv,hlc,hcm⟩:=mat_open hv
 subst hvv
 have HV:Hid (Mat B 22 3 w (.slice ao m.length cap) m):=hv
 have HC:Hid (∀r∈m,∀(W:World) (rv:Value),Below w.heap.size w W→Sl B 3 W rv (ints r)→Calls Tryz.prog 34 #[rv,.pointer (some p1)] W fun e w'=>e=.returned (.bool (f r))∧Below w.heap.size w w'):=hc
 clear hv hc
 go_enter Tryz.func41,Tryz.ntmps41
 go_wp2
 go_loopw [8] (fun i wr=>∃k:Nat,k≤m.length∧i=.int .i64 k∧(m.take k).any f=false∧Below w.heap.size w wr) (fun i _=>m.length-(intOf i).toNat)
 case atStart=>exact ⟨0,Nat.zero_le _,rfl,by simp,Below.refl _ _⟩
 case round=>
  obtain ⟨k,hk,rfl,hno,hb⟩:=hrel
  have HN:Hid ((m.take k).any f=false):=hno
  have HB:Hid (Below w.heap.size w wr):=hb
  clear hno hb
  by_cases hlt:k < m.length
  ·obtain ⟨b1,o,cp,r1,hs,hc1,hcc,hr1⟩:=mat_cell (HV.out.below HB.out (Nat.le_refl _)) hlt
   simp only [Value.slice.injEq] at hs
   obtain ⟨rfl,hxx,rfl⟩:=hs
   clear hxx
   have HS1:Hid ((m.take (k+1)).any f=f (m.getD k [])):=anyR_snoc (p:=f) hlt HN.out
   have HME:Hid (m.getD k []∈m):=by
    show _∈_
    simp [hlt]
   have HCA:Hid (Calls Tryz.prog 34 #[r1,.pointer (some p1)] wr fun e w'=>e=.returned (.bool (f (m.getD k [])))∧Below w.heap.size w w'):=HC.out _ HME.out wr r1 HB.out hr1
   clear hr1
   generalize m.getD k []=x at *
   obtain ⟨fb,hfb⟩:∃fb,fb=f x:=⟨_,rfl⟩
   have HFB:Hid (fb=f x):=hfb
   rw [←hfb] at HCA
   clear hfb
   go_wp2_with fail
   refine HCA.out.mono ?_
   rintro e w2 ⟨rfl,hb2⟩
   have HB2:Hid (Below w.heap.size w w2):=hb2
   clear hb2 HCA
   cases hf:fb
   ·have HF:Hid (f x=false):=by rw [←hf]; exact HFB.out.symm
    clear hf
    go_wp2
    go_roundw
    case rel=>exact ⟨k+1,by omega,by go_num,by rw [HS1.out]; exact HF.out,HB2.out⟩
    case measure=>simp [intOf]; omega
   ·have HF:Hid (f x=true):=by rw [←hf]; exact HFB.out.symm
    clear hf
    go_wp2
    go_ret
    refine ⟨⟨_,rfl,by omega,by omega,?_⟩,HB2.out⟩
    rw [decide_eq_true (by omega)]
    exact (List.any_eq_true.2 ⟨x,HME.out,HF.out⟩).symm
  ·have HTK:Hid (m.take k=m):=List.take_of_length_le (by omega)
   go_wp2
   go_ret
   exact ⟨⟨-1,rfl,by omega,by omega,by rw [←HTK.out,HN.out]; rfl⟩,HB.out⟩
set_option maxRecDepth 100000 in
theorem hasW_any (B:Nat) (f:List Int→Bool) (m:List (List Int)) (v:Value) (p1:Addr) (w:World) (hv:Mat B 22 3 w v m)
  (hc:∀r∈m,∀(W:World) (rv:Value),Below w.heap.size w W→Sl B 3 W rv (ints r)→Calls Tryz.prog 34 #[rv,.pointer (some p1)] W fun e w'=>e=.returned (.bool (f r))∧Below w.heap.size w w') :
  Calls Tryz.prog 22 #[v,.func (.func 34) #[] #[.pointer (some p1)]] w fun e w'=>e=.returned (.bool (m.any f))∧Below w.heap.size w w':=by
 have HI:Hid (Calls Tryz.prog 41 #[v,.func (.func 34) #[] #[.pointer (some p1)]] w fun e w'=>(∃z,e=.returned (.int .i64 z)∧-1≤z∧z < m.length∧decide (0≤z)=m.any f)∧Below w.heap.size w w'):=idxW_any B f m v p1 w hv hc
 obtain ⟨ao,cap,hvv,hlc,hcm⟩:=mat_open hv
 subst hvv
 clear hv hc
 generalize m.any f=R at *
 go_enter Tryz.func22,Tryz.ntmps22
 go_wp2_with fail
 refine HI.out.mono ?_
 rintro e w' ⟨⟨z,rfl,hz1,hz2,hz3⟩,hb⟩
 have HZ:Hid (decide (0≤z)=R):=hz3
 have HB:Hid (Below w.heap.size w w'):=hb
 clear hz3 hb
 go_wp2
 go_ret
 exact ⟨ret_bool HZ.out,HB.out⟩
end Go.Proofs.YtdanomklbiidaaaGreatDoor

namespace Go.Proofs.YtdanomklbiidaaaGreatDoor
open Go.RowKit Lin
attribute [local go_sem ↓] Go.wp_at_zero Go.wp_at_succ
def hgL (wy:Int) (L3:List (List Int)) (x:List Int):Int:=wy*detL (diffL (L3 ++ [x]))
set_option maxRecDepth 100000 in
set_option maxHeartbeats 1600000 in
theorem blw_any (L3:List (List Int)) (x:List Int) (wy:Int) (xv:Value) (q1 q2 q3:Nat) (po:Option Addr) (pc:Nat) (w:World) (hx:Sl w.heap.size 3 w xv (ints x)) (hp:Mat w.heap.size 22 3 w (.slice po 3 pc) L3) (hl:L3.length=3)
  (hb:Box 3 30 (L3 ++ [x])) (hw:wy.natAbs≤10000) (c1:w.cell? ⟨q1,0,none⟩=some (.int .i64 wy)) (c2:w.cell? ⟨q2,0,none⟩=some (.slice po 3 pc)) (c3:w.cell? ⟨q3,0,none⟩=some (.func (.func 33) #[] #[.pointer (some ⟨q1,0,none⟩),.pointer (some ⟨q2,0,none⟩)])) :
  Calls Tryz.prog 34 #[xv,.pointer (some ⟨q3,0,none⟩)] w fun e w'=>e=.returned (.bool (decide (hgL wy L3 x < 0)))∧Below w.heap.size w w':=by
 have H:=hgt_any L3 x wy xv q1 q2 po pc w hx hp hl hb hw c1 c2
 obtain ⟨xo,xc,rfl,_,_⟩:=sl_open hx
 have HG:Hid (Calls Tryz.prog 33 #[.slice xo x.length xc,.pointer (some ⟨q1,0,none⟩),.pointer (some ⟨q2,0,none⟩)] w fun e w'=>e=.returned (.int .i64 (hgL wy L3 x))∧Below w.heap.size w w'):=H
 clear H hx hp hl hb hw c1 c2
 generalize hgL wy L3 x=D at *
 go_enter Tryz.func34,Tryz.ntmps34
 go_wp2_with fail
 refine HG.out.mono ?_
 rintro e w1 ⟨rfl,hb1⟩
 have HB1:Hid (Below w.heap.size w w1):=hb1
 clear hb1 HG c3
 go_wp2
 go_ret
 exact ⟨rfl,HB1.out⟩
set_option maxRecDepth 100000 in
set_option maxHeartbeats 1600000 in
theorem eqk_any (x y:List Int) (xv yv:Value) (q1:Nat) (w:World) (hx:Sl w.heap.size 3 w xv (ints x)) (hy:Sl w.heap.size 3 w yv (ints y)) (c1:w.cell? ⟨q1,0,none⟩=some xv) :
  Calls Tryz.prog 20 #[yv,.pointer (some ⟨q1,0,none⟩)] w fun e w'=>e=.returned (.bool (x == y))∧Below w.heap.size w w':=by
 obtain ⟨xo,xc,rfl,_,_⟩:=sl_open hx
 obtain ⟨yo,yc,rfl,_,_⟩:=sl_open hy
 have HE:Hid (Calls Tryz.prog 21 #[.slice xo x.length xc,.slice yo y.length yc] w fun e w'=>e=.returned (.bool (x == y))∧∃n,w'=w.drewN n):=equal_any w.heap.size x y _ _ w hx hy
 clear hx hy
 obtain ⟨R,hR⟩:∃R,R=(x == y):=⟨_,rfl⟩
 have HR:Hid (R=(x == y)):=hR
 rw [←hR] at HE
 clear hR
 go_enter Tryz.func20,Tryz.ntmps20
 go_wp2_with fail
 refine HE.out.mono ?_
 rintro e w1 ⟨rfl,n,rfl⟩
 clear HE c1
 go_wp2
 go_ret
 exact ⟨ret_bool HR.out,⟨rfl,rfl,rfl,Nat.le_refl _,fun _ _=>rfl⟩⟩
end Go.Proofs.YtdanomklbiidaaaGreatDoor
