import Derived.Test.YtdanomklbiidaaaGreatDoorMgAW
import Derived.Test.YtdanomklbiidaaaGreatDoorMgAN
import Derived.Laws.AppendOwnNone
import Derived.Sort.CutIn
namespace Go.Proofs.YtdanomklbiidaaaGreatDoor
open Go.RowKit Go.Shelf Lin
attribute [local go_sem] Oper.semAt_some
theorem op_append_slA {P:Program} {o:Oper} {a:Act} {w:World} {K:Act→World→Prop} {Q:Exit→Act→World→Prop}
  (s x:Operand) (t:TypeId) (hop:o.op=Op.call { callee:=Callee.builtin Builtin.append,args:=#[s,x],argTypes:=#[t,t] })
  (base:Nat) (e:TypeId) (i:TypeInfo) (z:Value) (bytes:Nat) (h1:P.underlying t=some (.slice e)) (h2:P.info? e=some i) (h3:i.zero=some z) (h4:i.size=1) (h5:i.bytes=bytes) (h6:z.cells.size=1)
  (v:Value) (n:Nat) (xs:List Value) (hs:a.eval s=v) (hown:w.ownsRow base e 1 v n xs)
  (ro:Option Addr) (m c:Nat) (news:List Value) (hx:a.eval x=.slice ro m c) (hsl:Sl 0 e w (.slice ro m c) news) (h1c:∀u∈news,u.oneCell'=true)
  (b1:n+m≤maxLen) (b2:(n+m)*bytes≤140737488355328) (hb:base≤w.heap.size)
  (hK:∀v' w',w'.ownsRow base e 1 v' (n+m) (xs ++ news)→w.grownBy w' v.ownBlock→(v'.ownBlock=v.ownBlock∨v'.ownBlock=some w.heap.size)→K (a.put o.dst v') w'):Oper.wp P o a w K Q:=by
 cases ro with
 | none=>
  obtain ⟨ao,cp,he,h2',_,h3',h4'⟩:=hsl
  simp only [Value.slice.injEq] at he
  have hl0:news.length=0:=by
   apply Classical.byContradiction
   intro hne
   obtain ⟨b,o,ha,_⟩:=h3' 0 (by omega)
   rw [←he.1] at ha; cases ha
  have hm0:m=0:=by omega
  have hc0:c=0:=by rw [he.2.2]; exact h4' he.1.symm
  have hn0:news=[]:=List.eq_nil_of_length_eq_zero hl0
  subst hm0 hc0 hn0
  have hrun:=run_append_owned_none (P:=P) (w:=w) base t o.type e i 1 h1 h2 v n xs hown
  unfold Oper.wp
  simp [execOp,hop,resolve,invoke,builtin,hs,hx,hrun,Result.andThen]
  exact hK _ _ (by simpa using hown) (World.grownBy.refl _ _) (Or.inl rfl)
 | some ad=>
  have hl:news.length=m*1:=by
   obtain ⟨ao,cp,he,_⟩:=hsl
   simp only [Value.slice.injEq] at he
   omega
  obtain ⟨v',w',hrun,r1,r2,_,r3⟩:=run_append_own_at (P:=P) w base t o.type e i z 1 bytes h1 h2 h3 h4 h5 h6 (by decide) v n xs hown ad m c news hl (slice_cells hsl) h1c b1 b2 hb
  unfold Oper.wp
  simp [execOp,hop,resolve,invoke,builtin,hs,hx,hrun,Result.andThen]
  exact hK v' w' r1 r2 r3
theorem FrO.app {S:Nat→Prop} {B:Nat} {W W':World} {v v':Value} {m R:List (List Int)} {vs us:List Value} (h:FrO S B W v m vs) (hl:us.length=R.length) (hu:∀i,i < R.length→Sl 0 3 W (us.getD i (.slice none 0 0)) (ints (R.getD i [])))
  (hun:∀i,i < R.length→0 < (R.getD i []).length→∃a n c,us.getD i (.slice none 0 0)=.slice (some a) n c∧¬S a.block)
  (ho:W'.ownsRow B 22 1 v' (m.length+R.length) (vs ++ us)) (hg:W.grownBy W' v.ownBlock) (hn:∀g,v'.ownBlock=some g→¬S g):FrO S B W' v' (m ++ R) (vs ++ us):=by
 have ht:∀k,v.ownBlock=some k→0≤k∧∀cur,W.heap[k]?≠some (.cells cur 3 (0,0)):=fun k hk=>⟨Nat.zero_le _,(owns_typed h.own (by decide) k hk).2⟩
 have hvl:=h.len
 have e1:∀i,i < m.length→(vs ++ us).getD i (.slice none 0 0)=vs.getD i (.slice none 0 0)∧(m ++ R).getD i []=m.getD i []:=fun i hi=>
  ⟨by simp only [List.getD_eq_getElem?_getD]; rw [List.getElem?_append_left (by omega)],by simp only [List.getD_eq_getElem?_getD]; rw [List.getElem?_append_left (by omega)]⟩
 have e2:∀i,¬i < m.length→(vs ++ us).getD i (.slice none 0 0)=us.getD (i-m.length) (.slice none 0 0)∧(m ++ R).getD i []=R.getD (i-m.length) []:=fun i hi=>
  ⟨by simp only [List.getD_eq_getElem?_getD]; rw [List.getElem?_append_right (by omega),hvl],by simp only [List.getD_eq_getElem?_getD]; rw [List.getElem?_append_right (by omega)]⟩
 refine ⟨by simp [hvl,hl],by simpa using ho,hn,fun i hi=>?_,fun i hi hpos=>?_⟩
 ·by_cases hlt:i < m.length
  ·rw [(e1 i hlt).1,(e1 i hlt).2]
   exact (h.sl i hlt).grown hg ht
  ·rw [(e2 i hlt).1,(e2 i hlt).2]
   exact (hu _ (by rw [List.length_append] at hi; omega)).grown hg ht
 ·by_cases hlt:i < m.length
  ·rw [(e1 i hlt).2] at hpos
   rw [(e1 i hlt).1]
   exact h.so i hlt hpos
  ·rw [(e2 i hlt).2] at hpos
   rw [(e2 i hlt).1]
   exact hun _ (by rw [List.length_append] at hi; omega) hpos
structure WaI (w WN:World) (d:Nat) (P:List (List Int)) (S:Nat→Prop) (pre:List (List Int)) (W:World):Prop where
 sn:∀b,S b→w.heap.size+2≤b
 kp:Kpt (fun b=>b < w.heap.size+1) WN W
 os:W.os=w.os
 tape:W.tape=w.tape
 output:W.output=w.output
 rv:∃v vs m,W.heap[w.heap.size+1]?=some (.cells #[v] 23 (0,0))∧FrO S (w.heap.size+6) W v m vs∧RwQ d P pre m
theorem WaI.stab {w WN W W':World} {d:Nat} {P:List (List Int)} {pre:List (List Int)} {S S':Nat→Prop} (h:WaI w WN d P S pre W) (hN:w.heap.size+2≤WN.heap.size) (hc:Chg S W W') (hs:∀b,S' b→S b∨W.heap.size≤b):WaI w WN d P S' pre W':=by
 have h0:=h.kp.size
 obtain ⟨v,vs,m,h1,h2,h3⟩:=h.rv
 refine ⟨fun b hb=>?_,h.kp.trans (Kpt.of_chg hc fun i _ hi hsi=>?_),hc.os.trans h.os,hc.tape.trans h.tape,hc.output.trans h.output,v,vs,m,(hc.block _ (by omega) (fun hx=>by have:=h.sn _ hx; omega)).trans h1,h2.keep (fun b hb hn=>hc.block b hb hn) hs,h3⟩
 ·rcases hs b hb with h1 | h1
  ·exact h.sn b h1
  ·omega
 ·have:=h.sn i hsi
  omega
theorem pks_memW {P:List (List Int)} {c:List Int} (h:∀i,i < c.length→0≤c.getD i 0∧c.getD i 0 < P.length):∀x∈pks P [] c,x∈P:=by
 intro x hx
 simp only [pks,List.mem_map] at hx
 obtain ⟨z,hz,rfl⟩:=hx
 obtain ⟨t,ht,rfl⟩:=List.getElem_of_mem hz
 have h1:=h t ht
 have e:c.getD t 0=c[t]:=by simp [ht]
 rw [e] at h1
 rw [List.getD_eq_getElem?_getD,List.getElem?_eq_getElem (by omega)]; exact List.getElem_mem _
set_option maxRecDepth 100000 in
set_option maxHeartbeats 8000000 in
theorem rowsAround2_any (d e:Nat) (P:List (List Int)) (v:Value) (w:World) (hv:Mat w.heap.size 22 3 w v P) (hg:Good d P) (hde:d=e+1) (he1:1≤e) :
  Calls Tryz.prog 56 #[v] w fun r w'=>∃u m' m,r=.returned u∧Fr w.heap.size 22 3 w' u m'∧Inor m' m∧RwQ d P (ext P.length e 0) m∧Below w.heap.size w w':=by
 obtain ⟨i0,hi0,hz0,hz1,hz2⟩:=info_parts Tryz.info22
 obtain ⟨pb,pf,pc,p1,rfl,hlc,hpc,hp1'⟩:=mat_cell hv (k:=0) (by have:=hg.n2; omega)
 obtain ⟨yo,yc,rfl,_,_⟩:=sl_open hp1'
 have hP0:(P.getD 0 []).length=d:=(hg.box _ (by simp [show 0 < P.length by have:=hg.n2; omega])).1
 rw [hP0] at hpc
 rw [Nat.add_zero] at hpc
 have hcA:(w.alloc (.cells #[.slice (some ⟨pb,pf,none⟩) P.length pc] 23)).cell? ⟨pb,pf,none⟩=some (.slice yo d yc):=((alloc_keep w _).cell (lt_of_cell hpc)).trans hpc
 obtain ⟨_,_,_,_,hcm⟩:=mat_open hv
 have HV:Hid (Mat w.heap.size 22 3 w (.slice (some ⟨pb,pf,none⟩) P.length pc) P):=hv
 have HG:Hid (Good d P):=hg
 have h4:=hg.d4
 have h24:=hg.n24
 have h2:=hg.n2
 have hdI:(d:Int)-1=(e:Int):=by omega
 have hd1:((d:Int) == 1)=false:=by simp; omega
 have HDE:Hid (d=e+1):=hde
 have he4:e≤4:=by omega
 clear hv hg hp1' hP0 hpc hde
 refine callsIn_wide (n:=0).1 ?_
 refine callsIn_of_wp_marks Tryz.func56 rfl trivial ?_ rfl
 simp only [Tryz.ntmps56,List.size_toArray,List.length_cons,List.length_nil,Nat.reduceAdd,Nat.reduceSub,Array.replicate_succ,Array.replicate_zero,List.push_toArray,List.append_toArray,List.nil_append,List.cons_append]
 gi_wp2_with (refine ⟨trivial,rfl,?_⟩; gi_at_call 15; refine (callsIn_wide.2 (of_any _ _ _)).mono ?_; rintro e w' ⟨rfl,rfl⟩)
 obtain ⟨WN,hWN,n1,n2,n3,n4,hsN,hbN⟩:=fourB w (.cells #[.slice (some ⟨pb,pf,none⟩) P.length pc] 23) (.cells #[.slice none 0 0] 23) (.cells #[.int .i64 P.length] 3) (.cells #[.int .i64 e] 3)
 rw [←hWN]
 clear hWN
 have HSQ:=of_seq P.length e (w.heap.size+1+1+1) (w.heap.size+1+1) WN (by omega) (by omega) (cell_of n4) (cell_of n3)
 have HSZ:Hid (WN.heap.size=w.heap.size+4):=hsN
 have HI0:Hid (WaI w WN d P (fun b=>b=w.heap.size+1+1+1∨b=w.heap.size+1+1) [] WN):=⟨fun b hb=>by omega,Kpt.refl _ _,hbN.os,hbN.tape,hbN.output,.slice none 0 0,[],[],n2,⟨rfl,World.ownsRow_nil _ _ _ _,fun g hg=>by simp [Value.ownBlock] at hg,fun i hi=>absurd hi (by simp),fun i hi=>absurd hi (by simp)⟩,RwQ.nil _ _⟩
 have HN1:Hid (WN.heap[w.heap.size]?=some (.cells #[.slice (some ⟨pb,pf,none⟩) P.length pc] 23 (0,0))):=n1
 have HBN:Hid (Below w.heap.size w WN):=hbN
 clear n1 n2 n3 n4 hbN hcA
 refine range_s (R:=Hand WN.heap.size) (cs:=ext P.length e 0) (T:=fun _=>False) (S0:=fun b=>b=w.heap.size+1+1+1∨b=w.heap.size+1+1) (gf:=29) (lb:=#[.pointer (some ⟨w.heap.size+1+1+1,0,none⟩),.pointer (some ⟨w.heap.size+1+1,0,none⟩)]) rfl (enters_of Tryz.func29 (by kernel_rfl) rfl) HSQ (fun b hb=>by omega)
  (fun W' S x vs ⟨v,B0,h1,_⟩=>by rw [h1]; rfl) (handA_below _) (handA_put _)
  (fun S pre W'=>WaI w WN d P S pre W')
  (fun c S pre W'=>False)
  (fun S S' pre W' W'' h hc hs=>h.stab (by have:=HSZ.out; omega) hc hs) (fun c S S' pre W' W'' h hc hs=>h) HI0.out
  (fun vs a' W'=>∃v,vs=#[v]∧a' = { tmps:=#[.slice (some ⟨pb,pf,none⟩) P.length pc,.pointer (some ⟨w.heap.size,0,none⟩),.slice none 0 0,.int .i64 d,.pointer (some ⟨w.heap.size+1,0,none⟩),v,.slice (some ⟨pb,pf,none⟩) P.length pc,.pointer (some ⟨pb,pf,none⟩),.slice yo d yc,.int .i64 d,.int .i64 d,.bool false,undef,undef,undef,undef,undef,undef,undef,undef,undef,undef,undef,undef,undef,undef,undef,undef,undef,.slice (some ⟨pb,pf,none⟩) P.length pc,.int .i64 P.length,.int .i64 d,.int .i64 e,.func (.func 29) #[] #[.pointer (some ⟨w.heap.size+1+1+1,0,none⟩),.pointer (some ⟨w.heap.size+1+1,0,none⟩)],v,undef,undef,undef,undef,undef,undef,undef,undef,undef],defers:=[] })
  (fun vs a' W' l r o h _=>h) ?assign ?body (fun h=>h) ?done ?stop
 case assign=>
  rintro S x vs W' K ⟨v,B0,rfl,h2,h3,h4⟩ hK
  gi_wp2
  exact hK _ _ (Below.refl _ _) ⟨v,rfl,rfl⟩
 case stop=>
  rintro c S pre W' hpre h
  exact h.elim
 case body=>
  rintro S pre c vs a' W1 hi hSD hSL hlt1 hdf hlp hpre ⟨S1,⟨v,B0,hvs,hown,hB0,hN0,hBW⟩,hS1⟩ ⟨v',hvs',rfl⟩
  have hvv:v=v':=by rw [hvs] at hvs'; simpa using hvs'
  subst hvv
  have hcm':c∈ext P.length e 0:=hpre.subset (by simp)
  obtain ⟨hr1,hr2,_⟩:=ext_rise hcm'
  have hsz:=HSZ.out
  have hws:=hi.kp.size
  have e1:W1.heap[w.heap.size]?=some (.cells #[.slice (some ⟨pb,pf,none⟩) P.length pc] 23 (0,0)):=(hi.kp.block _ (by omega) (by omega)).trans HN1.out
  have hlow:∀b,b < w.heap.size→W1.heap[b]?=w.heap[b]?:=fun b hb=>(hi.kp.block b (by omega) (by omega)).trans (HBN.out.block b hb)
  obtain ⟨rv,rvs,m,hrv,hfr,hrq⟩:=hi.rv
  obtain ⟨ro,rc,hrf⟩:=owns_form hfr.own
  subst hrf
  have HSB:Hid (∀b,S b→b < W1.heap.size):=fun b hx=>by
   rcases (hS1 _).1 hx with hx | hx | hx
   ·have:=hB0 _ hx; omega
   ·omega
   ·omega
  have hrl:∀i,i < c.length→0≤c.getD i 0∧c.getD i 0 < P.length:=fun i hi=>by have:=hr2 i (by omega); exact ⟨by omega,this.2⟩
  obtain ⟨vo,vc,hvf⟩:=owns_form hown
  subst hvf
  have HMP:Hid (Mat w.heap.size 22 3 W1 (.slice (some ⟨pb,pf,none⟩) P.length pc) P):=mat_keepA HV.out hlow
  have HCL:Hid (∀X,Below W1.heap.size W1 X→X.cell? ⟨w.heap.size,0,none⟩=some (.slice (some ⟨pb,pf,none⟩) P.length pc)):=fun X hX=>cell_of ((hX.block w.heap.size (by omega)).trans e1)
  have HCR:Hid (∀X,Below W1.heap.size W1 X→X.cell? ⟨w.heap.size+1,0,none⟩=some (.slice ro m.length rc)):=fun X hX=>cell_of ((hX.block (w.heap.size+1) (by omega)).trans hrv)
  have hTM:=pks_memW hrl
  have HTL:Hid ((pks P [] c).length=e):=by show _=_; rw [pks_len,hr1]
  have hT1:1≤(pks P [] c).length:=by rw [HTL.out]; exact he1
  have HTB:Hid (Box d 30 (pks P [] c)):=fun y hy=>HG.out.box y (hTM y hy)
  have HPK:Hid (∀X,Below W1.heap.size W1 X→Calls Tryz.prog 26 #[.slice (some ⟨pb,pf,none⟩) P.length pc,.slice vo c.length vc] X fun e' w'=>∃zo zc,e'=.returned (.slice zo e zc)∧Below W1.heap.size W1 w'∧Mat w'.heap.size 22 3 w' (.slice zo e zc) (pks P [] c)):=fun X hX=>by
   have h:=pickedP_any X.heap.size P c (.slice (some ⟨pb,pf,none⟩) P.length pc) (.slice vo c.length vc) X ((HMP.out.below hX (Nat.le_refl _)).any (Nat.le_refl _)) (((show Sl W1.heap.size 3 W1 (.slice vo c.length vc) (ints c) from Sl.own hown).below hX (Nat.le_refl _)).any (Nat.le_refl _)) hrl (by omega)
   refine h.mono ?_
   rintro e' w' ⟨z,rfl,hz,hb⟩
   obtain ⟨zo,zc,rfl,_,_⟩:=mat_open (hz.mat (Nat.le_refl _))
   rw [HTL.out] at hz ⊢
   have hb':Below W1.heap.size W1 w':=hX.trans (hb.mono hX.size)
   exact ⟨zo,zc,rfl,hb',(hz.mat (Nat.le_refl _)).any (Nat.le_refl _)⟩
  have HRT:Hid (∀zo zc w',Below W1.heap.size W1 w'→Mat w'.heap.size 22 3 w' (.slice zo e zc) (pks P [] c)→Calls Tryz.prog 87 #[.slice zo e zc,.slice (some ⟨pb,pf,none⟩) P.length pc] w' fun e' w''=>∃yo' yl yc',e'=.returned (.slice yo' yl yc')∧(∃R,yl=R.length∧ThrQ d P (pks P [] c) R∧Rwo W1.heap.size w'' (.slice yo' yl yc') R)∧Below W1.heap.size W1 w''):=fun zo zc w' hb hm=>by
   refine (rowsThrough_any d (pks P [] c) P (KerP d (diffL (pks P [] c))) _ _ w' hm ((HMP.out.below hb (Nat.le_refl _)).any (Nat.le_refl _)) hT1 (by omega) ((HG.out.box _ (by simp [show 0 < P.length by omega])).1) (diff_gives d _ _ w' hm hT1 (by rw [HTL.out]; omega) (by have:=HG.out.d1; omega) (by omega) HTB.out) (fun W z hB hz=>ker_gives d _ w' (diff_mx HTB.out HG.out.d1 (by omega)) HG.out.d4 (by rw [diffL_length,HTL.out]; omega) (by omega) W z hB hz) (thr_ok HG.out hTM hT1)).mono ?_
   rintro e' w'' ⟨K,z,hK,rfl,hz,hb2⟩
   obtain ⟨us,g1,g2,g3⟩:=hz
   obtain ⟨yo',yc',rfl⟩:=owns_form g2
   exact ⟨yo',_,yc',rfl,⟨_,rfl,⟨K,hK,rfl⟩,Rwo.low ⟨us,g1,g2,g3⟩ hb.size⟩,hb.trans (hb2.mono hb.size)⟩
  obtain ⟨lr,hlp⟩:=hlp
  have HIS:Hid (∀w7,Below W1.heap.size W1 w7→WaI w WN d P S pre w7):=fun w7 hb=>hi.stab (by omega) (Chg.of_below hb (Nat.le_refl _)) (fun b hb=>.inl hb)
  have HSN:Hid (∀b,S b→w.heap.size+2≤b):=hi.sn
  have HFR:Hid (FrO S (w.heap.size+6) W1 (.slice ro m.length rc) m rvs):=hfr
  have HRV:Hid (W1.heap[w.heap.size+1]?=some (.cells #[.slice ro m.length rc] 23 (0,0))):=hrv
  have HRL:Hid (m.length≤900000):=by
   have hl:=hrq.len
   have h2:pre.length≤(ext P.length e 0).length:=by
    have:=hpre.length_le
    simp only [List.length_append,List.length_cons,List.length_nil] at this
    omega
   have h3:=ext_lenW (e:=e) (Nat.le_trans h24 (by decide)) (by omega)
   show _≤_
   omega
  have HQS:Hid (∀R,ThrQ d P (pks P [] c) R→RwQ d P (pre ++ [c]) (m ++ R)):=fun R hR=>hrq.snoc HG.out hTM hT1 hR
  have hs2:w.heap.size+6≤W1.heap.size:=by omega
  have HE1:Hid (W1.heap[w.heap.size]?=some (.cells #[.slice (some ⟨pb,pf,none⟩) P.length pc] 23 (0,0))):=e1
  have HFF:Hid (∀yo' yl yc' w7,Below W1.heap.size W1 w7→(∃R,yl=R.length∧ThrQ d P (pks P [] c) R∧Rwo W1.heap.size w7 (.slice yo' yl yc') R)→
    yl≤2∧∃us,Sl 0 22 w7 (.slice yo' yl yc') us∧(∀u∈us,u.oneCell'=true)∧w7.ownsRow (w.heap.size+6) 22 1 (.slice ro m.length rc) m.length rvs∧w.heap.size+6≤w7.heap.size∧
    ∀v' w8,w8.ownsRow (w.heap.size+6) 22 1 v' (m.length+yl) (rvs ++ us)→w7.grownBy w8 (Value.slice ro m.length rc).ownBlock→(v'.ownBlock=(Value.slice ro m.length rc).ownBlock∨v'.ownBlock=some w7.heap.size)→
     w8.cell? ⟨w.heap.size+1,0,none⟩=some (.slice ro m.length rc)∧w8.frozen? ⟨w.heap.size+1,0,none⟩=false∧w8.cell? ⟨w.heap.size,0,none⟩=some (.slice (some ⟨pb,pf,none⟩) P.length pc)∧(w8.setCell ⟨w.heap.size+1,0,none⟩ v').cell? ⟨w.heap.size,0,none⟩=some (.slice (some ⟨pb,pf,none⟩) P.length pc)∧
     Kpt (fun b=>S b∨False) W1 (w8.setCell ⟨w.heap.size+1,0,none⟩ v')∧WaI w WN d P S (pre ++ [c]) (w8.setCell ⟨w.heap.size+1,0,none⟩ v')):=fun yo' yl yc' w7 hb ⟨R,hyl,hRQ,hRw⟩=>by
   subst hyl
   have hbs:=hb.size
   obtain ⟨us,g1,g2,g3⟩:=hRw
   have hFR7:FrO S (w.heap.size+6) w7 (.slice ro m.length rc) m rvs:=HFR.out.keep (fun b hb1 hn=>hb.block b hb1) (fun b hb=>.inl hb)
   refine ⟨hRQ.len,us,(Sl.own g2).more (Nat.zero_le _),fun u hu=>?_,hFR7.own,by omega,fun v' w8 ho hg hat=>?_⟩
   ·obtain ⟨i,hi,rfl⟩:=List.getElem_of_mem hu
    have h:=g3 i (by omega)
    obtain ⟨a,b,hf⟩:=owns_form h
    have e2:us.getD i (.slice none 0 0)=us[i]:=by simp [hi]
    rw [←e2,hf]
    rfl
   ·have hblk:∀b,b < W1.heap.size→(∀g,(Value.slice ro m.length rc).ownBlock=some g→b≠g)→w8.heap[b]?=W1.heap[b]?:=fun b hb1 hne=>
     (hg.block b (by omega) (fun e=>hne b e.symm rfl)).trans (hb.block b hb1)
    have hrn:∀g,(Value.slice ro m.length rc).ownBlock=some g→w.heap.size+1≠g:=fun g hg1=>by have:=(HFR.out.own.lt g hg1).1; omega
    have hrn0:∀g,(Value.slice ro m.length rc).ownBlock=some g→w.heap.size≠g:=fun g hg1=>by have:=(HFR.out.own.lt g hg1).1; omega
    have h8:w8.heap[w.heap.size+1]?=some (.cells #[.slice ro m.length rc] 23 (0,0)):=(hblk _ (by omega) hrn).trans HRV.out
    have h80:w8.heap[w.heap.size]?=some (.cells #[.slice (some ⟨pb,pf,none⟩) P.length pc] 23 (0,0)):=(hblk _ (by omega) hrn0).trans HE1.out
    have hg7:=hg.size
    have hnew:∀b,W1.heap.size≤b→¬S b:=fun b hb1 hs=>by have:=HSB.out b hs; omega
    refine ⟨cell_of h8,by simp [World.frozen?,h8],cell_of h80,cell_of ((Below.heap_setCell _ _ _ _ (by show w.heap.size≠w.heap.size+1; omega)).trans h80),⟨by simp [World.setCell]; omega,fun b hb1 hs=>?_⟩,?_⟩
    ·have hs':S b:=hs.elim id False.elim
     refine (Below.heap_setCell _ _ _ _ (by show b≠w.heap.size+1; have:=HSN.out b hs'; omega)).trans (hblk b hb1 (fun g hg1 e=>?_))
     subst e
     exact HFR.out.off _ hg1 hs'
    ·have hI7:=HIS.out w7 hb
     have hpush:=hFR7.app (R:=R) (us:=us) g1 (fun i hi=>(Sl.own (g3 i hi)).more (Nat.zero_le _)) (fun i hi hp=>by
      rcases (g3 i hi).2 with ⟨h1,h2⟩ | ⟨g,cap,cur,h1,h2,h3,_⟩
      ·omega
      ·exact ⟨_,_,_,h1,hnew _ h2⟩) ho hg (fun g hg1=>by
      rcases hat with h | h
      ·rw [h] at hg1; exact HFR.out.off g hg1
      ·rw [h] at hg1
       simp only [Option.some.injEq] at hg1
       exact hnew g (by omega))
     have hset:=hpush.set (b:=w.heap.size+1) (j:=0) (u:=v') (by omega) h8 (by decide)
     obtain ⟨q1,q2,q3,q4,q5,_⟩:=hI7
     refine ⟨q1,q2.trans ⟨?_,fun b hb1 hlt=>?_⟩,?_,?_,?_,v',rvs ++ us,m ++ R,set_one h8,hset,HQS.out R hRQ⟩
     ·simp [World.setCell]; omega
     ·have hbW:b < W1.heap.size:=by have:=HSZ.out; omega
      refine (Below.heap_setCell _ _ _ _ (by show b≠w.heap.size+1; omega)).trans ((hblk b hbW (fun g hg1 e=>?_)).trans (hb.block b hbW).symm)
      have:=(HFR.out.own.lt g hg1).1
      omega
     ·exact hg.os.trans q3
     ·exact hg.tape.trans q4
     ·exact hg.output.trans q5
  have hrl':=HRL.out
  have hcp:=HCL.out W1.drew ((Below.refl _ _).drew)
  have HBD:Hid (Below W1.heap.size W1 W1.drew):=(Below.refl _ _).drew
  clear hi hpre hown hB0 hN0 hBW hS1 hcm' hr1 hr2 hdf hlp hvs hvs' hrl hlow hrv hfr hsz hws e1 HMP HSQ hTM hT1 hrq HIS HFR HRV HQS HRL HE1
  gi_upto_region 7 with fail
  dsimp only
  refine wpIn_region_rnd (fun w'=>w'.cell? ⟨w.heap.size,0,none⟩=some (.slice (some ⟨pb,pf,none⟩) P.length pc)) (by kernel_rfl) (no_defer (by kernel_rfl)) (fun a w h=>h) hcp (fun hHeld=>?_)
  refine wpAnyH_tk (i:=1) (d:=36) (v:=.slice (some ⟨pb,pf,none⟩) P.length pc) rfl rfl (by kernel_rfl) (by kernel_rfl) (by kernel_rfl) (fun _ _ _ h=>h) (.inl ⟨by rfl,by (intro wq hSw; (try dsimp only at hSw); go_simp; (try (first | rfl | omega)))⟩) hHeld ?_
  simp only [Act.put,List.setIfInBounds_toArray,List.set_cons_zero,List.set_cons_succ]
  refine wpAnyH_tk (i:=2) (d:=37) (v:=.slice vo c.length vc) rfl rfl (by kernel_rfl) (by kernel_rfl) (by kernel_rfl) (fun _ _ _ h=>h) (.inl ⟨by rfl,by (intro wq hSw; (try dsimp only at hSw); go_simp; (try (first | rfl | omega)))⟩) hHeld ?_
  simp only [Act.put,List.setIfInBounds_toArray,List.set_cons_zero,List.set_cons_succ]
  refine wpAnyH_tk (i:=4) (d:=39) (v:=.slice (some ⟨pb,pf,none⟩) P.length pc) rfl rfl (by kernel_rfl) (by kernel_rfl) (by kernel_rfl) (fun _ _ _ h=>h) (.inl ⟨by rfl,by (intro wq hSw; (try dsimp only at hSw); go_simp; (try (first | rfl | omega)))⟩) hHeld ?_
  simp only [Act.put,List.setIfInBounds_toArray,List.set_cons_zero,List.set_cons_succ]
  refine wpAnyH_ready (rs:=[0,3]) (by kernel_rfl) (by simp) ?_
  refine ready_tk (i:=0) rfl (by rfl) (fun K hK=>?_) (ready_tk (i:=3) rfl (by rfl) (fun K hK=>?_) AllReadyH.nil)
  ·have hcr:=HCR.out _ HBD.out
   go_simp
   refine hK.out _ _ hcp (fun hHeld=>?_)
   clear hK K hcr
   try simp only [Act.put,List.setIfInBounds_toArray,List.set_cons_zero,List.set_cons_succ]
   refine wpAnyH_ready (rs:=[3]) (by kernel_rfl) (by simp) ?_
   refine ready_tk (i:=3) rfl (by rfl) (fun K hK=>?_) AllReadyH.nil
   go_simp
   refine (HPK.out _ HBD.out).mono ?_
   rintro e' w6 ⟨zo,zc,rfl,hb6,hm6⟩
   refine hK.out _ _ (HCL.out w6 hb6) (fun hHeld=>?_)
   clear hK K
   try simp only [Act.put,List.setIfInBounds_toArray,List.set_cons_zero,List.set_cons_succ]
   refine wpAnyH_ready (rs:=[5]) (by kernel_rfl) (by simp) ?_
   refine ready_tk (i:=5) rfl (by rfl) (fun K hK=>?_) AllReadyH.nil
   go_simp
   refine (HRT.out _ _ w6 hb6 hm6).mono ?_
   rintro e' w7 ⟨yo',yl,yc',rfl,hq7,hb7⟩
   refine hK.out _ _ (HCL.out w7 hb7) (fun hHeld=>?_)
   clear hK K
   try simp only [Act.put,List.setIfInBounds_toArray,List.set_cons_zero,List.set_cons_succ]
   obtain ⟨hl2,us,hsl,hone,hown7,hsz7,hfin⟩:=HFF.out yo' yl yc' w7 hb7 hq7
   refine wpAnyH_ready (rs:=[6]) (by kernel_rfl) (by simp) ?_
   refine ready_tk (i:=6) rfl (by rfl) (fun K hK=>?_) AllReadyH.nil
   refine op_append_slA _ _ 23 rfl (w.heap.size+6) 22 i0 (.slice none 0 0) 24 Tryz.underlying23 hi0 hz0 hz1 hz2 rfl (.slice ro m.length rc) m.length rvs rfl hown7 yo' yl yc' us rfl hsl hone (by unfold maxLen; omega) (by omega) (by omega) ?_
   intro v' w8 ho hg hat
   obtain ⟨vo8,vc8,hv8⟩:=owns_form ho
   subst hv8
   obtain ⟨k1,k2,k3,k4,k5,k6⟩:=hfin _ w8 ho hg hat
   have HK5:Hid _:=k5
   have HK6:Hid _:=k6
   clear k5 k6 ho hg hat hfin hsl hone hown7 hq7
   refine hK.out _ _ k3 (fun hHeld=>?_)
   clear hK K
   try simp only [Act.put,List.setIfInBounds_toArray,List.set_cons_zero,List.set_cons_succ]
   refine wpAnyH_ready (rs:=[7]) (by kernel_rfl) (by simp) ?_
   refine ready_tk (i:=7) rfl (by rfl) (fun K hK=>?_) AllReadyH.nil
   go_simp
   refine hK.out _ _ k4 (fun hHeld=>?_)
   clear hK K
   refine wpAnyH_done (by kernel_rfl) ?_ _
   dsimp only [Nrm]
   gi_wp2
   exact ⟨HK5.out,HK6.out⟩
  ·go_simp
   refine (HPK.out _ HBD.out).mono ?_
   rintro e' w6 ⟨zo,zc,rfl,hb6,hm6⟩
   refine hK.out _ _ (HCL.out w6 hb6) (fun hHeld=>?_)
   clear hK K
   try simp only [Act.put,List.setIfInBounds_toArray,List.set_cons_zero,List.set_cons_succ]
   refine wpAnyH_ready (rs:=[0,5]) (by kernel_rfl) (by simp) ?_
   refine ready_tk (i:=0) rfl (by rfl) (fun K hK=>?_) (ready_tk (i:=5) rfl (by rfl) (fun K hK=>?_) AllReadyH.nil)
   ·have hcr:=HCR.out w6 hb6
    go_simp
    refine hK.out _ _ (HCL.out w6 hb6) (fun hHeld=>?_)
    clear hK K hcr
    try simp only [Act.put,List.setIfInBounds_toArray,List.set_cons_zero,List.set_cons_succ]
    refine wpAnyH_ready (rs:=[5]) (by kernel_rfl) (by simp) ?_
    refine ready_tk (i:=5) rfl (by rfl) (fun K hK=>?_) AllReadyH.nil
    go_simp
    refine (HRT.out _ _ w6 hb6 hm6).mono ?_
    rintro e' w7 ⟨yo',yl,yc',rfl,hq7,hb7⟩
    refine hK.out _ _ (HCL.out w7 hb7) (fun hHeld=>?_)
    clear hK K
    try simp only [Act.put,List.setIfInBounds_toArray,List.set_cons_zero,List.set_cons_succ]
    obtain ⟨hl2,us,hsl,hone,hown7,hsz7,hfin⟩:=HFF.out yo' yl yc' w7 hb7 hq7
    refine wpAnyH_ready (rs:=[6]) (by kernel_rfl) (by simp) ?_
    refine ready_tk (i:=6) rfl (by rfl) (fun K hK=>?_) AllReadyH.nil
    refine op_append_slA _ _ 23 rfl (w.heap.size+6) 22 i0 (.slice none 0 0) 24 Tryz.underlying23 hi0 hz0 hz1 hz2 rfl (.slice ro m.length rc) m.length rvs rfl hown7 yo' yl yc' us rfl hsl hone (by unfold maxLen; omega) (by omega) (by omega) ?_
    intro v' w8 ho hg hat
    obtain ⟨vo8,vc8,hv8⟩:=owns_form ho
    subst hv8
    obtain ⟨k1,k2,k3,k4,k5,k6⟩:=hfin _ w8 ho hg hat
    have HK5:Hid _:=k5
    have HK6:Hid _:=k6
    clear k5 k6 ho hg hat hfin hsl hone hown7 hq7
    refine hK.out _ _ k3 (fun hHeld=>?_)
    clear hK K
    try simp only [Act.put,List.setIfInBounds_toArray,List.set_cons_zero,List.set_cons_succ]
    refine wpAnyH_ready (rs:=[7]) (by kernel_rfl) (by simp) ?_
    refine ready_tk (i:=7) rfl (by rfl) (fun K hK=>?_) AllReadyH.nil
    go_simp
    refine hK.out _ _ k4 (fun hHeld=>?_)
    clear hK K
    refine wpAnyH_done (by kernel_rfl) ?_ _
    dsimp only [Nrm]
    gi_wp2
    exact ⟨HK5.out,HK6.out⟩
   ·go_simp
    refine (HRT.out _ _ w6 hb6 hm6).mono ?_
    rintro e' w7 ⟨yo',yl,yc',rfl,hq7,hb7⟩
    refine hK.out _ _ (HCL.out w7 hb7) (fun hHeld=>?_)
    clear hK K
    try simp only [Act.put,List.setIfInBounds_toArray,List.set_cons_zero,List.set_cons_succ]
    refine wpAnyH_ready (rs:=[0]) (by kernel_rfl) (by simp) ?_
    refine ready_tk (i:=0) rfl (by rfl) (fun K hK=>?_) AllReadyH.nil
    have hcr:=HCR.out w7 hb7
    go_simp
    refine hK.out _ _ (HCL.out w7 hb7) (fun hHeld=>?_)
    clear hK K hcr
    try simp only [Act.put,List.setIfInBounds_toArray,List.set_cons_zero,List.set_cons_succ]
    obtain ⟨hl2,us,hsl,hone,hown7,hsz7,hfin⟩:=HFF.out yo' yl yc' w7 hb7 hq7
    refine wpAnyH_ready (rs:=[6]) (by kernel_rfl) (by simp) ?_
    refine ready_tk (i:=6) rfl (by rfl) (fun K hK=>?_) AllReadyH.nil
    refine op_append_slA _ _ 23 rfl (w.heap.size+6) 22 i0 (.slice none 0 0) 24 Tryz.underlying23 hi0 hz0 hz1 hz2 rfl (.slice ro m.length rc) m.length rvs rfl hown7 yo' yl yc' us rfl hsl hone (by unfold maxLen; omega) (by omega) (by omega) ?_
    intro v' w8 ho hg hat
    obtain ⟨vo8,vc8,hv8⟩:=owns_form ho
    subst hv8
    obtain ⟨k1,k2,k3,k4,k5,k6⟩:=hfin _ w8 ho hg hat
    have HK5:Hid _:=k5
    have HK6:Hid _:=k6
    clear k5 k6 ho hg hat hfin hsl hone hown7 hq7
    refine hK.out _ _ k3 (fun hHeld=>?_)
    clear hK K
    try simp only [Act.put,List.setIfInBounds_toArray,List.set_cons_zero,List.set_cons_succ]
    refine wpAnyH_ready (rs:=[7]) (by kernel_rfl) (by simp) ?_
    refine ready_tk (i:=7) rfl (by rfl) (fun K hK=>?_) AllReadyH.nil
    go_simp
    refine hK.out _ _ k4 (fun hHeld=>?_)
    clear hK K
    refine wpAnyH_done (by kernel_rfl) ?_ _
    dsimp only [Nrm]
    gi_wp2
    exact ⟨HK5.out,HK6.out⟩
 case done=>
  rintro S W' hi hSD hdf
  have hsz:=HSZ.out
  have hws:=hi.kp.size
  obtain ⟨rv,rvs,m,hrv,hfr,hrq⟩:=hi.rv
  have HLEN:Hid (m.length≤1000000):=by
   have hl:=hrq.len
   have h3:=ext_lenW (e:=e) (Nat.le_trans h24 (by decide)) (by omega)
   show _≤_
   omega
  have HIO:Hid (Calls Tryz.prog 17 #[rv] W' fun e w'=>∃u m',e=.returned u∧Fr (w.heap.size+6) 22 3 w' u m'∧Inor m' m∧Below (w.heap.size+6) W' w'):=inOrder_any (w.heap.size+6) m rv W' hfr.fr (Nat.le_trans HLEN.out (by decide))
  have k0:W'.cell? ⟨w.heap.size+1,0,none⟩=some rv:=cell_of hrv
  have HI:Hid (WaI w WN d P S (ext P.length e 0) W'):=hi
  have HRQ:Hid (RwQ d P (ext P.length e 0) m):=hrq
  have HDF:Hid (W'.heap[WN.heap.size]?=some (.deferred (some []))):=hdf
  obtain ⟨ro,rc,hrf⟩:=owns_form hfr.own
  subst hrf
  clear hi hdf hrv hfr HSQ hsN hsz hws hrq
  gi_wp2_with (refine ⟨trivial,rfl,?_⟩; gi_at_call 17; refine (callsIn_wide.2 HIO.out).mono ?_; rintro e w4 ⟨u,m',rfl,hf4,hin4,hb4⟩; obtain ⟨xo,xc,hxx,_,_⟩:=fr_open hf4; subst hxx)
  have hsz:=HSZ.out
  have hws:=HI.out.kp.size
  have hlow:∀b,b < w.heap.size→W'.heap[b]?=w.heap[b]?:=fun b hb=>(HI.out.kp.block b (by omega) (by omega)).trans (HBN.out.block b hb)
  refine leaves_mks [WN.heap.size] w4 (by simp) (fun r hr=>?_) (fun w' hc=>⟨.slice xo m'.length xc,?_,?_⟩)
  ·simp only [List.mem_singleton] at hr
   subst hr
   exact (hb4.block _ (by omega)).trans HDF.out
  ·simp [results,Tryz.results56,go_sem]
  ·have hb4s:=hb4.size
   refine ⟨_,m',m,rfl,?_,hin4,HRQ.out,hc.os.trans (hb4.os.trans HI.out.os),hc.tape.trans (hb4.tape.trans HI.out.tape),hc.output.trans (hb4.output.trans HI.out.output),by have:=hc.size; omega,fun b hb=>?_⟩
   ·obtain ⟨vs,f1,f2,f3⟩:=hf4
    have hD:w4.heap[WN.heap.size]?=some (.deferred (some [])):=(hb4.block _ (by omega)).trans HDF.out
    refine ⟨vs,f1,⟨f2.1,?_⟩,fun i hi=>(f3 i hi).move fun b hl ht=>⟨hc.block b hl (fun e=>?_),ht⟩⟩
    ·rcases f2.2 with h2 | ⟨g,cap,cur,h5,hbb,hh,r⟩
     ·exact Or.inl h2
     ·refine Or.inr ⟨g,cap,cur,h5,by omega,(hc.block g (lt_of_block hh) (fun e=>?_)).trans hh,r⟩
      simp only [List.mem_singleton] at e
      omega
    ·simp only [List.mem_singleton] at e
     subst e
     rcases ht with ht | ⟨c,ht⟩
     ·omega
     ·rw [hD] at ht; cases ht
   ·exact (hc.block b (by omega) (by simp; omega)).trans ((hb4.block b (by omega)).trans (hlow b hb))
end Go.Proofs.YtdanomklbiidaaaGreatDoor
