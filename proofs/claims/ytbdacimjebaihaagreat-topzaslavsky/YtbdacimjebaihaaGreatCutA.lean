import Derived.Test.YtbdacimjebaihaaGreatRefA
import Derived.Test.YtbdacimjebaihaaGreatWyA
import Derived.Test.YtbdacimjebaihaaGreatOrdB
import Derived.Test.YtbdacimjebaihaaGreatSgE
namespace Go.Proofs.YtbdacimjebaihaaGreat
open Go.RowKit
def SlN (B:Nat) (w:World) (v:Value) (xs:List Value):Prop:=Sl 0 3 w v xs∧∀b o n c,v=.slice (some ⟨b,o,none⟩) n c→B≤b
theorem SlN.below {B N:Nat} {w w':World} {v:Value} {xs:List Value} (h:SlN B w v xs) (hb:Below N w w') (hN:w.heap.size≤N):SlN B w' v xs:=⟨h.1.below hb hN,h.2⟩
theorem SlN.alloc {B:Nat} {w:World} {v:Value} {xs:List Value} (h:SlN B w v xs) (o:Obj):SlN B (w.alloc o) v xs:=⟨h.1.alloc o,h.2⟩
theorem SlN.mono {B B':Nat} {w:World} {v:Value} {xs:List Value} (h:SlN B w v xs) (hB:B'≤B):SlN B' w v xs:=⟨h.1,fun b o n c e=>Nat.le_trans hB (h.2 b o n c e)⟩
theorem SlN.own {B n:Nat} {w:World} {v:Value} {l:List Int} (h:w.ownsRow B 3 1 v n (ints l)):SlN B w v (ints l):=by
 refine ⟨Sl.own h,fun b o k c e=>?_⟩
 subst e
 exact (h.lt b rfl).1
def FrN (B:Nat) (w:World) (v:Value) (m:List (List Int)):Prop:=
 ∃vs,vs.length=m.length∧w.ownsRow B 22 1 v m.length vs∧∀i,i < m.length→SlN B w (vs.getD i (.slice none 0 0)) (ints (m.getD i []))
theorem FrN.fr {B:Nat} {w:World} {v:Value} {m:List (List Int)} (h:FrN B w v m):Fr B 22 3 w v m:=by
 obtain ⟨vs,h1,h2,h3⟩:=h
 exact ⟨vs,h1,h2,fun i hi=>(h3 i hi).1⟩
theorem FrN.nil (B:Nat) (w:World):FrN B w (.slice none 0 0) []:=⟨[],rfl,World.ownsRow_nil _ _ _ _,fun i hi=>absurd hi (by simp)⟩
theorem FrN.below {B N:Nat} {w w':World} {v:Value} {m:List (List Int)} (h:FrN B w v m) (hb:Below N w w') (hN:w.heap.size≤N):FrN B w' v m:=by
 obtain ⟨vs,h1,h2,h3⟩:=h
 exact ⟨vs,h1,owns_below h2 hb hN,fun i hi=>(h3 i hi).below hb hN⟩
theorem FrN.alloc {B:Nat} {w:World} {v:Value} {m:List (List Int)} (h:FrN B w v m) (o:Obj):FrN B (w.alloc o) v m:=by
 obtain ⟨vs,h1,h2,h3⟩:=h
 exact ⟨vs,h1,h2.alloc o,fun i hi=>(h3 i hi).alloc o⟩
theorem FrN.push {B:Nat} {w w':World} {v v' u:Value} {m:List (List Int)} {vs:List Value} {zs:List Int}
  (h1:vs.length=m.length) (h2:w.ownsRow B 22 1 v m.length vs) (h3:∀i,i < m.length→SlN B w (vs.getD i (.slice none 0 0)) (ints (m.getD i []))) (hu:SlN B w u (ints zs))
  (ho:w'.ownsRow B 22 1 v' (m.length+1) (vs ++ [u])) (hg:w.grownBy w' v.ownBlock):FrN B w' v' (m ++ [zs]):=by
 have ht:∀k,v.ownBlock=some k→0≤k∧∀cur,w.heap[k]?≠some (.cells cur 3 (0,0)):=fun k hk=>⟨Nat.zero_le _,(owns_typed h2 (by decide) k hk).2⟩
 refine ⟨vs ++ [u],by simp [h1],by simpa using ho,fun i hi=>?_⟩
 by_cases hlt:i < m.length
 ·have e1':(vs ++ [u]).getD i (.slice none 0 0)=vs.getD i (.slice none 0 0):=by
   simp only [List.getD_eq_getElem?_getD]; rw [List.getElem?_append_left (by omega)]
  have e2':(m ++ [zs]).getD i []=m.getD i []:=by
   simp only [List.getD_eq_getElem?_getD]; rw [List.getElem?_append_left (by omega)]
  rw [e1',e2']
  exact ⟨(h3 i hlt).1.grown hg ht,(h3 i hlt).2⟩
 ·have hi':i=m.length:=by simp at hi; omega
  subst hi'
  have e1':(vs ++ [u]).getD m.length (.slice none 0 0)=u:=by
   rw [←h1]; simp
  have e2':(m ++ [zs]).getD m.length []=zs:=by simp
  rw [e1',e2']
  exact ⟨hu.1.grown hg ht,hu.2⟩
end Go.Proofs.YtbdacimjebaihaaGreat
namespace Go.Proofs.YtbdacimjebaihaaGreat
open Go.RowKit
attribute [local go_sem ↓] Go.wp_at_zero Go.wp_at_succ
set_option maxRecDepth 100000 in
set_option maxHeartbeats 400000 in
theorem raw_big (B:Nat) (l:List Int) (v:Value) (i:Nat) (w:World) (hv:Sl B 3 w v (ints l)) (hr:∀z∈l,In64 z) (hl:l.length≤9223372036854775807) (hi:i≤1000000) :
  Calls Tryz.prog 12 #[v,.int .i64 i] w fun e w'=>∃z,e=.returned (.int .i64 z)∧(0≤z∧z≤4611686018427387904)∧Below w.heap.size w w':=by
 obtain ⟨ao,cap,hvv,hlc,hcm⟩:=sl_open hv
 subst hvv
 by_cases h0:l.length=0
 ·rw [h0]
  clear hv
  go_enter Tryz.func12,Tryz.ntmps12
  go_wp2
  go_ret
  exact ⟨_,rfl,by omega,Below.refl _ _⟩
 ·have hk:i % l.length < l.length:=Nat.mod_lt _ (by omega)
  obtain ⟨b,o,cp,hs,hc,hcc⟩:=sl_cell hv hk
  simp only [Value.slice.injEq] at hs
  obtain ⟨rfl,_,rfl⟩:=hs
  have hmem:l.getD (i % l.length) 0∈l:=by simp [hk]
  have hin:In64 (l.getD (i % l.length) 0):=hr _ hmem
  have HP:Hid (Calls Tryz.prog 4 #[.int .i64 (l.getD (i % l.length) 0),.int .i64 1000003] w.drew fun e w'=>∃z,e=.returned (.int .i64 z)∧(0≤z∧z < 1000003)∧w'=w.drew):=pick_any _ _ _ (by omega) (by omega) hin
  generalize hz:l.getD (i % l.length) 0=z0 at *
  have hd0:i / l.length≤1000000:=Nat.le_trans (Nat.div_le_self _ _) hi
  have hq:(i:Int).tmod (l.length:Int)=((i % l.length:Nat):Int):=by rw [Int.tmod_eq_emod_of_nonneg (by omega)]; rfl
  have hqd:(i:Int).tdiv (l.length:Int)=((i / l.length:Nat):Int):=by rw [Int.tdiv_eq_ediv_of_nonneg (by omega)]; rfl
  clear hv hr hmem hin hz
  generalize i % l.length=k at *
  generalize i / l.length=q at *
  generalize l.length=n at *
  have hn0:¬(n:Int)=0:=by omega
  have hnb:((n:Int) == 0)=false:=by rw [beq_eq_false_iff_ne]; exact hn0
  have hk0:(0:Int)≤(k:Int):=by omega
  have hkn:(k:Int) < (n:Int):=by omega
  go_enter Tryz.func12,Tryz.ntmps12
  go_wp2
  go_region_law (refine step_call2 (o:={ dst:=some 17,op:=_,type:=_,pos:=_,after:=_,guard:=_ }) (by rfl) 4 _ _ 3 3 (by rfl) _ _ (by rfl) (by rfl) ⟨_,Tryz.func4,by rfl,by rfl⟩ ?_; refine (HP.out).mono ?_; rintro e w2 ⟨z,rfl,hz,rfl⟩; refine ⟨_,rfl,?_⟩; have hz1:=hz.1; have hz2:=hz.2; clear hz)
  all_goals
   have e1:IntKind.i64.wrap (z+IntKind.i64.wrap (IntKind.i64.wrap (q:Int)*7919))=z+q*7919:=by
    rw [IntWalk.i64_left,IntWalk.i64_left,IntWalk.i64_left,IntWalk.wrap64_in (q:Int) ⟨by omega,by omega⟩,IntWalk.wrap64_in ((q:Int)*7919) ⟨by omega,by omega⟩,IntWalk.wrap64_in _ ⟨by omega,by omega⟩]
   go_wp2
   go_ret
   exact ⟨_,rfl,by rw [e1]; omega,Below.drew (Below.refl _ _)⟩
set_option maxRecDepth 100000 in
set_option maxHeartbeats 1600000 in
theorem pointsOf_new (B:Nat) (l:List Int) (v:Value) (fr n many wd:Nat) (w:World) (hv:Sl B 3 w v (ints l)) (hr:∀z∈l,In64 z) (hl:l.length≤9223372036854775807) (hfr:fr≤1000) (hn:n≤100) (hmy:many≤100) (hwd:wd≤1000000) :
  Calls Tryz.prog 11 #[v,.int .i64 fr,.int .i64 n,.int .i64 many,.int .i64 wd] w fun e w'=>∃x m,e=.returned x∧m.length=many∧Box n wd m∧FrN w.heap.size w' x m∧Below w.heap.size w w':=by
 obtain ⟨i0,hi,hz0,hz1,hz2⟩:=info_parts Tryz.info22
 obtain ⟨i3,hi3,hz30,hz31,hz32⟩:=info_parts Tryz.info3
 obtain ⟨ao,cap,hvv,hlc,hcm⟩:=sl_open hv
 subst hvv
 have HV:Hid (Sl B 3 w (.slice ao l.length cap) (ints l)):=hv
 have HR:Hid (∀z∈l,In64 z):=hr
 have HLL:Hid (l.length≤9223372036854775807):=hl
 clear hv hr hl
 go_enter Tryz.func11,Tryz.ntmps11
 go_wp2
 go_loopw [11,12] (fun x i wr=>∃(k:Nat) (m:List (List Int)),k≤many∧i=.int .i64 k∧m.length=k∧Box n wd m∧FrN w.heap.size wr x m∧Below w.heap.size w wr) (fun _ i _=>many-(intOf i).toNat)
 case atStart=>exact ⟨0,[],Nat.zero_le _,rfl,rfl,(fun r hr=>absurd hr (by simp)),FrN.nil _ _,Below.refl _ _⟩
 case round=>
  obtain ⟨k,m,hk,rfl,hml,hbx,hrw,hbel⟩:=hrel
  obtain ⟨wa,rfl⟩:∃wa,wa=wr:=⟨wr,rfl⟩
  have HML:Hid (m.length=k):=hml
  have HBX:Hid (Box n wd m):=hbx
  have HRW:Hid (FrN w.heap.size wa u11 m):=hrw
  have HB:Hid (Below w.heap.size w wa):=hbel
  have hsz:w.heap.size≤wa.heap.size:=hbel.size
  clear hrw hbel hml hbx
  by_cases hlt:k < many
  ·have HVa:Hid (Sl B 3 wa (.slice ao l.length cap) (ints l)):=HV.out.below HB.out (Nat.le_refl _)
   have hkn:k*n≤10000:=Nat.le_trans (Nat.mul_le_mul (show k≤100 by omega) hn) (by decide)
   obtain ⟨kn,hkne⟩:∃kn,kn=k*n:=⟨_,rfl⟩
   have hkI:(k:Int)*(n:Int)=(kn:Int):=by rw [hkne]; simp
   rw [←hkne] at hkn
   clear hkne
   obtain ⟨M,hM⟩:∃M,M=wa.heap.size:=⟨_,rfl⟩
   have HM:Hid (M=wa.heap.size):=hM
   have hMs:w.heap.size≤M:=by omega
   clear hM
   go_wp2
   go_loopw [13,14] (fun x i wq=>∃(j:Nat) (r:List Int),j≤n∧i=.int .i64 j∧r.length=j∧(∀z∈r,-(wd:Int)≤z∧z≤wd)∧wq.ownsRow M 3 1 x j (ints r)∧Below M wa wq) (fun _ i _=>n-(intOf i).toNat)
   case atStart=>exact ⟨0,[],Nat.zero_le _,rfl,rfl,(fun r hr=>absurd hr (by simp)),World.ownsRow_nil _ _ _ _,Below.refl _ _⟩
   case round=>
    obtain ⟨j,r,hj,rfl,hrl,hrb,hown,hbel⟩:=hrel
    obtain ⟨wb,rfl⟩:∃wb,wb=wr:=⟨wr,rfl⟩
    have HO:Hid (wb.ownsRow M 3 1 u13 j (ints r)):=hown
    have HBq:Hid (Below M wa wb):=hbel
    have HRL:Hid (r.length=j):=hrl
    have HRB:Hid (∀z∈r,-(wd:Int)≤z∧z≤wd):=hrb
    have hszq:M≤wb.heap.size:=by have:=hbel.size; rw [HM.out]; exact this
    clear hown hbel hrl hrb
    obtain ⟨xo,xc,hxv⟩:=owns_form HO.out
    subst hxv
    by_cases hjl:j < n
    ·have HVb:Hid (Sl B 3 wb (.slice ao l.length cap) (ints l)):=HVa.out.below HBq.out (by rw [HM.out]; exact Nat.le_refl _)
     have HIX:Hid ((fr:Int)+kn+j=((fr+kn+j:Nat):Int)):=by
      show _=_
      omega
     go_wp2_with fail
     rw [HIX.out]
     refine (raw_big B l _ (fr+kn+j) wb HVb.out HR.out HLL.out (by omega)).mono ?_
     rintro e w1 ⟨c,rfl,hc,hb1⟩
     have HC:Hid (In64 c):=⟨by have:=hc.1; omega,by have:=hc.2; omega⟩
     have HB1:Hid (Below wb.heap.size wb w1):=hb1
     clear hc hb1
     go_wp2_with fail
     refine (pick_any c (2*(wd:Int)+1) w1 (by omega) (by omega) HC.out).mono ?_
     rintro e w2 ⟨z,rfl,hz,rfl⟩
     have hz1:=hz.1
     have hz2:=hz.2
     have HZ:Hid (-(wd:Int)≤z-wd∧z-wd≤wd):=⟨by omega,by omega⟩
     have hzI : -1000000≤z-wd:=by omega
     have hzJ:z-wd≤1000000:=by omega
     have HO1:Hid (w2.ownsRow M 3 1 (.slice xo j xc) j (ints r)):=owns_below HO.out HB1.out (Nat.le_refl _)
     have HBq1:Hid (Below M wa w2):=HBq.out.trans (HB1.out.mono hszq)
     have hsz2:M≤w2.heap.size:=Nat.le_trans hszq HB1.out.size
     clear hz HO HBq HB1 HC
     go_wp2_with (first | (at_builtin; refine wpList_append_own _ rfl _ _ 22 rfl M 3 i3 (.int .i64 0) 1 8 Tryz.underlying22 hi3 hz30 hz31 hz32 rfl (by decide) _ _ _ rfl (HO1.out.alloc _) ⟨w2.heap.size,0,none⟩ 1 1 [.int .i64 (z-wd)] rfl rfl (one_new _ _ _) (one_int _) ?c3 ?c4 ?c5 ?_))
     case c3=>unfold maxLen; omega
     case c4=>omega
     case c5=>simp; omega
     intro v' w3 ho hg _
     have R:=owns_push (z:=z-wd) (N:=j+1) hsz2 (l:=r) (by rw [HRL.out]; exact HO1.out) HBq1.out (by rw [HRL.out]; exact ho) hg (by rw [HRL.out])
     have R1:Hid (w3.ownsRow M 3 1 v' (j+1) (ints (r ++ [z-wd]))):=R.1
     have R2:Hid (Below M wa w3):=R.2
     clear R ho hg
     go_wp2
     go_roundw
     case rel=>exact ⟨j+1,r ++ [z-wd],by omega,by go_num,by simp [HRL.out],near_snoc HRB.out HZ.out,R1.out,R2.out⟩
     case measure=>simp [intOf]; omega
    ·have hjn:j=n:=by omega
     subst hjn
     have HX:Hid (SlN w.heap.size wb (.slice xo j xc) (ints r)):=(SlN.own HO.out).mono hMs
     have HRq:Hid (FrN w.heap.size wb u11 m):=HRW.out.below HBq.out (by rw [HM.out]; exact Nat.le_refl _)
     have HBw:Hid (Below w.heap.size w wb):=HB.out.trans (HBq.out.mono hMs)
     obtain ⟨vs,g1,g2,g3⟩:=HRq.out
     have hml:=HML.out
     rw [hml] at g1 g2 g3
     have G1:Hid (vs.length=k):=g1
     have G2:Hid (wb.ownsRow w.heap.size 22 1 u11 k vs):=g2
     have G3:Hid (∀i,i < k→SlN w.heap.size wb (vs.getD i (.slice none 0 0)) (ints (m.getD i []))):=g3
     clear g1 g2 g3 hml HO hjl
     go_wp2_with (first | (at_builtin; refine wpList_append_own _ rfl _ _ 24 rfl w.heap.size 22 i0 (.slice none 0 0) 1 24 Tryz.underlying24 hi hz0 hz1 hz2 rfl (by decide) _ _ _ rfl (G2.out.alloc _) ⟨wb.heap.size,0,none⟩ 1 1 [.slice xo j xc] rfl rfl (one_new _ _ _) (one_slice _ _ _) ?d3 ?d4 ?d5 ?_))
     case d3=>unfold maxLen; omega
     case d4=>omega
     case d5=>simp; omega
     intro v' w3 ho hg _
     have R1:Hid (FrN w.heap.size w3 v' (m ++ [r])):=
      FrN.push (m:=m) (u:=.slice xo j xc) (zs:=r) (by rw [HML.out]; exact G1.out) (by rw [HML.out]; exact G2.out.alloc _)
       (fun i hi=>(G3.out i (by rw [HML.out] at hi; exact hi)).alloc _) (HX.out.alloc _) (by rw [HML.out]; exact ho) hg
     have R2:Hid (Below w.heap.size w w3):=(HBw.out.alloc (by omega) _).grown hg (by simp; omega) (fun x hx=>(G2.out.lt x hx).1)
     clear ho hg
     go_wp2
     go_roundw
     case rel=>exact ⟨k+1,m ++ [r],by omega,by go_num,by simp [HML.out],HBX.out.snoc HRL.out HRB.out,R1.out,R2.out⟩
     case measure=>simp [intOf]; omega
  ·have hkm:k=many:=by omega
   subst hkm
   clear hlt
   go_wp2
   go_ret
   exact ⟨_,m,rfl,HML.out,HBX.out,HRW.out,HB.out⟩
end Go.Proofs.YtbdacimjebaihaaGreat
namespace Go.Proofs.YtbdacimjebaihaaGreat
open Go.RowKit Lin
attribute [local go_sem ↓] Go.wp_at_zero Go.wp_at_succ
theorem pick_ne {d j:Nat} {p:List Int} (hj:j < d) (h:p.getD j 0≠0):(pickL d [p]).length≠0:=by
 intro h0
 have hg:=pick_greedy d [p]
 have hn:pickL d [p]=[]:=List.length_eq_zero_iff.1 h0
 rw [hn] at hg
 obtain ⟨e,l,he,hd⟩:=hg.dep (fun i=>p.getD i 0) (by simp [fm])
 have:=hd j hj
 have hz:comb (fm ([]:List (List Int))).length l (row (fm [])) j=0:=by simp [fm,comb,sumN]
 rw [hz] at this
 rcases Int.mul_eq_zero.1 this with q | q
 ·exact he q
 ·exact h q
theorem SlN.put {B:Nat} {w:World} {b o n c:Nat} {p:List Int} (h:SlN B w (.slice (some ⟨b,o,none⟩) n c) (ints p)) {k:Nat} (hk:k < p.length) (z:Int) :
  (∃q,w.cell? ⟨b,o+k,none⟩=some q)∧w.frozen? ⟨b,o+k,none⟩=false∧B≤b∧SlN B (w.setCell ⟨b,o+k,none⟩ (.int .i64 z)) (.slice (some ⟨b,o,none⟩) n c) (ints (p.set k z)):=by
 obtain ⟨⟨ao,cap,e,h1,h2,h3,h4⟩,h5⟩:=h
 have hB:=h5 b o n c rfl
 simp only [Value.slice.injEq] at e
 obtain ⟨rfl,rfl,rfl⟩:=e
 obtain ⟨b',o',e',hc,ht⟩:=h3 k (by simpa using hk)
 simp only [Option.some.injEq,Addr.mk.injEq] at e'
 obtain ⟨rfl,rfl,_⟩:=e'
 obtain ⟨cur,hcur⟩:∃cur,w.heap[b]?=some (.cells cur 3 (0,0)):=by
  rcases ht with ht | ht
  ·omega
  ·exact ht
 have hcell:∀i,i < p.length→cur[o+i]?=some (.int .i64 (p.getD i 0)):=fun i hi=>by
  obtain ⟨b2,o2,e2,hc2,_⟩:=h3 i (by simpa using hi)
  simp only [Option.some.injEq,Addr.mk.injEq] at e2
  obtain ⟨rfl,rfl,_⟩:=e2
  rw [ints_get _ _ hi] at hc2
  simpa [World.cell?,hcur] using hc2
 have hlt:o+k < cur.size:=(Array.getElem?_eq_some_iff.1 (hcell k hk)).1
 have hset:(w.setCell ⟨b,o+k,none⟩ (.int .i64 z)).heap[b]?=some (.cells (cur.setIfInBounds (o+k) (.int .i64 z)) 3 (0,0)):=by simp [World.setCell,Array.getElem?_modify,hcur]
 refine ⟨⟨_,by simpa [World.cell?,hcur] using hcell k hk⟩,by simp [World.frozen?,hcur],hB,⟨some ⟨b,o,none⟩,c,by simp,by simpa using h1,h2,fun i hi=>⟨b,o,rfl,?_,.inr ⟨_,hset⟩⟩,fun e=>by cases e⟩,h5⟩
 have hi':i < p.length:=by simpa using hi
 rw [ints_get _ _ (by simpa using hi')]
 have:(w.setCell ⟨b,o+k,none⟩ (.int .i64 z)).cell? ⟨b,o+i,none⟩=(cur.setIfInBounds (o+k) (.int .i64 z))[o+i]?:=by simp [World.cell?,hset]
 rw [this]
 by_cases e:i=k
 ·subst e
  simp [hlt,hi']
 ·rw [Array.getElem?_setIfInBounds_ne (by omega),hcell i hi']
  simp [List.getD_eq_getElem?_getD,List.getElem?_set_ne (Ne.symm e)]
def othB (d:Nat) (p:List Int) (P:List (List Int)) (k:Nat):Bool:=(List.range k).all fun i=>(pickL (d+1) [p,P.getD i []]).length == 2
theorem othB_succ (d:Nat) (p:List Int) (P:List (List Int)) (k:Nat):othB d p P (k+1)=(othB d p P k && ((pickL (d+1) [p,P.getD k []]).length == 2)):=by
 simp [othB,List.range_succ]
theorem PlG.nil (d:Nat):PlG d []:=⟨fun p hp=>absurd hp (by simp),fun p hp=>absurd hp (by simp),fun i k _ hk=>absurd hk (by simp)⟩
theorem PlG.push {d:Nat} {P:List (List Int)} {p:List Int} (h:PlG d P) (hp:p.length=d+1∧∀z∈p,z.natAbs≤20) (h1:(pickL d [p]).length≠0) (h2:othB d p P P.length=true):PlG d (P ++ [p]):=by
 refine ⟨fun q hq=>?_,fun q hq=>?_,fun i k hik hk=>?_⟩
 ·rcases List.mem_append.1 hq with hq | hq
  ·exact h.row q hq
  ·simp only [List.mem_singleton] at hq; subst hq; exact hp
 ·rcases List.mem_append.1 hq with hq | hq
  ·exact h.one q hq
  ·simp only [List.mem_singleton] at hq; subst hq; exact h1
 ·simp only [List.length_append,List.length_cons,List.length_nil] at hk
  rw [getD_snoc,getD_snoc,if_pos (by omega:i < P.length)]
  by_cases hkl:k < P.length
  ·rw [if_pos hkl]
   exact h.two i k hik hkl
  ·rw [if_neg hkl,if_pos (by omega)]
   have:=List.all_eq_true.1 h2 i (List.mem_range.2 (by omega))
   have e2:(pickL (d+1) [p,P.getD i []]).length=2:=eq_of_beq this
   rw [e2]; decide
def P3 (P:List (List Int)):Prop:=∀p∈P,∀z∈p,z.natAbs≤3
set_option maxRecDepth 100000 in
set_option maxHeartbeats 3200000 in
theorem planesOf3_any (B:Nat) (l:List Int) (d many:Nat) (v:Value) (w:World) (hv:Sl B 3 w v (ints l)) (hr:∀z∈l,In64 z) (hl:l.length≤1000000) (hd1:1≤d) (hd3:d≤3) (hm:many≤6) :
  Calls Tryz.prog 5 #[v,.int .i64 d,.int .i64 many] w fun e w'=>∃uo uc P,e=.returned (.slice uo P.length uc)∧Mat 0 22 3 w' (.slice uo P.length uc) P∧P.length≤many∧(PlG d P∧P3 P)∧Below w.heap.size w w':=by
 obtain ⟨i0,hi0,hz0,hz1,hz2⟩:=info_parts infoSlC
 obtain ⟨vo,vc,rfl,hvc,hvm⟩:=sl_open hv
 have HP:Hid (∀(k:Nat) (X:World),k≤6→Below w.heap.size w X→Calls Tryz.prog 11 #[.slice vo l.length vc,.int .i64 ((k:Int)*((d:Int)+1)),.int .i64 ((d:Int)+1),.int .i64 1,.int .i64 3] X fun e w'=>∃g gc b o c p,e=.returned (.slice (some ⟨g,0,none⟩) 1 gc)∧w'.cell? ⟨g,0,none⟩=some (.slice (some ⟨b,o,none⟩) (d+1) c)∧SlN X.heap.size w' (.slice (some ⟨b,o,none⟩) (d+1) c) (ints p)∧p.length=d+1∧(∀z∈p,z.natAbs≤3)∧Below X.heap.size X w'):=fun k X hk hX=>by
  have e1:(k:Int)*((d:Int)+1)=((k*(d+1):Nat):Int):=by simp
  have e2:((d:Int)+1)=((d+1:Nat):Int):=by simp
  rw [e1,e2]
  refine (pointsOf_new B l _ (k*(d+1)) (d+1) 1 3 X (hv.below hX (Nat.le_refl _)) hr (by omega) ?_ (by omega) (by decide) (by decide)).mono ?_
  ·have:=Nat.mul_le_mul hk (show d+1≤4 by omega)
   omega
  ·rintro e w' ⟨x,m,rfl,h1,h2,⟨vs,h3,h4,h5⟩,h6⟩
   rw [h1] at h3 h4 h5
   obtain ⟨g,gc,rfl⟩:=own_some h4 (by decide)
   match m,h1 with
   | [p],_=>
    obtain ⟨hpl,hpb⟩:=h2 p (by simp)
    have hs:=h5 0 (by decide)
    match vs,h3 with
    | [u],_=>
     have hs:SlN X.heap.size w' u (ints p):=hs
     obtain ⟨uo,uc,hu,_,_⟩:=sl_open hs.1
     rw [hpl] at hu
     subst hu
     obtain ⟨b,o,rfl⟩:∃b o,uo=some ⟨b,o,none⟩:=by
      obtain ⟨ao,cap,e1,_,_,h3,_⟩:=hs.1
      obtain ⟨b,o,e,_⟩:=h3 0 (by simp; omega)
      simp only [Value.slice.injEq] at e1
      exact ⟨b,o,e1.1.trans e⟩
     refine ⟨g,gc,b,o,uc,p,rfl,?_,hs,hpl,fun z hz=>by have:=hpb z hz; omega,h6⟩
     obtain ⟨ao,cap,e1,_,_,h8,_⟩:=Sl.own (B:=0) h4
     obtain ⟨b2,o2,e2,h9,_⟩:=h8 0 (by simp)
     simp only [Value.slice.injEq] at e1
     have e3:=e1.1.trans e2
     simp only [Option.some.injEq,Addr.mk.injEq] at e3
     obtain ⟨rfl,rfl,_⟩:=e3
     simpa using h9
 have HRW:Hid (∀(k:Nat) X,k≤100→Below w.heap.size w X→Calls Tryz.prog 12 #[.slice vo l.length vc,.int .i64 (k:Int)] X fun e w'=>∃z,e=.returned (.int .i64 z)∧(0≤z∧z≤4611686018427387904)∧Below X.heap.size X w'):=fun k X hk hX=>raw_any B l _ k X (hv.below hX (Nat.le_refl _)) hr hl (by omega)
 have HPK:Hid (∀(c:Int) (n:Nat) X,1≤n→n≤3→0≤c→c≤4611686018427387904→Calls Tryz.prog 4 #[.int .i64 c,.int .i64 (n:Int)] X fun e w'=>∃z:Nat,e=.returned (.int .i64 (z:Int))∧z < n∧w'=X):=fun c n X h1 h2 h3 h4=>by
  refine (pick_any c n X (by omega) (by omega) ⟨by omega,by omega⟩).mono ?_
  rintro e w' ⟨z,rfl,hz,hw⟩
  exact ⟨z.toNat,by rw [show ((z.toNat:Nat):Int)=z by omega],by omega,hw⟩
 clear hv hr
 go_enter Tryz.func5,Tryz.ntmps5
 go_wp2
 go_loopw [7,8] (fun x i wr=>∃(k:Nat) (P:List (List Int)) (xo:Option Addr) (xc:Nat),k≤many∧i=.int .i64 (k:Int)∧P.length≤k∧(PlG d P∧P3 P)∧x=.slice xo P.length xc∧Fr w.heap.size 22 3 wr (.slice xo P.length xc) P∧Below w.heap.size w wr) (fun _ i _=>many-(intOf i).toNat)
 case atStart=>exact ⟨0,[],none,0,Nat.zero_le _,rfl,Nat.le_refl _,⟨PlG.nil d,fun p hp=>absurd hp (by simp)⟩,rfl,Fr.nil _ _ _ _,Below.refl _ _⟩
 case round=>
  obtain ⟨k,P,xo,xc,hk,rfl,hPk,hG,rfl,hfr,hb⟩:=hrel
  have HG:Hid (PlG d P):=hG.1
  have HG3:Hid (P3 P):=hG.2
  have HB:Hid (Below w.heap.size w wr):=hb
  have HF:Hid (Fr w.heap.size 22 3 wr (.slice xo P.length xc) P):=hfr
  clear hG hb hfr
  by_cases hlt:k < many
  ·obtain ⟨w0,rfl⟩:∃w0,w0=wr:=⟨wr,rfl⟩
   have hw1:wrap64 ((k:Int)*((d:Int)+1))=(k:Int)*((d:Int)+1):=by
    have h1:k*(d+1)≤6*4:=Nat.mul_le_mul (by omega) (by omega)
    have h2:((k*(d+1):Nat):Int)=(k:Int)*((d:Int)+1):=by simp
    exact IntWalk.wrap64_in _ ⟨by rw [←h2]; omega,by rw [←h2]; omega⟩
   have HW1:Hid (wrap64 ((k:Int)*((d:Int)+1))=(k:Int)*((d:Int)+1)):=hw1
   have hkI:(k:Int) < (many:Int):=by omega
   have HPY:=HP.out k w0 (by omega) HB.out
   have HPZ:Hid (Calls Tryz.prog 11 #[.slice vo l.length vc,.int .i64 (wrap64 ((k:Int)*((d:Int)+1))),.int .i64 ((d:Int)+1),.int .i64 1,.int .i64 3] w0 fun e w'=>∃g gc b o c p,e=.returned (.slice (some ⟨g,0,none⟩) 1 gc)∧w'.cell? ⟨g,0,none⟩=some (.slice (some ⟨b,o,none⟩) (d+1) c)∧SlN w0.heap.size w' (.slice (some ⟨b,o,none⟩) (d+1) c) (ints p)∧p.length=d+1∧(∀z∈p,z.natAbs≤3)∧Below w0.heap.size w0 w'):=by rw [hw1]; exact HPY
   clear HPY hw1
   go_wp2_with fail
   refine HPZ.out.mono ?_
   rintro e w1 ⟨g,gc,b,o,c,p,rfl,hcg,hsl,hpl,hpb,hb1⟩
   have HSL:Hid (SlN w0.heap.size w1 (.slice (some ⟨b,o,none⟩) (d+1) c) (ints p)):=hsl
   have HPP:Hid (p.length=d+1∧∀z∈p,z.natAbs≤3):=⟨hpl,hpb⟩
   have HB1:Hid (Below w0.heap.size w0 w1):=hb1
   have HBW:Hid (∀X,Below w0.heap.size w0 X→Below w.heap.size w X):=fun X hX=>HB.out.trans (hX.mono HB.out.size)
   have hk100:k≤100:=by omega
   have hk107:k+7≤100:=by omega
   clear hsl hpl hpb hb1 HPZ HP
   go_wp2_with fail
   refine (HRW.out k w1 hk100 (HBW.out _ HB1.out)).mono ?_
   rintro e w2 ⟨z1,rfl,⟨hz1a,hz1b⟩,hb2⟩
   have HB2:Hid (Below w0.heap.size w0 w2):=HB1.out.trans (hb2.mono HB1.out.size)
   have HSL2:Hid (SlN w0.heap.size w2 (.slice (some ⟨b,o,none⟩) (d+1) c) (ints p)):=HSL.out.below hb2 (Nat.le_refl _)
   clear hb2 HSL hcg
   go_wp2_with fail
   refine (HPK.out z1 d w2 hd1 hd3 hz1a hz1b).mono ?_
   rintro e w3 ⟨j,rfl,hj,rfl⟩
   have HRY:=HRW.out (k+7) w3 hk107 (HBW.out _ HB2.out)
   have HRZ:Hid (Calls Tryz.prog 12 #[.slice vo l.length vc,.int .i64 ((k:Int)+7)] w3 fun e w'=>∃z,e=.returned (.int .i64 z)∧(0≤z∧z≤4611686018427387904)∧Below w3.heap.size w3 w'):=HRY
   clear HRY hz1a hz1b
   go_wp2_with fail
   refine HRZ.out.mono ?_
   rintro e w4 ⟨z2,rfl,⟨hz2a,hz2b⟩,hb4⟩
   have HB4:Hid (Below w0.heap.size w0 w4):=HB2.out.trans (hb4.mono HB2.out.size)
   have HSL4:Hid (SlN w0.heap.size w4 (.slice (some ⟨b,o,none⟩) (d+1) c) (ints p)):=HSL2.out.below hb4 (Nat.le_refl _)
   clear hb4 HSL2 HRZ
   go_wp2_with fail
   refine (HPK.out z2 2 w4 (by decide) (by decide) hz2a hz2b).mono ?_
   rintro e w5 ⟨y,rfl,hy,rfl⟩
   have hjl:j < p.length:=by rw [HPP.out.1]; omega
   obtain ⟨⟨qv,hq1⟩,hq2,hq3,hq4⟩:=HSL4.out.put hjl (1+(y:Int))
   obtain ⟨P1,hP1⟩:∃P1,P1=p.set j (1+(y:Int)):=⟨_,rfl⟩
   rw [←hP1] at hq4
   have HPL:Hid (P1.length=d+1∧(∀z∈P1,z.natAbs≤3)∧(pickL d [P1]).length≠0):=by
    refine ⟨by rw [hP1]; simp [HPP.out.1],fun z hz=>?_,pick_ne hj ?_⟩
    ·rw [hP1] at hz
     rcases List.mem_or_eq_of_mem_set hz with h | h
     ·have:=HPP.out.2 z h; omega
     ·omega
    ·rw [hP1]
     simp [hjl]
     omega
   obtain ⟨w6,hw6⟩:∃w6,w6=w5.setCell ⟨b,o+j,none⟩ (.int .i64 (1+(y:Int))):=⟨_,rfl⟩
   rw [←hw6] at hq4
   have HW6:Hid (w6=w5.setCell ⟨b,o+j,none⟩ (.int .i64 (1+(y:Int)))):=hw6
   have HS6:Hid (SlN w0.heap.size w6 (.slice (some ⟨b,o,none⟩) (d+1) c) (ints P1)):=hq4
   have HB6:Hid (Below w0.heap.size w0 w6):=by
    show Below _ _ _
    rw [hw6]; exact HB4.out.setCell hq3 _
   have hyb:(y:Int)≤1:=by omega
   have hjI:(j:Int) < ((d:Int)+1):=by omega
   clear hq3 hq4 hw6 hP1 HSL4 HPP hjl hz2a hz2b
   go_wp2
   rw [←HW6.out]
   clear hq1 hq2
   go_loopw [10,11] (fun x i wq=>∃n:Nat,n≤P.length∧i=.int .i64 (n:Int)∧x=.bool (othB d P1 P n)∧Below w0.heap.size w0 wq∧SlN w0.heap.size wq (.slice (some ⟨b,o,none⟩) (d+1) c) (ints P1)) (fun _ i _=>P.length-(intOf i).toNat)
   case atStart=>exact ⟨0,Nat.zero_le _,rfl,rfl,HB6.out,HS6.out⟩
   case round=>
    obtain ⟨n,hn,rfl,rfl,hbq,hsq⟩:=hrel
    have HBQ:Hid (Below w0.heap.size w0 wr):=hbq
    have HSQ:Hid (SlN w0.heap.size wr (.slice (some ⟨b,o,none⟩) (d+1) c) (ints P1)):=hsq
    clear hbq hsq HB6 HS6 HW6
    by_cases hnl:n < P.length
    ·have HSU:Hid (othB d P1 P (n+1)=(othB d P1 P n && ((pickL (d+1) [P1,P.getD n []]).length == 2))):=othB_succ d P1 P n
     have hnI:(n:Int) < (P.length:Int):=by omega
     have hnI0:(0:Int)≤(n:Int):=by omega
     generalize othB d P1 P n=ob at *
     cases ob with
     | false=>
      have HSV:Hid (othB d P1 P (n+1)=false):=by
       show _=_
       rw [HSU.out]; rfl
      clear HSU
      go_wp2
      go_roundw
      case rel=>exact ⟨n+1,by omega,by go_num,by rw [HSV.out],HBQ.out,HSQ.out⟩
      case measure=>simp [intOf]; omega
     | true=>
      obtain ⟨vs,f1,f2,f3⟩:=HF.out
      have hmat:Mat 0 22 3 w0 (.slice xo P.length xc) P:=⟨vs,f1,Sl.own f2,f3⟩
      obtain ⟨xb,xf,cap,rv,e1,_,hc1,hs1⟩:=mat_cell (hmat.below HBQ.out (Nat.le_refl _)) hnl
      simp only [Value.slice.injEq] at e1
      obtain ⟨rfl,-,-⟩:=e1
      have hrow:=HG.out.row (P.getD n []) (getD_memR hnl)
      obtain ⟨ra,rca,hrv,_,_⟩:=sl_open hs1
      rw [hrow.1] at hrv
      subst hrv
      have HRK:Hid (Calls Tryz.prog 10 #[.slice (some ⟨wr.heap.size,0,none⟩) 2 2] (wr.alloc (.cells #[.slice (some ⟨b,o,none⟩) (d+1) c,.slice ra (d+1) rca] 22)) fun e w'=>e=.returned (.int .i64 ((pickL (d+1) [P1,P.getD n []]).length:Nat))∧Below wr.heap.size wr w'):=by
       refine (rankR_any (d+1) 60 0 [P1,P.getD n []] _ _ (mx_few hd1 hd3 (fun r hr=>?_)) (mat_two HSQ.out.1 hs1) (by simp)).mono ?_
       ·simp only [List.mem_cons,List.not_mem_nil,or_false] at hr
        rcases hr with rfl | rfl
        ·exact ⟨HPL.out.1,fun z hz=>Nat.le_trans (HPL.out.2.1 z hz) (by decide)⟩
        ·exact hrow
       ·rintro e w' ⟨rfl,hb⟩
        exact ⟨rfl,((Below.refl _ _).alloc (Nat.le_refl _) _).trans (hb.mono (by simp))⟩
      generalize hrk:(pickL (d+1) [P1,P.getD n []]).length=rk at *
      have HSV:Hid (othB d P1 P (n+1)=(rk == 2)):=by
       show _=_
       rw [HSU.out]; rfl
      clear hrk HSU hs1 hrow f1 f2 f3 hmat
      go_wp2_with fail
      refine HRK.out.mono ?_
      rintro e w8 ⟨rfl,hb8⟩
      have HB8:Hid (Below w0.heap.size w0 w8):=HBQ.out.trans (hb8.mono HBQ.out.size)
      have HS8:Hid (SlN w0.heap.size w8 (.slice (some ⟨b,o,none⟩) (d+1) c) (ints P1)):=HSQ.out.below hb8 (Nat.le_refl _)
      have HRB:Hid (((rk:Int) == 2)=(rk == 2)):=by
       show _=_
       rw [Bool.eq_iff_iff]; simp; omega
      clear hb8 HRK hc1
      cases h2:((rk:Int) == 2) with
      | true=>
       have HSW:Hid (othB d P1 P (n+1)=true):=by
        show _=_
        rw [HSV.out,←HRB.out,h2]
       clear HSV HRB
       go_wp2
       go_roundw
       case rel=>exact ⟨n+1,by omega,by go_num,by rw [HSW.out],HB8.out,HS8.out⟩
       case measure=>simp [intOf]; omega
      | false=>
       have HSW:Hid (othB d P1 P (n+1)=false):=by
        show _=_
        rw [HSV.out,←HRB.out,h2]
       clear HSV HRB
       go_wp2
       go_roundw
       case rel=>exact ⟨n+1,by omega,by go_num,by rw [HSW.out],HB8.out,HS8.out⟩
       case measure=>simp [intOf]; omega
    ·have hne:n=P.length:=by omega
     subst hne
     obtain ⟨vs,f1,f2,f3⟩:=HF.out
     have F1:Hid (vs.length=P.length):=f1
     have F2:Hid (wr.ownsRow w.heap.size 22 1 (.slice xo P.length xc) P.length vs):=owns_below f2 HBQ.out (Nat.le_refl _)
     have F3:Hid (∀i,i < P.length→Sl 0 3 wr (vs.getD i (.slice none 0 0)) (ints (P.getD i []))):=fun i hi=>(f3 i hi).below HBQ.out (Nat.le_refl _)
     have HBZ:Hid (Below w.heap.size w wr):=HBW.out _ HBQ.out
     have hszr:w.heap.size≤wr.heap.size:=HBZ.out.size
     clear f1 f2 f3
     cases hob:othB d P1 P P.length with
     | false=>
      have HFZ:Hid (Fr w.heap.size 22 3 wr (.slice xo P.length xc) P):=⟨vs,F1.out,F2.out,F3.out⟩
      clear hob
      go_wp2
      go_roundw
      case rel=>exact ⟨k+1,P,xo,xc,by omega,by go_num,by omega,⟨HG.out,HG3.out⟩,rfl,HFZ.out,HBZ.out⟩
      case measure=>simp [intOf]; omega
     | true=>
      have HGN:Hid (PlG d (P ++ [P1])):=HG.out.push ⟨HPL.out.1,fun z hz=>Nat.le_trans (HPL.out.2.1 z hz) (by decide)⟩ HPL.out.2.2 hob
      have HG4:Hid (P3 (P ++ [P1])):=fun p hp=>by
       rcases List.mem_append.1 hp with hp | hp
       ·exact HG3.out p hp
       ·rw [List.mem_singleton.1 hp]; exact HPL.out.2.1
      have hpl6:P.length≤6:=by omega
      clear hob
      go_wp2_with (first | (at_builtin; refine wpList_append_own _ rfl _ _ 24 rfl w.heap.size 22 i0 (.slice none 0 0) 1 24 Tryz.underlying24 hi0 hz0 hz1 hz2 rfl (by decide) _ _ _ rfl (F2.out.alloc _) ⟨wr.heap.size,0,none⟩ 1 1 [.slice (some ⟨b,o,none⟩) (d+1) c] rfl rfl (one_new _ _ _) (one_slice _ _ _) ?d3 ?d4 ?d5 ?_))
      case d3=>unfold maxLen; omega
      case d4=>omega
      case d5=>first | exact hszr | omega | (simp; omega)
      intro v' w9 ho hg _
      have R1:Hid (Fr w.heap.size 22 3 w9 v' (P ++ [P1])):=Fr.push (e2:=22) (e1:=3) (by decide) F1.out (F2.out.alloc _) (fun i hi=>(F3.out i hi).alloc _) (HSQ.out.1.alloc _) ho hg
      have R2:Hid (Below w.heap.size w w9):=(HBZ.out.alloc hszr _).grown hg (by simp; omega) (fun x hx=>(F2.out.lt x hx).1)
      obtain ⟨yo,yc,hyv⟩:=owns_form ho
      subst hyv
      have hln:(P ++ [P1]).length=P.length+1:=by simp
      have HLN:Hid ((P ++ [P1]).length=P.length+1):=hln
      clear ho hg hln
      go_wp2
      go_roundw
      case rel=>exact ⟨k+1,P ++ [P1],yo,yc,by omega,by go_num,by rw [HLN.out]; omega,⟨HGN.out,HG4.out⟩,by rw [HLN.out],by rw [HLN.out]; exact R1.out,R2.out⟩
      case measure=>simp [intOf]; omega
  ·obtain ⟨vs,f1,f2,f3⟩:=HF.out
   have HM:Hid (Mat 0 22 3 wr (.slice xo P.length xc) P):=⟨vs,f1,Sl.own f2,f3⟩
   clear f1 f2 f3
   go_wp2
   go_ret
   exact ⟨xo,xc,P,rfl,HM.out,by omega,⟨HG.out,HG3.out⟩,HB.out⟩
theorem planesOf_any (B:Nat) (l:List Int) (d many:Nat) (v:Value) (w:World) (hv:Sl B 3 w v (ints l)) (hr:∀z∈l,In64 z) (hl:l.length≤1000000) (hd1:1≤d) (hd3:d≤3) (hm:many≤6) :
  Calls Tryz.prog 5 #[v,.int .i64 d,.int .i64 many] w fun e w'=>∃uo uc P,e=.returned (.slice uo P.length uc)∧Mat 0 22 3 w' (.slice uo P.length uc) P∧P.length≤many∧PlG d P∧Below w.heap.size w w':=
 (planesOf3_any B l d many v w hv hr hl hd1 hd3 hm).mono fun _ _ ⟨uo,uc,P,h1,h2,h3,h4,h5⟩=>⟨uo,uc,P,h1,h2,h3,h4.1,h5⟩
end Go.Proofs.YtbdacimjebaihaaGreat
