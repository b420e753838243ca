import Derived.Test.YtkfdpcgmpbopnaaGreatDoorRefA
import Derived.Test.YtkfdpcgmpbopnaaGreatDoorStepsAll
namespace Go.Proofs.YtkfdpcgmpbopnaaGreatDoor
open Go.RowKit
attribute [local go_sem ↓] Go.wp_at_zero Go.wp_at_succ
def In64 (z:Int):Prop:=-9223372036854775808≤z∧z≤9223372036854775807
set_option maxRecDepth 100000 in
set_option maxHeartbeats 400000 in
theorem pick_any (c n:Int) (w:World) (h1:1≤n) (h2:n≤4611686018427387904) (hc:In64 c) :
  Calls Tryz.prog 4 #[.int .i64 c,.int .i64 n] w fun e w'=>∃z,e=.returned (.int .i64 z)∧(0≤z∧z < n)∧w'=w:=by
 have c0 : -9223372036854775808≤c:=hc.1
 have c1:c≤9223372036854775807:=hc.2
 clear hc
 have hn0:¬n=0:=by omega
 by_cases hcn:c < 0
 ·have e0:(-(c+1)).tmod n=(-(c+1)) % n:=Int.tmod_eq_emod_of_nonneg (by omega)
  have e1:=Int.emod_nonneg (-(c+1)) hn0
  have e2:=Int.emod_lt_of_pos (-(c+1)) (show 0 < n by omega)
  go_enter Tryz.func4,Tryz.ntmps4
  go_wp2
  go_ret
  exact ⟨_,rfl,⟨e1,e2⟩,rfl⟩
 ·have e0:c.tmod n=c % n:=Int.tmod_eq_emod_of_nonneg (by omega)
  have e1:=Int.emod_nonneg c hn0
  have e2:=Int.emod_lt_of_pos c (show 0 < n by omega)
  go_enter Tryz.func4,Tryz.ntmps4
  go_wp2
  go_ret
  exact ⟨_,rfl,⟨e1,e2⟩,rfl⟩
theorem step_call2 {P:Program} {ops:Array Oper} {o:Oper} {a:Act} {w:World} {K:Act→World→Prop} {Q:Exit→Act→World→Prop} {E:Prop}
  (hg : o.guard = none) (f : FuncId) (x y : Operand) (t s : TypeId) (hop : o.op = Op.call { callee := Callee.value (Operand.func f), args := #[x, y], argTypes := #[t, s] }) (v u : Value) (hv : a.eval x = v) (hu : a.eval y = u) (hf : ∃ fn, P.funcs[f]? = some fn ∧ (fn.name == "runtime.NumGoroutine") = false ∧ fn.body.isNone = false)
  (hc:Calls P f #[v,u] w fun e w'=>∃u,e=.returned u∧K (a.put o.dst u) w') :
  if Region.wanted o (yielded ops a.tmps)=true then Oper.wp P o a w K Q else E:=by
 have hw:Region.wanted o (yielded ops a.tmps)=true:=by simp [Region.wanted,hg]
 rw [if_pos hw]
 unfold Oper.wp
 obtain ⟨fn,f1,f2,f3⟩:=hf
 have e:(execOp a.eval o).run P w=.ok (.enter f #[v,u]) w:=by
  have hfn:a.eval (Operand.func f)=Value.func (Fn.func f) #[] #[]:=rfl
  have hcf:(callFunc f #[v,u]).run P w=.ok (.enter f #[v,u]) w:=by
   unfold callFunc
   have g2 : ¬ fn.name = "runtime.NumGoroutine" := by simpa using f2
   have g3:¬fn.body=none:=by intro e; rw [e] at f3; simp at f3
   simp [f1,g2,g3]
  unfold execOp
  rw [hop]
  simp [resolve,invoke,hv,hu,hfn,Deferred.ofValue,hcf]
 rw [e,Oper.upon_enter]
 refine hc.mono ?_
 rintro e w' ⟨u,rfl,h⟩
 exact h
set_option maxRecDepth 100000 in
set_option maxHeartbeats 400000 in
theorem raw_any (B:Nat) (l:List Int) (v:Value) (i:Nat) (w:World) (hv:Sl B 3 w v (ints l)) (hr:∀z∈l,In64 z) (hl:l.length≤1000000) (hi:i≤1000000) :
  Calls Tryz.prog 40 #[v,.int .i64 i] w fun e w'=>∃z,e=.returned (.int .i64 z)∧(0≤z∧z≤4611686018427387904)∧Below w.heap.size w w':=by
 obtain ⟨ao,cap,hvv,hlc,hcm⟩:=sl_open hv
 subst hvv
 by_cases h0:l.length=0
 ·rw [h0]
  clear hv
  go_enter Tryz.func40,Tryz.ntmps40
  go_wp2
  go_ret
  exact ⟨_,rfl,by omega,Below.refl _ _⟩
 ·have hk:i % l.length < l.length:=Nat.mod_lt _ (by omega)
  obtain ⟨b,o,cp,hs,hc,hcc⟩:=sl_cell hv hk
  simp only [Value.slice.injEq] at hs
  obtain ⟨rfl,_,rfl⟩:=hs
  have hmem:l.getD (i % l.length) 0∈l:=by simp [hk]
  have hin:In64 (l.getD (i % l.length) 0):=hr _ hmem
  have HP:Hid (Calls Tryz.prog 4 #[.int .i64 (l.getD (i % l.length) 0),.int .i64 1000003] w.drew fun e w'=>∃z,e=.returned (.int .i64 z)∧(0≤z∧z < 1000003)∧w'=w.drew):=pick_any _ _ _ (by omega) (by omega) hin
  generalize hz:l.getD (i % l.length) 0=z0 at *
  have hd0:i / l.length≤1000000:=Nat.le_trans (Nat.div_le_self _ _) hi
  have hq:(i:Int).tmod (l.length:Int)=((i % l.length:Nat):Int):=by rw [Int.tmod_eq_emod_of_nonneg (by omega)]; rfl
  have hqd:(i:Int).tdiv (l.length:Int)=((i / l.length:Nat):Int):=by rw [Int.tdiv_eq_ediv_of_nonneg (by omega)]; rfl
  clear hv hr hmem hin hz
  generalize i % l.length=k at *
  generalize i / l.length=q at *
  generalize l.length=n at *
  have hn0:¬(n:Int)=0:=by omega
  have hnb:((n:Int) == 0)=false:=by rw [beq_eq_false_iff_ne]; exact hn0
  have hk0:(0:Int)≤(k:Int):=by omega
  have hkn:(k:Int) < (n:Int):=by omega
  go_enter Tryz.func40,Tryz.ntmps40
  go_wp2
  go_region_law (refine step_call2 (o:={ dst:=some 17,op:=_,type:=_,pos:=_,after:=_,guard:=_ }) (by rfl) 4 _ _ 3 3 (by rfl) _ _ (by rfl) (by rfl) ⟨_,Tryz.func4,by rfl,by rfl⟩ ?_; refine (HP.out).mono ?_; rintro e w2 ⟨z,rfl,hz,rfl⟩; refine ⟨_,rfl,?_⟩; have hz1:=hz.1; have hz2:=hz.2; clear hz)
  all_goals
   have e1:IntKind.i64.wrap (z+IntKind.i64.wrap (IntKind.i64.wrap (q:Int)*7919))=z+q*7919:=by
    rw [IntWalk.i64_left,IntWalk.i64_left,IntWalk.i64_left,IntWalk.wrap64_in (q:Int) ⟨by omega,by omega⟩,IntWalk.wrap64_in ((q:Int)*7919) ⟨by omega,by omega⟩,IntWalk.wrap64_in _ ⟨by omega,by omega⟩]
   go_wp2
   go_ret
   exact ⟨_,rfl,by rw [e1]; omega,Below.drew (Below.refl _ _)⟩
def Box (n wd:Nat) (m:List (List Int)):Prop:=∀r∈m,r.length=n∧∀z∈r,-(wd:Int)≤z∧z≤wd
theorem Box.snoc {n wd:Nat} {m:List (List Int)} {r:List Int} (h:Box n wd m) (h1:r.length=n) (h2:∀z∈r,-(wd:Int)≤z∧z≤wd):Box n wd (m ++ [r]):=by
 intro x hx
 simp only [List.mem_append,List.mem_singleton] at hx
 rcases hx with hx | rfl
 ·exact h x hx
 ·exact ⟨h1,h2⟩
theorem near_snoc {wd:Nat} {r:List Int} {z:Int} (h:∀z∈r,-(wd:Int)≤z∧z≤wd) (h0 : -(wd:Int)≤z∧z≤wd):∀x∈r ++ [z],-(wd:Int)≤x∧x≤wd:=by
 intro x hx
 simp only [List.mem_append,List.mem_singleton] at hx
 rcases hx with hx | rfl
 ·exact h x hx
 ·exact h0
set_option maxRecDepth 100000 in
set_option maxHeartbeats 1600000 in
theorem pointsOf_any (B:Nat) (l:List Int) (v:Value) (fr n many wd:Nat) (w:World) (hv:Sl B 3 w v (ints l)) (hr:∀z∈l,In64 z) (hl:l.length≤1000000) (hfr:fr≤1000) (hn:n≤100) (hmy:many≤100) (hwd:wd≤1000000) :
  Calls Tryz.prog 21 #[v,.int .i64 fr,.int .i64 n,.int .i64 many,.int .i64 wd] w fun e w'=>∃x m,e=.returned x∧m.length=many∧Box n wd m∧Fr w.heap.size 22 3 w' x m∧Below w.heap.size w w':=by
 obtain ⟨i0,hi,hz0,hz1,hz2⟩:=info_parts Tryz.info22
 obtain ⟨i3,hi3,hz30,hz31,hz32⟩:=info_parts Tryz.info3
 obtain ⟨ao,cap,hvv,hlc,hcm⟩:=sl_open hv
 subst hvv
 have HV:Hid (Sl B 3 w (.slice ao l.length cap) (ints l)):=hv
 have HR:Hid (∀z∈l,In64 z):=hr
 have HLL:Hid (l.length≤1000000):=hl
 clear hv hr hl
 go_enter Tryz.func21,Tryz.ntmps21
 go_wp2
 go_loopw [11,12] (fun x i wr=>∃(k:Nat) (m:List (List Int)),k≤many∧i=.int .i64 k∧m.length=k∧Box n wd m∧Fr w.heap.size 22 3 wr x m∧Below w.heap.size w wr) (fun _ i _=>many-(intOf i).toNat)
 case atStart=>exact ⟨0,[],Nat.zero_le _,rfl,rfl,(fun r hr=>absurd hr (by simp)),Fr.nil _ _ _ _,Below.refl _ _⟩
 case round=>
  obtain ⟨k,m,hk,rfl,hml,hbx,hrw,hbel⟩:=hrel
  obtain ⟨wa,rfl⟩:∃wa,wa=wr:=⟨wr,rfl⟩
  have HML:Hid (m.length=k):=hml
  have HBX:Hid (Box n wd m):=hbx
  have HRW:Hid (Fr w.heap.size 22 3 wa u11 m):=hrw
  have HB:Hid (Below w.heap.size w wa):=hbel
  have hsz:w.heap.size≤wa.heap.size:=hbel.size
  clear hrw hbel hml hbx
  by_cases hlt:k < many
  ·have HVa:Hid (Sl B 3 wa (.slice ao l.length cap) (ints l)):=HV.out.below HB.out (Nat.le_refl _)
   have hkn:k*n≤10000:=Nat.le_trans (Nat.mul_le_mul (show k≤100 by omega) hn) (by decide)
   obtain ⟨kn,hkne⟩:∃kn,kn=k*n:=⟨_,rfl⟩
   have hkI:(k:Int)*(n:Int)=(kn:Int):=by rw [hkne]; simp
   rw [←hkne] at hkn
   clear hkne
   obtain ⟨M,hM⟩:∃M,M=wa.heap.size:=⟨_,rfl⟩
   have HM:Hid (M=wa.heap.size):=hM
   have hMs:w.heap.size≤M:=by omega
   clear hM
   go_wp2
   go_loopw [13,14] (fun x i wq=>∃(j:Nat) (r:List Int),j≤n∧i=.int .i64 j∧r.length=j∧(∀z∈r,-(wd:Int)≤z∧z≤wd)∧wq.ownsRow M 3 1 x j (ints r)∧Below M wa wq) (fun _ i _=>n-(intOf i).toNat)
   case atStart=>exact ⟨0,[],Nat.zero_le _,rfl,rfl,(fun r hr=>absurd hr (by simp)),World.ownsRow_nil _ _ _ _,Below.refl _ _⟩
   case round=>
    obtain ⟨j,r,hj,rfl,hrl,hrb,hown,hbel⟩:=hrel
    obtain ⟨wb,rfl⟩:∃wb,wb=wr:=⟨wr,rfl⟩
    have HO:Hid (wb.ownsRow M 3 1 u13 j (ints r)):=hown
    have HBq:Hid (Below M wa wb):=hbel
    have HRL:Hid (r.length=j):=hrl
    have HRB:Hid (∀z∈r,-(wd:Int)≤z∧z≤wd):=hrb
    have hszq:M≤wb.heap.size:=by have:=hbel.size; rw [HM.out]; exact this
    clear hown hbel hrl hrb
    obtain ⟨xo,xc,hxv⟩:=owns_form HO.out
    subst hxv
    by_cases hjl:j < n
    ·have HVb:Hid (Sl B 3 wb (.slice ao l.length cap) (ints l)):=HVa.out.below HBq.out (by rw [HM.out]; exact Nat.le_refl _)
     have HIX:Hid ((fr:Int)+kn+j=((fr+kn+j:Nat):Int)):=by
      show _=_
      omega
     go_wp2_with fail
     rw [HIX.out]
     refine (raw_any B l _ (fr+kn+j) wb HVb.out HR.out HLL.out (by omega)).mono ?_
     rintro e w1 ⟨c,rfl,hc,hb1⟩
     have HC:Hid (In64 c):=⟨by have:=hc.1; omega,by have:=hc.2; omega⟩
     have HB1:Hid (Below wb.heap.size wb w1):=hb1
     clear hc hb1
     go_wp2_with fail
     refine (pick_any c (2*(wd:Int)+1) w1 (by omega) (by omega) HC.out).mono ?_
     rintro e w2 ⟨z,rfl,hz,rfl⟩
     have hz1:=hz.1
     have hz2:=hz.2
     have HZ:Hid (-(wd:Int)≤z-wd∧z-wd≤wd):=⟨by omega,by omega⟩
     have hzI : -1000000≤z-wd:=by omega
     have hzJ:z-wd≤1000000:=by omega
     have HO1:Hid (w2.ownsRow M 3 1 (.slice xo j xc) j (ints r)):=owns_below HO.out HB1.out (Nat.le_refl _)
     have HBq1:Hid (Below M wa w2):=HBq.out.trans (HB1.out.mono hszq)
     have hsz2:M≤w2.heap.size:=Nat.le_trans hszq HB1.out.size
     clear hz HO HBq HB1 HC
     go_wp2_with (first | (at_builtin; refine wpList_append_own _ rfl _ _ 22 rfl M 3 i3 (.int .i64 0) 1 8 Tryz.underlying22 hi3 hz30 hz31 hz32 rfl (by decide) _ _ _ rfl (HO1.out.alloc _) ⟨w2.heap.size,0,none⟩ 1 1 [.int .i64 (z-wd)] rfl rfl (one_new _ _ _) (one_int _) ?c3 ?c4 ?c5 ?_))
     case c3=>unfold maxLen; omega
     case c4=>omega
     case c5=>simp; omega
     intro v' w3 ho hg _
     have R:=owns_push (z:=z-wd) (N:=j+1) hsz2 (l:=r) (by rw [HRL.out]; exact HO1.out) HBq1.out (by rw [HRL.out]; exact ho) hg (by rw [HRL.out])
     have R1:Hid (w3.ownsRow M 3 1 v' (j+1) (ints (r ++ [z-wd]))):=R.1
     have R2:Hid (Below M wa w3):=R.2
     clear R ho hg
     go_wp2
     go_roundw
     case rel=>exact ⟨j+1,r ++ [z-wd],by omega,by go_num,by simp [HRL.out],near_snoc HRB.out HZ.out,R1.out,R2.out⟩
     case measure=>simp [intOf]; omega
    ·have hjn:j=n:=by omega
     subst hjn
     have HX:Hid (Sl 0 3 wb (.slice xo j xc) (ints r)):=Sl.own HO.out
     have HRq:Hid (Fr w.heap.size 22 3 wb u11 m):=HRW.out.below HBq.out (by rw [HM.out]; exact Nat.le_refl _)
     have HBw:Hid (Below w.heap.size w wb):=HB.out.trans (HBq.out.mono hMs)
     obtain ⟨vs,g1,g2,g3⟩:=HRq.out
     have hml:=HML.out
     rw [hml] at g1 g2 g3
     have G1:Hid (vs.length=k):=g1
     have G2:Hid (wb.ownsRow w.heap.size 22 1 u11 k vs):=g2
     have G3:Hid (∀i,i < k→Sl 0 3 wb (vs.getD i (.slice none 0 0)) (ints (m.getD i []))):=g3
     clear g1 g2 g3 hml HO hjl
     go_wp2_with (first | (at_builtin; refine wpList_append_own _ rfl _ _ 25 rfl w.heap.size 22 i0 (.slice none 0 0) 1 24 Tryz.underlying25 hi hz0 hz1 hz2 rfl (by decide) _ _ _ rfl (G2.out.alloc _) ⟨wb.heap.size,0,none⟩ 1 1 [.slice xo j xc] rfl rfl (one_new _ _ _) (one_slice _ _ _) ?d3 ?d4 ?d5 ?_))
     case d3=>unfold maxLen; omega
     case d4=>omega
     case d5=>simp; omega
     intro v' w3 ho hg _
     have R1:Hid (Fr w.heap.size 22 3 w3 v' (m ++ [r])):=
      Fr.push (e2:=22) (e1:=3) (m:=m) (u:=.slice xo j xc) (zs:=r) (by decide) (by rw [HML.out]; exact G1.out) (by rw [HML.out]; exact G2.out.alloc _)
       (fun i hi=>(G3.out i (by rw [HML.out] at hi; exact hi)).alloc _) (HX.out.alloc _) (by rw [HML.out]; exact ho) hg
     have R2:Hid (Below w.heap.size w w3):=(HBw.out.alloc (by omega) _).grown hg (by simp; omega) (fun x hx=>(G2.out.lt x hx).1)
     clear ho hg
     go_wp2
     go_roundw
     case rel=>exact ⟨k+1,m ++ [r],by omega,by go_num,by simp [HML.out],HBX.out.snoc HRL.out HRB.out,R1.out,R2.out⟩
     case measure=>simp [intOf]; omega
  ·have hkm:k=many:=by omega
   subst hkm
   clear hlt
   go_wp2
   go_ret
   exact ⟨_,m,rfl,HML.out,HBX.out,HRW.out,HB.out⟩
end Go.Proofs.YtkfdpcgmpbopnaaGreatDoor
