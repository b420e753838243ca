import Derived.Test.YtdanomklbiidaaaGreatDoorMgBC
import Derived.Test.YtdanomklbiidaaaGreatDoorMgBB
import Derived.Test.YtdanomklbiidaaaGreatDoorMgAQ
import Derived.Test.YtdanomklbiidaaaGreatDoorMgAE
import Derived.Test.YtdanomklbiidaaaGreatDoorMgAI
import Derived.Test.YtdanomklbiidaaaGreatDoorMgAR
namespace Go.Proofs.YtdanomklbiidaaaGreatDoor
open Go.RowKit Lin
attribute [local go_sem ↓] Go.wp_at_zero Go.wp_at_succ
theorem out_one {x s:Nat} : (outN (2 ^ x) s == 0)=s.testBit x:=by
 rw [Bool.eq_iff_iff,beq_iff_eq]
 constructor
 ·intro h
  have:=outN_bit (2 ^ x) s x
  rw [h,Nat.testBit_two_pow_self] at this
  simpa using this
 ·intro h
  apply Nat.eq_of_testBit_eq
  intro i
  rw [outN_bit]
  by_cases e:i=x
  ·subst e; simp [h]
  ·rw [Nat.testBit_two_pow_of_ne (fun q=>e q.symm)]; simp
theorem out_sub {a b:Nat} : (outN a b == 0)=decide (a &&& b=a):=by
 rw [Bool.eq_iff_iff,beq_iff_eq,decide_eq_true_iff]
 constructor
 ·intro h
  apply Nat.eq_of_testBit_eq
  intro i
  have:=outN_bit a b i
  rw [h] at this
  rw [Nat.testBit_and]
  cases h1:a.testBit i <;> cases h2:b.testBit i <;> simp_all
 ·intro h
  apply Nat.eq_of_testBit_eq
  intro i
  rw [outN_bit]
  have:=congrArg (fun z=>z.testBit i) h
  simp only [Nat.testBit_and] at this
  cases h1:a.testBit i <;> cases h2:b.testBit i <;> simp_all
set_option maxRecDepth 100000 in
set_option maxHeartbeats 800000 in
theorem firstOf1_any (x s g:Nat) (w:World) (hx:x≤63) (hs:s < 18446744073709551616) (hc:w.cell? ⟨g,0,none⟩=some (.int .u64 (s:Int))) :
  Calls Tryz.prog 94 #[.int .i64 (x:Int),.pointer (some ⟨g,0,none⟩)] w fun e w'=>e=.returned (.bool (s.testBit x))∧Below w.heap.size w w':=by
 have hpx:2 ^ x < 18446744073709551616:=Nat.lt_of_le_of_lt (Nat.pow_le_pow_right (by decide) hx) (by decide)
 have H1:Hid (∀n,Calls Tryz.prog 60 #[.int .i64 (x:Int)] (w.drewN n) fun e w'=>e=.returned (.int .u64 ((2 ^ x:Nat):Int))∧w'=w.drewN n):=fun n=>by
  have h:=one_any (x:Int) (w.drewN n) (by omega) (by omega)
  rw [Int.toNat_natCast] at h
  exact h
 have H2:Hid (∀n,Calls Tryz.prog 61 #[.int .u64 ((2 ^ x:Nat):Int),.int .u64 (s:Int)] (w.drewN n) fun e w'=>e=.returned (.bool (s.testBit x))∧w'=w.drewN n):=fun n=>by
  have h:=in_any (2 ^ x) s (w.drewN n) hpx hs
  rw [out_one] at h
  exact h
 generalize s.testBit x=tb at *
 generalize 2 ^ x=px at *
 go_enter Tryz.func94,Tryz.ntmps94
 go_wp2
 go_quiet (first | (go_at_call 60; exact Calls.quiet_of_same (w:=w) (H1.out _)) | (go_at_call 61; exact Calls.quiet_of_same (w:=w) (H2.out _)))
 go_wp2
 go_ret
 exact ⟨rfl,below_drewN (Below.refl _ _) _⟩
set_option maxRecDepth 100000 in
set_option maxHeartbeats 400000 in
theorem idxFo_any (B:Nat) (p:Int→Bool) (zs:List Int) (v:Value) (p1:Addr) (w:World) (hv:Sl B 3 w v (ints zs))
  (hc:∀x∈zs,∀W',Below w.heap.size w W'→Calls Tryz.prog 94 #[.int .i64 x,.pointer (some p1)] W' fun e w'=>e=.returned (.bool (p x))∧Below W'.heap.size W' w') :
  Calls Tryz.prog 48 #[v,.func (.func 94) #[] #[.pointer (some p1)]] w fun e w'=>e=.returned (.int .i64 (findI p zs))∧Below w.heap.size w w':=by
 obtain ⟨ao,cap,hvv,hlc,hcm⟩:=sl_open hv
 subst hvv
 have HV:Hid (Sl B 3 w (.slice ao zs.length cap) (ints zs)):=hv
 have HIL:Hid (∀x∈zs,∀W',Below w.heap.size w W'→Calls Tryz.prog 94 #[.int .i64 x,.pointer (some p1)] W' fun e w'=>e=.returned (.bool (p x))∧Below W'.heap.size W' w'):=hc
 clear hv hc
 go_enter Tryz.func48,Tryz.ntmps48
 go_wp2
 go_loopw [5,8] (fun _ i wr=>∃k:Nat,k≤zs.length∧i=.int .i64 k∧(zs.take k).any p=false∧Below w.heap.size w wr) (fun _ i _=>zs.length-(intOf i).toNat)
 case atStart=>exact ⟨0,Nat.zero_le _,rfl,by simp,Below.refl _ _⟩
 case round=>
  obtain ⟨k,hk,rfl,hno,hbr⟩:=hrel
  have HN:Hid ((zs.take k).any p=false):=hno
  have HBR:Hid (Below w.heap.size w wr):=hbr
  clear hno hbr
  by_cases hlt:k < zs.length
  ·obtain ⟨b',o,cp,hs,hc1,hcc⟩:=sl_cell (HV.out.below HBR.out (Nat.le_refl _)) hlt
   simp only [Value.slice.injEq] at hs
   obtain ⟨rfl,_,rfl⟩:=hs
   have HS1:Hid ((zs.take (k+1)).any p=p zs[k]):=any_snoc (p:=p) hlt HN.out
   have HH:Hid (p zs[k]=true→findI p zs=k):=fun h=>findI_hit (p:=p) hlt HN.out h
   rw [show zs.getD k 0=zs[k] by simp [hlt]] at hcc
   have HIX:Hid (Calls Tryz.prog 94 #[.int .i64 zs[k],.pointer (some p1)] wr fun e w'=>e=.returned (.bool (p zs[k]))∧Below wr.heap.size wr w'):=HIL.out _ (List.getElem_mem _) wr HBR.out
   generalize zs[k]=x at *
   generalize p x=fb at *
   cases fb
   ·go_wp2_with fail
    refine HIX.out.mono ?_
    rintro e w2 ⟨rfl,hb2⟩
    have HB2:Hid (Below w.heap.size w w2):=HBR.out.trans (hb2.mono HBR.out.size)
    clear hb2
    go_wp2
    go_roundw
    case rel=>exact ⟨k+1,by omega,by go_num,HS1.out,HB2.out⟩
    case measure=>simp [intOf]; omega
   ·have HH2:Hid (findI p zs=k):=HH.out rfl
    clear HH
    go_wp2_with fail
    refine HIX.out.mono ?_
    rintro e w2 ⟨rfl,hb2⟩
    have HB2:Hid (Below w.heap.size w w2):=HBR.out.trans (hb2.mono HBR.out.size)
    clear hb2
    go_wp2
    go_ret
    exact ⟨ret_int HH2.out.symm,HB2.out⟩
  ·have e:zs.take k=zs:=List.take_of_length_le (by omega)
   rw [e] at HN
   have HF:Hid (findI p zs=-1):=findI_none HN.out
   go_wp2
   go_ret
   exact ⟨ret_int HF.out.symm,HBR.out⟩
theorem fst_at {order face:List Int} (h64:∀x∈order,0≤x∧x≤63) (hB:B64 face) (h:∃x∈order,x∈face):∃k:Nat,k < order.length∧order.getD k 0=fstO order face∧findI (fun x=>(setN face).testBit x.toNat) order=k:=by
 have hin:∀x∈order,((setN face).testBit x.toNat=true↔x∈face):=fun x hx=>by
  have:=setN_bit face x.toNat hB
  rw [Int.toNat_of_nonneg (h64 x hx).1] at this
  exact this
 cases hf:order.find? fun x=>decide (x∈face) with
 | none=>
  obtain ⟨x,h1,h2⟩:=h
  have:=List.find?_eq_none.1 hf x h1
  simp [h2] at this
 | some y=>
  obtain ⟨hy,pre,bs,he,hno⟩:=List.find?_eq_some_iff_append.1 hf
  have hk:pre.length < order.length:=by rw [he]; simp
  have hg:order[pre.length]=y:=by simp [he]
  have hfs:fstO order face=y:=by unfold fstO; rw [hf]; rfl
  have hyo:y∈order:=by rw [he]; simp
  refine ⟨pre.length,hk,by rw [hfs,←hg]; simp [hk],?_⟩
  have ht:order.take pre.length=pre:=by rw [he]; simp
  refine findI_hit hk ?_ (by rw [hg]; exact (hin y hyo).2 (by simpa using hy))
  rw [ht,List.any_eq_false]
  intro a ha
  have hao:a∈order:=by rw [he]; simp [ha]
  have h3:=hno a ha
  have h4:a∉face:=by simpa using h3
  intro h5
  exact h4 ((hin a hao).1 h5)
set_option maxRecDepth 100000 in
set_option maxHeartbeats 800000 in
theorem firstOf_any (order face:List Int) (ov:Value) (w:World) (hO:Sl w.heap.size 3 w ov (ints order)) (h64:∀x∈order,0≤x∧x≤63) (hB:B64 face) (h:∃x∈order,x∈face) :
  Calls Tryz.prog 64 #[.int .u64 (setN face:Nat),ov] w fun e w'=>e=.returned (.int .u64 ((2 ^ (fstO order face).toNat:Nat):Int))∧Below w.heap.size w w':=by
 obtain ⟨oo,oc,rfl,hl1,hl2⟩:=sl_open hO
 obtain ⟨k,hk,hke,hfi⟩:=fst_at h64 hB h
 obtain ⟨W,hW⟩:∃W,W=w.alloc (.cells #[.int .u64 (setN face:Int)] 70):=⟨_,rfl⟩
 have hbw:Below w.heap.size w W:=by rw [hW]; exact alloc_keep _ _
 have HW:Hid (Below w.heap.size w W):=hbw
 have hc0:W.cell? ⟨w.heap.size,0,none⟩=some (.int .u64 (setN face:Int)):=by rw [hW]; simp
 have hlt:=setN_lt face hB
 have HIX:Hid (Calls Tryz.prog 48 #[.slice oo order.length oc,.func (.func 94) #[] #[.pointer (some ⟨w.heap.size,0,none⟩)]] W fun e w'=>e=.returned (.int .i64 (k:Int))∧Below W.heap.size W w'):=by
  have h1:=idxFo_any w.heap.size (fun x=>(setN face).testBit x.toNat) order (.slice oo order.length oc) ⟨w.heap.size,0,none⟩ W (hO.below hbw (Nat.le_refl _)) fun x hx W' hb'=>by
   obtain ⟨xn,rfl⟩:∃xn:Nat,x=(xn:Int):=⟨x.toNat,by have:=(h64 x hx).1; omega⟩
   have h2:=firstOf1_any xn (setN face) w.heap.size W' (by have:=(h64 _ hx).2; omega) hlt ((hb'.cell (lt_of_cell hc0)).trans hc0)
   simpa using h2
  rw [hfi] at h1
  exact h1
 have HCE:Hid (∀X,Below W.heap.size W X→∃b o,oo=some ⟨b,o,none⟩∧X.cell? ⟨b,o+k,none⟩=some (.int .i64 (fstO order face))):=fun X hX=>by
  obtain ⟨b,o,cp,hs,_,hcc⟩:=sl_cell ((hO.below hbw (Nat.le_refl _)).below hX (by have:=hbw.size; omega)) hk
  simp only [Value.slice.injEq,true_and] at hs
  rw [hke] at hcc
  exact ⟨b,o,hs.1,hcc⟩
 have hf0:=h64 _ (fstO_mem h).1
 have HON:Hid (∀X,Calls Tryz.prog 60 #[.int .i64 (fstO order face)] X fun e w'=>e=.returned (.int .u64 ((2 ^ (fstO order face).toNat:Nat):Int))∧w'=X):=fun X=>one_any _ X hf0.1 hf0.2
 have hkI:(k:Int) < (order.length:Int):=by omega
 clear hO hfi hke hlt hc0 hbw
 generalize 2 ^ (fstO order face).toNat=px at *
 generalize fstO order face=f at *
 generalize setN face=S at *
 go_enter Tryz.func64,Tryz.ntmps64
 go_wp2_with fail
 rw [←hW]
 clear hW
 refine HIX.out.mono ?_
 rintro e w1 ⟨rfl,hb1⟩
 obtain ⟨b,o,hoo,hcc⟩:=HCE.out w1 hb1
 have HB1:Hid (Below w.heap.size w w1):=HW.out.trans (hb1.mono HW.out.size)
 subst hoo
 clear hb1 HIX HCE
 go_wp2_with fail
 refine (HON.out w1).mono ?_
 rintro e w2 ⟨rfl,rfl⟩
 go_wp2
 go_ret
 exact ⟨rfl,HB1.out⟩
end Go.Proofs.YtdanomklbiidaaaGreatDoor

namespace Go.Proofs.YtdanomklbiidaaaGreatDoor
open Go.RowKit
attribute [local go_sem ↓] Go.wp_at_zero Go.wp_at_succ
def dimL (d:Nat) (C:List (List Int)) (s:Nat):Int:=if memL s=[] then (-1:Int) else (((pickL d (diffL (pks C [] (memL s)))).length:Nat):Int)
theorem memL_bd {s n:Nat} (hs:s < 2 ^ n) (hn:n≤64):∀x∈memL s,0≤x∧x < (n:Int):=by
 intro x hx
 rw [←memL_top hs hn] at hx
 unfold memTo at hx
 simp only [List.mem_map,List.mem_filter,List.mem_range] at hx
 obtain ⟨k,⟨hk,_⟩,rfl⟩:=hx
 omega
theorem memL_len {s n:Nat} (hs:s < 2 ^ n) (hn:n≤64):(memL s).length≤n:=by
 rw [←memL_top hs hn]
 exact memTo_len s n
end Go.Proofs.YtdanomklbiidaaaGreatDoor

namespace Go.Proofs.YtdanomklbiidaaaGreatDoor
open Go.RowKit
theorem Tryz.info23:(Tryz.prog.info? 23).map (fun i=>(i.zero,i.size,i.bytes))=some (some (.slice none 0 0),1,24):=by kernel_rfl
def natI (A:List Nat):List Int:=A.map fun a:Nat=>(a:Int)
@[simp] theorem natI_len (A:List Nat):(natI A).length=A.length:=by simp [natI]
inductive Itr (n:Nat) (S:List Nat):Nat→Prop
 | full:Itr n S (2 ^ n-1)
 | cut {a t:Nat} : Itr n S a→t∈S→Itr n S (a &&& t)
structure Clo (n:Nat) (S A:List Nat) (i:Nat):Prop where
 nd:A.Nodup
 lt:∀a∈A,a < 2 ^ n
 hd:0 < A.length∧A.getD 0 0=2 ^ n-1
 cl:∀j,j < i→∀t∈S,A.getD j 0 &&& t∈A
 gen:∀a∈A,Itr n S a
 le:i≤A.length
theorem Clo.len {n:Nat} {S A:List Nat} {i:Nat} (h:Clo n S A i):A.length≤2 ^ n:=by
 have:=nodup_len A (List.range (2 ^ n)) h.nd fun x hx=>List.mem_range.2 (h.lt x hx)
 simpa using this
theorem Clo.start (n:Nat) (S:List Nat):Clo n S [2 ^ n-1] 0:=
 ⟨by simp,fun a ha=>by simp at ha; subst ha; have:0 < 2 ^ n:=Nat.pow_pos (by decide); omega,⟨by simp,rfl⟩,fun j hj=>absurd hj (by omega),fun a ha=>by simp at ha; subst ha; exact .full,by simp⟩
structure Lvs (B:Nat) (w:World) (x:Value) (j:Nat) (ok:Nat→List (List Int)→Prop):Prop where
 rows:∃vs:List Value,vs.length=j∧w.ownsRow B 23 1 x j vs∧∀t,t < j→∃lev,Fr B 22 3 w (vs.getD t (.slice none 0 0)) lev∧ok t lev
theorem Lvs.nil (B:Nat) (w:World) (ok:Nat→List (List Int)→Prop):Lvs B w (.slice none 0 0) 0 ok:=
 ⟨[],rfl,World.ownsRow_nil _ _ _ _,fun t ht=>absurd ht (by omega)⟩
theorem Lvs.below {B N:Nat} {w w':World} {x:Value} {j:Nat} {ok:Nat→List (List Int)→Prop} (h:Lvs B w x j ok) (hb:Below N w w') (hN:w.heap.size≤N):Lvs B w' x j ok:=by
 obtain ⟨vs,h1,h2,h3⟩:=h.rows
 exact ⟨vs,h1,owns_below h2 hb hN,fun t ht=>by
  obtain ⟨lev,g1,g2⟩:=h3 t ht
  exact ⟨lev,g1.below hb hN,g2⟩⟩
theorem Fr.grownM {B:Nat} {w w':World} {x v:Value} {n:Nat} {xs:List Value} {m:List (List Int)} (h:Fr B 22 3 w v m) (hx:w.ownsRow B 23 1 x n xs) (hg:w.grownBy w' x.ownBlock):Fr B 22 3 w' v m:=by
 obtain ⟨vs,h1,h2,h3⟩:=h
 refine ⟨vs,h1,h2.kept hg ?_,fun i hi=>(h3 i hi).grown hg fun k hk=>⟨Nat.zero_le _,(owns_typed hx (by decide) k hk).2⟩⟩
 cases hv:v.ownBlock with
 | none=>simp
 | some g=>
  right
  intro he
  rcases h2.2 with ⟨rfl,_⟩ | ⟨g2,cap,cur,rfl,_,hh,_⟩
  ·simp [Value.ownBlock] at hv
  ·simp [Value.ownBlock] at hv
   subst hv
   exact (owns_typed hx (e1:=22) (by decide) g2 (by first | exact he | exact he.symm)).2 cur hh
theorem Lvs.push {B:Nat} {w w':World} {x x' v:Value} {j:Nat} {ok:Nat→List (List Int)→Prop} {vs:List Value} {lev:List (List Int)} (h1:vs.length=j) (h2:w.ownsRow B 23 1 x j vs) (h3:∀t,t < j→∃lev,Fr B 22 3 w (vs.getD t (.slice none 0 0)) lev∧ok t lev)
  (hv:Fr B 22 3 w v lev) (hok:ok j lev) (ho:w'.ownsRow B 23 1 x' (j+1) (vs ++ [v])) (hg:w.grownBy w' x.ownBlock):Lvs B w' x' (j+1) ok:=by
 refine ⟨vs ++ [v],by simp [h1],ho,fun t ht=>?_⟩
 by_cases htj:t < j
 ·obtain ⟨l,g1,g2⟩:=h3 t htj
  refine ⟨l,?_,g2⟩
  have e:(vs ++ [v]).getD t (.slice none 0 0)=vs.getD t (.slice none 0 0):=by
   simp only [List.getD_eq_getElem?_getD]; rw [List.getElem?_append_left (by omega)]
  rw [e]
  exact g1.grownM h2 hg
 ·obtain rfl:t=j:=by omega
  refine ⟨lev,?_,hok⟩
  have e:(vs ++ [v]).getD t (.slice none 0 0)=v:=by rw [←h1]; simp
  rw [e]
  exact hv.grownM h2 hg
def LevOk (d:Nat) (C:List (List Int)) (A:List Nat) (t:Nat) (lev:List (List Int)):Prop:=SAsc lev∧∀r,r∈lev↔∃a∈A,dimL d C a=(t:Int)-1∧r=memL a
end Go.Proofs.YtdanomklbiidaaaGreatDoor

namespace Go.Proofs.YtdanomklbiidaaaGreatDoor
open Go.RowKit
attribute [local go_sem ↓] Go.wp_at_zero Go.wp_at_succ
theorem Lvs.mono {B B':Nat} {w:World} {x:Value} {j:Nat} {ok:Nat→List (List Int)→Prop} (h:Lvs B w x j ok) (hB:B'≤B):Lvs B' w x j ok:=by
 obtain ⟨vs,h1,h2,h3⟩:=h.rows
 exact ⟨vs,h1,h2.mono hB,fun t ht=>by
  obtain ⟨lev,g1,g2⟩:=h3 t ht
  exact ⟨lev,g1.mono hB,g2⟩⟩
theorem pow16 {n:Nat} (h:n≤16):2 ^ n≤65536:=Nat.le_trans (Nat.pow_le_pow_right (by decide) h) (by decide)
end Go.Proofs.YtdanomklbiidaaaGreatDoor

namespace Go.Proofs.YtdanomklbiidaaaGreatDoor
open Go.RowKit
attribute [local go_sem ↓] Go.wp_at_zero Go.wp_at_succ
def nats (ns:List Nat):List Value:=ns.map fun (n:Nat)=>Value.int .u64 (n:Int)
@[simp] theorem nats_length (ns:List Nat):(nats ns).length=ns.length:=by simp [nats]
end Go.Proofs.YtdanomklbiidaaaGreatDoor

namespace Go.Proofs.YtdanomklbiidaaaGreatDoor
open Go.RowKit
attribute [local go_sem ↓] Go.wp_at_zero Go.wp_at_succ
theorem one_u64 (z:Int):∀u∈[Value.int .u64 z],u.oneCell'=true:=by
 intro u hu; simp at hu; subst hu; rfl
end Go.Proofs.YtdanomklbiidaaaGreatDoor

namespace Go.Proofs.YtdanomklbiidaaaGreatDoor
open Lin
theorem row_meets {d:Nat} {C:List (List Int)} (hg:Good d C) {r:List Int} (hr:r∈rowsC C [] d C):∃y∈C,r.getD d 0=dot d (V r) (V y):=by
 obtain ⟨t,hts,htl,hrt⟩:=mem_rowsC.1 hr
 obtain ⟨σ,hσ,hnb,hre⟩:=rowT_form htl hrt
 have hal:=norm_len hnb
 have hd1:=hg.d1
 have hVr:∀i,i < d→V r i=σ*V (normL d (diffL t)) i:=fun i hi=>by
  rw [hre]
  have h:=V_map (normL d (diffL t) ++ [dotL (normL d (diffL t)) (t.getD 0 [])]) σ i
  rw [h,(row_app hal).2.2.2 i hi]
 have hlast:r.getD d 0=σ*dotL (normL d (diffL t)) (t.getD 0 []):=by
  rw [hre]
  have h:=V_map (normL d (diffL t) ++ [dotL (normL d (diffL t)) (t.getD 0 [])]) σ d
  simp only [V] at h
  rw [h,(row_app hal).2.2.1]
 refine ⟨t.getD 0 [],hts.subset (by simp [show 0 < t.length by omega]),?_⟩
 rw [hlast,dotL_eq hal]
 unfold dot
 rw [←sumN_mul]
 exact (sumN_congr fun i hi=>by rw [hVr i hi,Int.mul_assoc]).symm
theorem mem_side {C:List (List Int)} {r:List Int} (hC:C.length≤16) {y:List Int} : y∈pks C [] (memL (sdN C r))↔y∈C∧overL r y=0:=by
 have hlt:sdN C r < 2 ^ 64:=Nat.lt_of_lt_of_le (sdTo_lt C r C.length) (Nat.pow_le_pow_right (by decide) (by omega))
 unfold pks
 simp only [List.mem_map]
 constructor
 ·rintro ⟨x,hx,rfl⟩
  obtain ⟨k,rfl,hk⟩:=(mem_memL hlt).1 hx
  unfold sdN at hk
  rw [sdTo_bit] at hk
  simp only [Bool.and_eq_true,decide_eq_true_eq] at hk
  rw [show ((k:Int)).toNat=k by omega]
  exact ⟨by simp [hk.1],hk.2⟩
 ·rintro ⟨hy,ho⟩
  obtain ⟨k,hk,rfl⟩:=List.mem_iff_getElem.1 hy
  have e:C.getD k []=C[k]:=by simp [hk]
  refine ⟨(k:Int),(mem_memL hlt).2 ⟨k,rfl,?_⟩,by rw [show ((k:Int)).toNat=k by omega]; exact e⟩
  unfold sdN
  rw [sdTo_bit,e]
  simp [hk,ho]
open Go.RowKit
attribute [local go_sem ↓] Go.wp_at_zero Go.wp_at_succ
end Go.Proofs.YtdanomklbiidaaaGreatDoor
