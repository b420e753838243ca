import Derived.Test.YtdanomklbiidaaaGreatDoorMgAF
namespace Go.Proofs.YtdanomklbiidaaaGreatDoor
open Go.RowKit Lin
attribute [local go_sem ↓] Go.wp_at_zero Go.wp_at_succ
def nv (val:Int) (f:Nat) (D:Nat→Int) (C:Nat→Nat):Nat→Nat→Int
 | 0=>fun j=>if j=f then val else 0
 | t+1=>fun j=>if j=C t then-D t else nv val f D C t j
theorem nv_off {val:Int} {f:Nat} {D:Nat→Int} {C:Nat→Nat} {j:Nat} : ∀{t},(∀a,a < t→C a≠j)→nv val f D C t j=if j=f then val else 0
 | 0,_=>rfl
 | t+1,h=>by
  unfold nv
  rw [if_neg (fun e=>h t (by omega) e.symm)]
  exact nv_off fun a ha=>h a (by omega)
theorem nv_at {val:Int} {f:Nat} {D:Nat→Int} {C:Nat→Nat} : ∀{t a},a < t→(∀a b,a < b→b < t→C a < C b)→nv val f D C t (C a)=- D a
 | t+1,a,ha,h=>by
  unfold nv
  by_cases e:a=t
  ·subst e; rw [if_pos rfl]
  ·have:=h a t (by omega) (by omega)
   rw [if_neg (by omega)]
   exact nv_at (by omega) fun a b h1 h2=>h a b h1 (by omega)
theorem nv_bd {val:Int} {f:Nat} {D:Nat→Int} {C:Nat→Nat} {b:Nat} : ∀{t j},val.natAbs≤b→(∀a,a < t→(D a).natAbs≤b)→(nv val f D C t j).natAbs≤b
 | 0,j,h,_=>by unfold nv; split; exact h; simp
 | t+1,j,h,hd=>by
  unfold nv
  split
  ·have:=hd t (by omega); omega
  ·exact nv_bd h fun a ha=>hd a (by omega)
theorem rows_at {n c:Nat} {mat:Nat→Nat→Int} {i:Nat} (h:i < n):(rowsOf n c mat).getD i []=(List.range c).map (mat i):=by simp [rowsOf,h]
def freesT (k:Nat) (C:Nat→Nat) (q:Nat):List Nat:=(List.range q).filter fun f=>!(((List.range k).map fun b=>(C b:Int)).contains (f:Int))
def kvec (M':Nat→Nat→Int) (C:Nat→Nat) (c k f:Nat):List Int:=low ((List.range c).map (nv (dk M' C k) f (fun a=>rr M' C k a f) C k))
theorem freesT_in {k:Nat} {C:Nat→Nat} {q:Nat} (h:((List.range k).map fun b=>(C b:Int)).contains (q:Int)=true):freesT k C (q+1)=freesT k C q:=by
 unfold freesT
 rw [List.range_succ,List.filter_append]
 simp only [List.filter_cons,List.filter_nil,h]
 simp
theorem freesT_out {k:Nat} {C:Nat→Nat} {q:Nat} (h:((List.range k).map fun b=>(C b:Int)).contains (q:Int)=false):freesT k C (q+1)=freesT k C q ++ [q]:=by
 unfold freesT
 rw [List.range_succ,List.filter_append]
 simp only [List.filter_cons,List.filter_nil,h]
 simp
theorem pivot_has {k:Nat} {C:Nat→Nat} {q:Nat} : ((List.range k).map fun b=>(C b:Int)).contains (q:Int)=true↔∃b,b < k∧C b=q:=by
 rw [List.contains_iff_mem,List.mem_map]
 constructor
 ·rintro ⟨b,h1,h2⟩; exact ⟨b,by simpa using h1,by omega⟩
 ·rintro ⟨b,h1,h2⟩; exact ⟨b,by simpa using h1,by omega⟩
theorem freesT_len {k c:Nat} {C:Nat→Nat} (hr:Rising k c C):(freesT k C c).length+k=c:=by
 have key:∀q,q≤c→∃t,t≤k∧(∀b,b < t→C b < q)∧(∀b,t≤b→b < k→q≤C b)∧(freesT k C q).length+t=q:=by
  intro q
  induction q with
  | zero=>intro _; exact ⟨0,Nat.zero_le _,fun b hb=>absurd hb (by omega),fun b _ _=>Nat.zero_le _,by simp [freesT]⟩
  | succ q ih=>
   intro hq
   obtain ⟨t,h1,h2,h3,h4⟩:=ih (by omega)
   cases hc:((List.range k).map fun b=>(C b:Int)).contains (q:Int) with
   | true=>
    obtain ⟨b,hb,e⟩:=pivot_has.1 hc
    have htb:b=t:=by
     apply Classical.byContradiction
     intro hne
     by_cases h:b < t
     ·have:=h2 b h; omega
     ·have h5:=h3 t (Nat.le_refl _) (by omega)
      have h6:=hr.1 t b (by omega) hb
      omega
    subst htb
    refine ⟨b+1,by omega,fun b' hb'=>?_,fun b' hb' hk'=>?_,by rw [freesT_in hc]; omega⟩
    ·by_cases e2:b'=b
     ·subst e2; omega
     ·have:=h2 b' (by omega); omega
    ·have:=hr.1 b b' (by omega) hk'; omega
   | false=>
    refine ⟨t,h1,fun b hb=>?_,fun b hb hk=>?_,by rw [freesT_out hc]; simp; omega⟩
    ·have:=h2 b hb; omega
    ·have h5:=h3 b hb hk
     have:C b≠q:=fun e=>by
      rw [pivot_has.2 ⟨b,hk,e⟩] at hc; simp at hc
     omega
 obtain ⟨t,h1,h2,h3,h4⟩:=key c (Nat.le_refl _)
 have:t=k:=by
  apply Classical.byContradiction
  intro hne
  have h5:=h3 t (Nat.le_refl _) (by omega)
  have:=hr.2 t (by omega)
  omega
 omega
theorem owns_lowK {B B' n:Nat} {e:TypeId} {w:World} {v:Value} {xs:List Value} (h:w.ownsRow B e 1 v n xs) (hB:B'≤B):w.ownsRow B' e 1 v n xs:=by
 refine ⟨h.1,?_⟩
 rcases h.2 with q | ⟨b,cap,cur,rfl,r1,r2,r3⟩
 ·exact Or.inl q
 ·exact Or.inr ⟨b,cap,cur,rfl,by omega,r2,r3⟩
def Rwz (B:Nat) (w:World) (v:Value) (m:List (List Int)):Prop:=
 ∃vs,vs.length=m.length∧w.ownsRow B 22 1 v m.length vs∧∀i,i < m.length→Sl 0 3 w (vs.getD i (.slice none 0 0)) (ints (m.getD i []))
theorem Rwz.nil (B:Nat) (w:World):Rwz B w (.slice none 0 0) []:=⟨[],rfl,World.ownsRow_nil _ _ _ _,fun i hi=>absurd hi (by simp)⟩
theorem Rwz.below {B N:Nat} {w w':World} {v:Value} {m:List (List Int)} (h:Rwz B w v m) (hb:Below N w w') (hN:w.heap.size≤N):Rwz B w' v m:=by
 obtain ⟨vs,h1,h2,h3⟩:=h
 exact ⟨vs,h1,owns_below h2 hb hN,fun i hi=>(h3 i hi).below hb hN⟩
theorem Rwz.rws {B B':Nat} {w:World} {v:Value} {m:List (List Int)} (h:Rwz B w v m) (hB:B'≤B):Rws B' 22 3 w v m:=by
 obtain ⟨vs,h1,h2,h3⟩:=h
 exact ⟨vs,h1,owns_lowK h2 hB,fun i hi=>(h3 i hi).more (Nat.zero_le _)⟩
theorem Rwz.push {B:Nat} {w w':World} {v v' u:Value} {m:List (List Int)} {vs:List Value} {zs:List Int} (h1:vs.length=m.length) (h2:w.ownsRow B 22 1 v m.length vs)
  (h3:∀i,i < m.length→Sl 0 3 w (vs.getD i (.slice none 0 0)) (ints (m.getD i []))) (hu:Sl 0 3 w u (ints zs))
  (ho:w'.ownsRow B 22 1 v' (m.length+1) (vs ++ [u])) (hg:w.grownBy w' v.ownBlock):Rwz B w' v' (m ++ [zs]):=by
 refine ⟨vs ++ [u],by simp [h1],by simpa using ho,?_⟩
 obtain ⟨vs',q1,q2,q3⟩:=Rws.push (e2:=22) (e1:=3) (B:=0) (u:=u) (zs:=zs) (by decide) h1 (owns_lowK h2 (Nat.zero_le _)) h3 hu (owns_lowK ho (Nat.zero_le _)) hg
 have hv:=q2.2
 have e:vs'=vs ++ [u]:=by
  have a1:=ho.2
  rcases hv with ⟨e1,e2⟩ | ⟨b,cap,cur,e1,r1,r2,r3,r4,r5,r6⟩
  ·simp at e2
  ·rcases a1 with ⟨f1,f2⟩ | ⟨b',cap',cur',f1,s1,s2,s3,s4,s5,s6⟩
   ·simp at f2
   ·rw [e1] at f1
    simp only [Value.slice.injEq,Option.some.injEq,Addr.mk.injEq,and_true] at f1
    obtain ⟨rfl,_,rfl⟩:=f1
    rw [r2] at s2
    simp only [Option.some.injEq,Obj.cells.injEq,and_true] at s2
    subst s2
    rw [←r6,←s6]
    simp
 rw [←e]
 exact q3
set_option maxRecDepth 100000 in
set_option maxHeartbeats 2000000 in
theorem kernelQ_any0 {Bq:Nat} (B c:Nat) (m:List (List Int)) (v:Value) (w:World) (hx:Mx c Bq m) (hbd:Bd (mOf m) m.length c) (hvb:∀k,k < c→fb Bq k+fb Bq (k+1)≤1000000000000) (hv:Mat B 22 3 w v m) (hm:m.length≤500) :
  Calls Tryz.prog 104 #[v,.int .i64 c] w fun e w'=>∃M' C k sgn,Red (mOf m) m.length c M' C k sgn∧∃u,e=.returned u∧Rws w.heap.size 22 3 w' u ((freesT k C c).map (kvec M' C c k))∧(∀l∈(freesT k C c).map (kvec M' C c k),l.length=c∧∀z∈l,z.natAbs≤1000000000000)∧Below w.heap.size w w':=by
 obtain ⟨i3,hi3,hz30,hz31,hz32⟩:=info_parts Tryz.info22
 obtain ⟨ao,cap,hvv,hlc,hcm⟩:=mat_open hv
 subst hvv
 have hc5:=hx.c5
 have hc1:=hx.c1
 have HR:Hid (Calls Tryz.prog 53 #[.slice ao m.length cap,.int .i64 c] w fun e w'=>∃M' C k sgn,Red (mOf m) m.length c M' C k sgn∧∃ro rc po pc,e=.returned (.agg #[.slice ro m.length rc,.slice po k pc,.int .i64 (dk M' C k),.int .i64 sgn])∧
   Mat w.heap.size 22 3 w' (.slice ro m.length rc) (rowsOf m.length c (rr M' C k))∧Sl w.heap.size 3 w' (.slice po k pc) (ints ((List.range k).map fun b=>(C b:Int)))∧Below w.heap.size w w'):=by
  refine (reduce_any0 B c m _ w hv hm hc1 (by omega) hx.row hbd).mono ?_
  rintro e w' ⟨M',C,k,sgn,hr,rv,pv,rfl,h1,h2,h3⟩
  obtain ⟨ro,rc,e1,_,_⟩:=mat_open h1
  obtain ⟨po,pc,e2,_,_⟩:=sl_open h2
  simp only [List.length_map,List.length_range,rowsOf] at e1 e2
  subst e1 e2
  exact ⟨M',C,k,sgn,hr,ro,rc,po,pc,rfl,h1,h2,h3⟩
 have HX:Hid (Mx c Bq m):=hx
 have HVK:Hid (∀k,k < c→fb Bq k+fb Bq (k+1)≤1000000000000):=hvb
 clear hv hx hbd hvb
 go_enter Tryz.func104,Tryz.ntmps104
 go_wp2_with fail
 refine (HR.out).mono ?_
 rintro e w2 ⟨M',C,k,sgn,hred,ro,rc,po,pc,rfl,hmat,hpiv,hb⟩
 obtain ⟨_,_,hq1,hq2,hq3⟩:=mat_open hmat
 simp only [Value.slice.injEq,rowsOf,List.length_map,List.length_range] at hq1 hq2
 obtain ⟨rfl,_,rfl⟩:=hq1
 have HRD:Hid (Red (mOf m) m.length c M' C k sgn):=hred
 have hkn:=hred.done.kn
 have hkc:=rising_le hred.done.rise
 have hrk:=red_rank hred
 have HRK:Hid (k=(pickL c m).length):=hrk
 have HVB:Hid (k < c→(dk M' C k).natAbs≤1000000000000∧∀i,i < m.length→∀j,j < c→(rr M' C k i j).natAbs≤1000000000000):=by
  intro hk4
  have h5:=HVK.out k hk4
  have hb:=dk_bd (B:=Bq) (k:=k) (M:=M') (C:=C) (fun i hi b hb=>red_entry HX.out hred i (by omega) _ (hred.done.rise.2 b hb))
  refine ⟨by omega,fun i hi j hj=>?_⟩
  have:=rr_bd (B:=Bq) (n:=m.length) (c:=c) (k:=k) (i:=i) (j:=j) (M:=M') (C:=C) HX.out.pos (red_entry HX.out hred) hkn hred.done.rise.2 hi hj
  omega
 obtain ⟨w3,hw3⟩:∃w3,w3=w2.alloc (.cells #[.slice ro m.length rc,.slice po k pc,.int .i64 (dk M' C k),.int .i64 sgn] 78):=⟨_,rfl⟩
 have HB3:Hid (Below w.heap.size w w3):=by rw [hw3]; exact hb.alloc hb.size _
 have HM3:Hid (Mat w.heap.size 22 3 w3 (.slice ro m.length rc) (rowsOf m.length c (rr M' C k))):=by rw [hw3]; exact hmat.below ((Below.refl _ _).alloc (Nat.le_refl _) _) (Nat.le_refl _)
 have HP3:Hid (Sl w.heap.size 3 w3 (.slice po k pc) (ints ((List.range k).map fun b=>(C b:Int)))):=by rw [hw3]; exact hpiv.alloc _
 have HC3:Hid (w3.heap[w2.heap.size]?=some (.cells #[.slice ro m.length rc,.slice po k pc,.int .i64 (dk M' C k),.int .i64 sgn] 78 (0,0))):=by rw [hw3]; exact alloc_at _ _
 have HW3:Hid (w3=w2.alloc (.cells #[.slice ro m.length rc,.slice po k pc,.int .i64 (dk M' C k),.int .i64 sgn] 78)):=hw3
 have HS3:Hid (w2.heap.size < w3.heap.size):=by rw [hw3]; show _ < _; simp
 clear hred hmat hpiv hb hrk hw3
 have hkc':k≤c:=hkc
 have c0:w3.cell? ⟨w2.heap.size,0,none⟩=some (.slice ro m.length rc):=by simp [World.cell?,HC3.out]
 have c1:w3.cell? ⟨w2.heap.size,1,none⟩=some (.slice po k pc):=by simp [World.cell?,HC3.out]
 have c2:w3.cell? ⟨w2.heap.size,2,none⟩=some (.int .i64 (dk M' C k)):=by simp [World.cell?,HC3.out]
 have hs3:=HS3.out
 obtain ⟨R,hR⟩:∃R,R=w2.heap.size:=⟨_,rfl⟩
 obtain ⟨val,hval⟩:∃val,val=dk M' C k:=⟨_,rfl⟩
 have HVAL:Hid (val=dk M' C k):=hval
 have hww:=HW3.out
 rw [←hval] at c2 hww
 rw [←hR] at c0 c1 c2 hs3
 clear HC3 HS3 HW3
 have hmk:=run_make_row' (P:=Tryz.prog) 22 3 (.int .i64 0) 8 Tryz.underlying22 Tryz.info3 rfl .i64 .i64 c (by omega) (by omega)
 rw [←hval]
 clear hval
 go_wp2
 rw [←hww,←hR]
 clear hww hR
 go_loopw [15,6,7,8,9,10] (fun i o _ _ _ _ wr=>∃q:Nat,q≤c∧i=.int .i64 q∧Below w3.heap.size w3 wr∧Rwz w3.heap.size wr o ((freesT k C q).map (kvec M' C c k))∧(freesT k C q).length≤q∧∀l∈(freesT k C q).map (kvec M' C c k),l.length=c∧∀z∈l,z.natAbs≤1000000000000) (fun i _ _ _ _ _ _=>c-(intOf i).toNat)
 case atStart=>exact ⟨0,Nat.zero_le _,rfl,Below.refl _ _,Rwz.nil _ _,by simp [freesT],fun l hl=>by simp [freesT] at hl⟩
 case round=>
  obtain ⟨q,hq,rfl,hbel,hrw,hfl,hok⟩:=hrel
  have HBQ:Hid (Below w3.heap.size w3 wr):=hbel
  have HRQ:Hid (Rwz w3.heap.size wr u6 ((freesT k C q).map (kvec M' C c k))):=hrw
  have HOK:Hid (∀l∈(freesT k C q).map (kvec M' C c k),l.length=c∧∀z∈l,z.natAbs≤1000000000000):=hok
  have d0:wr.cell? ⟨R,0,none⟩=some (.slice ro m.length rc):=(hbel.cell hs3).trans c0
  have d1:wr.cell? ⟨R,1,none⟩=some (.slice po k pc):=(hbel.cell hs3).trans c1
  have d2:wr.cell? ⟨R,2,none⟩=some (.int .i64 val):=(hbel.cell hs3).trans c2
  have hRw:R < wr.heap.size:=Nat.lt_of_lt_of_le hs3 hbel.size
  clear hbel hrw hok
  by_cases hqc:q < c
  ·have hqI:(q:Int) < (c:Int):=by omega
   have HCN:Hid (Calls Tryz.prog 115 #[.slice po k pc,.int .i64 q] wr fun e w'=>e=.returned (.bool (((List.range k).map fun b=>(C b:Int)).contains (q:Int)))∧w'=wr):=
    containsK_any w.heap.size q _ _ wr (HP3.out.below HBQ.out (Nat.le_refl _))
   cases hcn:((List.range k).map fun b=>(C b:Int)).contains (q:Int) with
   | true=>
    have HF:Hid (freesT k C (q+1)=freesT k C q):=freesT_in hcn
    rw [hcn] at HCN
    clear hcn
    go_wp2_with fail
    refine HCN.out.mono ?_
    rintro e w4 ⟨rfl,rfl⟩
    go_wp2
    go_roundw
    case rel=>exact ⟨q+1,by omega,by go_num,HBQ.out,by rw [HF.out]; exact HRQ.out,by rw [HF.out]; omega,by rw [HF.out]; exact HOK.out⟩
    case measure=>simp [intOf]; omega
   | false=>
    have HF:Hid (freesT k C (q+1)=freesT k C q ++ [q]):=freesT_out hcn
    have HNP:Hid (∀b,b < k→C b≠q):=fun b hb e=>by rw [pivot_has.2 ⟨b,hb,e⟩] at hcn; simp at hcn
    have HK4:Hid (k < c):=by
     have h1:=freesT_len HRD.out.done.rise
     have h2:q∈freesT k C c:=by unfold freesT; rw [List.mem_filter]; exact ⟨by simpa using hqc,by simp only [hcn]; rfl⟩
     have h3:=List.length_pos_of_mem h2
     show _ < _
     omega
    rw [hcn] at HCN
    clear hcn
    have hmc:(madeCells #[.int .i64 0] c)[q]?=some (.int .i64 0):=by
     rw [←Array.getElem?_toList,toList_madeCells_one]; simp [hqc]
    have hne:R≠wr.heap.size:=by omega
    have hne':wr.heap.size≠R:=by omega
    have HG0:Hid ((wr.alloc (.cells ((madeCells #[.int .i64 0] c).setIfInBounds q (.int .i64 val)) 3)).rowIs wr.heap.size 3 c (fun j=>.int .i64 (nv val q (fun a=>rr M' C k a q) C 0 j))∧Below wr.heap.size wr (wr.alloc (.cells ((madeCells #[.int .i64 0] c).setIfInBounds q (.int .i64 val)) 3))):=by
     have e:(wr.alloc (.cells (madeCells #[.int .i64 0] c) 3)).setCell ⟨wr.heap.size,q,none⟩ (.int .i64 val)=wr.alloc (.cells ((madeCells #[.int .i64 0] c).setIfInBounds q (.int .i64 val)) 3):=by simp [go_sem]
     refine ⟨?_,(Below.refl _ _).alloc (Nat.le_refl _) _⟩
     rw [←e]
     exact ((World.rowIs_made wr (.int .i64 0) c 3).set q (.int .i64 val)).congr fun j hj=>by unfold nv; by_cases e:j=q <;> simp [e]
    obtain ⟨w4,hw4⟩:∃w4,w4=wr:=⟨_,rfl⟩
    rw [←hw4] at d0 d1 d2 hRw hne hne' HG0 HCN ⊢
    have HBQ4:Hid (Below w3.heap.size w3 w4):=by rw [hw4]; exact HBQ.out
    have HRQ4:Hid (Rwz w3.heap.size w4 u6 ((freesT k C q).map (kvec M' C c k))):=by rw [hw4]; exact HRQ.out
    clear HBQ HRQ hw4
    go_wp2_with fail
    refine HCN.out.mono ?_
    rintro e w5 ⟨rfl,rfl⟩
    clear HCN
    go_wp2
    go_loopw [32,9,10] (fun i _ _ wr=>∃t:Nat,t≤k∧i=.int .i64 t∧Below w5.heap.size w5 wr∧wr.rowIs w5.heap.size 3 c (fun j=>.int .i64 (nv val q (fun a=>rr M' C k a q) C t j))) (fun i _ _ _=>k-(intOf i).toNat)
    case atStart=>exact ⟨0,Nat.zero_le _,rfl,HG0.out.2,HG0.out.1⟩
    case round=>
     obtain ⟨t,ht,rfl,hbel,hrow⟩:=hrel
     have HB:Hid (Below w5.heap.size w5 wr):=hbel
     have HRW:Hid (wr.rowIs w5.heap.size 3 c (fun j=>.int .i64 (nv val q (fun a=>rr M' C k a q) C t j))):=hrow
     have e0:wr.cell? ⟨R,0,none⟩=some (.slice ro m.length rc):=(hbel.cell hRw).trans d0
     by_cases htk:t < k
     ·obtain ⟨pb,po2,pcp,hs,hp1,hpc⟩:=sl_cell ((HP3.out.below HBQ4.out (Nat.le_refl _)).below hbel (Nat.le_refl _)) (k:=t) (by simpa using htk)
      simp only [Value.slice.injEq,List.length_map,List.length_range] at hs
      obtain ⟨rfl,_,rfl⟩:=hs
      have hg:((List.range k).map fun b=>(C b:Int)).getD t 0=(C t:Int):=by simp [htk]
      rw [hg] at hpc
      have hCt:C t < c:=HRD.out.done.rise.2 t htk
      obtain ⟨rb,ro2,rcp,u,hs2,_,hrc,hru⟩:=mat_cell ((HM3.out.below HBQ4.out (Nat.le_refl _)).below hbel (Nat.le_refl _)) (k:=t) (by simp [rowsOf]; omega)
      simp only [Value.slice.injEq,rowsOf,List.length_map,List.length_range,true_and] at hs2
      obtain ⟨rfl,rfl⟩:=hs2
      rw [rows_at (by omega)] at hru
      obtain ⟨xb,xo,xcp,hs3',hxl,hxc⟩:=sl_cell hru (k:=q) (by simpa using hqc)
      have hg2:((List.range c).map (rr M' C k t)).getD q 0=rr M' C k t q:=by simp [hqc]
      rw [hg2] at hxc
      simp only [List.length_map,List.length_range] at hs3' hxl
      subst hs3'
      have hcl:=hrow.cell (i:=C t) hCt
      have hfz:=hrow.frozen (C t)
      have HBX:=(HVB.out HK4.out).2 t (by omega) q hqc
      obtain ⟨ct,hct⟩:∃ct,ct=C t:=⟨_,rfl⟩
      obtain ⟨x,hxx⟩:∃x,x=rr M' C k t q:=⟨_,rfl⟩
      have HCT:Hid (ct=C t):=hct
      have HXX:Hid (x=rr M' C k t q):=hxx
      rw [←hct] at hpc hCt hcl hfz
      rw [←hxx] at hxc HBX
      generalize nv val q (fun a=>rr M' C k a q) C t ct=old at hcl
      clear hg hg2 hct hxx hrow hbel hru
      go_wp2
      go_roundw
      case rel=>
       refine ⟨t+1,by omega,by go_num,HB.out.setCell (by exact Nat.le_refl _) _,?_⟩
       refine (HRW.out.set ct _).congr fun j _=>?_
       show _=Value.int .i64 (if j=C t then-rr M' C k t q else nv val q (fun a=>rr M' C k a q) C t j)
       rw [←HCT.out,←HXX.out]
       by_cases e:j=ct <;> simp [e]
      case measure=>simp [intOf]; omega
     ·have htk':t=k:=by omega
      subst htk'
      have HB1:Hid (∀z∈(List.range c).map (nv val q (fun a=>rr M' C t a q) C t),z.natAbs≤1000000000000):=by
       intro z hz
       rw [List.mem_map] at hz
       obtain ⟨j,_,rfl⟩:=hz
       have hv:=HVB.out HK4.out
       exact nv_bd (by rw [HVAL.out]; exact hv.1) fun a ha=>hv.2 a (by omega) q hqc
      obtain ⟨L,hLL⟩:∃L,L=(List.range c).map (nv val q (fun a=>rr M' C t a q) C t):=⟨_,rfl⟩
      have HLN:Hid (L.length=c):=by show _=_; rw [hLL]; simp
      have HKV:Hid (kvec M' C c t q=low L):=by show _=_; rw [hLL,HVAL.out]; rfl
      have HSL:Hid (∀B,Sl B 3 wr (.slice (some ⟨w5.heap.size,0,none⟩) c c) (ints L)):=by
       intro B
       refine Sl.row HRW.out (by simp [HLN.out]) (by unfold maxLen; omega) fun i hi=>?_
       rw [ints_get _ _ (by rw [HLN.out]; exact hi),hLL]; simp [hi]
      rw [←hLL] at HB1
      have HB4:Hid (Below w3.heap.size w3 wr):=HBQ4.out.trans (HB.out.mono HBQ4.out.size)
      have HR4:Hid (Rwz w3.heap.size wr u6 ((freesT t C q).map (kvec M' C c t))):=HRQ4.out.below HB.out (Nat.le_refl _)
      have HLL:Hid ((low L).length=c∧∀z∈low L,z.natAbs≤1000000000000):=⟨by simp [low,HLN.out],low_bd HB1.out⟩
      clear hrow hbel hLL HRW HBQ4 HRQ4 d0 d1 d2 e0
      go_wp2_with fail
      refine (primitive_any w.heap.size L _ wr (HSL.out _) (by rw [HLN.out]; omega) (fun z hz=>Nat.le_trans (HB1.out z hz) (by decide))).mono ?_
      rintro e w6 ⟨u,rfl,hs6,hb6⟩
      obtain ⟨uo,uc,hu,_,_⟩:=sl_open (hs6 0)
      rw [HLL.out.1] at hu
      subst hu
      have HS6:Hid (Sl 0 3 w6 (.slice uo c uc) (ints (low L))):=hs6 _
      have HB6:Hid (Below w3.heap.size w3 w6):=HB4.out.trans (hb6.mono HB4.out.size)
      obtain ⟨vs,g1,g2,g3⟩:=HR4.out.below hb6 (Nat.le_refl _)
      have hl0:((freesT t C q).map (kvec M' C c t)).length=(freesT t C q).length:=by simp
      have HML:Hid (((freesT t C q).map (kvec M' C c t)).length=(freesT t C q).length):=hl0
      rw [hl0] at g1 g2 g3
      obtain ⟨fl,hfl2⟩:∃fl,fl=(freesT t C q).length:=⟨_,rfl⟩
      rw [←hfl2] at g1 g2 g3 HML hfl
      have G1:Hid (vs.length=fl):=g1
      have G2:Hid (w6.ownsRow w3.heap.size 22 1 u6 fl vs):=g2
      have G3:Hid (∀i,i < fl→Sl 0 3 w6 (vs.getD i (.slice none 0 0)) (ints (((freesT t C q).map (kvec M' C c t)).getD i []))):=g3
      have HFL:Hid (fl=(freesT t C q).length):=hfl2
      have hsz6:w3.heap.size≤w6.heap.size:=HB6.out.size
      clear hs6 hb6 g1 g2 g3 hl0 hfl2
      go_wp2_with (first | (at_builtin; refine wpList_append_own _ rfl _ _ 23 rfl w3.heap.size 22 i3 (.slice none 0 0) 1 24 Tryz.underlying23 hi3 hz30 hz31 hz32 rfl (by decide) _ _ _ rfl (G2.out.alloc _) ⟨w6.heap.size,0,none⟩ 1 1 [.slice uo c uc] rfl rfl (one_new _ _ _) (one_slice _ _ _) ?d3 ?d4 ?d5 ?_))
      case d3=>unfold maxLen; omega
      case d4=>omega
      case d5=>simp; omega
      intro v' w7 ho hg _
      have R1:Hid (Rwz w3.heap.size w7 v' ((freesT t C (q+1)).map (kvec M' C c t))):=by
       have hp:=Rwz.push (m:=(freesT t C q).map (kvec M' C c t)) (u:=.slice uo c uc) (zs:=low L) (by rw [HML.out]; exact G1.out) (by rw [HML.out]; exact G2.out.alloc _)
        (fun i hi=>(G3.out i (by rw [HML.out] at hi; exact hi)).alloc _) (HS6.out.alloc _) (by rw [HML.out]; exact ho) hg
       show Rwz _ _ _ _
       rw [HF.out,List.map_append,List.map_cons,List.map_nil,HKV.out]
       exact hp
      have R2:Hid (Below w3.heap.size w3 w7):=(HB6.out.alloc hsz6 _).grown hg (by simp; omega) (fun x hx=>(G2.out.lt x hx).1)
      clear ho hg
      go_wp2
      go_roundw
      case rel=>
       refine ⟨q+1,by omega,by go_num,R2.out,R1.out,by rw [HF.out]; simp; have:=HFL.out; omega,?_⟩
       rw [HF.out,List.map_append,List.map_cons,List.map_nil,HKV.out]
       intro l hl
       rcases List.mem_append.1 hl with h | h
       ·exact HOK.out l h
       ·rw [List.mem_singleton] at h; subst h; exact HLL.out
      case measure=>simp [intOf]; omega
  ·have hqc':q=c:=by omega
   subst hqc'
   go_wp2
   go_ret
   refine ⟨M',C,k,sgn,HRD.out,_,rfl,?_,HOK.out,HB3.out.trans (HBQ.out.mono HB3.out.size)⟩
   exact HRQ.out.rws HB3.out.size
theorem kernelD_any0 (B c:Nat) (m:List (List Int)) (v:Value) (w:World) (hx:Mx c 60 m) (h4:c≤4) (hv:Mat B 22 3 w v m) (hm:m.length≤500) :
  Calls Tryz.prog 104 #[v,.int .i64 c] w fun e w'=>∃M' C k sgn,Red (mOf m) m.length c M' C k sgn∧∃u,e=.returned u∧Rws w.heap.size 22 3 w' u ((freesT k C c).map (kvec M' C c k))∧(∀l∈(freesT k C c).map (kvec M' C c k),l.length=c∧∀z∈l,z.natAbs≤1000000000000)∧Below w.heap.size w w':=
 kernelQ_any0 B c m v w hx (bdD hx h4) (fun k hk=>by
  have h5:fb 60 4+fb 60 4≤1000000000000:=by decide
  have m1:fb 60 k≤fb 60 4:=fb_mono (by decide) (by omega)
  have m2:fb 60 (k+1)≤fb 60 4:=fb_mono (by decide) (by omega)
  omega) hv hm
end Go.Proofs.YtdanomklbiidaaaGreatDoor
