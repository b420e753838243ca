import Derived.Test.YtkfdpcgmpbopnaaGreatDoorRefA
import Derived.Test.YtkfdpcgmpbopnaaGreatDoorLinAll
namespace Go.Proofs.YtkfdpcgmpbopnaaGreatDoor
open Go.RowKit
attribute [local go_sem ↓] Go.wp_at_zero Go.wp_at_succ
theorem Tryz.info4:(Tryz.prog.info? 4).map (fun i=>(i.zero,i.size,i.bytes))=some (some (.bool false),1,1):=by kernel_rfl
def fm (m:List (List Int)):List (Nat→Int):=m.map fun l j=>l.getD j 0
structure Sq (n Bd:Nat) (m:List (List Int)):Prop where
 len:m.length=n
 row:∀r∈m,n≤r.length
 bd:∀r∈m,∀j,j < n→(r.getD j 0).natAbs≤Bd
 small:Lin.fb Bd n≤1152921504606846976
 n64:n≤64
 pos:1≤Bd
theorem fb_mono {Bd : Nat} (h : 1 ≤ Bd) : ∀ {a b : Nat}, a ≤ b → Lin.fb Bd a ≤ Lin.fb Bd b := by
  intro a b hab
  induction b with
  | zero => have : a = 0 := by omega
            subst this; exact Nat.le_refl _
  | succ b ih =>
    by_cases e : a = b + 1
    · subst e; exact Nat.le_refl _
    · have := ih (by omega)
      simp only [Lin.fb]
      have h2 : 1 * Lin.fb Bd b ≤ (b + 1) * Bd * Lin.fb Bd b := Nat.mul_le_mul_right _ (Nat.mul_pos (by omega) (by omega))
      omega
theorem bool_restored {w w3:World} {g n:Nat} {t:TypeId} {f:Nat→Value} (h:w.rowIs g t n f) (h3:w3.rowIs g t n f) (ho:w3.os=w.os) (ht:w3.tape=w.tape) (hp:w3.output=w.output) (hs:w.heap.size≤w3.heap.size)
  (hb:∀b,b < w.heap.size→b≠g→w3.heap[b]?=w.heap[b]?):Below w.heap.size w w3:=by
 refine ⟨ho,ht,hp,hs,fun b hb'=>?_⟩
 by_cases e:b=g
 ·subst e
  obtain ⟨c,h1,h2,h4⟩:=h
  obtain ⟨c',h1',h2',h4'⟩:=h3
  rw [h1,h1']
  have:c=c':=by
   apply Array.ext
   ·omega
   ·intro i hi hi'
    have a1:=h4 i (by omega)
    have a2:=h4' i (by omega)
    rw [Array.getElem?_eq_getElem hi] at a1
    rw [Array.getElem?_eq_getElem hi'] at a2
    simp at a1 a2
    rw [a1,a2]
  rw [this]
 ·exact hb b hb' e
theorem rowIs_below {w w':World} {b N n:Nat} {t:TypeId} {f:Nat→Value} (h:w.rowIs b t n f) (hb:Below N w w') (hN:w.heap.size≤N):w'.rowIs b t n f:=
 h.of_block (hb.block b (Nat.lt_of_lt_of_le h.lt hN))
theorem Mat.setCell {B:Nat} {e2 e1 t:TypeId} {w:World} {v u:Value} {m:List (List Int)} {g k n:Nat} {f:Nat→Value} (h:Mat B e2 e1 w v m) (hr:w.rowIs g t n f) (hg:B≤g) (h1:t≠e1) (h2:t≠e2):Mat B e2 e1 (w.setCell ⟨g,k,none⟩ u) v m:=by
 obtain ⟨c,hc,_⟩:=hr
 obtain ⟨vs,q1,q2,q3⟩:=h
 have z:∀e,t≠e→∀cur,w.heap[g]?≠some (.cells cur e (0,0)):=by
  intro e he cur; rw [hc]; simp; intro _ hh; exact absurd hh he
 exact ⟨vs,q1,q2.setCell _ ⟨hg,z e2 h2⟩,fun i hi=>(q3 i hi).setCell _ ⟨hg,z e1 h1⟩⟩
def rowSum (n:Nat) (r:Nat→Int) (rs:List (Nat→Int)) (U:Nat→Bool) (k:Nat):Int:=
 Lin.sumN k fun j=>if U j then 0 else Lin.sg n U j*r j*Lin.od n rs (Lin.ins U j)
theorem rowSum_succ (n:Nat) (r:Nat→Int) (rs:List (Nat→Int)) (U:Nat→Bool) (k:Nat) :
  rowSum n r rs U (k+1)=rowSum n r rs U k+if U k then 0 else Lin.sg n U k*r k*Lin.od n rs (Lin.ins U k):=rfl
theorem cu_mono {U : Nat → Bool} {a b : Nat} (h : a ≤ b) : Lin.cu a U ≤ Lin.cu b U := by
  induction b with
  | zero => have : a = 0 := by omega
            subst this; exact Nat.le_refl _
  | succ b ih =>
    by_cases e : a = b + 1
    · subst e; exact Nat.le_refl _
    · have := ih (by omega); simp only [Lin.cu]; omega
theorem rowSum_bd {n Bd k:Nat} {r:Nat→Int} {rs:List (Nat→Int)} {U:Nat→Bool} (hr:∀j,j < n→(r j).natAbs≤Bd) (hrs:∀x∈rs,∀j,j < n→(x j).natAbs≤Bd) (hc:Lin.cu n U≤rs.length+1) (hk:k≤n) :
  (rowSum n r rs U k).natAbs≤Lin.fb Bd (rs.length+1):=by
 unfold rowSum
 refine Nat.le_trans (Lin.sum_bd (b:=Bd*Lin.fb Bd rs.length) fun j hj hU=>?_) ?_
 ·rw [Int.natAbs_mul,Int.natAbs_mul,Lin.sg_abs,Nat.one_mul]
  exact Nat.mul_le_mul (hr j (by omega)) (Lin.od_bd rs _ hrs (by have:=Lin.cu_ins (n:=n) (by omega) hU; omega))
 ·have h1:=cu_mono (U:=U) hk
  simp only [Lin.fb]
  rw [Nat.mul_assoc]; exact Nat.mul_le_mul_right _ (by omega)
theorem term_bd {n Bd j:Nat} {r:Nat→Int} {rs:List (Nat→Int)} {U:Nat→Bool} (hr:∀j,j < n→(r j).natAbs≤Bd) (hrs:∀x∈rs,∀j,j < n→(x j).natAbs≤Bd) (hc:Lin.cu n U≤rs.length+1) (hj:j < n) (hU:U j=false) :
  (Lin.od n rs (Lin.ins U j)).natAbs≤Lin.fb Bd rs.length∧(r j*Lin.od n rs (Lin.ins U j)).natAbs≤Lin.fb Bd (rs.length+1):=by
 have h1:=Lin.od_bd (n:=n) (B:=Bd) rs (Lin.ins U j) hrs (by have:=Lin.cu_ins (n:=n) hj hU; omega)
 refine ⟨h1,?_⟩
 rw [Int.natAbs_mul]
 have h2:=Nat.mul_le_mul (hr j hj) h1
 simp only [Lin.fb]
 have h3:1*(Bd*Lin.fb Bd rs.length)≤(rs.length+1)*(Bd*Lin.fb Bd rs.length):=Nat.mul_le_mul_right _ (by omega)
 rw [Nat.mul_assoc]; omega
theorem fm_drop {m:List (List Int)} {i:Nat} (h:i < m.length):fm (m.drop i)=(fun j=>(m.getD i []).getD j 0) :: fm (m.drop (i+1)):=by
 have e:m.drop i=m[i] :: m.drop (i+1):=(List.getElem_cons_drop (h:=h)).symm
 rw [e,show m.getD i []=m[i] by simp [h]]
 rfl
def OrdSaid (d:Nat):Prop:=∀(n Bd B0 g i:Nat) (m:List (List Int)) (U:Nat→Bool) (s:Int) (v:Value) (w:World),Sq n Bd m→i+d=n→B0≤g→Mat B0 22 3 w v m→
 w.rowIs g 4 n (fun j=>.bool (U j))→(s=1∨s=-1)→Lin.cu n U≤d→
 Calls Tryz.prog 82 #[v,.int .i64 i,.slice (some ⟨g,0,none⟩) n n,.int .i64 s] w fun e w'=>
  e=.returned (.int .i64 (s*Lin.od n (fm (m.drop i)) U))∧Below w.heap.size w w'
set_option maxRecDepth 100000 in
set_option maxHeartbeats 400000 in
theorem orders_zero:OrdSaid 0:=by
 intro n Bd B0 g i m U s v w hq hi hg hm hr hs hc
 obtain ⟨ao,cap,hvv,hlc,hcm⟩:=mat_open hm
 subst hvv
 have hil:i=m.length:=by have:=hq.len; omega
 have e1:fm (m.drop i)=[]:=by rw [hil,List.drop_length]; rfl
 have t0:((i:Int) == (m.length:Int))=true:=by simp [hil]
 have HE:Hid (fm (m.drop i)=[]):=e1
 clear hm hr hq e1 hil
 go_enter Tryz.func82,Tryz.ntmps82
 go_wp2
 go_ret
 exact ⟨ret_int (by rw [HE.out]; simp [Lin.od]),Below.refl _ _⟩
theorem sl_off {B:Nat} {e t:TypeId} {w:World} {b o n c g k:Nat} {xs:List Value} {f:Nat→Value} (h:Sl B e w (.slice (some ⟨b,o,none⟩) n c) xs) (hp:0 < xs.length) (hr:w.rowIs g t k f) (hg:B≤g) (hne:t≠e):b≠g:=by
 obtain ⟨ao,cap,hv,_,_,h3,_⟩:=h
 obtain ⟨b',o',hb,_,ht⟩:=h3 0 hp
 simp only [Value.slice.injEq] at hv
 obtain ⟨rfl,_,_⟩:=hv
 simp only [Option.some.injEq,Addr.mk.injEq] at hb
 obtain ⟨rfl,_,_⟩:=hb
 rintro rfl
 rcases ht with ht | ⟨cur,ht⟩
 ·omega
 ·obtain ⟨c',hc,_⟩:=hr
  rw [hc] at ht
  simp at ht
  exact hne ht.2
theorem mat_off {B:Nat} {w:World} {v:Value} {m:List (List Int)} {g n:Nat} {f:Nat→Value} (h:Mat B 22 3 w v m) {k:Nat} (hk:k < m.length) (hp:0 < (m.getD k []).length) (hr:w.rowIs g 4 n f) (hg:B≤g) :
  ∃b o cap b2 o2 cap2,v=.slice (some ⟨b,o,none⟩) m.length cap∧w.cell? ⟨b,o+k,none⟩=some (.slice (some ⟨b2,o2,none⟩) (m.getD k []).length cap2)∧b≠g∧b2≠g∧(m.getD k []).length≤cap2∧
   ∀j,j < (m.getD k []).length→w.cell? ⟨b2,o2+j,none⟩=some (.int .i64 ((m.getD k []).getD j 0)):=by
 have h':=h
 obtain ⟨vs,q1,q2,q3⟩:=h'
 obtain ⟨b,o,cap,u,hv,hc1,hcc,hu⟩:=mat_cell h hk
 have hu':=hu
 obtain ⟨b2,o2,cap2,hv2,hc2,_,hcell⟩:=hu'.at (by simpa using hp)
 simp only [ints_length] at hv2 hc2 hcell
 subst hv hv2
 refine ⟨b,o,cap,b2,o2,cap2,rfl,hcc,sl_off q2 (by omega) hr hg (by decide),sl_off hu (by simpa using hp) hr hg (by decide),hc2,fun j hj=>?_⟩
 rw [hcell j hj,ints_get _ _ hj]
theorem restore {w wa w2:World} {g k n:Nat} {U:Nat→Bool} (hk:k < n) (hU:U k=false) (h:w.rowIs g 4 n (fun j=>.bool (U j))) (hb:Below w.heap.size w wa) (ha:wa.rowIs g 4 n (fun j=>.bool (U j)))
  (h2:Below (wa.setCell ⟨g,k,none⟩ (.bool true)).heap.size (wa.setCell ⟨g,k,none⟩ (.bool true)) w2) :
  w2.cell? ⟨g,k,none⟩=some (.bool true)∧w2.frozen? ⟨g,k,none⟩=false∧Below w.heap.size w (w2.setCell ⟨g,k,none⟩ (.bool false)):=by
 have hsz:(wa.setCell ⟨g,k,none⟩ (.bool true)).heap.size=wa.heap.size:=by simp [World.setCell]
 have h3:w2.rowIs g 4 n (fun j=>if j=k then .bool true else .bool (U j)):=rowIs_below (ha.set k (.bool true)) h2 (Nat.le_refl _)
 refine ⟨?_,h3.frozen k,?_⟩
 ·have:=h3.cell hk; simpa using this
 ·have h4:(w2.setCell ⟨g,k,none⟩ (.bool false)).rowIs g 4 n (fun j=>.bool (U j)):=by
   refine (h3.set k (.bool false)).congr fun j hj=>?_
   by_cases e:j=k
   ·subst e; simp [hU]
   ·simp [e]
  refine bool_restored h h4 (h2.os.trans hb.os) (h2.tape.trans hb.tape) (h2.output.trans hb.output) ?_ fun b hb' hne=>?_
  ·have a1:=hb.size
   have a2:=h2.size
   have a3:(w2.setCell ⟨g,k,none⟩ (.bool false)).heap.size=w2.heap.size:=by simp [World.setCell]
   omega
  ·have a1:=hb.size
   rw [Below.heap_setCell _ _ _ _ hne,h2.block b (by omega),Below.heap_setCell _ _ _ _ hne]
   exact hb.block b hb'
theorem keep2 {wa W w2:World} {g k:Nat} {u v1 v2:Value} {a1 a2:Addr} (hb:Below W.heap.size W w2) (h1:a1.block≠g) (h2:a2.block≠g) (c1:wa.cell? a1=some v1) (c2:wa.cell? a2=some v2)
  (hW:W.heap=(wa.setCell ⟨g,k,none⟩ u).heap:=by rfl):Hid (w2.cell? a1=some v1∧w2.cell? a2=some v2):=by
 have hs:W.heap.size=wa.heap.size:=by rw [hW]; simp [World.setCell]
 have l1:=World.block_lt_of_cell? wa a1 c1
 have l2:=World.block_lt_of_cell? wa a2 c2
 have e:∀a:Addr,a.block≠g→W.cell? a=wa.cell? a:=by
  intro a ha
  refine World.cell?_of_block (w:=wa) ?_
  rw [hW]; exact Below.heap_setCell _ _ _ _ ha
 exact ⟨(hb.cell (by omega)).trans ((e a1 h1).trans c1),(hb.cell (by omega)).trans ((e a2 h2).trans c2)⟩
theorem sgn_cases (n:Nat) (U:Nat→Bool) (k:Nat) {s:Int} (hs:s=1∨s=-1):s*Lin.sg n U k=1∨s*Lin.sg n U k=-1:=by
 have:=Lin.sg_abs n U k
 rcases hs with rfl | rfl <;> omega
set_option maxRecDepth 100000 in
set_option maxHeartbeats 2000000 in
theorem orders_step (d:Nat) (ih:OrdSaid d):OrdSaid (d+1):=by
 intro n Bd B0 g i m U s v w hq hi hg hm hr hs hc
 obtain ⟨ao,cap,hvv,hlc,hcm⟩:=mat_open hm
 subst hvv
 have hln:=hq.len
 have hn64:=hq.n64
 have hil:i < m.length:=by omega
 have HIL:Hid (i < m.length):=hil
 have hmem:m.getD i []∈m:=by simp [hil]
 have hrl:=hq.row _ hmem
 have HQ:Hid (Sq n Bd m):=hq
 have HM:Hid (Mat B0 22 3 w (.slice ao m.length cap) m):=hm
 have HR:Hid (w.rowIs g 4 n (fun j=>.bool (U j))):=hr
 have HIH:Hid (OrdSaid d):=ih
 obtain ⟨rs,hrs⟩:∃rs,rs=fm (m.drop (i+1)):=⟨_,rfl⟩
 obtain ⟨r,hrr⟩:∃r:Nat→Int,r=fun j=>(m.getD i []).getD j 0:=⟨_,rfl⟩
 have HFM:Hid (fm (m.drop i)=r :: rs):=by rw [hrs,hrr]; exact fm_drop hil
 have HRS:Hid (rs=fm (m.drop (i+1))):=hrs
 have HRR:Hid (r=fun j=>(m.getD i []).getD j 0):=hrr
 have hrsl:rs.length=d:=by rw [hrs]; simp [fm]; omega
 have HRSL:Hid (rs.length=d):=hrsl
 have HRB:Hid (∀j,j < n→(r j).natAbs≤Bd):=by rw [hrr]; exact fun j hj=>hq.bd _ hmem j hj
 have HRSB:Hid (∀x∈rs,∀j,j < n→(x j).natAbs≤Bd):=by
  rw [hrs]; intro x hx j hj
  simp only [fm,List.mem_map] at hx
  obtain ⟨l,hl,rfl⟩:=hx
  exact hq.bd l (List.mem_of_mem_drop hl) j hj
 have HC:Hid (Lin.cu n U≤rs.length+1):=by rw [hrsl]; exact hc
 have hfb:Lin.fb Bd (rs.length+1)≤1152921504606846976:=Nat.le_trans (fb_mono hq.pos (by omega)) hq.small
 have t0:((i:Int) == (m.length:Int))=false:=by simp; omega
 have hnI:(m.length:Int)=(n:Int):=by omega
 subst hln
 obtain ⟨bm,om,cpm,br,orr,rc,hsm,hccm,hbg,hrg,hrc1,hcr⟩:=mat_off HM.out HIL.out (by omega) HR.out hg
 simp only [Value.slice.injEq] at hsm
 obtain ⟨rfl,_,rfl⟩:=hsm
 have HCR:Hid (∀j,j < m.length→w.cell? ⟨br,orr+j,none⟩=some (.int .i64 (r j))):=by
  rw [hrr]; exact fun j hj=>hcr j (by omega)
 have hbm:=lt_of_cell hccm
 have hbr:br < w.heap.size:=lt_of_cell (HCR.out 0 (by omega))
 clear hm hr hq ih hrs hrr hmem hrsl hc hnI hcr
 generalize hL:(m.getD i []).length=L at *
 have HLL:Hid ((m.getD i []).length=L):=hL
 clear hL
 go_enter Tryz.func82,Tryz.ntmps82
 go_wp2
 go_loopw [9,10] (fun x q wr=>∃k:Nat,k≤m.length∧q=.int .i64 k∧x=.int .i64 (s*rowSum m.length r rs U k)∧Below w.heap.size w wr) (fun _ q _=>m.length-(intOf q).toNat)
 case atStart=>exact ⟨0,Nat.zero_le _,rfl,by simp [rowSum,Lin.sumN],Below.refl _ _⟩
 case round=>
  obtain ⟨k,hk,rfl,rfl,hbel⟩:=hrel
  obtain ⟨wa,rfl⟩:∃wa,wa=wr:=⟨wr,rfl⟩
  have HB:Hid (Below w.heap.size w wa):=hbel
  have HRa:Hid (wa.rowIs g 4 m.length (fun j=>.bool (U j))):=rowIs_below HR.out hbel (Nat.le_refl _)
  have HMa:Hid (Mat B0 22 3 wa (.slice (some ⟨bm,om,none⟩) m.length cap) m):=HM.out.below hbel (Nat.le_refl _)
  have hb1:=rowSum_bd (k:=k) HRB.out HRSB.out HC.out hk
  clear hbel
  by_cases hlt:k < m.length
  ·have hcl:=HRa.out.cell hlt
   have hb2:=rowSum_bd (k:=k+1) HRB.out HRSB.out HC.out (by omega)
   cases hU:U k
   ·rw [hU] at hcl
    have hfz:=HRa.out.frozen k
    have hca:wa.cell? ⟨bm,om+i,none⟩=some (.slice (some ⟨br,orr,none⟩) L rc):=(HB.out.cell hbm).trans hccm
    have hcb:wa.cell? ⟨br,orr+k,none⟩=some (.int .i64 (r k)):=(HB.out.cell hbr).trans (HCR.out k hlt)
    obtain ⟨tb1,tb2⟩:=term_bd HRB.out HRSB.out HC.out hlt hU
    have HU:Hid (U k=false):=hU
    generalize hA:s*rowSum m.length r rs U k=A
    have HA:Hid (s*rowSum m.length r rs U k=A):=hA
    have hA1 : -1152921504606846976≤A∧A≤1152921504606846976:=by
     rw [←hA]; rcases hs with rfl | rfl <;> omega
    clear hA hU
    go_wp2
    go_loop [11,12] (fun t q=>∃j:Nat,k+1≤j∧j≤m.length∧q=.int .i64 j∧t=.int .i64 (s*Lin.sg j U k)) (fun _ q=>m.length-(intOf q).toNat)
    case atStart=>exact ⟨k+1,Nat.le_refl _,by omega,by go_num,by rw [Lin.sg_last U (by omega)]; simp⟩
    case round=>
     obtain ⟨j,hj1,hj2,rfl,rfl⟩:=hrel
     have hsc:=sgn_cases j U k hs
     by_cases hjl:j < m.length
     ·have hclj:=HRa.out.cell hjl
      have hsn:s*Lin.sg (j+1) U k=if U j then-(s*Lin.sg j U k) else s*Lin.sg j U k:=by
       simp only [Lin.sg]
       cases U j
       ·simp
       ·rw [if_pos ⟨by omega,rfl⟩,if_pos rfl,Int.mul_neg]
      have HSN:Hid (s*Lin.sg (j+1) U k=if U j then-(s*Lin.sg j U k) else s*Lin.sg j U k):=hsn
      clear hsn
      generalize s*Lin.sg j U k=tt at *
      have hsc1 : -1≤tt:=by omega
      have hsc2:tt≤1:=by omega
      clear hsc
      cases hUj:U j
      ·rw [hUj] at hclj
       go_wp2
       go_round
       case rel=>exact ⟨j+1,by omega,by omega,by go_num,by rw [HSN.out,hUj]; simp⟩
       case measure=>simp [intOf]; omega
      ·rw [hUj] at hclj
       go_wp2
       go_round
       case rel=>exact ⟨j+1,by omega,by omega,by go_num,by rw [HSN.out,hUj]; simp⟩
       case measure=>simp [intOf]; omega
     ·have hjn:j=m.length:=by omega
      subst hjn
      have HAS:Hid (s*rowSum m.length r rs U (k+1)=A+r k*(s*Lin.sg m.length U k*Lin.od m.length rs (Lin.ins U k))):=by
       show _=_
       rw [rowSum_succ,HU.out,←HA.out]; simp only [Bool.false_eq_true,if_false]; grind
      generalize s*Lin.sg m.length U k=t at *
      have HX:Hid (t*Lin.od m.length rs (Lin.ins U k)=t*Lin.od m.length rs (Lin.ins U k)):=rfl
      obtain ⟨pv,hpv⟩:∃pv,pv=t*Lin.od m.length rs (Lin.ins U k):=⟨_,rfl⟩
      have HPV:Hid (pv=t*Lin.od m.length rs (Lin.ins U k)):=hpv
      have hp1:(r k*pv).natAbs≤1152921504606846976:=by
       have e:(r k*pv).natAbs=(r k*Lin.od m.length rs (Lin.ins U k)).natAbs:=by
        have ht1:t.natAbs=1:=by omega
        rw [hpv,Int.natAbs_mul,Int.natAbs_mul,Int.natAbs_mul,ht1,Nat.one_mul]
       rw [e]; omega
      rw [←hpv] at HAS
      have hts:t=1∨t=-1:=hsc
      have HTS:Hid (t=1∨t=-1):=hts
      clear hsc hts hpv HX tb1 tb2 hb1 hb2
      generalize r k=rk at *
      by_cases hz:rk=0
      ·have hzb:(rk != 0)=false:=by simp [hz]
       have HZ:Hid (rk=0):=hz
       clear hz
       go_wp2
       go_roundw
       case rel=>
        obtain ⟨_,_,h3⟩:=restore (w2:=wa.setCell ⟨g,k,none⟩ (.bool true)) hlt HU.out HR.out HB.out HRa.out (Below.refl _ _)
        exact ⟨k+1,by omega,by go_num,by rw [HAS.out,HZ.out]; simp,h3⟩
       case measure=>simp [intOf]; omega
      ·have hzb:(rk != 0)=true:=by simp [hz]
       clear hz
       have HCALL:Hid (∀W:World,W.heap=(wa.setCell ⟨g,k,none⟩ (.bool true)).heap→Calls Tryz.prog 82 #[.slice (some ⟨bm,om,none⟩) m.length cap,.int .i64 (IntKind.i64.wrap ((i:Int)+1)),.slice (some ⟨g,0,none⟩) m.length m.length,.int .i64 t] W
         fun e w'=>e=.returned (.int .i64 pv)∧Below W.heap.size W w'):=by
        intro W hW
        have e1:IntKind.i64.wrap ((i:Int)+1)=((i+1:Nat):Int):=by
         rw [IntWalk.i64_left]; rw [IntWalk.wrap64_in _ ⟨by omega,by omega⟩]; omega
        have hr1:W.rowIs g 4 m.length (fun j=>.bool (Lin.ins U k j)):=by
         refine (((HRa.out.set k (.bool true)).of_block (w':=W) (by rw [hW])).congr fun j hj=>?_)
         unfold Lin.ins
         by_cases e:j=k <;> simp [e]
        have hm1:Mat B0 22 3 W (.slice (some ⟨bm,om,none⟩) m.length cap) m:=by
         have hm0:=HMa.out.setCell (k:=k) (u:=.bool true) HRa.out hg (by decide) (by decide)
         obtain ⟨vs,q1,q2,q3⟩:=hm0
         have mv:∀e v xs,Sl B0 e (wa.setCell ⟨g,k,none⟩ (.bool true)) v xs→Sl B0 e W v xs:=fun e v xs h=>h.move fun b _ ht=>⟨by rw [hW],ht⟩
         exact ⟨vs,q1,mv _ _ _ q2,fun i hi=>mv _ _ _ (q3 i hi)⟩
        have hc1:Lin.cu m.length (Lin.ins U k)≤d:=by
         have h1:=Lin.cu_ins hlt HU.out
         have h2:=HC.out
         rw [HRSL.out] at h2
         omega
        have h:=HIH.out m.length Bd B0 g (i+1) m (Lin.ins U k) t _ W HQ.out (by omega) hg hm1 hr1 HTS.out hc1
        rw [←HRS.out,←HPV.out] at h
        rw [e1]; exact h
       have K0:Hid ((wa.setCell ⟨g,k,none⟩ (.bool true)).cell? ⟨bm,om+i,none⟩=some (.slice (some ⟨br,orr,none⟩) L rc)∧(wa.setCell ⟨g,k,none⟩ (.bool true)).cell? ⟨br,orr+k,none⟩=some (.int .i64 rk)):=
        keep2 (W:=wa.setCell ⟨g,k,none⟩ (.bool true)) (Below.refl _ _) hbg hrg hca hcb
       have k1:=K0.out.1
       have k2:=K0.out.2
       have hkI0:(0:Int)≤(k:Int):=by omega
       have hkI1:(k:Int) < (L:Int):=by omega
       have hiI0:(0:Int)≤(i:Int):=by omega
       have hiI1:(i:Int) < (m.length:Int):=by omega
       go_wp2
       go_region_held3 (fun w'=>w'.cell? ⟨bm,om+i,none⟩=some (.slice (some ⟨br,orr,none⟩) L rc)∧w'.cell? ⟨br,orr+k,none⟩=some (.int .i64 rk)) (first | go_keep | exact KS.out | exact ⟨k1,k2⟩)
        ((go_at_call 82; refine (HCALL.out _ (by rfl)).mono ?_; rintro e w2 ⟨rfl,hb2⟩; have KS:Hid (w2.cell? ⟨bm,om+i,none⟩=some (.slice (some ⟨br,orr,none⟩) L rc)∧w2.cell? ⟨br,orr+k,none⟩=some (.int .i64 rk)):=keep2 hb2 hbg hrg hca hcb))
       have e2:IntKind.i64.wrap (A+IntKind.i64.wrap (rk*pv))=A+rk*pv:=by
        rw [IntWalk.i64_left,IntWalk.i64_left,IntWalk.wrap64_in (rk*pv) ⟨by omega,by omega⟩,IntWalk.wrap64_in _ ⟨by omega,by omega⟩]
       rw [e2]
       have R:=restore (w2:=w2) hlt HU.out HR.out HB.out HRa.out ⟨hb2.os,hb2.tape,hb2.output,hb2.size,hb2.block⟩
       have hd1:=R.1
       have hd2:=R.2.1
       have HD3:Hid (Below w.heap.size w (w2.setCell ⟨g,k,none⟩ (.bool false))):=R.2.2
       clear R hb2 KS k1 k2 K0 e2 HCALL
       go_wp2
       go_roundw
       case rel=>exact ⟨k+1,by omega,by go_num,by rw [HAS.out],HD3.out⟩
       case measure=>simp [intOf]; omega
   ·rw [hU] at hcl
    go_wp2
    go_roundw
    case rel=>exact ⟨k+1,by omega,by go_num,by rw [rowSum_succ,hU]; simp,HB.out⟩
    case measure=>simp [intOf]; omega
  ·go_wp2
   go_ret
   have e:k=m.length:=by omega
   refine ⟨ret_int ?_,HB.out⟩
   rw [HFM.out,e]; rfl
theorem orders_any (d:Nat):OrdSaid d:=by
 induction d with
 | zero=>exact orders_zero
 | succ d ih=>exact orders_step d ih
def detL (m:List (List Int)):Int:=Lin.od m.length (fm m) fun _=>false
set_option maxRecDepth 100000 in
set_option maxHeartbeats 400000 in
theorem det_any (Bd B:Nat) (m:List (List Int)) (v:Value) (w:World) (hq:Sq m.length Bd m) (hm:Mat B 22 3 w v m) :
  Calls Tryz.prog 61 #[v] w fun e w'=>e=.returned (.int .i64 (detL m))∧Below w.heap.size w w':=by
 obtain ⟨ao,cap,hvv,hlc,hcm⟩:=mat_open hm
 subst hvv
 have hn:=hq.n64
 have HM:Hid (Mat B 22 3 w (.slice ao m.length cap) m):=hm
 have HQ:Hid (Sq m.length Bd m):=hq
 clear hm hq
 have hmk:=run_make_row' (P:=Tryz.prog) 98 4 (.bool false) 1 Tryz.underlying98 Tryz.info4 rfl .i64 .i64 m.length (by omega) (by omega)
 have hal:=(Below.refl w.heap.size w).alloc (Nat.le_refl _) (.cells (madeCells #[.bool false] m.length) 4)
 have HAL:Hid (Below w.heap.size w (w.alloc (.cells (madeCells #[.bool false] m.length) 4))):=hal
 clear hal
 go_enter Tryz.func61,Tryz.ntmps61
 go_wp2_with fail
 have h:=orders_any m.length m.length Bd w.heap.size w.heap.size 0 m (fun _=>false) 1 _ (w.alloc (.cells (madeCells #[.bool false] m.length) 4)) HQ.out (by omega) (Nat.le_refl _)
  ((HM.out.any (Nat.le_refl _)).below HAL.out (Nat.le_refl _)) (World.rowIs_made w (.bool false) m.length 4) (Or.inl rfl) (by rw [Lin.cu_none]; exact Nat.le_refl _)
 refine h.mono ?_
 rintro e w2 ⟨rfl,hb2⟩
 have HB2:Hid (Below w.heap.size w w2):=HAL.out.trans (hb2.mono (by simp))
 clear hb2 h
 go_wp2
 go_ret
 exact ⟨ret_int (by simp [detL]),HB2.out⟩
end Go.Proofs.YtkfdpcgmpbopnaaGreatDoor
namespace Go.Proofs.YtkfdpcgmpbopnaaGreatDoor
open Go.RowKit
structure Mx (c Bd:Nat) (m:List (List Int)):Prop where
 row:∀r∈m,r.length=c
 bd:∀r∈m,∀z∈r,z.natAbs≤Bd
 c5:c≤5
 c1:1≤c
 pos:1≤Bd
 small:Lin.fb Bd c≤1152921504606846976
theorem chosen_mem:∀k n q,q∈chosenL k n→(∀i,i < k→0≤q.getD i 0∧q.getD i 0 < (n:Int))∧∀i j,i < j→j < k→q.getD i 0 < q.getD j 0:=by
 intro k
 induction k with
 | zero=>intro n q h; exact ⟨fun i hi=>by omega,fun i j _ hj=>by omega⟩
 | succ k ih=>
  intro n q h
  simp only [chosenL,List.mem_flatMap,List.mem_map,List.mem_range'_1] at h
  obtain ⟨v,hv,l,hl,rfl⟩:=h
  have hll:=chosen_row k v l hl
  obtain ⟨h1,h2⟩:=ih v l hl
  have e1:∀i,i < k→(l ++ [(v:Int)]).getD i 0=l.getD i 0:=by
   intro i hi; simp only [List.getD_eq_getElem?_getD]; rw [List.getElem?_append_left (by omega)]
  have e2:(l ++ [(v:Int)]).getD k 0=v:=by
   simp only [List.getD_eq_getElem?_getD]; rw [List.getElem?_append_right (by omega)]; simp [hll]
  refine ⟨fun i hi=>?_,fun i j hij hj=>?_⟩
  ·by_cases e:i < k
   ·rw [e1 i e]; have:=h1 i e; omega
   ·rw [show i=k by omega,e2]; omega
  ·by_cases e:j < k
   ·rw [e1 i (by omega),e1 j e]; exact h2 i j hij e
   ·rw [show j=k by omega,e2,e1 i (by omega)]; exact (h1 i (by omega)).2
theorem chosen_all:∀k n K,Lin.Rising k n K→((List.range k).map fun i=>(K i:Int))∈chosenL k n:=by
 intro k
 induction k with
 | zero=>intro n K _; simp [chosenL]
 | succ k ih=>
  intro n K h
  simp only [chosenL,List.mem_flatMap,List.mem_map,List.mem_range'_1]
  have hk:k≤K k:=by
   have:∀i,i < k+1→i≤K i:=by
    intro i
    induction i with
    | zero=>intro _; omega
    | succ i ii=>intro hi; have:=ii (by omega); have:=h.1 i (i+1) (by omega) hi; omega
   exact this k (by omega)
  refine ⟨K k,⟨hk,by have:=h.2 k (by omega); omega⟩,_,ih (K k) K ⟨fun i j hij hj=>h.1 i j hij (by omega),fun i hi=>h.1 i k hi (by omega)⟩,?_⟩
  simp [List.range_succ]
def freeL (c:Nat) (m:List (List Int)):Bool:=m.length == 0 || (decide (m.length≤c) && (chosenL m.length c).any fun q=>detL (colsL m q) != 0)
def toK (q:List Int):Nat→Nat:=fun i=>(q.getD i 0).toNat
theorem det_cols {m:List (List Int)} {q:List Int} (hq:q.length=m.length):detL (colsL m q)=Lin.od (fm m).length (Lin.cols (fm m) (toK q)) fun _=>false:=by
 unfold detL
 rw [colsL_length,show (fm m).length=m.length by simp [fm]]
 refine Lin.od_congr (by simp [fm,colsL,Lin.cols]) (fun i hi j hj=>?_) _
 have hi':i < m.length:=by simpa [fm,colsL] using hi
 simp [fm,colsL,Lin.cols,hi',toK,hq,hj]
theorem toK_rising {k n:Nat} {q:List Int} (h:q∈chosenL k n):Lin.Rising k n (toK q):=by
 obtain ⟨h1,h2⟩:=chosen_mem k n q h
 refine ⟨fun i j hij hj=>?_,fun i hi=>?_⟩
 ·have a1:=h1 i (by omega)
  have a2:=h2 i j hij hj
  unfold toK; omega
 ·have a1:=h1 i hi
  unfold toK; omega
theorem freeL_iff {c:Nat} {m:List (List Int)} : freeL c m=true↔Lin.FreeP c (fm m):=by
 have hfl:(fm m).length=m.length:=by simp [fm]
 constructor
 ·intro h
  simp only [freeL,Bool.or_eq_true,beq_iff_eq,Bool.and_eq_true,decide_eq_true_eq,List.any_eq_true] at h
  rcases h with h | ⟨_,q,hq,hd⟩
  ·have:m=[]:=List.eq_nil_of_length_eq_zero h
   subst this
   exact ⟨id,⟨fun _ _ _ h=>absurd h (by simp [fm]),fun _ h=>absurd h (by simp [fm])⟩,by simp [fm,Lin.cols,Lin.od]⟩
  ·refine ⟨toK q,by rw [hfl]; exact toK_rising hq,?_⟩
   rw [←det_cols (chosen_row _ _ _ hq)]
   simpa using hd
 ·rintro ⟨K,hK,hod⟩
  rw [hfl] at hK
  simp only [freeL,Bool.or_eq_true,beq_iff_eq,Bool.and_eq_true,decide_eq_true_eq,List.any_eq_true]
  right
  have hle:m.length≤c:=by
   by_cases h0:m.length=0
   ·omega
   ·have:∀i,i < m.length→i≤K i:=by
     intro i
     induction i with
     | zero=>intro _; omega
     | succ i ii=>intro hi; have:=ii (by omega); have:=hK.1 i (i+1) (by omega) hi; omega
    have a1:=this (m.length-1) (by omega)
    have a2:=hK.2 (m.length-1) (by omega)
    omega
  refine ⟨hle,_,chosen_all _ _ K hK,?_⟩
  rw [det_cols (by simp)]
  have e:Lin.od (fm m).length (Lin.cols (fm m) (toK ((List.range m.length).map fun i=>(K i:Int)))) (fun _=>false)=Lin.od (fm m).length (Lin.cols (fm m) K) (fun _=>false):=by
   refine Lin.od_congr (by simp [Lin.cols]) (fun i hi j hj=>?_) _
   have hi':i < m.length:=by simpa [Lin.cols,fm] using hi
   have hj':j < m.length:=by rw [hfl] at hj; exact hj
   simp [Lin.cols,fm,hi',toK,hj']
  rw [e]
  simpa using hod
theorem sq_cols {c Bd:Nat} {m:List (List Int)} {q:List Int} (h:Mx c Bd m) (hm:m.length≤c) (hq:q∈chosenL m.length c):Sq (colsL m q).length Bd (colsL m q):=by
 have hl:=chosen_row _ _ _ hq
 have hc5:=h.c5
 rw [colsL_length]
 refine ⟨colsL_length m q,fun r hr=>?_,fun r hr j hj=>?_,Nat.le_trans (fb_mono h.pos hm) h.small,by omega,h.pos⟩
 ·simp only [colsL,List.mem_map] at hr
  obtain ⟨r',_,rfl⟩:=hr
  simp [hl]
 ·simp only [colsL,List.mem_map] at hr
  obtain ⟨r',hr',rfl⟩:=hr
  have e:(q.map fun x=>r'.getD x.toNat 0).getD j 0=r'.getD (toK q j) 0:=by
   simp [toK,hl,hj]
  rw [e]
  have hlt:=(toK_rising hq).2 j hj
  have:r'.getD (toK q j) 0∈r':=by
   have:toK q j < r'.length:=by rw [h.row r' hr']; exact hlt
   simp [this]
  exact h.bd r' hr' _ this
set_option maxRecDepth 100000 in
set_option maxHeartbeats 1600000 in
theorem free_any (c Bd B:Nat) (m:List (List Int)) (v:Value) (w:World) (hx:Mx c Bd m) (hm:Mat B 22 3 w v m) (hml:m.length≤1000) :
  Calls Tryz.prog 42 #[v] w fun e w'=>e=.returned (.bool (freeL c m))∧Below w.heap.size w w':=by
 obtain ⟨ao,cap,hvv,hlc,hcm⟩:=mat_open hm
 subst hvv
 have hc5:=hx.c5
 have HM:Hid (Mat B 22 3 w (.slice ao m.length cap) m):=hm
 have HX:Hid (Mx c Bd m):=hx
 by_cases h0:m.length=0
 ·have t0:((m.length:Int) == 0)=true:=by simp [h0]
  have hf:freeL c m=true:=by simp [freeL,h0]
  have HF:Hid (freeL c m=true):=hf
  clear hm hx h0 hf
  go_enter Tryz.func42,Tryz.ntmps42
  go_wp2
  go_ret
  exact ⟨ret_bool HF.out.symm,Below.refl _ _⟩
 ·have t0:((m.length:Int) == 0)=false:=beq_eq_false_iff_ne.2 (by omega)
  have hb0:(m.length == 0)=false:=beq_eq_false_iff_ne.2 h0
  have HB0:Hid ((m.length == 0)=false):=hb0
  have hpos:0 < m.length:=by omega
  clear hb0
  obtain ⟨b,o,cp,r1,hs,hc1,hcc,hr1⟩:=mat_cell hm (k:=0) (by omega)
  simp only [Value.slice.injEq] at hs
  obtain ⟨rfl,_,rfl⟩:=hs
  obtain ⟨ro,rc,hrv,hrc1,hrc2⟩:=sl_open hr1
  have hrl:(m.getD 0 []).length=c:=hx.row _ (by simp [show 0 < m.length by omega])
  rw [hrl] at hrv hrc1
  subst hrv
  rw [Nat.add_zero] at hcc
  clear hm hx hr1 hrl
  by_cases hle:c < m.length
  ·have hf:freeL c m=false:=by rw [freeL,HB0.out,decide_eq_false (by omega)]; rfl
   have HF:Hid (freeL c m=false):=hf
   clear hf h0
   go_enter Tryz.func42,Tryz.ntmps42
   go_wp2
   go_ret
   exact ⟨ret_bool HF.out.symm,Below.refl _ _⟩
  ·have hf:freeL c m=(chosenL m.length c).any fun q=>detL (colsL m q) != 0:=by rw [freeL,HB0.out,decide_eq_true (by omega)]; rfl
   have HF:Hid (freeL c m=(chosenL m.length c).any fun q=>detL (colsL m q) != 0):=hf
   have hm5:m.length≤5:=by omega
   have HMC:Hid (m.length≤c):=(show m.length≤c by omega)
   have tle:decide (c < m.length)=false:=decide_eq_false (by omega)
   clear hf h0
   go_enter Tryz.func42,Tryz.ntmps42
   go_wp2_with fail
   refine (chosen_any m.length hm5 c w (by omega)).mono ?_
   rintro e w1 ⟨cv,rfl,hfr,hb1⟩
   have HC:Hid (Mat w.heap.size 22 3 w1 cv (chosenL m.length c)):=hfr.rws.mat (Nat.le_refl _)
   have HB1:Hid (Below w.heap.size w w1):=hb1
   clear hfr hb1 hcc
   obtain ⟨co,cc,hcv,hcc1,hcc2⟩:=mat_open HC.out
   subst hcv
   go_wp2
   go_loopw [5] (fun i wr=>∃k:Nat,k≤(chosenL m.length c).length∧i=.int .i64 k∧((chosenL m.length c).take k).any (fun q=>detL (colsL m q) != 0)=false∧Below w1.heap.size w1 wr) (fun i _=>(chosenL m.length c).length-(intOf i).toNat)
   case atStart=>exact ⟨0,Nat.zero_le _,rfl,by simp,Below.refl _ _⟩
   case round=>
    obtain ⟨k,hk,rfl,hno,hbel⟩:=hrel
    have HN:Hid (((chosenL m.length c).take k).any (fun q=>detL (colsL m q) != 0)=false):=hno
    have HB:Hid (Below w1.heap.size w1 wr):=hbel
    clear hno hbel
    by_cases hlt:k < (chosenL m.length c).length
    ·obtain ⟨b2,o2,cp2,r2,hs2,hc2,hcc3,hr2⟩:=mat_cell (HC.out.below HB.out (Nat.le_refl _)) hlt
     simp only [Value.slice.injEq] at hs2
     obtain ⟨rfl,_,rfl⟩:=hs2
     obtain ⟨q,hq⟩:∃q,q=(chosenL m.length c).getD k []:=⟨_,rfl⟩
     have hqm:q∈chosenL m.length c:=by rw [hq]; simp [hlt]
     have HQM:Hid (q∈chosenL m.length c):=hqm
     have HQK:Hid (q=(chosenL m.length c).getD k []):=hq
     rw [←hq] at hr2
     have HR2:Hid (Sl w.heap.size 3 wr r2 (ints q)):=hr2
     have HMr:Hid (Mat w.heap.size 22 3 wr (.slice (some ⟨b,o,none⟩) m.length cap) m):=((HM.out.any (Nat.le_refl _)).below HB1.out (Nat.le_refl _)).below HB.out (Nat.le_refl _)
     clear hq hqm hr2
     go_wp2_with fail
     refine (columns_any w.heap.size m q _ _ wr HMr.out HR2.out (by omega) (by rw [chosen_row _ _ _ HQM.out]; omega) ?_).mono ?_
     ·intro x hx
      obtain ⟨i,hi,rfl⟩:=List.mem_iff_getElem.1 hx
      have hh:=(chosen_mem _ _ _ HQM.out).1 i (by rw [←chosen_row _ _ _ HQM.out]; exact hi)
      have e:q.getD i 0=q[i]:=by simp [hi]
      rw [e] at hh
      exact ⟨hh.1,fun r hr=>by rw [HX.out.row r hr]; exact hh.2⟩
     rintro e w2 ⟨xv,rfl,hrw,hb2⟩
     have HXV:Hid (Mat wr.heap.size 22 3 w2 xv (colsL m q)):=hrw.mat (Nat.le_refl _)
     have HB2:Hid (Below wr.heap.size wr w2):=hb2
     clear hrw hb2
     go_wp2_with fail
     refine (det_any Bd wr.heap.size (colsL m q) xv w2 (sq_cols HX.out HMC.out HQM.out) HXV.out).mono ?_
     rintro e w3 ⟨rfl,hb3⟩
     have HB3:Hid (Below w1.heap.size w1 w3):=(HB.out.trans (HB2.out.mono (HB.out.size))).trans (hb3.mono (Nat.le_trans HB.out.size HB2.out.size))
     clear hb3
     have hsn:((chosenL m.length c).take (k+1)).any (fun q=>detL (colsL m q) != 0)=(detL (colsL m q) != 0):=by
      rw [List.take_succ_eq_append_getElem hlt,List.any_append,HN.out,HQK.out]; simp [hlt]
     have HSN:Hid (((chosenL m.length c).take (k+1)).any (fun q=>detL (colsL m q) != 0)=(detL (colsL m q) != 0)):=hsn
     clear hsn
     generalize detL (colsL m q)=D at *
     by_cases hD:D=0
     ·have hDb:(D != 0)=false:=by simp [hD]
      clear hD
      go_wp2
      go_roundw
      case rel=>exact ⟨k+1,by omega,by go_num,by rw [HSN.out,hDb],HB3.out⟩
      case measure=>simp [intOf]; omega
     ·have hDb:(D != 0)=true:=by simp [hD]
      clear hD
      go_wp2
      go_ret
      refine ⟨ret_bool (Eq.symm ?_),HB1.out.trans (HB3.out.mono HB1.out.size)⟩
      rw [HF.out]
      have h1:=HSN.out
      rw [hDb] at h1
      obtain ⟨x,hx1,hx2⟩:=List.any_eq_true.1 h1
      exact List.any_eq_true.2 ⟨x,List.mem_of_mem_take hx1,hx2⟩
    ·go_wp2
     go_ret
     refine ⟨ret_bool (Eq.symm ?_),HB1.out.trans (HB.out.mono HB1.out.size)⟩
     rw [HF.out,←HN.out,List.take_of_length_le (by omega)]
end Go.Proofs.YtkfdpcgmpbopnaaGreatDoor
namespace Go.Proofs.YtkfdpcgmpbopnaaGreatDoor
open Go.RowKit
attribute [local go_sem ↓] Go.wp_at_zero Go.wp_at_succ
def pickL (c:Nat) (m:List (List Int)):List (List Int):=m.foldl (fun h r=>if freeL c (h ++ [r]) then h ++ [r] else h) []
theorem pickL_snoc (c:Nat) (m:List (List Int)) (k:Nat) (hk:k < m.length) :
  pickL c (m.take (k+1))=if freeL c (pickL c (m.take k) ++ [m.getD k []]) then pickL c (m.take k) ++ [m.getD k []] else pickL c (m.take k):=by
 rw [List.take_succ_eq_append_getElem hk]; unfold pickL; rw [List.foldl_append]; simp [hk]
theorem pickL_mem {c:Nat} {m:List (List Int)} {r:List Int} (h:r∈pickL c m):r∈m:=by
 have:∀(m h:List (List Int)) (r:List Int),r∈m.foldl (fun h r=>if freeL c (h ++ [r]) then h ++ [r] else h) h→r∈h∨r∈m:=by
  intro m
  induction m with
  | nil=>intro h r hr; exact Or.inl hr
  | cons x m ih=>
   intro h r hr
   rcases ih _ _ hr with h1 | h1
   ·have h1:r∈(if freeL c (h ++ [x])=true then h ++ [x] else h):=h1
    by_cases hf:freeL c (h ++ [x])=true
    ·rw [if_pos hf] at h1
     rcases List.mem_append.1 h1 with h2 | h2
     ·exact Or.inl h2
     ·simp at h2; exact Or.inr (by simp [h2])
    ·rw [if_neg hf] at h1; exact Or.inl h1
   ·exact Or.inr (by simp [h1])
 rcases this m [] r h with h | h
 ·simp at h
 ·exact h
theorem pickL_len (c:Nat) (m:List (List Int)):(pickL c m).length≤m.length:=by
 have:∀(m h:List (List Int)),(m.foldl (fun h r=>if freeL c (h ++ [r]) then h ++ [r] else h) h).length≤h.length+m.length:=by
  intro m
  induction m with
  | nil=>intro h; simp
  | cons x m ih=>
   intro h
   have:=ih (if freeL c (h ++ [x]) then h ++ [x] else h)
   simp only [List.foldl_cons,List.length_cons]
   by_cases hf:freeL c (h ++ [x])=true
   ·rw [if_pos hf] at this ⊢; simp at this; omega
   ·rw [if_neg hf] at this ⊢; omega
 have:=this m []
 simpa [pickL] using this
theorem fm_append (a b:List (List Int)):fm (a ++ b)=fm a ++ fm b:=by simp [fm]
theorem pick_greedy (c:Nat) (m:List (List Int)):Lin.Greedy c (fm m) (fm (pickL c m)):=by
 have:∀(m h l:List (List Int)),Lin.Greedy c (fm l) (fm h)→Lin.Greedy c (fm (l ++ m)) (fm (m.foldl (fun h r=>if freeL c (h ++ [r]) then h ++ [r] else h) h)):=by
  intro m
  induction m with
  | nil=>intro h l hg; simpa using hg
  | cons x m ih=>
   intro h l hg
   have e:l ++ x :: m=(l ++ [x]) ++ m:=by simp
   rw [e,List.foldl_cons]
   apply ih
   by_cases hf:freeL c (h ++ [x])=true
   ·rw [if_pos hf,fm_append,fm_append]
    exact hg.more (by have:=freeL_iff.1 hf; rwa [fm_append] at this)
   ·rw [if_neg hf,fm_append]
    refine hg.less fun hp=>hf (freeL_iff.2 ?_)
    rw [fm_append]; exact hp
 exact this m [] [] (Lin.Greedy.nil c)
theorem Mx.sub {c Bd:Nat} {m l:List (List Int)} (h:Mx c Bd m) (hs:∀r∈l,r∈m):Mx c Bd l:=
 ⟨fun r hr=>h.row r (hs r hr),fun r hr=>h.bd r (hs r hr),h.c5,h.c1,h.pos,h.small⟩
theorem emp_own (w:World) (M:Nat) (hM:M≤w.heap.size):(w.alloc (.cells #[] 22)).ownsRow M 22 1 (.slice (some ⟨w.heap.size,0,none⟩) 0 0) 0 []:=
 World.ownsRow_made w #[] 0 hM (by simp [maxLen]) (by simp)
theorem cells1 {B:Nat} {e:TypeId} {w:World} {a:Addr} {n cap:Nat} {xs:List Value} (h:Sl B e w (.slice (some a) n cap) xs) (o:Obj):∀j u,xs[j]?=some u→(w.alloc o).cell? (a.add j)=some u:=sl_cells h o
theorem cells2 {B:Nat} {e:TypeId} {w:World} {a:Addr} {n cap:Nat} {xs:List Value} (h:Sl B e w (.slice (some a) n cap) xs) (o o2:Obj):∀j u,xs[j]?=some u→((w.alloc o).alloc o2).cell? (a.add j)=some u:=sl_cells (h.alloc o) o2
theorem cells_one {B n:Nat} {w:World} {h:List (List Int)} {vs:List Value} (h1:vs.length=n) (h3:∀i,i < n→Sl B 3 w (vs.getD i (.slice none 0 0)) (ints (h.getD i []))):∀u∈vs,u.oneCell'=true:=by
 intro u hu
 obtain ⟨i,hi,rfl⟩:=List.mem_iff_getElem.1 hu
 obtain ⟨ao,cap,hv,_⟩:=h3 i (by omega)
 have:vs.getD i (.slice none 0 0)=vs[i]:=by simp [hi]
 rw [←this,hv]; rfl
theorem newsA {W w2:World} {v x:Value} {g:Nat} {t:TypeId} (hg:W.grownBy w2 v.ownBlock) (hW:W.heap[g]?=some (.cells #[x] t (0,0))) (hne:v.ownBlock≠some g):∀j u,[x][j]?=some u→w2.cell? ((⟨g,0,none⟩:Addr).add j)=some u:=by
 intro j u hj
 match j,hj with
 | 0,hj=>
  simp at hj; subst hj
  have h1:w2.heap[g]?=some (.cells #[x] t (0,0)):=(hg.block g (lt_of_block hW) (fun e=>hne e.symm)).trans hW
  simp [Addr.add,World.cell?,h1]
theorem newsC {W:World} {x:Value} {g:Nat} {t:TypeId} (hW:W.heap[g]?=some (.cells #[x] t (0,0))):∀j u,[x][j]?=some u→W.cell? ((⟨g,0,none⟩:Addr).add j)=some u:=by
 intro j u hj
 match j,hj with
 | 0,hj=>simp at hj; subst hj; simp [Addr.add,World.cell?,hW]
theorem grown_below {M n:Nat} {wr W w2:World} {v:Value} {xs:List Value} (hB:Below M wr W) (hM:M≤wr.heap.size) (ho:W.ownsRow M 22 1 v n xs) (hg:W.grownBy w2 v.ownBlock):Below M wr w2:=
 hB.grown hg (Nat.le_trans hM hB.size) (fun k hk=>(ho.lt k hk).1)
set_option maxRecDepth 100000 in
set_option maxHeartbeats 4000000 in
theorem picked_any (c Bd B:Nat) (m:List (List Int)) (v:Value) (w:World) (hx:Mx c Bd m) (hm:Mat B 22 3 w v m) (hml:m.length≤500) :
  Calls Tryz.prog 83 #[v] w fun e w'=>∃x,e=.returned x∧Rws w.heap.size 22 3 w' x (pickL c m)∧Below w.heap.size w w':=by
 obtain ⟨i0,hi,hz0,hz1,hz2⟩:=info_parts Tryz.info22
 obtain ⟨ao,cap,hvv,hlc,hcm⟩:=mat_open hm
 subst hvv
 have HM:Hid (Mat w.heap.size 22 3 w (.slice ao m.length cap) m):=hm.any (Nat.le_refl _)
 have HX:Hid (Mx c Bd m):=hx
 clear hm hx
 go_enter Tryz.func83,Tryz.ntmps83
 go_wp2
 go_loopw [3,4] (fun x i wr=>∃k:Nat,k≤m.length∧i=.int .i64 k∧Rws w.heap.size 22 3 wr x (pickL c (m.take k))∧Below w.heap.size w wr) (fun _ i _=>m.length-(intOf i).toNat)
 case atStart=>exact ⟨0,Nat.zero_le _,rfl,Rws.nil _ _ _ _,Below.refl _ _⟩
 case round=>
  obtain ⟨k,hk,rfl,hrw,hbel⟩:=hrel
  have HR:Hid (Rws w.heap.size 22 3 wr u3 (pickL c (m.take k))):=hrw
  have HB:Hid (Below w.heap.size w wr):=hbel
  have hsz:w.heap.size≤wr.heap.size:=hbel.size
  clear hrw hbel
  by_cases hlt:k < m.length
  ·obtain ⟨b,o,cp,r1,hs,hc1,hcc,hr1⟩:=mat_cell (HM.out.below HB.out (Nat.le_refl _)) hlt
   simp only [Value.slice.injEq] at hs
   obtain ⟨rfl,_,rfl⟩:=hs
   have HR1:Hid (Sl w.heap.size 3 wr r1 (ints (m.getD k []))):=hr1
   obtain ⟨ro,rc,hrv,hrc1,hrc2⟩:=sl_open hr1
   clear hr1
   have HSN:Hid (pickL c (m.take (k+1))=if freeL c (pickL c (m.take k) ++ [m.getD k []]) then pickL c (m.take k) ++ [m.getD k []] else pickL c (m.take k)):=pickL_snoc c m k hlt
   have HPM:Hid (Mx c Bd (pickL c (m.take k) ++ [m.getD k []])):=by
    refine HX.out.sub fun r hr=>?_
    rcases List.mem_append.1 hr with hr | hr
    ·exact List.mem_of_mem_take (pickL_mem hr)
    ·simp at hr; subst hr; simp [hlt]
   have hpl:(pickL c (m.take k)).length≤k:=by
    have:=pickL_len c (m.take k); simp at this; omega
   obtain ⟨h,hh⟩:∃h,h=pickL c (m.take k):=⟨_,rfl⟩
   obtain ⟨z,hz⟩:∃z,z=m.getD k []:=⟨_,rfl⟩
   rw [←hh] at hpl HPM HR HSN
   rw [←hz] at HPM HSN HR1 hrv
   have HH:Hid (h=pickL c (m.take k)):=hh
   clear hh hz
   generalize hln:z.length=ln at *
   clear hln
   subst hrv
   obtain ⟨vs,g1,g2,g3⟩:=HR.out
   obtain ⟨uo,uc,huv⟩:=owns_form g2
   have HG1:Hid (vs.length=h.length):=g1
   have HG2:Hid (wr.ownsRow w.heap.size 22 1 u3 h.length vs):=g2
   have HG3:Hid (∀i,i < h.length→Sl w.heap.size 3 wr (vs.getD i (.slice none 0 0)) (ints (h.getD i []))):=g3
   subst huv
   generalize hhl:h.length=hl at *
   have HHL:Hid (h.length=hl):=hhl
   have HR0:Hid (Rws w.heap.size 22 3 wr (.slice uo hl uc) h):=HR.out
   clear g1 g2 g3 HR hhl
   have hkI0:(0:Int)≤(k:Int):=by omega
   have hkI1:(k:Int) < (m.length:Int):=by omega
   -- the worlds that the orders come to
   have E1:=emp_own wr wr.heap.size (Nat.le_refl _)
   have E2:=(emp_own wr wr.heap.size (Nat.le_refl _)).alloc (.cells #[.slice ro ln rc] 22)
   have E3:((wr.alloc (.cells #[.slice ro ln rc] 22)).alloc (.cells #[] 22)).ownsRow wr.heap.size 22 1 (.slice (some ⟨wr.heap.size+1,0,none⟩) 0 0) 0 []:=by
    have:=emp_own (wr.alloc (.cells #[.slice ro ln rc] 22)) wr.heap.size (by simp)
    simpa using this
   have B1:=(Below.refl wr.heap.size wr).alloc (Nat.le_refl _) (.cells #[] 22)
   have B2:=B1.alloc (by simp) (.cells #[.slice ro ln rc] 22)
   have B3:=((Below.refl wr.heap.size wr).alloc (Nat.le_refl _) (.cells #[.slice ro ln rc] 22)).alloc (by simp) (.cells #[] 22)
   have H2:((wr.alloc (.cells #[] 22)).alloc (.cells #[.slice ro ln rc] 22)).heap[wr.heap.size+1]?=some (.cells #[.slice ro ln rc] 22 (0,0)):=by
    have:=heap_alloc_new (wr.alloc (.cells #[] 22)) (.cells #[.slice ro ln rc] 22)
    simpa using this
   have H3:((wr.alloc (.cells #[.slice ro ln rc] 22)).alloc (.cells #[] 22)).heap[wr.heap.size]?=some (.cells #[.slice ro ln rc] 22 (0,0)):=by
    rw [Below.heap_alloc _ _ _ (by simp),heap_alloc_new]
   have hbk:b < wr.heap.size:=lt_of_cell hcc
   have HSV:Hid (Sl w.heap.size 22 wr (.slice uo hl uc) vs):=Sl.own HG2.out
   -- what the region leaves,in whatever order
   have HFIN:Hid (∀(w3:World) (v3:Value),w3.ownsRow wr.heap.size 22 1 v3 (0+hl+1) ([] ++ vs ++ [.slice ro ln rc])→Below wr.heap.size wr w3→Rws w.heap.size 22 3 w3 v3 (h ++ [z])∧Below w.heap.size w w3∧Below wr.heap.size wr w3):=by
    intro w3 v3 ho hb3
    simp only [Nat.zero_add,List.nil_append] at ho
    refine ⟨⟨vs ++ [.slice ro ln rc],by simp [HG1.out,HHL.out],?_,fun i hi=>?_⟩,HB.out.trans (hb3.mono hsz),hb3⟩
    ·have e:(h ++ [z]).length=hl+1:=by simp [HHL.out]
     rw [e]
     obtain ⟨q1,q2⟩:=ho
     refine ⟨q1,?_⟩
     rcases q2 with q2 | ⟨g,cap,cur,r1,r2,r3⟩
     ·exact Or.inl q2
     ·exact Or.inr ⟨g,cap,cur,r1,by omega,r3⟩
    ·have hg1:=HG1.out
     have hhl:=HHL.out
     by_cases hil:i < hl
     ·have e1:(vs ++ [Value.slice ro ln rc]).getD i (.slice none 0 0)=vs.getD i (.slice none 0 0):=by
       simp only [List.getD_eq_getElem?_getD]; rw [List.getElem?_append_left (by omega)]
      have e2:(h ++ [z]).getD i []=h.getD i []:=by
       simp only [List.getD_eq_getElem?_getD]; rw [List.getElem?_append_left (by omega)]
      rw [e1,e2]
      exact (HG3.out i hil).below hb3 (Nat.le_refl _)
     ·have hi':i=hl:=by simp at hi; omega
      subst hi'
      have e1:(vs ++ [Value.slice ro ln rc]).getD i (.slice none 0 0)=.slice ro ln rc:=by rw [←hg1]; simp
      have e2:(h ++ [z]).getD i []=z:=by rw [←hhl]; simp
      rw [e1,e2]
      exact HR1.out.below hb3 (Nat.le_refl _)
   cases uo with
   | none=>
    obtain ⟨hl0,uc0,vs0⟩:hl=0∧uc=0∧vs=[]:=by
     have hq:=HG2.out
     obtain ⟨q1,q2⟩:=hq
     rcases q2 with ⟨q3,q4⟩ | ⟨g,_,_,q3,_⟩
     ·simp only [Value.slice.injEq] at q3
      exact ⟨q4,q3.2.2,List.eq_nil_of_length_eq_zero (by rw [q1,q4])⟩
     ·simp at q3
    subst hl0 uc0 vs0
    go_wp2
    go_region_held3 (fun w'=>w'.cell? ⟨b,o+k,none⟩=some (.slice ro ln rc)) (first | go_keep | exact KS2.out)
     ((first | (refine step_append_none (o:={ dst:=some 14,op:=_,type:=_,pos:=_,after:=_,guard:=_ }) (by rfl) (.tmp 12) (.tmp 13) 25 (by rfl) wr.heap.size 22 i0 1 Tryz.underlying25 hi _ 0 [] (by rfl) (by first | exact E1 | exact E2 | exact E3) (by rfl) ?_) | (refine step_append_own (o:={ dst:=some 20,op:=_,type:=_,pos:=_,after:=_,guard:=_ }) (by rfl) (.tmp 14) (.tmp 19) 25 (by rfl) wr.heap.size 22 i0 (.slice none 0 0) 1 24 Tryz.underlying25 hi hz0 hz1 hz2 rfl (by decide) _ 0 [] (by rfl) (by first | exact E2 | exact E3) _ 1 1 [.slice ro ln rc] (by rfl) rfl (by first | exact newsC H2 | exact newsC H3) (one_slice _ _ _) (by unfold maxLen; omega) (by omega) (by simp <;> omega) ?_; intro v3 w3 ho3 hg3; have FF:=HFIN.out w3 v3 ho3 (by first | exact grown_below B2.drew (Nat.le_refl _) E2.drew hg3 | exact grown_below B3.drew (Nat.le_refl _) E3.drew hg3); have KS2:Hid (w3.cell? ⟨b,o+k,none⟩=some (.slice ro ln rc)):=(FF.2.2.cell hbk).trans hcc)))
    all_goals
     have HF1:Hid (Rws w.heap.size 22 3 w3 v3 (h ++ [z])):=FF.1
     have HF2:Hid (Below w.heap.size w w3):=FF.2.1
     have HF3:Hid (Below wr.heap.size wr w3):=FF.2.2
     clear FF KS2 ho3 hg3 E1 E2 E3 B1 B2 B3 H2 H3
     go_wp2_with fail
     refine (free_any c Bd w.heap.size (h ++ [z]) v3 w3 HPM.out (HF1.out.mat (Nat.le_refl _)) (by rw [List.length_append,HHL.out,List.length_singleton]; omega)).mono ?_
     rintro e w4 ⟨rfl,hb4⟩
     have HB4:Hid (Below w.heap.size w w4):=HF2.out.trans (hb4.mono HF2.out.size)
     have HF4:Hid (Rws w.heap.size 22 3 w4 v3 (h ++ [z])):=HF1.out.below hb4 (Nat.le_refl _)
     have HR4:Hid (Rws w.heap.size 22 3 w4 (.slice none 0 0) h):=(HR0.out.below HF3.out (Nat.le_refl _)).below hb4 (Nat.le_refl _)
     clear hb4 HF1 HF2 HF3
     cases hf:freeL c (h ++ [z])
     ·have HSF:Hid (pickL c (m.take (k+1))=h):=by show _=_; have:=HSN.out; rw [hf] at this; simpa using this
      clear hf
      go_wp2
      go_roundw
      case rel=>exact ⟨k+1,by omega,by go_num,by rw [HSF.out]; exact HR4.out,HB4.out⟩
      case measure=>simp [intOf]; omega
     ·have HSF:Hid (pickL c (m.take (k+1))=h ++ [z]):=by show _=_; have:=HSN.out; rw [hf] at this; simpa using this
      clear hf
      go_wp2
      go_roundw
      case rel=>exact ⟨k+1,by omega,by go_num,by rw [HSF.out]; exact HF4.out,HB4.out⟩
      case measure=>simp [intOf]; omega
   | some ua=>
    go_wp2
    go_region_held3 (fun w'=>w'.cell? ⟨b,o+k,none⟩=some (.slice ro ln rc)) (first | go_keep | exact KS1.out | exact KS2.out)
     ((first | (refine step_append_own (o:={ dst:=some 14,op:=_,type:=_,pos:=_,after:=_,guard:=_ }) (by rfl) (.tmp 12) (.tmp 13) 25 (by rfl) wr.heap.size 22 i0 (.slice none 0 0) 1 24 Tryz.underlying25 hi hz0 hz1 hz2 rfl (by decide) _ 0 [] (by rfl) (by first | exact E1 | exact E2 | exact E3) ua hl uc vs (by rfl) (by simp [HG1.out]) (by first | exact cells1 HSV.out _ | exact cells2 HSV.out _ _) (cells_one HG1.out HG3.out) (by unfold maxLen; omega) (by omega) (by simp <;> omega) ?_; intro v1 w2 ho1 hg1; have BB:Hid (Below wr.heap.size wr w2):=(by first | exact grown_below B1.drew (Nat.le_refl _) E1.drew hg1 | exact grown_below B2.drew (Nat.le_refl _) E2.drew hg1 | exact grown_below B3.drew (Nat.le_refl _) E3.drew hg1); have KS1:Hid (w2.cell? ⟨b,o+k,none⟩=some (.slice ro ln rc)):=(BB.out.cell hbk).trans hcc) | (refine step_append_own (o:={ dst:=some 20,op:=_,type:=_,pos:=_,after:=_,guard:=_ }) (by rfl) (.tmp 14) (.tmp 19) 25 (by rfl) wr.heap.size 22 i0 (.slice none 0 0) 1 24 Tryz.underlying25 hi hz0 hz1 hz2 rfl (by decide) _ (0+hl) ([] ++ vs) (by rfl) (by first | exact ho1 | exact ho1.alloc _) _ 1 1 [.slice ro ln rc] (by rfl) rfl (by first | exact one_new _ _ _ | exact newsA hg1 (W:=World.drew _) H2 (by show (some wr.heap.size:Option Nat)≠some (wr.heap.size+1); simp) | exact newsA hg1 (W:=World.drew _) H3 (by show (some (wr.heap.size+1):Option Nat)≠some wr.heap.size; simp)) (one_slice _ _ _) (by unfold maxLen; omega) (by omega) (by first | exact BB.out.size | exact Nat.le_trans BB.out.size (by simp)) ?_; intro v3 w3 ho3 hg3; have FF:=HFIN.out w3 v3 ho3 (by first | exact grown_below BB.out (Nat.le_refl _) ho1 hg3 | exact grown_below (BB.out.alloc BB.out.size _) (Nat.le_refl _) (ho1.alloc _) hg3); have KS2:Hid (w3.cell? ⟨b,o+k,none⟩=some (.slice ro ln rc)):=(FF.2.2.cell hbk).trans hcc)))
    all_goals
     have HF1:Hid (Rws w.heap.size 22 3 w3 v3 (h ++ [z])):=FF.1
     have HF2:Hid (Below w.heap.size w w3):=FF.2.1
     have HF3:Hid (Below wr.heap.size wr w3):=FF.2.2
     clear FF KS2 ho3 hg3 KS1 BB ho1 hg1 E1 E2 E3 B1 B2 B3 H2 H3
     go_wp2_with fail
     refine (free_any c Bd w.heap.size (h ++ [z]) v3 w3 HPM.out (HF1.out.mat (Nat.le_refl _)) (by rw [List.length_append,HHL.out,List.length_singleton]; omega)).mono ?_
     rintro e w4 ⟨rfl,hb4⟩
     have HB4:Hid (Below w.heap.size w w4):=HF2.out.trans (hb4.mono HF2.out.size)
     have HF4:Hid (Rws w.heap.size 22 3 w4 v3 (h ++ [z])):=HF1.out.below hb4 (Nat.le_refl _)
     have HR4:Hid (Rws w.heap.size 22 3 w4 (.slice (some ua) hl uc) h):=(HR0.out.below HF3.out (Nat.le_refl _)).below hb4 (Nat.le_refl _)
     clear hb4 HF1 HF2 HF3
     cases hf:freeL c (h ++ [z])
     ·have HSF:Hid (pickL c (m.take (k+1))=h):=by show _=_; have:=HSN.out; rw [hf] at this; simpa using this
      clear hf
      go_wp2
      go_roundw
      case rel=>exact ⟨k+1,by omega,by go_num,by rw [HSF.out]; exact HR4.out,HB4.out⟩
      case measure=>simp [intOf]; omega
     ·have HSF:Hid (pickL c (m.take (k+1))=h ++ [z]):=by show _=_; have:=HSN.out; rw [hf] at this; simpa using this
      clear hf
      go_wp2
      go_roundw
      case rel=>exact ⟨k+1,by omega,by go_num,by rw [HSF.out]; exact HF4.out,HB4.out⟩
      case measure=>simp [intOf]; omega
  ·go_wp2
   go_ret
   have h:=HR.out
   rw [List.take_of_length_le (by omega)] at h
   exact ⟨_,rfl,h,HB.out⟩
theorem freeL_cap {c:Nat} {m:List (List Int)} (h:freeL c m=true):m.length≤c:=by
 by_cases hle:c < m.length
 ·have hb0:(m.length == 0)=false:=by simp; intro h0; rw [h0] at hle; simp at hle
  have hf:freeL c m=false:=by rw [freeL,hb0,decide_eq_false (by omega)]; rfl
  rw [hf] at h
  exact absurd h (by decide)
 ·omega
theorem pickL_cap (c:Nat) (m:List (List Int)):(pickL c m).length≤c:=by
 have gen:∀(m h:List (List Int)),h.length≤c→(m.foldl (fun h r=>if freeL c (h ++ [r]) then h ++ [r] else h) h).length≤c:=by
  intro m
  induction m with
  | nil=>intro h hh; exact hh
  | cons r m ih=>
   intro h hh
   rw [List.foldl_cons]
   refine ih _ ?_
   split
   ·rename_i hf; exact freeL_cap hf
   ·exact hh
 exact gen m [] (by simp)
set_option maxRecDepth 100000 in
set_option maxHeartbeats 4000000 in
theorem rankR_any (c Bd B:Nat) (m:List (List Int)) (v:Value) (w:World) (hx:Mx c Bd m) (hm:Mat B 22 3 w v m) (hml:m.length≤16777216) :
  Calls Tryz.prog 23 #[v] w fun e w'=>e=.returned (.int .i64 ((pickL c m).length:Nat))∧Below w.heap.size w w':=by
 obtain ⟨i0,hi,hz0,hz1,hz2⟩:=info_parts Tryz.info22
 obtain ⟨ao,cap,hvv,hlc,hcm⟩:=mat_open hm
 subst hvv
 have HM:Hid (Mat w.heap.size 22 3 w (.slice ao m.length cap) m):=hm.any (Nat.le_refl _)
 have HX:Hid (Mx c Bd m):=hx
 clear hm hx
 go_enter Tryz.func23,Tryz.ntmps23
 go_wp2
 go_loopw [3,4] (fun x i wr=>∃k:Nat,k≤m.length∧i=.int .i64 k∧Rws w.heap.size 22 3 wr x (pickL c (m.take k))∧Below w.heap.size w wr) (fun _ i _=>m.length-(intOf i).toNat)
 case atStart=>exact ⟨0,Nat.zero_le _,rfl,Rws.nil _ _ _ _,Below.refl _ _⟩
 case round=>
  obtain ⟨k,hk,rfl,hrw,hbel⟩:=hrel
  have HR:Hid (Rws w.heap.size 22 3 wr u3 (pickL c (m.take k))):=hrw
  have HB:Hid (Below w.heap.size w wr):=hbel
  have hsz:w.heap.size≤wr.heap.size:=hbel.size
  clear hrw hbel
  by_cases hlt:k < m.length
  ·obtain ⟨b,o,cp,r1,hs,hc1,hcc,hr1⟩:=mat_cell (HM.out.below HB.out (Nat.le_refl _)) hlt
   simp only [Value.slice.injEq] at hs
   obtain ⟨rfl,_,rfl⟩:=hs
   have HR1:Hid (Sl w.heap.size 3 wr r1 (ints (m.getD k []))):=hr1
   obtain ⟨ro,rc,hrv,hrc1,hrc2⟩:=sl_open hr1
   clear hr1
   have HSN:Hid (pickL c (m.take (k+1))=if freeL c (pickL c (m.take k) ++ [m.getD k []]) then pickL c (m.take k) ++ [m.getD k []] else pickL c (m.take k)):=pickL_snoc c m k hlt
   have HPM:Hid (Mx c Bd (pickL c (m.take k) ++ [m.getD k []])):=by
    refine HX.out.sub fun r hr=>?_
    rcases List.mem_append.1 hr with hr | hr
    ·exact List.mem_of_mem_take (pickL_mem hr)
    ·simp at hr; subst hr; simp [hlt]
   have hpl:(pickL c (m.take k)).length≤5:=Nat.le_trans (pickL_cap c _) HX.out.c5
   obtain ⟨h,hh⟩:∃h,h=pickL c (m.take k):=⟨_,rfl⟩
   obtain ⟨z,hz⟩:∃z,z=m.getD k []:=⟨_,rfl⟩
   rw [←hh] at hpl HPM HR HSN
   rw [←hz] at HPM HSN HR1 hrv
   have HH:Hid (h=pickL c (m.take k)):=hh
   clear hh hz
   generalize hln:z.length=ln at *
   clear hln
   subst hrv
   obtain ⟨vs,g1,g2,g3⟩:=HR.out
   obtain ⟨uo,uc,huv⟩:=owns_form g2
   have HG1:Hid (vs.length=h.length):=g1
   have HG2:Hid (wr.ownsRow w.heap.size 22 1 u3 h.length vs):=g2
   have HG3:Hid (∀i,i < h.length→Sl w.heap.size 3 wr (vs.getD i (.slice none 0 0)) (ints (h.getD i []))):=g3
   subst huv
   generalize hhl:h.length=hl at *
   have HHL:Hid (h.length=hl):=hhl
   have HR0:Hid (Rws w.heap.size 22 3 wr (.slice uo hl uc) h):=HR.out
   clear g1 g2 g3 HR hhl
   have hkI0:(0:Int)≤(k:Int):=by omega
   have hkI1:(k:Int) < (m.length:Int):=by omega
   -- the worlds that the orders come to
   have E1:=emp_own wr wr.heap.size (Nat.le_refl _)
   have E2:=(emp_own wr wr.heap.size (Nat.le_refl _)).alloc (.cells #[.slice ro ln rc] 22)
   have E3:((wr.alloc (.cells #[.slice ro ln rc] 22)).alloc (.cells #[] 22)).ownsRow wr.heap.size 22 1 (.slice (some ⟨wr.heap.size+1,0,none⟩) 0 0) 0 []:=by
    have:=emp_own (wr.alloc (.cells #[.slice ro ln rc] 22)) wr.heap.size (by simp)
    simpa using this
   have B1:=(Below.refl wr.heap.size wr).alloc (Nat.le_refl _) (.cells #[] 22)
   have B2:=B1.alloc (by simp) (.cells #[.slice ro ln rc] 22)
   have B3:=((Below.refl wr.heap.size wr).alloc (Nat.le_refl _) (.cells #[.slice ro ln rc] 22)).alloc (by simp) (.cells #[] 22)
   have H2:((wr.alloc (.cells #[] 22)).alloc (.cells #[.slice ro ln rc] 22)).heap[wr.heap.size+1]?=some (.cells #[.slice ro ln rc] 22 (0,0)):=by
    have:=heap_alloc_new (wr.alloc (.cells #[] 22)) (.cells #[.slice ro ln rc] 22)
    simpa using this
   have H3:((wr.alloc (.cells #[.slice ro ln rc] 22)).alloc (.cells #[] 22)).heap[wr.heap.size]?=some (.cells #[.slice ro ln rc] 22 (0,0)):=by
    rw [Below.heap_alloc _ _ _ (by simp),heap_alloc_new]
   have hbk:b < wr.heap.size:=lt_of_cell hcc
   have HSV:Hid (Sl w.heap.size 22 wr (.slice uo hl uc) vs):=Sl.own HG2.out
   -- what the region leaves,in whatever order
   have HFIN:Hid (∀(w3:World) (v3:Value),w3.ownsRow wr.heap.size 22 1 v3 (0+hl+1) ([] ++ vs ++ [.slice ro ln rc])→Below wr.heap.size wr w3→Rws w.heap.size 22 3 w3 v3 (h ++ [z])∧Below w.heap.size w w3∧Below wr.heap.size wr w3):=by
    intro w3 v3 ho hb3
    simp only [Nat.zero_add,List.nil_append] at ho
    refine ⟨⟨vs ++ [.slice ro ln rc],by simp [HG1.out,HHL.out],?_,fun i hi=>?_⟩,HB.out.trans (hb3.mono hsz),hb3⟩
    ·have e:(h ++ [z]).length=hl+1:=by simp [HHL.out]
     rw [e]
     obtain ⟨q1,q2⟩:=ho
     refine ⟨q1,?_⟩
     rcases q2 with q2 | ⟨g,cap,cur,r1,r2,r3⟩
     ·exact Or.inl q2
     ·exact Or.inr ⟨g,cap,cur,r1,by omega,r3⟩
    ·have hg1:=HG1.out
     have hhl:=HHL.out
     by_cases hil:i < hl
     ·have e1:(vs ++ [Value.slice ro ln rc]).getD i (.slice none 0 0)=vs.getD i (.slice none 0 0):=by
       simp only [List.getD_eq_getElem?_getD]; rw [List.getElem?_append_left (by omega)]
      have e2:(h ++ [z]).getD i []=h.getD i []:=by
       simp only [List.getD_eq_getElem?_getD]; rw [List.getElem?_append_left (by omega)]
      rw [e1,e2]
      exact (HG3.out i hil).below hb3 (Nat.le_refl _)
     ·have hi':i=hl:=by simp at hi; omega
      subst hi'
      have e1:(vs ++ [Value.slice ro ln rc]).getD i (.slice none 0 0)=.slice ro ln rc:=by rw [←hg1]; simp
      have e2:(h ++ [z]).getD i []=z:=by rw [←hhl]; simp
      rw [e1,e2]
      exact HR1.out.below hb3 (Nat.le_refl _)
   cases uo with
   | none=>
    obtain ⟨hl0,uc0,vs0⟩:hl=0∧uc=0∧vs=[]:=by
     have hq:=HG2.out
     obtain ⟨q1,q2⟩:=hq
     rcases q2 with ⟨q3,q4⟩ | ⟨g,_,_,q3,_⟩
     ·simp only [Value.slice.injEq] at q3
      exact ⟨q4,q3.2.2,List.eq_nil_of_length_eq_zero (by rw [q1,q4])⟩
     ·simp at q3
    subst hl0 uc0 vs0
    go_wp2
    go_region_held3 (fun w'=>w'.cell? ⟨b,o+k,none⟩=some (.slice ro ln rc)) (first | go_keep | exact KS2.out)
     ((first | (refine step_append_none (o:={ dst:=some 14,op:=_,type:=_,pos:=_,after:=_,guard:=_ }) (by rfl) (.tmp 12) (.tmp 13) 25 (by rfl) wr.heap.size 22 i0 1 Tryz.underlying25 hi _ 0 [] (by rfl) (by first | exact E1 | exact E2 | exact E3) (by rfl) ?_) | (refine step_append_own (o:={ dst:=some 20,op:=_,type:=_,pos:=_,after:=_,guard:=_ }) (by rfl) (.tmp 14) (.tmp 19) 25 (by rfl) wr.heap.size 22 i0 (.slice none 0 0) 1 24 Tryz.underlying25 hi hz0 hz1 hz2 rfl (by decide) _ 0 [] (by rfl) (by first | exact E2 | exact E3) _ 1 1 [.slice ro ln rc] (by rfl) rfl (by first | exact newsC H2 | exact newsC H3) (one_slice _ _ _) (by unfold maxLen; omega) (by omega) (by simp <;> omega) ?_; intro v3 w3 ho3 hg3; have FF:=HFIN.out w3 v3 ho3 (by first | exact grown_below B2.drew (Nat.le_refl _) E2.drew hg3 | exact grown_below B3.drew (Nat.le_refl _) E3.drew hg3); have KS2:Hid (w3.cell? ⟨b,o+k,none⟩=some (.slice ro ln rc)):=(FF.2.2.cell hbk).trans hcc)))
    all_goals
     have HF1:Hid (Rws w.heap.size 22 3 w3 v3 (h ++ [z])):=FF.1
     have HF2:Hid (Below w.heap.size w w3):=FF.2.1
     have HF3:Hid (Below wr.heap.size wr w3):=FF.2.2
     clear FF KS2 ho3 hg3 E1 E2 E3 B1 B2 B3 H2 H3
     go_wp2_with fail
     refine (free_any c Bd w.heap.size (h ++ [z]) v3 w3 HPM.out (HF1.out.mat (Nat.le_refl _)) (by rw [List.length_append,HHL.out,List.length_singleton]; omega)).mono ?_
     rintro e w4 ⟨rfl,hb4⟩
     have HB4:Hid (Below w.heap.size w w4):=HF2.out.trans (hb4.mono HF2.out.size)
     have HF4:Hid (Rws w.heap.size 22 3 w4 v3 (h ++ [z])):=HF1.out.below hb4 (Nat.le_refl _)
     have HR4:Hid (Rws w.heap.size 22 3 w4 (.slice none 0 0) h):=(HR0.out.below HF3.out (Nat.le_refl _)).below hb4 (Nat.le_refl _)
     clear hb4 HF1 HF2 HF3
     cases hf:freeL c (h ++ [z])
     ·have HSF:Hid (pickL c (m.take (k+1))=h):=by show _=_; have:=HSN.out; rw [hf] at this; simpa using this
      clear hf
      go_wp2
      go_roundw
      case rel=>exact ⟨k+1,by omega,by go_num,by rw [HSF.out]; exact HR4.out,HB4.out⟩
      case measure=>simp [intOf]; omega
     ·have HSF:Hid (pickL c (m.take (k+1))=h ++ [z]):=by show _=_; have:=HSN.out; rw [hf] at this; simpa using this
      clear hf
      go_wp2
      go_roundw
      case rel=>exact ⟨k+1,by omega,by go_num,by rw [HSF.out]; exact HF4.out,HB4.out⟩
      case measure=>simp [intOf]; omega
   | some ua=>
    go_wp2
    go_region_held3 (fun w'=>w'.cell? ⟨b,o+k,none⟩=some (.slice ro ln rc)) (first | go_keep | exact KS1.out | exact KS2.out)
     ((first | (refine step_append_own (o:={ dst:=some 14,op:=_,type:=_,pos:=_,after:=_,guard:=_ }) (by rfl) (.tmp 12) (.tmp 13) 25 (by rfl) wr.heap.size 22 i0 (.slice none 0 0) 1 24 Tryz.underlying25 hi hz0 hz1 hz2 rfl (by decide) _ 0 [] (by rfl) (by first | exact E1 | exact E2 | exact E3) ua hl uc vs (by rfl) (by simp [HG1.out]) (by first | exact cells1 HSV.out _ | exact cells2 HSV.out _ _) (cells_one HG1.out HG3.out) (by unfold maxLen; omega) (by omega) (by simp <;> omega) ?_; intro v1 w2 ho1 hg1; have BB:Hid (Below wr.heap.size wr w2):=(by first | exact grown_below B1.drew (Nat.le_refl _) E1.drew hg1 | exact grown_below B2.drew (Nat.le_refl _) E2.drew hg1 | exact grown_below B3.drew (Nat.le_refl _) E3.drew hg1); have KS1:Hid (w2.cell? ⟨b,o+k,none⟩=some (.slice ro ln rc)):=(BB.out.cell hbk).trans hcc) | (refine step_append_own (o:={ dst:=some 20,op:=_,type:=_,pos:=_,after:=_,guard:=_ }) (by rfl) (.tmp 14) (.tmp 19) 25 (by rfl) wr.heap.size 22 i0 (.slice none 0 0) 1 24 Tryz.underlying25 hi hz0 hz1 hz2 rfl (by decide) _ (0+hl) ([] ++ vs) (by rfl) (by first | exact ho1 | exact ho1.alloc _) _ 1 1 [.slice ro ln rc] (by rfl) rfl (by first | exact one_new _ _ _ | exact newsA hg1 (W:=World.drew _) H2 (by show (some wr.heap.size:Option Nat)≠some (wr.heap.size+1); simp) | exact newsA hg1 (W:=World.drew _) H3 (by show (some (wr.heap.size+1):Option Nat)≠some wr.heap.size; simp)) (one_slice _ _ _) (by unfold maxLen; omega) (by omega) (by first | exact BB.out.size | exact Nat.le_trans BB.out.size (by simp)) ?_; intro v3 w3 ho3 hg3; have FF:=HFIN.out w3 v3 ho3 (by first | exact grown_below BB.out (Nat.le_refl _) ho1 hg3 | exact grown_below (BB.out.alloc BB.out.size _) (Nat.le_refl _) (ho1.alloc _) hg3); have KS2:Hid (w3.cell? ⟨b,o+k,none⟩=some (.slice ro ln rc)):=(FF.2.2.cell hbk).trans hcc)))
    all_goals
     have HF1:Hid (Rws w.heap.size 22 3 w3 v3 (h ++ [z])):=FF.1
     have HF2:Hid (Below w.heap.size w w3):=FF.2.1
     have HF3:Hid (Below wr.heap.size wr w3):=FF.2.2
     clear FF KS2 ho3 hg3 KS1 BB ho1 hg1 E1 E2 E3 B1 B2 B3 H2 H3
     go_wp2_with fail
     refine (free_any c Bd w.heap.size (h ++ [z]) v3 w3 HPM.out (HF1.out.mat (Nat.le_refl _)) (by rw [List.length_append,HHL.out,List.length_singleton]; omega)).mono ?_
     rintro e w4 ⟨rfl,hb4⟩
     have HB4:Hid (Below w.heap.size w w4):=HF2.out.trans (hb4.mono HF2.out.size)
     have HF4:Hid (Rws w.heap.size 22 3 w4 v3 (h ++ [z])):=HF1.out.below hb4 (Nat.le_refl _)
     have HR4:Hid (Rws w.heap.size 22 3 w4 (.slice (some ua) hl uc) h):=(HR0.out.below HF3.out (Nat.le_refl _)).below hb4 (Nat.le_refl _)
     clear hb4 HF1 HF2 HF3
     cases hf:freeL c (h ++ [z])
     ·have HSF:Hid (pickL c (m.take (k+1))=h):=by show _=_; have:=HSN.out; rw [hf] at this; simpa using this
      clear hf
      go_wp2
      go_roundw
      case rel=>exact ⟨k+1,by omega,by go_num,by rw [HSF.out]; exact HR4.out,HB4.out⟩
      case measure=>simp [intOf]; omega
     ·have HSF:Hid (pickL c (m.take (k+1))=h ++ [z]):=by show _=_; have:=HSN.out; rw [hf] at this; simpa using this
      clear hf
      go_wp2
      go_roundw
      case rel=>exact ⟨k+1,by omega,by go_num,by rw [HSF.out]; exact HF4.out,HB4.out⟩
      case measure=>simp [intOf]; omega
  ·obtain ⟨vs,g1,g2,g3⟩:=HR.out
   obtain ⟨uo,uc,huv⟩:=owns_form g2
   subst huv
   have HTK:Hid (m.take k=m):=List.take_of_length_le (by omega)
   clear g1 g2 g3
   go_wp2
   go_ret
   exact ⟨ret_int (by rw [HTK.out]),HB.out⟩
end Go.Proofs.YtkfdpcgmpbopnaaGreatDoor
namespace Go.Proofs.YtkfdpcgmpbopnaaGreatDoor
open Go.RowKit
def skipL (k j:Nat):List Int:=((List.range j).filter fun x=>x != k).map fun (x:Nat)=>(x:Int)
theorem skipL_succ (k j:Nat):skipL k (j+1)=if j=k then skipL k j else skipL k j ++ [(j:Int)]:=by
 unfold skipL
 rw [List.range_succ,List.filter_append,List.map_append]
 by_cases h:j=k
 ·subst h; simp
 ·simp [h]
theorem skipL_spec {k j:Nat} : (skipL k j).length=(if k < j then j-1 else j)∧∀i,i < (skipL k j).length→(skipL k j).getD i 0=(Lin.skp k i:Nat):=by
 induction j with
 | zero=>simp [skipL]
 | succ j ih=>
  obtain ⟨h1,h2⟩:=ih
  rw [skipL_succ]
  by_cases e:j=k
  ·rw [if_pos e]
   refine ⟨?_,h2⟩
   rw [h1,if_neg (by omega),if_pos (by omega)]; omega
  ·rw [if_neg e]
   by_cases hk:k < j
   ·rw [if_pos hk] at h1
    refine ⟨by rw [List.length_append,h1,if_pos (by omega)]; simp; omega,fun i hi=>?_⟩
    by_cases hi':i < (skipL k j).length
    ·rw [←h2 i hi']; simp only [List.getD_eq_getElem?_getD]; rw [List.getElem?_append_left hi']
    ·have:i=(skipL k j).length:=by simp at hi; omega
     subst this
     simp only [List.getD_eq_getElem?_getD]; rw [List.getElem?_append_right (by omega)]
     simp [Lin.skp,h1,show ¬j-1 < k by omega]; omega
   ·rw [if_neg hk] at h1
    refine ⟨by rw [List.length_append,h1,if_neg (by omega)]; simp,fun i hi=>?_⟩
    by_cases hi':i < (skipL k j).length
    ·rw [←h2 i hi']; simp only [List.getD_eq_getElem?_getD]; rw [List.getElem?_append_left hi']
    ·have:i=(skipL k j).length:=by simp at hi; omega
     subst this
     simp only [List.getD_eq_getElem?_getD]; rw [List.getElem?_append_right (by omega)]
     simp [Lin.skp,h1,show j < k by omega]
theorem skipL_len {k c:Nat} (h:k < c):(skipL k c).length=c-1:=by rw [skipL_spec.1,if_pos h]
theorem skipL_mem {k c:Nat} {q:Int} (h:q∈skipL k c):0≤q∧q < (c:Int):=by
 simp only [skipL,List.mem_map,List.mem_filter,List.mem_range] at h
 obtain ⟨x,⟨h1,_⟩,rfl⟩:=h
 omega
def muL (c:Nat) (rows:List (List Int)):List Int:=(List.range c).map fun k=>Lin.mu (fm rows) k
theorem det_skip {rows:List (List Int)} {c k:Nat} (hl:rows.length+1=c) (hk:k < c):detL (colsL rows (skipL k c))=Lin.od (fm rows).length (Lin.cols (fm rows) (Lin.skp k)) fun _=>false:=by
 have hsl:(skipL k c).length=rows.length:=by rw [skipL_len hk]; omega
 rw [det_cols hsl]
 refine Lin.od_congr (by simp [Lin.cols]) (fun i hi j hj=>?_) _
 have hi':i < rows.length:=by simpa [Lin.cols,fm] using hi
 have hj':j < rows.length:=by simpa [fm] using hj
 have e:toK (skipL k c) j=Lin.skp k j:=by
  unfold toK; rw [skipL_spec.2 j (by omega)]; simp
 simp [Lin.cols,fm,hi',e]
theorem ngo_mod (k:Nat):Lin.ngo k=if k % 2=1 then -1 else 1:=by
 induction k with
 | zero=>rfl
 | succ k ih=>
  simp only [Lin.ngo]; rw [ih]
  by_cases h:k % 2=1
  ·rw [if_pos h,if_neg (by omega)]; rfl
  ·rw [if_neg h,if_pos (by omega)]
theorem muL_snoc (c:Nat) (rows:List (List Int)) (k:Nat) (h:k < c):(muL c rows).take (k+1)=(muL c rows).take k ++ [Lin.mu (fm rows) k]:=by
 unfold muL
 rw [List.take_succ_eq_append_getElem (by simpa using h)]; simp
theorem sq_skip {c Bd k:Nat} {rows:List (List Int)} (h:Mx c Bd rows) (hl:rows.length+1=c) (hk:k < c):Sq (colsL rows (skipL k c)).length Bd (colsL rows (skipL k c)):=by
 have hc:=h.c5
 rw [colsL_length]
 refine ⟨colsL_length _ _,fun r hr=>?_,fun r hr j hj=>?_,Nat.le_trans (fb_mono h.pos (by omega)) h.small,by omega,h.pos⟩
 ·simp only [colsL,List.mem_map] at hr
  obtain ⟨r',_,rfl⟩:=hr
  rw [List.length_map,skipL_len hk]; omega
 ·simp only [colsL,List.mem_map] at hr
  obtain ⟨r',hr',rfl⟩:=hr
  have hsl:j < (skipL k c).length:=by rw [skipL_len hk]; omega
  have hq:=skipL_mem (List.getElem_mem hsl)
  have e:((skipL k c).map fun x=>r'.getD x.toNat 0).getD j 0=r'.getD ((skipL k c)[j]).toNat 0:=by simp [hsl]
  rw [e]
  have hlt:((skipL k c)[j]).toNat < r'.length:=by rw [h.row r' hr']; omega
  exact h.bd r' hr' _ (by simp [hlt])
theorem mu_bd {c Bd k:Nat} {rows:List (List Int)} (h:Mx c Bd rows) (hl:rows.length+1=c) (hk:k < c):(detL (colsL rows (skipL k c))).natAbs≤1152921504606846976:=by
 have hs:=sq_skip h hl hk
 unfold detL
 have h1:=Lin.od_bd (n:=(colsL rows (skipL k c)).length) (B:=Bd) (fm (colsL rows (skipL k c))) (fun _=>false) (fun r hr j hj=>by
  simp only [fm,List.mem_map] at hr
  obtain ⟨l,hl,rfl⟩:=hr
  exact hs.bd l hl j hj) (by rw [Lin.cu_none]; simp [fm])
 have h2:(fm (colsL rows (skipL k c))).length=(colsL rows (skipL k c)).length:=by simp [fm]
 rw [h2] at h1
 have:=hs.small
 omega
theorem muL_bd {c Bd:Nat} {rows:List (List Int)} (h:Mx c Bd rows) (hl:rows.length+1=c):∀z∈muL c rows,z.natAbs≤1152921504606846976:=by
 intro z hz
 simp only [muL,List.mem_map,List.mem_range] at hz
 obtain ⟨k,hk,rfl⟩:=hz
 have h1:=mu_bd h hl hk
 rw [det_skip hl hk] at h1
 unfold Lin.mu
 rw [Int.natAbs_mul]
 have h2:(Lin.ngo k).natAbs=1:=by rw [ngo_mod]; by_cases e:k % 2=1 <;> simp [e]
 rw [h2,Nat.one_mul]; exact h1
theorem low_bd {l:List Int} {b:Nat} (h:∀z∈l,z.natAbs≤b):∀z∈Lin.low l,z.natAbs≤b:=by
 intro z hz
 simp only [Lin.low,List.mem_map] at hz
 obtain ⟨y,hy,rfl⟩:=hz
 by_cases h0:Lin.gc l=0
 ·rw [h0]; simp
 ·have h1:=h y hy
  obtain ⟨q,hq⟩:=Lin.gc_dvd hy
  have h3:y / (Lin.gc l:Int)=q:=by rw [hq]; exact Int.mul_ediv_cancel_left q (by omega)
  have h4:y.natAbs=Lin.gc l*q.natAbs:=by rw [hq,Int.natAbs_mul]; simp
  rw [h3]
  have h5:1*q.natAbs≤Lin.gc l*q.natAbs:=Nat.mul_le_mul_right _ (by omega)
  omega
def normL (c:Nat) (m:List (List Int)):List Int:=if (pickL c m).length+1=c then Lin.upr (Lin.low (muL c (pickL c m))) else []
def normB (c:Nat) (m:List (List Int)):Bool:=decide ((pickL c m).length+1=c)
set_option maxRecDepth 100000 in
set_option maxHeartbeats 4000000 in
theorem normalR_own (c Bd B:Nat) (m:List (List Int)) (v:Value) (w:World) (hx:Mx c Bd m) (hm:Mat B 22 3 w v m) (hml:m.length≤500) (hm1:1≤m.length) :
  Calls Tryz.prog 63 #[v] w fun e w'=>∃x,e=.returned (.tuple #[x,.bool (normB c m)])∧Sl 0 3 w' x (ints (normL c m))∧Below w.heap.size w w':=by
 obtain ⟨i3,hi3,hz30,hz31,hz32⟩:=info_parts Tryz.info3
 obtain ⟨ao,cap,hvv,hlc,hcm⟩:=mat_open hm
 subst hvv
 have hc5:=hx.c5
 have hc1:=hx.c1
 have HM:Hid (Mat B 22 3 w (.slice ao m.length cap) m):=hm
 have HX:Hid (Mx c Bd m):=hx
 obtain ⟨b,o,cp,r1,hs,hcp1,hcc,hr1⟩:=mat_cell hm (k:=0) (by omega)
 simp only [Value.slice.injEq] at hs
 obtain ⟨rfl,_,rfl⟩:=hs
 obtain ⟨ro,rc,hrv,hrc1,hrc2⟩:=sl_open hr1
 have hrl:(m.getD 0 []).length=c:=hx.row _ (by simp [show 0 < m.length by omega])
 rw [hrl] at hrv hrc1
 subst hrv
 rw [Nat.add_zero] at hcc
 clear hm hx hr1 hrl
 go_enter Tryz.func63,Tryz.ntmps63
 go_wp2_with fail
 refine (picked_any c Bd B m _ w HX.out HM.out hml).mono ?_
 rintro e w1 ⟨pv,rfl,hrw,hb1⟩
 have HPX:Hid (Mx c Bd (pickL c m)):=HX.out.sub fun r hr=>pickL_mem hr
 have hpl:=pickL_len c m
 have HNL:Hid (normL c m=if (pickL c m).length+1=c then Lin.upr (Lin.low (muL c (pickL c m))) else []):=rfl
 have HNB:Hid (normB c m=decide ((pickL c m).length+1=c)):=rfl
 generalize pickL c m=P at *
 have HP:Hid (Mat w.heap.size 22 3 w1 pv P):=hrw.mat (Nat.le_refl _)
 have HB1:Hid (Below w.heap.size w w1):=hb1
 have hsz1:w.heap.size≤w1.heap.size:=hb1.size
 clear hrw hb1 hcc
 obtain ⟨po,pc,hpv,hpc1,hpc2⟩:=mat_open HP.out
 subst hpv
 by_cases hn:P.length+1=c
 ·have hnb:((P.length:Int) != (c:Int)-1)=false:=by rw [bne_eq_false_iff_eq]; omega
  have HNL2:Hid (normL c m=Lin.upr (Lin.low (muL c P))):=by show _=_; rw [HNL.out,if_pos hn]
  have HNB2:Hid (normB c m=true):=by show _=_; rw [HNB.out]; simpa using hn
  have HN:Hid (P.length+1=c):=hn
  clear hn
  have hPl:P.length≤4:=by have:=HN.out; omega
  go_wp2
  go_loopw [6,7] (fun x q wr=>∃k:Nat,k≤c∧q=.int .i64 k∧wr.ownsRow w1.heap.size 3 1 x k (ints ((muL c P).take k))∧Below w1.heap.size w1 wr) (fun _ q _=>c-(intOf q).toNat)
  case atStart=>exact ⟨0,Nat.zero_le _,rfl,World.ownsRow_nil _ _ _ _,Below.refl _ _⟩
  case round=>
   obtain ⟨k,hk,rfl,hown,hbel⟩:=hrel
   obtain ⟨wa,rfl⟩:∃wa,wa=wr:=⟨wr,rfl⟩
   have HO:Hid (wa.ownsRow w1.heap.size 3 1 u6 k (ints ((muL c P).take k))):=hown
   have HB:Hid (Below w1.heap.size w1 wa):=hbel
   have hsz:w1.heap.size≤wa.heap.size:=hbel.size
   clear hown hbel
   by_cases hlt:k < c
   ·obtain ⟨M,hM⟩:∃M,M=wa.heap.size:=⟨_,rfl⟩
    have HM2:Hid (M=wa.heap.size):=hM
    have hMs:w1.heap.size≤M:=by omega
    clear hM
    go_wp2
    go_loopw [8,9] (fun x q wq=>∃j:Nat,j≤c∧q=.int .i64 j∧wq.ownsRow M 3 1 x (skipL k j).length (ints (skipL k j))∧Below M wa wq) (fun _ q _=>c-(intOf q).toNat)
    case atStart=>exact ⟨0,Nat.zero_le _,rfl,World.ownsRow_nil _ _ _ _,Below.refl _ _⟩
    case round=>
     obtain ⟨j,hj,rfl,hown,hbel⟩:=hrel
     have HOq:Hid (wr.ownsRow M 3 1 u8 (skipL k j).length (ints (skipL k j))):=hown
     have HBq:Hid (Below M wa wr):=hbel
     have hszq:M≤wr.heap.size:=by have:=hbel.size; rw [HM2.out]; exact this
     clear hown hbel
     by_cases hjl:j < c
     ·have HSS:Hid (skipL k (j+1)=if j=k then skipL k j else skipL k j ++ [(j:Int)]):=skipL_succ k j
      have hsl:(skipL k j).length≤j:=by rw [skipL_spec.1]; split <;> omega
      by_cases hjk:j=k
      ·have hjb:((j:Int) != (k:Int))=false:=by rw [bne_eq_false_iff_eq]; omega
       have HSS2:Hid (skipL k (j+1)=skipL k j):=by show _=_; rw [HSS.out,if_pos hjk]
       clear hjk
       go_wp2
       go_roundw
       case rel=>exact ⟨j+1,by omega,by go_num,by rw [HSS2.out]; exact HOq.out,HBq.out⟩
       case measure=>simp [intOf]; omega
      ·have hjb:((j:Int) != (k:Int))=true:=by rw [bne_iff_ne]; omega
       have HSS2:Hid (skipL k (j+1)=skipL k j ++ [(j:Int)]):=by show _=_; rw [HSS.out,if_neg hjk]
       clear hjk
       generalize skipL k j=sl at *
       go_wp2_with (first | (at_builtin; refine wpList_append_own _ rfl _ _ 22 rfl M 3 i3 (.int .i64 0) 1 8 Tryz.underlying22 hi3 hz30 hz31 hz32 rfl (by decide) _ _ _ rfl (HOq.out.alloc _) ⟨wr.heap.size,0,none⟩ 1 1 [.int .i64 j] rfl rfl (one_new _ _ _) (one_int _) ?c3 ?c4 ?c5 ?_))
       case c3=>unfold maxLen; omega
       case c4=>omega
       case c5=>simp; omega
       intro v' w3 ho hg _
       have R:=owns_push (z:=(j:Int)) (N:=sl.length+1) hszq (l:=sl) HOq.out HBq.out ho hg rfl
       have R1:Hid (w3.ownsRow M 3 1 v' (sl.length+1) (ints (sl ++ [(j:Int)]))):=R.1
       have R2:Hid (Below M wa w3):=R.2
       clear R ho hg
       go_wp2
       go_roundw
       case rel=>exact ⟨j+1,by omega,by go_num,by rw [HSS2.out]; simpa using R1.out,R2.out⟩
       case measure=>simp [intOf]; omega
     ·have hjc:j=c:=by omega
      subst hjc
      have HS:Hid (Sl w.heap.size 3 wr u8 (ints (skipL k j))):=Sl.own HOq.out
      have HPr:Hid (Mat w.heap.size 22 3 wr (.slice po P.length pc) P):=(HP.out.below HB.out (Nat.le_refl _)).below HBq.out (by rw [HM2.out]; exact Nat.le_refl _)
      have HBw:Hid (Below w1.heap.size w1 wr):=HB.out.trans (HBq.out.mono hMs)
      have HOw:Hid (wr.ownsRow w1.heap.size 3 1 u6 k (ints ((muL j P).take k))):=owns_below HO.out HBq.out (by rw [HM2.out]; exact Nat.le_refl _)
      have hszw:w1.heap.size≤wr.heap.size:=HBw.out.size
      clear HO HB HOq HBq
      go_wp2_with fail
      refine (columns_any w.heap.size P (skipL k j) _ _ wr HPr.out HS.out (by omega) (by rw [skipL_len hlt]; omega) ?_).mono ?_
      ·intro q hq
       have h1:=skipL_mem hq
       exact ⟨h1.1,fun r hr=>by rw [HPX.out.row r hr]; exact h1.2⟩
      rintro e w2 ⟨xv,rfl,hrw,hb2⟩
      have HXV:Hid (Mat wr.heap.size 22 3 w2 xv (colsL P (skipL k j))):=hrw.mat (Nat.le_refl _)
      have HB2:Hid (Below wr.heap.size wr w2):=hb2
      clear hrw hb2
      go_wp2_with fail
      refine (det_any Bd wr.heap.size (colsL P (skipL k j)) xv w2 (sq_skip HPX.out HN.out hlt) HXV.out).mono ?_
      rintro e w3 ⟨rfl,hb3⟩
      have HB3:Hid (Below wr.heap.size wr w3):=HB2.out.trans (hb3.mono HB2.out.size)
      have HOw3:Hid (w3.ownsRow w1.heap.size 3 1 u6 k (ints ((muL j P).take k))):=owns_below HOw.out HB3.out (Nat.le_refl _)
      have HBw3:Hid (Below w1.heap.size w1 w3):=HBw.out.trans (HB3.out.mono hszw)
      have hszw3:w1.heap.size≤w3.heap.size:=HBw3.out.size
      have hdb:=mu_bd HPX.out HN.out hlt
      have HMU:Hid (Lin.mu (fm P) k=Lin.ngo k*detL (colsL P (skipL k j))):=by show _=_; rw [det_skip HN.out hlt]; rfl
      have HSN:Hid ((muL j P).take (k+1)=(muL j P).take k ++ [Lin.mu (fm P) k]):=muL_snoc j P k hlt
      clear hb3 HB2 HB3 HOw HBw HXV HPr HS
      generalize detL (colsL P (skipL k j))=D at *
      have hll:((muL j P).take k).length=k:=by simp [muL]; omega
      have HLL:Hid (((muL j P).take k).length=k):=hll
      clear hll
      by_cases hodd:k % 2=1
      ·have hob:((k:Int) % 2 == 1)=true:=by rw [beq_iff_eq]; omega
       have HODD:Hid (k % 2=1):=hodd
       clear hodd
       go_wp2_with (first | (at_builtin; refine wpList_append_own _ rfl _ _ 22 rfl w1.heap.size 3 i3 (.int .i64 0) 1 8 Tryz.underlying22 hi3 hz30 hz31 hz32 rfl (by decide) _ _ _ rfl (HOw3.out.alloc _) ⟨w3.heap.size,0,none⟩ 1 1 [.int .i64 (-D)] rfl rfl (one_new _ _ _) (one_int _) ?e3 ?e4 ?e5 ?_))
       case e3=>unfold maxLen; omega
       case e4=>omega
       case e5=>simp; omega
       intro v' w4 ho hg _
       have R:=owns_push (z:=(-D)) (N:=k+1) hszw3 (l:=(muL j P).take k) (by rw [HLL.out]; exact HOw3.out) HBw3.out (by rw [HLL.out]; exact ho) hg (by rw [HLL.out])
       have R1:Hid (w4.ownsRow w1.heap.size 3 1 v' (k+1) (ints ((muL j P).take (k+1)))):=by
        have:=R.1
        rw [HSN.out,HMU.out,ngo_mod,if_pos HODD.out,show (-1:Int)*D=-D by omega]; exact this
       have R2:Hid (Below w1.heap.size w1 w4):=R.2
       clear R ho hg
       go_wp2
       go_roundw
       case rel=>exact ⟨k+1,by omega,by go_num,R1.out,R2.out⟩
       case measure=>simp [intOf]; omega
      ·have hob:((k:Int) % 2 == 1)=false:=by rw [beq_eq_false_iff_ne]; omega
       have HODD:Hid (¬k % 2=1):=hodd
       clear hodd
       go_wp2_with (first | (at_builtin; refine wpList_append_own _ rfl _ _ 22 rfl w1.heap.size 3 i3 (.int .i64 0) 1 8 Tryz.underlying22 hi3 hz30 hz31 hz32 rfl (by decide) _ _ _ rfl (HOw3.out.alloc _) ⟨w3.heap.size,0,none⟩ 1 1 [.int .i64 D] rfl rfl (one_new _ _ _) (one_int _) ?f3 ?f4 ?f5 ?_))
       case f3=>unfold maxLen; omega
       case f4=>omega
       case f5=>simp; omega
       intro v' w4 ho hg _
       have R:=owns_push (z:=D) (N:=k+1) hszw3 (l:=(muL j P).take k) (by rw [HLL.out]; exact HOw3.out) HBw3.out (by rw [HLL.out]; exact ho) hg (by rw [HLL.out])
       have R1:Hid (w4.ownsRow w1.heap.size 3 1 v' (k+1) (ints ((muL j P).take (k+1)))):=by
        have:=R.1
        rw [HSN.out,HMU.out,ngo_mod,if_neg HODD.out,Int.one_mul]; exact this
       have R2:Hid (Below w1.heap.size w1 w4):=R.2
       clear R ho hg
       go_wp2
       go_roundw
       case rel=>exact ⟨k+1,by omega,by go_num,R1.out,R2.out⟩
       case measure=>simp [intOf]; omega
   ·have hkc:k=c:=by omega
    have HO2:Hid (wa.ownsRow w1.heap.size 3 1 u6 c (ints (muL c P))):=by
     have h:=HO.out
     rw [List.take_of_length_le (by simp [muL]; omega),hkc] at h
     exact h
    have HMB:Hid (∀z∈muL c P,z.natAbs≤1152921504606846976):=muL_bd HPX.out HN.out
    have hmul:(muL c P).length=c:=by simp [muL]
    have HMUL:Hid ((muL c P).length=c):=hmul
    have HBa:Hid (Below w.heap.size w wa):=HB1.out.trans (HB.out.mono hsz1)
    clear hkc HO hmul
    generalize muL c P=ml at *
    go_wp2_with fail
    refine (lowered_any 0 ml u6 wa (Sl.own HO2.out) (by rw [HMUL.out]; omega) (fun z hz=>Nat.le_trans (HMB.out z hz) (by omega))).mono ?_
    rintro e w2 ⟨lv,rfl,hlo,hb2⟩
    have HLB:Hid (∀z∈Lin.low ml,z.natAbs≤1152921504606846976):=low_bd HMB.out
    have hll:(Lin.low ml).length=c:=by rw [←HMUL.out]; simp [Lin.low]
    have HLLN:Hid ((Lin.low ml).length=c):=hll
    have HLO:Hid (Sl 0 3 w2 lv (ints (Lin.low ml))):=Sl.own hlo
    have HB2:Hid (Below w.heap.size w w2):=HBa.out.trans (hb2.mono HBa.out.size)
    have hsz2:w.heap.size≤w2.heap.size:=HB2.out.size
    clear hlo hb2 hll
    generalize Lin.low ml=lw at *
    obtain ⟨lo,lcap,hlv,hlc1,hlc2⟩:=sl_open HLO.out
    subst hlv
    have hlwl:=HLLN.out
    rw [hlwl] at hlc1 HLO ⊢
    clear hlwl
    go_wp2
    go_loopw [6,11] (fun y q wr=>∃k:Nat,k≤c∧q=.int .i64 k∧y=.slice lo c lcap∧wr=w2∧∀i,i < k→lw.getD i 0=0) (fun _ q _=>c-(intOf q).toNat)
    case atStart=>exact ⟨0,Nat.zero_le _,rfl,rfl,rfl,fun i hi=>absurd hi (by omega)⟩
    case round=>
     obtain ⟨t,ht,rfl,rfl,rfl,hzz⟩:=hrel
     have HZZ:Hid (∀i,i < t→lw.getD i 0=0):=hzz
     clear hzz
     by_cases htl:t < c
     ·have htl2:t < lw.length:=by rw [HLLN.out]; exact htl
      obtain ⟨b2,o2,cp2,hs2,hcx,hcc2⟩:=sl_cell (by rw [←HLLN.out] at HLO; exact HLO.out) htl2
      rw [HLLN.out] at hs2 hcx
      simp only [Value.slice.injEq] at hs2
      obtain ⟨rfl,_,rfl⟩:=hs2
      have hbd:=HLB.out (lw.getD t 0) (by simp [htl2])
      have HUP:Hid (lw.getD t 0≠0→Lin.upr lw=if lw.getD t 0 < 0 then lw.map (fun v=>-v) else lw):=by
       intro hne
       unfold Lin.upr
       rw [Lin.find_at htl2 HZZ.out hne]
      have HZ1:Hid (lw.getD t 0=0→∀i,i < t+1→lw.getD i 0=0):=by
       intro h0 i hi
       by_cases e:i < t
       ·exact HZZ.out i e
       ·rw [show i=t by omega]; exact h0
      generalize lw.getD t 0=x at *
      clear htl2
      by_cases hx0:x=0
      ·have hxb:(x != 0)=false:=by simp [hx0]
       have HZ2:=HZ1.out hx0
       have HZ3:Hid (∀i,i < t+1→lw.getD i 0=0):=HZ2
       clear hx0 HZ2
       go_wp2
       go_roundw
       case rel=>exact ⟨t+1,by omega,by go_num,by trivial,by trivial,HZ3.out⟩
       case measure=>simp [intOf]; omega
      ·have hxb:(x != 0)=true:=by simp [hx0]
       have HU:=HUP.out hx0
       by_cases hneg:x < 0
       ·have HU2:Hid (Lin.upr lw=lw.map (fun v=>-v)):=by show _=_; rw [HU,if_pos hneg]
        clear hx0 HU HUP
        go_wp2_with fail
        refine (turned_any 0 lw _ wr (by rw [←HLLN.out] at HLO; simpa [HLLN.out] using HLO.out) (by rw [HLLN.out]; omega) (fun z hz=>by have:=HLB.out z hz; omega)).mono ?_
        rintro e w5 ⟨tv,rfl,hto,hb5⟩
        have HTO:Hid (Sl 0 3 w5 tv (ints (lw.map fun z=>-z))):=Sl.own hto
        have HB5:Hid (Below w.heap.size w w5):=HB2.out.trans (hb5.mono hsz2)
        clear hto hb5
        go_wp2
        go_ret2
        refine ⟨tv,?_,?_,HB5.out⟩
        ·rw [HNB2.out]; rfl
        ·rw [HNL2.out,HU2.out]; exact HTO.out
       ·have HU2:Hid (Lin.upr lw=lw):=by show _=_; rw [HU,if_neg hneg]
        clear hx0 HU HUP
        go_wp2
        go_ret2
        refine ⟨.slice (some ⟨b2,o2,none⟩) c lcap,?_,?_,HB2.out⟩
        ·rw [HNB2.out]; rfl
        ·rw [HNL2.out,HU2.out]; exact HLO.out
     ·go_wp2
      go_ret2
      refine ⟨.slice lo c lcap,?_,?_,HB2.out⟩
      ·rw [HNB2.out]; rfl
      ·have hu:Lin.upr lw=lw:=by
        unfold Lin.upr
        rw [Lin.find_none (fun i hi=>HZZ.out i (by rw [HLLN.out] at hi; omega))]; simp
       rw [HNL2.out,hu]; exact HLO.out
 ·have hnb:((P.length:Int) != (c:Int)-1)=true:=by rw [bne_iff_ne]; omega
  have HNL2:Hid (normL c m=[]):=by show _=_; rw [HNL.out,if_neg hn]
  have HNB2:Hid (normB c m=false):=by show _=_; rw [HNB.out]; simpa using hn
  clear hn
  go_wp2
  go_ret2
  refine ⟨.slice none 0 0,?_,?_,HB1.out⟩
  ·rw [HNB2.out]; rfl
  ·rw [HNL2.out]; exact Sl.nil _ _ _
theorem normalR_any (c Bd B:Nat) (m:List (List Int)) (v:Value) (w:World) (hx:Mx c Bd m) (hm:Mat B 22 3 w v m) (hml:m.length≤500) (hm1:1≤m.length) :
  Calls Tryz.prog 63 #[v] w fun e w'=>∃x,e=.returned (.tuple #[x,.bool (normB c m)])∧Sl w.heap.size 3 w' x (ints (normL c m))∧Below w.heap.size w w':=
 (normalR_own c Bd B m v w hx hm hml hm1).mono fun _ _ ⟨x,h1,h2,h3⟩=>⟨x,h1,h2.more (Nat.zero_le _),h3⟩
end Go.Proofs.YtkfdpcgmpbopnaaGreatDoor
