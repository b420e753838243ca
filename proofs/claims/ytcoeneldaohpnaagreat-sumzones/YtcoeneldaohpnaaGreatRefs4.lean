import Derived.Test.YtcoeneldaohpnaaGreatMgAG
import Derived.Test.YtcoeneldaohpnaaGreatLinAll
namespace Go.Proofs.YtcoeneldaohpnaaGreat
open Go.RowKit
attribute [local go_sem ↓] Go.wp_at_zero Go.wp_at_succ
theorem Tryz.info4:(Tryz.prog.info? 4).map (fun i=>(i.zero,i.size,i.bytes))=some (some (.bool false),1,1):=by kernel_rfl
def fm (m:List (List Int)):List (Nat→Int):=m.map fun l j=>l.getD j 0
structure Sq (n Bd:Nat) (m:List (List Int)):Prop where
 len:m.length=n
 row:∀r∈m,n≤r.length
 bd:∀r∈m,∀j,j < n→(r.getD j 0).natAbs≤Bd
 small:Lin.fb Bd n≤1152921504606846976
 n64:n≤64
 pos:1≤Bd
theorem fb_mono {Bd : Nat} (h : 1 ≤ Bd) : ∀ {a b : Nat}, a ≤ b → Lin.fb Bd a ≤ Lin.fb Bd b := by
  intro a b hab
  induction b with
  | zero => have : a = 0 := by omega
            subst this; exact Nat.le_refl _
  | succ b ih =>
    by_cases e : a = b + 1
    · subst e; exact Nat.le_refl _
    · have := ih (by omega)
      simp only [Lin.fb]
      have h2 : 1 * Lin.fb Bd b ≤ (b + 1) * Bd * Lin.fb Bd b := Nat.mul_le_mul_right _ (Nat.mul_pos (by omega) (by omega))
      omega
theorem bool_restored {w w3:World} {g n:Nat} {t:TypeId} {f:Nat→Value} (h:w.rowIs g t n f) (h3:w3.rowIs g t n f) (ho:w3.os=w.os) (ht:w3.tape=w.tape) (hp:w3.output=w.output) (hs:w.heap.size≤w3.heap.size)
  (hb:∀b,b < w.heap.size→b≠g→w3.heap[b]?=w.heap[b]?):Below w.heap.size w w3:=by
 refine ⟨ho,ht,hp,hs,fun b hb'=>?_⟩
 by_cases e:b=g
 ·subst e
  obtain ⟨c,h1,h2,h4⟩:=h
  obtain ⟨c',h1',h2',h4'⟩:=h3
  rw [h1,h1']
  have:c=c':=by
   apply Array.ext
   ·omega
   ·intro i hi hi'
    have a1:=h4 i (by omega)
    have a2:=h4' i (by omega)
    rw [Array.getElem?_eq_getElem hi] at a1
    rw [Array.getElem?_eq_getElem hi'] at a2
    simp at a1 a2
    rw [a1,a2]
  rw [this]
 ·exact hb b hb' e
theorem rowIs_below {w w':World} {b N n:Nat} {t:TypeId} {f:Nat→Value} (h:w.rowIs b t n f) (hb:Below N w w') (hN:w.heap.size≤N):w'.rowIs b t n f:=
 h.of_block (hb.block b (Nat.lt_of_lt_of_le h.lt hN))
theorem Mat.setCell {B:Nat} {e2 e1 t:TypeId} {w:World} {v u:Value} {m:List (List Int)} {g k n:Nat} {f:Nat→Value} (h:Mat B e2 e1 w v m) (hr:w.rowIs g t n f) (hg:B≤g) (h1:t≠e1) (h2:t≠e2):Mat B e2 e1 (w.setCell ⟨g,k,none⟩ u) v m:=by
 obtain ⟨c,hc,_⟩:=hr
 obtain ⟨vs,q1,q2,q3⟩:=h
 have z:∀e,t≠e→∀cur,w.heap[g]?≠some (.cells cur e (0,0)):=by
  intro e he cur; rw [hc]; simp; intro _ hh; exact absurd hh he
 exact ⟨vs,q1,q2.setCell _ ⟨hg,z e2 h2⟩,fun i hi=>(q3 i hi).setCell _ ⟨hg,z e1 h1⟩⟩
def rowSum (n:Nat) (r:Nat→Int) (rs:List (Nat→Int)) (U:Nat→Bool) (k:Nat):Int:=
 Lin.sumN k fun j=>if U j then 0 else Lin.sg n U j*r j*Lin.od n rs (Lin.ins U j)
theorem rowSum_succ (n:Nat) (r:Nat→Int) (rs:List (Nat→Int)) (U:Nat→Bool) (k:Nat) :
  rowSum n r rs U (k+1)=rowSum n r rs U k+if U k then 0 else Lin.sg n U k*r k*Lin.od n rs (Lin.ins U k):=rfl
theorem cu_mono {U : Nat → Bool} {a b : Nat} (h : a ≤ b) : Lin.cu a U ≤ Lin.cu b U := by
  induction b with
  | zero => have : a = 0 := by omega
            subst this; exact Nat.le_refl _
  | succ b ih =>
    by_cases e : a = b + 1
    · subst e; exact Nat.le_refl _
    · have := ih (by omega); simp only [Lin.cu]; omega
theorem rowSum_bd {n Bd k:Nat} {r:Nat→Int} {rs:List (Nat→Int)} {U:Nat→Bool} (hr:∀j,j < n→(r j).natAbs≤Bd) (hrs:∀x∈rs,∀j,j < n→(x j).natAbs≤Bd) (hc:Lin.cu n U≤rs.length+1) (hk:k≤n) :
  (rowSum n r rs U k).natAbs≤Lin.fb Bd (rs.length+1):=by
 unfold rowSum
 refine Nat.le_trans (Lin.sum_bd (b:=Bd*Lin.fb Bd rs.length) fun j hj hU=>?_) ?_
 ·rw [Int.natAbs_mul,Int.natAbs_mul,Lin.sg_abs,Nat.one_mul]
  exact Nat.mul_le_mul (hr j (by omega)) (Lin.od_bd rs _ hrs (by have:=Lin.cu_ins (n:=n) (by omega) hU; omega))
 ·have h1:=cu_mono (U:=U) hk
  simp only [Lin.fb]
  rw [Nat.mul_assoc]; exact Nat.mul_le_mul_right _ (by omega)
theorem term_bd {n Bd j:Nat} {r:Nat→Int} {rs:List (Nat→Int)} {U:Nat→Bool} (hr:∀j,j < n→(r j).natAbs≤Bd) (hrs:∀x∈rs,∀j,j < n→(x j).natAbs≤Bd) (hc:Lin.cu n U≤rs.length+1) (hj:j < n) (hU:U j=false) :
  (Lin.od n rs (Lin.ins U j)).natAbs≤Lin.fb Bd rs.length∧(r j*Lin.od n rs (Lin.ins U j)).natAbs≤Lin.fb Bd (rs.length+1):=by
 have h1:=Lin.od_bd (n:=n) (B:=Bd) rs (Lin.ins U j) hrs (by have:=Lin.cu_ins (n:=n) hj hU; omega)
 refine ⟨h1,?_⟩
 rw [Int.natAbs_mul]
 have h2:=Nat.mul_le_mul (hr j hj) h1
 simp only [Lin.fb]
 have h3:1*(Bd*Lin.fb Bd rs.length)≤(rs.length+1)*(Bd*Lin.fb Bd rs.length):=Nat.mul_le_mul_right _ (by omega)
 rw [Nat.mul_assoc]; omega
theorem fm_drop {m:List (List Int)} {i:Nat} (h:i < m.length):fm (m.drop i)=(fun j=>(m.getD i []).getD j 0) :: fm (m.drop (i+1)):=by
 have e:m.drop i=m[i] :: m.drop (i+1):=(List.getElem_cons_drop (h:=h)).symm
 rw [e,show m.getD i []=m[i] by simp [h]]
 rfl
def OrdSaid (d:Nat):Prop:=∀(n Bd B0 g i:Nat) (m:List (List Int)) (U:Nat→Bool) (s:Int) (v:Value) (w:World),Sq n Bd m→i+d=n→B0≤g→Mat B0 26 3 w v m→
 w.rowIs g 4 n (fun j=>.bool (U j))→(s=1∨s=-1)→Lin.cu n U≤d→
 Calls Tryz.prog 39 #[v,.int .i64 i,.slice (some ⟨g,0,none⟩) n n,.int .i64 s] w fun e w'=>
  e=.returned (.int .i64 (s*Lin.od n (fm (m.drop i)) U))∧Below w.heap.size w w'
set_option maxRecDepth 100000 in
set_option maxHeartbeats 400000 in
theorem orders_zero:OrdSaid 0:=by
 intro n Bd B0 g i m U s v w hq hi hg hm hr hs hc
 obtain ⟨ao,cap,hvv,hlc,hcm⟩:=mat_open hm
 subst hvv
 have hil:i=m.length:=by have:=hq.len; omega
 have e1:fm (m.drop i)=[]:=by rw [hil,List.drop_length]; rfl
 have t0:((i:Int) == (m.length:Int))=true:=by simp [hil]
 have HE:Hid (fm (m.drop i)=[]):=e1
 clear hm hr hq e1 hil
 go_enter Tryz.func39,Tryz.ntmps39
 go_wp2
 go_ret
 exact ⟨ret_int (by rw [HE.out]; simp [Lin.od]),Below.refl _ _⟩
theorem sl_off {B:Nat} {e t:TypeId} {w:World} {b o n c g k:Nat} {xs:List Value} {f:Nat→Value} (h:Sl B e w (.slice (some ⟨b,o,none⟩) n c) xs) (hp:0 < xs.length) (hr:w.rowIs g t k f) (hg:B≤g) (hne:t≠e):b≠g:=by
 obtain ⟨ao,cap,hv,_,_,h3,_⟩:=h
 obtain ⟨b',o',hb,_,ht⟩:=h3 0 hp
 simp only [Value.slice.injEq] at hv
 obtain ⟨rfl,_,_⟩:=hv
 simp only [Option.some.injEq,Addr.mk.injEq] at hb
 obtain ⟨rfl,_,_⟩:=hb
 rintro rfl
 rcases ht with ht | ⟨cur,ht⟩
 ·omega
 ·obtain ⟨c',hc,_⟩:=hr
  rw [hc] at ht
  simp at ht
  exact hne ht.2
theorem mat_off {B:Nat} {w:World} {v:Value} {m:List (List Int)} {g n:Nat} {f:Nat→Value} (h:Mat B 26 3 w v m) {k:Nat} (hk:k < m.length) (hp:0 < (m.getD k []).length) (hr:w.rowIs g 4 n f) (hg:B≤g) :
  ∃b o cap b2 o2 cap2,v=.slice (some ⟨b,o,none⟩) m.length cap∧w.cell? ⟨b,o+k,none⟩=some (.slice (some ⟨b2,o2,none⟩) (m.getD k []).length cap2)∧b≠g∧b2≠g∧(m.getD k []).length≤cap2∧
   ∀j,j < (m.getD k []).length→w.cell? ⟨b2,o2+j,none⟩=some (.int .i64 ((m.getD k []).getD j 0)):=by
 have h':=h
 obtain ⟨vs,q1,q2,q3⟩:=h'
 obtain ⟨b,o,cap,u,hv,hc1,hcc,hu⟩:=mat_cell h hk
 have hu':=hu
 obtain ⟨b2,o2,cap2,hv2,hc2,_,hcell⟩:=hu'.at (by simpa using hp)
 simp only [ints_length] at hv2 hc2 hcell
 subst hv hv2
 refine ⟨b,o,cap,b2,o2,cap2,rfl,hcc,sl_off q2 (by omega) hr hg (by decide),sl_off hu (by simpa using hp) hr hg (by decide),hc2,fun j hj=>?_⟩
 rw [hcell j hj,ints_get _ _ hj]
theorem restore {w wa w2:World} {g k n:Nat} {U:Nat→Bool} (hk:k < n) (hU:U k=false) (h:w.rowIs g 4 n (fun j=>.bool (U j))) (hb:Below w.heap.size w wa) (ha:wa.rowIs g 4 n (fun j=>.bool (U j)))
  (h2:Below (wa.setCell ⟨g,k,none⟩ (.bool true)).heap.size (wa.setCell ⟨g,k,none⟩ (.bool true)) w2) :
  w2.cell? ⟨g,k,none⟩=some (.bool true)∧w2.frozen? ⟨g,k,none⟩=false∧Below w.heap.size w (w2.setCell ⟨g,k,none⟩ (.bool false)):=by
 have hsz:(wa.setCell ⟨g,k,none⟩ (.bool true)).heap.size=wa.heap.size:=by simp [World.setCell]
 have h3:w2.rowIs g 4 n (fun j=>if j=k then .bool true else .bool (U j)):=rowIs_below (ha.set k (.bool true)) h2 (Nat.le_refl _)
 refine ⟨?_,h3.frozen k,?_⟩
 ·have:=h3.cell hk; simpa using this
 ·have h4:(w2.setCell ⟨g,k,none⟩ (.bool false)).rowIs g 4 n (fun j=>.bool (U j)):=by
   refine (h3.set k (.bool false)).congr fun j hj=>?_
   by_cases e:j=k
   ·subst e; simp [hU]
   ·simp [e]
  refine bool_restored h h4 (h2.os.trans hb.os) (h2.tape.trans hb.tape) (h2.output.trans hb.output) ?_ fun b hb' hne=>?_
  ·have a1:=hb.size
   have a2:=h2.size
   have a3:(w2.setCell ⟨g,k,none⟩ (.bool false)).heap.size=w2.heap.size:=by simp [World.setCell]
   omega
  ·have a1:=hb.size
   rw [Below.heap_setCell _ _ _ _ hne,h2.block b (by omega),Below.heap_setCell _ _ _ _ hne]
   exact hb.block b hb'
theorem keep2 {wa W w2:World} {g k:Nat} {u v1 v2:Value} {a1 a2:Addr} (hb:Below W.heap.size W w2) (h1:a1.block≠g) (h2:a2.block≠g) (c1:wa.cell? a1=some v1) (c2:wa.cell? a2=some v2)
  (hW:W.heap=(wa.setCell ⟨g,k,none⟩ u).heap:=by rfl):Hid (w2.cell? a1=some v1∧w2.cell? a2=some v2):=by
 have hs:W.heap.size=wa.heap.size:=by rw [hW]; simp [World.setCell]
 have l1:=World.block_lt_of_cell? wa a1 c1
 have l2:=World.block_lt_of_cell? wa a2 c2
 have e:∀a:Addr,a.block≠g→W.cell? a=wa.cell? a:=by
  intro a ha
  refine World.cell?_of_block (w:=wa) ?_
  rw [hW]; exact Below.heap_setCell _ _ _ _ ha
 exact ⟨(hb.cell (by omega)).trans ((e a1 h1).trans c1),(hb.cell (by omega)).trans ((e a2 h2).trans c2)⟩
theorem sgn_cases (n:Nat) (U:Nat→Bool) (k:Nat) {s:Int} (hs:s=1∨s=-1):s*Lin.sg n U k=1∨s*Lin.sg n U k=-1:=by
 have:=Lin.sg_abs n U k
 rcases hs with rfl | rfl <;> omega
set_option maxRecDepth 100000 in
set_option maxHeartbeats 2000000 in
theorem orders_step (d:Nat) (ih:OrdSaid d):OrdSaid (d+1):=by
 intro n Bd B0 g i m U s v w hq hi hg hm hr hs hc
 obtain ⟨ao,cap,hvv,hlc,hcm⟩:=mat_open hm
 subst hvv
 have hln:=hq.len
 have hn64:=hq.n64
 have hil:i < m.length:=by omega
 have HIL:Hid (i < m.length):=hil
 have hmem:m.getD i []∈m:=by simp [hil]
 have hrl:=hq.row _ hmem
 have HQ:Hid (Sq n Bd m):=hq
 have HM:Hid (Mat B0 26 3 w (.slice ao m.length cap) m):=hm
 have HR:Hid (w.rowIs g 4 n (fun j=>.bool (U j))):=hr
 have HIH:Hid (OrdSaid d):=ih
 obtain ⟨rs,hrs⟩:∃rs,rs=fm (m.drop (i+1)):=⟨_,rfl⟩
 obtain ⟨r,hrr⟩:∃r:Nat→Int,r=fun j=>(m.getD i []).getD j 0:=⟨_,rfl⟩
 have HFM:Hid (fm (m.drop i)=r :: rs):=by rw [hrs,hrr]; exact fm_drop hil
 have HRS:Hid (rs=fm (m.drop (i+1))):=hrs
 have HRR:Hid (r=fun j=>(m.getD i []).getD j 0):=hrr
 have hrsl:rs.length=d:=by rw [hrs]; simp [fm]; omega
 have HRSL:Hid (rs.length=d):=hrsl
 have HRB:Hid (∀j,j < n→(r j).natAbs≤Bd):=by rw [hrr]; exact fun j hj=>hq.bd _ hmem j hj
 have HRSB:Hid (∀x∈rs,∀j,j < n→(x j).natAbs≤Bd):=by
  rw [hrs]; intro x hx j hj
  simp only [fm,List.mem_map] at hx
  obtain ⟨l,hl,rfl⟩:=hx
  exact hq.bd l (List.mem_of_mem_drop hl) j hj
 have HC:Hid (Lin.cu n U≤rs.length+1):=by rw [hrsl]; exact hc
 have hfb:Lin.fb Bd (rs.length+1)≤1152921504606846976:=Nat.le_trans (fb_mono hq.pos (by omega)) hq.small
 have t0:((i:Int) == (m.length:Int))=false:=by simp; omega
 have hnI:(m.length:Int)=(n:Int):=by omega
 subst hln
 obtain ⟨bm,om,cpm,br,orr,rc,hsm,hccm,hbg,hrg,hrc1,hcr⟩:=mat_off HM.out HIL.out (by omega) HR.out hg
 simp only [Value.slice.injEq] at hsm
 obtain ⟨rfl,_,rfl⟩:=hsm
 have HCR:Hid (∀j,j < m.length→w.cell? ⟨br,orr+j,none⟩=some (.int .i64 (r j))):=by
  rw [hrr]; exact fun j hj=>hcr j (by omega)
 have hbm:=lt_of_cell hccm
 have hbr:br < w.heap.size:=lt_of_cell (HCR.out 0 (by omega))
 clear hm hr hq ih hrs hrr hmem hrsl hc hnI hcr
 generalize hL:(m.getD i []).length=L at *
 have HLL:Hid ((m.getD i []).length=L):=hL
 clear hL
 go_enter Tryz.func39,Tryz.ntmps39
 go_wp2
 go_loopw [9,10] (fun x q wr=>∃k:Nat,k≤m.length∧q=.int .i64 k∧x=.int .i64 (s*rowSum m.length r rs U k)∧Below w.heap.size w wr) (fun _ q _=>m.length-(intOf q).toNat)
 case atStart=>exact ⟨0,Nat.zero_le _,rfl,by simp [rowSum,Lin.sumN],Below.refl _ _⟩
 case round=>
  obtain ⟨k,hk,rfl,rfl,hbel⟩:=hrel
  obtain ⟨wa,rfl⟩:∃wa,wa=wr:=⟨wr,rfl⟩
  have HB:Hid (Below w.heap.size w wa):=hbel
  have HRa:Hid (wa.rowIs g 4 m.length (fun j=>.bool (U j))):=rowIs_below HR.out hbel (Nat.le_refl _)
  have HMa:Hid (Mat B0 26 3 wa (.slice (some ⟨bm,om,none⟩) m.length cap) m):=HM.out.below hbel (Nat.le_refl _)
  have hb1:=rowSum_bd (k:=k) HRB.out HRSB.out HC.out hk
  clear hbel
  by_cases hlt:k < m.length
  ·have hcl:=HRa.out.cell hlt
   have hb2:=rowSum_bd (k:=k+1) HRB.out HRSB.out HC.out (by omega)
   cases hU:U k
   ·rw [hU] at hcl
    have hfz:=HRa.out.frozen k
    have hca:wa.cell? ⟨bm,om+i,none⟩=some (.slice (some ⟨br,orr,none⟩) L rc):=(HB.out.cell hbm).trans hccm
    have hcb:wa.cell? ⟨br,orr+k,none⟩=some (.int .i64 (r k)):=(HB.out.cell hbr).trans (HCR.out k hlt)
    obtain ⟨tb1,tb2⟩:=term_bd HRB.out HRSB.out HC.out hlt hU
    have HU:Hid (U k=false):=hU
    generalize hA:s*rowSum m.length r rs U k=A
    have HA:Hid (s*rowSum m.length r rs U k=A):=hA
    have hA1 : -1152921504606846976≤A∧A≤1152921504606846976:=by
     rw [←hA]; rcases hs with rfl | rfl <;> omega
    clear hA hU
    go_wp2
    go_loop [11,12] (fun t q=>∃j:Nat,k+1≤j∧j≤m.length∧q=.int .i64 j∧t=.int .i64 (s*Lin.sg j U k)) (fun _ q=>m.length-(intOf q).toNat)
    case atStart=>exact ⟨k+1,Nat.le_refl _,by omega,by go_num,by rw [Lin.sg_last U (by omega)]; simp⟩
    case round=>
     obtain ⟨j,hj1,hj2,rfl,rfl⟩:=hrel
     have hsc:=sgn_cases j U k hs
     by_cases hjl:j < m.length
     ·have hclj:=HRa.out.cell hjl
      have hsn:s*Lin.sg (j+1) U k=if U j then-(s*Lin.sg j U k) else s*Lin.sg j U k:=by
       simp only [Lin.sg]
       cases U j
       ·simp
       ·rw [if_pos ⟨by omega,rfl⟩,if_pos rfl,Int.mul_neg]
      have HSN:Hid (s*Lin.sg (j+1) U k=if U j then-(s*Lin.sg j U k) else s*Lin.sg j U k):=hsn
      clear hsn
      generalize s*Lin.sg j U k=tt at *
      have hsc1 : -1≤tt:=by omega
      have hsc2:tt≤1:=by omega
      clear hsc
      cases hUj:U j
      ·rw [hUj] at hclj
       go_wp2
       go_round
       case rel=>exact ⟨j+1,by omega,by omega,by go_num,by rw [HSN.out,hUj]; simp⟩
       case measure=>simp [intOf]; omega
      ·rw [hUj] at hclj
       go_wp2
       go_round
       case rel=>exact ⟨j+1,by omega,by omega,by go_num,by rw [HSN.out,hUj]; simp⟩
       case measure=>simp [intOf]; omega
     ·have hjn:j=m.length:=by omega
      subst hjn
      have HAS:Hid (s*rowSum m.length r rs U (k+1)=A+r k*(s*Lin.sg m.length U k*Lin.od m.length rs (Lin.ins U k))):=by
       show _=_
       rw [rowSum_succ,HU.out,←HA.out]; simp only [Bool.false_eq_true,if_false]; grind
      generalize s*Lin.sg m.length U k=t at *
      have HX:Hid (t*Lin.od m.length rs (Lin.ins U k)=t*Lin.od m.length rs (Lin.ins U k)):=rfl
      obtain ⟨pv,hpv⟩:∃pv,pv=t*Lin.od m.length rs (Lin.ins U k):=⟨_,rfl⟩
      have HPV:Hid (pv=t*Lin.od m.length rs (Lin.ins U k)):=hpv
      have hp1:(r k*pv).natAbs≤1152921504606846976:=by
       have e:(r k*pv).natAbs=(r k*Lin.od m.length rs (Lin.ins U k)).natAbs:=by
        have ht1:t.natAbs=1:=by omega
        rw [hpv,Int.natAbs_mul,Int.natAbs_mul,Int.natAbs_mul,ht1,Nat.one_mul]
       rw [e]; omega
      rw [←hpv] at HAS
      have hts:t=1∨t=-1:=hsc
      have HTS:Hid (t=1∨t=-1):=hts
      clear hsc hts hpv HX tb1 tb2 hb1 hb2
      generalize r k=rk at *
      by_cases hz:rk=0
      ·have hzb:(rk != 0)=false:=by simp [hz]
       have HZ:Hid (rk=0):=hz
       clear hz
       go_wp2
       go_roundw
       case rel=>
        obtain ⟨_,_,h3⟩:=restore (w2:=wa.setCell ⟨g,k,none⟩ (.bool true)) hlt HU.out HR.out HB.out HRa.out (Below.refl _ _)
        exact ⟨k+1,by omega,by go_num,by rw [HAS.out,HZ.out]; simp,h3⟩
       case measure=>simp [intOf]; omega
      ·have hzb:(rk != 0)=true:=by simp [hz]
       clear hz
       have HCALL:Hid (∀W:World,W.heap=(wa.setCell ⟨g,k,none⟩ (.bool true)).heap→Calls Tryz.prog 39 #[.slice (some ⟨bm,om,none⟩) m.length cap,.int .i64 (IntKind.i64.wrap ((i:Int)+1)),.slice (some ⟨g,0,none⟩) m.length m.length,.int .i64 t] W
         fun e w'=>e=.returned (.int .i64 pv)∧Below W.heap.size W w'):=by
        intro W hW
        have e1:IntKind.i64.wrap ((i:Int)+1)=((i+1:Nat):Int):=by
         rw [IntWalk.i64_left]; rw [IntWalk.wrap64_in _ ⟨by omega,by omega⟩]; omega
        have hr1:W.rowIs g 4 m.length (fun j=>.bool (Lin.ins U k j)):=by
         refine (((HRa.out.set k (.bool true)).of_block (w':=W) (by rw [hW])).congr fun j hj=>?_)
         unfold Lin.ins
         by_cases e:j=k <;> simp [e]
        have hm1:Mat B0 26 3 W (.slice (some ⟨bm,om,none⟩) m.length cap) m:=by
         have hm0:=HMa.out.setCell (k:=k) (u:=.bool true) HRa.out hg (by decide) (by decide)
         obtain ⟨vs,q1,q2,q3⟩:=hm0
         have mv:∀e v xs,Sl B0 e (wa.setCell ⟨g,k,none⟩ (.bool true)) v xs→Sl B0 e W v xs:=fun e v xs h=>h.move fun b _ ht=>⟨by rw [hW],ht⟩
         exact ⟨vs,q1,mv _ _ _ q2,fun i hi=>mv _ _ _ (q3 i hi)⟩
        have hc1:Lin.cu m.length (Lin.ins U k)≤d:=by
         have h1:=Lin.cu_ins hlt HU.out
         have h2:=HC.out
         rw [HRSL.out] at h2
         omega
        have h:=HIH.out m.length Bd B0 g (i+1) m (Lin.ins U k) t _ W HQ.out (by omega) hg hm1 hr1 HTS.out hc1
        rw [←HRS.out,←HPV.out] at h
        rw [e1]; exact h
       have K0:Hid ((wa.setCell ⟨g,k,none⟩ (.bool true)).cell? ⟨bm,om+i,none⟩=some (.slice (some ⟨br,orr,none⟩) L rc)∧(wa.setCell ⟨g,k,none⟩ (.bool true)).cell? ⟨br,orr+k,none⟩=some (.int .i64 rk)):=
        keep2 (W:=wa.setCell ⟨g,k,none⟩ (.bool true)) (Below.refl _ _) hbg hrg hca hcb
       have k1:=K0.out.1
       have k2:=K0.out.2
       have hkI0:(0:Int)≤(k:Int):=by omega
       have hkI1:(k:Int) < (L:Int):=by omega
       have hiI0:(0:Int)≤(i:Int):=by omega
       have hiI1:(i:Int) < (m.length:Int):=by omega
       go_wp2
       go_region_held3 (fun w'=>w'.cell? ⟨bm,om+i,none⟩=some (.slice (some ⟨br,orr,none⟩) L rc)∧w'.cell? ⟨br,orr+k,none⟩=some (.int .i64 rk)) (first | go_keep | exact KS.out | exact ⟨k1,k2⟩)
        ((go_at_call 39; refine (HCALL.out _ (by rfl)).mono ?_; rintro e w2 ⟨rfl,hb2⟩; have KS:Hid (w2.cell? ⟨bm,om+i,none⟩=some (.slice (some ⟨br,orr,none⟩) L rc)∧w2.cell? ⟨br,orr+k,none⟩=some (.int .i64 rk)):=keep2 hb2 hbg hrg hca hcb))
       have e2:IntKind.i64.wrap (A+IntKind.i64.wrap (rk*pv))=A+rk*pv:=by
        rw [IntWalk.i64_left,IntWalk.i64_left,IntWalk.wrap64_in (rk*pv) ⟨by omega,by omega⟩,IntWalk.wrap64_in _ ⟨by omega,by omega⟩]
       rw [e2]
       have R:=restore (w2:=w2) hlt HU.out HR.out HB.out HRa.out ⟨hb2.os,hb2.tape,hb2.output,hb2.size,hb2.block⟩
       have hd1:=R.1
       have hd2:=R.2.1
       have HD3:Hid (Below w.heap.size w (w2.setCell ⟨g,k,none⟩ (.bool false))):=R.2.2
       clear R hb2 KS k1 k2 K0 e2 HCALL
       go_wp2
       go_roundw
       case rel=>exact ⟨k+1,by omega,by go_num,by rw [HAS.out],HD3.out⟩
       case measure=>simp [intOf]; omega
   ·rw [hU] at hcl
    go_wp2
    go_roundw
    case rel=>exact ⟨k+1,by omega,by go_num,by rw [rowSum_succ,hU]; simp,HB.out⟩
    case measure=>simp [intOf]; omega
  ·go_wp2
   go_ret
   have e:k=m.length:=by omega
   refine ⟨ret_int ?_,HB.out⟩
   rw [HFM.out,e]; rfl
theorem orders_any (d:Nat):OrdSaid d:=by
 induction d with
 | zero=>exact orders_zero
 | succ d ih=>exact orders_step d ih
def detL (m:List (List Int)):Int:=Lin.od m.length (fm m) fun _=>false
set_option maxRecDepth 100000 in
set_option maxHeartbeats 400000 in
theorem det_any (Bd B:Nat) (m:List (List Int)) (v:Value) (w:World) (hq:Sq m.length Bd m) (hm:Mat B 26 3 w v m) :
  Calls Tryz.prog 21 #[v] w fun e w'=>e=.returned (.int .i64 (detL m))∧Below w.heap.size w w':=by
 obtain ⟨ao,cap,hvv,hlc,hcm⟩:=mat_open hm
 subst hvv
 have hn:=hq.n64
 have HM:Hid (Mat B 26 3 w (.slice ao m.length cap) m):=hm
 have HQ:Hid (Sq m.length Bd m):=hq
 clear hm hq
 have hmk:=run_make_row' (P:=Tryz.prog) 56 4 (.bool false) 1 Tryz.underlying56 Tryz.info4 rfl .i64 .i64 m.length (by omega) (by omega)
 have hal:=(Below.refl w.heap.size w).alloc (Nat.le_refl _) (.cells (madeCells #[.bool false] m.length) 4)
 have HAL:Hid (Below w.heap.size w (w.alloc (.cells (madeCells #[.bool false] m.length) 4))):=hal
 clear hal
 go_enter Tryz.func21,Tryz.ntmps21
 go_wp2_with fail
 have h:=orders_any m.length m.length Bd w.heap.size w.heap.size 0 m (fun _=>false) 1 _ (w.alloc (.cells (madeCells #[.bool false] m.length) 4)) HQ.out (by omega) (Nat.le_refl _)
  ((HM.out.any (Nat.le_refl _)).below HAL.out (Nat.le_refl _)) (World.rowIs_made w (.bool false) m.length 4) (Or.inl rfl) (by rw [Lin.cu_none]; exact Nat.le_refl _)
 refine h.mono ?_
 rintro e w2 ⟨rfl,hb2⟩
 have HB2:Hid (Below w.heap.size w w2):=HAL.out.trans (hb2.mono (by simp))
 clear hb2 h
 go_wp2
 go_ret
 exact ⟨ret_int (by simp [detL]),HB2.out⟩
end Go.Proofs.YtcoeneldaohpnaaGreat
