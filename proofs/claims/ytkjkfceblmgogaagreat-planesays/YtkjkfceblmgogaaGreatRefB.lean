import Derived.Test.YtkjkfceblmgogaaGreatRefA
set_option maxRecDepth 100000
set_option maxHeartbeats 4000000
namespace Go.Proofs.YtkjkfceblmgogaaGreat
open Go.RowKit
attribute [local go_sem ↓] Go.wp_at_zero Go.wp_at_succ
theorem Tryz.info4:(Tryz.prog.info? 4).map (fun i=>(i.zero,i.size,i.bytes))=some (some (.bool false),1,1):=by kernel_rfl
def fm(m:List (List Int)):List (Nat→Int):=m.map fun l j=>l.getD j 0
structure Sq(n Bd:Nat)(m:List (List Int)):Prop where
 len:m.length=n
 row:∀r∈m,n≤r.length
 bd:∀r∈m,∀j,j < n→(r.getD j 0).natAbs≤Bd
 small:Lin.fb Bd n≤1152921504606846976
 n64:n≤64
 pos:1≤Bd
theorem ZAz{Bd : Nat}(h : 1 ≤ Bd) : ∀ {a b : Nat}, a ≤ b → Lin.fb Bd a ≤ Lin.fb Bd b := by
  intro a b c
  induction b with
  | zero => have : a = 0 := by omega
            subst this; exact Za4 _
  | succ b ih =>
    by_cases e : a = b + 1
    · subst e; exact Za4 _
    · have := ih (by omega)
      simp only [Lin.fb]
      have d : 1 * Lin.fb Bd b ≤ (b + 1) * Bd * Lin.fb Bd b := Nat.mul_le_mul_right _ (Nat.mul_pos (by omega) (by omega))
      omega
theorem ZFn{w w3:World}{g n:Nat}{t:TypeId}{f:Nat→Value}(h:w.rowIs g t n f)(h3:w3.rowIs g t n f)(ho:w3.os=w.os)(ht:w3.tape=w.tape)(hp:w3.output=w.output)(hs:w.heap.size≤w3.heap.size)
 (hb:∀b,b < w.heap.size→b≠g→w3.heap[b]?=w.heap[b]?):Below w.heap.size w w3:=by
 refine ⟨ho,ht,hp,hs,fun b hb'=>?_⟩
 by_cases e:b=g
 ·subst e
  obtain ⟨c,p,x,s⟩:=h;obtain ⟨o,d,r,a⟩:=h3;rw [p,d]
  have:c=o:=by
   apply Array.ext
   ·omega
   ·intro i v j
    have m:=s i (by omega)
    have l:=a i (by omega)
    rw [Array.getElem?_eq_getElem v] at m;rw [Array.getElem?_eq_getElem j] at l;simp at m l;rw [m,l]
  rw [this]
 ·exact hb b hb' e
theorem ZED{w w':World}{b N n:Nat}{t:TypeId}{f:Nat→Value}(h:w.rowIs b t n f)(hb:Below N w w')(hN:w.heap.size≤N):w'.rowIs b t n f:=
 h.of_block (hb.block b (Nat.lt_of_lt_of_le h.lt hN))
theorem Mat.setCell{B:Nat}{e2 e1 t:TypeId}{w:World}{v u:Value}{m:List (List Int)}{g k n:Nat}{f:Nat→Value}(h:Mat B e2 e1 w v m)(hr:w.rowIs g t n f)(hg:B≤g)(h1:t≠e1)(h2:t≠e2):Mat B e2 e1 (w.setCell ⟨g,k,none⟩ u) v m:=by
 obtain ⟨c,j,_⟩:=hr;obtain ⟨d,o,r,l⟩:=h
 have z:∀e,t≠e→∀a,w.heap[g]?≠some (.cells a e (0,0)):=by
  intro e b a; rw [j]; simp; intro _ p; exact absurd p b
 exact ⟨d,o,r.setCell _ ⟨hg,z e2 h2⟩,fun i hi=>(l i hi).setCell _ ⟨hg,z e1 h1⟩⟩
def ZC4(n:Nat)(r:Nat→Int)(rs:List (Nat→Int))(U:Nat→Bool)(k:Nat):Int:=
 Lin.sumN k fun j=>if U j then 0 else Lin.sg n U j*r j*Lin.od n rs (Lin.ins U j)
theorem ZEE(n:Nat)(r:Nat→Int)(rs:List (Nat→Int))(U:Nat→Bool)(k:Nat) :
  ZC4 n r rs U (k+1)=ZC4 n r rs U k+if U k then 0 else Lin.sg n U k*r k*Lin.od n rs (Lin.ins U k):=rfl
theorem ZO7{U : Nat → Bool}{a b : Nat}(h : a ≤ b) : Lin.cu a U ≤ Lin.cu b U := by
  induction b with
  | zero => have : a = 0 := by omega
            subst this; exact Za4 _
  | succ b ih =>
    by_cases e : a = b + 1
    · subst e; exact Za4 _
    · have := ih (by omega); simp only [Lin.cu]; omega
theorem ZGc{n Bd k:Nat}{r:Nat→Int}{rs:List (Nat→Int)}{U:Nat→Bool}(hr:∀j,j < n→(r j).natAbs≤Bd)(hrs:∀x∈rs,∀j,j < n→(x j).natAbs≤Bd)(hc:Lin.cu n U≤rs.length+1)(hk:k≤n) :
  (ZC4 n r rs U k).natAbs≤Lin.fb Bd (rs.length+1):=by
 unfold ZC4
 refine Zaa8 (Lin.sum_bd (b:=Bd*Lin.fb Bd rs.length) fun j hj hU=>?_) ?_
 ·rw [Int.natAbs_mul,Int.natAbs_mul,Lin.sg_abs,Nat.one_mul]
  exact Nat.mul_le_mul (hr j (by omega)) (Lin.od_bd rs _ hrs (by have:=Lin.cu_ins (n:=n) (by omega) hU; omega))
 ·have a:=ZO7 (U:=U) hk
  simp only [Lin.fb]
  rw [Nat.mul_assoc]; exact Nat.mul_le_mul_right _ (by omega)
theorem ZO8{n Bd j:Nat}{r:Nat→Int}{rs:List (Nat→Int)}{U:Nat→Bool}(hr:∀j,j < n→(r j).natAbs≤Bd)(hrs:∀x∈rs,∀j,j < n→(x j).natAbs≤Bd)(hc:Lin.cu n U≤rs.length+1)(hj:j < n)(hU:U j=false) :
  (Lin.od n rs (Lin.ins U j)).natAbs≤Lin.fb Bd rs.length∧(r j*Lin.od n rs (Lin.ins U j)).natAbs≤Lin.fb Bd (rs.length+1):=by
 have a:=Lin.od_bd (n:=n) (B:=Bd) rs (Lin.ins U j) hrs (by have:=Lin.cu_ins (n:=n) hj hU; omega)
 refine ⟨a,?_⟩;rw [Int.natAbs_mul];have b:=Nat.mul_le_mul (hr j hj) a;simp only [Lin.fb]
 have c:1*(Bd*Lin.fb Bd rs.length)≤(rs.length+1)*(Bd*Lin.fb Bd rs.length):=Nat.mul_le_mul_right _ (by omega)
 rw [Nat.mul_assoc]; omega
theorem ZO9{m:List (List Int)}{i:Nat}(h:i < m.length):fm (m.drop i)=(fun j=>(m.getD i []).getD j 0) :: fm (m.drop (i+1)):=by
 have e:m.drop i=m[i] :: m.drop (i+1):=(List.getElem_cons_drop (h:=h)).symm
 rw [e,show m.getD i []=m[i] by simp [h]]
 rfl
def ZEF(d:Nat):Prop:=∀(n Bd B0 g i:Nat) (m:List (List Int)) (U:Nat→Bool) (s:Int) (v:Value) (w:World),Sq n Bd m→i+d=n→B0≤g→Mat B0 27 3 w v m→
 w.rowIs g 4 n (fun j=>.bool (U j))→(s=1∨s=-1)→Lin.cu n U≤d→
 Calls Tryz.prog 94 #[v,.int .i64 i,.slice (some ⟨g,0,none⟩) n n,.int .i64 s] w fun e w'=>
  e=.returned (.int .i64 (s*Lin.od n (fm (m.drop i)) U))∧Below w.heap.size w w'
theorem ZHj:ZEF 0:=by
 intro n Bd t g i m U s v w f D y d j x z;obtain ⟨A,o,b,r,l⟩:=ZAD d;subst b
 have a:i=m.length:=by have:=f.len; omega
 have c:fm (m.drop i)=[]:=by rw [a,List.drop_length]; rfl
 have B:((i:Int) == (m.length:Int))=true:=by simp [a]
 have p:=hid c;clear d j f c a;go_enter Tryz.func94,Tryz.ntmps94;go_wp2;go_ret
 exact ⟨ZBA (by rw [p.out]; simp [Lin.od]),Below.refl _ _⟩
theorem ZOS{B:Nat}{e t:TypeId}{w:World}{b o n c g k:Nat}{xs:List Value}{f:Nat→Value}(h:Sl B e w (.slice (some ⟨b,o,none⟩) n c) xs)(hp:0 < xs.length)(hr:w.rowIs g t k f)(hg:B≤g)(hne:t≠e):b≠g:=by
 obtain ⟨r,j,hv,_,_,l,_⟩:=h;obtain ⟨p,s,d,_,a⟩:=l 0 hp;simp only [Za3] at hv;obtain ⟨rfl,_,_⟩:=hv;simp only [Zaa9,Addr.mk.injEq] at d;obtain ⟨rfl,_,_⟩:=d;rintro rfl
 rcases a with a | ⟨cur,a⟩
 ·omega
 ·obtain ⟨m,i,_⟩:=hr
  rw [i] at a;simp at a;exact hne a.2
theorem ZPA{B:Nat}{w:World}{v:Value}{m:List (List Int)}{g n:Nat}{f:Nat→Value}(h:Mat B 27 3 w v m){k:Nat}(hk:k < m.length)(hp:0 < (m.getD k []).length)(hr:w.rowIs g 4 n f)(hg:B≤g) :
  ∃b o cap b2 o2 cap2,v=.slice (some ⟨b,o,none⟩) m.length cap∧w.cell? ⟨b,o+k,none⟩=some (.slice (some ⟨b2,o2,none⟩) (m.getD k []).length cap2)∧b≠g∧b2≠g∧(m.getD k []).length≤cap2∧
   ∀j,j < (m.getD k []).length→w.cell? ⟨b2,o2+j,none⟩=some (.int .i64 ((m.getD k []).getD j 0)):=by
 have r:=h;obtain ⟨x,z,s,y⟩:=r;obtain ⟨b,o,cap,u,hv,t,i,p⟩:=ZAP h hk;have l:=p
 obtain ⟨b2,o2,cap2,d,c,_,a⟩:=l.at (by simpa using hp)
 simp only [ZA2] at d c a;subst hv d
 refine ⟨b,o,cap,b2,o2,cap2,rfl,i,ZOS s (by omega) hr hg (by decide),ZOS p (by simpa using hp) hr hg (by decide),c,fun j hj=>?_⟩
 rw [a j hj,ZAZ _ _ hj]
theorem ZKW{w wa w2:World}{g k n:Nat}{U:Nat→Bool}(hk:k < n)(hU:U k=false)(h:w.rowIs g 4 n (fun j=>.bool (U j)))(hb:Below w.heap.size w wa)(ha:wa.rowIs g 4 n (fun j=>.bool (U j)))
 (h2:Below (wa.setCell ⟨g,k,none⟩ (.bool true)).heap.size (wa.setCell ⟨g,k,none⟩ (.bool true)) w2) :
  w2.cell? ⟨g,k,none⟩=some (.bool true)∧w2.frozen? ⟨g,k,none⟩=false∧Below w.heap.size w (w2.setCell ⟨g,k,none⟩ (.bool false)):=by
 have c:(wa.setCell ⟨g,k,none⟩ (.bool true)).heap.size=wa.heap.size:=by simp [World.setCell]
 have a:w2.rowIs g 4 n (fun j=>if j=k then .bool true else .bool (U j)):=ZED (ha.set k (.bool true)) h2 (Za4 _)
 refine ⟨?_,a.frozen k,?_⟩
 ·have:=a.cell hk; simpa using this
 ·have d:(w2.setCell ⟨g,k,none⟩ (.bool false)).rowIs g 4 n (fun j=>.bool (U j)):=by
   refine (a.set k (.bool false)).congr fun j hj=>?_
   by_cases e:j=k
   ·subst e; simp [hU]
   ·simp [e]
  refine ZFn h d (h2.os.trans hb.os) (h2.tape.trans hb.tape) (h2.output.trans hb.output) ?_ fun b hb' hne=>?_
  ·have f:=hb.size
   have l:=h2.size
   have i:(w2.setCell ⟨g,k,none⟩ (.bool false)).heap.size=w2.heap.size:=by simp [World.setCell]
   omega
  ·have f:=hb.size
   rw [Below.heap_setCell _ _ _ _ hne,h2.block b (by omega),Below.heap_setCell _ _ _ _ hne]
   exact hb.block b hb'
theorem ZQX{wa W w2:World}{g k:Nat}{u v1 v2:Value}{a1 a2:Addr}(hb:Below W.heap.size W w2)(h1:a1.block≠g)(h2:a2.block≠g)(c1:wa.cell? a1=some v1)(c2:wa.cell? a2=some v2)
 (hW:W.heap=(wa.setCell ⟨g,k,none⟩ u).heap:=by rfl):Hid (w2.cell? a1=some v1∧w2.cell? a2=some v2):=by
 have c:W.heap.size=wa.heap.size:=by rw [hW]; simp [World.setCell]
 have f:=World.block_lt_of_cell? wa a1 c1;have d:=World.block_lt_of_cell? wa a2 c2
 have e:∀a:Addr,a.block≠g→W.cell? a=wa.cell? a:=by
  intro a b;refine World.cell?_of_block (w:=wa) ?_;rw [hW]; exact Below.heap_setCell _ _ _ _ b
 exact ⟨(hb.cell (by omega)).trans ((e a1 h1).trans c1),(hb.cell (by omega)).trans ((e a2 h2).trans c2)⟩
theorem ZKX(n:Nat)(U:Nat→Bool)(k:Nat){s:Int}(hs:s=1∨s=-1):s*Lin.sg n U k=1∨s*Lin.sg n U k=-1:=by
 have:=Lin.sg_abs n U k
 rcases hs with rfl | rfl <;> omega
theorem ZHk(d:Nat)(ih:ZEF d):ZEF (d+1):=by
 intro n Bd B0 g i m U s v w M hi hg hm hr hs hc;obtain ⟨ao,X,aS,bp,bw⟩:=ZAD hm;subst aS;have aH:=M.len;have aW:=M.n64
 have V:i < m.length:=by omega
 have aT:=hid V
 have B:m.getD i []∈m:=by simp [V]
 have bl:=M.row _ B;have HQ:=hid M;have HM:=hid hm;have HR:=hid hr;have aw:=hid ih
 obtain ⟨o,E⟩:∃o,o=fm (m.drop (i+1)):=⟨_,rfl⟩
 obtain ⟨r,z⟩:∃r:Nat→Int,r=fun j=>(m.getD i []).getD j 0:=⟨_,rfl⟩
 have aM:Hid (fm (m.drop i)=r :: o):=by rw [E,z]; exact ZO9 V
 have aG:=hid E;have bq:=hid z
 have G:o.length=d:=by rw [E]; simp [fm]; omega
 have am:=hid G
 have aa:Hid (∀j,j < n→(r j).natAbs≤Bd):=by rw [z]; exact fun j hj=>M.bd _ B j hj
 have D:Hid (∀x∈o,∀j,j < n→(x j).natAbs≤Bd):=by
  rw [E]; intro x hx j hj;simp only [fm,List.mem_map] at hx;obtain ⟨l,hl,rfl⟩:=hx;exact M.bd l (List.mem_of_mem_drop hl) j hj
 have HC:Hid (Lin.cu n U≤o.length+1):=by rw [G]; exact hc
 have bC:Lin.fb Bd (o.length+1)≤1152921504606846976:=Zaa8 (ZAz M.pos (by omega)) M.small
 have t0:((i:Int) == (m.length:Int))=false:=by simp; omega
 have aE:(m.length:Int)=(n:Int):=by omega
 subst aH
 obtain ⟨Y,om,bB,J,c,rc,an,P,ag,ar,aY,aq⟩:=ZPA HM.out aT.out (by omega) HR.out hg
 simp only [Za3] at an;obtain ⟨rfl,_,rfl⟩:=an
 have au:Hid (∀j,j < m.length→w.cell? ⟨J,c+j,none⟩=some (.int .i64 (r j))):=by
  rw [z]; exact fun j hj=>aq j (by omega)
 have ay:=ZAH P
 have aQ:J < w.heap.size:=ZAH (au.out 0 (by omega))
 clear hm hr M ih E z B G hc aE aq;generalize hL:(m.getD i []).length=L at *;have bi:=hid hL;clear hL;go_enter Tryz.func94,Tryz.ntmps94;go_wp2
 go_loopw [9,10] (fun x q wr=>∃k:Nat,k≤m.length∧q=.int .i64 k∧x=.int .i64 (s*ZC4 m.length r o U k)∧Below w.heap.size w wr) (fun _ q _=>m.length-(intOf q).toNat)
 case atStart=>exact ⟨0,Za5 _,rfl,by simp [ZC4,Lin.sumN],Below.refl _ _⟩
 case round=>
  obtain ⟨k,hk,rfl,rfl,p⟩:=hrel
  obtain ⟨y,rfl⟩:∃y,y=wr:=⟨wr,rfl⟩
  have HB:=hid p
  have f:Hid (y.rowIs g 4 m.length (fun j=>.bool (U j))):=ZED HR.out p (Za4 _)
  have aR:Hid (Mat B0 27 3 y (.slice (some ⟨Y,om,none⟩) m.length X) m):=HM.out.below p (Za4 _);have aL:=ZGc (k:=k) aa.out D.out HC.out hk;clear p
  by_cases hlt:k < m.length
  ·have ak:=f.out.cell hlt
   have a:=ZGc (k:=k+1) aa.out D.out HC.out (by omega)
   cases hU:U k
   ·rw [hU] at ak
    have bj:=f.out.frozen k;have af:y.cell? ⟨Y,om+i,none⟩=some (.slice (some ⟨J,c,none⟩) L rc):=(HB.out.cell ay).trans P;have aj:y.cell? ⟨J,c+k,none⟩=some (.int .i64 (r k)):=(HB.out.cell aQ).trans (au.out k hlt);obtain ⟨aA,aD⟩:=ZO8 aa.out D.out HC.out hlt hU;have HU:=hid hU;generalize hA:s*ZC4 m.length r o U k=A;have HA:=hid hA
    have bv : -1152921504606846976≤A∧A≤1152921504606846976:=by
     rw [←hA]; rcases hs with rfl | rfl <;> omega
    clear hA hU;go_wp2
    go_loop [11,12] (fun t q=>∃j:Nat,k+1≤j∧j≤m.length∧q=.int .i64 j∧t=.int .i64 (s*Lin.sg j U k)) (fun _ q=>m.length-(intOf q).toNat)
    case atStart=>exact ⟨k+1,Za4 _,by omega,by go_num,by rw [Lin.sg_last U (by omega)]; simp⟩
    case round=>
     obtain ⟨j,bz,bu,rfl,rfl⟩:=hrel;have S:=ZKX j U k hs
     by_cases hjl:j < m.length
     ·have Q:=f.out.cell hjl
      have ah:s*Lin.sg (j+1) U k=if U j then-(s*Lin.sg j U k) else s*Lin.sg j U k:=by
       simp only [Lin.sg]
       cases U j
       ·simp
       ·rw [if_pos ⟨by omega,rfl⟩,if_pos rfl,Int.mul_neg]
      have ae:=hid ah;clear ah;generalize s*Lin.sg j U k=tt at *
      have bg : -1≤tt:=by omega
      have aX:tt≤1:=by omega
      clear S
      cases hUj:U j
      ·rw [hUj] at Q
       go_wp2
       go_round
       case rel=>exact ⟨j+1,by omega,by omega,by go_num,by rw [ae.out,hUj]; simp⟩
       case measure=>simp [intOf]; omega
      ·rw [hUj] at Q
       go_wp2
       go_round
       case rel=>exact ⟨j+1,by omega,by omega,by go_num,by rw [ae.out,hUj]; simp⟩
       case measure=>simp [intOf]; omega
     ·have aP:j=m.length:=by omega
      subst aP
      have T:Hid (s*ZC4 m.length r o U (k+1)=A+r k*(s*Lin.sg m.length U k*Lin.od m.length o (Lin.ins U k))):=by
       show _=_
       rw [ZEE,HU.out,←HA.out]; simp only [Bool.false_eq_true,if_false]; grind
      generalize s*Lin.sg m.length U k=t at *;have HX:Hid (t*Lin.od m.length o (Lin.ins U k)=t*Lin.od m.length o (Lin.ins U k)):=rfl
      obtain ⟨O,N⟩:∃O,O=t*Lin.od m.length o (Lin.ins U k):=⟨_,rfl⟩
      have az:=hid N
      have bt:(r k*O).natAbs≤1152921504606846976:=by
       have e:(r k*O).natAbs=(r k*Lin.od m.length o (Lin.ins U k)).natAbs:=by
        have aO:t.natAbs=1:=by omega
        rw [N,Int.natAbs_mul,Int.natAbs_mul,Int.natAbs_mul,aO,Nat.one_mul]
       rw [e]; omega
      rw [←N] at T;have ai:t=1∨t=-1:=S;have aB:=hid ai;clear S ai N HX aA aD aL a;generalize r k=rk at *
      by_cases hz:rk=0
      ·have aF:(rk != 0)=false:=by simp [hz]
       have HZ:=hid hz;clear hz;go_wp2
       go_roundw
       case rel=>
        obtain ⟨_,_,h3⟩:=ZKW (w2:=y.setCell ⟨g,k,none⟩ (.bool true)) hlt HU.out HR.out HB.out f.out (Below.refl _ _)
        exact ⟨k+1,by omega,by go_num,by rw [T.out,HZ.out]; simp,h3⟩
       case measure=>simp [intOf]; omega
      ·have aF:(rk != 0)=true:=by simp [hz]
       clear hz
       have F:Hid (∀W:World,W.heap=(y.setCell ⟨g,k,none⟩ (.bool true)).heap→Calls Tryz.prog 94 #[.slice (some ⟨Y,om,none⟩) m.length X,.int .i64 (IntKind.i64.wrap ((i:Int)+1)),.slice (some ⟨g,0,none⟩) m.length m.length,.int .i64 t] W
         fun e w'=>e=.returned (.int .i64 O)∧Below W.heap.size W w'):=by
        intro W hW
        have e1:IntKind.i64.wrap ((i:Int)+1)=((i+1:Nat):Int):=by
         rw [IntWalk.i64_left]; rw [IntWalk.wrap64_in _ ⟨by omega,by omega⟩]; omega
        have aK:W.rowIs g 4 m.length (fun j=>.bool (Lin.ins U k j)):=by
         refine (((f.out.set k (.bool true)).of_block (w':=W) (by rw [hW])).congr fun j hj=>?_)
         unfold Lin.ins
         by_cases e:j=k <;> simp [e]
        have aI:Mat B0 27 3 W (.slice (some ⟨Y,om,none⟩) m.length X) m:=by
         have aJ:=aR.out.setCell (k:=k) (u:=.bool true) f.out hg (by decide) (by decide)
         obtain ⟨vs,q1,q2,q3⟩:=aJ
         have mv:∀e v xs,Sl B0 e (y.setCell ⟨g,k,none⟩ (.bool true)) v xs→Sl B0 e W v xs:=fun e v xs h=>h.move fun b _ ht=>⟨by rw [hW],ht⟩
         exact ⟨vs,q1,mv _ _ _ q2,fun i hi=>mv _ _ _ (q3 i hi)⟩
        have aC:Lin.cu m.length (Lin.ins U k)≤d:=by
         have h1:=Lin.cu_ins hlt HU.out;have h2:=HC.out;rw [am.out] at h2;omega
        have h:=aw.out m.length Bd B0 g (i+1) m (Lin.ins U k) t _ W HQ.out (by omega) hg aI aK aB.out aC
        rw [←aG.out,←az.out] at h;rw [e1]; exact h
       have K0:Hid ((y.setCell ⟨g,k,none⟩ (.bool true)).cell? ⟨Y,om+i,none⟩=some (.slice (some ⟨J,c,none⟩) L rc)∧(y.setCell ⟨g,k,none⟩ (.bool true)).cell? ⟨J,c+k,none⟩=some (.int .i64 rk)):=
        ZQX (W:=y.setCell ⟨g,k,none⟩ (.bool true)) (Below.refl _ _) ag ar af aj
       have k1:=K0.out.1;have k2:=K0.out.2
       have aZ:(0:Int)≤(k:Int):=by omega
       have aV:(k:Int) < (L:Int):=by omega
       have aU:(0:Int)≤(i:Int):=by omega
       have bh:(i:Int) < (m.length:Int):=by omega
       go_wp2
       go_region_held3 (fun w'=>w'.cell? ⟨Y,om+i,none⟩=some (.slice (some ⟨J,c,none⟩) L rc)∧w'.cell? ⟨J,c+k,none⟩=some (.int .i64 rk)) (first | go_keep | exact KS.out | exact ⟨k1,k2⟩)
        ((go_at_call 94; refine (F.out _ (by rfl)).mono ?_; rintro e w2 ⟨rfl,a⟩; have KS:Hid (w2.cell? ⟨Y,om+i,none⟩=some (.slice (some ⟨J,c,none⟩) L rc)∧w2.cell? ⟨J,c+k,none⟩=some (.int .i64 rk)):=ZQX a ag ar af aj))
       have e2:IntKind.i64.wrap (A+IntKind.i64.wrap (rk*O))=A+rk*O:=by
        rw [IntWalk.i64_left,IntWalk.i64_left,IntWalk.wrap64_in (rk*O) ⟨by omega,by omega⟩,IntWalk.wrap64_in _ ⟨by omega,by omega⟩]
       rw [e2];have R:=ZKW (w2:=w2) hlt HU.out HR.out HB.out f.out ⟨a.os,a.tape,a.output,a.size,a.block⟩;have bA:=R.1;have bk:=R.2.1;have aN:Hid (Below w.heap.size w (w2.setCell ⟨g,k,none⟩ (.bool false))):=R.2.2;clear R a KS k1 k2 K0 e2 F;go_wp2
       go_roundw
       case rel=>exact ⟨k+1,by omega,by go_num,by rw [T.out],aN.out⟩
       case measure=>simp [intOf]; omega
   ·rw [hU] at ak
    go_wp2
    go_roundw
    case rel=>exact ⟨k+1,by omega,by go_num,by rw [ZEE,hU]; simp,HB.out⟩
    case measure=>simp [intOf]; omega
  ·go_wp2
   go_ret
   have e:k=m.length:=by omega
   refine ⟨ZBA ?_,HB.out⟩;rw [aM.out,e]; rfl
theorem ZJZ(d:Nat):ZEF d:=by
 induction d with
 | zero=>exact ZHj
 | succ d ih=>exact ZHk d ih
def ZFo(m:List (List Int)):Int:=Lin.od m.length (fm m) fun _=>false
theorem ZKY(Bd B:Nat)(m:List (List Int))(v:Value)(w:World)(hq:Sq m.length Bd m)(hm:Mat B 27 3 w v m) :
  Calls Tryz.prog 66 #[v] w fun e w'=>e=.returned (.int .i64 (ZFo m))∧Below w.heap.size w w':=by
 obtain ⟨s,l,f,o,n⟩:=ZAD hm;subst f;have r:=hq.n64;have p:=hid hm;have g:=hid hq;clear hm hq
 have i:=run_make_row' (P:=Tryz.prog) 120 4 (.bool false) 1 Tryz.underlying120 Tryz.info4 rfl .i64 .i64 m.length (by omega) (by omega)
 have b:=(Below.refl w.heap.size w).alloc (Za4 _) (.cells (madeCells #[.bool false] m.length) 4);have c:=hid b;clear b;go_enter Tryz.func66,Tryz.ntmps66
 go_wp2_with fail
 have h:=ZJZ m.length m.length Bd w.heap.size w.heap.size 0 m (fun _=>false) 1 _ (w.alloc (.cells (madeCells #[.bool false] m.length) 4)) g.out (by omega) (Za4 _)
  ((p.out.any (Za4 _)).below c.out (Za4 _)) (World.rowIs_made w (.bool false) m.length 4) (Or.inl rfl) (by rw [Lin.cu_none]; exact Za4 _)
 refine h.mono ?_;rintro e j ⟨rfl,a⟩
 have d:Hid (Below w.heap.size w j):=c.out.trans (a.mono (by simp))
 clear a h;go_wp2;go_ret
 exact ⟨ZBA (by simp [ZFo]),d.out⟩
end Go.Proofs.YtkjkfceblmgogaaGreat
namespace Go.Proofs.YtkjkfceblmgogaaGreat
open Go.RowKit
structure Mx(c Bd:Nat)(m:List (List Int)):Prop where
 row:∀r∈m,r.length=c
 bd:∀r∈m,∀z∈r,z.natAbs≤Bd
 c5:c≤5
 c1:1≤c
 pos:1≤Bd
 small:Lin.fb Bd c≤1152921504606846976
theorem ZBs:∀k n q,q∈ZAN k n→(∀i,i < k→0≤q.getD i 0∧q.getD i 0 < (n:Int))∧∀i j,i < j→j < k→q.getD i 0 < q.getD j 0:=by
 intro k
 induction k with
 | zero=>intro n q h; exact ⟨fun i g=>by omega,fun i j _ hj=>by omega⟩
 | succ k ih=>
  intro n q h;simp only [ZAN,List.mem_flatMap,List.mem_map,List.mem_range'_1] at h;obtain ⟨v,hv,l,d,rfl⟩:=h;have b:=ZBC k v l d;obtain ⟨f,m⟩:=ih v l d
  have a:∀i,i < k→(l ++ [(v:Int)]).getD i 0=l.getD i 0:=by
   intro i g; simp only [Za2]; rw [Za7 (by omega)]
  have c:(l ++ [(v:Int)]).getD k 0=v:=by
   simp only [Za2]; rw [Za8 (by omega)]; simp [b]
  refine ⟨fun i g=>?_,fun i j hij hj=>?_⟩
  ·by_cases e:i < k
   ·rw [a i e]; have:=f i e; omega
   ·rw [show i=k by omega,c]; omega
  ·by_cases e:j < k
   ·rw [a i (by omega),a j e]; exact m i j hij e
   ·rw [show j=k by omega,c,a i (by omega)]; exact (f i (by omega)).2
theorem ZFH:∀k n K,Lin.Rising k n K→((List.range k).map fun i=>(K i:Int))∈ZAN k n:=by
 intro k
 induction k with
 | zero=>intro n K _; simp [ZAN]
 | succ k ih=>
  intro n K h;simp only [ZAN,List.mem_flatMap,List.mem_map,List.mem_range'_1]
  have b:k≤K k:=by
   have:∀i,i < k+1→i≤K i:=by
    intro i
    induction i with
    | zero=>intro _; omega
    | succ i ii=>intro a; have:=ii (by omega); have:=h.1 i (i+1) (by omega) a; omega
   exact this k (by omega)
  refine ⟨K k,⟨b,by have:=h.2 k (by omega); omega⟩,_,ih (K k) K ⟨fun i j hij hj=>h.1 i j hij (by omega),fun i a=>h.1 i k a (by omega)⟩,?_⟩
  simp [List.range_succ]
def ZA7(c:Nat)(m:List (List Int)):Bool:=m.length == 0 || (decide (m.length≤c) && (ZAN m.length c).any fun q=>ZFo (ZAu m q) != 0)
def toK(q:List Int):Nat→Nat:=fun i=>(q.getD i 0).toNat
theorem ZFp{m:List (List Int)}{q:List Int}(hq:q.length=m.length):ZFo (ZAu m q)=Lin.od (fm m).length (Lin.cols (fm m) (toK q)) fun _=>false:=by
 unfold ZFo
 rw [ZBB,show (fm m).length=m.length by simp [fm]]
 refine Lin.od_congr (by simp [fm,ZAu,Lin.cols]) (fun i hi j hj=>?_) _
 have a:i < m.length:=by simpa [fm,ZAu] using hi
 simp [fm,ZAu,Lin.cols,a,toK,hq,hj]
theorem ZFI{k n:Nat}{q:List Int}(h:q∈ZAN k n):Lin.Rising k n (toK q):=by
 obtain ⟨a,b⟩:=ZBs k n q h
 refine ⟨fun i j hij hj=>?_,fun i hi=>?_⟩
 ·have c:=a i (by omega)
  have d:=b i j hij hj;unfold toK; omega
 ·have c:=a i hi
  unfold toK; omega
theorem ZGd{c:Nat}{m:List (List Int)} : ZA7 c m=true↔Lin.FreeP c (fm m):=by
 have a:(fm m).length=m.length:=by simp [fm]
 constructor
 ·intro h
  simp only [ZA7,Bool.or_eq_true,beq_iff_eq,Bool.and_eq_true,decide_eq_true_eq,List.any_eq_true] at h
  rcases h with h | ⟨_,q,hq,hd⟩
  ·have:m=[]:=List.eq_nil_of_length_eq_zero h
   subst this
   exact ⟨id,⟨fun _ _ _ h=>absurd h (by simp [fm]),fun _ h=>absurd h (by simp [fm])⟩,by simp [fm,Lin.cols,Lin.od]⟩
  ·refine ⟨toK q,by rw [a]; exact ZFI hq,?_⟩
   rw [←ZFp (ZBC _ _ _ hq)]
   simpa using hd
 ·rintro ⟨K,hK,b⟩
  rw [a] at hK;simp only [ZA7,Bool.or_eq_true,beq_iff_eq,Bool.and_eq_true,decide_eq_true_eq,List.any_eq_true]
  right
  have d:m.length≤c:=by
   by_cases h0:m.length=0
   ·omega
   ·have:∀i,i < m.length→i≤K i:=by
     intro i
     induction i with
     | zero=>intro _; omega
     | succ i ii=>intro l; have:=ii (by omega); have:=hK.1 i (i+1) (by omega) l; omega
    have o:=this (m.length-1) (by omega)
    have n:=hK.2 (m.length-1) (by omega)
    omega
  refine ⟨d,_,ZFH _ _ K hK,?_⟩
  rw [ZFp (by simp)]
  have e:Lin.od (fm m).length (Lin.cols (fm m) (toK ((List.range m.length).map fun i=>(K i:Int)))) (fun _=>false)=Lin.od (fm m).length (Lin.cols (fm m) K) (fun _=>false):=by
   refine Lin.od_congr (by simp [Lin.cols]) (fun i l j hj=>?_) _
   have f:i < m.length:=by simpa [Lin.cols,fm] using l
   have g:j < m.length:=by rw [a] at hj; exact hj
   simp [Lin.cols,fm,f,toK,g]
  rw [e]
  simpa using b
theorem ZPB{c Bd:Nat}{m:List (List Int)}{q:List Int}(h:Mx c Bd m)(hm:m.length≤c)(hq:q∈ZAN m.length c):Sq (ZAu m q).length Bd (ZAu m q):=by
 have f:=ZBC _ _ _ hq;have g:=h.c5;rw [ZBB]
 refine ⟨ZBB m q,fun r hr=>?_,fun r hr j hj=>?_,Zaa8 (ZAz h.pos hm) h.small,by omega,h.pos⟩
 ·simp only [ZAu,List.mem_map] at hr
  obtain ⟨a,_,rfl⟩:=hr;simp [f]
 ·simp only [ZAu,List.mem_map] at hr
  obtain ⟨a,b,rfl⟩:=hr
  have e:(q.map fun x=>a.getD x.toNat 0).getD j 0=a.getD (toK q j) 0:=by
   simp [toK,f,hj]
  rw [e];have d:=(ZFI hq).2 j hj
  have:a.getD (toK q j) 0∈a:=by
   have:toK q j < a.length:=by rw [h.row a b]; exact d
   simp [this]
  exact h.bd a b _ this
theorem ZDt(c Bd B:Nat)(m:List (List Int))(v:Value)(w:World)(hx:Mx c Bd m)(hm:Mat B 27 3 w v m)(hml:m.length≤1000) :
  Calls Tryz.prog 40 #[v] w fun e w'=>e=.returned (.bool (ZA7 c m))∧Below w.heap.size w w':=by
 obtain ⟨ao,an,ag,aF,az⟩:=ZAD hm;subst ag;have aB:=hx.c5;have HM:=hid hm;have HX:=hid hx
 by_cases h0:m.length=0
 ·have t0:((m.length:Int) == 0)=true:=by simp [h0]
  have f:ZA7 c m=true:=by simp [ZA7,h0]
  have n:=hid f;clear hm hx h0 f;go_enter Tryz.func40,Tryz.ntmps40;go_wp2;go_ret;exact ⟨ZAX n.out.symm,Below.refl _ _⟩
 ·have t0:((m.length:Int) == 0)=false:=beq_eq_false_iff_ne.2 (by omega)
  have R:(m.length == 0)=false:=beq_eq_false_iff_ne.2 h0;have V:=hid R
  have ar:0 < m.length:=by omega
  clear R
  obtain ⟨b,o,cp,r1,hs,aC,P,T⟩:=ZAP hm (k:=0) (by omega)
  simp only [Za3] at hs;obtain ⟨rfl,_,rfl⟩:=hs;obtain ⟨ro,rc,Q,L,aw⟩:=ZAI T
  have U:(m.getD 0 []).length=c:=hx.row _ (by simp [show 0 < m.length by omega])
  rw [U] at Q L;subst Q;rw [Nat.add_zero] at P;clear hm hx T U
  by_cases hle:c < m.length
  ·have f:ZA7 c m=false:=by rw [ZA7,V.out,decide_eq_false (by omega)]; rfl
   have n:=hid f;clear f h0;go_enter Tryz.func40,Tryz.ntmps40;go_wp2;go_ret;exact ⟨ZAX n.out.symm,Below.refl _ _⟩
  ·have f:ZA7 c m=(ZAN m.length c).any fun q=>ZFo (ZAu m q) != 0:=by rw [ZA7,V.out,decide_eq_true (by omega)]; rfl
   have n:=hid f
   have aj:m.length≤5:=by omega
   have ah:Hid (m.length≤c):=(show m.length≤c by omega)
   have aE:decide (c < m.length)=false:=decide_eq_false (by omega)
   clear f h0;go_enter Tryz.func40,Tryz.ntmps40
   go_wp2_with fail
   refine (ZDT m.length aj c w (by omega)).mono ?_
   rintro e G ⟨cv,rfl,t,s⟩;have HC:Hid (Mat w.heap.size 27 3 G cv (ZAN m.length c)):=t.rws.mat (Za4 _);have a:=hid s;clear t s P;obtain ⟨co,cc,af,au,ay⟩:=ZAD HC.out;subst af;go_wp2
   go_loopw [5] (fun i wr=>∃k:Nat,k≤(ZAN m.length c).length∧i=.int .i64 k∧((ZAN m.length c).take k).any (fun q=>ZFo (ZAu m q) != 0)=false∧Below G.heap.size G wr) (fun i _=>(ZAN m.length c).length-(intOf i).toNat)
   case atStart=>exact ⟨0,Za5 _,rfl,by simp,Below.refl _ _⟩
   case round=>
    obtain ⟨k,hk,rfl,S,g⟩:=hrel;have HN:=hid S;have p:=hid g;clear S g
    by_cases hlt:k < (ZAN m.length c).length
    ·obtain ⟨b2,o2,aA,r2,E,aD,aq,j⟩:=ZAP (HC.out.below p.out (Za4 _)) hlt
     simp only [Za3] at E;obtain ⟨rfl,_,rfl⟩:=E
     obtain ⟨q,X⟩:∃q,q=(ZAN m.length c).getD k []:=⟨_,rfl⟩
     have J:q∈ZAN m.length c:=by rw [X]; simp [hlt]
     have d:=hid J;have ae:=hid X;rw [←X] at j;have aa:=hid j;have am:Hid (Mat w.heap.size 27 3 wr (.slice (some ⟨b,o,none⟩) m.length an) m):=((HM.out.any (Za4 _)).below a.out (Za4 _)).below p.out (Za4 _);clear X J j
     go_wp2_with fail
     refine (ZEC w.heap.size m q _ _ wr am.out aa.out (by omega) (by rw [ZBC _ _ _ d.out]; omega) ?_).mono ?_
     ·intro x hx
      obtain ⟨i,hi,rfl⟩:=List.mem_iff_getElem.1 hx
      have hh:=(ZBs _ _ _ d.out).1 i (by rw [←ZBC _ _ _ d.out]; exact hi)
      have e:q.getD i 0=q[i]:=by simp [hi]
      rw [e] at hh
      exact ⟨hh.1,fun r hr=>by rw [HX.out.row r hr]; exact hh.2⟩
     rintro e w2 ⟨xv,rfl,z,O⟩;have ai:Hid (Mat wr.heap.size 27 3 w2 xv (ZAu m q)):=z.mat (Za4 _);have N:=hid O;clear z O
     go_wp2_with fail
     refine (ZKY Bd wr.heap.size (ZAu m q) xv w2 (ZPB HX.out ah.out d.out) ai.out).mono ?_;rintro e w3 ⟨rfl,A⟩;have F:Hid (Below G.heap.size G w3):=(p.out.trans (N.out.mono (p.out.size))).trans (A.mono (Zaa8 p.out.size N.out.size));clear A
     have M:((ZAN m.length c).take (k+1)).any (fun q=>ZFo (ZAu m q) != 0)=(ZFo (ZAu m q) != 0):=by
      rw [Zaa1 hlt,List.any_append,HN.out,ae.out]; simp [hlt]
     have y:=hid M;clear M;generalize ZFo (ZAu m q)=D at *
     by_cases hD:D=0
     ·have l:(D != 0)=false:=by simp [hD]
      clear hD;go_wp2
      go_roundw
      case rel=>exact ⟨k+1,by omega,by go_num,by rw [y.out,l],F.out⟩
      case measure=>simp [intOf]; omega
     ·have l:(D != 0)=true:=by simp [hD]
      clear hD;go_wp2;go_ret;refine ⟨ZAX (Eq.symm ?_),a.out.trans (F.out.mono a.out.size)⟩;rw [n.out];have h1:=y.out;rw [l] at h1;obtain ⟨x,ak,Y⟩:=List.any_eq_true.1 h1;exact List.any_eq_true.2 ⟨x,Zaa7 ak,Y⟩
    ·go_wp2
     go_ret;refine ⟨ZAX (Eq.symm ?_),a.out.trans (p.out.mono a.out.size)⟩
     rw [n.out,←HN.out,Zaa2 (by omega)]
end Go.Proofs.YtkjkfceblmgogaaGreat
namespace Go.Proofs.YtkjkfceblmgogaaGreat
open Go.RowKit
attribute [local go_sem ↓] Go.wp_at_zero Go.wp_at_succ
def ZAJ(c:Nat)(m:List (List Int)):List (List Int):=m.foldl (fun h r=>if ZA7 c (h ++ [r]) then h ++ [r] else h) []
theorem ZFJ(c:Nat)(m:List (List Int))(k:Nat)(hk:k < m.length) :
  ZAJ c (m.take (k+1))=if ZA7 c (ZAJ c (m.take k) ++ [m.getD k []]) then ZAJ c (m.take k) ++ [m.getD k []] else ZAJ c (m.take k):=by
 rw [Zaa1 hk]; unfold ZAJ; rw [List.foldl_append]; simp [hk]
theorem ZBU{c:Nat}{m:List (List Int)}{r:List Int}(h:r∈ZAJ c m):r∈m:=by
 have:∀(m h:List (List Int)) (r:List Int),r∈m.foldl (fun h r=>if ZA7 c (h ++ [r]) then h ++ [r] else h) h→r∈h∨r∈m:=by
  intro m
  induction m with
  | nil=>intro h r b; exact Or.inl b
  | cons x m ih=>
   intro h r b
   rcases ih _ _ b with a | a
   ·have a:r∈(if ZA7 c (h ++ [x])=true then h ++ [x] else h):=a
    by_cases hf:ZA7 c (h ++ [x])=true
    ·rw [if_pos hf] at a
     rcases List.mem_append.1 a with h2 | h2
     ·exact Or.inl h2
     ·simp at h2; exact Or.inr (by simp [h2])
    ·rw [if_neg hf] at a; exact Or.inl a
   ·exact Or.inr (by simp [a])
 rcases this m [] r h with h | h
 ·simp at h
 ·exact h
theorem ZGe(c:Nat)(m:List (List Int)):(ZAJ c m).length≤m.length:=by
 have:∀(m h:List (List Int)),(m.foldl (fun h r=>if ZA7 c (h ++ [r]) then h ++ [r] else h) h).length≤h.length+m.length:=by
  intro m
  induction m with
  | nil=>intro h; simp
  | cons x m ih=>
   intro h
   have:=ih (if ZA7 c (h ++ [x]) then h ++ [x] else h)
   simp only [List.foldl_cons,List.length_cons]
   by_cases hf:ZA7 c (h ++ [x])=true
   ·rw [if_pos hf] at this ⊢; simp at this; omega
   ·rw [if_neg hf] at this ⊢; omega
 have:=this m []
 simpa [ZAJ] using this
theorem ZCK(a b:List (List Int)):fm (a ++ b)=fm a ++ fm b:=by simp [fm]
theorem ZA4(c:Nat)(m:List (List Int)):Lin.Greedy c (fm m) (fm (ZAJ c m)):=by
 have:∀(m h l:List (List Int)),Lin.Greedy c (fm l) (fm h)→Lin.Greedy c (fm (l ++ m)) (fm (m.foldl (fun h r=>if ZA7 c (h ++ [r]) then h ++ [r] else h) h)):=by
  intro m
  induction m with
  | nil=>intro h l a; simpa using a
  | cons x m ih=>
   intro h l a
   have e:l ++ x :: m=(l ++ [x]) ++ m:=by simp
   rw [e,List.foldl_cons]
   apply ih
   by_cases hf:ZA7 c (h ++ [x])=true
   ·rw [if_pos hf,ZCK,ZCK]
    exact a.more (by have:=ZGd.1 hf; rwa [ZCK] at this)
   ·rw [if_neg hf,ZCK]
    refine a.less fun hp=>hf (ZGd.2 ?_)
    rw [ZCK]; exact hp
 exact this m [] [] (Lin.Greedy.nil c)
theorem Mx.sub{c Bd:Nat}{m l:List (List Int)}(h:Mx c Bd m)(hs:∀r∈l,r∈m):Mx c Bd l:=
 ⟨fun r hr=>h.row r (hs r hr),fun r hr=>h.bd r (hs r hr),h.c5,h.c1,h.pos,h.small⟩
theorem ZCL(w:World)(M:Nat)(hM:M≤w.heap.size):(w.alloc (.cells #[] 27)).ownsRow M 27 1 (.slice (some ⟨w.heap.size,0,none⟩) 0 0) 0 []:=
 World.ownsRow_made w #[] 0 hM (by simp [maxLen]) (by simp)
theorem ZOT{B:Nat}{e:TypeId}{w:World}{a:Addr}{n cap:Nat}{xs:List Value}(h:Sl B e w (.slice (some a) n cap) xs)(o:Obj):∀j u,xs[j]?=some u→(w.alloc o).cell? (a.add j)=some u:=ZDr h o
theorem ZOU{B:Nat}{e:TypeId}{w:World}{a:Addr}{n cap:Nat}{xs:List Value}(h:Sl B e w (.slice (some a) n cap) xs)(o o2:Obj):∀j u,xs[j]?=some u→((w.alloc o).alloc o2).cell? (a.add j)=some u:=ZDr (h.alloc o) o2
theorem ZGf{B n:Nat}{w:World}{h:List (List Int)}{vs:List Value}(h1:vs.length=n)(h3:∀i,i < n→Sl B 3 w (vs.getD i (.slice none 0 0)) (ZAB (h.getD i []))):∀u∈vs,u.oneCell'=true:=by
 intro u b;obtain ⟨i,c,rfl⟩:=List.mem_iff_getElem.1 b
 obtain ⟨d,a,hv,_⟩:=h3 i (by omega)
 have:vs.getD i (.slice none 0 0)=vs[i]:=by simp [c]
 rw [←this,hv]; rfl
theorem ZM4{W w2:World}{v x:Value}{g:Nat}{t:TypeId}(hg:W.grownBy w2 v.ownBlock)(hW:W.heap[g]?=some (.cells #[x] t (0,0)))(hne:v.ownBlock≠some g):∀j u,[x][j]?=some u→w2.cell? ((⟨g,0,none⟩:Addr).add j)=some u:=by
 intro j u a
 match j,a with
 | 0,a=>
  simp at a; subst a
  have b:w2.heap[g]?=some (.cells #[x] t (0,0)):=(hg.block g (lt_of_block hW) (fun e=>hne e.symm)).trans hW
  simp [Addr.add,World.cell?,b]
theorem ZM5{W:World}{x:Value}{g:Nat}{t:TypeId}(hW:W.heap[g]?=some (.cells #[x] t (0,0))):∀j u,[x][j]?=some u→W.cell? ((⟨g,0,none⟩:Addr).add j)=some u:=by
 intro j u a
 match j,a with
 | 0,a=>simp at a; subst a; simp [Addr.add,World.cell?,hW]
theorem ZAi{M n:Nat}{wr W w2:World}{v:Value}{xs:List Value}(hB:Below M wr W)(hM:M≤wr.heap.size)(ho:W.ownsRow M 27 1 v n xs)(hg:W.grownBy w2 v.ownBlock):Below M wr w2:=
 hB.grown hg (Zaa8 hM hB.size) (fun k hk=>(ho.lt k hk).1)
theorem ZJa(c Bd B:Nat)(m:List (List Int))(v:Value)(w:World)(hx:Mx c Bd m)(hm:Mat B 27 3 w v m)(hml:m.length≤500) :
  Calls Tryz.prog 96 #[v] w fun e w'=>∃x,e=.returned x∧Rws w.heap.size 27 3 w' x (ZAJ c m)∧Below w.heap.size w w':=by
 obtain ⟨i0,hi,ai,ag,V⟩:=info_parts Tryz.info27;obtain ⟨ao,af,aE,aM,aN⟩:=ZAD hm;subst aE;have HM:Hid (Mat w.heap.size 27 3 w (.slice ao m.length af) m):=hm.any (Za4 _);have HX:=hid hx;clear hm hx;go_enter Tryz.func96,Tryz.ntmps96;go_wp2
 go_loopw [3,4] (fun x i wr=>∃k:Nat,k≤m.length∧i=.int .i64 k∧Rws w.heap.size 27 3 wr x (ZAJ c (m.take k))∧Below w.heap.size w wr) (fun _ i _=>m.length-(intOf i).toNat)
 case atStart=>exact ⟨0,Za5 _,rfl,Rws.nil _ _ _ _,Below.refl _ _⟩
 case round=>
  obtain ⟨k,hk,rfl,aw,N⟩:=hrel;have HR:=hid aw;have HB:=hid N;have aG:w.heap.size≤wr.heap.size:=N.size;clear aw N
  by_cases hlt:k < m.length
  ·obtain ⟨b,o,cp,r1,hs,aL,T,ae⟩:=ZAP (HM.out.below HB.out (Za4 _)) hlt
   simp only [Za3] at hs;obtain ⟨rfl,_,rfl⟩:=hs;have ay:=hid ae;obtain ⟨d,a,ak,aJ,aI⟩:=ZAI ae;clear ae
   have y:Hid (ZAJ c (m.take (k+1))=if ZA7 c (ZAJ c (m.take k) ++ [m.getD k []]) then ZAJ c (m.take k) ++ [m.getD k []] else ZAJ c (m.take k)):=ZFJ c m k hlt
   have Q:Hid (Mx c Bd (ZAJ c (m.take k) ++ [m.getD k []])):=by
    refine HX.out.sub fun r hr=>?_
    rcases List.mem_append.1 hr with hr | hr
    ·exact Zaa7 (ZBU hr)
    ·simp at hr; subst hr; simp [hlt]
   have aA:(ZAJ c (m.take k)).length≤k:=by
    have:=ZGe c (m.take k); simp at this; omega
   obtain ⟨h,hh⟩:∃h,h=ZAJ c (m.take k):=⟨_,rfl⟩
   obtain ⟨z,hz⟩:∃z,z=m.getD k []:=⟨_,rfl⟩
   rw [←hh] at aA Q HR y;rw [←hz] at Q y ay ak;have HH:=hid hh;clear hh hz;generalize hln:z.length=ln at *;clear hln;subst ak;obtain ⟨S,g1,g2,g3⟩:=HR.out;obtain ⟨uo,uc,aD⟩:=ZAE g2;have O:=hid g1;have aq:=hid g2;have an:=hid g3;subst aD;generalize P:h.length=hl at *;have L:=hid P;have ar:Hid (Rws w.heap.size 27 3 wr (.slice uo hl uc) h):=HR.out;clear g1 g2 g3 HR P
   have aK:(0:Int)≤(k:Int):=by omega
   have aH:(k:Int) < (m.length:Int):=by omega
   -- the worlds that the orders come to
   have E1:=ZCL wr wr.heap.size (Za4 _);have X:=(ZCL wr wr.heap.size (Za4 _)).alloc (.cells #[.slice d ln a] 27)
   have Y:((wr.alloc (.cells #[.slice d ln a] 27)).alloc (.cells #[] 27)).ownsRow wr.heap.size 27 1 (.slice (some ⟨wr.heap.size+1,0,none⟩) 0 0) 0 []:=by
    have:=ZCL (wr.alloc (.cells #[.slice d ln a] 27)) wr.heap.size (by simp)
    simpa using this
   have B1:=(Below.refl wr.heap.size wr).alloc (Za4 _) (.cells #[] 27)
   have B2:=B1.alloc (by simp) (.cells #[.slice d ln a] 27)
   have B3:=((Below.refl wr.heap.size wr).alloc (Za4 _) (.cells #[.slice d ln a] 27)).alloc (by simp) (.cells #[] 27)
   have H2:((wr.alloc (.cells #[] 27)).alloc (.cells #[.slice d ln a] 27)).heap[wr.heap.size+1]?=some (.cells #[.slice d ln a] 27 (0,0)):=by
    have:=heap_alloc_new (wr.alloc (.cells #[] 27)) (.cells #[.slice d ln a] 27)
    simpa using this
   have H3:((wr.alloc (.cells #[.slice d ln a] 27)).alloc (.cells #[] 27)).heap[wr.heap.size]?=some (.cells #[.slice d ln a] 27 (0,0)):=by
    rw [Below.heap_alloc _ _ _ (by simp),heap_alloc_new]
   have ah:b < wr.heap.size:=ZAH T;have am:Hid (Sl w.heap.size 27 wr (.slice uo hl uc) S):=Sl.own aq.out
   -- what the region leaves,in whatever order
   have U:Hid (∀(f:World) (A:Value),f.ownsRow wr.heap.size 27 1 A (0+hl+1) ([] ++ S ++ [.slice d ln a])→Below wr.heap.size wr f→Rws w.heap.size 27 3 f A (h ++ [z])∧Below w.heap.size w f∧Below wr.heap.size wr f):=by
    intro f A ho R;simp only [Nat.zero_add,List.nil_append] at ho
    refine ⟨⟨S ++ [.slice d ln a],by simp [O.out,L.out],?_,fun i hi=>?_⟩,HB.out.trans (R.mono aG),R⟩
    ·have e:(h ++ [z]).length=hl+1:=by simp [L.out]
     rw [e];obtain ⟨q1,q2⟩:=ho;refine ⟨q1,?_⟩
     rcases q2 with q2 | ⟨g,af,cur,r1,r2,r3⟩
     ·exact Or.inl q2
     ·exact Or.inr ⟨g,af,cur,r1,by omega,r3⟩
    ·have l:=O.out
     have P:=L.out
     by_cases hil:i < hl
     ·have e1:(S ++ [Value.slice d ln a]).getD i (.slice none 0 0)=S.getD i (.slice none 0 0):=by
       simp only [Za2]; rw [Za7 (by omega)]
      have e2:(h ++ [z]).getD i []=h.getD i []:=by
       simp only [Za2]; rw [Za7 (by omega)]
      rw [e1,e2];exact (an.out i hil).below R (Za4 _)
     ·have aF:i=hl:=by simp at hi; omega
      subst aF
      have e1:(S ++ [Value.slice d ln a]).getD i (.slice none 0 0)=.slice d ln a:=by rw [←l]; simp
      have e2:(h ++ [z]).getD i []=z:=by rw [←P]; simp
      rw [e1,e2];exact ay.out.below R (Za4 _)
   cases uo with
   | none=>
    obtain ⟨az,aB,aC⟩:hl=0∧uc=0∧S=[]:=by
     have hq:=aq.out;obtain ⟨q1,q2⟩:=hq
     rcases q2 with ⟨q3,q4⟩ | ⟨g,_,_,q3,_⟩
     ·simp only [Za3] at q3
      exact ⟨q4,q3.2.2,List.eq_nil_of_length_eq_zero (by rw [q1,q4])⟩
     ·simp at q3
    subst az aB aC;go_wp2
    go_region_held3 (fun w'=>w'.cell? ⟨b,o+k,none⟩=some (.slice d ln a)) (first | go_keep | exact M.out)
     ((first | (refine ZCE (o:={ dst:=some 14,op:=_,type:=_,pos:=_,after:=_,guard:=_ }) (by rfl) (.tmp 12) (.tmp 13) 22 (by rfl) wr.heap.size 27 i0 1 Tryz.underlying22 hi _ 0 [] (by rfl) (by first | exact E1 | exact X | exact Y) (by rfl) ?_) | (refine ZAo (o:={ dst:=some 20,op:=_,type:=_,pos:=_,after:=_,guard:=_ }) (by rfl) (.tmp 14) (.tmp 19) 22 (by rfl) wr.heap.size 27 i0 (.slice none 0 0) 1 24 Tryz.underlying22 hi ai ag V rfl (by decide) _ 0 [] (by rfl) (by first | exact X | exact Y) _ 1 1 [.slice d ln a] (by rfl) rfl (by first | exact ZM5 H2 | exact ZM5 H3) (ZAM _ _ _) (by unfold maxLen; omega) (by omega) (by simp <;> omega) ?_; intro A f E n; have J:=U.out f A E (by first | exact ZAi B2.drew (Za4 _) X.drew n | exact ZAi B3.drew (Za4 _) Y.drew n); have M:Hid (f.cell? ⟨b,o+k,none⟩=some (.slice d ln a)):=(J.2.2.cell ah).trans T)))
    all_goals
     have s:Hid (Rws w.heap.size 27 3 f A (h ++ [z])):=J.1;have t:Hid (Below w.heap.size w f):=J.2.1;have F:Hid (Below wr.heap.size wr f):=J.2.2;clear J M E n E1 X Y B1 B2 B3 H2 H3
     go_wp2_with fail
     refine (ZDt c Bd w.heap.size (h ++ [z]) A f Q.out (s.out.mat (Za4 _)) (by rw [Zaa4,L.out,List.length_singleton]; omega)).mono ?_
     rintro e w4 ⟨rfl,j⟩;have D:Hid (Below w.heap.size w w4):=t.out.trans (j.mono t.out.size);have aa:Hid (Rws w.heap.size 27 3 w4 A (h ++ [z])):=s.out.below j (Za4 _);have aj:Hid (Rws w.heap.size 27 3 w4 (.slice none 0 0) h):=(ar.out.below F.out (Za4 _)).below j (Za4 _);clear j s t F
     cases hf:ZA7 c (h ++ [z])
     ·have p:Hid (ZAJ c (m.take (k+1))=h):=by show _=_; have:=y.out; rw [hf] at this; simpa using this
      clear hf;go_wp2
      go_roundw
      case rel=>exact ⟨k+1,by omega,by go_num,by rw [p.out]; exact aj.out,D.out⟩
      case measure=>simp [intOf]; omega
     ·have p:Hid (ZAJ c (m.take (k+1))=h ++ [z]):=by show _=_; have:=y.out; rw [hf] at this; simpa using this
      clear hf;go_wp2
      go_roundw
      case rel=>exact ⟨k+1,by omega,by go_num,by rw [p.out]; exact aa.out,D.out⟩
      case measure=>simp [intOf]; omega
   | some ua=>
    go_wp2
    go_region_held3 (fun w'=>w'.cell? ⟨b,o+k,none⟩=some (.slice d ln a)) (first | go_keep | exact au.out | exact M.out)
     ((first | (refine ZAo (o:={ dst:=some 14,op:=_,type:=_,pos:=_,after:=_,guard:=_ }) (by rfl) (.tmp 12) (.tmp 13) 22 (by rfl) wr.heap.size 27 i0 (.slice none 0 0) 1 24 Tryz.underlying22 hi ai ag V rfl (by decide) _ 0 [] (by rfl) (by first | exact E1 | exact X | exact Y) ua hl uc S (by rfl) (by simp [O.out]) (by first | exact ZOT am.out _ | exact ZOU am.out _ _) (ZGf O.out an.out) (by unfold maxLen; omega) (by omega) (by simp <;> omega) ?_; intro v1 w2 G l; have BB:Hid (Below wr.heap.size wr w2):=(by first | exact ZAi B1.drew (Za4 _) E1.drew l | exact ZAi B2.drew (Za4 _) X.drew l | exact ZAi B3.drew (Za4 _) Y.drew l); have au:Hid (w2.cell? ⟨b,o+k,none⟩=some (.slice d ln a)):=(BB.out.cell ah).trans T) | (refine ZAo (o:={ dst:=some 20,op:=_,type:=_,pos:=_,after:=_,guard:=_ }) (by rfl) (.tmp 14) (.tmp 19) 22 (by rfl) wr.heap.size 27 i0 (.slice none 0 0) 1 24 Tryz.underlying22 hi ai ag V rfl (by decide) _ (0+hl) ([] ++ S) (by rfl) (by first | exact G | exact G.alloc _) _ 1 1 [.slice d ln a] (by rfl) rfl (by first | exact ZAS _ _ _ | exact ZM4 l (W:=World.drew _) H2 (by show (some wr.heap.size:Option Nat)≠some (wr.heap.size+1); simp) | exact ZM4 l (W:=World.drew _) H3 (by show (some (wr.heap.size+1):Option Nat)≠some wr.heap.size; simp)) (ZAM _ _ _) (by unfold maxLen; omega) (by omega) (by first | exact BB.out.size | exact Zaa8 BB.out.size (by simp)) ?_; intro A f E n; have J:=U.out f A E (by first | exact ZAi BB.out (Za4 _) G n | exact ZAi (BB.out.alloc BB.out.size _) (Za4 _) (G.alloc _) n); have M:Hid (f.cell? ⟨b,o+k,none⟩=some (.slice d ln a)):=(J.2.2.cell ah).trans T)))
    all_goals
     have s:Hid (Rws w.heap.size 27 3 f A (h ++ [z])):=J.1;have t:Hid (Below w.heap.size w f):=J.2.1;have F:Hid (Below wr.heap.size wr f):=J.2.2;clear J M E n au BB G l E1 X Y B1 B2 B3 H2 H3
     go_wp2_with fail
     refine (ZDt c Bd w.heap.size (h ++ [z]) A f Q.out (s.out.mat (Za4 _)) (by rw [Zaa4,L.out,List.length_singleton]; omega)).mono ?_
     rintro e w4 ⟨rfl,j⟩;have D:Hid (Below w.heap.size w w4):=t.out.trans (j.mono t.out.size);have aa:Hid (Rws w.heap.size 27 3 w4 A (h ++ [z])):=s.out.below j (Za4 _);have aj:Hid (Rws w.heap.size 27 3 w4 (.slice (some ua) hl uc) h):=(ar.out.below F.out (Za4 _)).below j (Za4 _);clear j s t F
     cases hf:ZA7 c (h ++ [z])
     ·have p:Hid (ZAJ c (m.take (k+1))=h):=by show _=_; have:=y.out; rw [hf] at this; simpa using this
      clear hf;go_wp2
      go_roundw
      case rel=>exact ⟨k+1,by omega,by go_num,by rw [p.out]; exact aj.out,D.out⟩
      case measure=>simp [intOf]; omega
     ·have p:Hid (ZAJ c (m.take (k+1))=h ++ [z]):=by show _=_; have:=y.out; rw [hf] at this; simpa using this
      clear hf;go_wp2
      go_roundw
      case rel=>exact ⟨k+1,by omega,by go_num,by rw [p.out]; exact aa.out,D.out⟩
      case measure=>simp [intOf]; omega
  ·go_wp2
   go_ret;have h:=HR.out
   rw [Zaa2 (by omega)] at h
   exact ⟨_,rfl,h,HB.out⟩
theorem ZKZ{c:Nat}{m:List (List Int)}(h:ZA7 c m=true):m.length≤c:=by
 by_cases hle:c < m.length
 ·have a:(m.length == 0)=false:=by simp; intro b; rw [b] at hle; simp at hle
  have d:ZA7 c m=false:=by rw [ZA7,a,decide_eq_false (by omega)]; rfl
  rw [d] at h
  exact absurd h (by decide)
 ·omega
theorem ZGg(c:Nat)(m:List (List Int)):(ZAJ c m).length≤c:=by
 have b:∀(m h:List (List Int)),h.length≤c→(m.foldl (fun h r=>if ZA7 c (h ++ [r]) then h ++ [r] else h) h).length≤c:=by
  intro m
  induction m with
  | nil=>intro h a; exact a
  | cons r m ih=>
   intro h a;rw [List.foldl_cons];refine ih _ ?_
   split
   ·rename_i hf; exact ZKZ hf
   ·exact a
 exact b m [] (by simp)
theorem ZC5(c Bd B:Nat)(m:List (List Int))(v:Value)(w:World)(hx:Mx c Bd m)(hm:Mat B 27 3 w v m)(hml:m.length≤16777216) :
  Calls Tryz.prog 20 #[v] w fun e w'=>e=.returned (.int .i64 ((ZAJ c m).length:Nat))∧Below w.heap.size w w':=by
 obtain ⟨i0,hi,aj,ah,V⟩:=info_parts Tryz.info27;obtain ⟨ao,af,aF,aN,aO⟩:=ZAD hm;subst aF;have HM:Hid (Mat w.heap.size 27 3 w (.slice ao m.length af) m):=hm.any (Za4 _);have HX:=hid hx;clear hm hx;go_enter Tryz.func20,Tryz.ntmps20;go_wp2
 go_loopw [3,4] (fun x i wr=>∃k:Nat,k≤m.length∧i=.int .i64 k∧Rws w.heap.size 27 3 wr x (ZAJ c (m.take k))∧Below w.heap.size w wr) (fun _ i _=>m.length-(intOf i).toNat)
 case atStart=>exact ⟨0,Za5 _,rfl,Rws.nil _ _ _ _,Below.refl _ _⟩
 case round=>
  obtain ⟨k,hk,rfl,ay,N⟩:=hrel;have HR:=hid ay;have HB:=hid N;have aH:w.heap.size≤wr.heap.size:=N.size;clear ay N
  by_cases hlt:k < m.length
  ·obtain ⟨b,o,cp,r1,hs,aM,T,ae⟩:=ZAP (HM.out.below HB.out (Za4 _)) hlt
   simp only [Za3] at hs;obtain ⟨rfl,_,rfl⟩:=hs;have az:=hid ae;obtain ⟨d,a,am,aK,aJ⟩:=ZAI ae;clear ae
   have y:Hid (ZAJ c (m.take (k+1))=if ZA7 c (ZAJ c (m.take k) ++ [m.getD k []]) then ZAJ c (m.take k) ++ [m.getD k []] else ZAJ c (m.take k)):=ZFJ c m k hlt
   have R:Hid (Mx c Bd (ZAJ c (m.take k) ++ [m.getD k []])):=by
    refine HX.out.sub fun r hr=>?_
    rcases List.mem_append.1 hr with hr | hr
    ·exact Zaa7 (ZBU hr)
    ·simp at hr; subst hr; simp [hlt]
   have aB:(ZAJ c (m.take k)).length≤5:=Zaa8 (ZGg c _) HX.out.c5
   obtain ⟨h,hh⟩:∃h,h=ZAJ c (m.take k):=⟨_,rfl⟩
   obtain ⟨z,hz⟩:∃z,z=m.getD k []:=⟨_,rfl⟩
   rw [←hh] at aB R HR y;rw [←hz] at R y az am;have HH:=hid hh;clear hh hz;generalize hln:z.length=ln at *;clear hln;subst am;obtain ⟨O,g1,g2,g3⟩:=HR.out;obtain ⟨uo,uc,ag⟩:=ZAE g2;have P:=hid g1;have ar:=hid g2;have aq:=hid g3;subst ag;generalize Q:h.length=hl at *;have L:=hid Q;have au:Hid (Rws w.heap.size 27 3 wr (.slice uo hl uc) h):=HR.out;clear g1 g2 g3 HR Q
   have aL:(0:Int)≤(k:Int):=by omega
   have aI:(k:Int) < (m.length:Int):=by omega
   -- the worlds that the orders come to
   have E1:=ZCL wr wr.heap.size (Za4 _);have X:=(ZCL wr wr.heap.size (Za4 _)).alloc (.cells #[.slice d ln a] 27)
   have Y:((wr.alloc (.cells #[.slice d ln a] 27)).alloc (.cells #[] 27)).ownsRow wr.heap.size 27 1 (.slice (some ⟨wr.heap.size+1,0,none⟩) 0 0) 0 []:=by
    have:=ZCL (wr.alloc (.cells #[.slice d ln a] 27)) wr.heap.size (by simp)
    simpa using this
   have B1:=(Below.refl wr.heap.size wr).alloc (Za4 _) (.cells #[] 27)
   have B2:=B1.alloc (by simp) (.cells #[.slice d ln a] 27)
   have B3:=((Below.refl wr.heap.size wr).alloc (Za4 _) (.cells #[.slice d ln a] 27)).alloc (by simp) (.cells #[] 27)
   have H2:((wr.alloc (.cells #[] 27)).alloc (.cells #[.slice d ln a] 27)).heap[wr.heap.size+1]?=some (.cells #[.slice d ln a] 27 (0,0)):=by
    have:=heap_alloc_new (wr.alloc (.cells #[] 27)) (.cells #[.slice d ln a] 27)
    simpa using this
   have H3:((wr.alloc (.cells #[.slice d ln a] 27)).alloc (.cells #[] 27)).heap[wr.heap.size]?=some (.cells #[.slice d ln a] 27 (0,0)):=by
    rw [Below.heap_alloc _ _ _ (by simp),heap_alloc_new]
   have ai:b < wr.heap.size:=ZAH T;have an:Hid (Sl w.heap.size 27 wr (.slice uo hl uc) O):=Sl.own ar.out
   -- what the region leaves,in whatever order
   have U:Hid (∀(f:World) (A:Value),f.ownsRow wr.heap.size 27 1 A (0+hl+1) ([] ++ O ++ [.slice d ln a])→Below wr.heap.size wr f→Rws w.heap.size 27 3 f A (h ++ [z])∧Below w.heap.size w f∧Below wr.heap.size wr f):=by
    intro f A ho S;simp only [Nat.zero_add,List.nil_append] at ho
    refine ⟨⟨O ++ [.slice d ln a],by simp [P.out,L.out],?_,fun i hi=>?_⟩,HB.out.trans (S.mono aH),S⟩
    ·have e:(h ++ [z]).length=hl+1:=by simp [L.out]
     rw [e];obtain ⟨q1,q2⟩:=ho;refine ⟨q1,?_⟩
     rcases q2 with q2 | ⟨g,af,cur,r1,r2,r3⟩
     ·exact Or.inl q2
     ·exact Or.inr ⟨g,af,cur,r1,by omega,r3⟩
    ·have l:=P.out
     have Q:=L.out
     by_cases hil:i < hl
     ·have e1:(O ++ [Value.slice d ln a]).getD i (.slice none 0 0)=O.getD i (.slice none 0 0):=by
       simp only [Za2]; rw [Za7 (by omega)]
      have e2:(h ++ [z]).getD i []=h.getD i []:=by
       simp only [Za2]; rw [Za7 (by omega)]
      rw [e1,e2];exact (aq.out i hil).below S (Za4 _)
     ·have aG:i=hl:=by simp at hi; omega
      subst aG
      have e1:(O ++ [Value.slice d ln a]).getD i (.slice none 0 0)=.slice d ln a:=by rw [←l]; simp
      have e2:(h ++ [z]).getD i []=z:=by rw [←Q]; simp
      rw [e1,e2];exact az.out.below S (Za4 _)
   cases uo with
   | none=>
    obtain ⟨aA,aC,aE⟩:hl=0∧uc=0∧O=[]:=by
     have hq:=ar.out;obtain ⟨q1,q2⟩:=hq
     rcases q2 with ⟨q3,q4⟩ | ⟨g,_,_,q3,_⟩
     ·simp only [Za3] at q3
      exact ⟨q4,q3.2.2,List.eq_nil_of_length_eq_zero (by rw [q1,q4])⟩
     ·simp at q3
    subst aA aC aE;go_wp2
    go_region_held3 (fun w'=>w'.cell? ⟨b,o+k,none⟩=some (.slice d ln a)) (first | go_keep | exact M.out)
     ((first | (refine ZCE (o:={ dst:=some 14,op:=_,type:=_,pos:=_,after:=_,guard:=_ }) (by rfl) (.tmp 12) (.tmp 13) 22 (by rfl) wr.heap.size 27 i0 1 Tryz.underlying22 hi _ 0 [] (by rfl) (by first | exact E1 | exact X | exact Y) (by rfl) ?_) | (refine ZAo (o:={ dst:=some 20,op:=_,type:=_,pos:=_,after:=_,guard:=_ }) (by rfl) (.tmp 14) (.tmp 19) 22 (by rfl) wr.heap.size 27 i0 (.slice none 0 0) 1 24 Tryz.underlying22 hi aj ah V rfl (by decide) _ 0 [] (by rfl) (by first | exact X | exact Y) _ 1 1 [.slice d ln a] (by rfl) rfl (by first | exact ZM5 H2 | exact ZM5 H3) (ZAM _ _ _) (by unfold maxLen; omega) (by omega) (by simp <;> omega) ?_; intro A f E n; have J:=U.out f A E (by first | exact ZAi B2.drew (Za4 _) X.drew n | exact ZAi B3.drew (Za4 _) Y.drew n); have M:Hid (f.cell? ⟨b,o+k,none⟩=some (.slice d ln a)):=(J.2.2.cell ai).trans T)))
    all_goals
     have s:Hid (Rws w.heap.size 27 3 f A (h ++ [z])):=J.1;have t:Hid (Below w.heap.size w f):=J.2.1;have F:Hid (Below wr.heap.size wr f):=J.2.2;clear J M E n E1 X Y B1 B2 B3 H2 H3
     go_wp2_with fail
     refine (ZDt c Bd w.heap.size (h ++ [z]) A f R.out (s.out.mat (Za4 _)) (by rw [Zaa4,L.out,List.length_singleton]; omega)).mono ?_
     rintro e w4 ⟨rfl,j⟩;have D:Hid (Below w.heap.size w w4):=t.out.trans (j.mono t.out.size);have aa:Hid (Rws w.heap.size 27 3 w4 A (h ++ [z])):=s.out.below j (Za4 _);have ak:Hid (Rws w.heap.size 27 3 w4 (.slice none 0 0) h):=(au.out.below F.out (Za4 _)).below j (Za4 _);clear j s t F
     cases hf:ZA7 c (h ++ [z])
     ·have p:Hid (ZAJ c (m.take (k+1))=h):=by show _=_; have:=y.out; rw [hf] at this; simpa using this
      clear hf;go_wp2
      go_roundw
      case rel=>exact ⟨k+1,by omega,by go_num,by rw [p.out]; exact ak.out,D.out⟩
      case measure=>simp [intOf]; omega
     ·have p:Hid (ZAJ c (m.take (k+1))=h ++ [z]):=by show _=_; have:=y.out; rw [hf] at this; simpa using this
      clear hf;go_wp2
      go_roundw
      case rel=>exact ⟨k+1,by omega,by go_num,by rw [p.out]; exact aa.out,D.out⟩
      case measure=>simp [intOf]; omega
   | some ua=>
    go_wp2
    go_region_held3 (fun w'=>w'.cell? ⟨b,o+k,none⟩=some (.slice d ln a)) (first | go_keep | exact aw.out | exact M.out)
     ((first | (refine ZAo (o:={ dst:=some 14,op:=_,type:=_,pos:=_,after:=_,guard:=_ }) (by rfl) (.tmp 12) (.tmp 13) 22 (by rfl) wr.heap.size 27 i0 (.slice none 0 0) 1 24 Tryz.underlying22 hi aj ah V rfl (by decide) _ 0 [] (by rfl) (by first | exact E1 | exact X | exact Y) ua hl uc O (by rfl) (by simp [P.out]) (by first | exact ZOT an.out _ | exact ZOU an.out _ _) (ZGf P.out aq.out) (by unfold maxLen; omega) (by omega) (by simp <;> omega) ?_; intro v1 w2 G l; have BB:Hid (Below wr.heap.size wr w2):=(by first | exact ZAi B1.drew (Za4 _) E1.drew l | exact ZAi B2.drew (Za4 _) X.drew l | exact ZAi B3.drew (Za4 _) Y.drew l); have aw:Hid (w2.cell? ⟨b,o+k,none⟩=some (.slice d ln a)):=(BB.out.cell ai).trans T) | (refine ZAo (o:={ dst:=some 20,op:=_,type:=_,pos:=_,after:=_,guard:=_ }) (by rfl) (.tmp 14) (.tmp 19) 22 (by rfl) wr.heap.size 27 i0 (.slice none 0 0) 1 24 Tryz.underlying22 hi aj ah V rfl (by decide) _ (0+hl) ([] ++ O) (by rfl) (by first | exact G | exact G.alloc _) _ 1 1 [.slice d ln a] (by rfl) rfl (by first | exact ZAS _ _ _ | exact ZM4 l (W:=World.drew _) H2 (by show (some wr.heap.size:Option Nat)≠some (wr.heap.size+1); simp) | exact ZM4 l (W:=World.drew _) H3 (by show (some (wr.heap.size+1):Option Nat)≠some wr.heap.size; simp)) (ZAM _ _ _) (by unfold maxLen; omega) (by omega) (by first | exact BB.out.size | exact Zaa8 BB.out.size (by simp)) ?_; intro A f E n; have J:=U.out f A E (by first | exact ZAi BB.out (Za4 _) G n | exact ZAi (BB.out.alloc BB.out.size _) (Za4 _) (G.alloc _) n); have M:Hid (f.cell? ⟨b,o+k,none⟩=some (.slice d ln a)):=(J.2.2.cell ai).trans T)))
    all_goals
     have s:Hid (Rws w.heap.size 27 3 f A (h ++ [z])):=J.1;have t:Hid (Below w.heap.size w f):=J.2.1;have F:Hid (Below wr.heap.size wr f):=J.2.2;clear J M E n aw BB G l E1 X Y B1 B2 B3 H2 H3
     go_wp2_with fail
     refine (ZDt c Bd w.heap.size (h ++ [z]) A f R.out (s.out.mat (Za4 _)) (by rw [Zaa4,L.out,List.length_singleton]; omega)).mono ?_
     rintro e w4 ⟨rfl,j⟩;have D:Hid (Below w.heap.size w w4):=t.out.trans (j.mono t.out.size);have aa:Hid (Rws w.heap.size 27 3 w4 A (h ++ [z])):=s.out.below j (Za4 _);have ak:Hid (Rws w.heap.size 27 3 w4 (.slice (some ua) hl uc) h):=(au.out.below F.out (Za4 _)).below j (Za4 _);clear j s t F
     cases hf:ZA7 c (h ++ [z])
     ·have p:Hid (ZAJ c (m.take (k+1))=h):=by show _=_; have:=y.out; rw [hf] at this; simpa using this
      clear hf;go_wp2
      go_roundw
      case rel=>exact ⟨k+1,by omega,by go_num,by rw [p.out]; exact ak.out,D.out⟩
      case measure=>simp [intOf]; omega
     ·have p:Hid (ZAJ c (m.take (k+1))=h ++ [z]):=by show _=_; have:=y.out; rw [hf] at this; simpa using this
      clear hf;go_wp2
      go_roundw
      case rel=>exact ⟨k+1,by omega,by go_num,by rw [p.out]; exact aa.out,D.out⟩
      case measure=>simp [intOf]; omega
  ·obtain ⟨O,g1,g2,g3⟩:=HR.out
   obtain ⟨uo,uc,ag⟩:=ZAE g2;subst ag
   have aD:Hid (m.take k=m):=Zaa2 (by omega)
   clear g1 g2 g3;go_wp2;go_ret
   exact ⟨ZBA (by rw [aD.out]),HB.out⟩
end Go.Proofs.YtkjkfceblmgogaaGreat
namespace Go.Proofs.YtkjkfceblmgogaaGreat
open Go.RowKit
def ZAv(k j:Nat):List Int:=((List.range j).filter fun x=>x != k).map fun (x:Nat)=>(x:Int)
theorem ZFK(k j:Nat):ZAv k (j+1)=if j=k then ZAv k j else ZAv k j ++ [(j:Int)]:=by
 unfold ZAv;rw [List.range_succ,List.filter_append,List.map_append]
 by_cases h:j=k
 ·subst h; simp
 ·simp [h]
theorem ZDU{k j:Nat} : (ZAv k j).length=(if k < j then j-1 else j)∧∀i,i < (ZAv k j).length→(ZAv k j).getD i 0=(Lin.skp k i:Nat):=by
 induction j with
 | zero=>simp [ZAv]
 | succ j ih=>
  obtain ⟨a,b⟩:=ih;rw [ZFK]
  by_cases e:j=k
  ·rw [if_pos e]
   refine ⟨?_,b⟩
   rw [a,if_neg (by omega),if_pos (by omega)]; omega
  ·rw [if_neg e]
   by_cases hk:k < j
   ·rw [if_pos hk] at a
    refine ⟨by rw [Zaa4,a,if_pos (by omega)]; simp; omega,fun i hi=>?_⟩
    by_cases hi':i < (ZAv k j).length
    ·rw [←b i hi']; simp only [Za2]; rw [Za7 hi']
    ·have:i=(ZAv k j).length:=by simp at hi; omega
     subst this
     simp only [Za2]; rw [Za8 (by omega)]
     simp [Lin.skp,a,show ¬j-1 < k by omega]; omega
   ·rw [if_neg hk] at a
    refine ⟨by rw [Zaa4,a,if_neg (by omega)]; simp,fun i hi=>?_⟩
    by_cases hi':i < (ZAv k j).length
    ·rw [←b i hi']; simp only [Za2]; rw [Za7 hi']
    ·have:i=(ZAv k j).length:=by simp at hi; omega
     subst this
     simp only [Za2]; rw [Za8 (by omega)]
     simp [Lin.skp,a,show j < k by omega]
theorem ZC6{k c:Nat}(h:k < c):(ZAv k c).length=c-1:=by rw [ZDU.1,if_pos h]
theorem ZGh{k c:Nat}{q:Int}(h:q∈ZAv k c):0≤q∧q < (c:Int):=by
 simp only [ZAv,List.mem_map,List.mem_filter,List.mem_range] at h;obtain ⟨x,⟨a,_⟩,rfl⟩:=h;omega
def muL(c:Nat)(rows:List (List Int)):List Int:=(List.range c).map fun k=>Lin.mu (fm rows) k
theorem ZIj{rows:List (List Int)}{c k:Nat}(hl:rows.length+1=c)(hk:k < c):ZFo (ZAu rows (ZAv k c))=Lin.od (fm rows).length (Lin.cols (fm rows) (Lin.skp k)) fun _=>false:=by
 have a:(ZAv k c).length=rows.length:=by rw [ZC6 hk]; omega
 rw [ZFp a]
 refine Lin.od_congr (by simp [Lin.cols]) (fun i hi j hj=>?_) _
 have b:i < rows.length:=by simpa [Lin.cols,fm] using hi
 have d:j < rows.length:=by simpa [fm] using hj
 have e:toK (ZAv k c) j=Lin.skp k j:=by
  unfold toK; rw [ZDU.2 j (by omega)]; simp
 simp [Lin.cols,fm,b,e]
theorem ZEG(k:Nat):Lin.ngo k=if k % 2=1 then -1 else 1:=by
 induction k with
 | zero=>rfl
 | succ k ih=>
  simp only [Lin.ngo]; rw [ih]
  by_cases h:k % 2=1
  ·rw [if_pos h,if_neg (by omega)]; rfl
  ·rw [if_neg h,if_pos (by omega)]
theorem ZM6(c:Nat)(rows:List (List Int))(k:Nat)(h:k < c):(muL c rows).take (k+1)=(muL c rows).take k ++ [Lin.mu (fm rows) k]:=by
 unfold muL
 rw [Zaa1 (by simpa using h)]; simp
theorem ZKa{c Bd k:Nat}{rows:List (List Int)}(h:Mx c Bd rows)(hl:rows.length+1=c)(hk:k < c):Sq (ZAu rows (ZAv k c)).length Bd (ZAu rows (ZAv k c)):=by
 have g:=h.c5;rw [ZBB]
 refine ⟨ZBB _ _,fun r hr=>?_,fun r hr j hj=>?_,Zaa8 (ZAz h.pos (by omega)) h.small,by omega,h.pos⟩
 ·simp only [ZAu,List.mem_map] at hr
  obtain ⟨a,_,rfl⟩:=hr;rw [Zab1,ZC6 hk]; omega
 ·simp only [ZAu,List.mem_map] at hr
  obtain ⟨a,b,rfl⟩:=hr
  have d:j < (ZAv k c).length:=by rw [ZC6 hk]; omega
  have i:=ZGh (List.getElem_mem d)
  have e:((ZAv k c).map fun x=>a.getD x.toNat 0).getD j 0=a.getD ((ZAv k c)[j]).toNat 0:=by simp [d]
  rw [e]
  have f:((ZAv k c)[j]).toNat < a.length:=by rw [h.row a b]; omega
  exact h.bd a b _ (by simp [f])
theorem ZQY{c Bd k:Nat}{rows:List (List Int)}(h:Mx c Bd rows)(hl:rows.length+1=c)(hk:k < c):(ZFo (ZAu rows (ZAv k c))).natAbs≤1152921504606846976:=by
 have a:=ZKa h hl hk;unfold ZFo
 have d:=Lin.od_bd (n:=(ZAu rows (ZAv k c)).length) (B:=Bd) (fm (ZAu rows (ZAv k c))) (fun _=>false) (fun r hr j hj=>by
  simp only [fm,List.mem_map] at hr;obtain ⟨l,hl,rfl⟩:=hr
  exact a.bd l hl j hj) (by rw [Lin.cu_none]; simp [fm])
 have b:(fm (ZAu rows (ZAv k c))).length=(ZAu rows (ZAv k c)).length:=by simp [fm]
 rw [b] at d;have:=a.small;omega
theorem ZQZ{c Bd:Nat}{rows:List (List Int)}(h:Mx c Bd rows)(hl:rows.length+1=c):∀z∈muL c rows,z.natAbs≤1152921504606846976:=by
 intro z a;simp only [muL,List.mem_map,List.mem_range] at a;obtain ⟨k,d,rfl⟩:=a;have b:=ZQY h hl d;rw [ZIj hl d] at b;unfold Lin.mu;rw [Int.natAbs_mul]
 have f:(Lin.ngo k).natAbs=1:=by rw [ZEG]; by_cases e:k % 2=1 <;> simp [e]
 rw [f,Nat.one_mul]; exact b
theorem ZFL{l:List Int}{b:Nat}(h:∀z∈l,z.natAbs≤b):∀z∈Lin.low l,z.natAbs≤b:=by
 intro z d;simp only [Lin.low,List.mem_map] at d;obtain ⟨y,a,rfl⟩:=d
 by_cases h0:Lin.gc l=0
 ·rw [h0]; simp
 ·have g:=h y a
  obtain ⟨q,c⟩:=Lin.gc_dvd a
  have f:y / (Lin.gc l:Int)=q:=by rw [c]; exact Int.mul_ediv_cancel_left q (by omega)
  have j:y.natAbs=Lin.gc l*q.natAbs:=by rw [c,Int.natAbs_mul]; simp
  rw [f]
  have i:1*q.natAbs≤Lin.gc l*q.natAbs:=Nat.mul_le_mul_right _ (by omega)
  omega
def ZAO(c:Nat)(m:List (List Int)):List Int:=if (ZAJ c m).length+1=c then Lin.upr (Lin.low (muL c (ZAJ c m))) else []
def ZAp(c:Nat)(m:List (List Int)):Bool:=decide ((ZAJ c m).length+1=c)
theorem ZEH(c Bd B:Nat)(m:List (List Int))(v:Value)(w:World)(hx:Mx c Bd m)(hm:Mat B 27 3 w v m)(hml:m.length≤500)(hm1:1≤m.length) :
  Calls Tryz.prog 70 #[v] w fun e w'=>∃x,e=.returned (.tuple #[x,.bool (ZAp c m)])∧Sl 0 3 w' x (ZAB (ZAO c m))∧Below w.heap.size w w':=by
 obtain ⟨i3,az,ae,L,af⟩:=info_parts Tryz.info3;obtain ⟨ao,bQ,bD,bR,bU⟩:=ZAD hm;subst bD;have bM:=hx.c5;have bN:=hx.c1;have HM:=hid hm;have HX:=hid hx
 obtain ⟨b,o,cp,r1,hs,bH,bi,aN⟩:=ZAP hm (k:=0) (by omega)
 simp only [Za3] at hs;obtain ⟨rfl,_,rfl⟩:=hs;obtain ⟨ro,rc,aF,bh,bI⟩:=ZAI aN
 have aO:(m.getD 0 []).length=c:=hx.row _ (by simp [show 0 < m.length by omega])
 rw [aO] at aF bh;subst aF;rw [Nat.add_zero] at bi;clear hm hx aN aO;go_enter Tryz.func70,Tryz.ntmps70
 go_wp2_with fail
 refine (ZJa c Bd B m _ w HX.out HM.out hml).mono ?_;rintro e d ⟨pv,rfl,X,ay⟩
 have ag:Hid (Mx c Bd (ZAJ c m)):=HX.out.sub fun r hr=>ZBU hr
 have bO:=ZGe c m
 have aP:Hid (ZAO c m=if (ZAJ c m).length+1=c then Lin.upr (Lin.low (muL c (ZAJ c m))) else []):=rfl
 have aA:Hid (ZAp c m=decide ((ZAJ c m).length+1=c)):=rfl;generalize ZAJ c m=P at *;have HP:Hid (Mat w.heap.size 27 3 d pv P):=X.mat (Za4 _);have aH:=hid ay;have aS:w.heap.size≤d.heap.size:=ay.size;clear X ay bi;obtain ⟨po,pc,bF,bG,bJ⟩:=ZAD HP.out;subst bF
 by_cases hn:P.length+1=c
 ·have bk:((P.length:Int) != (c:Int)-1)=false:=by rw [bne_eq_false_iff_eq]; omega
  have s:Hid (ZAO c m=Lin.upr (Lin.low (muL c P))):=by show _=_; rw [aP.out,if_pos hn]
  have n:Hid (ZAp c m=true):=by show _=_; rw [aA.out]; simpa using hn
  have HN:=hid hn;clear hn
  have bX:P.length≤4:=by have:=HN.out; omega
  go_wp2
  go_loopw [6,7] (fun x q wr=>∃k:Nat,k≤c∧q=.int .i64 k∧wr.ownsRow d.heap.size 3 1 x k (ZAB ((muL c P).take k))∧Below d.heap.size d wr) (fun _ q _=>c-(intOf q).toNat)
  case atStart=>exact ⟨0,Za5 _,rfl,World.ownsRow_nil _ _ _ _,Below.refl _ _⟩
  case round=>
   obtain ⟨k,hk,rfl,A,f⟩:=hrel
   obtain ⟨wa,rfl⟩:∃wa,wa=wr:=⟨wr,rfl⟩
   have HO:=hid A;have HB:=hid f;have bW:d.heap.size≤wa.heap.size:=f.size;clear A f
   by_cases hlt:k < c
   ·obtain ⟨M,hM⟩:∃M,M=wa.heap.size:=⟨_,rfl⟩
    have ar:=hid hM
    have bB:d.heap.size≤M:=by omega
    clear hM;go_wp2
    go_loopw [8,9] (fun x q wq=>∃j:Nat,j≤c∧q=.int .i64 j∧wq.ownsRow M 3 1 x (ZAv k j).length (ZAB (ZAv k j))∧Below M wa wq) (fun _ q _=>c-(intOf q).toNat)
    case atStart=>exact ⟨0,Za5 _,rfl,World.ownsRow_nil _ _ _ _,Below.refl _ _⟩
    case round=>
     obtain ⟨j,hj,rfl,A,f⟩:=hrel;have U:=hid A;have J:=hid f
     have aX:M≤wr.heap.size:=by have:=f.size; rw [ar.out]; exact this
     clear A f
     by_cases hjl:j < c
     ·have aV:Hid (ZAv k (j+1)=if j=k then ZAv k j else ZAv k j ++ [(j:Int)]):=ZFK k j
      have bV:(ZAv k j).length≤j:=by rw [ZDU.1]; split <;> omega
      by_cases hjk:j=k
      ·have bp:((j:Int) != (k:Int))=false:=by rw [bne_eq_false_iff_eq]; omega
       have V:Hid (ZAv k (j+1)=ZAv k j):=by show _=_; rw [aV.out,if_pos hjk]
       clear hjk;go_wp2
       go_roundw
       case rel=>exact ⟨j+1,by omega,by go_num,by rw [V.out]; exact U.out,J.out⟩
       case measure=>simp [intOf]; omega
      ·have bp:((j:Int) != (k:Int))=true:=by rw [bne_iff_ne]; omega
       have V:Hid (ZAv k (j+1)=ZAv k j ++ [(j:Int)]):=by show _=_; rw [aV.out,if_neg hjk]
       clear hjk;generalize ZAv k j=sl at *
       go_wp2_with (first | (at_builtin; refine wpList_append_own _ rfl _ _ 27 rfl M 3 i3 (.int .i64 0) 1 8 Tryz.underlying27 az ae L af rfl (by decide) _ _ _ rfl (U.out.alloc _) ⟨wr.heap.size,0,none⟩ 1 1 [.int .i64 j] rfl rfl (ZAS _ _ _) (ZA6 _) ?c3 ?c4 ?c5 ?_))
       case c3=>unfold maxLen; omega
       case c4=>omega
       case c5=>simp; omega
       intro v' w3 ho hg _;have R:=ZBR (z:=(j:Int)) (N:=sl.length+1) aX (l:=sl) U.out J.out ho hg rfl;have R1:Hid (w3.ownsRow M 3 1 v' (sl.length+1) (ZAB (sl ++ [(j:Int)]))):=R.1;have R2:Hid (Below M wa w3):=R.2;clear R ho hg;go_wp2
       go_roundw
       case rel=>exact ⟨j+1,by omega,by go_num,by rw [V.out]; simpa using R1.out,R2.out⟩
       case measure=>simp [intOf]; omega
     ·have bE:j=c:=by omega
      subst bE;have HS:Hid (Sl w.heap.size 3 wr u8 (ZAB (ZAv k j))):=Sl.own U.out
      have aT:Hid (Mat w.heap.size 27 3 wr (.slice po P.length pc) P):=(HP.out.below HB.out (Za4 _)).below J.out (by rw [ar.out]; exact Za4 _)
      have au:Hid (Below d.heap.size d wr):=HB.out.trans (J.out.mono bB)
      have aL:Hid (wr.ownsRow d.heap.size 3 1 u6 k (ZAB ((muL j P).take k))):=ZAQ HO.out J.out (by rw [ar.out]; exact Za4 _)
      have aJ:d.heap.size≤wr.heap.size:=au.out.size;clear HO HB U J
      go_wp2_with fail
      refine (ZEC w.heap.size P (ZAv k j) _ _ wr aT.out HS.out (by omega) (by rw [ZC6 hlt]; omega) ?_).mono ?_
      ·intro q hq
       have h1:=ZGh hq
       exact ⟨h1.1,fun r hr=>by rw [ag.out.row r hr]; exact h1.2⟩
      rintro e w2 ⟨xv,rfl,X,Q⟩;have aE:Hid (Mat wr.heap.size 27 3 w2 xv (ZAu P (ZAv k j))):=X.mat (Za4 _);have p:=hid Q;clear X Q
      go_wp2_with fail
      refine (ZKY Bd wr.heap.size (ZAu P (ZAv k j)) xv w2 (ZKa ag.out HN.out hlt) aE.out).mono ?_;rintro e w3 ⟨rfl,aU⟩;have an:Hid (Below wr.heap.size wr w3):=p.out.trans (aU.mono p.out.size);have F:Hid (w3.ownsRow d.heap.size 3 1 u6 k (ZAB ((muL j P).take k))):=ZAQ aL.out an.out (Za4 _);have O:Hid (Below d.heap.size d w3):=au.out.trans (an.out.mono aJ);have S:d.heap.size≤w3.heap.size:=O.out.size
      have bP:=ZQY ag.out HN.out hlt
      have aC:Hid (Lin.mu (fm P) k=Lin.ngo k*ZFo (ZAu P (ZAv k j))):=by show _=_; rw [ZIj HN.out hlt]; rfl
      have aB:Hid ((muL j P).take (k+1)=(muL j P).take k ++ [Lin.mu (fm P) k]):=ZM6 j P k hlt;clear aU p an aL au aE aT HS;generalize ZFo (ZAu P (ZAv k j))=D at *
      have T:((muL j P).take k).length=k:=by simp [muL]; omega
      have G:=hid T;clear T
      by_cases hodd:k % 2=1
      ·have bw:((k:Int) % 2 == 1)=true:=by rw [beq_iff_eq]; omega
       have Y:=hid hodd;clear hodd
       go_wp2_with (first | (at_builtin; refine wpList_append_own _ rfl _ _ 27 rfl d.heap.size 3 i3 (.int .i64 0) 1 8 Tryz.underlying27 az ae L af rfl (by decide) _ _ _ rfl (F.out.alloc _) ⟨w3.heap.size,0,none⟩ 1 1 [.int .i64 (-D)] rfl rfl (ZAS _ _ _) (ZA6 _) ?e3 ?e4 ?e5 ?_))
       case e3=>unfold maxLen; omega
       case e4=>omega
       case e5=>simp; omega
       intro v' w4 ho hg _
       have R:=ZBR (z:=(-D)) (N:=k+1) S (l:=(muL j P).take k) (by rw [G.out]; exact F.out) O.out (by rw [G.out]; exact ho) hg (by rw [G.out])
       have R1:Hid (w4.ownsRow d.heap.size 3 1 v' (k+1) (ZAB ((muL j P).take (k+1)))):=by
        have:=R.1
        rw [aB.out,aC.out,ZEG,if_pos Y.out,show (-1:Int)*D=-D by omega]; exact this
       have R2:Hid (Below d.heap.size d w4):=R.2;clear R ho hg;go_wp2
       go_roundw
       case rel=>exact ⟨k+1,by omega,by go_num,R1.out,R2.out⟩
       case measure=>simp [intOf]; omega
      ·have bw:((k:Int) % 2 == 1)=false:=by rw [beq_eq_false_iff_ne]; omega
       have Y:=hid hodd;clear hodd
       go_wp2_with (first | (at_builtin; refine wpList_append_own _ rfl _ _ 27 rfl d.heap.size 3 i3 (.int .i64 0) 1 8 Tryz.underlying27 az ae L af rfl (by decide) _ _ _ rfl (F.out.alloc _) ⟨w3.heap.size,0,none⟩ 1 1 [.int .i64 D] rfl rfl (ZAS _ _ _) (ZA6 _) ?f3 ?f4 ?f5 ?_))
       case f3=>unfold maxLen; omega
       case f4=>omega
       case f5=>simp; omega
       intro v' w4 ho hg _
       have R:=ZBR (z:=D) (N:=k+1) S (l:=(muL j P).take k) (by rw [G.out]; exact F.out) O.out (by rw [G.out]; exact ho) hg (by rw [G.out])
       have R1:Hid (w4.ownsRow d.heap.size 3 1 v' (k+1) (ZAB ((muL j P).take (k+1)))):=by
        have:=R.1;rw [aB.out,aC.out,ZEG,if_neg Y.out,Int.one_mul]; exact this
       have R2:Hid (Below d.heap.size d w4):=R.2;clear R ho hg;go_wp2
       go_roundw
       case rel=>exact ⟨k+1,by omega,by go_num,R1.out,R2.out⟩
       case measure=>simp [intOf]; omega
   ·have aQ:k=c:=by omega
    have bv:Hid (wa.ownsRow d.heap.size 3 1 u6 c (ZAB (muL c P))):=by
     have h:=HO.out
     rw [Zaa2 (by simp [muL]; omega),aQ] at h
     exact h
    have aW:Hid (∀z∈muL c P,z.natAbs≤1152921504606846976):=ZQZ ag.out HN.out
    have ah:(muL c P).length=c:=by simp [muL]
    have ai:=hid ah;have aR:Hid (Below w.heap.size w wa):=aH.out.trans (HB.out.mono aS);clear aQ HO ah;generalize muL c P=ml at *
    go_wp2_with fail
    refine (ZD8 0 ml u6 wa (Sl.own bv.out) (by rw [ai.out]; omega) (fun z hz=>Zaa8 (aW.out z hz) (by omega))).mono ?_
    rintro e w2 ⟨lv,rfl,aG,Q⟩
    have aZ:Hid (∀z∈Lin.low ml,z.natAbs≤1152921504606846976):=ZFL aW.out
    have T:(Lin.low ml).length=c:=by rw [←ai.out]; simp [Lin.low]
    have a:=hid T;have g:Hid (Sl 0 3 w2 lv (ZAB (Lin.low ml))):=Sl.own aG;have p:Hid (Below w.heap.size w w2):=aR.out.trans (Q.mono aR.out.size);have aK:w.heap.size≤w2.heap.size:=p.out.size;clear aG Q T;generalize Lin.low ml=lw at *;obtain ⟨lo,aa,bl,aI,bL⟩:=ZAI g.out;subst bl;have aj:=a.out;rw [aj] at aI g ⊢;clear aj;go_wp2
    go_loopw [6,11] (fun y q wr=>∃k:Nat,k≤c∧q=.int .i64 k∧y=.slice lo c aa∧wr=w2∧∀i,i < k→lw.getD i 0=0) (fun _ q _=>c-(intOf q).toNat)
    case atStart=>exact ⟨0,Za5 _,rfl,rfl,rfl,fun i hi=>absurd hi (by omega)⟩
    case round=>
     obtain ⟨t,ht,rfl,rfl,rfl,bg⟩:=hrel;have ak:=hid bg;clear bg
     by_cases htl:t < c
     ·have E:t < lw.length:=by rw [a.out]; exact htl
      obtain ⟨b2,o2,bS,am,bq,bK⟩:=ZAK (by rw [←a.out] at g; exact g.out) E
      rw [a.out] at am bq;simp only [Za3] at am;obtain ⟨rfl,_,rfl⟩:=am
      have bT:=aZ.out (lw.getD t 0) (by simp [E])
      have aq:Hid (lw.getD t 0≠0→Lin.upr lw=if lw.getD t 0 < 0 then lw.map (fun v=>-v) else lw):=by
       intro bt;unfold Lin.upr;rw [Lin.find_at E ak.out bt]
      have bj:Hid (lw.getD t 0=0→∀i,i < t+1→lw.getD i 0=0):=by
       intro h0 i hi
       by_cases e:i < t
       ·exact ak.out i e
       ·rw [show i=t by omega]; exact h0
      generalize lw.getD t 0=x at *;clear E
      by_cases hx0:x=0
      ·have bA:(x != 0)=false:=by simp [hx0]
       have aY:=bj.out hx0;have bz:=hid aY;clear hx0 aY;go_wp2
       go_roundw
       case rel=>exact ⟨t+1,by omega,by go_num,by trivial,by trivial,bz.out⟩
       case measure=>simp [intOf]; omega
      ·have bA:(x != 0)=true:=by simp [hx0]
       have HU:=aq.out hx0
       by_cases hneg:x < 0
       ·have aw:Hid (Lin.upr lw=lw.map (fun v=>-v)):=by show _=_; rw [HU,if_pos hneg]
        clear hx0 HU aq
        go_wp2_with fail
        refine (ZBq 0 lw _ wr (by rw [←a.out] at g; simpa [a.out] using g.out) (by rw [a.out]; omega) (fun z hz=>by have:=aZ.out z hz; omega)).mono ?_
        rintro e w5 ⟨tv,rfl,aD,aM⟩
        have bC:Hid (Sl 0 3 w5 tv (ZAB (lw.map fun z=>-z))):=Sl.own aD
        have bu:Hid (Below w.heap.size w w5):=p.out.trans (aM.mono aK);clear aD aM;go_wp2
        go_ret2
        refine ⟨tv,?_,?_,bu.out⟩
        ·rw [n.out]; rfl
        ·rw [s.out,aw.out]; exact bC.out
       ·have aw:Hid (Lin.upr lw=lw):=by show _=_; rw [HU,if_neg hneg]
        clear hx0 HU aq;go_wp2
        go_ret2
        refine ⟨.slice (some ⟨b2,o2,none⟩) c aa,?_,?_,p.out⟩
        ·rw [n.out]; rfl
        ·rw [s.out,aw.out]; exact g.out
     ·go_wp2
      go_ret2
      refine ⟨.slice lo c aa,?_,?_,p.out⟩
      ·rw [n.out]; rfl
      ·have hu:Lin.upr lw=lw:=by
        unfold Lin.upr
        rw [Lin.find_none (fun i hi=>ak.out i (by rw [a.out] at hi; omega))]; simp
       rw [s.out,hu]; exact g.out
 ·have bk:((P.length:Int) != (c:Int)-1)=true:=by rw [bne_iff_ne]; omega
  have s:Hid (ZAO c m=[]):=by show _=_; rw [aP.out,if_neg hn]
  have n:Hid (ZAp c m=false):=by show _=_; rw [aA.out]; simpa using hn
  clear hn;go_wp2
  go_ret2
  refine ⟨.slice none 0 0,?_,?_,aH.out⟩
  ·rw [n.out]; rfl
  ·rw [s.out]; exact Sl.nil _ _ _
end Go.Proofs.YtkjkfceblmgogaaGreat
