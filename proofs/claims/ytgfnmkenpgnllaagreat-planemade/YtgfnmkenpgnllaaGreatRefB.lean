import Derived.Test.YtgfnmkenpgnllaaGreatRefA
set_option maxRecDepth 100000
set_option maxHeartbeats 4000000
namespace Go.Proofs.YtgfnmkenpgnllaaGreat
open Go.RowKit
attribute [local go_sem ↓] Go.wp_at_zero Go.wp_at_succ
theorem Tryz.info4:(Tryz.prog.info? 4).map (fun i=>(i.zero,i.size,i.bytes))=some (some (.bool false),1,1):=by kernel_rfl
def fm(m:List (List Int)):List (Nat→Int):=m.map fun l j=>l.getD j 0
structure Sq(n Bd:Nat)(m:List (List Int)):Prop where
 len:m.length=n
 row:∀r∈m,n≤r.length
 bd:∀r∈m,∀j,j < n→(r.getD j 0).natAbs≤Bd
 small:Lin.fb Bd n≤1152921504606846976
 n64:n≤64
 pos:1≤Bd
theorem ZBG{Bd : Nat}(h : 1 ≤ Bd) : ∀ {a b : Nat}, a ≤ b → Lin.fb Bd a ≤ Lin.fb Bd b := by
  intro a b c
  induction b with
  | zero => have : a = 0 := by omega
            subst this; exact Za4 _
  | succ b ih =>
    by_cases e : a = b + 1
    · subst e; exact Za4 _
    · have := ih (by omega)
      simp only [Lin.fb]
      have d : 1 * Lin.fb Bd b ≤ (b + 1) * Bd * Lin.fb Bd b := Nat.mul_le_mul_right _ (Nat.mul_pos (by omega) (by omega))
      omega
theorem ZFh{w w3:World}{g n:Nat}{t:TypeId}{f:Nat→Value}(h:w.rowIs g t n f)(h3:w3.rowIs g t n f)(ho:w3.os=w.os)(ht:w3.tape=w.tape)(hp:w3.output=w.output)(hs:w.heap.size≤w3.heap.size)
 (hb:∀b,b < w.heap.size→b≠g→w3.heap[b]?=w.heap[b]?):Below w.heap.size w w3:=by
 refine ⟨ho,ht,hp,hs,fun b hb'=>?_⟩
 by_cases e:b=g
 ·subst e
  obtain ⟨c,o,x,p⟩:=h;obtain ⟨v,d,s,j⟩:=h3;rw [o,d]
  have:c=v:=by
   apply Array.ext
   ·omega
   ·intro i r l
    have a:=p i (by omega)
    have m:=j i (by omega)
    rw [Array.getElem?_eq_getElem r] at a;rw [Array.getElem?_eq_getElem l] at m;simp at a m;rw [a,m]
  rw [this]
 ·exact hb b hb' e
theorem ZEG{w w':World}{b N n:Nat}{t:TypeId}{f:Nat→Value}(h:w.rowIs b t n f)(hb:Below N w w')(hN:w.heap.size≤N):w'.rowIs b t n f:=
 h.of_block (hb.block b (Nat.lt_of_lt_of_le h.lt hN))
theorem Mat.setCell{B:Nat}{e2 e1 t:TypeId}{w:World}{v u:Value}{m:List (List Int)}{g k n:Nat}{f:Nat→Value}(h:Mat B e2 e1 w v m)(hr:w.rowIs g t n f)(hg:B≤g)(h1:t≠e1)(h2:t≠e2):Mat B e2 e1 (w.setCell ⟨g,k,none⟩ u) v m:=by
 obtain ⟨c,d,_⟩:=hr;obtain ⟨b,j,l,r⟩:=h
 have z:∀e,t≠e→∀a,w.heap[g]?≠some (.cells a e (0,0)):=by
  intro e o a; rw [d]; simp; intro _ p; exact absurd p o
 exact ⟨b,j,l.setCell _ ⟨hg,z e2 h2⟩,fun i hi=>(r i hi).setCell _ ⟨hg,z e1 h1⟩⟩
def ZC4(n:Nat)(r:Nat→Int)(rs:List (Nat→Int))(U:Nat→Bool)(k:Nat):Int:=
 Lin.sumN k fun j=>if U j then 0 else Lin.sg n U j*r j*Lin.od n rs (Lin.ins U j)
theorem ZEH(n:Nat)(r:Nat→Int)(rs:List (Nat→Int))(U:Nat→Bool)(k:Nat) :
  ZC4 n r rs U (k+1)=ZC4 n r rs U k+if U k then 0 else Lin.sg n U k*r k*Lin.od n rs (Lin.ins U k):=rfl
theorem ZOj{U : Nat → Bool}{a b : Nat}(h : a ≤ b) : Lin.cu a U ≤ Lin.cu b U := by
  induction b with
  | zero => have : a = 0 := by omega
            subst this; exact Za4 _
  | succ b ih =>
    by_cases e : a = b + 1
    · subst e; exact Za4 _
    · have := ih (by omega); simp only [Lin.cu]; omega
theorem ZGS{n Bd k:Nat}{r:Nat→Int}{rs:List (Nat→Int)}{U:Nat→Bool}(hr:∀j,j < n→(r j).natAbs≤Bd)(hrs:∀x∈rs,∀j,j < n→(x j).natAbs≤Bd)(hc:Lin.cu n U≤rs.length+1)(hk:k≤n) :
  (ZC4 n r rs U k).natAbs≤Lin.fb Bd (rs.length+1):=by
 unfold ZC4
 refine Zaa8 (Lin.sum_bd (b:=Bd*Lin.fb Bd rs.length) fun j hj hU=>?_) ?_
 ·rw [Int.natAbs_mul,Int.natAbs_mul,Lin.sg_abs,Nat.one_mul]
  exact Nat.mul_le_mul (hr j (by omega)) (Lin.od_bd rs _ hrs (by have:=Lin.cu_ins (n:=n) (by omega) hU; omega))
 ·have a:=ZOj (U:=U) hk
  simp only [Lin.fb]
  rw [Nat.mul_assoc]; exact Nat.mul_le_mul_right _ (by omega)
theorem ZOk{n Bd j:Nat}{r:Nat→Int}{rs:List (Nat→Int)}{U:Nat→Bool}(hr:∀j,j < n→(r j).natAbs≤Bd)(hrs:∀x∈rs,∀j,j < n→(x j).natAbs≤Bd)(hc:Lin.cu n U≤rs.length+1)(hj:j < n)(hU:U j=false) :
  (Lin.od n rs (Lin.ins U j)).natAbs≤Lin.fb Bd rs.length∧(r j*Lin.od n rs (Lin.ins U j)).natAbs≤Lin.fb Bd (rs.length+1):=by
 have a:=Lin.od_bd (n:=n) (B:=Bd) rs (Lin.ins U j) hrs (by have:=Lin.cu_ins (n:=n) hj hU; omega)
 refine ⟨a,?_⟩;rw [Int.natAbs_mul];have b:=Nat.mul_le_mul (hr j hj) a;simp only [Lin.fb]
 have c:1*(Bd*Lin.fb Bd rs.length)≤(rs.length+1)*(Bd*Lin.fb Bd rs.length):=Nat.mul_le_mul_right _ (by omega)
 rw [Nat.mul_assoc]; omega
theorem ZOl{m:List (List Int)}{i:Nat}(h:i < m.length):fm (m.drop i)=(fun j=>(m.getD i []).getD j 0) :: fm (m.drop (i+1)):=by
 have e:m.drop i=m[i] :: m.drop (i+1):=(List.getElem_cons_drop (h:=h)).symm
 rw [e,show m.getD i []=m[i] by simp [h]]
 rfl
def ZEI(d:Nat):Prop:=∀(n Bd B0 g i:Nat) (m:List (List Int)) (U:Nat→Bool) (s:Int) (v:Value) (w:World),Sq n Bd m→i+d=n→B0≤g→Mat B0 22 3 w v m→
 w.rowIs g 4 n (fun j=>.bool (U j))→(s=1∨s=-1)→Lin.cu n U≤d→
 Calls Tryz.prog 99 #[v,.int .i64 i,.slice (some ⟨g,0,none⟩) n n,.int .i64 s] w fun e w'=>
  e=.returned (.int .i64 (s*Lin.od n (fm (m.drop i)) U))∧Below w.heap.size w w'
theorem ZHW:ZEI 0:=by
 intro n Bd z g i m U s v w f y x d o A B;obtain ⟨D,r,b,p,l⟩:=ZAE d;subst b
 have a:i=m.length:=by have:=f.len; omega
 have c:fm (m.drop i)=[]:=by rw [a,List.drop_length]; rfl
 have t:((i:Int) == (m.length:Int))=true:=by simp [a]
 have j:=hid c;clear d o f c a;go_enter Tryz.func99,Tryz.ntmps99;go_wp2;go_ret
 exact ⟨ZA9 (by rw [j.out]; simp [Lin.od]),Below.refl _ _⟩
theorem ZN2{B:Nat}{e t:TypeId}{w:World}{b o n c g k:Nat}{xs:List Value}{f:Nat→Value}(h:Sl B e w (.slice (some ⟨b,o,none⟩) n c) xs)(hp:0 < xs.length)(hr:w.rowIs g t k f)(hg:B≤g)(hne:t≠e):b≠g:=by
 obtain ⟨s,l,hv,_,_,i,_⟩:=h;obtain ⟨p,m,d,_,a⟩:=i 0 hp;simp only [Za3] at hv;obtain ⟨rfl,_,_⟩:=hv;simp only [Zaa9,Addr.mk.injEq] at d;obtain ⟨rfl,_,_⟩:=d;rintro rfl
 rcases a with a | ⟨cur,a⟩
 ·omega
 ·obtain ⟨r,j,_⟩:=hr
  rw [j] at a;simp at a;exact hne a.2
theorem ZOm{B:Nat}{w:World}{v:Value}{m:List (List Int)}{g n:Nat}{f:Nat→Value}(h:Mat B 22 3 w v m){k:Nat}(hk:k < m.length)(hp:0 < (m.getD k []).length)(hr:w.rowIs g 4 n f)(hg:B≤g) :
  ∃b o cap b2 o2 cap2,v=.slice (some ⟨b,o,none⟩) m.length cap∧w.cell? ⟨b,o+k,none⟩=some (.slice (some ⟨b2,o2,none⟩) (m.getD k []).length cap2)∧b≠g∧b2≠g∧(m.getD k []).length≤cap2∧
   ∀j,j < (m.getD k []).length→w.cell? ⟨b2,o2+j,none⟩=some (.int .i64 ((m.getD k []).getD j 0)):=by
 have t:=h;obtain ⟨x,y,r,z⟩:=t;obtain ⟨b,o,cap,u,hv,s,l,p⟩:=ZAP h hk;have i:=p
 obtain ⟨b2,o2,cap2,c,d,_,a⟩:=i.at (by simpa using hp)
 simp only [ZA1] at c d a;subst hv c
 refine ⟨b,o,cap,b2,o2,cap2,rfl,l,ZN2 r (by omega) hr hg (by decide),ZN2 p (by simpa using hp) hr hg (by decide),d,fun j hj=>?_⟩
 rw [a j hj,ZAa _ _ hj]
theorem ZKG{w wa w2:World}{g k n:Nat}{U:Nat→Bool}(hk:k < n)(hU:U k=false)(h:w.rowIs g 4 n (fun j=>.bool (U j)))(hb:Below w.heap.size w wa)(ha:wa.rowIs g 4 n (fun j=>.bool (U j)))
 (h2:Below (wa.setCell ⟨g,k,none⟩ (.bool true)).heap.size (wa.setCell ⟨g,k,none⟩ (.bool true)) w2) :
  w2.cell? ⟨g,k,none⟩=some (.bool true)∧w2.frozen? ⟨g,k,none⟩=false∧Below w.heap.size w (w2.setCell ⟨g,k,none⟩ (.bool false)):=by
 have d:(wa.setCell ⟨g,k,none⟩ (.bool true)).heap.size=wa.heap.size:=by simp [World.setCell]
 have a:w2.rowIs g 4 n (fun j=>if j=k then .bool true else .bool (U j)):=ZEG (ha.set k (.bool true)) h2 (Za4 _)
 refine ⟨?_,a.frozen k,?_⟩
 ·have:=a.cell hk; simpa using this
 ·have c:(w2.setCell ⟨g,k,none⟩ (.bool false)).rowIs g 4 n (fun j=>.bool (U j)):=by
   refine (a.set k (.bool false)).congr fun j hj=>?_
   by_cases e:j=k
   ·subst e; simp [hU]
   ·simp [e]
  refine ZFh h c (h2.os.trans hb.os) (h2.tape.trans hb.tape) (h2.output.trans hb.output) ?_ fun b hb' hne=>?_
  ·have f:=hb.size
   have l:=h2.size
   have i:(w2.setCell ⟨g,k,none⟩ (.bool false)).heap.size=w2.heap.size:=by simp [World.setCell]
   omega
  ·have f:=hb.size
   rw [Below.heap_setCell _ _ _ _ hne,h2.block b (by omega),Below.heap_setCell _ _ _ _ hne]
   exact hb.block b hb'
theorem ZP5{wa W w2:World}{g k:Nat}{u v1 v2:Value}{a1 a2:Addr}(hb:Below W.heap.size W w2)(h1:a1.block≠g)(h2:a2.block≠g)(c1:wa.cell? a1=some v1)(c2:wa.cell? a2=some v2)
 (hW:W.heap=(wa.setCell ⟨g,k,none⟩ u).heap:=by rfl):Hid (w2.cell? a1=some v1∧w2.cell? a2=some v2):=by
 have d:W.heap.size=wa.heap.size:=by rw [hW]; simp [World.setCell]
 have f:=World.block_lt_of_cell? wa a1 c1;have c:=World.block_lt_of_cell? wa a2 c2
 have e:∀a:Addr,a.block≠g→W.cell? a=wa.cell? a:=by
  intro a b;refine World.cell?_of_block (w:=wa) ?_;rw [hW]; exact Below.heap_setCell _ _ _ _ b
 exact ⟨(hb.cell (by omega)).trans ((e a1 h1).trans c1),(hb.cell (by omega)).trans ((e a2 h2).trans c2)⟩
theorem ZKH(n:Nat)(U:Nat→Bool)(k:Nat){s:Int}(hs:s=1∨s=-1):s*Lin.sg n U k=1∨s*Lin.sg n U k=-1:=by
 have:=Lin.sg_abs n U k
 rcases hs with rfl | rfl <;> omega
theorem ZHX(d:Nat)(ih:ZEI d):ZEI (d+1):=by
 intro n Bd B0 g i m U s v w M hi hg hm hr hs hc;obtain ⟨ao,Y,aR,bw,bp⟩:=ZAE hm;subst aR;have aO:=M.len;have aW:=M.n64
 have S:i < m.length:=by omega
 have aN:=hid S
 have G:m.getD i []∈m:=by simp [S]
 have bD:=M.row _ G;have HQ:=hid M;have HM:=hid hm;have HR:=hid hr;have aJ:=hid ih
 obtain ⟨f,D⟩:∃f,f=fm (m.drop (i+1)):=⟨_,rfl⟩
 obtain ⟨r,B⟩:∃r:Nat→Int,r=fun j=>(m.getD i []).getD j 0:=⟨_,rfl⟩
 have az:Hid (fm (m.drop i)=r :: f):=by rw [D,B]; exact ZOl S
 have aI:=hid D;have bq:=hid B
 have F:f.length=d:=by rw [D]; simp [fm]; omega
 have ag:=hid F
 have V:Hid (∀j,j < n→(r j).natAbs≤Bd):=by rw [B]; exact fun j hj=>M.bd _ G j hj
 have z:Hid (∀x∈f,∀j,j < n→(x j).natAbs≤Bd):=by
  rw [D]; intro x hx j hj;simp only [fm,List.mem_map] at hx;obtain ⟨l,hl,rfl⟩:=hx;exact M.bd l (List.mem_of_mem_drop hl) j hj
 have HC:Hid (Lin.cu n U≤f.length+1):=by rw [F]; exact hc
 have bB:Lin.fb Bd (f.length+1)≤1152921504606846976:=Zaa8 (ZBG M.pos (by omega)) M.small
 have t0:((i:Int) == (m.length:Int))=false:=by simp; omega
 have ay:(m.length:Int)=(n:Int):=by omega
 subst aO
 obtain ⟨X,T,bl,J,a,rc,au,P,aw,ar,aV,an⟩:=ZOm HM.out aN.out (by omega) HR.out hg
 simp only [Za3] at au;obtain ⟨rfl,_,rfl⟩:=au
 have af:Hid (∀j,j < m.length→w.cell? ⟨J,a+j,none⟩=some (.int .i64 (r j))):=by
  rw [B]; exact fun j hj=>an j (by omega)
 have aQ:=ZAI P
 have aH:J < w.heap.size:=ZAI (af.out 0 (by omega))
 clear hm hr M ih D B G F hc ay an;generalize hL:(m.getD i []).length=L at *;have bC:=hid hL;clear hL;go_enter Tryz.func99,Tryz.ntmps99;go_wp2
 go_loopw [9,10] (fun x q wr=>∃k:Nat,k≤m.length∧q=.int .i64 k∧x=.int .i64 (s*ZC4 m.length r f U k)∧Below w.heap.size w wr) (fun _ q _=>m.length-(intOf q).toNat)
 case atStart=>exact ⟨0,Za5 _,rfl,by simp [ZC4,Lin.sumN],Below.refl _ _⟩
 case round=>
  obtain ⟨k,hk,rfl,rfl,p⟩:=hrel
  obtain ⟨y,rfl⟩:∃y,y=wr:=⟨wr,rfl⟩
  have HB:=hid p
  have o:Hid (y.rowIs g 4 m.length (fun j=>.bool (U j))):=ZEG HR.out p (Za4 _)
  have aA:Hid (Mat B0 22 3 y (.slice (some ⟨X,T,none⟩) m.length Y) m):=HM.out.below p (Za4 _);have aL:=ZGS (k:=k) V.out z.out HC.out hk;clear p
  by_cases hlt:k < m.length
  ·have aq:=o.out.cell hlt
   have c:=ZGS (k:=k+1) V.out z.out HC.out (by omega)
   cases hU:U k
   ·rw [hU] at aq
    have bj:=o.out.frozen k;have ah:y.cell? ⟨X,T+i,none⟩=some (.slice (some ⟨J,a,none⟩) L rc):=(HB.out.cell aQ).trans P;have aj:y.cell? ⟨J,a+k,none⟩=some (.int .i64 (r k)):=(HB.out.cell aH).trans (af.out k hlt);obtain ⟨aM,aC⟩:=ZOk V.out z.out HC.out hlt hU;have HU:=hid hU;generalize hA:s*ZC4 m.length r f U k=A;have HA:=hid hA
    have bA : -1152921504606846976≤A∧A≤1152921504606846976:=by
     rw [←hA]; rcases hs with rfl | rfl <;> omega
    clear hA hU;go_wp2
    go_loop [11,12] (fun t q=>∃j:Nat,k+1≤j∧j≤m.length∧q=.int .i64 j∧t=.int .i64 (s*Lin.sg j U k)) (fun _ q=>m.length-(intOf q).toNat)
    case atStart=>exact ⟨k+1,Za4 _,by omega,by go_num,by rw [Lin.sg_last U (by omega)]; simp⟩
    case round=>
     obtain ⟨j,bv,bt,rfl,rfl⟩:=hrel;have aa:=ZKH j U k hs
     by_cases hjl:j < m.length
     ·have O:=o.out.cell hjl
      have ak:s*Lin.sg (j+1) U k=if U j then-(s*Lin.sg j U k) else s*Lin.sg j U k:=by
       simp only [Lin.sg]
       cases U j
       ·simp
       ·rw [if_pos ⟨by omega,rfl⟩,if_pos rfl,Int.mul_neg]
      have ai:=hid ak;clear ak;generalize s*Lin.sg j U k=tt at *
      have aZ : -1≤tt:=by omega
      have bh:tt≤1:=by omega
      clear aa
      cases hUj:U j
      ·rw [hUj] at O
       go_wp2
       go_round
       case rel=>exact ⟨j+1,by omega,by omega,by go_num,by rw [ai.out,hUj]; simp⟩
       case measure=>simp [intOf]; omega
      ·rw [hUj] at O
       go_wp2
       go_round
       case rel=>exact ⟨j+1,by omega,by omega,by go_num,by rw [ai.out,hUj]; simp⟩
       case measure=>simp [intOf]; omega
     ·have aT:j=m.length:=by omega
      subst aT
      have ae:Hid (s*ZC4 m.length r f U (k+1)=A+r k*(s*Lin.sg m.length U k*Lin.od m.length f (Lin.ins U k))):=by
       show _=_
       rw [ZEH,HU.out,←HA.out]; simp only [Bool.false_eq_true,if_false]; grind
      generalize s*Lin.sg m.length U k=t at *;have HX:Hid (t*Lin.od m.length f (Lin.ins U k)=t*Lin.od m.length f (Lin.ins U k)):=rfl
      obtain ⟨Q,N⟩:∃Q,Q=t*Lin.od m.length f (Lin.ins U k):=⟨_,rfl⟩
      have aB:=hid N
      have bk:(r k*Q).natAbs≤1152921504606846976:=by
       have e:(r k*Q).natAbs=(r k*Lin.od m.length f (Lin.ins U k)).natAbs:=by
        have aU:t.natAbs=1:=by omega
        rw [N,Int.natAbs_mul,Int.natAbs_mul,Int.natAbs_mul,aU,Nat.one_mul]
       rw [e]; omega
      rw [←N] at ae;have am:t=1∨t=-1:=aa;have aP:=hid am;clear aa am N HX aM aC aL c;generalize r k=rk at *
      by_cases hz:rk=0
      ·have aS:(rk != 0)=false:=by simp [hz]
       have HZ:=hid hz;clear hz;go_wp2
       go_roundw
       case rel=>
        obtain ⟨_,_,h3⟩:=ZKG (w2:=y.setCell ⟨g,k,none⟩ (.bool true)) hlt HU.out HR.out HB.out o.out (Below.refl _ _)
        exact ⟨k+1,by omega,by go_num,by rw [ae.out,HZ.out]; simp,h3⟩
       case measure=>simp [intOf]; omega
      ·have aS:(rk != 0)=true:=by simp [hz]
       clear hz
       have E:Hid (∀W:World,W.heap=(y.setCell ⟨g,k,none⟩ (.bool true)).heap→Calls Tryz.prog 99 #[.slice (some ⟨X,T,none⟩) m.length Y,.int .i64 (IntKind.i64.wrap ((i:Int)+1)),.slice (some ⟨g,0,none⟩) m.length m.length,.int .i64 t] W
         fun e w'=>e=.returned (.int .i64 Q)∧Below W.heap.size W w'):=by
        intro W hW
        have e1:IntKind.i64.wrap ((i:Int)+1)=((i+1:Nat):Int):=by
         rw [IntWalk.i64_left]; rw [IntWalk.wrap64_in _ ⟨by omega,by omega⟩]; omega
        have aE:W.rowIs g 4 m.length (fun j=>.bool (Lin.ins U k j)):=by
         refine (((o.out.set k (.bool true)).of_block (w':=W) (by rw [hW])).congr fun j hj=>?_)
         unfold Lin.ins
         by_cases e:j=k <;> simp [e]
        have aK:Mat B0 22 3 W (.slice (some ⟨X,T,none⟩) m.length Y) m:=by
         have aG:=aA.out.setCell (k:=k) (u:=.bool true) o.out hg (by decide) (by decide)
         obtain ⟨vs,q1,q2,q3⟩:=aG
         have mv:∀e v xs,Sl B0 e (y.setCell ⟨g,k,none⟩ (.bool true)) v xs→Sl B0 e W v xs:=fun e v xs h=>h.move fun b _ ht=>⟨by rw [hW],ht⟩
         exact ⟨vs,q1,mv _ _ _ q2,fun i hi=>mv _ _ _ (q3 i hi)⟩
        have aF:Lin.cu m.length (Lin.ins U k)≤d:=by
         have h1:=Lin.cu_ins hlt HU.out;have h2:=HC.out;rw [ag.out] at h2;omega
        have h:=aJ.out m.length Bd B0 g (i+1) m (Lin.ins U k) t _ W HQ.out (by omega) hg aK aE aP.out aF
        rw [←aI.out,←aB.out] at h;rw [e1]; exact h
       have K0:Hid ((y.setCell ⟨g,k,none⟩ (.bool true)).cell? ⟨X,T+i,none⟩=some (.slice (some ⟨J,a,none⟩) L rc)∧(y.setCell ⟨g,k,none⟩ (.bool true)).cell? ⟨J,a+k,none⟩=some (.int .i64 rk)):=
        ZP5 (W:=y.setCell ⟨g,k,none⟩ (.bool true)) (Below.refl _ _) aw ar ah aj
       have k1:=K0.out.1;have k2:=K0.out.2
       have bi:(0:Int)≤(k:Int):=by omega
       have bg:(k:Int) < (L:Int):=by omega
       have aX:(0:Int)≤(i:Int):=by omega
       have aY:(i:Int) < (m.length:Int):=by omega
       go_wp2
       go_region_held3 (fun w'=>w'.cell? ⟨X,T+i,none⟩=some (.slice (some ⟨J,a,none⟩) L rc)∧w'.cell? ⟨J,a+k,none⟩=some (.int .i64 rk)) (first | go_keep | exact KS.out | exact ⟨k1,k2⟩)
        ((go_at_call 99; refine (E.out _ (by rfl)).mono ?_; rintro e w2 ⟨rfl,c⟩; have KS:Hid (w2.cell? ⟨X,T+i,none⟩=some (.slice (some ⟨J,a,none⟩) L rc)∧w2.cell? ⟨J,a+k,none⟩=some (.int .i64 rk)):=ZP5 c aw ar ah aj))
       have e2:IntKind.i64.wrap (A+IntKind.i64.wrap (rk*Q))=A+rk*Q:=by
        rw [IntWalk.i64_left,IntWalk.i64_left,IntWalk.wrap64_in (rk*Q) ⟨by omega,by omega⟩,IntWalk.wrap64_in _ ⟨by omega,by omega⟩]
       rw [e2];have R:=ZKG (w2:=w2) hlt HU.out HR.out HB.out o.out ⟨c.os,c.tape,c.output,c.size,c.block⟩;have bz:=R.1;have bu:=R.2.1;have aD:Hid (Below w.heap.size w (w2.setCell ⟨g,k,none⟩ (.bool false))):=R.2.2;clear R c KS k1 k2 K0 e2 E;go_wp2
       go_roundw
       case rel=>exact ⟨k+1,by omega,by go_num,by rw [ae.out],aD.out⟩
       case measure=>simp [intOf]; omega
   ·rw [hU] at aq
    go_wp2
    go_roundw
    case rel=>exact ⟨k+1,by omega,by go_num,by rw [ZEH,hU]; simp,HB.out⟩
    case measure=>simp [intOf]; omega
  ·go_wp2
   go_ret
   have e:k=m.length:=by omega
   refine ⟨ZA9 ?_,HB.out⟩;rw [az.out,e]; rfl
theorem ZJL(d:Nat):ZEI d:=by
 induction d with
 | zero=>exact ZHW
 | succ d ih=>exact ZHX d ih
def ZFi(m:List (List Int)):Int:=Lin.od m.length (fm m) fun _=>false
theorem ZKI(Bd B:Nat)(m:List (List Int))(v:Value)(w:World)(hq:Sq m.length Bd m)(hm:Mat B 22 3 w v m) :
  Calls Tryz.prog 71 #[v] w fun e w'=>e=.returned (.int .i64 (ZFi m))∧Below w.heap.size w w':=by
 obtain ⟨s,o,d,j,i⟩:=ZAE hm;subst d;have r:=hq.n64;have l:=hid hm;have n:=hid hq;clear hm hq
 have p:=run_make_row' (P:=Tryz.prog) 124 4 (.bool false) 1 Tryz.underlying124 Tryz.info4 rfl .i64 .i64 m.length (by omega) (by omega)
 have c:=(Below.refl w.heap.size w).alloc (Za4 _) (.cells (madeCells #[.bool false] m.length) 4);have b:=hid c;clear c;go_enter Tryz.func71,Tryz.ntmps71
 go_wp2_with fail
 have h:=ZJL m.length m.length Bd w.heap.size w.heap.size 0 m (fun _=>false) 1 _ (w.alloc (.cells (madeCells #[.bool false] m.length) 4)) n.out (by omega) (Za4 _)
  ((l.out.any (Za4 _)).below b.out (Za4 _)) (World.rowIs_made w (.bool false) m.length 4) (Or.inl rfl) (by rw [Lin.cu_none]; exact Za4 _)
 refine h.mono ?_;rintro e g ⟨rfl,a⟩
 have f:Hid (Below w.heap.size w g):=b.out.trans (a.mono (by simp))
 clear a h;go_wp2;go_ret
 exact ⟨ZA9 (by simp [ZFi]),f.out⟩
end Go.Proofs.YtgfnmkenpgnllaaGreat
namespace Go.Proofs.YtgfnmkenpgnllaaGreat
open Go.RowKit
structure Mx(c Bd:Nat)(m:List (List Int)):Prop where
 row:∀r∈m,r.length=c
 bd:∀r∈m,∀z∈r,z.natAbs≤Bd
 c5:c≤5
 c1:1≤c
 pos:1≤Bd
 small:Lin.fb Bd c≤1152921504606846976
theorem ZBq:∀k n q,q∈ZAO k n→(∀i,i < k→0≤q.getD i 0∧q.getD i 0 < (n:Int))∧∀i j,i < j→j < k→q.getD i 0 < q.getD j 0:=by
 intro k
 induction k with
 | zero=>intro n q h; exact ⟨fun i f=>by omega,fun i j _ hj=>by omega⟩
 | succ k ih=>
  intro n q h;simp only [ZAO,List.mem_flatMap,List.mem_map,List.mem_range'_1] at h;obtain ⟨v,hv,l,d,rfl⟩:=h;have b:=ZBB k v l d;obtain ⟨c,m⟩:=ih v l d
  have a:∀i,i < k→(l ++ [(v:Int)]).getD i 0=l.getD i 0:=by
   intro i f; simp only [Za2]; rw [Za7 (by omega)]
  have g:(l ++ [(v:Int)]).getD k 0=v:=by
   simp only [Za2]; rw [Za8 (by omega)]; simp [b]
  refine ⟨fun i f=>?_,fun i j hij hj=>?_⟩
  ·by_cases e:i < k
   ·rw [a i e]; have:=c i e; omega
   ·rw [show i=k by omega,g]; omega
  ·by_cases e:j < k
   ·rw [a i (by omega),a j e]; exact m i j hij e
   ·rw [show j=k by omega,g,a i (by omega)]; exact (c i (by omega)).2
theorem ZFB:∀k n K,Lin.Rising k n K→((List.range k).map fun i=>(K i:Int))∈ZAO k n:=by
 intro k
 induction k with
 | zero=>intro n K _; simp [ZAO]
 | succ k ih=>
  intro n K h;simp only [ZAO,List.mem_flatMap,List.mem_map,List.mem_range'_1]
  have b:k≤K k:=by
   have:∀i,i < k+1→i≤K i:=by
    intro i
    induction i with
    | zero=>intro _; omega
    | succ i ii=>intro a; have:=ii (by omega); have:=h.1 i (i+1) (by omega) a; omega
   exact this k (by omega)
  refine ⟨K k,⟨b,by have:=h.2 k (by omega); omega⟩,_,ih (K k) K ⟨fun i j hij hj=>h.1 i j hij (by omega),fun i a=>h.1 i k a (by omega)⟩,?_⟩
  simp [List.range_succ]
def ZA6(c:Nat)(m:List (List Int)):Bool:=m.length == 0 || (decide (m.length≤c) && (ZAO m.length c).any fun q=>ZFi (ZAt m q) != 0)
def toK(q:List Int):Nat→Nat:=fun i=>(q.getD i 0).toNat
theorem ZFj{m:List (List Int)}{q:List Int}(hq:q.length=m.length):ZFi (ZAt m q)=Lin.od (fm m).length (Lin.cols (fm m) (toK q)) fun _=>false:=by
 unfold ZFi
 rw [ZBA,show (fm m).length=m.length by simp [fm]]
 refine Lin.od_congr (by simp [fm,ZAt,Lin.cols]) (fun i hi j hj=>?_) _
 have a:i < m.length:=by simpa [fm,ZAt] using hi
 simp [fm,ZAt,Lin.cols,a,toK,hq,hj]
theorem ZFC{k n:Nat}{q:List Int}(h:q∈ZAO k n):Lin.Rising k n (toK q):=by
 obtain ⟨a,c⟩:=ZBq k n q h
 refine ⟨fun i j hij hj=>?_,fun i hi=>?_⟩
 ·have b:=a i (by omega)
  have d:=c i j hij hj;unfold toK; omega
 ·have b:=a i hi
  unfold toK; omega
theorem ZGT{c:Nat}{m:List (List Int)} : ZA6 c m=true↔Lin.FreeP c (fm m):=by
 have a:(fm m).length=m.length:=by simp [fm]
 constructor
 ·intro h
  simp only [ZA6,Bool.or_eq_true,beq_iff_eq,Bool.and_eq_true,decide_eq_true_eq,List.any_eq_true] at h
  rcases h with h | ⟨_,q,hq,hd⟩
  ·have:m=[]:=List.eq_nil_of_length_eq_zero h
   subst this
   exact ⟨id,⟨fun _ _ _ h=>absurd h (by simp [fm]),fun _ h=>absurd h (by simp [fm])⟩,by simp [fm,Lin.cols,Lin.od]⟩
  ·refine ⟨toK q,by rw [a]; exact ZFC hq,?_⟩
   rw [←ZFj (ZBB _ _ _ hq)]
   simpa using hd
 ·rintro ⟨K,hK,b⟩
  rw [a] at hK;simp only [ZA6,Bool.or_eq_true,beq_iff_eq,Bool.and_eq_true,decide_eq_true_eq,List.any_eq_true]
  right
  have l:m.length≤c:=by
   by_cases h0:m.length=0
   ·omega
   ·have:∀i,i < m.length→i≤K i:=by
     intro i
     induction i with
     | zero=>intro _; omega
     | succ i ii=>intro d; have:=ii (by omega); have:=hK.1 i (i+1) (by omega) d; omega
    have n:=this (m.length-1) (by omega)
    have o:=hK.2 (m.length-1) (by omega)
    omega
  refine ⟨l,_,ZFB _ _ K hK,?_⟩
  rw [ZFj (by simp)]
  have e:Lin.od (fm m).length (Lin.cols (fm m) (toK ((List.range m.length).map fun i=>(K i:Int)))) (fun _=>false)=Lin.od (fm m).length (Lin.cols (fm m) K) (fun _=>false):=by
   refine Lin.od_congr (by simp [Lin.cols]) (fun i d j hj=>?_) _
   have g:i < m.length:=by simpa [Lin.cols,fm] using d
   have f:j < m.length:=by rw [a] at hj; exact hj
   simp [Lin.cols,fm,g,toK,f]
  rw [e]
  simpa using b
theorem ZOn{c Bd:Nat}{m:List (List Int)}{q:List Int}(h:Mx c Bd m)(hm:m.length≤c)(hq:q∈ZAO m.length c):Sq (ZAt m q).length Bd (ZAt m q):=by
 have f:=ZBB _ _ _ hq;have g:=h.c5;rw [ZBA]
 refine ⟨ZBA m q,fun r hr=>?_,fun r hr j hj=>?_,Zaa8 (ZBG h.pos hm) h.small,by omega,h.pos⟩
 ·simp only [ZAt,List.mem_map] at hr
  obtain ⟨a,_,rfl⟩:=hr;simp [f]
 ·simp only [ZAt,List.mem_map] at hr
  obtain ⟨a,b,rfl⟩:=hr
  have e:(q.map fun x=>a.getD x.toNat 0).getD j 0=a.getD (toK q j) 0:=by
   simp [toK,f,hj]
  rw [e];have d:=(ZFC hq).2 j hj
  have:a.getD (toK q j) 0∈a:=by
   have:toK q j < a.length:=by rw [h.row a b]; exact d
   simp [this]
  exact h.bd a b _ this
theorem ZDv(c Bd B:Nat)(m:List (List Int))(v:Value)(w:World)(hx:Mx c Bd m)(hm:Mat B 22 3 w v m)(hml:m.length≤1000) :
  Calls Tryz.prog 44 #[v] w fun e w'=>e=.returned (.bool (ZA6 c m))∧Below w.heap.size w w':=by
 obtain ⟨ao,am,ae,aA,aE⟩:=ZAE hm;subst ae;have az:=hx.c5;have HM:=hid hm;have HX:=hid hx
 by_cases h0:m.length=0
 ·have t0:((m.length:Int) == 0)=true:=by simp [h0]
  have f:ZA6 c m=true:=by simp [ZA6,h0]
  have n:=hid f;clear hm hx h0 f;go_enter Tryz.func44,Tryz.ntmps44;go_wp2;go_ret;exact ⟨ZAW n.out.symm,Below.refl _ _⟩
 ·have t0:((m.length:Int) == 0)=false:=beq_eq_false_iff_ne.2 (by omega)
  have A:(m.length == 0)=false:=beq_eq_false_iff_ne.2 h0;have M:=hid A
  have aq:0 < m.length:=by omega
  clear A
  obtain ⟨b,o,cp,r1,hs,aF,N,s⟩:=ZAP hm (k:=0) (by omega)
  simp only [Za3] at hs;obtain ⟨rfl,_,rfl⟩:=hs;obtain ⟨ro,rc,S,P,au⟩:=ZAH s
  have O:(m.getD 0 []).length=c:=hx.row _ (by simp [show 0 < m.length by omega])
  rw [O] at S P;subst S;rw [Nat.add_zero] at N;clear hm hx s O
  by_cases hle:c < m.length
  ·have f:ZA6 c m=false:=by rw [ZA6,M.out,decide_eq_false (by omega)]; rfl
   have n:=hid f;clear f h0;go_enter Tryz.func44,Tryz.ntmps44;go_wp2;go_ret;exact ⟨ZAW n.out.symm,Below.refl _ _⟩
  ·have f:ZA6 c m=(ZAO m.length c).any fun q=>ZFi (ZAt m q) != 0:=by rw [ZA6,M.out,decide_eq_true (by omega)]; rfl
   have n:=hid f
   have ag:m.length≤5:=by omega
   have an:Hid (m.length≤c):=(show m.length≤c by omega)
   have aD:decide (c < m.length)=false:=decide_eq_false (by omega)
   clear f h0;go_enter Tryz.func44,Tryz.ntmps44
   go_wp2_with fail
   refine (ZDU m.length ag c w (by omega)).mono ?_
   rintro e E ⟨cv,rfl,R,y⟩;have HC:Hid (Mat w.heap.size 22 3 E cv (ZAO m.length c)):=R.rws.mat (Za4 _);have a:=hid y;clear R y N;obtain ⟨co,cc,Y,ay,ar⟩:=ZAE HC.out;subst Y;go_wp2
   go_loopw [5] (fun i wr=>∃k:Nat,k≤(ZAO m.length c).length∧i=.int .i64 k∧((ZAO m.length c).take k).any (fun q=>ZFi (ZAt m q) != 0)=false∧Below E.heap.size E wr) (fun i _=>(ZAO m.length c).length-(intOf i).toNat)
   case atStart=>exact ⟨0,Za5 _,rfl,by simp,Below.refl _ _⟩
   case round=>
    obtain ⟨k,hk,rfl,t,g⟩:=hrel;have HN:=hid t;have p:=hid g;clear t g
    by_cases hlt:k < (ZAO m.length c).length
    ·obtain ⟨b2,o2,aC,r2,L,aB,aw,l⟩:=ZAP (HC.out.below p.out (Za4 _)) hlt
     simp only [Za3] at L;obtain ⟨rfl,_,rfl⟩:=L
     obtain ⟨q,X⟩:∃q,q=(ZAO m.length c).getD k []:=⟨_,rfl⟩
     have V:q∈ZAO m.length c:=by rw [X]; simp [hlt]
     have d:=hid V;have aa:=hid X;rw [←X] at l;have ak:=hid l;have ai:Hid (Mat w.heap.size 22 3 wr (.slice (some ⟨b,o,none⟩) m.length am) m):=((HM.out.any (Za4 _)).below a.out (Za4 _)).below p.out (Za4 _);clear X V l
     go_wp2_with fail
     refine (ZEF w.heap.size m q _ _ wr ai.out ak.out (by omega) (by rw [ZBB _ _ _ d.out]; omega) ?_).mono ?_
     ·intro x hx
      obtain ⟨i,hi,rfl⟩:=List.mem_iff_getElem.1 hx
      have hh:=(ZBq _ _ _ d.out).1 i (by rw [←ZBB _ _ _ d.out]; exact hi)
      have e:q.getD i 0=q[i]:=by simp [hi]
      rw [e] at hh
      exact ⟨hh.1,fun r hr=>by rw [HX.out.row r hr]; exact hh.2⟩
     rintro e w2 ⟨xv,rfl,T,U⟩;have aj:Hid (Mat wr.heap.size 22 3 w2 xv (ZAt m q)):=T.mat (Za4 _);have F:=hid U;clear T U
     go_wp2_with fail
     refine (ZKI Bd wr.heap.size (ZAt m q) xv w2 (ZOn HX.out an.out d.out) aj.out).mono ?_;rintro e w3 ⟨rfl,G⟩;have z:Hid (Below E.heap.size E w3):=(p.out.trans (F.out.mono (p.out.size))).trans (G.mono (Zaa8 p.out.size F.out.size));clear G
     have Q:((ZAO m.length c).take (k+1)).any (fun q=>ZFi (ZAt m q) != 0)=(ZFi (ZAt m q) != 0):=by
      rw [Zaa1 hlt,List.any_append,HN.out,aa.out]; simp [hlt]
     have J:=hid Q;clear Q;generalize ZFi (ZAt m q)=D at *
     by_cases hD:D=0
     ·have j:(D != 0)=false:=by simp [hD]
      clear hD;go_wp2
      go_roundw
      case rel=>exact ⟨k+1,by omega,by go_num,by rw [J.out,j],z.out⟩
      case measure=>simp [intOf]; omega
     ·have j:(D != 0)=true:=by simp [hD]
      clear hD;go_wp2;go_ret;refine ⟨ZAW (Eq.symm ?_),a.out.trans (z.out.mono a.out.size)⟩;rw [n.out];have h1:=J.out;rw [j] at h1;obtain ⟨x,af,ah⟩:=List.any_eq_true.1 h1;exact List.any_eq_true.2 ⟨x,Zaa7 af,ah⟩
    ·go_wp2
     go_ret;refine ⟨ZAW (Eq.symm ?_),a.out.trans (p.out.mono a.out.size)⟩
     rw [n.out,←HN.out,Zaa2 (by omega)]
end Go.Proofs.YtgfnmkenpgnllaaGreat
namespace Go.Proofs.YtgfnmkenpgnllaaGreat
open Go.RowKit
attribute [local go_sem ↓] Go.wp_at_zero Go.wp_at_succ
def ZAK(c:Nat)(m:List (List Int)):List (List Int):=m.foldl (fun h r=>if ZA6 c (h ++ [r]) then h ++ [r] else h) []
theorem ZFD(c:Nat)(m:List (List Int))(k:Nat)(hk:k < m.length) :
  ZAK c (m.take (k+1))=if ZA6 c (ZAK c (m.take k) ++ [m.getD k []]) then ZAK c (m.take k) ++ [m.getD k []] else ZAK c (m.take k):=by
 rw [Zaa1 hk]; unfold ZAK; rw [List.foldl_append]; simp [hk]
theorem ZBV{c:Nat}{m:List (List Int)}{r:List Int}(h:r∈ZAK c m):r∈m:=by
 have:∀(m h:List (List Int)) (r:List Int),r∈m.foldl (fun h r=>if ZA6 c (h ++ [r]) then h ++ [r] else h) h→r∈h∨r∈m:=by
  intro m
  induction m with
  | nil=>intro h r b; exact Or.inl b
  | cons x m ih=>
   intro h r b
   rcases ih _ _ b with a | a
   ·have a:r∈(if ZA6 c (h ++ [x])=true then h ++ [x] else h):=a
    by_cases hf:ZA6 c (h ++ [x])=true
    ·rw [if_pos hf] at a
     rcases List.mem_append.1 a with h2 | h2
     ·exact Or.inl h2
     ·simp at h2; exact Or.inr (by simp [h2])
    ·rw [if_neg hf] at a; exact Or.inl a
   ·exact Or.inr (by simp [a])
 rcases this m [] r h with h | h
 ·simp at h
 ·exact h
theorem ZGU(c:Nat)(m:List (List Int)):(ZAK c m).length≤m.length:=by
 have:∀(m h:List (List Int)),(m.foldl (fun h r=>if ZA6 c (h ++ [r]) then h ++ [r] else h) h).length≤h.length+m.length:=by
  intro m
  induction m with
  | nil=>intro h; simp
  | cons x m ih=>
   intro h
   have:=ih (if ZA6 c (h ++ [x]) then h ++ [x] else h)
   simp only [List.foldl_cons,List.length_cons]
   by_cases hf:ZA6 c (h ++ [x])=true
   ·rw [if_pos hf] at this ⊢; simp at this; omega
   ·rw [if_neg hf] at this ⊢; omega
 have:=this m []
 simpa [ZAK] using this
theorem ZCJ(a b:List (List Int)):fm (a ++ b)=fm a ++ fm b:=by simp [fm]
theorem ZAy(c:Nat)(m:List (List Int)):Lin.Greedy c (fm m) (fm (ZAK c m)):=by
 have:∀(m h l:List (List Int)),Lin.Greedy c (fm l) (fm h)→Lin.Greedy c (fm (l ++ m)) (fm (m.foldl (fun h r=>if ZA6 c (h ++ [r]) then h ++ [r] else h) h)):=by
  intro m
  induction m with
  | nil=>intro h l a; simpa using a
  | cons x m ih=>
   intro h l a
   have e:l ++ x :: m=(l ++ [x]) ++ m:=by simp
   rw [e,List.foldl_cons]
   apply ih
   by_cases hf:ZA6 c (h ++ [x])=true
   ·rw [if_pos hf,ZCJ,ZCJ]
    exact a.more (by have:=ZGT.1 hf; rwa [ZCJ] at this)
   ·rw [if_neg hf,ZCJ]
    refine a.less fun hp=>hf (ZGT.2 ?_)
    rw [ZCJ]; exact hp
 exact this m [] [] (Lin.Greedy.nil c)
theorem Mx.sub{c Bd:Nat}{m l:List (List Int)}(h:Mx c Bd m)(hs:∀r∈l,r∈m):Mx c Bd l:=
 ⟨fun r hr=>h.row r (hs r hr),fun r hr=>h.bd r (hs r hr),h.c5,h.c1,h.pos,h.small⟩
theorem ZCK(w:World)(M:Nat)(hM:M≤w.heap.size):(w.alloc (.cells #[] 22)).ownsRow M 22 1 (.slice (some ⟨w.heap.size,0,none⟩) 0 0) 0 []:=
 World.ownsRow_made w #[] 0 hM (by simp [maxLen]) (by simp)
theorem ZN3{B:Nat}{e:TypeId}{w:World}{a:Addr}{n cap:Nat}{xs:List Value}(h:Sl B e w (.slice (some a) n cap) xs)(o:Obj):∀j u,xs[j]?=some u→(w.alloc o).cell? (a.add j)=some u:=ZDt h o
theorem ZN4{B:Nat}{e:TypeId}{w:World}{a:Addr}{n cap:Nat}{xs:List Value}(h:Sl B e w (.slice (some a) n cap) xs)(o o2:Obj):∀j u,xs[j]?=some u→((w.alloc o).alloc o2).cell? (a.add j)=some u:=ZDt (h.alloc o) o2
theorem ZGV{B n:Nat}{w:World}{h:List (List Int)}{vs:List Value}(h1:vs.length=n)(h3:∀i,i < n→Sl B 3 w (vs.getD i (.slice none 0 0)) (ZAB (h.getD i []))):∀u∈vs,u.oneCell'=true:=by
 intro u b;obtain ⟨i,a,rfl⟩:=List.mem_iff_getElem.1 b
 obtain ⟨d,c,hv,_⟩:=h3 i (by omega)
 have:vs.getD i (.slice none 0 0)=vs[i]:=by simp [a]
 rw [←this,hv]; rfl
theorem ZMl{W w2:World}{v x:Value}{g:Nat}{t:TypeId}(hg:W.grownBy w2 v.ownBlock)(hW:W.heap[g]?=some (.cells #[x] t (0,0)))(hne:v.ownBlock≠some g):∀j u,[x][j]?=some u→w2.cell? ((⟨g,0,none⟩:Addr).add j)=some u:=by
 intro j u a
 match j,a with
 | 0,a=>
  simp at a; subst a
  have b:w2.heap[g]?=some (.cells #[x] t (0,0)):=(hg.block g (lt_of_block hW) (fun e=>hne e.symm)).trans hW
  simp [Addr.add,World.cell?,b]
theorem ZMm{W:World}{x:Value}{g:Nat}{t:TypeId}(hW:W.heap[g]?=some (.cells #[x] t (0,0))):∀j u,[x][j]?=some u→W.cell? ((⟨g,0,none⟩:Addr).add j)=some u:=by
 intro j u a
 match j,a with
 | 0,a=>simp at a; subst a; simp [Addr.add,World.cell?,hW]
theorem ZAi{M n:Nat}{wr W w2:World}{v:Value}{xs:List Value}(hB:Below M wr W)(hM:M≤wr.heap.size)(ho:W.ownsRow M 22 1 v n xs)(hg:W.grownBy w2 v.ownBlock):Below M wr w2:=
 hB.grown hg (Zaa8 hM hB.size) (fun k hk=>(ho.lt k hk).1)
theorem ZJM(c Bd B:Nat)(m:List (List Int))(v:Value)(w:World)(hx:Mx c Bd m)(hm:Mat B 22 3 w v m)(hml:m.length≤500) :
  Calls Tryz.prog 101 #[v] w fun e w'=>∃x,e=.returned x∧Rws w.heap.size 22 3 w' x (ZAK c m)∧Below w.heap.size w w':=by
 obtain ⟨i0,hi,V,X,ae⟩:=info_parts Tryz.info22;obtain ⟨ao,ag,aD,aL,aJ⟩:=ZAE hm;subst aD;have HM:Hid (Mat w.heap.size 22 3 w (.slice ao m.length ag) m):=hm.any (Za4 _);have HX:=hid hx;clear hm hx;go_enter Tryz.func101,Tryz.ntmps101;go_wp2
 go_loopw [3,4] (fun x i wr=>∃k:Nat,k≤m.length∧i=.int .i64 k∧Rws w.heap.size 22 3 wr x (ZAK c (m.take k))∧Below w.heap.size w wr) (fun _ i _=>m.length-(intOf i).toNat)
 case atStart=>exact ⟨0,Za5 _,rfl,Rws.nil _ _ _ _,Below.refl _ _⟩
 case round=>
  obtain ⟨k,hk,rfl,au,M⟩:=hrel;have HR:=hid au;have HB:=hid M;have ay:w.heap.size≤wr.heap.size:=M.size;clear au M
  by_cases hlt:k < m.length
  ·obtain ⟨b,o,cp,r1,hs,aK,R,Y⟩:=ZAP (HM.out.below HB.out (Za4 _)) hlt
   simp only [Za3] at hs;obtain ⟨rfl,_,rfl⟩:=hs;have ai:=hid Y;obtain ⟨d,a,aq,aF,aG⟩:=ZAH Y;clear Y
   have A:Hid (ZAK c (m.take (k+1))=if ZA6 c (ZAK c (m.take k) ++ [m.getD k []]) then ZAK c (m.take k) ++ [m.getD k []] else ZAK c (m.take k)):=ZFD c m k hlt
   have P:Hid (Mx c Bd (ZAK c (m.take k) ++ [m.getD k []])):=by
    refine HX.out.sub fun r hr=>?_
    rcases List.mem_append.1 hr with hr | hr
    ·exact Zaa7 (ZBV hr)
    ·simp at hr; subst hr; simp [hlt]
   have aA:(ZAK c (m.take k)).length≤k:=by
    have:=ZGU c (m.take k); simp at this; omega
   obtain ⟨h,hh⟩:∃h,h=ZAK c (m.take k):=⟨_,rfl⟩
   obtain ⟨z,hz⟩:∃z,z=m.getD k []:=⟨_,rfl⟩
   rw [←hh] at aA P HR A;rw [←hz] at P A ai aq;have HH:=hid hh;clear hh hz;generalize hln:z.length=ln at *;clear hln;subst aq;obtain ⟨T,g1,g2,g3⟩:=HR.out;obtain ⟨uo,uc,az⟩:=ZAD g2;have Q:=hid g1;have aj:=hid g2;have ar:=hid g3;subst az;generalize O:h.length=hl at *;have G:=hid O;have an:Hid (Rws w.heap.size 22 3 wr (.slice uo hl uc) h):=HR.out;clear g1 g2 g3 HR O
   have aI:(0:Int)≤(k:Int):=by omega
   have aH:(k:Int) < (m.length:Int):=by omega
   -- the worlds that the orders come to
   have E1:=ZCK wr wr.heap.size (Za4 _);have E2:=(ZCK wr wr.heap.size (Za4 _)).alloc (.cells #[.slice d ln a] 22)
   have E3:((wr.alloc (.cells #[.slice d ln a] 22)).alloc (.cells #[] 22)).ownsRow wr.heap.size 22 1 (.slice (some ⟨wr.heap.size+1,0,none⟩) 0 0) 0 []:=by
    have:=ZCK (wr.alloc (.cells #[.slice d ln a] 22)) wr.heap.size (by simp)
    simpa using this
   have B1:=(Below.refl wr.heap.size wr).alloc (Za4 _) (.cells #[] 22)
   have B2:=B1.alloc (by simp) (.cells #[.slice d ln a] 22)
   have B3:=((Below.refl wr.heap.size wr).alloc (Za4 _) (.cells #[.slice d ln a] 22)).alloc (by simp) (.cells #[] 22)
   have H2:((wr.alloc (.cells #[] 22)).alloc (.cells #[.slice d ln a] 22)).heap[wr.heap.size+1]?=some (.cells #[.slice d ln a] 22 (0,0)):=by
    have:=heap_alloc_new (wr.alloc (.cells #[] 22)) (.cells #[.slice d ln a] 22)
    simpa using this
   have H3:((wr.alloc (.cells #[.slice d ln a] 22)).alloc (.cells #[] 22)).heap[wr.heap.size]?=some (.cells #[.slice d ln a] 22 (0,0)):=by
    rw [Below.heap_alloc _ _ _ (by simp),heap_alloc_new]
   have ah:b < wr.heap.size:=ZAI R;have am:Hid (Sl w.heap.size 22 wr (.slice uo hl uc) T):=Sl.own aj.out
   -- what the region leaves,in whatever order
   have U:Hid (∀(f:World) (y:Value),f.ownsRow wr.heap.size 22 1 y (0+hl+1) ([] ++ T ++ [.slice d ln a])→Below wr.heap.size wr f→Rws w.heap.size 22 3 f y (h ++ [z])∧Below w.heap.size w f∧Below wr.heap.size wr f):=by
    intro f y ho S;simp only [Nat.zero_add,List.nil_append] at ho
    refine ⟨⟨T ++ [.slice d ln a],by simp [Q.out,G.out],?_,fun i hi=>?_⟩,HB.out.trans (S.mono ay),S⟩
    ·have e:(h ++ [z]).length=hl+1:=by simp [G.out]
     rw [e];obtain ⟨q1,q2⟩:=ho;refine ⟨q1,?_⟩
     rcases q2 with q2 | ⟨g,ag,cur,r1,r2,r3⟩
     ·exact Or.inl q2
     ·exact Or.inr ⟨g,ag,cur,r1,by omega,r3⟩
    ·have l:=Q.out
     have O:=G.out
     by_cases hil:i < hl
     ·have e1:(T ++ [Value.slice d ln a]).getD i (.slice none 0 0)=T.getD i (.slice none 0 0):=by
       simp only [Za2]; rw [Za7 (by omega)]
      have e2:(h ++ [z]).getD i []=h.getD i []:=by
       simp only [Za2]; rw [Za7 (by omega)]
      rw [e1,e2];exact (ar.out i hil).below S (Za4 _)
     ·have aE:i=hl:=by simp at hi; omega
      subst aE
      have e1:(T ++ [Value.slice d ln a]).getD i (.slice none 0 0)=.slice d ln a:=by rw [←l]; simp
      have e2:(h ++ [z]).getD i []=z:=by rw [←O]; simp
      rw [e1,e2];exact ai.out.below S (Za4 _)
   cases uo with
   | none=>
    obtain ⟨aw,aB,aC⟩:hl=0∧uc=0∧T=[]:=by
     have hq:=aj.out;obtain ⟨q1,q2⟩:=hq
     rcases q2 with ⟨q3,q4⟩ | ⟨g,_,_,q3,_⟩
     ·simp only [Za3] at q3
      exact ⟨q4,q3.2.2,List.eq_nil_of_length_eq_zero (by rw [q1,q4])⟩
     ·simp at q3
    subst aw aB aC;go_wp2
    go_region_held3 (fun w'=>w'.cell? ⟨b,o+k,none⟩=some (.slice d ln a)) (first | go_keep | exact N.out)
     ((first | (refine ZCD (o:={ dst:=some 14,op:=_,type:=_,pos:=_,after:=_,guard:=_ }) (by rfl) (.tmp 12) (.tmp 13) 25 (by rfl) wr.heap.size 22 i0 1 Tryz.underlying25 hi _ 0 [] (by rfl) (by first | exact E1 | exact E2 | exact E3) (by rfl) ?_) | (refine ZAo (o:={ dst:=some 20,op:=_,type:=_,pos:=_,after:=_,guard:=_ }) (by rfl) (.tmp 14) (.tmp 19) 25 (by rfl) wr.heap.size 22 i0 (.slice none 0 0) 1 24 Tryz.underlying25 hi V X ae rfl (by decide) _ 0 [] (by rfl) (by first | exact E2 | exact E3) _ 1 1 [.slice d ln a] (by rfl) rfl (by first | exact ZMm H2 | exact ZMm H3) (ZAL _ _ _) (by unfold maxLen; omega) (by omega) (by simp <;> omega) ?_; intro y f L t; have E:=U.out f y L (by first | exact ZAi B2.drew (Za4 _) E2.drew t | exact ZAi B3.drew (Za4 _) E3.drew t); have N:Hid (f.cell? ⟨b,o+k,none⟩=some (.slice d ln a)):=(E.2.2.cell ah).trans R)))
    all_goals
     have s:Hid (Rws w.heap.size 22 3 f y (h ++ [z])):=E.1;have p:Hid (Below w.heap.size w f):=E.2.1;have J:Hid (Below wr.heap.size wr f):=E.2.2;clear E N L t E1 E2 E3 B1 B2 B3 H2 H3
     go_wp2_with fail
     refine (ZDv c Bd w.heap.size (h ++ [z]) y f P.out (s.out.mat (Za4 _)) (by rw [Zaa4,G.out,List.length_singleton]; omega)).mono ?_
     rintro e w4 ⟨rfl,j⟩;have D:Hid (Below w.heap.size w w4):=p.out.trans (j.mono p.out.size);have aa:Hid (Rws w.heap.size 22 3 w4 y (h ++ [z])):=s.out.below j (Za4 _);have af:Hid (Rws w.heap.size 22 3 w4 (.slice none 0 0) h):=(an.out.below J.out (Za4 _)).below j (Za4 _);clear j s p J
     cases hf:ZA6 c (h ++ [z])
     ·have n:Hid (ZAK c (m.take (k+1))=h):=by show _=_; have:=A.out; rw [hf] at this; simpa using this
      clear hf;go_wp2
      go_roundw
      case rel=>exact ⟨k+1,by omega,by go_num,by rw [n.out]; exact af.out,D.out⟩
      case measure=>simp [intOf]; omega
     ·have n:Hid (ZAK c (m.take (k+1))=h ++ [z]):=by show _=_; have:=A.out; rw [hf] at this; simpa using this
      clear hf;go_wp2
      go_roundw
      case rel=>exact ⟨k+1,by omega,by go_num,by rw [n.out]; exact aa.out,D.out⟩
      case measure=>simp [intOf]; omega
   | some ua=>
    go_wp2
    go_region_held3 (fun w'=>w'.cell? ⟨b,o+k,none⟩=some (.slice d ln a)) (first | go_keep | exact ak.out | exact N.out)
     ((first | (refine ZAo (o:={ dst:=some 14,op:=_,type:=_,pos:=_,after:=_,guard:=_ }) (by rfl) (.tmp 12) (.tmp 13) 25 (by rfl) wr.heap.size 22 i0 (.slice none 0 0) 1 24 Tryz.underlying25 hi V X ae rfl (by decide) _ 0 [] (by rfl) (by first | exact E1 | exact E2 | exact E3) ua hl uc T (by rfl) (by simp [Q.out]) (by first | exact ZN3 am.out _ | exact ZN4 am.out _ _) (ZGV Q.out ar.out) (by unfold maxLen; omega) (by omega) (by simp <;> omega) ?_; intro v1 w2 F l; have BB:Hid (Below wr.heap.size wr w2):=(by first | exact ZAi B1.drew (Za4 _) E1.drew l | exact ZAi B2.drew (Za4 _) E2.drew l | exact ZAi B3.drew (Za4 _) E3.drew l); have ak:Hid (w2.cell? ⟨b,o+k,none⟩=some (.slice d ln a)):=(BB.out.cell ah).trans R) | (refine ZAo (o:={ dst:=some 20,op:=_,type:=_,pos:=_,after:=_,guard:=_ }) (by rfl) (.tmp 14) (.tmp 19) 25 (by rfl) wr.heap.size 22 i0 (.slice none 0 0) 1 24 Tryz.underlying25 hi V X ae rfl (by decide) _ (0+hl) ([] ++ T) (by rfl) (by first | exact F | exact F.alloc _) _ 1 1 [.slice d ln a] (by rfl) rfl (by first | exact ZAQ _ _ _ | exact ZMl l (W:=World.drew _) H2 (by show (some wr.heap.size:Option Nat)≠some (wr.heap.size+1); simp) | exact ZMl l (W:=World.drew _) H3 (by show (some (wr.heap.size+1):Option Nat)≠some wr.heap.size; simp)) (ZAL _ _ _) (by unfold maxLen; omega) (by omega) (by first | exact BB.out.size | exact Zaa8 BB.out.size (by simp)) ?_; intro y f L t; have E:=U.out f y L (by first | exact ZAi BB.out (Za4 _) F t | exact ZAi (BB.out.alloc BB.out.size _) (Za4 _) (F.alloc _) t); have N:Hid (f.cell? ⟨b,o+k,none⟩=some (.slice d ln a)):=(E.2.2.cell ah).trans R)))
    all_goals
     have s:Hid (Rws w.heap.size 22 3 f y (h ++ [z])):=E.1;have p:Hid (Below w.heap.size w f):=E.2.1;have J:Hid (Below wr.heap.size wr f):=E.2.2;clear E N L t ak BB F l E1 E2 E3 B1 B2 B3 H2 H3
     go_wp2_with fail
     refine (ZDv c Bd w.heap.size (h ++ [z]) y f P.out (s.out.mat (Za4 _)) (by rw [Zaa4,G.out,List.length_singleton]; omega)).mono ?_
     rintro e w4 ⟨rfl,j⟩;have D:Hid (Below w.heap.size w w4):=p.out.trans (j.mono p.out.size);have aa:Hid (Rws w.heap.size 22 3 w4 y (h ++ [z])):=s.out.below j (Za4 _);have af:Hid (Rws w.heap.size 22 3 w4 (.slice (some ua) hl uc) h):=(an.out.below J.out (Za4 _)).below j (Za4 _);clear j s p J
     cases hf:ZA6 c (h ++ [z])
     ·have n:Hid (ZAK c (m.take (k+1))=h):=by show _=_; have:=A.out; rw [hf] at this; simpa using this
      clear hf;go_wp2
      go_roundw
      case rel=>exact ⟨k+1,by omega,by go_num,by rw [n.out]; exact af.out,D.out⟩
      case measure=>simp [intOf]; omega
     ·have n:Hid (ZAK c (m.take (k+1))=h ++ [z]):=by show _=_; have:=A.out; rw [hf] at this; simpa using this
      clear hf;go_wp2
      go_roundw
      case rel=>exact ⟨k+1,by omega,by go_num,by rw [n.out]; exact aa.out,D.out⟩
      case measure=>simp [intOf]; omega
  ·go_wp2
   go_ret;have h:=HR.out
   rw [Zaa2 (by omega)] at h
   exact ⟨_,rfl,h,HB.out⟩
theorem ZKJ{c:Nat}{m:List (List Int)}(h:ZA6 c m=true):m.length≤c:=by
 by_cases hle:c < m.length
 ·have a:(m.length == 0)=false:=by simp; intro d; rw [d] at hle; simp at hle
  have b:ZA6 c m=false:=by rw [ZA6,a,decide_eq_false (by omega)]; rfl
  rw [b] at h
  exact absurd h (by decide)
 ·omega
theorem ZGW(c:Nat)(m:List (List Int)):(ZAK c m).length≤c:=by
 have b:∀(m h:List (List Int)),h.length≤c→(m.foldl (fun h r=>if ZA6 c (h ++ [r]) then h ++ [r] else h) h).length≤c:=by
  intro m
  induction m with
  | nil=>intro h a; exact a
  | cons r m ih=>
   intro h a;rw [List.foldl_cons];refine ih _ ?_
   split
   ·rename_i hf; exact ZKJ hf
   ·exact a
 exact b m [] (by simp)
theorem ZCL(c Bd B:Nat)(m:List (List Int))(v:Value)(w:World)(hx:Mx c Bd m)(hm:Mat B 22 3 w v m)(hml:m.length≤16777216) :
  Calls Tryz.prog 24 #[v] w fun e w'=>e=.returned (.int .i64 ((ZAK c m).length:Nat))∧Below w.heap.size w w':=by
 obtain ⟨i0,hi,V,X,af⟩:=info_parts Tryz.info22;obtain ⟨ao,ah,aE,aM,aK⟩:=ZAE hm;subst aE;have HM:Hid (Mat w.heap.size 22 3 w (.slice ao m.length ah) m):=hm.any (Za4 _);have HX:=hid hx;clear hm hx;go_enter Tryz.func24,Tryz.ntmps24;go_wp2
 go_loopw [3,4] (fun x i wr=>∃k:Nat,k≤m.length∧i=.int .i64 k∧Rws w.heap.size 22 3 wr x (ZAK c (m.take k))∧Below w.heap.size w wr) (fun _ i _=>m.length-(intOf i).toNat)
 case atStart=>exact ⟨0,Za5 _,rfl,Rws.nil _ _ _ _,Below.refl _ _⟩
 case round=>
  obtain ⟨k,hk,rfl,aw,M⟩:=hrel;have HR:=hid aw;have HB:=hid M;have aA:w.heap.size≤wr.heap.size:=M.size;clear aw M
  by_cases hlt:k < m.length
  ·obtain ⟨b,o,cp,r1,hs,aL,S,Y⟩:=ZAP (HM.out.below HB.out (Za4 _)) hlt
   simp only [Za3] at hs;obtain ⟨rfl,_,rfl⟩:=hs;have aj:=hid Y;obtain ⟨d,a,ar,aG,aH⟩:=ZAH Y;clear Y
   have A:Hid (ZAK c (m.take (k+1))=if ZA6 c (ZAK c (m.take k) ++ [m.getD k []]) then ZAK c (m.take k) ++ [m.getD k []] else ZAK c (m.take k)):=ZFD c m k hlt
   have Q:Hid (Mx c Bd (ZAK c (m.take k) ++ [m.getD k []])):=by
    refine HX.out.sub fun r hr=>?_
    rcases List.mem_append.1 hr with hr | hr
    ·exact Zaa7 (ZBV hr)
    ·simp at hr; subst hr; simp [hlt]
   have aB:(ZAK c (m.take k)).length≤5:=Zaa8 (ZGW c _) HX.out.c5
   obtain ⟨h,hh⟩:∃h,h=ZAK c (m.take k):=⟨_,rfl⟩
   obtain ⟨z,hz⟩:∃z,z=m.getD k []:=⟨_,rfl⟩
   rw [←hh] at aB Q HR A;rw [←hz] at Q A aj ar;have HH:=hid hh;clear hh hz;generalize hln:z.length=ln at *;clear hln;subst ar;obtain ⟨O,g1,g2,g3⟩:=HR.out;obtain ⟨uo,uc,aa⟩:=ZAD g2;have R:=hid g1;have ak:=hid g2;have au:=hid g3;subst aa;generalize P:h.length=hl at *;have G:=hid P;have aq:Hid (Rws w.heap.size 22 3 wr (.slice uo hl uc) h):=HR.out;clear g1 g2 g3 HR P
   have aJ:(0:Int)≤(k:Int):=by omega
   have aI:(k:Int) < (m.length:Int):=by omega
   -- the worlds that the orders come to
   have E1:=ZCK wr wr.heap.size (Za4 _);have E2:=(ZCK wr wr.heap.size (Za4 _)).alloc (.cells #[.slice d ln a] 22)
   have E3:((wr.alloc (.cells #[.slice d ln a] 22)).alloc (.cells #[] 22)).ownsRow wr.heap.size 22 1 (.slice (some ⟨wr.heap.size+1,0,none⟩) 0 0) 0 []:=by
    have:=ZCK (wr.alloc (.cells #[.slice d ln a] 22)) wr.heap.size (by simp)
    simpa using this
   have B1:=(Below.refl wr.heap.size wr).alloc (Za4 _) (.cells #[] 22)
   have B2:=B1.alloc (by simp) (.cells #[.slice d ln a] 22)
   have B3:=((Below.refl wr.heap.size wr).alloc (Za4 _) (.cells #[.slice d ln a] 22)).alloc (by simp) (.cells #[] 22)
   have H2:((wr.alloc (.cells #[] 22)).alloc (.cells #[.slice d ln a] 22)).heap[wr.heap.size+1]?=some (.cells #[.slice d ln a] 22 (0,0)):=by
    have:=heap_alloc_new (wr.alloc (.cells #[] 22)) (.cells #[.slice d ln a] 22)
    simpa using this
   have H3:((wr.alloc (.cells #[.slice d ln a] 22)).alloc (.cells #[] 22)).heap[wr.heap.size]?=some (.cells #[.slice d ln a] 22 (0,0)):=by
    rw [Below.heap_alloc _ _ _ (by simp),heap_alloc_new]
   have ai:b < wr.heap.size:=ZAI S;have an:Hid (Sl w.heap.size 22 wr (.slice uo hl uc) O):=Sl.own ak.out
   -- what the region leaves,in whatever order
   have U:Hid (∀(f:World) (y:Value),f.ownsRow wr.heap.size 22 1 y (0+hl+1) ([] ++ O ++ [.slice d ln a])→Below wr.heap.size wr f→Rws w.heap.size 22 3 f y (h ++ [z])∧Below w.heap.size w f∧Below wr.heap.size wr f):=by
    intro f y ho T;simp only [Nat.zero_add,List.nil_append] at ho
    refine ⟨⟨O ++ [.slice d ln a],by simp [R.out,G.out],?_,fun i hi=>?_⟩,HB.out.trans (T.mono aA),T⟩
    ·have e:(h ++ [z]).length=hl+1:=by simp [G.out]
     rw [e];obtain ⟨q1,q2⟩:=ho;refine ⟨q1,?_⟩
     rcases q2 with q2 | ⟨g,ah,cur,r1,r2,r3⟩
     ·exact Or.inl q2
     ·exact Or.inr ⟨g,ah,cur,r1,by omega,r3⟩
    ·have l:=R.out
     have P:=G.out
     by_cases hil:i < hl
     ·have e1:(O ++ [Value.slice d ln a]).getD i (.slice none 0 0)=O.getD i (.slice none 0 0):=by
       simp only [Za2]; rw [Za7 (by omega)]
      have e2:(h ++ [z]).getD i []=h.getD i []:=by
       simp only [Za2]; rw [Za7 (by omega)]
      rw [e1,e2];exact (au.out i hil).below T (Za4 _)
     ·have aF:i=hl:=by simp at hi; omega
      subst aF
      have e1:(O ++ [Value.slice d ln a]).getD i (.slice none 0 0)=.slice d ln a:=by rw [←l]; simp
      have e2:(h ++ [z]).getD i []=z:=by rw [←P]; simp
      rw [e1,e2];exact aj.out.below T (Za4 _)
   cases uo with
   | none=>
    obtain ⟨az,aC,aD⟩:hl=0∧uc=0∧O=[]:=by
     have hq:=ak.out;obtain ⟨q1,q2⟩:=hq
     rcases q2 with ⟨q3,q4⟩ | ⟨g,_,_,q3,_⟩
     ·simp only [Za3] at q3
      exact ⟨q4,q3.2.2,List.eq_nil_of_length_eq_zero (by rw [q1,q4])⟩
     ·simp at q3
    subst az aC aD;go_wp2
    go_region_held3 (fun w'=>w'.cell? ⟨b,o+k,none⟩=some (.slice d ln a)) (first | go_keep | exact N.out)
     ((first | (refine ZCD (o:={ dst:=some 14,op:=_,type:=_,pos:=_,after:=_,guard:=_ }) (by rfl) (.tmp 12) (.tmp 13) 25 (by rfl) wr.heap.size 22 i0 1 Tryz.underlying25 hi _ 0 [] (by rfl) (by first | exact E1 | exact E2 | exact E3) (by rfl) ?_) | (refine ZAo (o:={ dst:=some 20,op:=_,type:=_,pos:=_,after:=_,guard:=_ }) (by rfl) (.tmp 14) (.tmp 19) 25 (by rfl) wr.heap.size 22 i0 (.slice none 0 0) 1 24 Tryz.underlying25 hi V X af rfl (by decide) _ 0 [] (by rfl) (by first | exact E2 | exact E3) _ 1 1 [.slice d ln a] (by rfl) rfl (by first | exact ZMm H2 | exact ZMm H3) (ZAL _ _ _) (by unfold maxLen; omega) (by omega) (by simp <;> omega) ?_; intro y f L t; have E:=U.out f y L (by first | exact ZAi B2.drew (Za4 _) E2.drew t | exact ZAi B3.drew (Za4 _) E3.drew t); have N:Hid (f.cell? ⟨b,o+k,none⟩=some (.slice d ln a)):=(E.2.2.cell ai).trans S)))
    all_goals
     have s:Hid (Rws w.heap.size 22 3 f y (h ++ [z])):=E.1;have p:Hid (Below w.heap.size w f):=E.2.1;have J:Hid (Below wr.heap.size wr f):=E.2.2;clear E N L t E1 E2 E3 B1 B2 B3 H2 H3
     go_wp2_with fail
     refine (ZDv c Bd w.heap.size (h ++ [z]) y f Q.out (s.out.mat (Za4 _)) (by rw [Zaa4,G.out,List.length_singleton]; omega)).mono ?_
     rintro e w4 ⟨rfl,j⟩;have D:Hid (Below w.heap.size w w4):=p.out.trans (j.mono p.out.size);have ae:Hid (Rws w.heap.size 22 3 w4 y (h ++ [z])):=s.out.below j (Za4 _);have ag:Hid (Rws w.heap.size 22 3 w4 (.slice none 0 0) h):=(aq.out.below J.out (Za4 _)).below j (Za4 _);clear j s p J
     cases hf:ZA6 c (h ++ [z])
     ·have n:Hid (ZAK c (m.take (k+1))=h):=by show _=_; have:=A.out; rw [hf] at this; simpa using this
      clear hf;go_wp2
      go_roundw
      case rel=>exact ⟨k+1,by omega,by go_num,by rw [n.out]; exact ag.out,D.out⟩
      case measure=>simp [intOf]; omega
     ·have n:Hid (ZAK c (m.take (k+1))=h ++ [z]):=by show _=_; have:=A.out; rw [hf] at this; simpa using this
      clear hf;go_wp2
      go_roundw
      case rel=>exact ⟨k+1,by omega,by go_num,by rw [n.out]; exact ae.out,D.out⟩
      case measure=>simp [intOf]; omega
   | some ua=>
    go_wp2
    go_region_held3 (fun w'=>w'.cell? ⟨b,o+k,none⟩=some (.slice d ln a)) (first | go_keep | exact am.out | exact N.out)
     ((first | (refine ZAo (o:={ dst:=some 14,op:=_,type:=_,pos:=_,after:=_,guard:=_ }) (by rfl) (.tmp 12) (.tmp 13) 25 (by rfl) wr.heap.size 22 i0 (.slice none 0 0) 1 24 Tryz.underlying25 hi V X af rfl (by decide) _ 0 [] (by rfl) (by first | exact E1 | exact E2 | exact E3) ua hl uc O (by rfl) (by simp [R.out]) (by first | exact ZN3 an.out _ | exact ZN4 an.out _ _) (ZGV R.out au.out) (by unfold maxLen; omega) (by omega) (by simp <;> omega) ?_; intro v1 w2 F l; have BB:Hid (Below wr.heap.size wr w2):=(by first | exact ZAi B1.drew (Za4 _) E1.drew l | exact ZAi B2.drew (Za4 _) E2.drew l | exact ZAi B3.drew (Za4 _) E3.drew l); have am:Hid (w2.cell? ⟨b,o+k,none⟩=some (.slice d ln a)):=(BB.out.cell ai).trans S) | (refine ZAo (o:={ dst:=some 20,op:=_,type:=_,pos:=_,after:=_,guard:=_ }) (by rfl) (.tmp 14) (.tmp 19) 25 (by rfl) wr.heap.size 22 i0 (.slice none 0 0) 1 24 Tryz.underlying25 hi V X af rfl (by decide) _ (0+hl) ([] ++ O) (by rfl) (by first | exact F | exact F.alloc _) _ 1 1 [.slice d ln a] (by rfl) rfl (by first | exact ZAQ _ _ _ | exact ZMl l (W:=World.drew _) H2 (by show (some wr.heap.size:Option Nat)≠some (wr.heap.size+1); simp) | exact ZMl l (W:=World.drew _) H3 (by show (some (wr.heap.size+1):Option Nat)≠some wr.heap.size; simp)) (ZAL _ _ _) (by unfold maxLen; omega) (by omega) (by first | exact BB.out.size | exact Zaa8 BB.out.size (by simp)) ?_; intro y f L t; have E:=U.out f y L (by first | exact ZAi BB.out (Za4 _) F t | exact ZAi (BB.out.alloc BB.out.size _) (Za4 _) (F.alloc _) t); have N:Hid (f.cell? ⟨b,o+k,none⟩=some (.slice d ln a)):=(E.2.2.cell ai).trans S)))
    all_goals
     have s:Hid (Rws w.heap.size 22 3 f y (h ++ [z])):=E.1;have p:Hid (Below w.heap.size w f):=E.2.1;have J:Hid (Below wr.heap.size wr f):=E.2.2;clear E N L t am BB F l E1 E2 E3 B1 B2 B3 H2 H3
     go_wp2_with fail
     refine (ZDv c Bd w.heap.size (h ++ [z]) y f Q.out (s.out.mat (Za4 _)) (by rw [Zaa4,G.out,List.length_singleton]; omega)).mono ?_
     rintro e w4 ⟨rfl,j⟩;have D:Hid (Below w.heap.size w w4):=p.out.trans (j.mono p.out.size);have ae:Hid (Rws w.heap.size 22 3 w4 y (h ++ [z])):=s.out.below j (Za4 _);have ag:Hid (Rws w.heap.size 22 3 w4 (.slice (some ua) hl uc) h):=(aq.out.below J.out (Za4 _)).below j (Za4 _);clear j s p J
     cases hf:ZA6 c (h ++ [z])
     ·have n:Hid (ZAK c (m.take (k+1))=h):=by show _=_; have:=A.out; rw [hf] at this; simpa using this
      clear hf;go_wp2
      go_roundw
      case rel=>exact ⟨k+1,by omega,by go_num,by rw [n.out]; exact ag.out,D.out⟩
      case measure=>simp [intOf]; omega
     ·have n:Hid (ZAK c (m.take (k+1))=h ++ [z]):=by show _=_; have:=A.out; rw [hf] at this; simpa using this
      clear hf;go_wp2
      go_roundw
      case rel=>exact ⟨k+1,by omega,by go_num,by rw [n.out]; exact ae.out,D.out⟩
      case measure=>simp [intOf]; omega
  ·obtain ⟨O,g1,g2,g3⟩:=HR.out
   obtain ⟨uo,uc,aa⟩:=ZAD g2;subst aa
   have ay:Hid (m.take k=m):=Zaa2 (by omega)
   clear g1 g2 g3;go_wp2;go_ret
   exact ⟨ZA9 (by rw [ay.out]),HB.out⟩
end Go.Proofs.YtgfnmkenpgnllaaGreat
namespace Go.Proofs.YtgfnmkenpgnllaaGreat
open Go.RowKit
def ZAu(k j:Nat):List Int:=((List.range j).filter fun x=>x != k).map fun (x:Nat)=>(x:Int)
theorem ZFE(k j:Nat):ZAu k (j+1)=if j=k then ZAu k j else ZAu k j ++ [(j:Int)]:=by
 unfold ZAu;rw [List.range_succ,List.filter_append,List.map_append]
 by_cases h:j=k
 ·subst h; simp
 ·simp [h]
theorem ZDV{k j:Nat} : (ZAu k j).length=(if k < j then j-1 else j)∧∀i,i < (ZAu k j).length→(ZAu k j).getD i 0=(Lin.skp k i:Nat):=by
 induction j with
 | zero=>simp [ZAu]
 | succ j ih=>
  obtain ⟨a,b⟩:=ih;rw [ZFE]
  by_cases e:j=k
  ·rw [if_pos e]
   refine ⟨?_,b⟩
   rw [a,if_neg (by omega),if_pos (by omega)]; omega
  ·rw [if_neg e]
   by_cases hk:k < j
   ·rw [if_pos hk] at a
    refine ⟨by rw [Zaa4,a,if_pos (by omega)]; simp; omega,fun i hi=>?_⟩
    by_cases hi':i < (ZAu k j).length
    ·rw [←b i hi']; simp only [Za2]; rw [Za7 hi']
    ·have:i=(ZAu k j).length:=by simp at hi; omega
     subst this
     simp only [Za2]; rw [Za8 (by omega)]
     simp [Lin.skp,a,show ¬j-1 < k by omega]; omega
   ·rw [if_neg hk] at a
    refine ⟨by rw [Zaa4,a,if_neg (by omega)]; simp,fun i hi=>?_⟩
    by_cases hi':i < (ZAu k j).length
    ·rw [←b i hi']; simp only [Za2]; rw [Za7 hi']
    ·have:i=(ZAu k j).length:=by simp at hi; omega
     subst this
     simp only [Za2]; rw [Za8 (by omega)]
     simp [Lin.skp,a,show j < k by omega]
theorem ZC5{k c:Nat}(h:k < c):(ZAu k c).length=c-1:=by rw [ZDV.1,if_pos h]
theorem ZGX{k c:Nat}{q:Int}(h:q∈ZAu k c):0≤q∧q < (c:Int):=by
 simp only [ZAu,List.mem_map,List.mem_filter,List.mem_range] at h;obtain ⟨x,⟨a,_⟩,rfl⟩:=h;omega
def muL(c:Nat)(rows:List (List Int)):List Int:=(List.range c).map fun k=>Lin.mu (fm rows) k
theorem ZIX{rows:List (List Int)}{c k:Nat}(hl:rows.length+1=c)(hk:k < c):ZFi (ZAt rows (ZAu k c))=Lin.od (fm rows).length (Lin.cols (fm rows) (Lin.skp k)) fun _=>false:=by
 have a:(ZAu k c).length=rows.length:=by rw [ZC5 hk]; omega
 rw [ZFj a]
 refine Lin.od_congr (by simp [Lin.cols]) (fun i hi j hj=>?_) _
 have b:i < rows.length:=by simpa [Lin.cols,fm] using hi
 have d:j < rows.length:=by simpa [fm] using hj
 have e:toK (ZAu k c) j=Lin.skp k j:=by
  unfold toK; rw [ZDV.2 j (by omega)]; simp
 simp [Lin.cols,fm,b,e]
theorem ZEJ(k:Nat):Lin.ngo k=if k % 2=1 then -1 else 1:=by
 induction k with
 | zero=>rfl
 | succ k ih=>
  simp only [Lin.ngo]; rw [ih]
  by_cases h:k % 2=1
  ·rw [if_pos h,if_neg (by omega)]; rfl
  ·rw [if_neg h,if_pos (by omega)]
theorem ZMn(c:Nat)(rows:List (List Int))(k:Nat)(h:k < c):(muL c rows).take (k+1)=(muL c rows).take k ++ [Lin.mu (fm rows) k]:=by
 unfold muL
 rw [Zaa1 (by simpa using h)]; simp
theorem ZKK{c Bd k:Nat}{rows:List (List Int)}(h:Mx c Bd rows)(hl:rows.length+1=c)(hk:k < c):Sq (ZAt rows (ZAu k c)).length Bd (ZAt rows (ZAu k c)):=by
 have g:=h.c5;rw [ZBA]
 refine ⟨ZBA _ _,fun r hr=>?_,fun r hr j hj=>?_,Zaa8 (ZBG h.pos (by omega)) h.small,by omega,h.pos⟩
 ·simp only [ZAt,List.mem_map] at hr
  obtain ⟨a,_,rfl⟩:=hr;rw [Zab1,ZC5 hk]; omega
 ·simp only [ZAt,List.mem_map] at hr
  obtain ⟨a,d,rfl⟩:=hr
  have b:j < (ZAu k c).length:=by rw [ZC5 hk]; omega
  have i:=ZGX (List.getElem_mem b)
  have e:((ZAu k c).map fun x=>a.getD x.toNat 0).getD j 0=a.getD ((ZAu k c)[j]).toNat 0:=by simp [b]
  rw [e]
  have f:((ZAu k c)[j]).toNat < a.length:=by rw [h.row a d]; omega
  exact h.bd a d _ (by simp [f])
theorem ZP6{c Bd k:Nat}{rows:List (List Int)}(h:Mx c Bd rows)(hl:rows.length+1=c)(hk:k < c):(ZFi (ZAt rows (ZAu k c))).natAbs≤1152921504606846976:=by
 have a:=ZKK h hl hk;unfold ZFi
 have b:=Lin.od_bd (n:=(ZAt rows (ZAu k c)).length) (B:=Bd) (fm (ZAt rows (ZAu k c))) (fun _=>false) (fun r hr j hj=>by
  simp only [fm,List.mem_map] at hr;obtain ⟨l,hl,rfl⟩:=hr
  exact a.bd l hl j hj) (by rw [Lin.cu_none]; simp [fm])
 have d:(fm (ZAt rows (ZAu k c))).length=(ZAt rows (ZAu k c)).length:=by simp [fm]
 rw [d] at b;have:=a.small;omega
theorem ZP7{c Bd:Nat}{rows:List (List Int)}(h:Mx c Bd rows)(hl:rows.length+1=c):∀z∈muL c rows,z.natAbs≤1152921504606846976:=by
 intro z d;simp only [muL,List.mem_map,List.mem_range] at d;obtain ⟨k,b,rfl⟩:=d;have a:=ZP6 h hl b;rw [ZIX hl b] at a;unfold Lin.mu;rw [Int.natAbs_mul]
 have f:(Lin.ngo k).natAbs=1:=by rw [ZEJ]; by_cases e:k % 2=1 <;> simp [e]
 rw [f,Nat.one_mul]; exact a
theorem ZFF{l:List Int}{b:Nat}(h:∀z∈l,z.natAbs≤b):∀z∈Lin.low l,z.natAbs≤b:=by
 intro z c;simp only [Lin.low,List.mem_map] at c;obtain ⟨y,a,rfl⟩:=c
 by_cases h0:Lin.gc l=0
 ·rw [h0]; simp
 ·have g:=h y a
  obtain ⟨q,d⟩:=Lin.gc_dvd a
  have f:y / (Lin.gc l:Int)=q:=by rw [d]; exact Int.mul_ediv_cancel_left q (by omega)
  have i:y.natAbs=Lin.gc l*q.natAbs:=by rw [d,Int.natAbs_mul]; simp
  rw [f]
  have j:1*q.natAbs≤Lin.gc l*q.natAbs:=Nat.mul_le_mul_right _ (by omega)
  omega
def ZAR(c:Nat)(m:List (List Int)):List Int:=if (ZAK c m).length+1=c then Lin.upr (Lin.low (muL c (ZAK c m))) else []
def ZAp(c:Nat)(m:List (List Int)):Bool:=decide ((ZAK c m).length+1=c)
theorem ZEK(c Bd B:Nat)(m:List (List Int))(v:Value)(w:World)(hx:Mx c Bd m)(hm:Mat B 22 3 w v m)(hml:m.length≤500)(hm1:1≤m.length) :
  Calls Tryz.prog 75 #[v] w fun e w'=>∃x,e=.returned (.tuple #[x,.bool (ZAp c m)])∧Sl 0 3 w' x (ZAB (ZAR c m))∧Below w.heap.size w w':=by
 obtain ⟨i3,ak,Q,T,O⟩:=info_parts Tryz.info3;obtain ⟨ao,bV,bA,bR,bM⟩:=ZAE hm;subst bA;have bW:=hx.c5;have bP:=hx.c1;have HM:=hid hm;have HX:=hid hx
 obtain ⟨b,o,cp,r1,hs,bJ,aM,aG⟩:=ZAP hm (k:=0) (by omega)
 simp only [Za3] at hs;obtain ⟨rfl,_,rfl⟩:=hs;obtain ⟨ro,rc,aT,aC,bI⟩:=ZAH aG
 have aZ:(m.getD 0 []).length=c:=hx.row _ (by simp [show 0 < m.length by omega])
 rw [aZ] at aT aC;subst aT;rw [Nat.add_zero] at aM;clear hm hx aG aZ;go_enter Tryz.func75,Tryz.ntmps75
 go_wp2_with fail
 refine (ZJM c Bd B m _ w HX.out HM.out hml).mono ?_;rintro e d ⟨pv,rfl,af,ar⟩
 have ag:Hid (Mx c Bd (ZAK c m)):=HX.out.sub fun r hr=>ZBV hr
 have bS:=ZGU c m
 have aI:Hid (ZAR c m=if (ZAK c m).length+1=c then Lin.upr (Lin.low (muL c (ZAK c m))) else []):=rfl
 have aU:Hid (ZAp c m=decide ((ZAK c m).length+1=c)):=rfl;generalize ZAK c m=P at *;have HP:Hid (Mat w.heap.size 22 3 d pv P):=af.mat (Za4 _);have aQ:=hid ar;have bi:w.heap.size≤d.heap.size:=ar.size;clear af ar aM;obtain ⟨po,pc,bC,bL,bK⟩:=ZAE HP.out;subst bC
 by_cases hn:P.length+1=c
 ·have bu:((P.length:Int) != (c:Int)-1)=false:=by rw [bne_eq_false_iff_eq]; omega
  have g:Hid (ZAR c m=Lin.upr (Lin.low (muL c P))):=by show _=_; rw [aI.out,if_pos hn]
  have A:Hid (ZAp c m=true):=by show _=_; rw [aU.out]; simpa using hn
  have HN:=hid hn;clear hn
  have bX:P.length≤4:=by have:=HN.out; omega
  go_wp2
  go_loopw [6,7] (fun x q wr=>∃k:Nat,k≤c∧q=.int .i64 k∧wr.ownsRow d.heap.size 3 1 x k (ZAB ((muL c P).take k))∧Below d.heap.size d wr) (fun _ q _=>c-(intOf q).toNat)
  case atStart=>exact ⟨0,Za5 _,rfl,World.ownsRow_nil _ _ _ _,Below.refl _ _⟩
  case round=>
   obtain ⟨k,hk,rfl,n,f⟩:=hrel
   obtain ⟨wa,rfl⟩:∃wa,wa=wr:=⟨wr,rfl⟩
   have HO:=hid n;have HB:=hid f;have bN:d.heap.size≤wa.heap.size:=f.size;clear n f
   by_cases hlt:k < c
   ·obtain ⟨M,hM⟩:∃M,M=wa.heap.size:=⟨_,rfl⟩
    have am:=hid hM
    have bz:d.heap.size≤M:=by omega
    clear hM;go_wp2
    go_loopw [8,9] (fun x q wq=>∃j:Nat,j≤c∧q=.int .i64 j∧wq.ownsRow M 3 1 x (ZAu k j).length (ZAB (ZAu k j))∧Below M wa wq) (fun _ q _=>c-(intOf q).toNat)
    case atStart=>exact ⟨0,Za5 _,rfl,World.ownsRow_nil _ _ _ _,Below.refl _ _⟩
    case round=>
     obtain ⟨j,hj,rfl,n,f⟩:=hrel;have V:=hid n;have G:=hid f
     have aP:M≤wr.heap.size:=by have:=f.size; rw [am.out]; exact this
     clear n f
     by_cases hjl:j < c
     ·have aR:Hid (ZAu k (j+1)=if j=k then ZAu k j else ZAu k j ++ [(j:Int)]):=ZFE k j
      have bQ:(ZAu k j).length≤j:=by rw [ZDV.1]; split <;> omega
      by_cases hjk:j=k
      ·have bk:((j:Int) != (k:Int))=false:=by rw [bne_eq_false_iff_eq]; omega
       have S:Hid (ZAu k (j+1)=ZAu k j):=by show _=_; rw [aR.out,if_pos hjk]
       clear hjk;go_wp2
       go_roundw
       case rel=>exact ⟨j+1,by omega,by go_num,by rw [S.out]; exact V.out,G.out⟩
       case measure=>simp [intOf]; omega
      ·have bk:((j:Int) != (k:Int))=true:=by rw [bne_iff_ne]; omega
       have S:Hid (ZAu k (j+1)=ZAu k j ++ [(j:Int)]):=by show _=_; rw [aR.out,if_neg hjk]
       clear hjk;generalize ZAu k j=sl at *
       go_wp2_with (first | (at_builtin; refine wpList_append_own _ rfl _ _ 22 rfl M 3 i3 (.int .i64 0) 1 8 Tryz.underlying22 ak Q T O rfl (by decide) _ _ _ rfl (V.out.alloc _) ⟨wr.heap.size,0,none⟩ 1 1 [.int .i64 j] rfl rfl (ZAQ _ _ _) (ZA2 _) ?c3 ?c4 ?c5 ?_))
       case c3=>unfold maxLen; omega
       case c4=>omega
       case c5=>simp; omega
       intro v' w3 ho hg _;have R:=ZBN (z:=(j:Int)) (N:=sl.length+1) aP (l:=sl) V.out G.out ho hg rfl;have R1:Hid (w3.ownsRow M 3 1 v' (sl.length+1) (ZAB (sl ++ [(j:Int)]))):=R.1;have R2:Hid (Below M wa w3):=R.2;clear R ho hg;go_wp2
       go_roundw
       case rel=>exact ⟨j+1,by omega,by go_num,by rw [S.out]; simpa using R1.out,R2.out⟩
       case measure=>simp [intOf]; omega
     ·have bv:j=c:=by omega
      subst bv;have HS:Hid (Sl w.heap.size 3 wr u8 (ZAB (ZAu k j))):=Sl.own V.out
      have aJ:Hid (Mat w.heap.size 22 3 wr (.slice po P.length pc) P):=(HP.out.below HB.out (Za4 _)).below G.out (by rw [am.out]; exact Za4 _)
      have au:Hid (Below d.heap.size d wr):=HB.out.trans (G.out.mono bz)
      have aE:Hid (wr.ownsRow d.heap.size 3 1 u6 k (ZAB ((muL j P).take k))):=ZAN HO.out G.out (by rw [am.out]; exact Za4 _)
      have aB:d.heap.size≤wr.heap.size:=au.out.size;clear HO HB V G
      go_wp2_with fail
      refine (ZEF w.heap.size P (ZAu k j) _ _ wr aJ.out HS.out (by omega) (by rw [ZC5 hlt]; omega) ?_).mono ?_
      ·intro q hq
       have h1:=ZGX hq
       exact ⟨h1.1,fun r hr=>by rw [ag.out.row r hr]; exact h1.2⟩
      rintro e w2 ⟨xv,rfl,af,Y⟩;have aL:Hid (Mat wr.heap.size 22 3 w2 xv (ZAt P (ZAu k j))):=af.mat (Za4 _);have s:=hid Y;clear af Y
      go_wp2_with fail
      refine (ZKI Bd wr.heap.size (ZAt P (ZAu k j)) xv w2 (ZKK ag.out HN.out hlt) aL.out).mono ?_;rintro e w3 ⟨rfl,aS⟩;have aw:Hid (Below wr.heap.size wr w3):=s.out.trans (aS.mono s.out.size);have E:Hid (w3.ownsRow d.heap.size 3 1 u6 k (ZAB ((muL j P).take k))):=ZAN aE.out aw.out (Za4 _);have L:Hid (Below d.heap.size d w3):=au.out.trans (aw.out.mono aB);have U:d.heap.size≤w3.heap.size:=L.out.size
      have bT:=ZP6 ag.out HN.out hlt
      have bh:Hid (Lin.mu (fm P) k=Lin.ngo k*ZFi (ZAt P (ZAu k j))):=by show _=_; rw [ZIX HN.out hlt]; rfl
      have aK:Hid ((muL j P).take (k+1)=(muL j P).take k ++ [Lin.mu (fm P) k]):=ZMn j P k hlt;clear aS s aw aE au aL aJ HS;generalize ZFi (ZAt P (ZAu k j))=D at *
      have aa:((muL j P).take k).length=k:=by simp [muL]; omega
      have J:=hid aa;clear aa
      by_cases hodd:k % 2=1
      ·have bp:((k:Int) % 2 == 1)=true:=by rw [beq_iff_eq]; omega
       have ae:=hid hodd;clear hodd
       go_wp2_with (first | (at_builtin; refine wpList_append_own _ rfl _ _ 22 rfl d.heap.size 3 i3 (.int .i64 0) 1 8 Tryz.underlying22 ak Q T O rfl (by decide) _ _ _ rfl (E.out.alloc _) ⟨w3.heap.size,0,none⟩ 1 1 [.int .i64 (-D)] rfl rfl (ZAQ _ _ _) (ZA2 _) ?e3 ?e4 ?e5 ?_))
       case e3=>unfold maxLen; omega
       case e4=>omega
       case e5=>simp; omega
       intro v' w4 ho hg _
       have R:=ZBN (z:=(-D)) (N:=k+1) U (l:=(muL j P).take k) (by rw [J.out]; exact E.out) L.out (by rw [J.out]; exact ho) hg (by rw [J.out])
       have R1:Hid (w4.ownsRow d.heap.size 3 1 v' (k+1) (ZAB ((muL j P).take (k+1)))):=by
        have:=R.1
        rw [aK.out,bh.out,ZEJ,if_pos ae.out,show (-1:Int)*D=-D by omega]; exact this
       have R2:Hid (Below d.heap.size d w4):=R.2;clear R ho hg;go_wp2
       go_roundw
       case rel=>exact ⟨k+1,by omega,by go_num,R1.out,R2.out⟩
       case measure=>simp [intOf]; omega
      ·have bp:((k:Int) % 2 == 1)=false:=by rw [beq_eq_false_iff_ne]; omega
       have ae:=hid hodd;clear hodd
       go_wp2_with (first | (at_builtin; refine wpList_append_own _ rfl _ _ 22 rfl d.heap.size 3 i3 (.int .i64 0) 1 8 Tryz.underlying22 ak Q T O rfl (by decide) _ _ _ rfl (E.out.alloc _) ⟨w3.heap.size,0,none⟩ 1 1 [.int .i64 D] rfl rfl (ZAQ _ _ _) (ZA2 _) ?f3 ?f4 ?f5 ?_))
       case f3=>unfold maxLen; omega
       case f4=>omega
       case f5=>simp; omega
       intro v' w4 ho hg _
       have R:=ZBN (z:=D) (N:=k+1) U (l:=(muL j P).take k) (by rw [J.out]; exact E.out) L.out (by rw [J.out]; exact ho) hg (by rw [J.out])
       have R1:Hid (w4.ownsRow d.heap.size 3 1 v' (k+1) (ZAB ((muL j P).take (k+1)))):=by
        have:=R.1;rw [aK.out,bh.out,ZEJ,if_neg ae.out,Int.one_mul]; exact this
       have R2:Hid (Below d.heap.size d w4):=R.2;clear R ho hg;go_wp2
       go_roundw
       case rel=>exact ⟨k+1,by omega,by go_num,R1.out,R2.out⟩
       case measure=>simp [intOf]; omega
   ·have aW:k=c:=by omega
    have bl:Hid (wa.ownsRow d.heap.size 3 1 u6 c (ZAB (muL c P))):=by
     have h:=HO.out
     rw [Zaa2 (by simp [muL]; omega),aW] at h
     exact h
    have aF:Hid (∀z∈muL c P,z.natAbs≤1152921504606846976):=ZP7 ag.out HN.out
    have aj:(muL c P).length=c:=by simp [muL]
    have ai:=hid aj;have aA:Hid (Below w.heap.size w wa):=aQ.out.trans (HB.out.mono bi);clear aW HO aj;generalize muL c P=ml at *
    go_wp2_with fail
    refine (ZEB 0 ml u6 wa (Sl.own bl.out) (by rw [ai.out]; omega) (fun z hz=>Zaa8 (aF.out z hz) (by omega))).mono ?_
    rintro e w2 ⟨lv,rfl,aY,Y⟩
    have aD:Hid (∀z∈Lin.low ml,z.natAbs≤1152921504606846976):=ZFF aF.out
    have aa:(Lin.low ml).length=c:=by rw [←ai.out]; simp [Lin.low]
    have a:=hid aa;have p:Hid (Sl 0 3 w2 lv (ZAB (Lin.low ml))):=Sl.own aY;have s:Hid (Below w.heap.size w w2):=aA.out.trans (Y.mono aA.out.size);have aH:w.heap.size≤w2.heap.size:=s.out.size;clear aY Y aa;generalize Lin.low ml=lw at *;obtain ⟨lo,X,bw,aO,bG⟩:=ZAH p.out;subst bw;have ah:=a.out;rw [ah] at aO p ⊢;clear ah;go_wp2
    go_loopw [6,11] (fun y q wr=>∃k:Nat,k≤c∧q=.int .i64 k∧y=.slice lo c X∧wr=w2∧∀i,i < k→lw.getD i 0=0) (fun _ q _=>c-(intOf q).toNat)
    case atStart=>exact ⟨0,Za5 _,rfl,rfl,rfl,fun i hi=>absurd hi (by omega)⟩
    case round=>
     obtain ⟨t,ht,rfl,rfl,rfl,aV⟩:=hrel;have az:=hid aV;clear aV
     by_cases htl:t < c
     ·have F:t < lw.length:=by rw [a.out]; exact htl
      obtain ⟨b2,o2,bU,an,bt,bH⟩:=ZAJ (by rw [←a.out] at p; exact p.out) F
      rw [a.out] at an bt;simp only [Za3] at an;obtain ⟨rfl,_,rfl⟩:=an
      have bO:=aD.out (lw.getD t 0) (by simp [F])
      have aq:Hid (lw.getD t 0≠0→Lin.upr lw=if lw.getD t 0 < 0 then lw.map (fun v=>-v) else lw):=by
       intro bj;unfold Lin.upr;rw [Lin.find_at F az.out bj]
      have bD:Hid (lw.getD t 0=0→∀i,i < t+1→lw.getD i 0=0):=by
       intro h0 i hi
       by_cases e:i < t
       ·exact az.out i e
       ·rw [show i=t by omega]; exact h0
      generalize lw.getD t 0=x at *;clear F
      by_cases hx0:x=0
      ·have bF:(x != 0)=false:=by simp [hx0]
       have bg:=bD.out hx0;have bE:=hid bg;clear hx0 bg;go_wp2
       go_roundw
       case rel=>exact ⟨t+1,by omega,by go_num,by trivial,by trivial,bE.out⟩
       case measure=>simp [intOf]; omega
      ·have bF:(x != 0)=true:=by simp [hx0]
       have HU:=aq.out hx0
       by_cases hneg:x < 0
       ·have ay:Hid (Lin.upr lw=lw.map (fun v=>-v)):=by show _=_; rw [HU,if_pos hneg]
        clear hx0 HU aq
        go_wp2_with fail
        refine (ZBo 0 lw _ wr (by rw [←a.out] at p; simpa [a.out] using p.out) (by rw [a.out]; omega) (fun z hz=>by have:=aD.out z hz; omega)).mono ?_
        rintro e w5 ⟨tv,rfl,aX,aN⟩
        have bq:Hid (Sl 0 3 w5 tv (ZAB (lw.map fun z=>-z))):=Sl.own aX
        have bB:Hid (Below w.heap.size w w5):=s.out.trans (aN.mono aH);clear aX aN;go_wp2
        go_ret2
        refine ⟨tv,?_,?_,bB.out⟩
        ·rw [A.out]; rfl
        ·rw [g.out,ay.out]; exact bq.out
       ·have ay:Hid (Lin.upr lw=lw):=by show _=_; rw [HU,if_neg hneg]
        clear hx0 HU aq;go_wp2
        go_ret2
        refine ⟨.slice (some ⟨b2,o2,none⟩) c X,?_,?_,s.out⟩
        ·rw [A.out]; rfl
        ·rw [g.out,ay.out]; exact p.out
     ·go_wp2
      go_ret2
      refine ⟨.slice lo c X,?_,?_,s.out⟩
      ·rw [A.out]; rfl
      ·have hu:Lin.upr lw=lw:=by
        unfold Lin.upr
        rw [Lin.find_none (fun i hi=>az.out i (by rw [a.out] at hi; omega))]; simp
       rw [g.out,hu]; exact p.out
 ·have bu:((P.length:Int) != (c:Int)-1)=true:=by rw [bne_iff_ne]; omega
  have g:Hid (ZAR c m=[]):=by show _=_; rw [aI.out,if_neg hn]
  have A:Hid (ZAp c m=false):=by show _=_; rw [aU.out]; simpa using hn
  clear hn;go_wp2
  go_ret2
  refine ⟨.slice none 0 0,?_,?_,aQ.out⟩
  ·rw [A.out]; rfl
  ·rw [g.out]; exact Sl.nil _ _ _
end Go.Proofs.YtgfnmkenpgnllaaGreat
