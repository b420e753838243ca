import Derived.Test.YtkjkfceblmgogaaGreatWysA
import Derived.Deep.DeepCutAuto
set_option maxRecDepth 100000
set_option maxHeartbeats 8000000
namespace Go.Proofs.YtkjkfceblmgogaaGreat
open Go.RowKit
attribute [local go_sem ↓] Go.wp_at_zero Go.wp_at_succ
def ZEW(lo hi x:Int):Bool:=decide (x < lo) || decide (hi < x)
theorem ZNP(x lo hi:Int)(w:World)(a b:Addr)(hc:w.cell? a=some (.int .i64 lo))(hd:w.cell? b=some (.int .i64 hi)) :
  Calls Tryz.prog 122 #[.int .i64 x,.pointer (some a),.pointer (some b)] w fun e w'=>e=.returned (.bool (ZEW lo hi x))∧w'=w:=by
 by_cases hb:x < lo
 ·go_enter Tryz.func122,Tryz.ntmps122
  go_wp2;go_ret
  exact ⟨ZAX (by simp [ZEW,hb]),rfl⟩
 ·go_enter Tryz.func122,Tryz.ntmps122
  go_wp2;go_ret
  exact ⟨ZAX (by rw [ZEW,decide_eq_false (by omega:¬x < lo)]; rfl),rfl⟩
theorem ZJh(B:Nat)(lo hi:Int)(zs:List Int)(v:Value)(a b:Addr)(w:World)(hv:Sl B 3 w v (ZAB zs))(hc:w.cell? a=some (.int .i64 lo))(hd:w.cell? b=some (.int .i64 hi)) :
  Calls Tryz.prog 139 #[v,.func (.func 122) #[] #[.pointer (some a),.pointer (some b)]] w fun e w'=>e=.returned (.int .i64 (ZCe (ZEW lo hi) zs))∧w'=w:=by
 obtain ⟨F,n,g,A,z⟩:=ZAI hv;subst g;have y:Hid (Sl B 3 w (.slice F zs.length n) (ZAB zs)):=hv
 have r:Hid (∀x,Calls Tryz.prog 122 #[.int .i64 x,.pointer (some a),.pointer (some b)] w fun e w'=>e=.returned (.bool (ZEW lo hi x))∧w'=w):=fun x=>ZNP x lo hi w a b hc hd
 clear hv hc hd;go_enter Tryz.func139,Tryz.ntmps139;go_wp2
 go_loop [8] (fun i=>∃k:Nat,k≤zs.length∧i=.int .i64 k∧(zs.take k).any (ZEW lo hi)=false) (fun i=>zs.length-(intOf i).toNat)
 case atStart=>exact ⟨0,Za5 _,rfl,by simp⟩
 case round=>
  obtain ⟨k,G,rfl,d⟩:=hrel;have f:=hid d;clear d
  by_cases hlt:k < zs.length
  ·obtain ⟨L,o,J,t,D,l⟩:=ZAK y.out hlt
   simp only [Za3] at t;obtain ⟨rfl,_,rfl⟩:=t;have j:Hid ((zs.take (k+1)).any (ZEW lo hi)=ZEW lo hi zs[k]):=ZFf (p:=ZEW lo hi) hlt f.out
   have s:Hid (ZEW lo hi zs[k]=true→ZCe (ZEW lo hi) zs=k):=fun h=>ZGV (p:=ZEW lo hi) hlt f.out h
   rw [show zs.getD k 0=zs[k] by simp [hlt]] at l
   generalize zs[k]=x at *
   have c:Hid (Calls Tryz.prog 122 #[.int .i64 x,.pointer (some a),.pointer (some b)] w fun e w'=>e=.returned (.bool (ZEW lo hi x))∧w'=w):=r.out x
   generalize ZEW lo hi x=fb at *
   cases fb
   ·go_wp2_with (go_at_call 122; refine c.out.mono ?_; rintro e w' ⟨rfl,rfl⟩)
    go_round
    case rel=>exact ⟨k+1,by omega,by go_num,j.out⟩
    case measure=>simp [intOf]; omega
   ·have m:Hid (ZCe (ZEW lo hi) zs=k):=s.out rfl
    clear s
    go_wp2_with (go_at_call 122; refine c.out.mono ?_; rintro e w' ⟨rfl,rfl⟩)
    go_ret;exact ⟨ZBA m.out.symm,rfl⟩
  ·have e:zs.take k=zs:=Zaa2 (by omega)
   rw [e] at f;have E:Hid (ZCe (ZEW lo hi) zs=-1):=ZCZ f.out;go_wp2;go_ret;exact ⟨ZBA E.out.symm,rfl⟩
theorem ZF2(B:Nat)(lo hi:Int)(zs:List Int)(v:Value)(a b:Addr)(w:World)(hv:Sl B 3 w v (ZAB zs))(hc:w.cell? a=some (.int .i64 lo))(hd:w.cell? b=some (.int .i64 hi)) :
  Calls Tryz.prog 121 #[v,.func (.func 122) #[] #[.pointer (some a),.pointer (some b)]] w fun e w'=>e=.returned (.bool (zs.any (ZEW lo hi)))∧w'=w:=by
 have c:=ZJh B lo hi zs v a b w hv hc hd;go_enter Tryz.func121,Tryz.ntmps121
 go_wp2_with fail
 refine c.mono ?_;rintro e w' ⟨rfl,rfl⟩;go_wp2;go_ret;exact ⟨ZAX ZMn,rfl⟩
def ZNQ(c:Nat)(lo hi:Int)(r:List Int):Int:=if r.length≠c then 3 else if r.any (ZEW lo hi) then 4 else 0
theorem ZJi(B:Nat)(c:Nat)(lo hi:Int)(r:List Int)(v:Value)(w:World)(hv:Sl B 3 w v (ZAB r)) :
  Calls Tryz.prog 92 #[v,.int .i64 c,.int .i64 lo,.int .i64 hi] w fun e w'=>e=.returned (.int .i64 (ZNQ c lo hi r))∧Below w.heap.size w w':=by
 obtain ⟨i,f,g,o,n⟩:=ZAI hv;subst g;have m:Hid (Sl B 3 w (.slice i r.length f) (ZAB r)):=hv;clear hv
 by_cases hl:r.length=c
 ·have j:((r.length:Int) != (c:Int))=false:=by rw [bne_eq_false_iff_eq]; omega
  rw [ZNQ,if_neg (by omega)]
  clear hl
  obtain ⟨d,a⟩:∃d,d=(w.alloc (.cells #[.int .i64 lo] 3)).alloc (.cells #[.int .i64 hi] 3):=⟨_,rfl⟩
  have l:Hid (Calls Tryz.prog 121 #[.slice i r.length f,.func (.func 122) #[] #[.pointer (some ⟨w.heap.size,0,none⟩),.pointer (some ⟨w.heap.size+1,0,none⟩)]] d fun e w'=>e=.returned (.bool (r.any (ZEW lo hi)))∧w'=d):=by
   subst a
   exact ZF2 B lo hi r _ _ _ _ ((m.out.alloc _).alloc _) (by simp) (by simp)
  have b:Hid (Below w.heap.size w d):=by
   subst a
   exact ((Below.refl _ _).alloc (Za4 _) _).alloc (by simp) _
  generalize r.any (ZEW lo hi)=R at *;go_enter Tryz.func92,Tryz.ntmps92
  go_wp2_with fail
  try rw [←a]
  refine l.out.mono ?_;rintro e w' ⟨rfl,rfl⟩
  cases R
  ·go_wp2
   go_ret
   exact ⟨rfl,by have:=b.out; rw [a] at this; exact this⟩
  ·go_wp2
   go_ret
   exact ⟨rfl,by have:=b.out; rw [a] at this; exact this⟩
 ·have j:((r.length:Int) != (c:Int))=true:=by rw [bne_iff_ne]; omega
  rw [ZNQ,if_pos hl];clear hl;go_enter Tryz.func92,Tryz.ntmps92;go_wp2;go_ret
  exact ⟨rfl,((Below.refl _ _).alloc (Za4 _) _).alloc (by simp) _⟩
theorem ZNR(most:Int):ZEW (-most) most=(ZDm · most):=by
 funext x
 rw [Bool.eq_iff_iff];simp [ZEW,ZDm,Bool.or_comm]
theorem ZF3(B:Nat)(c:Nat)(most:Int)(r:List Int)(v:Value)(w:World)(hv:Sl B 3 w v (ZAB r))(h0:0≤most)(h1:most≤1000000) :
  Calls Tryz.prog 62 #[v,.int .i64 c,.int .i64 most] w fun e w'=>e=.returned (.int .i64 (if r.length≠c then 3 else if r.any (ZDm · most) then 4 else 0))∧Below w.heap.size w w':=by
 have b:Hid (Calls Tryz.prog 92 #[v,.int .i64 c,.int .i64 (-most),.int .i64 most] w fun e w'=>e=.returned (.int .i64 (if r.length≠c then 3 else if r.any (ZDm · most) then 4 else 0))∧Below w.heap.size w w'):=by
  have:=ZJi B c (-most) most r v w hv;rw [ZNQ,ZNR] at this;exact this
 generalize (if r.length≠c then (3:Int) else if r.any (ZDm · most) then 4 else 0)=R at *
 go_enter Tryz.func62,Tryz.ntmps62
 go_wp2_with fail
 refine b.out.mono ?_;rintro e w' ⟨rfl,a⟩;have d:=hid a;clear a;go_wp2;go_ret;exact ⟨rfl,d.out⟩
end Go.Proofs.YtkjkfceblmgogaaGreat
namespace Go.Proofs.YtkjkfceblmgogaaGreat
open Go.RowKit
structure CutOk(d:Nat)(rows:List (List Int)):Prop where
 d1:1≤d
 d3:d≤3
 n12:rows.length≤12
 len:∀r∈rows,r.length=d+1
 bd:∀r∈rows,∀z∈r,z.natAbs≤20
structure CutF(d:Nat)(rows:List (List Int)):Prop where
 d1:1≤d
 d4:d≤4
 n12:rows.length≤12
 len:∀r∈rows,r.length=d+1
 bd:∀r∈rows,∀z∈r,z.natAbs≤20
theorem CutOk.f{d:Nat}{rows:List (List Int)}(h:CutOk d rows):CutF d rows:=⟨h.d1,Nat.le_succ_of_le h.d3,h.n12,h.len,h.bd⟩
instance {d:Nat} {rows:List (List Int)} : Coe (CutOk d rows) (CutF d rows):=⟨CutOk.f⟩
def ZDO(d:Nat)(rows:List (List Int)):Bool:=!(ZAY rows (ZBg d)).isEmpty
theorem ZOd{r:List Int}{n:Nat}(h:∀z∈r,z.natAbs≤n):r.any (ZDm · n)=false:=by
 rw [List.any_eq_false];intro z a;have:=h z a;simp [ZDm];omega
theorem ZK0(B:Nat)(r:List Int)(v:Value)(many:Int)(w:World)(hv:Sl B 3 w v (ZAB r))(hd:(r.length:Int)=many)(hn:r.any (ZDm · 20)=false) :
  Calls Tryz.prog 62 #[v,.int .i64 many,.int .i64 20] w fun e w'=>e=.returned (.int .i64 0)∧Below w.heap.size w w':=by
 subst hd
 refine (ZF3 B r.length 20 r v w hv (by decide) (by decide)).mono ?_
 rintro e b ⟨rfl,a⟩;rw [hn]
 exact ⟨by simp,a⟩
theorem ZB7(d:Nat)(rows:List (List Int))(v:Value)(w:World)(hv:Mat w.heap.size 27 3 w v rows)(hc:CutF d rows) :
  Calls Tryz.prog 45 #[.agg #[.int .i64 d,v]] w fun e w'=>e=.returned (.int .i64 0)∧Below w.heap.size w w':=by
 obtain ⟨F,l,B,Y,P⟩:=ZAD hv;subst B;have N:Hid (Mat w.heap.size 27 3 w (.slice F rows.length l) rows):=hv;have G:=hid hc
 have h1:(1:Int)≤(d:Int):=by have:=hc.d1; omega
 have X:¬(d:Int) < 1:=by omega
 have h4:(d:Int)≤4:=by have:=hc.d4; omega
 have M:=hc.n12
 have U:decide ((d:Int) < 1)=false:=by simp; omega
 obtain ⟨c,a⟩:∃c,c=w.alloc (.cells #[.int .i64 d,.slice F rows.length l] 56):=⟨_,rfl⟩
 have E:=hid a
 have s:Hid (Below w.heap.size w c):=by rw [a]; exact ZAG _ _
 have A:Hid (c.cell? ⟨w.heap.size,0,none⟩=some (.int .i64 d)):=by
  have O:c.heap[w.heap.size]?=some (.cells #[.int .i64 d,.slice F rows.length l] 56 (0,0)):=by rw [a]; exact ZAL _ _
  show c.cell? _=_
  simp [World.cell?,O]
 have z:Hid (c.heap.size=w.heap.size+1):=by rw [a]; exact size_alloc _ _
 clear hv hc a;go_enter Tryz.func45,Tryz.ntmps45;go_wp2;rw [←E.out]
 go_loopw [21] (fun i wr=>∃k:Nat,k≤rows.length∧i=.int .i64 k∧Below c.heap.size c wr) (fun i _=>rows.length-(intOf i).toNat)
 case atStart=>exact ⟨0,Za5 _,rfl,Below.refl _ _⟩
 case round=>
  obtain ⟨k,hk,rfl,t⟩:=hrel;have J:=hid t;have f:Below w.heap.size w wr:=s.out.trans (t.mono s.out.size);have x:=hid f
  have D:wr.cell? ⟨w.heap.size,0,none⟩=some (.int .i64 d):=(t.cell (p:=⟨w.heap.size,0,none⟩) (by have:=z.out; show w.heap.size < _; omega)).trans A.out
  clear t
  by_cases hlt:k < rows.length
  ·obtain ⟨vb,V,R,L,o,_,g,r⟩:=ZAP (N.out.below f (Za4 _)) hlt
   simp only [Za3] at o;obtain ⟨rfl,_,rfl⟩:=o
   have b:rows.getD k []∈rows:=by simp [hlt]
   have j:=G.out.len _ b
   have n:Hid (Calls Tryz.prog 62 #[L,.int .i64 ((d:Int)+1),.int .i64 20] wr fun e w'=>e=.returned (.int .i64 0)∧Below wr.heap.size wr w'):=
    ZK0 _ (rows.getD k []) L _ wr r (by rw [j]; omega) (ZOd (G.out.bd _ b))
   clear r j b f
   have T:(0:Int)≤(k:Int):=by omega
   have Q:(k:Int) < (rows.length:Int):=by omega
   go_wp2_with fail
   refine n.out.mono ?_;rintro e S ⟨rfl,m⟩;have y:Hid (Below c.heap.size c S):=J.out.trans (m.mono J.out.size);clear m g D n;go_wp2
   go_roundw
   case rel=>exact ⟨k+1,by omega,by go_num,y.out⟩
   case measure=>simp [intOf]; omega
  ·clear f
   go_wp2;go_ret;exact ⟨rfl,x.out⟩
theorem ZEX(d:Nat)(rows:List (List Int))(v:Value)(w:World)(hv:Mat w.heap.size 27 3 w v rows)(hc:CutF d rows) :
  Calls Tryz.prog 46 #[.agg #[.int .i64 d,v]] w fun e w'=>e=.returned (.bool (ZDO d rows))∧Below w.heap.size w w':=by
 obtain ⟨i,f,j,A,s⟩:=ZAD hv;subst j
 have n:Hid (Calls Tryz.prog 74 #[.slice i rows.length f,.int .i64 d] (w.alloc (.cells #[.int .i64 d,.slice i rows.length f] 56)) fun e w'=>∃p q u,e=.returned (.tuple #[.agg #[p,q,.int .i64 u],.bool (ZDO d rows)])∧(∃a b c,p=.slice a b c)∧(∃a b c,q=.slice a b c)∧Below w.heap.size w w'):=by
  have x:Mat (w.alloc (.cells #[.int .i64 d,.slice i rows.length f] 56)).heap.size 27 3 (w.alloc (.cells #[.int .i64 d,.slice i rows.length f] 56)) (.slice i rows.length f) rows:=(hv.below (ZAG w _) (Za4 _)).more (by simp)
  refine (ZGu rows d _ _ x (fun r hr=>⟨hc.len r hr,fun z hz=>by have:=hc.bd r hr z hz; omega⟩) (.inr ⟨hc.d4,hc.bd⟩) (by have:=hc.n12; omega)).mono ?_
  rintro e w' ⟨M,rfl,o,t⟩
  have g:Below w.heap.size w w':=(ZAG w _).trans (t.mono (by simp))
  rcases o with ⟨_,rfl⟩ | ⟨c,l,co,cc,po,pc,_,rfl,_,_⟩
  ·exact ⟨_,_,_,rfl,⟨_,_,_,rfl⟩,⟨_,_,_,rfl⟩,g⟩
  ·exact ⟨_,_,_,rfl,⟨_,_,_,rfl⟩,⟨_,_,_,rfl⟩,g⟩
 clear hv hc;generalize ZDO d rows=eb at *;go_enter Tryz.func46,Tryz.ntmps46
 go_wp2_with fail
 refine n.out.mono ?_;rintro e F ⟨p,q,u,rfl,⟨E,J,B,rfl⟩,⟨G,D,L,rfl⟩,g⟩;have y:=hid g;have m:=g.size;clear g n;go_wp2;go_ret;exact ⟨rfl,y.out.alloc m _⟩
theorem ZK1(d:Nat)(rows:List (List Int))(v:Value)(w:World)(hv:Mat w.heap.size 27 3 w v rows)(hc:CutF d rows) :
  Calls Tryz.prog 152 #[.agg #[.int .i64 d,v]] w fun e w'=>e=.returned (.tuple #[.bool (ZDO d rows),.int .i64 0])∧Below w.heap.size w w':=by
 obtain ⟨l,a,y,N,G⟩:=ZAD hv;subst y;have D:Hid (Mat w.heap.size 27 3 w (.slice l rows.length a) rows):=hv;have E:=hid hc
 obtain ⟨B,i⟩:∃B,B=ZDO d rows:=⟨_,rfl⟩
 rw [←i];have A:=hid i;clear hv hc i
 obtain ⟨W,n⟩:∃W,W=w.alloc (.cells #[.int .i64 d,.slice l rows.length a] 56):=⟨_,rfl⟩
 have c:Below w.heap.size w W:=by rw [n]; exact ZAG _ _
 have o:W.heap[w.heap.size]?=some (.cells #[.int .i64 d,.slice l rows.length a] 56 (0,0)):=by rw [n]; exact ZAL _ _
 have p:W.heap.size=w.heap.size+1:=by rw [n]; simp
 have M:Hid (Calls Tryz.prog 45 #[.agg #[.int .i64 d,.slice l rows.length a]] W fun e w'=>e=.returned (.int .i64 0)∧Below W.heap.size W w'):=ZB7 d rows _ W ((D.out.below c (Za4 _)).more c.size) E.out
 have F:=hid n;have m:=hid c;have z:=hid o;have t:=hid p;clear n c o p;go_enter Tryz.func152,Tryz.ntmps152
 go_wp2_with fail
 rw [←F.out];refine M.out.mono ?_;rintro e f ⟨rfl,g⟩;have b:Below w.heap.size w f:=m.out.trans (g.mono m.out.size)
 have L:Hid (Calls Tryz.prog 46 #[.agg #[.int .i64 d,.slice l rows.length a]] f fun e w'=>e=.returned (.bool B)∧Below f.heap.size f w'):=by
  rw [A.out];exact ZEX d rows _ f ((D.out.below b (Za4 _)).more b.size) E.out
 have j:f.heap[w.heap.size]?=some (.cells #[.int .i64 d,.slice l rows.length a] 56 (0,0)):=(g.block _ (by have:=t.out; omega)).trans z.out
 have P:f.cell? ⟨w.heap.size,0,none⟩=some (.int .i64 d):=by simp [World.cell?,j]
 have O:f.cell? ⟨w.heap.size,1,none⟩=some (.slice l rows.length a):=by simp [World.cell?,j]
 have s:=hid b;clear g b j
 go_wp2_with fail
 refine L.out.mono ?_;rintro e J ⟨rfl,r⟩;have x:Hid (Below w.heap.size w J):=s.out.trans (r.mono s.out.size);clear r;go_wp2
 go_ret2
 exact ⟨rfl,x.out⟩
end Go.Proofs.YtkjkfceblmgogaaGreat
namespace Go.Proofs.YtkjkfceblmgogaaGreat
open Lin
def ZOe(d:Nat)(m:List (List Int)):Prop:=
 ∃a:Nat→Int,(∃i,i < d∧a i≠0)∧(∀r∈m,dot d (V r) a=0)∧∀u:Nat→Int,(∀r∈m,dot d (V r) u=0)→Par d u a
theorem ZGv{d:Nat}{m:List (List Int)} : ZAp d m=true↔ZOe d m:=by
 constructor
 ·intro h
  have b:(ZAJ d m).length+1=d:=by simpa [ZAp] using h
  obtain ⟨f,c,g⟩:=ZBc b;exact ⟨_,f,c,g⟩
 ·rintro ⟨a,f,c,g⟩
  have i:=ZDh (ZA4 d m) (a:=a) f (fun r hr=>by
   obtain ⟨l,b,rfl⟩:=ZCF.1 hr
   exact c l b) (fun u hu=>g u (fun r hr=>hu (V r) (ZCF.2 ⟨r,hr,rfl⟩)))
  rw [ZA1] at i
  simpa [ZAp] using i
end Go.Proofs.YtkjkfceblmgogaaGreat
namespace Go.Proofs.YtkjkfceblmgogaaGreat
open Go.RowKit
attribute [local go_sem ↓] Go.wp_at_zero Go.wp_at_succ
theorem ZK2{w:World}{b:Nat}{x u:Value}{t:TypeId}(h:w.heap[b]?=some (.cells #[x] t (0,0))):(w.setCell ⟨b,0,none⟩ u).heap[b]?=some (.cells #[u] t (0,0)):=by
 simp [World.setCell,Array.getElem?_modify,h]
theorem ZNS{B R n j:Nat}{e:TypeId}{w:World}{v u:Value}{xs:List Value}(h:w.ownsRow B e 1 v n xs)(hR:R < B):(w.setCell ⟨R,j,none⟩ u).ownsRow B e 1 v n xs:=by
 refine ⟨h.1,?_⟩
 rcases h.2 with h2 | ⟨k,cap,cur,rfl,hb,hh,r⟩
 ·exact Or.inl h2
 ·exact Or.inr ⟨k,cap,cur,rfl,hb,(Below.heap_setCell w _ u k (by show k≠R; omega)).trans hh,r⟩
end Go.Proofs.YtkjkfceblmgogaaGreat
namespace Go.Proofs.YtkjkfceblmgogaaGreat
open Go.RowKit
def chs:Nat→List (List Int)→List (List (List Int))
 | 0,_=>[[]]
 | _+1,[]=>[]
 | k+1,x :: xs=>((chs k xs).map (x :: ·)) ++ chs (k+1) xs
theorem ZF4:∀k l,(chs k l).length≤(l.length+1) ^ k
 | 0,_=>by simp [chs]
 | k+1,[]=>by simp [chs]
 | k+1,x :: xs=>by
  have h1:=ZF4 k xs;have h2:=ZF4 (k+1) xs;simp only [chs,Zaa4,Zab1,List.length_cons];have h3:(xs.length+1) ^ (k+1)=(xs.length+1) ^ k*(xs.length+1):=Nat.pow_succ _ _;have h4:(xs.length+1+1) ^ (k+1)=(xs.length+1+1) ^ k*(xs.length+1+1):=Nat.pow_succ _ _
  have h5:(xs.length+1) ^ k≤(xs.length+1+1) ^ k:=Nat.pow_le_pow_left (by omega) k
  have h6:(xs.length+1) ^ k*(xs.length+1)+(xs.length+1) ^ k≤(xs.length+1+1) ^ k*(xs.length+1+1):=by
   have:(xs.length+1) ^ k*(xs.length+1)+(xs.length+1) ^ k=(xs.length+1) ^ k*(xs.length+1+1):=(Nat.mul_succ _ _).symm;rw [this]; exact Nat.mul_le_mul_right _ h5
  omega
theorem ZF5:∀(k:Nat) (l:List (List Int)),chs k l=chz k l
 | 0,l=>by cases l <;> simp [chs,chz]
 | k+1,[]=>by simp [chs,chz]
 | k+1,x :: xs=>by
  simp only [chs,chz];rw [ZF5 k xs,ZF5 (k+1) xs]
theorem ZK3:∀(k:Nat) {n fr:Nat} {c:List Int},c.length=k→(∀i,i < k→(fr:Int)≤c.getD i 0∧c.getD i 0 < n)→(∀i j,i < j→j < k→c.getD i 0 < c.getD j 0)→c∈ext n k fr
 | 0,n,fr,c,hl,_,_=>by
  have:=List.eq_nil_of_length_eq_zero hl;subst this;simp [ext]
 | k+1,n,fr,c,hl,hb,hr=>by
  cases c with
  | nil=>simp at hl
  | cons a c=>
   have h0:=hb 0 (by omega)
   simp only [List.getD_cons_zero] at h0;simp only [ext,List.mem_flatMap,List.mem_map,List.mem_range'_1]
   refine ⟨a.toNat,by omega,c,ZK3 k (by simpa using hl) (fun i hi=>?_) (fun i j hij hj=>?_),by congr 1; omega⟩
   ·have h1:=hb (i+1) (by omega)
    have h2:=hr 0 (i+1) (by omega) (by omega)
    simp only [List.getD_cons_succ,List.getD_cons_zero] at h1 h2
    exact ⟨by omega,h1.2⟩
   ·have h2:=hr (i+1) (j+1) (by omega) (by omega)
    simpa only [List.getD_cons_succ] using h2
theorem ZJj{k n:Nat}{c:List Int} : c∈ZAN k n↔c∈ext n k 0:=by
 constructor
 ·intro h
  obtain ⟨b,a⟩:=ZBs k n c h
  exact ZK3 k (ZBC k n c h) (fun i hi=>by have:=b i hi; exact ⟨by simpa using this.1,this.2⟩) a
 ·intro h
  obtain ⟨b,a,l⟩:=ZBk h
  have:=ZFH k n (fun i=>(c.getD i 0).toNat) ⟨fun i j hij hj=>by
   have g:=l i j hij hj
   have d:=a i (by omega)
   show (c.getD i 0).toNat < (c.getD j 0).toNat
   omega,fun i hi=>by
   have d:=a i hi
   show (c.getD i 0).toNat < n
   omega⟩
  have e:((List.range k).map fun i=>(((c.getD i 0).toNat:Nat):Int))=c:=by
   apply List.ext_getElem
   ·simp [b]
   ·intro i g d
    have:=a i (by omega)
    have f:c.getD i 0=c[i]:=by simp [show i < c.length by omega]
    simp only [List.getElem_map,List.getElem_range];rw [←f];omega
  rw [e] at this;exact this
end Go.Proofs.YtkjkfceblmgogaaGreat
namespace Go.Proofs.YtkjkfceblmgogaaGreat
def ngR(d:Nat)(r:List Int):List Int:=r.take d ++ [-(r.getD d 0)]
theorem ZEY{d:Nat}{r:List Int}(h:r.length=d+1):(ngR d r).length=d+1:=by simp [ngR,h]
theorem ZEZ{d i:Nat}{r:List Int}(h:r.length=d+1)(hi:i < d+1):(ngR d r).getD i 0=if i=d then -(r.getD d 0) else r.getD i 0:=by
 unfold ngR
 by_cases e:i=d
 ·subst e
  rw [if_pos rfl];simp [h]
 ·rw [if_neg e]
  have a:i < (r.take d).length:=by simp [h]; omega
  rw [Za2,Za7 a,Zaa5 (by omega),←Za2]
def ptY(d:Nat)(t:List (List Int)):List Int:=
 if (ZAO (d+1) (t.map (ngR d))).getD d 0 < 0 then (ZAO (d+1) (t.map (ngR d))).map (fun z=>-z) else ZAO (d+1) (t.map (ngR d))
def ptK(R:List (List Int))(d:Nat)(y:List Int):Bool:=R.all fun r=>decide (ZC9 (r.take d) y≤r.getD d 0*y.getD d 0)
def ptT(R:List (List Int))(d:Nat)(t:List (List Int)):Option (List Int):=
 if ZAp (d+1) (t.map (ngR d))=true∧(ZAO (d+1) (t.map (ngR d))).getD d 0≠0∧ptK R d (ptY d t)=true then some (ptY d t) else none
end Go.Proofs.YtkjkfceblmgogaaGreat
namespace Go.Proofs.YtkjkfceblmgogaaGreat
open Lin
def Fea(d:Nat)(rows:List (List Int))(x:Nat→Int)(w:Int):Prop:=0 < w∧∀r∈rows,dot d (V r) x≤V r d*w
theorem ZDE(d:Nat)(a x:Nat→Int):dot (d+1) a x=dot d a x+a d*x d:=rfl
theorem ZIy(d:Nat)(c:Nat→Int):dot (ZBg d).length c (V (ZBg d))=- c d:=by
 rw [ZBD,ZDE]
 have a:dot d c (V (ZBg d))=0:=by
  rw [ZAU]
  refine ZBQ fun i hi=>?_
  simp [V,ZBg,show i < d+1 by omega,show ¬i=d by omega]
 have b:V (ZBg d) d=-1:=by simp [V,ZBg]
 rw [a,b]; omega
theorem ZDZ{d:Nat}{rows:List (List Int)} : ZDO d rows=false↔∃x w,Fea d rows x w:=by
 have f:ZDO d rows=false↔ZAY rows (ZBg d)=[]:=by
  unfold ZDO
  cases ZAY rows (ZBg d) <;> simp
 rw [f,ZCP]
 constructor
 ·rintro ⟨c,a,b⟩
  rw [ZIy] at b
  refine ⟨c,- c d,b,fun r hr=>?_⟩
  have:=a r hr;rw [ZBD,ZDE,ZAU] at this
  have e:V r d * - c d=-(c d*V r d):=by grind
  omega
 ·rintro ⟨x,w,j,h⟩
  refine ⟨fun k=>if k=d then -w else x k,fun r hr=>?_,?_⟩
  ·have a:=h r hr
   rw [ZBD,ZDE];simp only [if_true]
   have e:dot d (fun k=>if k=d then -w else x k) (V r)=dot d (V r) x:=by
    rw [ZAU]
    exact ZAa (fun _ _=>rfl) fun i hi=>by rw [if_neg (by omega)]
   rw [e]
   have g : -w*V r d=-(V r d*w):=by grind
   omega
  ·rw [ZIy]
   simp only [if_true]; omega
def axR(d k:Nat):List Int:=(List.range (d+1)).map fun j=>if j=k then 1 else 0
def ZF6(d:Nat):List (List Int):=(List.range d).map (axR d)
def ZE8(d:Nat)(rows:List (List Int)):List (List Int):=rows ++ ZF6 d
theorem ZHx(d k:Nat):(axR d k).length=d+1:=by simp [axR]
theorem ZQl{d k j:Nat}(hj:j < d+1):V (axR d k) j=if j=k then 1 else 0:=by simp [V,axR,hj]
theorem ZK4{d k:Nat}(hk:k < d)(x:Nat→Int):dot d (V (axR d k)) x=x k:=by
 have:dot d (V (axR d k)) x=dot d (ZBf k) x:=ZAa (fun i hi=>by rw [ZQl (by omega)]; rfl) fun _ _=>rfl
 rw [this,ZC1 hk]
theorem ZNT{d k:Nat}(hk:k < d):V (axR d k) d=0:=by rw [ZQl (by omega),if_neg (by omega)]
def hom(d:Nat)(r:List Int):Nat→Int:=fun k=>if k=d then-V r d else V r k
theorem ZF7(d:Nat)(r:List Int)(c:Nat→Int):dot (d+1) c (hom d r)=dot d (V r) c-V r d*c d:=by
 rw [ZDE]
 have e:dot d c (hom d r)=dot d (V r) c:=by
  rw [ZAU]
  exact ZAa (fun i hi=>by unfold hom; rw [if_neg (by omega)]) fun _ _=>rfl
 rw [e];unfold hom;simp only [if_true]
 grind
theorem ZK5{d:Nat}{Z:List (Nat→Int)}{G:Nat→Int}(hax:∀v:Nat→Int,v d=0→(∃i,i < d∧v i≠0)→∃z∈Z,dot (d+1) v z≠0) :
  ∀(n:Nat) (c:Nat→Int),ZD7 (d+1) Z c≤n→(∀z∈Z,dot (d+1) c z≤0)→0 < c d→(∀v:Nat→Int,v d=0→(∀z∈Z,dot (d+1) c z=0→dot (d+1) v z=0)→dot d G v=0)→
  ∃c':Nat→Int,(∀z∈Z,dot (d+1) c' z≤0)∧0 < c' d∧dot d G c'*c d=dot d G c*c' d∧∀v:Nat→Int,v d=0→(∀z∈Z,dot (d+1) c' z=0→dot (d+1) v z=0)→∀i,i < d→v i=0:=by
 intro n
 induction n with
 | zero=>
  intro c O t g B
  refine ⟨c,t,g,rfl,fun v hv j i y=>?_⟩
  apply Za6
  intro l;obtain ⟨z,a,p⟩:=hax v hv ⟨i,y,l⟩
  have b:ZD7 (d+1) Z c=0:=by omega
  unfold ZD7 at b;rw [List.countP_eq_zero] at b
  exact p (j z a (by have:=b z a; simpa using this))
 | succ n ih=>
  intro c O t g B
  by_cases hs:∀v:Nat→Int,v d=0→(∀z∈Z,dot (d+1) c z=0→dot (d+1) v z=0)→∀i,i < d→v i=0
  ·exact ⟨c,t,g,rfl,hs⟩
  ·have:∃v:Nat→Int,v d=0∧(∀z∈Z,dot (d+1) c z=0→dot (d+1) v z=0)∧∃z∈Z,0 < dot (d+1) v z:=by
    apply Za6
    intro o
    apply hs
    intro v hv j i y
    apply Za6
    intro l;obtain ⟨z,a,p⟩:=hax v hv ⟨i,y,l⟩
    by_cases x:0 < dot (d+1) v z
    ·exact o ⟨v,hv,j,z,a,x⟩
    ·refine o ⟨fun k=>- v k,by simp [hv],fun z hz' b=>by rw [ZBn,j z hz' b]; rfl,z,a,by rw [ZBn]; omega⟩
   obtain ⟨v,hv,j,x⟩:=this;obtain ⟨s,r,A,L,E,Q⟩:=ray t j x
   have m:0 < s*c d+r*v d:=by rw [hv]; have:=Int.mul_pos A g; omega
   have f:∀z∈Z,dot (d+1) c z=0→dot (d+1) (fun k=>s*c k+r*v k) z=0:=fun z a b=>by rw [ZBI,b,j z a b]; omega
   obtain ⟨c',F,J,D,M⟩:=ih (fun k=>s*c k+r*v k) (by omega) E m (fun u hu hzu=>B u hu fun z a b=>hzu z a (f z a b))
   refine ⟨c',F,J,?_,M⟩
   have N:dot d G (fun k=>s*c k+r*v k)=s*dot d G c:=by
    rw [ZAU,ZBI,ZAU d c,ZAU d v,B v hv j]; omega
   rw [N,hv] at D
   have P:s*(dot d G c'*c d)=s*(dot d G c*c' d):=by
    have:dot d G c'*(s*c d+r*0)=s*(dot d G c'*c d):=by grind
    rw [←this,D]; grind
   exact Int.eq_of_mul_eq_mul_left (by omega) P
def ZJk(d:Nat)(rows:List (List Int))(c:Nat→Int):List (List Int):=(ZE8 d rows).filter fun r=>decide (dot d (V r) c=V r d*c d)
theorem ZNU(c:Nat)(m:List (List Int)):(ZAJ c m).Sublist m:=by
 have:∀(m h:List (List Int)),∃s,s.Sublist m∧m.foldl (fun h r=>if ZA7 c (h ++ [r]) then h ++ [r] else h) h=h ++ s:=by
  intro m
  induction m with
  | nil=>intro h; exact ⟨[],List.Sublist.refl _,by simp⟩
  | cons x m ih=>
   intro h;rw [List.foldl_cons]
   by_cases hf:ZA7 c (h ++ [x])=true
   ·rw [if_pos hf]
    obtain ⟨s,a,b⟩:=ih (h ++ [x])
    exact ⟨x :: s,a.cons_cons _,by rw [b]; simp⟩
   ·rw [if_neg hf]
    obtain ⟨s,a,b⟩:=ih h;exact ⟨s,a.cons _,b⟩
 obtain ⟨s,a,b⟩:=this m [];unfold ZAJ;rw [b]; simpa using a
theorem ZK6{d:Nat}{r:List Int}(hr:r.length=d+1)(u:Nat→Int):dot (d+1) (V (ngR d r)) u=dot d (V r) u-V r d*u d:=by
 rw [ZDE]
 have a:dot d (V (ngR d r)) u=dot d (V r) u:=ZAa (fun i hi=>by unfold V; rw [ZEZ hr (by omega),if_neg (by omega)]) fun _ _=>rfl
 have b:V (ngR d r) d=- V r d:=by unfold V; rw [ZEZ hr (by omega),if_pos rfl]
 rw [a,b]; grind
theorem ZGw{d:Nat}{r:List Int}(hr:r.length=d+1)(y:List Int):ZC9 (r.take d) y=dot d (V r) (V y):=by
 unfold ZC9 dot
 rw [List.length_take,hr,show min d (d+1)=d by omega]
 refine ZAC fun i hi=>?_
 unfold V;rw [Za2,Zaa5 hi,Za2,Za2]
theorem ZK7{d:Nat}{rows:List (List Int)}(hl:∀r∈rows,r.length=d+1){y:List Int} : ptK rows d y=true↔∀r∈rows,dot d (V r) (V y)≤V r d*V y d:=by
 unfold ptK;rw [List.all_eq_true]
 constructor
 ·intro h r a
  have:=h r a;rw [decide_eq_true_eq,ZGw (hl r a)] at this;exact this
 ·intro h r a
  rw [decide_eq_true_eq,ZGw (hl r a)];exact h r a
theorem ZRd{d:Nat}{rows t:List (List Int)}{c:Nat→Int}(hl:∀r∈rows,r.length=d+1)(ht:∀r∈t,r.length=d+1)(hcd:0 < c d)(hfea:∀r∈rows,dot d (V r) c≤V r d*c d)
 (hmet:∀r∈t,dot d (V r) c=V r d*c d)(hspan:∀v:Nat→Int,(∀r∈t,dot d (V r) v=0)→∀i,i < d→v i=0):∃y,ptT rows d t=some y∧0 < V y d∧∀i,i < d+1→V y i*c d=c i*V y d:=by
 have n:ZOe (d+1) (t.map (ngR d)):=by
  refine ⟨c,⟨d,by omega,by omega⟩,fun r hr=>?_,fun u hu=>?_⟩
  ·obtain ⟨q,o,rfl⟩:=List.mem_map.1 hr
   rw [ZK6 (ht q o),hmet q o]; omega
  ·have J:=hspan (fun k=>c d*u k+(-(u d))*c k) fun r hr=>by
    have x:=hu (ngR d r) (List.mem_map.2 ⟨r,hr,rfl⟩);rw [ZK6 (ht r hr)] at x;have A:=hmet r hr;rw [ZAU,ZBI,ZAU d u,ZAU d c,A]
    have M:dot d (V r) u=V r d*u d:=by omega
    rw [M]; grind
   have l:∀i,i < d+1→c d*u i=u d*c i:=fun i a=>by
    by_cases e:i=d
    ·rw [e]; exact Int.mul_comm _ _
    ·have:=J i (by omega)
     grind
   intro i j a L
   have e:c d*(u i*c j-u j*c i)=0:=by
    have:c d*(u i*c j-u j*c i)=(c d*u i)*c j-(c d*u j)*c i:=by grind
    rw [this,l i a,l j L]; grind
   rcases Int.mul_eq_zero.1 e with h | h
   ·omega
   ·omega
 have E:=ZGv.2 n
 have g:(ZAJ (d+1) (t.map (ngR d))).length+1=d+1:=by simpa [ZAp] using E
 obtain ⟨⟨p,G,D⟩,_,f⟩:=ZBc g
 have B:∀r∈t.map (ngR d),dot (d+1) (V r) c=0:=fun r hr=>by
  obtain ⟨q,o,rfl⟩:=List.mem_map.1 hr;rw [ZK6 (ht q o),hmet q o]; omega
 have b:=f c B
 have m:V (ZAO (d+1) (t.map (ngR d))) d≠0:=fun e=>by
  have:=b p d G (by omega)
  rw [e,Int.mul_zero] at this
  rcases Int.mul_eq_zero.1 this.symm with h | h
  ·omega
  ·exact D h
 -- which way it looks
 have s:0 < V (ptY d t) d∧∀i,i < d+1→V (ptY d t) i*c d=c i*V (ptY d t) d:=by
  unfold ptY;have F:(ZAO (d+1) (t.map (ngR d))).getD d 0≠0:=m
  by_cases hn:(ZAO (d+1) (t.map (ngR d))).getD d 0 < 0
  ·rw [if_pos hn]
   have z:V (ZAO (d+1) (t.map (ngR d))) d < 0:=hn
   refine ⟨by rw [ZKk]; omega,fun i a=>?_⟩
   have:=b i d a (by omega)
   rw [ZKk,ZKk]
   grind
  ·rw [if_neg hn]
   have z:¬V (ZAO (d+1) (t.map (ngR d))) d < 0:=hn
   refine ⟨by omega,fun i a=>?_⟩
   have:=b i d a (by omega)
   grind
 have hK:∀r∈rows,dot d (V r) (V (ptY d t))≤V r d*V (ptY d t) d:=fun r hr=>by
  have x:=hfea r hr
  have e:dot d (V r) (V (ptY d t))*c d=dot d (V r) c*V (ptY d t) d:=by
   unfold dot;rw [←ZAT,←ZAT]
   refine ZAC fun i a=>?_
   have:=s.2 i (by omega)
   grind
  have A:dot d (V r) (V (ptY d t))*c d≤V r d*V (ptY d t) d*c d:=by
   rw [e];have:=Int.mul_le_mul_of_nonneg_right x (Int.le_of_lt s.1)
   have N:V r d*V (ptY d t) d*c d=V r d*c d*V (ptY d t) d:=by grind
   omega
  exact Int.le_of_mul_le_mul_right A hcd
 refine ⟨ptY d t,?_,s.1,s.2⟩;unfold ptT;rw [if_pos ⟨E,m,(ZK7 hl).2 hK⟩]
theorem ZQm{d:Nat}{rows t:List (List Int)}{y:List Int}(hl:∀r∈rows,r.length=d+1)(h:ptT rows d t=some y):Fea d rows (V y) (V y d):=by
 unfold ptT at h
 split at h
 case isTrue hc=>
  simp only [Zaa9] at h;subst h;refine ⟨?_,(ZK7 hl).1 hc.2.2⟩;have a:=hc.2.1;unfold ptY
  by_cases hn:(ZAO (d+1) (t.map (ngR d))).getD d 0 < 0
  ·rw [if_pos hn,ZKk]
   have b:V (ZAO (d+1) (t.map (ngR d))) d < 0:=hn;omega
  ·rw [if_neg hn]
   have f:V (ZAO (d+1) (t.map (ngR d))) d≠0:=a;have c:¬V (ZAO (d+1) (t.map (ngR d))) d < 0:=hn;omega
 case isFalse=>cases h
theorem ZRe{d:Nat}{rows:List (List Int)}(hl:∀r∈rows,r.length=d+1){x:Nat→Int}{w:Int}(hf:Fea d rows x w){G:Nat→Int}
 (hG:∀v:Nat→Int,(∀r∈rows,dot d (V r) x=V r d*w→dot d (V r) v=0)→dot d G v=0) :
  ∃t y,t.Sublist (ZE8 d rows)∧t.length=d∧ptT rows d t=some y∧0 < V y d∧dot d G (V y)*w=dot d G x*V y d:=by
 obtain ⟨σ,hσ⟩:∃σ:Nat→Int,σ=fun k=>if 0≤x k then 1 else -1:=⟨_,rfl⟩
 have s:∀k,(σ k=1∧0≤x k)∨(σ k=-1∧x k < 0):=fun k=>by
  rw [hσ]
  by_cases h:0≤x k
  ·simp [h]
  ·simp [h]; omega
 obtain ⟨Z,N⟩:∃Z:List (Nat→Int),Z=rows.map (hom d) ++ (List.range d).map fun k=>fun j=>if j=k then-σ k else 0:=⟨_,rfl⟩
 have B:∀r∈rows,hom d r∈Z:=fun r a=>by rw [N]; exact List.mem_append_left _ (List.mem_map.2 ⟨r,a,rfl⟩)
 have L:∀k,k < d→(fun j=>if j=k then-σ k else 0)∈Z:=fun k f=>by rw [N]; exact List.mem_append_right _ (List.mem_map.2 ⟨k,by simpa using f,rfl⟩)
 have g:∀k,k < d→∀c:Nat→Int,dot (d+1) c (fun j=>if j=k then-σ k else 0)=- σ k*c k:=fun k f c=>by
  have:dot (d+1) c (fun j=>if j=k then-σ k else 0)=- σ k*dot (d+1) (ZBf k) c:=by
   unfold dot;rw [←ZAV]
   refine ZAC fun i _=>?_
   unfold ZBf
   by_cases e:i=k
   ·simp only [e,if_true]; grind
   ·simp [e]
  rw [this,ZC1 (by omega)]
 have D:∀z∈Z,(∃r∈rows,z=hom d r)∨∃k,k < d∧z=fun j=>if j=k then-σ k else 0:=fun z hz=>by
  rw [N] at hz
  rcases List.mem_append.1 hz with h | h
  ·obtain ⟨r,a,rfl⟩:=List.mem_map.1 h
   exact .inl ⟨r,a,rfl⟩
  ·obtain ⟨k,f,rfl⟩:=List.mem_map.1 h
   exact .inr ⟨k,by simpa using f,rfl⟩
 have A:∀r∈rows,dot (d+1) (fun k=>if k=d then w else x k) (hom d r)=dot d (V r) x-V r d*w:=fun r _=>by
  rw [ZF7];simp only [if_true]
  congr 1
  exact ZAa (fun _ _=>rfl) fun i m=>by rw [if_neg (by omega)]
 have F:dot d G (fun k=>if k=d then w else x k)=dot d G x:=ZAa (fun _ _=>rfl) fun i m=>by rw [if_neg (by omega)]
 obtain ⟨c,Y,k2,Q,k4⟩:=ZK5 (d:=d) (Z:=Z) (G:=G) (fun v hv ⟨i,m,hne⟩=>⟨_,L i m,by
   rw [g i m]
   rcases s i with ⟨h,_⟩ | ⟨h,_⟩ <;> rw [h] <;> omega⟩) _ (fun k=>if k=d then w else x k) (Za4 _) (fun z hz=>by
   rcases D z hz with ⟨r,a,rfl⟩ | ⟨k,f,rfl⟩
   ·rw [A r a]; have:=hf.2 r a; omega
   ·rw [g k f,if_neg (by omega)]
    rcases s k with ⟨h,hx⟩ | ⟨h,hx⟩ <;> rw [h] <;> omega) (by simp only [if_true]; exact hf.1) (fun v hv hz=>hG v fun r a hrt=>by
   have:=hz _ (B r a) (by rw [A r a,hrt]; omega)
   rw [ZF7,hv] at this;omega)
 rw [F] at Q;simp only [if_true] at Q
 have R:∀r∈rows,dot d (V r) c≤V r d*c d:=fun r a=>by
  have:=Y _ (B r a);rw [ZF7] at this;omega
 have p:∀v:Nat→Int,(∀r∈ZJk d rows c,dot d (V r) v=0)→∀i,i < d→v i=0:=by
  intro v hv i m
  have:=k4 (fun k=>if k=d then 0 else v k) (by simp) (fun z hz h0=>by
   rcases D z hz with ⟨r,a,rfl⟩ | ⟨k,f,rfl⟩
   ·rw [ZF7] at h0 ⊢
    simp only [if_true]
    have E:dot d (V r) (fun k=>if k=d then 0 else v k)=dot d (V r) v:=ZAa (fun _ _=>rfl) fun i m=>by rw [if_neg (by omega)]
    rw [E,hv r (by
     unfold ZJk ZE8;rw [List.mem_filter]
     exact ⟨List.mem_append_left _ a,by simp; omega⟩)]
    omega
   ·rw [g k f] at h0 ⊢
    have J:c k=0:=by
     rcases s k with ⟨h,_⟩ | ⟨h,_⟩ <;> rw [h] at h0 <;> omega
    have T:=hv (axR d k) (by
     unfold ZJk ZE8;rw [List.mem_filter]
     refine ⟨List.mem_append_right _ (List.mem_map.2 ⟨k,by simpa using f,rfl⟩),?_⟩
     rw [decide_eq_true_eq,ZK4 f,ZNT f,J]; omega)
    rw [ZK4 f] at T
    rw [if_neg (by omega),T]; omega) i m
  rw [if_neg (by omega)] at this
  exact this
 have U:=ZA4 d (ZJk d rows c)
 have b:=(ZCi U).2 fun v hv=>p v fun r a=>hv (V r) (ZCF.2 ⟨r,a,rfl⟩)
 rw [ZA1] at b;have n:=ZNU d (ZJk d rows c)
 have o:∀r∈ZAJ d (ZJk d rows c),r.length=d+1∧dot d (V r) c=V r d*c d:=fun r a=>by
  have E:=List.mem_filter.1 (n.subset a)
  refine ⟨?_,by simpa using E.2⟩
  rcases List.mem_append.1 E.1 with h | h
  ·exact hl r h
  ·obtain ⟨k,_,rfl⟩:=List.mem_map.1 h
   exact ZHx d k
 obtain ⟨y,S,P,M⟩:=ZRd hl (fun r a=>(o r a).1) k2 R (fun r a=>(o r a).2) (fun v hv=>ZD6 U.free (by rw [ZA1]; exact b) fun r a=>by
  obtain ⟨l,O,rfl⟩:=ZCF.1 a;exact hv l O)
 refine ⟨_,y,n.trans List.filter_sublist,b,S,P,?_⟩
 have e:dot d G (V y)*c d=dot d G c*V y d:=by
  unfold dot;rw [←ZAT,←ZAT]
  refine ZAC fun i m=>?_
  have:=M i (by omega)
  grind
 have X:c d*(dot d G (V y)*w)=c d*(dot d G x*V y d):=by
  have e1:c d*(dot d G (V y)*w)=(dot d G (V y)*c d)*w:=by grind
  have e2:c d*(dot d G x*V y d)=(dot d G x*c d)*V y d:=by grind
  rw [e1,e2,e,←Q]; grind
 exact Int.eq_of_mul_eq_mul_left (by omega) X
def ZBm(d:Nat)(rows:List (List Int)):Bool:=(ZAN d (ZE8 d rows).length).all fun c=>(ptT rows d (pks (ZE8 d rows) [] c)).isNone
theorem ZJl{k:Nat}{L t:List (List Int)}(hs:t.Sublist L)(hl:t.length=k):∃c∈ZAN k L.length,pks L [] c=t:=by
 have a:=ZCM L [] k 0;rw [List.drop_zero] at a;have b:t∈chz k L:=ZBp.2 ⟨hs,hl⟩;rw [←a] at b;obtain ⟨c,d,f⟩:=List.mem_map.1 b;exact ⟨c,ZJj.2 d,f⟩
theorem ZPX{d:Nat}{rows:List (List Int)}(hl:∀r∈rows,r.length=d+1):ZBm d rows=ZDO d rows:=by
 cases he:ZDO d rows with
 | true=>
  unfold ZBm;rw [List.all_eq_true];intro c _
  cases hp:ptT rows d (pks (ZE8 d rows) [] c) with
  | none=>rfl
  | some y=>
   have:=ZDZ.2 ⟨_,_,ZQm hl hp⟩;rw [he] at this; cases this
 | false=>
  obtain ⟨x,w,g⟩:=ZDZ.1 he
  obtain ⟨t,y,b,i,j,_⟩:=ZRe hl g (G:=fun _=>0) (fun v _=>ZBQ fun _ _=>rfl)
  obtain ⟨c,f,a⟩:=ZJl b i;rw [Bool.eq_false_iff];intro h;unfold ZBm at h;rw [List.all_eq_true] at h;have:=h c f;rw [a,j] at this
  cases this
end Go.Proofs.YtkjkfceblmgogaaGreat
namespace Go.Proofs.YtkjkfceblmgogaaGreat
open Go.RowKit
theorem ZCv{B:Nat}{w:World}{g cap n:Nat}{F:Nat→Value}{l:List Int}(r:w.rowIs g 3 cap F)(hF:∀i,i < n→F i=.int .i64 (l.getD i 0))(hl:l.length=n)(hn:n≤cap)(hc:cap≤9223372036854775807):Sl B 3 w (.slice (some ⟨g,0,none⟩) n cap) (ZAB l):=by
 refine ⟨some ⟨g,0,none⟩,cap,by simp [hl],by simpa [hl] using hn,by unfold maxLen; omega,fun i hi=>?_,fun h=>by cases h⟩
 have a:i < l.length:=by simpa using hi
 refine ⟨g,0,rfl,?_,?_⟩
 ·rw [Nat.zero_add,r.cell (by omega),hF i (by omega),ZAZ _ _ a]
 ·obtain ⟨c,b,_,_⟩:=r
  exact Or.inr ⟨c,b⟩
theorem ZIz{B n:Nat}{e:TypeId}{w:World}{v:Value}{l:List Int}(h:w.ownsRow B e 1 v n (ZAB l))(hn:0 < n):∃g cap F,v=.slice (some ⟨g,0,none⟩) n cap∧B≤g∧w.rowIs g e cap F∧(∀i,i < n→F i=.int .i64 (l.getD i 0))∧n≤cap∧cap≤9223372036854775807:=by
 obtain ⟨d,c⟩:=h
 rcases c with ⟨_,h0⟩ | ⟨g,cap,cur,hu,hg,hh,hnc,hcm,hs,htk⟩
 ·omega
 ·have b:l.length=n:=by simpa [ZAB] using d
  refine ⟨g,cap,fun i=>cur.toList.getD i (.int .i64 0),hu,hg,⟨cur,hh,by omega,fun i hi=>?_⟩,fun i hi=>?_,hnc,by unfold maxLen at hcm; exact hcm⟩
  ·show cur[i]?=some (cur.toList.getD i (.int .i64 0))
   rw [←Array.getElem?_toList,Za2,Za9 (by simp; omega)]; rfl
  ·have a:cur.toList.getD i (.int .i64 0)=(ZAB l).getD i (.int .i64 0):=by
    rw [←htk];simp only [Za2]
    rw [Zaa5 (by omega)]
   show cur.toList.getD i (.int .i64 0)=_
   rw [a]
   simp [ZAB,show i < l.length by omega]
end Go.Proofs.YtkjkfceblmgogaaGreat
namespace Go.Proofs.YtkjkfceblmgogaaGreat
open Go.RowKit Lin
attribute [local go_sem ↓] Go.wp_at_zero Go.wp_at_succ
def Qe(w wr:World):Prop:=∃n,wr=w.drewN n
theorem Qe.refl(w:World):Qe w w:=⟨0,rfl⟩
theorem Qe.drewN{w wr:World}(h:Qe w wr)(k:Nat):Qe w (wr.drewN k):=by
 obtain ⟨n,rfl⟩:=h
 exact ⟨n+k,by rw [World.drewN_drewN]⟩
theorem Qe.below{N:Nat}{w wr:World}(h:Qe w wr):Below N w wr:=by
 obtain ⟨n,rfl⟩:=h
 exact ⟨rfl,rfl,rfl,Za4 _,fun _ _=>rfl⟩
theorem ZK8{B:Nat}{w w':World}{v v':Value}{m m2:List (List Int)}{vs us:List Value}
 (h1:vs.length=m.length)(h2:w.ownsRow B 27 1 v m.length vs)(h3:∀i,i < m.length→Sl B 3 w (vs.getD i (.slice none 0 0)) (ZAB (m.getD i [])))
 (k1:us.length=m2.length)(k3:∀i,i < m2.length→Sl B 3 w (us.getD i (.slice none 0 0)) (ZAB (m2.getD i [])))
 (ho:w'.ownsRow B 27 1 v' (m.length+m2.length) (vs ++ us))(hg:w.grownBy w' v.ownBlock):Rws B 27 3 w' v' (m ++ m2):=by
 have c:∀k,v.ownBlock=some k→B≤k∧∀cur,w.heap[k]?≠some (.cells cur 3 (0,0)):=fun k hk=>⟨(h2.lt k hk).1,(ZAt h2 (by decide) k hk).2⟩
 refine ⟨vs ++ us,by simp [h1,k1],by simpa using ho,fun i hi=>?_⟩
 by_cases hlt:i < m.length
 ·have a:(vs ++ us).getD i (.slice none 0 0)=vs.getD i (.slice none 0 0):=by
   simp only [Za2]; rw [Za7 (by omega)]
  have b:(m ++ m2).getD i []=m.getD i []:=by
   simp only [Za2]; rw [Za7 (by omega)]
  rw [a,b];exact (h3 i hlt).grown hg c
 ·have a:(vs ++ us).getD i (.slice none 0 0)=us.getD (i-m.length) (.slice none 0 0):=by
   simp only [Za2]; rw [Za8 (by omega),h1]
  have b:(m ++ m2).getD i []=m2.getD (i-m.length) []:=by
   simp only [Za2]; rw [Za8 (by omega)]
  rw [a,b]
  exact (k3 _ (by simp at hi; omega)).grown hg c
theorem ZB8{B:Nat}{e:TypeId}{w:World}{a:Addr}{n cap:Nat}{us:List Value}(h:Sl B e w (.slice (some a) n cap) us):∀j u,us[j]?=some u→w.cell? (a.add j)=some u:=by
 intro j u i;have d:j < us.length:=(List.getElem?_eq_some_iff.1 i).1;obtain ⟨p,c,hv,_,_,m,_⟩:=h;obtain ⟨b,o,f,l,_⟩:=m j d;simp only [Za3] at hv;rw [←hv.1] at f;simp only [Zaa9] at f;rw [f];have g:=l.trans i;unfold Addr.add
 by_cases e:j=0
 ·subst e; simpa using g
 ·simpa [e] using g
theorem ZEa{B:Nat}{w:World}{m:List (List Int)}{us:List Value}(k1:us.length=m.length)(k3:∀i,i < m.length→Sl B 3 w (us.getD i (.slice none 0 0)) (ZAB (m.getD i []))):∀u∈us,u.oneCell'=true:=by
 intro u b;obtain ⟨i,c,rfl⟩:=List.getElem_of_mem b
 have h:=k3 i (by omega)
 have e:us.getD i (.slice none 0 0)=us[i]:=by simp [c]
 rw [e] at h;obtain ⟨d,a,hv,_⟩:=ZAI h;rw [hv]; rfl
theorem Sl.takeE{B n c:Nat}{w:World}{ao:Option Addr}{zs:List Int}(h:Sl B 3 w (.slice ao zs.length c) (ZAB zs))(hn:n≤zs.length):Sl B 3 w (.slice ao n c) (ZAB (zs.take n)):=by
 obtain ⟨r,g,hv,j,s,p,l⟩:=h;simp only [Za3] at hv;obtain ⟨rfl,_,rfl⟩:=hv;simp at j
 refine ⟨ao,c,by simp; omega,by simp; omega,by omega,fun i hi=>?_,l⟩
 have a:i < n:=by simp at hi; omega
 obtain ⟨b,o,m,f,d⟩:=p i (by simp; omega)
 refine ⟨b,o,m,?_,d⟩
 rw [f,ZAZ _ _ (by omega),ZAZ _ _ (by simp; omega)]
 simp [a]
def Swe(a x:List Int):Prop:=a.length≤x.length∧a.length≤8∧(∀z∈a,z.natAbs≤1000)∧∀z∈x,z.natAbs≤1000000000000
theorem ZHy{a x:Int}(ha:a.natAbs≤1000)(hx:x.natAbs≤1000000000000):(a*x).natAbs≤1000000000000000:=by
 rw [Int.natAbs_mul]
 exact Zaa8 (Nat.mul_le_mul ha hx) (by decide)
theorem ZF8{a x:List Int}(h:Swe a x):∀k,k≤a.length→(Lin.sumN k fun i=>a.getD i 0*x.getD i 0).natAbs≤k*1000000000000000:=by
 intro k
 induction k with
 | zero=>intro _; simp [Lin.sumN]
 | succ k ih=>
  intro f
  have c:=ih (by omega)
  have d:=h.1
  have b:(a.getD k 0*x.getD k 0).natAbs≤1000000000000000:=ZHy (h.2.2.1 _ (by simp [show k < a.length by omega])) (h.2.2.2 _ (by simp [show k < x.length by omega]))
  have e:(Lin.sumN (k+1) fun i=>a.getD i 0*x.getD i 0)=(Lin.sumN k fun i=>a.getD i 0*x.getD i 0)+a.getD k 0*x.getD k 0:=rfl
  rw [e];omega
theorem ZNV(B:Nat)(a x:List Int)(u v:Value)(w:World)(hu:Sl B 3 w u (ZAB a))(hv:Sl B 3 w v (ZAB x))(hs:Swe a x) :
  Calls Tryz.prog 71 #[u,v] w fun e w'=>e=.returned (.int .i64 (ZC9 a x))∧∃n,w'=w.drewN n:=by
 obtain ⟨ao,Y,r,aa,L⟩:=ZAI hu;obtain ⟨J,m,j,M,X⟩:=ZAI hv;subst r j;have N:=hid hu;have G:Hid (Sl B 3 w (.slice J x.length m) (ZAB x)):=hv;have g:=hid hs;have T:a.length≤x.length:=hs.1;have D:a.length≤8:=hs.2.1;clear hu hv hs;go_enter Tryz.func71,Tryz.ntmps71;go_wp2
 go_loopw [5,6] (fun s i wr=>∃k:Nat,k≤a.length∧i=.int .i64 k∧s=.int .i64 (Lin.sumN k fun i=>a.getD i 0*x.getD i 0)∧∃n,wr=w.drewN n) (fun _ i _=>a.length-(intOf i).toNat)
 case atStart=>exact ⟨0,Za5 _,rfl,rfl,0,rfl⟩
 case round=>
  obtain ⟨k,E,rfl,rfl,n,rfl⟩:=hrel
  by_cases hlt:k < a.length
  ·have c:k < x.length:=by omega
   obtain ⟨b,o,cp,hs,Q,U⟩:=ZAK N.out hlt;simp only [Za3] at hs;obtain ⟨rfl,_,rfl⟩:=hs;obtain ⟨b2,o2,O,f,R,A⟩:=ZAK G.out c;simp only [Za3] at f;obtain ⟨rfl,_,rfl⟩:=f;have F:=ZF8 g.out k E
   have t:=ZF8 g.out (k+1) (by omega)
   have h3:(a.getD k 0*x.getD k 0).natAbs≤1000000000000000:=ZHy (g.out.2.2.1 _ (by simp [hlt])) (g.out.2.2.2 _ (by simp [c]))
   have d:Hid ((Lin.sumN (k+1) fun i=>a.getD i 0*x.getD i 0)=(Lin.sumN k fun i=>a.getD i 0*x.getD i 0)+a.getD k 0*x.getD k 0):=rfl
   rw [d.out] at t
   generalize (Lin.sumN k fun i=>a.getD i 0*x.getD i 0)=S at *
   generalize a.getD k 0=p at *;generalize x.getD k 0=q at *
   have V:wrap64 (S+wrap64 (p*q))=S+p*q:=by
    rw [IntWalk.wrap64_in (p*q) ⟨by omega,by omega⟩,IntWalk.wrap64_in _ ⟨by omega,by omega⟩]
   have P:(k:Int) < (a.length:Int):=by omega
   have y:(k:Int) < (x.length:Int):=by omega
   have z:(0:Int)≤(k:Int):=by omega
   clear F t h3;go_wp2
   go_quiet (fail)
   go_wp2
   go_roundw
   case rel=>exact ⟨k+1,by omega,by go_num,by rw [d.out,V],_,rfl⟩
   case measure=>simp [intOf]; omega
  ·have l:k=a.length:=by omega
   subst l;go_wp2;go_ret;exact ⟨rfl,n,rfl⟩
theorem ZGx(P:List (List Int))(x:List Int)(k:Nat)(h:k < x.length):pks P [] (x.take (k+1))=pks P [] (x.take k) ++ [P.getD (x.getD k 0).toNat []]:=by
 have e:x.getD k 0=x[k]:=by simp [h]
 rw [Zaa1 h,e];unfold pks;rw [List.map_append];rfl
theorem ZK9{P:List (List Int)}{c:List Int}(h:∀q∈c,0≤q∧q < (P.length:Int)):∀x∈pks P [] c,x∈P:=by
 intro x a;obtain ⟨q,b,rfl⟩:=List.mem_map.1 a;obtain ⟨f,d⟩:=h q b
 simp [show q.toNat < P.length by omega]
theorem ZOf{d:Nat}{t:List (List Int)}(h:∀r∈t,r.length=d+1∧∀z∈r,z.natAbs≤30)(h3:d≤4):Mx (d+1) 60 (t.map (ngR d)):=by
 refine ⟨fun r hr=>?_,fun r hr z hz=>?_,by omega,by omega,by decide,Zaa8 (ZAz (by decide) (show d+1≤5 by omega)) (by decide)⟩
 ·obtain ⟨y,b,rfl⟩:=List.mem_map.1 hr
  exact ZEY (h y b).1
 ·obtain ⟨y,b,rfl⟩:=List.mem_map.1 hr
  have c:=(h y b).1;have a:=(h y b).2;unfold ngR at hz
  rcases List.mem_append.1 hz with h1 | h1
  ·have:=a z (Zaa7 h1); omega
  ·simp only [List.mem_singleton] at h1
   have:=a (y.getD d 0) (ZAj (by omega))
   omega
theorem ZI0{d:Nat}{t:List (List Int)}(h:ZAp (d+1) (t.map (ngR d))=true):(ptY d t).length=d+1:=by
 unfold ptY
 split
 ·rw [Zab1,ZAy h]
 ·exact ZAy h
theorem ZLA{d:Nat}{t:List (List Int)}(hx:Mx (d+1) 60 (t.map (ngR d))):∀z∈ptY d t,z.natAbs≤1000000000000:=by
 intro z a;unfold ptY at a
 split at a
 ·obtain ⟨y,b,rfl⟩:=List.mem_map.1 a
  have:=ZCn hx y b; omega
 ·exact ZCn hx z a
theorem ZBW(d:Nat):(ZF6 d).length=d:=by simp [ZF6]
theorem ZLB(d:Nat)(rows:List (List Int)):(ZE8 d rows).length=rows.length+d:=by simp [ZE8,ZF6]
theorem ZLC(d k:Nat):∀z∈axR d k,z.natAbs≤30:=fun z hz=>by
 simp only [axR,List.mem_map] at hz;obtain ⟨j,_,rfl⟩:=hz
 split <;> decide
theorem ZPY{d:Nat}{rows:List (List Int)}(h:∀r∈rows,r.length=d+1∧∀z∈r,z.natAbs≤20):∀r∈ZE8 d rows,r.length=d+1∧∀z∈r,z.natAbs≤30:=fun r hr=>by
 rcases List.mem_append.1 hr with h1 | h1
 ·exact ⟨(h r h1).1,fun z hz=>by have:=(h r h1).2 z hz; omega⟩
 ·simp only [ZF6,List.mem_map] at h1
  obtain ⟨k,_,rfl⟩:=h1;exact ⟨ZHx d k,ZLC d k⟩
theorem ZQn{w:World}{d k:Nat}(hk:k < d+1)(hd:d≤100){o:Obj}(ho:o=.cells ((madeCells #[.int .i64 0] (d+1)).setIfInBounds k (.int .i64 1)) 3):Sl 0 3 (w.alloc o) (.slice (some ⟨w.heap.size,0,none⟩) (d+1) (d+1)) (ZAB (axR d k)):=by
 subst ho;have b:=ZAL w (.cells ((madeCells #[.int .i64 0] (d+1)).setIfInBounds k (.int .i64 1)) 3)
 have a:(w.alloc (.cells ((madeCells #[.int .i64 0] (d+1)).setIfInBounds k (.int .i64 1)) 3)).rowIs w.heap.size 3 (d+1) (fun j=>if j=k then .int .i64 1 else .int .i64 0):=by
  refine ⟨_,b,?_,fun i hi=>?_⟩
  ·simp only [Array.size_setIfInBounds]
   rw [←Array.length_toList,toList_madeCells_one]; simp
  ·rw [Array.getElem?_setIfInBounds]
   by_cases e:k=i
   ·subst e
    have c:k < (madeCells #[.int .i64 0] (d+1)).size:=by rw [←Array.length_toList,toList_madeCells_one]; simpa using hk
    simp [c]
   ·rw [if_neg e,←Array.getElem?_toList,toList_madeCells_one]
    simp [hi,show ¬i=k from fun h=>e h.symm]
 refine Sl.row' a (by unfold maxLen; omega) (by simp [axR]) (fun i hi=>?_)
 rw [ZAZ _ _ (by rw [ZHx]; exact hi)]
 by_cases e:i=k
 ·subst e; simp [axR,hi]
 ·simp [axR,hi,e]
theorem ZCw{B:Nat}{w:World}{v:Value}{m:List (List Int)}(h:Fr B 27 3 w v m):Mat 0 27 3 w v m:=by
 obtain ⟨a,b,c,d⟩:=h;exact ⟨a,b,Sl.own c,d⟩
def RwE(d:Nat)(rows:List (List Int)):Prop:=∀r∈rows,r.length=d+1∧∀z∈r,z.natAbs≤20
theorem ZNW{d k:Nat}(h:k < d):(ZF6 d).take (k+1)=(ZF6 d).take k ++ [axR d k]:=by
 have a:k < (ZF6 d).length:=by rw [ZBW]; exact h
 rw [Zaa1 a];simp [ZF6]
theorem ZLD(d:Nat)(R:List (List Int))(v:Value)(w:World){B0:Nat}(hv0:Mat B0 27 3 w v R)(hd1:1≤d)(hd:d≤4)(hR:R.length≤13)(hx:RwE d R) :
  Calls Tryz.prog 42 #[v,.int .i64 d] w fun e w'=>e=.returned (.bool (ZBm d R))∧Below w.heap.size w w':=by
 have hv:Mat w.heap.size 27 3 w v R:=hv0.any (Za4 _);clear hv0;obtain ⟨i0,l,bz,bw,bv⟩:=info_parts Tryz.info27;obtain ⟨ro,cR,dP,fq,_⟩:=ZAD hv
 obtain ⟨nr,dc⟩:∃nr,nr=R.length:=⟨_,rfl⟩
 rw [←dc] at dP hR fq;subst dP;have G:=hid dc
 have dH:Hid (∀W',Below w.heap.size w W'→Mat w.heap.size 27 3 W' (.slice ro nr cR) R):=fun W' hB=>hv.below hB (Za4 _)
 have dB:Hid (∀r∈R,r.length=d+1∧∀z∈r,z.natAbs≤30):=fun r hr=>⟨(hx r hr).1,fun z hz=>by have:=(hx r hr).2 z hz; omega⟩
 have au:Hid (∀r∈ZE8 d R,r.length=d+1∧∀z∈r,z.natAbs≤30):=ZPY hx
 have fz:=run_make_row' (P:=Tryz.prog) 27 3 (.int .i64 0) 8 Tryz.underlying27 Tryz.info3 rfl .i64 .i64 (d+1) (by omega) (by omega)
 rw [show (((d+1:Nat):Int))=(d:Int)+1 by omega] at fz
 clear hv hx dc;go_enter Tryz.func42,Tryz.ntmps42;go_wp2
 go_loopw [5,6] (fun x i wr=>∃k:Nat,k≤d∧i=.int .i64 k∧Fr w.heap.size 27 3 wr x ((ZF6 d).take k)∧Below w.heap.size w wr) (fun _ i _=>d-(intOf i).toNat)
 case atStart=>exact ⟨0,Za5 _,rfl,Fr.nil _ _ _ _,Below.refl _ _⟩
 case round=>
  obtain ⟨k,hk,rfl,aI,a⟩:=hrel;have HF:=hid aI;have HB:=hid a;have bq:w.heap.size≤wr.heap.size:=a.size;clear aI a
  by_cases hlt:k < d
  ·have dM:(k:Int) < (d:Int):=by omega
   have cW:(0:Int)≤(k:Int):=by omega
   have fI:(k:Int) < (d:Int)+1:=by omega
   have aw:Hid ((ZF6 d).take (k+1)=(ZF6 d).take k ++ [axR d k]):=ZNW hlt
   have B:Hid (((ZF6 d).take k).length=k):=by show _=_; rw [List.length_take,ZBW]; omega
   have fB:(madeCells #[.int .i64 0] (d+1))[k]?=some (.int .i64 0):=by
    rw [←Array.getElem?_toList,toList_madeCells_one,List.getElem?_replicate,if_pos (by omega)]
   obtain ⟨W3,ar⟩:∃W3,W3=wr.alloc (.cells ((madeCells #[.int .i64 0] (d+1)).setIfInBounds k (.int .i64 1)) 3):=⟨_,rfl⟩
   have aW:Hid (Sl 0 3 W3 (.slice (some ⟨wr.heap.size,0,none⟩) (d+1) (d+1)) (ZAB (axR d k))):=by rw [ar]; exact ZQn (by omega) (by omega) rfl
   have f:Hid (Below wr.heap.size wr W3):=by rw [ar]; exact ZAG _ _
   go_upto_region 7 with fail
   rw [←ar];clear ar fB;obtain ⟨vs,g1,g2,g3⟩:=HF.out.below f.out (Za4 _);rw [B.out] at g1 g2 g3;have G1:=hid g1;have G2:=hid g2;have G3:=hid g3;have aM:w.heap.size≤W3.heap.size:=Zaa8 bq f.out.size;have dV:Hid (Below w.heap.size w W3):=HB.out.trans (f.out.mono bq);clear g1 g2 g3
   go_wp2_with (first | (at_builtin; refine wpList_append_own _ rfl _ _ 22 rfl w.heap.size 27 i0 (.slice none 0 0) 1 24 Tryz.underlying22 l bz bw bv rfl (by decide) _ _ _ rfl (G2.out.alloc _) ⟨W3.heap.size,0,none⟩ 1 1 [.slice (some ⟨wr.heap.size,0,none⟩) (d+1) (d+1)] rfl rfl (ZAS _ _ _) (ZAM _ _ _) ?d3 ?d4 ?d5 ?_))
   case d3=>unfold maxLen; omega
   case d4=>omega
   case d5=>simp; omega
   intro v' w4 ho hg _
   have R1:Hid (Fr w.heap.size 27 3 w4 v' ((ZF6 d).take (k+1))):=by
    have hp:=Fr.push (e2:=27) (e1:=3) (m:=(ZF6 d).take k) (u:=.slice (some ⟨wr.heap.size,0,none⟩) (d+1) (d+1)) (zs:=axR d k) (by decide) (by rw [B.out]; exact G1.out) (by rw [B.out]; exact G2.out.alloc _)
     (fun i l=>(G3.out i (by rw [B.out] at l; exact l)).alloc _) (aW.out.alloc _) (by rw [B.out]; exact ho) hg
    rw [←aw.out] at hp;exact hp
   have R2:Hid (Below w.heap.size w w4):=(dV.out.alloc aM _).grown hg (by simp; omega) (fun x hx=>(G2.out.lt x hx).1)
   clear ho hg;go_wp2
   go_roundw
   case rel=>exact ⟨k+1,by omega,by go_num,R1.out,R2.out⟩
   case measure=>simp [intOf]; omega
  ·obtain rfl:d=k:=by omega
   have dO:=HF.out
   rw [Zaa2 (by rw [ZBW]; exact Za4 _)] at dO
   obtain ⟨aR,f1,f2,f3⟩:=dO;rw [ZBW] at f1 f2 f3;obtain ⟨fo,fc,dZ⟩:=ZAE f2;have dq:Sl 0 27 wr u5 aR:=Sl.own f2;subst dZ
   obtain ⟨fa,rfl⟩:∃fa,fo=some fa:=by
    obtain ⟨b,o,cp,dI,_⟩:=dq.at (by omega)
    simp only [Za3] at dI;exact ⟨_,dI.1⟩
   obtain ⟨bi,r1,r2,r3⟩:=dH.out wr HB.out;rw [←G.out] at r1 r3;have F1:=hid f1
   have F3:Hid (∀W',Below wr.heap.size wr W'→Sl 0 27 W' (.slice (some fa) d fc) aR∧∀i,i < d→Sl w.heap.size 3 W' (aR.getD i (.slice none 0 0)) (ZAB ((ZF6 d).getD i []))):=fun W' hB=>⟨dq.below hB (Za4 _),fun i l=>((f3 i l).below hB (Za4 _)).more (Za5 _)⟩
   have R1:=hid r1
   have R3:Hid (∀W',Below wr.heap.size wr W'→Sl w.heap.size 27 W' (.slice ro nr cR) bi∧∀i,i < nr→Sl w.heap.size 3 W' (bi.getD i (.slice none 0 0)) (ZAB (R.getD i []))):=fun W' hB=>⟨r2.below hB (Za4 _),fun i l=>(r3 i l).below hB (Za4 _)⟩
   have bP:Hid ((wr.alloc (.cells #[] 27)).ownsRow w.heap.size 27 1 (.slice (some ⟨wr.heap.size,0,none⟩) 0 0) 0 []):=ZCL wr w.heap.size bq;have cE:Hid (Below wr.heap.size wr (wr.alloc (.cells #[] 27))):=ZAG _ _;clear f1 f2 f3 dq r1 r3 HF
   have bB:Hid (∀u∈bi,u.oneCell'=true):=ZEa (m:=R) (by rw [R1.out,G.out]) (fun i l=>(R3.out wr (Below.refl _ _)).2 i (by rw [G.out]; exact l))
   have aC:Hid (∀u∈aR,u.oneCell'=true):=ZEa (m:=ZF6 d) (by rw [F1.out,ZBW]) (fun i l=>(F3.out wr (Below.refl _ _)).2 i (by rw [ZBW] at l; exact l))
   have cO:w.heap.size≤(wr.alloc (.cells #[] 27)).heap.size:=by rw [size_alloc]; omega
   cases ro with
   | none=>
    obtain ⟨fD,fj,hv0⟩:nr=0∧cR=0∧bi=[]:=by
     obtain ⟨ao,cp,he,_,_,h3,h4⟩:=r2;simp only [Za3] at he
     have dW:bi.length=0:=by
      apply Za6
      intro fK
      obtain ⟨b,o,ha,_⟩:=h3 0 (by omega)
      rw [←he.1] at ha; cases ha
     exact ⟨by omega,by rw [he.2.2]; exact h4 he.1.symm,List.eq_nil_of_length_eq_zero dW⟩
    subst fD fj hv0;clear r2
    obtain ⟨V,bS⟩:∃V,V=wr.alloc (.cells #[] 27):=⟨_,rfl⟩
    have aD:Hid (V.ownsRow w.heap.size 27 1 (.slice (some ⟨wr.heap.size,0,none⟩) 0 0) 0 ([]:List Value)):=by rw [bS]; exact bP.out
    have f:Hid (Below wr.heap.size wr V):=by rw [bS]; exact cE.out
    have aN:Hid (w.heap.size≤V.heap.size):=Zaa8 bq f.out.size;have bW:=ZB8 (F3.out _ f.out).1;have aQ:=hid bW;clear bW;have bR:=aD.out;have bA:=aQ.out;rw [bS] at bR bA
    go_wp2_with (first | (at_builtin; refine wpList_append_own_none rfl _ _ 22 rfl w.heap.size 27 i0 1 Tryz.underlying22 l _ _ _ rfl bP.out rfl ?_) | (at_builtin; refine wpList_append_own _ rfl _ _ 22 rfl w.heap.size 27 i0 (.slice none 0 0) 1 24 Tryz.underlying22 l bz bw bv rfl (by decide) _ _ _ rfl bR fa d fc aR rfl ?d0 bA aC.out ?d3 ?d4 ?d5 ?_))
    case d0=>rw [F1.out]; omega
    case d3=>unfold maxLen; omega
    case d4=>omega
    case d5=>first | exact aN.out | exact cO
    intro v2 Q ho hg _;rw [←bS] at hg
    have ho:Q.ownsRow w.heap.size 27 1 v2 (0+d) ([] ++ aR):=by rw [Nat.zero_add]; exact ho
    clear bR bA bS
    have cF:Hid (Rws w.heap.size 27 3 Q v2 (ZE8 d R)):=by
     refine ZK8 (by rw [R1.out,G.out]) (by rw [←G.out]; exact aD.out) (fun i l=>(R3.out V f.out).2 i (by rw [G.out]; exact l)) (by rw [F1.out,ZBW]) (fun i l=>(F3.out V f.out).2 i (by rw [ZBW] at l; exact l)) ?_ hg
     rw [←G.out,ZBW]; exact ho
    have bM:Hid (Below w.heap.size w Q):=(HB.out.trans (f.out.mono bq)).grown hg aN.out (fun k hk=>(aD.out.lt k hk).1)
    obtain ⟨ao,ac,bK⟩:=ZAE ho
    obtain ⟨n,hn⟩:∃n,n=0+d:=⟨_,rfl⟩
    rw [←hn] at bK;subst bK
    have HN:Hid (n=(ZE8 d R).length):=by show _=_; rw [ZLB,←G.out]; exact hn
    have dF:n≤17:=by omega
    have fi:1≤n:=by omega
    have cP:Hid (∀W',Below Q.heap.size Q W'→Mat w.heap.size 27 3 W' (.slice ao n ac) (ZE8 d R)):=fun W' hB=>(cF.out.mat (Za4 _)).below hB (Za4 _)
    have aE:Hid (ZBm d R=(ZAN d n).all fun c=>(ptT R d (pks (ZE8 d R) [] c)).isNone):=by show _=_; unfold ZBm; rw [←HN.out]
    clear ho hg hn aD f F3 R3 bP cE cF aQ bB aC
    obtain ⟨A,hA⟩:∃A,A=ZE8 d R:=⟨_,rfl⟩
    rw [←hA] at cP HN aE au;clear hA
    go_wp2_with fail
    refine (ZDT d (by omega) n Q (by omega)).mono ?_
    rintro e J ⟨cv,rfl,bp,aa⟩;have bJ:=hid bp;have aP:=hid aa;have cq:Hid (Below w.heap.size w J):=bM.out.trans (aa.mono bM.out.size);obtain ⟨co,cc,dy,bT,dN⟩:=ZAD (ZCw bp);subst dy
    have cY:Hid ((ZAN d n).length≤16777216):=Zaa8 (ZBr d n (by omega)) (Zaa8 (Nat.pow_le_pow_right (by decide) (show d≤4 by omega)) (by decide))
    have cQ:Hid (∀c∈ZAN d n,c.length=d∧∀i,i < d→0≤c.getD i 0∧c.getD i 0 < (n:Int)):=fun c h=>⟨ZBC d n c h,(ZBs d n c h).1⟩
    clear bp aa
    obtain ⟨C,hC⟩:∃C,C=ZAN d n:=⟨_,rfl⟩
    rw [←hC] at bJ cY cQ bT aE ⊢;clear hC;go_wp2
    go_loopw [10] (fun i wr=>∃k:Nat,k≤C.length∧i=.int .i64 k∧(∀q,q < k→ptT R d (pks A [] (C.getD q []))=none)∧Below J.heap.size J wr) (fun i _=>C.length-(intOf i).toNat)
    case atStart=>exact ⟨0,Za5 _,rfl,fun q hq=>by omega,Below.refl _ _⟩
    case round=>
     obtain ⟨k,hk,rfl,cj, a⟩:=hrel
     rename World=>wa
     have HB:=hid a;have bg:Hid (Below w.heap.size w wa):=cq.out.trans (a.mono cq.out.size);have M:Hid (Below Q.heap.size Q wa):=aP.out.trans (a.mono aP.out.size);have O:J.heap.size≤wa.heap.size:=a.size;clear a;have cr:=hid cj;clear cj
     by_cases hlt:k < C.length
     ·obtain ⟨b2,o2,fy,r1,hs,fd,L,aZ⟩:=ZAP (ZCw bJ.out) hlt
      simp only [Za3,true_and] at hs;obtain ⟨rfl,rfl⟩:=hs
      have ag:C.getD k []∈C:=by simp [hlt]
      obtain ⟨aY,cL⟩:=cQ.out _ ag;obtain ⟨so,sc,cg,_,_⟩:=ZAI aZ;rw [aY] at cg;subst cg
      have bh:Hid (ptT R d (pks A [] (C.getD k []))=none→∀q,q < k+1→ptT R d (pks A [] (C.getD q []))=none):=fun h q hq=>by
       by_cases e:q=k
       ·rw [e]; exact h
       ·exact cr.out q (by omega)
      have bU:Hid (ptT R d (pks A [] (C.getD k []))≠none→ZBm d R=false):=fun h=>by
       rw [aE.out,List.all_eq_false];refine ⟨C.getD k [],ag,?_⟩
       cases hp:ptT R d (pks A [] (C.getD k [])) with
       | none=>exact absurd hp h
       | some y=>simp
      generalize C.getD k []=c at *
      have de:Hid (∀W,Below J.heap.size J W→W.cell? ⟨b2,o2+k,none⟩=some (.slice so d sc)):=fun W h=>(h.cell (ZAH L)).trans L
      have cZ:Hid (∀W,Below J.heap.size J W→Sl 0 3 W (.slice so d sc) (ZAB c)):=fun W h=>aZ.below h (Za4 _)
      have cH:=hid cL;have S:=hid aY;clear aZ L cL aY ag
      have dM:(k:Int) < (C.length:Int):=by omega
      have cW:(0:Int)≤(k:Int):=by omega
      go_wp2
      go_loopw [11,12] (fun x i wq=>∃j:Nat,j≤d∧i=.int .i64 j∧Rws wa.heap.size 27 3 wq x ((pks A [] (c.take j)).map (ngR d))∧Below wa.heap.size wa wq) (fun _ i _=>d-(intOf i).toNat)
      case atStart=>exact ⟨0,Za5 _,rfl,Rws.nil _ _ _ _,Below.refl _ _⟩
      case round=>
       obtain ⟨j,hj,rfl,aI,a⟩:=hrel;have bj:=hid aI;have aB:=hid a;have aK:Hid (Below J.heap.size J wr):=HB.out.trans (a.mono O);have bI:Hid (Below Q.heap.size Q wr):=M.out.trans (a.mono M.out.size);clear aI a
       by_cases s:j < d
       ·have aw:Hid ((pks A [] (c.take (j+1))).map (ngR d)=(pks A [] (c.take j)).map (ngR d) ++ [ngR d (A.getD (c.getD j 0).toNat [])]):=by
         show _=_
         rw [ZGx A c j (by rw [S.out]; exact s),List.map_append]
         rfl
        have B:Hid (((pks A [] (c.take j)).map (ngR d)).length=j):=by show _=_; have:=S.out; simp [pks]; omega
        obtain ⟨b3,o3,fs,bO,dj,bN⟩:=ZAK (cZ.out wr aK.out) (k:=j) (by rw [S.out]; exact s)
        simp only [Za3] at bO;obtain ⟨rfl,da,rfl⟩:=bO;clear da;have dA:=de.out wr aK.out;obtain ⟨ae,dh⟩:=cH.out j s
        obtain ⟨q,hq⟩:∃q:Nat,c.getD j 0=(q:Int):=⟨(c.getD j 0).toNat,by omega⟩
        rw [hq] at bN ae dh aw
        rw [show ((q:Int)).toNat=q by omega] at aw
        clear hq
        have aV:q < A.length:=by rw [←HN.out]; omega
        have dY:q < n:=by omega
        obtain ⟨b4,o4,dG,r2,am,_,cV,aT⟩:=ZAP (cP.out wr bI.out) aV;rw [←HN.out] at am;simp only [Za3,true_and] at am;obtain ⟨rfl,rfl⟩:=am
        have E:=au.out (A.getD q []) (by simp [aV])
        obtain ⟨yo,yc,bH,_,_⟩:=ZAI aT;rw [E.1] at bH;subst bH;have dl:Hid (Sl wr.heap.size 3 wr (.slice yo (d+1) yc) (ZAB (A.getD q []))):=aT.any (Za4 _)
        have an:Hid ((A.getD q []).length=d+1∧((A.getD q []).getD d 0).natAbs≤30):=⟨E.1,E.2 ((A.getD q []).getD d 0) (ZAj (by rw [E.1]; omega))⟩
        clear aT E;generalize A.getD q []=y at *;clear dj aV;have aO:wa.heap.size≤wr.heap.size:=aB.out.size
        have dJ:(j:Int) < (d:Int):=by omega
        have cU:(0:Int)≤(j:Int):=by omega
        have dU:(q:Int) < (n:Int):=by omega
        have dK:(0:Int)≤(q:Int):=by omega
        go_wp2_with fail
        refine (ZBj wr.heap.size y _ wr dl.out (by rw [an.out.1]; omega)).mono ?_
        rintro e V ⟨u,rfl,aU,bF⟩;rw [an.out.1] at aU
        obtain ⟨g,gc,F,hu,hg,N,hF,dz,dr⟩:=ZIz aU (by omega)
        subst hu
        have ca:=N.cell (i:=d) (by omega)
        have cf:=N.frozen d
        rw [hF d (by omega)] at ca
        have ff:=an.out.2
        have aL:Hid ((V.setCell ⟨g,d,none⟩ (.int .i64 (-(y.getD d 0)))).rowIs g 3 gc (fun i=>if i=d then .int .i64 (-(y.getD d 0)) else F i)):=N.set d _
        have aW:Hid (∀Z,Sl Z 3 (V.setCell ⟨g,d,none⟩ (.int .i64 (-(y.getD d 0)))) (.slice (some ⟨g,0,none⟩) (d+1) gc) (ZAB (ngR d y))):=fun Z=>ZCv aL.out (fun i l=>by
         show (if i=d then Value.int .i64 (-(y.getD d 0)) else F i)=_
         rw [ZEZ an.out.1 l]
         by_cases e:i=d
         ·rw [if_pos e,if_pos e]
         ·rw [if_neg e,if_neg e,hF i l]) (ZEY an.out.1) dz dr
        have f:Hid (Below wr.heap.size wr (V.setCell ⟨g,d,none⟩ (.int .i64 (-(y.getD d 0))))):=((Touch.refl _ _).setCell d _).below bF hg;generalize y.getD d 0=z at *
        have fC:wrap64 (-z)=-z:=IntWalk.wrap64_in _ ⟨by omega,by omega⟩
        have dw:(d:Int) < (d:Int)+1:=by omega
        have bE:(0:Int)≤(d:Int):=by omega
        clear N hF aU bF
        go_upto_region 19 with fail
        obtain ⟨W3,ar⟩:∃W3,W3=V.setCell ⟨g,d,none⟩ (.int .i64 (-z)):=⟨_,rfl⟩
        rw [←ar] at aW f ⊢;clear ar aL ca cf;obtain ⟨vs,g1,g2,g3⟩:=bj.out.below f.out (Za4 _);have aJ:=B.out;rw [aJ] at g1 g2 g3;have G1:=hid g1;have G2:=hid g2;have G3:=hid g3;have aM:wa.heap.size≤W3.heap.size:=Zaa8 aO f.out.size;have bV:Hid (Below wa.heap.size wa W3):=aB.out.trans (f.out.mono aO);clear g1 g2 g3 aJ
        go_wp2_with (first | (at_builtin; refine wpList_append_own _ rfl _ _ 22 rfl wa.heap.size 27 i0 (.slice none 0 0) 1 24 Tryz.underlying22 l bz bw bv rfl (by decide) _ _ _ rfl (G2.out.alloc _) ⟨W3.heap.size,0,none⟩ 1 1 [.slice (some ⟨g,0,none⟩) (d+1) gc] rfl rfl (ZAS _ _ _) (ZAM _ _ _) ?d3 ?d4 ?d5 ?_))
        case d3=>unfold maxLen; omega
        case d4=>omega
        case d5=>simp; omega
        intro v' w4 ho bl _
        have R1:Hid (Rws wa.heap.size 27 3 w4 v' ((pks A [] (c.take (j+1))).map (ngR d))):=by
         have hp:=Rws.push (e2:=27) (e1:=3) (m:=(pks A [] (c.take j)).map (ngR d)) (u:=.slice (some ⟨g,0,none⟩) (d+1) gc) (zs:=ngR d y) (by decide) (by rw [B.out]; exact G1.out) (by rw [B.out]; exact G2.out.alloc _)
          (fun i l=>(G3.out i (by rw [B.out] at l; exact l)).alloc _) ((aW.out _).alloc _) (by rw [B.out]; exact ho) bl
         rw [←aw.out] at hp;exact hp
        have R2:Hid (Below wa.heap.size wa w4):=(bV.out.alloc aM _).grown bl (by simp; omega) (fun x hx=>(G2.out.lt x hx).1)
        clear ho bl;go_wp2
        go_roundw
        case rel=>exact ⟨j+1,by omega,by go_num,R1.out,R2.out⟩
        case measure=>simp [intOf]; omega
       ·obtain rfl:d=j:=by omega
        have HT:Hid (Rws wa.heap.size 27 3 wr u11 ((pks A [] c).map (ngR d))):=by
         have:=bj.out
         rw [Zaa2 (by rw [S.out]; exact Za4 _)] at this
         exact this
        clear bj hj s
        have cG:Hid ((pks A [] c).length=d):=by show _=_; rw [←S.out]; simp [pks]
        have dg:Hid (∀x∈pks A [] c,x∈A):=ZK9 fun q hq=>by
         obtain ⟨i,l,rfl⟩:=List.mem_iff_getElem.1 hq
         have:=cH.out i (by rw [←S.out]; exact l)
         rw [←HN.out]
         simpa [l] using this
        generalize pks A [] c=t at *
        have bt:Hid (Mx (d+1) 60 (t.map (ngR d))):=ZOf (fun x hx=>au.out x (dg.out x hx)) hd
        go_wp2_with fail
        refine (ZEH (d+1) 60 wa.heap.size (t.map (ngR d)) u11 wr bt.out (HT.out.mat (Za4 _)) (by rw [Zab1,cG.out]; omega) (by rw [Zab1,cG.out]; omega)).mono ?_
        rintro e W5 ⟨nv,rfl,bG,cD⟩;have aF:=hid bG;have ah:Hid (Below wa.heap.size wa W5):=aB.out.trans (cD.mono aB.out.size);clear bG cD
        cases hnb:ZAp (d+1) (t.map (ngR d))
        case false=>
         have ai:Hid (ptT R d t=none):=by show _=_; unfold ptT; rw [hnb]; simp
         have aj:Hid (Below J.heap.size J W5):=HB.out.trans (ah.out.mono O)
         have af:Hid (∀q,q < k+1→ptT R d (pks A [] (C.getD q []))=none):=bh.out ai.out
         clear hnb;go_wp2
         go_roundw
         case rel=>exact ⟨k+1,hlt,by go_num,af.out, aj.out⟩
         case measure=>simp [intOf]; omega
        case true=>
         have dX:=hid hnb
         obtain ⟨nb,no,nc,cJ,fE,cN⟩:=ZAK aF.out (k:=d) (by rw [ZAy hnb]; omega)
         rw [ZAy hnb] at cJ;subst cJ
         have ay:Hid (ptY d t=if (ZAO (d+1) (t.map (ngR d))).getD d 0 < 0 then (ZAO (d+1) (t.map (ngR d))).map (fun z=>-z) else ZAO (d+1) (t.map (ngR d))):=rfl
         have T:Hid ((ptY d t).length=d+1∧∀z∈ptY d t,z.natAbs≤1000000000000):=⟨ZI0 hnb,ZLA bt.out⟩
         have bZ:Hid ((ZAO (d+1) (t.map (ngR d))).length=d+1∧∀z∈ZAO (d+1) (t.map (ngR d)),z.natAbs≤1000000000000):=⟨ZAy hnb,ZCn bt.out⟩
         have bQ:Hid ((ZAO (d+1) (t.map (ngR d))).getD d 0≠0→ptT R d t=if ptK R d (ptY d t)=true then some (ptY d t) else none):=fun h0=>by
          unfold ptT
          by_cases hk:ptK R d (ptY d t)=true
          ·rw [if_pos ⟨hnb,h0,hk⟩,if_pos hk]
          ·rw [if_neg (fun h=>hk h.2.2),if_neg hk]
         have aH:Hid ((ZAO (d+1) (t.map (ngR d))).getD d 0=0→ptT R d t=none):=fun h0=>by
          unfold ptT
          rw [if_neg (fun h=>h.2.1 h0)]
         clear hnb;generalize ZAO (d+1) (t.map (ngR d))=X at *;generalize ptY d t=Y at *;generalize X.getD d 0=xd at *
         have dw:(d:Int) < (d:Int)+1:=by omega
         have bE:(0:Int)≤(d:Int):=by omega
         by_cases ae:xd=0
         ·subst ae
          have ai:Hid (ptT R d t=none):=aH.out rfl;have aj:Hid (Below J.heap.size J W5):=HB.out.trans (ah.out.mono O)
          have af:Hid (∀q,q < k+1→ptT R d (pks A [] (C.getD q []))=none):=bh.out ai.out
          go_wp2
          go_roundw
          case rel=>exact ⟨k+1,hlt,by go_num,af.out, aj.out⟩
          case measure=>simp [intOf]; omega
         ·have bD:=bQ.out ae
          have ck:=hid bD
          have fw:(xd == 0)=false:=by simp [ae]
          clear bD bQ aH
          by_cases hxn:xd < 0
          case' pos=>
           have aq:Hid (Y=X.map fun z=>-z):=by rw [if_pos hxn] at ay; exact ay
           have cI:decide (xd < 0)=true:=by simp [hxn]
           go_wp2_with fail
           refine (ZBq 0 X _ W5 aF.out (by rw [bZ.out.1]; omega) (fun z hz=>by have:=bZ.out.2 z hz; omega)).mono ?_
           rintro e W6 ⟨yv,rfl,bY,E⟩
           have aG:Hid (Sl 0 3 W6 yv (ZAB Y)):=by rw [aq.out]; exact Sl.own bY
           have aA:Hid (Below wa.heap.size wa W6):=ah.out.trans (E.mono ah.out.size);clear bY E cN aq;go_wp2
          case' neg=>
           have aq:Hid (Y=X):=by rw [if_neg hxn] at ay; exact ay
           have cI:decide (xd < 0)=false:=by simp [hxn]
           go_wp2
           have cw:Hid (Sl 0 3 W5 (.slice (some ⟨nb,no,none⟩) (d+1) nc) (ZAB Y)):=by rw [aq.out]; exact aF.out
           have aA:Hid (Below wa.heap.size wa W5):=ah.out;clear cN aq aF;generalize Value.slice (some (⟨nb,no,none⟩:Addr)) (d+1) nc=yv at *
           obtain ⟨W6,rfl⟩:∃W6,W6=W5:=⟨_,rfl⟩
           have aG:Hid (Sl 0 3 W6 yv (ZAB Y)):=cw.out;clear cw
          all_goals
           obtain ⟨yo,yc,cA,_,_⟩:=ZAI aG.out;rw [T.out.1] at cA;subst cA
           obtain ⟨yb,yf,fG,aS,_,bk⟩:=ZAK aG.out (k:=d) (by rw [T.out.1]; omega)
           rw [T.out.1] at aS;simp only [Za3,true_and] at aS;obtain ⟨rfl,rfl⟩:=aS
           have cM:Hid (∀W,Qe W6 W→W.cell? ⟨yb,yf+d,none⟩=some (.int .i64 (Y.getD d 0))):=fun W hq=>by
            obtain ⟨m,rfl⟩:=hq;exact bk
           have cT:Hid ((Y.getD d 0).natAbs≤1000000000000):=T.out.2 _ (ZAj (by rw [T.out.1]; omega))
           have bC:Hid (Below w.heap.size w W6):=bg.out.trans (aA.out.mono bg.out.size);have bL:Hid (Below Q.heap.size Q W6):=M.out.trans (aA.out.mono M.out.size);clear bk
           go_loopw [16,17] (fun p i wq=>∃j:Nat,j≤0∧i=.int .i64 j∧p=.bool ((R.take j).all fun r=>decide (ZC9 (r.take d) Y≤r.getD d 0*Y.getD d 0))∧Qe W6 wq) (fun _ i _=>0-(intOf i).toNat)
           case atStart=>exact ⟨0,Za5 _,rfl,rfl,Qe.refl _⟩
           case round=>
            obtain ⟨j,hj,rfl,rfl,U⟩:=hrel;have HQ:=hid U;have cS:Hid (Below w.heap.size w wr):=bC.out.trans U.below;have dR:Hid (Below Q.heap.size Q wr):=bL.out.trans U.below;have dx:Hid (Below wa.heap.size wa wr):=aA.out.trans U.below;have bk:=cM.out wr U
            have cK:Hid (((R.take j).all fun r=>decide (ZC9 (r.take d) Y≤r.getD d 0*Y.getD d 0))=false→ptK R d Y=false):=fun h=>by
             rw [List.all_eq_false] at h;obtain ⟨x,hx,cX⟩:=h;unfold ptK;rw [List.all_eq_false];exact ⟨x,Zaa7 hx,cX⟩
            clear U
            by_cases s:j < 0∧((R.take j).all fun r=>decide (ZC9 (r.take d) Y≤r.getD d 0*Y.getD d 0))=true
            ·exact absurd s.1 (by omega)
            ·have db:Hid (((R.take j).all fun r=>decide (ZC9 (r.take d) Y≤r.getD d 0*Y.getD d 0))=ptK R d Y):=by
              show _=_
              cases ak:((R.take j).all fun r=>decide (ZC9 (r.take d) Y≤r.getD d 0*Y.getD d 0)) with
              | false=>exact (cK.out ak).symm
              | true=>
               have dt:¬j < 0:=fun h=>s ⟨h,ak⟩
               rw [←ak,Zaa2 (show R.length≤j by rw [←G.out]; omega)]
               rfl
             have az:(decide ((j:Int) < (0:Int)) && ((R.take j).all fun r=>decide (ZC9 (r.take d) Y≤r.getD d 0*Y.getD d 0)))=false:=by
              rw [Bool.eq_false_iff];intro h;rw [Bool.and_eq_true,decide_eq_true_eq] at h
              exact s ⟨by omega,h.2⟩
             have cd:Hid (Below J.heap.size J wr):=HB.out.trans (dx.out.mono O);rw [db.out] at az ⊢;clear s cK;generalize ptK R d Y=pb at *
             cases pb
             case false=>
              have ai:Hid (ptT R d t=none):=by show _=_; rw [ck.out]; rfl
              have af:Hid (∀q,q < k+1→ptT R d (pks A [] (C.getD q []))=none):=bh.out ai.out
              go_wp2
              all_goals exact ⟨⟨k+1,hlt,by go_num,af.out,cd.out⟩,by simp [intOf]; omega⟩
             case true=>
              have bu:Hid (ZBm d R=false):=bU.out (by rw [ck.out]; simp)
              have bX:decide ((j:Int) < (0:Int))=false:=by rw [Bool.and_true] at az; exact az
              have dt:¬(j:Int) < (0:Int):=of_decide_eq_false bX
              have dQ:decide (j < 0)=false:=decide_eq_false (by omega)
              clear az;go_wp2;go_ret
              exact ⟨by rw [bu.out]; rfl,cS.out⟩
     ·have bu:Hid (ZBm d R=true):=by
       show _=_
       rw [aE.out,List.all_eq_true];intro c hc;obtain ⟨q,hq,rfl⟩:=List.getElem_of_mem hc
       have:=cr.out q (by omega)
       rw [show C.getD q []=C[q] by simp [hq]] at this
       rw [this]; rfl
      go_wp2;go_ret
      exact ⟨by rw [bu.out]; rfl,bg.out⟩
   | some ra=>
    clear r2;have dL:=ZB8 (R3.out _ cE.out).1;have dD:=hid dL;clear dL
    go_wp2_with (first | (at_builtin; refine wpList_append_own _ rfl _ _ 22 rfl w.heap.size 27 i0 (.slice none 0 0) 1 24 Tryz.underlying22 l bz bw bv rfl (by decide) _ _ _ rfl bP.out ra nr cR bi rfl ?d0 dD.out bB.out ?d3 ?d4 ?d5 ?_))
    case d0=>rw [R1.out]; omega
    case d3=>unfold maxLen; omega
    case d4=>omega
    case d5=>exact cO
    intro v1 V ho hg _
    have dE:V.ownsRow w.heap.size 27 1 v1 nr bi:=by simpa using ho
    have aD:=hid dE
    have f:Hid (Below wr.heap.size wr V):=by
     have h1:(wr.alloc (.cells #[] 27)).grownBy V (some wr.heap.size):=hg
     exact cE.out.grown h1 (by rw [size_alloc]; omega) (fun k hk=>by cases hk; exact Za4 _)
    clear ho hg dE;have aN:Hid (w.heap.size≤V.heap.size):=Zaa8 bq f.out.size;have bW:=ZB8 (F3.out _ f.out).1;have aQ:=hid bW;clear bW
    go_wp2_with (first | (at_builtin; refine wpList_append_own _ rfl _ _ 22 rfl w.heap.size 27 i0 (.slice none 0 0) 1 24 Tryz.underlying22 l bz bw bv rfl (by decide) _ _ _ rfl aD.out fa d fc aR rfl ?d0 aQ.out aC.out ?d3 ?d4 ?d5 ?_))
    case d0=>rw [F1.out]; omega
    case d3=>unfold maxLen; omega
    case d4=>omega
    case d5=>first | exact aN.out | exact cO
    intro v2 Q ho hg _
    have cF:Hid (Rws w.heap.size 27 3 Q v2 (ZE8 d R)):=by
     refine ZK8 (by rw [R1.out,G.out]) (by rw [←G.out]; exact aD.out) (fun i l=>(R3.out V f.out).2 i (by rw [G.out]; exact l)) (by rw [F1.out,ZBW]) (fun i l=>(F3.out V f.out).2 i (by rw [ZBW] at l; exact l)) ?_ hg
     rw [←G.out,ZBW]; exact ho
    have bM:Hid (Below w.heap.size w Q):=(HB.out.trans (f.out.mono bq)).grown hg aN.out (fun k hk=>(aD.out.lt k hk).1)
    obtain ⟨ao,ac,bK⟩:=ZAE ho
    obtain ⟨n,hn⟩:∃n,n=nr+d:=⟨_,rfl⟩
    rw [←hn] at bK;subst bK
    have HN:Hid (n=(ZE8 d R).length):=by show _=_; rw [ZLB,←G.out]; exact hn
    have dF:n≤17:=by omega
    have fi:1≤n:=by omega
    have cP:Hid (∀W',Below Q.heap.size Q W'→Mat w.heap.size 27 3 W' (.slice ao n ac) (ZE8 d R)):=fun W' hB=>(cF.out.mat (Za4 _)).below hB (Za4 _)
    have aE:Hid (ZBm d R=(ZAN d n).all fun c=>(ptT R d (pks (ZE8 d R) [] c)).isNone):=by show _=_; unfold ZBm; rw [←HN.out]
    clear ho hg hn aD f F3 R3 bP cE cF aQ bB aC
    obtain ⟨A,hA⟩:∃A,A=ZE8 d R:=⟨_,rfl⟩
    rw [←hA] at cP HN aE au;clear hA
    go_wp2_with fail
    refine (ZDT d (by omega) n Q (by omega)).mono ?_
    rintro e J ⟨cv,rfl,bp,aa⟩;have bJ:=hid bp;have aP:=hid aa;have cq:Hid (Below w.heap.size w J):=bM.out.trans (aa.mono bM.out.size);obtain ⟨co,cc,dy,bT,dN⟩:=ZAD (ZCw bp);subst dy
    have cY:Hid ((ZAN d n).length≤16777216):=Zaa8 (ZBr d n (by omega)) (Zaa8 (Nat.pow_le_pow_right (by decide) (show d≤4 by omega)) (by decide))
    have cQ:Hid (∀c∈ZAN d n,c.length=d∧∀i,i < d→0≤c.getD i 0∧c.getD i 0 < (n:Int)):=fun c h=>⟨ZBC d n c h,(ZBs d n c h).1⟩
    clear bp aa
    obtain ⟨C,hC⟩:∃C,C=ZAN d n:=⟨_,rfl⟩
    rw [←hC] at bJ cY cQ bT aE ⊢;clear hC;go_wp2
    go_loopw [10] (fun i wr=>∃k:Nat,k≤C.length∧i=.int .i64 k∧(∀q,q < k→ptT R d (pks A [] (C.getD q []))=none)∧Below J.heap.size J wr) (fun i _=>C.length-(intOf i).toNat)
    case atStart=>exact ⟨0,Za5 _,rfl,fun q hq=>by omega,Below.refl _ _⟩
    case round=>
     obtain ⟨k,hk,rfl,cj, a⟩:=hrel
     rename World=>wa
     have HB:=hid a;have bg:Hid (Below w.heap.size w wa):=cq.out.trans (a.mono cq.out.size);have M:Hid (Below Q.heap.size Q wa):=aP.out.trans (a.mono aP.out.size);have O:J.heap.size≤wa.heap.size:=a.size;clear a;have cr:=hid cj;clear cj
     by_cases hlt:k < C.length
     ·obtain ⟨b2,o2,fy,r1,hs,fd,L,aZ⟩:=ZAP (ZCw bJ.out) hlt
      simp only [Za3,true_and] at hs;obtain ⟨rfl,rfl⟩:=hs
      have ag:C.getD k []∈C:=by simp [hlt]
      obtain ⟨aY,cL⟩:=cQ.out _ ag;obtain ⟨so,sc,cg,_,_⟩:=ZAI aZ;rw [aY] at cg;subst cg
      have bh:Hid (ptT R d (pks A [] (C.getD k []))=none→∀q,q < k+1→ptT R d (pks A [] (C.getD q []))=none):=fun h q hq=>by
       by_cases e:q=k
       ·rw [e]; exact h
       ·exact cr.out q (by omega)
      have bU:Hid (ptT R d (pks A [] (C.getD k []))≠none→ZBm d R=false):=fun h=>by
       rw [aE.out,List.all_eq_false];refine ⟨C.getD k [],ag,?_⟩
       cases hp:ptT R d (pks A [] (C.getD k [])) with
       | none=>exact absurd hp h
       | some y=>simp
      generalize C.getD k []=c at *
      have de:Hid (∀W,Below J.heap.size J W→W.cell? ⟨b2,o2+k,none⟩=some (.slice so d sc)):=fun W h=>(h.cell (ZAH L)).trans L
      have cZ:Hid (∀W,Below J.heap.size J W→Sl 0 3 W (.slice so d sc) (ZAB c)):=fun W h=>aZ.below h (Za4 _)
      have cH:=hid cL;have S:=hid aY;clear aZ L cL aY ag
      have dM:(k:Int) < (C.length:Int):=by omega
      have cW:(0:Int)≤(k:Int):=by omega
      go_wp2
      go_loopw [11,12] (fun x i wq=>∃j:Nat,j≤d∧i=.int .i64 j∧Rws wa.heap.size 27 3 wq x ((pks A [] (c.take j)).map (ngR d))∧Below wa.heap.size wa wq) (fun _ i _=>d-(intOf i).toNat)
      case atStart=>exact ⟨0,Za5 _,rfl,Rws.nil _ _ _ _,Below.refl _ _⟩
      case round=>
       obtain ⟨j,hj,rfl,aI,a⟩:=hrel;have bj:=hid aI;have aB:=hid a;have aK:Hid (Below J.heap.size J wr):=HB.out.trans (a.mono O);have bI:Hid (Below Q.heap.size Q wr):=M.out.trans (a.mono M.out.size);clear aI a
       by_cases s:j < d
       ·have aw:Hid ((pks A [] (c.take (j+1))).map (ngR d)=(pks A [] (c.take j)).map (ngR d) ++ [ngR d (A.getD (c.getD j 0).toNat [])]):=by
         show _=_
         rw [ZGx A c j (by rw [S.out]; exact s),List.map_append]
         rfl
        have B:Hid (((pks A [] (c.take j)).map (ngR d)).length=j):=by show _=_; have:=S.out; simp [pks]; omega
        obtain ⟨b3,o3,fs,bO,dj,bN⟩:=ZAK (cZ.out wr aK.out) (k:=j) (by rw [S.out]; exact s)
        simp only [Za3] at bO;obtain ⟨rfl,da,rfl⟩:=bO;clear da;have dA:=de.out wr aK.out;obtain ⟨ae,dh⟩:=cH.out j s
        obtain ⟨q,hq⟩:∃q:Nat,c.getD j 0=(q:Int):=⟨(c.getD j 0).toNat,by omega⟩
        rw [hq] at bN ae dh aw
        rw [show ((q:Int)).toNat=q by omega] at aw
        clear hq
        have aV:q < A.length:=by rw [←HN.out]; omega
        have dY:q < n:=by omega
        obtain ⟨b4,o4,dG,r2,am,_,cV,aT⟩:=ZAP (cP.out wr bI.out) aV;rw [←HN.out] at am;simp only [Za3,true_and] at am;obtain ⟨rfl,rfl⟩:=am
        have E:=au.out (A.getD q []) (by simp [aV])
        obtain ⟨yo,yc,bH,_,_⟩:=ZAI aT;rw [E.1] at bH;subst bH;have dl:Hid (Sl wr.heap.size 3 wr (.slice yo (d+1) yc) (ZAB (A.getD q []))):=aT.any (Za4 _)
        have an:Hid ((A.getD q []).length=d+1∧((A.getD q []).getD d 0).natAbs≤30):=⟨E.1,E.2 ((A.getD q []).getD d 0) (ZAj (by rw [E.1]; omega))⟩
        clear aT E;generalize A.getD q []=y at *;clear dj aV;have aO:wa.heap.size≤wr.heap.size:=aB.out.size
        have dJ:(j:Int) < (d:Int):=by omega
        have cU:(0:Int)≤(j:Int):=by omega
        have dU:(q:Int) < (n:Int):=by omega
        have dK:(0:Int)≤(q:Int):=by omega
        go_wp2_with fail
        refine (ZBj wr.heap.size y _ wr dl.out (by rw [an.out.1]; omega)).mono ?_
        rintro e V ⟨u,rfl,aU,bF⟩;rw [an.out.1] at aU
        obtain ⟨g,gc,F,hu,hg,N,hF,dz,dr⟩:=ZIz aU (by omega)
        subst hu
        have ca:=N.cell (i:=d) (by omega)
        have cf:=N.frozen d
        rw [hF d (by omega)] at ca
        have ff:=an.out.2
        have aL:Hid ((V.setCell ⟨g,d,none⟩ (.int .i64 (-(y.getD d 0)))).rowIs g 3 gc (fun i=>if i=d then .int .i64 (-(y.getD d 0)) else F i)):=N.set d _
        have aW:Hid (∀Z,Sl Z 3 (V.setCell ⟨g,d,none⟩ (.int .i64 (-(y.getD d 0)))) (.slice (some ⟨g,0,none⟩) (d+1) gc) (ZAB (ngR d y))):=fun Z=>ZCv aL.out (fun i l=>by
         show (if i=d then Value.int .i64 (-(y.getD d 0)) else F i)=_
         rw [ZEZ an.out.1 l]
         by_cases e:i=d
         ·rw [if_pos e,if_pos e]
         ·rw [if_neg e,if_neg e,hF i l]) (ZEY an.out.1) dz dr
        have f:Hid (Below wr.heap.size wr (V.setCell ⟨g,d,none⟩ (.int .i64 (-(y.getD d 0))))):=((Touch.refl _ _).setCell d _).below bF hg;generalize y.getD d 0=z at *
        have fC:wrap64 (-z)=-z:=IntWalk.wrap64_in _ ⟨by omega,by omega⟩
        have dw:(d:Int) < (d:Int)+1:=by omega
        have bE:(0:Int)≤(d:Int):=by omega
        clear N hF aU bF
        go_upto_region 19 with fail
        obtain ⟨W3,ar⟩:∃W3,W3=V.setCell ⟨g,d,none⟩ (.int .i64 (-z)):=⟨_,rfl⟩
        rw [←ar] at aW f ⊢;clear ar aL ca cf;obtain ⟨vs,g1,g2,g3⟩:=bj.out.below f.out (Za4 _);have aJ:=B.out;rw [aJ] at g1 g2 g3;have G1:=hid g1;have G2:=hid g2;have G3:=hid g3;have aM:wa.heap.size≤W3.heap.size:=Zaa8 aO f.out.size;have bV:Hid (Below wa.heap.size wa W3):=aB.out.trans (f.out.mono aO);clear g1 g2 g3 aJ
        go_wp2_with (first | (at_builtin; refine wpList_append_own _ rfl _ _ 22 rfl wa.heap.size 27 i0 (.slice none 0 0) 1 24 Tryz.underlying22 l bz bw bv rfl (by decide) _ _ _ rfl (G2.out.alloc _) ⟨W3.heap.size,0,none⟩ 1 1 [.slice (some ⟨g,0,none⟩) (d+1) gc] rfl rfl (ZAS _ _ _) (ZAM _ _ _) ?d3 ?d4 ?d5 ?_))
        case d3=>unfold maxLen; omega
        case d4=>omega
        case d5=>simp; omega
        intro v' w4 ho bl _
        have R1:Hid (Rws wa.heap.size 27 3 w4 v' ((pks A [] (c.take (j+1))).map (ngR d))):=by
         have hp:=Rws.push (e2:=27) (e1:=3) (m:=(pks A [] (c.take j)).map (ngR d)) (u:=.slice (some ⟨g,0,none⟩) (d+1) gc) (zs:=ngR d y) (by decide) (by rw [B.out]; exact G1.out) (by rw [B.out]; exact G2.out.alloc _)
          (fun i l=>(G3.out i (by rw [B.out] at l; exact l)).alloc _) ((aW.out _).alloc _) (by rw [B.out]; exact ho) bl
         rw [←aw.out] at hp;exact hp
        have R2:Hid (Below wa.heap.size wa w4):=(bV.out.alloc aM _).grown bl (by simp; omega) (fun x hx=>(G2.out.lt x hx).1)
        clear ho bl;go_wp2
        go_roundw
        case rel=>exact ⟨j+1,by omega,by go_num,R1.out,R2.out⟩
        case measure=>simp [intOf]; omega
       ·obtain rfl:d=j:=by omega
        have HT:Hid (Rws wa.heap.size 27 3 wr u11 ((pks A [] c).map (ngR d))):=by
         have:=bj.out
         rw [Zaa2 (by rw [S.out]; exact Za4 _)] at this
         exact this
        clear bj hj s
        have cG:Hid ((pks A [] c).length=d):=by show _=_; rw [←S.out]; simp [pks]
        have dg:Hid (∀x∈pks A [] c,x∈A):=ZK9 fun q hq=>by
         obtain ⟨i,l,rfl⟩:=List.mem_iff_getElem.1 hq
         have:=cH.out i (by rw [←S.out]; exact l)
         rw [←HN.out]
         simpa [l] using this
        generalize pks A [] c=t at *
        have bt:Hid (Mx (d+1) 60 (t.map (ngR d))):=ZOf (fun x hx=>au.out x (dg.out x hx)) hd
        go_wp2_with fail
        refine (ZEH (d+1) 60 wa.heap.size (t.map (ngR d)) u11 wr bt.out (HT.out.mat (Za4 _)) (by rw [Zab1,cG.out]; omega) (by rw [Zab1,cG.out]; omega)).mono ?_
        rintro e W5 ⟨nv,rfl,bG,cD⟩;have aF:=hid bG;have ah:Hid (Below wa.heap.size wa W5):=aB.out.trans (cD.mono aB.out.size);clear bG cD
        cases hnb:ZAp (d+1) (t.map (ngR d))
        case false=>
         have ai:Hid (ptT R d t=none):=by show _=_; unfold ptT; rw [hnb]; simp
         have aj:Hid (Below J.heap.size J W5):=HB.out.trans (ah.out.mono O)
         have af:Hid (∀q,q < k+1→ptT R d (pks A [] (C.getD q []))=none):=bh.out ai.out
         clear hnb;go_wp2
         go_roundw
         case rel=>exact ⟨k+1,hlt,by go_num,af.out, aj.out⟩
         case measure=>simp [intOf]; omega
        case true=>
         have dX:=hid hnb
         obtain ⟨nb,no,nc,cJ,fE,cN⟩:=ZAK aF.out (k:=d) (by rw [ZAy hnb]; omega)
         rw [ZAy hnb] at cJ;subst cJ
         have ay:Hid (ptY d t=if (ZAO (d+1) (t.map (ngR d))).getD d 0 < 0 then (ZAO (d+1) (t.map (ngR d))).map (fun z=>-z) else ZAO (d+1) (t.map (ngR d))):=rfl
         have T:Hid ((ptY d t).length=d+1∧∀z∈ptY d t,z.natAbs≤1000000000000):=⟨ZI0 hnb,ZLA bt.out⟩
         have bZ:Hid ((ZAO (d+1) (t.map (ngR d))).length=d+1∧∀z∈ZAO (d+1) (t.map (ngR d)),z.natAbs≤1000000000000):=⟨ZAy hnb,ZCn bt.out⟩
         have bQ:Hid ((ZAO (d+1) (t.map (ngR d))).getD d 0≠0→ptT R d t=if ptK R d (ptY d t)=true then some (ptY d t) else none):=fun h0=>by
          unfold ptT
          by_cases hk:ptK R d (ptY d t)=true
          ·rw [if_pos ⟨hnb,h0,hk⟩,if_pos hk]
          ·rw [if_neg (fun h=>hk h.2.2),if_neg hk]
         have aH:Hid ((ZAO (d+1) (t.map (ngR d))).getD d 0=0→ptT R d t=none):=fun h0=>by
          unfold ptT
          rw [if_neg (fun h=>h.2.1 h0)]
         clear hnb;generalize ZAO (d+1) (t.map (ngR d))=X at *;generalize ptY d t=Y at *;generalize X.getD d 0=xd at *
         have dw:(d:Int) < (d:Int)+1:=by omega
         have bE:(0:Int)≤(d:Int):=by omega
         by_cases ae:xd=0
         ·subst ae
          have ai:Hid (ptT R d t=none):=aH.out rfl;have aj:Hid (Below J.heap.size J W5):=HB.out.trans (ah.out.mono O)
          have af:Hid (∀q,q < k+1→ptT R d (pks A [] (C.getD q []))=none):=bh.out ai.out
          go_wp2
          go_roundw
          case rel=>exact ⟨k+1,hlt,by go_num,af.out, aj.out⟩
          case measure=>simp [intOf]; omega
         ·have bD:=bQ.out ae
          have ck:=hid bD
          have fw:(xd == 0)=false:=by simp [ae]
          clear bD bQ aH
          by_cases hxn:xd < 0
          case' pos=>
           have aq:Hid (Y=X.map fun z=>-z):=by rw [if_pos hxn] at ay; exact ay
           have cI:decide (xd < 0)=true:=by simp [hxn]
           go_wp2_with fail
           refine (ZBq 0 X _ W5 aF.out (by rw [bZ.out.1]; omega) (fun z hz=>by have:=bZ.out.2 z hz; omega)).mono ?_
           rintro e W6 ⟨yv,rfl,bY,E⟩
           have aG:Hid (Sl 0 3 W6 yv (ZAB Y)):=by rw [aq.out]; exact Sl.own bY
           have aA:Hid (Below wa.heap.size wa W6):=ah.out.trans (E.mono ah.out.size);clear bY E cN aq;go_wp2
          case' neg=>
           have aq:Hid (Y=X):=by rw [if_neg hxn] at ay; exact ay
           have cI:decide (xd < 0)=false:=by simp [hxn]
           go_wp2
           have cw:Hid (Sl 0 3 W5 (.slice (some ⟨nb,no,none⟩) (d+1) nc) (ZAB Y)):=by rw [aq.out]; exact aF.out
           have aA:Hid (Below wa.heap.size wa W5):=ah.out;clear cN aq aF;generalize Value.slice (some (⟨nb,no,none⟩:Addr)) (d+1) nc=yv at *
           obtain ⟨W6,rfl⟩:∃W6,W6=W5:=⟨_,rfl⟩
           have aG:Hid (Sl 0 3 W6 yv (ZAB Y)):=cw.out;clear cw
          all_goals
           obtain ⟨yo,yc,cA,_,_⟩:=ZAI aG.out;rw [T.out.1] at cA;subst cA
           obtain ⟨yb,yf,fG,aS,_,bk⟩:=ZAK aG.out (k:=d) (by rw [T.out.1]; omega)
           rw [T.out.1] at aS;simp only [Za3,true_and] at aS;obtain ⟨rfl,rfl⟩:=aS
           have cM:Hid (∀W,Qe W6 W→W.cell? ⟨yb,yf+d,none⟩=some (.int .i64 (Y.getD d 0))):=fun W hq=>by
            obtain ⟨m,rfl⟩:=hq;exact bk
           have cT:Hid ((Y.getD d 0).natAbs≤1000000000000):=T.out.2 _ (ZAj (by rw [T.out.1]; omega))
           have bC:Hid (Below w.heap.size w W6):=bg.out.trans (aA.out.mono bg.out.size);have bL:Hid (Below Q.heap.size Q W6):=M.out.trans (aA.out.mono M.out.size);clear bk
           go_loopw [16,17] (fun p i wq=>∃j:Nat,j≤nr∧i=.int .i64 j∧p=.bool ((R.take j).all fun r=>decide (ZC9 (r.take d) Y≤r.getD d 0*Y.getD d 0))∧Qe W6 wq) (fun _ i _=>nr-(intOf i).toNat)
           case atStart=>exact ⟨0,Za5 _,rfl,rfl,Qe.refl _⟩
           case round=>
            obtain ⟨j,hj,rfl,rfl,U⟩:=hrel;have HQ:=hid U;have cS:Hid (Below w.heap.size w wr):=bC.out.trans U.below;have dR:Hid (Below Q.heap.size Q wr):=bL.out.trans U.below;have dx:Hid (Below wa.heap.size wa wr):=aA.out.trans U.below;have bk:=cM.out wr U
            have cK:Hid (((R.take j).all fun r=>decide (ZC9 (r.take d) Y≤r.getD d 0*Y.getD d 0))=false→ptK R d Y=false):=fun h=>by
             rw [List.all_eq_false] at h;obtain ⟨x,hx,cX⟩:=h;unfold ptK;rw [List.all_eq_false];exact ⟨x,Zaa7 hx,cX⟩
            clear U
            by_cases s:j < nr∧((R.take j).all fun r=>decide (ZC9 (r.take d) Y≤r.getD d 0*Y.getD d 0))=true
            ·obtain ⟨s,ak⟩:=s
             have cB:j < R.length:=by rw [←G.out]; exact s
             obtain ⟨b4,o4,dG,xv,am,_,cV,du⟩:=ZAP (dH.out wr cS.out) cB;rw [←G.out] at am;simp only [Za3,Zaa9,true_and] at am;obtain ⟨rfl,rfl⟩:=am
             have aX:=dB.out (R.getD j []) (by simp [cB])
             obtain ⟨rb,rf,rc,dv,fh,fJ⟩:=ZAK du (k:=d) (by rw [aX.1]; omega)
             have cC:=du;rw [dv] at cC
             have dS:=Sl.takeE (n:=d) cC (by rw [aX.1]; omega)
             rw [aX.1] at dv fh;subst dv
             have fA:Hid (((R.take (j+1)).all fun r=>decide (ZC9 (r.take d) Y≤r.getD d 0*Y.getD d 0))=decide (ZC9 ((R.getD j []).take d) Y≤(R.getD j []).getD d 0*Y.getD d 0)):=by
              show _=_
              have e:R.take (j+1)=R.take j ++ [R.getD j []]:=by rw [Zaa1 cB]; simp [cB]
              rw [e,List.all_append,ak];simp
             have fF:Hid (∀m,Calls Tryz.prog 71 #[.slice (some ⟨rb,rf,none⟩) d rc,.slice (some ⟨yb,yf,none⟩) (d+1) yc] (wr.drewN m) fun e w'=>e=.returned (.int .i64 (ZC9 ((R.getD j []).take d) Y))∧∃k,w'=(wr.drewN m).drewN k):=fun m=>by
              obtain ⟨m2,fp⟩:=HQ.out;subst fp;have fg:Sl 0 3 (W6.drewN m2) (.slice (some ⟨yb,yf,none⟩) (d+1) yc) (ZAB Y):=aG.out.drewN m2
              exact ZNV _ _ Y _ _ _ (dS.drewN m) ((fg.drewN m).more (Za5 _)) ⟨by have:=T.out.1; simp; omega,by simp; omega,fun z hz=>by have:=aX.2 z (Zaa7 hz); omega,T.out.2⟩
             have dC:=aX.2 ((R.getD j []).getD d 0) (ZAj (by rw [aX.1]; omega))
             have fe:((R.getD j []).getD d 0*Y.getD d 0).natAbs≤30*1000000000000:=by
              rw [Int.natAbs_mul]
              exact Nat.mul_le_mul (by omega) cT.out
             rw [ak];clear du cC dS aX dC cB ak;generalize ZC9 ((R.getD j []).take d) Y=D at *;generalize (R.getD j []).getD d 0=rd at *;generalize Y.getD d 0=yd at *
             have dJ:(j:Int) < (nr:Int):=by omega
             have cU:(0:Int)≤(j:Int):=by omega
             have fu:wrap64 (rd*yd)=rd*yd:=IntWalk.wrap64_in _ ⟨by omega,by omega⟩
             have fL:IntKind.i64.wrap (rd*yd)=rd*yd:=by rw [IntWalk.i64_left]; exact fu
             have fM:(d:Int)≤(rc:Int):=by omega
             have fH:d≤rc:=by omega
             clear fe;go_wp2
             go_quiet ((go_at_call 71; exact Calls.quiet_of (w:=wr) (fF.out _)))
             go_wp2
             exact ⟨⟨j+1,s,by go_num,by rw [fA.out],HQ.out.drewN nq⟩,by simp [intOf]; omega⟩
            ·have db:Hid (((R.take j).all fun r=>decide (ZC9 (r.take d) Y≤r.getD d 0*Y.getD d 0))=ptK R d Y):=by
              show _=_
              cases ak:((R.take j).all fun r=>decide (ZC9 (r.take d) Y≤r.getD d 0*Y.getD d 0)) with
              | false=>exact (cK.out ak).symm
              | true=>
               have dt:¬j < nr:=fun h=>s ⟨h,ak⟩
               rw [←ak,Zaa2 (show R.length≤j by rw [←G.out]; omega)]
               rfl
             have az:(decide ((j:Int) < (nr:Int)) && ((R.take j).all fun r=>decide (ZC9 (r.take d) Y≤r.getD d 0*Y.getD d 0)))=false:=by
              rw [Bool.eq_false_iff];intro h;rw [Bool.and_eq_true,decide_eq_true_eq] at h
              exact s ⟨by omega,h.2⟩
             have cd:Hid (Below J.heap.size J wr):=HB.out.trans (dx.out.mono O);rw [db.out] at az ⊢;clear s cK;generalize ptK R d Y=pb at *
             cases pb
             case false=>
              have ai:Hid (ptT R d t=none):=by show _=_; rw [ck.out]; rfl
              have af:Hid (∀q,q < k+1→ptT R d (pks A [] (C.getD q []))=none):=bh.out ai.out
              go_wp2
              all_goals exact ⟨⟨k+1,hlt,by go_num,af.out,cd.out⟩,by simp [intOf]; omega⟩
             case true=>
              have bu:Hid (ZBm d R=false):=bU.out (by rw [ck.out]; simp)
              have bX:decide ((j:Int) < (nr:Int))=false:=by rw [Bool.and_true] at az; exact az
              have dt:¬(j:Int) < (nr:Int):=of_decide_eq_false bX
              have dQ:decide (j < nr)=false:=decide_eq_false (by omega)
              clear az;go_wp2;go_ret
              exact ⟨by rw [bu.out]; rfl,cS.out⟩
     ·have bu:Hid (ZBm d R=true):=by
       show _=_
       rw [aE.out,List.all_eq_true];intro c hc;obtain ⟨q,hq,rfl⟩:=List.getElem_of_mem hc
       have:=cr.out q (by omega)
       rw [show C.getD q []=C[q] by simp [hq]] at this
       rw [this]; rfl
      go_wp2;go_ret
      exact ⟨by rw [bu.out]; rfl,bg.out⟩
theorem ZCQ(w:World)(d:Nat)(v:Value):∃W0,W0=w.alloc (.cells #[.int .i64 d,v] 56)∧Below w.heap.size w W0∧W0.heap.size=w.heap.size+1∧∀W',Below W0.heap.size W0 W'→W'.cell? ⟨w.heap.size,0,none⟩=some (.int .i64 d)∧W'.cell? ⟨w.heap.size,1,none⟩=some v:=by
 refine ⟨_,rfl,ZAG _ _,size_alloc _ _,fun W' hB=>?_⟩
 have a:=(hB.block w.heap.size (by rw [size_alloc]; omega)).trans (ZAL w (.cells #[.int .i64 d,v] 56))
 exact ⟨by simp [World.cell?,a],by simp [World.cell?,a]⟩
theorem ZPZ{r:List Int}(h:∀z∈r,z.natAbs≤20):r.any (ZDm · 20)=false:=ZOd (n:=20) h
def gmE(d:Nat)(rows:List (List Int))(g:List Int):Int:=if ZDO d rows=true then 6 else if ZAY rows g=[] then 7 else 0
theorem CutF.rw{d:Nat}{rows:List (List Int)}(h:CutF d rows):RwE d rows:=fun r hr=>⟨h.len r hr,h.bd r hr⟩
theorem CutOk.rw{d:Nat}{rows:List (List Int)}(h:CutOk d rows):RwE d rows:=h.f.rw
end Go.Proofs.YtkjkfceblmgogaaGreat
namespace Go.Proofs.YtkjkfceblmgogaaGreat
open Go.RowKit Lin
theorem ZDF{P:Program}{w:World}{ops:Array Oper}{rest:List Oper}{o:Oper}{a:Act}{Q:Exit→Act→World→Prop}(hgd:o.guard=none)(s x:Operand)(t:TypeId)
 (ho:o.op=.call { callee:=.builtin .append,args:=#[s,x],argTypes:=#[t,t] })
 (base:Nat)(e:TypeId)(i:TypeInfo)(z:Value)(bytes:Nat)(ht:P.underlying t=some (.slice e))(hi:P.info? e=some i)(hz:i.zero=some z)
 (hsize:i.size=1)(hby:i.bytes=bytes)(hzs:z.cells.size=1)
 (v:Value)(n:Nat)(xs:List Value)(hs:a.eval s=v)(hown:w.ownsRow base e 1 v n xs)
 (ro:Option Addr)(m c:Nat)(news:List Value)(hx:a.eval x=.slice ro m c){Bn:Nat}(hsl:Sl Bn e w (.slice ro m c) news)(h1:∀u∈news,u.oneCell'=true)
 (h63:n+m≤maxLen)(hbytes:(n+m)*bytes≤140737488355328)(hbase:base≤w.heap.size)
 (h:∀v' w',w'.ownsRow base e 1 v' (n+m) (xs ++ news)→w.grownBy w' v.ownBlock→wpList P ops Q rest (a.put o.dst v') w'):wpList P ops Q (o :: rest) a w:=by
 cases ro with
 | none=>
  obtain ⟨E,A,d,r,_,p,F⟩:=hsl;simp only [Za3] at d
  have g:news.length=0:=by
   apply Za6
   intro B
   obtain ⟨b,o,y,_⟩:=p 0 (by omega)
   rw [←d.1] at y; cases y
  have f:m=0:=by omega
  have l:c=0:=by rw [d.2.2]; exact F d.1.symm
  have j:news=[]:=List.eq_nil_of_length_eq_zero g;subst f l j
  refine wpList_append_own_none hgd s x t ho base e i 1 ht hi v n xs hs hown hx (h v w (by simpa using hown) (World.grownBy.refl _ _))
 | some ad=>
  have D:news.length=m*1:=by
   obtain ⟨E,A,d,_⟩:=hsl;simp only [Za3] at d;omega
  exact wpList_append_own w hgd s x t ho base e i z 1 bytes ht hi hz hsize hby hzs (by decide) v n xs hs hown ad m c news hx D (ZB8 hsl) h1 h63 hbytes hbase fun v' w' r p _=>h v' w' r p
theorem ZR3{w:World}{a b:Int} : Sl 0 3 (w.alloc (.cells #[.int .i64 a,.int .i64 b] 3)) (.slice (some ⟨w.heap.size,0,none⟩) 2 2) (ZAB [a,b]):=by
 refine ⟨some ⟨w.heap.size,0,none⟩,2,rfl,by simp [ZAB],by simp [maxLen],fun i hi=>⟨w.heap.size,0,rfl,?_,.inr ⟨_,heap_alloc_new w _⟩⟩,fun e=>by cases e⟩
 rw [Nat.zero_add];simp only [World.cell?,heap_alloc_new]
 match i,hi with
 | 0,_=>rfl
 | 1,_=>rfl
theorem ZJm{B:Nat}{w:World}{u:Value}{a b:Int}(h:w.ownsRow B 3 1 u 2 (ZAB [a,b])):∃g gc,u=.slice (some ⟨g,0,none⟩) 2 gc∧B≤g∧w.cell? ⟨g,0,none⟩=some (.int .i64 a)∧w.cell? ⟨g,1,none⟩=some (.int .i64 b):=by
 rcases h.2 with ⟨_,h0⟩ | ⟨g,cap,cur,h1,h2,h3,_⟩
 ·omega
 ·subst h1
  exact ⟨g,cap,rfl,h2,h.cellAt 0 (by omega),h.cellAt 1 (by omega)⟩
end Go.Proofs.YtkjkfceblmgogaaGreat
namespace Go.Proofs.YtkjkfceblmgogaaGreat
open Go
theorem ZAA{P:Program}{md:Region.Mode}{ops:Array Oper}{Q:Exit→Act→World→Prop}{S:World→Prop}{i d:Nat}{oi:Oper}{v:Value}{fuel:Nat}{listed:Array Bool}{a:Act}{w:World}(hi:ops.toList[i]?=some oi)(hd:oi.dst=some d)
 (hs:Region.noSelect ops=true)(hf:Region.free md ops listed i=true)(hr:(Region.ready md ops listed).contains i=true)
 (hQ:∀c a w,Q (.panic c) (a.put (some d) v) w→Q (.panic c) a w)(hy:YieldsIf P ops S oi v a)(hS:S w)
 (h:wpAnyH P md ops Q S fuel (listed.setIfInBounds i true) (a.put (some d) v) w):wpAnyH P md ops Q S (fuel+1) listed a w:=by
 rw [Array.getElem?_toList] at hi;rw [←hd] at hQ h;exact wpAnyH_take hi hs hf hr hQ hy hS h
theorem ZAF{P:Program}{md:Region.Mode}{ops:Array Oper}{Q:Exit→Act→World→Prop}{S:World→Prop}{fuel:Nat}{listed:Array Bool}{a:Act}{w:World}{i:Nat}{o:Oper}{rs:List Nat}(ho:ops.toList[i]?=some o)(hw:Region.wanted o (yielded ops a.tmps)=true)
 (h:∀K':Act→World→Prop,Shut (∀a w,S w→(S w→wpAnyH P md ops Q S fuel (listed.setIfInBounds i true) a w)→K' a w)→Oper.wp P o a w K' Q)
 (hs:AllReadyH P md ops Q S fuel listed a w rs):AllReadyH P md ops Q S fuel listed a w (i :: rs):=by
 rw [Array.getElem?_toList] at ho
 refine AllReadyH.cons ho (fun K' hK=>?_) hs
 rw [if_pos hw];exact h K' hK
end Go.Proofs.YtkjkfceblmgogaaGreat
