import Derived.Test.YtgfnmkenpgnllaaGreatWysA
import Derived.Deep.DeepCutAuto
set_option maxRecDepth 100000
set_option maxHeartbeats 8000000
namespace Go.Proofs.YtgfnmkenpgnllaaGreat
open Go.RowKit
attribute [local go_sem ↓] Go.wp_at_zero Go.wp_at_succ
def ZEb(lo hi x:Int):Bool:=decide (x < lo) || decide (hi < x)
theorem ZM5(x lo hi:Int)(w:World)(a b:Addr)(hc:w.cell? a=some (.int .i64 lo))(hd:w.cell? b=some (.int .i64 hi)) :
  Calls Tryz.prog 127 #[.int .i64 x,.pointer (some a),.pointer (some b)] w fun e w'=>e=.returned (.bool (ZEb lo hi x))∧w'=w:=by
 by_cases hb:x < lo
 ·go_enter Tryz.func127,Tryz.ntmps127
  go_wp2;go_ret
  exact ⟨ZAW (by simp [ZEb,hb]),rfl⟩
 ·go_enter Tryz.func127,Tryz.ntmps127
  go_wp2;go_ret
  exact ⟨ZAW (by rw [ZEb,decide_eq_false (by omega:¬x < lo)]; rfl),rfl⟩
theorem ZJT(B:Nat)(lo hi:Int)(zs:List Int)(v:Value)(a b:Addr)(w:World)(hv:Sl B 3 w v (ZAB zs))(hc:w.cell? a=some (.int .i64 lo))(hd:w.cell? b=some (.int .i64 hi)) :
  Calls Tryz.prog 144 #[v,.func (.func 127) #[] #[.pointer (some a),.pointer (some b)]] w fun e w'=>e=.returned (.int .i64 (ZCi (ZEb lo hi) zs))∧w'=w:=by
 obtain ⟨F,r,g,y,A⟩:=ZAH hv;subst g;have z:Hid (Sl B 3 w (.slice F zs.length r) (ZAB zs)):=hv
 have m:Hid (∀x,Calls Tryz.prog 127 #[.int .i64 x,.pointer (some a),.pointer (some b)] w fun e w'=>e=.returned (.bool (ZEb lo hi x))∧w'=w):=fun x=>ZM5 x lo hi w a b hc hd
 clear hv hc hd;go_enter Tryz.func144,Tryz.ntmps144;go_wp2
 go_loop [8] (fun i=>∃k:Nat,k≤zs.length∧i=.int .i64 k∧(zs.take k).any (ZEb lo hi)=false) (fun i=>zs.length-(intOf i).toNat)
 case atStart=>exact ⟨0,Za5 _,rfl,by simp⟩
 case round=>
  obtain ⟨k,L,rfl,c⟩:=hrel;have f:=hid c;clear c
  by_cases hlt:k < zs.length
  ·obtain ⟨J,o,G,t,E,n⟩:=ZAJ z.out hlt
   simp only [Za3] at t;obtain ⟨rfl,_,rfl⟩:=t;have j:Hid ((zs.take (k+1)).any (ZEb lo hi)=ZEb lo hi zs[k]):=ZFY (p:=ZEb lo hi) hlt f.out
   have s:Hid (ZEb lo hi zs[k]=true→ZCi (ZEb lo hi) zs=k):=fun h=>ZGL (p:=ZEb lo hi) hlt f.out h
   rw [show zs.getD k 0=zs[k] by simp [hlt]] at n
   generalize zs[k]=x at *
   have d:Hid (Calls Tryz.prog 127 #[.int .i64 x,.pointer (some a),.pointer (some b)] w fun e w'=>e=.returned (.bool (ZEb lo hi x))∧w'=w):=m.out x
   generalize ZEb lo hi x=fb at *
   cases fb
   ·go_wp2_with (go_at_call 127; refine d.out.mono ?_; rintro e w' ⟨rfl,rfl⟩)
    go_round
    case rel=>exact ⟨k+1,by omega,by go_num,j.out⟩
    case measure=>simp [intOf]; omega
   ·have l:Hid (ZCi (ZEb lo hi) zs=k):=s.out rfl
    clear s
    go_wp2_with (go_at_call 127; refine d.out.mono ?_; rintro e w' ⟨rfl,rfl⟩)
    go_ret;exact ⟨ZA9 l.out.symm,rfl⟩
  ·have e:zs.take k=zs:=Zaa2 (by omega)
   rw [e] at f;have D:Hid (ZCi (ZEb lo hi) zs=-1):=ZCc f.out;go_wp2;go_ret;exact ⟨ZA9 D.out.symm,rfl⟩
theorem ZFw(B:Nat)(lo hi:Int)(zs:List Int)(v:Value)(a b:Addr)(w:World)(hv:Sl B 3 w v (ZAB zs))(hc:w.cell? a=some (.int .i64 lo))(hd:w.cell? b=some (.int .i64 hi)) :
  Calls Tryz.prog 126 #[v,.func (.func 127) #[] #[.pointer (some a),.pointer (some b)]] w fun e w'=>e=.returned (.bool (zs.any (ZEb lo hi)))∧w'=w:=by
 have c:=ZJT B lo hi zs v a b w hv hc hd;go_enter Tryz.func126,Tryz.ntmps126
 go_wp2_with fail
 refine c.mono ?_;rintro e w' ⟨rfl,rfl⟩;go_wp2;go_ret;exact ⟨ZAW ZMV,rfl⟩
def ZM6(c:Nat)(lo hi:Int)(r:List Int):Int:=if r.length≠c then 3 else if r.any (ZEb lo hi) then 4 else 0
theorem ZJU(B:Nat)(c:Nat)(lo hi:Int)(r:List Int)(v:Value)(w:World)(hv:Sl B 3 w v (ZAB r)) :
  Calls Tryz.prog 97 #[v,.int .i64 c,.int .i64 lo,.int .i64 hi] w fun e w'=>e=.returned (.int .i64 (ZM6 c lo hi r))∧Below w.heap.size w w':=by
 obtain ⟨i,f,g,l,j⟩:=ZAH hv;subst g;have o:Hid (Sl B 3 w (.slice i r.length f) (ZAB r)):=hv;clear hv
 by_cases hl:r.length=c
 ·have m:((r.length:Int) != (c:Int))=false:=by rw [bne_eq_false_iff_eq]; omega
  rw [ZM6,if_neg (by omega)]
  clear hl
  obtain ⟨d,a⟩:∃d,d=(w.alloc (.cells #[.int .i64 lo] 3)).alloc (.cells #[.int .i64 hi] 3):=⟨_,rfl⟩
  have n:Hid (Calls Tryz.prog 126 #[.slice i r.length f,.func (.func 127) #[] #[.pointer (some ⟨w.heap.size,0,none⟩),.pointer (some ⟨w.heap.size+1,0,none⟩)]] d fun e w'=>e=.returned (.bool (r.any (ZEb lo hi)))∧w'=d):=by
   subst a
   exact ZFw B lo hi r _ _ _ _ ((o.out.alloc _).alloc _) (by simp) (by simp)
  have b:Hid (Below w.heap.size w d):=by
   subst a
   exact ((Below.refl _ _).alloc (Za4 _) _).alloc (by simp) _
  generalize r.any (ZEb lo hi)=R at *;go_enter Tryz.func97,Tryz.ntmps97
  go_wp2_with fail
  try rw [←a]
  refine n.out.mono ?_;rintro e w' ⟨rfl,rfl⟩
  cases R
  ·go_wp2
   go_ret
   exact ⟨rfl,by have:=b.out; rw [a] at this; exact this⟩
  ·go_wp2
   go_ret
   exact ⟨rfl,by have:=b.out; rw [a] at this; exact this⟩
 ·have m:((r.length:Int) != (c:Int))=true:=by rw [bne_iff_ne]; omega
  rw [ZM6,if_pos hl];clear hl;go_enter Tryz.func97,Tryz.ntmps97;go_wp2;go_ret
  exact ⟨rfl,((Below.refl _ _).alloc (Za4 _) _).alloc (by simp) _⟩
theorem ZM7(most:Int):ZEb (-most) most=(ZE8 · most):=by
 funext x
 rw [Bool.eq_iff_iff];simp [ZEb,ZE8,Bool.or_comm]
theorem ZIk(B:Nat)(c:Nat)(most:Int)(r:List Int)(v:Value)(w:World)(hv:Sl B 3 w v (ZAB r))(h0:0≤most)(h1:most≤1000000) :
  Calls Tryz.prog 67 #[v,.int .i64 c,.int .i64 most] w fun e w'=>e=.returned (.int .i64 (if r.length≠c then 3 else if r.any (ZE8 · most) then 4 else 0))∧Below w.heap.size w w':=by
 have b:Hid (Calls Tryz.prog 97 #[v,.int .i64 c,.int .i64 (-most),.int .i64 most] w fun e w'=>e=.returned (.int .i64 (if r.length≠c then 3 else if r.any (ZE8 · most) then 4 else 0))∧Below w.heap.size w w'):=by
  have:=ZJU B c (-most) most r v w hv;rw [ZM6,ZM7] at this;exact this
 generalize (if r.length≠c then (3:Int) else if r.any (ZE8 · most) then 4 else 0)=R at *
 go_enter Tryz.func67,Tryz.ntmps67
 go_wp2_with fail
 refine b.out.mono ?_;rintro e w' ⟨rfl,a⟩;have d:=hid a;clear a;go_wp2;go_ret;exact ⟨rfl,d.out⟩
end Go.Proofs.YtgfnmkenpgnllaaGreat
namespace Go.Proofs.YtgfnmkenpgnllaaGreat
open Go.RowKit
structure CutOk(d:Nat)(rows:List (List Int)):Prop where
 d1:1≤d
 d3:d≤3
 n12:rows.length≤12
 len:∀r∈rows,r.length=d+1
 bd:∀r∈rows,∀z∈r,z.natAbs≤20
def ZDP(d:Nat)(rows:List (List Int)):Bool:=!(ZAZ rows (ZBx d)).isEmpty
theorem ZOD{r:List Int}{n:Nat}(h:∀z∈r,z.natAbs≤n):r.any (ZE8 · n)=false:=by
 rw [List.any_eq_false];intro z a;have:=h z a;simp [ZE8];omega
theorem ZKl(B:Nat)(r:List Int)(v:Value)(many:Int)(w:World)(hv:Sl B 3 w v (ZAB r))(hd:(r.length:Int)=many)(hn:r.any (ZE8 · 20)=false) :
  Calls Tryz.prog 67 #[v,.int .i64 many,.int .i64 20] w fun e w'=>e=.returned (.int .i64 0)∧Below w.heap.size w w':=by
 subst hd
 refine (ZIk B r.length 20 r v w hv (by decide) (by decide)).mono ?_
 rintro e b ⟨rfl,a⟩;rw [hn]
 exact ⟨by simp,a⟩
theorem ZCR(d:Nat)(rows:List (List Int))(v:Value)(w:World)(hv:Mat w.heap.size 22 3 w v rows)(hc:CutOk d rows) :
  Calls Tryz.prog 50 #[.agg #[.int .i64 d,v]] w fun e w'=>e=.returned (.int .i64 0)∧Below w.heap.size w w':=by
 obtain ⟨A,l,x,N,T⟩:=ZAE hv;subst x;have Q:Hid (Mat w.heap.size 22 3 w (.slice A rows.length l) rows):=hv;have J:=hid hc
 have h1:(1:Int)≤(d:Int):=by have:=hc.d1; omega
 have M:¬(d:Int) < 1:=by omega
 have h4:(d:Int)≤4:=by have:=hc.d3; omega
 have Y:=hc.n12
 have P:decide ((d:Int) < 1)=false:=by simp; omega
 obtain ⟨a,c⟩:∃a,a=w.alloc (.cells #[.int .i64 d,.slice A rows.length l] 61):=⟨_,rfl⟩
 have F:=hid c
 have n:Hid (Below w.heap.size w a):=by rw [c]; exact ZAG _ _
 have E:Hid (a.cell? ⟨w.heap.size,0,none⟩=some (.int .i64 d)):=by
  have R:a.heap[w.heap.size]?=some (.cells #[.int .i64 d,.slice A rows.length l] 61 (0,0)):=by rw [c]; exact ZAM _ _
  show a.cell? _=_
  simp [World.cell?,R]
 have D:Hid (a.heap.size=w.heap.size+1):=by rw [c]; exact size_alloc _ _
 clear hv hc c;go_enter Tryz.func50,Tryz.ntmps50;go_wp2;rw [←F.out]
 go_loopw [21] (fun i wr=>∃k:Nat,k≤rows.length∧i=.int .i64 k∧Below a.heap.size a wr) (fun i _=>rows.length-(intOf i).toNat)
 case atStart=>exact ⟨0,Za5 _,rfl,Below.refl _ _⟩
 case round=>
  obtain ⟨k,hk,rfl,t⟩:=hrel;have L:=hid t;have f:Below w.heap.size w wr:=n.out.trans (t.mono n.out.size);have B:=hid f
  have z:wr.cell? ⟨w.heap.size,0,none⟩=some (.int .i64 d):=(t.cell (p:=⟨w.heap.size,0,none⟩) (by have:=D.out; show w.heap.size < _; omega)).trans E.out
  clear t
  by_cases hlt:k < rows.length
  ·obtain ⟨vb,O,U,G,r,_,g,s⟩:=ZAP (Q.out.below f (Za4 _)) hlt
   simp only [Za3] at r;obtain ⟨rfl,_,rfl⟩:=r
   have b:rows.getD k []∈rows:=by simp [hlt]
   have j:=J.out.len _ b
   have o:Hid (Calls Tryz.prog 67 #[G,.int .i64 ((d:Int)+1),.int .i64 20] wr fun e w'=>e=.returned (.int .i64 0)∧Below wr.heap.size wr w'):=
    ZKl _ (rows.getD k []) G _ wr s (by rw [j]; omega) (ZOD (J.out.bd _ b))
   clear s j b f
   have V:(0:Int)≤(k:Int):=by omega
   have X:(k:Int) < (rows.length:Int):=by omega
   go_wp2_with fail
   refine o.out.mono ?_;rintro e S ⟨rfl,m⟩;have y:Hid (Below a.heap.size a S):=L.out.trans (m.mono L.out.size);clear m g z o;go_wp2
   go_roundw
   case rel=>exact ⟨k+1,by omega,by go_num,y.out⟩
   case measure=>simp [intOf]; omega
  ·clear f
   go_wp2;go_ret;exact ⟨rfl,B.out⟩
theorem ZFQ(d:Nat)(rows:List (List Int))(v:Value)(w:World)(hv:Mat w.heap.size 22 3 w v rows)(hc:CutOk d rows) :
  Calls Tryz.prog 51 #[.agg #[.int .i64 d,v]] w fun e w'=>e=.returned (.bool (ZDP d rows))∧Below w.heap.size w w':=by
 obtain ⟨i,f,j,o,t⟩:=ZAE hv;subst j
 have n:Hid (Calls Tryz.prog 79 #[.slice i rows.length f,.int .i64 d] (w.alloc (.cells #[.int .i64 d,.slice i rows.length f] 61)) fun e w'=>∃p q u,e=.returned (.tuple #[.agg #[p,q,.int .i64 u],.bool (ZDP d rows)])∧(∃a b c,p=.slice a b c)∧(∃a b c,q=.slice a b c)∧Below w.heap.size w w'):=by
  have s:Mat (w.alloc (.cells #[.int .i64 d,.slice i rows.length f] 61)).heap.size 22 3 (w.alloc (.cells #[.int .i64 d,.slice i rows.length f] 61)) (.slice i rows.length f) rows:=(hv.below (ZAG w _) (Za4 _)).more (by simp)
  refine (ZHl rows d _ _ s (fun r hr=>⟨hc.len r hr,fun z hz=>by have:=hc.bd r hr z hz; omega⟩) hc.d3 (by have:=hc.n12; omega)).mono ?_
  rintro e w' ⟨M,rfl,x,A⟩
  have g:Below w.heap.size w w':=(ZAG w _).trans (A.mono (by simp))
  rcases x with ⟨_,rfl⟩ | ⟨c,l,co,cc,po,pc,_,rfl,_,_⟩
  ·exact ⟨_,_,_,rfl,⟨_,_,_,rfl⟩,⟨_,_,_,rfl⟩,g⟩
  ·exact ⟨_,_,_,rfl,⟨_,_,_,rfl⟩,⟨_,_,_,rfl⟩,g⟩
 clear hv hc;generalize ZDP d rows=eb at *;go_enter Tryz.func51,Tryz.ntmps51
 go_wp2_with fail
 refine n.out.mono ?_;rintro e G ⟨p,q,u,rfl,⟨E,J,B,rfl⟩,⟨F,D,L,rfl⟩,g⟩;have y:=hid g;have m:=g.size;clear g n;go_wp2;go_ret;exact ⟨rfl,y.out.alloc m _⟩
theorem ZM8(d:Nat)(rows:List (List Int))(v:Value)(w:World)(hv:Mat w.heap.size 22 3 w v rows)(hc:CutOk d rows) :
  Calls Tryz.prog 157 #[.agg #[.int .i64 d,v]] w fun e w'=>e=.returned (.tuple #[.bool (ZDP d rows),.int .i64 0])∧Below w.heap.size w w':=by
 obtain ⟨j,a,t,F,J⟩:=ZAE hv;subst t;have D:Hid (Mat w.heap.size 22 3 w (.slice j rows.length a) rows):=hv;have E:=hid hc
 obtain ⟨A,g⟩:∃A,A=ZDP d rows:=⟨_,rfl⟩
 rw [←g];have y:=hid g;clear hv hc g
 obtain ⟨W,p⟩:∃W,W=w.alloc (.cells #[.int .i64 d,.slice j rows.length a] 61):=⟨_,rfl⟩
 have c:Below w.heap.size w W:=by rw [p]; exact ZAG _ _
 have s:W.heap[w.heap.size]?=some (.cells #[.int .i64 d,.slice j rows.length a] 61 (0,0)):=by rw [p]; exact ZAM _ _
 have m:W.heap.size=w.heap.size+1:=by rw [p]; simp
 have L:Hid (Calls Tryz.prog 50 #[.agg #[.int .i64 d,.slice j rows.length a]] W fun e w'=>e=.returned (.int .i64 0)∧Below W.heap.size W w'):=ZCR d rows _ W ((D.out.below c (Za4 _)).more c.size) E.out
 have G:=hid p;have r:=hid c;have x:=hid s;have B:=hid m;clear p c s m;go_enter Tryz.func157,Tryz.ntmps157
 go_wp2_with fail
 rw [←G.out];refine L.out.mono ?_;rintro e f ⟨rfl,i⟩;have b:Below w.heap.size w f:=r.out.trans (i.mono r.out.size)
 have N:Hid (Calls Tryz.prog 51 #[.agg #[.int .i64 d,.slice j rows.length a]] f fun e w'=>e=.returned (.bool A)∧Below f.heap.size f w'):=by
  rw [y.out];exact ZFQ d rows _ f ((D.out.below b (Za4 _)).more b.size) E.out
 have l:f.heap[w.heap.size]?=some (.cells #[.int .i64 d,.slice j rows.length a] 61 (0,0)):=(i.block _ (by have:=B.out; omega)).trans x.out
 have O:f.cell? ⟨w.heap.size,0,none⟩=some (.int .i64 d):=by simp [World.cell?,l]
 have P:f.cell? ⟨w.heap.size,1,none⟩=some (.slice j rows.length a):=by simp [World.cell?,l]
 have n:=hid b;clear i b l
 go_wp2_with fail
 refine N.out.mono ?_;rintro e M ⟨rfl,o⟩;have z:Hid (Below w.heap.size w M):=n.out.trans (o.mono n.out.size);clear o;go_wp2
 go_ret2
 exact ⟨rfl,z.out⟩
end Go.Proofs.YtgfnmkenpgnllaaGreat
namespace Go.Proofs.YtgfnmkenpgnllaaGreat
open Lin
def ZOE(d:Nat)(m:List (List Int)):Prop:=
 ∃a:Nat→Int,(∃i,i < d∧a i≠0)∧(∀r∈m,dot d (V r) a=0)∧∀u:Nat→Int,(∀r∈m,dot d (V r) u=0)→Par d u a
theorem ZGk{d:Nat}{m:List (List Int)} : ZAp d m=true↔ZOE d m:=by
 constructor
 ·intro h
  have c:(ZAK d m).length+1=d:=by simpa [ZAp] using h
  obtain ⟨f,b,g⟩:=ZBc c;exact ⟨_,f,b,g⟩
 ·rintro ⟨a,f,b,g⟩
  have i:=ZDj (ZAy d m) (a:=a) f (fun r hr=>by
   obtain ⟨l,c,rfl⟩:=ZCE.1 hr
   exact b l c) (fun u hu=>g u (fun r hr=>hu (V r) (ZCE.2 ⟨r,hr,rfl⟩)))
  rw [ZA0] at i
  simpa [ZAp] using i
end Go.Proofs.YtgfnmkenpgnllaaGreat
namespace Go.Proofs.YtgfnmkenpgnllaaGreat
open Go.RowKit
attribute [local go_sem ↓] Go.wp_at_zero Go.wp_at_succ
theorem ZKm{w:World}{b:Nat}{x u:Value}{t:TypeId}(h:w.heap[b]?=some (.cells #[x] t (0,0))):(w.setCell ⟨b,0,none⟩ u).heap[b]?=some (.cells #[u] t (0,0)):=by
 simp [World.setCell,Array.getElem?_modify,h]
theorem ZM9{B R n j:Nat}{e:TypeId}{w:World}{v u:Value}{xs:List Value}(h:w.ownsRow B e 1 v n xs)(hR:R < B):(w.setCell ⟨R,j,none⟩ u).ownsRow B e 1 v n xs:=by
 refine ⟨h.1,?_⟩
 rcases h.2 with h2 | ⟨k,cap,cur,rfl,hb,hh,r⟩
 ·exact Or.inl h2
 ·exact Or.inr ⟨k,cap,cur,rfl,hb,(Below.heap_setCell w _ u k (by show k≠R; omega)).trans hh,r⟩
end Go.Proofs.YtgfnmkenpgnllaaGreat
namespace Go.Proofs.YtgfnmkenpgnllaaGreat
open Go.RowKit
def chs:Nat→List (List Int)→List (List (List Int))
 | 0,_=>[[]]
 | _+1,[]=>[]
 | k+1,x :: xs=>((chs k xs).map (x :: ·)) ++ chs (k+1) xs
theorem ZFx:∀k l,(chs k l).length≤(l.length+1) ^ k
 | 0,_=>by simp [chs]
 | k+1,[]=>by simp [chs]
 | k+1,x :: xs=>by
  have h1:=ZFx k xs;have h2:=ZFx (k+1) xs;simp only [chs,Zaa4,Zab1,List.length_cons];have h3:(xs.length+1) ^ (k+1)=(xs.length+1) ^ k*(xs.length+1):=Nat.pow_succ _ _;have h4:(xs.length+1+1) ^ (k+1)=(xs.length+1+1) ^ k*(xs.length+1+1):=Nat.pow_succ _ _
  have h5:(xs.length+1) ^ k≤(xs.length+1+1) ^ k:=Nat.pow_le_pow_left (by omega) k
  have h6:(xs.length+1) ^ k*(xs.length+1)+(xs.length+1) ^ k≤(xs.length+1+1) ^ k*(xs.length+1+1):=by
   have:(xs.length+1) ^ k*(xs.length+1)+(xs.length+1) ^ k=(xs.length+1) ^ k*(xs.length+1+1):=(Nat.mul_succ _ _).symm;rw [this]; exact Nat.mul_le_mul_right _ h5
  omega
theorem ZFy:∀(k:Nat) (l:List (List Int)),chs k l=chz k l
 | 0,l=>by cases l <;> simp [chs,chz]
 | k+1,[]=>by simp [chs,chz]
 | k+1,x :: xs=>by
  simp only [chs,chz];rw [ZFy k xs,ZFy (k+1) xs]
theorem ZKn:∀(k:Nat) {n fr:Nat} {c:List Int},c.length=k→(∀i,i < k→(fr:Int)≤c.getD i 0∧c.getD i 0 < n)→(∀i j,i < j→j < k→c.getD i 0 < c.getD j 0)→c∈ext n k fr
 | 0,n,fr,c,hl,_,_=>by
  have:=List.eq_nil_of_length_eq_zero hl;subst this;simp [ext]
 | k+1,n,fr,c,hl,hb,hr=>by
  cases c with
  | nil=>simp at hl
  | cons a c=>
   have h0:=hb 0 (by omega)
   simp only [List.getD_cons_zero] at h0;simp only [ext,List.mem_flatMap,List.mem_map,List.mem_range'_1]
   refine ⟨a.toNat,by omega,c,ZKn k (by simpa using hl) (fun i hi=>?_) (fun i j hij hj=>?_),by congr 1; omega⟩
   ·have h1:=hb (i+1) (by omega)
    have h2:=hr 0 (i+1) (by omega) (by omega)
    simp only [List.getD_cons_succ,List.getD_cons_zero] at h1 h2
    exact ⟨by omega,h1.2⟩
   ·have h2:=hr (i+1) (j+1) (by omega) (by omega)
    simpa only [List.getD_cons_succ] using h2
theorem ZJV{k n:Nat}{c:List Int} : c∈ZAO k n↔c∈ext n k 0:=by
 constructor
 ·intro h
  obtain ⟨b,a⟩:=ZBq k n c h
  exact ZKn k (ZBB k n c h) (fun i hi=>by have:=b i hi; exact ⟨by simpa using this.1,this.2⟩) a
 ·intro h
  obtain ⟨b,a,f⟩:=ZBi h
  have:=ZFB k n (fun i=>(c.getD i 0).toNat) ⟨fun i j hij hj=>by
   have l:=f i j hij hj
   have d:=a i (by omega)
   show (c.getD i 0).toNat < (c.getD j 0).toNat
   omega,fun i hi=>by
   have d:=a i hi
   show (c.getD i 0).toNat < n
   omega⟩
  have e:((List.range k).map fun i=>(((c.getD i 0).toNat:Nat):Int))=c:=by
   apply List.ext_getElem
   ·simp [b]
   ·intro i l d
    have:=a i (by omega)
    have g:c.getD i 0=c[i]:=by simp [show i < c.length by omega]
    simp only [List.getElem_map,List.getElem_range];rw [←g];omega
  rw [e] at this;exact this
end Go.Proofs.YtgfnmkenpgnllaaGreat
namespace Go.Proofs.YtgfnmkenpgnllaaGreat
def ngR(d:Nat)(r:List Int):List Int:=r.take d ++ [-(r.getD d 0)]
theorem ZEc{d:Nat}{r:List Int}(h:r.length=d+1):(ngR d r).length=d+1:=by simp [ngR,h]
theorem ZEd{d i:Nat}{r:List Int}(h:r.length=d+1)(hi:i < d+1):(ngR d r).getD i 0=if i=d then -(r.getD d 0) else r.getD i 0:=by
 unfold ngR
 by_cases e:i=d
 ·subst e
  rw [if_pos rfl];simp [h]
 ·rw [if_neg e]
  have a:i < (r.take d).length:=by simp [h]; omega
  rw [Za2,Za7 a,Zaa5 (by omega),←Za2]
def ptY(d:Nat)(t:List (List Int)):List Int:=
 if (ZAR (d+1) (t.map (ngR d))).getD d 0 < 0 then (ZAR (d+1) (t.map (ngR d))).map (fun z=>-z) else ZAR (d+1) (t.map (ngR d))
def ptK(R:List (List Int))(d:Nat)(y:List Int):Bool:=R.all fun r=>decide (ZC9 (r.take d) y≤r.getD d 0*y.getD d 0)
def ptT(R:List (List Int))(d:Nat)(t:List (List Int)):Option (List Int):=
 if ZAp (d+1) (t.map (ngR d))=true∧(ZAR (d+1) (t.map (ngR d))).getD d 0≠0∧ptK R d (ptY d t)=true then some (ptY d t) else none
end Go.Proofs.YtgfnmkenpgnllaaGreat
namespace Go.Proofs.YtgfnmkenpgnllaaGreat
open Lin
def Fea(d:Nat)(rows:List (List Int))(x:Nat→Int)(w:Int):Prop:=0 < w∧∀r∈rows,dot d (V r) x≤V r d*w
theorem ZDE(d:Nat)(a x:Nat→Int):dot (d+1) a x=dot d a x+a d*x d:=rfl
theorem ZIl(d:Nat)(c:Nat→Int):dot (ZBx d).length c (V (ZBx d))=- c d:=by
 rw [ZBL,ZDE]
 have b:dot d c (V (ZBx d))=0:=by
  rw [ZAV]
  refine ZBS fun i hi=>?_
  simp [V,ZBx,show i < d+1 by omega,show ¬i=d by omega]
 have a:V (ZBx d) d=-1:=by simp [V,ZBx]
 rw [b,a]; omega
theorem ZDZ{d:Nat}{rows:List (List Int)} : ZDP d rows=false↔∃x w,Fea d rows x w:=by
 have f:ZDP d rows=false↔ZAZ rows (ZBx d)=[]:=by
  unfold ZDP
  cases ZAZ rows (ZBx d) <;> simp
 rw [f,ZCQ]
 constructor
 ·rintro ⟨c,a,b⟩
  rw [ZIl] at b
  refine ⟨c,- c d,b,fun r hr=>?_⟩
  have:=a r hr;rw [ZBL,ZDE,ZAV] at this
  have e:V r d * - c d=-(c d*V r d):=by grind
  omega
 ·rintro ⟨x,w,g,h⟩
  refine ⟨fun k=>if k=d then -w else x k,fun r hr=>?_,?_⟩
  ·have a:=h r hr
   rw [ZBL,ZDE];simp only [if_true]
   have e:dot d (fun k=>if k=d then -w else x k) (V r)=dot d (V r) x:=by
    rw [ZAV]
    exact ZAb (fun _ _=>rfl) fun i hi=>by rw [if_neg (by omega)]
   rw [e]
   have j : -w*V r d=-(V r d*w):=by grind
   omega
  ·rw [ZIl]
   simp only [if_true]; omega
def axR(d k:Nat):List Int:=(List.range (d+1)).map fun j=>if j=k then 1 else 0
def ZFz(d:Nat):List (List Int):=(List.range d).map (axR d)
def ZE2(d:Nat)(rows:List (List Int)):List (List Int):=rows ++ ZFz d
theorem ZHm(d k:Nat):(axR d k).length=d+1:=by simp [axR]
theorem ZQJ{d k j:Nat}(hj:j < d+1):V (axR d k) j=if j=k then 1 else 0:=by simp [V,axR,hj]
theorem ZKo{d k:Nat}(hk:k < d)(x:Nat→Int):dot d (V (axR d k)) x=x k:=by
 have:dot d (V (axR d k)) x=dot d (ZBf k) x:=ZAb (fun i hi=>by rw [ZQJ (by omega)]; rfl) fun _ _=>rfl
 rw [this,ZC1 hk]
theorem ZNA{d k:Nat}(hk:k < d):V (axR d k) d=0:=by rw [ZQJ (by omega),if_neg (by omega)]
def hom(d:Nat)(r:List Int):Nat→Int:=fun k=>if k=d then-V r d else V r k
theorem ZF0(d:Nat)(r:List Int)(c:Nat→Int):dot (d+1) c (hom d r)=dot d (V r) c-V r d*c d:=by
 rw [ZDE]
 have e:dot d c (hom d r)=dot d (V r) c:=by
  rw [ZAV]
  exact ZAb (fun i hi=>by unfold hom; rw [if_neg (by omega)]) fun _ _=>rfl
 rw [e];unfold hom;simp only [if_true]
 grind
theorem ZKp{d:Nat}{Z:List (Nat→Int)}{G:Nat→Int}(hax:∀v:Nat→Int,v d=0→(∃i,i < d∧v i≠0)→∃z∈Z,dot (d+1) v z≠0) :
  ∀(n:Nat) (c:Nat→Int),ZEA (d+1) Z c≤n→(∀z∈Z,dot (d+1) c z≤0)→0 < c d→(∀v:Nat→Int,v d=0→(∀z∈Z,dot (d+1) c z=0→dot (d+1) v z=0)→dot d G v=0)→
  ∃c':Nat→Int,(∀z∈Z,dot (d+1) c' z≤0)∧0 < c' d∧dot d G c'*c d=dot d G c*c' d∧∀v:Nat→Int,v d=0→(∀z∈Z,dot (d+1) c' z=0→dot (d+1) v z=0)→∀i,i < d→v i=0:=by
 intro n
 induction n with
 | zero=>
  intro c E t f A
  refine ⟨c,t,f,rfl,fun v hv j i B=>?_⟩
  apply Za6
  intro l;obtain ⟨z,a,o⟩:=hax v hv ⟨i,B,l⟩
  have b:ZEA (d+1) Z c=0:=by omega
  unfold ZEA at b;rw [List.countP_eq_zero] at b
  exact o (j z a (by have:=b z a; simpa using this))
 | succ n ih=>
  intro c E t f A
  by_cases hs:∀v:Nat→Int,v d=0→(∀z∈Z,dot (d+1) c z=0→dot (d+1) v z=0)→∀i,i < d→v i=0
  ·exact ⟨c,t,f,rfl,hs⟩
  ·have:∃v:Nat→Int,v d=0∧(∀z∈Z,dot (d+1) c z=0→dot (d+1) v z=0)∧∃z∈Z,0 < dot (d+1) v z:=by
    apply Za6
    intro m
    apply hs
    intro v hv j i B
    apply Za6
    intro l;obtain ⟨z,a,o⟩:=hax v hv ⟨i,B,l⟩
    by_cases x:0 < dot (d+1) v z
    ·exact m ⟨v,hv,j,z,a,x⟩
    ·refine m ⟨fun k=>- v k,by simp [hv],fun z hz' b=>by rw [ZBl,j z hz' b]; rfl,z,a,by rw [ZBl]; omega⟩
   obtain ⟨v,hv,j,x⟩:=this;obtain ⟨s,r,y,M,O,Q⟩:=ray t j x
   have p:0 < s*c d+r*v d:=by rw [hv]; have:=Int.mul_pos y f; omega
   have g:∀z∈Z,dot (d+1) c z=0→dot (d+1) (fun k=>s*c k+r*v k) z=0:=fun z a b=>by rw [ZBI,b,j z a b]; omega
   obtain ⟨c',N,P,D,F⟩:=ih (fun k=>s*c k+r*v k) (by omega) O p (fun u hu hzu=>A u hu fun z a b=>hzu z a (g z a b))
   refine ⟨c',N,P,?_,F⟩
   have L:dot d G (fun k=>s*c k+r*v k)=s*dot d G c:=by
    rw [ZAV,ZBI,ZAV d c,ZAV d v,A v hv j]; omega
   rw [L,hv] at D
   have J:s*(dot d G c'*c d)=s*(dot d G c*c' d):=by
    have:dot d G c'*(s*c d+r*0)=s*(dot d G c'*c d):=by grind
    rw [←this,D]; grind
   exact Int.eq_of_mul_eq_mul_left (by omega) J
def ZJW(d:Nat)(rows:List (List Int))(c:Nat→Int):List (List Int):=(ZE2 d rows).filter fun r=>decide (dot d (V r) c=V r d*c d)
theorem ZNB(c:Nat)(m:List (List Int)):(ZAK c m).Sublist m:=by
 have:∀(m h:List (List Int)),∃s,s.Sublist m∧m.foldl (fun h r=>if ZA6 c (h ++ [r]) then h ++ [r] else h) h=h ++ s:=by
  intro m
  induction m with
  | nil=>intro h; exact ⟨[],List.Sublist.refl _,by simp⟩
  | cons x m ih=>
   intro h;rw [List.foldl_cons]
   by_cases hf:ZA6 c (h ++ [x])=true
   ·rw [if_pos hf]
    obtain ⟨s,a,b⟩:=ih (h ++ [x])
    exact ⟨x :: s,a.cons_cons _,by rw [b]; simp⟩
   ·rw [if_neg hf]
    obtain ⟨s,a,b⟩:=ih h;exact ⟨s,a.cons _,b⟩
 obtain ⟨s,a,b⟩:=this m [];unfold ZAK;rw [b]; simpa using a
theorem ZKq{d:Nat}{r:List Int}(hr:r.length=d+1)(u:Nat→Int):dot (d+1) (V (ngR d r)) u=dot d (V r) u-V r d*u d:=by
 rw [ZDE]
 have b:dot d (V (ngR d r)) u=dot d (V r) u:=ZAb (fun i hi=>by unfold V; rw [ZEd hr (by omega),if_neg (by omega)]) fun _ _=>rfl
 have a:V (ngR d r) d=- V r d:=by unfold V; rw [ZEd hr (by omega),if_pos rfl]
 rw [b,a]; grind
theorem ZGl{d:Nat}{r:List Int}(hr:r.length=d+1)(y:List Int):ZC9 (r.take d) y=dot d (V r) (V y):=by
 unfold ZC9 dot
 rw [List.length_take,hr,show min d (d+1)=d by omega]
 refine ZAC fun i hi=>?_
 unfold V;rw [Za2,Zaa5 hi,Za2,Za2]
theorem ZKr{d:Nat}{rows:List (List Int)}(hl:∀r∈rows,r.length=d+1){y:List Int} : ptK rows d y=true↔∀r∈rows,dot d (V r) (V y)≤V r d*V y d:=by
 unfold ptK;rw [List.all_eq_true]
 constructor
 ·intro h r a
  have:=h r a;rw [decide_eq_true_eq,ZGl (hl r a)] at this;exact this
 ·intro h r a
  rw [decide_eq_true_eq,ZGl (hl r a)];exact h r a
theorem ZRA{d:Nat}{rows t:List (List Int)}{c:Nat→Int}(hl:∀r∈rows,r.length=d+1)(ht:∀r∈t,r.length=d+1)(hcd:0 < c d)(hfea:∀r∈rows,dot d (V r) c≤V r d*c d)
 (hmet:∀r∈t,dot d (V r) c=V r d*c d)(hspan:∀v:Nat→Int,(∀r∈t,dot d (V r) v=0)→∀i,i < d→v i=0):∃y,ptT rows d t=some y∧0 < V y d∧∀i,i < d+1→V y i*c d=c i*V y d:=by
 have n:ZOE (d+1) (t.map (ngR d)):=by
  refine ⟨c,⟨d,by omega,by omega⟩,fun r hr=>?_,fun u hu=>?_⟩
  ·obtain ⟨q,g,rfl⟩:=List.mem_map.1 hr
   rw [ZKq (ht q g),hmet q g]; omega
  ·have M:=hspan (fun k=>c d*u k+(-(u d))*c k) fun r hr=>by
    have A:=hu (ngR d r) (List.mem_map.2 ⟨r,hr,rfl⟩);rw [ZKq (ht r hr)] at A;have B:=hmet r hr;rw [ZAV,ZBI,ZAV d u,ZAV d c,B]
    have L:dot d (V r) u=V r d*u d:=by omega
    rw [L]; grind
   have l:∀i,i < d+1→c d*u i=u d*c i:=fun i b=>by
    by_cases e:i=d
    ·rw [e]; exact Int.mul_comm _ _
    ·have:=M i (by omega)
     grind
   intro i j b J
   have e:c d*(u i*c j-u j*c i)=0:=by
    have:c d*(u i*c j-u j*c i)=(c d*u i)*c j-(c d*u j)*c i:=by grind
    rw [this,l i b,l j J]; grind
   rcases Int.mul_eq_zero.1 e with h | h
   ·omega
   ·omega
 have F:=ZGk.2 n
 have o:(ZAK (d+1) (t.map (ngR d))).length+1=d+1:=by simpa [ZAp] using F
 obtain ⟨⟨p,G,x⟩,_,m⟩:=ZBc o
 have z:∀r∈t.map (ngR d),dot (d+1) (V r) c=0:=fun r hr=>by
  obtain ⟨q,g,rfl⟩:=List.mem_map.1 hr;rw [ZKq (ht q g),hmet q g]; omega
 have a:=m c z
 have f:V (ZAR (d+1) (t.map (ngR d))) d≠0:=fun e=>by
  have:=a p d G (by omega)
  rw [e,Int.mul_zero] at this
  rcases Int.mul_eq_zero.1 this.symm with h | h
  ·omega
  ·exact x h
 -- which way it looks
 have s:0 < V (ptY d t) d∧∀i,i < d+1→V (ptY d t) i*c d=c i*V (ptY d t) d:=by
  unfold ptY;have E:(ZAR (d+1) (t.map (ngR d))).getD d 0≠0:=f
  by_cases hn:(ZAR (d+1) (t.map (ngR d))).getD d 0 < 0
  ·rw [if_pos hn]
   have D:V (ZAR (d+1) (t.map (ngR d))) d < 0:=hn
   refine ⟨by rw [ZKV]; omega,fun i b=>?_⟩
   have:=a i d b (by omega)
   rw [ZKV,ZKV]
   grind
  ·rw [if_neg hn]
   have D:¬V (ZAR (d+1) (t.map (ngR d))) d < 0:=hn
   refine ⟨by omega,fun i b=>?_⟩
   have:=a i d b (by omega)
   grind
 have hK:∀r∈rows,dot d (V r) (V (ptY d t))≤V r d*V (ptY d t) d:=fun r hr=>by
  have A:=hfea r hr
  have e:dot d (V r) (V (ptY d t))*c d=dot d (V r) c*V (ptY d t) d:=by
   unfold dot;rw [←ZAU,←ZAU]
   refine ZAC fun i b=>?_
   have:=s.2 i (by omega)
   grind
  have B:dot d (V r) (V (ptY d t))*c d≤V r d*V (ptY d t) d*c d:=by
   rw [e];have:=Int.mul_le_mul_of_nonneg_right A (Int.le_of_lt s.1)
   have N:V r d*V (ptY d t) d*c d=V r d*c d*V (ptY d t) d:=by grind
   omega
  exact Int.le_of_mul_le_mul_right B hcd
 refine ⟨ptY d t,?_,s.1,s.2⟩;unfold ptT;rw [if_pos ⟨F,f,(ZKr hl).2 hK⟩]
theorem ZQK{d:Nat}{rows t:List (List Int)}{y:List Int}(hl:∀r∈rows,r.length=d+1)(h:ptT rows d t=some y):Fea d rows (V y) (V y d):=by
 unfold ptT at h
 split at h
 case isTrue hc=>
  simp only [Zaa9] at h;subst h;refine ⟨?_,(ZKr hl).1 hc.2.2⟩;have a:=hc.2.1;unfold ptY
  by_cases hn:(ZAR (d+1) (t.map (ngR d))).getD d 0 < 0
  ·rw [if_pos hn,ZKV]
   have b:V (ZAR (d+1) (t.map (ngR d))) d < 0:=hn;omega
  ·rw [if_neg hn]
   have c:V (ZAR (d+1) (t.map (ngR d))) d≠0:=a;have f:¬V (ZAR (d+1) (t.map (ngR d))) d < 0:=hn;omega
 case isFalse=>cases h
theorem ZRB{d:Nat}{rows:List (List Int)}(hl:∀r∈rows,r.length=d+1){x:Nat→Int}{w:Int}(hf:Fea d rows x w){G:Nat→Int}
 (hG:∀v:Nat→Int,(∀r∈rows,dot d (V r) x=V r d*w→dot d (V r) v=0)→dot d G v=0) :
  ∃t y,t.Sublist (ZE2 d rows)∧t.length=d∧ptT rows d t=some y∧0 < V y d∧dot d G (V y)*w=dot d G x*V y d:=by
 obtain ⟨σ,X⟩:∃σ:Nat→Int,σ=fun k=>if 0≤x k then 1 else -1:=⟨_,rfl⟩
 have s:∀k,(σ k=1∧0≤x k)∨(σ k=-1∧x k < 0):=fun k=>by
  rw [X]
  by_cases h:0≤x k
  ·simp [h]
  ·simp [h]; omega
 obtain ⟨Z,P⟩:∃Z:List (Nat→Int),Z=rows.map (hom d) ++ (List.range d).map fun k=>fun j=>if j=k then-σ k else 0:=⟨_,rfl⟩
 have B:∀r∈rows,hom d r∈Z:=fun r a=>by rw [P]; exact List.mem_append_left _ (List.mem_map.2 ⟨r,a,rfl⟩)
 have M:∀k,k < d→(fun j=>if j=k then-σ k else 0)∈Z:=fun k f=>by rw [P]; exact List.mem_append_right _ (List.mem_map.2 ⟨k,by simpa using f,rfl⟩)
 have g:∀k,k < d→∀c:Nat→Int,dot (d+1) c (fun j=>if j=k then-σ k else 0)=- σ k*c k:=fun k f c=>by
  have:dot (d+1) c (fun j=>if j=k then-σ k else 0)=- σ k*dot (d+1) (ZBf k) c:=by
   unfold dot;rw [←ZAX]
   refine ZAC fun i _=>?_
   unfold ZBf
   by_cases e:i=k
   ·simp only [e,if_true]; grind
   ·simp [e]
  rw [this,ZC1 (by omega)]
 have D:∀z∈Z,(∃r∈rows,z=hom d r)∨∃k,k < d∧z=fun j=>if j=k then-σ k else 0:=fun z hz=>by
  rw [P] at hz
  rcases List.mem_append.1 hz with h | h
  ·obtain ⟨r,a,rfl⟩:=List.mem_map.1 h
   exact .inl ⟨r,a,rfl⟩
  ·obtain ⟨k,f,rfl⟩:=List.mem_map.1 h
   exact .inr ⟨k,by simpa using f,rfl⟩
 have A:∀r∈rows,dot (d+1) (fun k=>if k=d then w else x k) (hom d r)=dot d (V r) x-V r d*w:=fun r _=>by
  rw [ZF0];simp only [if_true]
  congr 1
  exact ZAb (fun _ _=>rfl) fun i m=>by rw [if_neg (by omega)]
 have O:dot d G (fun k=>if k=d then w else x k)=dot d G x:=ZAb (fun _ _=>rfl) fun i m=>by rw [if_neg (by omega)]
 obtain ⟨c,k1,k2,Q,Y⟩:=ZKp (d:=d) (Z:=Z) (G:=G) (fun v hv ⟨i,m,hne⟩=>⟨_,M i m,by
   rw [g i m]
   rcases s i with ⟨h,_⟩ | ⟨h,_⟩ <;> rw [h] <;> omega⟩) _ (fun k=>if k=d then w else x k) (Za4 _) (fun z hz=>by
   rcases D z hz with ⟨r,a,rfl⟩ | ⟨k,f,rfl⟩
   ·rw [A r a]; have:=hf.2 r a; omega
   ·rw [g k f,if_neg (by omega)]
    rcases s k with ⟨h,hx⟩ | ⟨h,hx⟩ <;> rw [h] <;> omega) (by simp only [if_true]; exact hf.1) (fun v hv hz=>hG v fun r a hrt=>by
   have:=hz _ (B r a) (by rw [A r a,hrt]; omega)
   rw [ZF0,hv] at this;omega)
 rw [O] at Q;simp only [if_true] at Q
 have R:∀r∈rows,dot d (V r) c≤V r d*c d:=fun r a=>by
  have:=k1 _ (B r a);rw [ZF0] at this;omega
 have p:∀v:Nat→Int,(∀r∈ZJW d rows c,dot d (V r) v=0)→∀i,i < d→v i=0:=by
  intro v hv i m
  have:=Y (fun k=>if k=d then 0 else v k) (by simp) (fun z hz h0=>by
   rcases D z hz with ⟨r,a,rfl⟩ | ⟨k,f,rfl⟩
   ·rw [ZF0] at h0 ⊢
    simp only [if_true]
    have E:dot d (V r) (fun k=>if k=d then 0 else v k)=dot d (V r) v:=ZAb (fun _ _=>rfl) fun i m=>by rw [if_neg (by omega)]
    rw [E,hv r (by
     unfold ZJW ZE2;rw [List.mem_filter]
     exact ⟨List.mem_append_left _ a,by simp; omega⟩)]
    omega
   ·rw [g k f] at h0 ⊢
    have L:c k=0:=by
     rcases s k with ⟨h,_⟩ | ⟨h,_⟩ <;> rw [h] at h0 <;> omega
    have U:=hv (axR d k) (by
     unfold ZJW ZE2;rw [List.mem_filter]
     refine ⟨List.mem_append_right _ (List.mem_map.2 ⟨k,by simpa using f,rfl⟩),?_⟩
     rw [decide_eq_true_eq,ZKo f,ZNA f,L]; omega)
    rw [ZKo f] at U
    rw [if_neg (by omega),U]; omega) i m
  rw [if_neg (by omega)] at this
  exact this
 have T:=ZAy d (ZJW d rows c)
 have b:=(ZCl T).2 fun v hv=>p v fun r a=>hv (V r) (ZCE.2 ⟨r,a,rfl⟩)
 rw [ZA0] at b;have n:=ZNB d (ZJW d rows c)
 have o:∀r∈ZAK d (ZJW d rows c),r.length=d+1∧dot d (V r) c=V r d*c d:=fun r a=>by
  have E:=List.mem_filter.1 (n.subset a)
  refine ⟨?_,by simpa using E.2⟩
  rcases List.mem_append.1 E.1 with h | h
  ·exact hl r h
  ·obtain ⟨k,_,rfl⟩:=List.mem_map.1 h
   exact ZHm d k
 obtain ⟨y,J,S,F⟩:=ZRA hl (fun r a=>(o r a).1) k2 R (fun r a=>(o r a).2) (fun v hv=>ZD9 T.free (by rw [ZA0]; exact b) fun r a=>by
  obtain ⟨l,N,rfl⟩:=ZCE.1 a;exact hv l N)
 refine ⟨_,y,n.trans List.filter_sublist,b,J,S,?_⟩
 have e:dot d G (V y)*c d=dot d G c*V y d:=by
  unfold dot;rw [←ZAU,←ZAU]
  refine ZAC fun i m=>?_
  have:=F i (by omega)
  grind
 have k6:c d*(dot d G (V y)*w)=c d*(dot d G x*V y d):=by
  have e1:c d*(dot d G (V y)*w)=(dot d G (V y)*c d)*w:=by grind
  have e2:c d*(dot d G x*V y d)=(dot d G x*c d)*V y d:=by grind
  rw [e1,e2,e,←Q]; grind
 exact Int.eq_of_mul_eq_mul_left (by omega) k6
def ZBk(d:Nat)(rows:List (List Int)):Bool:=(ZAO d (ZE2 d rows).length).all fun c=>(ptT rows d (pks (ZE2 d rows) [] c)).isNone
theorem ZJX{k:Nat}{L t:List (List Int)}(hs:t.Sublist L)(hl:t.length=k):∃c∈ZAO k L.length,pks L [] c=t:=by
 have a:=ZCM L [] k 0;rw [List.drop_zero] at a;have b:t∈chz k L:=ZBn.2 ⟨hs,hl⟩;rw [←a] at b;obtain ⟨c,d,f⟩:=List.mem_map.1 b;exact ⟨c,ZJV.2 d,f⟩
theorem ZO8{d:Nat}{rows:List (List Int)}(hl:∀r∈rows,r.length=d+1):ZBk d rows=ZDP d rows:=by
 cases he:ZDP d rows with
 | true=>
  unfold ZBk;rw [List.all_eq_true];intro c _
  cases hp:ptT rows d (pks (ZE2 d rows) [] c) with
  | none=>rfl
  | some y=>
   have:=ZDZ.2 ⟨_,_,ZQK hl hp⟩;rw [he] at this; cases this
 | false=>
  obtain ⟨x,w,j⟩:=ZDZ.1 he
  obtain ⟨t,y,b,i,f,_⟩:=ZRB hl j (G:=fun _=>0) (fun v _=>ZBS fun _ _=>rfl)
  obtain ⟨c,g,a⟩:=ZJX b i;rw [Bool.eq_false_iff];intro h;unfold ZBk at h;rw [List.all_eq_true] at h;have:=h c g;rw [a,f] at this
  cases this
end Go.Proofs.YtgfnmkenpgnllaaGreat
namespace Go.Proofs.YtgfnmkenpgnllaaGreat
open Go.RowKit
theorem ZCw{B:Nat}{w:World}{g cap n:Nat}{F:Nat→Value}{l:List Int}(r:w.rowIs g 3 cap F)(hF:∀i,i < n→F i=.int .i64 (l.getD i 0))(hl:l.length=n)(hn:n≤cap)(hc:cap≤9223372036854775807):Sl B 3 w (.slice (some ⟨g,0,none⟩) n cap) (ZAB l):=by
 refine ⟨some ⟨g,0,none⟩,cap,by simp [hl],by simpa [hl] using hn,by unfold maxLen; omega,fun i hi=>?_,fun h=>by cases h⟩
 have a:i < l.length:=by simpa using hi
 refine ⟨g,0,rfl,?_,?_⟩
 ·rw [Nat.zero_add,r.cell (by omega),hF i (by omega),ZAa _ _ a]
 ·obtain ⟨c,b,_,_⟩:=r
  exact Or.inr ⟨c,b⟩
theorem ZIm{B n:Nat}{e:TypeId}{w:World}{v:Value}{l:List Int}(h:w.ownsRow B e 1 v n (ZAB l))(hn:0 < n):∃g cap F,v=.slice (some ⟨g,0,none⟩) n cap∧B≤g∧w.rowIs g e cap F∧(∀i,i < n→F i=.int .i64 (l.getD i 0))∧n≤cap∧cap≤9223372036854775807:=by
 obtain ⟨a,b⟩:=h
 rcases b with ⟨_,h0⟩ | ⟨g,cap,cur,hu,hg,hh,hnc,hcm,hs,htk⟩
 ·omega
 ·have c:l.length=n:=by simpa [ZAB] using a
  refine ⟨g,cap,fun i=>cur.toList.getD i (.int .i64 0),hu,hg,⟨cur,hh,by omega,fun i hi=>?_⟩,fun i hi=>?_,hnc,by unfold maxLen at hcm; exact hcm⟩
  ·show cur[i]?=some (cur.toList.getD i (.int .i64 0))
   rw [←Array.getElem?_toList,Za2,Za9 (by simp; omega)]; rfl
  ·have d:cur.toList.getD i (.int .i64 0)=(ZAB l).getD i (.int .i64 0):=by
    rw [←htk];simp only [Za2]
    rw [Zaa5 (by omega)]
   show cur.toList.getD i (.int .i64 0)=_
   rw [d]
   simp [ZAB,show i < l.length by omega]
end Go.Proofs.YtgfnmkenpgnllaaGreat
namespace Go.Proofs.YtgfnmkenpgnllaaGreat
open Go.RowKit Lin
attribute [local go_sem ↓] Go.wp_at_zero Go.wp_at_succ
def Qe(w wr:World):Prop:=∃n,wr=w.drewN n
theorem Qe.refl(w:World):Qe w w:=⟨0,rfl⟩
theorem Qe.drewN{w wr:World}(h:Qe w wr)(k:Nat):Qe w (wr.drewN k):=by
 obtain ⟨n,rfl⟩:=h
 exact ⟨n+k,by rw [World.drewN_drewN]⟩
theorem Qe.below{N:Nat}{w wr:World}(h:Qe w wr):Below N w wr:=by
 obtain ⟨n,rfl⟩:=h
 exact ⟨rfl,rfl,rfl,Za4 _,fun _ _=>rfl⟩
theorem ZOF{B:Nat}{w w':World}{v v':Value}{m m2:List (List Int)}{vs us:List Value}
 (h1:vs.length=m.length)(h2:w.ownsRow B 22 1 v m.length vs)(h3:∀i,i < m.length→Sl 0 3 w (vs.getD i (.slice none 0 0)) (ZAB (m.getD i [])))
 (k1:us.length=m2.length)(k3:∀i,i < m2.length→Sl 0 3 w (us.getD i (.slice none 0 0)) (ZAB (m2.getD i [])))
 (ho:w'.ownsRow B 22 1 v' (m.length+m2.length) (vs ++ us))(hg:w.grownBy w' v.ownBlock):Fr B 22 3 w' v' (m ++ m2):=by
 have c:∀k,v.ownBlock=some k→0≤k∧∀cur,w.heap[k]?≠some (.cells cur 3 (0,0)):=fun k hk=>⟨Za5 _,(ZAz h2 (by decide) k hk).2⟩
 refine ⟨vs ++ us,by simp [h1,k1],by simpa using ho,fun i hi=>?_⟩
 by_cases hlt:i < m.length
 ·have a:(vs ++ us).getD i (.slice none 0 0)=vs.getD i (.slice none 0 0):=by
   simp only [Za2]; rw [Za7 (by omega)]
  have b:(m ++ m2).getD i []=m.getD i []:=by
   simp only [Za2]; rw [Za7 (by omega)]
  rw [a,b];exact (h3 i hlt).grown hg c
 ·have a:(vs ++ us).getD i (.slice none 0 0)=us.getD (i-m.length) (.slice none 0 0):=by
   simp only [Za2]; rw [Za8 (by omega),h1]
  have b:(m ++ m2).getD i []=m2.getD (i-m.length) []:=by
   simp only [Za2]; rw [Za8 (by omega)]
  rw [a,b]
  exact (k3 _ (by simp at hi; omega)).grown hg c
theorem ZB6{B:Nat}{e:TypeId}{w:World}{a:Addr}{n cap:Nat}{us:List Value}(h:Sl B e w (.slice (some a) n cap) us):∀j u,us[j]?=some u→w.cell? (a.add j)=some u:=by
 intro j u g;have f:j < us.length:=(List.getElem?_eq_some_iff.1 g).1;obtain ⟨p,c,hv,_,_,l,_⟩:=h;obtain ⟨b,o,d,m,_⟩:=l j f;simp only [Za3] at hv;rw [←hv.1] at d;simp only [Zaa9] at d;rw [d];have i:=m.trans g;unfold Addr.add
 by_cases e:j=0
 ·subst e; simpa using i
 ·simpa [e] using i
theorem ZEe{w:World}{m:List (List Int)}{us:List Value}(k1:us.length=m.length)(k3:∀i,i < m.length→Sl 0 3 w (us.getD i (.slice none 0 0)) (ZAB (m.getD i []))):∀u∈us,u.oneCell'=true:=by
 intro u b;obtain ⟨i,a,rfl⟩:=List.getElem_of_mem b
 have h:=k3 i (by omega)
 have e:us.getD i (.slice none 0 0)=us[i]:=by simp [a]
 rw [e] at h;obtain ⟨d,c,hv,_⟩:=ZAH h;rw [hv]; rfl
theorem Sl.takeE{B n c:Nat}{w:World}{ao:Option Addr}{zs:List Int}(h:Sl B 3 w (.slice ao zs.length c) (ZAB zs))(hn:n≤zs.length):Sl B 3 w (.slice ao n c) (ZAB (zs.take n)):=by
 obtain ⟨r,p,hv,d,s,g,f⟩:=h;simp only [Za3] at hv;obtain ⟨rfl,_,rfl⟩:=hv;simp at d
 refine ⟨ao,c,by simp; omega,by simp; omega,by omega,fun i hi=>?_,f⟩
 have a:i < n:=by simp at hi; omega
 obtain ⟨b,o,l,j,m⟩:=g i (by simp; omega)
 refine ⟨b,o,l,?_,m⟩
 rw [j,ZAa _ _ (by omega),ZAa _ _ (by simp; omega)]
 simp [a]
def Swe(a x:List Int):Prop:=a.length≤x.length∧a.length≤8∧(∀z∈a,z.natAbs≤1000)∧∀z∈x,z.natAbs≤1000000000000
theorem ZHn{a x:Int}(ha:a.natAbs≤1000)(hx:x.natAbs≤1000000000000):(a*x).natAbs≤1000000000000000:=by
 rw [Int.natAbs_mul]
 exact Zaa8 (Nat.mul_le_mul ha hx) (by decide)
theorem ZF1{a x:List Int}(h:Swe a x):∀k,k≤a.length→(Lin.sumN k fun i=>a.getD i 0*x.getD i 0).natAbs≤k*1000000000000000:=by
 intro k
 induction k with
 | zero=>intro _; simp [Lin.sumN]
 | succ k ih=>
  intro c
  have b:=ih (by omega)
  have f:=h.1
  have d:(a.getD k 0*x.getD k 0).natAbs≤1000000000000000:=ZHn (h.2.2.1 _ (by simp [show k < a.length by omega])) (h.2.2.2 _ (by simp [show k < x.length by omega]))
  have e:(Lin.sumN (k+1) fun i=>a.getD i 0*x.getD i 0)=(Lin.sumN k fun i=>a.getD i 0*x.getD i 0)+a.getD k 0*x.getD k 0:=rfl
  rw [e];omega
theorem ZNC(B:Nat)(a x:List Int)(u v:Value)(w:World)(hu:Sl B 3 w u (ZAB a))(hv:Sl B 3 w v (ZAB x))(hs:Swe a x) :
  Calls Tryz.prog 76 #[u,v] w fun e w'=>e=.returned (.int .i64 (ZC9 a x))∧∃n,w'=w.drewN n:=by
 obtain ⟨ao,X,j,E,N⟩:=ZAH hu;obtain ⟨P,m,r,D,M⟩:=ZAH hv;subst j r;have V:=hid hu;have G:Hid (Sl B 3 w (.slice P x.length m) (ZAB x)):=hv;have g:=hid hs;have J:a.length≤x.length:=hs.1;have aa:a.length≤8:=hs.2.1;clear hu hv hs;go_enter Tryz.func76,Tryz.ntmps76;go_wp2
 go_loopw [5,6] (fun s i wr=>∃k:Nat,k≤a.length∧i=.int .i64 k∧s=.int .i64 (Lin.sumN k fun i=>a.getD i 0*x.getD i 0)∧∃n,wr=w.drewN n) (fun _ i _=>a.length-(intOf i).toNat)
 case atStart=>exact ⟨0,Za5 _,rfl,rfl,0,rfl⟩
 case round=>
  obtain ⟨k,U,rfl,rfl,n,rfl⟩:=hrel
  by_cases hlt:k < a.length
  ·have c:k < x.length:=by omega
   obtain ⟨b,o,cp,hs,T,Q⟩:=ZAJ V.out hlt;simp only [Za3] at hs;obtain ⟨rfl,_,rfl⟩:=hs;obtain ⟨b2,o2,L,f,F,y⟩:=ZAJ G.out c;simp only [Za3] at f;obtain ⟨rfl,_,rfl⟩:=f;have Y:=ZF1 g.out k U
   have t:=ZF1 g.out (k+1) (by omega)
   have O:(a.getD k 0*x.getD k 0).natAbs≤1000000000000000:=ZHn (g.out.2.2.1 _ (by simp [hlt])) (g.out.2.2.2 _ (by simp [c]))
   have d:Hid ((Lin.sumN (k+1) fun i=>a.getD i 0*x.getD i 0)=(Lin.sumN k fun i=>a.getD i 0*x.getD i 0)+a.getD k 0*x.getD k 0):=rfl
   rw [d.out] at t
   generalize (Lin.sumN k fun i=>a.getD i 0*x.getD i 0)=S at *
   generalize a.getD k 0=p at *;generalize x.getD k 0=q at *
   have R:wrap64 (S+wrap64 (p*q))=S+p*q:=by
    rw [IntWalk.wrap64_in (p*q) ⟨by omega,by omega⟩,IntWalk.wrap64_in _ ⟨by omega,by omega⟩]
   have ae:(k:Int) < (a.length:Int):=by omega
   have z:(k:Int) < (x.length:Int):=by omega
   have A:(0:Int)≤(k:Int):=by omega
   clear Y t O;go_wp2
   go_quiet (fail)
   go_wp2
   go_roundw
   case rel=>exact ⟨k+1,by omega,by go_num,by rw [d.out,R],_,rfl⟩
   case measure=>simp [intOf]; omega
  ·have l:k=a.length:=by omega
   subst l;go_wp2;go_ret;exact ⟨rfl,n,rfl⟩
theorem ZGm(P:List (List Int))(x:List Int)(k:Nat)(h:k < x.length):pks P [] (x.take (k+1))=pks P [] (x.take k) ++ [P.getD (x.getD k 0).toNat []]:=by
 have e:x.getD k 0=x[k]:=by simp [h]
 rw [Zaa1 h,e];unfold pks;rw [List.map_append];rfl
theorem ZKs{P:List (List Int)}{c:List Int}(h:∀q∈c,0≤q∧q < (P.length:Int)):∀x∈pks P [] c,x∈P:=by
 intro x a;obtain ⟨q,b,rfl⟩:=List.mem_map.1 a;obtain ⟨d,f⟩:=h q b
 simp [show q.toNat < P.length by omega]
theorem ZOG{d:Nat}{t:List (List Int)}(h:∀r∈t,r.length=d+1∧∀z∈r,z.natAbs≤30)(h3:d≤3):Mx (d+1) 60 (t.map (ngR d)):=by
 refine ⟨fun r hr=>?_,fun r hr z hz=>?_,by omega,by omega,by decide,Zaa8 (ZBG (by decide) (show d+1≤5 by omega)) (by decide)⟩
 ·obtain ⟨y,b,rfl⟩:=List.mem_map.1 hr
  exact ZEc (h y b).1
 ·obtain ⟨y,b,rfl⟩:=List.mem_map.1 hr
  have c:=(h y b).1;have a:=(h y b).2;unfold ngR at hz
  rcases List.mem_append.1 hz with h1 | h1
  ·have:=a z (Zaa7 h1); omega
  ·simp only [List.mem_singleton] at h1
   have:=a (y.getD d 0) (ZAn (by omega))
   omega
theorem ZIn{d:Nat}{t:List (List Int)}(h:ZAp (d+1) (t.map (ngR d))=true):(ptY d t).length=d+1:=by
 unfold ptY
 split
 ·rw [Zab1,ZAx h]
 ·exact ZAx h
theorem ZKt{d:Nat}{t:List (List Int)}(hx:Mx (d+1) 60 (t.map (ngR d))):∀z∈ptY d t,z.natAbs≤1000000000000:=by
 intro z a;unfold ptY at a
 split at a
 ·obtain ⟨y,b,rfl⟩:=List.mem_map.1 a
  have:=ZCN hx y b; omega
 ·exact ZCN hx z a
theorem ZBX(d:Nat):(ZFz d).length=d:=by simp [ZFz]
theorem ZKu(d:Nat)(rows:List (List Int)):(ZE2 d rows).length=rows.length+d:=by simp [ZE2,ZFz]
theorem ZKv(d k:Nat):∀z∈axR d k,z.natAbs≤30:=fun z hz=>by
 simp only [axR,List.mem_map] at hz;obtain ⟨j,_,rfl⟩:=hz
 split <;> decide
theorem ZO9{d:Nat}{rows:List (List Int)}(h:∀r∈rows,r.length=d+1∧∀z∈r,z.natAbs≤20):∀r∈ZE2 d rows,r.length=d+1∧∀z∈r,z.natAbs≤30:=fun r hr=>by
 rcases List.mem_append.1 hr with h1 | h1
 ·exact ⟨(h r h1).1,fun z hz=>by have:=(h r h1).2 z hz; omega⟩
 ·simp only [ZFz,List.mem_map] at h1
  obtain ⟨k,_,rfl⟩:=h1;exact ⟨ZHm d k,ZKv d k⟩
theorem ZQL{w:World}{d k:Nat}(hk:k < d+1)(hd:d≤100){o:Obj}(ho:o=.cells ((madeCells #[.int .i64 0] (d+1)).setIfInBounds k (.int .i64 1)) 3):Sl 0 3 (w.alloc o) (.slice (some ⟨w.heap.size,0,none⟩) (d+1) (d+1)) (ZAB (axR d k)):=by
 subst ho;have b:=ZAM w (.cells ((madeCells #[.int .i64 0] (d+1)).setIfInBounds k (.int .i64 1)) 3)
 have a:(w.alloc (.cells ((madeCells #[.int .i64 0] (d+1)).setIfInBounds k (.int .i64 1)) 3)).rowIs w.heap.size 3 (d+1) (fun j=>if j=k then .int .i64 1 else .int .i64 0):=by
  refine ⟨_,b,?_,fun i hi=>?_⟩
  ·simp only [Array.size_setIfInBounds]
   rw [←Array.length_toList,toList_madeCells_one]; simp
  ·rw [Array.getElem?_setIfInBounds]
   by_cases e:k=i
   ·subst e
    have c:k < (madeCells #[.int .i64 0] (d+1)).size:=by rw [←Array.length_toList,toList_madeCells_one]; simpa using hk
    simp [c]
   ·rw [if_neg e,←Array.getElem?_toList,toList_madeCells_one]
    simp [hi,show ¬i=k from fun h=>e h.symm]
 refine Sl.row' a (by unfold maxLen; omega) (by simp [axR]) (fun i hi=>?_)
 rw [ZAa _ _ (by rw [ZHm]; exact hi)]
 by_cases e:i=k
 ·subst e; simp [axR,hi]
 ·simp [axR,hi,e]
theorem ZB7{B:Nat}{w:World}{v:Value}{m:List (List Int)}(h:Fr B 22 3 w v m):Mat 0 22 3 w v m:=by
 obtain ⟨c,a,b,d⟩:=h;exact ⟨c,a,Sl.own b,d⟩
def RwE(d:Nat)(rows:List (List Int)):Prop:=∀r∈rows,r.length=d+1∧∀z∈r,z.natAbs≤20
theorem ZND{d k:Nat}(h:k < d):(ZFz d).take (k+1)=(ZFz d).take k ++ [axR d k]:=by
 have a:k < (ZFz d).length:=by rw [ZBX]; exact h
 rw [Zaa1 a];simp [ZFz]
theorem ZKw(d:Nat)(R:List (List Int))(v:Value)(w:World)(hv:Mat 0 22 3 w v R)(hd1:1≤d)(hd:d≤3)(hR:R.length≤13)(hx:RwE d R) :
  Calls Tryz.prog 47 #[v,.int .i64 d] w fun e w'=>e=.returned (.bool (ZBk d R))∧Below w.heap.size w w':=by
 obtain ⟨i0,l,bv,bw,bz⟩:=info_parts Tryz.info22;obtain ⟨ro,cR,dQ,fh,_⟩:=ZAE hv
 obtain ⟨nr,dt⟩:∃nr,nr=R.length:=⟨_,rfl⟩
 rw [←dt] at dQ hR fh;subst dQ;have B:=hid dt
 have dV:Hid (∀W',Below w.heap.size w W'→Mat 0 22 3 W' (.slice ro nr cR) R):=fun W' hB=>hv.below hB (Za4 _)
 have dU:Hid (∀r∈R,r.length=d+1∧∀z∈r,z.natAbs≤30):=fun r hr=>⟨(hx r hr).1,fun z hz=>by have:=(hx r hr).2 z hz; omega⟩
 have au:Hid (∀r∈ZE2 d R,r.length=d+1∧∀z∈r,z.natAbs≤30):=ZO9 hx
 have dY:=run_make_row' (P:=Tryz.prog) 22 3 (.int .i64 0) 8 Tryz.underlying22 Tryz.info3 rfl .i64 .i64 (d+1) (by omega) (by omega)
 rw [show (((d+1:Nat):Int))=(d:Int)+1 by omega] at dY
 clear hv hx dt;go_enter Tryz.func47,Tryz.ntmps47;go_wp2
 go_loopw [5,6] (fun x i wr=>∃k:Nat,k≤d∧i=.int .i64 k∧Fr w.heap.size 22 3 wr x ((ZFz d).take k)∧Below w.heap.size w wr) (fun _ i _=>d-(intOf i).toNat)
 case atStart=>exact ⟨0,Za5 _,rfl,Fr.nil _ _ _ _,Below.refl _ _⟩
 case round=>
  obtain ⟨k,hk,rfl,aQ,a⟩:=hrel;have HF:=hid aQ;have HB:=hid a;have aW:w.heap.size≤wr.heap.size:=a.size;clear aQ a
  by_cases hlt:k < d
  ·have dP:(k:Int) < (d:Int):=by omega
   have cW:(0:Int)≤(k:Int):=by omega
   have fJ:(k:Int) < (d:Int)+1:=by omega
   have az:Hid ((ZFz d).take (k+1)=(ZFz d).take k ++ [axR d k]):=ZND hlt
   have E:Hid (((ZFz d).take k).length=k):=by show _=_; rw [List.length_take,ZBX]; omega
   have fD:(madeCells #[.int .i64 0] (d+1))[k]?=some (.int .i64 0):=by
    rw [←Array.getElem?_toList,toList_madeCells_one,List.getElem?_replicate,if_pos (by omega)]
   obtain ⟨W3,ar⟩:∃W3,W3=wr.alloc (.cells ((madeCells #[.int .i64 0] (d+1)).setIfInBounds k (.int .i64 1)) 3):=⟨_,rfl⟩
   have aZ:Hid (Sl 0 3 W3 (.slice (some ⟨wr.heap.size,0,none⟩) (d+1) (d+1)) (ZAB (axR d k))):=by rw [ar]; exact ZQL (by omega) (by omega) rfl
   have f:Hid (Below wr.heap.size wr W3):=by rw [ar]; exact ZAG _ _
   go_upto_region 7 with fail
   rw [←ar];clear ar fD;obtain ⟨vs,g1,g2,g3⟩:=HF.out.below f.out (Za4 _);rw [E.out] at g1 g2 g3;have G1:=hid g1;have G2:=hid g2;have G3:=hid g3;have aL:w.heap.size≤W3.heap.size:=Zaa8 aW f.out.size;have dO:Hid (Below w.heap.size w W3):=HB.out.trans (f.out.mono aW);clear g1 g2 g3
   go_wp2_with (first | (at_builtin; refine wpList_append_own _ rfl _ _ 25 rfl w.heap.size 22 i0 (.slice none 0 0) 1 24 Tryz.underlying25 l bv bw bz rfl (by decide) _ _ _ rfl (G2.out.alloc _) ⟨W3.heap.size,0,none⟩ 1 1 [.slice (some ⟨wr.heap.size,0,none⟩) (d+1) (d+1)] rfl rfl (ZAQ _ _ _) (ZAL _ _ _) ?d3 ?d4 ?d5 ?_))
   case d3=>unfold maxLen; omega
   case d4=>omega
   case d5=>simp; omega
   intro v' w4 ho hg _
   have R1:Hid (Fr w.heap.size 22 3 w4 v' ((ZFz d).take (k+1))):=by
    have hp:=Fr.push (e2:=22) (e1:=3) (m:=(ZFz d).take k) (u:=.slice (some ⟨wr.heap.size,0,none⟩) (d+1) (d+1)) (zs:=axR d k) (by decide) (by rw [E.out]; exact G1.out) (by rw [E.out]; exact G2.out.alloc _)
     (fun i l=>(G3.out i (by rw [E.out] at l; exact l)).alloc _) (aZ.out.alloc _) (by rw [E.out]; exact ho) hg
    rw [←az.out] at hp;exact hp
   have R2:Hid (Below w.heap.size w w4):=(dO.out.alloc aL _).grown hg (by simp; omega) (fun x hx=>(G2.out.lt x hx).1)
   clear ho hg;go_wp2
   go_roundw
   case rel=>exact ⟨k+1,by omega,by go_num,R1.out,R2.out⟩
   case measure=>simp [intOf]; omega
  ·obtain rfl:d=k:=by omega
   have dK:=HF.out
   rw [Zaa2 (by rw [ZBX]; exact Za4 _)] at dK
   obtain ⟨aT,f1,f2,f3⟩:=dK;rw [ZBX] at f1 f2 f3;obtain ⟨fo,fc,fe⟩:=ZAD f2;have cX:Sl 0 22 wr u5 aT:=Sl.own f2;subst fe
   obtain ⟨fa,rfl⟩:∃fa,fo=some fa:=by
    obtain ⟨b,o,cp,dF,_⟩:=cX.at (by omega)
    simp only [Za3] at dF;exact ⟨_,dF.1⟩
   obtain ⟨bj,r1,r2,r3⟩:=dV.out wr HB.out;rw [←B.out] at r1 r3;have F1:=hid f1
   have F3:Hid (∀W',Below wr.heap.size wr W'→Sl 0 22 W' (.slice (some fa) d fc) aT∧∀i,i < d→Sl 0 3 W' (aT.getD i (.slice none 0 0)) (ZAB ((ZFz d).getD i []))):=fun W' hB=>⟨cX.below hB (Za4 _),fun i l=>(f3 i l).below hB (Za4 _)⟩
   have R1:=hid r1
   have R3:Hid (∀W',Below wr.heap.size wr W'→Sl 0 22 W' (.slice ro nr cR) bj∧∀i,i < nr→Sl 0 3 W' (bj.getD i (.slice none 0 0)) (ZAB (R.getD i []))):=fun W' hB=>⟨r2.below hB (Za4 _),fun i l=>(r3 i l).below hB (Za4 _)⟩
   have cK:Hid ((wr.alloc (.cells #[] 22)).ownsRow w.heap.size 22 1 (.slice (some ⟨wr.heap.size,0,none⟩) 0 0) 0 []):=ZCK wr w.heap.size aW;have bS:Hid (Below wr.heap.size wr (wr.alloc (.cells #[] 22))):=ZAG _ _;clear f1 f2 f3 cX r1 r3 HF
   have cO:Hid (∀u∈bj,u.oneCell'=true):=ZEe (m:=R) (by rw [R1.out,B.out]) (fun i l=>(R3.out wr (Below.refl _ _)).2 i (by rw [B.out]; exact l))
   have aF:Hid (∀u∈aT,u.oneCell'=true):=ZEe (m:=ZFz d) (by rw [F1.out,ZBX]) (fun i l=>(F3.out wr (Below.refl _ _)).2 i (by rw [ZBX] at l; exact l))
   have bF:w.heap.size≤(wr.alloc (.cells #[] 22)).heap.size:=by rw [size_alloc]; omega
   cases ro with
   | none=>
    obtain ⟨fB,fj,fC⟩:nr=0∧cR=0∧bj=[]:=by
     obtain ⟨ao,cp,he,_,_,h3,h4⟩:=r2;simp only [Za3] at he
     have dZ:bj.length=0:=by
      apply Za6
      intro fK
      obtain ⟨b,o,ha,_⟩:=h3 0 (by omega)
      rw [←he.1] at ha; cases ha
     exact ⟨by omega,by rw [he.2.2]; exact h4 he.1.symm,List.eq_nil_of_length_eq_zero dZ⟩
    subst fB fj fC;clear r2
    obtain ⟨V,bO⟩:∃V,V=wr.alloc (.cells #[] 22):=⟨_,rfl⟩
    have aD:Hid (V.ownsRow w.heap.size 22 1 (.slice (some ⟨wr.heap.size,0,none⟩) 0 0) 0 ([]:List Value)):=by rw [bO]; exact cK.out
    have f:Hid (Below wr.heap.size wr V):=by rw [bO]; exact bS.out
    have aN:Hid (w.heap.size≤V.heap.size):=Zaa8 aW f.out.size;have cF:=ZB6 (F3.out _ f.out).1;have aG:=hid cF;clear cF;have cB:=aD.out;have bV:=aG.out;rw [bO] at cB bV
    go_wp2_with (first | (at_builtin; refine wpList_append_own_none rfl _ _ 25 rfl w.heap.size 22 i0 1 Tryz.underlying25 l _ _ _ rfl cK.out rfl ?_) | (at_builtin; refine wpList_append_own _ rfl _ _ 25 rfl w.heap.size 22 i0 (.slice none 0 0) 1 24 Tryz.underlying25 l bv bw bz rfl (by decide) _ _ _ rfl cB fa d fc aT rfl ?d0 bV aF.out ?d3 ?d4 ?d5 ?_))
    case d0=>rw [F1.out]; omega
    case d3=>unfold maxLen; omega
    case d4=>omega
    case d5=>first | exact aN.out | exact bF
    intro v2 Q ho hg _;rw [←bO] at hg
    have ho:Q.ownsRow w.heap.size 22 1 v2 (0+d) ([] ++ aT):=by rw [Nat.zero_add]; exact ho
    clear cB bV bO
    have cj:Hid (Fr w.heap.size 22 3 Q v2 (ZE2 d R)):=by
     refine ZOF (by rw [R1.out,B.out]) (by rw [←B.out]; exact aD.out) (fun i l=>(R3.out V f.out).2 i (by rw [B.out]; exact l)) (by rw [F1.out,ZBX]) (fun i l=>(F3.out V f.out).2 i (by rw [ZBX] at l; exact l)) ?_ hg
     rw [←B.out,ZBX]; exact ho
    have cg:Hid (Below w.heap.size w Q):=(HB.out.trans (f.out.mono aW)).grown hg aN.out (fun k hk=>(aD.out.lt k hk).1)
    obtain ⟨ao,ac,bB⟩:=ZAD ho
    obtain ⟨n,hn⟩:∃n,n=0+d:=⟨_,rfl⟩
    rw [←hn] at bB;subst bB
    have HN:Hid (n=(ZE2 d R).length):=by show _=_; rw [ZKu,←B.out]; exact hn
    have dS:n≤16:=by omega
    have fs:1≤n:=by omega
    have bU:Hid (∀W',Below Q.heap.size Q W'→Mat 0 22 3 W' (.slice ao n ac) (ZE2 d R)):=fun W' hB=>(ZB7 cj.out).below hB (Za4 _)
    have aC:Hid (ZBk d R=(ZAO d n).all fun c=>(ptT R d (pks (ZE2 d R) [] c)).isNone):=by show _=_; unfold ZBk; rw [←HN.out]
    clear ho hg hn aD f F3 R3 cK bS cj aG cO aF
    obtain ⟨A,hA⟩:∃A,A=ZE2 d R:=⟨_,rfl⟩
    rw [←hA] at bU HN aC au;clear hA
    go_wp2_with fail
    refine (ZDU d (by omega) n Q (by omega)).mono ?_
    rintro e J ⟨cv,rfl,bh,ai⟩;have cA:=hid bh;have aJ:=hid ai;have ck:Hid (Below w.heap.size w J):=cg.out.trans (ai.mono cg.out.size);obtain ⟨co,cc,da,cN,dG⟩:=ZAE (ZB7 bh);subst da
    have dq:Hid ((ZAO d n).length≤16777216):=Zaa8 (ZBp d n (by omega)) (Zaa8 (Nat.pow_le_pow_right (by decide) (show d≤4 by omega)) (by decide))
    have bK:Hid (∀c∈ZAO d n,c.length=d∧∀i,i < d→0≤c.getD i 0∧c.getD i 0 < (n:Int)):=fun c h=>⟨ZBB d n c h,(ZBq d n c h).1⟩
    clear bh ai
    obtain ⟨C,hC⟩:∃C,C=ZAO d n:=⟨_,rfl⟩
    rw [←hC] at cA dq bK cN aC ⊢;clear hC;go_wp2
    go_loopw [10] (fun i wr=>∃k:Nat,k≤C.length∧i=.int .i64 k∧(∀q,q < k→ptT R d (pks A [] (C.getD q []))=none)∧Below J.heap.size J wr) (fun i _=>C.length-(intOf i).toNat)
    case atStart=>exact ⟨0,Za5 _,rfl,fun q hq=>by omega,Below.refl _ _⟩
    case round=>
     obtain ⟨k,hk,rfl,bI, a⟩:=hrel
     rename World=>wa
     have HB:=hid a;have aS:Hid (Below w.heap.size w wa):=ck.out.trans (a.mono ck.out.size);have N:Hid (Below Q.heap.size Q wa):=aJ.out.trans (a.mono aJ.out.size);have M:J.heap.size≤wa.heap.size:=a.size;clear a;have cG:=hid bI;clear bI
     by_cases hlt:k < C.length
     ·obtain ⟨b2,o2,fu,r1,hs,ff,L,aY⟩:=ZAP (ZB7 cA.out) hlt
      simp only [Za3,true_and] at hs;obtain ⟨rfl,rfl⟩:=hs
      have aq:C.getD k []∈C:=by simp [hlt]
      obtain ⟨bk,bG⟩:=bK.out _ aq;obtain ⟨so,sc,bA,_,_⟩:=ZAH aY;rw [bk] at bA;subst bA
      have aR:Hid (ptT R d (pks A [] (C.getD k []))=none→∀q,q < k+1→ptT R d (pks A [] (C.getD q []))=none):=fun h q hq=>by
       by_cases e:q=k
       ·rw [e]; exact h
       ·exact cG.out q (by omega)
      have cr:Hid (ptT R d (pks A [] (C.getD k []))≠none→ZBk d R=false):=fun h=>by
       rw [aC.out,List.all_eq_false];refine ⟨C.getD k [],aq,?_⟩
       cases hp:ptT R d (pks A [] (C.getD k [])) with
       | none=>exact absurd hp h
       | some y=>simp
      generalize C.getD k []=c at *
      have cZ:Hid (∀W,Below J.heap.size J W→W.cell? ⟨b2,o2+k,none⟩=some (.slice so d sc)):=fun W h=>(h.cell (ZAI L)).trans L
      have de:Hid (∀W,Below J.heap.size J W→Sl 0 3 W (.slice so d sc) (ZAB c)):=fun W h=>aY.below h (Za4 _)
      have bP:=hid bG;have U:=hid bk;clear aY L bG bk aq
      have dP:(k:Int) < (C.length:Int):=by omega
      have cW:(0:Int)≤(k:Int):=by omega
      go_wp2
      go_loopw [11,12] (fun x i wq=>∃j:Nat,j≤d∧i=.int .i64 j∧Rws wa.heap.size 22 3 wq x ((pks A [] (c.take j)).map (ngR d))∧Below wa.heap.size wa wq) (fun _ i _=>d-(intOf i).toNat)
      case atStart=>exact ⟨0,Za5 _,rfl,Rws.nil _ _ _ _,Below.refl _ _⟩
      case round=>
       obtain ⟨j,hj,rfl,aQ,a⟩:=hrel;have bl:=hid aQ;have ay:=hid a;have aP:Hid (Below J.heap.size J wr):=HB.out.trans (a.mono M);have cq:Hid (Below Q.heap.size Q wr):=N.out.trans (a.mono N.out.size);clear aQ a
       by_cases s:j < d
       ·have az:Hid ((pks A [] (c.take (j+1))).map (ngR d)=(pks A [] (c.take j)).map (ngR d) ++ [ngR d (A.getD (c.getD j 0).toNat [])]):=by
         show _=_
         rw [ZGm A c j (by rw [U.out]; exact s),List.map_append]
         rfl
        have E:Hid (((pks A [] (c.take j)).map (ngR d)).length=j):=by show _=_; have:=U.out; simp [pks]; omega
        obtain ⟨b3,o3,fF,cI,dc,bT⟩:=ZAJ (de.out wr aP.out) (k:=j) (by rw [U.out]; exact s)
        simp only [Za3] at cI;obtain ⟨rfl,dx,rfl⟩:=cI;clear dx;have dN:=cZ.out wr aP.out;obtain ⟨aj,du⟩:=bP.out j s
        obtain ⟨q,hq⟩:∃q:Nat,c.getD j 0=(q:Int):=⟨(c.getD j 0).toNat,by omega⟩
        rw [hq] at bT aj du az
        rw [show ((q:Int)).toNat=q by omega] at az
        clear hq
        have aU:q < A.length:=by rw [←HN.out]; omega
        have fd:q < n:=by omega
        obtain ⟨b4,o4,dH,r2,ae,_,cU,bq⟩:=ZAP (bU.out wr cq.out) aU;rw [←HN.out] at ae;simp only [Za3,true_and] at ae;obtain ⟨rfl,rfl⟩:=ae
        have G:=au.out (A.getD q []) (by simp [aU])
        obtain ⟨yo,yc,cC,_,_⟩:=ZAH bq;rw [G.1] at cC;subst cC;have db:Hid (Sl wr.heap.size 3 wr (.slice yo (d+1) yc) (ZAB (A.getD q []))):=bq.more (Za5 _)
        have af:Hid ((A.getD q []).length=d+1∧((A.getD q []).getD d 0).natAbs≤30):=⟨G.1,G.2 ((A.getD q []).getD d 0) (ZAn (by rw [G.1]; omega))⟩
        clear bq G;generalize A.getD q []=y at *;clear dc aU;have aI:wa.heap.size≤wr.heap.size:=ay.out.size
        have dA:(j:Int) < (d:Int):=by omega
        have cV:(0:Int)≤(j:Int):=by omega
        have dB:(q:Int) < (n:Int):=by omega
        have dJ:(0:Int)≤(q:Int):=by omega
        go_wp2_with fail
        refine (ZBh wr.heap.size y _ wr db.out (by rw [af.out.1]; omega)).mono ?_
        rintro e V ⟨u,rfl,bt,cD⟩;rw [af.out.1] at bt
        obtain ⟨g,gc,F,hu,hg,O,hF,dw,dz⟩:=ZIm bt (by omega)
        subst hu
        have ca:=O.cell (i:=d) (by omega)
        have cf:=O.frozen d
        rw [hF d (by omega)] at ca
        have fA:=af.out.2
        have aO:Hid ((V.setCell ⟨g,d,none⟩ (.int .i64 (-(y.getD d 0)))).rowIs g 3 gc (fun i=>if i=d then .int .i64 (-(y.getD d 0)) else F i)):=O.set d _
        have aZ:Hid (∀Z,Sl Z 3 (V.setCell ⟨g,d,none⟩ (.int .i64 (-(y.getD d 0)))) (.slice (some ⟨g,0,none⟩) (d+1) gc) (ZAB (ngR d y))):=fun Z=>ZCw aO.out (fun i l=>by
         show (if i=d then Value.int .i64 (-(y.getD d 0)) else F i)=_
         rw [ZEd af.out.1 l]
         by_cases e:i=d
         ·rw [if_pos e,if_pos e]
         ·rw [if_neg e,if_neg e,hF i l]) (ZEc af.out.1) dw dz
        have f:Hid (Below wr.heap.size wr (V.setCell ⟨g,d,none⟩ (.int .i64 (-(y.getD d 0))))):=((Touch.refl _ _).setCell d _).below cD hg;generalize y.getD d 0=z at *
        have dX:wrap64 (-z)=-z:=IntWalk.wrap64_in _ ⟨by omega,by omega⟩
        have dy:(d:Int) < (d:Int)+1:=by omega
        have cw:(0:Int)≤(d:Int):=by omega
        clear O hF bt cD
        go_upto_region 19 with fail
        obtain ⟨W3,ar⟩:∃W3,W3=V.setCell ⟨g,d,none⟩ (.int .i64 (-z)):=⟨_,rfl⟩
        rw [←ar] at aZ f ⊢;clear ar aO ca cf;obtain ⟨vs,g1,g2,g3⟩:=bl.out.below f.out (Za4 _);have aH:=E.out;rw [aH] at g1 g2 g3;have G1:=hid g1;have G2:=hid g2;have G3:=hid g3;have aL:wa.heap.size≤W3.heap.size:=Zaa8 aI f.out.size;have bN:Hid (Below wa.heap.size wa W3):=ay.out.trans (f.out.mono aI);clear g1 g2 g3 aH
        go_wp2_with (first | (at_builtin; refine wpList_append_own _ rfl _ _ 25 rfl wa.heap.size 22 i0 (.slice none 0 0) 1 24 Tryz.underlying25 l bv bw bz rfl (by decide) _ _ _ rfl (G2.out.alloc _) ⟨W3.heap.size,0,none⟩ 1 1 [.slice (some ⟨g,0,none⟩) (d+1) gc] rfl rfl (ZAQ _ _ _) (ZAL _ _ _) ?d3 ?d4 ?d5 ?_))
        case d3=>unfold maxLen; omega
        case d4=>omega
        case d5=>simp; omega
        intro v' w4 ho bp _
        have R1:Hid (Rws wa.heap.size 22 3 w4 v' ((pks A [] (c.take (j+1))).map (ngR d))):=by
         have hp:=Rws.push (e2:=22) (e1:=3) (m:=(pks A [] (c.take j)).map (ngR d)) (u:=.slice (some ⟨g,0,none⟩) (d+1) gc) (zs:=ngR d y) (by decide) (by rw [E.out]; exact G1.out) (by rw [E.out]; exact G2.out.alloc _)
          (fun i l=>(G3.out i (by rw [E.out] at l; exact l)).alloc _) ((aZ.out _).alloc _) (by rw [E.out]; exact ho) bp
         rw [←az.out] at hp;exact hp
        have R2:Hid (Below wa.heap.size wa w4):=(bN.out.alloc aL _).grown bp (by simp; omega) (fun x hx=>(G2.out.lt x hx).1)
        clear ho bp;go_wp2
        go_roundw
        case rel=>exact ⟨j+1,by omega,by go_num,R1.out,R2.out⟩
        case measure=>simp [intOf]; omega
       ·obtain rfl:d=j:=by omega
        have HT:Hid (Rws wa.heap.size 22 3 wr u11 ((pks A [] c).map (ngR d))):=by
         have:=bl.out
         rw [Zaa2 (by rw [U.out]; exact Za4 _)] at this
         exact this
        clear bl hj s
        have bM:Hid ((pks A [] c).length=d):=by show _=_; rw [←U.out]; simp [pks]
        have dr:Hid (∀x∈pks A [] c,x∈A):=ZKs fun q hq=>by
         obtain ⟨i,l,rfl⟩:=List.mem_iff_getElem.1 hq
         have:=bP.out i (by rw [←U.out]; exact l)
         rw [←HN.out]
         simpa [l] using this
        generalize pks A [] c=t at *
        have bg:Hid (Mx (d+1) 60 (t.map (ngR d))):=ZOG (fun x hx=>au.out x (dr.out x hx)) hd
        go_wp2_with fail
        refine (ZEK (d+1) 60 wa.heap.size (t.map (ngR d)) u11 wr bg.out (HT.out.mat (Za4 _)) (by rw [Zab1,bM.out]; omega) (by rw [Zab1,bM.out]; omega)).mono ?_
        rintro e W5 ⟨nv,rfl,cQ,bC⟩;have aE:=hid cQ;have an:Hid (Below wa.heap.size wa W5):=ay.out.trans (bC.mono ay.out.size);clear cQ bC
        cases hnb:ZAp (d+1) (t.map (ngR d))
        case false=>
         have ak:Hid (ptT R d t=none):=by show _=_; unfold ptT; rw [hnb]; simp
         have ah:Hid (Below J.heap.size J W5):=HB.out.trans (an.out.mono M)
         have am:Hid (∀q,q < k+1→ptT R d (pks A [] (C.getD q []))=none):=aR.out ak.out
         clear hnb;go_wp2
         go_roundw
         case rel=>exact ⟨k+1,hlt,by go_num,am.out, ah.out⟩
         case measure=>simp [intOf]; omega
        case true=>
         have fz:=hid hnb
         obtain ⟨nb,no,nc,cd,fw,bZ⟩:=ZAJ aE.out (k:=d) (by rw [ZAx hnb]; omega)
         rw [ZAx hnb] at cd;subst cd
         have aB:Hid (ptY d t=if (ZAR (d+1) (t.map (ngR d))).getD d 0 < 0 then (ZAR (d+1) (t.map (ngR d))).map (fun z=>-z) else ZAR (d+1) (t.map (ngR d))):=rfl
         have T:Hid ((ptY d t).length=d+1∧∀z∈ptY d t,z.natAbs≤1000000000000):=⟨ZIn hnb,ZKt bg.out⟩
         have bR:Hid ((ZAR (d+1) (t.map (ngR d))).length=d+1∧∀z∈ZAR (d+1) (t.map (ngR d)),z.natAbs≤1000000000000):=⟨ZAx hnb,ZCN bg.out⟩
         have bL:Hid ((ZAR (d+1) (t.map (ngR d))).getD d 0≠0→ptT R d t=if ptK R d (ptY d t)=true then some (ptY d t) else none):=fun h0=>by
          unfold ptT
          by_cases hk:ptK R d (ptY d t)=true
          ·rw [if_pos ⟨hnb,h0,hk⟩,if_pos hk]
          ·rw [if_neg (fun h=>hk h.2.2),if_neg hk]
         have aK:Hid ((ZAR (d+1) (t.map (ngR d))).getD d 0=0→ptT R d t=none):=fun h0=>by
          unfold ptT
          rw [if_neg (fun h=>h.2.1 h0)]
         clear hnb;generalize ZAR (d+1) (t.map (ngR d))=X at *;generalize ptY d t=Y at *;generalize X.getD d 0=xd at *
         have dy:(d:Int) < (d:Int)+1:=by omega
         have cw:(0:Int)≤(d:Int):=by omega
         by_cases aj:xd=0
         ·subst aj
          have ak:Hid (ptT R d t=none):=aK.out rfl;have ah:Hid (Below J.heap.size J W5):=HB.out.trans (an.out.mono M)
          have am:Hid (∀q,q < k+1→ptT R d (pks A [] (C.getD q []))=none):=aR.out ak.out
          go_wp2
          go_roundw
          case rel=>exact ⟨k+1,hlt,by go_num,am.out, ah.out⟩
          case measure=>simp [intOf]; omega
         ·have cE:=bL.out aj
          have bX:=hid cE
          have fH:(xd == 0)=false:=by simp [aj]
          clear cE bL aK
          by_cases hxn:xd < 0
          case' pos=>
           have ag:Hid (Y=X.map fun z=>-z):=by rw [if_pos hxn] at aB; exact aB
           have cJ:decide (xd < 0)=true:=by simp [hxn]
           go_wp2_with fail
           refine (ZBo 0 X _ W5 aE.out (by rw [bR.out.1]; omega) (fun z hz=>by have:=bR.out.2 z hz; omega)).mono ?_
           rintro e W6 ⟨yv,rfl,bH,G⟩
           have aM:Hid (Sl 0 3 W6 yv (ZAB Y)):=by rw [ag.out]; exact Sl.own bH
           have aA:Hid (Below wa.heap.size wa W6):=an.out.trans (G.mono an.out.size);clear bH G bZ ag;go_wp2
          case' neg=>
           have ag:Hid (Y=X):=by rw [if_neg hxn] at aB; exact aB
           have cJ:decide (xd < 0)=false:=by simp [hxn]
           go_wp2
           have bD:Hid (Sl 0 3 W5 (.slice (some ⟨nb,no,none⟩) (d+1) nc) (ZAB Y)):=by rw [ag.out]; exact aE.out
           have aA:Hid (Below wa.heap.size wa W5):=an.out;clear bZ ag aE;generalize Value.slice (some (⟨nb,no,none⟩:Addr)) (d+1) nc=yv at *
           obtain ⟨W6,rfl⟩:∃W6,W6=W5:=⟨_,rfl⟩
           have aM:Hid (Sl 0 3 W6 yv (ZAB Y)):=bD.out;clear bD
          all_goals
           obtain ⟨yo,yc,bJ,_,_⟩:=ZAH aM.out;rw [T.out.1] at bJ;subst bJ
           obtain ⟨yb,yf,fG,bu,_,aX⟩:=ZAJ aM.out (k:=d) (by rw [T.out.1]; omega)
           rw [T.out.1] at bu;simp only [Za3,true_and] at bu;obtain ⟨rfl,rfl⟩:=bu
           have bW:Hid (∀W,Qe W6 W→W.cell? ⟨yb,yf+d,none⟩=some (.int .i64 (Y.getD d 0))):=fun W hq=>by
            obtain ⟨m,rfl⟩:=hq;exact aX
           have cT:Hid ((Y.getD d 0).natAbs≤1000000000000):=T.out.2 _ (ZAn (by rw [T.out.1]; omega))
           have bQ:Hid (Below w.heap.size w W6):=aS.out.trans (aA.out.mono aS.out.size);have cL:Hid (Below Q.heap.size Q W6):=N.out.trans (aA.out.mono N.out.size);clear aX
           go_loopw [16,17] (fun p i wq=>∃j:Nat,j≤0∧i=.int .i64 j∧p=.bool ((R.take j).all fun r=>decide (ZC9 (r.take d) Y≤r.getD d 0*Y.getD d 0))∧Qe W6 wq) (fun _ i _=>0-(intOf i).toNat)
           case atStart=>exact ⟨0,Za5 _,rfl,rfl,Qe.refl _⟩
           case round=>
            obtain ⟨j,hj,rfl,rfl,S⟩:=hrel;have HQ:=hid S;have cS:Hid (Below w.heap.size w wr):=bQ.out.trans S.below;have dL:Hid (Below Q.heap.size Q wr):=cL.out.trans S.below;have cY:Hid (Below wa.heap.size wa wr):=aA.out.trans S.below;have aX:=bW.out wr S
            have cH:Hid (((R.take j).all fun r=>decide (ZC9 (r.take d) Y≤r.getD d 0*Y.getD d 0))=false→ptK R d Y=false):=fun h=>by
             rw [List.all_eq_false] at h;obtain ⟨x,hx,dg⟩:=h;unfold ptK;rw [List.all_eq_false];exact ⟨x,Zaa7 hx,dg⟩
            clear S
            by_cases s:j < 0∧((R.take j).all fun r=>decide (ZC9 (r.take d) Y≤r.getD d 0*Y.getD d 0))=true
            ·exact absurd s.1 (by omega)
            ·have dh:Hid (((R.take j).all fun r=>decide (ZC9 (r.take d) Y≤r.getD d 0*Y.getD d 0))=ptK R d Y):=by
              show _=_
              cases aa:((R.take j).all fun r=>decide (ZC9 (r.take d) Y≤r.getD d 0*Y.getD d 0)) with
              | false=>exact (cH.out aa).symm
              | true=>
               have dv:¬j < 0:=fun h=>s ⟨h,aa⟩
               rw [←aa,Zaa2 (show R.length≤j by rw [←B.out]; omega)]
               rfl
             have aw:(decide ((j:Int) < (0:Int)) && ((R.take j).all fun r=>decide (ZC9 (r.take d) Y≤r.getD d 0*Y.getD d 0)))=false:=by
              rw [Bool.eq_false_iff];intro h;rw [Bool.and_eq_true,decide_eq_true_eq] at h
              exact s ⟨by omega,h.2⟩
             have cP:Hid (Below J.heap.size J wr):=HB.out.trans (cY.out.mono M);rw [dh.out] at aw ⊢;clear s cH;generalize ptK R d Y=pb at *
             cases pb
             case false=>
              have ak:Hid (ptT R d t=none):=by show _=_; rw [bX.out]; rfl
              have am:Hid (∀q,q < k+1→ptT R d (pks A [] (C.getD q []))=none):=aR.out ak.out
              go_wp2
              all_goals exact ⟨⟨k+1,hlt,by go_num,am.out,cP.out⟩,by simp [intOf]; omega⟩
             case true=>
              have aV:Hid (ZBk d R=false):=cr.out (by rw [bX.out]; simp)
              have bY:decide ((j:Int) < (0:Int))=false:=by rw [Bool.and_true] at aw; exact aw
              have dv:¬(j:Int) < (0:Int):=of_decide_eq_false bY
              have dI:decide (j < 0)=false:=decide_eq_false (by omega)
              clear aw;go_wp2;go_ret
              exact ⟨by rw [aV.out]; rfl,cS.out⟩
     ·have aV:Hid (ZBk d R=true):=by
       show _=_
       rw [aC.out,List.all_eq_true];intro c hc;obtain ⟨q,hq,rfl⟩:=List.getElem_of_mem hc
       have:=cG.out q (by omega)
       rw [show C.getD q []=C[q] by simp [hq]] at this
       rw [this]; rfl
      go_wp2;go_ret
      exact ⟨by rw [aV.out]; rfl,aS.out⟩
   | some ra=>
    clear r2;have dC:=ZB6 (R3.out _ bS.out).1;have dE:=hid dC;clear dC
    go_wp2_with (first | (at_builtin; refine wpList_append_own _ rfl _ _ 25 rfl w.heap.size 22 i0 (.slice none 0 0) 1 24 Tryz.underlying25 l bv bw bz rfl (by decide) _ _ _ rfl cK.out ra nr cR bj rfl ?d0 dE.out cO.out ?d3 ?d4 ?d5 ?_))
    case d0=>rw [R1.out]; omega
    case d3=>unfold maxLen; omega
    case d4=>omega
    case d5=>exact bF
    intro v1 V ho hg _
    have dD:V.ownsRow w.heap.size 22 1 v1 nr bj:=by simpa using ho
    have aD:=hid dD
    have f:Hid (Below wr.heap.size wr V):=by
     have h1:(wr.alloc (.cells #[] 22)).grownBy V (some wr.heap.size):=hg
     exact bS.out.grown h1 (by rw [size_alloc]; omega) (fun k hk=>by cases hk; exact Za4 _)
    clear ho hg dD;have aN:Hid (w.heap.size≤V.heap.size):=Zaa8 aW f.out.size;have cF:=ZB6 (F3.out _ f.out).1;have aG:=hid cF;clear cF
    go_wp2_with (first | (at_builtin; refine wpList_append_own _ rfl _ _ 25 rfl w.heap.size 22 i0 (.slice none 0 0) 1 24 Tryz.underlying25 l bv bw bz rfl (by decide) _ _ _ rfl aD.out fa d fc aT rfl ?d0 aG.out aF.out ?d3 ?d4 ?d5 ?_))
    case d0=>rw [F1.out]; omega
    case d3=>unfold maxLen; omega
    case d4=>omega
    case d5=>first | exact aN.out | exact bF
    intro v2 Q ho hg _
    have cj:Hid (Fr w.heap.size 22 3 Q v2 (ZE2 d R)):=by
     refine ZOF (by rw [R1.out,B.out]) (by rw [←B.out]; exact aD.out) (fun i l=>(R3.out V f.out).2 i (by rw [B.out]; exact l)) (by rw [F1.out,ZBX]) (fun i l=>(F3.out V f.out).2 i (by rw [ZBX] at l; exact l)) ?_ hg
     rw [←B.out,ZBX]; exact ho
    have cg:Hid (Below w.heap.size w Q):=(HB.out.trans (f.out.mono aW)).grown hg aN.out (fun k hk=>(aD.out.lt k hk).1)
    obtain ⟨ao,ac,bB⟩:=ZAD ho
    obtain ⟨n,hn⟩:∃n,n=nr+d:=⟨_,rfl⟩
    rw [←hn] at bB;subst bB
    have HN:Hid (n=(ZE2 d R).length):=by show _=_; rw [ZKu,←B.out]; exact hn
    have dS:n≤16:=by omega
    have fs:1≤n:=by omega
    have bU:Hid (∀W',Below Q.heap.size Q W'→Mat 0 22 3 W' (.slice ao n ac) (ZE2 d R)):=fun W' hB=>(ZB7 cj.out).below hB (Za4 _)
    have aC:Hid (ZBk d R=(ZAO d n).all fun c=>(ptT R d (pks (ZE2 d R) [] c)).isNone):=by show _=_; unfold ZBk; rw [←HN.out]
    clear ho hg hn aD f F3 R3 cK bS cj aG cO aF
    obtain ⟨A,hA⟩:∃A,A=ZE2 d R:=⟨_,rfl⟩
    rw [←hA] at bU HN aC au;clear hA
    go_wp2_with fail
    refine (ZDU d (by omega) n Q (by omega)).mono ?_
    rintro e J ⟨cv,rfl,bh,ai⟩;have cA:=hid bh;have aJ:=hid ai;have ck:Hid (Below w.heap.size w J):=cg.out.trans (ai.mono cg.out.size);obtain ⟨co,cc,da,cN,dG⟩:=ZAE (ZB7 bh);subst da
    have dq:Hid ((ZAO d n).length≤16777216):=Zaa8 (ZBp d n (by omega)) (Zaa8 (Nat.pow_le_pow_right (by decide) (show d≤4 by omega)) (by decide))
    have bK:Hid (∀c∈ZAO d n,c.length=d∧∀i,i < d→0≤c.getD i 0∧c.getD i 0 < (n:Int)):=fun c h=>⟨ZBB d n c h,(ZBq d n c h).1⟩
    clear bh ai
    obtain ⟨C,hC⟩:∃C,C=ZAO d n:=⟨_,rfl⟩
    rw [←hC] at cA dq bK cN aC ⊢;clear hC;go_wp2
    go_loopw [10] (fun i wr=>∃k:Nat,k≤C.length∧i=.int .i64 k∧(∀q,q < k→ptT R d (pks A [] (C.getD q []))=none)∧Below J.heap.size J wr) (fun i _=>C.length-(intOf i).toNat)
    case atStart=>exact ⟨0,Za5 _,rfl,fun q hq=>by omega,Below.refl _ _⟩
    case round=>
     obtain ⟨k,hk,rfl,bI, a⟩:=hrel
     rename World=>wa
     have HB:=hid a;have aS:Hid (Below w.heap.size w wa):=ck.out.trans (a.mono ck.out.size);have N:Hid (Below Q.heap.size Q wa):=aJ.out.trans (a.mono aJ.out.size);have M:J.heap.size≤wa.heap.size:=a.size;clear a;have cG:=hid bI;clear bI
     by_cases hlt:k < C.length
     ·obtain ⟨b2,o2,fu,r1,hs,ff,L,aY⟩:=ZAP (ZB7 cA.out) hlt
      simp only [Za3,true_and] at hs;obtain ⟨rfl,rfl⟩:=hs
      have aq:C.getD k []∈C:=by simp [hlt]
      obtain ⟨bk,bG⟩:=bK.out _ aq;obtain ⟨so,sc,bA,_,_⟩:=ZAH aY;rw [bk] at bA;subst bA
      have aR:Hid (ptT R d (pks A [] (C.getD k []))=none→∀q,q < k+1→ptT R d (pks A [] (C.getD q []))=none):=fun h q hq=>by
       by_cases e:q=k
       ·rw [e]; exact h
       ·exact cG.out q (by omega)
      have cr:Hid (ptT R d (pks A [] (C.getD k []))≠none→ZBk d R=false):=fun h=>by
       rw [aC.out,List.all_eq_false];refine ⟨C.getD k [],aq,?_⟩
       cases hp:ptT R d (pks A [] (C.getD k [])) with
       | none=>exact absurd hp h
       | some y=>simp
      generalize C.getD k []=c at *
      have cZ:Hid (∀W,Below J.heap.size J W→W.cell? ⟨b2,o2+k,none⟩=some (.slice so d sc)):=fun W h=>(h.cell (ZAI L)).trans L
      have de:Hid (∀W,Below J.heap.size J W→Sl 0 3 W (.slice so d sc) (ZAB c)):=fun W h=>aY.below h (Za4 _)
      have bP:=hid bG;have U:=hid bk;clear aY L bG bk aq
      have dP:(k:Int) < (C.length:Int):=by omega
      have cW:(0:Int)≤(k:Int):=by omega
      go_wp2
      go_loopw [11,12] (fun x i wq=>∃j:Nat,j≤d∧i=.int .i64 j∧Rws wa.heap.size 22 3 wq x ((pks A [] (c.take j)).map (ngR d))∧Below wa.heap.size wa wq) (fun _ i _=>d-(intOf i).toNat)
      case atStart=>exact ⟨0,Za5 _,rfl,Rws.nil _ _ _ _,Below.refl _ _⟩
      case round=>
       obtain ⟨j,hj,rfl,aQ,a⟩:=hrel;have bl:=hid aQ;have ay:=hid a;have aP:Hid (Below J.heap.size J wr):=HB.out.trans (a.mono M);have cq:Hid (Below Q.heap.size Q wr):=N.out.trans (a.mono N.out.size);clear aQ a
       by_cases s:j < d
       ·have az:Hid ((pks A [] (c.take (j+1))).map (ngR d)=(pks A [] (c.take j)).map (ngR d) ++ [ngR d (A.getD (c.getD j 0).toNat [])]):=by
         show _=_
         rw [ZGm A c j (by rw [U.out]; exact s),List.map_append]
         rfl
        have E:Hid (((pks A [] (c.take j)).map (ngR d)).length=j):=by show _=_; have:=U.out; simp [pks]; omega
        obtain ⟨b3,o3,fF,cI,dc,bT⟩:=ZAJ (de.out wr aP.out) (k:=j) (by rw [U.out]; exact s)
        simp only [Za3] at cI;obtain ⟨rfl,dx,rfl⟩:=cI;clear dx;have dN:=cZ.out wr aP.out;obtain ⟨aj,du⟩:=bP.out j s
        obtain ⟨q,hq⟩:∃q:Nat,c.getD j 0=(q:Int):=⟨(c.getD j 0).toNat,by omega⟩
        rw [hq] at bT aj du az
        rw [show ((q:Int)).toNat=q by omega] at az
        clear hq
        have aU:q < A.length:=by rw [←HN.out]; omega
        have fd:q < n:=by omega
        obtain ⟨b4,o4,dH,r2,ae,_,cU,bq⟩:=ZAP (bU.out wr cq.out) aU;rw [←HN.out] at ae;simp only [Za3,true_and] at ae;obtain ⟨rfl,rfl⟩:=ae
        have G:=au.out (A.getD q []) (by simp [aU])
        obtain ⟨yo,yc,cC,_,_⟩:=ZAH bq;rw [G.1] at cC;subst cC;have db:Hid (Sl wr.heap.size 3 wr (.slice yo (d+1) yc) (ZAB (A.getD q []))):=bq.more (Za5 _)
        have af:Hid ((A.getD q []).length=d+1∧((A.getD q []).getD d 0).natAbs≤30):=⟨G.1,G.2 ((A.getD q []).getD d 0) (ZAn (by rw [G.1]; omega))⟩
        clear bq G;generalize A.getD q []=y at *;clear dc aU;have aI:wa.heap.size≤wr.heap.size:=ay.out.size
        have dA:(j:Int) < (d:Int):=by omega
        have cV:(0:Int)≤(j:Int):=by omega
        have dB:(q:Int) < (n:Int):=by omega
        have dJ:(0:Int)≤(q:Int):=by omega
        go_wp2_with fail
        refine (ZBh wr.heap.size y _ wr db.out (by rw [af.out.1]; omega)).mono ?_
        rintro e V ⟨u,rfl,bt,cD⟩;rw [af.out.1] at bt
        obtain ⟨g,gc,F,hu,hg,O,hF,dw,dz⟩:=ZIm bt (by omega)
        subst hu
        have ca:=O.cell (i:=d) (by omega)
        have cf:=O.frozen d
        rw [hF d (by omega)] at ca
        have fA:=af.out.2
        have aO:Hid ((V.setCell ⟨g,d,none⟩ (.int .i64 (-(y.getD d 0)))).rowIs g 3 gc (fun i=>if i=d then .int .i64 (-(y.getD d 0)) else F i)):=O.set d _
        have aZ:Hid (∀Z,Sl Z 3 (V.setCell ⟨g,d,none⟩ (.int .i64 (-(y.getD d 0)))) (.slice (some ⟨g,0,none⟩) (d+1) gc) (ZAB (ngR d y))):=fun Z=>ZCw aO.out (fun i l=>by
         show (if i=d then Value.int .i64 (-(y.getD d 0)) else F i)=_
         rw [ZEd af.out.1 l]
         by_cases e:i=d
         ·rw [if_pos e,if_pos e]
         ·rw [if_neg e,if_neg e,hF i l]) (ZEc af.out.1) dw dz
        have f:Hid (Below wr.heap.size wr (V.setCell ⟨g,d,none⟩ (.int .i64 (-(y.getD d 0))))):=((Touch.refl _ _).setCell d _).below cD hg;generalize y.getD d 0=z at *
        have dX:wrap64 (-z)=-z:=IntWalk.wrap64_in _ ⟨by omega,by omega⟩
        have dy:(d:Int) < (d:Int)+1:=by omega
        have cw:(0:Int)≤(d:Int):=by omega
        clear O hF bt cD
        go_upto_region 19 with fail
        obtain ⟨W3,ar⟩:∃W3,W3=V.setCell ⟨g,d,none⟩ (.int .i64 (-z)):=⟨_,rfl⟩
        rw [←ar] at aZ f ⊢;clear ar aO ca cf;obtain ⟨vs,g1,g2,g3⟩:=bl.out.below f.out (Za4 _);have aH:=E.out;rw [aH] at g1 g2 g3;have G1:=hid g1;have G2:=hid g2;have G3:=hid g3;have aL:wa.heap.size≤W3.heap.size:=Zaa8 aI f.out.size;have bN:Hid (Below wa.heap.size wa W3):=ay.out.trans (f.out.mono aI);clear g1 g2 g3 aH
        go_wp2_with (first | (at_builtin; refine wpList_append_own _ rfl _ _ 25 rfl wa.heap.size 22 i0 (.slice none 0 0) 1 24 Tryz.underlying25 l bv bw bz rfl (by decide) _ _ _ rfl (G2.out.alloc _) ⟨W3.heap.size,0,none⟩ 1 1 [.slice (some ⟨g,0,none⟩) (d+1) gc] rfl rfl (ZAQ _ _ _) (ZAL _ _ _) ?d3 ?d4 ?d5 ?_))
        case d3=>unfold maxLen; omega
        case d4=>omega
        case d5=>simp; omega
        intro v' w4 ho bp _
        have R1:Hid (Rws wa.heap.size 22 3 w4 v' ((pks A [] (c.take (j+1))).map (ngR d))):=by
         have hp:=Rws.push (e2:=22) (e1:=3) (m:=(pks A [] (c.take j)).map (ngR d)) (u:=.slice (some ⟨g,0,none⟩) (d+1) gc) (zs:=ngR d y) (by decide) (by rw [E.out]; exact G1.out) (by rw [E.out]; exact G2.out.alloc _)
          (fun i l=>(G3.out i (by rw [E.out] at l; exact l)).alloc _) ((aZ.out _).alloc _) (by rw [E.out]; exact ho) bp
         rw [←az.out] at hp;exact hp
        have R2:Hid (Below wa.heap.size wa w4):=(bN.out.alloc aL _).grown bp (by simp; omega) (fun x hx=>(G2.out.lt x hx).1)
        clear ho bp;go_wp2
        go_roundw
        case rel=>exact ⟨j+1,by omega,by go_num,R1.out,R2.out⟩
        case measure=>simp [intOf]; omega
       ·obtain rfl:d=j:=by omega
        have HT:Hid (Rws wa.heap.size 22 3 wr u11 ((pks A [] c).map (ngR d))):=by
         have:=bl.out
         rw [Zaa2 (by rw [U.out]; exact Za4 _)] at this
         exact this
        clear bl hj s
        have bM:Hid ((pks A [] c).length=d):=by show _=_; rw [←U.out]; simp [pks]
        have dr:Hid (∀x∈pks A [] c,x∈A):=ZKs fun q hq=>by
         obtain ⟨i,l,rfl⟩:=List.mem_iff_getElem.1 hq
         have:=bP.out i (by rw [←U.out]; exact l)
         rw [←HN.out]
         simpa [l] using this
        generalize pks A [] c=t at *
        have bg:Hid (Mx (d+1) 60 (t.map (ngR d))):=ZOG (fun x hx=>au.out x (dr.out x hx)) hd
        go_wp2_with fail
        refine (ZEK (d+1) 60 wa.heap.size (t.map (ngR d)) u11 wr bg.out (HT.out.mat (Za4 _)) (by rw [Zab1,bM.out]; omega) (by rw [Zab1,bM.out]; omega)).mono ?_
        rintro e W5 ⟨nv,rfl,cQ,bC⟩;have aE:=hid cQ;have an:Hid (Below wa.heap.size wa W5):=ay.out.trans (bC.mono ay.out.size);clear cQ bC
        cases hnb:ZAp (d+1) (t.map (ngR d))
        case false=>
         have ak:Hid (ptT R d t=none):=by show _=_; unfold ptT; rw [hnb]; simp
         have ah:Hid (Below J.heap.size J W5):=HB.out.trans (an.out.mono M)
         have am:Hid (∀q,q < k+1→ptT R d (pks A [] (C.getD q []))=none):=aR.out ak.out
         clear hnb;go_wp2
         go_roundw
         case rel=>exact ⟨k+1,hlt,by go_num,am.out, ah.out⟩
         case measure=>simp [intOf]; omega
        case true=>
         have fz:=hid hnb
         obtain ⟨nb,no,nc,cd,fw,bZ⟩:=ZAJ aE.out (k:=d) (by rw [ZAx hnb]; omega)
         rw [ZAx hnb] at cd;subst cd
         have aB:Hid (ptY d t=if (ZAR (d+1) (t.map (ngR d))).getD d 0 < 0 then (ZAR (d+1) (t.map (ngR d))).map (fun z=>-z) else ZAR (d+1) (t.map (ngR d))):=rfl
         have T:Hid ((ptY d t).length=d+1∧∀z∈ptY d t,z.natAbs≤1000000000000):=⟨ZIn hnb,ZKt bg.out⟩
         have bR:Hid ((ZAR (d+1) (t.map (ngR d))).length=d+1∧∀z∈ZAR (d+1) (t.map (ngR d)),z.natAbs≤1000000000000):=⟨ZAx hnb,ZCN bg.out⟩
         have bL:Hid ((ZAR (d+1) (t.map (ngR d))).getD d 0≠0→ptT R d t=if ptK R d (ptY d t)=true then some (ptY d t) else none):=fun h0=>by
          unfold ptT
          by_cases hk:ptK R d (ptY d t)=true
          ·rw [if_pos ⟨hnb,h0,hk⟩,if_pos hk]
          ·rw [if_neg (fun h=>hk h.2.2),if_neg hk]
         have aK:Hid ((ZAR (d+1) (t.map (ngR d))).getD d 0=0→ptT R d t=none):=fun h0=>by
          unfold ptT
          rw [if_neg (fun h=>h.2.1 h0)]
         clear hnb;generalize ZAR (d+1) (t.map (ngR d))=X at *;generalize ptY d t=Y at *;generalize X.getD d 0=xd at *
         have dy:(d:Int) < (d:Int)+1:=by omega
         have cw:(0:Int)≤(d:Int):=by omega
         by_cases aj:xd=0
         ·subst aj
          have ak:Hid (ptT R d t=none):=aK.out rfl;have ah:Hid (Below J.heap.size J W5):=HB.out.trans (an.out.mono M)
          have am:Hid (∀q,q < k+1→ptT R d (pks A [] (C.getD q []))=none):=aR.out ak.out
          go_wp2
          go_roundw
          case rel=>exact ⟨k+1,hlt,by go_num,am.out, ah.out⟩
          case measure=>simp [intOf]; omega
         ·have cE:=bL.out aj
          have bX:=hid cE
          have fH:(xd == 0)=false:=by simp [aj]
          clear cE bL aK
          by_cases hxn:xd < 0
          case' pos=>
           have ag:Hid (Y=X.map fun z=>-z):=by rw [if_pos hxn] at aB; exact aB
           have cJ:decide (xd < 0)=true:=by simp [hxn]
           go_wp2_with fail
           refine (ZBo 0 X _ W5 aE.out (by rw [bR.out.1]; omega) (fun z hz=>by have:=bR.out.2 z hz; omega)).mono ?_
           rintro e W6 ⟨yv,rfl,bH,G⟩
           have aM:Hid (Sl 0 3 W6 yv (ZAB Y)):=by rw [ag.out]; exact Sl.own bH
           have aA:Hid (Below wa.heap.size wa W6):=an.out.trans (G.mono an.out.size);clear bH G bZ ag;go_wp2
          case' neg=>
           have ag:Hid (Y=X):=by rw [if_neg hxn] at aB; exact aB
           have cJ:decide (xd < 0)=false:=by simp [hxn]
           go_wp2
           have bD:Hid (Sl 0 3 W5 (.slice (some ⟨nb,no,none⟩) (d+1) nc) (ZAB Y)):=by rw [ag.out]; exact aE.out
           have aA:Hid (Below wa.heap.size wa W5):=an.out;clear bZ ag aE;generalize Value.slice (some (⟨nb,no,none⟩:Addr)) (d+1) nc=yv at *
           obtain ⟨W6,rfl⟩:∃W6,W6=W5:=⟨_,rfl⟩
           have aM:Hid (Sl 0 3 W6 yv (ZAB Y)):=bD.out;clear bD
          all_goals
           obtain ⟨yo,yc,bJ,_,_⟩:=ZAH aM.out;rw [T.out.1] at bJ;subst bJ
           obtain ⟨yb,yf,fG,bu,_,aX⟩:=ZAJ aM.out (k:=d) (by rw [T.out.1]; omega)
           rw [T.out.1] at bu;simp only [Za3,true_and] at bu;obtain ⟨rfl,rfl⟩:=bu
           have bW:Hid (∀W,Qe W6 W→W.cell? ⟨yb,yf+d,none⟩=some (.int .i64 (Y.getD d 0))):=fun W hq=>by
            obtain ⟨m,rfl⟩:=hq;exact aX
           have cT:Hid ((Y.getD d 0).natAbs≤1000000000000):=T.out.2 _ (ZAn (by rw [T.out.1]; omega))
           have bQ:Hid (Below w.heap.size w W6):=aS.out.trans (aA.out.mono aS.out.size);have cL:Hid (Below Q.heap.size Q W6):=N.out.trans (aA.out.mono N.out.size);clear aX
           go_loopw [16,17] (fun p i wq=>∃j:Nat,j≤nr∧i=.int .i64 j∧p=.bool ((R.take j).all fun r=>decide (ZC9 (r.take d) Y≤r.getD d 0*Y.getD d 0))∧Qe W6 wq) (fun _ i _=>nr-(intOf i).toNat)
           case atStart=>exact ⟨0,Za5 _,rfl,rfl,Qe.refl _⟩
           case round=>
            obtain ⟨j,hj,rfl,rfl,S⟩:=hrel;have HQ:=hid S;have cS:Hid (Below w.heap.size w wr):=bQ.out.trans S.below;have dL:Hid (Below Q.heap.size Q wr):=cL.out.trans S.below;have cY:Hid (Below wa.heap.size wa wr):=aA.out.trans S.below;have aX:=bW.out wr S
            have cH:Hid (((R.take j).all fun r=>decide (ZC9 (r.take d) Y≤r.getD d 0*Y.getD d 0))=false→ptK R d Y=false):=fun h=>by
             rw [List.all_eq_false] at h;obtain ⟨x,hx,dg⟩:=h;unfold ptK;rw [List.all_eq_false];exact ⟨x,Zaa7 hx,dg⟩
            clear S
            by_cases s:j < nr∧((R.take j).all fun r=>decide (ZC9 (r.take d) Y≤r.getD d 0*Y.getD d 0))=true
            ·obtain ⟨s,aa⟩:=s
             have bE:j < R.length:=by rw [←B.out]; exact s
             obtain ⟨b4,o4,dH,xv,ae,_,cU,dj⟩:=ZAP (dV.out wr cS.out) bE;rw [←B.out] at ae;simp only [Za3,Zaa9,true_and] at ae;obtain ⟨rfl,rfl⟩:=ae
             have bi:=dU.out (R.getD j []) (by simp [bE])
             obtain ⟨rb,rf,rc,dl,fq,fM⟩:=ZAJ dj (k:=d) (by rw [bi.1]; omega)
             have cM:=dj;rw [dl] at cM
             have dR:=Sl.takeE (n:=d) cM (by rw [bi.1]; omega)
             rw [bi.1] at dl fq;subst dl
             have fy:Hid (((R.take (j+1)).all fun r=>decide (ZC9 (r.take d) Y≤r.getD d 0*Y.getD d 0))=decide (ZC9 ((R.getD j []).take d) Y≤(R.getD j []).getD d 0*Y.getD d 0)):=by
              show _=_
              have e:R.take (j+1)=R.take j ++ [R.getD j []]:=by rw [Zaa1 bE]; simp [bE]
              rw [e,List.all_append,aa];simp
             have fi:Hid (∀m,Calls Tryz.prog 76 #[.slice (some ⟨rb,rf,none⟩) d rc,.slice (some ⟨yb,yf,none⟩) (d+1) yc] (wr.drewN m) fun e w'=>e=.returned (.int .i64 (ZC9 ((R.getD j []).take d) Y))∧∃k,w'=(wr.drewN m).drewN k):=fun m=>by
              obtain ⟨m2,fg⟩:=HQ.out;subst fg;have fp:Sl 0 3 (W6.drewN m2) (.slice (some ⟨yb,yf,none⟩) (d+1) yc) (ZAB Y):=aM.out.drewN m2
              exact ZNC 0 _ Y _ _ _ (dR.drewN m) (fp.drewN m) ⟨by have:=T.out.1; simp; omega,by simp; omega,fun z hz=>by have:=bi.2 z (Zaa7 hz); omega,T.out.2⟩
             have dM:=bi.2 ((R.getD j []).getD d 0) (ZAn (by rw [bi.1]; omega))
             have dW:((R.getD j []).getD d 0*Y.getD d 0).natAbs≤30*1000000000000:=by
              rw [Int.natAbs_mul]
              exact Nat.mul_le_mul (by omega) cT.out
             rw [aa];clear dj cM dR bi dM bE aa;generalize ZC9 ((R.getD j []).take d) Y=D at *;generalize (R.getD j []).getD d 0=rd at *;generalize Y.getD d 0=yd at *
             have dA:(j:Int) < (nr:Int):=by omega
             have cV:(0:Int)≤(j:Int):=by omega
             have fE:wrap64 (rd*yd)=rd*yd:=IntWalk.wrap64_in _ ⟨by omega,by omega⟩
             have fL:IntKind.i64.wrap (rd*yd)=rd*yd:=by rw [IntWalk.i64_left]; exact fE
             have fN:(d:Int)≤(rc:Int):=by omega
             have fI:d≤rc:=by omega
             clear dW;go_wp2
             go_quiet ((go_at_call 76; exact Calls.quiet_of (w:=wr) (fi.out _)))
             go_wp2
             exact ⟨⟨j+1,s,by go_num,by rw [fy.out],HQ.out.drewN nq⟩,by simp [intOf]; omega⟩
            ·have dh:Hid (((R.take j).all fun r=>decide (ZC9 (r.take d) Y≤r.getD d 0*Y.getD d 0))=ptK R d Y):=by
              show _=_
              cases aa:((R.take j).all fun r=>decide (ZC9 (r.take d) Y≤r.getD d 0*Y.getD d 0)) with
              | false=>exact (cH.out aa).symm
              | true=>
               have dv:¬j < nr:=fun h=>s ⟨h,aa⟩
               rw [←aa,Zaa2 (show R.length≤j by rw [←B.out]; omega)]
               rfl
             have aw:(decide ((j:Int) < (nr:Int)) && ((R.take j).all fun r=>decide (ZC9 (r.take d) Y≤r.getD d 0*Y.getD d 0)))=false:=by
              rw [Bool.eq_false_iff];intro h;rw [Bool.and_eq_true,decide_eq_true_eq] at h
              exact s ⟨by omega,h.2⟩
             have cP:Hid (Below J.heap.size J wr):=HB.out.trans (cY.out.mono M);rw [dh.out] at aw ⊢;clear s cH;generalize ptK R d Y=pb at *
             cases pb
             case false=>
              have ak:Hid (ptT R d t=none):=by show _=_; rw [bX.out]; rfl
              have am:Hid (∀q,q < k+1→ptT R d (pks A [] (C.getD q []))=none):=aR.out ak.out
              go_wp2
              all_goals exact ⟨⟨k+1,hlt,by go_num,am.out,cP.out⟩,by simp [intOf]; omega⟩
             case true=>
              have aV:Hid (ZBk d R=false):=cr.out (by rw [bX.out]; simp)
              have bY:decide ((j:Int) < (nr:Int))=false:=by rw [Bool.and_true] at aw; exact aw
              have dv:¬(j:Int) < (nr:Int):=of_decide_eq_false bY
              have dI:decide (j < nr)=false:=decide_eq_false (by omega)
              clear aw;go_wp2;go_ret
              exact ⟨by rw [aV.out]; rfl,cS.out⟩
     ·have aV:Hid (ZBk d R=true):=by
       show _=_
       rw [aC.out,List.all_eq_true];intro c hc;obtain ⟨q,hq,rfl⟩:=List.getElem_of_mem hc
       have:=cG.out q (by omega)
       rw [show C.getD q []=C[q] by simp [hq]] at this
       rw [this]; rfl
      go_wp2;go_ret
      exact ⟨by rw [aV.out]; rfl,aS.out⟩
theorem ZCS(w:World)(d:Nat)(v:Value):∃W0,W0=w.alloc (.cells #[.int .i64 d,v] 61)∧Below w.heap.size w W0∧W0.heap.size=w.heap.size+1∧∀W',Below W0.heap.size W0 W'→W'.cell? ⟨w.heap.size,0,none⟩=some (.int .i64 d)∧W'.cell? ⟨w.heap.size,1,none⟩=some v:=by
 refine ⟨_,rfl,ZAG _ _,size_alloc _ _,fun W' hB=>?_⟩
 have a:=(hB.block w.heap.size (by rw [size_alloc]; omega)).trans (ZAM w (.cells #[.int .i64 d,v] 61))
 exact ⟨by simp [World.cell?,a],by simp [World.cell?,a]⟩
theorem ZQM{r:List Int}(h:∀z∈r,z.natAbs≤20):r.any (ZE8 · 20)=false:=ZOD (n:=20) h
def gmE(d:Nat)(rows:List (List Int))(g:List Int):Int:=if ZDP d rows=true then 6 else if ZAZ rows g=[] then 7 else 0
theorem CutOk.rw{d:Nat}{rows:List (List Int)}(h:CutOk d rows):RwE d rows:=fun r hr=>⟨h.len r hr,h.bd r hr⟩
end Go.Proofs.YtgfnmkenpgnllaaGreat
namespace Go.Proofs.YtgfnmkenpgnllaaGreat
open Go.RowKit Lin
theorem ZDF{P:Program}{w:World}{ops:Array Oper}{rest:List Oper}{o:Oper}{a:Act}{Q:Exit→Act→World→Prop}(hgd:o.guard=none)(s x:Operand)(t:TypeId)
 (ho:o.op=.call { callee:=.builtin .append,args:=#[s,x],argTypes:=#[t,t] })
 (base:Nat)(e:TypeId)(i:TypeInfo)(z:Value)(bytes:Nat)(ht:P.underlying t=some (.slice e))(hi:P.info? e=some i)(hz:i.zero=some z)
 (hsize:i.size=1)(hby:i.bytes=bytes)(hzs:z.cells.size=1)
 (v:Value)(n:Nat)(xs:List Value)(hs:a.eval s=v)(hown:w.ownsRow base e 1 v n xs)
 (ro:Option Addr)(m c:Nat)(news:List Value)(hx:a.eval x=.slice ro m c)(hsl:Sl 0 e w (.slice ro m c) news)(h1:∀u∈news,u.oneCell'=true)
 (h63:n+m≤maxLen)(hbytes:(n+m)*bytes≤140737488355328)(hbase:base≤w.heap.size)
 (h:∀v' w',w'.ownsRow base e 1 v' (n+m) (xs ++ news)→w.grownBy w' v.ownBlock→wpList P ops Q rest (a.put o.dst v') w'):wpList P ops Q (o :: rest) a w:=by
 cases ro with
 | none=>
  obtain ⟨F,E,d,r,_,f,A⟩:=hsl;simp only [Za3] at d
  have j:news.length=0:=by
   apply Za6
   intro B
   obtain ⟨b,o,y,_⟩:=f 0 (by omega)
   rw [←d.1] at y; cases y
  have g:m=0:=by omega
  have p:c=0:=by rw [d.2.2]; exact A d.1.symm
  have l:news=[]:=List.eq_nil_of_length_eq_zero j;subst g p l
  refine wpList_append_own_none hgd s x t ho base e i 1 ht hi v n xs hs hown hx (h v w (by simpa using hown) (World.grownBy.refl _ _))
 | some ad=>
  have D:news.length=m*1:=by
   obtain ⟨F,E,d,_⟩:=hsl;simp only [Za3] at d;omega
  exact wpList_append_own w hgd s x t ho base e i z 1 bytes ht hi hz hsize hby hzs (by decide) v n xs hs hown ad m c news hx D (ZB6 hsl) h1 h63 hbytes hbase fun v' w' r f _=>h v' w' r f
theorem ZKx{c:Nat}{m:List (List Int)}(hx:Mx c 60 m)(h4:c≤4)(hl:(ZAK c m).length+1=c):∀z∈muL c (ZAK c m),z.natAbs≤1296000:=by
 intro z d;simp only [muL,List.mem_map,List.mem_range] at d;obtain ⟨k,p,rfl⟩:=d;unfold Lin.mu;rw [Int.natAbs_mul]
 have g:(Lin.ngo k).natAbs=1:=by rw [ZEJ]; by_cases e:k % 2=1 <;> simp [e]
 rw [g,Nat.one_mul,ZA0]
 have i:Lin.fb 60 3=1296000:=by decide
 have o:Lin.fb 60 (ZAK c m).length≤Lin.fb 60 3:=ZBG (by decide) (by omega)
 have f:=Lin.od_bd (n:=(ZAK c m).length) (B:=60) (Lin.cols (fm (ZAK c m)) (Lin.skp k)) (fun _=>false) (fun r hr j hj=>by
  simp only [Lin.cols,fm,List.mem_map] at hr;obtain ⟨_,⟨l,b,rfl⟩,rfl⟩:=hr
  by_cases hi:Lin.skp k j < l.length
  ·exact hx.bd l (ZBV b) _ (by simp [hi])
  ·simp only [Za2]; rw [Zaa6 (by omega)]; simp) (by rw [Lin.cu_none]; simp [Lin.cols,fm])
 have a:(Lin.cols (fm (ZAK c m)) (Lin.skp k)).length=(ZAK c m).length:=by simp [Lin.cols,fm]
 rw [a] at f;omega
theorem ZNE{c:Nat}{m:List (List Int)}(hx:Mx c 60 m)(h4:c≤4):∀z∈ZAR c m,z.natAbs≤1296000:=by
 intro z a;unfold ZAR at a
 split at a
 ·rename_i hl
  exact ZN7 (ZFF (ZKx hx h4 hl)) z a
 ·simp at a
theorem ZRZ{w:World}{a b:Int} : Sl 0 3 (w.alloc (.cells #[.int .i64 a,.int .i64 b] 3)) (.slice (some ⟨w.heap.size,0,none⟩) 2 2) (ZAB [a,b]):=by
 refine ⟨some ⟨w.heap.size,0,none⟩,2,rfl,by simp [ZAB],by simp [maxLen],fun i hi=>⟨w.heap.size,0,rfl,?_,.inr ⟨_,heap_alloc_new w _⟩⟩,fun e=>by cases e⟩
 rw [Nat.zero_add];simp only [World.cell?,heap_alloc_new]
 match i,hi with
 | 0,_=>rfl
 | 1,_=>rfl
theorem ZJY{B:Nat}{w:World}{u:Value}{a b:Int}(h:w.ownsRow B 3 1 u 2 (ZAB [a,b])):∃g gc,u=.slice (some ⟨g,0,none⟩) 2 gc∧B≤g∧w.cell? ⟨g,0,none⟩=some (.int .i64 a)∧w.cell? ⟨g,1,none⟩=some (.int .i64 b):=by
 rcases h.2 with ⟨_,h0⟩ | ⟨g,cap,cur,h1,h2,h3,_⟩
 ·omega
 ·subst h1
  exact ⟨g,cap,rfl,h2,h.cellAt 0 (by omega),h.cellAt 1 (by omega)⟩
end Go.Proofs.YtgfnmkenpgnllaaGreat
namespace Go.Proofs.YtgfnmkenpgnllaaGreat
open Go
theorem ZAA{P:Program}{md:Region.Mode}{ops:Array Oper}{Q:Exit→Act→World→Prop}{S:World→Prop}{i d:Nat}{oi:Oper}{v:Value}{fuel:Nat}{listed:Array Bool}{a:Act}{w:World}(hi:ops.toList[i]?=some oi)(hd:oi.dst=some d)
 (hs:Region.noSelect ops=true)(hf:Region.free md ops listed i=true)(hr:(Region.ready md ops listed).contains i=true)
 (hQ:∀c a w,Q (.panic c) (a.put (some d) v) w→Q (.panic c) a w)(hy:YieldsIf P ops S oi v a)(hS:S w)
 (h:wpAnyH P md ops Q S fuel (listed.setIfInBounds i true) (a.put (some d) v) w):wpAnyH P md ops Q S (fuel+1) listed a w:=by
 rw [Array.getElem?_toList] at hi;rw [←hd] at hQ h;exact wpAnyH_take hi hs hf hr hQ hy hS h
theorem ZAF{P:Program}{md:Region.Mode}{ops:Array Oper}{Q:Exit→Act→World→Prop}{S:World→Prop}{fuel:Nat}{listed:Array Bool}{a:Act}{w:World}{i:Nat}{o:Oper}{rs:List Nat}(ho:ops.toList[i]?=some o)(hw:Region.wanted o (yielded ops a.tmps)=true)
 (h:∀K':Act→World→Prop,Shut (∀a w,S w→(S w→wpAnyH P md ops Q S fuel (listed.setIfInBounds i true) a w)→K' a w)→Oper.wp P o a w K' Q)
 (hs:AllReadyH P md ops Q S fuel listed a w rs):AllReadyH P md ops Q S fuel listed a w (i :: rs):=by
 rw [Array.getElem?_toList] at ho
 refine AllReadyH.cons ho (fun K' hK=>?_) hs
 rw [if_pos hw];exact h K' hK
end Go.Proofs.YtgfnmkenpgnllaaGreat
