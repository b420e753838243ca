import Derived.Test.YtkjkfceblmgogaaGreatRunB
import Derived.Deep.Onto
set_option maxRecDepth 100000
set_option maxHeartbeats 2000000
namespace Go.Proofs.YtkjkfceblmgogaaGreat
open Go.RowKit
theorem ZIm{B b n:Nat}{e:TypeId}{w:World}{f:Nat→Value}{xs:List Value}(h:w.rowIs b e n f)(hB:B≤b)(hn:xs.length=n)(hm:n≤maxLen)(hx:∀i,i < n→xs[i]?=some (f i)) :
  w.ownsRow B e 1 (.slice (some ⟨b,0,none⟩) n n) n xs:=by
 obtain ⟨c,d,g,a⟩:=h
 refine ⟨by omega,Or.inr ⟨b,n,c,rfl,hB,d,Za4 _,hm,by omega,?_⟩⟩
 apply List.ext_getElem?
 intro i
 by_cases hi:i < n
 ·rw [Zaa5 (by omega),hx i hi,Array.getElem?_toList]; exact a i hi
 ·rw [Zaa6 (by simp; omega),Zaa6 (by omega)]
theorem ZHl(B:Nat)(l:List Int)(v:Value)(w:World)(hv:Sl B 3 w v (ZAB l))(hl:l.length≤1000000)(g:Nat)(d:Int)(hg:g < w.heap.size)(hd:1≤d)(hb:∀z∈l,z.natAbs≤4611686018427387904)(hc:w.cell? ⟨g,0,none⟩=some (.int .i64 d)) :
  Calls Tryz.prog 79 #[v,.func (.func 128) #[] #[.pointer (some ⟨g,0,none⟩)]] w fun e w'=>∃u,e=.returned u∧w'.ownsRow w.heap.size 3 1 u l.length (ZAB (l.map (fun z=>z.tdiv d)))∧Below w.heap.size w w':=by
 obtain ⟨O,s,n,N,D⟩:=ZAI hv;subst n;have A:Hid (Sl B 3 w (.slice O l.length s) (ZAB l)):=hv;have p:=hid hb;have Q:=hid hc;clear hb hc;clear hv
 have G:=run_make_row' (P:=Tryz.prog) 27 3 (.int .i64 0) 8 Tryz.underlying27 Tryz.info3 rfl .i64 .i64 l.length (by omega) (by omega)
 go_enter Tryz.func79,Tryz.ntmps79;go_wp2
 go_loopw [13] (fun i wr=>∃k:Nat,k≤l.length∧i=.int .i64 k∧wr.rowIs w.heap.size 3 l.length (fun j=>.int .i64 (if j < k then (l.map (fun z=>z.tdiv d)).getD j 0 else 0))∧Below w.heap.size w wr) (fun i _=>l.length-(intOf i).toNat)
 case atStart=>
  refine ⟨0,Za5 _,rfl,?_,(Below.refl _ _).alloc (Za4 _) _⟩
  exact (World.rowIs_made w (.int .i64 0) l.length 3).congr fun i hi=>by simp
 case round=>
  obtain ⟨k,R,rfl,a,c⟩:=hrel;have t:=hid a;have r:=hid c
  by_cases hlt:k < l.length
  ·obtain ⟨b,o,S,y,F,M⟩:=ZAK (A.out.below c (Za4 _)) hlt
   simp only [Za3] at y;obtain ⟨rfl,_,rfl⟩:=y;have E:=a.frozen k;have J:=a.cell (i:=k) hlt
   have L:Hid ((l.map (fun z=>z.tdiv d)).getD k 0=(fun z=>z.tdiv d) (l.getD k 0)):=by show _=_; simp [hlt]
   have f:l.getD k 0∈l:=by simp [hlt]
   have m:=hid f;generalize hxk:l.getD k 0=x at *;clear a c f hxk
   go_wp2_with fail
   refine (ZKO x d wr ⟨g,0,none⟩ hd (p.out x m.out) ((r.out.cell hg).trans Q.out)).mono ?_;rintro e w' ⟨rfl,rfl⟩;go_wp2
   go_roundw
   case rel=>
    refine ⟨k+1,by omega,by go_num,?_,r.out.setCell (Za4 _) _⟩
    refine (t.out.set k _).congr fun j hj=>?_
    by_cases e1:j=k
    ·subst e1; rw [if_pos rfl,if_pos (by omega),L.out]
    ·by_cases e2:j < k
     ·rw [if_neg e1,if_pos e2,if_pos (by omega)]
     ·rw [if_neg e1,if_neg e2,if_neg (by omega)]
   case measure=>simp [intOf]; omega
  ·clear a c
   go_wp2;go_ret;refine ⟨_,rfl,?_,r.out⟩
   refine ZIm t.out (Za4 _) (by simp) (by unfold maxLen; omega) fun i hi=>?_
   rw [ZAZ _ _ (by simpa using hi),if_pos (by omega)]
theorem ZHm(B:Nat)(l:List Int)(v:Value)(w:World)(hv:Sl B 3 w v (ZAB l))(hl:l.length≤1000000)(hb:∀z∈l,z.natAbs≤4611686018427387904) :
  Calls Tryz.prog 79 #[v,.func (.func 80) #[] #[]] w fun e w'=>∃u,e=.returned u∧w'.ownsRow w.heap.size 3 1 u l.length (ZAB (l.map (fun z=>-z)))∧Below w.heap.size w w':=by
 obtain ⟨M,n,g,L,y⟩:=ZAI hv;subst g;have t:Hid (Sl B 3 w (.slice M l.length n) (ZAB l)):=hv;have m:=hid hb;clear hb;clear hv
 have E:=run_make_row' (P:=Tryz.prog) 27 3 (.int .i64 0) 8 Tryz.underlying27 Tryz.info3 rfl .i64 .i64 l.length (by omega) (by omega)
 go_enter Tryz.func79,Tryz.ntmps79;go_wp2
 go_loopw [13] (fun i wr=>∃k:Nat,k≤l.length∧i=.int .i64 k∧wr.rowIs w.heap.size 3 l.length (fun j=>.int .i64 (if j < k then (l.map (fun z=>-z)).getD j 0 else 0))∧Below w.heap.size w wr) (fun i _=>l.length-(intOf i).toNat)
 case atStart=>
  refine ⟨0,Za5 _,rfl,?_,(Below.refl _ _).alloc (Za4 _) _⟩
  exact (World.rowIs_made w (.int .i64 0) l.length 3).congr fun i hi=>by simp
 case round=>
  obtain ⟨k,N,rfl,a,c⟩:=hrel;have p:=hid a;have s:=hid c
  by_cases hlt:k < l.length
  ·obtain ⟨b,o,O,r,D,J⟩:=ZAK (t.out.below c (Za4 _)) hlt
   simp only [Za3] at r;obtain ⟨rfl,_,rfl⟩:=r;have A:=a.frozen k;have F:=a.cell (i:=k) hlt
   have G:Hid ((l.map (fun z=>-z)).getD k 0=(fun z=>-z) (l.getD k 0)):=by show _=_; simp [hlt]
   have d:l.getD k 0∈l:=by simp [hlt]
   have f:=hid d;generalize hxk:l.getD k 0=x at *;clear a c d hxk
   go_wp2_with fail
   refine (ZMu x wr (m.out x f.out)).mono ?_;rintro e w' ⟨rfl,rfl⟩;go_wp2
   go_roundw
   case rel=>
    refine ⟨k+1,by omega,by go_num,?_,s.out.setCell (Za4 _) _⟩
    refine (p.out.set k _).congr fun j hj=>?_
    by_cases e1:j=k
    ·subst e1; rw [if_pos rfl,if_pos (by omega),G.out]
    ·by_cases e2:j < k
     ·rw [if_neg e1,if_pos e2,if_pos (by omega)]
     ·rw [if_neg e1,if_neg e2,if_neg (by omega)]
   case measure=>simp [intOf]; omega
  ·clear a c
   go_wp2;go_ret;refine ⟨_,rfl,?_,s.out⟩
   refine ZIm p.out (Za4 _) (by simp) (by unfold maxLen; omega) fun i hi=>?_
   rw [ZAZ _ _ (by simpa using hi),if_pos (by omega)]
theorem ZB4(B:Nat)(l:List Int)(v:Value)(w:World)(hv:Sl B 3 w v (ZAB l))(hl:l.length≤1000000)(hb:∀z∈l,z.natAbs≤4611686018427387904) :
  Calls Tryz.prog 99 #[v] w fun e w'=>∃u,e=.returned u∧w'.ownsRow w.heap.size 3 1 u l.length (ZAB (Lin.low l))∧Below w.heap.size w w':=by
 obtain ⟨L,r,x,P,M⟩:=ZAI hv;subst x;have J:Hid (Sl B 3 w (.slice L l.length r) (ZAB l)):=hv;have d:=hid hb;clear hv hb;go_enter Tryz.func99,Tryz.ntmps99
 go_wp2_with fail
 refine (ZHc B l _ w J.out d.out).mono ?_;rintro e j ⟨rfl,N,c⟩
 have n:Hid (Sl B 3 j (.slice L l.length r) (ZAB l)):=by rw [c]; exact J.out.drewN N
 have t:Hid (Below w.heap.size w j):=by rw [c]; exact ⟨rfl,rfl,rfl,Za4 _,fun _ _=>rfl⟩
 have p:w.heap.size=j.heap.size:=by rw [c]; rfl
 have D:=hid p;clear c p
 obtain ⟨g,s⟩:∃g,g=Lin.gc l:=⟨_,rfl⟩
 have y:=hid s;rw [←s]
 have O:g≤4611686018427387904:=by rw [s]; exact ZMs d.out
 clear s
 have a:Hid (Below w.heap.size w (j.alloc (.cells #[.int .i64 g] 3))):=t.out.alloc (by rw [D.out]; exact Za4 _) _
 by_cases h0:g=0
 ·have o:((g:Int) == 0)=true:=by simp [h0]
  have F:Hid (Lin.low l=l):=ZIg (by rw [←y.out]; exact h0)
  clear h0
  go_wp2_with fail
  refine (ZC3 B l _ _ (n.out.alloc _) hl).mono ?_;rintro e m ⟨u,rfl,i,b⟩
  have E:Hid (m.ownsRow w.heap.size 3 1 u l.length (ZAB (Lin.low l))):=by rw [F.out]; exact i.mono a.out.size
  have f:Hid (Below w.heap.size w m):=a.out.trans (b.mono a.out.size);clear i b;go_wp2;go_ret;exact ⟨_,rfl,E.out,f.out⟩
 ·have o:((g:Int) == 0)=false:=by rw [beq_eq_false_iff_ne]; omega
  have G:Hid ((l.map fun z=>z.tdiv (g:Int))=Lin.low l):=by show _=_; rw [y.out]; exact ZMv (by rw [←y.out]; omega)
  have A:(1:Int)≤(g:Int):=by omega
  clear h0
  go_wp2_with fail
  refine (ZHl B l _ _ (n.out.alloc _) hl j.heap.size g (by simp) A d.out (by simp)).mono ?_
  rintro e m ⟨u,rfl,i,b⟩
  have E:Hid (m.ownsRow w.heap.size 3 1 u l.length (ZAB (Lin.low l))):=by rw [←G.out]; exact i.mono a.out.size
  have f:Hid (Below w.heap.size w m):=a.out.trans (b.mono a.out.size);clear i b;go_wp2;go_ret;exact ⟨_,rfl,E.out,f.out⟩
theorem ZBb(B:Nat)(l:List Int)(v:Value)(w:World)(hv:Sl B 3 w v (ZAB l))(hl:l.length≤1000000)(hb:∀z∈l,z.natAbs≤4611686018427387904) :
  Calls Tryz.prog 49 #[v] w fun e w'=>∃u,e=.returned u∧w'.ownsRow w.heap.size 3 1 u l.length (ZAB (l.map fun z=>-z))∧Below w.heap.size w w':=by
 go_enter Tryz.func49,Tryz.ntmps49
 go_wp2_with fail
 refine (ZHm B l v w hv hl hb).mono ?_;rintro e f ⟨u,rfl,c,a⟩;have d:=hid c;have b:=hid a;clear c a;go_wp2;go_ret;exact ⟨_,rfl,d.out,b.out⟩
theorem ZHn(B:Nat)(l:List Int)(v:Value)(w:World)(ho0:w.ownsRow B 3 1 v l.length (ZAB l))(hB0:B≤w.heap.size)(hl:l.length≤1000000)(hb:∀z∈l,z.natAbs≤4611686018427387904) :
  Calls Tryz.prog 130 #[v] w fun e w'=>∃u,e=.returned u∧w'.ownsRow B 3 1 u l.length (ZAB (Lin.upr l))∧Below w.heap.size w w':=by
 have hv:Sl B 3 w v (ZAB l):=Sl.own ho0;obtain ⟨M,p,j,L,D⟩:=ZAI hv;subst j;have d:=hid ho0;have c:Hid (Sl B 3 w (.slice M l.length p) (ZAB l)):=hv;have m:=hid hb;clear hv hb ho0
 cases han:l.any (· != 0)
 ·have g:Hid (Lin.upr l=l):=ZMx han
  have i:Hid (ZCe (· != 0) l=-1):=ZCZ han;clear han;go_enter Tryz.func130,Tryz.ntmps130
  go_wp2_with fail
  refine (ZCk B l _ w c.out).mono ?_;rintro e w' ⟨rfl,rfl⟩;rw [i.out];go_wp2;go_ret
  exact ⟨_,rfl,by rw [g.out]; exact d.out,Below.refl _ _⟩
 ·obtain ⟨k,A,y,t⟩:=ZMw han
  have i:=hid y;have g:=hid t;clear han y t;obtain ⟨b,o,N,s,F,J⟩:=ZAK c.out A;simp only [Za3] at s;obtain ⟨rfl,_,rfl⟩:=s;generalize l.getD k 0=x at *
  by_cases hneg:x < 0
  ·have a:Hid (Lin.upr l=l.map (fun v=>-v)):=by show _=_; rw [g.out,if_pos hneg]
   go_enter Tryz.func130,Tryz.ntmps130
   go_wp2_with fail
   refine (ZCk B l _ w c.out).mono ?_;rintro e w' ⟨rfl,rfl⟩;rw [i.out]
   go_wp2_with fail
   refine (ZBb B l _ w' c.out hl m.out).mono ?_;rintro e E ⟨u,rfl,r,f⟩
   have G:Hid (E.ownsRow B 3 1 u l.length (ZAB (Lin.upr l))):=by rw [a.out]; exact r.mono hB0
   have n:=hid f;clear r f;go_wp2;go_ret;exact ⟨_,rfl,G.out,n.out⟩
  ·have a:Hid (Lin.upr l=l):=by show _=_; rw [g.out,if_neg hneg]
   go_enter Tryz.func130,Tryz.ntmps130
   go_wp2_with fail
   refine (ZCk B l _ w c.out).mono ?_;rintro e w' ⟨rfl,rfl⟩;rw [i.out];go_wp2;go_ret
   exact ⟨_,rfl,by rw [a.out]; exact d.out,Below.refl _ _⟩
end Go.Proofs.YtkjkfceblmgogaaGreat
namespace Go.Proofs.YtkjkfceblmgogaaGreat
open Go.RowKit Lin
attribute [local go_sem ↓] Go.wp_at_zero Go.wp_at_succ
theorem ZHo(l:List Int):(low l).length=l.length:=by simp [low]
theorem ZHp(l:List Int):(upr l).length=l.length:=by unfold upr; split <;> simp
def Rwo(B:Nat)(w:World)(v:Value)(m:List (List Int)):Prop:=
 ∃vs,vs.length=m.length∧w.ownsRow B 27 1 v m.length vs∧∀i,i < m.length→w.ownsRow B 3 1 (vs.getD i (.slice none 0 0)) (m.getD i []).length (ZAB (m.getD i []))
theorem Rwo.nil(B:Nat)(w:World):Rwo B w (.slice none 0 0) []:=⟨[],rfl,World.ownsRow_nil _ _ _ _,fun i hi=>absurd hi (by simp)⟩
theorem Rwo.below{B N:Nat}{w w':World}{v:Value}{m:List (List Int)}(h:Rwo B w v m)(hb:Below N w w')(hN:w.heap.size≤N):Rwo B w' v m:=by
 obtain ⟨a,b,c,d⟩:=h
 exact ⟨a,b,ZAQ c hb hN,fun i hi=>ZAQ (d i hi) hb hN⟩
theorem Rwo.low{B B':Nat}{w:World}{v:Value}{m:List (List Int)}(h:Rwo B w v m)(hB:B'≤B):Rwo B' w v m:=by
 obtain ⟨a,b,c,d⟩:=h
 exact ⟨a,b,ZEI c hB,fun i hi=>ZEI (d i hi) hB⟩
theorem ZFN{B n n2:Nat}{w w':World}{v u:Value}{xs ys:List Value}(h:w.ownsRow B 27 1 v n xs)(hu:w.ownsRow B 3 1 u n2 ys)(hg:w.grownBy w' v.ownBlock):w'.ownsRow B 3 1 u n2 ys:=by
 refine ⟨hu.1,?_⟩
 rcases hu.2 with q | ⟨b,cap,cur,rfl,r1,r2,r3⟩
 ·exact Or.inl q
 ·refine Or.inr ⟨b,cap,cur,rfl,r1,?_,r3⟩
  rw [hg.block b (lt_of_block r2) (fun e=>?_)]
  ·exact r2
  ·rcases h.2 with ⟨f1,_⟩ | ⟨b',cap',cur',f1,s1,s2,_⟩
   ·rw [f1] at e; simp [Value.ownBlock] at e
   ·rw [f1] at e
    simp [Value.ownBlock] at e;subst e;rw [r2] at s2; simp at s2
theorem Rwo.push{B:Nat}{w w':World}{v v' u:Value}{m:List (List Int)}{vs:List Value}{zs:List Int}(h1:vs.length=m.length)(h2:w.ownsRow B 27 1 v m.length vs)
 (h3:∀i,i < m.length→w.ownsRow B 3 1 (vs.getD i (.slice none 0 0)) (m.getD i []).length (ZAB (m.getD i [])))(hu:w.ownsRow B 3 1 u zs.length (ZAB zs))
 (ho:w'.ownsRow B 27 1 v' (m.length+1) (vs ++ [u]))(hg:w.grownBy w' v.ownBlock):Rwo B w' v' (m ++ [zs]):=by
 refine ⟨vs ++ [u],by simp [h1],by simpa using ho,fun i hi=>?_⟩
 by_cases hlt:i < m.length
 ·have a:(vs ++ [u]).getD i (.slice none 0 0)=vs.getD i (.slice none 0 0):=by
   simp only [Za2]; rw [Za7 (by omega)]
  have b:(m ++ [zs]).getD i []=m.getD i []:=by
   simp only [Za2]; rw [Za7 (by omega)]
  rw [a,b];exact ZFN h2 (h3 i hlt) hg
 ·have c:i=m.length:=by simp at hi; omega
  subst c
  have a:(vs ++ [u]).getD m.length (.slice none 0 0)=u:=by
   rw [←h1]; simp
  have b:(m ++ [zs]).getD m.length []=zs:=by simp
  rw [a,b];exact ZFN h2 hu hg
structure KrG(c:Nat)(m:List (List Int)):Prop where
 row:∀r∈m,r.length=c
 c20:c≤20
 c1:1≤c
 few:c≤6∨m.length≤5
 bdd:Bd (mOf m) m.length c
 val:∀{M':Nat→Nat→Int} {C:Nat→Nat} {k:Nat} {sgn:Int},Red (mOf m) m.length c M' C k sgn→k < c→(dk M' C k).natAbs≤1000000000000∧∀i,i < m.length→∀j,j < c→(rr M' C k i j).natAbs≤1000000000000
theorem ZKf{c B K:Nat}{m:List (List Int)}(hB:1≤B)(hent:∀{q:Nat} {M':Nat→Nat→Int} {C:Nat→Nat} {k:Nat} {sgn:Int},Red (mOf m) m.length q M' C k sgn→∀i,i < m.length→∀j,j < c→(M' i j).natAbs≤B)(hK:c≤K+1∨m.length≤K)(hf:2*fb B (K+1)≤1000000000000)
 {M':Nat→Nat→Int}{C:Nat→Nat}{k:Nat}{sgn:Int}(hred:Red (mOf m) m.length c M' C k sgn)(hkc:k < c):(dk M' C k).natAbs≤1000000000000∧∀i,i < m.length→∀j,j < c→(rr M' C k i j).natAbs≤1000000000000:=by
 have a:=hred.done.kn
 have g:fb B k≤fb B (K+1):=ZAz hB (by omega)
 have f:fb B (k+1)≤fb B (K+1):=ZAz hB (by omega)
 have d:=ZJP (B:=B) (k:=k) (M:=M') (C:=C) (fun i hi b d=>hent hred i (by omega) _ (hred.done.rise.2 b d))
 refine ⟨by omega,fun i hi j hj=>?_⟩
 have:=ZMp (B:=B) (n:=m.length) (c:=c) (k:=k) (i:=i) (j:=j) (M:=M') (C:=C) hB (hent hred) a hred.done.rise.2 hi hj;omega
theorem KrG.of{c:Nat}{m:List (List Int)}(hx:Mx c 60 m):KrG c m:=⟨hx.row,Zaa8 hx.c5 (by decide),hx.c1,.inl (Zaa8 hx.c5 (by decide)),ZRp hx,fun h hk=>ZKf (K:=4) (by decide) (fun h=>ZGi hx h) (.inl hx.c5) (by decide) h hk⟩
structure MxS(c:Nat)(m:List (List Int)):Prop where
 row:∀r∈m,r.length=c
 bd:∀r∈m,∀z∈r,z.natAbs≤20
 c6:c≤6
 c1:1≤c
 m5:m.length≤5
theorem ZFO{m:List (List Int)}{c q:Nat}{M':Nat→Nat→Int}{C:Nat→Nat}{k:Nat}{sgn:Int}(hx:MxS c m)(h:Red (mOf m) m.length q M' C k sgn):∀i,i < m.length→∀j,j < c→(M' i j).natAbs≤20:=by
 intro i n j o;obtain ⟨b,d,l⟩:=h.sub i n;rw [l];unfold mOf
 have f:m.getD b []∈m:=by rw [Za2,Za9 d]; exact List.getElem_mem d
 have g:=hx.row _ f;refine hx.bd _ f _ ?_;generalize m.getD b []=r at g ⊢
 have a:j < r.length:=by omega
 have e:r.getD j 0=r[j]:=by simp [a]
 rw [e]; exact List.getElem_mem a
theorem bdS{c:Nat}{m:List (List Int)}(hx:MxS c m):Bd (mOf m) m.length c:=by
 intro q d C k t l h i o j v;have a:=ZFO hx h;have s:=hx.m5;have g:=h.done.kn
 have f:∀b,b < k+1→C b < c:=fun b hb=>Nat.lt_of_lt_of_le (h.done.rise.2 b hb) l
 have r:fb 20 4*(fb 20 5+fb 20 6)≤9223372036854775807:=by decide
 have A:=ZMp (B:=20) (n:=m.length) (c:=c) (k:=k+1) (i:=i) (j:=j) (M:=d) (C:=C) (by decide) a g f o v
 have E:=ZJP (B:=20) (k:=k) (M:=d) (C:=C) (fun i o b hb=>a i (by omega) _ (f b (by omega)))
 have y:fb 20 (k+1)≤fb 20 5:=ZAz (by decide) (by omega)
 have x:fb 20 (k+1+1)≤fb 20 6:=ZAz (by decide) (by omega)
 have D:fb 20 k≤fb 20 4:=ZAz (by decide) (by omega)
 have p:=ZIk 20 (by decide) 4
 have z:(dk d C k*rr d C (k+1) i j).natAbs≤fb 20 4*(fb 20 5+fb 20 6):=by
  rw [Int.natAbs_mul]
  exact Nat.mul_le_mul (by omega) (by omega)
 have l:(rr d C (k+1) i j).natAbs≤fb 20 4*(fb 20 5+fb 20 6):=
  Zaa8 (show (rr d C (k+1) i j).natAbs≤1*(fb 20 5+fb 20 6) by omega) (Nat.mul_le_mul_right _ p)
 omega
theorem MxS.krg{c:Nat}{m:List (List Int)}(hx:MxS c m):KrG c m:=⟨hx.row,Zaa8 hx.c6 (by decide),hx.c1,.inl hx.c6,bdS hx,fun h hk=>ZKf (K:=5) (by decide) (fun h=>ZFO hx h) (.inl hx.c6) (by decide) h hk⟩
theorem ZHq(B c:Nat)(m:List (List Int))(v:Value)(w:World)(hx:KrG c m)(hv:Mat B 27 3 w v m)(hm:m.length≤500)(hm0:1≤m.length) :
  Calls Tryz.prog 129 #[v,.int .i64 c] w fun e w'=>∃M' C k sgn,Red (mOf m) m.length c M' C k sgn∧∃u,e=.returned u∧Rwo w.heap.size w' u ((ZAf k C c).map (ZFr M' C c k))∧(∀l∈(ZAf k C c).map (ZFr M' C c k),l.length=c∧∀z∈l,z.natAbs≤1000000000000)∧Below w.heap.size w w':=by
 obtain ⟨i3,bB,aZ,aE,bg⟩:=info_parts Tryz.info27;obtain ⟨ao,bw,bC,bO,bU⟩:=ZAD hv;subst bC;have bI:=hx.c20;have bG:=hx.few;have bh:=hx.c1
 have HR:Hid (Calls Tryz.prog 86 #[.slice ao m.length bw,.int .i64 c] w fun e w'=>∃M' C k sgn,Red (mOf m) m.length c M' C k sgn∧∃N J S E,e=.returned (.agg #[.slice N m.length J,.slice S k E,.int .i64 (dk M' C k),.int .i64 sgn])∧
   Mat w.heap.size 27 3 w' (.slice N m.length J) (ZAl m.length c (rr M' C k))∧Sl w.heap.size 3 w' (.slice S k E) (ZAB ((List.range k).map fun b=>(C b:Int)))∧Below w.heap.size w w'):=by
  refine (ZJX B c m _ w hv hm hm0 bh (by omega) hx.row (hx.bdd)).mono ?_
  rintro e w' ⟨M',C,k,sgn,hr,rv,pv,rfl,h1,h2,h3⟩;obtain ⟨N,J,e1,_,_⟩:=ZAD h1;obtain ⟨S,E,e2,_,_⟩:=ZAI h2;simp only [Zab1,List.length_range,ZAl] at e1 e2;subst e1 e2;exact ⟨M',C,k,sgn,hr,N,J,S,E,rfl,h1,h2,h3⟩
 have HX:=hid hx;clear hv hx;go_enter Tryz.func129,Tryz.ntmps129
 go_wp2_with fail
 refine (HR.out).mono ?_;rintro e w2 ⟨M',C,k,sgn,g,N,J,S,E,rfl,M,aa,hb⟩;obtain ⟨_,_,aP,bj,bV⟩:=ZAD M;simp only [Za3,ZAl,Zab1,List.length_range] at aP bj;obtain ⟨rfl,_,rfl⟩:=aP;have ar:=hid g;have bR:=g.done.kn;have aq:=ZGj g.done.rise;have aQ:=ZDu g;have bW:=hid aQ
 have aT:Hid (k < c→(dk M' C k).natAbs≤1000000000000∧∀i,i < m.length→∀j,j < c→(rr M' C k i j).natAbs≤1000000000000):=fun aq=>HX.out.val g aq
 obtain ⟨f,r⟩:∃f,f=w2.alloc (.cells #[.slice N m.length J,.slice S k E,.int .i64 (dk M' C k),.int .i64 sgn] 109):=⟨_,rfl⟩
 have ah:Hid (Below w.heap.size w f):=by rw [r]; exact hb.alloc hb.size _
 have bv:Hid (Mat w.heap.size 27 3 f (.slice N m.length J) (ZAl m.length c (rr M' C k))):=by rw [r]; exact M.below ((Below.refl _ _).alloc (Za4 _) _) (Za4 _)
 have aD:Hid (Sl w.heap.size 3 f (.slice S k E) (ZAB ((List.range k).map fun b=>(C b:Int)))):=by rw [r]; exact aa.alloc _
 have T:Hid (f.heap[w2.heap.size]?=some (.cells #[.slice N m.length J,.slice S k E,.int .i64 (dk M' C k),.int .i64 sgn] 109 (0,0))):=by rw [r]; exact ZM3 _ _
 have aB:=hid r
 have aJ:Hid (w2.heap.size < f.heap.size):=by rw [r]; show _ < _; simp
 clear g M aa hb aQ r;have bF:k≤c:=aq
 have c0:f.cell? ⟨w2.heap.size,0,none⟩=some (.slice N m.length J):=by simp [World.cell?,T.out]
 have c1:f.cell? ⟨w2.heap.size,1,none⟩=some (.slice S k E):=by simp [World.cell?,T.out]
 have c2:f.cell? ⟨w2.heap.size,2,none⟩=some (.int .i64 (dk M' C k)):=by simp [World.cell?,T.out]
 have G:=aJ.out
 obtain ⟨R,hR⟩:∃R,R=w2.heap.size:=⟨_,rfl⟩
 obtain ⟨val,s⟩:∃val,val=dk M' C k:=⟨_,rfl⟩
 have af:=hid s;have au:=aB.out;rw [←s] at c2 au;rw [←hR] at c0 c1 c2 G;clear T aJ aB
 have bS:=run_make_row' (P:=Tryz.prog) 27 3 (.int .i64 0) 8 Tryz.underlying27 Tryz.info3 rfl .i64 .i64 c (by omega) (by omega)
 rw [←s];clear s;go_wp2;rw [←au,←hR];clear au hR
 go_loopw [15,6,7,8,9,10] (fun i o _ _ _ _ wr=>∃q:Nat,q≤c∧i=.int .i64 q∧Below f.heap.size f wr∧Rwo f.heap.size wr o ((ZAf k C q).map (ZFr M' C c k))∧(ZAf k C q).length≤q∧∀l∈(ZAf k C q).map (ZFr M' C c k),l.length=c∧∀z∈l,z.natAbs≤1000000000000) (fun i _ _ _ _ _ _=>c-(intOf i).toNat)
 case atStart=>exact ⟨0,Za5 _,rfl,Below.refl _ _,Rwo.nil _ _,by simp [ZAf],fun l hl=>by simp [ZAf] at hl⟩
 case round=>
  obtain ⟨q,hq,rfl,d,aW,bk,aM⟩:=hrel;have F:=hid d;have U:=hid aW;have ay:=hid aM;have d0:wr.cell? ⟨R,0,none⟩=some (.slice N m.length J):=(d.cell G).trans c0;have d1:wr.cell? ⟨R,1,none⟩=some (.slice S k E):=(d.cell G).trans c1;have d2:wr.cell? ⟨R,2,none⟩=some (.int .i64 val):=(d.cell G).trans c2;have aX:R < wr.heap.size:=Nat.lt_of_lt_of_le G d.size;clear d aW aM
  by_cases hqc:q < c
  ·have bM:(q:Int) < (c:Int):=by omega
   have y:Hid (Calls Tryz.prog 84 #[.slice S k E,.int .i64 q] wr fun e w'=>e=.returned (.bool (((List.range k).map fun b=>(C b:Int)).contains (q:Int)))∧w'=wr):=
    ZC7 w.heap.size q _ _ wr (aD.out.below F.out (Za4 _))
   cases hcn:((List.range k).map fun b=>(C b:Int)).contains (q:Int) with
   | true=>
    have HF:Hid (ZAf k C (q+1)=ZAf k C q):=ZGl hcn;rw [hcn] at y;clear hcn
    go_wp2_with fail
    refine y.out.mono ?_;rintro e w4 ⟨rfl,rfl⟩;go_wp2
    go_roundw
    case rel=>exact ⟨q+1,by omega,by go_num,F.out,by rw [HF.out]; exact U.out,by rw [HF.out]; omega,by rw [HF.out]; exact ay.out⟩
    case measure=>simp [intOf]; omega
   | false=>
    have HF:Hid (ZAf k C (q+1)=ZAf k C q ++ [q]):=ZFM hcn
    have bJ:Hid (∀b,b < k→C b≠q):=fun b hb e=>by rw [ZC8.2 ⟨b,hb,e⟩] at hcn; simp at hcn
    have aG:Hid (k < c):=by
     have h1:=ZDV ar.out.done.rise
     have h2:q∈ZAf k C c:=by unfold ZAf; rw [List.mem_filter]; exact ⟨by simpa using hqc,by simp only [hcn]; rfl⟩
     have h3:=List.length_pos_of_mem h2
     show _ < _
     omega
    rw [hcn] at y;clear hcn
    have bT:(madeCells #[.int .i64 0] c)[q]?=some (.int .i64 0):=by
     rw [←Array.getElem?_toList,toList_madeCells_one]; simp [hqc]
    have bt:R≠wr.heap.size:=by omega
    have aS:wr.heap.size≠R:=by omega
    have am:Hid ((wr.alloc (.cells ((madeCells #[.int .i64 0] c).setIfInBounds q (.int .i64 val)) 3)).rowIs wr.heap.size 3 c (fun j=>.int .i64 (nv val q (fun a=>rr M' C k a q) C 0 j))∧Below wr.heap.size wr (wr.alloc (.cells ((madeCells #[.int .i64 0] c).setIfInBounds q (.int .i64 val)) 3))):=by
     have e:(wr.alloc (.cells (madeCells #[.int .i64 0] c) 3)).setCell ⟨wr.heap.size,q,none⟩ (.int .i64 val)=wr.alloc (.cells ((madeCells #[.int .i64 0] c).setIfInBounds q (.int .i64 val)) 3):=by simp [go_sem]
     refine ⟨?_,(Below.refl _ _).alloc (Za4 _) _⟩;rw [←e]
     exact ((World.rowIs_made wr (.int .i64 0) c 3).set q (.int .i64 val)).congr fun j hj=>by unfold nv; by_cases e:j=q <;> simp [e]
    obtain ⟨w4,V⟩:∃w4,w4=wr:=⟨_,rfl⟩
    rw [←V] at d0 d1 d2 aX bt aS am y ⊢
    have n:Hid (Below f.heap.size f w4):=by rw [V]; exact F.out
    have ae:Hid (Rwo f.heap.size w4 u6 ((ZAf k C q).map (ZFr M' C c k))):=by rw [V]; exact U.out
    clear F U V
    go_wp2_with fail
    refine y.out.mono ?_;rintro e w5 ⟨rfl,rfl⟩;clear y;go_wp2
    go_loopw [32,9,10] (fun i _ _ wr=>∃t:Nat,t≤k∧i=.int .i64 t∧Below w5.heap.size w5 wr∧wr.rowIs w5.heap.size 3 c (fun j=>.int .i64 (nv val q (fun a=>rr M' C k a q) C t j))) (fun i _ _ _=>k-(intOf i).toNat)
    case atStart=>exact ⟨0,Za5 _,rfl,am.out.2,am.out.1⟩
    case round=>
     obtain ⟨t,ht,rfl,d,p⟩:=hrel;have HB:=hid d;have an:=hid p;have e0:wr.cell? ⟨R,0,none⟩=some (.slice N m.length J):=(d.cell aX).trans d0
     by_cases htk:t < k
     ·obtain ⟨pb,bH,bX,hs,bQ,aV⟩:=ZAK ((aD.out.below n.out (Za4 _)).below d (Za4 _)) (k:=t) (by simpa using htk)
      simp only [Za3,Zab1,List.length_range] at hs;obtain ⟨rfl,_,rfl⟩:=hs
      have hg:((List.range k).map fun b=>(C b:Int)).getD t 0=(C t:Int):=by simp [htk]
      rw [hg] at aV;have aR:C t < c:=ar.out.done.rise.2 t htk
      obtain ⟨rb,bN,bP,u,aC,_,bL,aw⟩:=ZAP ((bv.out.below n.out (Za4 _)).below d (Za4 _)) (k:=t) (by simp [ZAl]; omega)
      simp only [Za3,ZAl,Zab1,List.length_range,true_and] at aC;obtain ⟨rfl,rfl⟩:=aC
      rw [ZPE (by omega)] at aw
      obtain ⟨xb,xo,bK,Y,bq,aU⟩:=ZAK aw (k:=q) (by simpa using hqc)
      have aY:((List.range c).map (rr M' C k t)).getD q 0=rr M' C k t q:=by simp [hqc]
      rw [aY] at aU;simp only [Zab1,List.length_range] at Y bq;subst Y;have aL:=p.cell (i:=C t) aR;have bu:=p.frozen (C t)
      have bi:=(aT.out aG.out).2 t (by omega) q hqc
      obtain ⟨ct,az⟩:∃ct,ct=C t:=⟨_,rfl⟩
      obtain ⟨x,aj⟩:∃x,x=rr M' C k t q:=⟨_,rfl⟩
      have bl:=hid az;have bA:=hid aj;rw [←az] at aV aR aL bu;rw [←aj] at aU bi
      generalize nv val q (fun a=>rr M' C k a q) C t ct=old at aL
      clear hg aY az aj p d aw;go_wp2
      go_roundw
      case rel=>
       refine ⟨t+1,by omega,by go_num,HB.out.setCell (by exact Za4 _) _,?_⟩
       refine (an.out.set ct _).congr fun j _=>?_
       show _=Value.int .i64 (if j=C t then-rr M' C k t q else nv val q (fun a=>rr M' C k a q) C t j)
       rw [←bl.out,←bA.out]
       by_cases e:j=ct <;> simp [e]
      case measure=>simp [intOf]; omega
     ·have aH:t=k:=by omega
      subst aH
      have ak:Hid (∀z∈(List.range c).map (nv val q (fun a=>rr M' C t a q) C t),z.natAbs≤1000000000000):=by
       intro z hz;rw [List.mem_map] at hz;obtain ⟨j,_,rfl⟩:=hz;have hv:=aT.out aG.out
       exact ZQe (by rw [af.out]; exact hv.1) fun a ha=>hv.2 a (by omega) q hqc
      obtain ⟨L,Q⟩:∃L,L=(List.range c).map (nv val q (fun a=>rr M' C t a q) C t):=⟨_,rfl⟩
      have A:Hid (L.length=c):=by show _=_; rw [Q]; simp
      have aK:Hid (ZFr M' C c t q=low L):=by show _=_; rw [Q,af.out]; rfl
      have bp:Hid (∀B,Sl B 3 wr (.slice (some ⟨w5.heap.size,0,none⟩) c c) (ZAB L)):=by
       intro B
       refine Sl.row an.out (by simp [A.out]) (by unfold maxLen; omega) fun i hi=>?_
       rw [ZAZ _ _ (by rw [A.out]; exact hi),Q]; simp [hi]
      rw [←Q] at ak;have ai:Hid (Below f.heap.size f wr):=n.out.trans (HB.out.mono n.out.size);have bE:Hid (Rwo f.heap.size wr u6 ((ZAf t C q).map (ZFr M' C c t))):=ae.out.below HB.out (Za4 _)
      have aF:Hid ((low L).length=c∧∀z∈low L,z.natAbs≤1000000000000):=⟨by simp [low,A.out],ZFL ak.out⟩
      clear p d Q an n ae d0 d1 d2 e0
      go_wp2_with fail
      refine (ZB4 w.heap.size L _ wr (bp.out _) (by rw [A.out]; omega) (fun z hz=>Zaa8 (ak.out z hz) (by decide))).mono ?_
      rintro e w6 ⟨u,rfl,X,aA⟩;obtain ⟨uo,uc,hu⟩:=ZAE X;rw [A.out] at hu;subst hu
      have bD:Hid (w6.ownsRow f.heap.size 3 1 (.slice uo c uc) (low L).length (ZAB (low L))):=by rw [aF.out.1]; rw [A.out] at X; exact ZEI X ai.out.size
      have aI:Hid (Below f.heap.size f w6):=ai.out.trans (aA.mono ai.out.size);obtain ⟨vs,g1,g2,g3⟩:=bE.out.below aA (Za4 _)
      have ag:((ZAf t C q).map (ZFr M' C c t)).length=(ZAf t C q).length:=by simp
      have O:=hid ag;rw [ag] at g1 g2 g3
      obtain ⟨fl,D⟩:∃fl,fl=(ZAf t C q).length:=⟨_,rfl⟩
      rw [←D] at g1 g2 g3 O bk;have G1:=hid g1;have G2:=hid g2;have G3:=hid g3;have bz:=hid D;have aO:f.heap.size≤w6.heap.size:=aI.out.size;clear X aA g1 g2 g3 ag D
      go_wp2_with (first | (at_builtin; refine wpList_append_own _ rfl _ _ 22 rfl f.heap.size 27 i3 (.slice none 0 0) 1 24 Tryz.underlying22 bB aZ aE bg rfl (by decide) _ _ _ rfl (G2.out.alloc _) ⟨w6.heap.size,0,none⟩ 1 1 [.slice uo c uc] rfl rfl (ZAS _ _ _) (ZAM _ _ _) ?d3 ?d4 ?d5 ?_))
      case d3=>unfold maxLen; omega
      case d4=>omega
      case d5=>simp; omega
      intro v' w7 ho hg _
      have R1:Hid (Rwo f.heap.size w7 v' ((ZAf t C (q+1)).map (ZFr M' C c t))):=by
       have hp:=Rwo.push (m:=(ZAf t C q).map (ZFr M' C c t)) (u:=.slice uo c uc) (zs:=low L) (by rw [O.out]; exact G1.out) (by rw [O.out]; exact G2.out.alloc _)
        (fun i hi=>(G3.out i (by rw [O.out] at hi; exact hi)).alloc _) (bD.out.alloc _) (by rw [O.out]; exact ho) hg
       show Rwo _ _ _ _
       rw [HF.out,List.map_append,List.map_cons,List.map_nil,aK.out];exact hp
      have R2:Hid (Below f.heap.size f w7):=(aI.out.alloc aO _).grown hg (by simp; omega) (fun x hx=>(G2.out.lt x hx).1)
      clear ho hg;go_wp2
      go_roundw
      case rel=>
       refine ⟨q+1,by omega,by go_num,R2.out,R1.out,by rw [HF.out]; simp; have:=bz.out; omega,?_⟩
       rw [HF.out,List.map_append,List.map_cons,List.map_nil,aK.out];intro l hl
       rcases List.mem_append.1 hl with h | h
       ·exact ay.out l h
       ·rw [List.mem_singleton] at h; subst h; exact aF.out
      case measure=>simp [intOf]; omega
  ·have aN:q=c:=by omega
   subst aN;go_wp2;go_ret;refine ⟨M',C,k,sgn,ar.out,_,rfl,?_,ay.out,ah.out.trans (F.out.mono ah.out.size)⟩;exact U.out.low ah.out.size
theorem ZCm(B c:Nat)(m:List (List Int))(v:Value)(w:World)(hx:KrG c m)(hv:Mat B 27 3 w v m)(hm:m.length≤500)(hm0:1≤m.length) :
  Calls Tryz.prog 100 #[v,.int .i64 c] w fun e w'=>∃x,e=.returned (.tuple #[x,.bool (ZAp c m)])∧w'.ownsRow w.heap.size 3 1 x (ZAO c m).length (ZAB (ZAO c m))∧Below w.heap.size w w':=by
 obtain ⟨ao,ag,V,ar,aj⟩:=ZAD hv;subst V;have an:=hx.c20;have ah:=hx.few;have aq:=hx.c1
 have HR:Hid (Calls Tryz.prog 129 #[.slice ao m.length ag,.int .i64 c] w fun e w'=>∃(n:Nat) (s:List (List Int)) (A:Option Addr) (D:Nat),e=.returned (.slice A n D)∧s.length=n∧n≤D∧n≤20∧Rwo w.heap.size w' (.slice A n D) s∧(∀l∈s,l.length=c∧∀z∈l,z.natAbs≤1000000000000)∧ZAp c m=(n == 1)∧(n=1→upr (s.getD 0 [])=ZAO c m)∧(n≠1→ZAO c m=[])∧Below w.heap.size w w'):=by
  refine (ZHq B c m _ w hx hv hm hm0).mono ?_;rintro e w' ⟨M',C,k,ak,P,u,rfl,f,h2,h3⟩;obtain ⟨G,N,o,L⟩:=f
  have R:Mat 0 27 3 w' u ((ZAf k C c).map (ZFr M' C c k)):=⟨G,N,Sl.own o,fun i hi=>Sl.own (L i hi)⟩
  obtain ⟨A,D,hu,q1,q2⟩:=ZAD R;have hl:=ZDV P.done.rise;have hk:=ZDu P
  have J:((ZAf k C c).map (ZFr M' C c k)).length=(ZAf k C c).length:=by simp
  rw [J] at hu q1;subst hu
  refine ⟨_,_,A,D,rfl,J,q1,by omega,⟨G,N,o,L⟩,h2,?_,fun h=>?_,fun h=>?_,h3⟩
  ·show decide _=_
   by_cases h:(ZAJ c m).length+1=c
   ·rw [decide_eq_true h]; symm; rw [beq_iff_eq]; omega
   ·rw [decide_eq_false h]; symm; rw [beq_eq_false_iff_ne]; omega
  ·obtain ⟨l,e1,e2⟩:=ZJc P (by omega)
   rw [e1]; exact e2
  ·exact if_neg (by omega)
 clear hv hx;go_enter Tryz.func100,Tryz.ntmps100
 go_wp2_with fail
 refine (HR.out).mono ?_;rintro e F ⟨n,s,A,D,rfl,p,ai,am,g,y,d,r,t,O⟩;have HB:=hid O;have Q:=hid d
 by_cases f:n=1
 ·subst f
  obtain ⟨G,N,o,L⟩:=g
  have a:=L 0 (by omega)
  rw [p] at o
  obtain ⟨b,aa⟩:∃b,A=some ⟨b,0,none⟩:=by
   rcases o.2 with ⟨_,h0⟩ | ⟨b,cap',cur',f,_⟩
   ·omega
   ·simp only [Za3] at f; exact ⟨b,f.1⟩
  subst aa
  have Y:F.cell? ⟨b,0,none⟩=some (G.getD 0 (.slice none 0 0)):=by
   have h0:=o.cellAt 0 (by omega)
   rw [h0,Za2,Za9 (by omega)]; rfl
  generalize G.getD 0 (.slice none 0 0)=uv at a Y
  have j:=y (s.getD 0 []) (by rw [Za2,Za9 (by omega)]; exact List.getElem_mem _)
  obtain ⟨yo,yc,hy⟩:=ZAE a;rw [j.1] at hy;subst hy
  have S:Hid (Calls Tryz.prog 130 #[.slice yo c yc] F fun e w'=>∃u,e=.returned u∧w'.ownsRow w.heap.size 3 1 u (ZAO c m).length (ZAB (ZAO c m))∧Below F.heap.size F w'):=by
   refine (ZHn w.heap.size (s.getD 0 []) _ F a O.size (by omega) (fun z hz=>Zaa8 (j.2 z hz) (by decide))).mono ?_
   rintro e w3 ⟨u,rfl,a1,a2⟩
   exact ⟨u,rfl,by rw [←r rfl,ZHp]; exact a1,a2⟩
  clear y d r t O a j p N o L
  go_wp2_with fail
  refine S.out.mono ?_;rintro e w3 ⟨u,rfl,M,E⟩;have X:=hid M;have T:Hid (Below w.heap.size w w3):=HB.out.trans (E.mono HB.out.size);clear M E;go_wp2
  go_ret2
  exact ⟨_,by rw [Q.out]; rfl,X.out,T.out⟩
 ·have af:((n:Int) != 1)=true:=by rw [bne_iff_ne]; omega
  have ae:Hid (ZAO c m=[]):=t f
  have U:Hid (ZAp c m=false):=by show _=_; rw [d,beq_eq_false_iff_ne]; exact f
  clear g y d r t O p;go_wp2
  go_ret2
  exact ⟨_,by rw [U.out]; rfl,by rw [ae.out]; exact World.ownsRow_nil _ _ _ _,HB.out⟩
theorem ZHr(B c:Nat)(m:List (List Int))(v:Value)(w:World)(hx:Mx c 60 m)(hv:Mat B 27 3 w v m)(hm:m.length≤500)(hm0:1≤m.length) :
  Calls Tryz.prog 100 #[v,.int .i64 c] w fun e w'=>∃x,e=.returned (.tuple #[x,.bool (ZAp c m)])∧w'.ownsRow w.heap.size 3 1 x (ZAO c m).length (ZAB (ZAO c m))∧Below w.heap.size w w':=
 ZCm B c m v w (KrG.of hx) hv hm hm0
end Go.Proofs.YtkjkfceblmgogaaGreat
