import Derived.Test.YtgfnmkenpgnllaaGreatRunB
import Derived.Deep.Onto
set_option maxRecDepth 100000
set_option maxHeartbeats 2000000
namespace Go.Proofs.YtgfnmkenpgnllaaGreat
open Go.RowKit
theorem ZIZ{B b n:Nat}{e:TypeId}{w:World}{f:Nat→Value}{xs:List Value}(h:w.rowIs b e n f)(hB:B≤b)(hn:xs.length=n)(hm:n≤maxLen)(hx:∀i,i < n→xs[i]?=some (f i)) :
  w.ownsRow B e 1 (.slice (some ⟨b,0,none⟩) n n) n xs:=by
 obtain ⟨c,a,g,d⟩:=h
 refine ⟨by omega,Or.inr ⟨b,n,c,rfl,hB,a,Za4 _,hm,by omega,?_⟩⟩
 apply List.ext_getElem?
 intro i
 by_cases hi:i < n
 ·rw [Zaa5 (by omega),hx i hi,Array.getElem?_toList]; exact d i hi
 ·rw [Zaa6 (by simp; omega),Zaa6 (by omega)]
theorem ZHY(B:Nat)(l:List Int)(v:Value)(w:World)(hv:Sl B 3 w v (ZAB l))(hl:l.length≤1000000)(g:Nat)(d:Int)(hg:g < w.heap.size)(hd:1≤d)(hb:∀z∈l,z.natAbs≤4611686018427387904)(hc:w.cell? ⟨g,0,none⟩=some (.int .i64 d)) :
  Calls Tryz.prog 84 #[v,.func (.func 133) #[] #[.pointer (some ⟨g,0,none⟩)]] w fun e w'=>∃u,e=.returned u∧w'.ownsRow w.heap.size 3 1 u l.length (ZAB (l.map (fun z=>z.tdiv d)))∧Below w.heap.size w w':=by
 obtain ⟨N,r,n,A,G⟩:=ZAH hv;subst n;have F:Hid (Sl B 3 w (.slice N l.length r) (ZAB l)):=hv;have p:=hid hb;have O:=hid hc;clear hb hc;clear hv
 have E:=run_make_row' (P:=Tryz.prog) 22 3 (.int .i64 0) 8 Tryz.underlying22 Tryz.info3 rfl .i64 .i64 l.length (by omega) (by omega)
 go_enter Tryz.func84,Tryz.ntmps84;go_wp2
 go_loopw [13] (fun i wr=>∃k:Nat,k≤l.length∧i=.int .i64 k∧wr.rowIs w.heap.size 3 l.length (fun j=>.int .i64 (if j < k then (l.map (fun z=>z.tdiv d)).getD j 0 else 0))∧Below w.heap.size w wr) (fun i _=>l.length-(intOf i).toNat)
 case atStart=>
  refine ⟨0,Za5 _,rfl,?_,(Below.refl _ _).alloc (Za4 _) _⟩
  exact (World.rowIs_made w (.int .i64 0) l.length 3).congr fun i hi=>by simp
 case round=>
  obtain ⟨k,S,rfl,a,c⟩:=hrel;have t:=hid a;have s:=hid c
  by_cases hlt:k < l.length
  ·obtain ⟨b,o,R,y,M,L⟩:=ZAJ (F.out.below c (Za4 _)) hlt
   simp only [Za3] at y;obtain ⟨rfl,_,rfl⟩:=y;have D:=a.frozen k;have Q:=a.cell (i:=k) hlt
   have J:Hid ((l.map (fun z=>z.tdiv d)).getD k 0=(fun z=>z.tdiv d) (l.getD k 0)):=by show _=_; simp [hlt]
   have f:l.getD k 0∈l:=by simp [hlt]
   have m:=hid f;generalize hxk:l.getD k 0=x at *;clear a c f hxk
   go_wp2_with fail
   refine (ZJ8 x d wr ⟨g,0,none⟩ hd (p.out x m.out) ((s.out.cell hg).trans O.out)).mono ?_;rintro e w' ⟨rfl,rfl⟩;go_wp2
   go_roundw
   case rel=>
    refine ⟨k+1,by omega,by go_num,?_,s.out.setCell (Za4 _) _⟩
    refine (t.out.set k _).congr fun j hj=>?_
    by_cases e1:j=k
    ·subst e1; rw [if_pos rfl,if_pos (by omega),J.out]
    ·by_cases e2:j < k
     ·rw [if_neg e1,if_pos e2,if_pos (by omega)]
     ·rw [if_neg e1,if_neg e2,if_neg (by omega)]
   case measure=>simp [intOf]; omega
  ·clear a c
   go_wp2;go_ret;refine ⟨_,rfl,?_,s.out⟩
   refine ZIZ t.out (Za4 _) (by simp) (by unfold maxLen; omega) fun i hi=>?_
   rw [ZAa _ _ (by simpa using hi),if_pos (by omega)]
theorem ZHZ(B:Nat)(l:List Int)(v:Value)(w:World)(hv:Sl B 3 w v (ZAB l))(hl:l.length≤1000000)(hb:∀z∈l,z.natAbs≤4611686018427387904) :
  Calls Tryz.prog 84 #[v,.func (.func 85) #[] #[]] w fun e w'=>∃u,e=.returned u∧w'.ownsRow w.heap.size 3 1 u l.length (ZAB (l.map (fun z=>-z)))∧Below w.heap.size w w':=by
 obtain ⟨L,n,g,t,E⟩:=ZAH hv;subst g;have D:Hid (Sl B 3 w (.slice L l.length n) (ZAB l)):=hv;have m:=hid hb;clear hb;clear hv
 have A:=run_make_row' (P:=Tryz.prog) 22 3 (.int .i64 0) 8 Tryz.underlying22 Tryz.info3 rfl .i64 .i64 l.length (by omega) (by omega)
 go_enter Tryz.func84,Tryz.ntmps84;go_wp2
 go_loopw [13] (fun i wr=>∃k:Nat,k≤l.length∧i=.int .i64 k∧wr.rowIs w.heap.size 3 l.length (fun j=>.int .i64 (if j < k then (l.map (fun z=>-z)).getD j 0 else 0))∧Below w.heap.size w wr) (fun i _=>l.length-(intOf i).toNat)
 case atStart=>
  refine ⟨0,Za5 _,rfl,?_,(Below.refl _ _).alloc (Za4 _) _⟩
  exact (World.rowIs_made w (.int .i64 0) l.length 3).congr fun i hi=>by simp
 case round=>
  obtain ⟨k,O,rfl,a,c⟩:=hrel;have p:=hid a;have r:=hid c
  by_cases hlt:k < l.length
  ·obtain ⟨b,o,N,s,J,G⟩:=ZAJ (D.out.below c (Za4 _)) hlt
   simp only [Za3] at s;obtain ⟨rfl,_,rfl⟩:=s;have y:=a.frozen k;have M:=a.cell (i:=k) hlt
   have F:Hid ((l.map (fun z=>-z)).getD k 0=(fun z=>-z) (l.getD k 0)):=by show _=_; simp [hlt]
   have d:l.getD k 0∈l:=by simp [hlt]
   have f:=hid d;generalize hxk:l.getD k 0=x at *;clear a c d hxk
   go_wp2_with fail
   refine (ZMb x wr (m.out x f.out)).mono ?_;rintro e w' ⟨rfl,rfl⟩;go_wp2
   go_roundw
   case rel=>
    refine ⟨k+1,by omega,by go_num,?_,r.out.setCell (Za4 _) _⟩
    refine (p.out.set k _).congr fun j hj=>?_
    by_cases e1:j=k
    ·subst e1; rw [if_pos rfl,if_pos (by omega),F.out]
    ·by_cases e2:j < k
     ·rw [if_neg e1,if_pos e2,if_pos (by omega)]
     ·rw [if_neg e1,if_neg e2,if_neg (by omega)]
   case measure=>simp [intOf]; omega
  ·clear a c
   go_wp2;go_ret;refine ⟨_,rfl,?_,r.out⟩
   refine ZIZ p.out (Za4 _) (by simp) (by unfold maxLen; omega) fun i hi=>?_
   rw [ZAa _ _ (by simpa using hi),if_pos (by omega)]
theorem ZB3(B:Nat)(l:List Int)(v:Value)(w:World)(hv:Sl B 3 w v (ZAB l))(hl:l.length≤1000000)(hb:∀z∈l,z.natAbs≤4611686018427387904) :
  Calls Tryz.prog 104 #[v] w fun e w'=>∃u,e=.returned u∧w'.ownsRow w.heap.size 3 1 u l.length (ZAB (Lin.low l))∧Below w.heap.size w w':=by
 obtain ⟨L,n,t,M,P⟩:=ZAH hv;subst t;have J:Hid (Sl B 3 w (.slice L l.length n) (ZAB l)):=hv;have d:=hid hb;clear hv hb;go_enter Tryz.func104,Tryz.ntmps104
 go_wp2_with fail
 refine (ZHP B l _ w J.out d.out).mono ?_;rintro e i ⟨rfl,N,c⟩
 have r:Hid (Sl B 3 i (.slice L l.length n) (ZAB l)):=by rw [c]; exact J.out.drewN N
 have y:Hid (Below w.heap.size w i):=by rw [c]; exact ⟨rfl,rfl,rfl,Za4 _,fun _ _=>rfl⟩
 have m:w.heap.size=i.heap.size:=by rw [c]; rfl
 have x:=hid m;clear c m
 obtain ⟨g,s⟩:∃g,g=Lin.gc l:=⟨_,rfl⟩
 have E:=hid s;rw [←s]
 have O:g≤4611686018427387904:=by rw [s]; exact ZMZ d.out
 clear s
 have a:Hid (Below w.heap.size w (i.alloc (.cells #[.int .i64 g] 3))):=y.out.alloc (by rw [x.out]; exact Za4 _) _
 by_cases h0:g=0
 ·have p:((g:Int) == 0)=true:=by simp [h0]
  have G:Hid (Lin.low l=l):=ZIV (by rw [←E.out]; exact h0)
  clear h0
  go_wp2_with fail
  refine (ZC3 B l _ _ (r.out.alloc _) hl).mono ?_;rintro e o ⟨u,rfl,j,b⟩
  have A:Hid (o.ownsRow w.heap.size 3 1 u l.length (ZAB (Lin.low l))):=by rw [G.out]; exact j.mono a.out.size
  have f:Hid (Below w.heap.size w o):=a.out.trans (b.mono a.out.size);clear j b;go_wp2;go_ret;exact ⟨_,rfl,A.out,f.out⟩
 ·have p:((g:Int) == 0)=false:=by rw [beq_eq_false_iff_ne]; omega
  have D:Hid ((l.map fun z=>z.tdiv (g:Int))=Lin.low l):=by show _=_; rw [E.out]; exact ZMc (by rw [←E.out]; omega)
  have F:(1:Int)≤(g:Int):=by omega
  clear h0
  go_wp2_with fail
  refine (ZHY B l _ _ (r.out.alloc _) hl i.heap.size g (by simp) F d.out (by simp)).mono ?_
  rintro e o ⟨u,rfl,j,b⟩
  have A:Hid (o.ownsRow w.heap.size 3 1 u l.length (ZAB (Lin.low l))):=by rw [←D.out]; exact j.mono a.out.size
  have f:Hid (Below w.heap.size w o):=a.out.trans (b.mono a.out.size);clear j b;go_wp2;go_ret;exact ⟨_,rfl,A.out,f.out⟩
theorem ZBb(B:Nat)(l:List Int)(v:Value)(w:World)(hv:Sl B 3 w v (ZAB l))(hl:l.length≤1000000)(hb:∀z∈l,z.natAbs≤4611686018427387904) :
  Calls Tryz.prog 54 #[v] w fun e w'=>∃u,e=.returned u∧w'.ownsRow w.heap.size 3 1 u l.length (ZAB (l.map fun z=>-z))∧Below w.heap.size w w':=by
 go_enter Tryz.func54,Tryz.ntmps54
 go_wp2_with fail
 refine (ZHZ B l v w hv hl hb).mono ?_;rintro e f ⟨u,rfl,c,a⟩;have d:=hid c;have b:=hid a;clear c a;go_wp2;go_ret;exact ⟨_,rfl,d.out,b.out⟩
theorem ZHa(B:Nat)(l:List Int)(v:Value)(w:World)(ho0:w.ownsRow B 3 1 v l.length (ZAB l))(hB0:B≤w.heap.size)(hl:l.length≤1000000)(hb:∀z∈l,z.natAbs≤4611686018427387904) :
  Calls Tryz.prog 135 #[v] w fun e w'=>∃u,e=.returned u∧w'.ownsRow B 3 1 u l.length (ZAB (Lin.upr l))∧Below w.heap.size w w':=by
 have hv:Sl B 3 w v (ZAB l):=Sl.own ho0;obtain ⟨L,p,j,A,E⟩:=ZAH hv;subst j;have c:=hid ho0;have d:Hid (Sl B 3 w (.slice L l.length p) (ZAB l)):=hv;have m:=hid hb;clear hv hb ho0
 cases han:l.any (· != 0)
 ·have i:Hid (Lin.upr l=l):=ZMe han
  have g:Hid (ZCi (· != 0) l=-1):=ZCc han;clear han;go_enter Tryz.func135,Tryz.ntmps135
  go_wp2_with fail
  refine (ZCn B l _ w d.out).mono ?_;rintro e w' ⟨rfl,rfl⟩;rw [g.out];go_wp2;go_ret
  exact ⟨_,rfl,by rw [i.out]; exact c.out,Below.refl _ _⟩
 ·obtain ⟨k,J,s,y⟩:=ZMd han
  have g:=hid s;have i:=hid y;clear han s y;obtain ⟨b,o,N,t,G,F⟩:=ZAJ d.out J;simp only [Za3] at t;obtain ⟨rfl,_,rfl⟩:=t;generalize l.getD k 0=x at *
  by_cases hneg:x < 0
  ·have a:Hid (Lin.upr l=l.map (fun v=>-v)):=by show _=_; rw [i.out,if_pos hneg]
   go_enter Tryz.func135,Tryz.ntmps135
   go_wp2_with fail
   refine (ZCn B l _ w d.out).mono ?_;rintro e w' ⟨rfl,rfl⟩;rw [g.out]
   go_wp2_with fail
   refine (ZBb B l _ w' d.out hl m.out).mono ?_;rintro e M ⟨u,rfl,r,f⟩
   have D:Hid (M.ownsRow B 3 1 u l.length (ZAB (Lin.upr l))):=by rw [a.out]; exact r.mono hB0
   have n:=hid f;clear r f;go_wp2;go_ret;exact ⟨_,rfl,D.out,n.out⟩
  ·have a:Hid (Lin.upr l=l):=by show _=_; rw [i.out,if_neg hneg]
   go_enter Tryz.func135,Tryz.ntmps135
   go_wp2_with fail
   refine (ZCn B l _ w d.out).mono ?_;rintro e w' ⟨rfl,rfl⟩;rw [g.out];go_wp2;go_ret
   exact ⟨_,rfl,by rw [a.out]; exact c.out,Below.refl _ _⟩
end Go.Proofs.YtgfnmkenpgnllaaGreat
namespace Go.Proofs.YtgfnmkenpgnllaaGreat
open Go.RowKit Lin
attribute [local go_sem ↓] Go.wp_at_zero Go.wp_at_succ
theorem ZHb(l:List Int):(low l).length=l.length:=by simp [low]
theorem ZHc(l:List Int):(upr l).length=l.length:=by unfold upr; split <;> simp
def Rwo(B:Nat)(w:World)(v:Value)(m:List (List Int)):Prop:=
 ∃vs,vs.length=m.length∧w.ownsRow B 22 1 v m.length vs∧∀i,i < m.length→w.ownsRow B 3 1 (vs.getD i (.slice none 0 0)) (m.getD i []).length (ZAB (m.getD i []))
theorem Rwo.nil(B:Nat)(w:World):Rwo B w (.slice none 0 0) []:=⟨[],rfl,World.ownsRow_nil _ _ _ _,fun i hi=>absurd hi (by simp)⟩
theorem Rwo.below{B N:Nat}{w w':World}{v:Value}{m:List (List Int)}(h:Rwo B w v m)(hb:Below N w w')(hN:w.heap.size≤N):Rwo B w' v m:=by
 obtain ⟨c,a,b,d⟩:=h
 exact ⟨c,a,ZAN b hb hN,fun i hi=>ZAN (d i hi) hb hN⟩
theorem Rwo.low{B B':Nat}{w:World}{v:Value}{m:List (List Int)}(h:Rwo B w v m)(hB:B'≤B):Rwo B' w v m:=by
 obtain ⟨c,a,b,d⟩:=h
 exact ⟨c,a,ZEL b hB,fun i hi=>ZEL (d i hi) hB⟩
theorem ZFH{B n n2:Nat}{w w':World}{v u:Value}{xs ys:List Value}(h:w.ownsRow B 22 1 v n xs)(hu:w.ownsRow B 3 1 u n2 ys)(hg:w.grownBy w' v.ownBlock):w'.ownsRow B 3 1 u n2 ys:=by
 refine ⟨hu.1,?_⟩
 rcases hu.2 with q | ⟨b,cap,cur,rfl,r1,r2,r3⟩
 ·exact Or.inl q
 ·refine Or.inr ⟨b,cap,cur,rfl,r1,?_,r3⟩
  rw [hg.block b (lt_of_block r2) (fun e=>?_)]
  ·exact r2
  ·rcases h.2 with ⟨f1,_⟩ | ⟨b',cap',cur',f1,s1,s2,_⟩
   ·rw [f1] at e; simp [Value.ownBlock] at e
   ·rw [f1] at e
    simp [Value.ownBlock] at e;subst e;rw [r2] at s2; simp at s2
theorem Rwo.push{B:Nat}{w w':World}{v v' u:Value}{m:List (List Int)}{vs:List Value}{zs:List Int}(h1:vs.length=m.length)(h2:w.ownsRow B 22 1 v m.length vs)
 (h3:∀i,i < m.length→w.ownsRow B 3 1 (vs.getD i (.slice none 0 0)) (m.getD i []).length (ZAB (m.getD i [])))(hu:w.ownsRow B 3 1 u zs.length (ZAB zs))
 (ho:w'.ownsRow B 22 1 v' (m.length+1) (vs ++ [u]))(hg:w.grownBy w' v.ownBlock):Rwo B w' v' (m ++ [zs]):=by
 refine ⟨vs ++ [u],by simp [h1],by simpa using ho,fun i hi=>?_⟩
 by_cases hlt:i < m.length
 ·have a:(vs ++ [u]).getD i (.slice none 0 0)=vs.getD i (.slice none 0 0):=by
   simp only [Za2]; rw [Za7 (by omega)]
  have b:(m ++ [zs]).getD i []=m.getD i []:=by
   simp only [Za2]; rw [Za7 (by omega)]
  rw [a,b];exact ZFH h2 (h3 i hlt) hg
 ·have c:i=m.length:=by simp at hi; omega
  subst c
  have a:(vs ++ [u]).getD m.length (.slice none 0 0)=u:=by
   rw [←h1]; simp
  have b:(m ++ [zs]).getD m.length []=zs:=by simp
  rw [a,b];exact ZFH h2 hu hg
structure KrG(c:Nat)(m:List (List Int)):Prop where
 row:∀r∈m,r.length=c
 c20:c≤20
 c1:1≤c
 few:c≤5∨m.length≤4
 bdd:Bd (mOf m) m.length c
 ent:∀{q:Nat} {M':Nat→Nat→Int} {C:Nat→Nat} {k:Nat} {sgn:Int},Red (mOf m) m.length q M' C k sgn→∀i,i < m.length→∀j,j < c→(M' i j).natAbs≤60
theorem KrG.of{c:Nat}{m:List (List Int)}(hx:Mx c 60 m):KrG c m:=⟨hx.row,Zaa8 hx.c5 (by decide),hx.c1,.inl hx.c5,ZRL hx,fun h=>ZGY hx h⟩
theorem ZHd(B c:Nat)(m:List (List Int))(v:Value)(w:World)(hx:KrG c m)(hv:Mat B 22 3 w v m)(hm:m.length≤500)(hm0:1≤m.length) :
  Calls Tryz.prog 134 #[v,.int .i64 c] w fun e w'=>∃M' C k sgn,Red (mOf m) m.length c M' C k sgn∧∃u,e=.returned u∧Rwo w.heap.size w' u ((ZAg k C c).map (ZFl M' C c k))∧(∀l∈(ZAg k C c).map (ZFl M' C c k),l.length=c∧∀z∈l,z.natAbs≤1000000000000)∧Below w.heap.size w w':=by
 obtain ⟨i3,bl,aG,aH,aE⟩:=info_parts Tryz.info22;obtain ⟨ao,bD,bH,bY,bQ⟩:=ZAE hv;subst bH;have cd:=hx.c20;have bK:=hx.few;have bA:=hx.c1
 have HR:Hid (Calls Tryz.prog 91 #[.slice ao m.length bD,.int .i64 c] w fun e w'=>∃M' C k sgn,Red (mOf m) m.length c M' C k sgn∧∃T J O N,e=.returned (.agg #[.slice T m.length J,.slice O k N,.int .i64 (dk M' C k),.int .i64 sgn])∧
   Mat w.heap.size 22 3 w' (.slice T m.length J) (ZAk m.length c (rr M' C k))∧Sl w.heap.size 3 w' (.slice O k N) (ZAB ((List.range k).map fun b=>(C b:Int)))∧Below w.heap.size w w'):=by
  refine (ZJJ B c m _ w hv hm hm0 bA (by omega) hx.row (hx.bdd)).mono ?_
  rintro e w' ⟨M',C,k,sgn,hr,rv,pv,rfl,h1,h2,h3⟩;obtain ⟨T,J,e1,_,_⟩:=ZAE h1;obtain ⟨O,N,e2,_,_⟩:=ZAH h2;simp only [Zab1,List.length_range,ZAk] at e1 e2;subst e1 e2;exact ⟨M',C,k,sgn,hr,T,J,O,N,rfl,h1,h2,h3⟩
 have HX:=hid hx;clear hv hx;go_enter Tryz.func134,Tryz.ntmps134
 go_wp2_with fail
 refine (HR.out).mono ?_;rintro e w2 ⟨M',C,k,sgn,g,T,J,O,N,rfl,Q,ag,hb⟩;obtain ⟨_,_,aO,bJ,bR⟩:=ZAE Q;simp only [Za3,ZAk,Zab1,List.length_range] at aO bJ;obtain ⟨rfl,_,rfl⟩:=aO;have aw:=hid g;have bz:=g.done.kn;have bG:=ZGZ g.done.rise;have aP:=ZDw g;have bT:=hid aP
 have aZ:Hid (k≤4→(dk M' C k).natAbs≤1000000000000∧∀i,i < m.length→∀j,j < c→(rr M' C k i j).natAbs≤1000000000000):=by
  intro bI
  have h5:fb 60 5=93312000000:=by decide
  have h4:fb 60 4=311040000:=by decide
  have m1:fb 60 k≤fb 60 4:=ZBG (by decide) bI
  have m2:fb 60 (k+1)≤fb 60 5:=ZBG (by decide) (by omega)
  have hb:=ZJ0 (B:=60) (k:=k) (M:=M') (C:=C) (fun i hi b hb=>HX.out.ent g i (by omega) _ (g.done.rise.2 b hb))
  refine ⟨by omega,fun i hi j hj=>?_⟩
  have:=ZOc (B:=60) (n:=m.length) (c:=c) (k:=k) (i:=i) (j:=j) (M:=M') (C:=C) (by decide) (HX.out.ent g) bz g.done.rise.2 hi hj
  omega
 obtain ⟨p,y⟩:∃p,p=w2.alloc (.cells #[.slice T m.length J,.slice O k N,.int .i64 (dk M' C k),.int .i64 sgn] 113):=⟨_,rfl⟩
 have aA:Hid (Below w.heap.size w p):=by rw [y]; exact hb.alloc hb.size _
 have bE:Hid (Mat w.heap.size 22 3 p (.slice T m.length J) (ZAk m.length c (rr M' C k))):=by rw [y]; exact Q.below ((Below.refl _ _).alloc (Za4 _) _) (Za4 _)
 have aQ:Hid (Sl w.heap.size 3 p (.slice O k N) (ZAB ((List.range k).map fun b=>(C b:Int)))):=by rw [y]; exact ag.alloc _
 have aa:Hid (p.heap[w2.heap.size]?=some (.cells #[.slice T m.length J,.slice O k N,.int .i64 (dk M' C k),.int .i64 sgn] 113 (0,0))):=by rw [y]; exact ZMk _ _
 have bi:=hid y
 have aS:Hid (w2.heap.size < p.heap.size):=by rw [y]; show _ < _; simp
 clear g Q ag hb aP y;have bL:k≤c:=bG
 have c0:p.cell? ⟨w2.heap.size,0,none⟩=some (.slice T m.length J):=by simp [World.cell?,aa.out]
 have c1:p.cell? ⟨w2.heap.size,1,none⟩=some (.slice O k N):=by simp [World.cell?,aa.out]
 have c2:p.cell? ⟨w2.heap.size,2,none⟩=some (.int .i64 (dk M' C k)):=by simp [World.cell?,aa.out]
 have S:=aS.out
 obtain ⟨R,hR⟩:∃R,R=w2.heap.size:=⟨_,rfl⟩
 obtain ⟨f,A⟩:∃f,f=dk M' C k:=⟨_,rfl⟩
 have af:=hid A;have an:=bi.out;rw [←A] at c2 an;rw [←hR] at c0 c1 c2 S;clear aa aS bi
 have bP:=run_make_row' (P:=Tryz.prog) 22 3 (.int .i64 0) 8 Tryz.underlying22 Tryz.info3 rfl .i64 .i64 c (by omega) (by omega)
 rw [←A];clear A;go_wp2;rw [←an,←hR];clear an hR
 go_loopw [15,6,7,8,9,10] (fun i o _ _ _ _ wr=>∃q:Nat,q≤c∧i=.int .i64 q∧Below p.heap.size p wr∧Rwo p.heap.size wr o ((ZAg k C q).map (ZFl M' C c k))∧(ZAg k C q).length≤q∧∀l∈(ZAg k C q).map (ZFl M' C c k),l.length=c∧∀z∈l,z.natAbs≤1000000000000) (fun i _ _ _ _ _ _=>c-(intOf i).toNat)
 case atStart=>exact ⟨0,Za5 _,rfl,Below.refl _ _,Rwo.nil _ _,by simp [ZAg],fun l hl=>by simp [ZAg] at hl⟩
 case round=>
  obtain ⟨q,hq,rfl,d,bg,bv,bh⟩:=hrel;have G:=hid d;have Y:=hid bg;have ar:=hid bh;have d0:wr.cell? ⟨R,0,none⟩=some (.slice T m.length J):=(d.cell S).trans c0;have d1:wr.cell? ⟨R,1,none⟩=some (.slice O k N):=(d.cell S).trans c1;have d2:wr.cell? ⟨R,2,none⟩=some (.int .i64 f):=(d.cell S).trans c2;have aF:R < wr.heap.size:=Nat.lt_of_lt_of_le S d.size;clear d bg bh
  by_cases hqc:q < c
  ·have bU:(q:Int) < (c:Int):=by omega
   have D:Hid (Calls Tryz.prog 89 #[.slice O k N,.int .i64 q] wr fun e w'=>e=.returned (.bool (((List.range k).map fun b=>(C b:Int)).contains (q:Int)))∧w'=wr):=
    ZC6 w.heap.size q _ _ wr (aQ.out.below G.out (Za4 _))
   cases hcn:((List.range k).map fun b=>(C b:Int)).contains (q:Int) with
   | true=>
    have HF:Hid (ZAg k C (q+1)=ZAg k C q):=ZGb hcn;rw [hcn] at D;clear hcn
    go_wp2_with fail
    refine D.out.mono ?_;rintro e w4 ⟨rfl,rfl⟩;go_wp2
    go_roundw
    case rel=>exact ⟨q+1,by omega,by go_num,G.out,by rw [HF.out]; exact Y.out,by rw [HF.out]; omega,by rw [HF.out]; exact ar.out⟩
    case measure=>simp [intOf]; omega
   | false=>
    have HF:Hid (ZAg k C (q+1)=ZAg k C q ++ [q]):=ZFG hcn
    have bW:Hid (∀b,b < k→C b≠q):=fun b hb e=>by rw [ZC7.2 ⟨b,hb,e⟩] at hcn; simp at hcn
    have aY:Hid (k≤4):=by
     have h1:=ZDW aw.out.done.rise
     have h2:q∈ZAg k C c:=by unfold ZAg; rw [List.mem_filter]; exact ⟨by simpa using hqc,by simp only [hcn]; rfl⟩
     have h3:=List.length_pos_of_mem h2
     show _≤_
     omega
    rw [hcn] at D;clear hcn
    have cg:(madeCells #[.int .i64 0] c)[q]?=some (.int .i64 0):=by
     rw [←Array.getElem?_toList,toList_madeCells_one]; simp [hqc]
    have bj:R≠wr.heap.size:=by omega
    have aM:wr.heap.size≠R:=by omega
    have aq:Hid ((wr.alloc (.cells ((madeCells #[.int .i64 0] c).setIfInBounds q (.int .i64 f)) 3)).rowIs wr.heap.size 3 c (fun j=>.int .i64 (nv f q (fun a=>rr M' C k a q) C 0 j))∧Below wr.heap.size wr (wr.alloc (.cells ((madeCells #[.int .i64 0] c).setIfInBounds q (.int .i64 f)) 3))):=by
     have e:(wr.alloc (.cells (madeCells #[.int .i64 0] c) 3)).setCell ⟨wr.heap.size,q,none⟩ (.int .i64 f)=wr.alloc (.cells ((madeCells #[.int .i64 0] c).setIfInBounds q (.int .i64 f)) 3):=by simp [go_sem]
     refine ⟨?_,(Below.refl _ _).alloc (Za4 _) _⟩;rw [←e]
     exact ((World.rowIs_made wr (.int .i64 0) c 3).set q (.int .i64 f)).congr fun j hj=>by unfold nv; by_cases e:j=q <;> simp [e]
    obtain ⟨w4,ae⟩:∃w4,w4=wr:=⟨_,rfl⟩
    rw [←ae] at d0 d1 d2 aF bj aM aq D ⊢
    have r:Hid (Below p.heap.size p w4):=by rw [ae]; exact G.out
    have ah:Hid (Rwo p.heap.size w4 u6 ((ZAg k C q).map (ZFl M' C c k))):=by rw [ae]; exact Y.out
    clear G Y ae
    go_wp2_with fail
    refine D.out.mono ?_;rintro e w5 ⟨rfl,rfl⟩;clear D;go_wp2
    go_loopw [32,9,10] (fun i _ _ wr=>∃t:Nat,t≤k∧i=.int .i64 t∧Below w5.heap.size w5 wr∧wr.rowIs w5.heap.size 3 c (fun j=>.int .i64 (nv f q (fun a=>rr M' C k a q) C t j))) (fun i _ _ _=>k-(intOf i).toNat)
    case atStart=>exact ⟨0,Za5 _,rfl,aq.out.2,aq.out.1⟩
    case round=>
     obtain ⟨t,ht,rfl,d,s⟩:=hrel;have HB:=hid d;have aB:=hid s;have e0:wr.cell? ⟨R,0,none⟩=some (.slice T m.length J):=(d.cell aF).trans d0
     by_cases htk:t < k
     ·obtain ⟨pb,bM,bS,hs,bO,aD⟩:=ZAJ ((aQ.out.below r.out (Za4 _)).below d (Za4 _)) (k:=t) (by simpa using htk)
      simp only [Za3,Zab1,List.length_range] at hs;obtain ⟨rfl,_,rfl⟩:=hs
      have hg:((List.range k).map fun b=>(C b:Int)).getD t 0=(C t:Int):=by simp [htk]
      rw [hg] at aD;have aL:C t < c:=aw.out.done.rise.2 t htk
      obtain ⟨rb,bX,bN,u,aK,_,bZ,az⟩:=ZAP ((bE.out.below r.out (Za4 _)).below d (Za4 _)) (k:=t) (by simp [ZAk]; omega)
      simp only [Za3,ZAk,Zab1,List.length_range,true_and] at aK;obtain ⟨rfl,rfl⟩:=aK
      rw [ZOq (by omega)] at az
      obtain ⟨xb,xo,bV,ai,bu,aR⟩:=ZAJ az (k:=q) (by simpa using hqc)
      have aT:((List.range c).map (rr M' C k t)).getD q 0=rr M' C k t q:=by simp [hqc]
      rw [aT] at aR;simp only [Zab1,List.length_range] at ai bu;subst ai;have aN:=s.cell (i:=C t) aL;have bk:=s.frozen (C t)
      have bF:=(aZ.out aY.out).2 t (by omega) q hqc
      obtain ⟨ct,ak⟩:∃ct,ct=C t:=⟨_,rfl⟩
      obtain ⟨x,aC⟩:∃x,x=rr M' C k t q:=⟨_,rfl⟩
      have bp:=hid ak;have bq:=hid aC;rw [←ak] at aD aL aN bk;rw [←aC] at aR bF
      generalize nv f q (fun a=>rr M' C k a q) C t ct=old at aN
      clear hg aT ak aC s d az;go_wp2
      go_roundw
      case rel=>
       refine ⟨t+1,by omega,by go_num,HB.out.setCell (by exact Za4 _) _,?_⟩
       refine (aB.out.set ct _).congr fun j _=>?_
       show _=Value.int .i64 (if j=C t then-rr M' C k t q else nv f q (fun a=>rr M' C k a q) C t j)
       rw [←bp.out,←bq.out]
       by_cases e:j=ct <;> simp [e]
      case measure=>simp [intOf]; omega
     ·have aW:t=k:=by omega
      subst aW
      have au:Hid (∀z∈(List.range c).map (nv f q (fun a=>rr M' C t a q) C t),z.natAbs≤1000000000000):=by
       intro z hz;rw [List.mem_map] at hz;obtain ⟨j,_,rfl⟩:=hz;have hv:=aZ.out aY.out
       exact ZQC (by rw [af.out]; exact hv.1) fun a ha=>hv.2 a (by omega) q hqc
      obtain ⟨L,F⟩:∃L,L=(List.range c).map (nv f q (fun a=>rr M' C t a q) C t):=⟨_,rfl⟩
      have E:Hid (L.length=c):=by show _=_; rw [F]; simp
      have aX:Hid (ZFl M' C c t q=low L):=by show _=_; rw [F,af.out]; rfl
      have bt:Hid (∀B,Sl B 3 wr (.slice (some ⟨w5.heap.size,0,none⟩) c c) (ZAB L)):=by
       intro B
       refine Sl.row aB.out (by simp [E.out]) (by unfold maxLen; omega) fun i hi=>?_
       rw [ZAa _ _ (by rw [E.out]; exact hi),F]; simp [hi]
      rw [←F] at au;have aj:Hid (Below p.heap.size p wr):=r.out.trans (HB.out.mono r.out.size);have bC:Hid (Rwo p.heap.size wr u6 ((ZAg t C q).map (ZFl M' C c t))):=ah.out.below HB.out (Za4 _)
      have aU:Hid ((low L).length=c∧∀z∈low L,z.natAbs≤1000000000000):=⟨by simp [low,E.out],ZFF au.out⟩
      clear s d F aB r ah d0 d1 d2 e0
      go_wp2_with fail
      refine (ZB3 w.heap.size L _ wr (bt.out _) (by rw [E.out]; omega) (fun z hz=>Zaa8 (au.out z hz) (by decide))).mono ?_
      rintro e w6 ⟨u,rfl,X,ay⟩;obtain ⟨uo,uc,hu⟩:=ZAD X;rw [E.out] at hu;subst hu
      have bw:Hid (w6.ownsRow p.heap.size 3 1 (.slice uo c uc) (low L).length (ZAB (low L))):=by rw [aU.out.1]; rw [E.out] at X; exact ZEL X aj.out.size
      have aJ:Hid (Below p.heap.size p w6):=aj.out.trans (ay.mono aj.out.size);obtain ⟨vs,g1,g2,g3⟩:=bC.out.below ay (Za4 _)
      have am:((ZAg t C q).map (ZFl M' C c t)).length=(ZAg t C q).length:=by simp
      have V:=hid am;rw [am] at g1 g2 g3
      obtain ⟨fl,U⟩:∃fl,fl=(ZAg t C q).length:=⟨_,rfl⟩
      rw [←U] at g1 g2 g3 V bv;have G1:=hid g1;have G2:=hid g2;have G3:=hid g3;have bB:=hid U;have aI:p.heap.size≤w6.heap.size:=aJ.out.size;clear X ay g1 g2 g3 am U
      go_wp2_with (first | (at_builtin; refine wpList_append_own _ rfl _ _ 25 rfl p.heap.size 22 i3 (.slice none 0 0) 1 24 Tryz.underlying25 bl aG aH aE rfl (by decide) _ _ _ rfl (G2.out.alloc _) ⟨w6.heap.size,0,none⟩ 1 1 [.slice uo c uc] rfl rfl (ZAQ _ _ _) (ZAL _ _ _) ?d3 ?d4 ?d5 ?_))
      case d3=>unfold maxLen; omega
      case d4=>omega
      case d5=>simp; omega
      intro v' w7 ho hg _
      have R1:Hid (Rwo p.heap.size w7 v' ((ZAg t C (q+1)).map (ZFl M' C c t))):=by
       have hp:=Rwo.push (m:=(ZAg t C q).map (ZFl M' C c t)) (u:=.slice uo c uc) (zs:=low L) (by rw [V.out]; exact G1.out) (by rw [V.out]; exact G2.out.alloc _)
        (fun i hi=>(G3.out i (by rw [V.out] at hi; exact hi)).alloc _) (bw.out.alloc _) (by rw [V.out]; exact ho) hg
       show Rwo _ _ _ _
       rw [HF.out,List.map_append,List.map_cons,List.map_nil,aX.out];exact hp
      have R2:Hid (Below p.heap.size p w7):=(aJ.out.alloc aI _).grown hg (by simp; omega) (fun x hx=>(G2.out.lt x hx).1)
      clear ho hg;go_wp2
      go_roundw
      case rel=>
       refine ⟨q+1,by omega,by go_num,R2.out,R1.out,by rw [HF.out]; simp; have:=bB.out; omega,?_⟩
       rw [HF.out,List.map_append,List.map_cons,List.map_nil,aX.out];intro l hl
       rcases List.mem_append.1 hl with h | h
       ·exact ar.out l h
       ·rw [List.mem_singleton] at h; subst h; exact aU.out
      case measure=>simp [intOf]; omega
  ·have aV:q=c:=by omega
   subst aV;go_wp2;go_ret;refine ⟨M',C,k,sgn,aw.out,_,rfl,?_,ar.out,aA.out.trans (G.out.mono aA.out.size)⟩;exact Y.out.low aA.out.size
theorem ZEM(B c:Nat)(m:List (List Int))(v:Value)(w:World)(hx:KrG c m)(hv:Mat B 22 3 w v m)(hm:m.length≤500)(hm0:1≤m.length) :
  Calls Tryz.prog 105 #[v,.int .i64 c] w fun e w'=>∃x,e=.returned (.tuple #[x,.bool (ZAp c m)])∧w'.ownsRow w.heap.size 3 1 x (ZAR c m).length (ZAB (ZAR c m))∧Below w.heap.size w w':=by
 obtain ⟨ao,af,P,ak,an⟩:=ZAE hv;subst P;have aj:=hx.c20;have ah:=hx.few;have aq:=hx.c1
 have HR:Hid (Calls Tryz.prog 134 #[.slice ao m.length af,.int .i64 c] w fun e w'=>∃(n:Nat) (t:List (List Int)) (A:Option Addr) (D:Nat),e=.returned (.slice A n D)∧t.length=n∧n≤D∧n≤20∧Rwo w.heap.size w' (.slice A n D) t∧(∀l∈t,l.length=c∧∀z∈l,z.natAbs≤1000000000000)∧ZAp c m=(n == 1)∧(n=1→upr (t.getD 0 [])=ZAR c m)∧(n≠1→ZAR c m=[])∧Below w.heap.size w w'):=by
  refine (ZHd B c m _ w hx hv hm hm0).mono ?_;rintro e w' ⟨M',C,k,ar,V,u,rfl,f,h2,h3⟩;obtain ⟨L,O,r,F⟩:=f
  have X:Mat 0 22 3 w' u ((ZAg k C c).map (ZFl M' C c k)):=⟨L,O,Sl.own r,fun i hi=>Sl.own (F i hi)⟩
  obtain ⟨A,D,hu,q1,q2⟩:=ZAE X;have hl:=ZDW V.done.rise;have hk:=ZDw V
  have J:((ZAg k C c).map (ZFl M' C c k)).length=(ZAg k C c).length:=by simp
  rw [J] at hu q1;subst hu
  refine ⟨_,_,A,D,rfl,J,q1,by omega,⟨L,O,r,F⟩,h2,?_,fun h=>?_,fun h=>?_,h3⟩
  ·show decide _=_
   by_cases h:(ZAK c m).length+1=c
   ·rw [decide_eq_true h]; symm; rw [beq_iff_eq]; omega
   ·rw [decide_eq_false h]; symm; rw [beq_eq_false_iff_ne]; omega
  ·obtain ⟨l,e1,e2⟩:=ZJO V (by omega)
   rw [e1]; exact e2
  ·exact if_neg (by omega)
 clear hv hx;go_enter Tryz.func105,Tryz.ntmps105
 go_wp2_with fail
 refine (HR.out).mono ?_;rintro e M ⟨n,t,A,D,rfl,s,am,ai,g,y,d,p,j,N⟩;have HB:=hid N;have ag:=hid d
 by_cases f:n=1
 ·subst f
  obtain ⟨L,O,r,F⟩:=g
  have a:=F 0 (by omega)
  rw [s] at r
  obtain ⟨b,U⟩:∃b,A=some ⟨b,0,none⟩:=by
   rcases r.2 with ⟨_,h0⟩ | ⟨b,cap',cur',f,_⟩
   ·omega
   ·simp only [Za3] at f; exact ⟨b,f.1⟩
  subst U
  have aa:M.cell? ⟨b,0,none⟩=some (L.getD 0 (.slice none 0 0)):=by
   have h0:=r.cellAt 0 (by omega)
   rw [h0,Za2,Za9 (by omega)]; rfl
  generalize L.getD 0 (.slice none 0 0)=uv at a aa
  have o:=y (t.getD 0 []) (by rw [Za2,Za9 (by omega)]; exact List.getElem_mem _)
  obtain ⟨yo,yc,hy⟩:=ZAD a;rw [o.1] at hy;subst hy
  have R:Hid (Calls Tryz.prog 135 #[.slice yo c yc] M fun e w'=>∃u,e=.returned u∧w'.ownsRow w.heap.size 3 1 u (ZAR c m).length (ZAB (ZAR c m))∧Below M.heap.size M w'):=by
   refine (ZHa w.heap.size (t.getD 0 []) _ M a N.size (by omega) (fun z hz=>Zaa8 (o.2 z hz) (by decide))).mono ?_
   rintro e w3 ⟨u,rfl,a1,a2⟩
   exact ⟨u,rfl,by rw [←p rfl,ZHc]; exact a1,a2⟩
  clear y d p j N a o s O r F
  go_wp2_with fail
  refine R.out.mono ?_;rintro e w3 ⟨u,rfl,E,G⟩;have ae:=hid E;have S:Hid (Below w.heap.size w w3):=HB.out.trans (G.mono HB.out.size);clear E G;go_wp2
  go_ret2
  exact ⟨_,by rw [ag.out]; rfl,ae.out,S.out⟩
 ·have Y:((n:Int) != 1)=true:=by rw [bne_iff_ne]; omega
  have T:Hid (ZAR c m=[]):=j f
  have Q:Hid (ZAp c m=false):=by show _=_; rw [d,beq_eq_false_iff_ne]; exact f
  clear g y d p j N s;go_wp2
  go_ret2
  exact ⟨_,by rw [Q.out]; rfl,by rw [T.out]; exact World.ownsRow_nil _ _ _ _,HB.out⟩
theorem ZEN(B c:Nat)(m:List (List Int))(v:Value)(w:World)(hx:Mx c 60 m)(hv:Mat B 22 3 w v m)(hm:m.length≤500)(hm0:1≤m.length) :
  Calls Tryz.prog 105 #[v,.int .i64 c] w fun e w'=>∃x,e=.returned (.tuple #[x,.bool (ZAp c m)])∧w'.ownsRow w.heap.size 3 1 x (ZAR c m).length (ZAB (ZAR c m))∧Below w.heap.size w w':=
 ZEM B c m v w (KrG.of hx) hv hm hm0
end Go.Proofs.YtgfnmkenpgnllaaGreat
