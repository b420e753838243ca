import Derived.Test.YtgfnmkenpgnllaaGreatOrdB
import Derived.Shelf.Spec.SlicesGrow
import Derived.Test.YtgfnmkenpgnllaaGreatSgE
set_option maxRecDepth 100000
set_option maxHeartbeats 1600000
namespace Go.Proofs
open Go.Shelf Go.RowKit Go.Lib Go.Sort
shelf_lay_g SlLaysF0.n6 Slsf 6 at Tryz 60 as Tryz.sortF
end Go.Proofs
namespace Go.Proofs.YtgfnmkenpgnllaaGreat
open Go.RowKit
def orL:List Int→Int
 | []=>0
 | z :: l=>if z=0 then orL l else z
theorem ZI7:∀{l:List Int},(∀z∈l,z=0)→orL l=0
 | [],_=>rfl
 | z :: l,h=>by
  unfold orL
  rw [if_pos (h z (by simp))]
  exact ZI7 fun x hx=>h x (by simp [hx])
theorem ZMD:∀{l:List Int} {k:Nat},k < l.length→(∀z∈l.take k,z=0)→l.getD k 0≠0→orL l=l.getD k 0
 | z :: l,0,_,_,h=>by
  unfold orL
  rw [if_neg (by simpa using h)]
  rfl
 | z :: l,k+1,hk,h0,h=>by
  unfold orL
  rw [if_pos (h0 z (by simp))]
  exact ZMD (k:=k) (by simpa using hk) (fun x hx=>h0 x (by simp [hx])) (by simpa using h)
theorem ZPg(B:Nat)(zs:List Int)(v:Value)(w:World)(hv:Sl B 3 w v (ZAB zs)) :
  Calls Tryz.prog 62 #[v] w fun e w'=>e=.returned (.int .i64 (orL zs))∧w'=w:=by
 obtain ⟨E,l,d,r,t⟩:=ZAH hv;subst d;have s:Hid (Sl B 3 w (.slice E zs.length l) (ZAB zs)):=hv;clear hv;go_enter Tryz.func62,Tryz.ntmps62;go_wp2
 go_loopw [5,8] (fun _ i wr=>∃k:Nat,k≤zs.length∧i=.int .i64 k∧(∀z∈zs.take k,z=0)∧wr=w) (fun _ i _=>zs.length-(intOf i).toNat)
 case atStart=>exact ⟨0,Za5 _,rfl,by simp,rfl⟩
 case round=>
  obtain ⟨k,G,rfl,c,rfl⟩:=hrel;have j:=hid c;clear c
  by_cases hlt:k < zs.length
  ·obtain ⟨b,o,F,n,A,y⟩:=ZAJ s.out hlt
   simp only [Za3] at n;obtain ⟨rfl,_,rfl⟩:=n
   have f:Hid (zs.getD k 0=0→∀z∈zs.take (k+1),z=0):=fun h z hz=>by
    have e:zs.getD k 0=zs[k]:=by simp [hlt]
    rw [Zaa1 hlt,List.mem_append,List.mem_singleton] at hz
    rcases hz with hz | hz
    ·exact j.out z hz
    ·rw [hz,←e,h]
   have D:Hid (zs.getD k 0≠0→orL zs=zs.getD k 0):=fun h=>ZMD hlt j.out h
   generalize zs.getD k 0=z at *
   cases hf:(z == 0)
   ·have a:z≠0:=by simpa using hf
    have x:=hid a;clear a;go_wp2;go_ret
    exact ⟨by rw [D.out x.out]; rfl,rfl⟩
   ·have g:z=0:=by simpa using hf
    clear hf;subst g;go_wp2
    go_roundw
    case rel=>exact ⟨k+1,by omega,by go_num,f.out rfl,trivial⟩
    case measure=>simp [intOf]; omega
  ·have m:zs.take k=zs:=Zaa2 (by omega)
   have p:Hid (orL zs=0):=ZI7 (by rw [←m]; exact j.out)
   go_wp2;go_ret
   exact ⟨by rw [p.out]; rfl,rfl⟩
theorem ZQn{B:Nat}{w:World}{a b:Int} : Sl B 3 (w.alloc (.cells #[.int .i64 a,.int .i64 b] 3)) (.slice (some ⟨w.heap.size,0,none⟩) 2 2) (ZAB [a,b]):=by
 have c:(w.alloc (.cells #[.int .i64 a,.int .i64 b] 3)).rowIs w.heap.size 3 2 (fun i=>.int .i64 ([a,b].getD i 0)):=by
  refine ⟨#[.int .i64 a,.int .i64 b],heap_alloc_new w _,rfl,fun i hi=>?_⟩
  match i,hi with
  | 0,_=>rfl
  | 1,_=>rfl
 exact ZCw (n:=2) c (fun i _=>rfl) rfl (Za4 _) (by decide)
theorem ZPh{a b:Int} : ZCk a b < 0↔a < b:=by
 unfold ZCk
 by_cases h1:a < b
 ·rw [if_pos h1]; exact ⟨fun _=>h1,fun _=>by decide⟩
 ·rw [if_neg h1]
  by_cases h2:b < a
  ·rw [if_pos h2]; exact ⟨fun h=>absurd h (by decide),fun h=>absurd h h1⟩
  ·rw [if_neg h2]; exact ⟨fun h=>absurd h (by decide),fun h=>absurd h h1⟩
theorem ZHA{a b:Int} : ZCk a b=0↔a=b:=by
 unfold ZCk
 by_cases h1:a < b
 ·rw [if_pos h1]; exact ⟨fun h=>absurd h (by decide),fun h=>by omega⟩
 ·rw [if_neg h1]
  by_cases h2:b < a
  ·rw [if_pos h2]; exact ⟨fun h=>absurd h (by decide),fun h=>by omega⟩
  ·rw [if_neg h2]; exact ⟨fun _=>by omega,fun _=>rfl⟩
end Go.Proofs.YtgfnmkenpgnllaaGreat
namespace Go.Proofs
open Go.Shelf Go.RowKit Go.Lib
shelf_lay_g Lays8.n4 Nm8 4 at Tryz 114 as Tryz.growM
end Go.Proofs
namespace Go.Proofs.YtgfnmkenpgnllaaGreat
open Go.RowKit
attribute [local go_sem ↓] Go.wp_at_zero Go.wp_at_succ
theorem ZME(n:Nat)(w:World)(h1:1≤n)(h2:n≤1000000) :
  Calls Tryz.prog 114 #[.slice none 0 0,.int .i64 n] w fun e w'=>∃cap,e=.returned (.slice (some ⟨w.heap.size,0,none⟩) 0 cap)∧w'.ownsRow w.heap.size 22 1 (.slice (some ⟨w.heap.size,0,none⟩) 0 cap) 0 []∧Below w.heap.size w w':=by
 obtain ⟨j,f,c,d,b⟩:=info_parts Tryz.info22
 have h:=Any8.slices_Grow_grow Tryz.growM j (.slice none 0 0) f c (by rw [d]; decide) none 0 0 n [] w (Za4 _) (by omega) (by rw [b]; omega) (by omega) (by simp) (fun _=>rfl) (fun a h=>by cases h)
 refine Calls.mono h ?_;rintro e w' ⟨rfl,rfl⟩;refine ⟨_,rfl,?_,((Below.refl _ _).drew).alloc (Za4 _) _⟩
 refine World.ownsRow_made w.drew _ _ (Za4 _) (grownCap_le_maxLen _ _ _ _ (by unfold maxLen; omega)) ?_
 have i:∀t,0+n≤grownCap w (0+n) 0 t:=fun t=>grownCap_ge w (0+n) 0 t
 have g:∀G,0+n≤G→(([]:List Value).toArray ++ Builtin.zeroCells (Value.slice none 0 0).cells (0+n-0) ++ Builtin.zeroCells (Value.slice none 0 0).cells (G-(0+n))).size=G*1:=fun G hG=>by
  simp only [Array.size_append,List.size_toArray,size_zeroCells,List.length_nil,show (Value.slice none 0 0).cells.size=1 from rfl]
  omega
 exact g _ (i _)
theorem ZMF{B:Nat}{e:TypeId}{w:World}{a:Addr}{n cap:Nat}{xs:List Value}(h:Sl B e w (.slice (some a) n cap) xs):∀j u,xs[j]?=some u→w.cell? (a.add j)=some u:=by
 intro j u g;have f:=(List.getElem?_eq_some_iff.1 g).1;obtain ⟨s,c,hv,m,r,i,p⟩:=h;simp only [Za3] at hv;obtain ⟨rfl,_,rfl⟩:=hv;obtain ⟨b,o,l,d,_⟩:=i j f
 cases l
 rw [g] at d
 by_cases ej:j=0
 ·subst ej; simpa [Addr.add] using d
 ·simpa [Addr.add,ej] using d
def ZDQ(m:List (List Value)):Nat:=m.flatten.length
theorem ZHB{m:List (List Value)}{k:Nat}(h:k < m.length):ZDQ (m.take (k+1))=ZDQ (m.take k)+(m.getD k []).length:=by
 unfold ZDQ;rw [Zaa1 h,List.flatten_append,Zaa4];simp [h]
theorem ZMG{m:List (List Value)}(k:Nat):ZDQ (m.take k)≤ZDQ m:=by
 unfold ZDQ
 have:m.flatten=(m.take k).flatten ++ (m.drop k).flatten:=by rw [←List.flatten_append,List.take_append_drop]
 rw [this,Zaa4];omega
theorem ZJi{m:List (List Value)}{k:Nat}(h:k < m.length):(m.take (k+1)).flatten=(m.take k).flatten ++ m.getD k []:=by
 rw [Zaa1 h,List.flatten_append];simp only [List.flatten_cons,List.flatten_nil,List.append_nil]
 rw [show m.getD k []=m[k] by simp [h]]
theorem ZIF(B:Nat)(m:List (List Value))(vs:List Value)(v:Value)(w:World)(hvl:vs.length=m.length)(hv2:Sl B 25 w v vs)(hv3:∀i,i < m.length→Sl B 22 w (vs.getD i (.slice none 0 0)) (m.getD i []))(hone:∀i,i < m.length→∀u∈m.getD i [],u.oneCell'=true)(hm:m.length≤1000)(h1:1≤ZDQ m)(h2:ZDQ m≤1000) :
  Calls Tryz.prog 90 #[v] w fun e w'=>∃u,e=.returned u∧w'.ownsRow w.heap.size 22 1 u (ZDQ m) m.flatten∧Below w.heap.size w w':=by
 obtain ⟨i3,V,ae,ag,U⟩:=info_parts Tryz.info22
 obtain ⟨ao,r,ai,aA,aB⟩:∃ao r,v=.slice ao m.length r∧m.length≤r∧r≤9223372036854775807:=by
  obtain ⟨ao,r,h1,h2,h3,_⟩:=hv2
  exact ⟨ao,r,by rw [h1,hvl],by omega,by unfold maxLen at h3; omega⟩
 subst ai;have aa:=hid hone
 have T:Hid (∀k,k < m.length→∃b o a n c,ao=some ⟨b,o,none⟩∧w.cell? ⟨b,o+k,none⟩=some (.slice a n c)∧Sl B 22 w (.slice a n c) (m.getD k [])):=fun k hk=>by
  obtain ⟨b,o,cp,S,_,_,h4⟩:=hv2.at (by omega)
  obtain ⟨a,c,h5,_,_⟩:=hv3 k hk;simp only [Za3] at S;have h6:=hv3 k hk;rw [h5] at h6;refine ⟨b,o,a,_,c,S.1,?_,h6⟩
  rw [h4 k (by omega),←h5]
  simp [show k < vs.length by omega]
 clear hv2 hv3 hvl hone;go_enter Tryz.func90,Tryz.ntmps90;go_wp2
 go_loop [3,11] (fun s i=>∃k:Nat,k≤m.length∧i=.int .i64 k∧s=.int .i64 (ZDQ (m.take k):Nat)) (fun _ i=>m.length-(intOf i).toNat)
 case atStart=>exact ⟨0,Za5 _,rfl,rfl⟩
 case round=>
  obtain ⟨k,hk,rfl,rfl⟩:=hrel
  by_cases hlt:k < m.length
  ·obtain ⟨b,o,ra,rn,rc,rfl,Y,d⟩:=T.out k hlt
   have L:rn=(m.getD k []).length:=by
    obtain ⟨_,_,h,_⟩:=d;simp only [Za3] at h;exact h.2.1
   subst L;have Q:=ZHB hlt;have y:=ZMG (m:=m) (k+1);have E:=hid Q
   obtain ⟨A,g⟩:∃A,A=ZDQ (m.take k):=⟨_,rfl⟩
   obtain ⟨a2,P⟩:∃a2,a2=(m.getD k []).length:=⟨_,rfl⟩
   rw [←g,←P] at Q E;rw [←P] at Y;rw [←g]
   have D:A+a2≤1000:=by omega
   have af:(0:Int)≤(k:Int):=by omega
   have aw:(k:Int) < (m.length:Int):=by omega
   have aC:¬((A:Int)+(a2:Int) < 0):=by omega
   clear Q y d g P;go_wp2
   go_round
   case rel=>exact ⟨k+1,by omega,by go_num,by rw [E.out]; go_num⟩
   case measure=>simp [intOf]; omega
  ·have N:k=m.length:=by omega
   subst N;have F:Hid (m.take m.length=m):=List.take_length;rw [F.out];clear hlt hk
   obtain ⟨tt,M⟩:∃tt,tt=ZDQ m:=⟨_,rfl⟩
   rw [←M] at h1 h2 ⊢;have ah:=hid M;clear M
   go_wp2_with fail
   refine (ZME tt w h1 (by omega)).mono ?_
   rintro e w1 ⟨gc,rfl,f,D⟩;have ar:=hid f;have ak:=hid D;clear f D;go_wp2
   go_loopw [6,27] (fun x i wr=>∃k:Nat,k≤m.length∧i=.int .i64 k∧wr.ownsRow w.heap.size 22 1 x (ZDQ (m.take k)) (m.take k).flatten∧Below w.heap.size w wr) (fun _ i _=>m.length-(intOf i).toNat)
   case atStart=>exact ⟨0,Za5 _,rfl,ar.out,ak.out⟩
   case round=>
    obtain ⟨k,hk,rfl,f,t⟩:=hrel
    obtain ⟨R,rfl⟩:∃R,R=wr:=⟨wr,rfl⟩
    have G:=hid f;have HB:=hid t;obtain ⟨xo,xc,an⟩:=ZAD f;subst an;have au:=t.size;clear f t
    by_cases hlt:k < m.length
    ·obtain ⟨b,o,ra,rn,rc,rfl,l,J⟩:=T.out k hlt
     have Y:=(HB.out.cell (p:=⟨b,o+k,none⟩) (ZAI l)).trans l;have d:=J.below HB.out (Za4 _);have Q:=ZHB hlt;have y:=ZMG (m:=m) (k+1);have E:=hid Q;have O:Hid ((m.take (k+1)).flatten=(m.take k).flatten ++ m.getD k []):=ZJi hlt
     obtain ⟨A,g⟩:∃A,A=ZDQ (m.take k):=⟨_,rfl⟩
     obtain ⟨q,hq⟩:∃q,q=m.getD k []:=⟨_,rfl⟩
     have aq:Hid (∀u∈q,u.oneCell'=true):=by rw [hq]; exact aa.out k hlt
     rw [←hq] at d E O;rw [←g] at E G ⊢
     have D:A+q.length≤1000:=by have:=E.out; have:=ah.out; omega
     have L:rn=q.length:=by
      obtain ⟨_,_,h,_⟩:=d;simp only [Za3] at h;exact h.2.1
     subst L
     have af:(0:Int)≤(k:Int):=by omega
     have aw:(k:Int) < (m.length:Int):=by omega
     rcases ra with _ | ra
     ·have ay:q=[]∧rc=0:=by
       obtain ⟨a0,c0,S,_,_,h3,h4⟩:=d;simp only [Za3] at S;obtain ⟨rfl,_,rfl⟩:=S;refine ⟨?_,h4 rfl⟩
       rcases q with _ | ⟨z,q⟩
       ·rfl
       ·obtain ⟨b',o',am,_⟩:=h3 0 (by simp)
        cases am
      obtain ⟨rfl,rfl⟩:=ay
      have R1:Hid (R.ownsRow w.heap.size 22 1 (.slice xo A xc) (ZDQ (m.take (k+1))) (m.take (k+1)).flatten):=by
       show World.ownsRow _ _ _ _ _ _ _
       rw [E.out,O.out]
       simpa using G.out
      clear Q y g hq l J d
      go_wp2_with (first | (at_builtin; refine wpList_append_own_none rfl _ _ 25 rfl w.heap.size 22 i3 1 Tryz.underlying25 V _ _ _ rfl G.out rfl ?_))
      go_wp2
      go_roundw
      case rel=>exact ⟨k+1,by omega,by go_num,R1.out,HB.out⟩
      case measure=>simp [intOf]; omega
     have az:=hid d
     have X:Hid (∀j u,q[j]?=some u→R.cell? (ra.add j)=some u):=ZMF d
     clear Q y g hq l J d
     go_wp2_with (first | (at_builtin; refine wpList_append_own _ rfl _ _ 25 rfl w.heap.size 22 i3 (.slice none 0 0) 1 24 Tryz.underlying25 V ae ag U rfl (by decide) _ _ _ rfl G.out ra q.length rc q rfl (by simp) X.out aq.out ?c3 ?c4 ?c5 ?_))
     case c3=>unfold maxLen; omega
     case c4=>omega
     case c5=>omega
     intro v' w3 ho hg _
     have R1:Hid (w3.ownsRow w.heap.size 22 1 v' (ZDQ (m.take (k+1))) (m.take (k+1)).flatten):=by rw [E.out,O.out]; exact ho
     have R2:Hid (Below w.heap.size w w3):=HB.out.grown hg au (fun x hx=>(G.out.lt x hx).1)
     clear ho hg;go_wp2
     go_roundw
     case rel=>exact ⟨k+1,by omega,by go_num,R1.out,R2.out⟩
     case measure=>simp [intOf]; omega
    ·have N:k=m.length:=by omega
     subst N
     have aj:Hid (R.ownsRow w.heap.size 22 1 (.slice xo (ZDQ m) xc) (ZDQ m) m.flatten):=by have:=G.out; rw [F.out] at this; exact this
     rw [F.out];clear G;go_wp2;go_ret
     exact ⟨_,rfl,by rw [ah.out]; exact aj.out,HB.out⟩
end Go.Proofs.YtgfnmkenpgnllaaGreat
namespace Go.Proofs.YtgfnmkenpgnllaaGreat
open Go.RowKit Lin
attribute [local go_sem ↓] Go.wp_at_zero Go.wp_at_succ
theorem ZIG(B:Nat)(m:List (List Int))(p:List Int)(zv ov:Value)(w:World)(hz:Mat B 22 3 w zv m)(ho:Sl B 3 w ov (ZAB p))(hm:m.length≤100) :
  Calls Tryz.prog 90 #[.slice (some ⟨w.heap.size+1,0,none⟩) 2 2] ((w.alloc (.cells #[ov] 22)).alloc (.cells #[zv,.slice (some ⟨w.heap.size,0,none⟩) 1 1] 25)) fun e w'=>∃uo uc,e=.returned (.slice uo (m.length+1) uc)∧Mat B 22 3 w' (.slice uo (m.length+1) uc) (m ++ [p])∧Below w.heap.size w w':=by
 obtain ⟨W,r⟩:∃W,W=(w.alloc (.cells #[ov] 22)).alloc (.cells #[zv,.slice (some ⟨w.heap.size,0,none⟩) 1 1] 25):=⟨_,rfl⟩
 have x:Below w.heap.size w W:=by rw [r]; exact ((Below.refl _ _).alloc (Za4 _) _).alloc (by simp) _
 have z:W.heap[w.heap.size]?=some (.cells #[ov] 22 (0,0)):=by
  rw [r]
  exact (Below.heap_alloc _ _ _ (by simp)).trans (heap_alloc_new w _)
 have D:W.heap[w.heap.size+1]?=some (.cells #[zv,.slice (some ⟨w.heap.size,0,none⟩) 1 1] 25 (0,0)):=by
  rw [r];have:=heap_alloc_new (w.alloc (.cells #[ov] 22)) (.cells #[zv,.slice (some ⟨w.heap.size,0,none⟩) 1 1] 25)
  simpa using this
 rw [←r];obtain ⟨j,v,M,A⟩:=hz
 have g:∀u∈j ++ [ov],u.oneCell'=true:=by
  intro u f
  rcases List.mem_append.1 f with f | f
  ·obtain ⟨i,b,E⟩:=List.getElem_of_mem f
   obtain ⟨a,c,o,_⟩:=A i (by omega)
   rw [show j.getD i (.slice none 0 0)=u by rw [←E]; simp [b]] at o
   rw [o]; rfl
  ·obtain ⟨a,c,o,_⟩:=ho
   rw [List.mem_singleton.1 f,o]; rfl
 have t:Sl B 22 W (.slice (some ⟨w.heap.size,0,none⟩) 1 1) [ov]:=by
  refine ⟨some ⟨w.heap.size,0,none⟩,1,rfl,by simp,by unfold maxLen; omega,fun i b=>⟨w.heap.size,0,rfl,?_,.inr ⟨_,z⟩⟩,fun e=>by cases e⟩
  have:i=0:=by simpa using b
  subst this;simp [World.cell?,z]
 refine (ZIF B [j,[ov]] [zv,.slice (some ⟨w.heap.size,0,none⟩) 1 1] _ W rfl ?_ (fun i b=>?_) (fun i b=>?_) (by simp) (by simp [ZDQ]) (by simp [ZDQ]; omega)).mono ?_
 ·refine ⟨some ⟨w.heap.size+1,0,none⟩,2,rfl,by simp,by unfold maxLen; omega,fun i b=>⟨w.heap.size+1,0,rfl,?_,.inr ⟨_,D⟩⟩,fun e=>by cases e⟩
  rcases (show i=0∨i=1 by simp at b; omega) with rfl | rfl <;> simp [World.cell?,D]
 ·rcases (show i=0∨i=1 by simp at b; omega) with rfl | rfl
  ·exact M.below x (Za4 _)
  ·exact t
 ·rcases (show i=0∨i=1 by simp at b; omega) with rfl | rfl
  ·exact fun u f=>g u (List.mem_append_left _ f)
  ·exact fun u f=>g u (List.mem_append_right _ f)
 ·rintro e w' ⟨u,rfl,d,y⟩
  have F:ZDQ [j,[ov]]=m.length+1:=by simp [ZDQ,v]
  have G:([j,[ov]]:List (List Value)).flatten=j ++ [ov]:=by simp
  rw [F,G] at d;obtain ⟨uo,uc,rfl⟩:=ZAD d;have n:Below w.heap.size w w':=x.trans (y.mono x.size)
  refine ⟨uo,uc,rfl,⟨j ++ [ov],by simp [v],Sl.own d,fun i b=>?_⟩,n⟩
  rw [Zaa4,List.length_singleton] at b
  by_cases q:i < m.length
  ·have:=(A i q).below n (Za4 _)
   rw [Za2,Za7 (by omega),←Za2,Za2 (l:=m ++ [p]),Za7 q,←Za2]
   exact this
  ·have s:i=m.length:=by omega
   subst s
   have J:(j ++ [ov]).getD m.length (.slice none 0 0)=ov:=by rw [←v]; simp
   have L:(m ++ [p]).getD m.length []=p:=by simp
   rw [J,L];exact ho.below n (Za4 _)
def flT(d:Nat)(P:List (List Int))(s k:Nat):Bool:=(List.range k).all fun i=>s.testBit i || !thr d P s i
theorem ZNq(d:Nat)(P:List (List Int))(s k:Nat):flT d P s (k+1)=(flT d P s k && (s.testBit k || !thr d P s k)):=by
 simp [flT,List.range_succ]
theorem ZQo{d:Nat}{P:List (List Int)}{s k n:Nat}(hk:k≤n)(h:flT d P s k=false):flT d P s n=false:=by
 unfold flT at h ⊢;rw [List.all_eq_false] at h ⊢;obtain ⟨i,a,h⟩:=h
 exact ⟨i,List.mem_range.2 (by have:=List.mem_range.1 a; omega),h⟩
theorem ZJj(d:Nat)(P:List (List Int))(c:List Int)(v u:Value)(w:World)(hd1:1≤d)(hd3:d≤3)(hG:∀p∈P,p.length=d+1∧∀z∈p,z.natAbs≤20)(h6:P.length≤6)(hc:c∈ZDY P.length)(hv:Mat 0 22 3 w v P)(hu:Sl 0 3 w u (ZAB c)) :
  Calls Tryz.prog 57 #[.int .i64 d,v,u] w fun e w'=>e=.returned (.bool (flB d P (ZA5 c)))∧Below w.heap.size w w':=by
 obtain ⟨vo,vc,rfl,_,_⟩:=ZAE hv;obtain ⟨uo,uc,rfl,_,_⟩:=ZAH hu;obtain ⟨hs,ak,ai⟩:=(ZBj h6).1 c hc
 obtain ⟨s,B⟩:∃s,s=ZA5 c:=⟨_,rfl⟩
 have hT:pks P [] c=plS P s:=by rw [B]; exact ZKf h6 hc
 have F:∀i,i < P.length→c.contains (i:Int)=s.testBit i:=fun i hi=>by rw [B]; exact ZO4 h6 hc hi
 have aP:c.length≤6:=by
  rw [ak];unfold ZBH;rw [Zab1]
  exact Zaa8 (List.length_filter_le _ _) (by simpa using h6)
 have N:(plS P s).length=c.length:=by rw [←hT]; simp [pks]
 have m:∀p∈plS P s,p.length=d+1∧∀z∈p,z.natAbs≤20:=fun p hp=>by
  obtain ⟨i,T,_,rfl⟩:=ZCq.1 hp;exact hG _ (ZAT T)
 have aA:Hid (Calls Tryz.prog 59 #[.slice vo P.length vc,.slice uo c.length uc] w fun e w'=>∃U S,e=.returned (.slice U c.length S)∧Mat w.heap.size 22 3 w' (.slice U c.length S) (plS P s)∧Below w.heap.size w w'):=by
  refine (ZB5 0 P c _ _ w hv hu (fun i hi=>ai _ (by simp [hi])) (by omega)).mono ?_
  rintro e w' ⟨z,rfl,A,hb⟩;have t:Mat w.heap.size 22 3 w' z (pks P [] c):=A.mat (Za4 _);rw [hT] at t;obtain ⟨U,S,rfl,_,_⟩:=ZAE t;rw [N] at t ⊢;exact ⟨U,S,rfl,t,hb⟩
 have J:Hid (∀(wd:Nat) (z:Value) X,1≤wd→wd≤d+1→Mat w.heap.size 22 3 X z (plS P s)→Calls Tryz.prog 58 #[z,.int .i64 wd] X fun e w'=>e=.returned (.int .i64 (rk wd (plS P s):Nat))∧Below X.heap.size X w'):=fun wd z X T h2 A=>
  ZCP w.heap.size (d+1) wd (plS P s) z X h2 T (ZDl hd1 hd3 m) A (by omega)
 have aw:Hid (∀(i:Nat) (z:Value) X,i < P.length→Mat w.heap.size 22 3 X z (plS P s ++ [P.getD i []])→Calls Tryz.prog 58 #[z,.int .i64 ((d:Int)+1)] X fun e w'=>e=.returned (.int .i64 (rk (d+1) (plS P s ++ [P.getD i []]):Nat))∧Below X.heap.size X w'):=fun i z X hi A=>by
  have:=ZCP w.heap.size (d+1) (d+1) (plS P s ++ [P.getD i []]) z X (Za4 _) (by omega) (ZDl hd1 hd3 fun p hp=>by
   rcases List.mem_append.1 hp with hp | hp
   ·exact m p hp
   ·rw [List.mem_singleton.1 hp]; exact hG _ (ZAT hi)) A (by simp; omega)
  exact this
 have ah:Hid (∀(i:Nat) X,i < P.length→Below w.heap.size w X→Calls Tryz.prog 89 #[.slice uo c.length uc,.int .i64 (i:Int)] X fun e w'=>e=.returned (.bool (s.testBit i))∧w'=X):=fun i X hi hX=>by
  rw [←F i hi];exact ZC6 0 i c _ X (hu.below hX (Za4 _))
 have ag:Hid (∀(i:Nat) (z j:Value) X,i < P.length→Mat w.heap.size 22 3 X z (plS P s)→Sl w.heap.size 3 X j (ZAB (P.getD i []))→Calls Tryz.prog 90 #[.slice (some ⟨X.heap.size+1,0,none⟩) 2 2] ((X.alloc (.cells #[j] 22)).alloc (.cells #[z,.slice (some ⟨X.heap.size,0,none⟩) 1 1] 25)) fun e w'=>∃yo yc,e=.returned (.slice yo (c.length+1) yc)∧Mat w.heap.size 22 3 w' (.slice yo (c.length+1) yc) (plS P s ++ [P.getD i []])∧Below X.heap.size X w'):=fun i z j X hi A ho=>by
  have:=ZIG w.heap.size (plS P s) (P.getD i []) z j X A ho (by omega)
  rw [N] at this;exact this
 have aF:Hid (∀i,i < P.length→∃b o j,vo=some ⟨b,o,none⟩∧(∃oo oc,j=.slice oo (d+1) oc)∧∀X,Below w.heap.size w X→X.cell? ⟨b,o+i,none⟩=some j∧Sl w.heap.size 3 X j (ZAB (P.getD i []))):=fun i hi=>by
  obtain ⟨b,o,cp,j,e1,_,T,h2⟩:=ZAP hv hi;simp only [Za3] at e1;obtain ⟨oo,oc,he,_,_⟩:=ZAH h2;rw [(hG _ (ZAT hi)).1] at he
  exact ⟨b,o,j,e1.1,⟨oo,oc,he⟩,fun X hX=>⟨(hX.cell (ZAI T)).trans T,(h2.below hX (Za4 _)).more (Za5 _)⟩⟩
 have aj:Hid (∀i,thr d P s i=(rk (d+1) (plS P s ++ [P.getD i []]) == rk (d+1) (plS P s))):=fun i=>rfl
 have r:Hid (flB d P s=(cen d P s && flT d P s P.length)):=rfl
 have x:Hid (cen d P s=!decide (rk d (plS P s) < rk (d+1) (plS P s))):=by
  show (rk d (plS P s) == rk (d+1) (plS P s))=_
  have:=ZKZ d (plS P s);rw [Bool.eq_iff_iff];simp;omega
 rw [←B];have aQ:=ZFJ (d+1) (plS P s);have aS:=ZFJ d (plS P s)
 have aq:Hid (∀i,rk (d+1) (plS P s ++ [P.getD i []])≤d+1):=fun i=>ZFJ _ _
 have E:=aA;clear hv hu hs ak ai B hT F N m hc aA;generalize hRD:rk d (plS P s)=rd at *;generalize hRE:rk (d+1) (plS P s)=re at *;go_enter Tryz.func57,Tryz.ntmps57
 go_wp2_with fail
 refine E.out.mono ?_;rintro e l ⟨U,S,rfl,n,ar⟩
 have K1:=J.out (d+1) _ l (by omega) (by omega) n
 rw [hRE] at K1;have an:=hid K1
 have aG:Hid (∀X,Below l.heap.size l X→Calls Tryz.prog 58 #[.slice U c.length S,.int .i64 (d:Int)] X fun e w'=>e=.returned (.int .i64 (rd:Nat))∧Below X.heap.size X w'):=fun X hX=>by
  have:=J.out d _ X hd1 (by omega) (n.below hX (Za4 _))
  rw [hRD] at this;exact this
 have HZ:=hid n;have g:=hid ar;clear K1 n ar E J
 go_wp2_with fail
 refine an.out.mono ?_;rintro e w2 ⟨rfl,ay⟩;have y:=hid ay;clear ay an
 go_wp2_with fail
 refine (aG.out w2 y.out).mono ?_;rintro e w3 ⟨rfl,au⟩;have aC:Hid (Below l.heap.size l w3):=y.out.trans (au.mono y.out.size);clear au aG y
 by_cases hlt:rd < re
 ·have aE:(rd:Int) < (re:Int):=by omega
  have HF:Hid (flB d P s=false):=by
   show _=_
   rw [r.out,x.out]; simp [hlt]
  have O:Hid (Below w.heap.size w w3):=g.out.trans (aC.out.mono g.out.size);clear r x hlt aw ah ag aF aj aq;go_wp2;go_ret;exact ⟨ZAW HF.out.symm,O.out⟩
 have aE:¬(rd:Int) < (re:Int):=by omega
 have aN:decide (rd < re)=false:=decide_eq_false hlt
 have HF:Hid (flB d P s=flT d P s P.length):=by
  show _=_
  rw [r.out,x.out]; simp [hlt]
 clear r x hlt;go_wp2
 go_loopw [25,9,10] (fun i _ _ wr=>∃k:Nat,k≤P.length∧i=.int .i64 (k:Int)∧flT d P s k=true∧Below l.heap.size l wr) (fun i _ _ _=>P.length-(intOf i).toNat)
 case atStart=>exact ⟨0,Za5 _,rfl,rfl,aC.out⟩
 case round=>
  obtain ⟨k,hk,rfl,Y,hb⟩:=hrel;have aa:=hid Y;have HB:=hid hb;have R:Hid (Below w.heap.size w wr):=g.out.trans (hb.mono g.out.size);clear Y hb
  by_cases hlt:k < P.length
  ·obtain ⟨b,o,j,aM,⟨oo,oc,aI⟩,hx⟩:=aF.out k hlt
   subst aM aI;obtain ⟨c1,ae⟩:=hx wr R.out;have f:=ah.out k wr hlt R.out
   have aR:(k:Int) < (P.length:Int):=by omega
   have a:=ZNq d P s k;have Q:=ag.out k _ _ wr hlt (HZ.out.below HB.out (Za4 _)) ae;have G:=aj.out k;rw [aa.out,Bool.true_and] at a;clear ae hx
   cases hbt:s.testBit k
   ·rw [hbt] at f a
    rw [Bool.false_or,G] at a;have D:=hid a;clear a G;have aO:=aq.out k
    have aD:Hid (∀(z:Value) X,Mat w.heap.size 22 3 X z (plS P s ++ [P.getD k []])→Calls Tryz.prog 58 #[z,.int .i64 ((d:Int)+1)] X fun e w'=>e=.returned (.int .i64 (rk (d+1) (plS P s ++ [P.getD k []]):Nat))∧Below X.heap.size X w'):=fun z X A=>aw.out k z X hlt A
    generalize rk (d+1) (plS P s ++ [P.getD k []])=rn at *
    go_wp2_with fail
    refine f.mono ?_;rintro e w5 ⟨rfl,L⟩;subst L;clear f
    go_wp2_with fail
    refine Q.mono ?_;rintro e w6 ⟨yo,yc,rfl,af,aB⟩;have az:=aD.out _ w6 af;have M:Hid (Below l.heap.size l w6):=HB.out.trans (aB.mono HB.out.size);clear af aB Q
    go_wp2_with fail
    refine az.mono ?_;rintro e w7 ⟨rfl,am⟩;have V:Hid (Below l.heap.size l w7):=M.out.trans (am.mono M.out.size);clear az am M
    by_cases hq:rn=re
    ·have aH:((rn:Int) == (re:Int))=true:=by simp [hq]
     have aJ:Hid (flB d P s=false):=by
      show _=_
      rw [HF.out]
      refine ZQo (k:=k+1) (by omega) ?_
      rw [D.out]; simp [hq]
     have O:Hid (Below w.heap.size w w7):=g.out.trans (V.out.mono g.out.size);clear hq;go_wp2;go_ret;exact ⟨ZAW aJ.out.symm,O.out⟩
    ·have aH:((rn:Int) == (re:Int))=false:=by simp; omega
     have aK:Hid (flT d P s (k+1)=true):=by
      show _=_
      rw [D.out]; simp [hq]
     clear hq;go_wp2
     go_roundw
     case rel=>exact ⟨k+1,by omega,by go_num,aK.out,V.out⟩
     case measure=>simp [intOf]; omega
   ·rw [hbt] at f a
    have D:Hid (flT d P s (k+1)=true):=by rw [a]; rfl
    clear a G Q
    go_wp2_with fail
    refine f.mono ?_;rintro e w5 ⟨rfl,L⟩;subst L;clear f;go_wp2
    go_roundw
    case rel=>exact ⟨k+1,by omega,by go_num,D.out,HB.out⟩
    case measure=>simp [intOf]; omega
  ·have aL:k=P.length:=by omega
   subst aL;go_wp2;go_ret
   exact ⟨ZAW (by rw [HF.out,aa.out]),R.out⟩
end Go.Proofs.YtgfnmkenpgnllaaGreat
