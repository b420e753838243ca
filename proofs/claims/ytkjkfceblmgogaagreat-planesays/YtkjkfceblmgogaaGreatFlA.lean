import Derived.Test.YtkjkfceblmgogaaGreatOrdB
import Derived.Shelf.Spec.SlicesGrow
import Derived.Test.YtkjkfceblmgogaaGreatSgE
set_option maxRecDepth 100000
set_option maxHeartbeats 1600000
namespace Go.Proofs
open Go.Shelf Go.RowKit Go.Lib Go.Sort
shelf_lay_g SlLaysF0.n6 Slsf 6 at Tryz 55 as Tryz.sortF
end Go.Proofs
namespace Go.Proofs.YtkjkfceblmgogaaGreat
open Go.RowKit
def orL:List Int→Int
 | []=>0
 | z :: l=>if z=0 then orL l else z
theorem ZJK:∀{l:List Int},(∀z∈l,z=0)→orL l=0
 | [],_=>rfl
 | z :: l,h=>by
  unfold orL
  rw [if_pos (h z (by simp))]
  exact ZJK fun x hx=>h x (by simp [hx])
theorem ZMS:∀{l:List Int} {k:Nat},k < l.length→(∀z∈l.take k,z=0)→l.getD k 0≠0→orL l=l.getD k 0
 | z :: l,0,_,_,h=>by
  unfold orL
  rw [if_neg (by simpa using h)]
  rfl
 | z :: l,k+1,hk,h0,h=>by
  unfold orL
  rw [if_pos (h0 z (by simp))]
  exact ZMS (k:=k) (by simpa using hk) (fun x hx=>h0 x (by simp [hx])) (by simpa using h)
theorem ZP8(B:Nat)(zs:List Int)(v:Value)(w:World)(hv:Sl B 3 w v (ZAB zs)) :
  Calls Tryz.prog 57 #[v] w fun e w'=>e=.returned (.int .i64 (orL zs))∧w'=w:=by
 obtain ⟨E,l,g,D,r⟩:=ZAI hv;subst g;have p:Hid (Sl B 3 w (.slice E zs.length l) (ZAB zs)):=hv;clear hv;go_enter Tryz.func57,Tryz.ntmps57;go_wp2
 go_loopw [5,8] (fun _ i wr=>∃k:Nat,k≤zs.length∧i=.int .i64 k∧(∀z∈zs.take k,z=0)∧wr=w) (fun _ i _=>zs.length-(intOf i).toNat)
 case atStart=>exact ⟨0,Za5 _,rfl,by simp,rfl⟩
 case round=>
  obtain ⟨k,F,rfl,c,rfl⟩:=hrel;have f:=hid c;clear c
  by_cases hlt:k < zs.length
  ·obtain ⟨b,o,G,n,t,y⟩:=ZAK p.out hlt
   simp only [Za3] at n;obtain ⟨rfl,_,rfl⟩:=n
   have j:Hid (zs.getD k 0=0→∀z∈zs.take (k+1),z=0):=fun h z hz=>by
    have e:zs.getD k 0=zs[k]:=by simp [hlt]
    rw [Zaa1 hlt,List.mem_append,List.mem_singleton] at hz
    rcases hz with hz | hz
    ·exact f.out z hz
    ·rw [hz,←e,h]
   have s:Hid (zs.getD k 0≠0→orL zs=zs.getD k 0):=fun h=>ZMS hlt f.out h
   generalize zs.getD k 0=z at *
   cases hf:(z == 0)
   ·have a:z≠0:=by simpa using hf
    have x:=hid a;clear a;go_wp2;go_ret
    exact ⟨by rw [s.out x.out]; rfl,rfl⟩
   ·have m:z=0:=by simpa using hf
    clear hf;subst m;go_wp2
    go_roundw
    case rel=>exact ⟨k+1,by omega,by go_num,j.out rfl,trivial⟩
    case measure=>simp [intOf]; omega
  ·have d:zs.take k=zs:=Zaa2 (by omega)
   have A:Hid (orL zs=0):=ZJK (by rw [←d]; exact f.out)
   go_wp2;go_ret
   exact ⟨by rw [A.out]; rfl,rfl⟩
theorem ZRF{B:Nat}{w:World}{a b:Int} : Sl B 3 (w.alloc (.cells #[.int .i64 a,.int .i64 b] 3)) (.slice (some ⟨w.heap.size,0,none⟩) 2 2) (ZAB [a,b]):=by
 have c:(w.alloc (.cells #[.int .i64 a,.int .i64 b] 3)).rowIs w.heap.size 3 2 (fun i=>.int .i64 ([a,b].getD i 0)):=by
  refine ⟨#[.int .i64 a,.int .i64 b],heap_alloc_new w _,rfl,fun i hi=>?_⟩
  match i,hi with
  | 0,_=>rfl
  | 1,_=>rfl
 exact ZCv (n:=2) c (fun i _=>rfl) rfl (Za4 _) (by decide)
theorem ZP9{a b:Int} : ZCh a b < 0↔a < b:=by
 unfold ZCh
 by_cases h1:a < b
 ·rw [if_pos h1]; exact ⟨fun _=>h1,fun _=>by decide⟩
 ·rw [if_neg h1]
  by_cases h2:b < a
  ·rw [if_pos h2]; exact ⟨fun h=>absurd h (by decide),fun h=>absurd h h1⟩
  ·rw [if_neg h2]; exact ⟨fun h=>absurd h (by decide),fun h=>absurd h h1⟩
theorem ZHM{a b:Int} : ZCh a b=0↔a=b:=by
 unfold ZCh
 by_cases h1:a < b
 ·rw [if_pos h1]; exact ⟨fun h=>absurd h (by decide),fun h=>by omega⟩
 ·rw [if_neg h1]
  by_cases h2:b < a
  ·rw [if_pos h2]; exact ⟨fun h=>absurd h (by decide),fun h=>by omega⟩
  ·rw [if_neg h2]; exact ⟨fun _=>by omega,fun _=>rfl⟩
end Go.Proofs.YtkjkfceblmgogaaGreat
namespace Go.Proofs
open Go.Shelf Go.RowKit Go.Lib
shelf_lay_g Lays8.n4 Nm8 4 at Tryz 109 as Tryz.growM
end Go.Proofs
namespace Go.Proofs.YtkjkfceblmgogaaGreat
open Go.RowKit
attribute [local go_sem ↓] Go.wp_at_zero Go.wp_at_succ
theorem ZMT(n:Nat)(w:World)(h1:1≤n)(h2:n≤1000000) :
  Calls Tryz.prog 109 #[.slice none 0 0,.int .i64 n] w fun e w'=>∃cap,e=.returned (.slice (some ⟨w.heap.size,0,none⟩) 0 cap)∧w'.ownsRow w.heap.size 27 1 (.slice (some ⟨w.heap.size,0,none⟩) 0 cap) 0 []∧Below w.heap.size w w':=by
 obtain ⟨j,f,b,d,c⟩:=info_parts Tryz.info27
 have h:=Any8.slices_Grow_grow Tryz.growM j (.slice none 0 0) f b (by rw [d]; decide) none 0 0 n [] w (Za4 _) (by omega) (by rw [c]; omega) (by omega) (by simp) (fun _=>rfl) (fun a h=>by cases h)
 refine Calls.mono h ?_;rintro e w' ⟨rfl,rfl⟩;refine ⟨_,rfl,?_,((Below.refl _ _).drew).alloc (Za4 _) _⟩
 refine World.ownsRow_made w.drew _ _ (Za4 _) (grownCap_le_maxLen _ _ _ _ (by unfold maxLen; omega)) ?_
 have i:∀t,0+n≤grownCap w (0+n) 0 t:=fun t=>grownCap_ge w (0+n) 0 t
 have g:∀G,0+n≤G→(([]:List Value).toArray ++ Builtin.zeroCells (Value.slice none 0 0).cells (0+n-0) ++ Builtin.zeroCells (Value.slice none 0 0).cells (G-(0+n))).size=G*1:=fun G hG=>by
  simp only [Array.size_append,List.size_toArray,size_zeroCells,List.length_nil,show (Value.slice none 0 0).cells.size=1 from rfl]
  omega
 exact g _ (i _)
theorem ZMU{B:Nat}{e:TypeId}{w:World}{a:Addr}{n cap:Nat}{xs:List Value}(h:Sl B e w (.slice (some a) n cap) xs):∀j u,xs[j]?=some u→w.cell? (a.add j)=some u:=by
 intro j u g;have d:=(List.getElem?_eq_some_iff.1 g).1;obtain ⟨p,c,hv,m,s,l,r⟩:=h;simp only [Za3] at hv;obtain ⟨rfl,_,rfl⟩:=hv;obtain ⟨b,o,i,f,_⟩:=l j d
 cases i
 rw [g] at f
 by_cases ej:j=0
 ·subst ej; simpa [Addr.add] using f
 ·simpa [Addr.add,ej] using f
def ZDP(m:List (List Value)):Nat:=m.flatten.length
theorem ZHN{m:List (List Value)}{k:Nat}(h:k < m.length):ZDP (m.take (k+1))=ZDP (m.take k)+(m.getD k []).length:=by
 unfold ZDP;rw [Zaa1 h,List.flatten_append,Zaa4];simp [h]
theorem ZMV{m:List (List Value)}(k:Nat):ZDP (m.take k)≤ZDP m:=by
 unfold ZDP
 have:m.flatten=(m.take k).flatten ++ (m.drop k).flatten:=by rw [←List.flatten_append,List.take_append_drop]
 rw [this,Zaa4];omega
theorem ZJx{m:List (List Value)}{k:Nat}(h:k < m.length):(m.take (k+1)).flatten=(m.take k).flatten ++ m.getD k []:=by
 rw [Zaa1 h,List.flatten_append];simp only [List.flatten_cons,List.flatten_nil,List.append_nil]
 rw [show m.getD k []=m[k] by simp [h]]
theorem ZIS(B:Nat)(m:List (List Value))(vs:List Value)(v:Value)(w:World)(hvl:vs.length=m.length)(hv2:Sl B 22 w v vs)(hv3:∀i,i < m.length→Sl B 27 w (vs.getD i (.slice none 0 0)) (m.getD i []))(hone:∀i,i < m.length→∀u∈m.getD i [],u.oneCell'=true)(hm:m.length≤1000)(h1:1≤ZDP m)(h2:ZDP m≤1000) :
  Calls Tryz.prog 85 #[v] w fun e w'=>∃u,e=.returned u∧w'.ownsRow w.heap.size 27 1 u (ZDP m) m.flatten∧Below w.heap.size w w':=by
 obtain ⟨i3,S,ah,X,ai⟩:=info_parts Tryz.info27
 obtain ⟨T,r,ar,aD,aB⟩:∃T r,v=.slice T m.length r∧m.length≤r∧r≤9223372036854775807:=by
  obtain ⟨T,r,h1,h2,h3,_⟩:=hv2
  exact ⟨T,r,by rw [h1,hvl],by omega,by unfold maxLen at h3; omega⟩
 subst ar;have U:=hid hone
 have aj:Hid (∀k,k < m.length→∃b o a n c,T=some ⟨b,o,none⟩∧w.cell? ⟨b,o+k,none⟩=some (.slice a n c)∧Sl B 27 w (.slice a n c) (m.getD k [])):=fun k R=>by
  obtain ⟨b,o,cp,he,_,_,h4⟩:=hv2.at (by omega)
  obtain ⟨a,c,h5,_,_⟩:=hv3 k R;simp only [Za3] at he;have h6:=hv3 k R;rw [h5] at h6;refine ⟨b,o,a,_,c,he.1,?_,h6⟩
  rw [h4 k (by omega),←h5]
  simp [show k < vs.length by omega]
 clear hv2 hv3 hvl hone;go_enter Tryz.func85,Tryz.ntmps85;go_wp2
 go_loop [3,11] (fun s i=>∃k:Nat,k≤m.length∧i=.int .i64 k∧s=.int .i64 (ZDP (m.take k):Nat)) (fun _ i=>m.length-(intOf i).toNat)
 case atStart=>exact ⟨0,Za5 _,rfl,rfl⟩
 case round=>
  obtain ⟨k,R,rfl,rfl⟩:=hrel
  by_cases hlt:k < m.length
  ·obtain ⟨b,o,Y,rn,rc,rfl,ae,d⟩:=aj.out k hlt
   have Q:rn=(m.getD k []).length:=by
    obtain ⟨_,_,h,_⟩:=d;simp only [Za3] at h;exact h.2.1
   subst Q;have F:=ZHN hlt;have D:=ZMV (m:=m) (k+1);have E:=hid F
   obtain ⟨A,g⟩:∃A,A=ZDP (m.take k):=⟨_,rfl⟩
   obtain ⟨a2,O⟩:∃a2,a2=(m.getD k []).length:=⟨_,rfl⟩
   rw [←g,←O] at F E;rw [←O] at ae;rw [←g]
   have y:A+a2≤1000:=by omega
   have aa:(0:Int)≤(k:Int):=by omega
   have aq:(k:Int) < (m.length:Int):=by omega
   have aC:¬((A:Int)+(a2:Int) < 0):=by omega
   clear F D d g O;go_wp2
   go_round
   case rel=>exact ⟨k+1,by omega,by go_num,by rw [E.out]; go_num⟩
   case measure=>simp [intOf]; omega
  ·have G:k=m.length:=by omega
   subst G;have L:Hid (m.take m.length=m):=List.take_length;rw [L.out];clear hlt R
   obtain ⟨tt,J⟩:∃tt,tt=ZDP m:=⟨_,rfl⟩
   rw [←J] at h1 h2 ⊢;have af:=hid J;clear J
   go_wp2_with fail
   refine (ZMT tt w h1 (by omega)).mono ?_
   rintro e w1 ⟨gc,rfl,f,y⟩;have ay:=hid f;have am:=hid y;clear f y;go_wp2
   go_loopw [6,27] (fun x i wr=>∃k:Nat,k≤m.length∧i=.int .i64 k∧wr.ownsRow w.heap.size 27 1 x (ZDP (m.take k)) (m.take k).flatten∧Below w.heap.size w wr) (fun _ i _=>m.length-(intOf i).toNat)
   case atStart=>exact ⟨0,Za5 _,rfl,ay.out,am.out⟩
   case round=>
    obtain ⟨k,R,rfl,f,t⟩:=hrel
    obtain ⟨V,rfl⟩:∃V,V=wr:=⟨wr,rfl⟩
    have N:=hid f;have HB:=hid t;obtain ⟨xo,xc,au⟩:=ZAE f;subst au;have aw:=t.size;clear f t
    by_cases hlt:k < m.length
    ·obtain ⟨b,o,Y,rn,rc,rfl,l,P⟩:=aj.out k hlt
     have ae:=(HB.out.cell (p:=⟨b,o+k,none⟩) (ZAH l)).trans l;have d:=P.below HB.out (Za4 _);have F:=ZHN hlt;have D:=ZMV (m:=m) (k+1);have E:=hid F;have M:Hid ((m.take (k+1)).flatten=(m.take k).flatten ++ m.getD k []):=ZJx hlt
     obtain ⟨A,g⟩:∃A,A=ZDP (m.take k):=⟨_,rfl⟩
     obtain ⟨q,hq⟩:∃q,q=m.getD k []:=⟨_,rfl⟩
     have an:Hid (∀u∈q,u.oneCell'=true):=by rw [hq]; exact U.out k hlt
     rw [←hq] at d E M;rw [←g] at E N ⊢
     have y:A+q.length≤1000:=by have:=E.out; have:=af.out; omega
     have Q:rn=q.length:=by
      obtain ⟨_,_,h,_⟩:=d;simp only [Za3] at h;exact h.2.1
     subst Q
     have aa:(0:Int)≤(k:Int):=by omega
     have aq:(k:Int) < (m.length:Int):=by omega
     rcases Y with _ | Y
     ·have ak:q=[]∧rc=0:=by
       obtain ⟨a0,c0,he,_,_,h3,h4⟩:=d;simp only [Za3] at he;obtain ⟨rfl,_,rfl⟩:=he;refine ⟨?_,h4 rfl⟩
       rcases q with _ | ⟨z,q⟩
       ·rfl
       ·obtain ⟨b',o',az,_⟩:=h3 0 (by simp)
        cases az
      obtain ⟨rfl,rfl⟩:=ak
      have R1:Hid (V.ownsRow w.heap.size 27 1 (.slice xo A xc) (ZDP (m.take (k+1))) (m.take (k+1)).flatten):=by
       show World.ownsRow _ _ _ _ _ _ _
       rw [E.out,M.out]
       simpa using N.out
      clear F D g hq l P d
      go_wp2_with (first | (at_builtin; refine wpList_append_own_none rfl _ _ 22 rfl w.heap.size 27 i3 1 Tryz.underlying22 S _ _ _ rfl N.out rfl ?_))
      go_wp2
      go_roundw
      case rel=>exact ⟨k+1,by omega,by go_num,R1.out,HB.out⟩
      case measure=>simp [intOf]; omega
     have aE:=hid d
     have ag:Hid (∀j u,q[j]?=some u→V.cell? (Y.add j)=some u):=ZMU d
     clear F D g hq l P d
     go_wp2_with (first | (at_builtin; refine wpList_append_own _ rfl _ _ 22 rfl w.heap.size 27 i3 (.slice none 0 0) 1 24 Tryz.underlying22 S ah X ai rfl (by decide) _ _ _ rfl N.out Y q.length rc q rfl (by simp) ag.out an.out ?c3 ?c4 ?c5 ?_))
     case c3=>unfold maxLen; omega
     case c4=>omega
     case c5=>omega
     intro v' w3 ho hg _
     have R1:Hid (w3.ownsRow w.heap.size 27 1 v' (ZDP (m.take (k+1))) (m.take (k+1)).flatten):=by rw [E.out,M.out]; exact ho
     have R2:Hid (Below w.heap.size w w3):=HB.out.grown hg aw (fun x hx=>(N.out.lt x hx).1)
     clear ho hg;go_wp2
     go_roundw
     case rel=>exact ⟨k+1,by omega,by go_num,R1.out,R2.out⟩
     case measure=>simp [intOf]; omega
    ·have G:k=m.length:=by omega
     subst G
     have aA:Hid (V.ownsRow w.heap.size 27 1 (.slice xo (ZDP m) xc) (ZDP m) m.flatten):=by have:=N.out; rw [L.out] at this; exact this
     rw [L.out];clear N;go_wp2;go_ret
     exact ⟨_,rfl,by rw [af.out]; exact aA.out,HB.out⟩
end Go.Proofs.YtkjkfceblmgogaaGreat
namespace Go.Proofs.YtkjkfceblmgogaaGreat
open Go.RowKit Lin
attribute [local go_sem ↓] Go.wp_at_zero Go.wp_at_succ
theorem ZIT(B:Nat)(m:List (List Int))(p:List Int)(zv ov:Value)(w:World)(hz:Mat B 27 3 w zv m)(ho:Sl B 3 w ov (ZAB p))(hm:m.length≤100) :
  Calls Tryz.prog 85 #[.slice (some ⟨w.heap.size+1,0,none⟩) 2 2] ((w.alloc (.cells #[ov] 27)).alloc (.cells #[zv,.slice (some ⟨w.heap.size,0,none⟩) 1 1] 22)) fun e w'=>∃uo uc,e=.returned (.slice uo (m.length+1) uc)∧Mat B 27 3 w' (.slice uo (m.length+1) uc) (m ++ [p])∧Below w.heap.size w w':=by
 obtain ⟨W,o⟩:∃W,W=(w.alloc (.cells #[ov] 27)).alloc (.cells #[zv,.slice (some ⟨w.heap.size,0,none⟩) 1 1] 22):=⟨_,rfl⟩
 have v:Below w.heap.size w W:=by rw [o]; exact ((Below.refl _ _).alloc (Za4 _) _).alloc (by simp) _
 have A:W.heap[w.heap.size]?=some (.cells #[ov] 27 (0,0)):=by
  rw [o]
  exact (Below.heap_alloc _ _ _ (by simp)).trans (heap_alloc_new w _)
 have z:W.heap[w.heap.size+1]?=some (.cells #[zv,.slice (some ⟨w.heap.size,0,none⟩) 1 1] 22 (0,0)):=by
  rw [o];have:=heap_alloc_new (w.alloc (.cells #[ov] 27)) (.cells #[zv,.slice (some ⟨w.heap.size,0,none⟩) 1 1] 22)
  simpa using this
 rw [←o];obtain ⟨g,t,F,D⟩:=hz
 have j:∀u∈g ++ [ov],u.oneCell'=true:=by
  intro u f
  rcases List.mem_append.1 f with f | f
  ·obtain ⟨i,b,M⟩:=List.getElem_of_mem f
   obtain ⟨a,c,r,_⟩:=D i (by omega)
   rw [show g.getD i (.slice none 0 0)=u by rw [←M]; simp [b]] at r
   rw [r]; rfl
  ·obtain ⟨a,c,r,_⟩:=ho
   rw [List.mem_singleton.1 f,r]; rfl
 have s:Sl B 27 W (.slice (some ⟨w.heap.size,0,none⟩) 1 1) [ov]:=by
  refine ⟨some ⟨w.heap.size,0,none⟩,1,rfl,by simp,by unfold maxLen; omega,fun i b=>⟨w.heap.size,0,rfl,?_,.inr ⟨_,A⟩⟩,fun e=>by cases e⟩
  have:i=0:=by simpa using b
  subst this;simp [World.cell?,A]
 refine (ZIS B [g,[ov]] [zv,.slice (some ⟨w.heap.size,0,none⟩) 1 1] _ W rfl ?_ (fun i b=>?_) (fun i b=>?_) (by simp) (by simp [ZDP]) (by simp [ZDP]; omega)).mono ?_
 ·refine ⟨some ⟨w.heap.size+1,0,none⟩,2,rfl,by simp,by unfold maxLen; omega,fun i b=>⟨w.heap.size+1,0,rfl,?_,.inr ⟨_,z⟩⟩,fun e=>by cases e⟩
  rcases (show i=0∨i=1 by simp at b; omega) with rfl | rfl <;> simp [World.cell?,z]
 ·rcases (show i=0∨i=1 by simp at b; omega) with rfl | rfl
  ·exact F.below v (Za4 _)
  ·exact s
 ·rcases (show i=0∨i=1 by simp at b; omega) with rfl | rfl
  ·exact fun u f=>j u (List.mem_append_left _ f)
  ·exact fun u f=>j u (List.mem_append_right _ f)
 ·rintro e w' ⟨u,rfl,d,x⟩
  have J:ZDP [g,[ov]]=m.length+1:=by simp [ZDP,t]
  have L:([g,[ov]]:List (List Value)).flatten=g ++ [ov]:=by simp
  rw [J,L] at d;obtain ⟨uo,uc,rfl⟩:=ZAE d;have n:Below w.heap.size w w':=v.trans (x.mono v.size)
  refine ⟨uo,uc,rfl,⟨g ++ [ov],by simp [t],Sl.own d,fun i b=>?_⟩,n⟩
  rw [Zaa4,List.length_singleton] at b
  by_cases q:i < m.length
  ·have:=(D i q).below n (Za4 _)
   rw [Za2,Za7 (by omega),←Za2,Za2 (l:=m ++ [p]),Za7 q,←Za2]
   exact this
  ·have y:i=m.length:=by omega
   subst y
   have G:(g ++ [ov]).getD m.length (.slice none 0 0)=ov:=by rw [←t]; simp
   have E:(m ++ [p]).getD m.length []=p:=by simp
   rw [G,E];exact ho.below n (Za4 _)
def flT(d:Nat)(P:List (List Int))(s k:Nat):Bool:=(List.range k).all fun i=>s.testBit i || !thr d P s i
theorem ZOD(d:Nat)(P:List (List Int))(s k:Nat):flT d P s (k+1)=(flT d P s k && (s.testBit k || !thr d P s k)):=by
 simp [flT,List.range_succ]
theorem ZRG{d:Nat}{P:List (List Int)}{s k n:Nat}(hk:k≤n)(h:flT d P s k=false):flT d P s n=false:=by
 unfold flT at h ⊢;rw [List.all_eq_false] at h ⊢;obtain ⟨i,a,h⟩:=h
 exact ⟨i,List.mem_range.2 (by have:=List.mem_range.1 a; omega),h⟩
theorem ZJy{B0:Nat}(d:Nat)(P:List (List Int))(c:List Int)(v u:Value)(w:World)(hd1:1≤d)(hd3:d≤3)(hG:∀p∈P,p.length=d+1∧∀z∈p,z.natAbs≤20)(h6:P.length≤6)(hc:c∈ZDX P.length)(hv0:Mat B0 27 3 w v P)(hu:Sl 0 3 w u (ZAB c)) :
  Calls Tryz.prog 52 #[.int .i64 d,v,u] w fun e w'=>e=.returned (.bool (flB d P (ZA5 c)))∧Below w.heap.size w w':=by
 have hv:Mat w.heap.size 27 3 w v P:=hv0.any (Za4 _);clear hv0;obtain ⟨vo,vc,rfl,_,_⟩:=ZAD hv;obtain ⟨uo,uc,rfl,_,_⟩:=ZAI hu;obtain ⟨hs,ak,ah⟩:=(ZBl h6).1 c hc
 obtain ⟨s,x⟩:∃s,s=ZA5 c:=⟨_,rfl⟩
 have hT:pks P [] c=plS P s:=by rw [x]; exact ZKu h6 hc
 have E:∀i,i < P.length→c.contains (i:Int)=s.testBit i:=fun i hi=>by rw [x]; exact ZPT h6 hc hi
 have aP:c.length≤6:=by
  rw [ak];unfold ZBH;rw [Zab1]
  exact Zaa8 (List.length_filter_le _ _) (by simpa using h6)
 have J:(plS P s).length=c.length:=by rw [←hT]; simp [pks]
 have j:∀p∈plS P s,p.length=d+1∧∀z∈p,z.natAbs≤20:=fun p hp=>by
  obtain ⟨i,U,_,rfl⟩:=ZCp.1 hp;exact hG _ (ZAg U)
 have aa:Hid (Calls Tryz.prog 54 #[.slice vo P.length vc,.slice uo c.length uc] w fun e w'=>∃T S,e=.returned (.slice T c.length S)∧Mat w.heap.size 27 3 w' (.slice T c.length S) (plS P s)∧Below w.heap.size w w'):=by
  refine (ZB6 w.heap.size P c _ _ w hv (hu.more (Za5 _)) (fun i hi=>ah _ (by simp [hi])) (by omega)).mono ?_
  rintro e w' ⟨z,rfl,y,hb⟩;have n:Mat w.heap.size 27 3 w' z (pks P [] c):=y.mat (Za4 _);rw [hT] at n;obtain ⟨T,S,rfl,_,_⟩:=ZAD n;rw [J] at n ⊢;exact ⟨T,S,rfl,n,hb⟩
 have Q:Hid (∀(wd:Nat) (z:Value) X,1≤wd→wd≤d+1→Mat w.heap.size 27 3 X z (plS P s)→Calls Tryz.prog 53 #[z,.int .i64 wd] X fun e w'=>e=.returned (.int .i64 (rk wd (plS P s):Nat))∧Below X.heap.size X w'):=fun wd z X U h2 y=>
  ZCO w.heap.size (d+1) wd (plS P s) z X h2 U (ZEi hd1 hd3 j) y (by omega)
 have aB:Hid (∀(i:Nat) (z:Value) X,i < P.length→Mat w.heap.size 27 3 X z (plS P s ++ [P.getD i []])→Calls Tryz.prog 53 #[z,.int .i64 ((d:Int)+1)] X fun e w'=>e=.returned (.int .i64 (rk (d+1) (plS P s ++ [P.getD i []]):Nat))∧Below X.heap.size X w'):=fun i z X hi y=>by
  have:=ZCO w.heap.size (d+1) (d+1) (plS P s ++ [P.getD i []]) z X (Za4 _) (by omega) (ZEi hd1 hd3 fun p hp=>by
   rcases List.mem_append.1 hp with hp | hp
   ·exact j p hp
   ·rw [List.mem_singleton.1 hp]; exact hG _ (ZAg hi)) y (by simp; omega)
  exact this
 have V:Hid (∀(i:Nat) X,i < P.length→Below w.heap.size w X→Calls Tryz.prog 84 #[.slice uo c.length uc,.int .i64 (i:Int)] X fun e w'=>e=.returned (.bool (s.testBit i))∧w'=X):=fun i X hi hX=>by
  rw [←E i hi];exact ZC7 0 i c _ X (hu.below hX (Za4 _))
 have ag:Hid (∀(i:Nat) (z m:Value) X,i < P.length→Mat w.heap.size 27 3 X z (plS P s)→Sl w.heap.size 3 X m (ZAB (P.getD i []))→Calls Tryz.prog 85 #[.slice (some ⟨X.heap.size+1,0,none⟩) 2 2] ((X.alloc (.cells #[m] 27)).alloc (.cells #[z,.slice (some ⟨X.heap.size,0,none⟩) 1 1] 22)) fun e w'=>∃yo yc,e=.returned (.slice yo (c.length+1) yc)∧Mat w.heap.size 27 3 w' (.slice yo (c.length+1) yc) (plS P s ++ [P.getD i []])∧Below X.heap.size X w'):=fun i z m X hi y ho=>by
  have:=ZIT w.heap.size (plS P s) (P.getD i []) z m X y ho (by omega)
  rw [J] at this;exact this
 have ai:Hid (∀i,i < P.length→∃b o m,vo=some ⟨b,o,none⟩∧(∃oo oc,m=.slice oo (d+1) oc)∧∀X,Below w.heap.size w X→X.cell? ⟨b,o+i,none⟩=some m∧Sl w.heap.size 3 X m (ZAB (P.getD i []))):=fun i hi=>by
  obtain ⟨b,o,cp,m,e1,_,U,h2⟩:=ZAP hv hi;simp only [Za3] at e1;obtain ⟨oo,oc,he,_,_⟩:=ZAI h2;rw [(hG _ (ZAg hi)).1] at he
  exact ⟨b,o,m,e1.1,⟨oo,oc,he⟩,fun X hX=>⟨(hX.cell (ZAH U)).trans U,h2.below hX (Za4 _)⟩⟩
 have ay:Hid (∀i,thr d P s i=(rk (d+1) (plS P s ++ [P.getD i []]) == rk (d+1) (plS P s))):=fun i=>rfl
 have A:Hid (flB d P s=(cen d P s && flT d P s P.length)):=rfl
 have r:Hid (cen d P s=!decide (rk d (plS P s) < rk (d+1) (plS P s))):=by
  show (rk d (plS P s) == rk (d+1) (plS P s))=_
  have:=ZKo d (plS P s);rw [Bool.eq_iff_iff];simp;omega
 rw [←x];have aS:=ZFP (d+1) (plS P s);have aR:=ZFP d (plS P s)
 have aw:Hid (∀i,rk (d+1) (plS P s ++ [P.getD i []])≤d+1):=fun i=>ZFP _ _
 have F:=aa;clear hv hu hs ak ah x hT E J j hc aa;generalize hRD:rk d (plS P s)=rd at *;generalize hRE:rk (d+1) (plS P s)=re at *;go_enter Tryz.func52,Tryz.ntmps52
 go_wp2_with fail
 refine F.out.mono ?_;rintro e l ⟨T,S,rfl,D,au⟩
 have K1:=Q.out (d+1) _ l (by omega) (by omega) D
 rw [hRE] at K1;have aE:=hid K1
 have am:Hid (∀X,Below l.heap.size l X→Calls Tryz.prog 53 #[.slice T c.length S,.int .i64 (d:Int)] X fun e w'=>e=.returned (.int .i64 (rd:Nat))∧Below X.heap.size X w'):=fun X hX=>by
  have:=Q.out d _ X hd1 (by omega) (D.below hX (Za4 _))
  rw [hRD] at this;exact this
 have HZ:=hid D;have f:=hid au;clear K1 D au F Q
 go_wp2_with fail
 refine aE.out.mono ?_;rintro e w2 ⟨rfl,af⟩;have B:=hid af;clear af aE
 go_wp2_with fail
 refine (am.out w2 B.out).mono ?_;rintro e w3 ⟨rfl,aA⟩;have ae:Hid (Below l.heap.size l w3):=B.out.trans (aA.mono B.out.size);clear aA am B
 by_cases hlt:rd < re
 ·have aC:(rd:Int) < (re:Int):=by omega
  have HF:Hid (flB d P s=false):=by
   show _=_
   rw [A.out,r.out]; simp [hlt]
  have O:Hid (Below w.heap.size w w3):=f.out.trans (ae.out.mono f.out.size);clear A r hlt aB V ag ai ay aw;go_wp2;go_ret;exact ⟨ZAX HF.out.symm,O.out⟩
 have aC:¬(rd:Int) < (re:Int):=by omega
 have aN:decide (rd < re)=false:=decide_eq_false hlt
 have HF:Hid (flB d P s=flT d P s P.length):=by
  show _=_
  rw [A.out,r.out]; simp [hlt]
 clear A r hlt;go_wp2
 go_loopw [25,9,10] (fun i _ _ wr=>∃k:Nat,k≤P.length∧i=.int .i64 (k:Int)∧flT d P s k=true∧Below l.heap.size l wr) (fun i _ _ _=>P.length-(intOf i).toNat)
 case atStart=>exact ⟨0,Za5 _,rfl,rfl,ae.out⟩
 case round=>
  obtain ⟨k,hk,rfl,aD,hb⟩:=hrel;have aF:=hid aD;have HB:=hid hb;have N:Hid (Below w.heap.size w wr):=f.out.trans (hb.mono f.out.size);clear aD hb
  by_cases hlt:k < P.length
  ·obtain ⟨b,o,m,aM,⟨oo,oc,aH⟩,hx⟩:=ai.out k hlt
   subst aM aH;obtain ⟨c1,aq⟩:=hx wr N.out;have g:=V.out k wr hlt N.out
   have aQ:(k:Int) < (P.length:Int):=by omega
   have a:=ZOD d P s k;have G:=ag.out k _ _ wr hlt (HZ.out.below HB.out (Za4 _)) aq;have M:=ay.out k;rw [aF.out,Bool.true_and] at a;clear aq hx
   cases hbt:s.testBit k
   ·rw [hbt] at g a
    rw [Bool.false_or,M] at a;have t:=hid a;clear a M;have aO:=aw.out k
    have Y:Hid (∀(z:Value) X,Mat w.heap.size 27 3 X z (plS P s ++ [P.getD k []])→Calls Tryz.prog 53 #[z,.int .i64 ((d:Int)+1)] X fun e w'=>e=.returned (.int .i64 (rk (d+1) (plS P s ++ [P.getD k []]):Nat))∧Below X.heap.size X w'):=fun z X y=>aB.out k z X hlt y
    generalize rk (d+1) (plS P s ++ [P.getD k []])=rn at *
    go_wp2_with fail
    refine g.mono ?_;rintro e w5 ⟨rfl,R⟩;subst R;clear g
    go_wp2_with fail
    refine G.mono ?_;rintro e w6 ⟨yo,yc,rfl,aj,aG⟩;have az:=Y.out _ w6 aj;have L:Hid (Below l.heap.size l w6):=HB.out.trans (aG.mono HB.out.size);clear aj aG G
    go_wp2_with fail
    refine az.mono ?_;rintro e w7 ⟨rfl,an⟩;have ar:Hid (Below l.heap.size l w7):=L.out.trans (an.mono L.out.size);clear az an L
    by_cases hq:rn=re
    ·have aJ:((rn:Int) == (re:Int))=true:=by simp [hq]
     have aL:Hid (flB d P s=false):=by
      show _=_
      rw [HF.out]
      refine ZRG (k:=k+1) (by omega) ?_
      rw [t.out]; simp [hq]
     have O:Hid (Below w.heap.size w w7):=f.out.trans (ar.out.mono f.out.size);clear hq;go_wp2;go_ret;exact ⟨ZAX aL.out.symm,O.out⟩
    ·have aJ:((rn:Int) == (re:Int))=false:=by simp; omega
     have aI:Hid (flT d P s (k+1)=true):=by
      show _=_
      rw [t.out]; simp [hq]
     clear hq;go_wp2
     go_roundw
     case rel=>exact ⟨k+1,by omega,by go_num,aI.out,ar.out⟩
     case measure=>simp [intOf]; omega
   ·rw [hbt] at g a
    have t:Hid (flT d P s (k+1)=true):=by rw [a]; rfl
    clear a M G
    go_wp2_with fail
    refine g.mono ?_;rintro e w5 ⟨rfl,R⟩;subst R;clear g;go_wp2
    go_roundw
    case rel=>exact ⟨k+1,by omega,by go_num,t.out,HB.out⟩
    case measure=>simp [intOf]; omega
  ·have aK:k=P.length:=by omega
   subst aK;go_wp2;go_ret
   exact ⟨ZAX (by rw [HF.out,aF.out]),N.out⟩
end Go.Proofs.YtkjkfceblmgogaaGreat
