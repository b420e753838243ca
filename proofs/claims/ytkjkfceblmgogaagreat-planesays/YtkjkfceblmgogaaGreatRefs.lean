import Derived.Test.YtkjkfceblmgogaaGreatCycAll
import Derived.Laws.AppendOwnNone
import Derived.Test.YtkjkfceblmgogaaGreatLinAll
namespace Go.Proofs.YtkjkfceblmgogaaGreat
set_option maxRecDepth 100000
set_option maxHeartbeats 800000
open Go.RowKit
theorem ZB2(l:List Int):∀u∈ZAB l,u.oneCell'=true:=by
 intro u a; simp only [ZAB,List.mem_map] at a; obtain ⟨z,_,rfl⟩:=a; rfl
theorem ZDr{B:Nat}{e:TypeId}{w:World}{a:Addr}{n cap:Nat}{xs:List Value}(h:Sl B e w (.slice (some a) n cap) xs)(o:Obj):∀j u,xs[j]?=some u→(w.alloc o).cell? (a.add j)=some u:=by
 intro j u f
 have d:j < xs.length:=by
  rcases Nat.lt_or_ge j xs.length with h' | h'
  ·exact h'
  ·rw [Zaa6 h'] at f; cases f
 obtain ⟨p,c,hv,m,r,l,s⟩:=h.alloc o;simp only [Za3] at hv;obtain ⟨rfl,_,rfl⟩:=hv;obtain ⟨b,t,g,i,_⟩:=l j d;simp only [Zaa9] at g;subst g;rw [←f,←i]
 by_cases hj0:j=0
 ·subst hj0; simp [Addr.add]
 ·simp [Addr.add,hj0]
theorem ZBj(B:Nat)(l:List Int)(v:Value)(w:World)(hv:Sl B 3 w v (ZAB l))(hl:l.length≤1000000) :
  Calls Tryz.prog 22 #[v] w fun e w'=>∃u,e=.returned u∧w'.ownsRow w.heap.size 3 1 u l.length (ZAB l)∧Below w.heap.size w w':=by
 obtain ⟨D,d,j,g,m⟩:=info_parts Tryz.info3;have r:=hv;obtain ⟨A,n,f,t,F,c,b⟩:=r;simp only [ZA2] at f t;subst f;have E:Hid (Sl B 3 w (.slice A l.length n) (ZAB l)):=hv;clear c hv
 have s:Hid ((w.alloc (.cells #[] 3)).ownsRow w.heap.size 3 1 (.slice (some ⟨w.heap.size,0,none⟩) 0 0) 0 []):=
  World.ownsRow_made w #[] 0 (Za4 _) (by simp [maxLen]) (by simp)
 cases A with
 | none=>
  have p:=b rfl;subst p
  have o:l=[]:=List.eq_nil_of_length_eq_zero (by omega)
  subst o;go_enter Tryz.func22,Tryz.ntmps22
  go_wp2_with (first | (at_builtin; refine wpList_append_own_none rfl _ _ 27 rfl w.heap.size 3 D 1 Tryz.underlying27 d _ _ _ rfl s.out rfl ?_))
  go_ret;exact ⟨_,rfl,s.out,(Below.refl _ _).alloc (Za4 _) _⟩
 | some a=>
  clear b;go_enter Tryz.func22,Tryz.ntmps22
  go_wp2_with (first | (at_builtin; refine wpList_append_own _ rfl _ _ 27 rfl w.heap.size 3 D (.int .i64 0) 1 8 Tryz.underlying27 d j g m rfl (by decide) _ _ _ rfl s.out a l.length n (ZAB l) rfl (by simp) (ZDr E.out _) (ZB2 l) ?c3 ?c4 ?c5 ?_))
  case c3=>unfold maxLen; omega
  case c4=>omega
  case c5=>simp
  intro L x y z _
  have i:x.ownsRow w.heap.size 3 1 L l.length (ZAB l):=by simpa using y
  have G:=hid i
  have J:Hid (Below w.heap.size w x):=((Below.refl _ _).alloc (Za4 _) _).grown z (by simp) (fun k hk=>by simp [Value.ownBlock] at hk; omega)
  clear y i z;go_wp2;go_ret;exact ⟨_,rfl,G.out,J.out⟩
theorem ZFj(f:Int→Int)(l:List Int)(k:Nat)(h:k < l.length):(l.map f).take (k+1)=(l.map f).take k ++ [f l[k]]:=by
 rw [Zaa1 (by simpa using h)]; simp
theorem ZBq(B:Nat)(l:List Int)(v:Value)(w:World)(hv:Sl B 3 w v (ZAB l))(hl:l.length≤1000000)(hb:∀z∈l,-4611686018427387904≤z∧z≤4611686018427387904) :
  Calls Tryz.prog 23 #[v] w fun e w'=>∃u,e=.returned u∧w'.ownsRow w.heap.size 3 1 u l.length (ZAB (l.map fun z=>-z))∧Below w.heap.size w w':=by
 obtain ⟨Y,n,g,f,j⟩:=info_parts Tryz.info3;obtain ⟨X,D,p,V,O⟩:=ZAI hv;subst p;have M:Hid (Sl B 3 w (.slice X l.length D) (ZAB l)):=hv;have r:=hid hb;clear hv hb;go_enter Tryz.func23,Tryz.ntmps23;go_wp2
 go_loopw [3,4] (fun x i wr=>∃k:Nat,k≤l.length∧i=.int .i64 k∧wr.ownsRow w.heap.size 3 1 x k (ZAB ((l.map fun z=>-z).take k))∧Below w.heap.size w wr) (fun _ i _=>l.length-(intOf i).toNat)
 case atStart=>exact ⟨0,Za5 _,rfl,World.ownsRow_nil _ _ _ _,Below.refl _ _⟩
 case round=>
  obtain ⟨k,hk,rfl,c,a⟩:=hrel;have s:=hid c;have A:=hid a;have t:w.heap.size≤wr.heap.size:=a.size;clear c a
  by_cases hlt:k < l.length
  ·obtain ⟨b,o,cp,G,P,S⟩:=ZAK (M.out.below A.out (Za4 _)) hlt
   simp only [Za3] at G;obtain ⟨rfl,_,rfl⟩:=G;have Q:=r.out l[k] (List.getElem_mem hlt)
   go_wp2_with (first | (at_builtin; refine wpList_append_own _ rfl _ _ 27 rfl w.heap.size 3 Y (.int .i64 0) 1 8 Tryz.underlying27 n g f j rfl (by decide) _ _ _ rfl (s.out.alloc _) ⟨wr.heap.size,0,none⟩ 1 1 [.int .i64 (-l[k])] rfl rfl (ZAS _ _ _) (ZA6 _) ?c3 ?c4 ?c5 ?_))
   case c3=>unfold maxLen; omega
   case c4=>omega
   case c5=>simp; omega
   intro U E F J _
   have d:((l.map fun z=>-z).take k).length=k:=by simp; omega
   have R:=ZBR (z:=-l[k]) (N:=k+1) t (l:=(l.map fun z=>-z).take k) (by rw [d]; exact s.out) A.out (by rw [d]; exact F) J (by rw [d])
   have T:Hid (E.ownsRow w.heap.size 3 1 U (k+1) (ZAB ((l.map fun z=>-z).take (k+1)))):=by have:=R.1; rw [←ZFj (fun z=>-z) l k hlt] at this; exact this
   have L:Hid (Below w.heap.size w E):=R.2;clear R F J;go_wp2
   go_roundw
   case rel=>exact ⟨k+1,by omega,by go_num,T.out,L.out⟩
   case measure=>simp [intOf]; omega
  ·have y:k=l.length:=by omega
   go_wp2;go_ret;have m:=s.out
   rw [Zaa2 (by simp; omega),y] at m
   exact ⟨_,rfl,m,A.out⟩
theorem ZKN(l:List Int)(k:Nat)(h:k < l.length):Lin.gc (l.take (k+1))=Nat.gcd (Lin.gc (l.take k)) (l[k]).natAbs:=by
 rw [Zaa1 h]; unfold Lin.gc Lin.gcf; rw [List.foldl_append]; rfl
theorem ZMs{l:List Int}{b:Nat}(h:∀z∈l,z.natAbs≤b):Lin.gc l≤b:=by
 by_cases h0:∃z∈l,z≠0
 ·obtain ⟨z,a,c⟩:=h0
  have f:=Lin.gc_dvd a;have i:Lin.gc l ∣ z.natAbs:=Int.ofNat_dvd_left.1 f
  have:=Nat.le_of_dvd (by omega) i
  have:=h z a;omega
 ·have:∀g,g=0→Lin.gcf g l=0:=by
   intro g d;subst d
   have a:∀z∈l,z=0:=by
    intro z a
    apply Za6
    intro c;exact h0 ⟨z,a,c⟩
   clear h h0
   induction l with
   | nil=>rfl
   | cons v l ih=>
    have:v=0:=a v (by simp)
    subst this
    have:=ih fun z hz'=>a z (by simp [hz'])
    simpa [Lin.gcf] using this
  have:=this 0 rfl;unfold Lin.gc; omega
theorem ZJR(B:Nat)(l:List Int)(v:Value)(w:World)(hv:Sl B 3 w v (ZAB l))(hb:∀z∈l,z.natAbs≤4611686018427387904) :
  Calls Tryz.prog 95 #[v] w fun e w'=>e=.returned (.int .i64 (Lin.gc l))∧w'=w:=by
 obtain ⟨N,r,n,M,A⟩:=ZAI hv;subst n;have t:Hid (Sl B 3 w (.slice N l.length r) (ZAB l)):=hv;have d:=hid hb;clear hv hb;go_enter Tryz.func95,Tryz.ntmps95;go_wp2
 go_loop [3,4] (fun g i=>∃k:Nat,k≤l.length∧i=.int .i64 k∧g=.int .i64 (Lin.gc (l.take k))) (fun _ i=>l.length-(intOf i).toNat)
 case atStart=>exact ⟨0,Za5 _,rfl,rfl⟩
 case round=>
  obtain ⟨k,O,rfl,rfl⟩:=hrel
  by_cases hlt:k < l.length
  ·obtain ⟨b,o,P,s,F,J⟩:=ZAK t.out hlt
   simp only [Za3] at s;obtain ⟨rfl,_,rfl⟩:=s;have p:=d.out l[k] (List.getElem_mem hlt);have E:Hid (Lin.gc (l.take (k+1))=Nat.gcd (Lin.gc (l.take k)) (l[k]).natAbs):=ZKN l k hlt;generalize hgk:Lin.gc (l.take k)=g0;have j:=hid hgk
   have m:g0≤4611686018427387904:=by rw [←hgk]; exact ZMs fun z hz=>d.out z (Zaa7 hz)
   clear hgk
   by_cases hneg:l[k] < 0
   all_goals
    go_wp2
    go_loop [3,5,6] (fun g a _=>∃x y:Nat,g=.int .i64 x∧a=.int .i64 y∧x≤4611686018427387904∧y≤4611686018427387904∧Nat.gcd x y=Nat.gcd g0 (l[k]).natAbs) (fun _ a _=>(intOf a).toNat)
    case atStart=>exact ⟨g0,(l[k]).natAbs,rfl,by go_num,m,p,rfl⟩
    case round=>
     obtain ⟨x,y,rfl,rfl,R,G,c⟩:=hrel;have f:=hid c;clear c
     by_cases hy0:y=0
     ·subst hy0
      go_wp2
      go_round
      case rel=>exact ⟨k+1,by omega,by go_num,by rw [E.out,j.out,←f.out,Nat.gcd_zero_right]⟩
      case measure=>simp [intOf]; omega
     ·have L:((y:Int) != 0)=true:=by simp; omega
      go_wp2
      go_round
      case rel=>
       refine ⟨y,x % y,rfl,by rw [Int.natCast_emod],G,?_,?_⟩
       ·have:=Nat.mod_lt x (show 0 < y by omega); omega
       ·rw [←f.out,Nat.gcd_comm x y,Nat.gcd_rec y x,Nat.gcd_comm]
      case measure=>
       have Q:=Nat.mod_lt x (show 0 < y by omega)
       have D:((x:Int) % (y:Int))=((x % y:Nat):Int):=by rw [Int.natCast_emod]
       simp only [intOf]; rw [D]; omega
  ·go_wp2
   go_ret
   have e:l.take k=l:=Zaa2 (by omega)
   exact ⟨ZBA (by rw [e]),rfl⟩
theorem ZMt{l:List Int}{z:Int}(h:z∈l)(hg:1 < Lin.gc l):z.tdiv (Lin.gc l)=z / (Lin.gc l:Int):=by
 obtain ⟨q,rfl⟩:=Lin.gc_dvd h
 have:(Lin.gc l:Int)≠0:=by omega
 rw [Int.mul_tdiv_cancel_left q this,Int.mul_ediv_cancel_left q this]
theorem ZGY{l:List Int}{z:Int}(h:z∈l)(hg:Lin.gc l≤1):z / (Lin.gc l:Int)=z:=by
 by_cases h1:Lin.gc l=1
 ·rw [h1]; simp
 ·have b:Lin.gc l=0:=by omega
  obtain ⟨q,a⟩:=Lin.gc_dvd h;rw [b] at a ⊢;simp at a ⊢;omega
theorem ZD8(B:Nat)(l:List Int)(v:Value)(w:World)(hv:Sl B 3 w v (ZAB l))(hl:l.length≤1000000)(hb:∀z∈l,z.natAbs≤4611686018427387904) :
  Calls Tryz.prog 69 #[v] w fun e w'=>∃u,e=.returned u∧w'.ownsRow w.heap.size 3 1 u l.length (ZAB (Lin.low l))∧Below w.heap.size w w':=by
 obtain ⟨i3,s,p,j,r⟩:=info_parts Tryz.info3;obtain ⟨ao,U,P,ah,aa⟩:=ZAI hv;subst P;have X:Hid (Sl B 3 w (.slice ao l.length U) (ZAB l)):=hv;have D:=hid hb;have M:Lin.gc l≤4611686018427387904:=ZMs hb;clear hv hb
 obtain ⟨g,d⟩:∃g,g=Lin.gc l:=⟨_,rfl⟩
 have Q:=hid d;go_enter Tryz.func69,Tryz.ntmps69
 go_wp2_with fail
 refine (ZJR B l _ w X.out D.out).mono ?_;rintro e w' ⟨rfl,rfl⟩;rw [←d] at M ⊢;clear d;go_wp2
 go_loopw [4,5,6] (fun x i _ wr=>∃k:Nat,k≤l.length∧i=.int .i64 k∧wr.ownsRow w'.heap.size 3 1 x k (ZAB ((Lin.low l).take k))∧Below w'.heap.size w' wr) (fun _ i _ _=>l.length-(intOf i).toNat)
 case atStart=>exact ⟨0,Za5 _,rfl,World.ownsRow_nil _ _ _ _,Below.refl _ _⟩
 case round=>
  obtain ⟨k,hk,rfl,n,c⟩:=hrel;have E:=hid n;have L:=hid c;have F:w'.heap.size≤wr.heap.size:=c.size;clear n c
  by_cases hlt:k < l.length
  ·obtain ⟨b,o,cp,Y,ae,ag⟩:=ZAK (X.out.below L.out (Za4 _)) hlt
   simp only [Za3] at Y;obtain ⟨rfl,_,rfl⟩:=Y;have af:=D.out l[k] (List.getElem_mem hlt);have m:l[k]∈l:=List.getElem_mem hlt;have f:=hid m;clear m
   have G:((Lin.low l).take k).length=k:=by simp [Lin.low]; omega
   have a:=hid G;clear G
   have t:Hid ((Lin.low l).take (k+1)=(Lin.low l).take k ++ [l[k] / (Lin.gc l:Int)]):=ZFj (fun z=>z / (Lin.gc l:Int)) l k hlt
   by_cases hg1:1 < g
   ·go_wp2_with (first | (at_builtin; refine wpList_append_own _ rfl _ _ 27 rfl w'.heap.size 3 i3 (.int .i64 0) 1 8 Tryz.underlying27 s p j r rfl (by decide) _ _ _ rfl (E.out.alloc _) ⟨wr.heap.size,0,none⟩ 1 1 [.int .i64 (l[k].tdiv g)] rfl rfl (ZAS _ _ _) (ZA6 _) ?c3 ?c4 ?c5 ?_))
    case c3=>unfold maxLen; omega
    case c4=>omega
    case c5=>simp; omega
    intro V y A d _
    have R:=ZBR (z:=l[k].tdiv g) (N:=k+1) F (l:=(Lin.low l).take k) (by rw [a.out]; exact E.out) L.out (by rw [a.out]; exact A) d (by rw [a.out])
    have S:Hid (y.ownsRow w'.heap.size 3 1 V (k+1) (ZAB ((Lin.low l).take (k+1)))):=by
     have:=R.1
     rw [Q.out,ZMt f.out (by rw [←Q.out]; exact hg1),←t.out] at this; exact this
    have O:Hid (Below w'.heap.size w' y):=R.2;clear R A d;go_wp2
    go_roundw
    case rel=>exact ⟨k+1,by omega,by go_num,S.out,O.out⟩
    case measure=>simp [intOf]; omega
   ·go_wp2_with (first | (at_builtin; refine wpList_append_own _ rfl _ _ 27 rfl w'.heap.size 3 i3 (.int .i64 0) 1 8 Tryz.underlying27 s p j r rfl (by decide) _ _ _ rfl (E.out.alloc _) ⟨wr.heap.size,0,none⟩ 1 1 [.int .i64 l[k]] rfl rfl (ZAS _ _ _) (ZA6 _) ?d3 ?d4 ?d5 ?_))
    case d3=>unfold maxLen; omega
    case d4=>omega
    case d5=>simp; omega
    intro V y A d _
    have R:=ZBR (z:=l[k]) (N:=k+1) F (l:=(Lin.low l).take k) (by rw [a.out]; exact E.out) L.out (by rw [a.out]; exact A) d (by rw [a.out])
    have S:Hid (y.ownsRow w'.heap.size 3 1 V (k+1) (ZAB ((Lin.low l).take (k+1)))):=by
     have h1:=R.1
     rw [t.out,ZGY f.out (by rw [←Q.out]; omega)]; exact h1
    have O:Hid (Below w'.heap.size w' y):=R.2;clear R A d;go_wp2
    go_roundw
    case rel=>exact ⟨k+1,by omega,by go_num,S.out,O.out⟩
    case measure=>simp [intOf]; omega
  ·have T:k=l.length:=by omega
   go_wp2;go_ret;have J:=E.out
   rw [Zaa2 (by simp [Lin.low]; omega),T] at J
   exact ⟨_,rfl,J,L.out⟩
end Go.Proofs.YtkjkfceblmgogaaGreat
