import Derived.Test.YtgfnmkenpgnllaaGreatCycAll
import Derived.Laws.AppendOwnNone
import Derived.Test.YtgfnmkenpgnllaaGreatLinAll
namespace Go.Proofs.YtgfnmkenpgnllaaGreat
set_option maxRecDepth 100000
set_option maxHeartbeats 800000
open Go.RowKit
theorem ZB1(l:List Int):∀u∈ZAB l,u.oneCell'=true:=by
 intro u a; simp only [ZAB,List.mem_map] at a; obtain ⟨z,_,rfl⟩:=a; rfl
theorem ZDt{B:Nat}{e:TypeId}{w:World}{a:Addr}{n cap:Nat}{xs:List Value}(h:Sl B e w (.slice (some a) n cap) xs)(o:Obj):∀j u,xs[j]?=some u→(w.alloc o).cell? (a.add j)=some u:=by
 intro j u d
 have f:j < xs.length:=by
  rcases Nat.lt_or_ge j xs.length with h' | h'
  ·exact h'
  ·rw [Zaa6 h'] at d; cases d
 obtain ⟨t,c,hv,m,s,i,p⟩:=h.alloc o;simp only [Za3] at hv;obtain ⟨rfl,_,rfl⟩:=hv;obtain ⟨b,r,g,l,_⟩:=i j f;simp only [Zaa9] at g;subst g;rw [←d,←l]
 by_cases hj0:j=0
 ·subst hj0; simp [Addr.add]
 ·simp [Addr.add,hj0]
theorem ZBh(B:Nat)(l:List Int)(v:Value)(w:World)(hv:Sl B 3 w v (ZAB l))(hl:l.length≤1000000) :
  Calls Tryz.prog 27 #[v] w fun e w'=>∃u,e=.returned u∧w'.ownsRow w.heap.size 3 1 u l.length (ZAB l)∧Below w.heap.size w w':=by
 obtain ⟨D,g,j,m,f⟩:=info_parts Tryz.info3;have t:=hv;obtain ⟨A,i,d,p,J,c,b⟩:=t;simp only [ZA1] at d p;subst d;have E:Hid (Sl B 3 w (.slice A l.length i) (ZAB l)):=hv;clear c hv
 have o:Hid ((w.alloc (.cells #[] 3)).ownsRow w.heap.size 3 1 (.slice (some ⟨w.heap.size,0,none⟩) 0 0) 0 []):=
  World.ownsRow_made w #[] 0 (Za4 _) (by simp [maxLen]) (by simp)
 cases A with
 | none=>
  have r:=b rfl;subst r
  have s:l=[]:=List.eq_nil_of_length_eq_zero (by omega)
  subst s;go_enter Tryz.func27,Tryz.ntmps27
  go_wp2_with (first | (at_builtin; refine wpList_append_own_none rfl _ _ 22 rfl w.heap.size 3 D 1 Tryz.underlying22 g _ _ _ rfl o.out rfl ?_))
  go_ret;exact ⟨_,rfl,o.out,(Below.refl _ _).alloc (Za4 _) _⟩
 | some a=>
  clear b;go_enter Tryz.func27,Tryz.ntmps27
  go_wp2_with (first | (at_builtin; refine wpList_append_own _ rfl _ _ 22 rfl w.heap.size 3 D (.int .i64 0) 1 8 Tryz.underlying22 g j m f rfl (by decide) _ _ _ rfl o.out a l.length i (ZAB l) rfl (by simp) (ZDt E.out _) (ZB1 l) ?c3 ?c4 ?c5 ?_))
  case c3=>unfold maxLen; omega
  case c4=>omega
  case c5=>simp
  intro G y x z _
  have n:y.ownsRow w.heap.size 3 1 G l.length (ZAB l):=by simpa using x
  have F:=hid n
  have L:Hid (Below w.heap.size w y):=((Below.refl _ _).alloc (Za4 _) _).grown z (by simp) (fun k hk=>by simp [Value.ownBlock] at hk; omega)
  clear x n z;go_wp2;go_ret;exact ⟨_,rfl,F.out,L.out⟩
theorem ZFc(f:Int→Int)(l:List Int)(k:Nat)(h:k < l.length):(l.map f).take (k+1)=(l.map f).take k ++ [f l[k]]:=by
 rw [Zaa1 (by simpa using h)]; simp
theorem ZBo(B:Nat)(l:List Int)(v:Value)(w:World)(hv:Sl B 3 w v (ZAB l))(hl:l.length≤1000000)(hb:∀z∈l,-4611686018427387904≤z∧z≤4611686018427387904) :
  Calls Tryz.prog 28 #[v] w fun e w'=>∃u,e=.returned u∧w'.ownsRow w.heap.size 3 1 u l.length (ZAB (l.map fun z=>-z))∧Below w.heap.size w w':=by
 obtain ⟨Y,r,j,m,f⟩:=info_parts Tryz.info3;obtain ⟨X,t,n,L,S⟩:=ZAH hv;subst n;have M:Hid (Sl B 3 w (.slice X l.length t) (ZAB l)):=hv;have p:=hid hb;clear hv hb;go_enter Tryz.func28,Tryz.ntmps28;go_wp2
 go_loopw [3,4] (fun x i wr=>∃k:Nat,k≤l.length∧i=.int .i64 k∧wr.ownsRow w.heap.size 3 1 x k (ZAB ((l.map fun z=>-z).take k))∧Below w.heap.size w wr) (fun _ i _=>l.length-(intOf i).toNat)
 case atStart=>exact ⟨0,Za5 _,rfl,World.ownsRow_nil _ _ _ _,Below.refl _ _⟩
 case round=>
  obtain ⟨k,hk,rfl,c,a⟩:=hrel;have s:=hid c;have A:=hid a;have y:w.heap.size≤wr.heap.size:=a.size;clear c a
  by_cases hlt:k < l.length
  ·obtain ⟨b,o,cp,J,V,U⟩:=ZAJ (M.out.below A.out (Za4 _)) hlt
   simp only [Za3] at J;obtain ⟨rfl,_,rfl⟩:=J;have T:=p.out l[k] (List.getElem_mem hlt)
   go_wp2_with (first | (at_builtin; refine wpList_append_own _ rfl _ _ 22 rfl w.heap.size 3 Y (.int .i64 0) 1 8 Tryz.underlying22 r j m f rfl (by decide) _ _ _ rfl (s.out.alloc _) ⟨wr.heap.size,0,none⟩ 1 1 [.int .i64 (-l[k])] rfl rfl (ZAQ _ _ _) (ZA2 _) ?c3 ?c4 ?c5 ?_))
   case c3=>unfold maxLen; omega
   case c4=>omega
   case c5=>simp; omega
   intro Q F E G _
   have d:((l.map fun z=>-z).take k).length=k:=by simp; omega
   have R:=ZBN (z:=-l[k]) (N:=k+1) y (l:=(l.map fun z=>-z).take k) (by rw [d]; exact s.out) A.out (by rw [d]; exact E) G (by rw [d])
   have P:Hid (F.ownsRow w.heap.size 3 1 Q (k+1) (ZAB ((l.map fun z=>-z).take (k+1)))):=by have:=R.1; rw [←ZFc (fun z=>-z) l k hlt] at this; exact this
   have O:Hid (Below w.heap.size w F):=R.2;clear R E G;go_wp2
   go_roundw
   case rel=>exact ⟨k+1,by omega,by go_num,P.out,O.out⟩
   case measure=>simp [intOf]; omega
  ·have D:k=l.length:=by omega
   go_wp2;go_ret;have g:=s.out
   rw [Zaa2 (by simp; omega),D] at g
   exact ⟨_,rfl,g,A.out⟩
theorem ZJ7(l:List Int)(k:Nat)(h:k < l.length):Lin.gc (l.take (k+1))=Nat.gcd (Lin.gc (l.take k)) (l[k]).natAbs:=by
 rw [Zaa1 h]; unfold Lin.gc Lin.gcf; rw [List.foldl_append]; rfl
theorem ZMZ{l:List Int}{b:Nat}(h:∀z∈l,z.natAbs≤b):Lin.gc l≤b:=by
 by_cases h0:∃z∈l,z≠0
 ·obtain ⟨z,a,c⟩:=h0
  have d:=Lin.gc_dvd a;have i:Lin.gc l ∣ z.natAbs:=Int.ofNat_dvd_left.1 d
  have:=Nat.le_of_dvd (by omega) i
  have:=h z a;omega
 ·have:∀g,g=0→Lin.gcf g l=0:=by
   intro g f;subst f
   have a:∀z∈l,z=0:=by
    intro z a
    apply Za6
    intro c;exact h0 ⟨z,a,c⟩
   clear h h0
   induction l with
   | nil=>rfl
   | cons v l ih=>
    have:v=0:=a v (by simp)
    subst this
    have:=ih fun z hz'=>a z (by simp [hz'])
    simpa [Lin.gcf] using this
  have:=this 0 rfl;unfold Lin.gc; omega
theorem ZJD(B:Nat)(l:List Int)(v:Value)(w:World)(hv:Sl B 3 w v (ZAB l))(hb:∀z∈l,z.natAbs≤4611686018427387904) :
  Calls Tryz.prog 100 #[v] w fun e w'=>e=.returned (.int .i64 (Lin.gc l))∧w'=w:=by
 obtain ⟨M,r,j,A,F⟩:=ZAH hv;subst j;have E:Hid (Sl B 3 w (.slice M l.length r) (ZAB l)):=hv;have c:=hid hb;clear hv hb;go_enter Tryz.func100,Tryz.ntmps100;go_wp2
 go_loop [3,4] (fun g i=>∃k:Nat,k≤l.length∧i=.int .i64 k∧g=.int .i64 (Lin.gc (l.take k))) (fun _ i=>l.length-(intOf i).toNat)
 case atStart=>exact ⟨0,Za5 _,rfl,rfl⟩
 case round=>
  obtain ⟨k,Q,rfl,rfl⟩:=hrel
  by_cases hlt:k < l.length
  ·obtain ⟨b,o,P,s,J,G⟩:=ZAJ E.out hlt
   simp only [Za3] at s;obtain ⟨rfl,_,rfl⟩:=s;have n:=c.out l[k] (List.getElem_mem hlt);have L:Hid (Lin.gc (l.take (k+1))=Nat.gcd (Lin.gc (l.take k)) (l[k]).natAbs):=ZJ7 l k hlt;generalize hgk:Lin.gc (l.take k)=g0;have m:=hid hgk
   have p:g0≤4611686018427387904:=by rw [←hgk]; exact ZMZ fun z hz=>c.out z (Zaa7 hz)
   clear hgk
   by_cases hneg:l[k] < 0
   all_goals
    go_wp2
    go_loop [3,5,6] (fun g a _=>∃x y:Nat,g=.int .i64 x∧a=.int .i64 y∧x≤4611686018427387904∧y≤4611686018427387904∧Nat.gcd x y=Nat.gcd g0 (l[k]).natAbs) (fun _ a _=>(intOf a).toNat)
    case atStart=>exact ⟨g0,(l[k]).natAbs,rfl,by go_num,p,n,rfl⟩
    case round=>
     obtain ⟨x,y,rfl,rfl,O,t,d⟩:=hrel;have f:=hid d;clear d
     by_cases hy0:y=0
     ·subst hy0
      go_wp2
      go_round
      case rel=>exact ⟨k+1,by omega,by go_num,by rw [L.out,m.out,←f.out,Nat.gcd_zero_right]⟩
      case measure=>simp [intOf]; omega
     ·have D:((y:Int) != 0)=true:=by simp; omega
      go_wp2
      go_round
      case rel=>
       refine ⟨y,x % y,rfl,by rw [Int.natCast_emod],t,?_,?_⟩
       ·have:=Nat.mod_lt x (show 0 < y by omega); omega
       ·rw [←f.out,Nat.gcd_comm x y,Nat.gcd_rec y x,Nat.gcd_comm]
      case measure=>
       have R:=Nat.mod_lt x (show 0 < y by omega)
       have N:((x:Int) % (y:Int))=((x % y:Nat):Int):=by rw [Int.natCast_emod]
       simp only [intOf]; rw [N]; omega
  ·go_wp2
   go_ret
   have e:l.take k=l:=Zaa2 (by omega)
   exact ⟨ZA9 (by rw [e]),rfl⟩
theorem ZMa{l:List Int}{z:Int}(h:z∈l)(hg:1 < Lin.gc l):z.tdiv (Lin.gc l)=z / (Lin.gc l:Int):=by
 obtain ⟨q,rfl⟩:=Lin.gc_dvd h
 have:(Lin.gc l:Int)≠0:=by omega
 rw [Int.mul_tdiv_cancel_left q this,Int.mul_ediv_cancel_left q this]
theorem ZGO{l:List Int}{z:Int}(h:z∈l)(hg:Lin.gc l≤1):z / (Lin.gc l:Int)=z:=by
 by_cases h1:Lin.gc l=1
 ·rw [h1]; simp
 ·have b:Lin.gc l=0:=by omega
  obtain ⟨q,a⟩:=Lin.gc_dvd h;rw [b] at a ⊢;simp at a ⊢;omega
theorem ZEB(B:Nat)(l:List Int)(v:Value)(w:World)(hv:Sl B 3 w v (ZAB l))(hl:l.length≤1000000)(hb:∀z∈l,z.natAbs≤4611686018427387904) :
  Calls Tryz.prog 74 #[v] w fun e w'=>∃u,e=.returned u∧w'.ownsRow w.heap.size 3 1 u l.length (ZAB (Lin.low l))∧Below w.heap.size w w':=by
 obtain ⟨i3,y,p,r,j⟩:=info_parts Tryz.info3;obtain ⟨ao,U,M,aa,ae⟩:=ZAH hv;subst M;have X:Hid (Sl B 3 w (.slice ao l.length U) (ZAB l)):=hv;have s:=hid hb;have S:Lin.gc l≤4611686018427387904:=ZMZ hb;clear hv hb
 obtain ⟨g,d⟩:∃g,g=Lin.gc l:=⟨_,rfl⟩
 have T:=hid d;go_enter Tryz.func74,Tryz.ntmps74
 go_wp2_with fail
 refine (ZJD B l _ w X.out s.out).mono ?_;rintro e w' ⟨rfl,rfl⟩;rw [←d] at S ⊢;clear d;go_wp2
 go_loopw [4,5,6] (fun x i _ wr=>∃k:Nat,k≤l.length∧i=.int .i64 k∧wr.ownsRow w'.heap.size 3 1 x k (ZAB ((Lin.low l).take k))∧Below w'.heap.size w' wr) (fun _ i _ _=>l.length-(intOf i).toNat)
 case atStart=>exact ⟨0,Za5 _,rfl,World.ownsRow_nil _ _ _ _,Below.refl _ _⟩
 case round=>
  obtain ⟨k,hk,rfl,m,c⟩:=hrel;have A:=hid m;have L:=hid c;have G:w'.heap.size≤wr.heap.size:=c.size;clear m c
  by_cases hlt:k < l.length
  ·obtain ⟨b,o,cp,Y,ah,ag⟩:=ZAJ (X.out.below L.out (Za4 _)) hlt
   simp only [Za3] at Y;obtain ⟨rfl,_,rfl⟩:=Y;have af:=s.out l[k] (List.getElem_mem hlt);have n:l[k]∈l:=List.getElem_mem hlt;have f:=hid n;clear n
   have J:((Lin.low l).take k).length=k:=by simp [Lin.low]; omega
   have a:=hid J;clear J
   have E:Hid ((Lin.low l).take (k+1)=(Lin.low l).take k ++ [l[k] / (Lin.gc l:Int)]):=ZFc (fun z=>z / (Lin.gc l:Int)) l k hlt
   by_cases hg1:1 < g
   ·go_wp2_with (first | (at_builtin; refine wpList_append_own _ rfl _ _ 22 rfl w'.heap.size 3 i3 (.int .i64 0) 1 8 Tryz.underlying22 y p r j rfl (by decide) _ _ _ rfl (A.out.alloc _) ⟨wr.heap.size,0,none⟩ 1 1 [.int .i64 (l[k].tdiv g)] rfl rfl (ZAQ _ _ _) (ZA2 _) ?c3 ?c4 ?c5 ?_))
    case c3=>unfold maxLen; omega
    case c4=>omega
    case c5=>simp; omega
    intro Q F D d _
    have R:=ZBN (z:=l[k].tdiv g) (N:=k+1) G (l:=(Lin.low l).take k) (by rw [a.out]; exact A.out) L.out (by rw [a.out]; exact D) d (by rw [a.out])
    have P:Hid (F.ownsRow w'.heap.size 3 1 Q (k+1) (ZAB ((Lin.low l).take (k+1)))):=by
     have:=R.1
     rw [T.out,ZMa f.out (by rw [←T.out]; exact hg1),←E.out] at this; exact this
    have O:Hid (Below w'.heap.size w' F):=R.2;clear R D d;go_wp2
    go_roundw
    case rel=>exact ⟨k+1,by omega,by go_num,P.out,O.out⟩
    case measure=>simp [intOf]; omega
   ·go_wp2_with (first | (at_builtin; refine wpList_append_own _ rfl _ _ 22 rfl w'.heap.size 3 i3 (.int .i64 0) 1 8 Tryz.underlying22 y p r j rfl (by decide) _ _ _ rfl (A.out.alloc _) ⟨wr.heap.size,0,none⟩ 1 1 [.int .i64 l[k]] rfl rfl (ZAQ _ _ _) (ZA2 _) ?d3 ?d4 ?d5 ?_))
    case d3=>unfold maxLen; omega
    case d4=>omega
    case d5=>simp; omega
    intro Q F D d _
    have R:=ZBN (z:=l[k]) (N:=k+1) G (l:=(Lin.low l).take k) (by rw [a.out]; exact A.out) L.out (by rw [a.out]; exact D) d (by rw [a.out])
    have P:Hid (F.ownsRow w'.heap.size 3 1 Q (k+1) (ZAB ((Lin.low l).take (k+1)))):=by
     have h1:=R.1
     rw [E.out,ZGO f.out (by rw [←T.out]; omega)]; exact h1
    have O:Hid (Below w'.heap.size w' F):=R.2;clear R D d;go_wp2
    go_roundw
    case rel=>exact ⟨k+1,by omega,by go_num,P.out,O.out⟩
    case measure=>simp [intOf]; omega
  ·have V:k=l.length:=by omega
   go_wp2;go_ret;have t:=A.out
   rw [Zaa2 (by simp [Lin.low]; omega),V] at t
   exact ⟨_,rfl,t,L.out⟩
end Go.Proofs.YtgfnmkenpgnllaaGreat
