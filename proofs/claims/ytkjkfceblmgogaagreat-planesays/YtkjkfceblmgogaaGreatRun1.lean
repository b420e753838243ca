import Derived.Test.YtkjkfceblmgogaaGreatRefs
namespace Go.Proofs.YtkjkfceblmgogaaGreat
set_option maxRecDepth 100000
set_option maxHeartbeats 800000
open Go.RowKit
theorem ZC3(B:Nat)(l:List Int)(v:Value)(w:World)(hv:Sl B 3 w v (ZAB l))(hl:l.length≤1000000) :
  Calls Tryz.prog 83 #[v] w fun e w'=>∃u,e=.returned u∧w'.ownsRow w.heap.size 3 1 u l.length (ZAB l)∧Below w.heap.size w w':=by
 obtain ⟨N,p,j,g,m⟩:=info_parts Tryz.info3;have t:=hv;obtain ⟨D,o,f,x,F,d,b⟩:=t;simp only [ZA2] at f x;subst f;have E:Hid (Sl B 3 w (.slice D l.length o) (ZAB l)):=hv;clear d hv
 have M:Hid ((w.alloc (.cells #[] 3)).ownsRow w.heap.size 3 1 (.slice (some ⟨w.heap.size,0,none⟩) 0 0) 0 []):=
  World.ownsRow_made w #[] 0 (Za4 _) (by simp [maxLen]) (by simp)
 have O:=fun (w:World) (a:Option Addr) (n c:Nat)=>Lib.run_eql_slice_nil (P:=Tryz.prog) w 27 3 a n c 0 0 Tryz.underlying27
 cases D with
 | none=>
  have s:=b rfl;subst s
  have r:l=[]:=List.eq_nil_of_length_eq_zero (by omega)
  subst r;go_enter Tryz.func83,Tryz.ntmps83;go_wp2;go_ret;exact ⟨_,rfl,World.ownsRow_nil _ _ _ _,Below.refl _ _⟩
 | some a=>
  clear b;go_enter Tryz.func83,Tryz.ntmps83
  go_wp2_with (first | (at_builtin; refine wpList_append_own _ rfl _ _ 27 rfl w.heap.size 3 N (.int .i64 0) 1 8 Tryz.underlying27 p j g m rfl (by decide) _ _ _ rfl M.out a l.length o (ZAB l) rfl (by simp) (ZDr E.out _) (ZB2 l) ?c3 ?c4 ?c5 ?_))
  case c3=>unfold maxLen; omega
  case c4=>omega
  case c5=>simp
  intro L y z A _
  have i:y.ownsRow w.heap.size 3 1 L l.length (ZAB l):=by simpa using z
  have G:=hid i
  have J:Hid (Below w.heap.size w y):=((Below.refl _ _).alloc (Za4 _) _).grown A (by simp) (fun k hk=>by simp [Value.ownBlock] at hk; omega)
  clear z i A;go_wp2;go_ret;exact ⟨_,rfl,G.out,J.out⟩
theorem ZHc(B:Nat)(l:List Int)(v:Value)(w:World)(hv:Sl B 3 w v (ZAB l))(hb:∀z∈l,z.natAbs≤4611686018427387904) :
  Calls Tryz.prog 127 #[v] w fun e w'=>e=.returned (.int .i64 (Lin.gc l))∧∃n,w'=w.drewN n:=by
 obtain ⟨Y,D,M,ag,aa⟩:=ZAI hv;subst M;have HV:Hid (Sl B 3 w (.slice Y l.length D) (ZAB l)):=hv;have r:=hid hb;clear hv hb;go_enter Tryz.func127,Tryz.ntmps127;go_wp2
 go_loopw [3,8] (fun g i wr=>∃k:Nat,k≤l.length∧i=.int .i64 k∧(∃d:Int,g=.int .i64 d∧d.natAbs=Lin.gc (l.take k))∧∃n,wr=w.drewN n) (fun _ i _=>l.length-(intOf i).toNat)
 case atStart=>exact ⟨0,Za5 _,rfl,⟨0,rfl,rfl⟩,0,rfl⟩
 case round=>
  obtain ⟨k,hk,rfl,⟨d,rfl,V⟩,n,c⟩:=hrel
  have T:Hid (∃n,wr=w.drewN n):=⟨n,c⟩
  have J:Hid (Sl B 3 wr (.slice Y l.length D) (ZAB l)):=by subst c; exact HV.out.drewN n
  have Q:Lin.gc (l.take k)≤4611686018427387904:=ZMs fun z hz=>r.out z (Zaa7 hz)
  have N:d.natAbs≤4611686018427387904:=by omega
  have U:=hid V;clear c V Q
  obtain ⟨G,rfl⟩:∃G,G=wr:=⟨wr,rfl⟩
  by_cases hlt:k < l.length
  ·obtain ⟨b,o,cp,X,ae,R⟩:=ZAK J.out hlt
   simp only [Za3] at X;obtain ⟨rfl,_,rfl⟩:=X;have O:=r.out l[k] (List.getElem_mem hlt);have HG:Hid (Lin.gc (l.take (k+1))=Nat.gcd (Lin.gc (l.take k)) (l[k]).natAbs):=ZKN l k hlt
   rw [show l.getD k 0=l[k] by simp [hlt]] at R
   generalize hlk:l[k]=x at *;clear hlk;go_wp2
   go_loopw [3,5] (fun g a wq=>∃p q:Int,g=.int .i64 p∧a=.int .i64 q∧p.natAbs≤4611686018427387904∧q.natAbs≤4611686018427387904∧Nat.gcd p.natAbs q.natAbs=Nat.gcd d.natAbs x.natAbs∧∃n,wq=G.drewN n) (fun _ a _=>(intOf a).natAbs)
   case atStart=>exact ⟨d,x,rfl,rfl,N,O,rfl,0,rfl⟩
   case round=>
    obtain ⟨p,q,rfl,rfl,hp,hq,A,j,s⟩:=hrel;have E:=hid A
    have y:Hid (∃n,wr=G.drewN n):=⟨j,s⟩
    clear A s
    by_cases hq0:q=0
    ·subst hq0
     go_wp2
     go_roundw
     case rel=>
      obtain ⟨n1,e1⟩:=T.out;obtain ⟨j,S⟩:=y.out
      refine ⟨k+1,by omega,by go_num,⟨p,rfl,?_⟩,n1+j,by rw [S,e1,World.drewN_drewN]⟩
      rw [HG.out,←U.out,←E.out]; simp
     case measure=>simp [intOf]; omega
    ·have af:(q != 0)=true:=by simp [hq0]
     have m:(p.tmod q).natAbs=p.natAbs % q.natAbs:=Int.natAbs_tmod p q;have f:=hid m
     have t:p.natAbs % q.natAbs < q.natAbs:=Nat.mod_lt _ (by omega)
     have F:=hid t;clear m t;go_wp2
     go_region
     all_goals
      go_wp2
      go_roundw
      case rel=>
       obtain ⟨j,S⟩:=y.out
       refine ⟨q,p.tmod q,rfl,rfl,hq,?_,?_,j+1,by rw [S]; rfl⟩
       ·have h1:=f.out; have h2:=F.out; omega
       ·rw [f.out,←E.out,Nat.gcd_comm q.natAbs,←Nat.gcd_rec,Nat.gcd_comm]
      case measure=>
       have h1:=f.out;have h2:=F.out;simp only [intOf]; omega
  ·have L:Hid (l.take k=l):=Zaa2 (by omega)
   have P:Hid (d.natAbs=Lin.gc l):=by show _=_; rw [U.out,L.out]
   by_cases hneg:d < 0
   all_goals
    go_wp2
    all_goals
     go_ret
     exact ⟨ZBA (by have:=P.out; omega),T.out⟩
theorem ZKO(x d:Int)(w:World)(a:Addr)(hd:1≤d)(hx:x.natAbs≤4611686018427387904)(hc:w.cell? a=some (.int .i64 d)) :
  Calls Tryz.prog 128 #[.int .i64 x,.pointer (some a)] w fun e w'=>e=.returned (.int .i64 (x.tdiv d))∧w'=w:=by
 have c:(x.tdiv d).natAbs≤4611686018427387904:=by
  rw [Int.natAbs_tdiv]; exact Zaa8 (Nat.div_le_self _ _) hx
 have b:(d == 0)=false:=beq_eq_false_iff_ne.2 (by omega)
 go_enter Tryz.func128,Tryz.ntmps128;go_wp2;go_ret;exact ⟨rfl,rfl⟩
theorem ZMu(x:Int)(w:World)(hx:x.natAbs≤4611686018427387904) :
  Calls Tryz.prog 80 #[.int .i64 x] w fun e w'=>e=.returned (.int .i64 (-x))∧w'=w:=by
 go_enter Tryz.func80,Tryz.ntmps80;go_wp2;go_ret;exact ⟨rfl,rfl⟩
theorem ZMv{l:List Int}(h:1≤Lin.gc l):(l.map fun z=>z.tdiv (Lin.gc l))=Lin.low l:=by
 unfold Lin.low
 refine List.map_congr_left fun z hz=>?_
 obtain ⟨q,b⟩:=Lin.gc_dvd hz
 have a:(Lin.gc l:Int)≠0:=by omega
 have e:z=(Lin.gc l:Int)*q:=b;rw [e,Int.mul_tdiv_cancel_left q a,Int.mul_ediv_cancel_left q a]
theorem ZIg{l:List Int}(h:Lin.gc l=0):Lin.low l=l:=by
 unfold Lin.low
 have:∀z∈l,z / (Lin.gc l:Int)=z:=fun z hz=>ZGY hz (by omega)
 have e:l.map (fun z=>z / (Lin.gc l:Int))=l.map id:=List.map_congr_left fun z hz=>this z hz
 rw [e,List.map_id]
theorem ZKP(x:Int)(w:World) :
  Calls Tryz.prog 142 #[.int .i64 x] w fun e w'=>e=.returned (.bool (x != 0))∧w'=w:=by
 go_enter Tryz.func142,Tryz.ntmps142;go_wp2;go_ret;exact ⟨rfl,rfl⟩
theorem ZCk(B:Nat)(zs:List Int)(v:Value)(w:World)(hv:Sl B 3 w v (ZAB zs)) :
  Calls Tryz.prog 139 #[v,.func (.func 142) #[] #[]] w fun e w'=>e=.returned (.int .i64 (ZCe (· != 0) zs))∧w'=w:=by
 obtain ⟨t,j,f,y,r⟩:=ZAI hv;subst f;have n:Hid (Sl B 3 w (.slice t zs.length j) (ZAB zs)):=hv;clear hv;go_enter Tryz.func139,Tryz.ntmps139;go_wp2
 go_loop [8] (fun i=>∃k:Nat,k≤zs.length∧i=.int .i64 k∧(zs.take k).any (· != 0)=false) (fun i=>zs.length-(intOf i).toNat)
 case atStart=>exact ⟨0,Za5 _,rfl,by simp⟩
 case round=>
  obtain ⟨k,A,rfl,c⟩:=hrel;have l:=hid c;clear c
  by_cases hlt:k < zs.length
  ·obtain ⟨b,o,D,m,z,g⟩:=ZAK n.out hlt
   simp only [Za3] at m;obtain ⟨rfl,_,rfl⟩:=m;have d:Hid ((zs.take (k+1)).any (· != 0)=(zs[k] != 0)):=ZFf (p:=(· != 0)) hlt l.out
   have s:Hid ((zs[k] != 0)=true→ZCe (· != 0) zs=k):=fun h=>ZGV (p:=(· != 0)) hlt l.out h
   rw [show zs.getD k 0=zs[k] by simp [hlt]] at g
   generalize zs[k]=x at *
   by_cases hx:x=0
   ·have a:(x != 0)=false:=by simp [hx]
    clear hx
    go_wp2_with (go_at_call 142; refine (ZKP _ _).mono ?_; rintro e w' ⟨rfl,rfl⟩)
    go_round
    case rel=>exact ⟨k+1,by omega,by go_num,by rw [d.out,a]⟩
    case measure=>simp [intOf]; omega
   ·have a:(x != 0)=true:=by simp [hx]
    clear hx
    go_wp2_with (go_at_call 142; refine (ZKP _ _).mono ?_; rintro e w' ⟨rfl,rfl⟩)
    go_ret;exact ⟨ZBA (s.out a).symm,rfl⟩
  ·go_wp2
   go_ret
   have e:zs.take k=zs:=Zaa2 (by omega)
   exact ⟨ZBA (ZCZ (by rw [←l.out,e])).symm,rfl⟩
theorem ZMw{l:List Int}(h:l.any (· != 0)=true):∃k:Nat,k < l.length∧ZCe (· != 0) l=k∧Lin.upr l=if l.getD k 0 < 0 then l.map (fun v=>-v) else l:=by
 have a:l.findIdx (· != 0) < l.length:=List.findIdx_lt_length.2 (by obtain ⟨x,d,c⟩:=List.any_eq_true.1 h; exact ⟨x,d,c⟩)
 refine ⟨l.findIdx (· != 0),a,by simp [ZCe,h],?_⟩
 unfold Lin.upr
 have e:(l.find? (fun v=>v != 0)).getD 0=l.getD (l.findIdx (· != 0)) 0:=by
  refine Lin.find_at a (fun i hi=>?_) ?_
  ·have b:=List.not_of_lt_findIdx hi
   have c:i < l.length:=by omega
   simpa [c] using b
  ·have b:=List.findIdx_getElem (w:=a)
   simpa [a] using b
 rw [e]
theorem ZMx{l:List Int}(h:l.any (· != 0)=false):Lin.upr l=l:=by
 unfold Lin.upr
 have:l.find? (fun v=>v != 0)=none:=by
  rw [List.find?_eq_none]; intro x a b
  exact absurd (List.any_eq_true.2 ⟨x,a,b⟩) (by rw [h]; simp)
 rw [this]; simp
end Go.Proofs.YtkjkfceblmgogaaGreat
