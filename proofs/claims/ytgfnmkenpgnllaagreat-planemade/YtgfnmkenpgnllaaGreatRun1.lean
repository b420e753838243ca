import Derived.Test.YtgfnmkenpgnllaaGreatRefs
namespace Go.Proofs.YtgfnmkenpgnllaaGreat
set_option maxRecDepth 100000
set_option maxHeartbeats 800000
open Go.RowKit
theorem ZC3(B:Nat)(l:List Int)(v:Value)(w:World)(hv:Sl B 3 w v (ZAB l))(hl:l.length≤1000000) :
  Calls Tryz.prog 88 #[v] w fun e w'=>∃u,e=.returned u∧w'.ownsRow w.heap.size 3 1 u l.length (ZAB l)∧Below w.heap.size w w':=by
 obtain ⟨N,s,j,m,g⟩:=info_parts Tryz.info3;have x:=hv;obtain ⟨D,i,f,p,L,d,b⟩:=x;simp only [ZA1] at f p;subst f;have F:Hid (Sl B 3 w (.slice D l.length i) (ZAB l)):=hv;clear d hv
 have E:Hid ((w.alloc (.cells #[] 3)).ownsRow w.heap.size 3 1 (.slice (some ⟨w.heap.size,0,none⟩) 0 0) 0 []):=
  World.ownsRow_made w #[] 0 (Za4 _) (by simp [maxLen]) (by simp)
 have O:=fun (w:World) (a:Option Addr) (n c:Nat)=>Lib.run_eql_slice_nil (P:=Tryz.prog) w 22 3 a n c 0 0 Tryz.underlying22
 cases D with
 | none=>
  have r:=b rfl;subst r
  have t:l=[]:=List.eq_nil_of_length_eq_zero (by omega)
  subst t;go_enter Tryz.func88,Tryz.ntmps88;go_wp2;go_ret;exact ⟨_,rfl,World.ownsRow_nil _ _ _ _,Below.refl _ _⟩
 | some a=>
  clear b;go_enter Tryz.func88,Tryz.ntmps88
  go_wp2_with (first | (at_builtin; refine wpList_append_own _ rfl _ _ 22 rfl w.heap.size 3 N (.int .i64 0) 1 8 Tryz.underlying22 s j m g rfl (by decide) _ _ _ rfl E.out a l.length i (ZAB l) rfl (by simp) (ZDt F.out _) (ZB1 l) ?c3 ?c4 ?c5 ?_))
  case c3=>unfold maxLen; omega
  case c4=>omega
  case c5=>simp
  intro J z y A _
  have o:z.ownsRow w.heap.size 3 1 J l.length (ZAB l):=by simpa using y
  have G:=hid o
  have M:Hid (Below w.heap.size w z):=((Below.refl _ _).alloc (Za4 _) _).grown A (by simp) (fun k hk=>by simp [Value.ownBlock] at hk; omega)
  clear y o A;go_wp2;go_ret;exact ⟨_,rfl,G.out,M.out⟩
theorem ZHP(B:Nat)(l:List Int)(v:Value)(w:World)(hv:Sl B 3 w v (ZAB l))(hb:∀z∈l,z.natAbs≤4611686018427387904) :
  Calls Tryz.prog 132 #[v] w fun e w'=>e=.returned (.int .i64 (Lin.gc l))∧∃n,w'=w.drewN n:=by
 obtain ⟨X,D,L,aa,af⟩:=ZAH hv;subst L;have HV:Hid (Sl B 3 w (.slice X l.length D) (ZAB l)):=hv;have j:=hid hb;clear hv hb;go_enter Tryz.func132,Tryz.ntmps132;go_wp2
 go_loopw [3,8] (fun g i wr=>∃k:Nat,k≤l.length∧i=.int .i64 k∧(∃d:Int,g=.int .i64 d∧d.natAbs=Lin.gc (l.take k))∧∃n,wr=w.drewN n) (fun _ i _=>l.length-(intOf i).toNat)
 case atStart=>exact ⟨0,Za5 _,rfl,⟨0,rfl,rfl⟩,0,rfl⟩
 case round=>
  obtain ⟨k,hk,rfl,⟨d,rfl,U⟩,n,c⟩:=hrel
  have T:Hid (∃n,wr=w.drewN n):=⟨n,c⟩
  have J:Hid (Sl B 3 wr (.slice X l.length D) (ZAB l)):=by subst c; exact HV.out.drewN n
  have P:Lin.gc (l.take k)≤4611686018427387904:=ZMZ fun z hz=>j.out z (Zaa7 hz)
  have O:d.natAbs≤4611686018427387904:=by omega
  have V:=hid U;clear c U P
  obtain ⟨G,rfl⟩:∃G,G=wr:=⟨wr,rfl⟩
  by_cases hlt:k < l.length
  ·obtain ⟨b,o,cp,Y,ag,R⟩:=ZAJ J.out hlt
   simp only [Za3] at Y;obtain ⟨rfl,_,rfl⟩:=Y;have Q:=j.out l[k] (List.getElem_mem hlt);have HG:Hid (Lin.gc (l.take (k+1))=Nat.gcd (Lin.gc (l.take k)) (l[k]).natAbs):=ZJ7 l k hlt
   rw [show l.getD k 0=l[k] by simp [hlt]] at R
   generalize hlk:l[k]=x at *;clear hlk;go_wp2
   go_loopw [3,5] (fun g a wq=>∃p q:Int,g=.int .i64 p∧a=.int .i64 q∧p.natAbs≤4611686018427387904∧q.natAbs≤4611686018427387904∧Nat.gcd p.natAbs q.natAbs=Nat.gcd d.natAbs x.natAbs∧∃n,wq=G.drewN n) (fun _ a _=>(intOf a).natAbs)
   case atStart=>exact ⟨d,x,rfl,rfl,O,Q,rfl,0,rfl⟩
   case round=>
    obtain ⟨p,q,rfl,rfl,hp,hq,E,A,y⟩:=hrel;have F:=hid E
    have t:Hid (∃n,wr=G.drewN n):=⟨A,y⟩
    clear E y
    by_cases hq0:q=0
    ·subst hq0
     go_wp2
     go_roundw
     case rel=>
      obtain ⟨n1,e1⟩:=T.out;obtain ⟨A,S⟩:=t.out
      refine ⟨k+1,by omega,by go_num,⟨p,rfl,?_⟩,n1+A,by rw [S,e1,World.drewN_drewN]⟩
      rw [HG.out,←V.out,←F.out]; simp
     case measure=>simp [intOf]; omega
    ·have ae:(q != 0)=true:=by simp [hq0]
     have m:(p.tmod q).natAbs=p.natAbs % q.natAbs:=Int.natAbs_tmod p q;have f:=hid m
     have r:p.natAbs % q.natAbs < q.natAbs:=Nat.mod_lt _ (by omega)
     have s:=hid r;clear m r;go_wp2
     go_region
     all_goals
      go_wp2
      go_roundw
      case rel=>
       obtain ⟨A,S⟩:=t.out
       refine ⟨q,p.tmod q,rfl,rfl,hq,?_,?_,A+1,by rw [S]; rfl⟩
       ·have h1:=f.out; have h2:=s.out; omega
       ·rw [f.out,←F.out,Nat.gcd_comm q.natAbs,←Nat.gcd_rec,Nat.gcd_comm]
      case measure=>
       have h1:=f.out;have h2:=s.out;simp only [intOf]; omega
  ·have N:Hid (l.take k=l):=Zaa2 (by omega)
   have M:Hid (d.natAbs=Lin.gc l):=by show _=_; rw [V.out,N.out]
   by_cases hneg:d < 0
   all_goals
    go_wp2
    all_goals
     go_ret
     exact ⟨ZA9 (by have:=M.out; omega),T.out⟩
theorem ZJ8(x d:Int)(w:World)(a:Addr)(hd:1≤d)(hx:x.natAbs≤4611686018427387904)(hc:w.cell? a=some (.int .i64 d)) :
  Calls Tryz.prog 133 #[.int .i64 x,.pointer (some a)] w fun e w'=>e=.returned (.int .i64 (x.tdiv d))∧w'=w:=by
 have c:(x.tdiv d).natAbs≤4611686018427387904:=by
  rw [Int.natAbs_tdiv]; exact Zaa8 (Nat.div_le_self _ _) hx
 have b:(d == 0)=false:=beq_eq_false_iff_ne.2 (by omega)
 go_enter Tryz.func133,Tryz.ntmps133;go_wp2;go_ret;exact ⟨rfl,rfl⟩
theorem ZMb(x:Int)(w:World)(hx:x.natAbs≤4611686018427387904) :
  Calls Tryz.prog 85 #[.int .i64 x] w fun e w'=>e=.returned (.int .i64 (-x))∧w'=w:=by
 go_enter Tryz.func85,Tryz.ntmps85;go_wp2;go_ret;exact ⟨rfl,rfl⟩
theorem ZMc{l:List Int}(h:1≤Lin.gc l):(l.map fun z=>z.tdiv (Lin.gc l))=Lin.low l:=by
 unfold Lin.low
 refine List.map_congr_left fun z hz=>?_
 obtain ⟨q,b⟩:=Lin.gc_dvd hz
 have a:(Lin.gc l:Int)≠0:=by omega
 have e:z=(Lin.gc l:Int)*q:=b;rw [e,Int.mul_tdiv_cancel_left q a,Int.mul_ediv_cancel_left q a]
theorem ZIV{l:List Int}(h:Lin.gc l=0):Lin.low l=l:=by
 unfold Lin.low
 have:∀z∈l,z / (Lin.gc l:Int)=z:=fun z hz=>ZGO hz (by omega)
 have e:l.map (fun z=>z / (Lin.gc l:Int))=l.map id:=List.map_congr_left fun z hz=>this z hz
 rw [e,List.map_id]
theorem ZJ9(x:Int)(w:World) :
  Calls Tryz.prog 147 #[.int .i64 x] w fun e w'=>e=.returned (.bool (x != 0))∧w'=w:=by
 go_enter Tryz.func147,Tryz.ntmps147;go_wp2;go_ret;exact ⟨rfl,rfl⟩
theorem ZCn(B:Nat)(zs:List Int)(v:Value)(w:World)(hv:Sl B 3 w v (ZAB zs)) :
  Calls Tryz.prog 144 #[v,.func (.func 147) #[] #[]] w fun e w'=>e=.returned (.int .i64 (ZCi (· != 0) zs))∧w'=w:=by
 obtain ⟨t,l,f,r,n⟩:=ZAH hv;subst f;have z:Hid (Sl B 3 w (.slice t zs.length l) (ZAB zs)):=hv;clear hv;go_enter Tryz.func144,Tryz.ntmps144;go_wp2
 go_loop [8] (fun i=>∃k:Nat,k≤zs.length∧i=.int .i64 k∧(zs.take k).any (· != 0)=false) (fun i=>zs.length-(intOf i).toNat)
 case atStart=>exact ⟨0,Za5 _,rfl,by simp⟩
 case round=>
  obtain ⟨k,D,rfl,c⟩:=hrel;have d:=hid c;clear c
  by_cases hlt:k < zs.length
  ·obtain ⟨b,o,A,m,s,j⟩:=ZAJ z.out hlt
   simp only [Za3] at m;obtain ⟨rfl,_,rfl⟩:=m;have g:Hid ((zs.take (k+1)).any (· != 0)=(zs[k] != 0)):=ZFY (p:=(· != 0)) hlt d.out
   have y:Hid ((zs[k] != 0)=true→ZCi (· != 0) zs=k):=fun h=>ZGL (p:=(· != 0)) hlt d.out h
   rw [show zs.getD k 0=zs[k] by simp [hlt]] at j
   generalize zs[k]=x at *
   by_cases hx:x=0
   ·have a:(x != 0)=false:=by simp [hx]
    clear hx
    go_wp2_with (go_at_call 147; refine (ZJ9 _ _).mono ?_; rintro e w' ⟨rfl,rfl⟩)
    go_round
    case rel=>exact ⟨k+1,by omega,by go_num,by rw [g.out,a]⟩
    case measure=>simp [intOf]; omega
   ·have a:(x != 0)=true:=by simp [hx]
    clear hx
    go_wp2_with (go_at_call 147; refine (ZJ9 _ _).mono ?_; rintro e w' ⟨rfl,rfl⟩)
    go_ret;exact ⟨ZA9 (y.out a).symm,rfl⟩
  ·go_wp2
   go_ret
   have e:zs.take k=zs:=Zaa2 (by omega)
   exact ⟨ZA9 (ZCc (by rw [←d.out,e])).symm,rfl⟩
theorem ZMd{l:List Int}(h:l.any (· != 0)=true):∃k:Nat,k < l.length∧ZCi (· != 0) l=k∧Lin.upr l=if l.getD k 0 < 0 then l.map (fun v=>-v) else l:=by
 have a:l.findIdx (· != 0) < l.length:=List.findIdx_lt_length.2 (by obtain ⟨x,d,c⟩:=List.any_eq_true.1 h; exact ⟨x,d,c⟩)
 refine ⟨l.findIdx (· != 0),a,by simp [ZCi,h],?_⟩
 unfold Lin.upr
 have e:(l.find? (fun v=>v != 0)).getD 0=l.getD (l.findIdx (· != 0)) 0:=by
  refine Lin.find_at a (fun i hi=>?_) ?_
  ·have b:=List.not_of_lt_findIdx hi
   have c:i < l.length:=by omega
   simpa [c] using b
  ·have b:=List.findIdx_getElem (w:=a)
   simpa [a] using b
 rw [e]
theorem ZMe{l:List Int}(h:l.any (· != 0)=false):Lin.upr l=l:=by
 unfold Lin.upr
 have:l.find? (fun v=>v != 0)=none:=by
  rw [List.find?_eq_none]; intro x b a
  exact absurd (List.any_eq_true.2 ⟨x,b,a⟩) (by rw [h]; simp)
 rw [this]; simp
end Go.Proofs.YtgfnmkenpgnllaaGreat
