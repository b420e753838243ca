import Derived.Test.YtcoeneldaohpnaaGreatMgAA
import Derived.Shelf.SlSortCmp.NoneTotal
import Derived.Shelf.SlGeneric
import Derived.Ground.SlsfProg
import Derived.Deep.OwnRows
import Derived.Laws.ResultCell
namespace Go.Proofs.YtcoeneldaohpnaaGreat
open Go.RowKit
def cmpI (x y:Int):Int:=if x < y then -1 else if y < x then 1 else 0
def cmpL:List Int→List Int→Int
 | [],[]=>0
 | [],_ :: _=>-1
 | _ :: _,[]=>1
 | x :: xs,y :: ys=>if x < y then -1 else if y < x then 1 else cmpL xs ys
set_option maxRecDepth 100000 in
theorem nan_any (x:Int) (w:World):Calls Tryz.prog 100 #[.int .i64 x] w fun e w'=>e=.returned (.bool false)∧w'=w:=by
 have hx:(x != x)=false:=by simp
 go_enter Tryz.func100,Tryz.ntmps100
 go_wp2
 go_ret
 exact ⟨ret_bool (by simp),rfl⟩
set_option maxRecDepth 100000 in
theorem cmpI_any (x y:Int) (w:World):Calls Tryz.prog 85 #[.int .i64 x,.int .i64 y] w fun e w'=>e=.returned (.int .i64 (cmpI x y))∧w'=w:=by
 by_cases h1:x < y
 ·have HE:Hid (cmpI x y=-1):=if_pos h1
  go_enter Tryz.func85,Tryz.ntmps85
  go_wp2_with fail
  refine (nan_any x w).mono ?_
  rintro e w1 ⟨rfl,rfl⟩
  go_wp2_with fail
  refine (nan_any y w1).mono ?_
  rintro e w2 ⟨rfl,rfl⟩
  go_wp2
  go_ret
  exact ⟨by rw [HE.out]; rfl,rfl⟩
 ·by_cases h2:y < x
  ·have HE:Hid (cmpI x y=1):=by
    show _=_
    unfold cmpI; rw [if_neg h1,if_pos h2]
   go_enter Tryz.func85,Tryz.ntmps85
   go_wp2_with fail
   refine (nan_any x w).mono ?_
   rintro e w1 ⟨rfl,rfl⟩
   go_wp2_with fail
   refine (nan_any y w1).mono ?_
   rintro e w2 ⟨rfl,rfl⟩
   go_wp2
   go_ret
   exact ⟨by rw [HE.out]; rfl,rfl⟩
  ·have HE:Hid (cmpI x y=0):=by
    show _=_
    unfold cmpI; rw [if_neg h1,if_neg h2]
   go_enter Tryz.func85,Tryz.ntmps85
   go_wp2_with fail
   refine (nan_any x w).mono ?_
   rintro e w1 ⟨rfl,rfl⟩
   go_wp2_with fail
   refine (nan_any y w1).mono ?_
   rintro e w2 ⟨rfl,rfl⟩
   go_wp2
   go_ret
   exact ⟨by rw [HE.out]; rfl,rfl⟩
theorem cmpL_at {x y:List Int} {k:Nat} (h1:k < x.length) (h2:k < y.length):cmpL (x.drop k) (y.drop k)=if cmpI (x.getD k 0) (y.getD k 0)=0 then cmpL (x.drop (k+1)) (y.drop (k+1)) else cmpI (x.getD k 0) (y.getD k 0):=by
 rw [List.drop_eq_getElem_cons h1,List.drop_eq_getElem_cons h2]
 simp only [cmpL,cmpI,List.getD_eq_getElem?_getD,List.getElem?_eq_getElem h1,List.getElem?_eq_getElem h2,Option.getD_some]
 by_cases a:x[k] < y[k]
 ·simp [a]
 ·by_cases b:y[k] < x[k]
  ·simp [a,b]
  ·simp [a,b]
set_option maxRecDepth 100000 in
set_option maxHeartbeats 400000 in
theorem compare_any (B:Nat) (x y:List Int) (u v:Value) (w:World) (hu:Sl B 3 w u (ints x)) (hv:Sl B 3 w v (ints y)) :
  Calls Tryz.prog 66 #[u,v] w fun e w'=>e=.returned (.int .i64 (cmpL x y))∧w'=w:=by
 obtain ⟨ao,cap,hvv,hlc,hcm⟩:=sl_open hu
 obtain ⟨bo,cbp,huu,hlb,hcb⟩:=sl_open hv
 subst hvv huu
 have HU:Hid (Sl B 3 w (.slice ao x.length cap) (ints x)):=hu
 have HV:Hid (Sl B 3 w (.slice bo y.length cbp) (ints y)):=hv
 clear hu hv
 go_enter Tryz.func66,Tryz.ntmps66
 go_wp2
 go_loopw [11] (fun i wr=>∃k:Nat,k≤x.length∧k≤y.length∧i=.int .i64 k∧cmpL x y=cmpL (x.drop k) (y.drop k)∧wr=w) (fun i _=>x.length-(intOf i).toNat)
 case atStart=>exact ⟨0,Nat.zero_le _,Nat.zero_le _,rfl,rfl,rfl⟩
 case round=>
  obtain ⟨k,hk,hk2,rfl,hcm2,rfl⟩:=hrel
  have HC:Hid (cmpL x y=cmpL (x.drop k) (y.drop k)):=hcm2
  clear hcm2
  by_cases hlt:k < x.length
  ·obtain ⟨b,o,cp,hs,hc1,hcc⟩:=sl_cell HU.out hlt
   simp only [Value.slice.injEq] at hs
   obtain ⟨rfl,_,rfl⟩:=hs
   by_cases hlt2:k < y.length
   ·obtain ⟨b2,o2,cp2,hs2,hc2,hcc2⟩:=sl_cell HV.out hlt2
    simp only [Value.slice.injEq] at hs2
    obtain ⟨rfl,_,rfl⟩:=hs2
    have HA:Hid (cmpL (x.drop k) (y.drop k)=if cmpI (x.getD k 0) (y.getD k 0)=0 then cmpL (x.drop (k+1)) (y.drop (k+1)) else cmpI (x.getD k 0) (y.getD k 0)):=cmpL_at hlt hlt2
    generalize x.getD k 0=a at *
    generalize y.getD k 0=c at *
    go_wp2_with fail
    refine (cmpI_any a c wr).mono ?_
    rintro e w1 ⟨rfl,rfl⟩
    generalize cmpI a c=r at *
    by_cases hr:r=0
    ·have HR:Hid (cmpL x y=cmpL (x.drop (k+1)) (y.drop (k+1))):=by
      show _=_
      rw [HC.out,HA.out,if_pos hr]
     have hrb:(r != 0)=false:=by simp [hr]
     clear hr
     go_wp2
     go_roundw
     case rel=>exact ⟨k+1,by omega,by omega,by go_num,HR.out,trivial⟩
     case measure=>simp [intOf]; omega
    ·have HR:Hid (cmpL x y=r):=by
      show _=_
      rw [HC.out,HA.out,if_neg hr]
     have hrb:(r != 0)=true:=by simp [hr]
     clear hr
     go_wp2
     go_ret
     exact ⟨by rw [HR.out]; rfl,rfl⟩
   ·have hke:k=y.length:=by omega
    have HR:Hid (cmpL x y=1):=by
     show _=_
     rw [HC.out,hke,List.drop_length,List.drop_eq_getElem_cons (by omega)]; rfl
    clear hke
    go_wp2
    go_ret
    exact ⟨by rw [HR.out]; rfl,rfl⟩
  ·have hke:k=x.length:=by omega
   by_cases hxy:x.length < y.length
   ·have HR:Hid (cmpL x y=-1):=by
     show _=_
     rw [HC.out,hke,List.drop_length,List.drop_eq_getElem_cons hxy]; rfl
    go_wp2
    go_ret
    exact ⟨by rw [HR.out]; rfl,rfl⟩
   ·have HR:Hid (cmpL x y=0):=by
     show _=_
     have h2:y.drop k=[]:=List.drop_eq_nil_of_le (by omega)
     rw [HC.out,h2,hke,List.drop_length]; rfl
    go_wp2
    go_ret
    exact ⟨by rw [HR.out]; rfl,rfl⟩
set_option maxRecDepth 100000 in
set_option maxHeartbeats 400000 in
theorem equal_any (B:Nat) (x y:List Int) (u v:Value) (w:World) (hu:Sl B 3 w u (ints x)) (hv:Sl B 3 w v (ints y)) :
  Calls Tryz.prog 58 #[u,v] w fun e w'=>e=.returned (.bool (x == y))∧∃n,w'=w.drewN n:=by
 have hu':=hu
 have hv':=hv
 obtain ⟨ao,cap,hvv,hlc,hcm,-⟩:=hu'
 obtain ⟨bo,cbp,huu,hlb,hcb,-⟩:=hv'
 simp only [ints_length] at hlc hvv hlb huu
 subst hvv huu
 have HU:Hid (Sl B 3 w (.slice ao x.length cap) (ints x)):=hu
 have HV:Hid (Sl B 3 w (.slice bo y.length cbp) (ints y)):=hv
 clear hu hv
 unfold maxLen at hcm hcb
 by_cases hl:x.length=y.length
 ·have hbe:((x.length:Int) != (y.length:Int))=false:=by simp [hl]
  have HL:Hid (x.length=y.length):=hl
  have hle:y.length≤x.length:=by omega
  have hge:x.length≤y.length:=by omega
  clear hl
  go_enter Tryz.func58,Tryz.ntmps58
  go_wp2
  go_loopw [13] (fun i wr=>∃k:Nat,k≤x.length∧i=.int .i64 k∧(∀j,j < k→x.getD j 0=y.getD j 0)∧∃n,wr=w.drewN n) (fun i _=>x.length-(intOf i).toNat)
  case atStart=>exact ⟨0,Nat.zero_le _,rfl,fun j hj=>absurd hj (by omega),0,rfl⟩
  case round=>
   obtain ⟨k,hk,rfl,hno,n,rfl⟩:=hrel
   have HN:Hid (∀j,j < k→x.getD j 0=y.getD j 0):=hno
   clear hno
   by_cases hlt:k < x.length
   ·have hlt2:k < y.length:=by omega
    obtain ⟨b,o,cp,hs,hc1,hcc⟩:=sl_cell HU.out hlt
    simp only [Value.slice.injEq] at hs
    obtain ⟨rfl,_,rfl⟩:=hs
    obtain ⟨b2,o2,cp2,hs2,hc2,hcc2⟩:=sl_cell HV.out hlt2
    simp only [Value.slice.injEq] at hs2
    obtain ⟨rfl,_,rfl⟩:=hs2
    go_wp2
    go_quiet (fail)
    go_wp2
    ·have hf:(x[k] != y[k])=true:=by assumption
     go_ret
     refine ⟨ret_bool (Eq.symm ?_),n+nq,by rw [World.drewN_drewN]⟩
     rw [beq_eq_false_iff_ne]
     rintro rfl
     simp at hf
    ·have hf:(x[k] != y[k])=false:=by assumption
     go_roundw
     case rel=>
      refine ⟨k+1,by omega,by go_num,fun j hj=>?_,_,rfl⟩
      by_cases hjk:j < k
      ·exact HN.out j hjk
      ·have:j=k:=by omega
       subst this
       simpa [hlt,hlt2] using hf
     case measure=>simp [intOf]; omega
   ·go_wp2
    go_ret
    refine ⟨ret_bool (Eq.symm ?_),_,rfl⟩
    rw [beq_iff_eq]
    exact eq_of_all HL.out fun i hi=>HN.out i (by omega)
 ·have hbe:((x.length:Int) != (y.length:Int))=true:=by simp; omega
  go_enter Tryz.func58,Tryz.ntmps58
  go_wp2
  go_ret
  refine ⟨ret_bool (Eq.symm ?_),0,rfl⟩
  rw [beq_eq_false_iff_ne]
  rintro rfl
  exact hl rfl
end Go.Proofs.YtcoeneldaohpnaaGreat

namespace Go.Proofs
open Go.Shelf Go.RowKit Go.Lib Go.Sort
shelf_lay_g SlLaysF.n6 Slsf 6 at Tryz 65 as Tryz.sortM
end Go.Proofs

namespace Go.Proofs.YtcoeneldaohpnaaGreat
def pw (t:Int):Nat→List Int
 | 0=>[]
 | d+1=>pw t d ++ [t ^ (d+1)]
@[simp] theorem pw_length (t:Int) (d:Nat):(pw t d).length=d:=by
 induction d with
 | zero=>rfl
 | succ d ih=>simp [pw,ih]
def cpts (n d:Nat):Nat→List (List Int)
 | 0=>[]
 | k+1=>cpts n d k ++ [pw ((k:Int)-(n:Int) / 2) d]
@[simp] theorem cpts_length (n d k:Nat):(cpts n d k).length=k:=by
 induction k with
 | zero=>rfl
 | succ k ih=>simp [cpts,ih]
end Go.Proofs.YtcoeneldaohpnaaGreat
namespace Go.Proofs.YtcoeneldaohpnaaGreat
open Go.RowKit
theorem Tryz.info3:(Tryz.prog.info? 3).map (fun i=>(i.zero,i.size,i.bytes))=some (some (.int .i64 0),1,8):=by kernel_rfl
theorem Tryz.info26:(Tryz.prog.info? 26).map (fun i=>(i.zero,i.size,i.bytes))=some (some (.slice none 0 0),1,24):=by kernel_rfl
theorem Sl.row {B b:Nat} {e:TypeId} {w:World} {n:Nat} {f:Nat→Value} {xs:List Value} (h:w.rowIs b e n f) (hn:xs.length=n) (hm:n≤maxLen) (hx:∀i,i < n→xs[i]?=some (f i)) :
  Sl B e w (.slice (some ⟨b,0,none⟩) n n) xs:=by
 refine ⟨_,n,by rw [hn],by omega,hm,fun i hi=>⟨b,0,rfl,?_,?_⟩,fun h=>by cases h⟩
 ·rw [hx i (by omega),Nat.zero_add]; exact h.cell (by omega)
 ·obtain ⟨c,hb,_,_⟩:=h; exact Or.inr ⟨c,hb⟩
def findI (p:Int→Bool) (zs:List Int):Int:=if zs.any p then (zs.findIdx p:Int) else -1
theorem ret_int {k:IntKind} {a b:Int} (h:a=b):Ending.returned (.int k a)=.returned (.int k b):=by rw [h]
theorem findI_hit {p:Int→Bool} {l:List Int} {k:Nat} (h:k < l.length) (h0:(l.take k).any p=false) (h1:p l[k]=true):findI p l=k:=by
 have ha:l.any p=true:=any_hit h h1
 have hi:l.findIdx p=k:=by
  rw [List.findIdx_eq h]
  refine ⟨h1,fun j hj=>?_⟩
  have:=List.any_eq_false.1 h0 l[j] (by rw [List.mem_take_iff_getElem]; exact ⟨j,by omega,rfl⟩)
  simpa using this
 simp [findI,ha,hi]
theorem findI_none {p:Int→Bool} {l:List Int} (h0:l.any p=false):findI p l=-1:=by
 unfold findI; rw [h0]; rfl
theorem findI_ge {p:Int→Bool} {l:List Int} : decide (0≤findI p l)=l.any p:=by
 cases h:l.any p
 ·rw [findI_none h]; rfl
 ·unfold findI; rw [h]; simp
end Go.Proofs.YtcoeneldaohpnaaGreat
