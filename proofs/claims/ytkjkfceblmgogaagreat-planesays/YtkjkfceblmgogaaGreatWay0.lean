import Derived.Test.YtkjkfceblmgogaaGreatRun1
namespace Go.Proofs.YtkjkfceblmgogaaGreat
set_option maxRecDepth 100000
set_option maxHeartbeats 400000
open Go.RowKit
def ZE6(x:Int):Bool:=decide (x≤0)
theorem ZOR(m z:Int):(if z < m then z else m)=min m z:=by split <;> omega
theorem ZMy{zs:List Int}{k:Nat}{m:Int}(hk:k < zs.length)(h:decide (m≤0)=(zs.take k).any ZE6):decide (min m (zs.getD k 0)≤0)=(zs.take (k+1)).any ZE6:=by
 rw [Zaa1 hk,List.any_append,←h];simp only [List.any_cons,List.any_nil,Bool.or_false,ZE6];rw [Bool.eq_iff_iff];simp only [decide_eq_true_eq,Bool.or_eq_true,Za2,Za9 hk,Option.getD_some];omega
theorem ZMz(B:Nat)(zs:List Int)(v:Value)(w:World)(hv:Sl B 3 w v (ZAB zs))(hz:1≤zs.length) :
  Calls Tryz.prog 102 #[v] w fun e w'=>∃m:Int,e=.returned (.int .i64 m)∧decide (m≤0)=zs.any ZE6∧w'=w:=by
 obtain ⟨O,j,d,N,y⟩:=ZAI hv;subst d;have l:Hid (Sl B 3 w (.slice O zs.length j) (ZAB zs)):=hv;clear hv
 obtain ⟨b,o,Q,a,E,g⟩:=ZAK l.out (k:=0) (by omega)
 simp only [Za3] at a;obtain ⟨rfl,_,rfl⟩:=a;simp only [Nat.add_zero] at g
 have D:Hid (decide (zs.getD 0 0≤0)=(zs.take 1).any ZE6):=by
  cases zs with
  | nil=>simp at hz
  | cons z zs=>show decide (z≤0)=([z].any ZE6); simp only [List.any_cons,List.any_nil,Bool.or_false,ZE6]
 have x:(0:Int) < (zs.length:Int):=by omega
 have F:¬(zs.length:Int) < 1:=by omega
 generalize zs.getD 0 0=z0 at *;go_enter Tryz.func102,Tryz.ntmps102;go_wp2
 go_loopw [4,3] (fun i u wr=>∃(k:Nat) (m:Int),1≤k∧k≤zs.length∧i=.int .i64 k∧u=.int .i64 m∧decide (m≤0)=(zs.take k).any ZE6∧wr=w) (fun i _ _=>zs.length-(intOf i).toNat)
 case atStart=>exact ⟨1,z0,Za4 _,hz,rfl,rfl,D.out,rfl⟩
 case round=>
  obtain ⟨k,m,G,P,rfl,rfl,t,rfl⟩:=hrel;have p:=hid t;clear t
  by_cases hlt:k < zs.length
  ·obtain ⟨S,R,A,a,s,r⟩:=ZAK l.out hlt
   simp only [Za3,Zaa9,Addr.mk.injEq,and_true] at a;obtain ⟨⟨rfl,rfl⟩,_,rfl⟩:=a;have n:=ZMy hlt p.out;have f:=hid n;clear n;generalize zs.getD k 0=z at *
   have J:(k:Int) < (zs.length:Int):=by omega
   have L:(0:Int)≤(k:Int):=by omega
   go_wp2
   go_roundw
   case rel=>exact ⟨k+1,min m z,by omega,by omega,by go_num,by rw [ZOR],f.out,trivial⟩
   case measure=>simp [intOf]; omega
  ·have c:zs.take k=zs:=Zaa2 (by omega)
   have M:Hid (decide (m≤0)=zs.any ZE6):=by rw [←c]; exact p.out
   have J:¬(k:Int) < (zs.length:Int):=by omega
   go_wp2;go_ret;exact ⟨m,rfl,M.out,rfl⟩
end Go.Proofs.YtkjkfceblmgogaaGreat
