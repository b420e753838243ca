import Derived.Test.YtgfnmkenpgnllaaGreatRun1
namespace Go.Proofs.YtgfnmkenpgnllaaGreat
set_option maxRecDepth 100000
set_option maxHeartbeats 400000
open Go.RowKit
def ZE0(x:Int):Bool:=decide (x≤0)
theorem ZN1(m z:Int):(if z < m then z else m)=min m z:=by split <;> omega
theorem ZMf{zs:List Int}{k:Nat}{m:Int}(hk:k < zs.length)(h:decide (m≤0)=(zs.take k).any ZE0):decide (min m (zs.getD k 0)≤0)=(zs.take (k+1)).any ZE0:=by
 rw [Zaa1 hk,List.any_append,←h];simp only [List.any_cons,List.any_nil,Bool.or_false,ZE0];rw [Bool.eq_iff_iff];simp only [decide_eq_true_eq,Bool.or_eq_true,Za2,Za9 hk,Option.getD_some];omega
theorem ZMg(B:Nat)(zs:List Int)(v:Value)(w:World)(hv:Sl B 3 w v (ZAB zs))(hz:1≤zs.length) :
  Calls Tryz.prog 107 #[v] w fun e w'=>∃m:Int,e=.returned (.int .i64 m)∧decide (m≤0)=zs.any ZE0∧w'=w:=by
 obtain ⟨M,g,c,y,E⟩:=ZAH hv;subst c;have l:Hid (Sl B 3 w (.slice M zs.length g) (ZAB zs)):=hv;clear hv
 obtain ⟨b,o,P,a,J,f⟩:=ZAJ l.out (k:=0) (by omega)
 simp only [Za3] at a;obtain ⟨rfl,_,rfl⟩:=a;simp only [Nat.add_zero] at f
 have F:Hid (decide (zs.getD 0 0≤0)=(zs.take 1).any ZE0):=by
  cases zs with
  | nil=>simp at hz
  | cons z zs=>show decide (z≤0)=([z].any ZE0); simp only [List.any_cons,List.any_nil,Bool.or_false,ZE0]
 have A:(0:Int) < (zs.length:Int):=by omega
 have G:¬(zs.length:Int) < 1:=by omega
 generalize zs.getD 0 0=z0 at *;go_enter Tryz.func107,Tryz.ntmps107;go_wp2
 go_loopw [4,3] (fun i u wr=>∃(k:Nat) (m:Int),1≤k∧k≤zs.length∧i=.int .i64 k∧u=.int .i64 m∧decide (m≤0)=(zs.take k).any ZE0∧wr=w) (fun i _ _=>zs.length-(intOf i).toNat)
 case atStart=>exact ⟨1,z0,Za4 _,hz,rfl,rfl,F.out,rfl⟩
 case round=>
  obtain ⟨k,m,N,R,rfl,rfl,p,rfl⟩:=hrel;have s:=hid p;clear p
  by_cases hlt:k < zs.length
  ·obtain ⟨Q,S,L,a,n,t⟩:=ZAJ l.out hlt
   simp only [Za3,Zaa9,Addr.mk.injEq,and_true] at a;obtain ⟨⟨rfl,rfl⟩,_,rfl⟩:=a;have r:=ZMf hlt s.out;have d:=hid r;clear r;generalize zs.getD k 0=z at *
   have O:(k:Int) < (zs.length:Int):=by omega
   have D:(0:Int)≤(k:Int):=by omega
   go_wp2
   go_roundw
   case rel=>exact ⟨k+1,min m z,by omega,by omega,by go_num,by rw [ZN1],d.out,trivial⟩
   case measure=>simp [intOf]; omega
  ·have j:zs.take k=zs:=Zaa2 (by omega)
   have x:Hid (decide (m≤0)=zs.any ZE0):=by rw [←j]; exact s.out
   have O:¬(k:Int) < (zs.length:Int):=by omega
   go_wp2;go_ret;exact ⟨m,rfl,x.out,rfl⟩
end Go.Proofs.YtgfnmkenpgnllaaGreat
