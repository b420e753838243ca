import Derived.Deep.Matrix
import Derived.Carry
import Derived.Test.YtkjkfceblmgogaaGreatRefA
namespace Go.Proofs.YtkjkfceblmgogaaGreat
open Go.ChangeShapes Go.WideShapes Go.RowKit Go.Deep
theorem Tryz.cells3:Tryz.prog.cellsOf 3=1:=by kernel_rfl
theorem Tryz.cells27:Tryz.prog.cellsOf 27=1:=by kernel_rfl
theorem Tryz.laidOut:laidOutB Tryz.prog=true:=by kernel_rfl
theorem ZMm{w:World}{a:Addr}{u:Value}(h:w.cell? a=some u):a=⟨a.block,a.off,none⟩:=by
 obtain ⟨b,o,s⟩:=a
 cases s with
 | none=>rfl
 | some s=>
  exfalso
  unfold World.cell? at h
  split at h <;> simp at h
theorem ZE2{w:World}{a:Addr}{len cap:Nat}{e:TypeId}{xs:List Value}(hl:xs.length=len)(h1:len≤cap)(h2:cap≤maxLen)(hc:∀i,i < len→w.cell? (a.add i)=xs[i]?):Sl w.heap.size e w (.slice (some a) len cap) xs:=by
 refine ⟨some a,cap,by rw [hl],by omega,h2,fun i hi=>?_,fun h=>by cases h⟩
 have c:i < len:=by omega
 have g:xs[i]?=some xs[i]:=Za9 hi
 have j:xs[0]?=some xs[0]:=Za9 (by omega)
 have d:=hc i c
 have f:a=⟨a.block,a.off,none⟩:=ZMm (u:=xs[0]) (by have:=hc 0 (by omega); rw [j] at this; simpa [Addr.add] using this)
 obtain ⟨b,o,s⟩:=a;simp only [Addr.mk.injEq,true_and] at f;subst f
 have e:(⟨b,o,none⟩:Addr).add i=⟨b,o+i,none⟩:=by
  unfold Addr.add
  by_cases h:i=0
  ·subst h; simp
  ·simp [h]
 rw [e] at d;exact ⟨b,o,rfl,d,Or.inl (World.block_lt_of_cell? w ⟨b,o+i,none⟩ (d.trans g))⟩
theorem ZOM{H:Type}{enc:TypeId×Value→H}{w:World}{ao:Option Addr}{l0 c0:Nat}{d:DataW H}{p:List MemPlace}(h:DataW.Trod enc Tryz.prog w 0 (fun _=>true) true 22 (.slice ao l0 c0) d p):∃m,Mat w.heap.size 27 3 w (.slice ao l0 c0) m:=by
 obtain ⟨c,v⟩:=h
 rcases open_int_rows Tryz.underlying22 Tryz.underlying27 Tryz.underlying3 Tryz.cells27 Tryz.cells3 v with ⟨hcs,_⟩ | ⟨a,len,cap,A,L,C,Z,hcs,_,hl,hm,_,hrows⟩
 ·simp [Value.cells] at hcs
  obtain ⟨rfl,rfl,rfl⟩:=hcs
  exact ⟨[],[],rfl,Sl.nil _ _ _,fun i hi=>absurd hi (by simp)⟩
 ·simp [Value.cells] at hcs
  obtain ⟨rfl,rfl,rfl⟩:=hcs
  refine ⟨(List.range l0).map fun r=>(Z r).take (L r),(List.range l0).map fun r=>.slice (A r) (L r) (C r),by simp,?_,fun i hi=>?_⟩
  ·refine ZE2 (by simp) hl hm fun i hi=>?_
   rw [(hrows i (by omega)).1]; simp [hi]
  ·have b:i < l0:=by simpa using hi
   obtain ⟨y,t,x,z,_,n,o⟩:=hrows i (by omega)
   have g:((List.range l0).map fun r=>Value.slice (A r) (L r) (C r)).getD i (.slice none 0 0)=.slice (A i) (L i) (C i):=by simp [b]
   have l:((List.range l0).map fun r=>(Z r).take (L r)).getD i []=(Z i).take (L i):=by simp [b]
   rw [g,l]
   cases hA:A i with
   | none=>
    have s:=n hA
    have f:L i=0:=by omega
    rw [s,f]; exact Sl.nil _ _ _
   | some a'=>
    refine ZE2 (by simp; omega) t x fun j hj=>?_
    rw [(o a' hA).2 j (by omega),ZAZ _ _ (by simp; omega)]
    simp [hj]

end Go.Proofs.YtkjkfceblmgogaaGreat
