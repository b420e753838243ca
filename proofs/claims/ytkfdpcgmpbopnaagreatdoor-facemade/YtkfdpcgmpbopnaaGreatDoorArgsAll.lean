import Derived.Test.YtkfdpcgmpbopnaaGreatDoorDatA
import Derived.Deep.Matrix
import Derived.Carry
import Derived.Test.YtkfdpcgmpbopnaaGreatDoorMade1
namespace Go.Proofs.YtkfdpcgmpbopnaaGreatDoor
open Go.ChangeShapes Go.WideShapes Go.RowKit Go.Deep
theorem Tryz.cells3:Tryz.prog.cellsOf 3=1:=by kernel_rfl
theorem Tryz.laidOut:laidOutB Tryz.prog=true:=by kernel_rfl
theorem addr_none {w:World} {a:Addr} {u:Value} (h:w.cell? a=some u):a=⟨a.block,a.off,none⟩:=by
 obtain ⟨b,o,s⟩:=a
 cases s with
 | none=>rfl
 | some s=>
  exfalso
  unfold World.cell? at h
  split at h <;> simp at h
theorem sl_of_cells {w:World} {a:Addr} {len cap:Nat} {e:TypeId} {xs:List Value} (hl:xs.length=len) (h1:len≤cap) (h2:cap≤maxLen) (hc:∀i,i < len→w.cell? (a.add i)=xs[i]?):Sl w.heap.size e w (.slice (some a) len cap) xs:=by
 refine ⟨some a,cap,by rw [hl],by omega,h2,fun i hi=>?_,fun h=>by cases h⟩
 have hi':i < len:=by omega
 have hx:xs[i]?=some xs[i]:=List.getElem?_eq_getElem hi
 have hz:xs[0]?=some xs[0]:=List.getElem?_eq_getElem (by omega)
 have h0:=hc i hi'
 have ha:a=⟨a.block,a.off,none⟩:=addr_none (u:=xs[0]) (by have:=hc 0 (by omega); rw [hz] at this; simpa [Addr.add] using this)
 obtain ⟨b,o,s⟩:=a
 simp only [Addr.mk.injEq,true_and] at ha
 subst ha
 have e:(⟨b,o,none⟩:Addr).add i=⟨b,o+i,none⟩:=by
  unfold Addr.add
  by_cases h:i=0
  ·subst h; simp
  ·simp [h]
 rw [e] at h0
 exact ⟨b,o,rfl,h0,Or.inl (World.block_lt_of_cell? w ⟨b,o+i,none⟩ (h0.trans hx))⟩
end Go.Proofs.YtkfdpcgmpbopnaaGreatDoor
namespace Go.Proofs.YtkfdpcgmpbopnaaGreatDoor
open Go.ChangeShapes Go.WideShapes Go.RowKit Go.Deep
theorem in64_of {n:Int} (h:(Lit.int .i64 n).wf=true):In64 n:=by
 have h1:(decide (IntKind.i64.min≤n) && decide (n≤IntKind.i64.max))=true:=h
 simp only [Bool.and_eq_true,decide_eq_true_eq] at h1
 have e1:IntKind.i64.min=-9223372036854775808:=by decide
 have e2:IntKind.i64.max=9223372036854775807:=by decide
 unfold In64
 omega
theorem open_list64 {H:Type} {enc:TypeId×Value→H} {w:World} {ao:Option Addr} {l0 c0:Nat} {d:DataW H} {p:List MemPlace} (h:DataW.Trod enc Tryz.prog w 0 (fun _=>true) true 22 (.slice ao l0 c0) d p):∃zs,Sl w.heap.size 3 w (.slice ao l0 c0) (ints zs)∧∀z∈zs,In64 z:=by
 obtain ⟨fuel,hf⟩:=h
 rcases open_ints Tryz.underlying22 Tryz.underlying3 Tryz.cells3 hf with ⟨hcs,_⟩ | ⟨a,len,cap,zs,hcs,_,hl,hm,hz,_,hcell,hwf⟩
 ·simp [Value.cells] at hcs
  obtain ⟨rfl,rfl,rfl⟩:=hcs
  exact ⟨[],Sl.nil _ _ _,fun z hz=>absurd hz (by simp)⟩
 ·simp [Value.cells] at hcs
  simp only [if_true] at hz
  obtain ⟨rfl,rfl,rfl⟩:=hcs
  refine ⟨zs.take l0,?_,fun z hz=>in64_of (hwf z (List.mem_of_mem_take hz))⟩
  have hlen:(ints (zs.take l0)).length=l0:=by simp; omega
  refine sl_of_cells hlen hl hm fun i hi=>?_
  rw [hcell i (by omega),ints_get _ _ (by simp; omega)]
  simp [hi]
end Go.Proofs.YtkfdpcgmpbopnaaGreatDoor
