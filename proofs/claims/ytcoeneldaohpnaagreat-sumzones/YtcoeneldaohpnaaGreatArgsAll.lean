import Derived.Test.YtcoeneldaohpnaaGreatMgAA
import Derived.Deep.Matrix
import Derived.Carry
import Derived.Test.YtcoeneldaohpnaaGreatMgAG
namespace Go.Proofs.YtcoeneldaohpnaaGreat
open Go.ChangeShapes Go.WideShapes Go.RowKit Go.Deep
theorem Tryz.cells3:Tryz.prog.cellsOf 3=1:=by kernel_rfl
theorem Tryz.cells26:Tryz.prog.cellsOf 26=1:=by kernel_rfl
theorem Tryz.laidOut:laidOutB Tryz.prog=true:=by kernel_rfl
theorem addr_none {w:World} {a:Addr} {u:Value} (h:w.cell? a=some u):a=⟨a.block,a.off,none⟩:=by
 obtain ⟨b,o,s⟩:=a
 cases s with
 | none=>rfl
 | some s=>
  exfalso
  unfold World.cell? at h
  split at h <;> simp at h
theorem sl_of_cells {w:World} {a:Addr} {len cap:Nat} {e:TypeId} {xs:List Value} (hl:xs.length=len) (h1:len≤cap) (h2:cap≤maxLen) (hc:∀i,i < len→w.cell? (a.add i)=xs[i]?):Sl w.heap.size e w (.slice (some a) len cap) xs:=by
 refine ⟨some a,cap,by rw [hl],by omega,h2,fun i hi=>?_,fun h=>by cases h⟩
 have hi':i < len:=by omega
 have hx:xs[i]?=some xs[i]:=List.getElem?_eq_getElem hi
 have hz:xs[0]?=some xs[0]:=List.getElem?_eq_getElem (by omega)
 have h0:=hc i hi'
 have ha:a=⟨a.block,a.off,none⟩:=addr_none (u:=xs[0]) (by have:=hc 0 (by omega); rw [hz] at this; simpa [Addr.add] using this)
 obtain ⟨b,o,s⟩:=a
 simp only [Addr.mk.injEq,true_and] at ha
 subst ha
 have e:(⟨b,o,none⟩:Addr).add i=⟨b,o+i,none⟩:=by
  unfold Addr.add
  by_cases h:i=0
  ·subst h; simp
  ·simp [h]
 rw [e] at h0
 exact ⟨b,o,rfl,h0,Or.inl (World.block_lt_of_cell? w ⟨b,o+i,none⟩ (h0.trans hx))⟩
theorem open_mat {H:Type} {enc:TypeId×Value→H} {w:World} {ao:Option Addr} {l0 c0:Nat} {d:DataW H} {p:List MemPlace} (h:DataW.Trod enc Tryz.prog w 0 (fun _=>true) true 22 (.slice ao l0 c0) d p):∃m,Mat w.heap.size 26 3 w (.slice ao l0 c0) m:=by
 obtain ⟨fuel,hf⟩:=h
 rcases open_int_rows Tryz.underlying22 Tryz.underlying26 Tryz.underlying3 Tryz.cells26 Tryz.cells3 hf with ⟨hcs,_⟩ | ⟨a,len,cap,A,L,C,Z,hcs,_,hl,hm,_,hrows⟩
 ·simp [Value.cells] at hcs
  obtain ⟨rfl,rfl,rfl⟩:=hcs
  exact ⟨[],[],rfl,Sl.nil _ _ _,fun i hi=>absurd hi (by simp)⟩
 ·simp [Value.cells] at hcs
  obtain ⟨rfl,rfl,rfl⟩:=hcs
  refine ⟨(List.range l0).map fun r=>(Z r).take (L r),(List.range l0).map fun r=>.slice (A r) (L r) (C r),by simp,?_,fun i hi=>?_⟩
  ·refine sl_of_cells (by simp) hl hm fun i hi=>?_
   rw [(hrows i (by omega)).1]; simp [hi]
  ·have hi':i < l0:=by simpa using hi
   obtain ⟨h1,h2,h3,h4,_,h6,h7⟩:=hrows i (by omega)
   have e1:((List.range l0).map fun r=>Value.slice (A r) (L r) (C r)).getD i (.slice none 0 0)=.slice (A i) (L i) (C i):=by simp [hi']
   have e2:((List.range l0).map fun r=>(Z r).take (L r)).getD i []=(Z i).take (L i):=by simp [hi']
   rw [e1,e2]
   cases hA:A i with
   | none=>
    have hC:=h6 hA
    have hL:L i=0:=by omega
    rw [hC,hL]; exact Sl.nil _ _ _
   | some a'=>
    refine sl_of_cells (by simp; omega) h2 h3 fun j hj=>?_
    rw [(h7 a' hA).2 j (by omega),ints_get _ _ (by simp; omega)]
    simp [hj]
end Go.Proofs.YtcoeneldaohpnaaGreat
namespace Go.Proofs.YtcoeneldaohpnaaGreat
open Go.ChangeShapes Go.WideShapes Go.RowKit Go.Deep
end Go.Proofs.YtcoeneldaohpnaaGreat
