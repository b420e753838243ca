import Derived.Deep.Matrix
import Derived.Carry
import Derived.Test.YtgfnmkenpgnllaaGreatWyA
namespace Go.Proofs.YtgfnmkenpgnllaaGreat
open Go.ChangeShapes Go.WideShapes Go.RowKit Go.Deep
theorem Tryz.cells3:Tryz.prog.cellsOf 3=1:=by kernel_rfl
theorem Tryz.laidOut:laidOutB Tryz.prog=true:=by kernel_rfl
theorem ZMU{w:World}{a:Addr}{u:Value}(h:w.cell? a=some u):a=⟨a.block,a.off,none⟩:=by
 obtain ⟨b,o,s⟩:=a
 cases s with
 | none=>rfl
 | some s=>
  exfalso
  unfold World.cell? at h
  split at h <;> simp at h
theorem ZIM{w:World}{a:Addr}{len cap:Nat}{e:TypeId}{xs:List Value}(hl:xs.length=len)(h1:len≤cap)(h2:cap≤maxLen)(hc:∀i,i < len→w.cell? (a.add i)=xs[i]?):Sl w.heap.size e w (.slice (some a) len cap) xs:=by
 refine ⟨some a,cap,by rw [hl],by omega,h2,fun i hi=>?_,fun h=>by cases h⟩
 have d:i < len:=by omega
 have g:xs[i]?=some xs[i]:=Za9 hi
 have j:xs[0]?=some xs[0]:=Za9 (by omega)
 have c:=hc i d
 have f:a=⟨a.block,a.off,none⟩:=ZMU (u:=xs[0]) (by have:=hc 0 (by omega); rw [j] at this; simpa [Addr.add] using this)
 obtain ⟨b,o,s⟩:=a;simp only [Addr.mk.injEq,true_and] at f;subst f
 have e:(⟨b,o,none⟩:Addr).add i=⟨b,o+i,none⟩:=by
  unfold Addr.add
  by_cases h:i=0
  ·subst h; simp
  ·simp [h]
 rw [e] at c;exact ⟨b,o,rfl,c,Or.inl (World.block_lt_of_cell? w ⟨b,o+i,none⟩ (c.trans g))⟩
theorem ZIN{n:Int}(h:(Lit.int .i64 n).wf=true):ZFo n:=by
 have a:(decide (IntKind.i64.min≤n) && decide (n≤IntKind.i64.max))=true:=h;simp only [Bool.and_eq_true,decide_eq_true_eq] at a
 have c:IntKind.i64.min=-9223372036854775808:=by decide
 have b:IntKind.i64.max=9223372036854775807:=by decide
 unfold ZFo;omega
theorem ZIO{H:Type}{enc:TypeId×Value→H}{w:World}{ao:Option Addr}{l0 c0:Nat}{d:DataW H}{p:List MemPlace}(h:DataW.Trod enc Tryz.prog w 0 (fun _=>true) true 22 (.slice ao l0 c0) d p):∃zs,Sl w.heap.size 3 w (.slice ao l0 c0) (ZAB zs)∧∀z∈zs,ZFo z:=by
 obtain ⟨c,f⟩:=h
 rcases open_ints Tryz.underlying22 Tryz.underlying3 Tryz.cells3 f with ⟨hcs,_⟩ | ⟨a,len,cap,zs,hcs,_,hl,hm,hz,_,hcell,hwf⟩
 ·simp [Value.cells] at hcs
  obtain ⟨rfl,rfl,rfl⟩:=hcs
  exact ⟨[],Sl.nil _ _ _,fun z hz=>absurd hz (by simp)⟩
 ·simp [Value.cells] at hcs
  simp only [if_true] at hz;obtain ⟨rfl,rfl,rfl⟩:=hcs
  refine ⟨zs.take l0,?_,fun z hz=>ZIN (hwf z (Zaa7 hz))⟩
  have b:(ZAB (zs.take l0)).length=l0:=by simp; omega
  refine ZIM b hl hm fun i hi=>?_
  rw [hcell i (by omega),ZAa _ _ (by simp; omega)]
  simp [hi]
end Go.Proofs.YtgfnmkenpgnllaaGreat
