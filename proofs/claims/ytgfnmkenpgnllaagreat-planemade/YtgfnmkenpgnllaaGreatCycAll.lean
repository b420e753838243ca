import Derived.Test.YtgfnmkenpgnllaaGreatDatA
import Derived.Deep.OwnRows
namespace Go.Proofs.YtgfnmkenpgnllaaGreat
def pw(t:Int):Nat→List Int
 | 0=>[]
 | d+1=>pw t d ++ [t ^ (d+1)]
@[simp] theorem ZPu(t:Int)(d:Nat):(pw t d).length=d:=by
 induction d with
 | zero=>rfl
 | succ d ih=>simp [pw,ih]
def ZQt(n d:Nat):Nat→List (List Int)
 | 0=>[]
 | k+1=>ZQt n d k ++ [pw ((k:Int)-(n:Int) / 2) d]
@[simp] theorem ZOY(n d k:Nat):(ZQt n d k).length=k:=by
 induction k with
 | zero=>rfl
 | succ k ih=>simp [ZQt,ih]
end Go.Proofs.YtgfnmkenpgnllaaGreat
namespace Go.Proofs.YtgfnmkenpgnllaaGreat
open Go.RowKit
theorem Tryz.info3:(Tryz.prog.info? 3).map (fun i=>(i.zero,i.size,i.bytes))=some (some (.int .i64 0),1,8):=by kernel_rfl
theorem Tryz.info22:(Tryz.prog.info? 22).map (fun i=>(i.zero,i.size,i.bytes))=some (some (.slice none 0 0),1,24):=by kernel_rfl
theorem Sl.row{B b:Nat}{e:TypeId}{w:World}{n:Nat}{f:Nat→Value}{xs:List Value}(h:w.rowIs b e n f)(hn:xs.length=n)(hm:n≤maxLen)(hx:∀i,i < n→xs[i]?=some (f i)) :
  Sl B e w (.slice (some ⟨b,0,none⟩) n n) xs:=by
 refine ⟨_,n,by rw [hn],by omega,hm,fun i hi=>⟨b,0,rfl,?_,?_⟩,fun h=>by cases h⟩
 ·rw [hx i (by omega),Nat.zero_add]; exact h.cell (by omega)
 ·obtain ⟨c,a,_,_⟩:=h; exact Or.inr ⟨c,a⟩
def ZCi(p:Int→Bool)(zs:List Int):Int:=if zs.any p then (zs.findIdx p:Int) else -1
theorem ZA9{k:IntKind}{a b:Int}(h:a=b):Ending.returned (.int k a)=.returned (.int k b):=by rw [h]
theorem ZGL{p:Int→Bool}{l:List Int}{k:Nat}(h:k < l.length)(h0:(l.take k).any p=false)(h1:p l[k]=true):ZCi p l=k:=by
 have b:l.any p=true:=ZJq h h1
 have a:l.findIdx p=k:=by
  rw [List.findIdx_eq h]
  refine ⟨h1,fun j hj=>?_⟩
  have:=List.any_eq_false.1 h0 l[j] (by rw [List.mem_take_iff_getElem]; exact ⟨j,by omega,rfl⟩)
  simpa using this
 simp [ZCi,b,a]
theorem ZCc{p:Int→Bool}{l:List Int}(h0:l.any p=false):ZCi p l=-1:=by
 unfold ZCi; rw [h0]; rfl
theorem ZMV{p:Int→Bool}{l:List Int} : decide (0≤ZCi p l)=l.any p:=by
 cases h:l.any p
 ·rw [ZCc h]; rfl
 ·unfold ZCi; rw [h]; simp
end Go.Proofs.YtgfnmkenpgnllaaGreat
