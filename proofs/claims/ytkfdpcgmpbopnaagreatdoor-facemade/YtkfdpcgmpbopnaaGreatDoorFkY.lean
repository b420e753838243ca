import Derived.Test.YtkfdpcgmpbopnaaGreatDoorWyY
import Derived.Test.YtkfdpcgmpbopnaaGreatDoorWysA
import Derived.Test.YtkfdpcgmpbopnaaGreatDoorWiA
import Derived.Test.YtkfdpcgmpbopnaaGreatDoorRefY
import Derived.Test.YtkfdpcgmpbopnaaGreatDoorRowB
import Derived.Test.YtkfdpcgmpbopnaaGreatDoorRowA
import Derived.Test.YtkfdpcgmpbopnaaGreatDoorDatA
import Derived.Deep.OwnRows
import Derived.Test.YtkfdpcgmpbopnaaGreatDoorRefA
namespace Go.Proofs.YtkfdpcgmpbopnaaGreatDoor
open Lin
def sm (t:List (Nat→Int)) (a:Nat→Int) (j:Nat):Int:=sumN t.length fun i=>a i*(t.getD i fun _=>0) j
end Go.Proofs.YtkfdpcgmpbopnaaGreatDoor
namespace Go.Proofs.YtkfdpcgmpbopnaaGreatDoor
open Lin
def sv (t:List (List Int)) (a:Nat→Int) (j:Nat):Int:=sm (t.map V) a j
end Go.Proofs.YtkfdpcgmpbopnaaGreatDoor
namespace Go.Proofs.YtkfdpcgmpbopnaaGreatDoor
open Go.RowKit
end Go.Proofs.YtkfdpcgmpbopnaaGreatDoor
namespace Go.Proofs.YtkfdpcgmpbopnaaGreatDoor
end Go.Proofs.YtkfdpcgmpbopnaaGreatDoor
namespace Go.Proofs.YtkfdpcgmpbopnaaGreatDoor
open Lin
end Go.Proofs.YtkfdpcgmpbopnaaGreatDoor
namespace Go.Proofs.YtkfdpcgmpbopnaaGreatDoor
open Go.RowKit
end Go.Proofs.YtkfdpcgmpbopnaaGreatDoor
namespace Go.Proofs.YtkfdpcgmpbopnaaGreatDoor
open Go.RowKit Lin
attribute [local go_sem ↓] Go.wp_at_zero Go.wp_at_succ
theorem slice_cells {B:Nat} {e:TypeId} {w:World} {a:Addr} {n cap:Nat} {us:List Value} (h:Sl B e w (.slice (some a) n cap) us):∀j u,us[j]?=some u→w.cell? (a.add j)=some u:=by
 intro j u hj
 have hlt:j < us.length:=(List.getElem?_eq_some_iff.1 hj).1
 obtain ⟨ao,c,hv,_,_,h3,_⟩:=h
 obtain ⟨b,o,ha,hc,_⟩:=h3 j hlt
 simp only [Value.slice.injEq] at hv
 rw [←hv.1] at ha
 simp only [Option.some.injEq] at ha
 rw [ha]
 have h5:=hc.trans hj
 unfold Addr.add
 by_cases e:j=0
 ·subst e; simpa using h5
 ·simpa [e] using h5
end Go.Proofs.YtkfdpcgmpbopnaaGreatDoor
