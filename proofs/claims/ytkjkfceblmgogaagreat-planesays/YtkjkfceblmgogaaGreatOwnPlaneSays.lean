/- PlaneSays: whatever number and planes are handed in, the program answers what the document does: whether they may be, regions, bounded ones, flats, polynomial and faces, errors as well. -/
import Derived.Test.YtkjkfceblmgogaaGreatPlE
import Derived.Test.YtkjkfceblmgogaaGreatArgsAll
import Derived.ProofKit
import Derived.OpenShut
namespace Go.Proofs.YtkjkfceblmgogaaGreat.PlaneSays
open Go.ChangeShapes Go.WideShapes Go.ChangeAt Go.RowKit Go.Deep
theorem own:ownKnob Tryz.prog.godebug=none:=by kernel_rfl
set_option maxRecDepth 100000 in
theorem lifted(os:Os)(started:os.Started)(H:Type)(enc:TypeId×Value→H) :
  ReturnsInHanded {} Tryz.checked os 3 .any (Rows.planeSaysSpec.pre6 enc Tryz.prog Tryz.f3 Rows.planeSaysRow.domain false) (Rows.planeSaysSpec.post enc Tryz.prog Tryz.f3 false true false false):=by
 refine returnsInHanded_of_change (C:=Tryz.checked) own started (by kernel_rfl) Tryz.func3
  (ChangeSpec.witness6 (enc:=enc) (C:=Tryz.checked) false ⟨#[],#[.int .i64 0,.slice none 0 0],[]⟩ 8 (by kernel_rfl) (by kernel_rfl) (by kernel_rfl) (by kernel_rfl)) ?_
 intro W g a D X l b o A _
 have c:∀(j:Nat) t v,Tryz.f3.params[j]?=some t→a[j]?=some v→Value.okWide Tryz.prog W .any g t v:=b
 have i:=o;obtain ⟨p,q,f,N,rfl,O,L⟩:=o
 have y:DataW.TrodAll enc Tryz.prog W 0 (fun _=>true) true Tryz.f3.params.toList a.toList D p:=f
 rw [Tryz.params3] at y c;obtain ⟨s,R,d0,E,p0,V,n,rfl,rfl,F,T⟩:=trodAll_cons y;obtain ⟨z,B,Y,J,P,q1,rfl,rfl,rfl,r,G⟩:=trodAll_cons T;obtain ⟨rfl,rfl,rfl⟩:=trodAll_nil G
 obtain rfl:a=#[s,z]:=by cases a; simp_all
 obtain ⟨rfl,rfl⟩:=trodVars_none N;obtain ⟨M,rfl,rfl,rfl,S⟩:=open_int Tryz.underlying3 (c 0 3 s rfl rfl) F;obtain ⟨a1,l1,U,rfl⟩:=okWide_slice Tryz.underlying22 (c 1 22 z rfl rfl);obtain ⟨Q,m⟩:=ZOM r
 have d:∀x∈P,x.block < W.heap.size:=fun x hx=>i.lt x (by simp [hx])
 clear f b
 refine (ZGT M Q _ W m).mono fun e W' ⟨he,bel⟩=>?_
 subst he
 exact ⟨_,rfl,_,_,_,[],_,[],i,trodAll_mk1 (shut_bool Tryz.underlying4 _),(trodAll_cons_mk (shut_int Tryz.underlying3 S) (trodAll_cons_mk (Below.trod Tryz.laidOut (by kernel_rfl) (of_decide_eq_true (by kernel_rfl)) r bel d) trodAll_mk0)),rfl,bel.frame _,fun h=>by cases h⟩
theorem over:Rows.planeSaysRow.holds Tryz.pinned (OpenSpec.ofChange Rows.planeSaysSpec):=
 OpenClaim.holds_of_wide 3 Tryz.f3 rfl rfl rfl rfl rfl rfl rfl ⟨rfl,rfl,rfl,rfl,rfl⟩ rfl rfl rfl rfl rfl (by kernel_rfl) Tryz.func3 (by kernel_rfl)
  (of_decide_eq_true (by kernel_rfl)) (by unfold Func.isWrapper; first | (rw [if_pos (by decide +kernel)]; kernel_rfl) | (rw [if_neg (by decide +kernel)]; exact ⟨rfl,rfl⟩))
  (fun os started H enc _=>lifted os started H enc)
end Go.Proofs.YtkjkfceblmgogaaGreat.PlaneSays
namespace Go.Proofs.YtkjkfceblmgogaaGreat
theorem planeSays_holds:Rows.PlaneSaysSaid:=PlaneSays.over
#print axioms planeSays_holds
end Go.Proofs.YtkjkfceblmgogaaGreat
