/- PlaneMade: L1 to L3 of every arrangement of at most five planes made of raw numbers (dimension one to three): regions, bounded regions, flats, the polynomial and Check are what the document says, and the faces besides where there are at most four planes. For all arguments. -/
import Derived.Test.YtgfnmkenpgnllaaGreatLsA
import Derived.Test.YtgfnmkenpgnllaaGreatArgsAll
import Derived.ProofKit
import Derived.OpenShut
namespace Go.Proofs.YtgfnmkenpgnllaaGreat.PlaneMade
open Go.ChangeShapes Go.WideShapes Go.ChangeAt Go.RowKit
theorem own:ownKnob Tryz.prog.godebug=none:=by kernel_rfl
set_option maxRecDepth 100000 in
theorem lifted(os:Os)(started:os.Started)(H:Type)(enc:TypeId×Value→H) :
  ReturnsInHanded {} Tryz.checked os 3 .any (Rows.planeMadeSpec.pre6 enc Tryz.prog Tryz.f3 Rows.planeMadeRow.domain false) (Rows.planeMadeSpec.post enc Tryz.prog Tryz.f3 false true false false):=by
 refine returnsInHanded_of_change (C:=Tryz.checked) own started (by kernel_rfl) Tryz.func3
  (ChangeSpec.witness6 (enc:=enc) (C:=Tryz.checked) false ⟨#[],#[.slice none 0 0,.int .i64 0,.int .i64 0],[]⟩ 8 (by kernel_rfl) (by kernel_rfl) (by kernel_rfl) (by kernel_rfl)) ?_
 intro W d b O gs m c E s _
 have a:∀(j:Nat) t v,Tryz.f3.params[j]?=some t→b[j]?=some v→Value.okWide Tryz.prog W .any d t v:=c
 have g:=E;obtain ⟨p,q,i,R,rfl,J,S⟩:=E
 have B:DataW.TrodAll enc Tryz.prog W 0 (fun _=>true) true Tryz.f3.params.toList b.toList O p:=i
 rw [Tryz.params3] at B a;obtain ⟨r,T,d0,L,p0,q0,o,rfl,rfl,z,P⟩:=trodAll_cons B;obtain ⟨A,X,d1,aa,p1,q1,rfl,rfl,rfl,Y,G⟩:=trodAll_cons P;obtain ⟨y,Q,d2,U,p2,q2,rfl,rfl,rfl,h2,r2⟩:=trodAll_cons G;obtain ⟨rfl,rfl,rfl⟩:=trodAll_nil r2
 obtain rfl:b=#[r,A,y]:=by cases b; simp_all
 obtain ⟨rfl,rfl⟩:=trodVars_none R;obtain ⟨a0,l0,c0,rfl⟩:=okWide_slice Tryz.underlying22 (a 0 22 r rfl rfl);obtain ⟨M,n,f⟩:=ZIO z;obtain ⟨N,rfl,rfl,rfl,D⟩:=open_int Tryz.underlying3 (a 1 3 A rfl rfl) Y;obtain ⟨V,rfl,rfl,rfl,F⟩:=open_int Tryz.underlying3 (a 2 3 y rfl rfl) h2
 have l:∀x∈p0,x.block < W.heap.size:=fun x hx=>g.lt x (by simp [hx])
 clear i c
 refine (ZGJ M N V _ W n f (ZIN D) (ZIN F)).mono fun e W' ⟨he,bel⟩=>?_
 subst he
 exact ⟨_,rfl,_,_,_,[],_,[],g,trodAll_mk1 (shut_bool Tryz.underlying4 _),(trodAll_cons_mk (Below.trod Tryz.laidOut (by kernel_rfl) (of_decide_eq_true (by kernel_rfl)) z bel l) (trodAll_cons_mk (shut_int Tryz.underlying3 D) (trodAll_cons_mk (shut_int Tryz.underlying3 F) trodAll_mk0))),rfl,bel.frame _,fun h=>by cases h⟩
theorem over:Rows.planeMadeRow.holds Tryz.pinned (OpenSpec.ofChange Rows.planeMadeSpec):=
 OpenClaim.holds_of_wide 3 Tryz.f3 rfl rfl rfl rfl rfl rfl rfl ⟨rfl,rfl,rfl,rfl,rfl⟩ rfl rfl rfl rfl rfl (by kernel_rfl) Tryz.func3 (by kernel_rfl)
  (of_decide_eq_true (by kernel_rfl)) (by unfold Func.isWrapper; first | (rw [if_pos (by decide +kernel)]; kernel_rfl) | (rw [if_neg (by decide +kernel)]; exact ⟨rfl,rfl⟩))
  (fun os started H enc _=>lifted os started H enc)
end Go.Proofs.YtgfnmkenpgnllaaGreat.PlaneMade
namespace Go.Proofs.YtgfnmkenpgnllaaGreat
theorem planeMade_holds:Rows.PlaneMadeSaid:=PlaneMade.over
#print axioms planeMade_holds
end Go.Proofs.YtgfnmkenpgnllaaGreat
