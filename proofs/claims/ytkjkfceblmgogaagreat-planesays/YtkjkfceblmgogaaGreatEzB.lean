import Derived.Test.YtkjkfceblmgogaaGreatEzA
set_option maxRecDepth 100000
set_option maxHeartbeats 4000000
namespace Go.Proofs.YtkjkfceblmgogaaGreat
open Go.RowKit
attribute [local go_sem ↓] Go.wp_at_zero Go.wp_at_succ
theorem ZL0{b o n c k:Nat}(h1:k+1 < n)(h2:n≤c)(w:World):(Instr.slice 27 (.slice (some ⟨b,o,none⟩) n c) (some (.int .i64 ((k:Int)+1))) none none).run Tryz.prog w=.ok (.slice (some ⟨b,o+(k+1),none⟩) (n-(k+1)) (c-(k+1))) w:=by
 have a:(0:Int)≤(k:Int)+1∧(k:Int)+1≤(n:Int):=by omega
 have f:((k:Int)+1).toNat=k+1:=by omega
 have g:¬c=k+1:=by omega
 have d:∀w,(Go.sizeOf 3).run Tryz.prog w=.ok 1 w:=fun w=>by kernel_rfl
 simp [Instr.slice,Instr.sliceBounds,Instr.sliceBound,run_underlying Tryz.underlying27,asIntOf,a,f,g,d,Addr.add,go_sem]
theorem Sl.tailE{B:Nat}{w:World}{b o n c j:Nat}{zs:List Int}(h:Sl B 3 w (.slice (some ⟨b,o,none⟩) n c) (ZAB zs))(hj:j≤n):Sl B 3 w (.slice (some ⟨b,o+j,none⟩) (n-j) (c-j)) (ZAB (zs.drop j)):=by
 obtain ⟨t,m,hv,g,y,r,x⟩:=h;simp only [Za3,ZA2] at hv g;obtain ⟨rfl,f,rfl⟩:=hv
 refine ⟨some ⟨b,o+j,none⟩,c-j,by simp [f],by simp; omega,by omega,fun i hi=>?_,fun h=>by cases h⟩
 have p:i < zs.length-j:=by simpa using hi
 obtain ⟨s,v,a,l,d⟩:=r (j+i) (by simp; omega)
 simp only [Zaa9,Addr.mk.injEq] at a;obtain ⟨rfl,rfl,_⟩:=a;refine ⟨b,o+j,rfl,?_,d⟩
 rw [show o+j+i=o+(j+i) by omega,l,ZAZ _ _ (by omega),ZAZ _ _ (by simp; omega)]
 simp [show j+i < zs.length by omega]
theorem ZL1{B:Nat}{e:TypeId}{w:World}{a:Addr}{n cap:Nat}{xs:List Value}(h:Sl B e w (.slice (some a) n cap) xs):∀j u,xs[j]?=some u→w.cell? (a.add j)=some u:=by
 intro j u g;have d:=(List.getElem?_eq_some_iff.1 g).1;obtain ⟨p,c,hv,m,s,l,r⟩:=h;simp only [Za3] at hv;obtain ⟨rfl,_,rfl⟩:=hv;obtain ⟨b,o,i,f,_⟩:=l j d
 cases i
 rw [g] at f
 by_cases ej:j=0
 ·subst ej; simpa [Addr.add] using f
 ·simpa [Addr.add,ej] using f
theorem ZL2(k:Nat)(r:List Int)(v:Value)(w:World)(hv:Sl 0 3 w v (ZAB r))(hk:k+1 < r.length)(hn:r.length≤10) :
  Calls Tryz.prog 68 #[v,.int .i64 k] w fun e w'=>∃u,e=.returned u∧w'.ownsRow w.heap.size 3 1 u (r.length-1) (ZAB (drE r k))∧Below w.heap.size w w':=by
 obtain ⟨i3,Q,J,A,L⟩:=info_parts Tryz.info3
 obtain ⟨b,o,c,p,E,_⟩:=ZAK hv (k:=k) (by omega)
 subst p
 obtain ⟨n,f⟩:∃n,n=r.length:=⟨_,rfl⟩
 rw [←f] at hv E hk hn ⊢
 have HT:∀w,(Instr.slice 27 (.slice (some ⟨b,o,none⟩) n c) (some (.int .i64 ((k:Int)+1))) none none).run Tryz.prog w=.ok (.slice (some ⟨b,o+(k+1),none⟩) (n-(k+1)) (c-(k+1))) w:=fun w=>ZL0 (by omega) E w
 have P:Hid (Calls Tryz.prog 22 #[.slice (some ⟨b,o,none⟩) k c] w.drew fun e w'=>∃t z,e=.returned (.slice t k z)∧w'.ownsRow w.heap.size 3 1 (.slice t k z) k (ZAB (r.take k))∧Below w.heap.size w w'):=by
  have F:=hv;rw [f] at F
  have h1:Sl 0 3 w (.slice (some ⟨b,o,none⟩) k c) (ZAB (r.take k)):=Sl.takeE F (by omega)
  refine (ZBj 0 (r.take k) _ w.drew (h1.drewN 1) (by simp; omega)).mono ?_
  rintro e w' ⟨u,rfl,U,R⟩
  have e1:(r.take k).length=k:=by rw [List.length_take]; omega
  rw [e1] at U;obtain ⟨t,z,rfl⟩:=ZAE U;exact ⟨t,z,rfl,U,((Below.refl _ _).drew (B:=w.heap.size)).trans R⟩
 have T:Hid (∀W,Below w.heap.size w W→∀j u,(ZAB (r.drop (k+1)))[j]?=some u→W.cell? ((⟨b,o+(k+1),none⟩:Addr).add j)=some u):=fun W R=>ZL1 ((Sl.tailE (j:=k+1) hv (by omega)).below R (Za4 _))
 have D:Hid (ZAB (r.take k) ++ ZAB (r.drop (k+1))=ZAB (drE r k)):=by show _=_; unfold drE; simp [ZAB]
 have V:Hid ((ZAB (r.drop (k+1))).length=(n-(k+1))*1):=by show _=_; simp [ZAB,←f]
 have ah:(0:Int)≤(k:Int):=by omega
 have af:(k:Int)≤(c:Int):=by omega
 have ae:k≤c:=by omega
 have ag:IntKind.i64.wrap ((k:Int)+1)=(k:Int)+1:=by rw [IntKind.wrap_i64]; omega
 have ai:wrap64 ((k:Int)+1)=(k:Int)+1:=IntWalk.wrap64_in _ ⟨by omega,by omega⟩
 have Y:Hid (k+(n-(k+1))=n-1):=by show _=_; omega
 have aa:Hid (n≤10∧k+1 < n):=⟨hn,hk⟩;clear hv f;go_enter Tryz.func68,Tryz.ntmps68
 go_upto_region 1 with fail
 refine wp_region_held_drew (S:=fun _=>True) (by kernel_rfl) trivial (fun hHeld=>?_)
 refine ZAA (i:=0) (d:=5) (v:=.slice (some ⟨b,o,none⟩) n c) rfl rfl (by kernel_rfl) (by kernel_rfl) (by kernel_rfl) (fun _ _ _ h=>h) (.inl ⟨by rfl,by (intro m a; (try dsimp only at a); go_simp; (try (first | rfl | omega)))⟩) hHeld ?_
 simp only [Act.put,Za1,List.set]
 refine ZAA (i:=1) (d:=6) (v:=.int .i64 k) rfl rfl (by kernel_rfl) (by kernel_rfl) (by kernel_rfl) (fun _ _ _ h=>h) (.inl ⟨by rfl,by (intro m a; (try dsimp only at a); go_simp; (try (first | rfl | omega)))⟩) hHeld ?_
 simp only [Act.put,Za1,List.set]
 refine ZAA (i:=2) (d:=7) (v:=.slice (some ⟨b,o,none⟩) k c) rfl rfl (by kernel_rfl) (by kernel_rfl) (by kernel_rfl) (fun _ _ _ h=>h) (.inl ⟨by rfl,by (intro m a; (try dsimp only at a); go_simp; (try (first | rfl | omega)))⟩) hHeld ?_
 simp only [Act.put,Za1,List.set]
 refine ZAA (i:=4) (d:=9) (v:=.slice (some ⟨b,o,none⟩) n c) rfl rfl (by kernel_rfl) (by kernel_rfl) (by kernel_rfl) (fun _ _ _ h=>h) (.inl ⟨by rfl,by (intro m a; (try dsimp only at a); go_simp; (try (first | rfl | omega)))⟩) hHeld ?_
 simp only [Act.put,Za1,List.set]
 refine ZAA (i:=5) (d:=10) (v:=.int .i64 k) rfl rfl (by kernel_rfl) (by kernel_rfl) (by kernel_rfl) (fun _ _ _ h=>h) (.inl ⟨by rfl,by (intro m a; (try dsimp only at a); go_simp; (try (first | rfl | omega)))⟩) hHeld ?_
 simp only [Act.put,Za1,List.set]
 refine ZAA (i:=6) (d:=11) (v:=.int .i64 ((k:Int)+1)) rfl rfl (by kernel_rfl) (by kernel_rfl) (by kernel_rfl) (fun _ _ _ h=>h) (.inl ⟨by rfl,by (intro m a; (try dsimp only at a); go_simp; (try (first | rfl | omega)))⟩) hHeld ?_
 simp only [Act.put,Za1,List.set]
 refine ZAA (i:=7) (d:=12) (v:=.slice (some ⟨b,o+(k+1),none⟩) (n-(k+1)) (c-(k+1))) rfl rfl (by kernel_rfl) (by kernel_rfl) (by kernel_rfl) (fun _ _ _ h=>h) (.inl ⟨by rfl,by (intro m a; (try dsimp only at a); go_simp; (try (first | rfl | omega)))⟩) hHeld ?_
 simp only [Act.put,Za1,List.set]
 refine wpAnyH_ready (rs:=[3]) (by kernel_rfl) (by simp) ?_
 refine ZAF (i:=3) rfl (by rfl) (fun K hK=>?_) AllReadyH.nil
 go_simp;refine P.out.mono ?_;rintro e w6 ⟨t,z,rfl,y,s⟩
 refine hK.out _ _ trivial (fun hHeld=>?_)
 clear hK K;have G:=hid y;have l:=hid s
 have N:Hid (∀j u,(ZAB (r.drop (k+1)))[j]?=some u→w6.cell? ((⟨b,o+(k+1),none⟩:Addr).add j)=some u):=T.out w6 s
 clear y s
 refine wpAnyH_ready (rs:=[8]) (by kernel_rfl) (by simp) ?_
 refine ZAF (i:=8) rfl (by rfl) (fun K hK=>?_) AllReadyH.nil
 refine ZAb (.tmp 8) (.tmp 12) 27 (by rfl) w.heap.size 3 i3 (.int .i64 0) 1 8 Tryz.underlying27 Q J A L rfl (by decide) _ _ _ (by rfl) G.out ⟨b,o+(k+1),none⟩ (n-(k+1)) (c-(k+1)) (ZAB (r.drop (k+1))) (by rfl) V.out N.out (ZB2 _) (by unfold maxLen; omega) (by omega) l.out.size ?_
 intro v' w7 g M _;rw [Y.out,D.out] at g
 refine hK.out _ _ trivial (fun hHeld=>?_)
 clear hK K;simp only [Act.put,Za1,List.set];obtain ⟨vo,vc,p⟩:=ZAE g;subst p;have O:=hid g
 have X:Hid (Below w.heap.size w w7):=l.out.grown M l.out.size (fun x hx=>(G.out.lt x hx).1)
 clear g M
 refine ZAA (i:=9) (d:=4) (v:=.slice vo (n-1) vc) rfl rfl (by kernel_rfl) (by kernel_rfl) (by kernel_rfl) (fun _ _ _ h=>h) (.inl ⟨by rfl,by (intro m a; (try dsimp only at a); go_simp; (try (first | rfl | omega)))⟩) hHeld ?_
 simp only [Act.put,Za1,List.set]
 refine wpAnyH_done (by kernel_rfl) ?_ _
 clear hHeld;go_wp2;go_ret;exact ⟨_,rfl,O.out,X.out⟩
def ZEr(k:Nat)(f:List Int):List (List Int):=if f.getD k 0=0 then [drE f k] else []
def ZHE(k:Nat)(f s:List Int):List (List Int):=if 0 < f.getD k 0∧s.getD k 0 < 0 then [drE (cmE (-(s.getD k 0)) f (f.getD k 0) s) k] else []
def ZE4(rows:List (List Int))(k:Nat)(f:List Int)(j:Nat):List (List Int):=(rows.take j).flatMap (ZHE k f)
def ZIF(rows:List (List Int))(k:Nat)(f:List Int):List (List Int):=ZEr k f ++ ZE4 rows k f rows.length
def ZCx(rows:List (List Int))(k i:Nat):List (List Int):=(rows.take i).flatMap (ZIF rows k)
theorem ZL3{rows:List (List Int)}{k:Nat}{f:List Int}{j:Nat}(h:j < rows.length):ZE4 rows k f (j+1)=ZE4 rows k f j ++ ZHE k f (rows.getD j []):=by
 unfold ZE4;rw [Zaa1 h,List.flatMap_append];simp [h]
theorem ZJr{rows:List (List Int)}{k i:Nat}(h:i < rows.length):ZCx rows k (i+1)=ZCx rows k i ++ ZIF rows k (rows.getD i []):=by
 unfold ZCx;rw [Zaa1 h,List.flatMap_append];simp [h]
theorem ZL4(k:Nat)(f s:List Int):(ZHE k f s).length≤1:=by unfold ZHE; split <;> simp
theorem ZHF(k:Nat)(f:List Int):(ZEr k f).length≤1:=by unfold ZEr; split <;> simp
theorem ZJE(rows:List (List Int))(k:Nat)(f:List Int)(j:Nat):(ZE4 rows k f j).length≤rows.length:=by
 have h:=ZCA (g:=ZHE k f) (b:=1) (rows.take j) (fun s _=>ZL4 k f s)
 unfold ZE4;simp only [List.length_take] at h;omega
theorem ZJs{rows:List (List Int)}{k i:Nat}(h:rows.length≤4096):(ZCx rows k i).length≤16781312:=by
 have c:=ZCA (g:=ZIF rows k) (b:=4097) (rows.take i) (fun f _=>by
  unfold ZIF;have a:=ZHF k f;have b:=ZJE rows k f rows.length;rw [Zaa4]; omega)
 unfold ZCx;simp only [List.length_take] at c
 have d:min i rows.length*4097≤4096*4097:=Nat.mul_le_mul_right _ (by omega)
 omega
theorem ZL5(rows:List (List Int))(k:Nat):ZCx rows k rows.length=eaO k rows:=by
 unfold ZCx eaO ZIF ZE4;rw [List.take_length];rfl
theorem ZRu{a b:Int}(ha:a.natAbs≤2000000)(hb:b.natAbs≤2000000) : -4000000000000≤a*b∧a*b≤4000000000000:=by
 have:=ZRi ha hb;omega
theorem ZIG{v u:Int}{f s:List Int}{n:Nat}(hf:f.length=n)(hv:v.natAbs≤2000000)(hu:u.natAbs≤2000000)(hfb:∀z∈f,z.natAbs≤2000000)(hsb:∀z∈s,z.natAbs≤2000000):(cmE v f u s).length=n∧∀z∈cmE v f u s,z.natAbs≤8000000000000:=
 ⟨by rw [ZIE,hf],fun z hz=>by have:=ZOo hv hu hfb hsb z hz; omega⟩
theorem ZCX{w W w3 : World}{x u v' : Value}{m : List (List Int)}{vs : List Value}{zs : List Int}(hb : Below w.heap.size w W)(g1 : vs.length = m.length)(g2 : W.ownsRow w.heap.size 27 1 x m.length vs)(g3 : ∀ i, i < m.length → Sl 0 3 W (vs.getD i (.slice none 0 0)) (ZAB (m.getD i [])))(hu : Sl 0 3 W u (ZAB zs))
 (ho : w3.ownsRow w.heap.size 27 1 v' (m.length + 1) (vs ++ [u]))(hg : (W.alloc (.cells #[u] 27)).grownBy w3 x.ownBlock) : Fr w.heap.size 27 3 w3 v' (m ++ [zs]) ∧ Below w.heap.size w w3 :=
  ⟨Fr.push (e2 := 27) (e1 := 3) (m := m) (u := u) (zs := zs) (by decide) g1 (g2.alloc _) (fun i hi => (g3 i hi).alloc _) (hu.alloc _) ho hg,
   (hb.alloc hb.size _).grown hg (by have := hb.size; simp; omega) (fun x hx => (g2.lt x hx).1)⟩
theorem ZL6(d k:Nat)(rows:List (List Int))(v:Value)(w:World)(hv:Mat 0 27 3 w v rows)(hc:∀r∈rows,r.length=d+1∧∀z∈r,z.natAbs≤2000000)(hdk:d=k+2)(hd3:d≤4)(hn12:rows.length≤4096) :
  Calls Tryz.prog 41 #[v,.int .i64 k] w fun e w'=>∃x s,e=.returned x∧Fr w.heap.size 27 3 w' x s∧ZGH s∧(∀r,r∈s↔r∈(eaO k rows).map lmE)∧Below w.heap.size w w':=by
 obtain ⟨i0,hi,bi,bg,aM⟩:=info_parts Tryz.info27;obtain ⟨i3,bU,aK,aB,aL⟩:=info_parts Tryz.info3;obtain ⟨ro,rc,dM,fs,fA⟩:=ZAD hv;subst dM;have HV:Hid (Mat 0 27 3 w (.slice ro rows.length rc) rows):=hv;have HC:=hid hc
 have hk:k < d:=by omega
 have cR:=hid hdk;clear hv hc hdk;go_enter Tryz.func41,Tryz.ntmps41;go_wp2
 go_loopw [5,6] (fun x i wr=>∃p:Nat,p≤rows.length∧i=.int .i64 p∧Fr w.heap.size 27 3 wr x (ZCx rows k p)∧Below w.heap.size w wr) (fun _ i _=>rows.length-(intOf i).toNat)
 case atStart=>exact ⟨0,Za5 _,rfl,Fr.nil _ _ _ _,Below.refl _ _⟩
 case round=>
  obtain ⟨p,hp,rfl,Q,D⟩:=hrel
  obtain ⟨G,rfl⟩:∃G,G=wr:=⟨_,rfl⟩
  have HB:=hid D;have cV:w.heap.size≤G.heap.size:=D.size
  by_cases hlt:p < rows.length
  ·have cD:Hid (ZCx rows k (p+1)=ZCx rows k p ++ ZIF rows k (rows.getD p [])):=ZJr hlt
   have dg:Hid ((ZCx rows k p).length≤16781312):=ZJs hn12;obtain ⟨b,o,cp,fv,hs,_,bN,aP⟩:=ZAP HV.out hlt;simp only [Za3] at hs;obtain ⟨rfl,-,rfl⟩:=hs
   have aR:rows.getD p []∈rows:=by rw [Za2,Za9 hlt]; exact List.getElem_mem _
   obtain ⟨f,hf⟩:∃f,f=rows.getD p []:=⟨_,rfl⟩
   rw [←hf] at aP aR cD;clear hf;have ag:Hid (f.length=d+1):=(HC.out f aR).1
   have aj:Hid (∀z∈f,z.natAbs≤2000000):=(HC.out f aR).2
   obtain ⟨fb,fo,fc,cP,cw,bW⟩:=ZAK aP (k:=k) (by rw [ag.out]; omega)
   rw [ag.out] at cP cw;subst cP
   have bz:Hid (∀W,Below w.heap.size w W→Sl 0 3 W (.slice (some ⟨fb,fo,none⟩) (d+1) fc) (ZAB f)):=fun W hb=>aP.below hb (Za4 _)
   have aV:Hid (∀W,Below w.heap.size w W→W.cell? ⟨b,o+p,none⟩=some (.slice (some ⟨fb,fo,none⟩) (d+1) fc)∧W.cell? ⟨fb,fo+k,none⟩=some (.int .i64 (f.getD k 0))):=fun W hb=>⟨(hb.cell (ZAH bN)).trans bN,(hb.cell (ZAH bW)).trans bW⟩
   have bQ:Hid (ZEr k f=if f.getD k 0=0 then [drE f k] else []):=rfl
   have dQ:Hid (∀s,ZHE k f s=if 0 < f.getD k 0∧s.getD k 0 < 0 then [drE (cmE (-(s.getD k 0)) f (f.getD k 0) s) k] else []):=fun _=>rfl
   have cB:Hid (∀(r:List Int) (X:Option Addr) (sc:Nat) (W:World),r.length=d+1→Sl 0 3 W (.slice X (d+1) sc) (ZAB r)→Calls Tryz.prog 68 #[.slice X (d+1) sc,.int .i64 k] W fun e w'=>∃T U,e=.returned (.slice T d U)∧Sl 0 3 w' (.slice T d U) (ZAB (drE r k))∧Below W.heap.size W w'):=fun r X sc W hl hs=>by
    refine (ZL2 k r _ W hs (by omega) (by omega)).mono ?_
    rintro e w' ⟨u,rfl,J,hb⟩
    rw [hl,show d+1-1=d by omega] at J
    obtain ⟨T,U,rfl⟩:=ZAE J;exact ⟨T,U,rfl,Sl.own J,hb⟩
   have bw:(f.getD k 0).natAbs≤2000000:=ZNw aj.out;obtain ⟨a0,a1⟩:=aV.out G HB.out;obtain ⟨vs,g1,g2,g3⟩:=Q;have aw:Hid (Fr w.heap.size 27 3 G u5 (ZCx rows k p)):=⟨vs,g1,g2,g3⟩;clear D bN aP bW aR g1 g2 g3 vs;generalize f.getD k 0=fk at *;generalize ZCx rows k p=A at *
   have fC:(p:Int) < (rows.length:Int):=by omega
   have dX:(0:Int)≤(p:Int):=by omega
   have ff:(0:Int)≤(k:Int):=by omega
   have fz:(k:Int) < (d:Int)+1:=by omega
   by_cases h0:fk=0
   case' pos=>
    have aX:Hid (A ++ ZEr k f=A ++ [drE f k]):=by show _=_; rw [bQ.out,if_pos h0]
    have cE:(fk == 0)=true:=by simpa using h0
    go_wp2_with fail
    refine (cB.out f _ _ G ag.out (bz.out G HB.out)).mono ?_;rintro e Y ⟨T,U,rfl,aJ,N⟩;have aG:Hid (Below w.heap.size w Y):=HB.out.trans (N.mono cV);obtain ⟨vs,g1,g2,g3⟩:=aw.out.below N (Za4 _);have G2:=hid g2
    have R:Hid (∀O E,E.ownsRow w.heap.size 27 1 O (A.length+1) (vs ++ [.slice T d U])→(Y.alloc (.cells #[.slice T d U] 27)).grownBy E u5.ownBlock→Fr w.heap.size 27 3 E O (A ++ [drE f k])∧Below w.heap.size w E):=fun O E J V=>ZCX aG.out g1 g2 g3 aJ J V
    have aE:w.heap.size≤Y.heap.size:=aG.out.size;have dl:=dg.out;clear aJ N g1 g2 g3 a0 a1
    go_wp2_with (first | (at_builtin; refine wpList_append_own _ rfl _ _ 22 rfl w.heap.size 27 i0 (.slice none 0 0) 1 24 Tryz.underlying22 hi bi bg aM rfl (by decide) _ _ _ rfl (G2.out.alloc _) ⟨Y.heap.size,0,none⟩ 1 1 [.slice T d U] rfl rfl (ZAS _ _ _) (ZAM _ _ _) ?d3 ?d4 ?d5 ?_))
    case d3=>unfold maxLen; omega
    case d4=>omega
    case d5=>first | omega | (simp; omega)
    intro x5 W J V _;obtain ⟨q1,q2⟩:=R.out x5 W J V
    have aU:Hid (Fr w.heap.size 27 3 W x5 (A ++ ZEr k f)):=by show Fr _ _ _ _ _ _; rw [aX.out]; exact q1
    have bL:=hid q2;clear q1 q2 J V R G2;go_wp2
   case' neg=>
    have aX:Hid (A ++ ZEr k f=A):=by show _=_; rw [bQ.out,if_neg h0,List.append_nil]
    have cE:(fk == 0)=false:=by simpa using h0
    go_wp2
    obtain ⟨x5,bh⟩:∃x5,x5=u5:=⟨_,rfl⟩
    rw [←bh] at aw ⊢;clear bh
    have aU:Hid (Fr w.heap.size 27 3 G x5 (A ++ ZEr k f)):=by show Fr _ _ _ _ _ _; rw [aX.out]; exact aw.out
    have bL:Hid (Below w.heap.size w G):=HB.out
    obtain ⟨W,rfl⟩:∃W,W=G:=⟨_,rfl⟩
    clear a0 a1
   all_goals
    clear aX h0 cE aw bQ;have cU:Hid ((ZEr k f).length≤1):=ZHF k f
    obtain ⟨D1,bM⟩:∃D1,D1=ZEr k f:=⟨_,rfl⟩
    have dL:Hid (ZEr k f=D1):=bM.symm;rw [←bM] at cU aU;clear bM
    go_loopw [5,7] (fun x j m=>∃q:Nat,q≤rows.length∧j=.int .i64 q∧Fr w.heap.size 27 3 m x (A ++ D1 ++ ZE4 rows k f q)∧Below w.heap.size w m) (fun _ j _=>rows.length-(intOf j).toNat)
    case atStart=>exact ⟨0,Za5 _,rfl,(by have h:=aU.out; simp only [ZE4,List.take_zero,List.flatMap_nil,List.append_nil]; exact h),bL.out⟩
    case round=>
     clear aU bL;obtain ⟨q,hq,rfl,Q,D⟩:=hrel
     obtain ⟨m,rfl⟩:∃m,m=wr:=⟨_,rfl⟩
     have ak:=hid D;have aN:=hid Q;have bv:w.heap.size≤m.heap.size:=D.size;obtain ⟨a0,a1⟩:=aV.out m D;clear D Q
     by_cases hlq:q < rows.length
     ·have ah:Hid (ZE4 rows k f (q+1)=ZE4 rows k f q ++ ZHE k f (rows.getD q [])):=ZL3 hlq
      have dS:Hid ((ZE4 rows k f q).length≤rows.length):=ZJE rows k f q;obtain ⟨b',o',fB,sv,hs,_,bD,aW⟩:=ZAP HV.out hlq;simp only [Za3,Zaa9,Addr.mk.injEq,and_true] at hs;obtain ⟨⟨rfl,rfl⟩,-,-⟩:=hs
      have aY:rows.getD q []∈rows:=by rw [Za2,Za9 hlq]; exact List.getElem_mem _
      obtain ⟨s,hs⟩:∃s,s=rows.getD q []:=⟨_,rfl⟩
      rw [←hs] at aW aY ah;clear hs;have aT:Hid (s.length=d+1):=(HC.out s aY).1
      have bO:Hid (∀z∈s,z.natAbs≤2000000):=(HC.out s aY).2
      obtain ⟨sb,X,sc,da,db,bC⟩:=ZAK aW (k:=k) (by rw [aT.out]; omega)
      rw [aT.out] at da db;subst da
      have cA:Hid (∀W,Below w.heap.size w W→Sl 0 3 W (.slice (some ⟨sb,X,none⟩) (d+1) sc) (ZAB s)):=fun W hb=>aW.below hb (Za4 _)
      have bE:Hid (∀W,Below w.heap.size w W→W.cell? ⟨b,o+q,none⟩=some (.slice (some ⟨sb,X,none⟩) (d+1) sc)∧W.cell? ⟨sb,X+k,none⟩=some (.int .i64 (s.getD k 0))):=fun W hb=>⟨(hb.cell (ZAH bD)).trans bD,(hb.cell (ZAH bC)).trans bC⟩
      have bp:(s.getD k 0).natAbs≤2000000:=ZNw bO.out;have cS:=dQ.out s;have ay:=hid cS;obtain ⟨e0,e1⟩:=bE.out m ak.out;clear cS bD aW bC aY;generalize s.getD k 0=sk at *
      have fi:(q:Int) < (rows.length:Int):=by omega
      have dZ:(0:Int)≤(q:Int):=by omega
      by_cases hfp:0 < fk
      ·have cg:decide (0 < fk)=true:=decide_eq_true hfp
       by_cases hsn:sk < 0
       ·have cj:decide (sk < 0)=true:=decide_eq_true hsn
        have aH:Hid (ZE4 rows k f (q+1)=ZE4 rows k f q ++ [drE (cmE (-sk) f fk s) k]):=by show _=_; rw [ah.out,ay.out,if_pos ⟨hfp,hsn⟩]
        have cr:=ZIG (v:=-sk) (u:=fk) (f:=f) (s:=s) ag.out (by rw [Int.natAbs_neg]; exact bp) bw aj.out bO.out
        have az:Hid ((cmE (-sk) f fk s).length=d+1):=cr.1
        have cq:Hid (∀t,t < d+1→(cmE (-sk) f fk s).getD t 0=-sk*f.getD t 0+fk*s.getD t 0):=fun t ht=>ZFZ (by rw [ag.out]; exact ht)
        clear cr ay ah;generalize cmE (-sk) f fk s=cb at *;go_wp2
        go_loopw [8,9] (fun x c L=>∃t:Nat,t≤d+1∧c=.int .i64 t∧L.ownsRow m.heap.size 3 1 x t (ZAB (cb.take t))∧Below m.heap.size m L) (fun _ c _=>d+1-(intOf c).toNat)
        case atStart=>exact ⟨0,Za5 _,rfl,World.ownsRow_nil _ _ _ _,Below.refl _ _⟩
        case round=>
         clear a0 a1 e0 e1;obtain ⟨t,ht,rfl,bZ,bV⟩:=hrel
         obtain ⟨L,rfl⟩:∃L,L=wr:=⟨_,rfl⟩
         have aZ:=hid bV;have au:Hid (Below w.heap.size w L):=ak.out.trans (bV.mono bv);have aO:=hid bZ;obtain ⟨a0,a1⟩:=aV.out L au.out;obtain ⟨e0,e1⟩:=bE.out L au.out;obtain ⟨xo,xc,dK⟩:=ZAE bZ;subst dK;clear bV bZ
         by_cases hlt2:t < d+1
         ·have aD:Hid (ZAB (cb.take (t+1))=ZAB (cb.take t) ++ [.int .i64 (-sk*f.getD t 0+fk*s.getD t 0)]):=by
           show _=_
           rw [ZBz cb t (by rw [az.out]; exact hlt2),cq.out t hlt2]
           simp [ZAB]
          obtain ⟨dO,dh,dE,ae,_,am⟩:=ZAK (bz.out L au.out) (k:=t) (by rw [ag.out]; exact hlt2)
          simp only [Za3,Zaa9,Addr.mk.injEq,and_true] at ae;obtain ⟨⟨rfl,rfl⟩,-,-⟩:=ae
          obtain ⟨dA,dz,du,aa,_,aq⟩:=ZAK (cA.out L au.out) (k:=t) (by rw [aT.out]; exact hlt2)
          simp only [Za3,Zaa9,Addr.mk.injEq,and_true] at aa;obtain ⟨⟨rfl,rfl⟩,-,-⟩:=aa;have bl:(f.getD t 0).natAbs≤2000000:=ZNw aj.out;have bu:(s.getD t 0).natAbs≤2000000:=ZNw bO.out
          obtain ⟨ft,bJ⟩:∃ft,ft=f.getD t 0:=⟨_,rfl⟩
          obtain ⟨st,bT⟩:∃st,st=s.getD t 0:=⟨_,rfl⟩
          have dJ:Hid (f.getD t 0=ft):=bJ.symm;have dH:Hid (s.getD t 0=st):=bT.symm;rw [←bJ] at am bl aD;rw [←bT] at aq bu aD;clear bJ bT
          have m1:=ZRu (a:=-sk) (b:=ft) (by rw [Int.natAbs_neg]; exact bp) bl
          have m2:=ZRu (a:=fk) (b:=st) bw bu
          obtain ⟨P1,bY⟩:∃P1,P1=-sk*ft:=⟨_,rfl⟩
          obtain ⟨P2,bX⟩:∃P2,P2=fk*st:=⟨_,rfl⟩
          rw [←bY] at m1 aD;rw [←bX] at m2 aD
          have n1:IntKind.i64.wrap (-sk)=-sk:=by rw [IntKind.wrap_i64]; omega
          have n2:wrap64 (-sk)=-sk:=IntWalk.wrap64_in _ ⟨by omega,by omega⟩
          have n3:IntKind.i64.wrap (-sk*ft)=P1:=by rw [IntKind.wrap_i64]; omega
          have n4:wrap64 (-sk*ft)=P1:=by rw [←bY]; exact IntWalk.wrap64_in _ ⟨by omega,by omega⟩
          have n5:IntKind.i64.wrap (fk*st)=P2:=by rw [IntKind.wrap_i64]; omega
          have n6:wrap64 (fk*st)=P2:=by rw [←bX]; exact IntWalk.wrap64_in _ ⟨by omega,by omega⟩
          have n7:IntKind.i64.wrap (P1+P2)=P1+P2:=by rw [IntKind.wrap_i64]; omega
          have n8:wrap64 (P1+P2)=P1+P2:=IntWalk.wrap64_in _ ⟨by omega,by omega⟩
          have cO:Hid (∀W',Below L.heap.size L W'→W'.cell? ⟨b,o+p,none⟩=some (.slice (some ⟨fb,fo,none⟩) (d+1) fc)∧W'.cell? ⟨b,o+q,none⟩=some (.slice (some ⟨sb,X,none⟩) (d+1) sc)∧W'.cell? ⟨fb,fo+k,none⟩=some (.int .i64 fk)∧W'.cell? ⟨sb,X+k,none⟩=some (.int .i64 sk)∧W'.cell? ⟨fb,fo+t,none⟩=some (.int .i64 ft)∧W'.cell? ⟨sb,X+t,none⟩=some (.int .i64 st)):=fun W' h=>⟨(h.cell (ZAH a0)).trans a0,(h.cell (ZAH e0)).trans e0,(h.cell (ZAH a1)).trans a1,(h.cell (ZAH e1)).trans e1,(h.cell (ZAH am)).trans am,(h.cell (ZAH aq)).trans aq⟩
          have de:Hid ((L.drew).ownsRow m.heap.size 3 1 (.slice xo t xc) t (ZAB (cb.take t))):=ZAQ aO.out (Below.drew (Below.refl _ _)) (Za4 _);have bI:Hid (Below m.heap.size m L.drew):=Below.drew aZ.out;have dy:Hid (((L.drew).alloc (.cells #[.int .i64 (P1+P2)] 3)).ownsRow m.heap.size 3 1 (.slice xo t xc) t (ZAB (cb.take t))):=de.out.alloc _
          have bq:Hid (m.heap.size≤((L.drew).alloc (.cells #[.int .i64 (P1+P2)] 3)).heap.size):=by show _≤_; have:=bI.out.size; simp; simp at this; omega
          have cW:Hid (Below L.heap.size L ((L.drew).alloc (.cells #[.int .i64 (P1+P2)] 3))):=(Below.drew (Below.refl _ _)).alloc (Za4 _) _;have dF:m.heap.size≤(L.drew).heap.size:=bI.out.size
          have cG:Hid (∀O w5,w5.ownsRow m.heap.size 3 1 O (t+1) (ZAB (cb.take t) ++ [.int .i64 (P1+P2)])→((L.drew).alloc (.cells #[.int .i64 (P1+P2)] 3)).grownBy w5 (Value.slice xo t xc).ownBlock→w5.ownsRow m.heap.size 3 1 O (t+1) (ZAB (cb.take (t+1)))∧Below m.heap.size m w5∧(w5.cell? ⟨b,o+p,none⟩=some (.slice (some ⟨fb,fo,none⟩) (d+1) fc)∧w5.cell? ⟨b,o+q,none⟩=some (.slice (some ⟨sb,X,none⟩) (d+1) sc)∧w5.cell? ⟨fb,fo+k,none⟩=some (.int .i64 fk)∧w5.cell? ⟨sb,X+k,none⟩=some (.int .i64 sk)∧w5.cell? ⟨fb,fo+t,none⟩=some (.int .i64 ft)∧w5.cell? ⟨sb,X+t,none⟩=some (.int .i64 st))):=fun O w5 aI aS=>by
           have R2:Below m.heap.size m w5:=(bI.out.alloc dF _).grown aS bq.out (fun x hx=>(de.out.lt x hx).1)
           have R3:Below w.heap.size w w5:=ak.out.trans (R2.mono bv);obtain ⟨c0,c1⟩:=aV.out w5 R3;obtain ⟨c2,c3⟩:=bE.out w5 R3
           refine ⟨by rw [aD.out]; exact aI,R2,c0,c2,c1,c3,?_,?_⟩
           ·obtain ⟨dO,dh,dE,ae,_,am⟩:=ZAK (bz.out w5 R3) (k:=t) (by rw [ag.out]; exact hlt2)
            simp only [Za3,Zaa9,Addr.mk.injEq,and_true] at ae;obtain ⟨⟨rfl,rfl⟩,-,-⟩:=ae;rw [dJ.out] at am;exact am
           ·obtain ⟨dA,dz,du,aa,_,aq⟩:=ZAK (cA.out w5 R3) (k:=t) (by rw [aT.out]; exact hlt2)
            simp only [Za3,Zaa9,Addr.mk.injEq,and_true] at aa;obtain ⟨⟨rfl,rfl⟩,-,-⟩:=aa;rw [dH.out] at aq;exact aq
          have fg:(t:Int) < (d:Int)+1:=by omega
          have dU:(0:Int)≤(t:Int):=by omega
          clear aO aZ m1 m2 bY bX
          go_upto_region 15 with fail
          refine wp_region_held_drew (S:=fun W'=>W'.cell? ⟨b,o+p,none⟩=some (.slice (some ⟨fb,fo,none⟩) (d+1) fc)∧W'.cell? ⟨b,o+q,none⟩=some (.slice (some ⟨sb,X,none⟩) (d+1) sc)∧W'.cell? ⟨fb,fo+k,none⟩=some (.int .i64 fk)∧W'.cell? ⟨sb,X+k,none⟩=some (.int .i64 sk)∧W'.cell? ⟨fb,fo+t,none⟩=some (.int .i64 ft)∧W'.cell? ⟨sb,X+t,none⟩=some (.int .i64 st)) (by kernel_rfl) (cO.out _ (Below.drew (Below.refl _ _))) (fun hHeld=>?_)
          refine ZAA (i:=0) (d:=71) (v:=(.slice xo t xc)) rfl rfl (by kernel_rfl) (by kernel_rfl) (by kernel_rfl) (fun _ _ _ h=>h) (.inl ⟨by rfl,by (intro m g; (try dsimp only at g); go_simp; (try (first | rfl | omega)))⟩) hHeld ?_
          simp only [Act.put,Za1,List.set]
          refine ZAA (i:=1) (d:=72) (v:=(.slice (some ⟨b,o,none⟩) rows.length rc)) rfl rfl (by kernel_rfl) (by kernel_rfl) (by kernel_rfl) (fun _ _ _ h=>h) (.inl ⟨by rfl,by (intro m g; (try dsimp only at g); go_simp; (try (first | rfl | omega)))⟩) hHeld ?_
          simp only [Act.put,Za1,List.set]
          refine ZAA (i:=2) (d:=73) (v:=(.int .i64 q)) rfl rfl (by kernel_rfl) (by kernel_rfl) (by kernel_rfl) (fun _ _ _ h=>h) (.inl ⟨by rfl,by (intro m g; (try dsimp only at g); go_simp; (try (first | rfl | omega)))⟩) hHeld ?_
          simp only [Act.put,Za1,List.set]
          refine ZAA (i:=3) (d:=74) (v:=(.pointer (some ⟨b,o+q,none⟩))) rfl rfl (by kernel_rfl) (by kernel_rfl) (by kernel_rfl) (fun _ _ _ h=>h) (.inl ⟨by rfl,by (intro m g; (try dsimp only at g); go_simp; (try (first | rfl | omega)))⟩) hHeld ?_
          simp only [Act.put,Za1,List.set]
          refine ZAA (i:=4) (d:=75) (v:=(.slice (some ⟨sb,X,none⟩) (d+1) sc)) rfl rfl (by kernel_rfl) (by kernel_rfl) (by kernel_rfl) (fun _ _ _ h=>h) (.inl ⟨by rfl,by (intro m g; (try dsimp only at g); go_simp; (try (first | rfl | omega)))⟩) hHeld ?_
          simp only [Act.put,Za1,List.set]
          refine ZAA (i:=5) (d:=76) (v:=(.int .i64 k)) rfl rfl (by kernel_rfl) (by kernel_rfl) (by kernel_rfl) (fun _ _ _ h=>h) (.inl ⟨by rfl,by (intro m g; (try dsimp only at g); go_simp; (try (first | rfl | omega)))⟩) hHeld ?_
          simp only [Act.put,Za1,List.set]
          refine ZAA (i:=6) (d:=77) (v:=(.pointer (some ⟨sb,X+k,none⟩))) rfl rfl (by kernel_rfl) (by kernel_rfl) (by kernel_rfl) (fun _ _ _ h=>h) (.inl ⟨by rfl,by (intro m g; (try dsimp only at g); go_simp; (try (first | rfl | omega)))⟩) hHeld ?_
          simp only [Act.put,Za1,List.set]
          refine ZAA (i:=7) (d:=78) (v:=(.int .i64 sk)) rfl rfl (by kernel_rfl) (by kernel_rfl) (by kernel_rfl) (fun _ _ _ h=>h) (.inl ⟨by rfl,by (intro m g; (try dsimp only at g); go_simp; (try (first | rfl | omega)))⟩) hHeld ?_
          simp only [Act.put,Za1,List.set]
          refine ZAA (i:=8) (d:=79) (v:=(.int .i64 (-sk))) rfl rfl (by kernel_rfl) (by kernel_rfl) (by kernel_rfl) (fun _ _ _ h=>h) (.inl ⟨by rfl,by (intro m g; (try dsimp only at g); go_simp; (try (first | rfl | omega)))⟩) hHeld ?_
          simp only [Act.put,Za1,List.set]
          refine ZAA (i:=9) (d:=80) (v:=(.slice (some ⟨b,o,none⟩) rows.length rc)) rfl rfl (by kernel_rfl) (by kernel_rfl) (by kernel_rfl) (fun _ _ _ h=>h) (.inl ⟨by rfl,by (intro m g; (try dsimp only at g); go_simp; (try (first | rfl | omega)))⟩) hHeld ?_
          simp only [Act.put,Za1,List.set]
          refine ZAA (i:=10) (d:=81) (v:=(.int .i64 p)) rfl rfl (by kernel_rfl) (by kernel_rfl) (by kernel_rfl) (fun _ _ _ h=>h) (.inl ⟨by rfl,by (intro m g; (try dsimp only at g); go_simp; (try (first | rfl | omega)))⟩) hHeld ?_
          simp only [Act.put,Za1,List.set]
          refine ZAA (i:=11) (d:=82) (v:=(.pointer (some ⟨b,o+p,none⟩))) rfl rfl (by kernel_rfl) (by kernel_rfl) (by kernel_rfl) (fun _ _ _ h=>h) (.inl ⟨by rfl,by (intro m g; (try dsimp only at g); go_simp; (try (first | rfl | omega)))⟩) hHeld ?_
          simp only [Act.put,Za1,List.set]
          refine ZAA (i:=12) (d:=83) (v:=(.slice (some ⟨fb,fo,none⟩) (d+1) fc)) rfl rfl (by kernel_rfl) (by kernel_rfl) (by kernel_rfl) (fun _ _ _ h=>h) (.inl ⟨by rfl,by (intro m g; (try dsimp only at g); go_simp; (try (first | rfl | omega)))⟩) hHeld ?_
          simp only [Act.put,Za1,List.set]
          refine ZAA (i:=13) (d:=84) (v:=(.int .i64 t)) rfl rfl (by kernel_rfl) (by kernel_rfl) (by kernel_rfl) (fun _ _ _ h=>h) (.inl ⟨by rfl,by (intro m g; (try dsimp only at g); go_simp; (try (first | rfl | omega)))⟩) hHeld ?_
          simp only [Act.put,Za1,List.set]
          refine ZAA (i:=14) (d:=85) (v:=(.pointer (some ⟨fb,fo+t,none⟩))) rfl rfl (by kernel_rfl) (by kernel_rfl) (by kernel_rfl) (fun _ _ _ h=>h) (.inl ⟨by rfl,by (intro m g; (try dsimp only at g); go_simp; (try (first | rfl | omega)))⟩) hHeld ?_
          simp only [Act.put,Za1,List.set]
          refine ZAA (i:=15) (d:=86) (v:=(.int .i64 ft)) rfl rfl (by kernel_rfl) (by kernel_rfl) (by kernel_rfl) (fun _ _ _ h=>h) (.inl ⟨by rfl,by (intro m g; (try dsimp only at g); go_simp; (try (first | rfl | omega)))⟩) hHeld ?_
          simp only [Act.put,Za1,List.set]
          refine ZAA (i:=16) (d:=87) (v:=(.int .i64 P1)) rfl rfl (by kernel_rfl) (by kernel_rfl) (by kernel_rfl) (fun _ _ _ h=>h) (.inl ⟨by rfl,by (intro m g; (try dsimp only at g); go_simp; (try (first | rfl | omega)))⟩) hHeld ?_
          simp only [Act.put,Za1,List.set]
          refine ZAA (i:=17) (d:=88) (v:=(.slice (some ⟨b,o,none⟩) rows.length rc)) rfl rfl (by kernel_rfl) (by kernel_rfl) (by kernel_rfl) (fun _ _ _ h=>h) (.inl ⟨by rfl,by (intro m g; (try dsimp only at g); go_simp; (try (first | rfl | omega)))⟩) hHeld ?_
          simp only [Act.put,Za1,List.set]
          refine ZAA (i:=18) (d:=89) (v:=(.int .i64 p)) rfl rfl (by kernel_rfl) (by kernel_rfl) (by kernel_rfl) (fun _ _ _ h=>h) (.inl ⟨by rfl,by (intro m g; (try dsimp only at g); go_simp; (try (first | rfl | omega)))⟩) hHeld ?_
          simp only [Act.put,Za1,List.set]
          refine ZAA (i:=19) (d:=90) (v:=(.pointer (some ⟨b,o+p,none⟩))) rfl rfl (by kernel_rfl) (by kernel_rfl) (by kernel_rfl) (fun _ _ _ h=>h) (.inl ⟨by rfl,by (intro m g; (try dsimp only at g); go_simp; (try (first | rfl | omega)))⟩) hHeld ?_
          simp only [Act.put,Za1,List.set]
          refine ZAA (i:=20) (d:=91) (v:=(.slice (some ⟨fb,fo,none⟩) (d+1) fc)) rfl rfl (by kernel_rfl) (by kernel_rfl) (by kernel_rfl) (fun _ _ _ h=>h) (.inl ⟨by rfl,by (intro m g; (try dsimp only at g); go_simp; (try (first | rfl | omega)))⟩) hHeld ?_
          simp only [Act.put,Za1,List.set]
          refine ZAA (i:=21) (d:=92) (v:=(.int .i64 k)) rfl rfl (by kernel_rfl) (by kernel_rfl) (by kernel_rfl) (fun _ _ _ h=>h) (.inl ⟨by rfl,by (intro m g; (try dsimp only at g); go_simp; (try (first | rfl | omega)))⟩) hHeld ?_
          simp only [Act.put,Za1,List.set]
          refine ZAA (i:=22) (d:=93) (v:=(.pointer (some ⟨fb,fo+k,none⟩))) rfl rfl (by kernel_rfl) (by kernel_rfl) (by kernel_rfl) (fun _ _ _ h=>h) (.inl ⟨by rfl,by (intro m g; (try dsimp only at g); go_simp; (try (first | rfl | omega)))⟩) hHeld ?_
          simp only [Act.put,Za1,List.set]
          refine ZAA (i:=23) (d:=94) (v:=(.int .i64 fk)) rfl rfl (by kernel_rfl) (by kernel_rfl) (by kernel_rfl) (fun _ _ _ h=>h) (.inl ⟨by rfl,by (intro m g; (try dsimp only at g); go_simp; (try (first | rfl | omega)))⟩) hHeld ?_
          simp only [Act.put,Za1,List.set]
          refine ZAA (i:=24) (d:=95) (v:=(.slice (some ⟨b,o,none⟩) rows.length rc)) rfl rfl (by kernel_rfl) (by kernel_rfl) (by kernel_rfl) (fun _ _ _ h=>h) (.inl ⟨by rfl,by (intro m g; (try dsimp only at g); go_simp; (try (first | rfl | omega)))⟩) hHeld ?_
          simp only [Act.put,Za1,List.set]
          refine ZAA (i:=25) (d:=96) (v:=(.int .i64 q)) rfl rfl (by kernel_rfl) (by kernel_rfl) (by kernel_rfl) (fun _ _ _ h=>h) (.inl ⟨by rfl,by (intro m g; (try dsimp only at g); go_simp; (try (first | rfl | omega)))⟩) hHeld ?_
          simp only [Act.put,Za1,List.set]
          refine ZAA (i:=26) (d:=97) (v:=(.pointer (some ⟨b,o+q,none⟩))) rfl rfl (by kernel_rfl) (by kernel_rfl) (by kernel_rfl) (fun _ _ _ h=>h) (.inl ⟨by rfl,by (intro m g; (try dsimp only at g); go_simp; (try (first | rfl | omega)))⟩) hHeld ?_
          simp only [Act.put,Za1,List.set]
          refine ZAA (i:=27) (d:=98) (v:=(.slice (some ⟨sb,X,none⟩) (d+1) sc)) rfl rfl (by kernel_rfl) (by kernel_rfl) (by kernel_rfl) (fun _ _ _ h=>h) (.inl ⟨by rfl,by (intro m g; (try dsimp only at g); go_simp; (try (first | rfl | omega)))⟩) hHeld ?_
          simp only [Act.put,Za1,List.set]
          refine ZAA (i:=28) (d:=99) (v:=(.int .i64 t)) rfl rfl (by kernel_rfl) (by kernel_rfl) (by kernel_rfl) (fun _ _ _ h=>h) (.inl ⟨by rfl,by (intro m g; (try dsimp only at g); go_simp; (try (first | rfl | omega)))⟩) hHeld ?_
          simp only [Act.put,Za1,List.set]
          refine ZAA (i:=29) (d:=100) (v:=(.pointer (some ⟨sb,X+t,none⟩))) rfl rfl (by kernel_rfl) (by kernel_rfl) (by kernel_rfl) (fun _ _ _ h=>h) (.inl ⟨by rfl,by (intro m g; (try dsimp only at g); go_simp; (try (first | rfl | omega)))⟩) hHeld ?_
          simp only [Act.put,Za1,List.set]
          refine ZAA (i:=30) (d:=101) (v:=(.int .i64 st)) rfl rfl (by kernel_rfl) (by kernel_rfl) (by kernel_rfl) (fun _ _ _ h=>h) (.inl ⟨by rfl,by (intro m g; (try dsimp only at g); go_simp; (try (first | rfl | omega)))⟩) hHeld ?_
          simp only [Act.put,Za1,List.set]
          refine ZAA (i:=31) (d:=102) (v:=(.int .i64 P2)) rfl rfl (by kernel_rfl) (by kernel_rfl) (by kernel_rfl) (fun _ _ _ h=>h) (.inl ⟨by rfl,by (intro m g; (try dsimp only at g); go_simp; (try (first | rfl | omega)))⟩) hHeld ?_
          simp only [Act.put,Za1,List.set]
          refine ZAA (i:=32) (d:=103) (v:=(.int .i64 (P1+P2))) rfl rfl (by kernel_rfl) (by kernel_rfl) (by kernel_rfl) (fun _ _ _ h=>h) (.inl ⟨by rfl,by (intro m g; (try dsimp only at g); go_simp; (try (first | rfl | omega)))⟩) hHeld ?_
          simp only [Act.put,Za1,List.set]
          refine wpAnyH_ready (rs:=[33]) (by kernel_rfl) (by simp) ?_
          refine ZAF (i:=33) rfl (by rfl) (fun K hK=>?_) AllReadyH.nil
          go_simp
          refine hK.out _ _ (cO.out _ cW.out) (fun hHeld=>?_)
          clear hK K
          refine wpAnyH_ready (rs:=[34]) (by kernel_rfl) (by simp) ?_
          refine ZAF (i:=34) rfl (by rfl) (fun K hK=>?_) AllReadyH.nil
          refine ZAb (.tmp 71) (.tmp 104) 27 (by rfl) m.heap.size 3 i3 (.int .i64 0) 1 8 Tryz.underlying27 bU aK aB aL rfl (by decide) _ _ _ (by rfl) dy.out ⟨L.heap.size,0,none⟩ 1 1 [.int .i64 (P1+P2)] (by rfl) rfl (ZAS _ _ _) (ZA6 _) (by unfold maxLen; omega) (by omega) bq.out ?_
          intro O w5 aI aS _;obtain ⟨R1,R2,R3⟩:=cG.out O w5 aI aS;have dR:=hid R1;have dD:=hid R2
          refine hK.out _ _ R3 (fun hHeld=>?_)
          clear hK K aS R1 R2 R3;simp only [Act.put,Za1,List.set];obtain ⟨vo,vc,cK⟩:=ZAE aI;subst cK;clear aI
          refine ZAA (i:=35) (d:=8) (v:=(.slice vo (t+1) vc)) rfl rfl (by kernel_rfl) (by kernel_rfl) (by kernel_rfl) (fun _ _ _ h=>h) (.inl ⟨by rfl,by (intro m g; (try dsimp only at g); go_simp; (try (first | rfl | omega)))⟩) hHeld ?_
          simp only [Act.put,Za1,List.set]
          refine wpAnyH_done (by kernel_rfl) ?_ _
          clear hHeld;go_wp2
          exact ⟨⟨t+1,by omega,by go_num,dR.out,dD.out⟩,by simp [intOf]; omega⟩
         ·have dx:t=d+1:=by omega
          subst dx
          have dt:Hid (cb.take (d+1)=cb):=Zaa2 (by rw [az.out]; exact Za4 _)
          have dc:Sl 0 3 L (.slice xo (d+1) xc) (ZAB cb):=by have:=Sl.own (B:=0) aO.out; rw [dt.out] at this; exact this
          have dB:Hid (Calls Tryz.prog 68 #[.slice xo (d+1) xc,.int .i64 k] L fun e w'=>∃T U,e=.returned (.slice T d U)∧Sl 0 3 w' (.slice T d U) (ZAB (drE cb k))∧Below L.heap.size L w'):=cB.out cb _ _ L az.out dc
          have fw:decide ((d:Int)+1 < (d:Int)+1)=false:=by simp
          clear dc aO
          go_wp2_with fail
          refine dB.out.mono ?_;rintro e Y ⟨T,U,rfl,aJ,N⟩;have aG:Hid (Below w.heap.size w Y):=au.out.trans (N.mono au.out.size);have bj:Below m.heap.size m Y:=aZ.out.trans (N.mono aZ.out.size)
          obtain ⟨M,hM⟩:∃M,M=A ++ D1 ++ ZE4 rows k f q:=⟨_,rfl⟩
          have dN:Hid (A ++ D1 ++ ZE4 rows k f (q+1)=M ++ [drE cb k]):=by show _=_; rw [aH.out,←List.append_assoc,hM]
          have fu:M.length≤16790000:=by rw [hM,Zaa4,Zaa4]; have:=dg.out; have:=cU.out; have:=dS.out; omega
          have bB:=aN.out;rw [←hM] at bB;obtain ⟨vs,g1,g2,g3⟩:=bB.below bj (Za4 _);have G2:=hid g2
          have R:Hid (∀O E,E.ownsRow w.heap.size 27 1 O (M.length+1) (vs ++ [.slice T d U])→(Y.alloc (.cells #[.slice T d U] 27)).grownBy E u5.ownBlock→Fr w.heap.size 27 3 E O (M ++ [drE cb k])∧Below w.heap.size w E):=fun O E J V=>ZCX aG.out g1 g2 g3 aJ J V
          have aE:w.heap.size≤Y.heap.size:=aG.out.size;clear aJ N bj g1 g2 g3 hM bB a0 a1 e0 e1
          go_wp2_with (first | (at_builtin; refine wpList_append_own _ rfl _ _ 22 rfl w.heap.size 27 i0 (.slice none 0 0) 1 24 Tryz.underlying22 hi bi bg aM rfl (by decide) _ _ _ rfl (G2.out.alloc _) ⟨Y.heap.size,0,none⟩ 1 1 [.slice T d U] rfl rfl (ZAS _ _ _) (ZAM _ _ _) ?d3 ?d4 ?d5 ?_))
          case d3=>unfold maxLen; omega
          case d4=>omega
          case d5=>first | omega | (simp; omega)
          intro x6 E J V _;obtain ⟨q1,q2⟩:=R.out x6 E J V
          have R1:Hid (Fr w.heap.size 27 3 E x6 (A ++ D1 ++ ZE4 rows k f (q+1))):=by show Fr _ _ _ _ _ _; rw [dN.out]; exact q1
          have R2:=hid q2;clear q1 q2 J V R G2;go_wp2
          exact ⟨⟨q+1,by omega,by go_num,R1.out,R2.out⟩,by simp [intOf]; omega⟩
       ·have cj:decide (sk < 0)=false:=decide_eq_false hsn
        have aH:Hid (ZE4 rows k f (q+1)=ZE4 rows k f q):=by show _=_; rw [ah.out,ay.out,if_neg (fun h=>hsn h.2),List.append_nil]
        clear ay ah;go_wp2
        exact ⟨⟨q+1,by omega,by go_num,by rw [aH.out]; exact aN.out,ak.out⟩,by simp [intOf]; omega⟩
      ·have cg:decide (0 < fk)=false:=decide_eq_false hfp
       have aH:Hid (ZE4 rows k f (q+1)=ZE4 rows k f q):=by show _=_; rw [ah.out,ay.out,if_neg (fun h=>hfp h.1),List.append_nil]
       clear ay ah;go_wp2
       exact ⟨⟨q+1,by omega,by go_num,by rw [aH.out]; exact aN.out,ak.out⟩,by simp [intOf]; omega⟩
     ·have dG:q=rows.length:=by omega
      subst dG
      have R1:Hid (Fr w.heap.size 27 3 m u5 (ZCx rows k (p+1))):=by
       show Fr _ _ _ _ _ _
       rw [cD.out];unfold ZIF;rw [←List.append_assoc,dL.out];exact aN.out
      go_wp2
      exact ⟨⟨p+1,by omega,by go_num,R1.out,ak.out⟩,by simp [intOf]; omega⟩
  ·have dC:p=rows.length:=by omega
   subst dC
   obtain ⟨A,hA⟩:∃A,A=ZCx rows k rows.length:=⟨_,rfl⟩
   have bK:Hid (A=eaO k rows):=by show _=_; rw [hA]; exact ZL5 rows k
   have cX:Hid (∀r∈A,r.length=k+2∧∀z∈r,z.natAbs≤8000000000000):=by
    show ∀r∈A,_
    rw [hA,ZL5];intro r hr
    refine ⟨ZLz (fun r hr=>by have:=(HC.out r hr).1; have:=cR.out; omega) hr,fun z hz=>?_⟩
    have:=ZOq (n:=2000000) (fun r hr=>(HC.out r hr).2) (by decide) hr z hz
    omega
   have dl:A.length≤16777216:=by
    rw [hA,ZL5];have h1:=ZQ5 k rows;have h2:rows.length*rows.length≤4096*4096:=Nat.mul_le_mul hn12 hn12;omega
   rw [←hA] at Q;have aw:=hid Q;obtain ⟨xo,xc,bh,_,_⟩:=ZCW Q;subst bh
   have fh:k≤2:=by have:=cR.out; omega
   clear D Q hA hn12 hd3 hk;go_wp2
   go_loopw [10,11] (fun x i wr=>∃j:Nat,j≤A.length∧i=.int .i64 j∧Fr G.heap.size 27 3 wr x ((A.take j).map lmE)∧Below G.heap.size G wr) (fun _ i _=>A.length-(intOf i).toNat)
   case atStart=>exact ⟨0,Za5 _,rfl,Fr.nil _ _ _ _,Below.refl _ _⟩
   case round=>
    obtain ⟨j,hj,rfl,Q,D⟩:=hrel
    obtain ⟨P,rfl⟩:∃P,P=wr:=⟨_,rfl⟩
    have ar:=hid D;have aj:=hid Q;have bk:G.heap.size≤P.heap.size:=D.size;clear D Q
    by_cases hlj:j < A.length
    ·obtain ⟨b2,o2,fy,rv,hs,_,bH,aQ⟩:=ZAP (aw.out.rws.mat (Za4 _)) hlj
     simp only [Za3] at hs;obtain ⟨rfl,-,rfl⟩:=hs
     have bS:A.getD j []∈A:=by simp [hlj]
     have bR:Hid ((A.take (j+1)).map lmE=(A.take j).map lmE ++ [lmE (A.getD j [])]):=by
      show _=_
      rw [Zaa1 hlj,List.map_append];simp [hlj]
     obtain ⟨z,hz⟩:∃z,z=A.getD j []:=⟨_,rfl⟩
     rw [←hz] at aQ bS bR;clear hz;obtain ⟨an,bG⟩:=cX.out z bS
     obtain ⟨zb,zo,zc,cY,cC,bP⟩:=ZAK aQ (k:=k+1) (by rw [an]; omega)
     rw [an] at cY cC;subst cY;have ai:P.cell? ⟨b2,o2+j,none⟩=some (.slice (some ⟨zb,zo,none⟩) (k+2) zc):=(ar.out.cell (ZAH bH)).trans bH
     have cQ:Hid (∀W,Below P.heap.size P W→W.cell? ⟨zb,zo+(k+1),none⟩=some (.int .i64 (z.getD (k+1) 0))∧W.cell? ⟨b2,o2+j,none⟩=some (.slice (some ⟨zb,zo,none⟩) (k+2) zc)):=fun W hb=>by
      have h1:=(ar.out.cell (ZAH bP)).trans bP;exact ⟨(hb.cell (ZAH h1)).trans h1,(hb.cell (ZAH ai)).trans ai⟩
     have cF:Hid (Calls Tryz.prog 69 #[.slice (some ⟨zb,zo,none⟩) (k+1) zc] P fun e w'=>∃T U,e=.returned (.slice T (k+1) U)∧w'.ownsRow P.heap.size 3 1 (.slice T (k+1) U) (k+1) (ZAB (Lin.low (z.take (k+1))))∧Below P.heap.size P w'):=by
      have dI:=aQ.below ar.out (Za4 _)
      have dr:(z.take (k+1)).length=k+1:=by rw [List.length_take,an]; omega
      have h1:Sl w.heap.size 3 P (.slice (some ⟨zb,zo,none⟩) (k+1) zc) (ZAB (z.take (k+1))):=Sl.takeE (by rw [an]; exact dI) (by omega)
      refine (ZD8 w.heap.size (z.take (k+1)) _ P h1 (by omega) (fun q hq=>by have:=bG q (Zaa7 hq); omega)).mono ?_
      rintro e w' ⟨u,rfl,J,hb⟩;rw [dr] at J;obtain ⟨T,U,rfl⟩:=ZAE J;exact ⟨T,U,rfl,J,hb⟩
     have ck:Hid (lmE z=Lin.low (z.take (k+1)) ++ [if 0 < z.getD (k+1) 0 then 1 else 0]):=by
      show _=_
      unfold lmE;rw [an];rfl
     have bt:Hid (((A.take j).map lmE).length≤16777216):=by
      show _≤_
      rw [Zab1,List.length_take]; omega
     have fj:(z.getD (k+1) 0).natAbs≤8000000000000:=ZNw bG;clear bH aQ an bG bS bP;generalize z.getD (k+1) 0=mz at *;generalize Lin.low (z.take (k+1))=l at *;generalize (A.take j).map lmE=F at *
     have fp:(j:Int) < (A.length:Int):=by omega
     have dY:(0:Int)≤(j:Int):=by omega
     have dW:(k:Int)+2-1=(k:Int)+1:=by omega
     have fd:(0:Int)≤(k:Int)+1:=by omega
     have fe:(k:Int)+1 < (k:Int)+2:=by omega
     have dV:(k:Int)+1≤(zc:Int):=by omega
     have fq:((k:Int)+1).toNat=k+1:=by omega
     have y:wrap64 ((k:Int)+1)=(k:Int)+1:=IntWalk.wrap64_in _ ⟨by omega,by omega⟩
     go_wp2_with fail
     refine cF.out.mono ?_;rintro ee Y ⟨T,U,rfl,bF,N⟩;have cL:=hid bF;have aE:P.heap.size≤Y.heap.size:=N.size;obtain ⟨cZ,cM⟩:=cQ.out Y N
     have cJ:Hid (∀(mk:Int) (O:Value) (E:World),E.ownsRow P.heap.size 3 1 O (k+1+1) (ZAB l ++ [.int .i64 mk])→(Y.alloc (.cells #[.int .i64 mk] 3)).grownBy E (Value.slice T (k+1) U).ownBlock→Sl 0 3 E O (ZAB (l ++ [mk]))∧Below P.heap.size P E∧Fr G.heap.size 27 3 E u10 F):=fun mk O E J V=>by
      have cN:Below P.heap.size P E:=(N.alloc aE _).grown V (by simp; omega) (fun x hx=>(bF.lt x hx).1)
      refine ⟨?_,cN,aj.out.below cN (Za4 _)⟩;have:=Sl.own (B:=0) J
      simpa [ZAB] using this
     clear bF N cF ai cQ
     by_cases hm:0 < mz
     ·have cT:decide (0 < mz)=true:=decide_eq_true hm
      have bA:Hid (F ++ [l ++ [1]]=(A.take (j+1)).map lmE):=by show _=_; rw [bR.out,ck.out,if_pos hm]
      go_wp2_with (first | (at_builtin; refine wpList_append_own _ rfl _ _ 27 rfl P.heap.size 3 i3 (.int .i64 0) 1 8 Tryz.underlying27 bU aK aB aL rfl (by decide) _ _ _ rfl (cL.out.alloc _) ⟨Y.heap.size,0,none⟩ 1 1 [.int .i64 1] rfl rfl (ZAS _ _ _) (ZA6 _) ?d3 ?d4 ?d5 ?_))
      case d3=>clear y; unfold maxLen; omega
      case d4=>clear y; omega
      case d5=>clear y; first | omega | (simp; omega)
      intro v3 E af aC _;obtain ⟨q0,q1,q2⟩:=cJ.out 1 _ E af aC;obtain ⟨vo,vc,aF⟩:=ZAE af;subst aF;obtain ⟨vs,g1,g2,g3⟩:=q2;have G2:=hid g2;have aA:Hid (Below G.heap.size G E):=ar.out.trans (q1.mono bk)
      have R:Hid (∀O w4,w4.ownsRow G.heap.size 27 1 O (F.length+1) (vs ++ [.slice vo (k+1+1) vc])→(E.alloc (.cells #[.slice vo (k+1+1) vc] 27)).grownBy w4 u10.ownBlock→Fr G.heap.size 27 3 w4 O (F ++ [l ++ [1]])∧Below G.heap.size G w4):=fun O w4 J V=>ZCX aA.out g1 g2 g3 q0 J V
      have cI:G.heap.size≤E.heap.size:=aA.out.size;have dq:=bt.out;clear q0 q1 g1 g2 g3 af aC cZ cM
      go_wp2_with (first | (at_builtin; refine wpList_append_own _ rfl _ _ 22 rfl G.heap.size 27 i0 (.slice none 0 0) 1 24 Tryz.underlying22 hi bi bg aM rfl (by decide) _ _ _ rfl (G2.out.alloc _) ⟨E.heap.size,0,none⟩ 1 1 [.slice vo (k+1+1) vc] rfl rfl (ZAS _ _ _) (ZAM _ _ _) ?d3 ?d4 ?d5 ?_))
      case d3=>clear y; unfold maxLen; omega
      case d4=>clear y; omega
      case d5=>clear y; first | omega | (simp; omega)
      intro x6 w4 J V _;obtain ⟨q1,q2⟩:=R.out x6 w4 J V
      have R1:Hid (Fr G.heap.size 27 3 w4 x6 ((A.take (j+1)).map lmE)):=by show Fr _ _ _ _ _ _; rw [←bA.out]; exact q1
      have R2:=hid q2;clear q1 q2 J V R G2;clear y;go_wp2
      exact ⟨⟨j+1,by omega,by go_num,R1.out,R2.out⟩,by simp [intOf]; omega⟩
     ·have cT:decide (0 < mz)=false:=decide_eq_false hm
      have bA:Hid (F ++ [l ++ [0]]=(A.take (j+1)).map lmE):=by show _=_; rw [bR.out,ck.out,if_neg hm]
      go_wp2_with (first | (at_builtin; refine wpList_append_own _ rfl _ _ 27 rfl P.heap.size 3 i3 (.int .i64 0) 1 8 Tryz.underlying27 bU aK aB aL rfl (by decide) _ _ _ rfl (cL.out.alloc _) ⟨Y.heap.size,0,none⟩ 1 1 [.int .i64 0] rfl rfl (ZAS _ _ _) (ZA6 _) ?d3 ?d4 ?d5 ?_))
      case d3=>clear y; unfold maxLen; omega
      case d4=>clear y; omega
      case d5=>clear y; first | omega | (simp; omega)
      intro v3 E af aC _;obtain ⟨q0,q1,q2⟩:=cJ.out 0 _ E af aC;obtain ⟨vo,vc,aF⟩:=ZAE af;subst aF;obtain ⟨vs,g1,g2,g3⟩:=q2;have G2:=hid g2;have aA:Hid (Below G.heap.size G E):=ar.out.trans (q1.mono bk)
      have R:Hid (∀O w4,w4.ownsRow G.heap.size 27 1 O (F.length+1) (vs ++ [.slice vo (k+1+1) vc])→(E.alloc (.cells #[.slice vo (k+1+1) vc] 27)).grownBy w4 u10.ownBlock→Fr G.heap.size 27 3 w4 O (F ++ [l ++ [0]])∧Below G.heap.size G w4):=fun O w4 J V=>ZCX aA.out g1 g2 g3 q0 J V
      have cI:G.heap.size≤E.heap.size:=aA.out.size;have dq:=bt.out;clear q0 q1 g1 g2 g3 af aC cZ cM
      go_wp2_with (first | (at_builtin; refine wpList_append_own _ rfl _ _ 22 rfl G.heap.size 27 i0 (.slice none 0 0) 1 24 Tryz.underlying22 hi bi bg aM rfl (by decide) _ _ _ rfl (G2.out.alloc _) ⟨E.heap.size,0,none⟩ 1 1 [.slice vo (k+1+1) vc] rfl rfl (ZAS _ _ _) (ZAM _ _ _) ?d3 ?d4 ?d5 ?_))
      case d3=>clear y; unfold maxLen; omega
      case d4=>clear y; omega
      case d5=>clear y; first | omega | (simp; omega)
      intro x6 w4 J V _;obtain ⟨q1,q2⟩:=R.out x6 w4 J V
      have R1:Hid (Fr G.heap.size 27 3 w4 x6 ((A.take (j+1)).map lmE)):=by show Fr _ _ _ _ _ _; rw [←bA.out]; exact q1
      have R2:=hid q2;clear q1 q2 J V R G2;clear y;go_wp2
      exact ⟨⟨j+1,by omega,by go_num,R1.out,R2.out⟩,by simp [intOf]; omega⟩
    ·have dj:j=A.length:=by omega
     subst dj
     have dw:Hid (Fr w.heap.size 27 3 P u10 ((eaO k rows).map lmE)):=by
      have h:=aj.out;rw [List.take_length,bK.out] at h;exact h.mono HB.out.size
     have cH:Hid (Calls Tryz.prog 27 #[u10] P fun e w'=>∃xo xc s,e=.returned (.slice xo s.length xc)∧Fr w.heap.size 27 3 w' (.slice xo s.length xc) s∧ZGH s∧(∀r,r∈s↔r∈(eaO k rows).map lmE)∧Below w.heap.size w w'):=by
      have cd:Below w.heap.size w P:=HB.out.trans (ar.out.mono HB.out.size)
      refine (ZLs w.heap.size ((eaO k rows).map lmE) u10 P (dw.out.rws.mat (Za4 _)) (by rw [Zab1,←bK.out]; omega) (fun r hr=>?_)).mono ?_
      ·obtain ⟨x,hx,rfl⟩:=List.mem_map.1 hr
       rw [←bK.out] at hx;have h2:=(cX.out x hx).1
       rw [ZLu (by omega)]; omega
      rintro e w' ⟨x,s,rfl,h1,h2,h3,h4⟩;obtain ⟨xo,xc,rfl,_,_⟩:=ZCW h1;exact ⟨xo,xc,s,rfl,h1.mono cd.size,h2,h3,cd.trans (h4.mono cd.size)⟩
     go_wp2_with fail
     refine cH.out.mono ?_;rintro ee Y ⟨dv,dP,s2,rfl,h1,h2,h3,h4⟩
     have HH:Hid (Fr w.heap.size 27 3 Y (.slice dv s2.length dP) s2∧ZGH s2∧(∀r,r∈s2↔r∈(eaO k rows).map lmE)∧Below w.heap.size w Y):=⟨h1,h2,h3,h4⟩
     clear h1 h2 h3 h4 cH;go_wp2;go_ret;exact ⟨_,s2,rfl,HH.out⟩
end Go.Proofs.YtkjkfceblmgogaaGreat
