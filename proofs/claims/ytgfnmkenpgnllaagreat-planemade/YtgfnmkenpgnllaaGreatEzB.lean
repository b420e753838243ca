import Derived.Test.YtgfnmkenpgnllaaGreatEzA
set_option maxRecDepth 100000
set_option maxHeartbeats 4000000
namespace Go.Proofs.YtgfnmkenpgnllaaGreat
open Go.RowKit
attribute [local go_sem ↓] Go.wp_at_zero Go.wp_at_succ
theorem ZLh{b o n c k:Nat}(h1:k+1 < n)(h2:n≤c)(w:World):(Instr.slice 22 (.slice (some ⟨b,o,none⟩) n c) (some (.int .i64 ((k:Int)+1))) none none).run Tryz.prog w=.ok (.slice (some ⟨b,o+(k+1),none⟩) (n-(k+1)) (c-(k+1))) w:=by
 have g:(0:Int)≤(k:Int)+1∧(k:Int)+1≤(n:Int):=by omega
 have a:((k:Int)+1).toNat=k+1:=by omega
 have f:¬c=k+1:=by omega
 have d:∀w,(Go.sizeOf 3).run Tryz.prog w=.ok 1 w:=fun w=>by kernel_rfl
 simp [Instr.slice,Instr.sliceBounds,Instr.sliceBound,run_underlying Tryz.underlying22,asIntOf,g,a,f,d,Addr.add,go_sem]
theorem Sl.tailE{B:Nat}{w:World}{b o n c j:Nat}{zs:List Int}(h:Sl B 3 w (.slice (some ⟨b,o,none⟩) n c) (ZAB zs))(hj:j≤n):Sl B 3 w (.slice (some ⟨b,o+j,none⟩) (n-j) (c-j)) (ZAB (zs.drop j)):=by
 obtain ⟨y,r,hv,d,x,g,s⟩:=h;simp only [Za3,ZA1] at hv d;obtain ⟨rfl,f,rfl⟩:=hv
 refine ⟨some ⟨b,o+j,none⟩,c-j,by simp [f],by simp; omega,by omega,fun i hi=>?_,fun h=>by cases h⟩
 have m:i < zs.length-j:=by simpa using hi
 obtain ⟨v,t,a,l,p⟩:=g (j+i) (by simp; omega)
 simp only [Zaa9,Addr.mk.injEq] at a;obtain ⟨rfl,rfl,_⟩:=a;refine ⟨b,o+j,rfl,?_,p⟩
 rw [show o+j+i=o+(j+i) by omega,l,ZAa _ _ (by omega),ZAa _ _ (by simp; omega)]
 simp [show j+i < zs.length by omega]
theorem ZLi{B:Nat}{e:TypeId}{w:World}{a:Addr}{n cap:Nat}{xs:List Value}(h:Sl B e w (.slice (some a) n cap) xs):∀j u,xs[j]?=some u→w.cell? (a.add j)=some u:=by
 intro j u g;have f:=(List.getElem?_eq_some_iff.1 g).1;obtain ⟨s,c,hv,m,r,i,p⟩:=h;simp only [Za3] at hv;obtain ⟨rfl,_,rfl⟩:=hv;obtain ⟨b,o,l,d,_⟩:=i j f
 cases l
 rw [g] at d
 by_cases ej:j=0
 ·subst ej; simpa [Addr.add] using d
 ·simpa [Addr.add,ej] using d
theorem ZLj(k:Nat)(r:List Int)(v:Value)(w:World)(hv:Sl 0 3 w v (ZAB r))(hk:k+1 < r.length)(hn:r.length≤10) :
  Calls Tryz.prog 73 #[v,.int .i64 k] w fun e w'=>∃u,e=.returned u∧w'.ownsRow w.heap.size 3 1 u (r.length-1) (ZAB (drE r k))∧Below w.heap.size w w':=by
 obtain ⟨i3,P,J,M,y⟩:=info_parts Tryz.info3
 obtain ⟨b,o,c,l,G,_⟩:=ZAJ hv (k:=k) (by omega)
 subst l
 obtain ⟨n,g⟩:∃n,n=r.length:=⟨_,rfl⟩
 rw [←g] at hv G hk hn ⊢
 have HT:∀w,(Instr.slice 22 (.slice (some ⟨b,o,none⟩) n c) (some (.int .i64 ((k:Int)+1))) none none).run Tryz.prog w=.ok (.slice (some ⟨b,o+(k+1),none⟩) (n-(k+1)) (c-(k+1))) w:=fun w=>ZLh (by omega) G w
 have U:Hid (Calls Tryz.prog 27 #[.slice (some ⟨b,o,none⟩) k c] w.drew fun e w'=>∃D E,e=.returned (.slice D k E)∧w'.ownsRow w.heap.size 3 1 (.slice D k E) k (ZAB (r.take k))∧Below w.heap.size w w'):=by
  have F:=hv;rw [g] at F
  have h1:Sl 0 3 w (.slice (some ⟨b,o,none⟩) k c) (ZAB (r.take k)):=Sl.takeE F (by omega)
  refine (ZBh 0 (r.take k) _ w.drew (h1.drewN 1) (by simp; omega)).mono ?_
  rintro e w' ⟨u,rfl,R,X⟩
  have e1:(r.take k).length=k:=by rw [List.length_take]; omega
  rw [e1] at R;obtain ⟨D,E,rfl⟩:=ZAD R;exact ⟨D,E,rfl,R,((Below.refl _ _).drew (B:=w.heap.size)).trans X⟩
 have Y:Hid (∀W,Below w.heap.size w W→∀j u,(ZAB (r.drop (k+1)))[j]?=some u→W.cell? ((⟨b,o+(k+1),none⟩:Addr).add j)=some u):=fun W X=>ZLi ((Sl.tailE (j:=k+1) hv (by omega)).below X (Za4 _))
 have A:Hid (ZAB (r.take k) ++ ZAB (r.drop (k+1))=ZAB (drE r k)):=by show _=_; unfold drE; simp [ZAB]
 have T:Hid ((ZAB (r.drop (k+1))).length=(n-(k+1))*1):=by show _=_; simp [ZAB,←g]
 have ag:(0:Int)≤(k:Int):=by omega
 have af:(k:Int)≤(c:Int):=by omega
 have ae:k≤c:=by omega
 have ai:IntKind.i64.wrap ((k:Int)+1)=(k:Int)+1:=by rw [IntKind.wrap_i64]; omega
 have ah:wrap64 ((k:Int)+1)=(k:Int)+1:=IntWalk.wrap64_in _ ⟨by omega,by omega⟩
 have V:Hid (k+(n-(k+1))=n-1):=by show _=_; omega
 have aa:Hid (n≤10∧k+1 < n):=⟨hn,hk⟩;clear hv g;go_enter Tryz.func73,Tryz.ntmps73
 go_upto_region 1 with fail
 refine wp_region_held_drew (S:=fun _=>True) (by kernel_rfl) trivial (fun hHeld=>?_)
 refine ZAA (i:=0) (d:=5) (v:=.slice (some ⟨b,o,none⟩) n c) rfl rfl (by kernel_rfl) (by kernel_rfl) (by kernel_rfl) (fun _ _ _ h=>h) (.inl ⟨by rfl,by (intro p a; (try dsimp only at a); go_simp; (try (first | rfl | omega)))⟩) hHeld ?_
 simp only [Act.put,Za1,List.set]
 refine ZAA (i:=1) (d:=6) (v:=.int .i64 k) rfl rfl (by kernel_rfl) (by kernel_rfl) (by kernel_rfl) (fun _ _ _ h=>h) (.inl ⟨by rfl,by (intro p a; (try dsimp only at a); go_simp; (try (first | rfl | omega)))⟩) hHeld ?_
 simp only [Act.put,Za1,List.set]
 refine ZAA (i:=2) (d:=7) (v:=.slice (some ⟨b,o,none⟩) k c) rfl rfl (by kernel_rfl) (by kernel_rfl) (by kernel_rfl) (fun _ _ _ h=>h) (.inl ⟨by rfl,by (intro p a; (try dsimp only at a); go_simp; (try (first | rfl | omega)))⟩) hHeld ?_
 simp only [Act.put,Za1,List.set]
 refine ZAA (i:=4) (d:=9) (v:=.slice (some ⟨b,o,none⟩) n c) rfl rfl (by kernel_rfl) (by kernel_rfl) (by kernel_rfl) (fun _ _ _ h=>h) (.inl ⟨by rfl,by (intro p a; (try dsimp only at a); go_simp; (try (first | rfl | omega)))⟩) hHeld ?_
 simp only [Act.put,Za1,List.set]
 refine ZAA (i:=5) (d:=10) (v:=.int .i64 k) rfl rfl (by kernel_rfl) (by kernel_rfl) (by kernel_rfl) (fun _ _ _ h=>h) (.inl ⟨by rfl,by (intro p a; (try dsimp only at a); go_simp; (try (first | rfl | omega)))⟩) hHeld ?_
 simp only [Act.put,Za1,List.set]
 refine ZAA (i:=6) (d:=11) (v:=.int .i64 ((k:Int)+1)) rfl rfl (by kernel_rfl) (by kernel_rfl) (by kernel_rfl) (fun _ _ _ h=>h) (.inl ⟨by rfl,by (intro p a; (try dsimp only at a); go_simp; (try (first | rfl | omega)))⟩) hHeld ?_
 simp only [Act.put,Za1,List.set]
 refine ZAA (i:=7) (d:=12) (v:=.slice (some ⟨b,o+(k+1),none⟩) (n-(k+1)) (c-(k+1))) rfl rfl (by kernel_rfl) (by kernel_rfl) (by kernel_rfl) (fun _ _ _ h=>h) (.inl ⟨by rfl,by (intro p a; (try dsimp only at a); go_simp; (try (first | rfl | omega)))⟩) hHeld ?_
 simp only [Act.put,Za1,List.set]
 refine wpAnyH_ready (rs:=[3]) (by kernel_rfl) (by simp) ?_
 refine ZAF (i:=3) rfl (by rfl) (fun K hK=>?_) AllReadyH.nil
 go_simp;refine U.out.mono ?_;rintro e w6 ⟨D,E,rfl,z,s⟩
 refine hK.out _ _ trivial (fun hHeld=>?_)
 clear hK K;have t:=hid z;have m:=hid s
 have N:Hid (∀j u,(ZAB (r.drop (k+1)))[j]?=some u→w6.cell? ((⟨b,o+(k+1),none⟩:Addr).add j)=some u):=Y.out w6 s
 clear z s
 refine wpAnyH_ready (rs:=[8]) (by kernel_rfl) (by simp) ?_
 refine ZAF (i:=8) rfl (by rfl) (fun K hK=>?_) AllReadyH.nil
 refine ZAd (.tmp 8) (.tmp 12) 22 (by rfl) w.heap.size 3 i3 (.int .i64 0) 1 8 Tryz.underlying22 P J M y rfl (by decide) _ _ _ (by rfl) t.out ⟨b,o+(k+1),none⟩ (n-(k+1)) (c-(k+1)) (ZAB (r.drop (k+1))) (by rfl) T.out N.out (ZB1 _) (by unfold maxLen; omega) (by omega) m.out.size ?_
 intro v' w7 f L _;rw [V.out,A.out] at f
 refine hK.out _ _ trivial (fun hHeld=>?_)
 clear hK K;simp only [Act.put,Za1,List.set];obtain ⟨vo,vc,l⟩:=ZAD f;subst l;have Q:=hid f
 have O:Hid (Below w.heap.size w w7):=m.out.grown L m.out.size (fun x hx=>(t.out.lt x hx).1)
 clear f L
 refine ZAA (i:=9) (d:=4) (v:=.slice vo (n-1) vc) rfl rfl (by kernel_rfl) (by kernel_rfl) (by kernel_rfl) (fun _ _ _ h=>h) (.inl ⟨by rfl,by (intro p a; (try dsimp only at a); go_simp; (try (first | rfl | omega)))⟩) hHeld ?_
 simp only [Act.put,Za1,List.set]
 refine wpAnyH_done (by kernel_rfl) ?_ _
 clear hHeld;go_wp2;go_ret;exact ⟨_,rfl,Q.out,O.out⟩
def ZEq(k:Nat)(f:List Int):List (List Int):=if f.getD k 0=0 then [drE f k] else []
def ZG1(k:Nat)(f s:List Int):List (List Int):=if 0 < f.getD k 0∧s.getD k 0 < 0 then [drE (cmE (-(s.getD k 0)) f (f.getD k 0) s) k] else []
def ZEy(rows:List (List Int))(k:Nat)(f:List Int)(j:Nat):List (List Int):=(rows.take j).flatMap (ZG1 k f)
def ZH2(rows:List (List Int))(k:Nat)(f:List Int):List (List Int):=ZEq k f ++ ZEy rows k f rows.length
def ZCz(rows:List (List Int))(k i:Nat):List (List Int):=(rows.take i).flatMap (ZH2 rows k)
theorem ZLk{rows:List (List Int)}{k:Nat}{f:List Int}{j:Nat}(h:j < rows.length):ZEy rows k f (j+1)=ZEy rows k f j ++ ZG1 k f (rows.getD j []):=by
 unfold ZEy;rw [Zaa1 h,List.flatMap_append];simp [h]
theorem ZJc{rows:List (List Int)}{k i:Nat}(h:i < rows.length):ZCz rows k (i+1)=ZCz rows k i ++ ZH2 rows k (rows.getD i []):=by
 unfold ZCz;rw [Zaa1 h,List.flatMap_append];simp [h]
theorem ZLl(k:Nat)(f s:List Int):(ZG1 k f s).length≤1:=by unfold ZG1; split <;> simp
theorem ZG2(k:Nat)(f:List Int):(ZEq k f).length≤1:=by unfold ZEq; split <;> simp
theorem ZI1(rows:List (List Int))(k:Nat)(f:List Int)(j:Nat):(ZEy rows k f j).length≤rows.length:=by
 have h:=ZB9 (g:=ZG1 k f) (b:=1) (rows.take j) (fun s _=>ZLl k f s)
 unfold ZEy;simp only [List.length_take] at h;omega
theorem ZJd{rows:List (List Int)}{k i:Nat}(h:rows.length≤4096):(ZCz rows k i).length≤16781312:=by
 have c:=ZB9 (g:=ZH2 rows k) (b:=4097) (rows.take i) (fun f _=>by
  unfold ZH2;have a:=ZG2 k f;have b:=ZI1 rows k f rows.length;rw [Zaa4]; omega)
 unfold ZCz;simp only [List.length_take] at c
 have d:min i rows.length*4097≤4096*4097:=Nat.mul_le_mul_right _ (by omega)
 omega
theorem ZLm(rows:List (List Int))(k:Nat):ZCz rows k rows.length=eaO k rows:=by
 unfold ZCz eaO ZH2 ZEy;rw [List.take_length];rfl
theorem ZRQ{a b:Int}(ha:a.natAbs≤1000)(hb:b.natAbs≤1000) : -1000000≤a*b∧a*b≤1000000:=by
 have:=ZRE ha hb;omega
theorem ZH3{v u:Int}{f s:List Int}{n:Nat}(hf:f.length=n)(hv:v.natAbs≤1000)(hu:u.natAbs≤1000)(hfb:∀z∈f,z.natAbs≤1000)(hsb:∀z∈s,z.natAbs≤1000):(cmE v f u s).length=n∧∀z∈cmE v f u s,z.natAbs≤2000000:=
 ⟨by rw [ZH1,hf],fun z hz=>by have:=ZOP hv hu hfb hsb z hz; omega⟩
theorem ZCZ{w W w3 : World}{x u v' : Value}{m : List (List Int)}{vs : List Value}{zs : List Int}(hb : Below w.heap.size w W)(g1 : vs.length = m.length)(g2 : W.ownsRow w.heap.size 22 1 x m.length vs)(g3 : ∀ i, i < m.length → Sl 0 3 W (vs.getD i (.slice none 0 0)) (ZAB (m.getD i [])))(hu : Sl 0 3 W u (ZAB zs))
 (ho : w3.ownsRow w.heap.size 22 1 v' (m.length + 1) (vs ++ [u]))(hg : (W.alloc (.cells #[u] 22)).grownBy w3 x.ownBlock) : Fr w.heap.size 22 3 w3 v' (m ++ [zs]) ∧ Below w.heap.size w w3 :=
  ⟨Fr.push (e2 := 22) (e1 := 3) (m := m) (u := u) (zs := zs) (by decide) g1 (g2.alloc _) (fun i hi => (g3 i hi).alloc _) (hu.alloc _) ho hg,
   (hb.alloc hb.size _).grown hg (by have := hb.size; simp; omega) (fun x hx => (g2.lt x hx).1)⟩
theorem ZLn(d k:Nat)(rows:List (List Int))(v:Value)(w:World)(hv:Mat 0 22 3 w v rows)(hc:∀r∈rows,r.length=d+1∧∀z∈r,z.natAbs≤1000)(hdk:d=k+2)(hd3:d≤4)(hn12:rows.length≤4096) :
  Calls Tryz.prog 46 #[v,.int .i64 k] w fun e w'=>∃x s,e=.returned x∧Fr w.heap.size 22 3 w' x s∧ZF7 s∧(∀r,r∈s↔r∈(eaO k rows).map lmE)∧Below w.heap.size w w':=by
 obtain ⟨i0,hi,aN,aO,aS⟩:=info_parts Tryz.info22;obtain ⟨i3,bC,aA,aB,az⟩:=info_parts Tryz.info3;obtain ⟨ro,rc,dK,fw,fh⟩:=ZAE hv;subst dK;have HV:Hid (Mat 0 22 3 w (.slice ro rows.length rc) rows):=hv;have HC:=hid hc
 have hk:k < d:=by omega
 have cG:=hid hdk;clear hv hc hdk;go_enter Tryz.func46,Tryz.ntmps46;go_wp2
 go_loopw [5,6] (fun x i wr=>∃p:Nat,p≤rows.length∧i=.int .i64 p∧Fr w.heap.size 22 3 wr x (ZCz rows k p)∧Below w.heap.size w wr) (fun _ i _=>rows.length-(intOf i).toNat)
 case atStart=>exact ⟨0,Za5 _,rfl,Fr.nil _ _ _ _,Below.refl _ _⟩
 case round=>
  obtain ⟨p,hp,rfl,R,D⟩:=hrel
  obtain ⟨G,rfl⟩:∃G,G=wr:=⟨_,rfl⟩
  have HB:=hid D;have cH:w.heap.size≤G.heap.size:=D.size
  by_cases hlt:p < rows.length
  ·have cY:Hid (ZCz rows k (p+1)=ZCz rows k p ++ ZH2 rows k (rows.getD p [])):=ZJc hlt
   have cI:Hid ((ZCz rows k p).length≤16781312):=ZJd hn12;obtain ⟨b,o,cp,fv,hs,_,bJ,aR⟩:=ZAP HV.out hlt;simp only [Za3] at hs;obtain ⟨rfl,-,rfl⟩:=hs
   have bi:rows.getD p []∈rows:=by rw [Za2,Za9 hlt]; exact List.getElem_mem _
   obtain ⟨f,hf⟩:∃f,f=rows.getD p []:=⟨_,rfl⟩
   rw [←hf] at aR bi cY;clear hf;have ag:Hid (f.length=d+1):=(HC.out f bi).1
   have ay:Hid (∀z∈f,z.natAbs≤1000):=(HC.out f bi).2
   obtain ⟨fb,fo,fc,cg,dc,bD⟩:=ZAJ aR (k:=k) (by rw [ag.out]; omega)
   rw [ag.out] at cg dc;subst cg
   have bN:Hid (∀W,Below w.heap.size w W→Sl 0 3 W (.slice (some ⟨fb,fo,none⟩) (d+1) fc) (ZAB f)):=fun W hb=>aR.below hb (Za4 _)
   have aV:Hid (∀W,Below w.heap.size w W→W.cell? ⟨b,o+p,none⟩=some (.slice (some ⟨fb,fo,none⟩) (d+1) fc)∧W.cell? ⟨fb,fo+k,none⟩=some (.int .i64 (f.getD k 0))):=fun W hb=>⟨(hb.cell (ZAI bJ)).trans bJ,(hb.cell (ZAI bD)).trans bD⟩
   have bQ:Hid (ZEq k f=if f.getD k 0=0 then [drE f k] else []):=rfl
   have dP:Hid (∀s,ZG1 k f s=if 0 < f.getD k 0∧s.getD k 0 < 0 then [drE (cmE (-(s.getD k 0)) f (f.getD k 0) s) k] else []):=fun _=>rfl
   have cX:Hid (∀(r:List Int) (X:Option Addr) (sc:Nat) (W:World),r.length=d+1→Sl 0 3 W (.slice X (d+1) sc) (ZAB r)→Calls Tryz.prog 73 #[.slice X (d+1) sc,.int .i64 k] W fun e w'=>∃T U,e=.returned (.slice T d U)∧Sl 0 3 w' (.slice T d U) (ZAB (drE r k))∧Below W.heap.size W w'):=fun r X sc W hl hs=>by
    refine (ZLj k r _ W hs (by omega) (by omega)).mono ?_
    rintro e w' ⟨u,rfl,J,hb⟩
    rw [hl,show d+1-1=d by omega] at J
    obtain ⟨T,U,rfl⟩:=ZAD J;exact ⟨T,U,rfl,Sl.own J,hb⟩
   have bw:(f.getD k 0).natAbs≤1000:=ZNZ ay.out;obtain ⟨a0,a1⟩:=aV.out G HB.out;obtain ⟨vs,g1,g2,g3⟩:=R;have aw:Hid (Fr w.heap.size 22 3 G u5 (ZCz rows k p)):=⟨vs,g1,g2,g3⟩;clear D bJ aR bD bi g1 g2 g3 vs;generalize f.getD k 0=fk at *;generalize ZCz rows k p=A at *
   have fg:(p:Int) < (rows.length:Int):=by omega
   have dU:(0:Int)≤(p:Int):=by omega
   have ff:(0:Int)≤(k:Int):=by omega
   have fA:(k:Int) < (d:Int)+1:=by omega
   by_cases h0:fk=0
   case' pos=>
    have aX:Hid (A ++ ZEq k f=A ++ [drE f k]):=by show _=_; rw [bQ.out,if_pos h0]
    have cq:(fk == 0)=true:=by simpa using h0
    go_wp2_with fail
    refine (cX.out f _ _ G ag.out (bN.out G HB.out)).mono ?_;rintro e w2 ⟨T,U,rfl,aG,O⟩;have aE:Hid (Below w.heap.size w w2):=HB.out.trans (O.mono cH);obtain ⟨vs,g1,g2,g3⟩:=aw.out.below O (Za4 _);have G2:=hid g2
    have Q:Hid (∀N E,E.ownsRow w.heap.size 22 1 N (A.length+1) (vs ++ [.slice T d U])→(w2.alloc (.cells #[.slice T d U] 22)).grownBy E u5.ownBlock→Fr w.heap.size 22 3 E N (A ++ [drE f k])∧Below w.heap.size w E):=fun N E J V=>ZCZ aE.out g1 g2 g3 aG J V
    have aD:w.heap.size≤w2.heap.size:=aE.out.size;have dA:=cI.out;clear aG O g1 g2 g3 a0 a1
    go_wp2_with (first | (at_builtin; refine wpList_append_own _ rfl _ _ 25 rfl w.heap.size 22 i0 (.slice none 0 0) 1 24 Tryz.underlying25 hi aN aO aS rfl (by decide) _ _ _ rfl (G2.out.alloc _) ⟨w2.heap.size,0,none⟩ 1 1 [.slice T d U] rfl rfl (ZAQ _ _ _) (ZAL _ _ _) ?d3 ?d4 ?d5 ?_))
    case d3=>unfold maxLen; omega
    case d4=>omega
    case d5=>first | omega | (simp; omega)
    intro x5 W J V _;obtain ⟨q1,q2⟩:=Q.out x5 W J V
    have aZ:Hid (Fr w.heap.size 22 3 W x5 (A ++ ZEq k f)):=by show Fr _ _ _ _ _ _; rw [aX.out]; exact q1
    have bV:=hid q2;clear q1 q2 J V Q G2;go_wp2
   case' neg=>
    have aX:Hid (A ++ ZEq k f=A):=by show _=_; rw [bQ.out,if_neg h0,List.append_nil]
    have cq:(fk == 0)=false:=by simpa using h0
    go_wp2
    obtain ⟨x5,aY⟩:∃x5,x5=u5:=⟨_,rfl⟩
    rw [←aY] at aw ⊢;clear aY
    have aZ:Hid (Fr w.heap.size 22 3 G x5 (A ++ ZEq k f)):=by show Fr _ _ _ _ _ _; rw [aX.out]; exact aw.out
    have bV:Hid (Below w.heap.size w G):=HB.out
    obtain ⟨W,rfl⟩:∃W,W=G:=⟨_,rfl⟩
    clear a0 a1
   all_goals
    clear aX h0 cq aw bQ;have cj:Hid ((ZEq k f).length≤1):=ZG2 k f
    obtain ⟨D1,bI⟩:∃D1,D1=ZEq k f:=⟨_,rfl⟩
    have dB:Hid (ZEq k f=D1):=bI.symm;rw [←bI] at cj aZ;clear bI
    go_loopw [5,7] (fun x j m=>∃q:Nat,q≤rows.length∧j=.int .i64 q∧Fr w.heap.size 22 3 m x (A ++ D1 ++ ZEy rows k f q)∧Below w.heap.size w m) (fun _ j _=>rows.length-(intOf j).toNat)
    case atStart=>exact ⟨0,Za5 _,rfl,(by have h:=aZ.out; simp only [ZEy,List.take_zero,List.flatMap_nil,List.append_nil]; exact h),bV.out⟩
    case round=>
     clear aZ bV;obtain ⟨q,hq,rfl,R,D⟩:=hrel
     obtain ⟨m,rfl⟩:∃m,m=wr:=⟨_,rfl⟩
     have aj:=hid D;have aQ:=hid R;have bq:w.heap.size≤m.heap.size:=D.size;obtain ⟨a0,a1⟩:=aV.out m D;clear D R
     by_cases hlq:q < rows.length
     ·have ai:Hid (ZEy rows k f (q+1)=ZEy rows k f q ++ ZG1 k f (rows.getD q [])):=ZLk hlq
      have dE:Hid ((ZEy rows k f q).length≤rows.length):=ZI1 rows k f q;obtain ⟨b',o',fi,sv,hs,_,bW,aM⟩:=ZAP HV.out hlq;simp only [Za3,Zaa9,Addr.mk.injEq,and_true] at hs;obtain ⟨⟨rfl,rfl⟩,-,-⟩:=hs
      have bh:rows.getD q []∈rows:=by rw [Za2,Za9 hlq]; exact List.getElem_mem _
      obtain ⟨s,hs⟩:∃s,s=rows.getD q []:=⟨_,rfl⟩
      rw [←hs] at aM bh ai;clear hs;have aP:Hid (s.length=d+1):=(HC.out s bh).1
      have bS:Hid (∀z∈s,z.natAbs≤1000):=(HC.out s bh).2
      obtain ⟨sb,X,sc,cQ,cU,bX⟩:=ZAJ aM (k:=k) (by rw [aP.out]; omega)
      rw [aP.out] at cQ cU;subst cQ
      have cE:Hid (∀W,Below w.heap.size w W→Sl 0 3 W (.slice (some ⟨sb,X,none⟩) (d+1) sc) (ZAB s)):=fun W hb=>aM.below hb (Za4 _)
      have bR:Hid (∀W,Below w.heap.size w W→W.cell? ⟨b,o+q,none⟩=some (.slice (some ⟨sb,X,none⟩) (d+1) sc)∧W.cell? ⟨sb,X+k,none⟩=some (.int .i64 (s.getD k 0))):=fun W hb=>⟨(hb.cell (ZAI bW)).trans bW,(hb.cell (ZAI bX)).trans bX⟩
      have bl:(s.getD k 0).natAbs≤1000:=ZNZ bS.out;have cO:=dP.out s;have am:=hid cO;obtain ⟨e0,e1⟩:=bR.out m aj.out;clear cO bW aM bX bh;generalize s.getD k 0=sk at *
      have fp:(q:Int) < (rows.length:Int):=by omega
      have dX:(0:Int)≤(q:Int):=by omega
      by_cases hfp:0 < fk
      ·have cA:decide (0 < fk)=true:=decide_eq_true hfp
       by_cases hsn:sk < 0
       ·have cS:decide (sk < 0)=true:=decide_eq_true hsn
        have aC:Hid (ZEy rows k f (q+1)=ZEy rows k f q ++ [drE (cmE (-sk) f fk s) k]):=by show _=_; rw [ai.out,am.out,if_pos ⟨hfp,hsn⟩]
        have cJ:=ZH3 (v:=-sk) (u:=fk) (f:=f) (s:=s) ag.out (by rw [Int.natAbs_neg]; exact bl) bw ay.out bS.out
        have aL:Hid ((cmE (-sk) f fk s).length=d+1):=cJ.1
        have cF:Hid (∀t,t < d+1→(cmE (-sk) f fk s).getD t 0=-sk*f.getD t 0+fk*s.getD t 0):=fun t ht=>ZFS (by rw [ag.out]; exact ht)
        clear cJ am ai;generalize cmE (-sk) f fk s=cb at *;go_wp2
        go_loopw [8,9] (fun x c L=>∃t:Nat,t≤d+1∧c=.int .i64 t∧L.ownsRow m.heap.size 3 1 x t (ZAB (cb.take t))∧Below m.heap.size m L) (fun _ c _=>d+1-(intOf c).toNat)
        case atStart=>exact ⟨0,Za5 _,rfl,World.ownsRow_nil _ _ _ _,Below.refl _ _⟩
        case round=>
         clear a0 a1 e0 e1;obtain ⟨t,ht,rfl,bK,bz⟩:=hrel
         obtain ⟨L,rfl⟩:∃L,L=wr:=⟨_,rfl⟩
         have bg:=hid bz;have aq:Hid (Below w.heap.size w L):=aj.out.trans (bz.mono bq);have aU:=hid bK;obtain ⟨a0,a1⟩:=aV.out L aq.out;obtain ⟨e0,e1⟩:=bR.out L aq.out;obtain ⟨xo,xc,dF⟩:=ZAD bK;subst dF;clear bz bK
         by_cases hlt2:t < d+1
         ·have aF:Hid (ZAB (cb.take (t+1))=ZAB (cb.take t) ++ [.int .i64 (-sk*f.getD t 0+fk*s.getD t 0)]):=by
           show _=_
           rw [ZBy cb t (by rw [aL.out]; exact hlt2),cF.out t hlt2]
           simp [ZAB]
          obtain ⟨dt,dC,dy,aa,_,ar⟩:=ZAJ (bN.out L aq.out) (k:=t) (by rw [ag.out]; exact hlt2)
          simp only [Za3,Zaa9,Addr.mk.injEq,and_true] at aa;obtain ⟨⟨rfl,rfl⟩,-,-⟩:=aa
          obtain ⟨dH,dG,dM,ae,_,ak⟩:=ZAJ (cE.out L aq.out) (k:=t) (by rw [aP.out]; exact hlt2)
          simp only [Za3,Zaa9,Addr.mk.injEq,and_true] at ae;obtain ⟨⟨rfl,rfl⟩,-,-⟩:=ae;have bk:(f.getD t 0).natAbs≤1000:=ZNZ ay.out;have bp:(s.getD t 0).natAbs≤1000:=ZNZ bS.out
          obtain ⟨ft,bG⟩:∃ft,ft=f.getD t 0:=⟨_,rfl⟩
          obtain ⟨st,bF⟩:∃st,st=s.getD t 0:=⟨_,rfl⟩
          have dS:Hid (f.getD t 0=ft):=bG.symm;have dI:Hid (s.getD t 0=st):=bF.symm;rw [←bG] at ar bk aF;rw [←bF] at ak bp aF;clear bG bF
          have m1:=ZRQ (a:=-sk) (b:=ft) (by rw [Int.natAbs_neg]; exact bl) bk
          have m2:=ZRQ (a:=fk) (b:=st) bw bp
          obtain ⟨P1,bT⟩:∃P1,P1=-sk*ft:=⟨_,rfl⟩
          obtain ⟨P2,bA⟩:∃P2,P2=fk*st:=⟨_,rfl⟩
          rw [←bT] at m1 aF;rw [←bA] at m2 aF
          have n1:IntKind.i64.wrap (-sk)=-sk:=by rw [IntKind.wrap_i64]; omega
          have n2:wrap64 (-sk)=-sk:=IntWalk.wrap64_in _ ⟨by omega,by omega⟩
          have n3:IntKind.i64.wrap (-sk*ft)=P1:=by rw [IntKind.wrap_i64]; omega
          have n4:wrap64 (-sk*ft)=P1:=by rw [←bT]; exact IntWalk.wrap64_in _ ⟨by omega,by omega⟩
          have n5:IntKind.i64.wrap (fk*st)=P2:=by rw [IntKind.wrap_i64]; omega
          have n6:wrap64 (fk*st)=P2:=by rw [←bA]; exact IntWalk.wrap64_in _ ⟨by omega,by omega⟩
          have n7:IntKind.i64.wrap (P1+P2)=P1+P2:=by rw [IntKind.wrap_i64]; omega
          have n8:wrap64 (P1+P2)=P1+P2:=IntWalk.wrap64_in _ ⟨by omega,by omega⟩
          have cN:Hid (∀W',Below L.heap.size L W'→W'.cell? ⟨b,o+p,none⟩=some (.slice (some ⟨fb,fo,none⟩) (d+1) fc)∧W'.cell? ⟨b,o+q,none⟩=some (.slice (some ⟨sb,X,none⟩) (d+1) sc)∧W'.cell? ⟨fb,fo+k,none⟩=some (.int .i64 fk)∧W'.cell? ⟨sb,X+k,none⟩=some (.int .i64 sk)∧W'.cell? ⟨fb,fo+t,none⟩=some (.int .i64 ft)∧W'.cell? ⟨sb,X+t,none⟩=some (.int .i64 st)):=fun W' h=>⟨(h.cell (ZAI a0)).trans a0,(h.cell (ZAI e0)).trans e0,(h.cell (ZAI a1)).trans a1,(h.cell (ZAI e1)).trans e1,(h.cell (ZAI ar)).trans ar,(h.cell (ZAI ak)).trans ak⟩
          have cw:Hid ((L.drew).ownsRow m.heap.size 3 1 (.slice xo t xc) t (ZAB (cb.take t))):=ZAN aU.out (Below.drew (Below.refl _ _)) (Za4 _);have bH:Hid (Below m.heap.size m L.drew):=Below.drew bg.out;have dJ:Hid (((L.drew).alloc (.cells #[.int .i64 (P1+P2)] 3)).ownsRow m.heap.size 3 1 (.slice xo t xc) t (ZAB (cb.take t))):=cw.out.alloc _
          have bu:Hid (m.heap.size≤((L.drew).alloc (.cells #[.int .i64 (P1+P2)] 3)).heap.size):=by show _≤_; have:=bH.out.size; simp; simp at this; omega
          have cM:Hid (Below L.heap.size L ((L.drew).alloc (.cells #[.int .i64 (P1+P2)] 3))):=(Below.drew (Below.refl _ _)).alloc (Za4 _) _;have du:m.heap.size≤(L.drew).heap.size:=bH.out.size
          have ck:Hid (∀N Y,Y.ownsRow m.heap.size 3 1 N (t+1) (ZAB (cb.take t) ++ [.int .i64 (P1+P2)])→((L.drew).alloc (.cells #[.int .i64 (P1+P2)] 3)).grownBy Y (Value.slice xo t xc).ownBlock→Y.ownsRow m.heap.size 3 1 N (t+1) (ZAB (cb.take (t+1)))∧Below m.heap.size m Y∧(Y.cell? ⟨b,o+p,none⟩=some (.slice (some ⟨fb,fo,none⟩) (d+1) fc)∧Y.cell? ⟨b,o+q,none⟩=some (.slice (some ⟨sb,X,none⟩) (d+1) sc)∧Y.cell? ⟨fb,fo+k,none⟩=some (.int .i64 fk)∧Y.cell? ⟨sb,X+k,none⟩=some (.int .i64 sk)∧Y.cell? ⟨fb,fo+t,none⟩=some (.int .i64 ft)∧Y.cell? ⟨sb,X+t,none⟩=some (.int .i64 st))):=fun N Y aK aW=>by
           have R2:Below m.heap.size m Y:=(bH.out.alloc du _).grown aW bu.out (fun x hx=>(cw.out.lt x hx).1)
           have R3:Below w.heap.size w Y:=aj.out.trans (R2.mono bq);obtain ⟨c0,c1⟩:=aV.out Y R3;obtain ⟨c2,c3⟩:=bR.out Y R3
           refine ⟨by rw [aF.out]; exact aK,R2,c0,c2,c1,c3,?_,?_⟩
           ·obtain ⟨dt,dC,dy,aa,_,ar⟩:=ZAJ (bN.out Y R3) (k:=t) (by rw [ag.out]; exact hlt2)
            simp only [Za3,Zaa9,Addr.mk.injEq,and_true] at aa;obtain ⟨⟨rfl,rfl⟩,-,-⟩:=aa;rw [dS.out] at ar;exact ar
           ·obtain ⟨dH,dG,dM,ae,_,ak⟩:=ZAJ (cE.out Y R3) (k:=t) (by rw [aP.out]; exact hlt2)
            simp only [Za3,Zaa9,Addr.mk.injEq,and_true] at ae;obtain ⟨⟨rfl,rfl⟩,-,-⟩:=ae;rw [dI.out] at ak;exact ak
          have fy:(t:Int) < (d:Int)+1:=by omega
          have dV:(0:Int)≤(t:Int):=by omega
          clear aU bg m1 m2 bT bA
          go_upto_region 15 with fail
          refine wp_region_held_drew (S:=fun W'=>W'.cell? ⟨b,o+p,none⟩=some (.slice (some ⟨fb,fo,none⟩) (d+1) fc)∧W'.cell? ⟨b,o+q,none⟩=some (.slice (some ⟨sb,X,none⟩) (d+1) sc)∧W'.cell? ⟨fb,fo+k,none⟩=some (.int .i64 fk)∧W'.cell? ⟨sb,X+k,none⟩=some (.int .i64 sk)∧W'.cell? ⟨fb,fo+t,none⟩=some (.int .i64 ft)∧W'.cell? ⟨sb,X+t,none⟩=some (.int .i64 st)) (by kernel_rfl) (cN.out _ (Below.drew (Below.refl _ _))) (fun hHeld=>?_)
          refine ZAA (i:=0) (d:=71) (v:=(.slice xo t xc)) rfl rfl (by kernel_rfl) (by kernel_rfl) (by kernel_rfl) (fun _ _ _ h=>h) (.inl ⟨by rfl,by (intro m g; (try dsimp only at g); go_simp; (try (first | rfl | omega)))⟩) hHeld ?_
          simp only [Act.put,Za1,List.set]
          refine ZAA (i:=1) (d:=72) (v:=(.slice (some ⟨b,o,none⟩) rows.length rc)) rfl rfl (by kernel_rfl) (by kernel_rfl) (by kernel_rfl) (fun _ _ _ h=>h) (.inl ⟨by rfl,by (intro m g; (try dsimp only at g); go_simp; (try (first | rfl | omega)))⟩) hHeld ?_
          simp only [Act.put,Za1,List.set]
          refine ZAA (i:=2) (d:=73) (v:=(.int .i64 q)) rfl rfl (by kernel_rfl) (by kernel_rfl) (by kernel_rfl) (fun _ _ _ h=>h) (.inl ⟨by rfl,by (intro m g; (try dsimp only at g); go_simp; (try (first | rfl | omega)))⟩) hHeld ?_
          simp only [Act.put,Za1,List.set]
          refine ZAA (i:=3) (d:=74) (v:=(.pointer (some ⟨b,o+q,none⟩))) rfl rfl (by kernel_rfl) (by kernel_rfl) (by kernel_rfl) (fun _ _ _ h=>h) (.inl ⟨by rfl,by (intro m g; (try dsimp only at g); go_simp; (try (first | rfl | omega)))⟩) hHeld ?_
          simp only [Act.put,Za1,List.set]
          refine ZAA (i:=4) (d:=75) (v:=(.slice (some ⟨sb,X,none⟩) (d+1) sc)) rfl rfl (by kernel_rfl) (by kernel_rfl) (by kernel_rfl) (fun _ _ _ h=>h) (.inl ⟨by rfl,by (intro m g; (try dsimp only at g); go_simp; (try (first | rfl | omega)))⟩) hHeld ?_
          simp only [Act.put,Za1,List.set]
          refine ZAA (i:=5) (d:=76) (v:=(.int .i64 k)) rfl rfl (by kernel_rfl) (by kernel_rfl) (by kernel_rfl) (fun _ _ _ h=>h) (.inl ⟨by rfl,by (intro m g; (try dsimp only at g); go_simp; (try (first | rfl | omega)))⟩) hHeld ?_
          simp only [Act.put,Za1,List.set]
          refine ZAA (i:=6) (d:=77) (v:=(.pointer (some ⟨sb,X+k,none⟩))) rfl rfl (by kernel_rfl) (by kernel_rfl) (by kernel_rfl) (fun _ _ _ h=>h) (.inl ⟨by rfl,by (intro m g; (try dsimp only at g); go_simp; (try (first | rfl | omega)))⟩) hHeld ?_
          simp only [Act.put,Za1,List.set]
          refine ZAA (i:=7) (d:=78) (v:=(.int .i64 sk)) rfl rfl (by kernel_rfl) (by kernel_rfl) (by kernel_rfl) (fun _ _ _ h=>h) (.inl ⟨by rfl,by (intro m g; (try dsimp only at g); go_simp; (try (first | rfl | omega)))⟩) hHeld ?_
          simp only [Act.put,Za1,List.set]
          refine ZAA (i:=8) (d:=79) (v:=(.int .i64 (-sk))) rfl rfl (by kernel_rfl) (by kernel_rfl) (by kernel_rfl) (fun _ _ _ h=>h) (.inl ⟨by rfl,by (intro m g; (try dsimp only at g); go_simp; (try (first | rfl | omega)))⟩) hHeld ?_
          simp only [Act.put,Za1,List.set]
          refine ZAA (i:=9) (d:=80) (v:=(.slice (some ⟨b,o,none⟩) rows.length rc)) rfl rfl (by kernel_rfl) (by kernel_rfl) (by kernel_rfl) (fun _ _ _ h=>h) (.inl ⟨by rfl,by (intro m g; (try dsimp only at g); go_simp; (try (first | rfl | omega)))⟩) hHeld ?_
          simp only [Act.put,Za1,List.set]
          refine ZAA (i:=10) (d:=81) (v:=(.int .i64 p)) rfl rfl (by kernel_rfl) (by kernel_rfl) (by kernel_rfl) (fun _ _ _ h=>h) (.inl ⟨by rfl,by (intro m g; (try dsimp only at g); go_simp; (try (first | rfl | omega)))⟩) hHeld ?_
          simp only [Act.put,Za1,List.set]
          refine ZAA (i:=11) (d:=82) (v:=(.pointer (some ⟨b,o+p,none⟩))) rfl rfl (by kernel_rfl) (by kernel_rfl) (by kernel_rfl) (fun _ _ _ h=>h) (.inl ⟨by rfl,by (intro m g; (try dsimp only at g); go_simp; (try (first | rfl | omega)))⟩) hHeld ?_
          simp only [Act.put,Za1,List.set]
          refine ZAA (i:=12) (d:=83) (v:=(.slice (some ⟨fb,fo,none⟩) (d+1) fc)) rfl rfl (by kernel_rfl) (by kernel_rfl) (by kernel_rfl) (fun _ _ _ h=>h) (.inl ⟨by rfl,by (intro m g; (try dsimp only at g); go_simp; (try (first | rfl | omega)))⟩) hHeld ?_
          simp only [Act.put,Za1,List.set]
          refine ZAA (i:=13) (d:=84) (v:=(.int .i64 t)) rfl rfl (by kernel_rfl) (by kernel_rfl) (by kernel_rfl) (fun _ _ _ h=>h) (.inl ⟨by rfl,by (intro m g; (try dsimp only at g); go_simp; (try (first | rfl | omega)))⟩) hHeld ?_
          simp only [Act.put,Za1,List.set]
          refine ZAA (i:=14) (d:=85) (v:=(.pointer (some ⟨fb,fo+t,none⟩))) rfl rfl (by kernel_rfl) (by kernel_rfl) (by kernel_rfl) (fun _ _ _ h=>h) (.inl ⟨by rfl,by (intro m g; (try dsimp only at g); go_simp; (try (first | rfl | omega)))⟩) hHeld ?_
          simp only [Act.put,Za1,List.set]
          refine ZAA (i:=15) (d:=86) (v:=(.int .i64 ft)) rfl rfl (by kernel_rfl) (by kernel_rfl) (by kernel_rfl) (fun _ _ _ h=>h) (.inl ⟨by rfl,by (intro m g; (try dsimp only at g); go_simp; (try (first | rfl | omega)))⟩) hHeld ?_
          simp only [Act.put,Za1,List.set]
          refine ZAA (i:=16) (d:=87) (v:=(.int .i64 P1)) rfl rfl (by kernel_rfl) (by kernel_rfl) (by kernel_rfl) (fun _ _ _ h=>h) (.inl ⟨by rfl,by (intro m g; (try dsimp only at g); go_simp; (try (first | rfl | omega)))⟩) hHeld ?_
          simp only [Act.put,Za1,List.set]
          refine ZAA (i:=17) (d:=88) (v:=(.slice (some ⟨b,o,none⟩) rows.length rc)) rfl rfl (by kernel_rfl) (by kernel_rfl) (by kernel_rfl) (fun _ _ _ h=>h) (.inl ⟨by rfl,by (intro m g; (try dsimp only at g); go_simp; (try (first | rfl | omega)))⟩) hHeld ?_
          simp only [Act.put,Za1,List.set]
          refine ZAA (i:=18) (d:=89) (v:=(.int .i64 p)) rfl rfl (by kernel_rfl) (by kernel_rfl) (by kernel_rfl) (fun _ _ _ h=>h) (.inl ⟨by rfl,by (intro m g; (try dsimp only at g); go_simp; (try (first | rfl | omega)))⟩) hHeld ?_
          simp only [Act.put,Za1,List.set]
          refine ZAA (i:=19) (d:=90) (v:=(.pointer (some ⟨b,o+p,none⟩))) rfl rfl (by kernel_rfl) (by kernel_rfl) (by kernel_rfl) (fun _ _ _ h=>h) (.inl ⟨by rfl,by (intro m g; (try dsimp only at g); go_simp; (try (first | rfl | omega)))⟩) hHeld ?_
          simp only [Act.put,Za1,List.set]
          refine ZAA (i:=20) (d:=91) (v:=(.slice (some ⟨fb,fo,none⟩) (d+1) fc)) rfl rfl (by kernel_rfl) (by kernel_rfl) (by kernel_rfl) (fun _ _ _ h=>h) (.inl ⟨by rfl,by (intro m g; (try dsimp only at g); go_simp; (try (first | rfl | omega)))⟩) hHeld ?_
          simp only [Act.put,Za1,List.set]
          refine ZAA (i:=21) (d:=92) (v:=(.int .i64 k)) rfl rfl (by kernel_rfl) (by kernel_rfl) (by kernel_rfl) (fun _ _ _ h=>h) (.inl ⟨by rfl,by (intro m g; (try dsimp only at g); go_simp; (try (first | rfl | omega)))⟩) hHeld ?_
          simp only [Act.put,Za1,List.set]
          refine ZAA (i:=22) (d:=93) (v:=(.pointer (some ⟨fb,fo+k,none⟩))) rfl rfl (by kernel_rfl) (by kernel_rfl) (by kernel_rfl) (fun _ _ _ h=>h) (.inl ⟨by rfl,by (intro m g; (try dsimp only at g); go_simp; (try (first | rfl | omega)))⟩) hHeld ?_
          simp only [Act.put,Za1,List.set]
          refine ZAA (i:=23) (d:=94) (v:=(.int .i64 fk)) rfl rfl (by kernel_rfl) (by kernel_rfl) (by kernel_rfl) (fun _ _ _ h=>h) (.inl ⟨by rfl,by (intro m g; (try dsimp only at g); go_simp; (try (first | rfl | omega)))⟩) hHeld ?_
          simp only [Act.put,Za1,List.set]
          refine ZAA (i:=24) (d:=95) (v:=(.slice (some ⟨b,o,none⟩) rows.length rc)) rfl rfl (by kernel_rfl) (by kernel_rfl) (by kernel_rfl) (fun _ _ _ h=>h) (.inl ⟨by rfl,by (intro m g; (try dsimp only at g); go_simp; (try (first | rfl | omega)))⟩) hHeld ?_
          simp only [Act.put,Za1,List.set]
          refine ZAA (i:=25) (d:=96) (v:=(.int .i64 q)) rfl rfl (by kernel_rfl) (by kernel_rfl) (by kernel_rfl) (fun _ _ _ h=>h) (.inl ⟨by rfl,by (intro m g; (try dsimp only at g); go_simp; (try (first | rfl | omega)))⟩) hHeld ?_
          simp only [Act.put,Za1,List.set]
          refine ZAA (i:=26) (d:=97) (v:=(.pointer (some ⟨b,o+q,none⟩))) rfl rfl (by kernel_rfl) (by kernel_rfl) (by kernel_rfl) (fun _ _ _ h=>h) (.inl ⟨by rfl,by (intro m g; (try dsimp only at g); go_simp; (try (first | rfl | omega)))⟩) hHeld ?_
          simp only [Act.put,Za1,List.set]
          refine ZAA (i:=27) (d:=98) (v:=(.slice (some ⟨sb,X,none⟩) (d+1) sc)) rfl rfl (by kernel_rfl) (by kernel_rfl) (by kernel_rfl) (fun _ _ _ h=>h) (.inl ⟨by rfl,by (intro m g; (try dsimp only at g); go_simp; (try (first | rfl | omega)))⟩) hHeld ?_
          simp only [Act.put,Za1,List.set]
          refine ZAA (i:=28) (d:=99) (v:=(.int .i64 t)) rfl rfl (by kernel_rfl) (by kernel_rfl) (by kernel_rfl) (fun _ _ _ h=>h) (.inl ⟨by rfl,by (intro m g; (try dsimp only at g); go_simp; (try (first | rfl | omega)))⟩) hHeld ?_
          simp only [Act.put,Za1,List.set]
          refine ZAA (i:=29) (d:=100) (v:=(.pointer (some ⟨sb,X+t,none⟩))) rfl rfl (by kernel_rfl) (by kernel_rfl) (by kernel_rfl) (fun _ _ _ h=>h) (.inl ⟨by rfl,by (intro m g; (try dsimp only at g); go_simp; (try (first | rfl | omega)))⟩) hHeld ?_
          simp only [Act.put,Za1,List.set]
          refine ZAA (i:=30) (d:=101) (v:=(.int .i64 st)) rfl rfl (by kernel_rfl) (by kernel_rfl) (by kernel_rfl) (fun _ _ _ h=>h) (.inl ⟨by rfl,by (intro m g; (try dsimp only at g); go_simp; (try (first | rfl | omega)))⟩) hHeld ?_
          simp only [Act.put,Za1,List.set]
          refine ZAA (i:=31) (d:=102) (v:=(.int .i64 P2)) rfl rfl (by kernel_rfl) (by kernel_rfl) (by kernel_rfl) (fun _ _ _ h=>h) (.inl ⟨by rfl,by (intro m g; (try dsimp only at g); go_simp; (try (first | rfl | omega)))⟩) hHeld ?_
          simp only [Act.put,Za1,List.set]
          refine ZAA (i:=32) (d:=103) (v:=(.int .i64 (P1+P2))) rfl rfl (by kernel_rfl) (by kernel_rfl) (by kernel_rfl) (fun _ _ _ h=>h) (.inl ⟨by rfl,by (intro m g; (try dsimp only at g); go_simp; (try (first | rfl | omega)))⟩) hHeld ?_
          simp only [Act.put,Za1,List.set]
          refine wpAnyH_ready (rs:=[33]) (by kernel_rfl) (by simp) ?_
          refine ZAF (i:=33) rfl (by rfl) (fun K hK=>?_) AllReadyH.nil
          go_simp
          refine hK.out _ _ (cN.out _ cM.out) (fun hHeld=>?_)
          clear hK K
          refine wpAnyH_ready (rs:=[34]) (by kernel_rfl) (by simp) ?_
          refine ZAF (i:=34) rfl (by rfl) (fun K hK=>?_) AllReadyH.nil
          refine ZAd (.tmp 71) (.tmp 104) 22 (by rfl) m.heap.size 3 i3 (.int .i64 0) 1 8 Tryz.underlying22 bC aA aB az rfl (by decide) _ _ _ (by rfl) dJ.out ⟨L.heap.size,0,none⟩ 1 1 [.int .i64 (P1+P2)] (by rfl) rfl (ZAQ _ _ _) (ZA2 _) (by unfold maxLen; omega) (by omega) bu.out ?_
          intro N Y aK aW _;obtain ⟨R1,R2,R3⟩:=ck.out N Y aK aW;have dh:=hid R1;have dx:=hid R2
          refine hK.out _ _ R3 (fun hHeld=>?_)
          clear hK K aW R1 R2 R3;simp only [Act.put,Za1,List.set];obtain ⟨vo,vc,cR⟩:=ZAD aK;subst cR;clear aK
          refine ZAA (i:=35) (d:=8) (v:=(.slice vo (t+1) vc)) rfl rfl (by kernel_rfl) (by kernel_rfl) (by kernel_rfl) (fun _ _ _ h=>h) (.inl ⟨by rfl,by (intro m g; (try dsimp only at g); go_simp; (try (first | rfl | omega)))⟩) hHeld ?_
          simp only [Act.put,Za1,List.set]
          refine wpAnyH_done (by kernel_rfl) ?_ _
          clear hHeld;go_wp2
          exact ⟨⟨t+1,by omega,by go_num,dh.out,dx.out⟩,by simp [intOf]; omega⟩
         ·have dQ:t=d+1:=by omega
          subst dQ
          have dq:Hid (cb.take (d+1)=cb):=Zaa2 (by rw [aL.out]; exact Za4 _)
          have cK:Sl 0 3 L (.slice xo (d+1) xc) (ZAB cb):=by have:=Sl.own (B:=0) aU.out; rw [dq.out] at this; exact this
          have dR:Hid (Calls Tryz.prog 73 #[.slice xo (d+1) xc,.int .i64 k] L fun e w'=>∃T U,e=.returned (.slice T d U)∧Sl 0 3 w' (.slice T d U) (ZAB (drE cb k))∧Below L.heap.size L w'):=cX.out cb _ _ L aL.out cK
          have fq:decide ((d:Int)+1 < (d:Int)+1)=false:=by simp
          clear cK aU
          go_wp2_with fail
          refine dR.out.mono ?_;rintro e w2 ⟨T,U,rfl,aG,O⟩;have aE:Hid (Below w.heap.size w w2):=aq.out.trans (O.mono aq.out.size);have bj:Below m.heap.size m w2:=bg.out.trans (O.mono bg.out.size)
          obtain ⟨M,hM⟩:∃M,M=A ++ D1 ++ ZEy rows k f q:=⟨_,rfl⟩
          have dl:Hid (A ++ D1 ++ ZEy rows k f (q+1)=M ++ [drE cb k]):=by show _=_; rw [aC.out,←List.append_assoc,hM]
          have fs:M.length≤16790000:=by rw [hM,Zaa4,Zaa4]; have:=cI.out; have:=cj.out; have:=dE.out; omega
          have bY:=aQ.out;rw [←hM] at bY;obtain ⟨vs,g1,g2,g3⟩:=bY.below bj (Za4 _);have G2:=hid g2
          have Q:Hid (∀N E,E.ownsRow w.heap.size 22 1 N (M.length+1) (vs ++ [.slice T d U])→(w2.alloc (.cells #[.slice T d U] 22)).grownBy E u5.ownBlock→Fr w.heap.size 22 3 E N (M ++ [drE cb k])∧Below w.heap.size w E):=fun N E J V=>ZCZ aE.out g1 g2 g3 aG J V
          have aD:w.heap.size≤w2.heap.size:=aE.out.size;clear aG O bj g1 g2 g3 hM bY a0 a1 e0 e1
          go_wp2_with (first | (at_builtin; refine wpList_append_own _ rfl _ _ 25 rfl w.heap.size 22 i0 (.slice none 0 0) 1 24 Tryz.underlying25 hi aN aO aS rfl (by decide) _ _ _ rfl (G2.out.alloc _) ⟨w2.heap.size,0,none⟩ 1 1 [.slice T d U] rfl rfl (ZAQ _ _ _) (ZAL _ _ _) ?d3 ?d4 ?d5 ?_))
          case d3=>unfold maxLen; omega
          case d4=>omega
          case d5=>first | omega | (simp; omega)
          intro x6 E J V _;obtain ⟨q1,q2⟩:=Q.out x6 E J V
          have R1:Hid (Fr w.heap.size 22 3 E x6 (A ++ D1 ++ ZEy rows k f (q+1))):=by show Fr _ _ _ _ _ _; rw [dl.out]; exact q1
          have R2:=hid q2;clear q1 q2 J V Q G2;go_wp2
          exact ⟨⟨q+1,by omega,by go_num,R1.out,R2.out⟩,by simp [intOf]; omega⟩
       ·have cS:decide (sk < 0)=false:=decide_eq_false hsn
        have aC:Hid (ZEy rows k f (q+1)=ZEy rows k f q):=by show _=_; rw [ai.out,am.out,if_neg (fun h=>hsn h.2),List.append_nil]
        clear am ai;go_wp2
        exact ⟨⟨q+1,by omega,by go_num,by rw [aC.out]; exact aQ.out,aj.out⟩,by simp [intOf]; omega⟩
      ·have cA:decide (0 < fk)=false:=decide_eq_false hfp
       have aC:Hid (ZEy rows k f (q+1)=ZEy rows k f q):=by show _=_; rw [ai.out,am.out,if_neg (fun h=>hfp h.1),List.append_nil]
       clear am ai;go_wp2
       exact ⟨⟨q+1,by omega,by go_num,by rw [aC.out]; exact aQ.out,aj.out⟩,by simp [intOf]; omega⟩
     ·have dj:q=rows.length:=by omega
      subst dj
      have R1:Hid (Fr w.heap.size 22 3 m u5 (ZCz rows k (p+1))):=by
       show Fr _ _ _ _ _ _
       rw [cY.out];unfold ZH2;rw [←List.append_assoc,dB.out];exact aQ.out
      go_wp2
      exact ⟨⟨p+1,by omega,by go_num,R1.out,aj.out⟩,by simp [intOf]; omega⟩
  ·have dr:p=rows.length:=by omega
   subst dr
   obtain ⟨A,hA⟩:∃A,A=ZCz rows k rows.length:=⟨_,rfl⟩
   have bP:Hid (A=eaO k rows):=by show _=_; rw [hA]; exact ZLm rows k
   have da:Hid (∀r∈A,r.length=k+2∧∀z∈r,z.natAbs≤2000000):=by
    show ∀r∈A,_
    rw [hA,ZLm];intro r hr
    refine ⟨ZLg (fun r hr=>by have:=(HC.out r hr).1; have:=cG.out; omega) hr,fun z hz=>?_⟩
    have:=ZOR (n:=1000) (fun r hr=>(HC.out r hr).2) (by decide) hr z hz
    omega
   have dA:A.length≤16777216:=by
    rw [hA,ZLm];have h1:=ZQd k rows;have h2:rows.length*rows.length≤4096*4096:=Nat.mul_le_mul hn12 hn12;omega
   rw [←hA] at R;have aw:=hid R;obtain ⟨xo,xc,aY,_,_⟩:=ZCY R;subst aY
   have fu:k≤2:=by have:=cG.out; omega
   clear D R hA hn12 hd3 hk;go_wp2
   go_loopw [10,11] (fun x i wr=>∃j:Nat,j≤A.length∧i=.int .i64 j∧Fr G.heap.size 22 3 wr x ((A.take j).map lmE)∧Below G.heap.size G wr) (fun _ i _=>A.length-(intOf i).toNat)
   case atStart=>exact ⟨0,Za5 _,rfl,Fr.nil _ _ _ _,Below.refl _ _⟩
   case round=>
    obtain ⟨j,hj,rfl,R,D⟩:=hrel
    obtain ⟨P,rfl⟩:∃P,P=wr:=⟨_,rfl⟩
    have au:=hid D;have ay:=hid R;have bv:G.heap.size≤P.heap.size:=D.size;clear D R
    by_cases hlj:j < A.length
    ·obtain ⟨b2,o2,fz,rv,hs,_,bO,aT⟩:=ZAP (aw.out.rws.mat (Za4 _)) hlj
     simp only [Za3] at hs;obtain ⟨rfl,-,rfl⟩:=hs
     have cd:A.getD j []∈A:=by simp [hlj]
     have bL:Hid ((A.take (j+1)).map lmE=(A.take j).map lmE ++ [lmE (A.getD j [])]):=by
      show _=_
      rw [Zaa1 hlj,List.map_append];simp [hlj]
     obtain ⟨z,hz⟩:∃z,z=A.getD j []:=⟨_,rfl⟩
     rw [←hz] at aT cd bL;clear hz;obtain ⟨an,bU⟩:=da.out z cd
     obtain ⟨zb,zo,zc,cD,cV,bM⟩:=ZAJ aT (k:=k+1) (by rw [an]; omega)
     rw [an] at cD cV;subst cD;have af:P.cell? ⟨b2,o2+j,none⟩=some (.slice (some ⟨zb,zo,none⟩) (k+2) zc):=(au.out.cell (ZAI bO)).trans bO
     have dg:Hid (∀W,Below P.heap.size P W→W.cell? ⟨zb,zo+(k+1),none⟩=some (.int .i64 (z.getD (k+1) 0))∧W.cell? ⟨b2,o2+j,none⟩=some (.slice (some ⟨zb,zo,none⟩) (k+2) zc)):=fun W hb=>by
      have h1:=(au.out.cell (ZAI bM)).trans bM;exact ⟨(hb.cell (ZAI h1)).trans h1,(hb.cell (ZAI af)).trans af⟩
     have cB:Hid (Calls Tryz.prog 74 #[.slice (some ⟨zb,zo,none⟩) (k+1) zc] P fun e w'=>∃T U,e=.returned (.slice T (k+1) U)∧w'.ownsRow P.heap.size 3 1 (.slice T (k+1) U) (k+1) (ZAB (Lin.low (z.take (k+1))))∧Below P.heap.size P w'):=by
      have dN:=aT.below au.out (Za4 _)
      have dL:(z.take (k+1)).length=k+1:=by rw [List.length_take,an]; omega
      have h1:Sl w.heap.size 3 P (.slice (some ⟨zb,zo,none⟩) (k+1) zc) (ZAB (z.take (k+1))):=Sl.takeE (by rw [an]; exact dN) (by omega)
      refine (ZEB w.heap.size (z.take (k+1)) _ P h1 (by omega) (fun q hq=>by have:=bU q (Zaa7 hq); omega)).mono ?_
      rintro e w' ⟨u,rfl,J,hb⟩;rw [dL] at J;obtain ⟨T,U,rfl⟩:=ZAD J;exact ⟨T,U,rfl,J,hb⟩
     have cT:Hid (lmE z=Lin.low (z.take (k+1)) ++ [if 0 < z.getD (k+1) 0 then 1 else 0]):=by
      show _=_
      unfold lmE;rw [an];rfl
     have bt:Hid (((A.take j).map lmE).length≤16777216):=by
      show _≤_
      rw [Zab1,List.length_take]; omega
     have fB:(z.getD (k+1) 0).natAbs≤2000000:=ZNZ bU;clear bO aT an bU cd bM;generalize z.getD (k+1) 0=mz at *;generalize Lin.low (z.take (k+1))=l at *;generalize (A.take j).map lmE=F at *
     have fj:(j:Int) < (A.length:Int):=by omega
     have dW:(0:Int)≤(j:Int):=by omega
     have fd:(k:Int)+2-1=(k:Int)+1:=by omega
     have fe:(0:Int)≤(k:Int)+1:=by omega
     have dY:(k:Int)+1 < (k:Int)+2:=by omega
     have dZ:(k:Int)+1≤(zc:Int):=by omega
     have fC:((k:Int)+1).toNat=k+1:=by omega
     have y:wrap64 ((k:Int)+1)=(k:Int)+1:=IntWalk.wrap64_in _ ⟨by omega,by omega⟩
     go_wp2_with fail
     refine cB.out.mono ?_;rintro ee w2 ⟨T,U,rfl,bZ,O⟩;have cr:=hid bZ;have aD:P.heap.size≤w2.heap.size:=O.size;obtain ⟨de,cW⟩:=dg.out w2 O
     have cZ:Hid (∀(mk:Int) (N:Value) (E:World),E.ownsRow P.heap.size 3 1 N (k+1+1) (ZAB l ++ [.int .i64 mk])→(w2.alloc (.cells #[.int .i64 mk] 3)).grownBy E (Value.slice T (k+1) U).ownBlock→Sl 0 3 E N (ZAB (l ++ [mk]))∧Below P.heap.size P E∧Fr G.heap.size 22 3 E u10 F):=fun mk N E J V=>by
      have cP:Below P.heap.size P E:=(O.alloc aD _).grown V (by simp; omega) (fun x hx=>(bZ.lt x hx).1)
      refine ⟨?_,cP,ay.out.below cP (Za4 _)⟩;have:=Sl.own (B:=0) J
      simpa [ZAB] using this
     clear bZ O cB af dg
     by_cases hm:0 < mz
     ·have db:decide (0 < mz)=true:=decide_eq_true hm
      have bB:Hid (F ++ [l ++ [1]]=(A.take (j+1)).map lmE):=by show _=_; rw [bL.out,cT.out,if_pos hm]
      go_wp2_with (first | (at_builtin; refine wpList_append_own _ rfl _ _ 22 rfl P.heap.size 3 i3 (.int .i64 0) 1 8 Tryz.underlying22 bC aA aB az rfl (by decide) _ _ _ rfl (cr.out.alloc _) ⟨w2.heap.size,0,none⟩ 1 1 [.int .i64 1] rfl rfl (ZAQ _ _ _) (ZA2 _) ?d3 ?d4 ?d5 ?_))
      case d3=>clear y; unfold maxLen; omega
      case d4=>clear y; omega
      case d5=>clear y; first | omega | (simp; omega)
      intro v3 E ah aH _;obtain ⟨q0,q1,q2⟩:=cZ.out 1 _ E ah aH;obtain ⟨vo,vc,aI⟩:=ZAD ah;subst aI;obtain ⟨vs,g1,g2,g3⟩:=q2;have G2:=hid g2;have aJ:Hid (Below G.heap.size G E):=au.out.trans (q1.mono bv)
      have Q:Hid (∀N w4,w4.ownsRow G.heap.size 22 1 N (F.length+1) (vs ++ [.slice vo (k+1+1) vc])→(E.alloc (.cells #[.slice vo (k+1+1) vc] 22)).grownBy w4 u10.ownBlock→Fr G.heap.size 22 3 w4 N (F ++ [l ++ [1]])∧Below G.heap.size G w4):=fun N w4 J V=>ZCZ aJ.out g1 g2 g3 q0 J V
      have cL:G.heap.size≤E.heap.size:=aJ.out.size;have dv:=bt.out;clear q0 q1 g1 g2 g3 ah aH de cW
      go_wp2_with (first | (at_builtin; refine wpList_append_own _ rfl _ _ 25 rfl G.heap.size 22 i0 (.slice none 0 0) 1 24 Tryz.underlying25 hi aN aO aS rfl (by decide) _ _ _ rfl (G2.out.alloc _) ⟨E.heap.size,0,none⟩ 1 1 [.slice vo (k+1+1) vc] rfl rfl (ZAQ _ _ _) (ZAL _ _ _) ?d3 ?d4 ?d5 ?_))
      case d3=>clear y; unfold maxLen; omega
      case d4=>clear y; omega
      case d5=>clear y; first | omega | (simp; omega)
      intro x6 w4 J V _;obtain ⟨q1,q2⟩:=Q.out x6 w4 J V
      have R1:Hid (Fr G.heap.size 22 3 w4 x6 ((A.take (j+1)).map lmE)):=by show Fr _ _ _ _ _ _; rw [←bB.out]; exact q1
      have R2:=hid q2;clear q1 q2 J V Q G2;clear y;go_wp2
      exact ⟨⟨j+1,by omega,by go_num,R1.out,R2.out⟩,by simp [intOf]; omega⟩
     ·have db:decide (0 < mz)=false:=decide_eq_false hm
      have bB:Hid (F ++ [l ++ [0]]=(A.take (j+1)).map lmE):=by show _=_; rw [bL.out,cT.out,if_neg hm]
      go_wp2_with (first | (at_builtin; refine wpList_append_own _ rfl _ _ 22 rfl P.heap.size 3 i3 (.int .i64 0) 1 8 Tryz.underlying22 bC aA aB az rfl (by decide) _ _ _ rfl (cr.out.alloc _) ⟨w2.heap.size,0,none⟩ 1 1 [.int .i64 0] rfl rfl (ZAQ _ _ _) (ZA2 _) ?d3 ?d4 ?d5 ?_))
      case d3=>clear y; unfold maxLen; omega
      case d4=>clear y; omega
      case d5=>clear y; first | omega | (simp; omega)
      intro v3 E ah aH _;obtain ⟨q0,q1,q2⟩:=cZ.out 0 _ E ah aH;obtain ⟨vo,vc,aI⟩:=ZAD ah;subst aI;obtain ⟨vs,g1,g2,g3⟩:=q2;have G2:=hid g2;have aJ:Hid (Below G.heap.size G E):=au.out.trans (q1.mono bv)
      have Q:Hid (∀N w4,w4.ownsRow G.heap.size 22 1 N (F.length+1) (vs ++ [.slice vo (k+1+1) vc])→(E.alloc (.cells #[.slice vo (k+1+1) vc] 22)).grownBy w4 u10.ownBlock→Fr G.heap.size 22 3 w4 N (F ++ [l ++ [0]])∧Below G.heap.size G w4):=fun N w4 J V=>ZCZ aJ.out g1 g2 g3 q0 J V
      have cL:G.heap.size≤E.heap.size:=aJ.out.size;have dv:=bt.out;clear q0 q1 g1 g2 g3 ah aH de cW
      go_wp2_with (first | (at_builtin; refine wpList_append_own _ rfl _ _ 25 rfl G.heap.size 22 i0 (.slice none 0 0) 1 24 Tryz.underlying25 hi aN aO aS rfl (by decide) _ _ _ rfl (G2.out.alloc _) ⟨E.heap.size,0,none⟩ 1 1 [.slice vo (k+1+1) vc] rfl rfl (ZAQ _ _ _) (ZAL _ _ _) ?d3 ?d4 ?d5 ?_))
      case d3=>clear y; unfold maxLen; omega
      case d4=>clear y; omega
      case d5=>clear y; first | omega | (simp; omega)
      intro x6 w4 J V _;obtain ⟨q1,q2⟩:=Q.out x6 w4 J V
      have R1:Hid (Fr G.heap.size 22 3 w4 x6 ((A.take (j+1)).map lmE)):=by show Fr _ _ _ _ _ _; rw [←bB.out]; exact q1
      have R2:=hid q2;clear q1 q2 J V Q G2;clear y;go_wp2
      exact ⟨⟨j+1,by omega,by go_num,R1.out,R2.out⟩,by simp [intOf]; omega⟩
    ·have dw:j=A.length:=by omega
     subst dw
     have dz:Hid (Fr w.heap.size 22 3 P u10 ((eaO k rows).map lmE)):=by
      have h:=ay.out;rw [List.take_length,bP.out] at h;exact h.mono HB.out.size
     have cC:Hid (Calls Tryz.prog 32 #[u10] P fun e w'=>∃xo xc s,e=.returned (.slice xo s.length xc)∧Fr w.heap.size 22 3 w' (.slice xo s.length xc) s∧ZF7 s∧(∀r,r∈s↔r∈(eaO k rows).map lmE)∧Below w.heap.size w w'):=by
      have bE:Below w.heap.size w P:=HB.out.trans (au.out.mono HB.out.size)
      refine (ZLZ w.heap.size ((eaO k rows).map lmE) u10 P (dz.out.rws.mat (Za4 _)) (by rw [Zab1,←bP.out]; omega) (fun r hr=>?_)).mono ?_
      ·obtain ⟨x,hx,rfl⟩:=List.mem_map.1 hr
       rw [←bP.out] at hx;have h2:=(da.out x hx).1
       rw [ZLb (by omega)]; omega
      rintro e w' ⟨x,s,rfl,h1,h2,h3,h4⟩;obtain ⟨xo,xc,rfl,_,_⟩:=ZCY h1;exact ⟨xo,xc,s,rfl,h1.mono bE.size,h2,h3,bE.trans (h4.mono bE.size)⟩
     go_wp2_with fail
     refine cC.out.mono ?_;rintro ee w2 ⟨dO,dD,s2,rfl,h1,h2,h3,h4⟩
     have HH:Hid (Fr w.heap.size 22 3 w2 (.slice dO s2.length dD) s2∧ZF7 s2∧(∀r,r∈s2↔r∈(eaO k rows).map lmE)∧Below w.heap.size w w2):=⟨h1,h2,h3,h4⟩
     clear h1 h2 h3 h4 cC;go_wp2;go_ret;exact ⟨_,s2,rfl,HH.out⟩
end Go.Proofs.YtgfnmkenpgnllaaGreat
