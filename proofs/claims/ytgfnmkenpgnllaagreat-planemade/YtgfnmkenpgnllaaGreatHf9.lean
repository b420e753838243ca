import Derived.Test.YtgfnmkenpgnllaaGreatSgE
import Derived.Test.YtgfnmkenpgnllaaGreatRaA
namespace Go.Proofs.YtgfnmkenpgnllaaGreat
set_option maxRecDepth 100000
set_option maxHeartbeats 8000000
open Go.RowKit Go.Shelf
attribute [local go_sem] Oper.semAt_some
def crC(d:Nat)(rows:List (List Int))(c:List Int):List (List Int):=if mtB d (pks rows [] c)=true∧inK rows d (mtL d (pks rows [] c))=true then [mtL d (pks rows [] c)] else []
def crL(d:Nat)(rows pre:List (List Int)):List (List Int):=pre.flatMap (crC d rows)
theorem ZNj(d:Nat)(rows pre:List (List Int))(c:List Int):crL d rows (pre ++ [c])=crL d rows pre ++ crC d rows c:=by simp [crL]
theorem ZIB(d:Nat)(rows:List (List Int)):∀pre,(crL d rows pre).length≤pre.length
 | []=>by simp [crL]
 | c :: pre=>by
  have h:=ZIB d rows pre
  have:(crC d rows c).length≤1:=by unfold crC; split <;> simp
  simp only [crL,List.flatMap_cons,Zaa4,List.length_cons] at *;omega
structure CrI(w WN:World)(d:Nat)(P:List (List Int))(S:Nat→Prop)(pre:List (List Int))(W:World):Prop where
 sn:∀b,S b→w.heap.size+2≤b
 kp:Kpt (fun b=>b < w.heap.size+1) WN W
 os:W.os=w.os
 tape:W.tape=w.tape
 output:W.output=w.output
 rv:∃v vs,W.heap[w.heap.size+1]?=some (.cells #[v] 25 (0,0))∧FrO S (w.heap.size+6) W v (crL d P pre) vs
theorem CrI.stab{w WN W W':World}{d:Nat}{P:List (List Int)}{pre:List (List Int)}{S S':Nat→Prop}(h:CrI w WN d P S pre W)(hN:w.heap.size+2≤WN.heap.size)(hc:Chg S W W')(hs:∀b,S' b→S b∨W.heap.size≤b):CrI w WN d P S' pre W':=by
 have g:=h.kp.size;obtain ⟨v,f,a,c⟩:=h.rv
 refine ⟨fun b hb=>?_,h.kp.trans (Kpt.of_chg hc fun i _ hi hsi=>?_),hc.os.trans h.os,hc.tape.trans h.tape,hc.output.trans h.output,v,f,(hc.block _ (by omega) (fun hx=>by have:=h.sn _ hx; omega)).trans a,c.keep (fun b hb hn=>hc.block b hb hn) hs⟩
 ·rcases hs b hb with a | a
  ·exact h.sn b a
  ·omega
 ·have:=h.sn i hsi
  omega
theorem ZL2{B:Nat}{w W:World}{v:Value}{m:List (List Int)}(h:Mat B 22 3 w v m)(hk:∀b,b < w.heap.size→W.heap[b]?=w.heap[b]?):Mat B 22 3 W v m:=by
 obtain ⟨d,a,c,f⟩:=h
 exact ⟨d,a,c.move fun b hl ht=>⟨hk b hl,ht⟩,fun i hi=>(f i hi).move fun b hl ht=>⟨hk b hl,ht⟩⟩
theorem FrO.setC{S:Nat→Prop}{B b j:Nat}{t:TypeId}{w:World}{v u:Value}{m:List (List Int)}{vs:List Value}{cur:Array Value}(h:FrO S B w v m vs)(hb:b < B)(hR:w.heap[b]?=some (.cells cur t (0,0)))(ht:t≠3):FrO S B (w.setCell ⟨b,j,none⟩ u) v m vs:=by
 refine ⟨h.len,ZM9 h.own hb,h.off,fun i hi=>(h.sl i hi).setCell u ⟨Za5 _,fun cur' e=>?_⟩,h.so⟩
 have a:w.heap[b]?=some (.cells cur' 3 (0,0)):=e;rw [hR] at a;simp at a;exact ht a.2
theorem ZNk(P:List (List Int))(c:List Int):(pks P [] c).length=c.length:=by simp [pks]
theorem ZNl{P:List (List Int)}{c:List Int}(h:∀i,i < c.length→0≤c.getD i 0∧c.getD i 0 < P.length):∀x∈pks P [] c,x∈P:=by
 intro x a;simp only [pks,List.mem_map] at a;obtain ⟨z,f,rfl⟩:=a;obtain ⟨t,b,rfl⟩:=List.getElem_of_mem f;have d:=h t b
 have e:c.getD t 0=c[t]:=by simp [b]
 rw [e] at d
 rw [Za2,Za9 (by omega)]; exact List.getElem_mem _
theorem ZPb{d:Nat}{P t:List (List Int)}(hc:CutOk d P)(h:∀x∈t,x∈P):Mx (d+1) 60 t:=
 ⟨fun r hr=>hc.len r (h r hr),fun r hr z hz=>by have:=hc.bd r (h r hr) z hz; omega,by have:=hc.d3; omega,by omega,by decide,Zaa8 (ZBG (by decide) (show d+1≤5 by have:=hc.d3; omega)) (by decide)⟩
theorem ZOU{d:Nat}{t:List (List Int)}(hb:mtB d t=true):(mtL d t).length=d+1:=by
 have a:ZAp (d+1) t=true:=by unfold mtB at hb; rw [Bool.and_eq_true] at hb; exact hb.1
 exact ZEc (ZLx a)
theorem ZRF{d:Nat}{t:List (List Int)}(hx:Mx (d+1) 60 t)(hb:mtB d t=true):∀z∈mtL d t,z.natAbs≤1000000000000:=by
 have b:ZAp (d+1) t=true:=by unfold mtB at hb; rw [Bool.and_eq_true] at hb; exact hb.1
 have c:∀z∈mtP d t,z.natAbs≤1000000000000:=fun z a=>by
  unfold mtP at a
  split at a
  ·obtain ⟨y,f,rfl⟩:=List.mem_map.1 a
   have:=ZCN hx y f; omega
  ·exact ZCN hx z a
 intro z a;unfold mtL ngR at a
 rcases List.mem_append.1 a with h1 | h1
 ·exact c z (Zaa7 h1)
 ·simp only [List.mem_singleton] at h1
  have:=c ((mtP d t).getD d 0) (ZAn (by rw [ZLx b]; omega))
  omega
theorem ZIC(d:Nat)(P:List (List Int))(v:Value)(w:World)(hv:Mat 0 22 3 w v P)(hok:CutOk d P) :
  Calls Tryz.prog 53 #[.agg #[.int .i64 d,v]] w fun e w'=>∃u m',e=.returned u∧Fr w.heap.size 22 3 w' u m'∧Inor m' (crL d P (ext P.length d 0))∧Below w.heap.size w w':=by
 obtain ⟨i0,cH,bM,bN,cj⟩:=info_parts Tryz.info22;obtain ⟨po,pc,aQ,cT,cO⟩:=ZAE hv;subst aQ;have HV:Hid (Mat 0 22 3 w (.slice po P.length pc) P):=hv;have bu:=hid hok;have h1:=hok.d1;have h4:=hok.d3;have cW:=hok.n12;clear hv hok;refine callsIn_wide (n:=0).1 ?_;refine callsIn_of_wp_marks Tryz.func53 rfl trivial ?_ rfl;simp only [Tryz.ntmps53,List.size_toArray,List.length_cons,List.length_nil,Nat.reduceAdd,Nat.reduceSub,Array.replicate_succ,Array.replicate_zero,List.push_toArray,List.append_toArray,List.nil_append,List.cons_append]
 gi_wp2_with (refine ⟨trivial,rfl,?_⟩; gi_at_call 56; refine (callsIn_wide.2 (ZIc _ _ _)).mono ?_; rintro e w' ⟨rfl,rfl⟩)
 obtain ⟨WN,bw,n1,n2,n3,n4,aX,aw⟩:=ZMr w (.cells #[.int .i64 d,.slice po P.length pc] 61) (.cells #[.slice none 0 0] 25) (.cells #[.int .i64 P.length] 3) (.cells #[.int .i64 d] 3);rw [←bw];clear bw
 have aR:=ZKT P.length d (w.heap.size+1+1+1) (w.heap.size+1+1) WN (by omega) (by omega) (ZAe n4) (ZAe n3)
 have am:=hid aX
 have bY:Hid (CrI w WN d P (fun b=>b=w.heap.size+1+1+1∨b=w.heap.size+1+1) [] WN):=⟨fun b s=>by omega,Kpt.refl _ _,aw.os,aw.tape,aw.output,.slice none 0 0,[],n2,⟨rfl,World.ownsRow_nil _ _ _ _,fun g hg=>by simp [Value.ownBlock] at hg,fun i E=>absurd E (by simp [crL]),fun i E=>absurd E (by simp [crL])⟩⟩
 have bX:=hid n1;have bt:=hid aw;clear n1 n2 n3 n4 aw
 refine ZDX (R:=ZJQ WN.heap.size) (cs:=ext P.length d 0) (T:=fun _=>False) (S0:=fun b=>b=w.heap.size+1+1+1∨b=w.heap.size+1+1) (gf:=86) (lb:=#[.pointer (some ⟨w.heap.size+1+1+1,0,none⟩),.pointer (some ⟨w.heap.size+1+1,0,none⟩)]) rfl (enters_of Tryz.func86 (by kernel_rfl) rfl) aR (fun b s=>by omega)
  (fun M S x vs ⟨v,B0,h1,_⟩=>by rw [h1]; rfl) (ZH9 _) (ZL1 _)
  (fun S f M=>CrI w WN d P S f M)
  (fun c S f M=>False)
  (fun S S' f M W'' h hc hs=>h.stab (by have:=am.out; omega) hc hs) (fun c S S' f M W'' h hc hs=>h) bY.out
  (fun vs a' M=>∃v,vs=#[v]∧a' = { tmps:=#[.agg #[.int .i64 d,.slice po P.length pc],.pointer (some ⟨w.heap.size,0,none⟩),.slice none 0 0,.pointer (some ⟨w.heap.size+1,0,none⟩),v,undef,undef,.pointer (some ⟨w.heap.size,1,none⟩),.slice po P.length pc,.int .i64 P.length,.pointer (some ⟨w.heap.size,0,none⟩),.int .i64 d,.func (.func 86) #[] #[.pointer (some ⟨w.heap.size+1+1+1,0,none⟩),.pointer (some ⟨w.heap.size+1+1,0,none⟩)],v,undef,undef,undef,undef,undef,undef,undef,undef,undef,undef,undef,undef,undef,undef,undef,undef,undef,undef,undef,undef,undef,undef],defers:=[] })
  (fun vs a' M l r o h _=>h) ?assign ?body (fun h=>h) ?done ?stop
 case assign=>
  rintro S x vs M K ⟨v,B0,rfl,h2,h3,h4⟩ hK
  gi_wp2
  exact hK _ _ (Below.refl _ _) ⟨v,rfl,rfl⟩
 case stop=>
  rintro c S f M O h;exact h.elim
 case body=>
  rintro S f c vs a' m E cG cR cM aB aM O ⟨S1,⟨v,B0,bz,ak,bF,ck,bZ⟩,bj⟩ ⟨v',ai,rfl⟩
  have aQ:v=v':=by rw [bz] at ai; simpa using ai
  subst aQ
  have aG:c∈ext P.length d 0:=O.subset (by simp)
  obtain ⟨bi,bC,_⟩:=ZBi aG;have az:=am.out;have aC:=E.kp.size
  have e1:m.heap[w.heap.size]?=some (.cells #[.int .i64 d,.slice po P.length pc] 61 (0,0)):=(E.kp.block _ (by omega) (by omega)).trans bX.out
  have Q:∀b,b < w.heap.size→m.heap[b]?=w.heap[b]?:=fun b s=>(E.kp.block b (by omega) (by omega)).trans (bt.out.block b s)
  obtain ⟨rv,aq,au,af⟩:=E.rv
  have cr:Hid (∀b,S b→b < m.heap.size):=fun b hx=>by
   rcases (bj _).1 hx with hx | hx | hx
   ·have:=bF _ hx; omega
   ·omega
   ·omega
  have aD:∀i,i < c.length→0≤c.getD i 0∧c.getD i 0 < P.length:=fun i E=>by have:=bC i (by omega); exact ⟨by omega,this.2⟩
  obtain ⟨vo,vc,cJ⟩:=ZAD ak;subst cJ;have aK:Hid (Mat 0 22 3 m (.slice po P.length pc) P):=ZL2 HV.out Q
  have ae:Hid (∀X,Below m.heap.size m X→X.cell? ⟨w.heap.size,0,none⟩=some (.int .i64 d)∧X.cell? ⟨w.heap.size,1,none⟩=some (.slice po P.length pc)):=fun X hX=>by
   have h0:=(hX.block w.heap.size (by omega)).trans e1
   exact ⟨by simp [World.cell?,h0],by simp [World.cell?,h0]⟩
  obtain ⟨bv,bl⟩:=ae.out m (Below.refl _ _);have aY:=ZNl aD;have aA:Hid (Mx (d+1) 60 (pks P [] c)):=ZPb bu.out aY
  have aj:Hid ((pks P [] c).length=d):=by show _=_; rw [ZNk,bi]
  have bA:Hid (Calls Tryz.prog 59 #[.slice po P.length pc,.slice vo c.length vc] m.drew fun e w'=>∃zo zc,e=.returned (.slice zo d zc)∧Below m.heap.size m w'∧Mat w'.heap.size 22 3 w' (.slice zo d zc) (pks P [] c)):=by
   have h:=ZH8 (max m.heap.size w.heap.size) P c _ _ m.drew ((aK.out.more (by omega)).drewN 1) ((Sl.own ak).drewN 1) aD (by omega)
   refine h.mono ?_;rintro e w' ⟨z,rfl,hz,s⟩;obtain ⟨zo,zc,rfl,_,_⟩:=ZAE (hz.mat (Za4 _));rw [aj.out] at hz ⊢;have bT:Below m.heap.size m w':=((Below.refl _ _).drew (B:=m.heap.size)).trans s;exact ⟨zo,zc,rfl,bT,(hz.mat (Za4 _)).any (Za4 _)⟩
  have bp:Hid (∀zo zc w',Below m.heap.size m w'→Mat w'.heap.size 22 3 w' (.slice zo d zc) (pks P [] c)→Calls Tryz.prog 81 #[.slice zo d zc,.int .i64 d] w' fun e L=>∃t J A,e=.returned (.tuple #[.slice t J A,.bool (mtB d (pks P [] c))])∧(mtB d (pks P [] c)=true→J=d+1∧Sl 0 3 L (.slice t J A) (ZAB (mtL d (pks P [] c)))∧∃a,t=some a∧m.heap.size≤a.block)∧Below m.heap.size m L):=fun zo zc w' s hm=>by
   refine (ZG7 w'.heap.size d (pks P [] c) _ w' aA.out hm (by rw [aj.out]; omega) (by rw [aj.out]; omega)).mono ?_
   rintro e L ⟨t,J,A,rfl,hq,cA⟩
   refine ⟨t,J,A,rfl,fun h=>?_,s.trans (cA.mono s.size)⟩
   obtain ⟨q1,q2,a,q3,q4⟩:=hq h;exact ⟨q1,q2,a,q3,Zaa8 s.size q4⟩
  have aS:Hid (∀t A w',Below m.heap.size m w'→mtB d (pks P [] c)=true→Sl 0 3 w' (.slice t (d+1) A) (ZAB (mtL d (pks P [] c)))→Calls Tryz.prog 82 #[.agg #[.int .i64 d,.slice po P.length pc],.slice t (d+1) A] w' fun e L=>e=.returned (.bool (inK P d (mtL d (pks P [] c))))∧Below w'.heap.size w' L):=fun t A w' s hm hs=>
   ZNi d P (mtL d (pks P [] c)) _ t A w' (aK.out.below s (Za4 _)) hs (ZOU hm) (ZRF aA.out hm) bu.out
  obtain ⟨lr,aM⟩:=aM
  have ar:Hid (∀D,Below m.heap.size m D→CrI w WN d P S f D):=fun D s=>E.stab (by omega) (Chg.of_below s (Za4 _)) (fun b s=>.inl s)
  have bU:Hid (∀b,S b→w.heap.size+2≤b):=E.sn
  have F:=hid af;have ah:=hid au
  have bR:Hid ((crL d P f).length≤1000000):=by
   have hl:=ZIB d P f
   have h2:f.length≤(ext P.length d 0).length:=by
    have:=O.length_le;simp only [Zaa4,List.length_cons,List.length_nil] at this;omega
   have h3:(ext P.length d 0).length=(chz d P).length:=by
    have:=congrArg List.length (ZCM P [] d 0)
    simpa using this
   have h5:(chz d P).length≤1000000:=by
    rw [←ZFy];refine Zaa8 (ZFx _ _) ?_
    exact Zaa8 (Nat.pow_le_pow_left (show P.length+1≤25 by omega) d) (Zaa8 (Nat.pow_le_pow_right (by decide) (show d≤4 by omega)) (by decide))
   show _≤_
   omega
  have G:Hid (crL d P (f ++ [c])=crL d P f ++ crC d P c):=ZNj d P f c
  have U:Hid (crC d P c=if mtB d (pks P [] c)=true∧inK P d (mtL d (pks P [] c))=true then [mtL d (pks P [] c)] else []):=rfl
  have bI:Hid (mtB d (pks P [] c)=true→(mtL d (pks P [] c)).length=d+1):=ZOU
  have bW:w.heap.size+6≤m.heap.size:=by omega
  clear E O ak bF ck bZ bj aG bi bC aB aM bz ai aD Q au af az aC e1 aK aR aY;generalize mtL d (pks P [] c)=y0 at *;generalize mtB d (pks P [] c)=mb at *;generalize inK P d y0=kb at *
  have ag:Hid (crC d P c=[]→∀D,Below m.heap.size m D→Kpt (fun b=>S b∨False) m D∧CrI w WN d P S (f ++ [c]) D):=fun hcr D s=>by
   refine ⟨Kpt.of_below s (Za4 _),?_⟩;have h:=ar.out D s;obtain ⟨q1,q2,q3,q4,q5,q6⟩:=h;refine ⟨q1,q2,q3,q4,q5,?_⟩;rw [G.out,hcr,List.append_nil];exact q6
  gi_upto_region 4 with fail
  dsimp only
  gi_cut [5,6] from 14 (fun x y wx=>∃t J A,x=.slice t J A∧y=.bool mb∧(mb=true→J=d+1∧Sl 0 3 wx (.slice t J A) (ZAB y0)∧∃a,t=some a∧m.heap.size≤a.block)∧Below m.heap.size m wx)
  case first=>
   refine ZCU (fun w'=>w'.cell? ⟨w.heap.size,0,none⟩=some (.int .i64 d)∧w'.cell? ⟨w.heap.size,1,none⟩=some (.slice po P.length pc)) (by kernel_rfl) (ZIr (by kernel_rfl)) (fun a w h=>h) ⟨bv,bl⟩ (fun hHeld=>?_)
   refine ZAA (i:=0) (d:=15) (v:=.pointer (some ⟨w.heap.size,1,none⟩)) rfl rfl (by kernel_rfl) (by kernel_rfl) (by kernel_rfl) (fun _ _ _ h=>h) (.inl ⟨by rfl,by (intro wq p; (try dsimp only at p); go_simp; (try (first | rfl | omega)))⟩) hHeld ?_
   simp only [Act.put,Za1,List.set]
   refine ZAA (i:=1) (d:=16) (v:=.slice po P.length pc) rfl rfl (by kernel_rfl) (by kernel_rfl) (by kernel_rfl) (fun _ _ _ h=>h) (.inl ⟨by rfl,by (intro wq p; (try dsimp only at p); go_simp; (try (first | rfl | omega)))⟩) hHeld ?_
   simp only [Act.put,Za1,List.set]
   refine ZAA (i:=2) (d:=17) (v:=.slice vo c.length vc) rfl rfl (by kernel_rfl) (by kernel_rfl) (by kernel_rfl) (fun _ _ _ h=>h) (.inl ⟨by rfl,by (intro wq p; (try dsimp only at p); go_simp; (try (first | rfl | omega)))⟩) hHeld ?_
   simp only [Act.put,Za1,List.set]
   refine ZAA (i:=4) (d:=19) (v:=.pointer (some ⟨w.heap.size,0,none⟩)) rfl rfl (by kernel_rfl) (by kernel_rfl) (by kernel_rfl) (fun _ _ _ h=>h) (.inl ⟨by rfl,by (intro wq p; (try dsimp only at p); go_simp; (try (first | rfl | omega)))⟩) hHeld ?_
   simp only [Act.put,Za1,List.set]
   refine ZAA (i:=5) (d:=20) (v:=.int .i64 d) rfl rfl (by kernel_rfl) (by kernel_rfl) (by kernel_rfl) (fun _ _ _ h=>h) (.inl ⟨by rfl,by (intro wq p; (try dsimp only at p); go_simp; (try (first | rfl | omega)))⟩) hHeld ?_
   simp only [Act.put,Za1,List.set]
   refine wpAnyH_ready (rs:=[3]) (by kernel_rfl) (by simp) ?_
   refine ZAF (i:=3) rfl (by rfl) (fun K hK=>?_) AllReadyH.nil
   go_simp;refine bA.out.mono ?_;rintro e w6 ⟨zo,zc,rfl,bB,bO⟩
   refine hK.out _ _ (ae.out w6 bB) (fun hHeld=>?_)
   clear hK K
   refine wpAnyH_ready (rs:=[6]) (by kernel_rfl) (by simp) ?_
   refine ZAF (i:=6) rfl (by rfl) (fun K hK=>?_) AllReadyH.nil
   go_simp;refine (bp.out _ _ w6 bB bO).mono ?_;rintro e D ⟨t,J,A,rfl,aZ,aN⟩
   refine hK.out _ _ (ae.out D aN) (fun hHeld=>?_)
   clear hK K;have cw:=hid aZ;have bK:=hid aN;clear aZ aN
   refine ZAA (i:=7) (d:=14) (v:=.tuple #[.slice t J A,.bool mb]) rfl rfl (by kernel_rfl) (by kernel_rfl) (by kernel_rfl) (fun _ _ _ h=>h) (.inl ⟨by rfl,by (intro wq p; (try dsimp only at p); go_simp; (try (first | rfl | omega)))⟩) hHeld ?_
   simp only [Act.put,Za1,List.set]
   refine ZAA (i:=8) (d:=22) (v:=.slice t J A) rfl rfl (by kernel_rfl) (by kernel_rfl) (by kernel_rfl) (fun _ _ _ h=>h) (.inl ⟨by rfl,by (intro wq p; (try dsimp only at p); go_simp; (try (first | rfl | omega)))⟩) hHeld ?_
   simp only [Act.put,Za1,List.set]
   refine ZAA (i:=9) (d:=23) (v:=.bool mb) rfl rfl (by kernel_rfl) (by kernel_rfl) (by kernel_rfl) (fun _ _ _ h=>h) (.inl ⟨by rfl,by (intro wq p; (try dsimp only at p); go_simp; (try (first | rfl | omega)))⟩) hHeld ?_
   simp only [Act.put,Za1,List.set]
   refine ZAA (i:=10) (d:=5) (v:=.slice t J A) rfl rfl (by kernel_rfl) (by kernel_rfl) (by kernel_rfl) (fun _ _ _ h=>h) (.inl ⟨by rfl,by (intro wq p; (try dsimp only at p); go_simp; (try (first | rfl | omega)))⟩) hHeld ?_
   simp only [Act.put,Za1,List.set]
   refine ZAA (i:=11) (d:=6) (v:=.bool mb) rfl rfl (by kernel_rfl) (by kernel_rfl) (by kernel_rfl) (fun _ _ _ h=>h) (.inl ⟨by rfl,by (intro wq p; (try dsimp only at p); go_simp; (try (first | rfl | omega)))⟩) hHeld ?_
   simp only [Act.put,Za1,List.set]
   refine wpAnyH_done (by kernel_rfl) ?_ _
   dsimp only [Nrm]
   gi_wp2_with fail
   gi_meet
   exact ⟨t,J,A,rfl,rfl,cw.out,bK.out⟩
  case rest=>
  obtain ⟨t,J,A,rfl,rfl,hq,Y⟩:=hcut;clear bA bp
  cases mb with
  | false=>
   have HF:Hid _:=ag.out (by rw [U.out]; simp) wc Y
   clear Y hq aS ag ar F ah G U aA aj ae bI
   gi_wp2
   refine ⟨trivial,?_⟩
   gi_wp2
   exact HF.out
  | true=>
   obtain ⟨rfl,aO,bD⟩:=hq rfl;obtain ⟨cd,cg⟩:=ae.out wc Y
   have aE:Hid (Calls Tryz.prog 82 #[.agg #[.int .i64 d,.slice po P.length pc],.slice t (d+1) A] wc fun e L=>e=.returned (.bool kb)∧Below wc.heap.size wc L):=aS.out t A wc Y rfl aO
   have V:=hid Y;have aJ:=hid aO;have aP:=hid bD;clear Y aO bD hq aS aA aj ae bI
   cases kb with
   | false=>
    have aI:Hid (∀D,Below m.heap.size m D→Kpt (fun b=>S b∨False) m D∧CrI w WN d P S (f ++ [c]) D):=ag.out (by rw [U.out]; simp)
    clear ag ar F ah G U
    gi_wp2_with fail
    refine ⟨trivial,rfl,?_⟩
    gi_at_call 82
    refine (CallsIn.inRound _ (callsIn_wide.2 aE.out)).mono ?_;rintro e w8 ⟨rfl,aa⟩;have HF:Hid _:=aI.out w8 (V.out.trans (aa.mono V.out.size));clear aI aa aE V aJ aP
    gi_wp2
    exact HF.out
   | true=>
    have aH:Hid (crL d P (f ++ [c])=crL d P f ++ [y0]):=by show _=_; rw [G.out,U.out]; simp
    gi_wp2_with fail
    refine ⟨trivial,rfl,?_⟩
    gi_at_call 82
    refine (CallsIn.inRound _ (callsIn_wide.2 aE.out)).mono ?_;rintro e D ⟨rfl,aa⟩;have s:Below m.heap.size m D:=V.out.trans (aa.mono V.out.size);have aU:Sl 0 3 D (.slice t (d+1) A) (ZAB y0):=aJ.out.below aa (Za4 _)
    have bH:Hid (∀v' w8,w8.ownsRow (w.heap.size+6) 22 1 v' ((crL d P f).length+1) (aq ++ [.slice t (d+1) A])→(D.alloc (.cells #[.slice t (d+1) A] 22)).grownBy w8 rv.ownBlock→(v'.ownBlock=rv.ownBlock∨v'.ownBlock=some (D.heap.size+1))→
      w8.cell? ⟨w.heap.size+1,0,none⟩=some rv∧w8.frozen? ⟨w.heap.size+1,0,none⟩=false∧Kpt (fun b=>S b∨False) m (w8.setCell ⟨w.heap.size+1,0,none⟩ v')∧CrI w WN d P S (f ++ [c]) (w8.setCell ⟨w.heap.size+1,0,none⟩ v')):=fun v' w8 ho hg ay=>by
     obtain ⟨xa,bS,cE⟩:=aP.out;have cS:=s.size
     have an:∀b,b < m.heap.size→(∀g,rv.ownBlock=some g→b≠g)→w8.heap[b]?=m.heap[b]?:=fun b hb1 hne=>
      (hg.block b (by simp; omega) (fun e=>hne b e.symm rfl)).trans ((Below.heap_alloc _ _ _ (by omega)).trans (s.block b hb1))
     have cD:∀g,rv.ownBlock=some g→w.heap.size+1≠g:=fun g hg1=>by have:=(F.out.own.lt g hg1).1; omega
     have h8:w8.heap[w.heap.size+1]?=some (.cells #[rv] 25 (0,0)):=(an _ (by omega) cD).trans ah.out
     have cI:=hg.size;simp only [World.size_alloc] at cI
     have aF:∀b,m.heap.size≤b→¬S b:=fun b hb1 hs=>by have:=cr.out b hs; omega
     refine ⟨ZAe h8,by simp [World.frozen?,h8],⟨by simp [World.setCell]; omega,fun b hb1 hs=>?_⟩,?_⟩
     ·have bG:S b:=hs.elim id False.elim
      refine (Below.heap_setCell _ _ _ _ (by show b≠w.heap.size+1; have:=bU.out b bG; omega)).trans (an b hb1 (fun g hg1 e=>?_))
      subst e;exact F.out.off _ hg1 bG
     ·have cC:=ar.out D s
      have bJ:FrO S (w.heap.size+6) (D.alloc (.cells #[.slice t (d+1) A] 22)) rv (crL d P f) aq:=F.out.keep (fun b hb1 hn=>(Below.heap_alloc _ _ _ (by omega)).trans (s.block b hb1)) (fun b s=>.inl s)
      have aL:=bJ.push (u:=.slice t (d+1) A) (zs:=y0) (aU.alloc _) (fun hp=>⟨xa,_,_,by rw [bS],aF _ cE⟩) ho hg (fun g hg1=>by
       rcases ay with h | h
       ·rw [h] at hg1; exact F.out.off g hg1
       ·rw [h] at hg1
        simp only [Zaa9] at hg1
        exact aF g (by omega))
      have bk:=aL.setC (b:=w.heap.size+1) (j:=0) (u:=v') (by omega) h8 (by decide)
      obtain ⟨q1,q2,q3,q4,q5,_⟩:=cC
      refine ⟨q1,q2.trans ⟨?_,fun b hb1 hlt=>?_⟩,?_,?_,?_,v',aq ++ [.slice t (d+1) A],?_,by rw [aH.out]; exact bk⟩
      ·simp [World.setCell]; omega
      ·have bq:b < m.heap.size:=by have:=am.out; omega
       refine (Below.heap_setCell _ _ _ _ (by show b≠w.heap.size+1; omega)).trans ((an b bq (fun g hg1 e=>?_)).trans (s.block b bq).symm)
       have:=(F.out.own.lt g hg1).1;omega
      ·exact hg.os.trans q3
      ·exact hg.tape.trans q4
      ·exact hg.output.trans q5
      ·exact ZKm h8
    have bV:Hid (D.ownsRow (w.heap.size+6) 22 1 rv (crL d P f).length aq):=ZAN F.out.own s (Za4 _);have cL:w.heap.size+6≤D.heap.size:=Zaa8 bW s.size
    have cP:D.cell? ⟨w.heap.size+1,0,none⟩=some rv:=ZAe ((s.block _ (by omega)).trans ah.out)
    have aD:=bR.out;clear aa s aU aE V aJ aP ag ar F ah G U aH cd cg bv bl
    gi_wp2_with (first | (gi_at_builtin; refine wpListIn_append_own_at _ rfl _ _ 25 rfl (w.heap.size+6) 22 i0 (.slice none 0 0) 1 24 Tryz.underlying25 cH bM bN cj rfl (by decide) _ _ _ rfl (bV.out.alloc _) ⟨D.heap.size,0,none⟩ 1 1 [.slice t (d+1) A] rfl rfl (ZAQ _ _ _) (ZAL _ _ _) ?d3 ?d4 ?d5 ?_))
    case d3=>unfold maxLen; omega
    case d4=>omega
    case d5=>simp; omega
    intro v' w9 ho hg _ ay;obtain ⟨cV,cN,bQ⟩:=ZAD ho;subst bQ;obtain ⟨cU,cQ,bg,aV⟩:=bH.out _ w9 ho hg ay;have bP:Hid _:=bg;have cB:Hid _:=aV;clear ho hg ay bH bg aV
    gi_wp2
    exact ⟨bP.out,cB.out⟩
 case done=>
  rintro S M E cG aB;have az:=am.out;have aC:=E.kp.size;obtain ⟨rv,aq,au,af⟩:=E.rv
  have aT:Hid ((crL d P (ext P.length d 0)).length≤1000000):=by
   have hl:=ZIB d P (ext P.length d 0)
   have h3:(ext P.length d 0).length=(chz d P).length:=by
    have:=congrArg List.length (ZCM P [] d 0)
    simpa using this
   have h5:(chz d P).length≤1000000:=by
    rw [←ZFy];refine Zaa8 (ZFx _ _) ?_
    exact Zaa8 (Nat.pow_le_pow_left (show P.length+1≤25 by omega) d) (Zaa8 (Nat.pow_le_pow_right (by decide) (show d≤4 by omega)) (by decide))
   show _≤_
   omega
  have cq:Hid (Calls Tryz.prog 83 #[rv] M fun e w'=>∃u m',e=.returned u∧Fr (w.heap.size+6) 22 3 w' u m'∧Inor m' (crL d P (ext P.length d 0))∧Below (w.heap.size+6) M w'):=ZHy (w.heap.size+6) (crL d P (ext P.length d 0)) rv M af.fr (Zaa8 aT.out (by decide))
  have k0:M.cell? ⟨w.heap.size+1,0,none⟩=some rv:=ZAe au;have HI:=hid E;have aW:=hid aB;obtain ⟨ro,rc,bL⟩:=ZAD af.own;subst bL;clear E aB au af aR aX az aC
  gi_wp2_with (refine ⟨trivial,rfl,?_⟩; gi_at_call 83; refine (callsIn_wide.2 cq.out).mono ?_; rintro e w4 ⟨u,m',rfl,bh,bE,N⟩; obtain ⟨t,A,cF,_,_⟩:=ZCY bh; subst cF)
  have az:=am.out;have aC:=HI.out.kp.size
  have Q:∀b,b < w.heap.size→M.heap[b]?=w.heap[b]?:=fun b s=>(HI.out.kp.block b (by omega) (by omega)).trans (bt.out.block b s)
  refine ZAq [WN.heap.size] w4 (by simp) (fun r hr=>?_) (fun w' hc=>⟨.slice t m'.length A,?_,?_⟩)
  ·simp only [List.mem_singleton] at hr
   subst hr
   exact (N.block _ (by omega)).trans aW.out
  ·simp [results,Tryz.results53,go_sem]
  ·have cK:=N.size
   refine ⟨_,m',rfl,?_,bE,hc.os.trans (N.os.trans HI.out.os),hc.tape.trans (N.tape.trans HI.out.tape),hc.output.trans (N.output.trans HI.out.output),by have:=hc.size; omega,fun b s=>?_⟩
   ·obtain ⟨vs,f1,f2,f3⟩:=bh
    have hD:w4.heap[WN.heap.size]?=some (.deferred (some [])):=(N.block _ (by omega)).trans aW.out
    refine ⟨vs,f1,⟨f2.1,?_⟩,fun i E=>(f3 i E).move fun b hl ht=>⟨hc.block b hl (fun e=>?_),ht⟩⟩
    ·rcases f2.2 with h2 | ⟨g,cap,cur,h5,hbb,hh,r⟩
     ·exact Or.inl h2
     ·refine Or.inr ⟨g,cap,cur,h5,by omega,(hc.block g (lt_of_block hh) (fun e=>?_)).trans hh,r⟩
      simp only [List.mem_singleton] at e;omega
    ·simp only [List.mem_singleton] at e
     subst e
     rcases ht with ht | ⟨c,ht⟩
     ·omega
     ·rw [hD] at ht; cases ht
   ·exact (hc.block b (by omega) (by simp; omega)).trans ((N.block b (by omega)).trans (Q b s))
end Go.Proofs.YtgfnmkenpgnllaaGreat
