import Derived.Test.YtkjkfceblmgogaaGreatSgE
import Derived.Test.YtkjkfceblmgogaaGreatRaA
namespace Go.Proofs.YtkjkfceblmgogaaGreat
set_option maxRecDepth 100000
set_option maxHeartbeats 8000000
open Go.RowKit Go.Shelf
attribute [local go_sem] Oper.semAt_some
def crC(d:Nat)(rows:List (List Int))(c:List Int):List (List Int):=if mtB d (pks rows [] c)=true∧inK rows d (mtL d (pks rows [] c))=true then [mtL d (pks rows [] c)] else []
def crL(d:Nat)(rows pre:List (List Int)):List (List Int):=pre.flatMap (crC d rows)
theorem ZN6(d:Nat)(rows pre:List (List Int))(c:List Int):crL d rows (pre ++ [c])=crL d rows pre ++ crC d rows c:=by simp [crL]
theorem ZIO(d:Nat)(rows:List (List Int)):∀pre,(crL d rows pre).length≤pre.length
 | []=>by simp [crL]
 | c :: pre=>by
  have h:=ZIO d rows pre
  have:(crC d rows c).length≤1:=by unfold crC; split <;> simp
  simp only [crL,List.flatMap_cons,Zaa4,List.length_cons] at *;omega
structure CrI(w WN:World)(d:Nat)(P:List (List Int))(S:Nat→Prop)(pre:List (List Int))(W:World):Prop where
 sn:∀b,S b→w.heap.size+2≤b
 kp:Kpt (fun b=>b < w.heap.size+1) WN W
 os:W.os=w.os
 tape:W.tape=w.tape
 output:W.output=w.output
 rv:∃v vs,W.heap[w.heap.size+1]?=some (.cells #[v] 22 (0,0))∧FrO S (w.heap.size+6) W v (crL d P pre) vs
theorem CrI.stab{w WN W W':World}{d:Nat}{P:List (List Int)}{pre:List (List Int)}{S S':Nat→Prop}(h:CrI w WN d P S pre W)(hN:w.heap.size+2≤WN.heap.size)(hc:Chg S W W')(hs:∀b,S' b→S b∨W.heap.size≤b):CrI w WN d P S' pre W':=by
 have g:=h.kp.size;obtain ⟨v,f,a,c⟩:=h.rv
 refine ⟨fun b hb=>?_,h.kp.trans (Kpt.of_chg hc fun i _ hi hsi=>?_),hc.os.trans h.os,hc.tape.trans h.tape,hc.output.trans h.output,v,f,(hc.block _ (by omega) (fun hx=>by have:=h.sn _ hx; omega)).trans a,c.keep (fun b hb hn=>hc.block b hb hn) hs⟩
 ·rcases hs b hb with a | a
  ·exact h.sn b a
  ·omega
 ·have:=h.sn i hsi
  omega
theorem ZMH{B:Nat}{w W:World}{v:Value}{m:List (List Int)}(h:Mat B 27 3 w v m)(hk:∀b,b < w.heap.size→W.heap[b]?=w.heap[b]?):Mat B 27 3 W v m:=by
 obtain ⟨a,c,d,f⟩:=h
 exact ⟨a,c,d.move fun b hl ht=>⟨hk b hl,ht⟩,fun i hi=>(f i hi).move fun b hl ht=>⟨hk b hl,ht⟩⟩
theorem FrO.setC{S:Nat→Prop}{B b j:Nat}{t:TypeId}{w:World}{v u:Value}{m:List (List Int)}{vs:List Value}{cur:Array Value}(h:FrO S B w v m vs)(hb:b < B)(hR:w.heap[b]?=some (.cells cur t (0,0)))(ht:t≠3):FrO S B (w.setCell ⟨b,j,none⟩ u) v m vs:=by
 refine ⟨h.len,ZNS h.own hb,h.off,fun i hi=>(h.sl i hi).setCell u ⟨Za5 _,fun cur' e=>?_⟩,h.so⟩
 have a:w.heap[b]?=some (.cells cur' 3 (0,0)):=e;rw [hR] at a;simp at a;exact ht a.2
theorem ZN7(P:List (List Int))(c:List Int):(pks P [] c).length=c.length:=by simp [pks]
theorem ZN8{P:List (List Int)}{c:List Int}(h:∀i,i < c.length→0≤c.getD i 0∧c.getD i 0 < P.length):∀x∈pks P [] c,x∈P:=by
 intro x a;simp only [pks,List.mem_map] at a;obtain ⟨z,d,rfl⟩:=a;obtain ⟨t,b,rfl⟩:=List.getElem_of_mem d;have f:=h t b
 have e:c.getD t 0=c[t]:=by simp [b]
 rw [e] at f
 rw [Za2,Za9 (by omega)]; exact List.getElem_mem _
theorem ZP3{d:Nat}{P t:List (List Int)}(hc:CutF d P)(h:∀x∈t,x∈P):Mx (d+1) 60 t:=
 ⟨fun r hr=>hc.len r (h r hr),fun r hr z hz=>by have:=hc.bd r (h r hr) z hz; omega,by have:=hc.d4; omega,by omega,by decide,Zaa8 (ZAz (by decide) (show d+1≤5 by have:=hc.d4; omega)) (by decide)⟩
theorem ZOt{d:Nat}{t:List (List Int)}(hb:mtB d t=true):(mtL d t).length=d+1:=by
 have a:ZAp (d+1) t=true:=by unfold mtB at hb; rw [Bool.and_eq_true] at hb; exact hb.1
 exact ZEY (ZMC a)
theorem ZRj{d:Nat}{t:List (List Int)}(hx:Mx (d+1) 60 t)(hb:mtB d t=true):∀z∈mtL d t,z.natAbs≤1000000000000:=by
 have b:ZAp (d+1) t=true:=by unfold mtB at hb; rw [Bool.and_eq_true] at hb; exact hb.1
 have c:∀z∈mtP d t,z.natAbs≤1000000000000:=fun z a=>by
  unfold mtP at a
  split at a
  ·obtain ⟨y,f,rfl⟩:=List.mem_map.1 a
   have:=ZCn hx y f; omega
  ·exact ZCn hx z a
 intro z a;unfold mtL ngR at a
 rcases List.mem_append.1 a with h1 | h1
 ·exact c z (Zaa7 h1)
 ·simp only [List.mem_singleton] at h1
  have:=c ((mtP d t).getD d 0) (ZAj (by rw [ZMC b]; omega))
  omega
theorem ZIP(d:Nat)(P:List (List Int))(v:Value)(w:World){B0:Nat}(hv0:Mat B0 27 3 w v P)(hok:CutF d P) :
  Calls Tryz.prog 48 #[.agg #[.int .i64 d,v]] w fun e w'=>∃u m',e=.returned u∧Fr w.heap.size 27 3 w' u m'∧Inor m' (crL d P (ext P.length d 0))∧Below w.heap.size w w':=by
 have hv:Mat w.heap.size 27 3 w v P:=hv0.any (Za4 _);clear hv0;obtain ⟨i0,cA,cB,cr,bK⟩:=info_parts Tryz.info27;obtain ⟨po,pc,aQ,cO,cT⟩:=ZAD hv;subst aQ;have HV:Hid (Mat w.heap.size 27 3 w (.slice po P.length pc) P):=hv;have bB:=hid hok;have h1:=hok.d1;have h4:=hok.d4;have cV:=hok.n12;clear hv hok;refine callsIn_wide (n:=0).1 ?_;refine callsIn_of_wp_marks Tryz.func48 rfl trivial ?_ rfl;simp only [Tryz.ntmps48,List.size_toArray,List.length_cons,List.length_nil,Nat.reduceAdd,Nat.reduceSub,Array.replicate_succ,Array.replicate_zero,List.push_toArray,List.append_toArray,List.nil_append,List.cons_append]
 gi_wp2_with (refine ⟨trivial,rfl,?_⟩; gi_at_call 51; refine (callsIn_wide.2 (ZIp _ _ _)).mono ?_; rintro e w' ⟨rfl,rfl⟩)
 obtain ⟨WN,bD,n1,n2,n3,n4,bA,am⟩:=ZNA w (.cells #[.int .i64 d,.slice po P.length pc] 56) (.cells #[.slice none 0 0] 22) (.cells #[.int .i64 P.length] 3) (.cells #[.int .i64 d] 3);rw [←bD];clear bD
 have aM:=ZKj P.length d (w.heap.size+1+1+1) (w.heap.size+1+1) WN (by omega) (by omega) (ZAc n4) (ZAc n3)
 have ar:=hid bA
 have cw:Hid (CrI w WN d P (fun b=>b=w.heap.size+1+1+1∨b=w.heap.size+1+1) [] WN):=⟨fun b s=>by omega,Kpt.refl _ _,am.os,am.tape,am.output,.slice none 0 0,[],n2,⟨rfl,World.ownsRow_nil _ _ _ _,fun g hg=>by simp [Value.ownBlock] at hg,fun i F=>absurd F (by simp [crL]),fun i F=>absurd F (by simp [crL])⟩⟩
 have cI:=hid n1;have bu:=hid am;clear n1 n2 n3 n4 am
 refine ZDW (R:=ZJe WN.heap.size) (cs:=ext P.length d 0) (T:=fun _=>False) (S0:=fun b=>b=w.heap.size+1+1+1∨b=w.heap.size+1+1) (gf:=81) (lb:=#[.pointer (some ⟨w.heap.size+1+1+1,0,none⟩),.pointer (some ⟨w.heap.size+1+1,0,none⟩)]) rfl (enters_of Tryz.func81 (by kernel_rfl) rfl) aM (fun b s=>by omega)
  (fun J S x vs ⟨v,B0,h1,_⟩=>by rw [h1]; rfl) (ZIM _) (ZMG _)
  (fun S f J=>CrI w WN d P S f J)
  (fun c S f J=>False)
  (fun S S' f J W'' h hc hs=>h.stab (by have:=ar.out; omega) hc hs) (fun c S S' f J W'' h hc hs=>h) cw.out
  (fun vs a' J=>∃v,vs=#[v]∧a' = { tmps:=#[.agg #[.int .i64 d,.slice po P.length pc],.pointer (some ⟨w.heap.size,0,none⟩),.slice none 0 0,.pointer (some ⟨w.heap.size+1,0,none⟩),v,undef,undef,.pointer (some ⟨w.heap.size,1,none⟩),.slice po P.length pc,.int .i64 P.length,.pointer (some ⟨w.heap.size,0,none⟩),.int .i64 d,.func (.func 81) #[] #[.pointer (some ⟨w.heap.size+1+1+1,0,none⟩),.pointer (some ⟨w.heap.size+1+1,0,none⟩)],v,undef,undef,undef,undef,undef,undef,undef,undef,undef,undef,undef,undef,undef,undef,undef,undef,undef,undef,undef,undef,undef,undef],defers:=[] })
  (fun vs a' J l r o h _=>h) ?assign ?body (fun h=>h) ?done ?stop
 case assign=>
  rintro S x vs J K ⟨v,B0,rfl,h2,h3,h4⟩ hK
  gi_wp2
  exact hK _ _ (Below.refl _ _) ⟨v,rfl,rfl⟩
 case stop=>
  rintro c S f J O h;exact h.elim
 case body=>
  rintro S f c vs a' m F cj cW cK aA aS O ⟨S1,⟨v,B0,bj,au,bg,cg,bN⟩,aZ⟩ ⟨v',ai,rfl⟩
  have aQ:v=v':=by rw [bj] at ai; simpa using ai
  subst aQ
  have aH:c∈ext P.length d 0:=O.subset (by simp)
  obtain ⟨bq,aV,_⟩:=ZBk aH;have aD:=ar.out;have ay:=F.kp.size
  have e1:m.heap[w.heap.size]?=some (.cells #[.int .i64 d,.slice po P.length pc] 56 (0,0)):=(F.kp.block _ (by omega) (by omega)).trans cI.out
  have Q:∀b,b < w.heap.size→m.heap[b]?=w.heap[b]?:=fun b s=>(F.kp.block b (by omega) (by omega)).trans (bu.out.block b s)
  obtain ⟨rv,ak,ag,V⟩:=F.rv
  have cq:Hid (∀b,S b→b < m.heap.size):=fun b hx=>by
   rcases (aZ _).1 hx with hx | hx | hx
   ·have:=bg _ hx; omega
   ·omega
   ·omega
  have az:∀i,i < c.length→0≤c.getD i 0∧c.getD i 0 < P.length:=fun i F=>by have:=aV i (by omega); exact ⟨by omega,this.2⟩
  obtain ⟨vo,vc,bZ⟩:=ZAE au;subst bZ;have aJ:Hid (Mat w.heap.size 27 3 m (.slice po P.length pc) P):=ZMH HV.out Q
  have U:Hid (∀X,Below m.heap.size m X→X.cell? ⟨w.heap.size,0,none⟩=some (.int .i64 d)∧X.cell? ⟨w.heap.size,1,none⟩=some (.slice po P.length pc)):=fun X hX=>by
   have h0:=(hX.block w.heap.size (by omega)).trans e1
   exact ⟨by simp [World.cell?,h0],by simp [World.cell?,h0]⟩
  obtain ⟨bh,aU⟩:=U.out m (Below.refl _ _);have bp:=ZN8 az;have aE:Hid (Mx (d+1) 60 (pks P [] c)):=ZP3 bB.out bp
  have an:Hid ((pks P [] c).length=d):=by show _=_; rw [ZN7,bq]
  have aT:Hid (Calls Tryz.prog 54 #[.slice po P.length pc,.slice vo c.length vc] m.drew fun e w'=>∃zo zc,e=.returned (.slice zo d zc)∧Below m.heap.size m w'∧Mat w'.heap.size 27 3 w' (.slice zo d zc) (pks P [] c)):=by
   have h:=ZIL (max m.heap.size w.heap.size) P c _ _ m.drew ((aJ.out.more (by omega)).drewN 1) ((Sl.own au).drewN 1) az (by omega)
   refine h.mono ?_;rintro e w' ⟨z,rfl,hz,s⟩;obtain ⟨zo,zc,rfl,_,_⟩:=ZAD (hz.mat (Za4 _));rw [an.out] at hz ⊢;have bW:Below m.heap.size m w':=((Below.refl _ _).drew (B:=m.heap.size)).trans s;exact ⟨zo,zc,rfl,bW,(hz.mat (Za4 _)).any (Za4 _)⟩
  have bk:Hid (∀zo zc w',Below m.heap.size m w'→Mat w'.heap.size 27 3 w' (.slice zo d zc) (pks P [] c)→Calls Tryz.prog 76 #[.slice zo d zc,.int .i64 d] w' fun e N=>∃t M A,e=.returned (.tuple #[.slice t M A,.bool (mtB d (pks P [] c))])∧(mtB d (pks P [] c)=true→M=d+1∧Sl 0 3 N (.slice t M A) (ZAB (mtL d (pks P [] c)))∧∃a,t=some a∧m.heap.size≤a.block)∧Below m.heap.size m N):=fun zo zc w' s hm=>by
   refine (ZHJ w'.heap.size d (pks P [] c) _ w' aE.out hm (by rw [an.out]; omega) (by rw [an.out]; omega)).mono ?_
   rintro e N ⟨t,M,A,rfl,hq,bR⟩
   refine ⟨t,M,A,rfl,fun h=>?_,s.trans (bR.mono s.size)⟩
   obtain ⟨q1,q2,a,q3,q4⟩:=hq h;exact ⟨q1,q2,a,q3,Zaa8 s.size q4⟩
  have aN:Hid (∀t A w',Below m.heap.size m w'→mtB d (pks P [] c)=true→Sl 0 3 w' (.slice t (d+1) A) (ZAB (mtL d (pks P [] c)))→Calls Tryz.prog 77 #[.agg #[.int .i64 d,.slice po P.length pc],.slice t (d+1) A] w' fun e N=>e=.returned (.bool (inK P d (mtL d (pks P [] c))))∧Below w'.heap.size w' N):=fun t A w' s hm hs=>
   ZN5 d P (mtL d (pks P [] c)) _ t A w' (aJ.out.below s (Za4 _)) hs (ZOt hm) (ZRj aE.out hm) bB.out
  obtain ⟨lr,aS⟩:=aS
  have aq:Hid (∀D,Below m.heap.size m D→CrI w WN d P S f D):=fun D s=>F.stab (by omega) (Chg.of_below s (Za4 _)) (fun b s=>.inl s)
  have bM:Hid (∀b,S b→w.heap.size+2≤b):=F.sn
  have E:=hid V;have aj:=hid ag
  have ck:Hid ((crL d P f).length≤1000000):=by
   have hl:=ZIO d P f
   have h2:f.length≤(ext P.length d 0).length:=by
    have:=O.length_le;simp only [Zaa4,List.length_cons,List.length_nil] at this;omega
   have h3:(ext P.length d 0).length=(chz d P).length:=by
    have:=congrArg List.length (ZCM P [] d 0)
    simpa using this
   have h5:(chz d P).length≤1000000:=by
    rw [←ZF5];refine Zaa8 (ZF4 _ _) ?_
    exact Zaa8 (Nat.pow_le_pow_left (show P.length+1≤25 by omega) d) (Zaa8 (Nat.pow_le_pow_right (by decide) (show d≤4 by omega)) (by decide))
   show _≤_
   omega
  have G:Hid (crL d P (f ++ [c])=crL d P f ++ crC d P c):=ZN6 d P f c
  have af:Hid (crC d P c=if mtB d (pks P [] c)=true∧inK P d (mtL d (pks P [] c))=true then [mtL d (pks P [] c)] else []):=rfl
  have bw:Hid (mtB d (pks P [] c)=true→(mtL d (pks P [] c)).length=d+1):=ZOt
  have bO:w.heap.size+6≤m.heap.size:=by omega
  clear F O au bg cg bN aZ aH bq aV aA aS bj ai az Q ag V aD ay e1 aJ aM bp;generalize mtL d (pks P [] c)=y0 at *;generalize mtB d (pks P [] c)=mb at *;generalize inK P d y0=kb at *
  have aw:Hid (crC d P c=[]→∀D,Below m.heap.size m D→Kpt (fun b=>S b∨False) m D∧CrI w WN d P S (f ++ [c]) D):=fun hcr D s=>by
   refine ⟨Kpt.of_below s (Za4 _),?_⟩;have h:=aq.out D s;obtain ⟨q1,q2,q3,q4,q5,q6⟩:=h;refine ⟨q1,q2,q3,q4,q5,?_⟩;rw [G.out,hcr,List.append_nil];exact q6
  gi_upto_region 4 with fail
  dsimp only
  gi_cut [5,6] from 14 (fun x y wx=>∃t M A,x=.slice t M A∧y=.bool mb∧(mb=true→M=d+1∧Sl 0 3 wx (.slice t M A) (ZAB y0)∧∃a,t=some a∧m.heap.size≤a.block)∧Below m.heap.size m wx)
  case first=>
   refine ZCR (fun w'=>w'.cell? ⟨w.heap.size,0,none⟩=some (.int .i64 d)∧w'.cell? ⟨w.heap.size,1,none⟩=some (.slice po P.length pc)) (by kernel_rfl) (ZI4 (by kernel_rfl)) (fun a w h=>h) ⟨bh,aU⟩ (fun hHeld=>?_)
   refine ZAA (i:=0) (d:=15) (v:=.pointer (some ⟨w.heap.size,1,none⟩)) rfl rfl (by kernel_rfl) (by kernel_rfl) (by kernel_rfl) (fun _ _ _ h=>h) (.inl ⟨by rfl,by (intro wq p; (try dsimp only at p); go_simp; (try (first | rfl | omega)))⟩) hHeld ?_
   simp only [Act.put,Za1,List.set]
   refine ZAA (i:=1) (d:=16) (v:=.slice po P.length pc) rfl rfl (by kernel_rfl) (by kernel_rfl) (by kernel_rfl) (fun _ _ _ h=>h) (.inl ⟨by rfl,by (intro wq p; (try dsimp only at p); go_simp; (try (first | rfl | omega)))⟩) hHeld ?_
   simp only [Act.put,Za1,List.set]
   refine ZAA (i:=2) (d:=17) (v:=.slice vo c.length vc) rfl rfl (by kernel_rfl) (by kernel_rfl) (by kernel_rfl) (fun _ _ _ h=>h) (.inl ⟨by rfl,by (intro wq p; (try dsimp only at p); go_simp; (try (first | rfl | omega)))⟩) hHeld ?_
   simp only [Act.put,Za1,List.set]
   refine ZAA (i:=4) (d:=19) (v:=.pointer (some ⟨w.heap.size,0,none⟩)) rfl rfl (by kernel_rfl) (by kernel_rfl) (by kernel_rfl) (fun _ _ _ h=>h) (.inl ⟨by rfl,by (intro wq p; (try dsimp only at p); go_simp; (try (first | rfl | omega)))⟩) hHeld ?_
   simp only [Act.put,Za1,List.set]
   refine ZAA (i:=5) (d:=20) (v:=.int .i64 d) rfl rfl (by kernel_rfl) (by kernel_rfl) (by kernel_rfl) (fun _ _ _ h=>h) (.inl ⟨by rfl,by (intro wq p; (try dsimp only at p); go_simp; (try (first | rfl | omega)))⟩) hHeld ?_
   simp only [Act.put,Za1,List.set]
   refine wpAnyH_ready (rs:=[3]) (by kernel_rfl) (by simp) ?_
   refine ZAF (i:=3) rfl (by rfl) (fun K hK=>?_) AllReadyH.nil
   go_simp;refine aT.out.mono ?_;rintro e w6 ⟨zo,zc,rfl,bJ,bX⟩
   refine hK.out _ _ (U.out w6 bJ) (fun hHeld=>?_)
   clear hK K
   refine wpAnyH_ready (rs:=[6]) (by kernel_rfl) (by simp) ?_
   refine ZAF (i:=6) rfl (by rfl) (fun K hK=>?_) AllReadyH.nil
   go_simp;refine (bk.out _ _ w6 bJ bX).mono ?_;rintro e D ⟨t,M,A,rfl,bz,aL⟩
   refine hK.out _ _ (U.out D aL) (fun hHeld=>?_)
   clear hK K;have cC:=hid bz;have cd:=hid aL;clear bz aL
   refine ZAA (i:=7) (d:=14) (v:=.tuple #[.slice t M A,.bool mb]) rfl rfl (by kernel_rfl) (by kernel_rfl) (by kernel_rfl) (fun _ _ _ h=>h) (.inl ⟨by rfl,by (intro wq p; (try dsimp only at p); go_simp; (try (first | rfl | omega)))⟩) hHeld ?_
   simp only [Act.put,Za1,List.set]
   refine ZAA (i:=8) (d:=22) (v:=.slice t M A) rfl rfl (by kernel_rfl) (by kernel_rfl) (by kernel_rfl) (fun _ _ _ h=>h) (.inl ⟨by rfl,by (intro wq p; (try dsimp only at p); go_simp; (try (first | rfl | omega)))⟩) hHeld ?_
   simp only [Act.put,Za1,List.set]
   refine ZAA (i:=9) (d:=23) (v:=.bool mb) rfl rfl (by kernel_rfl) (by kernel_rfl) (by kernel_rfl) (fun _ _ _ h=>h) (.inl ⟨by rfl,by (intro wq p; (try dsimp only at p); go_simp; (try (first | rfl | omega)))⟩) hHeld ?_
   simp only [Act.put,Za1,List.set]
   refine ZAA (i:=10) (d:=5) (v:=.slice t M A) rfl rfl (by kernel_rfl) (by kernel_rfl) (by kernel_rfl) (fun _ _ _ h=>h) (.inl ⟨by rfl,by (intro wq p; (try dsimp only at p); go_simp; (try (first | rfl | omega)))⟩) hHeld ?_
   simp only [Act.put,Za1,List.set]
   refine ZAA (i:=11) (d:=6) (v:=.bool mb) rfl rfl (by kernel_rfl) (by kernel_rfl) (by kernel_rfl) (fun _ _ _ h=>h) (.inl ⟨by rfl,by (intro wq p; (try dsimp only at p); go_simp; (try (first | rfl | omega)))⟩) hHeld ?_
   simp only [Act.put,Za1,List.set]
   refine wpAnyH_done (by kernel_rfl) ?_ _
   dsimp only [Nrm]
   gi_wp2_with fail
   gi_meet
   exact ⟨t,M,A,rfl,rfl,cC.out,cd.out⟩
  case rest=>
  obtain ⟨t,M,A,rfl,rfl,hq,aa⟩:=hcut;clear aT bk
  cases mb with
  | false=>
   have HF:Hid _:=aw.out (by rw [af.out]; simp) wc aa
   clear aa hq aN aw aq E aj G af aE an U bw
   gi_wp2
   refine ⟨trivial,?_⟩
   gi_wp2
   exact HF.out
  | true=>
   obtain ⟨rfl,aR,bi⟩:=hq rfl;obtain ⟨bP,cE⟩:=U.out wc aa
   have aB:Hid (Calls Tryz.prog 77 #[.agg #[.int .i64 d,.slice po P.length pc],.slice t (d+1) A] wc fun e N=>e=.returned (.bool kb)∧Below wc.heap.size wc N):=aN.out t A wc aa rfl aR
   have ae:=hid aa;have aK:=hid aR;have aO:=hid bi;clear aa aR bi hq aN aE an U bw
   cases kb with
   | false=>
    have aG:Hid (∀D,Below m.heap.size m D→Kpt (fun b=>S b∨False) m D∧CrI w WN d P S (f ++ [c]) D):=aw.out (by rw [af.out]; simp)
    clear aw aq E aj G af
    gi_wp2_with fail
    refine ⟨trivial,rfl,?_⟩
    gi_at_call 77
    refine (CallsIn.inRound _ (callsIn_wide.2 aB.out)).mono ?_;rintro e w8 ⟨rfl,Y⟩;have HF:Hid _:=aG.out w8 (ae.out.trans (Y.mono ae.out.size));clear aG Y aB ae aK aO
    gi_wp2
    exact HF.out
   | true=>
    have aF:Hid (crL d P (f ++ [c])=crL d P f ++ [y0]):=by show _=_; rw [G.out,af.out]; simp
    gi_wp2_with fail
    refine ⟨trivial,rfl,?_⟩
    gi_at_call 77
    refine (CallsIn.inRound _ (callsIn_wide.2 aB.out)).mono ?_;rintro e D ⟨rfl,Y⟩;have s:Below m.heap.size m D:=ae.out.trans (Y.mono ae.out.size);have bF:Sl 0 3 D (.slice t (d+1) A) (ZAB y0):=aK.out.below Y (Za4 _)
    have aW:Hid (∀v' w8,w8.ownsRow (w.heap.size+6) 27 1 v' ((crL d P f).length+1) (ak ++ [.slice t (d+1) A])→(D.alloc (.cells #[.slice t (d+1) A] 27)).grownBy w8 rv.ownBlock→(v'.ownBlock=rv.ownBlock∨v'.ownBlock=some (D.heap.size+1))→
      w8.cell? ⟨w.heap.size+1,0,none⟩=some rv∧w8.frozen? ⟨w.heap.size+1,0,none⟩=false∧Kpt (fun b=>S b∨False) m (w8.setCell ⟨w.heap.size+1,0,none⟩ v')∧CrI w WN d P S (f ++ [c]) (w8.setCell ⟨w.heap.size+1,0,none⟩ v')):=fun v' w8 ho hg aC=>by
     obtain ⟨xa,cJ,cD⟩:=aO.out;have cS:=s.size
     have ah:∀b,b < m.heap.size→(∀g,rv.ownBlock=some g→b≠g)→w8.heap[b]?=m.heap[b]?:=fun b hb1 hne=>
      (hg.block b (by simp; omega) (fun e=>hne b e.symm rfl)).trans ((Below.heap_alloc _ _ _ (by omega)).trans (s.block b hb1))
     have cF:∀g,rv.ownBlock=some g→w.heap.size+1≠g:=fun g hg1=>by have:=(E.out.own.lt g hg1).1; omega
     have h8:w8.heap[w.heap.size+1]?=some (.cells #[rv] 22 (0,0)):=(ah _ (by omega) cF).trans aj.out
     have bV:=hg.size;simp only [World.size_alloc] at bV
     have aI:∀b,m.heap.size≤b→¬S b:=fun b hb1 hs=>by have:=cq.out b hs; omega
     refine ⟨ZAc h8,by simp [World.frozen?,h8],⟨by simp [World.setCell]; omega,fun b hb1 hs=>?_⟩,?_⟩
     ·have aY:S b:=hs.elim id False.elim
      refine (Below.heap_setCell _ _ _ _ (by show b≠w.heap.size+1; have:=bM.out b aY; omega)).trans (ah b hb1 (fun g hg1 e=>?_))
      subst e;exact E.out.off _ hg1 aY
     ·have bY:=aq.out D s
      have aX:FrO S (w.heap.size+6) (D.alloc (.cells #[.slice t (d+1) A] 27)) rv (crL d P f) ak:=E.out.keep (fun b hb1 hn=>(Below.heap_alloc _ _ _ (by omega)).trans (s.block b hb1)) (fun b s=>.inl s)
      have aP:=aX.push (u:=.slice t (d+1) A) (zs:=y0) (bF.alloc _) (fun hp=>⟨xa,_,_,by rw [cJ],aI _ cD⟩) ho hg (fun g hg1=>by
       rcases aC with h | h
       ·rw [h] at hg1; exact E.out.off g hg1
       ·rw [h] at hg1
        simp only [Zaa9] at hg1
        exact aI g (by omega))
      have bH:=aP.setC (b:=w.heap.size+1) (j:=0) (u:=v') (by omega) h8 (by decide)
      obtain ⟨q1,q2,q3,q4,q5,_⟩:=bY
      refine ⟨q1,q2.trans ⟨?_,fun b hb1 hlt=>?_⟩,?_,?_,?_,v',ak ++ [.slice t (d+1) A],?_,by rw [aF.out]; exact bH⟩
      ·simp [World.setCell]; omega
      ·have bE:b < m.heap.size:=by have:=ar.out; omega
       refine (Below.heap_setCell _ _ _ _ (by show b≠w.heap.size+1; omega)).trans ((ah b bE (fun g hg1 e=>?_)).trans (s.block b bE).symm)
       have:=(E.out.own.lt g hg1).1;omega
      ·exact hg.os.trans q3
      ·exact hg.tape.trans q4
      ·exact hg.output.trans q5
      ·exact ZK2 h8
    have bL:Hid (D.ownsRow (w.heap.size+6) 27 1 rv (crL d P f).length ak):=ZAQ E.out.own s (Za4 _);have cL:w.heap.size+6≤D.heap.size:=Zaa8 bO s.size
    have cP:D.cell? ⟨w.heap.size+1,0,none⟩=some rv:=ZAc ((s.block _ (by omega)).trans aj.out)
    have az:=ck.out;clear Y s bF aB ae aK aO aw aq E aj G af aF bP cE bh aU
    gi_wp2_with (first | (gi_at_builtin; refine wpListIn_append_own_at _ rfl _ _ 22 rfl (w.heap.size+6) 27 i0 (.slice none 0 0) 1 24 Tryz.underlying22 cA cB cr bK rfl (by decide) _ _ _ rfl (bL.out.alloc _) ⟨D.heap.size,0,none⟩ 1 1 [.slice t (d+1) A] rfl rfl (ZAS _ _ _) (ZAM _ _ _) ?d3 ?d4 ?d5 ?_))
    case d3=>unfold maxLen; omega
    case d4=>omega
    case d5=>simp; omega
    intro v' w9 ho hg _ aC;obtain ⟨cR,cQ,bT⟩:=ZAE ho;subst bT;obtain ⟨cN,cU,bv,bI⟩:=aW.out _ w9 ho hg aC;have bQ:Hid _:=bv;have cH:Hid _:=bI;clear ho hg aC aW bv bI
    gi_wp2
    exact ⟨bQ.out,cH.out⟩
 case done=>
  rintro S J F cj aA;have aD:=ar.out;have ay:=F.kp.size;obtain ⟨rv,ak,ag,V⟩:=F.rv
  have bt:Hid ((crL d P (ext P.length d 0)).length≤1000000):=by
   have hl:=ZIO d P (ext P.length d 0)
   have h3:(ext P.length d 0).length=(chz d P).length:=by
    have:=congrArg List.length (ZCM P [] d 0)
    simpa using this
   have h5:(chz d P).length≤1000000:=by
    rw [←ZF5];refine Zaa8 (ZF4 _ _) ?_
    exact Zaa8 (Nat.pow_le_pow_left (show P.length+1≤25 by omega) d) (Zaa8 (Nat.pow_le_pow_right (by decide) (show d≤4 by omega)) (by decide))
   show _≤_
   omega
  have cG:Hid (Calls Tryz.prog 78 #[rv] J fun e w'=>∃u m',e=.returned u∧Fr (w.heap.size+6) 27 3 w' u m'∧Inor m' (crL d P (ext P.length d 0))∧Below (w.heap.size+6) J w'):=ZIB (w.heap.size+6) (crL d P (ext P.length d 0)) rv J V.fr (Zaa8 bt.out (by decide))
  have k0:J.cell? ⟨w.heap.size+1,0,none⟩=some rv:=ZAc ag;have HI:=hid F;have bC:=hid aA;obtain ⟨ro,rc,bS⟩:=ZAE V.own;subst bS;clear F aA ag V aM bA aD ay
  gi_wp2_with (refine ⟨trivial,rfl,?_⟩; gi_at_call 78; refine (callsIn_wide.2 cG.out).mono ?_; rintro e w4 ⟨u,m',rfl,bl,bG,L⟩; obtain ⟨t,A,bU,_,_⟩:=ZCW bl; subst bU)
  have aD:=ar.out;have ay:=HI.out.kp.size
  have Q:∀b,b < w.heap.size→J.heap[b]?=w.heap[b]?:=fun b s=>(HI.out.kp.block b (by omega) (by omega)).trans (bu.out.block b s)
  refine ZAq [WN.heap.size] w4 (by simp) (fun r hr=>?_) (fun w' hc=>⟨.slice t m'.length A,?_,?_⟩)
  ·simp only [List.mem_singleton] at hr
   subst hr
   exact (L.block _ (by omega)).trans bC.out
  ·simp [results,Tryz.results48,go_sem]
  ·have cM:=L.size
   refine ⟨_,m',rfl,?_,bG,hc.os.trans (L.os.trans HI.out.os),hc.tape.trans (L.tape.trans HI.out.tape),hc.output.trans (L.output.trans HI.out.output),by have:=hc.size; omega,fun b s=>?_⟩
   ·obtain ⟨vs,f1,f2,f3⟩:=bl
    have hD:w4.heap[WN.heap.size]?=some (.deferred (some [])):=(L.block _ (by omega)).trans bC.out
    refine ⟨vs,f1,⟨f2.1,?_⟩,fun i F=>(f3 i F).move fun b hl ht=>⟨hc.block b hl (fun e=>?_),ht⟩⟩
    ·rcases f2.2 with h2 | ⟨g,cap,cur,h5,hbb,hh,r⟩
     ·exact Or.inl h2
     ·refine Or.inr ⟨g,cap,cur,h5,by omega,(hc.block g (lt_of_block hh) (fun e=>?_)).trans hh,r⟩
      simp only [List.mem_singleton] at e;omega
    ·simp only [List.mem_singleton] at e
     subst e
     rcases ht with ht | ⟨c,ht⟩
     ·omega
     ·rw [hD] at ht; cases ht
   ·exact (hc.block b (by omega) (by simp; omega)).trans ((L.block b (by omega)).trans (Q b s))
end Go.Proofs.YtkjkfceblmgogaaGreat
