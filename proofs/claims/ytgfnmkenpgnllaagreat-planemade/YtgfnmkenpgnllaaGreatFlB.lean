import Derived.Test.YtgfnmkenpgnllaaGreatFlA
set_option maxRecDepth 100000
set_option maxHeartbeats 4000000
namespace Go.Proofs.YtgfnmkenpgnllaaGreat
open Go.Shelf Go.RowKit Go.Lib Go.Sort
theorem ZFW:∀x,ZAl x x=0
 | []=>rfl
 | a :: x=>by simp [ZAl,ZFW x]
theorem ZEv:∀x y z,ZAl x y < 0→ZAl y z < 0→ZAl x z < 0
 | [],[],_,h,_=>by simp [ZAl] at h
 | [],b :: y,[],_,h=>by simp [ZAl] at h
 | [],b :: y,c :: z,_,_=>by simp [ZAl]
 | a :: x,[],_,h,_=>by simp [ZAl] at h
 | a :: x,b :: y,[],_,h=>by simp [ZAl] at h
 | a :: x,b :: y,c :: z,h1,h2=>by
  have ih:=ZEv x y z;simp only [ZAl] at *
  split at h1 <;> split at h2 <;> split <;> (try split at h1) <;> (try split at h2) <;> (try split) <;> first | omega | (exact ih h1 h2)
theorem ZDn:∀x y z,¬ZAl x y < 0→¬ZAl y z < 0→¬ZAl x z < 0
 | [],[],z,_,h=>h
 | [],b :: y,_,h,_=>by simp [ZAl] at h
 | a :: x,[],[],_,_=>by simp [ZAl]
 | a :: x,[],c :: z,_,h=>by simp [ZAl] at h
 | a :: x,b :: y,[],_,_=>by simp [ZAl]
 | a :: x,b :: y,c :: z,h1,h2=>by
  have ih:=ZDn x y z;simp only [ZAl] at *
  split at h1 <;> split at h2 <;> split <;> (try split at h1) <;> (try split at h2) <;> (try split) <;> first | omega | (exact ih h1 h2)
abbrev FlT:=Value×List Int×Nat
def ZBv(t:FlT):List Value:=[t.1,.int .i64 (t.2.2:Nat)]
def RF(w:World):Type:={ p:FlT // Sl 0 3 w p.1 (ZAB p.2.1) }
instance (w:World):Inhabited (RF w):=⟨⟨(.slice none 0 0,[],0),Sl.nil _ _ _⟩⟩
def RF.enc{w:World}(x:RF w):List Value:=ZBv x.1
def fcf(x y:List Int×Nat):Int:=orL [ZCk (x.2:Nat) (y.2:Nat),ZAl x.1 y.1]
def RF.cf{w:World}(x y:RF w):Int:=fcf x.1.2 y.1.2
theorem ZDL(x y:List Int×Nat):fcf x y < 0↔x.2 < y.2∨(x.2=y.2∧ZAl x.1 y.1 < 0):=by
 unfold fcf
 by_cases h:ZCk (x.2:Nat) (y.2:Nat)=0
 ·have e:=ZHA.1 h
  have:orL [ZCk (x.2:Nat) (y.2:Nat),ZAl x.1 y.1]=ZAl x.1 y.1:=by
   rw [h];simp [orL];omega
  rw [this]
  constructor
  ·intro a; exact .inr ⟨by omega,a⟩
  ·rintro (a | a)
   ·omega
   ·exact a.2
 ·have:orL [ZCk (x.2:Nat) (y.2:Nat),ZAl x.1 y.1]=ZCk (x.2:Nat) (y.2:Nat):=ZMD (l:=[ZCk (x.2:Nat) (y.2:Nat),ZAl x.1 y.1]) (k:=0) (by simp) (by simp) h
  rw [this,ZPh]
  have b:¬x.2=y.2:=fun e=>h (ZHA.2 (by omega))
  constructor
  ·intro a; exact .inl (by omega)
  ·rintro (a | a)
   ·omega
   ·exact absurd a.1 b
theorem RF.swo(w:World):SWO (ltOf (RF.cf (w:=w))) where
 irrefl x:=by
  refine decide_eq_false fun h=>?_
  rcases (ZDL _ _).1 h with h | ⟨_,h⟩
  ·omega
  ·rw [ZFW] at h; exact absurd h (by decide)
 trans x y z h1 h2:=by
  refine decide_eq_true ((ZDL _ _).2 ?_)
  rcases (ZDL _ _).1 (of_decide_eq_true h1) with a1 | ⟨a1,b1⟩ <;> rcases (ZDL _ _).1 (of_decide_eq_true h2) with a2 | ⟨a2,b2⟩
  ·exact Or.inl (by omega)
  ·exact Or.inl (by omega)
  ·exact Or.inl (by omega)
  ·exact Or.inr ⟨by omega,ZEv _ _ _ b1 b2⟩
 ntrans x y z h1 h2:=by
  refine decide_eq_false fun h=>?_
  have c:=fun k=>of_decide_eq_false h1 ((ZDL _ _).2 k)
  have d:=fun k=>of_decide_eq_false h2 ((ZDL _ _).2 k)
  have i:¬x.1.2.2 < y.1.2.2:=fun k=>c (Or.inl k)
  have j:¬y.1.2.2 < z.1.2.2:=fun k=>d (Or.inl k)
  rcases (ZDL _ _).1 h with a | ⟨a,b⟩
  ·omega
  ·have g:x.1.2.2=y.1.2.2:=by omega
   have f:y.1.2.2=z.1.2.2:=by omega
   exact ZDn _ _ _ (fun k=>c (Or.inr ⟨g,k⟩)) (fun k=>d (Or.inr ⟨f,k⟩)) b
theorem RF.one(w:World)(x:RF w):∀v∈RF.enc x,v.oneCell'=true:=by
 intro v hv;obtain ⟨b,a,h,_⟩:=x.2;simp only [RF.enc,ZBv,List.mem_cons,List.not_mem_nil,or_false] at hv
 rcases hv with rfl | rfl
 ·rw [h]; rfl
 ·rfl
theorem ZMH(x y:List Int)(a b:Nat)(u v:Value)(w:World)(hu:Sl 0 3 w u (ZAB x))(hv:Sl 0 3 w v (ZAB y)) :
  Calls Tryz.prog 61 #[.agg #[u,.int .i64 a],.agg #[v,.int .i64 b]] w fun e w'=>e=.returned (.int .i64 (fcf (x,a) (y,b)))∧∃q os',w'=Go.Sort.grow (w.drewN q) os':=by
 obtain ⟨j,f⟩:∃j,j=w.alloc (.cells #[u,.int .i64 a] 68):=⟨_,rfl⟩
 obtain ⟨W,s⟩:∃W,W=j.alloc (.cells #[v,.int .i64 b] 68):=⟨_,rfl⟩
 have m:Below w.heap.size w j:=by rw [f]; exact ZAG _ _
 have o:Below j.heap.size j W:=by rw [s]; exact ZAG _ _
 have n:j.heap.size=w.heap.size+1:=by rw [f]; exact size_alloc _ _
 have J:W.heap.size=w.heap.size+2:=by rw [s,size_alloc,n]
 have B:j.heap[w.heap.size]?=some (.cells #[u,.int .i64 a] 68 (0,0)):=by rw [f]; exact ZAM _ _
 have D:W.heap[w.heap.size+1]?=some (.cells #[v,.int .i64 b] 68 (0,0)):=by rw [s,←n]; exact ZAM _ _
 have g:Below w.heap.size w W:=m.trans (o.mono m.size)
 have r:=(o.block w.heap.size (by omega)).trans B
 have A:=hu.below (g.trans (((Below.refl _ _).drew (w:=W)).mono g.size)) (Za4 _);have t:=hv.below (g.trans (((Below.refl _ _).drew (w:=W)).mono g.size)) (Za4 _);have R:=ZEl 0 x y u v W.drew A t;have Q:=ZIw (a:Nat) (b:Nat) W.drew;have P:=ZPg 0 [ZCk (a:Nat) (b:Nat),ZAl x y] _ _ (ZQn (w:=W.drew))
 have p:Hid (W=(w.alloc (.cells #[u,.int .i64 a] 68)).alloc (.cells #[v,.int .i64 b] 68)):=by show _=_; rw [s,f]
 have M:Hid (fcf (x,a) (y,b)=orL [ZCk (a:Nat) (b:Nat),ZAl x y]):=rfl
 have z:Hid (∀X:World,(∀k,k < W.heap.size→X.heap[k]?=W.heap[k]?)→X.cell? ⟨w.heap.size,0,none⟩=some u∧X.cell? ⟨w.heap.size,1,none⟩=some (.int .i64 a)∧X.cell? ⟨w.heap.size+1,0,none⟩=some v∧X.cell? ⟨w.heap.size+1,1,none⟩=some (.int .i64 b)):=fun X hX=>by
  have O:=(hX w.heap.size (by omega)).trans r
  have N:=(hX (w.heap.size+1) (by omega)).trans D
  exact ⟨by simp [World.cell?,O],by simp [World.cell?,O],by simp [World.cell?,N],by simp [World.cell?,N]⟩
 obtain ⟨F,G,rfl,_,_⟩:=ZAH hu;obtain ⟨L,E,rfl,_,_⟩:=ZAH hv;clear hu hv A t m o B D r g s f n J;generalize ZAl x y=cl at *;generalize ZCk (a:Nat) (b:Nat)=ci at *;generalize fcf (x,a) (y,b)=fc at *;generalize orL [ci,cl]=oc at *;go_enter Tryz.func61,Tryz.ntmps61
 go_upto_region 1 with fail
 rw [←p.out]
 refine wp_region_held_drew (S:=fun X=>X.cell? ⟨w.heap.size,0,none⟩=some (.slice F x.length G)∧X.cell? ⟨w.heap.size,1,none⟩=some (.int .i64 a)∧X.cell? ⟨w.heap.size+1,0,none⟩=some (.slice L y.length E)∧X.cell? ⟨w.heap.size+1,1,none⟩=some (.int .i64 b)) (by kernel_rfl) (z.out _ (fun _ _=>rfl)) (fun hHeld=>?_)
 refine ZAA (i:=0) (d:=5) (v:=(.pointer (some ⟨w.heap.size,1,none⟩))) rfl rfl (by kernel_rfl) (by kernel_rfl) (by kernel_rfl) (fun _ _ _ h=>h) (.inl ⟨by rfl,by (intro l c; (try dsimp only at c); go_simp; (try (first | rfl | omega)))⟩) hHeld ?_
 simp only [Act.put,Za1,List.set]
 refine ZAA (i:=1) (d:=6) (v:=(.int .i64 (a:Nat))) rfl rfl (by kernel_rfl) (by kernel_rfl) (by kernel_rfl) (fun _ _ _ h=>h) (.inl ⟨by rfl,by (intro l c; (try dsimp only at c); go_simp; (try (first | rfl | omega)))⟩) hHeld ?_
 simp only [Act.put,Za1,List.set]
 refine ZAA (i:=2) (d:=7) (v:=(.pointer (some ⟨w.heap.size+1,1,none⟩))) rfl rfl (by kernel_rfl) (by kernel_rfl) (by kernel_rfl) (fun _ _ _ h=>h) (.inl ⟨by rfl,by (intro l c; (try dsimp only at c); go_simp; (try (first | rfl | omega)))⟩) hHeld ?_
 simp only [Act.put,Za1,List.set]
 refine ZAA (i:=3) (d:=8) (v:=(.int .i64 (b:Nat))) rfl rfl (by kernel_rfl) (by kernel_rfl) (by kernel_rfl) (fun _ _ _ h=>h) (.inl ⟨by rfl,by (intro l c; (try dsimp only at c); go_simp; (try (first | rfl | omega)))⟩) hHeld ?_
 simp only [Act.put,Za1,List.set]
 refine ZAA (i:=5) (d:=10) (v:=(.pointer (some ⟨w.heap.size,0,none⟩))) rfl rfl (by kernel_rfl) (by kernel_rfl) (by kernel_rfl) (fun _ _ _ h=>h) (.inl ⟨by rfl,by (intro l c; (try dsimp only at c); go_simp; (try (first | rfl | omega)))⟩) hHeld ?_
 simp only [Act.put,Za1,List.set]
 refine ZAA (i:=6) (d:=11) (v:=(.slice F x.length G)) rfl rfl (by kernel_rfl) (by kernel_rfl) (by kernel_rfl) (fun _ _ _ h=>h) (.inl ⟨by rfl,by (intro l c; (try dsimp only at c); go_simp; (try (first | rfl | omega)))⟩) hHeld ?_
 simp only [Act.put,Za1,List.set]
 refine ZAA (i:=7) (d:=12) (v:=(.pointer (some ⟨w.heap.size+1,0,none⟩))) rfl rfl (by kernel_rfl) (by kernel_rfl) (by kernel_rfl) (fun _ _ _ h=>h) (.inl ⟨by rfl,by (intro l c; (try dsimp only at c); go_simp; (try (first | rfl | omega)))⟩) hHeld ?_
 simp only [Act.put,Za1,List.set]
 refine ZAA (i:=8) (d:=13) (v:=(.slice L y.length E)) rfl rfl (by kernel_rfl) (by kernel_rfl) (by kernel_rfl) (fun _ _ _ h=>h) (.inl ⟨by rfl,by (intro l c; (try dsimp only at c); go_simp; (try (first | rfl | omega)))⟩) hHeld ?_
 simp only [Act.put,Za1,List.set]
 refine wpAnyH_ready (rs:=[4]) (by kernel_rfl) (by simp) ?_
 refine ZAF (i:=4) rfl (by rfl) (fun K hK=>?_) AllReadyH.nil
 go_simp;refine Q.mono ?_;rintro e T ⟨rfl,rfl⟩
 refine hK.out _ _ (z.out _ (fun _ _=>rfl)) (fun hHeld=>?_)
 clear hK K
 refine wpAnyH_ready (rs:=[9]) (by kernel_rfl) (by simp) ?_
 refine ZAF (i:=9) rfl (by rfl) (fun K hK=>?_) AllReadyH.nil
 go_simp;refine R.mono ?_;rintro e U ⟨rfl,rfl⟩
 refine hK.out _ _ (z.out _ (fun _ _=>rfl)) (fun hHeld=>?_)
 clear hK K
 refine wpAnyH_ready (rs:=[10]) (by kernel_rfl) (by simp) ?_
 refine ZAF (i:=10) rfl (by rfl) (fun K hK=>?_) AllReadyH.nil
 go_simp
 refine hK.out _ _ (z.out _ (fun k hk=>Below.heap_alloc _ _ _ hk)) (fun hHeld=>?_)
 clear hK K
 refine wpAnyH_ready (rs:=[11]) (by kernel_rfl) (by simp) ?_
 refine ZAF (i:=11) rfl (by rfl) (fun K hK=>?_) AllReadyH.nil
 go_simp;refine P.mono ?_;rintro e V ⟨rfl,rfl⟩
 refine hK.out _ _ (z.out _ (fun k hk=>Below.heap_alloc _ _ _ hk)) (fun hHeld=>?_)
 clear hK K
 refine ZAA (i:=12) (d:=4) (v:=(.int .i64 oc)) rfl rfl (by kernel_rfl) (by kernel_rfl) (by kernel_rfl) (fun _ _ _ h=>h) (.inl ⟨by rfl,by (intro l c; (try dsimp only at c); go_simp; (try (first | rfl | omega)))⟩) hHeld ?_
 simp only [Act.put,Za1,List.set]
 refine wpAnyH_done (by kernel_rfl) ?_ _
 clear hHeld;go_wp2;go_ret
 refine ⟨by rw [M.out]; rfl,1,#[.cells #[.slice F x.length G,.int .i64 a] 68,.cells #[.slice L y.length E,.int .i64 b] 68,.cells #[.int .i64 ci,.int .i64 cl] 3],?_⟩
 rw [p.out];rfl
theorem ZDM:∀(T:List FlT) (t:Nat),t < T.length*2→(T.flatMap ZBv)[t]?=(ZBv (T.getD (t / 2) (.slice none 0 0,[],0)))[t % 2]?
 | [],t,h=>by simp at h
 | x :: T,t,h=>by
  rw [List.flatMap_cons]
  by_cases ht:t < 2
  ·rw [Za7 (by simp [ZBv]; exact ht),Nat.div_eq_of_lt ht,Nat.mod_eq_of_lt ht]
   simp
  ·rw [Za8 (by simp [ZBv]; omega)]
   have ih:=ZDM T (t-2) (by simp at h; omega)
   have e1:(ZBv x).length=2:=rfl;rw [e1,ih]
   have e2:t / 2=(t-2) / 2+1:=by omega
   have e3:t % 2=(t-2) % 2:=by omega
   rw [e2,e3];simp
theorem ZHC(T:List FlT):(T.flatMap ZBv).length=T.length*2:=by
 induction T with
 | nil=>rfl
 | cons x T ih=>rw [List.flatMap_cons,Zaa4,ih]; simp [ZBv]; omega
theorem Tryz.isAggF:∀w,(isAgg 68).run Tryz.prog w=.ok true w:=fun w=>by kernel_rfl
theorem Tryz.infoF:(Tryz.prog.info? 68).map (fun i=>(i.zero,i.size,i.bytes))=some (some (.agg #[.slice none 0 0,.int .i64 0]),2,32):=by kernel_rfl
theorem Tryz.sizeOfF:∀w,(Go.sizeOf 68).run Tryz.prog w=.ok 2 w:=fun w=>by kernel_rfl
structure FlR(B:Nat)(w:World)(v:Value)(T:List FlT):Prop where
 own:w.ownsRow B 68 2 v T.length (T.flatMap ZBv)
 inn:∀t∈T,Sl 0 3 w t.1 (ZAB t.2.1)
theorem ZCF{α:Type}[Inhabited α](enc:α→List Value)(w:World)(g off q:Nat)(d:Array α)(os:Array Obj)(b:Nat)(hb:b < w.heap.size)(hne:b≠g):(sortWorldK enc 2 w g off q d os).heap[b]?=w.heap[b]?:=by
 show ((w.heap.modify g _) ++ os)[b]?=_
 rw [Array.getElem?_append_left (by simpa using hb),Array.getElem?_modify,if_neg (fun e=>hne e.symm)]
theorem ZCA{α:Type}[Inhabited α]{enc:α→List Value}{w:World}{g off q:Nat}{d:Array α}{os:Array Obj}{cur:Array Value}{v:Value}{xs:List Value}(hg:w.heap[g]?=some (.cells cur 68 (0,0)))(h:Sl 0 3 w v xs):Sl 0 3 (sortWorldK enc 2 w g off q d os) v xs:=
 h.move fun b hl ht=>by
  rcases ht with ht | ⟨c,ht⟩
  ·omega
  ·have a:b≠g:=by
    rintro rfl;rw [hg] at ht;simp at ht
   exact ⟨ZCF _ _ _ _ _ _ _ b hl a,Or.inr ⟨c,ht⟩⟩
theorem ZDN(T:List FlT)(i:Nat)(h:i < T.length):T.getD i (.slice none 0 0,[],0)∈T:=by
 have e:T.getD i (.slice none 0 0,[],0)=T[i]:=by simp [h]
 rw [e];exact List.getElem_mem _
theorem ZMI(B:Nat)(T:List FlT)(v:Value)(w:World)(hv:FlR B w v T)(h0:0 < T.length)(hm:T.length≤1000000) :
  Calls Tryz.prog 60 #[v,.func (.func 61) #[] #[]] w fun e w'=>e=.returned (.tuple #[])∧∃T':List FlT,T'.Perm T∧(∀i j,i < j→j < T'.length→¬fcf (T'.getD j (.slice none 0 0,[],0)).2 (T'.getD i (.slice none 0 0,[],0)).2 < 0)∧FlR B w' v T'∧w.grownBy w' v.ownBlock:=by
 obtain ⟨g,f,a,P,U,z,J,R,L,X⟩:∃g f a,v=.slice (some ⟨g,0,none⟩) T.length f∧B≤g∧w.heap[g]?=some (.cells a 68 (0,0))∧T.length≤f∧f≤maxLen∧a.size=f*2∧a.toList.take (T.length*2)=T.flatMap ZBv:=by
  rcases hv.own.2 with ⟨_,h⟩ | h
  ·omega
  ·exact h
 subst P;have G:=(Zaa3.1 z).1
 obtain ⟨d,hd⟩:∃d:Array (RF w),d=Array.ofFn (fun i:Fin T.length=>(⟨T.getD i (.slice none 0 0,[],0),hv.inn _ (ZDN T i.1 i.2)⟩:RF w)):=⟨_,rfl⟩
 have o:d.size=T.length:=by rw [hd]; exact Array.size_ofFn
 have M:∀j,j < T.length→(d[j]!).1=T.getD j (.slice none 0 0,[],0):=fun j A=>by
  rw [getElem!_pos d j (by omega)]
  subst hd;exact congrArg Subtype.val (Array.getElem_ofFn _)
 have N:∀t,t < T.length*2→a[t]?=(ZBv (T.getD (t / 2) (.slice none 0 0,[],0)))[t % 2]?:=fun t p=>by
  rw [←ZDM T t p,←X,Zaa5 p,Array.getElem?_toList]
 have hH:HoldsK (RF.enc (w:=w)) 2 w g 0 d:=fun j A=>by
  have O:j < T.length*2:=by simpa [o] using A
  rw [get_flatK _ _ _ j (by rw [o]; exact O)]
  have e:RF.enc (d[j / 2]!)=ZBv (T.getD (j / 2) (.slice none 0 0,[],0)):=by unfold RF.enc; rw [M _ (by omega)]
  have r:j % 2 < 2:=Nat.mod_lt _ (by decide)
  refine ⟨?_,by simp [World.frozen?,z]⟩
  rw [e];have h:=N j O
  rw [Za9 (by simp [ZBv]; exact r)] at h
  simp only [Nat.zero_add,World.cell?,z,id]
  rw [getElem!_pos (ZBv (T.getD (j / 2) (.slice none 0 0,[],0))) (j % 2) (by simp [ZBv]; exact r)]
  simpa using h
 have eg:∀args w,(callFunc 61 args).run Tryz.prog w=.ok (.enter 61 args) w:=enters_of Tryz.func61 (by kernel_rfl) rfl
 have E:CmpLays Tryz.prog 61 #[] (RF.enc (w:=w)) 2 RF.cf g 0 d.size w:=fun _ _ _ _ x y=>ZMH x.1.2.1 y.1.2.1 x.1.2.2 y.1.2.2 x.1.1 y.1.1 _ (ZCA z x.2) (ZCA z y.2)
 have m:=AnyQ.slices_SortFunc Tryz.sortF 2 Tryz.isAggF Tryz.sizeOfF (RF.enc (w:=w)) (fun _=>rfl) (RF.one w) RF.cf (RF.swo w) 61 #[] g 0 f d w eg E hH G (by omega)
 change Calls Tryz.prog 60 _ _ _ at m
 rw [o] at m;refine m.mono ?_;rintro e w' ⟨rfl,l,q,os,⟨ae,af,D⟩,V,rfl⟩
 have n:l.size=T.length:=by omega
 have s:∀i,i < T.length→(l.toList.map (fun x:RF w=>x.1)).getD i (.slice none 0 0,[],0)=(l[i]!).1:=fun i h=>by
  rw [getElem!_pos l i (by omega),Za2,List.getElem?_map,Za9 (by simpa using (show i < l.size by omega))]
  rfl
 have c:(l.toList.map (fun x:RF w=>x.1)).length=T.length:=by simp [n]
 refine ⟨rfl,l.toList.map (fun x:RF w=>x.1),?_,?_,⟨?_,?_⟩,?_⟩
 ·have e1:(l.extract 0 T.length).toList=l.toList:=by rw [Array.toList_extract]; simp; exact Zaa2 (by simp; omega)
  have e2:(d.extract 0 T.length).toList=d.toList:=by rw [Array.toList_extract]; simp; exact Zaa2 (by simp; omega)
  rw [e1,e2] at D
  have Y:d.toList.map (fun x:RF w=>x.1)=T:=by
   apply List.ext_getElem (by simp [o])
   intro i h1 h2;have r:=M i h2
   rw [getElem!_pos d i (by omega)] at r
   simp only [List.getElem_map,Array.getElem_toList];rw [r];simp [h2]
  rw [←Y];exact D.map _
 ·intro i j Q A
  rw [c] at A;have h:=of_decide_eq_false (V i j (Za5 _) Q A)
  rw [s i (by omega),s j A]
  exact h
 ·rw [c]
  refine ⟨by rw [ZHC,c],.inr ⟨g,f,putCells id 0 (flatK (RF.enc (w:=w)) 2 l) a,rfl,U,?_,J,R,by simp [putCells,L],?_⟩⟩
  ·show ((w.heap.modify g _) ++ os)[g]?=_
   rw [Array.getElem?_append_left (by simpa using G),Array.getElem?_modify,if_pos rfl,z]
   rfl
  ·refine List.ext_getElem? fun t=>?_
   by_cases p:t < T.length*2
   ·rw [Zaa5 p,Array.getElem?_toList,ZDM _ t (by rw [c]; exact p)]
    unfold putCells
    have S:a[t]?=some (a[t]'(by rw [L]; have:=Nat.mul_le_mul_right 2 J; omega)):=Array.getElem?_eq_getElem _
    have aa:t < (flatK (RF.enc (w:=w)) 2 l).size:=by simpa [n] using p
    rw [Array.getElem?_mapIdx,S]
    have F:(0≤t∧t < 0+(flatK (RF.enc (w:=w)) 2 l).size):=⟨Za5 _,by omega⟩
    simp only [Option.map_some,if_pos F,Nat.sub_zero,id]
    rw [get_flatK _ _ _ t (by rw [n]; exact p)]
    have e:RF.enc (l[t / 2]!)=ZBv ((l.toList.map (fun x:RF w=>x.1)).getD (t / 2) (.slice none 0 0,[],0)):=by unfold RF.enc; rw [s _ (by omega)]
    rw [e]
    have r:t % 2 < 2:=Nat.mod_lt _ (by decide)
    rw [Za9 (by simp [ZBv]; exact r),getElem!_pos _ (t % 2) (by simp [ZBv]; exact r)]
   ·rw [Zaa6 (by simp; omega),Zaa6 (by rw [ZHC,c]; omega)]
 ·intro t p
  obtain ⟨x,_,rfl⟩:=List.mem_map.1 p;exact ZCA z x.2
 ·refine ⟨rfl,rfl,rfl,?_,fun b hb hne=>ZCF _ _ _ _ _ _ _ b hb (fun e=>hne (by rw [e]; rfl))⟩
  show w.heap.size≤((w.heap.modify g _) ++ os).size
  simp
end Go.Proofs.YtgfnmkenpgnllaaGreat
namespace Go.Proofs.YtgfnmkenpgnllaaGreat
open Go Go.RowKit
def ZRR{α:Type}(P:Program)(g:Nat)(lb:Array Value)(R:World→World→(Nat→Prop)→α→Array Value→Prop)(cs:List α)(T S0:Nat→Prop)(w0:World):Prop:=
 ∀(l:Nat) (J Jx:(Nat→Prop)→List α→World→Prop) (W:World),Below w0.heap.size w0 W→ZFm J→ZFm Jx→
  (∀m S pre x vs W0 W1,J S pre W0→J S pre W1→(pre ++ [x]) <+: cs→R W0 W1 S x vs→YieldAt Fence.wide m P l vs W1 fun e W'=>Kpt (fun b=>S b∨T b) W1 W'∧
   ((e=.returned (.bool true)∧J S (pre ++ [x]) W')∨(e=.returned (.bool false)∧Jx S (pre ++ [x]) W')))→
  J S0 [] W→
  CallsIn Fence.wide 0 P g (#[.func (.yield l) #[] #[]] ++ lb) W fun e W'=>(∃v,e=.returned v)∧((∃S,J S cs W')∨(∃S pre,pre <+: cs∧Jx S pre W'))
theorem ZPi{α:Type}{P:Program}{n:Nat}{g:Operand}{ps:Array Tmp}{assign body:Code}{Q:Exit→Act→World→Prop}{a:Act}{w:World}
 {gf:Nat}{lb:Array Value}(hg:a.eval g=.func (.func gf) #[] lb)(eg:∀args w,(callFunc gf args).run P w=.ok (.enter gf args) w)
 {R:World→World→(Nat→Prop)→α→Array Value→Prop}{cs:List α}{T S0:Nat→Prop}(hseq:ZRR P gf lb R cs T S0 w)(hS0:∀b,S0 b→b < w.heap.size)
 (hps:∀W0 W S x vs,R W0 W S x vs→vs.size=ps.size)
 (hR1:∀W0 W S x vs W',R W0 W S x vs→Below W.heap.size W W'→R W0 W' S x vs)
 (hR2:∀W0 W S x vs l r o,R W0 W S x vs→W.heap[l]?=some (.loop r)→R W0 (W.putObj l o) S x vs)
 (I:(Nat→Prop)→List α→World→Prop)(Ix:Code→(Nat→Prop)→List α→World→Prop)(hI:ZFm I)(hIx:∀c,ZFm (Ix c))(h0:I S0 [] w)
 (Ax:Array Value→Act→World→Prop)(hAx:∀vs a' W l r o,Ax vs a' W→W.heap[l]?=some (.loop r)→Ax vs a' (W.putObj l o))
 (hassign:∀(S:Nat→Prop) (x:α) (vs:Array Value) (W0 W:World) (K:Act→World→Prop),R W0 W S x vs→(∀a' W',Below W.heap.size W W'→Ax vs a' W'→K a' W')→
   assign.wpIn (Fence.wide.inRound (w.heap.size+1)) (n-1-1) P (Exit.then K (fun _ _ _=>False)) { tmps:=(ps.zip vs).foldl (fun t (p,v)=>t.setIfInBounds p v) a.tmps,defers:=[] } W)
 (hbody:∀(S:Nat→Prop) (pre:List α) (x:α) (vs:Array Value) (a':Act) (W:World),I S pre W→S w.heap.size→S (w.heap.size+1)→w.heap.size+1 < W.heap.size→W.heap[w.heap.size]?=some (.deferred (some []))→(∃r,W.heap[w.heap.size+1]?=some (.loop r))→(pre ++ [x]) <+: cs→(∃S1 W0,I S pre W0∧R W0 W S1 x vs∧∀b,S b↔(S1 b∨b=w.heap.size∨b=w.heap.size+1))→Ax vs a' W→
   body.wpIn (Fence.wide.inRound (w.heap.size+1)) (n-1-1) P (ZQD (Kpt fun b=>S b∨T b) (I S) (fun c=>Ix c S) (pre ++ [x]) W) a' W)
 (hTl:¬T (w.heap.size+1))
 (hdone:∀(S:Nat→Prop) (W:World),I S cs W→S w.heap.size→W.heap[w.heap.size]?=some (.deferred (some []))→Q .normal { a with defers:={ target:=.collected w.heap.size,args:=#[] } :: a.defers } W)
 (hstop:∀(c:Code) (S:Nat→Prop) (pre:List α) (W:World),pre <+: cs→Ix c S pre W→S w.heap.size→W.heap[w.heap.size]?=some (.deferred (some []))→c.wpIn Fence.wide n P Q { a with defers:={ target:=.collected w.heap.size,args:=#[] } :: a.defers } W) :
  (Code.rangeFunc g ps assign body).wpIn Fence.wide n P Q a w:=by
 refine wpIn_rangeFunc ?_;intro fn az
 obtain ⟨D,z⟩:∃D,D=w.heap.size:=⟨_,rfl⟩
 obtain ⟨rec,d⟩:∃rec:LoopState→Option Code→Loop,rec=fun st pe=>{ state:=st,pending:=pe,fn,tmps:=a.tmps,params:=ps,assign,body,defers:=D }:=⟨_,rfl⟩
 obtain ⟨L,U⟩:∃L,(w.alloc (.deferred (some []))).alloc (.loop (rec .ready none))=L:=⟨_,rfl⟩
 have aC:L.heap[D+1]?=some (.loop (rec .ready none)):=by
  rw [←U,z]; have:=World.alloc_heap_new (w.alloc (.deferred (some []))) (.loop (rec .ready none)); rwa [World.size_alloc] at this
 have aw:L.heap[D]?=some (.deferred (some [])):=by
  rw [←U,z]; exact (Below.heap_alloc _ _ _ (by simp)).trans (World.alloc_heap_new w _)
 have aq:Below w.heap.size w L:=by
  rw [←U]; exact ((Below.refl _ w).alloc (Za4 _) _).alloc (by simp) _
 have aD:I (fun b=>S0 b∨b=D∨b=D+1) [] L:=hI S0 _ [] w L h0 (Chg.of_below aq (Za4 _)) (fun b hb=>by
  rcases hb with hb | hb | hb
  ·exact .inl hb
  ·exact .inr (by omega)
  ·exact .inr (by omega))
 have am:¬S0 D∧¬S0 (D+1):=⟨fun h=>by have:=hS0 _ h; omega,fun h=>by have:=hS0 _ h; omega⟩
 refine ⟨D+1,[{ target:=.collected D,args:=#[] }],L,{ target:=.fn (.func gf) lb,args:=#[.func (.yield (D+1)) #[] #[]] },L,gf,
  #[.func (.yield (D+1)) #[] #[]] ++ lb,L,?_,?_,?_,?_,fun h=>(by cases h),?_⟩
 ·rw [←U,d,z]; exact run_enterLoop_outer _ _ _ _ _
 ·simp only [resolve,hg]
  simp [go_sem]
 ·intro f' aH; trivial
 ·simp [invoke,go_sem,eg]
 ·have ah:∀(X:(Nat→Prop)→List α→World→Prop),ZFm X→∀(p:Obj→Prop),ZFm (fun S pre (W:World)=>X (fun b=>S b∨b=D∨b=D+1) pre W∧¬S D∧¬S (D+1)∧(∃o,W.heap[D+1]?=some o∧p o)∧W.heap[D]?=some (Obj.deferred (some []))):=by
   rintro X hX p S S' pre W W' ⟨hi,y,f,⟨o,N,ho⟩,hk⟩ hc Y;have V:=(Zaa3.1 N).1
   refine ⟨hX _ _ pre W W' hi (hc.mono (fun i _ h=>.inl h)) (fun b hb=>?_),fun h=>?_,fun h=>?_,⟨o,(hc.block _ V f).trans N,ho⟩,(hc.block _ (by omega) y).trans hk⟩
   ·rcases hb with hb | hb
    ·rcases Y b hb with h | h
     ·exact .inl (.inl h)
     ·exact .inr h
    ·exact .inl (.inr hb)
   ·rcases Y _ h with h | h
    ·exact y h
    ·omega
   ·rcases Y _ h with h | h
    ·exact f h
    ·omega
  refine (ZEP (m':=n-1) (hseq (D+1)
   (fun S pre (W:World)=>I (fun b=>S b∨b=D∨b=D+1) pre W∧¬S D∧¬S (D+1)∧(∃o,W.heap[D+1]?=some o∧o=Obj.loop (rec .ready none))∧W.heap[D]?=some (Obj.deferred (some [])))
   (fun S pre (W:World)=>∃c,Ix c (fun b=>S b∨b=D∨b=D+1) pre W∧¬S D∧¬S (D+1)∧(∃o,W.heap[D+1]?=some o∧o=Obj.loop (rec .done (some c)))∧W.heap[D]?=some (Obj.deferred (some [])))
   L aq (ah I hI _) (fun S S' pre W W' ⟨c,h⟩ hc Y=>⟨c,ah (Ix c) (hIx c) _ S S' pre W W' h hc Y⟩) ?_ ⟨aD,am.1,am.2,⟨_,aC,rfl⟩,aw⟩)).mono ?_
  ·-- one round
   rintro m S pre x vs W0 W ⟨aF,-⟩ ⟨hi,y,f,⟨_,N,rfl⟩,hk⟩ M hR;have V:D+1 < W.heap.size:=(Zaa3.1 N).1
   have hy:=run_yield (P:=P) (args:=vs) N (by rw [d]; exact hps _ _ _ _ _ hR)
   rw [d] at hy;refine ⟨fn,_,assign,body,hy,ZEO (m:=n-1-1) (roundIn_of_wpIn az ?_)⟩
   have af:=hassign S x vs W0 W (fun a₁' w₁=>∃w₂,(Instr.beginRound (w.heap.size+1)).run P w₁=.ok () w₂∧body.wpIn (Fence.wide.inRound (w.heap.size+1)) (n-1-1) P (roundPost P (w.heap.size+1) fun e W'=>Kpt (fun b=>S b∨T b) W W'∧
    ((e=.returned (.bool true)∧(I (fun b=>S b∨b=D∨b=D+1) (pre ++ [x]) W'∧¬S D∧¬S (D+1)∧(∃o,W'.heap[D+1]?=some o∧o=Obj.loop (rec .ready none))∧W'.heap[D]?=some (.deferred (some []))))∨
    (e=.returned (.bool false)∧∃c,Ix c (fun b=>S b∨b=D∨b=D+1) (pre ++ [x]) W'∧¬S D∧¬S (D+1)∧(∃o,W'.heap[D+1]?=some o∧o=Obj.loop (rec .done (some c)))∧W'.heap[D]?=some (.deferred (some []))))) a₁' w₂) hR
   rw [←z] at af;refine af ?_;clear af hy;intro a' Wq J ar
   have aG:=hI _ (fun b=>S b∨b=D∨b=D+1) pre W Wq hi (Chg.of_below J (Za4 _)) (fun b hb=>.inl hb)
   have aa:=(J.block _ V).trans N
   have aA:=(J.block D (by omega)).trans hk
   have aB:=hR1 _ _ _ _ _ _ hR J;have ag:D+1 < Wq.heap.size:=Nat.lt_of_lt_of_le V J.size
   refine ⟨_,run_beginRound aa (by rw [d]),?_⟩
   obtain ⟨Wb,E⟩:∃Wb,Wq.putObj (D+1) (.loop { rec .ready none with state:=.busy })=Wb:=⟨_,rfl⟩
   rw [E]
   have ai:Wb.heap[D+1]?=some (.loop { rec .ready none with state:=.busy }):=by rw [←E]; exact World.putObj_heap_same ag
   have an:Wb.heap[D]?=some (.deferred (some [])):=by rw [←E]; exact (World.putObj_heap_other (by omega)).trans aA
   have ae:Chg (fun b=>S b∨b=D∨b=D+1) Wq Wb:=by rw [←E]; exact (Chg.refl _ _).putObj (.inr (.inr rfl)) _
   have aE:Kpt (fun b=>S b∨T b) W Wb:=by
    refine (Kpt.of_below J (Za4 _)).trans ?_;rw [←E]
    exact ⟨by simp,fun b hb Y=>World.putObj_heap_other (fun e=>by subst e; rcases Y with h | h; exact f h; exact hTl (z ▸ h))⟩
   have ay:=hI _ (fun b=>S b∨b=D∨b=D+1) pre Wq Wb aG ae (fun b hb=>.inl hb)
   have aj:=hbody (fun b=>S b∨b=D∨b=D+1) pre x vs a' Wb ay (.inr (.inl z.symm)) (.inr (.inr (by rw [z]))) (by have:=ae.size; omega) (z ▸ an) (z ▸ ⟨_,ai⟩) M ⟨S,W0,aF,by rw [←E]; exact hR2 _ _ _ _ _ _ _ _ aB aa,fun b=>by rw [z]⟩ (by rw [←E]; exact hAx _ _ _ _ _ _ ar aa)
   rw [←z] at aj;refine wpIn_mono aj ?_
   have O:∀(jump:Option Code) (j:World),Kpt (fun b=>(S b∨b=D∨b=D+1)∨T b) Wb j→
     (Instr.endRound (D+1) jump).run P j=.ok (.bool jump.isNone) (j.putObj (D+1) (.loop (rec (if jump.isNone then .ready else .done) jump)))∧
     (j.putObj (D+1) (.loop (rec (if jump.isNone then .ready else .done) jump))).heap[D+1]?=some (.loop (rec (if jump.isNone then .ready else .done) jump))∧
     (j.putObj (D+1) (.loop (rec (if jump.isNone then .ready else .done) jump))).heap[D]?=some (.deferred (some []))∧
     Kpt (fun b=>S b∨T b) W (j.putObj (D+1) (.loop (rec (if jump.isNone then .ready else .done) jump))):=fun jump j s=>by
    have au:D+1 < Wb.heap.size:=by have:=ae.size; omega
    have ak:=(s.block (D+1) au (.inl (.inr (.inr rfl)))).trans ai;have:=run_endRound (P:=P) jump ak
    have h4:Kpt (fun b=>S b∨T b) Wb j:=s.mono (fun i _ h=>h.elim (fun h=>.inl (.inl h)) .inr)
    have h5:Kpt (fun b=>S b∨T b) j (j.putObj (D+1) (.loop (rec (if jump.isNone then .ready else .done) jump))):=
     ⟨by simp,fun b hb Y=>World.putObj_heap_other (fun e=>by subst e; rcases Y with h | h; exact f h; exact hTl (z ▸ h))⟩
    refine ⟨?_,World.putObj_heap_same (Zaa3.1 ak).1,(World.putObj_heap_other (by omega)).trans ((s.block D (by omega) (.inl (.inr (.inl rfl)))).trans an),(aE.trans h4).trans h5⟩
    rw [d] at this ⊢;exact this
   have pc:∀(j:World) (o:Obj),Chg (fun b=>S b∨b=D∨b=D+1) j (j.putObj (D+1) o):=fun j o=>(Chg.refl _ _).putObj (.inr (.inr rfl)) _
   rintro e a3 j hp
   cases e with
   | normal=>
    obtain ⟨s,B⟩:=hp;obtain ⟨hr,G,F,A⟩:=O none j s
    exact ⟨_,_,hr,A,.inl ⟨rfl,hI _ _ _ _ _ B (pc j _) (fun b hb=>.inl hb),y,f,⟨_,G,rfl⟩,F⟩⟩
   | ret=>
    obtain ⟨s,B⟩:=hp;obtain ⟨hr,G,F,A⟩:=O (some .ret) j s
    exact ⟨_,_,hr,A,.inr ⟨rfl,.ret,hIx _ _ _ _ _ _ B (pc j _) (fun b hb=>.inl hb),y,f,⟨_,G,rfl⟩,F⟩⟩
   | exit id=>
    obtain ⟨s,B⟩:=hp;obtain ⟨hr,G,F,A⟩:=O (some (.exit id)) j s
    exact ⟨_,_,hr,A,.inr ⟨rfl,.exit id,hIx _ _ _ _ _ _ B (pc j _) (fun b hb=>.inl hb),y,f,⟨_,G,rfl⟩,F⟩⟩
   | goto t=>
    obtain ⟨s,B⟩:=hp;obtain ⟨hr,G,F,A⟩:=O (some (.goto t)) j s
    exact ⟨_,_,hr,A,.inr ⟨rfl,.goto t,hIx _ _ _ _ _ _ B (pc j _) (fun b hb=>.inl hb),y,f,⟨_,G,rfl⟩,F⟩⟩
   | panic ch=>exact hp.elim
   | outgrown=>exact hp.elim
  ·-- behind the iterator
   rintro e W2 ⟨⟨v,rfl⟩,(⟨S,hi,y,f,⟨_,N,rfl⟩,hk⟩ | ⟨S,pre,M,c,hi,y,f,⟨_,N,rfl⟩,hk⟩)⟩
   ·refine ⟨none,_,by have:=run_endLoop (P:=P) N (by rw [d]; simp); rw [d] at this; exact this,?_⟩
    have:=hdone _ (W2.putObj (D+1) (.loop { rec .ready none with state:=.exhausted })) (hI _ (fun b=>S b∨b=D∨b=D+1) _ _ _ hi ((Chg.refl _ _).putObj (.inr (.inr rfl)) _) (fun b hb=>.inl hb)) (.inr (.inl z.symm)) (by rw [←z]; exact (World.putObj_heap_other (by omega)).trans hk)
    rw [d,←z] at this;exact this
   ·refine ⟨some c,_,by have:=run_endLoop (P:=P) N (by rw [d]; simp); rw [d] at this; exact this,?_⟩
    have:=hstop c _ pre (W2.putObj (D+1) (.loop { rec .done (some c) with state:=.exhausted })) M (hIx c _ (fun b=>S b∨b=D∨b=D+1) _ _ _ hi ((Chg.refl _ _).putObj (.inr (.inr rfl)) _) (fun b hb=>.inl hb)) (.inr (.inl z.symm)) (by rw [←z]; exact (World.putObj_heap_other (by omega)).trans hk)
    rw [d,←z] at this;exact this
end Go.Proofs.YtgfnmkenpgnllaaGreat
namespace Go.Proofs.YtgfnmkenpgnllaaGreat
open Go.RowKit Go.Shelf
attribute [local go_sem] Oper.semAt_some
def ZIH(N0:Nat)(W0 W:World)(S:Nat→Prop)(x:List Int)(vs:Array Value):Prop:=
 ∃v,vs=#[v]∧W.ownsRow W0.heap.size 3 1 v x.length (ZAB x)∧(∀b,S b→b < W0.heap.size)∧N0≤W0.heap.size∧W0.heap.size≤W.heap.size∧∀(b:Nat) (cur:Array Value) (t:TypeId) (f:Nat×Nat),W0.heap[b]?=some (.cells cur t f)→W.heap[b]?=some (.cells cur t f)
theorem ZII(N0:Nat)(W0 W:World)(S:Nat→Prop)(x:List Int)(vs:Array Value)(W':World)(h:ZIH N0 W0 W S x vs)(hb:Below W.heap.size W W'):ZIH N0 W0 W' S x vs:=by
 obtain ⟨v,c,j,g,d,i,a⟩:=h
 exact ⟨v,c,ZAN j hb (Za4 _),g,d,Zaa8 i hb.size,fun b cur t f hx=>(hb.block b (Zaa3.1 (a b cur t f hx)).1).trans (a b cur t f hx)⟩
theorem ZMJ(N0:Nat)(W0 W:World)(S:Nat→Prop)(x:List Int)(vs:Array Value)(l:Nat)(r:Loop)(o:Obj)(h:ZIH N0 W0 W S x vs)(hl:W.heap[l]?=some (.loop r)):ZIH N0 W0 (W.putObj l o) S x vs:=by
 obtain ⟨v,a,i,d,c,g,j⟩:=h
 refine ⟨v,a,ownsRow_putObj i _ hl rfl,d,c,by simpa using g,fun b cur t f hx=>?_⟩
 have:=j b cur t f hx
 exact (World.putObj_heap_other (fun e=>by subst e; rw [hl] at this; cases this)).trans this
def ZNr(k:Nat):Prop:=∀(N0 l n many bm by' bc bn bf ba:Nat) (S T:Nat→Prop) (J Jx:(Nat→Prop)→List (List Int)→World→Prop) (cs:List (List Int)),ZFm J→Bxo S bm by' bc bn bf ba→many≤8→n≤1000→N0≤ba→
 (∀m S pre x vs W0 W1,J S pre W0→J S pre W1→(pre ++ [x]) <+: cs→ZIH N0 W0 W1 S x vs→YieldAt Fence.wide m Tryz.prog l vs W1 fun e W'=>Kpt (fun b=>S b∨T b) W1 W'∧
   ((e=.returned (.bool true)∧J S (pre ++ [x]) W')∨(e=.returned (.bool false)∧Jx S (pre ++ [x]) W')))→
 ∀(ix:List Int) (fr:Nat) (pre:List (List Int)) (f:Nat→Value) (W:World),ix.length+k=many→fr≤n→Ox W l n many bm by' bc bn bf ba→W.rowIs ba 3 many f→(∀j,j < ix.length→f j=.int .i64 (ix.getD j 0))→
  (∀b,S b→b < W.heap.size)→J S pre W→(pre ++ (ext n k fr).map (ix ++ ·)) <+: cs→
  CallsIn Fence.wide 0 Tryz.prog 87 #[.int .i64 ix.length,.int .i64 fr,.pointer (some ⟨bm,0,none⟩),.pointer (some ⟨by',0,none⟩),.pointer (some ⟨bc,0,none⟩),.pointer (some ⟨bn,0,none⟩),.pointer (some ⟨bf,0,none⟩)] W fun e W'=>
   (e=.returned (.bool true)∧J S (pre ++ (ext n k fr).map (ix ++ ·)) W'∧Ox W' l n many bm by' bc bn bf ba∧W.heap.size≤W'.heap.size∧∃f',W'.rowIs ba 3 many f'∧∀j,j < ix.length→f' j=f j)∨
   (e=.returned (.bool false)∧∃q,q <+: cs∧Jx S q W')
theorem ZJk:ZNr 0:=by
 intro N0 l n A bm B bc bn bf E S T J Jx cs G z ag hn af hY d fr j f W hk ai D r hf v R g
 have X:d.length=A:=by omega
 subst X
 have x:(ext n 0 fr).map (d ++ ·)=[d]:=by simp [ext]
 rw [x] at g ⊢;have c1:=D.cm;have c2:=D.cy;have c3:=D.cc
 have HV:Hid (Sl 0 3 W.drew (.slice (some ⟨E,0,none⟩) d.length d.length) (ZAB d)):=Sl.row' r (by unfold maxLen; omega) (by simp) (fun i hi=>by rw [hf i hi,ZAa d i hi])
 have P:Hid (Calls Tryz.prog 88 #[.slice (some ⟨E,0,none⟩) d.length d.length] W.drew fun e w'=>∃u,e=.returned u∧w'.ownsRow W.heap.size 3 1 u d.length (ZAB d)∧Below W.heap.size W.drew w'):=ZC3 0 d _ W.drew HV.out (by omega)
 have Q:Hid (∀u m,m.ownsRow W.heap.size 3 1 u d.length (ZAB d)→Below W.heap.size W.drew m→YieldAt Fence.wide 0 Tryz.prog l #[u] m fun e s=>
   ∃b,e=.returned (.bool b)∧((b=true∧J S (j ++ [d]) s∧Kpt (fun b=>S b∨T b) m s∧Below W.heap.size W.drew m)∨(b=false∧Jx S (j ++ [d]) s))):=fun u m O o=>
  YieldAt.mono (hY 0 S j d #[u] W m R (G S S j W m R (Chg.of_below (a:=W) (N:=W.heap.size) ⟨o.os,o.tape,o.output,o.size,o.block⟩ (Za4 _)) (fun b hb=>.inl hb)) g ⟨u,rfl,O,v,by have:=v E z.a; omega,o.size,fun b cur t f hb=>(o.block b (Zaa3.1 hb).1).trans hb⟩) fun e s h=>h.2.elim (fun ⟨a,b⟩=>⟨true,a,.inl ⟨rfl,b,h.1,o⟩⟩) (fun ⟨a,b⟩=>⟨false,a,.inr ⟨rfl,b⟩⟩)
 have HO:=hid D;have HR:=hid r;have U:=hid v;have y:=hid z;have F:=hid g;have V:Hid (B < W.heap.size):=ZAm c2;clear G hY D r hf v R g z x;refine callsIn_of_wp Tryz.func87 rfl trivial ?_ rfl;simp only [Tryz.ntmps87,List.size_toArray,List.length_cons,List.length_nil,Nat.reduceAdd,Nat.reduceSub,Array.replicate_succ,Array.replicate_zero,List.push_toArray,List.append_toArray,List.nil_append,List.cons_append]
 gi_wp2_with fail
 gi_region_with (first | (refine ⟨trivial,rfl,?_⟩; gi_at_call 88; refine (callsIn_wide.2 P.out).mono ?_; rintro e m ⟨u,rfl,O,o⟩; have ah:=(o.cell (p:=⟨B,0,none⟩) V.out).trans c2; obtain ⟨fn,aa,M,ae,hy,hR⟩:=Q.out u m O o; clear O o) | (refine ⟨rfl,?_⟩; refine hR.mono ?_; clear hR hy; rintro e s ⟨b,rfl,Y⟩; have HP:Hid ((b=true∧J S (j ++ [d]) s∧Kpt (fun b=>S b∨T b) m s∧Below W.heap.size W.drew m)∨(b=false∧Jx S (j ++ [d]) s)):=Y; clear Y))
 all_goals
  gi_wp2
  go_ret
  rcases HP.out with ⟨rfl,hJ',hkp,hb⟩ | ⟨rfl,hJx⟩
  ·have L:∀b,S b→b < W.heap.size→s.heap[b]?=W.heap[b]?:=fun b hb1 hb2=>(hkp.block b (Nat.lt_of_lt_of_le hb2 hb.size) (.inl hb1)).trans (hb.block b hb2)
   refine .inl ⟨rfl,hJ',HO.out.move (fun b hb1 hb2=>L b (y.out.of hb1) hb2),Zaa8 hb.size hkp.size,f,?_,fun _ _=>rfl⟩
   obtain ⟨c,q1,q2,q3⟩:=HR.out;exact ⟨c,(L E y.out.a (U.out E y.out.a)).trans q1,q2,q3⟩
  ·exact .inr ⟨rfl,_,F.out,hJx⟩
theorem ZJl(k:Nat)(ih:ZNr k):ZNr (k+1):=by
 intro N0 l n c G p E F B v S T J Jx cs O N am hn ar hY d m r f W hk aB z o hf t R L
 have aw:Hid (∀(d:List Int) (m:Nat) (r:List (List Int)) (f:Nat→Value) (W:World),d.length+k=c→m≤n→Ox W l n c G p E F B v→W.rowIs v 3 c f→(∀j,j < d.length→f j=.int .i64 (d.getD j 0))→
  (∀b,S b→b < W.heap.size)→J S r W→(r ++ (ext n k m).map (d ++ ·)) <+: cs→
  CallsIn Fence.wide 0 Tryz.prog 87 #[.int .i64 d.length,.int .i64 m,.pointer (some ⟨G,0,none⟩),.pointer (some ⟨p,0,none⟩),.pointer (some ⟨E,0,none⟩),.pointer (some ⟨F,0,none⟩),.pointer (some ⟨B,0,none⟩)] W fun e x=>
   (e=.returned (.bool true)∧J S (r ++ (ext n k m).map (d ++ ·)) x∧Ox x l n c G p E F B v∧W.heap.size≤x.heap.size∧∃P,x.rowIs v 3 c P∧∀j,j < d.length→P j=f j)∨
   (e=.returned (.bool false)∧∃q,q <+: cs∧Jx S q x)):=ih N0 l n c G p E F B v S T J Jx cs O N am hn ar hY
 have ay:=hid O;have af:=hid N;have HO:=hid z;have aA:=hid o;have HF:=hid hf;have aq:=hid t;have HJ:=hid R;have ah:=hid L;have c1:=z.cm;have c2:=z.cn
 have aD:((d.length:Int) == (c:Int))=false:=by rw [beq_eq_false_iff_ne]; omega
 clear O N hY z o hf t R L ih;refine callsIn_of_wp Tryz.func87 rfl trivial ?_ rfl;simp only [Tryz.ntmps87,List.size_toArray,List.length_cons,List.length_nil,Nat.reduceAdd,Nat.reduceSub,Array.replicate_succ,Array.replicate_zero,List.push_toArray,List.append_toArray,List.nil_append,List.cons_append]
 gi_wp2
 gi_loopw [21,10] (fun i _ wr=>∃(q:Nat) (g:Nat→Value) (M:List (List Int)),m+q≤n∧i=.int .i64 q∧Ox wr l n c G p E F B v∧wr.rowIs v 3 c g∧(∀j,j < d.length→g j=f j)∧W.heap.size≤wr.heap.size∧J S M wr∧
   M ++ (ext n (k+1) (m+q)).map (d ++ ·)=r ++ (ext n (k+1) m).map (d ++ ·)) (fun i _ _=>n-(intOf i).toNat)
 case atStart=>exact ⟨0,f,r,aB,rfl,HO.out,aA.out,fun _ _=>rfl,Za4 _,HJ.out,rfl⟩
 case round=>
  obtain ⟨q,g,M,hq,rfl,z,o,hg,t,R,D⟩:=hrel;have ai:=hid z;have ae:=hid o;have HG:=hid hg;have az:=hid R;have X:=hid D;have ag:=hid t
  by_cases hlt:m+q < n
  ·have d1:=z.cc
   have d4:=o.cell (i:=d.length) (by omega)
   have d5:=o.frozen d.length
   obtain ⟨A,s⟩:∃A,A=wr.setCell ⟨v,d.length,none⟩ (.int .i64 ((m:Int)+(q:Int))):=⟨_,rfl⟩
   have Y:Hid (Ox A l n c G p E F B v):=by
    rw [s]
    exact z.move (fun b hb _=>Below.heap_setCell _ _ _ _ (af.out.ne b hb))
   have aa:Hid (A.rowIs v 3 c (fun i=>if i=d.length then .int .i64 ((m:Int)+(q:Int)) else g i)):=by rw [s]; exact o.set _ _
   have ak:Hid (J S M A):=ay.out S S M wr A R (by rw [s]; exact (Chg.refl _ _).setCell af.out.a _) (fun b hb=>.inl hb)
   have aJ:A.heap.size=wr.heap.size:=by rw [s]; simp [World.setCell]
   have d6:(wr.setCell ⟨v,d.length,none⟩ (.int .i64 ((m:Int)+(q:Int)))).cell? ⟨B,0,none⟩=some (.func (.func 87) #[] #[.pointer (some ⟨G,0,none⟩),.pointer (some ⟨p,0,none⟩),.pointer (some ⟨E,0,none⟩),.pointer (some ⟨F,0,none⟩),.pointer (some ⟨B,0,none⟩)]):=by rw [←s]; exact Y.out.cf
   have an:=hid s;have y:Hid ((ext n (k+1) (m+q)).map (d ++ ·)=(ext n k (m+q+1)).map ((d ++ [((m+q:Nat):Int)]) ++ ·) ++ (ext n (k+1) (m+q+1)).map (d ++ ·)):=ZDk hlt d
   have V:Hid (CallsIn Fence.wide 0 Tryz.prog 87 #[.int .i64 ((d.length:Int)+1),.int .i64 ((m:Int)+(q:Int)+1),.pointer (some ⟨G,0,none⟩),.pointer (some ⟨p,0,none⟩),.pointer (some ⟨E,0,none⟩),.pointer (some ⟨F,0,none⟩),.pointer (some ⟨B,0,none⟩)] A fun e x=>
     (e=.returned (.bool true)∧J S (M ++ (ext n k (m+q+1)).map ((d ++ [((m+q:Nat):Int)]) ++ ·)) x∧Ox x l n c G p E F B v∧A.heap.size≤x.heap.size∧∃P,x.rowIs v 3 c P∧∀j,j < d.length→P j=f j)∨
     (e=.returned (.bool false)∧∃q,q <+: cs∧Jx S q x)):=by
    have h:=aw.out (d ++ [((m+q:Nat):Int)]) (m+q+1) M _ A (by simp; omega) (by omega) Y.out aa.out (fun j hj=>by
      simp only [Zaa4,List.length_singleton] at hj
      by_cases e:j=d.length
      ·subst e; simp
      ·have Q:j < d.length:=by omega
       simp only [e,if_false];rw [HG.out j Q,HF.out j Q]
       simp only [Za2]; rw [Za7 Q]) (fun b hb=>by have:=aq.out b hb; omega) ak.out (by
      refine List.IsPrefix.trans ?_ ah.out;rw [←X.out,y.out,←List.append_assoc];exact List.prefix_append _ _)
    have e1:((d ++ [((m+q:Nat):Int)]).length:Int)=(d.length:Int)+1:=by simp
    have e2:((m+q+1:Nat):Int)=(m:Int)+(q:Int)+1:=by omega
    rw [e1,e2] at h;refine h.mono ?_
    rintro e x (⟨rfl,U,a2,a3,P,a4,a5⟩ | h)
    ·refine .inl ⟨rfl,U,a2,a3,P,a4,fun j hj=>?_⟩
     rw [a5 j (by simp; omega)]
     simp only [show j≠d.length by omega,if_false]
     exact HG.out j hj
    ·exact .inr h
   clear z o hg t R D s
   have aE:(0:Int)≤(q:Int):=by omega
   have aI:(0:Int)≤(m:Int):=by omega
   have aG:(0:Int)≤(d.length:Int):=by omega
   have aH:(d.length:Int) < (c:Int):=by omega
   have aK:(q:Int) < (n:Int)-(m:Int):=by omega
   have aL:(m:Int)+(q:Int) < (n:Int):=by omega
   have aC:(0:Int)≤(m:Int)+(q:Int):=by omega
   gi_wp2_with fail
   refine ⟨trivial,rfl,?_⟩;rw [←an.out];refine V.out.mono ?_
   rintro e w6 (⟨rfl,U,a2,a3,f6,a4,a5⟩ | ⟨rfl,U⟩)
   ·have S1:=hid U
    have S2:=hid a2
    have S3:Hid (W.heap.size≤w6.heap.size):=by show _≤_; have:=ag.out; omega
    have S4:=hid a4;have S5:=hid a5;clear U a2 a3 a4 a5
    gi_wp2
    go_roundw
    case rel=>
     refine ⟨q+1,f6,_,by omega,by go_num,S2.out,S4.out,S5.out,S3.out,S1.out,?_⟩
     rw [←X.out,y.out,List.append_assoc];rfl
    case measure=>simp [intOf]; omega
   ·have S1:=hid U
    clear U
    gi_wp2
    go_ret;exact .inr ⟨rfl,S1.out⟩
  ·have aj:m+q=n:=by omega
   have au:Hid (M=r ++ (ext n (k+1) m).map (d ++ ·)):=by
    show _=_
    rw [←D,aj,ZFn (Za4 _)];simp
   clear z o hg t R D
   have aF:decide ((q:Int) < (n:Int)-(m:Int))=false:=by simp; omega
   gi_wp2
   go_ret
   exact .inl ⟨rfl,by rw [←au.out]; exact az.out,ai.out,ag.out,g,ae.out,HG.out⟩
theorem ZHD:∀k,ZNr k
 | 0=>ZJk
 | k+1=>ZJl k (ZHD k)
theorem ZPj(n many bm bn:Nat)(w0:World)(hm5:many≤8)(hn:n≤1000)(hcm:w0.cell? ⟨bm,0,none⟩=some (.int .i64 many))(hcn:w0.cell? ⟨bn,0,none⟩=some (.int .i64 n)) :
  ZRR Tryz.prog 86 #[.pointer (some ⟨bm,0,none⟩),.pointer (some ⟨bn,0,none⟩)] (ZIH w0.heap.size) (ext n many 0) (fun _=>False) (fun b=>b=bm∨b=bn) w0:=by
 intro l J L W v g o Q G;have E:=ZAm hcm;have z:=ZAm hcn;have M:W.cell? ⟨bm,0,none⟩=some (.int .i64 many):=(v.cell (p:=⟨bm,0,none⟩) E).trans hcm;have T:W.cell? ⟨bn,0,none⟩=some (.int .i64 n):=(v.cell (p:=⟨bn,0,none⟩) z).trans hcn
 have X:=run_make_row' (P:=Tryz.prog) 22 3 (.int .i64 0) 8 Tryz.underlying22 Tryz.info3 rfl .i64 .i64 many (by omega) (by omega)
 obtain ⟨c,t,N,R,U,V,D,a⟩:=ZMr W (.cells #[.func (.yield l) #[] #[]] 97) (.cells (madeCells #[.int .i64 0] many) 3) (.cells #[.slice (some ⟨W.heap.size+1,0,none⟩) many many] 22)
  (.cells #[.func (.func 87) #[] #[.pointer (some ⟨bm,0,none⟩),.pointer (some ⟨W.heap.size,0,none⟩),.pointer (some ⟨W.heap.size+1+1,0,none⟩),.pointer (some ⟨bn,0,none⟩),.pointer (some ⟨W.heap.size+1+1+1,0,none⟩)]] 73)
 have x:=ZAm M;have F:=ZAm T
 obtain ⟨S,B⟩:∃S:Nat→Prop,S=fun b=>b=bm∨b=bn∨(W.heap.size≤b∧b < W.heap.size+4):=⟨_,rfl⟩
 have O:Ox c l n many bm W.heap.size (W.heap.size+1+1) bn (W.heap.size+1+1+1) (W.heap.size+1):=
  ⟨(a.cell (p:=⟨bm,0,none⟩) x).trans M,ZAe N,ZAe U,(a.cell (p:=⟨bn,0,none⟩) F).trans T,ZAe V⟩
 have d:c.rowIs (W.heap.size+1) 3 many (fun _=>.int .i64 0):=by
  refine ⟨_,R,?_,fun i hi=>?_⟩
  ·rw [←Array.length_toList,toList_madeCells_one]; simp
  ·rw [←Array.getElem?_toList,toList_madeCells_one]; simp [hi]
 have s:Bxo S bm W.heap.size (W.heap.size+1+1) bn (W.heap.size+1+1+1) (W.heap.size+1):=by
  rw [B]
  exact ⟨.inl rfl,.inr (.inr (by omega)),.inr (.inr (by omega)),.inr (.inl rfl),.inr (.inr (by omega)),.inr (.inr (by omega)),fun b hb=>by omega⟩
 have r:J S [] c:=g _ S [] W c G (Chg.of_below a (Za4 _)) (fun b hb=>by
  rw [B] at hb
  rcases hb with h | h | h
  ·exact .inl (.inl h)
  ·exact .inl (.inr h)
  ·exact .inr h.1)
 have Y:Hid (CallsIn Fence.wide 0 Tryz.prog 87 #[.int .i64 0,.int .i64 0,.pointer (some ⟨bm,0,none⟩),.pointer (some ⟨W.heap.size,0,none⟩),.pointer (some ⟨W.heap.size+1+1,0,none⟩),.pointer (some ⟨bn,0,none⟩),.pointer (some ⟨W.heap.size+1+1+1,0,none⟩)] c fun e f=>
   (e=.returned (.bool true)∧J S ([] ++ (ext n many 0).map ([] ++ ·)) f∧Ox f l n many bm W.heap.size (W.heap.size+1+1) bn (W.heap.size+1+1+1) (W.heap.size+1)∧c.heap.size≤f.heap.size∧∃f',f.rowIs (W.heap.size+1) 3 many f'∧∀j,j < 0→f' j=.int .i64 0)∨
   (e=.returned (.bool false)∧∃q,q <+: ext n many 0∧L S q f)):=ZHD many w0.heap.size l n many bm W.heap.size (W.heap.size+1+1) bn (W.heap.size+1+1+1) (W.heap.size+1) S (fun _=>False) J L (ext n many 0) g s hm5 hn (by have:=v.size; omega) Q [] 0 [] _ c (by simp) (Za5 _) O d (fun j hj=>absurd hj (by simp)) (fun b hb=>by
  rw [B] at hb
  rcases hb with h | h | h <;> omega) r (by simp)
 have y:Hid (c=(((W.alloc (.cells #[.func (.yield l) #[] #[]] 97)).alloc (.cells (madeCells #[.int .i64 0] many) 3)).alloc (.cells #[.slice (some ⟨W.heap.size+1,0,none⟩) many many] 22)).alloc
  (.cells #[.func (.func 87) #[] #[.pointer (some ⟨bm,0,none⟩),.pointer (some ⟨W.heap.size,0,none⟩),.pointer (some ⟨W.heap.size+1+1,0,none⟩),.pointer (some ⟨bn,0,none⟩),.pointer (some ⟨W.heap.size+1+1+1,0,none⟩)]] 73)):=t
 clear g o Q G O d s r N R U V D a v hcm hcn t;refine callsIn_of_wp Tryz.func86 rfl trivial ?_ rfl;simp only [Tryz.ntmps86,List.size_toArray,List.length_cons,List.length_nil,Nat.reduceAdd,Nat.reduceSub,Array.replicate_succ,Array.replicate_zero,List.push_toArray,List.append_toArray,List.nil_append,List.cons_append]
 gi_wp2_with fail
 refine ⟨trivial,rfl,?_⟩;rw [←y.out];refine (Y.out).mono ?_
 rintro e f (⟨rfl,m,_⟩ | ⟨rfl,m⟩)
 ·have A:Hid (J S (ext n many 0) f):=by
   have e : [] ++ (ext n many 0).map ([] ++ ·)=ext n many 0:=by simp
   rw [e] at m;exact m
  clear m
  gi_wp2
  go_end0
  exact ⟨⟨_,rfl⟩,.inl ⟨S,A.out⟩⟩
 ·have A:=hid m
  clear m
  gi_wp2
  go_end0
  exact ⟨⟨_,rfl⟩,.inr ⟨S,A.out⟩⟩
end Go.Proofs.YtgfnmkenpgnllaaGreat
