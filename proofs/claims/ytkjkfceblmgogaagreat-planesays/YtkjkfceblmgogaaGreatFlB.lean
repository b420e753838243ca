import Derived.Test.YtkjkfceblmgogaaGreatFlA
set_option maxRecDepth 100000
set_option maxHeartbeats 4000000
namespace Go.Proofs.YtkjkfceblmgogaaGreat
open Go.Shelf Go.RowKit Go.Lib Go.Sort
theorem ZFd:∀x,ZAm x x=0
 | []=>rfl
 | a :: x=>by simp [ZAm,ZFd x]
theorem ZEx:∀x y z,ZAm x y < 0→ZAm y z < 0→ZAm x z < 0
 | [],[],_,h,_=>by simp [ZAm] at h
 | [],b :: y,[],_,h=>by simp [ZAm] at h
 | [],b :: y,c :: z,_,_=>by simp [ZAm]
 | a :: x,[],_,h,_=>by simp [ZAm] at h
 | a :: x,b :: y,[],_,h=>by simp [ZAm] at h
 | a :: x,b :: y,c :: z,h1,h2=>by
  have ih:=ZEx x y z;simp only [ZAm] at *
  split at h1 <;> split at h2 <;> split <;> (try split at h1) <;> (try split at h2) <;> (try split) <;> first | omega | (exact ih h1 h2)
theorem ZDl:∀x y z,¬ZAm x y < 0→¬ZAm y z < 0→¬ZAm x z < 0
 | [],[],z,_,h=>h
 | [],b :: y,_,h,_=>by simp [ZAm] at h
 | a :: x,[],[],_,_=>by simp [ZAm]
 | a :: x,[],c :: z,_,h=>by simp [ZAm] at h
 | a :: x,b :: y,[],_,_=>by simp [ZAm]
 | a :: x,b :: y,c :: z,h1,h2=>by
  have ih:=ZDl x y z;simp only [ZAm] at *
  split at h1 <;> split at h2 <;> split <;> (try split at h1) <;> (try split at h2) <;> (try split) <;> first | omega | (exact ih h1 h2)
abbrev FlT:=Value×List Int×Nat
def ZBx(t:FlT):List Value:=[t.1,.int .i64 (t.2.2:Nat)]
def RF(w:World):Type:={ p:FlT // Sl 0 3 w p.1 (ZAB p.2.1) }
instance (w:World):Inhabited (RF w):=⟨⟨(.slice none 0 0,[],0),Sl.nil _ _ _⟩⟩
def RF.enc{w:World}(x:RF w):List Value:=ZBx x.1
def fcf(x y:List Int×Nat):Int:=orL [ZCh (x.2:Nat) (y.2:Nat),ZAm x.1 y.1]
def RF.cf{w:World}(x y:RF w):Int:=fcf x.1.2 y.1.2
theorem ZDK(x y:List Int×Nat):fcf x y < 0↔x.2 < y.2∨(x.2=y.2∧ZAm x.1 y.1 < 0):=by
 unfold fcf
 by_cases h:ZCh (x.2:Nat) (y.2:Nat)=0
 ·have e:=ZHM.1 h
  have:orL [ZCh (x.2:Nat) (y.2:Nat),ZAm x.1 y.1]=ZAm x.1 y.1:=by
   rw [h];simp [orL];omega
  rw [this]
  constructor
  ·intro a; exact .inr ⟨by omega,a⟩
  ·rintro (a | a)
   ·omega
   ·exact a.2
 ·have:orL [ZCh (x.2:Nat) (y.2:Nat),ZAm x.1 y.1]=ZCh (x.2:Nat) (y.2:Nat):=ZMS (l:=[ZCh (x.2:Nat) (y.2:Nat),ZAm x.1 y.1]) (k:=0) (by simp) (by simp) h
  rw [this,ZP9]
  have b:¬x.2=y.2:=fun e=>h (ZHM.2 (by omega))
  constructor
  ·intro a; exact .inl (by omega)
  ·rintro (a | a)
   ·omega
   ·exact absurd a.1 b
theorem RF.swo(w:World):SWO (ltOf (RF.cf (w:=w))) where
 irrefl x:=by
  refine decide_eq_false fun h=>?_
  rcases (ZDK _ _).1 h with h | ⟨_,h⟩
  ·omega
  ·rw [ZFd] at h; exact absurd h (by decide)
 trans x y z h1 h2:=by
  refine decide_eq_true ((ZDK _ _).2 ?_)
  rcases (ZDK _ _).1 (of_decide_eq_true h1) with a1 | ⟨a1,b1⟩ <;> rcases (ZDK _ _).1 (of_decide_eq_true h2) with a2 | ⟨a2,b2⟩
  ·exact Or.inl (by omega)
  ·exact Or.inl (by omega)
  ·exact Or.inl (by omega)
  ·exact Or.inr ⟨by omega,ZEx _ _ _ b1 b2⟩
 ntrans x y z h1 h2:=by
  refine decide_eq_false fun h=>?_
  have d:=fun k=>of_decide_eq_false h1 ((ZDK _ _).2 k)
  have c:=fun k=>of_decide_eq_false h2 ((ZDK _ _).2 k)
  have i:¬x.1.2.2 < y.1.2.2:=fun k=>d (Or.inl k)
  have j:¬y.1.2.2 < z.1.2.2:=fun k=>c (Or.inl k)
  rcases (ZDK _ _).1 h with a | ⟨a,b⟩
  ·omega
  ·have f:x.1.2.2=y.1.2.2:=by omega
   have g:y.1.2.2=z.1.2.2:=by omega
   exact ZDl _ _ _ (fun k=>d (Or.inr ⟨f,k⟩)) (fun k=>c (Or.inr ⟨g,k⟩)) b
theorem RF.one(w:World)(x:RF w):∀v∈RF.enc x,v.oneCell'=true:=by
 intro v hv;obtain ⟨b,a,h,_⟩:=x.2;simp only [RF.enc,ZBx,List.mem_cons,List.not_mem_nil,or_false] at hv
 rcases hv with rfl | rfl
 ·rw [h]; rfl
 ·rfl
theorem ZMW(x y:List Int)(a b:Nat)(u v:Value)(w:World)(hu:Sl 0 3 w u (ZAB x))(hv:Sl 0 3 w v (ZAB y)) :
  Calls Tryz.prog 56 #[.agg #[u,.int .i64 a],.agg #[v,.int .i64 b]] w fun e w'=>e=.returned (.int .i64 (fcf (x,a) (y,b)))∧∃q os',w'=Go.Sort.grow (w.drewN q) os':=by
 obtain ⟨l,g⟩:∃l,l=w.alloc (.cells #[u,.int .i64 a] 63):=⟨_,rfl⟩
 obtain ⟨W,p⟩:∃W,W=l.alloc (.cells #[v,.int .i64 b] 63):=⟨_,rfl⟩
 have m:Below w.heap.size w l:=by rw [g]; exact ZAG _ _
 have n:Below l.heap.size l W:=by rw [p]; exact ZAG _ _
 have o:l.heap.size=w.heap.size+1:=by rw [g]; exact size_alloc _ _
 have J:W.heap.size=w.heap.size+2:=by rw [p,size_alloc,o]
 have z:l.heap[w.heap.size]?=some (.cells #[u,.int .i64 a] 63 (0,0)):=by rw [g]; exact ZAL _ _
 have r:W.heap[w.heap.size+1]?=some (.cells #[v,.int .i64 b] 63 (0,0)):=by rw [p,←o]; exact ZAL _ _
 have f:Below w.heap.size w W:=m.trans (n.mono m.size)
 have D:=(n.block w.heap.size (by omega)).trans z
 have s:=hu.below (f.trans (((Below.refl _ _).drew (w:=W)).mono f.size)) (Za4 _);have A:=hv.below (f.trans (((Below.refl _ _).drew (w:=W)).mono f.size)) (Za4 _);have P:=ZEm 0 x y u v W.drew s A;have Q:=ZI9 (a:Nat) (b:Nat) W.drew;have R:=ZP8 0 [ZCh (a:Nat) (b:Nat),ZAm x y] _ _ (ZRF (w:=W.drew))
 have t:Hid (W=(w.alloc (.cells #[u,.int .i64 a] 63)).alloc (.cells #[v,.int .i64 b] 63)):=by show _=_; rw [p,g]
 have L:Hid (fcf (x,a) (y,b)=orL [ZCh (a:Nat) (b:Nat),ZAm x y]):=rfl
 have B:Hid (∀X:World,(∀k,k < W.heap.size→X.heap[k]?=W.heap[k]?)→X.cell? ⟨w.heap.size,0,none⟩=some u∧X.cell? ⟨w.heap.size,1,none⟩=some (.int .i64 a)∧X.cell? ⟨w.heap.size+1,0,none⟩=some v∧X.cell? ⟨w.heap.size+1,1,none⟩=some (.int .i64 b)):=fun X hX=>by
  have O:=(hX w.heap.size (by omega)).trans D
  have N:=(hX (w.heap.size+1) (by omega)).trans r
  exact ⟨by simp [World.cell?,O],by simp [World.cell?,O],by simp [World.cell?,N],by simp [World.cell?,N]⟩
 obtain ⟨E,G,rfl,_,_⟩:=ZAI hu;obtain ⟨M,F,rfl,_,_⟩:=ZAI hv;clear hu hv s A m n z r D f p g o J;generalize ZAm x y=cl at *;generalize ZCh (a:Nat) (b:Nat)=ci at *;generalize fcf (x,a) (y,b)=fc at *;generalize orL [ci,cl]=oc at *;go_enter Tryz.func56,Tryz.ntmps56
 go_upto_region 1 with fail
 rw [←t.out]
 refine wp_region_held_drew (S:=fun X=>X.cell? ⟨w.heap.size,0,none⟩=some (.slice E x.length G)∧X.cell? ⟨w.heap.size,1,none⟩=some (.int .i64 a)∧X.cell? ⟨w.heap.size+1,0,none⟩=some (.slice M y.length F)∧X.cell? ⟨w.heap.size+1,1,none⟩=some (.int .i64 b)) (by kernel_rfl) (B.out _ (fun _ _=>rfl)) (fun hHeld=>?_)
 refine ZAA (i:=0) (d:=5) (v:=(.pointer (some ⟨w.heap.size,1,none⟩))) rfl rfl (by kernel_rfl) (by kernel_rfl) (by kernel_rfl) (fun _ _ _ h=>h) (.inl ⟨by rfl,by (intro j c; (try dsimp only at c); go_simp; (try (first | rfl | omega)))⟩) hHeld ?_
 simp only [Act.put,Za1,List.set]
 refine ZAA (i:=1) (d:=6) (v:=(.int .i64 (a:Nat))) rfl rfl (by kernel_rfl) (by kernel_rfl) (by kernel_rfl) (fun _ _ _ h=>h) (.inl ⟨by rfl,by (intro j c; (try dsimp only at c); go_simp; (try (first | rfl | omega)))⟩) hHeld ?_
 simp only [Act.put,Za1,List.set]
 refine ZAA (i:=2) (d:=7) (v:=(.pointer (some ⟨w.heap.size+1,1,none⟩))) rfl rfl (by kernel_rfl) (by kernel_rfl) (by kernel_rfl) (fun _ _ _ h=>h) (.inl ⟨by rfl,by (intro j c; (try dsimp only at c); go_simp; (try (first | rfl | omega)))⟩) hHeld ?_
 simp only [Act.put,Za1,List.set]
 refine ZAA (i:=3) (d:=8) (v:=(.int .i64 (b:Nat))) rfl rfl (by kernel_rfl) (by kernel_rfl) (by kernel_rfl) (fun _ _ _ h=>h) (.inl ⟨by rfl,by (intro j c; (try dsimp only at c); go_simp; (try (first | rfl | omega)))⟩) hHeld ?_
 simp only [Act.put,Za1,List.set]
 refine ZAA (i:=5) (d:=10) (v:=(.pointer (some ⟨w.heap.size,0,none⟩))) rfl rfl (by kernel_rfl) (by kernel_rfl) (by kernel_rfl) (fun _ _ _ h=>h) (.inl ⟨by rfl,by (intro j c; (try dsimp only at c); go_simp; (try (first | rfl | omega)))⟩) hHeld ?_
 simp only [Act.put,Za1,List.set]
 refine ZAA (i:=6) (d:=11) (v:=(.slice E x.length G)) rfl rfl (by kernel_rfl) (by kernel_rfl) (by kernel_rfl) (fun _ _ _ h=>h) (.inl ⟨by rfl,by (intro j c; (try dsimp only at c); go_simp; (try (first | rfl | omega)))⟩) hHeld ?_
 simp only [Act.put,Za1,List.set]
 refine ZAA (i:=7) (d:=12) (v:=(.pointer (some ⟨w.heap.size+1,0,none⟩))) rfl rfl (by kernel_rfl) (by kernel_rfl) (by kernel_rfl) (fun _ _ _ h=>h) (.inl ⟨by rfl,by (intro j c; (try dsimp only at c); go_simp; (try (first | rfl | omega)))⟩) hHeld ?_
 simp only [Act.put,Za1,List.set]
 refine ZAA (i:=8) (d:=13) (v:=(.slice M y.length F)) rfl rfl (by kernel_rfl) (by kernel_rfl) (by kernel_rfl) (fun _ _ _ h=>h) (.inl ⟨by rfl,by (intro j c; (try dsimp only at c); go_simp; (try (first | rfl | omega)))⟩) hHeld ?_
 simp only [Act.put,Za1,List.set]
 refine wpAnyH_ready (rs:=[4]) (by kernel_rfl) (by simp) ?_
 refine ZAF (i:=4) rfl (by rfl) (fun K hK=>?_) AllReadyH.nil
 go_simp;refine Q.mono ?_;rintro e U ⟨rfl,rfl⟩
 refine hK.out _ _ (B.out _ (fun _ _=>rfl)) (fun hHeld=>?_)
 clear hK K
 refine wpAnyH_ready (rs:=[9]) (by kernel_rfl) (by simp) ?_
 refine ZAF (i:=9) rfl (by rfl) (fun K hK=>?_) AllReadyH.nil
 go_simp;refine P.mono ?_;rintro e V ⟨rfl,rfl⟩
 refine hK.out _ _ (B.out _ (fun _ _=>rfl)) (fun hHeld=>?_)
 clear hK K
 refine wpAnyH_ready (rs:=[10]) (by kernel_rfl) (by simp) ?_
 refine ZAF (i:=10) rfl (by rfl) (fun K hK=>?_) AllReadyH.nil
 go_simp
 refine hK.out _ _ (B.out _ (fun k hk=>Below.heap_alloc _ _ _ hk)) (fun hHeld=>?_)
 clear hK K
 refine wpAnyH_ready (rs:=[11]) (by kernel_rfl) (by simp) ?_
 refine ZAF (i:=11) rfl (by rfl) (fun K hK=>?_) AllReadyH.nil
 go_simp;refine R.mono ?_;rintro e T ⟨rfl,rfl⟩
 refine hK.out _ _ (B.out _ (fun k hk=>Below.heap_alloc _ _ _ hk)) (fun hHeld=>?_)
 clear hK K
 refine ZAA (i:=12) (d:=4) (v:=(.int .i64 oc)) rfl rfl (by kernel_rfl) (by kernel_rfl) (by kernel_rfl) (fun _ _ _ h=>h) (.inl ⟨by rfl,by (intro j c; (try dsimp only at c); go_simp; (try (first | rfl | omega)))⟩) hHeld ?_
 simp only [Act.put,Za1,List.set]
 refine wpAnyH_done (by kernel_rfl) ?_ _
 clear hHeld;go_wp2;go_ret
 refine ⟨by rw [L.out]; rfl,1,#[.cells #[.slice E x.length G,.int .i64 a] 63,.cells #[.slice M y.length F,.int .i64 b] 63,.cells #[.int .i64 ci,.int .i64 cl] 3],?_⟩
 rw [t.out];rfl
theorem ZDL:∀(T:List FlT) (t:Nat),t < T.length*2→(T.flatMap ZBx)[t]?=(ZBx (T.getD (t / 2) (.slice none 0 0,[],0)))[t % 2]?
 | [],t,h=>by simp at h
 | x :: T,t,h=>by
  rw [List.flatMap_cons]
  by_cases ht:t < 2
  ·rw [Za7 (by simp [ZBx]; exact ht),Nat.div_eq_of_lt ht,Nat.mod_eq_of_lt ht]
   simp
  ·rw [Za8 (by simp [ZBx]; omega)]
   have ih:=ZDL T (t-2) (by simp at h; omega)
   have e1:(ZBx x).length=2:=rfl;rw [e1,ih]
   have e2:t / 2=(t-2) / 2+1:=by omega
   have e3:t % 2=(t-2) % 2:=by omega
   rw [e2,e3];simp
theorem ZHO(T:List FlT):(T.flatMap ZBx).length=T.length*2:=by
 induction T with
 | nil=>rfl
 | cons x T ih=>rw [List.flatMap_cons,Zaa4,ih]; simp [ZBx]; omega
theorem Tryz.isAggF:∀w,(isAgg 63).run Tryz.prog w=.ok true w:=fun w=>by kernel_rfl
theorem Tryz.infoF:(Tryz.prog.info? 63).map (fun i=>(i.zero,i.size,i.bytes))=some (some (.agg #[.slice none 0 0,.int .i64 0]),2,32):=by kernel_rfl
theorem Tryz.sizeOfF:∀w,(Go.sizeOf 63).run Tryz.prog w=.ok 2 w:=fun w=>by kernel_rfl
structure FlR(B:Nat)(w:World)(v:Value)(T:List FlT):Prop where
 own:w.ownsRow B 63 2 v T.length (T.flatMap ZBx)
 inn:∀t∈T,Sl 0 3 w t.1 (ZAB t.2.1)
theorem ZCG{α:Type}[Inhabited α](enc:α→List Value)(w:World)(g off q:Nat)(d:Array α)(os:Array Obj)(b:Nat)(hb:b < w.heap.size)(hne:b≠g):(sortWorldK enc 2 w g off q d os).heap[b]?=w.heap[b]?:=by
 show ((w.heap.modify g _) ++ os)[b]?=_
 rw [Array.getElem?_append_left (by simpa using hb),Array.getElem?_modify,if_neg (fun e=>hne e.symm)]
theorem ZCB{α:Type}[Inhabited α]{enc:α→List Value}{w:World}{g off q:Nat}{d:Array α}{os:Array Obj}{cur:Array Value}{v:Value}{xs:List Value}(hg:w.heap[g]?=some (.cells cur 63 (0,0)))(h:Sl 0 3 w v xs):Sl 0 3 (sortWorldK enc 2 w g off q d os) v xs:=
 h.move fun b hl ht=>by
  rcases ht with ht | ⟨c,ht⟩
  ·omega
  ·have a:b≠g:=by
    rintro rfl;rw [hg] at ht;simp at ht
   exact ⟨ZCG _ _ _ _ _ _ _ b hl a,Or.inr ⟨c,ht⟩⟩
theorem ZDM(T:List FlT)(i:Nat)(h:i < T.length):T.getD i (.slice none 0 0,[],0)∈T:=by
 have e:T.getD i (.slice none 0 0,[],0)=T[i]:=by simp [h]
 rw [e];exact List.getElem_mem _
theorem ZMX(B:Nat)(T:List FlT)(v:Value)(w:World)(hv:FlR B w v T)(h0:0 < T.length)(hm:T.length≤1000000) :
  Calls Tryz.prog 55 #[v,.func (.func 56) #[] #[]] w fun e w'=>e=.returned (.tuple #[])∧∃T':List FlT,T'.Perm T∧(∀i j,i < j→j < T'.length→¬fcf (T'.getD j (.slice none 0 0,[],0)).2 (T'.getD i (.slice none 0 0,[],0)).2 < 0)∧FlR B w' v T'∧w.grownBy w' v.ownBlock:=by
 obtain ⟨g,f,a,R,X,z,G,U,O,V⟩:∃g f a,v=.slice (some ⟨g,0,none⟩) T.length f∧B≤g∧w.heap[g]?=some (.cells a 63 (0,0))∧T.length≤f∧f≤maxLen∧a.size=f*2∧a.toList.take (T.length*2)=T.flatMap ZBx:=by
  rcases hv.own.2 with ⟨_,h⟩ | h
  ·omega
  ·exact h
 subst R;have F:=(Zaa3.1 z).1
 obtain ⟨d,hd⟩:∃d:Array (RF w),d=Array.ofFn (fun i:Fin T.length=>(⟨T.getD i (.slice none 0 0,[],0),hv.inn _ (ZDM T i.1 i.2)⟩:RF w)):=⟨_,rfl⟩
 have p:d.size=T.length:=by rw [hd]; exact Array.size_ofFn
 have N:∀j,j < T.length→(d[j]!).1=T.getD j (.slice none 0 0,[],0):=fun j A=>by
  rw [getElem!_pos d j (by omega)]
  subst hd;exact congrArg Subtype.val (Array.getElem_ofFn _)
 have D:∀t,t < T.length*2→a[t]?=(ZBx (T.getD (t / 2) (.slice none 0 0,[],0)))[t % 2]?:=fun t o=>by
  rw [←ZDL T t o,←V,Zaa5 o,Array.getElem?_toList]
 have hH:HoldsK (RF.enc (w:=w)) 2 w g 0 d:=fun j A=>by
  have L:j < T.length*2:=by simpa [p] using A
  rw [get_flatK _ _ _ j (by rw [p]; exact L)]
  have e:RF.enc (d[j / 2]!)=ZBx (T.getD (j / 2) (.slice none 0 0,[],0)):=by unfold RF.enc; rw [N _ (by omega)]
  have r:j % 2 < 2:=Nat.mod_lt _ (by decide)
  refine ⟨?_,by simp [World.frozen?,z]⟩
  rw [e];have h:=D j L
  rw [Za9 (by simp [ZBx]; exact r)] at h
  simp only [Nat.zero_add,World.cell?,z,id]
  rw [getElem!_pos (ZBx (T.getD (j / 2) (.slice none 0 0,[],0))) (j % 2) (by simp [ZBx]; exact r)]
  simpa using h
 have eg:∀args w,(callFunc 56 args).run Tryz.prog w=.ok (.enter 56 args) w:=enters_of Tryz.func56 (by kernel_rfl) rfl
 have E:CmpLays Tryz.prog 56 #[] (RF.enc (w:=w)) 2 RF.cf g 0 d.size w:=fun _ _ _ _ x y=>ZMW x.1.2.1 y.1.2.1 x.1.2.2 y.1.2.2 x.1.1 y.1.1 _ (ZCB z x.2) (ZCB z y.2)
 have n:=AnyQ.slices_SortFunc Tryz.sortF 2 Tryz.isAggF Tryz.sizeOfF (RF.enc (w:=w)) (fun _=>rfl) (RF.one w) RF.cf (RF.swo w) 56 #[] g 0 f d w eg E hH F (by omega)
 change Calls Tryz.prog 55 _ _ _ at n
 rw [p] at n;refine n.mono ?_;rintro e w' ⟨rfl,l,q,os,⟨aa,af,M⟩,P,rfl⟩
 have m:l.size=T.length:=by omega
 have s:∀i,i < T.length→(l.toList.map (fun x:RF w=>x.1)).getD i (.slice none 0 0,[],0)=(l[i]!).1:=fun i h=>by
  rw [getElem!_pos l i (by omega),Za2,List.getElem?_map,Za9 (by simpa using (show i < l.size by omega))]
  rfl
 have c:(l.toList.map (fun x:RF w=>x.1)).length=T.length:=by simp [m]
 refine ⟨rfl,l.toList.map (fun x:RF w=>x.1),?_,?_,⟨?_,?_⟩,?_⟩
 ·have e1:(l.extract 0 T.length).toList=l.toList:=by rw [Array.toList_extract]; simp; exact Zaa2 (by simp; omega)
  have e2:(d.extract 0 T.length).toList=d.toList:=by rw [Array.toList_extract]; simp; exact Zaa2 (by simp; omega)
  rw [e1,e2] at M
  have Q:d.toList.map (fun x:RF w=>x.1)=T:=by
   apply List.ext_getElem (by simp [p])
   intro i h1 h2;have r:=N i h2
   rw [getElem!_pos d i (by omega)] at r
   simp only [List.getElem_map,Array.getElem_toList];rw [r];simp [h2]
  rw [←Q];exact M.map _
 ·intro i j S A
  rw [c] at A;have h:=of_decide_eq_false (P i j (Za5 _) S A)
  rw [s i (by omega),s j A]
  exact h
 ·rw [c]
  refine ⟨by rw [ZHO,c],.inr ⟨g,f,putCells id 0 (flatK (RF.enc (w:=w)) 2 l) a,rfl,X,?_,G,U,by simp [putCells,O],?_⟩⟩
  ·show ((w.heap.modify g _) ++ os)[g]?=_
   rw [Array.getElem?_append_left (by simpa using F),Array.getElem?_modify,if_pos rfl,z]
   rfl
  ·refine List.ext_getElem? fun t=>?_
   by_cases o:t < T.length*2
   ·rw [Zaa5 o,Array.getElem?_toList,ZDL _ t (by rw [c]; exact o)]
    unfold putCells
    have Y:a[t]?=some (a[t]'(by rw [O]; have:=Nat.mul_le_mul_right 2 G; omega)):=Array.getElem?_eq_getElem _
    have ae:t < (flatK (RF.enc (w:=w)) 2 l).size:=by simpa [m] using o
    rw [Array.getElem?_mapIdx,Y]
    have J:(0≤t∧t < 0+(flatK (RF.enc (w:=w)) 2 l).size):=⟨Za5 _,by omega⟩
    simp only [Option.map_some,if_pos J,Nat.sub_zero,id]
    rw [get_flatK _ _ _ t (by rw [m]; exact o)]
    have e:RF.enc (l[t / 2]!)=ZBx ((l.toList.map (fun x:RF w=>x.1)).getD (t / 2) (.slice none 0 0,[],0)):=by unfold RF.enc; rw [s _ (by omega)]
    rw [e]
    have r:t % 2 < 2:=Nat.mod_lt _ (by decide)
    rw [Za9 (by simp [ZBx]; exact r),getElem!_pos _ (t % 2) (by simp [ZBx]; exact r)]
   ·rw [Zaa6 (by simp; omega),Zaa6 (by rw [ZHO,c]; omega)]
 ·intro t o
  obtain ⟨x,_,rfl⟩:=List.mem_map.1 o;exact ZCB z x.2
 ·refine ⟨rfl,rfl,rfl,?_,fun b hb hne=>ZCG _ _ _ _ _ _ _ b hb (fun e=>hne (by rw [e]; rfl))⟩
  show w.heap.size≤((w.heap.modify g _) ++ os).size
  simp
end Go.Proofs.YtkjkfceblmgogaaGreat
namespace Go.Proofs.YtkjkfceblmgogaaGreat
open Go Go.RowKit
def ZRv{α:Type}(P:Program)(g:Nat)(lb:Array Value)(R:World→World→(Nat→Prop)→α→Array Value→Prop)(cs:List α)(T S0:Nat→Prop)(w0:World):Prop:=
 ∀(l:Nat) (J Jx:(Nat→Prop)→List α→World→Prop) (W:World),Below w0.heap.size w0 W→ZFs J→ZFs Jx→
  (∀m S pre x vs W0 W1,J S pre W0→J S pre W1→(pre ++ [x]) <+: cs→R W0 W1 S x vs→YieldAt Fence.wide m P l vs W1 fun e W'=>Kpt (fun b=>S b∨T b) W1 W'∧
   ((e=.returned (.bool true)∧J S (pre ++ [x]) W')∨(e=.returned (.bool false)∧Jx S (pre ++ [x]) W')))→
  J S0 [] W→
  CallsIn Fence.wide 0 P g (#[.func (.yield l) #[] #[]] ++ lb) W fun e W'=>(∃v,e=.returned v)∧((∃S,J S cs W')∨(∃S pre,pre <+: cs∧Jx S pre W'))
theorem ZQA{α:Type}{P:Program}{n:Nat}{g:Operand}{ps:Array Tmp}{assign body:Code}{Q:Exit→Act→World→Prop}{a:Act}{w:World}
 {gf:Nat}{lb:Array Value}(hg:a.eval g=.func (.func gf) #[] lb)(eg:∀args w,(callFunc gf args).run P w=.ok (.enter gf args) w)
 {R:World→World→(Nat→Prop)→α→Array Value→Prop}{cs:List α}{T S0:Nat→Prop}(hseq:ZRv P gf lb R cs T S0 w)(hS0:∀b,S0 b→b < w.heap.size)
 (hps:∀W0 W S x vs,R W0 W S x vs→vs.size=ps.size)
 (hR1:∀W0 W S x vs W',R W0 W S x vs→Below W.heap.size W W'→R W0 W' S x vs)
 (hR2:∀W0 W S x vs l r o,R W0 W S x vs→W.heap[l]?=some (.loop r)→R W0 (W.putObj l o) S x vs)
 (I:(Nat→Prop)→List α→World→Prop)(Ix:Code→(Nat→Prop)→List α→World→Prop)(hI:ZFs I)(hIx:∀c,ZFs (Ix c))(h0:I S0 [] w)
 (Ax:Array Value→Act→World→Prop)(hAx:∀vs a' W l r o,Ax vs a' W→W.heap[l]?=some (.loop r)→Ax vs a' (W.putObj l o))
 (hassign:∀(S:Nat→Prop) (x:α) (vs:Array Value) (W0 W:World) (K:Act→World→Prop),R W0 W S x vs→(∀a' W',Below W.heap.size W W'→Ax vs a' W'→K a' W')→
   assign.wpIn (Fence.wide.inRound (w.heap.size+1)) (n-1-1) P (Exit.then K (fun _ _ _=>False)) { tmps:=(ps.zip vs).foldl (fun t (p,v)=>t.setIfInBounds p v) a.tmps,defers:=[] } W)
 (hbody:∀(S:Nat→Prop) (pre:List α) (x:α) (vs:Array Value) (a':Act) (W:World),I S pre W→S w.heap.size→S (w.heap.size+1)→w.heap.size+1 < W.heap.size→W.heap[w.heap.size]?=some (.deferred (some []))→(∃r,W.heap[w.heap.size+1]?=some (.loop r))→(pre ++ [x]) <+: cs→(∃S1 W0,I S pre W0∧R W0 W S1 x vs∧∀b,S b↔(S1 b∨b=w.heap.size∨b=w.heap.size+1))→Ax vs a' W→
   body.wpIn (Fence.wide.inRound (w.heap.size+1)) (n-1-1) P (ZQf (Kpt fun b=>S b∨T b) (I S) (fun c=>Ix c S) (pre ++ [x]) W) a' W)
 (hTl:¬T (w.heap.size+1))
 (hdone:∀(S:Nat→Prop) (W:World),I S cs W→S w.heap.size→W.heap[w.heap.size]?=some (.deferred (some []))→Q .normal { a with defers:={ target:=.collected w.heap.size,args:=#[] } :: a.defers } W)
 (hstop:∀(c:Code) (S:Nat→Prop) (pre:List α) (W:World),pre <+: cs→Ix c S pre W→S w.heap.size→W.heap[w.heap.size]?=some (.deferred (some []))→c.wpIn Fence.wide n P Q { a with defers:={ target:=.collected w.heap.size,args:=#[] } :: a.defers } W) :
  (Code.rangeFunc g ps assign body).wpIn Fence.wide n P Q a w:=by
 refine wpIn_rangeFunc ?_;intro fn aC
 obtain ⟨D,z⟩:∃D,D=w.heap.size:=⟨_,rfl⟩
 obtain ⟨rec,d⟩:∃rec:LoopState→Option Code→Loop,rec=fun st pe=>{ state:=st,pending:=pe,fn,tmps:=a.tmps,params:=ps,assign,body,defers:=D }:=⟨_,rfl⟩
 obtain ⟨L,Y⟩:∃L,(w.alloc (.deferred (some []))).alloc (.loop (rec .ready none))=L:=⟨_,rfl⟩
 have aF:L.heap[D+1]?=some (.loop (rec .ready none)):=by
  rw [←Y,z]; have:=World.alloc_heap_new (w.alloc (.deferred (some []))) (.loop (rec .ready none)); rwa [World.size_alloc] at this
 have aw:L.heap[D]?=some (.deferred (some [])):=by
  rw [←Y,z]; exact (Below.heap_alloc _ _ _ (by simp)).trans (World.alloc_heap_new w _)
 have ag:Below w.heap.size w L:=by
  rw [←Y]; exact ((Below.refl _ w).alloc (Za4 _) _).alloc (by simp) _
 have ar:I (fun b=>S0 b∨b=D∨b=D+1) [] L:=hI S0 _ [] w L h0 (Chg.of_below ag (Za4 _)) (fun b hb=>by
  rcases hb with hb | hb | hb
  ·exact .inl hb
  ·exact .inr (by omega)
  ·exact .inr (by omega))
 have aq:¬S0 D∧¬S0 (D+1):=⟨fun h=>by have:=hS0 _ h; omega,fun h=>by have:=hS0 _ h; omega⟩
 refine ⟨D+1,[{ target:=.collected D,args:=#[] }],L,{ target:=.fn (.func gf) lb,args:=#[.func (.yield (D+1)) #[] #[]] },L,gf,
  #[.func (.yield (D+1)) #[] #[]] ++ lb,L,?_,?_,?_,?_,fun h=>(by cases h),?_⟩
 ·rw [←Y,d,z]; exact run_enterLoop_outer _ _ _ _ _
 ·simp only [resolve,hg]
  simp [go_sem]
 ·intro f' aH; trivial
 ·simp [invoke,go_sem,eg]
 ·have ah:∀(X:(Nat→Prop)→List α→World→Prop),ZFs X→∀(p:Obj→Prop),ZFs (fun S pre (W:World)=>X (fun b=>S b∨b=D∨b=D+1) pre W∧¬S D∧¬S (D+1)∧(∃o,W.heap[D+1]?=some o∧p o)∧W.heap[D]?=some (Obj.deferred (some []))):=by
   rintro X hX p S S' pre W W' ⟨hi,y,f,⟨o,N,ho⟩,hk⟩ hc U;have V:=(Zaa3.1 N).1
   refine ⟨hX _ _ pre W W' hi (hc.mono (fun i _ h=>.inl h)) (fun b hb=>?_),fun h=>?_,fun h=>?_,⟨o,(hc.block _ V f).trans N,ho⟩,(hc.block _ (by omega) y).trans hk⟩
   ·rcases hb with hb | hb
    ·rcases U b hb with h | h
     ·exact .inl (.inl h)
     ·exact .inr h
    ·exact .inl (.inr hb)
   ·rcases U _ h with h | h
    ·exact y h
    ·omega
   ·rcases U _ h with h | h
    ·exact f h
    ·omega
  refine (ZEK (m':=n-1) (hseq (D+1)
   (fun S pre (W:World)=>I (fun b=>S b∨b=D∨b=D+1) pre W∧¬S D∧¬S (D+1)∧(∃o,W.heap[D+1]?=some o∧o=Obj.loop (rec .ready none))∧W.heap[D]?=some (Obj.deferred (some [])))
   (fun S pre (W:World)=>∃c,Ix c (fun b=>S b∨b=D∨b=D+1) pre W∧¬S D∧¬S (D+1)∧(∃o,W.heap[D+1]?=some o∧o=Obj.loop (rec .done (some c)))∧W.heap[D]?=some (Obj.deferred (some [])))
   L ag (ah I hI _) (fun S S' pre W W' ⟨c,h⟩ hc U=>⟨c,ah (Ix c) (hIx c) _ S S' pre W W' h hc U⟩) ?_ ⟨ar,aq.1,aq.2,⟨_,aF,rfl⟩,aw⟩)).mono ?_
  ·-- one round
   rintro m S pre x vs W0 W ⟨aG,-⟩ ⟨hi,y,f,⟨_,N,rfl⟩,hk⟩ M hR;have V:D+1 < W.heap.size:=(Zaa3.1 N).1
   have hy:=run_yield (P:=P) (args:=vs) N (by rw [d]; exact hps _ _ _ _ _ hR)
   rw [d] at hy;refine ⟨fn,_,assign,body,hy,ZEJ (m:=n-1-1) (roundIn_of_wpIn aC ?_)⟩
   have aa:=hassign S x vs W0 W (fun a₁' w₁=>∃w₂,(Instr.beginRound (w.heap.size+1)).run P w₁=.ok () w₂∧body.wpIn (Fence.wide.inRound (w.heap.size+1)) (n-1-1) P (roundPost P (w.heap.size+1) fun e W'=>Kpt (fun b=>S b∨T b) W W'∧
    ((e=.returned (.bool true)∧(I (fun b=>S b∨b=D∨b=D+1) (pre ++ [x]) W'∧¬S D∧¬S (D+1)∧(∃o,W'.heap[D+1]?=some o∧o=Obj.loop (rec .ready none))∧W'.heap[D]?=some (.deferred (some []))))∨
    (e=.returned (.bool false)∧∃c,Ix c (fun b=>S b∨b=D∨b=D+1) (pre ++ [x]) W'∧¬S D∧¬S (D+1)∧(∃o,W'.heap[D+1]?=some o∧o=Obj.loop (rec .done (some c)))∧W'.heap[D]?=some (.deferred (some []))))) a₁' w₂) hR
   rw [←z] at aa;refine aa ?_;clear aa hy;intro a' Wq J aA
   have aB:=hI _ (fun b=>S b∨b=D∨b=D+1) pre W Wq hi (Chg.of_below J (Za4 _)) (fun b hb=>.inl hb)
   have ae:=(J.block _ V).trans N
   have ay:=(J.block D (by omega)).trans hk
   have az:=hR1 _ _ _ _ _ _ hR J;have am:D+1 < Wq.heap.size:=Nat.lt_of_lt_of_le V J.size
   refine ⟨_,run_beginRound ae (by rw [d]),?_⟩
   obtain ⟨Wb,E⟩:∃Wb,Wq.putObj (D+1) (.loop { rec .ready none with state:=.busy })=Wb:=⟨_,rfl⟩
   rw [E]
   have aj:Wb.heap[D+1]?=some (.loop { rec .ready none with state:=.busy }):=by rw [←E]; exact World.putObj_heap_same am
   have ai:Wb.heap[D]?=some (.deferred (some [])):=by rw [←E]; exact (World.putObj_heap_other (by omega)).trans ay
   have af:Chg (fun b=>S b∨b=D∨b=D+1) Wq Wb:=by rw [←E]; exact (Chg.refl _ _).putObj (.inr (.inr rfl)) _
   have aD:Kpt (fun b=>S b∨T b) W Wb:=by
    refine (Kpt.of_below J (Za4 _)).trans ?_;rw [←E]
    exact ⟨by simp,fun b hb U=>World.putObj_heap_other (fun e=>by subst e; rcases U with h | h; exact f h; exact hTl (z ▸ h))⟩
   have aE:=hI _ (fun b=>S b∨b=D∨b=D+1) pre Wq Wb aB af (fun b hb=>.inl hb)
   have ak:=hbody (fun b=>S b∨b=D∨b=D+1) pre x vs a' Wb aE (.inr (.inl z.symm)) (.inr (.inr (by rw [z]))) (by have:=af.size; omega) (z ▸ ai) (z ▸ ⟨_,aj⟩) M ⟨S,W0,aG,by rw [←E]; exact hR2 _ _ _ _ _ _ _ _ az ae,fun b=>by rw [z]⟩ (by rw [←E]; exact hAx _ _ _ _ _ _ aA ae)
   rw [←z] at ak;refine wpIn_mono ak ?_
   have O:∀(jump:Option Code) (j:World),Kpt (fun b=>(S b∨b=D∨b=D+1)∨T b) Wb j→
     (Instr.endRound (D+1) jump).run P j=.ok (.bool jump.isNone) (j.putObj (D+1) (.loop (rec (if jump.isNone then .ready else .done) jump)))∧
     (j.putObj (D+1) (.loop (rec (if jump.isNone then .ready else .done) jump))).heap[D+1]?=some (.loop (rec (if jump.isNone then .ready else .done) jump))∧
     (j.putObj (D+1) (.loop (rec (if jump.isNone then .ready else .done) jump))).heap[D]?=some (.deferred (some []))∧
     Kpt (fun b=>S b∨T b) W (j.putObj (D+1) (.loop (rec (if jump.isNone then .ready else .done) jump))):=fun jump j s=>by
    have au:D+1 < Wb.heap.size:=by have:=af.size; omega
    have an:=(s.block (D+1) au (.inl (.inr (.inr rfl)))).trans aj;have:=run_endRound (P:=P) jump an
    have h4:Kpt (fun b=>S b∨T b) Wb j:=s.mono (fun i _ h=>h.elim (fun h=>.inl (.inl h)) .inr)
    have h5:Kpt (fun b=>S b∨T b) j (j.putObj (D+1) (.loop (rec (if jump.isNone then .ready else .done) jump))):=
     ⟨by simp,fun b hb U=>World.putObj_heap_other (fun e=>by subst e; rcases U with h | h; exact f h; exact hTl (z ▸ h))⟩
    refine ⟨?_,World.putObj_heap_same (Zaa3.1 an).1,(World.putObj_heap_other (by omega)).trans ((s.block D (by omega) (.inl (.inr (.inl rfl)))).trans ai),(aD.trans h4).trans h5⟩
    rw [d] at this ⊢;exact this
   have pc:∀(j:World) (o:Obj),Chg (fun b=>S b∨b=D∨b=D+1) j (j.putObj (D+1) o):=fun j o=>(Chg.refl _ _).putObj (.inr (.inr rfl)) _
   rintro e a3 j hp
   cases e with
   | normal=>
    obtain ⟨s,B⟩:=hp;obtain ⟨hr,F,G,A⟩:=O none j s
    exact ⟨_,_,hr,A,.inl ⟨rfl,hI _ _ _ _ _ B (pc j _) (fun b hb=>.inl hb),y,f,⟨_,F,rfl⟩,G⟩⟩
   | ret=>
    obtain ⟨s,B⟩:=hp;obtain ⟨hr,F,G,A⟩:=O (some .ret) j s
    exact ⟨_,_,hr,A,.inr ⟨rfl,.ret,hIx _ _ _ _ _ _ B (pc j _) (fun b hb=>.inl hb),y,f,⟨_,F,rfl⟩,G⟩⟩
   | exit id=>
    obtain ⟨s,B⟩:=hp;obtain ⟨hr,F,G,A⟩:=O (some (.exit id)) j s
    exact ⟨_,_,hr,A,.inr ⟨rfl,.exit id,hIx _ _ _ _ _ _ B (pc j _) (fun b hb=>.inl hb),y,f,⟨_,F,rfl⟩,G⟩⟩
   | goto t=>
    obtain ⟨s,B⟩:=hp;obtain ⟨hr,F,G,A⟩:=O (some (.goto t)) j s
    exact ⟨_,_,hr,A,.inr ⟨rfl,.goto t,hIx _ _ _ _ _ _ B (pc j _) (fun b hb=>.inl hb),y,f,⟨_,F,rfl⟩,G⟩⟩
   | panic ch=>exact hp.elim
   | outgrown=>exact hp.elim
  ·-- behind the iterator
   rintro e W2 ⟨⟨v,rfl⟩,(⟨S,hi,y,f,⟨_,N,rfl⟩,hk⟩ | ⟨S,pre,M,c,hi,y,f,⟨_,N,rfl⟩,hk⟩)⟩
   ·refine ⟨none,_,by have:=run_endLoop (P:=P) N (by rw [d]; simp); rw [d] at this; exact this,?_⟩
    have:=hdone _ (W2.putObj (D+1) (.loop { rec .ready none with state:=.exhausted })) (hI _ (fun b=>S b∨b=D∨b=D+1) _ _ _ hi ((Chg.refl _ _).putObj (.inr (.inr rfl)) _) (fun b hb=>.inl hb)) (.inr (.inl z.symm)) (by rw [←z]; exact (World.putObj_heap_other (by omega)).trans hk)
    rw [d,←z] at this;exact this
   ·refine ⟨some c,_,by have:=run_endLoop (P:=P) N (by rw [d]; simp); rw [d] at this; exact this,?_⟩
    have:=hstop c _ pre (W2.putObj (D+1) (.loop { rec .done (some c) with state:=.exhausted })) M (hIx c _ (fun b=>S b∨b=D∨b=D+1) _ _ _ hi ((Chg.refl _ _).putObj (.inr (.inr rfl)) _) (fun b hb=>.inl hb)) (.inr (.inl z.symm)) (by rw [←z]; exact (World.putObj_heap_other (by omega)).trans hk)
    rw [d,←z] at this;exact this
end Go.Proofs.YtkjkfceblmgogaaGreat
namespace Go.Proofs.YtkjkfceblmgogaaGreat
open Go.RowKit Go.Shelf
attribute [local go_sem] Oper.semAt_some
def ZIU(N0:Nat)(W0 W:World)(S:Nat→Prop)(x:List Int)(vs:Array Value):Prop:=
 ∃v,vs=#[v]∧W.ownsRow W0.heap.size 3 1 v x.length (ZAB x)∧(∀b,S b→b < W0.heap.size)∧N0≤W0.heap.size∧W0.heap.size≤W.heap.size∧∀(b:Nat) (cur:Array Value) (t:TypeId) (f:Nat×Nat),W0.heap[b]?=some (.cells cur t f)→W.heap[b]?=some (.cells cur t f)
theorem ZIV(N0:Nat)(W0 W:World)(S:Nat→Prop)(x:List Int)(vs:Array Value)(W':World)(h:ZIU N0 W0 W S x vs)(hb:Below W.heap.size W W'):ZIU N0 W0 W' S x vs:=by
 obtain ⟨v,c,i,j,g,d,a⟩:=h
 exact ⟨v,c,ZAQ i hb (Za4 _),j,g,Zaa8 d hb.size,fun b cur t f hx=>(hb.block b (Zaa3.1 (a b cur t f hx)).1).trans (a b cur t f hx)⟩
theorem ZMY(N0:Nat)(W0 W:World)(S:Nat→Prop)(x:List Int)(vs:Array Value)(l:Nat)(r:Loop)(o:Obj)(h:ZIU N0 W0 W S x vs)(hl:W.heap[l]?=some (.loop r)):ZIU N0 W0 (W.putObj l o) S x vs:=by
 obtain ⟨v,c,i,j,g,d,a⟩:=h
 refine ⟨v,c,ownsRow_putObj i _ hl rfl,j,g,by simpa using d,fun b cur t f hx=>?_⟩
 have:=a b cur t f hx
 exact (World.putObj_heap_other (fun e=>by subst e; rw [hl] at this; cases this)).trans this
def ZOE(k:Nat):Prop:=∀(N0 l n many bm by' bc bn bf ba:Nat) (S T:Nat→Prop) (J Jx:(Nat→Prop)→List (List Int)→World→Prop) (cs:List (List Int)),ZFs J→Bxo S bm by' bc bn bf ba→many≤8→n≤1000→N0≤ba→
 (∀m S pre x vs W0 W1,J S pre W0→J S pre W1→(pre ++ [x]) <+: cs→ZIU N0 W0 W1 S x vs→YieldAt Fence.wide m Tryz.prog l vs W1 fun e W'=>Kpt (fun b=>S b∨T b) W1 W'∧
   ((e=.returned (.bool true)∧J S (pre ++ [x]) W')∨(e=.returned (.bool false)∧Jx S (pre ++ [x]) W')))→
 ∀(ix:List Int) (fr:Nat) (pre:List (List Int)) (f:Nat→Value) (W:World),ix.length+k=many→fr≤n→Ox W l n many bm by' bc bn bf ba→W.rowIs ba 3 many f→(∀j,j < ix.length→f j=.int .i64 (ix.getD j 0))→
  (∀b,S b→b < W.heap.size)→J S pre W→(pre ++ (ext n k fr).map (ix ++ ·)) <+: cs→
  CallsIn Fence.wide 0 Tryz.prog 82 #[.int .i64 ix.length,.int .i64 fr,.pointer (some ⟨bm,0,none⟩),.pointer (some ⟨by',0,none⟩),.pointer (some ⟨bc,0,none⟩),.pointer (some ⟨bn,0,none⟩),.pointer (some ⟨bf,0,none⟩)] W fun e W'=>
   (e=.returned (.bool true)∧J S (pre ++ (ext n k fr).map (ix ++ ·)) W'∧Ox W' l n many bm by' bc bn bf ba∧W.heap.size≤W'.heap.size∧∃f',W'.rowIs ba 3 many f'∧∀j,j < ix.length→f' j=f j)∨
   (e=.returned (.bool false)∧∃q,q <+: cs∧Jx S q W')
theorem ZJz:ZOE 0:=by
 intro N0 l n D bm F bc bn bf L S T J Jx cs B y ai hn ah Y d fr j f W hk af E r hf v R g
 have X:d.length=D:=by omega
 subst X
 have x:(ext n 0 fr).map (d ++ ·)=[d]:=by simp [ext]
 rw [x] at g ⊢;have c1:=E.cm;have c2:=E.cy;have c3:=E.cc
 have HV:Hid (Sl 0 3 W.drew (.slice (some ⟨L,0,none⟩) d.length d.length) (ZAB d)):=Sl.row' r (by unfold maxLen; omega) (by simp) (fun i hi=>by rw [hf i hi,ZAZ d i hi])
 have Q:Hid (Calls Tryz.prog 83 #[.slice (some ⟨L,0,none⟩) d.length d.length] W.drew fun e w'=>∃u,e=.returned u∧w'.ownsRow W.heap.size 3 1 u d.length (ZAB d)∧Below W.heap.size W.drew w'):=ZC3 0 d _ W.drew HV.out (by omega)
 have V:Hid (∀u o,o.ownsRow W.heap.size 3 1 u d.length (ZAB d)→Below W.heap.size W.drew o→YieldAt Fence.wide 0 Tryz.prog l #[u] o fun e s=>
   ∃b,e=.returned (.bool b)∧((b=true∧J S (j ++ [d]) s∧Kpt (fun b=>S b∨T b) o s∧Below W.heap.size W.drew o)∨(b=false∧Jx S (j ++ [d]) s))):=fun u o O m=>
  YieldAt.mono (Y 0 S j d #[u] W o R (B S S j W o R (Chg.of_below (a:=W) (N:=W.heap.size) ⟨m.os,m.tape,m.output,m.size,m.block⟩ (Za4 _)) (fun b hb=>.inl hb)) g ⟨u,rfl,O,v,by have:=v L y.a; omega,m.size,fun b cur t f hb=>(m.block b (Zaa3.1 hb).1).trans hb⟩) fun e s h=>h.2.elim (fun ⟨a,b⟩=>⟨true,a,.inl ⟨rfl,b,h.1,m⟩⟩) (fun ⟨a,b⟩=>⟨false,a,.inr ⟨rfl,b⟩⟩)
 have HO:=hid E;have HR:=hid r;have U:=hid v;have z:=hid y;have A:=hid g;have P:Hid (F < W.heap.size):=ZAn c2;clear B Y E r hf v R g y x;refine callsIn_of_wp Tryz.func82 rfl trivial ?_ rfl;simp only [Tryz.ntmps82,List.size_toArray,List.length_cons,List.length_nil,Nat.reduceAdd,Nat.reduceSub,Array.replicate_succ,Array.replicate_zero,List.push_toArray,List.append_toArray,List.nil_append,List.cons_append]
 gi_wp2_with fail
 gi_region_with (first | (refine ⟨trivial,rfl,?_⟩; gi_at_call 83; refine (callsIn_wide.2 Q.out).mono ?_; rintro e o ⟨u,rfl,O,m⟩; have ag:=(m.cell (p:=⟨F,0,none⟩) P.out).trans c2; obtain ⟨fn,aa,M,ae,hy,hR⟩:=V.out u o O m; clear O m) | (refine ⟨rfl,?_⟩; refine hR.mono ?_; clear hR hy; rintro e s ⟨b,rfl,hP⟩; have HP:Hid ((b=true∧J S (j ++ [d]) s∧Kpt (fun b=>S b∨T b) o s∧Below W.heap.size W.drew o)∨(b=false∧Jx S (j ++ [d]) s)):=hP; clear hP))
 all_goals
  gi_wp2
  go_ret
  rcases HP.out with ⟨rfl,hJ',hkp,hb⟩ | ⟨rfl,hJx⟩
  ·have G:∀b,S b→b < W.heap.size→s.heap[b]?=W.heap[b]?:=fun b hb1 hb2=>(hkp.block b (Nat.lt_of_lt_of_le hb2 hb.size) (.inl hb1)).trans (hb.block b hb2)
   refine .inl ⟨rfl,hJ',HO.out.move (fun b hb1 hb2=>G b (z.out.of hb1) hb2),Zaa8 hb.size hkp.size,f,?_,fun _ _=>rfl⟩
   obtain ⟨c,q1,q2,q3⟩:=HR.out;exact ⟨c,(G L z.out.a (U.out L z.out.a)).trans q1,q2,q3⟩
  ·exact .inr ⟨rfl,_,A.out,hJx⟩
theorem ZJ0(k:Nat)(ih:ZOE k):ZOE (k+1):=by
 intro N0 l n c G p F E A t S T J Jx cs O N az hn aq hY d m r f W hk am B o hf v Q L
 have ai:Hid (∀(d:List Int) (m:Nat) (r:List (List Int)) (f:Nat→Value) (W:World),d.length+k=c→m≤n→Ox W l n c G p F E A t→W.rowIs t 3 c f→(∀j,j < d.length→f j=.int .i64 (d.getD j 0))→
  (∀b,S b→b < W.heap.size)→J S r W→(r ++ (ext n k m).map (d ++ ·)) <+: cs→
  CallsIn Fence.wide 0 Tryz.prog 82 #[.int .i64 d.length,.int .i64 m,.pointer (some ⟨G,0,none⟩),.pointer (some ⟨p,0,none⟩),.pointer (some ⟨F,0,none⟩),.pointer (some ⟨E,0,none⟩),.pointer (some ⟨A,0,none⟩)] W fun e x=>
   (e=.returned (.bool true)∧J S (r ++ (ext n k m).map (d ++ ·)) x∧Ox x l n c G p F E A t∧W.heap.size≤x.heap.size∧∃P,x.rowIs t 3 c P∧∀j,j < d.length→P j=f j)∨
   (e=.returned (.bool false)∧∃q,q <+: cs∧Jx S q x)):=ih N0 l n c G p F E A t S T J Jx cs O N az hn aq hY
 have ay:=hid O;have Y:=hid N;have HO:=hid B;have an:=hid o;have HF:=hid hf;have aA:=hid v;have HJ:=hid Q;have ag:=hid L;have c1:=B.cm;have c2:=B.cn
 have aF:((d.length:Int) == (c:Int))=false:=by rw [beq_eq_false_iff_ne]; omega
 clear O N hY B o hf v Q L ih;refine callsIn_of_wp Tryz.func82 rfl trivial ?_ rfl;simp only [Tryz.ntmps82,List.size_toArray,List.length_cons,List.length_nil,Nat.reduceAdd,Nat.reduceSub,Array.replicate_succ,Array.replicate_zero,List.push_toArray,List.append_toArray,List.nil_append,List.cons_append]
 gi_wp2
 gi_loopw [21,10] (fun i _ wr=>∃(q:Nat) (g:Nat→Value) (M:List (List Int)),m+q≤n∧i=.int .i64 q∧Ox wr l n c G p F E A t∧wr.rowIs t 3 c g∧(∀j,j < d.length→g j=f j)∧W.heap.size≤wr.heap.size∧J S M wr∧
   M ++ (ext n (k+1) (m+q)).map (d ++ ·)=r ++ (ext n (k+1) m).map (d ++ ·)) (fun i _ _=>n-(intOf i).toNat)
 case atStart=>exact ⟨0,f,r,am,rfl,HO.out,an.out,fun _ _=>rfl,Za4 _,HJ.out,rfl⟩
 case round=>
  obtain ⟨q,g,M,hq,rfl,B,o,hg,v,Q,D⟩:=hrel;have ar:=hid B;have ae:=hid o;have HG:=hid hg;have aj:=hid Q;have X:=hid D;have aa:=hid v
  by_cases hlt:m+q < n
  ·have d1:=B.cc
   have d4:=o.cell (i:=d.length) (by omega)
   have d5:=o.frozen d.length
   obtain ⟨z,s⟩:∃z,z=wr.setCell ⟨t,d.length,none⟩ (.int .i64 ((m:Int)+(q:Int))):=⟨_,rfl⟩
   have ah:Hid (Ox z l n c G p F E A t):=by
    rw [s]
    exact B.move (fun b hb _=>Below.heap_setCell _ _ _ _ (Y.out.ne b hb))
   have af:Hid (z.rowIs t 3 c (fun i=>if i=d.length then .int .i64 ((m:Int)+(q:Int)) else g i)):=by rw [s]; exact o.set _ _
   have au:Hid (J S M z):=ay.out S S M wr z Q (by rw [s]; exact (Chg.refl _ _).setCell Y.out.a _) (fun b hb=>.inl hb)
   have aK:z.heap.size=wr.heap.size:=by rw [s]; simp [World.setCell]
   have d6:(wr.setCell ⟨t,d.length,none⟩ (.int .i64 ((m:Int)+(q:Int)))).cell? ⟨A,0,none⟩=some (.func (.func 82) #[] #[.pointer (some ⟨G,0,none⟩),.pointer (some ⟨p,0,none⟩),.pointer (some ⟨F,0,none⟩),.pointer (some ⟨E,0,none⟩),.pointer (some ⟨A,0,none⟩)]):=by rw [←s]; exact ah.out.cf
   have aB:=hid s;have y:Hid ((ext n (k+1) (m+q)).map (d ++ ·)=(ext n k (m+q+1)).map ((d ++ [((m+q:Nat):Int)]) ++ ·) ++ (ext n (k+1) (m+q+1)).map (d ++ ·)):=ZDi hlt d
   have U:Hid (CallsIn Fence.wide 0 Tryz.prog 82 #[.int .i64 ((d.length:Int)+1),.int .i64 ((m:Int)+(q:Int)+1),.pointer (some ⟨G,0,none⟩),.pointer (some ⟨p,0,none⟩),.pointer (some ⟨F,0,none⟩),.pointer (some ⟨E,0,none⟩),.pointer (some ⟨A,0,none⟩)] z fun e x=>
     (e=.returned (.bool true)∧J S (M ++ (ext n k (m+q+1)).map ((d ++ [((m+q:Nat):Int)]) ++ ·)) x∧Ox x l n c G p F E A t∧z.heap.size≤x.heap.size∧∃P,x.rowIs t 3 c P∧∀j,j < d.length→P j=f j)∨
     (e=.returned (.bool false)∧∃q,q <+: cs∧Jx S q x)):=by
    have h:=ai.out (d ++ [((m+q:Nat):Int)]) (m+q+1) M _ z (by simp; omega) (by omega) ah.out af.out (fun j hj=>by
      simp only [Zaa4,List.length_singleton] at hj
      by_cases e:j=d.length
      ·subst e; simp
      ·have V:j < d.length:=by omega
       simp only [e,if_false];rw [HG.out j V,HF.out j V]
       simp only [Za2]; rw [Za7 V]) (fun b hb=>by have:=aA.out b hb; omega) au.out (by
      refine List.IsPrefix.trans ?_ ag.out;rw [←X.out,y.out,←List.append_assoc];exact List.prefix_append _ _)
    have e1:((d ++ [((m+q:Nat):Int)]).length:Int)=(d.length:Int)+1:=by simp
    have e2:((m+q+1:Nat):Int)=(m:Int)+(q:Int)+1:=by omega
    rw [e1,e2] at h;refine h.mono ?_
    rintro e x (⟨rfl,R,a2,a3,P,a4,a5⟩ | h)
    ·refine .inl ⟨rfl,R,a2,a3,P,a4,fun j hj=>?_⟩
     rw [a5 j (by simp; omega)]
     simp only [show j≠d.length by omega,if_false]
     exact HG.out j hj
    ·exact .inr h
   clear B o hg v Q D s
   have aH:(0:Int)≤(q:Int):=by omega
   have aD:(0:Int)≤(m:Int):=by omega
   have aL:(0:Int)≤(d.length:Int):=by omega
   have aI:(d.length:Int) < (c:Int):=by omega
   have aG:(q:Int) < (n:Int)-(m:Int):=by omega
   have aE:(m:Int)+(q:Int) < (n:Int):=by omega
   have aC:(0:Int)≤(m:Int)+(q:Int):=by omega
   gi_wp2_with fail
   refine ⟨trivial,rfl,?_⟩;rw [←aB.out];refine U.out.mono ?_
   rintro e w6 (⟨rfl,R,a2,a3,f6,a4,a5⟩ | ⟨rfl,R⟩)
   ·have S1:=hid R
    have S2:=hid a2
    have S3:Hid (W.heap.size≤w6.heap.size):=by show _≤_; have:=aa.out; omega
    have S4:=hid a4;have S5:=hid a5;clear R a2 a3 a4 a5
    gi_wp2
    go_roundw
    case rel=>
     refine ⟨q+1,f6,_,by omega,by go_num,S2.out,S4.out,S5.out,S3.out,S1.out,?_⟩
     rw [←X.out,y.out,List.append_assoc];rfl
    case measure=>simp [intOf]; omega
   ·have S1:=hid R
    clear R
    gi_wp2
    go_ret;exact .inr ⟨rfl,S1.out⟩
  ·have aw:m+q=n:=by omega
   have ak:Hid (M=r ++ (ext n (k+1) m).map (d ++ ·)):=by
    show _=_
    rw [←D,aw,ZFt (Za4 _)];simp
   clear B o hg v Q D
   have aJ:decide ((q:Int) < (n:Int)-(m:Int))=false:=by simp; omega
   gi_wp2
   go_ret
   exact .inl ⟨rfl,by rw [←ak.out]; exact aj.out,ar.out,aa.out,g,ae.out,HG.out⟩
theorem ZHP:∀k,ZOE k
 | 0=>ZJz
 | k+1=>ZJ0 k (ZHP k)
theorem ZQB(n many bm bn:Nat)(w0:World)(hm5:many≤8)(hn:n≤1000)(hcm:w0.cell? ⟨bm,0,none⟩=some (.int .i64 many))(hcn:w0.cell? ⟨bn,0,none⟩=some (.int .i64 n)) :
  ZRv Tryz.prog 81 #[.pointer (some ⟨bm,0,none⟩),.pointer (some ⟨bn,0,none⟩)] (ZIU w0.heap.size) (ext n many 0) (fun _=>False) (fun b=>b=bm∨b=bn) w0:=by
 intro l J V W v f t G R;have x:=ZAn hcm;have F:=ZAn hcn;have M:W.cell? ⟨bm,0,none⟩=some (.int .i64 many):=(v.cell (p:=⟨bm,0,none⟩) x).trans hcm;have O:W.cell? ⟨bn,0,none⟩=some (.int .i64 n):=(v.cell (p:=⟨bn,0,none⟩) F).trans hcn
 have X:=run_make_row' (P:=Tryz.prog) 27 3 (.int .i64 0) 8 Tryz.underlying27 Tryz.info3 rfl .i64 .i64 many (by omega) (by omega)
 obtain ⟨d,o,T,U,Q,L,E,a⟩:=ZNA W (.cells #[.func (.yield l) #[] #[]] 93) (.cells (madeCells #[.int .i64 0] many) 3) (.cells #[.slice (some ⟨W.heap.size+1,0,none⟩) many many] 27)
  (.cells #[.func (.func 82) #[] #[.pointer (some ⟨bm,0,none⟩),.pointer (some ⟨W.heap.size,0,none⟩),.pointer (some ⟨W.heap.size+1+1,0,none⟩),.pointer (some ⟨bn,0,none⟩),.pointer (some ⟨W.heap.size+1+1+1,0,none⟩)]] 68)
 have B:=ZAn M;have z:=ZAn O
 obtain ⟨S,D⟩:∃S:Nat→Prop,S=fun b=>b=bm∨b=bn∨(W.heap.size≤b∧b < W.heap.size+4):=⟨_,rfl⟩
 have N:Ox d l n many bm W.heap.size (W.heap.size+1+1) bn (W.heap.size+1+1+1) (W.heap.size+1):=
  ⟨(a.cell (p:=⟨bm,0,none⟩) B).trans M,ZAc T,ZAc Q,(a.cell (p:=⟨bn,0,none⟩) z).trans O,ZAc L⟩
 have c:d.rowIs (W.heap.size+1) 3 many (fun _=>.int .i64 0):=by
  refine ⟨_,U,?_,fun i hi=>?_⟩
  ·rw [←Array.length_toList,toList_madeCells_one]; simp
  ·rw [←Array.getElem?_toList,toList_madeCells_one]; simp [hi]
 have s:Bxo S bm W.heap.size (W.heap.size+1+1) bn (W.heap.size+1+1+1) (W.heap.size+1):=by
  rw [D]
  exact ⟨.inl rfl,.inr (.inr (by omega)),.inr (.inr (by omega)),.inr (.inl rfl),.inr (.inr (by omega)),.inr (.inr (by omega)),fun b hb=>by omega⟩
 have r:J S [] d:=f _ S [] W d R (Chg.of_below a (Za4 _)) (fun b hb=>by
  rw [D] at hb
  rcases hb with h | h | h
  ·exact .inl (.inl h)
  ·exact .inl (.inr h)
  ·exact .inr h.1)
 have Y:Hid (CallsIn Fence.wide 0 Tryz.prog 82 #[.int .i64 0,.int .i64 0,.pointer (some ⟨bm,0,none⟩),.pointer (some ⟨W.heap.size,0,none⟩),.pointer (some ⟨W.heap.size+1+1,0,none⟩),.pointer (some ⟨bn,0,none⟩),.pointer (some ⟨W.heap.size+1+1+1,0,none⟩)] d fun e g=>
   (e=.returned (.bool true)∧J S ([] ++ (ext n many 0).map ([] ++ ·)) g∧Ox g l n many bm W.heap.size (W.heap.size+1+1) bn (W.heap.size+1+1+1) (W.heap.size+1)∧d.heap.size≤g.heap.size∧∃f',g.rowIs (W.heap.size+1) 3 many f'∧∀j,j < 0→f' j=.int .i64 0)∨
   (e=.returned (.bool false)∧∃q,q <+: ext n many 0∧V S q g)):=ZHP many w0.heap.size l n many bm W.heap.size (W.heap.size+1+1) bn (W.heap.size+1+1+1) (W.heap.size+1) S (fun _=>False) J V (ext n many 0) f s hm5 hn (by have:=v.size; omega) G [] 0 [] _ d (by simp) (Za5 _) N c (fun j hj=>absurd hj (by simp)) (fun b hb=>by
  rw [D] at hb
  rcases hb with h | h | h <;> omega) r (by simp)
 have y:Hid (d=(((W.alloc (.cells #[.func (.yield l) #[] #[]] 93)).alloc (.cells (madeCells #[.int .i64 0] many) 3)).alloc (.cells #[.slice (some ⟨W.heap.size+1,0,none⟩) many many] 27)).alloc
  (.cells #[.func (.func 82) #[] #[.pointer (some ⟨bm,0,none⟩),.pointer (some ⟨W.heap.size,0,none⟩),.pointer (some ⟨W.heap.size+1+1,0,none⟩),.pointer (some ⟨bn,0,none⟩),.pointer (some ⟨W.heap.size+1+1+1,0,none⟩)]] 68)):=o
 clear f t G R N c s r T U Q L E a v hcm hcn o;refine callsIn_of_wp Tryz.func81 rfl trivial ?_ rfl;simp only [Tryz.ntmps81,List.size_toArray,List.length_cons,List.length_nil,Nat.reduceAdd,Nat.reduceSub,Array.replicate_succ,Array.replicate_zero,List.push_toArray,List.append_toArray,List.nil_append,List.cons_append]
 gi_wp2_with fail
 refine ⟨trivial,rfl,?_⟩;rw [←y.out];refine (Y.out).mono ?_
 rintro e g (⟨rfl,m,_⟩ | ⟨rfl,m⟩)
 ·have A:Hid (J S (ext n many 0) g):=by
   have e : [] ++ (ext n many 0).map ([] ++ ·)=ext n many 0:=by simp
   rw [e] at m;exact m
  clear m
  gi_wp2
  go_end0
  exact ⟨⟨_,rfl⟩,.inl ⟨S,A.out⟩⟩
 ·have A:=hid m
  clear m
  gi_wp2
  go_end0
  exact ⟨⟨_,rfl⟩,.inr ⟨S,A.out⟩⟩
end Go.Proofs.YtkjkfceblmgogaaGreat
