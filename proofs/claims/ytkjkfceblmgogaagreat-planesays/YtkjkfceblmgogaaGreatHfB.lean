import Derived.Test.YtkjkfceblmgogaaGreatHf1
import Derived.Test.YtkjkfceblmgogaaGreatWiA
set_option maxRecDepth 100000
set_option maxHeartbeats 1600000
namespace Go.Proofs.YtkjkfceblmgogaaGreat
open Go.RowKit
attribute [local go_sem ↓] Go.wp_at_zero Go.wp_at_succ
def mtP(d:Nat)(t:List (List Int)):List Int:=if 0 < (ZAO (d+1) t).getD d 0 then (ZAO (d+1) t).map fun z=>-z else ZAO (d+1) t
def mtL(d:Nat)(t:List (List Int)):List Int:=ngR d (mtP d t)
def mtB(d:Nat)(t:List (List Int)):Bool:=ZAp (d+1) t && !((ZAO (d+1) t).getD d 0 == 0)
theorem ZMC{d:Nat}{t:List (List Int)}(h:ZAp (d+1) t=true):(mtP d t).length=d+1:=by
 unfold mtP
 split <;> simp [ZAy h]
theorem ZMD{B B' n:Nat}{e:TypeId}{w:World}{v:Value}{xs:List Value}(h:w.ownsRow B e 1 v n xs)(hB:B'≤B):w.ownsRow B' e 1 v n xs:=by
 obtain ⟨b,a⟩:=h;refine ⟨b,?_⟩
 rcases a with a | ⟨g,cap,cur,hu,hg,hr⟩
 ·exact .inl a
 ·exact .inr ⟨g,cap,cur,hu,Zaa8 hB hg,hr⟩
theorem ZHJ(B d:Nat)(t:List (List Int))(v:Value)(w:World)(hx:Mx (d+1) 60 t)(hv:Mat B 27 3 w v t)(hm:t.length≤500)(hm0:1≤t.length) :
  Calls Tryz.prog 76 #[v,.int .i64 d] w fun e w'=>∃xo xl xc,e=.returned (.tuple #[.slice xo xl xc,.bool (mtB d t)])∧(mtB d t=true→xl=d+1∧Sl 0 3 w' (.slice xo xl xc) (ZAB (mtL d t))∧∃a,xo=some a∧w.heap.size≤a.block)∧Below w.heap.size w w':=by
 have h:=ZHr B (d+1) t v w hx hv hm hm0
 rw [show ((d+1:Nat):Int)=(d:Int)+1 by omega] at h
 have Y:=hid h
 have m:Hid (∀z∈ZAO (d+1) t,z.natAbs≤1000000000000):=ZCn hx
 have aA:=hx.c5;have P:Hid (ZAp (d+1) t=true→(ZAO (d+1) t).length=d+1):=ZAy
 have T:Hid (mtL d t=ngR d (if 0 < (ZAO (d+1) t).getD d 0 then (ZAO (d+1) t).map (fun z=>-z) else ZAO (d+1) t)):=rfl
 have G:Hid (mtB d t=(ZAp (d+1) t && !((ZAO (d+1) t).getD d 0 == 0))):=rfl;obtain ⟨vo,vc,ah,_,_⟩:=ZAD hv;subst ah;clear h hx hv hm hm0;generalize mtL d t=L at *;generalize mtB d t=b at *;generalize ZAp (d+1) t=X at *;generalize ZAO (d+1) t=n at *;go_enter Tryz.func76,Tryz.ntmps76
 go_wp2_with fail
 refine Y.out.mono ?_;rintro e A ⟨x,rfl,N,O⟩;have g:=hid O;clear Y O
 cases X
 case false=>
  have j:Hid (b=false):=by show _=_; rw [G.out]; rfl
  obtain ⟨xo,xc,rfl⟩:=ZAE N;clear N;go_wp2
  exact bodyPost_ret (v:=.tuple #[.slice none 0 0,.bool false]) (by simp [results,Tryz.results76,go_sem]) rfl ⟨none,0,0,by rw [j.out],fun h=>(by rw [j.out] at h; cases h),g.out⟩
 case true=>
  have M:=P.out rfl;rw [M] at N;have s:=hid N
  obtain ⟨X,no,nc,R,az,J⟩:=ZAK (Sl.own (B:=0) N) (k:=d) (by rw [M]; omega)
  rw [M] at R;subst R
  have aq:=m.out (n.getD d 0) (ZAj (by rw [M]; omega))
  have l:=hid M
  have aw:(d:Int) < (d:Int)+1:=by omega
  have ar:(0:Int)≤(d:Int):=by omega
  clear N M
  by_cases h0:n.getD d 0=0
  ·have j:Hid (b=false):=by show _=_; rw [G.out,h0]; rfl
   rw [h0] at J;clear h0 aq;go_wp2
   exact bodyPost_ret (v:=.tuple #[.slice none 0 0,.bool false]) (by simp [results,Tryz.results76,go_sem]) rfl ⟨none,0,0,by rw [j.out],fun h=>(by rw [j.out] at h; cases h),g.out⟩
  ·have am:Hid (b=true):=by show _=_; rw [G.out]; simp; simpa using h0
   have ay:(n.getD d 0 == 0)=false:=by simpa using h0
   by_cases hp:0 < n.getD d 0
   case' pos=>
    have o:Hid (L=ngR d (n.map fun z=>-z)):=by show _=_; rw [T.out,if_pos hp]
    have aj:decide (0 < n.getD d 0)=true:=decide_eq_true hp
    have U:Hid (Calls Tryz.prog 49 #[.slice (some ⟨X,no,none⟩) (d+1) nc] A fun e w'=>∃u,e=.returned u∧w'.ownsRow A.heap.size 3 1 u (d+1) (ZAB (n.map fun z=>-z))∧Below A.heap.size A w'):=by
     have h:=ZBb 0 n (.slice (some ⟨X,no,none⟩) (d+1) nc) A (Sl.own s.out) (by rw [l.out]; omega) (fun z hz=>by have:=m.out z hz; omega)
     rw [l.out] at h;exact h
    generalize n.getD d 0=nd at *
    go_wp2_with fail
    refine U.out.mono ?_;rintro e E ⟨u,rfl,D,ae⟩
    obtain ⟨p,c⟩:∃p,p=n.map fun z=>-z:=⟨_,rfl⟩
    rw [←c] at o D
    have r:Hid (p.length=d+1):=by show _=_; rw [c,Zab1,l.out]
    have aa:Hid (∀z∈p,z.natAbs≤1000000000000):=fun z hz=>by
     rw [c] at hz;obtain ⟨y,hy,rfl⟩:=List.mem_map.1 hz;have:=m.out y hy; omega
    have V:Hid (E.ownsRow w.heap.size 3 1 u (d+1) (ZAB p)):=ZMD D g.out.size;have Q:Hid (Below w.heap.size w E):=g.out.trans (ae.mono g.out.size);clear D ae J U s c
   case' neg=>
    have o:Hid (L=ngR d n):=by show _=_; rw [T.out,if_neg hp]
    have aj:decide (0 < n.getD d 0)=false:=decide_eq_false hp
    obtain ⟨p,c⟩:∃p,p=n:=⟨_,rfl⟩
    obtain ⟨u,S⟩:∃u,u=Value.slice (some (⟨X,no,none⟩:Addr)) (d+1) nc:=⟨_,rfl⟩
    have r:Hid (p.length=d+1):=by show _=_; rw [c]; exact l.out
    have aa:Hid (∀z∈p,z.natAbs≤1000000000000):=by rw [c]; exact m.out
    have V:Hid (A.ownsRow w.heap.size 3 1 u (d+1) (ZAB p)):=by rw [S,c]; exact s.out
    have Q:Hid (Below w.heap.size w A):=g.out;rw [←c] at o;generalize n.getD d 0=nd at *
    go_upto_region 6 with fail
    rw [←S]
    obtain ⟨E,rfl⟩:∃E,E=A:=⟨_,rfl⟩
    clear J s c S
   all_goals
    obtain ⟨gb,gc,F,S,hg,f,hF,an,ak⟩:=ZIz V.out (by omega)
    subst S
    have ca:=f.cell (i:=d) (by omega)
    have cf:=f.frozen d
    rw [hF d (by omega)] at ca
    have au:=aa.out (p.getD d 0) (ZAj (by rw [r.out]; omega))
    have ag:Hid (Sl 0 3 (E.setCell ⟨gb,d,none⟩ (.int .i64 (-(p.getD d 0)))) (.slice (some ⟨gb,0,none⟩) (d+1) gc) (ZAB L)):=by
     rw [o.out]
     refine ZCv (f.set d _) (fun i hi=>?_) (ZEY r.out) an ak
     show (if i=d then Value.int .i64 (-(p.getD d 0)) else F i)=_
     rw [ZEZ r.out hi]
     by_cases e:i=d
     ·rw [if_pos e,if_pos e]
     ·rw [if_neg e,if_neg e,hF i hi]
    have af:Hid (Below w.heap.size w (E.setCell ⟨gb,d,none⟩ (.int .i64 (-(p.getD d 0))))):=Q.out.setCell hg _;have ai:=hid hg;generalize p.getD d 0=z at *
    have aB:wrap64 (-z)=-z:=IntWalk.wrap64_in _ ⟨by omega,by omega⟩
    clear f hF;go_wp2
    exact bodyPost_ret (v:=.tuple #[.slice (some ⟨gb,0,none⟩) (d+1) gc,.bool true]) (by simp [results,Tryz.results76,go_sem]) rfl ⟨_,_,_,by rw [am.out],fun _=>⟨rfl,ag.out,_,rfl,ai.out⟩,af.out⟩
def axG(d i:Nat)(s:Int):List Int:=(List.range d).map fun j=>if j=i then s else 0
theorem ZCz(d i:Nat)(s:Int):(axG d i s).length=d:=by simp [axG]
theorem ZP1(d i:Nat):(axG d i 1).map (fun z=>-z)=axG d i (-1):=by
 unfold axG;rw [List.map_map]
 refine List.map_congr_left fun j _=>?_
 show -(if j=i then (1:Int) else 0)=_
 split <;> simp_all
theorem ZOs{d i:Nat}{s:Int}(hs:s.natAbs≤1):∀z∈axG d i s,z.natAbs≤1:=fun z hz=>by
 simp only [axG,List.mem_map] at hz;obtain ⟨j,_,rfl⟩:=hz
 split
 ·exact hs
 ·decide
def opI(d:Nat)(rows:List (List Int))(i:Nat):Bool:=(ZAY rows (axG d i 1)).isEmpty || (ZAY rows (axG d i (-1))).isEmpty
def opB(d:Nat)(rows:List (List Int)):Bool:=(List.range d).any (opI d rows)
theorem ZP2{w:World}{d k:Nat}(hk:k < d)(hd:d≤100){o:Obj}(ho:o=.cells ((madeCells #[.int .i64 0] d).setIfInBounds k (.int .i64 1)) 3):Sl 0 3 (w.alloc o) (.slice (some ⟨w.heap.size,0,none⟩) d d) (ZAB (axG d k 1)):=by
 subst ho;have b:=ZAL w (.cells ((madeCells #[.int .i64 0] d).setIfInBounds k (.int .i64 1)) 3)
 have a:(w.alloc (.cells ((madeCells #[.int .i64 0] d).setIfInBounds k (.int .i64 1)) 3)).rowIs w.heap.size 3 d (fun j=>if j=k then .int .i64 1 else .int .i64 0):=by
  refine ⟨_,b,?_,fun i hi=>?_⟩
  ·simp only [Array.size_setIfInBounds]
   rw [←Array.length_toList,toList_madeCells_one]; simp
  ·rw [Array.getElem?_setIfInBounds]
   by_cases e:k=i
   ·subst e
    have c:k < (madeCells #[.int .i64 0] d).size:=by rw [←Array.length_toList,toList_madeCells_one]; simpa using hk
    simp [c]
   ·rw [if_neg e,←Array.getElem?_toList,toList_madeCells_one]
    simp [hi,show ¬i=k from fun h=>e h.symm]
 refine Sl.row' a (by unfold maxLen; omega) (by simp [ZAB,axG]) (fun i hi=>?_)
 rw [ZAZ _ _ (by rw [ZCz]; exact hi)]
 by_cases e:i=k
 ·subst e; simp [axG,hi]
 ·simp [axG,hi,e]
theorem ZME(d:Nat)(rows:List (List Int))(v:Value)(w:World){B0:Nat}(hv:Mat B0 27 3 w v rows)(hc:CutF d rows) :
  Calls Tryz.prog 47 #[.agg #[.int .i64 d,v]] w fun e w'=>e=.returned (.bool (opB d rows))∧Below w.heap.size w w':=by
 obtain ⟨A,y,ai,aB,aw⟩:=ZAD hv;subst ai;obtain ⟨W,hW,F,ag,L⟩:=ZCQ w d (.slice A rows.length y);have aj:=hid hW
 have p:Hid (∀X,Below W.heap.size W X→Below w.heap.size w X):=fun X hX=>F.trans (hX.mono F.size)
 have V:=hid L
 have N:Hid (∀X,Below W.heap.size W X→∀(i:Nat) (s:Int) (go:Option Addr) (gc:Nat),s.natAbs≤1→Sl 0 3 X (.slice go d gc) (ZAB (axG d i s))→Calls Tryz.prog 75 #[.slice A rows.length y,.slice go d gc] X fun e w'=>e=.returned (.bool (!(ZAY rows (axG d i s)).isEmpty))∧Below X.heap.size X w'):=fun X hX i s go gc hs hg=>
  ZIK rows (axG d i s) _ _ X (hv.below (p.out X hX) (Za4 _)) hg (fun r hr=>⟨by rw [ZCz,hc.len r hr]; omega,fun z hz=>by have:=hc.bd r hr z hz; omega⟩) (fun z hz=>by have:=ZOs hs z hz; omega) (by rw [ZCz]; exact hc.d1) (by rw [ZCz]; have:=hc.d4; omega) (by have:=hc.n12; omega)
 have az:=hc.d1;have aC:=hc.d4
 have aA:=run_make_row' (P:=Tryz.prog) 27 3 (.int .i64 0) 8 Tryz.underlying27 Tryz.info3 rfl .i64 .i64 d (by omega) (by omega)
 obtain ⟨U,O⟩:=L W (Below.refl _ _);clear hv hc hW F ag L;go_enter Tryz.func47,Tryz.ntmps47
 go_upto_region 1 with fail
 rw [←aj.out];go_wp2
 go_loopw [7] (fun i X=>∃k:Nat,k≤d∧i=.int .i64 k∧(∀j,j < k→opI d rows j=false)∧Below W.heap.size W X) (fun i _=>d-(intOf i).toNat)
 case atStart=>exact ⟨0,Za5 _,rfl,fun j hj=>by omega,Below.refl _ _⟩
 case round=>
  clear U O;obtain ⟨k,hk,rfl,T,Q⟩:=hrel;have Y:=hid T;have HB:=hid Q;obtain ⟨U,O⟩:=V.out wr Q;clear T Q
  by_cases hlt:k < d
  ·have ay:(k:Int) < (d:Int):=by omega
   have au:(0:Int)≤(k:Int):=by omega
   have ak:(madeCells #[.int .i64 0] d)[k]?=some (.int .i64 0):=by
    rw [←Array.getElem?_toList,toList_madeCells_one,List.getElem?_replicate,if_pos (by omega)]
   obtain ⟨f,t⟩:∃f,f=wr.alloc (.cells ((madeCells #[.int .i64 0] d).setIfInBounds k (.int .i64 1)) 3):=⟨_,rfl⟩
   have E:Sl 0 3 f (.slice (some ⟨wr.heap.size,0,none⟩) d d) (ZAB (axG d k 1)):=by rw [t]; exact ZP2 hlt (by omega) rfl
   have R:Below wr.heap.size wr f:=by rw [t]; exact ZAG _ _
   have g:Hid (Below W.heap.size W f):=HB.out.trans (R.mono HB.out.size)
   have an:Hid (∀X,Below f.heap.size f X→Calls Tryz.prog 75 #[.slice A rows.length y,.slice (some ⟨wr.heap.size,0,none⟩) d d] X fun e w'=>e=.returned (.bool (!(ZAY rows (axG d k 1)).isEmpty))∧Below X.heap.size X w'):=fun X hX=>N.out X (g.out.trans (hX.mono g.out.size)) k 1 _ _ (by decide) (E.below hX (Za4 _))
   have ar:Hid (∀X,Below f.heap.size f X→Calls Tryz.prog 49 #[.slice (some ⟨wr.heap.size,0,none⟩) d d] X fun e w'=>∃n o,e=.returned (.slice n d o)∧Sl 0 3 w' (.slice n d o) (ZAB (axG d k (-1)))∧Below X.heap.size X w'):=fun X hX=>by
    refine (ZBb 0 (axG d k 1) _ X (E.below hX (Za4 _)) (by rw [ZCz]; omega) (fun z hz=>by have:=ZOs (s:=1) (by decide) z hz; omega)).mono ?_
    rintro e w' ⟨u,rfl,ho,Q⟩;rw [ZP1,ZCz] at ho;obtain ⟨n,o,rfl⟩:=ZAE ho;exact ⟨n,o,rfl,Sl.own ho,Q⟩
   have HS:Hid (∀X,Below f.heap.size f X→X.cell? ⟨w.heap.size,1,none⟩=some (.slice A rows.length y)):=fun X hX=>(V.out X (g.out.trans (hX.mono g.out.size))).2
   have ah:=hid t
   have D:Hid (opI d rows k=((ZAY rows (axG d k 1)).isEmpty || (ZAY rows (axG d k (-1))).isEmpty)):=rfl
   have B:Hid (opI d rows k=true→opB d rows=true):=fun h=>by
    unfold opB;rw [List.any_eq_true];exact ⟨k,List.mem_range.2 hlt,h⟩
   have af:Hid (opI d rows k=false→∀j,j < k+1→opI d rows j=false):=fun h j hj=>by
    by_cases e:j=k
    ·rw [e]; exact h
    ·exact Y.out j (by omega)
   have ae:Hid (∀X n o,Below f.heap.size f X→Sl 0 3 X (.slice n d o) (ZAB (axG d k (-1)))→Calls Tryz.prog 75 #[.slice A rows.length y,.slice n d o] X fun e w'=>e=.returned (.bool (!(ZAY rows (axG d k (-1))).isEmpty))∧Below X.heap.size X w'):=fun X n o hX hg=>N.out X (g.out.trans (hX.mono g.out.size)) k (-1) n o (by decide) hg
   clear E R t;generalize (ZAY rows (axG d k 1)).isEmpty=b1 at *;generalize (ZAY rows (axG d k (-1))).isEmpty=b2 at *
   go_upto_region 6 with fail
   rw [←ah.out];clear ak
   refine wp_region_held_drew (S:=fun X=>Below f.heap.size f X∧X.cell? ⟨w.heap.size,1,none⟩=some (.slice A rows.length y)) (by kernel_rfl) ⟨(Below.refl _ _).drew,HS.out _ (Below.refl _ _).drew⟩ (fun hHeld=>?_)
   refine ZAA (i:=0) (d:=16) (v:=(.pointer (some ⟨w.heap.size,1,none⟩))) rfl rfl (by kernel_rfl) (by kernel_rfl) (by kernel_rfl) (fun _ _ _ h=>h) (.inl ⟨by rfl,by (intro m a; (try dsimp only at a); go_simp; (try (first | rfl | omega)))⟩) hHeld ?_
   simp only [Act.put,Za1,List.set]
   refine ZAA (i:=1) (d:=17) (v:=(.slice A rows.length y)) rfl rfl (by kernel_rfl) (by kernel_rfl) (by kernel_rfl) (fun _ _ _ h=>h) (.inl ⟨by rfl,by (intro m a; (try dsimp only at a); go_simp; (try (first | rfl | omega)))⟩) hHeld ?_
   simp only [Act.put,Za1,List.set]
   refine ZAA (i:=2) (d:=18) (v:=(.slice (some ⟨wr.heap.size,0,none⟩) d d)) rfl rfl (by kernel_rfl) (by kernel_rfl) (by kernel_rfl) (fun _ _ _ h=>h) (.inl ⟨by rfl,by (intro m a; (try dsimp only at a); go_simp; (try (first | rfl | omega)))⟩) hHeld ?_
   simp only [Act.put,Za1,List.set]
   refine wpAnyH_ready (rs:=[3]) (by kernel_rfl) (by simp) ?_
   refine ZAF (i:=3) rfl (by rfl) (fun K hK=>?_) AllReadyH.nil
   go_simp;refine (an.out f.drew (Below.refl _ _).drew).mono ?_;rintro e w5 ⟨rfl,x⟩;have b:Below f.heap.size f w5:=(Below.refl _ _).drew.trans x
   refine hK.out _ _ ⟨b,HS.out w5 b⟩ (fun hHeld=>?_)
   clear hK K
   cases b1
   ·skip
    refine ZAA (i:=4) (d:=20) (v:=(.bool false)) rfl rfl (by kernel_rfl) (by kernel_rfl) (by kernel_rfl) (fun _ _ _ h=>h) (.inl ⟨by rfl,by (intro m a; (try dsimp only at a); go_simp; (try (first | rfl | omega)))⟩) hHeld ?_
    simp only [Act.put,Za1,List.set]
    refine ZAA (i:=5) (d:=21) (v:=(.bool false)) rfl rfl (by kernel_rfl) (by kernel_rfl) (by kernel_rfl) (fun _ _ _ h=>h) (.inl ⟨by rfl,by (intro m a; (try dsimp only at a); go_simp; (try (first | rfl | omega)))⟩) hHeld ?_
    simp only [Act.put,Za1,List.set]
    refine ZAA (i:=6) (d:=22) (v:=(.pointer (some ⟨w.heap.size,1,none⟩))) rfl rfl (by kernel_rfl) (by kernel_rfl) (by kernel_rfl) (fun _ _ _ h=>h) (.inl ⟨by rfl,by (intro m a; (try dsimp only at a); go_simp; (try (first | rfl | omega)))⟩) hHeld ?_
    simp only [Act.put,Za1,List.set]
    refine ZAA (i:=7) (d:=23) (v:=(.slice A rows.length y)) rfl rfl (by kernel_rfl) (by kernel_rfl) (by kernel_rfl) (fun _ _ _ h=>h) (.inl ⟨by rfl,by (intro m a; (try dsimp only at a); go_simp; (try (first | rfl | omega)))⟩) hHeld ?_
    simp only [Act.put,Za1,List.set]
    refine ZAA (i:=8) (d:=24) (v:=(.slice (some ⟨wr.heap.size,0,none⟩) d d)) rfl rfl (by kernel_rfl) (by kernel_rfl) (by kernel_rfl) (fun _ _ _ h=>h) (.inl ⟨by rfl,by (intro m a; (try dsimp only at a); go_simp; (try (first | rfl | omega)))⟩) hHeld ?_
    simp only [Act.put,Za1,List.set]
    refine wpAnyH_ready (rs:=[9]) (by kernel_rfl) (by simp) ?_
    refine ZAF (i:=9) rfl (by rfl) (fun K hK=>?_) AllReadyH.nil
    go_simp;refine (ar.out w5 b).mono ?_;rintro e w6 ⟨n,o,rfl,M,J⟩;have c:Below f.heap.size f w6:=b.trans (J.mono b.size)
    refine hK.out _ _ ⟨c,HS.out w6 c⟩ (fun hHeld=>?_)
    clear hK K
    refine wpAnyH_ready (rs:=[10]) (by kernel_rfl) (by simp) ?_
    refine ZAF (i:=10) rfl (by rfl) (fun K hK=>?_) AllReadyH.nil
    go_simp;refine (ae.out w6 n o c M).mono ?_;rintro e w7 ⟨rfl,G⟩;have l:Below f.heap.size f w7:=c.trans (G.mono c.size)
    refine hK.out _ _ ⟨l,HS.out w7 l⟩ (fun hHeld=>?_)
    clear hK K;have aa:Hid (Below W.heap.size W w7):=g.out.trans (l.mono g.out.size)
    cases b2
    ·skip
     refine ZAA (i:=11) (d:=27) (v:=(.bool false)) rfl rfl (by kernel_rfl) (by kernel_rfl) (by kernel_rfl) (fun _ _ _ h=>h) (.inl ⟨by rfl,by (intro m a; (try dsimp only at a); go_simp; (try (first | rfl | omega)))⟩) hHeld ?_
     simp only [Act.put,Za1,List.set]
     refine ZAA (i:=12) (d:=28) (v:=(.bool false)) rfl rfl (by kernel_rfl) (by kernel_rfl) (by kernel_rfl) (fun _ _ _ h=>h) (.inl ⟨by rfl,by (intro m a; (try dsimp only at a); go_simp; (try (first | rfl | omega)))⟩) hHeld ?_
     simp only [Act.put,Za1,List.set]
     refine wpAnyH_done (by kernel_rfl) ?_ _
     have HN:Hid (∀j,j < k+1→opI d rows j=false):=af.out (by rw [D.out]; rfl)
     clear hHeld b x c J l G M U O;go_wp2
     exact ⟨⟨k+1,hlt,by go_num,HN.out,aa.out⟩,by simp [intOf]; omega⟩
    ·skip
     refine ZAA (i:=11) (d:=27) (v:=(.bool true)) rfl rfl (by kernel_rfl) (by kernel_rfl) (by kernel_rfl) (fun _ _ _ h=>h) (.inl ⟨by rfl,by (intro m a; (try dsimp only at a); go_simp; (try (first | rfl | omega)))⟩) hHeld ?_
     simp only [Act.put,Za1,List.set]
     refine ZAA (i:=12) (d:=28) (v:=(.bool true)) rfl rfl (by kernel_rfl) (by kernel_rfl) (by kernel_rfl) (fun _ _ _ h=>h) (.inl ⟨by rfl,by (intro m a; (try dsimp only at a); go_simp; (try (first | rfl | omega)))⟩) hHeld ?_
     simp only [Act.put,Za1,List.set]
     refine wpAnyH_done (by kernel_rfl) ?_ _
     have HT:Hid (opB d rows=true):=B.out (by rw [D.out]; rfl)
     clear hHeld b x c J l G M U O;go_wp2;go_ret
     exact ⟨by rw [HT.out]; rfl,p.out _ aa.out⟩
   ·skip
    refine ZAA (i:=4) (d:=20) (v:=(.bool true)) rfl rfl (by kernel_rfl) (by kernel_rfl) (by kernel_rfl) (fun _ _ _ h=>h) (.inl ⟨by rfl,by (intro m a; (try dsimp only at a); go_simp; (try (first | rfl | omega)))⟩) hHeld ?_
    simp only [Act.put,Za1,List.set]
    refine ZAA (i:=5) (d:=21) (v:=(.bool true)) rfl rfl (by kernel_rfl) (by kernel_rfl) (by kernel_rfl) (fun _ _ _ h=>h) (.inl ⟨by rfl,by (intro m a; (try dsimp only at a); go_simp; (try (first | rfl | omega)))⟩) hHeld ?_
    simp only [Act.put,Za1,List.set]
    refine ZAA (i:=6) (d:=22) (v:=undef) rfl rfl (by kernel_rfl) (by kernel_rfl) (by kernel_rfl) (fun _ _ _ h=>h) (.inr ⟨by rfl,rfl⟩) hHeld ?_
    simp only [Act.put,Za1,List.set]
    refine ZAA (i:=7) (d:=23) (v:=undef) rfl rfl (by kernel_rfl) (by kernel_rfl) (by kernel_rfl) (fun _ _ _ h=>h) (.inr ⟨by rfl,rfl⟩) hHeld ?_
    simp only [Act.put,Za1,List.set]
    refine ZAA (i:=8) (d:=24) (v:=undef) rfl rfl (by kernel_rfl) (by kernel_rfl) (by kernel_rfl) (fun _ _ _ h=>h) (.inr ⟨by rfl,rfl⟩) hHeld ?_
    simp only [Act.put,Za1,List.set]
    refine ZAA (i:=9) (d:=25) (v:=undef) rfl rfl (by kernel_rfl) (by kernel_rfl) (by kernel_rfl) (fun _ _ _ h=>h) (.inr ⟨by rfl,rfl⟩) hHeld ?_
    simp only [Act.put,Za1,List.set]
    refine ZAA (i:=10) (d:=26) (v:=undef) rfl rfl (by kernel_rfl) (by kernel_rfl) (by kernel_rfl) (fun _ _ _ h=>h) (.inr ⟨by rfl,rfl⟩) hHeld ?_
    simp only [Act.put,Za1,List.set]
    refine ZAA (i:=11) (d:=27) (v:=undef) rfl rfl (by kernel_rfl) (by kernel_rfl) (by kernel_rfl) (fun _ _ _ h=>h) (.inr ⟨by rfl,rfl⟩) hHeld ?_
    simp only [Act.put,Za1,List.set]
    refine ZAA (i:=12) (d:=28) (v:=(.bool true)) rfl rfl (by kernel_rfl) (by kernel_rfl) (by kernel_rfl) (fun _ _ _ h=>h) (.inl ⟨by rfl,by (intro m a; (try dsimp only at a); go_simp; (try (first | rfl | omega)))⟩) hHeld ?_
    simp only [Act.put,Za1,List.set]
    refine wpAnyH_done (by kernel_rfl) ?_ _
    have HT:Hid (opB d rows=true):=B.out (by rw [D.out]; rfl)
    have am:Hid (Below W.heap.size W w5):=g.out.trans (b.mono g.out.size);clear hHeld b x U O;go_wp2;go_ret
    exact ⟨by rw [HT.out]; rfl,p.out _ am.out⟩
  ·obtain rfl:k=d:=by omega
   have aq:Hid (opB k rows=false):=by
    show _=_
    unfold opB;rw [List.any_eq_false];intro j hj;rw [Y.out j (List.mem_range.1 hj)]
    decide
   go_wp2;go_ret
   exact ⟨by rw [aq.out]; rfl,p.out _ HB.out⟩
end Go.Proofs.YtkjkfceblmgogaaGreat
