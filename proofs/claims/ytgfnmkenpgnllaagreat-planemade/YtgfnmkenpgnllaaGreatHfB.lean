import Derived.Test.YtgfnmkenpgnllaaGreatHf1
import Derived.Test.YtgfnmkenpgnllaaGreatWiA
set_option maxRecDepth 100000
set_option maxHeartbeats 1600000
namespace Go.Proofs.YtgfnmkenpgnllaaGreat
open Go.RowKit
attribute [local go_sem ↓] Go.wp_at_zero Go.wp_at_succ
def mtP(d:Nat)(t:List (List Int)):List Int:=if 0 < (ZAR (d+1) t).getD d 0 then (ZAR (d+1) t).map fun z=>-z else ZAR (d+1) t
def mtL(d:Nat)(t:List (List Int)):List Int:=ngR d (mtP d t)
def mtB(d:Nat)(t:List (List Int)):Bool:=ZAp (d+1) t && !((ZAR (d+1) t).getD d 0 == 0)
theorem ZLx{d:Nat}{t:List (List Int)}(h:ZAp (d+1) t=true):(mtP d t).length=d+1:=by
 unfold mtP
 split <;> simp [ZAx h]
theorem ZLy{B B' n:Nat}{e:TypeId}{w:World}{v:Value}{xs:List Value}(h:w.ownsRow B e 1 v n xs)(hB:B'≤B):w.ownsRow B' e 1 v n xs:=by
 obtain ⟨b,a⟩:=h;refine ⟨b,?_⟩
 rcases a with a | ⟨g,cap,cur,hu,hg,hr⟩
 ·exact .inl a
 ·exact .inr ⟨g,cap,cur,hu,Zaa8 hB hg,hr⟩
theorem ZG7(B d:Nat)(t:List (List Int))(v:Value)(w:World)(hx:Mx (d+1) 60 t)(hv:Mat B 22 3 w v t)(hm:t.length≤500)(hm0:1≤t.length) :
  Calls Tryz.prog 81 #[v,.int .i64 d] w fun e w'=>∃xo xl xc,e=.returned (.tuple #[.slice xo xl xc,.bool (mtB d t)])∧(mtB d t=true→xl=d+1∧Sl 0 3 w' (.slice xo xl xc) (ZAB (mtL d t))∧∃a,xo=some a∧w.heap.size≤a.block)∧Below w.heap.size w w':=by
 have h:=ZEN B (d+1) t v w hx hv hm hm0
 rw [show ((d+1:Nat):Int)=(d:Int)+1 by omega] at h
 have U:=hid h
 have m:Hid (∀z∈ZAR (d+1) t,z.natAbs≤1000000000000):=ZCN hx
 have au:=hx.c5;have R:Hid (ZAp (d+1) t=true→(ZAR (d+1) t).length=d+1):=ZAx
 have Y:Hid (mtL d t=ngR d (if 0 < (ZAR (d+1) t).getD d 0 then (ZAR (d+1) t).map (fun z=>-z) else ZAR (d+1) t)):=rfl
 have J:Hid (mtB d t=(ZAp (d+1) t && !((ZAR (d+1) t).getD d 0 == 0))):=rfl;obtain ⟨vo,vc,ae,_,_⟩:=ZAE hv;subst ae;clear h hx hv hm hm0;generalize mtL d t=L at *;generalize mtB d t=b at *;generalize ZAp (d+1) t=T at *;generalize ZAR (d+1) t=n at *;go_enter Tryz.func81,Tryz.ntmps81
 go_wp2_with fail
 refine U.out.mono ?_;rintro e A ⟨x,rfl,N,S⟩;have g:=hid S;clear U S
 cases T
 case false=>
  have j:Hid (b=false):=by show _=_; rw [J.out]; rfl
  obtain ⟨xo,xc,rfl⟩:=ZAD N;clear N;go_wp2
  exact bodyPost_ret (v:=.tuple #[.slice none 0 0,.bool false]) (by simp [results,Tryz.results81,go_sem]) rfl ⟨none,0,0,by rw [j.out],fun h=>(by rw [j.out] at h; cases h),g.out⟩
 case true=>
  have M:=R.out rfl;rw [M] at N;have s:=hid N
  obtain ⟨T,no,nc,O,az,D⟩:=ZAJ (Sl.own (B:=0) N) (k:=d) (by rw [M]; omega)
  rw [M] at O;subst O
  have af:=m.out (n.getD d 0) (ZAn (by rw [M]; omega))
  have o:=hid M
  have aA:(d:Int) < (d:Int)+1:=by omega
  have ar:(0:Int)≤(d:Int):=by omega
  clear N M
  by_cases h0:n.getD d 0=0
  ·have j:Hid (b=false):=by show _=_; rw [J.out,h0]; rfl
   rw [h0] at D;clear h0 af;go_wp2
   exact bodyPost_ret (v:=.tuple #[.slice none 0 0,.bool false]) (by simp [results,Tryz.results81,go_sem]) rfl ⟨none,0,0,by rw [j.out],fun h=>(by rw [j.out] at h; cases h),g.out⟩
  ·have am:Hid (b=true):=by show _=_; rw [J.out]; simp; simpa using h0
   have ay:(n.getD d 0 == 0)=false:=by simpa using h0
   by_cases hp:0 < n.getD d 0
   case' pos=>
    have r:Hid (L=ngR d (n.map fun z=>-z)):=by show _=_; rw [Y.out,if_pos hp]
    have ag:decide (0 < n.getD d 0)=true:=decide_eq_true hp
    have X:Hid (Calls Tryz.prog 54 #[.slice (some ⟨T,no,none⟩) (d+1) nc] A fun e w'=>∃u,e=.returned u∧w'.ownsRow A.heap.size 3 1 u (d+1) (ZAB (n.map fun z=>-z))∧Below A.heap.size A w'):=by
     have h:=ZBb 0 n (.slice (some ⟨T,no,none⟩) (d+1) nc) A (Sl.own s.out) (by rw [o.out]; omega) (fun z hz=>by have:=m.out z hz; omega)
     rw [o.out] at h;exact h
    generalize n.getD d 0=nd at *
    go_wp2_with fail
    refine X.out.mono ?_;rintro e E ⟨u,rfl,G,aa⟩
    obtain ⟨p,c⟩:∃p,p=n.map fun z=>-z:=⟨_,rfl⟩
    rw [←c] at r G
    have l:Hid (p.length=d+1):=by show _=_; rw [c,Zab1,o.out]
    have Q:Hid (∀z∈p,z.natAbs≤1000000000000):=fun z hz=>by
     rw [c] at hz;obtain ⟨y,hy,rfl⟩:=List.mem_map.1 hz;have:=m.out y hy; omega
    have P:Hid (E.ownsRow w.heap.size 3 1 u (d+1) (ZAB p)):=ZLy G g.out.size;have V:Hid (Below w.heap.size w E):=g.out.trans (aa.mono g.out.size);clear G aa D X s c
   case' neg=>
    have r:Hid (L=ngR d n):=by show _=_; rw [Y.out,if_neg hp]
    have ag:decide (0 < n.getD d 0)=false:=decide_eq_false hp
    obtain ⟨p,c⟩:∃p,p=n:=⟨_,rfl⟩
    obtain ⟨u,hu⟩:∃u,u=Value.slice (some (⟨T,no,none⟩:Addr)) (d+1) nc:=⟨_,rfl⟩
    have l:Hid (p.length=d+1):=by show _=_; rw [c]; exact o.out
    have Q:Hid (∀z∈p,z.natAbs≤1000000000000):=by rw [c]; exact m.out
    have P:Hid (A.ownsRow w.heap.size 3 1 u (d+1) (ZAB p)):=by rw [hu,c]; exact s.out
    have V:Hid (Below w.heap.size w A):=g.out;rw [←c] at r;generalize n.getD d 0=nd at *
    go_upto_region 6 with fail
    rw [←hu]
    obtain ⟨E,rfl⟩:∃E,E=A:=⟨_,rfl⟩
    clear D s c hu
   all_goals
    obtain ⟨gb,gc,F,hu,hg,f,hF,aj,an⟩:=ZIm P.out (by omega)
    subst hu
    have ca:=f.cell (i:=d) (by omega)
    have cf:=f.frozen d
    rw [hF d (by omega)] at ca
    have aq:=Q.out (p.getD d 0) (ZAn (by rw [l.out]; omega))
    have ah:Hid (Sl 0 3 (E.setCell ⟨gb,d,none⟩ (.int .i64 (-(p.getD d 0)))) (.slice (some ⟨gb,0,none⟩) (d+1) gc) (ZAB L)):=by
     rw [r.out]
     refine ZCw (f.set d _) (fun i hi=>?_) (ZEc l.out) aj an
     show (if i=d then Value.int .i64 (-(p.getD d 0)) else F i)=_
     rw [ZEd l.out hi]
     by_cases e:i=d
     ·rw [if_pos e,if_pos e]
     ·rw [if_neg e,if_neg e,hF i hi]
    have ak:Hid (Below w.heap.size w (E.setCell ⟨gb,d,none⟩ (.int .i64 (-(p.getD d 0))))):=V.out.setCell hg _;have ai:=hid hg;generalize p.getD d 0=z at *
    have aw:wrap64 (-z)=-z:=IntWalk.wrap64_in _ ⟨by omega,by omega⟩
    clear f hF;go_wp2
    exact bodyPost_ret (v:=.tuple #[.slice (some ⟨gb,0,none⟩) (d+1) gc,.bool true]) (by simp [results,Tryz.results81,go_sem]) rfl ⟨_,_,_,by rw [am.out],fun _=>⟨rfl,ah.out,_,rfl,ai.out⟩,ak.out⟩
def axG(d i:Nat)(s:Int):List Int:=(List.range d).map fun j=>if j=i then s else 0
theorem ZC0(d i:Nat)(s:Int):(axG d i s).length=d:=by simp [axG]
theorem ZPZ(d i:Nat):(axG d i 1).map (fun z=>-z)=axG d i (-1):=by
 unfold axG;rw [List.map_map]
 refine List.map_congr_left fun j _=>?_
 show -(if j=i then (1:Int) else 0)=_
 split <;> simp_all
theorem ZOT{d i:Nat}{s:Int}(hs:s.natAbs≤1):∀z∈axG d i s,z.natAbs≤1:=fun z hz=>by
 simp only [axG,List.mem_map] at hz;obtain ⟨j,_,rfl⟩:=hz
 split
 ·exact hs
 ·decide
def opI(d:Nat)(rows:List (List Int))(i:Nat):Bool:=(ZAZ rows (axG d i 1)).isEmpty || (ZAZ rows (axG d i (-1))).isEmpty
def opB(d:Nat)(rows:List (List Int)):Bool:=(List.range d).any (opI d rows)
theorem ZPa{w:World}{d k:Nat}(hk:k < d)(hd:d≤100){o:Obj}(ho:o=.cells ((madeCells #[.int .i64 0] d).setIfInBounds k (.int .i64 1)) 3):Sl 0 3 (w.alloc o) (.slice (some ⟨w.heap.size,0,none⟩) d d) (ZAB (axG d k 1)):=by
 subst ho;have b:=ZAM w (.cells ((madeCells #[.int .i64 0] d).setIfInBounds k (.int .i64 1)) 3)
 have a:(w.alloc (.cells ((madeCells #[.int .i64 0] d).setIfInBounds k (.int .i64 1)) 3)).rowIs w.heap.size 3 d (fun j=>if j=k then .int .i64 1 else .int .i64 0):=by
  refine ⟨_,b,?_,fun i hi=>?_⟩
  ·simp only [Array.size_setIfInBounds]
   rw [←Array.length_toList,toList_madeCells_one]; simp
  ·rw [Array.getElem?_setIfInBounds]
   by_cases e:k=i
   ·subst e
    have c:k < (madeCells #[.int .i64 0] d).size:=by rw [←Array.length_toList,toList_madeCells_one]; simpa using hk
    simp [c]
   ·rw [if_neg e,←Array.getElem?_toList,toList_madeCells_one]
    simp [hi,show ¬i=k from fun h=>e h.symm]
 refine Sl.row' a (by unfold maxLen; omega) (by simp [ZAB,axG]) (fun i hi=>?_)
 rw [ZAa _ _ (by rw [ZC0]; exact hi)]
 by_cases e:i=k
 ·subst e; simp [axG,hi]
 ·simp [axG,hi,e]
theorem ZLz(d:Nat)(rows:List (List Int))(v:Value)(w:World)(hv:Mat 0 22 3 w v rows)(hc:CutOk d rows) :
  Calls Tryz.prog 52 #[.agg #[.int .i64 d,v]] w fun e w'=>e=.returned (.bool (opB d rows))∧Below w.heap.size w w':=by
 obtain ⟨A,y,ag,aw,aA⟩:=ZAE hv;subst ag;obtain ⟨W,hW,J,ai,D⟩:=ZCS w d (.slice A rows.length y);have af:=hid hW
 have t:Hid (∀X,Below W.heap.size W X→Below w.heap.size w X):=fun X hX=>J.trans (hX.mono J.size)
 have V:=hid D
 have aa:Hid (∀X,Below W.heap.size W X→∀(i:Nat) (s:Int) (go:Option Addr) (gc:Nat),s.natAbs≤1→Sl 0 3 X (.slice go d gc) (ZAB (axG d i s))→Calls Tryz.prog 80 #[.slice A rows.length y,.slice go d gc] X fun e w'=>e=.returned (.bool (!(ZAZ rows (axG d i s)).isEmpty))∧Below X.heap.size X w'):=fun X hX i s go gc hs hg=>
  ZH7 rows (axG d i s) _ _ X (hv.below (t.out X hX) (Za4 _)) hg (fun r hr=>⟨by rw [ZC0,hc.len r hr]; omega,fun z hz=>by have:=hc.bd r hr z hz; omega⟩) (fun z hz=>by have:=ZOT hs z hz; omega) (by rw [ZC0]; exact hc.d1) (by rw [ZC0]; have:=hc.d3; omega) (by have:=hc.n12; omega)
 have ay:=hc.d1;have aB:=hc.d3
 have az:=run_make_row' (P:=Tryz.prog) 22 3 (.int .i64 0) 8 Tryz.underlying22 Tryz.info3 rfl .i64 .i64 d (by omega) (by omega)
 obtain ⟨Y,Q⟩:=D W (Below.refl _ _);clear hv hc hW J ai D;go_enter Tryz.func52,Tryz.ntmps52
 go_upto_region 1 with fail
 rw [←af.out];go_wp2
 go_loopw [7] (fun i X=>∃k:Nat,k≤d∧i=.int .i64 k∧(∀j,j < k→opI d rows j=false)∧Below W.heap.size W X) (fun i _=>d-(intOf i).toNat)
 case atStart=>exact ⟨0,Za5 _,rfl,fun j hj=>by omega,Below.refl _ _⟩
 case round=>
  clear Y Q;obtain ⟨k,hk,rfl,O,U⟩:=hrel;have T:=hid O;have HB:=hid U;obtain ⟨Y,Q⟩:=V.out wr U;clear O U
  by_cases hlt:k < d
  ·have aC:(k:Int) < (d:Int):=by omega
   have au:(0:Int)≤(k:Int):=by omega
   have am:(madeCells #[.int .i64 0] d)[k]?=some (.int .i64 0):=by
    rw [←Array.getElem?_toList,toList_madeCells_one,List.getElem?_replicate,if_pos (by omega)]
   obtain ⟨f,p⟩:∃f,f=wr.alloc (.cells ((madeCells #[.int .i64 0] d).setIfInBounds k (.int .i64 1)) 3):=⟨_,rfl⟩
   have F:Sl 0 3 f (.slice (some ⟨wr.heap.size,0,none⟩) d d) (ZAB (axG d k 1)):=by rw [p]; exact ZPa hlt (by omega) rfl
   have R:Below wr.heap.size wr f:=by rw [p]; exact ZAG _ _
   have g:Hid (Below W.heap.size W f):=HB.out.trans (R.mono HB.out.size)
   have ae:Hid (∀X,Below f.heap.size f X→Calls Tryz.prog 80 #[.slice A rows.length y,.slice (some ⟨wr.heap.size,0,none⟩) d d] X fun e w'=>e=.returned (.bool (!(ZAZ rows (axG d k 1)).isEmpty))∧Below X.heap.size X w'):=fun X hX=>aa.out X (g.out.trans (hX.mono g.out.size)) k 1 _ _ (by decide) (F.below hX (Za4 _))
   have aq:Hid (∀X,Below f.heap.size f X→Calls Tryz.prog 54 #[.slice (some ⟨wr.heap.size,0,none⟩) d d] X fun e w'=>∃n o,e=.returned (.slice n d o)∧Sl 0 3 w' (.slice n d o) (ZAB (axG d k (-1)))∧Below X.heap.size X w'):=fun X hX=>by
    refine (ZBb 0 (axG d k 1) _ X (F.below hX (Za4 _)) (by rw [ZC0]; omega) (fun z hz=>by have:=ZOT (s:=1) (by decide) z hz; omega)).mono ?_
    rintro e w' ⟨u,rfl,ho,U⟩;rw [ZPZ,ZC0] at ho;obtain ⟨n,o,rfl⟩:=ZAD ho;exact ⟨n,o,rfl,Sl.own ho,U⟩
   have HS:Hid (∀X,Below f.heap.size f X→X.cell? ⟨w.heap.size,1,none⟩=some (.slice A rows.length y)):=fun X hX=>(V.out X (g.out.trans (hX.mono g.out.size))).2
   have ar:=hid p
   have E:Hid (opI d rows k=((ZAZ rows (axG d k 1)).isEmpty || (ZAZ rows (axG d k (-1))).isEmpty)):=rfl
   have B:Hid (opI d rows k=true→opB d rows=true):=fun h=>by
    unfold opB;rw [List.any_eq_true];exact ⟨k,List.mem_range.2 hlt,h⟩
   have aj:Hid (opI d rows k=false→∀j,j < k+1→opI d rows j=false):=fun h j hj=>by
    by_cases e:j=k
    ·rw [e]; exact h
    ·exact T.out j (by omega)
   have an:Hid (∀X n o,Below f.heap.size f X→Sl 0 3 X (.slice n d o) (ZAB (axG d k (-1)))→Calls Tryz.prog 80 #[.slice A rows.length y,.slice n d o] X fun e w'=>e=.returned (.bool (!(ZAZ rows (axG d k (-1))).isEmpty))∧Below X.heap.size X w'):=fun X n o hX hg=>aa.out X (g.out.trans (hX.mono g.out.size)) k (-1) n o (by decide) hg
   clear F R p;generalize (ZAZ rows (axG d k 1)).isEmpty=b1 at *;generalize (ZAZ rows (axG d k (-1))).isEmpty=b2 at *
   go_upto_region 6 with fail
   rw [←ar.out];clear am
   refine wp_region_held_drew (S:=fun X=>Below f.heap.size f X∧X.cell? ⟨w.heap.size,1,none⟩=some (.slice A rows.length y)) (by kernel_rfl) ⟨(Below.refl _ _).drew,HS.out _ (Below.refl _ _).drew⟩ (fun hHeld=>?_)
   refine ZAA (i:=0) (d:=16) (v:=(.pointer (some ⟨w.heap.size,1,none⟩))) rfl rfl (by kernel_rfl) (by kernel_rfl) (by kernel_rfl) (fun _ _ _ h=>h) (.inl ⟨by rfl,by (intro m a; (try dsimp only at a); go_simp; (try (first | rfl | omega)))⟩) hHeld ?_
   simp only [Act.put,Za1,List.set]
   refine ZAA (i:=1) (d:=17) (v:=(.slice A rows.length y)) rfl rfl (by kernel_rfl) (by kernel_rfl) (by kernel_rfl) (fun _ _ _ h=>h) (.inl ⟨by rfl,by (intro m a; (try dsimp only at a); go_simp; (try (first | rfl | omega)))⟩) hHeld ?_
   simp only [Act.put,Za1,List.set]
   refine ZAA (i:=2) (d:=18) (v:=(.slice (some ⟨wr.heap.size,0,none⟩) d d)) rfl rfl (by kernel_rfl) (by kernel_rfl) (by kernel_rfl) (fun _ _ _ h=>h) (.inl ⟨by rfl,by (intro m a; (try dsimp only at a); go_simp; (try (first | rfl | omega)))⟩) hHeld ?_
   simp only [Act.put,Za1,List.set]
   refine wpAnyH_ready (rs:=[3]) (by kernel_rfl) (by simp) ?_
   refine ZAF (i:=3) rfl (by rfl) (fun K hK=>?_) AllReadyH.nil
   go_simp;refine (ae.out f.drew (Below.refl _ _).drew).mono ?_;rintro e w5 ⟨rfl,x⟩;have b:Below f.heap.size f w5:=(Below.refl _ _).drew.trans x
   refine hK.out _ _ ⟨b,HS.out w5 b⟩ (fun hHeld=>?_)
   clear hK K
   cases b1
   ·skip
    refine ZAA (i:=4) (d:=20) (v:=(.bool false)) rfl rfl (by kernel_rfl) (by kernel_rfl) (by kernel_rfl) (fun _ _ _ h=>h) (.inl ⟨by rfl,by (intro m a; (try dsimp only at a); go_simp; (try (first | rfl | omega)))⟩) hHeld ?_
    simp only [Act.put,Za1,List.set]
    refine ZAA (i:=5) (d:=21) (v:=(.bool false)) rfl rfl (by kernel_rfl) (by kernel_rfl) (by kernel_rfl) (fun _ _ _ h=>h) (.inl ⟨by rfl,by (intro m a; (try dsimp only at a); go_simp; (try (first | rfl | omega)))⟩) hHeld ?_
    simp only [Act.put,Za1,List.set]
    refine ZAA (i:=6) (d:=22) (v:=(.pointer (some ⟨w.heap.size,1,none⟩))) rfl rfl (by kernel_rfl) (by kernel_rfl) (by kernel_rfl) (fun _ _ _ h=>h) (.inl ⟨by rfl,by (intro m a; (try dsimp only at a); go_simp; (try (first | rfl | omega)))⟩) hHeld ?_
    simp only [Act.put,Za1,List.set]
    refine ZAA (i:=7) (d:=23) (v:=(.slice A rows.length y)) rfl rfl (by kernel_rfl) (by kernel_rfl) (by kernel_rfl) (fun _ _ _ h=>h) (.inl ⟨by rfl,by (intro m a; (try dsimp only at a); go_simp; (try (first | rfl | omega)))⟩) hHeld ?_
    simp only [Act.put,Za1,List.set]
    refine ZAA (i:=8) (d:=24) (v:=(.slice (some ⟨wr.heap.size,0,none⟩) d d)) rfl rfl (by kernel_rfl) (by kernel_rfl) (by kernel_rfl) (fun _ _ _ h=>h) (.inl ⟨by rfl,by (intro m a; (try dsimp only at a); go_simp; (try (first | rfl | omega)))⟩) hHeld ?_
    simp only [Act.put,Za1,List.set]
    refine wpAnyH_ready (rs:=[9]) (by kernel_rfl) (by simp) ?_
    refine ZAF (i:=9) rfl (by rfl) (fun K hK=>?_) AllReadyH.nil
    go_simp;refine (aq.out w5 b).mono ?_;rintro e w6 ⟨n,o,rfl,G,M⟩;have c:Below f.heap.size f w6:=b.trans (M.mono b.size)
    refine hK.out _ _ ⟨c,HS.out w6 c⟩ (fun hHeld=>?_)
    clear hK K
    refine wpAnyH_ready (rs:=[10]) (by kernel_rfl) (by simp) ?_
    refine ZAF (i:=10) rfl (by rfl) (fun K hK=>?_) AllReadyH.nil
    go_simp;refine (an.out w6 n o c G).mono ?_;rintro e w7 ⟨rfl,L⟩;have l:Below f.heap.size f w7:=c.trans (L.mono c.size)
    refine hK.out _ _ ⟨l,HS.out w7 l⟩ (fun hHeld=>?_)
    clear hK K;have N:Hid (Below W.heap.size W w7):=g.out.trans (l.mono g.out.size)
    cases b2
    ·skip
     refine ZAA (i:=11) (d:=27) (v:=(.bool false)) rfl rfl (by kernel_rfl) (by kernel_rfl) (by kernel_rfl) (fun _ _ _ h=>h) (.inl ⟨by rfl,by (intro m a; (try dsimp only at a); go_simp; (try (first | rfl | omega)))⟩) hHeld ?_
     simp only [Act.put,Za1,List.set]
     refine ZAA (i:=12) (d:=28) (v:=(.bool false)) rfl rfl (by kernel_rfl) (by kernel_rfl) (by kernel_rfl) (fun _ _ _ h=>h) (.inl ⟨by rfl,by (intro m a; (try dsimp only at a); go_simp; (try (first | rfl | omega)))⟩) hHeld ?_
     simp only [Act.put,Za1,List.set]
     refine wpAnyH_done (by kernel_rfl) ?_ _
     have HN:Hid (∀j,j < k+1→opI d rows j=false):=aj.out (by rw [E.out]; rfl)
     clear hHeld b x c M l L G Y Q;go_wp2
     exact ⟨⟨k+1,hlt,by go_num,HN.out,N.out⟩,by simp [intOf]; omega⟩
    ·skip
     refine ZAA (i:=11) (d:=27) (v:=(.bool true)) rfl rfl (by kernel_rfl) (by kernel_rfl) (by kernel_rfl) (fun _ _ _ h=>h) (.inl ⟨by rfl,by (intro m a; (try dsimp only at a); go_simp; (try (first | rfl | omega)))⟩) hHeld ?_
     simp only [Act.put,Za1,List.set]
     refine ZAA (i:=12) (d:=28) (v:=(.bool true)) rfl rfl (by kernel_rfl) (by kernel_rfl) (by kernel_rfl) (fun _ _ _ h=>h) (.inl ⟨by rfl,by (intro m a; (try dsimp only at a); go_simp; (try (first | rfl | omega)))⟩) hHeld ?_
     simp only [Act.put,Za1,List.set]
     refine wpAnyH_done (by kernel_rfl) ?_ _
     have HT:Hid (opB d rows=true):=B.out (by rw [E.out]; rfl)
     clear hHeld b x c M l L G Y Q;go_wp2;go_ret
     exact ⟨by rw [HT.out]; rfl,t.out _ N.out⟩
   ·skip
    refine ZAA (i:=4) (d:=20) (v:=(.bool true)) rfl rfl (by kernel_rfl) (by kernel_rfl) (by kernel_rfl) (fun _ _ _ h=>h) (.inl ⟨by rfl,by (intro m a; (try dsimp only at a); go_simp; (try (first | rfl | omega)))⟩) hHeld ?_
    simp only [Act.put,Za1,List.set]
    refine ZAA (i:=5) (d:=21) (v:=(.bool true)) rfl rfl (by kernel_rfl) (by kernel_rfl) (by kernel_rfl) (fun _ _ _ h=>h) (.inl ⟨by rfl,by (intro m a; (try dsimp only at a); go_simp; (try (first | rfl | omega)))⟩) hHeld ?_
    simp only [Act.put,Za1,List.set]
    refine ZAA (i:=6) (d:=22) (v:=undef) rfl rfl (by kernel_rfl) (by kernel_rfl) (by kernel_rfl) (fun _ _ _ h=>h) (.inr ⟨by rfl,rfl⟩) hHeld ?_
    simp only [Act.put,Za1,List.set]
    refine ZAA (i:=7) (d:=23) (v:=undef) rfl rfl (by kernel_rfl) (by kernel_rfl) (by kernel_rfl) (fun _ _ _ h=>h) (.inr ⟨by rfl,rfl⟩) hHeld ?_
    simp only [Act.put,Za1,List.set]
    refine ZAA (i:=8) (d:=24) (v:=undef) rfl rfl (by kernel_rfl) (by kernel_rfl) (by kernel_rfl) (fun _ _ _ h=>h) (.inr ⟨by rfl,rfl⟩) hHeld ?_
    simp only [Act.put,Za1,List.set]
    refine ZAA (i:=9) (d:=25) (v:=undef) rfl rfl (by kernel_rfl) (by kernel_rfl) (by kernel_rfl) (fun _ _ _ h=>h) (.inr ⟨by rfl,rfl⟩) hHeld ?_
    simp only [Act.put,Za1,List.set]
    refine ZAA (i:=10) (d:=26) (v:=undef) rfl rfl (by kernel_rfl) (by kernel_rfl) (by kernel_rfl) (fun _ _ _ h=>h) (.inr ⟨by rfl,rfl⟩) hHeld ?_
    simp only [Act.put,Za1,List.set]
    refine ZAA (i:=11) (d:=27) (v:=undef) rfl rfl (by kernel_rfl) (by kernel_rfl) (by kernel_rfl) (fun _ _ _ h=>h) (.inr ⟨by rfl,rfl⟩) hHeld ?_
    simp only [Act.put,Za1,List.set]
    refine ZAA (i:=12) (d:=28) (v:=(.bool true)) rfl rfl (by kernel_rfl) (by kernel_rfl) (by kernel_rfl) (fun _ _ _ h=>h) (.inl ⟨by rfl,by (intro m a; (try dsimp only at a); go_simp; (try (first | rfl | omega)))⟩) hHeld ?_
    simp only [Act.put,Za1,List.set]
    refine wpAnyH_done (by kernel_rfl) ?_ _
    have HT:Hid (opB d rows=true):=B.out (by rw [E.out]; rfl)
    have ak:Hid (Below W.heap.size W w5):=g.out.trans (b.mono g.out.size);clear hHeld b x Y Q;go_wp2;go_ret
    exact ⟨by rw [HT.out]; rfl,t.out _ ak.out⟩
  ·obtain rfl:k=d:=by omega
   have ah:Hid (opB k rows=false):=by
    show _=_
    unfold opB;rw [List.any_eq_false];intro j hj;rw [T.out j (List.mem_range.1 hj)]
    decide
   go_wp2;go_ret
   exact ⟨by rw [ah.out]; rfl,t.out _ HB.out⟩
end Go.Proofs.YtgfnmkenpgnllaaGreat
