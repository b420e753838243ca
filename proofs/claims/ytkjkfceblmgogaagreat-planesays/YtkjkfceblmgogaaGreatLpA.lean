import Derived.Test.YtkjkfceblmgogaaGreatWiA
set_option maxRecDepth 100000
set_option maxHeartbeats 1600000
namespace Go.Proofs.YtkjkfceblmgogaaGreat
open Go.RowKit Lin
attribute [local go_sem ↓] Go.wp_at_zero Go.wp_at_succ
def sdT(rows:List (List Int))(d:Nat)(y a:List Int)(k:Nat):Int:=sumN k fun i=>a.getD i 0*(rows.getD (y.getD i 0).toNat []).getD d 0
def sdL(rows:List (List Int))(d:Nat)(y a:List Int):Int:=sdT rows d y a y.length
structure WyOk(rows:List (List Int))(y a:List Int)(u:Int):Prop where
 len:a.length=y.length
 l3:y.length≤4
 mem:∀z∈y,0≤z∧z < (rows.length:Int)
 bd:∀z∈a,z.natAbs≤3840000
 ub:u.natAbs≤3840000
theorem ZAg{l:List (List Int)}{i:Nat}(h:i < l.length):l.getD i []∈l:=by simp [h]
theorem ZOg{rows:List (List Int)}{d:Nat}{y a:List Int}{u:Int}(h:WyOk rows y a u)(hx:RwE d rows):∀k,k≤y.length→(sdT rows d y a k).natAbs≤k*76800000∧(k < y.length→(a.getD k 0*(rows.getD (y.getD k 0).toNat []).getD d 0).natAbs≤76800000):=by
 have c:∀k,k < y.length→(a.getD k 0*(rows.getD (y.getD k 0).toNat []).getD d 0).natAbs≤76800000:=fun k b=>by
  have f:=h.bd _ (ZAj (l:=a) (i:=k) (by rw [h.len]; exact b))
  have m:=h.mem _ (ZAj (l:=y) (i:=k) b)
  have n:(y.getD k 0).toNat < rows.length:=by omega
  have g:=hx (rows.getD (y.getD k 0).toNat []) (ZAg n)
  have j:=g.2 _ (ZAj (l:=rows.getD (y.getD k 0).toNat []) (i:=d) (by rw [g.1]; omega))
  rw [Int.natAbs_mul]
  exact Zaa8 (Nat.mul_le_mul f j) (by decide)
 intro k
 induction k with
 | zero=>intro _; exact ⟨by simp [sdT,sumN],c 0⟩
 | succ k ih=>
  intro b;refine ⟨?_,c (k+1)⟩
  have f:=(ih (by omega)).1
  have m:=c k (by omega)
  have:=Int.natAbs_add_le (sdT rows d y a k) (a.getD k 0*(rows.getD (y.getD k 0).toNat []).getD d 0);unfold sdT at *;rw [sumN];omega
theorem ZI1{rows:List (List Int)}{d:Nat}{y a:List Int}{u:Int}(h:WyOk rows y a u)(hx:RwE d rows):(sdL rows d y a).natAbs≤307200000:=by
 have:=(ZOg h hx y.length (Za4 _)).1;have:=h.l3;unfold sdL;omega
theorem ZF9(d:Nat)(rows:List (List Int))(y a:List Int)(u:Int)(v:Value)(yo ao:Option Addr)(yc ac ny:Nat)(w:World){B0:Nat}(hv:Mat B0 27 3 w v rows)(hy:Sl 0 3 w (.slice yo ny yc) (ZAB y))(ha:Sl 0 3 w (.slice ao ny ac) (ZAB a))(hx:RwE d rows)(ho:WyOk rows y a u)(hny:ny=y.length) :
  Calls Tryz.prog 124 #[.agg #[.int .i64 d,v],.agg #[.slice yo ny yc,.slice ao ny ac,.int .i64 u]] w fun e w'=>e=.returned (.int .i64 (sdL rows d y a))∧Below w.heap.size w w':=by
 obtain ⟨L,J,Q,ar,ai⟩:=ZAD hv;subst Q;obtain ⟨G,z,j,x,t⟩:=ZCQ w d (.slice L rows.length J)
 obtain ⟨W,o⟩:∃W,W=G.alloc (.cells #[.slice yo ny yc,.slice ao ny ac,.int .i64 u] 101):=⟨_,rfl⟩
 have b:Below G.heap.size G W:=by rw [o]; exact ZAG _ _
 have p:W.heap[G.heap.size]?=some (.cells #[.slice yo ny yc,.slice ao ny ac,.int .i64 u] 101 (0,0)):=by rw [o]; exact ZAL _ _
 have D:Hid (∀X,Below W.heap.size W X→X.cell? ⟨w.heap.size+1,0,none⟩=some (.slice yo ny yc)∧X.cell? ⟨w.heap.size+1,1,none⟩=some (.slice ao ny ac)):=fun X hX=>by
  have N:=(hX.block G.heap.size (by rw [o,size_alloc]; omega)).trans p
  rw [x] at N
  exact ⟨by simp [World.cell?,N],by simp [World.cell?,N]⟩
 have U:Hid (∀X,Below W.heap.size W X→X.cell? ⟨w.heap.size,0,none⟩=some (.int .i64 d)∧X.cell? ⟨w.heap.size,1,none⟩=some (.slice L rows.length J)):=fun X hX=>t X (b.trans (hX.mono b.size))
 have c:Hid (∀X,Below W.heap.size W X→Below w.heap.size w X):=fun X hX=>j.trans ((b.trans (hX.mono b.size)).mono j.size)
 have R:Hid (∀X,Below W.heap.size W X→Mat B0 27 3 X (.slice L rows.length J) rows):=fun X hX=>hv.below (c.out X hX) (Za4 _)
 have Y:Hid (∀X,Below W.heap.size W X→Sl 0 3 X (.slice yo ny yc) (ZAB y)):=fun X hX=>hy.below (c.out X hX) (Za4 _)
 have V:Hid (∀X,Below W.heap.size W X→Sl 0 3 X (.slice ao ny ac) (ZAB a)):=fun X hX=>ha.below (c.out X hX) (Za4 _)
 have HX:=hid hx;have HO:=hid ho
 have T:Hid (W=(w.alloc (.cells #[.int .i64 d,.slice L rows.length J] 56)).alloc (.cells #[.slice yo ny yc,.slice ao ny ac,.int .i64 u] 101)):=by show _=_; rw [o,z]
 have A:Hid (∀k,k≤ny→(sdT rows d y a k).natAbs≤k*76800000∧(k < ny→(a.getD k 0*(rows.getD (y.getD k 0).toNat []).getD d 0).natAbs≤76800000)):=by rw [hny]; exact ZOg ho hx
 have h3:ny≤4:=by rw [hny]; exact ho.l3
 have S:Hid (a.length=ny):=by rw [hny]; exact ho.len
 have O:Hid (sdL rows d y a=sdT rows d y a ny):=by show _=_; rw [hny]; rfl
 have E:=hid hny;obtain ⟨k0,k1⟩:=D.out W (Below.refl _ _);clear hv hy ha hx ho z j x t o b p hny;go_enter Tryz.func124,Tryz.ntmps124
 go_upto_region 2 with fail
 rw [←T.out];go_wp2
 go_loopw [5,11] (fun s i X=>∃k:Nat,k≤ny∧i=.int .i64 k∧s=.int .i64 (sdT rows d y a k)∧Below W.heap.size W X) (fun _ i _=>ny-(intOf i).toNat)
 case atStart=>exact ⟨0,Za5 _,rfl,rfl,Below.refl _ _⟩
 case round=>
  clear k0 k1;obtain ⟨k,hk,rfl,rfl,hb⟩:=hrel;have m:=hid hb;clear hb
  by_cases hlt:k < ny
  ·obtain ⟨k0,k1⟩:=D.out wr m.out
   obtain ⟨c0,c1⟩:=U.out wr m.out
   obtain ⟨b1,o1,an,e1,_,m1⟩:=ZAK (Y.out wr m.out) (k:=k) (by rw [←E.out]; exact hlt)
   simp only [Za3] at e1;obtain ⟨rfl,-,rfl⟩:=e1
   obtain ⟨b2,o2,aj,e2,_,m2⟩:=ZAK (V.out wr m.out) (k:=k) (by rw [S.out]; exact hlt)
   simp only [Za3] at e2;obtain ⟨rfl,-,rfl⟩:=e2
   have r:=HO.out.mem _ (ZAj (l:=y) (i:=k) (by rw [←E.out]; exact hlt))
   have M:=(A.out k hk).1;have g:=(A.out k hk).2 hlt;have f:Hid (sdT rows d y a (k+1)=sdT rows d y a k+a.getD k 0*(rows.getD (y.getD k 0).toNat []).getD d 0):=rfl
   obtain ⟨q,hq⟩:∃q:Nat,y.getD k 0=(q:Int):=⟨(y.getD k 0).toNat,by omega⟩
   rw [hq] at m1 r g f
   rw [show ((q:Int)).toNat=q by omega] at g f
   have F:q < rows.length:=by omega
   obtain ⟨b3,o3,au,rv,e3,_,m3,B⟩:=ZAP (R.out wr m.out) F;simp only [Za3] at e3;obtain ⟨rfl,-,rfl⟩:=e3
   have n:=HX.out (rows.getD q []) (by simp [F])
   obtain ⟨b4,o4,am,e4,_,m4⟩:=ZAK B (k:=d) (by rw [n.1]; omega)
   subst e4;rw [n.1] at m3;clear B n hq;generalize sdT rows d y a k=s0 at *;generalize a.getD k 0=x1 at *;generalize (rows.getD q []).getD d 0=x2 at *
   have ah:wrap64 (x1*x2)=x1*x2:=IntWalk.wrap64_in _ ⟨by omega,by omega⟩
   have P:wrap64 (s0+x1*x2)=s0+x1*x2:=IntWalk.wrap64_in _ ⟨by omega,by omega⟩
   have ak:(k:Int) < (ny:Int):=by omega
   have af:(0:Int)≤(k:Int):=by omega
   have aq:(q:Int) < (rows.length:Int):=by omega
   have aa:(0:Int)≤(q:Int):=by omega
   have ag:(d:Int) < (d:Int)+1:=by omega
   have ae:(0:Int)≤(d:Int):=by omega
   clear M g r;go_wp2
   go_region
   go_wp2
   go_roundw
   case rel=>exact ⟨k+1,by omega,by go_num,by rw [f.out,P],m.out.drew⟩
   case measure=>simp [intOf]; omega
  ·obtain rfl:ny=k:=by omega
   go_wp2;go_ret
   exact ⟨by rw [O.out]; rfl,c.out _ m.out⟩
theorem ZNX(d:Nat)(rows:List (List Int))(y a y2 a2:List Int)(u u2:Int)(v:Value)(yo ao yo2 ao2:Option Addr)(yc ac yc2 ac2 ny ny2:Nat)(bx:Nat)(w:World){B0:Nat}(hv:Mat B0 27 3 w v rows)(hbx:w.heap[bx]?=some (.cells #[.int .i64 d,v] 56 (0,0)))
 (hy:Sl 0 3 w (.slice yo ny yc) (ZAB y))(ha:Sl 0 3 w (.slice ao ny ac) (ZAB a))(hy2:Sl 0 3 w (.slice yo2 ny2 yc2) (ZAB y2))(ha2:Sl 0 3 w (.slice ao2 ny2 ac2) (ZAB a2))(hx:RwE d rows)(ho:WyOk rows y a u)(ho2:WyOk rows y2 a2 u2)(hny:ny=y.length)(hny2:ny2=y2.length) :
  Calls Tryz.prog 141 #[.agg #[.slice yo ny yc,.slice ao ny ac,.int .i64 u],.agg #[.slice yo2 ny2 yc2,.slice ao2 ny2 ac2,.int .i64 u2],.pointer (some ⟨bx,0,none⟩)] w fun e w'=>e=.returned (.bool (decide (sdL rows d y a*u2 < sdL rows d y2 a2*u)))∧Below w.heap.size w w':=by
 obtain ⟨n,j⟩:∃n,n=w.alloc (.cells #[.slice yo ny yc,.slice ao ny ac,.int .i64 u] 101):=⟨_,rfl⟩
 obtain ⟨W,x⟩:∃W,W=n.alloc (.cells #[.slice yo2 ny2 yc2,.slice ao2 ny2 ac2,.int .i64 u2] 101):=⟨_,rfl⟩
 have r:Below w.heap.size w n:=by rw [j]; exact ZAG _ _
 have m:Below n.heap.size n W:=by rw [x]; exact ZAG _ _
 have t:n.heap.size=w.heap.size+1:=by rw [j]; exact size_alloc _ _
 have ag:W.heap.size=w.heap.size+2:=by rw [x,size_alloc,t]
 have F:n.heap[w.heap.size]?=some (.cells #[.slice yo ny yc,.slice ao ny ac,.int .i64 u] 101 (0,0)):=by rw [j]; exact ZAL _ _
 have B:W.heap[w.heap.size+1]?=some (.cells #[.slice yo2 ny2 yc2,.slice ao2 ny2 ac2,.int .i64 u2] 101 (0,0)):=by rw [x,←t]; exact ZAL _ _
 have c:Hid (∀X,Below W.heap.size W X→Below w.heap.size w X):=fun X hX=>r.trans ((m.trans (hX.mono m.size)).mono r.size)
 have D:=(Zaa3.1 hbx).1
 have s:Hid (∀X,Below W.heap.size W X→X.cell? ⟨bx,0,none⟩=some (.int .i64 d)∧X.cell? ⟨bx,1,none⟩=some v∧X.cell? ⟨w.heap.size,0,none⟩=some (.slice yo ny yc)∧X.cell? ⟨w.heap.size,1,none⟩=some (.slice ao ny ac)∧X.cell? ⟨w.heap.size,2,none⟩=some (.int .i64 u)∧X.cell? ⟨w.heap.size+1,0,none⟩=some (.slice yo2 ny2 yc2)∧X.cell? ⟨w.heap.size+1,1,none⟩=some (.slice ao2 ny2 ac2)∧X.cell? ⟨w.heap.size+1,2,none⟩=some (.int .i64 u2)):=fun X hX=>by
  have q0:=((c.out X hX).block bx D).trans hbx
  have q1:=(hX.block w.heap.size (by omega)).trans ((m.block w.heap.size (by omega)).trans F)
  have O:=(hX.block (w.heap.size+1) (by omega)).trans B
  exact ⟨by simp [World.cell?,q0],by simp [World.cell?,q0],by simp [World.cell?,q1],by simp [World.cell?,q1],by simp [World.cell?,q1],by simp [World.cell?,O],by simp [World.cell?,O],by simp [World.cell?,O]⟩
 have T:Hid (∀X,Below W.heap.size W X→Calls Tryz.prog 124 #[.agg #[.int .i64 d,v],.agg #[.slice yo ny yc,.slice ao ny ac,.int .i64 u]] X fun e w'=>e=.returned (.int .i64 (sdL rows d y a))∧Below X.heap.size X w'):=fun X hX=>
  ZF9 d rows y a u v yo ao yc ac ny X (hv.below (c.out X hX) (Za4 _)) (hy.below (c.out X hX) (Za4 _)) (ha.below (c.out X hX) (Za4 _)) hx ho hny
 have U:Hid (∀X,Below W.heap.size W X→Calls Tryz.prog 124 #[.agg #[.int .i64 d,v],.agg #[.slice yo2 ny2 yc2,.slice ao2 ny2 ac2,.int .i64 u2]] X fun e w'=>e=.returned (.int .i64 (sdL rows d y2 a2))∧Below X.heap.size X w'):=fun X hX=>
  ZF9 d rows y2 a2 u2 v yo2 ao2 yc2 ac2 ny2 X (hv.below (c.out X hX) (Za4 _)) (hy2.below (c.out X hX) (Za4 _)) (ha2.below (c.out X hX) (Za4 _)) hx ho2 hny2
 have V:Hid (W=(w.alloc (.cells #[.slice yo ny yc,.slice ao ny ac,.int .i64 u] 101)).alloc (.cells #[.slice yo2 ny2 yc2,.slice ao2 ny2 ac2,.int .i64 u2] 101)):=by show _=_; rw [x,j]
 have o:=ZI1 ho hx;have p:=ZI1 ho2 hx
 have P:(sdL rows d y a*u2).natAbs≤307200000*3840000:=by rw [Int.natAbs_mul]; exact Nat.mul_le_mul o ho2.ub
 have aa:(sdL rows d y2 a2*u).natAbs≤307200000*3840000:=by rw [Int.natAbs_mul]; exact Nat.mul_le_mul p ho.ub
 obtain ⟨J,A,z,R⟩:∃J A z,v=.slice J A z:=by obtain ⟨ro,rc,h,_⟩:=ZAD hv; exact ⟨_,_,_,h⟩
 clear hv hbx hy ha hy2 ha2 hx ho ho2 hny hny2 j x r m t F B D o p;generalize sdL rows d y a=s1 at *;generalize sdL rows d y2 a2=s2 at *
 have M:wrap64 (s1*u2)=s1*u2:=IntWalk.wrap64_in _ ⟨by omega,by omega⟩
 have Q:wrap64 (s2*u)=s2*u:=IntWalk.wrap64_in _ ⟨by omega,by omega⟩
 have af:IntKind.i64.wrap (s1*u2)=s1*u2:=by rw [IntWalk.i64_left]; exact M
 have ae:IntKind.i64.wrap (s2*u)=s2*u:=by rw [IntWalk.i64_left]; exact Q
 subst R;clear P aa;go_enter Tryz.func141,Tryz.ntmps141
 go_upto_region 1 with fail
 rw [←V.out]
 refine wp_region_held_drew (S:=fun X=>X.cell? ⟨bx,0,none⟩=some (.int .i64 d)∧X.cell? ⟨bx,1,none⟩=some (.slice J A z)∧X.cell? ⟨w.heap.size,0,none⟩=some (.slice yo ny yc)∧X.cell? ⟨w.heap.size,1,none⟩=some (.slice ao ny ac)∧X.cell? ⟨w.heap.size,2,none⟩=some (.int .i64 u)∧X.cell? ⟨w.heap.size+1,0,none⟩=some (.slice yo2 ny2 yc2)∧X.cell? ⟨w.heap.size+1,1,none⟩=some (.slice ao2 ny2 ac2)∧X.cell? ⟨w.heap.size+1,2,none⟩=some (.int .i64 u2)) (by kernel_rfl) (s.out W (Below.refl _ _)) (fun hHeld=>?_)
 refine ZAA (i:=0) (d:=6) (v:=(.agg #[.int .i64 d,.slice J A z])) rfl rfl (by kernel_rfl) (by kernel_rfl) (by kernel_rfl) (fun _ _ _ h=>h) (.inl ⟨by rfl,by (intro g b; (try dsimp only at b); go_simp; (try (first | rfl | omega)))⟩) hHeld ?_
 simp only [Act.put,Za1,List.set]
 refine ZAA (i:=1) (d:=7) (v:=(.agg #[.slice yo ny yc,.slice ao ny ac,.int .i64 u])) rfl rfl (by kernel_rfl) (by kernel_rfl) (by kernel_rfl) (fun _ _ _ h=>h) (.inl ⟨by rfl,by (intro g b; (try dsimp only at b); go_simp; (try (first | rfl | omega)))⟩) hHeld ?_
 simp only [Act.put,Za1,List.set]
 refine ZAA (i:=3) (d:=9) (v:=(.pointer (some ⟨w.heap.size+1,2,none⟩))) rfl rfl (by kernel_rfl) (by kernel_rfl) (by kernel_rfl) (fun _ _ _ h=>h) (.inl ⟨by rfl,by (intro g b; (try dsimp only at b); go_simp; (try (first | rfl | omega)))⟩) hHeld ?_
 simp only [Act.put,Za1,List.set]
 refine ZAA (i:=4) (d:=10) (v:=(.int .i64 u2)) rfl rfl (by kernel_rfl) (by kernel_rfl) (by kernel_rfl) (fun _ _ _ h=>h) (.inl ⟨by rfl,by (intro g b; (try dsimp only at b); go_simp; (try (first | rfl | omega)))⟩) hHeld ?_
 simp only [Act.put,Za1,List.set]
 refine ZAA (i:=6) (d:=12) (v:=(.agg #[.int .i64 d,.slice J A z])) rfl rfl (by kernel_rfl) (by kernel_rfl) (by kernel_rfl) (fun _ _ _ h=>h) (.inl ⟨by rfl,by (intro g b; (try dsimp only at b); go_simp; (try (first | rfl | omega)))⟩) hHeld ?_
 simp only [Act.put,Za1,List.set]
 refine ZAA (i:=7) (d:=13) (v:=(.agg #[.slice yo2 ny2 yc2,.slice ao2 ny2 ac2,.int .i64 u2])) rfl rfl (by kernel_rfl) (by kernel_rfl) (by kernel_rfl) (fun _ _ _ h=>h) (.inl ⟨by rfl,by (intro g b; (try dsimp only at b); go_simp; (try (first | rfl | omega)))⟩) hHeld ?_
 simp only [Act.put,Za1,List.set]
 refine ZAA (i:=9) (d:=15) (v:=(.pointer (some ⟨w.heap.size,2,none⟩))) rfl rfl (by kernel_rfl) (by kernel_rfl) (by kernel_rfl) (fun _ _ _ h=>h) (.inl ⟨by rfl,by (intro g b; (try dsimp only at b); go_simp; (try (first | rfl | omega)))⟩) hHeld ?_
 simp only [Act.put,Za1,List.set]
 refine ZAA (i:=10) (d:=16) (v:=(.int .i64 u)) rfl rfl (by kernel_rfl) (by kernel_rfl) (by kernel_rfl) (fun _ _ _ h=>h) (.inl ⟨by rfl,by (intro g b; (try dsimp only at b); go_simp; (try (first | rfl | omega)))⟩) hHeld ?_
 simp only [Act.put,Za1,List.set]
 refine wpAnyH_ready (rs:=[2]) (by kernel_rfl) (by simp) ?_
 refine ZAF (i:=2) rfl (by rfl) (fun K hK=>?_) AllReadyH.nil
 go_simp;refine (T.out W.drew (Below.refl _ _).drew).mono ?_;rintro e Y ⟨rfl,E⟩;have f:Below W.heap.size W Y:=(Below.refl _ _).drew.trans E
 refine hK.out _ _ (s.out Y f) (fun hHeld=>?_)
 clear hK K
 refine ZAA (i:=5) (d:=11) (v:=(.int .i64 (s1*u2))) rfl rfl (by kernel_rfl) (by kernel_rfl) (by kernel_rfl) (fun _ _ _ h=>h) (.inl ⟨by rfl,by (intro g b; (try dsimp only at b); go_simp; (try (first | rfl | omega)))⟩) hHeld ?_
 simp only [Act.put,Za1,List.set]
 refine wpAnyH_ready (rs:=[8]) (by kernel_rfl) (by simp) ?_
 refine ZAF (i:=8) rfl (by rfl) (fun K hK=>?_) AllReadyH.nil
 go_simp;refine (U.out Y f).mono ?_;rintro e L ⟨rfl,G⟩;have l:Below W.heap.size W L:=f.trans (G.mono f.size)
 refine hK.out _ _ (s.out L l) (fun hHeld=>?_)
 clear hK K
 refine ZAA (i:=11) (d:=17) (v:=(.int .i64 (s2*u))) rfl rfl (by kernel_rfl) (by kernel_rfl) (by kernel_rfl) (fun _ _ _ h=>h) (.inl ⟨by rfl,by (intro g b; (try dsimp only at b); go_simp; (try (first | rfl | omega)))⟩) hHeld ?_
 simp only [Act.put,Za1,List.set]
 refine ZAA (i:=12) (d:=18) (v:=(.bool (decide (s1*u2 < s2*u)))) rfl rfl (by kernel_rfl) (by kernel_rfl) (by kernel_rfl) (fun _ _ _ h=>h) (.inl ⟨by rfl,by (intro g b; (try dsimp only at b); go_simp; (try (first | rfl | omega)))⟩) hHeld ?_
 simp only [Act.put,Za1,List.set]
 refine ZAA (i:=13) (d:=5) (v:=(.bool (decide (s1*u2 < s2*u)))) rfl rfl (by kernel_rfl) (by kernel_rfl) (by kernel_rfl) (fun _ _ _ h=>h) (.inl ⟨by rfl,by (intro g b; (try dsimp only at b); go_simp; (try (first | rfl | omega)))⟩) hHeld ?_
 simp only [Act.put,Za1,List.set]
 refine wpAnyH_done (by kernel_rfl) ?_ _
 have N:Hid (Below w.heap.size w L):=c.out L l;clear hHeld f l E G;go_wp2;go_ret;exact ⟨rfl,N.out⟩
theorem ZGy(d:Nat)(rows:List (List Int))(g:List Int)(v gv:Value)(w:World){B0 B1:Nat}(hv:Mat B0 27 3 w v rows)(hg:Sl B1 3 w gv (ZAB g))(hc:CutF d rows)(hgl:g.length=d)(hgb:∀z∈g,z.natAbs≤20) :
  Calls Tryz.prog 140 #[.agg #[.int .i64 d,v],gv] w fun e w'=>e=.returned (.int .i64 (if ZDO d rows=true then 6 else 0))∧Below w.heap.size w w':=by
 obtain ⟨A,t,B,P,J⟩:=ZAD hv;obtain ⟨G,gc,p,_,_⟩:=ZAI hg;rw [hgl] at p;subst B p;obtain ⟨W,E,c,x,m⟩:=ZCQ w d (.slice A rows.length t);have D:=hid E
 have f:Hid (∀X,Below W.heap.size W X→Below w.heap.size w X):=fun X hX=>c.trans (hX.mono c.size)
 have i:=hid m
 have O:Hid (Calls Tryz.prog 45 #[.agg #[.int .i64 d,.slice A rows.length t]] W fun e w'=>e=.returned (.int .i64 0)∧Below W.heap.size W w'):=ZB7 d rows _ W ((hv.below c (Za4 _)).any (Za4 _)) hc
 have N:Hid (∀X,Below W.heap.size W X→Calls Tryz.prog 62 #[.slice G d gc,.int .i64 d,.int .i64 20] X fun e w'=>e=.returned (.int .i64 0)∧Below X.heap.size X w'):=fun X hX=>
  ZK0 _ g _ d X (hg.below (f.out X hX) (Za4 _)) (by rw [hgl]) (ZPZ hgb)
 have L:Hid (∀X,Below W.heap.size W X→Calls Tryz.prog 152 #[.agg #[.int .i64 d,.slice A rows.length t]] X fun e w'=>e=.returned (.tuple #[.bool (ZDO d rows),.int .i64 0])∧Below X.heap.size X w'):=fun X hX=>
  ZK1 d rows _ X ((hv.below (f.out X hX) (Za4 _)).any (Za4 _)) hc
 clear hv hg hc hgl hgb E c x m;obtain ⟨s,l⟩:=i.out W (Below.refl _ _);generalize ZDO d rows=eb at *;go_enter Tryz.func140,Tryz.ntmps140
 go_upto_region 1 with fail
 rw [←D.out]
 go_wp2_with fail
 refine O.out.mono ?_;rintro e F ⟨rfl,j⟩;have a:=hid j;clear j s l;obtain ⟨s,l⟩:=i.out F a.out
 go_wp2_with fail
 refine (N.out F a.out).mono ?_;rintro e y ⟨rfl,r⟩;have b:Hid (Below W.heap.size W y):=a.out.trans (r.mono a.out.size);clear r s l;obtain ⟨s,l⟩:=i.out y b.out
 go_wp2_with fail
 refine (L.out y b.out).mono ?_;rintro e M ⟨rfl,n⟩;have o:Hid (Below w.heap.size w M):=f.out _ (b.out.trans (n.mono b.out.size));clear n s l
 cases eb
 ·go_wp2
  go_ret;exact ⟨rfl,o.out⟩
 ·go_wp2
  go_ret;exact ⟨rfl,o.out⟩
theorem ZPa(w:World)(d:Nat)(v:Value):∃W,W=(w.alloc (.cells #[.int .i64 d,v] 56)).alloc (.cells #[.slice none 0 0,.slice none 0 0,.int .i64 0] 101)∧Below w.heap.size w W∧W.heap.size=w.heap.size+2∧W.heap[w.heap.size]?=some (.cells #[.int .i64 d,v] 56 (0,0))∧W.heap[w.heap.size+1]?=some (.cells #[.slice none 0 0,.slice none 0 0,.int .i64 0] 101 (0,0)):=by
 have b:=ZAG w (.cells #[.int .i64 d,v] 56);have a:=ZAG (w.alloc (.cells #[.int .i64 d,v] 56)) (.cells #[.slice none 0 0,.slice none 0 0,.int .i64 0] 101)
 refine ⟨_,rfl,b.trans (a.mono b.size),by rw [size_alloc,size_alloc],(a.block _ (by rw [size_alloc]; omega)).trans (ZAL _ _),?_⟩
 have:=ZAL (w.alloc (.cells #[.int .i64 d,v] 56)) (.cells #[.slice none 0 0,.slice none 0 0,.int .i64 0] 101);rw [size_alloc] at this;exact this
end Go.Proofs.YtkjkfceblmgogaaGreat
namespace Go.Proofs.YtkjkfceblmgogaaGreat
open Lin
theorem ZLE(l:List Int):(low l).map ((gc l:Int) * ·)=l:=by
 unfold low;rw [List.map_map]
 have:∀z∈l,(((gc l:Int) * ·)∘(· / (gc l:Int))) z=z:=fun z hz=>by
  show (gc l:Int)*(z / (gc l:Int))=z
  exact Int.mul_ediv_cancel' (gc_dvd hz)
 rw [List.map_congr_left this,List.map_id']
theorem ZDG{g:List Int}{t:List (List Int)}(h:ZBN g t=true):(ZAw g t).length=t.length+1∧(∀i,i < t.length+1→0 < V (ZAw g t) i)∧∀j,j < g.length→sv t (V (ZAw g t)) j=V (ZAw g t) t.length*V g j:=by
 unfold ZBN at h;rw [Bool.and_eq_true] at h;have c:=ZAy h.1
 have b:(ZAJ (t.length+1) (ZA0 g t)).length+1=t.length+1:=by simpa [ZAp] using h.1
 obtain ⟨_,d,_⟩:=ZBc b
 refine ⟨c,fun i hi=>?_,ZCt.1 d⟩
 have a:(ZAw g t).any ZE6=false:=by simpa using h.2
 have f:(ZAw g t).getD i 0∈ZAw g t:=ZAj (by unfold ZAw; rw [c]; exact hi)
 have:=List.any_eq_false.1 a _ f;simp only [ZE6,decide_eq_true_eq] at this
 show 0 < (ZAw g t).getD i 0
 omega
def wS(g:List Int)(t:List (List Int)):Int:=sv t (V (ZAw g t)) g.length
def wU(g:List Int)(t:List (List Int)):Int:=V (ZAw g t) t.length
theorem ZLF{g:List Int}{t:List (List Int)}(h:ZBN g t=true):0 < wU g t:=(ZDG h).2.1 _ (by omega)
theorem ZLG{g:List Int}{t:List (List Int)}(h:ZBN g t=true){a:Nat→Int}(hr:∀j,j < g.length→sv t a j=a t.length*V g j):wS g t*a t.length=sv t a g.length*wU g t:=by
 obtain ⟨b,s,p,c⟩:=ZES.1 h;obtain ⟨_,x,f⟩:=ZDG h;have o:=c _ f;have v:=c a hr
 have d:∀i,i < t.length+1→V (ZAw g t) i*a t.length=V (ZAw g t) t.length*a i:=fun i hi=>by
  have l:=o i t.length hi (by omega)
  have m:=v i t.length hi (by omega)
  have r:=s t.length (by omega)
  have n:b t.length*(V (ZAw g t) i*a t.length)=b t.length*(V (ZAw g t) t.length*a i):=by
   have:b t.length*(V (ZAw g t) i*a t.length)=(V (ZAw g t) i*b t.length)*a t.length:=by grind
   rw [this,l]
   have:b t.length*(V (ZAw g t) t.length*a i)=V (ZAw g t) t.length*(a i*b t.length):=by grind
   rw [this,m]; grind
  exact Int.eq_of_mul_eq_mul_left (by omega) n
 unfold wS wU;rw [ZF0,ZF0,←ZAT,←ZAT]
 refine ZAC fun i hi=>?_
 have:=d i (by omega)
 grind
theorem ZLH(d:Nat)(t:List (List Int))(a x:Nat→Int):dot d (sv t a) x=sumN t.length fun i=>a i*dot d (V (t.getD i [])) x:=by
 have h:=ZGq d x (t.map V) a;rw [ZAU]
 show dot d x (sm (t.map V) a)=_
 rw [h,Zab1]
 refine ZAC fun i hi=>?_
 have b:(t.map V).getD i (fun _=>0)=V (t.getD i []):=by simp [hi]
 rw [b,ZAU]
theorem ZLI{d:Nat}{rows t:List (List Int)}{x:Nat→Int}{w:Int}(hf:Fea d rows x w)(hs:∀r∈t,r∈rows){a:Nat→Int}(ha:∀i,i < t.length→0≤a i):dot d (sv t a) x≤sv t a d*w:=by
 rw [ZLH,ZF0,←ZAT]
 have:0≤sumN t.length fun i=>(a i*V (t.getD i []) d*w) + -(a i*dot d (V (t.getD i [])) x):=ZER fun i hi=>by
  have c:=hf.2 _ (hs (t.getD i []) (by simp [hi]))
  have b:=Int.mul_nonneg (ha i hi) (show 0≤V (t.getD i []) d*w-dot d (V (t.getD i [])) x by omega)
  have e:a i*V (t.getD i []) d*w + -(a i*dot d (V (t.getD i [])) x)=a i*(V (t.getD i []) d*w-dot d (V (t.getD i [])) x):=by grind
  omega
 rw [ZA9,ZBL] at this;omega
theorem ZHz{d:Nat}{t:List (List Int)}{a x:Nat→Int}{g:List Int}(hg:g.length=d)(hr:∀j,j < g.length→sv t a j=a t.length*V g j):dot d (sv t a) x=a t.length*dot d (V g) x:=by
 have:dot d (sv t a) x=dot d (fun j=>a t.length*V g j) x:=ZAa (fun i hi=>hr i (by omega)) fun _ _=>rfl
 rw [this];unfold dot;rw [←ZAV]
 exact ZAC fun i _=>by grind
theorem ZRr{d:Nat}{rows t:List (List Int)}{x:Nat→Int}{w:Int}{g:List Int}(hg:g.length=d)(hf:Fea d rows x w)(hs:∀r∈t,r∈rows)(hw:ZBN g t=true):dot d (V g) x*wU g t≤wS g t*w:=by
 obtain ⟨_,f,c⟩:=ZDG hw
 have b:=ZLI hf hs (a:=V (ZAw g t)) fun i hi=>Int.le_of_lt (f i (by omega))
 rw [ZHz hg c] at b;unfold wS wU;rw [hg,Int.mul_comm (dot d (V g) x)];exact b
theorem ZQo{d:Nat}{rows tb:List (List Int)}{g:List Int}(hg:g.length=d){x0:Nat→Int}{w0:Int}(hf:Fea d rows x0 w0)(hsb:tb.Sublist rows)(hwb:ZBN g tb=true)
 (hmin:∀t,t.Sublist rows→ZBN g t=true→wS g tb*wU g t≤wS g t*wU g tb) :
  ∃x w,Fea d rows x w∧dot d (V g) x*wU g tb=wS g tb*w∧∀v:Nat→Int,(∀r∈rows,dot d (V r) x=V r d*w→dot d (V r) v=0)→dot d (V g) v=0:=by
 have hU:=ZLF hwb
 have O:∀t:List (List Int),t.Sublist rows→∀w:Nat→Int,(∀i,i < t.length→0≤w i)→(∀j,j < g.length→sv t w j=0)→0≤sv t w g.length:=fun t ht w hw E=>by
  have D:=ZLI hf (fun r m=>ht.subset m) hw
  have F:dot d (sv t w) x0=0:=ZBQ fun i l=>E i (by omega)
  rw [F] at D;rw [hg]
  rcases Int.lt_or_le (sv t w d) 0 with h | h
  ·have:=Int.mul_neg_of_neg_of_pos h hf.1; omega
  ·exact h
 -- a place that has as much
 have aj:∃x w,Fea d rows x w∧wS g tb*w≤dot d (V g) x*wU g tb:=by
  obtain ⟨o,M⟩:∃o:List Int,o=((List.range d).map fun j=>-(wU g tb*V g j)) ++ [-(wS g tb)]:=⟨_,rfl⟩
  have v1:∀j,j < d→V o j=-(wU g tb*V g j):=fun j hj=>by
   rw [M]; unfold V
   rw [Za2,Za7 (by simpa using hj)]
   simp [hj]
  have v2:V o d=-(wS g tb):=by
   rw [M]; unfold V
   rw [Za2,Za8 (by simp)]; simp
  have ai:∀x,dot d (V o) x=-(wU g tb*dot d (V g) x):=fun x=>by
   unfold dot;rw [←ZAV,←ZBL]
   exact ZAC fun i l=>by rw [v1 i l]; grind
  cases he:ZDO d (o :: rows) with
  | false=>
   obtain ⟨x,w,hw,h⟩:=ZDZ.1 he
   refine ⟨x,w,⟨hw,fun r m=>h r (List.mem_cons_of_mem _ m)⟩,?_⟩
   have:=h o (List.mem_cons_self ..);rw [ai,v2] at this;have P:dot d (V g) x*wU g tb=wU g tb*dot d (V g) x:=Int.mul_comm _ _
   have e2 : -(wS g tb)*w=-(wS g tb*w):=by grind
   omega
  | true=>
   exfalso
   have ae:ZAY (o :: rows) (ZBg d)≠[]:=fun h=>by unfold ZDO at he; rw [h] at he; cases he
   obtain ⟨t,ag,aa⟩:=ZET.1 ae;obtain ⟨a,y,m,_⟩:=ZES.1 aa
   have r0:∀j,j < d→V (ZBg d) j=0:=fun j hj=>by simp [V,ZBg,show j < d+1 by omega,show ¬j=d by omega]
   have rd:V (ZBg d) d=-1:=by simp [V,ZBg]
   have hn:=y t.length (by omega)
   have E:∀j,j < d→sv t a j=0:=fun j hj=>by rw [m j (by rw [ZBD]; omega),r0 j hj]; omega
   have Y:sv t a d=-(a t.length):=by rw [m d (by rw [ZBD]; omega),rd]; omega
   have B:∀(t:List (List Int)) (a:Nat→Int),(∀r∈t,r∈rows)→(∀i,i < t.length→0≤a i)→(∀j,j < d→sv t a j=0)→sv t a d < 0→False:=fun t a ht ha E Y=>by
    have D:=ZLI hf ht ha
    have F:dot d (sv t a) x0=0:=ZBQ fun i l=>E i l
    rw [F] at D;have:=Int.mul_neg_of_neg_of_pos Y hf.1;omega
   rcases List.sublist_cons_iff.1 ag with hts1 | ⟨t1,rfl,hts1⟩
   ·exact B t a (fun r m=>hts1.subset m) (fun i l=>Int.le_of_lt (y i (by omega))) E (by omega)
   ·have T:=y 0 (by simp)
    have Q:∀j,sv t1 (fun i=>a (i+1)) j=sv (o :: t1) a j-a 0*V o j:=fun j=>by rw [ZF1]; omega
    have J:∀j,j < g.length→sv t1 (fun i=>if i=t1.length then a 0*wU g tb else a (i+1)) j=(a 0*wU g tb)*V g j:=fun j hj=>by
     rw [ZDD (b:=fun i=>a (i+1)) (fun i l=>by rw [if_neg (by omega)]),Q,E j (by omega),v1 j (by omega)]
     grind
    obtain ⟨c,p,k1,k2,k3,k4,k5⟩:=ZRq O t1.length t1 (fun i=>if i=t1.length then a 0*wU g tb else a (i+1)) (Za4 _) hts1 (fun i l=>by
      by_cases e:i=t1.length
      ·simp only [e,if_true]; exact Int.mul_pos T hU
      ·simp only [e,if_false]; exact y (i+1) (by simp; omega)) (fun j hj=>by simp only [if_true]; exact J j hj)
    simp only [if_true] at k5
    rw [ZDD (t:=t1) (b:=fun i=>a (i+1)) (fun i l=>by rw [if_neg (by omega)]),Q,hg,Y,v2] at k5
    have R:=ZLG k2 k4;have hm:=hmin c k1 k2
    have hA:=k3 c.length (by omega)
    have G:=ZLF k2;rw [hg] at R
    -- S U' <= S' U,S' A=s' U',s' a0 U <= (a0 S-n) A
    have P:wS g tb*wU g c*(p c.length*a 0)≤wS g c*wU g tb*(p c.length*a 0):=Int.mul_le_mul_of_nonneg_right hm (Int.le_of_lt (Int.mul_pos hA T))
    have e2:wS g c*wU g tb*(p c.length*a 0)=(wS g c*p c.length)*(wU g tb*a 0):=by grind
    rw [e2,R] at P
    have e3:sv c p d*wU g c*(wU g tb*a 0)=(sv c p d*(a 0*wU g tb))*wU g c:=by grind
    rw [e3] at P;have e4:=Int.mul_le_mul_of_nonneg_right k5 (Int.le_of_lt G)
    have e5:(-(a (o :: t1).length)-a 0 * -wS g tb)*p c.length*wU g c=wS g tb*wU g c*(p c.length*a 0)-a (o :: t1).length*(p c.length*wU g c):=by grind
    have e6:0 < a (o :: t1).length*(p c.length*wU g c):=Int.mul_pos hn (Int.mul_pos hA G);omega
 obtain ⟨x,w,z,ak⟩:=aj
 have an:=ZRr hg z (fun r m=>hsb.subset m) hwb
 have af:dot d (V g) x*wU g tb=wS g tb*w:=by omega
 obtain ⟨_,y,m⟩:=ZDG hwb
 -- all rows of the way are met
 have s:∀i,i < tb.length→dot d (V (tb.getD i [])) x=V (tb.getD i []) d*w:=by
  have L:sumN tb.length (fun i=>V (ZAw g tb) i*(V (tb.getD i []) d*w-dot d (V (tb.getD i [])) x))=0:=by
   have P:sumN tb.length (fun i=>V (ZAw g tb) i*(V (tb.getD i []) d*w-dot d (V (tb.getD i [])) x))=sumN tb.length (fun i=>V (ZAw g tb) i*V (tb.getD i []) d*w + -(V (ZAw g tb) i*dot d (V (tb.getD i [])) x)):=ZAC fun i _=>by grind
   rw [P,ZA9,ZBL,ZAT,←ZF0,←ZLH,ZHz hg m]
   have:sv tb (V (ZAw g tb)) d=wS g tb:=by unfold wS; rw [hg]
   rw [this];have:V (ZAw g tb) tb.length=wU g tb:=rfl;rw [this];have:=Int.mul_comm (wU g tb) (dot d (V g) x);omega
  have ah:∀i,i < tb.length→0≤V (ZAw g tb) i*(V (tb.getD i []) d*w-dot d (V (tb.getD i [])) x):=fun i l=>by
   have:=z.2 _ (hsb.subset (show tb.getD i []∈tb by simp [l]))
   exact Int.mul_nonneg (Int.le_of_lt (y i (by omega))) (by omega)
  have N:∀(n:Nat) (f:Nat→Int),(∀i,i < n→0≤f i)→sumN n f=0→∀i,i < n→f i=0:=by
   intro n
   induction n with
   | zero=>intro f _ _ i l; omega
   | succ n ih=>
    intro f X hs i l
    have D:=ZER (n:=n) (f:=f) fun i l=>X i (by omega)
    have F:=X n (by omega)
    have h3:sumN n f+f n=0:=hs
    by_cases e:i=n
    ·rw [e]; omega
    ·exact ih f (fun i l=>X i (by omega)) (by omega) i (by omega)
  intro i l;have:=N _ _ ah L i l
  have am:=y i (by omega)
  rcases Int.mul_eq_zero.1 this with h | h
  ·omega
  ·omega
 refine ⟨x,w,z,af,fun v hv=>?_⟩
 have D:wU g tb*dot d (V g) v=0:=by
  have:=ZHz (x:=v) hg m;rw [ZLH] at this
  have F:sumN tb.length (fun i=>V (ZAw g tb) i*dot d (V (tb.getD i [])) v)=0:=ZAd fun i l=>by
   rw [hv _ (hsb.subset (show tb.getD i []∈tb by simp [l])) (s i l),Int.mul_zero]
  rw [F] at this;exact this.symm
 rcases Int.mul_eq_zero.1 D with h | h
 ·omega
 ·exact h
end Go.Proofs.YtkjkfceblmgogaaGreat
