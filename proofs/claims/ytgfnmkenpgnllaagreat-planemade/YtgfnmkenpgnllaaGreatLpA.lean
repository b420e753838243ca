import Derived.Test.YtgfnmkenpgnllaaGreatWiA
set_option maxRecDepth 100000
set_option maxHeartbeats 1600000
namespace Go.Proofs.YtgfnmkenpgnllaaGreat
open Go.RowKit Lin
attribute [local go_sem ↓] Go.wp_at_zero Go.wp_at_succ
def sdT(rows:List (List Int))(d:Nat)(y a:List Int)(k:Nat):Int:=sumN k fun i=>a.getD i 0*(rows.getD (y.getD i 0).toNat []).getD d 0
def sdL(rows:List (List Int))(d:Nat)(y a:List Int):Int:=sdT rows d y a y.length
structure WyOk(rows:List (List Int))(y a:List Int)(u:Int):Prop where
 len:a.length=y.length
 l3:y.length≤3
 mem:∀z∈y,0≤z∧z < (rows.length:Int)
 bd:∀z∈a,z.natAbs≤1296000
 ub:u.natAbs≤1296000
theorem ZAT{l:List (List Int)}{i:Nat}(h:i < l.length):l.getD i []∈l:=by simp [h]
theorem ZOH{rows:List (List Int)}{d:Nat}{y a:List Int}{u:Int}(h:WyOk rows y a u)(hx:RwE d rows):∀k,k≤y.length→(sdT rows d y a k).natAbs≤k*25920000∧(k < y.length→(a.getD k 0*(rows.getD (y.getD k 0).toNat []).getD d 0).natAbs≤25920000):=by
 have b:∀k,k < y.length→(a.getD k 0*(rows.getD (y.getD k 0).toNat []).getD d 0).natAbs≤25920000:=fun k c=>by
  have f:=h.bd _ (ZAn (l:=a) (i:=k) (by rw [h.len]; exact c))
  have n:=h.mem _ (ZAn (l:=y) (i:=k) c)
  have j:(y.getD k 0).toNat < rows.length:=by omega
  have g:=hx (rows.getD (y.getD k 0).toNat []) (ZAT j)
  have m:=g.2 _ (ZAn (l:=rows.getD (y.getD k 0).toNat []) (i:=d) (by rw [g.1]; omega))
  rw [Int.natAbs_mul]
  exact Zaa8 (Nat.mul_le_mul f m) (by decide)
 intro k
 induction k with
 | zero=>intro _; exact ⟨by simp [sdT,sumN],b 0⟩
 | succ k ih=>
  intro c;refine ⟨?_,b (k+1)⟩
  have f:=(ih (by omega)).1
  have n:=b k (by omega)
  have:=Int.natAbs_add_le (sdT rows d y a k) (a.getD k 0*(rows.getD (y.getD k 0).toNat []).getD d 0);unfold sdT at *;rw [sumN];omega
theorem ZIo{rows:List (List Int)}{d:Nat}{y a:List Int}{u:Int}(h:WyOk rows y a u)(hx:RwE d rows):(sdL rows d y a).natAbs≤77760000:=by
 have:=(ZOH h hx y.length (Za4 _)).1;have:=h.l3;unfold sdL;omega
theorem ZF2(d:Nat)(rows:List (List Int))(y a:List Int)(u:Int)(v:Value)(yo ao:Option Addr)(yc ac ny:Nat)(w:World)(hv:Mat 0 22 3 w v rows)(hy:Sl 0 3 w (.slice yo ny yc) (ZAB y))(ha:Sl 0 3 w (.slice ao ny ac) (ZAB a))(hx:RwE d rows)(ho:WyOk rows y a u)(hny:ny=y.length) :
  Calls Tryz.prog 129 #[.agg #[.int .i64 d,v],.agg #[.slice yo ny yc,.slice ao ny ac,.int .i64 u]] w fun e w'=>e=.returned (.int .i64 (sdL rows d y a))∧Below w.heap.size w w':=by
 obtain ⟨L,J,O,ah,ak⟩:=ZAE hv;subst O;obtain ⟨t,G,g,p,r⟩:=ZCS w d (.slice L rows.length J)
 obtain ⟨W,z⟩:∃W,W=t.alloc (.cells #[.slice yo ny yc,.slice ao ny ac,.int .i64 u] 105):=⟨_,rfl⟩
 have b:Below t.heap.size t W:=by rw [z]; exact ZAG _ _
 have F:W.heap[t.heap.size]?=some (.cells #[.slice yo ny yc,.slice ao ny ac,.int .i64 u] 105 (0,0)):=by rw [z]; exact ZAM _ _
 have A:Hid (∀X,Below W.heap.size W X→X.cell? ⟨w.heap.size+1,0,none⟩=some (.slice yo ny yc)∧X.cell? ⟨w.heap.size+1,1,none⟩=some (.slice ao ny ac)):=fun X hX=>by
  have U:=(hX.block t.heap.size (by rw [z,size_alloc]; omega)).trans F
  rw [p] at U
  exact ⟨by simp [World.cell?,U],by simp [World.cell?,U]⟩
 have Y:Hid (∀X,Below W.heap.size W X→X.cell? ⟨w.heap.size,0,none⟩=some (.int .i64 d)∧X.cell? ⟨w.heap.size,1,none⟩=some (.slice L rows.length J)):=fun X hX=>r X (b.trans (hX.mono b.size))
 have c:Hid (∀X,Below W.heap.size W X→Below w.heap.size w X):=fun X hX=>g.trans ((b.trans (hX.mono b.size)).mono g.size)
 have T:Hid (∀X,Below W.heap.size W X→Mat 0 22 3 X (.slice L rows.length J) rows):=fun X hX=>hv.below (c.out X hX) (Za4 _)
 have P:Hid (∀X,Below W.heap.size W X→Sl 0 3 X (.slice yo ny yc) (ZAB y)):=fun X hX=>hy.below (c.out X hX) (Za4 _)
 have N:Hid (∀X,Below W.heap.size W X→Sl 0 3 X (.slice ao ny ac) (ZAB a)):=fun X hX=>ha.below (c.out X hX) (Za4 _)
 have HX:=hid hx;have HO:=hid ho
 have M:Hid (W=(w.alloc (.cells #[.int .i64 d,.slice L rows.length J] 61)).alloc (.cells #[.slice yo ny yc,.slice ao ny ac,.int .i64 u] 105)):=by show _=_; rw [z,G]
 have o:Hid (∀k,k≤ny→(sdT rows d y a k).natAbs≤k*25920000∧(k < ny→(a.getD k 0*(rows.getD (y.getD k 0).toNat []).getD d 0).natAbs≤25920000)):=by rw [hny]; exact ZOH ho hx
 have h3:ny≤3:=by rw [hny]; exact ho.l3
 have S:Hid (a.length=ny):=by rw [hny]; exact ho.len
 have V:Hid (sdL rows d y a=sdT rows d y a ny):=by show _=_; rw [hny]; rfl
 have E:=hid hny;obtain ⟨k0,k1⟩:=A.out W (Below.refl _ _);clear hv hy ha hx ho G g p r z b F hny;go_enter Tryz.func129,Tryz.ntmps129
 go_upto_region 2 with fail
 rw [←M.out];go_wp2
 go_loopw [5,11] (fun s i X=>∃k:Nat,k≤ny∧i=.int .i64 k∧s=.int .i64 (sdT rows d y a k)∧Below W.heap.size W X) (fun _ i _=>ny-(intOf i).toNat)
 case atStart=>exact ⟨0,Za5 _,rfl,rfl,Below.refl _ _⟩
 case round=>
  clear k0 k1;obtain ⟨k,hk,rfl,rfl,hb⟩:=hrel;have m:=hid hb;clear hb
  by_cases hlt:k < ny
  ·obtain ⟨k0,k1⟩:=A.out wr m.out
   obtain ⟨c0,c1⟩:=Y.out wr m.out
   obtain ⟨b1,o1,aq,e1,_,m1⟩:=ZAJ (P.out wr m.out) (k:=k) (by rw [←E.out]; exact hlt)
   simp only [Za3] at e1;obtain ⟨rfl,-,rfl⟩:=e1
   obtain ⟨b2,o2,aj,e2,_,m2⟩:=ZAJ (N.out wr m.out) (k:=k) (by rw [S.out]; exact hlt)
   simp only [Za3] at e2;obtain ⟨rfl,-,rfl⟩:=e2
   have D:=HO.out.mem _ (ZAn (l:=y) (i:=k) (by rw [←E.out]; exact hlt))
   have Q:=(o.out k hk).1;have n:=(o.out k hk).2 hlt;have f:Hid (sdT rows d y a (k+1)=sdT rows d y a k+a.getD k 0*(rows.getD (y.getD k 0).toNat []).getD d 0):=rfl
   obtain ⟨q,hq⟩:∃q:Nat,y.getD k 0=(q:Int):=⟨(y.getD k 0).toNat,by omega⟩
   rw [hq] at m1 D n f
   rw [show ((q:Int)).toNat=q by omega] at n f
   have x:q < rows.length:=by omega
   obtain ⟨b3,o3,an,rv,e3,_,m3,B⟩:=ZAP (T.out wr m.out) x;simp only [Za3] at e3;obtain ⟨rfl,-,rfl⟩:=e3
   have j:=HX.out (rows.getD q []) (by simp [x])
   obtain ⟨b4,o4,ai,e4,_,m4⟩:=ZAJ B (k:=d) (by rw [j.1]; omega)
   subst e4;rw [j.1] at m3;clear B j hq;generalize sdT rows d y a k=s0 at *;generalize a.getD k 0=x1 at *;generalize (rows.getD q []).getD d 0=x2 at *
   have am:wrap64 (x1*x2)=x1*x2:=IntWalk.wrap64_in _ ⟨by omega,by omega⟩
   have R:wrap64 (s0+x1*x2)=s0+x1*x2:=IntWalk.wrap64_in _ ⟨by omega,by omega⟩
   have ar:(k:Int) < (ny:Int):=by omega
   have af:(0:Int)≤(k:Int):=by omega
   have ag:(q:Int) < (rows.length:Int):=by omega
   have aa:(0:Int)≤(q:Int):=by omega
   have au:(d:Int) < (d:Int)+1:=by omega
   have ae:(0:Int)≤(d:Int):=by omega
   clear Q n D;go_wp2
   go_region
   go_wp2
   go_roundw
   case rel=>exact ⟨k+1,by omega,by go_num,by rw [f.out,R],m.out.drew⟩
   case measure=>simp [intOf]; omega
  ·obtain rfl:ny=k:=by omega
   go_wp2;go_ret
   exact ⟨by rw [V.out]; rfl,c.out _ m.out⟩
theorem ZNF(d:Nat)(rows:List (List Int))(y a y2 a2:List Int)(u u2:Int)(v:Value)(yo ao yo2 ao2:Option Addr)(yc ac yc2 ac2 ny ny2:Nat)(bx:Nat)(w:World)(hv:Mat 0 22 3 w v rows)(hbx:w.heap[bx]?=some (.cells #[.int .i64 d,v] 61 (0,0)))
 (hy:Sl 0 3 w (.slice yo ny yc) (ZAB y))(ha:Sl 0 3 w (.slice ao ny ac) (ZAB a))(hy2:Sl 0 3 w (.slice yo2 ny2 yc2) (ZAB y2))(ha2:Sl 0 3 w (.slice ao2 ny2 ac2) (ZAB a2))(hx:RwE d rows)(ho:WyOk rows y a u)(ho2:WyOk rows y2 a2 u2)(hny:ny=y.length)(hny2:ny2=y2.length) :
  Calls Tryz.prog 146 #[.agg #[.slice yo ny yc,.slice ao ny ac,.int .i64 u],.agg #[.slice yo2 ny2 yc2,.slice ao2 ny2 ac2,.int .i64 u2],.pointer (some ⟨bx,0,none⟩)] w fun e w'=>e=.returned (.bool (decide (sdL rows d y a*u2 < sdL rows d y2 a2*u)))∧Below w.heap.size w w':=by
 obtain ⟨p,j⟩:∃p,p=w.alloc (.cells #[.slice yo ny yc,.slice ao ny ac,.int .i64 u] 105):=⟨_,rfl⟩
 obtain ⟨W,z⟩:∃W,W=p.alloc (.cells #[.slice yo2 ny2 yc2,.slice ao2 ny2 ac2,.int .i64 u2] 105):=⟨_,rfl⟩
 have s:Below w.heap.size w p:=by rw [j]; exact ZAG _ _
 have m:Below p.heap.size p W:=by rw [z]; exact ZAG _ _
 have t:p.heap.size=w.heap.size+1:=by rw [j]; exact size_alloc _ _
 have ag:W.heap.size=w.heap.size+2:=by rw [z,size_alloc,t]
 have F:p.heap[w.heap.size]?=some (.cells #[.slice yo ny yc,.slice ao ny ac,.int .i64 u] 105 (0,0)):=by rw [j]; exact ZAM _ _
 have G:W.heap[w.heap.size+1]?=some (.cells #[.slice yo2 ny2 yc2,.slice ao2 ny2 ac2,.int .i64 u2] 105 (0,0)):=by rw [z,←t]; exact ZAM _ _
 have f:Hid (∀X,Below W.heap.size W X→Below w.heap.size w X):=fun X hX=>s.trans ((m.trans (hX.mono m.size)).mono s.size)
 have B:=(Zaa3.1 hbx).1
 have r:Hid (∀X,Below W.heap.size W X→X.cell? ⟨bx,0,none⟩=some (.int .i64 d)∧X.cell? ⟨bx,1,none⟩=some v∧X.cell? ⟨w.heap.size,0,none⟩=some (.slice yo ny yc)∧X.cell? ⟨w.heap.size,1,none⟩=some (.slice ao ny ac)∧X.cell? ⟨w.heap.size,2,none⟩=some (.int .i64 u)∧X.cell? ⟨w.heap.size+1,0,none⟩=some (.slice yo2 ny2 yc2)∧X.cell? ⟨w.heap.size+1,1,none⟩=some (.slice ao2 ny2 ac2)∧X.cell? ⟨w.heap.size+1,2,none⟩=some (.int .i64 u2)):=fun X hX=>by
  have q0:=((f.out X hX).block bx B).trans hbx
  have q1:=(hX.block w.heap.size (by omega)).trans ((m.block w.heap.size (by omega)).trans F)
  have Q:=(hX.block (w.heap.size+1) (by omega)).trans G
  exact ⟨by simp [World.cell?,q0],by simp [World.cell?,q0],by simp [World.cell?,q1],by simp [World.cell?,q1],by simp [World.cell?,q1],by simp [World.cell?,Q],by simp [World.cell?,Q],by simp [World.cell?,Q]⟩
 have O:Hid (∀X,Below W.heap.size W X→Calls Tryz.prog 129 #[.agg #[.int .i64 d,v],.agg #[.slice yo ny yc,.slice ao ny ac,.int .i64 u]] X fun e w'=>e=.returned (.int .i64 (sdL rows d y a))∧Below X.heap.size X w'):=fun X hX=>
  ZF2 d rows y a u v yo ao yc ac ny X (hv.below (f.out X hX) (Za4 _)) (hy.below (f.out X hX) (Za4 _)) (ha.below (f.out X hX) (Za4 _)) hx ho hny
 have T:Hid (∀X,Below W.heap.size W X→Calls Tryz.prog 129 #[.agg #[.int .i64 d,v],.agg #[.slice yo2 ny2 yc2,.slice ao2 ny2 ac2,.int .i64 u2]] X fun e w'=>e=.returned (.int .i64 (sdL rows d y2 a2))∧Below X.heap.size X w'):=fun X hX=>
  ZF2 d rows y2 a2 u2 v yo2 ao2 yc2 ac2 ny2 X (hv.below (f.out X hX) (Za4 _)) (hy2.below (f.out X hX) (Za4 _)) (ha2.below (f.out X hX) (Za4 _)) hx ho2 hny2
 have M:Hid (W=(w.alloc (.cells #[.slice yo ny yc,.slice ao ny ac,.int .i64 u] 105)).alloc (.cells #[.slice yo2 ny2 yc2,.slice ao2 ny2 ac2,.int .i64 u2] 105)):=by show _=_; rw [z,j]
 have o:=ZIo ho hx;have n:=ZIo ho2 hx
 have R:(sdL rows d y a*u2).natAbs≤77760000*1296000:=by rw [Int.natAbs_mul]; exact Nat.mul_le_mul o ho2.ub
 have U:(sdL rows d y2 a2*u).natAbs≤77760000*1296000:=by rw [Int.natAbs_mul]; exact Nat.mul_le_mul n ho.ub
 obtain ⟨D,A,x,N⟩:∃D A x,v=.slice D A x:=by obtain ⟨ro,rc,h,_⟩:=ZAE hv; exact ⟨_,_,_,h⟩
 clear hv hbx hy ha hy2 ha2 hx ho ho2 hny hny2 j z s m t F G B o n;generalize sdL rows d y a=s1 at *;generalize sdL rows d y2 a2=s2 at *
 have aa:wrap64 (s1*u2)=s1*u2:=IntWalk.wrap64_in _ ⟨by omega,by omega⟩
 have V:wrap64 (s2*u)=s2*u:=IntWalk.wrap64_in _ ⟨by omega,by omega⟩
 have af:IntKind.i64.wrap (s1*u2)=s1*u2:=by rw [IntWalk.i64_left]; exact aa
 have ae:IntKind.i64.wrap (s2*u)=s2*u:=by rw [IntWalk.i64_left]; exact V
 subst N;clear R U;go_enter Tryz.func146,Tryz.ntmps146
 go_upto_region 1 with fail
 rw [←M.out]
 refine wp_region_held_drew (S:=fun X=>X.cell? ⟨bx,0,none⟩=some (.int .i64 d)∧X.cell? ⟨bx,1,none⟩=some (.slice D A x)∧X.cell? ⟨w.heap.size,0,none⟩=some (.slice yo ny yc)∧X.cell? ⟨w.heap.size,1,none⟩=some (.slice ao ny ac)∧X.cell? ⟨w.heap.size,2,none⟩=some (.int .i64 u)∧X.cell? ⟨w.heap.size+1,0,none⟩=some (.slice yo2 ny2 yc2)∧X.cell? ⟨w.heap.size+1,1,none⟩=some (.slice ao2 ny2 ac2)∧X.cell? ⟨w.heap.size+1,2,none⟩=some (.int .i64 u2)) (by kernel_rfl) (r.out W (Below.refl _ _)) (fun hHeld=>?_)
 refine ZAA (i:=0) (d:=6) (v:=(.agg #[.int .i64 d,.slice D A x])) rfl rfl (by kernel_rfl) (by kernel_rfl) (by kernel_rfl) (fun _ _ _ h=>h) (.inl ⟨by rfl,by (intro l b; (try dsimp only at b); go_simp; (try (first | rfl | omega)))⟩) hHeld ?_
 simp only [Act.put,Za1,List.set]
 refine ZAA (i:=1) (d:=7) (v:=(.agg #[.slice yo ny yc,.slice ao ny ac,.int .i64 u])) rfl rfl (by kernel_rfl) (by kernel_rfl) (by kernel_rfl) (fun _ _ _ h=>h) (.inl ⟨by rfl,by (intro l b; (try dsimp only at b); go_simp; (try (first | rfl | omega)))⟩) hHeld ?_
 simp only [Act.put,Za1,List.set]
 refine ZAA (i:=3) (d:=9) (v:=(.pointer (some ⟨w.heap.size+1,2,none⟩))) rfl rfl (by kernel_rfl) (by kernel_rfl) (by kernel_rfl) (fun _ _ _ h=>h) (.inl ⟨by rfl,by (intro l b; (try dsimp only at b); go_simp; (try (first | rfl | omega)))⟩) hHeld ?_
 simp only [Act.put,Za1,List.set]
 refine ZAA (i:=4) (d:=10) (v:=(.int .i64 u2)) rfl rfl (by kernel_rfl) (by kernel_rfl) (by kernel_rfl) (fun _ _ _ h=>h) (.inl ⟨by rfl,by (intro l b; (try dsimp only at b); go_simp; (try (first | rfl | omega)))⟩) hHeld ?_
 simp only [Act.put,Za1,List.set]
 refine ZAA (i:=6) (d:=12) (v:=(.agg #[.int .i64 d,.slice D A x])) rfl rfl (by kernel_rfl) (by kernel_rfl) (by kernel_rfl) (fun _ _ _ h=>h) (.inl ⟨by rfl,by (intro l b; (try dsimp only at b); go_simp; (try (first | rfl | omega)))⟩) hHeld ?_
 simp only [Act.put,Za1,List.set]
 refine ZAA (i:=7) (d:=13) (v:=(.agg #[.slice yo2 ny2 yc2,.slice ao2 ny2 ac2,.int .i64 u2])) rfl rfl (by kernel_rfl) (by kernel_rfl) (by kernel_rfl) (fun _ _ _ h=>h) (.inl ⟨by rfl,by (intro l b; (try dsimp only at b); go_simp; (try (first | rfl | omega)))⟩) hHeld ?_
 simp only [Act.put,Za1,List.set]
 refine ZAA (i:=9) (d:=15) (v:=(.pointer (some ⟨w.heap.size,2,none⟩))) rfl rfl (by kernel_rfl) (by kernel_rfl) (by kernel_rfl) (fun _ _ _ h=>h) (.inl ⟨by rfl,by (intro l b; (try dsimp only at b); go_simp; (try (first | rfl | omega)))⟩) hHeld ?_
 simp only [Act.put,Za1,List.set]
 refine ZAA (i:=10) (d:=16) (v:=(.int .i64 u)) rfl rfl (by kernel_rfl) (by kernel_rfl) (by kernel_rfl) (fun _ _ _ h=>h) (.inl ⟨by rfl,by (intro l b; (try dsimp only at b); go_simp; (try (first | rfl | omega)))⟩) hHeld ?_
 simp only [Act.put,Za1,List.set]
 refine wpAnyH_ready (rs:=[2]) (by kernel_rfl) (by simp) ?_
 refine ZAF (i:=2) rfl (by rfl) (fun K hK=>?_) AllReadyH.nil
 go_simp;refine (O.out W.drew (Below.refl _ _).drew).mono ?_;rintro e P ⟨rfl,E⟩;have c:Below W.heap.size W P:=(Below.refl _ _).drew.trans E
 refine hK.out _ _ (r.out P c) (fun hHeld=>?_)
 clear hK K
 refine ZAA (i:=5) (d:=11) (v:=(.int .i64 (s1*u2))) rfl rfl (by kernel_rfl) (by kernel_rfl) (by kernel_rfl) (fun _ _ _ h=>h) (.inl ⟨by rfl,by (intro l b; (try dsimp only at b); go_simp; (try (first | rfl | omega)))⟩) hHeld ?_
 simp only [Act.put,Za1,List.set]
 refine wpAnyH_ready (rs:=[8]) (by kernel_rfl) (by simp) ?_
 refine ZAF (i:=8) rfl (by rfl) (fun K hK=>?_) AllReadyH.nil
 go_simp;refine (T.out P c).mono ?_;rintro e L ⟨rfl,J⟩;have g:Below W.heap.size W L:=c.trans (J.mono c.size)
 refine hK.out _ _ (r.out L g) (fun hHeld=>?_)
 clear hK K
 refine ZAA (i:=11) (d:=17) (v:=(.int .i64 (s2*u))) rfl rfl (by kernel_rfl) (by kernel_rfl) (by kernel_rfl) (fun _ _ _ h=>h) (.inl ⟨by rfl,by (intro l b; (try dsimp only at b); go_simp; (try (first | rfl | omega)))⟩) hHeld ?_
 simp only [Act.put,Za1,List.set]
 refine ZAA (i:=12) (d:=18) (v:=(.bool (decide (s1*u2 < s2*u)))) rfl rfl (by kernel_rfl) (by kernel_rfl) (by kernel_rfl) (fun _ _ _ h=>h) (.inl ⟨by rfl,by (intro l b; (try dsimp only at b); go_simp; (try (first | rfl | omega)))⟩) hHeld ?_
 simp only [Act.put,Za1,List.set]
 refine ZAA (i:=13) (d:=5) (v:=(.bool (decide (s1*u2 < s2*u)))) rfl rfl (by kernel_rfl) (by kernel_rfl) (by kernel_rfl) (fun _ _ _ h=>h) (.inl ⟨by rfl,by (intro l b; (try dsimp only at b); go_simp; (try (first | rfl | omega)))⟩) hHeld ?_
 simp only [Act.put,Za1,List.set]
 refine wpAnyH_done (by kernel_rfl) ?_ _
 have Y:Hid (Below w.heap.size w L):=f.out L g;clear hHeld c g E J;go_wp2;go_ret;exact ⟨rfl,Y.out⟩
theorem ZGn(d:Nat)(rows:List (List Int))(g:List Int)(v gv:Value)(w:World)(hv:Mat 0 22 3 w v rows)(hg:Sl 0 3 w gv (ZAB g))(hc:CutOk d rows)(hgl:g.length=d)(hgb:∀z∈g,z.natAbs≤20) :
  Calls Tryz.prog 145 #[.agg #[.int .i64 d,v],gv] w fun e w'=>e=.returned (.int .i64 (if ZDP d rows=true then 6 else 0))∧Below w.heap.size w w':=by
 obtain ⟨B,A,x,G,L⟩:=ZAE hv;obtain ⟨O,gc,p,_,_⟩:=ZAH hg;rw [hgl] at p;subst x p;obtain ⟨W,F,b,y,j⟩:=ZCS w d (.slice B rows.length A);have t:=hid F
 have f:Hid (∀X,Below W.heap.size W X→Below w.heap.size w X):=fun X hX=>b.trans (hX.mono b.size)
 have i:=hid j
 have M:Hid (Calls Tryz.prog 50 #[.agg #[.int .i64 d,.slice B rows.length A]] W fun e w'=>e=.returned (.int .i64 0)∧Below W.heap.size W w'):=ZCR d rows _ W ((hv.below b (Za4 _)).more (Za5 _)) hc
 have N:Hid (∀X,Below W.heap.size W X→Calls Tryz.prog 67 #[.slice O d gc,.int .i64 d,.int .i64 20] X fun e w'=>e=.returned (.int .i64 0)∧Below X.heap.size X w'):=fun X hX=>
  ZKl 0 g _ d X (hg.below (f.out X hX) (Za4 _)) (by rw [hgl]) (ZQM hgb)
 have P:Hid (∀X,Below W.heap.size W X→Calls Tryz.prog 157 #[.agg #[.int .i64 d,.slice B rows.length A]] X fun e w'=>e=.returned (.tuple #[.bool (ZDP d rows),.int .i64 0])∧Below X.heap.size X w'):=fun X hX=>
  ZM8 d rows _ X ((hv.below (f.out X hX) (Za4 _)).more (Za5 _)) hc
 clear hv hg hc hgl hgb F b y j;obtain ⟨s,n⟩:=i.out W (Below.refl _ _);generalize ZDP d rows=eb at *;go_enter Tryz.func145,Tryz.ntmps145
 go_upto_region 1 with fail
 rw [←t.out]
 go_wp2_with fail
 refine M.out.mono ?_;rintro e E ⟨rfl,m⟩;have a:=hid m;clear m s n;obtain ⟨s,n⟩:=i.out E a.out
 go_wp2_with fail
 refine (N.out E a.out).mono ?_;rintro e D ⟨rfl,r⟩;have c:Hid (Below W.heap.size W D):=a.out.trans (r.mono a.out.size);clear r s n;obtain ⟨s,n⟩:=i.out D c.out
 go_wp2_with fail
 refine (P.out D c.out).mono ?_;rintro e J ⟨rfl,o⟩;have l:Hid (Below w.heap.size w J):=f.out _ (c.out.trans (o.mono c.out.size));clear o s n
 cases eb
 ·go_wp2
  go_ret;exact ⟨rfl,l.out⟩
 ·go_wp2
  go_ret;exact ⟨rfl,l.out⟩
theorem ZPA(w:World)(d:Nat)(v:Value):∃W,W=(w.alloc (.cells #[.int .i64 d,v] 61)).alloc (.cells #[.slice none 0 0,.slice none 0 0,.int .i64 0] 105)∧Below w.heap.size w W∧W.heap.size=w.heap.size+2∧W.heap[w.heap.size]?=some (.cells #[.int .i64 d,v] 61 (0,0))∧W.heap[w.heap.size+1]?=some (.cells #[.slice none 0 0,.slice none 0 0,.int .i64 0] 105 (0,0)):=by
 have b:=ZAG w (.cells #[.int .i64 d,v] 61);have a:=ZAG (w.alloc (.cells #[.int .i64 d,v] 61)) (.cells #[.slice none 0 0,.slice none 0 0,.int .i64 0] 105)
 refine ⟨_,rfl,b.trans (a.mono b.size),by rw [size_alloc,size_alloc],(a.block _ (by rw [size_alloc]; omega)).trans (ZAM _ _),?_⟩
 have:=ZAM (w.alloc (.cells #[.int .i64 d,v] 61)) (.cells #[.slice none 0 0,.slice none 0 0,.int .i64 0] 105);rw [size_alloc] at this;exact this
end Go.Proofs.YtgfnmkenpgnllaaGreat
namespace Go.Proofs.YtgfnmkenpgnllaaGreat
open Lin
theorem ZKy(l:List Int):(low l).map ((gc l:Int) * ·)=l:=by
 unfold low;rw [List.map_map]
 have:∀z∈l,(((gc l:Int) * ·)∘(· / (gc l:Int))) z=z:=fun z hz=>by
  show (gc l:Int)*(z / (gc l:Int))=z
  exact Int.mul_ediv_cancel' (gc_dvd hz)
 rw [List.map_congr_left this,List.map_id']
theorem ZDG{g:List Int}{t:List (List Int)}(h:ZBP g t=true):(ZAv g t).length=t.length+1∧(∀i,i < t.length+1→0 < V (ZAv g t) i)∧∀j,j < g.length→sv t (V (ZAv g t)) j=V (ZAv g t) t.length*V g j:=by
 unfold ZBP at h;rw [Bool.and_eq_true] at h;have c:=ZAx h.1
 have b:(ZAK (t.length+1) (ZA4 g t)).length+1=t.length+1:=by simpa [ZAp] using h.1
 obtain ⟨_,f,_⟩:=ZBc b
 refine ⟨c,fun i hi=>?_,ZCu.1 f⟩
 have a:(ZAv g t).any ZE0=false:=by simpa using h.2
 have d:(ZAv g t).getD i 0∈ZAv g t:=ZAn (by unfold ZAv; rw [c]; exact hi)
 have:=List.any_eq_false.1 a _ d;simp only [ZE0,decide_eq_true_eq] at this
 show 0 < (ZAv g t).getD i 0
 omega
def wS(g:List Int)(t:List (List Int)):Int:=sv t (V (ZAv g t)) g.length
def wU(g:List Int)(t:List (List Int)):Int:=V (ZAv g t) t.length
theorem ZKz{g:List Int}{t:List (List Int)}(h:ZBP g t=true):0 < wU g t:=(ZDG h).2.1 _ (by omega)
theorem ZK0{g:List Int}{t:List (List Int)}(h:ZBP g t=true){a:Nat→Int}(hr:∀j,j < g.length→sv t a j=a t.length*V g j):wS g t*a t.length=sv t a g.length*wU g t:=by
 obtain ⟨b,l,s,c⟩:=ZEX.1 h;obtain ⟨_,x,d⟩:=ZDG h;have p:=c _ d;have v:=c a hr
 have f:∀i,i < t.length+1→V (ZAv g t) i*a t.length=V (ZAv g t) t.length*a i:=fun i hi=>by
  have r:=p i t.length hi (by omega)
  have o:=v i t.length hi (by omega)
  have n:=l t.length (by omega)
  have m:b t.length*(V (ZAv g t) i*a t.length)=b t.length*(V (ZAv g t) t.length*a i):=by
   have:b t.length*(V (ZAv g t) i*a t.length)=(V (ZAv g t) i*b t.length)*a t.length:=by grind
   rw [this,r]
   have:b t.length*(V (ZAv g t) t.length*a i)=V (ZAv g t) t.length*(a i*b t.length):=by grind
   rw [this,o]; grind
  exact Int.eq_of_mul_eq_mul_left (by omega) m
 unfold wS wU;rw [ZFu,ZFu,←ZAU,←ZAU]
 refine ZAC fun i hi=>?_
 have:=f i (by omega)
 grind
theorem ZK1(d:Nat)(t:List (List Int))(a x:Nat→Int):dot d (sv t a) x=sumN t.length fun i=>a i*dot d (V (t.getD i [])) x:=by
 have h:=ZGg d x (t.map V) a;rw [ZAV]
 show dot d x (sm (t.map V) a)=_
 rw [h,Zab1]
 refine ZAC fun i hi=>?_
 have b:(t.map V).getD i (fun _=>0)=V (t.getD i []):=by simp [hi]
 rw [b,ZAV]
theorem ZK2{d:Nat}{rows t:List (List Int)}{x:Nat→Int}{w:Int}(hf:Fea d rows x w)(hs:∀r∈t,r∈rows){a:Nat→Int}(ha:∀i,i < t.length→0≤a i):dot d (sv t a) x≤sv t a d*w:=by
 rw [ZK1,ZFu,←ZAU]
 have:0≤sumN t.length fun i=>(a i*V (t.getD i []) d*w) + -(a i*dot d (V (t.getD i [])) x):=ZEW fun i hi=>by
  have b:=hf.2 _ (hs (t.getD i []) (by simp [hi]))
  have c:=Int.mul_nonneg (ha i hi) (show 0≤V (t.getD i []) d*w-dot d (V (t.getD i [])) x by omega)
  have e:a i*V (t.getD i []) d*w + -(a i*dot d (V (t.getD i [])) x)=a i*(V (t.getD i []) d*w-dot d (V (t.getD i [])) x):=by grind
  omega
 rw [ZA8,ZBK] at this;omega
theorem ZHo{d:Nat}{t:List (List Int)}{a x:Nat→Int}{g:List Int}(hg:g.length=d)(hr:∀j,j < g.length→sv t a j=a t.length*V g j):dot d (sv t a) x=a t.length*dot d (V g) x:=by
 have:dot d (sv t a) x=dot d (fun j=>a t.length*V g j) x:=ZAb (fun i hi=>hr i (by omega)) fun _ _=>rfl
 rw [this];unfold dot;rw [←ZAX]
 exact ZAC fun i _=>by grind
theorem ZRN{d:Nat}{rows t:List (List Int)}{x:Nat→Int}{w:Int}{g:List Int}(hg:g.length=d)(hf:Fea d rows x w)(hs:∀r∈t,r∈rows)(hw:ZBP g t=true):dot d (V g) x*wU g t≤wS g t*w:=by
 obtain ⟨_,f,c⟩:=ZDG hw
 have b:=ZK2 hf hs (a:=V (ZAv g t)) fun i hi=>Int.le_of_lt (f i (by omega))
 rw [ZHo hg c] at b;unfold wS wU;rw [hg,Int.mul_comm (dot d (V g) x)];exact b
theorem ZQN{d:Nat}{rows tb:List (List Int)}{g:List Int}(hg:g.length=d){x0:Nat→Int}{w0:Int}(hf:Fea d rows x0 w0)(hsb:tb.Sublist rows)(hwb:ZBP g tb=true)
 (hmin:∀t,t.Sublist rows→ZBP g t=true→wS g tb*wU g t≤wS g t*wU g tb) :
  ∃x w,Fea d rows x w∧dot d (V g) x*wU g tb=wS g tb*w∧∀v:Nat→Int,(∀r∈rows,dot d (V r) x=V r d*w→dot d (V r) v=0)→dot d (V g) v=0:=by
 have hU:=ZKz hwb
 have G:∀t:List (List Int),t.Sublist rows→∀w:Nat→Int,(∀i,i < t.length→0≤w i)→(∀j,j < g.length→sv t w j=0)→0≤sv t w g.length:=fun t ht w hw D=>by
  have E:=ZK2 hf (fun r o=>ht.subset o) hw
  have F:dot d (sv t w) x0=0:=ZBS fun i l=>D i (by omega)
  rw [F] at E;rw [hg]
  rcases Int.lt_or_le (sv t w d) 0 with h | h
  ·have:=Int.mul_neg_of_neg_of_pos h hf.1; omega
  ·exact h
 -- a place that has as much
 have ai:∃x w,Fea d rows x w∧wS g tb*w≤dot d (V g) x*wU g tb:=by
  obtain ⟨m,Q⟩:∃m:List Int,m=((List.range d).map fun j=>-(wU g tb*V g j)) ++ [-(wS g tb)]:=⟨_,rfl⟩
  have v1:∀j,j < d→V m j=-(wU g tb*V g j):=fun j hj=>by
   rw [Q]; unfold V
   rw [Za2,Za7 (by simpa using hj)]
   simp [hj]
  have v2:V m d=-(wS g tb):=by
   rw [Q]; unfold V
   rw [Za2,Za8 (by simp)]; simp
  have aa:∀x,dot d (V m) x=-(wU g tb*dot d (V g) x):=fun x=>by
   unfold dot;rw [←ZAX,←ZBK]
   exact ZAC fun i l=>by rw [v1 i l]; grind
  cases he:ZDP d (m :: rows) with
  | false=>
   obtain ⟨x,w,hw,h⟩:=ZDZ.1 he
   refine ⟨x,w,⟨hw,fun r o=>h r (List.mem_cons_of_mem _ o)⟩,?_⟩
   have:=h m (List.mem_cons_self ..);rw [aa,v2] at this;have M:dot d (V g) x*wU g tb=wU g tb*dot d (V g) x:=Int.mul_comm _ _
   have e2 : -(wS g tb)*w=-(wS g tb*w):=by grind
   omega
  | true=>
   exfalso
   have X:ZAZ (m :: rows) (ZBx d)≠[]:=fun h=>by unfold ZDP at he; rw [h] at he; cases he
   obtain ⟨t,ah,af⟩:=ZEY.1 X;obtain ⟨a,y,o,_⟩:=ZEX.1 af
   have r0:∀j,j < d→V (ZBx d) j=0:=fun j hj=>by simp [V,ZBx,show j < d+1 by omega,show ¬j=d by omega]
   have rd:V (ZBx d) d=-1:=by simp [V,ZBx]
   have hn:=y t.length (by omega)
   have D:∀j,j < d→sv t a j=0:=fun j hj=>by rw [o j (by rw [ZBL]; omega),r0 j hj]; omega
   have hd:sv t a d=-(a t.length):=by rw [o d (by rw [ZBL]; omega),rd]; omega
   have B:∀(t:List (List Int)) (a:Nat→Int),(∀r∈t,r∈rows)→(∀i,i < t.length→0≤a i)→(∀j,j < d→sv t a j=0)→sv t a d < 0→False:=fun t a ht ha D hd=>by
    have E:=ZK2 hf ht ha
    have F:dot d (sv t a) x0=0:=ZBS fun i l=>D i l
    rw [F] at E;have:=Int.mul_neg_of_neg_of_pos hd hf.1;omega
   rcases List.sublist_cons_iff.1 ah with hts1 | ⟨t1,rfl,hts1⟩
   ·exact B t a (fun r o=>hts1.subset o) (fun i l=>Int.le_of_lt (y i (by omega))) D (by omega)
   ·have N:=y 0 (by simp)
    have P:∀j,sv t1 (fun i=>a (i+1)) j=sv (m :: t1) a j-a 0*V m j:=fun j=>by rw [ZFv]; omega
    have O:∀j,j < g.length→sv t1 (fun i=>if i=t1.length then a 0*wU g tb else a (i+1)) j=(a 0*wU g tb)*V g j:=fun j hj=>by
     rw [ZDD (b:=fun i=>a (i+1)) (fun i l=>by rw [if_neg (by omega)]),P,D j (by omega),v1 j (by omega)]
     grind
    obtain ⟨c,p,k1,k2,k3,k4,Y⟩:=ZRM G t1.length t1 (fun i=>if i=t1.length then a 0*wU g tb else a (i+1)) (Za4 _) hts1 (fun i l=>by
      by_cases e:i=t1.length
      ·simp only [e,if_true]; exact Int.mul_pos N hU
      ·simp only [e,if_false]; exact y (i+1) (by simp; omega)) (fun j hj=>by simp only [if_true]; exact O j hj)
    simp only [if_true] at Y
    rw [ZDD (t:=t1) (b:=fun i=>a (i+1)) (fun i l=>by rw [if_neg (by omega)]),P,hg,hd,v2] at Y
    have R:=ZK0 k2 k4;have hm:=hmin c k1 k2
    have hA:=k3 c.length (by omega)
    have J:=ZKz k2;rw [hg] at R
    -- S U' <= S' U,S' A=s' U',s' a0 U <= (a0 S-n) A
    have M:wS g tb*wU g c*(p c.length*a 0)≤wS g c*wU g tb*(p c.length*a 0):=Int.mul_le_mul_of_nonneg_right hm (Int.le_of_lt (Int.mul_pos hA N))
    have e2:wS g c*wU g tb*(p c.length*a 0)=(wS g c*p c.length)*(wU g tb*a 0):=by grind
    rw [e2,R] at M
    have e3:sv c p d*wU g c*(wU g tb*a 0)=(sv c p d*(a 0*wU g tb))*wU g c:=by grind
    rw [e3] at M;have e4:=Int.mul_le_mul_of_nonneg_right Y (Int.le_of_lt J)
    have e5:(-(a (m :: t1).length)-a 0 * -wS g tb)*p c.length*wU g c=wS g tb*wU g c*(p c.length*a 0)-a (m :: t1).length*(p c.length*wU g c):=by grind
    have e6:0 < a (m :: t1).length*(p c.length*wU g c):=Int.mul_pos hn (Int.mul_pos hA J);omega
 obtain ⟨x,w,z,am⟩:=ai
 have ak:=ZRN hg z (fun r o=>hsb.subset o) hwb
 have ae:dot d (V g) x*wU g tb=wS g tb*w:=by omega
 obtain ⟨_,y,o⟩:=ZDG hwb
 -- all rows of the way are met
 have s:∀i,i < tb.length→dot d (V (tb.getD i [])) x=V (tb.getD i []) d*w:=by
  have L:sumN tb.length (fun i=>V (ZAv g tb) i*(V (tb.getD i []) d*w-dot d (V (tb.getD i [])) x))=0:=by
   have M:sumN tb.length (fun i=>V (ZAv g tb) i*(V (tb.getD i []) d*w-dot d (V (tb.getD i [])) x))=sumN tb.length (fun i=>V (ZAv g tb) i*V (tb.getD i []) d*w + -(V (ZAv g tb) i*dot d (V (tb.getD i [])) x)):=ZAC fun i _=>by grind
   rw [M,ZA8,ZBK,ZAU,←ZFu,←ZK1,ZHo hg o]
   have:sv tb (V (ZAv g tb)) d=wS g tb:=by unfold wS; rw [hg]
   rw [this];have:V (ZAv g tb) tb.length=wU g tb:=rfl;rw [this];have:=Int.mul_comm (wU g tb) (dot d (V g) x);omega
  have ag:∀i,i < tb.length→0≤V (ZAv g tb) i*(V (tb.getD i []) d*w-dot d (V (tb.getD i [])) x):=fun i l=>by
   have:=z.2 _ (hsb.subset (show tb.getD i []∈tb by simp [l]))
   exact Int.mul_nonneg (Int.le_of_lt (y i (by omega))) (by omega)
  have T:∀(n:Nat) (f:Nat→Int),(∀i,i < n→0≤f i)→sumN n f=0→∀i,i < n→f i=0:=by
   intro n
   induction n with
   | zero=>intro f _ _ i l; omega
   | succ n ih=>
    intro f h0 hs i l
    have E:=ZEW (n:=n) (f:=f) fun i l=>h0 i (by omega)
    have F:=h0 n (by omega)
    have h3:sumN n f+f n=0:=hs
    by_cases e:i=n
    ·rw [e]; omega
    ·exact ih f (fun i l=>h0 i (by omega)) (by omega) i (by omega)
  intro i l;have:=T _ _ ag L i l
  have aj:=y i (by omega)
  rcases Int.mul_eq_zero.1 this with h | h
  ·omega
  ·omega
 refine ⟨x,w,z,ae,fun v hv=>?_⟩
 have E:wU g tb*dot d (V g) v=0:=by
  have:=ZHo (x:=v) hg o;rw [ZK1] at this
  have F:sumN tb.length (fun i=>V (ZAv g tb) i*dot d (V (tb.getD i [])) v)=0:=ZAf fun i l=>by
   rw [hv _ (hsb.subset (show tb.getD i []∈tb by simp [l])) (s i l),Int.mul_zero]
  rw [F] at this;exact this.symm
 rcases Int.mul_eq_zero.1 E with h | h
 ·omega
 ·exact h
end Go.Proofs.YtgfnmkenpgnllaaGreat
