import Derived.Test.YtgfnmkenpgnllaaGreatSgE
set_option maxRecDepth 100000
set_option maxHeartbeats 4000000
namespace Go.Proofs.YtgfnmkenpgnllaaGreat
open Go.RowKit
theorem ZNP(v:Int):ZA5 [v]=2 ^ v.toNat:=by simp [ZA5]
theorem ZIu{l:List Int}(h:B64 l):ZA5 l < 18446744073709551616:=ZKe l h
theorem ZLL(zs:List Int)(k:Nat)(h:k < zs.length):ZA5 (zs.take (k+1))=ZA5 (zs.take k) ||| 2 ^ (zs.getD k 0).toNat:=by
 rw [ZBy zs k h,ZET,ZNP]
theorem B64.take{l:List Int}(h:B64 l)(k:Nat):B64 (l.take k):=fun x hx=>h x (Zaa7 hx)
theorem B64.get{l:List Int}(h:B64 l){k:Nat}(hk:k < l.length):0≤l.getD k 0∧l.getD k 0≤63:=h _ (by simp [hk])
theorem ZPK{z:Int}(h0:0≤z)(h63:z≤63):IntKind.u64.wrap ((2:Int) ^ z.toNat)=((2 ^ z.toNat:Nat):Int):=by
 have:2 ^ z.toNat < 2 ^ 64:=Nat.pow_lt_pow_right (by omega) (by omega)
 rw [IntKind.wrap_u64]
 have e:((2:Int) ^ z.toNat)=((2 ^ z.toNat:Nat):Int):=by simp
 rw [e];generalize 2 ^ z.toNat=q at *;omega
theorem ZPL(z:Int)(w:World)(h0:0≤z)(h63:z≤63) :
  Calls Tryz.prog 96 #[.int .i64 z] w fun e w'=>e=.returned (.int .u64 ((2 ^ z.toNat:Nat):Int))∧w'=w:=by
 have a:Hid (IntKind.u64.wrap ((2:Int) ^ z.toNat)=((2 ^ z.toNat:Nat):Int)):=ZPK h0 h63;go_enter Tryz.func96,Tryz.ntmps96;go_wp2;go_ret;exact ⟨ZA9 a.out,rfl⟩
theorem ZGv(B:Nat)(zs:List Int)(v:Value)(w:World)(hv:Sl B 3 w v (ZAB zs))(hb:B64 zs) :
  Calls Tryz.prog 66 #[v] w fun e w'=>e=.returned (.int .u64 (ZA5 zs))∧∃n,w'=w.drewN n:=by
 obtain ⟨L,r,f,D,F⟩:=ZAH hv;subst f;have E:Hid (Sl B 3 w (.slice L zs.length r) (ZAB zs)):=hv;have y:=hid hb;clear hv hb;go_enter Tryz.func66,Tryz.ntmps66;go_wp2
 go_loopw [3,8] (fun s i wr=>∃k:Nat,k≤zs.length∧i=.int .i64 k∧s=.int .u64 (ZA5 (zs.take k))∧∃n,wr=w.drewN n) (fun _ i _=>zs.length-(intOf i).toNat)
 case atStart=>exact ⟨0,Za5 _,rfl,rfl,0,rfl⟩
 case round=>
  obtain ⟨k,N,rfl,rfl,n,rfl⟩:=hrel
  by_cases hlt:k < zs.length
  ·obtain ⟨b,o,M,A,J,G⟩:=ZAJ E.out hlt
   simp only [Za3] at A;obtain ⟨rfl,_,rfl⟩:=A
   have c:Hid (ZA5 (zs.take (k+1))=ZA5 (zs.take k) ||| 2 ^ (zs.getD k 0).toNat):=ZLL zs k hlt
   obtain ⟨g,d⟩:=y.out.get hlt;have m:Hid (ZA5 (zs.take k) < 18446744073709551616):=ZIu (y.out.take k);generalize ZA5 (zs.take k)=S at *;generalize zs.getD k 0=z at *
   have x:bits BinOp.or IntKind.u64 (S:Int) ((2 ^ z.toNat:Nat):Int)=((ZA5 (zs.take (k+1)):Nat):Int):=by
    have:2 ^ z.toNat < 2 ^ 64:=Nat.pow_lt_pow_right (by omega) (by omega)
    rw [bits_or_u64_nat S _ m.out (by simpa using this),c.out]
   have a:=ZPL z (w.drewN n) g d;have p:=hid a;clear a;generalize 2 ^ z.toNat=q2 at *;have l:=hid x;clear x c
   go_wp2_with fail
   refine p.out.mono ?_;rintro e O ⟨rfl,j⟩;subst j;go_wp2
   go_roundw
   case rel=>exact ⟨k+1,by omega,by go_num,by rw [l.out],_,rfl⟩
   case measure=>simp [intOf]; omega
  ·have t:zs.take k=zs:=Zaa2 (by omega)
   rw [t];go_wp2;go_ret;exact ⟨rfl,n,rfl⟩
theorem ZQT(x y:Nat)(w:World)(hx:x < 18446744073709551616)(hy:y < 18446744073709551616) :
  Calls Tryz.prog 95 #[.int .u64 x,.int .u64 y] w fun e w'=>e=.returned (.bool (ZO2 x y == 0))∧w'=w:=by
 have a:=ZCs x y hx hy;go_enter Tryz.func95,Tryz.ntmps95
 go_wp2_with (simp only [a])
 go_ret
 exact ⟨ZAW (by rw [Bool.eq_iff_iff]; simp),rfl⟩
end Go.Proofs.YtgfnmkenpgnllaaGreat
namespace Go.Proofs.YtgfnmkenpgnllaaGreat
open Go.RowKit Lin
attribute [local go_sem ↓] Go.wp_at_zero Go.wp_at_succ
theorem Fr.mat0{B:Nat}{w:World}{v:Value}{m:List (List Int)}(h:Fr B 22 3 w v m):Mat 0 22 3 w v m:=by
 obtain ⟨c,a,b,d⟩:=h;exact ⟨c,a,Sl.own b,d⟩
structure E2(B:Nat)(w0 wr:World)(hv ov:Value)(HV WS:List (List Int)):Prop where
 h:Fr B 22 3 wr hv HV
 o:Fr B 22 3 wr ov WS
 ap:ZKF hv ov
 bel:Below B w0 wr
theorem E2.swap{B:Nat}{w0 wr:World}{hv ov:Value}{HV WS:List (List Int)}(h:E2 B w0 wr hv ov HV WS):E2 B w0 wr ov hv WS HV:=⟨h.o,h.h,fun g h1 h2=>h.ap g h2 h1,h.bel⟩
theorem E2.push{B:Nat}{w0 wr w5:World}{hv ov v' u:Value}{HV WS:List (List Int)}{vs:List Value}{zs:List Int}{ob:Obj}(h:E2 B w0 wr hv ov HV WS)(hB:B≤wr.heap.size)
 (g1:vs.length=HV.length)(g2:wr.ownsRow B 22 1 hv HV.length vs)(g3:∀i,i < HV.length→Sl 0 3 wr (vs.getD i (.slice none 0 0)) (ZAB (HV.getD i [])))(hu:Sl 0 3 wr u (ZAB zs))
 (ho:w5.ownsRow B 22 1 v' (HV.length+1) (vs ++ [u]))(hg:(wr.alloc ob).grownBy w5 hv.ownBlock)(hat:v'.ownBlock=hv.ownBlock∨v'.ownBlock=some (wr.heap.size+1)):E2 B w0 w5 v' ov (HV ++ [zs]) WS:=by
 refine ⟨Fr.push (e2:=22) (e1:=3) (by decide) g1 (g2.alloc _) (fun i hi=>(g3 i hi).alloc _) (hu.alloc _) ho hg,(h.o.alloc _).kept (by decide) (g2.alloc _) hg h.ap,fun g k1 k2=>?_,(h.bel.alloc hB _).grown hg (by simp; omega) (fun x hx=>(g2.lt x hx).1)⟩
 rcases hat with e | e
 ·rw [e] at k1; exact h.ap g k1 k2
 ·rw [e] at k1
  simp only [Zaa9] at k1;obtain ⟨_,_,a,_⟩:=h.o;have:=(a.lt g k2).2;omega
theorem ZIv{d:Nat}{P:List (List Int)} : rk d (P.map (List.take d))=rk d P:=by
 have e:∀(r:List Int) v,dot d (V (r.take d)) v=dot d (V r) v:=fun r v=>ZAb (fun i hi=>by simp [V,Zaa5 hi]) fun _ _=>rfl
 refine ZOv fun v=>⟨fun h r hr=>?_,fun h r hr=>?_⟩
 ·obtain ⟨p,a,rfl⟩:=List.mem_map.1 hr
  rw [e]; exact h p a
 ·rw [←e]; exact h _ (List.mem_map.2 ⟨r,hr,rfl⟩)
theorem ZLM(F:List Nat)(k:Nat)(h:k < F.length):(F.map fun (i:Nat)=>(i:Int)).getD k 0=((F.getD k 0:Nat):Int):=by simp [h]
theorem ZLN(F:List Nat)(P:List (List Int))(k:Nat)(h:k < F.length):(F.map fun i=>P.getD i []).getD k []=P.getD (F.getD k 0) []:=by simp [h]
theorem ZEi{α:Type}(l:List α)(k:Nat)(h:k < l.length)(e:α):l.take (k+1)=l.take k ++ [l.getD k e]:=by
 rw [Zaa1 h];simp [h]
theorem ZGw(d s:Nat)(P:List (List Int))(v:Value)(w:World)(hv:Mat 0 22 3 w v P)(hP:∀p∈P,p.length=d+1∧∀z∈p,z.natAbs≤20)(hd1:1≤d)(hd3:d≤3)(h6:P.length≤6)(hs:s < 2 ^ P.length) :
  Calls Tryz.prog 30 #[.int .i64 d,v,.int .i64 s] w fun e w'=>e=.returned (.tuple #[.bool (cen d P s),.int .i64 (rk d (plS P s):Nat)])∧Below w.heap.size w w':=by
 obtain ⟨i0,V,ae,ag,an⟩:=info_parts Tryz.info22;obtain ⟨ro,rc,aR,bh,bg⟩:=ZAE hv;subst aR
 obtain ⟨F,hF⟩:∃F:List Nat,F=(List.range P.length).filter fun i=>s.testBit i:=⟨_,rfl⟩
 have Y:∀i∈F,i < P.length:=fun i V=>by rw [hF] at V; exact List.mem_range.1 (List.mem_filter.1 V).1
 have bq:F.length≤6:=by rw [hF]; exact Zaa8 (List.length_filter_le _ _) (by simpa using h6)
 have hL:ZBH P.length s=F.map fun (i:Nat)=>(i:Int):=by rw [hF]; rfl
 have hR:plS P s=F.map fun i=>P.getD i []:=by rw [hF]; rfl
 have N:∀p∈plS P s,p.length=d+1∧∀z∈p,z.natAbs≤20:=fun p hp=>by
  rw [hR] at hp;obtain ⟨i,V,rfl⟩:=List.mem_map.1 hp;exact hP _ (ZAT (Y i V))
 have ai:Hid (Calls Tryz.prog 31 #[.int .i64 s] w fun e w'=>∃uo uc,e=.returned (.slice uo F.length uc)∧Sl 0 3 w' (.slice uo F.length uc) (ZAB (F.map fun (i:Nat)=>(i:Int)))∧Below w.heap.size w w'):=by
  refine (ZCO s P.length w hs (by omega)).mono ?_
  rintro e w' ⟨u,rfl,h1,h2⟩;rw [hL,Zab1] at h1;obtain ⟨uo,uc,rfl⟩:=ZAD h1;exact ⟨uo,uc,rfl,Sl.own h1,h2⟩
 have aJ:Hid (∀(u:Value) X,Mat 0 22 3 X u ((plS P s).map (List.take d))→Calls Tryz.prog 24 #[u] X fun e w'=>e=.returned (.int .i64 (rk d (plS P s):Nat))∧Below X.heap.size X w'):=fun u X hu=>by
  have:=ZCL d 60 0 ((plS P s).map (List.take d)) u X ⟨fun r hr=>by
   obtain ⟨p,hp,rfl⟩:=List.mem_map.1 hr
   rw [List.length_take,(N p hp).1]; omega,fun r hr z hz=>by
   obtain ⟨p,hp,rfl⟩:=List.mem_map.1 hr;have:=(N p hp).2 z (Zaa7 hz)
   omega,by omega,by omega,by decide,by
   rcases (show d=1∨d=2∨d=3 by omega) with rfl | rfl | rfl <;> decide⟩ hu (by rw [hR]; simp; omega)
  have e:(ZAK d ((plS P s).map (List.take d))).length=rk d (plS P s):=ZIv;rw [e] at this;exact this
 have aO:Hid (∀(u:Value) X,Mat 0 22 3 X u (plS P s)→Calls Tryz.prog 24 #[u] X fun e w'=>e=.returned (.int .i64 (rk (d+1) (plS P s):Nat))∧Below X.heap.size X w'):=fun u X hu=>ZCL (d+1) 60 0 (plS P s) u X (ZDl hd1 hd3 N) hu (by rw [hR]; simp; omega)
 have aP:Hid (cen d P s=(((rk (d+1) (plS P s):Nat):Int) == ((rk d (plS P s):Nat):Int))):=by
  show _=_
  unfold cen;rw [Bool.eq_iff_iff,beq_iff_eq,beq_iff_eq];omega
 have aS:Hid (∀k,k < F.length→∃t b o rb E a,t=F.getD k 0∧ro=some ⟨b,o,none⟩∧t < P.length∧d+1≤a∧∀X,Below w.heap.size w X→X.cell? ⟨b,o+t,none⟩=some (.slice (some ⟨rb,E,none⟩) (d+1) a)∧Sl 0 3 X (.slice (some ⟨rb,E,none⟩) (d+1) a) (ZAB ((plS P s).getD k []))∧Sl 0 3 X (.slice (some ⟨rb,E,none⟩) d a) (ZAB (((plS P s).getD k []).take d))):=fun k hk=>by
  have ht:F.getD k 0 < P.length:=Y _ (by rw [Za2,Za9 hk]; exact List.getElem_mem _)
  obtain ⟨b,o,cp,rv,e1,_,aj,af⟩:=ZAP hv ht;simp only [Za3] at e1;have ak:=(hP _ (ZAT ht)).1
  obtain ⟨rb,E,a,ay,ah,_⟩:=ZAJ af (k:=0) (by omega)
  rw [ak] at ay ah;subst ay
  refine ⟨_,b,o,rb,E,a,rfl,e1.1,ht,by omega,fun X hX=>?_⟩
  have h1:=af.below hX (Za4 _);rw [hR,ZLN F P k hk]
  exact ⟨(hX.cell (ZAI aj)).trans aj,h1,Sl.takeE (by rw [ak]; exact h1) (by omega)⟩
 have aG:(plS P s).length=F.length:=by rw [hR]; simp
 have aA:Hid (∀k,k < F.length→(plS P s).take (k+1)=(plS P s).take k ++ [(plS P s).getD k []]):=fun k hk=>ZEi _ k (by omega) []
 have aL:Hid ((plS P s).take F.length=plS P s):=Zaa2 (by omega)
 have aK:Hid (∀k,k≤F.length→((plS P s).take k).length=k):=fun k hk=>by rw [List.length_take]; omega
 clear hv hP hF Y hL hR N aG hs;generalize cen d P s=ce at *;generalize plS P s=R at *;generalize rk d R=ra at *;generalize rk (d+1) R=rb at *;go_enter Tryz.func30,Tryz.ntmps30
 go_wp2_with fail
 refine ai.out.mono ?_;rintro e c ⟨uo,uc,rfl,aB,ar⟩;have aM:=hid aB;have aq:=hid ar;clear aB ar ai;go_wp2
 go_loopw [9,10,11] (fun x y i wr=>∃k:Nat,k≤F.length∧i=.int .i64 k∧E2 c.heap.size c wr x y ((R.take k).map (List.take d)) (R.take k)) (fun _ _ i _=>F.length-(intOf i).toNat)
 case atStart=>exact ⟨0,Za5 _,rfl,⟨Fr.nil _ _ _ _,Fr.nil _ _ _ _,(fun g h=>by cases h),Below.refl _ _⟩⟩
 case round=>
  obtain ⟨k,hk,rfl,hf⟩:=hrel
  obtain ⟨D,rfl⟩:∃D,D=wr:=⟨_,rfl⟩
  have HF:=hid hf;have S:c.heap.size≤D.heap.size:=hf.bel.size
  have J:Hid (∀X,Below c.heap.size c X→Below w.heap.size w X):=fun X hX=>aq.out.trans (hX.mono aq.out.size)
  clear hf
  by_cases hlt:k < F.length
  ·obtain ⟨t,b,o,m,E,a,ht,rfl,bl,aW,T⟩:=aS.out k hlt
   have l:=hid T
   obtain ⟨lb,lo,lc,aE,_,M⟩:=ZAJ aM.out (k:=k) (by simpa using hlt)
   rw [ZLM F k hlt,←ht] at M;simp only [Za3] at aE;obtain ⟨rfl,-,rfl⟩:=aE
   have aC:Hid (∀X,Below c.heap.size c X→X.cell? ⟨lb,lo+k,none⟩=some (.int .i64 t)):=fun X hX=>(hX.cell (ZAI M)).trans M
   have aI:Hid ((R.take (k+1)).map (List.take d)=(R.take k).map (List.take d) ++ [(R.getD k []).take d]):=by show _=_; rw [aA.out k hlt]; simp
   have aT:Hid (R.take (k+1)=R.take k ++ [R.getD k []]):=aA.out k hlt
   have aF:Hid (((R.take k).map (List.take d)).length≤6∧(R.take k).length≤6):=by
    have:=aK.out k hk
    refine ⟨?_,by omega⟩
    rw [Zab1]; omega
   clear T ht M;generalize R.getD k []=p at *;generalize (R.take k).map (List.take d)=A at *;generalize R.take k=B at *;obtain ⟨aZ,bk⟩:=aF.out;have c1:=aC.out D HF.out.bel;obtain ⟨c2,-,-⟩:=l.out D (J.out D HF.out.bel);obtain ⟨vs,g1,g2,g3⟩:=HF.out.h;have G2:=hid g2
   have G:Hid (∀v' j,j.ownsRow c.heap.size 22 1 v' (A.length+1) (vs ++ [.slice (some ⟨m,E,none⟩) d a])→(D.alloc (.cells #[.slice (some ⟨m,E,none⟩) d a] 22)).grownBy j u9.ownBlock→(v'.ownBlock=u9.ownBlock∨v'.ownBlock=some (D.heap.size+1))→E2 c.heap.size c j v' u10 (A ++ [p.take d]) B):=fun v' j L Q f=>HF.out.push S g1 g2 g3 (l.out D (J.out D HF.out.bel)).2.2 L Q f
   have bj:(k:Int) < (F.length:Int):=by omega
   have aY:(0:Int)≤(k:Int):=by omega
   have bi:(t:Int) < (P.length:Int):=by omega
   have aV:(0:Int)≤(t:Int):=by omega
   have bp:(d:Int)≤(a:Int):=by omega
   have aX:(0:Int)≤(d:Int):=by omega
   clear g1 g2 g3 aF
   go_wp2_with (first | (at_builtin; refine wpList_append_own_at _ rfl _ _ 25 rfl c.heap.size 22 i0 (.slice none 0 0) 1 24 Tryz.underlying25 V ae ag an rfl (by decide) _ _ _ rfl (G2.out.alloc _) ⟨D.heap.size,0,none⟩ 1 1 [.slice (some ⟨m,E,none⟩) d a] rfl rfl (ZAQ _ _ _) (ZAL _ _ _) ?d3 ?d4 ?d5 ?_))
   case d3=>unfold maxLen; omega
   case d4=>omega
   case d5=>first | omega | (simp; omega)
   intro x6 j L Q _ f
   have n:Hid (E2 c.heap.size c j x6 u10 (A ++ [p.take d]) B):=G.out x6 j L Q (by simpa using f)
   obtain ⟨xo,xc,aQ⟩:=ZAD L;subst aQ;clear L Q f G G2 c1 c2;have am:c.heap.size≤j.heap.size:=n.out.bel.size;have c1:=aC.out j n.out.bel;obtain ⟨c2,-,-⟩:=l.out j (J.out j n.out.bel);obtain ⟨vs,g1,g2,g3⟩:=n.out.o;have G2:=hid g2
   have G:Hid (∀v' w4,w4.ownsRow c.heap.size 22 1 v' (B.length+1) (vs ++ [.slice (some ⟨m,E,none⟩) (d+1) a])→(j.alloc (.cells #[.slice (some ⟨m,E,none⟩) (d+1) a] 22)).grownBy w4 u10.ownBlock→(v'.ownBlock=u10.ownBlock∨v'.ownBlock=some (j.heap.size+1))→E2 c.heap.size c w4 (.slice xo (A.length+1) xc) v' (A ++ [p.take d]) (B ++ [p])):=fun v' w4 L Q f=>(n.out.swap.push am g1 g2 g3 (l.out j (J.out j n.out.bel)).2.1 L Q f).swap
   clear g1 g2 g3
   go_wp2_with (first | (at_builtin; refine wpList_append_own_at _ rfl _ _ 25 rfl c.heap.size 22 i0 (.slice none 0 0) 1 24 Tryz.underlying25 V ae ag an rfl (by decide) _ _ _ rfl (G2.out.alloc _) ⟨j.heap.size,0,none⟩ 1 1 [.slice (some ⟨m,E,none⟩) (d+1) a] rfl rfl (ZAQ _ _ _) (ZAL _ _ _) ?d3 ?d4 ?d5 ?_))
   case d3=>unfold maxLen; omega
   case d4=>omega
   case d5=>first | omega | (simp; omega)
   intro y6 w4 L Q _ f
   have aN:Hid (E2 c.heap.size c w4 (.slice xo (A.length+1) xc) y6 ((R.take (k+1)).map (List.take d)) (R.take (k+1))):=by
    show E2 _ _ _ _ _ _ _
    rw [aI.out,aT.out]
    exact G.out y6 w4 L Q (by simpa using f)
   clear L Q f G G2 c1 c2;go_wp2
   exact ⟨⟨k+1,by omega,by go_num,aN.out⟩,by simp [intOf]; omega⟩
  ·have aU:k=F.length:=by omega
   subst aU
   have O:Hid (E2 c.heap.size c D u9 u10 (R.map (List.take d)) R):=by have h:=HF.out; rw [aL.out] at h; exact h
   have HA:=aJ.out u9 D O.out.h.mat0;have az:=hid HA;clear HA HF
   go_wp2_with fail
   refine az.out.mono ?_;rintro e w2 ⟨rfl,aa⟩;have au:=aO.out u10 w2 (O.out.o.below aa (Za4 _)).mat0;have aD:=hid au;have U:Hid (Below w.heap.size w w2):=J.out w2 (O.out.bel.trans (aa.mono S));clear au aa az
   go_wp2_with fail
   refine aD.out.mono ?_;rintro e j ⟨rfl,aw⟩;have aH:Hid (Below w.heap.size w j):=U.out.trans (aw.mono U.out.size);clear aw aD O U;go_wp2
   refine bodyPost_ret (v:=.tuple #[.bool ce,.int .i64 (ra:Nat)]) (by rw [aP.out]; simp [results,Tryz.results30,go_sem]) rfl ⟨rfl,aH.out⟩
theorem ZF5(d:Nat)(P:List (List Int))(v:Value)(w:World)(hd1:1≤d)(hd3:d≤3)(hG:PlG d P)(h6:P.length≤6)(hv:Mat 0 22 3 w v P) :
  Calls Tryz.prog 8 #[.int .i64 d,v] w fun e w'=>e=.returned (.int .i64 0)∧Below w.heap.size w w':=by
 obtain ⟨vo,vc,rfl,am,au⟩:=ZAE hv
 have A:Hid (∀k X,k < P.length→Below w.heap.size w X→∃b o l g a,vo=some ⟨b,o,none⟩∧d+1≤a∧X.cell? ⟨b,o+k,none⟩=some (.slice (some ⟨l,g,none⟩) (d+1) a)∧Sl 0 3 X (.slice (some ⟨l,g,none⟩) (d+1) a) (ZAB (P.getD k []))):=fun k X m hX=>by
  obtain ⟨b,o,cp,rv,T,_,N,c⟩:=ZAP hv m;simp only [Za3] at T;have f:=(hG.row _ (ZAT m)).1
  obtain ⟨l,g,a,R,Q,_⟩:=ZAJ c (k:=0) (by omega)
  rw [f] at R Q;subst R
  exact ⟨b,o,l,g,a,T.1,by omega,(hX.cell (ZAI N)).trans N,c.below hX (Za4 _)⟩
 have D:Hid (∀k u X,k < P.length→Sl 0 3 X u (ZAB (P.getD k []))→Calls Tryz.prog 25 #[u,.int .i64 20] X fun e w'=>e=.returned (.bool false)∧w'=X):=fun k u X m hu=>by
  have:=ZJA 0 _ u 20 X hu (by decide) (by decide)
  have e:((P.getD k []).any (ZE8 · 20))=false:=by
   rw [List.any_eq_false];intro z y;have:=(hG.row _ (ZAT m)).2 z y;simp [ZE8]; omega
  rw [e] at this;exact this
 have t:Hid (∀k l g a X,k < P.length→Sl 0 3 X (.slice (some ⟨l,g,none⟩) (d+1) a) (ZAB (P.getD k []))→Calls Tryz.prog 24 #[.slice (some ⟨X.heap.size,0,none⟩) 1 1] (X.alloc (.cells #[.slice (some ⟨l,g,none⟩) d a] 22)) fun e w'=>∃z:Nat,e=.returned (.int .i64 (z:Int))∧((z:Int) == 0)=false∧Below X.heap.size X w'):=fun k l g a X m hu=>by
  have f:=(hG.row _ (ZAT m)).1
  have h1:=Sl.takeE (n:=d) (by rw [f]; exact hu) (by rw [f]; omega)
  refine (ZCL d 60 0 [(P.getD k []).take d] _ _ ⟨fun r hr=>?_,fun r hr z y=>?_,by omega,by omega,by decide,by rcases (show d=1∨d=2∨d=3 by omega) with rfl | rfl | rfl <;> decide⟩ (ZLI h1) (by simp)).mono ?_
  ·rw [List.mem_singleton.1 hr,List.length_take,f]; omega
  ·rw [List.mem_singleton.1 hr] at y
   have:=(hG.row _ (ZAT m)).2 z (Zaa7 y);omega
  ·rintro e w' ⟨rfl,p⟩
   refine ⟨_,rfl,?_,((Below.refl _ _).alloc (Za4 _) _).trans (p.mono (by simp))⟩
   have T:(ZAK d [(P.getD k []).take d]).length=(ZAK d [P.getD k []]).length:=ZIv (P:=[P.getD k []]);have:=hG.one _ (ZAT m);rw [T];generalize (ZAK d [P.getD k []]).length=z at *;simp; omega
 have O:Hid (∀k i u x X,k < i→i < P.length→Sl 0 3 X u (ZAB (P.getD i []))→Sl 0 3 X x (ZAB (P.getD k []))→Calls Tryz.prog 24 #[.slice (some ⟨X.heap.size,0,none⟩) 2 2] (X.alloc (.cells #[u,x] 22)) fun e w'=>∃z:Nat,e=.returned (.int .i64 (z:Int))∧((z:Int) == 1)=false∧Below X.heap.size X w'):=fun k i u x X m hi hu hx=>by
  refine (ZCL (d+1) 60 0 [P.getD i [],P.getD k []] _ _ (ZDl hd1 hd3 fun r hr=>?_) (ZHu hu hx) (by simp)).mono ?_
  ·simp only [List.mem_cons,List.not_mem_nil,or_false] at hr
   rcases hr with rfl | rfl
   ·exact hG.row _ (ZAT hi)
   ·exact hG.row _ (ZAT (by omega))
  ·rintro e w' ⟨rfl,p⟩
   refine ⟨_,rfl,?_,((Below.refl _ _).alloc (Za4 _) _).trans (p.mono (by simp))⟩
   have:=hG.two k i m hi;generalize (ZAK (d+1) [P.getD i [],P.getD k []]).length=z at *;simp; omega
 have t0:decide ((d:Int) < 1)=false:=decide_eq_false (by omega)
 have t1:decide ((3:Int) < (d:Int))=false:=decide_eq_false (by omega)
 have t2:decide ((6:Int) < (P.length:Int))=false:=decide_eq_false (by omega)
 have t3:(((d:Int)+1) == (d:Int)+1)=true:=by simp
 clear hv hG;go_enter Tryz.func8,Tryz.ntmps8;go_wp2
 go_loopw [5,6,7] (fun i _ _ wr=>∃k:Nat,k≤P.length∧i=.int .i64 (k:Int)∧Below w.heap.size w wr) (fun i _ _ _=>P.length-(intOf i).toNat)
 case atStart=>exact ⟨0,Za5 _,rfl,Below.refl _ _⟩
 case round=>
  obtain ⟨k,m,rfl,p⟩:=hrel;have F:=hid p;clear p
  by_cases hlt:k < P.length
  ·obtain ⟨b,o,l,g,a,ae,ar,c1,c⟩:=A.out k wr hlt F.out
   subst ae;have hF:=D.out k _ wr hlt c;have G:=t.out k l g a wr hlt c;have HF:=hid hF;have J:=hid G
   have U:Hid (∀X,Below wr.heap.size wr X→Sl 0 3 X (.slice (some ⟨l,g,none⟩) (d+1) a) (ZAB (P.getD k []))):=fun X hX=>c.below hX (Za4 _)
   have az:(k:Int) < (P.length:Int):=by omega
   have aj:(0:Int)≤(k:Int):=by omega
   have aA:(d:Int)≤(a:Int):=by omega
   have ai:(0:Int)≤(d:Int):=by omega
   clear hF G c D t
   go_wp2_with fail
   refine HF.out.mono ?_;rintro e w1 ⟨rfl,hw⟩;obtain rfl:=hw.symm;clear hw HF
   go_wp2_with fail
   refine J.out.mono ?_;rintro e w2 ⟨z,rfl,y,E⟩;have Y:=hid E;have aw:Hid (Below w.heap.size w w2):=F.out.trans (E.mono F.out.size);clear E J c1;go_wp2;clear y
   go_loopw [7] (fun i wq=>∃j:Nat,j≤k∧i=.int .i64 (j:Int)∧Below wr.heap.size wr wq) (fun i _=>k-(intOf i).toNat)
   case atStart=>exact ⟨0,Za5 _,rfl,Y.out⟩
   case round=>
    obtain ⟨j,hj,rfl,p⟩:=hrel
    rename World=>wq
    have S:Hid (Below w.heap.size w wq):=F.out.trans (p.mono F.out.size);have B:=hid p;clear p
    by_cases hlj:j < k
    ·obtain ⟨b2,o2,an,aq,ah,s,af,c2,M⟩:=A.out j wq (by omega) S.out
     simp only [Zaa9,Addr.mk.injEq,and_true] at s;obtain ⟨q1,q2⟩:=s;subst q1 q2;have G:=O.out j k _ _ wq hlj hlt (U.out wq B.out) M;have J:=hid G
     have ay:(j:Int) < (k:Int):=by omega
     have ak:(0:Int)≤(j:Int):=by omega
     have ag:(j:Int) < (P.length:Int):=by omega
     clear G M
     go_wp2_with fail
     refine J.out.mono ?_;rintro e w3 ⟨z,rfl,y,L⟩;have V:Hid (Below wr.heap.size wr w3):=B.out.trans (L.mono B.out.size);clear L J c2;go_wp2
     go_roundw
     case rel=>exact ⟨j+1,by omega,by go_num,V.out⟩
     case measure=>simp [intOf]; omega
    ·have aa:j=k:=by omega
     subst aa;go_wp2
     go_roundw
     case rel=>exact ⟨j+1,by omega,by go_num,S.out⟩
     case measure=>simp [intOf]; omega
  ·clear A D t O
   go_wp2;go_ret;exact ⟨rfl,F.out⟩
end Go.Proofs.YtgfnmkenpgnllaaGreat
