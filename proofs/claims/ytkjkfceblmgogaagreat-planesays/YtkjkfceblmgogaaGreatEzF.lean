import Derived.Test.YtkjkfceblmgogaaGreatSgE
set_option maxRecDepth 100000
set_option maxHeartbeats 4000000
namespace Go.Proofs.YtkjkfceblmgogaaGreat
open Go.RowKit
theorem ZNm(v:Int):ZA5 [v]=2 ^ v.toNat:=by simp [ZA5]
theorem ZI7{l:List Int}(h:B64 l):ZA5 l < 18446744073709551616:=ZKt l h
theorem ZLe(zs:List Int)(k:Nat)(h:k < zs.length):ZA5 (zs.take (k+1))=ZA5 (zs.take k) ||| 2 ^ (zs.getD k 0).toNat:=by
 rw [ZBz zs k h,ZEO,ZNm]
theorem B64.take{l:List Int}(h:B64 l)(k:Nat):B64 (l.take k):=fun x hx=>h x (Zaa7 hx)
theorem B64.get{l:List Int}(h:B64 l){k:Nat}(hk:k < l.length):0≤l.getD k 0∧l.getD k 0≤63:=h _ (by simp [hk])
theorem ZPo{z:Int}(h0:0≤z)(h63:z≤63):IntKind.u64.wrap ((2:Int) ^ z.toNat)=((2 ^ z.toNat:Nat):Int):=by
 have:2 ^ z.toNat < 2 ^ 64:=Nat.pow_lt_pow_right (by omega) (by omega)
 rw [IntKind.wrap_u64]
 have e:((2:Int) ^ z.toNat)=((2 ^ z.toNat:Nat):Int):=by simp
 rw [e];generalize 2 ^ z.toNat=q at *;omega
theorem ZPp(z:Int)(w:World)(h0:0≤z)(h63:z≤63) :
  Calls Tryz.prog 91 #[.int .i64 z] w fun e w'=>e=.returned (.int .u64 ((2 ^ z.toNat:Nat):Int))∧w'=w:=by
 have a:Hid (IntKind.u64.wrap ((2:Int) ^ z.toNat)=((2 ^ z.toNat:Nat):Int)):=ZPo h0 h63;go_enter Tryz.func91,Tryz.ntmps91;go_wp2;go_ret;exact ⟨ZBA a.out,rfl⟩
theorem ZG8(B:Nat)(zs:List Int)(v:Value)(w:World)(hv:Sl B 3 w v (ZAB zs))(hb:B64 zs) :
  Calls Tryz.prog 61 #[v] w fun e w'=>e=.returned (.int .u64 (ZA5 zs))∧∃n,w'=w.drewN n:=by
 obtain ⟨L,r,p,J,E⟩:=ZAI hv;subst p;have D:Hid (Sl B 3 w (.slice L zs.length r) (ZAB zs)):=hv;have A:=hid hb;clear hv hb;go_enter Tryz.func61,Tryz.ntmps61;go_wp2
 go_loopw [3,8] (fun s i wr=>∃k:Nat,k≤zs.length∧i=.int .i64 k∧s=.int .u64 (ZA5 (zs.take k))∧∃n,wr=w.drewN n) (fun _ i _=>zs.length-(intOf i).toNat)
 case atStart=>exact ⟨0,Za5 _,rfl,rfl,0,rfl⟩
 case round=>
  obtain ⟨k,N,rfl,rfl,n,rfl⟩:=hrel
  by_cases hlt:k < zs.length
  ·obtain ⟨b,o,M,x,F,G⟩:=ZAK D.out hlt
   simp only [Za3] at x;obtain ⟨rfl,_,rfl⟩:=x
   have a:Hid (ZA5 (zs.take (k+1))=ZA5 (zs.take k) ||| 2 ^ (zs.getD k 0).toNat):=ZLe zs k hlt
   obtain ⟨g,c⟩:=A.out.get hlt;have l:Hid (ZA5 (zs.take k) < 18446744073709551616):=ZI7 (A.out.take k);generalize ZA5 (zs.take k)=S at *;generalize zs.getD k 0=z at *
   have y:bits BinOp.or IntKind.u64 (S:Int) ((2 ^ z.toNat:Nat):Int)=((ZA5 (zs.take (k+1)):Nat):Int):=by
    have:2 ^ z.toNat < 2 ^ 64:=Nat.pow_lt_pow_right (by omega) (by omega)
    rw [bits_or_u64_nat S _ l.out (by simpa using this),a.out]
   have d:=ZPp z (w.drewN n) g c;have t:=hid d;clear d;generalize 2 ^ z.toNat=q2 at *;have f:=hid y;clear y a
   go_wp2_with fail
   refine t.out.mono ?_;rintro e O ⟨rfl,m⟩;subst m;go_wp2
   go_roundw
   case rel=>exact ⟨k+1,by omega,by go_num,by rw [f.out],_,rfl⟩
   case measure=>simp [intOf]; omega
  ·have j:zs.take k=zs:=Zaa2 (by omega)
   rw [j];go_wp2;go_ret;exact ⟨rfl,n,rfl⟩
theorem ZQv(x y:Nat)(w:World)(hx:x < 18446744073709551616)(hy:y < 18446744073709551616) :
  Calls Tryz.prog 90 #[.int .u64 x,.int .u64 y] w fun e w'=>e=.returned (.bool (ZPR x y == 0))∧w'=w:=by
 have a:=ZCr x y hx hy;go_enter Tryz.func90,Tryz.ntmps90
 go_wp2_with (simp only [a])
 go_ret
 exact ⟨ZAX (by rw [Bool.eq_iff_iff]; simp),rfl⟩
end Go.Proofs.YtkjkfceblmgogaaGreat
namespace Go.Proofs.YtkjkfceblmgogaaGreat
open Go.RowKit Lin
attribute [local go_sem ↓] Go.wp_at_zero Go.wp_at_succ
theorem Fr.mat0{B:Nat}{w:World}{v:Value}{m:List (List Int)}(h:Fr B 27 3 w v m):Mat 0 27 3 w v m:=by
 obtain ⟨a,b,c,d⟩:=h;exact ⟨a,b,Sl.own c,d⟩
theorem Rws.kept2{B n:Nat}{e2 e1:TypeId}{w w':World}{v u:Value}{m:List (List Int)}{us:List Value}(hne:e2≠e1)(h:Rws B e2 e1 w v m)(hu:w.ownsRow B e2 1 u n us)(hg:w.grownBy w' u.ownBlock)
 (ha:∀g,u.ownBlock=some g→v.ownBlock≠some g):Rws B e2 e1 w' v m:=by
 obtain ⟨a,b,c,d⟩:=h
 refine ⟨a,b,c.kept hg ?_,fun i hi=>(d i hi).grown hg (fun k hk=>⟨(hu.lt k hk).1,(ZAt hu hne k hk).2⟩)⟩
 cases hv:v.ownBlock with
 | none=>exact Or.inl rfl
 | some g=>exact Or.inr fun e=>ha g e.symm hv
structure E2(B:Nat)(w0 wr:World)(hv ov:Value)(HV WS:List (List Int)):Prop where
 h:Rws B 27 3 wr hv HV
 o:Rws B 27 3 wr ov WS
 ap:ZKV hv ov
 bel:Below B w0 wr
theorem E2.swap{B:Nat}{w0 wr:World}{hv ov:Value}{HV WS:List (List Int)}(h:E2 B w0 wr hv ov HV WS):E2 B w0 wr ov hv WS HV:=⟨h.o,h.h,fun g h1 h2=>h.ap g h2 h1,h.bel⟩
theorem E2.push{B:Nat}{w0 wr w5:World}{hv ov v' u:Value}{HV WS:List (List Int)}{vs:List Value}{zs:List Int}{ob:Obj}(h:E2 B w0 wr hv ov HV WS)(hB:B≤wr.heap.size)
 (g1:vs.length=HV.length)(g2:wr.ownsRow B 27 1 hv HV.length vs)(g3:∀i,i < HV.length→Sl B 3 wr (vs.getD i (.slice none 0 0)) (ZAB (HV.getD i [])))(hu:Sl B 3 wr u (ZAB zs))
 (ho:w5.ownsRow B 27 1 v' (HV.length+1) (vs ++ [u]))(hg:(wr.alloc ob).grownBy w5 hv.ownBlock)(hat:v'.ownBlock=hv.ownBlock∨v'.ownBlock=some (wr.heap.size+1)):E2 B w0 w5 v' ov (HV ++ [zs]) WS:=by
 refine ⟨Rws.push (e2:=27) (e1:=3) (by decide) g1 (g2.alloc _) (fun i hi=>(g3 i hi).alloc _) (hu.alloc _) ho hg,(h.o.alloc _).kept2 (by decide) (g2.alloc _) hg h.ap,fun g k1 k2=>?_,(h.bel.alloc hB _).grown hg (by simp; omega) (fun x hx=>(g2.lt x hx).1)⟩
 rcases hat with e | e
 ·rw [e] at k1; exact h.ap g k1 k2
 ·rw [e] at k1
  simp only [Zaa9] at k1;obtain ⟨_,_,a,_⟩:=h.o;have:=(a.lt g k2).2;omega
theorem ZI8{d:Nat}{P:List (List Int)} : rk d (P.map (List.take d))=rk d P:=by
 have e:∀(r:List Int) v,dot d (V (r.take d)) v=dot d (V r) v:=fun r v=>ZAa (fun i hi=>by simp [V,Zaa5 hi]) fun _ _=>rfl
 refine ZPK fun v=>⟨fun h r hr=>?_,fun h r hr=>?_⟩
 ·obtain ⟨p,a,rfl⟩:=List.mem_map.1 hr
  rw [e]; exact h p a
 ·rw [←e]; exact h _ (List.mem_map.2 ⟨r,hr,rfl⟩)
theorem ZLf(F:List Nat)(k:Nat)(h:k < F.length):(F.map fun (i:Nat)=>(i:Int)).getD k 0=((F.getD k 0:Nat):Int):=by simp [h]
theorem ZLg(F:List Nat)(P:List (List Int))(k:Nat)(h:k < F.length):(F.map fun i=>P.getD i []).getD k []=P.getD (F.getD k 0) []:=by simp [h]
theorem ZEj{α:Type}(l:List α)(k:Nat)(h:k < l.length)(e:α):l.take (k+1)=l.take k ++ [l.getD k e]:=by
 rw [Zaa1 h];simp [h]
theorem ZG9(d s:Nat)(P:List (List Int))(v:Value)(w:World){B0:Nat}(hv0:Mat B0 27 3 w v P)(hP:∀p∈P,p.length=d+1∧∀z∈p,z.natAbs≤20)(hd1:1≤d)(hd3:d≤3)(h6:P.length≤6)(hs:s < 2 ^ P.length) :
  Calls Tryz.prog 25 #[.int .i64 d,v,.int .i64 s] w fun e w'=>e=.returned (.tuple #[.bool (cen d P s),.int .i64 (rk d (plS P s):Nat)])∧Below w.heap.size w w':=by
 have hv:Mat w.heap.size 27 3 w v P:=hv0.any (Za4 _);clear hv0;obtain ⟨i0,hi,aD,aB,ag⟩:=info_parts Tryz.info27;obtain ⟨ro,rc,aU,bi,bq⟩:=ZAD hv;subst aU
 obtain ⟨F,hF⟩:∃F:List Nat,F=(List.range P.length).filter fun i=>s.testBit i:=⟨_,rfl⟩
 have ae:∀i∈F,i < P.length:=fun i hi=>by rw [hF] at hi; exact List.mem_range.1 (List.mem_filter.1 hi).1
 have bg:F.length≤6:=by rw [hF]; exact Zaa8 (List.length_filter_le _ _) (by simpa using h6)
 have hL:ZBH P.length s=F.map fun (i:Nat)=>(i:Int):=by rw [hF]; rfl
 have hR:plS P s=F.map fun i=>P.getD i []:=by rw [hF]; rfl
 have S:∀p∈plS P s,p.length=d+1∧∀z∈p,z.natAbs≤20:=fun p hp=>by
  rw [hR] at hp;obtain ⟨i,hi,rfl⟩:=List.mem_map.1 hp;exact hP _ (ZAg (ae i hi))
 have aA:Hid (Calls Tryz.prog 26 #[.int .i64 s] w fun e w'=>∃uo uc,e=.returned (.slice uo F.length uc)∧Sl 0 3 w' (.slice uo F.length uc) (ZAB (F.map fun (i:Nat)=>(i:Int)))∧Below w.heap.size w w'):=by
  refine (ZCN s P.length w hs (by omega)).mono ?_
  rintro e w' ⟨u,rfl,h1,h2⟩;rw [hL,Zab1] at h1;obtain ⟨uo,uc,rfl⟩:=ZAE h1;exact ⟨uo,uc,rfl,Sl.own h1,h2⟩
 have aN:Hid (∀(u:Value) X Bq,Mat Bq 27 3 X u ((plS P s).map (List.take d))→Calls Tryz.prog 20 #[u] X fun e w'=>e=.returned (.int .i64 (rk d (plS P s):Nat))∧Below X.heap.size X w'):=fun u X Bq hu=>by
  have:=ZC5 d 60 Bq ((plS P s).map (List.take d)) u X ⟨fun r hr=>by
   obtain ⟨p,hp,rfl⟩:=List.mem_map.1 hr
   rw [List.length_take,(S p hp).1]; omega,fun r hr z hz=>by
   obtain ⟨p,hp,rfl⟩:=List.mem_map.1 hr;have:=(S p hp).2 z (Zaa7 hz)
   omega,by omega,by omega,by decide,by
   rcases (show d=1∨d=2∨d=3 by omega) with rfl | rfl | rfl <;> decide⟩ hu (by rw [hR]; simp; omega)
  have e:(ZAJ d ((plS P s).map (List.take d))).length=rk d (plS P s):=ZI8;rw [e] at this;exact this
 have aQ:Hid (∀(u:Value) X Bq,Mat Bq 27 3 X u (plS P s)→Calls Tryz.prog 20 #[u] X fun e w'=>e=.returned (.int .i64 (rk (d+1) (plS P s):Nat))∧Below X.heap.size X w'):=fun u X Bq hu=>ZC5 (d+1) 60 Bq (plS P s) u X (ZEi hd1 hd3 S) hu (by rw [hR]; simp; omega)
 have aK:Hid (cen d P s=(((rk (d+1) (plS P s):Nat):Int) == ((rk d (plS P s):Nat):Int))):=by
  show _=_
  unfold cen;rw [Bool.eq_iff_iff,beq_iff_eq,beq_iff_eq];omega
 have aM:Hid (∀k,k < F.length→∃t b o rb E a,t=F.getD k 0∧ro=some ⟨b,o,none⟩∧t < P.length∧d+1≤a∧∀X,Below w.heap.size w X→X.cell? ⟨b,o+t,none⟩=some (.slice (some ⟨rb,E,none⟩) (d+1) a)∧Sl w.heap.size 3 X (.slice (some ⟨rb,E,none⟩) (d+1) a) (ZAB ((plS P s).getD k []))∧Sl w.heap.size 3 X (.slice (some ⟨rb,E,none⟩) d a) (ZAB (((plS P s).getD k []).take d))):=fun k hk=>by
  have ht:F.getD k 0 < P.length:=ae _ (by rw [Za2,Za9 hk]; exact List.getElem_mem _)
  obtain ⟨b,o,cp,rv,e1,_,ai,ar⟩:=ZAP hv ht;simp only [Za3] at e1;have ak:=(hP _ (ZAg ht)).1
  obtain ⟨rb,E,a,aj,aF,_⟩:=ZAK ar (k:=0) (by omega)
  rw [ak] at aj aF;subst aj
  refine ⟨_,b,o,rb,E,a,rfl,e1.1,ht,by omega,fun X hX=>?_⟩
  have h1:=ar.below hX (Za4 _);rw [hR,ZLg F P k hk]
  exact ⟨(hX.cell (ZAH ai)).trans ai,h1,Sl.takeE (by rw [ak]; exact h1) (by omega)⟩
 have aI:(plS P s).length=F.length:=by rw [hR]; simp
 have aC:Hid (∀k,k < F.length→(plS P s).take (k+1)=(plS P s).take k ++ [(plS P s).getD k []]):=fun k hk=>ZEj _ k (by omega) []
 have aP:Hid ((plS P s).take F.length=plS P s):=Zaa2 (by omega)
 have aT:Hid (∀k,k≤F.length→((plS P s).take k).length=k):=fun k hk=>by rw [List.length_take]; omega
 clear hv hP hF ae hL hR S aI hs;generalize cen d P s=ce at *;generalize plS P s=R at *;generalize rk d R=ra at *;generalize rk (d+1) R=rb at *;go_enter Tryz.func25,Tryz.ntmps25
 go_wp2_with fail
 refine aA.out.mono ?_;rintro e c ⟨uo,uc,rfl,am,aw⟩;have aJ:=hid am;have M:=hid aw;clear am aw aA;go_wp2
 go_loopw [9,10,11] (fun x y i wr=>∃k:Nat,k≤F.length∧i=.int .i64 k∧E2 c.heap.size c wr x y ((R.take k).map (List.take d)) (R.take k)) (fun _ _ i _=>F.length-(intOf i).toNat)
 case atStart=>exact ⟨0,Za5 _,rfl,⟨Rws.nil _ _ _ _,Rws.nil _ _ _ _,(fun g h=>by cases h),Below.refl _ _⟩⟩
 case round=>
  obtain ⟨k,hk,rfl,hf⟩:=hrel
  obtain ⟨m,rfl⟩:∃m,m=wr:=⟨_,rfl⟩
  have HF:=hid hf;have U:c.heap.size≤m.heap.size:=hf.bel.size
  have J:Hid (∀X,Below c.heap.size c X→Below w.heap.size w X):=fun X hX=>M.out.trans (hX.mono M.out.size)
  clear hf
  by_cases hlt:k < F.length
  ·obtain ⟨t,b,o,n,E,a,ht,rfl,bl,aX,T⟩:=aM.out k hlt
   have l:=hid T
   obtain ⟨lb,lo,lc,aG,_,N⟩:=ZAK aJ.out (k:=k) (by simpa using hlt)
   rw [ZLf F k hlt,←ht] at N;simp only [Za3] at aG;obtain ⟨rfl,-,rfl⟩:=aG
   have an:Hid (∀X,Below c.heap.size c X→X.cell? ⟨lb,lo+k,none⟩=some (.int .i64 t)):=fun X hX=>(hX.cell (ZAH N)).trans N
   have aS:Hid ((R.take (k+1)).map (List.take d)=(R.take k).map (List.take d) ++ [(R.getD k []).take d]):=by show _=_; rw [aC.out k hlt]; simp
   have aH:Hid (R.take (k+1)=R.take k ++ [R.getD k []]):=aC.out k hlt
   have aE:Hid (((R.take k).map (List.take d)).length≤6∧(R.take k).length≤6):=by
    have:=aT.out k hk
    refine ⟨?_,by omega⟩
    rw [Zab1]; omega
   clear T ht N;generalize R.getD k []=p at *;generalize (R.take k).map (List.take d)=A at *;generalize R.take k=B at *;obtain ⟨bt,bj⟩:=aE.out;have c1:=an.out m HF.out.bel;obtain ⟨c2,-,-⟩:=l.out m (J.out m HF.out.bel);obtain ⟨vs,g1,V,g3⟩:=HF.out.h;have G2:=hid V
   have G:Hid (∀v' j,j.ownsRow c.heap.size 27 1 v' (A.length+1) (vs ++ [.slice (some ⟨n,E,none⟩) d a])→(m.alloc (.cells #[.slice (some ⟨n,E,none⟩) d a] 27)).grownBy j u9.ownBlock→(v'.ownBlock=u9.ownBlock∨v'.ownBlock=some (m.heap.size+1))→E2 c.heap.size c j v' u10 (A ++ [p.take d]) B):=fun v' j L O f=>HF.out.push U g1 V g3 ((l.out m (J.out m HF.out.bel)).2.2.more M.out.size) L O f
   have bk:(k:Int) < (F.length:Int):=by omega
   have aZ:(0:Int)≤(k:Int):=by omega
   have bh:(t:Int) < (P.length:Int):=by omega
   have aW:(0:Int)≤(t:Int):=by omega
   have bp:(d:Int)≤(a:Int):=by omega
   have aY:(0:Int)≤(d:Int):=by omega
   clear g1 V g3 aE
   go_wp2_with (first | (at_builtin; refine wpList_append_own_at _ rfl _ _ 22 rfl c.heap.size 27 i0 (.slice none 0 0) 1 24 Tryz.underlying22 hi aD aB ag rfl (by decide) _ _ _ rfl (G2.out.alloc _) ⟨m.heap.size,0,none⟩ 1 1 [.slice (some ⟨n,E,none⟩) d a] rfl rfl (ZAS _ _ _) (ZAM _ _ _) ?d3 ?d4 ?d5 ?_))
   case d3=>unfold maxLen; omega
   case d4=>omega
   case d5=>first | omega | (simp; omega)
   intro x6 j L O _ f
   have D:Hid (E2 c.heap.size c j x6 u10 (A ++ [p.take d]) B):=G.out x6 j L O (by simpa using f)
   obtain ⟨xo,xc,aR⟩:=ZAE L;subst aR;clear L O f G G2 c1 c2;have au:c.heap.size≤j.heap.size:=D.out.bel.size;have c1:=an.out j D.out.bel;obtain ⟨c2,-,-⟩:=l.out j (J.out j D.out.bel);obtain ⟨vs,g1,V,g3⟩:=D.out.o;have G2:=hid V
   have G:Hid (∀v' Y,Y.ownsRow c.heap.size 27 1 v' (B.length+1) (vs ++ [.slice (some ⟨n,E,none⟩) (d+1) a])→(j.alloc (.cells #[.slice (some ⟨n,E,none⟩) (d+1) a] 27)).grownBy Y u10.ownBlock→(v'.ownBlock=u10.ownBlock∨v'.ownBlock=some (j.heap.size+1))→E2 c.heap.size c Y (.slice xo (A.length+1) xc) v' (A ++ [p.take d]) (B ++ [p])):=fun v' Y L O f=>(D.out.swap.push au g1 V g3 ((l.out j (J.out j D.out.bel)).2.1.more M.out.size) L O f).swap
   clear g1 V g3
   go_wp2_with (first | (at_builtin; refine wpList_append_own_at _ rfl _ _ 22 rfl c.heap.size 27 i0 (.slice none 0 0) 1 24 Tryz.underlying22 hi aD aB ag rfl (by decide) _ _ _ rfl (G2.out.alloc _) ⟨j.heap.size,0,none⟩ 1 1 [.slice (some ⟨n,E,none⟩) (d+1) a] rfl rfl (ZAS _ _ _) (ZAM _ _ _) ?d3 ?d4 ?d5 ?_))
   case d3=>unfold maxLen; omega
   case d4=>omega
   case d5=>first | omega | (simp; omega)
   intro y6 Y L O _ f
   have aL:Hid (E2 c.heap.size c Y (.slice xo (A.length+1) xc) y6 ((R.take (k+1)).map (List.take d)) (R.take (k+1))):=by
    show E2 _ _ _ _ _ _ _
    rw [aS.out,aH.out]
    exact G.out y6 Y L O (by simpa using f)
   clear L O f G G2 c1 c2;go_wp2
   exact ⟨⟨k+1,by omega,by go_num,aL.out⟩,by simp [intOf]; omega⟩
  ·have aO:k=F.length:=by omega
   subst aO
   have Q:Hid (E2 c.heap.size c m u9 u10 (R.map (List.take d)) R):=by have h:=HF.out; rw [aP.out] at h; exact h
   have HA:=aN.out u9 m _ (Q.out.h.mat (Za4 _));have aq:=hid HA;clear HA HF
   go_wp2_with fail
   refine aq.out.mono ?_;rintro e w2 ⟨rfl,aa⟩;have az:=aQ.out u10 w2 _ ((Q.out.o.below aa (Za4 _)).mat (Za4 _));have ah:=hid az;have af:Hid (Below w.heap.size w w2):=J.out w2 (Q.out.bel.trans (aa.mono U));clear az aa aq
   go_wp2_with fail
   refine ah.out.mono ?_;rintro e j ⟨rfl,ay⟩;have aV:Hid (Below w.heap.size w j):=af.out.trans (ay.mono af.out.size);clear ay ah Q af;go_wp2
   refine bodyPost_ret (v:=.tuple #[.bool ce,.int .i64 (ra:Nat)]) (by rw [aK.out]; simp [results,Tryz.results25,go_sem]) rfl ⟨rfl,aV.out⟩
theorem ZCg{B0:Nat}(d:Nat)(P:List (List Int))(v:Value)(w:World)(hd1:1≤d)(hd3:d≤3)(h6:P.length≤6)(hv:Mat B0 27 3 w v P) :
  Calls Tryz.prog 5 #[.int .i64 d,v] w fun e w'=>e=.returned (.int .i64 (ZJ6 d P))∧Below w.heap.size w w':=by
 obtain ⟨vo,vc,rfl,aO,aR⟩:=ZAD hv
 have m:Hid (∀k X,k < P.length→Below w.heap.size w X→∃b o ro c,vo=some ⟨b,o,none⟩∧(P.getD k []).length≤c∧((P.getD k []).length≠0→∃B A,ro=some ⟨B,A,none⟩)∧X.cell? ⟨b,o+k,none⟩=some (.slice ro (P.getD k []).length c)∧Sl B0 3 X (.slice ro (P.getD k []).length c) (ZAB (P.getD k []))):=fun k X hk hX=>by
  obtain ⟨b,o,cp,rv,e1,_,ai,f⟩:=ZAP hv hk;simp only [Za3] at e1;obtain ⟨ro,c,aA,aB,_⟩:=ZAI f;subst aA
  refine ⟨b,o,ro,c,e1.1,aB,fun hne=>?_,(hX.cell (ZAH ai)).trans ai,f.below hX (Za4 _)⟩
  obtain ⟨B,A,cc,hq,_,_⟩:=ZAK f (k:=0) (by omega)
  simp only [Za3] at hq;exact ⟨B,A,hq.1⟩
 have y:Hid (∀k u X,k < P.length→Sl B0 3 X u (ZAB (P.getD k []))→Calls Tryz.prog 19 #[u,.int .i64 20] X fun e w'=>e=.returned (.bool ((P.getD k []).any (ZDm · 20)))∧w'=X):=fun k u X hk hu=>
  ZJN _ _ u 20 X hu (by decide) (by decide)
 have E:Hid (∀k B A c X,k < P.length→((P.getD k []).length=d+1∧∀z∈P.getD k [],z.natAbs≤20)→Sl B0 3 X (.slice (some ⟨B,A,none⟩) (d+1) c) (ZAB (P.getD k []))→Calls Tryz.prog 20 #[.slice (some ⟨X.heap.size,0,none⟩) 1 1] (X.alloc (.cells #[.slice (some ⟨B,A,none⟩) d c] 27)) fun e w'=>e=.returned (.int .i64 ((ZAJ d [P.getD k []]).length:Nat))∧Below X.heap.size X w'):=fun k B A c X hk g hu=>by
  have Y:=g.1
  have h1:=Sl.takeE (n:=d) (by rw [Y]; exact hu) (by rw [Y]; omega)
  refine (ZC5 d 60 B0 [(P.getD k []).take d] _ _ ⟨fun r hr=>?_,fun r hr z hz=>?_,by omega,by omega,by decide,by rcases (show d=1∨d=2∨d=3 by omega) with rfl | rfl | rfl <;> decide⟩ (ZLX h1) (by simp)).mono ?_
  ·rw [List.mem_singleton.1 hr,List.length_take,Y]; omega
  ·rw [List.mem_singleton.1 hr] at hz
   have:=g.2 z (Zaa7 hz);omega
  ·rintro e w' ⟨rfl,F⟩
   refine ⟨?_,((Below.refl _ _).alloc (Za4 _) _).trans (F.mono (by simp))⟩
   have e1:(ZAJ d [(P.getD k []).take d]).length=(ZAJ d [P.getD k []]).length:=ZI8 (P:=[P.getD k []]);rw [e1]
 have p:Hid (∀k i u x X,((P.getD i []).length=d+1∧∀z∈P.getD i [],z.natAbs≤20)→((P.getD k []).length=d+1∧∀z∈P.getD k [],z.natAbs≤20)→Sl B0 3 X u (ZAB (P.getD i []))→Sl B0 3 X x (ZAB (P.getD k []))→Calls Tryz.prog 20 #[.slice (some ⟨X.heap.size,0,none⟩) 2 2] (X.alloc (.cells #[u,x] 27)) fun e w'=>e=.returned (.int .i64 ((ZAJ (d+1) [P.getD i [],P.getD k []]).length:Nat))∧Below X.heap.size X w'):=fun k i u x X hk G hu hx=>by
  refine (ZC5 (d+1) 60 B0 [P.getD i [],P.getD k []] _ _ (ZEi hd1 hd3 fun r hr=>?_) (ZLY hu hx) (by simp)).mono ?_
  ·simp only [List.mem_cons,List.not_mem_nil,or_false] at hr
   rcases hr with rfl | rfl
   ·exact hk
   ·exact G
  ·rintro e w' ⟨rfl,F⟩
   exact ⟨rfl,((Below.refl _ _).alloc (Za4 _) _).trans (F.mono (by simp))⟩
 have t0:decide ((d:Int) < 1)=false:=decide_eq_false (by omega)
 have t1:decide ((3:Int) < (d:Int))=false:=decide_eq_false (by omega)
 have t2:decide ((6:Int) < (P.length:Int))=false:=decide_eq_false (by omega)
 have t3:(((d:Int)+1) == (d:Int)+1)=true:=by simp
 obtain ⟨R,hR⟩:∃R,R=ZJ6 d P:=⟨_,rfl⟩
 rw [←hR];have ar:=hid hR;clear hv hR;go_enter Tryz.func5,Tryz.ntmps5;go_wp2
 go_loopw [5,6,7] (fun i _ _ wr=>∃k:Nat,k≤P.length∧i=.int .i64 (k:Int)∧(∀j,j < k→coE d (P.getD j []) (P.take j)=0)∧Below w.heap.size w wr) (fun i _ _ _=>P.length-(intOf i).toNat)
 case atStart=>exact ⟨0,Za5 _,rfl,fun j hj=>by omega,Below.refl _ _⟩
 case round=>
  obtain ⟨k,hk,rfl,hz,F⟩:=hrel;have L:=hid F;have J:=hid hz;clear F hz
  by_cases hlt:k < P.length
  ·obtain ⟨b,o,ro,c,aI,aa,Q,c1,f⟩:=m.out k wr hlt L.out
   subst aI
   have l:Hid (coE d (P.getD k []) (P.take k)≠0→R=coE d (P.getD k []) (P.take k)):=fun h=>ar.out.trans (ZLb hlt J.out h)
   have aP:(k:Int) < (P.length:Int):=by omega
   have aM:(0:Int)≤(k:Int):=by omega
   rcases ZLa (d+1) (P.getD k []) with ⟨hl,hE⟩ | ⟨hl,hf,hE⟩ | ⟨hl,hf,hE⟩
   ·have a:coE d (P.getD k []) (P.take k)=3:=by unfold coE; rw [hE]; rfl
    obtain rfl:R=3:=(l.out (by rw [a]; decide)).trans a
    have aG:(((P.getD k []).length:Int) != (d:Int)+1)=true:=by rw [bne_iff_ne]; omega
    generalize (P.getD k []).length=rl at *;clear l hE a hl f Q aa m y E p J;go_wp2;go_ret;exact ⟨rfl,L.out⟩
   ·have a:coE d (P.getD k []) (P.take k)=4:=by unfold coE; rw [hE]; rfl
    obtain rfl:R=4:=(l.out (by rw [a]; decide)).trans a
    have M:=y.out k _ wr hlt f;rw [hl] at f c1 M;rw [hf] at M;have HF:=hid M
    have aG:(((d+1:Nat):Int) != (d:Int)+1)=false:=by rw [bne_eq_false_iff_eq]; omega
    clear l hE a hl hf f Q aa M m y E p J
    go_wp2_with fail
    refine HF.out.mono ?_;rintro e w1 ⟨rfl,hw⟩;obtain rfl:=hw.symm;clear hw HF;go_wp2;go_ret;exact ⟨rfl,L.out⟩
   ·have g:=ZGB hE
    obtain ⟨B,A,rfl⟩:=Q (by omega)
    have M:=y.out k _ wr hlt f;rw [hl] at f c1 M aa;rw [hf] at M;have HF:=hid M
    have HR:Hid (Calls Tryz.prog 20 #[.slice (some ⟨wr.heap.size,0,none⟩) 1 1] (wr.alloc (.cells #[.slice (some ⟨B,A,none⟩) d c] 27)) fun e w'=>e=.returned (.int .i64 ((ZAJ d [P.getD k []]).length:Nat))∧Below wr.heap.size wr w'):=E.out k B A c wr hlt g f
    have N:Hid (∀X,Below wr.heap.size wr X→Sl B0 3 X (.slice (some ⟨B,A,none⟩) (d+1) c) (ZAB (P.getD k []))):=fun X hX=>f.below hX (Za4 _)
    have t:=hid g
    have O:Hid (coE d (P.getD k []) (P.take k)=if (ZAJ d [P.getD k []]).length=0 then 3 else if ((P.take k).any fun o=>decide ((ZAJ (d+1) [P.getD k [],o]).length=1))=true then 8 else 0):=by show _=_; unfold coE; rw [hE]; rfl
    have aQ:(d:Int)≤(c:Int):=by omega
    have aK:(0:Int)≤(d:Int):=by omega
    clear hE hl hf f Q M y E g
    go_wp2_with fail
    refine HF.out.mono ?_;rintro e w1 ⟨rfl,hw⟩;obtain rfl:=hw.symm;clear hw HF
    go_wp2_with fail
    refine HR.out.mono ?_;rintro e w2 ⟨rfl,V⟩;have aF:=hid V;have aD:Hid (Below w.heap.size w w2):=L.out.trans (V.mono L.out.size);clear V HR c1;generalize (ZAJ d [P.getD k []]).length=rk at *
    by_cases hrk:rk=0
    ·subst hrk
     have a:coE d (P.getD k []) (P.take k)=3:=by rw [O.out,if_pos rfl]
     obtain rfl:R=3:=(l.out (by rw [a]; decide)).trans a
     clear l O a m p J N t;go_wp2;go_ret;exact ⟨rfl,aD.out⟩
    ·have ak:((rk:Int) == 0)=false:=by simpa using hrk
     have s:Hid (coE d (P.getD k []) (P.take k)=if ((P.take k).any fun o=>decide ((ZAJ (d+1) [P.getD k [],o]).length=1))=true then 8 else 0):=by show _=_; rw [O.out,if_neg hrk]
     clear O hrk;go_wp2;clear ak
     go_loopw [7] (fun i wq=>∃j:Nat,j≤k∧i=.int .i64 (j:Int)∧(∀i,i < j→(ZAJ (d+1) [P.getD k [],P.getD i []]).length≠1)∧Below wr.heap.size wr wq) (fun i _=>k-(intOf i).toNat)
     case atStart=>exact ⟨0,Za5 _,rfl,fun i G=>by omega,aF.out⟩
     case round=>
      obtain ⟨j,hj,rfl,ay,F⟩:=hrel
      rename World=>wq
      have aj:Hid (Below w.heap.size w wq):=L.out.trans (F.mono L.out.size);have ae:=hid F;have S:=hid ay;clear F ay
      by_cases hlj:j < k
      ·obtain ⟨b2,o2,aC,an,T,aq,aw,c2,U⟩:=m.out j wq (by omega) aj.out
       simp only [Zaa9,Addr.mk.injEq,and_true] at T;obtain ⟨q1,q2⟩:=T;subst q1 q2;have ag:=(ZGD (J.out j hlj)).1;rw [ag.1] at c2 U
       have HR:Hid (Calls Tryz.prog 20 #[.slice (some ⟨wq.heap.size,0,none⟩) 2 2] (wq.alloc (.cells #[.slice (some ⟨B,A,none⟩) (d+1) c,.slice aC (d+1) an] 27)) fun e w'=>e=.returned (.int .i64 ((ZAJ (d+1) [P.getD k [],P.getD j []]).length:Nat))∧Below wq.heap.size wq w'):=p.out j k _ _ wq t.out ag (N.out wq ae.out) U
       have D:Hid ((ZAJ (d+1) [P.getD k [],P.getD j []]).length=1→R=8):=fun h=>by
        have hm:P.getD j []∈P.take k:=by
         have G:j < (P.take k).length:=by rw [List.length_take]; omega
         have:P.getD j []=(P.take k)[j]:=by simp [show j < P.length by omega]
         rw [this]; exact List.getElem_mem G
        have a:coE d (P.getD k []) (P.take k)=8:=by
         rw [s.out,if_pos];rw [List.any_eq_true]
         exact ⟨_,hm,by simpa using h⟩
        exact (l.out (by rw [a]; decide)).trans a
       have af:Hid ((ZAJ (d+1) [P.getD k [],P.getD j []]).length≠1→∀i,i < j+1→(ZAJ (d+1) [P.getD k [],P.getD i []]).length≠1):=fun h i G=>by
        rcases Nat.lt_or_eq_of_le (Nat.le_of_lt_succ G) with h1 | rfl
        ·exact S.out i h1
        ·exact h
       generalize (ZAJ (d+1) [P.getD k [],P.getD j []]).length=rk2 at *
       have aN:(j:Int) < (k:Int):=by omega
       have aL:(0:Int)≤(j:Int):=by omega
       have aJ:(j:Int) < (P.length:Int):=by omega
       clear U aw aq ag S
       go_wp2_with fail
       refine HR.out.mono ?_;rintro e w3 ⟨rfl,au⟩;have ah:Hid (Below wr.heap.size wr w3):=ae.out.trans (au.mono ae.out.size);clear au HR c2
       by_cases hr1:rk2=1
       ·subst hr1
        obtain rfl:R=8:=D.out rfl;clear D af l s J m p N t;go_wp2;go_ret;exact ⟨rfl,L.out.trans (ah.out.mono L.out.size)⟩
       ·have ak:((rk2:Int) == 1)=false:=by rw [beq_eq_false_iff_ne]; omega
        have am:=af.out hr1;have aE:=hid am;clear D af am;go_wp2
        go_roundw
        case rel=>exact ⟨j+1,by omega,by go_num,aE.out,ah.out⟩
        case measure=>simp [intOf]; omega
      ·have az:j=k:=by omega
       subst az
       have a:coE d (P.getD j []) (P.take j)=0:=by
        rw [s.out,if_neg];intro h;rw [List.any_eq_true] at h;obtain ⟨o,ho,h1⟩:=h;obtain ⟨i,G,rfl⟩:=List.getElem_of_mem ho;rw [List.length_take] at G
        refine S.out i (by omega) ?_
        rw [show P.getD i []=(P.take j)[i] by simp [show i < P.length by omega]]
        simpa using h1
       have aH:Hid (∀i,i < j+1→coE d (P.getD i []) (P.take i)=0):=fun i G=>by
        rcases Nat.lt_or_eq_of_le (Nat.le_of_lt_succ G) with h1 | rfl
        ·exact J.out i h1
        ·exact a
       clear l s S a J p N t;go_wp2
       go_roundw
       case rel=>exact ⟨j+1,by omega,by go_num,aH.out,aj.out⟩
       case measure=>simp [intOf]; omega
  ·obtain rfl:R=0:=ar.out.trans (ZGC fun j hj=>J.out j (by omega))
   clear m y E p J;go_wp2;go_ret;exact ⟨rfl,L.out⟩
theorem ZGF{B0:Nat}(d:Nat)(P:List (List Int))(v:Value)(w:World)(hd1:1≤d)(hd3:d≤3)(hG:PlG d P)(h6:P.length≤6)(hv:Mat B0 27 3 w v P) :
  Calls Tryz.prog 5 #[.int .i64 d,v] w fun e w'=>e=.returned (.int .i64 0)∧Below w.heap.size w w':=by
 have h:=ZCg d P v w hd1 hd3 h6 hv
 rwa [hG.pls] at h
end Go.Proofs.YtkjkfceblmgogaaGreat
