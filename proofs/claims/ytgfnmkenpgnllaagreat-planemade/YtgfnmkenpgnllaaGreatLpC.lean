import Derived.Test.YtgfnmkenpgnllaaGreatLpB
set_option maxRecDepth 100000
set_option maxHeartbeats 1600000
namespace Go.Proofs.YtgfnmkenpgnllaaGreat
open Go.RowKit Lin
attribute [local go_sem ↓] Go.wp_at_zero Go.wp_at_succ
def ZJZ(d:Nat)(rows:List (List Int))(g:List Int)(a b:Int):Prop:=
 (gmE d rows g≠0∧a=0∧b=0)∨∃y,gmE d rows g=0∧lwO d rows g (ZAZ rows g)=some y∧low [sdL rows d y (mW rows g y),uW rows g y]=[a,b]
theorem ZPC(x y:Int):∃a b,low [x,y]=[a,b]:=by
 have:=ZHb [x,y]
 match h:low [x,y] with
 | [a,b]=>exact ⟨a,b,rfl⟩
 | []=>rw [h] at this; simp at this
 | [_]=>rw [h] at this; simp at this
 | _ :: _ :: _ :: _=>rw [h] at this; simp at this
theorem ZNH(d:Nat)(rows:List (List Int))(g:List Int)(v gv:Value)(w:World)(hv:Mat 0 22 3 w v rows)(hg:Sl 0 3 w gv (ZAB g))(hc:CutOk d rows)(hgl:g.length=d)(hgb:∀z∈g,z.natAbs≤20) :
  Calls Tryz.prog 102 #[.agg #[.int .i64 d,v],gv] w fun e w'=>∃a b,e=.returned (.tuple #[.int .i64 a,.int .i64 b,.int .i64 (gmE d rows g)])∧ZJZ d rows g a b∧Below w.heap.size w w':=by
 obtain ⟨G,F,ag,az,aB⟩:=ZAE hv;obtain ⟨go,gc,T,_,_⟩:=ZAH hg;rw [hgl] at T;subst ag T;obtain ⟨W,hW,p,ai,E⟩:=ZCS w d (.slice G rows.length F);have aa:=hid hW
 have L:Hid (∀X,Below W.heap.size W X→Below w.heap.size w X):=fun X hX=>p.trans (hX.mono p.size)
 have au:=hid E
 have ak:Hid (∀X,Below W.heap.size W X→Mat 0 22 3 X (.slice G rows.length F) rows):=fun X hX=>hv.below (L.out X hX) (Za4 _)
 have P:Hid (Calls Tryz.prog 128 #[.agg #[.int .i64 d,.slice G rows.length F],.slice go d gc] W fun e w'=>∃tv,e=.returned (.tuple #[tv,.int .i64 (gmE d rows g)])∧LwV d rows g w' tv∧Below W.heap.size W w'):=
  ZGo d rows g _ _ W (hv.below p (Za4 _)) (hg.below p (Za4 _)) hc hgl hgb
 have x:Hid (∀y,y∈ZAZ rows g→WyOk rows y (mW rows g y) (uW rows g y)):=fun y hy=>ZK3 hc hgl hgb hy
 have R:Hid (RwE d rows):=hc.rw;obtain ⟨c0,c1⟩:=E W (Below.refl _ _);clear hv hg hc hgl hgb hW p ai E;go_enter Tryz.func102,Tryz.ntmps102
 go_upto_region 1 with fail
 rw [←aa.out]
 go_wp2_with fail
 refine P.out.mono ?_;rintro e o ⟨tv,rfl,ay,m⟩;have ah:=hid m;have U:=m.size;clear P c0 c1
 rcases ay with ⟨hE,rfl⟩ | ⟨y,co,cc,po,pc,hE,hy,rfl,hys,hms⟩
 ·have HE:=hid hE
  have aA:(gmE d rows g != 0)=true:=by simpa using hE
  clear hE m;unfold ZOI;go_wp2
  refine bodyPost_ret (v:=.tuple #[.int .i64 0,.int .i64 0,.int .i64 (gmE d rows g)]) (by simp [results,Tryz.results102,go_sem]) rfl ⟨0,0,rfl,.inl ⟨HE.out,rfl,rfl⟩,?_⟩
  exact L.out _ (ah.out.alloc U _)
 ·have HE:=hid hE
  have t:=ZDa hy
  obtain ⟨c,s⟩:∃c,c=o.alloc (.cells #[.slice co y.length cc,.slice po y.length pc,.int .i64 (uW rows g y)] 105):=⟨_,rfl⟩
  have j:Below o.heap.size o c:=by rw [s]; exact ZAG _ _
  have l:Below W.heap.size W c:=m.trans (j.mono m.size)
  have M:c.heap[o.heap.size]?=some (.cells #[.slice co y.length cc,.slice po y.length pc,.int .i64 (uW rows g y)] 105 (0,0)):=by rw [s]; exact ZAM _ _
  have A:Hid (∀X,Below c.heap.size c X→X.cell? ⟨w.heap.size,0,none⟩=some (.int .i64 d)∧X.cell? ⟨w.heap.size,1,none⟩=some (.slice G rows.length F)∧X.cell? ⟨o.heap.size,0,none⟩=some (.slice co y.length cc)∧X.cell? ⟨o.heap.size,1,none⟩=some (.slice po y.length pc)∧X.cell? ⟨o.heap.size,2,none⟩=some (.int .i64 (uW rows g y))):=fun X hX=>by
   have O:=(hX.block _ (Zaa3.1 M).1).trans M;obtain ⟨a1,a2⟩:=au.out X (l.trans (hX.mono l.size))
   exact ⟨a1,a2,by simp [World.cell?,O],by simp [World.cell?,O],by simp [World.cell?,O]⟩
  have ar:Hid (Calls Tryz.prog 129 #[.agg #[.int .i64 d,.slice G rows.length F],.agg #[.slice co y.length cc,.slice po y.length pc,.int .i64 (uW rows g y)]] c.drew fun e w'=>e=.returned (.int .i64 (sdL rows d y (mW rows g y)))∧Below c.heap.size c w'):=by
   have B:Below c.heap.size c c.drew:=(Below.refl _ _).drew;refine (ZF2 d rows y (mW rows g y) (uW rows g y) _ co po cc pc y.length c.drew ((ak.out c l).below B (Za4 _)) ((hys.below j (Za4 _)).below B (Za4 _)) ((hms.below j (Za4 _)).below B (Za4 _)) R.out (x.out y t) rfl).mono ?_;rintro e w' ⟨rfl,hb⟩;exact ⟨rfl,B.trans hb⟩
  have an:=ZIo (x.out y t) R.out;have aq:=(x.out y t).ub;obtain ⟨Y,V,r⟩:=ZPC (sdL rows d y (mW rows g y)) (uW rows g y);have am:Hid (ZJZ d rows g Y V):=.inr ⟨y,hE,hy,r⟩
  have aw:Hid (∀X,Below c.heap.size c X→Calls Tryz.prog 104 #[.slice (some ⟨X.heap.size,0,none⟩) 2 2] (X.alloc (.cells #[.int .i64 (sdL rows d y (mW rows g y)),.int .i64 (uW rows g y)] 3)) fun e w'=>∃J Q,e=.returned (.slice (some ⟨J,0,none⟩) 2 Q)∧w'.cell? ⟨J,0,none⟩=some (.int .i64 Y)∧w'.cell? ⟨J,1,none⟩=some (.int .i64 V)∧Below c.heap.size c w'):=fun X hX=>by
   refine (ZB3 0 [sdL rows d y (mW rows g y),uW rows g y] _ _ (ZRZ (w:=X)) (by simp) (fun z hz=>?_)).mono ?_
   ·simp only [List.mem_cons,List.not_mem_nil,or_false] at hz
    rcases hz with rfl | rfl <;> omega
   ·rintro e w' ⟨u,rfl,ho,hb⟩
    rw [r] at ho;obtain ⟨J,Q,rfl,_,q0,O⟩:=ZJY ho
    exact ⟨J,Q,rfl,q0,O,hX.trans (((ZAG X _).trans (hb.mono (by rw [size_alloc]; omega))).mono hX.size)⟩
  have aj:Hid (∀X,Below c.heap.size c X→Below w.heap.size w X):=fun X hX=>L.out X (l.trans (hX.mono l.size))
  have ae:=hid s;rw [hE];clear hE hy hys hms t j l M r an aq s m x;generalize sdL rows d y (mW rows g y)=sy at *;generalize uW rows g y=uy at *
  go_upto_region 4 with fail
  rw [←ae.out]
  refine wp_region_held_drew (S:=fun X=>Below c.heap.size c X∧X.cell? ⟨w.heap.size,0,none⟩=some (.int .i64 d)∧X.cell? ⟨w.heap.size,1,none⟩=some (.slice G rows.length F)∧X.cell? ⟨o.heap.size,0,none⟩=some (.slice co y.length cc)∧X.cell? ⟨o.heap.size,1,none⟩=some (.slice po y.length pc)∧X.cell? ⟨o.heap.size,2,none⟩=some (.int .i64 uy)) (by kernel_rfl) ⟨(Below.refl _ _).drew,A.out _ (Below.refl _ _).drew⟩ (fun hHeld=>?_)
  refine ZAA (i:=0) (d:=18) (v:=(.agg #[.int .i64 d,.slice G rows.length F])) rfl rfl (by kernel_rfl) (by kernel_rfl) (by kernel_rfl) (fun _ _ _ h=>h) (.inl ⟨by rfl,by (intro wq f; (try dsimp only at f); go_simp; (try (first | rfl | omega)))⟩) hHeld ?_
  simp only [Act.put,Za1,List.set]
  refine ZAA (i:=1) (d:=19) (v:=(.agg #[.slice co y.length cc,.slice po y.length pc,.int .i64 uy])) rfl rfl (by kernel_rfl) (by kernel_rfl) (by kernel_rfl) (fun _ _ _ h=>h) (.inl ⟨by rfl,by (intro wq f; (try dsimp only at f); go_simp; (try (first | rfl | omega)))⟩) hHeld ?_
  simp only [Act.put,Za1,List.set]
  refine ZAA (i:=3) (d:=21) (v:=(.pointer (some ⟨o.heap.size,2,none⟩))) rfl rfl (by kernel_rfl) (by kernel_rfl) (by kernel_rfl) (fun _ _ _ h=>h) (.inl ⟨by rfl,by (intro wq f; (try dsimp only at f); go_simp; (try (first | rfl | omega)))⟩) hHeld ?_
  simp only [Act.put,Za1,List.set]
  refine ZAA (i:=4) (d:=22) (v:=(.int .i64 uy)) rfl rfl (by kernel_rfl) (by kernel_rfl) (by kernel_rfl) (fun _ _ _ h=>h) (.inl ⟨by rfl,by (intro wq f; (try dsimp only at f); go_simp; (try (first | rfl | omega)))⟩) hHeld ?_
  simp only [Act.put,Za1,List.set]
  refine wpAnyH_ready (rs:=[2]) (by kernel_rfl) (by simp) ?_
  refine ZAF (i:=2) rfl (by rfl) (fun K hK=>?_) AllReadyH.nil
  go_simp;refine ar.out.mono ?_;rintro e w5 ⟨rfl,n⟩
  refine hK.out _ _ ⟨n,A.out w5 n⟩ (fun hHeld=>?_)
  clear hK K
  refine wpAnyH_ready (rs:=[5]) (by kernel_rfl) (by simp) ?_
  refine ZAF (i:=5) rfl (by rfl) (fun K hK=>?_) AllReadyH.nil
  go_simp;have N:Below c.heap.size c (w5.alloc (.cells #[.int .i64 sy,.int .i64 uy] 3)):=n.alloc n.size _
  refine hK.out _ _ ⟨N,A.out _ N⟩ (fun hHeld=>?_)
  clear hK K
  refine wpAnyH_ready (rs:=[6]) (by kernel_rfl) (by simp) ?_
  refine ZAF (i:=6) rfl (by rfl) (fun K hK=>?_) AllReadyH.nil
  go_simp;refine (aw.out w5 n).mono ?_;rintro e w7 ⟨J,Q,rfl,q0,O,D⟩
  refine hK.out _ _ ⟨D,A.out w7 D⟩ (fun hHeld=>?_)
  clear hK K
  refine ZAA (i:=7) (d:=8) (v:=(.slice (some ⟨J,0,none⟩) 2 Q)) rfl rfl (by kernel_rfl) (by kernel_rfl) (by kernel_rfl) (fun _ _ _ h=>h) (.inl ⟨by rfl,by (intro wq f; (try dsimp only at f); go_simp; (try (first | rfl | omega)))⟩) hHeld ?_
  simp only [Act.put,Za1,List.set]
  refine wpAnyH_done (by kernel_rfl) ?_ _
  have af:Hid (Below w.heap.size w w7):=aj.out w7 D;clear hHeld n N D;go_wp2
  go_region
  go_wp2
  refine bodyPost_ret (v:=.tuple #[.int .i64 Y,.int .i64 V,.int .i64 0]) (by simp [results,Tryz.results102,go_sem]) rfl ⟨Y,V,by rw [HE.out],am.out,af.out.drew⟩
end Go.Proofs.YtgfnmkenpgnllaaGreat
namespace Go.Proofs.YtgfnmkenpgnllaaGreat
open Go.RowKit Lin
theorem ZK6(rows:List (List Int))(y:List Int):(pks rows [] y).length=y.length:=by simp [pks]
theorem ZQO{rows:List (List Int)}{y:List Int}{i:Nat}(h:i < y.length):(pks rows [] y).getD i []=rows.getD (y.getD i 0).toNat []:=by
 simp [pks,h]
theorem ZK7{l:List Int}{n i:Nat}(h:i < n):(l.take n).getD i 0=l.getD i 0:=by
 simp [h]
theorem ZK8{rows:List (List Int)}{y:List Int}{a:Nat→Int}{j:Nat} : sv (pks rows [] y) a j=sumN y.length fun q=>a q*(rows.getD (y.getD q 0).toNat []).getD j 0:=by
 rw [ZFu,ZK6]
 refine ZAC fun q hq=>?_
 rw [ZQO hq];rfl
theorem ZRC{rows:List (List Int)}{g y:List Int}{j:Nat} : sv (pks rows [] y) (V (mW rows g y)) j=sv (pks rows [] y) (V (ZAv g (pks rows [] y))) j:=by
 rw [ZK8,ZK8]
 refine ZAC fun q hq=>?_
 show (mW rows g y).getD q 0*_=(ZAv g (pks rows [] y)).getD q 0*_
 unfold mW;rw [ZK7 hq]
theorem ZPD{d:Nat}{rows:List (List Int)}{g y:List Int}(hg:g.length=d):sdL rows d y (mW rows g y)=wS g (pks rows [] y):=by
 unfold wS;rw [hg,←ZRC,ZK8];rfl
theorem ZNI{rows:List (List Int)}{g y:List Int} : uW rows g y=wU g (pks rows [] y):=by
 unfold wU uW;rw [ZK6];rfl
theorem ZNJ{rows:List (List Int)}{g t:List (List Int)}{g':List Int}(hs:t.Sublist rows)(hw:ZBP g' t=true)(_:g=g):∃c∈ZAZ rows g',pks rows [] c=t:=by
 have a:=ZCM rows [] t.length 0;rw [List.drop_zero] at a;have b:t∈chz t.length rows:=ZBn.2 ⟨hs,rfl⟩;rw [←a] at b;obtain ⟨c,f,d⟩:=List.mem_map.1 b;refine ⟨c,?_,d⟩;simp only [ZAZ,ZAw,List.mem_flatMap,List.mem_range,List.mem_filter]
 refine ⟨t.length,?_,f,by rw [d]; exact hw⟩
 have:=hs.length_le;have:=ZGi hw;omega
theorem ZK9{rows:List (List Int)}{g y:List Int}(h:y∈ZAZ rows g):(pks rows [] y).Sublist rows:=by
 simp only [ZAZ,ZAw,List.mem_flatMap,List.mem_range,List.mem_filter] at h;obtain ⟨m,d,a,c⟩:=h;have b:=ZCM rows [] m 0;rw [List.drop_zero] at b
 have:pks rows [] y∈chz m rows:=by rw [←b]; exact List.mem_map.2 ⟨y,a,rfl⟩
 exact (ZBn.1 this).1
theorem ZOJ(l:List Int)(i:Nat):(gc l:Int)*(low l).getD i 0=l.getD i 0:=by
 have h:=ZKy l
 have a:=congrArg (fun m:List Int=>m.getD i 0) h
 simp only [Za2,List.getElem?_map] at a;simp only [Za2]
 cases hz:(low l)[i]? with
 | none=>rw [hz] at a; simpa using a
 | some z=>rw [hz] at a; simpa using a
theorem ZGp{S U a b:Int}(h:low [S,U]=[a,b]):S*b=a*U∧a.natAbs≤S.natAbs+U.natAbs∧b.natAbs≤S.natAbs+U.natAbs:=by
 have m:=ZKy [S,U]
 have c:=ZFF (l:=[S,U]) (b:=S.natAbs+U.natAbs) (fun z hz=>by
  simp only [List.mem_cons,List.not_mem_nil,or_false] at hz
  rcases hz with rfl | rfl <;> omega)
 rw [h] at m c;simp only [List.map_cons,List.map_nil,List.cons.injEq,and_true] at m
 have d:=c a (by simp)
 have f:=c b (by simp)
 clear c h;generalize ((gc [S,U]:Nat):Int)=G at m;obtain ⟨i,g⟩:=m;refine ⟨?_,d,f⟩;rw [←i,←g,Int.mul_assoc,Int.mul_left_comm]
end Go.Proofs.YtgfnmkenpgnllaaGreat
