import Derived.Test.YtkjkfceblmgogaaGreatLpB
set_option maxRecDepth 100000
set_option maxHeartbeats 1600000
namespace Go.Proofs.YtkjkfceblmgogaaGreat
open Go.RowKit Lin
attribute [local go_sem ↓] Go.wp_at_zero Go.wp_at_succ
def ZJo(d:Nat)(rows:List (List Int))(g:List Int)(a b:Int):Prop:=
 (gmE d rows g≠0∧a=0∧b=0)∨∃y,gmE d rows g=0∧lwO d rows g (ZAY rows g)=some y∧low [sdL rows d y (mW rows g y),uW rows g y]=[a,b]
theorem ZPc(x y:Int):∃a b,low [x,y]=[a,b]:=by
 have:=ZHo [x,y]
 match h:low [x,y] with
 | [a,b]=>exact ⟨a,b,rfl⟩
 | []=>rw [h] at this; simp at this
 | [_]=>rw [h] at this; simp at this
 | _ :: _ :: _ :: _=>rw [h] at this; simp at this
theorem ZNa(d:Nat)(rows:List (List Int))(g:List Int)(v gv:Value)(w:World){B0 B1:Nat}(hv:Mat B0 27 3 w v rows)(hg:Sl B1 3 w gv (ZAB g))(hc:CutF d rows)(hgl:g.length=d)(hgb:∀z∈g,z.natAbs≤20) :
  Calls Tryz.prog 97 #[.agg #[.int .i64 d,v],gv] w fun e w'=>∃a b,e=.returned (.tuple #[.int .i64 a,.int .i64 b,.int .i64 (gmE d rows g)])∧ZJo d rows g a b∧Below w.heap.size w w':=by
 obtain ⟨J,F,am,aA,az⟩:=ZAD hv;obtain ⟨go,gc,T,_,_⟩:=ZAI hg;rw [hgl] at T;subst am T;obtain ⟨W,hW,r,af,N⟩:=ZCQ w d (.slice J rows.length F);have ar:=hid hW
 have E:Hid (∀X,Below W.heap.size W X→Below w.heap.size w X):=fun X hX=>r.trans (hX.mono r.size)
 have au:=hid N
 have aw:Hid (∀X,Below W.heap.size W X→Mat B0 27 3 X (.slice J rows.length F) rows):=fun X hX=>hv.below (E.out X hX) (Za4 _)
 have R:Hid (Calls Tryz.prog 123 #[.agg #[.int .i64 d,.slice J rows.length F],.slice go d gc] W fun e w'=>∃tv,e=.returned (.tuple #[tv,.int .i64 (gmE d rows g)])∧LwV d rows g w' tv∧Below W.heap.size W w'):=
  ZGz d rows g _ _ W (hv.below r (Za4 _)) (hg.below r (Za4 _)) hc hgl hgb
 have s:Hid (∀y,y∈ZAY rows g→WyOk rows y (mW rows g y) (uW rows g y)):=fun y hy=>ZLJ hc hgl hgb hy
 have U:Hid (RwE d rows):=hc.rw;obtain ⟨c0,c1⟩:=N W (Below.refl _ _);clear hv hg hc hgl hgb hW r af N;go_enter Tryz.func97,Tryz.ntmps97
 go_upto_region 1 with fail
 rw [←ar.out]
 go_wp2_with fail
 refine R.out.mono ?_;rintro e o ⟨tv,rfl,an,l⟩;have aa:=hid l;have P:=l.size;clear R c0 c1
 rcases an with ⟨hE,rfl⟩ | ⟨y,co,cc,po,pc,hE,hy,rfl,hys,hms⟩
 ·have HE:=hid hE
  have aB:(gmE d rows g != 0)=true:=by simpa using hE
  clear hE l;unfold ZOh;go_wp2
  refine bodyPost_ret (v:=.tuple #[.int .i64 0,.int .i64 0,.int .i64 (gmE d rows g)]) (by simp [results,Tryz.results97,go_sem]) rfl ⟨0,0,rfl,.inl ⟨HE.out,rfl,rfl⟩,?_⟩
  exact E.out _ (aa.out.alloc P _)
 ·have HE:=hid hE
  have t:=ZDa hy
  obtain ⟨c,D⟩:∃c,c=o.alloc (.cells #[.slice co y.length cc,.slice po y.length pc,.int .i64 (uW rows g y)] 101):=⟨_,rfl⟩
  have j:Below o.heap.size o c:=by rw [D]; exact ZAG _ _
  have n:Below W.heap.size W c:=l.trans (j.mono l.size)
  have G:c.heap[o.heap.size]?=some (.cells #[.slice co y.length cc,.slice po y.length pc,.int .i64 (uW rows g y)] 101 (0,0)):=by rw [D]; exact ZAL _ _
  have A:Hid (∀X,Below c.heap.size c X→X.cell? ⟨w.heap.size,0,none⟩=some (.int .i64 d)∧X.cell? ⟨w.heap.size,1,none⟩=some (.slice J rows.length F)∧X.cell? ⟨o.heap.size,0,none⟩=some (.slice co y.length cc)∧X.cell? ⟨o.heap.size,1,none⟩=some (.slice po y.length pc)∧X.cell? ⟨o.heap.size,2,none⟩=some (.int .i64 (uW rows g y))):=fun X hX=>by
   have O:=(hX.block _ (Zaa3.1 G).1).trans G;obtain ⟨a1,a2⟩:=au.out X (n.trans (hX.mono n.size))
   exact ⟨a1,a2,by simp [World.cell?,O],by simp [World.cell?,O],by simp [World.cell?,O]⟩
  have ak:Hid (Calls Tryz.prog 124 #[.agg #[.int .i64 d,.slice J rows.length F],.agg #[.slice co y.length cc,.slice po y.length pc,.int .i64 (uW rows g y)]] c.drew fun e w'=>e=.returned (.int .i64 (sdL rows d y (mW rows g y)))∧Below c.heap.size c w'):=by
   have x:Below c.heap.size c c.drew:=(Below.refl _ _).drew;refine (ZF9 d rows y (mW rows g y) (uW rows g y) _ co po cc pc y.length c.drew ((aw.out c n).below x (Za4 _)) ((hys.below j (Za4 _)).below x (Za4 _)) ((hms.below j (Za4 _)).below x (Za4 _)) U.out (s.out y t) rfl).mono ?_;rintro e w' ⟨rfl,hb⟩;exact ⟨rfl,x.trans hb⟩
  have ag:=ZI1 (s.out y t) U.out;have ai:=(s.out y t).ub;obtain ⟨Y,rb,p⟩:=ZPc (sdL rows d y (mW rows g y)) (uW rows g y);have ah:Hid (ZJo d rows g Y rb):=.inr ⟨y,hE,hy,p⟩
  have aj:Hid (∀X,Below c.heap.size c X→Calls Tryz.prog 99 #[.slice (some ⟨X.heap.size,0,none⟩) 2 2] (X.alloc (.cells #[.int .i64 (sdL rows d y (mW rows g y)),.int .i64 (uW rows g y)] 3)) fun e w'=>∃L Q,e=.returned (.slice (some ⟨L,0,none⟩) 2 Q)∧w'.cell? ⟨L,0,none⟩=some (.int .i64 Y)∧w'.cell? ⟨L,1,none⟩=some (.int .i64 rb)∧Below c.heap.size c w'):=fun X hX=>by
   refine (ZB4 0 [sdL rows d y (mW rows g y),uW rows g y] _ _ (ZR3 (w:=X)) (by simp) (fun z hz=>?_)).mono ?_
   ·simp only [List.mem_cons,List.not_mem_nil,or_false] at hz
    rcases hz with rfl | rfl <;> omega
   ·rintro e w' ⟨u,rfl,ho,hb⟩
    rw [p] at ho;obtain ⟨L,Q,rfl,_,q0,O⟩:=ZJm ho
    exact ⟨L,Q,rfl,q0,O,hX.trans (((ZAG X _).trans (hb.mono (by rw [size_alloc]; omega))).mono hX.size)⟩
  have aq:Hid (∀X,Below c.heap.size c X→Below w.heap.size w X):=fun X hX=>E.out X (n.trans (hX.mono n.size))
  have ae:=hid D;rw [hE];clear hE hy hys hms t j n G p ag ai D l s;generalize sdL rows d y (mW rows g y)=sy at *;generalize uW rows g y=uy at *
  go_upto_region 4 with fail
  rw [←ae.out]
  refine wp_region_held_drew (S:=fun X=>Below c.heap.size c X∧X.cell? ⟨w.heap.size,0,none⟩=some (.int .i64 d)∧X.cell? ⟨w.heap.size,1,none⟩=some (.slice J rows.length F)∧X.cell? ⟨o.heap.size,0,none⟩=some (.slice co y.length cc)∧X.cell? ⟨o.heap.size,1,none⟩=some (.slice po y.length pc)∧X.cell? ⟨o.heap.size,2,none⟩=some (.int .i64 uy)) (by kernel_rfl) ⟨(Below.refl _ _).drew,A.out _ (Below.refl _ _).drew⟩ (fun hHeld=>?_)
  refine ZAA (i:=0) (d:=18) (v:=(.agg #[.int .i64 d,.slice J rows.length F])) rfl rfl (by kernel_rfl) (by kernel_rfl) (by kernel_rfl) (fun _ _ _ h=>h) (.inl ⟨by rfl,by (intro V f; (try dsimp only at f); go_simp; (try (first | rfl | omega)))⟩) hHeld ?_
  simp only [Act.put,Za1,List.set]
  refine ZAA (i:=1) (d:=19) (v:=(.agg #[.slice co y.length cc,.slice po y.length pc,.int .i64 uy])) rfl rfl (by kernel_rfl) (by kernel_rfl) (by kernel_rfl) (fun _ _ _ h=>h) (.inl ⟨by rfl,by (intro V f; (try dsimp only at f); go_simp; (try (first | rfl | omega)))⟩) hHeld ?_
  simp only [Act.put,Za1,List.set]
  refine ZAA (i:=3) (d:=21) (v:=(.pointer (some ⟨o.heap.size,2,none⟩))) rfl rfl (by kernel_rfl) (by kernel_rfl) (by kernel_rfl) (fun _ _ _ h=>h) (.inl ⟨by rfl,by (intro V f; (try dsimp only at f); go_simp; (try (first | rfl | omega)))⟩) hHeld ?_
  simp only [Act.put,Za1,List.set]
  refine ZAA (i:=4) (d:=22) (v:=(.int .i64 uy)) rfl rfl (by kernel_rfl) (by kernel_rfl) (by kernel_rfl) (fun _ _ _ h=>h) (.inl ⟨by rfl,by (intro V f; (try dsimp only at f); go_simp; (try (first | rfl | omega)))⟩) hHeld ?_
  simp only [Act.put,Za1,List.set]
  refine wpAnyH_ready (rs:=[2]) (by kernel_rfl) (by simp) ?_
  refine ZAF (i:=2) rfl (by rfl) (fun K hK=>?_) AllReadyH.nil
  go_simp;refine ak.out.mono ?_;rintro e w5 ⟨rfl,m⟩
  refine hK.out _ _ ⟨m,A.out w5 m⟩ (fun hHeld=>?_)
  clear hK K
  refine wpAnyH_ready (rs:=[5]) (by kernel_rfl) (by simp) ?_
  refine ZAF (i:=5) rfl (by rfl) (fun K hK=>?_) AllReadyH.nil
  go_simp;have M:Below c.heap.size c (w5.alloc (.cells #[.int .i64 sy,.int .i64 uy] 3)):=m.alloc m.size _
  refine hK.out _ _ ⟨M,A.out _ M⟩ (fun hHeld=>?_)
  clear hK K
  refine wpAnyH_ready (rs:=[6]) (by kernel_rfl) (by simp) ?_
  refine ZAF (i:=6) rfl (by rfl) (fun K hK=>?_) AllReadyH.nil
  go_simp;refine (aj.out w5 m).mono ?_;rintro e w7 ⟨L,Q,rfl,q0,O,B⟩
  refine hK.out _ _ ⟨B,A.out w7 B⟩ (fun hHeld=>?_)
  clear hK K
  refine ZAA (i:=7) (d:=8) (v:=(.slice (some ⟨L,0,none⟩) 2 Q)) rfl rfl (by kernel_rfl) (by kernel_rfl) (by kernel_rfl) (fun _ _ _ h=>h) (.inl ⟨by rfl,by (intro V f; (try dsimp only at f); go_simp; (try (first | rfl | omega)))⟩) hHeld ?_
  simp only [Act.put,Za1,List.set]
  refine wpAnyH_done (by kernel_rfl) ?_ _
  have ay:Hid (Below w.heap.size w w7):=aq.out w7 B;clear hHeld m M B;go_wp2
  go_region
  go_wp2
  refine bodyPost_ret (v:=.tuple #[.int .i64 Y,.int .i64 rb,.int .i64 0]) (by simp [results,Tryz.results97,go_sem]) rfl ⟨Y,rb,by rw [HE.out],ah.out,ay.out.drew⟩
end Go.Proofs.YtkjkfceblmgogaaGreat
namespace Go.Proofs.YtkjkfceblmgogaaGreat
open Go.RowKit Lin
theorem ZLL(rows:List (List Int))(y:List Int):(pks rows [] y).length=y.length:=by simp [pks]
theorem ZQp{rows:List (List Int)}{y:List Int}{i:Nat}(h:i < y.length):(pks rows [] y).getD i []=rows.getD (y.getD i 0).toNat []:=by
 simp [pks,h]
theorem ZLM{l:List Int}{n i:Nat}(h:i < n):(l.take n).getD i 0=l.getD i 0:=by
 simp [h]
theorem ZLN{rows:List (List Int)}{y:List Int}{a:Nat→Int}{j:Nat} : sv (pks rows [] y) a j=sumN y.length fun q=>a q*(rows.getD (y.getD q 0).toNat []).getD j 0:=by
 rw [ZF0,ZLL]
 refine ZAC fun q hq=>?_
 rw [ZQp hq];rfl
theorem ZRg{rows:List (List Int)}{g y:List Int}{j:Nat} : sv (pks rows [] y) (V (mW rows g y)) j=sv (pks rows [] y) (V (ZAw g (pks rows [] y))) j:=by
 rw [ZLN,ZLN]
 refine ZAC fun q hq=>?_
 show (mW rows g y).getD q 0*_=(ZAw g (pks rows [] y)).getD q 0*_
 unfold mW;rw [ZLM hq]
theorem ZPd{d:Nat}{rows:List (List Int)}{g y:List Int}(hg:g.length=d):sdL rows d y (mW rows g y)=wS g (pks rows [] y):=by
 unfold wS;rw [hg,←ZRg,ZLN];rfl
theorem ZNb{rows:List (List Int)}{g y:List Int} : uW rows g y=wU g (pks rows [] y):=by
 unfold wU uW;rw [ZLL];rfl
theorem ZNc{rows:List (List Int)}{g t:List (List Int)}{g':List Int}(hs:t.Sublist rows)(hw:ZBN g' t=true)(_:g=g):∃c∈ZAY rows g',pks rows [] c=t:=by
 have a:=ZCM rows [] t.length 0;rw [List.drop_zero] at a;have b:t∈chz t.length rows:=ZBp.2 ⟨hs,rfl⟩;rw [←a] at b;obtain ⟨c,f,d⟩:=List.mem_map.1 b;refine ⟨c,?_,d⟩;simp only [ZAY,ZAx,List.mem_flatMap,List.mem_range,List.mem_filter]
 refine ⟨t.length,?_,f,by rw [d]; exact hw⟩
 have:=hs.length_le;have:=ZGs hw;omega
theorem ZLO{rows:List (List Int)}{g y:List Int}(h:y∈ZAY rows g):(pks rows [] y).Sublist rows:=by
 simp only [ZAY,ZAx,List.mem_flatMap,List.mem_range,List.mem_filter] at h;obtain ⟨m,c,a,d⟩:=h;have b:=ZCM rows [] m 0;rw [List.drop_zero] at b
 have:pks rows [] y∈chz m rows:=by rw [←b]; exact List.mem_map.2 ⟨y,a,rfl⟩
 exact (ZBp.1 this).1
theorem ZOi(l:List Int)(i:Nat):(gc l:Int)*(low l).getD i 0=l.getD i 0:=by
 have h:=ZLE l
 have a:=congrArg (fun m:List Int=>m.getD i 0) h
 simp only [Za2,List.getElem?_map] at a;simp only [Za2]
 cases hz:(low l)[i]? with
 | none=>rw [hz] at a; simpa using a
 | some z=>rw [hz] at a; simpa using a
theorem ZG0{S U a b:Int}(h:low [S,U]=[a,b]):S*b=a*U∧a.natAbs≤S.natAbs+U.natAbs∧b.natAbs≤S.natAbs+U.natAbs:=by
 have m:=ZLE [S,U]
 have c:=ZFL (l:=[S,U]) (b:=S.natAbs+U.natAbs) (fun z hz=>by
  simp only [List.mem_cons,List.not_mem_nil,or_false] at hz
  rcases hz with rfl | rfl <;> omega)
 rw [h] at m c;simp only [List.map_cons,List.map_nil,List.cons.injEq,and_true] at m
 have d:=c a (by simp)
 have f:=c b (by simp)
 clear c h;generalize ((gc [S,U]:Nat):Int)=G at m;obtain ⟨i,g⟩:=m;refine ⟨?_,d,f⟩;rw [←i,←g,Int.mul_assoc,Int.mul_left_comm]
end Go.Proofs.YtkjkfceblmgogaaGreat
