import Derived.Test.YtkjkfceblmgogaaGreatEzE
import Derived.Test.YtkjkfceblmgogaaGreatFlD
import Derived.Test.YtkjkfceblmgogaaGreatHgA
set_option maxRecDepth 100000
set_option maxHeartbeats 4000000
namespace Go.Proofs.YtkjkfceblmgogaaGreat
open Go.RowKit Lin
attribute [local go_sem ↓] Go.wp_at_zero Go.wp_at_succ
structure PwI(w:World)(d:Nat)(P:List (List Int))(s:Nat)(W:World):Prop where
 row:∃F,W.rowIs w.heap.size 3 (d+1) F∧∀i,i < d+1→F i=.int .i64 ((poW d P s).getD i 0)
 bel:Below w.heap.size w W
 size:w.heap.size+1≤W.heap.size
theorem PwI.below{w W W':World}{d s:Nat}{P:List (List Int)}(h:PwI w d P s W)(hb:Below W.heap.size W W'):PwI w d P s W':=by
 have a:=h.size;obtain ⟨F,c,b⟩:=h.row
 exact ⟨⟨F,c.of_block (hb.block _ (by omega)),b⟩,h.bel.trans (hb.mono h.bel.size),Zaa8 a hb.size⟩
theorem PwI.put{w W:World}{d s j:Nat}{P:List (List Int)}{z:Int}(h:PwI w d P s W)(hj:j < d+1)(hz:poW d P (s+1)=(poW d P s).set j z):PwI w d P (s+1) (W.setCell ⟨w.heap.size,j,none⟩ (.int .i64 z)):=by
 obtain ⟨⟨F,c,f⟩,g,l⟩:=h
 refine ⟨⟨_,c.set j _,fun i hi=>?_⟩,g.setCell (by show w.heap.size≤w.heap.size; omega) _,by simp [World.setCell]; omega⟩
 rw [hz]
 by_cases e:i=j
 ·subst e
  have b:i < (poW d P s).length:=by rw [ZEy]; omega
  simp [b]
 ·have a:((poW d P s).set j z).getD i 0=(poW d P s).getD i 0:=by
   rw [Za2,List.getElem?_set_ne (Ne.symm e),←Za2]
  rw [if_neg e,f i hi,a]
theorem ZMg(n:Nat):((n:Int) % 2 == 0)=decide (n % 2=0):=by
 have e:(n:Int) % 2=((n % 2:Nat):Int):=by omega
 rw [e]
 rcases (show n % 2=0∨n % 2=1 by omega) with h | h <;> simp [h]
theorem ZJ3{B0:Nat}(d:Nat)(P:List (List Int))(v:Value)(w:World)(hv:Mat B0 27 3 w v P)(hP:∀p∈P,p.length=d+1∧∀z∈p,z.natAbs≤20)(hd1:1≤d)(hd3:d≤3)(h6:P.length≤6) :
  Calls Tryz.prog 9 #[.int .i64 d,v] w fun e w'=>∃co cc,e=.returned (.slice co (d+1) cc)∧Sl 0 3 w' (.slice co (d+1) cc) (ZAB ((List.range (d+1)).map (whC d P)))∧Below w.heap.size w w':=by
 obtain ⟨ro,rc,aq,aG,aA⟩:=ZAD hv;subst aq
 obtain ⟨f,a⟩:∃f:Nat,f=2 ^ P.length:=⟨_,rfl⟩
 have am:Hid ((2:Int) ^ P.length=(f:Int)):=by show _=_; rw [a]; simp
 have az:f≤64:=by rw [a]; exact show 2 ^ P.length≤2 ^ 6 from Nat.pow_le_pow_right (by omega) h6
 have aj:Hid (IntKind.i64.wrap (f:Int)=(f:Int)):=wrap_small _ (by omega) (by omega)
 have Y:Hid (∀s X,s < f→Below w.heap.size w X→Calls Tryz.prog 25 #[.int .i64 d,.slice ro P.length rc,.int .i64 s] X fun e w'=>e=.returned (.tuple #[.bool (cen d P s),.int .i64 (rk d (plS P s):Nat)])∧Below X.heap.size X w'):=fun s X hs hX=>ZG9 d s P _ X (hv.below hX (Za4 _)) hP hd1 hd3 h6 (by rw [←a]; exact hs)
 have T:Hid (∀s X,s < f→Calls Tryz.prog 28 #[.int .i64 s] X fun e w'=>∃n:Nat,e=.returned (.int .i64 (n:Int))∧n≤6∧sg s=(if n % 2=0 then 1 else -1)∧Below X.heap.size X w'):=fun s X hs=>by
  refine (ZKy s P.length X (by rw [←a]; exact hs) (by omega)).mono ?_
  rintro e w' ⟨rfl,hb⟩
  exact ⟨_,rfl,Zaa8 (ZHu s P.length) h6,ZQF h6 (by rw [←a]; exact hs),hb⟩
 have aa:Hid (∀s,cen d P s=false→poW d P (s+1)=poW d P s):=fun s h=>ZRH h
 have ae:Hid (∀s,cen d P s=true→poW d P (s+1)=(poW d P s).set (d-rk d (plS P s)) ((poW d P s).getD (d-rk d (plS P s)) 0+sg s)):=fun s h=>ZQE h
 have U:Hid (∀s,rk d (plS P s)≤d):=fun s=>ZFP _ _
 have O:Hid (∀s j,s < f→j < d+1→((poW d P s).getD j 0).natAbs≤64):=fun s j hs V=>by
  rw [ZMd V];have:=ZQD d P s j;omega
 have ar:Hid (poW d P f=(List.range (d+1)).map (whC d P)):=by show _=_; rw [a]; exact ZQC d P
 have HZ:Hid (poW d P 0=List.replicate (d+1) 0):=ZOH d P
 have au:Hid (∀s,(poW d P s).length=d+1):=fun s=>ZEy d P s
 have R:=run_make_row' (P:=Tryz.prog) 27 3 (.int .i64 0) 8 Tryz.underlying27 Tryz.info3 rfl .i64 .i64 (d+1) (by omega) (by omega)
 have N:((d+1:Nat):Int)=(d:Int)+1:=by omega
 simp only [N] at R;clear N;clear hv hP a;generalize hnp:P.length=nP at *;clear hnp;go_enter Tryz.func9,Tryz.ntmps9;go_wp2
 obtain ⟨W2,t⟩:∃W2,W2=w.alloc (.cells (madeCells #[.int .i64 0] (d+1)) 3):=⟨_,rfl⟩
 have aw:Hid (PwI w d P 0 W2):=by
  have y:Below w.heap.size w W2:=by rw [t]; exact ZAG _ _
  refine ⟨⟨fun _=>.int .i64 0,⟨madeCells #[.int .i64 0] (d+1),?_,by rw [size_madeCells],fun i hi=>?_⟩,fun i hi=>?_⟩,y,by rw [t]; simp⟩
  ·rw [t]
   exact heap_alloc_new _ _
  ·rw [←Array.getElem?_toList,toList_madeCells_one]; simp [hi]
  ·rw [HZ.out]
   simp [hi]
 rw [←t];clear t R HZ
 go_loopw [6,7,8] (fun s _ _ wr=>∃k:Nat,k≤f∧s=.int .i64 (k:Int)∧PwI w d P k wr) (fun s _ _ _=>f-(intOf s).toNat)
 case atStart=>exact ⟨0,Za5 _,rfl,aw.out⟩
 case round=>
  obtain ⟨k,hk,rfl,hI⟩:=hrel
  obtain ⟨D,rfl⟩:∃D,D=wr:=⟨_,rfl⟩
  have L:=hid hI;clear hI;have ak:=am.out;have an:=aj.out
  by_cases hlt:k < f
  ·have aD:(k:Int) < (f:Int):=Int.ofNat_lt.2 hlt
   have HM:Hid (Calls Tryz.prog 25 #[.int .i64 d,.slice ro nP rc,.int .i64 k] D fun e w'=>e=.returned (.tuple #[.bool (cen d P k),.int .i64 (rk d (plS P k):Nat)])∧Below D.heap.size D w'):=Y.out k D hlt L.out.bel
   have af:Hid (cen d P k=false→poW d P (k+1)=poW d P k):=aa.out k;have Q:Hid (cen d P k=true→poW d P (k+1)=(poW d P k).set (d-rk d (plS P k)) ((poW d P k).getD (d-rk d (plS P k)) 0+sg k)):=ae.out k;have aB:rk d (plS P k)≤d:=U.out k;generalize cen d P k=c at *;generalize rk d (plS P k)=r at *
   go_wp2_with fail
   clear ak an;refine HM.out.mono ?_;rintro e w1 ⟨rfl,y⟩;have m:Hid (PwI w d P k w1):=L.out.below y;clear y HM L
   cases c with
   | false=>
    have g:Hid (PwI w d P (k+1) w1):=by
     obtain ⟨⟨F,p1,p2⟩,p3,p4⟩:=m.out
     exact ⟨⟨F,p1,by rw [af.out rfl]; exact p2⟩,p3,p4⟩
    clear m;go_wp2
    exact ⟨⟨k+1,by omega,by go_num,g.out⟩,by simp [intOf]; omega⟩
   | true=>
    have HS:=T.out k w1 hlt;have E:=hid HS;have x:Hid (poW d P (k+1)=(poW d P k).set (d-r) ((poW d P k).getD (d-r) 0+sg k)):=Q.out rfl;clear HS Q af
    go_wp2_with fail
    refine E.out.mono ?_;rintro e M ⟨n,rfl,aE,A,G⟩;have g:Hid (PwI w d P k M):=m.out.below G;have B:=ZMg n
    obtain ⟨j,V⟩:∃j,j=d-r:=⟨_,rfl⟩
    have aF:(d:Int)-(r:Int)=(j:Int):=by omega
    have o:j < d+1:=by omega
    have ay:(j:Int) < (d:Int)+1:=by omega
    obtain ⟨F,b,l⟩:=g.out.row
    have c5:M.cell? ⟨w.heap.size,j,none⟩=some (.int .i64 ((poW d P k).getD j 0)):=by rw [b.cell o,l j o]
    have c6:M.frozen? ⟨w.heap.size,j,none⟩=false:=b.frozen j;have aC:=O.out k j hlt o;rw [←V] at x
    by_cases he:n % 2=0
    ·have S:((n:Int) % 2 == 0)=true:=by rw [B]; exact decide_eq_true he
     have J:Hid (PwI w d P (k+1) (M.setCell ⟨w.heap.size,j,none⟩ (.int .i64 ((poW d P k).getD j 0+1)))):=by
      refine g.out.put o ?_;rw [x.out,A,if_pos he]
     clear B he A b l V x m g G E;generalize (poW d P k).getD j 0=av at *;go_wp2
     exact ⟨⟨k+1,by omega,by go_num,J.out⟩,by simp [intOf]; omega⟩
    ·have S:((n:Int) % 2 == 0)=false:=by rw [B]; exact decide_eq_false he
     have J:Hid (PwI w d P (k+1) (M.setCell ⟨w.heap.size,j,none⟩ (.int .i64 ((poW d P k).getD j 0-1)))):=by
      refine g.out.put o ?_;rw [x.out,A,if_neg he];rfl
     clear B he A b l V x m g G E;generalize (poW d P k).getD j 0=av at *;go_wp2
     exact ⟨⟨k+1,by omega,by go_num,J.out⟩,by simp [intOf]; omega⟩
  ·have ah:k=f:=by omega
   subst ah;obtain ⟨F,b,l⟩:=L.out.row
   have ai:Hid (Sl 0 3 D (.slice (some ⟨w.heap.size,0,none⟩) (d+1) (d+1)) (ZAB ((List.range (d+1)).map (whC d P)))):=by
    rw [←ar.out]
    exact ZCv b l (au.out _) (Za4 _) (by omega)
   have ag:Hid (Below w.heap.size w D):=L.out.bel;clear b l L Y T aa ae U O;go_wp2;go_ret;exact ⟨_,_,rfl,ai.out,ag.out⟩
theorem ZOJ{d:Nat}{P:List (List Int)}(hG:PlG d P):∀i,i < P.length→∃j,j < d∧V (P.getD i []) j≠0:=fun i hi=>by
 refine Za6 fun hn=>hG.one _ (ZAg hi) ?_
 have a:∀j,j < d→V (P.getD i []) j=0:=fun j hj=>Za6 fun h=>hn ⟨j,hj,h⟩
 have c:rk d [P.getD i []]≤rk d []:=ZHs fun u _ r hr=>by
  rw [List.mem_singleton.1 hr];exact ZBQ a
 have b:rk d ([]:List (List Int))=0:=rfl;unfold rk at c b;omega
theorem ZQK{d:Nat}{P:List (List Int)}{m:List (List Int×Nat)}(hS:FlS d P m)(h6:P.length≤6):m.length≤64:=by
 have c:=hS.nodup h6
 have g:(msk m).length≤2 ^ P.length:=by
  have a:(msk m).length≤(List.range (2 ^ P.length)).length:=List.Nodup.length_le_of_subset c fun x hx=>by
   obtain ⟨y,b,rfl⟩:=List.mem_map.1 hx;exact List.mem_range.2 (hS.mem h6 b).2.2.2
  simpa using a
 have a:2 ^ P.length≤2 ^ 6:=Nat.pow_le_pow_right (by decide) h6
 have f:(msk m).length=m.length:=by simp [msk]
 omega
theorem ZEz{B0:Nat}(d:Nat)(P:List (List Int))(v:Value)(w:World)(hd1:1≤d)(hd3:d≤3)(hG:PlG d P)(h5:P.length≤6)(hv:Mat B0 27 3 w v P) :
  Calls Tryz.prog 12 #[.int .i64 d,v] w fun e w'=>∃uo ul uc,e=.returned (.tuple #[.slice uo ul uc,.int .i64 0])∧(∃O:List (List Int),Mat 0 27 3 w' (.slice uo ul uc) O∧∀O',FlQ d P (d+1) O'→O=O')∧Below w.heap.size w w':=by
 obtain ⟨i0,hi,ay,au,am⟩:=info_parts Tryz.info27;have hP:=ZOJ hG
 have H1:Hid (Calls Tryz.prog 14 #[.int .i64 d,v] w fun e w'=>e=.returned (.int .i64 0)∧Below w.heap.size w w'):=ZBJ d P v w hd1 hd3 hG (by omega) hv
 have H2:Hid (∀X,Below w.heap.size w X→Calls Tryz.prog 34 #[.int .i64 d,v] X fun e w'=>∃uo uc T,e=.returned (.slice uo T.length uc)∧FlR (X.heap.size+3) w' (.slice uo T.length uc) T∧((∀O',FlQ d P (d+1) O'→(T.map fun t=>t.2.1)=O')∧T.length≤64)∧Below X.heap.size X w'):=fun X hX=>by
  refine (ZFe d P v X hd1 hd3 hG.row (ZDC hP) h5 (hv.below hX (Za4 _))).mono ?_;rintro e w' ⟨uo,uc,T,rfl,M,⟨h2,h3⟩,h4⟩
  refine ⟨uo,uc,T,rfl,M,⟨fun O' hO=>?_,?_⟩,h4⟩
  ·have:=ZJ2 (by omega) h2 h3 hO
   rw [List.map_map] at this;exact this
  ·have:=ZQK h2 (by omega)
   simpa using this
 clear hv hG hP;go_enter Tryz.func12,Tryz.ntmps12
 go_wp2_with fail
 refine H1.out.mono ?_;rintro e w1 ⟨rfl,V⟩;have D:=hid V;clear V
 go_wp2_with fail
 refine (H2.out w1 D.out).mono ?_;rintro e a ⟨uo,uc,T,rfl,hf,⟨hs,hl⟩,N⟩;have HF:=hid hf;have HS:=hid hs;have aa:Hid (Below w.heap.size w a):=D.out.trans (N.mono D.out.size)
 have E:Hid (∀k,k < T.length→∃c n j,(T.getD k (.slice none 0 0,[],0)).1=.slice c n j∧∀X,Below a.heap.size a X→Sl 0 3 X (.slice c n j) (ZAB (T.getD k (.slice none 0 0,[],0)).2.1)):=fun k s=>by
  have M:=hf.inn _ (ZDM T k s);obtain ⟨c,j,h,_,_⟩:=ZAI M
  refine ⟨c,_,j,h,fun X hX=>?_⟩
  rw [←h];exact M.below hX (Za4 _)
 have z:Hid (∀k X,k < T.length→Below a.heap.size a X→∃g,uo=some ⟨g,0,none⟩∧X.cell? ⟨g,k*2,none⟩=some (T.getD k (.slice none 0 0,[],0)).1∧X.cell? ⟨g,k*2+1,none⟩=some (.int .i64 ((T.getD k (.slice none 0 0,[],0)).2.2:Nat))):=fun k X s hX=>by
  obtain ⟨g,M,h2,h3,h4,h5⟩:=hf.cells s;exact ⟨g,M,(hX.cell (p:=⟨g,k*2,none⟩) h3).trans h4,(hX.cell (p:=⟨g,k*2+1,none⟩) h3).trans h5⟩
 have B:Hid (∀k,k < T.length→((T.take (k+1)).map fun t=>t.2.1)=((T.take k).map fun t=>t.2.1) ++ [(T.getD k (.slice none 0 0,[],0)).2.1]):=fun k s=>by
  rw [Zaa1 s,List.map_append];simp [s]
 have F:Hid (∀k,((T.take k).map fun t=>t.2.1).length≤64):=fun k=>by
  rw [Zab1,List.length_take]; omega
 have af:Hid ((T.take T.length).map (fun t=>t.2.1)=T.map fun t=>t.2.1):=by show _=_; rw [List.take_length]
 clear hf hs N;go_wp2
 go_loopw [7,9,20] (fun x _ i wr=>∃k:Nat,k≤T.length∧i=.int .i64 (k:Int)∧Fr a.heap.size 27 3 wr x ((T.take k).map fun t=>t.2.1)∧Below a.heap.size a wr) (fun _ _ i _=>T.length-(intOf i).toNat)
 case atStart=>exact ⟨0,Za5 _,rfl,Fr.nil _ _ _ _,Below.refl _ _⟩
 case round=>
  obtain ⟨k,s,rfl,Q,J⟩:=hrel
  obtain ⟨b,rfl⟩:∃b,b=wr:=⟨_,rfl⟩
  have HR:=hid Q;have HB:=hid J;have ag:a.heap.size≤b.heap.size:=J.size;clear Q J
  by_cases hlt:k < T.length
  ·obtain ⟨g,G,c1,c2⟩:=z.out k b hlt HB.out
   subst G;obtain ⟨c,L,j,ae,ak⟩:=E.out k hlt;have R:=B.out k hlt;have aB:=F.out k;rw [ae] at c1;have aq:=hid ak;have an:=hid R;clear ae ak R z E B F;generalize (T.getD k (.slice none 0 0,[],0)).2.1=zs at *;generalize (T.getD k (.slice none 0 0,[],0)).2.2=rk' at *
   generalize ((T.take k).map fun t=>t.2.1)=A at *
   obtain ⟨l,m⟩:∃l,l=b.alloc (.cells #[.slice c L j,.int .i64 (rk':Nat)] 63):=⟨_,rfl⟩
   have y:Below b.heap.size b l:=by rw [m]; exact ZAG _ _
   have U:l.heap[b.heap.size]?=some (.cells #[.slice c L j,.int .i64 (rk':Nat)] 63 (0,0)):=by rw [m]; exact ZAL _ _
   have o:Below a.heap.size a l:=HB.out.trans (y.mono ag);have f:a.heap.size≤l.heap.size:=o.size;obtain ⟨vs,g1,g2,g3⟩:=HR.out.below y (Za4 _);have G2:=hid g2;have S:=aq.out l o
   have aj:Hid (∀v' r,r.ownsRow a.heap.size 27 1 v' (A.length+1) (vs ++ [.slice c L j])→(l.alloc (.cells #[.slice c L j] 27)).grownBy r u7.ownBlock→Fr a.heap.size 27 3 r v' (A ++ [zs])∧Below a.heap.size a r):=fun v' r ho G=>⟨Fr.push (e2:=27) (e1:=3) (by decide) g1 (g2.alloc _) (fun i hi=>(g3 i hi).alloc _) (S.alloc _) ho G,(o.alloc f _).grown G (by simp; omega) (fun x hx=>(g2.lt x hx).1)⟩
   have az:=hid f
   have c3:l.cell? ⟨b.heap.size,0,none⟩=some (.slice c L j):=by simp [World.cell?,U]
   have ah:=hid m
   have aC:(k:Int) < (T.length:Int):=by omega
   have aA:(0:Int)≤(k:Int):=by omega
   clear g1 g2 g3 S m y U o f
   go_upto_region 8 with fail
   rw [←ah.out]
   go_wp2_with (first | (at_builtin; refine wpList_append_own _ rfl _ _ 22 rfl a.heap.size 27 i0 (.slice none 0 0) 1 24 Tryz.underlying22 hi ay au am rfl (by decide) _ _ _ rfl (G2.out.alloc _) ⟨l.heap.size,0,none⟩ 1 1 [.slice c L j] rfl rfl (ZAS _ _ _) (ZAM _ _ _) ?d3 ?d4 ?d5 ?_))
   case d3=>unfold maxLen; omega
   case d4=>omega
   case d5=>have:=az.out; simp at *; omega
   intro x6 r ho G _;obtain ⟨q1,q2⟩:=aj.out x6 r ho G
   have R1:Hid (Fr a.heap.size 27 3 r x6 ((T.take (k+1)).map fun t=>t.2.1)):=by show Fr _ _ _ _ _ _; rw [an.out]; exact q1
   have R2:=hid q2;clear q1 q2 ho G aj G2 c3 ah;go_wp2
   exact ⟨⟨k+1,by omega,by go_num,R1.out,R2.out⟩,by simp [intOf]; omega⟩
  ·have Y:k=T.length:=by omega
   have ai:Hid (Mat 0 27 3 b u7 (T.map fun t=>t.2.1)):=by
    have h:=HR.out;rw [Y,af.out] at h;obtain ⟨vs,q1,q2,q3⟩:=h;exact ⟨vs,q1,Sl.own q2,q3⟩
   subst Y;obtain ⟨xo,xc,ar,_,_⟩:=ZAD ai.out;subst ar;have aw:Hid (Below w.heap.size w b):=aa.out.trans (HB.out.mono aa.out.size);clear HR z E B F af
   generalize (T.map fun t=>t.2.1)=O at *
   go_wp2
   refine bodyPost_ret (v:=.tuple #[.slice xo O.length xc,.int .i64 0]) (by simp [results,Tryz.results12,go_sem]) rfl ⟨xo,O.length,xc,rfl,⟨O,ai.out,HS.out⟩,aw.out⟩
theorem ZJ4(x:List (List UInt8))(u v:Value)(w:World)(hu:Sl 0 9 w u (ZAe x))(hv:Sl 0 9 w v (ZAe x)) :
  Calls Tryz.prog 15 #[u,.int .i64 0,v,.int .i64 0] w fun e w'=>e=.returned (.bool true)∧Below w.heap.size w w':=by
 obtain ⟨J,M,rfl,_,_⟩:=ZDI hu;obtain ⟨F,t,rfl,_,_⟩:=ZDI hv;have y:=hid hu;have s:Hid (Sl 0 9 w (.slice F x.length t) (ZAe x)):=hv
 have E:((x.length:Int) == (x.length:Int))=true:=by simp
 clear hu hv;go_enter Tryz.func15,Tryz.ntmps15;go_wp2
 go_loopw [9] (fun i wr=>∃k:Nat,k≤x.length∧i=.int .i64 (k:Int)∧Qw w wr) (fun i _=>x.length-(intOf i).toNat)
 case atStart=>exact ⟨0,Za5 _,rfl,Qw.refl _⟩
 case round=>
  obtain ⟨k,G,rfl,b⟩:=hrel;have d:=hid b;obtain ⟨n,r⟩:=b
  have a:∀p,wr.cell? p=w.cell? p:=fun p=>by rw [r]; rfl
  clear r
  by_cases hlt:k < x.length
  ·obtain ⟨N,O,B,l⟩:=ZDJ y.out hlt
   obtain ⟨L,P,D,m⟩:=ZDJ s.out hlt;subst B D
   obtain ⟨c,f⟩:∃c:ByteArray,c=⟨(x.getD k []).toArray⟩:=⟨_,rfl⟩
   have g:ZDj (x.getD k [])=.string c:=by rw [f]; rfl
   rw [g] at l m;rw [←a] at l m
   have A:(c.data.toList == c.data.toList)=true:=by simp
   have z:(k:Int) < (x.length:Int):=by omega
   have o:(0:Int)≤(k:Int):=by omega
   clear g f a;go_wp2
   go_quiet (fail)
   have j:Hid (Qw w (wr.drewN nq)):=d.out.drewN nq;generalize wr.drewN nq=W9 at *;go_wp2
   go_roundw
   case rel=>exact ⟨k+1,by omega,by go_num,j.out⟩
   case measure=>simp [intOf]; omega
  ·clear a
   go_wp2;go_ret;exact ⟨rfl,d.out.below⟩
end Go.Proofs.YtkjkfceblmgogaaGreat
