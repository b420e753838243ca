import Derived.Test.YtkjkfceblmgogaaGreatHgB
import Derived.Test.YtkjkfceblmgogaaGreatDelS
set_option maxRecDepth 100000
set_option maxHeartbeats 1600000
namespace Go.Proofs.YtkjkfceblmgogaaGreat
open Go.RowKit
attribute [local go_sem ↓] Go.wp_at_zero Go.wp_at_succ
def CoW(d:Nat)(rows:List (List Int))(w:World)(u:Value)(e:Int):Prop:=
 (ZDO d rows=true∧u=.slice none 0 0∧e=6)∨(ZDO d rows=false∧opB d rows=true∧u=.slice none 0 0∧e=7)∨(ZDO d rows=false∧opB d rows=false∧e=0∧∃m,Mat 0 27 3 w u m∧Inor m (crL d rows (ext rows.length d 0)))
theorem ZEv(d:Nat)(rows:List (List Int))(v:Value)(w:World){B0:Nat}(hv:Mat B0 27 3 w v rows)(hc:CutF d rows) :
  Calls Tryz.prog 31 #[.agg #[.int .i64 d,v]] w fun e w'=>∃uo ul uc E,e=.returned (.tuple #[.slice uo ul uc,.int .i64 E])∧CoW d rows w' (.slice uo ul uc) E∧Below w.heap.size w w':=by
 obtain ⟨s,p,M,aa,Y⟩:=ZAD hv;subst M;obtain ⟨W,Q,j,F,o⟩:=ZCQ w d (.slice s rows.length p);have P:=hid Q
 have f:Hid (∀X,Below W.heap.size W X→Below w.heap.size w X):=fun X hX=>j.trans (hX.mono j.size)
 have n:=hid o
 have c:∀X,Below W.heap.size W X→Mat B0 27 3 X (.slice s rows.length p) rows:=fun X hX=>hv.below (f.out X hX) (Za4 _)
 have H1:Hid (∀X,Below W.heap.size W X→Calls Tryz.prog 45 #[.agg #[.int .i64 d,.slice s rows.length p]] X fun e w'=>e=.returned (.int .i64 0)∧Below X.heap.size X w'):=fun X hX=>ZB7 d rows _ X ((c X hX).any (Za4 _)) hc
 have H2:Hid (∀X,Below W.heap.size W X→Calls Tryz.prog 46 #[.agg #[.int .i64 d,.slice s rows.length p]] X fun e w'=>e=.returned (.bool (ZDO d rows))∧Below X.heap.size X w'):=fun X hX=>ZEX d rows _ X ((c X hX).any (Za4 _)) hc
 have H3:Hid (∀X,Below W.heap.size W X→Calls Tryz.prog 47 #[.agg #[.int .i64 d,.slice s rows.length p]] X fun e w'=>e=.returned (.bool (opB d rows))∧Below X.heap.size X w'):=fun X hX=>ZME d rows _ X (c X hX) hc
 have V:Hid (∀X,Below W.heap.size W X→Calls Tryz.prog 48 #[.agg #[.int .i64 d,.slice s rows.length p]] X fun e w'=>∃r t m,e=.returned (.slice r m.length t)∧Mat 0 27 3 w' (.slice r m.length t) m∧Inor m (crL d rows (ext rows.length d 0))∧Below X.heap.size X w'):=fun X hX=>by
  refine (ZIP d rows _ X (c X hX) hc).mono ?_;rintro e w' ⟨u,m,rfl,g1,U,g3⟩;have S:=ZCw g1;obtain ⟨r,t,rfl,_,_⟩:=ZAD S;exact ⟨r,t,m,rfl,S,U,g3⟩
 obtain ⟨l,i⟩:=o W (Below.refl _ _);clear hv hc Q j F o c;go_enter Tryz.func31,Tryz.ntmps31
 go_upto_region 1 with fail
 rw [←P.out]
 go_wp2_with fail
 refine (H1.out W (Below.refl _ _)).mono ?_;rintro e R ⟨rfl,x⟩;have g:=hid x;clear x l i;obtain ⟨l,i⟩:=n.out R g.out
 go_wp2_with fail
 refine (H2.out R g.out).mono ?_;rintro e L ⟨rfl,z⟩;have b:Hid (Below W.heap.size W L):=g.out.trans (z.mono g.out.size);clear z l i;obtain ⟨l,i⟩:=n.out L b.out
 cases he:ZDO d rows with
 | true=>
  have D:=hid he;clear he;go_wp2
  exact bodyPost_ret (v:=.tuple #[.slice none 0 0,.int .i64 6]) (by simp [results,Tryz.results31,go_sem]) rfl ⟨_,_,_,_,rfl,.inl ⟨D.out,rfl,rfl⟩,f.out _ b.out⟩
 | false=>
  have D:=hid he;clear he
  go_wp2_with fail
  refine (H3.out L b.out).mono ?_;rintro e G ⟨rfl,y⟩;have a:Hid (Below W.heap.size W G):=b.out.trans (y.mono b.out.size);clear y l i;obtain ⟨l,i⟩:=n.out G a.out
  cases ho:opB d rows with
  | true=>
   have O:=hid ho;clear ho;go_wp2
   exact bodyPost_ret (v:=.tuple #[.slice none 0 0,.int .i64 7]) (by simp [results,Tryz.results31,go_sem]) rfl ⟨_,_,_,_,rfl,.inr (.inl ⟨D.out,O.out,rfl,rfl⟩),f.out _ a.out⟩
  | false=>
   have O:=hid ho;clear ho
   go_wp2_with fail
   refine (V.out G a.out).mono ?_;rintro e w4 ⟨r,t,m,rfl,T,A,B⟩;have N:Hid (Below W.heap.size W w4):=a.out.trans (B.mono a.out.size);have HM:=hid T;have J:=hid A;clear B l i T A;go_wp2
   exact bodyPost_ret (v:=.tuple #[.slice r m.length t,.int .i64 0]) (by simp [results,Tryz.results31,go_sem]) rfl ⟨_,_,_,_,rfl,.inr (.inr ⟨D.out,O.out,rfl,m,HM.out,J.out⟩),f.out _ N.out⟩
end Go.Proofs.YtkjkfceblmgogaaGreat
namespace Go.Proofs.YtkjkfceblmgogaaGreat
open Go.RowKit Lin
attribute [local go_sem ↓] Go.wp_at_zero Go.wp_at_succ
theorem ZP7{d:Nat}{P:List (List Int)}(hP:∀p∈P,p.length=d+1∧∀z∈p,z.natAbs≤20)(hd1:1≤d)(hd3:d≤3)(hs6:P.length≤6){t:List UInt8}(ht:t∈ZBi d P P.length):t.length=P.length∧(∀c∈t,c=43∨c=45∨c=48)∧CutOk d (clR P t)∧ZDO d (clR P t)=false:=by
 obtain ⟨⟨f,z,a⟩,g⟩:=ZCy.1 ht
 refine ⟨f,fun c hc=>by rcases g c hc with h | h <;> simp [h],⟨hd1,hd3,?_,fun r hr=>?_,fun r hr=>?_⟩,ZDZ.2 ⟨_,_,a.fea⟩⟩
 ·have:=ZEc P t t.length
  show (clT P t t.length).length≤12
  omega
 ·obtain ⟨i,j,h⟩:=ZEd hr
  have:=(hP (P.getD i []) (ZAg (by omega))).1
  rcases h with rfl | rfl
  ·exact this
  ·simp only [ngL,Zab1]; exact this
 ·obtain ⟨i,j,h⟩:=ZEd hr
  have:=(hP (P.getD i []) (ZAg (by omega))).2
  rcases h with rfl | rfl
  ·exact this
  ·intro z a
   simp only [ngL,List.mem_map] at a;obtain ⟨y,b,rfl⟩:=a;have:=this y b;omega
theorem ZEw{B0:Nat}(d:Nat)(P:List (List Int))(v:Value)(w:World)(hd1:1≤d)(hd3:d≤3)(hG:PlG d P)(h6:P.length≤6)(hv:Mat B0 27 3 w v P) :
  Calls Tryz.prog 10 #[.int .i64 d,v] w fun e w'=>∃uo uc,e=.returned (.tuple #[.slice uo (ZBi d P P.length).length uc,.int .i64 0])∧w'.ownsRow w.heap.size 9 1 (.slice uo (ZBi d P P.length).length uc) (ZBi d P P.length).length (ZAe (ZBi d P P.length))∧Below w.heap.size w w':=by
 have m:Hid (Calls Tryz.prog 14 #[.int .i64 d,v] w fun e w'=>e=.returned (.int .i64 0)∧Below w.heap.size w w'):=ZBJ d P v w hd1 hd3 hG h6 hv
 have n:Hid (∀X,Below w.heap.size w X→Calls Tryz.prog 29 #[.int .i64 d,v,.string ⟨#[43,45]⟩] X fun e w'=>∃u,e=.returned u∧w'.ownsRow X.heap.size 9 1 u (ZBi d P P.length).length (ZAe (ZBi d P P.length))∧Below X.heap.size X w'):=fun X hX=>ZJt d P v X (hv.below hX (Za4 _)) hG.row hd1 hd3 h6
 clear hv hG;go_enter Tryz.func10,Tryz.ntmps10
 go_wp2_with fail
 refine m.out.mono ?_;rintro e l ⟨rfl,b⟩;have a:=hid b;clear b
 go_wp2_with fail
 refine (n.out l a.out).mono ?_;rintro e i ⟨u,rfl,g,c⟩;obtain ⟨uo,uc,rfl⟩:=ZAE g;have j:Hid (i.ownsRow w.heap.size 9 1 (.slice uo (ZBi d P P.length).length uc) (ZBi d P P.length).length (ZAe (ZBi d P P.length))):=ZLU g a.out.size;have f:Hid (Below w.heap.size w i):=a.out.trans (c.mono a.out.size);clear g c;go_wp2
 refine bodyPost_ret (v:=.tuple #[.slice uo (ZBi d P P.length).length uc,.int .i64 0]) (by simp [results,Tryz.results10,go_sem]) rfl ⟨uo,uc,rfl,j.out,f.out⟩
theorem ZIR{B0:Nat}(d:Nat)(P:List (List Int))(t:List UInt8)(v:Value)(b1 b2:Nat)(w:World)(hP:∀p∈P,p.length=d+1∧∀z∈p,z.natAbs≤20)(hd1:1≤d)(hd3:d≤3)(hs6:P.length≤6)(ht:t∈ZBi d P P.length)(hv:Mat B0 27 3 w v P)(c1:w.cell? ⟨b1,0,none⟩=some (.int .i64 d))(c2:w.cell? ⟨b2,0,none⟩=some v) :
  Calls Tryz.prog 30 #[ZDj t,.pointer (some ⟨b1,0,none⟩),.pointer (some ⟨b2,0,none⟩)] w fun e w'=>e=.returned (.bool (opB d (clR P t)))∧Below w.heap.size w w':=by
 obtain ⟨F,x,D,s⟩:=ZP7 hP hd1 hd3 hs6 ht;obtain ⟨R,N,rfl,_,_⟩:=ZAD hv
 have f:=ZFX d P t _ w hv hP hd3 (by omega) hs6 x
 have b:Hid (∀(u:Value) X Bq,Mat Bq 27 3 X u (clR P t)→Calls Tryz.prog 31 #[.agg #[.int .i64 d,u]] X fun e w'=>∃j n m E,e=.returned (.tuple #[.slice j n m,.int .i64 E])∧(E == 7)=opB d (clR P t)∧Below X.heap.size X w')  :=fun u X Bq hu=>by
  refine (ZEv d (clR P t) u X hu D).mono ?_;rintro e w' ⟨j,n,m,E,rfl,L,l⟩;refine ⟨j,n,m,E,rfl,?_,l⟩
  rcases L with ⟨q,_⟩ | ⟨_,q,_,rfl⟩ | ⟨_,q,rfl,_⟩
  ·rw [s] at q; cases q
  ·rw [q]; rfl
  ·rw [q]; rfl
 have a:=hid f;generalize opB d (clR P t)=ob at *
 obtain ⟨r,i⟩:∃r:ByteArray,r=⟨t.toArray⟩:=⟨_,rfl⟩
 show Calls Tryz.prog 30 #[.string ⟨t.toArray⟩,.pointer (some ⟨b1,0,none⟩),.pointer (some ⟨b2,0,none⟩)] w fun e w'=>e=.returned (.bool ob)∧Below w.heap.size w w'
 rw [←i] at a ⊢;clear hv F x D s hP i f;go_enter Tryz.func30,Tryz.ntmps30
 go_wp2_with fail
 refine a.out.mono ?_;rintro e J ⟨O,Q,rfl,A,l⟩;have B:=b.out _ J _ A;have g:=hid l;clear A l c1 c2 a b
 go_wp2_with fail
 refine B.mono ?_;rintro e G ⟨j,n,m,E,rfl,y,c⟩;have o:Hid (Below w.heap.size w G):=g.out.trans (c.mono g.out.size);have M:=hid y;clear c B y;go_wp2;go_ret;exact ⟨ZAX M.out,o.out⟩
theorem ZHL{B0:Nat}(d:Nat)(P:List (List Int))(v:Value)(w:World)(hd1:1≤d)(hd3:d≤3)(hG:PlG d P)(h6:P.length≤6)(hv:Mat B0 27 3 w v P) :
  Calls Tryz.prog 11 #[.int .i64 d,v] w fun e w'=>∃uo uc,e=.returned (.tuple #[.slice uo ((ZBi d P P.length).filter fun t=>!opB d (clR P t)).length uc,.int .i64 0])∧Sl 0 9 w' (.slice uo ((ZBi d P P.length).filter fun t=>!opB d (clR P t)).length uc) (ZAe ((ZBi d P P.length).filter fun t=>!opB d (clR P t)))∧Below w.heap.size w w':=by
 obtain ⟨p,l,rfl,_,_⟩:=ZAD hv
 obtain ⟨W,r⟩:∃W,W=(w.alloc (.cells #[.int .i64 d] 3)).alloc (.cells #[.slice p P.length l] 22):=⟨_,rfl⟩
 have a:Below w.heap.size w W:=by rw [r]; exact ((Below.refl _ _).alloc (Za4 _) _).alloc (by simp) _
 have x:W.heap.size=w.heap.size+2:=by rw [r]; simp
 have S:W.heap[w.heap.size]?=some (.cells #[.int .i64 d] 3 (0,0)):=by
  rw [r]
  exact (Below.heap_alloc _ _ _ (by simp)).trans (heap_alloc_new _ _)
 have R:W.heap[w.heap.size+1]?=some (.cells #[.slice p P.length l] 22 (0,0)):=by
  rw [r];have:=heap_alloc_new (w.alloc (.cells #[.int .i64 d] 3)) (.cells #[.slice p P.length l] 22)
  simpa using this
 have m:=hv.below a (Za4 _)
 have n:∀X:World,(∀b,b < W.heap.size→X.heap[b]?=W.heap[b]?)→Mat B0 27 3 X (.slice p P.length l) P∧X.cell? ⟨w.heap.size,0,none⟩=some (.int .i64 d)∧X.cell? ⟨w.heap.size+1,0,none⟩=some (.slice p P.length l):=fun X hX=>by
  obtain ⟨vs,M,F,V⟩:=m
  have k1:=(hX w.heap.size (by omega)).trans S
  have k2:=(hX (w.heap.size+1) (by omega)).trans R
  exact ⟨⟨vs,M,F.move fun b hb ht=>⟨hX b hb,ht⟩,fun i hi=>(V i hi).move fun b hb ht=>⟨hX b hb,ht⟩⟩,by simp [World.cell?,k1],by simp [World.cell?,k2]⟩
 have z:Hid (Calls Tryz.prog 10 #[.int .i64 d,.slice p P.length l] W fun e w'=>∃uo uc,e=.returned (.tuple #[.slice uo (ZBi d P P.length).length uc,.int .i64 0])∧w'.ownsRow W.heap.size 9 1 (.slice uo (ZBi d P P.length).length uc) (ZBi d P P.length).length (ZAe (ZBi d P P.length))∧Below W.heap.size W w'):=ZEw d P _ W hd1 hd3 hG h6 m
 have f:(ZBi d P P.length).length≤1000000:=Zaa8 (ZGM d P P.length) (Zaa8 (Nat.pow_le_pow_right (by decide) h6) (by decide))
 have A:Hid (∀uo uc X,Below W.heap.size W X→X.ownsRow W.heap.size 9 1 (.slice uo (ZBi d P P.length).length uc) (ZBi d P P.length).length (ZAe (ZBi d P P.length))→Calls Tryz.prog 33 #[.slice uo (ZBi d P P.length).length uc,.func (.func 30) #[] #[.pointer (some ⟨w.heap.size,0,none⟩),.pointer (some ⟨w.heap.size+1,0,none⟩)]] X fun e w'=>∃u,e=.returned u∧w'.ownsRow W.heap.size 9 1 u ((ZBi d P P.length).filter fun t=>!opB d (clR P t)).length (ZAe ((ZBi d P P.length).filter fun t=>!opB d (clR P t)))∧Below W.heap.size X w'):=fun uo uc X hX ho=>by
  refine ZIQ W.heap.size w.heap.size (w.heap.size+1) (fun t=>opB d (clR P t)) (fun Y=>(∀b,b < W.heap.size→Y.heap[b]?=W.heap[b]?)∧W.heap.size≤Y.heap.size) _ _ X ho hX.size f (fun t ht Y hY=>?_) ⟨fun b hb=>hX.block b hb,hX.size⟩ (fun Y Z hY hZ=>⟨fun b hb=>(hZ.block b (by have:=hY.2; omega)).trans (hY.1 b hb),Zaa8 hY.2 hZ.size⟩) (fun g hg Y c u hY=>⟨fun b hb=>(Below.heap_setCell _ _ _ _ (by show b≠g; have:=(ho.lt g hg).1; omega)).trans (hY.1 b hb),by simp [World.setCell]; exact hY.2⟩)
  obtain ⟨m1,m2,m3⟩:=n Y hY.1;exact ZIR d P t _ _ _ Y hG.row hd1 hd3 h6 ht m1 m2 m3
 have D:Hid (∀X,Below W.heap.size W X→Below w.heap.size w X):=fun X hX=>a.trans (hX.mono a.size)
 have N:Hid (∀X,Below W.heap.size W X→X.cell? ⟨w.heap.size,0,none⟩=some (.int .i64 d)∧X.cell? ⟨w.heap.size+1,0,none⟩=some (.slice p P.length l)):=fun X hX=>(n X fun b hb=>hX.block b hb).2
 have L:=hid r;obtain ⟨M,F⟩:=N.out W (Below.refl _ _);have U:=hid x;clear hv hG m n S R r a f x
 generalize ((ZBi d P P.length).filter fun t=>!opB d (clR P t))=FL at *
 generalize ZBi d P P.length=GL at *;go_enter Tryz.func11,Tryz.ntmps11
 go_upto_region 1 with fail
 rw [←L.out]
 go_wp2_with fail
 refine z.out.mono ?_;rintro e w1 ⟨uo,uc,rfl,y,j⟩;have s:=A.out uo uc w1 j y;have E:=hid j;clear y j z A M F
 go_wp2_with fail
 refine s.mono ?_;rintro e T ⟨u,rfl,o,B⟩;obtain ⟨G,O,rfl⟩:=ZAE o;have J:Hid (Below w.heap.size w T):=D.out _ (E.out.trans B);have Q:Hid (Sl 0 9 T (.slice G FL.length O) (ZAe FL)):=Sl.own o;clear o B s;go_wp2
 refine bodyPost_ret (v:=.tuple #[.slice G FL.length O,.int .i64 0]) (by simp [results,Tryz.results11,go_sem]) rfl ⟨G,O,rfl,Q.out,J.out⟩
end Go.Proofs.YtkjkfceblmgogaaGreat
