import Derived.Test.YtgfnmkenpgnllaaGreatHgB
import Derived.Test.YtgfnmkenpgnllaaGreatDelS
set_option maxRecDepth 100000
set_option maxHeartbeats 1600000
namespace Go.Proofs.YtgfnmkenpgnllaaGreat
open Go.RowKit
attribute [local go_sem ↓] Go.wp_at_zero Go.wp_at_succ
def CoW(d:Nat)(rows:List (List Int))(w:World)(u:Value)(e:Int):Prop:=
 (ZDP d rows=true∧u=.slice none 0 0∧e=6)∨(ZDP d rows=false∧opB d rows=true∧u=.slice none 0 0∧e=7)∨(ZDP d rows=false∧opB d rows=false∧e=0∧∃m,Mat 0 22 3 w u m∧Inor m (crL d rows (ext rows.length d 0)))
theorem ZEt(d:Nat)(rows:List (List Int))(v:Value)(w:World)(hv:Mat 0 22 3 w v rows)(hc:CutOk d rows) :
  Calls Tryz.prog 36 #[.agg #[.int .i64 d,v]] w fun e w'=>∃uo ul uc E,e=.returned (.tuple #[.slice uo ul uc,.int .i64 E])∧CoW d rows w' (.slice uo ul uc) E∧Below w.heap.size w w':=by
 obtain ⟨s,r,G,U,Y⟩:=ZAE hv;subst G;obtain ⟨W,S,o,L,i⟩:=ZCS w d (.slice s rows.length r);have F:=hid S
 have g:Hid (∀X,Below W.heap.size W X→Below w.heap.size w X):=fun X hX=>o.trans (hX.mono o.size)
 have n:=hid i
 have c:∀X,Below W.heap.size W X→Mat 0 22 3 X (.slice s rows.length r) rows:=fun X hX=>hv.below (g.out X hX) (Za4 _)
 have H1:Hid (∀X,Below W.heap.size W X→Calls Tryz.prog 50 #[.agg #[.int .i64 d,.slice s rows.length r]] X fun e w'=>e=.returned (.int .i64 0)∧Below X.heap.size X w'):=fun X hX=>ZCR d rows _ X ((c X hX).more (Za5 _)) hc
 have H2:Hid (∀X,Below W.heap.size W X→Calls Tryz.prog 51 #[.agg #[.int .i64 d,.slice s rows.length r]] X fun e w'=>e=.returned (.bool (ZDP d rows))∧Below X.heap.size X w'):=fun X hX=>ZFQ d rows _ X ((c X hX).more (Za5 _)) hc
 have H3:Hid (∀X,Below W.heap.size W X→Calls Tryz.prog 52 #[.agg #[.int .i64 d,.slice s rows.length r]] X fun e w'=>e=.returned (.bool (opB d rows))∧Below X.heap.size X w'):=fun X hX=>ZLz d rows _ X (c X hX) hc
 have H4:Hid (∀X,Below W.heap.size W X→Calls Tryz.prog 53 #[.agg #[.int .i64 d,.slice s rows.length r]] X fun e w'=>∃p t m,e=.returned (.slice p m.length t)∧Mat 0 22 3 w' (.slice p m.length t) m∧Inor m (crL d rows (ext rows.length d 0))∧Below X.heap.size X w'):=fun X hX=>by
  refine (ZIC d rows _ X (c X hX) hc).mono ?_;rintro e w' ⟨u,m,rfl,g1,g2,V⟩;have T:=ZB7 g1;obtain ⟨p,t,rfl,_,_⟩:=ZAE T;exact ⟨p,t,m,rfl,T,g2,V⟩
 obtain ⟨l,j⟩:=i W (Below.refl _ _);clear hv hc S o L i c;go_enter Tryz.func36,Tryz.ntmps36
 go_upto_region 1 with fail
 rw [←F.out]
 go_wp2_with fail
 refine (H1.out W (Below.refl _ _)).mono ?_;rintro e R ⟨rfl,y⟩;have f:=hid y;clear y l j;obtain ⟨l,j⟩:=n.out R f.out
 go_wp2_with fail
 refine (H2.out R f.out).mono ?_;rintro e P ⟨rfl,A⟩;have b:Hid (Below W.heap.size W P):=f.out.trans (A.mono f.out.size);clear A l j;obtain ⟨l,j⟩:=n.out P b.out
 cases he:ZDP d rows with
 | true=>
  have D:=hid he;clear he;go_wp2
  exact bodyPost_ret (v:=.tuple #[.slice none 0 0,.int .i64 6]) (by simp [results,Tryz.results36,go_sem]) rfl ⟨_,_,_,_,rfl,.inl ⟨D.out,rfl,rfl⟩,g.out _ b.out⟩
 | false=>
  have D:=hid he;clear he
  go_wp2_with fail
  refine (H3.out P b.out).mono ?_;rintro e N ⟨rfl,z⟩;have a:Hid (Below W.heap.size W N):=b.out.trans (z.mono b.out.size);clear z l j;obtain ⟨l,j⟩:=n.out N a.out
  cases ho:opB d rows with
  | true=>
   have M:=hid ho;clear ho;go_wp2
   exact bodyPost_ret (v:=.tuple #[.slice none 0 0,.int .i64 7]) (by simp [results,Tryz.results36,go_sem]) rfl ⟨_,_,_,_,rfl,.inr (.inl ⟨D.out,M.out,rfl,rfl⟩),g.out _ a.out⟩
  | false=>
   have M:=hid ho;clear ho
   go_wp2_with fail
   refine (H4.out N a.out).mono ?_;rintro e w4 ⟨p,t,m,rfl,Q,B,x⟩;have J:Hid (Below W.heap.size W w4):=a.out.trans (x.mono a.out.size);have HM:=hid Q;have O:=hid B;clear x l j Q B;go_wp2
   exact bodyPost_ret (v:=.tuple #[.slice p m.length t,.int .i64 0]) (by simp [results,Tryz.results36,go_sem]) rfl ⟨_,_,_,_,rfl,.inr (.inr ⟨D.out,M.out,rfl,m,HM.out,O.out⟩),g.out _ J.out⟩
end Go.Proofs.YtgfnmkenpgnllaaGreat
namespace Go.Proofs.YtgfnmkenpgnllaaGreat
open Go.RowKit Lin
attribute [local go_sem ↓] Go.wp_at_zero Go.wp_at_succ
theorem ZPf{d:Nat}{P:List (List Int)}(hP:∀p∈P,p.length=d+1∧∀z∈p,z.natAbs≤20)(hd1:1≤d)(hd3:d≤3)(hs6:P.length≤6){t:List UInt8}(ht:t∈ZBF d P P.length):t.length=P.length∧(∀c∈t,c=43∨c=45∨c=48)∧CutOk d (clR P t)∧ZDP d (clR P t)=false:=by
 obtain ⟨⟨b,z,a⟩,j⟩:=ZCa.1 ht
 refine ⟨b,fun c hc=>by rcases j c hc with h | h <;> simp [h],⟨hd1,hd3,?_,fun r hr=>?_,fun r hr=>?_⟩,ZDZ.2 ⟨_,_,a.fea⟩⟩
 ·have:=ZDb P t t.length
  show (clT P t t.length).length≤12
  omega
 ·obtain ⟨i,g,h⟩:=ZCx hr
  have:=(hP (P.getD i []) (ZAT (by omega))).1
  rcases h with rfl | rfl
  ·exact this
  ·simp only [ngL,Zab1]; exact this
 ·obtain ⟨i,g,h⟩:=ZCx hr
  have:=(hP (P.getD i []) (ZAT (by omega))).2
  rcases h with rfl | rfl
  ·exact this
  ·intro z a
   simp only [ngL,List.mem_map] at a;obtain ⟨y,f,rfl⟩:=a;have:=this y f;omega
theorem ZEu(d:Nat)(P:List (List Int))(v:Value)(w:World)(hd1:1≤d)(hd3:d≤3)(hG:PlG d P)(h6:P.length≤6)(hv:Mat 0 22 3 w v P) :
  Calls Tryz.prog 13 #[.int .i64 d,v] w fun e w'=>∃uo uc,e=.returned (.tuple #[.slice uo (ZBF d P P.length).length uc,.int .i64 0])∧w'.ownsRow w.heap.size 9 1 (.slice uo (ZBF d P P.length).length uc) (ZBF d P P.length).length (ZAc (ZBF d P P.length))∧Below w.heap.size w w':=by
 have n:Hid (Calls Tryz.prog 17 #[.int .i64 d,v] w fun e w'=>e=.returned (.int .i64 0)∧Below w.heap.size w w'):=ZBJ d P v w hd1 hd3 hG h6 hv
 have l:Hid (∀X,Below w.heap.size w X→Calls Tryz.prog 34 #[.int .i64 d,v,.string ⟨#[43,45]⟩] X fun e w'=>∃u,e=.returned u∧w'.ownsRow X.heap.size 9 1 u (ZBF d P P.length).length (ZAc (ZBF d P P.length))∧Below X.heap.size X w'):=fun X hX=>ZJf d P v X (hv.below hX (Za4 _)) hG.row hd1 hd3 h6
 clear hv hG;go_enter Tryz.func13,Tryz.ntmps13
 go_wp2_with fail
 refine n.out.mono ?_;rintro e m ⟨rfl,b⟩;have a:=hid b;clear b
 go_wp2_with fail
 refine (l.out m a.out).mono ?_;rintro e i ⟨u,rfl,f,c⟩;obtain ⟨uo,uc,rfl⟩:=ZAD f;have j:Hid (i.ownsRow w.heap.size 9 1 (.slice uo (ZBF d P P.length).length uc) (ZBF d P P.length).length (ZAc (ZBF d P P.length))):=ZLp f a.out.size;have g:Hid (Below w.heap.size w i):=a.out.trans (c.mono a.out.size);clear f c;go_wp2
 refine bodyPost_ret (v:=.tuple #[.slice uo (ZBF d P P.length).length uc,.int .i64 0]) (by simp [results,Tryz.results13,go_sem]) rfl ⟨uo,uc,rfl,j.out,g.out⟩
theorem ZIE(d:Nat)(P:List (List Int))(t:List UInt8)(v:Value)(b1 b2:Nat)(w:World)(hP:∀p∈P,p.length=d+1∧∀z∈p,z.natAbs≤20)(hd1:1≤d)(hd3:d≤3)(hs6:P.length≤6)(ht:t∈ZBF d P P.length)(hv:Mat 0 22 3 w v P)(c1:w.cell? ⟨b1,0,none⟩=some (.int .i64 d))(c2:w.cell? ⟨b2,0,none⟩=some v) :
  Calls Tryz.prog 35 #[ZDJ t,.pointer (some ⟨b1,0,none⟩),.pointer (some ⟨b2,0,none⟩)] w fun e w'=>e=.returned (.bool (opB d (clR P t)))∧Below w.heap.size w w':=by
 obtain ⟨J,D,B,r⟩:=ZPf hP hd1 hd3 hs6 ht;obtain ⟨R,O,rfl,_,_⟩:=ZAE hv
 have b:=ZDc d P t _ w hv hP hd3 (by omega) hs6 D
 have c:Hid (∀(u:Value) X,Mat 0 22 3 X u (clR P t)→Calls Tryz.prog 36 #[.agg #[.int .i64 d,u]] X fun e w'=>∃j n l E,e=.returned (.tuple #[.slice j n l,.int .i64 E])∧(E == 7)=opB d (clR P t)∧Below X.heap.size X w'):=fun u X hu=>by
  refine (ZEt d (clR P t) u X hu B).mono ?_;rintro e w' ⟨j,n,l,E,rfl,M,m⟩;refine ⟨j,n,l,E,rfl,?_,m⟩
  rcases M with ⟨q,_⟩ | ⟨_,q,_,rfl⟩ | ⟨_,q,rfl,_⟩
  ·rw [r] at q; cases q
  ·rw [q]; rfl
  ·rw [q]; rfl
 have a:=hid b;generalize opB d (clR P t)=ob at *
 obtain ⟨s,i⟩:∃s:ByteArray,s=⟨t.toArray⟩:=⟨_,rfl⟩
 show Calls Tryz.prog 35 #[.string ⟨t.toArray⟩,.pointer (some ⟨b1,0,none⟩),.pointer (some ⟨b2,0,none⟩)] w fun e w'=>e=.returned (.bool ob)∧Below w.heap.size w w'
 rw [←i] at a ⊢;clear hv J D B r hP i b;go_enter Tryz.func35,Tryz.ntmps35
 go_wp2_with fail
 refine a.out.mono ?_;rintro e L ⟨N,Q,rfl,A,m⟩;have y:=c.out _ L A;have f:=hid m;clear A m c1 c2 a c
 go_wp2_with fail
 refine y.mono ?_;rintro e G ⟨j,n,l,E,rfl,x,g⟩;have o:Hid (Below w.heap.size w G):=f.out.trans (g.mono f.out.size);have F:=hid x;clear g y x;go_wp2;go_ret;exact ⟨ZAW F.out,o.out⟩
theorem ZG9(d:Nat)(P:List (List Int))(v:Value)(w:World)(hd1:1≤d)(hd3:d≤3)(hG:PlG d P)(h6:P.length≤6)(hv:Mat 0 22 3 w v P) :
  Calls Tryz.prog 14 #[.int .i64 d,v] w fun e w'=>∃uo uc,e=.returned (.tuple #[.slice uo ((ZBF d P P.length).filter fun t=>!opB d (clR P t)).length uc,.int .i64 0])∧Sl 0 9 w' (.slice uo ((ZBF d P P.length).filter fun t=>!opB d (clR P t)).length uc) (ZAc ((ZBF d P P.length).filter fun t=>!opB d (clR P t)))∧Below w.heap.size w w':=by
 obtain ⟨o,n,rfl,_,_⟩:=ZAE hv
 obtain ⟨W,r⟩:∃W,W=(w.alloc (.cells #[.int .i64 d] 3)).alloc (.cells #[.slice o P.length n] 25):=⟨_,rfl⟩
 have a:Below w.heap.size w W:=by rw [r]; exact ((Below.refl _ _).alloc (Za4 _) _).alloc (by simp) _
 have y:W.heap.size=w.heap.size+2:=by rw [r]; simp
 have R:W.heap[w.heap.size]?=some (.cells #[.int .i64 d] 3 (0,0)):=by
  rw [r]
  exact (Below.heap_alloc _ _ _ (by simp)).trans (heap_alloc_new _ _)
 have S:W.heap[w.heap.size+1]?=some (.cells #[.slice o P.length n] 25 (0,0)):=by
  rw [r];have:=heap_alloc_new (w.alloc (.cells #[.int .i64 d] 3)) (.cells #[.slice o P.length n] 25)
  simpa using this
 have l:=hv.below a (Za4 _)
 have j:∀X:World,(∀b,b < W.heap.size→X.heap[b]?=W.heap[b]?)→Mat 0 22 3 X (.slice o P.length n) P∧X.cell? ⟨w.heap.size,0,none⟩=some (.int .i64 d)∧X.cell? ⟨w.heap.size+1,0,none⟩=some (.slice o P.length n):=fun X hX=>by
  obtain ⟨vs,Q,F,q3⟩:=l
  have k1:=(hX w.heap.size (by omega)).trans R
  have k2:=(hX (w.heap.size+1) (by omega)).trans S
  exact ⟨⟨vs,Q,F.move fun b hb ht=>⟨hX b hb,ht⟩,fun i hi=>(q3 i hi).move fun b hb ht=>⟨hX b hb,ht⟩⟩,by simp [World.cell?,k1],by simp [World.cell?,k2]⟩
 have A:Hid (Calls Tryz.prog 13 #[.int .i64 d,.slice o P.length n] W fun e w'=>∃uo uc,e=.returned (.tuple #[.slice uo (ZBF d P P.length).length uc,.int .i64 0])∧w'.ownsRow W.heap.size 9 1 (.slice uo (ZBF d P P.length).length uc) (ZBF d P P.length).length (ZAc (ZBF d P P.length))∧Below W.heap.size W w'):=ZEu d P _ W hd1 hd3 hG h6 l
 have f:(ZBF d P P.length).length≤1000000:=Zaa8 (ZGE d P P.length) (Zaa8 (Nat.pow_le_pow_right (by decide) h6) (by decide))
 have z:Hid (∀uo uc X,Below W.heap.size W X→X.ownsRow W.heap.size 9 1 (.slice uo (ZBF d P P.length).length uc) (ZBF d P P.length).length (ZAc (ZBF d P P.length))→Calls Tryz.prog 38 #[.slice uo (ZBF d P P.length).length uc,.func (.func 35) #[] #[.pointer (some ⟨w.heap.size,0,none⟩),.pointer (some ⟨w.heap.size+1,0,none⟩)]] X fun e w'=>∃u,e=.returned u∧w'.ownsRow W.heap.size 9 1 u ((ZBF d P P.length).filter fun t=>!opB d (clR P t)).length (ZAc ((ZBF d P P.length).filter fun t=>!opB d (clR P t)))∧Below W.heap.size X w'):=fun uo uc X hX ho=>by
  refine ZID W.heap.size w.heap.size (w.heap.size+1) (fun t=>opB d (clR P t)) (fun Y=>(∀b,b < W.heap.size→Y.heap[b]?=W.heap[b]?)∧W.heap.size≤Y.heap.size) _ _ X ho hX.size f (fun t ht Y hY=>?_) ⟨fun b hb=>hX.block b hb,hX.size⟩ (fun Y Z hY hZ=>⟨fun b hb=>(hZ.block b (by have:=hY.2; omega)).trans (hY.1 b hb),Zaa8 hY.2 hZ.size⟩) (fun g hg Y c u hY=>⟨fun b hb=>(Below.heap_setCell _ _ _ _ (by show b≠g; have:=(ho.lt g hg).1; omega)).trans (hY.1 b hb),by simp [World.setCell]; exact hY.2⟩)
  obtain ⟨m1,m2,V⟩:=j Y hY.1;exact ZIE d P t _ _ _ Y hG.row hd1 hd3 h6 ht m1 m2 V
 have N:Hid (∀X,Below W.heap.size W X→Below w.heap.size w X):=fun X hX=>a.trans (hX.mono a.size)
 have O:Hid (∀X,Below W.heap.size W X→X.cell? ⟨w.heap.size,0,none⟩=some (.int .i64 d)∧X.cell? ⟨w.heap.size+1,0,none⟩=some (.slice o P.length n)):=fun X hX=>(j X fun b hb=>hX.block b hb).2
 have D:=hid r;obtain ⟨Q,F⟩:=O.out W (Below.refl _ _);have aa:=hid y;clear hv hG l j R S r a f y
 generalize ((ZBF d P P.length).filter fun t=>!opB d (clR P t))=FL at *
 generalize ZBF d P P.length=GL at *;go_enter Tryz.func14,Tryz.ntmps14
 go_upto_region 1 with fail
 rw [←D.out]
 go_wp2_with fail
 refine A.out.mono ?_;rintro e U ⟨uo,uc,rfl,x,m⟩;have s:=z.out uo uc U m x;have G:=hid m;clear x m A z Q F
 go_wp2_with fail
 refine s.mono ?_;rintro e T ⟨u,rfl,p,B⟩;obtain ⟨E,L,rfl⟩:=ZAD p;have M:Hid (Below w.heap.size w T):=N.out _ (G.out.trans B);have J:Hid (Sl 0 9 T (.slice E FL.length L) (ZAc FL)):=Sl.own p;clear p B s;go_wp2
 refine bodyPost_ret (v:=.tuple #[.slice E FL.length L,.int .i64 0]) (by simp [results,Tryz.results14,go_sem]) rfl ⟨E,L,rfl,J.out,M.out⟩
end Go.Proofs.YtgfnmkenpgnllaaGreat
