import Derived.Test.YtbdacimjebaihaaGreatRefA
import Derived.Lib.OthersKept
import Derived.Test.YtbdacimjebaihaaGreatStepsAll
import Derived.Deep.Onto
import Derived.Maps.AppendAt
import Derived.Test.YtbdacimjebaihaaGreatZqA
import Derived.OrdersIn
import Derived.OwnWalkIn
import Derived.OrdersHeld
import Derived.RangeFuncCalls
import Derived.RangeFuncNested
import Derived.Deep.RegionHeld3
namespace Go.Proofs.YtbdacimjebaihaaGreat
open Go.RowKit
theorem infoSlC:(Tryz.prog.info? 22).map (fun i=>(i.zero,i.size,i.bytes))=some (some (.slice none 0 0),1,24):=by kernel_rfl
theorem below_setC {B:Nat} {w w':World} {a:Addr} {u:Value} (h:Below B w w') (ha:B≤a.block):Below B w (w'.setCell a u):=h.setCell ha u
structure CtI (w:World) (R Q n:Nat) (m:List (List Int)) (wr:World):Prop where
 lo:w.heap.size≤R
 rq:R < Q
 res:wr.heap[R]?=some (.cells #[.int .i64 0,.slice none 0 0] 41 (0,0))
 box:∃sv,wr.heap[Q]?=some (.cells #[.int .i64 (n:Int),sv] 41 (0,0))∧Fr (Q+1) 22 3 wr sv m
 bel:Below w.heap.size w wr
 sz:Q+1≤wr.heap.size
theorem CtI.below {w wr w2:World} {R Q n N:Nat} {m:List (List Int)} (h:CtI w R Q n m wr) (hb:Below N wr w2) (hN:wr.heap.size≤N):CtI w R Q n m w2:=by
 obtain ⟨sv,h1,h2⟩:=h.box
 have hsz:=h.sz
 have hrq:=h.rq
 have hb0:=h.bel.size
 exact ⟨h.lo,hrq,(hb.block _ (by omega)).trans h.res,⟨sv,(hb.block _ (by omega)).trans h1,h2.below hb hN⟩,h.bel.trans (hb.mono (by omega)),Nat.le_trans hsz hb.size⟩
theorem CtI.push {w wr wx:World} {R Q n:Nat} {m:List (List Int)} {u:Value} {zs:List Int} (h:CtI w R Q n m wr) (hx:Below wr.heap.size wr wx) (hu:Sl 0 3 wx u (ints zs)) :
  ∃so sc vs,wx.cell? ⟨Q,1,none⟩=some (.slice so m.length sc)∧wx.ownsRow (Q+1) 22 1 (.slice so m.length sc) m.length vs∧Q+1≤wx.heap.size∧∀v' w5,w5.ownsRow (Q+1) 22 1 v' (m.length+1) (vs ++ [u])→(wx.alloc (.cells #[u] 22)).grownBy w5 (Value.slice so m.length sc).ownBlock→w5.cell? ⟨Q,1,none⟩=some (.slice so m.length sc)∧w5.frozen? ⟨Q,1,none⟩=false∧CtI w R Q n (m ++ [zs]) (w5.setCell ⟨Q,1,none⟩ v'):=by
 have hX:=h.below hx (Nat.le_refl _)
 obtain ⟨sv,hbox,vs,f1,f2,f3⟩:=hX.box
 obtain ⟨so,sc,rfl⟩:=owns_form f2
 have hsz:=hX.sz
 have hlo:=h.lo
 have hrq:=h.rq
 refine ⟨so,sc,vs,by simp [World.cell?,hbox],f2,hsz,fun v' w5 ho hg=>?_⟩
 have hne:∀b,b < Q+1→w5.heap[b]?=wx.heap[b]?:=fun b hb=>(hg.block b (by simp; omega) (fun e=>by
  have:=(f2.lt b e.symm).1
  omega)).trans (Below.heap_alloc wx _ b (by omega))
 have hb5:=(hne Q (by omega)).trans hbox
 have hss:wx.heap.size≤w5.heap.size:=Nat.le_trans (by simp) hg.size
 have hbl:Below w.heap.size w w5:=⟨hg.os.trans hX.bel.os,hg.tape.trans hX.bel.tape,hg.output.trans hX.bel.output,Nat.le_trans hX.bel.size hss,fun b hb=>(hne b (by omega)).trans (hX.bel.block b hb)⟩
 have hF5:Fr (Q+1) 22 3 w5 v' (m ++ [zs]):=Fr.push (e2:=22) (e1:=3) (by decide) f1 (f2.alloc _) (fun i hi=>(f3 i hi).alloc _) (hu.alloc _) ho hg
 refine ⟨by simp [World.cell?,hb5],by simp [World.frozen?,hb5],hlo,hrq,?_,⟨v',?_,?_⟩,below_setC hbl (by show _≤Q; omega),by simp only [World.setCell,Array.size_modify]; omega⟩
 ·exact (Below.heap_setCell _ _ _ _ (by show R≠Q; omega)).trans ((hne _ (by omega)).trans hX.res)
 ·simp [World.setCell,Array.getElem?_modify,hb5]
 ·obtain ⟨vs5,g1,g2,g3⟩:=hF5
  refine ⟨vs5,g1,?_,fun i hi=>?_⟩
  ·refine ⟨g2.1,?_⟩
   rcases g2.2 with q | ⟨g,cap,cur,e1,e2,e3,e4⟩
   ·exact .inl q
   ·exact .inr ⟨g,cap,cur,e1,e2,(Below.heap_setCell _ _ _ _ (by show g≠Q; omega)).trans e3,e4⟩
  ·refine Sl.setCell (g3 i hi) _ ⟨Nat.zero_le _,fun cur=>?_⟩
   rw [show (⟨Q,1,none⟩:Addr).block=Q from rfl,hb5]
   simp
theorem CtI.fin {w wr:World} {R Q n:Nat} {m:List (List Int)} (h:CtI w R Q n m wr):∃so sc,wr.cell? ⟨Q,0,none⟩=some (.int .i64 (n:Int))∧wr.cell? ⟨Q,1,none⟩=some (.slice so m.length sc)∧wr.cell? ⟨R,0,none⟩=some (.int .i64 0)∧wr.cell? ⟨R,1,none⟩=some (.slice none 0 0)∧wr.frozen? ⟨R,0,none⟩=false∧wr.frozen? ⟨R,1,none⟩=false∧Mat 0 22 3 ((wr.setCell ⟨R,0,none⟩ (.int .i64 (n:Int))).setCell ⟨R,1,none⟩ (.slice so m.length sc)) (.slice so m.length sc) m∧Below w.heap.size w ((wr.setCell ⟨R,0,none⟩ (.int .i64 (n:Int))).setCell ⟨R,1,none⟩ (.slice so m.length sc)):=by
 obtain ⟨sv,hbox,vs,f1,f2,f3⟩:=h.box
 obtain ⟨so,sc,rfl⟩:=owns_form f2
 have hres:=h.res
 have hrq:=h.rq
 have hres2:(wr.setCell ⟨R,0,none⟩ (.int .i64 (n:Int))).heap[R]?=some (.cells #[.int .i64 (n:Int),.slice none 0 0] 41 (0,0)):=by simp [World.setCell,Array.getElem?_modify,hres]
 refine ⟨so,sc,by simp [World.cell?,hbox],by simp [World.cell?,hbox],by simp [World.cell?,hres],by simp [World.cell?,hres],by simp [World.frozen?,hres],by simp [World.frozen?,hres],⟨vs,f1,?_,fun i hi=>?_⟩,below_setC (below_setC h.bel h.lo) h.lo⟩
 ·refine Sl.own (base:=Q+1) ⟨f2.1,?_⟩
  rcases f2.2 with h1 | ⟨g,cap,cur,e1,h2,h3,h4⟩
  ·exact .inl h1
  ·exact .inr ⟨g,cap,cur,e1,h2,(Below.heap_setCell _ _ _ _ (by show g≠R; omega)).trans ((Below.heap_setCell _ _ _ _ (by show g≠R; omega)).trans h3),h4⟩
 ·refine Sl.setCell (Sl.setCell (f3 i hi) _ ⟨Nat.zero_le _,fun cur=>?_⟩) _ ⟨Nat.zero_le _,fun cur=>?_⟩
  ·rw [show (⟨R,0,none⟩:Addr).block=R from rfl,hres]
   simp
  ·rw [show (⟨R,1,none⟩:Addr).block=R from rfl,hres2]
   simp
theorem CtI.start (w wr:World) (R n:Nat) (hlo:w.heap.size≤R) (hR:wr.heap[R]?=some (.cells #[.int .i64 0,.slice none 0 0] 41 (0,0))) (hb:Below w.heap.size w wr):CtI w R wr.heap.size n [] (wr.alloc (.cells #[.int .i64 (n:Int),.slice none 0 0] 41)):=by
 have hlt:=(Array.getElem?_eq_some_iff.1 hR).1
 exact ⟨hlo,hlt,(Below.heap_alloc _ _ _ hlt).trans hR,⟨.slice none 0 0,heap_alloc_new wr _,Fr.nil _ _ _ _⟩,hb.alloc hb.size _,by simp⟩
theorem Sl.cutC {w:World} {a:Addr} {n c c' d:Nat} {l:List Int} (h:Sl 0 3 w (.slice (some a) n c) (ints l)) (hd:d≤l.length) (h1:d≤c') (h2:c'≤maxLen):Sl 0 3 w (.slice (some a) d c') (ints (l.take d)):=by
 obtain ⟨ao,cap,hv,_,_,h3,_⟩:=h
 simp only [Value.slice.injEq] at hv
 obtain ⟨rfl,_,_⟩:=hv
 refine ⟨some a,c',by simp [show min d l.length=d by omega],by simp; omega,h2,fun i hi=>?_,fun e=>by cases e⟩
 simp at hi
 obtain ⟨b,o,e,hc,ht⟩:=h3 i (by simp; omega)
 refine ⟨b,o,e,hc.trans ?_,ht⟩
 rw [ints_get _ _ (by omega),ints_get _ _ (by simp; omega)]
 simp [show i < d by omega]
theorem run_cut2C {a:Addr} {n c d:Nat} (h1:d≤n) (h2:n≤c) (w:World):(Instr.slice 22 (.slice (some a) n c) none (some (.int .i64 (d:Int))) none).run Tryz.prog w=.ok (.slice (some a) d c) w:=by
 have e1:(0:Int)≤(d:Int)∧(d:Int)≤(c:Int):=by omega
 have e2:d≤c:=by omega
 have hz:∀w,(Go.sizeOf 3).run Tryz.prog w=.ok 1 w:=fun w=>by kernel_rfl
 simp [Instr.slice,Instr.sliceBounds,Instr.sliceBound,run_underlying Tryz.underlying22,asIntOf,e1,e2,hz,Addr.add,go_sem]
theorem Sl.iterAt {B:Nat} {e:TypeId} {w:World} {v:Value} {xs:List Value} (h:Sl B e w v xs) {k:Nat} {s:ByteArray} {pos:Nat} (hB:B≤k) (hk:w.heap[k]?=some (.stringIter s pos)) (pos':Nat):Sl B e (w.iterAt k s pos') v xs:=
 h.move fun b hl ht=>⟨Lib.iterAt_other w k b s pos' (fun e1=>by
  rcases ht with ht | ⟨cur,ht⟩
  ·omega
  ·rw [e1,hk] at ht; cases ht),ht⟩
theorem owns_iterAt {w:World} {B e size n:Nat} {v:Value} {xs:List Value} {k:Nat} {s:ByteArray} {pos:Nat} (h:w.ownsRow B e size v n xs) (hk:w.heap[k]?=some (.stringIter s pos)) (pos':Nat):(w.iterAt k s pos').ownsRow B e size v n xs:=by
 refine ⟨h.1,?_⟩
 rcases h.2 with q | ⟨g,cap,cur,e1,e2,e3,e4⟩
 ·exact .inl q
 ·exact .inr ⟨g,cap,cur,e1,e2,(Lib.iterAt_other w k g s pos' (fun e=>by rw [e,hk] at e3; cases e3)).trans e3,e4⟩
theorem Fr.iterAt {B:Nat} {e2 e1:TypeId} {w:World} {v:Value} {m:List (List Int)} (h:Fr B e2 e1 w v m) {k:Nat} {s:ByteArray} {pos:Nat} (hk:w.heap[k]?=some (.stringIter s pos)) (pos':Nat):Fr B e2 e1 (w.iterAt k s pos') v m:=by
 obtain ⟨vs,h1,h2,h3⟩:=h
 exact ⟨vs,h1,owns_iterAt h2 hk pos',fun i hi=>(h3 i hi).iterAt (Nat.zero_le _) hk pos'⟩
theorem CtI.iterAt {w wr:World} {R Q n:Nat} {m:List (List Int)} (h:CtI w R Q n m wr) {k:Nat} {s:ByteArray} {pos:Nat} (hk:wr.heap[k]?=some (.stringIter s pos)) (pos':Nat) (hlo:w.heap.size≤k):CtI w R Q n m (wr.iterAt k s pos'):=by
 obtain ⟨sv,h1,h2⟩:=h.box
 have hr:=h.res
 exact ⟨h.lo,h.rq,(Lib.iterAt_other wr k R s pos' (fun e=>by rw [e,hk] at hr; cases hr)).trans hr,⟨sv,(Lib.iterAt_other wr k Q s pos' (fun e=>by rw [e,hk] at h1; cases h1)).trans h1,h2.iterAt hk pos'⟩,Lib.below_iterAt h.bel hlo s pos',by rw [Lib.iterAt_size]; exact h.sz⟩
end Go.Proofs.YtbdacimjebaihaaGreat
namespace Go.Proofs.YtbdacimjebaihaaGreat
open Go.RowKit Lin
attribute [local go_sem ↓] Go.wp_at_zero Go.wp_at_succ
theorem best_bd {d:Nat} {rows:List (List Int)} {g:List Int} {a b:Int} (hc:CutOk d rows) (hgl:g.length=d) (hgb:∀z∈g,z.natAbs≤20) (h:BestV d rows g a b):a.natAbs≤80000000∧b.natAbs≤80000000:=by
 rcases h with ⟨_,rfl,rfl⟩ | ⟨y,h0,hy,hl⟩
 ·exact ⟨by decide,by decide⟩
 ·have hk:=way_ok hc hgl hgb (lwO_mem hy)
  have h1:=sdL_bd hk hc.rw
  have h2:=hk.ub
  obtain ⟨_,q1,q2⟩:=low_cross hl
  constructor <;> omega
set_option maxRecDepth 100000 in
set_option maxHeartbeats 1600000 in
theorem above_any (d:Nat) (rows:List (List Int)) (p:List Int) (v pv:Value) (w:World) (hv:Mat 0 22 3 w v rows) (hp:Sl 0 3 w pv (ints p)) (hc:CutOk d rows) (hpl:p.length=d+1) (hpb:∀z∈p,z.natAbs≤20) (hf:∃x y,Fea d rows x y) :
  Calls Tryz.prog 47 #[.agg #[.int .i64 d,v],pv] w fun e w'=>e=.returned (.bool (gaC d rows p))∧Below w.heap.size w w':=by
 obtain ⟨ro,rc,hvv,hlc,hcm⟩:=mat_open hv
 obtain ⟨po,pc,hpp,hlp,hpm⟩:=sl_open hp
 rw [hpl] at hpp
 subst hvv hpp
 obtain ⟨pa,rfl⟩:∃pa,po=some pa:=by
  obtain ⟨ao,cap,e1,_,_,h3,_⟩:=hp
  obtain ⟨b,o,e,_⟩:=h3 0 (by simp; omega)
  simp only [Value.slice.injEq] at e1
  exact ⟨_,e1.1.trans e⟩
 obtain ⟨pb,pof,hpa⟩:∃pb pof,pa=⟨pb,pof,none⟩:=by
  obtain ⟨ao,cap,e1,_,_,h3,_⟩:=hp
  obtain ⟨b,o,e,_⟩:=h3 0 (by simp; omega)
  simp only [Value.slice.injEq] at e1
  have:=e1.1.trans e
  exact ⟨b,o,by simpa using this⟩
 subst hpa
 obtain ⟨W,hW,hbW,hsW,hcW⟩:=cut_box w d (.slice ro rows.length rc)
 have HWW:Hid (W=w.alloc (.cells #[.int .i64 d,.slice ro rows.length rc] 41)):=hW
 have HBW:Hid (∀X,Below W.heap.size W X→Below w.heap.size w X):=fun X hX=>hbW.trans (hX.mono hbW.size)
 have HCC:Hid (∀X,Below W.heap.size W X→X.cell? ⟨w.heap.size,0,none⟩=some (.int .i64 d)∧X.cell? ⟨w.heap.size,1,none⟩=some (.slice ro rows.length rc)):=hcW
 have hgl:(p.take d).length=d:=by simp; omega
 have hgb:∀z∈p.take d,z.natAbs≤20:=fun z hz=>hpb z (List.mem_of_mem_take hz)
 have HLW:Hid (∀X,Below W.heap.size W X→Calls Tryz.prog 71 #[.agg #[.int .i64 d,.slice ro rows.length rc],.slice (some ⟨pb,pof,none⟩) d pc] X fun e w'=>∃a b,e=.returned (.tuple #[.int .i64 a,.int .i64 b,.int .i64 (gmE d rows (p.take d))])∧BestV d rows (p.take d) a b∧Below W.heap.size W w'):=fun X hX=>by
  have hB:=HBW.out X hX
  refine (best_any d rows (p.take d) _ _ X (hv.below hB (Nat.le_refl _)) ((hp.below hB (Nat.le_refl _)).cutC (by omega) (by omega) (by unfold maxLen; omega)) hc hgl hgb).mono ?_
  rintro e w' ⟨a,b,rfl,h1,h2⟩
  exact ⟨a,b,rfl,h1,hX.trans (h2.mono hX.size)⟩
 have HPD:Hid (∀X,Below W.heap.size W X→X.cell? ⟨pb,pof+d,none⟩=some (.int .i64 (V p d))):=fun X hX=>by
  obtain ⟨ao,cap,e1,_,_,h3,_⟩:=hp.below (HBW.out X hX) (Nat.le_refl _)
  obtain ⟨b,o,e,hcc,_⟩:=h3 d (by simp; omega)
  simp only [Value.slice.injEq] at e1
  have:=e1.1.trans e
  simp only [Option.some.injEq,Addr.mk.injEq] at this
  obtain ⟨rfl,rfl,_⟩:=this
  rw [hcc,ints_get _ _ (by omega)]
  rfl
 have HGA:Hid (∀a b,BestV d rows (p.take d) a b→(decide (gmE d rows (p.take d)=7) || decide (V p d*b < a))=gaC d rows p∧a.natAbs≤80000000∧b.natAbs≤80000000):=fun a b hB=>by
  refine ⟨?_,best_bd hc hgl hgb hB⟩
  have:=(ga_iff hpl hf hB).trans gaC_iff.symm
  rw [Bool.eq_iff_iff,←this]
  simp
 have hvd:(V p d).natAbs≤20:=hpb _ (by simp [V,hpl])
 have hd3:=hc.d3
 have hsl:=fun w=>run_cut2C (a:=⟨pb,pof,none⟩) (n:=d+1) (c:=pc) (d:=d) (by omega) (by omega) w
 have hpc:=hlp
 rw [hpl] at hpc
 obtain ⟨c0,c1⟩:=hcW W (Below.refl _ _)
 clear hv hp hc hpl hpb hf hW hbW hsW hcW hgl hgb hlp
 generalize gmE d rows (p.take d)=E at *
 generalize hvp:V p d=vd at *
 clear hvp
 go_enter Tryz.func47,Tryz.ntmps47
 go_upto_region 1 with fail
 rw [←HWW.out]
 refine wp_region_held_drew (S:=fun X=>Below W.heap.size W X∧X.cell? ⟨w.heap.size,0,none⟩=some (.int .i64 d)∧X.cell? ⟨w.heap.size,1,none⟩=some (.slice ro rows.length rc)) (by kernel_rfl) ⟨(Below.refl _ _).drew,HCC.out _ (Below.refl _ _).drew⟩ (fun hHeld=>?_)
 refine wpAnyH_tk (i:=0) (d:=9) (v:=(.agg #[.int .i64 d,.slice ro rows.length rc])) rfl rfl (by kernel_rfl) (by kernel_rfl) (by kernel_rfl) (fun _ _ _ h=>h) (.inl ⟨by rfl,by (intro wq hSw; (try dsimp only at hSw); go_simp; (try (first | rfl | omega)))⟩) hHeld ?_
 simp only [Act.put,List.setIfInBounds_toArray,List.set_cons_zero,List.set_cons_succ]
 refine wpAnyH_tk (i:=1) (d:=10) (v:=(.slice (some ⟨pb,pof,none⟩) (d+1) pc)) rfl rfl (by kernel_rfl) (by kernel_rfl) (by kernel_rfl) (fun _ _ _ h=>h) (.inl ⟨by rfl,by (intro wq hSw; (try dsimp only at hSw); go_simp; (try (first | rfl | omega)))⟩) hHeld ?_
 simp only [Act.put,List.setIfInBounds_toArray,List.set_cons_zero,List.set_cons_succ]
 refine wpAnyH_tk (i:=2) (d:=11) (v:=(.pointer (some ⟨w.heap.size,0,none⟩))) rfl rfl (by kernel_rfl) (by kernel_rfl) (by kernel_rfl) (fun _ _ _ h=>h) (.inl ⟨by rfl,by (intro wq hSw; (try dsimp only at hSw); go_simp; (try (first | rfl | omega)))⟩) hHeld ?_
 simp only [Act.put,List.setIfInBounds_toArray,List.set_cons_zero,List.set_cons_succ]
 refine wpAnyH_tk (i:=3) (d:=12) (v:=(.int .i64 d)) rfl rfl (by kernel_rfl) (by kernel_rfl) (by kernel_rfl) (fun _ _ _ h=>h) (.inl ⟨by rfl,by (intro wq hSw; (try dsimp only at hSw); go_simp; (try (first | rfl | omega)))⟩) hHeld ?_
 simp only [Act.put,List.setIfInBounds_toArray,List.set_cons_zero,List.set_cons_succ]
 refine wpAnyH_tk (i:=4) (d:=13) (v:=(.slice (some ⟨pb,pof,none⟩) d pc)) rfl rfl (by kernel_rfl) (by kernel_rfl) (by kernel_rfl) (fun _ _ _ h=>h) (.inl ⟨by rfl,by (intro wq hSw; (try dsimp only at hSw); go_simp; (try (first | rfl | omega)))⟩) hHeld ?_
 simp only [Act.put,List.setIfInBounds_toArray,List.set_cons_zero,List.set_cons_succ]
 refine wpAnyH_ready (rs:=[5]) (by kernel_rfl) (by simp) ?_
 refine ready_tk (i:=5) rfl (by rfl) (fun K hK=>?_) AllReadyH.nil
 go_simp
 refine (HLW.out _ (Below.refl _ _).drew).mono ?_
 rintro e w5 ⟨a,b,rfl,hbv,hb5⟩
 refine hK.out _ _ ⟨hb5,HCC.out w5 hb5⟩ (fun hHeld=>?_)
 clear hK K
 obtain ⟨hans,hab,hbb⟩:=HGA.out a b hbv
 refine wpAnyH_tk (i:=6) (d:=8) (v:=(.tuple #[.int .i64 a,.int .i64 b,.int .i64 E])) rfl rfl (by kernel_rfl) (by kernel_rfl) (by kernel_rfl) (fun _ _ _ h=>h) (.inl ⟨by rfl,by (intro wq hSw; (try dsimp only at hSw); go_simp; (try (first | rfl | omega)))⟩) hHeld ?_
 simp only [Act.put,List.setIfInBounds_toArray,List.set_cons_zero,List.set_cons_succ]
 refine wpAnyH_tk (i:=7) (d:=15) (v:=(.int .i64 a)) rfl rfl (by kernel_rfl) (by kernel_rfl) (by kernel_rfl) (fun _ _ _ h=>h) (.inl ⟨by rfl,by (intro wq hSw; (try dsimp only at hSw); go_simp; (try (first | rfl | omega)))⟩) hHeld ?_
 simp only [Act.put,List.setIfInBounds_toArray,List.set_cons_zero,List.set_cons_succ]
 refine wpAnyH_tk (i:=8) (d:=16) (v:=(.int .i64 b)) rfl rfl (by kernel_rfl) (by kernel_rfl) (by kernel_rfl) (fun _ _ _ h=>h) (.inl ⟨by rfl,by (intro wq hSw; (try dsimp only at hSw); go_simp; (try (first | rfl | omega)))⟩) hHeld ?_
 simp only [Act.put,List.setIfInBounds_toArray,List.set_cons_zero,List.set_cons_succ]
 refine wpAnyH_tk (i:=9) (d:=17) (v:=(.int .i64 E)) rfl rfl (by kernel_rfl) (by kernel_rfl) (by kernel_rfl) (fun _ _ _ h=>h) (.inl ⟨by rfl,by (intro wq hSw; (try dsimp only at hSw); go_simp; (try (first | rfl | omega)))⟩) hHeld ?_
 simp only [Act.put,List.setIfInBounds_toArray,List.set_cons_zero,List.set_cons_succ]
 refine wpAnyH_tk (i:=10) (d:=5) (v:=(.int .i64 a)) rfl rfl (by kernel_rfl) (by kernel_rfl) (by kernel_rfl) (fun _ _ _ h=>h) (.inl ⟨by rfl,by (intro wq hSw; (try dsimp only at hSw); go_simp; (try (first | rfl | omega)))⟩) hHeld ?_
 simp only [Act.put,List.setIfInBounds_toArray,List.set_cons_zero,List.set_cons_succ]
 refine wpAnyH_tk (i:=11) (d:=6) (v:=(.int .i64 b)) rfl rfl (by kernel_rfl) (by kernel_rfl) (by kernel_rfl) (fun _ _ _ h=>h) (.inl ⟨by rfl,by (intro wq hSw; (try dsimp only at hSw); go_simp; (try (first | rfl | omega)))⟩) hHeld ?_
 simp only [Act.put,List.setIfInBounds_toArray,List.set_cons_zero,List.set_cons_succ]
 refine wpAnyH_tk (i:=12) (d:=7) (v:=(.int .i64 E)) rfl rfl (by kernel_rfl) (by kernel_rfl) (by kernel_rfl) (fun _ _ _ h=>h) (.inl ⟨by rfl,by (intro wq hSw; (try dsimp only at hSw); go_simp; (try (first | rfl | omega)))⟩) hHeld ?_
 simp only [Act.put,List.setIfInBounds_toArray,List.set_cons_zero,List.set_cons_succ]
 refine wpAnyH_done (by kernel_rfl) ?_ _
 have HB5:Hid (Below W.heap.size W w5):=hb5
 obtain ⟨c0',c1'⟩:=HCC.out w5 hb5
 have c2:=HPD.out w5 hb5
 have hw1:IntKind.i64.wrap (vd*b)=vd*b:=by
  have:(vd*b).natAbs≤20*80000000:=by rw [Int.natAbs_mul]; exact Nat.mul_le_mul hvd hbb
  rw [IntKind.wrap_i64]; omega
 have HAN:Hid ((decide (E=7) || decide (vd*b < a))=gaC d rows p):=hans
 clear hHeld hb5 hbv hans c0 c1
 by_cases h7:E=7
 ·subst h7
  go_wp2
  go_ret
  refine ⟨?_,HBW.out _ HB5.out⟩
  rw [←HAN.out]
  simp
 ·have h7b:decide (E=7)=false:=by simpa using h7
  have h7c:(E == 7)=false:=by simpa using h7
  go_wp2
  go_ret
  refine ⟨?_,HBW.out _ HB5.out⟩
  rw [←HAN.out]
  simp [h7]
end Go.Proofs.YtbdacimjebaihaaGreat
namespace Go.Proofs.YtbdacimjebaihaaGreat
open Go
def notDef (o:Oper):Bool:=match o.op with
 | .defer _=>false
 | _=>true
theorem no_defer {ops:Array Oper} (h:ops.all notDef=true):∀(i:Nat) (o:Oper),ops[i]?=some o→∀c,o.op≠.defer c:=by
 intro i o ho c hc
 obtain ⟨hi,rfl⟩:=Array.getElem?_eq_some_iff.1 ho
 have:=Array.all_eq_true.1 h i hi
 unfold notDef at this
 rw [hc] at this
 cases this
def Nrm (K:Act→World→Prop):Exit→Act→World→Prop
 | .normal,a,w=>K a w
 | _,_,_=>False
theorem nrm_lets {K:Act→World→Prop} (h:LetsOut (Nrm K)):False:=by
 obtain ⟨a,w,h⟩:=h
 exact h
theorem rowsIn_rnd {P:Program} {L n:Nat} {row:String} {args:Array Value} {w:World} {R:Value→World→Prop} (h:Rows P row args w R):RowsIn (Fence.wide.inRound L) n P row args w R:=by
 intro c cs _
 obtain ⟨v,w',h1,h2⟩:=h c cs
 exact ⟨v,w',h1,stepsIn_wide.2 h2⟩
theorem wpOp_rnd {P:Program} {L n:Nat} {ops:Array Oper} {K0:Act→World→Prop} {Q:Exit→Act→World→Prop} {K K':Act→World→Prop} {i:Nat} {a:Act} {w:World} (hd:∀o,ops[i]?=some o→∀c,o.op≠.defer c)
  (hK:∀a w,K a w→K' a w) (h:wpOp P ops (Nrm K0) i K a w):wpOpIn (Fence.wide.inRound L) n P ops Q i K' a w:=by
 unfold wpOp at h
 unfold wpOpIn
 cases ho:ops[i]? with
 | none=>
  rw [ho] at h
  exact hK _ _ h
 | some o=>
  rw [ho] at h
  simp only at h ⊢
  by_cases hw:Region.wanted o (yielded ops a.tmps)=true
  ·rw [if_pos hw] at h ⊢
   rcases h with h | ⟨_,h⟩
   ·refine ⟨fun f _=>trivial,?_⟩
    have hsem:o.semAt (Fence.wide.inRound L).round a.eval=execOp a.eval o:=Oper.semAt_plain (Fence.wide.inRound L) _ _ (hd o ho)
    rw [hsem]
    unfold Oper.wp at h
    generalize (execOp a.eval o).run P w=r at *
    cases r with
    | ok nx w'=>
     cases nx with
     | value v=>exact hK _ _ h
     | skip=>exact hK _ _ h
     | defer d=>exact hK _ _ h
     | enter f args=>
      refine ⟨fun hx=>(by cases hx),?_⟩
      refine CallsIn.inRound L (callsIn_wide.2 (Calls.mono h ?_))
      intro e w'' he
      cases e with
      | returned v=>exact hK _ _ he
      | panicked c=>exact he.elim
      | outgrown=>exact (nrm_lets he).elim
     | row row args=>
      refine ⟨fun hx=>(by cases hx),rowsIn_rnd (Rows.mono h fun v w'' he=>hK _ _ he)⟩
     | _=>exact h.elim
    | halt x w'=>
     cases x <;> exact h.elim
   ·exact (nrm_lets h).elim
  ·rw [if_neg hw] at h ⊢
   exact ⟨fun f _=>trivial,hK _ _ h⟩
theorem wpAnyIn_rnd {P:Program} {L n:Nat} {md:Region.Mode} {ops:Array Oper} {S:World→Prop} {K:Act→World→Prop} {Q:Exit→Act→World→Prop} (hd:∀(i:Nat) (o:Oper),ops[i]?=some o→∀c,o.op≠.defer c) (hQ:∀a w,K a w→Q .normal a w) :
  ∀(fuel:Nat) (listed:Array Bool) (a:Act) (w:World),wpAnyH P md ops (Nrm K) S fuel listed a w→wpAnyIn (Fence.wide.inRound L) n P md ops Q fuel listed a w
 | 0,_,_,_,h=>⟨h.1,hQ _ _ h.2⟩
 | fuel+1,_,_,_,h=>⟨fun hr=>hQ _ _ (h.1 hr),fun i hi=>wpOp_rnd (hd i) (fun a' w' h'=>wpAnyIn_rnd hd hQ fuel _ a' w' h'.2) (h.2 i hi)⟩
theorem wpIn_region_rnd {P:Program} {L n id:Nat} {ops:Array Oper} (S:World→Prop) {K:Act→World→Prop} {Q:Exit→Act→World→Prop} {a:Act} {w:World} (hm:P.follows .mixedOrders=true) (hd:∀(i:Nat) (o:Oper),ops[i]?=some o→∀c,o.op≠.defer c) (hQ:∀a w,K a w→Q .normal a w)
  (hS:S w.drew) (h:S w.drew→wpAnyH P .any ops (Nrm K) S ops.size (Array.replicate ops.size false) a w.drew):(Code.region id ops true).wpIn (Fence.wide.inRound L) n P Q a w:=
 wpIn_region_any hm (wpAnyIn_rnd hd hQ _ _ _ _ (h hS))
end Go.Proofs.YtbdacimjebaihaaGreat
namespace Go.Proofs.YtbdacimjebaihaaGreat
open Go Go.RowKit
theorem count_set {L:List Bool} : ∀{i:Nat},L[i]?=some false→(L.set i true).count false+1=L.count false:=by
 induction L with
 | nil=>intro i h; simp at h
 | cons x L ih=>
  intro i h
  cases i with
  | zero=>
   simp only [List.getElem?_cons_zero,Option.some.injEq] at h
   subst h
   simp
  | succ i=>
   simp only [List.getElem?_cons_succ] at h
   have:=ih h
   cases x <;> simp <;> omega
theorem ready_un {md:Region.Mode} {ops:Array Oper} {L:Array Bool} {i:Nat} (h:i∈Region.ready md ops L):L[i]?=some false:=by
 unfold Region.ready at h
 have:=(List.mem_filter.1 h).2
 simp only [Bool.and_eq_true,Bool.not_eq_true'] at this
 have h1:=this.1
 rw [Array.getD_eq_getD_getElem?] at h1
 cases hx:L[i]? with
 | none=>rw [hx] at h1; simp at h1
 | some b=>rw [hx] at h1; simp at h1; rw [h1]
theorem wpAnyH_inv {P:Program} {md:Region.Mode} {ops:Array Oper} {Q:Exit→Act→World→Prop} (Inv:Array Bool→Act→World→Prop)
  (hstep:∀L a w i,Inv L a w→i∈Region.ready md ops L→wpOp P ops Q i (fun a' w'=>Inv (L.setIfInBounds i true) a' w') a w)
  (hend:∀L a w,Inv L a w→Region.ready md ops L=[]→Q .normal a w) :
  ∀(fuel:Nat) (L:Array Bool) (a:Act) (w:World),Inv L a w→L.toList.count false≤fuel→wpAnyH P md ops Q (fun _=>True) fuel L a w
 | 0,L,a,w,h,hf=>by
  have hr:Region.ready md ops L=[]:=by
   refine List.eq_nil_iff_forall_not_mem.2 fun i hi=>?_
   have h1:=ready_un hi
   rw [←Array.getElem?_toList] at h1
   have:=List.count_pos_iff.2 (List.mem_of_getElem? h1)
   omega
  exact ⟨hr,hend L a w h hr⟩
 | fuel+1,L,a,w,h,hf=>by
  refine ⟨fun hr=>hend L a w h hr,fun i hi=>?_⟩
  have h1:=ready_un hi
  refine wpOp_mono (fun a' w' h'=>⟨trivial,wpAnyH_inv Inv hstep hend fuel _ a' w' h' ?_⟩) (hstep L a w i h hi)
  rw [←Array.getElem?_toList] at h1
  have:=count_set h1
  rw [Array.toList_setIfInBounds]
  omega
theorem wpOp_hid {P:Program} {ops:Array Oper} {Q:Exit→Act→World→Prop} {i:Nat} {K:Act→World→Prop} {a:Act} {w:World} {o:Oper} (ho:ops[i]?=some o) (hg:o.guard=none)
  (h:∀K':Act→World→Prop,Hid (∀a' w',K a' w'→K' a' w')→o.wp P a w K' Q):wpOp P ops Q i K a w:=by
 unfold wpOp
 rw [ho]
 have hw:Region.wanted o (yielded ops a.tmps)=true:=by simp [Region.wanted,hg]
 simp only [hw,if_true]
 exact Or.inl (h K (fun _ _ h=>h))
end Go.Proofs.YtbdacimjebaihaaGreat
