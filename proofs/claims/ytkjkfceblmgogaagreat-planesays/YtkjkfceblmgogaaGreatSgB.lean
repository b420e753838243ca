import Derived.Test.YtkjkfceblmgogaaGreatSgA
set_option maxRecDepth 100000
set_option maxHeartbeats 3200000
namespace Go.Proofs.YtkjkfceblmgogaaGreat
open Go.RowKit Lin
attribute [local go_sem ↓] Go.wp_at_zero Go.wp_at_succ
theorem ZEh{P:Program}{md:Region.Mode}{ops:Array Oper}{Q:Exit→Act→World→Prop}{S:World→Prop}(Inv:Array Bool→Act→World→Prop)(hS:∀L a w,Inv L a w→S w)
 (hstep:∀L a w i,Inv L a w→i∈Region.ready md ops L→wpOp P ops Q i (fun a' w'=>Inv (L.setIfInBounds i true) a' w') a w)
 (hend:∀L a w,Inv L a w→Region.ready md ops L=[]→Q .normal a w) :
  ∀(fuel:Nat) (L:Array Bool) (a:Act) (w:World),Inv L a w→L.toList.count false≤fuel→wpAnyH P md ops Q S fuel L a w
 | 0,L,a,w,h,hf=>by
  have hr:Region.ready md ops L=[]:=by
   refine List.eq_nil_iff_forall_not_mem.2 fun i hi=>?_
   have b:=ZDx hi;rw [←Array.getElem?_toList] at b;have:=List.count_pos_iff.2 (List.mem_of_getElem? b);omega
  exact ⟨hr,hend L a w h hr⟩
 | fuel+1,L,a,w,h,hf=>by
  refine ⟨fun hr=>hend L a w h hr,fun i hi=>?_⟩
  have b:=ZDx hi
  refine wpOp_mono (fun a' w' h'=>⟨hS _ _ _ h',ZEh Inv hS hstep hend fuel _ a' w' h' ?_⟩) (hstep L a w i h hi)
  rw [←Array.getElem?_toList] at b;have:=ZG3 b;rw [Array.toList_setIfInBounds];omega
theorem ZG4{b:Bool}(h:b=true→False):b=false:=by cases b with | false=>rfl | true=>exact (h rfl).elim
def ZBZ(w:World)(q:Nat)(b:Bool):Prop:=w.heap[q]?=some (.cells #[.bool b] 4 (0,0))
theorem ZBZ.below{w w':World}{q:Nat}{b:Bool}{N:Nat}(h:ZBZ w q b)(hb:Below N w w')(hN:w.heap.size≤N):ZBZ w' q b:=by
 have a:q < w.heap.size:=(Zaa3.1 h).1
 exact (hb.block q (by omega)).trans h
theorem ZBZ.lt{w:World}{q:Nat}{b:Bool}(h:ZBZ w q b):q < w.heap.size:=(Zaa3.1 h).1
theorem ZBZ.cell{w:World}{q:Nat}{b:Bool}(h:ZBZ w q b):w.cell? ⟨q,0,none⟩=some (.bool b):=by unfold ZBZ at h; simp [World.cell?,h]
theorem ZBZ.frozen{w:World}{q:Nat}{b:Bool}(h:ZBZ w q b):w.frozen? ⟨q,0,none⟩=false:=by unfold ZBZ at h; simp [World.frozen?,h]
theorem ZBZ.set{w:World}{q:Nat}{b:Bool}(h:ZBZ w q b)(c:Bool):ZBZ (w.setCell ⟨q,0,none⟩ (.bool c)) q c:=by unfold ZBZ at h ⊢; simp [World.setCell,Array.getElem?_modify,h]
theorem ZBZ.set'{w:World}{q r:Nat}{b:Bool}(h:ZBZ w q b)(hne:q≠r)(c:Value):ZBZ (w.setCell ⟨r,0,none⟩ c) q b:=(Below.heap_setCell _ _ _ _ hne).trans h
theorem ZBZ.iterAt{w:World}{q:Nat}{b:Bool}(h:ZBZ w q b){k:Nat}{s:ByteArray}{pos:Nat}(hk:w.heap[k]?=some (.stringIter s pos))(pos':Nat):ZBZ (w.iterAt k s pos') q b:=
 (Lib.iterAt_other w k q s pos' (fun e=>by unfold ZBZ at h; rw [e,hk] at h; cases h)).trans h
structure MeI(W:World)(ab be:Bool)(nl:List Int)(b2 b5 b6 b7 b8 b9 b10:Bool)(x5 x6 x9 x12 x13:Value)(w:World):Prop where
 bel:Below W.heap.size W w
 d5:b5=true→b2=true
 d6:b6=true→b5=true∧b2=true
 d9:b9=true→b7=true∧b6=true
 d10:b10=true→b8=true∧b6=true
 v9:b2=true→x9=.bool ab
 v12:b5=true→(∃no nc,x12=.slice no nl.length nc)∧(b6=false→Sl 0 3 w x12 (ZAB nl))
 v13:b6=true→x13=.bool be
 v5:b7=true→∃q,x5=.pointer (some ⟨q,0,none⟩)∧W.heap.size≤q∧ZBZ w q (b9 && ab)
 v6:b8=true→∃q,x6=.pointer (some ⟨q,0,none⟩)∧W.heap.size≤q∧ZBZ w q (b10 && be)
 ne:b7=true→b8=true→x5≠x6
theorem MeI.move{W w w':World}{ab be:Bool}{nl:List Int}{b2 b5 b6 b7 b8 b9 b10:Bool}{x5 x6 x9 x12 x13:Value}(h:MeI W ab be nl b2 b5 b6 b7 b8 b9 b10 x5 x6 x9 x12 x13 w)(hb:Below w.heap.size w w'):MeI W ab be nl b2 b5 b6 b7 b8 b9 b10 x5 x6 x9 x12 x13 w':=
 ⟨h.bel.trans (hb.mono h.bel.size),h.d5,h.d6,h.d9,h.d10,h.v9,fun q=>⟨(h.v12 q).1,fun r=>((h.v12 q).2 r).below hb (Za4 _)⟩,h.v13,
  fun q=>by obtain ⟨a,e,l,r⟩:=h.v5 q; exact ⟨a,e,l,r.below hb (Za4 _)⟩,
  fun q=>by obtain ⟨a,e,l,r⟩:=h.v6 q; exact ⟨a,e,l,r.below hb (Za4 _)⟩,h.ne⟩
theorem MeI.op2{W w:World}{ab be:Bool}{nl:List Int}{b5 b6 b7 b8 b9 b10:Bool}{x5 x6 x9 x12 x13:Value}(h:MeI W ab be nl false b5 b6 b7 b8 b9 b10 x5 x6 x9 x12 x13 w):MeI W ab be nl true b5 b6 b7 b8 b9 b10 x5 x6 (.bool ab) x12 x13 w:=
 ⟨h.bel,fun _=>rfl,fun q=>⟨(h.d6 q).1,rfl⟩,h.d9,h.d10,fun _=>rfl,h.v12,h.v13,h.v5,h.v6,h.ne⟩
theorem MeI.op5{W w w':World}{ab be:Bool}{nl:List Int}{b6 b7 b8 b9 b10:Bool}{x5 x6 x9 x12 x13:Value}(h:MeI W ab be nl true false b6 b7 b8 b9 b10 x5 x6 x9 x12 x13 w)(hb:Below w.heap.size w w'){no:Option Addr}{nc:Nat}(hs:Sl 0 3 w' (.slice no nl.length nc) (ZAB nl)):MeI W ab be nl true true b6 b7 b8 b9 b10 x5 x6 x9 (.slice no nl.length nc) x13 w':=by
 have h:=h.move hb
 exact ⟨h.bel,fun _=>rfl,fun _=>⟨rfl,rfl⟩,h.d9,h.d10,h.v9,fun _=>⟨⟨_,_,rfl⟩,fun _=>hs⟩,h.v13,h.v5,h.v6,h.ne⟩
theorem MeI.op6{W w w':World}{ab be:Bool}{nl:List Int}{b7 b8 b9 b10:Bool}{x5 x6 x9 x12 x13:Value}(h:MeI W ab be nl true true false b7 b8 b9 b10 x5 x6 x9 x12 x13 w)(hb:Below w.heap.size w w'):MeI W ab be nl true true true b7 b8 b9 b10 x5 x6 x9 x12 (.bool be) w':=by
 have h:=h.move hb
 exact ⟨h.bel,h.d5,fun _=>⟨rfl,rfl⟩,fun q=>⟨(h.d9 q).1,rfl⟩,fun q=>⟨(h.d10 q).1,rfl⟩,h.v9,fun q=>⟨(h.v12 q).1,fun r=>(by cases r)⟩,fun _=>rfl,h.v5,h.v6,h.ne⟩
theorem ZI6(w:World)(b:Bool):ZBZ (w.alloc (.cells #[.bool b] 4)) w.heap.size b:=heap_alloc_new w _
theorem MeI.op7{W w:World}{ab be:Bool}{nl:List Int}{b2 b5 b6 b8 b9 b10:Bool}{x5 x6 x9 x12 x13:Value}(h:MeI W ab be nl b2 b5 b6 false b8 b9 b10 x5 x6 x9 x12 x13 w):MeI W ab be nl b2 b5 b6 true b8 b9 b10 (.pointer (some ⟨w.heap.size,0,none⟩)) x6 x9 x12 x13 (w.alloc (.cells #[.bool false] 4)):=by
 have d:b9=false:=ZG4 fun q=>by have:=(h.d9 q).1; cases this
 have b:=h.move (ZAG w (.cells #[.bool false] 4))
 refine ⟨b.bel,h.d5,h.d6,fun q=>⟨rfl,(h.d9 q).2⟩,h.d10,h.v9,b.v12,h.v13,fun _=>⟨_,rfl,h.bel.size,by rw [d]; exact ZI6 w false⟩,b.v6,fun _ q=>?_⟩
 obtain ⟨a,e,_,r⟩:=h.v6 q;have:=r.lt;rw [e];intro c;simp only [Value.pointer.injEq,Zaa9,Addr.mk.injEq] at c;omega
theorem MeI.op8{W w:World}{ab be:Bool}{nl:List Int}{b2 b5 b6 b7 b9 b10:Bool}{x5 x6 x9 x12 x13:Value}(h:MeI W ab be nl b2 b5 b6 b7 false b9 b10 x5 x6 x9 x12 x13 w):MeI W ab be nl b2 b5 b6 b7 true b9 b10 x5 (.pointer (some ⟨w.heap.size,0,none⟩)) x9 x12 x13 (w.alloc (.cells #[.bool false] 4)):=by
 have d:b10=false:=ZG4 fun q=>by have:=(h.d10 q).1; cases this
 have b:=h.move (ZAG w (.cells #[.bool false] 4))
 refine ⟨b.bel,h.d5,h.d6,h.d9,fun q=>⟨rfl,(h.d10 q).2⟩,h.v9,b.v12,h.v13,b.v5,fun _=>⟨_,rfl,h.bel.size,by rw [d]; exact ZI6 w false⟩,fun q _=>?_⟩
 obtain ⟨a,e,_,r⟩:=h.v5 q;have:=r.lt;rw [e];intro c;simp only [Value.pointer.injEq,Zaa9,Addr.mk.injEq] at c;omega
theorem MeI.op9{W w:World}{ab be:Bool}{nl:List Int}{b10:Bool}{x5 x6 x9 x12 x13:Value}(h:MeI W ab be nl true true true true true false b10 x5 x6 x9 x12 x13 w):∃q,x5=.pointer (some ⟨q,0,none⟩)∧x9=.bool ab∧ZBZ w q false∧MeI W ab be nl true true true true true true b10 x5 x6 x9 x12 x13 (w.setCell ⟨q,0,none⟩ (.bool ab)):=by
 obtain ⟨q,e,l,r⟩:=h.v5 rfl;obtain ⟨c,b,d,f⟩:=h.v6 rfl
 have a:c≠q:=fun x=>h.ne rfl rfl (by rw [e,b,x])
 refine ⟨q,e,h.v9 rfl,r,ZBv h.bel l,h.d5,h.d6,fun _=>⟨rfl,rfl⟩,h.d10,h.v9,fun _=>⟨(h.v12 rfl).1,fun x=>(by cases x)⟩,h.v13,fun _=>⟨q,e,l,r.set ab⟩,fun _=>⟨c,b,d,f.set' a _⟩,h.ne⟩
theorem MeI.op10{W w:World}{ab be:Bool}{nl:List Int}{x5 x6 x9 x12 x13:Value}(h:MeI W ab be nl true true true true true true false x5 x6 x9 x12 x13 w):∃q,x6=.pointer (some ⟨q,0,none⟩)∧x13=.bool be∧ZBZ w q false∧MeI W ab be nl true true true true true true true x5 x6 x9 x12 x13 (w.setCell ⟨q,0,none⟩ (.bool be)):=by
 obtain ⟨q,e,l,r⟩:=h.v6 rfl;obtain ⟨c,b,d,f⟩:=h.v5 rfl
 have a:c≠q:=fun x=>h.ne rfl rfl (by rw [e,b,x])
 refine ⟨q,e,h.v13 rfl,r,ZBv h.bel l,h.d5,h.d6,h.d9,fun _=>⟨rfl,rfl⟩,h.v9,fun _=>⟨(h.v12 rfl).1,fun x=>(by cases x)⟩,h.v13,fun _=>⟨c,b,d,f.set' a _⟩,fun _=>⟨q,e,l,r.set be⟩,h.ne⟩
theorem ZH4(d:Nat)(rows:List (List Int))(p:List Int)(v pv:Value)(w:World){B0 B1:Nat}(hv:Mat B0 27 3 w v rows)(hp:Sl B1 3 w pv (ZAB p))(hc:CutOk d rows)(hpl:p.length=d+1)(hpb:∀z∈p,z.natAbs≤20)(hf:∃x y,Fea d rows x y) :
  Calls Tryz.prog 44 #[.agg #[.int .i64 d,v],pv] w fun e w'=>∃q5 q6,e=.returned (.func (.func 73) #[] #[.pointer (some ⟨q5,0,none⟩),.pointer (some ⟨q6,0,none⟩)])∧w.heap.size≤q5∧w.heap.size≤q6∧ZBZ w' q5 (gaC d rows p)∧ZBZ w' q6 (gaC d rows (ngL p))∧Below w.heap.size w w':=by
 obtain ⟨D,B,an,aB,aA⟩:=ZAD hv;obtain ⟨N,O,aa,ay,ar⟩:=ZAI hp;rw [hpl] at aa;subst an aa;obtain ⟨W,hW,J,Y,ag⟩:=ZCQ w d (.slice D rows.length B);have au:=hid hW
 have l:Hid (∀X,Below W.heap.size W X→Below w.heap.size w X):=fun X hX=>J.trans (hX.mono J.size)
 have aj:=hid Y;have ae:=hid ag
 have am:Hid (∀X,Below W.heap.size W X→Calls Tryz.prog 72 #[.agg #[.int .i64 d,.slice D rows.length B],.slice N (d+1) O] X fun e w'=>e=.returned (.bool (gaC d rows p))∧Below X.heap.size X w'):=fun X hX=>
  ZG2 d rows p _ _ X (hv.below (l.out X hX) (Za4 _)) (hp.below (l.out X hX) (Za4 _)) hc hpl hpb hf
 have T:(ngL p).length=d+1:=by simp [ngL,hpl]
 have af:∀z∈ngL p,z.natAbs≤20:=fun z hz=>by
  simp only [ngL,List.mem_map] at hz;obtain ⟨y,hy,rfl⟩:=hz;have:=hpb y hy;omega
 have az:Hid (∀X u,Below W.heap.size W X→Sl 0 3 X u (ZAB (ngL p))→Calls Tryz.prog 72 #[.agg #[.int .i64 d,.slice D rows.length B],u] X fun e w'=>e=.returned (.bool (gaC d rows (ngL p)))∧Below X.heap.size X w'):=fun X u hX hu=>
  ZG2 d rows (ngL p) _ _ X (hv.below (l.out X hX) (Za4 _)) hu hc T af hf
 have aw:Hid (∀X,Below W.heap.size W X→Calls Tryz.prog 49 #[.slice N (d+1) O] X fun e w'=>∃Q nc,e=.returned (.slice Q (ngL p).length nc)∧Sl 0 3 w' (.slice Q (ngL p).length nc) (ZAB (ngL p))∧Below X.heap.size X w'):=fun X hX=>by
  refine (ZBb _ p _ X (hp.below (l.out X hX) (Za4 _)) (by have:=hc.d3; omega) (fun z hz=>by have:=hpb z hz; omega)).mono ?_
  rintro e w' ⟨u,rfl,ho,F⟩;have P:Sl 0 3 w' u (ZAB (ngL p)):=Sl.own ho;obtain ⟨Q,nc,rfl,_,_⟩:=ZAI P;exact ⟨Q,nc,rfl,P,F⟩
 clear hv hp hc hpl hpb hf hW J Y ag T af ay ar;generalize gaC d rows p=ab at *;generalize gaC d rows (ngL p)=be at *;generalize ngL p=nl at *;go_enter Tryz.func44,Tryz.ntmps44
 go_upto_region 1 with fail
 rw [←au.out]
 refine wp_region_held_drew (S:=fun X=>X.cell? ⟨w.heap.size,0,none⟩=some (.int .i64 d)∧X.cell? ⟨w.heap.size,1,none⟩=some (.slice D rows.length B)) (by kernel_rfl) (ae.out _ (Below.refl _ _).drew) (fun hHeld=>?_)
 refine ZAA (i:=0) (d:=7) (v:=(.agg #[.int .i64 d,.slice D rows.length B])) rfl rfl (by kernel_rfl) (by kernel_rfl) (by kernel_rfl) (fun _ _ _ h=>h) (.inl ⟨by rfl,by (intro wq g; (try dsimp only at g); go_simp; (try (first | rfl | omega)))⟩) hHeld ?_
 simp only [Act.put,Za1,List.set]
 refine ZAA (i:=1) (d:=8) (v:=(.slice N (d+1) O)) rfl rfl (by kernel_rfl) (by kernel_rfl) (by kernel_rfl) (fun _ _ _ h=>h) (.inl ⟨by rfl,by (intro wq g; (try dsimp only at g); go_simp; (try (first | rfl | omega)))⟩) hHeld ?_
 simp only [Act.put,Za1,List.set]
 refine ZAA (i:=3) (d:=10) (v:=(.agg #[.int .i64 d,.slice D rows.length B])) rfl rfl (by kernel_rfl) (by kernel_rfl) (by kernel_rfl) (fun _ _ _ h=>h) (.inl ⟨by rfl,by (intro wq g; (try dsimp only at g); go_simp; (try (first | rfl | omega)))⟩) hHeld ?_
 simp only [Act.put,Za1,List.set]
 refine ZAA (i:=4) (d:=11) (v:=(.slice N (d+1) O)) rfl rfl (by kernel_rfl) (by kernel_rfl) (by kernel_rfl) (fun _ _ _ h=>h) (.inl ⟨by rfl,by (intro wq g; (try dsimp only at g); go_simp; (try (first | rfl | omega)))⟩) hHeld ?_
 simp only [Act.put,Za1,List.set]
 refine ZEh (fun L a w'=>∃A t r m o j c x5 R U n s,L=#[true,true,A,true,true,t,r,m,o,j,c]∧a = { tmps:=#[.agg #[.int .i64 d,.slice D rows.length B],.slice N (d+1) O,.pointer (some ⟨w.heap.size,0,none⟩),undef,.nilFunc,x5,R,.agg #[.int .i64 d,.slice D rows.length B],.slice N (d+1) O,U,.agg #[.int .i64 d,.slice D rows.length B],.slice N (d+1) O,n,s,undef],defers:=[] }∧MeI W ab be nl A t r m o j c x5 R U n s w') ?hS ?step ?fin _ _ _ _ ?init ?cnt
 case cnt=>decide
 case hS=>
  rintro L a w' ⟨A,t,r,m,o,j,c,x5,R,U,n,s,rfl,rfl,f⟩;exact ae.out w' f.bel
 case init=>
  exact ⟨false,false,false,false,false,false,false,_,_,_,_,_,rfl,rfl,(Below.refl _ _).drew,fun h=>(by cases h),fun h=>(by cases h),fun h=>(by cases h),fun h=>(by cases h),fun h=>(by cases h),fun h=>(by cases h),fun h=>(by cases h),fun h=>(by cases h),fun h=>(by cases h),fun h=>(by cases h)⟩
 case step=>
  rintro L a w' i ⟨A,t,r,m,o,j,c,x5,R,U,n,s,rfl,rfl,f⟩ hi;have M:=List.mem_filter.1 hi;have V:=List.mem_range.1 M.1;have b:=M.2;clear hi M
  have G:i=0∨i=1∨i=2∨i=3∨i=4∨i=5∨i=6∨i=7∨i=8∨i=9∨i=10:=by
   simp only [List.size_toArray,List.length_cons,List.length_nil] at V;omega
  clear V
  rcases G with rfl | rfl | rfl | rfl | rfl | rfl | rfl | rfl | rfl | rfl | rfl
  ·simp [Region.binds] at b
  ·simp [Region.binds] at b
  ·simp [Region.binds] at b
   subst b
   refine ZB9 rfl rfl (fun K' hK=>?_)
   go_simp;refine (am.out w' f.bel).mono ?_;rintro e w2 ⟨rfl,F⟩;dsimp only;exact hK.out _ _ ⟨true,t,r,m,o,j,c,_,_,_,_,_,rfl,rfl,(f.move F).op2⟩
  ·simp [Region.binds] at b
  ·simp [Region.binds] at b
  ·simp [Region.binds] at b
   obtain ⟨rfl,rfl⟩:=b
   refine ZB9 rfl rfl (fun K' hK=>?_)
   go_simp;refine (aw.out w' f.bel).mono ?_;rintro e w2 ⟨Q,nc,rfl,P,F⟩;dsimp only;exact hK.out _ _ ⟨true,true,r,m,o,j,c,_,_,_,_,_,rfl,rfl,f.op5 F P⟩
  ·simp [Region.binds] at b
   obtain ⟨rfl,rfl⟩:=b;have h2:=f.d5 rfl;subst h2;have ah:=(f.v12 rfl).2 rfl
   refine ZB9 rfl rfl (fun K' hK=>?_)
   go_simp;refine (az.out w' _ f.bel ah).mono ?_;rintro e w2 ⟨rfl,F⟩;dsimp only;exact hK.out _ _ ⟨true,true,true,m,o,j,c,_,_,_,_,_,rfl,rfl,f.op6 F⟩
  ·simp [Region.binds] at b
   subst b
   refine ZB9 rfl rfl (fun K' hK=>?_)
   go_simp;exact hK.out _ _ ⟨A,t,r,true,o,j,c,_,_,_,_,_,rfl,rfl,f.op7⟩
  ·simp [Region.binds] at b
   subst b
   refine ZB9 rfl rfl (fun K' hK=>?_)
   go_simp;exact hK.out _ _ ⟨A,t,r,m,true,j,c,_,_,_,_,_,rfl,rfl,f.op8⟩
  ·simp [Region.binds] at b
   obtain ⟨rfl,rfl,rfl,rfl,_,_,rfl⟩:=b;have h5:=(f.d6 rfl).1;subst h5;obtain ⟨q,rfl,rfl,hq,hn⟩:=f.op9;have c1:=hq.cell;have c2:=hq.frozen
   refine ZB9 rfl rfl (fun K' hK=>?_)
   go_simp;exact hK.out _ _ ⟨true,true,true,true,true,true,c,_,_,_,_,_,rfl,rfl,hn⟩
  ·simp [Region.binds] at b
   obtain ⟨rfl,rfl,rfl,rfl,rfl,rfl,_,rfl,_⟩:=b;obtain ⟨q,rfl,rfl,hq,hn⟩:=f.op10;have c1:=hq.cell;have c2:=hq.frozen
   refine ZB9 rfl rfl (fun K' hK=>?_)
   go_simp;exact hK.out _ _ ⟨true,true,true,true,true,true,true,_,_,_,_,_,rfl,rfl,hn⟩
 case fin=>
  rintro L a w' ⟨A,t,r,m,o,j,c,x5,R,U,n,s,rfl,rfl,f⟩ hr
  have E:∀i,i∉Region.ready _ _ _:=fun i hi=>by rw [hr] at hi; cases hi
  clear hr
  have h2:A=true:=by
   cases A with
   | true=>rfl
   | false=>exact absurd (List.mem_filter.2 ⟨List.mem_range.2 (by decide),by simp [Region.binds]⟩) (E 2)
  subst h2
  have h5:t=true:=by
   cases t with
   | true=>rfl
   | false=>exact absurd (List.mem_filter.2 ⟨List.mem_range.2 (by decide),by simp [Region.binds]⟩) (E 5)
  subst h5
  have h6:r=true:=by
   cases r with
   | true=>rfl
   | false=>exact absurd (List.mem_filter.2 ⟨List.mem_range.2 (by decide),by simp [Region.binds]⟩) (E 6)
  subst h6
  have h7:m=true:=by
   cases m with
   | true=>rfl
   | false=>exact absurd (List.mem_filter.2 ⟨List.mem_range.2 (by decide),by simp [Region.binds]⟩) (E 7)
  subst h7
  have h8:o=true:=by
   cases o with
   | true=>rfl
   | false=>exact absurd (List.mem_filter.2 ⟨List.mem_range.2 (by decide),by simp [Region.binds]⟩) (E 8)
  subst h8
  have h9:j=true:=by
   cases j with
   | true=>rfl
   | false=>exact absurd (List.mem_filter.2 ⟨List.mem_range.2 (by decide),by simp [Region.binds]⟩) (E 9)
  subst h9
  have aq:c=true:=by
   cases c with
   | true=>rfl
   | false=>exact absurd (List.mem_filter.2 ⟨List.mem_range.2 (by decide),by simp [Region.binds]⟩) (E 10)
  subst aq;obtain ⟨q5,rfl,l5,r5⟩:=f.v5 rfl;obtain ⟨q6,rfl,l6,r6⟩:=f.v6 rfl;have ai:=hid r5;have ak:=hid r6;have HB:Hid (Below w.heap.size w w'):=l.out w' f.bel;have P:=aj.out
  have HL:Hid (w.heap.size≤q5∧w.heap.size≤q6):=⟨by omega,by omega⟩
  clear f E r5 r6 l5 l6 P;go_wp2;go_ret;exact ⟨q5,q6,rfl,HL.out.1,HL.out.2,ai.out,ak.out,HB.out⟩
theorem ZLS(c:UInt8)(hc:c=43∨c=45∨c=48)(q5 q6:Nat)(ab be:Bool)(w:World)(h5:ZBZ w q5 ab)(h6:ZBZ w q6 be) :
  Calls Tryz.prog 73 #[.int .i32 (c.toNat:Int),.pointer (some ⟨q5,0,none⟩),.pointer (some ⟨q6,0,none⟩)] w fun e w'=>e=.returned (.bool (mtC ab be c))∧w'=w:=by
 have a:=h5.cell;have b:=h6.cell;clear h5 h6
 rcases hc with rfl | rfl | rfl
 ·show Calls Tryz.prog _ #[.int .i32 43,_,_] w _
  go_enter Tryz.func73,Tryz.ntmps73;go_wp2;go_ret;exact ⟨rfl,rfl⟩
 ·show Calls Tryz.prog _ #[.int .i32 45,_,_] w _
  go_enter Tryz.func73,Tryz.ntmps73;go_wp2;go_ret;exact ⟨rfl,rfl⟩
 ·show Calls Tryz.prog _ #[.int .i32 48,_,_] w _
  go_enter Tryz.func73,Tryz.ntmps73;go_wp2;go_ret;exact ⟨rfl,rfl⟩
end Go.Proofs.YtkjkfceblmgogaaGreat
namespace Go.Proofs.YtkjkfceblmgogaaGreat
open Go Go.RowKit
theorem ZAb{P:Program}{o:Oper}{a:Act}{w:World}{K:Act→World→Prop}{Q:Exit→Act→World→Prop}
 (s x:Operand)(t:TypeId)(hop:o.op=Op.call { callee:=Callee.builtin Builtin.append,args:=#[s,x],argTypes:=#[t,t] })
 (base:Nat)(e:TypeId)(i:TypeInfo)(z:Value)(size bytes:Nat)(h1:P.underlying t=some (.slice e))(h2:P.info? e=some i)(h3:i.zero=some z)(h4:i.size=size)(h5:i.bytes=bytes)(h6:z.cells.size=size)(h7:0 < size)
 (v:Value)(n:Nat)(xs:List Value)(hs:a.eval s=v)(hown:w.ownsRow base e size v n xs)
 (ad:Addr)(m c:Nat)(news:List Value)(hx:a.eval x=.slice (some ad) m c)(hn:news.length=m*size)(hc:∀j u,news[j]?=some u→w.cell? (ad.add j)=some u)(h1c:∀u∈news,u.oneCell'=true)
 (b1:n+m≤maxLen)(b2:(n+m)*bytes≤140737488355328)(hb:base≤w.heap.size)
 (hK:∀v' w',w'.ownsRow base e size v' (n+m) (xs ++ news)→w.grownBy w' v.ownBlock→(v'.ownBlock=v.ownBlock∨v'.ownBlock=some w.heap.size)→K (a.put o.dst v') w'):Oper.wp P o a w K Q:=by
 obtain ⟨v',w',b,g,f,_,d⟩:=run_append_own_at (P:=P) w base t o.type e i z size bytes h1 h2 h3 h4 h5 h6 h7 v n xs hown ad m c news hn hc h1c b1 b2 hb;unfold Oper.wp;simp [execOp,hop,resolve,invoke,builtin,hs,hx,b,Result.andThen];exact hK v' w' g f d
end Go.Proofs.YtkjkfceblmgogaaGreat
