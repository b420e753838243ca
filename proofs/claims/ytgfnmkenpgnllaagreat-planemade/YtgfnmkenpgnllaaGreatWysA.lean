import Derived.Test.YtgfnmkenpgnllaaGreatAcA
set_option maxRecDepth 100000
set_option maxHeartbeats 8000000
namespace Go.Proofs.YtgfnmkenpgnllaaGreat
open Go.RowKit Go.Shelf
attribute [local go_sem] Oper.semAt_some
def ZAw(rows:List (List Int))(g:List Int)(k:Nat):List (List Int):=
 (List.range k).flatMap fun m=>(ext rows.length m 0).filter fun c=>ZBP g (pks rows [] c)
def ZAZ(rows:List (List Int))(g:List Int):List (List Int):=ZAw rows g (min g.length rows.length+1)
theorem ZBd(rows:List (List Int))(g:List Int)(k:Nat):ZAw rows g (k+1)=ZAw rows g k ++ (ext rows.length k 0).filter fun c=>ZBP g (pks rows [] c):=by
 simp [ZAw,List.range_succ]
theorem ZFN(rows : List (List Int))(g : List Int){k m : Nat}(h : k ≤ m) : ZAw rows g k <+: ZAw rows g m := by
  induction m with
  | zero => have : k = 0 := by omega
            subst this; exact List.prefix_refl _
  | succ m ih =>
    by_cases e : k = m + 1
    · subst e; exact List.prefix_refl _
    · exact (ih (by omega)).trans (by rw [ZBd]; exact List.prefix_append _ _)
theorem ZFO{α:Type}{p:α→Bool}{a b:List α}(h:a <+: b):a.filter p <+: b.filter p:=by
 obtain ⟨t,rfl⟩:=h;rw [List.filter_append];exact List.prefix_append _ _
def ZDp(rows:List (List Int))(g:List Int)(W:World)(S:Nat→Prop)(c:List Int)(vs:Array Value):Prop:=
 ∃co cc mo mc,vs=#[.agg #[.slice co c.length cc,.slice mo c.length mc,.int .i64 ((ZAv g (pks rows [] c)).getD c.length 0)]]∧ZBP g (pks rows [] c)=true∧Sl 0 3 W (.slice co c.length cc) (ZAB c)∧Sl 0 3 W (.slice mo c.length mc) (ZAB ((ZAv g (pks rows [] c)).take c.length))∧
  (∀a,co=some a→¬S a.block∧isC W a.block)∧(∀a,mo=some a→¬S a.block∧isC W a.block)∧∀b,S b→b < W.heap.size
structure WyK(rows:List (List Int))(g:List Int)(T:Nat→Prop)(gb rb D0:Nat)(W0:World)(J:(Nat→Prop)→List (List Int)→World→Prop)(k:Nat)(rs:List Nat)(wr:World):Prop where
 nd:rs.Nodup
 mark:∀r∈rs,wr.heap[r]?=some (.deferred (some []))
 kp:Kpt (fun b=>b=gb∨b=rb∨b=D0∨T b) W0 wr
 j:J (fun b=>b=gb∨b=rb∨b=D0∨b∈rs) (ZAw rows g k) wr
structure WyI(rows:List (List Int))(g:List Int)(T:Nat→Prop)(gb rb D0:Nat)(WN:World)(J:(Nat→Prop)→List (List Int)→World→Prop)(rs:List Nat)(N:Nat)(S:Nat→Prop)(q:List (List Int))(W:World):Prop where
 sn:∀b,S b→N≤b
 kp:Kpt (fun b=>b < N∧(b=gb∨b=rb∨b=D0∨T b∨b∈rs)) WN W
 j:J (fun b=>S b∨b=gb∨b=rb∨b=D0∨b∈rs) q W
 sz:N≤W.heap.size
theorem WyI.stab{rows:List (List Int)}{g:List Int}{T:Nat→Prop}{gb rb D0:Nat}{WN:World}{J:(Nat→Prop)→List (List Int)→World→Prop}{rs:List Nat}{N:Nat}{S S':Nat→Prop}{q:List (List Int)}{W W':World}(hst:ZFm J)
 (h:WyI rows g T gb rb D0 WN J rs N S q W)(hc:Chg S W W')(hs:∀b,S' b→S b∨W.heap.size≤b):WyI rows g T gb rb D0 WN J rs N S' q W':=by
 have a:=h.sz
 refine ⟨fun b hb=>?_,h.kp.trans (Kpt.of_chg hc fun i _ hi hsi=>?_),hst _ _ q W W' h.j (hc.mono fun i _ hi=>.inl hi) (fun b hb=>?_),Zaa8 a hc.size⟩
 ·rcases hs b hb with h1 | h1
  ·exact h.sn b h1
  ·omega
 ·have:=h.sn i hsi
  have:=hi.1;omega
 ·rcases hb with hb | hb
  ·rcases hs b hb with h1 | h1
   ·exact .inl (.inl h1)
   ·exact .inr h1
  ·exact .inl (.inr hb)
theorem ZFP(N0:Nat)(W:World)(S:Nat→Prop)(x:List Int)(vs:Array Value)(W':World)(h:ZJQ N0 W S x vs)(hb:Below W.heap.size W W'):ZJQ N0 W' S x vs:=by
 obtain ⟨v,d,a,g,c,b,f⟩:=h;exact ⟨v,d,a,ZAN g hb (Za4 _),c,b,Zaa8 f hb.size⟩
theorem ZIj(N0:Nat)(W:World)(S:Nat→Prop)(x:List Int)(vs:Array Value)(l:Nat)(r:Loop)(o:Obj)(h:ZJQ N0 W S x vs)(hl:W.heap[l]?=some (.loop r)):ZJQ N0 (W.putObj l o) S x vs:=by
 obtain ⟨v,d,a,g,c,b,f⟩:=h
 exact ⟨v,d,a,ownsRow_putObj g _ hl rfl,c,b,by simpa using f⟩
theorem ZFs{W:World}{B0 n:Nat}{vo:Option Addr}{vc b:Nat}{xs:List Value}{o:Obj}(h:W.ownsRow B0 3 1 (.slice vo n vc) n xs)(hb:W.heap[b]?=some o)(ho:o.isCells=false):∀a,vo=some a→B0≤a.block∧a.block≠b∧isC W a.block:=by
 intro a c
 rcases h.2 with ⟨h1,_⟩ | ⟨g',cap',cur',h1,h2,h3,_⟩
 ·simp only [Za3] at h1; rw [h1.1] at c; cases c
 ·simp only [Za3] at h1
  rw [h1.1] at c
  cases c
  refine ⟨h2,fun e=>?_,_,_,h3⟩
  rw [←e,h3] at hb
  cases hb
  simp [Obj.isCells] at ho
theorem ZFt(B gb rb:Nat)(rows:List (List Int))(g:List Int)(ro go:Option Addr)(rc gc:Nat)(T:Nat→Prop)(w0:World)
 (hcg:w0.cell? ⟨gb,0,none⟩=some (.slice go g.length gc))(hcr:w0.cell? ⟨rb,0,none⟩=some (.slice ro rows.length rc))
 (hrows:∀W,Kpt T w0 W→Mat B 22 3 W (.slice ro rows.length rc) rows)(hgoal:∀W,Kpt T w0 W→Sl B 3 W (.slice go g.length gc) (ZAB g))(hT:∀b,T b→b < w0.heap.size)
 (hr:∀r∈rows,g.length≤r.length∧∀z∈r,z.natAbs≤60)(hg:∀z∈g,z.natAbs≤60)(hg1:1≤g.length)(hg4:g.length≤4)(hrl:rows.length≤1000) :
  ZPt Tryz.prog 130 #[.pointer (some ⟨gb,0,none⟩),.pointer (some ⟨rb,0,none⟩)] (ZDp rows g) (ZAZ rows g) T (fun b=>b=gb∨b=rb) w0:=by
 intro l J Jx W hW bi aY hY hJ;have bJ:=ZAm hcg;have aX:=ZAm hcr;have c1:W.cell? ⟨gb,0,none⟩=some (.slice go g.length gc):=(hW.cell (p:=⟨gb,0,none⟩) bJ).trans hcg;have c2:W.cell? ⟨rb,0,none⟩=some (.slice ro rows.length rc):=(hW.cell (p:=⟨rb,0,none⟩) aX).trans hcr
 obtain ⟨G,aE⟩:∃G,G=W.alloc (.cells #[.func (.yield l) #[] #[]] 150):=⟨_,rfl⟩
 have aN:Below W.heap.size W G:=by rw [aE]; exact ZAG _ _
 have bQ:G.heap.size=W.heap.size+1:=by rw [aE]; exact size_alloc _ _
 have aU:G.cell? ⟨gb,0,none⟩=some (.slice go g.length gc):=(aN.cell (p:=⟨gb,0,none⟩) (ZAm c1)).trans c1;have aV:G.cell? ⟨rb,0,none⟩=some (.slice ro rows.length rc):=(aN.cell (p:=⟨rb,0,none⟩) (ZAm c2)).trans c2
 have bp:G.cell? ⟨W.heap.size,0,none⟩=some (.func (.yield l) #[] #[]):=by rw [aE]; exact ZAe (ZAM _ _)
 have bF:=hW.size
 obtain ⟨A,bt⟩:∃A,A=W.heap.size:=⟨_,rfl⟩
 have N:Hid (gb < G.heap.size∧rb < G.heap.size∧A < G.heap.size∧∀b,T b→b < G.heap.size):=⟨by omega,by omega,by omega,fun b hb=>by have:=hT b hb; omega⟩
 have bE:Hid (∀n,Kpt T G n→Kpt T w0 n):=fun n hk=>⟨by have:=hk.size; omega,fun b hb ht=>(hk.block b (by omega) ht).trans ((aN.block b (by omega)).trans (hW.block b hb))⟩
 have bL:Hid (WyK rows g T gb rb A G J 0 [] G):=by
  refine ⟨List.nodup_nil,fun r hr=>absurd hr (by simp),Kpt.refl _ _,bi _ _ [] W G hJ (Chg.of_below aN (Za4 _)) (fun b hb=>?_)⟩
  rcases hb with h | h | h | h
  ·exact .inl (.inl h)
  ·exact .inl (.inr h)
  ·exact .inr (by omega)
  ·exact absurd h (by simp)
 have ai:Hid (G.cell? ⟨gb,0,none⟩=some (.slice go g.length gc)∧G.cell? ⟨rb,0,none⟩=some (.slice ro rows.length rc)∧G.cell? ⟨A,0,none⟩=some (.func (.yield l) #[] #[])):=⟨aU,aV,by rw [bt]; exact bp⟩
 have ae:=hid bi;have aW:=hid aY
 have HY:Hid (∀m S s x vs d,J S s d→(s ++ [x]) <+: ZAZ rows g→ZDp rows g d S x vs→YieldAt Fence.wide m Tryz.prog l vs d fun e n=>Kpt (fun b=>S b∨T b) d n∧
   ((e=.returned (.bool true)∧J S (s ++ [x]) n)∨(e=.returned (.bool false)∧Jx S (s ++ [x]) n))):=hY
 have bM:=hid hrows;have bI:=hid hgoal;have HR:=hid hr;have HG:=hid hg;have bH:=hid aE;have bK:=hid bt;rw [aE] at aU aV bp;clear bi aY hY hJ hrows hgoal hr hg aE aN bQ hW hcg hcr bJ aX hT bp bF bt c1 c2;refine callsIn_of_wp_marks Tryz.func130 rfl trivial ?_ rfl;simp only [Tryz.ntmps130,List.size_toArray,List.length_cons,List.length_nil,Nat.reduceAdd,Nat.reduceSub,Array.replicate_succ,Array.replicate_zero,List.push_toArray,List.append_toArray,List.nil_append,List.cons_append]
 gi_wp2
 case inr=>
  have Hg.length:Hid (g.length=min g.length rows.length):=by show _=_; omega
  have hg.length4:g.length≤4:=by omega
  clear aU aV;rw [←bH.out,←bK.out]
  refine wpIn_loop (fun a' wr=>∃(k:Nat) (F:List Nat) (u4 u15 u16 u17 u18 u19 u20 u36:Value),k≤g.length+1∧WyK rows g T gb rb A G J k F wr∧
   a' = { tmps:=#[.func (.yield l) #[] #[],.pointer (some ⟨gb,0,none⟩),.pointer (some ⟨rb,0,none⟩),.pointer (some ⟨A,0,none⟩),u4,undef,undef,undef,.slice go g.length gc,.int .i64 g.length,.slice ro rows.length rc,.int .i64 rows.length,.int .i64 g.length,.int .i64 ((g.length:Int)+1),.int .i64 k,u15,u16,u17,u18,u19,u20,undef,undef,undef,undef,undef,undef,undef,undef,undef,undef,undef,undef,undef,undef,undef,u36],defers:=mks F }) (fun a' _=>g.length+1-(intOf (a'.tmps.getD 14 undef)).toNat) ?_ ?_
  ·exact ⟨0,[],_,_,_,_,_,_,_,_,Za5 _,bL.out,rfl⟩
  rintro _ wr ⟨k,F,u4,u15,u16,u17,u18,u19,u20,u36,hk,aq,rfl⟩;have f:=hid aq;have d1:wr.cell? ⟨gb,0,none⟩=some (.slice go g.length gc):=(World.cell?_of_block (w:=G) (aq.kp.block gb N.out.1 (.inl rfl))).trans ai.out.1;have d2:wr.cell? ⟨rb,0,none⟩=some (.slice ro rows.length rc):=(World.cell?_of_block (w:=G) (aq.kp.block rb N.out.2.1 (.inr (.inl rfl)))).trans ai.out.2.1;clear aq
  by_cases hlt:k < g.length+1
  ·have bu:(k:Int) < (g.length:Int)+1:=by omega
   gi_wp2_with (refine ⟨trivial,rfl,?_⟩; gi_at_call 56; refine (callsIn_wide.2 (ZIc _ _ _)).mono ?_; rintro e Q ⟨rfl,rfl⟩)
   obtain ⟨E,aa⟩:∃E,E=(wr.alloc (.cells #[.int .i64 rows.length] 3)).alloc (.cells #[.int .i64 k] 3):=⟨_,rfl⟩
   rw [←aa]
   have an:Below wr.heap.size wr E:=by rw [aa]; exact ((Below.refl _ _).alloc (Za4 _) _).alloc (by simp) _
   have aI:E.heap.size=wr.heap.size+2:=by rw [aa]; simp
   have aL:E.cell? ⟨wr.heap.size,0,none⟩=some (.int .i64 rows.length):=by
    rw [aa]; exact ((ZAG (wr.alloc (.cells #[.int .i64 rows.length] 3)) _).cell (p:=⟨wr.heap.size,0,none⟩) (by simp)).trans (ZAe (ZAM wr _))
   have af:E.cell? ⟨wr.heap.size+1,0,none⟩=some (.int .i64 k):=by
    rw [aa]; have:=ZAe (ZAM (wr.alloc (.cells #[.int .i64 rows.length] 3)) (.cells #[.int .i64 k] 3)); rwa [size_alloc] at this
   clear aa
   have bk:Hid (WyI rows g T gb rb A E J F wr.heap.size (fun b=>b=wr.heap.size+1∨b=wr.heap.size) (ZAw rows g k ++ ([]:List (List Int)).filter (fun c=>ZBP g (pks rows [] c))) E):=by
    refine ⟨fun b hb=>by omega,Kpt.refl _ _,?_,by omega⟩
    rw [List.filter_nil,List.append_nil]
    exact ae.out _ _ _ wr E f.out.j (Chg.of_below an (Za4 _)) (fun b hb=>hb.elim (fun h=>.inr (by omega)) .inl)
   have aK:Hid (∀n,Kpt (fun b=>b < wr.heap.size∧(b=gb∨b=rb∨b=A∨T b∨b∈F)) E n→Kpt (fun b=>b=gb∨b=rb∨b=A∨T b) G n):=fun n hk'=>by
    have y:=f.out.kp.size;have L:=N.out
    refine ⟨by have:=hk'.size; omega,fun b hb hx=>?_⟩
    have aH:b < wr.heap.size:=by omega
    exact (hk'.block b (by omega) ⟨aH,by rcases hx with h | h | h | h <;> simp [h]⟩).trans ((an.block b aH).trans (f.out.kp.block b hb hx))
   have bA:=ZKT rows.length k (wr.heap.size+1) wr.heap.size E (by omega) (by omega) af aL
   have aM:=hid an;clear an aL af d1 d2
   refine ZDX (R:=ZJQ E.heap.size) (cs:=ext rows.length k 0) (T:=fun _=>False) (S0:=fun b=>b=wr.heap.size+1∨b=wr.heap.size) (gf:=86) (lb:=#[.pointer (some ⟨wr.heap.size+1,0,none⟩),.pointer (some ⟨wr.heap.size,0,none⟩)]) rfl (enters_of Tryz.func86 (by kernel_rfl) rfl) bA (fun b hb=>by omega)
    (fun n S x vs ⟨v,B0,y,_⟩=>by rw [y]; rfl) (ZFP _) (ZIj _)
    (fun S s n=>WyI rows g T gb rb A E J F wr.heap.size S (ZAw rows g k ++ s.filter (fun c=>ZBP g (pks rows [] c))) n)
    (fun c S s n=>c=.ret∧∃q,q <+: ZAZ rows g∧WyI rows g T gb rb A E Jx F wr.heap.size S q n)
    (fun S S' s n W'' h hc hs=>h.stab ae.out hc hs) (fun c S S' s n W'' ⟨y,q,L,h3⟩ hc hs=>⟨y,q,L,h3.stab aW.out hc hs⟩) bk.out
    (fun vs a' n=>∃v,vs=#[v]∧a' = { tmps:=#[.func (.yield l) #[] #[],.pointer (some ⟨gb,0,none⟩),.pointer (some ⟨rb,0,none⟩),.pointer (some ⟨A,0,none⟩),.int .i64 k,v,undef,undef,.slice go g.length gc,.int .i64 g.length,.slice ro rows.length rc,.int .i64 rows.length,.int .i64 g.length,.int .i64 ((g.length:Int)+1),.int .i64 k,.bool true,.int .i64 k,.slice ro rows.length rc,.int .i64 rows.length,.int .i64 k,.func (.func 86) #[] #[.pointer (some ⟨wr.heap.size+1,0,none⟩),.pointer (some ⟨wr.heap.size,0,none⟩)],v,undef,undef,undef,undef,undef,undef,undef,undef,undef,undef,undef,undef,undef,undef,u36],defers:=[] })
    (fun vs a' n l r o h _=>h) ?assign ?body (fun h=>h) ?done ?stop
   case assign=>
    rintro S x vs n K ⟨v,B0,rfl,L,h3,h4⟩ hK
    gi_wp2
    exact hK _ _ (Below.refl _ _) ⟨v,rfl,rfl⟩
   case body=>
    rintro S s c vs a' d O ar bP bG Y ak U ⟨S1,⟨v,B0,aQ,D,aC,bq,bl⟩,aw⟩ ⟨v',ag,rfl⟩
    have bz:v=v':=by rw [aQ] at ag; simpa using ag
    subst bz
    have af:c∈ext rows.length k 0:=U.subset (by simp)
    obtain ⟨aJ,aS,_⟩:=ZBi af;have ah:=aK.out d O.kp;have e1:d.cell? ⟨gb,0,none⟩=some (.slice go g.length gc):=(World.cell?_of_block (w:=G) (ah.block gb N.out.1 (.inl rfl))).trans ai.out.1;have e2:d.cell? ⟨rb,0,none⟩=some (.slice ro rows.length rc):=(World.cell?_of_block (w:=G) (ah.block rb N.out.2.1 (.inr (.inl rfl)))).trans ai.out.2.1;have e3:d.cell? ⟨A,0,none⟩=some (.func (.yield l) #[] #[]):=(World.cell?_of_block (w:=G) (ah.block A N.out.2.2.1 (.inr (.inr (.inl rfl))))).trans ai.out.2.2
    have az:Kpt T w0 d:=bE.out d (ah.mono (fun i _ h=>.inr (.inr (.inr h))))
    obtain ⟨vo,vc,bD⟩:=ZAD D;subst bD;obtain ⟨lr,ak⟩:=ak
    have aA:Hid (∀a,vo=some a→¬(S a.block∨a.block=gb∨a.block=rb∨a.block=A∨a.block∈F)∧isC d a.block):=fun a ha=>by
     obtain ⟨y,L,h3⟩:=ZFs D Y rfl a ha;obtain ⟨_,h4,_⟩:=ZFs D ak rfl a ha
     refine ⟨fun hx=>?_,h3⟩
     have hg:=N.out;have hz:=f.out.kp.size
     rcases hx with hx | hx | hx | hx | hx
     ·rcases (aw _).1 hx with hx | hx | hx
      ·have:=aC _ hx; omega
      ·exact L hx
      ·exact h4 hx
     ·omega
     ·omega
     ·omega
     ·have:=(Zaa3.1 (f.out.mark _ hx)).1; omega
    have aP:Hid (∀b,(S b∨b=gb∨b=rb∨b=A∨b∈F)→b < d.heap.size):=fun b hx=>by
     have hg:=N.out;have hz:=f.out.kp.size;have bR:=O.sz
     rcases hx with hx | hx | hx | hx | hx
     ·rcases (aw _).1 hx with hx | hx | hx
      ·have:=aC _ hx; omega
      ·omega
      ·omega
     ·omega
     ·omega
     ·omega
     ·have:=(Zaa3.1 (f.out.mark _ hx)).1; omega
    have bv:Hid (Sl 0 3 d (.slice vo c.length vc) (ZAB c)):=Sl.own D
    have aj:Hid (Calls Tryz.prog 131 #[.slice ro rows.length rc,.slice vo c.length vc,.slice go g.length gc] d fun e Q=>∃tv,e=.returned (.tuple #[tv,.bool (ZBP g (pks rows [] c))])∧ZQ7 d.heap.size Q tv (.slice vo c.length vc) c g (pks rows [] c)∧Below d.heap.size d Q):=
     ZGh B rows c g _ _ _ d (bM.out d az) (Sl.own D) (bI.out d az) (fun t ht=>by have:=aS t (by omega); exact ⟨by omega,this.2⟩) HR.out HG.out hg1 (by omega) (by omega)
    have HI:=hid O;have aT:=hid U;have bg:Hid (A < d.heap.size):=ZAm e3;have bN:=hid aJ;have bO:=hid aI;clear O U D aC bq bl aw af aS ah az Y ak aQ ag aJ aI
    cases hwb:ZBP g (pks rows [] c) with
    | false=>
     have am:Hid ((s ++ [c]).filter (fun c=>ZBP g (pks rows [] c))=s.filter (fun c=>ZBP g (pks rows [] c))):=by
      show _=_
      rw [List.filter_append]; simp [hwb]
     have bh:Hid (Calls Tryz.prog 131 #[.slice ro rows.length rc,.slice vo c.length vc,.slice go g.length gc] d fun e Q=>e=.returned (.tuple #[.agg #[.slice none 0 0,.slice none 0 0,.int .i64 0],.bool false])∧Below d.heap.size d Q):=by
      refine aj.out.mono ?_
      rintro e Q ⟨tv,rfl,y | y,L⟩
      ·rw [hwb] at y; exact absurd y.1 (by simp)
      ·rw [hwb,y.2]; exact ⟨rfl,L⟩
     clear hwb aj
     gi_wp2_with (refine ⟨trivial,rfl,?_⟩; gi_at_call 131; refine (CallsIn.inRound _ (callsIn_wide.2 bh.out)).mono ?_; rintro e X ⟨rfl,aB⟩)
     have aG:Hid (Below d.heap.size d (X.alloc (.cells #[.slice none 0 0,.slice none 0 0,.int .i64 0] 105))):=aB.alloc aB.size _;clear aB
     refine ⟨fun _ h=>(by cases h),?_⟩
     gi_wp2
     refine ⟨Kpt.of_below aG.out (Za4 _),?_⟩
     have au:=HI.out.stab ae.out (Chg.of_below aG.out (Za4 _)) (S':=S) (fun b hb=>.inl hb)
     rw [←am.out] at au;exact au
    | true=>
     obtain ⟨q,hq⟩:∃q,q=ZAw rows g k ++ s.filter (fun c=>ZBP g (pks rows [] c)):=⟨_,rfl⟩
     have am:Hid (ZAw rows g k ++ (s ++ [c]).filter (fun c=>ZBP g (pks rows [] c))=q ++ [c]):=by
      show _=_
      rw [List.filter_append,hq]; simp [hwb]
     have aF:Hid ((q ++ [c]) <+: ZAZ rows g):=by
      rw [←am.out]
      refine List.IsPrefix.trans ?_ ((ZFN rows g (show k+1≤g.length+1 by omega)).trans (by unfold ZAZ; rw [←Hg.length.out]; exact List.prefix_refl _))
      rw [ZBd]
      obtain ⟨t,ht⟩:=ZFO (p:=fun c=>ZBP g (pks rows [] c)) aT.out
      exact ⟨t,by rw [List.append_assoc,ht]⟩
     rw [←hq] at HI
     obtain ⟨un,aD⟩:∃un,un=(ZAv g (pks rows [] c)).getD c.length 0:=⟨_,rfl⟩
     have bB:Hid (Calls Tryz.prog 131 #[.slice ro rows.length rc,.slice vo c.length vc,.slice go g.length gc] d fun e Q=>∃M V,e=.returned (.tuple #[.agg #[.slice vo c.length vc,.slice M c.length V,.int .i64 un],.bool true])∧Sl 0 3 Q (.slice M c.length V) (ZAB ((ZAv g (pks rows [] c)).take c.length))∧(∀a,M=some a→d.heap.size≤a.block∧isC Q a.block)∧Below d.heap.size d Q):=by
      refine aj.out.mono ?_
      rintro e Q ⟨tv,rfl,y | y,L⟩
      ·obtain ⟨_,M,V,rfl,h3,h4⟩:=y
       rw [hwb,←aD]; exact ⟨M,V,rfl,h3,h4,L⟩
      ·rw [hwb] at y; exact absurd y.1 (by simp)
     have bw:Hid (∀M V X,Sl 0 3 X (.slice M c.length V) (ZAB ((ZAv g (pks rows [] c)).take c.length))→(∀a,M=some a→d.heap.size≤a.block∧isC X a.block)→Below d.heap.size d X→
       (X.alloc (.cells #[.slice vo c.length vc,.slice M c.length V,.int .i64 un] 105)).cell? ⟨A,0,none⟩=some (.func (.yield l) #[] #[])∧
       YieldAt Fence.wide 0 Tryz.prog l #[.agg #[.slice vo c.length vc,.slice M c.length V,.int .i64 un]] (X.alloc (.cells #[.slice vo c.length vc,.slice M c.length V,.int .i64 un] 105)) fun e n=>
        (e=.returned (.bool true)∧Kpt (fun b=>S b∨False) d n∧WyI rows g T gb rb A E J F wr.heap.size S (ZAw rows g k ++ (s ++ [c]).filter (fun c=>ZBP g (pks rows [] c))) n)∨
        (e=.returned (.bool false)∧Kpt (fun b=>S b∨False) d n∧∃q,q <+: ZAZ rows g∧WyI rows g T gb rb A E Jx F wr.heap.size S q n)):=fun M V X y L h3=>by
      obtain ⟨W7,ay⟩:∃W7,W7=X.alloc (.cells #[.slice vo c.length vc,.slice M c.length V,.int .i64 un] 105):=⟨_,rfl⟩
      have P:Below d.heap.size d W7:=by rw [ay]; exact h3.alloc h3.size _
      have aO:Below X.heap.size X W7:=by rw [ay]; exact ZAG _ _
      rw [←ay];refine ⟨(P.cell (p:=⟨A,0,none⟩) bg.out).trans e3,?_⟩
      have bj:=ae.out _ (fun b=>S b∨b=gb∨b=rb∨b=A∨b∈F) _ d W7 HI.out.j (Chg.of_below P (Za4 _)) (fun b hb=>.inl hb)
      refine YieldAt.mono (HY.out 0 _ q c _ W7 bj aF.out ⟨vo,vc,M,V,by rw [←aD],hwb,bv.out.below P (Za4 _),y.below aO (Za4 _),fun a ha=>⟨(aA.out a ha).1,(aA.out a ha).2.keep (P.block _ (aA.out a ha).2.lt)⟩,fun a ha=>⟨fun hx=>?_,(L a ha).2.keep (aO.block _ (L a ha).2.lt)⟩,fun b hb=>Nat.lt_of_lt_of_le (aP.out b hb) P.size⟩) ?_
      ·have:=(L a ha).1
       have:=aP.out _ hx;omega
      ·rintro e n ⟨hk,hp⟩
       have k1:Kpt (fun b=>S b∨False) d n:=(Kpt.of_below P (Za4 _)).trans (hk.mono (fun i _ h=>.inl (.inl (h.elim id False.elim))))
       have k2:Kpt (fun b=>b < wr.heap.size∧(b=gb∨b=rb∨b=A∨T b∨b∈F)) E n:=HI.out.kp.trans ((Kpt.of_below P (Za4 _)).trans (hk.mono (fun i _ h=>by
        rcases h.2 with h | h | h | h | h
        ·exact .inl (.inr (.inl h))
        ·exact .inl (.inr (.inr (.inl h)))
        ·exact .inl (.inr (.inr (.inr (.inl h))))
        ·exact .inr h
        ·exact .inl (.inr (.inr (.inr (.inr h)))))))
       have k3:wr.heap.size≤n.heap.size:=Zaa8 HI.out.sz k1.size
       rcases hp with ⟨rfl,hj⟩ | ⟨rfl,hj⟩
       ·exact .inl ⟨rfl,k1,HI.out.sn,k2,by rw [am.out]; exact hj,k3⟩
       ·exact .inr ⟨rfl,k1,_,aF.out,HI.out.sn,k2,hj,k3⟩
     clear hwb aj hq aD e3
     gi_wp2_with (first | (refine ⟨trivial,rfl,?_⟩; gi_at_call 131; refine (CallsIn.inRound _ (callsIn_wide.2 bB.out)).mono ?_; rintro e X ⟨M,V,rfl,y,L,h3⟩; obtain ⟨e3,fn,tmps,assign,body,hy,hR⟩:=bw.out M V X y L h3; clear y L h3) | (refine ⟨rfl,?_⟩; refine hR.mono ?_; clear hR hy; rintro e n (⟨rfl,hk,hj⟩ | ⟨rfl,hk,hj⟩)))
     all_goals first | exact ⟨hk,hj⟩ | exact ⟨hk,rfl,hj⟩
   case done=>
    rintro S n O ar Y;have HI:=hid O
    have aZ:Hid (WyK rows g T gb rb A G J (k+1) (E.heap.size :: F) n):=by
     refine ⟨List.nodup_cons.2 ⟨fun h=>?_,f.out.nd⟩,fun r hr=>?_,aK.out n O.kp,?_⟩
     ·have:=(Zaa3.1 (f.out.mark _ h)).1; omega
     ·rcases List.mem_cons.1 hr with rfl | hr
      ·exact Y
      ·have y:=(Zaa3.1 (f.out.mark _ hr)).1
       exact (O.kp.block r (by omega) ⟨y,.inr (.inr (.inr (.inr hr)))⟩).trans ((aM.out.block r y).trans (f.out.mark r hr))
     ·rw [ZBd]
      refine ae.out _ _ _ n n O.j (Chg.refl _ _) (fun b hb=>.inl ?_)
      rcases hb with h | h | h | h
      ·exact .inr (.inl h)
      ·exact .inr (.inr (.inl h))
      ·exact .inr (.inr (.inr (.inl h)))
      ·rcases List.mem_cons.1 h with rfl | h
       ·exact .inl ar
       ·exact .inr (.inr (.inr (.inr h)))
    clear O
    gi_wp2
    refine ⟨⟨k+1,E.heap.size :: F,.int .i64 k,.bool true,.int .i64 k,.slice ro rows.length rc,.int .i64 rows.length,.int .i64 k,.func (.func 86) #[] #[.pointer (some ⟨wr.heap.size+1,0,none⟩),.pointer (some ⟨wr.heap.size,0,none⟩)],.int .i64 ((k:Int)+1),by omega,aZ.out,?_⟩,?_⟩
    ·rw [show ((k+1:Nat):Int)=(k:Int)+1 by omega]
     rfl
    ·simp [intOf]; omega
   case stop=>
    rintro c S s n U ⟨rfl,q,hq,O⟩ ar Y
    gi_wp2
    refine ZAq (E.heap.size :: F) n (List.nodup_cons.2 ⟨fun h=>?_,f.out.nd⟩) (fun r hr=>?_) (fun Q hc=>⟨_,results_none rfl _ _ _,⟨_,rfl⟩,.inr ⟨(fun b=>S b∨b=gb∨b=rb∨b=A∨b∈F),q,hq,?_⟩⟩)
    ·have:=(Zaa3.1 (f.out.mark _ h)).1; omega
    ·rcases List.mem_cons.1 hr with rfl | hr
     ·exact Y
     ·have y:=(Zaa3.1 (f.out.mark _ hr)).1
      exact (O.kp.block r (by omega) ⟨y,.inr (.inr (.inr (.inr hr)))⟩).trans ((aM.out.block r y).trans (f.out.mark r hr))
    ·refine aW.out _ _ _ n Q O.j (hc.mono (fun i _ h=>?_)) (fun b hb=>.inl hb)
     rcases List.mem_cons.1 h with rfl | h
     ·exact .inl ar
     ·exact .inr (.inr (.inr (.inr h)))
  ·have bC:k=g.length+1:=by omega
   subst bC
   have bu:decide ((((g.length+1:Nat):Int)) < (g.length:Int)+1)=false:=by simp
   gi_wp2
   have HE:Hid (ZAw rows g (g.length+1)=ZAZ rows g):=by show _=_; unfold ZAZ; rw [←Hg.length.out]
   refine ZAq F wr f.out.nd f.out.mark (fun Q hc=>⟨_,results_none rfl _ _ _,⟨_,rfl⟩,.inl ⟨(fun b=>b=gb∨b=rb∨b=A∨b∈F),?_⟩⟩)
   rw [←HE.out]
   exact ae.out _ _ _ wr Q f.out.j (hc.mono (fun i _ O=>.inr (.inr (.inr O)))) (fun b hb=>.inl hb)
 case inl=>
  have aR.length:Hid (rows.length=min g.length rows.length):=by show _=_; omega
  have hrows.length4:rows.length≤4:=by omega
  clear aU aV;rw [←bH.out,←bK.out]
  refine wpIn_loop (fun a' wr=>∃(k:Nat) (F:List Nat) (u4 u15 u16 u17 u18 u19 u20 u36:Value),k≤rows.length+1∧WyK rows g T gb rb A G J k F wr∧
   a' = { tmps:=#[.func (.yield l) #[] #[],.pointer (some ⟨gb,0,none⟩),.pointer (some ⟨rb,0,none⟩),.pointer (some ⟨A,0,none⟩),u4,undef,undef,undef,.slice go g.length gc,.int .i64 g.length,.slice ro rows.length rc,.int .i64 rows.length,.int .i64 rows.length,.int .i64 ((rows.length:Int)+1),.int .i64 k,u15,u16,u17,u18,u19,u20,undef,undef,undef,undef,undef,undef,undef,undef,undef,undef,undef,undef,undef,undef,undef,u36],defers:=mks F }) (fun a' _=>rows.length+1-(intOf (a'.tmps.getD 14 undef)).toNat) ?_ ?_
  ·exact ⟨0,[],_,_,_,_,_,_,_,_,Za5 _,bL.out,rfl⟩
  rintro _ wr ⟨k,F,u4,u15,u16,u17,u18,u19,u20,u36,hk,aq,rfl⟩;have f:=hid aq;have d1:wr.cell? ⟨gb,0,none⟩=some (.slice go g.length gc):=(World.cell?_of_block (w:=G) (aq.kp.block gb N.out.1 (.inl rfl))).trans ai.out.1;have d2:wr.cell? ⟨rb,0,none⟩=some (.slice ro rows.length rc):=(World.cell?_of_block (w:=G) (aq.kp.block rb N.out.2.1 (.inr (.inl rfl)))).trans ai.out.2.1;clear aq
  by_cases hlt:k < rows.length+1
  ·have bu:(k:Int) < (rows.length:Int)+1:=by omega
   gi_wp2_with (refine ⟨trivial,rfl,?_⟩; gi_at_call 56; refine (callsIn_wide.2 (ZIc _ _ _)).mono ?_; rintro e Q ⟨rfl,rfl⟩)
   obtain ⟨E,aa⟩:∃E,E=(wr.alloc (.cells #[.int .i64 rows.length] 3)).alloc (.cells #[.int .i64 k] 3):=⟨_,rfl⟩
   rw [←aa]
   have an:Below wr.heap.size wr E:=by rw [aa]; exact ((Below.refl _ _).alloc (Za4 _) _).alloc (by simp) _
   have aI:E.heap.size=wr.heap.size+2:=by rw [aa]; simp
   have aL:E.cell? ⟨wr.heap.size,0,none⟩=some (.int .i64 rows.length):=by
    rw [aa]; exact ((ZAG (wr.alloc (.cells #[.int .i64 rows.length] 3)) _).cell (p:=⟨wr.heap.size,0,none⟩) (by simp)).trans (ZAe (ZAM wr _))
   have af:E.cell? ⟨wr.heap.size+1,0,none⟩=some (.int .i64 k):=by
    rw [aa]; have:=ZAe (ZAM (wr.alloc (.cells #[.int .i64 rows.length] 3)) (.cells #[.int .i64 k] 3)); rwa [size_alloc] at this
   clear aa
   have bk:Hid (WyI rows g T gb rb A E J F wr.heap.size (fun b=>b=wr.heap.size+1∨b=wr.heap.size) (ZAw rows g k ++ ([]:List (List Int)).filter (fun c=>ZBP g (pks rows [] c))) E):=by
    refine ⟨fun b hb=>by omega,Kpt.refl _ _,?_,by omega⟩
    rw [List.filter_nil,List.append_nil]
    exact ae.out _ _ _ wr E f.out.j (Chg.of_below an (Za4 _)) (fun b hb=>hb.elim (fun h=>.inr (by omega)) .inl)
   have aK:Hid (∀n,Kpt (fun b=>b < wr.heap.size∧(b=gb∨b=rb∨b=A∨T b∨b∈F)) E n→Kpt (fun b=>b=gb∨b=rb∨b=A∨T b) G n):=fun n hk'=>by
    have y:=f.out.kp.size;have L:=N.out
    refine ⟨by have:=hk'.size; omega,fun b hb hx=>?_⟩
    have aH:b < wr.heap.size:=by omega
    exact (hk'.block b (by omega) ⟨aH,by rcases hx with h | h | h | h <;> simp [h]⟩).trans ((an.block b aH).trans (f.out.kp.block b hb hx))
   have bA:=ZKT rows.length k (wr.heap.size+1) wr.heap.size E (by omega) (by omega) af aL
   have aM:=hid an;clear an aL af d1 d2
   refine ZDX (R:=ZJQ E.heap.size) (cs:=ext rows.length k 0) (T:=fun _=>False) (S0:=fun b=>b=wr.heap.size+1∨b=wr.heap.size) (gf:=86) (lb:=#[.pointer (some ⟨wr.heap.size+1,0,none⟩),.pointer (some ⟨wr.heap.size,0,none⟩)]) rfl (enters_of Tryz.func86 (by kernel_rfl) rfl) bA (fun b hb=>by omega)
    (fun n S x vs ⟨v,B0,y,_⟩=>by rw [y]; rfl) (ZFP _) (ZIj _)
    (fun S s n=>WyI rows g T gb rb A E J F wr.heap.size S (ZAw rows g k ++ s.filter (fun c=>ZBP g (pks rows [] c))) n)
    (fun c S s n=>c=.ret∧∃q,q <+: ZAZ rows g∧WyI rows g T gb rb A E Jx F wr.heap.size S q n)
    (fun S S' s n W'' h hc hs=>h.stab ae.out hc hs) (fun c S S' s n W'' ⟨y,q,L,h3⟩ hc hs=>⟨y,q,L,h3.stab aW.out hc hs⟩) bk.out
    (fun vs a' n=>∃v,vs=#[v]∧a' = { tmps:=#[.func (.yield l) #[] #[],.pointer (some ⟨gb,0,none⟩),.pointer (some ⟨rb,0,none⟩),.pointer (some ⟨A,0,none⟩),.int .i64 k,v,undef,undef,.slice go g.length gc,.int .i64 g.length,.slice ro rows.length rc,.int .i64 rows.length,.int .i64 rows.length,.int .i64 ((rows.length:Int)+1),.int .i64 k,.bool true,.int .i64 k,.slice ro rows.length rc,.int .i64 rows.length,.int .i64 k,.func (.func 86) #[] #[.pointer (some ⟨wr.heap.size+1,0,none⟩),.pointer (some ⟨wr.heap.size,0,none⟩)],v,undef,undef,undef,undef,undef,undef,undef,undef,undef,undef,undef,undef,undef,undef,u36],defers:=[] })
    (fun vs a' n l r o h _=>h) ?assign ?body (fun h=>h) ?done ?stop
   case assign=>
    rintro S x vs n K ⟨v,B0,rfl,L,h3,h4⟩ hK
    gi_wp2
    exact hK _ _ (Below.refl _ _) ⟨v,rfl,rfl⟩
   case body=>
    rintro S s c vs a' d O ar bP bG Y ak U ⟨S1,⟨v,B0,aQ,D,aC,bq,bl⟩,aw⟩ ⟨v',ag,rfl⟩
    have bz:v=v':=by rw [aQ] at ag; simpa using ag
    subst bz
    have af:c∈ext rows.length k 0:=U.subset (by simp)
    obtain ⟨aJ,aS,_⟩:=ZBi af;have ah:=aK.out d O.kp;have e1:d.cell? ⟨gb,0,none⟩=some (.slice go g.length gc):=(World.cell?_of_block (w:=G) (ah.block gb N.out.1 (.inl rfl))).trans ai.out.1;have e2:d.cell? ⟨rb,0,none⟩=some (.slice ro rows.length rc):=(World.cell?_of_block (w:=G) (ah.block rb N.out.2.1 (.inr (.inl rfl)))).trans ai.out.2.1;have e3:d.cell? ⟨A,0,none⟩=some (.func (.yield l) #[] #[]):=(World.cell?_of_block (w:=G) (ah.block A N.out.2.2.1 (.inr (.inr (.inl rfl))))).trans ai.out.2.2
    have az:Kpt T w0 d:=bE.out d (ah.mono (fun i _ h=>.inr (.inr (.inr h))))
    obtain ⟨vo,vc,bD⟩:=ZAD D;subst bD;obtain ⟨lr,ak⟩:=ak
    have aA:Hid (∀a,vo=some a→¬(S a.block∨a.block=gb∨a.block=rb∨a.block=A∨a.block∈F)∧isC d a.block):=fun a ha=>by
     obtain ⟨y,L,h3⟩:=ZFs D Y rfl a ha;obtain ⟨_,h4,_⟩:=ZFs D ak rfl a ha
     refine ⟨fun hx=>?_,h3⟩
     have hg:=N.out;have hz:=f.out.kp.size
     rcases hx with hx | hx | hx | hx | hx
     ·rcases (aw _).1 hx with hx | hx | hx
      ·have:=aC _ hx; omega
      ·exact L hx
      ·exact h4 hx
     ·omega
     ·omega
     ·omega
     ·have:=(Zaa3.1 (f.out.mark _ hx)).1; omega
    have aP:Hid (∀b,(S b∨b=gb∨b=rb∨b=A∨b∈F)→b < d.heap.size):=fun b hx=>by
     have hg:=N.out;have hz:=f.out.kp.size;have bR:=O.sz
     rcases hx with hx | hx | hx | hx | hx
     ·rcases (aw _).1 hx with hx | hx | hx
      ·have:=aC _ hx; omega
      ·omega
      ·omega
     ·omega
     ·omega
     ·omega
     ·have:=(Zaa3.1 (f.out.mark _ hx)).1; omega
    have bv:Hid (Sl 0 3 d (.slice vo c.length vc) (ZAB c)):=Sl.own D
    have aj:Hid (Calls Tryz.prog 131 #[.slice ro rows.length rc,.slice vo c.length vc,.slice go g.length gc] d fun e Q=>∃tv,e=.returned (.tuple #[tv,.bool (ZBP g (pks rows [] c))])∧ZQ7 d.heap.size Q tv (.slice vo c.length vc) c g (pks rows [] c)∧Below d.heap.size d Q):=
     ZGh B rows c g _ _ _ d (bM.out d az) (Sl.own D) (bI.out d az) (fun t ht=>by have:=aS t (by omega); exact ⟨by omega,this.2⟩) HR.out HG.out hg1 (by omega) (by omega)
    have HI:=hid O;have aT:=hid U;have bg:Hid (A < d.heap.size):=ZAm e3;have bN:=hid aJ;have bO:=hid aI;clear O U D aC bq bl aw af aS ah az Y ak aQ ag aJ aI
    cases hwb:ZBP g (pks rows [] c) with
    | false=>
     have am:Hid ((s ++ [c]).filter (fun c=>ZBP g (pks rows [] c))=s.filter (fun c=>ZBP g (pks rows [] c))):=by
      show _=_
      rw [List.filter_append]; simp [hwb]
     have bh:Hid (Calls Tryz.prog 131 #[.slice ro rows.length rc,.slice vo c.length vc,.slice go g.length gc] d fun e Q=>e=.returned (.tuple #[.agg #[.slice none 0 0,.slice none 0 0,.int .i64 0],.bool false])∧Below d.heap.size d Q):=by
      refine aj.out.mono ?_
      rintro e Q ⟨tv,rfl,y | y,L⟩
      ·rw [hwb] at y; exact absurd y.1 (by simp)
      ·rw [hwb,y.2]; exact ⟨rfl,L⟩
     clear hwb aj
     gi_wp2_with (refine ⟨trivial,rfl,?_⟩; gi_at_call 131; refine (CallsIn.inRound _ (callsIn_wide.2 bh.out)).mono ?_; rintro e X ⟨rfl,aB⟩)
     have aG:Hid (Below d.heap.size d (X.alloc (.cells #[.slice none 0 0,.slice none 0 0,.int .i64 0] 105))):=aB.alloc aB.size _;clear aB
     refine ⟨fun _ h=>(by cases h),?_⟩
     gi_wp2
     refine ⟨Kpt.of_below aG.out (Za4 _),?_⟩
     have au:=HI.out.stab ae.out (Chg.of_below aG.out (Za4 _)) (S':=S) (fun b hb=>.inl hb)
     rw [←am.out] at au;exact au
    | true=>
     obtain ⟨q,hq⟩:∃q,q=ZAw rows g k ++ s.filter (fun c=>ZBP g (pks rows [] c)):=⟨_,rfl⟩
     have am:Hid (ZAw rows g k ++ (s ++ [c]).filter (fun c=>ZBP g (pks rows [] c))=q ++ [c]):=by
      show _=_
      rw [List.filter_append,hq]; simp [hwb]
     have aF:Hid ((q ++ [c]) <+: ZAZ rows g):=by
      rw [←am.out]
      refine List.IsPrefix.trans ?_ ((ZFN rows g (show k+1≤rows.length+1 by omega)).trans (by unfold ZAZ; rw [←aR.length.out]; exact List.prefix_refl _))
      rw [ZBd]
      obtain ⟨t,ht⟩:=ZFO (p:=fun c=>ZBP g (pks rows [] c)) aT.out
      exact ⟨t,by rw [List.append_assoc,ht]⟩
     rw [←hq] at HI
     obtain ⟨un,aD⟩:∃un,un=(ZAv g (pks rows [] c)).getD c.length 0:=⟨_,rfl⟩
     have bB:Hid (Calls Tryz.prog 131 #[.slice ro rows.length rc,.slice vo c.length vc,.slice go g.length gc] d fun e Q=>∃M V,e=.returned (.tuple #[.agg #[.slice vo c.length vc,.slice M c.length V,.int .i64 un],.bool true])∧Sl 0 3 Q (.slice M c.length V) (ZAB ((ZAv g (pks rows [] c)).take c.length))∧(∀a,M=some a→d.heap.size≤a.block∧isC Q a.block)∧Below d.heap.size d Q):=by
      refine aj.out.mono ?_
      rintro e Q ⟨tv,rfl,y | y,L⟩
      ·obtain ⟨_,M,V,rfl,h3,h4⟩:=y
       rw [hwb,←aD]; exact ⟨M,V,rfl,h3,h4,L⟩
      ·rw [hwb] at y; exact absurd y.1 (by simp)
     have bw:Hid (∀M V X,Sl 0 3 X (.slice M c.length V) (ZAB ((ZAv g (pks rows [] c)).take c.length))→(∀a,M=some a→d.heap.size≤a.block∧isC X a.block)→Below d.heap.size d X→
       (X.alloc (.cells #[.slice vo c.length vc,.slice M c.length V,.int .i64 un] 105)).cell? ⟨A,0,none⟩=some (.func (.yield l) #[] #[])∧
       YieldAt Fence.wide 0 Tryz.prog l #[.agg #[.slice vo c.length vc,.slice M c.length V,.int .i64 un]] (X.alloc (.cells #[.slice vo c.length vc,.slice M c.length V,.int .i64 un] 105)) fun e n=>
        (e=.returned (.bool true)∧Kpt (fun b=>S b∨False) d n∧WyI rows g T gb rb A E J F wr.heap.size S (ZAw rows g k ++ (s ++ [c]).filter (fun c=>ZBP g (pks rows [] c))) n)∨
        (e=.returned (.bool false)∧Kpt (fun b=>S b∨False) d n∧∃q,q <+: ZAZ rows g∧WyI rows g T gb rb A E Jx F wr.heap.size S q n)):=fun M V X y L h3=>by
      obtain ⟨W7,ay⟩:∃W7,W7=X.alloc (.cells #[.slice vo c.length vc,.slice M c.length V,.int .i64 un] 105):=⟨_,rfl⟩
      have P:Below d.heap.size d W7:=by rw [ay]; exact h3.alloc h3.size _
      have aO:Below X.heap.size X W7:=by rw [ay]; exact ZAG _ _
      rw [←ay];refine ⟨(P.cell (p:=⟨A,0,none⟩) bg.out).trans e3,?_⟩
      have bj:=ae.out _ (fun b=>S b∨b=gb∨b=rb∨b=A∨b∈F) _ d W7 HI.out.j (Chg.of_below P (Za4 _)) (fun b hb=>.inl hb)
      refine YieldAt.mono (HY.out 0 _ q c _ W7 bj aF.out ⟨vo,vc,M,V,by rw [←aD],hwb,bv.out.below P (Za4 _),y.below aO (Za4 _),fun a ha=>⟨(aA.out a ha).1,(aA.out a ha).2.keep (P.block _ (aA.out a ha).2.lt)⟩,fun a ha=>⟨fun hx=>?_,(L a ha).2.keep (aO.block _ (L a ha).2.lt)⟩,fun b hb=>Nat.lt_of_lt_of_le (aP.out b hb) P.size⟩) ?_
      ·have:=(L a ha).1
       have:=aP.out _ hx;omega
      ·rintro e n ⟨hk,hp⟩
       have k1:Kpt (fun b=>S b∨False) d n:=(Kpt.of_below P (Za4 _)).trans (hk.mono (fun i _ h=>.inl (.inl (h.elim id False.elim))))
       have k2:Kpt (fun b=>b < wr.heap.size∧(b=gb∨b=rb∨b=A∨T b∨b∈F)) E n:=HI.out.kp.trans ((Kpt.of_below P (Za4 _)).trans (hk.mono (fun i _ h=>by
        rcases h.2 with h | h | h | h | h
        ·exact .inl (.inr (.inl h))
        ·exact .inl (.inr (.inr (.inl h)))
        ·exact .inl (.inr (.inr (.inr (.inl h))))
        ·exact .inr h
        ·exact .inl (.inr (.inr (.inr (.inr h)))))))
       have k3:wr.heap.size≤n.heap.size:=Zaa8 HI.out.sz k1.size
       rcases hp with ⟨rfl,hj⟩ | ⟨rfl,hj⟩
       ·exact .inl ⟨rfl,k1,HI.out.sn,k2,by rw [am.out]; exact hj,k3⟩
       ·exact .inr ⟨rfl,k1,_,aF.out,HI.out.sn,k2,hj,k3⟩
     clear hwb aj hq aD e3
     gi_wp2_with (first | (refine ⟨trivial,rfl,?_⟩; gi_at_call 131; refine (CallsIn.inRound _ (callsIn_wide.2 bB.out)).mono ?_; rintro e X ⟨M,V,rfl,y,L,h3⟩; obtain ⟨e3,fn,tmps,assign,body,hy,hR⟩:=bw.out M V X y L h3; clear y L h3) | (refine ⟨rfl,?_⟩; refine hR.mono ?_; clear hR hy; rintro e n (⟨rfl,hk,hj⟩ | ⟨rfl,hk,hj⟩)))
     all_goals first | exact ⟨hk,hj⟩ | exact ⟨hk,rfl,hj⟩
   case done=>
    rintro S n O ar Y;have HI:=hid O
    have aZ:Hid (WyK rows g T gb rb A G J (k+1) (E.heap.size :: F) n):=by
     refine ⟨List.nodup_cons.2 ⟨fun h=>?_,f.out.nd⟩,fun r hr=>?_,aK.out n O.kp,?_⟩
     ·have:=(Zaa3.1 (f.out.mark _ h)).1; omega
     ·rcases List.mem_cons.1 hr with rfl | hr
      ·exact Y
      ·have y:=(Zaa3.1 (f.out.mark _ hr)).1
       exact (O.kp.block r (by omega) ⟨y,.inr (.inr (.inr (.inr hr)))⟩).trans ((aM.out.block r y).trans (f.out.mark r hr))
     ·rw [ZBd]
      refine ae.out _ _ _ n n O.j (Chg.refl _ _) (fun b hb=>.inl ?_)
      rcases hb with h | h | h | h
      ·exact .inr (.inl h)
      ·exact .inr (.inr (.inl h))
      ·exact .inr (.inr (.inr (.inl h)))
      ·rcases List.mem_cons.1 h with rfl | h
       ·exact .inl ar
       ·exact .inr (.inr (.inr (.inr h)))
    clear O
    gi_wp2
    refine ⟨⟨k+1,E.heap.size :: F,.int .i64 k,.bool true,.int .i64 k,.slice ro rows.length rc,.int .i64 rows.length,.int .i64 k,.func (.func 86) #[] #[.pointer (some ⟨wr.heap.size+1,0,none⟩),.pointer (some ⟨wr.heap.size,0,none⟩)],.int .i64 ((k:Int)+1),by omega,aZ.out,?_⟩,?_⟩
    ·rw [show ((k+1:Nat):Int)=(k:Int)+1 by omega]
     rfl
    ·simp [intOf]; omega
   case stop=>
    rintro c S s n U ⟨rfl,q,hq,O⟩ ar Y
    gi_wp2
    refine ZAq (E.heap.size :: F) n (List.nodup_cons.2 ⟨fun h=>?_,f.out.nd⟩) (fun r hr=>?_) (fun Q hc=>⟨_,results_none rfl _ _ _,⟨_,rfl⟩,.inr ⟨(fun b=>S b∨b=gb∨b=rb∨b=A∨b∈F),q,hq,?_⟩⟩)
    ·have:=(Zaa3.1 (f.out.mark _ h)).1; omega
    ·rcases List.mem_cons.1 hr with rfl | hr
     ·exact Y
     ·have y:=(Zaa3.1 (f.out.mark _ hr)).1
      exact (O.kp.block r (by omega) ⟨y,.inr (.inr (.inr (.inr hr)))⟩).trans ((aM.out.block r y).trans (f.out.mark r hr))
    ·refine aW.out _ _ _ n Q O.j (hc.mono (fun i _ h=>?_)) (fun b hb=>.inl hb)
     rcases List.mem_cons.1 h with rfl | h
     ·exact .inl ar
     ·exact .inr (.inr (.inr (.inr h)))
  ·have bC:k=rows.length+1:=by omega
   subst bC
   have bu:decide ((((rows.length+1:Nat):Int)) < (rows.length:Int)+1)=false:=by simp
   gi_wp2
   have HE:Hid (ZAw rows g (rows.length+1)=ZAZ rows g):=by show _=_; unfold ZAZ; rw [←aR.length.out]
   refine ZAq F wr f.out.nd f.out.mark (fun Q hc=>⟨_,results_none rfl _ _ _,⟨_,rfl⟩,.inl ⟨(fun b=>b=gb∨b=rb∨b=A∨b∈F),?_⟩⟩)
   rw [←HE.out]
   exact ae.out _ _ _ wr Q f.out.j (hc.mono (fun i _ O=>.inr (.inr (.inr O)))) (fun b hb=>.inl hb)
end Go.Proofs.YtgfnmkenpgnllaaGreat
namespace Go.Proofs.YtgfnmkenpgnllaaGreat
open Lin
def sv(t:List (List Int))(a:Nat→Int)(j:Nat):Int:=sm (t.map V) a j
theorem ZFu(t:List (List Int))(a:Nat→Int)(j:Nat):sv t a j=sumN t.length fun i=>a i*V (t.getD i []) j:=by
 unfold sv sm;rw [Zab1]
 refine ZAC fun i hi=>?_
 have:(t.map V).getD i (fun _=>0)=V (t.getD i []):=by simp [hi]
 rw [this]
theorem ZM3(t:List (List Int))(x y:Int)(a b:Nat→Int)(j:Nat):sv t (fun i=>x*a i+y*b i) j=x*sv t a j+y*sv t b j:=ZQI _ x y a b j
theorem ZDD{t:List (List Int)}{a b:Nat→Int}(h:∀i,i < t.length→a i=b i)(j:Nat):sv t a j=sv t b j:=ZIi (fun i hi=>h i (by simpa using hi)) j
theorem ZFv(r:List Int)(t:List (List Int))(a:Nat→Int)(j:Nat):sv (r :: t) a j=a 0*V r j+sv t (fun i=>a (i+1)) j:=ZHj _ _ _ _
theorem ZQ8:∀(t:List (List Int)) (b:Nat→Int),(∀i,i < t.length→0≤b i)→∃t' a',t'.Sublist t∧(∀i,i < t'.length→0 < a' i)∧(∀j,sv t' a' j=sv t b j)∧((∃i,i < t.length∧b i=0)→t'.length < t.length)
 | [],b,_=>⟨[],b,List.Sublist.refl _,fun i hi=>by simp at hi,fun _=>rfl,fun ⟨i,hi,_⟩=>by simp at hi⟩
 | r :: t,b,h=>by
  obtain ⟨t',a',h1,h2,h3,h4⟩:=ZQ8 t (fun i=>b (i+1)) fun i hi=>h (i+1) (by simpa using hi)
  have hl:=h1.length_le
  by_cases h0:b 0=0
  ·refine ⟨t',a',h1.cons r,h2,fun j=>?_,fun _=>by simp; omega⟩
   rw [ZFv,h0,h3]; omega
  ·have hp:0 < b 0:=by have:=h 0 (by simp); omega
   refine ⟨r :: t',fun i=>if i=0 then b 0 else a' (i-1),h1.cons_cons r,fun i hi=>?_,fun j=>?_,fun ⟨i,hi,hz⟩=>?_⟩
   ·by_cases e:i=0
    ·simp [e,hp]
    ·simp only [e,if_false]
     exact h2 _ (by simp at hi; omega)
   ·rw [ZFv,ZFv]
    simp only [if_true];rw [←h3 j]
    congr 1
   ·have:i≠0:=fun e=>h0 (by rw [←e]; exact hz)
    have:=h4 ⟨i-1,by simp at hi; omega,by rw [show i-1+1=i by omega]; exact hz⟩
    simp; omega
theorem ZOB(t:List (List Int))(g:List Int)(a:Nat→Int)(j:Nat):dot (t.length+1) (V (ZHe t g j)) a=sv t a j-a t.length*V g j:=by
 have d:∀i,i < t.length→V (ZHe t g j) i=V (t.getD i []) j:=fun i hi=>by
  have c:i < (t.map fun r=>r.getD j 0).length:=by simpa using hi
  unfold V ZHe;rw [Za2,Za7 c];simp [hi]
 have b:V (ZHe t g j) t.length=-(V g j):=by
  unfold V ZHe
  rw [Za2,Za8 (by simp)]; simp
 rw [ZFu];unfold dot
 show sumN t.length _+V (ZHe t g j) t.length*a t.length=_
 rw [b,ZAC (g:=fun i=>a i*V (t.getD i []) j) fun i hi=>by rw [d i hi]; exact Int.mul_comm _ _]
 grind
theorem ZCu{t:List (List Int)}{g:List Int}{a:Nat→Int} : (∀r∈ZA4 g t,dot (t.length+1) (V r) a=0)↔∀j,j < g.length→sv t a j=a t.length*V g j:=by
 constructor
 ·intro h j b
  have:=h (ZHe t g j) (by simp only [ZA4,List.mem_map,List.mem_range]; exact ⟨j,b,rfl⟩)
  rw [ZOB] at this;omega
 ·intro h r c
  simp only [ZA4,List.mem_map,List.mem_range] at c;obtain ⟨j,b,rfl⟩:=c;rw [ZOB,h j b]; omega
theorem ZEX{g:List Int}{t:List (List Int)} : ZBP g t=true↔∃a:Nat→Int,(∀i,i < t.length+1→0 < a i)∧(∀j,j < g.length→sv t a j=a t.length*V g j)∧∀u:Nat→Int,(∀j,j < g.length→sv t u j=u t.length*V g j)→Par (t.length+1) u a:=by
 rw [ZId]
 constructor
 ·rintro ⟨a,b,c,d⟩
  exact ⟨a,b,ZCu.1 c,fun u hu=>d u (ZCu.2 hu)⟩
 ·rintro ⟨a,b,c,d⟩
  exact ⟨a,b,ZCu.2 c,fun u hu=>d u (ZCu.1 hu)⟩
theorem ZGi{g:List Int}{t:List (List Int)}(h:ZBP g t=true):t.length≤g.length:=by
 obtain ⟨a,b,_,c⟩:=ZId.1 h
 apply Za6
 intro m
 obtain ⟨v,⟨i,l,d⟩,hv⟩:=ZC2 (t.length+1) ((ZA4 g t).map V ++ [ZBf t.length]) (by simp [ZA4]; omega)
 have j:v t.length=0:=by
  have:=hv (ZBf t.length) (by simp)
  rwa [ZC1 (by omega)] at this
 have f:=c v (fun r hr=>hv (V r) (List.mem_append_left _ (List.mem_map.2 ⟨r,hr,rfl⟩))) i t.length l (by omega)
 rw [j,Int.zero_mul] at f
 have:=b t.length (by omega)
 rcases Int.mul_eq_zero.1 f with h | h
 ·exact d h
 ·omega
theorem ZEY{rows:List (List Int)}{g:List Int} : ZAZ rows g≠[]↔∃t,t.Sublist rows∧ZBP g t=true:=by
 constructor
 ·intro h
  cases a:ZAZ rows g with
  | nil=>exact absurd a h
  | cons c l=>
   have d:c∈ZAZ rows g:=by rw [a]; simp
   simp only [ZAZ,ZAw,List.mem_flatMap,List.mem_range,List.mem_filter] at d;obtain ⟨m,n,f,i⟩:=d;have b:=ZCM rows [] m 0;rw [List.drop_zero] at b
   have:pks rows [] c∈chz m rows:=by rw [←b]; exact List.mem_map.2 ⟨c,f,rfl⟩
   exact ⟨_,(ZBn.1 this).1,i⟩
 ·rintro ⟨t,j,a⟩
  have b:=ZCM rows [] t.length 0;rw [List.drop_zero] at b;have d:t∈chz t.length rows:=ZBn.2 ⟨j,rfl⟩;rw [←b] at d;obtain ⟨c,o,p⟩:=List.mem_map.1 d
  have:c∈ZAZ rows g:=by
   simp only [ZAZ,ZAw,List.mem_flatMap,List.mem_range,List.mem_filter]
   refine ⟨t.length,?_,o,by rw [p]; exact a⟩
   have:=j.length_le;have:=ZGi a;omega
  intro h;rw [h] at this; cases this
theorem ZRM{rows:List (List Int)}{g:List Int}(hcyc:∀t:List (List Int),t.Sublist rows→∀w:Nat→Int,(∀i,i < t.length→0≤w i)→(∀j,j < g.length→sv t w j=0)→0≤sv t w g.length) :
  ∀(n:Nat) (t:List (List Int)) (a:Nat→Int),t.length≤n→t.Sublist rows→(∀i,i < t.length+1→0 < a i)→(∀j,j < g.length→sv t a j=a t.length*V g j)→
  ∃t' a',t'.Sublist rows∧ZBP g t'=true∧(∀i,i < t'.length+1→0 < a' i)∧(∀j,j < g.length→sv t' a' j=a' t'.length*V g j)∧sv t' a' g.length*a t.length≤sv t a g.length*a' t'.length:=by
 intro n
 induction n with
 | zero=>
  intro t a hn A v x
  by_cases hk:∀u:Nat→Int,(∀j,j < g.length→sv t u j=u t.length*V g j)→Par (t.length+1) u a
  ·exact ⟨t,a,A,ZEX.2 ⟨a,v,x,hk⟩,v,x,Int.le_refl _⟩
  ·exfalso
   apply hk
   intro u _ i j o m
   have:i=0:=by omega
   have:j=0:=by omega
   subst i; subst j; rfl
 | succ n ih=>
  intro t a hn A v x
  by_cases hk:∀u:Nat→Int,(∀j,j < g.length→sv t u j=u t.length*V g j)→Par (t.length+1) u a
  ·exact ⟨t,a,A,ZEX.2 ⟨a,v,x,hk⟩,v,x,Int.le_refl _⟩
  ·have:∃u:Nat→Int,(∀j,j < g.length→sv t u j=u t.length*V g j)∧¬Par (t.length+1) u a:=Za6 fun h=>hk fun u hu=>Za6 fun s=>h ⟨u,hu,s⟩
   obtain ⟨u,hu,M⟩:=this
   have O:=v t.length (by omega)
   have hw:∃w:Nat→Int,(∀j,j < g.length→sv t w j=0)∧∃i,i < t.length∧w i≠0:=by
    refine ⟨fun i=>a t.length*u i+(-(u t.length))*a i,fun j m=>?_,?_⟩
    ·rw [ZM3,hu j m,x j m]; grind
    ·apply Za6
     intro L
     apply M
     have G:∀i,i < t.length+1→a t.length*u i=u t.length*a i:=fun i o=>by
      by_cases e:i=t.length
      ·rw [e]; exact Int.mul_comm _ _
      ·have:a t.length*u i+(-(u t.length))*a i=0:=Za6 fun s=>L ⟨i,by omega,s⟩
       grind
     intro i j o m
     have e:a t.length*(u i*a j-u j*a i)=0:=by
      have r:=G i o;have h2:=G j m
      have:a t.length*(u i*a j-u j*a i)=(a t.length*u i)*a j-(a t.length*u j)*a i:=by grind
      rw [this,r,h2]; grind
     rcases Int.mul_eq_zero.1 e with h | h
     ·omega
     ·omega
   have Q:∃w:Nat→Int,(∀j,j < g.length→sv t w j=0)∧(∃i,i < t.length∧0 < w i)∧0≤sv t w g.length:=by
    obtain ⟨w,r,y,p,s⟩:=hw
    have l:∀j,sv t (fun i=>- w i) j=- sv t w j:=fun j=>by
     have:=ZM3 t (-1) 0 w w j
     rw [show (fun i=>(-1:Int)*w i+0*w i)=fun i=>- w i by funext i; omega] at this
     rw [this]; omega
    by_cases Y:0≤sv t w g.length
    ·by_cases hpw:∃i,i < t.length∧0 < w i
     ·exact ⟨w,r,hpw,Y⟩
     ·have d:∀i,i < t.length→0≤- w i:=fun i o=>by
       have:¬0 < w i:=fun h=>hpw ⟨i,o,h⟩
       omega
      refine ⟨fun i=>- w i,fun j m=>by rw [l,r j m]; rfl,⟨y,p,by have:=d y p; show 0 < - w y; omega⟩,?_⟩
      exact hcyc t A _ d fun j m=>by rw [l,r j m]; rfl
    ·by_cases hpw:∃i,i < t.length∧w i < 0
     ·obtain ⟨i,o,U⟩:=hpw
      exact ⟨fun i=>- w i,fun j m=>by rw [l,r j m]; rfl,⟨i,o,by show 0 < - w i; omega⟩,by rw [l]; omega⟩
     ·have d:∀i,i < t.length→0≤w i:=fun i o=>by
       have:¬w i < 0:=fun h=>hpw ⟨i,o,h⟩
       omega
      exact ⟨w,r,⟨y,p,by have:=d y p; omega⟩,hcyc t A w d r⟩
   obtain ⟨w,r,⟨y,p,J⟩,Y⟩:=Q
   obtain ⟨c,B,R⟩:=ZCm (f:=a) (g:=w) (X:=(List.range t.length).filter fun i=>decide (0 < w i)) (by
     intro he
     have:y∈(List.range t.length).filter fun i=>decide (0 < w i):=by simp [p,J]
     rw [he] at this; simp at this) (fun z G=>by simpa using (List.mem_filter.1 G).2)
   have E:c < t.length:=by simpa using (List.mem_filter.1 B).1
   have D:0 < w c:=by simpa using (List.mem_filter.1 B).2
   have ae:=v c (by omega)
   have N:∀i,i < t.length→0≤w c*a i+(-(a c))*w i:=fun i o=>by
    have af:=v i (by omega)
    by_cases hwi:0 < w i
    ·have:=R i (by simp [o,hwi])
     have e:w c*a i+(-(a c))*w i=a i*w c-a c*w i:=by grind
     omega
    ·have e1:0≤w c*a i:=Int.mul_nonneg (by omega) (by omega)
     have e2:0≤a c*(- w i):=Int.mul_nonneg (by omega) (by omega)
     have e3:(-(a c))*w i=a c*(- w i):=by grind
     omega
   obtain ⟨F,P,g1,g2,g3,g4⟩:=ZQ8 t (fun i=>w c*a i+(-(a c))*w i) N
   have U:=g4 ⟨c,E,by grind⟩
   have T:0 < w c*a t.length:=Int.mul_pos D O
   obtain ⟨t',a',k1,k2,k3,k4,k5⟩:=ih F (fun i=>if i=F.length then w c*a t.length else P i) (by omega) (g1.trans A) (fun i o=>by
     by_cases e:i=F.length
     ·simp only [e,if_true]; exact T
     ·simp only [e,if_false]; exact g2 i (by omega)) (fun j m=>by
     simp only [if_true]
     rw [ZDD (b:=P) (fun i o=>by rw [if_neg (by omega)]),g3,ZM3,r j m,x j m]
     grind)
   refine ⟨t',a',k1,k2,k3,k4,?_⟩;simp only [if_true] at k5
   rw [ZDD (t:=F) (b:=P) (fun i o=>by rw [if_neg (by omega)]),g3,ZM3] at k5
   have aa:=k3 t'.length (by omega)
   have S:0≤a c*sv t w g.length*a' t'.length:=Int.mul_nonneg (Int.mul_nonneg (by omega) Y) (by omega)
   have k6:w c*(sv t' a' g.length*a t.length)≤w c*(sv t a g.length*a' t'.length):=by
    have e1:w c*(sv t' a' g.length*a t.length)=sv t' a' g.length*(w c*a t.length):=by grind
    have e2:(w c*sv t a g.length + -a c*sv t w g.length)*a' t'.length=w c*(sv t a g.length*a' t'.length)-a c*sv t w g.length*a' t'.length:=by grind
    omega
   exact Int.le_of_mul_le_mul_left k6 D
theorem ZCQ{rows:List (List Int)}{g:List Int} : ZAZ rows g=[]↔∃c:Nat→Int,(∀r∈rows,dot g.length c (V r)≤0)∧0 < dot g.length c (V g):=by
 constructor
 ·intro h
  rcases ZOA g.length _ (rows.map V) rfl (V g) with ⟨s,a,A,ha,he⟩ | ⟨c,y,B⟩
  ·exfalso
   refine (ZEY (rows:=rows) (g:=g)).2 ?_ h
   -- the rows cut to the goal's numbers say nothing behind them
   have m:∃t,t.Sublist (rows.map fun r=>r.take g.length)∧ZBP g t=true:=by
    obtain ⟨t,F,N,M,G,_⟩:=ZQ8 (rows.map fun r=>r.take g.length) a fun i hi=>ha i (by simpa using hi)
    have f:∀j,j < g.length→sv (rows.map fun r=>r.take g.length) a j=s*V g j:=fun j hj=>by
     rw [he j hj,ZFu];unfold sm;rw [Zab1,Zab1]
     refine ZAC fun i hi=>?_
     have L:(rows.map fun r=>r.take g.length).getD i []=(rows.getD i []).take g.length:=by simp [hi]
     have v:(rows.map V).getD i (fun _=>0)=V (rows.getD i []):=by simp [hi]
     rw [L,v]
     congr 1
     unfold V;generalize rows.getD i []=r;rw [Za2,Zaa5 hj,Za2]
    obtain ⟨E,_,x,d,_⟩:=ZRM (rows:=rows.map fun r=>r.take g.length) (g:=g) (fun t ht w _ _=>by
      have:sv t w g.length=0:=by
       rw [ZFu]
       refine ZAf fun i hi=>?_
       have J:t.getD i []∈t:=by simp [hi]
       obtain ⟨r,_,l⟩:=List.mem_map.1 (ht.subset J)
       have:V (t.getD i []) g.length=0:=by
        rw [←l];unfold V
        rw [Za2,Zaa6 (by simp; omega)]; rfl
       rw [this,Int.mul_zero]
      omega) t.length t (fun i=>if i=t.length then s else F i) (Za4 _) N (fun i hi=>by
      by_cases e:i=t.length
      ·simp only [e,if_true]; exact A
      ·simp only [e,if_false]; exact M i (by omega)) (fun j hj=>by
      simp only [if_true]
      rw [ZDD (b:=F) (fun i hi=>by rw [if_neg (by omega)]),G,f j hj])
    exact ⟨E,x,d⟩
   obtain ⟨E,x,d⟩:=m;obtain ⟨o,z,p⟩:=List.sublist_map_iff.1 x;refine ⟨o,z,?_⟩;rw [p] at d
   have e:ZA4 g (o.map fun r=>r.take g.length)=ZA4 g o:=by
    unfold ZA4
    refine List.map_congr_left fun j hj=>?_
    rw [List.mem_range] at hj;unfold ZHe;rw [List.map_map]
    congr 1
    refine List.map_congr_left fun r _=>?_
    show (r.take g.length).getD j 0=r.getD j 0
    rw [Za2,Zaa5 hj,Za2]
   unfold ZBP ZAv at d ⊢;rw [e,Zab1] at d;exact d
  ·exact ⟨c,fun r l=>y _ (List.mem_map.2 ⟨r,l,rfl⟩),B⟩
 ·rintro ⟨c,y,B⟩
  apply Za6
  intro n;obtain ⟨t,A,O⟩:=ZEY.1 n;obtain ⟨a,D,l,_⟩:=ZEX.1 O
  have Q:dot g.length c (sv t a)=a t.length*dot g.length c (V g):=by
   have:dot g.length c (sv t a)=dot g.length c (fun j=>a t.length*V g j):=ZAb (fun _ _=>rfl) l
   rw [this];unfold dot;rw [←ZAX]
   exact ZAC fun i _=>by grind
  have P:dot g.length c (sv t a)≤0:=by
   have:=ZGg g.length c (t.map V) a
   show dot g.length c (sm (t.map V) a)≤0
   rw [this,Zab1]
   refine ZCt fun i hi=>?_
   have v:(t.map V).getD i (fun _=>0)=V (t.getD i []):=by simp [hi]
   rw [v]
   exact Int.mul_nonpos_of_nonneg_of_nonpos (Int.le_of_lt (D i (by omega))) (y _ (A.subset (by simp [hi])))
  have:=Int.mul_pos (D t.length (by omega)) B
  omega
end Go.Proofs.YtgfnmkenpgnllaaGreat
namespace Go.Proofs.YtgfnmkenpgnllaaGreat
open Go.RowKit Go.Shelf
attribute [local go_sem] Oper.semAt_some
theorem ZEZ(rv gv:Value)(w:World)(ro go:Option Addr)(rn rc gn gc:Nat)(h1:rv=.slice ro rn rc)(h2:gv=.slice go gn gc):Calls Tryz.prog 103 #[rv,gv] w fun e w'=>
  e=.returned (.func (.func 130) #[] #[.pointer (some ⟨w.heap.size+1,0,none⟩),.pointer (some ⟨w.heap.size,0,none⟩)])∧w'=(w.alloc (.cells #[rv] 25)).alloc (.cells #[gv] 22):=by
 subst h1 h2;go_enter Tryz.func103,Tryz.ntmps103;go_wp2;go_ret;exact ⟨rfl,rfl⟩
theorem ZHk{B:Nat}{e:TypeId}{w W:World}{v:Value}{xs:List Value}(h:Sl B e w v xs)(hk:∀b,b < w.heap.size→W.heap[b]?=w.heap[b]?):Sl B e W v xs:=
 h.move fun b hl ht=>⟨hk b hl,ht⟩
theorem ZM4{B:Nat}{w W:World}{v:Value}{m:List (List Int)}(h:Mat B 22 3 w v m)(hk:∀b,b < w.heap.size→W.heap[b]?=w.heap[b]?):Mat B 22 3 W v m:=by
 obtain ⟨d,a,c,f⟩:=h
 exact ⟨d,a,ZHk c hk,fun i hi=>ZHk (f i hi) hk⟩
def ZBx(d:Nat):List Int:=(List.range (d+1)).map fun j=>if j=d then -1 else 0
theorem ZBL(d:Nat):(ZBx d).length=d+1:=by simp [ZBx]
def ZRY(rows:List (List Int))(d:Nat)(w:World)(tv:Value):Prop:=
 (ZAZ rows (ZBx d)=[]∧tv=.agg #[.slice none 0 0,.slice none 0 0,.int .i64 0])∨
 ∃c l co cc po pc,ZAZ rows (ZBx d)=c :: l∧tv=.agg #[.slice co c.length cc,.slice po c.length pc,.int .i64 1]∧Sl 0 3 w (.slice co c.length cc) (ZAB c)∧Sl 0 3 w (.slice po c.length pc) (ZAB (Lin.low ((ZAv (ZBx d) (pks rows [] c)).take c.length)))
theorem ZBr{e:TypeId}{w W:World}{ao:Option Addr}{n c:Nat}{xs:List Value}(h:Sl 0 e w (.slice ao n c) xs)(hk:∀a,ao=some a→a.block < w.heap.size→W.heap[a.block]?=w.heap[a.block]?):Sl 0 e W (.slice ao n c) xs:=by
 obtain ⟨v,y,hv,l,x,s,r⟩:=h;simp only [Za3] at hv;obtain ⟨rfl,p,rfl⟩:=hv
 refine ⟨ao,c,by rw [p],l,x,fun i hi=>?_,r⟩
 obtain ⟨b,o,g,f,d⟩:=s i hi;have t:xs[i]?=some xs[i]:=Za9 hi;have m:=ZAI (f.trans t);have j:=hk _ g m;refine ⟨b,o,g,(World.cell?_of_block (w:=w) (a:=⟨b,o+i,none⟩) j).trans f,?_⟩
 rcases d with d | ⟨cur,d⟩
 ·omega
 ·exact .inr ⟨cur,j.trans d⟩
theorem ZQ9(w:World)(o1 o2 o3 o4 o5:Obj) :
  ∃W,W=((((w.alloc o1).alloc o2).alloc o3).alloc o4).alloc o5∧W.heap[w.heap.size]?=some o1∧W.heap[w.heap.size+1]?=some o2∧W.heap[w.heap.size+1+1]?=some o3∧W.heap[w.heap.size+1+1+1]?=some o4∧W.heap[w.heap.size+1+1+1+1]?=some o5∧W.heap.size=w.heap.size+5∧Below w.heap.size w W:=by
 obtain ⟨W,c,i,g,d,f,j,b⟩:=ZMr w o1 o2 o3 o4;have a:=ZAG W o5
 refine ⟨W.alloc o5,by rw [c],(a.block _ (by omega)).trans i,(a.block _ (by omega)).trans g,(a.block _ (by omega)).trans d,(a.block _ (by omega)).trans f,?_,by rw [size_alloc]; omega,b.trans (a.mono (by omega))⟩
 rw [show w.heap.size+1+1+1+1=W.heap.size by omega]; exact ZAM _ _
structure RfI(w WN:World)(S:Nat→Prop)(W:World):Prop where
 sn:∀b,S b→w.heap.size+3≤b
 kp:Kpt (fun b=>b < w.heap.size+3) WN W
 os:W.os=w.os
 tape:W.tape=w.tape
 output:W.output=w.output
structure RfX(w:World)(rows:List (List Int))(g:List Int)(S:Nat→Prop)(x:List Int)(co po:Option Addr)(cc pc:Nat)(W:World):Prop where
 sn:∀b,S b→w.heap.size+3≤b
 sz:w.heap.size+3≤W.heap.size
 os:W.os=w.os
 tape:W.tape=w.tape
 output:W.output=w.output
 block:∀b,b < w.heap.size→W.heap[b]?=w.heap[b]?
 tk:W.heap[w.heap.size]?=some (.cells #[.slice co x.length cc,.slice po x.length pc,.int .i64 1] 105 (0,0))
 ok:W.heap[w.heap.size+1]?=some (.cells #[.bool true] 4 (0,0))
 cs:Sl 0 3 W (.slice co x.length cc) (ZAB x)
 ps:Sl 0 3 W (.slice po x.length pc) (ZAB (Lin.low ((ZAv g (pks rows [] x)).take x.length)))
 cb:∀a,co=some a→¬S a.block∧isC W a.block
 pb:∀a,po=some a→¬S a.block∧isC W a.block
theorem RfI.stab{w WN W W':World}{S S':Nat→Prop}(h:RfI w WN S W)(hN:w.heap.size+3≤WN.heap.size)(hc:Chg S W W')(hs:∀b,S' b→S b∨W.heap.size≤b):RfI w WN S' W':=by
 have a:=h.kp.size
 refine ⟨fun b hb=>?_,h.kp.trans (Kpt.of_chg hc fun i _ hi hsi=>?_),hc.os.trans h.os,hc.tape.trans h.tape,hc.output.trans h.output⟩
 ·rcases hs b hb with h1 | h1
  ·exact h.sn b h1
  ·omega
 ·have:=h.sn i hsi
  omega
theorem RfX.stab{w W W':World}{rows:List (List Int)}{g:List Int}{S S':Nat→Prop}{x:List Int}{co po:Option Addr}{cc pc:Nat}(h:RfX w rows g S x co po cc pc W)(hc:Chg S W W')(hs:∀b,S' b→S b∨W.heap.size≤b):RfX w rows g S' x co po cc pc W':=by
 have f:=h.sz
 have c:∀b,b < w.heap.size+3→W'.heap[b]?=W.heap[b]?:=fun b hb=>hc.block b (by omega) (fun hx=>by have:=h.sn b hx; omega)
 have d:∀(a:Addr),¬S a.block∧isC W a.block→¬S' a.block∧isC W' a.block:=fun a ha=>⟨fun hx=>by
  rcases hs _ hx with h1 | h1
  ·exact ha.1 h1
  ·have:=ha.2.lt; omega,ha.2.keep (hc.block _ ha.2.lt ha.1)⟩
 refine ⟨fun b hb=>?_,Zaa8 f hc.size,hc.os.trans h.os,hc.tape.trans h.tape,hc.output.trans h.output,fun b hb=>(c b (by omega)).trans (h.block b hb),(c _ (by omega)).trans h.tk,(c _ (by omega)).trans h.ok,
  ZBr h.cs (fun a ha hl=>hc.block _ hl (h.cb a ha).1),ZBr h.ps (fun a ha hl=>hc.block _ hl (h.pb a ha).1),fun a ha=>d a (h.cb a ha),fun a ha=>d a (h.pb a ha)⟩
 rcases hs b hb with h1 | h1
 ·exact h.sn b h1
 ·omega
theorem ZCv(rows:List (List Int))(g:List Int)(W:World)(S:Nat→Prop)(x:List Int)(vs:Array Value)(W':World)(h:ZDp rows g W S x vs)(hb:Below W.heap.size W W'):ZDp rows g W' S x vs:=by
 obtain ⟨m,r,l,p,f,n,j,i,c,d,o⟩:=h
 exact ⟨m,r,l,p,f,n,j.below hb (Za4 _),i.below hb (Za4 _),fun a ha=>⟨(c a ha).1,(c a ha).2.keep (hb.block _ (c a ha).2.lt)⟩,fun a ha=>⟨(d a ha).1,(d a ha).2.keep (hb.block _ (d a ha).2.lt)⟩,fun b hb'=>Nat.lt_of_lt_of_le (o b hb') hb.size⟩
theorem ZOC{W:World}{v:Value}{xs:List Value}{l:Nat}{r:Loop}(o:Obj)(h:Sl 0 3 W v xs)(hl:W.heap[l]?=some (.loop r)):Sl 0 3 (W.putObj l o) v xs:=
 h.move fun b hb ht=>⟨World.putObj_heap_other (fun e=>by
  subst e
  rcases ht with ht | ⟨c,ht⟩
  ·omega
  ·rw [hl] at ht; cases ht),ht⟩
theorem ZEa(rows:List (List Int))(g:List Int)(W:World)(S:Nat→Prop)(x:List Int)(vs:Array Value)(l:Nat)(r:Loop)(o:Obj)(h:ZDp rows g W S x vs)(hl:W.heap[l]?=some (.loop r)):ZDp rows g (W.putObj l o) S x vs:=by
 obtain ⟨v,B,s,A,m,y,p,n,i,j,z⟩:=h
 have f:∀b,isC W b→isC (W.putObj l o) b:=fun b d=>d.keep (World.putObj_heap_other (fun e=>by
  subst e;obtain ⟨c,t,d⟩:=d;rw [hl] at d; cases d))
 exact ⟨v,B,s,A,m,y,ZOC o p hl,ZOC o n hl,fun a ha=>⟨(i a ha).1,f _ (i a ha).2⟩,fun a ha=>⟨(j a ha).1,f _ (j a ha).2⟩,fun b d=>by simpa using z b d⟩
theorem ZGj{w6:World}{R:Nat}(a b c e:Value){c0:Array Value}{x0 x1 x2 y0:Value}(hc0:c0=#[x0,x1,x2])(h1:w6.heap[R]?=some (.cells c0 105 (0,0)))(h2:w6.heap[R+1]?=some (.cells #[y0] 4 (0,0))) :
  ∃Ws,Ws=(((w6.setCell ⟨R,0,none⟩ a).setCell ⟨R,1,none⟩ b).setCell ⟨R,2,none⟩ c).setCell ⟨R+1,0,none⟩ e∧Ws.heap[R]?=some (.cells #[a,b,c] 105 (0,0))∧Ws.heap[R+1]?=some (.cells #[e] 4 (0,0))∧(∀k,k≠R→k≠R+1→Ws.heap[k]?=w6.heap[k]?)∧Ws.heap.size=w6.heap.size∧Ws.os=w6.os∧Ws.tape=w6.tape∧Ws.output=w6.output:=by
 subst hc0
 have g:(w6.setCell ⟨R,0,none⟩ a).heap[R]?=some (.cells #[a,x1,x2] 105 (0,0)):=by simp [World.setCell,Array.getElem?_modify,h1]
 have i:((w6.setCell ⟨R,0,none⟩ a).setCell ⟨R,1,none⟩ b).heap[R]?=some (.cells #[a,b,x2] 105 (0,0)):=by rw [World.setCell]; simp [Array.getElem?_modify,g]
 have d:(((w6.setCell ⟨R,0,none⟩ a).setCell ⟨R,1,none⟩ b).setCell ⟨R,2,none⟩ c).heap[R]?=some (.cells #[a,b,c] 105 (0,0)):=by rw [World.setCell]; simp [Array.getElem?_modify,i]
 have f:(((w6.setCell ⟨R,0,none⟩ a).setCell ⟨R,1,none⟩ b).setCell ⟨R,2,none⟩ c).heap[R+1]?=some (.cells #[y0] 4 (0,0)):=by
  rw [Below.heap_setCell _ _ _ _ (by simp),Below.heap_setCell _ _ _ _ (by simp),Below.heap_setCell _ _ _ _ (by simp)]; exact h2
 refine ⟨_,rfl,?_,?_,fun k h3 h4=>?_,by simp [World.setCell],rfl,rfl,rfl⟩
 ·rw [Below.heap_setCell _ _ _ _ (by simp)]; exact d
 ·rw [World.setCell]; simp [Array.getElem?_modify,f]
 ·rw [Below.heap_setCell _ _ _ _ h4,Below.heap_setCell _ _ _ _ h3,Below.heap_setCell _ _ _ _ h3,Below.heap_setCell _ _ _ _ h3]
theorem ZHl(rows:List (List Int))(d:Nat)(v:Value)(w:World)(hv:Mat w.heap.size 22 3 w v rows)(hr:∀r∈rows,r.length=d+1∧∀z∈r,z.natAbs≤60)(hd:d≤3)(hrl:rows.length≤1000) :
  Calls Tryz.prog 79 #[v,.int .i64 d] w fun e w'=>∃tv,e=.returned (.tuple #[tv,.bool (!(ZAZ rows (ZBx d)).isEmpty)])∧ZRY rows d w' tv∧Below w.heap.size w w':=by
 obtain ⟨ro,rc,bi,bz,bv⟩:=ZAE hv;subst bi
 have aJ:=run_make_row' (P:=Tryz.prog) 22 3 (.int .i64 0) 8 Tryz.underlying22 Tryz.info3 rfl .i64 .i64 (d+1) (by omega) (by omega)
 have HV:Hid (Mat w.heap.size 22 3 w (.slice ro rows.length rc) rows):=hv;have HR:=hid hr
 have bp:(d:Int) < ((d+1:Nat):Int):=by omega
 have bt:(0:Int)≤(d:Int):=by omega
 have aY:(((d+1:Nat):Int))=(d:Int)+1:=by omega
 have bl:(madeCells #[.int .i64 0] (d+1))[d]?=some (.int .i64 0):=by
  rw [←Array.getElem?_toList,toList_madeCells_one]; simp
 rw [aY] at aJ bp;clear hv hr aY;refine callsIn_wide (n:=0).1 ?_;refine callsIn_of_wp_marks Tryz.func79 rfl trivial ?_ rfl;simp only [Tryz.ntmps79,List.size_toArray,List.length_cons,List.length_nil,Nat.reduceAdd,Nat.reduceSub,Array.replicate_succ,Array.replicate_zero,List.push_toArray,List.append_toArray,List.nil_append,List.cons_append]
 gi_wp2_with (refine ⟨trivial,rfl,?_⟩; gi_at_call 103; refine (callsIn_wide.2 (ZEZ _ _ _ _ _ _ _ _ _ rfl rfl)).mono ?_; rintro e w' ⟨rfl,rfl⟩)
 obtain ⟨Y,aS,n1,n2,n3,n4,n5,aK,aa⟩:=ZQ9 w (.cells #[.slice none 0 0,.slice none 0 0,.int .i64 0] 105) (.cells #[.bool false] 4) (.cells ((madeCells #[.int .i64 0] (d+1)).setIfInBounds d (.int .i64 (-1))) 3) (.cells #[.slice ro rows.length rc] 25) (.cells #[.slice (some ⟨w.heap.size+1+1,0,none⟩) (d+1) (d+1)] 22);rw [←aS];clear aS
 have ah:Y.rowIs (w.heap.size+1+1) 3 (d+1) (fun j=>if j=d then .int .i64 (-1) else .int .i64 0):=by
  refine ⟨_,n3,?_,fun i B=>?_⟩
  ·simp only [Array.size_setIfInBounds]
   rw [←Array.length_toList,toList_madeCells_one]; simp
  ·rw [Array.getElem?_setIfInBounds]
   by_cases e:d=i
   ·subst e
    have hz:d < (madeCells #[.int .i64 0] (d+1)).size:=by rw [←Array.length_toList,toList_madeCells_one]; simp
    simp [hz]
   ·rw [if_neg e,←Array.getElem?_toList,toList_madeCells_one]
    simp [B,show ¬i=d from fun h=>e h.symm]
 have aM:Sl 0 3 Y (.slice (some ⟨w.heap.size+1+1,0,none⟩) (d+1) (d+1)) (ZAB (ZBx d)):=by
  refine Sl.row' ah (by unfold maxLen; omega) (by simp [ZBx]) (fun i B=>?_)
  rw [ZAa _ _ (by rw [ZBL]; exact B)]
  by_cases e:i=d
  ·subst e; simp [ZBx]
  ·simp [ZBx,B,e]
 have aH:ZPt Tryz.prog 130 #[.pointer (some ⟨w.heap.size+1+1+1+1,0,none⟩),.pointer (some ⟨w.heap.size+1+1+1,0,none⟩)] (ZDp rows (ZBx d)) (ZAZ rows (ZBx d)) (fun b=>b < w.heap.size∨b=w.heap.size+1+1) (fun b=>b=w.heap.size+1+1+1+1∨b=w.heap.size+1+1+1) Y:=
  ZFt w.heap.size _ _ rows (ZBx d) ro (some ⟨w.heap.size+1+1,0,none⟩) rc (d+1) _ Y (by rw [ZBL]; exact ZAe n5) (ZAe n4)
   (fun W hk=>ZM4 HV.out (fun b A=>(hk.block b (by omega) (.inl A)).trans (aa.block b A)))
   (fun W hk=>by rw [ZBL]; exact (ZBr aM (fun a ha _=>by cases ha; exact hk.block _ (by show w.heap.size+1+1 < _; omega) (.inr rfl))).more (Za5 _))
   (fun b A=>by omega) (fun r hr=>⟨by rw [ZBL,(HR.out r hr).1]; exact Za4 _,(HR.out r hr).2⟩) (fun z hz=>by
    simp only [ZBx,List.mem_map] at hz;obtain ⟨j,_,rfl⟩:=hz
    split <;> decide) (by rw [ZBL]; omega) (by rw [ZBL]; omega) hrl
 have E:=hid aK
 have aZ:Hid (RfI w Y (fun b=>b=w.heap.size+1+1+1+1∨b=w.heap.size+1+1+1) Y):=⟨fun b A=>by omega,Kpt.refl _ _,aa.os,aa.tape,aa.output⟩
 have an:Hid (Y.heap[w.heap.size]?=some (.cells #[.slice none 0 0,.slice none 0 0,.int .i64 0] 105 (0,0))∧Y.heap[w.heap.size+1]?=some (.cells #[.bool false] 4 (0,0))):=⟨n1,n2⟩;have aR:=hid aa;clear n1 n2 n3 n4 n5 ah aM aa bl aJ
 refine ZDX (R:=ZDp rows (ZBx d)) (cs:=ZAZ rows (ZBx d)) (T:=fun b=>b < w.heap.size∨b=w.heap.size+1+1) (S0:=fun b=>b=w.heap.size+1+1+1+1∨b=w.heap.size+1+1+1) (gf:=130) (lb:=#[.pointer (some ⟨w.heap.size+1+1+1+1,0,none⟩),.pointer (some ⟨w.heap.size+1+1+1,0,none⟩)]) rfl (enters_of Tryz.func130 (by kernel_rfl) rfl) aH (fun b A=>by omega)
  (fun f S x vs ⟨_,_,_,_,g,_⟩=>by rw [g]; rfl) (ZCv _ _) (ZEa _ _)
  (fun S J f=>J=[]∧RfI w Y S f)
  (fun c S J f=>c=.ret∧∃x O po Q pc,J=[x]∧RfX w rows (ZBx d) S x O po Q pc f)
  (fun S S' J f W'' h hc hs=>⟨h.1,h.2.stab (by have:=E.out; omega) hc hs⟩) (fun c S S' J f W'' ⟨g,x,O,po,Q,pc,G,U⟩ hc hs=>⟨g,x,O,po,Q,pc,G,U.stab hc hs⟩) ⟨rfl,aZ.out⟩
  (fun vs a' f=>∃p q u bx,vs=#[.agg #[p,q,u]]∧f.heap[bx]?=some (.cells #[p,q,u] 105 (0,0))∧a' = { tmps:=#[.slice ro rows.length rc,.int .i64 d,undef,undef,.pointer (some ⟨w.heap.size,0,none⟩),.pointer (some ⟨w.heap.size+1,0,none⟩),.slice (some ⟨w.heap.size+1+1,0,none⟩) (d+1) (d+1),.pointer (some ⟨bx,0,none⟩),.int .i64 d,.int .i64 ((d:Int)+1),.slice (some ⟨w.heap.size+1+1,0,none⟩) (d+1) (d+1),.slice (some ⟨w.heap.size+1+1,0,none⟩) (d+1) (d+1),.int .i64 d,.pointer (some ⟨w.heap.size+1+1,d,none⟩),.slice ro rows.length rc,.slice (some ⟨w.heap.size+1+1,0,none⟩) (d+1) (d+1),.func (.func 130) #[] #[.pointer (some ⟨w.heap.size+1+1+1+1,0,none⟩),.pointer (some ⟨w.heap.size+1+1+1,0,none⟩)],.agg #[p,q,u],undef,undef,undef,undef,undef,undef,undef],defers:=[] })
  ?hax ?assign ?body ?tl ?done ?stop
 case hax=>
  rintro vs a' f l r o ⟨p,q,u,bx,g,G,U⟩ hl
  exact ⟨p,q,u,bx,g,(World.putObj_heap_other (fun e=>by subst e; rw [hl] at G; cases G)).trans G,U⟩
 case tl=>rintro (h | h) <;> omega
 case assign=>
  rintro S x vs f K ⟨O,Q,mo,mc,rfl,G,U⟩ hK
  gi_wp2
  exact hK _ _ (ZAG _ _) ⟨_,_,_,f.heap.size,rfl,ZAM _ _,rfl⟩
 case body=>
  rintro S J x vs a' y ⟨rfl,B⟩ aW bw bq D am V ⟨S1,⟨O,Q,mo,mc,aT,ak,aP,aA,aN,bj,az⟩,aC⟩ ⟨p,q,u,bx,af,ae,rfl⟩;rw [aT] at af;simp only [Array.mk.injEq,List.cons.injEq,Value.agg.injEq,and_true] at af;obtain ⟨rfl,rfl,rfl⟩:=af
  have ag:x∈ZAZ rows (ZBx d):=V.subset (by simp)
  obtain ⟨L,hL⟩:∃L,L=(ZAv (ZBx d) (pks rows [] x)).take x.length:=⟨_,rfl⟩
  have aE:(pks rows [] x).length=x.length:=by simp [pks]
  have bC:x.length≤4:=by
   simp only [ZAZ,ZAw,List.mem_flatMap,List.mem_range,List.mem_filter] at ag;obtain ⟨m,hm,aD,_⟩:=ag;have g:=(ZBi aD).1;rw [ZBL] at hm;omega
  have ai:∀t,t < x.length→0≤x.getD t 0∧x.getD t 0 < rows.length:=by
   simp only [ZAZ,ZAw,List.mem_flatMap,List.mem_range,List.mem_filter] at ag;obtain ⟨m,hm,aD,_⟩:=ag;obtain ⟨g,G,_⟩:=ZBi aD;intro t s
   have:=G t (by omega)
   exact ⟨by omega,this.2⟩
  have aX:Mx (x.length+1) 60 (ZA4 (ZBx d) (pks rows [] x)):=by
   rw [←aE]
   refine ZHf (fun r hr z hz=>?_) (fun z hz=>?_) (by omega)
   ·simp only [pks,List.mem_map] at hr
    obtain ⟨i,bk,rfl⟩:=hr;obtain ⟨t,s,rfl⟩:=List.getElem_of_mem bk;have g:=ai t s;rw [Za2,Za9 s] at g;simp only [Option.getD_some] at g
    exact (HR.out _ (by rw [Za2,Za9 (by omega)]; exact List.getElem_mem _)).2 z hz
   ·simp only [ZBx,List.mem_map] at hz
    obtain ⟨j,_,rfl⟩:=hz
    split <;> decide
  have aO:L.length=x.length:=by
   have A:ZAp ((pks rows [] x).length+1) (ZA4 (ZBx d) (pks rows [] x))=true:=by
    unfold ZBP at ak;rw [Bool.and_eq_true] at ak;exact ak.1
   have:=ZAx A;rw [hL];simp only [ZAv,List.length_take,this];omega
  have aU:∀z∈L,z.natAbs≤4611686018427387904:=fun z hz=>by
   rw [hL] at hz;have g:=Zaa7 hz;unfold ZAv at g;rw [aE] at g;have:=ZCN aX z g;omega
  rw [←hL] at aA;have aV:=(Zaa3.1 ae).1
  have r1:y.heap[w.heap.size]?=some (.cells #[.slice none 0 0,.slice none 0 0,.int .i64 0] 105 (0,0)):=(B.kp.block _ (by have:=E.out; omega) (by omega)).trans an.out.1
  have r2:y.heap[w.heap.size+1]?=some (.cells #[.bool false] 4 (0,0)):=(B.kp.block _ (by have:=E.out; omega) (by omega)).trans an.out.2
  have X:∀b,b < w.heap.size+3→y.heap[b]?=Y.heap[b]?:=fun b A=>B.kp.block b (by have:=E.out; omega) A
  have bu:w.heap.size+3≤y.heap.size:=by have:=B.kp.size; have:=E.out; omega
  have aL:Hid (Calls Tryz.prog 104 #[.slice mo x.length mc] y.drew fun e w'=>∃M N,e=.returned (.slice M x.length N)∧w'.ownsRow y.heap.size 3 1 (.slice M x.length N) x.length (ZAB (Lin.low L))∧Below y.heap.size y.drew w'∧
    w'.cell? ⟨bx,0,none⟩=some (.slice O x.length Q)∧w'.cell? ⟨w.heap.size,0,none⟩=some (.slice none 0 0)∧w'.cell? ⟨w.heap.size,1,none⟩=some (.slice none 0 0)∧w'.cell? ⟨w.heap.size,2,none⟩=some (.int .i64 0)∧w'.cell? ⟨w.heap.size+1,0,none⟩=some (.bool false)∧
    w'.frozen? ⟨w.heap.size,0,none⟩=false∧w'.frozen? ⟨w.heap.size,1,none⟩=false∧w'.frozen? ⟨w.heap.size,2,none⟩=false∧w'.frozen? ⟨w.heap.size+1,0,none⟩=false):=by
   have h:=ZB3 0 L (.slice mo x.length mc) y.drew aA (by omega) aU
   refine h.mono ?_;rintro e w' ⟨u',rfl,g,G⟩;rw [aO] at g;obtain ⟨M,N,rfl⟩:=ZAD g;have q0:w'.heap[bx]?=_:=(G.block _ aV).trans ae
   have q1:w'.heap[w.heap.size]?=_:=(G.block _ (by show _ < y.heap.size; omega)).trans r1
   have q2:w'.heap[w.heap.size+1]?=_:=(G.block _ (by show _ < y.heap.size; omega)).trans r2
   exact ⟨M,N,rfl,g,G,by simp [World.cell?,q0],by simp [World.cell?,q1],by simp [World.cell?,q1],by simp [World.cell?,q1],by simp [World.cell?,q2],by simp [World.frozen?,q1],by simp [World.frozen?,q1],by simp [World.frozen?,q1],by simp [World.frozen?,q2]⟩
  have b0:y.cell? ⟨bx,0,none⟩=some (.slice O x.length Q):=by simp [World.cell?,ae]
  have b1:y.cell? ⟨bx,1,none⟩=some (.slice mo x.length mc):=by simp [World.cell?,ae]
  have ar:Hid (∀M N w6,w6.ownsRow y.heap.size 3 1 (.slice M x.length N) x.length (ZAB (Lin.low L))∧Below y.heap.size y.drew w6→
    Kpt (fun b=>S b∨b < w.heap.size∨b=w.heap.size+1+1) y ((((w6.setCell ⟨w.heap.size,0,none⟩ (.slice O x.length Q)).setCell ⟨w.heap.size,1,none⟩ (.slice M x.length N)).setCell ⟨w.heap.size,2,none⟩ (.int .i64 1)).setCell ⟨w.heap.size+1,0,none⟩ (.bool true))∧
    RfX w rows (ZBx d) S x O M Q N ((((w6.setCell ⟨w.heap.size,0,none⟩ (.slice O x.length Q)).setCell ⟨w.heap.size,1,none⟩ (.slice M x.length N)).setCell ⟨w.heap.size,2,none⟩ (.int .i64 1)).setCell ⟨w.heap.size+1,0,none⟩ (.bool true))):=by
   rintro M N w6 ⟨ho,A⟩
   have F:∀k,k < y.heap.size→w6.heap[k]?=y.heap[k]?:=fun k hk=>A.block k hk
   have bB:y.heap.size≤w6.heap.size:=A.size
   obtain ⟨Ws,aq,f1,f2,f3,f4,f5,f6,f7⟩:=ZGj (w6:=w6) (R:=w.heap.size) (.slice O x.length Q) (.slice M x.length N) (.int .i64 1) (.bool true) rfl ((F _ (by omega)).trans r1) ((F _ (by omega)).trans r2)
   rw [←aq];clear aq
   have aG:∀b,S b→b < y.heap.size:=fun b hb'=>by
    rcases (aC b).1 hb' with h | h | h
    ·exact az b h
    ·omega
    ·omega
   have ty:∀{v:Value} {xs:List Value},Sl 0 3 w6 v xs→Sl 0 3 Ws v xs:=fun h=>h.move fun k hl s=>⟨f3 k (fun e=>by
     subst e
     rcases s with s | ⟨c,s⟩
     ·omega
     ·rw [F _ (by omega),r1] at s; simp at s) (fun e=>by
     subst e
     rcases s with s | ⟨c,s⟩
     ·omega
     ·rw [F _ (by omega),r2] at s; simp at s),s⟩
   refine ⟨⟨by omega,fun k hk hs=>?_⟩,B.sn,by omega,by rw [f5]; exact A.os.trans B.os,by rw [f6]; exact A.tape.trans B.tape,by rw [f7]; exact A.output.trans B.output,fun k hk=>?_,f1,f2,ty (ZHk aP (fun k hk=>F k hk)),by rw [←hL]; exact ty (Sl.own ho),fun a ha=>?_,fun a ha=>?_⟩
   ·have aI:k≠w.heap.size∧k≠w.heap.size+1:=by
     rcases hs with hs | hs | hs
     ·have:=B.sn k hs; omega
     ·omega
     ·omega
    exact (f3 k aI.1 aI.2).trans (F k hk)
   ·exact (f3 k (by omega) (by omega)).trans ((F k (by omega)).trans ((X k (by omega)).trans (aR.out.block k hk)))
   ·obtain ⟨g,G⟩:=aN a ha
    obtain ⟨bh,t,U⟩:=G;have bg:=(Zaa3.1 U).1
    refine ⟨fun hx=>?_,?_⟩
    ·rcases (aC _).1 hx with h | h | h
     ·exact g h
     ·rw [h] at U; rw [D] at U; cases U
     ·obtain ⟨r,am⟩:=am; rw [h] at U; rw [am] at U; cases U
    ·by_cases e1:a.block=w.heap.size
     ·exact ⟨_,_,by rw [e1]; exact f1⟩
     ·by_cases e2:a.block=w.heap.size+1
      ·exact ⟨_,_,by rw [e2]; exact f2⟩
      ·exact ⟨bh,t,(f3 _ e1 e2).trans ((F _ bg).trans U)⟩
   ·rcases ho.2 with ⟨g,_⟩ | ⟨g',cap',cur',g,G,U,_⟩
    ·simp only [Za3] at g; rw [g.1] at ha; cases ha
    ·simp only [Za3] at g
     rw [g.1] at ha
     cases ha
     refine ⟨fun hx=>?_,cur',_,(f3 g' (by omega) (by omega)).trans U⟩
     have:=aG g' hx;omega
  clear B aP aA aN bj az aC D am V ak ag ai aX aU aO r1 r2 X aT ae hL aE HV HR
  gi_wp2
  gi_region_with (refine ⟨trivial,rfl,?_⟩; gi_at_call 104; refine (CallsIn.inRound _ (callsIn_wide.2 aL.out)).mono ?_; rintro e w6 ⟨M,N,rfl,ay,aQ,z0,z1,z2,z3,z4,z5,z6,z7,z8⟩; have HU:Hid (w6.ownsRow y.heap.size 3 1 (.slice M x.length N) x.length (ZAB (Lin.low L))∧Below y.heap.size y.drew w6):=⟨ay,aQ⟩; clear ay aQ)
  all_goals
   have HF:=ar.out M N w6 HU.out;clear z0 z1 z2 z3 z4 z5 z6 z7 z8 aL ar b0 b1
   gi_wp2
   exact ⟨HF.1,rfl,x,O,M,Q,N,rfl,HF.2⟩
 case done=>
  rintro S f ⟨au,B⟩ aW D;have aB:=E.out;have aF:=B.kp.size
  have r1:f.heap[w.heap.size]?=some (.cells #[.slice none 0 0,.slice none 0 0,.int .i64 0] 105 (0,0)):=(B.kp.block _ (by omega) (by omega)).trans an.out.1
  have r2:f.heap[w.heap.size+1]?=some (.cells #[.bool false] 4 (0,0)):=(B.kp.block _ (by omega) (by omega)).trans an.out.2
  have k0:f.cell? ⟨w.heap.size,0,none⟩=some (.slice none 0 0):=by simp [World.cell?,r1]
  have k1:f.cell? ⟨w.heap.size,1,none⟩=some (.slice none 0 0):=by simp [World.cell?,r1]
  have k2:f.cell? ⟨w.heap.size,2,none⟩=some (.int .i64 0):=by simp [World.cell?,r1]
  have k3:f.cell? ⟨w.heap.size+1,0,none⟩=some (.bool false):=by simp [World.cell?,r2]
  have f0:f.frozen? ⟨w.heap.size,0,none⟩=false:=by simp [World.frozen?,r1]
  have f1:f.frozen? ⟨w.heap.size,1,none⟩=false:=by simp [World.frozen?,r1]
  have f2:f.frozen? ⟨w.heap.size,2,none⟩=false:=by simp [World.frozen?,r1]
  have f3:f.frozen? ⟨w.heap.size+1,0,none⟩=false:=by simp [World.frozen?,r2]
  have HF:Hid (∃Ws,Ws=(((f.setCell ⟨w.heap.size,0,none⟩ (.slice none 0 0)).setCell ⟨w.heap.size,1,none⟩ (.slice none 0 0)).setCell ⟨w.heap.size,2,none⟩ (.int .i64 0)).setCell ⟨w.heap.size+1,0,none⟩ (.bool false)∧Ws.heap[w.heap.size]?=some (.cells #[.slice none 0 0,.slice none 0 0,.int .i64 0] 105 (0,0))∧Ws.heap[w.heap.size+1]?=some (.cells #[.bool false] 4 (0,0))∧(∀k,k≠w.heap.size→k≠w.heap.size+1→Ws.heap[k]?=f.heap[k]?)∧Ws.heap.size=f.heap.size∧Ws.os=f.os∧Ws.tape=f.tape∧Ws.output=f.output):=ZGj _ _ _ _ rfl r1 r2
  have HI:=hid B;have aj:=hid D;have aw:Hid (ZAZ rows (ZBx d)=[]):=au.symm ▸ rfl;clear B D au r1 r2 aK aF aB aH
  gi_wp2
  obtain ⟨Ws,aq,g1,g2,g3,g4,g5,g6,g7⟩:=HF.out;rw [←aq];have aB:=E.out;have aF:=HI.out.kp.size
  have X:∀b,b < w.heap.size→f.heap[b]?=w.heap[b]?:=fun b A=>(HI.out.kp.block b (by omega) (by omega)).trans (aR.out.block b A)
  refine ZAq [Y.heap.size] Ws (by simp) (fun r hr=>?_) (fun w' hc=>⟨.tuple #[.agg #[.slice none 0 0,.slice none 0 0,.int .i64 0],.bool false],?_,?_⟩)
  ·simp only [List.mem_singleton] at hr
   subst hr
   exact (g3 _ (by omega) (by omega)).trans aj.out
  ·have q1:w'.heap[w.heap.size]?=_:=(hc.block _ (by omega) (by simp; omega)).trans g1
   have q2:w'.heap[w.heap.size+1]?=_:=(hc.block _ (by omega) (by simp; omega)).trans g2
   simp [results,Tryz.results79,go_sem,World.cell?,q1,q2]
  ·refine ⟨_,by rw [aw.out]; rfl,.inl ⟨aw.out,rfl⟩,hc.os.trans (g5.trans HI.out.os),hc.tape.trans (g6.trans HI.out.tape),hc.output.trans (g7.trans HI.out.output),by have:=hc.size; omega,fun b A=>?_⟩
   exact (hc.block b (by omega) (by simp; omega)).trans ((g3 b (by omega) (by omega)).trans (X b A))
 case stop=>
  rintro c S J f V ⟨rfl,x,O,po,Q,pc,rfl,hx⟩ aW D;have aB:=E.out;have aF:=hx.sz;have bA:=(Zaa3.1 D).1;obtain ⟨t,s⟩:=V;have HT:Hid (ZAZ rows (ZBx d)=x :: t):=s.symm;have HX:=hid hx;have aj:=hid D;clear hx D s aH
  gi_wp2
  have ty:∀(w':World),Chg (fun b=>b∈[Y.heap.size]) f w'→∀{v:Value} {xs:List Value},Sl 0 3 f v xs→Sl 0 3 w' v xs:=fun w' hc v xs h=>h.move fun k hl s=>⟨hc.block k hl (fun e=>by
     simp only [List.mem_singleton] at e;subst e
     rcases s with s | ⟨c,s⟩
     ·omega
     ·rw [aj.out] at s; cases s),s⟩
  refine ZAq [Y.heap.size] f (by simp) (fun r hr=>?_) (fun w' hc=>⟨.tuple #[.agg #[.slice O x.length Q,.slice po x.length pc,.int .i64 1],.bool true],?_,?_⟩)
  ·simp only [List.mem_singleton] at hr
   subst hr;exact aj.out
  ·have q1:w'.heap[w.heap.size]?=_:=(hc.block _ (by omega) (by simp; omega)).trans HX.out.tk
   have q2:w'.heap[w.heap.size+1]?=_:=(hc.block _ (by omega) (by simp; omega)).trans HX.out.ok
   simp [results,Tryz.results79,go_sem,World.cell?,q1,q2]
  ·refine ⟨_,by rw [HT.out]; rfl,.inr ⟨x,t,O,Q,po,pc,HT.out,rfl,ty w' hc HX.out.cs,ty w' hc HX.out.ps⟩,hc.os.trans HX.out.os,hc.tape.trans HX.out.tape,hc.output.trans HX.out.output,by have:=hc.size; omega,fun b A=>?_⟩
   exact (hc.block b (by omega) (by simp; omega)).trans (HX.out.block b A)
end Go.Proofs.YtgfnmkenpgnllaaGreat
