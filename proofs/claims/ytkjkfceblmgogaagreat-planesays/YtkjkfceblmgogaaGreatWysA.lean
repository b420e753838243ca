import Derived.Test.YtkjkfceblmgogaaGreatAcA
set_option maxRecDepth 100000
set_option maxHeartbeats 8000000
namespace Go.Proofs.YtkjkfceblmgogaaGreat
open Go.RowKit Go.Shelf
attribute [local go_sem] Oper.semAt_some
def ZAx(rows:List (List Int))(g:List Int)(k:Nat):List (List Int):=
 (List.range k).flatMap fun m=>(ext rows.length m 0).filter fun c=>ZBN g (pks rows [] c)
def ZAY(rows:List (List Int))(g:List Int):List (List Int):=ZAx rows g (min g.length rows.length+1)
theorem ZBd(rows:List (List Int))(g:List Int)(k:Nat):ZAx rows g (k+1)=ZAx rows g k ++ (ext rows.length k 0).filter fun c=>ZBN g (pks rows [] c):=by
 simp [ZAx,List.range_succ]
theorem ZFU(rows : List (List Int))(g : List Int){k m : Nat}(h : k ≤ m) : ZAx rows g k <+: ZAx rows g m := by
  induction m with
  | zero => have : k = 0 := by omega
            subst this; exact List.prefix_refl _
  | succ m ih =>
    by_cases e : k = m + 1
    · subst e; exact List.prefix_refl _
    · exact (ih (by omega)).trans (by rw [ZBd]; exact List.prefix_append _ _)
theorem ZFV{α:Type}{p:α→Bool}{a b:List α}(h:a <+: b):a.filter p <+: b.filter p:=by
 obtain ⟨t,rfl⟩:=h;rw [List.filter_append];exact List.prefix_append _ _
def ZDY(rows:List (List Int))(g:List Int)(W:World)(S:Nat→Prop)(c:List Int)(vs:Array Value):Prop:=
 ∃co cc mo mc,vs=#[.agg #[.slice co c.length cc,.slice mo c.length mc,.int .i64 ((ZAw g (pks rows [] c)).getD c.length 0)]]∧ZBN g (pks rows [] c)=true∧Sl 0 3 W (.slice co c.length cc) (ZAB c)∧Sl 0 3 W (.slice mo c.length mc) (ZAB ((ZAw g (pks rows [] c)).take c.length))∧
  (∀a,co=some a→¬S a.block∧isC W a.block)∧(∀a,mo=some a→¬S a.block∧isC W a.block)∧∀b,S b→b < W.heap.size
structure WyK(rows:List (List Int))(g:List Int)(T:Nat→Prop)(gb rb D0:Nat)(W0:World)(J:(Nat→Prop)→List (List Int)→World→Prop)(k:Nat)(rs:List Nat)(wr:World):Prop where
 nd:rs.Nodup
 mark:∀r∈rs,wr.heap[r]?=some (.deferred (some []))
 kp:Kpt (fun b=>b=gb∨b=rb∨b=D0∨T b) W0 wr
 j:J (fun b=>b=gb∨b=rb∨b=D0∨b∈rs) (ZAx rows g k) wr
structure WyI(rows:List (List Int))(g:List Int)(T:Nat→Prop)(gb rb D0:Nat)(WN:World)(J:(Nat→Prop)→List (List Int)→World→Prop)(rs:List Nat)(N:Nat)(S:Nat→Prop)(q:List (List Int))(W:World):Prop where
 sn:∀b,S b→N≤b
 kp:Kpt (fun b=>b < N∧(b=gb∨b=rb∨b=D0∨T b∨b∈rs)) WN W
 j:J (fun b=>S b∨b=gb∨b=rb∨b=D0∨b∈rs) q W
 sz:N≤W.heap.size
theorem WyI.stab{rows:List (List Int)}{g:List Int}{T:Nat→Prop}{gb rb D0:Nat}{WN:World}{J:(Nat→Prop)→List (List Int)→World→Prop}{rs:List Nat}{N:Nat}{S S':Nat→Prop}{q:List (List Int)}{W W':World}(hst:ZFs J)
 (h:WyI rows g T gb rb D0 WN J rs N S q W)(hc:Chg S W W')(hs:∀b,S' b→S b∨W.heap.size≤b):WyI rows g T gb rb D0 WN J rs N S' q W':=by
 have a:=h.sz
 refine ⟨fun b hb=>?_,h.kp.trans (Kpt.of_chg hc fun i _ hi hsi=>?_),hst _ _ q W W' h.j (hc.mono fun i _ hi=>.inl hi) (fun b hb=>?_),Zaa8 a hc.size⟩
 ·rcases hs b hb with h1 | h1
  ·exact h.sn b h1
  ·omega
 ·have:=h.sn i hsi
  have:=hi.1;omega
 ·rcases hb with hb | hb
  ·rcases hs b hb with h1 | h1
   ·exact .inl (.inl h1)
   ·exact .inr h1
  ·exact .inl (.inr hb)
theorem ZFW(N0:Nat)(W:World)(S:Nat→Prop)(x:List Int)(vs:Array Value)(W':World)(h:ZJe N0 W S x vs)(hb:Below W.heap.size W W'):ZJe N0 W' S x vs:=by
 obtain ⟨v,a,b,f,g,d,c⟩:=h;exact ⟨v,a,b,ZAQ f hb (Za4 _),g,d,Zaa8 c hb.size⟩
theorem ZIw(N0:Nat)(W:World)(S:Nat→Prop)(x:List Int)(vs:Array Value)(l:Nat)(r:Loop)(o:Obj)(h:ZJe N0 W S x vs)(hl:W.heap[l]?=some (.loop r)):ZJe N0 (W.putObj l o) S x vs:=by
 obtain ⟨v,a,b,f,g,d,c⟩:=h
 exact ⟨v,a,b,ownsRow_putObj f _ hl rfl,g,d,by simpa using c⟩
theorem ZFz{W:World}{B0 n:Nat}{vo:Option Addr}{vc b:Nat}{xs:List Value}{o:Obj}(h:W.ownsRow B0 3 1 (.slice vo n vc) n xs)(hb:W.heap[b]?=some o)(ho:o.isCells=false):∀a,vo=some a→B0≤a.block∧a.block≠b∧isC W a.block:=by
 intro a c
 rcases h.2 with ⟨h1,_⟩ | ⟨g',cap',cur',h1,h2,h3,_⟩
 ·simp only [Za3] at h1; rw [h1.1] at c; cases c
 ·simp only [Za3] at h1
  rw [h1.1] at c
  cases c
  refine ⟨h2,fun e=>?_,_,_,h3⟩
  rw [←e,h3] at hb
  cases hb
  simp [Obj.isCells] at ho
theorem ZGr(B gb rb:Nat)(rows:List (List Int))(g:List Int)(ro go:Option Addr)(rc gc:Nat)(T:Nat→Prop)(w0:World)
 (hcg:w0.cell? ⟨gb,0,none⟩=some (.slice go g.length gc))(hcr:w0.cell? ⟨rb,0,none⟩=some (.slice ro rows.length rc))
 (hrows:∀W,Kpt T w0 W→Mat B 27 3 W (.slice ro rows.length rc) rows)(hgoal:∀W,Kpt T w0 W→Sl B 3 W (.slice go g.length gc) (ZAB g))(hT:∀b,T b→b < w0.heap.size)
 (hr:∀r∈rows,g.length≤r.length∧∀z∈r,z.natAbs≤60)(hg:∀z∈g,z.natAbs≤60)(hg1:1≤g.length)(hF:ZJ5 g.length rows g)(hrl:rows.length≤1000) :
  ZPF Tryz.prog 125 #[.pointer (some ⟨gb,0,none⟩),.pointer (some ⟨rb,0,none⟩)] (ZDY rows g) (ZAY rows g) T (fun b=>b=gb∨b=rb) w0:=by
 intro l J Jx W hW bp aX hY hJ;have bS:g.length≤5:=hF.le;have HF:=hid hF;have bF:=ZAn hcg;have aY:=ZAn hcr;have c1:W.cell? ⟨gb,0,none⟩=some (.slice go g.length gc):=(hW.cell (p:=⟨gb,0,none⟩) bF).trans hcg;have c2:W.cell? ⟨rb,0,none⟩=some (.slice ro rows.length rc):=(hW.cell (p:=⟨rb,0,none⟩) aY).trans hcr
 obtain ⟨G,aF⟩:∃G,G=W.alloc (.cells #[.func (.yield l) #[] #[]] 147):=⟨_,rfl⟩
 have aH:Below W.heap.size W G:=by rw [aF]; exact ZAG _ _
 have bP:G.heap.size=W.heap.size+1:=by rw [aF]; exact size_alloc _ _
 have aU:G.cell? ⟨gb,0,none⟩=some (.slice go g.length gc):=(aH.cell (p:=⟨gb,0,none⟩) (ZAn c1)).trans c1;have aW:G.cell? ⟨rb,0,none⟩=some (.slice ro rows.length rc):=(aH.cell (p:=⟨rb,0,none⟩) (ZAn c2)).trans c2
 have bw:G.cell? ⟨W.heap.size,0,none⟩=some (.func (.yield l) #[] #[]):=by rw [aF]; exact ZAc (ZAL _ _)
 have bE:=hW.size
 obtain ⟨A,bv⟩:∃A,A=W.heap.size:=⟨_,rfl⟩
 have N:Hid (gb < G.heap.size∧rb < G.heap.size∧A < G.heap.size∧∀b,T b→b < G.heap.size):=⟨by omega,by omega,by omega,fun b hb=>by have:=hT b hb; omega⟩
 have bK:Hid (∀n,Kpt T G n→Kpt T w0 n):=fun n hk=>⟨by have:=hk.size; omega,fun b hb ht=>(hk.block b (by omega) ht).trans ((aH.block b (by omega)).trans (hW.block b hb))⟩
 have bL:Hid (WyK rows g T gb rb A G J 0 [] G):=by
  refine ⟨List.nodup_nil,fun r hr=>absurd hr (by simp),Kpt.refl _ _,bp _ _ [] W G hJ (Chg.of_below aH (Za4 _)) (fun b hb=>?_)⟩
  rcases hb with h | h | h | h
  ·exact .inl (.inl h)
  ·exact .inl (.inr h)
  ·exact .inr (by omega)
  ·exact absurd h (by simp)
 have ai:Hid (G.cell? ⟨gb,0,none⟩=some (.slice go g.length gc)∧G.cell? ⟨rb,0,none⟩=some (.slice ro rows.length rc)∧G.cell? ⟨A,0,none⟩=some (.func (.yield l) #[] #[])):=⟨aU,aW,by rw [bv]; exact bw⟩
 have ae:=hid bp;have aV:=hid aX
 have HY:Hid (∀m S s x vs d,J S s d→(s ++ [x]) <+: ZAY rows g→ZDY rows g d S x vs→YieldAt Fence.wide m Tryz.prog l vs d fun e n=>Kpt (fun b=>S b∨T b) d n∧
   ((e=.returned (.bool true)∧J S (s ++ [x]) n)∨(e=.returned (.bool false)∧Jx S (s ++ [x]) n))):=hY
 have bJ:=hid hrows;have bI:=hid hgoal;have HR:=hid hr;have HG:=hid hg;have bG:=hid aF;have bM:=hid bv;rw [aF] at aU aW bw;clear bp aX hY hJ hrows hgoal hr hg hF aF aH bP hW hcg hcr bF aY hT bw bE bv c1 c2;refine callsIn_of_wp_marks Tryz.func125 rfl trivial ?_ rfl;simp only [Tryz.ntmps125,List.size_toArray,List.length_cons,List.length_nil,Nat.reduceAdd,Nat.reduceSub,Array.replicate_succ,Array.replicate_zero,List.push_toArray,List.append_toArray,List.nil_append,List.cons_append]
 gi_wp2
 case inr=>
  have Hg.length:Hid (g.length=min g.length rows.length):=by show _=_; omega
  have hg.length4:g.length≤5:=by omega
  clear aU aW;rw [←bG.out,←bM.out]
  refine wpIn_loop (fun a' wr=>∃(k:Nat) (F:List Nat) (u4 u15 u16 u17 u18 u19 u20 u36:Value),k≤g.length+1∧WyK rows g T gb rb A G J k F wr∧
   a' = { tmps:=#[.func (.yield l) #[] #[],.pointer (some ⟨gb,0,none⟩),.pointer (some ⟨rb,0,none⟩),.pointer (some ⟨A,0,none⟩),u4,undef,undef,undef,.slice go g.length gc,.int .i64 g.length,.slice ro rows.length rc,.int .i64 rows.length,.int .i64 g.length,.int .i64 ((g.length:Int)+1),.int .i64 k,u15,u16,u17,u18,u19,u20,undef,undef,undef,undef,undef,undef,undef,undef,undef,undef,undef,undef,undef,undef,undef,u36],defers:=mks F }) (fun a' _=>g.length+1-(intOf (a'.tmps.getD 14 undef)).toNat) ?_ ?_
  ·exact ⟨0,[],_,_,_,_,_,_,_,_,Za5 _,bL.out,rfl⟩
  rintro _ wr ⟨k,F,u4,u15,u16,u17,u18,u19,u20,u36,hk,aq,rfl⟩;have f:=hid aq;have d1:wr.cell? ⟨gb,0,none⟩=some (.slice go g.length gc):=(World.cell?_of_block (w:=G) (aq.kp.block gb N.out.1 (.inl rfl))).trans ai.out.1;have d2:wr.cell? ⟨rb,0,none⟩=some (.slice ro rows.length rc):=(World.cell?_of_block (w:=G) (aq.kp.block rb N.out.2.1 (.inr (.inl rfl)))).trans ai.out.2.1;clear aq
  by_cases hlt:k < g.length+1
  ·have bz:(k:Int) < (g.length:Int)+1:=by omega
   gi_wp2_with (refine ⟨trivial,rfl,?_⟩; gi_at_call 51; refine (callsIn_wide.2 (ZIp _ _ _)).mono ?_; rintro e Q ⟨rfl,rfl⟩)
   obtain ⟨D,aa⟩:∃D,D=(wr.alloc (.cells #[.int .i64 rows.length] 3)).alloc (.cells #[.int .i64 k] 3):=⟨_,rfl⟩
   rw [←aa]
   have an:Below wr.heap.size wr D:=by rw [aa]; exact ((Below.refl _ _).alloc (Za4 _) _).alloc (by simp) _
   have aS:D.heap.size=wr.heap.size+2:=by rw [aa]; simp
   have aI:D.cell? ⟨wr.heap.size,0,none⟩=some (.int .i64 rows.length):=by
    rw [aa]; exact ((ZAG (wr.alloc (.cells #[.int .i64 rows.length] 3)) _).cell (p:=⟨wr.heap.size,0,none⟩) (by simp)).trans (ZAc (ZAL wr _))
   have ah:D.cell? ⟨wr.heap.size+1,0,none⟩=some (.int .i64 k):=by
    rw [aa]; have:=ZAc (ZAL (wr.alloc (.cells #[.int .i64 rows.length] 3)) (.cells #[.int .i64 k] 3)); rwa [size_alloc] at this
   clear aa
   have bB:Hid (WyI rows g T gb rb A D J F wr.heap.size (fun b=>b=wr.heap.size+1∨b=wr.heap.size) (ZAx rows g k ++ ([]:List (List Int)).filter (fun c=>ZBN g (pks rows [] c))) D):=by
    refine ⟨fun b hb=>by omega,Kpt.refl _ _,?_,by omega⟩
    rw [List.filter_nil,List.append_nil]
    exact ae.out _ _ _ wr D f.out.j (Chg.of_below an (Za4 _)) (fun b hb=>hb.elim (fun h=>.inr (by omega)) .inl)
   have aJ:Hid (∀n,Kpt (fun b=>b < wr.heap.size∧(b=gb∨b=rb∨b=A∨T b∨b∈F)) D n→Kpt (fun b=>b=gb∨b=rb∨b=A∨T b) G n):=fun n hk'=>by
    have y:=f.out.kp.size;have L:=N.out
    refine ⟨by have:=hk'.size; omega,fun b hb hx=>?_⟩
    have aT:b < wr.heap.size:=by omega
    exact (hk'.block b (by omega) ⟨aT,by rcases hx with h | h | h | h <;> simp [h]⟩).trans ((an.block b aT).trans (f.out.kp.block b hb hx))
   have bq:=ZKj rows.length k (wr.heap.size+1) wr.heap.size D (by omega) (by omega) ah aI
   have aQ:=hid an;clear an aI ah d1 d2
   refine ZDW (R:=ZJe D.heap.size) (cs:=ext rows.length k 0) (T:=fun _=>False) (S0:=fun b=>b=wr.heap.size+1∨b=wr.heap.size) (gf:=81) (lb:=#[.pointer (some ⟨wr.heap.size+1,0,none⟩),.pointer (some ⟨wr.heap.size,0,none⟩)]) rfl (enters_of Tryz.func81 (by kernel_rfl) rfl) bq (fun b hb=>by omega)
    (fun n S x vs ⟨v,B0,y,_⟩=>by rw [y]; rfl) (ZFW _) (ZIw _)
    (fun S s n=>WyI rows g T gb rb A D J F wr.heap.size S (ZAx rows g k ++ s.filter (fun c=>ZBN g (pks rows [] c))) n)
    (fun c S s n=>c=.ret∧∃q,q <+: ZAY rows g∧WyI rows g T gb rb A D Jx F wr.heap.size S q n)
    (fun S S' s n W'' h hc hs=>h.stab ae.out hc hs) (fun c S S' s n W'' ⟨y,q,L,h3⟩ hc hs=>⟨y,q,L,h3.stab aV.out hc hs⟩) bB.out
    (fun vs a' n=>∃v,vs=#[v]∧a' = { tmps:=#[.func (.yield l) #[] #[],.pointer (some ⟨gb,0,none⟩),.pointer (some ⟨rb,0,none⟩),.pointer (some ⟨A,0,none⟩),.int .i64 k,v,undef,undef,.slice go g.length gc,.int .i64 g.length,.slice ro rows.length rc,.int .i64 rows.length,.int .i64 g.length,.int .i64 ((g.length:Int)+1),.int .i64 k,.bool true,.int .i64 k,.slice ro rows.length rc,.int .i64 rows.length,.int .i64 k,.func (.func 81) #[] #[.pointer (some ⟨wr.heap.size+1,0,none⟩),.pointer (some ⟨wr.heap.size,0,none⟩)],v,undef,undef,undef,undef,undef,undef,undef,undef,undef,undef,undef,undef,undef,undef,u36],defers:=[] })
    (fun vs a' n l r o h _=>h) ?assign ?body (fun h=>h) ?done ?stop
   case assign=>
    rintro S x vs n K ⟨v,B0,rfl,L,h3,h4⟩ hK
    gi_wp2
    exact hK _ _ (Below.refl _ _) ⟨v,rfl,rfl⟩
   case body=>
    rintro S s c vs a' d P am bQ bH X ar U ⟨S1,⟨v,B0,aK,E,aA,bk,bg⟩,az⟩ ⟨v',ag,rfl⟩
    have bD:v=v':=by rw [aK] at ag; simpa using ag
    subst bD
    have ah:c∈ext rows.length k 0:=U.subset (by simp)
    obtain ⟨aO,aG,_⟩:=ZBk ah;have af:=aJ.out d P.kp;have e1:d.cell? ⟨gb,0,none⟩=some (.slice go g.length gc):=(World.cell?_of_block (w:=G) (af.block gb N.out.1 (.inl rfl))).trans ai.out.1;have e2:d.cell? ⟨rb,0,none⟩=some (.slice ro rows.length rc):=(World.cell?_of_block (w:=G) (af.block rb N.out.2.1 (.inr (.inl rfl)))).trans ai.out.2.1;have e3:d.cell? ⟨A,0,none⟩=some (.func (.yield l) #[] #[]):=(World.cell?_of_block (w:=G) (af.block A N.out.2.2.1 (.inr (.inr (.inl rfl))))).trans ai.out.2.2
    have aw:Kpt T w0 d:=bK.out d (af.mono (fun i _ h=>.inr (.inr (.inr h))))
    obtain ⟨vo,vc,bj⟩:=ZAE E;subst bj;obtain ⟨lr,ar⟩:=ar
    have aB:Hid (∀a,vo=some a→¬(S a.block∨a.block=gb∨a.block=rb∨a.block=A∨a.block∈F)∧isC d a.block):=fun a ha=>by
     obtain ⟨y,L,h3⟩:=ZFz E X rfl a ha;obtain ⟨_,h4,_⟩:=ZFz E ar rfl a ha
     refine ⟨fun hx=>?_,h3⟩
     have hg:=N.out;have hz:=f.out.kp.size
     rcases hx with hx | hx | hx | hx | hx
     ·rcases (az _).1 hx with hx | hx | hx
      ·have:=aA _ hx; omega
      ·exact L hx
      ·exact h4 hx
     ·omega
     ·omega
     ·omega
     ·have:=(Zaa3.1 (f.out.mark _ hx)).1; omega
    have aR:Hid (∀b,(S b∨b=gb∨b=rb∨b=A∨b∈F)→b < d.heap.size):=fun b hx=>by
     have hg:=N.out;have hz:=f.out.kp.size;have bN:=P.sz
     rcases hx with hx | hx | hx | hx | hx
     ·rcases (az _).1 hx with hx | hx | hx
      ·have:=aA _ hx; omega
      ·omega
      ·omega
     ·omega
     ·omega
     ·omega
     ·have:=(Zaa3.1 (f.out.mark _ hx)).1; omega
    have bh:Hid (Sl 0 3 d (.slice vo c.length vc) (ZAB c)):=Sl.own E
    have aj:Hid (Calls Tryz.prog 126 #[.slice ro rows.length rc,.slice vo c.length vc,.slice go g.length gc] d fun e Q=>∃tv,e=.returned (.tuple #[tv,.bool (ZBN g (pks rows [] c))])∧ZRa d.heap.size Q tv (.slice vo c.length vc) c g (pks rows [] c)∧Below d.heap.size d Q):=
     ZFT B rows c g _ _ _ d (bJ.out d aw) (Sl.own E) (bI.out d aw) (fun t ht=>by have:=aG t (by omega); exact ⟨by omega,this.2⟩) HR.out HG.out hg1 (by omega) (HF.out.mono (by omega))
    have HI:=hid P;have aP:=hid U;have bt:Hid (A < d.heap.size):=ZAn e3;have bR:=hid aO;have bO:=hid aS;clear P U E aA bk bg az ah aG af aw X ar aK ag aO aS
    cases hwb:ZBN g (pks rows [] c) with
    | false=>
     have ak:Hid ((s ++ [c]).filter (fun c=>ZBN g (pks rows [] c))=s.filter (fun c=>ZBN g (pks rows [] c))):=by
      show _=_
      rw [List.filter_append]; simp [hwb]
     have bi:Hid (Calls Tryz.prog 126 #[.slice ro rows.length rc,.slice vo c.length vc,.slice go g.length gc] d fun e Q=>e=.returned (.tuple #[.agg #[.slice none 0 0,.slice none 0 0,.int .i64 0],.bool false])∧Below d.heap.size d Q):=by
      refine aj.out.mono ?_
      rintro e Q ⟨tv,rfl,y | y,L⟩
      ·rw [hwb] at y; exact absurd y.1 (by simp)
      ·rw [hwb,y.2]; exact ⟨rfl,L⟩
     clear hwb aj
     gi_wp2_with (refine ⟨trivial,rfl,?_⟩; gi_at_call 126; refine (CallsIn.inRound _ (callsIn_wide.2 bi.out)).mono ?_; rintro e Y ⟨rfl,aE⟩)
     have aN:Hid (Below d.heap.size d (Y.alloc (.cells #[.slice none 0 0,.slice none 0 0,.int .i64 0] 101))):=aE.alloc aE.size _;clear aE
     refine ⟨fun _ h=>(by cases h),?_⟩
     gi_wp2
     refine ⟨Kpt.of_below aN.out (Za4 _),?_⟩
     have au:=HI.out.stab ae.out (Chg.of_below aN.out (Za4 _)) (S':=S) (fun b hb=>.inl hb)
     rw [←ak.out] at au;exact au
    | true=>
     obtain ⟨q,hq⟩:∃q,q=ZAx rows g k ++ s.filter (fun c=>ZBN g (pks rows [] c)):=⟨_,rfl⟩
     have ak:Hid (ZAx rows g k ++ (s ++ [c]).filter (fun c=>ZBN g (pks rows [] c))=q ++ [c]):=by
      show _=_
      rw [List.filter_append,hq]; simp [hwb]
     have aM:Hid ((q ++ [c]) <+: ZAY rows g):=by
      rw [←ak.out]
      refine List.IsPrefix.trans ?_ ((ZFU rows g (show k+1≤g.length+1 by omega)).trans (by unfold ZAY; rw [←Hg.length.out]; exact List.prefix_refl _))
      rw [ZBd]
      obtain ⟨t,ht⟩:=ZFV (p:=fun c=>ZBN g (pks rows [] c)) aP.out
      exact ⟨t,by rw [List.append_assoc,ht]⟩
     rw [←hq] at HI
     obtain ⟨un,ay⟩:∃un,un=(ZAw g (pks rows [] c)).getD c.length 0:=⟨_,rfl⟩
     have aZ:Hid (Calls Tryz.prog 126 #[.slice ro rows.length rc,.slice vo c.length vc,.slice go g.length gc] d fun e Q=>∃M V,e=.returned (.tuple #[.agg #[.slice vo c.length vc,.slice M c.length V,.int .i64 un],.bool true])∧Sl 0 3 Q (.slice M c.length V) (ZAB ((ZAw g (pks rows [] c)).take c.length))∧(∀a,M=some a→d.heap.size≤a.block∧isC Q a.block)∧Below d.heap.size d Q):=by
      refine aj.out.mono ?_
      rintro e Q ⟨tv,rfl,y | y,L⟩
      ·obtain ⟨_,M,V,rfl,h3,h4⟩:=y
       rw [hwb,←ay]; exact ⟨M,V,rfl,h3,h4,L⟩
      ·rw [hwb] at y; exact absurd y.1 (by simp)
     have bA:Hid (∀M V Y,Sl 0 3 Y (.slice M c.length V) (ZAB ((ZAw g (pks rows [] c)).take c.length))→(∀a,M=some a→d.heap.size≤a.block∧isC Y a.block)→Below d.heap.size d Y→
       (Y.alloc (.cells #[.slice vo c.length vc,.slice M c.length V,.int .i64 un] 101)).cell? ⟨A,0,none⟩=some (.func (.yield l) #[] #[])∧
       YieldAt Fence.wide 0 Tryz.prog l #[.agg #[.slice vo c.length vc,.slice M c.length V,.int .i64 un]] (Y.alloc (.cells #[.slice vo c.length vc,.slice M c.length V,.int .i64 un] 101)) fun e n=>
        (e=.returned (.bool true)∧Kpt (fun b=>S b∨False) d n∧WyI rows g T gb rb A D J F wr.heap.size S (ZAx rows g k ++ (s ++ [c]).filter (fun c=>ZBN g (pks rows [] c))) n)∨
        (e=.returned (.bool false)∧Kpt (fun b=>S b∨False) d n∧∃q,q <+: ZAY rows g∧WyI rows g T gb rb A D Jx F wr.heap.size S q n)):=fun M V Y y L h3=>by
      obtain ⟨W7,aC⟩:∃W7,W7=Y.alloc (.cells #[.slice vo c.length vc,.slice M c.length V,.int .i64 un] 101):=⟨_,rfl⟩
      have O:Below d.heap.size d W7:=by rw [aC]; exact h3.alloc h3.size _
      have aL:Below Y.heap.size Y W7:=by rw [aC]; exact ZAG _ _
      rw [←aC];refine ⟨(O.cell (p:=⟨A,0,none⟩) bt.out).trans e3,?_⟩
      have bC:=ae.out _ (fun b=>S b∨b=gb∨b=rb∨b=A∨b∈F) _ d W7 HI.out.j (Chg.of_below O (Za4 _)) (fun b hb=>.inl hb)
      refine YieldAt.mono (HY.out 0 _ q c _ W7 bC aM.out ⟨vo,vc,M,V,by rw [←ay],hwb,bh.out.below O (Za4 _),y.below aL (Za4 _),fun a ha=>⟨(aB.out a ha).1,(aB.out a ha).2.keep (O.block _ (aB.out a ha).2.lt)⟩,fun a ha=>⟨fun hx=>?_,(L a ha).2.keep (aL.block _ (L a ha).2.lt)⟩,fun b hb=>Nat.lt_of_lt_of_le (aR.out b hb) O.size⟩) ?_
      ·have:=(L a ha).1
       have:=aR.out _ hx;omega
      ·rintro e n ⟨hk,hp⟩
       have k1:Kpt (fun b=>S b∨False) d n:=(Kpt.of_below O (Za4 _)).trans (hk.mono (fun i _ h=>.inl (.inl (h.elim id False.elim))))
       have k2:Kpt (fun b=>b < wr.heap.size∧(b=gb∨b=rb∨b=A∨T b∨b∈F)) D n:=HI.out.kp.trans ((Kpt.of_below O (Za4 _)).trans (hk.mono (fun i _ h=>by
        rcases h.2 with h | h | h | h | h
        ·exact .inl (.inr (.inl h))
        ·exact .inl (.inr (.inr (.inl h)))
        ·exact .inl (.inr (.inr (.inr (.inl h))))
        ·exact .inr h
        ·exact .inl (.inr (.inr (.inr (.inr h)))))))
       have k3:wr.heap.size≤n.heap.size:=Zaa8 HI.out.sz k1.size
       rcases hp with ⟨rfl,hj⟩ | ⟨rfl,hj⟩
       ·exact .inl ⟨rfl,k1,HI.out.sn,k2,by rw [ak.out]; exact hj,k3⟩
       ·exact .inr ⟨rfl,k1,_,aM.out,HI.out.sn,k2,hj,k3⟩
     clear hwb aj hq ay e3
     gi_wp2_with (first | (refine ⟨trivial,rfl,?_⟩; gi_at_call 126; refine (CallsIn.inRound _ (callsIn_wide.2 aZ.out)).mono ?_; rintro e Y ⟨M,V,rfl,y,L,h3⟩; obtain ⟨e3,fn,tmps,assign,body,hy,hR⟩:=bA.out M V Y y L h3; clear y L h3) | (refine ⟨rfl,?_⟩; refine hR.mono ?_; clear hR hy; rintro e n (⟨rfl,hk,hj⟩ | ⟨rfl,hk,hj⟩)))
     all_goals first | exact ⟨hk,hj⟩ | exact ⟨hk,rfl,hj⟩
   case done=>
    rintro S n P am X;have HI:=hid P
    have bu:Hid (WyK rows g T gb rb A G J (k+1) (D.heap.size :: F) n):=by
     refine ⟨List.nodup_cons.2 ⟨fun h=>?_,f.out.nd⟩,fun r hr=>?_,aJ.out n P.kp,?_⟩
     ·have:=(Zaa3.1 (f.out.mark _ h)).1; omega
     ·rcases List.mem_cons.1 hr with rfl | hr
      ·exact X
      ·have y:=(Zaa3.1 (f.out.mark _ hr)).1
       exact (P.kp.block r (by omega) ⟨y,.inr (.inr (.inr (.inr hr)))⟩).trans ((aQ.out.block r y).trans (f.out.mark r hr))
     ·rw [ZBd]
      refine ae.out _ _ _ n n P.j (Chg.refl _ _) (fun b hb=>.inl ?_)
      rcases hb with h | h | h | h
      ·exact .inr (.inl h)
      ·exact .inr (.inr (.inl h))
      ·exact .inr (.inr (.inr (.inl h)))
      ·rcases List.mem_cons.1 h with rfl | h
       ·exact .inl am
       ·exact .inr (.inr (.inr (.inr h)))
    clear P
    gi_wp2
    refine ⟨⟨k+1,D.heap.size :: F,.int .i64 k,.bool true,.int .i64 k,.slice ro rows.length rc,.int .i64 rows.length,.int .i64 k,.func (.func 81) #[] #[.pointer (some ⟨wr.heap.size+1,0,none⟩),.pointer (some ⟨wr.heap.size,0,none⟩)],.int .i64 ((k:Int)+1),by omega,bu.out,?_⟩,?_⟩
    ·rw [show ((k+1:Nat):Int)=(k:Int)+1 by omega]
     rfl
    ·simp [intOf]; omega
   case stop=>
    rintro c S s n U ⟨rfl,q,hq,P⟩ am X
    gi_wp2
    refine ZAq (D.heap.size :: F) n (List.nodup_cons.2 ⟨fun h=>?_,f.out.nd⟩) (fun r hr=>?_) (fun Q hc=>⟨_,results_none rfl _ _ _,⟨_,rfl⟩,.inr ⟨(fun b=>S b∨b=gb∨b=rb∨b=A∨b∈F),q,hq,?_⟩⟩)
    ·have:=(Zaa3.1 (f.out.mark _ h)).1; omega
    ·rcases List.mem_cons.1 hr with rfl | hr
     ·exact X
     ·have y:=(Zaa3.1 (f.out.mark _ hr)).1
      exact (P.kp.block r (by omega) ⟨y,.inr (.inr (.inr (.inr hr)))⟩).trans ((aQ.out.block r y).trans (f.out.mark r hr))
    ·refine aV.out _ _ _ n Q P.j (hc.mono (fun i _ h=>?_)) (fun b hb=>.inl hb)
     rcases List.mem_cons.1 h with rfl | h
     ·exact .inl am
     ·exact .inr (.inr (.inr (.inr h)))
  ·have bl:k=g.length+1:=by omega
   subst bl
   have bz:decide ((((g.length+1:Nat):Int)) < (g.length:Int)+1)=false:=by simp
   gi_wp2
   have HE:Hid (ZAx rows g (g.length+1)=ZAY rows g):=by show _=_; unfold ZAY; rw [←Hg.length.out]
   refine ZAq F wr f.out.nd f.out.mark (fun Q hc=>⟨_,results_none rfl _ _ _,⟨_,rfl⟩,.inl ⟨(fun b=>b=gb∨b=rb∨b=A∨b∈F),?_⟩⟩)
   rw [←HE.out]
   exact ae.out _ _ _ wr Q f.out.j (hc.mono (fun i _ P=>.inr (.inr (.inr P)))) (fun b hb=>.inl hb)
 case inl=>
  have aD.length:Hid (rows.length=min g.length rows.length):=by show _=_; omega
  have hrows.length4:rows.length≤5:=by omega
  clear aU aW;rw [←bG.out,←bM.out]
  refine wpIn_loop (fun a' wr=>∃(k:Nat) (F:List Nat) (u4 u15 u16 u17 u18 u19 u20 u36:Value),k≤rows.length+1∧WyK rows g T gb rb A G J k F wr∧
   a' = { tmps:=#[.func (.yield l) #[] #[],.pointer (some ⟨gb,0,none⟩),.pointer (some ⟨rb,0,none⟩),.pointer (some ⟨A,0,none⟩),u4,undef,undef,undef,.slice go g.length gc,.int .i64 g.length,.slice ro rows.length rc,.int .i64 rows.length,.int .i64 rows.length,.int .i64 ((rows.length:Int)+1),.int .i64 k,u15,u16,u17,u18,u19,u20,undef,undef,undef,undef,undef,undef,undef,undef,undef,undef,undef,undef,undef,undef,undef,u36],defers:=mks F }) (fun a' _=>rows.length+1-(intOf (a'.tmps.getD 14 undef)).toNat) ?_ ?_
  ·exact ⟨0,[],_,_,_,_,_,_,_,_,Za5 _,bL.out,rfl⟩
  rintro _ wr ⟨k,F,u4,u15,u16,u17,u18,u19,u20,u36,hk,aq,rfl⟩;have f:=hid aq;have d1:wr.cell? ⟨gb,0,none⟩=some (.slice go g.length gc):=(World.cell?_of_block (w:=G) (aq.kp.block gb N.out.1 (.inl rfl))).trans ai.out.1;have d2:wr.cell? ⟨rb,0,none⟩=some (.slice ro rows.length rc):=(World.cell?_of_block (w:=G) (aq.kp.block rb N.out.2.1 (.inr (.inl rfl)))).trans ai.out.2.1;clear aq
  by_cases hlt:k < rows.length+1
  ·have bz:(k:Int) < (rows.length:Int)+1:=by omega
   gi_wp2_with (refine ⟨trivial,rfl,?_⟩; gi_at_call 51; refine (callsIn_wide.2 (ZIp _ _ _)).mono ?_; rintro e Q ⟨rfl,rfl⟩)
   obtain ⟨D,aa⟩:∃D,D=(wr.alloc (.cells #[.int .i64 rows.length] 3)).alloc (.cells #[.int .i64 k] 3):=⟨_,rfl⟩
   rw [←aa]
   have an:Below wr.heap.size wr D:=by rw [aa]; exact ((Below.refl _ _).alloc (Za4 _) _).alloc (by simp) _
   have aS:D.heap.size=wr.heap.size+2:=by rw [aa]; simp
   have aI:D.cell? ⟨wr.heap.size,0,none⟩=some (.int .i64 rows.length):=by
    rw [aa]; exact ((ZAG (wr.alloc (.cells #[.int .i64 rows.length] 3)) _).cell (p:=⟨wr.heap.size,0,none⟩) (by simp)).trans (ZAc (ZAL wr _))
   have ah:D.cell? ⟨wr.heap.size+1,0,none⟩=some (.int .i64 k):=by
    rw [aa]; have:=ZAc (ZAL (wr.alloc (.cells #[.int .i64 rows.length] 3)) (.cells #[.int .i64 k] 3)); rwa [size_alloc] at this
   clear aa
   have bB:Hid (WyI rows g T gb rb A D J F wr.heap.size (fun b=>b=wr.heap.size+1∨b=wr.heap.size) (ZAx rows g k ++ ([]:List (List Int)).filter (fun c=>ZBN g (pks rows [] c))) D):=by
    refine ⟨fun b hb=>by omega,Kpt.refl _ _,?_,by omega⟩
    rw [List.filter_nil,List.append_nil]
    exact ae.out _ _ _ wr D f.out.j (Chg.of_below an (Za4 _)) (fun b hb=>hb.elim (fun h=>.inr (by omega)) .inl)
   have aJ:Hid (∀n,Kpt (fun b=>b < wr.heap.size∧(b=gb∨b=rb∨b=A∨T b∨b∈F)) D n→Kpt (fun b=>b=gb∨b=rb∨b=A∨T b) G n):=fun n hk'=>by
    have y:=f.out.kp.size;have L:=N.out
    refine ⟨by have:=hk'.size; omega,fun b hb hx=>?_⟩
    have aT:b < wr.heap.size:=by omega
    exact (hk'.block b (by omega) ⟨aT,by rcases hx with h | h | h | h <;> simp [h]⟩).trans ((an.block b aT).trans (f.out.kp.block b hb hx))
   have bq:=ZKj rows.length k (wr.heap.size+1) wr.heap.size D (by omega) (by omega) ah aI
   have aQ:=hid an;clear an aI ah d1 d2
   refine ZDW (R:=ZJe D.heap.size) (cs:=ext rows.length k 0) (T:=fun _=>False) (S0:=fun b=>b=wr.heap.size+1∨b=wr.heap.size) (gf:=81) (lb:=#[.pointer (some ⟨wr.heap.size+1,0,none⟩),.pointer (some ⟨wr.heap.size,0,none⟩)]) rfl (enters_of Tryz.func81 (by kernel_rfl) rfl) bq (fun b hb=>by omega)
    (fun n S x vs ⟨v,B0,y,_⟩=>by rw [y]; rfl) (ZFW _) (ZIw _)
    (fun S s n=>WyI rows g T gb rb A D J F wr.heap.size S (ZAx rows g k ++ s.filter (fun c=>ZBN g (pks rows [] c))) n)
    (fun c S s n=>c=.ret∧∃q,q <+: ZAY rows g∧WyI rows g T gb rb A D Jx F wr.heap.size S q n)
    (fun S S' s n W'' h hc hs=>h.stab ae.out hc hs) (fun c S S' s n W'' ⟨y,q,L,h3⟩ hc hs=>⟨y,q,L,h3.stab aV.out hc hs⟩) bB.out
    (fun vs a' n=>∃v,vs=#[v]∧a' = { tmps:=#[.func (.yield l) #[] #[],.pointer (some ⟨gb,0,none⟩),.pointer (some ⟨rb,0,none⟩),.pointer (some ⟨A,0,none⟩),.int .i64 k,v,undef,undef,.slice go g.length gc,.int .i64 g.length,.slice ro rows.length rc,.int .i64 rows.length,.int .i64 rows.length,.int .i64 ((rows.length:Int)+1),.int .i64 k,.bool true,.int .i64 k,.slice ro rows.length rc,.int .i64 rows.length,.int .i64 k,.func (.func 81) #[] #[.pointer (some ⟨wr.heap.size+1,0,none⟩),.pointer (some ⟨wr.heap.size,0,none⟩)],v,undef,undef,undef,undef,undef,undef,undef,undef,undef,undef,undef,undef,undef,undef,u36],defers:=[] })
    (fun vs a' n l r o h _=>h) ?assign ?body (fun h=>h) ?done ?stop
   case assign=>
    rintro S x vs n K ⟨v,B0,rfl,L,h3,h4⟩ hK
    gi_wp2
    exact hK _ _ (Below.refl _ _) ⟨v,rfl,rfl⟩
   case body=>
    rintro S s c vs a' d P am bQ bH X ar U ⟨S1,⟨v,B0,aK,E,aA,bk,bg⟩,az⟩ ⟨v',ag,rfl⟩
    have bD:v=v':=by rw [aK] at ag; simpa using ag
    subst bD
    have ah:c∈ext rows.length k 0:=U.subset (by simp)
    obtain ⟨aO,aG,_⟩:=ZBk ah;have af:=aJ.out d P.kp;have e1:d.cell? ⟨gb,0,none⟩=some (.slice go g.length gc):=(World.cell?_of_block (w:=G) (af.block gb N.out.1 (.inl rfl))).trans ai.out.1;have e2:d.cell? ⟨rb,0,none⟩=some (.slice ro rows.length rc):=(World.cell?_of_block (w:=G) (af.block rb N.out.2.1 (.inr (.inl rfl)))).trans ai.out.2.1;have e3:d.cell? ⟨A,0,none⟩=some (.func (.yield l) #[] #[]):=(World.cell?_of_block (w:=G) (af.block A N.out.2.2.1 (.inr (.inr (.inl rfl))))).trans ai.out.2.2
    have aw:Kpt T w0 d:=bK.out d (af.mono (fun i _ h=>.inr (.inr (.inr h))))
    obtain ⟨vo,vc,bj⟩:=ZAE E;subst bj;obtain ⟨lr,ar⟩:=ar
    have aB:Hid (∀a,vo=some a→¬(S a.block∨a.block=gb∨a.block=rb∨a.block=A∨a.block∈F)∧isC d a.block):=fun a ha=>by
     obtain ⟨y,L,h3⟩:=ZFz E X rfl a ha;obtain ⟨_,h4,_⟩:=ZFz E ar rfl a ha
     refine ⟨fun hx=>?_,h3⟩
     have hg:=N.out;have hz:=f.out.kp.size
     rcases hx with hx | hx | hx | hx | hx
     ·rcases (az _).1 hx with hx | hx | hx
      ·have:=aA _ hx; omega
      ·exact L hx
      ·exact h4 hx
     ·omega
     ·omega
     ·omega
     ·have:=(Zaa3.1 (f.out.mark _ hx)).1; omega
    have aR:Hid (∀b,(S b∨b=gb∨b=rb∨b=A∨b∈F)→b < d.heap.size):=fun b hx=>by
     have hg:=N.out;have hz:=f.out.kp.size;have bN:=P.sz
     rcases hx with hx | hx | hx | hx | hx
     ·rcases (az _).1 hx with hx | hx | hx
      ·have:=aA _ hx; omega
      ·omega
      ·omega
     ·omega
     ·omega
     ·omega
     ·have:=(Zaa3.1 (f.out.mark _ hx)).1; omega
    have bh:Hid (Sl 0 3 d (.slice vo c.length vc) (ZAB c)):=Sl.own E
    have aj:Hid (Calls Tryz.prog 126 #[.slice ro rows.length rc,.slice vo c.length vc,.slice go g.length gc] d fun e Q=>∃tv,e=.returned (.tuple #[tv,.bool (ZBN g (pks rows [] c))])∧ZRa d.heap.size Q tv (.slice vo c.length vc) c g (pks rows [] c)∧Below d.heap.size d Q):=
     ZFT B rows c g _ _ _ d (bJ.out d aw) (Sl.own E) (bI.out d aw) (fun t ht=>by have:=aG t (by omega); exact ⟨by omega,this.2⟩) HR.out HG.out hg1 (by omega) (HF.out.mono (by have:=aD.length.out; omega))
    have HI:=hid P;have aP:=hid U;have bt:Hid (A < d.heap.size):=ZAn e3;have bR:=hid aO;have bO:=hid aS;clear P U E aA bk bg az ah aG af aw X ar aK ag aO aS
    cases hwb:ZBN g (pks rows [] c) with
    | false=>
     have ak:Hid ((s ++ [c]).filter (fun c=>ZBN g (pks rows [] c))=s.filter (fun c=>ZBN g (pks rows [] c))):=by
      show _=_
      rw [List.filter_append]; simp [hwb]
     have bi:Hid (Calls Tryz.prog 126 #[.slice ro rows.length rc,.slice vo c.length vc,.slice go g.length gc] d fun e Q=>e=.returned (.tuple #[.agg #[.slice none 0 0,.slice none 0 0,.int .i64 0],.bool false])∧Below d.heap.size d Q):=by
      refine aj.out.mono ?_
      rintro e Q ⟨tv,rfl,y | y,L⟩
      ·rw [hwb] at y; exact absurd y.1 (by simp)
      ·rw [hwb,y.2]; exact ⟨rfl,L⟩
     clear hwb aj
     gi_wp2_with (refine ⟨trivial,rfl,?_⟩; gi_at_call 126; refine (CallsIn.inRound _ (callsIn_wide.2 bi.out)).mono ?_; rintro e Y ⟨rfl,aE⟩)
     have aN:Hid (Below d.heap.size d (Y.alloc (.cells #[.slice none 0 0,.slice none 0 0,.int .i64 0] 101))):=aE.alloc aE.size _;clear aE
     refine ⟨fun _ h=>(by cases h),?_⟩
     gi_wp2
     refine ⟨Kpt.of_below aN.out (Za4 _),?_⟩
     have au:=HI.out.stab ae.out (Chg.of_below aN.out (Za4 _)) (S':=S) (fun b hb=>.inl hb)
     rw [←ak.out] at au;exact au
    | true=>
     obtain ⟨q,hq⟩:∃q,q=ZAx rows g k ++ s.filter (fun c=>ZBN g (pks rows [] c)):=⟨_,rfl⟩
     have ak:Hid (ZAx rows g k ++ (s ++ [c]).filter (fun c=>ZBN g (pks rows [] c))=q ++ [c]):=by
      show _=_
      rw [List.filter_append,hq]; simp [hwb]
     have aM:Hid ((q ++ [c]) <+: ZAY rows g):=by
      rw [←ak.out]
      refine List.IsPrefix.trans ?_ ((ZFU rows g (show k+1≤rows.length+1 by omega)).trans (by unfold ZAY; rw [←aD.length.out]; exact List.prefix_refl _))
      rw [ZBd]
      obtain ⟨t,ht⟩:=ZFV (p:=fun c=>ZBN g (pks rows [] c)) aP.out
      exact ⟨t,by rw [List.append_assoc,ht]⟩
     rw [←hq] at HI
     obtain ⟨un,ay⟩:∃un,un=(ZAw g (pks rows [] c)).getD c.length 0:=⟨_,rfl⟩
     have aZ:Hid (Calls Tryz.prog 126 #[.slice ro rows.length rc,.slice vo c.length vc,.slice go g.length gc] d fun e Q=>∃M V,e=.returned (.tuple #[.agg #[.slice vo c.length vc,.slice M c.length V,.int .i64 un],.bool true])∧Sl 0 3 Q (.slice M c.length V) (ZAB ((ZAw g (pks rows [] c)).take c.length))∧(∀a,M=some a→d.heap.size≤a.block∧isC Q a.block)∧Below d.heap.size d Q):=by
      refine aj.out.mono ?_
      rintro e Q ⟨tv,rfl,y | y,L⟩
      ·obtain ⟨_,M,V,rfl,h3,h4⟩:=y
       rw [hwb,←ay]; exact ⟨M,V,rfl,h3,h4,L⟩
      ·rw [hwb] at y; exact absurd y.1 (by simp)
     have bA:Hid (∀M V Y,Sl 0 3 Y (.slice M c.length V) (ZAB ((ZAw g (pks rows [] c)).take c.length))→(∀a,M=some a→d.heap.size≤a.block∧isC Y a.block)→Below d.heap.size d Y→
       (Y.alloc (.cells #[.slice vo c.length vc,.slice M c.length V,.int .i64 un] 101)).cell? ⟨A,0,none⟩=some (.func (.yield l) #[] #[])∧
       YieldAt Fence.wide 0 Tryz.prog l #[.agg #[.slice vo c.length vc,.slice M c.length V,.int .i64 un]] (Y.alloc (.cells #[.slice vo c.length vc,.slice M c.length V,.int .i64 un] 101)) fun e n=>
        (e=.returned (.bool true)∧Kpt (fun b=>S b∨False) d n∧WyI rows g T gb rb A D J F wr.heap.size S (ZAx rows g k ++ (s ++ [c]).filter (fun c=>ZBN g (pks rows [] c))) n)∨
        (e=.returned (.bool false)∧Kpt (fun b=>S b∨False) d n∧∃q,q <+: ZAY rows g∧WyI rows g T gb rb A D Jx F wr.heap.size S q n)):=fun M V Y y L h3=>by
      obtain ⟨W7,aC⟩:∃W7,W7=Y.alloc (.cells #[.slice vo c.length vc,.slice M c.length V,.int .i64 un] 101):=⟨_,rfl⟩
      have O:Below d.heap.size d W7:=by rw [aC]; exact h3.alloc h3.size _
      have aL:Below Y.heap.size Y W7:=by rw [aC]; exact ZAG _ _
      rw [←aC];refine ⟨(O.cell (p:=⟨A,0,none⟩) bt.out).trans e3,?_⟩
      have bC:=ae.out _ (fun b=>S b∨b=gb∨b=rb∨b=A∨b∈F) _ d W7 HI.out.j (Chg.of_below O (Za4 _)) (fun b hb=>.inl hb)
      refine YieldAt.mono (HY.out 0 _ q c _ W7 bC aM.out ⟨vo,vc,M,V,by rw [←ay],hwb,bh.out.below O (Za4 _),y.below aL (Za4 _),fun a ha=>⟨(aB.out a ha).1,(aB.out a ha).2.keep (O.block _ (aB.out a ha).2.lt)⟩,fun a ha=>⟨fun hx=>?_,(L a ha).2.keep (aL.block _ (L a ha).2.lt)⟩,fun b hb=>Nat.lt_of_lt_of_le (aR.out b hb) O.size⟩) ?_
      ·have:=(L a ha).1
       have:=aR.out _ hx;omega
      ·rintro e n ⟨hk,hp⟩
       have k1:Kpt (fun b=>S b∨False) d n:=(Kpt.of_below O (Za4 _)).trans (hk.mono (fun i _ h=>.inl (.inl (h.elim id False.elim))))
       have k2:Kpt (fun b=>b < wr.heap.size∧(b=gb∨b=rb∨b=A∨T b∨b∈F)) D n:=HI.out.kp.trans ((Kpt.of_below O (Za4 _)).trans (hk.mono (fun i _ h=>by
        rcases h.2 with h | h | h | h | h
        ·exact .inl (.inr (.inl h))
        ·exact .inl (.inr (.inr (.inl h)))
        ·exact .inl (.inr (.inr (.inr (.inl h))))
        ·exact .inr h
        ·exact .inl (.inr (.inr (.inr (.inr h)))))))
       have k3:wr.heap.size≤n.heap.size:=Zaa8 HI.out.sz k1.size
       rcases hp with ⟨rfl,hj⟩ | ⟨rfl,hj⟩
       ·exact .inl ⟨rfl,k1,HI.out.sn,k2,by rw [ak.out]; exact hj,k3⟩
       ·exact .inr ⟨rfl,k1,_,aM.out,HI.out.sn,k2,hj,k3⟩
     clear hwb aj hq ay e3
     gi_wp2_with (first | (refine ⟨trivial,rfl,?_⟩; gi_at_call 126; refine (CallsIn.inRound _ (callsIn_wide.2 aZ.out)).mono ?_; rintro e Y ⟨M,V,rfl,y,L,h3⟩; obtain ⟨e3,fn,tmps,assign,body,hy,hR⟩:=bA.out M V Y y L h3; clear y L h3) | (refine ⟨rfl,?_⟩; refine hR.mono ?_; clear hR hy; rintro e n (⟨rfl,hk,hj⟩ | ⟨rfl,hk,hj⟩)))
     all_goals first | exact ⟨hk,hj⟩ | exact ⟨hk,rfl,hj⟩
   case done=>
    rintro S n P am X;have HI:=hid P
    have bu:Hid (WyK rows g T gb rb A G J (k+1) (D.heap.size :: F) n):=by
     refine ⟨List.nodup_cons.2 ⟨fun h=>?_,f.out.nd⟩,fun r hr=>?_,aJ.out n P.kp,?_⟩
     ·have:=(Zaa3.1 (f.out.mark _ h)).1; omega
     ·rcases List.mem_cons.1 hr with rfl | hr
      ·exact X
      ·have y:=(Zaa3.1 (f.out.mark _ hr)).1
       exact (P.kp.block r (by omega) ⟨y,.inr (.inr (.inr (.inr hr)))⟩).trans ((aQ.out.block r y).trans (f.out.mark r hr))
     ·rw [ZBd]
      refine ae.out _ _ _ n n P.j (Chg.refl _ _) (fun b hb=>.inl ?_)
      rcases hb with h | h | h | h
      ·exact .inr (.inl h)
      ·exact .inr (.inr (.inl h))
      ·exact .inr (.inr (.inr (.inl h)))
      ·rcases List.mem_cons.1 h with rfl | h
       ·exact .inl am
       ·exact .inr (.inr (.inr (.inr h)))
    clear P
    gi_wp2
    refine ⟨⟨k+1,D.heap.size :: F,.int .i64 k,.bool true,.int .i64 k,.slice ro rows.length rc,.int .i64 rows.length,.int .i64 k,.func (.func 81) #[] #[.pointer (some ⟨wr.heap.size+1,0,none⟩),.pointer (some ⟨wr.heap.size,0,none⟩)],.int .i64 ((k:Int)+1),by omega,bu.out,?_⟩,?_⟩
    ·rw [show ((k+1:Nat):Int)=(k:Int)+1 by omega]
     rfl
    ·simp [intOf]; omega
   case stop=>
    rintro c S s n U ⟨rfl,q,hq,P⟩ am X
    gi_wp2
    refine ZAq (D.heap.size :: F) n (List.nodup_cons.2 ⟨fun h=>?_,f.out.nd⟩) (fun r hr=>?_) (fun Q hc=>⟨_,results_none rfl _ _ _,⟨_,rfl⟩,.inr ⟨(fun b=>S b∨b=gb∨b=rb∨b=A∨b∈F),q,hq,?_⟩⟩)
    ·have:=(Zaa3.1 (f.out.mark _ h)).1; omega
    ·rcases List.mem_cons.1 hr with rfl | hr
     ·exact X
     ·have y:=(Zaa3.1 (f.out.mark _ hr)).1
      exact (P.kp.block r (by omega) ⟨y,.inr (.inr (.inr (.inr hr)))⟩).trans ((aQ.out.block r y).trans (f.out.mark r hr))
    ·refine aV.out _ _ _ n Q P.j (hc.mono (fun i _ h=>?_)) (fun b hb=>.inl hb)
     rcases List.mem_cons.1 h with rfl | h
     ·exact .inl am
     ·exact .inr (.inr (.inr (.inr h)))
  ·have bl:k=rows.length+1:=by omega
   subst bl
   have bz:decide ((((rows.length+1:Nat):Int)) < (rows.length:Int)+1)=false:=by simp
   gi_wp2
   have HE:Hid (ZAx rows g (rows.length+1)=ZAY rows g):=by show _=_; unfold ZAY; rw [←aD.length.out]
   refine ZAq F wr f.out.nd f.out.mark (fun Q hc=>⟨_,results_none rfl _ _ _,⟨_,rfl⟩,.inl ⟨(fun b=>b=gb∨b=rb∨b=A∨b∈F),?_⟩⟩)
   rw [←HE.out]
   exact ae.out _ _ _ wr Q f.out.j (hc.mono (fun i _ P=>.inr (.inr (.inr P)))) (fun b hb=>.inl hb)
theorem ZIx(B gb rb:Nat)(rows:List (List Int))(g:List Int)(ro go:Option Addr)(rc gc:Nat)(T:Nat→Prop)(w0:World)
 (hcg:w0.cell? ⟨gb,0,none⟩=some (.slice go g.length gc))(hcr:w0.cell? ⟨rb,0,none⟩=some (.slice ro rows.length rc))
 (hrows:∀W,Kpt T w0 W→Mat B 27 3 W (.slice ro rows.length rc) rows)(hgoal:∀W,Kpt T w0 W→Sl B 3 W (.slice go g.length gc) (ZAB g))(hT:∀b,T b→b < w0.heap.size)
 (hr:∀r∈rows,g.length≤r.length∧∀z∈r,z.natAbs≤60)(hg:∀z∈g,z.natAbs≤60)(hg1:1≤g.length)(hg4:g.length≤4)(hrl:rows.length≤1000) :
  ZPF Tryz.prog 125 #[.pointer (some ⟨gb,0,none⟩),.pointer (some ⟨rb,0,none⟩)] (ZDY rows g) (ZAY rows g) T (fun b=>b=gb∨b=rb) w0:=
 ZGr B gb rb rows g ro go rc gc T w0 hcg hcr hrows hgoal hT hr hg hg1 (.inl hg4) hrl
end Go.Proofs.YtkjkfceblmgogaaGreat
namespace Go.Proofs.YtkjkfceblmgogaaGreat
open Lin
def sv(t:List (List Int))(a:Nat→Int)(j:Nat):Int:=sm (t.map V) a j
theorem ZF0(t:List (List Int))(a:Nat→Int)(j:Nat):sv t a j=sumN t.length fun i=>a i*V (t.getD i []) j:=by
 unfold sv sm;rw [Zab1]
 refine ZAC fun i hi=>?_
 have:(t.map V).getD i (fun _=>0)=V (t.getD i []):=by simp [hi]
 rw [this]
theorem ZNN(t:List (List Int))(x y:Int)(a b:Nat→Int)(j:Nat):sv t (fun i=>x*a i+y*b i) j=x*sv t a j+y*sv t b j:=ZQk _ x y a b j
theorem ZDD{t:List (List Int)}{a b:Nat→Int}(h:∀i,i < t.length→a i=b i)(j:Nat):sv t a j=sv t b j:=ZIv (fun i hi=>h i (by simpa using hi)) j
theorem ZF1(r:List Int)(t:List (List Int))(a:Nat→Int)(j:Nat):sv (r :: t) a j=a 0*V r j+sv t (fun i=>a (i+1)) j:=ZHv _ _ _ _
theorem ZRb:∀(t:List (List Int)) (b:Nat→Int),(∀i,i < t.length→0≤b i)→∃t' a',t'.Sublist t∧(∀i,i < t'.length→0 < a' i)∧(∀j,sv t' a' j=sv t b j)∧((∃i,i < t.length∧b i=0)→t'.length < t.length)
 | [],b,_=>⟨[],b,List.Sublist.refl _,fun i hi=>by simp at hi,fun _=>rfl,fun ⟨i,hi,_⟩=>by simp at hi⟩
 | r :: t,b,h=>by
  obtain ⟨t',a',h1,h2,h3,h4⟩:=ZRb t (fun i=>b (i+1)) fun i hi=>h (i+1) (by simpa using hi)
  have hl:=h1.length_le
  by_cases h0:b 0=0
  ·refine ⟨t',a',h1.cons r,h2,fun j=>?_,fun _=>by simp; omega⟩
   rw [ZF1,h0,h3]; omega
  ·have hp:0 < b 0:=by have:=h 0 (by simp); omega
   refine ⟨r :: t',fun i=>if i=0 then b 0 else a' (i-1),h1.cons_cons r,fun i hi=>?_,fun j=>?_,fun ⟨i,hi,hz⟩=>?_⟩
   ·by_cases e:i=0
    ·simp [e,hp]
    ·simp only [e,if_false]
     exact h2 _ (by simp at hi; omega)
   ·rw [ZF1,ZF1]
    simp only [if_true];rw [←h3 j]
    congr 1
   ·have:i≠0:=fun e=>h0 (by rw [←e]; exact hz)
    have:=h4 ⟨i-1,by simp at hi; omega,by rw [show i-1+1=i by omega]; exact hz⟩
    simp; omega
theorem ZOb(t:List (List Int))(g:List Int)(a:Nat→Int)(j:Nat):dot (t.length+1) (V (ZFu t g j)) a=sv t a j-a t.length*V g j:=by
 have b:∀i,i < t.length→V (ZFu t g j) i=V (t.getD i []) j:=fun i hi=>by
  have c:i < (t.map fun r=>r.getD j 0).length:=by simpa using hi
  unfold V ZFu;rw [Za2,Za7 c];simp [hi]
 have d:V (ZFu t g j) t.length=-(V g j):=by
  unfold V ZFu
  rw [Za2,Za8 (by simp)]; simp
 rw [ZF0];unfold dot
 show sumN t.length _+V (ZFu t g j) t.length*a t.length=_
 rw [d,ZAC (g:=fun i=>a i*V (t.getD i []) j) fun i hi=>by rw [b i hi]; exact Int.mul_comm _ _]
 grind
theorem ZCt{t:List (List Int)}{g:List Int}{a:Nat→Int} : (∀r∈ZA0 g t,dot (t.length+1) (V r) a=0)↔∀j,j < g.length→sv t a j=a t.length*V g j:=by
 constructor
 ·intro h j b
  have:=h (ZFu t g j) (by simp only [ZA0,List.mem_map,List.mem_range]; exact ⟨j,b,rfl⟩)
  rw [ZOb] at this;omega
 ·intro h r c
  simp only [ZA0,List.mem_map,List.mem_range] at c;obtain ⟨j,b,rfl⟩:=c;rw [ZOb,h j b]; omega
theorem ZES{g:List Int}{t:List (List Int)} : ZBN g t=true↔∃a:Nat→Int,(∀i,i < t.length+1→0 < a i)∧(∀j,j < g.length→sv t a j=a t.length*V g j)∧∀u:Nat→Int,(∀j,j < g.length→sv t u j=u t.length*V g j)→Par (t.length+1) u a:=by
 rw [ZIq]
 constructor
 ·rintro ⟨a,b,c,d⟩
  exact ⟨a,b,ZCt.1 c,fun u hu=>d u (ZCt.2 hu)⟩
 ·rintro ⟨a,b,c,d⟩
  exact ⟨a,b,ZCt.2 c,fun u hu=>d u (ZCt.1 hu)⟩
theorem ZGs{g:List Int}{t:List (List Int)}(h:ZBN g t=true):t.length≤g.length:=by
 obtain ⟨a,b,_,c⟩:=ZIq.1 h
 apply Za6
 intro m
 obtain ⟨v,⟨i,l,d⟩,hv⟩:=ZC2 (t.length+1) ((ZA0 g t).map V ++ [ZBf t.length]) (by simp [ZA0]; omega)
 have j:v t.length=0:=by
  have:=hv (ZBf t.length) (by simp)
  rwa [ZC1 (by omega)] at this
 have f:=c v (fun r hr=>hv (V r) (List.mem_append_left _ (List.mem_map.2 ⟨r,hr,rfl⟩))) i t.length l (by omega)
 rw [j,Int.zero_mul] at f
 have:=b t.length (by omega)
 rcases Int.mul_eq_zero.1 f with h | h
 ·exact d h
 ·omega
theorem ZET{rows:List (List Int)}{g:List Int} : ZAY rows g≠[]↔∃t,t.Sublist rows∧ZBN g t=true:=by
 constructor
 ·intro h
  cases a:ZAY rows g with
  | nil=>exact absurd a h
  | cons c l=>
   have d:c∈ZAY rows g:=by rw [a]; simp
   simp only [ZAY,ZAx,List.mem_flatMap,List.mem_range,List.mem_filter] at d;obtain ⟨m,p,i,f⟩:=d;have b:=ZCM rows [] m 0;rw [List.drop_zero] at b
   have:pks rows [] c∈chz m rows:=by rw [←b]; exact List.mem_map.2 ⟨c,i,rfl⟩
   exact ⟨_,(ZBp.1 this).1,f⟩
 ·rintro ⟨t,j,a⟩
  have b:=ZCM rows [] t.length 0;rw [List.drop_zero] at b;have d:t∈chz t.length rows:=ZBp.2 ⟨j,rfl⟩;rw [←b] at d;obtain ⟨c,o,n⟩:=List.mem_map.1 d
  have:c∈ZAY rows g:=by
   simp only [ZAY,ZAx,List.mem_flatMap,List.mem_range,List.mem_filter]
   refine ⟨t.length,?_,o,by rw [n]; exact a⟩
   have:=j.length_le;have:=ZGs a;omega
  intro h;rw [h] at this; cases this
theorem ZRq{rows:List (List Int)}{g:List Int}(hcyc:∀t:List (List Int),t.Sublist rows→∀w:Nat→Int,(∀i,i < t.length→0≤w i)→(∀j,j < g.length→sv t w j=0)→0≤sv t w g.length) :
  ∀(n:Nat) (t:List (List Int)) (a:Nat→Int),t.length≤n→t.Sublist rows→(∀i,i < t.length+1→0 < a i)→(∀j,j < g.length→sv t a j=a t.length*V g j)→
  ∃t' a',t'.Sublist rows∧ZBN g t'=true∧(∀i,i < t'.length+1→0 < a' i)∧(∀j,j < g.length→sv t' a' j=a' t'.length*V g j)∧sv t' a' g.length*a t.length≤sv t a g.length*a' t'.length:=by
 intro n
 induction n with
 | zero=>
  intro t a hn A v x
  by_cases hk:∀u:Nat→Int,(∀j,j < g.length→sv t u j=u t.length*V g j)→Par (t.length+1) u a
  ·exact ⟨t,a,A,ZES.2 ⟨a,v,x,hk⟩,v,x,Int.le_refl _⟩
  ·exfalso
   apply hk
   intro u _ i j l o
   have:i=0:=by omega
   have:j=0:=by omega
   subst i; subst j; rfl
 | succ n ih=>
  intro t a hn A v x
  by_cases hk:∀u:Nat→Int,(∀j,j < g.length→sv t u j=u t.length*V g j)→Par (t.length+1) u a
  ·exact ⟨t,a,A,ZES.2 ⟨a,v,x,hk⟩,v,x,Int.le_refl _⟩
  ·have:∃u:Nat→Int,(∀j,j < g.length→sv t u j=u t.length*V g j)∧¬Par (t.length+1) u a:=Za6 fun h=>hk fun u N=>Za6 fun s=>h ⟨u,N,s⟩
   obtain ⟨u,N,U⟩:=this
   have aa:=v t.length (by omega)
   have hw:∃w:Nat→Int,(∀j,j < g.length→sv t w j=0)∧∃i,i < t.length∧w i≠0:=by
    refine ⟨fun i=>a t.length*u i+(-(u t.length))*a i,fun j o=>?_,?_⟩
    ·rw [ZNN,N j o,x j o]; grind
    ·apply Za6
     intro S
     apply U
     have F:∀i,i < t.length+1→a t.length*u i=u t.length*a i:=fun i l=>by
      by_cases e:i=t.length
      ·rw [e]; exact Int.mul_comm _ _
      ·have:a t.length*u i+(-(u t.length))*a i=0:=Za6 fun s=>S ⟨i,by omega,s⟩
       grind
     intro i j l o
     have e:a t.length*(u i*a j-u j*a i)=0:=by
      have r:=F i l;have h2:=F j o
      have:a t.length*(u i*a j-u j*a i)=(a t.length*u i)*a j-(a t.length*u j)*a i:=by grind
      rw [this,r,h2]; grind
     rcases Int.mul_eq_zero.1 e with h | h
     ·omega
     ·omega
   have M:∃w:Nat→Int,(∀j,j < g.length→sv t w j=0)∧(∃i,i < t.length∧0 < w i)∧0≤sv t w g.length:=by
    obtain ⟨w,r,y,p,s⟩:=hw
    have m:∀j,sv t (fun i=>- w i) j=- sv t w j:=fun j=>by
     have:=ZNN t (-1) 0 w w j
     rw [show (fun i=>(-1:Int)*w i+0*w i)=fun i=>- w i by funext i; omega] at this
     rw [this]; omega
    by_cases J:0≤sv t w g.length
    ·by_cases hpw:∃i,i < t.length∧0 < w i
     ·exact ⟨w,r,hpw,J⟩
     ·have d:∀i,i < t.length→0≤- w i:=fun i l=>by
       have:¬0 < w i:=fun h=>hpw ⟨i,l,h⟩
       omega
      refine ⟨fun i=>- w i,fun j o=>by rw [m,r j o]; rfl,⟨y,p,by have:=d y p; show 0 < - w y; omega⟩,?_⟩
      exact hcyc t A _ d fun j o=>by rw [m,r j o]; rfl
    ·by_cases hpw:∃i,i < t.length∧w i < 0
     ·obtain ⟨i,l,P⟩:=hpw
      exact ⟨fun i=>- w i,fun j o=>by rw [m,r j o]; rfl,⟨i,l,by show 0 < - w i; omega⟩,by rw [m]; omega⟩
     ·have d:∀i,i < t.length→0≤w i:=fun i l=>by
       have:¬w i < 0:=fun h=>hpw ⟨i,l,h⟩
       omega
      exact ⟨w,r,⟨y,p,by have:=d y p; omega⟩,hcyc t A w d r⟩
   obtain ⟨w,r,⟨y,p,T⟩,J⟩:=M
   obtain ⟨c,D,O⟩:=ZCj (f:=a) (g:=w) (X:=(List.range t.length).filter fun i=>decide (0 < w i)) (by
     intro he
     have:y∈(List.range t.length).filter fun i=>decide (0 < w i):=by simp [p,T]
     rw [he] at this; simp at this) (fun z F=>by simpa using (List.mem_filter.1 F).2)
   have E:c < t.length:=by simpa using (List.mem_filter.1 D).1
   have B:0 < w c:=by simpa using (List.mem_filter.1 D).2
   have af:=v c (by omega)
   have Y:∀i,i < t.length→0≤w c*a i+(-(a c))*w i:=fun i l=>by
    have ae:=v i (by omega)
    by_cases hwi:0 < w i
    ·have:=O i (by simp [l,hwi])
     have e:w c*a i+(-(a c))*w i=a i*w c-a c*w i:=by grind
     omega
    ·have e1:0≤w c*a i:=Int.mul_nonneg (by omega) (by omega)
     have e2:0≤a c*(- w i):=Int.mul_nonneg (by omega) (by omega)
     have e3:(-(a c))*w i=a c*(- w i):=by grind
     omega
   obtain ⟨G,Q,g1,g2,g3,g4⟩:=ZRb t (fun i=>w c*a i+(-(a c))*w i) Y
   have P:=g4 ⟨c,E,by grind⟩
   have L:0 < w c*a t.length:=Int.mul_pos B aa
   obtain ⟨t',a',k1,k2,k3,k4,k5⟩:=ih G (fun i=>if i=G.length then w c*a t.length else Q i) (by omega) (g1.trans A) (fun i l=>by
     by_cases e:i=G.length
     ·simp only [e,if_true]; exact L
     ·simp only [e,if_false]; exact g2 i (by omega)) (fun j o=>by
     simp only [if_true]
     rw [ZDD (b:=Q) (fun i l=>by rw [if_neg (by omega)]),g3,ZNN,r j o,x j o]
     grind)
   refine ⟨t',a',k1,k2,k3,k4,?_⟩;simp only [if_true] at k5
   rw [ZDD (t:=G) (b:=Q) (fun i l=>by rw [if_neg (by omega)]),g3,ZNN] at k5
   have ag:=k3 t'.length (by omega)
   have R:0≤a c*sv t w g.length*a' t'.length:=Int.mul_nonneg (Int.mul_nonneg (by omega) J) (by omega)
   have k6:w c*(sv t' a' g.length*a t.length)≤w c*(sv t a g.length*a' t'.length):=by
    have e1:w c*(sv t' a' g.length*a t.length)=sv t' a' g.length*(w c*a t.length):=by grind
    have e2:(w c*sv t a g.length + -a c*sv t w g.length)*a' t'.length=w c*(sv t a g.length*a' t'.length)-a c*sv t w g.length*a' t'.length:=by grind
    omega
   exact Int.le_of_mul_le_mul_left k6 B
theorem ZCP{rows:List (List Int)}{g:List Int} : ZAY rows g=[]↔∃c:Nat→Int,(∀r∈rows,dot g.length c (V r)≤0)∧0 < dot g.length c (V g):=by
 constructor
 ·intro h
  rcases ZOa g.length _ (rows.map V) rfl (V g) with ⟨s,a,p,ha,he⟩ | ⟨c,n,o⟩
  ·exfalso
   refine (ZET (rows:=rows) (g:=g)).2 ?_ h
   -- the rows cut to the goal's numbers say nothing behind them
   have m:∃t,t.Sublist (rows.map fun r=>r.take g.length)∧ZBN g t=true:=by
    obtain ⟨t,F,J,G,L,_⟩:=ZRb (rows.map fun r=>r.take g.length) a fun i hi=>ha i (by simpa using hi)
    have l:∀j,j < g.length→sv (rows.map fun r=>r.take g.length) a j=s*V g j:=fun j hj=>by
     rw [he j hj,ZF0];unfold sm;rw [Zab1,Zab1]
     refine ZAC fun i hi=>?_
     have O:(rows.map fun r=>r.take g.length).getD i []=(rows.getD i []).take g.length:=by simp [hi]
     have A:(rows.map V).getD i (fun _=>0)=V (rows.getD i []):=by simp [hi]
     rw [O,A]
     congr 1
     unfold V;generalize rows.getD i []=r;rw [Za2,Zaa5 hj,Za2]
    obtain ⟨E,_,y,d,_⟩:=ZRq (rows:=rows.map fun r=>r.take g.length) (g:=g) (fun t ht w _ _=>by
      have:sv t w g.length=0:=by
       rw [ZF0]
       refine ZAd fun i hi=>?_
       have N:t.getD i []∈t:=by simp [hi]
       obtain ⟨r,_,f⟩:=List.mem_map.1 (ht.subset N)
       have:V (t.getD i []) g.length=0:=by
        rw [←f];unfold V
        rw [Za2,Zaa6 (by simp; omega)]; rfl
       rw [this,Int.mul_zero]
      omega) t.length t (fun i=>if i=t.length then s else F i) (Za4 _) J (fun i hi=>by
      by_cases e:i=t.length
      ·simp only [e,if_true]; exact p
      ·simp only [e,if_false]; exact G i (by omega)) (fun j hj=>by
      simp only [if_true]
      rw [ZDD (b:=F) (fun i hi=>by rw [if_neg (by omega)]),L,l j hj])
    exact ⟨E,y,d⟩
   obtain ⟨E,y,d⟩:=m;obtain ⟨B,z,v⟩:=List.sublist_map_iff.1 y;refine ⟨B,z,?_⟩;rw [v] at d
   have e:ZA0 g (B.map fun r=>r.take g.length)=ZA0 g B:=by
    unfold ZA0
    refine List.map_congr_left fun j hj=>?_
    rw [List.mem_range] at hj;unfold ZFu;rw [List.map_map]
    congr 1
    refine List.map_congr_left fun r _=>?_
    show (r.take g.length).getD j 0=r.getD j 0
    rw [Za2,Zaa5 hj,Za2]
   unfold ZBN ZAw at d ⊢;rw [e,Zab1] at d;exact d
  ·exact ⟨c,fun r f=>n _ (List.mem_map.2 ⟨r,f,rfl⟩),o⟩
 ·rintro ⟨c,n,o⟩
  apply Za6
  intro x;obtain ⟨t,p,M⟩:=ZET.1 x;obtain ⟨a,D,f,_⟩:=ZES.1 M
  have Q:dot g.length c (sv t a)=a t.length*dot g.length c (V g):=by
   have:dot g.length c (sv t a)=dot g.length c (fun j=>a t.length*V g j):=ZAa (fun _ _=>rfl) f
   rw [this];unfold dot;rw [←ZAV]
   exact ZAC fun i _=>by grind
  have P:dot g.length c (sv t a)≤0:=by
   have:=ZGq g.length c (t.map V) a
   show dot g.length c (sm (t.map V) a)≤0
   rw [this,Zab1]
   refine ZCs fun i hi=>?_
   have A:(t.map V).getD i (fun _=>0)=V (t.getD i []):=by simp [hi]
   rw [A]
   exact Int.mul_nonpos_of_nonneg_of_nonpos (Int.le_of_lt (D i (by omega))) (n _ (p.subset (by simp [hi])))
  have:=Int.mul_pos (D t.length (by omega)) o
  omega
end Go.Proofs.YtkjkfceblmgogaaGreat
namespace Go.Proofs.YtkjkfceblmgogaaGreat
open Go.RowKit Go.Shelf
attribute [local go_sem] Oper.semAt_some
theorem ZEU(rv gv:Value)(w:World)(ro go:Option Addr)(rn rc gn gc:Nat)(h1:rv=.slice ro rn rc)(h2:gv=.slice go gn gc):Calls Tryz.prog 98 #[rv,gv] w fun e w'=>
  e=.returned (.func (.func 125) #[] #[.pointer (some ⟨w.heap.size+1,0,none⟩),.pointer (some ⟨w.heap.size,0,none⟩)])∧w'=(w.alloc (.cells #[rv] 22)).alloc (.cells #[gv] 27):=by
 subst h1 h2;go_enter Tryz.func98,Tryz.ntmps98;go_wp2;go_ret;exact ⟨rfl,rfl⟩
theorem ZHw{B:Nat}{e:TypeId}{w W:World}{v:Value}{xs:List Value}(h:Sl B e w v xs)(hk:∀b,b < w.heap.size→W.heap[b]?=w.heap[b]?):Sl B e W v xs:=
 h.move fun b hl ht=>⟨hk b hl,ht⟩
theorem ZNO{B:Nat}{w W:World}{v:Value}{m:List (List Int)}(h:Mat B 27 3 w v m)(hk:∀b,b < w.heap.size→W.heap[b]?=w.heap[b]?):Mat B 27 3 W v m:=by
 obtain ⟨a,c,d,f⟩:=h
 exact ⟨a,c,ZHw d hk,fun i hi=>ZHw (f i hi) hk⟩
def ZBg(d:Nat):List Int:=(List.range (d+1)).map fun j=>if j=d then -1 else 0
theorem ZBD(d:Nat):(ZBg d).length=d+1:=by simp [ZBg]
def ZR2(rows:List (List Int))(d:Nat)(w:World)(tv:Value):Prop:=
 (ZAY rows (ZBg d)=[]∧tv=.agg #[.slice none 0 0,.slice none 0 0,.int .i64 0])∨
 ∃c l co cc po pc,ZAY rows (ZBg d)=c :: l∧tv=.agg #[.slice co c.length cc,.slice po c.length pc,.int .i64 1]∧Sl 0 3 w (.slice co c.length cc) (ZAB c)∧Sl 0 3 w (.slice po c.length pc) (ZAB (Lin.low ((ZAw (ZBg d) (pks rows [] c)).take c.length)))
theorem ZBt{e:TypeId}{w W:World}{ao:Option Addr}{n c:Nat}{xs:List Value}(h:Sl 0 e w (.slice ao n c) xs)(hk:∀a,ao=some a→a.block < w.heap.size→W.heap[a.block]?=w.heap[a.block]?):Sl 0 e W (.slice ao n c) xs:=by
 obtain ⟨l,s,hv,p,x,y,v⟩:=h;simp only [Za3] at hv;obtain ⟨rfl,m,rfl⟩:=hv
 refine ⟨ao,c,by rw [m],p,x,fun i hi=>?_,v⟩
 obtain ⟨b,o,j,g,d⟩:=y i hi;have r:xs[i]?=some xs[i]:=Za9 hi;have t:=ZAH (g.trans r);have f:=hk _ j t;refine ⟨b,o,j,(World.cell?_of_block (w:=w) (a:=⟨b,o+i,none⟩) f).trans g,?_⟩
 rcases d with d | ⟨cur,d⟩
 ·omega
 ·exact .inr ⟨cur,f.trans d⟩
theorem ZRc(w:World)(o1 o2 o3 o4 o5:Obj) :
  ∃W,W=((((w.alloc o1).alloc o2).alloc o3).alloc o4).alloc o5∧W.heap[w.heap.size]?=some o1∧W.heap[w.heap.size+1]?=some o2∧W.heap[w.heap.size+1+1]?=some o3∧W.heap[w.heap.size+1+1+1]?=some o4∧W.heap[w.heap.size+1+1+1+1]?=some o5∧W.heap.size=w.heap.size+5∧Below w.heap.size w W:=by
 obtain ⟨W,g,b,c,d,f,j,i⟩:=ZNA w o1 o2 o3 o4;have a:=ZAG W o5
 refine ⟨W.alloc o5,by rw [g],(a.block _ (by omega)).trans b,(a.block _ (by omega)).trans c,(a.block _ (by omega)).trans d,(a.block _ (by omega)).trans f,?_,by rw [size_alloc]; omega,i.trans (a.mono (by omega))⟩
 rw [show w.heap.size+1+1+1+1=W.heap.size by omega]; exact ZAL _ _
structure RfI(w WN:World)(S:Nat→Prop)(W:World):Prop where
 sn:∀b,S b→w.heap.size+3≤b
 kp:Kpt (fun b=>b < w.heap.size+3) WN W
 os:W.os=w.os
 tape:W.tape=w.tape
 output:W.output=w.output
structure RfX(w:World)(rows:List (List Int))(g:List Int)(S:Nat→Prop)(x:List Int)(co po:Option Addr)(cc pc:Nat)(W:World):Prop where
 sn:∀b,S b→w.heap.size+3≤b
 sz:w.heap.size+3≤W.heap.size
 os:W.os=w.os
 tape:W.tape=w.tape
 output:W.output=w.output
 block:∀b,b < w.heap.size→W.heap[b]?=w.heap[b]?
 tk:W.heap[w.heap.size]?=some (.cells #[.slice co x.length cc,.slice po x.length pc,.int .i64 1] 101 (0,0))
 ok:W.heap[w.heap.size+1]?=some (.cells #[.bool true] 4 (0,0))
 cs:Sl 0 3 W (.slice co x.length cc) (ZAB x)
 ps:Sl 0 3 W (.slice po x.length pc) (ZAB (Lin.low ((ZAw g (pks rows [] x)).take x.length)))
 cb:∀a,co=some a→¬S a.block∧isC W a.block
 pb:∀a,po=some a→¬S a.block∧isC W a.block
theorem RfI.stab{w WN W W':World}{S S':Nat→Prop}(h:RfI w WN S W)(hN:w.heap.size+3≤WN.heap.size)(hc:Chg S W W')(hs:∀b,S' b→S b∨W.heap.size≤b):RfI w WN S' W':=by
 have a:=h.kp.size
 refine ⟨fun b hb=>?_,h.kp.trans (Kpt.of_chg hc fun i _ hi hsi=>?_),hc.os.trans h.os,hc.tape.trans h.tape,hc.output.trans h.output⟩
 ·rcases hs b hb with h1 | h1
  ·exact h.sn b h1
  ·omega
 ·have:=h.sn i hsi
  omega
theorem RfX.stab{w W W':World}{rows:List (List Int)}{g:List Int}{S S':Nat→Prop}{x:List Int}{co po:Option Addr}{cc pc:Nat}(h:RfX w rows g S x co po cc pc W)(hc:Chg S W W')(hs:∀b,S' b→S b∨W.heap.size≤b):RfX w rows g S' x co po cc pc W':=by
 have f:=h.sz
 have c:∀b,b < w.heap.size+3→W'.heap[b]?=W.heap[b]?:=fun b hb=>hc.block b (by omega) (fun hx=>by have:=h.sn b hx; omega)
 have d:∀(a:Addr),¬S a.block∧isC W a.block→¬S' a.block∧isC W' a.block:=fun a ha=>⟨fun hx=>by
  rcases hs _ hx with h1 | h1
  ·exact ha.1 h1
  ·have:=ha.2.lt; omega,ha.2.keep (hc.block _ ha.2.lt ha.1)⟩
 refine ⟨fun b hb=>?_,Zaa8 f hc.size,hc.os.trans h.os,hc.tape.trans h.tape,hc.output.trans h.output,fun b hb=>(c b (by omega)).trans (h.block b hb),(c _ (by omega)).trans h.tk,(c _ (by omega)).trans h.ok,
  ZBt h.cs (fun a ha hl=>hc.block _ hl (h.cb a ha).1),ZBt h.ps (fun a ha hl=>hc.block _ hl (h.pb a ha).1),fun a ha=>d a (h.cb a ha),fun a ha=>d a (h.pb a ha)⟩
 rcases hs b hb with h1 | h1
 ·exact h.sn b h1
 ·omega
theorem ZCu(rows:List (List Int))(g:List Int)(W:World)(S:Nat→Prop)(x:List Int)(vs:Array Value)(W':World)(h:ZDY rows g W S x vs)(hb:Below W.heap.size W W'):ZDY rows g W' S x vs:=by
 obtain ⟨f,n,l,j,m,p,r,o,d,c,i⟩:=h
 exact ⟨f,n,l,j,m,p,r.below hb (Za4 _),o.below hb (Za4 _),fun a ha=>⟨(d a ha).1,(d a ha).2.keep (hb.block _ (d a ha).2.lt)⟩,fun a ha=>⟨(c a ha).1,(c a ha).2.keep (hb.block _ (c a ha).2.lt)⟩,fun b hb'=>Nat.lt_of_lt_of_le (i b hb') hb.size⟩
theorem ZOc{W:World}{v:Value}{xs:List Value}{l:Nat}{r:Loop}(o:Obj)(h:Sl 0 3 W v xs)(hl:W.heap[l]?=some (.loop r)):Sl 0 3 (W.putObj l o) v xs:=
 h.move fun b hb ht=>⟨World.putObj_heap_other (fun e=>by
  subst e
  rcases ht with ht | ⟨c,ht⟩
  ·omega
  ·rw [hl] at ht; cases ht),ht⟩
theorem ZEV(rows:List (List Int))(g:List Int)(W:World)(S:Nat→Prop)(x:List Int)(vs:Array Value)(l:Nat)(r:Loop)(o:Obj)(h:ZDY rows g W S x vs)(hl:W.heap[l]?=some (.loop r)):ZDY rows g (W.putObj l o) S x vs:=by
 obtain ⟨m,y,s,p,v,A,B,z,j,f,n⟩:=h
 have i:∀b,isC W b→isC (W.putObj l o) b:=fun b d=>d.keep (World.putObj_heap_other (fun e=>by
  subst e;obtain ⟨c,t,d⟩:=d;rw [hl] at d; cases d))
 exact ⟨m,y,s,p,v,A,ZOc o B hl,ZOc o z hl,fun a ha=>⟨(j a ha).1,i _ (j a ha).2⟩,fun a ha=>⟨(f a ha).1,i _ (f a ha).2⟩,fun b d=>by simpa using n b d⟩
theorem ZGt{w6:World}{R:Nat}(a b c e:Value){c0:Array Value}{x0 x1 x2 y0:Value}(hc0:c0=#[x0,x1,x2])(h1:w6.heap[R]?=some (.cells c0 101 (0,0)))(h2:w6.heap[R+1]?=some (.cells #[y0] 4 (0,0))) :
  ∃Ws,Ws=(((w6.setCell ⟨R,0,none⟩ a).setCell ⟨R,1,none⟩ b).setCell ⟨R,2,none⟩ c).setCell ⟨R+1,0,none⟩ e∧Ws.heap[R]?=some (.cells #[a,b,c] 101 (0,0))∧Ws.heap[R+1]?=some (.cells #[e] 4 (0,0))∧(∀k,k≠R→k≠R+1→Ws.heap[k]?=w6.heap[k]?)∧Ws.heap.size=w6.heap.size∧Ws.os=w6.os∧Ws.tape=w6.tape∧Ws.output=w6.output:=by
 subst hc0
 have g:(w6.setCell ⟨R,0,none⟩ a).heap[R]?=some (.cells #[a,x1,x2] 101 (0,0)):=by simp [World.setCell,Array.getElem?_modify,h1]
 have i:((w6.setCell ⟨R,0,none⟩ a).setCell ⟨R,1,none⟩ b).heap[R]?=some (.cells #[a,b,x2] 101 (0,0)):=by rw [World.setCell]; simp [Array.getElem?_modify,g]
 have f:(((w6.setCell ⟨R,0,none⟩ a).setCell ⟨R,1,none⟩ b).setCell ⟨R,2,none⟩ c).heap[R]?=some (.cells #[a,b,c] 101 (0,0)):=by rw [World.setCell]; simp [Array.getElem?_modify,i]
 have d:(((w6.setCell ⟨R,0,none⟩ a).setCell ⟨R,1,none⟩ b).setCell ⟨R,2,none⟩ c).heap[R+1]?=some (.cells #[y0] 4 (0,0)):=by
  rw [Below.heap_setCell _ _ _ _ (by simp),Below.heap_setCell _ _ _ _ (by simp),Below.heap_setCell _ _ _ _ (by simp)]; exact h2
 refine ⟨_,rfl,?_,?_,fun k h3 h4=>?_,by simp [World.setCell],rfl,rfl,rfl⟩
 ·rw [Below.heap_setCell _ _ _ _ (by simp)]; exact f
 ·rw [World.setCell]; simp [Array.getElem?_modify,d]
 ·rw [Below.heap_setCell _ _ _ _ h4,Below.heap_setCell _ _ _ _ h3,Below.heap_setCell _ _ _ _ h3,Below.heap_setCell _ _ _ _ h3]
theorem ZGu(rows:List (List Int))(d:Nat)(v:Value)(w:World)(hv:Mat w.heap.size 27 3 w v rows)(hr:∀r∈rows,r.length=d+1∧∀z∈r,z.natAbs≤60)(hdF:d≤3∨(d≤4∧∀r∈rows,∀z∈r,z.natAbs≤20))(hrl:rows.length≤1000) :
  Calls Tryz.prog 74 #[v,.int .i64 d] w fun e w'=>∃tv,e=.returned (.tuple #[tv,.bool (!(ZAY rows (ZBg d)).isEmpty)])∧ZR2 rows d w' tv∧Below w.heap.size w w':=by
 obtain ⟨ro,rc,bu,bC,bE⟩:=ZAD hv;subst bu
 have aW:=run_make_row' (P:=Tryz.prog) 27 3 (.int .i64 0) 8 Tryz.underlying27 Tryz.info3 rfl .i64 .i64 (d+1) (by omega) (by omega)
 have HV:Hid (Mat w.heap.size 27 3 w (.slice ro rows.length rc) rows):=hv;have HR:=hid hr
 have hd:d≤4:=by rcases hdF with h | h <;> omega
 have bt:ZJ5 (ZBg d).length rows (ZBg d):=by
  rw [ZBD]
  rcases hdF with h | ⟨h,h20⟩
  ·exact .inl (by omega)
  ·exact .inr ⟨by omega,h20,fun z F=>by
    simp only [ZBg,List.mem_map] at F;obtain ⟨j,_,rfl⟩:=F
    split <;> decide⟩
 have bq:(d:Int) < ((d+1:Nat):Int):=by omega
 have bw:(0:Int)≤(d:Int):=by omega
 have aU:(((d+1:Nat):Int))=(d:Int)+1:=by omega
 have bl:(madeCells #[.int .i64 0] (d+1))[d]?=some (.int .i64 0):=by
  rw [←Array.getElem?_toList,toList_madeCells_one]; simp
 rw [aU] at aW bq;clear hv hr aU;refine callsIn_wide (n:=0).1 ?_;refine callsIn_of_wp_marks Tryz.func74 rfl trivial ?_ rfl;simp only [Tryz.ntmps74,List.size_toArray,List.length_cons,List.length_nil,Nat.reduceAdd,Nat.reduceSub,Array.replicate_succ,Array.replicate_zero,List.push_toArray,List.append_toArray,List.nil_append,List.cons_append]
 gi_wp2_with (refine ⟨trivial,rfl,?_⟩; gi_at_call 98; refine (callsIn_wide.2 (ZEU _ _ _ _ _ _ _ _ _ rfl rfl)).mono ?_; rintro e w' ⟨rfl,rfl⟩)
 obtain ⟨WN,bg,n1,n2,n3,n4,n5,aX,ae⟩:=ZRc w (.cells #[.slice none 0 0,.slice none 0 0,.int .i64 0] 101) (.cells #[.bool false] 4) (.cells ((madeCells #[.int .i64 0] (d+1)).setIfInBounds d (.int .i64 (-1))) 3) (.cells #[.slice ro rows.length rc] 22) (.cells #[.slice (some ⟨w.heap.size+1+1,0,none⟩) (d+1) (d+1)] 27);rw [←bg];clear bg
 have aj:WN.rowIs (w.heap.size+1+1) 3 (d+1) (fun j=>if j=d then .int .i64 (-1) else .int .i64 0):=by
  refine ⟨_,n3,?_,fun i D=>?_⟩
  ·simp only [Array.size_setIfInBounds]
   rw [←Array.length_toList,toList_madeCells_one]; simp
  ·rw [Array.getElem?_setIfInBounds]
   by_cases e:d=i
   ·subst e
    have F:d < (madeCells #[.int .i64 0] (d+1)).size:=by rw [←Array.length_toList,toList_madeCells_one]; simp
    simp [F]
   ·rw [if_neg e,←Array.getElem?_toList,toList_madeCells_one]
    simp [D,show ¬i=d from fun h=>e h.symm]
 have aZ:Sl 0 3 WN (.slice (some ⟨w.heap.size+1+1,0,none⟩) (d+1) (d+1)) (ZAB (ZBg d)):=by
  refine Sl.row' aj (by unfold maxLen; omega) (by simp [ZBg]) (fun i D=>?_)
  rw [ZAZ _ _ (by rw [ZBD]; exact D)]
  by_cases e:i=d
  ·subst e; simp [ZBg]
  ·simp [ZBg,D,e]
 have aF:ZPF Tryz.prog 125 #[.pointer (some ⟨w.heap.size+1+1+1+1,0,none⟩),.pointer (some ⟨w.heap.size+1+1+1,0,none⟩)] (ZDY rows (ZBg d)) (ZAY rows (ZBg d)) (fun b=>b < w.heap.size∨b=w.heap.size+1+1) (fun b=>b=w.heap.size+1+1+1+1∨b=w.heap.size+1+1+1) WN:=
  ZGr w.heap.size _ _ rows (ZBg d) ro (some ⟨w.heap.size+1+1,0,none⟩) rc (d+1) _ WN (by rw [ZBD]; exact ZAc n5) (ZAc n4)
   (fun W hk=>ZNO HV.out (fun b A=>(hk.block b (by omega) (.inl A)).trans (ae.block b A)))
   (fun W hk=>by rw [ZBD]; exact (ZBt aZ (fun a ha _=>by cases ha; exact hk.block _ (by show w.heap.size+1+1 < _; omega) (.inr rfl))).more (Za5 _))
   (fun b A=>by omega) (fun r hr=>⟨by rw [ZBD,(HR.out r hr).1]; exact Za4 _,(HR.out r hr).2⟩) (fun z F=>by
    simp only [ZBg,List.mem_map] at F;obtain ⟨j,_,rfl⟩:=F
    split <;> decide) (by rw [ZBD]; omega) bt hrl
 have N:=hid aX
 have bp:Hid (RfI w WN (fun b=>b=w.heap.size+1+1+1+1∨b=w.heap.size+1+1+1) WN):=⟨fun b A=>by omega,Kpt.refl _ _,ae.os,ae.tape,ae.output⟩
 have ar:Hid (WN.heap[w.heap.size]?=some (.cells #[.slice none 0 0,.slice none 0 0,.int .i64 0] 101 (0,0))∧WN.heap[w.heap.size+1]?=some (.cells #[.bool false] 4 (0,0))):=⟨n1,n2⟩;have aV:=hid ae;clear n1 n2 n3 n4 n5 aj aZ ae bl aW
 refine ZDW (R:=ZDY rows (ZBg d)) (cs:=ZAY rows (ZBg d)) (T:=fun b=>b < w.heap.size∨b=w.heap.size+1+1) (S0:=fun b=>b=w.heap.size+1+1+1+1∨b=w.heap.size+1+1+1) (gf:=125) (lb:=#[.pointer (some ⟨w.heap.size+1+1+1+1,0,none⟩),.pointer (some ⟨w.heap.size+1+1+1,0,none⟩)]) rfl (enters_of Tryz.func125 (by kernel_rfl) rfl) aF (fun b A=>by omega)
  (fun f S x vs ⟨_,_,_,_,g,_⟩=>by rw [g]; rfl) (ZCu _ _) (ZEV _ _)
  (fun S U f=>U=[]∧RfI w WN S f)
  (fun c S U f=>c=.ret∧∃x V po X pc,U=[x]∧RfX w rows (ZBg d) S x V po X pc f)
  (fun S S' U f W'' h hc hs=>⟨h.1,h.2.stab (by have:=N.out; omega) hc hs⟩) (fun c S S' U f W'' ⟨g,x,V,po,X,pc,G,J⟩ hc hs=>⟨g,x,V,po,X,pc,G,J.stab hc hs⟩) ⟨rfl,bp.out⟩
  (fun vs a' f=>∃p q u bx,vs=#[.agg #[p,q,u]]∧f.heap[bx]?=some (.cells #[p,q,u] 101 (0,0))∧a' = { tmps:=#[.slice ro rows.length rc,.int .i64 d,undef,undef,.pointer (some ⟨w.heap.size,0,none⟩),.pointer (some ⟨w.heap.size+1,0,none⟩),.slice (some ⟨w.heap.size+1+1,0,none⟩) (d+1) (d+1),.pointer (some ⟨bx,0,none⟩),.int .i64 d,.int .i64 ((d:Int)+1),.slice (some ⟨w.heap.size+1+1,0,none⟩) (d+1) (d+1),.slice (some ⟨w.heap.size+1+1,0,none⟩) (d+1) (d+1),.int .i64 d,.pointer (some ⟨w.heap.size+1+1,d,none⟩),.slice ro rows.length rc,.slice (some ⟨w.heap.size+1+1,0,none⟩) (d+1) (d+1),.func (.func 125) #[] #[.pointer (some ⟨w.heap.size+1+1+1+1,0,none⟩),.pointer (some ⟨w.heap.size+1+1+1,0,none⟩)],.agg #[p,q,u],undef,undef,undef,undef,undef,undef,undef],defers:=[] })
  ?hax ?assign ?body ?tl ?done ?stop
 case hax=>
  rintro vs a' f l r o ⟨p,q,u,bx,g,G,J⟩ hl
  exact ⟨p,q,u,bx,g,(World.putObj_heap_other (fun e=>by subst e; rw [hl] at G; cases G)).trans G,J⟩
 case tl=>rintro (h | h) <;> omega
 case assign=>
  rintro S x vs f K ⟨V,X,mo,mc,rfl,G,J⟩ hK
  gi_wp2
  exact hK _ _ (ZAG _ _) ⟨_,_,_,f.heap.size,rfl,ZAL _ _,rfl⟩
 case body=>
  rintro S U x vs a' y ⟨rfl,D⟩ aT bF bz E aq Y ⟨S1,⟨V,X,mo,mc,aS,an,aN,aE,aP,bk,az⟩,aB⟩ ⟨p,q,u,bx,ah,ag,rfl⟩;rw [aS] at ah;simp only [Array.mk.injEq,List.cons.injEq,Value.agg.injEq,and_true] at ah;obtain ⟨rfl,rfl,rfl⟩:=ah
  have af:x∈ZAY rows (ZBg d):=Y.subset (by simp)
  obtain ⟨L,hL⟩:∃L,L=(ZAw (ZBg d) (pks rows [] x)).take x.length:=⟨_,rfl⟩
  have aO:(pks rows [] x).length=x.length:=by simp [pks]
  have bB:x.length≤d+1:=by
   simp only [ZAY,ZAx,List.mem_flatMap,List.mem_range,List.mem_filter] at af;obtain ⟨m,hm,aC,_⟩:=af;have g:=(ZBk aC).1;rw [ZBD] at hm;omega
  have ai:∀t,t < x.length→0≤x.getD t 0∧x.getD t 0 < rows.length:=by
   simp only [ZAY,ZAx,List.mem_flatMap,List.mem_range,List.mem_filter] at af;obtain ⟨m,hm,aC,_⟩:=af;obtain ⟨g,G,_⟩:=ZBk aC;intro t s
   have:=G t (by omega)
   exact ⟨by omega,this.2⟩
  have aM:∀r∈pks rows [] x,r∈rows:=fun r hr=>by
   simp only [pks,List.mem_map] at hr;obtain ⟨i,bv,rfl⟩:=hr;obtain ⟨t,s,rfl⟩:=List.getElem_of_mem bv;have g:=ai t s;rw [Za2,Za9 s] at g;simp only [Option.getD_some] at g
   rw [Za2,Za9 (by omega)]
   exact List.getElem_mem _
  have aG:∀Bq:Nat,1≤Bq→(∀r∈rows,∀z∈r,z.natAbs≤Bq)→∀r∈ZA0 (ZBg d) (pks rows [] x),∀z∈r,z.natAbs≤Bq:=fun Bq hq hrq r h z F=>by
   simp only [ZA0,List.mem_map] at h;obtain ⟨i,_,rfl⟩:=h;simp only [ZFu,List.mem_append,List.mem_map,List.mem_singleton] at F
   rcases F with ⟨r,g,rfl⟩ | rfl
   ·by_cases e:i < r.length
    ·exact hrq r (aM r g) _ (by simp [e])
    ·simp [Zaa6 (Nat.le_of_not_lt e)]
   ·by_cases e:i < (ZBg d).length
    ·have F:(ZBg d).getD i 0=if i=d then -1 else 0:=by
      rw [ZBD] at e;simp [ZBg,e]
     rw [F]
     split <;> simp <;> omega
    ·simp [Zaa6 (Nat.le_of_not_lt e)]
  have aQ:∀z∈ZAO (x.length+1) (ZA0 (ZBg d) (pks rows [] x)),z.natAbs≤1000000000000:=fun z F=>by
   rcases hdF with h | ⟨h,h20⟩
   ·have g:=ZFv (B:=60) (aG 60 (by decide) fun r hr=>(HR.out r hr).2) z F
    have G:Lin.fb 60 (x.length+1-1)≤Lin.fb 60 4:=ZAz (by decide) (by omega)
    have J:Lin.fb 60 4=311040000:=by decide
    omega
   ·have g:=ZFv (B:=20) (aG 20 (by decide) h20) z F
    have G:Lin.fb 20 (x.length+1-1)≤Lin.fb 20 5:=ZAz (by decide) (by omega)
    have J:Lin.fb 20 5=384000000:=by decide
    omega
  have aK:L.length=x.length:=by
   have A:ZAp ((pks rows [] x).length+1) (ZA0 (ZBg d) (pks rows [] x))=true:=by
    unfold ZBN at an;rw [Bool.and_eq_true] at an;exact an.1
   have:=ZAy A;rw [hL];simp only [ZAw,List.length_take,this];omega
  have bh:∀z∈L,z.natAbs≤4611686018427387904:=fun z F=>by
   rw [hL] at F;have g:=Zaa7 F;unfold ZAw at g;rw [aO] at g;have:=aQ z g;omega
  rw [←hL] at aE;have aY:=(Zaa3.1 ag).1
  have r1:y.heap[w.heap.size]?=some (.cells #[.slice none 0 0,.slice none 0 0,.int .i64 0] 101 (0,0)):=(D.kp.block _ (by have:=N.out; omega) (by omega)).trans ar.out.1
  have r2:y.heap[w.heap.size+1]?=some (.cells #[.bool false] 4 (0,0)):=(D.kp.block _ (by have:=N.out; omega) (by omega)).trans ar.out.2
  have aa:∀b,b < w.heap.size+3→y.heap[b]?=WN.heap[b]?:=fun b A=>D.kp.block b (by have:=N.out; omega) A
  have bA:w.heap.size+3≤y.heap.size:=by have:=D.kp.size; have:=N.out; omega
  have aJ:Hid (Calls Tryz.prog 99 #[.slice mo x.length mc] y.drew fun e w'=>∃O Q,e=.returned (.slice O x.length Q)∧w'.ownsRow y.heap.size 3 1 (.slice O x.length Q) x.length (ZAB (Lin.low L))∧Below y.heap.size y.drew w'∧
    w'.cell? ⟨bx,0,none⟩=some (.slice V x.length X)∧w'.cell? ⟨w.heap.size,0,none⟩=some (.slice none 0 0)∧w'.cell? ⟨w.heap.size,1,none⟩=some (.slice none 0 0)∧w'.cell? ⟨w.heap.size,2,none⟩=some (.int .i64 0)∧w'.cell? ⟨w.heap.size+1,0,none⟩=some (.bool false)∧
    w'.frozen? ⟨w.heap.size,0,none⟩=false∧w'.frozen? ⟨w.heap.size,1,none⟩=false∧w'.frozen? ⟨w.heap.size,2,none⟩=false∧w'.frozen? ⟨w.heap.size+1,0,none⟩=false):=by
   have h:=ZB4 0 L (.slice mo x.length mc) y.drew aE (by omega) bh
   refine h.mono ?_;rintro e w' ⟨u',rfl,g,G⟩;rw [aK] at g;obtain ⟨O,Q,rfl⟩:=ZAE g;have q0:w'.heap[bx]?=_:=(G.block _ aY).trans ag
   have q1:w'.heap[w.heap.size]?=_:=(G.block _ (by show _ < y.heap.size; omega)).trans r1
   have q2:w'.heap[w.heap.size+1]?=_:=(G.block _ (by show _ < y.heap.size; omega)).trans r2
   exact ⟨O,Q,rfl,g,G,by simp [World.cell?,q0],by simp [World.cell?,q1],by simp [World.cell?,q1],by simp [World.cell?,q1],by simp [World.cell?,q2],by simp [World.frozen?,q1],by simp [World.frozen?,q1],by simp [World.frozen?,q1],by simp [World.frozen?,q2]⟩
  have b0:y.cell? ⟨bx,0,none⟩=some (.slice V x.length X):=by simp [World.cell?,ag]
  have b1:y.cell? ⟨bx,1,none⟩=some (.slice mo x.length mc):=by simp [World.cell?,ag]
  have ay:Hid (∀O Q w6,w6.ownsRow y.heap.size 3 1 (.slice O x.length Q) x.length (ZAB (Lin.low L))∧Below y.heap.size y.drew w6→
    Kpt (fun b=>S b∨b < w.heap.size∨b=w.heap.size+1+1) y ((((w6.setCell ⟨w.heap.size,0,none⟩ (.slice V x.length X)).setCell ⟨w.heap.size,1,none⟩ (.slice O x.length Q)).setCell ⟨w.heap.size,2,none⟩ (.int .i64 1)).setCell ⟨w.heap.size+1,0,none⟩ (.bool true))∧
    RfX w rows (ZBg d) S x V O X Q ((((w6.setCell ⟨w.heap.size,0,none⟩ (.slice V x.length X)).setCell ⟨w.heap.size,1,none⟩ (.slice O x.length Q)).setCell ⟨w.heap.size,2,none⟩ (.int .i64 1)).setCell ⟨w.heap.size+1,0,none⟩ (.bool true))):=by
   rintro O Q w6 ⟨ho,A⟩
   have M:∀k,k < y.heap.size→w6.heap[k]?=y.heap[k]?:=fun k hk=>A.block k hk
   have bG:y.heap.size≤w6.heap.size:=A.size
   obtain ⟨Ws,ak,f1,f2,f3,f4,f5,f6,f7⟩:=ZGt (w6:=w6) (R:=w.heap.size) (.slice V x.length X) (.slice O x.length Q) (.int .i64 1) (.bool true) rfl ((M _ (by omega)).trans r1) ((M _ (by omega)).trans r2)
   rw [←ak];clear ak
   have aI:∀b,S b→b < y.heap.size:=fun b hb'=>by
    rcases (aB b).1 hb' with h | h | h
    ·exact az b h
    ·omega
    ·omega
   have ty:∀{v:Value} {xs:List Value},Sl 0 3 w6 v xs→Sl 0 3 Ws v xs:=fun h=>h.move fun k hl s=>⟨f3 k (fun e=>by
     subst e
     rcases s with s | ⟨c,s⟩
     ·omega
     ·rw [M _ (by omega),r1] at s; simp at s) (fun e=>by
     subst e
     rcases s with s | ⟨c,s⟩
     ·omega
     ·rw [M _ (by omega),r2] at s; simp at s),s⟩
   refine ⟨⟨by omega,fun k hk hs=>?_⟩,D.sn,by omega,by rw [f5]; exact A.os.trans D.os,by rw [f6]; exact A.tape.trans D.tape,by rw [f7]; exact A.output.trans D.output,fun k hk=>?_,f1,f2,ty (ZHw aN (fun k hk=>M k hk)),by rw [←hL]; exact ty (Sl.own ho),fun a ha=>?_,fun a ha=>?_⟩
   ·have aR:k≠w.heap.size∧k≠w.heap.size+1:=by
     rcases hs with hs | hs | hs
     ·have:=D.sn k hs; omega
     ·omega
     ·omega
    exact (f3 k aR.1 aR.2).trans (M k hk)
   ·exact (f3 k (by omega) (by omega)).trans ((M k (by omega)).trans ((aa k (by omega)).trans (aV.out.block k hk)))
   ·obtain ⟨g,G⟩:=aP a ha
    obtain ⟨bj,t,J⟩:=G;have bi:=(Zaa3.1 J).1
    refine ⟨fun hx=>?_,?_⟩
    ·rcases (aB _).1 hx with h | h | h
     ·exact g h
     ·rw [h] at J; rw [E] at J; cases J
     ·obtain ⟨r,aq⟩:=aq; rw [h] at J; rw [aq] at J; cases J
    ·by_cases e1:a.block=w.heap.size
     ·exact ⟨_,_,by rw [e1]; exact f1⟩
     ·by_cases e2:a.block=w.heap.size+1
      ·exact ⟨_,_,by rw [e2]; exact f2⟩
      ·exact ⟨bj,t,(f3 _ e1 e2).trans ((M _ bi).trans J)⟩
   ·rcases ho.2 with ⟨g,_⟩ | ⟨g',cap',cur',g,G,J,_⟩
    ·simp only [Za3] at g; rw [g.1] at ha; cases ha
    ·simp only [Za3] at g
     rw [g.1] at ha
     cases ha
     refine ⟨fun hx=>?_,cur',_,(f3 g' (by omega) (by omega)).trans J⟩
     have:=aI g' hx;omega
  clear D aN aE aP bk az aB E aq Y an af ai aM aG aQ bh aK r1 r2 aa aS ag hL aO HV HR
  gi_wp2
  gi_region_with (refine ⟨trivial,rfl,?_⟩; gi_at_call 99; refine (CallsIn.inRound _ (callsIn_wide.2 aJ.out)).mono ?_; rintro e w6 ⟨O,Q,rfl,aA,aL,z0,z1,z2,z3,z4,z5,z6,z7,z8⟩; have HU:Hid (w6.ownsRow y.heap.size 3 1 (.slice O x.length Q) x.length (ZAB (Lin.low L))∧Below y.heap.size y.drew w6):=⟨aA,aL⟩; clear aA aL)
  all_goals
   have HF:=ay.out O Q w6 HU.out;clear z0 z1 z2 z3 z4 z5 z6 z7 z8 aJ ay b0 b1
   gi_wp2
   exact ⟨HF.1,rfl,x,V,O,X,Q,rfl,HF.2⟩
 case done=>
  rintro S f ⟨au,D⟩ aT E;have aH:=N.out;have aD:=D.kp.size
  have r1:f.heap[w.heap.size]?=some (.cells #[.slice none 0 0,.slice none 0 0,.int .i64 0] 101 (0,0)):=(D.kp.block _ (by omega) (by omega)).trans ar.out.1
  have r2:f.heap[w.heap.size+1]?=some (.cells #[.bool false] 4 (0,0)):=(D.kp.block _ (by omega) (by omega)).trans ar.out.2
  have k0:f.cell? ⟨w.heap.size,0,none⟩=some (.slice none 0 0):=by simp [World.cell?,r1]
  have k1:f.cell? ⟨w.heap.size,1,none⟩=some (.slice none 0 0):=by simp [World.cell?,r1]
  have k2:f.cell? ⟨w.heap.size,2,none⟩=some (.int .i64 0):=by simp [World.cell?,r1]
  have k3:f.cell? ⟨w.heap.size+1,0,none⟩=some (.bool false):=by simp [World.cell?,r2]
  have f0:f.frozen? ⟨w.heap.size,0,none⟩=false:=by simp [World.frozen?,r1]
  have f1:f.frozen? ⟨w.heap.size,1,none⟩=false:=by simp [World.frozen?,r1]
  have f2:f.frozen? ⟨w.heap.size,2,none⟩=false:=by simp [World.frozen?,r1]
  have f3:f.frozen? ⟨w.heap.size+1,0,none⟩=false:=by simp [World.frozen?,r2]
  have HF:Hid (∃Ws,Ws=(((f.setCell ⟨w.heap.size,0,none⟩ (.slice none 0 0)).setCell ⟨w.heap.size,1,none⟩ (.slice none 0 0)).setCell ⟨w.heap.size,2,none⟩ (.int .i64 0)).setCell ⟨w.heap.size+1,0,none⟩ (.bool false)∧Ws.heap[w.heap.size]?=some (.cells #[.slice none 0 0,.slice none 0 0,.int .i64 0] 101 (0,0))∧Ws.heap[w.heap.size+1]?=some (.cells #[.bool false] 4 (0,0))∧(∀k,k≠w.heap.size→k≠w.heap.size+1→Ws.heap[k]?=f.heap[k]?)∧Ws.heap.size=f.heap.size∧Ws.os=f.os∧Ws.tape=f.tape∧Ws.output=f.output):=ZGt _ _ _ _ rfl r1 r2
  have HI:=hid D;have am:=hid E;have aw:Hid (ZAY rows (ZBg d)=[]):=au.symm ▸ rfl;clear D E au r1 r2 aX aD aH aF
  gi_wp2
  obtain ⟨Ws,ak,g1,g2,g3,g4,g5,g6,g7⟩:=HF.out;rw [←ak];have aH:=N.out;have aD:=HI.out.kp.size
  have aa:∀b,b < w.heap.size→f.heap[b]?=w.heap[b]?:=fun b A=>(HI.out.kp.block b (by omega) (by omega)).trans (aV.out.block b A)
  refine ZAq [WN.heap.size] Ws (by simp) (fun r hr=>?_) (fun w' hc=>⟨.tuple #[.agg #[.slice none 0 0,.slice none 0 0,.int .i64 0],.bool false],?_,?_⟩)
  ·simp only [List.mem_singleton] at hr
   subst hr
   exact (g3 _ (by omega) (by omega)).trans am.out
  ·have q1:w'.heap[w.heap.size]?=_:=(hc.block _ (by omega) (by simp; omega)).trans g1
   have q2:w'.heap[w.heap.size+1]?=_:=(hc.block _ (by omega) (by simp; omega)).trans g2
   simp [results,Tryz.results74,go_sem,World.cell?,q1,q2]
  ·refine ⟨_,by rw [aw.out]; rfl,.inl ⟨aw.out,rfl⟩,hc.os.trans (g5.trans HI.out.os),hc.tape.trans (g6.trans HI.out.tape),hc.output.trans (g7.trans HI.out.output),by have:=hc.size; omega,fun b A=>?_⟩
   exact (hc.block b (by omega) (by simp; omega)).trans ((g3 b (by omega) (by omega)).trans (aa b A))
 case stop=>
  rintro c S U f Y ⟨rfl,x,V,po,X,pc,rfl,hx⟩ aT E;have aH:=N.out;have aD:=hx.sz;have bD:=(Zaa3.1 E).1;obtain ⟨t,s⟩:=Y;have HT:Hid (ZAY rows (ZBg d)=x :: t):=s.symm;have HX:=hid hx;have am:=hid E;clear hx E s aF
  gi_wp2
  have ty:∀(w':World),Chg (fun b=>b∈[WN.heap.size]) f w'→∀{v:Value} {xs:List Value},Sl 0 3 f v xs→Sl 0 3 w' v xs:=fun w' hc v xs h=>h.move fun k hl s=>⟨hc.block k hl (fun e=>by
     simp only [List.mem_singleton] at e;subst e
     rcases s with s | ⟨c,s⟩
     ·omega
     ·rw [am.out] at s; cases s),s⟩
  refine ZAq [WN.heap.size] f (by simp) (fun r hr=>?_) (fun w' hc=>⟨.tuple #[.agg #[.slice V x.length X,.slice po x.length pc,.int .i64 1],.bool true],?_,?_⟩)
  ·simp only [List.mem_singleton] at hr
   subst hr;exact am.out
  ·have q1:w'.heap[w.heap.size]?=_:=(hc.block _ (by omega) (by simp; omega)).trans HX.out.tk
   have q2:w'.heap[w.heap.size+1]?=_:=(hc.block _ (by omega) (by simp; omega)).trans HX.out.ok
   simp [results,Tryz.results74,go_sem,World.cell?,q1,q2]
  ·refine ⟨_,by rw [HT.out]; rfl,.inr ⟨x,t,V,X,po,pc,HT.out,rfl,ty w' hc HX.out.cs,ty w' hc HX.out.ps⟩,hc.os.trans HX.out.os,hc.tape.trans HX.out.tape,hc.output.trans HX.out.output,by have:=hc.size; omega,fun b A=>?_⟩
   exact (hc.block b (by omega) (by simp; omega)).trans (HX.out.block b A)
end Go.Proofs.YtkjkfceblmgogaaGreat
