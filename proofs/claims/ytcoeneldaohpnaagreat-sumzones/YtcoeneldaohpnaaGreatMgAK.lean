import Derived.Test.YtcoeneldaohpnaaGreatMgAB
import Derived.Test.YtcoeneldaohpnaaGreatMgAJ
namespace Go.Proofs.YtcoeneldaohpnaaGreat
open Go.Shelf Go.RowKit Go.Lib Go.Sort
theorem cmpL_self:∀x,cmpL x x=0
 | []=>rfl
 | a :: x=>by simp [cmpL,cmpL_self x]
theorem cmpL_trans:∀x y z,cmpL x y < 0→cmpL y z < 0→cmpL x z < 0
 | [],[],_,h,_=>by simp [cmpL] at h
 | [],b :: y,[],_,h=>by simp [cmpL] at h
 | [],b :: y,c :: z,_,_=>by simp [cmpL]
 | a :: x,[],_,h,_=>by simp [cmpL] at h
 | a :: x,b :: y,[],_,h=>by simp [cmpL] at h
 | a :: x,b :: y,c :: z,h1,h2=>by
  have ih:=cmpL_trans x y z
  simp only [cmpL] at *
  split at h1 <;> split at h2 <;> split <;> (try split at h1) <;> (try split at h2) <;> (try split) <;> first | omega | (exact ih h1 h2)
theorem cmpL_ntrans:∀x y z,¬cmpL x y < 0→¬cmpL y z < 0→¬cmpL x z < 0
 | [],[],z,_,h=>h
 | [],b :: y,_,h,_=>by simp [cmpL] at h
 | a :: x,[],[],_,_=>by simp [cmpL]
 | a :: x,[],c :: z,_,h=>by simp [cmpL] at h
 | a :: x,b :: y,[],_,_=>by simp [cmpL]
 | a :: x,b :: y,c :: z,h1,h2=>by
  have ih:=cmpL_ntrans x y z
  simp only [cmpL] at *
  split at h1 <;> split at h2 <;> split <;> (try split at h1) <;> (try split at h2) <;> (try split) <;> first | omega | (exact ih h1 h2)
def RA (w:World):Type:={ p:Value×List Int // Sl 0 3 w p.1 (ints p.2) }
instance (w:World):Inhabited (RA w):=⟨⟨(.slice none 0 0,[]),Sl.nil _ _ _⟩⟩
def RA.enc {w:World} (x:RA w):Value:=x.1.1
def RA.cf {w:World} (x y:RA w):Int:=cmpL x.1.2 y.1.2
theorem RA.swo (w:World):SWO (ltOf (RA.cf (w:=w))) where
 irrefl x:=by simp [ltOf,RA.cf,cmpL_self]
 trans x y z h1 h2:=by
  exact decide_eq_true (cmpL_trans _ _ _ (of_decide_eq_true h1) (of_decide_eq_true h2))
 ntrans x y z h1 h2:=by
  exact decide_eq_false (cmpL_ntrans _ _ _ (of_decide_eq_false h1) (of_decide_eq_false h2))
theorem RA.one (w:World):OneCell (RA.enc (w:=w)):=fun x=>by
 obtain ⟨ao,cap,h,_⟩:=x.2
 show x.1.1.oneCell'=true
 rw [h]; rfl
theorem sortWorld_block {α:Type} [Inhabited α] (enc:α→Value) (w:World) (g off q:Nat) (d:Array α) (os:Array Obj) (b:Nat) (hb:b < w.heap.size) (hne:b≠g):(sortWorld enc w g off q d os).heap[b]?=w.heap[b]?:=by
 show ((w.heap.modify g _) ++ os)[b]?=_
 rw [Array.getElem?_append_left (by simpa using hb),Array.getElem?_modify,if_neg (fun e=>hne e.symm)]
theorem sortWorld_size {α:Type} [Inhabited α] (enc:α→Value) (w:World) (g off q:Nat) (d:Array α) (os:Array Obj):w.heap.size≤(sortWorld enc w g off q d os).heap.size:=by
 show w.heap.size≤((w.heap.modify g _) ++ os).size
 simp
theorem sortWorld_sl {α:Type} [Inhabited α] {enc:α→Value} {w:World} {g off q:Nat} {d:Array α} {os:Array Obj} {cur:Array Value} {v:Value} {xs:List Value} (hg:w.heap[g]?=some (.cells cur 26 (0,0))) (h:Sl 0 3 w v xs):Sl 0 3 (sortWorld enc w g off q d os) v xs:=
 h.move fun b hl ht=>by
  rcases ht with ht | ⟨c,ht⟩
  ·omega
  ·have hne:b≠g:=by
    rintro rfl
    rw [hg] at ht
    simp at ht
   exact ⟨sortWorld_block _ _ _ _ _ _ _ b hl hne,Or.inr ⟨c,ht⟩⟩
theorem sortWorld_row {α:Type} [Inhabited α] (enc:α→Value) (w:World) (g q cap:Nat) (d:Array α) (os:Array Obj) (f:Nat→Value) (h:w.rowIs g 26 cap f):(sortWorld enc w g 0 q d os).rowIs g 26 cap (fun k=>if k < d.size then enc d[k]! else f k):=by
 obtain ⟨c,h1,h2,h3⟩:=h
 have hl:=lt_of_block h1
 refine ⟨putCells enc 0 d c,?_,by simp [putCells,h2],fun i hi=>?_⟩
 ·show ((w.heap.modify g _) ++ os)[g]?=_
  rw [Array.getElem?_append_left (by simpa using hl),Array.getElem?_modify,if_pos rfl,h1]
  rfl
 ·unfold putCells
  rw [Array.getElem?_mapIdx,h3 i hi]
  simp
theorem ra_at {w:World} (d:Array (RA w)) {i:Nat} (h:i < d.size):(d.toList.map (fun x:RA w=>x.1.2)).getD i []=(d[i]!).1.2:=by
 rw [getElem!_pos d i h,List.getD_eq_getElem?_getD,List.getElem?_map,List.getElem?_eq_getElem (by simpa using h)]
 rfl
set_option maxRecDepth 100000 in
set_option maxHeartbeats 1000000 in
theorem sort_any (B:Nat) (m:List (List Int)) (v:Value) (w:World) (hv:Fr B 26 3 w v m) (hm:m.length≤2000000000000) :
  Calls Tryz.prog 65 #[v,.func (.func 66) #[] #[]] w fun e w'=>e=.returned (.tuple #[])∧∃m':List (List Int),m'.Perm m∧(∀i j,i < j→j < m'.length→¬cmpL (m'.getD j []) (m'.getD i []) < 0)∧Fr B 26 3 w' v m'∧Below B w w':=by
 by_cases h0:m.length=0
 ·have hm0:m=[]:=List.eq_nil_of_length_eq_zero h0
  subst hm0
  obtain ⟨ao,cap,hvv,_,_⟩:=mat_open (hv.rws.mat (Nat.le_refl _))
  subst hvv
  have hcon:=AnyF.slices_SortFunc_none (P:=Tryz.prog) (ρ:=Tryz.sortM_ren) { Tryz.sortM with } ao cap (.func (.func 66) #[] #[]) w
  change Calls Tryz.prog 65 _ _ _ at hcon
  refine hcon.mono ?_
  rintro e w' ⟨rfl,rfl⟩
  exact ⟨rfl,[],List.Perm.refl _,fun i j _ h=>absurd h (by simp),hv,Below.refl _ _⟩
 ·obtain ⟨g,cap,f,hvv,hBg,hgw,hrm⟩:=hv.rowM (by omega)
  subst hvv
  obtain ⟨cur,hcur,_⟩:=hrm.row
  obtain ⟨d,hd⟩:∃d:Array (RA w),d=Array.ofFn (fun i:Fin m.length=>(⟨(f i,m.getD i []),hrm.inn i i.2⟩:RA w)):=⟨_,rfl⟩
  have hds:d.size=m.length:=by rw [hd]; exact Array.size_ofFn
  have hdi:∀j (hj:j < m.length),d[j]! = (⟨(f j,m.getD j []),hrm.inn j hj⟩:RA w):=fun j hj=>by
   rw [getElem!_pos d j (by omega)]
   subst hd
   exact Array.getElem_ofFn _
  have hH:Holds (RA.enc (w:=w)) w g 0 d:=fun j hj=>by
   rw [hds] at hj
   rw [hdi j hj,Nat.zero_add]
   exact ⟨hrm.cell (Nat.lt_of_lt_of_le hj hrm.cap1),hrm.row.frozen j⟩
  have eg:∀args w,(callFunc 66 args).run Tryz.prog w=.ok (.enter 66 args) w:=enters_of Tryz.func66 (by kernel_rfl) rfl
  have hcmp:CmpReads Tryz.prog 66 #[] (RA.enc (w:=w)) RA.cf g 0 d.size w:=fun q os dk _ x y=>
   (compare_any 0 x.1.2 y.1.2 x.1.1 y.1.1 _ (sortWorld_sl hcur x.2) (sortWorld_sl hcur y.2)).mono fun e w' ⟨he,hw⟩=>⟨he,0,hw⟩
  have hcon:=Any.slices_SortFunc Tryz.sortM (RA.enc (w:=w)) (RA.one w) RA.cf (RA.swo w) 66 #[] g 0 cap d w eg hcmp.lays hH hgw (by omega)
  change Calls Tryz.prog 65 _ _ _ at hcon
  rw [hds] at hcon
  refine hcon.mono ?_
  rintro e w' ⟨rfl,d',q,os,⟨hp1,hp2,hp3⟩,hs,rfl⟩
  have hd's:d'.size=m.length:=by omega
  refine ⟨rfl,d'.toList.map (fun x=>x.1.2),?_,?_,?_,?_⟩
  ·have e1:(d'.extract 0 m.length).toList=d'.toList:=by rw [Array.toList_extract]; simp; exact List.take_of_length_le (by simp; omega)
   have e2:(d.extract 0 m.length).toList=d.toList:=by rw [Array.toList_extract]; simp; exact List.take_of_length_le (by simp; omega)
   rw [e1,e2] at hp3
   have hm':d.toList.map (fun x:RA w=>x.1.2)=m:=by
    apply List.ext_getElem (by simp [hds])
    intro i h1 h2
    have h3:=ra_at d (i:=i) (by omega)
    rw [hdi i h2] at h3
    have h4:(d.toList.map (fun x:RA w=>x.1.2)).getD i []=(d.toList.map (fun x:RA w=>x.1.2))[i]:=by rw [List.getD_eq_getElem?_getD,List.getElem?_eq_getElem h1]; rfl
    have h5:m.getD i []=m[i]:=by rw [List.getD_eq_getElem?_getD,List.getElem?_eq_getElem h2]; rfl
    rw [←h4,h3,←h5]
   rw [←hm']
   exact hp3.map _
  ·intro i j hij hj
   have hj':j < m.length:=by simpa [hd's] using hj
   have h:=hs i j (Nat.zero_le _) hij hj'
   have h:=of_decide_eq_false h
   rw [ra_at d' (by omega),ra_at d' (by omega)]; exact h
  ·have hlen:(d'.toList.map (fun x:RA w=>x.1.2)).length=m.length:=by simp [hd's]
   have hr':RowM (sortWorld (RA.enc (w:=w)) w g 0 q d' os) g cap (fun k=>if k < d'.size then RA.enc d'[k]! else f k) (d'.toList.map (fun x=>x.1.2)):=by
    refine ⟨sortWorld_row _ _ _ _ _ _ _ _ hrm.row,by rw [hlen]; exact hrm.cap1,hrm.cap2,fun i hi=>?_⟩
    rw [hlen] at hi
    simp only [show i < d'.size by omega,if_true]
    rw [ra_at d' (by omega)]
    exact sortWorld_sl hcur (d'[i]!).2
   have:=hr'.fr hBg
   rw [hlen] at this
   exact this
  ·exact ⟨rfl,rfl,rfl,sortWorld_size _ _ _ _ _ _ _,fun b hb=>sortWorld_block _ _ _ _ _ _ _ b (by omega) (by omega)⟩
end Go.Proofs.YtcoeneldaohpnaaGreat

namespace Go.Proofs.YtcoeneldaohpnaaGreat
open Go.RowKit
attribute [local go_sem ↓] Go.wp_at_zero Go.wp_at_succ
theorem compL_len (m:List (List Int)):(compL m).length≤m.length:=by
 unfold compL
 rw [List.length_map]; exact keptI_len _ _
def Asc (m:List (List Int)):Prop:=∀i j,i < j→j < m.length→¬cmpL (m.getD j []) (m.getD i []) < 0
structure Inor (m' m:List (List Int)):Prop where
 mem:∀r,r∈m'↔r∈m
 len:m'.length≤m.length
 srt:∃m0:List (List Int),m0.Perm m∧Asc m0∧m'=compL m0
theorem fr_open {B:Nat} {w:World} {v:Value} {m:List (List Int)} (h:Fr B 26 3 w v m):∃ao cap,v=.slice ao m.length cap∧m.length≤cap∧cap≤9223372036854775807:=mat_open (h.rws.mat (Nat.le_refl _))
set_option maxRecDepth 100000 in
set_option maxHeartbeats 400000 in
theorem inOrder_any (B:Nat) (m:List (List Int)) (v:Value) (w:World) (hv:Fr B 26 3 w v m) (hm:m.length≤2000000000000) :
  Calls Tryz.prog 52 #[v] w fun e w'=>∃u m',e=.returned u∧Fr B 26 3 w' u m'∧Inor m' m∧Below B w w':=by
 obtain ⟨ao,cap,hvv,hlc,hcm⟩:=fr_open hv
 subst hvv
 have HV:Hid (Fr B 26 3 w (.slice ao m.length cap) m):=hv
 clear hv
 go_enter Tryz.func52,Tryz.ntmps52
 go_wp2_with fail
 refine (sort_any B m _ w HV.out hm).mono ?_
 rintro e w1 ⟨rfl,m1,hp,hs,hf,hb⟩
 have HP:Hid (m1.Perm m):=hp
 have HS:Hid (Asc m1):=hs
 have HF:Hid (Fr B 26 3 w1 (.slice ao m.length cap) m1):=hf
 have HB:Hid (Below B w w1):=hb
 clear hp hs hf hb
 go_wp2_with fail
 refine (compact_any B m1 _ w1 HF.out (by rw [HP.out.length_eq]; exact hm)).mono ?_
 rintro e w2 ⟨u,rfl,hf2,hb2⟩
 obtain ⟨uo,uc,huu,_,_⟩:=fr_open hf2
 subst huu
 have HF2:Hid (Fr B 26 3 w2 (.slice uo (compL m1).length uc) (compL m1)):=hf2
 have HB2:Hid (Below B w w2):=HB.out.trans hb2
 have HIN:Hid (Inor (compL m1) m):=⟨fun r=>by rw [mem_compL]; exact HP.out.mem_iff,by rw [←HP.out.length_eq]; exact compL_len _,m1,HP.out,HS.out,rfl⟩
 clear hf2 hb2
 generalize hgl:(compL m1).length=gl at *
 go_wp2
 go_ret
 exact ⟨_,compL m1,rfl,HF2.out,HIN.out,HB2.out⟩
set_option maxRecDepth 100000 in
set_option maxHeartbeats 800000 in
theorem distinct_any (B:Nat) (P:List (List Int)) (v:Value) (w:World) (hv:Mat B 26 3 w v P) (hP:P.length≤1000) (hr:∀r∈P,r.length≤1000) :
  Calls Tryz.prog 41 #[v] w fun e w'=>∃u m',e=.returned u∧Fr w.heap.size 26 3 w' u m'∧Inor m' P∧Below w.heap.size w w':=by
 obtain ⟨i0,hi,hz0,hz1,hz2⟩:=info_parts Tryz.info26
 obtain ⟨ao,cap,hvv,hlc,hcm⟩:=mat_open hv
 subst hvv
 have HV:Hid (Mat B 26 3 w (.slice ao P.length cap) P):=hv
 have HR:Hid (∀r∈P,r.length≤1000):=hr
 clear hv hr
 go_enter Tryz.func41,Tryz.ntmps41
 go_wp2
 go_loopw [3,8] (fun x i wr=>∃k:Nat,k≤P.length∧i=.int .i64 k∧Fr w.heap.size 26 3 wr x (P.take k)∧Below w.heap.size w wr) (fun _ i _=>P.length-(intOf i).toNat)
 case atStart=>exact ⟨0,Nat.zero_le _,rfl,Fr.nil _ _ _ _,Below.refl _ _⟩
 case round=>
  obtain ⟨k,hk,rfl,hfr,hbel⟩:=hrel
  have HF:Hid (Fr w.heap.size 26 3 wr u3 (P.take k)):=hfr
  have HB:Hid (Below w.heap.size w wr):=hbel
  have hsz:w.heap.size≤wr.heap.size:=hbel.size
  clear hfr hbel
  by_cases hlt:k < P.length
  ·obtain ⟨b,o,cp,r1,hs,hc1,hcc,hr1⟩:=mat_cell (HV.out.below HB.out (Nat.le_refl _)) hlt
   simp only [Value.slice.injEq] at hs
   obtain ⟨rfl,_,rfl⟩:=hs
   obtain ⟨ro,rc,hrv,_,_⟩:=sl_open hr1
   subst hrv
   have HR1:Hid (Sl B 3 wr (.slice ro (P.getD k []).length rc) (ints (P.getD k []))):=hr1
   have HRL:Hid ((P.getD k []).length≤1000):=HR.out _ (by simp [hlt])
   have HSN:Hid (P.take (k+1)=P.take k ++ [P.getD k []]):=by
    show _=_
    rw [List.take_succ_eq_append_getElem hlt]; simp [hlt]
   clear hr1
   generalize P.getD k []=q at *
   generalize hql:q.length=ql at *
   have HQL:Hid (q.length=ql):=hql
   clear hql
   go_wp2_with fail
   refine (clone_any B q _ wr HR1.out (by rw [HQL.out]; have:=HRL.out; omega)).mono ?_
   rintro e w2 ⟨u,rfl,ho2,hb2⟩
   have HX:Hid (Sl 0 3 w2 u (ints q)):=Sl.own ho2
   rw [HQL.out] at ho2
   obtain ⟨uo,uc,huu⟩:=owns_form ho2
   subst huu
   have HB2:Hid (Below w.heap.size w w2):=HB.out.trans (hb2.mono hsz)
   have HF2:Hid (Fr w.heap.size 26 3 w2 u3 (P.take k)):=HF.out.below hb2 (Nat.le_refl _)
   have HLN:Hid ((P.take k).length=k):=by show _=_; rw [List.length_take]; omega
   obtain ⟨vs,g1,g2,g3⟩:=HF2.out
   have hlen:=HLN.out
   rw [hlen] at g1 g2 g3
   have G1:Hid (vs.length=k):=g1
   have G2:Hid (w2.ownsRow w.heap.size 26 1 u3 k vs):=g2
   have G3:Hid (∀i,i < k→Sl 0 3 w2 (vs.getD i (.slice none 0 0)) (ints ((P.take k).getD i []))):=g3
   have hsz2:w.heap.size≤w2.heap.size:=HB2.out.size
   clear g1 g2 g3 hlen ho2 hb2
   go_wp2_with (first | (at_builtin; refine wpList_append_own _ rfl _ _ 22 rfl w.heap.size 26 i0 (.slice none 0 0) 1 24 Tryz.underlying22 hi hz0 hz1 hz2 rfl (by decide) _ _ _ rfl (G2.out.alloc _) ⟨w2.heap.size,0,none⟩ 1 1 [.slice uo ql uc] rfl rfl (one_new _ _ _) (one_slice _ _ _) ?d3 ?d4 ?d5 ?_))
   case d3=>unfold maxLen; omega
   case d4=>omega
   case d5=>simp; omega
   intro v' w3 ho hg _
   have R1:Hid (Fr w.heap.size 26 3 w3 v' (P.take (k+1))):=by
    have hp:=Fr.push (e2:=26) (e1:=3) (m:=P.take k) (u:=.slice uo ql uc) (zs:=q) (by decide) (by rw [HLN.out]; exact G1.out) (by rw [HLN.out]; exact G2.out.alloc _)
     (fun i hi=>(G3.out i (by rw [HLN.out] at hi; exact hi)).alloc _) (HX.out.alloc _) (by rw [HLN.out]; exact ho) hg
    rw [←HSN.out] at hp
    exact hp
   have R2:Hid (Below w.heap.size w w3):=(HB2.out.alloc (by omega) _).grown hg (by simp; omega) (fun x hx=>(G2.out.lt x hx).1)
   clear ho hg
   go_wp2
   go_roundw
   case rel=>exact ⟨k+1,by omega,by go_num,R1.out,R2.out⟩
   case measure=>simp [intOf]; omega
  ·have HF3:Hid (Fr w.heap.size 26 3 wr u3 P):=by
    have h:=HF.out
    rw [List.take_of_length_le (by omega)] at h
    exact h
   obtain ⟨uo,uc,huu,_,_⟩:=fr_open HF3.out
   subst huu
   go_wp2_with fail
   refine (inOrder_any w.heap.size P _ wr HF3.out (by omega)).mono ?_
   rintro e w2 ⟨u,m',rfl,hf2,hin,hb2⟩
   obtain ⟨xo,xc,hxx,_,_⟩:=fr_open hf2
   subst hxx
   have H1:Hid (Fr w.heap.size 26 3 w2 (.slice xo m'.length xc) m'):=hf2
   have H2:Hid (Inor m' P):=hin
   have H3:Hid (Below w.heap.size w w2):=HB.out.trans hb2
   clear hf2 hin hb2
   generalize hml:m'.length=ml at *
   go_wp2
   go_ret
   exact ⟨_,m',rfl,H1.out,H2.out,H3.out⟩
end Go.Proofs.YtcoeneldaohpnaaGreat
