import Derived.Test.YtdanomklbiidaaaGreatDoorMgAQ
import Derived.Test.YtdanomklbiidaaaGreatDoorMgAN
import Derived.Test.YtdanomklbiidaaaGreatDoorHm7
namespace Go.Proofs.YtdanomklbiidaaaGreatDoor
open Go.RowKit
attribute [local go_sem ↓] Go.wp_at_zero Go.wp_at_succ
set_option maxRecDepth 100000 in
set_option maxHeartbeats 400000 in
theorem cloneZ_any (m:List (List Int)) (v:Value) (w:World) (hv:Mat 0 22 3 w v m) (hl:m.length≤1000000) :
  Calls Tryz.prog 83 #[v] w fun e w'=>∃u,e=.returned u∧Fr w.heap.size 22 3 w' u m∧Below w.heap.size w w':=by
 obtain ⟨i0,hi,hz0,hz1,hz2⟩:=info_parts Tryz.info22
 obtain ⟨vs,hvl,hsl,hin⟩:=hv
 have hsl':=hsl
 obtain ⟨ao,cap,hvv,hlc,hcm,hcell,hnil⟩:=hsl'
 subst hvv
 have HV:Hid (Sl 0 22 w (.slice ao vs.length cap) vs):=hsl
 have HIN:Hid (∀i,i < m.length→Sl 0 3 w (vs.getD i (.slice none 0 0)) (ints (m.getD i []))):=hin
 have HVL:Hid (vs.length=m.length):=hvl
 have HO:Hid (∀u∈vs,u.oneCell'=true):=fun u hu=>by
  obtain ⟨i,hi,rfl⟩:=List.mem_iff_getElem.1 hu
  have:=hin i (by omega)
  have e:vs.getD i (.slice none 0 0)=vs[i]:=by simp [hi]
  rw [e] at this
  exact sl_one this
 have hvn:vs.length≤1000000:=by omega
 clear hcell hsl hin hvl hl
 have HE:Hid ((w.alloc (.cells #[] 22)).ownsRow w.heap.size 22 1 (.slice (some ⟨w.heap.size,0,none⟩) 0 0) 0 []):=
  World.ownsRow_made w #[] 0 (Nat.le_refl _) (by simp [maxLen]) (by simp)
 have hq:=fun (w:World) (a:Option Addr) (n c:Nat)=>Lib.run_eql_slice_nil (P:=Tryz.prog) w 23 22 a n c 0 0 Tryz.underlying23
 cases ao with
 | none=>
  have hc0:=hnil rfl
  subst hc0
  have hl0:vs=[]:=List.eq_nil_of_length_eq_zero (by omega)
  subst hl0
  have hm0:m=[]:=List.eq_nil_of_length_eq_zero (by have:=HVL.out; simp at this; omega)
  subst hm0
  go_enter Tryz.func83,Tryz.ntmps83
  go_wp2
  go_ret
  exact ⟨_,rfl,Fr.nil _ _ _ _,Below.refl _ _⟩
 | some a=>
  clear hnil
  go_enter Tryz.func83,Tryz.ntmps83
  go_wp2_with (first | (at_builtin; refine wpList_append_own _ rfl _ _ 23 rfl w.heap.size 22 i0 (.slice none 0 0) 1 24 Tryz.underlying23 hi hz0 hz1 hz2 rfl (by decide) _ _ _ rfl HE.out a vs.length cap vs rfl (by simp) (sl_cells HV.out _) HO.out ?c3 ?c4 ?c5 ?_))
  case c3=>unfold maxLen; omega
  case c4=>omega
  case c5=>simp
  intro v' w3 ho hg _
  have ho':w3.ownsRow w.heap.size 22 1 v' vs.length vs:=by simpa using ho
  have hb:Below w.heap.size w w3:=((Below.refl _ _).alloc (Nat.le_refl _) _).grown hg (by simp) (fun x hx=>(HE.out.lt x hx).1)
  have R1:Hid (Fr w.heap.size 22 3 w3 v' m):=⟨vs,HVL.out,by rw [←HVL.out]; exact ho',fun i hi=>(HIN.out i hi).below hb (Nat.le_refl _)⟩
  have R2:Hid (Below w.heap.size w w3):=hb
  clear ho ho' hg hb
  go_wp2
  go_ret
  exact ⟨_,rfl,R1.out,R2.out⟩
theorem Fr.rowZ {B:Nat} {w:World} {v:Value} {m:List (List Int)} (h:Fr B 22 3 w v m) (hm:0 < m.length):∃g cap F,v=.slice (some ⟨g,0,none⟩) m.length cap∧B≤g∧m.length≤cap∧cap≤9223372036854775807∧w.rowIs g 22 cap F∧∀i,i < m.length→Sl 0 3 w (F i) (ints (m.getD i [])):=by
 obtain ⟨vs,h1,h2,h3⟩:=h
 rcases h2.2 with ⟨_,h0⟩ | ⟨g,cap,cur,hv,hb,hh,hn,hc,hs,ht⟩
 ·omega
 ·refine ⟨g,cap,fun i=>cur.toList.getD i (.slice none 0 0),hv,hb,hn,by unfold maxLen at hc; exact hc,⟨cur,hh,by omega,fun i hi=>?_⟩,fun i hi=>?_⟩
  ·show cur[i]?=some (cur.toList.getD i (.slice none 0 0))
   rw [←Array.getElem?_toList,List.getD_eq_getElem?_getD,List.getElem?_eq_getElem (by simp; omega)]; rfl
  ·have e:cur.toList.getD i (.slice none 0 0)=vs.getD i (.slice none 0 0):=by
    rw [←ht]
    simp only [List.getD_eq_getElem?_getD]
    rw [List.getElem?_take_of_lt (by omega)]
   show Sl 0 3 w (cur.toList.getD i (.slice none 0 0)) _
   rw [e]; exact h3 i hi
theorem fr_of_rowZ {B:Nat} {w:World} {g cap:Nat} {F:Nat→Value} {m:List (List Int)} (h:w.rowIs g 22 cap F) (hB:B≤g) (h4:m.length≤cap) (h5:cap≤9223372036854775807) (h6:∀i,i < m.length→Sl 0 3 w (F i) (ints (m.getD i []))):Fr B 22 3 w (.slice (some ⟨g,0,none⟩) m.length cap) m:=by
 obtain ⟨c,h1,h2,h3⟩:=h
 refine ⟨(List.range m.length).map F,by simp,⟨by simp,Or.inr ⟨g,cap,c,rfl,hB,h1,h4,by unfold maxLen; exact h5,by omega,?_⟩⟩,fun i hi=>?_⟩
 ·apply List.ext_getElem?
  intro i
  by_cases hi:i < m.length
  ·rw [List.getElem?_take_of_lt (by omega),Array.getElem?_toList,h3 i (by omega)]; simp [hi]
  ·rw [List.getElem?_eq_none (by simp; omega),List.getElem?_eq_none (by simp; omega)]
 ·have e:((List.range m.length).map F).getD i (.slice none 0 0)=F i:=by simp [hi]
  rw [e]; exact h6 i hi
structure DmZ (B:Nat) (w:World) (g cap:Nat) (m:List (List Int)) (f:List Int→Bool) (j c:Nat) (F:Nat→Value) (wr:World):Prop where
 row:wr.rowIs g 22 cap F
 len:c=((m.take j).filter fun r=>!f r).length
 done:∀i,i < c→Sl 0 3 wr (F i) (ints (((m.take j).filter fun r=>!f r).getD i []))
 rest:∀i,j≤i→i < m.length→Sl 0 3 wr (F i) (ints (m.getD i []))
 lt:c < j
 bel:Below B w wr
 hB:B≤g
theorem sl_offgZ {B g cap:Nat} {F:Nat→Value} {wr w2:World} {v:Value} {xs:List Value} (hr:wr.rowIs g 22 cap F) (hB:B≤g) (ht:Touch g wr w2) (hs:Sl 0 3 wr v xs):Sl 0 3 w2 v xs:=
 hs.move fun b _ h=>by
  obtain ⟨cur,hcur,_⟩:=hr
  refine ⟨ht.block b ?_,h⟩
  rintro rfl
  rcases h with h | ⟨c,h⟩
  ·omega
  ·rw [hcur] at h
   simp at h
theorem DmZ.below {B:Nat} {w:World} {g cap:Nat} {m:List (List Int)} {f:List Int→Bool} {j c:Nat} {F:Nat→Value} {wr w2:World} (h:DmZ B w g cap m f j c F wr) (hb:Below wr.heap.size wr w2):DmZ B w g cap m f j c F w2:=
 ⟨h.row.of_block (hb.block g h.row.lt),h.len,fun i hi=>(h.done i hi).below hb (Nat.le_refl _),fun i h1 h2=>(h.rest i h1 h2).below hb (Nat.le_refl _),h.lt,h.bel.trans (hb.mono (by have:=h.hB; have:=h.row.lt; omega)),h.hB⟩
theorem DmZ.skip {B:Nat} {w:World} {g cap:Nat} {m:List (List Int)} {f:List Int→Bool} {j c:Nat} {F:Nat→Value} {wr:World} (h:DmZ B w g cap m f j c F wr) (hj:j < m.length) (hf:f (m.getD j [])=true):DmZ B w g cap m f (j+1) c F wr:=by
 have e:=filt_snoc (f:=f) hj
 rw [if_pos hf,List.append_nil] at e
 exact ⟨h.row,by rw [e]; exact h.len,by rw [e]; exact h.done,fun i h1 h2=>h.rest i (by omega) h2,by have:=h.lt; omega,h.bel,h.hB⟩
theorem DmZ.next {B:Nat} {w:World} {g cap:Nat} {m:List (List Int)} {f:List Int→Bool} {j c:Nat} {F:Nat→Value} {wr:World} (h:DmZ B w g cap m f j c F wr) (hj:j < m.length) (hf:f (m.getD j [])=false):DmZ B w g cap m f (j+1) (c+1) (fun i=>if i=c then F j else F i) (wr.setCell ⟨g,c,none⟩ (F j)):=by
 have e:=filt_snoc (f:=f) hj
 rw [if_neg (by rw [hf]; decide)] at e
 have ht:Touch g wr (wr.setCell ⟨g,c,none⟩ (F j)):=(Touch.refl _ _).setCell c _
 have hl:=h.len
 have hlt:=h.lt
 refine ⟨h.row.set c _,by rw [e,List.length_append,←hl]; rfl,fun i hi=>?_,fun i h1 h2=>?_,by omega,ht.below h.bel h.hB,h.hB⟩
 ·rw [e]
  by_cases hic:i=c
  ·subst hic
   have e2:(((m.take j).filter fun r=>!f r) ++ [m.getD j []]).getD i []=m.getD j []:=by rw [hl]; simp
   rw [e2,if_pos rfl]
   exact sl_offgZ h.row h.hB ht (h.rest j (Nat.le_refl _) hj)
  ·have e2:(((m.take j).filter fun r=>!f r) ++ [m.getD j []]).getD i []=((m.take j).filter fun r=>!f r).getD i []:=by
    simp only [List.getD_eq_getElem?_getD]; rw [List.getElem?_append_left (by omega)]
   rw [e2,if_neg hic]
   exact sl_offgZ h.row h.hB ht (h.done i (by omega))
 ·rw [if_neg (by omega)]
  exact sl_offgZ h.row h.hB ht (h.rest i (by omega) h2)
theorem DmZ.fin {B:Nat} {w:World} {g cap:Nat} {m:List (List Int)} {f:List Int→Bool} {j c:Nat} {F:Nat→Value} {wr:World} (h:DmZ B w g cap m f j c F wr) (hj:j=m.length) (h1:m.length≤cap) (h2:cap≤9223372036854775807) :
  Fr B 22 3 (wr.setCells g c (List.replicate (m.length-c) (.slice none 0 0))) (.slice (some ⟨g,0,none⟩) c cap) (m.filter fun r=>!f r)∧Below B w (wr.setCells g c (List.replicate (m.length-c) (.slice none 0 0))):=by
 subst hj
 have e:m.take m.length=m:=List.take_length
 have hl:=h.len
 have hd:=h.done
 rw [e] at hl hd
 have ht:Touch g wr (wr.setCells g c (List.replicate (m.length-c) (.slice none 0 0))):=Touch.setCells _ _ (Touch.refl _ _)
 have hlt:=h.lt
 refine ⟨?_,ht.below h.bel h.hB⟩
 have hrow:=rowIs_setCells (List.replicate (m.length-c) (Value.slice none 0 0)) c wr F h.row
 have:=fr_of_rowZ (B:=B) (m:=m.filter fun r=>!f r) hrow h.hB (by omega) h2 (fun i hi=>by
  rw [←hl] at hi
  rw [if_neg (by omega)]
  exact sl_offgZ h.row h.hB ht (hd i hi))
 rw [←hl] at this
 exact this
set_option maxRecDepth 100000 in
set_option maxHeartbeats 1600000 in
theorem deleteZ_any (B:Nat) (f:List Int→Bool) (m:List (List Int)) (v:Value) (p1 p2:Addr) (w:World) (hv:Fr B 22 3 w v m) (hBw:B≤w.heap.size) (hml:m.length≤1000000)
  (hc:∀r∈m,∀(W:World) (rv:Value),Below B w W→Sl B 3 W rv (ints r)→Calls Tryz.prog 84 #[rv,.pointer (some p1),.pointer (some p2)] W fun e w'=>e=.returned (.bool (f r))∧Below W.heap.size W w') :
  Calls Tryz.prog 82 #[v,.func (.func 84) #[] #[.pointer (some p1),.pointer (some p2)]] w fun e w'=>∃u,e=.returned u∧Fr B 22 3 w' u (m.filter fun r=>!f r)∧Below B w w':=by
 have HI:Hid (Calls Tryz.prog 41 #[v,.func (.func 84) #[] #[.pointer (some p1),.pointer (some p2)]] w fun e w'=>(∃z,e=.returned (.int .i64 z)∧((z=-1∧m.any f=false)∨∃k:Nat,z=k∧k < m.length∧(m.take k).any f=false∧f (m.getD k [])=true))∧Below w.heap.size w w'):=idxD_any B f m v p1 p2 w (hv.rws.mat (Nat.le_refl _)) hBw hc
 obtain ⟨ao,cap,hvv,hlc,hcm⟩:=mat_open (hv.rws.mat (Nat.le_refl _))
 subst hvv
 have HV:Hid (Fr B 22 3 w (.slice ao m.length cap) m):=hv
 have HC:Hid (∀r∈m,∀(W:World) (rv:Value),Below B w W→Sl B 3 W rv (ints r)→Calls Tryz.prog 84 #[rv,.pointer (some p1),.pointer (some p2)] W fun e w'=>e=.returned (.bool (f r))∧Below W.heap.size W w'):=hc
 have HBW:Hid (B≤w.heap.size):=hBw
 clear hv hc hBw
 go_enter Tryz.func82,Tryz.ntmps82
 go_wp2_with fail
 refine HI.out.mono ?_
 rintro e w1 ⟨⟨z,rfl,hz⟩,hb⟩
 have HB1:Hid (Below w.heap.size w w1):=hb
 clear hb HI
 rcases hz with ⟨rfl,hno⟩ | ⟨k,rfl,hk,hno,hyes⟩
 ·have HFI:Hid ((m.filter fun r=>!f r)=m):=by
   show _=_
   rw [List.filter_eq_self]
   intro r hr
   have:=List.any_eq_false.1 hno r hr
   simpa using this
  clear hno
  go_wp2
  go_ret
  exact ⟨_,rfl,by rw [HFI.out]; exact HV.out.below HB1.out (Nat.le_refl _),HB1.out.mono HBW.out⟩
 ·obtain ⟨g,cap2,F,hvv,hBg,hc1,hc2,hrow,hin⟩:=(HV.out.below HB1.out (Nat.le_refl _)).rowZ (by omega)
  simp only [Value.slice.injEq] at hvv
  obtain ⟨rfl,hxx,rfl⟩:=hvv
  clear hxx
  have HDM:Hid (DmZ B w g cap m f (k+1) k F w1):=by
   have hft:((m.take k).filter fun r=>!f r)=m.take k:=by
    rw [List.filter_eq_self]
    intro r hr
    have:=List.any_eq_false.1 hno r hr
    simpa using this
   have e:=filt_snoc (f:=f) hk
   rw [if_pos hyes,List.append_nil,hft] at e
   refine ⟨hrow,by rw [e,List.length_take]; omega,fun i hi=>?_,fun i h1 h2=>hin i h2,by omega,HB1.out.mono HBW.out,hBg⟩
   rw [e]
   have e2:(m.take k).getD i []=m.getD i []:=by
    simp only [List.getD_eq_getElem?_getD]; rw [List.getElem?_take_of_lt hi]
   rw [e2]
   exact hin i (by omega)
  clear hrow hin hno hyes
  have tk:((k:Int) == -1)=false:=by simp
  go_wp2
  go_loopw [5,6,7] (fun x1 x2 _ wr=>∃(j c:Nat) (F:Nat→Value),j≤m.length∧x2=.int .i64 j∧x1=.int .i64 c∧DmZ B w g cap m f j c F wr) (fun _ x2 _ _=>m.length-(intOf x2).toNat)
  case atStart=>exact ⟨k+1,k,F,by omega,by go_num,rfl,HDM.out⟩
  case round=>
   obtain ⟨j,c,F2,hj,rfl,rfl,hdm⟩:=hrel
   have HD:Hid (DmZ B w g cap m f j c F2 wr):=hdm
   have hclt:=hdm.lt
   by_cases hjn:j < m.length
   ·have d1:=hdm.row.cell (i:=j) (by omega)
    have HRJ:Hid (Sl 0 3 wr (F2 j) (ints (m.getD j []))):=hdm.rest j (Nat.le_refl _) hjn
    obtain ⟨xo,xc,hfx,_,_⟩:=sl_open HRJ.out
    obtain ⟨xl,hxl⟩:∃xl,xl=(m.getD j []).length:=⟨_,rfl⟩
    rw [←hxl] at hfx
    clear hxl
    have HFX:Hid (F2 j=.slice xo xl xc):=hfx
    have HCA:Hid (Calls Tryz.prog 84 #[F2 j,.pointer (some p1),.pointer (some p2)] wr fun e w'=>e=.returned (.bool (f (m.getD j [])))∧Below wr.heap.size wr w'):=HC.out _ (by simp [hjn]) wr _ HD.out.bel (HRJ.out.more (Nat.zero_le _))
    rw [hfx] at d1 HCA
    obtain ⟨fb,hfb⟩:∃fb,fb=f (m.getD j []):=⟨_,rfl⟩
    have HFB:Hid (fb=f (m.getD j [])):=hfb
    rw [←hfb] at HCA
    clear hfb hfx hdm
    have hjI:(j:Int) < (m.length:Int):=by omega
    go_wp2_with fail
    refine HCA.out.mono ?_
    rintro e w2 ⟨rfl,hb2⟩
    have HD2:Hid (DmZ B w g cap m f j c F2 w2):=HD.out.below hb2
    clear hb2 HCA d1
    cases hf:fb
    ·have HNX:Hid (DmZ B w g cap m f (j+1) (c+1) (fun i=>if i=c then .slice xo xl xc else F2 i) (w2.setCell ⟨g,c,none⟩ (.slice xo xl xc))):=by
      have h:=HD2.out.next hjn (by rw [←HFB.out]; exact hf)
      rw [HFX.out] at h
      exact h
     have d3:=HD2.out.row.cell (i:=c) (by omega)
     have d4:=HD2.out.row.frozen c
     generalize F2 c=fc at d3
     have hcI:(c:Int) < (m.length:Int):=by omega
     clear hf
     go_wp2
     go_roundw
     case rel=>exact ⟨j+1,c+1,_,by omega,by go_num,by go_num,HNX.out⟩
     case measure=>simp [intOf]; omega
    ·have HSK:Hid (DmZ B w g cap m f (j+1) c F2 w2):=HD2.out.skip hjn (by rw [←HFB.out]; exact hf)
     clear hf
     go_wp2
     go_roundw
     case rel=>exact ⟨j+1,c,F2,by omega,by go_num,rfl,HSK.out⟩
     case measure=>simp [intOf]; omega
   ·have hje:j=m.length:=by omega
    have HFN:Hid (Fr B 22 3 (wr.setCells g c (List.replicate (m.length-c) (.slice none 0 0))) (.slice (some ⟨g,0,none⟩) c cap) (m.filter fun r=>!f r)∧Below B w (wr.setCells g c (List.replicate (m.length-c) (.slice none 0 0)))):=HD.out.fin hje hc1 hc2
    have hclr:∀ty,(Builtin.clear_ #[23] ty #[.slice (some ⟨g,c,none⟩) (m.length-c) (cap-c)]).run Tryz.prog wr=.ok (.tuple #[]) (wr.setCells g c (List.replicate (m.length-c) (.slice none 0 0))):=
     fun ty=>Lib.run_clear_slice wr 23 22 ty (.slice none 0 0) Tryz.underlying23 Tryz.zero22 rfl rfl g c (m.length-c) (cap-c) (by omega) (fun q hq=>by rw [hdm.row.cell (by omega)]; rfl) (fun q hq=>hdm.row.frozen _)
    have hcI:(c:Int)≤(m.length:Int):=by omega
    have hcI0:(0:Int)≤(c:Int):=by omega
    have hcc:c < cap:=by omega
    have hcm2:c≤m.length:=by omega
    have hcc2:c≤cap:=by omega
    have hjI:decide ((j:Int) < (m.length:Int))=false:=by simp; omega
    clear hdm hje
    go_wp2
    go_ret
    exact ⟨_,rfl,HFN.out.1,HFN.out.2⟩
set_option maxRecDepth 100000 in
set_option maxHeartbeats 800000 in
theorem cornersZ_any (B:Nat) (m P:List (List Int)) (pv mv:Value) (w:World) (hp:Mat 0 22 3 w pv P) (hm:Mat B 22 3 w mv m) (hl:P.length≤1000000)
  (hr:∀x∈P,∀r∈m,∀y∈P,r.length=x.length+1∧r.length=y.length+1∧Sm (r.take x.length) x∧Sm (r.take y.length) y) :
  Calls Tryz.prog 55 #[pv,mv] w fun e w'=>∃u,e=.returned u∧Fr w.heap.size 22 3 w' u (P.filter fun x=>!twin m P x)∧Below w.heap.size w w':=by
 obtain ⟨po,pc,hpv,_,_⟩:=mat_open hp
 obtain ⟨mo,mc,hmv,_,_⟩:=mat_open hm
 obtain ⟨pl,hpl⟩:∃pl,pl=P.length:=⟨_,rfl⟩
 obtain ⟨ml,hml⟩:∃ml,ml=m.length:=⟨_,rfl⟩
 rw [←hpl] at hpv
 rw [←hml] at hmv
 subst hpv hmv
 clear hpl hml
 obtain ⟨W,hW⟩:∃W,W=(w.alloc (.cells #[.slice po pl pc] 23)).alloc (.cells #[.slice mo ml mc] 23):=⟨_,rfl⟩
 have hbw:Below w.heap.size w W:=by rw [hW]; exact ((Below.refl _ _).alloc (Nat.le_refl _) _).alloc (by simp) _
 have hsW:W.heap.size=w.heap.size+2:=by rw [hW]; simp
 have c0:W.cell? ⟨w.heap.size,0,none⟩=some (.slice po pl pc):=by rw [hW]; simp
 have c1:W.cell? ⟨w.heap.size+1,0,none⟩=some (.slice mo ml mc):=by rw [hW]; simp
 have HW:Hid (Below w.heap.size w W):=hbw
 have HPW:Hid (Mat W.heap.size 22 3 W (.slice po pl pc) P):=((hp.below hbw (Nat.le_refl _)).more (Nat.zero_le _))
 have HP0:Hid (Mat 0 22 3 W (.slice po pl pc) P):=hp.below hbw (Nat.le_refl _)
 have HMW:Hid (Mat W.heap.size 22 3 W (.slice mo ml mc) m):=(hm.below hbw (Nat.le_refl _)).any (Nat.le_refl _)
 have HDEL:Hid (∀(u:Value) (w2:World),Fr W.heap.size 22 3 w2 u P→Below W.heap.size W w2→Calls Tryz.prog 82 #[u,.func (.func 84) #[] #[.pointer (some ⟨w.heap.size,0,none⟩),.pointer (some ⟨w.heap.size+1,0,none⟩)]] w2 fun e w'=>∃u,e=.returned u∧(Fr W.heap.size 22 3 w' u (P.filter fun x=>!twin m P x)∧Below W.heap.size W w')):=fun u w2 hu hb2=>by
  refine (deleteZ_any W.heap.size (twin m P) P u _ _ w2 hu hb2.size hl fun r hr' W' rv hW' hrv=>?_).mono ?_
  ·have hww:Below W.heap.size W W':=hb2.trans hW'
   exact twin_any W.heap.size m P r rv (.slice po pl pc) (.slice mo ml mc) w.heap.size (w.heap.size+1) W' hrv ((hww.cell (lt_of_cell c0)).trans c0) ((hww.cell (lt_of_cell c1)).trans c1) (HPW.out.below hww (Nat.le_refl _)) (HMW.out.below hww (Nat.le_refl _)) (hr r hr')
  ·rintro e w' ⟨u',rfl,h1,h2⟩
   exact ⟨u',rfl,h1,hb2.trans h2⟩
 have HCL:Hid (Calls Tryz.prog 83 #[.slice po pl pc] W fun e w'=>∃u,e=.returned u∧Fr W.heap.size 22 3 w' u P∧Below W.heap.size W w'):=cloneZ_any P _ W HP0.out hl
 clear hp hm hbw hr c1
 go_enter Tryz.func55,Tryz.ntmps55
 go_wp2_with fail
 rw [←hW]
 clear hW
 refine HCL.out.mono ?_
 rintro e w2 ⟨u,rfl,hu,hb2⟩
 have HU:Hid (Fr W.heap.size 22 3 w2 u P):=hu
 have HB2:Hid (Below W.heap.size W w2):=hb2
 clear hu hb2
 go_wp2_with fail
 refine (HDEL.out u w2 HU.out HB2.out).mono ?_
 rintro e w3 ⟨u3,rfl,h3⟩
 have H3:Hid (Fr W.heap.size 22 3 w3 u3 (P.filter fun x=>!twin m P x)∧Below W.heap.size W w3):=h3
 clear h3
 go_wp2
 go_ret
 exact ⟨_,rfl,H3.out.1.mono (by omega),HW.out.trans (H3.out.2.mono (by omega))⟩
end Go.Proofs.YtdanomklbiidaaaGreatDoor
