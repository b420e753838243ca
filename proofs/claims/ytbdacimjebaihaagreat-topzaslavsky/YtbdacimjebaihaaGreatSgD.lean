import Derived.Test.YtbdacimjebaihaaGreatSgC
import Derived.Test.YtbdacimjebaihaaGreatWiA
import Derived.Test.YtbdacimjebaihaaGreatCycAll
import Derived.Lib.SliceRun
import Derived.Lib.LazyBuf
import Derived.Laws.EntriesVeiled
import Derived.Test.YtbdacimjebaihaaGreatRunB
namespace Go.Proofs.YtbdacimjebaihaaGreat
open Go.RowKit
attribute [local go_sem ↓] Go.wp_at_zero Go.wp_at_succ
def findS (p:List UInt8→Bool) (zs:List (List UInt8)):Int:=if zs.any p then (zs.findIdx p:Int) else -1
theorem findS_hit {p:List UInt8→Bool} {l:List (List UInt8)} {k:Nat} (h:k < l.length) (h0:(l.take k).any p=false) (h1:p l[k]=true):findS p l=k:=by
 have ha:l.any p=true:=List.any_eq_true.2 ⟨l[k],List.getElem_mem _,h1⟩
 unfold findS
 rw [if_pos ha]
 have hlt:=List.findIdx_lt_length_of_exists (List.any_eq_true.1 ha)
 have h2:l.findIdx p≤k:=Classical.byContradiction fun hn=>by
  have:=List.not_of_lt_findIdx (p:=p) (xs:=l) (i:=k) (by omega)
  rw [h1] at this; simp at this
 have h3:¬l.findIdx p < k:=fun hl=>by
  have h4:=List.any_eq_false.1 h0 l[l.findIdx p] (List.mem_iff_getElem.2 ⟨l.findIdx p,by rw [List.length_take]; omega,by rw [List.getElem_take]⟩)
  exact h4 List.findIdx_getElem
 omega
theorem findS_none {p:List UInt8→Bool} {l:List (List UInt8)} (h0:l.any p=false):findS p l=-1:=by
 unfold findS; rw [h0]; rfl
theorem any_snocD {p:List UInt8→Bool} {l:List (List UInt8)} {k:Nat} (h:k < l.length) (h0:(l.take k).any p=false):(l.take (k+1)).any p=p l[k]:=by
 rw [List.take_succ_eq_append_getElem h,List.any_append,h0]
 simp
structure TouS (g:Nat) (w w':World):Prop where
 os:w'.os=w.os
 tape:w'.tape=w.tape
 output:w'.output=w.output
 size:w'.heap.size=w.heap.size
 block:∀b,b≠g→w'.heap[b]?=w.heap[b]?
theorem TouS.refl (g:Nat) (w:World):TouS g w w:=⟨rfl,rfl,rfl,rfl,fun _ _=>rfl⟩
theorem TouS.drewN {g:Nat} {w w':World} (h:TouS g w w') (n:Nat):TouS g w (w'.drewN n):=⟨h.os,h.tape,h.output,h.size,h.block⟩
theorem TouS.drew {g:Nat} {w w':World} (h:TouS g w w'):TouS g w w'.drew:=⟨h.os,h.tape,h.output,h.size,h.block⟩
theorem TouS.setCell {g:Nat} {w w':World} (h:TouS g w w') (j:Nat) (u:Value):TouS g w (w'.setCell ⟨g,j,none⟩ u):=
 ⟨h.os,h.tape,h.output,by simp [World.setCell,h.size],fun b hb=>(Below.heap_setCell _ _ _ _ hb).trans (h.block b hb)⟩
theorem TouS.cell {g:Nat} {w w':World} (h:TouS g w w') {a:Addr} (ha:a.block≠g):w'.cell? a=w.cell? a:=World.cell?_of_block (w:=w) (h.block _ ha)
theorem TouS.below {g M:Nat} {w w2 wr:World} (h:TouS g w2 wr) (hb:Below M w w2) (hg:M≤g):Below M w wr:=
 ⟨h.os.trans hb.os,h.tape.trans hb.tape,h.output.trans hb.output,by rw [h.size]; exact hb.size,fun b hlt=>(h.block b (by omega)).trans (hb.block b hlt)⟩
theorem TouS.setCells {g:Nat} {w:World} : ∀(vs:List Value) (o:Nat) {w':World},TouS g w w'→TouS g w (w'.setCells g o vs)
 | [],_,_,h=>h
 | v :: r,o,_,h=>TouS.setCells r (o+1) (h.setCell o v)
set_option maxRecDepth 100000 in
set_option maxHeartbeats 400000 in
theorem idxD_any (B:Nat) (p:List UInt8→Bool) (zs:List (List UInt8)) (v:Value) (b1 b2:Nat) (w:World) (hv:Sl B 9 w v (strs zs))
  (hc:∀x∈zs,∀W',Below w.heap.size w W'→Calls Tryz.prog 15 #[strT x,.pointer (some ⟨b1,0,none⟩),.pointer (some ⟨b2,0,none⟩)] W' fun e w'=>e=.returned (.bool (p x))∧Below W'.heap.size W' w') :
  Calls Tryz.prog 29 #[v,.func (.func 15) #[] #[.pointer (some ⟨b1,0,none⟩),.pointer (some ⟨b2,0,none⟩)]] w fun e w'=>e=.returned (.int .i64 (findS p zs))∧Below w.heap.size w w':=by
 obtain ⟨ao,cap,hvv,hlc,hcm⟩:=sgs_open hv
 subst hvv
 have HV:Hid (Sl B 9 w (.slice ao zs.length cap) (strs zs)):=hv
 have HIL:Hid (∀x∈zs,∀W',Below w.heap.size w W'→Calls Tryz.prog 15 #[strT x,.pointer (some ⟨b1,0,none⟩),.pointer (some ⟨b2,0,none⟩)] W' fun e w'=>e=.returned (.bool (p x))∧Below W'.heap.size W' w'):=hc
 clear hv hc
 go_enter Tryz.func29,Tryz.ntmps29
 go_wp2
 go_loopw [5,8] (fun _ i wr=>∃k:Nat,k≤zs.length∧i=.int .i64 k∧(zs.take k).any p=false∧Below w.heap.size w wr) (fun _ i _=>zs.length-(intOf i).toNat)
 case atStart=>exact ⟨0,Nat.zero_le _,rfl,by simp,Below.refl _ _⟩
 case round=>
  obtain ⟨k,hk,rfl,hno,hbr⟩:=hrel
  have HN:Hid ((zs.take k).any p=false):=hno
  have HBR:Hid (Below w.heap.size w wr):=hbr
  clear hno hbr
  by_cases hlt:k < zs.length
  ·obtain ⟨b',o,hs,hcc⟩:=sgs_cell (HV.out.below HBR.out (Nat.le_refl _)) hlt
   subst hs
   have HS1:Hid ((zs.take (k+1)).any p=p zs[k]):=any_snocD (p:=p) hlt HN.out
   have HH:Hid (p zs[k]=true→findS p zs=k):=fun h=>findS_hit (p:=p) hlt HN.out h
   rw [show zs.getD k []=zs[k] by simp [hlt]] at hcc
   have HIX:Hid (Calls Tryz.prog 15 #[strT zs[k],.pointer (some ⟨b1,0,none⟩),.pointer (some ⟨b2,0,none⟩)] wr fun e w'=>e=.returned (.bool (p zs[k]))∧Below wr.heap.size wr w'):=HIL.out _ (List.getElem_mem _) wr HBR.out
   generalize zs[k]=x at *
   generalize p x=fb at *
   cases fb
   ·go_wp2_with fail
    refine HIX.out.mono ?_
    rintro e w2 ⟨rfl,hb2⟩
    have HB2:Hid (Below w.heap.size w w2):=HBR.out.trans (hb2.mono HBR.out.size)
    clear hb2
    go_wp2
    go_roundw
    case rel=>exact ⟨k+1,by omega,by go_num,HS1.out,HB2.out⟩
    case measure=>simp [intOf]; omega
   ·have HH2:Hid (findS p zs=k):=HH.out rfl
    clear HH
    go_wp2_with fail
    refine HIX.out.mono ?_
    rintro e w2 ⟨rfl,hb2⟩
    have HB2:Hid (Below w.heap.size w w2):=HBR.out.trans (hb2.mono HBR.out.size)
    clear hb2
    go_wp2
    go_ret
    exact ⟨ret_int HH2.out.symm,HB2.out⟩
  ·have e:zs.take k=zs:=List.take_of_length_le (by omega)
   rw [e] at HN
   have HF:Hid (findS p zs=-1):=findS_none HN.out
   go_wp2
   go_ret
   exact ⟨ret_int HF.out.symm,HBR.out⟩
theorem own_rowS {B n:Nat} {w:World} {v:Value} {m:List (List UInt8)} (h:w.ownsRow B 9 1 v n (strs m)) (hn:n=m.length) (hm:0 < m.length):∃g cap F,v=.slice (some ⟨g,0,none⟩) m.length cap∧B≤g∧m.length≤cap∧cap≤9223372036854775807∧w.rowIs g 9 cap F∧∀i,i < m.length→F i=strT (m.getD i []):=by
 subst hn
 rcases h.2 with ⟨_,h0⟩ | ⟨g,cap,cur,hv,hb,hh,hn,hc,hs,ht⟩
 ·omega
 ·refine ⟨g,cap,fun i=>cur.toList.getD i (.string ⟨#[]⟩),hv,hb,hn,by unfold maxLen at hc; exact hc,⟨cur,hh,by omega,fun i hi=>?_⟩,fun i hi=>?_⟩
  ·show cur[i]?=some (cur.toList.getD i (.string ⟨#[]⟩))
   rw [←Array.getElem?_toList,List.getD_eq_getElem?_getD,List.getElem?_eq_getElem (by simp; omega)]; rfl
  ·have e:cur.toList.getD i (.string ⟨#[]⟩)=(strs m).getD i (.string ⟨#[]⟩):=by
    rw [←ht]
    simp only [List.getD_eq_getElem?_getD]
    rw [List.getElem?_take_of_lt (by omega)]
   show cur.toList.getD i (.string ⟨#[]⟩)=_
   rw [e]
   simp [strs,hi]
theorem row_ownS {B:Nat} {w:World} {g cap:Nat} {F:Nat→Value} {m:List (List UInt8)} (h:w.rowIs g 9 cap F) (hB:B≤g) (h4:m.length≤cap) (h5:cap≤9223372036854775807) (h6:∀i,i < m.length→F i=strT (m.getD i [])):w.ownsRow B 9 1 (.slice (some ⟨g,0,none⟩) m.length cap) m.length (strs m):=by
 obtain ⟨c,h1,h2,h3⟩:=h
 refine ⟨by simp [strs],Or.inr ⟨g,cap,c,rfl,hB,h1,h4,by unfold maxLen; exact h5,by omega,?_⟩⟩
 apply List.ext_getElem?
 intro i
 by_cases hi:i < m.length
 ·rw [List.getElem?_take_of_lt (by omega),Array.getElem?_toList,h3 i (by omega),h6 i hi]; simp [strs,hi]
 ·rw [List.getElem?_eq_none (by simp; omega),List.getElem?_eq_none (by simp [strs]; omega)]
structure DiS (B:Nat) (w:World) (g cap:Nat) (Gd:World→Prop) (m:List (List UInt8)) (f:List UInt8→Bool) (j c:Nat) (F:Nat→Value) (wr:World):Prop where
 row:wr.rowIs g 9 cap F
 len:c=((m.take j).filter fun r=>!f r).length
 done:∀i,i < c→F i=strT (((m.take j).filter fun r=>!f r).getD i [])
 rest:∀i,j≤i→i < m.length→F i=strT (m.getD i [])
 lt:c < j
 bel:Below B w wr
 hB:B≤g
 gd:Gd wr
 gb:∀W W',Gd W→Below W.heap.size W W'→Gd W'
 gs:∀W c u,Gd W→Gd (W.setCell ⟨g,c,none⟩ u)
theorem DiS.below {B:Nat} {w:World} {g cap:Nat} {Gd:World→Prop} {m:List (List UInt8)} {f:List UInt8→Bool} {j c:Nat} {F:Nat→Value} {wr w2:World} (h:DiS B w g cap Gd m f j c F wr) (hb:Below wr.heap.size wr w2):DiS B w g cap Gd m f j c F w2:=
 ⟨h.row.of_block (hb.block g h.row.lt),h.len,h.done,h.rest,h.lt,h.bel.trans (hb.mono (by have:=h.hB; have:=h.row.lt; omega)),h.hB,h.gb _ _ h.gd hb,h.gb,h.gs⟩
theorem filtS_snoc {m:List (List UInt8)} {f:List UInt8→Bool} {j:Nat} (hj:j < m.length):((m.take (j+1)).filter fun r=>!f r)=((m.take j).filter fun r=>!f r) ++ (if f (m.getD j [])=true then [] else [m.getD j []]):=by
 have e:m.getD j []=m[j]:=by simp [hj]
 rw [List.take_succ_eq_append_getElem hj,List.filter_append,e]
 cases hf:f m[j] <;> simp [hf]
theorem DiS.skip {B:Nat} {w:World} {g cap:Nat} {Gd:World→Prop} {m:List (List UInt8)} {f:List UInt8→Bool} {j c:Nat} {F:Nat→Value} {wr:World} (h:DiS B w g cap Gd m f j c F wr) (hj:j < m.length) (hf:f (m.getD j [])=true):DiS B w g cap Gd m f (j+1) c F wr:=by
 have e:=filtS_snoc (f:=f) hj
 rw [if_pos hf,List.append_nil] at e
 exact ⟨h.row,by rw [e]; exact h.len,by rw [e]; exact h.done,fun i h1 h2=>h.rest i (by omega) h2,by have:=h.lt; omega,h.bel,h.hB,h.gd,h.gb,h.gs⟩
theorem DiS.next {B:Nat} {w:World} {g cap:Nat} {Gd:World→Prop} {m:List (List UInt8)} {f:List UInt8→Bool} {j c:Nat} {F:Nat→Value} {wr:World} (h:DiS B w g cap Gd m f j c F wr) (hj:j < m.length) (hf:f (m.getD j [])=false):DiS B w g cap Gd m f (j+1) (c+1) (fun i=>if i=c then strT (m.getD j []) else F i) (wr.setCell ⟨g,c,none⟩ (strT (m.getD j []))):=by
 have e:=filtS_snoc (f:=f) hj
 rw [if_neg (by rw [hf]; decide)] at e
 have ht:TouS g wr (wr.setCell ⟨g,c,none⟩ (strT (m.getD j []))):=(TouS.refl _ _).setCell c _
 have hl:=h.len
 have hlt:=h.lt
 refine ⟨h.row.set c _,by rw [e,List.length_append,←hl]; rfl,fun i hi=>?_,fun i h1 h2=>?_,by omega,ht.below h.bel h.hB,h.hB,h.gs _ _ _ h.gd,h.gb,h.gs⟩
 ·rw [e]
  by_cases hic:i=c
  ·subst hic
   have e2:(((m.take j).filter fun r=>!f r) ++ [m.getD j []]).getD i []=m.getD j []:=by rw [hl]; simp
   rw [e2,if_pos rfl]
  ·have e2:(((m.take j).filter fun r=>!f r) ++ [m.getD j []]).getD i []=((m.take j).filter fun r=>!f r).getD i []:=by
    simp only [List.getD_eq_getElem?_getD]; rw [List.getElem?_append_left (by omega)]
   rw [e2,if_neg hic]
   exact h.done i (by omega)
 ·rw [if_neg (by omega)]
  exact h.rest i (by omega) h2
theorem DiS.fin {B:Nat} {w:World} {g cap:Nat} {Gd:World→Prop} {m:List (List UInt8)} {f:List UInt8→Bool} {j c:Nat} {F:Nat→Value} {wr:World} (h:DiS B w g cap Gd m f j c F wr) (hj:j=m.length) (h1:m.length≤cap) (h2:cap≤9223372036854775807) :
  (wr.setCells g c (List.replicate (m.length-c) (.string ⟨#[]⟩))).ownsRow B 9 1 (.slice (some ⟨g,0,none⟩) c cap) (m.filter fun r=>!f r).length (strs (m.filter fun r=>!f r))∧Below B w (wr.setCells g c (List.replicate (m.length-c) (.string ⟨#[]⟩))):=by
 subst hj
 have e:m.take m.length=m:=List.take_length
 have hl:=h.len
 have hd:=h.done
 rw [e] at hl hd
 have ht:TouS g wr (wr.setCells g c (List.replicate (m.length-c) (.string ⟨#[]⟩))):=TouS.setCells _ _ (TouS.refl _ _)
 have hlt:=h.lt
 refine ⟨?_,ht.below h.bel h.hB⟩
 have hrow:=rowIs_setCells (List.replicate (m.length-c) (Value.string ⟨#[]⟩)) c wr F h.row
 have:=row_ownS (B:=B) (m:=m.filter fun r=>!f r) hrow h.hB (by omega) h2 (fun i hi=>by
  rw [←hl] at hi
  rw [if_neg (by omega)]
  exact hd i hi)
 rw [←hl] at this ⊢
 exact this
set_option maxRecDepth 100000 in
set_option maxHeartbeats 1600000 in
theorem deleteS_any (B b1 b2:Nat) (f:List UInt8→Bool) (Gd:World→Prop) (m:List (List UInt8)) (v:Value) (w:World) (hv:w.ownsRow B 9 1 v m.length (strs m)) (hBw:B≤w.heap.size) (hml:m.length≤1000000)
  (hC:∀x∈m,∀W:World,Gd W→Calls Tryz.prog 15 #[strT x,.pointer (some ⟨b1,0,none⟩),.pointer (some ⟨b2,0,none⟩)] W fun e w'=>e=.returned (.bool (f x))∧Below W.heap.size W w')
  (h1:Gd w) (hgb:∀W W',Gd W→Below W.heap.size W W'→Gd W') (hgs:∀g,v.ownBlock=some g→∀W c u,Gd W→Gd (W.setCell ⟨g,c,none⟩ u)) :
  Calls Tryz.prog 18 #[v,.func (.func 15) #[] #[.pointer (some ⟨b1,0,none⟩),.pointer (some ⟨b2,0,none⟩)]] w fun e w'=>∃u,e=.returned u∧w'.ownsRow B 9 1 u (m.filter fun r=>!f r).length (strs (m.filter fun r=>!f r))∧Below B w w':=by
 have HC:Hid (∀x∈m,∀W:World,Gd W→Calls Tryz.prog 15 #[strT x,.pointer (some ⟨b1,0,none⟩),.pointer (some ⟨b2,0,none⟩)] W fun e w'=>e=.returned (.bool (f x))∧Below W.heap.size W w'):=hC
 have HI:Hid (Calls Tryz.prog 29 #[v,.func (.func 15) #[] #[.pointer (some ⟨b1,0,none⟩),.pointer (some ⟨b2,0,none⟩)]] w fun e w'=>e=.returned (.int .i64 (findS f m))∧Below w.heap.size w w'):=
  idxD_any 0 f m v b1 b2 w (Sl.own hv) fun x hx W' h=>hC x hx W' (hgb _ _ h1 h)
 obtain ⟨ao,cap,hvv⟩:=owns_form hv
 subst hvv
 have HV:Hid (w.ownsRow B 9 1 (.slice ao m.length cap) m.length (strs m)):=hv
 have HBW:Hid (B≤w.heap.size):=hBw
 have H1:Hid (Gd w):=h1
 have HGB:Hid (∀W W',Gd W→Below W.heap.size W W'→Gd W'):=hgb
 have HGS:Hid (∀g,(Value.slice ao m.length cap).ownBlock=some g→∀W c u,Gd W→Gd (W.setCell ⟨g,c,none⟩ u)):=hgs
 clear hv hBw h1 hgb hgs hC
 have HZ:Hid ((findS f m=-1∧m.any f=false)∨∃k:Nat,findS f m=k∧k < m.length∧(m.take k).any f=false∧f (m.getD k [])=true):=by
  show _∨_
  cases ha:m.any f
  ·exact Or.inl ⟨findS_none ha,rfl⟩
  ·right
   have hlt:=List.findIdx_lt_length_of_exists (List.any_eq_true.1 ha)
   refine ⟨m.findIdx f,by unfold findS; rw [if_pos ha],hlt,?_,?_⟩
   ·rw [List.any_eq_false]
    intro x hx
    obtain ⟨i,hi,rfl⟩:=List.getElem_of_mem hx
    have hi2:i < m.findIdx f:=by rw [List.length_take] at hi; omega
    rw [List.getElem_take]
    simp [List.not_of_lt_findIdx hi2]
   ·have:=List.findIdx_getElem (w:=hlt)
    rw [show m.getD (m.findIdx f) []=m[m.findIdx f] by simp [hlt]]
    exact this
 generalize findS f m=z at *
 go_enter Tryz.func18,Tryz.ntmps18
 go_wp2_with fail
 refine HI.out.mono ?_
 rintro e w1 ⟨rfl,hb⟩
 have HB1:Hid (Below w.heap.size w w1):=hb
 clear hb HI
 have hz:=HZ.out
 clear HZ
 rcases hz with ⟨rfl,hno⟩ | ⟨k,rfl,hk,hno,hyes⟩
 ·have HFI:Hid ((m.filter fun r=>!f r)=m):=by
   show _=_
   rw [List.filter_eq_self]
   intro r hr
   have:=List.any_eq_false.1 hno r hr
   simpa using this
  clear hno
  go_wp2
  go_ret
  exact ⟨_,rfl,by rw [HFI.out]; exact owns_below HV.out HB1.out (Nat.le_refl _),HB1.out.mono HBW.out⟩
 ·obtain ⟨g,cap2,F,hvv,hBg,hc1,hc2,hrow,hin⟩:=own_rowS (owns_below HV.out HB1.out (Nat.le_refl _)) rfl (by omega)
  simp only [Value.slice.injEq] at hvv
  obtain ⟨rfl,hxx,rfl⟩:=hvv
  clear hxx
  have HDM:Hid (DiS B w g cap Gd m f (k+1) k F w1):=by
   have hft:((m.take k).filter fun r=>!f r)=m.take k:=by
    rw [List.filter_eq_self]
    intro r hr
    have:=List.any_eq_false.1 hno r hr
    simpa using this
   have e:=filtS_snoc (f:=f) hk
   rw [if_pos hyes,List.append_nil,hft] at e
   refine ⟨hrow,by rw [e,List.length_take]; omega,fun i hi=>?_,fun i h1 h2=>hin i h2,by omega,HB1.out.mono HBW.out,hBg,HGB.out _ _ H1.out HB1.out,HGB.out,HGS.out g rfl⟩
   rw [e]
   have e2:(m.take k).getD i []=m.getD i []:=by
    simp only [List.getD_eq_getElem?_getD]; rw [List.getElem?_take_of_lt hi]
   rw [e2]
   exact hin i (by omega)
  clear hrow hin hno hyes
  have tk:((k:Int) == -1)=false:=by simp
  go_wp2
  go_loopw [5,6,7] (fun x1 x2 _ wr=>∃(j c:Nat) (F:Nat→Value),j≤m.length∧x2=.int .i64 j∧x1=.int .i64 c∧DiS B w g cap Gd m f j c F wr) (fun _ x2 _ _=>m.length-(intOf x2).toNat)
  case atStart=>exact ⟨k+1,k,F,by omega,by go_num,rfl,HDM.out⟩
  case round=>
   obtain ⟨j,c,F2,hj,rfl,rfl,hdm⟩:=hrel
   have HD:Hid (DiS B w g cap Gd m f j c F2 wr):=hdm
   have hclt:=hdm.lt
   by_cases hjn:j < m.length
   ·have d1:=hdm.row.cell (i:=j) (by omega)
    rw [hdm.rest j (Nat.le_refl _) hjn] at d1
    have HCA:Hid (Calls Tryz.prog 15 #[strT (m.getD j []),.pointer (some ⟨b1,0,none⟩),.pointer (some ⟨b2,0,none⟩)] wr fun e w'=>e=.returned (.bool (f (m.getD j [])))∧Below wr.heap.size wr w'):=HC.out _ (by simp [hjn]) wr HD.out.gd
    obtain ⟨x,hx⟩:∃x,x=m.getD j []:=⟨_,rfl⟩
    have HX:Hid (x=m.getD j []):=hx
    rw [←hx] at d1 HCA
    obtain ⟨XB,hXB⟩:∃XB:ByteArray,strT x=.string XB:=⟨_,rfl⟩
    have HXB:Hid (strT x=.string XB):=hXB
    rw [hXB] at d1 HCA
    clear hXB
    obtain ⟨fb,hfb⟩:∃fb,fb=f x:=⟨_,rfl⟩
    have HFB:Hid (fb=f (m.getD j [])):=by rw [←hx]; exact hfb
    rw [←hfb] at HCA
    clear hfb hx hdm
    have hjI:(j:Int) < (m.length:Int):=by omega
    go_wp2_with fail
    refine HCA.out.mono ?_
    rintro e w2 ⟨rfl,hb2⟩
    have HD2:Hid (DiS B w g cap Gd m f j c F2 w2):=HD.out.below hb2
    clear hb2 HCA d1
    cases hf:fb
    ·have HNX:Hid (DiS B w g cap Gd m f (j+1) (c+1) (fun i=>if i=c then .string XB else F2 i) (w2.setCell ⟨g,c,none⟩ (.string XB))):=by
      have h:=HD2.out.next hjn (by rw [←HFB.out]; exact hf)
      rw [←HX.out,HXB.out] at h
      exact h
     have d3:=HD2.out.row.cell (i:=c) (by omega)
     have d4:=HD2.out.row.frozen c
     generalize F2 c=fc at d3
     have hcI:(c:Int) < (m.length:Int):=by omega
     clear hf
     go_wp2
     go_roundw
     case rel=>exact ⟨j+1,c+1,_,by omega,by go_num,by go_num,HNX.out⟩
     case measure=>simp [intOf]; omega
    ·have HSK:Hid (DiS B w g cap Gd m f (j+1) c F2 w2):=HD2.out.skip hjn (by rw [←HFB.out]; exact hf)
     clear hf
     go_wp2
     go_roundw
     case rel=>exact ⟨j+1,c,F2,by omega,by go_num,rfl,HSK.out⟩
     case measure=>simp [intOf]; omega
   ·have hje:j=m.length:=by omega
    have HFN:Hid (_∧_):=HD.out.fin hje hc1 hc2
    have hclr:∀ty,(Builtin.clear_ #[26] ty #[.slice (some ⟨g,c,none⟩) (m.length-c) (cap-c)]).run Tryz.prog wr=.ok (.tuple #[]) (wr.setCells g c (List.replicate (m.length-c) (.string ⟨#[]⟩))):=
     fun ty=>Lib.run_clear_slice wr 26 9 ty (.string ⟨#[]⟩) Tryz.underlying26 (fun w=>by first | rfl | kernel_rfl | simp [go_sem]) rfl rfl g c (m.length-c) (cap-c) (by omega) (fun q hq=>by rw [hdm.row.cell (by omega)]; rfl) (fun q hq=>hdm.row.frozen _)
    have hcI:(c:Int)≤(m.length:Int):=by omega
    have hcI0:(0:Int)≤(c:Int):=by omega
    have hcc:c < cap:=by omega
    have hcm2:c≤m.length:=by omega
    have hcc2:c≤cap:=by omega
    have hjI:decide ((j:Int) < (m.length:Int))=false:=by simp; omega
    clear hdm hje
    go_wp2
    go_ret
    exact ⟨_,rfl,HFN.out.1,HFN.out.2⟩
end Go.Proofs.YtbdacimjebaihaaGreat
namespace Go.Proofs.YtbdacimjebaihaaGreat
open Go.RowKit Lin
attribute [local go_sem ↓] Go.wp_at_zero Go.wp_at_succ
theorem GS.startW {B R n c wd a b:Nat} {mat:Nat→Nat→Int} {W:World} {f g:Nat→Nat} (hR:W.heap[R]?=some (.cells #[.slice (some ⟨a,0,none⟩) 0 n,.slice (some ⟨b,0,none⟩) 0 wd,.int .i64 1,.int .i64 1] 95 (0,0)))
  (ha:W.heap[a]?=some (.cells (madeCells #[.slice none 0 0] n) 22 (0,0))) (hb:W.heap[b]?=some (.cells (madeCells #[.int .i64 0] wd) 3 (0,0))) (ha':B≤a) (hb':B≤b) (hn:n≤maxLen) (hc:wd≤maxLen) :
  GS B R 0 c mat (.slice (some ⟨a,0,none⟩) 0 n) (.slice (some ⟨b,0,none⟩) 0 wd) f g W:=
 ⟨hR,⟨by simp,Or.inr ⟨a,n,_,rfl,ha',ha,Nat.zero_le _,hn,by rw [size_madeCells]; omega,by simp⟩⟩,fun i hi=>absurd hi (by omega),fun i j hi=>absurd hi (by omega),
  ⟨by simp,Or.inr ⟨b,wd,_,rfl,hb',hb,Nat.zero_le _,hc,by rw [size_madeCells]; omega,by simp⟩⟩,fun _ _ i hi=>absurd hi (by omega)⟩
set_option linter.unusedSimpArgs false in
set_option maxRecDepth 100000 in
set_option maxHeartbeats 4000000 in
theorem reduceW_any (B0 c wd:Nat) (hwd:wd≤c) (hw0:0 < wd) (m:List (List Int)) (v:Value) (w:World) (hv:Mat B0 22 3 w v m) (hm:m.length≤500) (hc0:0 < c) (hc:c≤64) (hw:∀r∈m,r.length=c) (hbd:Bd (mOf m) m.length c) :
  Calls Tryz.prog 63 #[v,.int .i64 wd] w fun e w'=>∃M' C k sgn,Red (mOf m) m.length wd M' C k sgn∧∃rv pv,e=.returned (.agg #[rv,pv,.int .i64 (dk M' C k),.int .i64 sgn])∧
   Mat w.heap.size 22 3 w' rv (rowsOf m.length c (rr M' C k))∧Sl w.heap.size 3 w' pv (ints ((List.range k).map fun b=>(C b:Int)))∧Below w.heap.size w w':=by
 obtain ⟨i3,hi3,hz30,hz31,hz32⟩:=info_parts Tryz.info22
 obtain ⟨ao,cap,hvv,hcap,hcm⟩:=mat_open hv
 subst hvv
 have HV:Hid (Mat B0 22 3 w (.slice ao m.length cap) m):=hv
 have HBD:Hid (Bd (mOf m) m.length c):=hbd
 have HW:Hid (∀r∈m,r.length=c):=hw
 clear hv hbd hw
 have hmL:=run_make_room (P:=Tryz.prog) 24 22 (.slice none 0 0) 24 Tryz.underlying24 Tryz.info22 rfl .i64 .i64 m.length (by omega) (by omega)
 have hmI:=run_make_room (P:=Tryz.prog) 22 3 (.int .i64 0) 8 Tryz.underlying22 Tryz.info3 rfl .i64 .i64 wd (by omega) (by omega)
 go_enter Tryz.func63,Tryz.ntmps63
 go_upto_region 1 with fail
 go_cut [5] from 9 (fun x wx=>∃R rv pv,x=.pointer (some ⟨R,0,none⟩)∧w.heap.size+1≤R∧GS (w.heap.size+1) R 0 c (mOf m) rv pv (fun _=>0) (fun _=>0) wx∧Below w.heap.size w wx∧wx.heap[w.heap.size]?=some (.cells #[.slice none 0 0,.slice none 0 0,.int .i64 0,.int .i64 0] 95 (0,0))∧∃ra rcp,rv=.slice (some ⟨ra,0,none⟩) 0 rcp)
 case first=>
  go_region_law fail
  all_goals go_wp2
  all_goals go_meet
  all_goals (have n1:(w.heap.size=w.heap.size+1+1+1)=False:=by simp; omega)
  all_goals (have n2:(w.heap.size=w.heap.size+1+1)=False:=by simp; omega)
  all_goals first
   | (refine ⟨_,.slice (some ⟨w.heap.size+1,0,none⟩) 0 m.length,.slice (some ⟨w.heap.size+1+1,0,none⟩) 0 wd,rfl,?g0,GS.startW ?g1 ?g2 ?g3 ?g4 ?g5 ?g6 ?g7,?g8,?g9,_,_,rfl⟩; (case g1=>simp [alloc_heapK,drew_heapK,Array.getElem_push]); (case g2=>simp [alloc_heapK,drew_heapK,Array.getElem_push]); (case g3=>simp [alloc_heapK,drew_heapK,Array.getElem_push]); (case g0=>omega); (case g4=>omega); (case g5=>omega); (case g6=>unfold maxLen; omega); (case g7=>unfold maxLen; omega); (case g8=>repeat first | exact Below.refl _ _ | refine Below.drew ?_ | refine Below.setCell ?_ (by simp; try omega) _ | refine Below.alloc ?_ (by simp; try omega) _); (case g9=>simp [alloc_heapK,drew_heapK,Array.getElem?_push,n1,n2]))
   | (refine ⟨_,.slice (some ⟨w.heap.size+1,0,none⟩) 0 m.length,.slice (some ⟨w.heap.size+1+1+1,0,none⟩) 0 wd,rfl,?g0,GS.startW ?g1 ?g2 ?g3 ?g4 ?g5 ?g6 ?g7,?g8,?g9,_,_,rfl⟩; (case g1=>simp [alloc_heapK,drew_heapK,Array.getElem_push]); (case g2=>simp [alloc_heapK,drew_heapK,Array.getElem_push]); (case g3=>simp [alloc_heapK,drew_heapK,Array.getElem_push]); (case g0=>omega); (case g4=>omega); (case g5=>omega); (case g6=>unfold maxLen; omega); (case g7=>unfold maxLen; omega); (case g8=>repeat first | exact Below.refl _ _ | refine Below.drew ?_ | refine Below.setCell ?_ (by simp; try omega) _ | refine Below.alloc ?_ (by simp; try omega) _); (case g9=>simp [alloc_heapK,drew_heapK,Array.getElem?_push,n1,n2]))
   | (refine ⟨_,.slice (some ⟨w.heap.size+1+1,0,none⟩) 0 m.length,.slice (some ⟨w.heap.size+1,0,none⟩) 0 wd,rfl,?g0,GS.startW ?g1 ?g2 ?g3 ?g4 ?g5 ?g6 ?g7,?g8,?g9,_,_,rfl⟩; (case g1=>simp [alloc_heapK,drew_heapK,Array.getElem_push]); (case g2=>simp [alloc_heapK,drew_heapK,Array.getElem_push]); (case g3=>simp [alloc_heapK,drew_heapK,Array.getElem_push]); (case g0=>omega); (case g4=>omega); (case g5=>omega); (case g6=>unfold maxLen; omega); (case g7=>unfold maxLen; omega); (case g8=>repeat first | exact Below.refl _ _ | refine Below.drew ?_ | refine Below.setCell ?_ (by simp; try omega) _ | refine Below.alloc ?_ (by simp; try omega) _); (case g9=>simp [alloc_heapK,drew_heapK,Array.getElem?_push,n1,n2]))
   | (refine ⟨_,.slice (some ⟨w.heap.size+1+1,0,none⟩) 0 m.length,.slice (some ⟨w.heap.size+1+1+1,0,none⟩) 0 wd,rfl,?g0,GS.startW ?g1 ?g2 ?g3 ?g4 ?g5 ?g6 ?g7,?g8,?g9,_,_,rfl⟩; (case g1=>simp [alloc_heapK,drew_heapK,Array.getElem_push]); (case g2=>simp [alloc_heapK,drew_heapK,Array.getElem_push]); (case g3=>simp [alloc_heapK,drew_heapK,Array.getElem_push]); (case g0=>omega); (case g4=>omega); (case g5=>omega); (case g6=>unfold maxLen; omega); (case g7=>unfold maxLen; omega); (case g8=>repeat first | exact Below.refl _ _ | refine Below.drew ?_ | refine Below.setCell ?_ (by simp; try omega) _ | refine Below.alloc ?_ (by simp; try omega) _); (case g9=>simp [alloc_heapK,drew_heapK,Array.getElem?_push,n1,n2]))
   | (refine ⟨_,.slice (some ⟨w.heap.size+1+1+1,0,none⟩) 0 m.length,.slice (some ⟨w.heap.size+1,0,none⟩) 0 wd,rfl,?g0,GS.startW ?g1 ?g2 ?g3 ?g4 ?g5 ?g6 ?g7,?g8,?g9,_,_,rfl⟩; (case g1=>simp [alloc_heapK,drew_heapK,Array.getElem_push]); (case g2=>simp [alloc_heapK,drew_heapK,Array.getElem_push]); (case g3=>simp [alloc_heapK,drew_heapK,Array.getElem_push]); (case g0=>omega); (case g4=>omega); (case g5=>omega); (case g6=>unfold maxLen; omega); (case g7=>unfold maxLen; omega); (case g8=>repeat first | exact Below.refl _ _ | refine Below.drew ?_ | refine Below.setCell ?_ (by simp; try omega) _ | refine Below.alloc ?_ (by simp; try omega) _); (case g9=>simp [alloc_heapK,drew_heapK,Array.getElem?_push,n1,n2]))
   | (refine ⟨_,.slice (some ⟨w.heap.size+1+1+1,0,none⟩) 0 m.length,.slice (some ⟨w.heap.size+1+1,0,none⟩) 0 wd,rfl,?g0,GS.startW ?g1 ?g2 ?g3 ?g4 ?g5 ?g6 ?g7,?g8,?g9,_,_,rfl⟩; (case g1=>simp [alloc_heapK,drew_heapK,Array.getElem_push]); (case g2=>simp [alloc_heapK,drew_heapK,Array.getElem_push]); (case g3=>simp [alloc_heapK,drew_heapK,Array.getElem_push]); (case g0=>omega); (case g4=>omega); (case g5=>omega); (case g6=>unfold maxLen; omega); (case g7=>unfold maxLen; omega); (case g8=>repeat first | exact Below.refl _ _ | refine Below.drew ?_ | refine Below.setCell ?_ (by simp; try omega) _ | refine Below.alloc ?_ (by simp; try omega) _); (case g9=>simp [alloc_heapK,drew_heapK,Array.getElem?_push,n1,n2]))
 case rest=>
 obtain ⟨R,rv0,pv,rfl,hR1,hgs0,hb0,hk0,hrv0⟩:=hcut
 obtain ⟨W0,hW0⟩:∃W0,W0=wc:=⟨_,rfl⟩
 rw [←hW0] at hgs0 hb0 hk0 ⊢
 obtain ⟨B,hB⟩:∃B,B=w.heap.size+1:=⟨_,rfl⟩
 rw [←hB] at hgs0 hR1
 have HR:Hid (B=w.heap.size+1):=hB
 have HBR:Hid (B≤R):=hR1
 have HG0:Hid (GS B R 0 c (mOf m) rv0 pv (fun _=>0) (fun _=>0) W0):=hgs0
 have HB0:Hid (Below w.heap.size w W0):=hb0
 have HS0:Hid (B≤W0.heap.size):=Nat.le_trans hR1 (Nat.le_of_lt (lt_of_block hgs0.st))
 have HRV:Hid (∃ra rcp,rv0=.slice (some ⟨ra,0,none⟩) 0 rcp):=hrv0
 have HK0:Hid (W0.heap[w.heap.size]?=some (.cells #[.slice none 0 0,.slice none 0 0,.int .i64 0,.int .i64 0] 95 (0,0))):=hk0
 clear hW0 hR1 hgs0 hb0 hk0 hB hmL hmI hrv0
 go_wp2
 go_loopw [17,7] (fun i _ wr=>∃t:Nat,t≤m.length∧i=.int .i64 t∧Below B W0 wr∧∃rv bs caps,GS B R t c (mOf m) rv pv bs caps wr∧∃ra n2 rcp,rv=.slice (some ⟨ra,0,none⟩) n2 rcp) (fun i _ _=>m.length-(intOf i).toNat)
 case atStart=>
  obtain ⟨ra,rcp,e⟩:=HRV.out
  exact ⟨0,Nat.zero_le _,rfl,Below.refl _ _,_,_,_,HG0.out,ra,0,rcp,e⟩
 case round=>
  obtain ⟨t,ht,rfl,hbel,rv,bs,caps,hgs,hsome⟩:=hrel
  obtain ⟨ro,rc,hrv⟩:=owns_form hgs.out
  subst hrv
  have HSM:Hid (∃ra,ro=some ⟨ra,0,none⟩):=by
   obtain ⟨ra,n2,rcp,e⟩:=hsome
   simp only [Value.slice.injEq] at e
   exact ⟨ra,e.1⟩
  clear hsome
  have HGS:Hid (GS B R t c (mOf m) (.slice ro t rc) pv bs caps wr):=hgs
  have HBL:Hid (Below B W0 wr):=hbel
  have HBW:Hid (Below w.heap.size w wr):=HB0.out.trans (hbel.mono (by rw [HR.out]; omega))
  have HRW:Hid (R < wr.heap.size):=lt_of_block hgs.st
  have g0:wr.cell? ⟨R,0,none⟩=some (.slice ro t rc):=by simp [World.cell?,hgs.st]
  clear hgs hbel
  by_cases htn:t < m.length
  ·obtain ⟨b,o,cap2,u,hv1,_,hcc,hsl⟩:=mat_cell (HV.out.below HBW.out (Nat.le_refl _)) htn
   simp only [Value.slice.injEq,true_and] at hv1
   obtain ⟨rfl,rfl⟩:=hv1
   have hlen:(m.getD t []).length=c:=by
    rw [List.getD_eq_getElem?_getD,List.getElem?_eq_getElem htn]; exact HW.out _ (List.getElem_mem htn)
   obtain ⟨xo,xc,hu,_,_⟩:=sl_open hsl
   rw [hlen] at hu
   subst hu
   have HCL:Hid (Calls Tryz.prog 60 #[.slice xo c xc] wr.drew fun e w2=>∃g uc,e=.returned (.slice (some ⟨g,0,none⟩) c uc)∧w2.ownsRow wr.heap.size 3 1 (.slice (some ⟨g,0,none⟩) c uc) c (ints ((List.range c).map (mOf m t)))∧Below wr.heap.size wr w2):=by
    refine (clone_any B0 (m.getD t []) _ wr.drew hsl.drew (by omega)).mono ?_
    rintro e w2 ⟨u,rfl,h1,h2⟩
    rw [hlen] at h1
    obtain ⟨g,uc,rfl⟩:=own_some h1 hc0
    exact ⟨g,uc,rfl,by rw [row_range HW.out htn]; exact h1,⟨h2.os,h2.tape,h2.output,h2.size,h2.block⟩⟩
   have HFL:Hid (∀w2 g uc o v' w3,w2.ownsRow wr.heap.size 3 1 (.slice (some ⟨g,0,none⟩) c uc) c (ints ((List.range c).map (mOf m t)))→Below wr.heap.size wr w2→(w2.alloc o).grownBy w3 (Value.slice ro t rc).ownBlock→
     w3.ownsRow B 22 1 v' (t+1) (((List.range t).map fun i=>.slice (some ⟨bs i,0,none⟩) c (caps i)) ++ [.slice (some ⟨g,0,none⟩) c uc])→(v'.ownBlock=(Value.slice ro t rc).ownBlock∨v'.ownBlock=some (w2.alloc o).heap.size)→
     GS B R (t+1) c (mOf m) v' pv (fun i=>if i=t then g else bs i) (fun i=>if i=t then uc else caps i) (w3.setCell ⟨R,0,none⟩ v')∧w3.cell? ⟨R,0,none⟩=some (.slice ro t rc)∧w3.frozen? ⟨R,0,none⟩=false∧Below B wr w3):=
    fun w2 g uc o v' w3 a1 a2 a3 a4 a5=>HGS.out.push (Nat.le_trans HBR.out (Nat.le_of_lt HRW.out)) a2 a1 a3 a4 a5
   have HC2:Hid (∀w2,Below wr.heap.size wr w2→w2.cell? ⟨R,0,none⟩=some (.slice ro t rc)∧R < w2.heap.size∧w2.ownsRow B 22 1 (.slice ro t rc) t ((List.range t).map fun i=>.slice (some ⟨bs i,0,none⟩) c (caps i))):=
    fun _ h=>⟨(h.cell HRW.out).trans g0,Nat.lt_of_lt_of_le HRW.out h.size,owns_below HGS.out.out h (Nat.le_refl _)⟩
   have htm:t+1≤maxLen:=by unfold maxLen; omega
   have hRw:R < wr.heap.size:=HRW.out
   clear hsl hlen
   go_wp2
   go_region_law (first
    | (refine step_call (o:={ dst:=some 24,op:=_,type:=_,pos:=_,after:=_,guard:=_ }) (by rfl) 60 _ 22 (by rfl) _ (by rfl) ⟨_,Tryz.func60,by rfl,by rfl⟩ ?_; refine (HCL.out).mono ?_; rintro e w2 ⟨g,uc,rfl,ho2,hb2⟩; refine ⟨_,rfl,?_⟩; have OW2:Hid (w2.ownsRow wr.heap.size 3 1 (.slice (some ⟨g,0,none⟩) c uc) c (ints ((List.range c).map (mOf m t)))):=ho2; have BE2:Hid (Below wr.heap.size wr w2):=hb2; have KS1:=(HC2.out w2 hb2).1; have KS2:=(HC2.out w2 hb2).2.1; have KS3:Hid (w2.ownsRow B 22 1 (.slice ro t rc) t ((List.range t).map fun i=>.slice (some ⟨bs i,0,none⟩) c (caps i))):=(HC2.out w2 hb2).2.2; clear ho2 hb2)
    | (refine step_append_at (o:={ dst:=some 26,op:=_,type:=_,pos:=_,after:=_,guard:=_ }) (by rfl) _ _ 24 (by rfl) B 22 i3 (.slice none 0 0) 1 24 Tryz.underlying24 hi3 hz30 hz31 hz32 rfl (by decide) _ _ _ (by rfl) (KS3.out.alloc _) ⟨w2.heap.size,0,none⟩ 1 1 [.slice (some ⟨g,0,none⟩) c uc] (by rfl) rfl (one_new _ _ _) (one_slice _ _ _) htm (by omega) (Nat.le_trans HBR.out (Nat.le_trans (Nat.le_of_lt KS2) (by simp))) ?_; intro v' w3 ho hg hat; obtain ⟨vo,vc,hv'⟩:=owns_form ho; subst hv'; have FF:Hid _:=HFL.out w2 g uc _ _ w3 OW2.out BE2.out hg ho hat; have LS1:=FF.out.2.1; have LS2:=FF.out.2.2.1))
   all_goals
    have S1:Hid (∃rv bs caps,GS B R (t+1) c (mOf m) rv pv bs caps (w3.setCell ⟨R,0,none⟩ (.slice vo (t+1) vc))∧∃ra n2 rcp,rv=.slice (some ⟨ra,0,none⟩) n2 rcp):=⟨_,_,_,FF.out.1,own_some3 FF.out.1.out (by omega)⟩
    have S2:Hid (Below B W0 (w3.setCell ⟨R,0,none⟩ (.slice vo (t+1) vc))):=(HBL.out.trans FF.out.2.2.2).setCell (by exact HBR.out) _
    clear FF hg ho hat LS1 LS2 KS1 KS2 KS3 OW2 BE2
    go_wp2
    go_roundw
    case rel=>exact ⟨t+1,by omega,by go_num,S2.out,S1.out⟩
    case measure=>simp [intOf]; omega
  ·have htn':t=m.length:=by omega
   subst htn'
   have HL0:Hid (LS B R m.length c (mOf m) 0 wr):=by
    obtain ⟨ra,e⟩:=HSM.out
    subst e
    exact HGS.out.ls0
   clear htn g0 HGS
   go_wp2
   go_loopw [30,8] (fun i _ wx=>∃q:Nat,q≤wd∧i=.int .i64 q∧Below B W0 wx∧LS B R m.length c (mOf m) q wx) (fun i _ _=>wd-(intOf i).toNat)
   case atStart=>exact ⟨0,Nat.zero_le _,rfl,HBL.out,HL0.out⟩
   case round=>
    obtain ⟨q,hq,rfl,hbq,hlq⟩:=hrel
    have hsz:B≤wr.heap.size:=Nat.le_trans HS0.out hbq.size
    have HBQ:Hid (Below B W0 wr):=hbq
    by_cases hqc:q < wd
    ·have HP:Hid (Calls Tryz.prog 84 #[.pointer (some ⟨R,0,none⟩),.int .i64 q] wr fun e w'=>e=.returned (.tuple #[])∧LS B R m.length c (mOf m) (q+1) w'∧Below B wr w'):=pivot_step B R m.length c q (mOf m) wr hlq hsz HBR.out hm (by omega) HBD.out
     clear hlq hbq
     go_wp2_with fail
     refine (HP.out).mono ?_
     rintro e w2 ⟨rfl,hl2,hb2⟩
     have S1:Hid (LS B R m.length c (mOf m) (q+1) w2):=hl2
     have S2:Hid (Below B W0 w2):=HBQ.out.trans hb2
     clear hl2 hb2 HP
     go_wp2
     go_roundw
     case rel=>exact ⟨q+1,by omega,by go_num,S2.out,S1.out⟩
     case measure=>simp [intOf]; omega
    ·have hqc':q=wd:=by omega
     subst hqc'
     obtain ⟨M',C,k,sgn,hred,go,capo,pv,bs,caps,hrs⟩:=hlq
     obtain ⟨po,pc,hpv⟩:=owns_form hrs.piv
     simp only [List.length_map,List.length_range] at hpv
     subst hpv
     obtain ⟨c0,c1,c2,c3,_,_,_,_⟩:=hrs.cells
     have HRD:Hid (Red (mOf m) m.length q M' C k sgn):=hred
     have HRS:Hid (RS B R m.length c (rr M' C k) ((List.range k).map fun b=>(C b:Int)) (dk M' C k) sgn go capo (.slice po k pc) bs caps wr):=hrs
     have hk:wr.heap[w.heap.size]?=some (.cells #[.slice none 0 0,.slice none 0 0,.int .i64 0,.int .i64 0] 95 (0,0)):=(hbq.block _ (by rw [HR.out]; omega)).trans HK0.out
     have k0:wr.cell? ⟨w.heap.size,0,none⟩=some (.slice none 0 0):=by simp [World.cell?,hk]
     have k1:wr.cell? ⟨w.heap.size,1,none⟩=some (.slice none 0 0):=by simp [World.cell?,hk]
     have k2:wr.cell? ⟨w.heap.size,2,none⟩=some (.int .i64 0):=by simp [World.cell?,hk]
     have k3:wr.cell? ⟨w.heap.size,3,none⟩=some (.int .i64 0):=by simp [World.cell?,hk]
     have kf:∀i,wr.frozen? ⟨w.heap.size,i,none⟩=false:=fun i=>by simp [World.frozen?,hk]
     have f0:=kf 0
     have f1:=kf 1
     have f2:=kf 2
     have f3:=kf 3
     generalize hdd:dk M' C k=dd at *
     clear hred hrs hbq hk kf hqc hq HL0 HBL HBW HRW
     have HFN:Hid (∀x0 x1 x2 x3,Mat w.heap.size 22 3 ((((wr.setCell ⟨w.heap.size,0,none⟩ x0).setCell ⟨w.heap.size,1,none⟩ x1).setCell ⟨w.heap.size,2,none⟩ x2).setCell ⟨w.heap.size,3,none⟩ x3) (.slice (some ⟨go,0,none⟩) m.length capo) (rowsOf m.length c (rr M' C k))∧
       Sl w.heap.size 3 ((((wr.setCell ⟨w.heap.size,0,none⟩ x0).setCell ⟨w.heap.size,1,none⟩ x1).setCell ⟨w.heap.size,2,none⟩ x2).setCell ⟨w.heap.size,3,none⟩ x3) (.slice po k pc) (ints ((List.range k).map fun b=>(C b:Int)))∧
       Below w.heap.size w ((((wr.setCell ⟨w.heap.size,0,none⟩ x0).setCell ⟨w.heap.size,1,none⟩ x1).setCell ⟨w.heap.size,2,none⟩ x2).setCell ⟨w.heap.size,3,none⟩ x3)):=by
      intro x0 x1 x2 x3
      have hr:=HR.out
      have h1:=HRS.out.above (w':=(((wr.setCell ⟨w.heap.size,0,none⟩ x0).setCell ⟨w.heap.size,1,none⟩ x1).setCell ⟨w.heap.size,2,none⟩ x2).setCell ⟨w.heap.size,3,none⟩ x3) HBR.out (fun b hb=>by
       have hne:b≠w.heap.size:=by omega
       rw [Below.heap_setCell _ _ _ _ hne,Below.heap_setCell _ _ _ _ hne,Below.heap_setCell _ _ _ _ hne,Below.heap_setCell _ _ _ _ hne])
      refine ⟨?_,Sl.own h1.piv,?_⟩
      ·exact h1.whole
      ·exact (((((HB0.out.trans (HBQ.out.mono (by omega))).setCell (by exact Nat.le_refl _) _).setCell (by exact Nat.le_refl _) _).setCell (by exact Nat.le_refl _) _).setCell (by exact Nat.le_refl _) _)
     have HDD:Hid (dk M' C k=dd):=hdd
     clear hdd
     go_wp2
     refine bodyPost_ret (v:=.agg #[.slice (some ⟨go,0,none⟩) m.length capo,.slice po k pc,.int .i64 dd,.int .i64 sgn]) (by simp [results,Tryz.results63,go_sem, *]) rfl ?_
     exact ⟨M',C,k,sgn,HRD.out,_,_,by rw [HDD.out],(HFN.out _ _ _ _).1,(HFN.out _ _ _ _).2.1,(HFN.out _ _ _ _).2.2⟩
set_option maxRecDepth 100000 in
set_option maxHeartbeats 800000 in
theorem rankW_any (B c wd:Nat) (m:List (List Int)) (v:Value) (w:World) (hwd:wd≤c) (hw0:0 < wd) (hx:Mx c 60 m) (hv:Mat B 22 3 w v m) (hm:m.length≤500) :
  Calls Tryz.prog 34 #[v,.int .i64 wd] w fun e w'=>e=.returned (.int .i64 ((pickL wd m).length:Nat))∧Below w.heap.size w w':=by
 obtain ⟨ao,cap,hvv,hlc,hcm⟩:=mat_open hv
 subst hvv
 have hc5:=hx.c5
 have hc1:=hx.c1
 have HR:Hid (Calls Tryz.prog 63 #[.slice ao m.length cap,.int .i64 wd] w fun e w'=>∃ro rc po pc val sgn,e=.returned (.agg #[.slice ro m.length rc,.slice po (pickL wd m).length pc,.int .i64 val,.int .i64 sgn])∧Below w.heap.size w w'):=by
  refine (reduceW_any B c wd hwd hw0 m _ w hv hm hc1 (by omega) hx.row (bd60 hx)).mono ?_
  rintro e w' ⟨M',C,k,sgn,hr,rv,pv,rfl,h1,h2,h3⟩
  obtain ⟨ro,rc,e1,_,_⟩:=mat_open h1
  obtain ⟨po,pc,e2,_,_⟩:=sl_open h2
  have hk:=red_rank hr
  simp only [List.length_map,List.length_range,rowsOf] at e1 e2
  rw [hk] at e2
  exact ⟨ro,rc,po,pc,_,_,by rw [e1,e2],h3⟩
 clear hv
 go_enter Tryz.func34,Tryz.ntmps34
 go_wp2_with fail
 refine (HR.out).mono ?_
 rintro e w2 ⟨ro,rc,po,pc,val,sgn,rfl,hb⟩
 have HB:Hid (Below w.heap.size w w2):=hb
 clear hb
 have hfl:=field1 (.slice ro m.length rc) (.slice po (pickL wd m).length pc) (.int .i64 val) (.int .i64 sgn) w2
 go_wp2
 go_ret
 exact ⟨rfl,HB.out⟩
end Go.Proofs.YtbdacimjebaihaaGreat
