import Derived.Test.YtgfnmkenpgnllaaGreatSgC
namespace Go.Proofs.YtgfnmkenpgnllaaGreat
set_option maxRecDepth 100000
set_option maxHeartbeats 1600000
open Go.RowKit
attribute [local go_sem ↓] Go.wp_at_zero Go.wp_at_succ
def ZDg(p:List UInt8→Bool)(zs:List (List UInt8)):Int:=if zs.any p then (zs.findIdx p:Int) else -1
theorem ZMA{p:List UInt8→Bool}{l:List (List UInt8)}{k:Nat}(h:k < l.length)(h0:(l.take k).any p=false)(h1:p l[k]=true):ZDg p l=k:=by
 have a:l.any p=true:=List.any_eq_true.2 ⟨l[k],List.getElem_mem _,h1⟩;unfold ZDg;rw [if_pos a];have c:=List.findIdx_lt_length_of_exists (List.any_eq_true.1 a)
 have f:l.findIdx p≤k:=Za6 fun hn=>by
  have:=List.not_of_lt_findIdx (p:=p) (xs:=l) (i:=k) (by omega)
  rw [h1] at this; simp at this
 have d:¬l.findIdx p < k:=fun hl=>by
  have b:=List.any_eq_false.1 h0 l[l.findIdx p] (List.mem_iff_getElem.2 ⟨l.findIdx p,by rw [List.length_take]; omega,by rw [List.getElem_take]⟩)
  exact b List.findIdx_getElem
 omega
theorem ZFV{p:List UInt8→Bool}{l:List (List UInt8)}(h0:l.any p=false):ZDg p l=-1:=by
 unfold ZDg; rw [h0]; rfl
theorem ZMB{p:List UInt8→Bool}{l:List (List UInt8)}{k:Nat}(h:k < l.length)(h0:(l.take k).any p=false):(l.take (k+1)).any p=p l[k]:=by
 rw [Zaa1 h,List.any_append,h0];simp
structure TouS(g:Nat)(w w':World):Prop where
 os:w'.os=w.os
 tape:w'.tape=w.tape
 output:w'.output=w.output
 size:w'.heap.size=w.heap.size
 block:∀b,b≠g→w'.heap[b]?=w.heap[b]?
theorem TouS.refl(g:Nat)(w:World):TouS g w w:=⟨rfl,rfl,rfl,rfl,fun _ _=>rfl⟩
theorem TouS.setCell{g:Nat}{w w':World}(h:TouS g w w')(j:Nat)(u:Value):TouS g w (w'.setCell ⟨g,j,none⟩ u):=
 ⟨h.os,h.tape,h.output,by simp [World.setCell,h.size],fun b hb=>(Below.heap_setCell _ _ _ _ hb).trans (h.block b hb)⟩
theorem TouS.below{g M:Nat}{w w2 wr:World}(h:TouS g w2 wr)(hb:Below M w w2)(hg:M≤g):Below M w wr:=
 ⟨h.os.trans hb.os,h.tape.trans hb.tape,h.output.trans hb.output,by rw [h.size]; exact hb.size,fun b hlt=>(h.block b (by omega)).trans (hb.block b hlt)⟩
theorem TouS.setCells{g:Nat}{w:World} : ∀(vs:List Value) (o:Nat) {w':World},TouS g w w'→TouS g w (w'.setCells g o vs)
 | [],_,_,h=>h
 | v :: r,o,_,h=>TouS.setCells r (o+1) (h.setCell o v)
theorem ZNm(B:Nat)(p:List UInt8→Bool)(zs:List (List UInt8))(v:Value)(b1 b2:Nat)(w:World)(hv:Sl B 9 w v (ZAc zs))
 (hc:∀x∈zs,∀W',Below w.heap.size w W'→Calls Tryz.prog 35 #[ZDJ x,.pointer (some ⟨b1,0,none⟩),.pointer (some ⟨b2,0,none⟩)] W' fun e w'=>e=.returned (.bool (p x))∧Below W'.heap.size W' w') :
  Calls Tryz.prog 55 #[v,.func (.func 35) #[] #[.pointer (some ⟨b1,0,none⟩),.pointer (some ⟨b2,0,none⟩)]] w fun e w'=>e=.returned (.int .i64 (ZDg p zs))∧Below w.heap.size w w':=by
 obtain ⟨G,t,l,A,E⟩:=ZDK hv;subst l;have D:Hid (Sl B 9 w (.slice G zs.length t) (ZAc zs)):=hv;have r:=hid hc;clear hv hc;go_enter Tryz.func55,Tryz.ntmps55;go_wp2
 go_loopw [5,8] (fun _ i wr=>∃k:Nat,k≤zs.length∧i=.int .i64 k∧(zs.take k).any p=false∧Below w.heap.size w wr) (fun _ i _=>zs.length-(intOf i).toNat)
 case atStart=>exact ⟨0,Za5 _,rfl,by simp,Below.refl _ _⟩
 case round=>
  obtain ⟨k,M,rfl,d,g⟩:=hrel;have j:=hid d;have a:=hid g;clear d g
  by_cases hlt:k < zs.length
  ·obtain ⟨L,o,J,s⟩:=ZCf (D.out.below a.out (Za4 _)) hlt
   subst J;have m:Hid ((zs.take (k+1)).any p=p zs[k]):=ZMB (p:=p) hlt j.out
   have z:Hid (p zs[k]=true→ZDg p zs=k):=fun h=>ZMA (p:=p) hlt j.out h
   rw [show zs.getD k []=zs[k] by simp [hlt]] at s
   have f:Hid (Calls Tryz.prog 35 #[ZDJ zs[k],.pointer (some ⟨b1,0,none⟩),.pointer (some ⟨b2,0,none⟩)] wr fun e w'=>e=.returned (.bool (p zs[k]))∧Below wr.heap.size wr w'):=r.out _ (List.getElem_mem _) wr a.out
   generalize zs[k]=x at *;generalize p x=fb at *
   cases fb
   ·go_wp2_with fail
    refine f.out.mono ?_;rintro e y ⟨rfl,b⟩;have c:Hid (Below w.heap.size w y):=a.out.trans (b.mono a.out.size);clear b;go_wp2
    go_roundw
    case rel=>exact ⟨k+1,by omega,by go_num,m.out,c.out⟩
    case measure=>simp [intOf]; omega
   ·have n:Hid (ZDg p zs=k):=z.out rfl
    clear z
    go_wp2_with fail
    refine f.out.mono ?_;rintro e y ⟨rfl,b⟩;have c:Hid (Below w.heap.size w y):=a.out.trans (b.mono a.out.size);clear b;go_wp2;go_ret;exact ⟨ZA9 n.out.symm,c.out⟩
  ·have e:zs.take k=zs:=Zaa2 (by omega)
   rw [e] at j;have F:Hid (ZDg p zs=-1):=ZFV j.out;go_wp2;go_ret;exact ⟨ZA9 F.out.symm,a.out⟩
theorem ZNn{B n:Nat}{w:World}{v:Value}{m:List (List UInt8)}(h:w.ownsRow B 9 1 v n (ZAc m))(hn:n=m.length)(hm:0 < m.length):∃g cap F,v=.slice (some ⟨g,0,none⟩) m.length cap∧B≤g∧m.length≤cap∧cap≤9223372036854775807∧w.rowIs g 9 cap F∧∀i,i < m.length→F i=ZDJ (m.getD i []):=by
 subst hn
 rcases h.2 with ⟨_,h0⟩ | ⟨g,cap,cur,hv,hb,hh,hn,hc,hs,ht⟩
 ·omega
 ·refine ⟨g,cap,fun i=>cur.toList.getD i (.string ⟨#[]⟩),hv,hb,hn,by unfold maxLen at hc; exact hc,⟨cur,hh,by omega,fun i hi=>?_⟩,fun i hi=>?_⟩
  ·show cur[i]?=some (cur.toList.getD i (.string ⟨#[]⟩))
   rw [←Array.getElem?_toList,Za2,Za9 (by simp; omega)]; rfl
  ·have e:cur.toList.getD i (.string ⟨#[]⟩)=(ZAc m).getD i (.string ⟨#[]⟩):=by
    rw [←ht];simp only [Za2]
    rw [Zaa5 (by omega)]
   show cur.toList.getD i (.string ⟨#[]⟩)=_
   rw [e];simp [ZAc,hi]
theorem ZNo{B:Nat}{w:World}{g cap:Nat}{F:Nat→Value}{m:List (List UInt8)}(h:w.rowIs g 9 cap F)(hB:B≤g)(h4:m.length≤cap)(h5:cap≤9223372036854775807)(h6:∀i,i < m.length→F i=ZDJ (m.getD i [])):w.ownsRow B 9 1 (.slice (some ⟨g,0,none⟩) m.length cap) m.length (ZAc m):=by
 obtain ⟨c,a,d,b⟩:=h
 refine ⟨by simp [ZAc],Or.inr ⟨g,cap,c,rfl,hB,a,h4,by unfold maxLen; exact h5,by omega,?_⟩⟩
 apply List.ext_getElem?
 intro i
 by_cases hi:i < m.length
 ·rw [Zaa5 (by omega),Array.getElem?_toList,b i (by omega),h6 i hi]; simp [ZAc,hi]
 ·rw [Zaa6 (by simp; omega),Zaa6 (by simp [ZAc]; omega)]
structure DiS(B:Nat)(w:World)(g cap:Nat)(Gd:World→Prop)(m:List (List UInt8))(f:List UInt8→Bool)(j c:Nat)(F:Nat→Value)(wr:World):Prop where
 row:wr.rowIs g 9 cap F
 len:c=((m.take j).filter fun r=>!f r).length
 done:∀i,i < c→F i=ZDJ (((m.take j).filter fun r=>!f r).getD i [])
 rest:∀i,j≤i→i < m.length→F i=ZDJ (m.getD i [])
 lt:c < j
 bel:Below B w wr
 hB:B≤g
 gd:Gd wr
 gb:∀W W',Gd W→Below W.heap.size W W'→Gd W'
 gs:∀W c u,Gd W→Gd (W.setCell ⟨g,c,none⟩ u)
theorem DiS.below{B:Nat}{w:World}{g cap:Nat}{Gd:World→Prop}{m:List (List UInt8)}{f:List UInt8→Bool}{j c:Nat}{F:Nat→Value}{wr w2:World}(h:DiS B w g cap Gd m f j c F wr)(hb:Below wr.heap.size wr w2):DiS B w g cap Gd m f j c F w2:=
 ⟨h.row.of_block (hb.block g h.row.lt),h.len,h.done,h.rest,h.lt,h.bel.trans (hb.mono (by have:=h.hB; have:=h.row.lt; omega)),h.hB,h.gb _ _ h.gd hb,h.gb,h.gs⟩
theorem ZDh{m:List (List UInt8)}{f:List UInt8→Bool}{j:Nat}(hj:j < m.length):((m.take (j+1)).filter fun r=>!f r)=((m.take j).filter fun r=>!f r) ++ (if f (m.getD j [])=true then [] else [m.getD j []]):=by
 have e:m.getD j []=m[j]:=by simp [hj]
 rw [Zaa1 hj,List.filter_append,e]
 cases hf:f m[j] <;> simp [hf]
theorem DiS.skip{B:Nat}{w:World}{g cap:Nat}{Gd:World→Prop}{m:List (List UInt8)}{f:List UInt8→Bool}{j c:Nat}{F:Nat→Value}{wr:World}(h:DiS B w g cap Gd m f j c F wr)(hj:j < m.length)(hf:f (m.getD j [])=true):DiS B w g cap Gd m f (j+1) c F wr:=by
 have e:=ZDh (f:=f) hj;rw [if_pos hf,List.append_nil] at e
 exact ⟨h.row,by rw [e]; exact h.len,by rw [e]; exact h.done,fun i h1 h2=>h.rest i (by omega) h2,by have:=h.lt; omega,h.bel,h.hB,h.gd,h.gb,h.gs⟩
theorem DiS.next{B:Nat}{w:World}{g cap:Nat}{Gd:World→Prop}{m:List (List UInt8)}{f:List UInt8→Bool}{j c:Nat}{F:Nat→Value}{wr:World}(h:DiS B w g cap Gd m f j c F wr)(hj:j < m.length)(hf:f (m.getD j [])=false):DiS B w g cap Gd m f (j+1) (c+1) (fun i=>if i=c then ZDJ (m.getD j []) else F i) (wr.setCell ⟨g,c,none⟩ (ZDJ (m.getD j []))):=by
 have e:=ZDh (f:=f) hj
 rw [if_neg (by rw [hf]; decide)] at e
 have l:TouS g wr (wr.setCell ⟨g,c,none⟩ (ZDJ (m.getD j []))):=(TouS.refl _ _).setCell c _;have b:=h.len;have d:=h.lt
 refine ⟨h.row.set c _,by rw [e,Zaa4,←b]; rfl,fun i hi=>?_,fun i h1 h2=>?_,by omega,l.below h.bel h.hB,h.hB,h.gs _ _ _ h.gd,h.gb,h.gs⟩
 ·rw [e]
  by_cases hic:i=c
  ·subst hic
   have a:(((m.take j).filter fun r=>!f r) ++ [m.getD j []]).getD i []=m.getD j []:=by rw [b]; simp
   rw [a,if_pos rfl]
  ·have a:(((m.take j).filter fun r=>!f r) ++ [m.getD j []]).getD i []=((m.take j).filter fun r=>!f r).getD i []:=by
    simp only [Za2]; rw [Za7 (by omega)]
   rw [a,if_neg hic]
   exact h.done i (by omega)
 ·rw [if_neg (by omega)]
  exact h.rest i (by omega) h2
theorem DiS.fin{B:Nat}{w:World}{g cap:Nat}{Gd:World→Prop}{m:List (List UInt8)}{f:List UInt8→Bool}{j c:Nat}{F:Nat→Value}{wr:World}(h:DiS B w g cap Gd m f j c F wr)(hj:j=m.length)(h1:m.length≤cap)(h2:cap≤9223372036854775807) :
  (wr.setCells g c (List.replicate (m.length-c) (.string ⟨#[]⟩))).ownsRow B 9 1 (.slice (some ⟨g,0,none⟩) c cap) (m.filter fun r=>!f r).length (ZAc (m.filter fun r=>!f r))∧Below B w (wr.setCells g c (List.replicate (m.length-c) (.string ⟨#[]⟩))):=by
 subst hj;have e:m.take m.length=m:=List.take_length;have b:=h.len;have d:=h.done;rw [e] at b d;have l:TouS g wr (wr.setCells g c (List.replicate (m.length-c) (.string ⟨#[]⟩))):=TouS.setCells _ _ (TouS.refl _ _);have n:=h.lt;refine ⟨?_,l.below h.bel h.hB⟩;have a:=rowIs_setCells (List.replicate (m.length-c) (Value.string ⟨#[]⟩)) c wr F h.row
 have:=ZNo (B:=B) (m:=m.filter fun r=>!f r) a h.hB (by omega) h2 (fun i hi=>by
  rw [←b] at hi
  rw [if_neg (by omega)]
  exact d i hi)
 rw [←b] at this ⊢;exact this
theorem ZID(B b1 b2:Nat)(f:List UInt8→Bool)(Gd:World→Prop)(m:List (List UInt8))(v:Value)(w:World)(hv:w.ownsRow B 9 1 v m.length (ZAc m))(hBw:B≤w.heap.size)(hml:m.length≤1000000)
 (hC:∀x∈m,∀W:World,Gd W→Calls Tryz.prog 35 #[ZDJ x,.pointer (some ⟨b1,0,none⟩),.pointer (some ⟨b2,0,none⟩)] W fun e w'=>e=.returned (.bool (f x))∧Below W.heap.size W w')
 (h1:Gd w)(hgb:∀W W',Gd W→Below W.heap.size W W'→Gd W')(hgs:∀g,v.ownBlock=some g→∀W c u,Gd W→Gd (W.setCell ⟨g,c,none⟩ u)) :
  Calls Tryz.prog 38 #[v,.func (.func 35) #[] #[.pointer (some ⟨b1,0,none⟩),.pointer (some ⟨b2,0,none⟩)]] w fun e w'=>∃u,e=.returned u∧w'.ownsRow B 9 1 u (m.filter fun r=>!f r).length (ZAc (m.filter fun r=>!f r))∧Below B w w':=by
 have HC:=hid hC
 have HI:Hid (Calls Tryz.prog 55 #[v,.func (.func 35) #[] #[.pointer (some ⟨b1,0,none⟩),.pointer (some ⟨b2,0,none⟩)]] w fun e w'=>e=.returned (.int .i64 (ZDg f m))∧Below w.heap.size w w'):=
  ZNm 0 f m v b1 b2 w (Sl.own hv) fun x p W' h=>hC x p W' (hgb _ _ h1 h)
 obtain ⟨ao,a,n⟩:=ZAD hv;subst n;have HV:Hid (w.ownsRow B 9 1 (.slice ao m.length a) m.length (ZAc m)):=hv;have N:=hid hBw;have H1:=hid h1;have L:=hid hgb;have ag:=hid hgs;clear hv hBw h1 hgb hgs hC
 have HZ:Hid ((ZDg f m=-1∧m.any f=false)∨∃k:Nat,ZDg f m=k∧k < m.length∧(m.take k).any f=false∧f (m.getD k [])=true):=by
  show _∨_
  cases ha:m.any f
  ·exact Or.inl ⟨ZFV ha,rfl⟩
  ·right
   have y:=List.findIdx_lt_length_of_exists (List.any_eq_true.1 ha)
   refine ⟨m.findIdx f,by unfold ZDg; rw [if_pos ha],y,?_,?_⟩
   ·rw [List.any_eq_false]
    intro x p;obtain ⟨i,hi,rfl⟩:=List.getElem_of_mem p
    have U:i < m.findIdx f:=by rw [List.length_take] at hi; omega
    rw [List.getElem_take];simp [List.not_of_lt_findIdx U]
   ·have:=List.findIdx_getElem (w:=y)
    rw [show m.getD (m.findIdx f) []=m[m.findIdx f] by simp [y]]
    exact this
 generalize ZDg f m=z at *;go_enter Tryz.func38,Tryz.ntmps38
 go_wp2_with fail
 refine HI.out.mono ?_;rintro e w1 ⟨rfl,hb⟩;have d:=hid hb;clear hb HI;have hz:=HZ.out;clear HZ
 rcases hz with ⟨rfl,hno⟩ | ⟨k,rfl,hk,hno,hyes⟩
 ·have X:Hid ((m.filter fun r=>!f r)=m):=by
   show _=_
   rw [List.filter_eq_self];intro r hr;have:=List.any_eq_false.1 hno r hr
   simpa using this
  clear hno;go_wp2;go_ret
  exact ⟨_,rfl,by rw [X.out]; exact ZAN HV.out d.out (Za4 _),d.out.mono N.out⟩
 ·obtain ⟨g,au,F,n,V,af,S,s,D⟩:=ZNn (ZAN HV.out d.out (Za4 _)) rfl (by omega)
  simp only [Za3] at n;obtain ⟨rfl,ah,rfl⟩:=n;clear ah
  have Y:Hid (DiS B w g a Gd m f (k+1) k F w1):=by
   have aj:((m.take k).filter fun r=>!f r)=m.take k:=by
    rw [List.filter_eq_self];intro r hr;have:=List.any_eq_false.1 hno r hr
    simpa using this
   have e:=ZDh (f:=f) hk;rw [if_pos hyes,List.append_nil,aj] at e
   refine ⟨s,by rw [e,List.length_take]; omega,fun i hi=>?_,fun i h1 h2=>D i h2,by omega,d.out.mono N.out,V,L.out _ _ H1.out d.out,L.out,ag.out g rfl⟩
   rw [e]
   have e2:(m.take k).getD i []=m.getD i []:=by
    simp only [Za2]; rw [Zaa5 hi]
   rw [e2]
   exact D i (by omega)
  clear s D hno hyes
  have tk:((k:Int) == -1)=false:=by simp
  go_wp2
  go_loopw [5,6,7] (fun x1 x2 _ wr=>∃(j c:Nat) (F:Nat→Value),j≤m.length∧x2=.int .i64 j∧x1=.int .i64 c∧DiS B w g a Gd m f j c F wr) (fun _ x2 _ _=>m.length-(intOf x2).toNat)
  case atStart=>exact ⟨k+1,k,F,by omega,by go_num,rfl,Y.out⟩
  case round=>
   obtain ⟨j,c,E,hj,rfl,rfl,b⟩:=hrel;have HD:=hid b;have aq:=b.lt
   by_cases hjn:j < m.length
   ·have Q:=b.row.cell (i:=j) (by omega)
    rw [b.rest j (Za4 _) hjn] at Q
    have l:Hid (Calls Tryz.prog 35 #[ZDJ (m.getD j []),.pointer (some ⟨b1,0,none⟩),.pointer (some ⟨b2,0,none⟩)] wr fun e w'=>e=.returned (.bool (f (m.getD j [])))∧Below wr.heap.size wr w'):=HC.out _ (by simp [hjn]) wr HD.out.gd
    obtain ⟨x,p⟩:∃x,x=m.getD j []:=⟨_,rfl⟩
    have HX:=hid p;rw [←p] at Q l
    obtain ⟨P,t⟩:∃P:ByteArray,ZDJ x=.string P:=⟨_,rfl⟩
    have aa:=hid t;rw [t] at Q l;clear t
    obtain ⟨fb,A⟩:∃fb,fb=f x:=⟨_,rfl⟩
    have G:Hid (fb=f (m.getD j [])):=by rw [←p]; exact A
    rw [←A] at l;clear A p b
    have ai:(j:Int) < (m.length:Int):=by omega
    go_wp2_with fail
    refine l.out.mono ?_;rintro e w2 ⟨rfl,O⟩;have o:Hid (DiS B w g a Gd m f j c E w2):=HD.out.below O;clear O l Q
    cases hf:fb
    ·have R:Hid (DiS B w g a Gd m f (j+1) (c+1) (fun i=>if i=c then .string P else E i) (w2.setCell ⟨g,c,none⟩ (.string P))):=by
      have h:=o.out.next hjn (by rw [←G.out]; exact hf)
      rw [←HX.out,aa.out] at h;exact h
     have d3:=o.out.row.cell (i:=c) (by omega)
     have d4:=o.out.row.frozen c;generalize E c=fc at d3
     have ae:(c:Int) < (m.length:Int):=by omega
     clear hf;go_wp2
     go_roundw
     case rel=>exact ⟨j+1,c+1,_,by omega,by go_num,by go_num,R.out⟩
     case measure=>simp [intOf]; omega
    ·have T:Hid (DiS B w g a Gd m f (j+1) c E w2):=o.out.skip hjn (by rw [←G.out]; exact hf)
     clear hf;go_wp2
     go_roundw
     case rel=>exact ⟨j+1,c,E,by omega,by go_num,rfl,T.out⟩
     case measure=>simp [intOf]; omega
   ·have M:j=m.length:=by omega
    have J:Hid (_∧_):=HD.out.fin M af S
    have ar:∀ty,(Builtin.clear_ #[31] ty #[.slice (some ⟨g,c,none⟩) (m.length-c) (a-c)]).run Tryz.prog wr=.ok (.tuple #[]) (wr.setCells g c (List.replicate (m.length-c) (.string ⟨#[]⟩))):=
     fun ty=>Lib.run_clear_slice wr 31 9 ty (.string ⟨#[]⟩) Tryz.underlying31 (fun w=>by first | rfl | kernel_rfl | simp [go_sem]) rfl rfl g c (m.length-c) (a-c) (by omega) (fun q hq=>by rw [b.row.cell (by omega)]; rfl) (fun q hq=>b.row.frozen _)
    have ae:(c:Int)≤(m.length:Int):=by omega
    have am:(0:Int)≤(c:Int):=by omega
    have aw:c < a:=by omega
    have an:c≤m.length:=by omega
    have ak:c≤a:=by omega
    have ai:decide ((j:Int) < (m.length:Int))=false:=by simp; omega
    clear b M;go_wp2;go_ret;exact ⟨_,rfl,J.out.1,J.out.2⟩
end Go.Proofs.YtgfnmkenpgnllaaGreat
