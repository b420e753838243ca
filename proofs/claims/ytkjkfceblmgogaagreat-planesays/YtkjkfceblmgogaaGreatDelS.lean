import Derived.Test.YtkjkfceblmgogaaGreatSgC
namespace Go.Proofs.YtkjkfceblmgogaaGreat
set_option maxRecDepth 100000
set_option maxHeartbeats 1600000
open Go.RowKit
attribute [local go_sem ↓] Go.wp_at_zero Go.wp_at_succ
def ZDe(p:List UInt8→Bool)(zs:List (List UInt8)):Int:=if zs.any p then (zs.findIdx p:Int) else -1
theorem ZMP{p:List UInt8→Bool}{l:List (List UInt8)}{k:Nat}(h:k < l.length)(h0:(l.take k).any p=false)(h1:p l[k]=true):ZDe p l=k:=by
 have a:l.any p=true:=List.any_eq_true.2 ⟨l[k],List.getElem_mem _,h1⟩;unfold ZDe;rw [if_pos a];have b:=List.findIdx_lt_length_of_exists (List.any_eq_true.1 a)
 have d:l.findIdx p≤k:=Za6 fun hn=>by
  have:=List.not_of_lt_findIdx (p:=p) (xs:=l) (i:=k) (by omega)
  rw [h1] at this; simp at this
 have f:¬l.findIdx p < k:=fun hl=>by
  have c:=List.any_eq_false.1 h0 l[l.findIdx p] (List.mem_iff_getElem.2 ⟨l.findIdx p,by rw [List.length_take]; omega,by rw [List.getElem_take]⟩)
  exact c List.findIdx_getElem
 omega
theorem ZFc{p:List UInt8→Bool}{l:List (List UInt8)}(h0:l.any p=false):ZDe p l=-1:=by
 unfold ZDe; rw [h0]; rfl
theorem ZMQ{p:List UInt8→Bool}{l:List (List UInt8)}{k:Nat}(h:k < l.length)(h0:(l.take k).any p=false):(l.take (k+1)).any p=p l[k]:=by
 rw [Zaa1 h,List.any_append,h0];simp
structure TouS(g:Nat)(w w':World):Prop where
 os:w'.os=w.os
 tape:w'.tape=w.tape
 output:w'.output=w.output
 size:w'.heap.size=w.heap.size
 block:∀b,b≠g→w'.heap[b]?=w.heap[b]?
theorem TouS.refl(g:Nat)(w:World):TouS g w w:=⟨rfl,rfl,rfl,rfl,fun _ _=>rfl⟩
theorem TouS.setCell{g:Nat}{w w':World}(h:TouS g w w')(j:Nat)(u:Value):TouS g w (w'.setCell ⟨g,j,none⟩ u):=
 ⟨h.os,h.tape,h.output,by simp [World.setCell,h.size],fun b hb=>(Below.heap_setCell _ _ _ _ hb).trans (h.block b hb)⟩
theorem TouS.below{g M:Nat}{w w2 wr:World}(h:TouS g w2 wr)(hb:Below M w w2)(hg:M≤g):Below M w wr:=
 ⟨h.os.trans hb.os,h.tape.trans hb.tape,h.output.trans hb.output,by rw [h.size]; exact hb.size,fun b hlt=>(h.block b (by omega)).trans (hb.block b hlt)⟩
theorem TouS.setCells{g:Nat}{w:World} : ∀(vs:List Value) (o:Nat) {w':World},TouS g w w'→TouS g w (w'.setCells g o vs)
 | [],_,_,h=>h
 | v :: r,o,_,h=>TouS.setCells r (o+1) (h.setCell o v)
theorem ZN9(B:Nat)(p:List UInt8→Bool)(zs:List (List UInt8))(v:Value)(b1 b2:Nat)(w:World)(hv:Sl B 9 w v (ZAe zs))
 (hc:∀x∈zs,∀W',Below w.heap.size w W'→Calls Tryz.prog 30 #[ZDj x,.pointer (some ⟨b1,0,none⟩),.pointer (some ⟨b2,0,none⟩)] W' fun e w'=>e=.returned (.bool (p x))∧Below W'.heap.size W' w') :
  Calls Tryz.prog 50 #[v,.func (.func 30) #[] #[.pointer (some ⟨b1,0,none⟩),.pointer (some ⟨b2,0,none⟩)]] w fun e w'=>e=.returned (.int .i64 (ZDe p zs))∧Below w.heap.size w w':=by
 obtain ⟨J,y,m,G,D⟩:=ZDI hv;subst m;have A:Hid (Sl B 9 w (.slice J zs.length y) (ZAe zs)):=hv;have s:=hid hc;clear hv hc;go_enter Tryz.func50,Tryz.ntmps50;go_wp2
 go_loopw [5,8] (fun _ i wr=>∃k:Nat,k≤zs.length∧i=.int .i64 k∧(zs.take k).any p=false∧Below w.heap.size w wr) (fun _ i _=>zs.length-(intOf i).toNat)
 case atStart=>exact ⟨0,Za5 _,rfl,by simp,Below.refl _ _⟩
 case round=>
  obtain ⟨k,L,rfl,f,g⟩:=hrel;have j:=hid f;have a:=hid g;clear f g
  by_cases hlt:k < zs.length
  ·obtain ⟨M,o,E,r⟩:=ZDJ (A.out.below a.out (Za4 _)) hlt
   subst E;have n:Hid ((zs.take (k+1)).any p=p zs[k]):=ZMQ (p:=p) hlt j.out
   have z:Hid (p zs[k]=true→ZDe p zs=k):=fun h=>ZMP (p:=p) hlt j.out h
   rw [show zs.getD k []=zs[k] by simp [hlt]] at r
   have d:Hid (Calls Tryz.prog 30 #[ZDj zs[k],.pointer (some ⟨b1,0,none⟩),.pointer (some ⟨b2,0,none⟩)] wr fun e w'=>e=.returned (.bool (p zs[k]))∧Below wr.heap.size wr w'):=s.out _ (List.getElem_mem _) wr a.out
   generalize zs[k]=x at *;generalize p x=fb at *
   cases fb
   ·go_wp2_with fail
    refine d.out.mono ?_;rintro e l ⟨rfl,b⟩;have c:Hid (Below w.heap.size w l):=a.out.trans (b.mono a.out.size);clear b;go_wp2
    go_roundw
    case rel=>exact ⟨k+1,by omega,by go_num,n.out,c.out⟩
    case measure=>simp [intOf]; omega
   ·have t:Hid (ZDe p zs=k):=z.out rfl
    clear z
    go_wp2_with fail
    refine d.out.mono ?_;rintro e l ⟨rfl,b⟩;have c:Hid (Below w.heap.size w l):=a.out.trans (b.mono a.out.size);clear b;go_wp2;go_ret;exact ⟨ZBA t.out.symm,c.out⟩
  ·have e:zs.take k=zs:=Zaa2 (by omega)
   rw [e] at j;have F:Hid (ZDe p zs=-1):=ZFc j.out;go_wp2;go_ret;exact ⟨ZBA F.out.symm,a.out⟩
theorem ZOA{B n:Nat}{w:World}{v:Value}{m:List (List UInt8)}(h:w.ownsRow B 9 1 v n (ZAe m))(hn:n=m.length)(hm:0 < m.length):∃g cap F,v=.slice (some ⟨g,0,none⟩) m.length cap∧B≤g∧m.length≤cap∧cap≤9223372036854775807∧w.rowIs g 9 cap F∧∀i,i < m.length→F i=ZDj (m.getD i []):=by
 subst hn
 rcases h.2 with ⟨_,h0⟩ | ⟨g,cap,cur,hv,hb,hh,hn,hc,hs,ht⟩
 ·omega
 ·refine ⟨g,cap,fun i=>cur.toList.getD i (.string ⟨#[]⟩),hv,hb,hn,by unfold maxLen at hc; exact hc,⟨cur,hh,by omega,fun i hi=>?_⟩,fun i hi=>?_⟩
  ·show cur[i]?=some (cur.toList.getD i (.string ⟨#[]⟩))
   rw [←Array.getElem?_toList,Za2,Za9 (by simp; omega)]; rfl
  ·have e:cur.toList.getD i (.string ⟨#[]⟩)=(ZAe m).getD i (.string ⟨#[]⟩):=by
    rw [←ht];simp only [Za2]
    rw [Zaa5 (by omega)]
   show cur.toList.getD i (.string ⟨#[]⟩)=_
   rw [e];simp [ZAe,hi]
theorem ZOB{B:Nat}{w:World}{g cap:Nat}{F:Nat→Value}{m:List (List UInt8)}(h:w.rowIs g 9 cap F)(hB:B≤g)(h4:m.length≤cap)(h5:cap≤9223372036854775807)(h6:∀i,i < m.length→F i=ZDj (m.getD i [])):w.ownsRow B 9 1 (.slice (some ⟨g,0,none⟩) m.length cap) m.length (ZAe m):=by
 obtain ⟨c,b,d,a⟩:=h
 refine ⟨by simp [ZAe],Or.inr ⟨g,cap,c,rfl,hB,b,h4,by unfold maxLen; exact h5,by omega,?_⟩⟩
 apply List.ext_getElem?
 intro i
 by_cases hi:i < m.length
 ·rw [Zaa5 (by omega),Array.getElem?_toList,a i (by omega),h6 i hi]; simp [ZAe,hi]
 ·rw [Zaa6 (by simp; omega),Zaa6 (by simp [ZAe]; omega)]
structure DiS(B:Nat)(w:World)(g cap:Nat)(Gd:World→Prop)(m:List (List UInt8))(f:List UInt8→Bool)(j c:Nat)(F:Nat→Value)(wr:World):Prop where
 row:wr.rowIs g 9 cap F
 len:c=((m.take j).filter fun r=>!f r).length
 done:∀i,i < c→F i=ZDj (((m.take j).filter fun r=>!f r).getD i [])
 rest:∀i,j≤i→i < m.length→F i=ZDj (m.getD i [])
 lt:c < j
 bel:Below B w wr
 hB:B≤g
 gd:Gd wr
 gb:∀W W',Gd W→Below W.heap.size W W'→Gd W'
 gs:∀W c u,Gd W→Gd (W.setCell ⟨g,c,none⟩ u)
theorem DiS.below{B:Nat}{w:World}{g cap:Nat}{Gd:World→Prop}{m:List (List UInt8)}{f:List UInt8→Bool}{j c:Nat}{F:Nat→Value}{wr w2:World}(h:DiS B w g cap Gd m f j c F wr)(hb:Below wr.heap.size wr w2):DiS B w g cap Gd m f j c F w2:=
 ⟨h.row.of_block (hb.block g h.row.lt),h.len,h.done,h.rest,h.lt,h.bel.trans (hb.mono (by have:=h.hB; have:=h.row.lt; omega)),h.hB,h.gb _ _ h.gd hb,h.gb,h.gs⟩
theorem ZDf{m:List (List UInt8)}{f:List UInt8→Bool}{j:Nat}(hj:j < m.length):((m.take (j+1)).filter fun r=>!f r)=((m.take j).filter fun r=>!f r) ++ (if f (m.getD j [])=true then [] else [m.getD j []]):=by
 have e:m.getD j []=m[j]:=by simp [hj]
 rw [Zaa1 hj,List.filter_append,e]
 cases hf:f m[j] <;> simp [hf]
theorem DiS.skip{B:Nat}{w:World}{g cap:Nat}{Gd:World→Prop}{m:List (List UInt8)}{f:List UInt8→Bool}{j c:Nat}{F:Nat→Value}{wr:World}(h:DiS B w g cap Gd m f j c F wr)(hj:j < m.length)(hf:f (m.getD j [])=true):DiS B w g cap Gd m f (j+1) c F wr:=by
 have e:=ZDf (f:=f) hj;rw [if_pos hf,List.append_nil] at e
 exact ⟨h.row,by rw [e]; exact h.len,by rw [e]; exact h.done,fun i h1 h2=>h.rest i (by omega) h2,by have:=h.lt; omega,h.bel,h.hB,h.gd,h.gb,h.gs⟩
theorem DiS.next{B:Nat}{w:World}{g cap:Nat}{Gd:World→Prop}{m:List (List UInt8)}{f:List UInt8→Bool}{j c:Nat}{F:Nat→Value}{wr:World}(h:DiS B w g cap Gd m f j c F wr)(hj:j < m.length)(hf:f (m.getD j [])=false):DiS B w g cap Gd m f (j+1) (c+1) (fun i=>if i=c then ZDj (m.getD j []) else F i) (wr.setCell ⟨g,c,none⟩ (ZDj (m.getD j []))):=by
 have e:=ZDf (f:=f) hj
 rw [if_neg (by rw [hf]; decide)] at e
 have l:TouS g wr (wr.setCell ⟨g,c,none⟩ (ZDj (m.getD j []))):=(TouS.refl _ _).setCell c _;have b:=h.len;have d:=h.lt
 refine ⟨h.row.set c _,by rw [e,Zaa4,←b]; rfl,fun i hi=>?_,fun i h1 h2=>?_,by omega,l.below h.bel h.hB,h.hB,h.gs _ _ _ h.gd,h.gb,h.gs⟩
 ·rw [e]
  by_cases hic:i=c
  ·subst hic
   have a:(((m.take j).filter fun r=>!f r) ++ [m.getD j []]).getD i []=m.getD j []:=by rw [b]; simp
   rw [a,if_pos rfl]
  ·have a:(((m.take j).filter fun r=>!f r) ++ [m.getD j []]).getD i []=((m.take j).filter fun r=>!f r).getD i []:=by
    simp only [Za2]; rw [Za7 (by omega)]
   rw [a,if_neg hic]
   exact h.done i (by omega)
 ·rw [if_neg (by omega)]
  exact h.rest i (by omega) h2
theorem DiS.fin{B:Nat}{w:World}{g cap:Nat}{Gd:World→Prop}{m:List (List UInt8)}{f:List UInt8→Bool}{j c:Nat}{F:Nat→Value}{wr:World}(h:DiS B w g cap Gd m f j c F wr)(hj:j=m.length)(h1:m.length≤cap)(h2:cap≤9223372036854775807) :
  (wr.setCells g c (List.replicate (m.length-c) (.string ⟨#[]⟩))).ownsRow B 9 1 (.slice (some ⟨g,0,none⟩) c cap) (m.filter fun r=>!f r).length (ZAe (m.filter fun r=>!f r))∧Below B w (wr.setCells g c (List.replicate (m.length-c) (.string ⟨#[]⟩))):=by
 subst hj;have e:m.take m.length=m:=List.take_length;have b:=h.len;have d:=h.done;rw [e] at b d;have l:TouS g wr (wr.setCells g c (List.replicate (m.length-c) (.string ⟨#[]⟩))):=TouS.setCells _ _ (TouS.refl _ _);have n:=h.lt;refine ⟨?_,l.below h.bel h.hB⟩;have a:=rowIs_setCells (List.replicate (m.length-c) (Value.string ⟨#[]⟩)) c wr F h.row
 have:=ZOB (B:=B) (m:=m.filter fun r=>!f r) a h.hB (by omega) h2 (fun i hi=>by
  rw [←b] at hi
  rw [if_neg (by omega)]
  exact d i hi)
 rw [←b] at this ⊢;exact this
theorem ZIQ(B b1 b2:Nat)(f:List UInt8→Bool)(Gd:World→Prop)(m:List (List UInt8))(v:Value)(w:World)(hv:w.ownsRow B 9 1 v m.length (ZAe m))(hBw:B≤w.heap.size)(hml:m.length≤1000000)
 (hC:∀x∈m,∀W:World,Gd W→Calls Tryz.prog 30 #[ZDj x,.pointer (some ⟨b1,0,none⟩),.pointer (some ⟨b2,0,none⟩)] W fun e w'=>e=.returned (.bool (f x))∧Below W.heap.size W w')
 (h1:Gd w)(hgb:∀W W',Gd W→Below W.heap.size W W'→Gd W')(hgs:∀g,v.ownBlock=some g→∀W c u,Gd W→Gd (W.setCell ⟨g,c,none⟩ u)) :
  Calls Tryz.prog 33 #[v,.func (.func 30) #[] #[.pointer (some ⟨b1,0,none⟩),.pointer (some ⟨b2,0,none⟩)]] w fun e w'=>∃u,e=.returned u∧w'.ownsRow B 9 1 u (m.filter fun r=>!f r).length (ZAe (m.filter fun r=>!f r))∧Below B w w':=by
 have HC:=hid hC
 have HI:Hid (Calls Tryz.prog 50 #[v,.func (.func 30) #[] #[.pointer (some ⟨b1,0,none⟩),.pointer (some ⟨b2,0,none⟩)]] w fun e w'=>e=.returned (.int .i64 (ZDe f m))∧Below w.heap.size w w'):=
  ZN9 0 f m v b1 b2 w (Sl.own hv) fun x s W' h=>hC x s W' (hgb _ _ h1 h)
 obtain ⟨ao,a,n⟩:=ZAE hv;subst n;have HV:Hid (w.ownsRow B 9 1 (.slice ao m.length a) m.length (ZAe m)):=hv;have G:=hid hBw;have H1:=hid h1;have N:=hid hgb;have aq:=hid hgs;clear hv hBw h1 hgb hgs hC
 have HZ:Hid ((ZDe f m=-1∧m.any f=false)∨∃k:Nat,ZDe f m=k∧k < m.length∧(m.take k).any f=false∧f (m.getD k [])=true):=by
  show _∨_
  cases ha:m.any f
  ·exact Or.inl ⟨ZFc ha,rfl⟩
  ·right
   have A:=List.findIdx_lt_length_of_exists (List.any_eq_true.1 ha)
   refine ⟨m.findIdx f,by unfold ZDe; rw [if_pos ha],A,?_,?_⟩
   ·rw [List.any_eq_false]
    intro x s;obtain ⟨i,X,rfl⟩:=List.getElem_of_mem s
    have am:i < m.findIdx f:=by rw [List.length_take] at X; omega
    rw [List.getElem_take];simp [List.not_of_lt_findIdx am]
   ·have:=List.findIdx_getElem (w:=A)
    rw [show m.getD (m.findIdx f) []=m[m.findIdx f] by simp [A]]
    exact this
 generalize ZDe f m=z at *;go_enter Tryz.func33,Tryz.ntmps33
 go_wp2_with fail
 refine HI.out.mono ?_;rintro e w1 ⟨rfl,hb⟩;have d:=hid hb;clear hb HI;have hz:=HZ.out;clear HZ
 rcases hz with ⟨rfl,hno⟩ | ⟨k,rfl,hk,hno,hyes⟩
 ·have ai:Hid ((m.filter fun r=>!f r)=m):=by
   show _=_
   rw [List.filter_eq_self];intro r R;have:=List.any_eq_false.1 hno r R
   simpa using this
  clear hno;go_wp2;go_ret
  exact ⟨_,rfl,by rw [ai.out]; exact ZAQ HV.out d.out (Za4 _),d.out.mono G.out⟩
 ·obtain ⟨g,aw,F,n,ak,af,ah,p,D⟩:=ZOA (ZAQ HV.out d.out (Za4 _)) rfl (by omega)
  simp only [Za3] at n;obtain ⟨rfl,an,rfl⟩:=n;clear an
  have ag:Hid (DiS B w g a Gd m f (k+1) k F w1):=by
   have aa:((m.take k).filter fun r=>!f r)=m.take k:=by
    rw [List.filter_eq_self];intro r R;have:=List.any_eq_false.1 hno r R
    simpa using this
   have e:=ZDf (f:=f) hk;rw [if_pos hyes,List.append_nil,aa] at e
   refine ⟨p,by rw [e,List.length_take]; omega,fun i X=>?_,fun i h1 h2=>D i h2,by omega,d.out.mono G.out,ak,N.out _ _ H1.out d.out,N.out,aq.out g rfl⟩
   rw [e]
   have e2:(m.take k).getD i []=m.getD i []:=by
    simp only [Za2]; rw [Zaa5 X]
   rw [e2]
   exact D i (by omega)
  clear p D hno hyes
  have tk:((k:Int) == -1)=false:=by simp
  go_wp2
  go_loopw [5,6,7] (fun x1 x2 _ wr=>∃(j c:Nat) (F:Nat→Value),j≤m.length∧x2=.int .i64 j∧x1=.int .i64 c∧DiS B w g a Gd m f j c F wr) (fun _ x2 _ _=>m.length-(intOf x2).toNat)
  case atStart=>exact ⟨k+1,k,F,by omega,by go_num,rfl,ag.out⟩
  case round=>
   obtain ⟨j,c,E,hj,rfl,rfl,b⟩:=hrel;have S:=hid b;have ay:=b.lt
   by_cases hjn:j < m.length
   ·have P:=b.row.cell (i:=j) (by omega)
    rw [b.rest j (Za4 _) hjn] at P
    have l:Hid (Calls Tryz.prog 30 #[ZDj (m.getD j []),.pointer (some ⟨b1,0,none⟩),.pointer (some ⟨b2,0,none⟩)] wr fun e w'=>e=.returned (.bool (f (m.getD j [])))∧Below wr.heap.size wr w'):=HC.out _ (by simp [hjn]) wr S.out.gd
    obtain ⟨x,s⟩:∃x,x=m.getD j []:=⟨_,rfl⟩
    have HX:=hid s;rw [←s] at P l
    obtain ⟨Q,t⟩:∃Q:ByteArray,ZDj x=.string Q:=⟨_,rfl⟩
    have U:=hid t;rw [t] at P l;clear t
    obtain ⟨fb,y⟩:∃fb,fb=f x:=⟨_,rfl⟩
    have M:Hid (fb=f (m.getD j [])):=by rw [←s]; exact y
    rw [←y] at l;clear y s b
    have aj:(j:Int) < (m.length:Int):=by omega
    go_wp2_with fail
    refine l.out.mono ?_;rintro e Y ⟨rfl,L⟩;have o:Hid (DiS B w g a Gd m f j c E Y):=S.out.below L;clear L l P
    cases hf:fb
    ·have T:Hid (DiS B w g a Gd m f (j+1) (c+1) (fun i=>if i=c then .string Q else E i) (Y.setCell ⟨g,c,none⟩ (.string Q))):=by
      have h:=o.out.next hjn (by rw [←M.out]; exact hf)
      rw [←HX.out,U.out] at h;exact h
     have d3:=o.out.row.cell (i:=c) (by omega)
     have d4:=o.out.row.frozen c;generalize E c=fc at d3
     have ae:(c:Int) < (m.length:Int):=by omega
     clear hf;go_wp2
     go_roundw
     case rel=>exact ⟨j+1,c+1,_,by omega,by go_num,by go_num,T.out⟩
     case measure=>simp [intOf]; omega
    ·have V:Hid (DiS B w g a Gd m f (j+1) c E Y):=o.out.skip hjn (by rw [←M.out]; exact hf)
     clear hf;go_wp2
     go_roundw
     case rel=>exact ⟨j+1,c,E,by omega,by go_num,rfl,V.out⟩
     case measure=>simp [intOf]; omega
   ·have J:j=m.length:=by omega
    have O:Hid (_∧_):=S.out.fin J af ah
    have aA:∀ty,(Builtin.clear_ #[26] ty #[.slice (some ⟨g,c,none⟩) (m.length-c) (a-c)]).run Tryz.prog wr=.ok (.tuple #[]) (wr.setCells g c (List.replicate (m.length-c) (.string ⟨#[]⟩))):=
     fun ty=>Lib.run_clear_slice wr 26 9 ty (.string ⟨#[]⟩) Tryz.underlying26 (fun w=>by first | rfl | kernel_rfl | simp [go_sem]) rfl rfl g c (m.length-c) (a-c) (by omega) (fun q hq=>by rw [b.row.cell (by omega)]; rfl) (fun q hq=>b.row.frozen _)
    have ae:(c:Int)≤(m.length:Int):=by omega
    have ar:(0:Int)≤(c:Int):=by omega
    have aB:c < a:=by omega
    have au:c≤m.length:=by omega
    have az:c≤a:=by omega
    have aj:decide ((j:Int) < (m.length:Int))=false:=by simp; omega
    clear b J;go_wp2;go_ret;exact ⟨_,rfl,O.out.1,O.out.2⟩
end Go.Proofs.YtkjkfceblmgogaaGreat
