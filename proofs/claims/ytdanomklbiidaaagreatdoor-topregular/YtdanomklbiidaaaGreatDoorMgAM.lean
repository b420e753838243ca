import Derived.Test.YtdanomklbiidaaaGreatDoorMgAL
namespace Go.Proofs.YtdanomklbiidaaaGreatDoor
open Go.RowKit
attribute [local go_sem ↓] Go.wp_at_zero Go.wp_at_succ
theorem RowM.cell {w:World} {g cap i:Nat} {f:Nat→Value} {m:List (List Int)} (h:RowM w g cap f m) (hi:i < cap):w.cell? ⟨g,i,none⟩=some (f i):=h.row.cell hi
theorem Touch.setCells {g:Nat} {w:World} : ∀(vs:List Value) (o:Nat) {w':World},Touch g w w'→Touch g w (w'.setCells g o vs)
 | [],_,_,h=>h
 | v :: r,o,_,h=>Touch.setCells r (o+1) (h.setCell o v)
theorem Touch.sl {g:Nat} {w w':World} {cur:Array Value} {v:Value} {xs:List Value} (h:Touch g w w') (hg:w.heap[g]?=some (.cells cur 22 (0,0))) (hs:Sl 0 3 w v xs):Sl 0 3 w' v xs:=
 hs.move fun b _ ht=>by
  rcases ht with ht | ⟨c,ht⟩
  ·omega
  ·have hne:b≠g:=by
    rintro rfl
    rw [hg] at ht
    simp at ht
   exact ⟨h.block b hne,Or.inr ⟨c,ht⟩⟩
structure Cm (w:World) (g cap:Nat) (f:Nat→Value) (m:List (List Int)) (k j c:Nat) (f':Nat→Value) (wr:World):Prop where
 row:wr.rowIs g 22 cap f'
 len:c=(keptI m (k+j)).length
 done:∀i,i < c→f' i=f ((keptI m (k+j)).getD i 0)
 rest:∀i,k+j-1≤i→i < cap→f' i=f i
 le:c≤k+j-1
 touch:Touch g w wr
theorem Cm.same {w wr:World} {g cap k j c:Nat} {f f':Nat→Value} {m:List (List Int)} (h:Cm w g cap f m k j c f' wr) (hk:1≤k) (he:m.getD (k+j) []=m.getD (k+j-1) []) (n:Nat):Cm w g cap f m k (j+1) c f' (wr.drewN n):=by
 have e:keptI m (k+(j+1))=keptI m (k+j):=by
  show keptI m (k+j+1)=_
  rw [keptI,if_neg]
  rintro (h0 | h0)
  ·omega
  ·exact h0 he
 refine ⟨h.row,by rw [e]; exact h.len,by rw [e]; exact h.done,fun i h1 h2=>h.rest i (by omega) h2,by have:=h.le; omega,h.touch.drewN n⟩
theorem Cm.next {w wr:World} {g cap k j c:Nat} {f f':Nat→Value} {m:List (List Int)} (h:Cm w g cap f m k j c f' wr) (he:m.getD (k+j) []≠m.getD (k+j-1) []) (hj1:1≤j) (n:Nat) :
  Cm w g cap f m k (j+1) (c+1) (fun i=>if i=c then f (k+j) else f' i) ((wr.drewN n).setCell ⟨g,c,none⟩ (f (k+j))):=by
 have e:keptI m (k+(j+1))=keptI m (k+j) ++ [k+j]:=by
  show keptI m (k+j+1)=_
  rw [keptI,if_pos (Or.inr he)]
 refine ⟨h.row.set c _,by rw [e]; simp [h.len],fun i hi=>?_,fun i h1 h2=>?_,by have:=h.le; omega,(h.touch.drewN n).setCell c _⟩
 ·rw [e]
  by_cases hic:i=c
  ·have h2:=h.len
   subst hic
   simp [h2]
  ·have h2:=h.len
   simp only [hic,if_false]
   rw [h.done i (by omega)]
   simp only [List.getD_eq_getElem?_getD]; rw [List.getElem?_append_left (by omega)]
 ·have h3:=h.le
  simp only [show i≠c by omega,if_false]
  exact h.rest i (by omega) h2
theorem Cm.fin {w wr:World} {g cap k j c B:Nat} {f f':Nat→Value} {m:List (List Int)} (h:Cm w g cap f m k j c f' wr) (hr:RowM w g cap f m) (hj:k+j=m.length) (hB:B≤g) :
  Fr B 22 3 (wr.setCells g c (List.replicate (m.length-c) (.slice none 0 0))) (.slice (some ⟨g,0,none⟩) c cap) (compL m):=by
 have hl:(compL m).length=c:=by
  unfold compL
  rw [List.length_map,h.len,hj]
 have hle:=h.le
 obtain ⟨cur,hcur,_⟩:=hr.row
 have hrow:=rowIs_setCells (List.replicate (m.length-c) (Value.slice none 0 0)) c wr f' h.row
 have hrm:RowM (wr.setCells g c (List.replicate (m.length-c) (.slice none 0 0))) g cap (fun i=>if c≤i∧i < c+(List.replicate (m.length-c) (Value.slice none 0 0)).length then (List.replicate (m.length-c) (Value.slice none 0 0))[i-c]?.getD default else f' i) (compL m):=by
  refine ⟨hrow,by have:=hr.cap1; omega,hr.cap2,fun i hi=>?_⟩
  rw [hl] at hi
  simp only [show ¬c≤i by omega,false_and,if_false]
  rw [h.done i hi]
  have hlen:=h.len
  have hmem:(keptI m (k+j)).getD i 0∈keptI m (k+j):=by simp [show i < (keptI m (k+j)).length by omega]
  have hlt:=keptI_lt hmem
  have e:(compL m).getD i []=m.getD ((keptI m (k+j)).getD i 0) []:=by
   rw [hj] at hlen ⊢
   unfold compL
   simp [show i < (keptI m m.length).length by omega]
  rw [e]
  exact (h.touch.setCells _ _).sl hcur (hr.inn _ (by omega))
 have:=hrm.fr hB
 rw [hl] at this
 exact this
set_option maxRecDepth 100000 in
set_option maxHeartbeats 4000000 in
theorem compact_any (B:Nat) (m:List (List Int)) (v:Value) (w:World) (hv:Fr B 22 3 w v m) (hm:m.length≤2000000000000) :
  Calls Tryz.prog 37 #[v,.func (.func 21) #[] #[]] w fun e w'=>∃u,e=.returned u∧Fr B 22 3 w' u (compL m)∧Below B w w':=by
 by_cases h2:m.length < 2
 ·have HC:Hid (compL m=m):=compL_short h2
  obtain ⟨ao,cap,hvv,hlc,hcm⟩:=mat_open (hv.rws.mat (Nat.le_refl _))
  subst hvv
  have HV:Hid (Fr B 22 3 w (.slice ao m.length cap) m):=hv
  clear hv
  have h2I:decide ((m.length:Int) < 2)=true:=by simp; omega
  go_enter Tryz.func37,Tryz.ntmps37
  go_wp2
  go_ret
  exact ⟨_,rfl,by rw [HC.out]; exact HV.out,Below.refl _ _⟩
 ·have h2I:decide ((m.length:Int) < 2)=false:=by simp; omega
  obtain ⟨g,cap,f,hvv,hBg,hgw,hrm⟩:=hv.rowM (by omega)
  subst hvv
  have HRM:Hid (RowM w g cap f m):=hrm
  have hc1:m.length≤cap:=hrm.cap1
  have hc2:cap≤9223372036854775807:=hrm.cap2
  have HF0:Hid (Fr B 22 3 w (.slice (some ⟨g,0,none⟩) m.length cap) m):=hv
  clear hv hrm
  go_enter Tryz.func37,Tryz.ntmps37
  go_wp2
  go_loopw [5] (fun i wr=>∃k:Nat,1≤k∧k≤m.length∧i=.int .i64 k∧(∀j,1≤j→j < k→m.getD j []≠m.getD (j-1) [])∧∃n,wr=w.drewN n) (fun i _=>m.length-(intOf i).toNat)
  case atStart=>exact ⟨1,Nat.le_refl _,by omega,rfl,fun j h1 h2=>absurd h2 (by omega),0,rfl⟩
  case round=>
   obtain ⟨k,hk1,hk,rfl,hne,n,rfl⟩:=hrel
   have HNE:Hid (∀j,1≤j→j < k→m.getD j []≠m.getD (j-1) []):=hne
   clear hne
   by_cases hlt:k < m.length
   ·have d1:w.cell? ⟨g,k,none⟩=some (f k):=HRM.out.cell (by omega)
    have d2:w.cell? ⟨g,k-1,none⟩=some (f (k-1)):=HRM.out.cell (by omega)
    have HE:Hid (∀q,Calls Tryz.prog 21 #[f k,f (k-1)] (w.drewN q) fun e w'=>e=.returned (.bool (m.getD k [] == m.getD (k-1) []))∧∃p,w'=(w.drewN q).drewN p):=fun q=>
     equal_any 0 _ _ _ _ (w.drewN q) ((HRM.out.inn k hlt).drewN q) ((HRM.out.inn (k-1) (by omega)).drewN q)
    obtain ⟨x,hx⟩:∃x,x=m.getD k []:=⟨_,rfl⟩
    obtain ⟨y,hy⟩:∃y,y=m.getD (k-1) []:=⟨_,rfl⟩
    have HX:Hid (x=m.getD k []):=hx
    have HY:Hid (y=m.getD (k-1) []):=hy
    rw [←hx,←hy] at HE
    clear hx hy
    obtain ⟨xo,xl,xc,hfx⟩:∃xo xl xc,f k=.slice xo xl xc:=by
     obtain ⟨xo,xc,h,_⟩:=sl_open (HRM.out.inn k hlt); exact ⟨xo,_,xc,h⟩
    obtain ⟨yo,yl,yc,hfy⟩:∃yo yl yc,f (k-1)=.slice yo yl yc:=by
     obtain ⟨yo,yc,h,_⟩:=sl_open (HRM.out.inn (k-1) (by omega)); exact ⟨yo,_,yc,h⟩
    rw [hfx,hfy] at HE
    rw [hfx] at d1
    rw [hfy] at d2
    clear hfx hfy
    obtain ⟨k1,hk1e⟩:∃k1,k=k1+1:=⟨k-1,by omega⟩
    subst hk1e
    simp only [Nat.add_sub_cancel] at d2
    have hkI:(k1:Int)+1 < (m.length:Int):=by omega
    have hkI0:(0:Int)≤(k1:Int)+1:=by omega
    have hkJ:(k1:Int) < (m.length:Int):=by omega
    have hkJ0:(0:Int)≤(k1:Int):=by omega
    have hkw:IntKind.i64.wrap (k1:Int)=(k1:Int):=by rw [IntWalk.i64_left]; exact IntWalk.wrap64_in _ ⟨by omega,by omega⟩
    go_wp2
    go_region_law (refine step_call2v (o:={ dst:=some 28,op:=_,type:=_,pos:=_,after:=_,guard:=_ }) (by rfl) 21 _ _ _ 22 22 (by rfl) _ _ (by rfl) (by rfl) (by rfl) ⟨_,Tryz.func21,by rfl,by rfl⟩ ?_; refine (HE.out (n+1)).mono ?_; rintro e w2 ⟨rfl,p,rfl⟩; refine ⟨_,rfl,?_⟩)
    all_goals
     cases hxy:(x == y)
     ·have HN2:Hid (∀j,1≤j→j < k1+2→m.getD j []≠m.getD (j-1) []):=fun j h1 h2=>by
       by_cases hj:j < k1+1
       ·exact HNE.out j h1 hj
       ·have:j=k1+1:=by omega
        subst this
        rw [←HX.out,←HY.out]
        exact beq_eq_false_iff_ne.1 hxy
      clear hxy
      go_wp2
      go_roundw
      case rel=>exact ⟨k1+2,by omega,by omega,by go_num,HN2.out,_,rfl⟩
      case measure=>simp [intOf]; omega
     ·have HXY:Hid (m.getD (k1+1) []=m.getD k1 []):=by
       show _=_
       have h:=beq_iff_eq.1 hxy
       rw [HX.out,HY.out] at h
       exact h
      have HC0:Hid (Cm w g cap f m (k1+1) 1 (k1+1) f (w.drewN (n+1+p))):=by
       have e0:keptI m (k1+1)=List.range (k1+1):=keptI_all _ (fun i h1 h2=>HNE.out i h1 h2)
       have e1:keptI m (k1+1+1)=List.range (k1+1):=by
        rw [keptI,if_neg,e0]
        rintro (h0 | h0)
        ·omega
        ·exact h0 HXY.out
       refine ⟨HRM.out.row,by rw [e1]; simp,fun i hi=>by rw [e1]; simp [hi],fun _ _ _=>rfl,by omega,(Touch.refl _ _).drewN _⟩
      have hkc:k1+1 < cap:=by omega
      clear hxy d1 d2
      go_wp2
      go_loopw [5,7] (fun x1 x2 wr=>∃(j c:Nat) (f':Nat→Value),1≤j∧k1+1+j≤m.length∧x2=.int .i64 j∧x1=.int .i64 c∧Cm w g cap f m (k1+1) j c f' wr) (fun _ x2 _=>m.length-(intOf x2).toNat)
      case atStart=>exact ⟨1,k1+1,f,Nat.le_refl _,by omega,rfl,rfl,HC0.out⟩
      case round=>
       obtain ⟨j,c,f',hj1,hj,rfl,rfl,hcm⟩:=hrel
       have HCM:Hid (Cm w g cap f m (k1+1) j c f' wr):=hcm
       have hcl:=hcm.le
       obtain ⟨j1,hj1e⟩:∃j1,j=j1+1:=⟨j-1,by omega⟩
       subst hj1e
       by_cases hjn:k1+1+(j1+1) < m.length
       ·have d1:wr.cell? ⟨g,k1+1+(j1+1),none⟩=some (f (k1+1+(j1+1))):=by rw [hcm.row.cell (by omega),hcm.rest _ (by omega) (by omega)]
        have d2:wr.cell? ⟨g,k1+1+j1,none⟩=some (f (k1+1+j1)):=by rw [hcm.row.cell (by omega),hcm.rest _ (by omega) (by omega)]
        obtain ⟨cur,hcur,_⟩:=HRM.out.row
        have HE2:Hid (∀q,Calls Tryz.prog 21 #[f (k1+1+(j1+1)),f (k1+1+j1)] (wr.drewN q) fun e w'=>e=.returned (.bool (m.getD (k1+1+(j1+1)) [] == m.getD (k1+1+j1) []))∧∃p,w'=(wr.drewN q).drewN p):=fun q=>
         equal_any 0 _ _ _ _ (wr.drewN q) ((HCM.out.touch.sl hcur (HRM.out.inn _ hjn)).drewN q) ((HCM.out.touch.sl hcur (HRM.out.inn _ (by omega))).drewN q)
        obtain ⟨xo,xl,xc,hfx⟩:∃xo xl xc,f (k1+1+(j1+1))=.slice xo xl xc:=by
         obtain ⟨xo,xc,h,_⟩:=sl_open (HRM.out.inn _ hjn); exact ⟨xo,_,xc,h⟩
        obtain ⟨yo,yl,yc,hfy⟩:∃yo yl yc,f (k1+1+j1)=.slice yo yl yc:=by
         obtain ⟨yo,yc,h,_⟩:=sl_open (HRM.out.inn (k1+1+j1) (by omega)); exact ⟨yo,_,yc,h⟩
        have HFX:Hid (f (k1+1+(j1+1))=.slice xo xl xc):=hfx
        rw [hfx,hfy] at HE2
        rw [hfx] at d1
        rw [hfy] at d2
        obtain ⟨x2,hx2⟩:∃x2,x2=m.getD (k1+1+(j1+1)) []:=⟨_,rfl⟩
        obtain ⟨y2,hy2⟩:∃y2,y2=m.getD (k1+1+j1) []:=⟨_,rfl⟩
        have HX2:Hid (x2=m.getD (k1+1+(j1+1)) []):=hx2
        have HY2:Hid (y2=m.getD (k1+1+j1) []):=hy2
        rw [←hx2,←hy2] at HE2
        have d3:=hcm.row.cell (i:=c) (by omega)
        have d4:=hcm.row.frozen c
        generalize f' c=fc at d3
        clear hx2 hy2 hfx hfy hcur hcm
        have hjI:(j1:Int)+1 < ((m.length-(k1+1):Nat):Int):=by omega
        have hjI0:(0:Int)≤(j1:Int)+1:=by omega
        have hjJ:(j1:Int) < ((m.length-(k1+1):Nat):Int):=by omega
        have hjJ0:(0:Int)≤(j1:Int):=by omega
        have hjw:IntKind.i64.wrap (j1:Int)=(j1:Int):=by rw [IntWalk.i64_left]; exact IntWalk.wrap64_in _ ⟨by omega,by omega⟩
        have hcI:(c:Int) < (m.length:Int):=by omega
        have hcI0:(0:Int)≤(c:Int):=by omega
        go_wp2
        go_region_law (refine step_call2v (o:={ dst:=some 48,op:=_,type:=_,pos:=_,after:=_,guard:=_ }) (by rfl) 21 _ _ _ 22 22 (by rfl) _ _ (by rfl) (by rfl) (by rfl) ⟨_,Tryz.func21,by rfl,by rfl⟩ ?_; refine (HE2.out 1).mono ?_; rintro e w2 ⟨rfl,p2,rfl⟩; refine ⟨_,rfl,?_⟩)
        all_goals
         cases hxy2:(x2 == y2)
         ·have HNX:Hid (Cm w g cap f m (k1+1) (j1+1+1) (c+1) (fun i=>if i=c then .slice xo xl xc else f' i) ((wr.drewN (1+p2)).setCell ⟨g,c,none⟩ (.slice xo xl xc))):=by
           have h:=HCM.out.next (by
            rw [←HX2.out,show k1+1+(j1+1)-1=k1+1+j1 by omega,←HY2.out]
            exact beq_eq_false_iff_ne.1 hxy2) (by omega) (1+p2)
           rw [HFX.out] at h
           exact h
          clear hxy2
          go_wp2
          go_roundw
          case rel=>exact ⟨j1+1+1,c+1,_,by omega,by omega,by go_num,by go_num,HNX.out⟩
          case measure=>simp [intOf]; omega
         ·have HSM:Hid (Cm w g cap f m (k1+1) (j1+1+1) c f' (wr.drewN (1+p2))):=HCM.out.same (by omega) (by
           rw [←HX2.out,show k1+1+(j1+1)-1=k1+1+j1 by omega,←HY2.out]
           exact beq_iff_eq.1 hxy2) (1+p2)
          clear hxy2
          go_wp2
          go_roundw
          case rel=>exact ⟨j1+1+1,c,f',by omega,by omega,by go_num,rfl,HSM.out⟩
          case measure=>simp [intOf]; omega
       ·have hje:k1+1+(j1+1)=m.length:=by omega
        have HFN:Hid (Fr B 22 3 (wr.setCells g c (List.replicate (m.length-c) (.slice none 0 0))) (.slice (some ⟨g,0,none⟩) c cap) (compL m)):=HCM.out.fin HRM.out hje hBg
        have HBL:Hid (Below B w (wr.setCells g c (List.replicate (m.length-c) (.slice none 0 0)))):=(HCM.out.touch.setCells _ _).below (Below.refl _ _) hBg
        have hclr:∀ty,(Builtin.clear_ #[23] ty #[.slice (some ⟨g,c,none⟩) (m.length-c) (cap-c)]).run Tryz.prog wr=.ok (.tuple #[]) (wr.setCells g c (List.replicate (m.length-c) (.slice none 0 0))):=
         fun ty=>Lib.run_clear_slice wr 23 22 ty (.slice none 0 0) Tryz.underlying23 Tryz.zero22 rfl rfl g c (m.length-c) (cap-c) (by omega) (fun q hq=>by rw [hcm.row.cell (by omega)]; rfl) (fun q hq=>hcm.row.frozen _)
        have hcI:(c:Int)≤(m.length:Int):=by omega
        have hcI0:(0:Int)≤(c:Int):=by omega
        have hcc:c < cap:=by omega
        have hcm2:c≤m.length:=by omega
        have hcc2:c≤cap:=by omega
        have hjI:decide ((j1:Int)+1 < ((m.length-(k1+1):Nat):Int))=false:=by simp; omega
        clear hcm
        go_wp2
        go_ret
        exact ⟨_,rfl,HFN.out,HBL.out⟩
   ·have HCE:Hid (compL m=m):=by
     show _=_
     have hke:k=m.length:=by omega
     unfold compL
     rw [keptI_all m.length (fun i h1 h2=>HNE.out i h1 (by omega))]
     apply List.ext_getElem (by simp)
     intro i h1 h2
     simp [h2]
    go_wp2
    go_ret
    exact ⟨_,rfl,by rw [HCE.out]; exact HF0.out,⟨rfl,rfl,rfl,Nat.le_refl _,fun _ _=>rfl⟩⟩
end Go.Proofs.YtdanomklbiidaaaGreatDoor

namespace Go.Proofs.YtdanomklbiidaaaGreatDoor
open Go.Shelf Go.RowKit Go.Lib Go.Sort
theorem cmpL_self:∀x,cmpL x x=0
 | []=>rfl
 | a :: x=>by simp [cmpL,cmpL_self x]
theorem cmpL_trans:∀x y z,cmpL x y < 0→cmpL y z < 0→cmpL x z < 0
 | [],[],_,h,_=>by simp [cmpL] at h
 | [],b :: y,[],_,h=>by simp [cmpL] at h
 | [],b :: y,c :: z,_,_=>by simp [cmpL]
 | a :: x,[],_,h,_=>by simp [cmpL] at h
 | a :: x,b :: y,[],_,h=>by simp [cmpL] at h
 | a :: x,b :: y,c :: z,h1,h2=>by
  have ih:=cmpL_trans x y z
  simp only [cmpL] at *
  split at h1 <;> split at h2 <;> split <;> (try split at h1) <;> (try split at h2) <;> (try split) <;> first | omega | (exact ih h1 h2)
theorem cmpL_ntrans:∀x y z,¬cmpL x y < 0→¬cmpL y z < 0→¬cmpL x z < 0
 | [],[],z,_,h=>h
 | [],b :: y,_,h,_=>by simp [cmpL] at h
 | a :: x,[],[],_,_=>by simp [cmpL]
 | a :: x,[],c :: z,_,h=>by simp [cmpL] at h
 | a :: x,b :: y,[],_,_=>by simp [cmpL]
 | a :: x,b :: y,c :: z,h1,h2=>by
  have ih:=cmpL_ntrans x y z
  simp only [cmpL] at *
  split at h1 <;> split at h2 <;> split <;> (try split at h1) <;> (try split at h2) <;> (try split) <;> first | omega | (exact ih h1 h2)
def RA (w:World):Type:={ p:Value×List Int // Sl 0 3 w p.1 (ints p.2) }
instance (w:World):Inhabited (RA w):=⟨⟨(.slice none 0 0,[]),Sl.nil _ _ _⟩⟩
def RA.enc {w:World} (x:RA w):Value:=x.1.1
def RA.cf {w:World} (x y:RA w):Int:=cmpL x.1.2 y.1.2
theorem RA.swo (w:World):SWO (ltOf (RA.cf (w:=w))) where
 irrefl x:=by simp [ltOf,RA.cf,cmpL_self]
 trans x y z h1 h2:=by
  exact decide_eq_true (cmpL_trans _ _ _ (of_decide_eq_true h1) (of_decide_eq_true h2))
 ntrans x y z h1 h2:=by
  exact decide_eq_false (cmpL_ntrans _ _ _ (of_decide_eq_false h1) (of_decide_eq_false h2))
theorem RA.one (w:World):OneCell (RA.enc (w:=w)):=fun x=>by
 obtain ⟨ao,cap,h,_⟩:=x.2
 show x.1.1.oneCell'=true
 rw [h]; rfl
theorem sortWorld_block {α:Type} [Inhabited α] (enc:α→Value) (w:World) (g off q:Nat) (d:Array α) (os:Array Obj) (b:Nat) (hb:b < w.heap.size) (hne:b≠g):(sortWorld enc w g off q d os).heap[b]?=w.heap[b]?:=by
 show ((w.heap.modify g _) ++ os)[b]?=_
 rw [Array.getElem?_append_left (by simpa using hb),Array.getElem?_modify,if_neg (fun e=>hne e.symm)]
theorem sortWorld_size {α:Type} [Inhabited α] (enc:α→Value) (w:World) (g off q:Nat) (d:Array α) (os:Array Obj):w.heap.size≤(sortWorld enc w g off q d os).heap.size:=by
 show w.heap.size≤((w.heap.modify g _) ++ os).size
 simp
theorem sortWorld_sl {α:Type} [Inhabited α] {enc:α→Value} {w:World} {g off q:Nat} {d:Array α} {os:Array Obj} {cur:Array Value} {v:Value} {xs:List Value} (hg:w.heap[g]?=some (.cells cur 22 (0,0))) (h:Sl 0 3 w v xs):Sl 0 3 (sortWorld enc w g off q d os) v xs:=
 h.move fun b hl ht=>by
  rcases ht with ht | ⟨c,ht⟩
  ·omega
  ·have hne:b≠g:=by
    rintro rfl
    rw [hg] at ht
    simp at ht
   exact ⟨sortWorld_block _ _ _ _ _ _ _ b hl hne,Or.inr ⟨c,ht⟩⟩
theorem sortWorld_row {α:Type} [Inhabited α] (enc:α→Value) (w:World) (g q cap:Nat) (d:Array α) (os:Array Obj) (f:Nat→Value) (h:w.rowIs g 22 cap f):(sortWorld enc w g 0 q d os).rowIs g 22 cap (fun k=>if k < d.size then enc d[k]! else f k):=by
 obtain ⟨c,h1,h2,h3⟩:=h
 have hl:=lt_of_block h1
 refine ⟨putCells enc 0 d c,?_,by simp [putCells,h2],fun i hi=>?_⟩
 ·show ((w.heap.modify g _) ++ os)[g]?=_
  rw [Array.getElem?_append_left (by simpa using hl),Array.getElem?_modify,if_pos rfl,h1]
  rfl
 ·unfold putCells
  rw [Array.getElem?_mapIdx,h3 i hi]
  simp
theorem ra_at {w:World} (d:Array (RA w)) {i:Nat} (h:i < d.size):(d.toList.map (fun x:RA w=>x.1.2)).getD i []=(d[i]!).1.2:=by
 rw [getElem!_pos d i h,List.getD_eq_getElem?_getD,List.getElem?_map,List.getElem?_eq_getElem (by simpa using h)]
 rfl
set_option maxRecDepth 100000 in
set_option maxHeartbeats 1000000 in
theorem sort_any (B:Nat) (m:List (List Int)) (v:Value) (w:World) (hv:Fr B 22 3 w v m) (hm:m.length≤2000000000000) :
  Calls Tryz.prog 35 #[v,.func (.func 36) #[] #[]] w fun e w'=>e=.returned (.tuple #[])∧∃m':List (List Int),m'.Perm m∧(∀i j,i < j→j < m'.length→¬cmpL (m'.getD j []) (m'.getD i []) < 0)∧Fr B 22 3 w' v m'∧Below B w w':=by
 by_cases h0:m.length=0
 ·have hm0:m=[]:=List.eq_nil_of_length_eq_zero h0
  subst hm0
  obtain ⟨ao,cap,hvv,_,_⟩:=mat_open (hv.rws.mat (Nat.le_refl _))
  subst hvv
  have hcon:=AnyF.slices_SortFunc_none (P:=Tryz.prog) (ρ:=Tryz.sortM_ren) { Tryz.sortM with } ao cap (.func (.func 36) #[] #[]) w
  change Calls Tryz.prog 35 _ _ _ at hcon
  refine hcon.mono ?_
  rintro e w' ⟨rfl,rfl⟩
  exact ⟨rfl,[],List.Perm.refl _,fun i j _ h=>absurd h (by simp),hv,Below.refl _ _⟩
 ·obtain ⟨g,cap,f,hvv,hBg,hgw,hrm⟩:=hv.rowM (by omega)
  subst hvv
  obtain ⟨cur,hcur,_⟩:=hrm.row
  obtain ⟨d,hd⟩:∃d:Array (RA w),d=Array.ofFn (fun i:Fin m.length=>(⟨(f i,m.getD i []),hrm.inn i i.2⟩:RA w)):=⟨_,rfl⟩
  have hds:d.size=m.length:=by rw [hd]; exact Array.size_ofFn
  have hdi:∀j (hj:j < m.length),d[j]! = (⟨(f j,m.getD j []),hrm.inn j hj⟩:RA w):=fun j hj=>by
   rw [getElem!_pos d j (by omega)]
   subst hd
   exact Array.getElem_ofFn _
  have hH:Holds (RA.enc (w:=w)) w g 0 d:=fun j hj=>by
   rw [hds] at hj
   rw [hdi j hj,Nat.zero_add]
   exact ⟨hrm.cell (Nat.lt_of_lt_of_le hj hrm.cap1),hrm.row.frozen j⟩
  have eg:∀args w,(callFunc 36 args).run Tryz.prog w=.ok (.enter 36 args) w:=enters_of Tryz.func36 (by kernel_rfl) rfl
  have hcmp:CmpReads Tryz.prog 36 #[] (RA.enc (w:=w)) RA.cf g 0 d.size w:=fun q os dk _ x y=>
   (compare_any 0 x.1.2 y.1.2 x.1.1 y.1.1 _ (sortWorld_sl hcur x.2) (sortWorld_sl hcur y.2)).mono fun e w' ⟨he,hw⟩=>⟨he,0,hw⟩
  have hcon:=Any.slices_SortFunc Tryz.sortM (RA.enc (w:=w)) (RA.one w) RA.cf (RA.swo w) 36 #[] g 0 cap d w eg hcmp.lays hH hgw (by omega)
  change Calls Tryz.prog 35 _ _ _ at hcon
  rw [hds] at hcon
  refine hcon.mono ?_
  rintro e w' ⟨rfl,d',q,os,⟨hp1,hp2,hp3⟩,hs,rfl⟩
  have hd's:d'.size=m.length:=by omega
  refine ⟨rfl,d'.toList.map (fun x=>x.1.2),?_,?_,?_,?_⟩
  ·have e1:(d'.extract 0 m.length).toList=d'.toList:=by rw [Array.toList_extract]; simp; exact List.take_of_length_le (by simp; omega)
   have e2:(d.extract 0 m.length).toList=d.toList:=by rw [Array.toList_extract]; simp; exact List.take_of_length_le (by simp; omega)
   rw [e1,e2] at hp3
   have hm':d.toList.map (fun x:RA w=>x.1.2)=m:=by
    apply List.ext_getElem (by simp [hds])
    intro i h1 h2
    have h3:=ra_at d (i:=i) (by omega)
    rw [hdi i h2] at h3
    have h4:(d.toList.map (fun x:RA w=>x.1.2)).getD i []=(d.toList.map (fun x:RA w=>x.1.2))[i]:=by rw [List.getD_eq_getElem?_getD,List.getElem?_eq_getElem h1]; rfl
    have h5:m.getD i []=m[i]:=by rw [List.getD_eq_getElem?_getD,List.getElem?_eq_getElem h2]; rfl
    rw [←h4,h3,←h5]
   rw [←hm']
   exact hp3.map _
  ·intro i j hij hj
   have hj':j < m.length:=by simpa [hd's] using hj
   have h:=hs i j (Nat.zero_le _) hij hj'
   have h:=of_decide_eq_false h
   rw [ra_at d' (by omega),ra_at d' (by omega)]; exact h
  ·have hlen:(d'.toList.map (fun x:RA w=>x.1.2)).length=m.length:=by simp [hd's]
   have hr':RowM (sortWorld (RA.enc (w:=w)) w g 0 q d' os) g cap (fun k=>if k < d'.size then RA.enc d'[k]! else f k) (d'.toList.map (fun x=>x.1.2)):=by
    refine ⟨sortWorld_row _ _ _ _ _ _ _ _ hrm.row,by rw [hlen]; exact hrm.cap1,hrm.cap2,fun i hi=>?_⟩
    rw [hlen] at hi
    simp only [show i < d'.size by omega,if_true]
    rw [ra_at d' (by omega)]
    exact sortWorld_sl hcur (d'[i]!).2
   have:=hr'.fr hBg
   rw [hlen] at this
   exact this
  ·exact ⟨rfl,rfl,rfl,sortWorld_size _ _ _ _ _ _ _,fun b hb=>sortWorld_block _ _ _ _ _ _ _ b (by omega) (by omega)⟩
end Go.Proofs.YtdanomklbiidaaaGreatDoor
