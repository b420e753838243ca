import Derived.Test.YtdanomklbiidaaaGreatDoorMgBA
import Derived.Test.YtdanomklbiidaaaGreatDoorMgAN
namespace Go.Proofs.YtdanomklbiidaaaGreatDoor
open Go.RowKit Lin
attribute [local go_sem ↓] Go.wp_at_zero Go.wp_at_succ
def swW (P:List (List Int)) (ch:List Int):Int:=detL (diffL (pks P [] ch))
def swB (P Lf:List (List Int)) (ch:List Int):Bool:=decide (swW P ch≠0) && !(Lf.any fun x=>decide (hgL (swW P ch) (pks Lf [] ch) x < 0))
def swT (P Lf:List (List Int)) (ch:List Int) (k:Nat):List Int:=((List.range k).filter fun q=>decide (hgL (swW P ch) (pks Lf [] ch) (Lf.getD q [])=0)).map fun q:Nat=>(q:Int)
def swL (P Lf:List (List Int)) (ch:List Int):List Int:=if swB P Lf ch=true then swT P Lf ch Lf.length else []
theorem owns_lowC {B B' s n:Nat} {e:TypeId} {w:World} {v:Value} {xs:List Value} (h:w.ownsRow B e s v n xs) (hB:B'≤B):w.ownsRow B' e s v n xs:=
 ⟨h.1,h.2.imp id fun ⟨g,cap,cur,hv,hb,r⟩=>⟨g,cap,cur,hv,Nat.le_trans hB hb,r⟩⟩
theorem three_al (W:World) (x1 x2 x3:Value) (t1 t2 t3:TypeId):Below W.heap.size W (((W.alloc (.cells #[x1] t1)).alloc (.cells #[x2] t2)).alloc (.cells #[x3] t3))∧(((W.alloc (.cells #[x1] t1)).alloc (.cells #[x2] t2)).alloc (.cells #[x3] t3)).cell? ⟨W.heap.size,0,none⟩=some x1∧(((W.alloc (.cells #[x1] t1)).alloc (.cells #[x2] t2)).alloc (.cells #[x3] t3)).cell? ⟨W.heap.size+1,0,none⟩=some x2∧(((W.alloc (.cells #[x1] t1)).alloc (.cells #[x2] t2)).alloc (.cells #[x3] t3)).cell? ⟨W.heap.size+1+1,0,none⟩=some x3:=by
 obtain ⟨W1,h1⟩:∃X,X=W.alloc (.cells #[x1] t1):=⟨_,rfl⟩
 have k1:W1.cell? ⟨W.heap.size,0,none⟩=some x1:=by rw [h1]; exact one_new W x1 t1 0 x1 rfl
 have s1:W1.heap.size=W.heap.size+1:=by rw [h1,size_alloc]
 have b1:Below W.heap.size W W1:=by rw [h1]; exact (Below.refl _ _).alloc (Nat.le_refl _) _
 rw [←h1]
 obtain ⟨W2,h2⟩:∃X,X=W1.alloc (.cells #[x2] t2):=⟨_,rfl⟩
 have k2:W2.cell? ⟨W1.heap.size,0,none⟩=some x2:=by rw [h2]; exact one_new W1 x2 t2 0 x2 rfl
 have s2:W2.heap.size=W1.heap.size+1:=by rw [h2,size_alloc]
 have b2:Below W1.heap.size W1 W2:=by rw [h2]; exact (Below.refl _ _).alloc (Nat.le_refl _) _
 rw [←h2]
 have k3:(W2.alloc (.cells #[x3] t3)).cell? ⟨W2.heap.size,0,none⟩=some x3:=one_new W2 x3 t3 0 x3 rfl
 have b3:Below W2.heap.size W2 (W2.alloc (.cells #[x3] t3)):=(Below.refl _ _).alloc (Nat.le_refl _) _
 rw [s2,s1] at k3
 rw [s1] at k2
 have k1':=(b2.cell (lt_of_cell k1)).trans k1
 exact ⟨b1.trans ((b2.mono (by omega)).trans (b3.mono (by omega))),(b3.cell (lt_of_cell k1')).trans k1',(b3.cell (lt_of_cell k2)).trans k2,k3⟩
set_option maxRecDepth 100000 in
set_option maxHeartbeats 3200000 in
theorem seenWith_any (P Lf:List (List Int)) (ch:List Int) (co:Option Addr) (cc:Nat) (pv lv:Value) (w:World) (hc:Sl w.heap.size 3 w (.slice co 3 cc) (ints ch)) (hcl:ch.length=3) (hcb:∀i∈ch,0≤i∧i < (P.length:Int)) (hp:Mat w.heap.size 22 3 w pv P) (hl:Mat w.heap.size 22 3 w lv Lf) (hn:Lf.length=P.length) (h10:P.length≤10)
  (hbp:Box 2 30 P) (hbl:Box 3 30 Lf) :
  Calls Tryz.prog 16 #[.slice co 3 cc,pv,lv] w fun e w'=>∃u,e=.returned (.tuple #[u,.bool (swB P Lf ch)])∧w'.ownsRow w.heap.size 3 1 u (swL P Lf ch).length (ints (swL P Lf ch))∧Below w.heap.size w w':=by
 obtain ⟨i3,hi3,hz30,hz31,hz32⟩:=info_parts Tryz.info3
 obtain ⟨po,pc,rfl,_,_⟩:=mat_open hp
 obtain ⟨lo,lc,rfl,_,_⟩:=mat_open hl
 have hcR:∀i,i < ch.length→0≤ch.getD i 0∧ch.getD i 0 < (P.length:Int):=fun i hi=>hcb _ (by simp [hi])
 have hcR2:∀i,i < ch.length→0≤ch.getD i 0∧ch.getD i 0 < (Lf.length:Int):=fun i hi=>by rw [hn]; exact hcR i hi
 have hbP:Box 2 30 (pks P [] ch):=pks_box hbp hcR
 have hbL:Box 3 30 (pks Lf [] ch):=pks_box hbl hcR2
 have hlP:(pks P [] ch).length=2+1:=by rw [pks_len,hcl]
 have hlL:(pks Lf [] ch).length=3:=by rw [pks_len,hcl]
 have hw:(swW P ch).natAbs≤10000:=by
  have hln:(diffL (pks P [] ch)).length=2:=by rw [diffL_length]; omega
  have hmx:=diff_mx hbP (by decide) (by omega)
  have hsq:Sq (diffL (pks P [] ch)).length 60 (diffL (pks P [] ch)):=⟨rfl,fun r hr=>by rw [hmx.row r hr,hln]; exact Nat.le_refl _,fun r hr j hj=>hmx.bd r hr _ (getD_mem (by rw [hmx.row r hr]; omega)),by rw [hln]; decide,by omega,by decide⟩
  have:=detL_bdC hsq
  rw [hln] at this
  exact Nat.le_trans this (by decide)
 have HP1:Hid (Calls Tryz.prog 26 #[.slice po P.length pc,.slice co 3 cc] w fun e w'=>∃zo zc,e=.returned (.slice zo 3 zc)∧Mat w'.heap.size 22 3 w' (.slice zo 3 zc) (pks P [] ch)∧Below w.heap.size w w'):=by
  refine (pickedP_any w.heap.size P ch _ _ w hp hc hcR (by omega)).mono ?_
  rintro e w' ⟨z,rfl,hz,hb⟩
  have hz2:Mat w'.heap.size 22 3 w' z (pks P [] ch):=hz.mat hb.size
  obtain ⟨zo,zc,rfl,_,_⟩:=mat_open hz2
  rw [pks_len,hcl] at hz2 ⊢
  exact ⟨zo,zc,rfl,hz2,hb⟩
 have HP2:Hid (∀X,Below w.heap.size w X→Calls Tryz.prog 26 #[.slice lo Lf.length lc,.slice co 3 cc] X fun e w'=>∃zo zc,e=.returned (.slice zo 3 zc)∧Mat w'.heap.size 22 3 w' (.slice zo 3 zc) (pks Lf [] ch)∧Below w.heap.size w w'):=fun X hX=>by
  refine (pickedP_any w.heap.size Lf ch _ _ X (hl.below hX (Nat.le_refl _)) (hc.below hX (Nat.le_refl _)) hcR2 (by omega)).mono ?_
  rintro e w' ⟨z,rfl,hz,hb⟩
  have hz2:Mat w'.heap.size 22 3 w' z (pks Lf [] ch):=hz.mat hb.size
  obtain ⟨zo,zc,rfl,_,_⟩:=mat_open hz2
  rw [pks_len,hcl] at hz2 ⊢
  exact ⟨zo,zc,rfl,hz2,hX.trans (hb.mono hX.size)⟩
 have HT1:Hid (∀X u,Mat X.heap.size 22 3 X u (pks P [] ch)→Calls Tryz.prog 32 #[u] X fun e w'=>e=.returned (.int .i64 (swW P ch))∧Below X.heap.size X w'):=fun X u hu=>turnC_any X.heap.size 2 _ u X hu hbP (by decide) (by decide) hlP
 have HLF:Hid (Mat w.heap.size 22 3 w (.slice lo Lf.length lc) Lf):=hl
 have HHT:Hid (∀X g8 g9 zo zc i xv,Below w.heap.size w X→Mat X.heap.size 22 3 X (.slice zo 3 zc) (pks Lf [] ch)→X.cell? ⟨g8,0,none⟩=some (.int .i64 (swW P ch))→X.cell? ⟨g9,0,none⟩=some (.slice zo 3 zc)→i < Lf.length→Sl X.heap.size 3 X xv (ints (Lf.getD i []))→Calls Tryz.prog 33 #[xv,.pointer (some ⟨g8,0,none⟩),.pointer (some ⟨g9,0,none⟩)] X fun e w'=>e=.returned (.int .i64 (hgL (swW P ch) (pks Lf [] ch) (Lf.getD i [])))∧Below X.heap.size X w'):=fun X g8 g9 zo zc i xv hX hM h8 h9 hi hx=>
  hgt_any _ _ _ _ g8 g9 zo zc X hx hM hlL (fun r hr=>by
   rcases List.mem_append.1 hr with hr | hr
   ·exact hbL r hr
   ·simp only [List.mem_singleton] at hr; subst hr; exact hbl _ (by simp [hi])) hw h8 h9
 have HHW:Hid (∀X g8 g9 g10 zo zc,Below w.heap.size w X→Mat X.heap.size 22 3 X (.slice zo 3 zc) (pks Lf [] ch)→X.cell? ⟨g8,0,none⟩=some (.int .i64 (swW P ch))→X.cell? ⟨g9,0,none⟩=some (.slice zo 3 zc)→X.cell? ⟨g10,0,none⟩=some (.func (.func 33) #[] #[.pointer (some ⟨g8,0,none⟩),.pointer (some ⟨g9,0,none⟩)])→Calls Tryz.prog 22 #[.slice lo Lf.length lc,.func (.func 34) #[] #[.pointer (some ⟨g10,0,none⟩)]] X fun e w'=>e=.returned (.bool (Lf.any fun x=>decide (hgL (swW P ch) (pks Lf [] ch) x < 0)))∧Below X.heap.size X w'):=fun X g8 g9 g10 zo zc hX hM h8 h9 h10=>
  hasW_any w.heap.size (fun x=>decide (hgL (swW P ch) (pks Lf [] ch) x < 0)) Lf _ ⟨g10,0,none⟩ X (HLF.out.below hX (Nat.le_refl _)) fun r hr W rv hW hrs=>by
   refine (blw_any (pks Lf [] ch) r (swW P ch) rv g8 g9 g10 zo zc W (hrs.any (Nat.le_refl _)) ((hM.below hW (Nat.le_refl _)).any (Nat.le_refl _)) hlL (fun q hq=>by
    rcases List.mem_append.1 hq with hq | hq
    ·exact hbL q hq
    ·simp only [List.mem_singleton] at hq; subst hq; exact hbl _ hr) hw ((hW.cell (lt_of_cell h8)).trans h8) ((hW.cell (lt_of_cell h9)).trans h9) ((hW.cell (lt_of_cell h10)).trans h10)).mono ?_
   rintro e w' ⟨rfl,hb⟩
   exact ⟨rfl,hW.trans (hb.mono hW.size)⟩
 have HSB:Hid (swB P Lf ch=(decide (swW P ch≠0) && !(Lf.any fun x=>decide (hgL (swW P ch) (pks Lf [] ch) x < 0)))):=rfl
 have HSL:Hid (swL P Lf ch=if swB P Lf ch=true then swT P Lf ch Lf.length else []):=rfl
 have HST:Hid (∀k,swT P Lf ch (k+1)=swT P Lf ch k ++ if hgL (swW P ch) (pks Lf [] ch) (Lf.getD k [])=0 then [(k:Int)] else []):=fun k=>by
  simp only [swT,List.range_succ,List.filter_append,List.map_append,List.filter_cons,List.filter_nil]
  by_cases h:hgL (swW P ch) (pks Lf [] ch) (Lf.getD k [])=0
  ·rw [if_pos h,if_pos (by rw [h]; rfl)]; rfl
  ·rw [if_neg h,if_neg (by simpa using h)]; rfl
 have HS0:Hid (swT P Lf ch 0=[]):=rfl
 have HTL:Hid (∀k,(swT P Lf ch k).length≤k):=fun k=>by
  show _≤_
  simp only [swT,List.length_map]
  exact Nat.le_trans (List.length_filter_le _ _) (by simp)
 have HHB:Hid (∀i,i < Lf.length→(hgL (swW P ch) (pks Lf [] ch) (Lf.getD i [])).natAbs≤9000000000000000000):=fun i hi=>by
  have:=turn_bd (m:=pks Lf [] ch ++ [Lf.getD i []]) (d:=3) (fun r hr=>by
   rcases List.mem_append.1 hr with hr | hr
   ·exact hbL r hr
   ·simp only [List.mem_singleton] at hr; subst hr; exact hbl _ (by simp [hi])) (by decide) (by decide) (by simp [hlL])
  rw [hgL,Int.natAbs_mul]
  exact Nat.le_trans (Nat.mul_le_mul hw this) (by decide)
 have h10':Lf.length≤10:=by omega
 clear hc hcb hp hl hbp hbl hcR hcR2 hbP hbL hlP hlL hw hcl hn h10
 generalize swW P ch=W0 at *
 generalize (Lf.any fun x=>decide (hgL W0 (pks Lf [] ch) x < 0))=R at *
 go_enter Tryz.func16,Tryz.ntmps16
 go_wp2_with fail
 refine HP1.out.mono ?_
 rintro e w1 ⟨zo1,zc1,rfl,hM1,hb1⟩
 have HT:=HT1.out w1 _ hM1
 have HB1:Hid (Below w.heap.size w w1):=hb1
 clear hM1 hb1 HP1 HT1
 go_wp2_with fail
 refine HT.mono ?_
 rintro e w2 ⟨rfl,hb2⟩
 have HB2:Hid (Below w.heap.size w w2):=HB1.out.trans (hb2.mono HB1.out.size)
 clear hb2 HT HB1
 go_wp2_with fail
 refine (HP2.out w2 HB2.out).mono ?_
 rintro e w3 ⟨zo,zc,rfl,hM3,hb3⟩
 have HM3:Hid (Mat w3.heap.size 22 3 w3 (.slice zo 3 zc) (pks Lf [] ch)):=hM3
 have HB3:Hid (Below w.heap.size w w3):=hb3
 clear hM3 hb3 HP2 HB2
 have HAL:Hid (∀(x1 x2 x3:Value) (t1 t2 t3:TypeId),_):=three_al w3
 go_wp2_with fail
 ·go_ret2
  have h0:W0=0:=by first | assumption | omega
  have e:swB P Lf ch=false:=by rw [HSB.out,h0]; rfl
  refine ⟨_,by rw [e]; rfl,?_,?_⟩
  ·skip
   rw [HSL.out,e]
   exact World.ownsRow_nil _ _ _ _
  ·exact HB3.out.trans ((HAL.out _ _ _ _ _ _).1.mono HB3.out.size)
 ·obtain ⟨b4,c8,c9,c10⟩:=HAL.out (.int .i64 W0) (.slice zo 3 zc) (.func (.func 33) #[] #[.pointer (some ⟨w3.heap.size,0,none⟩),.pointer (some ⟨w3.heap.size+1,0,none⟩)]) 3 23 56
  refine (HHW.out _ w3.heap.size (w3.heap.size+1) (w3.heap.size+1+1) zo zc (HB3.out.trans (b4.mono HB3.out.size)) ((HM3.out.below b4 (Nat.le_refl _)).any (Nat.le_refl _)) c8 c9 c10).mono ?_
  rintro e w5 ⟨rfl,hb5⟩
  have HB5:Hid (Below w.heap.size w w5):=HB3.out.trans ((b4.mono HB3.out.size).trans (hb5.mono (Nat.le_trans HB3.out.size b4.size)))
  have HM5:Hid (Mat w5.heap.size 22 3 w5 (.slice zo 3 zc) (pks Lf [] ch)):=((HM3.out.below b4 (Nat.le_refl _)).below hb5 (Nat.le_refl _)).any (Nat.le_refl _)
  have HC:Hid (w5.cell? ⟨w3.heap.size,0,none⟩=some (.int .i64 W0)∧w5.cell? ⟨w3.heap.size+1,0,none⟩=some (.slice zo 3 zc)∧w5.cell? ⟨w3.heap.size+1+1,0,none⟩=some (.func (.func 33) #[] #[.pointer (some ⟨w3.heap.size,0,none⟩),.pointer (some ⟨w3.heap.size+1,0,none⟩)])):=⟨(hb5.cell (lt_of_cell c8)).trans c8,(hb5.cell (lt_of_cell c9)).trans c9,(hb5.cell (lt_of_cell c10)).trans c10⟩
  clear c8 c9 c10 b4 hb5 HM3 HB3 HHW HAL
  obtain ⟨G8,h8⟩:∃g,g=w3.heap.size:=⟨_,rfl⟩
  rw [←h8] at HC ⊢
  clear h8
  have C10:=HC.out.2.2
  go_wp2_with fail
  ·have h0:(W0 == 0)=true∨R=true:=by assumption
   have e:swB P Lf ch=false:=by
    rw [HSB.out]
    rcases h0 with h0 | h0
    ·rw [show W0=0 by simpa using h0]; rfl
    ·rw [h0]; simp
   go_ret2
   refine ⟨_,by rw [e]; rfl,?_,HB5.out⟩
   rw [HSL.out,e]
   exact World.ownsRow_nil _ _ _ _
  ·have h0:(W0 == 0)=false∧R=false:=by assumption
   have HE:Hid (swB P Lf ch=true):=by
    show _=_
    rw [HSB.out,h0.2]
    have:W0≠0:=by simpa using h0.1
    simp [this]
   have HSL2:Hid (swL P Lf ch=swT P Lf ch Lf.length):=by
    show _=_
    rw [HSL.out,HE.out]; rfl
   rw [h0.1,h0.2]
   clear h0 HSB HSL
   go_loopw [12,13,14,33] (fun s _ _ i wr=>∃k:Nat,k≤Lf.length∧i=.int .i64 k∧wr.ownsRow w5.heap.size 3 1 s (swT P Lf ch k).length (ints (swT P Lf ch k))∧Below w5.heap.size w5 wr) (fun _ _ _ i _=>Lf.length-(intOf i).toNat)
   case atStart=>exact ⟨0,Nat.zero_le _,rfl,by rw [HS0.out]; exact World.ownsRow_nil _ _ _ _,Below.refl _ _⟩
   case round=>
    obtain ⟨k,hk,rfl,ho,hb⟩:=hrel
    have HO:Hid (wr.ownsRow w5.heap.size 3 1 u12 (swT P Lf ch k).length (ints (swT P Lf ch k))):=ho
    have HB:Hid (Below w5.heap.size w5 wr):=hb
    have HBW:Hid (Below w.heap.size w wr):=HB5.out.trans (hb.mono HB5.out.size)
    clear ho hb
    by_cases hlt:k < Lf.length
    ·obtain ⟨b1,o,cp,r1,hs,hc1,hcc,hr1⟩:=mat_cell (HLF.out.below HBW.out (Nat.le_refl _)) hlt
     simp only [Value.slice.injEq] at hs
     obtain ⟨rfl,hxx,rfl⟩:=hs
     clear hxx
     have c10:=(HB.out.cell (lt_of_cell C10)).trans C10
     have HCA:Hid (Calls Tryz.prog 33 #[r1,.pointer (some ⟨G8,0,none⟩),.pointer (some ⟨G8+1,0,none⟩)] wr fun e w'=>e=.returned (.int .i64 (hgL W0 (pks Lf [] ch) (Lf.getD k [])))∧Below wr.heap.size wr w'):=
      HHT.out wr G8 (G8+1) zo zc k r1 HBW.out ((HM5.out.below HB.out (Nat.le_refl _)).any (Nat.le_refl _)) ((HB.out.cell (lt_of_cell HC.out.1)).trans HC.out.1) ((HB.out.cell (lt_of_cell HC.out.2.1)).trans HC.out.2.1) hlt (hr1.any (Nat.le_refl _))
     have HSK:Hid (swT P Lf ch (k+1)=swT P Lf ch k ++ if hgL W0 (pks Lf [] ch) (Lf.getD k [])=0 then [(k:Int)] else []):=HST.out k
     have HTK:Hid ((swT P Lf ch k).length≤k):=HTL.out k
     clear hr1
     obtain ⟨x,hx⟩:∃x,x=hgL W0 (pks Lf [] ch) (Lf.getD k []):=⟨_,rfl⟩
     rw [←hx] at HCA HSK
     clear hx
     have hk10:k≤10:=by omega
     go_wp2_with fail
     refine HCA.out.mono ?_
     rintro e w6 ⟨rfl,hb6⟩
     have HB6:Hid (Below w5.heap.size w5 w6):=HB.out.trans (hb6.mono HB.out.size)
     have HO6:Hid (w6.ownsRow w5.heap.size 3 1 u12 (swT P Lf ch k).length (ints (swT P Lf ch k))):=owns_below HO.out hb6 (Nat.le_refl _)
     have HS6:Hid (w5.heap.size≤w6.heap.size):=HB6.out.size
     clear hb6 HCA c10 HO
     generalize swT P Lf ch k=Sk at *
     obtain ⟨o2,oc2,hu2⟩:=owns_form HO6.out
     subst hu2
     have htl:Sk.length≤k:=HTK.out
     by_cases hx:x=0
     ·subst hx
      have HSK2:Hid (swT P Lf ch (k+1)=Sk ++ [(k:Int)]):=by
       show _=_
       rw [HSK.out,if_pos rfl]
      clear HSK
      go_wp2_with (first | (at_builtin; refine wpList_append_own _ rfl _ _ 22 rfl w5.heap.size 3 i3 (.int .i64 0) 1 8 Tryz.underlying22 hi3 hz30 hz31 hz32 rfl (by decide) _ _ _ rfl (HO6.out.alloc _) ⟨w6.heap.size,0,none⟩ 1 1 [.int .i64 (k:Int)] rfl rfl (one_new _ _ _) (one_int _) ?c3 ?c4 ?c5 ?_))
      case c3=>unfold maxLen; omega
      case c4=>omega
      case c5=>first | exact HS6.out | (have:=HS6.out; simp; omega)
      intro v2 w7 ho hg _
      have R1:Hid (w7.ownsRow w5.heap.size 3 1 v2 (swT P Lf ch (k+1)).length (ints (swT P Lf ch (k+1)))):=by
       show World.ownsRow _ _ _ _ _ _ _
       rw [HSK2.out,←ints_snoc,List.length_append]
       exact ho
      have R2:Hid (Below w5.heap.size w5 w7):=(HB6.out.alloc HB6.out.size _).grown hg (by have:=HB6.out.size; simp; omega) (fun z hz=>(HO6.out.lt z hz).1)
      clear ho hg
      go_wp2
      go_roundw
      case rel=>(repeat apply Exists.intro); exact ⟨⟨k+1,by omega,by go_num,R1.out,R2.out⟩,rfl⟩
      case measure=>simp [intOf]; omega
     ·have HSK2:Hid (swT P Lf ch (k+1)=Sk):=by
       show _=_
       rw [HSK.out,if_neg hx,List.append_nil]
      clear HSK
      go_wp2
      go_roundw
      case rel=>(repeat apply Exists.intro); exact ⟨⟨k+1,by omega,by go_num,by rw [HSK2.out]; exact HO6.out,HB6.out⟩,rfl⟩
      case measure=>simp [intOf]; omega
    ·have hke:k=Lf.length:=by omega
     rw [hke] at HO
     obtain ⟨o2,oc2,hu2⟩:=owns_form HO.out
     subst hu2
     go_wp2
     go_ret2
     refine ⟨_,by rw [HE.out]; rfl,?_,HBW.out⟩
     rw [HSL2.out]
     exact owns_lowC HO.out HB5.out.size
end Go.Proofs.YtdanomklbiidaaaGreatDoor
