import Derived.Test.YtcoeneldaohpnaaGreatMgAY
import Derived.Test.YtcoeneldaohpnaaGreatMgAZ
import Derived.Test.YtcoeneldaohpnaaGreatHm7
import Derived.Test.YtcoeneldaohpnaaGreatRefs4
namespace Go.Proofs.YtcoeneldaohpnaaGreat
open Go.RowKit Lin
attribute [local go_sem ↓] Go.wp_at_zero Go.wp_at_succ
theorem own_keepS {B n:Nat} {e:TypeId} {w w':World} {v:Value} {xs:List Value} (h:w.ownsRow B e 1 v n xs) (hk:∀b,v.ownBlock=some b→w'.heap[b]?=w.heap[b]?):w'.ownsRow B e 1 v n xs:=by
 refine ⟨h.1,?_⟩
 rcases h.2 with h2 | ⟨g,cap,cur,rfl,hb,hh,r⟩
 ·exact Or.inl h2
 ·exact Or.inr ⟨g,cap,cur,rfl,hb,(hk g rfl).trans hh,r⟩
theorem own_typS {B n:Nat} {e:TypeId} {w:World} {v:Value} {xs:List Value} (h:w.ownsRow B e 1 v n xs):∀b,v.ownBlock=some b→B≤b∧b < w.heap.size∧∃cur,w.heap[b]?=some (.cells cur e (0,0)):=by
 intro b hb
 refine ⟨(h.lt b hb).1,(h.lt b hb).2,?_⟩
 rcases h.2 with ⟨h2,_⟩ | ⟨g,cap,cur,rfl,hbb,hh,r⟩
 ·rw [h2] at hb; simp [Value.ownBlock] at hb
 ·simp only [Value.ownBlock,Option.some.injEq] at hb
  subst hb
  exact ⟨cur,hh⟩
structure FrL (w1 wr:World) (v:Value) (m:List (List Int)) (vs:List Value):Prop where
 len:vs.length=m.length
 own:wr.ownsRow w1.heap.size 26 1 v m.length vs
 sl:∀i,i < m.length→Sl 0 3 w1 (vs.getD i (.slice none 0 0)) (ints (m.getD i []))
theorem FrL.push {w1 wr w3:World} {v v' u:Value} {m:List (List Int)} {vs:List Value} {zs:List Int} (h:FrL w1 wr v m vs) (hu:Sl 0 3 w1 u (ints zs)) (ho:w3.ownsRow w1.heap.size 26 1 v' (m.length+1) (vs ++ [u])):FrL w1 w3 v' (m ++ [zs]) (vs ++ [u]):=by
 refine ⟨by simp [h.len],by simpa using ho,fun i hi=>?_⟩
 by_cases hlt:i < m.length
 ·have e1:(vs ++ [u]).getD i (.slice none 0 0)=vs.getD i (.slice none 0 0):=by
   simp only [List.getD_eq_getElem?_getD]; rw [List.getElem?_append_left (by have:=h.len; omega)]
  have e2:(m ++ [zs]).getD i []=m.getD i []:=by
   simp only [List.getD_eq_getElem?_getD]; rw [List.getElem?_append_left (by omega)]
  rw [e1,e2]
  exact h.sl i hlt
 ·have hi':i=m.length:=by simp at hi; omega
  subst hi'
  have e1:(vs ++ [u]).getD m.length (.slice none 0 0)=u:=by rw [←h.len]; simp
  have e2:(m ++ [zs]).getD m.length []=zs:=by simp
  rw [e1,e2]
  exact hu
theorem FrL.mat {w1 wr:World} {v:Value} {m:List (List Int)} {vs:List Value} (h:FrL w1 wr v m vs) (hb:Below w1.heap.size w1 wr):Mat 0 26 3 wr v m:=
 ⟨vs,h.len,by have:=h.own; rw [←h.len] at this; exact Sl.own this,fun i hi=>(h.sl i hi).below hb (Nat.le_refl _)⟩
theorem pks_snocZ {C:List (List Int)} {cell:List Int} {k:Nat} (hk:k < cell.length):pks C [] (cell.take (k+1))=pks C [] (cell.take k) ++ [C.getD (cell.getD k 0).toNat []]:=by
 unfold pks
 rw [List.take_succ_eq_append_getElem hk,List.map_append]
 simp [hk]
theorem pks_lenZ (C:List (List Int)) (cell:List Int):(pks C [] cell).length=cell.length:=by simp [pks]
theorem Wys.sq {d:Nat} {ways:List (List Int)} (h:Wys d ways) {c:List Int} (hl:c.length=d) (hc:∀i,i < d→0≤c.getD i 0∧c.getD i 0 < (ways.length:Int)):Mx (pks ways [] c).length 60 (pks ways [] c)∧Sq (pks ways [] c).length 60 (pks ways [] c)∧(detL (pks ways [] c)).natAbs≤1000000000:=by
 have hm:∀x∈pks ways [] c,x∈ways:=pks_in fun q hq=>by
  obtain ⟨i,hi,rfl⟩:=List.mem_iff_getElem.1 hq
  have:=hc i (by omega)
  simpa [hi] using this
 have hln:(pks ways [] c).length=d:=by rw [pks_lenZ,hl]
 have hmx:=h.mx
 have h3:=h.d3
 have hmx2:Mx (pks ways [] c).length 60 (pks ways [] c):=by
  rw [hln]
  exact ⟨fun r hr=>hmx.row r (hm r hr),fun r hr=>hmx.bd r (hm r hr),hmx.c5,hmx.c1,hmx.pos,hmx.small⟩
 have hsq:Sq (pks ways [] c).length 60 (pks ways [] c):=⟨rfl,fun r hr=>by rw [hmx2.row r hr]; exact Nat.le_refl _,fun r hr j hj=>hmx2.bd r hr _ (getD_mem (by rw [hmx2.row r hr]; exact hj)),by rw [hln]; exact Nat.le_trans (fb_mono (by decide) h3) (by decide),by omega,by decide⟩
 refine ⟨hmx2,hsq,?_⟩
 have hb:=detL_bdS hsq
 rw [hln] at hb
 exact Nat.le_trans hb (Nat.le_trans (fb_mono (by decide) h3) (by decide))
theorem ext_ok {n d:Nat} {c:List Int} (h:c∈ext n d 0):c.length=d∧∀i,i < d→0≤c.getD i 0∧c.getD i 0 < (n:Int):=by
 have hc:=chosen_ext.2 h
 exact ⟨chosen_row d n c hc,(chosen_mem d n c hc).1⟩
theorem tlS_len (ways l:List (List Int)):(tlS ways l).length≤l.length:=by
 unfold tlS
 exact List.length_filter_le _ _
set_option maxRecDepth 100000 in
set_option maxHeartbeats 3200000 in
theorem tilesOf_any (d:Nat) (ways:List (List Int)) (v:Value) (w:World) (hv:Mat w.heap.size 26 3 w v ways) (h:Wys d ways) :
  Calls Tryz.prog 8 #[.int .i64 d,v] w fun e w'=>∃(xo:Option Addr) (xc:Nat) (yo:Option Addr) (yc:Nat),e=.returned (.tuple #[.slice xo (tlS ways (ext ways.length d 0)).length xc,.slice yo (tlS ways (ext ways.length d 0)).length yc])∧Mat 0 26 3 w' (.slice xo (tlS ways (ext ways.length d 0)).length xc) (tlS ways (ext ways.length d 0))∧Sl 0 3 w' (.slice yo (tlS ways (ext ways.length d 0)).length yc) (ints ((tlS ways (ext ways.length d 0)).map (tlA ways)))∧Below w.heap.size w w':=by
 obtain ⟨i0,hi,hz0,hz1,hz2⟩:=info_parts Tryz.info26
 obtain ⟨i3,hi3,hz30,hz31,hz32⟩:=info_parts Tryz.info3
 obtain ⟨vo,vc,rfl,_,_⟩:=mat_open hv
 have h1:=h.d1
 have h3:=h.d3
 have hn5:=h.n5
 have HM:Hid (∀X,Below w.heap.size w X→Mat w.heap.size 26 3 X (.slice vo ways.length vc) ways):=fun X hX=>hv.below hX (Nat.le_refl _)
 have HH:Hid (Wys d ways):=h
 have K1:Hid (Calls Tryz.prog 20 #[.int .i64 ways.length,.int .i64 d] w fun e w'=>∃(co:Option Addr) (cl cc:Nat),e=.returned (.slice co cl cc)∧(Mat w'.heap.size 26 3 w' (.slice co cl cc) (chosenL d ways.length)∧Below w.heap.size w w')):=by
  refine (chosen_any d (by omega) ways.length w (by omega)).mono ?_
  rintro e w' ⟨x,rfl,hf,hb⟩
  have hM:=fr_mat0S hf
  obtain ⟨co,cc,rfl,_,_⟩:=mat_open hM
  exact ⟨co,_,cc,rfl,hM.more (Nat.zero_le _),hb⟩
 have K2:Hid (∀X u,Mat X.heap.size 26 3 X u (chosenL d ways.length)→Calls Tryz.prog 18 #[u] X fun e w'=>∃(xo:Option Addr) (xc:Nat),e=.returned (.slice xo (ext ways.length d 0).length xc)∧(Mat 0 26 3 w' (.slice xo (ext ways.length d 0).length xc) (ext ways.length d 0)∧Below X.heap.size X w')):=fun X u hu=>by
  refine (sortR_any X.heap.size (chosenL d ways.length) u X hu (Nat.le_trans (chosen_len d ways.length (by omega)) (Nat.le_trans (Nat.pow_le_pow_right (by decide) h3) (by decide))) (fun r hr=>by rw [chosen_row d ways.length r hr]; omega)).mono ?_
  rintro e w' ⟨x,s,rfl,hf,ha,hm,hb⟩
  have hs:=sort_chosen ha hm
  subst hs
  have hM:=fr_mat0S hf
  obtain ⟨xo,xc,rfl,_,_⟩:=mat_open hM
  exact ⟨xo,xc,rfl,hM,hb⟩
 have HLE:Hid ((ext ways.length d 0).length≤300000):=by
  have e:ext ways.length d 0=ext ways.length d 0:=rfl
  show _≤_
  have:=nodup_lenL (ext ways.length d 0) (chosenL d ways.length) (ext_asc d ways.length 0).nodup fun r hr=>chosen_ext.2 hr
  have h2:=chosen_len d ways.length (by omega)
  have h4:64 ^ d≤64 ^ 3:=Nat.pow_le_pow_right (by decide) h3
  omega
 have HEX:Hid (∀c∈ext ways.length d 0,c.length=d∧∀i,i < d→0≤c.getD i 0∧c.getD i 0 < (ways.length:Int)):=fun c hc=>ext_ok hc
 clear hv h
 obtain ⟨l,hl⟩:∃l,l=ext ways.length d 0:=⟨_,rfl⟩
 rw [←hl] at K2 HLE HEX ⊢
 clear hl
 have hll:=HLE.out
 go_enter Tryz.func8,Tryz.ntmps8
 go_wp2_with fail
 refine K1.out.mono ?_
 rintro e w0 ⟨co,cl,cc,rfl,hM0,hb0⟩
 have HK2:=K2.out w0 _ hM0
 have HB0:Hid (Below w.heap.size w w0):=hb0
 clear K1 K2 hM0 hb0
 go_wp2_with fail
 refine HK2.mono ?_
 rintro e w1 ⟨lo,lc,rfl,hM1,hb1⟩
 have HB1:Hid (Below w.heap.size w w1):=HB0.out.trans (hb1.mono HB0.out.size)
 have HM1:Hid (Mat 0 26 3 w1 (.slice lo l.length lc) l):=hM1
 clear HK2 hM1 hb1
 go_wp2
 go_loopw [7,8,9] (fun x y i wr=>∃(k:Nat) (xo:Option Addr) (xc:Nat) (yo:Option Addr) (yc:Nat) (vs:List Value),k≤l.length∧i=.int .i64 (k:Int)∧x=.slice xo (tlS ways (l.take k)).length xc∧y=.slice yo (tlS ways (l.take k)).length yc∧FrL w1 wr (.slice xo (tlS ways (l.take k)).length xc) (tlS ways (l.take k)) vs∧wr.ownsRow w1.heap.size 3 1 (.slice yo (tlS ways (l.take k)).length yc) (tlS ways (l.take k)).length (ints ((tlS ways (l.take k)).map (tlA ways)))∧Below w1.heap.size w1 wr) (fun _ _ i _=>l.length-(intOf i).toNat)
 case atStart=>exact ⟨0,none,0,none,0,[],Nat.zero_le _,rfl,rfl,rfl,⟨rfl,World.ownsRow_nil _ _ _ _,fun i hi=>absurd hi (by simp [tlS])⟩,World.ownsRow_nil _ _ _ _,Below.refl _ _⟩
 case round=>
  obtain ⟨k,xo,xc,yo,yc,vs,hk,rfl,rfl,rfl,hfl,hoy,hbr⟩:=hrel
  obtain ⟨wa,hwa⟩:∃wa,wa=wr:=⟨wr,rfl⟩
  rw [←hwa] at hfl hoy hbr ⊢
  clear hwa wr
  by_cases hlt:k < l.length
  ·have hmem:l.getD k []∈l:=by simp [hlt]
   obtain ⟨hcl,hcr⟩:=HEX.out _ hmem
   obtain ⟨lb,lf,lcp,rv,hs,_,hcc,hrv⟩:=mat_cell HM1.out hlt
   simp only [Value.slice.injEq] at hs
   obtain ⟨rfl,hxx,rfl⟩:=hs
   clear hxx
   obtain ⟨ca,ccp,hce,_,_⟩:=sl_open hrv
   rw [hcl] at hce
   subst hce
   obtain ⟨hMx,hSq,hDB⟩:=HH.out.sq hcl hcr
   have HTS:Hid (tlS ways (l.take (k+1))=tlS ways (l.take k) ++ (if detL (pks ways [] (l.getD k []))≠0 then [l.getD k []] else [])):=tlS_snoc hlt
   have HTA:Hid (tlA ways (l.getD k [])=((detL (pks ways [] (l.getD k []))).natAbs:Int)):=rfl
   have HCV:Hid (Sl 0 3 w1 (.slice ca d ccp) (ints (l.getD k []))):=hrv
   have HCC:Hid (∀X,Below w1.heap.size w1 X→X.cell? ⟨lb,lf+k,none⟩=some (.slice ca d ccp)):=fun X hX=>(hX.cell (lt_of_cell hcc)).trans hcc
   have HCX:Hid (∀X j,Below w1.heap.size w1 X→j < d→∃xb xf cb cf zo zc,ca=some ⟨xb,xf,none⟩∧vo=some ⟨cb,cf,none⟩∧X.cell? ⟨xb,xf+j,none⟩=some (.int .i64 (((l.getD k []).getD j 0).toNat:Int))∧((l.getD k []).getD j 0).toNat < ways.length∧X.cell? ⟨cb,cf+((l.getD k []).getD j 0).toNat,none⟩=some (.slice zo d zc)∧Sl w.heap.size 3 X (.slice zo d zc) (ints (ways.getD ((l.getD k []).getD j 0).toNat []))):=fun X j hX hj=>by
    obtain ⟨xb,xf,cp,hs,_,hccx⟩:=sl_cell (hrv.below hX (Nat.le_refl _)) (k:=j) (by rw [hcl]; exact hj)
    simp only [Value.slice.injEq] at hs
    have hx:=hcr j hj
    have hlt2:((l.getD k []).getD j 0).toNat < ways.length:=by omega
    obtain ⟨cb,cf,qcp,q1,hqs,_,hqc,hq1⟩:=mat_cell (HM.out X (HB1.out.trans (hX.mono HB1.out.size))) hlt2
    simp only [Value.slice.injEq,true_and] at hqs
    obtain ⟨zo,zc,rfl,_,_⟩:=sl_open hq1
    have hkm:ways.getD ((l.getD k []).getD j 0).toNat []∈ways:=by rw [List.getD_eq_getElem?_getD,List.getElem?_eq_getElem hlt2]; exact List.getElem_mem _
    rw [(HH.out.box _ hkm).1] at hqc hq1
    refine ⟨xb,xf,cb,cf,zo,zc,hs.1,hqs.1,?_,hlt2,hqc,hq1⟩
    rw [hccx,Int.toNat_of_nonneg hx.1]
   have HDT:Hid (∀X u,Mat X.heap.size 26 3 X u (pks ways [] (l.getD k []))→Calls Tryz.prog 21 #[u] X fun e w'=>e=.returned (.int .i64 (detL (pks ways [] (l.getD k []))))∧Below X.heap.size X w'):=fun X u hu=>det_any 60 X.heap.size _ u X hSq hu
   have HSN:Hid (∀j,j < d→pks ways [] ((l.getD k []).take (j+1))=pks ways [] ((l.getD k []).take j) ++ [ways.getD ((l.getD k []).getD j 0).toNat []]):=fun j hj=>pks_snocZ (by rw [hcl]; exact hj)
   have HPL:Hid (∀j,j≤d→(pks ways [] ((l.getD k []).take j)).length=j):=fun j hj=>by rw [pks_lenZ,List.length_take,hcl]; omega
   have HTK:Hid ((l.getD k []).take d=l.getD k []):=List.take_of_length_le (by omega)
   have HFL:Hid (FrL w1 wa (.slice xo (tlS ways (l.take k)).length xc) (tlS ways (l.take k)) vs):=hfl
   have HOY:Hid (wa.ownsRow w1.heap.size 3 1 (.slice yo (tlS ways (l.take k)).length yc) (tlS ways (l.take k)).length (ints ((tlS ways (l.take k)).map (tlA ways)))):=hoy
   have HBA:Hid (Below w1.heap.size w1 wa):=hbr
   have hol:(tlS ways (l.take k)).length≤300000:=Nat.le_trans (tlS_len _ _) (by rw [List.length_take]; omega)
   clear hrv hfl hoy hbr hmem hcl hcr hMx hSq hcc
   generalize l.getD k []=c at *
   generalize hT:tlS ways (l.take k)=T at *
   generalize detL (pks ways [] c)=D at *
   have hkI:(k:Int) < (l.length:Int):=by omega
   have hkI0:(0:Int)≤(k:Int):=by omega
   clear hT
   go_wp2
   go_loopw [10,11] (fun x jv wq=>∃(j:Nat) (ao:Option Addr) (ac:Nat),j≤d∧jv=.int .i64 (j:Int)∧x=.slice ao j ac∧Rws wa.heap.size 26 3 wq (.slice ao j ac) (pks ways [] (c.take j))∧Below wa.heap.size wa wq) (fun _ jv _=>d-(intOf jv).toNat)
   case atStart=>exact ⟨0,none,0,Nat.zero_le _,rfl,rfl,Rws.nil _ _ _ _,Below.refl _ _⟩
   case round=>
    obtain ⟨j,ao,ac,hj,rfl,rfl,hfr,hbr⟩:=hrel
    have HF:Hid (Rws wa.heap.size 26 3 wr (.slice ao j ac) (pks ways [] (c.take j))):=hfr
    have HBR:Hid (Below wa.heap.size wa wr):=hbr
    have HB1r:Hid (Below w1.heap.size w1 wr):=HBA.out.trans (hbr.mono HBA.out.size)
    have HTL:Hid ((pks ways [] (c.take j)).length=j):=HPL.out j hj
    clear hfr hbr
    by_cases hjl:j < d
    ·obtain ⟨xb,xf,cb,cf,zo,zc,hxo,hco,hx1,hx2,hx3,hx4⟩:=HCX.out wr j HB1r.out hjl
     have hx0:=HCC.out wr HB1r.out
     have HTS2:Hid (pks ways [] (c.take (j+1))=pks ways [] (c.take j) ++ [ways.getD (c.getD j 0).toNat []]):=HSN.out j hjl
     obtain ⟨us,g1,g2,g3⟩:=HF.out
     rw [HTL.out] at g1 g2 g3
     have G1:Hid (us.length=j):=g1
     have G2:Hid (wr.ownsRow wa.heap.size 26 1 (.slice ao j ac) j us):=g2
     have G3:Hid (∀i,i < j→Sl wa.heap.size 3 wr (us.getD i (.slice none 0 0)) (ints ((pks ways [] (c.take j)).getD i []))):=g3
     have hjI:(j:Int) < (d:Int):=by omega
     have hjI0:(0:Int)≤(j:Int):=by omega
     have hszr:=HBR.out.size
     have hx2I:((c.getD j 0).toNat:Int) < (ways.length:Int):=by omega
     have HY:Hid (Sl wa.heap.size 3 wr (.slice zo d zc) (ints (ways.getD (c.getD j 0).toNat []))):=hx4.more (Nat.le_trans HB1.out.size HBA.out.size)
     subst hxo hco
     clear g1 g2 g3 hx4 HF
     generalize (c.getD j 0).toNat=q at *
     go_wp2_with (first | (at_builtin; refine wpList_append_own _ rfl _ _ 22 rfl wa.heap.size 26 i0 (.slice none 0 0) 1 24 Tryz.underlying22 hi hz0 hz1 hz2 rfl (by decide) _ _ _ rfl (G2.out.alloc _) ⟨wr.heap.size,0,none⟩ 1 1 [.slice zo d zc] rfl rfl (one_new _ _ _) (one_slice _ _ _) ?d3 ?d4 ?d5 ?_))
     case d3=>unfold maxLen; omega
     case d4=>omega
     case d5=>first | exact hszr | omega | (simp; omega)
     intro v' w7 ho7 hg7 _
     obtain ⟨vo',vc',hv7⟩:=owns_form ho7
     subst hv7
     have R1:Hid (Rws wa.heap.size 26 3 w7 (.slice vo' (j+1) vc') (pks ways [] (c.take (j+1)))):=by
      have hp:=Rws.push (e2:=26) (e1:=3) (m:=pks ways [] (c.take j)) (u:=.slice zo d zc) (zs:=ways.getD q []) (by decide) (by rw [HTL.out]; exact G1.out) (by rw [HTL.out]; exact G2.out.alloc _)
       (fun i hi=>(G3.out i (by rw [HTL.out] at hi; exact hi)).alloc _) (HY.out.alloc _) (by rw [HTL.out]; exact ho7) hg7
      rw [←HTS2.out] at hp
      exact hp
     have R2:Hid (Below wa.heap.size wa w7):=(HBR.out.alloc hszr _).grown hg7 (by simp; omega) (fun x hx=>(G2.out.lt x hx).1)
     clear ho7 hg7
     go_wp2
     exact ⟨⟨j+1,vo',vc',by omega,by go_num,rfl,R1.out,R2.out⟩,by simp [intOf]; omega⟩
    ·have hje:j=d:=by omega
     subst hje
     have HDD:=HDT.out wr _ (by have hh:=HF.out; rw [HTK.out] at hh; exact hh.mat HBR.out.size)
     clear HF HCX HDT HSN HPL
     go_wp2_with fail
     refine HDD.mono ?_
     rintro e w2 ⟨rfl,hb2⟩
     have HBA2:Hid (Below wa.heap.size wa w2):=HBR.out.trans (hb2.mono HBR.out.size)
     have HB12:Hid (Below w1.heap.size w1 w2):=HB1r.out.trans (hb2.mono HB1r.out.size)
     have HF2:Hid (w2.ownsRow w1.heap.size 26 1 (.slice xo T.length xc) T.length vs):=owns_below HFL.out.own HBA2.out (Nat.le_refl _)
     have HY2:Hid (w2.ownsRow w1.heap.size 3 1 (.slice yo T.length yc) T.length (ints (T.map (tlA ways)))):=owns_below HOY.out HBA2.out (Nat.le_refl _)
     have hsz2:=HB12.out.size
     have hc2:=HCC.out w2 HB12.out
     clear hb2 HDD
     by_cases hD:D=0
     ·subst hD
      have hTS:tlS ways (l.take (k+1))=T:=by
       have:=HTS.out
       rw [if_neg (by simp),List.append_nil] at this
       exact this
      have R1:Hid (FrL w1 w2 (.slice xo T.length xc) T vs):=⟨HFL.out.len,HF2.out,HFL.out.sl⟩
      have HTE:Hid (tlS ways (l.take (k+1))=T):=hTS
      clear hTS HTS HTA
      go_wp2
      exact ⟨⟨k+1,xo,xc,yo,yc,vs,hlt,by go_num,by rw [HTE.out],by rw [HTE.out],by rw [HTE.out]; exact R1.out,by rw [HTE.out]; exact HY2.out,HB12.out⟩,by simp [intOf]; omega⟩
     ·have hTS:tlS ways (l.take (k+1))=T ++ [c]:=by
       have:=HTS.out
       rw [if_pos hD] at this
       exact this
      obtain ⟨A,hA⟩:∃A:Int,A=(D.natAbs:Int):=⟨_,rfl⟩
      have HAA:Hid (A=tlA ways c):=by
       show _=_
       rw [HTA.out]; exact hA
      have hA0:0 < A:=by omega
      have hA1:A≤1000000000:=by omega
      have HTE:Hid (tlS ways (l.take (k+1))=T ++ [c]):=hTS
      have HTL2:Hid ((tlS ways (l.take (k+1))).length=T.length+1):=by
       show _=_
       rw [hTS]; simp
      have HFIN:Hid (∀v' w3 u' w5,w3.ownsRow w1.heap.size 26 1 v' (T.length+1) (vs ++ [.slice ca j ccp])→(w2.alloc (.cells #[.slice ca j ccp] 26)).grownBy w3 (Value.slice xo T.length xc).ownBlock→w5.ownsRow w1.heap.size 3 1 u' (T.length+1) (ints (T.map (tlA ways)) ++ [.int .i64 A])→(w3.alloc (.cells #[.int .i64 A] 3)).grownBy w5 (Value.slice yo T.length yc).ownBlock→(w3.ownsRow w1.heap.size 3 1 (.slice yo T.length yc) T.length (ints (T.map (tlA ways))))→Below w1.heap.size w1 w5∧FrL w1 w5 v' (tlS ways (l.take (k+1))) (vs ++ [.slice ca j ccp])∧w5.ownsRow w1.heap.size 3 1 u' (T.length+1) (ints ((tlS ways (l.take (k+1))).map (tlA ways)))):=fun v' w3 u' w5 ho hg ho5 hg5 hy3=>by
       have hb3:Below w1.heap.size w1 w3:=(HB12.out.alloc hsz2 _).grown hg (by simp; omega) (fun x hx=>(HF2.out.lt x hx).1)
       have hb5:Below w1.heap.size w1 w5:=(hb3.alloc hb3.size _).grown hg5 (by simp; have:=hb3.size; omega) (fun x hx=>(hy3.lt x hx).1)
       refine ⟨hb5,?_,?_⟩
       ·have hp:=FrL.push (w3:=w3) (v':=v') (⟨HFL.out.len,HF2.out,HFL.out.sl⟩:FrL w1 w2 (.slice xo T.length xc) T vs) HCV.out ho
        rw [HTE.out]
        refine ⟨hp.len,own_keepS hp.own fun b hb=>?_,hp.sl⟩
        obtain ⟨_,q2,cur,q3⟩:=own_typS hp.own b hb
        refine (hg5.block b (by simp; omega) fun e=>?_).trans (Below.heap_alloc _ _ _ q2)
        obtain ⟨_,_,cur2,q4⟩:=own_typS hy3 b e.symm
        rw [q3] at q4
        simp at q4
       ·rw [HTE.out,List.map_append]
        have e1:ints (T.map (tlA ways) ++ [c].map (tlA ways))=ints (T.map (tlA ways)) ++ [.int .i64 A]:=by rw [HAA.out]; simp [ints]
        rw [e1]
        exact ho5
      have HKY:Hid (∀w3,(w2.alloc (.cells #[.slice ca j ccp] 26)).grownBy w3 (Value.slice xo T.length xc).ownBlock→w3.ownsRow w1.heap.size 3 1 (.slice yo T.length yc) T.length (ints (T.map (tlA ways)))∧w1.heap.size≤w3.heap.size):=fun w3 hg=>by
       refine ⟨own_keepS HY2.out fun b hb=>?_,by have:=hg.size; simp at this; omega⟩
       obtain ⟨_,q2,cur,q3⟩:=own_typS HY2.out b hb
       refine (hg.block b (by simp; omega) fun e=>?_).trans (Below.heap_alloc _ _ _ q2)
       obtain ⟨_,_,cur2,q4⟩:=own_typS HF2.out b e.symm
       rw [q3] at q4
       simp at q4
      clear hTS HTS HTA HTE HFL HOY HTK
      by_cases hneg:D < 0
      ·have hw1:IntKind.wrap .i64 (-D)=A:=by rw [IntKind.wrap_i64]; omega
       clear hA HAA
       go_wp2_with (first | (at_builtin; refine wpList_append_own _ rfl _ _ 22 rfl w1.heap.size 26 i0 (.slice none 0 0) 1 24 Tryz.underlying22 hi hz0 hz1 hz2 rfl (by decide) _ _ _ rfl (HF2.out.alloc _) ⟨w2.heap.size,0,none⟩ 1 1 [.slice ca j ccp] rfl rfl (one_new _ _ _) (one_slice _ _ _) ?d3 ?d4 ?d5 ?_))
       case d3=>unfold maxLen; omega
       case d4=>omega
       case d5=>first | exact hsz2 | omega | (simp; omega)
       intro v' w3 ho hg _
       obtain ⟨no,nc,hnv⟩:=owns_form ho
       subst hnv
       obtain ⟨hy3,hsz3⟩:=HKY.out w3 hg
       have HO3:Hid (w3.ownsRow w1.heap.size 26 1 (.slice no (T.length+1) nc) (T.length+1) (vs ++ [.slice ca j ccp])):=ho
       have HG3:Hid ((w2.alloc (.cells #[.slice ca j ccp] 26)).grownBy w3 (Value.slice xo T.length xc).ownBlock):=hg
       have HY3:Hid (w3.ownsRow w1.heap.size 3 1 (.slice yo T.length yc) T.length (ints (T.map (tlA ways)))):=hy3
       clear ho hg hy3 hc2
       go_wp2_with (first | (at_builtin; refine wpList_append_own _ rfl _ _ 26 rfl w1.heap.size 3 i3 (.int .i64 0) 1 8 Tryz.underlying26 hi3 hz30 hz31 hz32 rfl (by decide) _ _ _ rfl (HY3.out.alloc _) ⟨w3.heap.size,0,none⟩ 1 1 [.int .i64 A] rfl rfl (one_new _ _ _) (one_int _) ?e3 ?e4 ?e5 ?_))
       case e3=>unfold maxLen; omega
       case e4=>omega
       case e5=>first | exact hsz3 | omega | (simp; omega)
       intro u' w5 ho5 hg5 _
       obtain ⟨mo,mc,hmv⟩:=owns_form ho5
       subst hmv
       obtain ⟨r1,r2,r3⟩:=HFIN.out _ w3 _ w5 HO3.out HG3.out ho5 hg5 HY3.out
       have R1:Hid (Below w1.heap.size w1 w5):=r1
       have R2:Hid (FrL w1 w5 (.slice no (T.length+1) nc) (tlS ways (l.take (k+1))) (vs ++ [.slice ca j ccp])):=r2
       have R3:Hid (w5.ownsRow w1.heap.size 3 1 (.slice mo (T.length+1) mc) (T.length+1) (ints ((tlS ways (l.take (k+1))).map (tlA ways)))):=r3
       clear r1 r2 r3 ho5 hg5
       go_wp2
       exact ⟨⟨k+1,no,nc,mo,mc,_,hlt,by go_num,by rw [HTL2.out],by rw [HTL2.out],by rw [HTL2.out]; exact R2.out,by rw [HTL2.out]; exact R3.out,R1.out⟩,by simp [intOf]; omega⟩
      ·have hAD:A=D:=by omega
       subst hAD
       clear hA HAA
       go_wp2_with (first | (at_builtin; refine wpList_append_own _ rfl _ _ 22 rfl w1.heap.size 26 i0 (.slice none 0 0) 1 24 Tryz.underlying22 hi hz0 hz1 hz2 rfl (by decide) _ _ _ rfl (HF2.out.alloc _) ⟨w2.heap.size,0,none⟩ 1 1 [.slice ca j ccp] rfl rfl (one_new _ _ _) (one_slice _ _ _) ?d3 ?d4 ?d5 ?_))
       case d3=>unfold maxLen; omega
       case d4=>omega
       case d5=>first | exact hsz2 | omega | (simp; omega)
       intro v' w3 ho hg _
       obtain ⟨no,nc,hnv⟩:=owns_form ho
       subst hnv
       obtain ⟨hy3,hsz3⟩:=HKY.out w3 hg
       have HO3:Hid (w3.ownsRow w1.heap.size 26 1 (.slice no (T.length+1) nc) (T.length+1) (vs ++ [.slice ca j ccp])):=ho
       have HG3:Hid ((w2.alloc (.cells #[.slice ca j ccp] 26)).grownBy w3 (Value.slice xo T.length xc).ownBlock):=hg
       have HY3:Hid (w3.ownsRow w1.heap.size 3 1 (.slice yo T.length yc) T.length (ints (T.map (tlA ways)))):=hy3
       clear ho hg hy3 hc2
       go_wp2_with (first | (at_builtin; refine wpList_append_own _ rfl _ _ 26 rfl w1.heap.size 3 i3 (.int .i64 0) 1 8 Tryz.underlying26 hi3 hz30 hz31 hz32 rfl (by decide) _ _ _ rfl (HY3.out.alloc _) ⟨w3.heap.size,0,none⟩ 1 1 [.int .i64 A] rfl rfl (one_new _ _ _) (one_int _) ?e3 ?e4 ?e5 ?_))
       case e3=>unfold maxLen; omega
       case e4=>omega
       case e5=>first | exact hsz3 | omega | (simp; omega)
       intro u' w5 ho5 hg5 _
       obtain ⟨mo,mc,hmv⟩:=owns_form ho5
       subst hmv
       obtain ⟨r1,r2,r3⟩:=HFIN.out _ w3 _ w5 HO3.out HG3.out ho5 hg5 HY3.out
       have R1:Hid (Below w1.heap.size w1 w5):=r1
       have R2:Hid (FrL w1 w5 (.slice no (T.length+1) nc) (tlS ways (l.take (k+1))) (vs ++ [.slice ca j ccp])):=r2
       have R3:Hid (w5.ownsRow w1.heap.size 3 1 (.slice mo (T.length+1) mc) (T.length+1) (ints ((tlS ways (l.take (k+1))).map (tlA ways)))):=r3
       clear r1 r2 r3 ho5 hg5
       go_wp2
       exact ⟨⟨k+1,no,nc,mo,mc,_,hlt,by go_num,by rw [HTL2.out],by rw [HTL2.out],by rw [HTL2.out]; exact R2.out,by rw [HTL2.out]; exact R3.out,R1.out⟩,by simp [intOf]; omega⟩
  ·have hte:l.take k=l:=List.take_of_length_le (by omega)
   rw [hte] at hfl hoy ⊢
   have HFM:Hid (Mat 0 26 3 wa (.slice xo (tlS ways l).length xc) (tlS ways l)):=hfl.mat hbr
   have HSM:Hid (Sl 0 3 wa (.slice yo (tlS ways l).length yc) (ints ((tlS ways l).map (tlA ways)))):=Sl.own hoy
   have HBF:Hid (Below w.heap.size w wa):=HB1.out.trans (hbr.mono HB1.out.size)
   clear hfl hoy hbr hte
   go_wp2
   go_ret2
   exact ⟨xo,xc,yo,yc,rfl,HFM.out,HSM.out,HBF.out⟩
end Go.Proofs.YtcoeneldaohpnaaGreat
