import Derived.Test.YtdanomklbiidaaaGreatDoorMgBL
import Derived.Test.YtdanomklbiidaaaGreatDoorHm7
import Derived.Test.YtdanomklbiidaaaGreatDoorMgAA
import Derived.Deep.Matrix
import Derived.Carry
import Derived.Test.YtdanomklbiidaaaGreatDoorMgAI
namespace Go.Proofs.YtdanomklbiidaaaGreatDoor
open Go.RowKit Lin
attribute [local go_sem ↓] Go.wp_at_zero Go.wp_at_succ
theorem Fr.mat0C {B:Nat} {w:World} {v:Value} {m:List (List Int)} (h:Fr B 22 3 w v m):Mat 0 22 3 w v m:=by
 obtain ⟨vs,h1,h2,h3⟩:=h
 exact ⟨vs,h1,Sl.own h2,h3⟩
theorem col_snoc {h:List (List Int)} {k:Nat} (hk:k < h.length):(h.map fun r=>r.getD 0 0).take (k+1)=(h.map fun r=>r.getD 0 0).take k ++ [(h.getD k []).getD 0 0]:=by
 rw [List.take_succ_eq_append_getElem (by simpa using hk)]
 simp [hk]
theorem ls_take {α:Type} (f:α→Int) (l:List α) (d:α) {k:Nat} (hk:k < l.length):Pick.ls (l.take (k+1)) f=Pick.ls (l.take k) f+f (l.getD k d):=by
 unfold Pick.ls
 rw [List.take_succ_eq_append_getElem hk,List.map_append,List.sum_append]
 simp [hk]
theorem ls_take_bd {α:Type} (f:α→Int) (l:List α) (B:Nat) (h:∀x∈l,0≤f x∧f x≤B) (k:Nat) (hl:l.length≤400000) (hB:B≤200000000000):0≤Pick.ls (l.take k) f∧Pick.ls (l.take k) f≤80000000000000000:=by
 have h1:=sum_bdQ f B (l.take k) fun x hx=>h x (List.mem_of_mem_take hx)
 have h2:(l.take k).length≤400000:=by rw [List.length_take]; omega
 unfold Pick.ls
 have h3:(B:Int)*((l.take k).length:Nat)≤200000000000*400000:=Int.mul_le_mul (by omega) (by omega) (by omega) (by omega)
 omega
set_option maxRecDepth 100000 in
set_option maxHeartbeats 1200000 in
theorem topRegular_any (B:Nat) (raw hts:List Int) (m0:Int) (v u:Value) (w:World) (hv:Sl B 3 w v (ints raw)) (hu:Sl B 3 w u (ints hts)) (hr:∀z∈raw,In64 z) (hh:∀z∈hts,In64 z) (hm:In64 m0) (hT:TabB w) :
  Calls Tryz.prog 3 #[v,.int .i64 m0,u] w fun e w'=>e=.returned (.bool true)∧Below w.heap.size w w':=by
 obtain ⟨ao,cap,hvv,hlc,hcm⟩:=sl_open hv
 subst hvv
 obtain ⟨i3,hi3,hz30,hz31,hz32⟩:=info_parts Tryz.info3
 obtain ⟨i0,hi0,hz0,hz1,hz2⟩:=info_parts Tryz.info22
 obtain ⟨bo,cbp,huu,hlb,hcb⟩:=sl_open hu
 subst huu
 have HV:Hid (Sl B 3 w (.slice ao raw.length cap) (ints raw)):=hv
 have HU:Hid (Sl B 3 w (.slice bo hts.length cbp) (ints hts)):=hu
 have HR:Hid (∀z∈raw,In64 z):=hr
 have HH:Hid (∀z∈hts,In64 z):=hh
 have HM:Hid (In64 m0):=hm
 have HT:Hid (TabB w):=hT
 clear hv hu hr hh hm hT
 obtain ⟨sv,hsv⟩:∃sv,IntKind.i64.wrap ((raw.length:Int)+(hts.length:Int))=sv:=⟨_,rfl⟩
 have hrl:raw.length≤9223372036854775807:=by omega
 have hxl:hts.length≤9223372036854775807:=by omega
 by_cases hb:256 < sv
 ·go_enter Tryz.func3,Tryz.ntmps3
  go_wp2
  go_ret
  exact ⟨rfl,Below.refl _ _⟩
 ·have HRL:Hid (raw.length≤9223372036854775807):=hrl
  have HXL:Hid (hts.length≤9223372036854775807):=hxl
  go_enter Tryz.func3,Tryz.ntmps3
  go_wp2_with fail
  refine (pick_any m0 5 w (by omega) (by omega) HM.out).mono ?_
  rintro e w2 ⟨y,rfl,hy,rfl⟩
  obtain ⟨mn,hmn⟩:∃mn:Nat,(mn:Int)=3+y:=⟨(3+y).toNat,by omega⟩
  have hy1:=hy.1
  have hy2:=hy.2
  have HMN:Hid ((mn:Int)=3+y):=hmn
  have hmn7:mn≤7:=by omega
  have hmn3:3≤mn:=by omega
  clear hy hmn
  go_wp2_with fail
  rw [←HMN.out]
  refine (pointsOfW_any B raw _ 0 2 mn 3 w2 HV.out HR.out HRL.out (by decide) (by decide) (by omega) (by decide)).mono ?_
  rintro e w3 ⟨x3,m,rfl,hml,hbx,hfr3,hb3⟩
  clear hy1 hy2 HMN
  subst hml
  obtain ⟨xo3,xc3,rfl,_,_⟩:=fr_open hfr3
  have HSO:=sortR_any w3.heap.size m (.slice xo3 m.length xc3) w3 ((hfr3.mat0C).any (Nat.le_refl _)) (by omega) (fun r hr=>by have:=(hbx r hr).1; omega)
  have HB3:Hid (Below w2.heap.size w2 w3):=hb3
  clear hfr3 hb3
  go_wp2_with fail
  refine HSO.mono ?_
  rintro e w4 ⟨x4,P,rfl,hfr4,hasc,hmem,hb4⟩
  have hbx2:Box 2 30 P:=fun r hr=>by
   have h:=hbx r ((hmem r).1 hr)
   exact ⟨h.1,fun z hz=>by have:=h.2 z hz; omega⟩
  have hn7:P.length≤7:=by
   have:=nodup_lenL P m (SAsc.nodup hasc) fun r hr=>(hmem r).1 hr
   omega
  have hnd:P.Nodup:=SAsc.nodup hasc
  have HPM:Hid (Mat w4.heap.size 22 3 w4 x4 P):=(hfr4.mat0C).any (Nat.le_refl _)
  have HB4:Hid (Below w2.heap.size w2 w4):=HB3.out.trans (hb4.mono HB3.out.size)
  have HBX:Hid (Box 2 30 P):=hbx2
  have HND:Hid (P.Nodup):=hnd
  obtain ⟨po,pc,rfl,hpl,hpm⟩:=mat_open HPM.out
  clear hfr4 hasc hmem hb4 hbx hbx2 hnd HB3
  have HPO:=pointsOfW_any B hts _ 0 1 P.length 20 w4 (HU.out.below HB4.out (Nat.le_refl _)) HH.out HXL.out (by decide) (by decide) (by omega) (by decide)
  go_wp2_with fail
  refine HPO.mono ?_
  rintro e w5 ⟨x5,h,rfl,hhl,hhb,hfr5,hb5⟩
  have HHM:Hid (Mat w5.heap.size 22 3 w5 x5 h):=(hfr5.mat0C).any (Nat.le_refl _)
  have HB5:Hid (Below w4.heap.size w4 w5):=hb5
  have HHL:Hid (h.length=P.length):=hhl
  have HHB:Hid (Box 1 20 h):=hhb
  obtain ⟨ho,hc,rfl,hhc,hhm⟩:=mat_open HHM.out
  clear hfr5 hb5 hhb HPO
  obtain ⟨hs,hhs⟩:∃hs,hs=h.map fun r=>r.getD 0 0:=⟨_,rfl⟩
  have HHS:Hid (hs=h.map fun r=>r.getD 0 0):=hhs
  clear hhs
  have hhn:h.length≤7:=by omega
  clear hhl
  go_wp2
  go_loopw [9,10] (fun s i wr=>∃k:Nat,k≤h.length∧i=.int .i64 k∧wr.ownsRow w5.heap.size 3 1 s k (ints (hs.take k))∧Below w5.heap.size w5 wr) (fun _ i _=>h.length-(intOf i).toNat)
  case atStart=>exact ⟨0,Nat.zero_le _,rfl,World.ownsRow_nil _ _ _ _,Below.refl _ _⟩
  case round=>
   obtain ⟨k,hk,rfl,ho',hb'⟩:=hrel
   have HO:Hid (wr.ownsRow w5.heap.size 3 1 u9 k (ints (hs.take k))):=ho'
   have HB:Hid (Below w5.heap.size w5 wr):=hb'
   clear ho' hb'
   by_cases hlt:k < h.length
   ·obtain ⟨b1,o,cp,r1,hsq,hc1,hcc,hr1⟩:=mat_cell (HHM.out.below HB.out (Nat.le_refl _)) hlt
    simp only [Value.slice.injEq] at hsq
    obtain ⟨rfl,hxx,rfl⟩:=hsq
    clear hxx
    have hx1:(h.getD k []).length=1:=(HHB.out (h.getD k []) (by simp [hlt])).1
    have HSN:Hid (hs.take (k+1)=hs.take k ++ [(h.getD k []).getD 0 0]):=by
     show _=_
     rw [HHS.out]
     exact col_snoc hlt
    obtain ⟨rb,rf,rc,hre,hrc,hrc0⟩:=sl_cell hr1 (k:=0) (by omega)
    subst hre
    rw [hx1] at hcc
    rw [Nat.add_zero] at hrc0
    generalize (h.getD k []).getD 0 0=z at *
    rw [hx1] at hrc
    obtain ⟨o2,oc2,hu2⟩:=owns_form HO.out
    subst hu2
    have hszr:=HB.out.size
    clear hr1 hx1
    go_wp2_with (first | (at_builtin; refine wpList_append_own _ rfl _ _ 22 rfl w5.heap.size 3 i3 (.int .i64 0) 1 8 Tryz.underlying22 hi3 hz30 hz31 hz32 rfl (by decide) _ _ _ rfl (HO.out.alloc _) ⟨wr.heap.size,0,none⟩ 1 1 [.int .i64 z] rfl rfl (one_new _ _ _) (one_int _) ?c3 ?c4 ?c5 ?_))
    case c3=>unfold maxLen; omega
    case c4=>omega
    case c5=>first | exact hszr | (simp; omega)
    intro v2 w7 ho hg _
    have R1:Hid (w7.ownsRow w5.heap.size 3 1 v2 (k+1) (ints (hs.take (k+1)))):=by
     show World.ownsRow _ _ _ _ _ _ _
     rw [HSN.out,←ints_snoc]
     exact ho
    have R2:Hid (Below w5.heap.size w5 w7):=(HB.out.alloc HB.out.size _).grown hg (by have:=HB.out.size; simp; omega) (fun z hz=>(HO.out.lt z hz).1)
    clear ho hg
    go_wp2
    go_roundw
    case rel=>exact ⟨k+1,by omega,by go_num,R1.out,R2.out⟩
    case measure=>simp [intOf]; omega
   ·have hke:k=h.length:=by omega
    rw [hke] at HO
    have hsl:hs.length=h.length:=by rw [HHS.out,List.length_map]
    have hlP:h.length=P.length:=HHL.out
    have hst:hs.take h.length=hs:=List.take_of_length_le (by omega)
    rw [hst] at HO
    obtain ⟨o2,oc2,hu2⟩:=owns_form HO.out
    subst hu2
    have hbh:∀z∈hs,z.natAbs≤20:=fun z hz=>by
     rw [HHS.out] at hz
     obtain ⟨r,hr,rfl⟩:=List.mem_map.1 hz
     have hb:=HHB.out r hr
     have:=hb.2 (r.getD 0 0) (getD_mem (by rw [hb.1]; decide))
     omega
    have HPR:Hid (Mat wr.heap.size 22 3 wr (.slice po P.length pc) P):=(((HPM.out.below HB5.out (Nat.le_refl _)).any (Nat.le_refl _)).below HB.out (Nat.le_refl _)).any (Nat.le_refl _)
    have HSS:Hid (Sl wr.heap.size 3 wr (.slice o2 h.length oc2) (ints hs)):=(show Sl w5.heap.size 3 wr (.slice o2 h.length oc2) (ints hs) from Sl.own HO.out).any (Nat.le_refl _)
    have HCK:Hid (∀X,Below wr.heap.size wr X→Calls Tryz.prog 8 #[.slice po P.length pc] X fun e w'=>e=.returned (.int .i64 (ckE P))∧Below X.heap.size X w'):=fun X hX=>cellCheck_any P _ X ((HPR.out.below hX (Nat.le_refl _)).any (Nat.le_refl _)) HBX.out hn7 HND.out
    have HRG:Hid (Calls Tryz.prog 7 #[.slice po P.length pc,.slice o2 h.length oc2] wr fun e w'=>(ckE P≠0∧e=.returned (.tuple #[.slice none 0 0,.int .i64 (ckE P)])∨ckE P=0∧∃y m',e=.returned (.tuple #[y,.int .i64 0])∧Fr wr.heap.size 22 3 w' y m'∧Inor m' (rgL P (lifL P hs) (ext P.length 3 0)))∧Below wr.heap.size wr w'):=regular_any P hs (.slice po P.length pc) (.slice o2 h.length oc2) (ckE P) wr HPR.out HSS.out HBX.out (by omega) (by omega) hbh HCK.out
    have HBR:Hid (Below w2.heap.size w2 wr):=HB4.out.trans ((HB5.out.mono HB4.out.size).trans (HB.out.mono (Nat.le_trans HB4.out.size HB5.out.size)))
    have HTR:Hid (TabB wr):=HT.out.below HBR.out
    have HKE:Hid (ckE P=if P.length < 3 then 2 else if (pickL 2 (diffL P)).length=2 then 0 else 5):=rfl
    clear hst hsl hlP hbh HSS HO HB HB5 HHM HPM HHB HHL HHS hke
    generalize ckE P=ck at *
    go_wp2_with fail
    refine HRG.out.mono ?_
    rintro e w8 ⟨hcase,hb8⟩
    have HB8:Hid (Below wr.heap.size wr w8):=hb8
    have HBW8:Hid (Below w2.heap.size w2 w8):=HBR.out.trans (hb8.mono HBR.out.size)
    clear hb8 HRG
    rcases hcase with ⟨hck,rfl⟩ | ⟨hck,y,m',rfl,hfr,hin⟩
    ·have HK:=HCK.out w8 HB8.out
     have hcb:(ck != 0)=true:=by simpa using hck
     clear HCK HKE
     go_wp2_with fail
     refine HK.mono ?_
     rintro e w9 ⟨rfl,hb9⟩
     have HB9:Hid (Below w2.heap.size w2 w9):=HBW8.out.trans (hb9.mono HBW8.out.size)
     clear hb9 HK
     go_wp2
     go_ret
     exact ⟨by simp,HB9.out⟩
    ·subst hck
     have hg:Good 2 P:=by
      have h0:=HKE.out
      by_cases h3:P.length < 3
      ·rw [if_pos h3] at h0; omega
      ·rw [if_neg h3] at h0
       by_cases hf:(pickL 2 (diffL P)).length=2
       ·exact ⟨by decide,by decide,by omega,by omega,HBX.out,hf⟩
       ·rw [if_neg hf] at h0; omega
     obtain ⟨⟨hsum,hne⟩,hcell⟩:=regular_fill hg HBX.out hs hin
     have hml:m'.length≤400000:=by
      have h1:=hin.len
      have h2:=rgL_len P (lifL P hs) (ext P.length 3 0)
      have h3:(ext P.length 3 0).length≤400000:=ext_lenW (e:=3) (Nat.le_trans hn7 (by decide)) (by omega)
      omega
     have HCO:Hid (∀c∈m',(∀z∈c,0≤z∧z < (P.length:Int))∧Good 2 (pks P [] c)∧c.length≤P.length):=fun c hc=>cell_ok hg (hcell c hc)
     have HLB:Hid (∀k,0≤Pick.ls (m'.take k) (fun c=>arQ (pks P [] c))∧Pick.ls (m'.take k) (fun c=>arQ (pks P [] c))≤80000000000000000):=fun k=>
      ls_take_bd _ m' 200000000000 (fun c hc=>by
       obtain ⟨_,h2,h3⟩:=HCO.out c hc
       exact arQ_bd h2 (by rw [pks_len]; omega)) k hml (Nat.le_refl _)
     have HLS:Hid (∀k,k < m'.length→Pick.ls (m'.take (k+1)) (fun c=>arQ (pks P [] c))=Pick.ls (m'.take k) (fun c=>arQ (pks P [] c))+arQ (pks P [] (m'.getD k []))):=fun k hk=>ls_take _ m' [] hk
     have HL0:Hid (Pick.ls (m'.take 0) (fun c=>arQ (pks P [] c))=0):=by show _=_; simp [Pick.ls]
     have HLE:Hid (Pick.ls (m'.take m'.length) (fun c=>arQ (pks P [] c))=arQ P):=by show _=_; rw [List.take_length]; exact hsum
     have HNE:Hid (0 < m'.length):=List.length_pos_iff.2 hne
     have HLM:Hid (Mat w8.heap.size 22 3 w8 y m'):=(hfr.mat0C).any (Nat.le_refl _)
     have HVP:Hid (∀X,Below w8.heap.size w8 X→Calls Tryz.prog 9 #[.agg #[.int .i64 2,.slice po P.length pc]] X fun e w'=>e=.returned (.tuple #[.int .i64 (arQ P),.int .i64 0])∧Below X.heap.size X w'):=fun X hX=>volQ_any P _ X ((((HPR.out.below HB8.out (Nat.le_refl _)).any (Nat.le_refl _)).below hX (Nat.le_refl _)).any (Nat.le_refl _)) hg (by omega) ((HT.out.below HBW8.out).below hX)
     have HVC:Hid (∀k,k < m'.length→∀X zo zc,Below w8.heap.size w8 X→Mat X.heap.size 22 3 X (.slice zo (m'.getD k []).length zc) (pks P [] (m'.getD k []))→Calls Tryz.prog 9 #[.agg #[.int .i64 2,.slice zo (m'.getD k []).length zc]] X fun e w'=>e=.returned (.tuple #[.int .i64 (arQ (pks P [] (m'.getD k []))),.int .i64 0])∧Below X.heap.size X w'):=fun k hk X zo zc hX hM=>by
      obtain ⟨_,h2,h3⟩:=HCO.out (m'.getD k []) (by simp [hk])
      exact volQ_any _ _ X hM h2 (by rw [pks_len]; omega) ((HT.out.below HBW8.out).below hX)
     have HP8:Hid (Mat w8.heap.size 22 3 w8 (.slice po P.length pc) P):=(HPR.out.below HB8.out (Nat.le_refl _)).any (Nat.le_refl _)
     obtain ⟨yo,yc,rfl,hyc,hyc2⟩:=mat_open HLM.out
     clear hfr hin hsum hne hcell HCK HKE HPR HB8 HTR hg
     generalize hF:(fun k=>Pick.ls (m'.take k) (fun c=>arQ (pks P [] c)))=F at *
     have HF:Hid (∀k,Pick.ls (m'.take k) (fun c=>arQ (pks P [] c))=F k):=fun k=>by rw [←hF]
     clear hF
     have HFB:Hid (∀k,0≤F k∧F k≤80000000000000000):=fun k=>by rw [←HF.out k]; exact HLB.out k
     have HFS:Hid (∀k,k < m'.length→F (k+1)=F k+arQ (pks P [] (m'.getD k []))):=fun k hk=>by rw [←HF.out k,←HF.out (k+1)]; exact HLS.out k hk
     have HF0:Hid (F 0=0):=by show _=_; rw [←HF.out 0]; exact HL0.out
     have HFE:Hid (F m'.length=arQ P):=by show _=_; rw [←HF.out]; exact HLE.out
     clear HLB HLS HL0 HLE HF
     go_wp2
     go_loopw [13,14,15,16] (fun s i _ _ wq=>∃k:Nat,k≤m'.length∧i=.int .i64 k∧s=.int .i64 (F k)∧Below w8.heap.size w8 wq) (fun _ i _ _ _=>m'.length-(intOf i).toNat)
     case atStart=>exact ⟨0,Nat.zero_le _,rfl,by rw [HF0.out],Below.refl _ _⟩
     case round=>
      obtain ⟨k,hk,rfl,rfl,hbq⟩:=hrel
      obtain ⟨wa,rfl⟩:∃wa,wa=wr:=⟨wr,rfl⟩
      have HBQ:Hid (Below w8.heap.size w8 wa):=hbq
      clear hbq
      by_cases hlt2:k < m'.length
      ·obtain ⟨yb,yf,ycc,r1,hye,hyc1,hycell,hr1⟩:=mat_cell (HLM.out.below HBQ.out (Nat.le_refl _)) hlt2
       simp only [Value.slice.injEq,true_and] at hye
       obtain ⟨rfl,rfl⟩:=hye
       have HVK:Hid (∀X zo zc,Below w8.heap.size w8 X→Mat X.heap.size 22 3 X (.slice zo (m'.getD k []).length zc) (pks P [] (m'.getD k []))→Calls Tryz.prog 9 #[.agg #[.int .i64 2,.slice zo (m'.getD k []).length zc]] X fun e w'=>e=.returned (.tuple #[.int .i64 (arQ (pks P [] (m'.getD k []))),.int .i64 0])∧Below X.heap.size X w'):=HVC.out k hlt2
       have HFK:Hid (F (k+1)=F k+arQ (pks P [] (m'.getD k []))):=HFS.out k hlt2
       have HCK2:Hid ((∀z∈m'.getD k [],0≤z∧z < (P.length:Int))∧(m'.getD k []).length≤P.length):=⟨(HCO.out (m'.getD k []) (by simp [hlt2])).1,(HCO.out (m'.getD k []) (by simp [hlt2])).2.2⟩
       have HR1:Hid (Sl w8.heap.size 3 wa r1 (ints (m'.getD k []))):=hr1
       obtain ⟨co,cc,hre,_,_⟩:=sl_open hr1
       subst hre
       clear hr1
       generalize m'.getD k []=c at *
       go_wp2
       go_loopw [15,16] (fun p j wq=>∃q:Nat,q≤c.length∧j=.int .i64 q∧Rws wa.heap.size 22 3 wq p (pks P [] (c.take q))∧Below wa.heap.size wa wq) (fun _ j _=>c.length-(intOf j).toNat)
       case atStart=>exact ⟨0,Nat.zero_le _,rfl,Rws.nil _ _ _ _,Below.refl _ _⟩
       case round=>
        obtain ⟨q,hq,rfl,hrw,hbq⟩:=hrel
        have HRW:Hid (Rws wa.heap.size 22 3 wr u15 (pks P [] (c.take q))):=hrw
        have HBA:Hid (Below wa.heap.size wa wr):=hbq
        have HB8R:Hid (Below w8.heap.size w8 wr):=HBQ.out.trans (hbq.mono HBQ.out.size)
        have hsz:wa.heap.size≤wr.heap.size:=hbq.size
        have hycr:wr.cell? ⟨yb,yf+k,none⟩=some (.slice co c.length cc):=(hbq.cell (lt_of_cell hycell)).trans hycell
        clear hrw hbq
        by_cases hlt3:q < c.length
        ·obtain ⟨rb,rf,rc,hre,hrc,hrcq⟩:=sl_cell (HR1.out.below HBA.out (Nat.le_refl _)) hlt3
         simp only [Value.slice.injEq,true_and] at hre
         obtain ⟨rfl,rfl⟩:=hre
         obtain ⟨hc0,hc1⟩:=HCK2.out.1 (c.getD q 0) (by simp [hlt3])
         have HSN:Hid (pks P [] (c.take (q+1))=pks P [] (c.take q) ++ [P.getD (c.getD q 0).toNat []]):=pks_snocP P c q hlt3
         have HLN:Hid ((pks P [] (c.take q)).length=q):=by show _=_; simp [pks]; omega
         obtain ⟨g,hg⟩:∃g:Nat,c.getD q 0=(g:Int):=⟨(c.getD q 0).toNat,by omega⟩
         rw [hg] at hrcq hc0 hc1 HSN
         rw [show ((g:Int)).toNat=g by omega] at HSN
         clear hg
         have hgP:g < P.length:=by omega
         have hcl:c.length≤P.length:=HCK2.out.2
         obtain ⟨pb,pf,cp2,r2,hs2,_,hcc2,hr2⟩:=mat_cell (HP8.out.below HB8R.out (Nat.le_refl _)) hgP
         simp only [Value.slice.injEq,true_and] at hs2
         obtain ⟨rfl,rfl⟩:=hs2
         obtain ⟨ro,rc2,hrv,_,_⟩:=sl_open hr2
         subst hrv
         have HR2:Hid (Sl w8.heap.size 3 wr (.slice ro (P.getD g []).length rc2) (ints (P.getD g []))):=hr2
         clear hr2
         generalize P.getD g []=y at *
         generalize hyl:y.length=yl at *
         clear hyl
         obtain ⟨vs,g1,g2,g3⟩:=HRW.out
         have hlen:=HLN.out
         rw [hlen] at g1 g2 g3
         have G1:Hid (vs.length=q):=g1
         have G2:Hid (wr.ownsRow wa.heap.size 22 1 u15 q vs):=g2
         have G3:Hid (∀i,i < q→Sl wa.heap.size 3 wr (vs.getD i (.slice none 0 0)) (ints ((pks P [] (c.take q)).getD i []))):=g3
         clear g1 g2 g3 hlen
         have hnlt:¬(g:Int) < 0:=by omega
         have hnge:¬(P.length:Int)≤(g:Int):=by omega
         go_wp2_with (first | (at_builtin; refine wpList_append_own _ rfl _ _ 23 rfl wa.heap.size 22 i0 (.slice none 0 0) 1 24 Tryz.underlying23 hi0 hz0 hz1 hz2 rfl (by decide) _ _ _ rfl (G2.out.alloc _) ⟨wr.heap.size,0,none⟩ 1 1 [.slice ro yl rc2] rfl rfl (one_new _ _ _) (one_slice _ _ _) ?d3 ?d4 ?d5 ?_))
         case d3=>unfold maxLen; omega
         case d4=>omega
         case d5=>first | exact hsz | omega | (simp; omega)
         intro v' w9 ho hg _
         have R1:Hid (Rws wa.heap.size 22 3 w9 v' (pks P [] (c.take (q+1)))):=by
          have hp:=Rws.push (e2:=22) (e1:=3) (m:=pks P [] (c.take q)) (u:=.slice ro yl rc2) (zs:=y) (by decide) (by rw [HLN.out]; exact G1.out) (by rw [HLN.out]; exact G2.out.alloc _)
           (fun i hi=>(G3.out i (by rw [HLN.out] at hi; exact hi)).alloc _) ((HR2.out.more HBQ.out.size).alloc _) (by rw [HLN.out]; exact ho) hg
          rw [←HSN.out] at hp
          exact hp
         have R2:Hid (Below wa.heap.size wa w9):=(HBA.out.alloc hsz _).grown hg (by simp; omega) (fun x hx=>(G2.out.lt x hx).1)
         clear ho hg
         go_wp2
         go_roundw
         case rel=>exact ⟨q+1,by omega,by go_num,R1.out,R2.out⟩
         case measure=>simp [intOf]; omega
        ·have hqe:q=c.length:=by omega
         have hM:Mat wr.heap.size 22 3 wr u15 (pks P [] c):=by
          have:=HRW.out
          rw [hqe,List.take_length] at this
          exact this.mat hsz
         obtain ⟨zo,zc,hzv,_,_⟩:=mat_open hM
         rw [pks_len] at hzv
         subst hzv
         have HVW:Hid (∀X,Below wr.heap.size wr X→Calls Tryz.prog 9 #[.agg #[.int .i64 2,.slice zo c.length zc]] X fun e w'=>e=.returned (.tuple #[.int .i64 (arQ (pks P [] c)),.int .i64 0])∧Below X.heap.size X w'):=fun X hX=>HVK.out X zo zc (HB8R.out.trans (hX.mono HB8R.out.size)) (((hM.below hX (Nat.le_refl _))).any (Nat.le_refl _))
         have hf1:=HFB.out k
         have hf2:=HFB.out (k+1)
         have hf3:=HFK.out
         clear hM HVK HRW hqe
         generalize arQ (pks P [] c)=a at *
         generalize F k=fk at *
         have ha1:0≤fk+a∧fk+a≤80000000000000000:=by omega
         clear hf3
         go_wp2_with fail
         refine (HVW.out _ (by first | exact Below.refl _ _ | exact (Below.refl _ _).alloc (Nat.le_refl _) _)).mono ?_
         rintro e w9 ⟨rfl,hb9⟩
         have HB9:Hid (Below w8.heap.size w8 w9):=HB8R.out.trans (hb9.mono HB8R.out.size)
         clear hb9 HVW hycr
         go_wp2
         go_roundw
         case rel=>exact ⟨k+1,by omega,by go_num,by rw [HFK.out],HB9.out⟩
         case measure=>simp [intOf]; omega
      ·have hke2:k=m'.length:=by omega
       have HVW:=HVP.out
       have hF2:F k=arQ P:=by rw [hke2]; exact HFE.out
       rw [hF2]
       have hne:=HNE.out
       clear hke2 hF2
       generalize arQ P=a at *
       go_wp2_with fail
       refine (HVW _ (by first | exact HBQ.out | exact HBQ.out.alloc HBQ.out.size _)).mono ?_
       rintro e w9 ⟨rfl,hb9⟩
       have HB9:Hid (Below w2.heap.size w2 w9):=HBW8.out.trans ((HBQ.out.trans (hb9.mono HBQ.out.size)).mono HBW8.out.size)
       clear hb9
       go_wp2
       go_ret
       exact ⟨by simp,HB9.out⟩
end Go.Proofs.YtdanomklbiidaaaGreatDoor

namespace Go.Proofs.YtdanomklbiidaaaGreatDoor
open Go.ChangeShapes Go.WideShapes Go.RowKit Go.Deep
theorem Tryz.cells3:Tryz.prog.cellsOf 3=1:=by kernel_rfl
theorem Tryz.laidOut:laidOutB Tryz.prog=true:=by kernel_rfl
theorem addr_none {w:World} {a:Addr} {u:Value} (h:w.cell? a=some u):a=⟨a.block,a.off,none⟩:=by
 obtain ⟨b,o,s⟩:=a
 cases s with
 | none=>rfl
 | some s=>
  exfalso
  unfold World.cell? at h
  split at h <;> simp at h
theorem sl_of_cells {w:World} {a:Addr} {len cap:Nat} {e:TypeId} {xs:List Value} (hl:xs.length=len) (h1:len≤cap) (h2:cap≤maxLen) (hc:∀i,i < len→w.cell? (a.add i)=xs[i]?):Sl w.heap.size e w (.slice (some a) len cap) xs:=by
 refine ⟨some a,cap,by rw [hl],by omega,h2,fun i hi=>?_,fun h=>by cases h⟩
 have hi':i < len:=by omega
 have hx:xs[i]?=some xs[i]:=List.getElem?_eq_getElem hi
 have hz:xs[0]?=some xs[0]:=List.getElem?_eq_getElem (by omega)
 have h0:=hc i hi'
 have ha:a=⟨a.block,a.off,none⟩:=addr_none (u:=xs[0]) (by have:=hc 0 (by omega); rw [hz] at this; simpa [Addr.add] using this)
 obtain ⟨b,o,s⟩:=a
 simp only [Addr.mk.injEq,true_and] at ha
 subst ha
 have e:(⟨b,o,none⟩:Addr).add i=⟨b,o+i,none⟩:=by
  unfold Addr.add
  by_cases h:i=0
  ·subst h; simp
  ·simp [h]
 rw [e] at h0
 exact ⟨b,o,rfl,h0,Or.inl (World.block_lt_of_cell? w ⟨b,o+i,none⟩ (h0.trans hx))⟩
end Go.Proofs.YtdanomklbiidaaaGreatDoor
namespace Go.Proofs.YtdanomklbiidaaaGreatDoor
open Go.ChangeShapes Go.WideShapes Go.RowKit Go.Deep
theorem in64_of {n:Int} (h:(Lit.int .i64 n).wf=true):In64 n:=by
 have h1:(decide (IntKind.i64.min≤n) && decide (n≤IntKind.i64.max))=true:=h
 simp only [Bool.and_eq_true,decide_eq_true_eq] at h1
 have e1:IntKind.i64.min=-9223372036854775808:=by decide
 have e2:IntKind.i64.max=9223372036854775807:=by decide
 unfold In64
 omega
theorem open_list64 {H:Type} {enc:TypeId×Value→H} {w:World} {ao:Option Addr} {l0 c0:Nat} {d:DataW H} {p:List MemPlace} (h:DataW.Trod enc Tryz.prog w 0 (fun _=>true) true 22 (.slice ao l0 c0) d p):∃zs,Sl w.heap.size 3 w (.slice ao l0 c0) (ints zs)∧∀z∈zs,In64 z:=by
 obtain ⟨fuel,hf⟩:=h
 rcases open_ints Tryz.underlying22 Tryz.underlying3 Tryz.cells3 hf with ⟨hcs,_⟩ | ⟨a,len,cap,zs,hcs,_,hl,hm,hz,_,hcell,hwf⟩
 ·simp [Value.cells] at hcs
  obtain ⟨rfl,rfl,rfl⟩:=hcs
  exact ⟨[],Sl.nil _ _ _,fun z hz=>absurd hz (by simp)⟩
 ·simp [Value.cells] at hcs
  simp only [if_true] at hz
  obtain ⟨rfl,rfl,rfl⟩:=hcs
  refine ⟨zs.take l0,?_,fun z hz=>in64_of (hwf z (List.mem_of_mem_take hz))⟩
  have hlen:(ints (zs.take l0)).length=l0:=by simp; omega
  refine sl_of_cells hlen hl hm fun i hi=>?_
  rw [hcell i (by omega),ints_get _ _ (by simp; omega)]
  simp [hi]
end Go.Proofs.YtdanomklbiidaaaGreatDoor
