import Derived.Test.YtcoeneldaohpnaaGreatMgAZ
import Derived.Test.YtcoeneldaohpnaaGreatMgAQ
import Derived.Test.YtcoeneldaohpnaaGreatMgAP
import Derived.Test.YtcoeneldaohpnaaGreatMgAA
import Derived.Test.YtcoeneldaohpnaaGreatMgAF
import Derived.Test.YtcoeneldaohpnaaGreatMgBA
import Derived.Test.YtcoeneldaohpnaaGreatSz4
namespace Go.Proofs.YtcoeneldaohpnaaGreat
open Go.RowKit Lin
attribute [local go_sem ↓] Go.wp_at_zero Go.wp_at_succ
theorem cornersS_any (d:Nat) (P:List (List Int)) (v:Value) (w:World) (hv:Mat w.heap.size 26 3 w v P) (hg:Good d P) (hd:d≤3) (hb:Box d 100 P) :
  Calls Tryz.prog 6 #[v] w fun e w'=>∃(co:Option Addr) (cc:Nat) (s C:List (List Int)),e=.returned (.slice co C.length cc)∧SrC d P s C∧Fr w.heap.size 26 3 w' (.slice co C.length cc) C∧Below w.heap.size w w':=by
 refine (cornersOf_any w.heap.size d P v w hv hg.d1 hd (by have:=hg.n2; omega) (by have:=hg.n24; omega) hb).mono ?_
 rintro e w' ⟨x,c,s,rfl,hf,h1,h2,h3,h4,hb⟩
 obtain ⟨co,cc,rfl,_,_⟩:=mat_open (fr_mat0S hf)
 exact ⟨co,cc,s,c,rfl,⟨hg,h2,h3,h1,h4⟩,hf,hb⟩
end Go.Proofs.YtcoeneldaohpnaaGreat

namespace Go.Proofs.YtcoeneldaohpnaaGreat
open Go.RowKit
attribute [local go_sem ↓] Go.wp_at_zero Go.wp_at_succ
set_option maxRecDepth 100000 in
set_option maxHeartbeats 800000 in
theorem heavy_any (B:Nat) (m:List (List Int)) (v:Value) (w:World) (hv:Mat B 26 3 w v m) :
  Calls Tryz.prog 4 #[v] w fun e w'=>∃b,e=.returned (.bool b)∧(b=false→m.length≤300)∧w'=w:=by
 obtain ⟨ao,cap,hvv,hlc,hcm⟩:=mat_open hv
 subst hvv
 have HV:Hid (Mat B 26 3 w (.slice ao m.length cap) m):=hv
 clear hv
 by_cases h1:300 < m.length
 ·have b1:decide ((300:Int) < (m.length:Int))=true:=decide_eq_true (by omega)
  go_enter Tryz.func4,Tryz.ntmps4
  go_wp2
  go_ret
  exact ⟨true,rfl,(fun h=>absurd h (by decide)),rfl⟩
 ·have b1:decide ((300:Int) < (m.length:Int))=false:=decide_eq_false (by omega)
  have HL:Hid (m.length≤300):=by show _≤_; omega
  go_enter Tryz.func4,Tryz.ntmps4
  go_wp2
  go_loopw [3,4] (fun n i wr=>∃t s:Nat,t≤m.length∧s≤300*t∧n=.int .i64 s∧i=.int .i64 t∧wr=w) (fun _ i _=>m.length-(intOf i).toNat)
  case atStart=>exact ⟨0,0,Nat.zero_le _,Nat.le_refl _,rfl,rfl,rfl⟩
  case round=>
   obtain ⟨t,s,ht,hs,rfl,rfl,rfl⟩:=hrel
   by_cases htn:t < m.length
   ·obtain ⟨b,o,cp,u,hs,_,hcc,hu⟩:=mat_cell HV.out htn
    simp only [Value.slice.injEq,true_and] at hs
    obtain ⟨rfl,rfl⟩:=hs
    obtain ⟨uo,uc,hue,hul,hum⟩:=sl_open hu
    subst hue
    generalize (m.getD t []).length=l at *
    clear hu
    by_cases hl:300 < l
    ·have b2:decide ((300:Int) < (l:Int))=true:=decide_eq_true (by omega)
     go_wp2
     go_ret
     exact ⟨true,rfl,(fun h=>absurd h (by decide)),rfl⟩
    ·have b2:decide ((300:Int) < (l:Int))=false:=decide_eq_false (by omega)
     go_wp2
     go_roundw
     case rel=>exact ⟨t+1,s+l,by omega,by omega,by go_num,by go_num,trivial⟩
     case measure=>simp [intOf]; omega
   ·go_wp2
    go_ret
    exact ⟨_,rfl,fun _=>HL.out,rfl⟩
end Go.Proofs.YtcoeneldaohpnaaGreat

namespace Go.Proofs.YtcoeneldaohpnaaGreat
open Go.RowKit
attribute [local go_sem ↓] Go.wp_at_zero Go.wp_at_succ
set_option maxRecDepth 100000 in
theorem list_same (B:Nat) (x:List Int) (u v:Value) (w:World) (hu:Sl B 3 w u (ints x)) (hv:Sl B 3 w v (ints x)) :
  Calls Tryz.prog 13 #[u,.int .i64 0,v,.int .i64 0] w fun x w'=>x=.returned (.bool true)∧Below w.heap.size w w':=by
 obtain ⟨uo,uc,rfl,_,_⟩:=sl_open hu
 obtain ⟨vo,vc,rfl,_,_⟩:=sl_open hv
 have HU:Hid (Sl B 3 w (.slice uo x.length uc) (ints x)):=hu
 have HV:Hid (Sl B 3 w (.slice vo x.length vc) (ints x)):=hv
 clear hu hv
 go_enter Tryz.func13,Tryz.ntmps13
 go_wp2_with fail
 refine (same_any B x x _ _ w HU.out HV.out).mono ?_
 rintro e w' ⟨rfl,n,rfl⟩
 have hxx:(x == x)=true:=by simp
 rw [hxx]
 go_wp2
 go_ret
 exact ⟨rfl,⟨rfl,rfl,rfl,Nat.le_refl _,fun _ _=>rfl⟩⟩
end Go.Proofs.YtcoeneldaohpnaaGreat

namespace Go.Proofs.YtcoeneldaohpnaaGreat
open Go.RowKit Go.Shelf Lin
section tiles
attribute [local go_sem] Oper.semAt_some
end tiles
attribute [local go_sem ↓] Go.wp_at_zero Go.wp_at_succ
set_option maxRecDepth 100000 in
set_option maxHeartbeats 3200000 in
theorem zones_any (d:Nat) (ways:List (List Int)) (v:Value) (w:World) (hv:Mat w.heap.size 26 3 w v ways) (h:Wys d ways) (hE:zE d ways=0) :
  Calls Tryz.prog 3 #[.int .i64 d,v] w fun e w'=>e=.returned (.bool true)∧Below w.heap.size w w':=by
 obtain ⟨vo,vc,rfl,_,_⟩:=mat_open hv
 have hM:∀X,Below w.heap.size w X→Mat X.heap.size 26 3 X (.slice vo ways.length vc) ways:=fun X hX=>(hv.below hX (Nat.le_refl _)).any (Nat.le_refl _)
 have K1:Hid (Calls Tryz.prog 4 #[.slice vo ways.length vc] w fun e w'=>∃b,e=.returned (.bool b)∧(b=false→ways.length≤300)∧w'=w):=heavy_any w.heap.size ways _ w hv
 have K2:Hid (Calls Tryz.prog 5 #[.int .i64 d,.slice vo ways.length vc] w fun e w'=>e=.returned (.int .i64 0)∧Below w.heap.size w w'):=by
  have:=zmay_any d ways _ w hv h
  rw [hE] at this
  exact this
 have KP:Hid (∀X,Below w.heap.size w X→Calls Tryz.prog 7 #[.int .i64 d,.slice vo ways.length vc] X fun e w'=>∃(xo:Option Addr) (xc:Nat) (L:List (List Int)),e=.returned (.slice xo L.length xc)∧((∀r,r∈L↔r∈zonP (nul d) ways)∧L.length≤(zonP (nul d) ways).length∧Mat w'.heap.size 26 3 w' (.slice xo L.length xc) L∧Below X.heap.size X w')):=fun X hX=>(zpoints_any d ways _ X (hM X hX) h).mono fun e w' ⟨xo,xc,L,e1,e2⟩=>⟨xo,xc,L,e1,e2⟩
 have KC:Hid (∀X u (L:List (List Int)),(∀r,r∈L↔r∈zonP (nul d) ways)→L.length≤(zonP (nul d) ways).length→Mat X.heap.size 26 3 X u L→Calls Tryz.prog 6 #[u] X fun e w'=>∃(co:Option Addr) (cc:Nat) (s C:List (List Int)),e=.returned (.slice co C.length cc)∧(SrC d L s C∧Mat 0 26 3 w' (.slice co C.length cc) C∧Below X.heap.size X w')):=fun X u L hm hl hu=>
  (cornersS_any d L u X hu (good_of (h.good hE) hm hl) h.d3 (fun r hr=>h.box15 r ((hm r).1 hr))).mono fun e w' ⟨co,cc,s,C,e1,e2,e3,e4⟩=>⟨co,cc,s,C,e1,e2,fr_mat0S e3,e4⟩
 have KT:Hid (∀X,Below w.heap.size w X→Calls Tryz.prog 8 #[.int .i64 d,.slice vo ways.length vc] X fun e w'=>∃(xo:Option Addr) (xc:Nat) (yo:Option Addr) (yc:Nat),e=.returned (.tuple #[.slice xo (tlS ways (ext ways.length d 0)).length xc,.slice yo (tlS ways (ext ways.length d 0)).length yc])∧(Mat 0 26 3 w' (.slice xo (tlS ways (ext ways.length d 0)).length xc) (tlS ways (ext ways.length d 0))∧Sl 0 3 w' (.slice yo (tlS ways (ext ways.length d 0)).length yc) (ints ((tlS ways (ext ways.length d 0)).map (tlA ways)))∧Below X.heap.size X w')):=fun X hX=>(tilesOf_any d ways _ X (hM X hX) h).mono fun e w' ⟨xo,xc,yo,yc,e1,e2⟩=>⟨xo,xc,yo,yc,e1,e2⟩
 have K3:Hid (∀X,Below w.heap.size w X→Calls Tryz.prog 9 #[.int .i64 d,.slice vo ways.length vc] X fun e w'=>∃(co:Option Addr) (cc:Nat) (s C:List (List Int)),e=.returned (.tuple #[.slice co C.length cc,.int .i64 0])∧(SrC d (zonP (nul d) ways) s C∧Mat 0 26 3 w' (.slice co C.length cc) C∧Below X.heap.size X w')):=fun X hX=>(zone_any d ways _ X (hM X hX) h hE).mono fun e w' ⟨co,cc,s,C,e1,e2⟩=>⟨co,cc,s,C,e1,e2⟩
 have K4:Hid (∀X,Below w.heap.size w X→Calls Tryz.prog 10 #[.int .i64 d,.slice vo ways.length vc] X fun e w'=>∃(xo:Option Addr) (xc:Nat) (yo:Option Addr) (yc:Nat),e=.returned (.tuple #[.slice xo (tlS ways (ext ways.length d 0)).length xc,.slice yo (tlS ways (ext ways.length d 0)).length yc,.int .i64 0])∧(Mat 0 26 3 w' (.slice xo (tlS ways (ext ways.length d 0)).length xc) (tlS ways (ext ways.length d 0))∧Sl 0 3 w' (.slice yo (tlS ways (ext ways.length d 0)).length yc) (ints ((tlS ways (ext ways.length d 0)).map (tlA ways)))∧Below X.heap.size X w')):=fun X hX=>(tiles_any d ways _ X (hM X hX) h hE).mono fun e w' ⟨xo,xc,yo,yc,e1,e2⟩=>⟨xo,xc,yo,yc,e1,e2⟩
 have K5:Hid (∀X,Below w.heap.size w X→Calls Tryz.prog 11 #[.int .i64 d,.slice vo ways.length vc] X fun e w'=>e=.returned (.int .i64 0)∧Below X.heap.size X w'):=fun X hX=>by
  have:=zcheck_any d ways _ X (hM X hX) h
  rw [hE] at this
  exact this
 clear hv h hE hM
 obtain ⟨T,hT⟩:∃T,T=tlS ways (ext ways.length d 0):=⟨_,rfl⟩
 rw [←hT] at KT K4
 clear hT
 go_enter Tryz.func3,Tryz.ntmps3
 go_wp2_with fail
 refine K1.out.mono ?_
 rintro e w1 ⟨b,rfl,-,rfl⟩
 clear K1
 cases b
 case true=>
  clear K2 K3 K4 K5 KP KC KT
  go_wp2
  go_ret
  exact ⟨rfl,Below.refl _ _⟩
 case false=>
 go_wp2_with fail
 refine K2.out.mono ?_
 rintro e w2 ⟨rfl,hb2⟩
 have HKP:=KP.out w2 hb2
 have HB2:Hid (Below w1.heap.size w1 w2):=hb2
 clear K2 KP hb2
 go_wp2_with fail
 refine HKP.mono ?_
 rintro e w3 ⟨xo,xc,L,rfl,hmL,hlL,hML,hb3⟩
 have HB3:Hid (Below w1.heap.size w1 w3):=HB2.out.trans (hb3.mono HB2.out.size)
 have HKC:=KC.out w3 _ L hmL hlL hML
 have HMS:Hid (∀r,r∈L↔r∈zonP (nul d) ways):=hmL
 clear hb3 HKP KC hmL hlL hML
 go_wp2_with fail
 refine HKC.mono ?_
 rintro e w4 ⟨co,cc,s,C,rfl,hS4,hM4,hb4⟩
 have HB4:Hid (Below w1.heap.size w1 w4):=HB3.out.trans (hb4.mono HB3.out.size)
 have HKT:=KT.out w4 HB4.out
 have HS4:Hid (SrC d L s C):=hS4
 have HM4:Hid (∀X,Below w4.heap.size w4 X→Mat 0 26 3 X (.slice co C.length cc) C):=fun X hX=>hM4.below hX (Nat.le_refl _)
 clear hb4 HKC KT hS4 hM4
 go_wp2_with fail
 refine HKT.mono ?_
 rintro e w5 ⟨ao,ac,bo,bc,rfl,hA5,hB5,hb5⟩
 have HB5:Hid (Below w1.heap.size w1 w5):=HB4.out.trans (hb5.mono HB4.out.size)
 have HK3:=K3.out w5 HB5.out
 have HM5:Hid (∀X,Below w5.heap.size w5 X→Mat 0 26 3 X (.slice co C.length cc) C∧Mat 0 26 3 X (.slice ao T.length ac) T∧Sl 0 3 X (.slice bo T.length bc) (ints (T.map (tlA ways)))):=fun X hX=>⟨(HM4.out w5 hb5).below hX (Nat.le_refl _),hA5.below hX (Nat.le_refl _),hB5.below hX (Nat.le_refl _)⟩
 clear hb5 HKT K3 hA5 hB5 HM4
 go_wp2_with fail
 refine HK3.mono ?_
 rintro e w6 ⟨co',cc',s',C',rfl,hS6,hM6,hb6⟩
 have hCC:C'=C:=(SrC.other HS4.out hS6 fun r=>(HMS.out r).symm).2
 subst hCC
 have HB6:Hid (Below w1.heap.size w1 w6):=HB5.out.trans (hb6.mono HB5.out.size)
 have HK4:=K4.out w6 HB6.out
 have HM6:Hid (∀X,Below w6.heap.size w6 X→Mat 0 26 3 X (.slice co C'.length cc) C'∧Mat 0 26 3 X (.slice ao T.length ac) T∧Sl 0 3 X (.slice bo T.length bc) (ints (T.map (tlA ways)))∧Mat 0 26 3 X (.slice co' C'.length cc') C'):=fun X hX=>⟨(HM5.out X (hb6.trans (hX.mono hb6.size))).1,(HM5.out X (hb6.trans (hX.mono hb6.size))).2.1,(HM5.out X (hb6.trans (hX.mono hb6.size))).2.2,hM6.below hX (Nat.le_refl _)⟩
 clear hb6 HK3 K4 hS6 hM6 HM5 HS4 HMS
 go_wp2_with fail
 refine HK4.mono ?_
 rintro e w7 ⟨ao',ac',bo',bc',rfl,hA7,hB7,hb7⟩
 have HB7:Hid (Below w1.heap.size w1 w7):=HB6.out.trans (hb7.mono HB6.out.size)
 have HK5:=K5.out w7 HB7.out
 have HM7:Hid (∀X,Below w7.heap.size w7 X→Mat 0 26 3 X (.slice co C'.length cc) C'∧Mat 0 26 3 X (.slice ao T.length ac) T∧Sl 0 3 X (.slice bo T.length bc) (ints (T.map (tlA ways)))∧Mat 0 26 3 X (.slice co' C'.length cc') C'∧Mat 0 26 3 X (.slice ao' T.length ac') T∧Sl 0 3 X (.slice bo' T.length bc') (ints (T.map (tlA ways)))):=fun X hX=>by
  obtain ⟨q1,q2,q3,q4⟩:=HM6.out X (hb7.trans (hX.mono hb7.size))
  exact ⟨q1,q2,q3,q4,hA7.below hX (Nat.le_refl _),hB7.below hX (Nat.le_refl _)⟩
 clear hb7 HK4 K5 hA7 hB7 HM6
 go_wp2_with fail
 refine HK5.mono ?_
 rintro e w8 ⟨rfl,hb8⟩
 have HB8:Hid (Below w1.heap.size w1 w8):=HB7.out.trans (hb8.mono HB7.out.size)
 obtain ⟨q1,q2,q3,q4,q5,q6⟩:=HM7.out w8 hb8
 have HL1:=lists_same 0 C' _ _ w8 q4 q1
 have HM8:Hid (∀X,Below w8.heap.size w8 X→Mat 0 26 3 X (.slice ao T.length ac) T∧Sl 0 3 X (.slice bo T.length bc) (ints (T.map (tlA ways)))∧Mat 0 26 3 X (.slice ao' T.length ac') T∧Sl 0 3 X (.slice bo' T.length bc') (ints (T.map (tlA ways)))):=fun X hX=>⟨q2.below hX (Nat.le_refl _),q3.below hX (Nat.le_refl _),q5.below hX (Nat.le_refl _),q6.below hX (Nat.le_refl _)⟩
 clear hb8 HK5 HM7 q1 q2 q3 q4 q5 q6
 go_wp2_with fail
 refine HL1.mono ?_
 rintro e w9 ⟨rfl,hb9⟩
 have HB9:Hid (Below w1.heap.size w1 w9):=HB8.out.trans (hb9.mono HB8.out.size)
 obtain ⟨q2,q3,q5,q6⟩:=HM8.out w9 hb9
 have HL2:=lists_same 0 T _ _ w9 q5 q2
 have HM9:Hid (∀X,Below w9.heap.size w9 X→Sl 0 3 X (.slice bo T.length bc) (ints (T.map (tlA ways)))∧Sl 0 3 X (.slice bo' T.length bc') (ints (T.map (tlA ways)))):=fun X hX=>⟨q3.below hX (Nat.le_refl _),q6.below hX (Nat.le_refl _)⟩
 clear hb9 HL1 HM8 q2 q3 q5 q6
 go_wp2_with fail
 refine HL2.mono ?_
 rintro e w10 ⟨rfl,hb10⟩
 have HB10:Hid (Below w1.heap.size w1 w10):=HB9.out.trans (hb10.mono HB9.out.size)
 obtain ⟨q3,q6⟩:=HM9.out w10 hb10
 have HL3:=list_same 0 (T.map (tlA ways)) _ _ w10 q6 q3
 clear hb10 HL2 HM9 q3 q6
 go_wp2_with fail
 refine HL3.mono ?_
 rintro e w11 ⟨rfl,hb11⟩
 have HB11:Hid (Below w1.heap.size w1 w11):=HB10.out.trans (hb11.mono HB10.out.size)
 clear hb11 HL3
 go_wp2
 go_ret
 exact ⟨rfl,HB11.out⟩
end Go.Proofs.YtcoeneldaohpnaaGreat
