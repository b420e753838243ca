import Derived.Test.YtcoeneldaohpnaaGreatMgBB
import Derived.Test.YtcoeneldaohpnaaGreatMgAW
import Derived.Test.YtcoeneldaohpnaaGreatMgAX
import Derived.Laws.AppendOwnNone
import Derived.Sort.CutIn
namespace Go.Proofs.YtcoeneldaohpnaaGreat
open Go.RowKit Go.Shelf Lin
attribute [local go_sem] Oper.semAt_some
set_option maxRecDepth 100000 in
set_option maxHeartbeats 8000000 in
theorem tiles_any (d:Nat) (ways:List (List Int)) (v:Value) (w:World) (hv:Mat w.heap.size 26 3 w v ways) (h:Wys d ways) (hE:zE d ways=0) :
  Calls Tryz.prog 10 #[.int .i64 d,v] w fun e w'=>∃(xo:Option Addr) (xc:Nat) (yo:Option Addr) (yc:Nat),e=.returned (.tuple #[.slice xo (tlS ways (ext ways.length d 0)).length xc,.slice yo (tlS ways (ext ways.length d 0)).length yc,.int .i64 0])∧Mat 0 26 3 w' (.slice xo (tlS ways (ext ways.length d 0)).length xc) (tlS ways (ext ways.length d 0))∧Sl 0 3 w' (.slice yo (tlS ways (ext ways.length d 0)).length yc) (ints ((tlS ways (ext ways.length d 0)).map (tlA ways)))∧Below w.heap.size w w':=by
 obtain ⟨i0,hi0,hz0,hz1,hz2⟩:=info_parts Tryz.info26
 obtain ⟨i3,hi3,hz30,hz31,hz32⟩:=info_parts Tryz.info3
 obtain ⟨vo,vc,rfl,_,_⟩:=mat_open hv
 have h1:=h.d1
 have h3:=h.d3
 have hn5:=h.n5
 have HH:Hid (Wys d ways):=h
 have HV:Hid (Mat w.heap.size 26 3 w (.slice vo ways.length vc) ways):=hv
 obtain ⟨W3,hW3⟩:∃W3,W3=((w.alloc (.cells #[.slice vo ways.length vc] 22)).alloc (.cells #[.slice none 0 0] 22)).alloc (.cells #[.slice none 0 0] 26):=⟨_,rfl⟩
 have hb3:Below w.heap.size w W3:=by rw [hW3]; exact (((Below.refl _ _).alloc (Nat.le_refl _) _).alloc (by simp) _).alloc (by simp; omega) _
 have hs3:W3.heap.size=w.heap.size+3:=by rw [hW3]; simp
 have n1:W3.heap[w.heap.size]?=some (.cells #[.slice vo ways.length vc] 22 (0,0)):=by
  rw [hW3]
  exact (Below.heap_alloc _ _ _ (by simp; omega)).trans ((Below.heap_alloc _ _ _ (by simp)).trans (heap_new _ _))
 have n2:W3.heap[w.heap.size+1]?=some (.cells #[.slice none 0 0] 22 (0,0)):=by
  rw [hW3]
  refine (Below.heap_alloc _ _ _ (by simp)).trans ?_
  have:=heap_new (w.alloc (.cells #[.slice vo ways.length vc] 22)) (.cells #[.slice none 0 0] 22)
  simpa using this
 have n3:W3.heap[w.heap.size+2]?=some (.cells #[.slice none 0 0] 26 (0,0)):=by
  rw [hW3]
  have:=heap_new ((w.alloc (.cells #[.slice vo ways.length vc] 22)).alloc (.cells #[.slice none 0 0] 22)) (.cells #[.slice none 0 0] 26)
  simpa using this
 have c1:W3.cell? ⟨w.heap.size,0,none⟩=some (.slice vo ways.length vc):=cell_of n1
 have K1:Hid (Calls Tryz.prog 11 #[.int .i64 d,.slice vo ways.length vc] W3 fun e w'=>e=.returned (.int .i64 0)∧Below W3.heap.size W3 w'):=by
  have:=zcheck_any d ways _ W3 ((hv.below hb3 (Nat.le_refl _)).any (Nat.le_refl _)) h
  rw [hE] at this
  exact this
 have HB3:Hid (Below w.heap.size w W3):=hb3
 have HN:Hid (W3.heap[w.heap.size]?=some (.cells #[.slice vo ways.length vc] 22 (0,0))∧W3.heap[w.heap.size+1]?=some (.cells #[.slice none 0 0] 22 (0,0))∧W3.heap[w.heap.size+2]?=some (.cells #[.slice none 0 0] 26 (0,0))):=⟨n1,n2,n3⟩
 clear hv h hE hb3 n1 n2 n3
 refine callsIn_wide (n:=0).1 ?_
 refine callsIn_of_wp_marks Tryz.func10 rfl trivial ?_ rfl
 simp only [Tryz.ntmps10,List.size_toArray,List.length_cons,List.length_nil,Nat.reduceAdd,Nat.reduceSub,Array.replicate_succ,Array.replicate_zero,List.push_toArray,List.append_toArray,List.nil_append,List.cons_append]
 rw [hW3] at c1
 gi_wp2_with fail
 rw [←hW3] at c1 ⊢
 clear hW3
 refine ⟨trivial,rfl,?_⟩
 gi_at_call 11
 refine (callsIn_wide.2 K1.out).mono ?_
 rintro e w1 ⟨rfl,hb1⟩
 have HB1:Hid (Below W3.heap.size W3 w1):=hb1
 have d1:w1.cell? ⟨w.heap.size,0,none⟩=some (.slice vo ways.length vc):=(hb1.cell (lt_of_cell c1)).trans c1
 have hs1:w.heap.size+3≤w1.heap.size:=by have:=hb1.size; omega
 clear hb1 K1 c1
 gi_wp2_with (refine ⟨trivial,rfl,?_⟩; gi_at_call 24; refine (callsIn_wide.2 (of_any _ _ _)).mono ?_; rintro e w' ⟨rfl,rfl⟩)
 obtain ⟨WN,hWN⟩:∃WN,WN=(w1.alloc (.cells #[.int .i64 ways.length] 3)).alloc (.cells #[.int .i64 d] 3):=⟨_,rfl⟩
 rw [←hWN]
 have hsN:WN.heap.size=w1.heap.size+2:=by rw [hWN]; simp
 have hbN:Below w1.heap.size w1 WN:=by rw [hWN]; exact ((Below.refl _ _).alloc (Nat.le_refl _) _).alloc (by simp) _
 have m1:WN.heap[w1.heap.size]?=some (.cells #[.int .i64 ways.length] 3 (0,0)):=by
  rw [hWN]
  exact (Below.heap_alloc _ _ _ (by simp)).trans (heap_new _ _)
 have m2:WN.heap[w1.heap.size+1]?=some (.cells #[.int .i64 d] 3 (0,0)):=by
  rw [hWN]
  have:=heap_new (w1.alloc (.cells #[.int .i64 ways.length] 3)) (.cells #[.int .i64 d] 3)
  simpa using this
 clear hWN
 have HSQ:=of_seqC ways.length d (w1.heap.size+1) w1.heap.size WN (by omega) (by omega) (cell_of m2) (cell_of m1)
 have hbAll:Below w.heap.size w WN:=HB3.out.trans ((HB1.out.trans (hbN.mono HB1.out.size)).mono (by omega))
 have hlowN:∀b,b < w.heap.size+3→WN.heap[b]?=W3.heap[b]?:=fun b hb=>(hbN.block b (by omega)).trans (HB1.out.block b (by omega))
 have HNN:Hid (WN.heap[w.heap.size]?=some (.cells #[.slice vo ways.length vc] 22 (0,0))):=(hlowN _ (by omega)).trans HN.out.1
 have HI0:Hid (TlI w WN w1.heap.size ways (fun b=>b=w1.heap.size+1∨b=w1.heap.size) [] WN):=
  ⟨fun b hb=>by omega,Kpt.refl _ _,hbAll.os,hbAll.tape,hbAll.output,.slice none 0 0,[],.slice none 0 0,⟨(hlowN _ (by omega)).trans HN.out.2.1,(hlowN _ (by omega)).trans HN.out.2.2,
   ⟨rfl,World.ownsRow_nil _ _ _ _,fun g hg=>by simp [Value.ownBlock] at hg,fun i hi=>absurd hi (by simp [tlS]),fun i hi=>absurd hi (by simp [tlS])⟩,⟨World.ownsRow_nil _ _ _ _,fun g hg=>by simp [Value.ownBlock] at hg⟩⟩⟩
 have HSZ:Hid (WN.heap.size=w1.heap.size+2):=hsN
 have HBN:Hid (Below w.heap.size w WN):=hbAll
 have HLE:Hid ((ext ways.length d 0).length≤300000):=by
  show _≤_
  have:=nodup_lenL (ext ways.length d 0) (chosenL d ways.length) (ext_asc d ways.length 0).nodup fun r hr=>chosen_ext.2 hr
  have h2:=chosen_len d ways.length (by omega)
  have h4:64 ^ d≤64 ^ 3:=Nat.pow_le_pow_right (by decide) h3
  omega
 have hle1:w1.heap.size+2≤WN.heap.size:=by omega
 have hle2:w.heap.size+3≤WN.heap.size:=by omega
 clear m1 m2 hbN hbAll hlowN HN d1 hsN hs3
 refine range_f (R:=HandC WN.heap.size) (cs:=ext ways.length d 0) (T:=fun _=>False) (S0:=fun b=>b=w1.heap.size+1∨b=w1.heap.size) (gf:=44) (lb:=#[.pointer (some ⟨w1.heap.size+1,0,none⟩),.pointer (some ⟨w1.heap.size,0,none⟩)]) rfl (enters_of Tryz.func44 (by kernel_rfl) rfl) HSQ (fun b hb=>by omega)
  (fun W0 W' S x vs ⟨v,h1,_⟩=>by rw [h1]; rfl) (handC_below _) (handC_put _)
  (fun S pre W'=>TlI w WN w1.heap.size ways S pre W')
  (fun c S pre W'=>False)
  (fun S S' pre W' W'' h hc hs=>h.stab hs1 (by have:=HSZ.out; omega) hc hs) (fun c S S' pre W' W'' h hc hs=>h) HI0.out
  (fun vs a' W'=>∃v,vs=#[v]∧a' = { tmps:=#[.int .i64 d,.slice vo ways.length vc,undef,.pointer (some ⟨w.heap.size,0,none⟩),.pointer (some ⟨w.heap.size+1,0,none⟩),.pointer (some ⟨w.heap.size+1+1,0,none⟩),.int .i64 0,.int .i64 0,v,undef,.int .i64 d,.slice vo ways.length vc,.int .i64 0,.int .i64 0,.bool false,undef,.slice vo ways.length vc,.int .i64 ways.length,.int .i64 d,.func (.func 44) #[] #[.pointer (some ⟨w1.heap.size+1,0,none⟩),.pointer (some ⟨w1.heap.size,0,none⟩)],v,undef,undef,undef,undef,undef,undef,undef,undef,undef,undef,undef,undef,undef,undef,undef,undef,undef,undef,undef],defers:=[] })
  (fun vs a' W' l r o h _=>h) ?assign ?body (fun h=>h) ?done ?stop
 case assign=>
  rintro S x vs W0 W' K ⟨v,rfl,h2⟩ hK
  gi_wp2
  exact hK _ _ (Below.refl _ _) ⟨v,rfl,rfl⟩
 case stop=>
  rintro c S pre W' hpre h
  exact h.elim
 case body=>
  rintro S pre c vs a' W1 hi hSD hSL hlt1 hdf hlp hpre ⟨S1,W0,hi0,⟨cv,hvs,hown,hS0,hN0,hWW,hkc⟩,hS1⟩ ⟨v',hvs',rfl⟩
  have hvv:cv=v':=by rw [hvs] at hvs'; simpa using hvs'
  subst hvv
  have hcm':c∈ext ways.length d 0:=hpre.subset (by simp)
  obtain ⟨hr1,hr2⟩:=ext_ok hcm'
  have hsz:=HSZ.out
  have hws:=hi.kp.size
  have e1:W1.heap[w.heap.size]?=some (.cells #[.slice vo ways.length vc] 22 (0,0)):=(hi.kp.block _ (by omega) (by omega)).trans HNN.out
  have hlow:∀b,b < w.heap.size→W1.heap[b]?=w.heap[b]?:=fun b hb=>(hi.kp.block b (by omega) (by omega)).trans (HBN.out.block b hb)
  obtain ⟨sv,svs,su,ht⟩:=hi.rv
  obtain ⟨sv0,svs0,su0,ht0⟩:=hi0.rv
  have hsu:su=su0:=by
   have e:=hkc _ _ _ _ ht0.b2
   rw [ht.b2] at e
   simpa using e
  have HSB:Hid (∀b,S b→b < W1.heap.size):=fun b hx=>by
   rcases (hS1 _).1 hx with hx | hx | hx
   ·have:=hS0 _ hx; omega
   ·omega
   ·omega
  have hcvb:∀g,cv.ownBlock=some g→¬SU S su g:=fun g hg hx=>by
   obtain ⟨q1,q2,cur,q3⟩:=own_typS hown g hg
   rcases hx with hx | hx
   ·rcases (hS1 _).1 hx with hx | hx | hx
    ·have:=hS0 _ hx; omega
    ·rw [hx,hdf] at q3; cases q3
    ·obtain ⟨rr,hlp'⟩:=hlp
     rw [hx,hlp'] at q3; cases q3
   ·rw [hsu] at hx
    have:=(ht0.iw.own.lt g hx).2
    omega
  obtain ⟨co,cc,hcf⟩:=owns_form hown
  rw [hr1] at hcf
  have HCV:Hid (Sl 0 3 W1 cv (ints c)):=Sl.own hown
  have HCB:Hid (0 < c.length→∃a n k,cv=.slice (some a) n k∧¬SU S su a.block):=fun hp=>by
   rcases hown.2 with ⟨_,h2⟩ | ⟨g,cap,cur,h1,_⟩
   ·omega
   ·exact ⟨⟨g,0,none⟩,_,_,h1,hcvb g (by rw [h1]; rfl)⟩
  subst hcf
  have HMP:Hid (Mat w.heap.size 26 3 W1 (.slice vo ways.length vc) ways):=mat_keepA HV.out hlow
  have hrl:∀i,i < c.length→0≤c.getD i 0∧c.getD i 0 < ways.length:=fun i hi=>hr2 i (by omega)
  have HPK:Hid (Calls Tryz.prog 26 #[.slice vo ways.length vc,.slice co d cc] W1 fun e' w'=>∃zo zc,e'=.returned (.slice zo d zc)∧Below W1.heap.size W1 w'∧Mat w'.heap.size 26 3 w' (.slice zo d zc) (pks ways [] c)):=by
   have h:=pickedP_any W1.heap.size ways c (.slice vo ways.length vc) (.slice co d cc) W1 (HMP.out.any (Nat.le_refl _)) (HCV.out.more (Nat.zero_le _)) hrl (by omega)
   refine h.mono ?_
   rintro e' w' ⟨z,rfl,hz,hb⟩
   have hM:=hz.mat (B':=w'.heap.size) hb.size
   obtain ⟨zo,zc,rfl,_,_⟩:=mat_open hM
   rw [pks_lenZ,hr1] at hM ⊢
   exact ⟨zo,zc,rfl,hb,hM⟩
  obtain ⟨hMx,hSq,hDB⟩:=HH.out.sq hr1 hr2
  have HDT:Hid (∀X u,Mat X.heap.size 26 3 X u (pks ways [] c)→Calls Tryz.prog 25 #[u] X fun e w'=>e=.returned (.int .i64 (detL (pks ways [] c)))∧Below X.heap.size X w'):=fun X u hu=>detP_any X.heap.size _ u X hMx hu (by rw [pks_lenZ,hr1]; exact h1)
  have HT7:Hid (∀w7,Below W1.heap.size W1 w7→TwoL w (WN.heap.size+2) S w7 sv svs su (tlS ways pre) ((tlS ways pre).map (tlA ways))):=fun w7 hb=>ht.keep (fun hx=>by have:=hi.sn _ hx; omega) (fun hx=>by have:=hi.sn _ hx; omega) (fun b hb1 _=>hb.block b hb1) (fun b hb=>.inl hb)
  have HIS:Hid (∀w7,Below W1.heap.size W1 w7→TlI w WN w1.heap.size ways S pre w7):=fun w7 hb=>hi.stab hs1 (by omega) (Chg.of_below hb (Nat.le_refl _)) (fun b hb=>.inl hb)
  have HSN:Hid (∀b,S b→w1.heap.size≤b):=hi.sn
  have HTS:Hid (tlS ways (pre ++ [c])=tlS ways pre ++ (if detL (pks ways [] c)≠0 then [c] else [])):=by
   show _=_
   unfold tlS
   rw [List.filter_append]
   by_cases h:detL (pks ways [] c)=0 <;> simp [h]
  have HTA:Hid (tlA ways c=((detL (pks ways [] c)).natAbs:Int)):=rfl
  have HRL:Hid ((tlS ways pre).length≤300000):=by
   have h2:pre.length≤(ext ways.length d 0).length:=by
    have:=hpre.length_le
    simp only [List.length_append,List.length_cons,List.length_nil] at this
    omega
   exact Nat.le_trans (tlS_len _ _) (Nat.le_trans h2 HLE.out)
  have hcw:W1.cell? ⟨w.heap.size,0,none⟩=some (.slice vo ways.length vc):=cell_of e1
  have hBW1:WN.heap.size+2≤W1.heap.size:=by omega
  have hrl':=HRL.out
  clear hi hi0 hpre hown hS0 hN0 hWW hkc hS1 hcm' hr1 hr2 hdf hlp hvs hvs' hrl hlow hsz hws e1 HSQ ht ht0 hsu hcvb hMx hSq HMP hSD hSL
  generalize detL (pks ways [] c)=D at *
  gi_wp2_with fail
  refine ⟨trivial,rfl,?_⟩
  gi_at_call 26
  refine (CallsIn.inRound _ (callsIn_wide.2 HPK.out)).mono ?_
  rintro e' w6 ⟨zo,zc,rfl,hb6,hm6⟩
  have HDD:=HDT.out w6 _ hm6
  have HB6:Hid (Below W1.heap.size W1 w6):=hb6
  clear hb6 hm6 HPK HDT hcw
  gi_wp2_with fail
  refine ⟨trivial,rfl,?_⟩
  gi_at_call 25
  refine (CallsIn.inRound _ (callsIn_wide.2 HDD)).mono ?_
  rintro e' w7 ⟨rfl,hb7⟩
  have HB7:Hid (Below W1.heap.size W1 w7):=HB6.out.trans (hb7.mono HB6.out.size)
  clear hb7 HDD HB6
  by_cases hD:D=0
  ·subst hD
   have HF:Hid (Kpt (fun b=>S b∨False) W1 w7∧TlI w WN w1.heap.size ways S (pre ++ [c]) w7):=by
    refine ⟨Kpt.of_below HB7.out (Nat.le_refl _),?_⟩
    have h:=HIS.out w7 HB7.out
    refine ⟨h.sn,h.kp,h.os,h.tape,h.output,?_⟩
    rw [HTS.out,if_neg (by simp),List.append_nil]
    exact h.rv
   clear HTS HTA HIS HT7 HCV HCB
   gi_wp2
   exact HF.out
  ·have ht7:=HT7.out w7 HB7.out
   have hsz7:WN.heap.size+2≤w7.heap.size:=Nat.le_trans hBW1 HB7.out.size
   have HOO:Hid (w7.ownsRow (WN.heap.size+2) 26 1 sv (tlS ways pre).length svs):=ht7.fr.own
   have hc8:w7.cell? ⟨w.heap.size+1,0,none⟩=some sv:=cell_of ht7.b1
   have hDn:(D != 0)=true:=by simp [hD]
   have HT:Hid (TwoL w (WN.heap.size+2) S w7 sv svs su (tlS ways pre) ((tlS ways pre).map (tlA ways))):=ht7
   obtain ⟨ro,rc,hrf⟩:=owns_form ht7.fr.own
   subst hrf
   obtain ⟨qo,qc,hqf⟩:=owns_form ht7.iw.own
   rw [List.length_map] at hqf
   subst hqf
   have HCV7:Hid (Sl 0 3 w7 (.slice co d cc) (ints c)):=HCV.out.below HB7.out (Nat.le_refl _)
   have HSB7:Hid (∀b,S b→b < w7.heap.size):=fun b hb=>Nat.lt_of_lt_of_le (HSB.out b hb) HB7.out.size
   have HTS2:Hid (tlS ways (pre ++ [c])=tlS ways pre ++ [c]):=by
    show _=_
    rw [HTS.out,if_pos hD]
   have HTA2:Hid (tlA ways c=max D (-D)):=by
    show _=_
    rw [HTA.out]; omega
   clear ht7 HT7 HCV HTS HTA hD
   generalize hTT:tlS ways pre=T at *
   clear hTT
   gi_wp2_with (first | (gi_at_builtin; refine wpListIn_append_own_at _ rfl _ _ 22 rfl (WN.heap.size+2) 26 i0 (.slice none 0 0) 1 24 Tryz.underlying22 hi0 hz0 hz1 hz2 rfl (by decide) _ _ _ rfl (HOO.out.alloc _) ⟨w7.heap.size,0,none⟩ 1 1 [.slice co d cc] rfl rfl (one_new _ _ _) (one_slice _ _ _) ?d3 ?d4 ?d5 ?_))
   case d3=>unfold maxLen; omega
   case d4=>omega
   case d5=>first | exact hsz7 | omega | (simp; omega)
   intro v' w8 ho hg _ hat
   obtain ⟨no,nc,hnv⟩:=owns_form ho
   subst hnv
   obtain ⟨g1,g2,g3,g4⟩:=HT.out.row (by omega) hsz7 HSB7.out HCV7.out HCB.out ho hg hat
   obtain ⟨W9,hW9⟩:∃W9,W9=w8.setCell ⟨w.heap.size+1,0,none⟩ (.slice no (T.length+1) nc):=⟨_,rfl⟩
   rw [←hW9] at g2 g3 g4
   have hc8':w8.cell? ⟨w.heap.size+1,0,none⟩=some (.slice ro T.length rc):=cell_of g1
   have hf8:w8.frozen? ⟨w.heap.size+1,0,none⟩=false:=by simp [World.frozen?,g1]
   have hc9:W9.cell? ⟨w.heap.size+1+1,0,none⟩=some (.slice qo T.length qc):=cell_of g2.b2
   have G2:Hid (TwoL w (WN.heap.size+2) S W9 (.slice no (T.length+1) nc) (svs ++ [.slice co d cc]) (.slice qo T.length qc) (T ++ [c]) (T.map (tlA ways))):=g2
   have G3:Hid (∀b,b < w7.heap.size→b≠w.heap.size+1→(Value.slice ro T.length rc).ownBlock≠some b→W9.heap[b]?=w7.heap[b]?):=g3
   have G5:Hid (W9.os=w7.os∧W9.tape=w7.tape∧W9.output=w7.output):=by
    rw [hW9]
    exact ⟨hg.os,hg.tape,hg.output⟩
   have hsz9:WN.heap.size+2≤W9.heap.size:=by omega
   have HOU:Hid (W9.ownsRow (WN.heap.size+2) 3 1 (.slice qo T.length qc) T.length (ints (T.map (tlA ways)))):=by
    have h:=g2.iw.own
    rw [List.length_map] at h
    exact h
   clear ho hg hat g1 g2 g3
   gi_upto_region 9 with fail
   rw [←hW9]
   clear hW9 hc8' hf8
   have hwD:IntKind.wrap .i64 (-D)=-D:=by rw [IntKind.wrap_i64]; omega
   gi_wp2_with (first | (gi_at_builtin; refine wpListIn_append_own_at _ rfl _ _ 26 rfl (WN.heap.size+2) 3 i3 (.int .i64 0) 1 8 Tryz.underlying26 hi3 hz30 hz31 hz32 rfl (by decide) _ _ _ rfl (HOU.out.alloc _) ⟨W9.heap.size,0,none⟩ 1 1 [.int .i64 (max D (-D))] rfl rfl (one_new _ _ _) (one_int _) ?e3 ?e4 ?e5 ?_))
   case e3=>unfold maxLen; omega
   case e4=>omega
   case e5=>first | exact hsz9 | omega | (simp; omega)
   intro u' w10 ho hg _ hat
   obtain ⟨mo,mc,hmv⟩:=owns_form ho
   subst hmv
   obtain ⟨k1,k2,k3,k4⟩:=G2.out.num (z:=max D (-D)) (by omega) hsz9 (fun b hb=>Nat.lt_of_lt_of_le (HSB7.out b hb) g4) (by rw [List.length_map]; exact ho) hg hat
   have hc10:w10.cell? ⟨w.heap.size+1+1,0,none⟩=some (.slice qo T.length qc):=cell_of k1
   have hf10:w10.frozen? ⟨w.heap.size+1+1,0,none⟩=false:=by
    show w10.frozen? ⟨w.heap.size+2,0,none⟩=false
    simp [World.frozen?,k1]
   have hkeep:∀b,b < w7.heap.size→b≠w.heap.size+1→b≠w.heap.size+2→(Value.slice ro T.length rc).ownBlock≠some b→(Value.slice qo T.length qc).ownBlock≠some b→(w10.setCell ⟨w.heap.size+2,0,none⟩ (.slice mo (T.length+1) mc)).heap[b]?=w7.heap[b]?:=fun b hb n1 n2 n3 n4=>(k3 b (by omega) n2 n4).trans (G3.out b hb n1 n3)
   have HF:Hid (Kpt (fun b=>S b∨False) W1 (w10.setCell ⟨w.heap.size+1+1,0,none⟩ (.slice mo (T.length+1) mc))∧TlI w WN w1.heap.size ways S (pre ++ [c]) (w10.setCell ⟨w.heap.size+1+1,0,none⟩ (.slice mo (T.length+1) mc))):=by
    have hI:=HIS.out w7 HB7.out
    have hroB:∀g,(Value.slice ro T.length rc).ownBlock=some g→WN.heap.size+2≤g:=fun g hg1=>(HT.out.fr.own.lt g hg1).1
    have hquB:∀g,(Value.slice qo T.length qc).ownBlock=some g→WN.heap.size+2≤g:=fun g hg1=>(HT.out.iw.own.lt g hg1).1
    have hsz:=HSZ.out
    refine ⟨⟨Nat.le_trans HB7.out.size (Nat.le_trans g4 k4),fun b hb hs=>?_⟩,hI.sn,hI.kp.trans ⟨Nat.le_trans g4 k4,fun b hb hs=>?_⟩,?_,?_,?_,.slice no (T.length+1) nc,svs ++ [.slice co d cc],.slice mo (T.length+1) mc,?_⟩
    ·have hs':S b:=hs.elim id False.elim
     have hn:=HSN.out b hs'
     refine (hkeep b (Nat.lt_of_lt_of_le hb HB7.out.size) (by omega) (by omega) (fun e=>?_) (fun e=>?_)).trans (HB7.out.block b hb)
     ·exact HT.out.fr.off b e (.inl hs')
     ·exact HT.out.iw.off b e hs'
    ·exact hkeep b hb (by omega) (by omega) (fun e=>by have:=hroB b e; omega) (fun e=>by have:=hquB b e; omega)
    ·exact (show _=W9.os from hg.os).trans (G5.out.1.trans hI.os)
    ·exact (show _=W9.tape from hg.tape).trans (G5.out.2.1.trans hI.tape)
    ·exact (show _=W9.output from hg.output).trans (G5.out.2.2.trans hI.output)
    ·rw [HTS2.out,List.map_append,List.map_singleton,HTA2.out]
     exact k2
   clear ho hg hat k1 k2 k3 k4 hkeep hc9 G2 G3 G5 HOU HT HIS
   gi_wp2
   exact HF.out
 case done=>
  rintro S W' hi hSD hdf
  obtain ⟨sv,svs,su,ht⟩:=hi.rv
  have hsz:=HSZ.out
  have hws:=hi.kp.size
  have p1:W'.frozen? ⟨w.heap.size+1,0,none⟩=false:=by simp [World.frozen?,ht.b1]
  have p2:W'.frozen? ⟨w.heap.size+1+1,0,none⟩=false:=by
   show W'.frozen? ⟨w.heap.size+2,0,none⟩=false
   simp [World.frozen?,ht.b2]
  obtain ⟨ro,rc,hrf⟩:=owns_form ht.fr.own
  subst hrf
  obtain ⟨qo,qc,hqf⟩:=owns_form ht.iw.own
  rw [List.length_map] at hqf
  subst hqf
  have c1:W'.cell? ⟨w.heap.size+1,0,none⟩=some (.slice ro (tlS ways (ext ways.length d 0)).length rc):=cell_of ht.b1
  have c2:W'.cell? ⟨w.heap.size+1+1,0,none⟩=some (.slice qo (tlS ways (ext ways.length d 0)).length qc):=cell_of ht.b2
  have HI:Hid (TlI w WN w1.heap.size ways S (ext ways.length d 0) W'):=hi
  have HT:Hid (TwoL w (WN.heap.size+2) S W' (.slice ro (tlS ways (ext ways.length d 0)).length rc) svs (.slice qo (tlS ways (ext ways.length d 0)).length qc) (tlS ways (ext ways.length d 0)) ((tlS ways (ext ways.length d 0)).map (tlA ways))):=ht
  have HSD:Hid (S WN.heap.size):=hSD
  have HDF:Hid (W'.heap[WN.heap.size]?=some (.deferred (some []))):=hdf
  have hlow:∀b,b < w.heap.size→W'.heap[b]?=w.heap[b]?:=fun b hb=>(hi.kp.block b (by omega) (by omega)).trans (HBN.out.block b hb)
  have HLOW:Hid (∀b,b < w.heap.size→W'.heap[b]?=w.heap[b]?):=hlow
  clear hi hdf ht hSD HSQ hlow hsz
  obtain ⟨T,hT⟩:∃T,T=tlS ways (ext ways.length d 0):=⟨_,rfl⟩
  rw [←hT] at c1 c2 HT
  have HTT:Hid (T=tlS ways (ext ways.length d 0)):=hT
  clear hT
  gi_wp2
  gi_region
  all_goals
   gi_wp2
   obtain ⟨W9,hW9⟩:∃W9,W9=((W'.setCell ⟨w.heap.size+1,0,none⟩ (.slice ro T.length rc)).setCell ⟨w.heap.size+1+1,0,none⟩ (.slice qo T.length qc)).drew:=⟨_,rfl⟩
   rw [←hW9]
   have q1:W9.heap[w.heap.size+1]?=some (.cells #[.slice ro T.length rc] 22 (0,0)):=by
    rw [hW9]
    exact (Below.heap_setCell _ _ _ _ (by show w.heap.size+1≠w.heap.size+1+1; omega)).trans (set_one HT.out.b1)
   have q2:W9.heap[w.heap.size+2]?=some (.cells #[.slice qo T.length qc] 26 (0,0)):=by
    rw [hW9]
    exact set_one ((Below.heap_setCell _ _ _ _ (by show w.heap.size+2≠w.heap.size+1; omega)).trans HT.out.b2)
   have q3:∀b,W9.heap[b]?=W'.heap[b]?:=fun b=>by
    by_cases e1:b=w.heap.size+1
    ·rw [e1,q1,HT.out.b1]
    ·by_cases e2:b=w.heap.size+2
     ·rw [e2,q2,HT.out.b2]
     ·rw [hW9]
      exact (Below.heap_setCell _ _ _ _ (by show b≠w.heap.size+1+1; omega)).trans (Below.heap_setCell _ _ _ _ e1)
   have q4:W9.heap.size=W'.heap.size:=by rw [hW9]; simp [World.setCell]
   have q5:W9.os=W'.os∧W9.tape=W'.tape∧W9.output=W'.output:=by rw [hW9]; exact ⟨rfl,rfl,rfl⟩
   clear hW9
   refine leaves_mks [WN.heap.size] W9 (by simp) (fun r hr=>?_) (fun wF hc=>⟨.tuple #[.slice ro T.length rc,.slice qo T.length qc,.int .i64 0],?_,?_⟩)
   ·simp only [List.mem_singleton] at hr
    subst hr
    exact (q3 _).trans HDF.out
   ·have r1:wF.cell? ⟨w.heap.size+1,0,none⟩=some (.slice ro T.length rc):=cell_of ((hc.block _ (by omega) (by simp; omega)).trans q1)
    have r2:wF.cell? ⟨w.heap.size+1+1,0,none⟩=some (.slice qo T.length qc):=cell_of ((hc.block (w.heap.size+2) (by omega) (by simp; omega)).trans q2)
    simp [results,Tryz.results10,go_sem,r1,r2]
   ·have hk:∀b,b < W'.heap.size→b≠WN.heap.size→wF.heap[b]?=W'.heap[b]?:=fun b hb hn=>(hc.block b (by omega) (by simpa using hn)).trans (q3 b)
    have tF:TwoL w (WN.heap.size+2) (fun _=>False) wF (.slice ro T.length rc) svs (.slice qo T.length qc) T (T.map (tlA ways)):=
     HT.out.keep (fun hx=>by have:=HI.out.sn _ hx; omega) (fun hx=>by have:=HI.out.sn _ hx; omega) (fun b hb hs=>hk b hb (fun e=>hs (by rw [e]; exact HSD.out))) (fun b hx=>hx.elim)
    rw [←HTT.out]
    refine ⟨ro,rc,qo,qc,rfl,fr_mat0S tF.fr.fr,?_,hc.os.trans (q5.1.trans HI.out.os),hc.tape.trans (q5.2.1.trans HI.out.tape),hc.output.trans (q5.2.2.trans HI.out.output),by have:=hc.size; omega,fun b hb=>(hk b (by omega) (by omega)).trans (HLOW.out b hb)⟩
    have:=tF.iw.own
    rw [List.length_map] at this
    exact Sl.own this
end Go.Proofs.YtcoeneldaohpnaaGreat
