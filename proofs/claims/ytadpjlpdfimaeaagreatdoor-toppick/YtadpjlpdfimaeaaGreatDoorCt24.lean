import Derived.Test.YtadpjlpdfimaeaaGreatDoorMgAE
import Derived.Test.YtadpjlpdfimaeaaGreatDoorMgBB
import Derived.Test.YtadpjlpdfimaeaaGreatDoorMgAM
import Derived.Test.YtadpjlpdfimaeaaGreatDoorMgAI
import Derived.Deep.RegionHeld3
import Derived.Deep.DeepCutAuto
namespace Go.Proofs.YtadpjlpdfimaeaaGreatDoor
open Go.RowKit
attribute [local go_sem ↓] Go.wp_at_zero Go.wp_at_succ
structure Cln (d:Nat) (x:List Int) (W W':World) (g cap:Nat):Prop where
 row:∃F:Nat→Value,W'.rowIs g 3 cap F∧∀i,i < d→F i=.int .i64 (x.getD i 0)
 dc:d≤cap
 cm:cap≤9223372036854775807
 ge:W.heap.size≤g
 bel:Below W.heap.size W W'
theorem cln_any (B d:Nat) (x:List Int) (v:Value) (W:World) (hv:Sl B 3 W v (ints x)) (hx:x.length=d) (h1:1≤d) (h4:d≤4) :
  Calls Tryz.prog 49 #[v] W fun e w'=>∃g cap,e=.returned (.slice (some ⟨g,0,none⟩) d cap)∧Cln d x W w' g cap:=by
 refine (clone_any B x v W hv (by omega)).mono ?_
 rintro e w' ⟨u,rfl,ho,hb⟩
 rw [hx] at ho
 obtain ⟨e1,h2⟩:=ho
 rcases h2 with ⟨_,h0⟩ | ⟨g,cap,cur,hu,hg,hh,hnc,hcm,hs,htk⟩
 ·omega
 ·subst hu
  refine ⟨g,cap,rfl,⟨⟨fun i=>cur.toList.getD i (.int .i64 0),⟨cur,hh,by omega,fun i hi=>?_⟩,fun i hi=>?_⟩,hnc,by unfold maxLen at hcm; exact hcm,hg,hb⟩⟩
  ·show cur[i]?=some (cur.toList.getD i (.int .i64 0))
   rw [←Array.getElem?_toList,List.getD_eq_getElem?_getD,List.getElem?_eq_getElem (by simp; omega)]; rfl
  ·have e1:cur.toList.getD i (.int .i64 0)=(ints x).getD i (.int .i64 0):=by
    rw [←htk]
    simp only [List.getD_eq_getElem?_getD]
    rw [List.getElem?_take_of_lt (by omega)]
   show cur.toList.getD i (.int .i64 0)=_
   rw [e1]
   simp [ints,show i < x.length by omega]
structure Fd (d:Nat) (W0 w:World) (q:Nat) (rv:Value) (gl cl gm cm:Nat) (A B:Nat→Int):Prop where
 fb:w.rowIs q 53 3 (fun i=>if i=0 then rv else if i=1 then .slice (some ⟨gl,0,none⟩) d cl else .slice (some ⟨gm,0,none⟩) d cm)
 lo:∃F:Nat→Value,w.rowIs gl 3 cl F∧∀i,i < d→F i=.int .i64 (A i)
 mo:∃F:Nat→Value,w.rowIs gm 3 cm F∧∀i,i < d→F i=.int .i64 (B i)
 ls:d≤cl∧cl≤9223372036854775807∧d≤cm∧cm≤9223372036854775807
 at':W0.heap.size≤q∧W0.heap.size≤gl∧W0.heap.size≤gm
 ne:q≠gl∧q≠gm∧gl≠gm
 bel:Below W0.heap.size W0 w
theorem zrow_new (w:World):((w.alloc (.cells #[.slice none 0 0,.slice none 0 0,.slice none 0 0] 53)).drew).rowIs w.heap.size 53 3 (fun _=>.slice none 0 0):=by
 have:=World.rowIs_alloc w #[.slice none 0 0,.slice none 0 0,.slice none 0 0] 53 (fun _=>.slice none 0 0) (fun i hi=>by
  rcases (show i=0∨i=1∨i=2 by simp at hi; omega) with rfl | rfl | rfl <;> rfl)
 exact this.drew
theorem Cln.keep {d:Nat} {x:List Int} {W W':World} {g cap b n:Nat} {t:TypeId} {f:Nat→Value} (hc:Cln d x W W' g cap) (h:W.rowIs b t n f):W'.rowIs b t n f:=h.of_block (hc.bel.block _ h.lt)
theorem bel3 {N q:Nat} {W w:World} (a b c:Value) (h:Below N W w) (hq:N≤q):Below N W (((w.setCell ⟨q,0,none⟩ a).setCell ⟨q,1,none⟩ b).setCell ⟨q,2,none⟩ c):=
 ((Touch.refl _ _).setCell 2 _).below (((Touch.refl _ _).setCell 1 _).below (((Touch.refl _ _).setCell 0 _).below h hq) hq) hq
theorem set3_row {w:World} {g:Nat} {t:TypeId} {F:Nat→Value} (a b c:Value) (h:w.rowIs g t 3 F):(((w.setCell ⟨g,0,none⟩ a).setCell ⟨g,1,none⟩ b).setCell ⟨g,2,none⟩ c).rowIs g t 3 (fun i=>if i=0 then a else if i=1 then b else c):=
 (((h.set 0 a).set 1 b).set 2 c).congr fun i hi=>by
  rcases (show i=0∨i=1∨i=2 by omega) with rfl | rfl | rfl <;> simp
theorem fd_set {d q g1 c1 g2 c2:Nat} {W0 w:World} {F:Nat→Value} {A B:Nat→Int} (rv:Value) (hz:w.rowIs q 53 3 F) (hl:∃F:Nat→Value,w.rowIs g1 3 c1 F∧∀i,i < d→F i=.int .i64 (A i)) (hm:∃F:Nat→Value,w.rowIs g2 3 c2 F∧∀i,i < d→F i=.int .i64 (B i)) (ls:d≤c1∧c1≤9223372036854775807∧d≤c2∧c2≤9223372036854775807) (ha:W0.heap.size≤q∧W0.heap.size≤g1∧W0.heap.size≤g2) (hne:q≠g1∧q≠g2∧g1≠g2) (hb:Below W0.heap.size W0 w) :
  Fd d W0 (((w.setCell ⟨q,0,none⟩ rv).setCell ⟨q,1,none⟩ (.slice (some ⟨g1,0,none⟩) d c1)).setCell ⟨q,2,none⟩ (.slice (some ⟨g2,0,none⟩) d c2)) q rv g1 c1 g2 c2 A B where
 fb:=set3_row _ _ _ hz
 lo:=by
  obtain ⟨F,h1,h2⟩:=hl
  exact ⟨F,((h1.setOther (a:=⟨q,0,none⟩) hne.1.symm _).setOther (a:=⟨q,1,none⟩) hne.1.symm _).setOther (a:=⟨q,2,none⟩) hne.1.symm _,h2⟩
 mo:=by
  obtain ⟨F,h1,h2⟩:=hm
  exact ⟨F,((h1.setOther (a:=⟨q,0,none⟩) hne.2.1.symm _).setOther (a:=⟨q,1,none⟩) hne.2.1.symm _).setOther (a:=⟨q,2,none⟩) hne.2.1.symm _,h2⟩
 ls:=ls
 at':=ha
 ne:=hne
 bel:=bel3 _ _ _ hb ha.1
theorem fdC {d g1 c1 g2 c2:Nat} {x:List Int} {w1 w2 w3:World} (rv:Value) (h1:Cln d x w1.drew w2 g1 c1) (h2:Cln d x w2 w3 g2 c2) :
  Fd d w1 (w3.alloc (.cells #[rv,.slice (some ⟨g1,0,none⟩) d c1,.slice (some ⟨g2,0,none⟩) d c2] 53)) w3.heap.size rv g1 c1 g2 c2 (fun i=>x.getD i 0) (fun i=>x.getD i 0):=by
 obtain ⟨F1,r1,f1⟩:=h1.row
 obtain ⟨F2,r2,f2⟩:=h2.row
 have b12:Below w1.heap.size w1 w2:=((Below.refl w1.heap.size w1).drew).trans h1.bel
 have b23:Below w1.heap.size w1 w3:=b12.trans (h2.bel.mono b12.size)
 have l1:=r1.lt
 have l2:=r2.lt
 have l3:=h2.bel.size
 have l4:=h2.ge
 have l5:w1.heap.size≤g1:=h1.ge
 have l6:=b12.size
 have hf:=World.rowIs_alloc w3 #[rv,.slice (some ⟨g1,0,none⟩) d c1,.slice (some ⟨g2,0,none⟩) d c2] 53 (fun i=>if i=0 then rv else if i=1 then .slice (some ⟨g1,0,none⟩) d c1 else .slice (some ⟨g2,0,none⟩) d c2) (fun i hi=>by
  rcases (show i=0∨i=1∨i=2 by simp at hi; omega) with rfl | rfl | rfl <;> rfl)
 exact ⟨hf,⟨F1,(h2.keep r1).alloc _,f1⟩,⟨F2,r2.alloc _,f2⟩,⟨h1.dc,h1.cm,h2.dc,h2.cm⟩,⟨b23.size,l5,by omega⟩,⟨by omega,by omega,by omega⟩,b23.alloc b23.size _⟩
theorem fdB {d g1 c1 g2 c2:Nat} {x:List Int} {w1 w2 w3:World} {o:Obj} {F:Nat→Value} (rv:Value) (h1:Cln d x w1.drew w2 g1 c1) (h2:Cln d x (w2.alloc o) w3 g2 c2) (hz:w3.rowIs w2.heap.size 53 3 F) :
  Fd d w1 (((w3.setCell ⟨w2.heap.size,0,none⟩ rv).setCell ⟨w2.heap.size,1,none⟩ (.slice (some ⟨g1,0,none⟩) d c1)).setCell ⟨w2.heap.size,2,none⟩ (.slice (some ⟨g2,0,none⟩) d c2)) w2.heap.size rv g1 c1 g2 c2 (fun i=>x.getD i 0) (fun i=>x.getD i 0):=by
 obtain ⟨F1,r1,f1⟩:=h1.row
 obtain ⟨F2,r2,f2⟩:=h2.row
 have b12:Below w1.heap.size w1 w2:=((Below.refl w1.heap.size w1).drew).trans h1.bel
 have b12':Below w1.heap.size w1 (w2.alloc o):=b12.alloc b12.size _
 have b23:Below w1.heap.size w1 w3:=b12'.trans (h2.bel.mono b12'.size)
 have l1:=r1.lt
 have l4:=h2.ge
 have l7:(w2.alloc o).heap.size=w2.heap.size+1:=by simp
 have l5:w1.heap.size≤g1:=h1.ge
 have l6:=b12.size
 exact fd_set rv hz ⟨F1,h2.keep (r1.alloc _),f1⟩ ⟨F2,r2,f2⟩ ⟨h1.dc,h1.cm,h2.dc,h2.cm⟩ ⟨l6,l5,by omega⟩ ⟨by omega,by omega,by omega⟩ b23
theorem fdA {d g1 c1 g2 c2:Nat} {x:List Int} {w1 w2 w3:World} {o:Obj} {F:Nat→Value} (rv:Value) (h1:Cln d x (w1.alloc o).drew w2 g1 c1) (h2:Cln d x w2 w3 g2 c2) (hz:w3.rowIs w1.heap.size 53 3 F) :
  Fd d w1 (((w3.setCell ⟨w1.heap.size,0,none⟩ rv).setCell ⟨w1.heap.size,1,none⟩ (.slice (some ⟨g1,0,none⟩) d c1)).setCell ⟨w1.heap.size,2,none⟩ (.slice (some ⟨g2,0,none⟩) d c2)) w1.heap.size rv g1 c1 g2 c2 (fun i=>x.getD i 0) (fun i=>x.getD i 0):=by
 obtain ⟨F1,r1,f1⟩:=h1.row
 obtain ⟨F2,r2,f2⟩:=h2.row
 have b1:Below w1.heap.size w1 (w1.alloc o).drew:=((Below.refl w1.heap.size w1).alloc (Nat.le_refl _) _).drew
 have b12:Below w1.heap.size w1 w2:=b1.trans (h1.bel.mono b1.size)
 have b23:Below w1.heap.size w1 w3:=b12.trans (h2.bel.mono b12.size)
 have l1:=r1.lt
 have l4:=h2.ge
 have l5:=h1.ge
 have l7:(w1.alloc o).drew.heap.size=w1.heap.size+1:=by simp
 have l6:=b12.size
 exact fd_set rv hz ⟨F1,h2.keep r1,f1⟩ ⟨F2,r2,f2⟩ ⟨h1.dc,h1.cm,h2.dc,h2.cm⟩ ⟨Nat.le_refl _,by omega,by omega⟩ ⟨by omega,by omega,by omega⟩ b23
theorem Fd.drew {d q gl cl gm cm:Nat} {W0 w:World} {rv:Value} {A B:Nat→Int} (h:Fd d W0 w q rv gl cl gm cm A B):Fd d W0 w.drew q rv gl cl gm cm A B:=
 ⟨h.fb.drew,h.lo,h.mo,h.ls,h.at',h.ne,h.bel.drew⟩
theorem row_sl {w:World} {g cap n:Nat} {F:Nat→Value} {l:List Int} (r:w.rowIs g 3 cap F) (hF:∀i,i < n→F i=.int .i64 (l.getD i 0)) (hl:l.length=n) (hn:n≤cap) (hc:cap≤9223372036854775807):Sl w.heap.size 3 w (.slice (some ⟨g,0,none⟩) n cap) (ints l):=by
 refine ⟨some ⟨g,0,none⟩,cap,by simp [hl],by simpa [hl] using hn,by unfold maxLen; omega,fun i hi=>?_,fun h=>by cases h⟩
 have hi':i < l.length:=by simpa using hi
 refine ⟨g,0,rfl,?_,Or.inl r.lt⟩
 rw [Nat.zero_add,r.cell (by omega),hF i (by omega),ints_get _ _ hi']
theorem set3_fr {B p:Nat} {w:World} {v:Value} {m:List (List Int)} {F:Nat→Value} (a b c:Value) (h:Fr B 22 3 w v m) (hp:p < B) (r:w.rowIs p 53 3 F):Fr B 22 3 (((w.setCell ⟨p,0,none⟩ a).setCell ⟨p,1,none⟩ b).setCell ⟨p,2,none⟩ c) v m:=by
 obtain ⟨c0,e0,_,_⟩:=r
 obtain ⟨c1,e1,_,_⟩:=(World.rowIs.set (f:=F) ⟨c0,e0,by assumption,by assumption⟩ 0 a)
 obtain ⟨c2,e2,_,_⟩:=(World.rowIs.set (World.rowIs.set (f:=F) ⟨c0,e0,by assumption,by assumption⟩ 0 a) 1 b)
 exact ((h.set hp e0 (by decide)).set hp e1 (by decide)).set hp e2 (by decide)
theorem min_ifF (a z:Int):(if z < a then z else a)=min a z:=by split <;> omega
theorem max_ifF (a z:Int):(if a < z then z else a)=max a z:=by split <;> omega
theorem Fd.put {d q gl cl gm cm c:Nat} {W0 w w':World} {rv:Value} {A B A' B':Nat→Int} (h:Fd d W0 w q rv gl cl gm cm A B) (a b:Int) (hA:∀i,i < d→A' i=if i=c then a else A i) (hB:∀i,i < d→B' i=if i=c then b else B i)
  (hw:w'=(w.setCell ⟨gl,c,none⟩ (.int .i64 a)).setCell ⟨gm,c,none⟩ (.int .i64 b)):Fd d W0 w' q rv gl cl gm cm A' B':=by
 subst hw
 obtain ⟨F1,r1,f1⟩:=h.lo
 obtain ⟨F2,r2,f2⟩:=h.mo
 obtain ⟨n1,n2,n3⟩:=h.ne
 refine ⟨(h.fb.setOther (a:=⟨gl,c,none⟩) n1 _).setOther (a:=⟨gm,c,none⟩) n2 _,⟨_,(r1.set c _).setOther (a:=⟨gm,c,none⟩) n3 _,fun i hi=>?_⟩,⟨_,(r2.setOther (a:=⟨gl,c,none⟩) n3.symm _).set c _,fun i hi=>?_⟩,h.ls,h.at',h.ne,((Touch.refl _ _).setCell c _).below (((Touch.refl _ _).setCell c _).below h.bel h.at'.2.1) h.at'.2.2⟩
 ·show (if i=c then Value.int .i64 a else F1 i)=_
  rw [hA i hi]
  by_cases e:i=c
  ·rw [if_pos e,if_pos e]
  ·rw [if_neg e,if_neg e,f1 i hi]
 ·show (if i=c then Value.int .i64 b else F2 i)=_
  rw [hB i hi]
  by_cases e:i=c
  ·rw [if_pos e,if_pos e]
  ·rw [if_neg e,if_neg e,f2 i hi]
set_option maxRecDepth 100000 in
set_option maxHeartbeats 1600000 in
theorem field_core (d:Nat) (P s:List (List Int)) (v:Value) (w:World) (hv:Mat w.heap.size 22 3 w v P) (h1:1≤d) (h3:d≤3) (hn:2≤P.length) (hn24:P.length≤24) (hbx:∀x∈P,x.length=d)
  (hro:∀W,Mat W.heap.size 22 3 W v P→Calls Tryz.prog 50 #[.agg #[.int .i64 d,v]] W fun e w'=>∃ro rc,e=.returned (.tuple #[.slice ro s.length rc,.int .i64 0])∧(Fr W.heap.size 22 3 w' (.slice ro s.length rc) s∧Below W.heap.size W w')) :
  Calls Tryz.prog 25 #[.agg #[.int .i64 d,v]] w fun e w'=>∃ro rl rc lo ll lc mo ml mc,e=.returned (.tuple #[.agg #[.slice ro rl rc,.slice lo ll lc,.slice mo ml mc],.int .i64 0])∧(Mat w'.heap.size 22 3 w' (.slice ro rl rc) s∧Sl w'.heap.size 3 w' (.slice lo ll lc) (ints (loL P d))∧Sl w'.heap.size 3 w' (.slice mo ml mc) (ints (hiL P d))∧Below w.heap.size w w'):=by
 obtain ⟨b,o,cap,x0v,hvv,hlc,hx0c,hx0⟩:=mat_cell hv (k:=0) (by omega)
 have hl0:(P.getD 0 []).length=d:=hbx _ (by simp [show 0 < P.length by omega])
 obtain ⟨xo,xc,hxv,_,_⟩:=sl_open hx0
 rw [hl0] at hxv
 subst hxv
 obtain ⟨vl,hvl⟩:∃vl,vl=P.length:=⟨_,rfl⟩
 rw [←hvl] at hvv
 have HVL:Hid (vl=P.length):=hvl
 subst hvv
 obtain ⟨W,hW⟩:∃W,W=(w.alloc (.cells #[.int .i64 d,.slice (some ⟨b,o,none⟩) vl cap] 25)).alloc (.cells #[.slice none 0 0,.slice none 0 0,.slice none 0 0] 53):=⟨_,rfl⟩
 obtain ⟨p,hp⟩:∃p,p=w.heap.size:=⟨_,rfl⟩
 have hbw:Below w.heap.size w W:=by rw [hW]; exact ((Below.refl _ _).alloc (Nat.le_refl _) _).alloc (by simp) _
 have HW:Hid (Below w.heap.size w W):=hbw
 have hsW:W.heap.size=p+2:=by rw [hW,hp]; simp
 have c1:W.cell? ⟨p,1,none⟩=some (.slice (some ⟨b,o,none⟩) vl cap):=by rw [hW,hp]; simp
 have hvW:Mat W.heap.size 22 3 W (.slice (some ⟨b,o,none⟩) vl cap) P:=(hv.below hbw (Nat.le_refl _)).any (Nat.le_refl _)
 have hrb:W.rowIs (p+1) 53 3 (fun _=>.slice none 0 0):=by
  rw [hW,hp]
  have:=World.rowIs_alloc (w.alloc (.cells #[.int .i64 d,.slice (some ⟨b,o,none⟩) vl cap] 25)) #[.slice none 0 0,.slice none 0 0,.slice none 0 0] 53 (fun _=>.slice none 0 0) (fun i hi=>by
   rcases (show i=0∨i=1∨i=2 by simp at hi; omega) with rfl | rfl | rfl <;> rfl)
  simpa using this
 have HRB:Hid (W.rowIs (p+1) 53 3 (fun _=>.slice none 0 0)):=hrb
 have HRO:Hid (Calls Tryz.prog 50 #[.agg #[.int .i64 d,.slice (some ⟨b,o,none⟩) vl cap]] W fun e w'=>∃ro rc,e=.returned (.tuple #[.slice ro s.length rc,.int .i64 0])∧(Fr W.heap.size 22 3 w' (.slice ro s.length rc) s∧Below W.heap.size W w')):=hro W hvW
 have HC:Hid (∀W',Below W.heap.size W W'→W'.cell? ⟨p,1,none⟩=some (.slice (some ⟨b,o,none⟩) vl cap)∧W'.cell? ⟨b,o,none⟩=some (.slice xo d xc)):=fun W' hB=>⟨(hB.cell (lt_of_cell c1)).trans c1,by
  have q:=(hbw.cell (lt_of_cell hx0c)).trans hx0c
  exact (hB.cell (lt_of_cell q)).trans q⟩
 have HCL:Hid (∀W',Below W.heap.size W W'→Calls Tryz.prog 49 #[.slice xo d xc] W' fun e w'=>∃g cap,e=.returned (.slice (some ⟨g,0,none⟩) d cap)∧(Cln d (P.getD 0 []) W' w' g cap∧Below W.heap.size W w')):=fun W' hB=>
  (cln_any _ d (P.getD 0 []) _ W' (((hx0.below hbw (Nat.le_refl _)).below hB (by omega)).any (Nat.le_refl _)) hl0 h1 (by omega)).mono fun e w' ⟨g,cap,e1,e2⟩=>⟨g,cap,e1,e2,hB.trans (e2.bel.mono hB.size)⟩
 have HVW:Hid (∀W',Below W.heap.size W W'→Mat W'.heap.size 22 3 W' (.slice (some ⟨b,o,none⟩) vl cap) P):=fun W' hB=>(hvW.below hB (Nat.le_refl _)).any (Nat.le_refl _)
 have HSZ:Hid (W.heap.size=p+2∧p=w.heap.size):=⟨hsW,hp⟩
 have HPD:Hid (∀k,k < vl→(P.getD k []).length=d):=fun k hk=>hbx _ (by simp [show k < P.length by omega])
 have hlcI:(0:Int) < (vl:Int):=by omega
 have hlcN:0 < vl:=by omega
 have hvl24:vl≤24:=by omega
 clear hv hx0 hx0c hbw hvW hrb hl0 hro hbx hsW hvl hn hn24
 go_enter Tryz.func25,Tryz.ntmps25
 go_wp2_with fail
 rw [←hW]
 clear hW
 try rw [←hp]
 clear hp
 refine HRO.out.mono ?_
 rintro e w1 ⟨ro,rc,rfl,hs1,hb1⟩
 have HS1:Hid (Fr W.heap.size 22 3 w1 (.slice ro s.length rc) s):=hs1
 have HB1:Hid (Below W.heap.size W w1):=hb1
 clear hs1 hb1
 have k1:=(HC.out w1 HB1.out).1
 have k2:=(HC.out w1 HB1.out).2
 clear c1
 go_upto_region 4 with fail
 go_cut [6] (fun x wx=>∃q gl cl gm cm,x=.pointer (some ⟨q,0,none⟩)∧Fd d w1 wx q (.slice ro s.length rc) gl cl gm cm (fun i=>(P.getD 0 []).getD i 0) (fun i=>(P.getD 0 []).getD i 0))
 case first=>
  go_region_held3 (fun w'=>w'.cell? ⟨p,1,none⟩=some (.slice (some ⟨b,o,none⟩) vl cap)∧w'.cell? ⟨b,o,none⟩=some (.slice xo d xc)) (first | exact KS.out | exact HC.out _ (HB3.out.alloc HB3.out.size _) | exact HC.out _ (HB2.out.alloc HB2.out.size _) | exact HC.out _ (HB1.out.alloc HB1.out.size _) | exact HC.out _ (bel3 _ _ _ HB3.out HB2.out.size) | exact HC.out _ (bel3 _ _ _ HB3.out HB1.out.size) | go_keep)
   (first
    | (go_at_call 49; refine (HCL.out _ ?hB).mono ?_; (case hB=>first | exact HB2.out | exact HB2.out.drew | exact HB2.out.alloc HB2.out.size _ | exact (HB2.out.alloc HB2.out.size _).drew); rintro e w3 ⟨g2,cp2,rfl,hc2,hb3⟩; have HC2:Hid _:=hc2; have HB3:Hid (Below W.heap.size W w3):=hb3; (first | have HZ2:Hid (w3.rowIs w1.heap.size 53 3 (fun _=>.slice none 0 0)):=hc2.keep HZ.out.drew | have HZ2:Hid (w3.rowIs w2.heap.size 53 3 (fun _=>.slice none 0 0)):=hc2.keep (zrow_new w2) | skip); (try have z0:=HZ2.out.cell (i:=0) (by decide)); (try have z1:=HZ2.out.cell (i:=1) (by decide)); (try have z2:=HZ2.out.cell (i:=2) (by decide)); (try have y0:=HZ2.out.frozen 0); (try have y1:=HZ2.out.frozen 1); (try have y2:=HZ2.out.frozen 2); clear KS hc2 hb3; have KS:Hid _:=HC.out w3 HB3.out)
    | (go_at_call 49; refine (HCL.out _ ?hB).mono ?_; (case hB=>first | exact HB1.out | exact HB1.out.drew | exact HB1.out.alloc HB1.out.size _ | exact (HB1.out.alloc HB1.out.size _).drew); rintro e w2 ⟨g1,cp1,rfl,hc1,hb2⟩; have HC1:Hid _:=hc1; have HB2:Hid (Below W.heap.size W w2):=hb2; (first | have HZ:Hid (w2.rowIs w1.heap.size 53 3 (fun _=>.slice none 0 0)):=hc1.keep (zrow_new w1) | skip); clear hc1 hb2; have KS:Hid _:=HC.out w2 HB2.out))
  all_goals go_wp2_with fail
  all_goals go_meet
  all_goals first | exact ⟨_,_,_,_,_,rfl,fdC _ HC1.out HC2.out⟩ | exact ⟨_,_,_,_,_,rfl,fdB _ HC1.out HC2.out HZ2.out⟩ | exact ⟨_,_,_,_,_,rfl,fdA _ HC1.out HC2.out HZ2.out⟩
 case rest=>
  obtain ⟨q,gl,cl,gm,cm,rfl,hfd⟩:=hcut
  have HFD:Hid (Fd d w1 wc q (.slice ro s.length rc) gl cl gm cm (fun i=>loT P i 0) (fun i=>hiT P i 0)):=hfd
  have HKP:Hid (∀W',Below w1.heap.size w1 W'→Below W.heap.size W W'):=fun W' hB=>HB1.out.trans (hB.mono HB1.out.size)
  have m1:=(HC.out wc (HKP.out _ HFD.out.bel)).1
  clear hfd k1 k2 HCL HRO
  go_wp2
  go_loopw [8,9,10,35] (fun _ _ _ i wr=>∃j:Nat,j≤vl∧i=.int .i64 j∧Fd d w1 wr q (.slice ro s.length rc) gl cl gm cm (fun i=>loT P i j) (fun i=>hiT P i j)) (fun _ _ _ i _=>vl-(intOf i).toNat)
  case atStart=>exact ⟨0,Nat.zero_le _,rfl,HFD.out⟩
  case round=>
   obtain ⟨j,hj,rfl,hfd⟩:=hrel
   have HF:Hid (Fd d w1 wr q (.slice ro s.length rc) gl cl gm cm (fun i=>loT P i j) (fun i=>hiT P i j)):=hfd
   clear hfd
   by_cases hjl:j < vl
   ·obtain ⟨b',o',cap',xv,hvv,_,hxc,hx⟩:=mat_cell (HVW.out w1 HB1.out) (k:=j) (by have:=HVL.out; omega)
    simp only [Value.slice.injEq,Option.some.injEq,Addr.mk.injEq,and_true] at hvv
    obtain ⟨⟨rfl,rfl⟩,_,rfl⟩:=hvv
    obtain ⟨xb,xf,xcap,hxv,_,_⟩:=sl_cell hx (k:=0) (by rw [HPD.out j hjl]; omega)
    rw [HPD.out j hjl] at hxv
    subst hxv
    have HX:Hid (∀W',Below w1.heap.size w1 W'→∀c,c < d→W'.cell? ⟨xb,xf+c,none⟩=some (.int .i64 ((P.getD j []).getD c 0))):=fun W' hB c hc=>by
     obtain ⟨b2,o2,cap2,hv2,_,hc2⟩:=sl_cell hx (k:=c) (by rw [HPD.out j hjl]; omega)
     rw [HPD.out j hjl] at hv2
     simp only [Value.slice.injEq,Option.some.injEq,Addr.mk.injEq,and_true,true_and] at hv2
     obtain ⟨⟨rfl,rfl⟩,rfl⟩:=hv2
     exact (hB.cell (lt_of_cell hc2)).trans hc2
    have HL:Hid (∀c,c < d→loT P c (j+1)=min (loT P c j) ((P.getD j []).getD c 0)∧hiT P c (j+1)=max (hiT P c j) ((P.getD j []).getD c 0)):=fun c hc=>⟨loT_succ P c j (by have:=HVL.out; omega),hiT_succ P c j (by have:=HVL.out; omega)⟩
    have m2:wr.cell? ⟨b,o+j,none⟩=some (.slice (some ⟨xb,xf,none⟩) d xcap):=(HF.out.bel.cell (lt_of_cell hxc)).trans hxc
    have hjI:(j:Int) < (vl:Int):=by omega
    have hjI0:(0:Int)≤(j:Int):=by omega
    rename World=>wa
    clear hx hxc m1
    go_wp2
    go_loopw [9,10,41] (fun _ _ i wq=>∃c:Nat,c≤d∧i=.int .i64 c∧Fd d w1 wq q (.slice ro s.length rc) gl cl gm cm (fun t=>if t < c then loT P t (j+1) else loT P t j) (fun t=>if t < c then hiT P t (j+1) else hiT P t j)) (fun _ _ i _=>d-(intOf i).toNat)
    case atStart=>exact ⟨0,Nat.zero_le _,rfl,by simpa using HF.out⟩
    case round=>
     obtain ⟨c,hc,rfl,hfd⟩:=hrel
     have HG:Hid (Fd d w1 wr q (.slice ro s.length rc) gl cl gm cm (fun t=>if t < c then loT P t (j+1) else loT P t j) (fun t=>if t < c then hiT P t (j+1) else hiT P t j)):=hfd
     clear hfd
     by_cases hcd:c < d
     ·have n1:=HX.out wr HG.out.bel c hcd
      have n2:=HG.out.fb.cell (i:=1) (by decide)
      have n3:=HG.out.fb.cell (i:=2) (by decide)
      simp only [if_neg (show ¬(1:Nat)=0 by decide),if_neg (show ¬(2:Nat)=0 by decide),if_neg (show ¬(2:Nat)=1 by decide),if_true] at n2 n3
      obtain ⟨F1,r1,f1⟩:=HG.out.lo
      obtain ⟨F2,r2,f2⟩:=HG.out.mo
      have hls:=HG.out.ls
      have n4:=r1.cell (i:=c) (by omega)
      have n5:=r2.cell (i:=c) (by omega)
      have n6:=r1.frozen c
      have n7:=r2.frozen c
      rw [f1 c hcd,if_neg (Nat.lt_irrefl c)] at n4
      rw [f2 c hcd,if_neg (Nat.lt_irrefl c)] at n5
      have hne:=HG.out.ne
      have HP:Hid (∀w',w'=(wr.setCell ⟨gl,c,none⟩ (.int .i64 (min (loT P c j) ((P.getD j []).getD c 0)))).setCell ⟨gm,c,none⟩ (.int .i64 (max (hiT P c j) ((P.getD j []).getD c 0)))→Fd d w1 w' q (.slice ro s.length rc) gl cl gm cm (fun t=>if t < c+1 then loT P t (j+1) else loT P t j) (fun t=>if t < c+1 then hiT P t (j+1) else hiT P t j)):=fun w' hw=>by
       refine HG.out.put (c:=c) _ _ (fun i hi=>?_) (fun i hi=>?_) hw
       ·by_cases e:i=c
        ·rw [if_pos e,e,if_pos (by omega),(HL.out c hcd).1]
        ·rw [if_neg e]
         by_cases e2:i < c
         ·rw [if_pos e2,if_pos (by omega)]
         ·rw [if_neg e2,if_neg (by omega)]
       ·by_cases e:i=c
        ·rw [if_pos e,e,if_pos (by omega),(HL.out c hcd).2]
        ·rw [if_neg e]
         by_cases e2:i < c
         ·rw [if_pos e2,if_pos (by omega)]
         ·rw [if_neg e2,if_neg (by omega)]
      generalize loT P c j=za at *
      generalize hiT P c j=zb at *
      generalize (P.getD j []).getD c 0=zx at *
      obtain ⟨ne1,ne2,ne3⟩:=hne
      have hcI:(c:Int) < (d:Int):=by omega
      have hcI0:(0:Int)≤(c:Int):=by omega
      clear r1 r2 f1 f2 hls
      go_wp2
      go_region
      try rw [min_ifF]
      try rw [max_ifF]
      go_wp2
      exact ⟨⟨c+1,hcd,by go_num,(HP.out _ rfl).drew⟩,by simp [intOf]; omega⟩
     ·have hcI:¬((c:Int) < (d:Int)):=by omega
      have hce:c=d:=by omega
      have HG2:Hid (Fd d w1 wr q (.slice ro s.length rc) gl cl gm cm (fun t=>loT P t (j+1)) (fun t=>hiT P t (j+1))):=by
       obtain ⟨a1,⟨F1,r1,f1⟩,⟨F2,r2,f2⟩,a4,a5,a6,a7⟩:=HG.out
       exact ⟨a1,⟨F1,r1,fun i hi=>by rw [f1 i hi,if_pos (by omega)]⟩,⟨F2,r2,fun i hi=>by rw [f2 i hi,if_pos (by omega)]⟩,a4,a5,a6,a7⟩
      clear hc hcd
      go_wp2
      exact ⟨⟨j+1,by omega,by go_num,HG2.out⟩,by simp [intOf]; omega⟩
   ·have hjI:¬((j:Int) < (vl:Int)):=by omega
    have hje:j=P.length:=by have:=HVL.out; omega
    have HRW:Hid (wr.rowIs (p+1) 53 3 (fun _=>.slice none 0 0)):=HRB.out.of_block ((HKP.out _ HF.out.bel).block _ HRB.out.lt)
    have y0:=HRW.out.cell (i:=0) (by decide)
    have y1:=HRW.out.cell (i:=1) (by decide)
    have y2:=HRW.out.cell (i:=2) (by decide)
    have y3:=HRW.out.frozen 0
    have y4:=HRW.out.frozen 1
    have y5:=HRW.out.frozen 2
    have x0:=HF.out.fb.cell (i:=0) (by decide)
    have x1:=HF.out.fb.cell (i:=1) (by decide)
    have x2:=HF.out.fb.cell (i:=2) (by decide)
    simp only [if_neg (show ¬(1:Nat)=0 by decide),if_neg (show ¬(2:Nat)=0 by decide),if_neg (show ¬(2:Nat)=1 by decide),if_true] at x0 x1 x2
    have HEND:Hid (∀a b' c,Mat (((wr.setCell ⟨p+1,0,none⟩ a).setCell ⟨p+1,1,none⟩ b').setCell ⟨p+1,2,none⟩ c).heap.size 22 3 (((wr.setCell ⟨p+1,0,none⟩ a).setCell ⟨p+1,1,none⟩ b').setCell ⟨p+1,2,none⟩ c) (.slice ro s.length rc) s∧Sl (((wr.setCell ⟨p+1,0,none⟩ a).setCell ⟨p+1,1,none⟩ b').setCell ⟨p+1,2,none⟩ c).heap.size 3 (((wr.setCell ⟨p+1,0,none⟩ a).setCell ⟨p+1,1,none⟩ b').setCell ⟨p+1,2,none⟩ c) (.slice (some ⟨gl,0,none⟩) d cl) (ints (loL P d))∧Sl (((wr.setCell ⟨p+1,0,none⟩ a).setCell ⟨p+1,1,none⟩ b').setCell ⟨p+1,2,none⟩ c).heap.size 3 (((wr.setCell ⟨p+1,0,none⟩ a).setCell ⟨p+1,1,none⟩ b').setCell ⟨p+1,2,none⟩ c) (.slice (some ⟨gm,0,none⟩) d cm) (ints (hiL P d))∧Below w.heap.size w (((wr.setCell ⟨p+1,0,none⟩ a).setCell ⟨p+1,1,none⟩ b').setCell ⟨p+1,2,none⟩ c)):=fun a b' c=>by
     obtain ⟨F1,r1,f1⟩:=HF.out.lo
     obtain ⟨F2,r2,f2⟩:=HF.out.mo
     obtain ⟨k1,k2⟩:=HSZ.out
     have hat:=HF.out.at'
     have h1s:=HB1.out.size
     have hls:=HF.out.ls
     have hfr:=set3_fr a b' c (HS1.out.below HF.out.bel (Nat.le_refl _)) (by omega) HRW.out
     have e1:p+1≠gl:=by omega
     have e2:p+1≠gm:=by omega
     have hbw:Below w.heap.size w wr:=HW.out.trans ((HKP.out _ HF.out.bel).mono (by omega))
     have hb3:=bel3 a b' c hbw (show w.heap.size≤p+1 by omega)
     have s1:=(((r1.setOther (a:=⟨p+1,0,none⟩) e1.symm a).setOther (a:=⟨p+1,1,none⟩) e1.symm b').setOther (a:=⟨p+1,2,none⟩) e1.symm c)
     have s2:=(((r2.setOther (a:=⟨p+1,0,none⟩) e2.symm a).setOther (a:=⟨p+1,1,none⟩) e2.symm b').setOther (a:=⟨p+1,2,none⟩) e2.symm c)
     refine ⟨hfr.rws.mat (by have:=hb3.size; have:=(bel3 a b' c (HKP.out _ HF.out.bel) (show W.heap.size≤p+2 by omega)).size; simp at *; omega),row_sl s1 (fun i hi=>by rw [f1 i hi,hje]; simp [loL,hi]) (by simp [loL]) hls.1 hls.2.1,row_sl s2 (fun i hi=>by rw [f2 i hi,hje]; simp [hiL,hi]) (by simp [hiL]) hls.2.2.1 hls.2.2.2,hb3⟩
    clear hje
    go_wp2
    have hE:=HEND.out (.slice ro s.length rc) (.slice (some ⟨gl,0,none⟩) d cl) (.slice (some ⟨gm,0,none⟩) d cm)
    have HR3:=set3_row (.slice ro s.length rc) (.slice (some ⟨gl,0,none⟩) d cl) (.slice (some ⟨gm,0,none⟩) d cm) HRW.out
    obtain ⟨Wf,hWf⟩:∃Wf,Wf=(((wr.setCell ⟨p+1,0,none⟩ (.slice ro s.length rc)).setCell ⟨p+1,1,none⟩ (.slice (some ⟨gl,0,none⟩) d cl)).setCell ⟨p+1,2,none⟩ (.slice (some ⟨gm,0,none⟩) d cm)):=⟨_,rfl⟩
    rw [←hWf] at hE HR3 ⊢
    have q0:=HR3.cell (i:=0) (by decide)
    have q1:=HR3.cell (i:=1) (by decide)
    have q2:=HR3.cell (i:=2) (by decide)
    simp only [if_neg (show ¬(1:Nat)=0 by decide),if_neg (show ¬(2:Nat)=0 by decide),if_neg (show ¬(2:Nat)=1 by decide),if_true] at q0 q1 q2
    have HEE:Hid _:=hE
    clear hWf hE HR3 y0 y1 y2 y3 y4 y5 x0 x1 x2
    (try simp only [Exit.inBlock,Exit.then])
    refine bodyPost_ret (v:=.tuple #[.agg #[.slice ro s.length rc,.slice (some ⟨gl,0,none⟩) d cl,.slice (some ⟨gm,0,none⟩) d cm],.int .i64 0]) (by simp [results,Tryz.results25,go_sem,q0,q1,q2]) rfl ?_
    exact ⟨ro,s.length,rc,some ⟨gl,0,none⟩,d,cl,some ⟨gm,0,none⟩,d,cm,rfl,HEE.out⟩
end Go.Proofs.YtadpjlpdfimaeaaGreatDoor
