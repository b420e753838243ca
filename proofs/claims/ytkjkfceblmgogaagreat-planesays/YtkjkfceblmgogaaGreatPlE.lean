import Derived.Test.YtkjkfceblmgogaaGreatLsA
set_option maxRecDepth 100000
set_option maxHeartbeats 4000000
namespace Go.Proofs.YtkjkfceblmgogaaGreat
open Go.RowKit Lin
attribute [local go_sem ↓] Go.wp_at_zero Go.wp_at_succ
def pnE(dm:Int)(P:List (List Int)):Int:=if dm < 1∨3 < dm then 1 else if 6 < P.length then 2 else ZJ6 dm.toNat P
theorem ZRK{dm:Int}{P:List (List Int)}(h:pnE dm P=0):∃d:Nat,dm=d∧1≤d∧d≤3∧P.length≤6∧PlG d P:=by
 unfold pnE at h
 split at h
 ·simp at h
 ·rename_i h1
  split at h
  ·simp at h
  ·rename_i h2
   have b:=fun k a=>ZGD (ZLc h k a)
   refine ⟨dm.toNat,by omega,by omega,by omega,by omega,⟨fun p hp=>?_,fun p hp=>?_,fun i k hik a=>?_⟩⟩
   ·obtain ⟨k,a,rfl⟩:=List.getElem_of_mem hp
    have:=(b k a).1
    simpa [a] using this
   ·obtain ⟨k,a,rfl⟩:=List.getElem_of_mem hp
    have:=(b k a).2.1
    simpa [a] using this
   ·refine (b k a).2.2 _ ?_
    have c:i < (P.take k).length:=by rw [List.length_take]; omega
    have:P.getD i []=(P.take k)[i]:=by simp [show i < P.length by omega]
    rw [this]; exact List.getElem_mem c
theorem ZFD{B0:Nat}(dm:Int)(P:List (List Int))(v:Value)(w:World)(hv:Mat B0 27 3 w v P)(h:dm < 1∨3 < dm) :
  Calls Tryz.prog 14 #[.int .i64 dm,v] w fun e w'=>e=.returned (.int .i64 1)∧Below w.heap.size w w':=by
 obtain ⟨j,d,b,g,f⟩:=ZAD hv;subst b;clear hv
 by_cases h1:dm < 1
 ·have a:decide (dm < 1)=true:=decide_eq_true h1
  go_enter Tryz.func14,Tryz.ntmps14;go_wp2;go_ret;exact ⟨rfl,Below.refl _ _⟩
 ·have i:3 < dm:=by omega
  have a:decide (dm < 1)=false:=decide_eq_false h1;have c:decide (3 < dm)=true:=decide_eq_true i;go_enter Tryz.func14,Tryz.ntmps14;go_wp2;go_ret;exact ⟨rfl,Below.refl _ _⟩
theorem ZE0{B0:Nat}(d:Nat)(P:List (List Int))(v:Value)(w:World)(hv:Mat B0 27 3 w v P)(h1:1≤d)(h4:d≤3)(h12:6 < P.length) :
  Calls Tryz.prog 14 #[.int .i64 d,v] w fun e w'=>e=.returned (.int .i64 2)∧Below w.heap.size w w':=by
 obtain ⟨n,j,a,m,l⟩:=ZAD hv;subst a;clear hv
 have b:¬(d:Int) < 1:=by omega
 have g:decide ((d:Int) < 1)=false:=decide_eq_false b
 have f:¬(3:Int) < (d:Int):=by omega
 have i:decide ((3:Int) < (d:Int))=false:=decide_eq_false f
 have c:decide ((6:Int) < (P.length:Int))=true:=decide_eq_true (by omega)
 go_enter Tryz.func14,Tryz.ntmps14;go_wp2;go_ret;exact ⟨rfl,Below.refl _ _⟩
theorem ZBK{B0:Nat}(dm:Int)(P:List (List Int))(v:Value)(w:World)(hv:Mat B0 27 3 w v P) :
  Calls Tryz.prog 14 #[.int .i64 dm,v] w fun e w'=>e=.returned (.int .i64 (pnE dm P))∧Below w.heap.size w w':=by
 unfold pnE
 by_cases h:dm < 1∨3 < dm
 ·rw [if_pos h]; exact ZFD dm P v w hv h
 ·rw [if_neg h]
  obtain ⟨d,rfl⟩:∃d:Nat,dm=d:=⟨dm.toNat,by omega⟩
  by_cases h2:6 < P.length
  ·rw [if_pos h2]; exact ZE0 d P v w hv (by omega) (by omega) h2
  ·rw [if_neg h2]
   have:=ZCS d P v w (by omega) (by omega) (by omega) hv
   rwa [show ((d:Int)).toNat=d by omega]
theorem ZMi{B0:Nat}(dm:Int)(P:List (List Int))(v:Value)(w:World)(hv:Mat B0 27 3 w v P)(hE:pnE dm P≠0) :
  Calls Tryz.prog 18 #[.int .i64 dm,v] w fun e w'=>e=.returned (.tuple #[.slice none 0 0,.int .i64 (pnE dm P)])∧Below w.heap.size w w':=by
 have c:Hid (Calls Tryz.prog 14 #[.int .i64 dm,v] w fun e w'=>e=.returned (.int .i64 (pnE dm P))∧Below w.heap.size w w'):=ZBK dm P v w hv
 generalize pnE dm P=E at *
 have d:(E != 0)=true:=by simp [hE]
 clear hv;go_enter Tryz.func18,Tryz.ntmps18
 go_wp2_with fail
 refine c.out.mono ?_;rintro e f ⟨rfl,a⟩;have b:=hid a;clear a;go_wp2
 go_ret2
 exact ⟨rfl,b.out⟩
theorem ZE1{B0:Nat}(dm:Int)(P:List (List Int))(v:Value)(w:World)(hv:Mat B0 27 3 w v P)(hE:pnE dm P≠0) :
  Calls Tryz.prog 10 #[.int .i64 dm,v] w fun e w'=>e=.returned (.tuple #[.slice none 0 0,.int .i64 (pnE dm P)])∧Below w.heap.size w w':=by
 have c:Hid (Calls Tryz.prog 14 #[.int .i64 dm,v] w fun e w'=>e=.returned (.int .i64 (pnE dm P))∧Below w.heap.size w w'):=ZBK dm P v w hv
 generalize pnE dm P=E at *
 have d:(E != 0)=true:=by simp [hE]
 clear hv;go_enter Tryz.func10,Tryz.ntmps10
 go_wp2_with fail
 refine c.out.mono ?_;rintro e f ⟨rfl,a⟩;have b:=hid a;clear a;go_wp2
 go_ret2
 exact ⟨rfl,b.out⟩
theorem ZMj{B0:Nat}(dm:Int)(P:List (List Int))(v:Value)(w:World)(hv:Mat B0 27 3 w v P)(hE:pnE dm P≠0) :
  Calls Tryz.prog 12 #[.int .i64 dm,v] w fun e w'=>e=.returned (.tuple #[.slice none 0 0,.int .i64 (pnE dm P)])∧Below w.heap.size w w':=by
 have c:Hid (Calls Tryz.prog 14 #[.int .i64 dm,v] w fun e w'=>e=.returned (.int .i64 (pnE dm P))∧Below w.heap.size w w'):=ZBK dm P v w hv
 generalize pnE dm P=E at *
 have d:(E != 0)=true:=by simp [hE]
 clear hv;go_enter Tryz.func12,Tryz.ntmps12
 go_wp2_with fail
 refine c.out.mono ?_;rintro e f ⟨rfl,a⟩;have b:=hid a;clear a;go_wp2
 go_ret2
 exact ⟨rfl,b.out⟩
theorem ZOK{B0:Nat}(dm:Int)(P:List (List Int))(v:Value)(w:World)(hv:Mat B0 27 3 w v P)(hE:pnE dm P≠0) :
  Calls Tryz.prog 13 #[.int .i64 dm,v] w fun e w'=>e=.returned (.tuple #[.slice none 0 0,.int .i64 (pnE dm P)])∧Below w.heap.size w w':=by
 have c:Hid (Calls Tryz.prog 14 #[.int .i64 dm,v] w fun e w'=>e=.returned (.int .i64 (pnE dm P))∧Below w.heap.size w w'):=ZBK dm P v w hv
 generalize pnE dm P=E at *
 have d:(E != 0)=true:=by simp [hE]
 clear hv;go_enter Tryz.func13,Tryz.ntmps13
 go_wp2_with fail
 refine c.out.mono ?_;rintro e f ⟨rfl,a⟩;have b:=hid a;clear a;go_wp2
 go_ret2
 exact ⟨rfl,b.out⟩
theorem ZGQ{B0:Nat}(dm:Int)(P:List (List Int))(v:Value)(w:World)(hv:Mat B0 27 3 w v P)(h:dm < 1∨3 < dm) :
  Calls Tryz.prog 5 #[.int .i64 dm,v] w fun e w'=>e=.returned (.int .i64 1)∧Below w.heap.size w w':=by
 obtain ⟨j,d,b,g,f⟩:=ZAD hv;subst b;clear hv
 by_cases h1:dm < 1
 ·have a:decide (dm < 1)=true:=decide_eq_true h1
  go_enter Tryz.func5,Tryz.ntmps5;go_wp2;go_ret;exact ⟨rfl,Below.refl _ _⟩
 ·have i:3 < dm:=by omega
  have a:decide (dm < 1)=false:=decide_eq_false h1;have c:decide (3 < dm)=true:=decide_eq_true i;go_enter Tryz.func5,Tryz.ntmps5;go_wp2;go_ret;exact ⟨rfl,Below.refl _ _⟩
theorem ZFE{B0:Nat}(d:Nat)(P:List (List Int))(v:Value)(w:World)(hv:Mat B0 27 3 w v P)(h1:1≤d)(h4:d≤3)(h12:6 < P.length) :
  Calls Tryz.prog 5 #[.int .i64 d,v] w fun e w'=>e=.returned (.int .i64 2)∧Below w.heap.size w w':=by
 obtain ⟨n,j,a,m,l⟩:=ZAD hv;subst a;clear hv
 have b:¬(d:Int) < 1:=by omega
 have g:decide ((d:Int) < 1)=false:=decide_eq_false b
 have f:¬(3:Int) < (d:Int):=by omega
 have i:decide ((3:Int) < (d:Int))=false:=decide_eq_false f
 have c:decide ((6:Int) < (P.length:Int))=true:=decide_eq_true (by omega)
 go_enter Tryz.func5,Tryz.ntmps5;go_wp2;go_ret;exact ⟨rfl,Below.refl _ _⟩
theorem ZGR{B0:Nat}(dm:Int)(P:List (List Int))(v:Value)(w:World)(hv:Mat B0 27 3 w v P) :
  Calls Tryz.prog 5 #[.int .i64 dm,v] w fun e w'=>e=.returned (.int .i64 (pnE dm P))∧Below w.heap.size w w':=by
 unfold pnE
 by_cases h:dm < 1∨3 < dm
 ·rw [if_pos h]; exact ZGQ dm P v w hv h
 ·rw [if_neg h]
  obtain ⟨d,rfl⟩:∃d:Nat,dm=d:=⟨dm.toNat,by omega⟩
  by_cases h2:6 < P.length
  ·rw [if_pos h2]; exact ZFE d P v w hv (by omega) (by omega) h2
  ·rw [if_neg h2]
   have:=ZCg d P v w (by omega) (by omega) (by omega) hv
   rwa [show ((d:Int)).toNat=d by omega]
theorem ZMk(E:Int)(hE:E≠0)(w:World) :
  Calls Tryz.prog 15 #[.slice none 0 0,.int .i64 E,.slice none 0 0,.int .i64 E] w fun x w'=>x=.returned (.bool true)∧w'=w:=by
 have a:(E == 0)=false:=by simpa using hE
 have c:(E != 0)=true:=by simpa using hE
 have b:(E == E)=true:=by simp
 have d:(E != E)=false:=by simp
 go_enter Tryz.func15,Tryz.ntmps15;go_wp2;go_ret;exact ⟨rfl,rfl⟩
theorem ZMl(E:Int)(hE:E≠0)(w:World) :
  Calls Tryz.prog 16 #[.slice none 0 0,.int .i64 E,.slice none 0 0,.int .i64 E] w fun x w'=>x=.returned (.bool true)∧w'=w:=by
 have a:(E == 0)=false:=by simpa using hE
 have c:(E != 0)=true:=by simpa using hE
 have b:(E == E)=true:=by simp
 have d:(E != E)=false:=by simp
 go_enter Tryz.func16,Tryz.ntmps16;go_wp2;go_ret;exact ⟨rfl,rfl⟩
theorem ZOL(E:Int)(hE:E≠0)(w:World) :
  Calls Tryz.prog 17 #[.slice none 0 0,.int .i64 E,.slice none 0 0,.int .i64 E] w fun x w'=>x=.returned (.bool true)∧w'=w:=by
 have a:(E == 0)=false:=by simpa using hE
 have c:(E != 0)=true:=by simpa using hE
 have b:(E == E)=true:=by simp
 have d:(E != E)=false:=by simp
 go_enter Tryz.func17,Tryz.ntmps17;go_wp2;go_ret;exact ⟨rfl,rfl⟩
theorem ZIZ{B0:Nat}(dm:Int)(P:List (List Int))(v:Value)(w:World)(hv:Mat B0 27 3 w v P)(hE:pnE dm P≠0) :
  Calls Tryz.prog 11 #[.int .i64 dm,v] w fun e w'=>e=.returned (.tuple #[.slice none 0 0,.int .i64 (pnE dm P)])∧Below w.heap.size w w':=by
 obtain ⟨b,f,rfl,_,_⟩:=ZAD hv
 obtain ⟨W,d⟩:∃W,W=(w.alloc (.cells #[.int .i64 dm] 3)).alloc (.cells #[.slice b P.length f] 22):=⟨_,rfl⟩
 have a:Below w.heap.size w W:=by rw [d]; exact ((Below.refl _ _).alloc (Za4 _) _).alloc (by simp) _
 have o:W.heap[w.heap.size]?=some (.cells #[.int .i64 dm] 3 (0,0)):=by
  rw [d]
  exact (Below.heap_alloc _ _ _ (by simp)).trans (heap_alloc_new _ _)
 have n:W.heap[w.heap.size+1]?=some (.cells #[.slice b P.length f] 22 (0,0)):=by
  rw [d];have:=heap_alloc_new (w.alloc (.cells #[.int .i64 dm] 3)) (.cells #[.slice b P.length f] 22)
  simpa using this
 have p:W.cell? ⟨w.heap.size,0,none⟩=some (.int .i64 dm):=by simp [World.cell?,o]
 have s:W.cell? ⟨w.heap.size+1,0,none⟩=some (.slice b P.length f):=by simp [World.cell?,n]
 have g:Hid (Calls Tryz.prog 10 #[.int .i64 dm,.slice b P.length f] W fun e w'=>e=.returned (.tuple #[.slice none 0 0,.int .i64 (pnE dm P)])∧Below W.heap.size W w'):=ZE1 dm P _ W (hv.below a (Za4 _)) hE
 have i:Hid (∀X,Below W.heap.size W X→Below w.heap.size w X):=fun X hX=>a.trans (hX.mono a.size)
 have l:=hid d;generalize pnE dm P=E at *
 have r:(E != 0)=true:=by simp [hE]
 clear hv o n d a;go_enter Tryz.func11,Tryz.ntmps11
 go_upto_region 1 with fail
 rw [←l.out]
 go_wp2_with fail
 refine g.out.mono ?_;rintro e m ⟨rfl,c⟩;have j:Hid (Below w.heap.size w m):=i.out m c;clear c g p s;go_wp2
 go_ret2
 exact ⟨rfl,j.out⟩
theorem ZGS{B0:Nat}(dm:Int)(P:List (List Int))(v:Value)(w:World)(hv:Mat B0 27 3 w v P)(hE:pnE dm P≠0) :
  Calls Tryz.prog 3 #[.int .i64 dm,v] w fun e w'=>e=.returned (.bool true)∧Below w.heap.size w w':=by
 obtain ⟨o,n,y,ae,S⟩:=ZAD hv;subst y
 have d:∀X,Below w.heap.size w X→Mat B0 27 3 X (.slice o P.length n) P:=fun X hX=>hv.below hX (Za4 _)
 have t:Hid (Calls Tryz.prog 4 #[.slice o P.length n] w fun e w'=>∃b,e=.returned (.bool b)∧w'=w):=by
  refine (ZHT _ P _ w hv).mono ?_;rintro e w' ⟨b,rfl,_,rfl⟩;exact ⟨b,rfl,rfl⟩
 have J:Hid (∀X,Below w.heap.size w X→Calls Tryz.prog 5 #[.int .i64 dm,.slice o P.length n] X fun e w'=>e=.returned (.int .i64 (pnE dm P))∧Below X.heap.size X w'):=fun X hX=>ZGR dm P _ X (d X hX)
 have O:Hid (∀X,Below w.heap.size w X→Calls Tryz.prog 10 #[.int .i64 dm,.slice o P.length n] X fun e w'=>e=.returned (.tuple #[.slice none 0 0,.int .i64 (pnE dm P)])∧Below X.heap.size X w'):=fun X hX=>ZE1 dm P _ X (d X hX) hE
 have Q:Hid (∀X,Below w.heap.size w X→Calls Tryz.prog 11 #[.int .i64 dm,.slice o P.length n] X fun e w'=>e=.returned (.tuple #[.slice none 0 0,.int .i64 (pnE dm P)])∧Below X.heap.size X w'):=fun X hX=>ZIZ dm P _ X (d X hX) hE
 have D:Hid (∀X,Below w.heap.size w X→Calls Tryz.prog 12 #[.int .i64 dm,.slice o P.length n] X fun e w'=>e=.returned (.tuple #[.slice none 0 0,.int .i64 (pnE dm P)])∧Below X.heap.size X w'):=fun X hX=>ZMj dm P _ X (d X hX) hE
 have M:Hid (∀X,Below w.heap.size w X→Calls Tryz.prog 13 #[.int .i64 dm,.slice o P.length n] X fun e w'=>e=.returned (.tuple #[.slice none 0 0,.int .i64 (pnE dm P)])∧Below X.heap.size X w'):=fun X hX=>ZOK dm P _ X (d X hX) hE
 have R:Hid (∀X,Below w.heap.size w X→Calls Tryz.prog 14 #[.int .i64 dm,.slice o P.length n] X fun e w'=>e=.returned (.int .i64 (pnE dm P))∧Below X.heap.size X w'):=fun X hX=>ZBK dm P _ X (d X hX)
 have F:Hid (∀X,Below w.heap.size w X→Calls Tryz.prog 18 #[.int .i64 dm,.slice o P.length n] X fun e w'=>e=.returned (.tuple #[.slice none 0 0,.int .i64 (pnE dm P)])∧Below X.heap.size X w'):=fun X hX=>ZMi dm P _ X (d X hX) hE
 have x:Hid (∀X,Calls Tryz.prog 15 #[.slice none 0 0,.int .i64 (pnE dm P),.slice none 0 0,.int .i64 (pnE dm P)] X fun e w'=>e=.returned (.bool true)∧w'=X):=fun X=>ZMk _ hE X
 have U:Hid (∀X,Calls Tryz.prog 16 #[.slice none 0 0,.int .i64 (pnE dm P),.slice none 0 0,.int .i64 (pnE dm P)] X fun e w'=>e=.returned (.bool true)∧w'=X):=fun X=>ZMl _ hE X
 have T:Hid (∀X,Calls Tryz.prog 17 #[.slice none 0 0,.int .i64 (pnE dm P),.slice none 0 0,.int .i64 (pnE dm P)] X fun e w'=>e=.returned (.bool true)∧w'=X):=fun X=>ZOL _ hE X
 generalize pnE dm P=E at *
 have aa:(E == 0)=false:=by simpa using hE
 have B:(E != 0)=true:=by simpa using hE
 have Y:(E != E)=false:=by simp
 clear hv hE d;go_enter Tryz.func3,Tryz.ntmps3
 go_wp2_with fail
 refine t.out.mono ?_;rintro e w0 ⟨b,rfl,s⟩;obtain rfl:=s.symm;clear s t
 cases b with
 | true=>
  go_wp2;go_ret;exact ⟨rfl,Below.refl _ _⟩
 | false=>
  go_wp2_with fail
  refine (J.out w (Below.refl _ _)).mono ?_;rintro e V ⟨rfl,c⟩;have m:=hid c;clear c J
  go_wp2_with fail
  refine (O.out V m.out).mono ?_;rintro e N ⟨rfl,c⟩;have l:Hid (Below w.heap.size w N):=m.out.trans (c.mono m.out.size);clear c O
  go_wp2_with fail
  refine (Q.out N l.out).mono ?_;rintro e A ⟨rfl,c⟩;have f:Hid (Below w.heap.size w A):=l.out.trans (c.mono l.out.size);clear c Q
  go_wp2_with fail
  refine (D.out A f.out).mono ?_;rintro e L ⟨rfl,c⟩;have j:Hid (Below w.heap.size w L):=f.out.trans (c.mono f.out.size);clear c D
  go_wp2_with fail
  refine (M.out L j.out).mono ?_;rintro e z ⟨rfl,c⟩;have g:Hid (Below w.heap.size w z):=j.out.trans (c.mono j.out.size);clear c M
  go_wp2_with fail
  refine (R.out z g.out).mono ?_;rintro e p ⟨rfl,c⟩;have i:Hid (Below w.heap.size w p):=g.out.trans (c.mono g.out.size);clear c R
  go_wp2_with fail
  refine (x.out p).mono ?_;rintro e w' ⟨rfl,a⟩;rw [a];clear a
  go_wp2_with fail
  refine (x.out p).mono ?_;rintro e w' ⟨rfl,a⟩;rw [a];clear a
  go_wp2_with fail
  refine (U.out p).mono ?_;rintro e w' ⟨rfl,a⟩;rw [a];clear a
  go_wp2_with fail
  refine (T.out p).mono ?_;rintro e w' ⟨rfl,a⟩;rw [a];clear a
  go_wp2_with fail
  refine (F.out p i.out).mono ?_;rintro e G ⟨rfl,c⟩;have r:Hid (Below w.heap.size w G):=i.out.trans (c.mono i.out.size);clear c F
  go_wp2_with fail
  refine (x.out G).mono ?_;rintro e w' ⟨rfl,a⟩;rw [a];clear a;go_wp2;go_ret;exact ⟨rfl,r.out⟩
theorem ZGT(dm:Int)(P:List (List Int))(v:Value)(w:World)(hv:Mat w.heap.size 27 3 w v P) :
  Calls Tryz.prog 3 #[.int .i64 dm,v] w fun e w'=>e=.returned (.bool true)∧Below w.heap.size w w':=by
 by_cases h:pnE dm P=0
 ·obtain ⟨d,rfl,f,a,b,c⟩:=ZRK h
  exact ZHU d P v w f a c b hv
 ·exact ZGS dm P v w hv h
end Go.Proofs.YtkjkfceblmgogaaGreat
