import Derived.Test.YtkjkfceblmgogaaGreatPnA
set_option maxRecDepth 100000
set_option maxHeartbeats 800000
namespace Go.Proofs.YtkjkfceblmgogaaGreat
open Go.RowKit
attribute [local go_sem ↓] Go.wp_at_zero Go.wp_at_succ
theorem ZIt(s i:Nat):ZBH (i+1) s=ZBH i s ++ (if s.testBit i=true then [(i:Int)] else []):=by
 unfold ZBH;rw [List.range_succ,List.filter_append,List.map_append]
 cases h:s.testBit i <;> simp [h]
theorem ZHu(s i:Nat):(ZBH i s).length≤i:=by
 unfold ZBH;rw [Zab1]
 exact Zaa8 (List.length_filter_le _ _) (by simp)
theorem ZIu{s i:Nat}(hs:s < 2 ^ i):∀k,ZBH (i+k) s=ZBH i s
 | 0=>rfl
 | k+1=>by
  rw [←Nat.add_assoc,ZIt,ZIu hs k]
  have:s.testBit (i+k)=false:=Nat.testBit_lt_two_pow (Nat.lt_of_lt_of_le hs (Nat.pow_le_pow_right (by decide) (by omega)))
  simp [this]
theorem ZKx{s i:Nat}(hs:s < 2 ^ i)(hi:i≤64):ZBH i s=ZBH 64 s:=by
 have:=ZIu hs (64-i)
 rw [show i+(64-i)=64 by omega] at this
 exact this.symm
theorem ZGp(s n:Nat)(w:World)(hs:s < 2 ^ n)(hn:n≤24) :
  Calls Tryz.prog 26 #[.int .i64 s] w fun e w'=>∃u,e=.returned u∧w'.ownsRow w.heap.size 3 1 u (ZBH 64 s).length (ZAB (ZBH 64 s))∧Below w.heap.size w w':=by
 obtain ⟨V,A,r,l,t⟩:=info_parts Tryz.info3;have Q:=hid hs;clear hs;go_enter Tryz.func26,Tryz.ntmps26;go_wp2
 go_loopw [3,4] (fun x i wr=>∃k:Nat,k≤n∧i=.int .i64 k∧wr.ownsRow w.heap.size 3 1 x (ZBH k s).length (ZAB (ZBH k s))∧Below w.heap.size w wr) (fun _ i _=>n-(intOf i).toNat)
 case atStart=>exact ⟨0,Za5 _,rfl,by rw [show ZBH 0 s=[] from rfl]; exact World.ownsRow_nil _ _ _ _,Below.refl _ _⟩
 case round=>
  obtain ⟨k,X,rfl,L,F⟩:=hrel;have o:=hid L;have z:=hid F;clear L F;have d:w.heap.size≤wr.heap.size:=z.out.size
  have m:Hid ((ZBH k s).length≤24):=Zaa8 (ZHu s k) (by omega)
  have b:(s:Int) / 2 ^ k=((s / 2 ^ k:Nat):Int):=by simp
  by_cases hz:s / 2 ^ k=0
  ·have R:decide ((0:Int) < (s:Int) / 2 ^ k)=false:=by rw [b,hz]; rfl
   have U:Hid (ZBH k s=ZBH 64 s):=ZKx (by
    have y:=Nat.div_eq_zero_iff.1 hz
    have G:0 < 2 ^ k:=Nat.pow_pos (by decide)
    rcases y with y | y
    ·omega
    ·exact y) (by omega)
   clear b hz;go_wp2;go_ret;refine ⟨_,rfl,?_,z.out⟩;rw [←U.out];exact o.out
  ·have R:decide ((0:Int) < (s:Int) / 2 ^ k)=true:=by rw [b]; generalize s / 2 ^ k=q at *; exact decide_eq_true (by omega)
   have g:k < n:=by
    refine Nat.lt_of_not_le fun hle=>hz (Nat.div_eq_zero_iff.2 (Or.inr ?_))
    exact Nat.lt_of_lt_of_le Q.out (Nat.pow_le_pow_right (by decide) hle)
   have c:Hid (ZBH (k+1) s=ZBH k s ++ (if s.testBit k=true then [(k:Int)] else [])):=ZIt s k
   have a:s.testBit k=decide (s / 2 ^ k % 2=1):=Nat.testBit_eq_decide_div_mod_eq
   cases hb1:s.testBit k
   ·have O:(((s:Int) / 2 ^ k).tmod 2 == 1)=false:=by
     rw [hb1] at a;have:=of_decide_eq_false a.symm;rw [b];generalize s / 2 ^ k=q at *
     have e:(q:Int).tmod 2=((q % 2:Nat):Int):=by rw [Int.tmod_eq_emod_of_nonneg (by omega)]; omega
     rw [e]
     have G:q % 2=0:=by omega
     rw [G]; rfl
    rw [hb1] at c
    have D:Hid (ZBH (k+1) s=ZBH k s):=by
     have h:=c.out
     rw [if_neg (by decide),List.append_nil] at h
     exact h
    have E:Hid (wr.ownsRow w.heap.size 3 1 u3 (ZBH (k+1) s).length (ZAB (ZBH (k+1) s))):=by rw [D.out]; exact o.out
    clear b hz a hb1 c;go_wp2
    go_roundw
    case rel=>exact ⟨k+1,g,by go_num,E.out,z.out⟩
    case measure=>simp [intOf]; omega
   ·have O:(((s:Int) / 2 ^ k).tmod 2 == 1)=true:=by
     rw [hb1] at a;have:=of_decide_eq_true a.symm;rw [b];generalize s / 2 ^ k=q at *
     have e:(q:Int).tmod 2=((q % 2:Nat):Int):=by rw [Int.tmod_eq_emod_of_nonneg (by omega)]; omega
     rw [e];rw [this]; rfl
    rw [hb1,if_pos rfl] at c
    obtain ⟨v,f⟩:∃v,v=(ZBH k s).length:=⟨_,rfl⟩
    have B:=hid f;rw [←f] at o m;have M:v≤24:=m.out;clear b hz a hb1 f
    go_wp2_with (first | (at_builtin; refine wpList_append_own _ rfl _ _ 27 rfl w.heap.size 3 V (.int .i64 0) 1 8 Tryz.underlying27 A r l t rfl (by decide) _ _ _ rfl (o.out.alloc _) ⟨wr.heap.size,0,none⟩ 1 1 [.int .i64 k] rfl rfl (ZAS _ _ _) (ZA6 _) ?c3 ?c4 ?c5 ?_))
    case c3=>unfold maxLen; omega
    case c4=>omega
    case c5=>first | exact d | omega | (simp; omega)
    intro T J p j _
    have E:Hid (J.ownsRow w.heap.size 3 1 T (ZBH (k+1) s).length (ZAB (ZBH (k+1) s))):=by
     have P:(ZBH (k+1) s).length=v+1:=by rw [c.out,Zaa4,←B.out]; rfl
     have S:ZAB (ZBH (k+1) s)=ZAB (ZBH k s) ++ [.int .i64 (k:Int)]:=by rw [c.out]; simp [ZAB]
     show World.ownsRow _ _ _ _ _ _ _
     rw [P,S];exact p
    have N:Hid (Below w.heap.size w J):=(z.out.alloc d _).grown j (by simp; omega) (fun x hx=>(o.out.lt x hx).1)
    clear p j;go_wp2
    go_roundw
    case rel=>exact ⟨k+1,g,by go_num,E.out,N.out⟩
    case measure=>simp [intOf]; omega
theorem ZCN(s n:Nat)(w:World)(hs:s < 2 ^ n)(hn:n≤24) :
  Calls Tryz.prog 26 #[.int .i64 s] w fun e w'=>∃u,e=.returned u∧w'.ownsRow w.heap.size 3 1 u (ZBH n s).length (ZAB (ZBH n s))∧Below w.heap.size w w':=by
 have h:=ZGp s n w hs hn
 rw [←ZKx hs (by omega)] at h
 exact h
theorem ZKy(s n:Nat)(w:World)(hs:s < 2 ^ n)(hn:n≤24) :
  Calls Tryz.prog 28 #[.int .i64 s] w fun e w'=>e=.returned (.int .i64 (ZBH n s).length)∧Below w.heap.size w w':=by
 have c:Hid (Calls Tryz.prog 26 #[.int .i64 s] w fun e w'=>∃a b,e=.returned (.slice a (ZBH n s).length b)∧Below w.heap.size w w'):=(ZCN s n w hs hn).mono (by
  rintro e w' ⟨u,rfl,g,i⟩;obtain ⟨a,b,rfl⟩:=ZAE g;exact ⟨a,b,rfl,i⟩)
 generalize ZBH n s=l at *;go_enter Tryz.func28,Tryz.ntmps28
 go_wp2_with fail
 refine c.out.mono ?_;rintro e w' ⟨a,b,rfl,d⟩;have f:=hid d;clear d c;go_wp2;go_ret;exact ⟨rfl,f.out⟩
end Go.Proofs.YtkjkfceblmgogaaGreat
namespace Go.Proofs.YtkjkfceblmgogaaGreat
open Go.RowKit Lin
attribute [local go_sem ↓] Go.wp_at_zero Go.wp_at_succ
theorem ZCO(B c wd:Nat)(m:List (List Int))(v:Value)(w:World)(hwd:wd≤c)(hw0:0 < wd)(hx:Mx c 60 m)(hv:Mat B 27 3 w v m)(hm:m.length≤500) :
  Calls Tryz.prog 53 #[v,.int .i64 wd] w fun e w'=>e=.returned (.int .i64 ((ZAJ wd m).length:Nat))∧Below w.heap.size w w':=by
 obtain ⟨L,o,j,J,y⟩:=ZAD hv;subst j;have D:=hx.c5;have l:=hx.c1
 have A:Hid (Calls Tryz.prog 86 #[.slice L m.length o,.int .i64 wd] w fun e w'=>∃f d g i b a,e=.returned (.agg #[.slice f m.length d,.slice g (ZAJ wd m).length i,.int .i64 b,.int .i64 a])∧Below w.heap.size w w'):=by
  refine (ZEB B c wd hwd hw0 m _ w hv hm l (by omega) hx.row (ZRp hx)).mono ?_
  rintro e w' ⟨N,C,k,a,t,O,P,rfl,x,z,M⟩;obtain ⟨f,d,r,_,_⟩:=ZAD x;obtain ⟨g,i,n,_,_⟩:=ZAI z;have s:=ZDu t;simp only [Zab1,List.length_range,ZAl] at r n;rw [s] at n
  exact ⟨f,d,g,i,_,_,by rw [r,n],M⟩
 clear hv;go_enter Tryz.func53,Tryz.ntmps53
 go_wp2_with fail
 refine (A.out).mono ?_;rintro e E ⟨f,d,g,i,b,a,rfl,p⟩;have G:=hid p;clear p;have F:=ZQc (.slice f m.length d) (.slice g (ZAJ wd m).length i) (.int .i64 b) (.int .i64 a) E;go_wp2;go_ret;exact ⟨rfl,G.out⟩
end Go.Proofs.YtkjkfceblmgogaaGreat
