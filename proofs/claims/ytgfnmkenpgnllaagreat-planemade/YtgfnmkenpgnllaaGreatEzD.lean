import Derived.Test.YtgfnmkenpgnllaaGreatPnA
set_option maxRecDepth 100000
set_option maxHeartbeats 800000
namespace Go.Proofs.YtgfnmkenpgnllaaGreat
open Go.RowKit
attribute [local go_sem ↓] Go.wp_at_zero Go.wp_at_succ
theorem ZIg(s i:Nat):ZBH (i+1) s=ZBH i s ++ (if s.testBit i=true then [(i:Int)] else []):=by
 unfold ZBH;rw [List.range_succ,List.filter_append,List.map_append]
 cases h:s.testBit i <;> simp [h]
theorem ZHi(s i:Nat):(ZBH i s).length≤i:=by
 unfold ZBH;rw [Zab1]
 exact Zaa8 (List.length_filter_le _ _) (by simp)
theorem ZIh{s i:Nat}(hs:s < 2 ^ i):∀k,ZBH (i+k) s=ZBH i s
 | 0=>rfl
 | k+1=>by
  rw [←Nat.add_assoc,ZIg,ZIh hs k]
  have:s.testBit (i+k)=false:=Nat.testBit_lt_two_pow (Nat.lt_of_lt_of_le hs (Nat.pow_le_pow_right (by decide) (by omega)))
  simp [this]
theorem ZKi{s i:Nat}(hs:s < 2 ^ i)(hi:i≤64):ZBH i s=ZBH 64 s:=by
 have:=ZIh hs (64-i)
 rw [show i+(64-i)=64 by omega] at this
 exact this.symm
theorem ZGf(s n:Nat)(w:World)(hs:s < 2 ^ n)(hn:n≤24) :
  Calls Tryz.prog 31 #[.int .i64 s] w fun e w'=>∃u,e=.returned u∧w'.ownsRow w.heap.size 3 1 u (ZBH 64 s).length (ZAB (ZBH 64 s))∧Below w.heap.size w w':=by
 obtain ⟨V,D,r,t,m⟩:=info_parts Tryz.info3;have N:=hid hs;clear hs;go_enter Tryz.func31,Tryz.ntmps31;go_wp2
 go_loopw [3,4] (fun x i wr=>∃k:Nat,k≤n∧i=.int .i64 k∧wr.ownsRow w.heap.size 3 1 x (ZBH k s).length (ZAB (ZBH k s))∧Below w.heap.size w wr) (fun _ i _=>n-(intOf i).toNat)
 case atStart=>exact ⟨0,Za5 _,rfl,by rw [show ZBH 0 s=[] from rfl]; exact World.ownsRow_nil _ _ _ _,Below.refl _ _⟩
 case round=>
  obtain ⟨k,X,rfl,F,J⟩:=hrel;have o:=hid F;have z:=hid J;clear F J;have d:w.heap.size≤wr.heap.size:=z.out.size
  have l:Hid ((ZBH k s).length≤24):=Zaa8 (ZHi s k) (by omega)
  have b:(s:Int) / 2 ^ k=((s / 2 ^ k:Nat):Int):=by simp
  by_cases hz:s / 2 ^ k=0
  ·have T:decide ((0:Int) < (s:Int) / 2 ^ k)=false:=by rw [b,hz]; rfl
   have O:Hid (ZBH k s=ZBH 64 s):=ZKi (by
    have y:=Nat.div_eq_zero_iff.1 hz
    have L:0 < 2 ^ k:=Nat.pow_pos (by decide)
    rcases y with y | y
    ·omega
    ·exact y) (by omega)
   clear b hz;go_wp2;go_ret;refine ⟨_,rfl,?_,z.out⟩;rw [←O.out];exact o.out
  ·have T:decide ((0:Int) < (s:Int) / 2 ^ k)=true:=by rw [b]; generalize s / 2 ^ k=q at *; exact decide_eq_true (by omega)
   have p:k < n:=by
    refine Nat.lt_of_not_le fun hle=>hz (Nat.div_eq_zero_iff.2 (Or.inr ?_))
    exact Nat.lt_of_lt_of_le N.out (Nat.pow_le_pow_right (by decide) hle)
   have c:Hid (ZBH (k+1) s=ZBH k s ++ (if s.testBit k=true then [(k:Int)] else [])):=ZIg s k
   have a:s.testBit k=decide (s / 2 ^ k % 2=1):=Nat.testBit_eq_decide_div_mod_eq
   cases hb1:s.testBit k
   ·have R:(((s:Int) / 2 ^ k).tmod 2 == 1)=false:=by
     rw [hb1] at a;have:=of_decide_eq_false a.symm;rw [b];generalize s / 2 ^ k=q at *
     have e:(q:Int).tmod 2=((q % 2:Nat):Int):=by rw [Int.tmod_eq_emod_of_nonneg (by omega)]; omega
     rw [e]
     have L:q % 2=0:=by omega
     rw [L]; rfl
    rw [hb1] at c
    have B:Hid (ZBH (k+1) s=ZBH k s):=by
     have h:=c.out
     rw [if_neg (by decide),List.append_nil] at h
     exact h
    have E:Hid (wr.ownsRow w.heap.size 3 1 u3 (ZBH (k+1) s).length (ZAB (ZBH (k+1) s))):=by rw [B.out]; exact o.out
    clear b hz a hb1 c;go_wp2
    go_roundw
    case rel=>exact ⟨k+1,p,by go_num,E.out,z.out⟩
    case measure=>simp [intOf]; omega
   ·have R:(((s:Int) / 2 ^ k).tmod 2 == 1)=true:=by
     rw [hb1] at a;have:=of_decide_eq_true a.symm;rw [b];generalize s / 2 ^ k=q at *
     have e:(q:Int).tmod 2=((q % 2:Nat):Int):=by rw [Int.tmod_eq_emod_of_nonneg (by omega)]; omega
     rw [e];rw [this]; rfl
    rw [hb1,if_pos rfl] at c
    obtain ⟨v,f⟩:∃v,v=(ZBH k s).length:=⟨_,rfl⟩
    have A:=hid f;rw [←f] at o l;have M:v≤24:=l.out;clear b hz a hb1 f
    go_wp2_with (first | (at_builtin; refine wpList_append_own _ rfl _ _ 22 rfl w.heap.size 3 V (.int .i64 0) 1 8 Tryz.underlying22 D r t m rfl (by decide) _ _ _ rfl (o.out.alloc _) ⟨wr.heap.size,0,none⟩ 1 1 [.int .i64 k] rfl rfl (ZAQ _ _ _) (ZA2 _) ?c3 ?c4 ?c5 ?_))
    case c3=>unfold maxLen; omega
    case c4=>omega
    case c5=>first | exact d | omega | (simp; omega)
    intro S G j g _
    have E:Hid (G.ownsRow w.heap.size 3 1 S (ZBH (k+1) s).length (ZAB (ZBH (k+1) s))):=by
     have Q:(ZBH (k+1) s).length=v+1:=by rw [c.out,Zaa4,←A.out]; rfl
     have U:ZAB (ZBH (k+1) s)=ZAB (ZBH k s) ++ [.int .i64 (k:Int)]:=by rw [c.out]; simp [ZAB]
     show World.ownsRow _ _ _ _ _ _ _
     rw [Q,U];exact j
    have P:Hid (Below w.heap.size w G):=(z.out.alloc d _).grown g (by simp; omega) (fun x hx=>(o.out.lt x hx).1)
    clear j g;go_wp2
    go_roundw
    case rel=>exact ⟨k+1,p,by go_num,E.out,P.out⟩
    case measure=>simp [intOf]; omega
theorem ZCO(s n:Nat)(w:World)(hs:s < 2 ^ n)(hn:n≤24) :
  Calls Tryz.prog 31 #[.int .i64 s] w fun e w'=>∃u,e=.returned u∧w'.ownsRow w.heap.size 3 1 u (ZBH n s).length (ZAB (ZBH n s))∧Below w.heap.size w w':=by
 have h:=ZGf s n w hs hn
 rw [←ZKi hs (by omega)] at h
 exact h
theorem ZKj(s n:Nat)(w:World)(hs:s < 2 ^ n)(hn:n≤24) :
  Calls Tryz.prog 33 #[.int .i64 s] w fun e w'=>e=.returned (.int .i64 (ZBH n s).length)∧Below w.heap.size w w':=by
 have d:Hid (Calls Tryz.prog 31 #[.int .i64 s] w fun e w'=>∃b a,e=.returned (.slice b (ZBH n s).length a)∧Below w.heap.size w w'):=(ZCO s n w hs hn).mono (by
  rintro e w' ⟨u,rfl,f,i⟩;obtain ⟨b,a,rfl⟩:=ZAD f;exact ⟨b,a,rfl,i⟩)
 generalize ZBH n s=l at *;go_enter Tryz.func33,Tryz.ntmps33
 go_wp2_with fail
 refine d.out.mono ?_;rintro e w' ⟨b,a,rfl,c⟩;have g:=hid c;clear c d;go_wp2;go_ret;exact ⟨rfl,g.out⟩
end Go.Proofs.YtgfnmkenpgnllaaGreat
namespace Go.Proofs.YtgfnmkenpgnllaaGreat
open Go.RowKit Lin
attribute [local go_sem ↓] Go.wp_at_zero Go.wp_at_succ
theorem ZCP(B c wd:Nat)(m:List (List Int))(v:Value)(w:World)(hwd:wd≤c)(hw0:0 < wd)(hx:Mx c 60 m)(hv:Mat B 22 3 w v m)(hm:m.length≤500) :
  Calls Tryz.prog 58 #[v,.int .i64 wd] w fun e w'=>e=.returned (.int .i64 ((ZAK wd m).length:Nat))∧Below w.heap.size w w':=by
 obtain ⟨F,o,j,t,z⟩:=ZAE hv;subst j;have s:=hx.c5;have n:=hx.c1
 have x:Hid (Calls Tryz.prog 91 #[.slice F m.length o,.int .i64 wd] w fun e w'=>∃f d i g b a,e=.returned (.agg #[.slice f m.length d,.slice i (ZAK wd m).length g,.int .i64 b,.int .i64 a])∧Below w.heap.size w w'):=by
  refine (ZEE B c wd hwd hw0 m _ w hv hm n (by omega) hx.row (ZRL hx)).mono ?_
  rintro e w' ⟨O,C,k,a,A,N,P,rfl,G,M,D⟩;obtain ⟨f,d,p,_,_⟩:=ZAE G;obtain ⟨i,g,l,_,_⟩:=ZAH M;have E:=ZDw A;simp only [Zab1,List.length_range,ZAk] at p l;rw [E] at l
  exact ⟨f,d,i,g,_,_,by rw [p,l],D⟩
 clear hv;go_enter Tryz.func58,Tryz.ntmps58
 go_wp2_with fail
 refine (x.out).mono ?_;rintro e J ⟨f,d,i,g,b,a,rfl,r⟩;have L:=hid r;clear r;have y:=ZQA (.slice f m.length d) (.slice i (ZAK wd m).length g) (.int .i64 b) (.int .i64 a) J;go_wp2;go_ret;exact ⟨rfl,L.out⟩
end Go.Proofs.YtgfnmkenpgnllaaGreat
