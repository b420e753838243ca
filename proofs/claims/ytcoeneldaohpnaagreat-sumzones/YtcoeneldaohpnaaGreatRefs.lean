import Derived.Test.YtcoeneldaohpnaaGreatMgAB
import Derived.Laws.AppendOwnNone
import Derived.Test.YtcoeneldaohpnaaGreatLinAll
namespace Go.Proofs.YtcoeneldaohpnaaGreat
open Go.RowKit
theorem ints_oneCell' (l:List Int):∀u∈ints l,u.oneCell'=true:=by
 intro u hu; simp only [ints,List.mem_map] at hu; obtain ⟨z,_,rfl⟩:=hu; rfl
theorem sl_cells {B:Nat} {e:TypeId} {w:World} {a:Addr} {n cap:Nat} {xs:List Value} (h:Sl B e w (.slice (some a) n cap) xs) (o:Obj):∀j u,xs[j]?=some u→(w.alloc o).cell? (a.add j)=some u:=by
 intro j u hj
 have hlt:j < xs.length:=by
  rcases Nat.lt_or_ge j xs.length with h' | h'
  ·exact h'
  ·rw [List.getElem?_eq_none h'] at hj; cases hj
 obtain ⟨ao,c,hv,h1,h2,h3,h4⟩:=h.alloc o
 simp only [Value.slice.injEq] at hv
 obtain ⟨rfl,_,rfl⟩:=hv
 obtain ⟨b,of,hb,hc,_⟩:=h3 j hlt
 simp only [Option.some.injEq] at hb
 subst hb
 rw [←hj,←hc]
 by_cases hj0:j=0
 ·subst hj0; simp [Addr.add]
 ·simp [Addr.add,hj0]
set_option maxHeartbeats 400000 in
theorem copy_any (B:Nat) (l:List Int) (v:Value) (w:World) (hv:Sl B 3 w v (ints l)) (hl:l.length≤1000000) :
  Calls Tryz.prog 35 #[v] w fun e w'=>∃u,e=.returned u∧w'.ownsRow w.heap.size 3 1 u l.length (ints l)∧Below w.heap.size w w':=by
 obtain ⟨i3,hi3,hz30,hz31,hz32⟩:=info_parts Tryz.info3
 have hv':=hv
 obtain ⟨ao,cap,hvv,hlc,hcm,hcell,hnil⟩:=hv'
 simp only [ints_length] at hvv hlc
 subst hvv
 have HV:Hid (Sl B 3 w (.slice ao l.length cap) (ints l)):=hv
 clear hcell hv
 have HE:Hid ((w.alloc (.cells #[] 3)).ownsRow w.heap.size 3 1 (.slice (some ⟨w.heap.size,0,none⟩) 0 0) 0 []):=
  World.ownsRow_made w #[] 0 (Nat.le_refl _) (by simp [maxLen]) (by simp)
 cases ao with
 | none=>
  have hc0:=hnil rfl
  subst hc0
  have hl0:l=[]:=List.eq_nil_of_length_eq_zero (by omega)
  subst hl0
  go_enter Tryz.func35,Tryz.ntmps35
  go_wp2_with (first | (at_builtin; refine wpList_append_own_none rfl _ _ 26 rfl w.heap.size 3 i3 1 Tryz.underlying26 hi3 _ _ _ rfl HE.out rfl ?_))
  go_ret
  exact ⟨_,rfl,HE.out,(Below.refl _ _).alloc (Nat.le_refl _) _⟩
 | some a=>
  clear hnil
  go_enter Tryz.func35,Tryz.ntmps35
  go_wp2_with (first | (at_builtin; refine wpList_append_own _ rfl _ _ 26 rfl w.heap.size 3 i3 (.int .i64 0) 1 8 Tryz.underlying26 hi3 hz30 hz31 hz32 rfl (by decide) _ _ _ rfl HE.out a l.length cap (ints l) rfl (by simp) (sl_cells HV.out _) (ints_oneCell' l) ?c3 ?c4 ?c5 ?_))
  case c3=>unfold maxLen; omega
  case c4=>omega
  case c5=>simp
  intro v' w3 ho hg _
  have ho':w3.ownsRow w.heap.size 3 1 v' l.length (ints l):=by simpa using ho
  have HO:Hid (w3.ownsRow w.heap.size 3 1 v' l.length (ints l)):=ho'
  have HB:Hid (Below w.heap.size w w3):=((Below.refl _ _).alloc (Nat.le_refl _) _).grown hg (by simp) (fun k hk=>by simp [Value.ownBlock] at hk; omega)
  clear ho ho' hg
  go_wp2
  go_ret
  exact ⟨_,rfl,HO.out,HB.out⟩
theorem map_snoc (f:Int→Int) (l:List Int) (k:Nat) (h:k < l.length):(l.map f).take (k+1)=(l.map f).take k ++ [f l[k]]:=by
 rw [List.take_succ_eq_append_getElem (by simpa using h)]; simp
set_option maxHeartbeats 400000 in
theorem turned_any (B:Nat) (l:List Int) (v:Value) (w:World) (hv:Sl B 3 w v (ints l)) (hl:l.length≤1000000) (hb:∀z∈l,-4611686018427387904≤z∧z≤4611686018427387904) :
  Calls Tryz.prog 37 #[v] w fun e w'=>∃u,e=.returned u∧w'.ownsRow w.heap.size 3 1 u l.length (ints (l.map fun z=>-z))∧Below w.heap.size w w':=by
 obtain ⟨i3,hi3,hz30,hz31,hz32⟩:=info_parts Tryz.info3
 obtain ⟨ao,cap,hvv,hlc,hcm⟩:=sl_open hv
 subst hvv
 have HV:Hid (Sl B 3 w (.slice ao l.length cap) (ints l)):=hv
 have HBD:Hid (∀z∈l,-4611686018427387904≤z∧z≤4611686018427387904):=hb
 clear hv hb
 go_enter Tryz.func37,Tryz.ntmps37
 go_wp2
 go_loopw [3,4] (fun x i wr=>∃k:Nat,k≤l.length∧i=.int .i64 k∧wr.ownsRow w.heap.size 3 1 x k (ints ((l.map fun z=>-z).take k))∧Below w.heap.size w wr) (fun _ i _=>l.length-(intOf i).toNat)
 case atStart=>exact ⟨0,Nat.zero_le _,rfl,World.ownsRow_nil _ _ _ _,Below.refl _ _⟩
 case round=>
  obtain ⟨k,hk,rfl,hown,hbel⟩:=hrel
  have HO:Hid (wr.ownsRow w.heap.size 3 1 u3 k (ints ((l.map fun z=>-z).take k))):=hown
  have HB:Hid (Below w.heap.size w wr):=hbel
  have hsz:w.heap.size≤wr.heap.size:=hbel.size
  clear hown hbel
  by_cases hlt:k < l.length
  ·obtain ⟨b,o,cp,hs,hc1,hcc⟩:=sl_cell (HV.out.below HB.out (Nat.le_refl _)) hlt
   simp only [Value.slice.injEq] at hs
   obtain ⟨rfl,_,rfl⟩:=hs
   have hbd:=HBD.out l[k] (List.getElem_mem hlt)
   go_wp2_with (first | (at_builtin; refine wpList_append_own _ rfl _ _ 26 rfl w.heap.size 3 i3 (.int .i64 0) 1 8 Tryz.underlying26 hi3 hz30 hz31 hz32 rfl (by decide) _ _ _ rfl (HO.out.alloc _) ⟨wr.heap.size,0,none⟩ 1 1 [.int .i64 (-l[k])] rfl rfl (one_new _ _ _) (one_int _) ?c3 ?c4 ?c5 ?_))
   case c3=>unfold maxLen; omega
   case c4=>omega
   case c5=>simp; omega
   intro v' w3 ho hg _
   have hll:((l.map fun z=>-z).take k).length=k:=by simp; omega
   have R:=owns_push (z:=-l[k]) (N:=k+1) hsz (l:=(l.map fun z=>-z).take k) (by rw [hll]; exact HO.out) HB.out (by rw [hll]; exact ho) hg (by rw [hll])
   have R1:Hid (w3.ownsRow w.heap.size 3 1 v' (k+1) (ints ((l.map fun z=>-z).take (k+1)))):=by have:=R.1; rw [←map_snoc (fun z=>-z) l k hlt] at this; exact this
   have R2:Hid (Below w.heap.size w w3):=R.2
   clear R ho hg
   go_wp2
   go_roundw
   case rel=>exact ⟨k+1,by omega,by go_num,R1.out,R2.out⟩
   case measure=>simp [intOf]; omega
  ·have hkl:k=l.length:=by omega
   go_wp2
   go_ret
   have HO2:=HO.out
   rw [List.take_of_length_le (by simp; omega),hkl] at HO2
   exact ⟨_,rfl,HO2,HB.out⟩
theorem gc_snoc (l:List Int) (k:Nat) (h:k < l.length):Lin.gc (l.take (k+1))=Nat.gcd (Lin.gc (l.take k)) (l[k]).natAbs:=by
 rw [List.take_succ_eq_append_getElem h]; unfold Lin.gc Lin.gcf; rw [List.foldl_append]; rfl
theorem gc_le {l:List Int} {b:Nat} (h:∀z∈l,z.natAbs≤b):Lin.gc l≤b:=by
 by_cases h0:∃z∈l,z≠0
 ·obtain ⟨z,hz,hne⟩:=h0
  have h1:=Lin.gc_dvd hz
  have h2:Lin.gc l ∣ z.natAbs:=Int.ofNat_dvd_left.1 h1
  have:=Nat.le_of_dvd (by omega) h2
  have:=h z hz
  omega
 ·have:∀g,g=0→Lin.gcf g l=0:=by
   intro g hg
   subst hg
   have hz:∀z∈l,z=0:=by
    intro z hz
    apply Classical.byContradiction
    intro hne
    exact h0 ⟨z,hz,hne⟩
   clear h h0
   induction l with
   | nil=>rfl
   | cons v l ih=>
    have:v=0:=hz v (by simp)
    subst this
    have:=ih fun z hz'=>hz z (by simp [hz'])
    simpa [Lin.gcf] using this
  have:=this 0 rfl
  unfold Lin.gc; omega
set_option maxRecDepth 100000 in
set_option maxHeartbeats 800000 in
theorem common_any (B:Nat) (l:List Int) (v:Value) (w:World) (hv:Sl B 3 w v (ints l)) (hb:∀z∈l,z.natAbs≤4611686018427387904) :
  Calls Tryz.prog 64 #[v] w fun e w'=>e=.returned (.int .i64 (Lin.gc l))∧w'=w:=by
 obtain ⟨ao,cap,hvv,hlc,hcm⟩:=sl_open hv
 subst hvv
 have HV:Hid (Sl B 3 w (.slice ao l.length cap) (ints l)):=hv
 have HBD:Hid (∀z∈l,z.natAbs≤4611686018427387904):=hb
 clear hv hb
 go_enter Tryz.func64,Tryz.ntmps64
 go_wp2
 go_loop [3,4] (fun g i=>∃k:Nat,k≤l.length∧i=.int .i64 k∧g=.int .i64 (Lin.gc (l.take k))) (fun _ i=>l.length-(intOf i).toNat)
 case atStart=>exact ⟨0,Nat.zero_le _,rfl,rfl⟩
 case round=>
  obtain ⟨k,hk,rfl,rfl⟩:=hrel
  by_cases hlt:k < l.length
  ·obtain ⟨b,o,cp,hs,hc1,hcc⟩:=sl_cell HV.out hlt
   simp only [Value.slice.injEq] at hs
   obtain ⟨rfl,_,rfl⟩:=hs
   have hbd:=HBD.out l[k] (List.getElem_mem hlt)
   have HG:Hid (Lin.gc (l.take (k+1))=Nat.gcd (Lin.gc (l.take k)) (l[k]).natAbs):=gc_snoc l k hlt
   generalize hgk:Lin.gc (l.take k)=g0
   have HGK:Hid (Lin.gc (l.take k)=g0):=hgk
   have hg0:g0≤4611686018427387904:=by rw [←hgk]; exact gc_le fun z hz=>HBD.out z (List.mem_of_mem_take hz)
   clear hgk
   by_cases hneg:l[k] < 0
   all_goals
    go_wp2
    go_loop [3,5,6] (fun g a _=>∃x y:Nat,g=.int .i64 x∧a=.int .i64 y∧x≤4611686018427387904∧y≤4611686018427387904∧Nat.gcd x y=Nat.gcd g0 (l[k]).natAbs) (fun _ a _=>(intOf a).toNat)
    case atStart=>exact ⟨g0,(l[k]).natAbs,rfl,by go_num,hg0,hbd,rfl⟩
    case round=>
     obtain ⟨x,y,rfl,rfl,hx,hy,hxy⟩:=hrel
     have HXY:Hid (Nat.gcd x y=Nat.gcd g0 (l[k]).natAbs):=hxy
     clear hxy
     by_cases hy0:y=0
     ·subst hy0
      go_wp2
      go_round
      case rel=>exact ⟨k+1,by omega,by go_num,by rw [HG.out,HGK.out,←HXY.out,Nat.gcd_zero_right]⟩
      case measure=>simp [intOf]; omega
     ·have hyb:((y:Int) != 0)=true:=by simp; omega
      go_wp2
      go_round
      case rel=>
       refine ⟨y,x % y,rfl,by rw [Int.natCast_emod],hy,?_,?_⟩
       ·have:=Nat.mod_lt x (show 0 < y by omega); omega
       ·rw [←HXY.out,Nat.gcd_comm x y,Nat.gcd_rec y x,Nat.gcd_comm]
      case measure=>
       have h1:=Nat.mod_lt x (show 0 < y by omega)
       have h2:((x:Int) % (y:Int))=((x % y:Nat):Int):=by rw [Int.natCast_emod]
       simp only [intOf]; rw [h2]; omega
  ·go_wp2
   go_ret
   have e:l.take k=l:=List.take_of_length_le (by omega)
   exact ⟨ret_int (by rw [e]),rfl⟩
theorem low_tdiv {l:List Int} {z:Int} (h:z∈l) (hg:1 < Lin.gc l):z.tdiv (Lin.gc l)=z / (Lin.gc l:Int):=by
 obtain ⟨q,rfl⟩:=Lin.gc_dvd h
 have:(Lin.gc l:Int)≠0:=by omega
 rw [Int.mul_tdiv_cancel_left q this,Int.mul_ediv_cancel_left q this]
theorem low_small {l:List Int} {z:Int} (h:z∈l) (hg:Lin.gc l≤1):z / (Lin.gc l:Int)=z:=by
 by_cases h1:Lin.gc l=1
 ·rw [h1]; simp
 ·have h0:Lin.gc l=0:=by omega
  obtain ⟨q,hq⟩:=Lin.gc_dvd h
  rw [h0] at hq ⊢
  simp at hq ⊢
  omega
set_option maxRecDepth 100000 in
set_option maxHeartbeats 800000 in
theorem lowered_any (B:Nat) (l:List Int) (v:Value) (w:World) (hv:Sl B 3 w v (ints l)) (hl:l.length≤1000000) (hb:∀z∈l,z.natAbs≤4611686018427387904) :
  Calls Tryz.prog 51 #[v] w fun e w'=>∃u,e=.returned u∧w'.ownsRow w.heap.size 3 1 u l.length (ints (Lin.low l))∧Below w.heap.size w w':=by
 obtain ⟨i3,hi3,hz30,hz31,hz32⟩:=info_parts Tryz.info3
 obtain ⟨ao,cap,hvv,hlc,hcm⟩:=sl_open hv
 subst hvv
 have HV:Hid (Sl B 3 w (.slice ao l.length cap) (ints l)):=hv
 have HBD:Hid (∀z∈l,z.natAbs≤4611686018427387904):=hb
 have hg0:Lin.gc l≤4611686018427387904:=gc_le hb
 clear hv hb
 obtain ⟨g,hg⟩:∃g,g=Lin.gc l:=⟨_,rfl⟩
 have HG:Hid (g=Lin.gc l):=hg
 go_enter Tryz.func51,Tryz.ntmps51
 go_wp2_with fail
 refine (common_any B l _ w HV.out HBD.out).mono ?_
 rintro e w' ⟨rfl,rfl⟩
 rw [←hg] at hg0 ⊢
 clear hg
 go_wp2
 go_loopw [4,5,6] (fun x i _ wr=>∃k:Nat,k≤l.length∧i=.int .i64 k∧wr.ownsRow w'.heap.size 3 1 x k (ints ((Lin.low l).take k))∧Below w'.heap.size w' wr) (fun _ i _ _=>l.length-(intOf i).toNat)
 case atStart=>exact ⟨0,Nat.zero_le _,rfl,World.ownsRow_nil _ _ _ _,Below.refl _ _⟩
 case round=>
  obtain ⟨k,hk,rfl,hown,hbel⟩:=hrel
  have HO:Hid (wr.ownsRow w'.heap.size 3 1 u4 k (ints ((Lin.low l).take k))):=hown
  have HB:Hid (Below w'.heap.size w' wr):=hbel
  have hsz:w'.heap.size≤wr.heap.size:=hbel.size
  clear hown hbel
  by_cases hlt:k < l.length
  ·obtain ⟨b,o,cp,hs,hc1,hcc⟩:=sl_cell (HV.out.below HB.out (Nat.le_refl _)) hlt
   simp only [Value.slice.injEq] at hs
   obtain ⟨rfl,_,rfl⟩:=hs
   have hbd:=HBD.out l[k] (List.getElem_mem hlt)
   have hmem:l[k]∈l:=List.getElem_mem hlt
   have HMEM:Hid (l[k]∈l):=hmem
   clear hmem
   have hll:((Lin.low l).take k).length=k:=by simp [Lin.low]; omega
   have HLL:Hid (((Lin.low l).take k).length=k):=hll
   clear hll
   have HSN:Hid ((Lin.low l).take (k+1)=(Lin.low l).take k ++ [l[k] / (Lin.gc l:Int)]):=map_snoc (fun z=>z / (Lin.gc l:Int)) l k hlt
   by_cases hg1:1 < g
   ·go_wp2_with (first | (at_builtin; refine wpList_append_own _ rfl _ _ 26 rfl w'.heap.size 3 i3 (.int .i64 0) 1 8 Tryz.underlying26 hi3 hz30 hz31 hz32 rfl (by decide) _ _ _ rfl (HO.out.alloc _) ⟨wr.heap.size,0,none⟩ 1 1 [.int .i64 (l[k].tdiv g)] rfl rfl (one_new _ _ _) (one_int _) ?c3 ?c4 ?c5 ?_))
    case c3=>unfold maxLen; omega
    case c4=>omega
    case c5=>simp; omega
    intro v' w3 ho hg _
    have R:=owns_push (z:=l[k].tdiv g) (N:=k+1) hsz (l:=(Lin.low l).take k) (by rw [HLL.out]; exact HO.out) HB.out (by rw [HLL.out]; exact ho) hg (by rw [HLL.out])
    have R1:Hid (w3.ownsRow w'.heap.size 3 1 v' (k+1) (ints ((Lin.low l).take (k+1)))):=by
     have:=R.1
     rw [HG.out,low_tdiv HMEM.out (by rw [←HG.out]; exact hg1),←HSN.out] at this; exact this
    have R2:Hid (Below w'.heap.size w' w3):=R.2
    clear R ho hg
    go_wp2
    go_roundw
    case rel=>exact ⟨k+1,by omega,by go_num,R1.out,R2.out⟩
    case measure=>simp [intOf]; omega
   ·go_wp2_with (first | (at_builtin; refine wpList_append_own _ rfl _ _ 26 rfl w'.heap.size 3 i3 (.int .i64 0) 1 8 Tryz.underlying26 hi3 hz30 hz31 hz32 rfl (by decide) _ _ _ rfl (HO.out.alloc _) ⟨wr.heap.size,0,none⟩ 1 1 [.int .i64 l[k]] rfl rfl (one_new _ _ _) (one_int _) ?d3 ?d4 ?d5 ?_))
    case d3=>unfold maxLen; omega
    case d4=>omega
    case d5=>simp; omega
    intro v' w3 ho hg _
    have R:=owns_push (z:=l[k]) (N:=k+1) hsz (l:=(Lin.low l).take k) (by rw [HLL.out]; exact HO.out) HB.out (by rw [HLL.out]; exact ho) hg (by rw [HLL.out])
    have R1:Hid (w3.ownsRow w'.heap.size 3 1 v' (k+1) (ints ((Lin.low l).take (k+1)))):=by
     have h1:=R.1
     rw [HSN.out,low_small HMEM.out (by rw [←HG.out]; omega)]; exact h1
    have R2:Hid (Below w'.heap.size w' w3):=R.2
    clear R ho hg
    go_wp2
    go_roundw
    case rel=>exact ⟨k+1,by omega,by go_num,R1.out,R2.out⟩
    case measure=>simp [intOf]; omega
  ·have hkl:k=l.length:=by omega
   go_wp2
   go_ret
   have HO2:=HO.out
   rw [List.take_of_length_le (by simp [Lin.low]; omega),hkl] at HO2
   exact ⟨_,rfl,HO2,HB.out⟩
end Go.Proofs.YtcoeneldaohpnaaGreat
