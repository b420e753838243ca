import Derived.Test.YtdanomklbiidaaaGreatDoorMgBG
namespace Go.Proofs.YtdanomklbiidaaaGreatDoor
open Go.RowKit Lin
attribute [local go_sem ↓] Go.wp_at_zero Go.wp_at_succ
theorem Tryz.infoF:(Tryz.prog.info? 92).map (fun i=>(i.zero,i.size,i.bytes))=some (some (.agg #[.int .u64 0,.slice none 0 0]),2,32):=by kernel_rfl
def encF (p:Nat×Value):List Value:=[.int .u64 (p.1:Nat),p.2]
theorem flat_get2:∀(m:List (Nat×Value)) (t:Nat),t < m.length*2→(m.flatMap encF)[t]?=(encF (m.getD (t / 2) (0,.slice none 0 0)))[t % 2]?
 | [],t,h=>by simp at h
 | x :: m,t,h=>by
  rw [List.flatMap_cons]
  by_cases ht:t < 2
  ·rw [List.getElem?_append_left (by simp [encF]; exact ht),Nat.div_eq_of_lt ht,Nat.mod_eq_of_lt ht]
   simp
  ·rw [List.getElem?_append_right (by simp [encF]; omega)]
   have ih:=flat_get2 m (t-2) (by simp at h; omega)
   have e1:(encF x).length=2:=rfl
   rw [e1,ih]
   have e2:t / 2=(t-2) / 2+1:=by omega
   have e3:t % 2=(t-2) % 2:=by omega
   rw [e2,e3]
   simp
theorem sl_grown {e:TypeId} {w w':World} {v:Value} {xs:List Value} {row:Option Nat} (h:Sl 0 e w v xs) (hg:w.grownBy w' row) (hne:∀g,row=some g→∀cur,w.heap[g]?≠some (.cells cur e (0,0))):Sl 0 e w' v xs:=by
 refine h.move fun b hl ht=>⟨hg.block b hl fun q=>?_,ht⟩
 rcases ht with ht | ⟨c,ht⟩
 ·omega
 ·exact hne b (by rw [q]) c ht
structure HrI (B:Nat) (w0:World) (v:Value) (F:List (Nat×List Nat)) (w:World):Prop where
 ex:∃cvs:List Value,cvs.length=F.length∧w.ownsRow B 92 2 v F.length (((F.map fun q=>q.1).zip cvs).flatMap encF)∧∀i,i < F.length→∃co cc,cvs.getD i (.slice none 0 0)=.slice co (F.getD i (0,[])).2.length cc∧Sl 0 70 w (.slice co (F.getD i (0,[])).2.length cc) (u64s (F.getD i (0,[])).2)
 bel:Below B w0 w
 lo:B≤w.heap.size
theorem HrI.nil (w0:World):HrI w0.heap.size w0 (.slice none 0 0) [] w0:=⟨⟨[],rfl,World.ownsRow_nil _ _ _ _,fun i h=>absurd h (by simp)⟩,Below.refl _ _,Nat.le_refl _⟩
theorem HrI.low {B:Nat} {w0 w w2:World} {v:Value} {F:List (Nat×List Nat)} (h:HrI B w0 v F w) (hb:Below w.heap.size w w2):HrI B w0 v F w2:=by
 obtain ⟨cvs,h1,h2,h3⟩:=h.ex
 refine ⟨⟨cvs,h1,owns_below2 h2 hb (Nat.le_refl _),fun i hi=>?_⟩,h.bel.trans (hb.mono h.lo),Nat.le_trans h.lo hb.size⟩
 obtain ⟨co,cc,k1,k2⟩:=h3 i hi
 exact ⟨co,cc,k1,k2.below hb (Nat.le_refl _)⟩
theorem HrI.read {B:Nat} {w0 w:World} {v:Value} {F:List (Nat×List Nat)} (h:HrI B w0 v F w):FlR w v F:=by
 obtain ⟨cvs,h1,h2,h3⟩:=h.ex
 obtain ⟨vo,vc,rfl⟩:∃vo vc,v=.slice vo F.length vc:=by
  rcases h2.2 with ⟨q1,q0⟩ | ⟨g,cap,cur,q,_⟩
  ·exact ⟨_,_,by rw [q1,q0]⟩
  ·exact ⟨_,_,q⟩
 refine ⟨vo,vc,rfl,fun X i hX hi=>?_⟩
 obtain ⟨g,hg⟩:∃g,vo=some ⟨g,0,none⟩:=by
  rcases h2.2 with ⟨_,q0⟩ | ⟨g,cap,cur,q,_⟩
  ·omega
  ·simp only [Value.slice.injEq,true_and] at q
   exact ⟨g,q.1⟩
 subst hg
 obtain ⟨co,cc,k1,k2⟩:=h3 i hi
 have hzl:((F.map fun q=>q.1).zip cvs).length=F.length:=by simp [h1]
 have hzi:((F.map fun q=>q.1).zip cvs).getD i (0,.slice none 0 0)=((F.getD i (0,[])).1,cvs.getD i (.slice none 0 0)):=by
  have hic:i < cvs.length:=by omega
  simp only [List.getD_eq_getElem?_getD]
  rw [List.getElem?_eq_getElem (show i < ((F.map fun q=>q.1).zip cvs).length by rw [hzl]; exact hi),List.getElem?_eq_getElem hi,List.getElem?_eq_getElem hic]
  simp
 have c0:w.cell? ⟨g,i*2,none⟩=some (.int .u64 ((F.getD i (0,[])).1:Nat)):=by
  rw [h2.cellAt _ (by omega),flat_get2 _ _ (by omega),show i*2 / 2=i by omega,show i*2 % 2=0 by omega,hzi]
  rfl
 have c1:w.cell? ⟨g,i*2+1,none⟩=some (.slice co (F.getD i (0,[])).2.length cc):=by
  rw [h2.cellAt _ (by omega),flat_get2 _ _ (by omega),show (i*2+1) / 2=i by omega,show (i*2+1) % 2=1 by omega,hzi,k1]
  rfl
 exact ⟨g,co,cc,rfl,(hX.cell (lt_of_cell c0)).trans c0,(hX.cell (lt_of_cell c1)).trans c1,k2.below hX (Nat.le_refl _)⟩
theorem HrI.box {B g:Nat} {w0 w:World} {v u:Value} {F:List (Nat×List Nat)} {cur:Array Value} {t:TypeId} (h:HrI B w0 v F w) (hg:g < B) (hb:w.heap[g]?=some (.cells cur t (0,0))) (ht:t≠70):FlR (w.setCell ⟨g,0,none⟩ u) v F:=by
 obtain ⟨cvs,h1,h2,h3⟩:=h.ex
 have hI:HrI 0 (w.setCell ⟨g,0,none⟩ u) v F (w.setCell ⟨g,0,none⟩ u):=by
  refine ⟨⟨cvs,h1,?_,fun i hi=>?_⟩,⟨rfl,rfl,rfl,Nat.le_refl _,fun _ _=>rfl⟩,Nat.zero_le _⟩
  ·have:=h2.kept (w':=w.setCell ⟨g,0,none⟩ u) (row:=some g) ⟨rfl,rfl,rfl,by simp [World.setCell],fun b _ hne=>Below.heap_setCell _ _ _ _ (fun e=>hne (by rw [e]))⟩ (by
    by_cases e:v.ownBlock=none
    ·exact Or.inl e
    ·refine Or.inr fun q=>?_
     have:=(h2.lt g q).1
     omega)
   exact this.mono (Nat.zero_le _)
  ·obtain ⟨co,cc,k1,k2⟩:=h3 i hi
   refine ⟨co,cc,k1,k2.move fun b hl hty=>⟨Below.heap_setCell _ _ _ _ (fun e=>?_),hty⟩⟩
   rcases hty with hty | ⟨c,hty⟩
   ·omega
   ·subst e
    rw [hb] at hty
    simp at hty
    exact ht hty.2
 exact hI.read
theorem HrI.push {B:Nat} {w0 w w2:World} {v v':Value} {F:List (Nat×List Nat)} {a:Nat} {cs:List Nat} {co:Option Addr} {cc:Nat} {cvs:List Value} (hbel:Below B w0 w) (hlo:B≤w.heap.size) (h1:cvs.length=F.length) (h2:w.ownsRow B 92 2 v F.length (((F.map fun q=>q.1).zip cvs).flatMap encF)) (h3:∀i,i < F.length→∃co cc,cvs.getD i (.slice none 0 0)=.slice co (F.getD i (0,[])).2.length cc∧Sl 0 70 w (.slice co (F.getD i (0,[])).2.length cc) (u64s (F.getD i (0,[])).2)) (hs:Sl 0 70 w (.slice co cs.length cc) (u64s cs)) {A:Obj}
  (ho:w2.ownsRow B 92 2 v' (F.length+1) ((((F.map fun q=>q.1).zip cvs).flatMap encF) ++ [.int .u64 (a:Int),.slice co cs.length cc])) (hg:(w.alloc A).grownBy w2 v.ownBlock):HrI B w0 v' (F ++ [(a,cs)]) w2:=by
 have hne:∀g,v.ownBlock=some g→∀cur,(w.alloc A).heap[g]?≠some (.cells cur 70 (0,0)):=fun g hgv cur hc=>by
  rcases (h2.alloc A).2 with ⟨q1,_⟩ | ⟨b,cap,cur',q1,_,q3,_⟩
  ·rw [q1] at hgv; simp [Value.ownBlock] at hgv
  ·rw [q1] at hgv
   simp [Value.ownBlock] at hgv
   subst hgv
   rw [q3] at hc
   simp at hc
 have hsl:∀{u xs},Sl 0 70 w u xs→Sl 0 70 w2 u xs:=fun hu=>sl_grown (hu.alloc A) hg hne
 refine ⟨⟨cvs ++ [.slice co cs.length cc],by simp [h1],?_,fun i hi=>?_⟩,(hbel.alloc hlo _).grown hg (by simp; omega) (fun x hx=>(h2.lt x hx).1),by have:=hg.size; simp at this; omega⟩
 ·have e:(((F ++ [(a,cs)]).map fun q=>q.1).zip (cvs ++ [.slice co cs.length cc])).flatMap encF=(((F.map fun q=>q.1).zip cvs).flatMap encF) ++ [.int .u64 (a:Int),.slice co cs.length cc]:=by
   rw [List.map_append,List.zip_append (by simp [h1]),List.flatMap_append]
   rfl
  rw [e,List.length_append]
  exact ho
 ·rw [List.length_append] at hi
  by_cases hlt:i < F.length
  ·obtain ⟨c1,c2,k1,k2⟩:=h3 i hlt
   have e1:(cvs ++ [Value.slice co cs.length cc]).getD i (.slice none 0 0)=cvs.getD i (.slice none 0 0):=by
    simp only [List.getD_eq_getElem?_getD]; rw [List.getElem?_append_left (by omega)]
   have e2:(F ++ [(a,cs)]).getD i (0,[])=F.getD i (0,[]):=by
    simp only [List.getD_eq_getElem?_getD]; rw [List.getElem?_append_left hlt]
   rw [e1,e2]
   exact ⟨c1,c2,k1,hsl k2⟩
  ·have hie:i=F.length:=by simp at hi; omega
   subst hie
   have e1:(cvs ++ [Value.slice co cs.length cc]).getD F.length (.slice none 0 0)=.slice co cs.length cc:=by
    simp only [List.getD_eq_getElem?_getD]; rw [List.getElem?_append_right (by omega),h1]; simp
   have e2:(F ++ [(a,cs)]).getD F.length (0,[])=(a,cs):=by
    simp only [List.getD_eq_getElem?_getD]; rw [List.getElem?_append_right (Nat.le_refl _)]; simp
   rw [e1,e2]
   exact ⟨co,cc,rfl,hsl hs⟩
end Go.Proofs.YtdanomklbiidaaaGreatDoor

namespace Go.Proofs.YtdanomklbiidaaaGreatDoor
open Go.RowKit Lin
attribute [local go_sem ↓] Go.wp_at_zero Go.wp_at_succ
theorem two_newV (W:World) (x y:Value) (t:TypeId):∀(j:Nat) (u:Value),[x,y][j]?=some u→(W.alloc (.cells #[x,y] t)).cell? (Addr.add ⟨W.heap.size,0,none⟩ j)=some u:=by
 intro j u h
 match j,h with
 | 0,h=>simp at h; subst h; simp [Addr.add]
 | 1,h=>simp at h; subst h; simp [Addr.add]
 | j+2,h=>simp at h
theorem two_oneV (a:Int) (o:Option Addr) (l c:Nat):∀u∈[Value.int .u64 a,.slice o l c],u.oneCell'=true:=by
 intro u hu
 simp only [List.mem_cons,List.not_mem_nil,or_false] at hu
 rcases hu with rfl | rfl <;> rfl
theorem filL_snoc {LV:Nat→List (List Int)} {order:List Int} {t k:Nat} (hk:k < (LV t).length):(filL LV order t).take (k+1)=(filL LV order t).take k ++ [(setN ((LV t).getD k []),pulS LV order t ((LV t).getD k []))]:=by
 have hk':k < (filL LV order t).length:=by unfold filL; simpa using hk
 rw [List.take_succ_eq_append_getElem hk']
 congr 1
 have e:(filL LV order t)[k]=(setN (LV t)[k],pulS LV order t (LV t)[k]):=by
  simp only [filL,List.getElem_map]
 have e2:(LV t).getD k []=(LV t)[k]:=by simp [hk]
 rw [e,e2]
structure LvP (LV:Nat→List (List Int)) (order:List Int) (n d:Nat):Prop where
 o:LvO LV order n
 one:∀g∈LV 1,(memL (setN g)).length=1
 more:∀t,t+2≤d+1→∀g∈LV (t+2),(memL (setN g)).length≠1
 top:∃face,LV (d+1)=[face]
set_option maxRecDepth 100000 in
set_option maxHeartbeats 3200000 in
theorem pulledP_any {LV:Nat→List (List Int)} {order:List Int} {n d:Nat} (h:LvP LV order n d) (hn:n≤10) (hd1:1≤d) (hd:d≤4) (face:List Int) (hone:LV (d+1)=[face]) (lo:Option Addr) (lc:Nat) (oo:Option Addr) (oc:Nat) (w:World) (hL:LvV w (.slice lo (d+2) lc) (d+2) LV) (hlc:d+2≤lc) (hO:Sl w.heap.size 3 w (.slice oo order.length oc) (ints order)) :
  Calls Tryz.prog 45 #[.slice lo (d+2) lc,.slice oo order.length oc] w fun e w'=>∃xo xc,e=.returned (.slice xo (pulS LV order (d+1) face).length xc)∧Sl 0 70 w' (.slice xo (pulS LV order (d+1) face).length xc) (u64s (pulS LV order (d+1) face))∧Below w.heap.size w w':=by
 obtain ⟨i3,hi3,hz30,hz31,hz32⟩:=info_parts Tryz.infoF
 obtain ⟨ao2,cap2,e,hr⟩:=hL.rows
 simp only [Value.slice.injEq,true_and] at e
 obtain ⟨rfl,rfl⟩:=e
 obtain ⟨lb,lf,_,_,rfl,_,_⟩:=hr w (d+1) (Below.refl _ _) (by omega)
 obtain ⟨W,hW⟩:∃W,W=(w.alloc (.cells #[.slice oo order.length oc] 22)).alloc (.cells #[.slice none 0 0] 90):=⟨_,rfl⟩
 have hbw:Below w.heap.size w W:=by rw [hW]; exact ((Below.refl _ _).alloc (Nat.le_refl _) _).alloc (by simp) _
 have hsW:W.heap.size=w.heap.size+2:=by rw [hW]; simp
 have b0:W.heap[w.heap.size]?=some (.cells #[.slice oo order.length oc] 22 (0,0)):=by rw [hW]; exact (two_heapF _ _ _).1
 have b1:W.heap[w.heap.size+1]?=some (.cells #[.slice none 0 0] 90 (0,0)):=by rw [hW]; exact (two_heapF _ _ _).2
 have HW:Hid (Below w.heap.size w W):=hbw
 have HWX:Hid (∀X,Below (w.heap.size+1) W X→Below w.heap.size w X):=fun X hX=>hbw.trans (hX.mono (by omega))
 have HOB:Hid (∀X,Below (w.heap.size+1) W X→X.cell? ⟨w.heap.size,0,none⟩=some (.slice oo order.length oc)):=fun X hX=>by
  have:=(hX.block _ (by omega)).trans b0
  simp [World.cell?,this]
 have HOX:Hid (∀X,Below (w.heap.size+1) W X→Sl X.heap.size 3 X (.slice oo order.length oc) (ints order)):=fun X hX=>(hO.below (HWX.out X hX) (Nat.le_refl _)).any (Nat.le_refl _)
 have HLV:Hid (∀X t,Below (w.heap.size+1) W X→t < d+1→∃ro rc,X.cell? ⟨lb,lf+1+t,none⟩=some (.slice ro (LV (t+1)).length rc)∧Mat X.heap.size 22 3 X (.slice ro (LV (t+1)).length rc) (LV (t+1))):=fun X t hX ht=>by
  obtain ⟨b,o,ro,rc,hb,hc,hm⟩:=hr X (t+1) (HWX.out X hX) (by omega)
  simp only [Option.some.injEq,Addr.mk.injEq,and_true] at hb
  obtain ⟨rfl,rfl⟩:=hb
  rw [show lf+(t+1)=lf+1+t by omega] at hc
  exact ⟨ro,rc,hc,hm⟩
 have HPU:Hid (∀X t k bv,Below (w.heap.size+1) W X→t < d+1→k < (LV (t+1)).length→(1≤t→FlR X bv (filL LV order t))→X.cell? ⟨w.heap.size+1,0,none⟩=some bv→Calls Tryz.prog 62 #[.int .u64 (setN ((LV (t+1)).getD k []):Nat),.pointer (some ⟨w.heap.size,0,none⟩),.pointer (some ⟨w.heap.size+1,0,none⟩)] X fun e w'=>∃co cc,e=.returned (.agg #[.int .u64 (setN ((LV (t+1)).getD k []):Nat),.slice co (pulS LV order (t+1) ((LV (t+1)).getD k [])).length cc])∧Sl 0 70 w' (.slice co (pulS LV order (t+1) ((LV (t+1)).getD k [])).length cc) (u64s (pulS LV order (t+1) ((LV (t+1)).getD k [])))∧Below X.heap.size X w'):=fun X t k bv hX ht hk hF hc=>by
  have hm:(LV (t+1)).getD k []∈LV (t+1):=by simp [hk]
  match t,ht,hF,hm with
  | 0,_,_,hm=>
   have hS:setN ((LV 1).getD k []) < 1024:=setN_lt10 _ fun x hx=>by have:=(h.o.row _ _ hm).2 x hx; omega
   exact pull1_any (setN ((LV 1).getD k [])) w.heap.size (w.heap.size+1) X hS (h.one _ hm)
  | t+1,ht,hF,hm=>
   exact pullN_any h.o hn t (by omega) _ hm (h.more t (by omega) _ hm) w.heap.size (w.heap.size+1) oo oc bv X (HOX.out X hX) (hF (by omega)) (HOB.out X hX) hc
 have HST:Hid (∀X t k v,t < d+1→k < (LV (t+1)).length→Sl X.heap.size 3 X v (ints ((LV (t+1)).getD k []))→Calls Tryz.prog 67 #[v] X fun e w'=>e=.returned (.int .u64 (setN ((LV (t+1)).getD k []):Nat))∧Below X.heap.size X w'):=fun X t k v ht hk hv=>by
  have hm:(LV (t+1)).getD k []∈LV (t+1):=by simp [hk]
  refine (setOf_any X.heap.size _ v X hv fun x hx=>by have:=(h.o.row _ _ hm).2 x hx; omega).mono ?_
  rintro e w' ⟨rfl,n,rfl⟩
  exact ⟨rfl,below_drewN (Below.refl _ _) n⟩
 have HLL:Hid (∀t,(LV t).length≤1024):=h.o.len
 have HSN:Hid (∀t k,k < (LV (t+1)).length→(filL LV order (t+1)).take (k+1)=(filL LV order (t+1)).take k ++ [(setN ((LV (t+1)).getD k []),pulS LV order (t+1) ((LV (t+1)).getD k []))]):=fun t k hk=>filL_snoc hk
 have HFL:Hid (∀t,(filL LV order t).length=(LV t).length):=fun t=>by unfold filL; simp
 have HTOP:Hid (filL LV order (d+1)=[(setN face,pulS LV order (d+1) face)]):=by
  show _=_
  unfold filL
  rw [hone]
  rfl
 have HB1:Hid (W.heap[w.heap.size+1]?=some (.cells #[.slice none 0 0] 90 (0,0))):=b1
 have hd2:((d+2:Nat):Int)-1=((d+1:Nat):Int):=by omega
 have hlc1:(1:Int)≤((d+2:Nat):Int):=by omega
 clear hL hr hO b0 b1 hbw hone
 go_enter Tryz.func45,Tryz.ntmps45
 go_upto_region 2 with fail
 rw [←hW]
 clear hW
 go_wp2
 go_loopw [16] (fun iv wr=>∃(i:Nat) (bv:Value),i≤d+1∧iv=.int .i64 (i:Int)∧Below (w.heap.size+1) W wr∧w.heap.size+2≤wr.heap.size∧wr.heap[w.heap.size+1]?=some (.cells #[bv] 90 (0,0))∧(1≤i→FlR wr bv (filL LV order i))) (fun iv _=>d+1-(intOf iv).toNat)
 case atStart=>exact ⟨0,.slice none 0 0,Nat.zero_le _,rfl,Below.refl _ _,by omega,HB1.out,fun hh=>absurd hh (by omega)⟩
 case round=>
  clear HB1
  obtain ⟨i,bv,hil,rfl,hbr,hsz,hbx,hfl⟩:=hrel
  have HBR:Hid (Below (w.heap.size+1) W wr):=hbr
  have HBX:Hid (wr.heap[w.heap.size+1]?=some (.cells #[bv] 90 (0,0))):=hbx
  have HFR:Hid (1≤i→FlR wr bv (filL LV order i)):=hfl
  clear hbr hbx hfl
  obtain ⟨wa,hwa⟩:∃wa,wa=wr:=⟨wr,rfl⟩
  rw [←hwa] at HBR HBX HFR hsz ⊢
  clear hwa wr
  by_cases hlt:i < d+1
  ·obtain ⟨ro,rc,hcl,hml⟩:=HLV.out wa i HBR.out hlt
   have HML:Hid (Mat wa.heap.size 22 3 wa (.slice ro (LV (i+1)).length rc) (LV (i+1))):=hml
   have hiI:(i:Int) < ((d+1:Nat):Int):=by omega
   have hiI2:(i:Int) < (d:Int)+1:=by omega
   have hll:=HLL.out (i+1)
   have HXA:Hid (∀X,Below wa.heap.size wa X→Below (w.heap.size+1) W X):=fun X hX=>HBR.out.trans (hX.mono (by omega))
   have HCB:Hid (∀X,Below wa.heap.size wa X→X.heap[w.heap.size+1]?=some (.cells #[bv] 90 (0,0))):=fun X hX=>(hX.block _ (by omega)).trans HBX.out
   clear hml
   go_wp2
   clear hcl
   go_loopw [9,22] (fun hv kv wq=>∃(k:Nat) (ho:Option Addr) (hc:Nat),k≤(LV (i+1)).length∧kv=.int .i64 (k:Int)∧hv=.slice ho k hc∧HrI wa.heap.size wa (.slice ho k hc) ((filL LV order (i+1)).take k) wq) (fun _ kv _=>(LV (i+1)).length-(intOf kv).toNat)
   case atStart=>exact ⟨0,none,0,Nat.zero_le _,rfl,rfl,HrI.nil wa⟩
   case round=>
    obtain ⟨k,ho,hc,hk,rfl,rfl,hH⟩:=hrel
    have HH:Hid (HrI wa.heap.size wa (.slice ho k hc) ((filL LV order (i+1)).take k) wr):=hH
    clear hH
    by_cases hlk:k < (LV (i+1)).length
    ·obtain ⟨qb,qo,qcp,q1,hqs,_,hqc,hq1⟩:=mat_cell ((HML.out.below HH.out.bel (Nat.le_refl _)).any (Nat.le_refl _)) hlk
     simp only [Value.slice.injEq,true_and] at hqs
     obtain ⟨rfl,rfl⟩:=hqs
     obtain ⟨go,gc,rfl,_,_⟩:=sl_open hq1
     have HSO:=HST.out wr i k _ hlt hlk hq1
     have hbk:=HCB.out wr HH.out.bel
     have HPX:Hid (∀X,Below wr.heap.size wr X→Calls Tryz.prog 62 #[.int .u64 (setN ((LV (i+1)).getD k []):Nat),.pointer (some ⟨w.heap.size,0,none⟩),.pointer (some ⟨w.heap.size+1,0,none⟩)] X fun e w'=>∃co cc,e=.returned (.agg #[.int .u64 (setN ((LV (i+1)).getD k []):Nat),.slice co (pulS LV order (i+1) ((LV (i+1)).getD k [])).length cc])∧Sl 0 70 w' (.slice co (pulS LV order (i+1) ((LV (i+1)).getD k [])).length cc) (u64s (pulS LV order (i+1) ((LV (i+1)).getD k [])))∧Below X.heap.size X w'):=fun X hX=>by
      have hXa:Below wa.heap.size wa X:=HH.out.bel.trans (hX.mono HH.out.lo)
      refine HPU.out X i k bv (HXA.out X hXa) hlt hlk (fun h1=>(HFR.out h1).low hXa) ?_
      have:=HCB.out X hXa
      simp [World.cell?,this]
     have HFS:Hid ((filL LV order (i+1)).take (k+1)=(filL LV order (i+1)).take k ++ [(setN ((LV (i+1)).getD k []),pulS LV order (i+1) ((LV (i+1)).getD k []))]):=HSN.out i k hlk
     have HTL:Hid (((filL LV order (i+1)).take k).length=k):=by
      show _=_
      rw [List.length_take,HFL.out]
      omega
     have hkI:(k:Int) < ((LV (i+1)).length:Int):=by omega
     clear hq1
     generalize setN ((LV (i+1)).getD k [])=S at *
     generalize pulS LV order (i+1) ((LV (i+1)).getD k [])=cs at *
     generalize ((LV (i+1)).getD k []).length=gl at *
     go_wp2_with fail
     refine HSO.mono ?_
     rintro e w2 ⟨rfl,hb2⟩
     have HB2:Hid (Below wr.heap.size wr w2):=hb2
     clear hb2 HSO
     go_wp2_with fail
     refine (HPX.out w2 HB2.out).mono ?_
     rintro e w3 ⟨co,cc,rfl,hsl,hb3⟩
     have h3:=HH.out.low (HB2.out.trans (hb3.mono HB2.out.size))
     obtain ⟨cvs,e1,e2,e3⟩:=h3.ex
     rw [HTL.out] at e1 e2
     have E1:Hid (cvs.length=k):=e1
     have E2:Hid (w3.ownsRow wa.heap.size 92 2 (.slice ho k hc) k ((((((filL LV order (i+1)).take k).map fun q=>q.1).zip cvs).flatMap encF))):=e2
     have E3:Hid (∀i_1,i_1 < ((filL LV order (i+1)).take k).length→∃co cc,cvs.getD i_1 (.slice none 0 0)=.slice co (((filL LV order (i+1)).take k).getD i_1 (0,[])).2.length cc∧Sl 0 70 w3 (.slice co (((filL LV order (i+1)).take k).getD i_1 (0,[])).2.length cc) (u64s (((filL LV order (i+1)).take k).getD i_1 (0,[])).2)):=e3
     have HSL:Hid (Sl 0 70 w3 (.slice co cs.length cc) (u64s cs)):=hsl
     have HB3:Hid (Below wa.heap.size wa w3):=h3.bel
     have hlo3:=h3.lo
     clear h3 e1 e2 e3 hsl hb3 HPX hbk hqc
     generalize hcl3:cs.length=cl at *
     have HCL3:Hid (cs.length=cl):=hcl3
     clear hcl3
     go_wp2_with (first | (at_builtin; refine wpList_append_own _ rfl _ _ 90 rfl wa.heap.size 92 i3 (.agg #[.int .u64 0,.slice none 0 0]) 2 32 Tryz.underlying90 hi3 hz30 hz31 hz32 rfl (by decide) _ _ _ rfl (E2.out.alloc _) ⟨w3.heap.size,0,none⟩ 1 1 [.int .u64 (S:Int),.slice co cl cc] rfl rfl (two_newV _ _ _ _) (two_oneV _ _ _ _) ?d3 ?d4 ?d5 ?_))
     case d3=>unfold maxLen; omega
     case d4=>omega
     case d5=>first | exact hlo3 | omega | (simp; omega)
     intro v' w4 ho4 hg4 _
     have hp:=HrI.push (a:=S) (cs:=cs) (co:=co) (cc:=cc) (F:=(filL LV order (i+1)).take k) (v:=.slice ho k hc) HB3.out hlo3 (by rw [HTL.out]; exact E1.out) (by rw [HTL.out]; exact E2.out) E3.out (by rw [HCL3.out]; exact HSL.out) (by rw [HTL.out,HCL3.out,List.map_take]; exact ho4) hg4
     rw [←HFS.out] at hp
     obtain ⟨vo,vc,hv'⟩:∃vo vc,v'=.slice vo (k+1) vc:=by
      rcases ho4.2 with ⟨q1,q0⟩ | ⟨g,cap,cur,q,_⟩
      ·exact absurd q0 (by omega)
      ·exact ⟨_,_,q⟩
     subst hv'
     have R1:Hid (HrI wa.heap.size wa (.slice vo (k+1) vc) ((filL LV order (i+1)).take (k+1)) w4):=hp
     clear hp ho4 hg4
     go_wp2
     go_roundw
     case rel=>exact ⟨k+1,vo,vc,by omega,by go_num,rfl,R1.out⟩
     case measure=>simp [intOf]; omega
    ·have hke:k=(LV (i+1)).length:=by omega
     subst hke
     have hHf:=HH.out
     rw [show (LV (i+1)).length=(filL LV order (i+1)).length from (HFL.out (i+1)).symm,List.take_length] at hHf
     have hbk:=HCB.out wr HH.out.bel
     have hck:wr.cell? ⟨w.heap.size+1,0,none⟩=some bv:=by simp [World.cell?,hbk]
     have hfk:wr.frozen? ⟨w.heap.size+1,0,none⟩=false:=by simp [World.frozen?,hbk]
     have HFI:Hid (∀hv,hv=.slice ho (LV (i+1)).length hc→FlR (wr.setCell ⟨w.heap.size+1,0,none⟩ hv) hv (filL LV order (i+1))∧Below (w.heap.size+1) W (wr.setCell ⟨w.heap.size+1,0,none⟩ hv)∧w.heap.size+2≤(wr.setCell ⟨w.heap.size+1,0,none⟩ hv).heap.size∧(wr.setCell ⟨w.heap.size+1,0,none⟩ hv).heap[w.heap.size+1]?=some (.cells #[hv] 90 (0,0))):=fun hv hhv=>by
      have q:=hHf.box (g:=w.heap.size+1) (u:=hv) (by omega) hbk (by decide)
      rw [(HFL.out (i+1)),←hhv] at q
      refine ⟨q,(HXA.out wr HH.out.bel).setCell (by exact Nat.le_refl _) _,?_,by simp [World.setCell,Array.getElem?_modify,hbk]⟩
      have:=HH.out.lo
      simp [World.setCell]
      omega
     clear hHf hbk HH hlk hk
     obtain ⟨r1,r2,r3,r4⟩:=HFI.out _ rfl
     have R1:Hid (FlR (wr.setCell ⟨w.heap.size+1,0,none⟩ (.slice ho (LV (i+1)).length hc)) (.slice ho (LV (i+1)).length hc) (filL LV order (i+1))):=r1
     have R2:Hid (Below (w.heap.size+1) W (wr.setCell ⟨w.heap.size+1,0,none⟩ (.slice ho (LV (i+1)).length hc))):=r2
     have R3:Hid (w.heap.size+2≤(wr.setCell ⟨w.heap.size+1,0,none⟩ (.slice ho (LV (i+1)).length hc)).heap.size):=r3
     have R4:Hid ((wr.setCell ⟨w.heap.size+1,0,none⟩ (.slice ho (LV (i+1)).length hc)).heap[w.heap.size+1]?=some (.cells #[.slice ho (LV (i+1)).length hc] 90 (0,0))):=r4
     clear r1 r2 r3 r4 HFI
     go_wp2
     exact ⟨⟨i+1,_,by omega,by go_num,R2.out,R3.out,R4.out,fun _=>R1.out⟩,by simp [intOf]; omega⟩
  ·have hie:i=d+1:=by omega
   subst hie
   have hF:=HFR.out (by omega)
   rw [HTOP.out] at hF
   obtain ⟨ao,cap,rfl,hrd⟩:=hF
   obtain ⟨g,co,cc,rfl,d0,d1,d2⟩:=hrd wa 0 (Below.refl _ _) (by simp)
   have d1':wa.cell? ⟨g,1,none⟩=some (.slice co (pulS LV order (d+1) face).length cc):=d1
   have HSL:Hid (Sl 0 70 wa (.slice co (pulS LV order (d+1) face).length cc) (u64s (pulS LV order (d+1) face))):=d2
   have hbk:wa.cell? ⟨w.heap.size+1,0,none⟩=some (.slice (some ⟨g,0,none⟩) 1 cap):=by
    have:=HBX.out
    simp [World.cell?,this]
   have HBF:Hid (Below w.heap.size w wa):=HWX.out wa HBR.out
   clear hrd d0 d1 d2 HBX HFR
   generalize hcl3:(pulS LV order (d+1) face).length=cl at *
   have HCL3:Hid ((pulS LV order (d+1) face).length=cl):=hcl3
   clear hcl3
   go_wp2
   go_ret
   exact ⟨co,cc,by rw [HCL3.out]; rfl,by rw [HCL3.out]; exact HSL.out,HBF.out⟩
end Go.Proofs.YtdanomklbiidaaaGreatDoor
