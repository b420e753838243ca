import Derived.Test.YtdanomklbiidaaaGreatDoorMgAP
namespace Go.Proofs.YtdanomklbiidaaaGreatDoor
open Go.RowKit
attribute [local go_sem ↓] Go.wp_at_zero Go.wp_at_succ
def Aft (s:List (List Int)) (q:List Int) (p:Nat):Prop:=∀r∈s.drop p,cmpL q r < 0
theorem Aft.step {s:List (List Int)} {q:List Int} {p:Nat} (h:Aft s q (p+1)) (hp:p < s.length) (hq:cmpL q (s.getD p []) < 0):Aft s q p:=by
 intro r hr
 rw [List.drop_eq_getElem_cons hp] at hr
 rcases List.mem_cons.1 hr with rfl | hr
 ·have e:s.getD p []=s[p]:=by simp [hp]
  rw [←e]; exact hq
 ·exact h r hr
def tailP (b c k:Nat):Option Addr:=if c=k+1 then some ⟨b,0,none⟩ else some ⟨b,k+1,none⟩
theorem tailP_lt {b c k:Nat} (h:k+1 < c):tailP b c k=some ⟨b,k+1,none⟩:=if_neg (by omega)
theorem run_tailM {b n c k:Nat} (h1:k+1≤n) (w:World):(Instr.slice 23 (.slice (some ⟨b,0,none⟩) n c) (some (.int .i64 ((k:Int)+1))) none none).run Tryz.prog w=.ok (.slice (tailP b c k) (n-(k+1)) (c-(k+1))) w:=by
 have e1:(0:Int)≤(k:Int)+1∧(k:Int)+1≤(n:Int):=by omega
 have e2:((k:Int)+1).toNat=k+1:=by omega
 have hz:∀w,(Go.sizeOf 22).run Tryz.prog w=.ok 1 w:=fun w=>by kernel_rfl
 unfold tailP
 by_cases e3:c=k+1
 ·simp [Instr.slice,Instr.sliceBounds,Instr.sliceBound,run_underlying Tryz.underlying23,asIntOf,e1,e2,e3,hz,Addr.add,go_sem]
 ·simp [Instr.slice,Instr.sliceBounds,Instr.sliceBound,run_underlying Tryz.underlying23,asIntOf,e1,e2,e3,hz,Addr.add,go_sem]
theorem run_fromM {b n c k:Nat} (h1:k < n) (h2:n≤c) (w:World):(Instr.slice 23 (.slice (some ⟨b,0,none⟩) n c) (some (.int .i64 (k:Int))) none none).run Tryz.prog w=.ok (.slice (some ⟨b,k,none⟩) (n-k) (c-k)) w:=by
 have e1:(0:Int)≤(k:Int)∧(k:Int)≤(n:Int):=by omega
 have e3:¬c=k:=by omega
 have e4:k≤n:=by omega
 have hz:∀w,(Go.sizeOf 22).run Tryz.prog w=.ok 1 w:=fun w=>by kernel_rfl
 simp [Instr.slice,Instr.sliceBounds,Instr.sliceBound,run_underlying Tryz.underlying23,asIntOf,e1,e3,e4,hz,Addr.add,go_sem]
 intro h
 omega
def Qw (w wr:World):Prop:=∃n,wr=w.drewN n
theorem Qw.refl (w:World):Qw w w:=⟨0,rfl⟩
theorem Qw.drewN {w wr:World} (h:Qw w wr) (k:Nat):Qw w (wr.drewN k):=by
 obtain ⟨n,rfl⟩:=h
 exact ⟨n+k,by rw [World.drewN_drewN]⟩
theorem Qw.below {N:Nat} {w wr:World} (h:Qw w wr):Below N w wr:=by
 obtain ⟨n,rfl⟩:=h
 exact ⟨rfl,rfl,rfl,Nat.le_refl _,fun _ _=>rfl⟩
theorem Qw.fr {B:Nat} {w wr:World} {v:Value} {m:List (List Int)} (h:Qw w wr) (hf:Fr B 22 3 w v m):Fr B 22 3 wr v m:=by
 obtain ⟨n,rfl⟩:=h
 exact hf
theorem ins_runs {g gc p n:Nat} (hp:p≤n) (hn:n+1≤gc) (hb:p≤2000000000000):∃(dp:Option Addr) (la ca lb cb:Nat),
  (∀w:World,(Instr.slice 23 (.slice (some ⟨g,0,none⟩) (n+1) gc) (some (.int .i64 ((p:Int)+1))) none none).run Tryz.prog w=.ok (.slice dp la ca) w)∧
  (∀w:World,(Instr.slice 23 (.slice (some ⟨g,0,none⟩) (n+1) gc) (some (.int .i64 (p:Int))) none none).run Tryz.prog w=.ok (.slice (some ⟨g,p,none⟩) lb cb) w)∧
  (p < n→dp=some ⟨g,p+1,none⟩)∧la=n-p∧lb=n-p+1∧IntKind.i64.wrap ((p:Int)+1)=(p:Int)+1:=
 ⟨_,_,_,_,_,fun w=>run_tailM (by omega) w,fun w=>run_fromM (by omega) hn w,fun h=>tailP_lt (by omega),by omega,by omega,by rw [IntKind.wrap_i64]; omega⟩
theorem ins_copy {p n g gc dpl ca lb cb:Nat} {dp:Option Addr} {f:Nat→Value} {w:World} {s:List (List Int)} (hs:s.length=n) (hp:p≤n) (hn:n+1≤gc) (hdp:p < n→dp=some ⟨g,p+1,none⟩) (hla:dpl=n-p) (hlb:lb=n-p+1) (hr:RowM w g gc f (s ++ [[]]))
  (ops:Array Oper) (o:Oper) (a:Act) (K:Act→World→Prop) (Q:Exit→Act→World→Prop) (E:Prop) (hgd:o.guard=none) (ho:o.op=.call { callee:=.builtin .copy,args:=#[.tmp 50,.tmp 53],argTypes:=#[23,23] })
  (hd:a.eval (.tmp 50)=.slice dp dpl ca) (hs':a.eval (.tmp 53)=.slice (some ⟨g,p,none⟩) lb cb) (h:K (a.put o.dst (goInt ((n-p:Nat):Int))) (w.drew.setCells g (p+1) (overC f p n))) :
  if Region.wanted o (yielded ops a.tmps)=true then Oper.wp Tryz.prog o a w.drew K Q else E:=by
 obtain ⟨i0,hi,hz0,hz1,hz2⟩:=info_parts Tryz.info22
 have hol:(overC f p n).length=n-p:=overC_len _ _ _
 refine step_copy_cells hgd (.tmp 50) (.tmp 53) 23 23 ho 22 Tryz.underlying23 (by rw [hi]; simp [hz1]) dp (some ⟨g,p,none⟩) dpl ca lb cb hd hs' g (p+1) (overC f p n) (by rw [hol,hla,hlb]; show _=min _ _; omega) (fun h=>⟨hdp (by rw [hol] at h; omega),_,rfl,fun j v h=>?_⟩) (fun j h=>?_) (fun j _=>hr.row.frozen _) (fun v hv=>?_) ?_
 ·obtain ⟨h1,rfl⟩:=overC_get f p n j v h
  have e:(⟨g,p,none⟩:Addr).add j=⟨g,p+j,none⟩:=by unfold Addr.add; split <;> simp_all
  rw [e]
  exact hr.row.cell (by omega)
 ·rw [overC_len] at h
  have:=hr.row.cell (i:=p+1+j) (by omega)
  show (w.cell? _).isSome=true
  rw [this]; rfl
 ·obtain ⟨j,hj⟩:=List.mem_iff_getElem?.1 hv
  obtain ⟨h1,rfl⟩:=overC_get f p n j v hj
  exact sl_one (hr.inn (p+j) (by simp; omega))
 ·rw [hol]; exact h
set_option maxRecDepth 100000 in
set_option maxHeartbeats 400000 in
theorem sortR_any (B:Nat) (l:List (List Int)) (v:Value) (w:World) (hv:Mat B 22 3 w v l) (hl:l.length≤2000000000000) (hr:∀r∈l,r.length≤1000000) :
  Calls Tryz.prog 4 #[v] w fun e w'=>∃x s,e=.returned x∧Fr w.heap.size 22 3 w' x s∧SAsc s∧(∀r,r∈s↔r∈l)∧Below w.heap.size w w':=by
 obtain ⟨i0,hi,hz0,hz1,hz2⟩:=info_parts Tryz.info22
 obtain ⟨ao,cap,hvv,hlc,hcm⟩:=mat_open hv
 subst hvv
 have HV:Hid (Mat B 22 3 w (.slice ao l.length cap) l):=hv
 have HR:Hid (∀r∈l,r.length≤1000000):=hr
 clear hv hr
 go_enter Tryz.func4,Tryz.ntmps4
 go_wp2
 go_loopw [3,4] (fun x i wr=>∃(k:Nat) (s:List (List Int)),k≤l.length∧i=.int .i64 k∧Fr w.heap.size 22 3 wr x s∧SAsc s∧(∀r,r∈s↔r∈l.take k)∧s.length≤k∧Below w.heap.size w wr) (fun _ i _=>l.length-(intOf i).toNat)
 case atStart=>exact ⟨0,[],Nat.zero_le _,rfl,Fr.nil _ _ _ _,List.Pairwise.nil,(fun r=>by simp),Nat.le_refl _,Below.refl _ _⟩
 case round=>
  obtain ⟨k,s,hk,rfl,hfr,hsa,hmem,hsk,hbel⟩:=hrel
  rename World=>wa
  have HF:Hid (Fr w.heap.size 22 3 wa u3 s):=hfr
  have HS:Hid (SAsc s):=hsa
  have HM:Hid (∀r,r∈s↔r∈l.take k):=hmem
  have HB:Hid (Below w.heap.size w wa):=hbel
  have hsz:w.heap.size≤wa.heap.size:=hbel.size
  obtain ⟨uo,uc,huu,huc1,huc2⟩:=fr_open hfr
  subst huu
  clear hfr hsa hmem hbel
  by_cases hlt:k < l.length
  ·obtain ⟨b,o,cp,r1,hs,hc1,hcc,hr1⟩:=mat_cell HV.out hlt
   simp only [Value.slice.injEq] at hs
   obtain ⟨rfl,_,rfl⟩:=hs
   obtain ⟨ro,rc,hrv,_,_⟩:=sl_open hr1
   subst hrv
   have HQ:Hid (∀W',Below w.heap.size w W'→W'.cell? ⟨b,o+k,none⟩=some (.slice ro (l.getD k []).length rc)∧Sl B 3 W' (.slice ro (l.getD k []).length rc) (ints (l.getD k []))):=fun W' h=>⟨(h.cell (lt_of_cell hcc)).trans hcc,hr1.below h (Nat.le_refl _)⟩
   have HQL:Hid ((l.getD k []).length≤1000000):=HR.out _ (by simp [hlt])
   have HTK:Hid (l.take (k+1)=l.take k ++ [l.getD k []]):=by
    show _=_
    rw [List.take_succ_eq_append_getElem hlt]; simp [hlt]
   clear hr1 hcc
   generalize l.getD k []=q at *
   obtain ⟨ql,hql⟩:∃ql,ql=q.length:=⟨_,rfl⟩
   have HQE:Hid (ql=q.length):=hql
   rw [←hql] at HQ HQL
   clear hql
   have hkI:(k:Int) < (l.length:Int):=by omega
   have hkI0:(0:Int)≤(k:Int):=by omega
   go_wp2
   go_loopw [5] (fun p wq=>∃p':Nat,p'≤s.length∧p=.int .i64 p'∧Aft s q p'∧Qw wa wq) (fun p _=>(intOf p).toNat)
   case atStart=>exact ⟨s.length,Nat.le_refl _,rfl,(fun r hr=>by rw [List.drop_length] at hr; simp at hr),Qw.refl _⟩
   case round=>
    obtain ⟨p',hp',rfl,haft,hqw⟩:=hrel
    have HA:Hid (Aft s q p'):=haft
    have HQW:Hid (Qw wa wr):=hqw
    have HBW:Hid (Below w.heap.size w wr):=HB.out.trans hqw.below
    have hccw:=(HQ.out wr HBW.out).1
    have HFW:Hid (Fr w.heap.size 22 3 wr (.slice uo s.length uc) s):=hqw.fr HF.out
    clear haft hqw
    have hp'64:p'≤2000000000000:=by omega
    by_cases hp0:p'=0
    case' pos=>
     have hpF:decide ((0:Int) < (p':Int))=false:=by simp; omega
     have hpN:decide (0 < p')=false:=by simp; omega
     have HLO:Hid (∀r∈s.take p',cmpL r q < 0):=fun r hr=>by rw [hp0] at hr; simp at hr
     clear hp0
     go_wp2
     go_quiet (fail)
     generalize nq=n1
     go_wp2
     go_quiet (fail)
     have HF9:Hid (Fr w.heap.size 22 3 ((wr.drewN n1).drewN nq) (.slice uo s.length uc) s):=HFW.out
     have HB9:Hid (Below w.heap.size w ((wr.drewN n1).drewN nq)):=HBW.out.trans ⟨rfl,rfl,rfl,Nat.le_refl _,fun _ _=>rfl⟩
     generalize (wr.drewN n1).drewN nq=W9 at *
    case' neg=>
     have hpF:decide ((0:Int) < (p':Int))=true:=by simp; omega
     have hpN:decide (0 < p')=true:=by simp; omega
     have hpl:p'-1 < s.length:=by omega
     obtain ⟨b2,o2,cp2,r2,hs2,_,hcc2,hr2⟩:=mat_cell (HFW.out.rws.mat (Nat.le_refl _)) hpl
     simp only [Value.slice.injEq,true_and] at hs2
     obtain ⟨rfl,rfl⟩:=hs2
     have hk1:(p':Int)-1=((p'-1:Nat):Int):=by omega
     have HBE:Hid (∀n,Calls Tryz.prog 10 #[.slice ro ql rc,r2] (wr.drewN n) fun e w'=>e=.returned (.bool (decide (cmpL q (s.getD (p'-1) []) < 0)))∧∃k,w'=(wr.drewN n).drewN k):=fun n=>below_any (max B w.heap.size) q (s.getD (p'-1) []) _ _ (wr.drewN n) (by have:=((HQ.out wr HBW.out).2.more (show B≤max B w.heap.size by omega)).drewN n; exact this) ((hr2.more (show w.heap.size≤max B w.heap.size by omega)).drewN n)
     have HSE:Hid (∀n,Calls Tryz.prog 11 #[r2,.slice ro ql rc] (wr.drewN n) fun e w'=>e=.returned (.bool (s.getD (p'-1) [] == q))∧∃k,w'=(wr.drewN n).drewN k):=fun n=>same_any (max B w.heap.size) (s.getD (p'-1) []) q _ _ (wr.drewN n) ((hr2.more (show w.heap.size≤max B w.heap.size by omega)).drewN n) (by have:=((HQ.out wr HBW.out).2.more (show B≤max B w.heap.size by omega)).drewN n; exact this)
     have HST:Hid (cmpL q (s.getD (p'-1) []) < 0→Aft s q (p'-1)):=fun h=>Aft.step (p:=p'-1) (by rw [show p'-1+1=p' by omega]; exact HA.out) hpl h
     have HLL:Hid (¬cmpL q (s.getD (p'-1) []) < 0→s.getD (p'-1) []≠q→∀r∈s.take p',cmpL r q < 0):=fun h1 h2=>by
      have:=asc_below HS.out hpl h1 h2
      rw [show p'-1+1=p' by omega] at this
      exact this
     have HIN:Hid (s.getD (p'-1) []∈s):=by show _∈_; simp [hpl]
     clear hr2 hp0
     generalize s.getD (p'-1) []=y at *
     obtain ⟨bb,hbb⟩:∃bb,bb=decide (cmpL q y < 0):=⟨_,rfl⟩
     have HBB:Hid (bb=decide (cmpL q y < 0)):=hbb
     rw [←hbb] at HBE
     clear hbb
     obtain ⟨sb,hsb⟩:∃sb,sb=(y == q):=⟨_,rfl⟩
     have HSBB:Hid (sb=(y == q)):=hsb
     rw [←hsb] at HSE
     clear hsb
     go_wp2
     go_quiet (first | (go_at_call 10; exact Calls.quiet_of (w:=wr) (HBE.out _)))
     generalize nq=n1
     cases hbc:bb
     case' true=>
      have HAF:Hid (Aft s q (p'-1)):=HST.out (of_decide_eq_true (by rw [←HBB.out]; exact hbc))
      clear hbc
      go_wp2
      go_roundw
      case rel=>exact ⟨p'-1,by omega,by go_num,HAF.out,HQW.out.drewN _⟩
      case measure=>simp [intOf]; omega
     case' false=>
      have HNB:Hid (¬cmpL q y < 0):=of_decide_eq_false (by rw [←HBB.out]; exact hbc)
      clear hbc
      have HSZ:Hid (∀n,Calls Tryz.prog 11 #[r2,.slice ro ql rc] ((wr.drewN n1).drewN n) fun e w'=>e=.returned (.bool sb)∧∃k,w'=((wr.drewN n1).drewN n).drewN k):=fun n=>by
       have:=HSE.out (n1+n)
       rw [←World.drewN_drewN] at this
       exact this
      have hccz:(wr.drewN n1).cell? ⟨b,o+k,none⟩=some (.slice ro ql rc):=hccw
      have hcc2z:(wr.drewN n1).cell? ⟨b2,o2+(p'-1),none⟩=some r2:=hcc2
      have HFZ:Hid (Fr w.heap.size 22 3 (wr.drewN n1) (.slice (some ⟨b2,o2,none⟩) s.length uc) s):=HFW.out
      have HBZ:Hid (Below w.heap.size w (wr.drewN n1)):=HBW.out.trans ⟨rfl,rfl,rfl,Nat.le_refl _,fun _ _=>rfl⟩
      have HQZ:Hid (Qw wa (wr.drewN n1)):=HQW.out.drewN n1
      clear hccw hcc2
      generalize wr.drewN n1=wz at *
      go_wp2
      go_quiet (first | (go_at_call 11; exact Calls.quiet_of (w:=wz) (HSZ.out _)))
      cases hsc:sb
      case' true=>
       have HEQ:Hid (y=q):=by have:=HSBB.out; rw [hsc] at this; exact eq_of_beq this.symm
       have HMM:Hid (∀r,r∈s↔r∈l.take (k+1)):=by
        intro r
        rw [HTK.out,List.mem_append,←HM.out r,List.mem_singleton]
        constructor
        ·exact Or.inl
        ·rintro (h | h)
         ·exact h
         ·rw [h,←HEQ.out]; exact HIN.out
       have HFN:Hid (Fr w.heap.size 22 3 (wz.drewN nq) (.slice (some ⟨b2,o2,none⟩) s.length uc) s):=HFZ.out
       have HBN:Hid (Below w.heap.size w (wz.drewN nq)):=HBZ.out.trans ⟨rfl,rfl,rfl,Nat.le_refl _,fun _ _=>rfl⟩
       clear hsc
       go_wp2
       go_roundw
       case rel=>exact ⟨k+1,s,by omega,by go_num,HFN.out,HS.out,HMM.out,by omega,HBN.out⟩
       case measure=>simp [intOf]; omega
      case' false=>
       have HNE:Hid (y≠q):=by
        have:=HSBB.out
        rw [hsc] at this
        exact fun h=>by rw [h] at this; simp at this
       have HLO:Hid (∀r∈s.take p',cmpL r q < 0):=HLL.out HNB.out HNE.out
       clear hsc
       have HF9:Hid (Fr w.heap.size 22 3 (wz.drewN nq) (.slice (some ⟨b2,o2,none⟩) s.length uc) s):=HFZ.out
       have HB9:Hid (Below w.heap.size w (wz.drewN nq)):=HBZ.out.trans ⟨rfl,rfl,rfl,Nat.le_refl _,fun _ _=>rfl⟩
       generalize wz.drewN nq=W9 at *
       generalize (some (⟨b2,o2,none⟩:Addr))=uo at *
    all_goals
     have hsz9:w.heap.size≤W9.heap.size:=HB9.out.size
     obtain ⟨vs,g1,g2,g3⟩:=HF9.out
     have G1:Hid (vs.length=s.length):=g1
     have G2:Hid (W9.ownsRow w.heap.size 22 1 (.slice uo s.length uc) s.length vs):=g2
     have G3:Hid (∀i,i < s.length→Sl 0 3 W9 (vs.getD i (.slice none 0 0)) (ints (s.getD i []))):=g3
     clear g1 g2 g3
     go_wp2_with (first | (at_builtin; refine wpList_append_own _ rfl _ _ 23 rfl w.heap.size 22 i0 (.slice none 0 0) 1 24 Tryz.underlying23 hi hz0 hz1 hz2 rfl (by decide) _ _ _ rfl (G2.out.alloc _) ⟨W9.heap.size,0,none⟩ 1 1 [.slice none 0 0] rfl rfl (one_new _ _ _) (one_slice _ _ _) ?d3 ?d4 ?d5 ?_))
     case d3=>unfold maxLen; omega
     case d4=>omega
     case d5=>simp; omega
     intro v' w3 ho hg _
     have hfr3:Fr w.heap.size 22 3 w3 v' (s ++ [[]]):=
      Fr.push (e2:=22) (e1:=3) (m:=s) (u:=.slice none 0 0) (zs:=[]) (by decide) G1.out (G2.out.alloc _) (fun i hi=>(G3.out i hi).alloc _) (Sl.nil _ _ _) ho hg
     have HB3:Hid (Below w.heap.size w w3):=(HB9.out.alloc (by omega) _).grown hg (by simp; omega) (fun x hx=>(G2.out.lt x hx).1)
     obtain ⟨g,gc,f,hvv,hBg,hgs,hrm⟩:=hfr3.rowM (by simp)
     have hgc1:=hrm.cap1
     rw [List.length_append,List.length_singleton] at hvv hgc1
     subst hvv
     have hgc2:=hrm.cap2
     have HRM:Hid (RowM w3 g gc f (s ++ [[]])):=hrm
     clear hrm hfr3 ho hg
     obtain ⟨dp,la,ca,lb,cb,hr1,hr0,hdp,hla,hlb,hsm⟩:=ins_runs (g:=g) hp' hgc1 hp'64
     have HCP:Hid (∀(ops:Array Oper) (o:Oper) (a:Act) (K:Act→World→Prop) (Q:Exit→Act→World→Prop) (E:Prop),o.guard=none→o.op=.call { callee:=.builtin .copy,args:=#[.tmp 50,.tmp 53],argTypes:=#[23,23] }→a.eval (.tmp 50)=.slice dp la ca→a.eval (.tmp 53)=.slice (some ⟨g,p',none⟩) lb cb→K (a.put o.dst (goInt ((s.length-p':Nat):Int))) (w3.drew.setCells g (p'+1) (overC f p' s.length))→if Region.wanted o (yielded ops a.tmps)=true then Oper.wp Tryz.prog o a w3.drew K Q else E):=ins_copy rfl hp' hgc1 hdp hla hlb HRM.out
     have HSK:Hid (s.length≤k):=hsk
     have HPP:Hid (p'≤s.length∧p'≤2000000000000∧s.length+1≤gc∧s.length≤2000000000000):=⟨hp',hp'64,hgc1,by omega⟩
     clear hdp hla hlb
     clear hpF hpN hp'64 hgc1 hgc2 huc1 huc2 hsk hkI hkI0 hcm hlc
     try clear hpl hk1
     try clear hccz hcc2z
     try clear hccw
     clear hp'
     go_wp2
     go_region_law (refine HCP.out _ _ _ _ _ _ rfl rfl (by simp [Act.eval,Act.put]) (by simp [Act.eval,Act.put]) ?_)
     have HT4:Hid (Touch g w3 (w3.drew.setCells g (p'+1) (overC f p' s.length))):=(Touch.refl g w3).drew.setCells _ _
     have HB4:Hid (Below w.heap.size w (w3.drew.setCells g (p'+1) (overC f p' s.length))):=HT4.out.below HB3.out hBg
     have HRD:Hid (RowM w3.drew g gc f (s ++ [[]])):=⟨HRM.out.row,HRM.out.cap1,HRM.out.cap2,fun i hi=>HRM.out.inn i hi⟩
     have hs4:w3.heap.size≤(w3.drew.setCells g (p'+1) (overC f p' s.length)).heap.size:=Nat.le_of_eq HT4.out.size.symm
     have HFI:Hid (∀w5 u,Below (w3.drew.setCells g (p'+1) (overC f p' s.length)).heap.size (w3.drew.setCells g (p'+1) (overC f p' s.length)) w5→Sl 0 3 w5 u (ints q)→Fr w.heap.size 22 3 (w5.setCell ⟨g,p',none⟩ u) (.slice (some ⟨g,0,none⟩) (s.length+1) gc) (putAt s q p')):=fun w5 u hb hu=>ins_fr HRD.out HPP.out.1 hBg hb hs4 hu
     have HST:Hid (∀w5,Below (w3.drew.setCells g (p'+1) (overC f p' s.length)).heap.size (w3.drew.setCells g (p'+1) (overC f p' s.length)) w5→(∃x,w5.cell? ⟨g,p',none⟩=some x)∧w5.frozen? ⟨g,p',none⟩=false):=fun w5 hb=>by
      have h4:=rowIs_same (rowIs_setCells (overC f p' s.length) (p'+1) w3.drew f HRD.out.row) (hb.block g (by omega))
      exact ⟨⟨_,h4.cell (by have:=HPP.out; omega)⟩,h4.frozen _⟩
     clear hs4 hr1 hr0 hsm
     generalize w3.drew.setCells g (p'+1) (overC f p' s.length)=w4 at *
     have hcc4:=(HQ.out w4 HB4.out).1
     have HQ4:Hid (Sl B 3 w4 (.slice ro ql rc) (ints q)):=(HQ.out w4 HB4.out).2
     have hkI:(k:Int) < (l.length:Int):=by omega
     have hkI0:(0:Int)≤(k:Int):=by omega
     have hp4:(p':Int) < (s.length:Int)+1:=by have:=HPP.out.1; omega
     have HQL2:Hid (q.length≤1000000):=by rw [←HQE.out]; exact HQL.out
     go_wp2_with fail
     refine (copy_any B q _ w4 HQ4.out HQL2.out).mono ?_
     rintro e w5 ⟨cv,rfl,hcv,hb5⟩
     obtain ⟨xo,xc,hxv⟩:=owns_form hcv
     subst hxv
     have HFN:Hid (Fr w.heap.size 22 3 (w5.setCell ⟨g,p',none⟩ (.slice xo q.length xc)) (.slice (some ⟨g,0,none⟩) (s.length+1) gc) (putAt s q p')):=HFI.out w5 _ hb5 (Sl.own hcv)
     have HBN:Hid (Below w.heap.size w (w5.setCell ⟨g,p',none⟩ (.slice xo q.length xc))):=((Touch.refl g w5).setCell p' _).below (HB4.out.trans (hb5.mono HB4.out.size)) hBg
     obtain ⟨⟨x0,hx0⟩,hfz⟩:=HST.out w5 hb5
     clear hcv hb5 hcc4
     generalize hqq:q.length=ql2 at *
     clear hqq
     have HPA:Hid (SAsc (putAt s q p')):=putAt_asc HS.out HLO.out HA.out
     have HPM:Hid (∀r,r∈putAt s q p'↔r∈l.take (k+1)):=fun r=>by
      rw [putAt_mem,HTK.out,List.mem_append,←HM.out r,List.mem_singleton]
      exact or_comm
     have HPL:Hid ((putAt s q p').length≤k+1):=by
      show _≤_
      rw [putAt_len HPP.out.1]
      exact Nat.succ_le_succ HSK.out
     go_wp2
     exact ⟨⟨k+1,putAt s q p',hlt,by go_num,HFN.out,HPA.out,HPM.out,HPL.out,HBN.out⟩,by simp [intOf]; omega⟩
  ·have hke:l.take k=l:=List.take_of_length_le (by omega)
   have HM':Hid (∀r,r∈s↔r∈l):=by have:=HM.out; rw [hke] at this; exact this
   go_wp2
   go_ret
   exact ⟨_,s,rfl,HF.out,HS.out,HM'.out,HB.out⟩
end Go.Proofs.YtdanomklbiidaaaGreatDoor
