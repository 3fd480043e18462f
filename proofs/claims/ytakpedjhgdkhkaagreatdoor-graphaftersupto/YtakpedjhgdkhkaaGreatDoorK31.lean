/-
  
-/
import Derived.Test.YtakpedjhgdkhkaaGreatDoorK27
import Derived.Test.YtakpedjhgdkhkaaGreatDoorK12
namespace Go.Proofs.YtakpedjhgdkhkaaGreatDoor.V
set_option maxRecDepth 100000
set_option maxHeartbeats 8000000
open Go.RowKit
theorem mem_getDL (xss:List (List Int)) (j:Nat) (h:j<xss.length):xss[j]?.getD []∈xss:=by simp [h]
theorem set_same (ds:List Int) (p:Nat):ds.set p (ds[p]?.getD 0)=ds:=by
 apply List.ext_getElem?
 intro j
 rw [List.getElem?_set]
 split
 · rename_i e;subst e
   split
   · rename_i h;simp [h]
   · rename_i h;simp at h;simp [h]
 · rfl
theorem set_getD (ds:List Int) (p j:Nat) (V:Int) (h:p<ds.length):(ds.set p V)[j]?.getD 0=if j=p then V else ds[j]?.getD 0:=by
 rw [List.getElem?_set]
 by_cases e:j=p
 · subst e;simp [h]
 · have:¬ p=j:=fun hh=>e hh.symm
   simp [e,this]
theorem take_set (ds:List Int) (p:Nat) (V:Int):(ds.set p V).take p=ds.take p:=by
 rw [List.take_set_of_le (Nat.le_refl _)]
theorem drop_set (ds:List Int) (p:Nat) (V:Int):(ds.set p V).drop (p+1)=ds.drop (p+1):=by
 rw [List.drop_set_of_lt (Nat.lt_succ_self _)]
theorem set_bd {ds:List Int} {p:Nat} {V:Int} (h:∀ x∈ds,-9223372036854775808<=x/\x<=9223372036854775807) (hV:-9223372036854775808<=V/\V<=9223372036854775807):∀ x∈ds.set p V,-9223372036854775808<=x/\x<=9223372036854775807:=by
 intro x hx
 rcases List.mem_or_eq_of_mem_set hx with h1 | h1
 · exact h x h1
 · rw [h1];exact hV
theorem joinDims_any (k x:Int) (vd vl vh vs:Value) (pa:Option Addr) (pl pc:Nat) (ps:List Int) (A:Option Addr) (len cap:Nat) (xss:List (List Int)) (w:World) (hp:Lst w pa pl pc ps) (h:Lsts w A len xss) (hcap:len<=cap) (h1:1<=len) (hlen:len<=1048576) (hz:∀ d∈xss,sizeE d=0) :
 Calls Tryz.prog 64 #[.agg #[.int .i64 k,vd,.slice pa pl pc,vl,vh,vs,.int .i64 x],.slice A len cap] w fun e w'=>OutP e w' (joinP ps xss)/\Below w.heap.size w w':=by
 have H:=hide h
 have HP:=hide hp
 have HN:=hide h.1
 have HPL:=hide hp.1.1
 have HZ:=hide hz
 obtain ⟨b,off,rfl,hc⟩:=h.at (by omega)
 obtain ⟨X0,m0,c0,hc0,hl0⟩:=hc 0 (by omega)
 obtain ⟨ds,hds⟩:∃ ds,ds=xss[0]?.getD []:=⟨_,rfl⟩
 rw [<-hds] at hl0
 have HDS:=hide hds
 have HC:=hide hc
 have hc0':w.cell? ⟨b,off,none⟩=some (.slice X0 m0 c0):=hc0
 have HC0:=hide hc0'
 have HL0:=hide hl0
 have hmem0:ds∈xss:=by rw [hds];exact mem_getDL xss 0 (by rw [h.1];omega)
 have hz0:=sizeE_ok (hz ds hmem0)
 have hm06:m0<=6:=by have:=hl0.1.1;omega
 clear h hp hz hc hc0 hl0 hds hmem0
 have HB1:=hide ((Below.refl w.heap.size w).alloc (Nat.le_refl _) (.cells #[.int .i64 k,vd,.slice pa pl pc,vl,vh,vs,.int .i64 x] 38))
 have HOP:=hide (OpAt.new w k vd (.slice pa pl pc) vl vh vs x)
 have q0:(w.alloc (.cells #[.int .i64 k,vd,.slice pa pl pc,vl,vh,vs,.int .i64 x] 38)).cell? ⟨b,off,none⟩=some (.slice X0 m0 c0):=(HB1.out.cell (p:=⟨b,off,none⟩) (lt_of_cell HC0.out)).trans HC0.out
 have hpos:(0:Int)<(len:Int):=by omega
 have HBAD:Hid (¬ (ps.length=1/\0<=joinAt ps/\joinAt ps<(ds.length:Int))->joinP ps xss=([],6)):=fun hn=>by
  unfold joinP
  rw [<-HDS.out,if_neg]
  rintro ⟨a1,a2,a3,_⟩
  exact hn ⟨a1,a2,a3⟩
 by_cases c1:pl=1
 case neg =>
  rw [HBAD.out (fun hh=>c1 (by rw [<-HPL.out];exact hh.1))]
  have q:((pl:Int) != 1)=true:=by simp;omega
  clear c1
  go_enter Tryz.func64,Tryz.ntmps64
  go_wp2_with (go_at_call 35;refine (afresh_any _ _ _ ds _ (HL0.out.1.below HB1.out) (by omega)).mono ?_;rintro e w1 ⟨⟨g,rfl,hr,hg⟩,hb⟩;have HR:=hide hr;have HB2:=hide (Below.on HB1.out hb);have HO2:=hide (HOP.out.below hb);obtain ⟨o0,o1,o2,o3,o4,o5,o6⟩:=HO2.out.cells;have hgg:w.heap.size+1<=g:=by { simpa using hg }; clear hr hb hg)
  go_ret2
  exact ⟨outP_none _ _,HB2.out⟩
 subst c1
 obtain ⟨pb,pof,rfl,hpb,hpc⟩:=HP.out.1.at (by omega)
 obtain ⟨P,hP⟩:∃ P,P=joinAt ps:=⟨_,rfl⟩
 have hcp:w.cell? ⟨pb,pof,none⟩=some (.int .i64 P):=by rw [hP];exact hpc 0 (by omega)
 have HCP:=hide hcp
 have HPP:=hide hP
 have hdl:ds.length=m0:=HL0.out.1.1
 have HDL:=hide hdl
 clear hpc hcp
 by_cases c2:P<0
 · rw [HBAD.out (fun hh=>by rw [<-hP] at hh;omega)]
   clear hP
   go_enter Tryz.func64,Tryz.ntmps64
   go_wp2_with (go_at_call 35;refine (afresh_any _ _ _ ds _ (HL0.out.1.below HB1.out) (by omega)).mono ?_;rintro e w1 ⟨⟨g,rfl,hr,hg⟩,hb⟩;have HR:=hide hr;have HB2:=hide (Below.on HB1.out hb);have HO2:=hide (HOP.out.below hb);obtain ⟨o0,o1,o2,o3,o4,o5,o6⟩:=HO2.out.cells;have hgg:w.heap.size+1<=g:=by { simpa using hg };have cp:w1.cell? ⟨pb,pof,none⟩=some (.int .i64 P):=(HB2.out.cell (p:=⟨pb,pof,none⟩) hpb).trans HCP.out;clear hr hb hg)
   go_ret2
   exact ⟨outP_none _ _,HB2.out⟩
 by_cases c3:(m0:Int)<=P
 · rw [HBAD.out (fun hh=>by rw [<-hP] at hh;omega)]
   clear hP
   go_enter Tryz.func64,Tryz.ntmps64
   go_wp2_with (go_at_call 35;refine (afresh_any _ _ _ ds _ (HL0.out.1.below HB1.out) (by omega)).mono ?_;rintro e w1 ⟨⟨g,rfl,hr,hg⟩,hb⟩;have HR:=hide hr;have HB2:=hide (Below.on HB1.out hb);have HO2:=hide (HOP.out.below hb);obtain ⟨o0,o1,o2,o3,o4,o5,o6⟩:=HO2.out.cells;have hgg:w.heap.size+1<=g:=by { simpa using hg };have cp:w1.cell? ⟨pb,pof,none⟩=some (.int .i64 P):=(HB2.out.cell (p:=⟨pb,pof,none⟩) hpb).trans HCP.out;clear hr hb hg)
   go_ret2
   exact ⟨outP_none _ _,HB2.out⟩
 obtain ⟨p,rfl⟩:∃ p:Nat,P=(p:Int):=⟨P.toNat,by omega⟩
 have hpm:p<m0:=by omega
 have HPT:Hid ((joinAt ps).toNat=p):=by rw [Hid,<-hP];simp
 have HJP:Hid (joinP ps xss=if (xss.drop 1).all (joinB p ds)=true then (ds.set p (joinS p xss),0) else ([],6)):=by
  unfold joinP
  rw [Hid,<-HDS.out,HPT.out]
  by_cases e:(xss.drop 1).all (joinB p ds)=true
  · rw [if_pos ⟨HPL.out,by omega,by omega,e⟩,if_pos e]
  · rw [if_neg (fun hh=>e hh.2.2.2),if_neg e]
 have HS1:Hid (ds.set p (joinS p (xss.take 1))=ds):=by
  have e:xss.take 1=[ds]:=by
   have:=take_snocL xss 0 (by rw [HN.out];omega)
   simpa [<-HDS.out] using this
  rw [Hid,e]
  have e2:joinS p [ds]=ds[p]?.getD 0:=by simp [joinS]
  rw [e2];exact set_same ds p
 have HSB:Hid (∀ m,0<=joinS p (xss.take m)/\joinS p (xss.take m)<=4096*1048576):=fun m=>by
  have h3:=joinS_bd p (xss.take m) (fun d hd=>(sizeE_ok (HZ.out d (List.mem_of_mem_take hd))).2.1)
  have h4:(xss.take m).length<=1048576:=by simp;have:=HN.out;omega
  omega
 clear hP
 by_cases cc:cap=1
 · subst cc
   obtain rfl:len=1:=by omega
   go_enter Tryz.func64,Tryz.ntmps64
   go_wp2_with (go_at_call 35;refine (afresh_any _ _ _ ds _ (HL0.out.1.below HB1.out) (by omega)).mono ?_;rintro e w1 ⟨⟨g,rfl,hr,hg⟩,hb⟩;have HR:=hide hr;have HB2:=hide (Below.on HB1.out hb);have HO2:=hide (HOP.out.below hb);obtain ⟨o0,o1,o2,o3,o4,o5,o6⟩:=HO2.out.cells;have hgg:w.heap.size+1<=g:=by { simpa using hg };have cp:w1.cell? ⟨pb,pof,none⟩=some (.int .i64 (p:Int)):=(HB2.out.cell (p:=⟨pb,pof,none⟩) hpb).trans HCP.out;clear hr hb hg)
   go_loopw [41] (fun i wr=>i=.int .i64 0/\RowI wr g m0 ds/\Below w.heap.size w wr) (fun _ _=>0)
   case atStart=>exact ⟨rfl,HR.out,HB2.out⟩
   case round =>
    clear HR HB2 HO2 o0 o1 o2 o3 o4 o5 o6 cp
    obtain ⟨rfl,hr,hB⟩:=hrel
    have HR:=hide hr
    have HB:=hide hB
    clear hr hB
    go_wp2
    go_ret2
    have e1:xss.take 1=xss:=List.take_of_length_le (by rw [HN.out];exact Nat.le_refl _)
    have e2:=HS1.out
    rw [e1] at e2
    have e3:(xss.drop 1).all (joinB p ds)=true:=by rw [List.drop_eq_nil_of_le (by rw [HN.out];exact Nat.le_refl _)];rfl
    rw [HJP.out,if_pos e3,e2]
    exact ⟨outP_new (newAt_row (w:=w) HR.out (by omega) HDL.out (by omega) HL0.out.1.2.2.1) 0,HB.out⟩
 · go_enter Tryz.func64,Tryz.ntmps64
   go_wp2_with (go_at_call 35;refine (afresh_any _ _ _ ds _ (HL0.out.1.below HB1.out) (by omega)).mono ?_;rintro e w1 ⟨⟨g,rfl,hr,hg⟩,hb⟩;have HR:=hide hr;have HB2:=hide (Below.on HB1.out hb);have HO2:=hide (HOP.out.below hb);obtain ⟨o0,o1,o2,o3,o4,o5,o6⟩:=HO2.out.cells;have hgg:w.heap.size+1<=g:=by { simpa using hg };have cp:w1.cell? ⟨pb,pof,none⟩=some (.int .i64 (p:Int)):=(HB2.out.cell (p:=⟨pb,pof,none⟩) hpb).trans HCP.out;clear hr hb hg)
   go_loopw [41] (fun i wr=>∃ j:Nat,j<=len-1/\i=.int .i64 j/\(∀ t,t<j->joinB p ds (xss[t+1]?.getD [])=true)/\RowI wr g m0 (ds.set p (joinS p (xss.take (j+1))))/\Below w.heap.size w wr) (fun i _=>len-1-(intOf i).toNat)
   case atStart=>exact ⟨0,Nat.zero_le _,rfl,fun t ht=>by omega,by rw [HS1.out];exact HR.out,HB2.out⟩
   case round =>
    clear HR HB2 HO2 o0 o1 o2 o3 o4 o5 o6 cp
    obtain ⟨j,hj,rfl,hgood,hr,hB⟩:=hrel
    have HG:=hide hgood
    have HR:=hide hr
    have HB:=hide hB
    clear hr hB hgood
    by_cases hlt:j<len-1
    · obtain ⟨X,m,c,hcj0,hlj⟩:=HC.out (j+1) (by omega)
      have hcj:wr.cell? ⟨b,off+1+j,none⟩=some (.slice X m c):=by
       have e:off+1+j=off+(j+1):=by omega
       rw [e];exact (HB.out.cell (p:=⟨b,off+(j+1),none⟩) (lt_of_cell hcj0)).trans hcj0
      obtain ⟨d,hd⟩:∃ d,d=xss[j+1]?.getD []:=⟨_,rfl⟩
      rw [<-hd] at hlj
      have HDJ:=hide hd
      have HLJ:=hide hlj
      have hmemd:d∈xss:=by rw [hd];exact mem_getDL xss (j+1) (by rw [HN.out];omega)
      have hzd:=sizeE_ok (HZ.out d hmemd)
      have hmd:=hlj.1.1
      have HZD:=hide hzd.2.1
      have hcm:=hlj.2.1
      have HNO:Hid (joinB p ds d=false->joinP ps xss=([],6)):=fun hn=>by
       rw [HJP.out,if_neg]
       intro ha
       have:=(joinAll_iff _ _).1 ha j (by rw [HN.out];omega)
       rw [<-HDJ.out,hn] at this
       cases this
      have HSJ:=hide (HSB.out (j+1))
      obtain ⟨J,hJ⟩:∃ J,J=joinS p (xss.take (j+1)):=⟨_,rfl⟩
      rw [<-hJ] at HR HSJ
      have HJ:=hide hJ
      have i1:(0:Int)<=(j:Int):=Int.natCast_nonneg _
      have i2:(j:Int)<((len-1:Nat):Int):=by omega
      clear hcj0 hlj hmemd hd hJ
      by_cases c4:m=m0
      case neg =>
       have q:((m:Int) != (m0:Int))=true:=by simp;omega
       have HJF:Hid (joinB p ds d=false):=by
        unfold joinB
        rw [Hid,HDL.out,hmd]
        simp [c4]
       clear c4
       go_wp2_with fail
       go_quiet (fail)
       go_wp2
       go_ret2
       rw [HNO.out HJF.out]
       exact ⟨outP_none _ _,Below.on HB.out (below_drewN _ _)⟩
      subst c4
      obtain ⟨b1,off1,rfl,hb1,hc1⟩:=HLJ.out.1.at (by omega)
      have HC1:=hide (hc1 p hpm)
      have hbw:Below wr.heap.size wr wr:=Below.refl _ _
      have HLR:Hid (Lst wr (some ⟨g,0,none⟩) m m (ds.set p J)):=⟨ints_of_rowI HR.out (by rw [List.length_set];exact HDL.out) (by omega) (set_bd HL0.out.1.2.2.1 (by have:=HSJ.out;omega)),Nat.le_refl _,fun e=>by cases e⟩
      have HE1:Hid (∀ wx,Below wr.heap.size wr wx->Ints wx (some ⟨b1,off1,none⟩) p (d.take p)/\Ints wx (some ⟨g,0,none⟩) p (ds.take p)):=fun wx hx=>by
       refine ⟨((lst_take HLJ.out p (by omega)).1.below HB.out).below hx,?_⟩
       have:=(lst_take HLR.out p (by omega)).1.below hx
       rwa [take_set] at this
      clear hc1 hbw
      have HEQ1:Hid (∀ n c1 c2,Calls Tryz.prog 9 #[.slice (some ⟨b1,off1,none⟩) p c1,.slice (some ⟨g,0,none⟩) p c2] (wr.drewN n) fun e w'=>e=.returned (.bool (decide (d.take p=ds.take p)))/\∃ k,w'=(wr.drewN n).drewN k):=fun n c1 c2=>equal_any _ _ _ (d.take p) _ _ _ (ds.take p) _ (HE1.out _ (below_drewN _ n)).1 (HE1.out _ (below_drewN _ n)).2
      have HEQ2:Hid (∀ n X a1 c1 Y a2 c2,Ints wr X a1 (d.drop (p+1))->Ints wr Y a2 (ds.drop (p+1))->Calls Tryz.prog 9 #[.slice X a1 c1,.slice Y a2 c2] (wr.drewN n) fun e w'=>e=.returned (.bool (decide (d.drop (p+1)=ds.drop (p+1))))/\∃ k,w'=(wr.drewN n).drewN k):=fun n X a1 c1 Y a2 c2 h1 h2=>equal_any _ _ _ (d.drop (p+1)) _ _ _ (ds.drop (p+1)) _ (h1.below (below_drewN _ n)) (h2.below (below_drewN _ n))
      have hw1:IntKind.i64.wrap ((p:Int)+1)=((p+1:Nat):Int):=by rw [wrap_in _ (by omega) (by omega)];omega
      go_wp2_with fail
      go_cut [71] (fun t wc=>∃ u:Bool,t=.bool u/\u=!joinB p ds d/\Below wr.heap.size wr wc)
      case first =>
       by_cases q1:d.take p=ds.take p
       case neg =>
        have HJF:Hid (true=!joinB p ds d):=by simp [Hid,joinB,q1]
        rw [decide_eq_false q1] at HEQ1
        clear q1 HEQ2
        go_quiet ((go_at_call 9;exact Calls.quiet_of (HEQ1.out _ _ _)))
        go_wp2
        go_meet
        exact ⟨true,rfl,HJF.out,below_drewN _ _⟩
       rw [decide_eq_true q1] at HEQ1
       have HQ1:=hide q1
       clear q1
       by_cases cA:p+1=m
       · have hd1:d.drop (p+1)=[]:=List.drop_eq_nil_of_le (by omega)
         have hd2:ds.drop (p+1)=[]:=List.drop_eq_nil_of_le (by have:=HDL.out;omega)
         have HJF:Hid (false=!joinB p ds d):=by simp [Hid,joinB,HQ1.out,hd1,hd2,hmd,HDL.out]
         rw [hd1,hd2] at HEQ2
         rw [decide_eq_true (show ([]:List Int)=[] from rfl)] at HEQ2
         clear hd1 hd2
         have HI1:Hid (∀ X n,n=0->Ints wr X n []):=fun X n e=>⟨e.symm,by omega,by simp,.inl e⟩
         by_cases cB:c=p+1
         · go_quiet (first
            | (go_at_call_of 9 (Value.slice (some ⟨g,0,none⟩) p m);exact Calls.quiet_of (HEQ1.out _ _ _))
            | (go_at_call 9;exact Calls.quiet_of (HEQ2.out _ _ _ _ _ _ _ (HI1.out _ _ (by omega)) (HI1.out _ _ (by omega)))))
           go_wp2
           go_meet
           exact ⟨false,rfl,HJF.out,below_drewN _ _⟩
         · go_quiet (first
            | (go_at_call_of 9 (Value.slice (some ⟨g,0,none⟩) p m);exact Calls.quiet_of (HEQ1.out _ _ _))
            | (go_at_call 9;exact Calls.quiet_of (HEQ2.out _ _ _ _ _ _ _ (HI1.out _ _ (by omega)) (HI1.out _ _ (by omega)))))
           go_wp2
           go_meet
           exact ⟨false,rfl,HJF.out,below_drewN _ _⟩
       · have cB:¬ c=p+1:=by omega
         have cM:¬ m=p+1:=by omega
         have HL1:Hid (Ints wr (some ⟨b1,off1+(p+1),none⟩) (m-(p+1)) (d.drop (p+1))):=(lst_drop HLJ.out (p+1) (by omega)).1.below HB.out
         have hl2:=(lst_drop HLR.out (p+1) (by omega)).1
         rw [drop_set] at hl2
         have HL2:=hide hl2
         rw [Nat.zero_add] at hl2
         have HL3:=hide hl2
         clear hl2 cA
         by_cases q2:d.drop (p+1)=ds.drop (p+1)
         · have HJF:Hid (false=!joinB p ds d):=by simp [Hid,joinB,HQ1.out,q2,hmd,HDL.out]
           rw [decide_eq_true q2] at HEQ2
           clear q2
           go_quiet (first
            | (go_at_call_of 9 (Value.slice (some ⟨g,0,none⟩) p m);exact Calls.quiet_of (HEQ1.out _ _ _))
            | (go_at_call 9;exact Calls.quiet_of (HEQ2.out _ _ _ _ _ _ _ HL1.out HL2.out))
            | (go_at_call 9;exact Calls.quiet_of (HEQ2.out _ _ _ _ _ _ _ HL1.out HL3.out)))
           go_wp2
           go_meet
           exact ⟨false,rfl,HJF.out,below_drewN _ _⟩
         · have HJF:Hid (true=!joinB p ds d):=by simp [Hid,joinB,q2]
           rw [decide_eq_false q2] at HEQ2
           clear q2
           go_quiet (first
            | (go_at_call_of 9 (Value.slice (some ⟨g,0,none⟩) p m);exact Calls.quiet_of (HEQ1.out _ _ _))
            | (go_at_call 9;exact Calls.quiet_of (HEQ2.out _ _ _ _ _ _ _ HL1.out HL2.out))
            | (go_at_call 9;exact Calls.quiet_of (HEQ2.out _ _ _ _ _ _ _ HL1.out HL3.out)))
           go_wp2
           go_meet
           exact ⟨true,rfl,HJF.out,below_drewN _ _⟩
      case rest =>
       obtain ⟨u,rfl,hu,hW⟩:=hcut
       have HB2:=hide (Below.on HB.out hW)
       have HR2:=hide (HR.out.below hW)
       have cd:=HLJ.out
       clear cd
       have cd:wc.cell? ⟨b1,off1+p,none⟩=some (.int .i64 (d[p]?.getD 0)):=(HB2.out.cell (p:=⟨b1,off1+p,none⟩) hb1).trans HC1.out
       clear hW hcj HB HR HEQ1 HEQ2 HE1 HLR hw1
       cases u with
       | true =>
        have HJF:Hid (joinB p ds d=false):=by simpa [Hid] using hu
        clear hu
        go_wp2
        go_ret2
        rw [HNO.out HJF.out]
        exact ⟨outP_none _ _,HB2.out⟩
       | false =>
        have HJT:Hid (joinB p ds d=true):=by simpa [Hid] using hu
        obtain ⟨D,hD⟩:∃ D,D=d[p]?.getD 0:=⟨_,rfl⟩
        rw [<-hD] at cd
        have hDb:0<=D/\D<=4096:=by rw [hD];exact getD_bd HZD.out p
        have hJb:0<=J/\J<=4096*1048576:=HSJ.out
        have HDD:=hide hD
        have hpl:p<ds.length:=by rw [HDL.out];exact hpm
        have HPL2:=hide hpl
        have cr:wc.cell? ⟨g,p,none⟩=some (.int .i64 J):=by
         have:=HR2.out.cell hpm
         rwa [set_getD ds p p J hpl,if_pos rfl] at this
        have fr:=HR2.out.frozen p
        clear hu hD hpl
        go_wp2_with fail
        go_region
        all_goals go_wp2
        all_goals go_roundw
        all_goals try (case measure=>simp [intOf];omega)
        all_goals
         have hsum:joinS p (xss.take (j+1+1))=J+D:=by
          rw [take_snocL xss (j+1) (by rw [HN.out];omega),joinS_snoc,<-HJ.out,<-HDJ.out,<-HDD.out]
         have hrow:RowI ((wc.setCell ⟨g,p,none⟩ (.int .i64 (J+D))).drew) g m (ds.set p (joinS p (xss.take (j+1+1)))):=by
          rw [hsum]
          refine (World.rowIs.set HR2.out p (.int .i64 (J+D))).congr (fun t _=>?_)
          rw [set_getD ds p t (J+D) HPL2.out,set_getD ds p t J HPL2.out]
          by_cases e:t=p<;>simp [e]
         have hr:∃ j':Nat,j'<=len-1/\Value.int .i64 ((j:Int)+1)=.int .i64 j'/\(∀ t,t<j'->joinB p ds (xss[t+1]?.getD [])=true)/\RowI ((wc.setCell ⟨g,p,none⟩ (.int .i64 (J+D))).drew) g m (ds.set p (joinS p (xss.take (j'+1))))/\Below w.heap.size w ((wc.setCell ⟨g,p,none⟩ (.int .i64 (J+D))).drew):=by
          refine ⟨j+1,by omega,by go_num,fun t ht=>?_,hrow,(HB2.out.setCell (p:=⟨g,p,none⟩) (by simp;omega) _).drew⟩
          by_cases e:t=j
          · rw [e,<-HDJ.out];exact HJT.out
          · exact HG.out t (by omega)
         first
          | exact hr
          | (repeat apply Exists.intro
             exact ⟨hr,rfl⟩)
    · obtain rfl:j=len-1:=by omega
      go_wp2
      go_ret2
      have e1:len-1+1=len:=by omega
      have e2:=HR.out
      rw [e1,List.take_of_length_le (by rw [HN.out];exact Nat.le_refl _)] at e2
      have e3:(xss.drop 1).all (joinB p ds)=true:=(joinAll_iff _ _).2 (fun t ht=>HG.out t (by rw [HN.out] at ht;omega))
      have e4:=HSB.out len
      rw [List.take_of_length_le (by rw [HN.out];exact Nat.le_refl _)] at e4
      rw [HJP.out,if_pos e3]
      exact ⟨outP_new (newAt_row (w:=w) e2 (by omega) (by rw [List.length_set];exact HDL.out) (by omega) (set_bd HL0.out.1.2.2.1 (by omega))) 0,HB.out⟩
end Go.Proofs.YtakpedjhgdkhkaaGreatDoor.V
