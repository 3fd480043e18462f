import Derived.Test.YtakpedjhgdkhkaaGreatDoorK39
import Derived.Test.YtakpedjhgdkhkaaGreatDoorK27
import Derived.Test.YtakpedjhgdkhkaaGreatDoorK28
import Derived.Test.YtakpedjhgdkhkaaGreatDoorK30
import Derived.Test.YtakpedjhgdkhkaaGreatDoorK33
import Derived.Test.YtakpedjhgdkhkaaGreatDoorK32
import Derived.Test.YtakpedjhgdkhkaaGreatDoorK34
import Derived.Test.YtakpedjhgdkhkaaGreatDoorK35
import Derived.Test.YtakpedjhgdkhkaaGreatDoorK36
import Derived.Test.YtakpedjhgdkhkaaGreatDoorK11
import Derived.Test.YtakpedjhgdkhkaaGreatDoorK2
import Derived.Deep.RegionHeld3
namespace Go.Proofs.YtakpedjhgdkhkaaGreatDoor.V
set_option maxRecDepth 100000
set_option maxHeartbeats 8000000
open Go.RowKit
theorem ruled_19 (x:Int) (ea:Option Addr) (el ec:Nat) (es:List Int) (pa:Option Addr) (pl pc:Nat) (ps:List Int) (la:Option Addr) (ll lc:Nat) (lo:List Int) (ha:Option Addr) (hl hc:Nat) (hi:List Int) (ta:Option Addr) (tl tc:Nat) (st:List Int) (A:Option Addr) (len cap:Nat) (xss:List (List Int)) (w:World)
 (he:Lst w ea el ec es) (hp:Lst w pa pl pc ps) (hlo:Lst w la ll lc lo) (hhi:Lst w ha hl hc hi) (hst:Lst w ta tl tc st) (h:Lsts w A len xss) (hcap:len<=cap) (hz:∀ d∈xss,sizeE d=0) (hn:len=2) (hlen:len<=1048576) (b0:el<=1048576) (b1:pl<=1048576) (b2:ll<=1048576) (b3:hl<=1048576) (b4:tl<=1048576) :
 Calls Tryz.prog 41 #[.agg #[.int .i64 19,.slice ea el ec,.slice pa pl pc,.slice la ll lc,.slice ha hl hc,.slice ta tl tc,.int .i64 x],.slice A len cap] w fun e w'=>OutP e w' (putP es (xss[0]?.getD []) (xss[1]?.getD []))/\Below w.heap.size w w':=by
 have zz:=And.intro hcap (And.intro hlen (And.intro hn (And.intro b0 (And.intro b1 (And.intro b2 (And.intro b3 b4))))))
 clear zz
 have HE:=hide he
 have HP:=hide hp
 have HLO:=hide hlo
 have HHI:=hide hhi
 have HST:=hide hst
 have H:=hide h
 have HN:=hide h.1
 have HZ:=hide hz
 have HB1:=hide ((Below.refl w.heap.size w).alloc (Nat.le_refl _) (.cells #[.int .i64 19,.slice ea el ec,.slice pa pl pc,.slice la ll lc,.slice ha hl hc,.slice ta tl tc,.int .i64 x] 38))
 have HOP:=hide (OpAt.new w 19 (.slice ea el ec) (.slice pa pl pc) (.slice la ll lc) (.slice ha hl hc) (.slice ta tl tc) x)
 obtain ⟨o0,o1,o2,o3,o4,o5,o6⟩:=HOP.out.cells
 obtain ⟨b,off,rfl,hc⟩:=h.at (by omega)
 obtain ⟨X0,m0,c0,hc0,hl0⟩:=hc 0 (by omega)
 have hc0':w.cell? ⟨b,off,none⟩=some (.slice X0 m0 c0):=hc0
 obtain ⟨ds,hds⟩:∃ ds,ds=xss[0]?.getD []:=⟨_,rfl⟩
 rw [<-hds] at hl0 ⊢
 have HL0:=hide hl0
 have HC0:=hide hc0'
 have hzd:sizeE ds=0:=by rw [hds];exact hz _ (mem_getDL xss 0 (by rw [h.1];omega))
 have HZD:=hide hzd
 have h06:m0<=6:=by have:=(sizeE_ok hzd).1;have:=hl0.1.1;omega
 have HD1:=hide (HL0.out.below HB1.out)
 have q0:=(HB1.out.cell (p:=⟨b,off,none⟩) (lt_of_cell hc0')).trans hc0'
 have i0:(0:Int)<(len:Int):=by omega
 obtain ⟨X1,m1,c1,hc1,hl1⟩:=hc 1 (by omega)
 obtain ⟨ds1,hds1⟩:∃ ds1,ds1=xss[1]?.getD []:=⟨_,rfl⟩
 rw [<-hds1] at hl1 ⊢
 have HL1:=hide hl1
 have HCC:Hid (w.cell? ⟨b,off+1,none⟩=some (.slice X1 m1 c1)):=hc1
 have hzd1:sizeE ds1=0:=by rw [hds1];exact hz _ (mem_getDL xss 1 (by rw [h.1];omega))
 have h16:m1<=6:=by have:=(sizeE_ok hzd1).1;have:=hl1.1.1;omega
 have q1:=(HB1.out.cell (p:=⟨b,off+1,none⟩) (lt_of_cell hc1)).trans hc1
 have i1:(1:Int)<(len:Int):=by omega
 clear h he hp hlo hhi hst hz hc hc0 hc0' hl0 hds hzd hc1 hl1 hds1 hzd1
 have HN0:=hide HL0.out.1.1
 have HN1:=hide HL1.out.1.1
 have HNE:=hide HE.out.1.1
 by_cases c1:el=1
 case neg =>
  have hp:putP es ds ds1=([],6):=by unfold putP;rw [if_pos (by rw [HNE.out];exact c1)]
  rw [hp]
  have q:((el:Int) != 1)=true:=by simp;omega
  clear hp c1
  go_enter Tryz.func41,Tryz.ntmps41
  go_wp2_with fail
  go_quiet (fail)
  go_wp2
  go_ret2
  exact ⟨outP_none _ _,Below.on HB1.out (below_drewN _ _)⟩
 subst c1
 by_cases c2:m0<m1
 · have hp:putP es ds ds1=([],6):=by unfold putP;rw [if_neg (by rw [HNE.out];simp),if_pos (by rw [HN0.out,HN1.out];exact c2)]
   rw [hp]
   have q:decide (m0<m1)=true:=decide_eq_true c2
   have q':decide ((m0:Int)<(m1:Int))=true:=decide_eq_true (by omega)
   clear hp
   go_enter Tryz.func41,Tryz.ntmps41
   go_wp2_with fail
   go_quiet (fail)
   go_wp2
   go_ret2
   exact ⟨outP_none _ _,Below.on HB1.out (below_drewN _ _)⟩
 have q2:decide (m0<m1)=false:=decide_eq_false c2
 have q2':decide ((m0:Int)<(m1:Int))=false:=decide_eq_false (by omega)
 have hcap0:=HL0.out.2.1
 have HT:=hide (lst_take HL0.out m1 (by omega))
 have HSL:Hid (∀ n c1 c2,Calls Tryz.prog 14 #[.slice X0 m1 c1,.slice X1 m1 c2] ((w.alloc (.cells #[.int .i64 19,.slice ea 1 ec,.slice pa pl pc,.slice la ll lc,.slice ha hl hc,.slice ta tl tc,.int .i64 x] 38)).drewN n) fun e w'=>e=.returned (.bool (decide (ds.take m1=ds1)))/\∃ k,w'=((w.alloc (.cells #[.int .i64 19,.slice ea 1 ec,.slice pa pl pc,.slice la ll lc,.slice ha hl hc,.slice ta tl tc,.int .i64 x] 38)).drewN n).drewN k):=fun n c1 c2=>sameList_any _ _ _ (ds.take m1) _ _ _ ds1 _ (HT.out.1.below (Below.on HB1.out (below_drewN _ n))) (HL1.out.1.below (Below.on HB1.out (below_drewN _ n)))
 have HPF:Hid (¬ ds.take m1=ds1->putP es ds ds1=([],6)):=fun c3=>by unfold putP;rw [if_neg (by rw [HNE.out];simp),if_neg (by rw [HN0.out,HN1.out];exact c2),if_neg (by rw [HN1.out];exact c3)]
 have HPT:Hid (ds.take m1=ds1->putP es ds ds1=(es++ds.drop m1,0)):=fun c3=>by unfold putP;rw [if_neg (by rw [HNE.out];simp),if_neg (by rw [HN0.out,HN1.out];exact c2),if_pos (by rw [HN1.out];exact c3),HN1.out]
 obtain ⟨B,hBB⟩:∃ B,B=decide (ds.take m1=ds1):=⟨_,rfl⟩
 rw [<-hBB] at HSL
 have HBB:=hide hBB
 have hle:m1<=m0:=by omega
 clear hBB c2
 go_enter Tryz.func41,Tryz.ntmps41
 go_wp2_with fail
 go_cut [158] (fun t wc=>t=.bool (!B)/\Below (w.heap.size+1) (w.alloc (.cells #[.int .i64 19,.slice ea 1 ec,.slice pa pl pc,.slice la ll lc,.slice ha hl hc,.slice ta tl tc,.int .i64 x] 38)) wc)
 case first =>
  go_quiet ((go_at_call 14;exact Calls.quiet_of (HSL.out _ _ _)))
  go_wp2
  go_meet
  exact ⟨rfl,below_drewN _ _⟩
 case rest =>
  obtain ⟨rfl,hW⟩:=hcut
  have hW':Below (w.alloc (.cells #[.int .i64 19,.slice ea 1 ec,.slice pa pl pc,.slice la ll lc,.slice ha hl hc,.slice ta tl tc,.int .i64 x] 38)).heap.size (w.alloc (.cells #[.int .i64 19,.slice ea 1 ec,.slice pa pl pc,.slice la ll lc,.slice ha hl hc,.slice ta tl tc,.int .i64 x] 38)) wc:=by simpa using hW
  have HBC:=hide (Below.on HB1.out hW')
  have HOC:=hide (HOP.out.below hW')
  clear hW hW' o0 o1 o2 o3 o4 o5 o6 q0 q1
  obtain ⟨o0,o1,o2,o3,o4,o5,o6⟩:=HOC.out.cells
  have q0:=(HBC.out.cell (p:=⟨b,off,none⟩) (lt_of_cell HC0.out)).trans HC0.out
  have q1:=(HBC.out.cell (p:=⟨b,off+1,none⟩) (lt_of_cell HCC.out)).trans HCC.out
  clear q2 q2' HSL HT
  cases B with
  | false =>
   go_wp2
   go_ret2
   rw [HPF.out (of_decide_eq_false HBB.out.symm)]
   exact ⟨outP_none _ _,HBC.out⟩
  | true =>
   have HPP:=hide (HPT.out (of_decide_eq_true HBB.out.symm))
   clear HPF HPT HBB
   cases X0 with
   | none =>
    obtain rfl:m0=0:=by
     rcases HL0.out.1.2.2.2 with e | ⟨_,_,e,_⟩
     · exact e
     · cases e
    obtain rfl:m1=0:=by omega
    have HL:Hid (Lst w none 0 c0 (ds.drop 0)):=by rw [Hid,List.drop_zero];exact HL0.out
    go_wp2_with fail
    have j1:(0:Int)<=(0:Int):=Int.natCast_nonneg _
    have j2:(0:Int)<=(0:Int):=by omega
    have j3:(0:Int)<=(c0:Int):=by omega
    go_region_held3 (fun w'=>w'.cell? ⟨b,off,none⟩=some (.slice none 0 c0)/\w'.cell? ⟨b,off+1,none⟩=some (.slice X1 0 c1)/\w'.cell? ⟨w.heap.size,1,none⟩=some (.slice ea 1 ec)) (refine ⟨?_,?_,?_⟩<;>with_reducible (repeat (first | assumption | apply drew_cell))) ((first | (go_at_call 57;refine (both_any _ _ _ es _ _ _ _ _ (HE.out.below HBC.out.drew) (HL.out.below HBC.out.drew) (by omega)).mono ?_;rintro e w1 ⟨⟨v1,rfl,hv⟩,hb⟩;have HV:=hide hv;have HB2:=hide (Below.on HBC.out.drew hb);have s0:=(hb.cell (p:=⟨b,off,none⟩) (lt_of_cell (drew_cell q0))).trans (drew_cell q0);have s1:=(hb.cell (p:=⟨b,off+1,none⟩) (lt_of_cell (drew_cell q1))).trans (drew_cell q1);have s2:=(hb.cell (p:=⟨w.heap.size,1,none⟩) (lt_of_cell (drew_cell o1))).trans (drew_cell o1);clear hv hb)))
    all_goals go_wp2
    all_goals go_ret2
    all_goals rw [HPP.out]
    all_goals exact ⟨outP_new HV.out 0,HB2.out⟩
   | some p0 =>
   by_cases cc:c0=m1
   · obtain rfl:=cc.symm
     obtain rfl:m0=m1:=by omega
     have HL:Hid (Lst w (some p0) 0 0 (ds.drop m0)):=by
      rw [List.drop_eq_nil_of_le (by rw [HN0.out];exact Nat.le_refl _)];exact lst_empty w _ _
     go_wp2_with fail
     have j1:(0:Int)<=(m0:Int):=Int.natCast_nonneg _
     have j2:(m0:Int)<=(m0:Int):=by omega
     have j3:(m0:Int)<=(m0:Int):=by omega
     go_region_held3 (fun w'=>w'.cell? ⟨b,off,none⟩=some (.slice (some p0) m0 m0)/\w'.cell? ⟨b,off+1,none⟩=some (.slice X1 m0 c1)/\w'.cell? ⟨w.heap.size,1,none⟩=some (.slice ea 1 ec)) (refine ⟨?_,?_,?_⟩<;>with_reducible (repeat (first | assumption | apply drew_cell))) ((first | (go_at_call 57;refine (both_any _ _ _ es _ _ _ _ _ (HE.out.below HBC.out.drew) (HL.out.below HBC.out.drew) (by omega)).mono ?_;rintro e w1 ⟨⟨v1,rfl,hv⟩,hb⟩;have HV:=hide hv;have HB2:=hide (Below.on HBC.out.drew hb);have s0:=(hb.cell (p:=⟨b,off,none⟩) (lt_of_cell (drew_cell q0))).trans (drew_cell q0);have s1:=(hb.cell (p:=⟨b,off+1,none⟩) (lt_of_cell (drew_cell q1))).trans (drew_cell q1);have s2:=(hb.cell (p:=⟨w.heap.size,1,none⟩) (lt_of_cell (drew_cell o1))).trans (drew_cell o1);clear hv hb)))
     all_goals go_wp2
     all_goals go_ret2
     all_goals rw [HPP.out]
     all_goals exact ⟨outP_new HV.out 0,HB2.out⟩
   by_cases cz:m0=0
   · subst cz
     obtain rfl:m1=0:=by omega
     have HL:Hid (Lst w (some p0) 0 c0 (ds.drop 0)):=by rw [Hid,List.drop_zero];exact HL0.out
     go_wp2_with fail
     have j1:(0:Int)<=(0:Int):=Int.natCast_nonneg _
     have j2:(0:Int)<=(0:Int):=by omega
     have j3:(0:Int)<=(c0:Int):=by omega
     go_region_held3 (fun w'=>w'.cell? ⟨b,off,none⟩=some (.slice (some p0) 0 c0)/\w'.cell? ⟨b,off+1,none⟩=some (.slice X1 0 c1)/\w'.cell? ⟨w.heap.size,1,none⟩=some (.slice ea 1 ec)) (refine ⟨?_,?_,?_⟩<;>with_reducible (repeat (first | assumption | apply drew_cell))) ((first | (go_at_call 57;refine (both_any _ _ _ es _ _ _ _ _ (HE.out.below HBC.out.drew) (HL.out.below HBC.out.drew) (by omega)).mono ?_;rintro e w1 ⟨⟨v1,rfl,hv⟩,hb⟩;have HV:=hide hv;have HB2:=hide (Below.on HBC.out.drew hb);have s0:=(hb.cell (p:=⟨b,off,none⟩) (lt_of_cell (drew_cell q0))).trans (drew_cell q0);have s1:=(hb.cell (p:=⟨b,off+1,none⟩) (lt_of_cell (drew_cell q1))).trans (drew_cell q1);have s2:=(hb.cell (p:=⟨w.heap.size,1,none⟩) (lt_of_cell (drew_cell o1))).trans (drew_cell o1);clear hv hb)))
     all_goals go_wp2
     all_goals go_ret2
     all_goals rw [HPP.out]
     all_goals exact ⟨outP_new HV.out 0,HB2.out⟩
   · obtain ⟨bb,offb,e,hbb,hcc⟩:=HL0.out.1.at (by omega)
     cases e
     have HL:=hide (lst_drop HL0.out m1 (by omega))
     clear hcc
     go_wp2_with fail
     have j1:(0:Int)<=(m1:Int):=Int.natCast_nonneg _
     have j2:(m1:Int)<=(m0:Int):=by omega
     have j3:(m1:Int)<=(c0:Int):=by omega
     go_region_held3 (fun w'=>w'.cell? ⟨b,off,none⟩=some (.slice (some ⟨bb,offb,none⟩) m0 c0)/\w'.cell? ⟨b,off+1,none⟩=some (.slice X1 m1 c1)/\w'.cell? ⟨w.heap.size,1,none⟩=some (.slice ea 1 ec)) (refine ⟨?_,?_,?_⟩<;>with_reducible (repeat (first | assumption | apply drew_cell))) ((first | (go_at_call 57;refine (both_any _ _ _ es _ _ _ _ _ (HE.out.below HBC.out.drew) (HL.out.below HBC.out.drew) (by omega)).mono ?_;rintro e w1 ⟨⟨v1,rfl,hv⟩,hb⟩;have HV:=hide hv;have HB2:=hide (Below.on HBC.out.drew hb);have s0:=(hb.cell (p:=⟨b,off,none⟩) (lt_of_cell (drew_cell q0))).trans (drew_cell q0);have s1:=(hb.cell (p:=⟨b,off+1,none⟩) (lt_of_cell (drew_cell q1))).trans (drew_cell q1);have s2:=(hb.cell (p:=⟨w.heap.size,1,none⟩) (lt_of_cell (drew_cell o1))).trans (drew_cell o1);clear hv hb)))
     all_goals go_wp2
     all_goals go_ret2
     all_goals rw [HPP.out]
     all_goals exact ⟨outP_new HV.out 0,HB2.out⟩
def shapeP (k:Int) (es ps lo hi st:List Int) (xss:List (List Int)):List Int × Int:=if k=2 then (es,0) else if k=9 then (okL (sprE 0 (xss[0]?.getD []) (stepsV (xss[0]?.getD [])) es ps) es,sprE 0 (xss[0]?.getD []) (stepsV (xss[0]?.getD [])) es ps) else if k=10 then sumP (xss[0]?.getD []) ps else if k=11 then (okL (turnE 0 (xss[0]?.getD []) (stepsV (xss[0]?.getD [])) ps) (taken (xss[0]?.getD []) ps),turnE 0 (xss[0]?.getD []) (stepsV (xss[0]?.getD [])) ps) else if k=12 then reformP (xss[0]?.getD []) es else if k=13 then (okL (cutE 0 (xss[0]?.getD []) (stepsV (xss[0]?.getD [])) lo hi st) (cutD (xss[0]?.getD []) lo hi st),cutE 0 (xss[0]?.getD []) (stepsV (xss[0]?.getD [])) lo hi st) else if k=14 then padP (xss[0]?.getD []) lo hi st else if k=15 then (okL (flipE 0 (xss[0]?.getD []) (stepsV (xss[0]?.getD [])) ps) (xss[0]?.getD []),flipE 0 (xss[0]?.getD []) (stepsV (xss[0]?.getD [])) ps) else if k=16 then dotP ps st lo hi (xss[0]?.getD []) (xss[1]?.getD []) else if k=17 then joinP ps xss else if k=18 then takeP (xss[0]?.getD []) (xss[1]?.getD []) else if k=19 then putP es (xss[0]?.getD []) (xss[1]?.getD []) else sameP xss
def sizesE:List (List Int)->Int
 | []=>0
 | d::r=>if sizeE d=0 then sizesE r else sizeE d
theorem sizesE_ok:∀ xss:List (List Int),sizesE xss=0->∀ d∈xss,sizeE d=0
 | [],_,d,hd=>by cases hd
 | x::r,h,d,hd=>by
  rw [sizesE] at h
  by_cases c:sizeE x=0
  · rw [if_pos c] at h
    rcases List.mem_cons.1 hd with e | e
    · rw [e];exact c
    · exact sizesE_ok r h d e
  · rw [if_neg c] at h;exact absurd h c
theorem sizesE_at:∀ (xss:List (List Int)) (j:Nat),(∀ t,t<j->sizeE (xss[t]?.getD [])=0)->j<xss.length->sizeE (xss[j]?.getD [])≠0->sizesE xss=sizeE (xss[j]?.getD [])
 | [],j,_,h,_=>by simp at h
 | x::r,0,_,_,hne=>by
  have e:((x::r)[0]?.getD [])=x:=by simp
  rw [e] at hne ⊢
  rw [sizesE,if_neg hne]
 | x::r,j+1,h0,hj,hne=>by
  have c:=h0 0 (by omega)
  have e:((x::r)[0]?.getD [])=x:=by simp
  rw [e] at c
  have e2:((x::r)[j+1]?.getD [])=r[j]?.getD []:=by simp
  rw [e2] at hne ⊢
  rw [sizesE,if_pos c]
  refine sizesE_at r j (fun t ht=>?_) (by simpa using hj) hne
  have:=h0 (t+1) (by omega)
  simpa using this
theorem sizesE_all:∀ (xss:List (List Int)),(∀ t,t<xss.length->sizeE (xss[t]?.getD [])=0)->sizesE xss=0
 | [],_=>rfl
 | x::r,h=>by
  have c:=h 0 (by simp)
  have e:((x::r)[0]?.getD [])=x:=by simp
  rw [e] at c
  rw [sizesE,if_pos c]
  refine sizesE_all r (fun t ht=>?_)
  have:=h (t+1) (by simpa using ht)
  simpa using this
def dimsP (k:Int) (es ps lo hi st:List Int) (xss:List (List Int)):List Int × Int :=
 if takesE k xss.length≠0 then ([],takesE k xss.length)
 else if sizesE xss≠0 then ([],sizesE xss)
 else if (shapeP k es ps lo hi st xss).2≠0 then ([],(shapeP k es ps lo hi st xss).2)
 else if sizeE (shapeP k es ps lo hi st xss).1≠0 then ([],sizeE (shapeP k es ps lo hi st xss).1)
 else ((shapeP k es ps lo hi st xss).1,0)
theorem takes_ok {k:Int} {n:Nat} (h:takesE k n=0):(k=2/\n=0)\/(9<=k/\k<=15/\n=1)\/((k=16\/k=18\/k=19)/\n=2)\/(3<=k/\k<=8/\1<=n)\/(k=17/\1<=n):=by
 unfold takesE at h
 by_cases c1:k=2
 · rw [if_pos c1] at h
   by_cases d:n=0
   · exact .inl ⟨c1,d⟩
   · rw [if_neg d] at h;omega
 rw [if_neg c1] at h
 by_cases c2:9<=k/\k<=15
 · rw [if_pos c2] at h
   by_cases d:n=1
   · exact .inr (.inl ⟨c2.1,c2.2,d⟩)
   · rw [if_neg d] at h;omega
 rw [if_neg c2] at h
 by_cases c3:(3<=k/\k<=7)\/k=16\/k=18\/k=19
 · rw [if_pos c3] at h
   by_cases d:n=2
   · omega
   · rw [if_neg d] at h;omega
 rw [if_neg c3] at h
 by_cases c4:k=8
 · rw [if_pos c4] at h
   by_cases d:n=3
   · omega
   · rw [if_neg d] at h;omega
 rw [if_neg c4] at h
 by_cases c5:k=17
 · rw [if_pos c5] at h
   by_cases d:n=0
   · rw [if_pos d] at h;omega
   · omega
 rw [if_neg c5] at h;omega
theorem shape_any (k x:Int) (ea:Option Addr) (el ec:Nat) (es:List Int) (pa:Option Addr) (pl pc:Nat) (ps:List Int) (la:Option Addr) (ll lc:Nat) (lo:List Int) (ha:Option Addr) (hl hc:Nat) (hi:List Int) (ta:Option Addr) (tl tc:Nat) (st:List Int) (A:Option Addr) (len cap:Nat) (xss:List (List Int)) (w:World)
 (he:Lst w ea el ec es) (hp:Lst w pa pl pc ps) (hlo:Lst w la ll lc lo) (hhi:Lst w ha hl hc hi) (hst:Lst w ta tl tc st) (h:Lsts w A len xss) (hcap:len<=cap) (hlen:len<=1048576) (b0:el<=1048576) (b1:pl<=1048576) (b2:ll<=1048576) (b3:hl<=1048576) (b4:tl<=1048576) (hz:∀ d∈xss,sizeE d=0) (ht:takesE k len=0) :
 Calls Tryz.prog 43 #[.agg #[.int .i64 k,.slice ea el ec,.slice pa pl pc,.slice la ll lc,.slice ha hl hc,.slice ta tl tc,.int .i64 x],.slice A len cap] w fun e w'=>OutP e w' (shapeP k es ps lo hi st xss)/\Below w.heap.size w w':=by
 rcases takes_ok ht with ⟨rfl,hn⟩ | ⟨h9,h15,hn⟩ | ⟨hk,hn⟩ | ⟨h3,h8,hn⟩ | ⟨rfl,hn⟩
 · exact shape_2 x ea el ec es pa pl pc ps la ll lc lo ha hl hc hi ta tl tc st A len cap xss w he hp hlo hhi hst h hcap hz hn hlen b0 b1 b2 b3 b4
 · have hk:k=9\/k=10\/k=11\/k=12\/k=13\/k=14\/k=15:=by omega
   rcases hk with rfl | rfl | rfl | rfl | rfl | rfl | rfl
   · exact shape_9 x ea el ec es pa pl pc ps la ll lc lo ha hl hc hi ta tl tc st A len cap xss w he hp hlo hhi hst h hcap hz hn hlen b0 b1 b2 b3 b4
   · exact shape_10 x ea el ec es pa pl pc ps la ll lc lo ha hl hc hi ta tl tc st A len cap xss w he hp hlo hhi hst h hcap hz hn hlen b0 b1 b2 b3 b4
   · exact shape_11 x ea el ec es pa pl pc ps la ll lc lo ha hl hc hi ta tl tc st A len cap xss w he hp hlo hhi hst h hcap hz hn hlen b0 b1 b2 b3 b4
   · exact shape_12 x ea el ec es pa pl pc ps la ll lc lo ha hl hc hi ta tl tc st A len cap xss w he hp hlo hhi hst h hcap hz hn hlen b0 b1 b2 b3 b4
   · exact shape_13 x ea el ec es pa pl pc ps la ll lc lo ha hl hc hi ta tl tc st A len cap xss w he hp hlo hhi hst h hcap hz hn hlen b0 b1 b2 b3 b4
   · exact shape_14 x ea el ec es pa pl pc ps la ll lc lo ha hl hc hi ta tl tc st A len cap xss w he hp hlo hhi hst h hcap hz hn hlen b0 b1 b2 b3 b4
   · exact shape_15 x ea el ec es pa pl pc ps la ll lc lo ha hl hc hi ta tl tc st A len cap xss w he hp hlo hhi hst h hcap hz hn hlen b0 b1 b2 b3 b4
 · rcases hk with rfl | rfl | rfl
   · exact shape_16 x ea el ec es pa pl pc ps la ll lc lo ha hl hc hi ta tl tc st A len cap xss w he hp hlo hhi hst h hcap hz hn hlen b0 b1 b2 b3 b4
   · exact shape_18 x ea el ec es pa pl pc ps la ll lc lo ha hl hc hi ta tl tc st A len cap xss w he hp hlo hhi hst h hcap hz hn hlen b0 b1 b2 b3 b4
   · exact shape_19 x ea el ec es pa pl pc ps la ll lc lo ha hl hc hi ta tl tc st A len cap xss w he hp hlo hhi hst h hcap hz hn hlen b0 b1 b2 b3 b4
 · have hs:shapeP k es ps lo hi st xss=sameP xss:=by
    unfold shapeP
    rw [if_neg (by omega),if_neg (by omega),if_neg (by omega),if_neg (by omega),if_neg (by omega),if_neg (by omega),if_neg (by omega),if_neg (by omega),if_neg (by omega),if_neg (by omega),if_neg (by omega),if_neg (by omega)]
   rw [hs]
   exact shape_same k x ea el ec es pa pl pc ps la ll lc lo ha hl hc hi ta tl tc st A len cap xss w he hp hlo hhi hst h hcap hz ⟨h3,h8⟩ hn hlen b0 b1 b2 b3 b4
 · exact shape_17 x ea el ec es pa pl pc ps la ll lc lo ha hl hc hi ta tl tc st A len cap xss w he hp hlo hhi hst h hcap hz hn hlen b0 b1 b2 b3 b4
theorem ruled_any (k x:Int) (ea:Option Addr) (el ec:Nat) (es:List Int) (pa:Option Addr) (pl pc:Nat) (ps:List Int) (la:Option Addr) (ll lc:Nat) (lo:List Int) (ha:Option Addr) (hl hc:Nat) (hi:List Int) (ta:Option Addr) (tl tc:Nat) (st:List Int) (A:Option Addr) (len cap:Nat) (xss:List (List Int)) (w:World)
 (he:Lst w ea el ec es) (hp:Lst w pa pl pc ps) (hlo:Lst w la ll lc lo) (hhi:Lst w ha hl hc hi) (hst:Lst w ta tl tc st) (h:Lsts w A len xss) (hcap:len<=cap) (hlen:len<=1048576) (b0:el<=1048576) (b1:pl<=1048576) (b2:ll<=1048576) (b3:hl<=1048576) (b4:tl<=1048576) (hz:∀ d∈xss,sizeE d=0) (ht:takesE k len=0) :
 Calls Tryz.prog 41 #[.agg #[.int .i64 k,.slice ea el ec,.slice pa pl pc,.slice la ll lc,.slice ha hl hc,.slice ta tl tc,.int .i64 x],.slice A len cap] w fun e w'=>OutP e w' (shapeP k es ps lo hi st xss)/\Below w.heap.size w w':=by
 rcases takes_ok ht with ⟨rfl,hn⟩ | ⟨h9,h15,hn⟩ | ⟨hk,hn⟩ | ⟨h3,h8,hn⟩ | ⟨rfl,hn⟩
 · exact ruled_2 x ea el ec es pa pl pc ps la ll lc lo ha hl hc hi ta tl tc st A len cap xss w he hp hlo hhi hst h hcap hz hn hlen b0 b1 b2 b3 b4
 · have hk:k=9\/k=10\/k=11\/k=12\/k=13\/k=14\/k=15:=by omega
   rcases hk with rfl | rfl | rfl | rfl | rfl | rfl | rfl
   · exact ruled_9 x ea el ec es pa pl pc ps la ll lc lo ha hl hc hi ta tl tc st A len cap xss w he hp hlo hhi hst h hcap hz hn hlen b0 b1 b2 b3 b4
   · exact ruled_10 x ea el ec es pa pl pc ps la ll lc lo ha hl hc hi ta tl tc st A len cap xss w he hp hlo hhi hst h hcap hz hn hlen b0 b1 b2 b3 b4
   · exact ruled_11 x ea el ec es pa pl pc ps la ll lc lo ha hl hc hi ta tl tc st A len cap xss w he hp hlo hhi hst h hcap hz hn hlen b0 b1 b2 b3 b4
   · exact ruled_12 x ea el ec es pa pl pc ps la ll lc lo ha hl hc hi ta tl tc st A len cap xss w he hp hlo hhi hst h hcap hz hn hlen b0 b1 b2 b3 b4
   · exact ruled_13 x ea el ec es pa pl pc ps la ll lc lo ha hl hc hi ta tl tc st A len cap xss w he hp hlo hhi hst h hcap hz hn hlen b0 b1 b2 b3 b4
   · exact ruled_14 x ea el ec es pa pl pc ps la ll lc lo ha hl hc hi ta tl tc st A len cap xss w he hp hlo hhi hst h hcap hz hn hlen b0 b1 b2 b3 b4
   · exact ruled_15 x ea el ec es pa pl pc ps la ll lc lo ha hl hc hi ta tl tc st A len cap xss w he hp hlo hhi hst h hcap hz hn hlen b0 b1 b2 b3 b4
 · rcases hk with rfl | rfl | rfl
   · exact ruled_16 x ea el ec es pa pl pc ps la ll lc lo ha hl hc hi ta tl tc st A len cap xss w he hp hlo hhi hst h hcap hz hn hlen b0 b1 b2 b3 b4
   · exact ruled_18 x ea el ec es pa pl pc ps la ll lc lo ha hl hc hi ta tl tc st A len cap xss w he hp hlo hhi hst h hcap hz hn hlen b0 b1 b2 b3 b4
   · exact ruled_19 x ea el ec es pa pl pc ps la ll lc lo ha hl hc hi ta tl tc st A len cap xss w he hp hlo hhi hst h hcap hz hn hlen b0 b1 b2 b3 b4
 · have hs:shapeP k es ps lo hi st xss=sameP xss:=by
    unfold shapeP
    rw [if_neg (by omega),if_neg (by omega),if_neg (by omega),if_neg (by omega),if_neg (by omega),if_neg (by omega),if_neg (by omega),if_neg (by omega),if_neg (by omega),if_neg (by omega),if_neg (by omega),if_neg (by omega)]
   rw [hs]
   exact ruled_same k x ea el ec es pa pl pc ps la ll lc lo ha hl hc hi ta tl tc st A len cap xss w he hp hlo hhi hst h hcap hz ⟨h3,h8⟩ hn hlen b0 b1 b2 b3 b4
 · exact ruled_17 x ea el ec es pa pl pc ps la ll lc lo ha hl hc hi ta tl tc st A len cap xss w he hp hlo hhi hst h hcap hz hn hlen b0 b1 b2 b3 b4
theorem Dims_any (k x:Int) (ea:Option Addr) (el ec:Nat) (es:List Int) (pa:Option Addr) (pl pc:Nat) (ps:List Int) (la:Option Addr) (ll lc:Nat) (lo:List Int) (ha:Option Addr) (hl hc:Nat) (hi:List Int) (ta:Option Addr) (tl tc:Nat) (st:List Int) (A:Option Addr) (len cap:Nat) (xss:List (List Int)) (w:World)
 (he:Lst w ea el ec es) (hp:Lst w pa pl pc ps) (hlo:Lst w la ll lc lo) (hhi:Lst w ha hl hc hi) (hst:Lst w ta tl tc st) (h:Lsts w A len xss) (hcap:len<=cap) (hlen:len<=1048576) (b0:el<=1048576) (b1:pl<=1048576) (b2:ll<=1048576) (b3:hl<=1048576) (b4:tl<=1048576) :
 Calls Tryz.prog 32 #[.agg #[.int .i64 k,.slice ea el ec,.slice pa pl pc,.slice la ll lc,.slice ha hl hc,.slice ta tl tc,.int .i64 x],.slice A len cap] w fun e w'=>OutP e w' (dimsP k es ps lo hi st xss)/\Below w.heap.size w w':=by
 have hmx:=h.2.1
 have H:=hide h
 have HN:=hide h.1
 have HE:=hide he
 have HP:=hide hp
 have HLO:=hide hlo
 have HHI:=hide hhi
 have HST:=hide hst
 have HB1:=hide ((Below.refl w.heap.size w).alloc (Nat.le_refl _) (.cells #[.int .i64 k,.slice ea el ec,.slice pa pl pc,.slice la ll lc,.slice ha hl hc,.slice ta tl tc,.int .i64 x] 38))
 have HOP:=hide (OpAt.new w k (.slice ea el ec) (.slice pa pl pc) (.slice la ll lc) (.slice ha hl hc) (.slice ta tl tc) x)
 obtain ⟨o0,o1,o2,o3,o4,o5,o6⟩:=HOP.out.cells
 have HDP:=hide (show dimsP k es ps lo hi st xss=if takesE k xss.length≠0 then ([],takesE k xss.length) else if sizesE xss≠0 then ([],sizesE xss) else if (shapeP k es ps lo hi st xss).2≠0 then ([],(shapeP k es ps lo hi st xss).2) else if sizeE (shapeP k es ps lo hi st xss).1≠0 then ([],sizeE (shapeP k es ps lo hi st xss).1) else ((shapeP k es ps lo hi st xss).1,0) from rfl)
 clear h he hp hlo hhi hst
 by_cases c1:takesE k len=0
 case neg =>
  obtain ⟨T,hT⟩:∃ T,T=takesE k len:=⟨_,rfl⟩
  have hp:dimsP k es ps lo hi st xss=([],T):=by rw [HDP.out,HN.out,if_pos c1,<-hT]
  rw [hp]
  have HT:=hide hT
  have q:(T != 0)=true:=by rw [hT];simp [c1]
  clear hp c1 hT
  go_enter Tryz.func32,Tryz.ntmps32
  go_wp2_with (go_at_call 42;refine (takes_any _ _ _).mono ?_;rintro e w' ⟨rfl,hw'⟩;obtain rfl:=hw'.symm;rw [<-HT.out])
  go_ret2
  exact ⟨outP_none _ _,HB1.out⟩
 have HC1:=hide c1
 clear c1
 go_enter Tryz.func32,Tryz.ntmps32
 go_wp2_with (go_at_call 42;refine (takes_any _ _ _).mono ?_;rintro e w' ⟨rfl,hw'⟩;obtain rfl:=hw'.symm;rw [HC1.out])
 go_loopw [25] (fun i wr=>∃ j:Nat,j<=len/\i=.int .i64 j/\(∀ t,t<j->sizeE (xss[t]?.getD [])=0)/\OpAt wr w.heap.size k (.slice ea el ec) (.slice pa pl pc) (.slice la ll lc) (.slice ha hl hc) (.slice ta tl tc) x/\Below w.heap.size w wr) (fun i _=>len-(intOf i).toNat)
 case atStart=>exact ⟨0,Nat.zero_le _,rfl,fun t ht=>by omega,HOP.out,HB1.out⟩
 case round =>
  obtain ⟨j,hj,rfl,hgood,ho,hB⟩:=hrel
  have HG:=hide hgood
  have HO:=hide ho
  have HB:=hide hB
  clear hgood ho hB o0 o1 o2 o3 o4 o5 o6
  by_cases hlt:j<len
  · obtain ⟨b,off,rfl,hc⟩:=H.out.at (by omega)
    obtain ⟨X,m,c,hcj0,hlj⟩:=hc j hlt
    have hcj:wr.cell? ⟨b,off+j,none⟩=some (.slice X m c):=(HB.out.cell (p:=⟨b,off+j,none⟩) (lt_of_cell hcj0)).trans hcj0
    have HLJ:=hide hlj
    clear hlj hcj0 hc
    obtain ⟨T,hT⟩:∃ T,T=sizeE (xss[j]?.getD []):=⟨_,rfl⟩
    have HT:=hide hT
    by_cases c2:T=0
    · have HT0:Hid (sizeE (xss[j]?.getD [])=0):=hT.symm.trans c2
      clear hT c2 HT
      go_wp2_with (go_at_call 34;refine (size_any _ _ _ (xss[j]?.getD []) _ (HLJ.out.1.below HB.out)).mono ?_;rintro e w' ⟨rfl,hw'⟩;obtain rfl:=hw'.symm;rw [HT0.out])
      go_roundw
      case rel =>
       refine ⟨j+1,by omega,by go_num,fun t ht=>?_,HO.out,HB.out⟩
       by_cases e:t=j
       · rw [e];exact HT0.out
       · exact HG.out t (by omega)
      case measure=>simp [intOf];omega
    · have q:(T != 0)=true:=by simp [c2]
      have hsz:sizesE xss=T:=by
       rw [hT]
       exact sizesE_at xss j HG.out (by rw [HN.out];exact hlt) (by rw [<-hT];exact c2)
      have hp:dimsP k es ps lo hi st xss=([],T):=by rw [HDP.out,HN.out,if_neg (by rw [HC1.out];simp),hsz,if_pos c2]
      have HPP:=hide hp
      clear hp hsz hT c2
      go_wp2_with (go_at_call 34;refine (size_any _ _ _ (xss[j]?.getD []) _ (HLJ.out.1.below HB.out)).mono ?_;rintro e w' ⟨rfl,hw'⟩;obtain rfl:=hw'.symm;rw [<-HT.out])
      go_ret2
      rw [HPP.out]
      exact ⟨outP_none _ _,HB.out⟩
  · obtain rfl:j=len:=by omega
    have hall:sizesE xss=0:=sizesE_all xss (fun t ht=>HG.out t (by rw [HN.out] at ht;exact ht))
    have HZ:=hide (sizesE_ok xss hall)
    have HD2:Hid (dimsP k es ps lo hi st xss=if (shapeP k es ps lo hi st xss).2≠0 then ([],(shapeP k es ps lo hi st xss).2) else if sizeE (shapeP k es ps lo hi st xss).1≠0 then ([],sizeE (shapeP k es ps lo hi st xss).1) else ((shapeP k es ps lo hi st xss).1,0)):=by
     rw [Hid,HDP.out,HN.out,if_neg (by rw [HC1.out];simp),if_neg (by rw [hall];simp)]
    have HCS:=hide (shape_any k x _ _ _ es _ _ _ ps _ _ _ lo _ _ _ hi _ _ _ st _ _ cap xss wr (HE.out.below HB.out) (HP.out.below HB.out) (HLO.out.below HB.out) (HHI.out.below HB.out) (HST.out.below HB.out) (H.out.below HB.out) hcap hlen b0 b1 b2 b3 b4 HZ.out HC1.out)
    obtain ⟨⟨L,E⟩,hLE⟩:∃ r,r=shapeP k es ps lo hi st xss:=⟨_,rfl⟩
    rw [<-hLE] at HCS HD2
    have hd2:=HD2.out
    simp only at hd2
    obtain ⟨o0,o1,o2,o3,o4,o5,o6⟩:=HO.out.cells
    clear hall hLE HDP HD2
    by_cases c3:E=0
    case neg =>
     have q:(E != 0)=true:=by simp [c3]
     rw [if_pos c3] at hd2
     have HPP:=hide hd2
     clear hd2 c3
     go_wp2_with (go_at_call 43;refine HCS.out.mono ?_;rintro e w1 ⟨⟨Z,nz,cz,rfl,hi1,hnc⟩,hb⟩;have HB2:=hide (Below.on HB.out hb);clear hi1 hb)
     go_ret2
     rw [HPP.out]
     exact ⟨outP_none _ _,HB2.out⟩
    subst c3
    rw [if_neg (by simp)] at hd2
    obtain ⟨S,hS⟩:∃ S,S=sizeE L:=⟨_,rfl⟩
    have HSS:=hide hS
    rw [<-hS] at hd2
    clear hS
    by_cases c4:S=0
    · subst c4
      rw [if_neg (by simp)] at hd2
      have HPP:=hide hd2
      clear hd2
      go_wp2_with (first
       | (go_at_call 43;refine HCS.out.mono ?_;rintro e w1 ⟨⟨Z,nz,cz,rfl,hi1,hnc⟩,hb⟩;have HI1:Hid (Ints w1 Z nz L):=hi1;have HB2:=hide (Below.on HB.out hb);clear hi1 hb)
       | (go_at_call 34;refine (size_any _ _ _ L _ HI1.out).mono ?_;rintro e w' ⟨rfl,hw'⟩;obtain rfl:=hw'.symm;rw [<-HSS.out]))
      go_ret2
      rw [HPP.out]
      exact ⟨⟨_,_,_,rfl,HI1.out,hnc⟩,HB2.out⟩
    · have q:(S != 0)=true:=by simp [c4]
      rw [if_pos c4] at hd2
      have HPP:=hide hd2
      clear hd2 c4
      go_wp2_with (first
       | (go_at_call 43;refine HCS.out.mono ?_;rintro e w1 ⟨⟨Z,nz,cz,rfl,hi1,hnc⟩,hb⟩;have HI1:Hid (Ints w1 Z nz L):=hi1;have HB2:=hide (Below.on HB.out hb);clear hi1 hb)
       | (go_at_call 34;refine (size_any _ _ _ L _ HI1.out).mono ?_;rintro e w' ⟨rfl,hw'⟩;obtain rfl:=hw'.symm;rw [<-HSS.out]))
      go_ret2
      rw [HPP.out]
      exact ⟨outP_none _ _,HB2.out⟩
theorem rDims_any (k x:Int) (ea:Option Addr) (el ec:Nat) (es:List Int) (pa:Option Addr) (pl pc:Nat) (ps:List Int) (la:Option Addr) (ll lc:Nat) (lo:List Int) (ha:Option Addr) (hl hc:Nat) (hi:List Int) (ta:Option Addr) (tl tc:Nat) (st:List Int) (A:Option Addr) (len cap:Nat) (xss:List (List Int)) (w:World)
 (he:Lst w ea el ec es) (hp:Lst w pa pl pc ps) (hlo:Lst w la ll lc lo) (hhi:Lst w ha hl hc hi) (hst:Lst w ta tl tc st) (h:Lsts w A len xss) (hcap:len<=cap) (hlen:len<=1048576) (b0:el<=1048576) (b1:pl<=1048576) (b2:ll<=1048576) (b3:hl<=1048576) (b4:tl<=1048576) :
 Calls Tryz.prog 28 #[.agg #[.int .i64 k,.slice ea el ec,.slice pa pl pc,.slice la ll lc,.slice ha hl hc,.slice ta tl tc,.int .i64 x],.slice A len cap] w fun e w'=>OutP e w' (dimsP k es ps lo hi st xss)/\Below w.heap.size w w':=by
 have hmx:=h.2.1
 have H:=hide h
 have HN:=hide h.1
 have HE:=hide he
 have HP:=hide hp
 have HLO:=hide hlo
 have HHI:=hide hhi
 have HST:=hide hst
 have HB1:=hide ((Below.refl w.heap.size w).alloc (Nat.le_refl _) (.cells #[.int .i64 k,.slice ea el ec,.slice pa pl pc,.slice la ll lc,.slice ha hl hc,.slice ta tl tc,.int .i64 x] 38))
 have HOP:=hide (OpAt.new w k (.slice ea el ec) (.slice pa pl pc) (.slice la ll lc) (.slice ha hl hc) (.slice ta tl tc) x)
 obtain ⟨o0,o1,o2,o3,o4,o5,o6⟩:=HOP.out.cells
 have HDP:=hide (show dimsP k es ps lo hi st xss=if takesE k xss.length≠0 then ([],takesE k xss.length) else if sizesE xss≠0 then ([],sizesE xss) else if (shapeP k es ps lo hi st xss).2≠0 then ([],(shapeP k es ps lo hi st xss).2) else if sizeE (shapeP k es ps lo hi st xss).1≠0 then ([],sizeE (shapeP k es ps lo hi st xss).1) else ((shapeP k es ps lo hi st xss).1,0) from rfl)
 clear h he hp hlo hhi hst
 by_cases c1:takesE k len=0
 case neg =>
  obtain ⟨T,hT⟩:∃ T,T=takesE k len:=⟨_,rfl⟩
  have hp:dimsP k es ps lo hi st xss=([],T):=by rw [HDP.out,HN.out,if_pos c1,<-hT]
  rw [hp]
  have HT:=hide hT
  have q:(T != 0)=true:=by rw [hT];simp [c1]
  clear hp c1 hT
  go_enter Tryz.func28,Tryz.ntmps28
  go_wp2_with (go_at_call 40;refine (right_any k (.slice ea el ec) (.slice pa pl pc) (.slice la ll lc) (.slice ha hl hc) (.slice ta tl tc) x len _).mono ?_;rintro e w1 ⟨rfl,hb⟩;rw [<-HT.out];have HBR:=hide (Below.on HB1.out hb);have HOR:=hide (HOP.out.below hb);clear hb)
  go_ret2
  exact ⟨outP_none _ _,HBR.out⟩
 have HC1:=hide c1
 clear c1
 go_enter Tryz.func28,Tryz.ntmps28
 go_wp2_with (go_at_call 40;refine (right_any k (.slice ea el ec) (.slice pa pl pc) (.slice la ll lc) (.slice ha hl hc) (.slice ta tl tc) x len _).mono ?_;rintro e w1 ⟨rfl,hb⟩;rw [HC1.out];have HBR:=hide (Below.on HB1.out hb);have HOR:=hide (HOP.out.below hb);clear hb)
 go_loopw [24] (fun i wr=>∃ j:Nat,j<=len/\i=.int .i64 j/\(∀ t,t<j->sizeE (xss[t]?.getD [])=0)/\OpAt wr w.heap.size k (.slice ea el ec) (.slice pa pl pc) (.slice la ll lc) (.slice ha hl hc) (.slice ta tl tc) x/\Below w.heap.size w wr) (fun i _=>len-(intOf i).toNat)
 case atStart=>exact ⟨0,Nat.zero_le _,rfl,fun t ht=>by omega,HOR.out,HBR.out⟩
 case round =>
  obtain ⟨j,hj,rfl,hgood,ho,hB⟩:=hrel
  have HG:=hide hgood
  have HO:=hide ho
  have HB:=hide hB
  clear HBR HOR
  clear hgood ho hB o0 o1 o2 o3 o4 o5 o6
  by_cases hlt:j<len
  · obtain ⟨b,off,rfl,hc⟩:=H.out.at (by omega)
    obtain ⟨X,m,c,hcj0,hlj⟩:=hc j hlt
    have hcj:wr.cell? ⟨b,off+j,none⟩=some (.slice X m c):=(HB.out.cell (p:=⟨b,off+j,none⟩) (lt_of_cell hcj0)).trans hcj0
    have HLJ:=hide hlj
    clear hlj hcj0 hc
    obtain ⟨T,hT⟩:∃ T,T=sizeE (xss[j]?.getD []):=⟨_,rfl⟩
    have HT:=hide hT
    by_cases c2:T=0
    · have HT0:Hid (sizeE (xss[j]?.getD [])=0):=hT.symm.trans c2
      clear hT c2 HT
      go_wp2_with (go_at_call 27;refine (rsize_any _ _ _ (xss[j]?.getD []) _ (HLJ.out.1.below HB.out)).mono ?_;rintro e w' ⟨rfl,hw'⟩;obtain rfl:=hw'.symm;rw [HT0.out])
      go_roundw
      case rel =>
       refine ⟨j+1,by omega,by go_num,fun t ht=>?_,HO.out,HB.out⟩
       by_cases e:t=j
       · rw [e];exact HT0.out
       · exact HG.out t (by omega)
      case measure=>simp [intOf];omega
    · have q:(T != 0)=true:=by simp [c2]
      have hsz:sizesE xss=T:=by
       rw [hT]
       exact sizesE_at xss j HG.out (by rw [HN.out];exact hlt) (by rw [<-hT];exact c2)
      have hp:dimsP k es ps lo hi st xss=([],T):=by rw [HDP.out,HN.out,if_neg (by rw [HC1.out];simp),hsz,if_pos c2]
      have HPP:=hide hp
      clear hp hsz hT c2
      go_wp2_with (go_at_call 27;refine (rsize_any _ _ _ (xss[j]?.getD []) _ (HLJ.out.1.below HB.out)).mono ?_;rintro e w' ⟨rfl,hw'⟩;obtain rfl:=hw'.symm;rw [<-HT.out])
      go_ret2
      rw [HPP.out]
      exact ⟨outP_none _ _,HB.out⟩
  · obtain rfl:j=len:=by omega
    have hall:sizesE xss=0:=sizesE_all xss (fun t ht=>HG.out t (by rw [HN.out] at ht;exact ht))
    have HZ:=hide (sizesE_ok xss hall)
    have HD2:Hid (dimsP k es ps lo hi st xss=if (shapeP k es ps lo hi st xss).2≠0 then ([],(shapeP k es ps lo hi st xss).2) else if sizeE (shapeP k es ps lo hi st xss).1≠0 then ([],sizeE (shapeP k es ps lo hi st xss).1) else ((shapeP k es ps lo hi st xss).1,0)):=by
     rw [Hid,HDP.out,HN.out,if_neg (by rw [HC1.out];simp),if_neg (by rw [hall];simp)]
    have HCS:=hide (ruled_any k x _ _ _ es _ _ _ ps _ _ _ lo _ _ _ hi _ _ _ st _ _ cap xss wr (HE.out.below HB.out) (HP.out.below HB.out) (HLO.out.below HB.out) (HHI.out.below HB.out) (HST.out.below HB.out) (H.out.below HB.out) hcap hlen b0 b1 b2 b3 b4 HZ.out HC1.out)
    obtain ⟨⟨L,E⟩,hLE⟩:∃ r,r=shapeP k es ps lo hi st xss:=⟨_,rfl⟩
    rw [<-hLE] at HCS HD2
    have hd2:=HD2.out
    simp only at hd2
    obtain ⟨o0,o1,o2,o3,o4,o5,o6⟩:=HO.out.cells
    clear hall hLE HDP HD2
    by_cases c3:E=0
    case neg =>
     have q:(E != 0)=true:=by simp [c3]
     rw [if_pos c3] at hd2
     have HPP:=hide hd2
     clear hd2 c3
     go_wp2_with (go_at_call 41;refine HCS.out.mono ?_;rintro e w1 ⟨⟨Z,nz,cz,rfl,hi1,hnc⟩,hb⟩;have HB2:=hide (Below.on HB.out hb);clear hi1 hb)
     go_ret2
     rw [HPP.out]
     exact ⟨outP_none _ _,HB2.out⟩
    subst c3
    rw [if_neg (by simp)] at hd2
    obtain ⟨S,hS⟩:∃ S,S=sizeE L:=⟨_,rfl⟩
    have HSS:=hide hS
    rw [<-hS] at hd2
    clear hS
    by_cases c4:S=0
    · subst c4
      rw [if_neg (by simp)] at hd2
      have HPP:=hide hd2
      clear hd2
      go_wp2_with (first
       | (go_at_call 41;refine HCS.out.mono ?_;rintro e w1 ⟨⟨Z,nz,cz,rfl,hi1,hnc⟩,hb⟩;have HI1:Hid (Ints w1 Z nz L):=hi1;have HB2:=hide (Below.on HB.out hb);clear hi1 hb)
       | (go_at_call 27;refine (rsize_any _ _ _ L _ HI1.out).mono ?_;rintro e w' ⟨rfl,hw'⟩;obtain rfl:=hw'.symm;rw [<-HSS.out]))
      go_ret2
      rw [HPP.out]
      exact ⟨⟨_,_,_,rfl,HI1.out,hnc⟩,HB2.out⟩
    · have q:(S != 0)=true:=by simp [c4]
      rw [if_pos c4] at hd2
      have HPP:=hide hd2
      clear hd2 c4
      go_wp2_with (first
       | (go_at_call 41;refine HCS.out.mono ?_;rintro e w1 ⟨⟨Z,nz,cz,rfl,hi1,hnc⟩,hb⟩;have HI1:Hid (Ints w1 Z nz L):=hi1;have HB2:=hide (Below.on HB.out hb);clear hi1 hb)
       | (go_at_call 27;refine (rsize_any _ _ _ L _ HI1.out).mono ?_;rintro e w' ⟨rfl,hw'⟩;obtain rfl:=hw'.symm;rw [<-HSS.out]))
      go_ret2
      rw [HPP.out]
      exact ⟨outP_none _ _,HB2.out⟩
end Go.Proofs.YtakpedjhgdkhkaaGreatDoor.V
namespace Go.Proofs.YtakpedjhgdkhkaaGreatDoor.V
set_option maxRecDepth 100000
set_option maxHeartbeats 8000000
open Go.RowKit
set_option linter.unusedVariables false
def nodeP (d:Nd) (isPar:Bool) (ds:List (List Int)):List Int × Int :=
 if farA d.ar ds.length=true then ([],10)
 else if d.k≠1 then dimsP d.k d.es d.ps d.lo d.hi d.st (pickD ds d.ar)
 else if isPar=false\/d.ps≠[(ds.length:Int)] then ([],7)
 else if 0<d.ar.length then ([],2)
 else if sizeE d.es≠0 then ([],sizeE d.es)
 else (d.es,0)
theorem Nw.new (u:Nw) (w:World):u.At (w.alloc (.cells #[.int .i64 u.k,u.e.v,u.p.v,u.lo.v,u.hi.v,u.st.v,.int .i64 u.x,u.ar.v] 40)) w.heap.size 0:=by
 have h:=World.alloc_heap_new w (.cells #[.int .i64 u.k,u.e.v,u.p.v,u.lo.v,u.hi.v,u.st.v,.int .i64 u.x,u.ar.v] 40)
 constructor<;>(unfold World.cell?;rw [h];rfl)
theorem Nw.At.cells {u:Nw} {w:World} {b:Nat} (h:u.At w b 0):w.cell? ⟨b,0,none⟩=some (.int .i64 u.k)/\w.cell? ⟨b,1,none⟩=some u.e.v/\w.cell? ⟨b,2,none⟩=some u.p.v/\w.cell? ⟨b,3,none⟩=some u.lo.v/\w.cell? ⟨b,4,none⟩=some u.hi.v/\w.cell? ⟨b,5,none⟩=some u.st.v/\w.cell? ⟨b,6,none⟩=some (.int .i64 u.x)/\w.cell? ⟨b,7,none⟩=some u.ar.v :=
 ⟨h.c0,h.c1,h.c2,h.c3,h.c4,h.c5,h.c6,h.c7⟩
theorem nodeDims_any (u:Nw) (d:Nd) (isPar:Bool) (A:Option Addr) (cap:Nat) (ds:List (List Int)) (w:World) (hu:u.Is w d) (h:Lsts w A ds.length ds) :
 Calls Tryz.prog 18 #[u.v,.bool isPar,.slice A ds.length cap] w fun e w'=>OutP e w' (nodeP d isPar ds)/\Below w.heap.size w w':=by
 have HU:=hide hu
 have H:=hide h
 have hm:=h.2.1
 obtain ⟨n,hn⟩:∃ n,n=ds.length:=⟨_,rfl⟩
 have HN:=hide hn
 rw [<-hn] at hm H ⊢
 have HB1:=hide (bl_new (w:=w) (.cells #[.int .i64 u.k,u.e.v,u.p.v,u.lo.v,u.hi.v,u.st.v,.int .i64 u.x,u.ar.v] 40))
 have HA1:=hide (Nw.new u w)
 have HAM:=hide (fun W (hW:Below w.heap.size w W)=>among_any u.ar.a u.ar.l u.ar.c d.ar n W (hu.ar.below hW).1.1)
 have hk:=hu.k
 have HT:=hide (fun W (hW:Below w.heap.size w W) hf=>thesl_any u.ar.a u.ar.l u.ar.c d.ar A n cap ds W (hu.ar.below hW).1.1 (H.out.below hW) hf hu.ar.2)
 have HD:=hide (fun W G (hW:Below w.heap.size w W) (hl:Lsts W (some ⟨G,0,none⟩) u.ar.l (pickD ds d.ar))=>Dims_any d.k u.x u.e.a u.e.l u.e.c d.es u.p.a u.p.l u.p.c d.ps u.lo.a u.lo.l u.lo.c d.lo u.hi.a u.hi.l u.hi.c d.hi u.st.a u.st.l u.st.c d.st (some ⟨G,0,none⟩) u.ar.l u.ar.l (pickD ds d.ar) W (hu.e.below hW).1 (hu.p.below hW).1 (hu.lo.below hW).1 (hu.hi.below hW).1 (hu.st.below hW).1 hl (Nat.le_refl _) hu.ar.2 hu.e.2 hu.p.2 hu.lo.2 hu.hi.2 hu.st.2)
 have HS:=hide (fun W (hW:Below w.heap.size w W)=>size_any u.e.a u.e.l u.e.c d.es W (hu.e.below hW).1.1)
 have HF:=hide (fun W (hW:Below w.heap.size w W)=>afresh_any u.e.a u.e.l u.e.c d.es W (hu.e.below hW).1.1 (by have:=hu.e.2;omega))
 have HE:=hide (fun W (hW:Below w.heap.size w W) B (hB:Ints W (some ⟨B,0,none⟩) 1 [(n:Int)])=>equal_any u.p.a u.p.l u.p.c d.ps (some ⟨B,0,none⟩) 1 1 [(n:Int)] W (hu.p.below hW).1.1 hB)
 have HAL:=hide hu.ar.1.1.1
 have hal:=hu.ar.2
 have hnp:nodeP d isPar ds=if farA d.ar n=true then ([],10) else if d.k≠1 then dimsP d.k d.es d.ps d.lo d.hi d.st (pickD ds d.ar) else if isPar=false\/d.ps≠[(n:Int)] then ([],7) else if 0<d.ar.length then ([],2) else if sizeE d.es≠0 then ([],sizeE d.es) else (d.es,0):=by rw [hn];rfl
 obtain ⟨R,hR⟩:∃ R,R=nodeP d isPar ds:=⟨_,rfl⟩
 rw [<-hR] at hnp ⊢
 have HNP:=hide hnp
 clear hu h hn hR hnp
 obtain ⟨k,⟨ea,el,ec⟩,⟨pa,pl,pc⟩,⟨la,ll,lc⟩,⟨ha,hl,hhc⟩,⟨ta,tl,tc⟩,x,⟨aa,al,ac⟩⟩:=u
 simp only at hk hal
 rw [<-hk] at HD HNP
 simp only [Nw.v,Sw.v] at HA1 HB1 HAM HT HD HS HF HE HAL HNP ⊢
 obtain ⟨b0,b1,b2,b3,b4,b5,b6,b7⟩:=HA1.out.cells
 simp only [Sw.v] at b1 b2 b3 b4 b5 b7
 clear hk
 obtain ⟨W1,hW1⟩:∃ W1,W1=w.alloc (.cells #[.int .i64 k,.slice ea el ec,.slice pa pl pc,.slice la ll lc,.slice ha hl hhc,.slice ta tl tc,.int .i64 x,.slice aa al ac] 40):=⟨_,rfl⟩
 cases hfa:farA d.ar n with
 | true =>
  rw [hfa] at HNP
  go_enter Tryz.func18,Tryz.ntmps18
  go_wp2_with (go_at_call 19;refine (HAM.out _ HB1.out).mono ?_;rintro e w2 ⟨rfl,hb2⟩;rw [hfa];have HB2:=hide (bl_on HB1.out hb2);clear hb2;simp only [Bool.not_true])
  go_ret2
  have e1:=HNP.out
  simp at e1
  rw [e1]
  exact ⟨outP_none _ _,HB2.out⟩
 | false =>
  rw [hfa] at HNP
  by_cases hk1:k=1
  · have hq:(k != 1)=false:=by simp [hk1]
    rw [if_neg Bool.false_ne_true,if_neg (by simpa using hk1)] at HNP
    clear hk1
    have e7:(isPar=false\/d.ps≠[(n:Int)])->R=([],7):=fun h=>by rw [HNP.out,if_pos h]
    have HE7:=hide e7
    clear e7
    cases isPar with
    | false =>
     go_enter Tryz.func18,Tryz.ntmps18
     go_wp2_with (go_at_call 19;refine (HAM.out _ HB1.out).mono ?_;rintro e w2 ⟨rfl,hb2⟩;rw [hfa];have HB2:=hide (bl_on HB1.out hb2);have HA2:=hide (HA1.out.below hb2);clear hb2 b0 b1 b2 b3 b4 b5 b6 b7;obtain ⟨b0,b1,b2,b3,b4,b5,b6,b7⟩:=HA2.out.cells;simp only [Sw.v] at b1 b2 b3 b4 b5 b7;simp only [Bool.not_false])
     go_ret2
     rw [HE7.out (.inl trivial)]
     exact ⟨outP_none _ _,HB2.out⟩
    | true =>
     have HLO:Hid (∀ W:World,∀ B,W.heap.size=B->Ints (W.alloc (.cells #[.int .i64 (n:Int)] 3)) (some ⟨B,0,none⟩) 1 [(n:Int)]):=fun W B hB=>(lst_oneB W B hB n (by omega) 3).1
     by_cases hps:d.ps=[(n:Int)]
     · have HD1:Hid (decide (d.ps=[(n:Int)])=true):=decide_eq_true hps
       have e2:0<al->R=([],2):=fun h=>by rw [HNP.out,if_neg (by simp [hps]),if_pos (by rw [HAL.out];exact h)]
       have e3:¬ 0<al->sizeE d.es≠0->R=([],sizeE d.es):=fun h h'=>by rw [HNP.out,if_neg (by simp [hps]),if_neg (by rw [HAL.out];exact h),if_pos h']
       have e4:¬ 0<al->sizeE d.es=0->R=(d.es,0):=fun h h'=>by rw [HNP.out,if_neg (by simp [hps]),if_neg (by rw [HAL.out];exact h),if_neg (by simp [h'])]
       have HE2:=hide e2
       have HE3:=hide e3
       have HE4:=hide e4
       clear e2 e3 e4 hps
       by_cases hal0:0<al
       · have i0:(0:Int)<(al:Int):=by omega
         have HA0:=hide hal0
         clear hal0
         go_enter Tryz.func18,Tryz.ntmps18
         go_wp2_with (first
          | (go_at_call 19;refine (HAM.out _ HB1.out).mono ?_;rintro e w2 ⟨rfl,hb2⟩;rw [hfa];have HB2:=hide (bl_on HB1.out hb2);have HA2:=hide (HA1.out.below hb2);clear hb2 b0 b1 b2 b3 b4 b5 b6 b7;obtain ⟨b0,b1,b2,b3,b4,b5,b6,b7⟩:=HA2.out.cells;simp only [Sw.v] at b1 b2 b3 b4 b5 b7;simp only [Bool.not_false])
          | (go_at_call 9;(refine (HE.out _ (HB2.out.alloc HB2.out.size _) _ (HLO.out w2 _ rfl)).mono ?_);rintro e w3 ⟨rfl,nn,hw3⟩;have hb3:Below (w2.alloc (.cells #[.int .i64 (n:Int)] 3)).heap.size (w2.alloc (.cells #[.int .i64 (n:Int)] 3)) w3:=(by rw [hw3];exact below_drewN _ _);rw [HD1.out];have HB3:=hide (bl_on (HB2.out.alloc HB2.out.size _) hb3);have HA3:=hide ((HA2.out.below (bl_new _)).below hb3);clear hb3 hw3 b0 b1 b2 b3 b4 b5 b6 b7;obtain ⟨b0,b1,b2,b3,b4,b5,b6,b7⟩:=HA3.out.cells;simp only [Sw.v] at b1 b2 b3 b4 b5 b7))
         go_ret2
         rw [HE2.out HA0.out]
         exact ⟨outP_none _ _,HB3.out⟩
       · have i0:¬ ((0:Int)<(al:Int)):=by omega
         have HA0:=hide hal0
         clear hal0
         by_cases hz:sizeE d.es=0
         · have HZ:=hide hz
           clear hz
           go_enter Tryz.func18,Tryz.ntmps18
           go_wp2_with (first
            | (go_at_call 19;refine (HAM.out _ HB1.out).mono ?_;rintro e w2 ⟨rfl,hb2⟩;rw [hfa];have HB2:=hide (bl_on HB1.out hb2);have HA2:=hide (HA1.out.below hb2);clear hb2 b0 b1 b2 b3 b4 b5 b6 b7;obtain ⟨b0,b1,b2,b3,b4,b5,b6,b7⟩:=HA2.out.cells;simp only [Sw.v] at b1 b2 b3 b4 b5 b7;simp only [Bool.not_false])
            | (go_at_call 9;refine (HE.out _ (HB2.out.alloc HB2.out.size _) _ (HLO.out w2 _ rfl)).mono ?_;rintro e w3 ⟨rfl,nn,hw3⟩;have hb3:Below (w2.alloc (.cells #[.int .i64 (n:Int)] 3)).heap.size (w2.alloc (.cells #[.int .i64 (n:Int)] 3)) w3:=(by rw [hw3];exact below_drewN _ _);rw [HD1.out];have HB3:=hide (bl_on (HB2.out.alloc HB2.out.size _) hb3);have HA3:=hide ((HA2.out.below (bl_new _)).below hb3);clear hb3 hw3 b0 b1 b2 b3 b4 b5 b6 b7;obtain ⟨b0,b1,b2,b3,b4,b5,b6,b7⟩:=HA3.out.cells;simp only [Sw.v] at b1 b2 b3 b4 b5 b7)
            | (go_at_call 34;refine (HS.out _ HB3.out).mono ?_;rintro e w4 ⟨rfl,hw4⟩;obtain rfl:=hw4.symm;rw [HZ.out])
            | (go_at_call 35;refine (HF.out _ HB3.out).mono ?_;rintro e w5 ⟨⟨g5,rfl,hr5,hg5⟩,hb5⟩;have HR5:=hide hr5;have HB5:=hide (bl_on HB3.out hb5);clear hr5 hb5 hg5))
           go_ret2
           rw [HE4.out HA0.out HZ.out]
           exact ⟨⟨_,_,_,rfl,ints_of_rowI HR5.out (HU.out.e.1.1.1) (HU.out.e.1.1.2.1) (HU.out.e.1.1.2.2.1),Nat.le_refl _⟩,HB5.out⟩
         · have hzq:(sizeE d.es != 0)=true:=by simp [hz]
           have HZ:=hide hz
           obtain ⟨Z,hZ⟩:∃ Z,Z=sizeE d.es:=⟨_,rfl⟩
           rw [<-hZ] at hzq HE3 HZ
           have HZZ:=hide hZ
           clear hz hZ
           go_enter Tryz.func18,Tryz.ntmps18
           go_wp2_with (first
            | (go_at_call 19;refine (HAM.out _ HB1.out).mono ?_;rintro e w2 ⟨rfl,hb2⟩;rw [hfa];have HB2:=hide (bl_on HB1.out hb2);have HA2:=hide (HA1.out.below hb2);clear hb2 b0 b1 b2 b3 b4 b5 b6 b7;obtain ⟨b0,b1,b2,b3,b4,b5,b6,b7⟩:=HA2.out.cells;simp only [Sw.v] at b1 b2 b3 b4 b5 b7;simp only [Bool.not_false])
            | (go_at_call 9;refine (HE.out _ (HB2.out.alloc HB2.out.size _) _ (HLO.out w2 _ rfl)).mono ?_;rintro e w3 ⟨rfl,nn,hw3⟩;have hb3:Below (w2.alloc (.cells #[.int .i64 (n:Int)] 3)).heap.size (w2.alloc (.cells #[.int .i64 (n:Int)] 3)) w3:=(by rw [hw3];exact below_drewN _ _);rw [HD1.out];have HB3:=hide (bl_on (HB2.out.alloc HB2.out.size _) hb3);have HA3:=hide ((HA2.out.below (bl_new _)).below hb3);clear hb3 hw3 b0 b1 b2 b3 b4 b5 b6 b7;obtain ⟨b0,b1,b2,b3,b4,b5,b6,b7⟩:=HA3.out.cells;simp only [Sw.v] at b1 b2 b3 b4 b5 b7)
            | (go_at_call 34;refine (HS.out _ HB3.out).mono ?_;rintro e w4 ⟨rfl,hw4⟩;obtain rfl:=hw4.symm;rw [<-HZZ.out]))
           go_ret2
           rw [HE3.out HA0.out HZ.out]
           exact ⟨outP_none _ _,HB3.out⟩
     · have HD1:Hid (decide (d.ps=[(n:Int)])=false):=decide_eq_false hps
       have HPS:=hide hps
       clear hps
       go_enter Tryz.func18,Tryz.ntmps18
       go_wp2_with (first
        | (go_at_call 19;refine (HAM.out _ HB1.out).mono ?_;rintro e w2 ⟨rfl,hb2⟩;rw [hfa];have HB2:=hide (bl_on HB1.out hb2);have HA2:=hide (HA1.out.below hb2);clear hb2 b0 b1 b2 b3 b4 b5 b6 b7;obtain ⟨b0,b1,b2,b3,b4,b5,b6,b7⟩:=HA2.out.cells;simp only [Sw.v] at b1 b2 b3 b4 b5 b7;simp only [Bool.not_false])
        | (go_at_call 9;refine (HE.out _ (HB2.out.alloc HB2.out.size _) _ (HLO.out w2 _ rfl)).mono ?_;rintro e w3 ⟨rfl,nn,hw3⟩;have hb3:Below (w2.alloc (.cells #[.int .i64 (n:Int)] 3)).heap.size (w2.alloc (.cells #[.int .i64 (n:Int)] 3)) w3:=(by rw [hw3];exact below_drewN _ _);rw [HD1.out];have HB3:=hide (bl_on (HB2.out.alloc HB2.out.size _) hb3);clear hb3 hw3))
       go_ret2
       rw [HE7.out (.inr HPS.out)]
       exact ⟨outP_none _ _,HB3.out⟩
  · have hq:(k != 1)=true:=by simp [hk1]
    have HK:=hide hk1
    clear hk1
    go_enter Tryz.func18,Tryz.ntmps18
    go_upto_region 1 with fail
    go_wp2_with fail
    refine (HAM.out _ HB1.out).mono ?_
    rintro e w2 ⟨rfl,hb2⟩
    rw [hfa]
    have HB2:=hide (bl_on HB1.out hb2)
    have HA2:=hide (HA1.out.below hb2)
    clear hb2 b0 b1 b2 b3 b4 b5 b6 b7
    obtain ⟨b0,b1,b2,b3,b4,b5,b6,b7⟩:=HA2.out.cells
    simp only [Sw.v] at b1 b2 b3 b4 b5 b7
    simp only [Bool.not_false]
    go_wp2_with fail
    go_region_held3 (fun w'=>w'.cell? ⟨w.heap.size,0,none⟩=some (.int .i64 k)/\w'.cell? ⟨w.heap.size,1,none⟩=some (.slice ea el ec)/\w'.cell? ⟨w.heap.size,2,none⟩=some (.slice pa pl pc)/\w'.cell? ⟨w.heap.size,3,none⟩=some (.slice la ll lc)/\w'.cell? ⟨w.heap.size,4,none⟩=some (.slice ha hl hhc)/\w'.cell? ⟨w.heap.size,5,none⟩=some (.slice ta tl tc)/\w'.cell? ⟨w.heap.size,6,none⟩=some (.int .i64 x)/\w'.cell? ⟨w.heap.size,7,none⟩=some (.slice aa al ac)) (refine ⟨?_,?_,?_,?_,?_,?_,?_,?_⟩<;>with_reducible (repeat (first | assumption | apply drew_cell | apply alloc_cell))) ((first
     | (go_at_call 33;refine (HT.out _ HB2.out.drew hfa).mono ?_;rintro e w3 ⟨⟨G3,rfl,hl3⟩,hb3⟩;have HL3:=hide hl3;have HB3:=hide (bl_on HB2.out.drew hb3);have HA3:=hide ((HA2.out.below ((Below.refl _ _).drew)).below hb3);clear hl3 hb3;obtain ⟨d0,d1,d2,d3,d4,d5,d6,d7⟩:=HA3.out.cells;simp only [Sw.v] at d1 d2 d3 d4 d5 d7)
     | (go_at_call 32;refine (HD.out _ _ HB3.out HL3.out).mono ?_;rintro e w4 ⟨⟨X4,n4,c4,rfl,hi4,hc4⟩,hb4⟩;have HI4:=hide hi4;have HC4:=hide hc4;have HB4:=hide (bl_on HB3.out hb4);have HA4:=hide (HA3.out.below hb4);clear hi4 hb4 hc4;obtain ⟨f0,f1,f2,f3,f4,f5,f6,f7⟩:=HA4.out.cells;simp only [Sw.v] at f1 f2 f3 f4 f5 f7)))
    all_goals go_wp2
    all_goals go_ret2
    all_goals (
     have e1:=HNP.out
     rw [if_neg Bool.false_ne_true,if_pos HK.out] at e1
     rw [e1]
     exact ⟨⟨X4,n4,c4,rfl,HI4.out,HC4.out⟩,HB4.out⟩)
def nodesP (l:List Nd) (P:Nat):Nat->List (List Int) × Int
 | 0=>([],0)
 | k+1=>if (nodesP l P k).2≠0 then ([],(nodesP l P k).2)
  else if (nodeP (l[k]?.getD ndD) (decide (k<P)) (nodesP l P k).1).2≠0 then ([],(nodeP (l[k]?.getD ndD) (decide (k<P)) (nodesP l P k).1).2)
  else ((nodesP l P k).1++[(nodeP (l[k]?.getD ndD) (decide (k<P)) (nodesP l P k).1).1],0)
theorem nodesP_err (l:List Nd) (P k:Nat) (h:(nodesP l P k).2≠0):∀ j,k<=j->(nodesP l P j).2=(nodesP l P k).2:=by
 intro j hj
 induction j with
 | zero=>obtain rfl:k=0:=by omega
         rfl
 | succ j ih =>
  by_cases e:k=j+1
  · subst e;rfl
  · have:=ih (by omega)
    rw [nodesP,if_pos (by rw [this];exact h)]
    exact this
theorem nodesP_len (l:List Nd) (P:Nat):∀ k,(nodesP l P k).2=0->(nodesP l P k).1.length=k
 | 0,_=>rfl
 | k+1,h=>by
  rw [nodesP] at h ⊢
  by_cases c1:(nodesP l P k).2≠0
  · rw [if_pos c1] at h;exact absurd h c1
  · rw [if_neg c1] at h ⊢
    by_cases c2:(nodeP (l[k]?.getD ndD) (decide (k<P)) (nodesP l P k).1).2≠0
    · rw [if_pos c2] at h;exact absurd h c2
    · rw [if_neg c2]
      simp [nodesP_len l P k (by simpa using c1)]
def grP (l:List Nd) (outs:List Int):List (List Int) × Int :=
 if 4096<l.length then ([],5)
 else if (nodesP l (parN l) l.length).2≠0 then ([],(nodesP l (parN l) l.length).2)
 else if farA outs l.length=true then ([],4)
 else ((nodesP l (parN l) l.length).1,0)
def OutLs (e:Ending) (w':World) (p:List (List Int) × Int):Prop:=∃ A n c,e=.returned (.tuple #[.slice A n c,.int .i64 p.2])/\n<=c/\Lsts w' A n p.1
theorem outLs_none (w':World) (E:Int):OutLs (.returned (.tuple #[.slice none 0 0,.int .i64 E])) w' ([],E):=⟨none,0,0,rfl,Nat.le_refl _,lsts_nil _ _⟩
theorem make_sls (n:Nat) (hn:n<=4096) (w:World) :
 (Instr.makeSlice 30 (.int .i64 0) (.int .i64 (n:Int))).run Tryz.prog w=.ok (.slice (some ⟨w.heap.size,0,none⟩) 0 n) (w.alloc (.cells (madeCells #[.slice none 0 0] n) 23)):=by
 obtain ⟨i,hi,hzz⟩:=Option.map_eq_some_iff.1 info_sls
 simp only [Prod.mk.injEq] at hzz
 obtain ⟨hz,hs,hb⟩:=hzz
 have hr:=run_make (P:=Tryz.prog) w 30 23 i _ Tryz.underlying30 hi hz .i64 .i64 0 n (by omega) (by omega) (by rw [hb];omega) (by omega)
 rw [hs] at hr
 simp only [Nat.mul_one] at hr
 exact hr
def GrAt (w:World) (b:Nat) (A:Option Addr) (n cap:Nat) (oa:Option Addr) (ol oc:Nat):Prop:=w.cell? ⟨b,0,none⟩=some (.slice A n cap)/\w.cell? ⟨b,1,none⟩=some (.slice oa ol oc)
theorem GrAt.new (w:World) (A:Option Addr) (n cap:Nat) (oa:Option Addr) (ol oc:Nat):GrAt (w.alloc (.cells #[.slice A n cap,.slice oa ol oc] 25)) w.heap.size A n cap oa ol oc:=by
 have h:=World.alloc_heap_new w (.cells #[.slice A n cap,.slice oa ol oc] 25)
 constructor<;>(unfold World.cell?;rw [h];rfl)
theorem GrAt.below {w w1:World} {b:Nat} {A:Option Addr} {n cap:Nat} {oa:Option Addr} {ol oc:Nat} (h:GrAt w b A n cap oa ol oc) (hb:Below (b+1) w w1):GrAt w1 b A n cap oa ol oc :=
 ⟨(World.cell?_of_block (hb.block b (Nat.lt_succ_self _))).trans h.1,(World.cell?_of_block (hb.block b (Nat.lt_succ_self _))).trans h.2⟩
theorem gDims_any (A:Option Addr) (n cap:Nat) (l:List Nd) (oa:Option Addr) (ol oc:Nat) (outs:List Int) (w:World) (h:Nds w A n l) (ho:Ints w oa ol outs) :
 Calls Tryz.prog 7 #[.agg #[.slice A n cap,.slice oa ol oc]] w fun e w'=>OutLs e w' (grP l outs)/\Below w.heap.size w w':=by
 have H:=hide h
 have HO:=hide ho
 have hm:=h.2.1
 have HNL:=hide h.1
 have HB0:=hide (bl_new (w:=w) (.cells #[.slice A n cap,.slice oa ol oc] 25))
 have HG0:=hide (GrAt.new w A n cap oa ol oc)
 obtain ⟨g0,g1⟩:=HG0.out
 have HP:=hide (fun W (hW:Below w.heap.size w W)=>params_any A n cap l oa ol oc W (h.below hW))
 have HGP:Hid (grP l outs=if 4096<n then ([],5) else if (nodesP l (parN l) n).2≠0 then ([],(nodesP l (parN l) n).2) else if farA outs n=true then ([],4) else ((nodesP l (parN l) n).1,0)):=by rw [Hid,<-h.1];rfl
 obtain ⟨R,hR⟩:∃ R,R=grP l outs:=⟨_,rfl⟩
 rw [<-hR] at HGP ⊢
 clear h ho hR
 by_cases hbig:4096<n
 · have i0:(4096:Int)<(n:Int):=by omega
   rw [if_pos hbig] at HGP
   go_enter Tryz.func7,Tryz.ntmps7
   go_wp2
   go_ret2
   rw [HGP.out]
   exact ⟨outLs_none _ _,HB0.out⟩
 · have i0:¬ ((4096:Int)<(n:Int)):=by omega
   rw [if_neg hbig] at HGP
   have HMK:=hide (make_sls n (by omega))
   clear hbig
   go_enter Tryz.func7,Tryz.ntmps7
   go_upto_region 3 with fail
   go_wp2_with fail
   refine (HP.out _ HB0.out).mono ?_
   rintro e w1 ⟨rfl,hb1⟩
   obtain ⟨P,hP⟩:∃ P,P=parN l:=⟨_,rfl⟩
   rw [<-hP] at HGP ⊢
   have HPL:Hid (P<=n):=by rw [Hid,hP,<-HNL.out];exact parN_le l
   have HB1:=hide (bl_on HB0.out hb1)
   have HG1:=hide (HG0.out.below (by simpa using hb1))
   obtain ⟨g2,g3⟩:=HG1.out
   have hs1:w.heap.size+1<=w1.heap.size:=by have:=hb1.size;simpa using this
   clear hb1 g0 g1 hP
   have hmk:=HMK.out w1
   have hs2:w.heap.size<w1.heap.size:=by omega
   go_wp2
   go_loopw [5,23] (fun v i wr=>∃ k:Nat,k<=n/\i=.int .i64 k/\(nodesP l P k).2=0/\LsR wr w1.heap.size v (nodesP l P k).1/\Below w1.heap.size w1 wr) (fun _ i _=>n-(intOf i).toNat)
   case atStart=>exact ⟨0,Nat.zero_le _,rfl,rfl,LsR.made w1 w1.heap.size n (Nat.le_refl _) (by unfold maxLen;omega),bl_new _⟩
   case round =>
    obtain ⟨k,hk,rfl,h0,hls,hb⟩:=hrel
    have H0:=hide h0
    have HLS:=hide hls
    have HB:=hide hb
    have hlen:=nodesP_len l P k h0
    have HLEN:=hide hlen
    have hsz:=hb.size
    have HBw:=hide (bl_on HB1.out hb)
    have HGr:=hide (HG1.out.below (hb.mono hs1))
    obtain ⟨A5,c5,rfl,hc5,hl5⟩:=hls.slice (by omega)
    rw [hlen] at hc5 hl5 HLS ⊢
    have HL5:=hide hl5
    clear h0 hls hb hlen hl5 g2 g3
    obtain ⟨g2,g3⟩:=HGr.out
    by_cases hlt:k<n
    · obtain ⟨b,off,rfl,hc⟩:=(H.out.below HBw.out).at (by omega)
      obtain ⟨u,hu,hi⟩:=hc k hlt
      have HI:=hide hi
      have HNX:Hid (nodesP l P (k+1)=if (nodeP (l[k]?.getD ndD) (decide (k<P)) (nodesP l P k).1).2≠0 then ([],(nodeP (l[k]?.getD ndD) (decide (k<P)) (nodesP l P k).1).2) else ((nodesP l P k).1++[(nodeP (l[k]?.getD ndD) (decide (k<P)) (nodesP l P k).1).1],0)):=by
       rw [Hid,nodesP,if_neg (by rw [H0.out];exact fun h=>h rfl)]
      have HER:Hid ((nodesP l P (k+1)).2≠0->R=([],(nodesP l P (k+1)).2)):=fun hne=>by
       rw [HGP.out,nodesP_err l P (k+1) hne n hlt,if_pos hne]
      have HND:=hide (fun W (hW:Below wr.heap.size wr W)=>nodeDims_any u (l[k]?.getD ndD) (decide (k<P)) A5 c5 (nodesP l P k).1 W (hi.below hW) (by rw [HLEN.out];exact HL5.out.below hW))
      rw [HLEN.out] at HND
      obtain ⟨c0,c1,c2,c3,c4,c5',c6,c7⟩:=hu
      have z:=lt_of_cell c0
      simp only at z
      have i1:(k:Int)<(n:Int):=by omega
      obtain ⟨r,hr⟩:∃ r,r=nodeP (l[k]?.getD ndD) (decide (k<P)) (nodesP l P k).1:=⟨_,rfl⟩
      rw [<-hr] at HNX HND
      have HBX:=hide (bl_new (w:=wr) (.cells #[.int .i64 u.k,u.e.v,u.p.v,u.lo.v,u.hi.v,u.st.v,.int .i64 u.x,u.ar.v] 40))
      have hs3:w.heap.size<wr.heap.size:=by omega
      have HLT:=hide hlt
      clear hc hi hr
      obtain ⟨ku,⟨ea,el,ec⟩,⟨pa,pl,pc⟩,⟨la,ll,lc⟩,⟨ha,hl,hhc⟩,⟨ta,tl,tc⟩,x,⟨aa,al,ac⟩⟩:=u
      simp only [Nw.v,Sw.v] at c0 c1 c2 c3 c4 c5' c6 c7 HND HBX
      go_wp2_with fail
      refine (HND.out _ HBX.out).mono ?_
      rintro e w3 ⟨⟨X3,m3,c3x,rfl,hi3,hc3⟩,hb3⟩
      have HI3:=hide (lst_ints hi3 hc3)
      have HBN:=hide (bl_on HBX.out hb3)
      clear hi3 hc3 hb3 c0 c1 c2 c3 c4 c5' c6 c7 g2 g3 z
      by_cases hr0:r.2=0
      · have hq:(r.2 != 0)=false:=by simp [hr0]
        rw [if_neg (by simpa using hr0)] at HNX
        have hs4:wr.heap.size<=w3.heap.size:=HBN.out.size
        clear hr0
        go_wp2_with (at_builtin;(refine append_ls (by rfl) (.tmp 40) (.tmp 42) (by rfl) w1.heap.size _ (nodesP l P k).1 (by rfl) X3 m3 c3x r.1 (HLS.out.below HBN.out) HI3.out (by rfl) (by rw [HLEN.out];omega) (by omega) ?_);intro v4 w4 hls4 hg4 hsr4 _;have HLS4:=hide hls4;have HG4:=hide hg4;have HSR4:=hide hsr4;clear hls4 hg4 hsr4)
        go_roundw
        case rel =>
         obtain ⟨vs4,hsr⟩:=HSR4.out
         refine ⟨k+1,by omega,by go_num,by rw [HNX.out],by rw [HNX.out];exact HLS4.out,?_⟩
         exact ((bl_on HB.out HBN.out).alloc (by omega) _).grown HG4.out (by simp;omega) (fun j e=>(hsr.lt e).1)
        case measure=>simp [intOf];omega
      · have hq:(r.2 != 0)=true:=by simp [hr0]
        rw [if_pos hr0] at HNX
        have HR0:=hide hr0
        clear hr0
        go_wp2
        go_ret2
        have hne:(nodesP l P (k+1)).2≠0:=by rw [HNX.out];exact HR0.out
        rw [HER.out hne,HNX.out]
        exact ⟨outLs_none _ _,bl_on HBw.out HBN.out⟩
    · obtain rfl:k=n:=by omega
      have HAM:=hide (fun W (hW:Below w.heap.size w W)=>among_any oa ol oc outs k W (HO.out.below hW))
      rw [H0.out,if_neg (fun h=>h rfl)] at HGP
      cases hfa:farA outs k with
      | true =>
       go_wp2_with (go_at_call 19;refine (HAM.out _ HBw.out).mono ?_;rintro e w5 ⟨rfl,hb5⟩;rw [hfa];have HB5:=hide (bl_on HBw.out hb5);clear hb5;simp only [Bool.not_true])
       go_ret2
       rw [HGP.out,if_pos hfa]
       exact ⟨outLs_none _ _,HB5.out⟩
      | false =>
       go_wp2_with (go_at_call 19;refine (HAM.out _ HBw.out).mono ?_;rintro e w5 ⟨rfl,hb5⟩;rw [hfa];have HB5:=hide (bl_on HBw.out hb5);have HL6:=hide (HL5.out.below hb5);clear hb5;simp only [Bool.not_false])
       go_ret2
       rw [HGP.out,if_neg (by rw [hfa];exact Bool.false_ne_true)]
       exact ⟨⟨_,_,_,rfl,hc5,HL6.out⟩,HB5.out⟩
end Go.Proofs.YtakpedjhgdkhkaaGreatDoor.V
