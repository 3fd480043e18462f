import Derived.Test.YtakpedjhgdkhkaaGreatDoorK27
import Derived.Test.YtakpedjhgdkhkaaGreatDoorK28
import Derived.Test.YtakpedjhgdkhkaaGreatDoorK30
import Derived.Test.YtakpedjhgdkhkaaGreatDoorK31
import Derived.Test.YtakpedjhgdkhkaaGreatDoorK8
namespace Go.Proofs.YtakpedjhgdkhkaaGreatDoor.V
set_option maxRecDepth 100000
set_option maxHeartbeats 8000000
open Go.RowKit
theorem shape_12 (x:Int) (ea:Option Addr) (el ec:Nat) (es:List Int) (pa:Option Addr) (pl pc:Nat) (ps:List Int) (la:Option Addr) (ll lc:Nat) (lo:List Int) (ha:Option Addr) (hl hc:Nat) (hi:List Int) (ta:Option Addr) (tl tc:Nat) (st:List Int) (A:Option Addr) (len cap:Nat) (xss:List (List Int)) (w:World)
 (he:Lst w ea el ec es) (hp:Lst w pa pl pc ps) (hlo:Lst w la ll lc lo) (hhi:Lst w ha hl hc hi) (hst:Lst w ta tl tc st) (h:Lsts w A len xss) (hcap:len<=cap) (hz:∀ d∈xss,sizeE d=0) (hn:len=1) (hlen:len<=1048576) (b0:el<=1048576) (b1:pl<=1048576) (b2:ll<=1048576) (b3:hl<=1048576) (b4:tl<=1048576) :
 Calls Tryz.prog 43 #[.agg #[.int .i64 12,.slice ea el ec,.slice pa pl pc,.slice la ll lc,.slice ha hl hc,.slice ta tl tc,.int .i64 x],.slice A len cap] w fun e w'=>OutP e w' (reformP (xss[0]?.getD []) es)/\Below w.heap.size w w':=by
 have zz:=And.intro hcap (And.intro hlen (And.intro hn (And.intro b0 (And.intro b1 (And.intro b2 (And.intro b3 b4))))))
 clear zz
 have HE:=hide he
 have HP:=hide hp
 have HLO:=hide hlo
 have HHI:=hide hhi
 have HST:=hide hst
 have H:=hide h
 have HN:=hide h.1
 have HZ:=hide hz
 have HB1:=hide ((Below.refl w.heap.size w).alloc (Nat.le_refl _) (.cells #[.int .i64 12,.slice ea el ec,.slice pa pl pc,.slice la ll lc,.slice ha hl hc,.slice ta tl tc,.int .i64 x] 38))
 have HOP:=hide (OpAt.new w 12 (.slice ea el ec) (.slice pa pl pc) (.slice la ll lc) (.slice ha hl hc) (.slice ta tl tc) x)
 obtain ⟨o0,o1,o2,o3,o4,o5,o6⟩:=HOP.out.cells
 obtain ⟨b,off,rfl,hc⟩:=h.at (by omega)
 obtain ⟨X0,m0,c0,hc0,hl0⟩:=hc 0 (by omega)
 have hc0':w.cell? ⟨b,off,none⟩=some (.slice X0 m0 c0):=hc0
 obtain ⟨ds,hds⟩:∃ ds,ds=xss[0]?.getD []:=⟨_,rfl⟩
 rw [<-hds] at hl0 ⊢
 have HL0:=hide hl0
 have HC0:=hide hc0'
 have hzd:sizeE ds=0:=by rw [hds];exact hz _ (mem_getDL xss 0 (by rw [h.1];omega))
 have HZD:=hide hzd
 have h06:m0<=6:=by have:=(sizeE_ok hzd).1;have:=hl0.1.1;omega
 have HD1:=hide (HL0.out.below HB1.out)
 have q0:=(HB1.out.cell (p:=⟨b,off,none⟩) (lt_of_cell hc0')).trans hc0'
 have i0:(0:Int)<(len:Int):=by omega
 clear h he hp hlo hhi hst hz hc hc0 hc0' hl0 hds hzd
 go_enter Tryz.func43,Tryz.ntmps43
 go_wp2_with fail
 go_region_with (go_at_call 61;refine (reformDims_any _ _ _ _ _ _ _ _ _ es _ _ _ ds _ (HE.out.below (HB1.out.drew)).1 (HL0.out.below (HB1.out.drew)).1 HZD.out).mono ?_;rintro e w1 ⟨⟨Z,nz,cz,rfl,hi1,hnc⟩,hb⟩;have HI1:=hide hi1;have HB2:=hide (Below.on (HB1.out.drew) hb);clear hi1 hb)
 all_goals go_wp2
 all_goals go_ret2
 all_goals exact ⟨⟨_,_,_,rfl,HI1.out,hnc⟩,HB2.out⟩
theorem shape_13 (x:Int) (ea:Option Addr) (el ec:Nat) (es:List Int) (pa:Option Addr) (pl pc:Nat) (ps:List Int) (la:Option Addr) (ll lc:Nat) (lo:List Int) (ha:Option Addr) (hl hc:Nat) (hi:List Int) (ta:Option Addr) (tl tc:Nat) (st:List Int) (A:Option Addr) (len cap:Nat) (xss:List (List Int)) (w:World)
 (he:Lst w ea el ec es) (hp:Lst w pa pl pc ps) (hlo:Lst w la ll lc lo) (hhi:Lst w ha hl hc hi) (hst:Lst w ta tl tc st) (h:Lsts w A len xss) (hcap:len<=cap) (hz:∀ d∈xss,sizeE d=0) (hn:len=1) (hlen:len<=1048576) (b0:el<=1048576) (b1:pl<=1048576) (b2:ll<=1048576) (b3:hl<=1048576) (b4:tl<=1048576) :
 Calls Tryz.prog 43 #[.agg #[.int .i64 13,.slice ea el ec,.slice pa pl pc,.slice la ll lc,.slice ha hl hc,.slice ta tl tc,.int .i64 x],.slice A len cap] w fun e w'=>OutP e w' ((okL (cutE 0 (xss[0]?.getD []) (stepsV (xss[0]?.getD [])) lo hi st) (cutD (xss[0]?.getD []) lo hi st),cutE 0 (xss[0]?.getD []) (stepsV (xss[0]?.getD [])) lo hi st))/\Below w.heap.size w w':=by
 have zz:=And.intro hcap (And.intro hlen (And.intro hn (And.intro b0 (And.intro b1 (And.intro b2 (And.intro b3 b4))))))
 clear zz
 have HE:=hide he
 have HP:=hide hp
 have HLO:=hide hlo
 have HHI:=hide hhi
 have HST:=hide hst
 have H:=hide h
 have HN:=hide h.1
 have HZ:=hide hz
 have HB1:=hide ((Below.refl w.heap.size w).alloc (Nat.le_refl _) (.cells #[.int .i64 13,.slice ea el ec,.slice pa pl pc,.slice la ll lc,.slice ha hl hc,.slice ta tl tc,.int .i64 x] 38))
 have HOP:=hide (OpAt.new w 13 (.slice ea el ec) (.slice pa pl pc) (.slice la ll lc) (.slice ha hl hc) (.slice ta tl tc) x)
 obtain ⟨o0,o1,o2,o3,o4,o5,o6⟩:=HOP.out.cells
 obtain ⟨b,off,rfl,hc⟩:=h.at (by omega)
 obtain ⟨X0,m0,c0,hc0,hl0⟩:=hc 0 (by omega)
 have hc0':w.cell? ⟨b,off,none⟩=some (.slice X0 m0 c0):=hc0
 obtain ⟨ds,hds⟩:∃ ds,ds=xss[0]?.getD []:=⟨_,rfl⟩
 rw [<-hds] at hl0 ⊢
 have HL0:=hide hl0
 have HC0:=hide hc0'
 have hzd:sizeE ds=0:=by rw [hds];exact hz _ (mem_getDL xss 0 (by rw [h.1];omega))
 have HZD:=hide hzd
 have h06:m0<=6:=by have:=(sizeE_ok hzd).1;have:=hl0.1.1;omega
 have HD1:=hide (HL0.out.below HB1.out)
 have q0:=(HB1.out.cell (p:=⟨b,off,none⟩) (lt_of_cell hc0')).trans hc0'
 have i0:(0:Int)<(len:Int):=by omega
 have q0b:=((HB1.out.alloc HB1.out.size (.cells #[.int .i64 0,.slice none 0 0,.slice none 0 0] 79)).cell (p:=⟨b,off,none⟩) (lt_of_cell hc0')).trans hc0'
 obtain ⟨p0,p1,p2,p3,p4,p5,p6⟩:=(HOP.out.alloc (.cells #[.int .i64 0,.slice none 0 0,.slice none 0 0] 79)).cells
 clear h he hp hlo hhi hst hz hc hc0 hc0' hl0 hds hzd
 go_enter Tryz.func43,Tryz.ntmps43
 go_wp2_with fail
 go_region_with (first | (go_at_call 59;refine (seen_cut 13 x _ _ _ ds _ _ _ es _ _ _ ps _ _ _ lo _ _ _ hi _ _ _ st _ (HL0.out.below (HB1.out.drew)).1 (HE.out.below (HB1.out.drew)).1 (HP.out.below (HB1.out.drew)).1 (HLO.out.below (HB1.out.drew)).1 (HHI.out.below (HB1.out.drew)).1 (HST.out.below (HB1.out.drew)).1 HZD.out rfl).mono ?_;rintro e w1 ⟨⟨da1,dl1,dc1,sa1,sl1,sc1,rfl,hi1,_,hc1,_,hF⟩,hb⟩;have HI1:=hide hi1;have HB2:=hide (Below.on (HB1.out.drew) hb); clear hi1 hb hF) | (go_at_call 59;refine (seen_cut 13 x _ _ _ ds _ _ _ es _ _ _ ps _ _ _ lo _ _ _ hi _ _ _ st _ (HL0.out.below ((HB1.out.alloc HB1.out.size (.cells #[.int .i64 0,.slice none 0 0,.slice none 0 0] 79)).drew)).1 (HE.out.below ((HB1.out.alloc HB1.out.size (.cells #[.int .i64 0,.slice none 0 0,.slice none 0 0] 79)).drew)).1 (HP.out.below ((HB1.out.alloc HB1.out.size (.cells #[.int .i64 0,.slice none 0 0,.slice none 0 0] 79)).drew)).1 (HLO.out.below ((HB1.out.alloc HB1.out.size (.cells #[.int .i64 0,.slice none 0 0,.slice none 0 0] 79)).drew)).1 (HHI.out.below ((HB1.out.alloc HB1.out.size (.cells #[.int .i64 0,.slice none 0 0,.slice none 0 0] 79)).drew)).1 (HST.out.below ((HB1.out.alloc HB1.out.size (.cells #[.int .i64 0,.slice none 0 0,.slice none 0 0] 79)).drew)).1 HZD.out rfl).mono ?_;rintro e w1 ⟨⟨da1,dl1,dc1,sa1,sl1,sc1,rfl,hi1,_,hc1,_,hF⟩,hb⟩;have HI1:=hide hi1;have HB2:=hide (Below.on ((HB1.out.alloc HB1.out.size (.cells #[.int .i64 0,.slice none 0 0,.slice none 0 0] 79)).drew) hb);have HF1:Hid (Far (w.heap.size+2) da1):=(far_mono hF (by { simp }));have hv0:=(ViewAt.new (w.alloc (.cells #[.int .i64 13,.slice ea el ec,.slice pa pl pc,.slice la ll lc,.slice ha hl hc,.slice ta tl tc,.int .i64 x] 38)) (.int .i64 0) (.slice none 0 0) (.slice none 0 0)).below (Below.on ((Below.refl _ _).drew) hb);simp only [World.size_alloc] at hv0;obtain ⟨⟨u0,u1,u2⟩,f0,f1,f2⟩:=hv0.cells;clear hv0;clear hi1 hb hF))
 all_goals go_wp2
 all_goals go_ret2
 all_goals first | exact ⟨⟨_,_,_,rfl,HI1.out.below ((Below.refl _ _).alloc (Nat.le_refl _) _),hc1⟩,HB2.out.alloc HB2.out.size _⟩ | exact ⟨⟨_,_,_,rfl,ints_putF HI1.out HF1.out (by omega),hc1⟩,below_put HB2.out (by omega)⟩
def RowC (w:World) (g c n:Nat) (xs:List Int):Prop:=∃ f,w.rowIs g 3 c f/\∀ j,j<n->f j=.int .i64 (xs[j]?.getD 0)
theorem RowC.below {w w':World} {g c n:Nat} {xs:List Int} (h:RowC w g c n xs) (hb:Below w.heap.size w w'):RowC w' g c n xs:=by
 obtain ⟨f,h1,h2⟩:=h
 exact ⟨f,h1.of_block (hb.block g h1.lt),h2⟩
theorem RowC.cell {w:World} {g c n:Nat} {xs:List Int} (h:RowC w g c n xs) (hn:n<=c) {j:Nat} (hj:j<n):w.cell? ⟨g,j,none⟩=some (.int .i64 (xs[j]?.getD 0)):=by
 obtain ⟨f,h1,h2⟩:=h
 have:=h1.cell (show j<c by omega)
 rwa [h2 j hj] at this
theorem RowC.frozen {w:World} {g c n:Nat} {xs:List Int} (h:RowC w g c n xs) (j:Nat):w.frozen? ⟨g,j,none⟩=false:=by
 obtain ⟨f,h1,h2⟩:=h
 exact h1.frozen j
theorem RowC.set {w:World} {g c n:Nat} {xs:List Int} (h:RowC w g c n xs) (p:Nat) (V':Int) (hp:p<xs.length):RowC (w.setCell ⟨g,p,none⟩ (.int .i64 V')) g c n (xs.set p V'):=by
 obtain ⟨f,h1,h2⟩:=h
 refine ⟨_,h1.set p (.int .i64 V'),fun j hj=>?_⟩
 rw [set_getD xs p j V' hp]
 by_cases e:j=p
 · simp [e]
 · simp [e,h2 j hj]
theorem RowC.ints {w:World} {g c n:Nat} {xs:List Int} (h:RowC w g c n xs) (hn:n<=c) (hl:xs.length=n) (hm:n<=9223372036854775807) (hb:∀ x∈xs,-9223372036854775808<=x/\x<=9223372036854775807):Ints w (some ⟨g,0,none⟩) n xs :=
 ⟨hl,hm,hb,.inr ⟨g,0,rfl,fun j hj=>by rw [Nat.zero_add];exact h.cell hn hj⟩⟩
theorem own_split {w:World} {B n:Nat} {v:Value} {xs:List Int} (h:w.ownsRow B 3 1 v n (xs.map (Value.int .i64))) (hl:xs.length=n) (h0:0<n):∃ g c,v=.slice (some ⟨g,0,none⟩) n c/\B<=g/\n<=c/\RowC w g c n xs:=by
 rcases h.2 with ⟨rfl,h2⟩ | ⟨g,cap,cur,rfl,h3,_,h4,_⟩
 · omega
 · obtain ⟨f,hf,hg⟩:=row_of_own h hl
   exact ⟨g,cap,rfl,h3,h4,f,hf,hg.1⟩
theorem joinB_iff {p:Nat} {ds d:List Int}:joinB p ds d=true<->d.length=ds.length/\∀ q,q<ds.length->q≠p->d[q]?.getD 0=ds[q]?.getD 0:=by
 simp only [joinB,Bool.and_eq_true,decide_eq_true_eq]
 constructor
 · rintro ⟨h1,h2,h3⟩
   refine ⟨h1,fun q hq hne=>?_⟩
   by_cases e:q<p
   · have:=congrArg (fun l=>l[q]?) h2
     simp only [List.getElem?_take_of_lt e] at this
     rw [this]
   · have:=congrArg (fun l=>l[q-(p+1)]?) h3
     simp only [List.getElem?_drop] at this
     have e2:p+1+(q-(p+1))=q:=by omega
     rw [e2] at this
     rw [this]
 · rintro ⟨h1,h2⟩
   have key:∀ q,q≠p->d[q]?=ds[q]?:=fun q hne=>by
    by_cases e:q<ds.length
    · have:=h2 q e hne
      have e':q<d.length:=by omega
      simpa [e,e'] using this
    · have e':¬ q<d.length:=by omega
      simp [e,e']
   refine ⟨h1,?_,?_⟩
   · apply List.ext_getElem?
     intro q
     by_cases e:q<p
     · rw [List.getElem?_take_of_lt e,List.getElem?_take_of_lt e];exact key q (by omega)
     · rw [List.getElem?_take_eq_none (by omega),List.getElem?_take_eq_none (by omega)]
   · apply List.ext_getElem?
     intro q
     rw [List.getElem?_drop,List.getElem?_drop];exact key _ (by omega)
theorem rjoinDims_any (k x:Int) (vd vl vh vs:Value) (pa:Option Addr) (pl pc:Nat) (ps:List Int) (A:Option Addr) (len cap:Nat) (xss:List (List Int)) (w:World) (hp:Lst w pa pl pc ps) (h:Lsts w A len xss) (hcap:len<=cap) (h1:1<=len) (hlen:len<=1048576) (hz:∀ d∈xss,sizeE d=0) :
 Calls Tryz.prog 56 #[.agg #[.int .i64 k,vd,.slice pa pl pc,vl,vh,vs,.int .i64 x],.slice A len cap] w fun e w'=>OutP e w' (joinP ps xss)/\Below w.heap.size w w':=by
 have H:=hide h
 have HP:=hide hp
 have HN:=hide h.1
 have HPL:=hide hp.1.1
 have HZ:=hide hz
 obtain ⟨b,off,rfl,hc⟩:=h.at (by omega)
 obtain ⟨X0,m0,c0,hc0,hl0⟩:=hc 0 (by omega)
 obtain ⟨ds,hds⟩:∃ ds,ds=xss[0]?.getD []:=⟨_,rfl⟩
 rw [<-hds] at hl0
 have HDS:=hide hds
 have HC:=hide hc
 have hc0':w.cell? ⟨b,off,none⟩=some (.slice X0 m0 c0):=hc0
 have HC0:=hide hc0'
 have HL0:=hide hl0
 have hmem0:ds∈xss:=by rw [hds];exact mem_getDL xss 0 (by rw [h.1];omega)
 have hz0:=sizeE_ok (hz ds hmem0)
 have hm06:m0<=6:=by have:=hl0.1.1;omega
 clear h hp hz hc hc0 hl0 hds hmem0
 have HB1:=hide ((Below.refl w.heap.size w).alloc (Nat.le_refl _) (.cells #[.int .i64 k,vd,.slice pa pl pc,vl,vh,vs,.int .i64 x] 38))
 have HOP:=hide (OpAt.new w k vd (.slice pa pl pc) vl vh vs x)
 have q0:(w.alloc (.cells #[.int .i64 k,vd,.slice pa pl pc,vl,vh,vs,.int .i64 x] 38)).cell? ⟨b,off,none⟩=some (.slice X0 m0 c0):=(HB1.out.cell (p:=⟨b,off,none⟩) (lt_of_cell HC0.out)).trans HC0.out
 have hpos:(0:Int)<(len:Int):=by omega
 have HBAD:Hid (¬ (ps.length=1/\0<=joinAt ps/\joinAt ps<(ds.length:Int))->joinP ps xss=([],6)):=fun hn=>by
  unfold joinP
  rw [<-HDS.out,if_neg]
  rintro ⟨a1,a2,a3,_⟩
  exact hn ⟨a1,a2,a3⟩
 obtain ⟨o0,o1,o2,o3,o4,o5,o6⟩:=HOP.out.cells
 by_cases c1:pl=1
 case neg =>
  rw [HBAD.out (fun hh=>c1 (by rw [<-HPL.out];exact hh.1))]
  have q:((pl:Int) != 1)=true:=by simp;omega
  clear c1
  go_enter Tryz.func56,Tryz.ntmps56
  go_wp2_with fail
  go_quiet (fail)
  go_wp2
  go_ret2
  exact ⟨outP_none _ _,Below.on HB1.out (below_drewN _ _)⟩
 subst c1
 obtain ⟨pb,pof,rfl,hpb,hpc⟩:=HP.out.1.at (by omega)
 obtain ⟨P,hP⟩:∃ P,P=joinAt ps:=⟨_,rfl⟩
 have hcp:w.cell? ⟨pb,pof,none⟩=some (.int .i64 P):=by rw [hP];exact hpc 0 (by omega)
 have HCP:=hide hcp
 have hdl:ds.length=m0:=HL0.out.1.1
 have HDL:=hide hdl
 have cp:(w.alloc (.cells #[.int .i64 k,vd,.slice (some ⟨pb,pof,none⟩) 1 pc,vl,vh,vs,.int .i64 x] 38)).cell? ⟨pb,pof,none⟩=some (.int .i64 P):=(HB1.out.cell (p:=⟨pb,pof,none⟩) hpb).trans HCP.out
 clear hpc hcp
 by_cases c2:P<0
 · rw [HBAD.out (fun hh=>by rw [<-hP] at hh;omega)]
   clear hP
   go_enter Tryz.func56,Tryz.ntmps56
   go_wp2_with fail
   go_quiet (fail)
   go_wp2
   go_ret2
   exact ⟨outP_none _ _,Below.on HB1.out (below_drewN _ _)⟩
 have c2':decide (P<0)=false:=decide_eq_false c2
 by_cases c3:(m0:Int)<=P
 · rw [HBAD.out (fun hh=>by rw [<-hP] at hh;omega)]
   clear hP
   go_enter Tryz.func56,Tryz.ntmps56
   go_wp2_with fail
   go_quiet (fail)
   go_wp2
   go_ret2
   exact ⟨outP_none _ _,Below.on HB1.out (below_drewN _ _)⟩
 have c3':decide ((m0:Int)<=P)=false:=decide_eq_false c3
 obtain ⟨p,rfl⟩:∃ p:Nat,P=(p:Int):=⟨P.toNat,by omega⟩
 have c3'':decide (m0<=p)=false:=decide_eq_false (by omega)
 have hpm:p<m0:=by omega
 have HPT:Hid ((joinAt ps).toNat=p):=by rw [Hid,<-hP];simp
 have HJP:Hid (joinP ps xss=if (xss.drop 1).all (joinB p ds)=true then (ds.set p (joinS p xss),0) else ([],6)):=by
  unfold joinP
  rw [Hid,<-HDS.out,HPT.out]
  by_cases e:(xss.drop 1).all (joinB p ds)=true
  · rw [if_pos ⟨HPL.out,by omega,by omega,e⟩,if_pos e]
  · rw [if_neg (fun hh=>e hh.2.2.2),if_neg e]
 have HS1:Hid (ds.set p (joinS p (xss.take 1))=ds):=by
  have e:xss.take 1=[ds]:=by
   have:=take_snocL xss 0 (by rw [HN.out];omega)
   simpa [<-HDS.out] using this
  rw [Hid,e]
  have e2:joinS p [ds]=ds[p]?.getD 0:=by simp [joinS]
  rw [e2];exact set_same ds p
 have HSB:Hid (∀ m,0<=joinS p (xss.take m)/\joinS p (xss.take m)<=4096*1048576):=fun m=>by
  have h3:=joinS_bd p (xss.take m) (fun d hd=>(sizeE_ok (HZ.out d (List.mem_of_mem_take hd))).2.1)
  have h4:(xss.take m).length<=1048576:=by simp;have:=HN.out;omega
  omega
 have HPLD:Hid (p<ds.length):=by rw [Hid,HDL.out];exact hpm
 clear hP
 go_enter Tryz.func56,Tryz.ntmps56
 go_wp2_with fail
 go_cut [31] (fun t wc=>t=.bool false/\Below (w.heap.size+1) (w.alloc (.cells #[.int .i64 k,vd,.slice (some ⟨pb,pof,none⟩) 1 pc,vl,vh,vs,.int .i64 x] 38)) wc)
 case first =>
  go_quiet (fail)
  go_wp2
  go_meet
  exact ⟨rfl,below_drewN _ _⟩
 case rest =>
  obtain ⟨rfl,hW⟩:=hcut
  have hW':Below (w.alloc (.cells #[.int .i64 k,vd,.slice (some ⟨pb,pof,none⟩) 1 pc,vl,vh,vs,.int .i64 x] 38)).heap.size (w.alloc (.cells #[.int .i64 k,vd,.slice (some ⟨pb,pof,none⟩) 1 pc,vl,vh,vs,.int .i64 x] 38)) wc:=by simpa using hW
  have HB2:=hide (Below.on HB1.out hW')
  have HO2:=hide (HOP.out.below hW')
  clear hW hW' o0 o1 o2 o3 o4 o5 o6 q0 cp c2' c3' c3''
  have q0:(wc.alloc (.cells #[] 3)).cell? ⟨b,off,none⟩=some (.slice X0 m0 c0):=((HB2.out.alloc HB2.out.size _).cell (p:=⟨b,off,none⟩) (lt_of_cell HC0.out)).trans HC0.out
  have HA:=hide (HB2.out.alloc HB2.out.size (.cells #[] 3))
  have HX1:=hide (World.ownsRow_made (e:=3) (size:=1) wc #[] 0 (Nat.le_refl _) (Nat.zero_le _) rfl)
  by_cases cc:cap=1
  · subst cc
    obtain rfl:len=1:=by omega
    go_wp2_with (at_builtin;refine append_list (by rfl) (.tmp 32) (.tmp 35) (by rfl) wc.heap.size _ _ _ (by rfl) HX1.out _ _ _ ds (by rfl) (HL0.out.below HA.out) (by omega) (by simp) ?_;intro v1 w1 hown1 hg1;have hown2:w1.ownsRow wc.heap.size 3 1 v1 m0 (ds.map (Value.int .i64)):=by { simpa using hown1 };obtain ⟨g,c,rfl,hBg,hmc,hrow⟩:=own_split hown2 HDL.out (by omega);have HR:=hide hrow;have HBg:=hide hBg;have HB3:=hide (HA.out.grown hg1 HA.out.size (fun j e=>by { have:=(HX1.out.lt j e).1;have:=HB2.out.size;omega }));have HO3:Hid (OpAt w1 w.heap.size k vd (.slice (some ⟨pb,pof,none⟩) 1 pc) vl vh vs x):=((hg1.block w.heap.size (HO2.out.alloc _).lt (fun e=>by { have:=(HX1.out.lt _ e.symm).1;have:=HO2.out.lt;omega })).trans (HO2.out.alloc _));clear hown1 hown2 hg1 hrow hBg)
    go_loopw [40] (fun i wr=>i=.int .i64 0/\RowC wr g c m0 ds/\Below w.heap.size w wr) (fun _ _=>0)
    case atStart=>exact ⟨rfl,HR.out,HB3.out⟩
    case round =>
     obtain ⟨rfl,hr,hB⟩:=hrel
     clear HR HB3
     have HR:=hide hr
     have HB:=hide hB
     clear hr hB
     go_wp2
     go_ret2
     have e1:xss.take 1=xss:=List.take_of_length_le (by rw [HN.out];exact Nat.le_refl _)
     have e2:=HS1.out
     rw [e1] at e2
     have e3:(xss.drop 1).all (joinB p ds)=true:=by rw [List.drop_eq_nil_of_le (by rw [HN.out];exact Nat.le_refl _)];rfl
     rw [HJP.out,if_pos e3,e2]
     exact ⟨⟨_,_,_,rfl,HR.out.ints hmc HDL.out (by omega) HL0.out.1.2.2.1,hmc⟩,HB.out⟩
  · go_wp2_with (at_builtin;refine append_list (by rfl) (.tmp 32) (.tmp 35) (by rfl) wc.heap.size _ _ _ (by rfl) HX1.out _ _ _ ds (by rfl) (HL0.out.below HA.out) (by omega) (by simp) ?_;intro v1 w1 hown1 hg1;have hown2:w1.ownsRow wc.heap.size 3 1 v1 m0 (ds.map (Value.int .i64)):=by { simpa using hown1 };obtain ⟨g,c,rfl,hBg,hmc,hrow⟩:=own_split hown2 HDL.out (by omega);have HR:=hide hrow;have HBg:=hide hBg;have HB3:=hide (HA.out.grown hg1 HA.out.size (fun j e=>by { have:=(HX1.out.lt j e).1;have:=HB2.out.size;omega }));have HO3:Hid (OpAt w1 w.heap.size k vd (.slice (some ⟨pb,pof,none⟩) 1 pc) vl vh vs x):=((hg1.block w.heap.size (HO2.out.alloc _).lt (fun e=>by { have:=(HX1.out.lt _ e.symm).1;have:=HO2.out.lt;omega })).trans (HO2.out.alloc _));clear hown1 hown2 hg1 hrow hBg)
    go_loopw [40] (fun i wr=>∃ j:Nat,j<=len-1/\i=.int .i64 j/\(∀ t,t<j->joinB p ds (xss[t+1]?.getD [])=true)/\RowC wr g c m0 (ds.set p (joinS p (xss.take (j+1))))/\OpAt wr w.heap.size k vd (.slice (some ⟨pb,pof,none⟩) 1 pc) vl vh vs x/\Below w.heap.size w wr) (fun i _=>len-1-(intOf i).toNat)
    case atStart=>exact ⟨0,Nat.zero_le _,rfl,fun t ht=>by omega,by rw [HS1.out];exact HR.out,HO3.out,HB3.out⟩
    case round =>
     clear HR HB3 HO3
     obtain ⟨j,hj,rfl,hgood,hr,ho,hB⟩:=hrel
     have HG:=hide hgood
     have HR:=hide hr
     have HO:=hide ho
     have HB:=hide hB
     clear hr hB hgood ho
     by_cases hlt:j<len-1
     · obtain ⟨X,m,cX,hcj0,hlj⟩:=HC.out (j+1) (by omega)
       have hcj:wr.cell? ⟨b,off+1+j,none⟩=some (.slice X m cX):=by
        have e:off+1+j=off+(j+1):=by omega
        rw [e];exact (HB.out.cell (p:=⟨b,off+(j+1),none⟩) (lt_of_cell hcj0)).trans hcj0
       obtain ⟨d,hd⟩:∃ d,d=xss[j+1]?.getD []:=⟨_,rfl⟩
       rw [<-hd] at hlj
       have HDJ:=hide hd
       have HLJ:=hide hlj
       have hmemd:d∈xss:=by rw [hd];exact mem_getDL xss (j+1) (by rw [HN.out];omega)
       have hzd:=sizeE_ok (HZ.out d hmemd)
       have hmd:=hlj.1.1
       have HMD:=hide hmd
       have HZD:=hide hzd.2.1
       have HNO:Hid (joinB p ds d=false->joinP ps xss=([],6)):=fun hn=>by
        rw [HJP.out,if_neg]
        intro ha
        have:=(joinAll_iff _ _).1 ha j (by rw [HN.out];omega)
        rw [<-HDJ.out,hn] at this
        cases this
       have HSJ:=hide (HSB.out (j+1))
       obtain ⟨J,hJ⟩:∃ J,J=joinS p (xss.take (j+1)):=⟨_,rfl⟩
       rw [<-hJ] at HR HSJ
       have HJ:=hide hJ
       have i1:(0:Int)<=(j:Int):=Int.natCast_nonneg _
       have i2:(j:Int)<((len-1:Nat):Int):=by omega
       clear hcj0 hlj hmemd hd hJ
       by_cases c4:m=m0
       case neg =>
        have q:((m:Int) != (m0:Int))=true:=by simp;omega
        have HJF:Hid (joinB p ds d=false):=by
         unfold joinB
         rw [Hid,HDL.out,hmd]
         simp [c4]
        clear c4
        go_wp2
        go_ret2
        rw [HNO.out HJF.out]
        exact ⟨outP_none _ _,HB.out⟩
       subst c4
       obtain ⟨b1,off1,rfl,hb1,hc1⟩:=HLJ.out.1.at (by omega)
       have HC1:=hide hc1
       obtain ⟨D,hD⟩:∃ D,D=d[p]?.getD 0:=⟨_,rfl⟩
       have hDb:0<=D/\D<=4096:=by rw [hD];exact getD_bd HZD.out p
       have hJb:0<=J/\J<=4096*1048576:=HSJ.out
       have HDD:=hide hD
       have hm6:m<=6:=hm06
       clear hc1 hD
       go_wp2
       go_loopw [51] (fun i wq=>∃ t:Nat,t<=m/\i=.int .i64 t/\(∀ r,r<t->r≠p->d[r]?.getD 0=ds[r]?.getD 0)/\RowC wq g c m (ds.set p (if p<t then J+D else J))/\OpAt wq w.heap.size k vd (.slice (some ⟨pb,pof,none⟩) 1 pc) vl vh vs x/\Below w.heap.size w wq) (fun i _=>m-(intOf i).toNat)
       case atStart=>exact ⟨0,Nat.zero_le _,rfl,fun r hr=>by omega,by rw [if_neg (by omega)];exact HR.out,HO.out,HB.out⟩
       case round =>
        clear HR HO HB hcj
        obtain ⟨t,ht,rfl,hsm,hr,ho,hB⟩:=hrel
        have HSM:=hide hsm
        have HR:=hide hr
        have HO:=hide ho
        have HB:=hide hB
        clear hsm hr ho hB
        obtain ⟨o0,o1,o2,o3,o4,o5,o6⟩:=HO.out.cells
        have cp:wr.cell? ⟨pb,pof,none⟩=some (.int .i64 (p:Int)):=(HB.out.cell (p:=⟨pb,pof,none⟩) hpb).trans HCP.out
        have hgw:w.heap.size+1<=g:=by have:=HBg.out;have:=HO2.out.lt;omega
        by_cases hlt2:t<m
        · have cd:wr.cell? ⟨b1,off1+t,none⟩=some (.int .i64 (d[t]?.getD 0)):=(HB.out.cell (p:=⟨b1,off1+t,none⟩) hb1).trans (HC1.out t hlt2)
          have co:=HR.out.cell hmc hlt2
          have fo:=HR.out.frozen t
          have i3:(0:Int)<=(t:Int):=Int.natCast_nonneg _
          have i4:(t:Int)<(m:Int):=by omega
          by_cases e:t=p
          · subst e
            rw [if_neg (by omega),set_getD ds t t J HPLD.out,if_pos rfl] at co
            rw [<-HDD.out] at cd
            rw [if_neg (by omega)] at HR
            have qe:((t:Int) == (t:Int))=true:=by simp
            go_wp2_with fail
            go_region
            all_goals go_wp2
            all_goals go_roundw
            all_goals try (case measure=>simp [intOf];omega)
            all_goals
             have hrow:RowC ((wr.setCell ⟨g,t,none⟩ (.int .i64 (J+D))).drew) g c m (ds.set t (if t<t+1 then J+D else J)):=by
              have h3:=HR.out.set t (J+D) (by rw [List.length_set];exact HPLD.out)
              rw [List.set_set] at h3
              rw [if_pos (by omega)]
              exact h3
             have hr:∃ t':Nat,t'<=m/\Value.int .i64 ((t:Int)+1)=.int .i64 t'/\(∀ r,r<t'->r≠t->d[r]?.getD 0=ds[r]?.getD 0)/\RowC ((wr.setCell ⟨g,t,none⟩ (.int .i64 (J+D))).drew) g c m (ds.set t (if t<t' then J+D else J))/\OpAt ((wr.setCell ⟨g,t,none⟩ (.int .i64 (J+D))).drew) w.heap.size k vd (.slice (some ⟨pb,pof,none⟩) 1 pc) vl vh vs x/\Below w.heap.size w ((wr.setCell ⟨g,t,none⟩ (.int .i64 (J+D))).drew) :=
              ⟨t+1,by omega,by go_num,fun r h1 h2=>HSM.out r (by omega) h2,hrow,HO.out.set (p:=⟨g,t,none⟩) (by simp;omega) _,(HB.out.setCell (p:=⟨g,t,none⟩) (by simp;omega) _).drew⟩
             first
              | exact hr
              | (repeat apply Exists.intro
                 exact ⟨hr,rfl⟩)
          · rw [set_getD ds p t _ HPLD.out,if_neg e] at co
            have qe:((t:Int) == (p:Int))=false:=by simp;omega
            have HCOND:Hid ((if p<t+1 then J+D else J)=(if p<t then J+D else J)):=by
             by_cases h1:p<t
             · rw [Hid,if_pos h1,if_pos (by omega)]
             · rw [Hid,if_neg h1,if_neg (by omega)]
            have HTP:=hide e
            clear e
            by_cases q2:d[t]?.getD 0=ds[t]?.getD 0
            · have HQ2:=hide q2
              rw [q2] at cd
              obtain ⟨Y,hY⟩:∃ Y,Y=ds[t]?.getD 0:=⟨_,rfl⟩
              rw [<-hY] at cd co
              have q3:(Y != Y)=false:=by simp
              clear q2 hY
              go_wp2_with fail
              go_quiet (fail)
              go_wp2
              go_roundw
              all_goals try (case measure=>simp [intOf];omega)
              all_goals
               have hr:∃ t':Nat,t'<=m/\Value.int .i64 ((t:Int)+1)=.int .i64 t'/\(∀ r,r<t'->r≠p->d[r]?.getD 0=ds[r]?.getD 0)/\RowC (wr.drewN nq) g c m (ds.set p (if p<t' then J+D else J))/\OpAt (wr.drewN nq) w.heap.size k vd (.slice (some ⟨pb,pof,none⟩) 1 pc) vl vh vs x/\Below w.heap.size w (wr.drewN nq):=by
                refine ⟨t+1,by omega,by go_num,fun r h1 h2=>?_,?_,HO.out.below (below_drewN _ _),Below.on HB.out (below_drewN _ _)⟩
                · by_cases h3:r=t
                  · rw [h3];exact HQ2.out
                  · exact HSM.out r (by omega) h2
                · rw [HCOND.out];exact HR.out.below (below_drewN _ _)
               first
                | exact hr
                | (repeat apply Exists.intro
                   exact ⟨hr,rfl⟩)
            · have HJF:Hid (joinB p ds d=false):=by
               rw [Hid,<-Bool.not_eq_true,joinB_iff]
               rintro ⟨_,h2⟩
               exact q2 (h2 t (by have:=HDL.out;omega) HTP.out)
              obtain ⟨Y,hY⟩:∃ Y,Y=d[t]?.getD 0:=⟨_,rfl⟩
              obtain ⟨Z,hZ⟩:∃ Z,Z=ds[t]?.getD 0:=⟨_,rfl⟩
              rw [<-hY] at cd q2
              rw [<-hZ] at co q2
              have q3:(Y != Z)=true:=by simp [q2]
              clear q2 hY hZ
              go_wp2_with fail
              go_quiet (fail)
              go_wp2
              go_ret2
              rw [HNO.out HJF.out]
              exact ⟨outP_none _ _,Below.on HB.out (below_drewN _ _)⟩
        · obtain rfl:t=m:=by omega
          have HJT:Hid (joinB p ds d=true):=joinB_iff.2 ⟨by rw [HMD.out,HDL.out],fun q h1 h2=>HSM.out q (by have:=HDL.out;omega) h2⟩
          go_wp2
          go_roundw
          case rel =>
           have hsum:joinS p (xss.take (j+1+1))=J+D:=by
            rw [take_snocL xss (j+1) (by rw [HN.out];omega),joinS_snoc,<-HJ.out,<-HDJ.out,<-HDD.out]
           have h3:=HR.out
           rw [if_pos (by omega),<-hsum] at h3
           refine ⟨j+1,by omega,by go_num,fun r hr=>?_,h3,HO.out,HB.out⟩
           by_cases e:r=j
           · rw [e,<-HDJ.out];exact HJT.out
           · exact HG.out r (by omega)
          case measure=>simp [intOf];omega
     · obtain rfl:j=len-1:=by omega
       go_wp2
       go_ret2
       have e1:len-1+1=len:=by omega
       have e2:=HR.out
       rw [e1,List.take_of_length_le (by rw [HN.out];exact Nat.le_refl _)] at e2
       have e3:(xss.drop 1).all (joinB p ds)=true:=(joinAll_iff _ _).2 (fun t ht=>HG.out t (by rw [HN.out] at ht;omega))
       have e4:=HSB.out len
       rw [List.take_of_length_le (by rw [HN.out];exact Nat.le_refl _)] at e4
       rw [HJP.out,if_pos e3]
       exact ⟨⟨_,_,_,rfl,e2.ints hmc (by rw [List.length_set];exact HDL.out) (by omega) (set_bd HL0.out.1.2.2.1 (by omega)),hmc⟩,HB.out⟩
theorem shape_same (k x:Int) (ea:Option Addr) (el ec:Nat) (es:List Int) (pa:Option Addr) (pl pc:Nat) (ps:List Int) (la:Option Addr) (ll lc:Nat) (lo:List Int) (ha:Option Addr) (hl hc:Nat) (hi:List Int) (ta:Option Addr) (tl tc:Nat) (st:List Int) (A:Option Addr) (len cap:Nat) (xss:List (List Int)) (w:World)
 (he:Lst w ea el ec es) (hp:Lst w pa pl pc ps) (hlo:Lst w la ll lc lo) (hhi:Lst w ha hl hc hi) (hst:Lst w ta tl tc st) (h:Lsts w A len xss) (hcap:len<=cap) (hz:∀ d∈xss,sizeE d=0) (hk:3<=k/\k<=8) (hn:1<=len) (hlen:len<=1048576) (b0:el<=1048576) (b1:pl<=1048576) (b2:ll<=1048576) (b3:hl<=1048576) (b4:tl<=1048576) :
 Calls Tryz.prog 43 #[.agg #[.int .i64 k,.slice ea el ec,.slice pa pl pc,.slice la ll lc,.slice ha hl hc,.slice ta tl tc,.int .i64 x],.slice A len cap] w fun e w'=>OutP e w' (sameP xss)/\Below w.heap.size w w':=by
 have zz:=And.intro hcap (And.intro hlen (And.intro hn (And.intro b0 (And.intro b1 (And.intro b2 (And.intro b3 b4))))))
 clear zz
 have HE:=hide he
 have HP:=hide hp
 have HLO:=hide hlo
 have HHI:=hide hhi
 have HST:=hide hst
 have H:=hide h
 have HN:=hide h.1
 have HZ:=hide hz
 have HB1:=hide ((Below.refl w.heap.size w).alloc (Nat.le_refl _) (.cells #[.int .i64 k,.slice ea el ec,.slice pa pl pc,.slice la ll lc,.slice ha hl hc,.slice ta tl tc,.int .i64 x] 38))
 have HOP:=hide (OpAt.new w k (.slice ea el ec) (.slice pa pl pc) (.slice la ll lc) (.slice ha hl hc) (.slice ta tl tc) x)
 obtain ⟨o0,o1,o2,o3,o4,o5,o6⟩:=HOP.out.cells
 obtain ⟨b,off,rfl,hc⟩:=h.at (by omega)
 obtain ⟨X0,m0,c0,hc0,hl0⟩:=hc 0 (by omega)
 have hc0':w.cell? ⟨b,off,none⟩=some (.slice X0 m0 c0):=hc0
 obtain ⟨ds,hds⟩:∃ ds,ds=xss[0]?.getD []:=⟨_,rfl⟩
 rw [<-hds] at hl0
 have HL0:=hide hl0
 have HC0:=hide hc0'
 have hzd:sizeE ds=0:=by rw [hds];exact hz _ (mem_getDL xss 0 (by rw [h.1];omega))
 have HZD:=hide hzd
 have h06:m0<=6:=by have:=(sizeE_ok hzd).1;have:=hl0.1.1;omega
 have HD1:=hide (HL0.out.below HB1.out)
 have q0:=(HB1.out.cell (p:=⟨b,off,none⟩) (lt_of_cell hc0')).trans hc0'
 have i0:(0:Int)<(len:Int):=by omega
 clear h he hp hlo hhi hst hz hc0 hc0' hl0 hzd
 have H6:Hid ((xss[0]?.getD []).length<=6):=by rw [Hid,<-hds];exact (sizeE_ok HZD.out).1
 have hk':k=3\/k=4\/k=5\/k=6\/k=7\/k=8:=by omega
 clear hk
 clear hc hds
 rcases hk' with rfl | rfl | rfl | rfl | rfl | rfl
 all_goals go_enter Tryz.func43,Tryz.ntmps43
 all_goals go_wp2_with (go_at_call 67;refine (sameDims_any _ _ _ xss _ (H.out.below HB1.out) hn H6.out).mono ?_;rintro e w1 ⟨⟨Z,nz,cz,rfl,hi1,hnc⟩,hb⟩;have HI1:=hide hi1;have HB2:=hide (Below.on HB1.out hb);clear hi1 hb)
 all_goals go_ret2
 all_goals exact ⟨⟨_,_,_,rfl,HI1.out,hnc⟩,HB2.out⟩
theorem ruled_same (k x:Int) (ea:Option Addr) (el ec:Nat) (es:List Int) (pa:Option Addr) (pl pc:Nat) (ps:List Int) (la:Option Addr) (ll lc:Nat) (lo:List Int) (ha:Option Addr) (hl hc:Nat) (hi:List Int) (ta:Option Addr) (tl tc:Nat) (st:List Int) (A:Option Addr) (len cap:Nat) (xss:List (List Int)) (w:World)
 (he:Lst w ea el ec es) (hp:Lst w pa pl pc ps) (hlo:Lst w la ll lc lo) (hhi:Lst w ha hl hc hi) (hst:Lst w ta tl tc st) (h:Lsts w A len xss) (hcap:len<=cap) (hz:∀ d∈xss,sizeE d=0) (hk:3<=k/\k<=8) (hn:1<=len) (hlen:len<=1048576) (b0:el<=1048576) (b1:pl<=1048576) (b2:ll<=1048576) (b3:hl<=1048576) (b4:tl<=1048576) :
 Calls Tryz.prog 41 #[.agg #[.int .i64 k,.slice ea el ec,.slice pa pl pc,.slice la ll lc,.slice ha hl hc,.slice ta tl tc,.int .i64 x],.slice A len cap] w fun e w'=>OutP e w' (sameP xss)/\Below w.heap.size w w':=by
 have zz:=And.intro hcap (And.intro hlen (And.intro hn (And.intro b0 (And.intro b1 (And.intro b2 (And.intro b3 b4))))))
 clear zz
 have HE:=hide he
 have HP:=hide hp
 have HLO:=hide hlo
 have HHI:=hide hhi
 have HST:=hide hst
 have H:=hide h
 have HN:=hide h.1
 have HZ:=hide hz
 have HB1:=hide ((Below.refl w.heap.size w).alloc (Nat.le_refl _) (.cells #[.int .i64 k,.slice ea el ec,.slice pa pl pc,.slice la ll lc,.slice ha hl hc,.slice ta tl tc,.int .i64 x] 38))
 have HOP:=hide (OpAt.new w k (.slice ea el ec) (.slice pa pl pc) (.slice la ll lc) (.slice ha hl hc) (.slice ta tl tc) x)
 obtain ⟨o0,o1,o2,o3,o4,o5,o6⟩:=HOP.out.cells
 obtain ⟨b,off,rfl,hc⟩:=h.at (by omega)
 obtain ⟨X0,m0,c0,hc0,hl0⟩:=hc 0 (by omega)
 have hc0':w.cell? ⟨b,off,none⟩=some (.slice X0 m0 c0):=hc0
 obtain ⟨ds,hds⟩:∃ ds,ds=xss[0]?.getD []:=⟨_,rfl⟩
 rw [<-hds] at hl0
 have HL0:=hide hl0
 have HC0:=hide hc0'
 have hzd:sizeE ds=0:=by rw [hds];exact hz _ (mem_getDL xss 0 (by rw [h.1];omega))
 have HZD:=hide hzd
 have h06:m0<=6:=by have:=(sizeE_ok hzd).1;have:=hl0.1.1;omega
 have HD1:=hide (HL0.out.below HB1.out)
 have q0:=(HB1.out.cell (p:=⟨b,off,none⟩) (lt_of_cell hc0')).trans hc0'
 have i0:(0:Int)<(len:Int):=by omega
 clear h he hp hlo hhi hst hz hc0 hc0' hl0 hzd
 have HC:=hide hc
 have HDS:=hide hds
 have hk':k=3\/k=4\/k=5\/k=6\/k=7\/k=8:=by omega
 clear hk
 clear hc hds
 rcases hk' with rfl | rfl | rfl | rfl | rfl | rfl
 all_goals go_enter Tryz.func41,Tryz.ntmps41
 all_goals go_wp2
 all_goals go_loopw [27] (fun i wr=>∃ j:Nat,j<=len/\i=.int .i64 j/\(∀ t,t<j->xss[t]?.getD []=xss[0]?.getD [])/\Below w.heap.size w wr) (fun i _=>len-(intOf i).toNat)
 all_goals try (case atStart=>exact ⟨0,Nat.zero_le _,rfl,fun j hj=>by omega,HB1.out⟩)
 all_goals
  obtain ⟨j,hj,rfl,hsame,hB⟩:=hrel
  have HS:=hide hsame
  have HB:=hide hB
  clear hsame hB q0
  have k0:wr.cell? ⟨b,off,none⟩=some (.slice X0 m0 c0):=(HB.out.cell (p:=⟨b,off,none⟩) (lt_of_cell HC0.out)).trans HC0.out
  by_cases hlt:j<len
  · obtain ⟨X,m,c,hcj0,hlj⟩:=HC.out j hlt
    have hcj:wr.cell? ⟨b,off+j,none⟩=some (.slice X m c):=(HB.out.cell (p:=⟨b,off+j,none⟩) (lt_of_cell hcj0)).trans hcj0
    have HLJ:=hide hlj
    clear hlj hcj0
    by_cases q:xss[j]?.getD []=ds
    · have Q:Hid (decide (xss[j]?.getD []=ds)=true):=decide_eq_true q
      have Q':=hide q
      clear q
      go_wp2_with (go_at_call 14;refine (sameList_any _ _ _ (xss[j]?.getD []) _ _ _ ds _ (HLJ.out.1.below HB.out) (HL0.out.1.below HB.out)).mono ?_;rintro e w1 ⟨rfl,n1,hw1⟩;rw [Q.out];have HB2:=hide (Below.on HB.out (hw1 ▸ below_drewN _ n1));clear hw1)
      go_roundw
      case rel =>
       refine ⟨j+1,by omega,by go_num,fun t ht=>?_,HB2.out⟩
       by_cases e:t=j
       · rw [e,<-HDS.out];exact Q'.out
       · exact HS.out t (by omega)
      case measure=>simp [intOf];omega
    · have Q:Hid (decide (xss[j]?.getD []=ds)=false):=decide_eq_false q
      have Q':=hide q
      clear q
      go_wp2_with (go_at_call 14;refine (sameList_any _ _ _ (xss[j]?.getD []) _ _ _ ds _ (HLJ.out.1.below HB.out) (HL0.out.1.below HB.out)).mono ?_;rintro e w1 ⟨rfl,n1,hw1⟩;rw [Q.out];have HB2:=hide (Below.on HB.out (hw1 ▸ below_drewN _ n1));clear hw1)
      go_ret2
      have hp:sameP xss=([],6):=by
       unfold sameP
       rw [if_neg]
       intro hs
       exact Q'.out (((sameB_iff xss).1 hs j (by rw [HN.out];exact hlt)).trans HDS.out.symm)
      rw [hp]
      exact ⟨outP_none _ _,HB2.out⟩
  · obtain rfl:j=len:=by omega
    go_wp2
    go_ret2
    have hp:sameP xss=(ds,0):=by
     unfold sameP
     rw [if_pos,<-HDS.out]
     exact (sameB_iff xss).2 (fun t ht=>HS.out t (by rw [HN.out] at ht;exact ht))
    rw [hp]
    exact ⟨outP_lst (HL0.out.below HB.out) 0,HB.out⟩
end Go.Proofs.YtakpedjhgdkhkaaGreatDoor.V
