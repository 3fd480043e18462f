/-
  
-/
import Derived.Test.YtakpedjhgdkhkaaGreatDoorK27
import Derived.Test.YtakpedjhgdkhkaaGreatDoorK28
import Derived.Test.YtakpedjhgdkhkaaGreatDoorK30
import Derived.Test.YtakpedjhgdkhkaaGreatDoorK31
namespace Go.Proofs.YtakpedjhgdkhkaaGreatDoor.V
set_option maxRecDepth 100000
set_option maxHeartbeats 8000000
open Go.RowKit
theorem shape_14 (x:Int) (ea:Option Addr) (el ec:Nat) (es:List Int) (pa:Option Addr) (pl pc:Nat) (ps:List Int) (la:Option Addr) (ll lc:Nat) (lo:List Int) (ha:Option Addr) (hl hc:Nat) (hi:List Int) (ta:Option Addr) (tl tc:Nat) (st:List Int) (A:Option Addr) (len cap:Nat) (xss:List (List Int)) (w:World)
 (he:Lst w ea el ec es) (hp:Lst w pa pl pc ps) (hlo:Lst w la ll lc lo) (hhi:Lst w ha hl hc hi) (hst:Lst w ta tl tc st) (h:Lsts w A len xss) (hcap:len<=cap) (hz:∀ d∈xss,sizeE d=0) (hn:len=1) (hlen:len<=1048576) (b0:el<=1048576) (b1:pl<=1048576) (b2:ll<=1048576) (b3:hl<=1048576) (b4:tl<=1048576) :
 Calls Tryz.prog 43 #[.agg #[.int .i64 14,.slice ea el ec,.slice pa pl pc,.slice la ll lc,.slice ha hl hc,.slice ta tl tc,.int .i64 x],.slice A len cap] w fun e w'=>OutP e w' (padP (xss[0]?.getD []) lo hi st)/\Below w.heap.size w w':=by
 have zz:=And.intro hcap (And.intro hlen (And.intro hn (And.intro b0 (And.intro b1 (And.intro b2 (And.intro b3 b4))))))
 clear zz
 have HE:=hide he
 have HP:=hide hp
 have HLO:=hide hlo
 have HHI:=hide hhi
 have HST:=hide hst
 have H:=hide h
 have HN:=hide h.1
 have HZ:=hide hz
 have HB1:=hide ((Below.refl w.heap.size w).alloc (Nat.le_refl _) (.cells #[.int .i64 14,.slice ea el ec,.slice pa pl pc,.slice la ll lc,.slice ha hl hc,.slice ta tl tc,.int .i64 x] 38))
 have HOP:=hide (OpAt.new w 14 (.slice ea el ec) (.slice pa pl pc) (.slice la ll lc) (.slice ha hl hc) (.slice ta tl tc) x)
 obtain ⟨o0,o1,o2,o3,o4,o5,o6⟩:=HOP.out.cells
 obtain ⟨b,off,rfl,hc⟩:=h.at (by omega)
 obtain ⟨X0,m0,c0,hc0,hl0⟩:=hc 0 (by omega)
 have hc0':w.cell? ⟨b,off,none⟩=some (.slice X0 m0 c0):=hc0
 obtain ⟨ds,hds⟩:∃ ds,ds=xss[0]?.getD []:=⟨_,rfl⟩
 rw [<-hds] at hl0 ⊢
 have HL0:=hide hl0
 have HC0:=hide hc0'
 have hzd:sizeE ds=0:=by rw [hds];exact hz _ (mem_getDL xss 0 (by rw [h.1];omega))
 have HZD:=hide hzd
 have h06:m0<=6:=by have:=(sizeE_ok hzd).1;have:=hl0.1.1;omega
 have HD1:=hide (HL0.out.below HB1.out)
 have q0:=(HB1.out.cell (p:=⟨b,off,none⟩) (lt_of_cell hc0')).trans hc0'
 have i0:(0:Int)<(len:Int):=by omega
 clear h he hp hlo hhi hst hz hc hc0 hc0' hl0 hds hzd
 go_enter Tryz.func43,Tryz.ntmps43
 go_wp2_with fail
 go_region_with (go_at_call 62;refine (padDims_any _ _ _ _ _ _ _ lo _ _ _ hi _ _ _ st _ _ _ ds _ (HLO.out.below (HB1.out.drew)).1 (HHI.out.below (HB1.out.drew)).1 (HST.out.below (HB1.out.drew)).1 (HL0.out.below (HB1.out.drew)).1 HZD.out).mono ?_;rintro e w1 ⟨⟨Z,nz,cz,rfl,hi1,hnc⟩,hb⟩;have HI1:=hide hi1;have HB2:=hide (Below.on (HB1.out.drew) hb);clear hi1 hb)
 all_goals go_wp2
 all_goals go_ret2
 all_goals exact ⟨⟨_,_,_,rfl,HI1.out,hnc⟩,HB2.out⟩
theorem shape_15 (x:Int) (ea:Option Addr) (el ec:Nat) (es:List Int) (pa:Option Addr) (pl pc:Nat) (ps:List Int) (la:Option Addr) (ll lc:Nat) (lo:List Int) (ha:Option Addr) (hl hc:Nat) (hi:List Int) (ta:Option Addr) (tl tc:Nat) (st:List Int) (A:Option Addr) (len cap:Nat) (xss:List (List Int)) (w:World)
 (he:Lst w ea el ec es) (hp:Lst w pa pl pc ps) (hlo:Lst w la ll lc lo) (hhi:Lst w ha hl hc hi) (hst:Lst w ta tl tc st) (h:Lsts w A len xss) (hcap:len<=cap) (hz:∀ d∈xss,sizeE d=0) (hn:len=1) (hlen:len<=1048576) (b0:el<=1048576) (b1:pl<=1048576) (b2:ll<=1048576) (b3:hl<=1048576) (b4:tl<=1048576) :
 Calls Tryz.prog 43 #[.agg #[.int .i64 15,.slice ea el ec,.slice pa pl pc,.slice la ll lc,.slice ha hl hc,.slice ta tl tc,.int .i64 x],.slice A len cap] w fun e w'=>OutP e w' ((okL (flipE 0 (xss[0]?.getD []) (stepsV (xss[0]?.getD [])) ps) (xss[0]?.getD []),flipE 0 (xss[0]?.getD []) (stepsV (xss[0]?.getD [])) ps))/\Below w.heap.size w w':=by
 have zz:=And.intro hcap (And.intro hlen (And.intro hn (And.intro b0 (And.intro b1 (And.intro b2 (And.intro b3 b4))))))
 clear zz
 have HE:=hide he
 have HP:=hide hp
 have HLO:=hide hlo
 have HHI:=hide hhi
 have HST:=hide hst
 have H:=hide h
 have HN:=hide h.1
 have HZ:=hide hz
 have HB1:=hide ((Below.refl w.heap.size w).alloc (Nat.le_refl _) (.cells #[.int .i64 15,.slice ea el ec,.slice pa pl pc,.slice la ll lc,.slice ha hl hc,.slice ta tl tc,.int .i64 x] 38))
 have HOP:=hide (OpAt.new w 15 (.slice ea el ec) (.slice pa pl pc) (.slice la ll lc) (.slice ha hl hc) (.slice ta tl tc) x)
 obtain ⟨o0,o1,o2,o3,o4,o5,o6⟩:=HOP.out.cells
 obtain ⟨b,off,rfl,hc⟩:=h.at (by omega)
 obtain ⟨X0,m0,c0,hc0,hl0⟩:=hc 0 (by omega)
 have hc0':w.cell? ⟨b,off,none⟩=some (.slice X0 m0 c0):=hc0
 obtain ⟨ds,hds⟩:∃ ds,ds=xss[0]?.getD []:=⟨_,rfl⟩
 rw [<-hds] at hl0 ⊢
 have HL0:=hide hl0
 have HC0:=hide hc0'
 have hzd:sizeE ds=0:=by rw [hds];exact hz _ (mem_getDL xss 0 (by rw [h.1];omega))
 have HZD:=hide hzd
 have h06:m0<=6:=by have:=(sizeE_ok hzd).1;have:=hl0.1.1;omega
 have HD1:=hide (HL0.out.below HB1.out)
 have q0:=(HB1.out.cell (p:=⟨b,off,none⟩) (lt_of_cell hc0')).trans hc0'
 have i0:(0:Int)<(len:Int):=by omega
 have q0b:=((HB1.out.alloc HB1.out.size (.cells #[.int .i64 0,.slice none 0 0,.slice none 0 0] 79)).cell (p:=⟨b,off,none⟩) (lt_of_cell hc0')).trans hc0'
 obtain ⟨p0,p1,p2,p3,p4,p5,p6⟩:=(HOP.out.alloc (.cells #[.int .i64 0,.slice none 0 0,.slice none 0 0] 79)).cells
 clear h he hp hlo hhi hst hz hc hc0 hc0' hl0 hds hzd
 go_enter Tryz.func43,Tryz.ntmps43
 go_wp2_with fail
 go_region_with (first | (go_at_call 59;refine (seen_flip 15 x _ _ _ ds _ _ _ es _ _ _ ps _ _ _ lo _ _ _ hi _ _ _ st _ (HL0.out.below (HB1.out.drew)).1 (HE.out.below (HB1.out.drew)).1 (HP.out.below (HB1.out.drew)).1 (HLO.out.below (HB1.out.drew)).1 (HHI.out.below (HB1.out.drew)).1 (HST.out.below (HB1.out.drew)).1 HZD.out (by decide)).mono ?_;rintro e w1 ⟨⟨da1,dl1,dc1,sa1,sl1,sc1,rfl,hi1,_,hc1,_,hF⟩,hb⟩;have HI1:=hide hi1;have HB2:=hide (Below.on (HB1.out.drew) hb); clear hi1 hb hF) | (go_at_call 59;refine (seen_flip 15 x _ _ _ ds _ _ _ es _ _ _ ps _ _ _ lo _ _ _ hi _ _ _ st _ (HL0.out.below ((HB1.out.alloc HB1.out.size (.cells #[.int .i64 0,.slice none 0 0,.slice none 0 0] 79)).drew)).1 (HE.out.below ((HB1.out.alloc HB1.out.size (.cells #[.int .i64 0,.slice none 0 0,.slice none 0 0] 79)).drew)).1 (HP.out.below ((HB1.out.alloc HB1.out.size (.cells #[.int .i64 0,.slice none 0 0,.slice none 0 0] 79)).drew)).1 (HLO.out.below ((HB1.out.alloc HB1.out.size (.cells #[.int .i64 0,.slice none 0 0,.slice none 0 0] 79)).drew)).1 (HHI.out.below ((HB1.out.alloc HB1.out.size (.cells #[.int .i64 0,.slice none 0 0,.slice none 0 0] 79)).drew)).1 (HST.out.below ((HB1.out.alloc HB1.out.size (.cells #[.int .i64 0,.slice none 0 0,.slice none 0 0] 79)).drew)).1 HZD.out (by decide)).mono ?_;rintro e w1 ⟨⟨da1,dl1,dc1,sa1,sl1,sc1,rfl,hi1,_,hc1,_,hF⟩,hb⟩;have HI1:=hide hi1;have HB2:=hide (Below.on ((HB1.out.alloc HB1.out.size (.cells #[.int .i64 0,.slice none 0 0,.slice none 0 0] 79)).drew) hb);have HF1:Hid (Far (w.heap.size+2) da1):=(far_mono hF (by { simp }));have hv0:=(ViewAt.new (w.alloc (.cells #[.int .i64 15,.slice ea el ec,.slice pa pl pc,.slice la ll lc,.slice ha hl hc,.slice ta tl tc,.int .i64 x] 38)) (.int .i64 0) (.slice none 0 0) (.slice none 0 0)).below (Below.on ((Below.refl _ _).drew) hb);simp only [World.size_alloc] at hv0;obtain ⟨⟨u0,u1,u2⟩,f0,f1,f2⟩:=hv0.cells;clear hv0;clear hi1 hb hF))
 all_goals go_wp2
 all_goals go_ret2
 all_goals first | exact ⟨⟨_,_,_,rfl,HI1.out.below ((Below.refl _ _).alloc (Nat.le_refl _) _),hc1⟩,HB2.out.alloc HB2.out.size _⟩ | exact ⟨⟨_,_,_,rfl,ints_putF HI1.out HF1.out (by omega),hc1⟩,below_put HB2.out (by omega)⟩
theorem shape_16 (x:Int) (ea:Option Addr) (el ec:Nat) (es:List Int) (pa:Option Addr) (pl pc:Nat) (ps:List Int) (la:Option Addr) (ll lc:Nat) (lo:List Int) (ha:Option Addr) (hl hc:Nat) (hi:List Int) (ta:Option Addr) (tl tc:Nat) (st:List Int) (A:Option Addr) (len cap:Nat) (xss:List (List Int)) (w:World)
 (he:Lst w ea el ec es) (hp:Lst w pa pl pc ps) (hlo:Lst w la ll lc lo) (hhi:Lst w ha hl hc hi) (hst:Lst w ta tl tc st) (h:Lsts w A len xss) (hcap:len<=cap) (hz:∀ d∈xss,sizeE d=0) (hn:len=2) (hlen:len<=1048576) (b0:el<=1048576) (b1:pl<=1048576) (b2:ll<=1048576) (b3:hl<=1048576) (b4:tl<=1048576) :
 Calls Tryz.prog 43 #[.agg #[.int .i64 16,.slice ea el ec,.slice pa pl pc,.slice la ll lc,.slice ha hl hc,.slice ta tl tc,.int .i64 x],.slice A len cap] w fun e w'=>OutP e w' (dotP ps st lo hi (xss[0]?.getD []) (xss[1]?.getD []))/\Below w.heap.size w w':=by
 have zz:=And.intro hcap (And.intro hlen (And.intro hn (And.intro b0 (And.intro b1 (And.intro b2 (And.intro b3 b4))))))
 clear zz
 have HE:=hide he
 have HP:=hide hp
 have HLO:=hide hlo
 have HHI:=hide hhi
 have HST:=hide hst
 have H:=hide h
 have HN:=hide h.1
 have HZ:=hide hz
 have HB1:=hide ((Below.refl w.heap.size w).alloc (Nat.le_refl _) (.cells #[.int .i64 16,.slice ea el ec,.slice pa pl pc,.slice la ll lc,.slice ha hl hc,.slice ta tl tc,.int .i64 x] 38))
 have HOP:=hide (OpAt.new w 16 (.slice ea el ec) (.slice pa pl pc) (.slice la ll lc) (.slice ha hl hc) (.slice ta tl tc) x)
 obtain ⟨o0,o1,o2,o3,o4,o5,o6⟩:=HOP.out.cells
 obtain ⟨b,off,rfl,hc⟩:=h.at (by omega)
 obtain ⟨X0,m0,c0,hc0,hl0⟩:=hc 0 (by omega)
 have hc0':w.cell? ⟨b,off,none⟩=some (.slice X0 m0 c0):=hc0
 obtain ⟨ds,hds⟩:∃ ds,ds=xss[0]?.getD []:=⟨_,rfl⟩
 rw [<-hds] at hl0 ⊢
 have HL0:=hide hl0
 have HC0:=hide hc0'
 have hzd:sizeE ds=0:=by rw [hds];exact hz _ (mem_getDL xss 0 (by rw [h.1];omega))
 have HZD:=hide hzd
 have h06:m0<=6:=by have:=(sizeE_ok hzd).1;have:=hl0.1.1;omega
 have HD1:=hide (HL0.out.below HB1.out)
 have q0:=(HB1.out.cell (p:=⟨b,off,none⟩) (lt_of_cell hc0')).trans hc0'
 have i0:(0:Int)<(len:Int):=by omega
 obtain ⟨X1,m1,c1,hc1,hl1⟩:=hc 1 (by omega)
 obtain ⟨ds1,hds1⟩:∃ ds1,ds1=xss[1]?.getD []:=⟨_,rfl⟩
 rw [<-hds1] at hl1 ⊢
 have HL1:=hide hl1
 have hzd1:sizeE ds1=0:=by rw [hds1];exact hz _ (mem_getDL xss 1 (by rw [h.1];omega))
 have h16:m1<=6:=by have:=(sizeE_ok hzd1).1;have:=hl1.1.1;omega
 have q1:=(HB1.out.cell (p:=⟨b,off+1,none⟩) (lt_of_cell hc1)).trans hc1
 have i1:(1:Int)<(len:Int):=by omega
 clear h he hp hlo hhi hst hz hc hc0 hc0' hl0 hds hzd hc1 hl1 hds1 hzd1
 go_enter Tryz.func43,Tryz.ntmps43
 go_wp2_with fail
 go_region_with (go_at_call 63;refine (dotDims_any _ _ _ _ _ _ ps _ _ _ lo _ _ _ hi _ _ _ st _ _ _ ds _ _ _ ds1 _ (HP.out.below (HB1.out.drew)) (HLO.out.below (HB1.out.drew)) (HHI.out.below (HB1.out.drew)) (HST.out.below (HB1.out.drew)) (HL0.out.below (HB1.out.drew)).1 (HL1.out.below (HB1.out.drew)).1 h06 h16).mono ?_;rintro e w1 ⟨⟨Z,nz,cz,rfl,hi1,hnc⟩,hb⟩;have HI1:=hide hi1;have HB2:=hide (Below.on (HB1.out.drew) hb);clear hi1 hb)
 all_goals go_wp2
 all_goals go_ret2
 all_goals exact ⟨⟨_,_,_,rfl,HI1.out,hnc⟩,HB2.out⟩
end Go.Proofs.YtakpedjhgdkhkaaGreatDoor.V
