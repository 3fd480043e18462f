import Derived.Test.YtdbkgeehjfnhbaaGreatDoorK33
import Derived.Test.YtdbkgeehjfnhbaaGreatDoorK27
import Derived.Test.YtdbkgeehjfnhbaaGreatDoorK28
import Derived.Test.YtdbkgeehjfnhbaaGreatDoorK31
import Derived.Test.YtdbkgeehjfnhbaaGreatDoorK34
namespace Go.Proofs.YtdbkgeehjfnhbaaGreatDoor.V
set_option maxRecDepth 100000
set_option maxHeartbeats 8000000
open Go.RowKit
theorem ruled_2 (x:Int) (ea:Option Addr) (el ec:Nat) (es:List Int) (pa:Option Addr) (pl pc:Nat) (ps:List Int) (la:Option Addr) (ll lc:Nat) (lo:List Int) (ha:Option Addr) (hl hc:Nat) (hi:List Int) (ta:Option Addr) (tl tc:Nat) (st:List Int) (A:Option Addr) (len cap:Nat) (xss:List (List Int)) (w:World)
 (he:Lst w ea el ec es) (hp:Lst w pa pl pc ps) (hlo:Lst w la ll lc lo) (hhi:Lst w ha hl hc hi) (hst:Lst w ta tl tc st) (h:Lsts w A len xss) (hcap:len<=cap) (hz:∀ d∈xss,sizeE d=0) (hn:len=0) (hlen:len<=1048576) (b0:el<=1048576) (b1:pl<=1048576) (b2:ll<=1048576) (b3:hl<=1048576) (b4:tl<=1048576) :
 Calls Tryz.prog 42 #[.agg #[.int .i64 2,.slice ea el ec,.slice pa pl pc,.slice la ll lc,.slice ha hl hc,.slice ta tl tc,.int .i64 x],.slice A len cap] w fun e w'=>OutP e w' ((es,0))/\Below w.heap.size w w':=by
 have zz:=And.intro hcap (And.intro hlen (And.intro hn (And.intro b0 (And.intro b1 (And.intro b2 (And.intro b3 b4))))))
 clear zz
 have HE:=hide he
 have HP:=hide hp
 have HLO:=hide hlo
 have HHI:=hide hhi
 have HST:=hide hst
 have H:=hide h
 have HN:=hide h.1
 have HZ:=hide hz
 have HB1:=hide ((Below.refl w.heap.size w).alloc (Nat.le_refl _) (.cells #[.int .i64 2,.slice ea el ec,.slice pa pl pc,.slice la ll lc,.slice ha hl hc,.slice ta tl tc,.int .i64 x] 38))
 have HOP:=hide (OpAt.new w 2 (.slice ea el ec) (.slice pa pl pc) (.slice la ll lc) (.slice ha hl hc) (.slice ta tl tc) x)
 obtain ⟨o0,o1,o2,o3,o4,o5,o6⟩:=HOP.out.cells
 clear h he hp hlo hhi hst hz
 go_enter Tryz.func42,Tryz.ntmps42
 go_wp2
 go_ret2
 exact ⟨outP_lst (HE.out.below HB1.out) 0,HB1.out⟩
theorem ruled_9 (x:Int) (ea:Option Addr) (el ec:Nat) (es:List Int) (pa:Option Addr) (pl pc:Nat) (ps:List Int) (la:Option Addr) (ll lc:Nat) (lo:List Int) (ha:Option Addr) (hl hc:Nat) (hi:List Int) (ta:Option Addr) (tl tc:Nat) (st:List Int) (A:Option Addr) (len cap:Nat) (xss:List (List Int)) (w:World)
 (he:Lst w ea el ec es) (hp:Lst w pa pl pc ps) (hlo:Lst w la ll lc lo) (hhi:Lst w ha hl hc hi) (hst:Lst w ta tl tc st) (h:Lsts w A len xss) (hcap:len<=cap) (hz:∀ d∈xss,sizeE d=0) (hn:len=1) (hlen:len<=1048576) (b0:el<=1048576) (b1:pl<=1048576) (b2:ll<=1048576) (b3:hl<=1048576) (b4:tl<=1048576) :
 Calls Tryz.prog 42 #[.agg #[.int .i64 9,.slice ea el ec,.slice pa pl pc,.slice la ll lc,.slice ha hl hc,.slice ta tl tc,.int .i64 x],.slice A len cap] w fun e w'=>OutP e w' ((okL (sprE 0 (xss[0]?.getD []) (stepsV (xss[0]?.getD [])) es ps) es,sprE 0 (xss[0]?.getD []) (stepsV (xss[0]?.getD [])) es ps))/\Below w.heap.size w w':=by
 have zz:=And.intro hcap (And.intro hlen (And.intro hn (And.intro b0 (And.intro b1 (And.intro b2 (And.intro b3 b4))))))
 clear zz
 have HE:=hide he
 have HP:=hide hp
 have HLO:=hide hlo
 have HHI:=hide hhi
 have HST:=hide hst
 have H:=hide h
 have HN:=hide h.1
 have HZ:=hide hz
 have HB1:=hide ((Below.refl w.heap.size w).alloc (Nat.le_refl _) (.cells #[.int .i64 9,.slice ea el ec,.slice pa pl pc,.slice la ll lc,.slice ha hl hc,.slice ta tl tc,.int .i64 x] 38))
 have HOP:=hide (OpAt.new w 9 (.slice ea el ec) (.slice pa pl pc) (.slice la ll lc) (.slice ha hl hc) (.slice ta tl tc) x)
 obtain ⟨o0,o1,o2,o3,o4,o5,o6⟩:=HOP.out.cells
 obtain ⟨b,off,rfl,hc⟩:=h.at (by omega)
 obtain ⟨X0,m0,c0,hc0,hl0⟩:=hc 0 (by omega)
 have hc0':w.cell? ⟨b,off,none⟩=some (.slice X0 m0 c0):=hc0
 obtain ⟨ds,hds⟩:∃ ds,ds=xss[0]?.getD []:=⟨_,rfl⟩
 rw [<-hds] at hl0 ⊢
 have HL0:=hide hl0
 have HC0:=hide hc0'
 have hzd:sizeE ds=0:=by rw [hds];exact hz _ (mem_getDL xss 0 (by rw [h.1];omega))
 have HZD:=hide hzd
 have h06:m0<=6:=by have:=(sizeE_ok hzd).1;have:=hl0.1.1;omega
 have HD1:=hide (HL0.out.below HB1.out)
 have q0:=(HB1.out.cell (p:=⟨b,off,none⟩) (lt_of_cell hc0')).trans hc0'
 have i0:(0:Int)<(len:Int):=by omega
 clear h he hp hlo hhi hst hz hc hc0 hc0' hl0 hds hzd
 go_enter Tryz.func42,Tryz.ntmps42
 go_wp2_with fail
 go_region_with (go_at_call 59;refine (viewDims_spread 9 x _ _ _ ds _ _ _ es _ _ _ ps _ _ _ lo _ _ _ hi _ _ _ st _ (HL0.out.below (HB1.out.drew)).1 (HE.out.below (HB1.out.drew)).1 (HP.out.below (HB1.out.drew)).1 (HLO.out.below (HB1.out.drew)).1 (HHI.out.below (HB1.out.drew)).1 (HST.out.below (HB1.out.drew)).1 HZD.out HL0.out.2.1 HE.out.2.1 rfl).mono ?_;rintro e w1 ⟨⟨Z,nz,cz,rfl,hi1,hnc⟩,hb⟩;have HI1:=hide hi1;have HB2:=hide (Below.on (HB1.out.drew) hb);clear hi1 hb)
 all_goals go_wp2
 all_goals go_ret2
 all_goals exact ⟨⟨_,_,_,rfl,HI1.out,hnc⟩,HB2.out⟩
theorem ruled_11 (x:Int) (ea:Option Addr) (el ec:Nat) (es:List Int) (pa:Option Addr) (pl pc:Nat) (ps:List Int) (la:Option Addr) (ll lc:Nat) (lo:List Int) (ha:Option Addr) (hl hc:Nat) (hi:List Int) (ta:Option Addr) (tl tc:Nat) (st:List Int) (A:Option Addr) (len cap:Nat) (xss:List (List Int)) (w:World)
 (he:Lst w ea el ec es) (hp:Lst w pa pl pc ps) (hlo:Lst w la ll lc lo) (hhi:Lst w ha hl hc hi) (hst:Lst w ta tl tc st) (h:Lsts w A len xss) (hcap:len<=cap) (hz:∀ d∈xss,sizeE d=0) (hn:len=1) (hlen:len<=1048576) (b0:el<=1048576) (b1:pl<=1048576) (b2:ll<=1048576) (b3:hl<=1048576) (b4:tl<=1048576) :
 Calls Tryz.prog 42 #[.agg #[.int .i64 11,.slice ea el ec,.slice pa pl pc,.slice la ll lc,.slice ha hl hc,.slice ta tl tc,.int .i64 x],.slice A len cap] w fun e w'=>OutP e w' ((okL (turnE 0 (xss[0]?.getD []) (stepsV (xss[0]?.getD [])) ps) (taken (xss[0]?.getD []) ps),turnE 0 (xss[0]?.getD []) (stepsV (xss[0]?.getD [])) ps))/\Below w.heap.size w w':=by
 have zz:=And.intro hcap (And.intro hlen (And.intro hn (And.intro b0 (And.intro b1 (And.intro b2 (And.intro b3 b4))))))
 clear zz
 have HE:=hide he
 have HP:=hide hp
 have HLO:=hide hlo
 have HHI:=hide hhi
 have HST:=hide hst
 have H:=hide h
 have HN:=hide h.1
 have HZ:=hide hz
 have HB1:=hide ((Below.refl w.heap.size w).alloc (Nat.le_refl _) (.cells #[.int .i64 11,.slice ea el ec,.slice pa pl pc,.slice la ll lc,.slice ha hl hc,.slice ta tl tc,.int .i64 x] 38))
 have HOP:=hide (OpAt.new w 11 (.slice ea el ec) (.slice pa pl pc) (.slice la ll lc) (.slice ha hl hc) (.slice ta tl tc) x)
 obtain ⟨o0,o1,o2,o3,o4,o5,o6⟩:=HOP.out.cells
 obtain ⟨b,off,rfl,hc⟩:=h.at (by omega)
 obtain ⟨X0,m0,c0,hc0,hl0⟩:=hc 0 (by omega)
 have hc0':w.cell? ⟨b,off,none⟩=some (.slice X0 m0 c0):=hc0
 obtain ⟨ds,hds⟩:∃ ds,ds=xss[0]?.getD []:=⟨_,rfl⟩
 rw [<-hds] at hl0 ⊢
 have HL0:=hide hl0
 have HC0:=hide hc0'
 have hzd:sizeE ds=0:=by rw [hds];exact hz _ (mem_getDL xss 0 (by rw [h.1];omega))
 have HZD:=hide hzd
 have h06:m0<=6:=by have:=(sizeE_ok hzd).1;have:=hl0.1.1;omega
 have HD1:=hide (HL0.out.below HB1.out)
 have q0:=(HB1.out.cell (p:=⟨b,off,none⟩) (lt_of_cell hc0')).trans hc0'
 have i0:(0:Int)<(len:Int):=by omega
 clear h he hp hlo hhi hst hz hc hc0 hc0' hl0 hds hzd
 go_enter Tryz.func42,Tryz.ntmps42
 go_wp2_with fail
 go_region_with (go_at_call 59;refine (viewDims_turn 11 x _ _ _ ds _ _ _ es _ _ _ ps _ _ _ lo _ _ _ hi _ _ _ st _ (HL0.out.below (HB1.out.drew)).1 (HE.out.below (HB1.out.drew)).1 (HP.out.below (HB1.out.drew)).1 (HLO.out.below (HB1.out.drew)).1 (HHI.out.below (HB1.out.drew)).1 (HST.out.below (HB1.out.drew)).1 HZD.out HL0.out.2.1 HE.out.2.1 rfl).mono ?_;rintro e w1 ⟨⟨Z,nz,cz,rfl,hi1,hnc⟩,hb⟩;have HI1:=hide hi1;have HB2:=hide (Below.on (HB1.out.drew) hb);clear hi1 hb)
 all_goals go_wp2
 all_goals go_ret2
 all_goals exact ⟨⟨_,_,_,rfl,HI1.out,hnc⟩,HB2.out⟩
theorem ruled_13 (x:Int) (ea:Option Addr) (el ec:Nat) (es:List Int) (pa:Option Addr) (pl pc:Nat) (ps:List Int) (la:Option Addr) (ll lc:Nat) (lo:List Int) (ha:Option Addr) (hl hc:Nat) (hi:List Int) (ta:Option Addr) (tl tc:Nat) (st:List Int) (A:Option Addr) (len cap:Nat) (xss:List (List Int)) (w:World)
 (he:Lst w ea el ec es) (hp:Lst w pa pl pc ps) (hlo:Lst w la ll lc lo) (hhi:Lst w ha hl hc hi) (hst:Lst w ta tl tc st) (h:Lsts w A len xss) (hcap:len<=cap) (hz:∀ d∈xss,sizeE d=0) (hn:len=1) (hlen:len<=1048576) (b0:el<=1048576) (b1:pl<=1048576) (b2:ll<=1048576) (b3:hl<=1048576) (b4:tl<=1048576) :
 Calls Tryz.prog 42 #[.agg #[.int .i64 13,.slice ea el ec,.slice pa pl pc,.slice la ll lc,.slice ha hl hc,.slice ta tl tc,.int .i64 x],.slice A len cap] w fun e w'=>OutP e w' ((okL (cutE 0 (xss[0]?.getD []) (stepsV (xss[0]?.getD [])) lo hi st) (cutD (xss[0]?.getD []) lo hi st),cutE 0 (xss[0]?.getD []) (stepsV (xss[0]?.getD [])) lo hi st))/\Below w.heap.size w w':=by
 have zz:=And.intro hcap (And.intro hlen (And.intro hn (And.intro b0 (And.intro b1 (And.intro b2 (And.intro b3 b4))))))
 clear zz
 have HE:=hide he
 have HP:=hide hp
 have HLO:=hide hlo
 have HHI:=hide hhi
 have HST:=hide hst
 have H:=hide h
 have HN:=hide h.1
 have HZ:=hide hz
 have HB1:=hide ((Below.refl w.heap.size w).alloc (Nat.le_refl _) (.cells #[.int .i64 13,.slice ea el ec,.slice pa pl pc,.slice la ll lc,.slice ha hl hc,.slice ta tl tc,.int .i64 x] 38))
 have HOP:=hide (OpAt.new w 13 (.slice ea el ec) (.slice pa pl pc) (.slice la ll lc) (.slice ha hl hc) (.slice ta tl tc) x)
 obtain ⟨o0,o1,o2,o3,o4,o5,o6⟩:=HOP.out.cells
 obtain ⟨b,off,rfl,hc⟩:=h.at (by omega)
 obtain ⟨X0,m0,c0,hc0,hl0⟩:=hc 0 (by omega)
 have hc0':w.cell? ⟨b,off,none⟩=some (.slice X0 m0 c0):=hc0
 obtain ⟨ds,hds⟩:∃ ds,ds=xss[0]?.getD []:=⟨_,rfl⟩
 rw [<-hds] at hl0 ⊢
 have HL0:=hide hl0
 have HC0:=hide hc0'
 have hzd:sizeE ds=0:=by rw [hds];exact hz _ (mem_getDL xss 0 (by rw [h.1];omega))
 have HZD:=hide hzd
 have h06:m0<=6:=by have:=(sizeE_ok hzd).1;have:=hl0.1.1;omega
 have HD1:=hide (HL0.out.below HB1.out)
 have q0:=(HB1.out.cell (p:=⟨b,off,none⟩) (lt_of_cell hc0')).trans hc0'
 have i0:(0:Int)<(len:Int):=by omega
 clear h he hp hlo hhi hst hz hc hc0 hc0' hl0 hds hzd
 go_enter Tryz.func42,Tryz.ntmps42
 go_wp2_with fail
 go_region_with (go_at_call 59;refine (viewDims_cut 13 x _ _ _ ds _ _ _ es _ _ _ ps _ _ _ lo _ _ _ hi _ _ _ st _ (HL0.out.below (HB1.out.drew)).1 (HE.out.below (HB1.out.drew)).1 (HP.out.below (HB1.out.drew)).1 (HLO.out.below (HB1.out.drew)).1 (HHI.out.below (HB1.out.drew)).1 (HST.out.below (HB1.out.drew)).1 HZD.out HL0.out.2.1 HE.out.2.1 rfl).mono ?_;rintro e w1 ⟨⟨Z,nz,cz,rfl,hi1,hnc⟩,hb⟩;have HI1:=hide hi1;have HB2:=hide (Below.on (HB1.out.drew) hb);clear hi1 hb)
 all_goals go_wp2
 all_goals go_ret2
 all_goals exact ⟨⟨_,_,_,rfl,HI1.out,hnc⟩,HB2.out⟩
theorem ruled_15 (x:Int) (ea:Option Addr) (el ec:Nat) (es:List Int) (pa:Option Addr) (pl pc:Nat) (ps:List Int) (la:Option Addr) (ll lc:Nat) (lo:List Int) (ha:Option Addr) (hl hc:Nat) (hi:List Int) (ta:Option Addr) (tl tc:Nat) (st:List Int) (A:Option Addr) (len cap:Nat) (xss:List (List Int)) (w:World)
 (he:Lst w ea el ec es) (hp:Lst w pa pl pc ps) (hlo:Lst w la ll lc lo) (hhi:Lst w ha hl hc hi) (hst:Lst w ta tl tc st) (h:Lsts w A len xss) (hcap:len<=cap) (hz:∀ d∈xss,sizeE d=0) (hn:len=1) (hlen:len<=1048576) (b0:el<=1048576) (b1:pl<=1048576) (b2:ll<=1048576) (b3:hl<=1048576) (b4:tl<=1048576) :
 Calls Tryz.prog 42 #[.agg #[.int .i64 15,.slice ea el ec,.slice pa pl pc,.slice la ll lc,.slice ha hl hc,.slice ta tl tc,.int .i64 x],.slice A len cap] w fun e w'=>OutP e w' ((okL (flipE 0 (xss[0]?.getD []) (stepsV (xss[0]?.getD [])) ps) (xss[0]?.getD []),flipE 0 (xss[0]?.getD []) (stepsV (xss[0]?.getD [])) ps))/\Below w.heap.size w w':=by
 have zz:=And.intro hcap (And.intro hlen (And.intro hn (And.intro b0 (And.intro b1 (And.intro b2 (And.intro b3 b4))))))
 clear zz
 have HE:=hide he
 have HP:=hide hp
 have HLO:=hide hlo
 have HHI:=hide hhi
 have HST:=hide hst
 have H:=hide h
 have HN:=hide h.1
 have HZ:=hide hz
 have HB1:=hide ((Below.refl w.heap.size w).alloc (Nat.le_refl _) (.cells #[.int .i64 15,.slice ea el ec,.slice pa pl pc,.slice la ll lc,.slice ha hl hc,.slice ta tl tc,.int .i64 x] 38))
 have HOP:=hide (OpAt.new w 15 (.slice ea el ec) (.slice pa pl pc) (.slice la ll lc) (.slice ha hl hc) (.slice ta tl tc) x)
 obtain ⟨o0,o1,o2,o3,o4,o5,o6⟩:=HOP.out.cells
 obtain ⟨b,off,rfl,hc⟩:=h.at (by omega)
 obtain ⟨X0,m0,c0,hc0,hl0⟩:=hc 0 (by omega)
 have hc0':w.cell? ⟨b,off,none⟩=some (.slice X0 m0 c0):=hc0
 obtain ⟨ds,hds⟩:∃ ds,ds=xss[0]?.getD []:=⟨_,rfl⟩
 rw [<-hds] at hl0 ⊢
 have HL0:=hide hl0
 have HC0:=hide hc0'
 have hzd:sizeE ds=0:=by rw [hds];exact hz _ (mem_getDL xss 0 (by rw [h.1];omega))
 have HZD:=hide hzd
 have h06:m0<=6:=by have:=(sizeE_ok hzd).1;have:=hl0.1.1;omega
 have HD1:=hide (HL0.out.below HB1.out)
 have q0:=(HB1.out.cell (p:=⟨b,off,none⟩) (lt_of_cell hc0')).trans hc0'
 have i0:(0:Int)<(len:Int):=by omega
 clear h he hp hlo hhi hst hz hc hc0 hc0' hl0 hds hzd
 go_enter Tryz.func42,Tryz.ntmps42
 go_wp2_with fail
 go_region_with (go_at_call 59;refine (viewDims_flip 15 x _ _ _ ds _ _ _ es _ _ _ ps _ _ _ lo _ _ _ hi _ _ _ st _ (HL0.out.below (HB1.out.drew)).1 (HE.out.below (HB1.out.drew)).1 (HP.out.below (HB1.out.drew)).1 (HLO.out.below (HB1.out.drew)).1 (HHI.out.below (HB1.out.drew)).1 (HST.out.below (HB1.out.drew)).1 HZD.out HL0.out.2.1 HE.out.2.1 (by decide)).mono ?_;rintro e w1 ⟨⟨Z,nz,cz,rfl,hi1,hnc⟩,hb⟩;have HI1:=hide hi1;have HB2:=hide (Below.on (HB1.out.drew) hb);clear hi1 hb)
 all_goals go_wp2
 all_goals go_ret2
 all_goals exact ⟨⟨_,_,_,rfl,HI1.out,hnc⟩,HB2.out⟩
theorem ruled_17 (x:Int) (ea:Option Addr) (el ec:Nat) (es:List Int) (pa:Option Addr) (pl pc:Nat) (ps:List Int) (la:Option Addr) (ll lc:Nat) (lo:List Int) (ha:Option Addr) (hl hc:Nat) (hi:List Int) (ta:Option Addr) (tl tc:Nat) (st:List Int) (A:Option Addr) (len cap:Nat) (xss:List (List Int)) (w:World)
 (he:Lst w ea el ec es) (hp:Lst w pa pl pc ps) (hlo:Lst w la ll lc lo) (hhi:Lst w ha hl hc hi) (hst:Lst w ta tl tc st) (h:Lsts w A len xss) (hcap:len<=cap) (hz:∀ d∈xss,sizeE d=0) (hn:1<=len) (hlen:len<=1048576) (b0:el<=1048576) (b1:pl<=1048576) (b2:ll<=1048576) (b3:hl<=1048576) (b4:tl<=1048576) :
 Calls Tryz.prog 42 #[.agg #[.int .i64 17,.slice ea el ec,.slice pa pl pc,.slice la ll lc,.slice ha hl hc,.slice ta tl tc,.int .i64 x],.slice A len cap] w fun e w'=>OutP e w' (joinP ps xss)/\Below w.heap.size w w':=by
 have zz:=And.intro hcap (And.intro hlen (And.intro hn (And.intro b0 (And.intro b1 (And.intro b2 (And.intro b3 b4))))))
 clear zz
 have HE:=hide he
 have HP:=hide hp
 have HLO:=hide hlo
 have HHI:=hide hhi
 have HST:=hide hst
 have H:=hide h
 have HN:=hide h.1
 have HZ:=hide hz
 have HB1:=hide ((Below.refl w.heap.size w).alloc (Nat.le_refl _) (.cells #[.int .i64 17,.slice ea el ec,.slice pa pl pc,.slice la ll lc,.slice ha hl hc,.slice ta tl tc,.int .i64 x] 38))
 have HOP:=hide (OpAt.new w 17 (.slice ea el ec) (.slice pa pl pc) (.slice la ll lc) (.slice ha hl hc) (.slice ta tl tc) x)
 obtain ⟨o0,o1,o2,o3,o4,o5,o6⟩:=HOP.out.cells
 obtain ⟨b,off,rfl,hc⟩:=h.at (by omega)
 obtain ⟨X0,m0,c0,hc0,hl0⟩:=hc 0 (by omega)
 have hc0':w.cell? ⟨b,off,none⟩=some (.slice X0 m0 c0):=hc0
 obtain ⟨ds,hds⟩:∃ ds,ds=xss[0]?.getD []:=⟨_,rfl⟩
 rw [<-hds] at hl0
 have HL0:=hide hl0
 have HC0:=hide hc0'
 have hzd:sizeE ds=0:=by rw [hds];exact hz _ (mem_getDL xss 0 (by rw [h.1];omega))
 have HZD:=hide hzd
 have h06:m0<=6:=by have:=(sizeE_ok hzd).1;have:=hl0.1.1;omega
 have HD1:=hide (HL0.out.below HB1.out)
 have q0:=(HB1.out.cell (p:=⟨b,off,none⟩) (lt_of_cell hc0')).trans hc0'
 have i0:(0:Int)<(len:Int):=by omega
 clear h he hp hlo hhi hst hz hc hc0 hc0' hl0 hds hzd
 go_enter Tryz.func42,Tryz.ntmps42
 go_wp2_with (go_at_call 57;refine (rjoinDims_any _ _ _ _ _ _ _ _ _ ps _ _ _ xss _ (HP.out.below (HB1.out)) (H.out.below (HB1.out)) hcap hn hlen HZ.out).mono ?_;rintro e w1 ⟨⟨Z,nz,cz,rfl,hi1,hnc⟩,hb⟩;have HI1:=hide hi1;have HB2:=hide (Below.on (HB1.out) hb);clear hi1 hb)
 go_ret2
 all_goals exact ⟨⟨_,_,_,rfl,HI1.out,hnc⟩,HB2.out⟩
theorem ruled_14 (x:Int) (ea:Option Addr) (el ec:Nat) (es:List Int) (pa:Option Addr) (pl pc:Nat) (ps:List Int) (la:Option Addr) (ll lc:Nat) (lo:List Int) (ha:Option Addr) (hl hc:Nat) (hi:List Int) (ta:Option Addr) (tl tc:Nat) (st:List Int) (A:Option Addr) (len cap:Nat) (xss:List (List Int)) (w:World)
 (he:Lst w ea el ec es) (hp:Lst w pa pl pc ps) (hlo:Lst w la ll lc lo) (hhi:Lst w ha hl hc hi) (hst:Lst w ta tl tc st) (h:Lsts w A len xss) (hcap:len<=cap) (hz:∀ d∈xss,sizeE d=0) (hn:len=1) (hlen:len<=1048576) (b0:el<=1048576) (b1:pl<=1048576) (b2:ll<=1048576) (b3:hl<=1048576) (b4:tl<=1048576) :
 Calls Tryz.prog 42 #[.agg #[.int .i64 14,.slice ea el ec,.slice pa pl pc,.slice la ll lc,.slice ha hl hc,.slice ta tl tc,.int .i64 x],.slice A len cap] w fun e w'=>OutP e w' (padP (xss[0]?.getD []) lo hi st)/\Below w.heap.size w w':=by
 have zz:=And.intro hcap (And.intro hlen (And.intro hn (And.intro b0 (And.intro b1 (And.intro b2 (And.intro b3 b4))))))
 clear zz
 have HE:=hide he
 have HP:=hide hp
 have HLO:=hide hlo
 have HHI:=hide hhi
 have HST:=hide hst
 have H:=hide h
 have HN:=hide h.1
 have HZ:=hide hz
 have HB1:=hide ((Below.refl w.heap.size w).alloc (Nat.le_refl _) (.cells #[.int .i64 14,.slice ea el ec,.slice pa pl pc,.slice la ll lc,.slice ha hl hc,.slice ta tl tc,.int .i64 x] 38))
 have HOP:=hide (OpAt.new w 14 (.slice ea el ec) (.slice pa pl pc) (.slice la ll lc) (.slice ha hl hc) (.slice ta tl tc) x)
 obtain ⟨o0,o1,o2,o3,o4,o5,o6⟩:=HOP.out.cells
 obtain ⟨b,off,rfl,hc⟩:=h.at (by omega)
 obtain ⟨X0,m0,c0,hc0,hl0⟩:=hc 0 (by omega)
 have hc0':w.cell? ⟨b,off,none⟩=some (.slice X0 m0 c0):=hc0
 obtain ⟨ds,hds⟩:∃ ds,ds=xss[0]?.getD []:=⟨_,rfl⟩
 rw [<-hds] at hl0 ⊢
 have HL0:=hide hl0
 have HC0:=hide hc0'
 have hzd:sizeE ds=0:=by rw [hds];exact hz _ (mem_getDL xss 0 (by rw [h.1];omega))
 have HZD:=hide hzd
 have h06:m0<=6:=by have:=(sizeE_ok hzd).1;have:=hl0.1.1;omega
 have HD1:=hide (HL0.out.below HB1.out)
 have q0:=(HB1.out.cell (p:=⟨b,off,none⟩) (lt_of_cell hc0')).trans hc0'
 have i0:(0:Int)<(len:Int):=by omega
 clear h he hp hlo hhi hst hz hc hc0 hc0' hl0 hds hzd
 go_enter Tryz.func42,Tryz.ntmps42
 go_wp2_with fail
 go_region_with (go_at_call 55;refine (rpadDims_any _ _ _ _ _ _ _ lo _ _ _ hi _ _ _ st _ _ _ ds _ (HLO.out.below (HB1.out.drew)).1 (HHI.out.below (HB1.out.drew)).1 (HST.out.below (HB1.out.drew)).1 (HL0.out.below (HB1.out.drew)).1 HZD.out).mono ?_;rintro e w1 ⟨⟨Z,nz,cz,rfl,hi1,hnc⟩,hb⟩;have HI1:=hide hi1;have HB2:=hide (Below.on (HB1.out.drew) hb);clear hi1 hb)
 all_goals go_wp2
 all_goals go_ret2
 all_goals exact ⟨⟨_,_,_,rfl,HI1.out,hnc⟩,HB2.out⟩
theorem ruled_16 (x:Int) (ea:Option Addr) (el ec:Nat) (es:List Int) (pa:Option Addr) (pl pc:Nat) (ps:List Int) (la:Option Addr) (ll lc:Nat) (lo:List Int) (ha:Option Addr) (hl hc:Nat) (hi:List Int) (ta:Option Addr) (tl tc:Nat) (st:List Int) (A:Option Addr) (len cap:Nat) (xss:List (List Int)) (w:World)
 (he:Lst w ea el ec es) (hp:Lst w pa pl pc ps) (hlo:Lst w la ll lc lo) (hhi:Lst w ha hl hc hi) (hst:Lst w ta tl tc st) (h:Lsts w A len xss) (hcap:len<=cap) (hz:∀ d∈xss,sizeE d=0) (hn:len=2) (hlen:len<=1048576) (b0:el<=1048576) (b1:pl<=1048576) (b2:ll<=1048576) (b3:hl<=1048576) (b4:tl<=1048576) :
 Calls Tryz.prog 42 #[.agg #[.int .i64 16,.slice ea el ec,.slice pa pl pc,.slice la ll lc,.slice ha hl hc,.slice ta tl tc,.int .i64 x],.slice A len cap] w fun e w'=>OutP e w' (dotP ps st lo hi (xss[0]?.getD []) (xss[1]?.getD []))/\Below w.heap.size w w':=by
 have zz:=And.intro hcap (And.intro hlen (And.intro hn (And.intro b0 (And.intro b1 (And.intro b2 (And.intro b3 b4))))))
 clear zz
 have HE:=hide he
 have HP:=hide hp
 have HLO:=hide hlo
 have HHI:=hide hhi
 have HST:=hide hst
 have H:=hide h
 have HN:=hide h.1
 have HZ:=hide hz
 have HB1:=hide ((Below.refl w.heap.size w).alloc (Nat.le_refl _) (.cells #[.int .i64 16,.slice ea el ec,.slice pa pl pc,.slice la ll lc,.slice ha hl hc,.slice ta tl tc,.int .i64 x] 38))
 have HOP:=hide (OpAt.new w 16 (.slice ea el ec) (.slice pa pl pc) (.slice la ll lc) (.slice ha hl hc) (.slice ta tl tc) x)
 obtain ⟨o0,o1,o2,o3,o4,o5,o6⟩:=HOP.out.cells
 obtain ⟨b,off,rfl,hc⟩:=h.at (by omega)
 obtain ⟨X0,m0,c0,hc0,hl0⟩:=hc 0 (by omega)
 have hc0':w.cell? ⟨b,off,none⟩=some (.slice X0 m0 c0):=hc0
 obtain ⟨ds,hds⟩:∃ ds,ds=xss[0]?.getD []:=⟨_,rfl⟩
 rw [<-hds] at hl0 ⊢
 have HL0:=hide hl0
 have HC0:=hide hc0'
 have hzd:sizeE ds=0:=by rw [hds];exact hz _ (mem_getDL xss 0 (by rw [h.1];omega))
 have HZD:=hide hzd
 have h06:m0<=6:=by have:=(sizeE_ok hzd).1;have:=hl0.1.1;omega
 have HD1:=hide (HL0.out.below HB1.out)
 have q0:=(HB1.out.cell (p:=⟨b,off,none⟩) (lt_of_cell hc0')).trans hc0'
 have i0:(0:Int)<(len:Int):=by omega
 obtain ⟨X1,m1,c1,hc1,hl1⟩:=hc 1 (by omega)
 obtain ⟨ds1,hds1⟩:∃ ds1,ds1=xss[1]?.getD []:=⟨_,rfl⟩
 rw [<-hds1] at hl1 ⊢
 have HL1:=hide hl1
 have hzd1:sizeE ds1=0:=by rw [hds1];exact hz _ (mem_getDL xss 1 (by rw [h.1];omega))
 have h16:m1<=6:=by have:=(sizeE_ok hzd1).1;have:=hl1.1.1;omega
 have q1:=(HB1.out.cell (p:=⟨b,off+1,none⟩) (lt_of_cell hc1)).trans hc1
 have i1:(1:Int)<(len:Int):=by omega
 clear h he hp hlo hhi hst hz hc hc0 hc0' hl0 hds hzd hc1 hl1 hds1 hzd1
 go_enter Tryz.func42,Tryz.ntmps42
 go_wp2_with fail
 go_region_with (go_at_call 56;refine (rdotDims_any _ _ _ _ _ _ ps _ _ _ lo _ _ _ hi _ _ _ st _ _ _ ds _ _ _ ds1 _ (HP.out.below (HB1.out.drew)) (HLO.out.below (HB1.out.drew)) (HHI.out.below (HB1.out.drew)) (HST.out.below (HB1.out.drew)) (HL0.out.below (HB1.out.drew)).1 (HL1.out.below (HB1.out.drew)).1 h06 h16 b1 b2 b3 b4).mono ?_;rintro e w1 ⟨⟨Z,nz,cz,rfl,hi1,hnc⟩,hb⟩;have HI1:=hide hi1;have HB2:=hide (Below.on (HB1.out.drew) hb);clear hi1 hb)
 all_goals go_wp2
 all_goals go_ret2
 all_goals exact ⟨⟨_,_,_,rfl,HI1.out,hnc⟩,HB2.out⟩
theorem ruled_12 (x:Int) (ea:Option Addr) (el ec:Nat) (es:List Int) (pa:Option Addr) (pl pc:Nat) (ps:List Int) (la:Option Addr) (ll lc:Nat) (lo:List Int) (ha:Option Addr) (hl hc:Nat) (hi:List Int) (ta:Option Addr) (tl tc:Nat) (st:List Int) (A:Option Addr) (len cap:Nat) (xss:List (List Int)) (w:World)
 (he:Lst w ea el ec es) (hp:Lst w pa pl pc ps) (hlo:Lst w la ll lc lo) (hhi:Lst w ha hl hc hi) (hst:Lst w ta tl tc st) (h:Lsts w A len xss) (hcap:len<=cap) (hz:∀ d∈xss,sizeE d=0) (hn:len=1) (hlen:len<=1048576) (b0:el<=1048576) (b1:pl<=1048576) (b2:ll<=1048576) (b3:hl<=1048576) (b4:tl<=1048576) :
 Calls Tryz.prog 42 #[.agg #[.int .i64 12,.slice ea el ec,.slice pa pl pc,.slice la ll lc,.slice ha hl hc,.slice ta tl tc,.int .i64 x],.slice A len cap] w fun e w'=>OutP e w' (reformP (xss[0]?.getD []) es)/\Below w.heap.size w w':=by
 have zz:=And.intro hcap (And.intro hlen (And.intro hn (And.intro b0 (And.intro b1 (And.intro b2 (And.intro b3 b4))))))
 clear zz
 have HE:=hide he
 have HP:=hide hp
 have HLO:=hide hlo
 have HHI:=hide hhi
 have HST:=hide hst
 have H:=hide h
 have HN:=hide h.1
 have HZ:=hide hz
 have HB1:=hide ((Below.refl w.heap.size w).alloc (Nat.le_refl _) (.cells #[.int .i64 12,.slice ea el ec,.slice pa pl pc,.slice la ll lc,.slice ha hl hc,.slice ta tl tc,.int .i64 x] 38))
 have HOP:=hide (OpAt.new w 12 (.slice ea el ec) (.slice pa pl pc) (.slice la ll lc) (.slice ha hl hc) (.slice ta tl tc) x)
 obtain ⟨o0,o1,o2,o3,o4,o5,o6⟩:=HOP.out.cells
 obtain ⟨b,off,rfl,hc⟩:=h.at (by omega)
 obtain ⟨X0,m0,c0,hc0,hl0⟩:=hc 0 (by omega)
 have hc0':w.cell? ⟨b,off,none⟩=some (.slice X0 m0 c0):=hc0
 obtain ⟨ds,hds⟩:∃ ds,ds=xss[0]?.getD []:=⟨_,rfl⟩
 rw [<-hds] at hl0 ⊢
 have HL0:=hide hl0
 have HC0:=hide hc0'
 have hzd:sizeE ds=0:=by rw [hds];exact hz _ (mem_getDL xss 0 (by rw [h.1];omega))
 have HZD:=hide hzd
 have h06:m0<=6:=by have:=(sizeE_ok hzd).1;have:=hl0.1.1;omega
 have HD1:=hide (HL0.out.below HB1.out)
 have q0:=(HB1.out.cell (p:=⟨b,off,none⟩) (lt_of_cell hc0')).trans hc0'
 have i0:(0:Int)<(len:Int):=by omega
 clear h he hp hlo hhi hst hz hc hc0 hc0' hl0 hds hzd
 have HRP:=hide (show reformP ds es=if sizeE es≠0 then ([],sizeE es) else if sizeN es=sizeN ds then (es,0) else ([],6) from rfl)
 obtain ⟨E,hE⟩:∃ E,E=sizeE es:=⟨_,rfl⟩
 obtain ⟨N,hN⟩:∃ N,N=sizeN es:=⟨_,rfl⟩
 obtain ⟨M,hM⟩:∃ M,M=sizeN ds:=⟨_,rfl⟩
 have HEE:=hide hE
 have HNN:=hide hN
 have HMM:=hide hM
 by_cases c1:E=0
 case neg =>
  have q:(E != 0)=true:=by simp [c1]
  have hp:reformP ds es=([],E):=by rw [HRP.out,<-hE,if_pos c1]
  rw [hp]
  clear hp hE hN hM c1
  go_enter Tryz.func42,Tryz.ntmps42
  go_wp2_with (go_at_call 28;refine (rsize_any _ _ _ es _ (HE.out.below HB1.out).1).mono ?_;rintro e w' ⟨rfl,hw'⟩;obtain rfl:=hw'.symm;rw [<-HEE.out,<-HNN.out])
  go_ret2
  exact ⟨outP_none _ _,HB1.out⟩
 subst c1
 by_cases c2:N=M
 · have hp:reformP ds es=(es,0):=by rw [HRP.out,<-hE,if_neg (by simp),if_pos (by rw [<-hN,<-hM];exact c2)]
   rw [hp]
   subst c2
   clear hp hE hN hM
   go_enter Tryz.func42,Tryz.ntmps42
   go_wp2_with (first
    | (go_at_call_of 28 (Value.slice ea el ec);refine (rsize_any _ _ _ es _ (HE.out.below HB1.out).1).mono ?_;rintro e w' ⟨rfl,hw'⟩;obtain rfl:=hw'.symm;rw [<-HEE.out,<-HNN.out])
    | (go_at_call 28;refine (rsize_any _ _ _ ds _ (HL0.out.below HB1.out).1).mono ?_;rintro e w' ⟨rfl,hw'⟩;obtain rfl:=hw'.symm;rw [<-HMM.out]))
   go_ret2
   exact ⟨outP_lst (HE.out.below HB1.out) 0,HB1.out⟩
 · have hp:reformP ds es=([],6):=by rw [HRP.out,<-hE,if_neg (by simp),if_neg (by rw [<-hN,<-hM];exact c2)]
   rw [hp]
   have q:(M != N)=true:=by simp;exact fun h=>c2 h.symm
   clear hp hE hN hM c2
   go_enter Tryz.func42,Tryz.ntmps42
   go_wp2_with (first
    | (go_at_call_of 28 (Value.slice ea el ec);refine (rsize_any _ _ _ es _ (HE.out.below HB1.out).1).mono ?_;rintro e w' ⟨rfl,hw'⟩;obtain rfl:=hw'.symm;rw [<-HEE.out,<-HNN.out])
    | (go_at_call 28;refine (rsize_any _ _ _ ds _ (HL0.out.below HB1.out).1).mono ?_;rintro e w' ⟨rfl,hw'⟩;obtain rfl:=hw'.symm;rw [<-HMM.out]))
   go_ret2
   exact ⟨outP_none _ _,HB1.out⟩
theorem ruled_18 (x:Int) (ea:Option Addr) (el ec:Nat) (es:List Int) (pa:Option Addr) (pl pc:Nat) (ps:List Int) (la:Option Addr) (ll lc:Nat) (lo:List Int) (ha:Option Addr) (hl hc:Nat) (hi:List Int) (ta:Option Addr) (tl tc:Nat) (st:List Int) (A:Option Addr) (len cap:Nat) (xss:List (List Int)) (w:World)
 (he:Lst w ea el ec es) (hp:Lst w pa pl pc ps) (hlo:Lst w la ll lc lo) (hhi:Lst w ha hl hc hi) (hst:Lst w ta tl tc st) (h:Lsts w A len xss) (hcap:len<=cap) (hz:∀ d∈xss,sizeE d=0) (hn:len=2) (hlen:len<=1048576) (b0:el<=1048576) (b1:pl<=1048576) (b2:ll<=1048576) (b3:hl<=1048576) (b4:tl<=1048576) :
 Calls Tryz.prog 42 #[.agg #[.int .i64 18,.slice ea el ec,.slice pa pl pc,.slice la ll lc,.slice ha hl hc,.slice ta tl tc,.int .i64 x],.slice A len cap] w fun e w'=>OutP e w' (takeP (xss[0]?.getD []) (xss[1]?.getD []))/\Below w.heap.size w w':=by
 have zz:=And.intro hcap (And.intro hlen (And.intro hn (And.intro b0 (And.intro b1 (And.intro b2 (And.intro b3 b4))))))
 clear zz
 have HE:=hide he
 have HP:=hide hp
 have HLO:=hide hlo
 have HHI:=hide hhi
 have HST:=hide hst
 have H:=hide h
 have HN:=hide h.1
 have HZ:=hide hz
 have HB1:=hide ((Below.refl w.heap.size w).alloc (Nat.le_refl _) (.cells #[.int .i64 18,.slice ea el ec,.slice pa pl pc,.slice la ll lc,.slice ha hl hc,.slice ta tl tc,.int .i64 x] 38))
 have HOP:=hide (OpAt.new w 18 (.slice ea el ec) (.slice pa pl pc) (.slice la ll lc) (.slice ha hl hc) (.slice ta tl tc) x)
 obtain ⟨o0,o1,o2,o3,o4,o5,o6⟩:=HOP.out.cells
 obtain ⟨b,off,rfl,hc⟩:=h.at (by omega)
 obtain ⟨X0,m0,c0,hc0,hl0⟩:=hc 0 (by omega)
 have hc0':w.cell? ⟨b,off,none⟩=some (.slice X0 m0 c0):=hc0
 obtain ⟨ds,hds⟩:∃ ds,ds=xss[0]?.getD []:=⟨_,rfl⟩
 rw [<-hds] at hl0 ⊢
 have HL0:=hide hl0
 have HC0:=hide hc0'
 have hzd:sizeE ds=0:=by rw [hds];exact hz _ (mem_getDL xss 0 (by rw [h.1];omega))
 have HZD:=hide hzd
 have h06:m0<=6:=by have:=(sizeE_ok hzd).1;have:=hl0.1.1;omega
 have HD1:=hide (HL0.out.below HB1.out)
 have q0:=(HB1.out.cell (p:=⟨b,off,none⟩) (lt_of_cell hc0')).trans hc0'
 have i0:(0:Int)<(len:Int):=by omega
 obtain ⟨X1,m1,c1,hc1,hl1⟩:=hc 1 (by omega)
 obtain ⟨ds1,hds1⟩:∃ ds1,ds1=xss[1]?.getD []:=⟨_,rfl⟩
 rw [<-hds1] at hl1 ⊢
 have HL1:=hide hl1
 have hzd1:sizeE ds1=0:=by rw [hds1];exact hz _ (mem_getDL xss 1 (by rw [h.1];omega))
 have h16:m1<=6:=by have:=(sizeE_ok hzd1).1;have:=hl1.1.1;omega
 have q1:=(HB1.out.cell (p:=⟨b,off+1,none⟩) (lt_of_cell hc1)).trans hc1
 have i1:(1:Int)<(len:Int):=by omega
 clear h he hp hlo hhi hst hz hc hc0 hc0' hl0 hds hzd hc1 hl1 hds1 hzd1
 have HLN:=hide HL0.out.1.1
 by_cases c:m0=0
 · have hp:takeP ds ds1=([],6):=by unfold takeP;rw [if_pos (by rw [HLN.out];exact c)]
   rw [hp]
   have q:((m0:Int) == 0)=true:=by simp [c]
   clear hp c
   go_enter Tryz.func42,Tryz.ntmps42
   go_wp2
   go_ret2
   exact ⟨outP_none _ _,HB1.out⟩
 have hp:takeP ds ds1=(ds1++ds.drop 1,0):=by unfold takeP;rw [if_neg (by rw [HLN.out];exact c)]
 rw [hp]
 have q:((m0:Int) == 0)=false:=by simp;omega
 have hl1:1<=m0:=by omega
 have hcp:=HL0.out.2.1
 obtain ⟨b0',off0,rfl,hb0,hc0⟩:=HL0.out.1.at (by omega)
 clear hp c hc0
 by_cases cc:c0=1
 · subst cc
   have HDR:Hid (Lst w (some ⟨b0',off0,none⟩) 0 0 (ds.drop 1)):=by
    rw [List.drop_eq_nil_of_le (by rw [HLN.out];omega)];exact lst_empty w _ _
   go_enter Tryz.func42,Tryz.ntmps42
   go_wp2_with fail
   go_region_with (go_at_call 58;refine (both_any _ _ _ ds1 _ _ _ (ds.drop 1) _ (HL1.out.below HB1.out.drew) (HDR.out.below HB1.out.drew) (by omega)).mono ?_;rintro e w1 ⟨⟨v1,rfl,hv⟩,hb⟩;have HV:=hide hv;have HB2:=hide (Below.on HB1.out.drew hb);clear hv hb)
   all_goals go_wp2
   all_goals go_ret2
   all_goals exact ⟨outP_new HV.out 0,HB2.out⟩
 · have HDR:=hide (lst_drop HL0.out 1 (by omega))
   go_enter Tryz.func42,Tryz.ntmps42
   go_wp2_with fail
   go_region_with (go_at_call 58;refine (both_any _ _ _ ds1 _ _ _ (ds.drop 1) _ (HL1.out.below HB1.out.drew) (HDR.out.below HB1.out.drew) (by omega)).mono ?_;rintro e w1 ⟨⟨v1,rfl,hv⟩,hb⟩;have HV:=hide hv;have HB2:=hide (Below.on HB1.out.drew hb);clear hv hb)
   all_goals go_wp2
   all_goals go_ret2
   all_goals exact ⟨outP_new HV.out 0,HB2.out⟩
theorem ruled_10 (x:Int) (ea:Option Addr) (el ec:Nat) (es:List Int) (pa:Option Addr) (pl pc:Nat) (ps:List Int) (la:Option Addr) (ll lc:Nat) (lo:List Int) (ha:Option Addr) (hl hc:Nat) (hi:List Int) (ta:Option Addr) (tl tc:Nat) (st:List Int) (A:Option Addr) (len cap:Nat) (xss:List (List Int)) (w:World)
 (he:Lst w ea el ec es) (hp:Lst w pa pl pc ps) (hlo:Lst w la ll lc lo) (hhi:Lst w ha hl hc hi) (hst:Lst w ta tl tc st) (h:Lsts w A len xss) (hcap:len<=cap) (hz:∀ d∈xss,sizeE d=0) (hn:len=1) (hlen:len<=1048576) (b0:el<=1048576) (b1:pl<=1048576) (b2:ll<=1048576) (b3:hl<=1048576) (b4:tl<=1048576) :
 Calls Tryz.prog 42 #[.agg #[.int .i64 10,.slice ea el ec,.slice pa pl pc,.slice la ll lc,.slice ha hl hc,.slice ta tl tc,.int .i64 x],.slice A len cap] w fun e w'=>OutP e w' (sumP (xss[0]?.getD []) ps)/\Below w.heap.size w w':=by
 have zz:=And.intro hcap (And.intro hlen (And.intro hn (And.intro b0 (And.intro b1 (And.intro b2 (And.intro b3 b4))))))
 clear zz
 have HE:=hide he
 have HP:=hide hp
 have HLO:=hide hlo
 have HHI:=hide hhi
 have HST:=hide hst
 have H:=hide h
 have HN:=hide h.1
 have HZ:=hide hz
 have HB1:=hide ((Below.refl w.heap.size w).alloc (Nat.le_refl _) (.cells #[.int .i64 10,.slice ea el ec,.slice pa pl pc,.slice la ll lc,.slice ha hl hc,.slice ta tl tc,.int .i64 x] 38))
 have HOP:=hide (OpAt.new w 10 (.slice ea el ec) (.slice pa pl pc) (.slice la ll lc) (.slice ha hl hc) (.slice ta tl tc) x)
 obtain ⟨o0,o1,o2,o3,o4,o5,o6⟩:=HOP.out.cells
 obtain ⟨b,off,rfl,hc⟩:=h.at (by omega)
 obtain ⟨X0,m0,c0,hc0,hl0⟩:=hc 0 (by omega)
 have hc0':w.cell? ⟨b,off,none⟩=some (.slice X0 m0 c0):=hc0
 obtain ⟨ds,hds⟩:∃ ds,ds=xss[0]?.getD []:=⟨_,rfl⟩
 rw [<-hds] at hl0 ⊢
 have HL0:=hide hl0
 have HC0:=hide hc0'
 have hzd:sizeE ds=0:=by rw [hds];exact hz _ (mem_getDL xss 0 (by rw [h.1];omega))
 have HZD:=hide hzd
 have h06:m0<=6:=by have:=(sizeE_ok hzd).1;have:=hl0.1.1;omega
 have HD1:=hide (HL0.out.below HB1.out)
 have q0:=(HB1.out.cell (p:=⟨b,off,none⟩) (lt_of_cell hc0')).trans hc0'
 have i0:(0:Int)<(len:Int):=by omega
 clear h he hp hlo hhi hst hz hc hc0 hc0' hl0 hds hzd
 have HLN:=hide HL0.out.1.1
 have HRQ:Hid (∀ (B:Bool),(B=true<->RiseOk ps m0)->∀ W,Below w.heap.size w W->Calls Tryz.prog 52 #[.slice pa pl pc,.int .i64 m0] W fun e w'=>e=.returned (.bool B)/\w'=W):=fun B hB W hW=>by
  refine (rrising_any pa pl pc ps m0 W (HP.out.below hW).1 h06).mono ?_
  rintro e w' ⟨⟨r,rfl,hr⟩,rfl⟩
  have:r=B:=by
   cases r<;>cases B<;>simp_all
  rw [this];exact ⟨rfl,rfl⟩
 cases c:riseB ps ds.length with
 | false =>
  have hp:sumP ds ps=([],6):=by unfold sumP;rw [if_neg (by simp [c])]
  rw [hp]
  have hbf:(false=true)<->RiseOk ps m0:=by rw [<-HLN.out,<-riseB_iff,c]
  have HRC:=hide (HRQ.out false hbf)
  clear hbf HRQ
  clear hp c
  go_enter Tryz.func42,Tryz.ntmps42
  go_wp2_with fail
  go_quiet ((go_at_call 52;exact Calls.quiet_of_same (HRC.out _ (Below.on HB1.out (below_drewN _ _)))))
  go_wp2
  go_ret2
  exact ⟨outP_none _ _,Below.on HB1.out (below_drewN _ _)⟩
 | true =>
  have hp:sumP ds ps=(taken ds (freeL ps m0),0):=by unfold sumP;rw [if_pos c,HLN.out]
  rw [hp]
  have hbt:(true=true)<->RiseOk ps m0:=by rw [<-HLN.out,<-riseB_iff,c]
  have HRC:=hide (HRQ.out true hbt)
  clear hbt HRQ
  clear hp c
  go_enter Tryz.func42,Tryz.ntmps42
  go_wp2_with fail
  go_quiet ((go_at_call 52;exact Calls.quiet_of_same (HRC.out _ (Below.on HB1.out (below_drewN _ _)))))
  go_wp2_with fail
  have HBN:=hide (Below.on HB1.out (below_drewN _ nq))
  have s0:=(HBN.out.cell (p:=⟨b,off,none⟩) (lt_of_cell HC0.out)).trans HC0.out
  have s1:=(HOP.out.below (below_drewN _ nq)).cells.2.2.1
  generalize hWN:(w.alloc (.cells #[.int .i64 10,.slice ea el ec,.slice pa pl pc,.slice la ll lc,.slice ha hl hc,.slice ta tl tc,.int .i64 x] 38)).drewN nq=WN at HBN s0 s1 ⊢
  clear hWN
  go_region_held3 (fun w'=>w'.cell? ⟨b,off,none⟩=some (.slice X0 m0 c0)/\w'.cell? ⟨w.heap.size,2,none⟩=some (.slice pa pl pc)) (refine ⟨?_,?_⟩<;>with_reducible (repeat (first | assumption | apply drew_cell))) ((first | (go_at_call 54;refine (free_any _ _ _ ds _ _ _ ps _ (HL0.out.below HBN.out.drew).1 (HP.out.below HBN.out.drew).1 h06).mono ?_;rintro e w1 ⟨⟨v1,rfl,X1,n1,d1,rfl,hl1,_⟩,hb⟩;have HLF:=hide hl1;have HB2:=hide (Below.on HBN.out.drew hb);have s10:=(hb.cell (p:=⟨b,off,none⟩) (lt_of_cell (drew_cell s0))).trans (drew_cell s0);have s11:=(hb.cell (p:=⟨w.heap.size,2,none⟩) (lt_of_cell (drew_cell s1))).trans (drew_cell s1);have hn1:n1<=6:=by { have:=hl1.1.1;have:=freeL_len ps m0;omega };clear hl1 hb) | (go_at_call 53;refine (chosen_any _ _ _ ds _ _ _ (freeL ps m0) _ (HL0.out.below HB2.out).1 HLF.out.1 (fun y hy=>freeL_bd ps m0 y hy) hn1).mono ?_;rintro e w2 ⟨⟨v2,rfl,hv⟩,hb⟩;have HV:=hide hv;have HB3:=hide (Below.on HB2.out hb);have s20:=(hb.cell (p:=⟨b,off,none⟩) (lt_of_cell s10)).trans s10;have s21:=(hb.cell (p:=⟨w.heap.size,2,none⟩) (lt_of_cell s11)).trans s11;clear hv hb)))
  all_goals go_wp2
  all_goals go_ret2
  all_goals exact ⟨outP_new HV.out 0,HB3.out⟩
theorem ruled_19 (x:Int) (ea:Option Addr) (el ec:Nat) (es:List Int) (pa:Option Addr) (pl pc:Nat) (ps:List Int) (la:Option Addr) (ll lc:Nat) (lo:List Int) (ha:Option Addr) (hl hc:Nat) (hi:List Int) (ta:Option Addr) (tl tc:Nat) (st:List Int) (A:Option Addr) (len cap:Nat) (xss:List (List Int)) (w:World)
 (he:Lst w ea el ec es) (hp:Lst w pa pl pc ps) (hlo:Lst w la ll lc lo) (hhi:Lst w ha hl hc hi) (hst:Lst w ta tl tc st) (h:Lsts w A len xss) (hcap:len<=cap) (hz:∀ d∈xss,sizeE d=0) (hn:len=2) (hlen:len<=1048576) (b0:el<=1048576) (b1:pl<=1048576) (b2:ll<=1048576) (b3:hl<=1048576) (b4:tl<=1048576) :
 Calls Tryz.prog 42 #[.agg #[.int .i64 19,.slice ea el ec,.slice pa pl pc,.slice la ll lc,.slice ha hl hc,.slice ta tl tc,.int .i64 x],.slice A len cap] w fun e w'=>OutP e w' (putP es (xss[0]?.getD []) (xss[1]?.getD []))/\Below w.heap.size w w':=by
 have zz:=And.intro hcap (And.intro hlen (And.intro hn (And.intro b0 (And.intro b1 (And.intro b2 (And.intro b3 b4))))))
 clear zz
 have HE:=hide he
 have HP:=hide hp
 have HLO:=hide hlo
 have HHI:=hide hhi
 have HST:=hide hst
 have H:=hide h
 have HN:=hide h.1
 have HZ:=hide hz
 have HB1:=hide ((Below.refl w.heap.size w).alloc (Nat.le_refl _) (.cells #[.int .i64 19,.slice ea el ec,.slice pa pl pc,.slice la ll lc,.slice ha hl hc,.slice ta tl tc,.int .i64 x] 38))
 have HOP:=hide (OpAt.new w 19 (.slice ea el ec) (.slice pa pl pc) (.slice la ll lc) (.slice ha hl hc) (.slice ta tl tc) x)
 obtain ⟨o0,o1,o2,o3,o4,o5,o6⟩:=HOP.out.cells
 obtain ⟨b,off,rfl,hc⟩:=h.at (by omega)
 obtain ⟨X0,m0,c0,hc0,hl0⟩:=hc 0 (by omega)
 have hc0':w.cell? ⟨b,off,none⟩=some (.slice X0 m0 c0):=hc0
 obtain ⟨ds,hds⟩:∃ ds,ds=xss[0]?.getD []:=⟨_,rfl⟩
 rw [<-hds] at hl0 ⊢
 have HL0:=hide hl0
 have HC0:=hide hc0'
 have hzd:sizeE ds=0:=by rw [hds];exact hz _ (mem_getDL xss 0 (by rw [h.1];omega))
 have HZD:=hide hzd
 have h06:m0<=6:=by have:=(sizeE_ok hzd).1;have:=hl0.1.1;omega
 have HD1:=hide (HL0.out.below HB1.out)
 have q0:=(HB1.out.cell (p:=⟨b,off,none⟩) (lt_of_cell hc0')).trans hc0'
 have i0:(0:Int)<(len:Int):=by omega
 obtain ⟨X1,m1,c1,hc1,hl1⟩:=hc 1 (by omega)
 obtain ⟨ds1,hds1⟩:∃ ds1,ds1=xss[1]?.getD []:=⟨_,rfl⟩
 rw [<-hds1] at hl1 ⊢
 have HL1:=hide hl1
 have HCC:Hid (w.cell? ⟨b,off+1,none⟩=some (.slice X1 m1 c1)):=hc1
 have hzd1:sizeE ds1=0:=by rw [hds1];exact hz _ (mem_getDL xss 1 (by rw [h.1];omega))
 have h16:m1<=6:=by have:=(sizeE_ok hzd1).1;have:=hl1.1.1;omega
 have q1:=(HB1.out.cell (p:=⟨b,off+1,none⟩) (lt_of_cell hc1)).trans hc1
 have i1:(1:Int)<(len:Int):=by omega
 clear h he hp hlo hhi hst hz hc hc0 hc0' hl0 hds hzd hc1 hl1 hds1 hzd1
 have HN0:=hide HL0.out.1.1
 have HN1:=hide HL1.out.1.1
 have HNE:=hide HE.out.1.1
 by_cases c1:el=1
 case neg =>
  have hp:putP es ds ds1=([],6):=by unfold putP;rw [if_pos (by rw [HNE.out];exact c1)]
  rw [hp]
  have q:((el:Int) != 1)=true:=by simp;omega
  clear hp c1
  go_enter Tryz.func42,Tryz.ntmps42
  go_wp2_with fail
  go_quiet (fail)
  go_wp2
  go_ret2
  exact ⟨outP_none _ _,Below.on HB1.out (below_drewN _ _)⟩
 subst c1
 by_cases c2:m0<m1
 · have hp:putP es ds ds1=([],6):=by unfold putP;rw [if_neg (by rw [HNE.out];simp),if_pos (by rw [HN0.out,HN1.out];exact c2)]
   rw [hp]
   have q:decide (m0<m1)=true:=decide_eq_true c2
   have q':decide ((m0:Int)<(m1:Int))=true:=decide_eq_true (by omega)
   clear hp
   go_enter Tryz.func42,Tryz.ntmps42
   go_wp2_with fail
   go_quiet (fail)
   go_wp2
   go_ret2
   exact ⟨outP_none _ _,Below.on HB1.out (below_drewN _ _)⟩
 have q2:decide (m0<m1)=false:=decide_eq_false c2
 have q2':decide ((m0:Int)<(m1:Int))=false:=decide_eq_false (by omega)
 have hcap0:=HL0.out.2.1
 have HT:=hide (lst_take HL0.out m1 (by omega))
 have HSL:Hid (∀ n c1 c2,Calls Tryz.prog 12 #[.slice X0 m1 c1,.slice X1 m1 c2] ((w.alloc (.cells #[.int .i64 19,.slice ea 1 ec,.slice pa pl pc,.slice la ll lc,.slice ha hl hc,.slice ta tl tc,.int .i64 x] 38)).drewN n) fun e w'=>e=.returned (.bool (decide (ds.take m1=ds1)))/\∃ k,w'=((w.alloc (.cells #[.int .i64 19,.slice ea 1 ec,.slice pa pl pc,.slice la ll lc,.slice ha hl hc,.slice ta tl tc,.int .i64 x] 38)).drewN n).drewN k):=fun n c1 c2=>sameList_any _ _ _ (ds.take m1) _ _ _ ds1 _ (HT.out.1.below (Below.on HB1.out (below_drewN _ n))) (HL1.out.1.below (Below.on HB1.out (below_drewN _ n)))
 have HPF:Hid (¬ ds.take m1=ds1->putP es ds ds1=([],6)):=fun c3=>by unfold putP;rw [if_neg (by rw [HNE.out];simp),if_neg (by rw [HN0.out,HN1.out];exact c2),if_neg (by rw [HN1.out];exact c3)]
 have HPT:Hid (ds.take m1=ds1->putP es ds ds1=(es++ds.drop m1,0)):=fun c3=>by unfold putP;rw [if_neg (by rw [HNE.out];simp),if_neg (by rw [HN0.out,HN1.out];exact c2),if_pos (by rw [HN1.out];exact c3),HN1.out]
 obtain ⟨B,hBB⟩:∃ B,B=decide (ds.take m1=ds1):=⟨_,rfl⟩
 rw [<-hBB] at HSL
 have HBB:=hide hBB
 have hle:m1<=m0:=by omega
 clear hBB c2
 go_enter Tryz.func42,Tryz.ntmps42
 go_wp2_with fail
 go_cut [158] (fun t wc=>t=.bool (!B)/\Below (w.heap.size+1) (w.alloc (.cells #[.int .i64 19,.slice ea 1 ec,.slice pa pl pc,.slice la ll lc,.slice ha hl hc,.slice ta tl tc,.int .i64 x] 38)) wc)
 case first =>
  go_quiet ((go_at_call 12;exact Calls.quiet_of (HSL.out _ _ _)))
  go_wp2
  go_meet
  exact ⟨rfl,below_drewN _ _⟩
 case rest =>
  obtain ⟨rfl,hW⟩:=hcut
  have hW':Below (w.alloc (.cells #[.int .i64 19,.slice ea 1 ec,.slice pa pl pc,.slice la ll lc,.slice ha hl hc,.slice ta tl tc,.int .i64 x] 38)).heap.size (w.alloc (.cells #[.int .i64 19,.slice ea 1 ec,.slice pa pl pc,.slice la ll lc,.slice ha hl hc,.slice ta tl tc,.int .i64 x] 38)) wc:=by simpa using hW
  have HBC:=hide (Below.on HB1.out hW')
  have HOC:=hide (HOP.out.below hW')
  clear hW hW' o0 o1 o2 o3 o4 o5 o6 q0 q1
  obtain ⟨o0,o1,o2,o3,o4,o5,o6⟩:=HOC.out.cells
  have q0:=(HBC.out.cell (p:=⟨b,off,none⟩) (lt_of_cell HC0.out)).trans HC0.out
  have q1:=(HBC.out.cell (p:=⟨b,off+1,none⟩) (lt_of_cell HCC.out)).trans HCC.out
  clear q2 q2' HSL HT
  cases B with
  | false =>
   go_wp2
   go_ret2
   rw [HPF.out (of_decide_eq_false HBB.out.symm)]
   exact ⟨outP_none _ _,HBC.out⟩
  | true =>
   have HPP:=hide (HPT.out (of_decide_eq_true HBB.out.symm))
   clear HPF HPT HBB
   cases X0 with
   | none =>
    obtain rfl:m0=0:=by
     rcases HL0.out.1.2.2.2 with e | ⟨_,_,e,_⟩
     · exact e
     · cases e
    obtain rfl:m1=0:=by omega
    have HL:Hid (Lst w none 0 c0 (ds.drop 0)):=by rw [Hid,List.drop_zero];exact HL0.out
    go_wp2_with fail
    have j1:(0:Int)<=(0:Int):=Int.natCast_nonneg _
    have j2:(0:Int)<=(0:Int):=by omega
    have j3:(0:Int)<=(c0:Int):=by omega
    go_region_held3 (fun w'=>w'.cell? ⟨b,off,none⟩=some (.slice none 0 c0)/\w'.cell? ⟨b,off+1,none⟩=some (.slice X1 0 c1)/\w'.cell? ⟨w.heap.size,1,none⟩=some (.slice ea 1 ec)) (refine ⟨?_,?_,?_⟩<;>with_reducible (repeat (first | assumption | apply drew_cell))) ((first | (go_at_call 58;refine (both_any _ _ _ es _ _ _ _ _ (HE.out.below HBC.out.drew) (HL.out.below HBC.out.drew) (by omega)).mono ?_;rintro e w1 ⟨⟨v1,rfl,hv⟩,hb⟩;have HV:=hide hv;have HB2:=hide (Below.on HBC.out.drew hb);have s0:=(hb.cell (p:=⟨b,off,none⟩) (lt_of_cell (drew_cell q0))).trans (drew_cell q0);have s1:=(hb.cell (p:=⟨b,off+1,none⟩) (lt_of_cell (drew_cell q1))).trans (drew_cell q1);have s2:=(hb.cell (p:=⟨w.heap.size,1,none⟩) (lt_of_cell (drew_cell o1))).trans (drew_cell o1);clear hv hb)))
    all_goals go_wp2
    all_goals go_ret2
    all_goals rw [HPP.out]
    all_goals exact ⟨outP_new HV.out 0,HB2.out⟩
   | some p0 =>
   by_cases cc:c0=m1
   · obtain rfl:=cc.symm
     obtain rfl:m0=m1:=by omega
     have HL:Hid (Lst w (some p0) 0 0 (ds.drop m0)):=by
      rw [List.drop_eq_nil_of_le (by rw [HN0.out];exact Nat.le_refl _)];exact lst_empty w _ _
     go_wp2_with fail
     have j1:(0:Int)<=(m0:Int):=Int.natCast_nonneg _
     have j2:(m0:Int)<=(m0:Int):=by omega
     have j3:(m0:Int)<=(m0:Int):=by omega
     go_region_held3 (fun w'=>w'.cell? ⟨b,off,none⟩=some (.slice (some p0) m0 m0)/\w'.cell? ⟨b,off+1,none⟩=some (.slice X1 m0 c1)/\w'.cell? ⟨w.heap.size,1,none⟩=some (.slice ea 1 ec)) (refine ⟨?_,?_,?_⟩<;>with_reducible (repeat (first | assumption | apply drew_cell))) ((first | (go_at_call 58;refine (both_any _ _ _ es _ _ _ _ _ (HE.out.below HBC.out.drew) (HL.out.below HBC.out.drew) (by omega)).mono ?_;rintro e w1 ⟨⟨v1,rfl,hv⟩,hb⟩;have HV:=hide hv;have HB2:=hide (Below.on HBC.out.drew hb);have s0:=(hb.cell (p:=⟨b,off,none⟩) (lt_of_cell (drew_cell q0))).trans (drew_cell q0);have s1:=(hb.cell (p:=⟨b,off+1,none⟩) (lt_of_cell (drew_cell q1))).trans (drew_cell q1);have s2:=(hb.cell (p:=⟨w.heap.size,1,none⟩) (lt_of_cell (drew_cell o1))).trans (drew_cell o1);clear hv hb)))
     all_goals go_wp2
     all_goals go_ret2
     all_goals rw [HPP.out]
     all_goals exact ⟨outP_new HV.out 0,HB2.out⟩
   by_cases cz:m0=0
   · subst cz
     obtain rfl:m1=0:=by omega
     have HL:Hid (Lst w (some p0) 0 c0 (ds.drop 0)):=by rw [Hid,List.drop_zero];exact HL0.out
     go_wp2_with fail
     have j1:(0:Int)<=(0:Int):=Int.natCast_nonneg _
     have j2:(0:Int)<=(0:Int):=by omega
     have j3:(0:Int)<=(c0:Int):=by omega
     go_region_held3 (fun w'=>w'.cell? ⟨b,off,none⟩=some (.slice (some p0) 0 c0)/\w'.cell? ⟨b,off+1,none⟩=some (.slice X1 0 c1)/\w'.cell? ⟨w.heap.size,1,none⟩=some (.slice ea 1 ec)) (refine ⟨?_,?_,?_⟩<;>with_reducible (repeat (first | assumption | apply drew_cell))) ((first | (go_at_call 58;refine (both_any _ _ _ es _ _ _ _ _ (HE.out.below HBC.out.drew) (HL.out.below HBC.out.drew) (by omega)).mono ?_;rintro e w1 ⟨⟨v1,rfl,hv⟩,hb⟩;have HV:=hide hv;have HB2:=hide (Below.on HBC.out.drew hb);have s0:=(hb.cell (p:=⟨b,off,none⟩) (lt_of_cell (drew_cell q0))).trans (drew_cell q0);have s1:=(hb.cell (p:=⟨b,off+1,none⟩) (lt_of_cell (drew_cell q1))).trans (drew_cell q1);have s2:=(hb.cell (p:=⟨w.heap.size,1,none⟩) (lt_of_cell (drew_cell o1))).trans (drew_cell o1);clear hv hb)))
     all_goals go_wp2
     all_goals go_ret2
     all_goals rw [HPP.out]
     all_goals exact ⟨outP_new HV.out 0,HB2.out⟩
   · obtain ⟨bb,offb,e,hbb,hcc⟩:=HL0.out.1.at (by omega)
     cases e
     have HL:=hide (lst_drop HL0.out m1 (by omega))
     clear hcc
     go_wp2_with fail
     have j1:(0:Int)<=(m1:Int):=Int.natCast_nonneg _
     have j2:(m1:Int)<=(m0:Int):=by omega
     have j3:(m1:Int)<=(c0:Int):=by omega
     go_region_held3 (fun w'=>w'.cell? ⟨b,off,none⟩=some (.slice (some ⟨bb,offb,none⟩) m0 c0)/\w'.cell? ⟨b,off+1,none⟩=some (.slice X1 m1 c1)/\w'.cell? ⟨w.heap.size,1,none⟩=some (.slice ea 1 ec)) (refine ⟨?_,?_,?_⟩<;>with_reducible (repeat (first | assumption | apply drew_cell))) ((first | (go_at_call 58;refine (both_any _ _ _ es _ _ _ _ _ (HE.out.below HBC.out.drew) (HL.out.below HBC.out.drew) (by omega)).mono ?_;rintro e w1 ⟨⟨v1,rfl,hv⟩,hb⟩;have HV:=hide hv;have HB2:=hide (Below.on HBC.out.drew hb);have s0:=(hb.cell (p:=⟨b,off,none⟩) (lt_of_cell (drew_cell q0))).trans (drew_cell q0);have s1:=(hb.cell (p:=⟨b,off+1,none⟩) (lt_of_cell (drew_cell q1))).trans (drew_cell q1);have s2:=(hb.cell (p:=⟨w.heap.size,1,none⟩) (lt_of_cell (drew_cell o1))).trans (drew_cell o1);clear hv hb)))
     all_goals go_wp2
     all_goals go_ret2
     all_goals rw [HPP.out]
     all_goals exact ⟨outP_new HV.out 0,HB2.out⟩
end Go.Proofs.YtdbkgeehjfnhbaaGreatDoor.V
