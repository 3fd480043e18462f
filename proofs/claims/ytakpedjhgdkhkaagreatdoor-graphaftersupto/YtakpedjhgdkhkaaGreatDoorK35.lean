/-
  
-/
import Derived.Test.YtakpedjhgdkhkaaGreatDoorK27
import Derived.Test.YtakpedjhgdkhkaaGreatDoorK28
import Derived.Test.YtakpedjhgdkhkaaGreatDoorK30
import Derived.Test.YtakpedjhgdkhkaaGreatDoorK31
namespace Go.Proofs.YtakpedjhgdkhkaaGreatDoor.V
set_option maxRecDepth 100000
set_option maxHeartbeats 8000000
open Go.RowKit
theorem shape_17 (x:Int) (ea:Option Addr) (el ec:Nat) (es:List Int) (pa:Option Addr) (pl pc:Nat) (ps:List Int) (la:Option Addr) (ll lc:Nat) (lo:List Int) (ha:Option Addr) (hl hc:Nat) (hi:List Int) (ta:Option Addr) (tl tc:Nat) (st:List Int) (A:Option Addr) (len cap:Nat) (xss:List (List Int)) (w:World)
 (he:Lst w ea el ec es) (hp:Lst w pa pl pc ps) (hlo:Lst w la ll lc lo) (hhi:Lst w ha hl hc hi) (hst:Lst w ta tl tc st) (h:Lsts w A len xss) (hcap:len<=cap) (hz:∀ d∈xss,sizeE d=0) (hn:1<=len) (hlen:len<=1048576) (b0:el<=1048576) (b1:pl<=1048576) (b2:ll<=1048576) (b3:hl<=1048576) (b4:tl<=1048576) :
 Calls Tryz.prog 43 #[.agg #[.int .i64 17,.slice ea el ec,.slice pa pl pc,.slice la ll lc,.slice ha hl hc,.slice ta tl tc,.int .i64 x],.slice A len cap] w fun e w'=>OutP e w' (joinP ps xss)/\Below w.heap.size w w':=by
 have zz:=And.intro hcap (And.intro hlen (And.intro hn (And.intro b0 (And.intro b1 (And.intro b2 (And.intro b3 b4))))))
 clear zz
 have HE:=hide he
 have HP:=hide hp
 have HLO:=hide hlo
 have HHI:=hide hhi
 have HST:=hide hst
 have H:=hide h
 have HN:=hide h.1
 have HZ:=hide hz
 have HB1:=hide ((Below.refl w.heap.size w).alloc (Nat.le_refl _) (.cells #[.int .i64 17,.slice ea el ec,.slice pa pl pc,.slice la ll lc,.slice ha hl hc,.slice ta tl tc,.int .i64 x] 38))
 have HOP:=hide (OpAt.new w 17 (.slice ea el ec) (.slice pa pl pc) (.slice la ll lc) (.slice ha hl hc) (.slice ta tl tc) x)
 obtain ⟨o0,o1,o2,o3,o4,o5,o6⟩:=HOP.out.cells
 obtain ⟨b,off,rfl,hc⟩:=h.at (by omega)
 obtain ⟨X0,m0,c0,hc0,hl0⟩:=hc 0 (by omega)
 have hc0':w.cell? ⟨b,off,none⟩=some (.slice X0 m0 c0):=hc0
 obtain ⟨ds,hds⟩:∃ ds,ds=xss[0]?.getD []:=⟨_,rfl⟩
 rw [<-hds] at hl0
 have HL0:=hide hl0
 have HC0:=hide hc0'
 have hzd:sizeE ds=0:=by rw [hds];exact hz _ (mem_getDL xss 0 (by rw [h.1];omega))
 have HZD:=hide hzd
 have h06:m0<=6:=by have:=(sizeE_ok hzd).1;have:=hl0.1.1;omega
 have HD1:=hide (HL0.out.below HB1.out)
 have q0:=(HB1.out.cell (p:=⟨b,off,none⟩) (lt_of_cell hc0')).trans hc0'
 have i0:(0:Int)<(len:Int):=by omega
 clear h he hp hlo hhi hst hz hc hc0 hc0' hl0 hds hzd
 go_enter Tryz.func43,Tryz.ntmps43
 go_wp2_with (go_at_call 64;refine (joinDims_any _ _ _ _ _ _ _ _ _ ps _ _ _ xss _ (HP.out.below (HB1.out)) (H.out.below (HB1.out)) hcap hn hlen HZ.out).mono ?_;rintro e w1 ⟨⟨Z,nz,cz,rfl,hi1,hnc⟩,hb⟩;have HI1:=hide hi1;have HB2:=hide (Below.on (HB1.out) hb);clear hi1 hb)
 go_ret2
 all_goals exact ⟨⟨_,_,_,rfl,HI1.out,hnc⟩,HB2.out⟩
theorem shape_18 (x:Int) (ea:Option Addr) (el ec:Nat) (es:List Int) (pa:Option Addr) (pl pc:Nat) (ps:List Int) (la:Option Addr) (ll lc:Nat) (lo:List Int) (ha:Option Addr) (hl hc:Nat) (hi:List Int) (ta:Option Addr) (tl tc:Nat) (st:List Int) (A:Option Addr) (len cap:Nat) (xss:List (List Int)) (w:World)
 (he:Lst w ea el ec es) (hp:Lst w pa pl pc ps) (hlo:Lst w la ll lc lo) (hhi:Lst w ha hl hc hi) (hst:Lst w ta tl tc st) (h:Lsts w A len xss) (hcap:len<=cap) (hz:∀ d∈xss,sizeE d=0) (hn:len=2) (hlen:len<=1048576) (b0:el<=1048576) (b1:pl<=1048576) (b2:ll<=1048576) (b3:hl<=1048576) (b4:tl<=1048576) :
 Calls Tryz.prog 43 #[.agg #[.int .i64 18,.slice ea el ec,.slice pa pl pc,.slice la ll lc,.slice ha hl hc,.slice ta tl tc,.int .i64 x],.slice A len cap] w fun e w'=>OutP e w' (takeP (xss[0]?.getD []) (xss[1]?.getD []))/\Below w.heap.size w w':=by
 have zz:=And.intro hcap (And.intro hlen (And.intro hn (And.intro b0 (And.intro b1 (And.intro b2 (And.intro b3 b4))))))
 clear zz
 have HE:=hide he
 have HP:=hide hp
 have HLO:=hide hlo
 have HHI:=hide hhi
 have HST:=hide hst
 have H:=hide h
 have HN:=hide h.1
 have HZ:=hide hz
 have HB1:=hide ((Below.refl w.heap.size w).alloc (Nat.le_refl _) (.cells #[.int .i64 18,.slice ea el ec,.slice pa pl pc,.slice la ll lc,.slice ha hl hc,.slice ta tl tc,.int .i64 x] 38))
 have HOP:=hide (OpAt.new w 18 (.slice ea el ec) (.slice pa pl pc) (.slice la ll lc) (.slice ha hl hc) (.slice ta tl tc) x)
 obtain ⟨o0,o1,o2,o3,o4,o5,o6⟩:=HOP.out.cells
 obtain ⟨b,off,rfl,hc⟩:=h.at (by omega)
 obtain ⟨X0,m0,c0,hc0,hl0⟩:=hc 0 (by omega)
 have hc0':w.cell? ⟨b,off,none⟩=some (.slice X0 m0 c0):=hc0
 obtain ⟨ds,hds⟩:∃ ds,ds=xss[0]?.getD []:=⟨_,rfl⟩
 rw [<-hds] at hl0 ⊢
 have HL0:=hide hl0
 have HC0:=hide hc0'
 have hzd:sizeE ds=0:=by rw [hds];exact hz _ (mem_getDL xss 0 (by rw [h.1];omega))
 have HZD:=hide hzd
 have h06:m0<=6:=by have:=(sizeE_ok hzd).1;have:=hl0.1.1;omega
 have HD1:=hide (HL0.out.below HB1.out)
 have q0:=(HB1.out.cell (p:=⟨b,off,none⟩) (lt_of_cell hc0')).trans hc0'
 have i0:(0:Int)<(len:Int):=by omega
 obtain ⟨X1,m1,c1,hc1,hl1⟩:=hc 1 (by omega)
 obtain ⟨ds1,hds1⟩:∃ ds1,ds1=xss[1]?.getD []:=⟨_,rfl⟩
 rw [<-hds1] at hl1 ⊢
 have HL1:=hide hl1
 have hzd1:sizeE ds1=0:=by rw [hds1];exact hz _ (mem_getDL xss 1 (by rw [h.1];omega))
 have h16:m1<=6:=by have:=(sizeE_ok hzd1).1;have:=hl1.1.1;omega
 have q1:=(HB1.out.cell (p:=⟨b,off+1,none⟩) (lt_of_cell hc1)).trans hc1
 have i1:(1:Int)<(len:Int):=by omega
 clear h he hp hlo hhi hst hz hc hc0 hc0' hl0 hds hzd hc1 hl1 hds1 hzd1
 go_enter Tryz.func43,Tryz.ntmps43
 go_wp2_with fail
 go_region_with (go_at_call 65;refine (takeDims_any _ _ _ ds _ _ _ ds1 _ (HL0.out.below (HB1.out.drew)) (HL1.out.below (HB1.out.drew)) h06 h16).mono ?_;rintro e w1 ⟨⟨Z,nz,cz,rfl,hi1,hnc⟩,hb⟩;have HI1:=hide hi1;have HB2:=hide (Below.on (HB1.out.drew) hb);clear hi1 hb)
 all_goals go_wp2
 all_goals go_ret2
 all_goals exact ⟨⟨_,_,_,rfl,HI1.out,hnc⟩,HB2.out⟩
theorem shape_19 (x:Int) (ea:Option Addr) (el ec:Nat) (es:List Int) (pa:Option Addr) (pl pc:Nat) (ps:List Int) (la:Option Addr) (ll lc:Nat) (lo:List Int) (ha:Option Addr) (hl hc:Nat) (hi:List Int) (ta:Option Addr) (tl tc:Nat) (st:List Int) (A:Option Addr) (len cap:Nat) (xss:List (List Int)) (w:World)
 (he:Lst w ea el ec es) (hp:Lst w pa pl pc ps) (hlo:Lst w la ll lc lo) (hhi:Lst w ha hl hc hi) (hst:Lst w ta tl tc st) (h:Lsts w A len xss) (hcap:len<=cap) (hz:∀ d∈xss,sizeE d=0) (hn:len=2) (hlen:len<=1048576) (b0:el<=1048576) (b1:pl<=1048576) (b2:ll<=1048576) (b3:hl<=1048576) (b4:tl<=1048576) :
 Calls Tryz.prog 43 #[.agg #[.int .i64 19,.slice ea el ec,.slice pa pl pc,.slice la ll lc,.slice ha hl hc,.slice ta tl tc,.int .i64 x],.slice A len cap] w fun e w'=>OutP e w' (putP es (xss[0]?.getD []) (xss[1]?.getD []))/\Below w.heap.size w w':=by
 have zz:=And.intro hcap (And.intro hlen (And.intro hn (And.intro b0 (And.intro b1 (And.intro b2 (And.intro b3 b4))))))
 clear zz
 have HE:=hide he
 have HP:=hide hp
 have HLO:=hide hlo
 have HHI:=hide hhi
 have HST:=hide hst
 have H:=hide h
 have HN:=hide h.1
 have HZ:=hide hz
 have HB1:=hide ((Below.refl w.heap.size w).alloc (Nat.le_refl _) (.cells #[.int .i64 19,.slice ea el ec,.slice pa pl pc,.slice la ll lc,.slice ha hl hc,.slice ta tl tc,.int .i64 x] 38))
 have HOP:=hide (OpAt.new w 19 (.slice ea el ec) (.slice pa pl pc) (.slice la ll lc) (.slice ha hl hc) (.slice ta tl tc) x)
 obtain ⟨o0,o1,o2,o3,o4,o5,o6⟩:=HOP.out.cells
 obtain ⟨b,off,rfl,hc⟩:=h.at (by omega)
 obtain ⟨X0,m0,c0,hc0,hl0⟩:=hc 0 (by omega)
 have hc0':w.cell? ⟨b,off,none⟩=some (.slice X0 m0 c0):=hc0
 obtain ⟨ds,hds⟩:∃ ds,ds=xss[0]?.getD []:=⟨_,rfl⟩
 rw [<-hds] at hl0 ⊢
 have HL0:=hide hl0
 have HC0:=hide hc0'
 have hzd:sizeE ds=0:=by rw [hds];exact hz _ (mem_getDL xss 0 (by rw [h.1];omega))
 have HZD:=hide hzd
 have h06:m0<=6:=by have:=(sizeE_ok hzd).1;have:=hl0.1.1;omega
 have HD1:=hide (HL0.out.below HB1.out)
 have q0:=(HB1.out.cell (p:=⟨b,off,none⟩) (lt_of_cell hc0')).trans hc0'
 have i0:(0:Int)<(len:Int):=by omega
 obtain ⟨X1,m1,c1,hc1,hl1⟩:=hc 1 (by omega)
 obtain ⟨ds1,hds1⟩:∃ ds1,ds1=xss[1]?.getD []:=⟨_,rfl⟩
 rw [<-hds1] at hl1 ⊢
 have HL1:=hide hl1
 have hzd1:sizeE ds1=0:=by rw [hds1];exact hz _ (mem_getDL xss 1 (by rw [h.1];omega))
 have h16:m1<=6:=by have:=(sizeE_ok hzd1).1;have:=hl1.1.1;omega
 have q1:=(HB1.out.cell (p:=⟨b,off+1,none⟩) (lt_of_cell hc1)).trans hc1
 have i1:(1:Int)<(len:Int):=by omega
 clear h he hp hlo hhi hst hz hc hc0 hc0' hl0 hds hzd hc1 hl1 hds1 hzd1
 go_enter Tryz.func43,Tryz.ntmps43
 go_wp2_with fail
 go_region_with (go_at_call 66;refine (putDims_any _ _ _ _ _ _ _ _ _ es _ _ _ ds _ _ _ ds1 _ (HE.out.below (HB1.out.drew)) (HL0.out.below (HB1.out.drew)) (HL1.out.below (HB1.out.drew)) h06 h16).mono ?_;rintro e w1 ⟨⟨Z,nz,cz,rfl,hi1,hnc⟩,hb⟩;have HI1:=hide hi1;have HB2:=hide (Below.on (HB1.out.drew) hb);clear hi1 hb)
 all_goals go_wp2
 all_goals go_ret2
 all_goals exact ⟨⟨_,_,_,rfl,HI1.out,hnc⟩,HB2.out⟩
end Go.Proofs.YtakpedjhgdkhkaaGreatDoor.V
