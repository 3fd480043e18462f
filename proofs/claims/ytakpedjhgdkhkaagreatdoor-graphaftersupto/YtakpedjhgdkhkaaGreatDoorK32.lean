/-
  
-/
import Derived.Test.YtakpedjhgdkhkaaGreatDoorK27
import Derived.Test.YtakpedjhgdkhkaaGreatDoorK28
import Derived.Test.YtakpedjhgdkhkaaGreatDoorK30
import Derived.Test.YtakpedjhgdkhkaaGreatDoorK31
namespace Go.Proofs.YtakpedjhgdkhkaaGreatDoor.V
set_option maxRecDepth 100000
set_option maxHeartbeats 8000000
open Go.RowKit
theorem shape_2 (x:Int) (ea:Option Addr) (el ec:Nat) (es:List Int) (pa:Option Addr) (pl pc:Nat) (ps:List Int) (la:Option Addr) (ll lc:Nat) (lo:List Int) (ha:Option Addr) (hl hc:Nat) (hi:List Int) (ta:Option Addr) (tl tc:Nat) (st:List Int) (A:Option Addr) (len cap:Nat) (xss:List (List Int)) (w:World)
 (he:Lst w ea el ec es) (hp:Lst w pa pl pc ps) (hlo:Lst w la ll lc lo) (hhi:Lst w ha hl hc hi) (hst:Lst w ta tl tc st) (h:Lsts w A len xss) (hcap:len<=cap) (hz:∀ d∈xss,sizeE d=0) (hn:len=0) (hlen:len<=1048576) (b0:el<=1048576) (b1:pl<=1048576) (b2:ll<=1048576) (b3:hl<=1048576) (b4:tl<=1048576) :
 Calls Tryz.prog 43 #[.agg #[.int .i64 2,.slice ea el ec,.slice pa pl pc,.slice la ll lc,.slice ha hl hc,.slice ta tl tc,.int .i64 x],.slice A len cap] w fun e w'=>OutP e w' ((es,0))/\Below w.heap.size w w':=by
 have zz:=And.intro hcap (And.intro hlen (And.intro hn (And.intro b0 (And.intro b1 (And.intro b2 (And.intro b3 b4))))))
 clear zz
 have HE:=hide he
 have HP:=hide hp
 have HLO:=hide hlo
 have HHI:=hide hhi
 have HST:=hide hst
 have H:=hide h
 have HN:=hide h.1
 have HZ:=hide hz
 have HB1:=hide ((Below.refl w.heap.size w).alloc (Nat.le_refl _) (.cells #[.int .i64 2,.slice ea el ec,.slice pa pl pc,.slice la ll lc,.slice ha hl hc,.slice ta tl tc,.int .i64 x] 38))
 have HOP:=hide (OpAt.new w 2 (.slice ea el ec) (.slice pa pl pc) (.slice la ll lc) (.slice ha hl hc) (.slice ta tl tc) x)
 obtain ⟨o0,o1,o2,o3,o4,o5,o6⟩:=HOP.out.cells
 clear h he hp hlo hhi hst hz
 go_enter Tryz.func43,Tryz.ntmps43
 go_wp2_with (go_at_call 35;refine (afresh_any _ _ _ es _ (HE.out.below HB1.out).1 (by omega)).mono ?_;rintro e w1 ⟨⟨g,rfl,hr,hg⟩,hb⟩;have HR:=hide hr;have HB2:=hide (Below.on HB1.out hb);have hgg:w.heap.size<=g:=Nat.le_trans HB1.out.size hg;clear hr hb hg)
 go_ret2
 exact ⟨outP_new (newAt_row HR.out hgg HE.out.1.1 (by omega) HE.out.1.2.2.1) 0,HB2.out⟩
theorem shape_9 (x:Int) (ea:Option Addr) (el ec:Nat) (es:List Int) (pa:Option Addr) (pl pc:Nat) (ps:List Int) (la:Option Addr) (ll lc:Nat) (lo:List Int) (ha:Option Addr) (hl hc:Nat) (hi:List Int) (ta:Option Addr) (tl tc:Nat) (st:List Int) (A:Option Addr) (len cap:Nat) (xss:List (List Int)) (w:World)
 (he:Lst w ea el ec es) (hp:Lst w pa pl pc ps) (hlo:Lst w la ll lc lo) (hhi:Lst w ha hl hc hi) (hst:Lst w ta tl tc st) (h:Lsts w A len xss) (hcap:len<=cap) (hz:∀ d∈xss,sizeE d=0) (hn:len=1) (hlen:len<=1048576) (b0:el<=1048576) (b1:pl<=1048576) (b2:ll<=1048576) (b3:hl<=1048576) (b4:tl<=1048576) :
 Calls Tryz.prog 43 #[.agg #[.int .i64 9,.slice ea el ec,.slice pa pl pc,.slice la ll lc,.slice ha hl hc,.slice ta tl tc,.int .i64 x],.slice A len cap] w fun e w'=>OutP e w' ((okL (sprE 0 (xss[0]?.getD []) (stepsV (xss[0]?.getD [])) es ps) es,sprE 0 (xss[0]?.getD []) (stepsV (xss[0]?.getD [])) es ps))/\Below w.heap.size w w':=by
 have zz:=And.intro hcap (And.intro hlen (And.intro hn (And.intro b0 (And.intro b1 (And.intro b2 (And.intro b3 b4))))))
 clear zz
 have HE:=hide he
 have HP:=hide hp
 have HLO:=hide hlo
 have HHI:=hide hhi
 have HST:=hide hst
 have H:=hide h
 have HN:=hide h.1
 have HZ:=hide hz
 have HB1:=hide ((Below.refl w.heap.size w).alloc (Nat.le_refl _) (.cells #[.int .i64 9,.slice ea el ec,.slice pa pl pc,.slice la ll lc,.slice ha hl hc,.slice ta tl tc,.int .i64 x] 38))
 have HOP:=hide (OpAt.new w 9 (.slice ea el ec) (.slice pa pl pc) (.slice la ll lc) (.slice ha hl hc) (.slice ta tl tc) x)
 obtain ⟨o0,o1,o2,o3,o4,o5,o6⟩:=HOP.out.cells
 obtain ⟨b,off,rfl,hc⟩:=h.at (by omega)
 obtain ⟨X0,m0,c0,hc0,hl0⟩:=hc 0 (by omega)
 have hc0':w.cell? ⟨b,off,none⟩=some (.slice X0 m0 c0):=hc0
 obtain ⟨ds,hds⟩:∃ ds,ds=xss[0]?.getD []:=⟨_,rfl⟩
 rw [<-hds] at hl0 ⊢
 have HL0:=hide hl0
 have HC0:=hide hc0'
 have hzd:sizeE ds=0:=by rw [hds];exact hz _ (mem_getDL xss 0 (by rw [h.1];omega))
 have HZD:=hide hzd
 have h06:m0<=6:=by have:=(sizeE_ok hzd).1;have:=hl0.1.1;omega
 have HD1:=hide (HL0.out.below HB1.out)
 have q0:=(HB1.out.cell (p:=⟨b,off,none⟩) (lt_of_cell hc0')).trans hc0'
 have i0:(0:Int)<(len:Int):=by omega
 have q0b:=((HB1.out.alloc HB1.out.size (.cells #[.int .i64 0,.slice none 0 0,.slice none 0 0] 79)).cell (p:=⟨b,off,none⟩) (lt_of_cell hc0')).trans hc0'
 obtain ⟨p0,p1,p2,p3,p4,p5,p6⟩:=(HOP.out.alloc (.cells #[.int .i64 0,.slice none 0 0,.slice none 0 0] 79)).cells
 clear h he hp hlo hhi hst hz hc hc0 hc0' hl0 hds hzd
 go_enter Tryz.func43,Tryz.ntmps43
 go_wp2_with fail
 go_region_with (first | (go_at_call 59;refine (seen_spread 9 x _ _ _ ds _ _ _ es _ _ _ ps _ _ _ lo _ _ _ hi _ _ _ st _ (HL0.out.below (HB1.out.drew)).1 (HE.out.below (HB1.out.drew)).1 (HP.out.below (HB1.out.drew)).1 (HLO.out.below (HB1.out.drew)).1 (HHI.out.below (HB1.out.drew)).1 (HST.out.below (HB1.out.drew)).1 HZD.out rfl).mono ?_;rintro e w1 ⟨⟨da1,dl1,dc1,sa1,sl1,sc1,rfl,hi1,_,hc1,_,hF⟩,hb⟩;have HI1:=hide hi1;have HB2:=hide (Below.on (HB1.out.drew) hb); clear hi1 hb hF) | (go_at_call 59;refine (seen_spread 9 x _ _ _ ds _ _ _ es _ _ _ ps _ _ _ lo _ _ _ hi _ _ _ st _ (HL0.out.below ((HB1.out.alloc HB1.out.size (.cells #[.int .i64 0,.slice none 0 0,.slice none 0 0] 79)).drew)).1 (HE.out.below ((HB1.out.alloc HB1.out.size (.cells #[.int .i64 0,.slice none 0 0,.slice none 0 0] 79)).drew)).1 (HP.out.below ((HB1.out.alloc HB1.out.size (.cells #[.int .i64 0,.slice none 0 0,.slice none 0 0] 79)).drew)).1 (HLO.out.below ((HB1.out.alloc HB1.out.size (.cells #[.int .i64 0,.slice none 0 0,.slice none 0 0] 79)).drew)).1 (HHI.out.below ((HB1.out.alloc HB1.out.size (.cells #[.int .i64 0,.slice none 0 0,.slice none 0 0] 79)).drew)).1 (HST.out.below ((HB1.out.alloc HB1.out.size (.cells #[.int .i64 0,.slice none 0 0,.slice none 0 0] 79)).drew)).1 HZD.out rfl).mono ?_;rintro e w1 ⟨⟨da1,dl1,dc1,sa1,sl1,sc1,rfl,hi1,_,hc1,_,hF⟩,hb⟩;have HI1:=hide hi1;have HB2:=hide (Below.on ((HB1.out.alloc HB1.out.size (.cells #[.int .i64 0,.slice none 0 0,.slice none 0 0] 79)).drew) hb);have HF1:Hid (da1=ea\/Far (w.heap.size+2) da1):=(by { rcases hF with e | e;exact .inl e;exact .inr (far_mono e (by { simp })) });have hv0:=(ViewAt.new (w.alloc (.cells #[.int .i64 9,.slice ea el ec,.slice pa pl pc,.slice la ll lc,.slice ha hl hc,.slice ta tl tc,.int .i64 x] 38)) (.int .i64 0) (.slice none 0 0) (.slice none 0 0)).below (Below.on ((Below.refl _ _).drew) hb);simp only [World.size_alloc] at hv0;obtain ⟨⟨u0,u1,u2⟩,f0,f1,f2⟩:=hv0.cells;clear hv0;clear hi1 hb hF))
 all_goals go_wp2
 all_goals go_ret2
 all_goals first | exact ⟨⟨_,_,_,rfl,HI1.out.below ((Below.refl _ _).alloc (Nat.le_refl _) _),hc1⟩,HB2.out.alloc HB2.out.size _⟩ | exact ⟨⟨_,_,_,rfl,ints_putL HI1.out HF1.out HE.out.1 (okL_len HI1.out (fun _=>HE.out.1.1)) (by omega) (by omega),hc1⟩,below_put HB2.out (by omega)⟩
theorem shape_10 (x:Int) (ea:Option Addr) (el ec:Nat) (es:List Int) (pa:Option Addr) (pl pc:Nat) (ps:List Int) (la:Option Addr) (ll lc:Nat) (lo:List Int) (ha:Option Addr) (hl hc:Nat) (hi:List Int) (ta:Option Addr) (tl tc:Nat) (st:List Int) (A:Option Addr) (len cap:Nat) (xss:List (List Int)) (w:World)
 (he:Lst w ea el ec es) (hp:Lst w pa pl pc ps) (hlo:Lst w la ll lc lo) (hhi:Lst w ha hl hc hi) (hst:Lst w ta tl tc st) (h:Lsts w A len xss) (hcap:len<=cap) (hz:∀ d∈xss,sizeE d=0) (hn:len=1) (hlen:len<=1048576) (b0:el<=1048576) (b1:pl<=1048576) (b2:ll<=1048576) (b3:hl<=1048576) (b4:tl<=1048576) :
 Calls Tryz.prog 43 #[.agg #[.int .i64 10,.slice ea el ec,.slice pa pl pc,.slice la ll lc,.slice ha hl hc,.slice ta tl tc,.int .i64 x],.slice A len cap] w fun e w'=>OutP e w' (sumP (xss[0]?.getD []) ps)/\Below w.heap.size w w':=by
 have zz:=And.intro hcap (And.intro hlen (And.intro hn (And.intro b0 (And.intro b1 (And.intro b2 (And.intro b3 b4))))))
 clear zz
 have HE:=hide he
 have HP:=hide hp
 have HLO:=hide hlo
 have HHI:=hide hhi
 have HST:=hide hst
 have H:=hide h
 have HN:=hide h.1
 have HZ:=hide hz
 have HB1:=hide ((Below.refl w.heap.size w).alloc (Nat.le_refl _) (.cells #[.int .i64 10,.slice ea el ec,.slice pa pl pc,.slice la ll lc,.slice ha hl hc,.slice ta tl tc,.int .i64 x] 38))
 have HOP:=hide (OpAt.new w 10 (.slice ea el ec) (.slice pa pl pc) (.slice la ll lc) (.slice ha hl hc) (.slice ta tl tc) x)
 obtain ⟨o0,o1,o2,o3,o4,o5,o6⟩:=HOP.out.cells
 obtain ⟨b,off,rfl,hc⟩:=h.at (by omega)
 obtain ⟨X0,m0,c0,hc0,hl0⟩:=hc 0 (by omega)
 have hc0':w.cell? ⟨b,off,none⟩=some (.slice X0 m0 c0):=hc0
 obtain ⟨ds,hds⟩:∃ ds,ds=xss[0]?.getD []:=⟨_,rfl⟩
 rw [<-hds] at hl0 ⊢
 have HL0:=hide hl0
 have HC0:=hide hc0'
 have hzd:sizeE ds=0:=by rw [hds];exact hz _ (mem_getDL xss 0 (by rw [h.1];omega))
 have HZD:=hide hzd
 have h06:m0<=6:=by have:=(sizeE_ok hzd).1;have:=hl0.1.1;omega
 have HD1:=hide (HL0.out.below HB1.out)
 have q0:=(HB1.out.cell (p:=⟨b,off,none⟩) (lt_of_cell hc0')).trans hc0'
 have i0:(0:Int)<(len:Int):=by omega
 clear h he hp hlo hhi hst hz hc hc0 hc0' hl0 hds hzd
 go_enter Tryz.func43,Tryz.ntmps43
 go_wp2_with fail
 go_region_with (go_at_call 60;refine (sumDims_any _ _ _ _ _ _ _ _ _ ps _ _ _ ds _ (HP.out.below (HB1.out.drew)) (HL0.out.below (HB1.out.drew)).1 HZD.out).mono ?_;rintro e w1 ⟨⟨Z,nz,cz,rfl,hi1,hnc⟩,hb⟩;have HI1:=hide hi1;have HB2:=hide (Below.on (HB1.out.drew) hb);clear hi1 hb)
 all_goals go_wp2
 all_goals go_ret2
 all_goals exact ⟨⟨_,_,_,rfl,HI1.out,hnc⟩,HB2.out⟩
end Go.Proofs.YtakpedjhgdkhkaaGreatDoor.V
