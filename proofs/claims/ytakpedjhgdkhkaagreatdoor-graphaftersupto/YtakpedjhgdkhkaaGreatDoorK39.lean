import Derived.Test.YtakpedjhgdkhkaaGreatDoorK27
import Derived.Test.YtakpedjhgdkhkaaGreatDoorK16
import Derived.Test.YtakpedjhgdkhkaaGreatDoorK25
import Derived.Test.YtakpedjhgdkhkaaGreatDoorK38
import Derived.Test.YtakpedjhgdkhkaaGreatDoorK14
import Derived.Test.YtakpedjhgdkhkaaGreatDoorK28
import Derived.Test.YtakpedjhgdkhkaaGreatDoorK30
import Derived.Test.YtakpedjhgdkhkaaGreatDoorK33
namespace Go.Proofs.YtakpedjhgdkhkaaGreatDoor.V
set_option maxRecDepth 100000
set_option maxHeartbeats 8000000
open Go.RowKit
theorem viewDims_turn (k x:Int) (da:Option Addr) (dl dc:Nat) (ds:List Int) (ea:Option Addr) (el ec:Nat) (es:List Int) (pa:Option Addr) (pl pc:Nat) (ps:List Int) (la:Option Addr) (ll lc:Nat) (lo:List Int) (ha:Option Addr) (hl hc:Nat) (hi:List Int) (ta:Option Addr) (tl tc:Nat) (st:List Int) (w:World)
 (hd:Ints w da dl ds) (he:Ints w ea el es) (hp:Ints w pa pl ps) (hlo:Ints w la ll lo) (hhi:Ints w ha hl hi) (hst:Ints w ta tl st) (hz:sizeE ds=0) (hdc:dl<=dc) (hec:el<=ec) (hk:k=11) :
 Calls Tryz.prog 58 #[.agg #[.int .i64 k,.slice ea el ec,.slice pa pl pc,.slice la ll lc,.slice ha hl hc,.slice ta tl tc,.int .i64 x],.slice da dl dc] w fun e w'=>OutP e w' (okL (turnE 0 ds (stepsV ds) ps) (taken ds ps),turnE 0 ds (stepsV ds) ps)/\Below w.heap.size w w':=by
 obtain ⟨E,hEE⟩:∃ E,turnE 0 ds (stepsV ds) ps=E:=⟨_,rfl⟩
 rw [hEE]
 have HEE:=hide hEE
 have HD:=hide hd
 have HE:=hide he
 have HP:=hide hp
 have HLO:=hide hlo
 have HHI:=hide hhi
 have HST:=hide hst
 have HZ:=hide hz
 have HEC:=hide hec
 have c9:(k == 9)=false:=by simp;omega
 have c11:(k == 11)=true:=by simp;omega
 clear hd he hp hlo hhi hst hz hEE hk hec
 have HB2:=hide ((Below.refl w.heap.size w).alloc (Nat.le_refl _) (.cells #[.int .i64 k,.slice ea el ec,.slice pa pl pc,.slice la ll lc,.slice ha hl hc,.slice ta tl tc,.int .i64 x] 38))
 have HOP:=hide (OpAt.new w k (.slice ea el ec) (.slice pa pl pc) (.slice la ll lc) (.slice ha hl hc) (.slice ta tl tc) x)
 go_enter Tryz.func58,Tryz.ntmps58
 go_wp2_with fail
 refine (rwhole_any _ _ _ ds _ (HD.out.below HB2.out) hdc).mono ?_
 rintro e w1 ⟨hgv,hb⟩
 rw [HZ.out] at hgv
 obtain ⟨da1,dl1,dc1,sa1,sl1,sc1,rfl,hi1,hj1,⟨hq1,hq2⟩,hF,hG⟩:=hgv
 have e1:∀ l,okL 0 l=l:=fun l=>by unfold okL;rw [if_pos rfl]
 rw [e1] at hi1 hj1
 have HI1:=hide hi1
 have HJ1:=hide hj1
 have HB1:=hide (Below.on HB2.out hb)
 obtain ⟨o0,o1,o2,o3,o4,o5,o6⟩:=(HOP.out.below hb).cells
 obtain ⟨o0',o1',o2',o3',o4',o5',o6'⟩:=((HOP.out.below hb).alloc (.cells #[.int .i64 0,.slice da1 dl1 dc1,.slice sa1 sl1 sc1] 79)).cells
 clear hi1 hj1 hF hG hb e1
 have HA1:=hide ((Below.refl w1.heap.size w1).alloc (Nat.le_refl _) (.cells #[.int .i64 0,.slice da1 dl1 dc1,.slice sa1 sl1 sc1] 79))
 have HV1:=hide (ViewAt.new w1 (.int .i64 0) (.slice da1 dl1 dc1) (.slice sa1 sl1 sc1))
 have HB3:=hide (HB1.out.alloc HB1.out.size (.cells #[.int .i64 0,.slice da1 dl1 dc1,.slice sa1 sl1 sc1] 79))
 go_wp2_with (go_at_call 75;refine (rturn_anyF _ _ _ _ ds _ _ _ (stepsV ds) _ _ _ ps _ (HI1.out.below HA1.out) (HJ1.out.below HA1.out) (HP.out.below HB3.out)).mono ?_;rintro e w2 ⟨hgv,hb⟩;rw [HEE.out] at hgv;obtain ⟨da2,dl2,dc2,sa2,sl2,sc2,rfl,hi2,hj2,⟨hc1,hc2⟩,hF2,hG2⟩:=hgv;simp only [World.size_alloc] at hF2 hG2;have HI2:=hide hi2;have HF2:=hide hF2;have HR2:=hide (HV1.out.below hb);have HB4:=hide (Below.on HB3.out hb);obtain ⟨⟨r0,r1,r2⟩,f0,f1,f2⟩:=HR2.out.cells;clear hb hi2 hj2 hF2 hG2)
 go_ret2
 have hln:0<dl2->0<dl1:=okL_len HI2.out (fun h=>by
  have hE:=HEE.out
  rw [h] at hE
  have h1:=(turn_again hE).1.1
  have h2:=HI1.out.1
  rw [taken_length];omega)
 exact ⟨⟨_,_,_,rfl,ints_putL HI2.out HF2.out HI1.out hln (Nat.le_refl _) (by omega),hc1⟩,below_put HB4.out HB1.out.size⟩
theorem viewDims_flip (k x:Int) (da:Option Addr) (dl dc:Nat) (ds:List Int) (ea:Option Addr) (el ec:Nat) (es:List Int) (pa:Option Addr) (pl pc:Nat) (ps:List Int) (la:Option Addr) (ll lc:Nat) (lo:List Int) (ha:Option Addr) (hl hc:Nat) (hi:List Int) (ta:Option Addr) (tl tc:Nat) (st:List Int) (w:World)
 (hd:Ints w da dl ds) (he:Ints w ea el es) (hp:Ints w pa pl ps) (hlo:Ints w la ll lo) (hhi:Ints w ha hl hi) (hst:Ints w ta tl st) (hz:sizeE ds=0) (hdc:dl<=dc) (hec:el<=ec) (hk:k≠9/\k≠11/\k≠13) :
 Calls Tryz.prog 58 #[.agg #[.int .i64 k,.slice ea el ec,.slice pa pl pc,.slice la ll lc,.slice ha hl hc,.slice ta tl tc,.int .i64 x],.slice da dl dc] w fun e w'=>OutP e w' (okL (flipE 0 ds (stepsV ds) ps) (ds),flipE 0 ds (stepsV ds) ps)/\Below w.heap.size w w':=by
 obtain ⟨E,hEE⟩:∃ E,flipE 0 ds (stepsV ds) ps=E:=⟨_,rfl⟩
 rw [hEE]
 have HEE:=hide hEE
 have HD:=hide hd
 have HE:=hide he
 have HP:=hide hp
 have HLO:=hide hlo
 have HHI:=hide hhi
 have HST:=hide hst
 have HZ:=hide hz
 have HEC:=hide hec
 have c9:(k == 9)=false:=by simp;omega
 have c11:(k == 11)=false:=by simp;omega
 have c13:(k == 13)=false:=by simp;omega
 clear hd he hp hlo hhi hst hz hEE hk hec
 have HB2:=hide ((Below.refl w.heap.size w).alloc (Nat.le_refl _) (.cells #[.int .i64 k,.slice ea el ec,.slice pa pl pc,.slice la ll lc,.slice ha hl hc,.slice ta tl tc,.int .i64 x] 38))
 have HOP:=hide (OpAt.new w k (.slice ea el ec) (.slice pa pl pc) (.slice la ll lc) (.slice ha hl hc) (.slice ta tl tc) x)
 go_enter Tryz.func58,Tryz.ntmps58
 go_wp2_with fail
 refine (rwhole_any _ _ _ ds _ (HD.out.below HB2.out) hdc).mono ?_
 rintro e w1 ⟨hgv,hb⟩
 rw [HZ.out] at hgv
 obtain ⟨da1,dl1,dc1,sa1,sl1,sc1,rfl,hi1,hj1,⟨hq1,hq2⟩,hF,hG⟩:=hgv
 have e1:∀ l,okL 0 l=l:=fun l=>by unfold okL;rw [if_pos rfl]
 rw [e1] at hi1 hj1
 have HI1:=hide hi1
 have HJ1:=hide hj1
 have HB1:=hide (Below.on HB2.out hb)
 obtain ⟨o0,o1,o2,o3,o4,o5,o6⟩:=(HOP.out.below hb).cells
 obtain ⟨o0',o1',o2',o3',o4',o5',o6'⟩:=((HOP.out.below hb).alloc (.cells #[.int .i64 0,.slice da1 dl1 dc1,.slice sa1 sl1 sc1] 79)).cells
 clear hi1 hj1 hF hG hb e1
 have HA1:=hide ((Below.refl w1.heap.size w1).alloc (Nat.le_refl _) (.cells #[.int .i64 0,.slice da1 dl1 dc1,.slice sa1 sl1 sc1] 79))
 have HV1:=hide (ViewAt.new w1 (.int .i64 0) (.slice da1 dl1 dc1) (.slice sa1 sl1 sc1))
 have HB3:=hide (HB1.out.alloc HB1.out.size (.cells #[.int .i64 0,.slice da1 dl1 dc1,.slice sa1 sl1 sc1] 79))
 go_wp2_with (go_at_call 77;refine (rflip_any _ _ _ _ ds _ _ _ (stepsV ds) _ _ _ ps _ (HI1.out.below HA1.out) (HJ1.out.below HA1.out) (HP.out.below HB3.out) hq1).mono ?_;rintro e w2 ⟨hgv,hb⟩;rw [HEE.out] at hgv;obtain ⟨da2,dl2,dc2,sa2,sl2,sc2,rfl,hi2,hj2,⟨hc1,hc2⟩,hF2,hG2⟩:=hgv;simp only [World.size_alloc] at hF2 hG2;have HI2:=hide hi2;have HF2:=hide hF2;have HR2:=hide (HV1.out.below hb);have HB4:=hide (Below.on HB3.out hb);obtain ⟨⟨r0,r1,r2⟩,f0,f1,f2⟩:=HR2.out.cells;clear hb hi2 hj2 hF2 hG2)
 go_ret2
 have hln:0<dl2->0<dl1:=okL_len HI2.out (fun h=>by
  have hE:=HEE.out
  rw [h] at hE
  exact HI1.out.1)
 exact ⟨⟨_,_,_,rfl,ints_putL HI2.out HF2.out HI1.out hln (Nat.le_refl _) (by omega),hc1⟩,below_put HB4.out HB1.out.size⟩
theorem viewDims_cut (k x:Int) (da:Option Addr) (dl dc:Nat) (ds:List Int) (ea:Option Addr) (el ec:Nat) (es:List Int) (pa:Option Addr) (pl pc:Nat) (ps:List Int) (la:Option Addr) (ll lc:Nat) (lo:List Int) (ha:Option Addr) (hl hc:Nat) (hi:List Int) (ta:Option Addr) (tl tc:Nat) (st:List Int) (w:World)
 (hd:Ints w da dl ds) (he:Ints w ea el es) (hp:Ints w pa pl ps) (hlo:Ints w la ll lo) (hhi:Ints w ha hl hi) (hst:Ints w ta tl st) (hz:sizeE ds=0) (hdc:dl<=dc) (hec:el<=ec) (hk:k=13) :
 Calls Tryz.prog 58 #[.agg #[.int .i64 k,.slice ea el ec,.slice pa pl pc,.slice la ll lc,.slice ha hl hc,.slice ta tl tc,.int .i64 x],.slice da dl dc] w fun e w'=>OutP e w' (okL (cutE 0 ds (stepsV ds) lo hi st) (cutD ds lo hi st),cutE 0 ds (stepsV ds) lo hi st)/\Below w.heap.size w w':=by
 obtain ⟨E,hEE⟩:∃ E,cutE 0 ds (stepsV ds) lo hi st=E:=⟨_,rfl⟩
 rw [hEE]
 have HEE:=hide hEE
 have HD:=hide hd
 have HE:=hide he
 have HP:=hide hp
 have HLO:=hide hlo
 have HHI:=hide hhi
 have HST:=hide hst
 have HZ:=hide hz
 have HEC:=hide hec
 have c9:(k == 9)=false:=by simp;omega
 have c11:(k == 11)=false:=by simp;omega
 have c13:(k == 13)=true:=by simp;omega
 clear hd he hp hlo hhi hst hz hEE hk hec
 have HB2:=hide ((Below.refl w.heap.size w).alloc (Nat.le_refl _) (.cells #[.int .i64 k,.slice ea el ec,.slice pa pl pc,.slice la ll lc,.slice ha hl hc,.slice ta tl tc,.int .i64 x] 38))
 have HOP:=hide (OpAt.new w k (.slice ea el ec) (.slice pa pl pc) (.slice la ll lc) (.slice ha hl hc) (.slice ta tl tc) x)
 go_enter Tryz.func58,Tryz.ntmps58
 go_wp2_with fail
 refine (rwhole_any _ _ _ ds _ (HD.out.below HB2.out) hdc).mono ?_
 rintro e w1 ⟨hgv,hb⟩
 rw [HZ.out] at hgv
 obtain ⟨da1,dl1,dc1,sa1,sl1,sc1,rfl,hi1,hj1,⟨hq1,hq2⟩,hF,hG⟩:=hgv
 have e1:∀ l,okL 0 l=l:=fun l=>by unfold okL;rw [if_pos rfl]
 rw [e1] at hi1 hj1
 have HI1:=hide hi1
 have HJ1:=hide hj1
 have HB1:=hide (Below.on HB2.out hb)
 obtain ⟨o0,o1,o2,o3,o4,o5,o6⟩:=(HOP.out.below hb).cells
 obtain ⟨o0',o1',o2',o3',o4',o5',o6'⟩:=((HOP.out.below hb).alloc (.cells #[.int .i64 0,.slice da1 dl1 dc1,.slice sa1 sl1 sc1] 79)).cells
 clear hi1 hj1 hF hG hb e1
 have HA1:=hide ((Below.refl w1.heap.size w1).alloc (Nat.le_refl _) (.cells #[.int .i64 0,.slice da1 dl1 dc1,.slice sa1 sl1 sc1] 79))
 have HV1:=hide (ViewAt.new w1 (.int .i64 0) (.slice da1 dl1 dc1) (.slice sa1 sl1 sc1))
 have HB3:=hide (HB1.out.alloc HB1.out.size (.cells #[.int .i64 0,.slice da1 dl1 dc1,.slice sa1 sl1 sc1] 79))
 go_wp2_with (go_at_call 76;refine (rcut_any _ _ _ _ ds _ _ _ (stepsV ds) _ _ _ lo _ _ _ hi _ _ _ st _ (HI1.out.below HA1.out) (HJ1.out.below HA1.out) (HLO.out.below HB3.out) (HHI.out.below HB3.out) (HST.out.below HB3.out)).mono ?_;rintro e w2 ⟨hgv,hb⟩;rw [HEE.out] at hgv;obtain ⟨da2,dl2,dc2,sa2,sl2,sc2,rfl,hi2,hj2,⟨hc1,hc2⟩,hF2,hG2⟩:=hgv;simp only [World.size_alloc] at hF2 hG2;have HI2:=hide hi2;have HF2:=hide hF2;have HR2:=hide (HV1.out.below hb);have HB4:=hide (Below.on HB3.out hb);obtain ⟨⟨r0,r1,r2⟩,f0,f1,f2⟩:=HR2.out.cells;clear hb hi2 hj2 hF2 hG2)
 go_ret2
 have hln:0<dl2->0<dl1:=okL_len HI2.out (fun h=>by
  have hE:=HEE.out
  rw [h] at hE
  rw [cutD_length];exact HI1.out.1)
 exact ⟨⟨_,_,_,rfl,ints_putL HI2.out HF2.out HI1.out hln (Nat.le_refl _) (by omega),hc1⟩,below_put HB4.out HB1.out.size⟩
theorem viewDims_spread (k x:Int) (da:Option Addr) (dl dc:Nat) (ds:List Int) (ea:Option Addr) (el ec:Nat) (es:List Int) (pa:Option Addr) (pl pc:Nat) (ps:List Int) (la:Option Addr) (ll lc:Nat) (lo:List Int) (ha:Option Addr) (hl hc:Nat) (hi:List Int) (ta:Option Addr) (tl tc:Nat) (st:List Int) (w:World)
 (hd:Ints w da dl ds) (he:Ints w ea el es) (hp:Ints w pa pl ps) (hlo:Ints w la ll lo) (hhi:Ints w ha hl hi) (hst:Ints w ta tl st) (hz:sizeE ds=0) (hdc:dl<=dc) (hec:el<=ec) (hk:k=9) :
 Calls Tryz.prog 58 #[.agg #[.int .i64 k,.slice ea el ec,.slice pa pl pc,.slice la ll lc,.slice ha hl hc,.slice ta tl tc,.int .i64 x],.slice da dl dc] w fun e w'=>OutP e w' (okL (sprE 0 ds (stepsV ds) es ps) (es),sprE 0 ds (stepsV ds) es ps)/\Below w.heap.size w w':=by
 obtain ⟨E,hEE⟩:∃ E,sprE 0 ds (stepsV ds) es ps=E:=⟨_,rfl⟩
 rw [hEE]
 have HEE:=hide hEE
 have HD:=hide hd
 have HE:=hide he
 have HP:=hide hp
 have HLO:=hide hlo
 have HHI:=hide hhi
 have HST:=hide hst
 have HZ:=hide hz
 have HEC:=hide hec
 have c9:(k == 9)=true:=by simp;omega
 clear hd he hp hlo hhi hst hz hEE hk hec
 have HB2:=hide ((Below.refl w.heap.size w).alloc (Nat.le_refl _) (.cells #[.int .i64 k,.slice ea el ec,.slice pa pl pc,.slice la ll lc,.slice ha hl hc,.slice ta tl tc,.int .i64 x] 38))
 have HOP:=hide (OpAt.new w k (.slice ea el ec) (.slice pa pl pc) (.slice la ll lc) (.slice ha hl hc) (.slice ta tl tc) x)
 go_enter Tryz.func58,Tryz.ntmps58
 go_wp2_with fail
 refine (rwhole_any _ _ _ ds _ (HD.out.below HB2.out) hdc).mono ?_
 rintro e w1 ⟨hgv,hb⟩
 rw [HZ.out] at hgv
 obtain ⟨da1,dl1,dc1,sa1,sl1,sc1,rfl,hi1,hj1,⟨hq1,hq2⟩,hF,hG⟩:=hgv
 have e1:∀ l,okL 0 l=l:=fun l=>by unfold okL;rw [if_pos rfl]
 rw [e1] at hi1 hj1
 have HI1:=hide hi1
 have HJ1:=hide hj1
 have HB1:=hide (Below.on HB2.out hb)
 obtain ⟨o0,o1,o2,o3,o4,o5,o6⟩:=(HOP.out.below hb).cells
 obtain ⟨o0',o1',o2',o3',o4',o5',o6'⟩:=((HOP.out.below hb).alloc (.cells #[.int .i64 0,.slice da1 dl1 dc1,.slice sa1 sl1 sc1] 79)).cells
 clear hi1 hj1 hF hG hb e1
 have HA1:=hide ((Below.refl w1.heap.size w1).alloc (Nat.le_refl _) (.cells #[.int .i64 0,.slice da1 dl1 dc1,.slice sa1 sl1 sc1] 79))
 have HV1:=hide (ViewAt.new w1 (.int .i64 0) (.slice da1 dl1 dc1) (.slice sa1 sl1 sc1))
 have HB3:=hide (HB1.out.alloc HB1.out.size (.cells #[.int .i64 0,.slice da1 dl1 dc1,.slice sa1 sl1 sc1] 79))
 go_wp2_with (go_at_call 74;refine (rspread_any _ _ _ _ ds _ _ _ (stepsV ds) _ _ _ es _ _ _ ps _ (HI1.out.below HA1.out) (HJ1.out.below HA1.out) (HE.out.below HB3.out) (HP.out.below HB3.out) HEC.out).mono ?_;rintro e w2 ⟨hgv,hb⟩;rw [HEE.out] at hgv;obtain ⟨da2,dl2,dc2,sa2,sl2,sc2,rfl,hi2,hj2,⟨hc1,hc2⟩,hF2,hG2⟩:=hgv;simp only [World.size_alloc] at hF2 hG2;have HI2:=hide hi2;have HF2:=hide hF2;have HR2:=hide (HV1.out.below hb);have HB4:=hide (Below.on HB3.out hb);obtain ⟨⟨r0,r1,r2⟩,f0,f1,f2⟩:=HR2.out.cells;clear hb hi2 hj2 hF2 hG2)
 go_ret2
 have hln:0<dl2->0<el:=okL_len HI2.out (fun h=>by
  have hE:=HEE.out
  rw [h] at hE
  exact HE.out.1)
 exact ⟨⟨_,_,_,rfl,ints_putL HI2.out HF2.out (HE.out.below HB1.out) hln (Nat.le_refl _) (by omega),hc1⟩,below_put HB4.out HB1.out.size⟩
theorem ruled_2 (x:Int) (ea:Option Addr) (el ec:Nat) (es:List Int) (pa:Option Addr) (pl pc:Nat) (ps:List Int) (la:Option Addr) (ll lc:Nat) (lo:List Int) (ha:Option Addr) (hl hc:Nat) (hi:List Int) (ta:Option Addr) (tl tc:Nat) (st:List Int) (A:Option Addr) (len cap:Nat) (xss:List (List Int)) (w:World)
 (he:Lst w ea el ec es) (hp:Lst w pa pl pc ps) (hlo:Lst w la ll lc lo) (hhi:Lst w ha hl hc hi) (hst:Lst w ta tl tc st) (h:Lsts w A len xss) (hcap:len<=cap) (hz:∀ d∈xss,sizeE d=0) (hn:len=0) (hlen:len<=1048576) (b0:el<=1048576) (b1:pl<=1048576) (b2:ll<=1048576) (b3:hl<=1048576) (b4:tl<=1048576) :
 Calls Tryz.prog 41 #[.agg #[.int .i64 2,.slice ea el ec,.slice pa pl pc,.slice la ll lc,.slice ha hl hc,.slice ta tl tc,.int .i64 x],.slice A len cap] w fun e w'=>OutP e w' ((es,0))/\Below w.heap.size w w':=by
 have zz:=And.intro hcap (And.intro hlen (And.intro hn (And.intro b0 (And.intro b1 (And.intro b2 (And.intro b3 b4))))))
 clear zz
 have HE:=hide he
 have HP:=hide hp
 have HLO:=hide hlo
 have HHI:=hide hhi
 have HST:=hide hst
 have H:=hide h
 have HN:=hide h.1
 have HZ:=hide hz
 have HB1:=hide ((Below.refl w.heap.size w).alloc (Nat.le_refl _) (.cells #[.int .i64 2,.slice ea el ec,.slice pa pl pc,.slice la ll lc,.slice ha hl hc,.slice ta tl tc,.int .i64 x] 38))
 have HOP:=hide (OpAt.new w 2 (.slice ea el ec) (.slice pa pl pc) (.slice la ll lc) (.slice ha hl hc) (.slice ta tl tc) x)
 obtain ⟨o0,o1,o2,o3,o4,o5,o6⟩:=HOP.out.cells
 clear h he hp hlo hhi hst hz
 go_enter Tryz.func41,Tryz.ntmps41
 go_wp2
 go_ret2
 exact ⟨outP_lst (HE.out.below HB1.out) 0,HB1.out⟩
theorem ruled_9 (x:Int) (ea:Option Addr) (el ec:Nat) (es:List Int) (pa:Option Addr) (pl pc:Nat) (ps:List Int) (la:Option Addr) (ll lc:Nat) (lo:List Int) (ha:Option Addr) (hl hc:Nat) (hi:List Int) (ta:Option Addr) (tl tc:Nat) (st:List Int) (A:Option Addr) (len cap:Nat) (xss:List (List Int)) (w:World)
 (he:Lst w ea el ec es) (hp:Lst w pa pl pc ps) (hlo:Lst w la ll lc lo) (hhi:Lst w ha hl hc hi) (hst:Lst w ta tl tc st) (h:Lsts w A len xss) (hcap:len<=cap) (hz:∀ d∈xss,sizeE d=0) (hn:len=1) (hlen:len<=1048576) (b0:el<=1048576) (b1:pl<=1048576) (b2:ll<=1048576) (b3:hl<=1048576) (b4:tl<=1048576) :
 Calls Tryz.prog 41 #[.agg #[.int .i64 9,.slice ea el ec,.slice pa pl pc,.slice la ll lc,.slice ha hl hc,.slice ta tl tc,.int .i64 x],.slice A len cap] w fun e w'=>OutP e w' ((okL (sprE 0 (xss[0]?.getD []) (stepsV (xss[0]?.getD [])) es ps) es,sprE 0 (xss[0]?.getD []) (stepsV (xss[0]?.getD [])) es ps))/\Below w.heap.size w w':=by
 have zz:=And.intro hcap (And.intro hlen (And.intro hn (And.intro b0 (And.intro b1 (And.intro b2 (And.intro b3 b4))))))
 clear zz
 have HE:=hide he
 have HP:=hide hp
 have HLO:=hide hlo
 have HHI:=hide hhi
 have HST:=hide hst
 have H:=hide h
 have HN:=hide h.1
 have HZ:=hide hz
 have HB1:=hide ((Below.refl w.heap.size w).alloc (Nat.le_refl _) (.cells #[.int .i64 9,.slice ea el ec,.slice pa pl pc,.slice la ll lc,.slice ha hl hc,.slice ta tl tc,.int .i64 x] 38))
 have HOP:=hide (OpAt.new w 9 (.slice ea el ec) (.slice pa pl pc) (.slice la ll lc) (.slice ha hl hc) (.slice ta tl tc) x)
 obtain ⟨o0,o1,o2,o3,o4,o5,o6⟩:=HOP.out.cells
 obtain ⟨b,off,rfl,hc⟩:=h.at (by omega)
 obtain ⟨X0,m0,c0,hc0,hl0⟩:=hc 0 (by omega)
 have hc0':w.cell? ⟨b,off,none⟩=some (.slice X0 m0 c0):=hc0
 obtain ⟨ds,hds⟩:∃ ds,ds=xss[0]?.getD []:=⟨_,rfl⟩
 rw [<-hds] at hl0 ⊢
 have HL0:=hide hl0
 have HC0:=hide hc0'
 have hzd:sizeE ds=0:=by rw [hds];exact hz _ (mem_getDL xss 0 (by rw [h.1];omega))
 have HZD:=hide hzd
 have h06:m0<=6:=by have:=(sizeE_ok hzd).1;have:=hl0.1.1;omega
 have HD1:=hide (HL0.out.below HB1.out)
 have q0:=(HB1.out.cell (p:=⟨b,off,none⟩) (lt_of_cell hc0')).trans hc0'
 have i0:(0:Int)<(len:Int):=by omega
 clear h he hp hlo hhi hst hz hc hc0 hc0' hl0 hds hzd
 go_enter Tryz.func41,Tryz.ntmps41
 go_wp2_with fail
 go_region_with (go_at_call 58;refine (viewDims_spread 9 x _ _ _ ds _ _ _ es _ _ _ ps _ _ _ lo _ _ _ hi _ _ _ st _ (HL0.out.below (HB1.out.drew)).1 (HE.out.below (HB1.out.drew)).1 (HP.out.below (HB1.out.drew)).1 (HLO.out.below (HB1.out.drew)).1 (HHI.out.below (HB1.out.drew)).1 (HST.out.below (HB1.out.drew)).1 HZD.out HL0.out.2.1 HE.out.2.1 rfl).mono ?_;rintro e w1 ⟨⟨Z,nz,cz,rfl,hi1,hnc⟩,hb⟩;have HI1:=hide hi1;have HB2:=hide (Below.on (HB1.out.drew) hb);clear hi1 hb)
 all_goals go_wp2
 all_goals go_ret2
 all_goals exact ⟨⟨_,_,_,rfl,HI1.out,hnc⟩,HB2.out⟩
theorem ruled_11 (x:Int) (ea:Option Addr) (el ec:Nat) (es:List Int) (pa:Option Addr) (pl pc:Nat) (ps:List Int) (la:Option Addr) (ll lc:Nat) (lo:List Int) (ha:Option Addr) (hl hc:Nat) (hi:List Int) (ta:Option Addr) (tl tc:Nat) (st:List Int) (A:Option Addr) (len cap:Nat) (xss:List (List Int)) (w:World)
 (he:Lst w ea el ec es) (hp:Lst w pa pl pc ps) (hlo:Lst w la ll lc lo) (hhi:Lst w ha hl hc hi) (hst:Lst w ta tl tc st) (h:Lsts w A len xss) (hcap:len<=cap) (hz:∀ d∈xss,sizeE d=0) (hn:len=1) (hlen:len<=1048576) (b0:el<=1048576) (b1:pl<=1048576) (b2:ll<=1048576) (b3:hl<=1048576) (b4:tl<=1048576) :
 Calls Tryz.prog 41 #[.agg #[.int .i64 11,.slice ea el ec,.slice pa pl pc,.slice la ll lc,.slice ha hl hc,.slice ta tl tc,.int .i64 x],.slice A len cap] w fun e w'=>OutP e w' ((okL (turnE 0 (xss[0]?.getD []) (stepsV (xss[0]?.getD [])) ps) (taken (xss[0]?.getD []) ps),turnE 0 (xss[0]?.getD []) (stepsV (xss[0]?.getD [])) ps))/\Below w.heap.size w w':=by
 have zz:=And.intro hcap (And.intro hlen (And.intro hn (And.intro b0 (And.intro b1 (And.intro b2 (And.intro b3 b4))))))
 clear zz
 have HE:=hide he
 have HP:=hide hp
 have HLO:=hide hlo
 have HHI:=hide hhi
 have HST:=hide hst
 have H:=hide h
 have HN:=hide h.1
 have HZ:=hide hz
 have HB1:=hide ((Below.refl w.heap.size w).alloc (Nat.le_refl _) (.cells #[.int .i64 11,.slice ea el ec,.slice pa pl pc,.slice la ll lc,.slice ha hl hc,.slice ta tl tc,.int .i64 x] 38))
 have HOP:=hide (OpAt.new w 11 (.slice ea el ec) (.slice pa pl pc) (.slice la ll lc) (.slice ha hl hc) (.slice ta tl tc) x)
 obtain ⟨o0,o1,o2,o3,o4,o5,o6⟩:=HOP.out.cells
 obtain ⟨b,off,rfl,hc⟩:=h.at (by omega)
 obtain ⟨X0,m0,c0,hc0,hl0⟩:=hc 0 (by omega)
 have hc0':w.cell? ⟨b,off,none⟩=some (.slice X0 m0 c0):=hc0
 obtain ⟨ds,hds⟩:∃ ds,ds=xss[0]?.getD []:=⟨_,rfl⟩
 rw [<-hds] at hl0 ⊢
 have HL0:=hide hl0
 have HC0:=hide hc0'
 have hzd:sizeE ds=0:=by rw [hds];exact hz _ (mem_getDL xss 0 (by rw [h.1];omega))
 have HZD:=hide hzd
 have h06:m0<=6:=by have:=(sizeE_ok hzd).1;have:=hl0.1.1;omega
 have HD1:=hide (HL0.out.below HB1.out)
 have q0:=(HB1.out.cell (p:=⟨b,off,none⟩) (lt_of_cell hc0')).trans hc0'
 have i0:(0:Int)<(len:Int):=by omega
 clear h he hp hlo hhi hst hz hc hc0 hc0' hl0 hds hzd
 go_enter Tryz.func41,Tryz.ntmps41
 go_wp2_with fail
 go_region_with (go_at_call 58;refine (viewDims_turn 11 x _ _ _ ds _ _ _ es _ _ _ ps _ _ _ lo _ _ _ hi _ _ _ st _ (HL0.out.below (HB1.out.drew)).1 (HE.out.below (HB1.out.drew)).1 (HP.out.below (HB1.out.drew)).1 (HLO.out.below (HB1.out.drew)).1 (HHI.out.below (HB1.out.drew)).1 (HST.out.below (HB1.out.drew)).1 HZD.out HL0.out.2.1 HE.out.2.1 rfl).mono ?_;rintro e w1 ⟨⟨Z,nz,cz,rfl,hi1,hnc⟩,hb⟩;have HI1:=hide hi1;have HB2:=hide (Below.on (HB1.out.drew) hb);clear hi1 hb)
 all_goals go_wp2
 all_goals go_ret2
 all_goals exact ⟨⟨_,_,_,rfl,HI1.out,hnc⟩,HB2.out⟩
theorem ruled_13 (x:Int) (ea:Option Addr) (el ec:Nat) (es:List Int) (pa:Option Addr) (pl pc:Nat) (ps:List Int) (la:Option Addr) (ll lc:Nat) (lo:List Int) (ha:Option Addr) (hl hc:Nat) (hi:List Int) (ta:Option Addr) (tl tc:Nat) (st:List Int) (A:Option Addr) (len cap:Nat) (xss:List (List Int)) (w:World)
 (he:Lst w ea el ec es) (hp:Lst w pa pl pc ps) (hlo:Lst w la ll lc lo) (hhi:Lst w ha hl hc hi) (hst:Lst w ta tl tc st) (h:Lsts w A len xss) (hcap:len<=cap) (hz:∀ d∈xss,sizeE d=0) (hn:len=1) (hlen:len<=1048576) (b0:el<=1048576) (b1:pl<=1048576) (b2:ll<=1048576) (b3:hl<=1048576) (b4:tl<=1048576) :
 Calls Tryz.prog 41 #[.agg #[.int .i64 13,.slice ea el ec,.slice pa pl pc,.slice la ll lc,.slice ha hl hc,.slice ta tl tc,.int .i64 x],.slice A len cap] w fun e w'=>OutP e w' ((okL (cutE 0 (xss[0]?.getD []) (stepsV (xss[0]?.getD [])) lo hi st) (cutD (xss[0]?.getD []) lo hi st),cutE 0 (xss[0]?.getD []) (stepsV (xss[0]?.getD [])) lo hi st))/\Below w.heap.size w w':=by
 have zz:=And.intro hcap (And.intro hlen (And.intro hn (And.intro b0 (And.intro b1 (And.intro b2 (And.intro b3 b4))))))
 clear zz
 have HE:=hide he
 have HP:=hide hp
 have HLO:=hide hlo
 have HHI:=hide hhi
 have HST:=hide hst
 have H:=hide h
 have HN:=hide h.1
 have HZ:=hide hz
 have HB1:=hide ((Below.refl w.heap.size w).alloc (Nat.le_refl _) (.cells #[.int .i64 13,.slice ea el ec,.slice pa pl pc,.slice la ll lc,.slice ha hl hc,.slice ta tl tc,.int .i64 x] 38))
 have HOP:=hide (OpAt.new w 13 (.slice ea el ec) (.slice pa pl pc) (.slice la ll lc) (.slice ha hl hc) (.slice ta tl tc) x)
 obtain ⟨o0,o1,o2,o3,o4,o5,o6⟩:=HOP.out.cells
 obtain ⟨b,off,rfl,hc⟩:=h.at (by omega)
 obtain ⟨X0,m0,c0,hc0,hl0⟩:=hc 0 (by omega)
 have hc0':w.cell? ⟨b,off,none⟩=some (.slice X0 m0 c0):=hc0
 obtain ⟨ds,hds⟩:∃ ds,ds=xss[0]?.getD []:=⟨_,rfl⟩
 rw [<-hds] at hl0 ⊢
 have HL0:=hide hl0
 have HC0:=hide hc0'
 have hzd:sizeE ds=0:=by rw [hds];exact hz _ (mem_getDL xss 0 (by rw [h.1];omega))
 have HZD:=hide hzd
 have h06:m0<=6:=by have:=(sizeE_ok hzd).1;have:=hl0.1.1;omega
 have HD1:=hide (HL0.out.below HB1.out)
 have q0:=(HB1.out.cell (p:=⟨b,off,none⟩) (lt_of_cell hc0')).trans hc0'
 have i0:(0:Int)<(len:Int):=by omega
 clear h he hp hlo hhi hst hz hc hc0 hc0' hl0 hds hzd
 go_enter Tryz.func41,Tryz.ntmps41
 go_wp2_with fail
 go_region_with (go_at_call 58;refine (viewDims_cut 13 x _ _ _ ds _ _ _ es _ _ _ ps _ _ _ lo _ _ _ hi _ _ _ st _ (HL0.out.below (HB1.out.drew)).1 (HE.out.below (HB1.out.drew)).1 (HP.out.below (HB1.out.drew)).1 (HLO.out.below (HB1.out.drew)).1 (HHI.out.below (HB1.out.drew)).1 (HST.out.below (HB1.out.drew)).1 HZD.out HL0.out.2.1 HE.out.2.1 rfl).mono ?_;rintro e w1 ⟨⟨Z,nz,cz,rfl,hi1,hnc⟩,hb⟩;have HI1:=hide hi1;have HB2:=hide (Below.on (HB1.out.drew) hb);clear hi1 hb)
 all_goals go_wp2
 all_goals go_ret2
 all_goals exact ⟨⟨_,_,_,rfl,HI1.out,hnc⟩,HB2.out⟩
theorem ruled_15 (x:Int) (ea:Option Addr) (el ec:Nat) (es:List Int) (pa:Option Addr) (pl pc:Nat) (ps:List Int) (la:Option Addr) (ll lc:Nat) (lo:List Int) (ha:Option Addr) (hl hc:Nat) (hi:List Int) (ta:Option Addr) (tl tc:Nat) (st:List Int) (A:Option Addr) (len cap:Nat) (xss:List (List Int)) (w:World)
 (he:Lst w ea el ec es) (hp:Lst w pa pl pc ps) (hlo:Lst w la ll lc lo) (hhi:Lst w ha hl hc hi) (hst:Lst w ta tl tc st) (h:Lsts w A len xss) (hcap:len<=cap) (hz:∀ d∈xss,sizeE d=0) (hn:len=1) (hlen:len<=1048576) (b0:el<=1048576) (b1:pl<=1048576) (b2:ll<=1048576) (b3:hl<=1048576) (b4:tl<=1048576) :
 Calls Tryz.prog 41 #[.agg #[.int .i64 15,.slice ea el ec,.slice pa pl pc,.slice la ll lc,.slice ha hl hc,.slice ta tl tc,.int .i64 x],.slice A len cap] w fun e w'=>OutP e w' ((okL (flipE 0 (xss[0]?.getD []) (stepsV (xss[0]?.getD [])) ps) (xss[0]?.getD []),flipE 0 (xss[0]?.getD []) (stepsV (xss[0]?.getD [])) ps))/\Below w.heap.size w w':=by
 have zz:=And.intro hcap (And.intro hlen (And.intro hn (And.intro b0 (And.intro b1 (And.intro b2 (And.intro b3 b4))))))
 clear zz
 have HE:=hide he
 have HP:=hide hp
 have HLO:=hide hlo
 have HHI:=hide hhi
 have HST:=hide hst
 have H:=hide h
 have HN:=hide h.1
 have HZ:=hide hz
 have HB1:=hide ((Below.refl w.heap.size w).alloc (Nat.le_refl _) (.cells #[.int .i64 15,.slice ea el ec,.slice pa pl pc,.slice la ll lc,.slice ha hl hc,.slice ta tl tc,.int .i64 x] 38))
 have HOP:=hide (OpAt.new w 15 (.slice ea el ec) (.slice pa pl pc) (.slice la ll lc) (.slice ha hl hc) (.slice ta tl tc) x)
 obtain ⟨o0,o1,o2,o3,o4,o5,o6⟩:=HOP.out.cells
 obtain ⟨b,off,rfl,hc⟩:=h.at (by omega)
 obtain ⟨X0,m0,c0,hc0,hl0⟩:=hc 0 (by omega)
 have hc0':w.cell? ⟨b,off,none⟩=some (.slice X0 m0 c0):=hc0
 obtain ⟨ds,hds⟩:∃ ds,ds=xss[0]?.getD []:=⟨_,rfl⟩
 rw [<-hds] at hl0 ⊢
 have HL0:=hide hl0
 have HC0:=hide hc0'
 have hzd:sizeE ds=0:=by rw [hds];exact hz _ (mem_getDL xss 0 (by rw [h.1];omega))
 have HZD:=hide hzd
 have h06:m0<=6:=by have:=(sizeE_ok hzd).1;have:=hl0.1.1;omega
 have HD1:=hide (HL0.out.below HB1.out)
 have q0:=(HB1.out.cell (p:=⟨b,off,none⟩) (lt_of_cell hc0')).trans hc0'
 have i0:(0:Int)<(len:Int):=by omega
 clear h he hp hlo hhi hst hz hc hc0 hc0' hl0 hds hzd
 go_enter Tryz.func41,Tryz.ntmps41
 go_wp2_with fail
 go_region_with (go_at_call 58;refine (viewDims_flip 15 x _ _ _ ds _ _ _ es _ _ _ ps _ _ _ lo _ _ _ hi _ _ _ st _ (HL0.out.below (HB1.out.drew)).1 (HE.out.below (HB1.out.drew)).1 (HP.out.below (HB1.out.drew)).1 (HLO.out.below (HB1.out.drew)).1 (HHI.out.below (HB1.out.drew)).1 (HST.out.below (HB1.out.drew)).1 HZD.out HL0.out.2.1 HE.out.2.1 (by decide)).mono ?_;rintro e w1 ⟨⟨Z,nz,cz,rfl,hi1,hnc⟩,hb⟩;have HI1:=hide hi1;have HB2:=hide (Below.on (HB1.out.drew) hb);clear hi1 hb)
 all_goals go_wp2
 all_goals go_ret2
 all_goals exact ⟨⟨_,_,_,rfl,HI1.out,hnc⟩,HB2.out⟩
theorem ruled_17 (x:Int) (ea:Option Addr) (el ec:Nat) (es:List Int) (pa:Option Addr) (pl pc:Nat) (ps:List Int) (la:Option Addr) (ll lc:Nat) (lo:List Int) (ha:Option Addr) (hl hc:Nat) (hi:List Int) (ta:Option Addr) (tl tc:Nat) (st:List Int) (A:Option Addr) (len cap:Nat) (xss:List (List Int)) (w:World)
 (he:Lst w ea el ec es) (hp:Lst w pa pl pc ps) (hlo:Lst w la ll lc lo) (hhi:Lst w ha hl hc hi) (hst:Lst w ta tl tc st) (h:Lsts w A len xss) (hcap:len<=cap) (hz:∀ d∈xss,sizeE d=0) (hn:1<=len) (hlen:len<=1048576) (b0:el<=1048576) (b1:pl<=1048576) (b2:ll<=1048576) (b3:hl<=1048576) (b4:tl<=1048576) :
 Calls Tryz.prog 41 #[.agg #[.int .i64 17,.slice ea el ec,.slice pa pl pc,.slice la ll lc,.slice ha hl hc,.slice ta tl tc,.int .i64 x],.slice A len cap] w fun e w'=>OutP e w' (joinP ps xss)/\Below w.heap.size w w':=by
 have zz:=And.intro hcap (And.intro hlen (And.intro hn (And.intro b0 (And.intro b1 (And.intro b2 (And.intro b3 b4))))))
 clear zz
 have HE:=hide he
 have HP:=hide hp
 have HLO:=hide hlo
 have HHI:=hide hhi
 have HST:=hide hst
 have H:=hide h
 have HN:=hide h.1
 have HZ:=hide hz
 have HB1:=hide ((Below.refl w.heap.size w).alloc (Nat.le_refl _) (.cells #[.int .i64 17,.slice ea el ec,.slice pa pl pc,.slice la ll lc,.slice ha hl hc,.slice ta tl tc,.int .i64 x] 38))
 have HOP:=hide (OpAt.new w 17 (.slice ea el ec) (.slice pa pl pc) (.slice la ll lc) (.slice ha hl hc) (.slice ta tl tc) x)
 obtain ⟨o0,o1,o2,o3,o4,o5,o6⟩:=HOP.out.cells
 obtain ⟨b,off,rfl,hc⟩:=h.at (by omega)
 obtain ⟨X0,m0,c0,hc0,hl0⟩:=hc 0 (by omega)
 have hc0':w.cell? ⟨b,off,none⟩=some (.slice X0 m0 c0):=hc0
 obtain ⟨ds,hds⟩:∃ ds,ds=xss[0]?.getD []:=⟨_,rfl⟩
 rw [<-hds] at hl0
 have HL0:=hide hl0
 have HC0:=hide hc0'
 have hzd:sizeE ds=0:=by rw [hds];exact hz _ (mem_getDL xss 0 (by rw [h.1];omega))
 have HZD:=hide hzd
 have h06:m0<=6:=by have:=(sizeE_ok hzd).1;have:=hl0.1.1;omega
 have HD1:=hide (HL0.out.below HB1.out)
 have q0:=(HB1.out.cell (p:=⟨b,off,none⟩) (lt_of_cell hc0')).trans hc0'
 have i0:(0:Int)<(len:Int):=by omega
 clear h he hp hlo hhi hst hz hc hc0 hc0' hl0 hds hzd
 go_enter Tryz.func41,Tryz.ntmps41
 go_wp2_with (go_at_call 56;refine (rjoinDims_any _ _ _ _ _ _ _ _ _ ps _ _ _ xss _ (HP.out.below (HB1.out)) (H.out.below (HB1.out)) hcap hn hlen HZ.out).mono ?_;rintro e w1 ⟨⟨Z,nz,cz,rfl,hi1,hnc⟩,hb⟩;have HI1:=hide hi1;have HB2:=hide (Below.on (HB1.out) hb);clear hi1 hb)
 go_ret2
 all_goals exact ⟨⟨_,_,_,rfl,HI1.out,hnc⟩,HB2.out⟩
theorem ruled_14 (x:Int) (ea:Option Addr) (el ec:Nat) (es:List Int) (pa:Option Addr) (pl pc:Nat) (ps:List Int) (la:Option Addr) (ll lc:Nat) (lo:List Int) (ha:Option Addr) (hl hc:Nat) (hi:List Int) (ta:Option Addr) (tl tc:Nat) (st:List Int) (A:Option Addr) (len cap:Nat) (xss:List (List Int)) (w:World)
 (he:Lst w ea el ec es) (hp:Lst w pa pl pc ps) (hlo:Lst w la ll lc lo) (hhi:Lst w ha hl hc hi) (hst:Lst w ta tl tc st) (h:Lsts w A len xss) (hcap:len<=cap) (hz:∀ d∈xss,sizeE d=0) (hn:len=1) (hlen:len<=1048576) (b0:el<=1048576) (b1:pl<=1048576) (b2:ll<=1048576) (b3:hl<=1048576) (b4:tl<=1048576) :
 Calls Tryz.prog 41 #[.agg #[.int .i64 14,.slice ea el ec,.slice pa pl pc,.slice la ll lc,.slice ha hl hc,.slice ta tl tc,.int .i64 x],.slice A len cap] w fun e w'=>OutP e w' (padP (xss[0]?.getD []) lo hi st)/\Below w.heap.size w w':=by
 have zz:=And.intro hcap (And.intro hlen (And.intro hn (And.intro b0 (And.intro b1 (And.intro b2 (And.intro b3 b4))))))
 clear zz
 have HE:=hide he
 have HP:=hide hp
 have HLO:=hide hlo
 have HHI:=hide hhi
 have HST:=hide hst
 have H:=hide h
 have HN:=hide h.1
 have HZ:=hide hz
 have HB1:=hide ((Below.refl w.heap.size w).alloc (Nat.le_refl _) (.cells #[.int .i64 14,.slice ea el ec,.slice pa pl pc,.slice la ll lc,.slice ha hl hc,.slice ta tl tc,.int .i64 x] 38))
 have HOP:=hide (OpAt.new w 14 (.slice ea el ec) (.slice pa pl pc) (.slice la ll lc) (.slice ha hl hc) (.slice ta tl tc) x)
 obtain ⟨o0,o1,o2,o3,o4,o5,o6⟩:=HOP.out.cells
 obtain ⟨b,off,rfl,hc⟩:=h.at (by omega)
 obtain ⟨X0,m0,c0,hc0,hl0⟩:=hc 0 (by omega)
 have hc0':w.cell? ⟨b,off,none⟩=some (.slice X0 m0 c0):=hc0
 obtain ⟨ds,hds⟩:∃ ds,ds=xss[0]?.getD []:=⟨_,rfl⟩
 rw [<-hds] at hl0 ⊢
 have HL0:=hide hl0
 have HC0:=hide hc0'
 have hzd:sizeE ds=0:=by rw [hds];exact hz _ (mem_getDL xss 0 (by rw [h.1];omega))
 have HZD:=hide hzd
 have h06:m0<=6:=by have:=(sizeE_ok hzd).1;have:=hl0.1.1;omega
 have HD1:=hide (HL0.out.below HB1.out)
 have q0:=(HB1.out.cell (p:=⟨b,off,none⟩) (lt_of_cell hc0')).trans hc0'
 have i0:(0:Int)<(len:Int):=by omega
 clear h he hp hlo hhi hst hz hc hc0 hc0' hl0 hds hzd
 go_enter Tryz.func41,Tryz.ntmps41
 go_wp2_with fail
 go_region_with (go_at_call 54;refine (rpadDims_any _ _ _ _ _ _ _ lo _ _ _ hi _ _ _ st _ _ _ ds _ (HLO.out.below (HB1.out.drew)).1 (HHI.out.below (HB1.out.drew)).1 (HST.out.below (HB1.out.drew)).1 (HL0.out.below (HB1.out.drew)).1 HZD.out).mono ?_;rintro e w1 ⟨⟨Z,nz,cz,rfl,hi1,hnc⟩,hb⟩;have HI1:=hide hi1;have HB2:=hide (Below.on (HB1.out.drew) hb);clear hi1 hb)
 all_goals go_wp2
 all_goals go_ret2
 all_goals exact ⟨⟨_,_,_,rfl,HI1.out,hnc⟩,HB2.out⟩
theorem ruled_16 (x:Int) (ea:Option Addr) (el ec:Nat) (es:List Int) (pa:Option Addr) (pl pc:Nat) (ps:List Int) (la:Option Addr) (ll lc:Nat) (lo:List Int) (ha:Option Addr) (hl hc:Nat) (hi:List Int) (ta:Option Addr) (tl tc:Nat) (st:List Int) (A:Option Addr) (len cap:Nat) (xss:List (List Int)) (w:World)
 (he:Lst w ea el ec es) (hp:Lst w pa pl pc ps) (hlo:Lst w la ll lc lo) (hhi:Lst w ha hl hc hi) (hst:Lst w ta tl tc st) (h:Lsts w A len xss) (hcap:len<=cap) (hz:∀ d∈xss,sizeE d=0) (hn:len=2) (hlen:len<=1048576) (b0:el<=1048576) (b1:pl<=1048576) (b2:ll<=1048576) (b3:hl<=1048576) (b4:tl<=1048576) :
 Calls Tryz.prog 41 #[.agg #[.int .i64 16,.slice ea el ec,.slice pa pl pc,.slice la ll lc,.slice ha hl hc,.slice ta tl tc,.int .i64 x],.slice A len cap] w fun e w'=>OutP e w' (dotP ps st lo hi (xss[0]?.getD []) (xss[1]?.getD []))/\Below w.heap.size w w':=by
 have zz:=And.intro hcap (And.intro hlen (And.intro hn (And.intro b0 (And.intro b1 (And.intro b2 (And.intro b3 b4))))))
 clear zz
 have HE:=hide he
 have HP:=hide hp
 have HLO:=hide hlo
 have HHI:=hide hhi
 have HST:=hide hst
 have H:=hide h
 have HN:=hide h.1
 have HZ:=hide hz
 have HB1:=hide ((Below.refl w.heap.size w).alloc (Nat.le_refl _) (.cells #[.int .i64 16,.slice ea el ec,.slice pa pl pc,.slice la ll lc,.slice ha hl hc,.slice ta tl tc,.int .i64 x] 38))
 have HOP:=hide (OpAt.new w 16 (.slice ea el ec) (.slice pa pl pc) (.slice la ll lc) (.slice ha hl hc) (.slice ta tl tc) x)
 obtain ⟨o0,o1,o2,o3,o4,o5,o6⟩:=HOP.out.cells
 obtain ⟨b,off,rfl,hc⟩:=h.at (by omega)
 obtain ⟨X0,m0,c0,hc0,hl0⟩:=hc 0 (by omega)
 have hc0':w.cell? ⟨b,off,none⟩=some (.slice X0 m0 c0):=hc0
 obtain ⟨ds,hds⟩:∃ ds,ds=xss[0]?.getD []:=⟨_,rfl⟩
 rw [<-hds] at hl0 ⊢
 have HL0:=hide hl0
 have HC0:=hide hc0'
 have hzd:sizeE ds=0:=by rw [hds];exact hz _ (mem_getDL xss 0 (by rw [h.1];omega))
 have HZD:=hide hzd
 have h06:m0<=6:=by have:=(sizeE_ok hzd).1;have:=hl0.1.1;omega
 have HD1:=hide (HL0.out.below HB1.out)
 have q0:=(HB1.out.cell (p:=⟨b,off,none⟩) (lt_of_cell hc0')).trans hc0'
 have i0:(0:Int)<(len:Int):=by omega
 obtain ⟨X1,m1,c1,hc1,hl1⟩:=hc 1 (by omega)
 obtain ⟨ds1,hds1⟩:∃ ds1,ds1=xss[1]?.getD []:=⟨_,rfl⟩
 rw [<-hds1] at hl1 ⊢
 have HL1:=hide hl1
 have hzd1:sizeE ds1=0:=by rw [hds1];exact hz _ (mem_getDL xss 1 (by rw [h.1];omega))
 have h16:m1<=6:=by have:=(sizeE_ok hzd1).1;have:=hl1.1.1;omega
 have q1:=(HB1.out.cell (p:=⟨b,off+1,none⟩) (lt_of_cell hc1)).trans hc1
 have i1:(1:Int)<(len:Int):=by omega
 clear h he hp hlo hhi hst hz hc hc0 hc0' hl0 hds hzd hc1 hl1 hds1 hzd1
 go_enter Tryz.func41,Tryz.ntmps41
 go_wp2_with fail
 go_region_with (go_at_call 55;refine (rdotDims_any _ _ _ _ _ _ ps _ _ _ lo _ _ _ hi _ _ _ st _ _ _ ds _ _ _ ds1 _ (HP.out.below (HB1.out.drew)) (HLO.out.below (HB1.out.drew)) (HHI.out.below (HB1.out.drew)) (HST.out.below (HB1.out.drew)) (HL0.out.below (HB1.out.drew)).1 (HL1.out.below (HB1.out.drew)).1 h06 h16 b1 b2 b3 b4).mono ?_;rintro e w1 ⟨⟨Z,nz,cz,rfl,hi1,hnc⟩,hb⟩;have HI1:=hide hi1;have HB2:=hide (Below.on (HB1.out.drew) hb);clear hi1 hb)
 all_goals go_wp2
 all_goals go_ret2
 all_goals exact ⟨⟨_,_,_,rfl,HI1.out,hnc⟩,HB2.out⟩
theorem ruled_12 (x:Int) (ea:Option Addr) (el ec:Nat) (es:List Int) (pa:Option Addr) (pl pc:Nat) (ps:List Int) (la:Option Addr) (ll lc:Nat) (lo:List Int) (ha:Option Addr) (hl hc:Nat) (hi:List Int) (ta:Option Addr) (tl tc:Nat) (st:List Int) (A:Option Addr) (len cap:Nat) (xss:List (List Int)) (w:World)
 (he:Lst w ea el ec es) (hp:Lst w pa pl pc ps) (hlo:Lst w la ll lc lo) (hhi:Lst w ha hl hc hi) (hst:Lst w ta tl tc st) (h:Lsts w A len xss) (hcap:len<=cap) (hz:∀ d∈xss,sizeE d=0) (hn:len=1) (hlen:len<=1048576) (b0:el<=1048576) (b1:pl<=1048576) (b2:ll<=1048576) (b3:hl<=1048576) (b4:tl<=1048576) :
 Calls Tryz.prog 41 #[.agg #[.int .i64 12,.slice ea el ec,.slice pa pl pc,.slice la ll lc,.slice ha hl hc,.slice ta tl tc,.int .i64 x],.slice A len cap] w fun e w'=>OutP e w' (reformP (xss[0]?.getD []) es)/\Below w.heap.size w w':=by
 have zz:=And.intro hcap (And.intro hlen (And.intro hn (And.intro b0 (And.intro b1 (And.intro b2 (And.intro b3 b4))))))
 clear zz
 have HE:=hide he
 have HP:=hide hp
 have HLO:=hide hlo
 have HHI:=hide hhi
 have HST:=hide hst
 have H:=hide h
 have HN:=hide h.1
 have HZ:=hide hz
 have HB1:=hide ((Below.refl w.heap.size w).alloc (Nat.le_refl _) (.cells #[.int .i64 12,.slice ea el ec,.slice pa pl pc,.slice la ll lc,.slice ha hl hc,.slice ta tl tc,.int .i64 x] 38))
 have HOP:=hide (OpAt.new w 12 (.slice ea el ec) (.slice pa pl pc) (.slice la ll lc) (.slice ha hl hc) (.slice ta tl tc) x)
 obtain ⟨o0,o1,o2,o3,o4,o5,o6⟩:=HOP.out.cells
 obtain ⟨b,off,rfl,hc⟩:=h.at (by omega)
 obtain ⟨X0,m0,c0,hc0,hl0⟩:=hc 0 (by omega)
 have hc0':w.cell? ⟨b,off,none⟩=some (.slice X0 m0 c0):=hc0
 obtain ⟨ds,hds⟩:∃ ds,ds=xss[0]?.getD []:=⟨_,rfl⟩
 rw [<-hds] at hl0 ⊢
 have HL0:=hide hl0
 have HC0:=hide hc0'
 have hzd:sizeE ds=0:=by rw [hds];exact hz _ (mem_getDL xss 0 (by rw [h.1];omega))
 have HZD:=hide hzd
 have h06:m0<=6:=by have:=(sizeE_ok hzd).1;have:=hl0.1.1;omega
 have HD1:=hide (HL0.out.below HB1.out)
 have q0:=(HB1.out.cell (p:=⟨b,off,none⟩) (lt_of_cell hc0')).trans hc0'
 have i0:(0:Int)<(len:Int):=by omega
 clear h he hp hlo hhi hst hz hc hc0 hc0' hl0 hds hzd
 have HRP:=hide (show reformP ds es=if sizeE es≠0 then ([],sizeE es) else if sizeN es=sizeN ds then (es,0) else ([],6) from rfl)
 obtain ⟨E,hE⟩:∃ E,E=sizeE es:=⟨_,rfl⟩
 obtain ⟨N,hN⟩:∃ N,N=sizeN es:=⟨_,rfl⟩
 obtain ⟨M,hM⟩:∃ M,M=sizeN ds:=⟨_,rfl⟩
 have HEE:=hide hE
 have HNN:=hide hN
 have HMM:=hide hM
 by_cases c1:E=0
 case neg =>
  have q:(E != 0)=true:=by simp [c1]
  have hp:reformP ds es=([],E):=by rw [HRP.out,<-hE,if_pos c1]
  rw [hp]
  clear hp hE hN hM c1
  go_enter Tryz.func41,Tryz.ntmps41
  go_wp2_with (go_at_call 27;refine (rsize_any _ _ _ es _ (HE.out.below HB1.out).1).mono ?_;rintro e w' ⟨rfl,hw'⟩;obtain rfl:=hw'.symm;rw [<-HEE.out,<-HNN.out])
  go_ret2
  exact ⟨outP_none _ _,HB1.out⟩
 subst c1
 by_cases c2:N=M
 · have hp:reformP ds es=(es,0):=by rw [HRP.out,<-hE,if_neg (by simp),if_pos (by rw [<-hN,<-hM];exact c2)]
   rw [hp]
   subst c2
   clear hp hE hN hM
   go_enter Tryz.func41,Tryz.ntmps41
   go_wp2_with (first
    | (go_at_call_of 27 (Value.slice ea el ec);refine (rsize_any _ _ _ es _ (HE.out.below HB1.out).1).mono ?_;rintro e w' ⟨rfl,hw'⟩;obtain rfl:=hw'.symm;rw [<-HEE.out,<-HNN.out])
    | (go_at_call 27;refine (rsize_any _ _ _ ds _ (HL0.out.below HB1.out).1).mono ?_;rintro e w' ⟨rfl,hw'⟩;obtain rfl:=hw'.symm;rw [<-HMM.out]))
   go_ret2
   exact ⟨outP_lst (HE.out.below HB1.out) 0,HB1.out⟩
 · have hp:reformP ds es=([],6):=by rw [HRP.out,<-hE,if_neg (by simp),if_neg (by rw [<-hN,<-hM];exact c2)]
   rw [hp]
   have q:(M != N)=true:=by simp;exact fun h=>c2 h.symm
   clear hp hE hN hM c2
   go_enter Tryz.func41,Tryz.ntmps41
   go_wp2_with (first
    | (go_at_call_of 27 (Value.slice ea el ec);refine (rsize_any _ _ _ es _ (HE.out.below HB1.out).1).mono ?_;rintro e w' ⟨rfl,hw'⟩;obtain rfl:=hw'.symm;rw [<-HEE.out,<-HNN.out])
    | (go_at_call 27;refine (rsize_any _ _ _ ds _ (HL0.out.below HB1.out).1).mono ?_;rintro e w' ⟨rfl,hw'⟩;obtain rfl:=hw'.symm;rw [<-HMM.out]))
   go_ret2
   exact ⟨outP_none _ _,HB1.out⟩
theorem ruled_18 (x:Int) (ea:Option Addr) (el ec:Nat) (es:List Int) (pa:Option Addr) (pl pc:Nat) (ps:List Int) (la:Option Addr) (ll lc:Nat) (lo:List Int) (ha:Option Addr) (hl hc:Nat) (hi:List Int) (ta:Option Addr) (tl tc:Nat) (st:List Int) (A:Option Addr) (len cap:Nat) (xss:List (List Int)) (w:World)
 (he:Lst w ea el ec es) (hp:Lst w pa pl pc ps) (hlo:Lst w la ll lc lo) (hhi:Lst w ha hl hc hi) (hst:Lst w ta tl tc st) (h:Lsts w A len xss) (hcap:len<=cap) (hz:∀ d∈xss,sizeE d=0) (hn:len=2) (hlen:len<=1048576) (b0:el<=1048576) (b1:pl<=1048576) (b2:ll<=1048576) (b3:hl<=1048576) (b4:tl<=1048576) :
 Calls Tryz.prog 41 #[.agg #[.int .i64 18,.slice ea el ec,.slice pa pl pc,.slice la ll lc,.slice ha hl hc,.slice ta tl tc,.int .i64 x],.slice A len cap] w fun e w'=>OutP e w' (takeP (xss[0]?.getD []) (xss[1]?.getD []))/\Below w.heap.size w w':=by
 have zz:=And.intro hcap (And.intro hlen (And.intro hn (And.intro b0 (And.intro b1 (And.intro b2 (And.intro b3 b4))))))
 clear zz
 have HE:=hide he
 have HP:=hide hp
 have HLO:=hide hlo
 have HHI:=hide hhi
 have HST:=hide hst
 have H:=hide h
 have HN:=hide h.1
 have HZ:=hide hz
 have HB1:=hide ((Below.refl w.heap.size w).alloc (Nat.le_refl _) (.cells #[.int .i64 18,.slice ea el ec,.slice pa pl pc,.slice la ll lc,.slice ha hl hc,.slice ta tl tc,.int .i64 x] 38))
 have HOP:=hide (OpAt.new w 18 (.slice ea el ec) (.slice pa pl pc) (.slice la ll lc) (.slice ha hl hc) (.slice ta tl tc) x)
 obtain ⟨o0,o1,o2,o3,o4,o5,o6⟩:=HOP.out.cells
 obtain ⟨b,off,rfl,hc⟩:=h.at (by omega)
 obtain ⟨X0,m0,c0,hc0,hl0⟩:=hc 0 (by omega)
 have hc0':w.cell? ⟨b,off,none⟩=some (.slice X0 m0 c0):=hc0
 obtain ⟨ds,hds⟩:∃ ds,ds=xss[0]?.getD []:=⟨_,rfl⟩
 rw [<-hds] at hl0 ⊢
 have HL0:=hide hl0
 have HC0:=hide hc0'
 have hzd:sizeE ds=0:=by rw [hds];exact hz _ (mem_getDL xss 0 (by rw [h.1];omega))
 have HZD:=hide hzd
 have h06:m0<=6:=by have:=(sizeE_ok hzd).1;have:=hl0.1.1;omega
 have HD1:=hide (HL0.out.below HB1.out)
 have q0:=(HB1.out.cell (p:=⟨b,off,none⟩) (lt_of_cell hc0')).trans hc0'
 have i0:(0:Int)<(len:Int):=by omega
 obtain ⟨X1,m1,c1,hc1,hl1⟩:=hc 1 (by omega)
 obtain ⟨ds1,hds1⟩:∃ ds1,ds1=xss[1]?.getD []:=⟨_,rfl⟩
 rw [<-hds1] at hl1 ⊢
 have HL1:=hide hl1
 have hzd1:sizeE ds1=0:=by rw [hds1];exact hz _ (mem_getDL xss 1 (by rw [h.1];omega))
 have h16:m1<=6:=by have:=(sizeE_ok hzd1).1;have:=hl1.1.1;omega
 have q1:=(HB1.out.cell (p:=⟨b,off+1,none⟩) (lt_of_cell hc1)).trans hc1
 have i1:(1:Int)<(len:Int):=by omega
 clear h he hp hlo hhi hst hz hc hc0 hc0' hl0 hds hzd hc1 hl1 hds1 hzd1
 have HLN:=hide HL0.out.1.1
 by_cases c:m0=0
 · have hp:takeP ds ds1=([],6):=by unfold takeP;rw [if_pos (by rw [HLN.out];exact c)]
   rw [hp]
   have q:((m0:Int) == 0)=true:=by simp [c]
   clear hp c
   go_enter Tryz.func41,Tryz.ntmps41
   go_wp2
   go_ret2
   exact ⟨outP_none _ _,HB1.out⟩
 have hp:takeP ds ds1=(ds1++ds.drop 1,0):=by unfold takeP;rw [if_neg (by rw [HLN.out];exact c)]
 rw [hp]
 have q:((m0:Int) == 0)=false:=by simp;omega
 have hl1:1<=m0:=by omega
 have hcp:=HL0.out.2.1
 obtain ⟨b0',off0,rfl,hb0,hc0⟩:=HL0.out.1.at (by omega)
 clear hp c hc0
 by_cases cc:c0=1
 · subst cc
   have HDR:Hid (Lst w (some ⟨b0',off0,none⟩) 0 0 (ds.drop 1)):=by
    rw [List.drop_eq_nil_of_le (by rw [HLN.out];omega)];exact lst_empty w _ _
   go_enter Tryz.func41,Tryz.ntmps41
   go_wp2_with fail
   go_region_with (go_at_call 57;refine (both_any _ _ _ ds1 _ _ _ (ds.drop 1) _ (HL1.out.below HB1.out.drew) (HDR.out.below HB1.out.drew) (by omega)).mono ?_;rintro e w1 ⟨⟨v1,rfl,hv⟩,hb⟩;have HV:=hide hv;have HB2:=hide (Below.on HB1.out.drew hb);clear hv hb)
   all_goals go_wp2
   all_goals go_ret2
   all_goals exact ⟨outP_new HV.out 0,HB2.out⟩
 · have HDR:=hide (lst_drop HL0.out 1 (by omega))
   go_enter Tryz.func41,Tryz.ntmps41
   go_wp2_with fail
   go_region_with (go_at_call 57;refine (both_any _ _ _ ds1 _ _ _ (ds.drop 1) _ (HL1.out.below HB1.out.drew) (HDR.out.below HB1.out.drew) (by omega)).mono ?_;rintro e w1 ⟨⟨v1,rfl,hv⟩,hb⟩;have HV:=hide hv;have HB2:=hide (Below.on HB1.out.drew hb);clear hv hb)
   all_goals go_wp2
   all_goals go_ret2
   all_goals exact ⟨outP_new HV.out 0,HB2.out⟩
theorem ruled_10 (x:Int) (ea:Option Addr) (el ec:Nat) (es:List Int) (pa:Option Addr) (pl pc:Nat) (ps:List Int) (la:Option Addr) (ll lc:Nat) (lo:List Int) (ha:Option Addr) (hl hc:Nat) (hi:List Int) (ta:Option Addr) (tl tc:Nat) (st:List Int) (A:Option Addr) (len cap:Nat) (xss:List (List Int)) (w:World)
 (he:Lst w ea el ec es) (hp:Lst w pa pl pc ps) (hlo:Lst w la ll lc lo) (hhi:Lst w ha hl hc hi) (hst:Lst w ta tl tc st) (h:Lsts w A len xss) (hcap:len<=cap) (hz:∀ d∈xss,sizeE d=0) (hn:len=1) (hlen:len<=1048576) (b0:el<=1048576) (b1:pl<=1048576) (b2:ll<=1048576) (b3:hl<=1048576) (b4:tl<=1048576) :
 Calls Tryz.prog 41 #[.agg #[.int .i64 10,.slice ea el ec,.slice pa pl pc,.slice la ll lc,.slice ha hl hc,.slice ta tl tc,.int .i64 x],.slice A len cap] w fun e w'=>OutP e w' (sumP (xss[0]?.getD []) ps)/\Below w.heap.size w w':=by
 have zz:=And.intro hcap (And.intro hlen (And.intro hn (And.intro b0 (And.intro b1 (And.intro b2 (And.intro b3 b4))))))
 clear zz
 have HE:=hide he
 have HP:=hide hp
 have HLO:=hide hlo
 have HHI:=hide hhi
 have HST:=hide hst
 have H:=hide h
 have HN:=hide h.1
 have HZ:=hide hz
 have HB1:=hide ((Below.refl w.heap.size w).alloc (Nat.le_refl _) (.cells #[.int .i64 10,.slice ea el ec,.slice pa pl pc,.slice la ll lc,.slice ha hl hc,.slice ta tl tc,.int .i64 x] 38))
 have HOP:=hide (OpAt.new w 10 (.slice ea el ec) (.slice pa pl pc) (.slice la ll lc) (.slice ha hl hc) (.slice ta tl tc) x)
 obtain ⟨o0,o1,o2,o3,o4,o5,o6⟩:=HOP.out.cells
 obtain ⟨b,off,rfl,hc⟩:=h.at (by omega)
 obtain ⟨X0,m0,c0,hc0,hl0⟩:=hc 0 (by omega)
 have hc0':w.cell? ⟨b,off,none⟩=some (.slice X0 m0 c0):=hc0
 obtain ⟨ds,hds⟩:∃ ds,ds=xss[0]?.getD []:=⟨_,rfl⟩
 rw [<-hds] at hl0 ⊢
 have HL0:=hide hl0
 have HC0:=hide hc0'
 have hzd:sizeE ds=0:=by rw [hds];exact hz _ (mem_getDL xss 0 (by rw [h.1];omega))
 have HZD:=hide hzd
 have h06:m0<=6:=by have:=(sizeE_ok hzd).1;have:=hl0.1.1;omega
 have HD1:=hide (HL0.out.below HB1.out)
 have q0:=(HB1.out.cell (p:=⟨b,off,none⟩) (lt_of_cell hc0')).trans hc0'
 have i0:(0:Int)<(len:Int):=by omega
 clear h he hp hlo hhi hst hz hc hc0 hc0' hl0 hds hzd
 have HLN:=hide HL0.out.1.1
 have HRQ:Hid (∀ (B:Bool),(B=true<->RiseOk ps m0)->∀ W,Below w.heap.size w W->Calls Tryz.prog 51 #[.slice pa pl pc,.int .i64 m0] W fun e w'=>e=.returned (.bool B)/\w'=W):=fun B hB W hW=>by
  refine (rrising_any pa pl pc ps m0 W (HP.out.below hW).1 h06).mono ?_
  rintro e w' ⟨⟨r,rfl,hr⟩,rfl⟩
  have:r=B:=by
   cases r<;>cases B<;>simp_all
  rw [this];exact ⟨rfl,rfl⟩
 cases c:riseB ps ds.length with
 | false =>
  have hp:sumP ds ps=([],6):=by unfold sumP;rw [if_neg (by simp [c])]
  rw [hp]
  have hbf:(false=true)<->RiseOk ps m0:=by rw [<-HLN.out,<-riseB_iff,c]
  have HRC:=hide (HRQ.out false hbf)
  clear hbf HRQ
  clear hp c
  go_enter Tryz.func41,Tryz.ntmps41
  go_wp2_with fail
  go_quiet ((go_at_call 51;exact Calls.quiet_of_same (HRC.out _ (Below.on HB1.out (below_drewN _ _)))))
  go_wp2
  go_ret2
  exact ⟨outP_none _ _,Below.on HB1.out (below_drewN _ _)⟩
 | true =>
  have hp:sumP ds ps=(taken ds (freeL ps m0),0):=by unfold sumP;rw [if_pos c,HLN.out]
  rw [hp]
  have hbt:(true=true)<->RiseOk ps m0:=by rw [<-HLN.out,<-riseB_iff,c]
  have HRC:=hide (HRQ.out true hbt)
  clear hbt HRQ
  clear hp c
  go_enter Tryz.func41,Tryz.ntmps41
  go_wp2_with fail
  go_quiet ((go_at_call 51;exact Calls.quiet_of_same (HRC.out _ (Below.on HB1.out (below_drewN _ _)))))
  go_wp2_with fail
  have HBN:=hide (Below.on HB1.out (below_drewN _ nq))
  have s0:=(HBN.out.cell (p:=⟨b,off,none⟩) (lt_of_cell HC0.out)).trans HC0.out
  have s1:=(HOP.out.below (below_drewN _ nq)).cells.2.2.1
  generalize hWN:(w.alloc (.cells #[.int .i64 10,.slice ea el ec,.slice pa pl pc,.slice la ll lc,.slice ha hl hc,.slice ta tl tc,.int .i64 x] 38)).drewN nq=WN at HBN s0 s1 ⊢
  clear hWN
  go_region_held3 (fun w'=>w'.cell? ⟨b,off,none⟩=some (.slice X0 m0 c0)/\w'.cell? ⟨w.heap.size,2,none⟩=some (.slice pa pl pc)) (refine ⟨?_,?_⟩<;>with_reducible (repeat (first | assumption | apply drew_cell))) ((first | (go_at_call 53;refine (free_any _ _ _ ds _ _ _ ps _ (HL0.out.below HBN.out.drew).1 (HP.out.below HBN.out.drew).1 h06).mono ?_;rintro e w1 ⟨⟨v1,rfl,X1,n1,d1,rfl,hl1,_⟩,hb⟩;have HLF:=hide hl1;have HB2:=hide (Below.on HBN.out.drew hb);have s10:=(hb.cell (p:=⟨b,off,none⟩) (lt_of_cell (drew_cell s0))).trans (drew_cell s0);have s11:=(hb.cell (p:=⟨w.heap.size,2,none⟩) (lt_of_cell (drew_cell s1))).trans (drew_cell s1);have hn1:n1<=6:=by { have:=hl1.1.1;have:=freeL_len ps m0;omega };clear hl1 hb) | (go_at_call 52;refine (chosen_any _ _ _ ds _ _ _ (freeL ps m0) _ (HL0.out.below HB2.out).1 HLF.out.1 (fun y hy=>freeL_bd ps m0 y hy) hn1).mono ?_;rintro e w2 ⟨⟨v2,rfl,hv⟩,hb⟩;have HV:=hide hv;have HB3:=hide (Below.on HB2.out hb);have s20:=(hb.cell (p:=⟨b,off,none⟩) (lt_of_cell s10)).trans s10;have s21:=(hb.cell (p:=⟨w.heap.size,2,none⟩) (lt_of_cell s11)).trans s11;clear hv hb)))
  all_goals go_wp2
  all_goals go_ret2
  all_goals exact ⟨outP_new HV.out 0,HB3.out⟩
end Go.Proofs.YtakpedjhgdkhkaaGreatDoor.V
