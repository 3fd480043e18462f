/-
  
-/
import Derived.Test.YtdbkgeehjfnhbaaGreatDoorK27
import Derived.Test.YtdbkgeehjfnhbaaGreatDoorK16
import Derived.Test.YtdbkgeehjfnhbaaGreatDoorK25
import Derived.Test.YtdbkgeehjfnhbaaGreatDoorK32
import Derived.Test.YtdbkgeehjfnhbaaGreatDoorK14
namespace Go.Proofs.YtdbkgeehjfnhbaaGreatDoor.V
set_option maxRecDepth 100000
set_option maxHeartbeats 8000000
open Go.RowKit
theorem viewDims_turn (k x:Int) (da:Option Addr) (dl dc:Nat) (ds:List Int) (ea:Option Addr) (el ec:Nat) (es:List Int) (pa:Option Addr) (pl pc:Nat) (ps:List Int) (la:Option Addr) (ll lc:Nat) (lo:List Int) (ha:Option Addr) (hl hc:Nat) (hi:List Int) (ta:Option Addr) (tl tc:Nat) (st:List Int) (w:World)
 (hd:Ints w da dl ds) (he:Ints w ea el es) (hp:Ints w pa pl ps) (hlo:Ints w la ll lo) (hhi:Ints w ha hl hi) (hst:Ints w ta tl st) (hz:sizeE ds=0) (hdc:dl<=dc) (hec:el<=ec) (hk:k=11) :
 Calls Tryz.prog 59 #[.agg #[.int .i64 k,.slice ea el ec,.slice pa pl pc,.slice la ll lc,.slice ha hl hc,.slice ta tl tc,.int .i64 x],.slice da dl dc] w fun e w'=>OutP e w' (okL (turnE 0 ds (stepsV ds) ps) (taken ds ps),turnE 0 ds (stepsV ds) ps)/\Below w.heap.size w w':=by
 obtain ⟨E,hEE⟩:∃ E,turnE 0 ds (stepsV ds) ps=E:=⟨_,rfl⟩
 rw [hEE]
 have HEE:=hide hEE
 have HD:=hide hd
 have HE:=hide he
 have HP:=hide hp
 have HLO:=hide hlo
 have HHI:=hide hhi
 have HST:=hide hst
 have HZ:=hide hz
 have HEC:=hide hec
 have c9:(k == 9)=false:=by simp;omega
 have c11:(k == 11)=true:=by simp;omega
 clear hd he hp hlo hhi hst hz hEE hk hec
 have HB2:=hide ((Below.refl w.heap.size w).alloc (Nat.le_refl _) (.cells #[.int .i64 k,.slice ea el ec,.slice pa pl pc,.slice la ll lc,.slice ha hl hc,.slice ta tl tc,.int .i64 x] 38))
 have HOP:=hide (OpAt.new w k (.slice ea el ec) (.slice pa pl pc) (.slice la ll lc) (.slice ha hl hc) (.slice ta tl tc) x)
 go_enter Tryz.func59,Tryz.ntmps59
 go_wp2_with fail
 refine (rwhole_any _ _ _ ds _ (HD.out.below HB2.out) hdc).mono ?_
 rintro e w1 ⟨hgv,hb⟩
 rw [HZ.out] at hgv
 obtain ⟨da1,dl1,dc1,sa1,sl1,sc1,rfl,hi1,hj1,⟨hq1,hq2⟩,hF,hG⟩:=hgv
 have e1:∀ l,okL 0 l=l:=fun l=>by unfold okL;rw [if_pos rfl]
 rw [e1] at hi1 hj1
 have HI1:=hide hi1
 have HJ1:=hide hj1
 have HB1:=hide (Below.on HB2.out hb)
 obtain ⟨o0,o1,o2,o3,o4,o5,o6⟩:=(HOP.out.below hb).cells
 obtain ⟨o0',o1',o2',o3',o4',o5',o6'⟩:=((HOP.out.below hb).alloc (.cells #[.int .i64 0,.slice da1 dl1 dc1,.slice sa1 sl1 sc1] 83)).cells
 clear hi1 hj1 hF hG hb e1
 have HA1:=hide ((Below.refl w1.heap.size w1).alloc (Nat.le_refl _) (.cells #[.int .i64 0,.slice da1 dl1 dc1,.slice sa1 sl1 sc1] 83))
 have HV1:=hide (ViewAt.new w1 (.int .i64 0) (.slice da1 dl1 dc1) (.slice sa1 sl1 sc1))
 have HB3:=hide (HB1.out.alloc HB1.out.size (.cells #[.int .i64 0,.slice da1 dl1 dc1,.slice sa1 sl1 sc1] 83))
 go_wp2_with (go_at_call 75;refine (rturn_anyF _ _ _ _ ds _ _ _ (stepsV ds) _ _ _ ps _ (HI1.out.below HA1.out) (HJ1.out.below HA1.out) (HP.out.below HB3.out)).mono ?_;rintro e w2 ⟨hgv,hb⟩;rw [HEE.out] at hgv;obtain ⟨da2,dl2,dc2,sa2,sl2,sc2,rfl,hi2,hj2,⟨hc1,hc2⟩,hF2,hG2⟩:=hgv;simp only [World.size_alloc] at hF2 hG2;have HI2:=hide hi2;have HF2:=hide hF2;have HR2:=hide (HV1.out.below hb);have HB4:=hide (Below.on HB3.out hb);obtain ⟨⟨r0,r1,r2⟩,f0,f1,f2⟩:=HR2.out.cells;clear hb hi2 hj2 hF2 hG2)
 go_ret2
 have hln:0<dl2->0<dl1:=okL_len HI2.out (fun h=>by
  have hE:=HEE.out
  rw [h] at hE
  have h1:=(turn_again hE).1.1
  have h2:=HI1.out.1
  rw [taken_length];omega)
 exact ⟨⟨_,_,_,rfl,ints_putL HI2.out HF2.out HI1.out hln (Nat.le_refl _) (by omega),hc1⟩,below_put HB4.out HB1.out.size⟩
theorem viewDims_flip (k x:Int) (da:Option Addr) (dl dc:Nat) (ds:List Int) (ea:Option Addr) (el ec:Nat) (es:List Int) (pa:Option Addr) (pl pc:Nat) (ps:List Int) (la:Option Addr) (ll lc:Nat) (lo:List Int) (ha:Option Addr) (hl hc:Nat) (hi:List Int) (ta:Option Addr) (tl tc:Nat) (st:List Int) (w:World)
 (hd:Ints w da dl ds) (he:Ints w ea el es) (hp:Ints w pa pl ps) (hlo:Ints w la ll lo) (hhi:Ints w ha hl hi) (hst:Ints w ta tl st) (hz:sizeE ds=0) (hdc:dl<=dc) (hec:el<=ec) (hk:k≠9/\k≠11/\k≠13) :
 Calls Tryz.prog 59 #[.agg #[.int .i64 k,.slice ea el ec,.slice pa pl pc,.slice la ll lc,.slice ha hl hc,.slice ta tl tc,.int .i64 x],.slice da dl dc] w fun e w'=>OutP e w' (okL (flipE 0 ds (stepsV ds) ps) (ds),flipE 0 ds (stepsV ds) ps)/\Below w.heap.size w w':=by
 obtain ⟨E,hEE⟩:∃ E,flipE 0 ds (stepsV ds) ps=E:=⟨_,rfl⟩
 rw [hEE]
 have HEE:=hide hEE
 have HD:=hide hd
 have HE:=hide he
 have HP:=hide hp
 have HLO:=hide hlo
 have HHI:=hide hhi
 have HST:=hide hst
 have HZ:=hide hz
 have HEC:=hide hec
 have c9:(k == 9)=false:=by simp;omega
 have c11:(k == 11)=false:=by simp;omega
 have c13:(k == 13)=false:=by simp;omega
 clear hd he hp hlo hhi hst hz hEE hk hec
 have HB2:=hide ((Below.refl w.heap.size w).alloc (Nat.le_refl _) (.cells #[.int .i64 k,.slice ea el ec,.slice pa pl pc,.slice la ll lc,.slice ha hl hc,.slice ta tl tc,.int .i64 x] 38))
 have HOP:=hide (OpAt.new w k (.slice ea el ec) (.slice pa pl pc) (.slice la ll lc) (.slice ha hl hc) (.slice ta tl tc) x)
 go_enter Tryz.func59,Tryz.ntmps59
 go_wp2_with fail
 refine (rwhole_any _ _ _ ds _ (HD.out.below HB2.out) hdc).mono ?_
 rintro e w1 ⟨hgv,hb⟩
 rw [HZ.out] at hgv
 obtain ⟨da1,dl1,dc1,sa1,sl1,sc1,rfl,hi1,hj1,⟨hq1,hq2⟩,hF,hG⟩:=hgv
 have e1:∀ l,okL 0 l=l:=fun l=>by unfold okL;rw [if_pos rfl]
 rw [e1] at hi1 hj1
 have HI1:=hide hi1
 have HJ1:=hide hj1
 have HB1:=hide (Below.on HB2.out hb)
 obtain ⟨o0,o1,o2,o3,o4,o5,o6⟩:=(HOP.out.below hb).cells
 obtain ⟨o0',o1',o2',o3',o4',o5',o6'⟩:=((HOP.out.below hb).alloc (.cells #[.int .i64 0,.slice da1 dl1 dc1,.slice sa1 sl1 sc1] 83)).cells
 clear hi1 hj1 hF hG hb e1
 have HA1:=hide ((Below.refl w1.heap.size w1).alloc (Nat.le_refl _) (.cells #[.int .i64 0,.slice da1 dl1 dc1,.slice sa1 sl1 sc1] 83))
 have HV1:=hide (ViewAt.new w1 (.int .i64 0) (.slice da1 dl1 dc1) (.slice sa1 sl1 sc1))
 have HB3:=hide (HB1.out.alloc HB1.out.size (.cells #[.int .i64 0,.slice da1 dl1 dc1,.slice sa1 sl1 sc1] 83))
 go_wp2_with (go_at_call 77;refine (rflip_any _ _ _ _ ds _ _ _ (stepsV ds) _ _ _ ps _ (HI1.out.below HA1.out) (HJ1.out.below HA1.out) (HP.out.below HB3.out) hq1).mono ?_;rintro e w2 ⟨hgv,hb⟩;rw [HEE.out] at hgv;obtain ⟨da2,dl2,dc2,sa2,sl2,sc2,rfl,hi2,hj2,⟨hc1,hc2⟩,hF2,hG2⟩:=hgv;simp only [World.size_alloc] at hF2 hG2;have HI2:=hide hi2;have HF2:=hide hF2;have HR2:=hide (HV1.out.below hb);have HB4:=hide (Below.on HB3.out hb);obtain ⟨⟨r0,r1,r2⟩,f0,f1,f2⟩:=HR2.out.cells;clear hb hi2 hj2 hF2 hG2)
 go_ret2
 have hln:0<dl2->0<dl1:=okL_len HI2.out (fun h=>by
  have hE:=HEE.out
  rw [h] at hE
  exact HI1.out.1)
 exact ⟨⟨_,_,_,rfl,ints_putL HI2.out HF2.out HI1.out hln (Nat.le_refl _) (by omega),hc1⟩,below_put HB4.out HB1.out.size⟩
theorem viewDims_cut (k x:Int) (da:Option Addr) (dl dc:Nat) (ds:List Int) (ea:Option Addr) (el ec:Nat) (es:List Int) (pa:Option Addr) (pl pc:Nat) (ps:List Int) (la:Option Addr) (ll lc:Nat) (lo:List Int) (ha:Option Addr) (hl hc:Nat) (hi:List Int) (ta:Option Addr) (tl tc:Nat) (st:List Int) (w:World)
 (hd:Ints w da dl ds) (he:Ints w ea el es) (hp:Ints w pa pl ps) (hlo:Ints w la ll lo) (hhi:Ints w ha hl hi) (hst:Ints w ta tl st) (hz:sizeE ds=0) (hdc:dl<=dc) (hec:el<=ec) (hk:k=13) :
 Calls Tryz.prog 59 #[.agg #[.int .i64 k,.slice ea el ec,.slice pa pl pc,.slice la ll lc,.slice ha hl hc,.slice ta tl tc,.int .i64 x],.slice da dl dc] w fun e w'=>OutP e w' (okL (cutE 0 ds (stepsV ds) lo hi st) (cutD ds lo hi st),cutE 0 ds (stepsV ds) lo hi st)/\Below w.heap.size w w':=by
 obtain ⟨E,hEE⟩:∃ E,cutE 0 ds (stepsV ds) lo hi st=E:=⟨_,rfl⟩
 rw [hEE]
 have HEE:=hide hEE
 have HD:=hide hd
 have HE:=hide he
 have HP:=hide hp
 have HLO:=hide hlo
 have HHI:=hide hhi
 have HST:=hide hst
 have HZ:=hide hz
 have HEC:=hide hec
 have c9:(k == 9)=false:=by simp;omega
 have c11:(k == 11)=false:=by simp;omega
 have c13:(k == 13)=true:=by simp;omega
 clear hd he hp hlo hhi hst hz hEE hk hec
 have HB2:=hide ((Below.refl w.heap.size w).alloc (Nat.le_refl _) (.cells #[.int .i64 k,.slice ea el ec,.slice pa pl pc,.slice la ll lc,.slice ha hl hc,.slice ta tl tc,.int .i64 x] 38))
 have HOP:=hide (OpAt.new w k (.slice ea el ec) (.slice pa pl pc) (.slice la ll lc) (.slice ha hl hc) (.slice ta tl tc) x)
 go_enter Tryz.func59,Tryz.ntmps59
 go_wp2_with fail
 refine (rwhole_any _ _ _ ds _ (HD.out.below HB2.out) hdc).mono ?_
 rintro e w1 ⟨hgv,hb⟩
 rw [HZ.out] at hgv
 obtain ⟨da1,dl1,dc1,sa1,sl1,sc1,rfl,hi1,hj1,⟨hq1,hq2⟩,hF,hG⟩:=hgv
 have e1:∀ l,okL 0 l=l:=fun l=>by unfold okL;rw [if_pos rfl]
 rw [e1] at hi1 hj1
 have HI1:=hide hi1
 have HJ1:=hide hj1
 have HB1:=hide (Below.on HB2.out hb)
 obtain ⟨o0,o1,o2,o3,o4,o5,o6⟩:=(HOP.out.below hb).cells
 obtain ⟨o0',o1',o2',o3',o4',o5',o6'⟩:=((HOP.out.below hb).alloc (.cells #[.int .i64 0,.slice da1 dl1 dc1,.slice sa1 sl1 sc1] 83)).cells
 clear hi1 hj1 hF hG hb e1
 have HA1:=hide ((Below.refl w1.heap.size w1).alloc (Nat.le_refl _) (.cells #[.int .i64 0,.slice da1 dl1 dc1,.slice sa1 sl1 sc1] 83))
 have HV1:=hide (ViewAt.new w1 (.int .i64 0) (.slice da1 dl1 dc1) (.slice sa1 sl1 sc1))
 have HB3:=hide (HB1.out.alloc HB1.out.size (.cells #[.int .i64 0,.slice da1 dl1 dc1,.slice sa1 sl1 sc1] 83))
 go_wp2_with (go_at_call 76;refine (rcut_any _ _ _ _ ds _ _ _ (stepsV ds) _ _ _ lo _ _ _ hi _ _ _ st _ (HI1.out.below HA1.out) (HJ1.out.below HA1.out) (HLO.out.below HB3.out) (HHI.out.below HB3.out) (HST.out.below HB3.out)).mono ?_;rintro e w2 ⟨hgv,hb⟩;rw [HEE.out] at hgv;obtain ⟨da2,dl2,dc2,sa2,sl2,sc2,rfl,hi2,hj2,⟨hc1,hc2⟩,hF2,hG2⟩:=hgv;simp only [World.size_alloc] at hF2 hG2;have HI2:=hide hi2;have HF2:=hide hF2;have HR2:=hide (HV1.out.below hb);have HB4:=hide (Below.on HB3.out hb);obtain ⟨⟨r0,r1,r2⟩,f0,f1,f2⟩:=HR2.out.cells;clear hb hi2 hj2 hF2 hG2)
 go_ret2
 have hln:0<dl2->0<dl1:=okL_len HI2.out (fun h=>by
  have hE:=HEE.out
  rw [h] at hE
  rw [cutD_length];exact HI1.out.1)
 exact ⟨⟨_,_,_,rfl,ints_putL HI2.out HF2.out HI1.out hln (Nat.le_refl _) (by omega),hc1⟩,below_put HB4.out HB1.out.size⟩
theorem viewDims_spread (k x:Int) (da:Option Addr) (dl dc:Nat) (ds:List Int) (ea:Option Addr) (el ec:Nat) (es:List Int) (pa:Option Addr) (pl pc:Nat) (ps:List Int) (la:Option Addr) (ll lc:Nat) (lo:List Int) (ha:Option Addr) (hl hc:Nat) (hi:List Int) (ta:Option Addr) (tl tc:Nat) (st:List Int) (w:World)
 (hd:Ints w da dl ds) (he:Ints w ea el es) (hp:Ints w pa pl ps) (hlo:Ints w la ll lo) (hhi:Ints w ha hl hi) (hst:Ints w ta tl st) (hz:sizeE ds=0) (hdc:dl<=dc) (hec:el<=ec) (hk:k=9) :
 Calls Tryz.prog 59 #[.agg #[.int .i64 k,.slice ea el ec,.slice pa pl pc,.slice la ll lc,.slice ha hl hc,.slice ta tl tc,.int .i64 x],.slice da dl dc] w fun e w'=>OutP e w' (okL (sprE 0 ds (stepsV ds) es ps) (es),sprE 0 ds (stepsV ds) es ps)/\Below w.heap.size w w':=by
 obtain ⟨E,hEE⟩:∃ E,sprE 0 ds (stepsV ds) es ps=E:=⟨_,rfl⟩
 rw [hEE]
 have HEE:=hide hEE
 have HD:=hide hd
 have HE:=hide he
 have HP:=hide hp
 have HLO:=hide hlo
 have HHI:=hide hhi
 have HST:=hide hst
 have HZ:=hide hz
 have HEC:=hide hec
 have c9:(k == 9)=true:=by simp;omega
 clear hd he hp hlo hhi hst hz hEE hk hec
 have HB2:=hide ((Below.refl w.heap.size w).alloc (Nat.le_refl _) (.cells #[.int .i64 k,.slice ea el ec,.slice pa pl pc,.slice la ll lc,.slice ha hl hc,.slice ta tl tc,.int .i64 x] 38))
 have HOP:=hide (OpAt.new w k (.slice ea el ec) (.slice pa pl pc) (.slice la ll lc) (.slice ha hl hc) (.slice ta tl tc) x)
 go_enter Tryz.func59,Tryz.ntmps59
 go_wp2_with fail
 refine (rwhole_any _ _ _ ds _ (HD.out.below HB2.out) hdc).mono ?_
 rintro e w1 ⟨hgv,hb⟩
 rw [HZ.out] at hgv
 obtain ⟨da1,dl1,dc1,sa1,sl1,sc1,rfl,hi1,hj1,⟨hq1,hq2⟩,hF,hG⟩:=hgv
 have e1:∀ l,okL 0 l=l:=fun l=>by unfold okL;rw [if_pos rfl]
 rw [e1] at hi1 hj1
 have HI1:=hide hi1
 have HJ1:=hide hj1
 have HB1:=hide (Below.on HB2.out hb)
 obtain ⟨o0,o1,o2,o3,o4,o5,o6⟩:=(HOP.out.below hb).cells
 obtain ⟨o0',o1',o2',o3',o4',o5',o6'⟩:=((HOP.out.below hb).alloc (.cells #[.int .i64 0,.slice da1 dl1 dc1,.slice sa1 sl1 sc1] 83)).cells
 clear hi1 hj1 hF hG hb e1
 have HA1:=hide ((Below.refl w1.heap.size w1).alloc (Nat.le_refl _) (.cells #[.int .i64 0,.slice da1 dl1 dc1,.slice sa1 sl1 sc1] 83))
 have HV1:=hide (ViewAt.new w1 (.int .i64 0) (.slice da1 dl1 dc1) (.slice sa1 sl1 sc1))
 have HB3:=hide (HB1.out.alloc HB1.out.size (.cells #[.int .i64 0,.slice da1 dl1 dc1,.slice sa1 sl1 sc1] 83))
 go_wp2_with (go_at_call 74;refine (rspread_any _ _ _ _ ds _ _ _ (stepsV ds) _ _ _ es _ _ _ ps _ (HI1.out.below HA1.out) (HJ1.out.below HA1.out) (HE.out.below HB3.out) (HP.out.below HB3.out) HEC.out).mono ?_;rintro e w2 ⟨hgv,hb⟩;rw [HEE.out] at hgv;obtain ⟨da2,dl2,dc2,sa2,sl2,sc2,rfl,hi2,hj2,⟨hc1,hc2⟩,hF2,hG2⟩:=hgv;simp only [World.size_alloc] at hF2 hG2;have HI2:=hide hi2;have HF2:=hide hF2;have HR2:=hide (HV1.out.below hb);have HB4:=hide (Below.on HB3.out hb);obtain ⟨⟨r0,r1,r2⟩,f0,f1,f2⟩:=HR2.out.cells;clear hb hi2 hj2 hF2 hG2)
 go_ret2
 have hln:0<dl2->0<el:=okL_len HI2.out (fun h=>by
  have hE:=HEE.out
  rw [h] at hE
  exact HE.out.1)
 exact ⟨⟨_,_,_,rfl,ints_putL HI2.out HF2.out (HE.out.below HB1.out) hln (Nat.le_refl _) (by omega),hc1⟩,below_put HB4.out HB1.out.size⟩
end Go.Proofs.YtdbkgeehjfnhbaaGreatDoor.V
