import Derived.Test.YtakpedjhgdkhkaaGreatDoorK14
import Derived.Test.YtakpedjhgdkhkaaGreatDoorK24
import Derived.Test.YtakpedjhgdkhkaaGreatDoorK8
import Derived.Deep.AppendLies
import Derived.Test.YtakpedjhgdkhkaaGreatDoorK5
import Derived.BigRegion
import Derived.Test.YtakpedjhgdkhkaaGreatDoorK15
namespace Go.Proofs.YtakpedjhgdkhkaaGreatDoor.V
set_option maxRecDepth 100000
set_option maxHeartbeats 8000000
open Go.RowKit Go.Shelf
attribute [local go_sem] Oper.semAt_some
def wholeF (xs:List Int) (len t j:Nat):Value:=.int .i64 (if len<=j+t then beh xs j else 0)
theorem wholeF_succ (xs:List Int) (len t j:Nat) (ht:t<len):(if j=len-1-t then .int .i64 (beh xs (len-1-t)) else wholeF xs len t j)=wholeF xs len (t+1) j:=by
 unfold wholeF
 by_cases e:j=len-1-t
 · rw [if_pos e,if_pos (by omega),e]
 · rw [if_neg e]
   by_cases h:len<=j+t
   · rw [if_pos h,if_pos (by omega)]
   · rw [if_neg h,if_neg (by omega)]
theorem stepV_pos {xs:List Int} (hpos:∀ x∈xs,1<=x) (k:Nat):stepV xs k=beh xs k:=by
 unfold stepV
 rw [if_neg (fun h=>by have:=hpos 0 h;omega)]
theorem stepV_zero {xs:List Int} (h:(0:Int)∈xs) (k:Nat):stepV xs k=0:=by unfold stepV;rw [if_pos h]
theorem stepsV_getD' (xs:List Int) (k:Nat) (h:k<xs.length):(stepsV xs)[k]?.getD 0=stepV xs k:=by simp [stepsV,h]
theorem stepsV_len (xs:List Int):(stepsV xs).length=xs.length:=by simp [stepsV]
theorem view_own {β:Type} (B:Nat) (c0 c1 c2:Value):Own (fun (_:β) W=>ViewAt W B c0 c1 c2):=fun s X Y row hs hg hrow =>
 (hg.block B hs.lt (fun e'=>by obtain ⟨o,ho,hc⟩:=hrow B e'.symm;rw [show X.heap[B]?=_ from hs] at ho;cases ho;cases hc)).trans hs
theorem whole_ok (a:Option Addr) (len cap:Nat) (xs:List Int) (w:World) (h:Ints w a len xs) (hE:sizeE xs=0) (hN:sizeN xs≠0) (d0:Option Addr) :
 CallsIn FW 8 Tryz.prog 78 #[.slice a len cap] w fun e w'=>GivesF w d0 e w' 0 xs (stepsV xs) 0/\Below w.heap.size w w':=by
 obtain ⟨z1,z2,z3,z4⟩:=sizeE_ok hE
 have hpos:∀ x∈xs,1<=x:=fun x hx=>by
  have:=z2 x hx
  by_cases e:x=0
  · subst e;have:=z4 hx;omega
  · omega
 obtain ⟨hp,hn⟩:=z3 hpos
 have hl:=h.1
 have hlen:len<=6:=by omega
 have H:=hide h
 have HE:=hide hE
 have HL:=hide hl
 have HP:=hide hp
 have HPOS:=hide hpos
 have HZ2:=hide z2
 have hne:(sizeN xs == 0)=false:=by simp [hN]
 clear h hE hl hp hpos z1 z2 z3 z4 hn hN
 have hro:FW.round=none:=rfl
 refine callsIn_of_wp_marks Tryz.func78 rfl trivial ?_ hro
 simp only [Tryz.ntmps78,List.size_toArray,List.length_cons,List.length_nil,Nat.reduceAdd,Nat.reduceSub,Array.replicate_succ,Array.replicate_zero,List.push_toArray,List.append_toArray,List.nil_append,List.cons_append]
 have hb1:Below w.heap.size w (w.alloc (.cells #[.int .i64 0,.slice none 0 0,.slice none 0 0] 79)):=(Below.refl _ _).alloc (Nat.le_refl _) _
 have HB1:=hide hb1
 have HR1:=hide (ViewAt.new w (.int .i64 0) (.slice none 0 0) (.slice none 0 0))
 clear hb1
 gi_wp2_with (first
  | (refine ⟨trivial,?_⟩;gi_at_call 34;refine (callsIn_wide.2 (size_any _ _ _ xs _ (H.out.below HB1.out))).mono ?_;rintro e w' ⟨rfl,rfl⟩;rw [HE.out])
  | (refine ⟨trivial,?_⟩;gi_at_call 95;refine (callsIn_wide.2 (blank_any _ _ _ _ xs _ (H.out.below HB1.out) hlen)).mono ?_;rintro e w2 ⟨⟨g1,g2,rfl,⟨hr1,hr2⟩,hgne,hg1,hg2⟩,hb⟩;have HQ1:=hide hr1;have HQ2:=hide hr2;have HB2:=hide (Below.on HB1.out hb);have HR2:=hide (HR1.out.below hb);have hsz2:=hb.size;clear hr1 hr2 hb)
  | (refine ⟨trivial,?_⟩;gi_at_call 96;refine (lastFirst_in FW _ trivial rfl _ _ _ _).mono ?_;rintro e w' ⟨rfl,rfl⟩))
 simp only [World.size_alloc] at hg1 hg2 hsz2
 have hlt1:=HQ1.out.lt
 have hlt2:=HQ2.out.lt
 have hV0:=(ViewAt.new w2 (.int .i64 0) (.slice (some ⟨g1,0,none⟩) len len) (.slice (some ⟨g2,0,none⟩) len len)).alloc (.cells #[.slice a len cap] 23)
 have bN:=Boxed.new (w2.alloc (.cells #[.int .i64 0,.slice (some ⟨g1,0,none⟩) len len,.slice (some ⟨g2,0,none⟩) len len] 79)) 23 (.slice a len cap)
 simp only [World.size_alloc] at bN
 have hR0:=(HR2.out.alloc (.cells #[.int .i64 0,.slice (some ⟨g1,0,none⟩) len len,.slice (some ⟨g2,0,none⟩) len len] 79)).alloc (.cells #[.slice a len cap] 23)
 have hq1:=(World.rowIs.alloc HQ1.out (.cells #[.int .i64 0,.slice (some ⟨g1,0,none⟩) len len,.slice (some ⟨g2,0,none⟩) len len] 79)).alloc (.cells #[.slice a len cap] 23)
 have hq2:=(World.rowIs.alloc HQ2.out (.cells #[.int .i64 0,.slice (some ⟨g1,0,none⟩) len len,.slice (some ⟨g2,0,none⟩) len len] 79)).alloc (.cells #[.slice a len cap] 23)
 have hB0:Below w.heap.size w ((w2.alloc (.cells #[.int .i64 0,.slice (some ⟨g1,0,none⟩) len len,.slice (some ⟨g2,0,none⟩) len len] 79)).alloc (.cells #[.slice a len cap] 23)):=bl_alloc (bl_alloc HB2.out)
 obtain ⟨W0,hW0⟩:∃ W0,((w2.alloc (.cells #[.int .i64 0,.slice (some ⟨g1,0,none⟩) len len,.slice (some ⟨g2,0,none⟩) len len] 79)).alloc (.cells #[.slice a len cap] 23))=W0:=⟨_,rfl⟩
 have hsz:W0.heap.size=w2.heap.size+2:=by rw [<-hW0];simp
 rw [hW0] at hV0 bN hR0 hq1 hq2 hB0 ⊢
 clear hW0
 refine rangeFunc_inOrder (F:=FW) (n:=8) hro (by omega) (gf:=105) (lb:=#[.pointer (some ⟨w2.heap.size+1,0,none⟩)]) rfl trivial (enters_of Tryz.func105 (by kernel_rfl) rfl)
  (lastFirst_told FW 7 trivial rfl (by omega) (w2.heap.size+1) w.heap.size len cap a xs HL.out hlen HPOS.out HP.out W0 (by omega) bN ?hints) Keep.trans (keep_b (by omega) (by omega)) (Below.refl _ _) (fun _=>rfl)
  (fun t W=>((ViewAt W w.heap.size (.int .i64 0) (.slice none 0 0) (.slice none 0 0)/\ViewAt W w2.heap.size (.int .i64 0) (.slice (some ⟨g1,0,none⟩) len len) (.slice (some ⟨g2,0,none⟩) len len))/\(W.rowIs g1 3 len (fun j=>.int .i64 (xs[j]?.getD 0))/\W.rowIs g2 3 len (wholeF xs len t)))/\Below w.heap.size w W)
  (fun _ _=>False)
  ?own (fun _ _ _ _ hs _ _=>hs)
  ⟨⟨⟨hR0,hV0⟩,⟨hq1,hq2.congr (fun i hi=>by unfold wholeF;rw [if_neg (by omega)])⟩⟩,hB0⟩
  ?a1 ?assign ?body ?done ?stop
 case assign =>
  intro l t W K hK
  simp only [encT]
  gi_wp2
  exact hK
 case hints =>
  by_cases h0:len=0
  · exact .inl h0
  · obtain ⟨b,off,ha,hb,hc⟩:=H.out.at (by omega)
    exact .inr ⟨b,off,ha,hb,fun j hj=>(hB0.cell (p:=⟨b,off+j,none⟩) hb).trans (hc j hj)⟩
 case own =>
  exact OwnFrom.and (OwnFrom.and (OwnFrom.and (Own.from (view_own _ _ _ _) _) (Own.from (view_own _ _ _ _) _)) (OwnFrom.and (Own.from (row_own _ _ _ _) _) (Own.from (row_own _ _ _ _) _))) (ownFrom_below (Nat.le_refl _) (by omega))
 case body =>
  rintro l t W ht ⟨⟨⟨hr,hv⟩,⟨hq1,hq2⟩⟩,hB⟩
  have HR:=hide hr
  have HV:=hide hv
  have HQ1:=hide hq1
  have HQ2:=hide hq2
  have HB:=hide hB
  clear hr hv hq1 hq2 hB hV0 bN hR0 hB0
  obtain ⟨k,hk⟩:∃ k:Nat,len-1-t=k:=⟨_,rfl⟩
  have hkl:k<len:=by omega
  obtain ⟨⟨v0,v1,v2⟩,_⟩:=HV.out.cells
  have c2:=HQ2.out.cell hkl
  have f2:=HQ2.out.frozen k
  have i1:(0:Int)<=(k:Int):=Int.natCast_nonneg _
  have i2:(k:Int)<(len:Int):=by omega
  have HK:=hide hk
  have HT:=hide ht
  simp only [hk]
  clear hk ht
  gi_wp2
  have hvl:=HV.out.lt
  refine ⟨(KeepsOthers.setCell _ _ _).from _,?_,⟨⟨⟨?_,?_⟩,⟨?_,?_⟩⟩,?_⟩⟩
  · exact (Keep.refl _ _ W).setCell (p:=⟨g2,k,none⟩) (by simp;omega) (by simp;omega) _
  · exact HR.out.set (p:=⟨g2,k,none⟩) (by simp;omega) _
  · exact HV.out.set (p:=⟨g2,k,none⟩) (by simp;omega) _
  · exact HQ1.out.setOther (a:=⟨g2,k,none⟩) hgne _
  · refine (HQ2.out.set k _).congr (fun j _=>?_)
    rw [<-HK.out]
    exact wholeF_succ xs len t j HT.out
  · exact HB.out.setCell (p:=⟨g2,k,none⟩) (by simp;omega) _
 case done =>
  rintro D W hD ⟨⟨⟨hr,hv⟩,⟨hq1,hq2⟩⟩,hB⟩ hK
  obtain ⟨⟨r0,r1,r2⟩,rf0,rf1,rf2⟩:=hr.cells
  obtain ⟨⟨v0,v1,v2⟩,_⟩:=hv.cells
  have hvl:=hv.lt
  have HR:=hide hr
  have HV:=hide hv
  have HQ1:=hide hq1
  have HQ2:=hide hq2
  have HB:=hide hB
  have HK:=hide hK
  clear hr hv hq1 hq2 hB hK hV0 bN hR0 hB0
  gi_wp2
  generalize hW3:((W.setCell ⟨w.heap.size,0,none⟩ (.int .i64 0)).setCell ⟨w.heap.size,1,none⟩ (.slice (some ⟨g1,0,none⟩) len len)).setCell ⟨w.heap.size,2,none⟩ (.slice (some ⟨g2,0,none⟩) len len)=W3
  have hK3:W3.heap[D]?=some (.deferred (some [])):=by
   rw [<-hW3]
   exact ((Below.heap_setCell _ ⟨w.heap.size,2,none⟩ _ D (by simp;omega)).trans ((Below.heap_setCell _ ⟨w.heap.size,1,none⟩ _ D (by simp;omega)).trans (Below.heap_setCell _ ⟨w.heap.size,0,none⟩ _ D (by simp;omega)))).trans HK.out
  have hv3:ViewAt W3 w.heap.size (.int .i64 0) (.slice (some ⟨g1,0,none⟩) len len) (.slice (some ⟨g2,0,none⟩) len len):=by
   rw [<-hW3];exact ((HR.out.set0 _).set1 _).set2 _
  have hB3:Below w.heap.size w W3:=by
   rw [<-hW3];exact ((HB.out.setCell (p:=⟨w.heap.size,0,none⟩) (Nat.le_refl _) _).setCell (p:=⟨w.heap.size,1,none⟩) (Nat.le_refl _) _).setCell (p:=⟨w.heap.size,2,none⟩) (Nat.le_refl _) _
  have hq1':W3.rowIs g1 3 len (fun j=>.int .i64 (xs[j]?.getD 0)):=by
   rw [<-hW3];exact ((HQ1.out.setOther (a:=⟨w.heap.size,0,none⟩) (by simp;omega) _).setOther (a:=⟨w.heap.size,1,none⟩) (by simp;omega) _).setOther (a:=⟨w.heap.size,2,none⟩) (by simp;omega) _
  have hq2':W3.rowIs g2 3 len (wholeF xs len len):=by
   rw [<-hW3];exact ((HQ2.out.setOther (a:=⟨w.heap.size,0,none⟩) (by simp;omega) _).setOther (a:=⟨w.heap.size,1,none⟩) (by simp;omega) _).setOther (a:=⟨w.heap.size,2,none⟩) (by simp;omega) _
  clear hW3 r0 r1 r2 v0 v1 v2 HR HV HQ1 HQ2 HB HK
  refine ⟨by simp,.inl ⟨_,_,rfl,run_takeDeferred hK3,?_⟩⟩
  have hv4:ViewAt (W3.putObj D (.deferred none)) w.heap.size (.int .i64 0) (.slice (some ⟨g1,0,none⟩) len len) (.slice (some ⟨g2,0,none⟩) len len):=(World.putObj_heap_other (by omega)).trans hv3
  have hq1'':(W3.putObj D (.deferred none)).rowIs g1 3 len (fun j=>.int .i64 (xs[j]?.getD 0)):=hq1'.of_block (World.putObj_heap_other (by omega))
  have hq2'':(W3.putObj D (.deferred none)).rowIs g2 3 len (wholeF xs len len):=hq2'.of_block (World.putObj_heap_other (by omega))
  obtain ⟨⟨u0,u1,u2⟩,_⟩:=hv4.cells
  refine ⟨.tuple #[.agg #[.int .i64 0,.slice (some ⟨g1,0,none⟩) len len,.slice (some ⟨g2,0,none⟩) len len],.int .i64 0],by simp [results,Tryz.results78,go_sem,u0,u1,u2],⟨_,_,_,_,_,_,rfl,?_,?_,⟨Nat.le_refl _,Nat.le_refl _⟩,.inr (far_some (by omega)),far_some (by omega)⟩,hB3.trans (belowK_b (w:=w) (Nat.le_refl _) W3 D _ _ (by omega) hK3 rfl rfl)⟩
  · exact ints_of_rowI hq1'' HL.out (by omega) H.out.2.2.1
  · refine ints_of_rowI (hq2''.congr (fun j hj=>?_)) (by rw [stepsV_len];exact HL.out) (by omega) (stepsV_bd HZ2.out (by rw [HL.out];exact hlen))
    rw [stepsV_getD' xs j (by rw [HL.out];exact hj),stepV_pos HPOS.out]
    unfold wholeF
    rw [if_pos (by omega)]
 case stop =>
  rintro D c W _ h _
  exact h.elim
theorem whole_none (a:Option Addr) (len cap:Nat) (xs:List Int) (w:World) (h:Ints w a len xs) (hE:sizeE xs=0) (hN:sizeN xs=0) (d0:Option Addr) :
 CallsIn FW 8 Tryz.prog 78 #[.slice a len cap] w fun e w'=>GivesF w d0 e w' 0 xs (stepsV xs) 0/\Below w.heap.size w w':=by
 obtain ⟨z1,z2,z3,z4⟩:=sizeE_ok hE
 have hz:(0:Int)∈xs:=by
  by_cases hz:(0:Int)∈xs
  · exact hz
  · exfalso
    have hpos:∀ x∈xs,1<=x:=fun x hx=>by
     have:=z2 x hx
     by_cases e:x=0
     · exact absurd (e ▸ hx) hz
     · omega
    have:=prod_pos xs hpos
    have:=(z3 hpos).2
    omega
 have hl:=h.1
 have hlen:len<=6:=by omega
 have H:=hide h
 have HE:=hide hE
 have HL:=hide hl
 have HZ:=hide hz
 have HN:=hide hN
 have HZ2:=hide z2
 clear h hE hl z1 z2 z3 z4 hN hz
 have hro:FW.round=none:=rfl
 refine callsIn_of_wp Tryz.func78 rfl trivial ?_ hro
 simp only [Tryz.ntmps78,List.size_toArray,List.length_cons,List.length_nil,Nat.reduceAdd,Nat.reduceSub,Array.replicate_succ,Array.replicate_zero,List.push_toArray,List.append_toArray,List.nil_append,List.cons_append]
 have hb1:Below w.heap.size w (w.alloc (.cells #[.int .i64 0,.slice none 0 0,.slice none 0 0] 79)):=(Below.refl _ _).alloc (Nat.le_refl _) _
 have HB1:=hide hb1
 have HR1:=hide (ViewAt.new w (.int .i64 0) (.slice none 0 0) (.slice none 0 0))
 clear hb1
 gi_wp2_with (first
  | (refine ⟨trivial,?_⟩;gi_at_call 34;refine (callsIn_wide.2 (size_any _ _ _ xs _ (H.out.below HB1.out))).mono ?_;rintro e w' ⟨rfl,rfl⟩;rw [HE.out,HN.out])
  | (refine ⟨trivial,?_⟩;gi_at_call 95;refine (callsIn_wide.2 (blank_any _ _ _ _ xs _ (H.out.below HB1.out) hlen)).mono ?_;rintro e w2 ⟨⟨g1,g2,rfl,⟨hr1,hr2⟩,hgne,hg1,hg2⟩,hb⟩;have HQ1:=hide hr1;have HQ2:=hide hr2;have HB2:=hide (Below.on HB1.out hb);have HR2:=hide (HR1.out.below hb);obtain ⟨⟨r0,r1,r2⟩,rf0,rf1,rf2⟩:=HR2.out.cells;have hlt2:=HR2.out.lt;clear hr1 hr2 hb))
 simp only [World.size_alloc] at hg1 hg2
 have hlg1:=HQ1.out.lt
 have hlg2:=HQ2.out.lt
 have hR3:=(view_put' (x:=.int .i64 0) (y:=.slice (some ⟨g1,0,none⟩) len len) (z:=.slice (some ⟨g2,0,none⟩) len len) HR2.out).alloc (.cells #[.int .i64 0,.slice (some ⟨g1,0,none⟩) len len,.slice (some ⟨g2,0,none⟩) len len] 79)
 obtain ⟨⟨u0,u1,u2⟩,_⟩:=hR3.cells
 refine bodyPost_ret (v:=.tuple #[.agg #[.int .i64 0,.slice (some ⟨g1,0,none⟩) len len,.slice (some ⟨g2,0,none⟩) len len],.int .i64 0]) (by simp [results,Tryz.results78,go_sem,u0,u1,u2]) rfl ⟨⟨_,_,_,_,_,_,rfl,?_,?_,⟨Nat.le_refl _,Nat.le_refl _⟩,.inr (far_some (by omega)),far_some (by omega)⟩,bl_alloc (below_put HB2.out (Nat.le_refl _))⟩
 · exact (ints_set3 (ints_of_rowI HQ1.out HL.out (by omega) H.out.2.2.1) (by omega)).below ((Below.refl _ _).alloc (Nat.le_refl _) _)
 · refine (ints_set3 (ints_of_rowI (HQ2.out.congr (fun j hj=>?_)) (by rw [stepsV_len];exact HL.out) (by omega) (stepsV_bd HZ2.out (by rw [HL.out];exact hlen))) (by omega)).below ((Below.refl _ _).alloc (Nat.le_refl _) _)
   rw [stepsV_getD' xs j (by rw [HL.out];exact hj),stepV_zero HZ.out]
theorem whole_size (a:Option Addr) (len cap:Nat) (xs:List Int) (w:World) (h:Ints w a len xs) (hE:sizeE xs≠0) (d0:Option Addr) :
 CallsIn FW 8 Tryz.prog 78 #[.slice a len cap] w fun e w'=>GivesF w d0 e w' 0 [] [] (sizeE xs)/\Below w.heap.size w w':=by
 have H:=hide h
 have hro:FW.round=none:=rfl
 have hE1:(sizeE xs != 0)=true:=by simp [hE]
 clear h hE
 refine callsIn_of_wp Tryz.func78 rfl trivial ?_ hro
 simp only [Tryz.ntmps78,List.size_toArray,List.length_cons,List.length_nil,Nat.reduceAdd,Nat.reduceSub,Array.replicate_succ,Array.replicate_zero,List.push_toArray,List.append_toArray,List.nil_append,List.cons_append]
 have hb1:Below w.heap.size w (w.alloc (.cells #[.int .i64 0,.slice none 0 0,.slice none 0 0] 79)):=(Below.refl _ _).alloc (Nat.le_refl _) _
 have HB1:=hide hb1
 have HR1:=hide (ViewAt.new w (.int .i64 0) (.slice none 0 0) (.slice none 0 0))
 clear hb1
 gi_wp2_with (refine ⟨trivial,?_⟩;gi_at_call 34;refine (callsIn_wide.2 (size_any _ _ _ xs _ (H.out.below HB1.out))).mono ?_;rintro e w' ⟨rfl,rfl⟩)
 obtain ⟨⟨u0,u1,u2⟩,_⟩:=HR1.out.cells
 refine bodyPost_ret (v:=.tuple #[.agg #[.int .i64 0,.slice none 0 0,.slice none 0 0],.int .i64 (sizeE xs)]) (by simp [results,Tryz.results78,go_sem,u0,u1,u2]) rfl ⟨givesF_none _ _ _ _,HB1.out⟩
theorem whole_any (a:Option Addr) (len cap:Nat) (xs:List Int) (w:World) (h:Ints w a len xs) (d0:Option Addr) :
 Calls Tryz.prog 78 #[.slice a len cap] w fun e w'=>GivesF w d0 e w' 0 (okL (sizeE xs) xs) (okL (sizeE xs) (stepsV xs)) (sizeE xs)/\Below w.heap.size w w':=by
 refine (callsIn_wide (n:=8)).1 ?_
 by_cases hE:sizeE xs=0
 · simp only [hE,okL]
   by_cases hN:sizeN xs=0
   · exact whole_none a len cap xs w h hE hN d0
   · exact whole_ok a len cap xs w h hE hN d0
 · simp only [okL,if_neg hE]
   exact whole_size a len cap xs w h hE d0
end Go.Proofs.YtakpedjhgdkhkaaGreatDoor.V
namespace Go.Proofs.YtakpedjhgdkhkaaGreatDoor.V
set_option maxRecDepth 100000
set_option maxHeartbeats 8000000
open Go.RowKit
theorem prod_zero {xs:List Int} (h:(0:Int)∈xs):prod xs=0:=by
 induction xs with
 | nil=>cases h
 | cons x r ih =>
  rcases List.mem_cons.1 h with e | e
  · rw [prod,<-e];omega
  · rw [prod,ih e];omega
theorem dims_cases {xs:List Int} (hE:sizeE xs=0):(0:Int)∈xs/\sizeN xs=0/\prod xs=0\/(∀ x∈xs,1<=x)/\sizeN xs=prod xs/\prod xs<=65536/\1<=prod xs:=by
 obtain ⟨z1,z2,z3,z4⟩:=sizeE_ok hE
 by_cases hz:(0:Int)∈xs
 · exact .inl ⟨hz,z4 hz,prod_zero hz⟩
 · have hpos:∀ x∈xs,1<=x:=fun x hx=>by
    have:=z2 x hx
    by_cases e:x=0
    · exact absurd (e ▸ hx) hz
    · omega
   exact .inr ⟨hpos,(z3 hpos).2,(z3 hpos).1,prod_pos xs hpos⟩
theorem rwhole_any (a:Option Addr) (len cap:Nat) (xs:List Int) (w:World) (h:Ints w a len xs) (hcap:len<=cap) :
 Calls Tryz.prog 73 #[.slice a len cap] w fun e w'=>GivesF w a e w' 0 (okL (sizeE xs) xs) (okL (sizeE xs) (stepsV xs)) (sizeE xs)/\Below w.heap.size w w':=by
 have hb1:Below w.heap.size w (w.alloc (.cells #[.int .i64 0,.slice none 0 0,.slice none 0 0] 79)):=(Below.refl _ _).alloc (Nat.le_refl _) _
 have HB1:=hide hb1
 have HR1:=hide (ViewAt.new w (.int .i64 0) (.slice none 0 0) (.slice none 0 0))
 have H:=hide h
 clear hb1
 by_cases hE:sizeE xs=0
 · obtain ⟨z1,z2,_,_⟩:=sizeE_ok hE
   have hlen:len<=6:=by have:=h.1;omega
   have HZ2:=hide z2
   have HE:=hide hE
   simp only [hE,okL,if_true]
   clear h hE z1 z2
   go_enter Tryz.func73,Tryz.ntmps73
   go_wp2_with (first
    | (go_at_call 27;refine (rsize_any _ _ _ xs _ (H.out.below HB1.out)).mono ?_;rintro e w' ⟨rfl,hw'⟩;obtain rfl:=hw'.symm;rw [HE.out])
    | (go_at_call 90;refine (rsteps_any _ _ _ xs _ (H.out.below HB1.out) hcap hlen HZ2.out).mono ?_;rintro e w1 ⟨⟨g1,c1,rfl,hgc,hi1⟩,hb1⟩;have HI1:=hide hi1;have HB2:=hide (Below.on HB1.out hb1);have HR2:=hide (HR1.out.below hb1);obtain ⟨⟨r0,r1,r2⟩,rf0,rf1,rf2⟩:=HR2.out.cells;have hlt2:=HR2.out.lt;clear hi1 hb1))
   simp only [World.size_alloc] at hgc
   have hR3:=view_put' (x:=.int .i64 0) (y:=.slice a len cap) (z:=.slice (some ⟨g1,0,none⟩) len c1) HR2.out
   obtain ⟨⟨u0,u1,u2⟩,_⟩:=hR3.cells
   have hB3:=below_put (x:=.int .i64 0) (y:=.slice a len cap) (z:=.slice (some ⟨g1,0,none⟩) len c1) HB2.out (Nat.le_refl w.heap.size)
   refine bodyPost_ret (v:=.tuple #[.agg #[.int .i64 0,.slice a len cap,.slice (some ⟨g1,0,none⟩) len c1],.int .i64 0]) (by simp [results,Tryz.results73,go_sem,u0,u1,u2]) rfl ⟨⟨_,_,_,_,_,_,rfl,H.out.below hB3,?_,⟨hcap,hgc.1⟩,.inl rfl,far_some (by omega)⟩,hB3⟩
   exact ints_set3 HI1.out (by omega)
 · have hE1:(sizeE xs != 0)=true:=by simp [hE]
   simp only [okL,if_neg hE]
   clear h hE
   go_enter Tryz.func73,Tryz.ntmps73
   go_wp2_with (go_at_call 27;refine (rsize_any _ _ _ xs _ (H.out.below HB1.out)).mono ?_;rintro e w' ⟨rfl,hw'⟩;obtain rfl:=hw'.symm)
   obtain ⟨⟨u0,u1,u2⟩,_⟩:=HR1.out.cells
   refine bodyPost_ret (v:=.tuple #[.agg #[.int .i64 0,.slice none 0 0,.slice none 0 0],.int .i64 (sizeE xs)]) (by simp [results,Tryz.results73,go_sem,u0,u1,u2]) rfl ⟨givesF_none _ _ _ _,HB1.out⟩
end Go.Proofs.YtakpedjhgdkhkaaGreatDoor.V
namespace Go.Proofs.YtakpedjhgdkhkaaGreatDoor.V
set_option maxRecDepth 100000
set_option maxHeartbeats 8000000
open Go.RowKit Go.Shelf
attribute [local go_sem] Oper.semAt_some
end Go.Proofs.YtakpedjhgdkhkaaGreatDoor.V
namespace Go.Proofs.YtakpedjhgdkhkaaGreatDoor.V
set_option maxRecDepth 100000
set_option maxHeartbeats 8000000
end Go.Proofs.YtakpedjhgdkhkaaGreatDoor.V
namespace Go.Proofs.YtakpedjhgdkhkaaGreatDoor.V
set_option maxRecDepth 100000
set_option maxHeartbeats 8000000
open Go.RowKit
end Go.Proofs.YtakpedjhgdkhkaaGreatDoor.V
namespace Go.Proofs.YtakpedjhgdkhkaaGreatDoor.V
set_option maxRecDepth 100000
set_option maxHeartbeats 8000000
open Go.RowKit Go.Shelf
attribute [local go_sem] Oper.semAt_some
attribute [local go_sem] Oper.semAt_some
attribute [local go_sem] Oper.semAt_some
end Go.Proofs.YtakpedjhgdkhkaaGreatDoor.V
namespace Go.Proofs.YtakpedjhgdkhkaaGreatDoor.V
set_option maxRecDepth 100000
set_option maxHeartbeats 8000000
theorem perm_range:∀ (n:Nat) (l:List Nat),l.length=n->(∀ k,k<n->k∈l)->l.Perm (List.range n)
 | 0,l,h,_=>by
  have:l=[]:=List.length_eq_zero_iff.1 h
  subst this;exact List.Perm.refl _
 | n+1,l,h,hm=>by
  obtain ⟨a,b,rfl⟩:=List.append_of_mem (hm n (by omega))
  have hl:(a++b).length=n:=by simp at h ⊢;omega
  have ih:=perm_range n (a++b) hl (fun k hk=>by
   have:=hm k (by omega)
   simp only [List.mem_append,List.mem_cons] at this ⊢
   rcases this with h | rfl | h
   · exact .inl h
   · omega
   · exact .inr h)
  rw [List.range_succ]
  exact List.perm_middle.trans ((List.Perm.cons n ih).trans (List.perm_append_singleton n (List.range n)).symm)
theorem map_getD_range (xs:List Int):(List.range xs.length).map (fun k=>xs[k]?.getD 0)=xs:=by
 apply List.ext_getElem?
 intro i
 by_cases hi:i<xs.length
 · simp [hi]
 · rw [List.getElem?_eq_none (by simp;omega),List.getElem?_eq_none (by omega)]
theorem taken_perm {xs ps:List Int} (hp:PermOk ps xs.length):(taken xs ps).Perm xs:=by
 have h1:(ps.map Int.toNat).Perm (List.range xs.length):=by
  refine perm_range _ _ (by simp [hp.1]) (fun k hk=>?_)
  have:=(perm_iff hp.1).1 hp.2 k hk
  simp only [List.mem_map]
  exact ⟨(k:Int),this,by simp⟩
 have h2:=h1.map (fun k=>xs[k]?.getD 0)
 rw [map_getD_range] at h2
 have e:taken xs ps=(ps.map Int.toNat).map (fun k=>xs[k]?.getD 0):=by simp [taken]
 rw [e];exact h2
theorem prod_perm {a b:List Int} (h:a.Perm b):prod a=prod b:=by
 induction h with
 | nil=>rfl
 | cons x _ ih=>rw [prod,prod,ih]
 | swap x y l=>simp only [prod];rw [<-Int.mul_assoc,<-Int.mul_assoc,Int.mul_comm y x]
 | trans _ _ ih1 ih2=>rw [ih1,ih2]
theorem any_perm {a b:List Int} (h:a.Perm b) (p:Int->Bool):a.any p=b.any p:=by
 cases hb:b.any p with
 | true =>
  rw [List.any_eq_true] at hb ⊢
  obtain ⟨x,hx,hp⟩:=hb
  exact ⟨x,h.mem_iff.2 hx,hp⟩
 | false =>
  rw [List.any_eq_false] at hb ⊢
  exact fun x hx=>hb x (h.mem_iff.1 hx)
theorem sizeE_perm {a b:List Int} (h:a.Perm b):sizeE a=sizeE b:=by
 unfold sizeE
 rw [h.length_eq,any_perm h,prod_perm h]
 by_cases h0:(0:Int)∈b
 · rw [if_pos h0,if_pos (h.mem_iff.2 h0)]
 · rw [if_neg h0,if_neg (fun e=>h0 (h.mem_iff.1 e))]
theorem wrong_turn {s:Int} {ds ss ps:List Int} (hW:wrongE s ds ss=0) (hp:PermOk ps ds.length):wrongE s (taken ds ps) (taken ss ps)=0:=by
 obtain ⟨h1,h2,h3⟩:=wrongE_ok hW
 unfold wrongE
 rw [sizeE_perm (taken_perm hp),if_neg (by simp [h1]),taken_length,taken_length,if_neg (by simp),if_neg (by rw [turn_far hW hp h2];simp)]
def invN (ps:List Int):Nat->Nat->Int
 | 0,_=>0
 | i+1,k=>if ps[i]?.getD 0=(k:Int) then (i:Int) else invN ps i k
def invL (ps:List Int):List Int:=(List.range ps.length).map (invN ps ps.length)
theorem invN_spec (ps:List Int) (k:Nat):∀ n,(∃ i,i<n/\ps[i]?.getD 0=(k:Int))->∃ i:Nat,i<n/\invN ps n k=(i:Int)/\ps[i]?.getD 0=(k:Int)
 | 0,⟨i,h,_⟩=>by omega
 | n+1,⟨i,h,e⟩=>by
  by_cases c:ps[n]?.getD 0=(k:Int)
  · exact ⟨n,by omega,by rw [invN,if_pos c],c⟩
  · have:i<n:=by
     by_cases h':i=n
     · subst h';exact absurd e c
     · omega
    obtain ⟨j,h1,h2,h3⟩:=invN_spec ps k n ⟨i,this,e⟩
    exact ⟨j,by omega,by rw [invN,if_neg c,h2],h3⟩
theorem invL_length (ps:List Int):(invL ps).length=ps.length:=by simp [invL]
theorem invL_getD (ps:List Int) (k:Nat) (h:k<ps.length):(invL ps)[k]?.getD 0=invN ps ps.length k:=by simp [invL,h]
theorem perm_inj {ps:List Int} {n:Nat} (hp:PermOk ps n) {i j:Nat} (hi:i<n) (hj:j<n) (e:ps[i]?.getD 0=ps[j]?.getD 0):i=j:=by
 by_cases h1:i<j
 · exact absurd e ((hp.2 j hj).2.2 i h1)
 · by_cases h2:j<i
   · exact absurd e.symm ((hp.2 i hi).2.2 j h2)
   · omega
theorem perm_at {ps:List Int} {n:Nat} (hp:PermOk ps n) (k:Nat) (hk:k<n):∃ i:Nat,i<n/\invN ps n k=(i:Int)/\ps[i]?.getD 0=(k:Int):=by
 have hm:=(perm_iff hp.1).1 hp.2 k hk
 obtain ⟨i,hi,e⟩:=List.getElem_of_mem hm
 have hl:=hp.1
 exact invN_spec ps k n ⟨i,by omega,by simp [hi,e]⟩
theorem invL_perm {ps:List Int} {n:Nat} (hp:PermOk ps n):PermOk (invL ps) n:=by
 have hl:=hp.1
 refine ⟨by rw [invL_length,hl],(perm_iff (by rw [invL_length,hl])).2 fun i hi=>?_⟩
 have hb:=hp.2 i hi
 obtain ⟨k,hk⟩:∃ k:Nat,ps[i]?.getD 0=(k:Int):=⟨(ps[i]?.getD 0).toNat,by omega⟩
 have hkn:k<n:=by omega
 obtain ⟨j,h1,h2,h3⟩:=perm_at hp k hkn
 have hij:=perm_inj hp hi h1 (hk.trans h3.symm)
 subst hij
 have:(invL ps)[k]?.getD 0=(i:Int):=by rw [invL_getD ps k (by omega),hl,h2]
 rw [<-this]
 exact mem_getD _ k (by rw [invL_length,hl];exact hkn)
theorem taken_back {xs ps:List Int} (hp:PermOk ps xs.length):taken (taken xs ps) (invL ps)=xs:=by
 have hl:=hp.1
 apply List.ext_getElem?
 intro k
 by_cases hk:k<xs.length
 · obtain ⟨i,h1,h2,h3⟩:=perm_at hp k hk
   have e1:(taken (taken xs ps) (invL ps))[k]?.getD 0=(taken xs ps)[i]?.getD 0:=taken_getD _ _ k i (by rw [invL_length];omega) (by rw [invL_getD ps k (by omega),hl,h2])
   have e2:(taken xs ps)[i]?.getD 0=xs[k]?.getD 0:=taken_getD _ _ i k (by omega) h3
   have hl1:k<(taken (taken xs ps) (invL ps)).length:=by rw [taken_length,invL_length];omega
   rw [List.getElem?_eq_getElem hl1,Option.getD_some] at e1
   rw [List.getElem?_eq_getElem hk,Option.getD_some] at e2
   rw [List.getElem?_eq_getElem hl1,List.getElem?_eq_getElem hk,e1,e2]
 · rw [List.getElem?_eq_none (by rw [taken_length,invL_length];omega),List.getElem?_eq_none (by omega)]
theorem turn_again {s:Int} {ds ss ps:List Int} (h:turnE s ds ss ps=0):PermOk ps ds.length/\turnE s (taken ds ps) (taken ss ps) (invL ps)=0/\taken (taken ds ps) (invL ps)=ds/\taken (taken ss ps) (invL ps)=ss:=by
 have hW:wrongE s ds ss=0:=by
  unfold turnE at h
  by_cases c:wrongE s ds ss=0
  · exact c
  · rw [if_pos c] at h;exact absurd h c
 have hp:PermOk ps ds.length:=by
  unfold turnE at h
  rw [if_neg (by simp [hW])] at h
  by_cases c:permB ps ds.length=true
  · exact (permB_iff _ _).1 c
  · rw [if_neg c] at h;omega
 have hlen:=(wrongE_ok hW).2.1
 refine ⟨hp,?_,taken_back hp,taken_back (by rw [hlen];exact hp)⟩
 unfold turnE
 rw [if_neg (by rw [wrong_turn hW hp];simp),if_pos ((permB_iff _ _).2 (by rw [taken_length,hp.1];exact invL_perm hp))]
theorem wrong_whole {ds:List Int} (h:sizeE ds=0):wrongE 0 ds (stepsV ds)=0:=by
 unfold wrongE
 rw [if_neg (by simp [h]),if_neg (by rw [stepsV_len];simp),if_neg ?_]
 have:beyondB 0 (stepsV ds)=false:=by
  unfold beyondB
  rw [Bool.or_eq_false_iff]
  refine ⟨by decide,?_⟩
  rw [List.any_eq_false]
  intro x hx
  simp only [stepsV,List.mem_map,List.mem_range] at hx
  obtain ⟨k,_,rfl⟩:=hx
  have:0<=stepV ds k/\stepV ds k<=65536:=by
   rcases dims_cases h with ⟨h0,_⟩ | ⟨hpos,_,hp,_⟩
   · rw [stepV_zero h0];omega
   · rw [stepV_pos hpos]
     have:=prod_drop_le ds hpos (k+1)
     unfold beh;omega
  simp [farB];omega
 rw [this];simp
theorem stepV_bd {ds:List Int} (h:sizeE ds=0) (k:Nat):0<=stepV ds k/\stepV ds k<=65536:=by
 rcases dims_cases h with ⟨h0,_⟩ | ⟨hpos,_,hp,_⟩
 · rw [stepV_zero h0];omega
 · rw [stepV_pos hpos]
   have:=prod_drop_le ds hpos (k+1)
   unfold beh;omega
theorem steps_bd {ds:List Int} (h:sizeE ds=0) (k:Nat):0<=(stepsV ds)[k]?.getD 0/\(stepsV ds)[k]?.getD 0<=65536:=by
 by_cases hk:k<ds.length
 · rw [stepsV_getD' ds k hk];exact stepV_bd h k
 · rw [List.getElem?_eq_none (by rw [stepsV_len];omega)];simp
theorem far_of {s:Int} {l:List Int} (h1:-1099511627776<=s/\s<=1099511627776) (h2:∀ x∈l,-1099511627776<=x/\x<=1099511627776):beyondB s l=false:=by
 unfold beyondB
 rw [Bool.or_eq_false_iff,List.any_eq_false]
 refine ⟨by simp [farB];omega,fun x hx=>?_⟩
 have:=h2 x hx
 simp [farB];omega
theorem flipAcc_whole {ds:List Int} (hE:sizeE ds=0) (ps:List Int):∀ i:Nat,0<=flipAcc 0 ds (stepsV ds) ps i/\flipAcc 0 ds (stepsV ds) ps i<=268435456*i
 | 0=>by simp [flipAcc]
 | i+1=>by
  have ih:=flipAcc_whole hE ps i
  obtain ⟨j,hj⟩:∃ j,(ps[i]?.getD 0).toNat=j:=⟨_,rfl⟩
  have hb:=steps_bd hE j
  have hd:ds[j]?.getD 0<=4096:=by
   by_cases h:j<ds.length
   · exact ((sizeE_ok hE).2.1 _ (mem_getD ds j h)).2
   · rw [List.getElem?_eq_none (by omega)];simp
  have ht:0<=flipTerm ds (stepsV ds) j/\flipTerm ds (stepsV ds) j<=268435456:=by
   unfold flipTerm
   split
   · refine ⟨Int.mul_nonneg (by omega) hb.1,?_⟩
     have:(ds[j]?.getD 0-1)*(stepsV ds)[j]?.getD 0<=4096*65536:=Int.mul_le_mul (by omega) hb.2 hb.1 (by omega)
     omega
   · omega
  rw [flipAcc,hj];omega
end Go.Proofs.YtakpedjhgdkhkaaGreatDoor.V
namespace Go.Proofs.YtakpedjhgdkhkaaGreatDoor.V
set_option maxRecDepth 100000
set_option maxHeartbeats 8000000
open Go.RowKit
theorem ints_putL {w w':World} {d0 a:Option Addr} {dl n N C:Nat} {ds xs:List Int} {x y z:Value} (hi:Ints w' a n xs) (hF:a=d0\/Far N a) (hd:Ints w d0 dl ds) (hn:0<n->0<dl) (hw:w.heap.size<=C) (hC:C<N) :
 Ints (((w'.setCell ⟨C,0,none⟩ x).setCell ⟨C,1,none⟩ y).setCell ⟨C,2,none⟩ z) a n xs:=by
 by_cases h0:n=0
 · obtain ⟨q1,q2,q3,_⟩:=hi
   exact ⟨q1,q2,q3,.inl h0⟩
 rcases hF with rfl | hF
 · obtain ⟨b,o,e,hb,_⟩:=hd.at (hn (by omega))
   exact ints_set3o hi (fun g o' e'=>by rw [e] at e';cases e';omega)
 · exact ints_set3o hi (fun g o e=>by have:=hF g o e;omega)
theorem okL_len {E:Int} {l:List Int} {n m:Nat} {w:World} {a:Option Addr} (h:Ints w a n (okL E l)) (hl:E=0->l.length=m):0<n->0<m:=by
 intro h0
 have h1:=h.1
 unfold okL at h1
 by_cases c:E=0
 · rw [if_pos c] at h1;have:=hl c;omega
 · rw [if_neg c] at h1;simp at h1;omega
end Go.Proofs.YtakpedjhgdkhkaaGreatDoor.V
