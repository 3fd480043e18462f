/-
  
-/
import Derived.Test.YtakpedjhgdkhkaaGreatDoorK15
import Derived.Deep.RegionHeldLaw
namespace Go.Proofs.YtakpedjhgdkhkaaGreatDoor.V
set_option maxRecDepth 100000
set_option maxHeartbeats 8000000
open Go.RowKit
theorem prod_mono:∀ (xs ys:List Int),xs.length=ys.length->(∀ j,j<xs.length->1<=xs[j]?.getD 0/\xs[j]?.getD 0<=ys[j]?.getD 0)->prod xs<=prod ys
 | [],[],_,_=>Int.le_refl _
 | [],_::_,h,_=>by simp at h
 | _::_,[],h,_=>by simp at h
 | x::xs,y::ys,h,hj=>by
  have h0:=hj 0 (by simp)
  have ih:=prod_mono xs ys (by simpa using h) (fun j hj'=>by have:=hj (j+1) (by simpa using hj');simpa using this)
  have p0:0<=prod xs:=by
   have:=prod_pos xs (fun z hz=>by obtain ⟨i,hi,rfl⟩:=List.getElem_of_mem hz;have:=(hj (i+1) (by simpa using hi)).1;simpa [hi] using this)
   omega
  simp only [List.getElem?_cons_zero,Option.getD_some] at h0
  simp only [prod]
  exact Int.mul_le_mul h0.2 ih p0 (by omega)
theorem size_cut {s:Int} {ds ss lo hi st:List Int} (hW:wrongE s ds ss=0) (hb:anyBad ds lo hi st=false):sizeE (cutD ds lo hi st)=0:=by
 have hsm:=small_of hW
 have hbd:=cutD_bd hsm hb
 obtain ⟨w1,_,_⟩:=wrongE_ok hW
 obtain ⟨z1,z2,z3,_⟩:=sizeE_ok w1
 unfold sizeE
 rw [if_neg (by rw [cutD_length];omega),if_neg]
 · by_cases h0:(0:Int)∈cutD ds lo hi st
   · rw [if_pos h0]
   · rw [if_neg h0,if_neg]
     have hle:∀ j,j<(cutD ds lo hi st).length->1<=(cutD ds lo hi st)[j]?.getD 0/\(cutD ds lo hi st)[j]?.getD 0<=ds[j]?.getD 0:=by
      intro j hj
      have hm:=mem_getD (cutD ds lo hi st) j hj
      have h1:=hbd _ hm
      have h2:(cutD ds lo hi st)[j]?.getD 0≠0:=fun e=>h0 (e ▸ hm)
      rw [cutD_length] at hj
      have h3:=badCut_false (of_anyBad_false hb j hj)
      have h4:=kept_bd h3.1 h3.2.1 h3.2.2.2.1
      rw [cutD_getD ds lo hi st j hj] at h1 h2 ⊢
      omega
     have h5:=prod_mono (cutD ds lo hi st) ds (cutD_length ds lo hi st) hle
     have h6:=(z3 (fun x hx=>by
      obtain ⟨j,hj,rfl⟩:=List.getElem_of_mem hx
      have:=hle j (by rw [cutD_length];exact hj)
      simp only [List.getElem?_eq_getElem hj,Option.getD_some] at this
      omega)).1
     omega
 · simp only [List.any_eq_true,not_exists,not_and]
   intro x hx
   have:=hbd x hx
   simp [badDim];omega
theorem wrong_cut {s:Int} {ds ss lo hi st:List Int} (A:Int) (hW:wrongE s ds ss=0) (hb:anyBad ds lo hi st=false):wrongE A (cutD ds lo hi st) (cutS ss st)=if beyondB A (cutS ss st)=true then 4 else 0:=by
 obtain ⟨_,w2,_⟩:=wrongE_ok hW
 rw [wrongE,if_neg (by rw [size_cut hW hb];simp),if_neg (by rw [cutD_length,cutS_length,w2];simp)]
theorem cutD_take_succ (ds lo hi st:List Int) (k:Nat) (h:k<ds.length):((cutD ds lo hi st).take (k+1)).map (Value.int .i64)=((cutD ds lo hi st).take k).map (Value.int .i64)++[.int .i64 (keptN (lo[k]?.getD 0) (hi[k]?.getD 0) (st[k]?.getD 0))]:=by
 rw [take_succ_getD (cutD ds lo hi st) k (by rw [cutD_length];exact h),List.map_append,cutD_getD ds lo hi st k h]
 simp
theorem cutS_take_succ (ss st:List Int) (k:Nat) (h:k<ss.length):((cutS ss st).take (k+1)).map (Value.int .i64)=((cutS ss st).take k).map (Value.int .i64)++[.int .i64 (st[k]?.getD 0*ss[k]?.getD 0)]:=by
 rw [take_succ_getD (cutS ss st) k (by rw [cutS_length];exact h),List.map_append,cutS_getD ss st k h]
 simp
theorem rcut_ok (s:Int) (da:Option Addr) (dl dc:Nat) (ds:List Int) (sa:Option Addr) (sc:Nat) (ss:List Int) (la:Option Addr) (lc:Nat) (lo:List Int) (ha:Option Addr) (hc:Nat) (hi:List Int) (ta:Option Addr) (tc:Nat) (st:List Int) (w:World)
 (hd:Ints w da dl ds) (hs:Ints w sa dl ss) (hl:Ints w la dl lo) (hh:Ints w ha dl hi) (ht:Ints w ta dl st) (hW:wrongE s ds ss=0) (h6:dl<=6) :
 Calls Tryz.prog 76 #[.agg #[.int .i64 s,.slice da dl dc,.slice sa dl sc],.slice la dl lc,.slice ha dl hc,.slice ta dl tc] w fun e w'=>CutPost w da s dl ds ss lo hi st e w'/\Below w.heap.size w w':=by
 have HSM:=hide (small_of hW)
 have HD:=hide hd
 have HS:=hide hs
 have HL:=hide hl
 have HH:=hide hh
 have HT:=hide ht
 have HW:=hide hW
 clear hd hs hl hh ht hW
 have hb2:Below w.heap.size w ((w.alloc (.cells #[.int .i64 s,.slice da dl dc,.slice sa dl sc] 79)).alloc (.cells #[.int .i64 0,.slice none 0 0,.slice none 0 0] 79)):=((Below.refl _ _).alloc (Nat.le_refl _) _).alloc (by simp) _
 have HB2:=hide hb2
 clear hb2
 obtain ⟨i0,hi,hz0,hz1,hz2⟩:=info_parts info_int
 have HI:=hide hi
 have HZ0:=hide hz0
 have HZ1:=hide hz1
 have HZ2:=hide hz2
 clear hi hz0 hz1 hz2
 go_enter Tryz.func76,Tryz.ntmps76
 go_wp2_with fail
 refine (rwrong_any _ _ _ _ ds _ _ _ ss _ (HD.out.below HB2.out) (HS.out.below HB2.out)).mono ?_
 rintro e w1 ⟨rfl,hb⟩
 rw [HW.out]
 have HB:=hide (Below.on HB2.out hb)
 have hV1:ViewAt w1 w.heap.size (.int .i64 s) (.slice da dl dc) (.slice sa dl sc):=((ViewAt.new w _ _ _).alloc _).below hb
 have hR1:ViewAt w1 (w.heap.size+1) (.int .i64 0) (.slice none 0 0) (.slice none 0 0):=by
  have:=(ViewAt.new (w.alloc (.cells #[.int .i64 s,.slice da dl dc,.slice sa dl sc] 79)) (.int .i64 0) (.slice none 0 0) (.slice none 0 0)).below hb
  simpa using this
 have HV1:=hide hV1
 have HR1:=hide hR1
 have hwl:=hR1.lt
 have hwl0:=hV1.lt
 obtain ⟨⟨v0,v1,v2⟩,_⟩:=hV1.cells
 clear hb hV1 hR1
 go_wp2_with fail
 go_loopw [50] (fun i wr=>∃ k:Nat,k<=dl/\i=.int .i64 k/\(∀ j,j<k->badAt ds lo hi st j=false)/\ViewAt wr w1.heap.size (.int .i64 s) (.slice none 0 0) (.slice none 0 0)/\(ViewAt wr w.heap.size (.int .i64 s) (.slice da dl dc) (.slice sa dl sc)/\ViewAt wr (w.heap.size+1) (.int .i64 0) (.slice none 0 0) (.slice none 0 0))/\Below w.heap.size w wr) (fun i _=>dl-(intOf i).toNat)
 case atStart =>
  exact ⟨0,Nat.zero_le _,rfl,by simp,ViewAt.new w1 _ _ _,⟨HV1.out.alloc _,HR1.out.alloc _⟩,HB.out.alloc HB.out.size _⟩
 case round =>
  clear v0 v1 v2
  obtain ⟨k,hk,rfl,hgood,ho,⟨hv,hrr⟩,hB⟩:=hrel
  have HGD:=hide hgood
  have HV:=hide hv
  have HRR:=hide hrr
  have HO:=hide ho
  have HBw:=hide hB
  clear hgood hv hrr ho hB
  by_cases hlt:k<dl
  · obtain ⟨db,doff,rfl,hdb,hdc⟩:=HD.out.at (by omega)
    obtain ⟨lb,loff,rfl,hlb,hlc⟩:=HL.out.at (by omega)
    obtain ⟨hb,hoff,rfl,hhb,hhc⟩:=HH.out.at (by omega)
    obtain ⟨tb,toff,rfl,htb,htc⟩:=HT.out.at (by omega)
    obtain ⟨X,hX⟩:∃ X,X=ds[k]?.getD 0:=⟨_,rfl⟩
    obtain ⟨L,hL⟩:∃ L,L=lo[k]?.getD 0:=⟨_,rfl⟩
    obtain ⟨U,hU⟩:∃ U,U=hi[k]?.getD 0:=⟨_,rfl⟩
    obtain ⟨S,hS⟩:∃ S,S=st[k]?.getD 0:=⟨_,rfl⟩
    have cd:wr.cell? ⟨db,doff+k,none⟩=some (.int .i64 X):=by rw [hX];exact (HBw.out.cell (p:=⟨db,doff+k,none⟩) hdb).trans (hdc k hlt)
    have cl:wr.cell? ⟨lb,loff+k,none⟩=some (.int .i64 L):=by rw [hL];exact (HBw.out.cell (p:=⟨lb,loff+k,none⟩) hlb).trans (hlc k hlt)
    have ch:wr.cell? ⟨hb,hoff+k,none⟩=some (.int .i64 U):=by rw [hU];exact (HBw.out.cell (p:=⟨hb,hoff+k,none⟩) hhb).trans (hhc k hlt)
    have ct:wr.cell? ⟨tb,toff+k,none⟩=some (.int .i64 S):=by rw [hS];exact (HBw.out.cell (p:=⟨tb,toff+k,none⟩) htb).trans (htc k hlt)
    have hbad:badAt ds lo hi st k=badCut X L U S:=by rw [badAt,<-hX,<-hL,<-hU,<-hS]
    have HBAD:=hide hbad
    obtain ⟨⟨v0,v1,v2⟩,_⟩:=HV.out.cells
    have i1:(0:Int)<=(k:Int):=Int.natCast_nonneg _
    have i2:(k:Int)<(dl:Int):=by omega
    clear hdc hlc hhc htc hX hL hU hS hbad
    go_wp2_with fail
    go_cut [92] (fun v wc=>v=.bool (badCut X L U S)/\ViewAt wc w1.heap.size (.int .i64 s) (.slice none 0 0) (.slice none 0 0)/\(ViewAt wc w.heap.size (.int .i64 s) (.slice (some ⟨db,doff,none⟩) dl dc) (.slice sa dl sc)/\ViewAt wc (w.heap.size+1) (.int .i64 0) (.slice none 0 0) (.slice none 0 0))/\Below w.heap.size w wc)
    case first =>
     by_cases t1:L<0
     · have t1':decide (L<0)=true:=by simp [t1]
       go_quiet (fail)
       go_wp2
       go_meet
       exact ⟨by rw [badCut_t (by omega)],HO.out,⟨HV.out,HRR.out⟩,below_drewN' HBw.out _⟩
     have t1':decide (L<0)=false:=by simp;omega
     by_cases t2:U<L
     · have t2':decide (U<L)=true:=by simp [t2]
       go_quiet (fail)
       go_wp2
       go_meet
       exact ⟨by rw [badCut_t (by omega)],HO.out,⟨HV.out,HRR.out⟩,below_drewN' HBw.out _⟩
     have t2':decide (U<L)=false:=by simp;omega
     by_cases t3:X<U
     · have t3':decide (X<U)=true:=by simp [t3]
       go_quiet (fail)
       go_wp2
       go_meet
       exact ⟨by rw [badCut_t (by omega)],HO.out,⟨HV.out,HRR.out⟩,below_drewN' HBw.out _⟩
     have t3':decide (X<U)=false:=by simp;omega
     by_cases t4:S<1
     · have t4':decide (S<1)=true:=by simp [t4]
       go_quiet (fail)
       go_wp2
       go_meet
       exact ⟨by rw [badCut_t (by omega)],HO.out,⟨HV.out,HRR.out⟩,below_drewN' HBw.out _⟩
     have t4':decide (S<1)=false:=by simp;omega
     by_cases t5:4096<S
     · have t5':decide (4096<S)=true:=by simp [t5]
       go_quiet (fail)
       go_wp2
       go_meet
       exact ⟨by rw [badCut_t (by omega)],HO.out,⟨HV.out,HRR.out⟩,below_drewN' HBw.out _⟩
     have t5':decide (4096<S)=false:=by simp;omega
     go_quiet (fail)
     go_wp2
     go_meet
     exact ⟨by rw [badCut_f (by omega)],HO.out,⟨HV.out,HRR.out⟩,below_drewN' HBw.out _⟩
    case rest =>
     obtain ⟨rfl,ho,⟨hv,hrr⟩,hB⟩:=hcut
     clear cd cl ch ct v0 v1 v2 HV HRR HO HBw
     have HV:=hide hv
     have HRR:=hide hrr
     have HO:=hide ho
     have HBw:=hide hB
     clear hv hrr ho hB
     cases hbc:badCut X L U S with
     | true =>
      obtain ⟨⟨r0,r1,r2⟩,rf0,rf1,rf2⟩:=HRR.out.cells
      have HBC:=hide hbc
      clear hbc
      go_wp2
      refine bodyPost_ret (v:=.tuple #[.agg #[.int .i64 0,.slice none 0 0,.slice none 0 0],.int .i64 4]) (by simp [results,Tryz.results76,go_sem,r0,r1,r2]) rfl ⟨?_,below_put HBw.out (by omega)⟩
      rw [CutPost,if_pos (anyBad_true k (by rw [HD.out.1];exact hlt) (by rw [HBAD.out,HBC.out]))]
      exact givesF_none _ _ _ _
     | false =>
      have HBC:=hide hbc
      clear hbc
      go_wp2
      go_roundw
      case measure=>simp [intOf];omega
      case rel =>
       refine ⟨k+1,by omega,by go_num,?_,HO.out,⟨HV.out,HRR.out⟩,HBw.out⟩
       intro j hj
       by_cases e:j=k
       · subst e;rw [HBAD.out,HBC.out]
       · exact HGD.out j (by omega)
  · obtain rfl:k=dl:=by omega
    have hnb:anyBad ds lo hi st=false:=anyBad_false (fun j hj=>HGD.out j (by rw [<-HD.out.1];exact hj))
    have HNB:=hide hnb
    obtain ⟨⟨v0,v1,v2⟩,_⟩:=HV.out.cells
    clear hnb HGD hlt hk
    go_wp2_with fail
    go_loopw [98] (fun i wq=>∃ m:Nat,m<=k/\i=.int .i64 m/\∃ (X:Option Addr) (c:Nat) (Y:Option Addr) (d:Nat),OutAt w wq w1.heap.size (cutAcc s ss lo m) m X c ((cutD ds lo hi st).take m) Y d ((cutS ss st).take m)/\(ViewAt wq w.heap.size (.int .i64 s) (.slice da k dc) (.slice sa k sc)/\ViewAt wq (w.heap.size+1) (.int .i64 0) (.slice none 0 0) (.slice none 0 0))/\Below w.heap.size w wq) (fun i _=>k-(intOf i).toNat)
    case atStart =>
     exact ⟨0,Nat.zero_le _,rfl,none,0,none,0,⟨HO.out,World.ownsRow_nil _ _ _ _,World.ownsRow_nil _ _ _ _,.inl rfl⟩,⟨HV.out,HRR.out⟩,HBw.out⟩
    case round =>
     clear v0 v1 v2 HV HRR HO HBw
     obtain ⟨m,hm,rfl,X,c,Y,d,⟨hO,hX,hY,hap⟩,⟨hv,hr⟩,hB⟩:=hrel
     have HO:=hide hO
     have HX:=hide hX
     have HY:=hide hY
     have HAP:=hide hap
     have HV:=hide hv
     have HR:=hide hr
     have HBw:=hide hB
     clear hO hX hY hap hv hr hB
     by_cases hlt:m<k
     · obtain ⟨sb,soff,rfl,hsb,hsc⟩:=HS.out.at (by omega)
       obtain ⟨lb,loff,rfl,hlb,hlc⟩:=HL.out.at (by omega)
       obtain ⟨hb,hoff,rfl,hhb,hhc⟩:=HH.out.at (by omega)
       obtain ⟨tb,toff,rfl,htb,htc⟩:=HT.out.at (by omega)
       have hgd:=badCut_false (of_anyBad_false HNB.out m (by rw [HD.out.1];exact hlt))
       have hx4:=(HSM.out.dims _ (mem_getD ds m (by rw [HD.out.1];exact hlt))).2
       have b2:=HSM.out.steps _ (mem_getD ss m (by rw [HS.out.1];exact hlt))
       have b3:=cutAcc_bd HSM.out lo hi st m (by rw [HD.out.1];omega) (fun j hj=>of_anyBad_false HNB.out j (by rw [HD.out.1];omega))
       obtain ⟨T,hT⟩:∃ T,T=ss[m]?.getD 0:=⟨_,rfl⟩
       obtain ⟨L,hL⟩:∃ L,L=lo[m]?.getD 0:=⟨_,rfl⟩
       obtain ⟨U,hU⟩:∃ U,U=hi[m]?.getD 0:=⟨_,rfl⟩
       obtain ⟨S,hS⟩:∃ S,S=st[m]?.getD 0:=⟨_,rfl⟩
       obtain ⟨A,hA⟩:∃ A,A=cutAcc s ss lo m:=⟨_,rfl⟩
       rw [<-hT] at b2
       rw [<-hA] at b3
       rw [<-hL,<-hU,<-hS] at hgd
       rw [<-hA] at HO
       have HCS:Hid (∀ W:World,Below w.heap.size w W->W.cell? ⟨sb,soff+m,none⟩=some (.int .i64 T)):=fun W hW=>by rw [hT];exact (hW.cell (p:=⟨sb,soff+m,none⟩) hsb).trans (hsc m hlt)
       have HCL:Hid (∀ W:World,Below w.heap.size w W->W.cell? ⟨lb,loff+m,none⟩=some (.int .i64 L)):=fun W hW=>by rw [hL];exact (hW.cell (p:=⟨lb,loff+m,none⟩) hlb).trans (hlc m hlt)
       have HCH:Hid (∀ W:World,Below w.heap.size w W->W.cell? ⟨hb,hoff+m,none⟩=some (.int .i64 U)):=fun W hW=>by rw [hU];exact (hW.cell (p:=⟨hb,hoff+m,none⟩) hhb).trans (hhc m hlt)
       have HCT:Hid (∀ W:World,Below w.heap.size w W->W.cell? ⟨tb,toff+m,none⟩=some (.int .i64 S)):=fun W hW=>by rw [hS];exact (hW.cell (p:=⟨tb,toff+m,none⟩) htb).trans (htc m hlt)
       have HTe:=hide hT
       have HLe:=hide hL
       have HU:=hide hU
       have HSe:=hide hS
       have HA:=hide hA
       have bP:=mul4096_bd (d:=L) (x:=T) ⟨by omega,by omega⟩ b2
       have bQ:=mul4096_bd (d:=S) (x:=T) ⟨by omega,by omega⟩ b2
       have w1':IntKind.i64.wrap (L*T)=L*T:=wrap_in _ (by omega) (by omega)
       have w2':IntKind.i64.wrap (A+L*T)=A+L*T:=wrap_in _ (by omega) (by omega)
       have w3':IntKind.i64.wrap (T*S)=S*T:=by rw [Int.mul_comm T S];exact wrap_in _ (by omega) (by omega)
       have HGD:=hide (show 0<=L/\L<=U/\U<=4096/\1<=S/\S<=4096 from ⟨hgd.1,hgd.2.1,by omega,hgd.2.2.2⟩)
       have cs:=HCS.out _ HBw.out
       have cl:=HCL.out _ HBw.out
       obtain ⟨⟨v0,v1,v2⟩,_⟩:=HV.out.cells
       obtain ⟨⟨o0,o1,o2⟩,p0,p1,p2⟩:=HO.out.cells
       have i1:(0:Int)<=(m:Int):=Int.natCast_nonneg _
       have i2:(m:Int)<(k:Int):=by omega
       clear hsc hlc hhc htc hT hL hU hS hA hgd hx4 b2 b3 bP bQ
       go_wp2_with fail
       go_cut [] (fun wd=>ViewAt wd w1.heap.size (.int .i64 (A+L*T)) (.slice X m c) (.slice Y m d)/\(wd.ownsRow w.heap.size 3 1 (.slice X m c) m (((cutD ds lo hi st).take m).map (Value.int .i64))/\wd.ownsRow w.heap.size 3 1 (.slice Y m d) m (((cutS ss st).take m).map (Value.int .i64)))/\(ViewAt wd w.heap.size (.int .i64 s) (.slice da k dc) (.slice (some ⟨sb,soff,none⟩) k sc)/\ViewAt wd (w.heap.size+1) (.int .i64 0) (.slice none 0 0) (.slice none 0 0))/\Below w.heap.size w wd)
       case first =>
        go_region
        go_wp2
        go_meet
        exact ⟨HO.out.set0 _,⟨(own_view_set HO.out HX.out 0 _).drew,(own_view_set HO.out HY.out 0 _).drew⟩,⟨HV.out.set (p:=⟨w1.heap.size,0,none⟩) (by simp;omega) _,HR.out.set (p:=⟨w1.heap.size,0,none⟩) (by simp;omega) _⟩,(HBw.out.setCell (p:=⟨w1.heap.size,0,none⟩) (by simp;omega) _).drew⟩
       case rest =>
        obtain ⟨hO,⟨hX,hY⟩,⟨hv,hr⟩,hB⟩:=hcut
        clear cs cl v0 v1 v2 o0 o1 o2 p0 p1 p2 HO HX HY HV HR HBw w1' w2'
        have HO:=hide hO
        have HX:=hide hX
        have HY:=hide hY
        have HV:=hide hv
        have HR:=hide hr
        have HBw:=hide hB
        obtain ⟨⟨o0,o1,o2⟩,p0,p1,p2⟩:=hO.cells
        have cl:=HCL.out _ hB
        have ch:=HCH.out _ hB
        have ct:=HCT.out _ hB
        have hCl:=hO.lt
        have hBl:=hv.lt
        clear hO hX hY hv hr hB
        go_wp2_with fail
        go_cut [] (fun wd=>∃ (g1 c1:Nat),ViewAt wd w1.heap.size (.int .i64 (A+L*T)) (.slice (some ⟨g1,0,none⟩) (m+1) c1) (.slice Y m d)/\(wd.ownsRow w.heap.size 3 1 (.slice (some ⟨g1,0,none⟩) (m+1) c1) (m+1) (((cutD ds lo hi st).take (m+1)).map (Value.int .i64))/\wd.ownsRow w.heap.size 3 1 (.slice Y m d) m (((cutS ss st).take m).map (Value.int .i64))/\some g1≠(Value.slice Y m d).ownBlock)/\(ViewAt wd w.heap.size (.int .i64 s) (.slice da k dc) (.slice (some ⟨sb,soff,none⟩) k sc)/\ViewAt wd (w.heap.size+1) (.int .i64 0) (.slice none 0 0) (.slice none 0 0))/\Below w.heap.size w wd)
        case first =>
         go_region_law (first | (refine step_append_lies _ (by rfl) _ _ _ (by rfl) w.heap.size 3 i0 _ 1 8 Tryz.underlying23 HI.out HZ0.out HZ1.out HZ2.out rfl (by omega) _ _ _ (by rfl) ((HX.out.alloc _).drew) ⟨wc.heap.size,0,none⟩ 1 1 [.int .i64 (keptN L U S)] (by rfl) (by rfl) (World.news_of_block (cs:=#[.int .i64 (keptN L U S)]) (t:=3) (fr:=(0,0)) (heap_alloc_new wc _)) (by simp [Value.oneCell']) (by omega) (by unfold maxLen;omega) (by omega) (by have:=HBw.out.size;simp;omega) (wc.heap.size+1) (by simp) ?_;intro g1 c1 w2 hown1 hgrow hat hlt3;have hO2:=HO.out.grown HX.out hgrow;have hV2:=HV.out.grown HX.out hgrow;have hR2:=HR.out.grown HX.out hgrow;have hB2:=grown_below HBw.out HX.out hgrow;obtain ⟨⟨a0,a1,a2⟩,b0,b1,b2⟩:=hO2.cells;have cl2:=HCL.out _ hB2;have ch2:=HCH.out _ hB2;have ct2:=HCT.out _ hB2;have HO2:=hide hO2;have HV2:=hide hV2;have HR2:=hide hR2;have HB2':=hide hB2;have HX2:=hide hown1;have HG2:=hide hgrow;have HAT:=hide hat;have HY2:=hide (own_grown HY.out hgrow (apart_sym HAP.out));clear hO2 hV2 hR2 hB2 hown1 hgrow hat) | (go_simp;go_at_call 93;refine (kept_any L U S _ HGD.out.1 HGD.out.2.1 HGD.out.2.2.1 HGD.out.2.2.2.1 HGD.out.2.2.2.2).mono ?_;rintro e w' ⟨rfl,hw'⟩;obtain rfl:=hw'.symm;clear hw'))
         all_goals go_wp2
         all_goals go_meet
         all_goals
          have hst:=cutD_take_succ ds lo hi st m (by rw [HD.out.1];exact hlt)
          rw [<-HLe.out,<-HU.out,<-HSe.out] at hst
          have hx:=HX2.out
          rw [<-hst] at hx
          exact ⟨g1,c1,HO2.out.set1 _,⟨own_view_set HO2.out hx 1 _,own_view_set HO2.out HY2.out 1 _,new_apart HAP.out HY.out HAT.out⟩,⟨HV2.out.set (p:=⟨w1.heap.size,1,none⟩) (by simp;omega) _,HR2.out.set (p:=⟨w1.heap.size,1,none⟩) (by simp;omega) _⟩,HB2'.out.setCell (p:=⟨w1.heap.size,1,none⟩) (by simp;omega) _⟩
        case rest =>
         obtain ⟨g1,c1,hO,⟨hX,hY,hne⟩,⟨hv,hr⟩,hB⟩:=hcut
         clear cl ch ct o0 o1 o2 p0 p1 p2 hCl hBl HO HX HY HAP HV HR HBw
         have HO:=hide hO
         have HX:=hide hX
         have HY:=hide hY
         have HNE:=hide hne
         have HV:=hide hv
         have HR:=hide hr
         have HBw:=hide hB
         obtain ⟨⟨v0,v1,v2⟩,_⟩:=hv.cells
         obtain ⟨⟨o0,o1,o2⟩,p0,p1,p2⟩:=hO.cells
         have cs:=HCS.out _ hB
         have ct:=HCT.out _ hB
         have hCl:=hO.lt
         have hBl:=hv.lt
         clear hO hX hY hne hv hr hB
         go_wp2_with fail
         go_region_law ((refine step_append_lies _ (by rfl) _ _ _ (by rfl) w.heap.size 3 i0 _ 1 8 Tryz.underlying23 HI.out HZ0.out HZ1.out HZ2.out rfl (by omega) _ _ _ (by rfl) ((HY.out.alloc _).drew) ⟨wc.heap.size,0,none⟩ 1 1 [.int .i64 (S*T)] (by rfl) (by rfl) (World.news_of_block (cs:=#[.int .i64 (S*T)]) (t:=3) (fr:=(0,0)) (heap_alloc_new wc _)) (by simp [Value.oneCell']) (by omega) (by unfold maxLen;omega) (by omega) (by have:=HBw.out.size;simp;omega) (wc.heap.size+1) (by simp) ?_;intro g2 c2 w2 hown1 hgrow hat hlt3;have hO2:=HO.out.grown HY.out hgrow;have hV2:=HV.out.grown HY.out hgrow;have hR2:=HR.out.grown HY.out hgrow;have hB2:=grown_below HBw.out HY.out hgrow;obtain ⟨⟨a0,a1,a2⟩,b0,b1,b2⟩:=hO2.cells;have cs2:=HCS.out _ hB2;have ct2:=HCT.out _ hB2;obtain ⟨⟨e0,e1,e2⟩,_⟩:=hV2.cells;have HO2:=hide hO2;have HV2:=hide hV2;have HR2:=hide hR2;have HB2':=hide hB2;have HY2:=hide hown1;have HG2:=hide hgrow;have HAT:=hide hat;have HX2:=hide (own_grown HX.out hgrow (.inr (fun e=>HNE.out e)));clear hO2 hV2 hR2 hB2 hown1 hgrow hat))
         all_goals go_wp2
         all_goals go_roundw
         all_goals try (case measure=>simp [intOf];omega)
         all_goals
          have hst:=cutS_take_succ ss st m (by rw [HS.out.1];exact hlt)
          rw [<-HTe.out,<-HSe.out] at hst
          have hy:=HY2.out
          rw [<-hst] at hy
          have hacc:cutAcc s ss lo (m+1)=A+L*T:=by rw [cutAcc,<-HA.out,<-HLe.out,<-HTe.out]
          have hap:(Value.slice (some ⟨g1,0,none⟩) (m+1) c1).ownBlock=none\/(Value.slice (some ⟨g1,0,none⟩) (m+1) c1).ownBlock≠(Value.slice (some ⟨g2,0,none⟩) (m+1) c2).ownBlock:=.inr (Ne.symm (new_apart (v:=.slice Y m d) (apart_sym (.inr HNE.out)) HX.out HAT.out))
          have hr:∃ m':Nat,m'<=k/\Value.int .i64 ((m:Int)+1)=.int .i64 m'/\∃ (X:Option Addr) (c:Nat) (Y':Option Addr) (d':Nat),OutAt w (w2.setCell ⟨w1.heap.size,2,none⟩ (.slice (some ⟨g2,0,none⟩) (m+1) c2)) w1.heap.size (cutAcc s ss lo m') m' X c ((cutD ds lo hi st).take m') Y' d' ((cutS ss st).take m')/\(ViewAt (w2.setCell ⟨w1.heap.size,2,none⟩ (.slice (some ⟨g2,0,none⟩) (m+1) c2)) w.heap.size (.int .i64 s) (.slice da k dc) (.slice (some ⟨sb,soff,none⟩) k sc)/\ViewAt (w2.setCell ⟨w1.heap.size,2,none⟩ (.slice (some ⟨g2,0,none⟩) (m+1) c2)) (w.heap.size+1) (.int .i64 0) (.slice none 0 0) (.slice none 0 0))/\Below w.heap.size w (w2.setCell ⟨w1.heap.size,2,none⟩ (.slice (some ⟨g2,0,none⟩) (m+1) c2)) :=
           ⟨m+1,by omega,by go_num,_,_,_,_,⟨by rw [hacc];exact HO2.out.set2 _,own_view_set HO2.out HX2.out 2 _,own_view_set HO2.out hy 2 _,hap⟩,⟨HV2.out.set (p:=⟨w1.heap.size,2,none⟩) (by simp;omega) _,HR2.out.set (p:=⟨w1.heap.size,2,none⟩) (by simp;omega) _⟩,HB2'.out.setCell (p:=⟨w1.heap.size,2,none⟩) (by simp;omega) _⟩
          first
           | exact hr
           | (repeat apply Exists.intro
              exact ⟨hr,rfl⟩)
     · obtain rfl:m=k:=by omega
       obtain ⟨⟨o0,o1,o2⟩,_⟩:=HO.out.cells
       have e1:(cutD ds lo hi st).take m=cutD ds lo hi st:=List.take_of_length_le (by rw [cutD_length,HD.out.1];omega)
       have e2:(cutS ss st).take m=cutS ss st:=List.take_of_length_le (by rw [cutS_length,HS.out.1];omega)
       have hx:=HX.out
       have hy:=HY.out
       rw [e1] at hx
       rw [e2] at hy
       have HI1:=hide (ints_of_own' hx (by rw [cutD_length,HD.out.1]) (by omega) (fun x hx'=>by have:=cutD_bd HSM.out HNB.out x hx';omega))
       have HI2:=hide (ints_of_own' hy (by rw [cutS_length,HS.out.1]) (by omega) (cutS_bd HSM.out HNB.out))
       have HLX:=hide (own_le hx)
       have HLY:=hide (own_le hy)
       have HFX:=hide (own_far hx)
       have HFY:=hide (own_far hy)
       have HRX:=hide (row_ne_view hx HR.out)
       have HRY:=hide (row_ne_view hy HR.out)
       clear hx hy e1 e2
       go_wp2_with fail
       refine (made_any _ _ _ _ (cutD ds lo hi st) _ _ _ (cutS ss st) _ HI1.out HI2.out).mono ?_
       rintro e w4 ⟨rfl,hb⟩
       have HBd:=hide (Below.on HBw.out hb)
       have HRR4:=hide (HR.out.below hb)
       have HI1':=hide (HI1.out.below hb)
       have HI2':=hide (HI2.out.below hb)
       obtain ⟨⟨r0,r1,r2⟩,rf0,rf1,rf2⟩:=HRR4.out.cells
       clear hb o0 o1 o2
       have ew:=wrong_cut (cutAcc s ss lo m) HW.out HNB.out
       by_cases hbe:beyondB (cutAcc s ss lo m) (cutS ss st)=true
       · rw [if_pos (by rw [ew,if_pos hbe];decide)]
         have HBE:=hide hbe
         clear hbe ew
         go_wp2
         refine bodyPost_ret (v:=.tuple #[.agg #[.int .i64 0,.slice none 0 0,.slice none 0 0],.int .i64 5]) (by simp [results,Tryz.results76,go_sem,r0,r1,r2]) rfl ⟨?_,below_put HBd.out (by omega)⟩
         rw [CutPost,if_neg (by rw [HNB.out];simp),if_pos HBE.out]
         exact givesF_none _ _ _ _
       · rw [if_neg (by rw [ew,if_neg hbe];decide)]
         have HBE:=hide hbe
         clear hbe ew
         go_wp2
         refine bodyPost_ret (v:=.tuple #[.agg #[.int .i64 (cutAcc s ss lo m),.slice X m c,.slice Y m d],.int .i64 0]) (by simp [results,Tryz.results76,go_sem,r0,r1,r2]) rfl ⟨?_,below_put HBd.out (by omega)⟩
         rw [CutPost,if_neg (by rw [HNB.out];simp),if_neg HBE.out]
         exact ⟨_,_,_,_,_,_,rfl,ints_set3o HI1'.out HRX.out,ints_set3o HI2'.out HRY.out,⟨HLX.out,HLY.out⟩,.inr HFX.out,HFY.out⟩
end Go.Proofs.YtakpedjhgdkhkaaGreatDoor.V
