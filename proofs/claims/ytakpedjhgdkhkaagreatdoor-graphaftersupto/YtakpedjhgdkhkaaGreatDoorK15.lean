import Derived.Test.YtakpedjhgdkhkaaGreatDoorK14
import Derived.BigRegion
import Derived.Deep.QuietTactic
import Derived.BigQuiet
import Derived.Test.YtakpedjhgdkhkaaGreatDoorK7
namespace Go.Proofs.YtakpedjhgdkhkaaGreatDoor.V
set_option maxRecDepth 100000
set_option maxHeartbeats 8000000
open Go.RowKit
def keptN (l h t:Int):Int:=(h-l+t-1) / t
def badCut (d l h t:Int):Bool:=decide (l<0) || (decide (h<l) || (decide (d<h) || (decide (t<1) || decide (4096<t))))
def badAt (ds lo hi st:List Int) (j:Nat):Bool:=badCut (ds[j]?.getD 0) (lo[j]?.getD 0) (hi[j]?.getD 0) (st[j]?.getD 0)
def anyBad (ds lo hi st:List Int):Bool:=(List.range ds.length).any (badAt ds lo hi st)
def cutAcc (s:Int) (ss lo:List Int):Nat->Int
 | 0=>s
 | k+1=>cutAcc s ss lo k+lo[k]?.getD 0*ss[k]?.getD 0
def cutD (ds lo hi st:List Int):List Int:=(List.range ds.length).map fun j=>keptN (lo[j]?.getD 0) (hi[j]?.getD 0) (st[j]?.getD 0)
def cutS (ss st:List Int):List Int:=(List.range ss.length).map fun j=>st[j]?.getD 0*ss[j]?.getD 0
theorem cutD_length (ds lo hi st:List Int):(cutD ds lo hi st).length=ds.length:=by simp [cutD]
theorem cutS_length (ss st:List Int):(cutS ss st).length=ss.length:=by simp [cutS]
theorem cutD_getD (ds lo hi st:List Int) (j:Nat) (h:j<ds.length):(cutD ds lo hi st)[j]?.getD 0=keptN (lo[j]?.getD 0) (hi[j]?.getD 0) (st[j]?.getD 0):=by simp [cutD,h]
theorem cutS_getD (ss st:List Int) (j:Nat) (h:j<ss.length):(cutS ss st)[j]?.getD 0=st[j]?.getD 0*ss[j]?.getD 0:=by simp [cutS,h]
theorem badCut_false {d l h t:Int} (hb:badCut d l h t=false):0<=l/\l<=h/\h<=d/\1<=t/\t<=4096:=by
 simp [badCut] at hb
 omega
theorem badCut_t {d l h t:Int} (hb:l<0\/h<l\/d<h\/t<1\/4096<t):badCut d l h t=true:=by
 simp [badCut];omega
theorem badCut_f {d l h t:Int} (hb:0<=l/\l<=h/\h<=d/\1<=t/\t<=4096):badCut d l h t=false:=by
 simp [badCut];omega
theorem anyBad_false {ds lo hi st:List Int} (h:∀ j,j<ds.length->badAt ds lo hi st j=false):anyBad ds lo hi st=false:=by
 unfold anyBad
 rw [List.any_eq_false]
 intro j hj
 rw [h j (List.mem_range.1 hj)];simp
theorem anyBad_true {ds lo hi st:List Int} (k:Nat) (hk:k<ds.length) (h:badAt ds lo hi st k=true):anyBad ds lo hi st=true:=by
 unfold anyBad
 rw [List.any_eq_true]
 exact ⟨k,List.mem_range.2 hk,h⟩
theorem of_anyBad_false {ds lo hi st:List Int} (h:anyBad ds lo hi st=false) (j:Nat) (hj:j<ds.length):badAt ds lo hi st j=false:=by
 unfold anyBad at h
 rw [List.any_eq_false] at h
 have:=h j (List.mem_range.2 hj)
 simpa using this
theorem kept_bd {l h t:Int} (h1:0<=l) (h2:l<=h) (h4:1<=t):0<=keptN l h t/\keptN l h t<=h-l:=by
 unfold keptN
 refine ⟨Int.ediv_nonneg (by omega) (by omega),?_⟩
 by_cases e:h=l
 · subst e
   rw [Int.ediv_eq_zero_of_lt (by omega) (by omega)];omega
 · have:(h-l+t-1) / t<h-l+1:=by
    apply Int.ediv_lt_of_lt_mul (by omega)
    have:(h-l+1)*t=(h-l)*t+t:=by rw [Int.add_mul,Int.one_mul]
    have h5:(h-l)*1<=(h-l)*t:=Int.mul_le_mul_of_nonneg_left h4 (by omega)
    omega
   omega
theorem mul4096_bd {d x:Int} (h1:0<=d/\d<=4096) (h2:-1099511627776<=x/\x<=1099511627776):-4503599627370496<=d*x/\d*x<=4503599627370496:=by
 have a1:d*x<=d*1099511627776:=Int.mul_le_mul_of_nonneg_left h2.2 h1.1
 have a2:d*-1099511627776<=d*x:=Int.mul_le_mul_of_nonneg_left h2.1 h1.1
 omega
theorem cutAcc_bd {s:Int} {ds ss:List Int} (h:Small s ds ss) (lo hi st:List Int):∀ k,k<=ds.length->(∀ j,j<k->badAt ds lo hi st j=false)->-(1099511627776+4503599627370496*(k:Int))<=cutAcc s ss lo k/\cutAcc s ss lo k<=1099511627776+4503599627370496*(k:Int)
 | 0,_,_=>by have:=h.start;simp [cutAcc];omega
 | k+1,hk,hb=>by
  have h1:=cutAcc_bd h lo hi st k (by omega) (fun j hj=>hb j (by omega))
  have h2:=badCut_false (hb k (by omega))
  have h3:=h.dims _ (mem_getD ds k (by omega))
  have h4:=h.steps _ (mem_getD ss k (by rw [h.len];omega))
  have h5:=mul4096_bd (d:=lo[k]?.getD 0) ⟨by omega,by omega⟩ h4
  rw [cutAcc];omega
theorem cutD_bd {s:Int} {ds ss:List Int} (h:Small s ds ss) {lo hi st:List Int} (hb:anyBad ds lo hi st=false):∀ x∈cutD ds lo hi st,0<=x/\x<=4096:=by
 intro x hx
 simp only [cutD,List.mem_map,List.mem_range] at hx
 obtain ⟨j,hj,rfl⟩:=hx
 have h1:=badCut_false (of_anyBad_false hb j hj)
 have h2:=h.dims _ (mem_getD ds j hj)
 have h3:=kept_bd h1.1 h1.2.1 h1.2.2.2.1
 omega
theorem cutS_bd {s:Int} {ds ss:List Int} (h:Small s ds ss) {lo hi st:List Int} (hb:anyBad ds lo hi st=false):∀ x∈cutS ss st,-9223372036854775808<=x/\x<=9223372036854775807:=by
 intro x hx
 simp only [cutS,List.mem_map,List.mem_range] at hx
 obtain ⟨j,hj,rfl⟩:=hx
 have h1:=badCut_false (of_anyBad_false hb j (by rw [<-h.len];exact hj))
 have h2:=mul4096_bd ⟨by omega,h1.2.2.2.2⟩ (h.steps _ (mem_getD ss j hj))
 omega
def CutPost (w:World) (da:Option Addr) (s:Int) (dl:Nat) (ds ss lo hi st:List Int) (e:Ending) (w':World):Prop:=if anyBad ds lo hi st=true then GivesF w da e w' 0 [] [] 4 else if beyondB (cutAcc s ss lo dl) (cutS ss st)=true then GivesF w da e w' 0 [] [] 5 else GivesF w da e w' (cutAcc s ss lo dl) (cutD ds lo hi st) (cutS ss st) 0
theorem below_drewN' {w w':World} (h:Below w.heap.size w w') (n:Nat):Below w.heap.size w (w'.drewN n):=Below.on h (below_drewN _ n)
theorem cut_ok (s:Int) (da:Option Addr) (dl dc:Nat) (ds:List Int) (sa:Option Addr) (sc:Nat) (ss:List Int) (la:Option Addr) (lc:Nat) (lo:List Int) (ha:Option Addr) (hc:Nat) (hi:List Int) (ta:Option Addr) (tc:Nat) (st:List Int) (w:World)
 (hd:Ints w da dl ds) (hs:Ints w sa dl ss) (hl:Ints w la dl lo) (hh:Ints w ha dl hi) (ht:Ints w ta dl st) (hW:wrongE s ds ss=0) (h6:dl<=6) :
 Calls Tryz.prog 81 #[.agg #[.int .i64 s,.slice da dl dc,.slice sa dl sc],.slice la dl lc,.slice ha dl hc,.slice ta dl tc] w fun e w'=>CutPost w da s dl ds ss lo hi st e w'/\Below w.heap.size w w':=by
 have HSM:=hide (small_of hW)
 have HD:=hide hd
 have HS:=hide hs
 have HL:=hide hl
 have HH:=hide hh
 have HT:=hide ht
 have HW:=hide hW
 clear hd hs hl hh ht hW
 have hb2:Below w.heap.size w ((w.alloc (.cells #[.int .i64 s,.slice da dl dc,.slice sa dl sc] 79)).alloc (.cells #[.int .i64 0,.slice none 0 0,.slice none 0 0] 79)):=((Below.refl _ _).alloc (Nat.le_refl _) _).alloc (by simp) _
 have HB2:=hide hb2
 clear hb2
 go_enter Tryz.func81,Tryz.ntmps81
 go_wp2_with fail
 refine (wrong_any _ _ _ _ ds _ _ _ ss _ (HD.out.below HB2.out) (HS.out.below HB2.out)).mono ?_
 rintro e w1 ⟨rfl,hb⟩
 rw [HW.out]
 have HB:=hide (Below.on HB2.out hb)
 have hV1:ViewAt w1 w.heap.size (.int .i64 s) (.slice da dl dc) (.slice sa dl sc):=((ViewAt.new w _ _ _).alloc _).below hb
 have hR1:ViewAt w1 (w.heap.size+1) (.int .i64 0) (.slice none 0 0) (.slice none 0 0):=by
  have:=(ViewAt.new (w.alloc (.cells #[.int .i64 s,.slice da dl dc,.slice sa dl sc] 79)) (.int .i64 0) (.slice none 0 0) (.slice none 0 0)).below hb
  simpa using this
 have HV1:=hide hV1
 have HR1:=hide hR1
 obtain ⟨⟨v0,v1,v2⟩,_⟩:=hV1.cells
 clear hb hV1 hR1
 go_wp2_with fail
 refine (blank_any _ _ _ _ ds _ (HD.out.below HB.out) h6).mono ?_
 rintro e w3 ⟨⟨g1,g2,rfl,⟨hr1,hr2⟩,hne,hg1,hg2⟩,hb⟩
 have HBb:=hide (Below.on HB.out hb)
 have HV3:=hide (HV1.out.below hb)
 have HR3:=hide (HR1.out.below hb)
 have HR1':=hide hr1
 have HR2':=hide hr2
 have hlt1:=hr1.lt
 have hlt2:=hr2.lt
 have hsz:=HR1.out.lt
 have hv3:=HV3.out.lt
 obtain ⟨⟨v0',v1',v2'⟩,_⟩:=HV3.out.cells
 clear hb hr1 hr2 v0 v1 v2
 go_wp2_with fail
 go_loopw [49] (fun i wr=>∃ k:Nat,k<=dl/\i=.int .i64 k/\(∀ j,j<k->badAt ds lo hi st j=false)/\(wr.rowIs g1 3 dl (onWay (cutD ds lo hi st) ds k)/\wr.rowIs g2 3 dl (onWay (cutS ss st) [] k))/\(ViewAt wr w.heap.size (.int .i64 s) (.slice da dl dc) (.slice sa dl sc)/\ViewAt wr (w.heap.size+1) (.int .i64 0) (.slice none 0 0) (.slice none 0 0)/\ViewAt wr w3.heap.size (.int .i64 (cutAcc s ss lo k)) (.slice (some ⟨g1,0,none⟩) dl dl) (.slice (some ⟨g2,0,none⟩) dl dl))/\Below w.heap.size w wr) (fun i _=>dl-(intOf i).toNat)
 case atStart =>
  refine ⟨0,Nat.zero_le _,rfl,by simp,⟨onWay_zero (HR1'.out.alloc _),?_⟩,⟨HV3.out.alloc _,HR3.out.alloc _,ViewAt.new w3 _ _ _⟩,HBb.out.alloc HBb.out.size _⟩
  exact (HR2'.out.alloc _).congr (fun j _=>by simp [onWay])
 case round =>
  obtain ⟨k,hk,rfl,hgood,⟨hr1,hr2⟩,⟨hv,hrr,ho⟩,hB⟩:=hrel
  have HGD:=hide hgood
  have HQ1:=hide hr1
  have HQ2:=hide hr2
  have HV:=hide hv
  have HRR:=hide hrr
  have HO:=hide ho
  have HBw:=hide hB
  clear hgood hr1 hr2 hv hrr ho hB v0' v1' v2'
  by_cases hlt:k<dl
  · obtain ⟨db,doff,rfl,hdb,hdc⟩:=HD.out.at (by omega)
    obtain ⟨sb,soff,rfl,hsb,hsc⟩:=HS.out.at (by omega)
    obtain ⟨lb,loff,rfl,hlb,hlc⟩:=HL.out.at (by omega)
    obtain ⟨hb,hoff,rfl,hhb,hhc⟩:=HH.out.at (by omega)
    obtain ⟨tb,toff,rfl,htb,htc⟩:=HT.out.at (by omega)
    obtain ⟨X,hX⟩:∃ X,X=ds[k]?.getD 0:=⟨_,rfl⟩
    obtain ⟨T,hT⟩:∃ T,T=ss[k]?.getD 0:=⟨_,rfl⟩
    obtain ⟨L,hL⟩:∃ L,L=lo[k]?.getD 0:=⟨_,rfl⟩
    obtain ⟨U,hU⟩:∃ U,U=hi[k]?.getD 0:=⟨_,rfl⟩
    obtain ⟨S,hS⟩:∃ S,S=st[k]?.getD 0:=⟨_,rfl⟩
    obtain ⟨A,hA⟩:∃ A,A=cutAcc s ss lo k:=⟨_,rfl⟩
    have cd:wr.cell? ⟨db,doff+k,none⟩=some (.int .i64 X):=by rw [hX];exact (HBw.out.cell (p:=⟨db,doff+k,none⟩) hdb).trans (hdc k hlt)
    have cs:wr.cell? ⟨sb,soff+k,none⟩=some (.int .i64 T):=by rw [hT];exact (HBw.out.cell (p:=⟨sb,soff+k,none⟩) hsb).trans (hsc k hlt)
    have cl:wr.cell? ⟨lb,loff+k,none⟩=some (.int .i64 L):=by rw [hL];exact (HBw.out.cell (p:=⟨lb,loff+k,none⟩) hlb).trans (hlc k hlt)
    have ch:wr.cell? ⟨hb,hoff+k,none⟩=some (.int .i64 U):=by rw [hU];exact (HBw.out.cell (p:=⟨hb,hoff+k,none⟩) hhb).trans (hhc k hlt)
    have ct:wr.cell? ⟨tb,toff+k,none⟩=some (.int .i64 S):=by rw [hS];exact (HBw.out.cell (p:=⟨tb,toff+k,none⟩) htb).trans (htc k hlt)
    have HDC:=hide (hdc k hlt)
    have HSC:=hide (hsc k hlt)
    have HLC:=hide (hlc k hlt)
    have HHC:=hide (hhc k hlt)
    have HTC:=hide (htc k hlt)
    have HX:=hide hX
    have HTe:=hide hT
    have HLe:=hide hL
    have HU:=hide hU
    have HSe:=hide hS
    have HA:=hide hA
    have hbad:badAt ds lo hi st k=badCut X L U S:=by rw [badAt,<-hX,<-hL,<-hU,<-hS]
    have HBAD:=hide hbad
    rw [<-hA] at HO
    obtain ⟨⟨v0,v1,v2⟩,_⟩:=HV.out.cells
    obtain ⟨⟨o0,o1,o2⟩,p0,p1,p2⟩:=HO.out.cells
    have i1:(0:Int)<=(k:Int):=Int.natCast_nonneg _
    have i2:(k:Int)<(dl:Int):=by omega
    clear hdc hsc hlc hhc htc hX hT hL hU hS hA hbad
    go_wp2_with fail
    go_cut [91] (fun v wc=>v=.bool (badCut X L U S)/\(wc.rowIs g1 3 dl (onWay (cutD ds lo hi st) ds k)/\wc.rowIs g2 3 dl (onWay (cutS ss st) [] k))/\(ViewAt wc w.heap.size (.int .i64 s) (.slice (some ⟨db,doff,none⟩) dl dc) (.slice (some ⟨sb,soff,none⟩) dl sc)/\ViewAt wc (w.heap.size+1) (.int .i64 0) (.slice none 0 0) (.slice none 0 0)/\ViewAt wc w3.heap.size (.int .i64 A) (.slice (some ⟨g1,0,none⟩) dl dl) (.slice (some ⟨g2,0,none⟩) dl dl))/\Below w.heap.size w wc)
    case first =>
     by_cases t1:L<0
     · have t1':decide (L<0)=true:=by simp [t1]
       go_quiet (fail)
       go_wp2
       go_meet
       exact ⟨by rw [badCut_t (by omega)],⟨HQ1.out,HQ2.out⟩,⟨HV.out,HRR.out,HO.out⟩,below_drewN' HBw.out _⟩
     have t1':decide (L<0)=false:=by simp;omega
     by_cases t2:U<L
     · have t2':decide (U<L)=true:=by simp [t2]
       go_quiet (fail)
       go_wp2
       go_meet
       exact ⟨by rw [badCut_t (by omega)],⟨HQ1.out,HQ2.out⟩,⟨HV.out,HRR.out,HO.out⟩,below_drewN' HBw.out _⟩
     have t2':decide (U<L)=false:=by simp;omega
     by_cases t3:X<U
     · have t3':decide (X<U)=true:=by simp [t3]
       go_quiet (fail)
       go_wp2
       go_meet
       exact ⟨by rw [badCut_t (by omega)],⟨HQ1.out,HQ2.out⟩,⟨HV.out,HRR.out,HO.out⟩,below_drewN' HBw.out _⟩
     have t3':decide (X<U)=false:=by simp;omega
     by_cases t4:S<1
     · have t4':decide (S<1)=true:=by simp [t4]
       go_quiet (fail)
       go_wp2
       go_meet
       exact ⟨by rw [badCut_t (by omega)],⟨HQ1.out,HQ2.out⟩,⟨HV.out,HRR.out,HO.out⟩,below_drewN' HBw.out _⟩
     have t4':decide (S<1)=false:=by simp;omega
     by_cases t5:4096<S
     · have t5':decide (4096<S)=true:=by simp [t5]
       go_quiet (fail)
       go_wp2
       go_meet
       exact ⟨by rw [badCut_t (by omega)],⟨HQ1.out,HQ2.out⟩,⟨HV.out,HRR.out,HO.out⟩,below_drewN' HBw.out _⟩
     have t5':decide (4096<S)=false:=by simp;omega
     go_quiet (fail)
     go_wp2
     go_meet
     exact ⟨by rw [badCut_f (by omega)],⟨HQ1.out,HQ2.out⟩,⟨HV.out,HRR.out,HO.out⟩,below_drewN' HBw.out _⟩
    case rest =>
     obtain ⟨rfl,⟨hr1,hr2⟩,⟨hv,hrr,ho⟩,hB⟩:=hcut
     clear cd cs cl ch ct v0 v1 v2 o0 o1 o2 p0 p1 p2 HQ1 HQ2 HV HRR HO HBw
     have HQ1:=hide hr1
     have HQ2:=hide hr2
     have HV:=hide hv
     have HRR:=hide hrr
     have HO:=hide ho
     have HBw:=hide hB
     clear hr1 hr2 hv hrr ho hB
     cases hbc:badCut X L U S with
     | true =>
      obtain ⟨⟨r0,r1,r2⟩,rf0,rf1,rf2⟩:=HRR.out.cells
      have HBC:=hide hbc
      clear hbc
      go_wp2
      refine bodyPost_ret (v:=.tuple #[.agg #[.int .i64 0,.slice none 0 0,.slice none 0 0],.int .i64 4]) (by simp [results,Tryz.results81,go_sem,r0,r1,r2]) rfl ⟨?_,below_put HBw.out (by omega)⟩
      rw [CutPost,if_pos (anyBad_true k (by rw [HD.out.1];exact hlt) (by rw [HBAD.out,HBC.out]))]
      exact givesF_none _ _ _ _
     | false =>
      have hbf:=badCut_false hbc
      have HBC:=hide hbc
      have hx4:X<=4096:=by rw [HX.out];exact (HSM.out.dims _ (mem_getD ds k (by have:=HD.out.1;omega))).2
      have b2:-1099511627776<=T/\T<=1099511627776:=by rw [HTe.out];exact HSM.out.steps _ (mem_getD ss k (by have:=HS.out.1;omega))
      have b3:=cutAcc_bd HSM.out lo hi st k (by have:=HD.out.1;omega) HGD.out
      rw [<-HA.out] at b3
      have bP:=mul4096_bd (d:=L) (x:=T) ⟨by omega,by omega⟩ b2
      have bQ:=mul4096_bd (d:=S) (x:=T) ⟨by omega,by omega⟩ b2
      obtain ⟨P,hP⟩:∃ P,P=L*T:=⟨_,rfl⟩
      have kb:=kept_bd (h:=U) hbf.1 hbf.2.1 hbf.2.2.2.1
      have w1':IntKind.i64.wrap (L*T)=P:=by rw [hP];exact wrap_in _ (by omega) (by omega)
      rw [<-hP] at bP
      have w2':IntKind.i64.wrap (A+P)=A+P:=wrap_in _ (by omega) (by omega)
      have w3':IntKind.i64.wrap (U-L)=U-L:=wrap_in _ (by omega) (by omega)
      have w4':IntKind.i64.wrap (U-L+S)=U-L+S:=wrap_in _ (by omega) (by omega)
      have w5':IntKind.i64.wrap (U-L+S-1)=U-L+S-1:=wrap_in _ (by omega) (by omega)
      have w6':IntKind.i64.wrap ((U-L+S-1).tdiv S)=keptN L U S:=by
       rw [Int.tdiv_eq_ediv_of_nonneg (by omega)];exact wrap_in _ (by unfold keptN at kb;omega) (by unfold keptN at kb;omega)
      have w7':IntKind.i64.wrap (S*T)=S*T:=wrap_in _ (by omega) (by omega)
      have hz':¬ S=0:=by omega
      have cd:wc.cell? ⟨db,doff+k,none⟩=some (.int .i64 X):=by rw [HX.out];exact (HBw.out.cell (p:=⟨db,doff+k,none⟩) hdb).trans HDC.out
      have cs:wc.cell? ⟨sb,soff+k,none⟩=some (.int .i64 T):=by rw [HTe.out];exact (HBw.out.cell (p:=⟨sb,soff+k,none⟩) hsb).trans HSC.out
      have cl:wc.cell? ⟨lb,loff+k,none⟩=some (.int .i64 L):=by rw [HLe.out];exact (HBw.out.cell (p:=⟨lb,loff+k,none⟩) hlb).trans HLC.out
      have ch:wc.cell? ⟨hb,hoff+k,none⟩=some (.int .i64 U):=by rw [HU.out];exact (HBw.out.cell (p:=⟨hb,hoff+k,none⟩) hhb).trans HHC.out
      have ct:wc.cell? ⟨tb,toff+k,none⟩=some (.int .i64 S):=by rw [HSe.out];exact (HBw.out.cell (p:=⟨tb,toff+k,none⟩) htb).trans HTC.out
      obtain ⟨⟨v0,v1,v2⟩,_⟩:=HV.out.cells
      obtain ⟨⟨o0,o1,o2⟩,p0,p1,p2⟩:=HO.out.cells
      have c1:=HQ1.out.cell hlt
      have f1:=HQ1.out.frozen k
      have c2:=HQ2.out.cell hlt
      have f2:=HQ2.out.frozen k
      have HP:=hide hP
      clear cd hbc hbf hx4 kb hP bP bQ b3 b2
      go_wp2_with fail
      go_cut [] (fun wd=>(wd.rowIs g1 3 dl (onWay (cutD ds lo hi st) ds k)/\wd.rowIs g2 3 dl (onWay (cutS ss st) [] k))/\(ViewAt wd w.heap.size (.int .i64 s) (.slice (some ⟨db,doff,none⟩) dl dc) (.slice (some ⟨sb,soff,none⟩) dl sc)/\ViewAt wd (w.heap.size+1) (.int .i64 0) (.slice none 0 0) (.slice none 0 0)/\ViewAt wd w3.heap.size (.int .i64 (A+P)) (.slice (some ⟨g1,0,none⟩) dl dl) (.slice (some ⟨g2,0,none⟩) dl dl))/\Below w.heap.size w wd)
      case first =>
       go_region
       go_wp2
       go_meet
       refine ⟨⟨?_,?_⟩,⟨?_,?_,?_⟩,?_⟩
       · exact (HQ1.out.setOther (a:=⟨w3.heap.size,0,none⟩) (by simp;omega) _).drew
       · exact (HQ2.out.setOther (a:=⟨w3.heap.size,0,none⟩) (by simp;omega) _).drew
       · exact HV.out.set (p:=⟨w3.heap.size,0,none⟩) (by simp;omega) _
       · exact HRR.out.set (p:=⟨w3.heap.size,0,none⟩) (by simp;omega) _
       · exact HO.out.set0 _
       · exact (HBw.out.setCell (p:=⟨w3.heap.size,0,none⟩) (by simp;omega) _).drew
      case rest =>
       obtain ⟨⟨hr1,hr2⟩,⟨hv,hrr,ho⟩,hB⟩:=hcut
       clear cs cl ch ct v0 v1 v2 o0 o1 o2 p0 p1 p2 c1 f1 c2 f2 HQ1 HQ2 HV HRR HO HBw
       have HQ1:=hide hr1
       have HQ2:=hide hr2
       have HV:=hide hv
       have HRR:=hide hrr
       have HO:=hide ho
       have HBw:=hide hB
       clear hr1 hr2 hv hrr ho hB
       have cs:wc.cell? ⟨sb,soff+k,none⟩=some (.int .i64 T):=by rw [HTe.out];exact (HBw.out.cell (p:=⟨sb,soff+k,none⟩) hsb).trans HSC.out
       have cl:wc.cell? ⟨lb,loff+k,none⟩=some (.int .i64 L):=by rw [HLe.out];exact (HBw.out.cell (p:=⟨lb,loff+k,none⟩) hlb).trans HLC.out
       have ch:wc.cell? ⟨hb,hoff+k,none⟩=some (.int .i64 U):=by rw [HU.out];exact (HBw.out.cell (p:=⟨hb,hoff+k,none⟩) hhb).trans HHC.out
       have ct:wc.cell? ⟨tb,toff+k,none⟩=some (.int .i64 S):=by rw [HSe.out];exact (HBw.out.cell (p:=⟨tb,toff+k,none⟩) htb).trans HTC.out
       obtain ⟨⟨v0,v1,v2⟩,_⟩:=HV.out.cells
       obtain ⟨⟨o0,o1,o2⟩,p0,p1,p2⟩:=HO.out.cells
       have c1:=HQ1.out.cell hlt
       have f1:=HQ1.out.frozen k
       have c2:=HQ2.out.cell hlt
       have f2:=HQ2.out.frozen k
       go_wp2_with fail
       go_cut [] (fun wd=>(wd.rowIs g1 3 dl (onWay (cutD ds lo hi st) ds (k+1))/\wd.rowIs g2 3 dl (onWay (cutS ss st) [] k))/\(ViewAt wd w.heap.size (.int .i64 s) (.slice (some ⟨db,doff,none⟩) dl dc) (.slice (some ⟨sb,soff,none⟩) dl sc)/\ViewAt wd (w.heap.size+1) (.int .i64 0) (.slice none 0 0) (.slice none 0 0)/\ViewAt wd w3.heap.size (.int .i64 (A+P)) (.slice (some ⟨g1,0,none⟩) dl dl) (.slice (some ⟨g2,0,none⟩) dl dl))/\Below w.heap.size w wd)
       case first =>
        go_region
        go_wp2
        go_meet
        refine ⟨⟨?_,?_⟩,⟨?_,?_,?_⟩,?_⟩
        · refine (HQ1.out.set k (.int .i64 (keptN L U S))).drew.congr (fun j _=>?_)
          rw [HLe.out,HU.out,HSe.out,<-cutD_getD ds lo hi st k (by rw [HD.out.1];exact hlt)];exact onWay_succ _ _ k j
        · exact (HQ2.out.setOther (a:=⟨g1,k,none⟩) (Ne.symm hne) _).drew
        · exact HV.out.set (p:=⟨g1,k,none⟩) (by simp;omega) _
        · exact HRR.out.set (p:=⟨g1,k,none⟩) (by simp;omega) _
        · exact HO.out.set (p:=⟨g1,k,none⟩) (by simp;omega) _
        · exact (HBw.out.setCell (p:=⟨g1,k,none⟩) (by simp;omega) _).drew
       case rest =>
        obtain ⟨⟨hr1,hr2⟩,⟨hv,hrr,ho⟩,hB⟩:=hcut
        clear cs cl ch ct v0 v1 v2 o0 o1 o2 p0 p1 p2 c1 f1 c2 f2 HQ1 HQ2 HV HRR HO HBw
        have HQ1:=hide hr1
        have HQ2:=hide hr2
        have HV:=hide hv
        have HRR:=hide hrr
        have HO:=hide ho
        have HBw:=hide hB
        clear hr1 hr2 hv hrr ho hB
        have cs:wc.cell? ⟨sb,soff+k,none⟩=some (.int .i64 T):=by rw [HTe.out];exact (HBw.out.cell (p:=⟨sb,soff+k,none⟩) hsb).trans HSC.out
        have cl:wc.cell? ⟨lb,loff+k,none⟩=some (.int .i64 L):=by rw [HLe.out];exact (HBw.out.cell (p:=⟨lb,loff+k,none⟩) hlb).trans HLC.out
        have ch:wc.cell? ⟨hb,hoff+k,none⟩=some (.int .i64 U):=by rw [HU.out];exact (HBw.out.cell (p:=⟨hb,hoff+k,none⟩) hhb).trans HHC.out
        have ct:wc.cell? ⟨tb,toff+k,none⟩=some (.int .i64 S):=by rw [HSe.out];exact (HBw.out.cell (p:=⟨tb,toff+k,none⟩) htb).trans HTC.out
        obtain ⟨⟨v0,v1,v2⟩,_⟩:=HV.out.cells
        obtain ⟨⟨o0,o1,o2⟩,p0,p1,p2⟩:=HO.out.cells
        have c1:=HQ1.out.cell hlt
        have f1:=HQ1.out.frozen k
        have c2:=HQ2.out.cell hlt
        have f2:=HQ2.out.frozen k
        go_wp2_with fail
        go_region
        go_wp2
        go_roundw
        case measure=>simp [intOf];omega
        case rel =>
         refine ⟨k+1,by omega,by go_num,?_,⟨?_,?_⟩,⟨?_,?_,?_⟩,?_⟩
         · intro j hj
           by_cases e:j=k
           · subst e;rw [HBAD.out,HBC.out]
           · exact HGD.out j (by omega)
         · exact (HQ1.out.setOther (a:=⟨g2,k,none⟩) hne _).drew
         · refine (HQ2.out.set k (.int .i64 (S*T))).drew.congr (fun j _=>?_)
           rw [HSe.out,HTe.out,<-cutS_getD ss st k (by rw [HS.out.1];exact hlt)];exact onWay_succ _ _ k j
         · exact HV.out.set (p:=⟨g2,k,none⟩) (by simp;omega) _
         · exact HRR.out.set (p:=⟨g2,k,none⟩) (by simp;omega) _
         · rw [cutAcc,<-HA.out,<-HLe.out,<-HTe.out,<-HP.out];exact HO.out.set (p:=⟨g2,k,none⟩) (by simp;omega) _
         · exact (HBw.out.setCell (p:=⟨g2,k,none⟩) (by simp;omega) _).drew
  · obtain rfl:k=dl:=by omega
    obtain ⟨⟨o0,o1,o2⟩,_⟩:=HO.out.cells
    have hnb:anyBad ds lo hi st=false:=anyBad_false (fun j hj=>HGD.out j (by rw [<-HD.out.1];exact hj))
    have hi1:Ints wr (some ⟨g1,0,none⟩) k (cutD ds lo hi st):=ints_of_rowI (onWay_all HQ1.out) (by rw [cutD_length,HD.out.1]) (by omega) (fun x hx=>by have:=cutD_bd HSM.out hnb x hx;omega)
    have hi2:Ints wr (some ⟨g2,0,none⟩) k (cutS ss st):=ints_of_rowI (onWay_all HQ2.out) (by rw [cutS_length,HS.out.1]) (by omega) (cutS_bd HSM.out hnb)
    have HNB:=hide hnb
    have HI1:=hide hi1
    have HI2:=hide hi2
    clear hnb hi1 hi2
    go_wp2_with fail
    refine (reached_any _ _ _ _ _ _ _ (cutS ss st) _ HI2.out).mono ?_
    rintro e w4 ⟨rfl,hb⟩
    have HBd:=hide (Below.on HBw.out hb)
    have HRR4:=hide (HRR.out.below hb)
    have HI1':=hide (HI1.out.below hb)
    have HI2':=hide (HI2.out.below hb)
    obtain ⟨⟨r0,r1,r2⟩,rf0,rf1,rf2⟩:=HRR4.out.cells
    clear hb o0 o1 o2
    by_cases hbe:beyondB (cutAcc s ss lo k) (cutS ss st)=true
    · rw [if_pos hbe]
      have HBE:=hide hbe
      clear hbe
      go_wp2
      refine bodyPost_ret (v:=.tuple #[.agg #[.int .i64 0,.slice none 0 0,.slice none 0 0],.int .i64 5]) (by simp [results,Tryz.results81,go_sem,r0,r1,r2]) rfl ⟨?_,below_put HBd.out (by omega)⟩
      rw [CutPost,if_neg (by rw [HNB.out];simp),if_pos HBE.out]
      exact givesF_none _ _ _ _
    · rw [if_neg hbe]
      have HBE:=hide hbe
      clear hbe
      go_wp2
      refine bodyPost_ret (v:=.tuple #[.agg #[.int .i64 (cutAcc s ss lo k),.slice (some ⟨g1,0,none⟩) k k,.slice (some ⟨g2,0,none⟩) k k],.int .i64 0]) (by simp [results,Tryz.results81,go_sem,r0,r1,r2]) rfl ⟨?_,below_put HBd.out (by omega)⟩
      rw [CutPost,if_neg (by rw [HNB.out];simp),if_neg HBE.out]
      exact ⟨_,_,_,_,_,_,rfl,ints_set3 (B:=w.heap.size+1) HI1'.out (by omega),ints_set3 (B:=w.heap.size+1) HI2'.out (by omega),⟨Nat.le_refl _,Nat.le_refl _⟩,.inr (far_some (by omega)),far_some (by omega)⟩
def lensB (n:Nat) (lo hi st:List Int):Bool:=decide (lo.length=n) && (decide (hi.length=n) && decide (st.length=n))
def cutE (s:Int) (ds ss lo hi st:List Int):Int:=if wrongE s ds ss≠0 then wrongE s ds ss else if lensB ds.length lo hi st=true then (if anyBad ds lo hi st=true then 4 else if beyondB (cutAcc s ss lo ds.length) (cutS ss st)=true then 5 else 0) else 6
theorem lensB_true {n:Nat} {lo hi st:List Int}:lensB n lo hi st=true<->lo.length=n/\hi.length=n/\st.length=n:=by simp [lensB]
theorem cut_wrong (s:Int) (da:Option Addr) (dl dc:Nat) (ds:List Int) (sa:Option Addr) (sl sc:Nat) (ss:List Int) (la:Option Addr) (ll lc:Nat) (ha:Option Addr) (hl hc:Nat) (ta:Option Addr) (tl tc:Nat) (w:World)
 (hd:Ints w da dl ds) (hs:Ints w sa sl ss) (hW:wrongE s ds ss≠0) :
 Calls Tryz.prog 81 #[.agg #[.int .i64 s,.slice da dl dc,.slice sa sl sc],.slice la ll lc,.slice ha hl hc,.slice ta tl tc] w fun e w'=>e=.returned (.tuple #[.agg #[.int .i64 0,.slice none 0 0,.slice none 0 0],.int .i64 (wrongE s ds ss)])/\Below w.heap.size w w':=by
 have HD:=hide hd
 have HS:=hide hs
 have c1:(wrongE s ds ss != 0)=true:=by simp [hW]
 clear hd hs hW
 have hb2:Below w.heap.size w ((w.alloc (.cells #[.int .i64 s,.slice da dl dc,.slice sa sl sc] 79)).alloc (.cells #[.int .i64 0,.slice none 0 0,.slice none 0 0] 79)):=((Below.refl _ _).alloc (Nat.le_refl _) _).alloc (by simp) _
 have HB2:=hide hb2
 clear hb2
 go_enter Tryz.func81,Tryz.ntmps81
 go_wp2_with fail
 refine (wrong_any _ _ _ _ ds _ _ _ ss _ (HD.out.below HB2.out) (HS.out.below HB2.out)).mono ?_
 rintro e w1 ⟨rfl,hb⟩
 have HB:=hide (Below.on HB2.out hb)
 obtain ⟨hc1,hf1⟩:=bcell hb
 have hz:=hb.size
 simp at hz
 clear hb
 go_wp2
 refine bodyPost_ret (v:=.tuple #[.agg #[.int .i64 0,.slice none 0 0,.slice none 0 0],.int .i64 (wrongE s ds ss)]) (by simp [results,Tryz.results81,go_sem,hc1]) rfl ⟨rfl,?_⟩
 exact ((HB.out.setCell (p:=⟨w.heap.size+1,0,none⟩) (by simp) _).setCell (p:=⟨w.heap.size+1,1,none⟩) (by simp) _).setCell (p:=⟨w.heap.size+1,2,none⟩) (by simp) _
theorem cut_shape (s:Int) (da:Option Addr) (dl dc:Nat) (ds:List Int) (sa:Option Addr) (sl sc:Nat) (ss:List Int) (la:Option Addr) (ll lc:Nat) (ha:Option Addr) (hl hc:Nat) (ta:Option Addr) (tl tc:Nat) (w:World)
 (hd:Ints w da dl ds) (hs:Ints w sa sl ss) (hW:wrongE s ds ss=0) (hP:¬ (ll=dl/\hl=dl/\tl=dl)) :
 Calls Tryz.prog 81 #[.agg #[.int .i64 s,.slice da dl dc,.slice sa sl sc],.slice la ll lc,.slice ha hl hc,.slice ta tl tc] w fun e w'=>e=.returned (.tuple #[.agg #[.int .i64 0,.slice none 0 0,.slice none 0 0],.int .i64 6])/\Below w.heap.size w w':=by
 have HD:=hide hd
 have HS:=hide hs
 have HW:=hide hW
 clear hd hs hW
 have hb2:Below w.heap.size w ((w.alloc (.cells #[.int .i64 s,.slice da dl dc,.slice sa sl sc] 79)).alloc (.cells #[.int .i64 0,.slice none 0 0,.slice none 0 0] 79)):=((Below.refl _ _).alloc (Nat.le_refl _) _).alloc (by simp) _
 have HB2:=hide hb2
 clear hb2
 have HP:=hide hP
 clear hP
 go_enter Tryz.func81,Tryz.ntmps81
 go_wp2_with fail
 refine (wrong_any _ _ _ _ ds _ _ _ ss _ (HD.out.below HB2.out) (HS.out.below HB2.out)).mono ?_
 rintro e w1 ⟨rfl,hb⟩
 rw [HW.out]
 have HB:=hide (Below.on HB2.out hb)
 have hV1:ViewAt w1 w.heap.size (.int .i64 s) (.slice da dl dc) (.slice sa sl sc):=((ViewAt.new w _ _ _).alloc _).below hb
 have hR1:ViewAt w1 (w.heap.size+1) (.int .i64 0) (.slice none 0 0) (.slice none 0 0):=by
  have:=(ViewAt.new (w.alloc (.cells #[.int .i64 s,.slice da dl dc,.slice sa sl sc] 79)) (.int .i64 0) (.slice none 0 0) (.slice none 0 0)).below hb
  simpa using this
 obtain ⟨⟨v0,v1,v2⟩,_⟩:=hV1.cells
 obtain ⟨⟨r0,r1,r2⟩,rf0,rf1,rf2⟩:=hR1.cells
 clear hb hV1 hR1
 by_cases e1:ll=dl
 · subst e1
   by_cases e2:hl=ll
   · subst e2
     have e3:((tl:Int) != (hl:Int))=true:=by have:=HP.out;simp;omega
     go_wp2
     refine bodyPost_ret (v:=.tuple #[.agg #[.int .i64 0,.slice none 0 0,.slice none 0 0],.int .i64 6]) (by simp [results,Tryz.results81,go_sem,r0,r1,r2]) rfl ⟨rfl,below_put HB.out (by omega)⟩
   · have e2':((hl:Int) != (ll:Int))=true:=by simp;omega
     clear e2
     go_wp2
     refine bodyPost_ret (v:=.tuple #[.agg #[.int .i64 0,.slice none 0 0,.slice none 0 0],.int .i64 6]) (by simp [results,Tryz.results81,go_sem,r0,r1,r2]) rfl ⟨rfl,below_put HB.out (by omega)⟩
 · have e1':((ll:Int) != (dl:Int))=true:=by simp;omega
   clear e1
   go_wp2
   refine bodyPost_ret (v:=.tuple #[.agg #[.int .i64 0,.slice none 0 0,.slice none 0 0],.int .i64 6]) (by simp [results,Tryz.results81,go_sem,r0,r1,r2]) rfl ⟨rfl,below_put HB.out (by omega)⟩
theorem cut_any (s:Int) (da:Option Addr) (dl dc:Nat) (ds:List Int) (sa:Option Addr) (sl sc:Nat) (ss:List Int) (la:Option Addr) (ll lc:Nat) (lo:List Int) (ha:Option Addr) (hl hc:Nat) (hi:List Int) (ta:Option Addr) (tl tc:Nat) (st:List Int) (w:World)
 (hd:Ints w da dl ds) (hs:Ints w sa sl ss) (hlo:Ints w la ll lo) (hhi:Ints w ha hl hi) (hst:Ints w ta tl st) :
 Calls Tryz.prog 81 #[.agg #[.int .i64 s,.slice da dl dc,.slice sa sl sc],.slice la ll lc,.slice ha hl hc,.slice ta tl tc] w fun e w'=>GivesF w da e w' (okS (cutE s ds ss lo hi st) (cutAcc s ss lo ds.length)) (okL (cutE s ds ss lo hi st) (cutD ds lo hi st)) (okL (cutE s ds ss lo hi st) (cutS ss st)) (cutE s ds ss lo hi st)/\Below w.heap.size w w':=by
 by_cases hW:wrongE s ds ss≠0
 · have e:cutE s ds ss lo hi st=wrongE s ds ss:=by simp [cutE,hW]
   rw [e]
   refine (cut_wrong s da dl dc ds sa sl sc ss la ll lc ha hl hc ta tl tc w hd hs hW).mono ?_
   rintro e w' ⟨rfl,hb⟩
   simp only [okS,okL,if_neg hW]
   exact ⟨givesF_none _ _ _ _,hb⟩
 replace hW:wrongE s ds ss=0:=by simpa using hW
 obtain ⟨w1,w2,_⟩:=wrongE_ok hW
 have h6:=(sizeE_ok w1).1
 have ld:=hd.1
 have ls:=hs.1
 have l1:=hlo.1
 have l2:=hhi.1
 have l3:=hst.1
 by_cases hP:ll=dl/\hl=dl/\tl=dl
 · obtain ⟨rfl,rfl,rfl⟩:=hP
   obtain rfl:sl=tl:=by omega
   refine (cut_ok s da sl dc ds sa sc ss la lc lo ha hc hi ta tc st w hd hs hlo hhi hst hW (by omega)).mono ?_
   rintro e w' ⟨h,hb⟩
   refine ⟨?_,hb⟩
   have er:lensB ds.length lo hi st=true:=lensB_true.2 ⟨by omega,by omega,by omega⟩
   rw [CutPost,<-ld] at h
   by_cases hA:anyBad ds lo hi st=true
   · rw [if_pos hA] at h
     have e:cutE s ds ss lo hi st=4:=by simp [cutE,hW,er,hA]
     rw [e];exact h
   · rw [if_neg hA] at h
     by_cases hB:beyondB (cutAcc s ss lo ds.length) (cutS ss st)=true
     · rw [if_pos hB] at h
       have e:cutE s ds ss lo hi st=5:=by simp [cutE,hW,er,hA,hB]
       rw [e];exact h
     · rw [if_neg hB] at h
       have e:cutE s ds ss lo hi st=0:=by simp [cutE,hW,er,hA,hB]
       rw [e];exact h
 · have e:cutE s ds ss lo hi st=6:=by
    have:lensB ds.length lo hi st=false:=by
     cases c:lensB ds.length lo hi st with
     | true=>exact absurd (lensB_true.1 c) (by omega)
     | false=>rfl
    simp [cutE,hW,this]
   rw [e]
   refine (cut_shape s da dl dc ds sa sl sc ss la ll lc ha hl hc ta tl tc w hd hs hW hP).mono ?_
   rintro e w' ⟨rfl,hb⟩
   exact ⟨givesF_none _ _ _ _,hb⟩
def sprV (ss ps:List Int):Nat->Nat->Int
 | 0,_=>0
 | i+1,j=>if j=(ps[i]?.getD 0).toNat then ss[i]?.getD 0 else sprV ss ps i j
def sprS (el:Nat) (ss ps:List Int):List Int:=(List.range el).map (sprV ss ps ps.length)
def misAt (ds es ps:List Int) (k:Nat):Bool:=decide (ds[k]?.getD 0≠es[(ps[k]?.getD 0).toNat]?.getD 0)
def anyMis (ds es ps:List Int):Bool:=(List.range ps.length).any (misAt ds es ps)
theorem sprS_length (el:Nat) (ss ps:List Int):(sprS el ss ps).length=el:=by simp [sprS]
theorem sprS_getD (el:Nat) (ss ps:List Int) (j:Nat) (h:j<el):(sprS el ss ps)[j]?.getD 0=sprV ss ps ps.length j:=by simp [sprS,h]
theorem anyMis_false {ds es ps:List Int} (h:∀ j,j<ps.length->misAt ds es ps j=false):anyMis ds es ps=false:=by
 unfold anyMis
 rw [List.any_eq_false]
 intro j hj
 rw [h j (List.mem_range.1 hj)];simp
theorem anyMis_true {ds es ps:List Int} (k:Nat) (hk:k<ps.length) (h:misAt ds es ps k=true):anyMis ds es ps=true:=by
 unfold anyMis
 rw [List.any_eq_true]
 exact ⟨k,List.mem_range.2 hk,h⟩
theorem sprV_or (ss ps:List Int) (j:Nat):∀ i,i<=ss.length->sprV ss ps i j=0\/sprV ss ps i j∈ss
 | 0,_=>.inl rfl
 | i+1,h=>by
  rw [sprV]
  split
  · exact .inr (mem_getD ss i (by omega))
  · exact sprV_or ss ps j i (by omega)
theorem spr_far {s:Int} {ds ss ps:List Int} {el:Nat} (hW:wrongE s ds ss=0) (hl:ps.length<=ss.length):beyondB s (sprS el ss ps)=false:=by
 obtain ⟨_,_,h3⟩:=wrongE_ok hW
 simp only [beyondB,Bool.or_eq_false_iff] at h3 ⊢
 refine ⟨h3.1,?_⟩
 have h4:=h3.2
 rw [List.any_eq_false] at h4 ⊢
 intro x hx
 simp only [sprS,List.mem_map,List.mem_range] at hx
 obtain ⟨j,hj,rfl⟩:=hx
 rcases sprV_or ss ps j ps.length hl with h | h
 · rw [h];simp [farB]
 · exact h4 _ h
theorem sprS_bd {s:Int} {ds ss ps:List Int} {el:Nat} (h:Small s ds ss) (hl:ps.length<=ss.length):∀ x∈sprS el ss ps,-9223372036854775808<=x/\x<=9223372036854775807:=by
 intro x hx
 simp only [sprS,List.mem_map,List.mem_range] at hx
 obtain ⟨j,hj,rfl⟩:=hx
 rcases sprV_or ss ps j ps.length hl with e | e
 · rw [e];omega
 · have:=h.steps _ e;omega
def SprPost (w:World) (ea:Option Addr) (s:Int) (ds ss es ps:List Int) (e:Ending) (w':World):Prop:=if anyMis ds es ps=true then GivesF w ea e w' 0 [] [] 6 else GivesF w ea e w' s es (sprS es.length ss ps) 0
theorem spread_ok (s:Int) (da:Option Addr) (dl dc:Nat) (ds:List Int) (sa:Option Addr) (sc:Nat) (ss:List Int) (ea:Option Addr) (el ec:Nat) (es:List Int) (pa:Option Addr) (pc:Nat) (ps:List Int) (w:World)
 (hd:Ints w da dl ds) (hs:Ints w sa dl ss) (he:Ints w ea el es) (hp:Ints w pa dl ps) (hW:wrongE s ds ss=0) (hE:sizeE es=0) (hP:RiseOk ps el) (h6:dl<=6) (h6e:el<=6) :
 Calls Tryz.prog 79 #[.agg #[.int .i64 s,.slice da dl dc,.slice sa dl sc],.slice ea el ec,.slice pa dl pc] w fun e w'=>SprPost w ea s ds ss es ps e w'/\Below w.heap.size w w':=by
 have HSM:=hide (small_of hW)
 have HD:=hide hd
 have HS:=hide hs
 have HE:=hide he
 have HP:=hide hp
 have HW:=hide hW
 have HZ:=hide hE
 have HPO:=hide hP
 clear hd hs he hp hW hE hP
 have hb2:Below w.heap.size w ((w.alloc (.cells #[.int .i64 s,.slice da dl dc,.slice sa dl sc] 79)).alloc (.cells #[.int .i64 0,.slice none 0 0,.slice none 0 0] 79)):=((Below.refl _ _).alloc (Nat.le_refl _) _).alloc (by simp) _
 have HB2:=hide hb2
 clear hb2
 go_enter Tryz.func79,Tryz.ntmps79
 go_wp2_with fail
 refine (wrong_any _ _ _ _ ds _ _ _ ss _ (HD.out.below HB2.out) (HS.out.below HB2.out)).mono ?_
 rintro e w1 ⟨rfl,hb⟩
 rw [HW.out]
 have HB:=hide (Below.on HB2.out hb)
 have hV1:ViewAt w1 w.heap.size (.int .i64 s) (.slice da dl dc) (.slice sa dl sc):=((ViewAt.new w _ _ _).alloc _).below hb
 have hR1:ViewAt w1 (w.heap.size+1) (.int .i64 0) (.slice none 0 0) (.slice none 0 0):=by
  have:=(ViewAt.new (w.alloc (.cells #[.int .i64 s,.slice da dl dc,.slice sa dl sc] 79)) (.int .i64 0) (.slice none 0 0) (.slice none 0 0)).below hb
  simpa using this
 have HV1:=hide hV1
 have HR1:=hide hR1
 obtain ⟨⟨v0,v1,v2⟩,_⟩:=hV1.cells
 clear hb hV1 hR1
 go_wp2_with fail
 refine (size_any _ _ _ es _ (HE.out.below HB.out)).mono ?_
 rintro e w2 ⟨rfl,hw⟩
 obtain rfl:=hw.symm
 clear hw
 rw [HZ.out]
 go_wp2_with fail
 refine (rises_any _ _ _ ps el _ (HP.out.below HB.out) h6e).mono ?_
 rintro e w2 ⟨⟨r,rfl,hr⟩,hw⟩
 obtain rfl:=hw.symm
 obtain rfl:r=true:=hr.2 HPO.out
 clear hr hw
 go_wp2_with fail
 refine (blank_any _ _ _ _ es _ (HE.out.below HB.out) h6e).mono ?_
 rintro e w3 ⟨⟨g1,g2,rfl,⟨hr1,hr2⟩,hne,hg1,hg2⟩,hb⟩
 have HBb:=hide (Below.on HB.out hb)
 have HV3:=hide (HV1.out.below hb)
 have HR3:=hide (HR1.out.below hb)
 have HR1':=hide hr1
 have HR2':=hide hr2
 have hlt1:=hr1.lt
 have hlt2:=hr2.lt
 have hsz:=HR1.out.lt
 clear hb hr1 hr2 v0 v1 v2
 go_wp2_with fail
 go_loopw [49] (fun i wr=>∃ k:Nat,k<=dl/\i=.int .i64 k/\(∀ j,j<k->misAt ds es ps j=false)/\(wr.rowIs g1 3 el (fun j=>.int .i64 (es[j]?.getD 0))/\wr.rowIs g2 3 el (fun j=>.int .i64 (sprV ss ps k j)))/\(ViewAt wr w.heap.size (.int .i64 s) (.slice da dl dc) (.slice sa dl sc)/\ViewAt wr (w.heap.size+1) (.int .i64 0) (.slice none 0 0) (.slice none 0 0)/\ViewAt wr w3.heap.size (.int .i64 s) (.slice (some ⟨g1,0,none⟩) el el) (.slice (some ⟨g2,0,none⟩) el el))/\Below w.heap.size w wr) (fun i _=>dl-(intOf i).toNat)
 case atStart =>
  refine ⟨0,Nat.zero_le _,rfl,by simp,⟨HR1'.out.alloc _,?_⟩,⟨HV3.out.alloc _,HR3.out.alloc _,ViewAt.new w3 _ _ _⟩,HBb.out.alloc HBb.out.size _⟩
  exact HR2'.out.alloc _
 case round =>
  obtain ⟨k,hk,rfl,hgood,⟨hr1,hr2⟩,⟨hv,hrr,ho⟩,hB⟩:=hrel
  have HGD:=hide hgood
  have HQ1:=hide hr1
  have HQ2:=hide hr2
  have HV:=hide hv
  have HRR:=hide hrr
  have HO:=hide ho
  have HBw:=hide hB
  clear hgood hr1 hr2 hv hrr ho hB
  by_cases hlt:k<dl
  · have hpe:=HP.out.1
    have hpo:=HPO.out k (by omega)
    obtain ⟨db,doff,rfl,hdb,hdc⟩:=HD.out.at (by omega)
    obtain ⟨sb,soff,rfl,hsb,hsc⟩:=HS.out.at (by omega)
    obtain ⟨eb,eoff,rfl,heb,hec⟩:=HE.out.at (by omega)
    obtain ⟨pb,poff,rfl,hpb,hpc⟩:=HP.out.at (by omega)
    obtain ⟨m,hm⟩:∃ m:Nat,ps[k]?.getD 0=(m:Int):=⟨(ps[k]?.getD 0).toNat,by omega⟩
    have hmlt:m<el:=by omega
    have HM:=hide hm
    obtain ⟨X,hX⟩:∃ X,X=ds[k]?.getD 0:=⟨_,rfl⟩
    obtain ⟨T,hT⟩:∃ T,T=ss[k]?.getD 0:=⟨_,rfl⟩
    obtain ⟨Z,hZ⟩:∃ Z,Z=es[m]?.getD 0:=⟨_,rfl⟩
    have cd:wr.cell? ⟨db,doff+k,none⟩=some (.int .i64 X):=by rw [hX];exact (HBw.out.cell (p:=⟨db,doff+k,none⟩) hdb).trans (hdc k hlt)
    have cs:wr.cell? ⟨sb,soff+k,none⟩=some (.int .i64 T):=by rw [hT];exact (HBw.out.cell (p:=⟨sb,soff+k,none⟩) hsb).trans (hsc k hlt)
    have ce:wr.cell? ⟨eb,eoff+m,none⟩=some (.int .i64 Z):=by rw [hZ];exact (HBw.out.cell (p:=⟨eb,eoff+m,none⟩) heb).trans (hec m hmlt)
    have cp:wr.cell? ⟨pb,poff+k,none⟩=some (.int .i64 (m:Int)):=by rw [<-hm];exact (HBw.out.cell (p:=⟨pb,poff+k,none⟩) hpb).trans (hpc k hlt)
    have hmis:misAt ds es ps k=decide (X≠Z):=by rw [misAt,hm,Int.toNat_natCast,<-hX,<-hZ]
    have HMIS:=hide hmis
    have HT:=hide hT
    have HPL:Hid (k<ps.length):=by rw [Hid];omega
    obtain ⟨⟨v0,v1,v2⟩,_⟩:=HV.out.cells
    obtain ⟨⟨o0,o1,o2⟩,p0,p1,p2⟩:=HO.out.cells
    have c2:=HQ2.out.cell hmlt
    have f2:=HQ2.out.frozen m
    have i1:(0:Int)<=(k:Int):=Int.natCast_nonneg _
    have i2:(k:Int)<(dl:Int):=by omega
    have i3:(0:Int)<=(m:Int):=Int.natCast_nonneg _
    have i4:(m:Int)<(el:Int):=by omega
    clear hdc hsc hec hpc hm hpo hX hT hZ hmis hpe
    go_wp2_with fail
    by_cases hXZ:X=Z
    · subst hXZ
      go_quiet (fail)
      go_wp2_with fail
      go_region
      go_wp2
      go_roundw
      case measure=>simp [intOf];omega
      case rel =>
       refine ⟨k+1,by omega,by go_num,?_,⟨?_,?_⟩,⟨?_,?_,?_⟩,?_⟩
       · intro j hj
         by_cases e:j=k
         · subst e;rw [HMIS.out];simp
         · exact HGD.out j (by omega)
       · exact (World.rowIs.of_block HQ1.out rfl:(wr.drewN (nq+1)).rowIs g1 3 el _).setOther (a:=⟨g2,m,none⟩) hne _
       · refine ((World.rowIs.of_block HQ2.out rfl:(wr.drewN (nq+1)).rowIs g2 3 el _).set m (.int .i64 T)).congr (fun j _=>?_)
         rw [sprV,HM.out,Int.toNat_natCast,<-HT.out]
         split<;>rfl
       · exact (show ViewAt (wr.drewN (nq+1)) _ _ _ _ from HV.out).set (p:=⟨g2,m,none⟩) (by simp;omega) _
       · exact (show ViewAt (wr.drewN (nq+1)) _ _ _ _ from HRR.out).set (p:=⟨g2,m,none⟩) (by simp;omega) _
       · exact (show ViewAt (wr.drewN (nq+1)) _ _ _ _ from HO.out).set (p:=⟨g2,m,none⟩) (by simp;omega) _
       · exact (below_drewN' HBw.out (nq+1)).setCell (p:=⟨g2,m,none⟩) (by simp;omega) _
    · have q:(X != Z)=true:=by simp [hXZ]
      have HXZ:=hide hXZ
      clear hXZ
      obtain ⟨⟨r0,r1,r2⟩,rf0,rf1,rf2⟩:=HRR.out.cells
      go_quiet (fail)
      go_wp2
      refine bodyPost_ret (v:=.tuple #[.agg #[.int .i64 0,.slice none 0 0,.slice none 0 0],.int .i64 6]) (by simp [results,Tryz.results79,go_sem,r0,r1,r2]) rfl ⟨?_,below_put (below_drewN' HBw.out _) (by omega)⟩
      rw [SprPost,if_pos (anyMis_true k HPL.out (by rw [HMIS.out];simpa using HXZ.out))]
      exact givesF_none _ _ _ _
  · obtain rfl:k=dl:=by omega
    obtain ⟨⟨o0,o1,o2⟩,_⟩:=HO.out.cells
    have hpe:=HP.out.1
    have hnm:anyMis ds es ps=false:=anyMis_false (fun j hj=>HGD.out j (by omega))
    have hls:ps.length<=ss.length:=by rw [hpe,HS.out.1];exact Nat.le_refl _
    have hfar:beyondB s (sprS es.length ss ps)=false:=spr_far HW.out hls
    have hi1:Ints wr (some ⟨g1,0,none⟩) el es:=ints_of_rowI HQ1.out HE.out.1 (by omega) HE.out.2.2.1
    have hi2:Ints wr (some ⟨g2,0,none⟩) el (sprS es.length ss ps):=by
     refine ints_of_rowI (World.rowIs.congr HQ2.out (fun j hj=>?_)) (by rw [sprS_length,HE.out.1]) (by omega) (sprS_bd HSM.out hls)
     rw [sprS_getD es.length ss ps j (by rw [HE.out.1];exact hj),hpe]
    have HNM:=hide hnm
    have HF:=hide hfar
    have HI1:=hide hi1
    have HI2:=hide hi2
    clear hnm hls hfar hi1 hi2 hpe
    go_wp2_with fail
    refine (reached_any _ _ _ _ _ _ _ (sprS es.length ss ps) _ HI2.out).mono ?_
    rintro e w4 ⟨rfl,hb⟩
    rw [if_neg (by rw [HF.out];simp)]
    have HBd:=hide (Below.on HBw.out hb)
    have HRR4:=hide (HRR.out.below hb)
    have HI1':=hide (HI1.out.below hb)
    have HI2':=hide (HI2.out.below hb)
    obtain ⟨⟨r0,r1,r2⟩,rf0,rf1,rf2⟩:=HRR4.out.cells
    clear hb o0 o1 o2
    go_wp2
    refine bodyPost_ret (v:=.tuple #[.agg #[.int .i64 s,.slice (some ⟨g1,0,none⟩) el el,.slice (some ⟨g2,0,none⟩) el el],.int .i64 0]) (by simp [results,Tryz.results79,go_sem,r0,r1,r2]) rfl ⟨?_,below_put HBd.out (by omega)⟩
    rw [SprPost,if_neg (by rw [HNM.out];simp)]
    exact ⟨_,_,_,_,_,_,rfl,ints_set3 (B:=w.heap.size+1) HI1'.out (by omega),ints_set3 (B:=w.heap.size+1) HI2'.out (by omega),⟨Nat.le_refl _,Nat.le_refl _⟩,.inr (far_some (by omega)),far_some (by omega)⟩
def sprE (s:Int) (ds ss es ps:List Int):Int:=if wrongE s ds ss≠0 then wrongE s ds ss else if sizeE es≠0 then sizeE es else if ps.length=ds.length/\riseB ps es.length=true then (if anyMis ds es ps=true then 6 else 0) else 6
theorem spread_wrong (s:Int) (da:Option Addr) (dl dc:Nat) (ds:List Int) (sa:Option Addr) (sl sc:Nat) (ss:List Int) (ea:Option Addr) (el ec:Nat) (_es:List Int) (pa:Option Addr) (pl pc:Nat) (w:World)
 (hd:Ints w da dl ds) (hs:Ints w sa sl ss) (hW:wrongE s ds ss≠0) :
 Calls Tryz.prog 79 #[.agg #[.int .i64 s,.slice da dl dc,.slice sa sl sc],.slice ea el ec,.slice pa pl pc] w fun e w'=>e=.returned (.tuple #[.agg #[.int .i64 0,.slice none 0 0,.slice none 0 0],.int .i64 (wrongE s ds ss)])/\Below w.heap.size w w':=by
 have HD:=hide hd
 have HS:=hide hs
 have c1:(wrongE s ds ss != 0)=true:=by simp [hW]
 clear hd hs hW
 have hb2:Below w.heap.size w ((w.alloc (.cells #[.int .i64 s,.slice da dl dc,.slice sa sl sc] 79)).alloc (.cells #[.int .i64 0,.slice none 0 0,.slice none 0 0] 79)):=((Below.refl _ _).alloc (Nat.le_refl _) _).alloc (by simp) _
 have HB2:=hide hb2
 clear hb2
 go_enter Tryz.func79,Tryz.ntmps79
 go_wp2_with fail
 refine (wrong_any _ _ _ _ ds _ _ _ ss _ (HD.out.below HB2.out) (HS.out.below HB2.out)).mono ?_
 rintro e w1 ⟨rfl,hb⟩
 have HB:=hide (Below.on HB2.out hb)
 obtain ⟨hc1,hf1⟩:=bcell hb
 have hz:=hb.size
 simp at hz
 clear hb
 go_wp2
 refine bodyPost_ret (v:=.tuple #[.agg #[.int .i64 0,.slice none 0 0,.slice none 0 0],.int .i64 (wrongE s ds ss)]) (by simp [results,Tryz.results79,go_sem,hc1]) rfl ⟨rfl,below_put HB.out (by omega)⟩
theorem spread_size (s:Int) (da:Option Addr) (dl dc:Nat) (ds:List Int) (sa:Option Addr) (sl sc:Nat) (ss:List Int) (ea:Option Addr) (el ec:Nat) (es:List Int) (pa:Option Addr) (pl pc:Nat) (w:World)
 (hd:Ints w da dl ds) (hs:Ints w sa sl ss) (he:Ints w ea el es) (hW:wrongE s ds ss=0) (hE:sizeE es≠0) :
 Calls Tryz.prog 79 #[.agg #[.int .i64 s,.slice da dl dc,.slice sa sl sc],.slice ea el ec,.slice pa pl pc] w fun e w'=>e=.returned (.tuple #[.agg #[.int .i64 0,.slice none 0 0,.slice none 0 0],.int .i64 (sizeE es)])/\Below w.heap.size w w':=by
 have HD:=hide hd
 have HS:=hide hs
 have HE:=hide he
 have HW:=hide hW
 have c1:(sizeE es != 0)=true:=by simp [hE]
 clear hd hs he hW hE
 have hb2:Below w.heap.size w ((w.alloc (.cells #[.int .i64 s,.slice da dl dc,.slice sa sl sc] 79)).alloc (.cells #[.int .i64 0,.slice none 0 0,.slice none 0 0] 79)):=((Below.refl _ _).alloc (Nat.le_refl _) _).alloc (by simp) _
 have HB2:=hide hb2
 clear hb2
 go_enter Tryz.func79,Tryz.ntmps79
 go_wp2_with fail
 refine (wrong_any _ _ _ _ ds _ _ _ ss _ (HD.out.below HB2.out) (HS.out.below HB2.out)).mono ?_
 rintro e w1 ⟨rfl,hb⟩
 rw [HW.out]
 have HB:=hide (Below.on HB2.out hb)
 have hV1:ViewAt w1 w.heap.size (.int .i64 s) (.slice da dl dc) (.slice sa sl sc):=((ViewAt.new w _ _ _).alloc _).below hb
 have hR1:ViewAt w1 (w.heap.size+1) (.int .i64 0) (.slice none 0 0) (.slice none 0 0):=by
  have:=(ViewAt.new (w.alloc (.cells #[.int .i64 s,.slice da dl dc,.slice sa sl sc] 79)) (.int .i64 0) (.slice none 0 0) (.slice none 0 0)).below hb
  simpa using this
 obtain ⟨⟨v0,v1,v2⟩,_⟩:=hV1.cells
 obtain ⟨⟨r0,r1,r2⟩,rf0,rf1,rf2⟩:=hR1.cells
 clear hb hV1 hR1
 go_wp2_with fail
 refine (size_any _ _ _ es _ (HE.out.below HB.out)).mono ?_
 rintro e w2 ⟨rfl,hw⟩
 obtain rfl:=hw.symm
 clear hw
 go_wp2
 refine bodyPost_ret (v:=.tuple #[.agg #[.int .i64 0,.slice none 0 0,.slice none 0 0],.int .i64 (sizeE es)]) (by simp [results,Tryz.results79,go_sem,r0,r1,r2]) rfl ⟨rfl,below_put HB.out (by omega)⟩
theorem spread_shape (s:Int) (da:Option Addr) (dl dc:Nat) (ds:List Int) (sa:Option Addr) (sl sc:Nat) (ss:List Int) (ea:Option Addr) (el ec:Nat) (es:List Int) (pa:Option Addr) (pl pc:Nat) (ps:List Int) (w:World)
 (hd:Ints w da dl ds) (hs:Ints w sa sl ss) (he:Ints w ea el es) (hp:Ints w pa pl ps) (hW:wrongE s ds ss=0) (hE:sizeE es=0) (h6:el<=6) (hP:¬ (pl=dl/\RiseOk ps el)) :
 Calls Tryz.prog 79 #[.agg #[.int .i64 s,.slice da dl dc,.slice sa sl sc],.slice ea el ec,.slice pa pl pc] w fun e w'=>e=.returned (.tuple #[.agg #[.int .i64 0,.slice none 0 0,.slice none 0 0],.int .i64 6])/\Below w.heap.size w w':=by
 have HD:=hide hd
 have HS:=hide hs
 have HE:=hide he
 have HW:=hide hW
 have HZ:=hide hE
 have HP:=hide hp
 have HPO:=hide hP
 clear hd hs he hp hW hE hP
 have hb2:Below w.heap.size w ((w.alloc (.cells #[.int .i64 s,.slice da dl dc,.slice sa sl sc] 79)).alloc (.cells #[.int .i64 0,.slice none 0 0,.slice none 0 0] 79)):=((Below.refl _ _).alloc (Nat.le_refl _) _).alloc (by simp) _
 have HB2:=hide hb2
 clear hb2
 go_enter Tryz.func79,Tryz.ntmps79
 go_wp2_with fail
 refine (wrong_any _ _ _ _ ds _ _ _ ss _ (HD.out.below HB2.out) (HS.out.below HB2.out)).mono ?_
 rintro e w1 ⟨rfl,hb⟩
 rw [HW.out]
 have HB:=hide (Below.on HB2.out hb)
 have hV1:ViewAt w1 w.heap.size (.int .i64 s) (.slice da dl dc) (.slice sa sl sc):=((ViewAt.new w _ _ _).alloc _).below hb
 have hR1:ViewAt w1 (w.heap.size+1) (.int .i64 0) (.slice none 0 0) (.slice none 0 0):=by
  have:=(ViewAt.new (w.alloc (.cells #[.int .i64 s,.slice da dl dc,.slice sa sl sc] 79)) (.int .i64 0) (.slice none 0 0) (.slice none 0 0)).below hb
  simpa using this
 obtain ⟨⟨v0,v1,v2⟩,_⟩:=hV1.cells
 obtain ⟨⟨r0,r1,r2⟩,rf0,rf1,rf2⟩:=hR1.cells
 clear hb hV1 hR1
 go_wp2_with fail
 refine (size_any _ _ _ es _ (HE.out.below HB.out)).mono ?_
 rintro e w2 ⟨rfl,hw⟩
 obtain rfl:=hw.symm
 clear hw
 rw [HZ.out]
 by_cases e1:pl=dl
 · subst e1
   go_wp2_with fail
   refine (rises_any _ _ _ ps el _ (HP.out.below HB.out) h6).mono ?_
   rintro e w2 ⟨⟨r,rfl,hr⟩,hw⟩
   obtain rfl:=hw.symm
   obtain rfl:r=false:=by
    cases r with
    | true=>exact absurd (hr.1 rfl) (fun h=>HPO.out ⟨by simp,h⟩)
    | false=>rfl
   clear hr hw
   go_wp2
   refine bodyPost_ret (v:=.tuple #[.agg #[.int .i64 0,.slice none 0 0,.slice none 0 0],.int .i64 6]) (by simp [results,Tryz.results79,go_sem,r0,r1,r2]) rfl ⟨rfl,below_put HB.out (by omega)⟩
 · have e1':((pl:Int) != (dl:Int))=true:=by simp;omega
   clear e1
   go_wp2
   refine bodyPost_ret (v:=.tuple #[.agg #[.int .i64 0,.slice none 0 0,.slice none 0 0],.int .i64 6]) (by simp [results,Tryz.results79,go_sem,r0,r1,r2]) rfl ⟨rfl,below_put HB.out (by omega)⟩
theorem spread_any (s:Int) (da:Option Addr) (dl dc:Nat) (ds:List Int) (sa:Option Addr) (sl sc:Nat) (ss:List Int) (ea:Option Addr) (el ec:Nat) (es:List Int) (pa:Option Addr) (pl pc:Nat) (ps:List Int) (w:World)
 (hd:Ints w da dl ds) (hs:Ints w sa sl ss) (he:Ints w ea el es) (hp:Ints w pa pl ps) :
 Calls Tryz.prog 79 #[.agg #[.int .i64 s,.slice da dl dc,.slice sa sl sc],.slice ea el ec,.slice pa pl pc] w fun e w'=>GivesF w ea e w' (okS (sprE s ds ss es ps) s) (okL (sprE s ds ss es ps) es) (okL (sprE s ds ss es ps) (sprS es.length ss ps)) (sprE s ds ss es ps)/\Below w.heap.size w w':=by
 by_cases hW:wrongE s ds ss≠0
 · have e:sprE s ds ss es ps=wrongE s ds ss:=by simp [sprE,hW]
   rw [e]
   refine (spread_wrong s da dl dc ds sa sl sc ss ea el ec es pa pl pc w hd hs hW).mono ?_
   rintro e w' ⟨rfl,hb⟩
   simp only [okS,okL,if_neg hW]
   exact ⟨givesF_none _ _ _ _,hb⟩
 replace hW:wrongE s ds ss=0:=by simpa using hW
 by_cases hE:sizeE es≠0
 · have e:sprE s ds ss es ps=sizeE es:=by simp [sprE,hW,hE]
   rw [e]
   refine (spread_size s da dl dc ds sa sl sc ss ea el ec es pa pl pc w hd hs he hW hE).mono ?_
   rintro e w' ⟨rfl,hb⟩
   simp only [okS,okL,if_neg hE]
   exact ⟨givesF_none _ _ _ _,hb⟩
 replace hE:sizeE es=0:=by simpa using hE
 obtain ⟨w1,w2,_⟩:=wrongE_ok hW
 have h6:=(sizeE_ok w1).1
 have h6e:=(sizeE_ok hE).1
 have ld:=hd.1
 have ls:=hs.1
 have le:=he.1
 have lp:=hp.1
 by_cases hP:pl=dl/\RiseOk ps el
 · obtain ⟨rfl,hr⟩:=hP
   obtain rfl:sl=pl:=by omega
   refine (spread_ok s da sl dc ds sa sc ss ea el ec es pa pc ps w hd hs he hp hW hE hr (by omega) (by omega)).mono ?_
   rintro e w' ⟨h,hb⟩
   refine ⟨?_,hb⟩
   have er:ps.length=ds.length/\riseB ps es.length=true:=⟨by omega,by rw [le];exact (riseB_iff ps el).2 hr⟩
   rw [SprPost] at h
   by_cases hA:anyMis ds es ps=true
   · rw [if_pos hA] at h
     have e:sprE s ds ss es ps=6:=by simp [sprE,hW,hE,er,hA]
     rw [e];exact h
   · rw [if_neg hA] at h
     have e:sprE s ds ss es ps=0:=by simp [sprE,hW,hE,er,hA]
     rw [e];exact h
 · have e:sprE s ds ss es ps=6:=by
    have:¬ (ps.length=ds.length/\riseB ps es.length=true):=fun h=>hP ⟨by omega,by have:=h.2;rw [le] at this;exact (riseB_iff ps el).1 this⟩
    simp only [sprE,hW,hE,if_neg this]
    simp
   rw [e]
   refine (spread_shape s da dl dc ds sa sl sc ss ea el ec es pa pl pc ps w hd hs he hp hW hE (by omega) hP).mono ?_
   rintro e w' ⟨rfl,hb⟩
   exact ⟨givesF_none _ _ _ _,hb⟩
theorem turn_okF (s:Int) (da:Option Addr) (dl dc:Nat) (ds:List Int) (sa:Option Addr) (sc:Nat) (ss:List Int) (a:Option Addr) (cap:Nat) (ps:List Int) (w:World)
 (hd:Ints w da dl ds) (hs:Ints w sa dl ss) (hp:Ints w a dl ps) (hW:wrongE s ds ss=0) (hP:PermOk ps dl) (h6:dl<=6) :
 Calls Tryz.prog 80 #[.agg #[.int .i64 s,.slice da dl dc,.slice sa dl sc],.slice a dl cap] w fun e w'=>(∃ g1 g2:Nat,e=.returned (.tuple #[.agg #[.int .i64 s,.slice (some ⟨g1,0,none⟩) dl dl,.slice (some ⟨g2,0,none⟩) dl dl],.int .i64 0])/\(w.heap.size<=g1/\w.heap.size<=g2)/\Ints w' (some ⟨g1,0,none⟩) dl (taken ds ps)/\Ints w' (some ⟨g2,0,none⟩) dl (taken ss ps))/\Below w.heap.size w w':=by
 have HD:=hide hd
 have HS:=hide hs
 have HP:=hide hp
 have HW:=hide hW
 have HPO:=hide hP
 clear hd hs hp hW hP
 have hb2:Below w.heap.size w ((w.alloc (.cells #[.int .i64 s,.slice da dl dc,.slice sa dl sc] 79)).alloc (.cells #[.int .i64 0,.slice none 0 0,.slice none 0 0] 79)):=((Below.refl _ _).alloc (Nat.le_refl _) _).alloc (by simp) _
 have HB2:=hide hb2
 clear hb2
 go_enter Tryz.func80,Tryz.ntmps80
 go_wp2_with fail
 refine (wrong_any _ _ _ _ ds _ _ _ ss _ (HD.out.below HB2.out) (HS.out.below HB2.out)).mono ?_
 rintro e w1 ⟨rfl,hb⟩
 rw [HW.out]
 have HB:=hide (Below.on HB2.out hb)
 have hV1:ViewAt w1 w.heap.size (.int .i64 s) (.slice da dl dc) (.slice sa dl sc):=((ViewAt.new w _ _ _).alloc _).below hb
 have hR1:ViewAt w1 (w.heap.size+1) (.int .i64 0) (.slice none 0 0) (.slice none 0 0):=by
  have:=(ViewAt.new (w.alloc (.cells #[.int .i64 s,.slice da dl dc,.slice sa dl sc] 79)) (.int .i64 0) (.slice none 0 0) (.slice none 0 0)).below hb
  simpa using this
 have HV1:=hide hV1
 have HR1:=hide hR1
 obtain ⟨⟨v0,v1,v2⟩,_⟩:=hV1.cells
 clear hb hV1 hR1
 go_wp2_with fail
 refine (permutes_any _ _ _ ps dl _ (HP.out.below HB.out) h6).mono ?_
 rintro e w2 ⟨⟨r,rfl,hr⟩,hb⟩
 obtain rfl:r=true:=hr.2 HPO.out
 have HBa:=hide (Below.on HB.out hb)
 have HV2:=hide (HV1.out.below hb)
 have HR2:=hide (HR1.out.below hb)
 obtain ⟨⟨v0',v1',v2'⟩,_⟩:=HV2.out.cells
 clear hb hr v0 v1 v2
 go_wp2_with fail
 refine (blank_any _ _ _ _ ds _ (HD.out.below HBa.out) h6).mono ?_
 rintro e w3 ⟨⟨g1,g2,rfl,⟨hr1,hr2⟩,hne,hg1,hg2⟩,hb⟩
 have HBb:=hide (Below.on HBa.out hb)
 have HV3:=hide (HV2.out.below hb)
 have HR3:=hide (HR2.out.below hb)
 have HR1':=hide hr1
 have HR2':=hide hr2
 have hlt1:=hr1.lt
 have hlt2:=hr2.lt
 have hsz:=HR2.out.lt
 clear hb hr1 hr2 v0' v1' v2'
 go_wp2_with fail
 go_loopw [30] (fun i wr=>∃ k:Nat,k<=dl/\i=.int .i64 k/\(wr.rowIs g1 3 dl (onWay (taken ds ps) ds k)/\wr.rowIs g2 3 dl (onWay (taken ss ps) [] k))/\(ViewAt wr w.heap.size (.int .i64 s) (.slice da dl dc) (.slice sa dl sc)/\ViewAt wr (w.heap.size+1) (.int .i64 0) (.slice none 0 0) (.slice none 0 0)/\ViewAt wr w3.heap.size (.int .i64 s) (.slice (some ⟨g1,0,none⟩) dl dl) (.slice (some ⟨g2,0,none⟩) dl dl))/\Below w.heap.size w wr) (fun i _=>dl-(intOf i).toNat)
 case atStart =>
  refine ⟨0,Nat.zero_le _,rfl,⟨onWay_zero (HR1'.out.alloc _),?_⟩,⟨HV3.out.alloc _,HR3.out.alloc _,ViewAt.new w3 _ _ _⟩,HBb.out.alloc HBb.out.size _⟩
  exact (HR2'.out.alloc _).congr (fun j _=>by simp [onWay])
 case round =>
  obtain ⟨k,hk,rfl,⟨hr1,hr2⟩,⟨hv,hrr,ho⟩,hB⟩:=hrel
  have HQ1:=hide hr1
  have HQ2:=hide hr2
  have HV:=hide hv
  have HRR:=hide hrr
  have HO:=hide ho
  have HBw:=hide hB
  clear hr1 hr2 hv hrr ho hB
  by_cases hlt:k<dl
  · obtain ⟨pb,poff,rfl,hpb,hpc⟩:=HP.out.at (by omega)
    obtain ⟨db,doff,rfl,hdb,hdc⟩:=HD.out.at (by omega)
    obtain ⟨sb,soff,rfl,hsb,hsc⟩:=HS.out.at (by omega)
    have hpo:=HPO.out.2 k hlt
    obtain ⟨m,hm⟩:∃ m:Nat,ps[k]?.getD 0=(m:Int):=⟨(ps[k]?.getD 0).toNat,by omega⟩
    have hmlt:m<dl:=by omega
    have cp:wr.cell? ⟨pb,poff+k,none⟩=some (.int .i64 (m:Int)):=by rw [<-hm];exact (HBw.out.cell (p:=⟨pb,poff+k,none⟩) hpb).trans (hpc k hlt)
    have cd:wr.cell? ⟨db,doff+m,none⟩=some (.int .i64 (ds[m]?.getD 0)):=(HBw.out.cell (p:=⟨db,doff+m,none⟩) hdb).trans (hdc m hmlt)
    have cs:wr.cell? ⟨sb,soff+m,none⟩=some (.int .i64 (ss[m]?.getD 0)):=(HBw.out.cell (p:=⟨sb,soff+m,none⟩) hsb).trans (hsc m hmlt)
    have HPL:Hid (k<ps.length):=by rw [Hid,HPO.out.1];exact hlt
    have HM:=hide hm
    obtain ⟨⟨v0,v1,v2⟩,_⟩:=HV.out.cells
    obtain ⟨⟨o0,o1,o2⟩,_⟩:=HO.out.cells
    have c1:=HQ1.out.cell hlt
    have f1:=HQ1.out.frozen k
    have c2:=HQ2.out.cell hlt
    have f2:=HQ2.out.frozen k
    have i1:(0:Int)<=(k:Int):=Int.natCast_nonneg _
    have i2:(k:Int)<(dl:Int):=by omega
    have i3:(0:Int)<=(m:Int):=Int.natCast_nonneg _
    have i4:(m:Int)<(dl:Int):=by omega
    clear hpc hdc hsc hm hpo
    go_wp2_with fail
    go_region
    go_wp2
    go_roundw
    case rel =>
     have hg1:g1≠w3.heap.size:=by omega
     have hg2:g2≠w3.heap.size:=by omega
     have e1:=taken_getD ds ps k m HPL.out HM.out
     have e2:=taken_getD ss ps k m HPL.out HM.out
     refine ⟨k+1,by omega,by go_num,⟨?_,?_⟩,⟨?_,?_,?_⟩,?_⟩
     · refine ((HQ1.out.set k (.int .i64 (ds[m]?.getD 0))).setOther (a:=⟨g2,k,none⟩) hne _).congr (fun j _=>?_)
       rw [<-e1];exact onWay_succ _ _ k j
     · refine ((HQ2.out.setOther (a:=⟨g1,k,none⟩) (Ne.symm hne) _).set k (.int .i64 (ss[m]?.getD 0))).congr (fun j _=>?_)
       rw [<-e2];exact onWay_succ _ _ k j
     · exact (HV.out.set (p:=⟨g1,k,none⟩) (by simp;omega) _).set (p:=⟨g2,k,none⟩) (by simp;omega) _
     · exact (HRR.out.set (p:=⟨g1,k,none⟩) (by simp;omega) _).set (p:=⟨g2,k,none⟩) (by simp;omega) _
     · exact (HO.out.set (p:=⟨g1,k,none⟩) (by simp;omega) _).set (p:=⟨g2,k,none⟩) (by simp;omega) _
     · exact ((HBw.out.setCell (p:=⟨g1,k,none⟩) (by simp;omega) _).setCell (p:=⟨g2,k,none⟩) (by simp;omega) _).drew
    case measure=>simp [intOf];omega
  · obtain rfl:k=dl:=by omega
    obtain ⟨⟨o0,o1,o2⟩,_⟩:=HO.out.cells
    have hfar:beyondB s (taken ss ps)=false:=turn_far HW.out HPO.out (by have:=HS.out.1;omega)
    have HF:=hide hfar
    have hi1:Ints wr (some ⟨g1,0,none⟩) k (taken ds ps):=ints_of_rowI (onWay_all HQ1.out) (by rw [taken_length,HPO.out.1]) (by omega) (taken_bd HD.out.2.2.1)
    have hi2:Ints wr (some ⟨g2,0,none⟩) k (taken ss ps):=ints_of_rowI (onWay_all HQ2.out) (by rw [taken_length,HPO.out.1]) (by omega) (taken_bd HS.out.2.2.1)
    have HI1:=hide hi1
    have HI2:=hide hi2
    clear hfar hi1 hi2
    go_wp2_with fail
    refine (reached_any _ _ _ _ _ _ _ (taken ss ps) _ HI2.out).mono ?_
    rintro e w4 ⟨rfl,hb⟩
    rw [if_neg (by rw [HF.out];simp)]
    have HBc:=hide (Below.on HBw.out hb)
    have HRR4:=hide (HRR.out.below hb)
    have HI1':=hide (HI1.out.below hb)
    have HI2':=hide (HI2.out.below hb)
    obtain ⟨⟨r0,r1,r2⟩,rf0,rf1,rf2⟩:=HRR4.out.cells
    clear hb o0 o1 o2
    go_wp2
    refine bodyPost_ret (v:=.tuple #[.agg #[.int .i64 s,.slice (some ⟨g1,0,none⟩) k k,.slice (some ⟨g2,0,none⟩) k k],.int .i64 0]) (by simp [results,Tryz.results80,go_sem,r0,r1,r2]) rfl ⟨⟨g1,g2,rfl,⟨by omega,by omega⟩,?_,?_⟩,?_⟩
    · exact ints_set3 HI1'.out (by omega)
    · exact ints_set3 HI2'.out (by omega)
    · exact ((HBc.out.setCell (p:=⟨w.heap.size+1,0,none⟩) (by simp) _).setCell (p:=⟨w.heap.size+1,1,none⟩) (by simp) _).setCell (p:=⟨w.heap.size+1,2,none⟩) (by simp) _
theorem turn_anyF (s:Int) (da:Option Addr) (dl dc:Nat) (ds:List Int) (sa:Option Addr) (sl sc:Nat) (ss:List Int) (a:Option Addr) (len cap:Nat) (ps:List Int) (w:World)
 (hd:Ints w da dl ds) (hs:Ints w sa sl ss) (hp:Ints w a len ps) :
 Calls Tryz.prog 80 #[.agg #[.int .i64 s,.slice da dl dc,.slice sa sl sc],.slice a len cap] w fun e w'=>GivesF w da e w' (okS (turnE s ds ss ps) s) (okL (turnE s ds ss ps) (taken ds ps)) (okL (turnE s ds ss ps) (taken ss ps)) (turnE s ds ss ps)/\Below w.heap.size w w':=by
 by_cases hW:wrongE s ds ss≠0
 · have e:turnE s ds ss ps=wrongE s ds ss:=by simp [turnE,hW]
   rw [e]
   refine (turn_wrong s da dl dc ds sa sl sc ss a len cap w hd hs hW).mono ?_
   rintro e w' ⟨rfl,hb⟩
   simp only [okS,okL,if_neg hW]
   exact ⟨givesF_none _ _ _ _,hb⟩
 replace hW:wrongE s ds ss=0:=by simpa using hW
 obtain ⟨w1,w2,_⟩:=wrongE_ok hW
 have h6:=(sizeE_ok w1).1
 have ld:=hd.1
 have ls:=hs.1
 by_cases hP:PermOk ps dl
 · have e:turnE s ds ss ps=0:=by simp [turnE,hW,ld,(permB_iff ps dl).2 hP]
   rw [e]
   obtain rfl:sl=dl:=by omega
   obtain rfl:len=sl:=by rw [<-hp.1];exact hP.1
   refine (turn_okF s da len dc ds sa sc ss a cap ps w hd hs hp hW hP (by omega)).mono ?_
   rintro e w' ⟨⟨g1,g2,rfl,⟨l1,l2⟩,h1,h2⟩,hb⟩
   simp only [okS,okL]
   exact ⟨⟨_,_,_,_,_,_,rfl,h1,h2,⟨Nat.le_refl _,Nat.le_refl _⟩,.inr (far_some l1),far_some l2⟩,hb⟩
 · have e:turnE s ds ss ps=6:=by
    have:permB ps dl=false:=by
     cases c:permB ps dl with
     | true=>exact absurd ((permB_iff ps dl).1 c) hP
     | false=>rfl
    simp [turnE,hW,ld,this]
   rw [e]
   refine (turn_shape s da dl dc ds sa sl sc ss a len cap ps w hd hs hp hW hP (by omega)).mono ?_
   rintro e w' ⟨rfl,hb⟩
   exact ⟨givesF_none _ _ _ _,hb⟩
theorem kept_eq {l h t:Int} {k:Nat} (h1:h<=l+k*t) (h2:(k=0/\l<=h)\/l+k*t-t<h) (ht:1<=t):keptN l h t=(k:Int):=by
 unfold keptN
 have e:h-l+t-1=(h-l+t-1-k*t)+t*k:=by rw [Int.mul_comm t];omega
 have hr:0<=h-l+t-1-k*t/\h-l+t-1-k*t<t:=by
  refine ⟨?_,by omega⟩
  rcases h2 with ⟨rfl,h2⟩ | h2
  · simp;omega
  · omega
 rw [e,Int.add_mul_ediv_left _ _ (by omega),Int.ediv_eq_zero_of_lt hr.1 hr.2]
 omega
theorem kept_any (l h t:Int) (w:World) (h1:0<=l) (h2:l<=h) (h3:h<=4096) (h4:1<=t) (h5:t<=4096) :
 Calls Tryz.prog 93 #[.int .i64 l,.int .i64 h,.int .i64 t] w fun e w'=>e=.returned (.int .i64 (keptN l h t))/\w'=w:=by
 go_enter Tryz.func93,Tryz.ntmps93
 go_wp2
 go_loop [7,8] (fun n i=>∃ (k:Nat) (I:Int),n=.int .i64 k/\i=.int .i64 I/\I=l+k*t/\((k=0/\I=l)\/I-t<h)/\((k:Int)<=I/\l<=I)) (fun _ i=>(h-intOf i).toNat)
 case atStart=>exact ⟨0,l,rfl,rfl,by simp,.inl ⟨rfl,rfl⟩,by simp;exact h1,by omega⟩
 case round =>
  obtain ⟨k,I,rfl,rfl,hI,hor,hkI,hlI⟩:=hrel
  have HI:=hide hI
  have HOR:=hide hor
  clear hI hor
  have hI2:I<=8192:=by have:=HOR.out;omega
  by_cases hlt:I<h
  · have w1':IntKind.i64.wrap (I+t)=I+t:=wrap_in _ (by omega) (by omega)
    have w2':IntKind.i64.wrap ((k:Int)+1)=(k:Int)+1:=wrap_in _ (by omega) (by omega)
    go_wp2
    go_round
    case rel =>
     refine ⟨k+1,I+t,by simp,rfl,?_,.inr (by omega),by omega,by omega⟩
     rw [HI.out];simp [Int.add_mul];omega
    case measure=>simp [intOf];omega
  · go_wp2
    go_ret
    have e:=kept_eq (l:=l) (h:=h) (t:=t) (k:=k) (by rw [<-HI.out];omega) (by rw [<-HI.out];have:=HOR.out;omega) h4
    rw [e];exact ⟨rfl,rfl⟩
end Go.Proofs.YtakpedjhgdkhkaaGreatDoor.V
