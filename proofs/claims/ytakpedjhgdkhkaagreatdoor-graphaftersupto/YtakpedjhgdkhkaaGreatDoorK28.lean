import Derived.Test.YtakpedjhgdkhkaaGreatDoorK27
import Derived.Test.YtakpedjhgdkhkaaGreatDoorK15
import Derived.Test.YtakpedjhgdkhkaaGreatDoorK12
import Derived.Test.YtakpedjhgdkhkaaGreatDoorK25
namespace Go.Proofs.YtakpedjhgdkhkaaGreatDoor.V
set_option maxRecDepth 100000
set_option maxHeartbeats 8000000
open Go.RowKit
def padBad (lo hi st:List Int) (j:Nat):Bool:=decide (lo[j]?.getD 0<0) || (decide (4096<lo[j]?.getD 0) || (decide (hi[j]?.getD 0<0) || (decide (4096<hi[j]?.getD 0) || (decide (st[j]?.getD 0<1) || decide (4096<st[j]?.getD 0)))))
def anyPad (n:Nat) (lo hi st:List Int):Bool:=(List.range n).any (padBad lo hi st)
def padV (ds lo hi st:List Int) (j:Nat):Int:=lo[j]?.getD 0+hi[j]?.getD 0+(if 0<ds[j]?.getD 0 then (ds[j]?.getD 0-1)*st[j]?.getD 0+1 else 0)
def padD (ds lo hi st:List Int):List Int:=(List.range ds.length).map (padV ds lo hi st)
def padP (ds lo hi st:List Int):List Int × Int:=if lensB ds.length lo hi st=true then (if anyPad ds.length lo hi st=true then ([],4) else (padD ds lo hi st,0)) else ([],6)
theorem padD_length (ds lo hi st:List Int):(padD ds lo hi st).length=ds.length:=by simp [padD]
theorem padD_getD (ds lo hi st:List Int) (k:Nat) (h:k<ds.length):(padD ds lo hi st)[k]?.getD 0=padV ds lo hi st k:=by simp [padD,h]
theorem padV_bd {ds lo hi st:List Int} {j:Nat} (hd:0<=ds[j]?.getD 0/\ds[j]?.getD 0<=4096) (hb:padBad lo hi st j=false):0<=padV ds lo hi st j/\padV ds lo hi st j<=33554432:=by
 simp [padBad] at hb
 unfold padV
 split
 · have h1:0<=(ds[j]?.getD 0-1)*st[j]?.getD 0:=Int.mul_nonneg (by omega) (by omega)
   have h2:(ds[j]?.getD 0-1)*st[j]?.getD 0<=4096*4096:=Int.mul_le_mul (by omega) (by omega) (by omega) (by omega)
   omega
 · omega
theorem within_any (n l:Int) (w:World):Calls Tryz.prog 86 #[.int .i64 n,.int .i64 l] w fun e w'=>e=.returned (.bool (decide (l<=n) && decide (n<=4096)))/\w'=w:=by
 by_cases c:l<=n
 · by_cases d:n<=4096
   · have e:(decide (l<=n) && decide (n<=4096))=true:=by simp [c,d]
     rw [e]
     go_enter Tryz.func86,Tryz.ntmps86
     go_wp2
     go_ret
     exact ⟨rfl,rfl⟩
   · have e:(decide (l<=n) && decide (n<=4096))=false:=by simp [d]
     rw [e]
     have d':decide (n<=4096)=false:=decide_eq_false d
     clear d e
     go_enter Tryz.func86,Tryz.ntmps86
     go_wp2
     go_ret
     exact ⟨rfl,rfl⟩
 · have e:(decide (l<=n) && decide (n<=4096))=false:=by simp [c]
   rw [e]
   go_enter Tryz.func86,Tryz.ntmps86
   go_wp2
   go_ret
   exact ⟨rfl,rfl⟩
theorem padDims_any (k x:Int) (vd va:Value) (la:Option Addr) (ll lc:Nat) (lo:List Int) (ha:Option Addr) (hl hc:Nat) (hi:List Int) (ta:Option Addr) (tl tc:Nat) (st:List Int) (da:Option Addr) (dl dc:Nat) (ds:List Int) (w:World)
 (hlo:Ints w la ll lo) (hhi:Ints w ha hl hi) (hst:Ints w ta tl st) (hd:Ints w da dl ds) (hz:sizeE ds=0) :
 Calls Tryz.prog 62 #[.agg #[.int .i64 k,vd,va,.slice la ll lc,.slice ha hl hc,.slice ta tl tc,.int .i64 x],.slice da dl dc] w fun e w'=>OutP e w' (padP ds lo hi st)/\Below w.heap.size w w':=by
 have HLO:=hide hlo
 have HHI:=hide hhi
 have HST:=hide hst
 have HD:=hide hd
 have HN:=hide hd.1
 have HZ:=hide (sizeE_ok hz).2.1
 have h6:dl<=6:=by have:=(sizeE_ok hz).1;have:=hd.1;omega
 have hmk:=run_make_row' (P:=Tryz.prog) 23 3 (.int .i64 0) 8 Tryz.underlying23 info_int rfl .i64 .i64 dl (by omega) (by omega)
 have HB1:=hide ((Below.refl w.heap.size w).alloc (Nat.le_refl _) (.cells #[.int .i64 k,vd,va,.slice la ll lc,.slice ha hl hc,.slice ta tl tc,.int .i64 x] 38))
 have HOP:=hide (OpAt.new w k vd va (.slice la ll lc) (.slice ha hl hc) (.slice ta tl tc) x)
 have e1:=hlo.1
 have e2:=hhi.1
 have e3:=hst.1
 have e4:=hd.1
 clear hlo hhi hst hd hz
 by_cases cl:ll=dl/\hl=dl/\tl=dl
 case neg =>
  have hp:padP ds lo hi st=([],6):=by
   unfold padP lensB
   rw [e1,e2,e3,e4,if_neg]
   simp only [Bool.and_eq_true,decide_eq_true_eq];exact cl
  rw [hp]
  clear hp e1 e2 e3 e4
  by_cases q1:ll=dl
  · by_cases q2:hl=dl
    · have q3:((tl:Int) != (dl:Int))=true:=by simp;omega
      subst q1
      subst q2
      clear cl
      go_enter Tryz.func62,Tryz.ntmps62
      go_wp2
      go_ret2
      exact ⟨outP_none _ _,HB1.out⟩
    · have q3:((hl:Int) != (dl:Int))=true:=by simp;omega
      subst q1
      clear cl q2
      go_enter Tryz.func62,Tryz.ntmps62
      go_wp2
      go_ret2
      exact ⟨outP_none _ _,HB1.out⟩
  · have q3:((ll:Int) != (dl:Int))=true:=by simp;omega
    clear cl q1
    go_enter Tryz.func62,Tryz.ntmps62
    go_wp2
    go_ret2
    exact ⟨outP_none _ _,HB1.out⟩
 obtain ⟨q1,q2,q3⟩:=cl
 have hp:padP ds lo hi st=if anyPad ds.length lo hi st=true then ([],4) else (padD ds lo hi st,0):=by
  unfold padP lensB
  rw [e1,e2,e3,e4,if_pos]
  simp only [Bool.and_eq_true,decide_eq_true_eq];exact ⟨q1,q2,q3⟩
 have HPP:=hide hp
 obtain rfl:=q1
 obtain rfl:=q2
 obtain rfl:=q3
 clear hp e1 e2 e3 e4
 go_enter Tryz.func62,Tryz.ntmps62
 go_wp2
 go_loopw [36] (fun i wr=>∃ m:Nat,m<=tl/\i=.int .i64 m/\OpAt wr w.heap.size k vd va (.slice la tl lc) (.slice ha tl hc) (.slice ta tl tc) x/\wr.rowIs (w.heap.size+1) 3 tl (onWay (padD ds lo hi st) [] m)/\(∀ j,j<m->padBad lo hi st j=false)/\Below w.heap.size w wr) (fun i _=>tl-(intOf i).toNat)
 case atStart =>
  have hr:=World.rowIs_made (w.alloc (.cells #[.int .i64 k,vd,va,.slice la tl lc,.slice ha tl hc,.slice ta tl tc,.int .i64 x] 38)) (.int .i64 0) tl 3
  simp only [World.size_alloc] at hr
  exact ⟨0,Nat.zero_le _,rfl,HOP.out.alloc _,hr.congr (fun j _=>by simp [onWay]),fun j hj=>by omega,HB1.out.alloc HB1.out.size _⟩
 case round =>
  obtain ⟨m,hm,rfl,hop,hrow,hgood,hB⟩:=hrel
  have HO:=hide hop
  have HR:=hide hrow
  have HG:=hide hgood
  have HB:=hide hB
  clear hop hrow hgood hB hmk
  by_cases hlt:m<tl
  · obtain ⟨lb,lof,rfl,hlb,hlc⟩:=HLO.out.at (by omega)
    obtain ⟨hb,hof,rfl,hhb,hhc⟩:=HHI.out.at (by omega)
    obtain ⟨tb,tof,rfl,htb,htc⟩:=HST.out.at (by omega)
    obtain ⟨db,dof,rfl,hdb,hdc⟩:=HD.out.at (by omega)
    obtain ⟨L,hL⟩:∃ L,L=lo[m]?.getD 0:=⟨_,rfl⟩
    obtain ⟨U,hU⟩:∃ U,U=hi[m]?.getD 0:=⟨_,rfl⟩
    obtain ⟨T,hT⟩:∃ T,T=st[m]?.getD 0:=⟨_,rfl⟩
    obtain ⟨D,hD⟩:∃ D,D=ds[m]?.getD 0:=⟨_,rfl⟩
    have cl:wr.cell? ⟨lb,lof+m,none⟩=some (.int .i64 L):=by rw [hL];exact (HB.out.cell (p:=⟨lb,lof+m,none⟩) hlb).trans (hlc m hlt)
    have ch:wr.cell? ⟨hb,hof+m,none⟩=some (.int .i64 U):=by rw [hU];exact (HB.out.cell (p:=⟨hb,hof+m,none⟩) hhb).trans (hhc m hlt)
    have ct:wr.cell? ⟨tb,tof+m,none⟩=some (.int .i64 T):=by rw [hT];exact (HB.out.cell (p:=⟨tb,tof+m,none⟩) htb).trans (htc m hlt)
    have cd:wr.cell? ⟨db,dof+m,none⟩=some (.int .i64 D):=by rw [hD];exact (HB.out.cell (p:=⟨db,dof+m,none⟩) hdb).trans (hdc m hlt)
    have hDb:0<=D/\D<=4096:=by rw [hD];exact HZ.out _ (mem_getD ds m (by rw [HN.out];exact hlt))
    have HPB:Hid (padBad lo hi st m=(decide (L<0) || (decide (4096<L) || (decide (U<0) || (decide (4096<U) || (decide (T<1) || decide (4096<T))))))):=by rw [Hid,hL,hU,hT];rfl
    have HPV:Hid (padV ds lo hi st m=L+U+(if 0<D then (D-1)*T+1 else 0)):=by rw [Hid,hL,hU,hT,hD];rfl
    obtain ⟨o0,o1,o2,o3,o4,o5,o6⟩:=HO.out.cells
    have i1:(0:Int)<=(m:Int):=Int.natCast_nonneg _
    have i2:(m:Int)<(tl:Int):=by omega
    have HBAD:Hid (padBad lo hi st m=true->padP ds lo hi st=([],4)):=fun hb=>by
     rw [HPP.out,if_pos]
     unfold anyPad
     rw [List.any_eq_true]
     exact ⟨m,by rw [List.mem_range,HN.out];exact hlt,hb⟩
    clear hlc hhc htc hdc hL hU hT hD
    cases x1:(decide (0<=L) && decide (L<=4096)) with
    | false =>
     have X1:=hide x1
     clear x1
     go_wp2_with (go_at_call 86;refine (within_any _ _ _).mono ?_;rintro e w' ⟨rfl,hw'⟩;obtain rfl:=hw'.symm;rw [X1.out])
     go_ret2
     rw [HBAD.out (by have:=X1.out;rw [HPB.out];simp at this ⊢;omega)]
     exact ⟨outP_none _ _,HB.out⟩
    | true =>
    have X1:=hide x1
    clear x1
    cases x2:(decide (0<=U) && decide (U<=4096)) with
    | false =>
     have X2:=hide x2
     clear x2
     go_wp2_with (go_at_call 86;refine (within_any _ _ _).mono ?_;rintro e w' ⟨rfl,hw'⟩;obtain rfl:=hw'.symm;first | rw [X1.out] | rw [X2.out])
     go_ret2
     rw [HBAD.out (by have:=X2.out;rw [HPB.out];simp at this ⊢;omega)]
     exact ⟨outP_none _ _,HB.out⟩
    | true =>
    have X2:=hide x2
    clear x2
    cases x3:(decide (1<=T) && decide (T<=4096)) with
    | false =>
     have X3:=hide x3
     clear x3
     go_wp2_with (go_at_call 86;refine (within_any _ _ _).mono ?_;rintro e w' ⟨rfl,hw'⟩;obtain rfl:=hw'.symm;first | rw [X1.out] | rw [X2.out] | rw [X3.out])
     go_ret2
     rw [HBAD.out (by have:=X3.out;rw [HPB.out];simp at this ⊢;omega)]
     exact ⟨outP_none _ _,HB.out⟩
    | true =>
    have X3:=hide x3
    clear x3
    have HOK:Hid (padBad lo hi st m=false):=by
     have h1:=X1.out
     have h2:=X2.out
     have h3:=X3.out
     rw [Hid,HPB.out]
     simp at h1 h2 h3 ⊢;omega
    have cr:=HR.out.cell hlt
    have fr:=HR.out.frozen m
    have bL:0<=L/\L<=4096:=by have:=X1.out;simp at this;exact this
    have bU:0<=U/\U<=4096:=by have:=X2.out;simp at this;exact this
    have bT:1<=T/\T<=4096:=by have:=X3.out;simp at this;exact this
    go_wp2_with (go_at_call 86;refine (within_any _ _ _).mono ?_;rintro e w' ⟨rfl,hw'⟩;obtain rfl:=hw'.symm;first | rw [X1.out] | rw [X2.out] | rw [X3.out])
    go_region
    have HR1:=hide (HR.out.set m (.int .i64 (L+U)))
    have c1:((wr.setCell ⟨w.heap.size+1,m,none⟩ (.int .i64 (L+U))).drew).cell? ⟨w.heap.size+1,m,none⟩=some (.int .i64 (L+U)):=by
     have:=HR1.out.cell hlt
     simpa using this
    have f1:((wr.setCell ⟨w.heap.size+1,m,none⟩ (.int .i64 (L+U))).drew).frozen? ⟨w.heap.size+1,m,none⟩=false:=HR1.out.frozen m
    have HO1:Hid (OpAt ((wr.setCell ⟨w.heap.size+1,m,none⟩ (.int .i64 (L+U))).drew) w.heap.size k vd va (.slice (some ⟨lb,lof,none⟩) tl lc) (.slice (some ⟨hb,hof,none⟩) tl hc) (.slice (some ⟨tb,tof,none⟩) tl tc) x):=HO.out.set (p:=⟨w.heap.size+1,m,none⟩) (by simp) _
    have HB1':=hide ((HB.out.setCell (p:=⟨w.heap.size+1,m,none⟩) (by simp) (.int .i64 (L+U))).drew)
    have ct1:((wr.setCell ⟨w.heap.size+1,m,none⟩ (.int .i64 (L+U))).drew).cell? ⟨tb,tof+m,none⟩=some (.int .i64 T):=by
     have h1:=HB1'.out.cell (p:=⟨tb,tof+m,none⟩) htb
     have h2:=HB.out.cell (p:=⟨tb,tof+m,none⟩) htb
     rw [h1,<-h2];exact ct
    obtain ⟨p0,p1,p2,p3,p4,p5,p6⟩:=HO1.out.cells
    have hm1:0<=(D-1)*T\/D=0:=by
     by_cases e:D=0
     · exact .inr e
     · exact .inl (Int.mul_nonneg (by omega) (by omega))
    have hm2:(D-1)*T<=4096*4096\/D=0:=by
     by_cases e:D=0
     · exact .inr e
     · exact .inl (Int.mul_le_mul (by omega) bT.2 (by omega) (by omega))
    have HGS:Hid (∀ j,j<m+1->padBad lo hi st j=false):=fun j hj=>by
     by_cases e:j=m
     · rw [e];exact HOK.out
     · exact HG.out j (by omega)
    have HKD:Hid (m<ds.length):=by rw [Hid,HN.out];exact hlt
    by_cases cD:0<D
    · have hm3:0<=(D-1)*T:=by omega
      have hm4:(D-1)*T<=4096*4096:=by omega
      have HPV':Hid (padV ds lo hi st m=L+U+((D-1)*T+1)):=by rw [Hid,HPV.out,if_pos cD]
      clear hm1 hm2
      go_wp2_with fail
      go_region
      go_wp2
      go_roundw
      case rel =>
       refine ⟨m+1,by omega,by go_num,HO1.out.set (p:=⟨w.heap.size+1,m,none⟩) (by simp) _,?_,HGS.out,?_⟩
       · refine (HR1.out.set m (.int .i64 (L+U+((D-1)*T+1)))).congr (fun j _=>?_)
         have e1:=padD_getD ds lo hi st m HKD.out
         rw [<-onWay_succ,e1,HPV'.out]
         by_cases e:j=m<;>simp [e]
       · exact (HB1'.out.setCell (p:=⟨w.heap.size+1,m,none⟩) (by simp) _).drew
      case measure=>simp [intOf];omega
    · have HPV':Hid (padV ds lo hi st m=L+U):=by rw [Hid,HPV.out,if_neg cD];omega
      clear hm1 hm2
      go_wp2
      go_roundw
      case rel =>
       refine ⟨m+1,by omega,by go_num,HO1.out,?_,HGS.out,HB1'.out⟩
       refine HR1.out.congr (fun j _=>?_)
       have e1:=padD_getD ds lo hi st m HKD.out
       rw [<-onWay_succ,e1,HPV'.out]
      case measure=>simp [intOf];omega
  · obtain rfl:m=tl:=by omega
    have hp:padP ds lo hi st=(padD ds lo hi st,0):=by
     rw [HPP.out,if_neg]
     unfold anyPad
     rw [List.any_eq_true]
     rintro ⟨j,hj,hb⟩
     rw [List.mem_range,HN.out] at hj
     rw [HG.out j hj] at hb
     cases hb
    have HPF:=hide hp
    clear hp
    go_wp2
    go_ret2
    rw [HPF.out]
    refine ⟨outP_new (newAt_row (w:=w) (onWay_all HR.out) (by omega) (by rw [padD_length,HN.out]) (by omega) (fun y hy=>?_)) 0,HB.out⟩
    obtain ⟨j,hj,rfl⟩:=List.getElem_of_mem hy
    have hj':j<ds.length:=by rw [padD_length] at hj;exact hj
    have e1:=padD_getD ds lo hi st j hj'
    have e2:(padD ds lo hi st)[j]?.getD 0=(padD ds lo hi st)[j]:=by simp [hj]
    rw [<-e2,e1]
    have:=padV_bd (ds:=ds) (HZ.out _ (mem_getD ds j hj')) (HG.out j (by rw [HN.out] at hj';exact hj'))
    omega
theorem rpadDims_any (k x:Int) (vd va:Value) (la:Option Addr) (ll lc:Nat) (lo:List Int) (ha:Option Addr) (hl hc:Nat) (hi:List Int) (ta:Option Addr) (tl tc:Nat) (st:List Int) (da:Option Addr) (dl dc:Nat) (ds:List Int) (w:World)
 (hlo:Ints w la ll lo) (hhi:Ints w ha hl hi) (hst:Ints w ta tl st) (hd:Ints w da dl ds) (hz:sizeE ds=0) :
 Calls Tryz.prog 54 #[.agg #[.int .i64 k,vd,va,.slice la ll lc,.slice ha hl hc,.slice ta tl tc,.int .i64 x],.slice da dl dc] w fun e w'=>OutP e w' (padP ds lo hi st)/\Below w.heap.size w w':=by
 have HLO:=hide hlo
 have HHI:=hide hhi
 have HST:=hide hst
 have HD:=hide hd
 have HN:=hide hd.1
 have HZ:=hide (sizeE_ok hz).2.1
 have h6:dl<=6:=by have:=(sizeE_ok hz).1;have:=hd.1;omega
 obtain ⟨i0,hi0,hz0,hz1,hz2⟩:=info_parts info_int
 have HI:=hide hi0
 have HZ0:=hide hz0
 have HZ1:=hide hz1
 have HZ2:=hide hz2
 clear hi0 hz0 hz1 hz2
 have HB1:=hide ((Below.refl w.heap.size w).alloc (Nat.le_refl _) (.cells #[.int .i64 k,vd,va,.slice la ll lc,.slice ha hl hc,.slice ta tl tc,.int .i64 x] 38))
 have HOP:=hide (OpAt.new w k vd va (.slice la ll lc) (.slice ha hl hc) (.slice ta tl tc) x)
 have e1:=hlo.1
 have e2:=hhi.1
 have e3:=hst.1
 have e4:=hd.1
 clear hlo hhi hst hd hz
 by_cases cl:ll=dl/\hl=dl/\tl=dl
 case neg =>
  have hp:padP ds lo hi st=([],6):=by
   unfold padP lensB
   rw [e1,e2,e3,e4,if_neg]
   simp only [Bool.and_eq_true,decide_eq_true_eq];exact cl
  rw [hp]
  clear hp e1 e2 e3 e4
  by_cases q1:ll=dl
  · by_cases q2:hl=dl
    · have q3:((tl:Int) != (dl:Int))=true:=by simp;omega
      subst q1
      subst q2
      clear cl
      go_enter Tryz.func54,Tryz.ntmps54
      go_wp2
      go_ret2
      exact ⟨outP_none _ _,HB1.out⟩
    · have q3:((hl:Int) != (dl:Int))=true:=by simp;omega
      subst q1
      clear cl q2
      go_enter Tryz.func54,Tryz.ntmps54
      go_wp2
      go_ret2
      exact ⟨outP_none _ _,HB1.out⟩
  · have q3:((ll:Int) != (dl:Int))=true:=by simp;omega
    clear cl q1
    go_enter Tryz.func54,Tryz.ntmps54
    go_wp2
    go_ret2
    exact ⟨outP_none _ _,HB1.out⟩
 obtain ⟨q1,q2,q3⟩:=cl
 have hp:padP ds lo hi st=if anyPad ds.length lo hi st=true then ([],4) else (padD ds lo hi st,0):=by
  unfold padP lensB
  rw [e1,e2,e3,e4,if_pos]
  simp only [Bool.and_eq_true,decide_eq_true_eq];exact ⟨q1,q2,q3⟩
 have HPP:=hide hp
 obtain rfl:=q1
 obtain rfl:=q2
 obtain rfl:=q3
 clear hp e1 e2 e3 e4
 go_enter Tryz.func54,Tryz.ntmps54
 go_wp2
 go_loopw [6,33] (fun v i wr=>∃ m:Nat,m<=tl/\i=.int .i64 m/\OpAt wr w.heap.size k vd va (.slice la tl lc) (.slice ha tl hc) (.slice ta tl tc) x/\wr.ownsRow (w.heap.size+1) 3 1 v m (((padD ds lo hi st).take m).map (Value.int .i64))/\(∀ j,j<m->padBad lo hi st j=false)/\Below w.heap.size w wr) (fun _ i _=>tl-(intOf i).toNat)
 case atStart=>exact ⟨0,Nat.zero_le _,rfl,HOP.out,World.ownsRow_nil _ _ _ _,fun j hj=>by omega,HB1.out⟩
 case round =>
  obtain ⟨m,hm,rfl,hop,hown,hgood,hB⟩:=hrel
  have HO:=hide hop
  have HX:=hide hown
  have HG:=hide hgood
  have HB:=hide hB
  clear hop hown hgood hB
  by_cases hlt:m<tl
  · obtain ⟨lb,lof,rfl,hlb,hlc⟩:=HLO.out.at (by omega)
    obtain ⟨hb,hof,rfl,hhb,hhc⟩:=HHI.out.at (by omega)
    obtain ⟨tb,tof,rfl,htb,htc⟩:=HST.out.at (by omega)
    obtain ⟨db,dof,rfl,hdb,hdc⟩:=HD.out.at (by omega)
    obtain ⟨L,hL⟩:∃ L,L=lo[m]?.getD 0:=⟨_,rfl⟩
    obtain ⟨U,hU⟩:∃ U,U=hi[m]?.getD 0:=⟨_,rfl⟩
    obtain ⟨T,hT⟩:∃ T,T=st[m]?.getD 0:=⟨_,rfl⟩
    obtain ⟨D,hD⟩:∃ D,D=ds[m]?.getD 0:=⟨_,rfl⟩
    have cl:wr.cell? ⟨lb,lof+m,none⟩=some (.int .i64 L):=by rw [hL];exact (HB.out.cell (p:=⟨lb,lof+m,none⟩) hlb).trans (hlc m hlt)
    have ch:wr.cell? ⟨hb,hof+m,none⟩=some (.int .i64 U):=by rw [hU];exact (HB.out.cell (p:=⟨hb,hof+m,none⟩) hhb).trans (hhc m hlt)
    have ct:wr.cell? ⟨tb,tof+m,none⟩=some (.int .i64 T):=by rw [hT];exact (HB.out.cell (p:=⟨tb,tof+m,none⟩) htb).trans (htc m hlt)
    have cd:wr.cell? ⟨db,dof+m,none⟩=some (.int .i64 D):=by rw [hD];exact (HB.out.cell (p:=⟨db,dof+m,none⟩) hdb).trans (hdc m hlt)
    have hDb:0<=D/\D<=4096:=by rw [hD];exact HZ.out _ (mem_getD ds m (by rw [HN.out];exact hlt))
    have HPB:Hid (padBad lo hi st m=(decide (L<0) || (decide (4096<L) || (decide (U<0) || (decide (4096<U) || (decide (T<1) || decide (4096<T))))))):=by rw [Hid,hL,hU,hT];rfl
    have HPV:Hid (padV ds lo hi st m=L+U+(if 0<D then (D-1)*T+1 else 0)):=by rw [Hid,hL,hU,hT,hD];rfl
    obtain ⟨o0,o1,o2,o3,o4,o5,o6⟩:=HO.out.cells
    have i1:(0:Int)<=(m:Int):=Int.natCast_nonneg _
    have i2:(m:Int)<(tl:Int):=by omega
    have HBAD:Hid (padBad lo hi st m=true->padP ds lo hi st=([],4)):=fun hb=>by
     rw [HPP.out,if_pos]
     unfold anyPad
     rw [List.any_eq_true]
     exact ⟨m,by rw [List.mem_range,HN.out];exact hlt,hb⟩
    have HCL:Hid (∀ wx,Below w.heap.size w wx->wx.cell? ⟨lb,lof+m,none⟩=some (.int .i64 L)):=fun wx hx=>by rw [hL];exact (hx.cell (p:=⟨lb,lof+m,none⟩) hlb).trans (hlc m hlt)
    have HCH:Hid (∀ wx,Below w.heap.size w wx->wx.cell? ⟨hb,hof+m,none⟩=some (.int .i64 U)):=fun wx hx=>by rw [hU];exact (hx.cell (p:=⟨hb,hof+m,none⟩) hhb).trans (hhc m hlt)
    clear hlc hhc htc hdc hL hU hT hD
    by_cases x1:L<0
    · go_wp2
      go_ret2
      rw [HBAD.out (by rw [HPB.out];simp [x1])]
      exact ⟨outP_none _ _,HB.out⟩
    by_cases x2:4096<L
    · go_wp2
      go_ret2
      rw [HBAD.out (by rw [HPB.out];simp [x2])]
      exact ⟨outP_none _ _,HB.out⟩
    by_cases x3:U<0
    · go_wp2
      go_ret2
      rw [HBAD.out (by rw [HPB.out];simp [x3])]
      exact ⟨outP_none _ _,HB.out⟩
    by_cases x4:4096<U
    · go_wp2
      go_ret2
      rw [HBAD.out (by rw [HPB.out];simp [x4])]
      exact ⟨outP_none _ _,HB.out⟩
    by_cases x5:T<1
    · go_wp2
      go_ret2
      rw [HBAD.out (by rw [HPB.out];simp [x5])]
      exact ⟨outP_none _ _,HB.out⟩
    by_cases x6:4096<T
    · go_wp2
      go_ret2
      rw [HBAD.out (by rw [HPB.out];simp [x6])]
      exact ⟨outP_none _ _,HB.out⟩
    have HOK:Hid (padBad lo hi st m=false):=by
     rw [Hid,HPB.out]
     simp;omega
    have HGS:Hid (∀ j,j<m+1->padBad lo hi st j=false):=fun j hj=>by
     by_cases e:j=m
     · rw [e];exact HOK.out
     · exact HG.out j (by omega)
    have HTS:Hid ((padD ds lo hi st).take (m+1)=(padD ds lo hi st).take m++[padV ds lo hi st m]):=by
     have hkd:m<ds.length:=by rw [HN.out];exact hlt
     rw [Hid,take_succ_getD _ m (by rw [padD_length];exact hkd),padD_getD ds lo hi st m hkd]
    have HFIN:Hid (∀ (wx w2:World) (v':Value) (V:Int),V=padV ds lo hi st m->OpAt wx w.heap.size k vd va (.slice (some ⟨lb,lof,none⟩) tl lc) (.slice (some ⟨hb,hof,none⟩) tl hc) (.slice (some ⟨tb,tof,none⟩) tl tc) x->Below w.heap.size w wx->wx.ownsRow (w.heap.size+1) 3 1 u6 m (((padD ds lo hi st).take m).map (Value.int .i64))->w2.ownsRow (w.heap.size+1) 3 1 v' (m+1) (((padD ds lo hi st).take m).map (Value.int .i64)++[.int .i64 V])->wx.grownBy w2 u6.ownBlock ->
     OpAt w2 w.heap.size k vd va (.slice (some ⟨lb,lof,none⟩) tl lc) (.slice (some ⟨hb,hof,none⟩) tl hc) (.slice (some ⟨tb,tof,none⟩) tl tc) x/\w2.ownsRow (w.heap.size+1) 3 1 v' (m+1) (((padD ds lo hi st).take (m+1)).map (Value.int .i64))/\Below w.heap.size w w2):=by
     intro wx w2 v' V hV hop hBx hown hown2 hg
     refine ⟨?_,?_,?_⟩
     · have:=hg.block w.heap.size hop.lt (fun e=>by have:=(hown.lt _ e.symm).1;omega)
       exact this.trans hop
     · rw [HTS.out,List.map_append,<-hV];exact hown2
     · exact hBx.grown hg hBx.size (fun j e=>by have:=(hown.lt j e).1;omega)
    have hsz:w.heap.size+1<=wr.heap.size:=HO.out.lt
    by_cases cD:0<D
    · have hm3:0<=(D-1)*T:=Int.mul_nonneg (by omega) (by omega)
      have hm4:(D-1)*T<=4096*4096:=Int.mul_le_mul (by omega) (by omega) (by omega) (by omega)
      have HPV':Hid (padV ds lo hi st m=L+U+((D-1)*T+1)):=by rw [Hid,HPV.out,if_pos cD]
      obtain ⟨M,hM⟩:∃ M,M=(D-1)*T+1:=⟨_,rfl⟩
      have HM:=hide hM
      go_wp2_with fail
      go_cut [8] (fun n wc=>n=.int .i64 M/\OpAt wc w.heap.size k vd va (.slice (some ⟨lb,lof,none⟩) tl lc) (.slice (some ⟨hb,hof,none⟩) tl hc) (.slice (some ⟨tb,tof,none⟩) tl tc) x/\wc.ownsRow (w.heap.size+1) 3 1 u6 m (((padD ds lo hi st).take m).map (Value.int .i64))/\Below w.heap.size w wc)
      case first =>
       go_region
       all_goals go_wp2
       all_goals go_meet
       all_goals exact ⟨by rw [HM.out],HO.out,HX.out.drew,HB.out.drew⟩
      case rest =>
       obtain ⟨rfl,hop,hown,hB⟩:=hcut
       clear cl ch ct cd o0 o1 o2 o3 o4 o5 o6 HO HX HB hsz
       have HO:=hide hop
       have HX:=hide hown
       have HB:=hide hB
       have hsz:w.heap.size+1<=wc.heap.size:=hop.lt
       have cl:=HCL.out _ hB
       have ch:=HCH.out _ hB
       obtain ⟨o0,o1,o2,o3,o4,o5,o6⟩:=HO.out.cells
       clear hop hown hB
       have hMb:0<=M/\M<=4096*4096+1:=by omega
       have HV:Hid (IntKind.i64.wrap (IntKind.i64.wrap (L+M)+U)=padV ds lo hi st m):=by
        rw [Hid,HPV'.out,<-HM.out,wrap_in (L+M) (by omega) (by omega),wrap_in _ (by omega) (by omega)];omega
       clear hm3 hm4 hM cD
       go_wp2_with fail
       go_region_law ((refine step_append_lies _ (by rfl) _ _ _ (by rfl) (w.heap.size+1) 3 i0 _ 1 8 Tryz.underlying23 HI.out HZ0.out HZ1.out HZ2.out rfl (by omega) _ _ _ (by rfl) ((HX.out.alloc _).drew) ⟨wc.heap.size,0,none⟩ 1 1 [.int .i64 (IntKind.i64.wrap (IntKind.i64.wrap (L+M)+U))] (by rfl) (by rfl) (World.news_of_block (cs:=#[.int .i64 (IntKind.i64.wrap (IntKind.i64.wrap (L+M)+U))]) (t:=3) (fr:=(0,0)) (heap_alloc_new wc _)) (by simp [Value.oneCell']) (by omega) (by unfold maxLen;omega) (by omega) (by have:=HB.out.size;simp;omega) (wc.heap.size+1) (by simp) ?_;intro g1 c1 w2 hown1 hgrow hat hlt3;have HX2:=hide hown1;have HG2:=hide hgrow;clear hown1 hgrow hat))
       all_goals go_wp2
       all_goals go_roundw
       all_goals try (case measure=>simp [intOf];omega)
       all_goals
        have hf:=HFIN.out ((wc.alloc (.cells #[.int .i64 (IntKind.i64.wrap (IntKind.i64.wrap (L+M)+U))] 3)).drew) w2 _ _ HV.out (HO.out.alloc _) ((HB.out.alloc HB.out.size _).drew) ((HX.out.alloc _).drew) HX2.out HG2.out
        have hr:∃ m':Nat,m'<=tl/\Value.int .i64 ((m:Int)+1)=.int .i64 m'/\OpAt w2 w.heap.size k vd va (.slice (some ⟨lb,lof,none⟩) tl lc) (.slice (some ⟨hb,hof,none⟩) tl hc) (.slice (some ⟨tb,tof,none⟩) tl tc) x/\w2.ownsRow (w.heap.size+1) 3 1 (.slice (some ⟨g1,0,none⟩) (m+1) c1) m' (((padD ds lo hi st).take m').map (Value.int .i64))/\(∀ j,j<m'->padBad lo hi st j=false)/\Below w.heap.size w w2:=⟨m+1,by omega,by go_num,hf.1,hf.2.1,HGS.out,hf.2.2⟩
        first
         | exact hr
         | (repeat apply Exists.intro
            exact ⟨hr,rfl⟩)
    · have HPV':Hid (padV ds lo hi st m=L+U):=by rw [Hid,HPV.out,if_neg cD];omega
      have HV:Hid (IntKind.i64.wrap (IntKind.i64.wrap L+U)=padV ds lo hi st m):=by
       rw [Hid,HPV'.out,wrap_in L (by omega) (by omega),wrap_in _ (by omega) (by omega)]
      go_wp2_with fail
      go_region_law ((refine step_append_lies _ (by rfl) _ _ _ (by rfl) (w.heap.size+1) 3 i0 _ 1 8 Tryz.underlying23 HI.out HZ0.out HZ1.out HZ2.out rfl (by omega) _ _ _ (by rfl) ((HX.out.alloc _).drew) ⟨wr.heap.size,0,none⟩ 1 1 [.int .i64 (IntKind.i64.wrap (IntKind.i64.wrap L+U))] (by rfl) (by rfl) (World.news_of_block (cs:=#[.int .i64 (IntKind.i64.wrap (IntKind.i64.wrap L+U))]) (t:=3) (fr:=(0,0)) (heap_alloc_new wr _)) (by simp [Value.oneCell']) (by omega) (by unfold maxLen;omega) (by omega) (by have:=HB.out.size;simp;omega) (wr.heap.size+1) (by simp) ?_;intro g1 c1 w2 hown1 hgrow hat hlt3;have HX2:=hide hown1;have HG2:=hide hgrow;clear hown1 hgrow hat))
      all_goals go_wp2
      all_goals go_roundw
      all_goals try (case measure=>simp [intOf];omega)
      all_goals
       have hf:=HFIN.out ((wr.alloc (.cells #[.int .i64 (IntKind.i64.wrap (IntKind.i64.wrap L+U))] 3)).drew) w2 _ _ HV.out (HO.out.alloc _) ((HB.out.alloc HB.out.size _).drew) ((HX.out.alloc _).drew) HX2.out HG2.out
       exact ⟨m+1,by omega,by go_num,hf.1,hf.2.1,HGS.out,hf.2.2⟩
  · obtain rfl:m=tl:=by omega
    have hp:padP ds lo hi st=(padD ds lo hi st,0):=by
     rw [HPP.out,if_neg]
     unfold anyPad
     rw [List.any_eq_true]
     rintro ⟨j,hj,hb⟩
     rw [List.mem_range,HN.out] at hj
     rw [HG.out j hj] at hb
     cases hb
    have HPF:=hide hp
    clear hp
    go_wp2
    go_ret2
    rw [HPF.out]
    have ho:=HX.out
    rw [List.take_of_length_le (by rw [padD_length,HN.out];exact Nat.le_refl _)] at ho
    refine ⟨outP_new (newAt_own' (w:=w) ho (by omega) (by rw [padD_length,HN.out]) (by omega) (fun y hy=>?_)) 0,HB.out⟩
    obtain ⟨j,hj,rfl⟩:=List.getElem_of_mem hy
    have hj':j<ds.length:=by rw [padD_length] at hj;exact hj
    have e1:=padD_getD ds lo hi st j hj'
    have e2:(padD ds lo hi st)[j]?.getD 0=(padD ds lo hi st)[j]:=by simp [hj]
    rw [<-e2,e1]
    have:=padV_bd (ds:=ds) (HZ.out _ (mem_getD ds j hj')) (HG.out j (by rw [HN.out] at hj';exact hj'))
    omega
end Go.Proofs.YtakpedjhgdkhkaaGreatDoor.V
