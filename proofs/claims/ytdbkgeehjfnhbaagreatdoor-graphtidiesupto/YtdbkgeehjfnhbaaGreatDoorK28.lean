import Derived.Test.YtdbkgeehjfnhbaaGreatDoorK27
import Derived.Test.YtdbkgeehjfnhbaaGreatDoorK15
import Derived.Test.YtdbkgeehjfnhbaaGreatDoorK12
namespace Go.Proofs.YtdbkgeehjfnhbaaGreatDoor.V
set_option maxRecDepth 100000
set_option maxHeartbeats 8000000
open Go.RowKit
def padBad (lo hi st:List Int) (j:Nat):Bool:=decide (lo[j]?.getD 0<0) || (decide (4096<lo[j]?.getD 0) || (decide (hi[j]?.getD 0<0) || (decide (4096<hi[j]?.getD 0) || (decide (st[j]?.getD 0<1) || decide (4096<st[j]?.getD 0)))))
def anyPad (n:Nat) (lo hi st:List Int):Bool:=(List.range n).any (padBad lo hi st)
def padV (ds lo hi st:List Int) (j:Nat):Int:=lo[j]?.getD 0+hi[j]?.getD 0+(if 0<ds[j]?.getD 0 then (ds[j]?.getD 0-1)*st[j]?.getD 0+1 else 0)
def padD (ds lo hi st:List Int):List Int:=(List.range ds.length).map (padV ds lo hi st)
def padP (ds lo hi st:List Int):List Int × Int:=if lensB ds.length lo hi st=true then (if anyPad ds.length lo hi st=true then ([],4) else (padD ds lo hi st,0)) else ([],6)
theorem padD_length (ds lo hi st:List Int):(padD ds lo hi st).length=ds.length:=by simp [padD]
theorem padD_getD (ds lo hi st:List Int) (k:Nat) (h:k<ds.length):(padD ds lo hi st)[k]?.getD 0=padV ds lo hi st k:=by simp [padD,h]
theorem padV_bd {ds lo hi st:List Int} {j:Nat} (hd:0<=ds[j]?.getD 0/\ds[j]?.getD 0<=4096) (hb:padBad lo hi st j=false):0<=padV ds lo hi st j/\padV ds lo hi st j<=33554432:=by
 simp [padBad] at hb
 unfold padV
 split
 · have h1:0<=(ds[j]?.getD 0-1)*st[j]?.getD 0:=Int.mul_nonneg (by omega) (by omega)
   have h2:(ds[j]?.getD 0-1)*st[j]?.getD 0<=4096*4096:=Int.mul_le_mul (by omega) (by omega) (by omega) (by omega)
   omega
 · omega
theorem within_any (n l:Int) (w:World):Calls Tryz.prog 86 #[.int .i64 n,.int .i64 l] w fun e w'=>e=.returned (.bool (decide (l<=n) && decide (n<=4096)))/\w'=w:=by
 by_cases c:l<=n
 · by_cases d:n<=4096
   · have e:(decide (l<=n) && decide (n<=4096))=true:=by simp [c,d]
     rw [e]
     go_enter Tryz.func86,Tryz.ntmps86
     go_wp2
     go_ret
     exact ⟨rfl,rfl⟩
   · have e:(decide (l<=n) && decide (n<=4096))=false:=by simp [d]
     rw [e]
     have d':decide (n<=4096)=false:=decide_eq_false d
     clear d e
     go_enter Tryz.func86,Tryz.ntmps86
     go_wp2
     go_ret
     exact ⟨rfl,rfl⟩
 · have e:(decide (l<=n) && decide (n<=4096))=false:=by simp [c]
   rw [e]
   go_enter Tryz.func86,Tryz.ntmps86
   go_wp2
   go_ret
   exact ⟨rfl,rfl⟩
theorem padDims_any (k x:Int) (vd va:Value) (la:Option Addr) (ll lc:Nat) (lo:List Int) (ha:Option Addr) (hl hc:Nat) (hi:List Int) (ta:Option Addr) (tl tc:Nat) (st:List Int) (da:Option Addr) (dl dc:Nat) (ds:List Int) (w:World)
 (hlo:Ints w la ll lo) (hhi:Ints w ha hl hi) (hst:Ints w ta tl st) (hd:Ints w da dl ds) (hz:sizeE ds=0) :
 Calls Tryz.prog 63 #[.agg #[.int .i64 k,vd,va,.slice la ll lc,.slice ha hl hc,.slice ta tl tc,.int .i64 x],.slice da dl dc] w fun e w'=>OutP e w' (padP ds lo hi st)/\Below w.heap.size w w':=by
 have HLO:=hide hlo
 have HHI:=hide hhi
 have HST:=hide hst
 have HD:=hide hd
 have HN:=hide hd.1
 have HZ:=hide (sizeE_ok hz).2.1
 have h6:dl<=6:=by have:=(sizeE_ok hz).1;have:=hd.1;omega
 have hmk:=run_make_row' (P:=Tryz.prog) 23 3 (.int .i64 0) 8 Tryz.underlying23 info_int rfl .i64 .i64 dl (by omega) (by omega)
 have HB1:=hide ((Below.refl w.heap.size w).alloc (Nat.le_refl _) (.cells #[.int .i64 k,vd,va,.slice la ll lc,.slice ha hl hc,.slice ta tl tc,.int .i64 x] 38))
 have HOP:=hide (OpAt.new w k vd va (.slice la ll lc) (.slice ha hl hc) (.slice ta tl tc) x)
 have e1:=hlo.1
 have e2:=hhi.1
 have e3:=hst.1
 have e4:=hd.1
 clear hlo hhi hst hd hz
 by_cases cl:ll=dl/\hl=dl/\tl=dl
 case neg =>
  have hp:padP ds lo hi st=([],6):=by
   unfold padP lensB
   rw [e1,e2,e3,e4,if_neg]
   simp only [Bool.and_eq_true,decide_eq_true_eq];exact cl
  rw [hp]
  clear hp e1 e2 e3 e4
  by_cases q1:ll=dl
  · by_cases q2:hl=dl
    · have q3:((tl:Int) != (dl:Int))=true:=by simp;omega
      subst q1
      subst q2
      clear cl
      go_enter Tryz.func63,Tryz.ntmps63
      go_wp2
      go_ret2
      exact ⟨outP_none _ _,HB1.out⟩
    · have q3:((hl:Int) != (dl:Int))=true:=by simp;omega
      subst q1
      clear cl q2
      go_enter Tryz.func63,Tryz.ntmps63
      go_wp2
      go_ret2
      exact ⟨outP_none _ _,HB1.out⟩
  · have q3:((ll:Int) != (dl:Int))=true:=by simp;omega
    clear cl q1
    go_enter Tryz.func63,Tryz.ntmps63
    go_wp2
    go_ret2
    exact ⟨outP_none _ _,HB1.out⟩
 obtain ⟨q1,q2,q3⟩:=cl
 have hp:padP ds lo hi st=if anyPad ds.length lo hi st=true then ([],4) else (padD ds lo hi st,0):=by
  unfold padP lensB
  rw [e1,e2,e3,e4,if_pos]
  simp only [Bool.and_eq_true,decide_eq_true_eq];exact ⟨q1,q2,q3⟩
 have HPP:=hide hp
 obtain rfl:=q1
 obtain rfl:=q2
 obtain rfl:=q3
 clear hp e1 e2 e3 e4
 go_enter Tryz.func63,Tryz.ntmps63
 go_wp2
 go_loopw [36] (fun i wr=>∃ m:Nat,m<=tl/\i=.int .i64 m/\OpAt wr w.heap.size k vd va (.slice la tl lc) (.slice ha tl hc) (.slice ta tl tc) x/\wr.rowIs (w.heap.size+1) 3 tl (onWay (padD ds lo hi st) [] m)/\(∀ j,j<m->padBad lo hi st j=false)/\Below w.heap.size w wr) (fun i _=>tl-(intOf i).toNat)
 case atStart =>
  have hr:=World.rowIs_made (w.alloc (.cells #[.int .i64 k,vd,va,.slice la tl lc,.slice ha tl hc,.slice ta tl tc,.int .i64 x] 38)) (.int .i64 0) tl 3
  simp only [World.size_alloc] at hr
  exact ⟨0,Nat.zero_le _,rfl,HOP.out.alloc _,hr.congr (fun j _=>by simp [onWay]),fun j hj=>by omega,HB1.out.alloc HB1.out.size _⟩
 case round =>
  obtain ⟨m,hm,rfl,hop,hrow,hgood,hB⟩:=hrel
  have HO:=hide hop
  have HR:=hide hrow
  have HG:=hide hgood
  have HB:=hide hB
  clear hop hrow hgood hB hmk
  by_cases hlt:m<tl
  · obtain ⟨lb,lof,rfl,hlb,hlc⟩:=HLO.out.at (by omega)
    obtain ⟨hb,hof,rfl,hhb,hhc⟩:=HHI.out.at (by omega)
    obtain ⟨tb,tof,rfl,htb,htc⟩:=HST.out.at (by omega)
    obtain ⟨db,dof,rfl,hdb,hdc⟩:=HD.out.at (by omega)
    obtain ⟨L,hL⟩:∃ L,L=lo[m]?.getD 0:=⟨_,rfl⟩
    obtain ⟨U,hU⟩:∃ U,U=hi[m]?.getD 0:=⟨_,rfl⟩
    obtain ⟨T,hT⟩:∃ T,T=st[m]?.getD 0:=⟨_,rfl⟩
    obtain ⟨D,hD⟩:∃ D,D=ds[m]?.getD 0:=⟨_,rfl⟩
    have cl:wr.cell? ⟨lb,lof+m,none⟩=some (.int .i64 L):=by rw [hL];exact (HB.out.cell (p:=⟨lb,lof+m,none⟩) hlb).trans (hlc m hlt)
    have ch:wr.cell? ⟨hb,hof+m,none⟩=some (.int .i64 U):=by rw [hU];exact (HB.out.cell (p:=⟨hb,hof+m,none⟩) hhb).trans (hhc m hlt)
    have ct:wr.cell? ⟨tb,tof+m,none⟩=some (.int .i64 T):=by rw [hT];exact (HB.out.cell (p:=⟨tb,tof+m,none⟩) htb).trans (htc m hlt)
    have cd:wr.cell? ⟨db,dof+m,none⟩=some (.int .i64 D):=by rw [hD];exact (HB.out.cell (p:=⟨db,dof+m,none⟩) hdb).trans (hdc m hlt)
    have hDb:0<=D/\D<=4096:=by rw [hD];exact HZ.out _ (mem_getD ds m (by rw [HN.out];exact hlt))
    have HPB:Hid (padBad lo hi st m=(decide (L<0) || (decide (4096<L) || (decide (U<0) || (decide (4096<U) || (decide (T<1) || decide (4096<T))))))):=by rw [Hid,hL,hU,hT];rfl
    have HPV:Hid (padV ds lo hi st m=L+U+(if 0<D then (D-1)*T+1 else 0)):=by rw [Hid,hL,hU,hT,hD];rfl
    obtain ⟨o0,o1,o2,o3,o4,o5,o6⟩:=HO.out.cells
    have i1:(0:Int)<=(m:Int):=Int.natCast_nonneg _
    have i2:(m:Int)<(tl:Int):=by omega
    have HBAD:Hid (padBad lo hi st m=true->padP ds lo hi st=([],4)):=fun hb=>by
     rw [HPP.out,if_pos]
     unfold anyPad
     rw [List.any_eq_true]
     exact ⟨m,by rw [List.mem_range,HN.out];exact hlt,hb⟩
    clear hlc hhc htc hdc hL hU hT hD
    cases x1:(decide (0<=L) && decide (L<=4096)) with
    | false =>
     have X1:=hide x1
     clear x1
     go_wp2_with (go_at_call 86;refine (within_any _ _ _).mono ?_;rintro e w' ⟨rfl,hw'⟩;obtain rfl:=hw'.symm;rw [X1.out])
     go_ret2
     rw [HBAD.out (by have:=X1.out;rw [HPB.out];simp at this ⊢;omega)]
     exact ⟨outP_none _ _,HB.out⟩
    | true =>
    have X1:=hide x1
    clear x1
    cases x2:(decide (0<=U) && decide (U<=4096)) with
    | false =>
     have X2:=hide x2
     clear x2
     go_wp2_with (go_at_call 86;refine (within_any _ _ _).mono ?_;rintro e w' ⟨rfl,hw'⟩;obtain rfl:=hw'.symm;first | rw [X1.out] | rw [X2.out])
     go_ret2
     rw [HBAD.out (by have:=X2.out;rw [HPB.out];simp at this ⊢;omega)]
     exact ⟨outP_none _ _,HB.out⟩
    | true =>
    have X2:=hide x2
    clear x2
    cases x3:(decide (1<=T) && decide (T<=4096)) with
    | false =>
     have X3:=hide x3
     clear x3
     go_wp2_with (go_at_call 86;refine (within_any _ _ _).mono ?_;rintro e w' ⟨rfl,hw'⟩;obtain rfl:=hw'.symm;first | rw [X1.out] | rw [X2.out] | rw [X3.out])
     go_ret2
     rw [HBAD.out (by have:=X3.out;rw [HPB.out];simp at this ⊢;omega)]
     exact ⟨outP_none _ _,HB.out⟩
    | true =>
    have X3:=hide x3
    clear x3
    have HOK:Hid (padBad lo hi st m=false):=by
     have h1:=X1.out
     have h2:=X2.out
     have h3:=X3.out
     rw [Hid,HPB.out]
     simp at h1 h2 h3 ⊢;omega
    have cr:=HR.out.cell hlt
    have fr:=HR.out.frozen m
    have bL:0<=L/\L<=4096:=by have:=X1.out;simp at this;exact this
    have bU:0<=U/\U<=4096:=by have:=X2.out;simp at this;exact this
    have bT:1<=T/\T<=4096:=by have:=X3.out;simp at this;exact this
    go_wp2_with (go_at_call 86;refine (within_any _ _ _).mono ?_;rintro e w' ⟨rfl,hw'⟩;obtain rfl:=hw'.symm;first | rw [X1.out] | rw [X2.out] | rw [X3.out])
    go_region
    have HR1:=hide (HR.out.set m (.int .i64 (L+U)))
    have c1:((wr.setCell ⟨w.heap.size+1,m,none⟩ (.int .i64 (L+U))).drew).cell? ⟨w.heap.size+1,m,none⟩=some (.int .i64 (L+U)):=by
     have:=HR1.out.cell hlt
     simpa using this
    have f1:((wr.setCell ⟨w.heap.size+1,m,none⟩ (.int .i64 (L+U))).drew).frozen? ⟨w.heap.size+1,m,none⟩=false:=HR1.out.frozen m
    have HO1:Hid (OpAt ((wr.setCell ⟨w.heap.size+1,m,none⟩ (.int .i64 (L+U))).drew) w.heap.size k vd va (.slice (some ⟨lb,lof,none⟩) tl lc) (.slice (some ⟨hb,hof,none⟩) tl hc) (.slice (some ⟨tb,tof,none⟩) tl tc) x):=HO.out.set (p:=⟨w.heap.size+1,m,none⟩) (by simp) _
    have HB1':=hide ((HB.out.setCell (p:=⟨w.heap.size+1,m,none⟩) (by simp) (.int .i64 (L+U))).drew)
    have ct1:((wr.setCell ⟨w.heap.size+1,m,none⟩ (.int .i64 (L+U))).drew).cell? ⟨tb,tof+m,none⟩=some (.int .i64 T):=by
     have h1:=HB1'.out.cell (p:=⟨tb,tof+m,none⟩) htb
     have h2:=HB.out.cell (p:=⟨tb,tof+m,none⟩) htb
     rw [h1,<-h2];exact ct
    obtain ⟨p0,p1,p2,p3,p4,p5,p6⟩:=HO1.out.cells
    have hm1:0<=(D-1)*T\/D=0:=by
     by_cases e:D=0
     · exact .inr e
     · exact .inl (Int.mul_nonneg (by omega) (by omega))
    have hm2:(D-1)*T<=4096*4096\/D=0:=by
     by_cases e:D=0
     · exact .inr e
     · exact .inl (Int.mul_le_mul (by omega) bT.2 (by omega) (by omega))
    have HGS:Hid (∀ j,j<m+1->padBad lo hi st j=false):=fun j hj=>by
     by_cases e:j=m
     · rw [e];exact HOK.out
     · exact HG.out j (by omega)
    have HKD:Hid (m<ds.length):=by rw [Hid,HN.out];exact hlt
    by_cases cD:0<D
    · have hm3:0<=(D-1)*T:=by omega
      have hm4:(D-1)*T<=4096*4096:=by omega
      have HPV':Hid (padV ds lo hi st m=L+U+((D-1)*T+1)):=by rw [Hid,HPV.out,if_pos cD]
      clear hm1 hm2
      go_wp2_with fail
      go_region
      go_wp2
      go_roundw
      case rel =>
       refine ⟨m+1,by omega,by go_num,HO1.out.set (p:=⟨w.heap.size+1,m,none⟩) (by simp) _,?_,HGS.out,?_⟩
       · refine (HR1.out.set m (.int .i64 (L+U+((D-1)*T+1)))).congr (fun j _=>?_)
         have e1:=padD_getD ds lo hi st m HKD.out
         rw [<-onWay_succ,e1,HPV'.out]
         by_cases e:j=m<;>simp [e]
       · exact (HB1'.out.setCell (p:=⟨w.heap.size+1,m,none⟩) (by simp) _).drew
      case measure=>simp [intOf];omega
    · have HPV':Hid (padV ds lo hi st m=L+U):=by rw [Hid,HPV.out,if_neg cD];omega
      clear hm1 hm2
      go_wp2
      go_roundw
      case rel =>
       refine ⟨m+1,by omega,by go_num,HO1.out,?_,HGS.out,HB1'.out⟩
       refine HR1.out.congr (fun j _=>?_)
       have e1:=padD_getD ds lo hi st m HKD.out
       rw [<-onWay_succ,e1,HPV'.out]
      case measure=>simp [intOf];omega
  · obtain rfl:m=tl:=by omega
    have hp:padP ds lo hi st=(padD ds lo hi st,0):=by
     rw [HPP.out,if_neg]
     unfold anyPad
     rw [List.any_eq_true]
     rintro ⟨j,hj,hb⟩
     rw [List.mem_range,HN.out] at hj
     rw [HG.out j hj] at hb
     cases hb
    have HPF:=hide hp
    clear hp
    go_wp2
    go_ret2
    rw [HPF.out]
    refine ⟨outP_new (newAt_row (w:=w) (onWay_all HR.out) (by omega) (by rw [padD_length,HN.out]) (by omega) (fun y hy=>?_)) 0,HB.out⟩
    obtain ⟨j,hj,rfl⟩:=List.getElem_of_mem hy
    have hj':j<ds.length:=by rw [padD_length] at hj;exact hj
    have e1:=padD_getD ds lo hi st j hj'
    have e2:(padD ds lo hi st)[j]?.getD 0=(padD ds lo hi st)[j]:=by simp [hj]
    rw [<-e2,e1]
    have:=padV_bd (ds:=ds) (HZ.out _ (mem_getD ds j hj')) (HG.out j (by rw [HN.out] at hj';exact hj'))
    omega
theorem once_iff {xs:List Int} {n:Nat}:Once xs n<->(∀ x∈xs,0<=x/\x<n)/\xs.Nodup:=by
 constructor
 · intro h
   refine ⟨fun x hx=>?_,?_⟩
   · obtain ⟨i,hi,rfl⟩:=List.getElem_of_mem hx
     have:=h i hi
     simp [hi] at this
     exact ⟨this.1,this.2.1⟩
   · unfold List.Nodup
     rw [List.pairwise_iff_getElem]
     intro i j hi hj hij
     have:=(h j hj).2.2 i hij
     simpa [hi,hj] using this
 · rintro ⟨h1,h2⟩ i hi
   unfold List.Nodup at h2
   rw [List.pairwise_iff_getElem] at h2
   have h3:=h1 xs[i] (List.getElem_mem hi)
   refine ⟨by simpa [hi] using h3.1,by simpa [hi] using h3.2,fun j hj=>?_⟩
   have:=h2 j i (by omega) hi hj
   have hj':j<xs.length:=by omega
   simpa [hi,hj'] using this
theorem once_comm {xs ys:List Int} {n:Nat}:Once (xs++ys) n<->Once (ys++xs) n:=by
 rw [once_iff,once_iff,(List.perm_append_comm (l₁:=xs) (l₂:=ys)).nodup_iff]
 have:(∀ x∈xs++ys,0<=x/\x<(n:Int))<->(∀ x∈ys++xs,0<=x/\x<(n:Int)):=by
  constructor<;>intro h x hx<;>exact h x (by simp only [List.mem_append] at hx ⊢;exact hx.symm)
 rw [this]
theorem nodup_len:∀ (n:Nat) (xs:List Int),(∀ x∈xs,0<=x/\x<(n:Int))->xs.Nodup->xs.length<=n
 | 0,[],_,_=>Nat.le_refl _
 | 0,x::_,h,_=>by have:=h x (by simp);omega
 | n+1,xs,h,hn=>by
  have h1:=List.length_eq_countP_add_countP (fun x=>x == (n:Int)) (l:=xs)
  have h2:xs.countP (fun x=>x == (n:Int))<=1:=List.nodup_iff_count.1 hn (n:Int)
  have h3:(xs.filter (fun x=>decide (¬ (x == (n:Int))=true))).length<=n:=by
   refine nodup_len n _ (fun x hx=>?_) (hn.filter _)
   rw [List.mem_filter] at hx
   have h4:=h x hx.1
   have h5:x≠(n:Int):=by simpa using hx.2
   omega
  rw [<-List.countP_eq_length_filter] at h3
  omega
theorem once_len {xs:List Int} {n:Nat} (h:Once xs n):xs.length<=n:=nodup_len n xs (once_iff.1 h).1 (once_iff.1 h).2
theorem freeL_comm (xs ys:List Int):∀ n,freeL (xs++ys) n=freeL (ys++xs) n
 | 0=>rfl
 | n+1=>by
  have:inB (xs++ys) n=inB (ys++xs) n:=by unfold inB;rw [List.any_append,List.any_append,Bool.or_comm]
  rw [freeL,freeL,freeL_comm xs ys n,this]
def onceB (xs:List Int) (n:Nat):Bool:=xs.all (fun x=>decide (0<=x) && decide (x<(n:Int))) && decide xs.Nodup
theorem onceB_iff (xs:List Int) (n:Nat):onceB xs n=true<->Once xs n:=by
 rw [once_iff];simp [onceB]
def dotB (ps st lo hi a b:List Int):Bool:=onceB (lo++ps) a.length && (onceB (hi++st) b.length && (decide (taken a lo=taken b hi) && decide (taken a ps=taken b st)))
def dotL (ps st lo hi a b:List Int):List Int:=taken a lo++taken a (freeL (lo++ps) a.length)++taken b (freeL (hi++st) b.length)
def dotP (ps st lo hi a b:List Int):List Int × Int:=if dotB ps st lo hi a b=true then (dotL ps st lo hi a b,0) else ([],6)
def joinB (p:Nat) (ds d:List Int):Bool:=decide (d.length=ds.length) && (decide (d.take p=ds.take p) && decide (d.drop (p+1)=ds.drop (p+1)))
def joinS (p:Nat):List (List Int)->Int
 | []=>0
 | d::r=>d[p]?.getD 0+joinS p r
def joinAt (ps:List Int):Int:=ps[0]?.getD 0
def joinP (ps:List Int) (xss:List (List Int)):List Int × Int :=
 if ps.length=1/\0<=joinAt ps/\joinAt ps<((xss[0]?.getD []).length:Int)/\(xss.drop 1).all (joinB (joinAt ps).toNat (xss[0]?.getD []))=true then ((xss[0]?.getD []).set (joinAt ps).toNat (joinS (joinAt ps).toNat xss),0) else ([],6)
theorem joinS_snoc (p:Nat) (d:List Int):∀ xss:List (List Int),joinS p (xss++[d])=joinS p xss+d[p]?.getD 0
 | []=>by simp [joinS]
 | x::r=>by rw [List.cons_append,joinS,joinS,joinS_snoc p d r];omega
theorem getD_bd {d:List Int} (h:∀ x∈d,0<=x/\x<=4096) (p:Nat):0<=d[p]?.getD 0/\d[p]?.getD 0<=4096:=by
 by_cases e:p<d.length
 · exact h _ (mem_getD d p e)
 · have:d[p]?=none:=by simp;omega
   rw [this];simp
theorem joinS_bd (p:Nat):∀ xss:List (List Int),(∀ d∈xss,∀ x∈d,0<=x/\x<=4096)->0<=joinS p xss/\joinS p xss<=4096*(xss.length:Int)
 | [],_=>by simp [joinS]
 | x::r,h=>by
  have h1:=joinS_bd p r (fun d hd=>h d (by simp [hd]))
  have h2:=getD_bd (h x (by simp)) p
  rw [joinS,List.length_cons]
  omega
theorem joinAll_iff (f:List Int->Bool) (xss:List (List Int)):(xss.drop 1).all f=true<->∀ j,j+1<xss.length->f (xss[j+1]?.getD [])=true:=by
 rw [List.all_eq_true]
 constructor
 · intro h j hj
   refine h _ ?_
   rw [List.mem_iff_getElem?]
   exact ⟨j,by rw [List.getElem?_drop,Nat.add_comm 1 j];simp [hj]⟩
 · intro h x hx
   rw [List.mem_iff_getElem?] at hx
   obtain ⟨j,hj⟩:=hx
   rw [List.getElem?_drop,Nat.add_comm 1 j] at hj
   have hl:=(List.getElem?_eq_some_iff.1 hj).1
   have:=h j hl
   rw [hj] at this
   exact this
theorem take_snocL (xss:List (List Int)) (k:Nat) (h:k<xss.length):xss.take (k+1)=xss.take k++[xss[k]?.getD []]:=by
 rw [List.take_add_one];simp [h]
theorem lsts_two' {w:World} {X Y:Option Addr} {m n c d B:Nat} {xs ys:List Int} (h:Lst w X m c xs) (h':Lst w Y n d ys) (t:TypeId) (hB:w.heap.size=B):Lsts (w.alloc (.cells #[.slice X m c,.slice Y n d] t)) (some ⟨B,0,none⟩) 2 [xs,ys]:=by
 rw [<-hB];exact lsts_two h h' t
theorem lsts_three {w:World} {X Y Z:Option Addr} {m n k c d f B:Nat} {xs ys zs:List Int} (h:Lst w X m c xs) (h':Lst w Y n d ys) (h'':Lst w Z k f zs) (t:TypeId) (hB:w.heap.size=B):Lsts (w.alloc (.cells #[.slice X m c,.slice Y n d,.slice Z k f] t)) (some ⟨B,0,none⟩) 3 [xs,ys,zs]:=by
 rw [<-hB]
 have hb:Below w.heap.size w (w.alloc (.cells #[.slice X m c,.slice Y n d,.slice Z k f] t)):=(Below.refl _ _).alloc (Nat.le_refl _) _
 have hn:=World.alloc_heap_new w (.cells #[.slice X m c,.slice Y n d,.slice Z k f] t)
 refine ⟨rfl,by omega,.inr ⟨_,_,rfl,fun j hj=>?_⟩⟩
 have:j=0\/j=1\/j=2:=by omega
 rcases this with e | e | e<;>subst e
 · exact ⟨X,m,c,by unfold World.cell?;rw [hn];rfl,h.below hb⟩
 · exact ⟨Y,n,d,by unfold World.cell?;rw [hn];rfl,h'.below hb⟩
 · exact ⟨Z,k,f,by unfold World.cell?;rw [hn];rfl,h''.below hb⟩
theorem mem_getDL (xss:List (List Int)) (j:Nat) (h:j<xss.length):xss[j]?.getD []∈xss:=by simp [h]
theorem set_same (ds:List Int) (p:Nat):ds.set p (ds[p]?.getD 0)=ds:=by
 apply List.ext_getElem?
 intro j
 rw [List.getElem?_set]
 split
 · rename_i e;subst e
   split
   · rename_i h;simp [h]
   · rename_i h;simp at h;simp [h]
 · rfl
theorem set_getD (ds:List Int) (p j:Nat) (V:Int) (h:p<ds.length):(ds.set p V)[j]?.getD 0=if j=p then V else ds[j]?.getD 0:=by
 rw [List.getElem?_set]
 by_cases e:j=p
 · subst e;simp [h]
 · have:¬ p=j:=fun hh=>e hh.symm
   simp [e,this]
theorem take_set (ds:List Int) (p:Nat) (V:Int):(ds.set p V).take p=ds.take p:=by
 rw [List.take_set_of_le (Nat.le_refl _)]
theorem drop_set (ds:List Int) (p:Nat) (V:Int):(ds.set p V).drop (p+1)=ds.drop (p+1):=by
 rw [List.drop_set_of_lt (Nat.lt_succ_self _)]
theorem set_bd {ds:List Int} {p:Nat} {V:Int} (h:∀ x∈ds,-9223372036854775808<=x/\x<=9223372036854775807) (hV:-9223372036854775808<=V/\V<=9223372036854775807):∀ x∈ds.set p V,-9223372036854775808<=x/\x<=9223372036854775807:=by
 intro x hx
 rcases List.mem_or_eq_of_mem_set hx with h1 | h1
 · exact h x h1
 · rw [h1];exact hV
theorem joinDims_any (k x:Int) (vd vl vh vs:Value) (pa:Option Addr) (pl pc:Nat) (ps:List Int) (A:Option Addr) (len cap:Nat) (xss:List (List Int)) (w:World) (hp:Lst w pa pl pc ps) (h:Lsts w A len xss) (hcap:len<=cap) (h1:1<=len) (hlen:len<=1048576) (hz:∀ d∈xss,sizeE d=0) :
 Calls Tryz.prog 65 #[.agg #[.int .i64 k,vd,.slice pa pl pc,vl,vh,vs,.int .i64 x],.slice A len cap] w fun e w'=>OutP e w' (joinP ps xss)/\Below w.heap.size w w':=by
 have H:=hide h
 have HP:=hide hp
 have HN:=hide h.1
 have HPL:=hide hp.1.1
 have HZ:=hide hz
 obtain ⟨b,off,rfl,hc⟩:=h.at (by omega)
 obtain ⟨X0,m0,c0,hc0,hl0⟩:=hc 0 (by omega)
 obtain ⟨ds,hds⟩:∃ ds,ds=xss[0]?.getD []:=⟨_,rfl⟩
 rw [<-hds] at hl0
 have HDS:=hide hds
 have HC:=hide hc
 have hc0':w.cell? ⟨b,off,none⟩=some (.slice X0 m0 c0):=hc0
 have HC0:=hide hc0'
 have HL0:=hide hl0
 have hmem0:ds∈xss:=by rw [hds];exact mem_getDL xss 0 (by rw [h.1];omega)
 have hz0:=sizeE_ok (hz ds hmem0)
 have hm06:m0<=6:=by have:=hl0.1.1;omega
 clear h hp hz hc hc0 hl0 hds hmem0
 have HB1:=hide ((Below.refl w.heap.size w).alloc (Nat.le_refl _) (.cells #[.int .i64 k,vd,.slice pa pl pc,vl,vh,vs,.int .i64 x] 38))
 have HOP:=hide (OpAt.new w k vd (.slice pa pl pc) vl vh vs x)
 have q0:(w.alloc (.cells #[.int .i64 k,vd,.slice pa pl pc,vl,vh,vs,.int .i64 x] 38)).cell? ⟨b,off,none⟩=some (.slice X0 m0 c0):=(HB1.out.cell (p:=⟨b,off,none⟩) (lt_of_cell HC0.out)).trans HC0.out
 have hpos:(0:Int)<(len:Int):=by omega
 have HBAD:Hid (¬ (ps.length=1/\0<=joinAt ps/\joinAt ps<(ds.length:Int))->joinP ps xss=([],6)):=fun hn=>by
  unfold joinP
  rw [<-HDS.out,if_neg]
  rintro ⟨a1,a2,a3,_⟩
  exact hn ⟨a1,a2,a3⟩
 by_cases c1:pl=1
 case neg =>
  rw [HBAD.out (fun hh=>c1 (by rw [<-HPL.out];exact hh.1))]
  have q:((pl:Int) != 1)=true:=by simp;omega
  clear c1
  go_enter Tryz.func65,Tryz.ntmps65
  go_wp2_with (go_at_call 36;refine (afresh_any _ _ _ ds _ (HL0.out.1.below HB1.out) (by omega)).mono ?_;rintro e w1 ⟨⟨g,rfl,hr,hg⟩,hb⟩;have HR:=hide hr;have HB2:=hide (Below.on HB1.out hb);have HO2:=hide (HOP.out.below hb);obtain ⟨o0,o1,o2,o3,o4,o5,o6⟩:=HO2.out.cells;have hgg:w.heap.size+1<=g:=by { simpa using hg }; clear hr hb hg)
  go_ret2
  exact ⟨outP_none _ _,HB2.out⟩
 subst c1
 obtain ⟨pb,pof,rfl,hpb,hpc⟩:=HP.out.1.at (by omega)
 obtain ⟨P,hP⟩:∃ P,P=joinAt ps:=⟨_,rfl⟩
 have hcp:w.cell? ⟨pb,pof,none⟩=some (.int .i64 P):=by rw [hP];exact hpc 0 (by omega)
 have HCP:=hide hcp
 have HPP:=hide hP
 have hdl:ds.length=m0:=HL0.out.1.1
 have HDL:=hide hdl
 clear hpc hcp
 by_cases c2:P<0
 · rw [HBAD.out (fun hh=>by rw [<-hP] at hh;omega)]
   clear hP
   go_enter Tryz.func65,Tryz.ntmps65
   go_wp2_with (go_at_call 36;refine (afresh_any _ _ _ ds _ (HL0.out.1.below HB1.out) (by omega)).mono ?_;rintro e w1 ⟨⟨g,rfl,hr,hg⟩,hb⟩;have HR:=hide hr;have HB2:=hide (Below.on HB1.out hb);have HO2:=hide (HOP.out.below hb);obtain ⟨o0,o1,o2,o3,o4,o5,o6⟩:=HO2.out.cells;have hgg:w.heap.size+1<=g:=by { simpa using hg };have cp:w1.cell? ⟨pb,pof,none⟩=some (.int .i64 P):=(HB2.out.cell (p:=⟨pb,pof,none⟩) hpb).trans HCP.out;clear hr hb hg)
   go_ret2
   exact ⟨outP_none _ _,HB2.out⟩
 by_cases c3:(m0:Int)<=P
 · rw [HBAD.out (fun hh=>by rw [<-hP] at hh;omega)]
   clear hP
   go_enter Tryz.func65,Tryz.ntmps65
   go_wp2_with (go_at_call 36;refine (afresh_any _ _ _ ds _ (HL0.out.1.below HB1.out) (by omega)).mono ?_;rintro e w1 ⟨⟨g,rfl,hr,hg⟩,hb⟩;have HR:=hide hr;have HB2:=hide (Below.on HB1.out hb);have HO2:=hide (HOP.out.below hb);obtain ⟨o0,o1,o2,o3,o4,o5,o6⟩:=HO2.out.cells;have hgg:w.heap.size+1<=g:=by { simpa using hg };have cp:w1.cell? ⟨pb,pof,none⟩=some (.int .i64 P):=(HB2.out.cell (p:=⟨pb,pof,none⟩) hpb).trans HCP.out;clear hr hb hg)
   go_ret2
   exact ⟨outP_none _ _,HB2.out⟩
 obtain ⟨p,rfl⟩:∃ p:Nat,P=(p:Int):=⟨P.toNat,by omega⟩
 have hpm:p<m0:=by omega
 have HPT:Hid ((joinAt ps).toNat=p):=by rw [Hid,<-hP];simp
 have HJP:Hid (joinP ps xss=if (xss.drop 1).all (joinB p ds)=true then (ds.set p (joinS p xss),0) else ([],6)):=by
  unfold joinP
  rw [Hid,<-HDS.out,HPT.out]
  by_cases e:(xss.drop 1).all (joinB p ds)=true
  · rw [if_pos ⟨HPL.out,by omega,by omega,e⟩,if_pos e]
  · rw [if_neg (fun hh=>e hh.2.2.2),if_neg e]
 have HS1:Hid (ds.set p (joinS p (xss.take 1))=ds):=by
  have e:xss.take 1=[ds]:=by
   have:=take_snocL xss 0 (by rw [HN.out];omega)
   simpa [<-HDS.out] using this
  rw [Hid,e]
  have e2:joinS p [ds]=ds[p]?.getD 0:=by simp [joinS]
  rw [e2];exact set_same ds p
 have HSB:Hid (∀ m,0<=joinS p (xss.take m)/\joinS p (xss.take m)<=4096*1048576):=fun m=>by
  have h3:=joinS_bd p (xss.take m) (fun d hd=>(sizeE_ok (HZ.out d (List.mem_of_mem_take hd))).2.1)
  have h4:(xss.take m).length<=1048576:=by simp;have:=HN.out;omega
  omega
 clear hP
 by_cases cc:cap=1
 · subst cc
   obtain rfl:len=1:=by omega
   go_enter Tryz.func65,Tryz.ntmps65
   go_wp2_with (go_at_call 36;refine (afresh_any _ _ _ ds _ (HL0.out.1.below HB1.out) (by omega)).mono ?_;rintro e w1 ⟨⟨g,rfl,hr,hg⟩,hb⟩;have HR:=hide hr;have HB2:=hide (Below.on HB1.out hb);have HO2:=hide (HOP.out.below hb);obtain ⟨o0,o1,o2,o3,o4,o5,o6⟩:=HO2.out.cells;have hgg:w.heap.size+1<=g:=by { simpa using hg };have cp:w1.cell? ⟨pb,pof,none⟩=some (.int .i64 (p:Int)):=(HB2.out.cell (p:=⟨pb,pof,none⟩) hpb).trans HCP.out;clear hr hb hg)
   go_loopw [41] (fun i wr=>i=.int .i64 0/\RowI wr g m0 ds/\Below w.heap.size w wr) (fun _ _=>0)
   case atStart=>exact ⟨rfl,HR.out,HB2.out⟩
   case round =>
    clear HR HB2 HO2 o0 o1 o2 o3 o4 o5 o6 cp
    obtain ⟨rfl,hr,hB⟩:=hrel
    have HR:=hide hr
    have HB:=hide hB
    clear hr hB
    go_wp2
    go_ret2
    have e1:xss.take 1=xss:=List.take_of_length_le (by rw [HN.out];exact Nat.le_refl _)
    have e2:=HS1.out
    rw [e1] at e2
    have e3:(xss.drop 1).all (joinB p ds)=true:=by rw [List.drop_eq_nil_of_le (by rw [HN.out];exact Nat.le_refl _)];rfl
    rw [HJP.out,if_pos e3,e2]
    exact ⟨outP_new (newAt_row (w:=w) HR.out (by omega) HDL.out (by omega) HL0.out.1.2.2.1) 0,HB.out⟩
 · go_enter Tryz.func65,Tryz.ntmps65
   go_wp2_with (go_at_call 36;refine (afresh_any _ _ _ ds _ (HL0.out.1.below HB1.out) (by omega)).mono ?_;rintro e w1 ⟨⟨g,rfl,hr,hg⟩,hb⟩;have HR:=hide hr;have HB2:=hide (Below.on HB1.out hb);have HO2:=hide (HOP.out.below hb);obtain ⟨o0,o1,o2,o3,o4,o5,o6⟩:=HO2.out.cells;have hgg:w.heap.size+1<=g:=by { simpa using hg };have cp:w1.cell? ⟨pb,pof,none⟩=some (.int .i64 (p:Int)):=(HB2.out.cell (p:=⟨pb,pof,none⟩) hpb).trans HCP.out;clear hr hb hg)
   go_loopw [41] (fun i wr=>∃ j:Nat,j<=len-1/\i=.int .i64 j/\(∀ t,t<j->joinB p ds (xss[t+1]?.getD [])=true)/\RowI wr g m0 (ds.set p (joinS p (xss.take (j+1))))/\Below w.heap.size w wr) (fun i _=>len-1-(intOf i).toNat)
   case atStart=>exact ⟨0,Nat.zero_le _,rfl,fun t ht=>by omega,by rw [HS1.out];exact HR.out,HB2.out⟩
   case round =>
    clear HR HB2 HO2 o0 o1 o2 o3 o4 o5 o6 cp
    obtain ⟨j,hj,rfl,hgood,hr,hB⟩:=hrel
    have HG:=hide hgood
    have HR:=hide hr
    have HB:=hide hB
    clear hr hB hgood
    by_cases hlt:j<len-1
    · obtain ⟨X,m,c,hcj0,hlj⟩:=HC.out (j+1) (by omega)
      have hcj:wr.cell? ⟨b,off+1+j,none⟩=some (.slice X m c):=by
       have e:off+1+j=off+(j+1):=by omega
       rw [e];exact (HB.out.cell (p:=⟨b,off+(j+1),none⟩) (lt_of_cell hcj0)).trans hcj0
      obtain ⟨d,hd⟩:∃ d,d=xss[j+1]?.getD []:=⟨_,rfl⟩
      rw [<-hd] at hlj
      have HDJ:=hide hd
      have HLJ:=hide hlj
      have hmemd:d∈xss:=by rw [hd];exact mem_getDL xss (j+1) (by rw [HN.out];omega)
      have hzd:=sizeE_ok (HZ.out d hmemd)
      have hmd:=hlj.1.1
      have HZD:=hide hzd.2.1
      have hcm:=hlj.2.1
      have HNO:Hid (joinB p ds d=false->joinP ps xss=([],6)):=fun hn=>by
       rw [HJP.out,if_neg]
       intro ha
       have:=(joinAll_iff _ _).1 ha j (by rw [HN.out];omega)
       rw [<-HDJ.out,hn] at this
       cases this
      have HSJ:=hide (HSB.out (j+1))
      obtain ⟨J,hJ⟩:∃ J,J=joinS p (xss.take (j+1)):=⟨_,rfl⟩
      rw [<-hJ] at HR HSJ
      have HJ:=hide hJ
      have i1:(0:Int)<=(j:Int):=Int.natCast_nonneg _
      have i2:(j:Int)<((len-1:Nat):Int):=by omega
      clear hcj0 hlj hmemd hd hJ
      by_cases c4:m=m0
      case neg =>
       have q:((m:Int) != (m0:Int))=true:=by simp;omega
       have HJF:Hid (joinB p ds d=false):=by
        unfold joinB
        rw [Hid,HDL.out,hmd]
        simp [c4]
       clear c4
       go_wp2_with fail
       go_quiet (fail)
       go_wp2
       go_ret2
       rw [HNO.out HJF.out]
       exact ⟨outP_none _ _,Below.on HB.out (below_drewN _ _)⟩
      subst c4
      obtain ⟨b1,off1,rfl,hb1,hc1⟩:=HLJ.out.1.at (by omega)
      have HC1:=hide (hc1 p hpm)
      have hbw:Below wr.heap.size wr wr:=Below.refl _ _
      have HLR:Hid (Lst wr (some ⟨g,0,none⟩) m m (ds.set p J)):=⟨ints_of_rowI HR.out (by rw [List.length_set];exact HDL.out) (by omega) (set_bd HL0.out.1.2.2.1 (by have:=HSJ.out;omega)),Nat.le_refl _,fun e=>by cases e⟩
      have HE1:Hid (∀ wx,Below wr.heap.size wr wx->Ints wx (some ⟨b1,off1,none⟩) p (d.take p)/\Ints wx (some ⟨g,0,none⟩) p (ds.take p)):=fun wx hx=>by
       refine ⟨((lst_take HLJ.out p (by omega)).1.below HB.out).below hx,?_⟩
       have:=(lst_take HLR.out p (by omega)).1.below hx
       rwa [take_set] at this
      clear hc1 hbw
      have HEQ1:Hid (∀ n c1 c2,Calls Tryz.prog 34 #[.slice (some ⟨b1,off1,none⟩) p c1,.slice (some ⟨g,0,none⟩) p c2] (wr.drewN n) fun e w'=>e=.returned (.bool (decide (d.take p=ds.take p)))/\∃ k,w'=(wr.drewN n).drewN k):=fun n c1 c2=>equal_any _ _ _ (d.take p) _ _ _ (ds.take p) _ (HE1.out _ (below_drewN _ n)).1 (HE1.out _ (below_drewN _ n)).2
      have HEQ2:Hid (∀ n X a1 c1 Y a2 c2,Ints wr X a1 (d.drop (p+1))->Ints wr Y a2 (ds.drop (p+1))->Calls Tryz.prog 34 #[.slice X a1 c1,.slice Y a2 c2] (wr.drewN n) fun e w'=>e=.returned (.bool (decide (d.drop (p+1)=ds.drop (p+1))))/\∃ k,w'=(wr.drewN n).drewN k):=fun n X a1 c1 Y a2 c2 h1 h2=>equal_any _ _ _ (d.drop (p+1)) _ _ _ (ds.drop (p+1)) _ (h1.below (below_drewN _ n)) (h2.below (below_drewN _ n))
      have hw1:IntKind.i64.wrap ((p:Int)+1)=((p+1:Nat):Int):=by rw [wrap_in _ (by omega) (by omega)];omega
      go_wp2_with fail
      go_cut [71] (fun t wc=>∃ u:Bool,t=.bool u/\u=!joinB p ds d/\Below wr.heap.size wr wc)
      case first =>
       by_cases q1:d.take p=ds.take p
       case neg =>
        have HJF:Hid (true=!joinB p ds d):=by simp [Hid,joinB,q1]
        rw [decide_eq_false q1] at HEQ1
        clear q1 HEQ2
        go_quiet ((go_at_call 34;exact Calls.quiet_of (HEQ1.out _ _ _)))
        go_wp2
        go_meet
        exact ⟨true,rfl,HJF.out,below_drewN _ _⟩
       rw [decide_eq_true q1] at HEQ1
       have HQ1:=hide q1
       clear q1
       by_cases cA:p+1=m
       · have hd1:d.drop (p+1)=[]:=List.drop_eq_nil_of_le (by omega)
         have hd2:ds.drop (p+1)=[]:=List.drop_eq_nil_of_le (by have:=HDL.out;omega)
         have HJF:Hid (false=!joinB p ds d):=by simp [Hid,joinB,HQ1.out,hd1,hd2,hmd,HDL.out]
         rw [hd1,hd2] at HEQ2
         rw [decide_eq_true (show ([]:List Int)=[] from rfl)] at HEQ2
         clear hd1 hd2
         have HI1:Hid (∀ X n,n=0->Ints wr X n []):=fun X n e=>⟨e.symm,by omega,by simp,.inl e⟩
         by_cases cB:c=p+1
         · go_quiet (first
            | (go_at_call_of 34 (Value.slice (some ⟨g,0,none⟩) p m);exact Calls.quiet_of (HEQ1.out _ _ _))
            | (go_at_call 34;exact Calls.quiet_of (HEQ2.out _ _ _ _ _ _ _ (HI1.out _ _ (by omega)) (HI1.out _ _ (by omega)))))
           go_wp2
           go_meet
           exact ⟨false,rfl,HJF.out,below_drewN _ _⟩
         · go_quiet (first
            | (go_at_call_of 34 (Value.slice (some ⟨g,0,none⟩) p m);exact Calls.quiet_of (HEQ1.out _ _ _))
            | (go_at_call 34;exact Calls.quiet_of (HEQ2.out _ _ _ _ _ _ _ (HI1.out _ _ (by omega)) (HI1.out _ _ (by omega)))))
           go_wp2
           go_meet
           exact ⟨false,rfl,HJF.out,below_drewN _ _⟩
       · have cB:¬ c=p+1:=by omega
         have cM:¬ m=p+1:=by omega
         have HL1:Hid (Ints wr (some ⟨b1,off1+(p+1),none⟩) (m-(p+1)) (d.drop (p+1))):=(lst_drop HLJ.out (p+1) (by omega)).1.below HB.out
         have hl2:=(lst_drop HLR.out (p+1) (by omega)).1
         rw [drop_set] at hl2
         have HL2:=hide hl2
         rw [Nat.zero_add] at hl2
         have HL3:=hide hl2
         clear hl2 cA
         by_cases q2:d.drop (p+1)=ds.drop (p+1)
         · have HJF:Hid (false=!joinB p ds d):=by simp [Hid,joinB,HQ1.out,q2,hmd,HDL.out]
           rw [decide_eq_true q2] at HEQ2
           clear q2
           go_quiet (first
            | (go_at_call_of 34 (Value.slice (some ⟨g,0,none⟩) p m);exact Calls.quiet_of (HEQ1.out _ _ _))
            | (go_at_call 34;exact Calls.quiet_of (HEQ2.out _ _ _ _ _ _ _ HL1.out HL2.out))
            | (go_at_call 34;exact Calls.quiet_of (HEQ2.out _ _ _ _ _ _ _ HL1.out HL3.out)))
           go_wp2
           go_meet
           exact ⟨false,rfl,HJF.out,below_drewN _ _⟩
         · have HJF:Hid (true=!joinB p ds d):=by simp [Hid,joinB,q2]
           rw [decide_eq_false q2] at HEQ2
           clear q2
           go_quiet (first
            | (go_at_call_of 34 (Value.slice (some ⟨g,0,none⟩) p m);exact Calls.quiet_of (HEQ1.out _ _ _))
            | (go_at_call 34;exact Calls.quiet_of (HEQ2.out _ _ _ _ _ _ _ HL1.out HL2.out))
            | (go_at_call 34;exact Calls.quiet_of (HEQ2.out _ _ _ _ _ _ _ HL1.out HL3.out)))
           go_wp2
           go_meet
           exact ⟨true,rfl,HJF.out,below_drewN _ _⟩
      case rest =>
       obtain ⟨u,rfl,hu,hW⟩:=hcut
       have HB2:=hide (Below.on HB.out hW)
       have HR2:=hide (HR.out.below hW)
       have cd:=HLJ.out
       clear cd
       have cd:wc.cell? ⟨b1,off1+p,none⟩=some (.int .i64 (d[p]?.getD 0)):=(HB2.out.cell (p:=⟨b1,off1+p,none⟩) hb1).trans HC1.out
       clear hW hcj HB HR HEQ1 HEQ2 HE1 HLR hw1
       cases u with
       | true =>
        have HJF:Hid (joinB p ds d=false):=by simpa [Hid] using hu
        clear hu
        go_wp2
        go_ret2
        rw [HNO.out HJF.out]
        exact ⟨outP_none _ _,HB2.out⟩
       | false =>
        have HJT:Hid (joinB p ds d=true):=by simpa [Hid] using hu
        obtain ⟨D,hD⟩:∃ D,D=d[p]?.getD 0:=⟨_,rfl⟩
        rw [<-hD] at cd
        have hDb:0<=D/\D<=4096:=by rw [hD];exact getD_bd HZD.out p
        have hJb:0<=J/\J<=4096*1048576:=HSJ.out
        have HDD:=hide hD
        have hpl:p<ds.length:=by rw [HDL.out];exact hpm
        have HPL2:=hide hpl
        have cr:wc.cell? ⟨g,p,none⟩=some (.int .i64 J):=by
         have:=HR2.out.cell hpm
         rwa [set_getD ds p p J hpl,if_pos rfl] at this
        have fr:=HR2.out.frozen p
        clear hu hD hpl
        go_wp2_with fail
        go_region
        all_goals go_wp2
        all_goals go_roundw
        all_goals try (case measure=>simp [intOf];omega)
        all_goals
         have hsum:joinS p (xss.take (j+1+1))=J+D:=by
          rw [take_snocL xss (j+1) (by rw [HN.out];omega),joinS_snoc,<-HJ.out,<-HDJ.out,<-HDD.out]
         have hrow:RowI ((wc.setCell ⟨g,p,none⟩ (.int .i64 (J+D))).drew) g m (ds.set p (joinS p (xss.take (j+1+1)))):=by
          rw [hsum]
          refine (World.rowIs.set HR2.out p (.int .i64 (J+D))).congr (fun t _=>?_)
          rw [set_getD ds p t (J+D) HPL2.out,set_getD ds p t J HPL2.out]
          by_cases e:t=p<;>simp [e]
         have hr:∃ j':Nat,j'<=len-1/\Value.int .i64 ((j:Int)+1)=.int .i64 j'/\(∀ t,t<j'->joinB p ds (xss[t+1]?.getD [])=true)/\RowI ((wc.setCell ⟨g,p,none⟩ (.int .i64 (J+D))).drew) g m (ds.set p (joinS p (xss.take (j'+1))))/\Below w.heap.size w ((wc.setCell ⟨g,p,none⟩ (.int .i64 (J+D))).drew):=by
          refine ⟨j+1,by omega,by go_num,fun t ht=>?_,hrow,(HB2.out.setCell (p:=⟨g,p,none⟩) (by simp;omega) _).drew⟩
          by_cases e:t=j
          · rw [e,<-HDJ.out];exact HJT.out
          · exact HG.out t (by omega)
         first
          | exact hr
          | (repeat apply Exists.intro
             exact ⟨hr,rfl⟩)
    · obtain rfl:j=len-1:=by omega
      go_wp2
      go_ret2
      have e1:len-1+1=len:=by omega
      have e2:=HR.out
      rw [e1,List.take_of_length_le (by rw [HN.out];exact Nat.le_refl _)] at e2
      have e3:(xss.drop 1).all (joinB p ds)=true:=(joinAll_iff _ _).2 (fun t ht=>HG.out t (by rw [HN.out] at ht;omega))
      have e4:=HSB.out len
      rw [List.take_of_length_le (by rw [HN.out];exact Nat.le_refl _)] at e4
      rw [HJP.out,if_pos e3]
      exact ⟨outP_new (newAt_row (w:=w) e2 (by omega) (by rw [List.length_set];exact HDL.out) (by omega) (set_bd HL0.out.1.2.2.1 (by omega))) 0,HB.out⟩
theorem rpadDims_any (k x:Int) (vd va:Value) (la:Option Addr) (ll lc:Nat) (lo:List Int) (ha:Option Addr) (hl hc:Nat) (hi:List Int) (ta:Option Addr) (tl tc:Nat) (st:List Int) (da:Option Addr) (dl dc:Nat) (ds:List Int) (w:World)
 (hlo:Ints w la ll lo) (hhi:Ints w ha hl hi) (hst:Ints w ta tl st) (hd:Ints w da dl ds) (hz:sizeE ds=0) :
 Calls Tryz.prog 55 #[.agg #[.int .i64 k,vd,va,.slice la ll lc,.slice ha hl hc,.slice ta tl tc,.int .i64 x],.slice da dl dc] w fun e w'=>OutP e w' (padP ds lo hi st)/\Below w.heap.size w w':=by
 have HLO:=hide hlo
 have HHI:=hide hhi
 have HST:=hide hst
 have HD:=hide hd
 have HN:=hide hd.1
 have HZ:=hide (sizeE_ok hz).2.1
 have h6:dl<=6:=by have:=(sizeE_ok hz).1;have:=hd.1;omega
 obtain ⟨i0,hi0,hz0,hz1,hz2⟩:=info_parts info_int
 have HI:=hide hi0
 have HZ0:=hide hz0
 have HZ1:=hide hz1
 have HZ2:=hide hz2
 clear hi0 hz0 hz1 hz2
 have HB1:=hide ((Below.refl w.heap.size w).alloc (Nat.le_refl _) (.cells #[.int .i64 k,vd,va,.slice la ll lc,.slice ha hl hc,.slice ta tl tc,.int .i64 x] 38))
 have HOP:=hide (OpAt.new w k vd va (.slice la ll lc) (.slice ha hl hc) (.slice ta tl tc) x)
 have e1:=hlo.1
 have e2:=hhi.1
 have e3:=hst.1
 have e4:=hd.1
 clear hlo hhi hst hd hz
 by_cases cl:ll=dl/\hl=dl/\tl=dl
 case neg =>
  have hp:padP ds lo hi st=([],6):=by
   unfold padP lensB
   rw [e1,e2,e3,e4,if_neg]
   simp only [Bool.and_eq_true,decide_eq_true_eq];exact cl
  rw [hp]
  clear hp e1 e2 e3 e4
  by_cases q1:ll=dl
  · by_cases q2:hl=dl
    · have q3:((tl:Int) != (dl:Int))=true:=by simp;omega
      subst q1
      subst q2
      clear cl
      go_enter Tryz.func55,Tryz.ntmps55
      go_wp2
      go_ret2
      exact ⟨outP_none _ _,HB1.out⟩
    · have q3:((hl:Int) != (dl:Int))=true:=by simp;omega
      subst q1
      clear cl q2
      go_enter Tryz.func55,Tryz.ntmps55
      go_wp2
      go_ret2
      exact ⟨outP_none _ _,HB1.out⟩
  · have q3:((ll:Int) != (dl:Int))=true:=by simp;omega
    clear cl q1
    go_enter Tryz.func55,Tryz.ntmps55
    go_wp2
    go_ret2
    exact ⟨outP_none _ _,HB1.out⟩
 obtain ⟨q1,q2,q3⟩:=cl
 have hp:padP ds lo hi st=if anyPad ds.length lo hi st=true then ([],4) else (padD ds lo hi st,0):=by
  unfold padP lensB
  rw [e1,e2,e3,e4,if_pos]
  simp only [Bool.and_eq_true,decide_eq_true_eq];exact ⟨q1,q2,q3⟩
 have HPP:=hide hp
 obtain rfl:=q1
 obtain rfl:=q2
 obtain rfl:=q3
 clear hp e1 e2 e3 e4
 go_enter Tryz.func55,Tryz.ntmps55
 go_wp2
 go_loopw [6,33] (fun v i wr=>∃ m:Nat,m<=tl/\i=.int .i64 m/\OpAt wr w.heap.size k vd va (.slice la tl lc) (.slice ha tl hc) (.slice ta tl tc) x/\wr.ownsRow (w.heap.size+1) 3 1 v m (((padD ds lo hi st).take m).map (Value.int .i64))/\(∀ j,j<m->padBad lo hi st j=false)/\Below w.heap.size w wr) (fun _ i _=>tl-(intOf i).toNat)
 case atStart=>exact ⟨0,Nat.zero_le _,rfl,HOP.out,World.ownsRow_nil _ _ _ _,fun j hj=>by omega,HB1.out⟩
 case round =>
  obtain ⟨m,hm,rfl,hop,hown,hgood,hB⟩:=hrel
  have HO:=hide hop
  have HX:=hide hown
  have HG:=hide hgood
  have HB:=hide hB
  clear hop hown hgood hB
  by_cases hlt:m<tl
  · obtain ⟨lb,lof,rfl,hlb,hlc⟩:=HLO.out.at (by omega)
    obtain ⟨hb,hof,rfl,hhb,hhc⟩:=HHI.out.at (by omega)
    obtain ⟨tb,tof,rfl,htb,htc⟩:=HST.out.at (by omega)
    obtain ⟨db,dof,rfl,hdb,hdc⟩:=HD.out.at (by omega)
    obtain ⟨L,hL⟩:∃ L,L=lo[m]?.getD 0:=⟨_,rfl⟩
    obtain ⟨U,hU⟩:∃ U,U=hi[m]?.getD 0:=⟨_,rfl⟩
    obtain ⟨T,hT⟩:∃ T,T=st[m]?.getD 0:=⟨_,rfl⟩
    obtain ⟨D,hD⟩:∃ D,D=ds[m]?.getD 0:=⟨_,rfl⟩
    have cl:wr.cell? ⟨lb,lof+m,none⟩=some (.int .i64 L):=by rw [hL];exact (HB.out.cell (p:=⟨lb,lof+m,none⟩) hlb).trans (hlc m hlt)
    have ch:wr.cell? ⟨hb,hof+m,none⟩=some (.int .i64 U):=by rw [hU];exact (HB.out.cell (p:=⟨hb,hof+m,none⟩) hhb).trans (hhc m hlt)
    have ct:wr.cell? ⟨tb,tof+m,none⟩=some (.int .i64 T):=by rw [hT];exact (HB.out.cell (p:=⟨tb,tof+m,none⟩) htb).trans (htc m hlt)
    have cd:wr.cell? ⟨db,dof+m,none⟩=some (.int .i64 D):=by rw [hD];exact (HB.out.cell (p:=⟨db,dof+m,none⟩) hdb).trans (hdc m hlt)
    have hDb:0<=D/\D<=4096:=by rw [hD];exact HZ.out _ (mem_getD ds m (by rw [HN.out];exact hlt))
    have HPB:Hid (padBad lo hi st m=(decide (L<0) || (decide (4096<L) || (decide (U<0) || (decide (4096<U) || (decide (T<1) || decide (4096<T))))))):=by rw [Hid,hL,hU,hT];rfl
    have HPV:Hid (padV ds lo hi st m=L+U+(if 0<D then (D-1)*T+1 else 0)):=by rw [Hid,hL,hU,hT,hD];rfl
    obtain ⟨o0,o1,o2,o3,o4,o5,o6⟩:=HO.out.cells
    have i1:(0:Int)<=(m:Int):=Int.natCast_nonneg _
    have i2:(m:Int)<(tl:Int):=by omega
    have HBAD:Hid (padBad lo hi st m=true->padP ds lo hi st=([],4)):=fun hb=>by
     rw [HPP.out,if_pos]
     unfold anyPad
     rw [List.any_eq_true]
     exact ⟨m,by rw [List.mem_range,HN.out];exact hlt,hb⟩
    have HCL:Hid (∀ wx,Below w.heap.size w wx->wx.cell? ⟨lb,lof+m,none⟩=some (.int .i64 L)):=fun wx hx=>by rw [hL];exact (hx.cell (p:=⟨lb,lof+m,none⟩) hlb).trans (hlc m hlt)
    have HCH:Hid (∀ wx,Below w.heap.size w wx->wx.cell? ⟨hb,hof+m,none⟩=some (.int .i64 U)):=fun wx hx=>by rw [hU];exact (hx.cell (p:=⟨hb,hof+m,none⟩) hhb).trans (hhc m hlt)
    clear hlc hhc htc hdc hL hU hT hD
    by_cases x1:L<0
    · go_wp2
      go_ret2
      rw [HBAD.out (by rw [HPB.out];simp [x1])]
      exact ⟨outP_none _ _,HB.out⟩
    by_cases x2:4096<L
    · go_wp2
      go_ret2
      rw [HBAD.out (by rw [HPB.out];simp [x2])]
      exact ⟨outP_none _ _,HB.out⟩
    by_cases x3:U<0
    · go_wp2
      go_ret2
      rw [HBAD.out (by rw [HPB.out];simp [x3])]
      exact ⟨outP_none _ _,HB.out⟩
    by_cases x4:4096<U
    · go_wp2
      go_ret2
      rw [HBAD.out (by rw [HPB.out];simp [x4])]
      exact ⟨outP_none _ _,HB.out⟩
    by_cases x5:T<1
    · go_wp2
      go_ret2
      rw [HBAD.out (by rw [HPB.out];simp [x5])]
      exact ⟨outP_none _ _,HB.out⟩
    by_cases x6:4096<T
    · go_wp2
      go_ret2
      rw [HBAD.out (by rw [HPB.out];simp [x6])]
      exact ⟨outP_none _ _,HB.out⟩
    have HOK:Hid (padBad lo hi st m=false):=by
     rw [Hid,HPB.out]
     simp;omega
    have HGS:Hid (∀ j,j<m+1->padBad lo hi st j=false):=fun j hj=>by
     by_cases e:j=m
     · rw [e];exact HOK.out
     · exact HG.out j (by omega)
    have HTS:Hid ((padD ds lo hi st).take (m+1)=(padD ds lo hi st).take m++[padV ds lo hi st m]):=by
     have hkd:m<ds.length:=by rw [HN.out];exact hlt
     rw [Hid,take_succ_getD _ m (by rw [padD_length];exact hkd),padD_getD ds lo hi st m hkd]
    have HFIN:Hid (∀ (wx w2:World) (v':Value) (V:Int),V=padV ds lo hi st m->OpAt wx w.heap.size k vd va (.slice (some ⟨lb,lof,none⟩) tl lc) (.slice (some ⟨hb,hof,none⟩) tl hc) (.slice (some ⟨tb,tof,none⟩) tl tc) x->Below w.heap.size w wx->wx.ownsRow (w.heap.size+1) 3 1 u6 m (((padD ds lo hi st).take m).map (Value.int .i64))->w2.ownsRow (w.heap.size+1) 3 1 v' (m+1) (((padD ds lo hi st).take m).map (Value.int .i64)++[.int .i64 V])->wx.grownBy w2 u6.ownBlock ->
     OpAt w2 w.heap.size k vd va (.slice (some ⟨lb,lof,none⟩) tl lc) (.slice (some ⟨hb,hof,none⟩) tl hc) (.slice (some ⟨tb,tof,none⟩) tl tc) x/\w2.ownsRow (w.heap.size+1) 3 1 v' (m+1) (((padD ds lo hi st).take (m+1)).map (Value.int .i64))/\Below w.heap.size w w2):=by
     intro wx w2 v' V hV hop hBx hown hown2 hg
     refine ⟨?_,?_,?_⟩
     · have:=hg.block w.heap.size hop.lt (fun e=>by have:=(hown.lt _ e.symm).1;omega)
       exact this.trans hop
     · rw [HTS.out,List.map_append,<-hV];exact hown2
     · exact hBx.grown hg hBx.size (fun j e=>by have:=(hown.lt j e).1;omega)
    have hsz:w.heap.size+1<=wr.heap.size:=HO.out.lt
    by_cases cD:0<D
    · have hm3:0<=(D-1)*T:=Int.mul_nonneg (by omega) (by omega)
      have hm4:(D-1)*T<=4096*4096:=Int.mul_le_mul (by omega) (by omega) (by omega) (by omega)
      have HPV':Hid (padV ds lo hi st m=L+U+((D-1)*T+1)):=by rw [Hid,HPV.out,if_pos cD]
      obtain ⟨M,hM⟩:∃ M,M=(D-1)*T+1:=⟨_,rfl⟩
      have HM:=hide hM
      go_wp2_with fail
      go_cut [8] (fun n wc=>n=.int .i64 M/\OpAt wc w.heap.size k vd va (.slice (some ⟨lb,lof,none⟩) tl lc) (.slice (some ⟨hb,hof,none⟩) tl hc) (.slice (some ⟨tb,tof,none⟩) tl tc) x/\wc.ownsRow (w.heap.size+1) 3 1 u6 m (((padD ds lo hi st).take m).map (Value.int .i64))/\Below w.heap.size w wc)
      case first =>
       go_region
       all_goals go_wp2
       all_goals go_meet
       all_goals exact ⟨by rw [HM.out],HO.out,HX.out.drew,HB.out.drew⟩
      case rest =>
       obtain ⟨rfl,hop,hown,hB⟩:=hcut
       clear cl ch ct cd o0 o1 o2 o3 o4 o5 o6 HO HX HB hsz
       have HO:=hide hop
       have HX:=hide hown
       have HB:=hide hB
       have hsz:w.heap.size+1<=wc.heap.size:=hop.lt
       have cl:=HCL.out _ hB
       have ch:=HCH.out _ hB
       obtain ⟨o0,o1,o2,o3,o4,o5,o6⟩:=HO.out.cells
       clear hop hown hB
       have hMb:0<=M/\M<=4096*4096+1:=by omega
       have HV:Hid (IntKind.i64.wrap (IntKind.i64.wrap (L+M)+U)=padV ds lo hi st m):=by
        rw [Hid,HPV'.out,<-HM.out,wrap_in (L+M) (by omega) (by omega),wrap_in _ (by omega) (by omega)];omega
       clear hm3 hm4 hM cD
       go_wp2_with fail
       go_region_law ((refine step_append_lies _ (by rfl) _ _ _ (by rfl) (w.heap.size+1) 3 i0 _ 1 8 Tryz.underlying23 HI.out HZ0.out HZ1.out HZ2.out rfl (by omega) _ _ _ (by rfl) ((HX.out.alloc _).drew) ⟨wc.heap.size,0,none⟩ 1 1 [.int .i64 (IntKind.i64.wrap (IntKind.i64.wrap (L+M)+U))] (by rfl) (by rfl) (World.news_of_block (cs:=#[.int .i64 (IntKind.i64.wrap (IntKind.i64.wrap (L+M)+U))]) (t:=3) (fr:=(0,0)) (heap_alloc_new wc _)) (by simp [Value.oneCell']) (by omega) (by unfold maxLen;omega) (by omega) (by have:=HB.out.size;simp;omega) (wc.heap.size+1) (by simp) ?_;intro g1 c1 w2 hown1 hgrow hat hlt3;have HX2:=hide hown1;have HG2:=hide hgrow;clear hown1 hgrow hat))
       all_goals go_wp2
       all_goals go_roundw
       all_goals try (case measure=>simp [intOf];omega)
       all_goals
        have hf:=HFIN.out ((wc.alloc (.cells #[.int .i64 (IntKind.i64.wrap (IntKind.i64.wrap (L+M)+U))] 3)).drew) w2 _ _ HV.out (HO.out.alloc _) ((HB.out.alloc HB.out.size _).drew) ((HX.out.alloc _).drew) HX2.out HG2.out
        have hr:∃ m':Nat,m'<=tl/\Value.int .i64 ((m:Int)+1)=.int .i64 m'/\OpAt w2 w.heap.size k vd va (.slice (some ⟨lb,lof,none⟩) tl lc) (.slice (some ⟨hb,hof,none⟩) tl hc) (.slice (some ⟨tb,tof,none⟩) tl tc) x/\w2.ownsRow (w.heap.size+1) 3 1 (.slice (some ⟨g1,0,none⟩) (m+1) c1) m' (((padD ds lo hi st).take m').map (Value.int .i64))/\(∀ j,j<m'->padBad lo hi st j=false)/\Below w.heap.size w w2:=⟨m+1,by omega,by go_num,hf.1,hf.2.1,HGS.out,hf.2.2⟩
        first
         | exact hr
         | (repeat apply Exists.intro
            exact ⟨hr,rfl⟩)
    · have HPV':Hid (padV ds lo hi st m=L+U):=by rw [Hid,HPV.out,if_neg cD];omega
      have HV:Hid (IntKind.i64.wrap (IntKind.i64.wrap L+U)=padV ds lo hi st m):=by
       rw [Hid,HPV'.out,wrap_in L (by omega) (by omega),wrap_in _ (by omega) (by omega)]
      go_wp2_with fail
      go_region_law ((refine step_append_lies _ (by rfl) _ _ _ (by rfl) (w.heap.size+1) 3 i0 _ 1 8 Tryz.underlying23 HI.out HZ0.out HZ1.out HZ2.out rfl (by omega) _ _ _ (by rfl) ((HX.out.alloc _).drew) ⟨wr.heap.size,0,none⟩ 1 1 [.int .i64 (IntKind.i64.wrap (IntKind.i64.wrap L+U))] (by rfl) (by rfl) (World.news_of_block (cs:=#[.int .i64 (IntKind.i64.wrap (IntKind.i64.wrap L+U))]) (t:=3) (fr:=(0,0)) (heap_alloc_new wr _)) (by simp [Value.oneCell']) (by omega) (by unfold maxLen;omega) (by omega) (by have:=HB.out.size;simp;omega) (wr.heap.size+1) (by simp) ?_;intro g1 c1 w2 hown1 hgrow hat hlt3;have HX2:=hide hown1;have HG2:=hide hgrow;clear hown1 hgrow hat))
      all_goals go_wp2
      all_goals go_roundw
      all_goals try (case measure=>simp [intOf];omega)
      all_goals
       have hf:=HFIN.out ((wr.alloc (.cells #[.int .i64 (IntKind.i64.wrap (IntKind.i64.wrap L+U))] 3)).drew) w2 _ _ HV.out (HO.out.alloc _) ((HB.out.alloc HB.out.size _).drew) ((HX.out.alloc _).drew) HX2.out HG2.out
       exact ⟨m+1,by omega,by go_num,hf.1,hf.2.1,HGS.out,hf.2.2⟩
  · obtain rfl:m=tl:=by omega
    have hp:padP ds lo hi st=(padD ds lo hi st,0):=by
     rw [HPP.out,if_neg]
     unfold anyPad
     rw [List.any_eq_true]
     rintro ⟨j,hj,hb⟩
     rw [List.mem_range,HN.out] at hj
     rw [HG.out j hj] at hb
     cases hb
    have HPF:=hide hp
    clear hp
    go_wp2
    go_ret2
    rw [HPF.out]
    have ho:=HX.out
    rw [List.take_of_length_le (by rw [padD_length,HN.out];exact Nat.le_refl _)] at ho
    refine ⟨outP_new (newAt_own' (w:=w) ho (by omega) (by rw [padD_length,HN.out]) (by omega) (fun y hy=>?_)) 0,HB.out⟩
    obtain ⟨j,hj,rfl⟩:=List.getElem_of_mem hy
    have hj':j<ds.length:=by rw [padD_length] at hj;exact hj
    have e1:=padD_getD ds lo hi st j hj'
    have e2:(padD ds lo hi st)[j]?.getD 0=(padD ds lo hi st)[j]:=by simp [hj]
    rw [<-e2,e1]
    have:=padV_bd (ds:=ds) (HZ.out _ (mem_getD ds j hj')) (HG.out j (by rw [HN.out] at hj';exact hj'))
    omega
theorem shape_same (k x:Int) (ea:Option Addr) (el ec:Nat) (es:List Int) (pa:Option Addr) (pl pc:Nat) (ps:List Int) (la:Option Addr) (ll lc:Nat) (lo:List Int) (ha:Option Addr) (hl hc:Nat) (hi:List Int) (ta:Option Addr) (tl tc:Nat) (st:List Int) (A:Option Addr) (len cap:Nat) (xss:List (List Int)) (w:World)
 (he:Lst w ea el ec es) (hp:Lst w pa pl pc ps) (hlo:Lst w la ll lc lo) (hhi:Lst w ha hl hc hi) (hst:Lst w ta tl tc st) (h:Lsts w A len xss) (hcap:len<=cap) (hz:∀ d∈xss,sizeE d=0) (hk:3<=k/\k<=8) (hn:1<=len) (hlen:len<=1048576) (b0:el<=1048576) (b1:pl<=1048576) (b2:ll<=1048576) (b3:hl<=1048576) (b4:tl<=1048576) :
 Calls Tryz.prog 44 #[.agg #[.int .i64 k,.slice ea el ec,.slice pa pl pc,.slice la ll lc,.slice ha hl hc,.slice ta tl tc,.int .i64 x],.slice A len cap] w fun e w'=>OutP e w' (sameP xss)/\Below w.heap.size w w':=by
 have zz:=And.intro hcap (And.intro hlen (And.intro hn (And.intro b0 (And.intro b1 (And.intro b2 (And.intro b3 b4))))))
 clear zz
 have HE:=hide he
 have HP:=hide hp
 have HLO:=hide hlo
 have HHI:=hide hhi
 have HST:=hide hst
 have H:=hide h
 have HN:=hide h.1
 have HZ:=hide hz
 have HB1:=hide ((Below.refl w.heap.size w).alloc (Nat.le_refl _) (.cells #[.int .i64 k,.slice ea el ec,.slice pa pl pc,.slice la ll lc,.slice ha hl hc,.slice ta tl tc,.int .i64 x] 38))
 have HOP:=hide (OpAt.new w k (.slice ea el ec) (.slice pa pl pc) (.slice la ll lc) (.slice ha hl hc) (.slice ta tl tc) x)
 obtain ⟨o0,o1,o2,o3,o4,o5,o6⟩:=HOP.out.cells
 obtain ⟨b,off,rfl,hc⟩:=h.at (by omega)
 obtain ⟨X0,m0,c0,hc0,hl0⟩:=hc 0 (by omega)
 have hc0':w.cell? ⟨b,off,none⟩=some (.slice X0 m0 c0):=hc0
 obtain ⟨ds,hds⟩:∃ ds,ds=xss[0]?.getD []:=⟨_,rfl⟩
 rw [<-hds] at hl0
 have HL0:=hide hl0
 have HC0:=hide hc0'
 have hzd:sizeE ds=0:=by rw [hds];exact hz _ (mem_getDL xss 0 (by rw [h.1];omega))
 have HZD:=hide hzd
 have h06:m0<=6:=by have:=(sizeE_ok hzd).1;have:=hl0.1.1;omega
 have HD1:=hide (HL0.out.below HB1.out)
 have q0:=(HB1.out.cell (p:=⟨b,off,none⟩) (lt_of_cell hc0')).trans hc0'
 have i0:(0:Int)<(len:Int):=by omega
 clear h he hp hlo hhi hst hz hc0 hc0' hl0 hzd
 have H6:Hid ((xss[0]?.getD []).length<=6):=by rw [Hid,<-hds];exact (sizeE_ok HZD.out).1
 have hk':k=3\/k=4\/k=5\/k=6\/k=7\/k=8:=by omega
 clear hk
 clear hc hds
 rcases hk' with rfl | rfl | rfl | rfl | rfl | rfl
 all_goals go_enter Tryz.func44,Tryz.ntmps44
 all_goals go_wp2_with (go_at_call 68;refine (sameDims_any _ _ _ xss _ (H.out.below HB1.out) hn H6.out).mono ?_;rintro e w1 ⟨⟨Z,nz,cz,rfl,hi1,hnc⟩,hb⟩;have HI1:=hide hi1;have HB2:=hide (Below.on HB1.out hb);clear hi1 hb)
 all_goals go_ret2
 all_goals exact ⟨⟨_,_,_,rfl,HI1.out,hnc⟩,HB2.out⟩
theorem ruled_same (k x:Int) (ea:Option Addr) (el ec:Nat) (es:List Int) (pa:Option Addr) (pl pc:Nat) (ps:List Int) (la:Option Addr) (ll lc:Nat) (lo:List Int) (ha:Option Addr) (hl hc:Nat) (hi:List Int) (ta:Option Addr) (tl tc:Nat) (st:List Int) (A:Option Addr) (len cap:Nat) (xss:List (List Int)) (w:World)
 (he:Lst w ea el ec es) (hp:Lst w pa pl pc ps) (hlo:Lst w la ll lc lo) (hhi:Lst w ha hl hc hi) (hst:Lst w ta tl tc st) (h:Lsts w A len xss) (hcap:len<=cap) (hz:∀ d∈xss,sizeE d=0) (hk:3<=k/\k<=8) (hn:1<=len) (hlen:len<=1048576) (b0:el<=1048576) (b1:pl<=1048576) (b2:ll<=1048576) (b3:hl<=1048576) (b4:tl<=1048576) :
 Calls Tryz.prog 42 #[.agg #[.int .i64 k,.slice ea el ec,.slice pa pl pc,.slice la ll lc,.slice ha hl hc,.slice ta tl tc,.int .i64 x],.slice A len cap] w fun e w'=>OutP e w' (sameP xss)/\Below w.heap.size w w':=by
 have zz:=And.intro hcap (And.intro hlen (And.intro hn (And.intro b0 (And.intro b1 (And.intro b2 (And.intro b3 b4))))))
 clear zz
 have HE:=hide he
 have HP:=hide hp
 have HLO:=hide hlo
 have HHI:=hide hhi
 have HST:=hide hst
 have H:=hide h
 have HN:=hide h.1
 have HZ:=hide hz
 have HB1:=hide ((Below.refl w.heap.size w).alloc (Nat.le_refl _) (.cells #[.int .i64 k,.slice ea el ec,.slice pa pl pc,.slice la ll lc,.slice ha hl hc,.slice ta tl tc,.int .i64 x] 38))
 have HOP:=hide (OpAt.new w k (.slice ea el ec) (.slice pa pl pc) (.slice la ll lc) (.slice ha hl hc) (.slice ta tl tc) x)
 obtain ⟨o0,o1,o2,o3,o4,o5,o6⟩:=HOP.out.cells
 obtain ⟨b,off,rfl,hc⟩:=h.at (by omega)
 obtain ⟨X0,m0,c0,hc0,hl0⟩:=hc 0 (by omega)
 have hc0':w.cell? ⟨b,off,none⟩=some (.slice X0 m0 c0):=hc0
 obtain ⟨ds,hds⟩:∃ ds,ds=xss[0]?.getD []:=⟨_,rfl⟩
 rw [<-hds] at hl0
 have HL0:=hide hl0
 have HC0:=hide hc0'
 have hzd:sizeE ds=0:=by rw [hds];exact hz _ (mem_getDL xss 0 (by rw [h.1];omega))
 have HZD:=hide hzd
 have h06:m0<=6:=by have:=(sizeE_ok hzd).1;have:=hl0.1.1;omega
 have HD1:=hide (HL0.out.below HB1.out)
 have q0:=(HB1.out.cell (p:=⟨b,off,none⟩) (lt_of_cell hc0')).trans hc0'
 have i0:(0:Int)<(len:Int):=by omega
 clear h he hp hlo hhi hst hz hc0 hc0' hl0 hzd
 have HC:=hide hc
 have HDS:=hide hds
 have hk':k=3\/k=4\/k=5\/k=6\/k=7\/k=8:=by omega
 clear hk
 clear hc hds
 rcases hk' with rfl | rfl | rfl | rfl | rfl | rfl
 all_goals go_enter Tryz.func42,Tryz.ntmps42
 all_goals go_wp2
 all_goals go_loopw [27] (fun i wr=>∃ j:Nat,j<=len/\i=.int .i64 j/\(∀ t,t<j->xss[t]?.getD []=xss[0]?.getD [])/\Below w.heap.size w wr) (fun i _=>len-(intOf i).toNat)
 all_goals try (case atStart=>exact ⟨0,Nat.zero_le _,rfl,fun j hj=>by omega,HB1.out⟩)
 all_goals
  obtain ⟨j,hj,rfl,hsame,hB⟩:=hrel
  have HS:=hide hsame
  have HB:=hide hB
  clear hsame hB q0
  have k0:wr.cell? ⟨b,off,none⟩=some (.slice X0 m0 c0):=(HB.out.cell (p:=⟨b,off,none⟩) (lt_of_cell HC0.out)).trans HC0.out
  by_cases hlt:j<len
  · obtain ⟨X,m,c,hcj0,hlj⟩:=HC.out j hlt
    have hcj:wr.cell? ⟨b,off+j,none⟩=some (.slice X m c):=(HB.out.cell (p:=⟨b,off+j,none⟩) (lt_of_cell hcj0)).trans hcj0
    have HLJ:=hide hlj
    clear hlj hcj0
    by_cases q:xss[j]?.getD []=ds
    · have Q:Hid (decide (xss[j]?.getD []=ds)=true):=decide_eq_true q
      have Q':=hide q
      clear q
      go_wp2_with (go_at_call 12;refine (sameList_any _ _ _ (xss[j]?.getD []) _ _ _ ds _ (HLJ.out.1.below HB.out) (HL0.out.1.below HB.out)).mono ?_;rintro e w1 ⟨rfl,n1,hw1⟩;rw [Q.out];have HB2:=hide (Below.on HB.out (hw1 ▸ below_drewN _ n1));clear hw1)
      go_roundw
      case rel =>
       refine ⟨j+1,by omega,by go_num,fun t ht=>?_,HB2.out⟩
       by_cases e:t=j
       · rw [e,<-HDS.out];exact Q'.out
       · exact HS.out t (by omega)
      case measure=>simp [intOf];omega
    · have Q:Hid (decide (xss[j]?.getD []=ds)=false):=decide_eq_false q
      have Q':=hide q
      clear q
      go_wp2_with (go_at_call 12;refine (sameList_any _ _ _ (xss[j]?.getD []) _ _ _ ds _ (HLJ.out.1.below HB.out) (HL0.out.1.below HB.out)).mono ?_;rintro e w1 ⟨rfl,n1,hw1⟩;rw [Q.out];have HB2:=hide (Below.on HB.out (hw1 ▸ below_drewN _ n1));clear hw1)
      go_ret2
      have hp:sameP xss=([],6):=by
       unfold sameP
       rw [if_neg]
       intro hs
       exact Q'.out (((sameB_iff xss).1 hs j (by rw [HN.out];exact hlt)).trans HDS.out.symm)
      rw [hp]
      exact ⟨outP_none _ _,HB2.out⟩
  · obtain rfl:j=len:=by omega
    go_wp2
    go_ret2
    have hp:sameP xss=(ds,0):=by
     unfold sameP
     rw [if_pos,<-HDS.out]
     exact (sameB_iff xss).2 (fun t ht=>HS.out t (by rw [HN.out] at ht;exact ht))
    rw [hp]
    exact ⟨outP_lst (HL0.out.below HB.out) 0,HB.out⟩
end Go.Proofs.YtdbkgeehjfnhbaaGreatDoor.V
