/-
  
-/
import Derived.Test.YtakpedjhgdkhkaaGreatDoorK37
namespace Go.Proofs.YtakpedjhgdkhkaaGreatDoor.V
set_option maxRecDepth 100000
set_option maxHeartbeats 8000000
open Go.RowKit
theorem rcut_wrong (s:Int) (da:Option Addr) (dl dc:Nat) (ds:List Int) (sa:Option Addr) (sl sc:Nat) (ss:List Int) (la:Option Addr) (ll lc:Nat) (ha:Option Addr) (hl hc:Nat) (ta:Option Addr) (tl tc:Nat) (w:World)
 (hd:Ints w da dl ds) (hs:Ints w sa sl ss) (hW:wrongE s ds ss≠0) :
 Calls Tryz.prog 76 #[.agg #[.int .i64 s,.slice da dl dc,.slice sa sl sc],.slice la ll lc,.slice ha hl hc,.slice ta tl tc] w fun e w'=>e=.returned (.tuple #[.agg #[.int .i64 0,.slice none 0 0,.slice none 0 0],.int .i64 (wrongE s ds ss)])/\Below w.heap.size w w':=by
 have HD:=hide hd
 have HS:=hide hs
 have c1:(wrongE s ds ss != 0)=true:=by simp [hW]
 clear hd hs hW
 have hb2:Below w.heap.size w ((w.alloc (.cells #[.int .i64 s,.slice da dl dc,.slice sa sl sc] 79)).alloc (.cells #[.int .i64 0,.slice none 0 0,.slice none 0 0] 79)):=((Below.refl _ _).alloc (Nat.le_refl _) _).alloc (by simp) _
 have HB2:=hide hb2
 clear hb2
 go_enter Tryz.func76,Tryz.ntmps76
 go_wp2_with fail
 refine (rwrong_any _ _ _ _ ds _ _ _ ss _ (HD.out.below HB2.out) (HS.out.below HB2.out)).mono ?_
 rintro e w1 ⟨rfl,hb⟩
 have HB:=hide (Below.on HB2.out hb)
 obtain ⟨hc1,hf1⟩:=bcell hb
 have hz:=hb.size
 simp at hz
 clear hb
 go_wp2
 refine bodyPost_ret (v:=.tuple #[.agg #[.int .i64 0,.slice none 0 0,.slice none 0 0],.int .i64 (wrongE s ds ss)]) (by simp [results,Tryz.results76,go_sem,hc1]) rfl ⟨rfl,?_⟩
 exact ((HB.out.setCell (p:=⟨w.heap.size+1,0,none⟩) (by simp) _).setCell (p:=⟨w.heap.size+1,1,none⟩) (by simp) _).setCell (p:=⟨w.heap.size+1,2,none⟩) (by simp) _
theorem rcut_shape (s:Int) (da:Option Addr) (dl dc:Nat) (ds:List Int) (sa:Option Addr) (sl sc:Nat) (ss:List Int) (la:Option Addr) (ll lc:Nat) (ha:Option Addr) (hl hc:Nat) (ta:Option Addr) (tl tc:Nat) (w:World)
 (hd:Ints w da dl ds) (hs:Ints w sa sl ss) (hW:wrongE s ds ss=0) (hP:¬ (ll=dl/\hl=dl/\tl=dl)) :
 Calls Tryz.prog 76 #[.agg #[.int .i64 s,.slice da dl dc,.slice sa sl sc],.slice la ll lc,.slice ha hl hc,.slice ta tl tc] w fun e w'=>e=.returned (.tuple #[.agg #[.int .i64 0,.slice none 0 0,.slice none 0 0],.int .i64 6])/\Below w.heap.size w w':=by
 have HD:=hide hd
 have HS:=hide hs
 have HW:=hide hW
 clear hd hs hW
 have hb2:Below w.heap.size w ((w.alloc (.cells #[.int .i64 s,.slice da dl dc,.slice sa sl sc] 79)).alloc (.cells #[.int .i64 0,.slice none 0 0,.slice none 0 0] 79)):=((Below.refl _ _).alloc (Nat.le_refl _) _).alloc (by simp) _
 have HB2:=hide hb2
 clear hb2
 have HP:=hide hP
 clear hP
 go_enter Tryz.func76,Tryz.ntmps76
 go_wp2_with fail
 refine (rwrong_any _ _ _ _ ds _ _ _ ss _ (HD.out.below HB2.out) (HS.out.below HB2.out)).mono ?_
 rintro e w1 ⟨rfl,hb⟩
 rw [HW.out]
 have HB:=hide (Below.on HB2.out hb)
 have hV1:ViewAt w1 w.heap.size (.int .i64 s) (.slice da dl dc) (.slice sa sl sc):=((ViewAt.new w _ _ _).alloc _).below hb
 have hR1:ViewAt w1 (w.heap.size+1) (.int .i64 0) (.slice none 0 0) (.slice none 0 0):=by
  have:=(ViewAt.new (w.alloc (.cells #[.int .i64 s,.slice da dl dc,.slice sa sl sc] 79)) (.int .i64 0) (.slice none 0 0) (.slice none 0 0)).below hb
  simpa using this
 obtain ⟨⟨v0,v1,v2⟩,_⟩:=hV1.cells
 obtain ⟨⟨r0,r1,r2⟩,rf0,rf1,rf2⟩:=hR1.cells
 clear hb hV1 hR1
 by_cases e1:ll=dl
 · subst e1
   by_cases e2:hl=ll
   · subst e2
     have e3:((tl:Int) != (hl:Int))=true:=by have:=HP.out;simp;omega
     go_wp2
     refine bodyPost_ret (v:=.tuple #[.agg #[.int .i64 0,.slice none 0 0,.slice none 0 0],.int .i64 6]) (by simp [results,Tryz.results76,go_sem,r0,r1,r2]) rfl ⟨rfl,below_put HB.out (by omega)⟩
   · have e2':((hl:Int) != (ll:Int))=true:=by simp;omega
     clear e2
     go_wp2
     refine bodyPost_ret (v:=.tuple #[.agg #[.int .i64 0,.slice none 0 0,.slice none 0 0],.int .i64 6]) (by simp [results,Tryz.results76,go_sem,r0,r1,r2]) rfl ⟨rfl,below_put HB.out (by omega)⟩
 · have e1':((ll:Int) != (dl:Int))=true:=by simp;omega
   clear e1
   go_wp2
   refine bodyPost_ret (v:=.tuple #[.agg #[.int .i64 0,.slice none 0 0,.slice none 0 0],.int .i64 6]) (by simp [results,Tryz.results76,go_sem,r0,r1,r2]) rfl ⟨rfl,below_put HB.out (by omega)⟩
theorem rcut_any (s:Int) (da:Option Addr) (dl dc:Nat) (ds:List Int) (sa:Option Addr) (sl sc:Nat) (ss:List Int) (la:Option Addr) (ll lc:Nat) (lo:List Int) (ha:Option Addr) (hl hc:Nat) (hi:List Int) (ta:Option Addr) (tl tc:Nat) (st:List Int) (w:World)
 (hd:Ints w da dl ds) (hs:Ints w sa sl ss) (hlo:Ints w la ll lo) (hhi:Ints w ha hl hi) (hst:Ints w ta tl st) :
 Calls Tryz.prog 76 #[.agg #[.int .i64 s,.slice da dl dc,.slice sa sl sc],.slice la ll lc,.slice ha hl hc,.slice ta tl tc] w fun e w'=>GivesF w da e w' (okS (cutE s ds ss lo hi st) (cutAcc s ss lo ds.length)) (okL (cutE s ds ss lo hi st) (cutD ds lo hi st)) (okL (cutE s ds ss lo hi st) (cutS ss st)) (cutE s ds ss lo hi st)/\Below w.heap.size w w':=by
 by_cases hW:wrongE s ds ss≠0
 · have e:cutE s ds ss lo hi st=wrongE s ds ss:=by simp [cutE,hW]
   rw [e]
   refine (rcut_wrong s da dl dc ds sa sl sc ss la ll lc ha hl hc ta tl tc w hd hs hW).mono ?_
   rintro e w' ⟨rfl,hb⟩
   simp only [okS,okL,if_neg hW]
   exact ⟨givesF_none _ _ _ _,hb⟩
 replace hW:wrongE s ds ss=0:=by simpa using hW
 obtain ⟨w1,w2,_⟩:=wrongE_ok hW
 have h6:=(sizeE_ok w1).1
 have ld:=hd.1
 have ls:=hs.1
 have l1:=hlo.1
 have l2:=hhi.1
 have l3:=hst.1
 by_cases hP:ll=dl/\hl=dl/\tl=dl
 · obtain ⟨rfl,rfl,rfl⟩:=hP
   obtain rfl:sl=tl:=by omega
   refine (rcut_ok s da sl dc ds sa sc ss la lc lo ha hc hi ta tc st w hd hs hlo hhi hst hW (by omega)).mono ?_
   rintro e w' ⟨h,hb⟩
   refine ⟨?_,hb⟩
   have er:lensB ds.length lo hi st=true:=lensB_true.2 ⟨by omega,by omega,by omega⟩
   rw [CutPost,<-ld] at h
   by_cases hA:anyBad ds lo hi st=true
   · rw [if_pos hA] at h
     have e:cutE s ds ss lo hi st=4:=by simp [cutE,hW,er,hA]
     rw [e];exact h
   · rw [if_neg hA] at h
     by_cases hB:beyondB (cutAcc s ss lo ds.length) (cutS ss st)=true
     · rw [if_pos hB] at h
       have e:cutE s ds ss lo hi st=5:=by simp [cutE,hW,er,hA,hB]
       rw [e];exact h
     · rw [if_neg hB] at h
       have e:cutE s ds ss lo hi st=0:=by simp [cutE,hW,er,hA,hB]
       rw [e];exact h
 · have e:cutE s ds ss lo hi st=6:=by
    have:lensB ds.length lo hi st=false:=by
     cases c:lensB ds.length lo hi st with
     | true=>exact absurd (lensB_true.1 c) (by omega)
     | false=>rfl
    simp [cutE,hW,this]
   rw [e]
   refine (rcut_shape s da dl dc ds sa sl sc ss la ll lc ha hl hc ta tl tc w hd hs hW hP).mono ?_
   rintro e w' ⟨rfl,hb⟩
   exact ⟨givesF_none _ _ _ _,hb⟩
end Go.Proofs.YtakpedjhgdkhkaaGreatDoor.V
