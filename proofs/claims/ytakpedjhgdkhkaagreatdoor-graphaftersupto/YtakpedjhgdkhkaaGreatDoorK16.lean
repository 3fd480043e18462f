import Derived.Test.YtakpedjhgdkhkaaGreatDoorK12
import Derived.Test.YtakpedjhgdkhkaaGreatDoorK14
import Derived.Test.YtakpedjhgdkhkaaGreatDoorK15
namespace Go.Proofs.YtakpedjhgdkhkaaGreatDoor.V
set_option maxRecDepth 100000
set_option maxHeartbeats 8000000
open Go.RowKit
theorem own_farT {w:World} {B n c:Nat} {X:Option Addr} {xs:List Value} (h:w.ownsRow B 3 1 (.slice X n c) n xs):Far B X:=by
 rcases h.2 with ⟨h1,_⟩ | ⟨g,cap,cur,h1,h2,_⟩
 · cases h1;exact far_none _
 · cases h1;exact far_some h2
theorem rturn_okF (s:Int) (da:Option Addr) (dl dc:Nat) (ds:List Int) (sa:Option Addr) (sc:Nat) (ss:List Int) (a:Option Addr) (cap:Nat) (ps:List Int) (w:World)
 (hd:Ints w da dl ds) (hs:Ints w sa dl ss) (hp:Ints w a dl ps) (hW:wrongE s ds ss=0) (hP:PermOk ps dl) (h6:dl<=6) :
 Calls Tryz.prog 75 #[.agg #[.int .i64 s,.slice da dl dc,.slice sa dl sc],.slice a dl cap] w fun e w'=>GivesF w da e w' s (taken ds ps) (taken ss ps) 0/\Below w.heap.size w w':=by
 have HD:=hide hd
 have HS:=hide hs
 have HP:=hide hp
 have HW:=hide hW
 have HPO:=hide hP
 have HPA:=hide ((perm_iff hP.1).1 hP.2)
 clear hd hs hp hW hP
 have hb2:Below w.heap.size w ((w.alloc (.cells #[.int .i64 s,.slice da dl dc,.slice sa dl sc] 79)).alloc (.cells #[.int .i64 0,.slice none 0 0,.slice none 0 0] 79)):=((Below.refl _ _).alloc (Nat.le_refl _) _).alloc (by simp) _
 have HB2:=hide hb2
 clear hb2
 obtain ⟨i0,hi,hz0,hz1,hz2⟩:=info_parts info_int
 have HI:=hide hi
 have HZ0:=hide hz0
 have HZ1:=hide hz1
 have HZ2:=hide hz2
 clear hi hz0 hz1 hz2
 go_enter Tryz.func75,Tryz.ntmps75
 go_wp2_with fail
 refine (rwrong_any _ _ _ _ ds _ _ _ ss _ (HD.out.below HB2.out) (HS.out.below HB2.out)).mono ?_
 rintro e w1 ⟨rfl,hb⟩
 rw [HW.out]
 have HB:=hide (Below.on HB2.out hb)
 have hV1:ViewAt w1 w.heap.size (.int .i64 s) (.slice da dl dc) (.slice sa dl sc):=((ViewAt.new w _ _ _).alloc _).below hb
 have hR1:ViewAt w1 (w.heap.size+1) (.int .i64 0) (.slice none 0 0) (.slice none 0 0):=by
  have:=(ViewAt.new (w.alloc (.cells #[.int .i64 s,.slice da dl dc,.slice sa dl sc] 79)) (.int .i64 0) (.slice none 0 0) (.slice none 0 0)).below hb
  simpa using this
 have HV1:=hide hV1
 have HR1:=hide hR1
 obtain ⟨⟨v0,v1,v2⟩,_⟩:=hV1.cells
 clear hb hV1 hR1
 go_wp2_with fail
 go_loop [27] (fun i=>∃ k:Nat,k<=dl/\i=.int .i64 k) (fun i=>dl-(intOf i).toNat)
 case atStart=>exact ⟨0,Nat.zero_le _,rfl⟩
 case round =>
  obtain ⟨k,hk,rfl⟩:=hrel
  by_cases hlt:k<dl
  · have hmem:ps.any (fun x=>x == (k:Int))=true:=by rw [List.any_eq_true];exact ⟨_,HPA.out k hlt,by simp⟩
    have HM:=hide hmem
    clear hmem
    go_wp2_with (go_at_call 92;refine (has_any _ _ _ ps _ _ (HP.out.below HB.out)).mono ?_;rintro e w' ⟨rfl,hw'⟩;obtain rfl:=hw'.symm;rw [HM.out])
    go_round
    case rel=>exact ⟨k+1,by omega,by go_num⟩
    case measure=>simp [intOf];omega
  · go_wp2_with fail
    have hC:ViewAt (w1.alloc (.cells #[.int .i64 s,.slice none 0 0,.slice none 0 0] 79)) w1.heap.size (.int .i64 s) (.slice none 0 0) (.slice none 0 0):=ViewAt.new w1 _ _ _
    go_loopw [41] (fun i wr=>∃ k:Nat,k<=dl/\i=.int .i64 k/\∃ (X:Option Addr) (c:Nat) (Y:Option Addr) (d:Nat),OutAt w wr w1.heap.size s k X c ((taken ds ps).take k) Y d ((taken ss ps).take k)/\(ViewAt wr w.heap.size (.int .i64 s) (.slice da dl dc) (.slice sa dl sc)/\ViewAt wr (w.heap.size+1) (.int .i64 0) (.slice none 0 0) (.slice none 0 0))/\Below w.heap.size w wr) (fun i _=>dl-(intOf i).toNat)
    case atStart =>
     exact ⟨0,Nat.zero_le _,rfl,none,0,none,0,⟨hC,World.ownsRow_nil _ _ _ _,World.ownsRow_nil _ _ _ _,.inl rfl⟩,⟨HV1.out.alloc _,HR1.out.alloc _⟩,HB.out.alloc HB.out.size _⟩
    case round =>
     clear hlt hk hC
     obtain ⟨m,hm,rfl,X,c,Y,d,⟨hO,hX,hY,hap⟩,⟨hv,hr⟩,hB⟩:=hrel
     have HO:=hide hO
     have HX:=hide hX
     have HY:=hide hY
     have HAP:=hide hap
     have HV:=hide hv
     have HR:=hide hr
     have HBw:=hide hB
     clear hO hX hY hap hv hr hB
     by_cases hlt:m<dl
     · obtain ⟨pb,poff,rfl,hpb,hpc⟩:=HP.out.at (by omega)
       obtain ⟨db,doff,rfl,hdb,hdc⟩:=HD.out.at (by omega)
       obtain ⟨sb,soff,rfl,hsb,hsc⟩:=HS.out.at (by omega)
       have hpo:=HPO.out.2 m hlt
       obtain ⟨q,hq⟩:∃ q:Nat,ps[m]?.getD 0=(q:Int):=⟨(ps[m]?.getD 0).toNat,by omega⟩
       have hqlt:q<dl:=by omega
       have cp:wr.cell? ⟨pb,poff+m,none⟩=some (.int .i64 (q:Int)):=by rw [<-hq];exact (HBw.out.cell (p:=⟨pb,poff+m,none⟩) hpb).trans (hpc m hlt)
       have cd:wr.cell? ⟨db,doff+q,none⟩=some (.int .i64 (ds[q]?.getD 0)):=(HBw.out.cell (p:=⟨db,doff+q,none⟩) hdb).trans (hdc q hqlt)
       have HSC:=hide (hsc q hqlt)
       have HDC:=hide (hdc q hqlt)
       have HPL:Hid (m<ps.length):=by rw [Hid,HPO.out.1];exact hlt
       have HQ:=hide hq
       obtain ⟨⟨v0,v1,v2⟩,_⟩:=HV.out.cells
       obtain ⟨⟨o0,o1,o2⟩,p0,p1,p2⟩:=HO.out.cells
       have i1:(0:Int)<=(q:Int):=Int.natCast_nonneg _
       have i2:(q:Int)<(dl:Int):=by omega
       have hCl:=HO.out.lt
       have hBl:=HV.out.lt
       clear hpc hdc hsc hq hpo
       go_wp2_with fail
       go_cut [] (fun wc=>∃ (g1 c1:Nat),ViewAt wc w1.heap.size (.int .i64 s) (.slice (some ⟨g1,0,none⟩) (m+1) c1) (.slice Y m d)/\(wc.ownsRow w.heap.size 3 1 (.slice (some ⟨g1,0,none⟩) (m+1) c1) (m+1) (((taken ds ps).take (m+1)).map (Value.int .i64))/\wc.ownsRow w.heap.size 3 1 (.slice Y m d) m (((taken ss ps).take m).map (Value.int .i64))/\some g1≠(Value.slice Y m d).ownBlock)/\(ViewAt wc w.heap.size (.int .i64 s) (.slice (some ⟨db,doff,none⟩) dl dc) (.slice (some ⟨sb,soff,none⟩) dl sc)/\ViewAt wc (w.heap.size+1) (.int .i64 0) (.slice none 0 0) (.slice none 0 0))/\Below w.heap.size w wc)
       case first =>
        go_region_law ((refine step_append_lies _ (by rfl) _ _ _ (by rfl) w.heap.size 3 i0 _ 1 8 Tryz.underlying23 HI.out HZ0.out HZ1.out HZ2.out rfl (by omega) _ _ _ (by rfl) ((HX.out.alloc _).drew) ⟨wr.heap.size,0,none⟩ 1 1 [.int .i64 (ds[q]?.getD 0)] (by rfl) (by rfl) (World.news_of_block (cs:=#[.int .i64 (ds[q]?.getD 0)]) (t:=3) (fr:=(0,0)) (heap_alloc_new wr _)) (by simp [Value.oneCell']) (by omega) (by unfold maxLen;omega) (by omega) (by have:=HBw.out.size;simp;omega) (wr.heap.size+1) (by simp) ?_;intro g1 c1 w2 hown1 hgrow hat hlt3;have hO2:=HO.out.grown HX.out hgrow;have hV2:=HV.out.grown HX.out hgrow;have hR2:=HR.out.grown HX.out hgrow;have hB2:=grown_below HBw.out HX.out hgrow;obtain ⟨⟨a0,a1,a2⟩,b0,b1,b2⟩:=hO2.cells;obtain ⟨⟨e0,e1,e2⟩,_⟩:=hV2.cells;have cd2:w2.cell? ⟨db,doff+q,none⟩=some (.int .i64 (ds[q]?.getD 0)):=(hB2.cell (p:=⟨db,doff+q,none⟩) hdb).trans HDC.out;have cs2:w2.cell? ⟨sb,soff+q,none⟩=some (.int .i64 (ss[q]?.getD 0)):=(hB2.cell (p:=⟨sb,soff+q,none⟩) hsb).trans HSC.out;have HO2:=hide hO2;have HV2:=hide hV2;have HR2:=hide hR2;have HB2':=hide hB2;have HX2:=hide hown1;have HG2:=hide hgrow;have HAT:=hide hat;have HY2:=hide (own_grown HY.out hgrow (apart_sym HAP.out));clear hO2 hV2 hR2 hB2 hown1 hgrow hat))
        all_goals go_wp2
        all_goals go_meet
        all_goals
         have hst:=taken_take_succ ds ps m q HPL.out HQ.out
         have hx:=HX2.out
         rw [<-hst] at hx
         refine ⟨g1,c1,HO2.out.set1 _,⟨own_view_set HO2.out hx 1 _,own_view_set HO2.out HY2.out 1 _,new_apart HAP.out HY.out HAT.out⟩,⟨HV2.out.set (p:=⟨w1.heap.size,1,none⟩) (by have:=HB.out.size;have:=HV1.out.lt;simp;omega) _,HR2.out.set (p:=⟨w1.heap.size,1,none⟩) (by have:=HR1.out.lt;simp;omega) _⟩,HB2'.out.setCell (p:=⟨w1.heap.size,1,none⟩) (by have:=HB.out.size;simp;omega) _⟩
       case rest =>
        obtain ⟨g1,c1,hO,⟨hX,hY,hne⟩,⟨hv,hr⟩,hB⟩:=hcut
        clear cp cd v0 v1 v2 o0 o1 o2 p0 p1 p2 hCl hBl HO HX HY HAP HV HR HBw
        have HO:=hide hO
        have HX:=hide hX
        have HY:=hide hY
        have HNE:=hide hne
        have HV:=hide hv
        have HR:=hide hr
        have HBw:=hide hB
        obtain ⟨⟨v0,v1,v2⟩,_⟩:=hv.cells
        obtain ⟨⟨o0,o1,o2⟩,p0,p1,p2⟩:=hO.cells
        have cs:wc.cell? ⟨sb,soff+q,none⟩=some (.int .i64 (ss[q]?.getD 0)):=(hB.cell (p:=⟨sb,soff+q,none⟩) hsb).trans HSC.out
        have hCl:=hO.lt
        have hBl:=hv.lt
        clear hO hX hY hne hv hr hB
        go_wp2_with fail
        go_region_law ((refine step_append_lies _ (by rfl) _ _ _ (by rfl) w.heap.size 3 i0 _ 1 8 Tryz.underlying23 HI.out HZ0.out HZ1.out HZ2.out rfl (by omega) _ _ _ (by rfl) ((HY.out.alloc _).drew) ⟨wc.heap.size,0,none⟩ 1 1 [.int .i64 (ss[q]?.getD 0)] (by rfl) (by rfl) (World.news_of_block (cs:=#[.int .i64 (ss[q]?.getD 0)]) (t:=3) (fr:=(0,0)) (heap_alloc_new wc _)) (by simp [Value.oneCell']) (by omega) (by unfold maxLen;omega) (by omega) (by have:=HBw.out.size;simp;omega) (wc.heap.size+1) (by simp) ?_;intro g2 c2 w2 hown1 hgrow hat hlt3;have hO2:=HO.out.grown HY.out hgrow;have hV2:=HV.out.grown HY.out hgrow;have hR2:=HR.out.grown HY.out hgrow;have hB2:=grown_below HBw.out HY.out hgrow;obtain ⟨⟨a0,a1,a2⟩,b0,b1,b2⟩:=hO2.cells;have HO2:=hide hO2;have HV2:=hide hV2;have HR2:=hide hR2;have HB2':=hide hB2;have HY2:=hide hown1;have HAT:=hide hat;have HX2:=hide (own_grown HX.out hgrow (.inr (fun e=>HNE.out e)));clear hO2 hV2 hR2 hB2 hown1 hgrow hat))
        all_goals go_wp2
        all_goals go_roundw
        all_goals try (case measure=>simp [intOf];omega)
        all_goals
         have hst:=taken_take_succ ss ps m q HPL.out HQ.out
         have hy:=HY2.out
         rw [<-hst] at hy
         have hap:(Value.slice (some ⟨g1,0,none⟩) (m+1) c1).ownBlock=none\/(Value.slice (some ⟨g1,0,none⟩) (m+1) c1).ownBlock≠(Value.slice (some ⟨g2,0,none⟩) (m+1) c2).ownBlock:=.inr (Ne.symm (new_apart (v:=.slice Y m d) (apart_sym (.inr HNE.out)) HX.out HAT.out))
         have hr:∃ k':Nat,k'<=dl/\Value.int .i64 ((m:Int)+1)=.int .i64 k'/\∃ (X:Option Addr) (c:Nat) (Y':Option Addr) (d':Nat),OutAt w (w2.setCell ⟨w1.heap.size,2,none⟩ (.slice (some ⟨g2,0,none⟩) (m+1) c2)) w1.heap.size s k' X c ((taken ds ps).take k') Y' d' ((taken ss ps).take k')/\(ViewAt (w2.setCell ⟨w1.heap.size,2,none⟩ (.slice (some ⟨g2,0,none⟩) (m+1) c2)) w.heap.size (.int .i64 s) (.slice (some ⟨db,doff,none⟩) dl dc) (.slice (some ⟨sb,soff,none⟩) dl sc)/\ViewAt (w2.setCell ⟨w1.heap.size,2,none⟩ (.slice (some ⟨g2,0,none⟩) (m+1) c2)) (w.heap.size+1) (.int .i64 0) (.slice none 0 0) (.slice none 0 0))/\Below w.heap.size w (w2.setCell ⟨w1.heap.size,2,none⟩ (.slice (some ⟨g2,0,none⟩) (m+1) c2)) :=
          ⟨m+1,by omega,by go_num,_,_,_,_,⟨HO2.out.set2 _,own_view_set HO2.out HX2.out 2 _,own_view_set HO2.out hy 2 _,hap⟩,⟨HV2.out.set (p:=⟨w1.heap.size,2,none⟩) (by have:=HV1.out.lt;simp;omega) _,HR2.out.set (p:=⟨w1.heap.size,2,none⟩) (by have:=HR1.out.lt;simp;omega) _⟩,HB2'.out.setCell (p:=⟨w1.heap.size,2,none⟩) (by have:=HB.out.size;simp;omega) _⟩
         first
          | exact hr
          | (repeat apply Exists.intro
             exact ⟨hr,rfl⟩)
     · obtain rfl:m=dl:=by omega
       obtain ⟨⟨o0,o1,o2⟩,_⟩:=HO.out.cells
       obtain ⟨⟨r0,r1,r2⟩,rf0,rf1,rf2⟩:=HR.out.cells
       have e1:(taken ds ps).take m=taken ds ps:=List.take_of_length_le (by rw [taken_length,HPO.out.1];omega)
       have e2:(taken ss ps).take m=taken ss ps:=List.take_of_length_le (by rw [taken_length,HPO.out.1];omega)
       have hx:=HX.out
       have hy:=HY.out
       rw [e1] at hx
       rw [e2] at hy
       have HX':=hide hx
       have HY':=hide hy
       clear hx hy e1 e2
       go_wp2
       refine bodyPost_ret (v:=.tuple #[.agg #[.int .i64 s,.slice X m c,.slice Y m d],.int .i64 0]) (by simp [results,Tryz.results75,go_sem,r0,r1,r2]) rfl ⟨⟨X,m,c,Y,m,d,rfl,?_,?_,⟨own_le HX'.out,own_le HY'.out⟩,.inr (own_farT HX'.out),own_farT HY'.out⟩,?_⟩
       · exact ints_of_own' (own_set3 HR.out HX'.out) (by rw [taken_length,HPO.out.1]) (by omega) (taken_bd HD.out.2.2.1)
       · exact ints_of_own' (own_set3 HR.out HY'.out) (by rw [taken_length,HPO.out.1]) (by omega) (taken_bd HS.out.2.2.1)
       · exact ((HBw.out.setCell (p:=⟨w.heap.size+1,0,none⟩) (by simp) _).setCell (p:=⟨w.heap.size+1,1,none⟩) (by simp) _).setCell (p:=⟨w.heap.size+1,2,none⟩) (by simp) _
theorem rturn_anyF (s:Int) (da:Option Addr) (dl dc:Nat) (ds:List Int) (sa:Option Addr) (sl sc:Nat) (ss:List Int) (a:Option Addr) (len cap:Nat) (ps:List Int) (w:World)
 (hd:Ints w da dl ds) (hs:Ints w sa sl ss) (hp:Ints w a len ps) :
 Calls Tryz.prog 75 #[.agg #[.int .i64 s,.slice da dl dc,.slice sa sl sc],.slice a len cap] w fun e w'=>GivesF w da e w' (okS (turnE s ds ss ps) s) (okL (turnE s ds ss ps) (taken ds ps)) (okL (turnE s ds ss ps) (taken ss ps)) (turnE s ds ss ps)/\Below w.heap.size w w':=by
 by_cases hW:wrongE s ds ss≠0
 · have e:turnE s ds ss ps=wrongE s ds ss:=by simp [turnE,hW]
   rw [e]
   refine (rturn_wrong s da dl dc ds sa sl sc ss a len cap w hd hs hW).mono ?_
   rintro e w' ⟨rfl,hb⟩
   simp only [okS,okL,if_neg hW]
   exact ⟨givesF_none _ _ _ _,hb⟩
 replace hW:wrongE s ds ss=0:=by simpa using hW
 obtain ⟨w1,w2,_⟩:=wrongE_ok hW
 have h6:=(sizeE_ok w1).1
 have ld:=hd.1
 have ls:=hs.1
 by_cases hP:PermOk ps dl
 · have e:turnE s ds ss ps=0:=by simp [turnE,hW,ld,(permB_iff ps dl).2 hP]
   rw [e]
   obtain rfl:sl=dl:=by omega
   obtain rfl:len=sl:=by rw [<-hp.1];exact hP.1
   exact rturn_okF s da len dc ds sa sc ss a cap ps w hd hs hp hW hP (by omega)
 · have e:turnE s ds ss ps=6:=by
    have:permB ps dl=false:=by
     cases c:permB ps dl with
     | true=>exact absurd ((permB_iff ps dl).1 c) hP
     | false=>rfl
    simp [turnE,hW,ld,this]
   rw [e]
   refine (rturn_shape s da dl dc ds sa sl sc ss a len cap ps w hd hs hp hW hP).mono ?_
   rintro e w' ⟨rfl,hb⟩
   exact ⟨givesF_none _ _ _ _,hb⟩
theorem rspread_ok (s:Int) (da:Option Addr) (dl dc:Nat) (ds:List Int) (sa:Option Addr) (sc:Nat) (ss:List Int) (ea:Option Addr) (el ec:Nat) (es:List Int) (pa:Option Addr) (pc:Nat) (ps:List Int) (w:World)
 (hd:Ints w da dl ds) (hs:Ints w sa dl ss) (he:Ints w ea el es) (hp:Ints w pa dl ps) (hW:wrongE s ds ss=0) (hE:sizeE es=0) (hP:RiseOk ps el) (h6:dl<=6) (h6e:el<=6) (hcap:el<=ec) :
 Calls Tryz.prog 74 #[.agg #[.int .i64 s,.slice da dl dc,.slice sa dl sc],.slice ea el ec,.slice pa dl pc] w fun e w'=>SprPost w ea s ds ss es ps e w'/\Below w.heap.size w w':=by
 have HSM:=hide (small_of hW)
 have HD:=hide hd
 have HS:=hide hs
 have HE:=hide he
 have HP:=hide hp
 have HW:=hide hW
 have HZ:=hide hE
 have HPO:=hide hP
 clear hd hs he hp hW hE hP
 have hb2:Below w.heap.size w ((w.alloc (.cells #[.int .i64 s,.slice da dl dc,.slice sa dl sc] 79)).alloc (.cells #[.int .i64 0,.slice none 0 0,.slice none 0 0] 79)):=((Below.refl _ _).alloc (Nat.le_refl _) _).alloc (by simp) _
 have HB2:=hide hb2
 clear hb2
 have hmk:=run_make_row' (P:=Tryz.prog) 23 3 (.int .i64 0) 8 Tryz.underlying23 info_int rfl .i64 .i64 el (by omega) (by omega)
 go_enter Tryz.func74,Tryz.ntmps74
 go_wp2_with fail
 refine (rwrong_any _ _ _ _ ds _ _ _ ss _ (HD.out.below HB2.out) (HS.out.below HB2.out)).mono ?_
 rintro e w1 ⟨rfl,hb⟩
 rw [HW.out]
 have HB:=hide (Below.on HB2.out hb)
 have hV1:ViewAt w1 w.heap.size (.int .i64 s) (.slice da dl dc) (.slice sa dl sc):=((ViewAt.new w _ _ _).alloc _).below hb
 have hR1:ViewAt w1 (w.heap.size+1) (.int .i64 0) (.slice none 0 0) (.slice none 0 0):=by
  have:=(ViewAt.new (w.alloc (.cells #[.int .i64 s,.slice da dl dc,.slice sa dl sc] 79)) (.int .i64 0) (.slice none 0 0) (.slice none 0 0)).below hb
  simpa using this
 have HV1:=hide hV1
 have HR1:=hide hR1
 have hwl:=hR1.lt
 have hwl0:=hV1.lt
 obtain ⟨⟨v0,v1,v2⟩,_⟩:=hV1.cells
 clear hb hV1 hR1
 go_wp2_with fail
 refine (rsize_any _ _ _ es _ (HE.out.below HB.out)).mono ?_
 rintro e w2 ⟨rfl,hw⟩
 obtain rfl:=hw.symm
 clear hw
 rw [HZ.out]
 go_wp2_with fail
 refine (rrising_any _ _ _ ps el _ (HP.out.below HB.out) h6e).mono ?_
 rintro e w2 ⟨⟨r,rfl,hr⟩,hw⟩
 obtain rfl:=hw.symm
 obtain rfl:r=true:=hr.2 HPO.out
 clear hr hw
 go_wp2_with fail
 go_cut [11] (fun p wc=>∃ C g:Nat,p=.pointer (some ⟨C,0,none⟩)/\wc.rowIs g 3 el (fun _=>.int .i64 0)/\(ViewAt wc w.heap.size (.int .i64 s) (.slice da dl dc) (.slice sa dl sc)/\ViewAt wc (w.heap.size+1) (.int .i64 0) (.slice none 0 0) (.slice none 0 0)/\ViewAt wc C (.int .i64 s) (.slice ea el ec) (.slice (some ⟨g,0,none⟩) el el))/\((w.heap.size+1<C/\w.heap.size+1<g)/\g≠C)/\Below w.heap.size w wc)
 case first =>
  go_region
  all_goals go_wp2
  all_goals go_meet
  · refine ⟨w1.heap.size+1,w1.heap.size,rfl,((World.rowIs_made w1 (.int .i64 0) el 3).alloc _).drew,⟨(HV1.out.alloc _).alloc _,(HR1.out.alloc _).alloc _,?_⟩,⟨⟨by omega,by omega⟩,by omega⟩,((HB.out.alloc HB.out.size _).alloc (by simp;omega) _).drew⟩
    have:=ViewAt.new (w1.alloc (Obj.cells (madeCells #[Value.int IntKind.i64 0] el) 3)) (.int .i64 s) (.slice ea el ec) (.slice (some ⟨w1.heap.size,0,none⟩) el el)
    simp only [World.size_alloc] at this
    exact this
  · refine ⟨w1.heap.size,w1.heap.size+1,rfl,?_,⟨(HV1.out.alloc _).alloc _,(HR1.out.alloc _).alloc _,(ViewAt.new w1 _ _ _).alloc _⟩,⟨⟨by omega,by omega⟩,by omega⟩,((HB.out.alloc HB.out.size _).alloc (by simp;omega) _).drew⟩
    have:=World.rowIs_made (w1.alloc (.cells #[.int .i64 s,.slice ea el ec,.slice (some ⟨w1.heap.size+1,0,none⟩) el el] 79)) (.int .i64 0) el 3
    simp only [World.size_alloc] at this
    exact this.drew
 case rest =>
  obtain ⟨C,g2,rfl,hr2,⟨hv,hrr,ho⟩,⟨⟨l0,l2⟩,n2⟩,hB⟩:=hcut
  have HQ2:=hide hr2
  have HV:=hide hv
  have HRR:=hide hrr
  have HO:=hide ho
  have HBc:=hide hB
  clear hr2 hv hrr ho hB v0 v1 v2 HV1 HR1 HB hmk
  go_wp2_with fail
  go_loopw [52] (fun i wr=>∃ k:Nat,k<=dl/\i=.int .i64 k/\(∀ j,j<k->misAt ds es ps j=false)/\wr.rowIs g2 3 el (fun j=>.int .i64 (sprV ss ps k j))/\(ViewAt wr w.heap.size (.int .i64 s) (.slice da dl dc) (.slice sa dl sc)/\ViewAt wr (w.heap.size+1) (.int .i64 0) (.slice none 0 0) (.slice none 0 0)/\ViewAt wr C (.int .i64 s) (.slice ea el ec) (.slice (some ⟨g2,0,none⟩) el el))/\Below w.heap.size w wr) (fun i _=>dl-(intOf i).toNat)
  case atStart=>exact ⟨0,Nat.zero_le _,rfl,by simp,HQ2.out,⟨HV.out,HRR.out,HO.out⟩,HBc.out⟩
  case round =>
   clear HQ2 HV HRR HO HBc
   obtain ⟨k,hk,rfl,hgood,hr2,⟨hv,hrr,ho⟩,hB⟩:=hrel
   have HGD:=hide hgood
   have HQ2:=hide hr2
   have HV:=hide hv
   have HRR:=hide hrr
   have HO:=hide ho
   have HBw:=hide hB
   clear hgood hr2 hv hrr ho hB
   by_cases hlt:k<dl
   · have hpe:=HP.out.1
     have hpo:=HPO.out k (by omega)
     obtain ⟨db,doff,rfl,hdb,hdc⟩:=HD.out.at (by omega)
     obtain ⟨sb,soff,rfl,hsb,hsc⟩:=HS.out.at (by omega)
     obtain ⟨eb,eoff,rfl,heb,hec⟩:=HE.out.at (by omega)
     obtain ⟨pb,poff,rfl,hpb,hpc⟩:=HP.out.at (by omega)
     obtain ⟨m,hm⟩:∃ m:Nat,ps[k]?.getD 0=(m:Int):=⟨(ps[k]?.getD 0).toNat,by omega⟩
     have hmlt:m<el:=by omega
     have HM:=hide hm
     obtain ⟨X,hX⟩:∃ X,X=ds[k]?.getD 0:=⟨_,rfl⟩
     obtain ⟨T,hT⟩:∃ T,T=ss[k]?.getD 0:=⟨_,rfl⟩
     obtain ⟨Z,hZ⟩:∃ Z,Z=es[m]?.getD 0:=⟨_,rfl⟩
     have cd:wr.cell? ⟨db,doff+k,none⟩=some (.int .i64 X):=by rw [hX];exact (HBw.out.cell (p:=⟨db,doff+k,none⟩) hdb).trans (hdc k hlt)
     have cs:wr.cell? ⟨sb,soff+k,none⟩=some (.int .i64 T):=by rw [hT];exact (HBw.out.cell (p:=⟨sb,soff+k,none⟩) hsb).trans (hsc k hlt)
     have ce:wr.cell? ⟨eb,eoff+m,none⟩=some (.int .i64 Z):=by rw [hZ];exact (HBw.out.cell (p:=⟨eb,eoff+m,none⟩) heb).trans (hec m hmlt)
     have cp:wr.cell? ⟨pb,poff+k,none⟩=some (.int .i64 (m:Int)):=by rw [<-hm];exact (HBw.out.cell (p:=⟨pb,poff+k,none⟩) hpb).trans (hpc k hlt)
     have hmis:misAt ds es ps k=decide (X≠Z):=by rw [misAt,hm,Int.toNat_natCast,<-hX,<-hZ]
     have HMIS:=hide hmis
     have HT:=hide hT
     have HPL:Hid (k<ps.length):=by rw [Hid];omega
     obtain ⟨⟨v0,v1,v2⟩,_⟩:=HV.out.cells
     obtain ⟨⟨o0,o1,o2⟩,p0,p1,p2⟩:=HO.out.cells
     have c2:=HQ2.out.cell hmlt
     have f2:=HQ2.out.frozen m
     have i1:(0:Int)<=(k:Int):=Int.natCast_nonneg _
     have i2:(k:Int)<(dl:Int):=by omega
     have i3:(0:Int)<=(m:Int):=Int.natCast_nonneg _
     have i4:(m:Int)<(el:Int):=by omega
     clear hdc hsc hec hpc hm hpo hX hT hZ hmis hpe
     go_wp2_with fail
     by_cases hXZ:X=Z
     · subst hXZ
       go_quiet (fail)
       go_wp2_with fail
       go_region
       go_wp2
       go_roundw
       case measure=>simp [intOf];omega
       case rel =>
        refine ⟨k+1,by omega,by go_num,?_,?_,⟨?_,?_,?_⟩,?_⟩
        · intro j hj
          by_cases e:j=k
          · subst e;rw [HMIS.out];simp
          · exact HGD.out j (by omega)
        · refine ((World.rowIs.of_block HQ2.out rfl:(wr.drewN (nq+1)).rowIs g2 3 el _).set m (.int .i64 T)).congr (fun j _=>?_)
          rw [sprV,HM.out,Int.toNat_natCast,<-HT.out]
          split<;>rfl
        · exact (show ViewAt (wr.drewN (nq+1)) _ _ _ _ from HV.out).set (p:=⟨g2,m,none⟩) (by simp;omega) _
        · exact (show ViewAt (wr.drewN (nq+1)) _ _ _ _ from HRR.out).set (p:=⟨g2,m,none⟩) (by simp;omega) _
        · exact (show ViewAt (wr.drewN (nq+1)) _ _ _ _ from HO.out).set (p:=⟨g2,m,none⟩) (by simp;omega) _
        · exact (below_drewN' HBw.out (nq+1)).setCell (p:=⟨g2,m,none⟩) (by simp;omega) _
     · have q:(Z != X)=true:=by simp;exact fun e=>hXZ e.symm
       have HXZ:=hide hXZ
       clear hXZ
       obtain ⟨⟨r0,r1,r2⟩,rf0,rf1,rf2⟩:=HRR.out.cells
       go_quiet (fail)
       go_wp2
       refine bodyPost_ret (v:=.tuple #[.agg #[.int .i64 0,.slice none 0 0,.slice none 0 0],.int .i64 6]) (by simp [results,Tryz.results74,go_sem,r0,r1,r2]) rfl ⟨?_,below_put (below_drewN' HBw.out _) (by omega)⟩
       rw [SprPost,if_pos (anyMis_true k HPL.out (by rw [HMIS.out];simpa using HXZ.out))]
       exact givesF_none _ _ _ _
   · obtain rfl:k=dl:=by omega
     obtain ⟨⟨o0,o1,o2⟩,_⟩:=HO.out.cells
     obtain ⟨⟨r0,r1,r2⟩,rf0,rf1,rf2⟩:=HRR.out.cells
     have hpe:=HP.out.1
     have hnm:anyMis ds es ps=false:=anyMis_false (fun j hj=>HGD.out j (by omega))
     have hls:ps.length<=ss.length:=by rw [hpe,HS.out.1];exact Nat.le_refl _
     have hi2:Ints wr (some ⟨g2,0,none⟩) el (sprS es.length ss ps):=by
      refine ints_of_rowI (World.rowIs.congr HQ2.out (fun j hj=>?_)) (by rw [sprS_length,HE.out.1]) (by omega) (sprS_bd HSM.out hls)
      rw [sprS_getD es.length ss ps j (by rw [HE.out.1];exact hj),hpe]
     have HNM:=hide hnm
     have HI2:=hide hi2
     clear hnm hls hi2 hpe
     go_wp2
     refine bodyPost_ret (v:=.tuple #[.agg #[.int .i64 s,.slice ea el ec,.slice (some ⟨g2,0,none⟩) el el],.int .i64 0]) (by simp [results,Tryz.results74,go_sem,r0,r1,r2]) rfl ⟨?_,below_put HBw.out (by omega)⟩
     rw [SprPost,if_neg (by rw [HNM.out];simp)]
     exact ⟨_,_,_,_,_,_,rfl,HE.out.below (below_put HBw.out (by omega)),ints_set3 (B:=w.heap.size+1) HI2.out (by omega),⟨hcap,Nat.le_refl _⟩,.inl rfl,far_some (by omega)⟩
theorem rspread_wrong (s:Int) (da:Option Addr) (dl dc:Nat) (ds:List Int) (sa:Option Addr) (sl sc:Nat) (ss:List Int) (ea:Option Addr) (el ec:Nat) (_es:List Int) (pa:Option Addr) (pl pc:Nat) (w:World)
 (hd:Ints w da dl ds) (hs:Ints w sa sl ss) (hW:wrongE s ds ss≠0) :
 Calls Tryz.prog 74 #[.agg #[.int .i64 s,.slice da dl dc,.slice sa sl sc],.slice ea el ec,.slice pa pl pc] w fun e w'=>e=.returned (.tuple #[.agg #[.int .i64 0,.slice none 0 0,.slice none 0 0],.int .i64 (wrongE s ds ss)])/\Below w.heap.size w w':=by
 have HD:=hide hd
 have HS:=hide hs
 have c1:(wrongE s ds ss != 0)=true:=by simp [hW]
 clear hd hs hW
 have hb2:Below w.heap.size w ((w.alloc (.cells #[.int .i64 s,.slice da dl dc,.slice sa sl sc] 79)).alloc (.cells #[.int .i64 0,.slice none 0 0,.slice none 0 0] 79)):=((Below.refl _ _).alloc (Nat.le_refl _) _).alloc (by simp) _
 have HB2:=hide hb2
 clear hb2
 go_enter Tryz.func74,Tryz.ntmps74
 go_wp2_with fail
 refine (rwrong_any _ _ _ _ ds _ _ _ ss _ (HD.out.below HB2.out) (HS.out.below HB2.out)).mono ?_
 rintro e w1 ⟨rfl,hb⟩
 have HB:=hide (Below.on HB2.out hb)
 obtain ⟨hc1,hf1⟩:=bcell hb
 have hz:=hb.size
 simp at hz
 clear hb
 go_wp2
 refine bodyPost_ret (v:=.tuple #[.agg #[.int .i64 0,.slice none 0 0,.slice none 0 0],.int .i64 (wrongE s ds ss)]) (by simp [results,Tryz.results74,go_sem,hc1]) rfl ⟨rfl,below_put HB.out (by omega)⟩
theorem rspread_size (s:Int) (da:Option Addr) (dl dc:Nat) (ds:List Int) (sa:Option Addr) (sl sc:Nat) (ss:List Int) (ea:Option Addr) (el ec:Nat) (es:List Int) (pa:Option Addr) (pl pc:Nat) (w:World)
 (hd:Ints w da dl ds) (hs:Ints w sa sl ss) (he:Ints w ea el es) (hW:wrongE s ds ss=0) (hE:sizeE es≠0) :
 Calls Tryz.prog 74 #[.agg #[.int .i64 s,.slice da dl dc,.slice sa sl sc],.slice ea el ec,.slice pa pl pc] w fun e w'=>e=.returned (.tuple #[.agg #[.int .i64 0,.slice none 0 0,.slice none 0 0],.int .i64 (sizeE es)])/\Below w.heap.size w w':=by
 have HD:=hide hd
 have HS:=hide hs
 have HE:=hide he
 have HW:=hide hW
 have c1:(sizeE es != 0)=true:=by simp [hE]
 clear hd hs he hW hE
 have hb2:Below w.heap.size w ((w.alloc (.cells #[.int .i64 s,.slice da dl dc,.slice sa sl sc] 79)).alloc (.cells #[.int .i64 0,.slice none 0 0,.slice none 0 0] 79)):=((Below.refl _ _).alloc (Nat.le_refl _) _).alloc (by simp) _
 have HB2:=hide hb2
 clear hb2
 go_enter Tryz.func74,Tryz.ntmps74
 go_wp2_with fail
 refine (rwrong_any _ _ _ _ ds _ _ _ ss _ (HD.out.below HB2.out) (HS.out.below HB2.out)).mono ?_
 rintro e w1 ⟨rfl,hb⟩
 rw [HW.out]
 have HB:=hide (Below.on HB2.out hb)
 have hV1:ViewAt w1 w.heap.size (.int .i64 s) (.slice da dl dc) (.slice sa sl sc):=((ViewAt.new w _ _ _).alloc _).below hb
 have hR1:ViewAt w1 (w.heap.size+1) (.int .i64 0) (.slice none 0 0) (.slice none 0 0):=by
  have:=(ViewAt.new (w.alloc (.cells #[.int .i64 s,.slice da dl dc,.slice sa sl sc] 79)) (.int .i64 0) (.slice none 0 0) (.slice none 0 0)).below hb
  simpa using this
 obtain ⟨⟨v0,v1,v2⟩,_⟩:=hV1.cells
 obtain ⟨⟨r0,r1,r2⟩,rf0,rf1,rf2⟩:=hR1.cells
 clear hb hV1 hR1
 go_wp2_with fail
 refine (rsize_any _ _ _ es _ (HE.out.below HB.out)).mono ?_
 rintro e w2 ⟨rfl,hw⟩
 obtain rfl:=hw.symm
 clear hw
 go_wp2
 refine bodyPost_ret (v:=.tuple #[.agg #[.int .i64 0,.slice none 0 0,.slice none 0 0],.int .i64 (sizeE es)]) (by simp [results,Tryz.results74,go_sem,r0,r1,r2]) rfl ⟨rfl,below_put HB.out (by omega)⟩
theorem rspread_shape (s:Int) (da:Option Addr) (dl dc:Nat) (ds:List Int) (sa:Option Addr) (sl sc:Nat) (ss:List Int) (ea:Option Addr) (el ec:Nat) (es:List Int) (pa:Option Addr) (pl pc:Nat) (ps:List Int) (w:World)
 (hd:Ints w da dl ds) (hs:Ints w sa sl ss) (he:Ints w ea el es) (hp:Ints w pa pl ps) (hW:wrongE s ds ss=0) (hE:sizeE es=0) (h6:el<=6) (hP:¬ (pl=dl/\RiseOk ps el)) :
 Calls Tryz.prog 74 #[.agg #[.int .i64 s,.slice da dl dc,.slice sa sl sc],.slice ea el ec,.slice pa pl pc] w fun e w'=>e=.returned (.tuple #[.agg #[.int .i64 0,.slice none 0 0,.slice none 0 0],.int .i64 6])/\Below w.heap.size w w':=by
 have HD:=hide hd
 have HS:=hide hs
 have HE:=hide he
 have HW:=hide hW
 have HZ:=hide hE
 have HP:=hide hp
 have HPO:=hide hP
 clear hd hs he hp hW hE hP
 have hb2:Below w.heap.size w ((w.alloc (.cells #[.int .i64 s,.slice da dl dc,.slice sa sl sc] 79)).alloc (.cells #[.int .i64 0,.slice none 0 0,.slice none 0 0] 79)):=((Below.refl _ _).alloc (Nat.le_refl _) _).alloc (by simp) _
 have HB2:=hide hb2
 clear hb2
 go_enter Tryz.func74,Tryz.ntmps74
 go_wp2_with fail
 refine (rwrong_any _ _ _ _ ds _ _ _ ss _ (HD.out.below HB2.out) (HS.out.below HB2.out)).mono ?_
 rintro e w1 ⟨rfl,hb⟩
 rw [HW.out]
 have HB:=hide (Below.on HB2.out hb)
 have hV1:ViewAt w1 w.heap.size (.int .i64 s) (.slice da dl dc) (.slice sa sl sc):=((ViewAt.new w _ _ _).alloc _).below hb
 have hR1:ViewAt w1 (w.heap.size+1) (.int .i64 0) (.slice none 0 0) (.slice none 0 0):=by
  have:=(ViewAt.new (w.alloc (.cells #[.int .i64 s,.slice da dl dc,.slice sa sl sc] 79)) (.int .i64 0) (.slice none 0 0) (.slice none 0 0)).below hb
  simpa using this
 obtain ⟨⟨v0,v1,v2⟩,_⟩:=hV1.cells
 obtain ⟨⟨r0,r1,r2⟩,rf0,rf1,rf2⟩:=hR1.cells
 clear hb hV1 hR1
 go_wp2_with fail
 refine (rsize_any _ _ _ es _ (HE.out.below HB.out)).mono ?_
 rintro e w2 ⟨rfl,hw⟩
 obtain rfl:=hw.symm
 clear hw
 rw [HZ.out]
 by_cases e1:pl=dl
 · subst e1
   go_wp2_with fail
   refine (rrising_any _ _ _ ps el _ (HP.out.below HB.out) h6).mono ?_
   rintro e w2 ⟨⟨r,rfl,hr⟩,hw⟩
   obtain rfl:=hw.symm
   obtain rfl:r=false:=by
    cases r with
    | true=>exact absurd (hr.1 rfl) (fun h=>HPO.out ⟨by simp,h⟩)
    | false=>rfl
   clear hr hw
   go_wp2
   refine bodyPost_ret (v:=.tuple #[.agg #[.int .i64 0,.slice none 0 0,.slice none 0 0],.int .i64 6]) (by simp [results,Tryz.results74,go_sem,r0,r1,r2]) rfl ⟨rfl,below_put HB.out (by omega)⟩
 · have e1':((pl:Int) != (dl:Int))=true:=by simp;omega
   clear e1
   go_wp2
   refine bodyPost_ret (v:=.tuple #[.agg #[.int .i64 0,.slice none 0 0,.slice none 0 0],.int .i64 6]) (by simp [results,Tryz.results74,go_sem,r0,r1,r2]) rfl ⟨rfl,below_put HB.out (by omega)⟩
theorem rspread_any (s:Int) (da:Option Addr) (dl dc:Nat) (ds:List Int) (sa:Option Addr) (sl sc:Nat) (ss:List Int) (ea:Option Addr) (el ec:Nat) (es:List Int) (pa:Option Addr) (pl pc:Nat) (ps:List Int) (w:World)
 (hd:Ints w da dl ds) (hs:Ints w sa sl ss) (he:Ints w ea el es) (hp:Ints w pa pl ps) (hec:el<=ec) :
 Calls Tryz.prog 74 #[.agg #[.int .i64 s,.slice da dl dc,.slice sa sl sc],.slice ea el ec,.slice pa pl pc] w fun e w'=>GivesF w ea e w' (okS (sprE s ds ss es ps) s) (okL (sprE s ds ss es ps) es) (okL (sprE s ds ss es ps) (sprS es.length ss ps)) (sprE s ds ss es ps)/\Below w.heap.size w w':=by
 by_cases hW:wrongE s ds ss≠0
 · have e:sprE s ds ss es ps=wrongE s ds ss:=by simp [sprE,hW]
   rw [e]
   refine (rspread_wrong s da dl dc ds sa sl sc ss ea el ec es pa pl pc w hd hs hW).mono ?_
   rintro e w' ⟨rfl,hb⟩
   simp only [okS,okL,if_neg hW]
   exact ⟨givesF_none _ _ _ _,hb⟩
 replace hW:wrongE s ds ss=0:=by simpa using hW
 by_cases hE:sizeE es≠0
 · have e:sprE s ds ss es ps=sizeE es:=by simp [sprE,hW,hE]
   rw [e]
   refine (rspread_size s da dl dc ds sa sl sc ss ea el ec es pa pl pc w hd hs he hW hE).mono ?_
   rintro e w' ⟨rfl,hb⟩
   simp only [okS,okL,if_neg hE]
   exact ⟨givesF_none _ _ _ _,hb⟩
 replace hE:sizeE es=0:=by simpa using hE
 obtain ⟨w1,w2,_⟩:=wrongE_ok hW
 have h6:=(sizeE_ok w1).1
 have h6e:=(sizeE_ok hE).1
 have ld:=hd.1
 have ls:=hs.1
 have le:=he.1
 have lp:=hp.1
 by_cases hP:pl=dl/\RiseOk ps el
 · obtain ⟨rfl,hr⟩:=hP
   obtain rfl:sl=pl:=by omega
   refine (rspread_ok s da sl dc ds sa sc ss ea el ec es pa pc ps w hd hs he hp hW hE hr (by omega) (by omega) hec).mono ?_
   rintro e w' ⟨h,hb⟩
   refine ⟨?_,hb⟩
   have er:ps.length=ds.length/\riseB ps es.length=true:=⟨by omega,by rw [le];exact (riseB_iff ps el).2 hr⟩
   rw [SprPost] at h
   by_cases hA:anyMis ds es ps=true
   · rw [if_pos hA] at h
     have e:sprE s ds ss es ps=6:=by simp [sprE,hW,hE,er,hA]
     rw [e];exact h
   · rw [if_neg hA] at h
     have e:sprE s ds ss es ps=0:=by simp [sprE,hW,hE,er,hA]
     rw [e];exact h
 · have e:sprE s ds ss es ps=6:=by
    have:¬ (ps.length=ds.length/\riseB ps es.length=true):=fun h=>hP ⟨by omega,by have:=h.2;rw [le] at this;exact (riseB_iff ps el).1 this⟩
    simp only [sprE,hW,hE,if_neg this]
    simp
   rw [e]
   refine (rspread_shape s da dl dc ds sa sl sc ss ea el ec es pa pl pc ps w hd hs he hp hW hE (by omega) hP).mono ?_
   rintro e w' ⟨rfl,hb⟩
   exact ⟨givesF_none _ _ _ _,hb⟩
end Go.Proofs.YtakpedjhgdkhkaaGreatDoor.V
