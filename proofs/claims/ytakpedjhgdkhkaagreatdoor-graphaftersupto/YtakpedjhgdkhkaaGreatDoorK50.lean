import Derived.Test.YtakpedjhgdkhkaaGreatDoorK49
import Derived.Test.YtakpedjhgdkhkaaGreatDoorK48
import Derived.Test.YtakpedjhgdkhkaaGreatDoorK47
namespace Go.Proofs.YtakpedjhgdkhkaaGreatDoor.V
set_option maxRecDepth 100000
set_option maxHeartbeats 8000000
open Go Go.RowKit
set_option linter.unusedVariables false
theorem rAfter_any (A:Option Addr) (n cap:Nat) (f:List Nd) (oa:Option Addr) (ol oc:Nat) (fo:List Int) (B:Option Addr) (m capb:Nat) (g:List Nd) (ob:Option Addr) (pl pc:Nat) (go:List Int) (w:World) (h1:Nds w A n f) (ho1:Ints w oa ol fo) (h2:Nds w B m g) (ho2:Ints w ob pl go) (hol9:ol<=1048576) (hpl:pl<=1048576) :
 Calls Tryz.prog 5 #[.agg #[.slice A n cap,.slice oa ol oc],.agg #[.slice B m capb,.slice ob pl pc]] w fun e w'=>GrTAns (afterQ f fo g go) e w'/\Below w.heap.size w w':=by
 have HB0:=hide (bl_new (w:=w) (.cells #[.slice A n cap,.slice oa ol oc] 25))
 have HF0:=hide (GBx.new w (.slice A n cap) (.slice oa ol oc))
 obtain ⟨W1,hW1⟩:∃ x,x=w.alloc (.cells #[.slice A n cap,.slice oa ol oc] 25):=⟨_,rfl⟩
 rw [<-hW1] at HB0 HF0
 have hs1:W1.heap.size=w.heap.size+1:=by rw [hW1];simp
 have HB1:=hide (bl_on HB0.out (bl_new (w:=W1) (.cells #[.slice B m capb,.slice ob pl pc] 25)))
 have HF1:=hide (HF0.out.below (bl_new (w:=W1) (.cells #[.slice B m capb,.slice ob pl pc] 25)))
 have HG1:=hide (GBx.new W1 (.slice B m capb) (.slice ob pl pc))
 obtain ⟨W2,hW2⟩:∃ x,x=W1.alloc (.cells #[.slice B m capb,.slice ob pl pc] 25):=⟨_,rfl⟩
 rw [<-hW2] at HB1 HF1 HG1
 rw [hs1] at HG1
 have hs2:W2.heap.size=w.heap.size+2:=by rw [hW2];simp [hs1]
 have HB2:=hide (bl_on HB1.out (bl_new (w:=W2) (.cells #[.slice none 0 0,.slice none 0 0] 25)))
 have HF2:=hide (HF1.out.below (bl_new (w:=W2) (.cells #[.slice none 0 0,.slice none 0 0] 25)))
 have HG2:=hide (HG1.out.below (bl_new (w:=W2) (.cells #[.slice none 0 0,.slice none 0 0] 25)))
 have HR2:=hide (GBx.new W2 (.slice none 0 0) (.slice none 0 0))
 obtain ⟨W3,hW3⟩:∃ x,x=W2.alloc (.cells #[.slice none 0 0,.slice none 0 0] 25):=⟨_,rfl⟩
 rw [<-hW3] at HB2 HF2 HG2 HR2
 rw [hs2] at HR2
 have hs3:W3.heap.size=w.heap.size+3:=by rw [hW3];simp [hs2]
 have HO1:=hide (fun W (hW:Below w.heap.size w W)=>ho1.below hW)
 have HDF:=hide (fun W (hW:Below w.heap.size w W)=>rGDims_any A n cap f oa ol oc fo W (h1.below hW) (ho1.below hW))
 have HDG:=hide (fun W (hW:Below w.heap.size w W)=>rGDims_any B m capb g ob pl pc go W (h2.below hW) (ho2.below hW))
 have HPA:=hide (fun W (hW:Below w.heap.size w W)=>rParams_any B m capb g ob pl pc W (h2.below hW))
 have H1:=hide h1
 have H2:=hide h2
 have HO0:=hide ho1
 have HO9:=hide ho2
 have HPF:=hide (fun W (hW:Below w.heap.size w W)=>rParams_any A n cap f oa ol oc W (h1.below hW))
 have HCH:Hid ((grP f fo).2=0->(grP g go).2=0->parN g=fo.length->GdN f/\f.length<=4096/\GdN g/\g.length<=4096/\(∀ o∈fo,0<=o/\o<(f.length:Int))/\∀ o∈go,0<=o/\o<(g.length:Int)):=fun q1 q2 _=>⟨(gdN_ok q1).1,(gdN_ok q1).2.1,(gdN_ok q2).1,(gdN_ok q2).2.1,(gdN_ok q1).2.2,(gdN_ok q2).2.2⟩
 have HI1:Hid ((grP f fo).2=0->(grP f fo).1.length=f.length/\∀ o∈fo,0<=o/\o<(f.length:Int)):=fun h=>⟨(grP_ok h).2.1,(gdN_ok h).2.2⟩
 have HI2:Hid ((grP g go).2=0->(grP g go).1.length=g.length):=fun h=>(grP_ok h).2.1
 have HQ:Hid (afterQ f fo g go=if (grP f fo).2≠0 then (([],[]),(grP f fo).2) else if (grP g go).2≠0 then (([],[]),(grP g go).2) else if parN g≠fo.length then (([],[]),2) else if misN (grP f fo).1 (grP g go).1 fo fo.length=true then (([],[]),6) else limE (aftN f g fo go)):=rfl
 obtain ⟨G1,hG1⟩:∃ G,G=grP f fo:=⟨_,rfl⟩
 obtain ⟨G2,hG2⟩:∃ G,G=grP g go:=⟨_,rfl⟩
 obtain ⟨P,hP⟩:∃ P,P=parN g:=⟨_,rfl⟩
 rw [<-hG1] at HDF HI1 HQ HCH
 rw [<-hG2] at HDG HI2 HQ HCH
 rw [<-hP] at HPA HQ HCH
 have HPN:=hide hP
 obtain ⟨D1,E1⟩:=G1
 obtain ⟨D2,E2⟩:=G2
 simp only at HDF HDG HI1 HI2 HQ HCH
 have hPg:P<=g.length:=by rw [hP];exact parN_le g
 have hfl:fo.length=ol:=ho1.1
 have hol:=ho1.2.1
 clear h1 h2 ho1 ho2 hG1 hG2 hP HB0 HB1 HF0 HF1 HG1 hs1 hs2
 obtain ⟨f0,f1⟩:=HF2.out.cells
 go_enter Tryz.func5,Tryz.ntmps5
 go_upto_region 1 with fail
 rw [<-hW1,<-hW2,<-hW3]
 clear hW1 hW2 hW3
 go_upto_region 2 with (go_at_call 12;refine (HDF.out _ HB2.out).mono ?_;rintro e w1 ⟨⟨X1,x1,y1,rfl,hy1,hl1⟩,hb⟩;have HL1:=hide hl1;have hz1:=hb.size;have HC1:=hide (bl_on HB2.out hb);have HF3:=hide (HF2.out.below hb);have HG3:=hide (HG2.out.below hb);have HR3:=hide (HR2.out.below hb);clear hb hl1 f0 f1 HF2 HG2 HR2)
 by_cases hE1:E1=0
 · subst hE1
   obtain ⟨hd1,hfo⟩:=HI1.out rfl
   obtain ⟨g0,g1⟩:=HG3.out.cells
   go_upto_region 4 with fail
   go_upto_region 5 with (go_at_call 12;refine (HDG.out _ HC1.out).mono ?_;rintro e w2 ⟨⟨X2,x2,y2,rfl,hy2,hl2⟩,hb⟩;have HL2:=hide hl2;have HL3:=hide (HL1.out.below hb);have hz2:=hb.size;have HC2:=hide (bl_on HC1.out hb);have HF4:=hide (HF3.out.below hb);have HG4:=hide (HG3.out.below hb);have HR4:=hide (HR3.out.below hb);clear hb hl2 g0 g1 HF3 HG3 HR3 HL1)
   by_cases hE2:E2=0
   · subst hE2
     have hd2:=HI2.out rfl
     obtain ⟨g0,g1⟩:=HG4.out.cells
     obtain ⟨f0,f1⟩:=HF4.out.cells
     go_upto_region 7 with fail
     refine region_made 6 8 [fIs (.agg #[.slice B m capb,.slice ob pl pc]),fIs (.int .i64 (P:Int)),fIs (.pointer (some ⟨w.heap.size,1,none⟩)),fIs (.slice oa ol oc),fIs (.int .i64 (ol:Int)),fIs (.bool (decide ((P:Int)≠(ol:Int))))] (by kernel_rfl) (by kernel_rfl) (by kernel_rfl) (fun _ ⟨_,_⟩ ⟨_,_⟩ _ e h=>by cases e;exact h) ⟨fIs_good _,fIs_good _,fIs_good _,fIs_good _,fIs_good _,fIs_good _,trivial⟩ ?mk ?rest
     case mk =>
      refine ⟨fun u wz hb hd=>?_,fun u wz hb hd=>?_,fun u wz hb hd=>?_,fun u wz hb hd=>?_,fun u wz hb hd=>?_,fun u wz hb hd=>?_,trivial⟩
      all_goals simp only [Act.put,List.setIfInBounds_toArray,List.set_cons_zero,List.set_cons_succ]
      · have g0':=(hb.cell (p:=⟨w.heap.size+1,0,none⟩) (lt_of_cell g0)).trans g0
        have g1':=(hb.cell (p:=⟨w.heap.size+1,1,none⟩) (lt_of_cell g1)).trans g1
        go_simp
        exact ⟨rfl,Below.refl _ _,fun h=>by cases h⟩
      · have e0:u 0=.agg #[.slice B m capb,.slice ob pl pc]:=hd 0 (by omega) (by kernel_rfl)
        rw [e0]
        go_simp
        refine (HPA.out wz (bl_on HC2.out hb)).mono ?_
        rintro e w9 ⟨rfl,hb9⟩
        exact ⟨rfl,hb9,fun h=>by cases h⟩
      · go_simp
        exact ⟨rfl,Below.refl _ _,fun h=>by cases h⟩
      · have e2:u 2=.pointer (some ⟨w.heap.size,1,none⟩):=hd 2 (by omega) (by kernel_rfl)
        rw [e2]
        have f1':=(hb.cell (p:=⟨w.heap.size,1,none⟩) (lt_of_cell f1)).trans f1
        go_simp
        exact ⟨rfl,Below.refl _ _,fun h=>by cases h⟩
      · have e3:u 3=.slice oa ol oc:=hd 3 (by omega) (by kernel_rfl)
        rw [e3]
        go_simp
        exact ⟨rfl,Below.refl _ _,fun h=>by cases h⟩
      · have e1:u 1=.int .i64 (P:Int):=hd 1 (by omega) (by kernel_rfl)
        have e4:u 4=.int .i64 (ol:Int):=hd 4 (by omega) (by kernel_rfl)
        rw [e1,e4]
        go_simp
        exact ⟨by first | rfl | simp [fIs],Below.refl _ _,fun h=>by cases h⟩
     case rest =>
      intro u wz hb hf hp
      have e0:u 0=.agg #[.slice B m capb,.slice ob pl pc]:=hf 0 (by omega)
      have e1:u 1=.int .i64 (P:Int):=hf 1 (by omega)
      have e2:u 2=.pointer (some ⟨w.heap.size,1,none⟩):=hf 2 (by omega)
      have e3:u 3=.slice oa ol oc:=hf 3 (by omega)
      have e4:u 4=.int .i64 (ol:Int):=hf 4 (by omega)
      have e5:u 5=.bool (decide ((P:Int)≠(ol:Int))):=hf 5 (by omega)
      refine UptoW.rest 0 6 (by rfl) (by kernel_rfl) ?_
      simp only [List.take,List.drop,putOps,Act.put,List.setIfInBounds_toArray,List.set_cons_zero,List.set_cons_succ,Nat.reduceAdd,e0,e1,e2,e3,e4,e5]
      have HC5:=hide (bl_on HC2.out hb)
      have HF5:=hide (HF4.out.below hb)
      have HG5:=hide (HG4.out.below hb)
      have HR5:=hide (HR4.out.below hb)
      have HL4:=hide (HL2.out.below hb)
      have HL5:=hide (HL3.out.below hb)
      have hzb:=hb.size
      clear e0 e1 e2 e3 e4 e5 hf hp hb f0 f1 g0 g1 HF4 HG4 HR4 HL2 HL3
      by_cases hPo:P=ol
      · rw [show decide ((P:Int)≠(ol:Int))=false by simp;omega]
        have HPO:Hid (P=fo.length):=hPo.trans hfl.symm
        obtain ⟨f0,f1⟩:=HF5.out.cells
        have hx1:x1=f.length:=by rw [<-hd1];exact HL5.out.1.symm
        have hx2:x2=g.length:=by rw [<-hd2];exact HL4.out.1.symm
        clear hPo
        go_wp2
        go_loopw [9,10,49] (fun x9 x10 x49 wr=>∃ k:Nat,x49=.int .i64 (k:Int)/\k<=ol/\misN D1 D2 fo k=false/\Below wz.heap.size wz wr) (fun _ _ x _=>ol-(intOf x).toNat)
        case atStart=>exact ⟨0,rfl,Nat.zero_le _,rfl,Below.refl _ _⟩
        case round =>
         obtain ⟨k,rfl,hk,hmis,hb⟩:=hrel
         have HC6:=hide (bl_on HC5.out hb)
         have HW6:=hide hb
         have HF6:=hide (HF5.out.below hb)
         have HG6:=hide (HG5.out.below hb)
         have HR6:=hide (HR5.out.below hb)
         have HMI:=hide hmis
         have hzc:=hb.size
         have i0:(0:Int)<=(k:Int):=Int.natCast_nonneg _
         clear hb f0 f1 hmis
         by_cases hlt:k<ol
         · obtain ⟨b,off,rfl,hob,hoc⟩:=(HO1.out wr HC6.out).at (by omega)
           have hci:=hoc k hlt
           obtain ⟨X,hX⟩:∃ X,X=fo[k]?.getD 0:=⟨_,rfl⟩
           rw [<-hX] at hci
           have hXf:=hfo X (by rw [hX,List.getElem?_eq_getElem (by omega),Option.getD_some];exact List.getElem_mem _)
           obtain ⟨t,ht⟩:∃ t:Nat,X=(t:Int):=⟨X.toNat,by omega⟩
           have htl:t<x1:=by omega
           have hkl:k<x2:=by
            have:=HPO.out
            omega
           obtain ⟨b1,off1,rfl,hc1⟩:=(HL5.out.below HW6.out).at (by omega)
           obtain ⟨b2,off2,rfl,hc2⟩:=(HL4.out.below HW6.out).at (by omega)
           obtain ⟨Y1,p1,c1,hY1,hl1⟩:=hc1 t htl
           obtain ⟨Y2,p2,c2,hY2,hl2⟩:=hc2 k hkl
           have HEQ:=hide (fun j=>sameList_any Y1 p1 c1 _ Y2 p2 c2 _ (wr.drewN j) (hl1.1.below (below_drewN _ _)) (hl2.1.below (below_drewN _ _)))
           have HST:Hid (misN D1 D2 fo (k+1)=!decide (D1[t]?.getD []=D2[k]?.getD [])):=by
            rw [Hid,misN_succ,HMI.out,<-hX,ht]
            simp
           subst ht
           have i1:(k:Int)<(ol:Int):=by omega
           have i2:(t:Int)<(x1:Int):=by omega
           have i3:(k:Int)<(x2:Int):=by omega
           have i4:(0:Int)<=(t:Int):=Int.natCast_nonneg _
           obtain ⟨Z1,hZ1⟩:∃ Z,Z=D1[t]?.getD []:=⟨_,rfl⟩
           obtain ⟨Z2,hZ2⟩:∃ Z,Z=D2[k]?.getD []:=⟨_,rfl⟩
           rw [<-hZ1,<-hZ2] at HEQ HST
           clear hX hXf hc1 hc2 hl1 hl2 hoc hob hZ1 hZ2
           go_upto_region 12 with fail
           go_quiet ((go_at_call 14;exact Calls.quiet_of (HEQ.out _)))
           have hbd:Below wr.heap.size wr (wr.drewN nq):=below_drewN _ _
           by_cases hZ:Z1=Z2
           · subst hZ
             simp only [decide_true,Bool.not_true] at HST ⊢
             go_wp2
             go_roundw
             case rel=>exact ⟨k+1,by go_num,by omega,HST.out,HW6.out.trans ((below_drewN _ _).mono hzc)⟩
             case measure=>simp [intOf];omega
           · simp only [hZ,decide_false,Bool.not_false] at HST ⊢
             have HRD:=hide (HR6.out.below hbd)
             have HCD:=hide (bl_on HC6.out hbd)
             have HSM:=hide (misN_more HST.out (show k+1<=fo.length by omega))
             clear hbd
             obtain ⟨r0,r1⟩:=HRD.out.cells
             have r2:=HRD.out.fz 0
             have r3:=HRD.out.fz 1
             have r4:=HRD.out.lt
             have HFN:=hide (box_none HRD.out HCD.out (by omega))
             go_wp2_with fail
             obtain ⟨hg,hb1⟩:=HFN.out _ rfl
             obtain ⟨u0,u1⟩:=hg.cells
             refine bodyPost_ret (v:=.tuple #[.agg #[.slice none 0 0,.slice none 0 0],.int .i64 6]) (by simp [results,Tryz.results5,go_sem,u0,u1]) rfl ⟨?_,hb1⟩
             rw [HQ.out,if_neg (fun h=>h rfl),if_neg (fun h=>h rfl),if_neg (fun h=>h HPO.out),if_pos HSM.out]
             exact grT_none _ _
         · obtain rfl:ol=k:=by omega
           have HMI2:Hid (misN D1 D2 fo fo.length=false):=by rw [hfl];exact HMI.out
           have HQ2:Hid (afterQ f fo g go=limE (aftN f g fo go)):=by rw [Hid,HQ.out,if_neg (fun h=>h rfl),if_neg (fun h=>h rfl),if_neg (fun h=>h HPO.out),if_neg (by rw [HMI2.out];exact Bool.false_ne_true)]
           obtain ⟨f0,f1⟩:=HF6.out.cells
           obtain ⟨g0,g1⟩:=HG6.out.cells
           have hzd:=hzc
           obtain ⟨hgf,hlf,hgg,hlg,hfo9,hgo9⟩:=HCH.out (by first | rfl | trivial) (by first | rfl | trivial) HPO.out
           have HGF:=hide hgf
           have HGG:=hide hgg
           have HFO:=hide hfo9
           have HGO:=hide hgo9
           have hmg:g.length=m:=H2.out.1
           have hng:f.length=n:=H1.out.1
           have HM:=hide hmg
           have hm4:m<=4096:=by omega
           have HBX:Hid (Bx3 w (.slice A n cap) (.slice oa ol oc) (.slice B m capb) (.slice ob pl pc) wr):=⟨HF6.out,HG6.out,HR6.out⟩
           have HOF:Hid (Ints w oa ol ((fo.map Int.toNat).map fun (x:Nat)=>(x:Int))):=by
            have e:(fo.map Int.toNat).map (fun (x:Nat)=>(x:Int))=fo:=by
             rw [List.map_map]
             conv=>rhs;rw [<-List.map_id fo]
             refine List.map_congr_left (fun a ha=>?_)
             have:=hfo9 a ha
             simp only [Function.comp,id]
             omega
            rw [Hid,e]
            exact HO0.out
           obtain ⟨f0,f1⟩:=(HBX.out.below (bl_new (.cells #[] 40))).f.cells
           clear hgf hgg hfo9 hgo9 hmg HCH
           go_upto_region 16 with (at_builtin;refine wpl_nodes_e (by rfl) (.tmp 66) (.tmp 68) (by rfl) HC6.out n cap A f (by rfl) (by rfl) H1.out (by omega) ?_;intro gN cN wN q1 q2 q3;have HN1:=hide q1;have HBN:=hide q2;have HX1:=hide (HBX.out.below q2);have HCN:=hide (bl_on HC6.out q2);clear q1 q2 q3 f0 f1)
           obtain ⟨f0,f1⟩:=(HX1.out.below (bl_new (.cells #[] 3))).f.cells
           go_upto_region 17 with (at_builtin;refine wpl_ints_e (by rfl) (.tmp 70) (.tmp 72) (by rfl) HCN.out ol oc oa (fo.map Int.toNat) (by rfl) (by rfl) HOF.out (by omega) ?_;intro gA cA wA q1 q2 q3;have HA1:=hide q1;have HBA:=hide q2;clear q1 q3 f0 f1)
           have HS0:Hid (AfS w (.slice A n cap) (.slice oa ol oc) (.slice B m capb) (.slice ob pl pc) [] (.slice (some ⟨gN,0,none⟩) n cN) (nsK f g fo P 0) (.slice (some ⟨gA,0,none⟩) ol cA) (alK f.length fo P 0) wA):=by
            rw [nsK_zero (Nat.zero_le _),alK_zero (Nat.zero_le _)]
            exact ⟨HN1.out.kept ⟨HBA.out.mono HCN.out.size,fun g hg=>(by cases hg)⟩ (fun g e=>HBA.out.block g (HN1.out.at' g e).1.2),HA1.out,fun g hg=>(by cases hg),fun g hg=>(by cases hg),bl_on HCN.out HBA.out,HX1.out.below HBA.out⟩
           obtain ⟨g0,g1⟩:=HS0.out.bx.g.cells
           go_wp2
           go_loopw [11,12,13,14,15,17,77] (fun x11 x12 x13 x14 x15 x17 x77 wr=>∃ (i:Nat) (F:List Nat) (vN vA:Value),x77=.int .i64 (i:Int)/\vN=x11/\vA=x12/\i<=m/\AfS w (.slice A n cap) (.slice oa ol oc) (.slice B m capb) (.slice ob pl pc) F vN (nsK f g fo P i) vA (alK f.length fo P i) wr) (fun _ _ _ _ _ _ x _=>m-(intOf x).toNat)
           case atStart=>exact ⟨0,[],_,_,rfl,rfl,rfl,Nat.zero_le _,HS0.out⟩
           case round =>
            obtain ⟨i,F,vN,vA,rfl,rfl,rfl,hi,hS⟩:=hrel
            have HS:=hide hS
            clear hS
            by_cases hlt9:i<m
            · obtain ⟨bb,boff,rfl,hnc⟩:=H2.out.at (by omega)
              obtain ⟨u,hu0,hui⟩:=hnc i hlt9
              have hu:=hu0.below HS.out.bel
              have i1:(0:Int)<=(i:Int):=Int.natCast_nonneg _
              have i2:(i:Int)<(m:Int):=by omega
              obtain ⟨d,hd⟩:∃ d,d=g[i]?.getD ndD:=⟨_,rfl⟩
              rw [<-hd] at hui
              have HUI:=hide hui
              have HGI:Hid (∀ a∈d.ar,0<=a/\a<(i:Int)):=by rw [hd];exact HGG.out i (by rw [HM.out];exact hlt9)
              have HD:=hide hd
              clear hnc hui hd hu0
              obtain ⟨p0,p1,p2,p3,p4,p5,p6,p7⟩:=hu
              simp only [Sw.v] at p1 p2 p3 p4 p5 p7
              go_upto_region 20 with fail
              obtain ⟨wa,hwa⟩:∃ wa,wa=wr.alloc (.cells #[.int .i64 u.k,u.e.v,u.p.v,u.lo.v,u.hi.v,u.st.v,.int .i64 u.x,u.ar.v] 40):=⟨_,rfl⟩
              have hba:Below wr.heap.size wr wa:=by rw [hwa];exact bl_new _
              have hxa:=Nw.new u wr
              rw [<-hwa] at hxa
              simp only [Sw.v] at hwa
              rw [<-hwa]
              have HS1:=hide (HS.out.below hba)
              obtain ⟨g0,g1⟩:=HS1.out.bx.g.cells
              clear hwa hba p0 p1 p2 p3 p4 p5 p6 p7
              by_cases hiP:i<P
              · have i3:(i:Int)<(P:Int):=by omega
                go_wp2_with (go_at_call 13;refine (HPA.out wa HS1.out.bel).mono ?_;rintro e w1 ⟨rfl,hb1⟩;have HS2:=hide (HS1.out.below hb1);clear hb1 g0 g1)
                go_roundw
                case rel=>exact ⟨i+1,F,_,_,by go_num,rfl,rfl,by omega,by rw [nsK_zero (by omega),alK_zero (by omega)];have:=HS2.out;rw [nsK_zero (by omega),alK_zero (by omega)] at this;exact this⟩
                case measure=>simp [intOf];omega
              · have i3:¬ (i:Int)<(P:Int):=by omega
                go_upto_region 21 with (go_at_call 13;refine (HPA.out wa HS1.out.bel).mono ?_;rintro e w1 ⟨rfl,hb1⟩;have HS2:=hide (HS1.out.below hb1);have HXA:=hide (hxa.below hb1);clear hb1 g0 g1 hxa HS1)
                have har:Ints w u.ar.a u.ar.l d.ar:=HUI.out.ar.1.1
                have h20:=HUI.out.ar.2
                have hal:d.ar.length=u.ar.l:=har.1
                obtain ⟨k0,⟨ea,el,ec⟩,⟨pa,pl2,pc2⟩,⟨la,ll,lc⟩,⟨ha,hl,hc⟩,⟨ta,tl,tc⟩,x00,⟨aa,al,ac⟩⟩:=u
                simp only at har h20 hal
                have HAR:=hide har
                have H20:=hide h20
                have HAL:=hide hal
                obtain ⟨q0,q1,q2,q3,q4,q5,q6,q7⟩:=HXA.out.cells
                simp only [Sw.v] at q1 q2 q3 q4 q5 q7
                go_upto_region 22 with fail
                obtain ⟨yb,hyb⟩:∃ y,y=w1.heap.size:=⟨_,rfl⟩
                obtain ⟨vq,hvq⟩:∃ vq:Value->Obj,vq=fun v=>.cells #[.int .i64 k0,.slice ea el ec,.slice pa pl2 pc2,.slice la ll lc,.slice ha hl hc,.slice ta tl tc,.int .i64 x00,v] 40 (0,0):=⟨_,rfl⟩
                obtain ⟨ws,hws⟩:∃ ws,ws=w1.alloc (.cells #[.int .i64 k0,.slice ea el ec,.slice pa pl2 pc2,.slice la ll lc,.slice ha hl hc,.slice ta tl tc,.int .i64 x00,.slice none 0 0] 40):=⟨_,rfl⟩
                have hbs:Below w1.heap.size w1 ws:=by rw [hws];exact bl_new _
                have hss:ws.heap.size=yb+1:=by rw [hws,hyb];simp
                have hx0:ws.heap[yb]?=some (vq (.slice none 0 0)):=by rw [hws,hvq,hyb];exact World.alloc_heap_new _ _
                rw [<-hws]
                rw [<-hyb]
                have HBS:=hide hbs
                have HSS:=hide hss
                have HX0:=hide hx0
                have HVQ:=hide hvq
                have q7:=(hbs.cell (p:=⟨wr.heap.size,7,none⟩) (lt_of_cell q7)).trans q7
                have HYB:=hide hyb.symm
                obtain ⟨xA,CA,rfl,hCA,_,_⟩:=HS2.out.at'.slice
                obtain ⟨LA,hLA⟩:∃ L,L=(alK f.length fo P i).length:=⟨_,rfl⟩
                have HLA:Hid (LA=fo.length+(i-P)):=by rw [Hid,hLA,alK_len]
                rw [<-hLA] at HS2 hCA ⊢
                have HTB:Hid (∀ a,a<i->atN f.length fo P a<=1048576):=fun a ha=>by
                 have h1:=alK_at (nf:=f.length) HPO.out ha
                 have h2:a<(alK f.length fo P i).length:=by rw [alK_len,<-HPO.out];omega
                 have h3:=alK_le (P:=P) HFO.out (Nat.le_of_lt hlt9) (alK f.length fo P i)[a] (List.getElem_mem h2)
                 rw [List.getElem?_eq_getElem h2,Option.getD_some] at h1
                 have hmg9:=HM.out
                 omega
                clear hws hbs hss hx0 hvq hyb hLA har h20 hal q0 q1 q2 q3 q4 q5 q6
                go_wp2
                go_loopw [17,92] (fun x17 x92 wr=>∃ (k2:Nat) (v:Value),x92=.int .i64 (k2:Int)/\k2<=al/\wr.heap[yb]?=some (vq v)/\OwnR wr w.heap.size v ((d.ar.take k2).map fun a=>atN f.length fo P a.toNat)/\ws.grownBy wr (some yb)/\(v.ownBlock=none\/∃ g,v.ownBlock=some g/\ws.heap.size<=g)) (fun _ x _=>al-(intOf x).toNat)
                case atStart=>exact ⟨0,_,rfl,Nat.zero_le _,HX0.out,OwnR.nil _ _,World.grownBy.refl _ _,.inl rfl⟩
                case round =>
                 obtain ⟨k2,v,rfl,hk2,hx,hov,hg6,hvo⟩:=hrel
                 have HX:=hide hx
                 have HOV:=hide hov
                 have HG6:=hide hg6
                 have HVO:=hide hvo
                 have hyb:=HYB.out
                 have hss:=HSS.out
                 have hb7:Below w1.heap.size w1 wr:=(bl_on HBS.out (Below.refl _ _)).grown hg6 (by omega) (fun j e=>by cases e;omega)
                 have HB7:=hide hb7
                 have HS7:=hide (HS2.out.below hb7)
                 clear hx hov hg6 hvo hb7 hyb hss
                 by_cases hlt6:k2<al
                 · have hk3:k2<d.ar.length:=by rw [HAL.out];exact hlt6
                   obtain ⟨b2,o2,rfl,hbl2,hcb⟩:=(HAR.out.below HS7.out.bel).at (by omega)
                   have c0:=hcb k2 hlt6
                   have hga:=HGI.out d.ar[k2] (List.getElem_mem hk3)
                   have hae:d.ar[k2]?.getD 0=((d.ar[k2]).toNat:Int):=by rw [List.getElem?_eq_getElem hk3,Option.getD_some];omega
                   rw [hae] at c0
                   have htk:((d.ar.take (k2+1)).map fun a=>atN f.length fo P a.toNat)=((d.ar.take k2).map fun a=>atN f.length fo P a.toNat)++[atN f.length fo P (d.ar[k2]).toNat]:=by
                    rw [List.take_add_one,List.getElem?_eq_getElem hk3,Option.toList_some,List.map_append]
                    rfl
                   have HTK:=hide htk
                   obtain ⟨a,ha⟩:∃ a,a=(d.ar[k2]).toNat:=⟨_,rfl⟩
                   have han:a<i:=by rw [ha];omega
                   rw [<-ha] at c0 HTK
                   obtain ⟨K,hK⟩:∃ K,K=atN f.length fo P a:=⟨_,rfl⟩
                   rw [<-hK] at HTK
                   obtain ⟨L4,hL4⟩:∃ L4,L4=((d.ar.take k2).map fun a=>atN f.length fo P a.toNat):=⟨_,rfl⟩
                   rw [<-hL4] at HOV HTK
                   have j9:al<=1048576:=H20.out
                   have hL4l:L4.length<=1048576:=by
                    rw [hL4,List.length_map,List.length_take]
                    omega
                   have hLA:=HLA.out
                   have hpo:=HPO.out
                   have hyb:=HYB.out
                   have haL:a<LA:=by omega
                   obtain ⟨ga,rfl,hca⟩:=HS7.out.at'.cell a (by rw [alK_len];omega)
                   have hcK:wr.cell? ⟨ga,a,none⟩=some (nvI K):=by rw [hca,alK_at HPO.out han,hK]
                   have hgal:=(HS2.out.at'.at (g:=ga) rfl).2.1
                   have hsz7:w.heap.size<=wr.heap.size:=HS7.out.bel.size
                   have hgs:=HG6.out.size
                   have hss:=HSS.out
                   have HCX:Hid (∀ W,wr.grownBy W v.ownBlock->W.cell? ⟨yb,7,none⟩=some v/\W.frozen? ⟨yb,7,none⟩=false/\W.cell? ⟨ga,a,none⟩=some (nvI K)/\yb<W.heap.size/\∀ v',(W.setCell ⟨yb,7,none⟩ v').heap[yb]?=some (vq v')):=fun W hW=>by
                    have hne:∀ x,x<ws.heap.size->some x≠v.ownBlock:=fun x hx e=>by
                     rcases HVO.out with h | ⟨g,h,hg⟩
                     · rw [h] at e;cases e
                     · rw [h] at e;cases e;omega
                    have hxl:yb<wr.heap.size:=(Array.getElem?_eq_some_iff.1 HX.out).1
                    have h1:W.heap[yb]?=some (vq v):=(hW.block _ hxl (hne _ (by omega))).trans HX.out
                    rw [HVQ.out] at h1
                    have h2:=World.cell?_of_block (a:=⟨ga,a,none⟩) (hW.block ga (lt_of_cell hcK) (hne ga (by omega)))
                    refine ⟨by simp [World.cell?,h1],by simp [World.frozen?,h1],h2.trans hcK,Nat.lt_of_lt_of_le hxl hW.size,fun v'=>?_⟩
                    rw [HVQ.out]
                    simp only [World.setCell,Array.getElem?_modify,if_true,h1,Option.map_some]
                    rfl
                   have j5:(0:Int)<=(k2:Int):=Int.natCast_nonneg _
                   have j6:(k2:Int)<(al:Int):=by omega
                   have j7:(0:Int)<=(a:Int):=Int.natCast_nonneg _
                   have j8:(a:Int)<(LA:Int):=by omega
                   clear htk hcb hga hae ha hK hL4 hca hcK hLA hpo
                   go_upto_region 25 with fail
                   refine region_madeR (fun a b=>a.grownBy b v.ownBlock) (fun _ _ _ h k=>td_grown_trans _ _ _ h k) (fun _ _ h=>td_grown_of _ _ h) 7 9 14 [fIs (.pointer (some ⟨yb,7,none⟩)),fIs v,fIs (.slice (some ⟨ga,0,none⟩) LA CA),fIs (.int .i64 (a:Int)),fIs (.pointer (some ⟨ga,a,none⟩)),fIs (nvI K),fCellR v.ownBlock K,fOwnR w.heap.size wr.heap.size v.ownBlock (L4++[K]),fIs (.pointer (some ⟨yb,7,none⟩))] ?h1 ?h2 ?h3 (fun ch p q w3 e h=>by obtain ⟨t1,d1⟩:=p;obtain ⟨t2,d2⟩:=q;cases e;exact h) ⟨td_is_good _ _ _,td_is_good _ _ _,td_is_good _ _ _,td_is_good _ _ _,td_is_good _ _ _,td_is_good _ _ _,fCellR_good _ _,fOwnR_good _ _ _ _ _,td_is_good _ _ _,trivial⟩ ?mk ?rest
                   case h1=>kernel_rfl
                   case h2=>kernel_rfl
                   case h3=>rfl
                   case mk =>
                    refine ⟨fun u wz hb hs hd=>?_,fun u wz hb hs hd=>?_,fun u wz hb hs hd=>?_,fun u wz hb hs hd=>?_,fun u wz hb hs hd=>?_,fun u wz hb hs hd=>?_,fun u wz hb hs hd=>?_,fun u wz hb hs hd=>?_,fun u wz hb hs hd=>?_,trivial⟩
                    all_goals simp only [Act.put,List.setIfInBounds_toArray,List.set_cons_zero,List.set_cons_succ]
                    · go_simp
                      exact ⟨rfl,St.of (Below.refl _ _) (by decide),fun h=>by cases h⟩
                    · have e0:u 0=.pointer (some ⟨yb,7,none⟩):=hd 0 (by omega) (by kernel_rfl)
                      rw [e0]
                      obtain ⟨x1,x2,x3,x4,_⟩:=HCX wz hb
                      go_simp
                      exact ⟨rfl,St.of (Below.refl _ _) (by decide),fun h=>by cases h⟩
                    · go_simp
                      exact ⟨rfl,St.of (Below.refl _ _) (by decide),fun h=>by cases h⟩
                    · go_simp
                      exact ⟨rfl,St.of (Below.refl _ _) (by decide),fun h=>by cases h⟩
                    · have e2:u 2=.slice (some ⟨ga,0,none⟩) LA CA:=hd 2 (by omega) (by kernel_rfl)
                      have e3:u 3=.int .i64 (a:Int):=hd 3 (by omega) (by kernel_rfl)
                      rw [e2,e3]
                      go_simp
                      exact ⟨rfl,St.of (Below.refl _ _) (by decide),fun h=>by cases h⟩
                    · have e4:u 4=.pointer (some ⟨ga,a,none⟩):=hd 4 (by omega) (by kernel_rfl)
                      rw [e4]
                      obtain ⟨x1,x2,x3,x4,_⟩:=HCX wz hb
                      go_simp
                      exact ⟨rfl,St.of (Below.refl _ _) (by decide),fun h=>by cases h⟩
                    · have hc:(wz.alloc (.cells #[nvI K] 3)).cell? ⟨wz.heap.size,0,none⟩=some (nvI K):=by have h:=World.alloc_heap_new wz (.cells #[nvI K] 3);simp only [World.cell?,h];rfl
                      have e5:u 5=.int .i64 (K:Int):=hd 5 (by omega) (by kernel_rfl)
                      rw [e5]
                      go_simp
                      refine ⟨⟨wz.heap.size,rfl,hc,?_⟩,St.of (bl_new _) (by decide),fun h=>by cases h⟩
                      intro e
                      have:=(HOV.at e.symm).2.1
                      have:=hb.size
                      omega
                    · have e1:u 1=v:=hd 1 (by omega) (by kernel_rfl)
                      obtain ⟨B7,e9,h9,n9⟩:=hd 6 (by omega) (by kernel_rfl)
                      rw [e1,e9]
                      have hbb:=hs rfl
                      have hsz:=hbb.size
                      refine wp_append_nr (.tmp 97) (.tmp 102) rfl w.heap.size _ (L4) rfl (HOV.below hbb) B7 K rfl h9 hL4l (by have:=hsz7;omega) (fun v' w3 hS hg ho=>?_)
                      refine ⟨v',rfl,⟨hS,?_⟩,St.at hg,fun h=>by cases h⟩
                      rcases ho with ho | ho
                      · exact .inl ho
                      · exact .inr ⟨_,ho,hsz⟩
                    · go_simp
                      exact ⟨rfl,St.of (Below.refl _ _) (by decide),fun h=>by cases h⟩
                   case rest =>
                    intro u wz hb hf hp
                    have f8:u 8=.pointer (some ⟨yb,7,none⟩):=hf 8 (by omega)
                    obtain ⟨sd,ho⟩:=hf 7 (by omega)
                    obtain ⟨v8,f7⟩:∃ v8,u 7=v8:=⟨_,rfl⟩
                    rw [f7] at sd ho
                    refine UptoW.rest 1 9 (by rfl) (by kernel_rfl) ?_
                    simp only [List.take,List.drop,putOps,Act.put,List.setIfInBounds_toArray,List.set_cons_zero,List.set_cons_succ,Nat.reduceAdd,f8,f7]
                    clear f8 f7 hf hp
                    obtain ⟨x1,x2,x3,x4,x5⟩:=HCX wz hb
                    obtain ⟨a8,c8,e8,_⟩:=sd.slice
                    rw [List.length_append,List.length_singleton] at e8
                    have HSD:=hide sd
                    have HHO:=hide ho
                    have HGZ:=hide hb
                    clear sd ho hb
                    subst e8
                    have FIN:=x5
                    clear x5
                    have hv9:=own_trans HVO.out hgs HHO.out
                    refine wpList_plain rfl (fun Kc hKc=>?_)
                    go_simp
                    refine hKc _ _ (wpList_nil ?_)
                    clear hKc Kc
                    have hg8:ws.grownBy wz (some yb):=by
                     rcases HVO.out with h | ⟨g,h,hg⟩
                     · have h9:=HGZ.out
                       rw [h] at h9
                       exact td_grown_trans _ _ _ HG6.out ⟨h9.os,h9.tape,h9.output,h9.size,fun i hi _=>h9.block i hi (fun e=>by cases e)⟩
                     · exact grown_trans2 HG6.out HGZ.out (.inr ⟨g,h,hg⟩)
                    have hg9:=td_grown_trans _ _ _ hg8 (set_grown wz yb 7 (.slice a8 (L4.length+1) c8))
                    clear hg8
                    have hne9:(Value.slice a8 (L4.length+1) c8).ownBlock≠some yb:=fun e=>by
                     rcases hv9 with h | ⟨g,h,hg⟩
                     · rw [h] at e;cases e
                     · rw [h] at e;cases e;omega
                    have ho9:=HSD.out.grown (set_grown wz yb 7 (.slice a8 (L4.length+1) c8)) (.inr hne9)
                    have hx9:=FIN (.slice a8 (L4.length+1) c8)
                    have HO9:=hide ho9
                    have HG9:=hide hg9
                    have HX9:=hide hx9
                    have HV9:=hide hv9
                    clear ho9 hg9 hx9 hv9 hne9 FIN
                    go_wp2_with fail
                    go_roundw
                    case rel=>exact ⟨k2+1,_,by go_num,by omega,HX9.out,by rw [HTK.out];exact HO9.out,HG9.out,HV9.out⟩
                    case measure=>simp [intOf];omega
                 · obtain rfl:al=k2:=by omega
                   have hyb:=HYB.out
                   have hmg9:=HM.out
                   have hpo:=HPO.out
                   have htn:d.ar.take al=d.ar:=List.take_of_length_le (by rw [HAL.out];exact Nat.le_refl _)
                   rw [htn] at HOV
                   have hss:=HSS.out
                   have hvn:∀ g,v.ownBlock=some g->(Value.slice xA LA CA).ownBlock≠some g:=fun g e e2=>by
                    have h1:=(HS2.out.at'.at e2).2.1
                    rcases HVO.out with h | ⟨g',h,hg⟩
                    · rw [h] at e;cases e
                    · rw [h] at e;cases e;omega
                   have hS8:=HS7.out.more HOV.out hvn
                   have h20:((d.ar.map fun a=>atN f.length fo P a.toNat)).length<=1048576:=by rw [List.length_map,HAL.out];exact H20.out
                   have hxb:∀ x∈(d.ar.map fun a=>atN f.length fo P a.toNat),x<=1048576:=fun x hx=>by
                    obtain ⟨y,hy,rfl⟩:=List.mem_map.1 hx
                    have h3:=HGI.out y hy
                    have h4:=HTB.out y.toNat (by omega)
                    omega
                   have hn8:(nsK f g fo P i).length=f.length+(i-P):=nsK_len (by omega)
                   obtain ⟨aN,cN2,rfl,hNn⟩:=hS8.nd.nds (by omega)
                   obtain ⟨N,hN⟩:∃ N,N=(nsK f g fo P i).length:=⟨_,rfl⟩
                   rw [<-hN] at hS8 hNn hn8 ⊢
                   have HS8:=hide hS8
                   have HVN:=hide hvn
                   have hszr:=hS8.bel.size
                   have HNN:=hide hn8
                   have H2B:=hide h20
                   have HXB:=hide hxb
                   have HNE:=hide hN
                   have hlA:(alK f.length fo P i).length<=1048576:=by rw [alK_len];omega
                   have hyl:yb<wr.heap.size:=(Array.getElem?_eq_some_iff.1 HX.out).1
                   have hyg:∀ g,(Value.slice xA LA CA).ownBlock=some g->g≠yb:=fun g e e2=>by
                    have h1:=(HS2.out.at'.at e).2.1
                    omega
                   clear hS8 hvn hNn hn8 h20 hxb hN htn hmg9 hpo
                   go_upto_region 28 with (at_builtin;refine append_nr (by rfl) (.tmp 106) (.tmp 109) (by rfl) w.heap.size _ _ (by rfl) HS8.out.at' N (by rfl) hlA hszr ?_;intro vA2 w2 h1 h2 h3;have HS9:=hide (HS8.out.pushA h1 h2 h3);have HOV2:=hide (HOV.out.keep (fun g e hl=>h2.block g hl (fun e2=>HVN.out g e e2.symm)));have HX2:=hide ((h2.block yb hyl (fun e=>hyg yb e.symm rfl)).trans HX.out);clear h1 h2 h3)
                   obtain ⟨aq,cq,rfl,hnw⟩:=HS9.out.node HUI.out HOV2.out H2B.out HXB.out
                   obtain ⟨LQ,hLQ⟩:∃ L,L=(d.ar.map fun a=>atN f.length fo P a.toNat).length:=⟨_,rfl⟩
                   rw [<-hLQ] at hnw HX2 HS9
                   have hx2:=HX2.out
                   rw [HVQ.out] at hx2
                   obtain ⟨U,hU⟩:∃ U:Nw,U=⟨k0,⟨ea,el,ec⟩,⟨pa,pl2,pc2⟩,⟨la,ll,lc⟩,⟨ha,hl,hc⟩,⟨ta,tl,tc⟩,x00,⟨aq,LQ,cq⟩⟩:=⟨_,rfl⟩
                   have hnu:=hnw
                   change NwF _ _ _ ⟨k0,⟨ea,el,ec⟩,⟨pa,pl2,pc2⟩,⟨la,ll,lc⟩,⟨ha,hl,hc⟩,⟨ta,tl,tc⟩,x00,⟨aq,LQ,cq⟩⟩ _ at hnu
                   rw [<-hU] at hnu
                   have hxo:w2.heap[yb]?=some (nodeO U):=by rw [hU];exact hx2
                   have hya:U.At w2 yb 0:=by
                    unfold nodeO at hxo
                    constructor<;>(unfold World.cell?;rw [hxo];rfl)
                   obtain ⟨y0,y1,y2,y3,y4,y5,y6,y7⟩:=hya.cells
                   have HSUB:Hid (subN (atN f.length fo P) (g[i]?.getD ndD)={ d with ar:=(d.ar.map fun a=>atN f.length fo P a.toNat).map fun (x:Nat)=>(x:Int) }):=by
                    rw [Hid,<-HD.out,List.map_map]
                    rfl
                   have hnl:(nsK f g fo P i).length<=1048576:=by
                    have hmg9:=HM.out
                    rw [<-HNE.out,HNN.out]
                    omega
                   have hs2:=HS9.out.bel.size
                   clear hx2 hLQ hU hnw hxo hya
                   go_upto_region 29 with (at_builtin;refine append_nf (by rfl) (.tmp 111) (.tmp 113) (by rfl) w.heap.size _ _ _ (by rfl) HS9.out.nd HS9.out.rowF U _ (by rfl) hnu hnl HS9.out.lt hs2 ?_;intro vN2 w3 h1 h2 h3 h4;have HS10:=hide (HS9.out.pushN h1 h2 h3);clear h1 h2 h3 h4 y0 y1 y2 y3 y4 y5 y6 y7)
                   go_wp2_with fail
                   go_roundw
                   case rel =>
                    refine ⟨i+1,(Value.slice aq LQ cq).ownBlock.toList++F,vN2,vA2,by go_num,rfl,rfl,by omega,?_⟩
                    have h:=HS10.out
                    rw [HNN.out] at h
                    rw [nsK_succ (by omega) (by rw [HM.out];exact hlt9),alK_succ (by omega),HSUB.out]
                    exact h
                   case measure=>simp [intOf];omega
            · obtain rfl:m=i:=by omega
              have hall:nsK f g fo P m=chN f g fo P:=by rw [<-HM.out];exact nsK_all
              rw [hall] at HS
              have hcl:(chN f g fo P).length=f.length+(g.length-P):=chN_len
              obtain ⟨aN,cN2,rfl,hNn⟩:=HS.out.nd.nds (by omega)
              obtain ⟨N,hN⟩:∃ N,N=(chN f g fo P).length:=⟨_,rfl⟩
              rw [<-hN] at HS hNn ⊢
              obtain ⟨xA,CA,rfl,_,_,_⟩:=HS.out.at'.slice
              obtain ⟨LA,hLA⟩:∃ L,L=(alK f.length fo P m).length:=⟨_,rfl⟩
              have HLA:Hid (LA=fo.length+(m-P)):=by rw [Hid,hLA,alK_len]
              rw [<-hLA] at HS ⊢
              obtain ⟨wy,rfl⟩:∃ x,x=wr:=⟨_,rfl⟩
              have HTB:Hid (∀ a,a<m->atN f.length fo P a<=1048576):=fun a ha=>by
               have h1:=alK_at (nf:=f.length) HPO.out ha
               have h2:a<(alK f.length fo P m).length:=by rw [alK_len,<-HPO.out];omega
               have h3:=alK_le (P:=P) HFO.out (Nat.le_refl m) (alK f.length fo P m)[a] (List.getElem_mem h2)
               rw [List.getElem?_eq_getElem h2,Option.getD_some] at h1
               have hmg9:=HM.out
               omega
              obtain ⟨PF,hPF⟩:∃ PF,PF=parN f:=⟨_,rfl⟩
              have hPFl:PF<=f.length:=by rw [hPF];exact parN_le f
              rw [<-hPF] at HPF
              have HAF:Hid (aftN f g fo go=tidyN (chN f g fo P) PF (go.map fun o=>(atN f.length fo P o.toNat:Int))):=by rw [Hid,aftN,<-HPN.out,<-hPF]
              have HTD:=hide (fun (W:World) (hW:Below wy.heap.size wy W) (aO:Option Addr) (cO:Nat) (hO:Ints W aO pl (go.map fun o=>(atN f.length fo P o.toNat:Int)))=>rTidied_any aN N cN2 (chN f g fo P) PF aO pl cO (go.map fun o=>(atN f.length fo P o.toNat:Int)) W (hNn.below hW) hN.symm (by omega) (chN_gd HGF.out HGG.out HFO.out HPO.out (by omega)) (by omega) hO hpl (fun o ho=>by
               obtain ⟨y,hy,rfl⟩:=List.mem_map.1 ho
               have h1:=HGO.out y hy
               have h2:=atN_len (f:=f) (g:=g) HFO.out HPO.out (by omega) (i:=y.toNat) (by omega)
               omega))
              rw [<-HAF.out] at HTD
              have HGL:Hid (go.length=pl):=HO9.out.1
              have HQ3:=hide (fun (A1:Option Addr) (n1 c1:Nat) (A2:Option Addr) (n2 c2:Nat) (W:World) (q1:Nds W A1 n1 (aftN f g fo go).1) (q2:Ints W A2 n2 (aftN f g fo go).2)=>limited_any A1 n1 c1 A2 n2 c2 (aftN f g fo go) W q1 q2)
              obtain ⟨Q,hQ⟩:∃ Q,Q=limE (aftN f g fo go):=⟨_,rfl⟩
              rw [<-hQ] at HQ3 HQ2
              clear hall hcl hNn hN hLA hPF hQ
              obtain ⟨g0,g1⟩:=HS.out.bx.g.cells
              go_wp2
              go_loopw [18,20,119] (fun x18 x20 x119 wr=>∃ (t:Nat) (vO:Value),x119=.int .i64 (t:Int)/\vO=x18/\t<=pl/\OwnR wr w.heap.size vO ((go.take t).map fun o=>atN f.length fo P o.toNat)/\Below wy.heap.size wy wr/\(vO.ownBlock=none\/∃ g,vO.ownBlock=some g/\wy.heap.size<=g)) (fun _ _ x _=>pl-(intOf x).toNat)
              case atStart=>exact ⟨0,_,rfl,rfl,Nat.zero_le _,OwnR.nil _ _,Below.refl _ _,.inl rfl⟩
              case round =>
               obtain ⟨t,vO,rfl,rfl,ht,hov,hbl,hvo⟩:=hrel
               have HOV:=hide hov
               have HVO:=hide hvo
               have HBW:=hide hbl
               have HS5:=hide (HS.out.below hbl)
               have hsz5:=hbl.size
               have hsw5:=HS.out.bel.size
               clear hov hvo hbl
               by_cases hlt7:t<pl
               · obtain ⟨b2,o2,rfl,hbl2,hcb⟩:=(HO9.out.below HS5.out.bel).at (by omega)
                 have c0:=hcb t hlt7
                 have htl:t<go.length:=by rw [HGL.out];exact hlt7
                 have hga:=HGO.out go[t] (List.getElem_mem htl)
                 have hae:go[t]?.getD 0=((go[t]).toNat:Int):=by rw [List.getElem?_eq_getElem htl,Option.getD_some];omega
                 rw [hae] at c0
                 have htk:((go.take (t+1)).map fun o=>atN f.length fo P o.toNat)=((go.take t).map fun o=>atN f.length fo P o.toNat)++[atN f.length fo P (go[t]).toNat]:=by
                  rw [List.take_add_one,List.getElem?_eq_getElem htl,Option.toList_some,List.map_append]
                  rfl
                 have HTK:=hide htk
                 obtain ⟨a,ha⟩:∃ a,a=(go[t]).toNat:=⟨_,rfl⟩
                 have hmg:=HM.out
                 have han:a<m:=by rw [ha];omega
                 rw [<-ha] at c0 HTK
                 have hLA:=HLA.out
                 have hpo:=HPO.out
                 have haL:a<LA:=by omega
                 obtain ⟨ga,rfl,hca⟩:=HS5.out.at'.cell a (by rw [alK_len];omega)
                 rw [alK_at HPO.out han] at hca
                 obtain ⟨K,hK⟩:∃ K,K=atN f.length fo P a:=⟨_,rfl⟩
                 rw [<-hK] at HTK hca
                 unfold nvI at hca
                 have hll:((go.take t).map fun o=>atN f.length fo P o.toNat).length<=1048576:=by
                  rw [List.length_map,List.length_take]
                  omega
                 have hszB:w.heap.size<=wr.heap.size:=by omega
                 have j5:(0:Int)<=(t:Int):=Int.natCast_nonneg _
                 have j6:(t:Int)<(pl:Int):=by omega
                 have j7:(0:Int)<=(a:Int):=Int.natCast_nonneg _
                 have j8:(a:Int)<(LA:Int):=by omega
                 clear htk hcb hga hae ha hK g0 g1 hLA hpo hmg
                 go_wp2_with (at_builtin;refine append_nr (by rfl) (.tmp 123) (.tmp 128) (by rfl) w.heap.size _ _ (by rfl) HOV.out K (by rfl) hll hszB ?_;intro v2 w2 h1 h2 h3;have HO2:=hide h1;have HB2:=hide (HBW.out.grown h2 hsz5 (fun j e=>by rcases HVO.out with h | ⟨g,h,hg⟩;(rw [h] at e;cases e);(rw [h] at e;cases e;exact hg)));have HV2:=hide (own_trans HVO.out hsz5 h3);clear h1 h2 h3)
                 go_roundw
                 case rel=>exact ⟨t+1,v2,by go_num,rfl,by omega,by rw [HTK.out];exact HO2.out,HB2.out,HV2.out⟩
                 case measure=>simp [intOf];omega
               · obtain rfl:pl=t:=by omega
                 have htn:go.take pl=go:=List.take_of_length_le (by rw [HGL.out];exact Nat.le_refl _)
                 rw [htn] at HOV
                 obtain ⟨aO,cO,rfl,hO⟩:=HOV.out.ints (by rw [List.length_map,HGL.out];exact hpl) (fun x hx=>by
                  obtain ⟨y,hy,rfl⟩:=List.mem_map.1 hx
                  have h3:=HGO.out y hy
                  have hmg:=HM.out
                  exact HTB.out y.toNat (by omega))
                 have hlen:(go.map fun o=>atN f.length fo P o.toNat).length=pl:=by rw [List.length_map,HGL.out]
                 rw [hlen,List.map_map,show ((fun (x:Nat)=>(x:Int)) ∘ fun (o:Int)=>atN f.length fo P o.toNat)=fun o=>(atN f.length fo P o.toNat:Int) from rfl] at hO
                 rw [hlen]
                 have HO8:=hide hO
                 have hwl:w.heap.size+3<=wr.heap.size:=by have:=HS5.out.bx.r.lt;omega
                 clear hO hlen htn g0 g1
                 obtain ⟨f0,f1⟩:=HS5.out.bx.f.cells
                 go_wp2_with (first | (go_at_call 13;refine (HPF.out wr HS5.out.bel).mono ?_;rintro e w5 ⟨rfl,hb⟩;have HRa:=hide (HS5.out.bx.r.below hb);have HCa:=hide (bl_on HS5.out.bel hb);have HT5:=hide (HTD.out w5 (bl_on HBW.out hb) aO cO (HO8.out.below hb));clear hb f0 f1) | (go_at_call 16;refine HT5.out.mono ?_;rintro e w6 ⟨⟨A1,n1,c1,A2,n2,c2,rfl,k1,k2⟩,hb⟩;have HRb:=hide (HRa.out.below hb);have HCb:=hide (bl_on HCa.out hb);have HBE:=hide (HQ3.out A1 n1 c1 A2 n2 c2 w6 k1 k2);clear hb k1 k2 HT5) | (go_at_call 15;refine HBE.out.mono ?_;rintro e w7 ⟨⟨B1,m1,d1,B2,m2,d2,rfl,k1,k2⟩,hb⟩;have HRc:=hide (HRb.out.below hb);have HFI:=hide (box_graph (c1:=d1) (c2:=d2) HRc.out (bl_on HCb.out hb) (by omega) k1 k2);obtain ⟨r0,r1⟩:=HRc.out.cells;have r2:=HRc.out.fz 0;have r3:=HRc.out.fz 1;have r4:=HRc.out.lt;clear hb k1 k2 HBE))
                 obtain ⟨hg,hn1,hi1,hb1⟩:=HFI.out _ rfl
                 obtain ⟨u0,u1⟩:=hg.cells
                 refine bodyPost_ret (v:=.tuple #[.agg #[.slice B1 m1 d1,.slice B2 m2 d2],.int .i64 Q.2]) (by simp [results,Tryz.results5,go_sem,u0,u1]) rfl ⟨?_,hb1⟩
                 rw [HQ2.out]
                 exact ⟨_,_,_,_,_,_,rfl,hn1,hi1⟩
      · rw [show decide ((P:Int)≠(ol:Int))=true by simp;omega]
        obtain ⟨r0,r1⟩:=HR5.out.cells
        have r2:=HR5.out.fz 0
        have r3:=HR5.out.fz 1
        have r4:=HR5.out.lt
        have HFN:=hide (box_none HR5.out HC5.out (by omega))
        go_wp2_with fail
        obtain ⟨hg,hb1⟩:=HFN.out _ rfl
        obtain ⟨u0,u1⟩:=hg.cells
        refine bodyPost_ret (v:=.tuple #[.agg #[.slice none 0 0,.slice none 0 0],.int .i64 2]) (by simp [results,Tryz.results5,go_sem,u0,u1]) rfl ⟨?_,hb1⟩
        rw [HQ.out,if_neg (fun h=>h rfl),if_neg (fun h=>h rfl),if_pos (by rw [hfl];exact hPo)]
        exact grT_none _ _
   · obtain ⟨r0,r1⟩:=HR4.out.cells
     have r2:=HR4.out.fz 0
     have r3:=HR4.out.fz 1
     have r4:=HR4.out.lt
     have HFN:=hide (box_none HR4.out HC2.out (by omega))
     go_wp2_with fail
     obtain ⟨hg,hb1⟩:=HFN.out _ rfl
     obtain ⟨u0,u1⟩:=hg.cells
     refine bodyPost_ret (v:=.tuple #[.agg #[.slice none 0 0,.slice none 0 0],.int .i64 E2]) (by simp [results,Tryz.results5,go_sem,u0,u1]) rfl ⟨?_,hb1⟩
     rw [HQ.out,if_neg (fun h=>h rfl),if_pos hE2]
     exact grT_none _ _
 · obtain ⟨r0,r1⟩:=HR3.out.cells
   have r2:=HR3.out.fz 0
   have r3:=HR3.out.fz 1
   have r4:=HR3.out.lt
   have HFN:=hide (box_none HR3.out HC1.out (by omega))
   go_wp2_with fail
   obtain ⟨hg,hb1⟩:=HFN.out _ rfl
   obtain ⟨u0,u1⟩:=hg.cells
   refine bodyPost_ret (v:=.tuple #[.agg #[.slice none 0 0,.slice none 0 0],.int .i64 E1]) (by simp [results,Tryz.results5,go_sem,u0,u1]) rfl ⟨?_,hb1⟩
   rw [HQ.out,if_pos hE1]
   exact grT_none _ _
theorem graph_boxed {w0 w:World} {A1 A2:Option Addr} {n1 c1 n2 c2:Nat} {p:List Nd × List Int} (h1:Nds w A1 n1 p.1) (h2:Ints w A2 n2 p.2) (hb:Below w0.heap.size w0 w) (W8:World) (e:W8=w.alloc (.cells #[.slice A1 n1 c1,.slice A2 n2 c2] 25)):GBx W8 w.heap.size (.slice A1 n1 c1) (.slice A2 n2 c2)/\Nds W8 A1 n1 p.1/\Ints W8 A2 n2 p.2/\Below w0.heap.size w0 W8/\w.heap.size<W8.heap.size/\Below w.heap.size w W8:=by
 subst e
 have hb1:=bl_new (w:=w) (.cells #[.slice A1 n1 c1,.slice A2 n2 c2] 25)
 have hr:=GBx.new w (.slice A1 n1 c1) (.slice A2 n2 c2)
 exact ⟨hr,h1.below hb1,h2.below hb1,bl_on hb hb1,hr.lt,hb1⟩
theorem graphAfters_walk (A : Option Addr) (n cap : Nat) (f : List Nd) (oa : Option Addr) (ol oc : Nat) (fo : List Int) (B : Option Addr) (m capb : Nat) (g : List Nd) (ob : Option Addr) (pl pc : Nat) (go : List Int) (w : World) (h1 : Nds w A n f) (ho1 : Ints w oa ol fo) (h2 : Nds w B m g) (ho2 : Ints w ob pl go) (hol : ol ≤ 1048576) (hpl : pl ≤ 1048576) (hcap : n ≤ cap) (hc63 : cap ≤ 9223372036854775807) (h641 : Num64 f) (h642 : Num64 g) (ht : Lib.TabIs Tryz.prog w "internal/strconv.uint64pow10" .u64 Lib.pow10Tab) :
 Calls Tryz.prog 3 #[.agg #[.slice A n cap,.slice oa ol oc],.agg #[.slice B m capb,.slice ob pl pc]] w fun e w'=>e=.returned (.bool true)/\Below w.heap.size w w':=by
 have HB0:=hide (bl_new (w:=w) (.cells #[.slice A n cap,.slice oa ol oc] 25))
 have HF0:=hide (GBx.new w (.slice A n cap) (.slice oa ol oc))
 obtain ⟨W1,hW1⟩:∃ x,x=w.alloc (.cells #[.slice A n cap,.slice oa ol oc] 25):=⟨_,rfl⟩
 rw [<-hW1] at HB0 HF0
 have hs1:W1.heap.size=w.heap.size+1:=by rw [hW1];simp
 have HB1:=hide (bl_on HB0.out (bl_new (w:=W1) (.cells #[.slice B m capb,.slice ob pl pc] 25)))
 have HF1:=hide (HF0.out.below (bl_new (w:=W1) (.cells #[.slice B m capb,.slice ob pl pc] 25)))
 have HG1:=hide (GBx.new W1 (.slice B m capb) (.slice ob pl pc))
 obtain ⟨W2,hW2⟩:∃ x,x=W1.alloc (.cells #[.slice B m capb,.slice ob pl pc] 25):=⟨_,rfl⟩
 rw [<-hW2] at HB1 HF1 HG1
 rw [hs1] at HG1
 have HT:=hide (Lib.tabBelow_of_tabIs ht)
 have HT1:=hide (fun W (hW:Below w.heap.size w W)=>gAfter_any A n cap f oa ol oc fo B m capb g ob pl pc go W (h1.below hW) (ho1.below hW) (h2.below hW) (ho2.below hW) hcap hc63 h641 hpl h642 (HT.out W hW))
 have HT2:=hide (fun W (hW:Below w.heap.size w W)=>rAfter_any A n cap f oa ol oc fo B m capb g ob pl pc go W (h1.below hW) (ho1.below hW) (h2.below hW) (ho2.below hW) hol hpl)
 unfold GrTAns at HT1 HT2
 obtain ⟨Q,hQ⟩:∃ Q,Q=afterQ f fo g go:=⟨_,rfl⟩
 rw [<-hQ] at HT1 HT2
 obtain ⟨p,E⟩:=Q
 simp only at HT1 HT2
 clear h1 ho1 h2 ho2 hol hpl hQ ht h641 h642 hcap hc63 HT HB0 HF0 hs1
 obtain ⟨f0,f1⟩:=HF1.out.cells
 obtain ⟨g0,g1⟩:=HG1.out.cells
 go_enter Tryz.func3,Tryz.ntmps3
 go_upto_region 1 with fail
 rw [<-hW1,<-hW2]
 clear hW1 hW2
 go_upto_region 2 with (go_at_call 4;refine (HT1.out _ HB1.out).mono ?_;rintro e w1 ⟨⟨A1,n1,c1,A2,n2,c2,rfl,k1,k2⟩,hb1⟩;have HX1:=hide (graph_boxed (p:=p) (c1:=c1) (c2:=c2) k1 k2 (bl_on HB1.out hb1));have HF2:=hide (HF1.out.below hb1);have HG2:=hide (HG1.out.below hb1);have hs2:=hb1.size;clear hb1 f0 f1 g0 g1 k1 k2 HT1)
 obtain ⟨wb,hwb⟩:∃ x,x=w1.alloc (.cells #[.slice A1 n1 c1,.slice A2 n2 c2] 25):=⟨_,rfl⟩
 rw [<-hwb]
 obtain ⟨x1,x2,x3,x4,x5,x6⟩:=HX1.out _ hwb
 have HXB:=hide x1
 have HN1:=hide x2
 have HI1:=hide x3
 have HBB:=hide x4
 have HFB:=hide (HF2.out.below x6)
 have HGB:=hide (HG2.out.below x6)
 clear x1 x2 x3 x4 x6 hwb HX1 HF1 HG1 HF2 HG2
 obtain ⟨f0,f1⟩:=HFB.out.cells
 obtain ⟨g0,g1⟩:=HGB.out.cells
 go_upto_region 3 with (go_at_call 5;refine (HT2.out _ HBB.out).mono ?_;rintro e w2 ⟨⟨B1,m1,d1,B2,m2,d2,rfl,k1,k2⟩,hb1⟩;have HX2:=hide (graph_boxed (p:=p) (c1:=d1) (c2:=d2) k1 k2 (bl_on HBB.out hb1));have HXC:=hide (HXB.out.below hb1);have HN2:=hide (HN1.out.below hb1);have HI2:=hide (HI1.out.below hb1);have hs3:=hb1.size;clear hb1 f0 f1 g0 g1 k1 k2 HT2)
 obtain ⟨wc,hwc⟩:∃ x,x=w2.alloc (.cells #[.slice B1 m1 d1,.slice B2 m2 d2] 25):=⟨_,rfl⟩
 rw [<-hwc]
 obtain ⟨x1,x2,x3,x4,x5',x6⟩:=HX2.out _ hwc
 have HNC:=hide x2
 have HIC:=hide x3
 have HBC:=hide x4
 obtain ⟨y0,y1⟩:=x1.cells
 obtain ⟨z0,z1⟩:=(HXC.out.below x6).cells
 have HN3:=hide (HN2.out.below x6)
 have HI3:=hide (HI2.out.below x6)
 obtain rfl:m1=n1:=by rw [<-x2.1,<-HN1.out.1]
 obtain rfl:m2=n2:=by rw [<-x3.1,<-HI1.out.1]
 have HSG:=hide (fun W (hW:Below wc.heap.size wc W)=>rSameGraph_same A1 m1 c1 p.1 A2 m2 c2 p.2 B1 d1 B2 d2 W (HN3.out.below hW) (HI3.out.below hW) (HNC.out.below hW) (HIC.out.below hW))
 clear x1 x2 x3 x4 x6 hwc HX2
 go_wp2_with (go_at_call 6;refine (HSG.out _ (Below.refl _ _)).mono ?_;rintro e w3 ⟨rfl,hb3⟩;have HB9:=hide (bl_on HBC.out hb3);clear hb3)
 go_ret
 exact ⟨by simp,HB9.out⟩
end Go.Proofs.YtakpedjhgdkhkaaGreatDoor.V
