import Derived.Test.YtakpedjhgdkhkaaGreatDoorK40
import Derived.Test.YtakpedjhgdkhkaaGreatDoorK2
import Derived.Test.YtakpedjhgdkhkaaGreatDoorK21
namespace Go.Proofs.YtakpedjhgdkhkaaGreatDoor.V
set_option maxRecDepth 100000
set_option maxHeartbeats 8000000
open Go.RowKit
set_option linter.unusedVariables false
theorem farA_mono {xs:List Int} {m n:Nat} (h:farA xs m=false) (hmn:m<=n):farA xs n=false:=by
 unfold farA at h ⊢
 rw [List.any_eq_false] at h ⊢
 intro x hx
 have:=h x hx
 simp at this ⊢
 omega
theorem nodesP_far (l:List Nd) (P:Nat):∀ k,(nodesP l P k).2=0->∀ i,i<k->farA (l[i]?.getD ndD).ar i=false
 | 0,_,i,hi=>by omega
 | k+1,h,i,hi=>by
  rw [nodesP] at h
  by_cases c1:(nodesP l P k).2≠0
  · rw [if_pos c1] at h;exact absurd h c1
  · rw [if_neg c1] at h
    by_cases c2:(nodeP (l[k]?.getD ndD) (decide (k<P)) (nodesP l P k).1).2≠0
    · rw [if_pos c2] at h;exact absurd h c2
    · by_cases e:i=k
      · subst e
        have hl:=nodesP_len l P i (by simpa using c1)
        cases hf:farA (l[i]?.getD ndD).ar i with
        | false=>rfl
        | true=>exact absurd (by rw [nodeP,hl,if_pos hf];simp) c2
      · exact nodesP_far l P k (by simpa using c1) i (by omega)
theorem grP_ok {l:List Nd} {outs:List Int} (h:(grP l outs).2=0):l.length<=4096/\(grP l outs).1.length=l.length/\∀ i,i<l.length->farA (l[i]?.getD ndD).ar l.length=false:=by
 unfold grP at h ⊢
 by_cases c1:4096<l.length
 · rw [if_pos c1] at h;simp at h
 · rw [if_neg c1] at h ⊢
   by_cases c2:(nodesP l (parN l) l.length).2≠0
   · rw [if_pos c2] at h;exact absurd h c2
   · rw [if_neg c2] at h ⊢
     by_cases c3:farA outs l.length=true
     · rw [if_pos c3] at h;simp at h
     · rw [if_neg c3]
       exact ⟨by omega,nodesP_len l _ _ (by simpa using c2),fun i hi=>farA_mono (nodesP_far l _ _ (by simpa using c2) i hi) (by omega)⟩
theorem grP_far {l:List Nd} {outs:List Int} (h:(grP l outs).2=0):(∀ i,i<l.length->farA (l[i]?.getD ndD).ar i=false)/\farA outs l.length=false:=by
 unfold grP at h
 by_cases c1:4096<l.length
 · rw [if_pos c1] at h;simp at h
 · rw [if_neg c1] at h
   by_cases c2:(nodesP l (parN l) l.length).2≠0
   · rw [if_pos c2] at h;exact absurd h c2
   · rw [if_neg c2] at h
     by_cases c3:farA outs l.length=true
     · rw [if_pos c3] at h;simp at h
     · exact ⟨fun i hi=>nodesP_far l _ _ (by simpa using c2) i hi,by simpa using c3⟩
theorem farA_take_succ {xs:List Int} {n j:Nat} (h:farA (xs.take j) n=false) (hj:j<xs.length) (h1:0<=xs[j]?.getD 0) (h2:xs[j]?.getD 0<(n:Int)):farA (xs.take (j+1)) n=false:=by
 unfold farA at h ⊢
 rw [any_take_next xs _ 0 j hj,h,Bool.false_or]
 simp;omega
theorem farA_in {xs:List Int} {n j:Nat} (hj:j<xs.length) (h:xs[j]?.getD 0<0\/(n:Int)<=xs[j]?.getD 0):farA xs n=true:=by
 unfold farA
 rw [List.any_eq_true]
 exact ⟨xs[j]?.getD 0,by simp [hj],by simpa using h⟩
theorem pickD_take_succ (ds:List (List Int)) (xs:List Int) (j:Nat) (hj:j<xs.length):pickD ds (xs.take (j+1))=pickD ds (xs.take j)++[ds[(xs[j]?.getD 0).toNat]?.getD []]:=by
 unfold pickD
 rw [List.take_succ_eq_append_getElem hj,List.map_append]
 simp [hj]
theorem one_ne {xs:List Int} {n:Int}:xs≠[n]<->xs.length≠1\/xs[0]?.getD 0≠n:=by
 match xs with
 | []=>simp
 | [x]=>simp
 | x::y::r=>simp
theorem rGDims_any (A:Option Addr) (n cap:Nat) (l:List Nd) (oa:Option Addr) (ol oc:Nat) (outs:List Int) (w:World) (h:Nds w A n l) (ho:Ints w oa ol outs) :
 Calls Tryz.prog 12 #[.agg #[.slice A n cap,.slice oa ol oc]] w fun e w'=>OutLs e w' (grP l outs)/\Below w.heap.size w w':=by
 have H:=hide h
 have HO:=hide ho
 have hm:=h.2.1
 have HNL:=hide h.1
 have HB0:=hide (bl_new (w:=w) (.cells #[.slice A n cap,.slice oa ol oc] 25))
 have HG0:=hide (GrAt.new w A n cap oa ol oc)
 obtain ⟨g0,g1⟩:=HG0.out
 have HP:=hide (fun W (hW:Below w.heap.size w W)=>rParams_any A n cap l oa ol oc W (h.below hW))
 have HGP:Hid (grP l outs=if 4096<n then ([],5) else if (nodesP l (parN l) n).2≠0 then ([],(nodesP l (parN l) n).2) else if farA outs n=true then ([],4) else ((nodesP l (parN l) n).1,0)):=by rw [Hid,<-h.1];rfl
 obtain ⟨R,hR⟩:∃ R,R=grP l outs:=⟨_,rfl⟩
 rw [<-hR] at HGP ⊢
 obtain ⟨P,hP⟩:∃ P,P=parN l:=⟨_,rfl⟩
 rw [<-hP] at HGP HP
 have HPL:Hid (P<=n):=by rw [Hid,hP,<-HNL.out];exact parN_le l
 clear h ho hR hP
 by_cases hbig:4096<n
 · have i0:(4096:Int)<(n:Int):=by omega
   rw [if_pos hbig] at HGP
   go_enter Tryz.func12,Tryz.ntmps12
   go_wp2
   go_ret2
   rw [HGP.out]
   exact ⟨outLs_none _ _,HB0.out⟩
 · have i0:¬ ((4096:Int)<(n:Int)):=by omega
   rw [if_neg hbig] at HGP
   have hn4:n<=4096:=by omega
   clear hbig
   obtain ⟨W0,hW0⟩:∃ W0,W0=w.alloc (.cells #[.slice A n cap,.slice oa ol oc] 25):=⟨_,rfl⟩
   have hs0:W0.heap.size=w.heap.size+1:=by rw [hW0];simp
   have HS0:=hide hs0
   rw [<-hW0] at HB0 HG0 g0 g1
   go_enter Tryz.func12,Tryz.ntmps12
   go_upto_region 1 with fail
   rw [<-hW0]
   clear hW0 hs0
   have hs1:w.heap.size<W0.heap.size:=by rw [HS0.out];omega
   go_wp2
   go_loopw [4,23] (fun v i wr=>∃ k:Nat,k<=n/\i=.int .i64 k/\(nodesP l P k).2=0/\LsR wr W0.heap.size v (nodesP l P k).1/\Below W0.heap.size W0 wr) (fun _ i _=>n-(intOf i).toNat)
   case atStart=>exact ⟨0,Nat.zero_le _,rfl,rfl,LsR.nil _ _,Below.refl _ _⟩
   case round =>
    obtain ⟨k,hk,rfl,h0,hls,hb⟩:=hrel
    have H0:=hide h0
    have HLS:=hide hls
    have HB:=hide hb
    have hlen:=nodesP_len l P k h0
    have HLEN:=hide hlen
    have hsz:=hb.size
    have HBw:=hide (bl_on HB0.out hb)
    have HGr:=hide (HG0.out.below (hb.mono (by omega)))
    obtain ⟨A5,c5,rfl,hc5,hl5⟩:=hls.slice (by omega)
    rw [hlen] at hc5 hl5 HLS ⊢
    have HL5:=hide hl5
    have HC5:=hide hc5
    clear h0 hls hb hlen hl5 g0 g1 hc5
    obtain ⟨g0,g1⟩:=HGr.out
    have hs3:w.heap.size<wr.heap.size:=by omega
    by_cases hlt:k<n
    · obtain ⟨b,off,rfl,hc⟩:=(H.out.below HBw.out).at (by omega)
      obtain ⟨u,hu,hi⟩:=hc k hlt
      have HI:=hide hi
      have HNX:Hid (nodesP l P (k+1)=if (nodeP (l[k]?.getD ndD) (decide (k<P)) (nodesP l P k).1).2≠0 then ([],(nodeP (l[k]?.getD ndD) (decide (k<P)) (nodesP l P k).1).2) else ((nodesP l P k).1++[(nodeP (l[k]?.getD ndD) (decide (k<P)) (nodesP l P k).1).1],0)):=by
       rw [Hid,nodesP,if_neg (by rw [H0.out];exact fun h=>h rfl)]
      have HER:Hid ((nodesP l P (k+1)).2≠0->R=([],(nodesP l P (k+1)).2)):=fun hne=>by
       rw [HGP.out,nodesP_err l P (k+1) hne n hlt,if_pos hne]
      obtain ⟨d,hd⟩:∃ d,d=l[k]?.getD ndD:=⟨_,rfl⟩
      obtain ⟨D,hD⟩:∃ D,D=(nodesP l P k).1:=⟨_,rfl⟩
      rw [<-hd] at HI HNX
      rw [<-hD] at HNX HLS HL5 HLEN
      have HNP:Hid (nodeP d (decide (k<P)) D=if farA d.ar k=true then ([],10) else if d.k≠1 then dimsP d.k d.es d.ps d.lo d.hi d.st (pickD D d.ar) else if decide (k<P)=false\/d.ps≠[(k:Int)] then ([],7) else if 0<d.ar.length then ([],2) else if sizeE d.es≠0 then ([],sizeE d.es) else (d.es,0)):=by
       rw [Hid,nodeP,HLEN.out]
      obtain ⟨r,hr⟩:∃ r,r=nodeP d (decide (k<P)) D:=⟨_,rfl⟩
      rw [<-hr] at HNX HNP
      clear hr hc hi hd
      have HBX:=hide (bl_new (w:=wr) (.cells #[.int .i64 u.k,u.e.v,u.p.v,u.lo.v,u.hi.v,u.st.v,.int .i64 u.x,u.ar.v] 40))
      have HAX:=hide (Nw.new u wr)
      obtain ⟨c0,c1,c2,c3,c4,c5',c6,c7⟩:=hu
      have z:=lt_of_cell c0
      simp only at z
      have i1:(k:Int)<(n:Int):=by omega
      have HLT:=hide hlt
      have hal:=HI.out.ar.2
      have HAR:=hide HI.out.ar.1.1
      have HKK:=hide HI.out.k
      obtain ⟨ku,⟨ea,el,ec⟩,⟨pa,pl,pc⟩,⟨la,ll,lc⟩,⟨ha,hl,hhc⟩,⟨ta,tl,tc⟩,x,⟨aa,al,ac⟩⟩:=u
      simp only [Sw.v] at c0 c1 c2 c3 c4 c5' c6 c7 HBX HAX hal HAR HKK
      obtain ⟨WN,hWN⟩:∃ WN,WN=wr.alloc (.cells #[.int .i64 ku,.slice ea el ec,.slice pa pl pc,.slice la ll lc,.slice ha hl hhc,.slice ta tl tc,.int .i64 x,.slice aa al ac] 40):=⟨_,rfl⟩
      rw [<-hWN] at HBX HAX
      have HBXw:=hide (bl_on HBw.out HBX.out)
      go_upto_region 8 with fail
      rw [<-hWN]
      have hsN:WN.heap.size=wr.heap.size+1:=by rw [hWN];simp
      have HSN:=hide hsN
      clear hWN c0 c1 c2 c3 c4 c5' c6 c7 hsN
      have hsN2:wr.heap.size<WN.heap.size:=by rw [HSN.out];omega
      obtain ⟨d0,d1,d2,d3,d4,d5,d6,d7⟩:=HAX.out.cells
      simp only [Sw.v] at d1 d2 d3 d4 d5 d7
      go_wp2
      go_loopw [7,31] (fun v i wq=>∃ j:Nat,j<=al/\i=.int .i64 j/\farA (d.ar.take j) k=false/\LsR wq WN.heap.size v (pickD D (d.ar.take j))/\Below WN.heap.size WN wq) (fun _ i _=>al-(intOf i).toNat)
      case atStart=>exact ⟨0,Nat.zero_le _,rfl,by simp [farA],by simp [pickD];exact LsR.nil _ _,Below.refl _ _⟩
      case round =>
       clear g0 g1 d0 d1 d2 d3 d4 d5 d6 d7
       obtain ⟨j,hj,rfl,hfa,hls,hbq⟩:=hrel
       have HFA:=hide hfa
       have HLQ:=hide hls
       have HBQ:=hide hbq
       have hsq:=hbq.size
       have HLD:=hide ((HL5.out.below HBX.out).below hbq)
       clear hfa hls hbq
       by_cases hjl:j<al
       · obtain ⟨ba,oa',rfl,_,hca⟩:=((HAR.out.below HBX.out).below HBQ.out).at (by omega)
         have hcj:=hca j hjl
         have hjx:j<d.ar.length:=by rw [HAR.out.1];exact hjl
         have HJX:=hide hjx
         obtain ⟨q,hq⟩:∃ q,q=d.ar[j]?.getD 0:=⟨_,rfl⟩
         rw [<-hq] at hcj
         have HQ:=hide hq
         clear hca hjx hq
         have i2:(j:Int)<(al:Int):=by omega
         by_cases hq0:q<0\/(k:Int)<=q
         · have HFAR:Hid (r=([],10)):=by rw [Hid,HNP.out,if_pos (farA_in HJX.out (by rw [<-HQ.out];exact hq0))]
           have HKEY:Hid (OutLs (.returned (.tuple #[.slice none 0 0,.int .i64 10])) wr R):=by
            have hne:(nodesP l P (k+1)).2≠0:=by rw [HNX.out,HFAR.out];simp
            rw [Hid,HER.out hne,HNX.out,HFAR.out]
            exact outLs_none _ _
           rcases hq0 with hq0 | hq0
           · go_wp2
             go_ret2
             exact ⟨HKEY.out,bl_on HBXw.out HBQ.out⟩
           · have hq1:¬ q<0:=by omega
             go_wp2
             go_ret2
             exact ⟨HKEY.out,bl_on HBXw.out HBQ.out⟩
         · obtain ⟨qn,rfl⟩:∃ qn:Nat,q=(qn:Int):=⟨q.toNat,by omega⟩
           have hqk:qn<k:=by omega
           obtain ⟨b5,o5,rfl,hcd⟩:=HLD.out.at (by omega)
           obtain ⟨X,m,c,hcX,hlX⟩:=hcd qn hqk
           have HLX:=hide hlX
           have z5:=lt_of_cell hcX
           simp only at z5
           have i3:¬ ((qn:Int)<0):=by omega
           have i4:¬ ((k:Int)<=(qn:Int)):=by omega
           have HPN:Hid (pickD D (d.ar.take (j+1))=pickD D (d.ar.take j)++[D[qn]?.getD []]):=by rw [Hid,pickD_take_succ D d.ar j HJX.out,<-HQ.out,Int.toNat_natCast]
           have HFN:Hid (farA (d.ar.take (j+1)) k=false):=farA_take_succ HFA.out HJX.out (by rw [<-HQ.out];omega) (by rw [<-HQ.out];omega)
           have HTL:Hid ((pickD D (d.ar.take j)).length=j):=by rw [Hid,pickD_len,List.length_take];have:=HJX.out;omega
           clear hcd hlX hq0
           go_wp2_with (at_builtin;refine append_ls (by rfl) (.tmp 42) (.tmp 47) (by rfl) WN.heap.size _ (pickD D (d.ar.take j)) (by rfl) X m c (D[qn]?.getD []) HLQ.out HLX.out (by rfl) (by rw [HTL.out];omega) (by omega) ?_;intro v4 w4 hls4 hg4 hsr4 _;have HLS4:=hide hls4;have HG4:=hide hg4;have HSR4:=hide hsr4;clear hls4 hg4 hsr4)
           go_roundw
           case rel =>
            obtain ⟨vs4,hsr⟩:=HSR4.out
            refine ⟨j+1,by omega,by go_num,HFN.out,by rw [HPN.out];exact HLS4.out,?_⟩
            exact (HBQ.out.alloc (by omega) _).grown HG4.out (by simp;omega) (fun j e=>(hsr.lt e).1)
           case measure=>simp [intOf];omega
       · obtain rfl:j=al:=by omega
         have HTA:Hid (d.ar.take j=d.ar):=List.take_of_length_le (by rw [HAR.out.1];exact Nat.le_refl _)
         rw [HTA.out] at HFA HLQ
         rw [HFA.out,if_neg Bool.false_ne_true] at HNP
         obtain ⟨A7,c7,rfl,hc7,hl7⟩:=HLQ.out.slice (by rw [pickD_len,HAR.out.1];omega)
         rw [pickD_len,HAR.out.1] at hc7 hl7 ⊢
         have HL7:=hide hl7
         have HI2:=hide ((HI.out.below HBX.out).below HBQ.out)
         have HAX2:=hide (HAX.out.below HBQ.out)
         have HBQw:=hide (bl_on HBXw.out HBQ.out)
         have HG2:=hide ((HGr.out.below (HBX.out.mono (by omega))).below (HBQ.out.mono (by omega)))
         obtain ⟨g0,g1⟩:=HG2.out
         obtain ⟨d0,d1,d2,d3,d4,d5,d6,d7⟩:=HAX2.out.cells
         simp only [Sw.v] at d1 d2 d3 d4 d5 d7
         have HLS2:=hide ((HLS.out.below HBX.out).below HBQ.out)
         have HBB:=hide (bl_on (bl_on HB.out HBX.out) HBQ.out)
         clear HLQ HAX HGr hl7 hjl HTA
         by_cases hk1:ku=1
         · have hq1:(ku == 1)=true:=by simp [hk1]
           rw [<-HKK.out,if_neg (by simpa using hk1)] at HNP
           clear hk1
           have HPC:=hide (HP.out wr HBQw.out)
           have HPS:Hid (Ints wr pa pl d.ps):=HI2.out.p.1.1
           have hpl:=HI2.out.p.1.1.1
           simp only at hpl
           have HE7:Hid ((decide (k<P)=false\/d.ps≠[(k:Int)])->∀ W,OutLs (.returned (.tuple #[.slice none 0 0,.int .i64 7])) W R):=fun hh W=>by
            have hr7:r=([],7):=by rw [HNP.out,if_pos hh]
            have hne:(nodesP l P (k+1)).2≠0:=by rw [HNX.out,hr7];simp
            rw [HER.out hne,HNX.out,hr7]
            exact outLs_none _ _
           by_cases hkP:k<P
           · have j1:¬ ((P:Int)<=(k:Int)):=by omega
             by_cases hp1:pl=1
             · subst hp1
               obtain ⟨bp,op',rfl,_,hcp⟩:=HPS.out.at (by omega)
               have hcp0:=hcp 0 (by omega)
               simp only [Nat.add_zero] at hcp0
               obtain ⟨y,hy⟩:∃ y,y=d.ps[0]?.getD 0:=⟨_,rfl⟩
               rw [<-hy] at hcp0
               have HY:=hide hy
               have HPL1:=hide hpl
               clear hcp hy hpl
               by_cases hyk:y=(k:Int)
               · have jq:(y != (k:Int))=false:=by simp [hyk]
                 have HEQ:Hid (d.ps=[(k:Int)]):=by
                  by_cases e:d.ps=[(k:Int)]
                  · exact e
                  · rcases one_ne.1 e with e1 | e1
                    · exact absurd HPL1.out e1
                    · exact absurd (HY.out ▸ hyk) e1
                 rw [if_neg (by simp [HEQ.out,hkP])] at HNP
                 clear hyk
                 have hpar:=HAR.out.1
                 rw [hpar] at HNP
                 have HES:Hid (Lst wr ea el ec d.es):=HI2.out.e.1
                 have HSZ:=hide (fun W (hW:Below wr.heap.size wr W)=>rsize_any ea el ec d.es W (HES.out.below hW).1)
                 have HERR:Hid (∀ E,E≠0->r=([],E)->∀ W,OutLs (.returned (.tuple #[.slice none 0 0,.int .i64 E])) W R):=fun E hE hr7 W=>by
                  have hne:(nodesP l P (k+1)).2≠0:=by rw [HNX.out,hr7,if_pos hE];exact hE
                  rw [HER.out hne,HNX.out,hr7,if_pos hE]
                  exact outLs_none _ _
                 clear hpar
                 by_cases hj0:0<j
                 · have i5:(0:Int)<(j:Int):=by omega
                   rw [if_pos hj0] at HNP
                   clear hj0
                   go_wp2_with (go_at_call 13;refine HPC.out.mono ?_;rintro e w3 ⟨rfl,hb3⟩;have HB3:=hide (bl_on HBQw.out hb3);have HAX3:=hide (HAX2.out.below hb3);have hcp1:=(hb3.cell (p:=⟨bp,op',none⟩) (lt_of_cell hcp0)).trans hcp0;clear hb3 d0 d1 d2 d3 d4 d5 d6 d7 g0 g1 hcp0;obtain ⟨d0,d1,d2,d3,d4,d5,d6,d7⟩:=HAX3.out.cells;simp only [Sw.v] at d1 d2 d3 d4 d5 d7)
                   go_ret2
                   exact ⟨HERR.out 2 (by omega) HNP.out _,HB3.out⟩
                 · have i5:¬ ((0:Int)<(j:Int)):=by omega
                   rw [if_neg hj0] at HNP
                   clear hj0
                   by_cases hz:sizeE d.es=0
                   · rw [if_neg (by simpa using hz)] at HNP
                     have HZ:=hide hz
                     rw [HNP.out,if_neg (fun h=>h rfl)] at HNX
                     clear hz
                     go_wp2_with (first
                      | (go_at_call 13;refine HPC.out.mono ?_;rintro e w3 ⟨rfl,hb3⟩;have HBN:=hide hb3;have hs4:=hb3.size;have HAX3:=hide (HAX2.out.below hb3);have hcp1:=(hb3.cell (p:=⟨bp,op',none⟩) (lt_of_cell hcp0)).trans hcp0;clear hb3 d0 d1 d2 d3 d4 d5 d6 d7 g0 g1 hcp0;obtain ⟨d0,d1,d2,d3,d4,d5,d6,d7⟩:=HAX3.out.cells;simp only [Sw.v] at d1 d2 d3 d4 d5 d7)
                      | (go_at_call 27;refine (HSZ.out _ HBN.out).mono ?_;rintro e w4 ⟨rfl,hw4⟩;obtain rfl:=hw4.symm;rw [HZ.out])
                      | (at_builtin;refine append_ls (by rfl) (.tmp 88) (.tmp 92) (by rfl) W0.heap.size _ D (by rfl) ea el ec d.es (HLS2.out.below HBN.out) (HES.out.below HBN.out) (by rfl) (by rw [HLEN.out];omega) (by omega) ?_;intro v4 w4 hls4 hg4 hsr4 _;have HLS4:=hide hls4;have HG4:=hide hg4;have HSR4:=hide hsr4;clear hls4 hg4 hsr4))
                     go_roundw
                     case rel =>
                      obtain ⟨vs4,hsr⟩:=HSR4.out
                      refine ⟨k+1,by omega,by go_num,by rw [HNX.out],by rw [HNX.out];exact HLS4.out,?_⟩
                      exact ((bl_on HBB.out HBN.out).alloc (by omega) _).grown HG4.out (by simp;omega) (fun j e=>(hsr.lt e).1)
                     case measure=>simp [intOf];omega
                   · rw [if_pos hz] at HNP
                     have hzq:(sizeE d.es != 0)=true:=by simp [hz]
                     obtain ⟨Z,hZ⟩:∃ Z,Z=sizeE d.es:=⟨_,rfl⟩
                     rw [<-hZ] at hzq HNP hz
                     have HZZ:=hide hZ
                     have HZ:=hide hz
                     clear hz hZ
                     go_wp2_with (first
                      | (go_at_call 13;refine HPC.out.mono ?_;rintro e w3 ⟨rfl,hb3⟩;have HBN:=hide hb3;have HAX3:=hide (HAX2.out.below hb3);have hcp1:=(hb3.cell (p:=⟨bp,op',none⟩) (lt_of_cell hcp0)).trans hcp0;clear hb3 d0 d1 d2 d3 d4 d5 d6 d7 g0 g1 hcp0;obtain ⟨d0,d1,d2,d3,d4,d5,d6,d7⟩:=HAX3.out.cells;simp only [Sw.v] at d1 d2 d3 d4 d5 d7)
                      | (go_at_call 27;refine (HSZ.out _ HBN.out).mono ?_;rintro e w4 ⟨rfl,hw4⟩;obtain rfl:=hw4.symm;rw [<-HZZ.out]))
                     go_ret2
                     exact ⟨HERR.out Z HZ.out HNP.out _,bl_on HBQw.out HBN.out⟩
               · have jq:(y != (k:Int))=true:=by simp [hyk]
                 have HNE:Hid (d.ps≠[(k:Int)]):=one_ne.2 (.inr (by rw [<-HY.out];exact hyk))
                 clear hyk
                 go_wp2_with (go_at_call 13;refine HPC.out.mono ?_;rintro e w3 ⟨rfl,hb3⟩;have HB3:=hide (bl_on HBQw.out hb3);have HAX3:=hide (HAX2.out.below hb3);have hcp1:=(hb3.cell (p:=⟨bp,op',none⟩) (lt_of_cell hcp0)).trans hcp0;clear hb3 d0 d1 d2 d3 d4 d5 d6 d7 g0 g1 hcp0;obtain ⟨d0,d1,d2,d3,d4,d5,d6,d7⟩:=HAX3.out.cells;simp only [Sw.v] at d1 d2 d3 d4 d5 d7)
                 go_ret2
                 exact ⟨HE7.out (.inr HNE.out) _,HB3.out⟩
             · have jq:((pl:Int) != 1)=true:=by simp;omega
               have HNE:Hid (d.ps≠[(k:Int)]):=one_ne.2 (.inl (by rw [hpl];exact hp1))
               clear hpl
               go_wp2_with (go_at_call 13;refine HPC.out.mono ?_;rintro e w3 ⟨rfl,hb3⟩;have HB3:=hide (bl_on HBQw.out hb3);have HAX3:=hide (HAX2.out.below hb3);clear hb3 d0 d1 d2 d3 d4 d5 d6 d7 g0 g1;obtain ⟨d0,d1,d2,d3,d4,d5,d6,d7⟩:=HAX3.out.cells;simp only [Sw.v] at d1 d2 d3 d4 d5 d7)
               go_ret2
               exact ⟨HE7.out (.inr HNE.out) _,HB3.out⟩
           · have j1:(P:Int)<=(k:Int):=by omega
             have HNP7:Hid (decide (k<P)=false):=decide_eq_false hkP
             clear hkP hpl
             go_wp2_with (go_at_call 13;refine HPC.out.mono ?_;rintro e w3 ⟨rfl,hb3⟩;have HB3:=hide (bl_on HBQw.out hb3);have HAX3:=hide (HAX2.out.below hb3);clear hb3 d0 d1 d2 d3 d4 d5 d6 d7 g0 g1;obtain ⟨d0,d1,d2,d3,d4,d5,d6,d7⟩:=HAX3.out.cells;simp only [Sw.v] at d1 d2 d3 d4 d5 d7)
             go_ret2
             exact ⟨HE7.out (.inl HNP7.out) _,HB3.out⟩
         · have hq1:(ku == 1)=false:=by simp [hk1]
           rw [<-HKK.out,if_pos hk1] at HNP
           have HD:=hide (rDims_any ku x ea el ec d.es pa pl pc d.ps la ll lc d.lo ha hl hhc d.hi ta tl tc d.st A7 j c7 (pickD D d.ar) wr HI2.out.e.1 HI2.out.p.1 HI2.out.lo.1 HI2.out.hi.1 HI2.out.st.1 HL7.out hc7 hal HI2.out.e.2 HI2.out.p.2 HI2.out.lo.2 HI2.out.hi.2 HI2.out.st.2)
           rw [<-HNP.out] at HD
           clear hk1
           go_wp2_with fail
           refine HD.out.mono ?_
           rintro e w3 ⟨⟨X3,m3,c3x,rfl,hi3,hc3⟩,hb3⟩
           have HI3:=hide (lst_ints hi3 hc3)
           have HBN:=hide hb3
           clear hi3 hc3 hb3 d0 d1 d2 d3 d4 d5 d6 d7 g0 g1
           by_cases hr0:r.2=0
           · have hq:(r.2 != 0)=false:=by simp [hr0]
             rw [if_neg (by simpa using hr0)] at HNX
             have hs4:wr.heap.size<=w3.heap.size:=HBN.out.size
             clear hr0
             go_wp2_with (at_builtin;refine append_ls (by rfl) (.tmp 104) (.tmp 106) (by rfl) W0.heap.size _ D (by rfl) X3 m3 c3x r.1 (HLS2.out.below HBN.out) HI3.out (by rfl) (by rw [HLEN.out];omega) (by omega) ?_;intro v4 w4 hls4 hg4 hsr4 _;have HLS4:=hide hls4;have HG4:=hide hg4;have HSR4:=hide hsr4;clear hls4 hg4 hsr4)
             go_roundw
             case rel =>
              obtain ⟨vs4,hsr⟩:=HSR4.out
              refine ⟨k+1,by omega,by go_num,by rw [HNX.out],by rw [HNX.out];exact HLS4.out,?_⟩
              exact ((bl_on HBB.out HBN.out).alloc (by omega) _).grown HG4.out (by simp;omega) (fun j e=>(hsr.lt e).1)
             case measure=>simp [intOf];omega
           · have hq:(r.2 != 0)=true:=by simp [hr0]
             rw [if_pos hr0] at HNX
             have HR0:=hide hr0
             clear hr0
             go_wp2
             go_ret2
             have hne:(nodesP l P (k+1)).2≠0:=by rw [HNX.out];exact HR0.out
             rw [HER.out hne,HNX.out]
             exact ⟨outLs_none _ _,bl_on HBQw.out HBN.out⟩
    · obtain rfl:k=n:=by omega
      rw [H0.out,if_neg (fun h=>h rfl)] at HGP
      go_wp2
      have HOr:=hide (HO.out.below HBw.out)
      go_loop [112] (fun i=>∃ j:Nat,j<=ol/\i=.int .i64 j/\farA (outs.take j) k=false) (fun i=>ol-(intOf i).toNat)
      case atStart=>exact ⟨0,Nat.zero_le _,rfl,by simp [farA]⟩
      case round =>
       obtain ⟨j,hj,rfl,hfa⟩:=hrel
       have HFA:=hide hfa
       have hol:=HOr.out.2.1
       clear hfa
       by_cases hjl:j<ol
       · obtain ⟨ba,oo,rfl,_,hca⟩:=HOr.out.at (by omega)
         have hcj:=hca j hjl
         have hjx:j<outs.length:=by rw [HOr.out.1];exact hjl
         have HJX:=hide hjx
         obtain ⟨q,hq⟩:∃ q,q=outs[j]?.getD 0:=⟨_,rfl⟩
         rw [<-hq] at hcj
         have HQ:=hide hq
         clear hca hjx hq
         have i2:(j:Int)<(ol:Int):=by omega
         by_cases hq0:q<0\/(k:Int)<=q
         · have HFR:Hid (farA outs k=true):=farA_in HJX.out (by rw [<-HQ.out];exact hq0)
           have HKEY:Hid (OutLs (.returned (.tuple #[.slice none 0 0,.int .i64 4])) wr R):=by
            rw [Hid,HGP.out,if_pos HFR.out]
            exact outLs_none _ _
           rcases hq0 with hq0 | hq0
           · go_wp2
             go_ret2
             exact ⟨HKEY.out,HBw.out⟩
           · have hq1:¬ q<0:=by omega
             go_wp2
             go_ret2
             exact ⟨HKEY.out,HBw.out⟩
         · have i3:¬ (q<0):=by omega
           have i4:¬ ((k:Int)<=q):=by omega
           have HFN:Hid (farA (outs.take (j+1)) k=false):=farA_take_succ HFA.out HJX.out (by rw [<-HQ.out];omega) (by rw [<-HQ.out];omega)
           clear hq0
           go_wp2
           refine ⟨⟨j+1,by omega,by go_num,HFN.out⟩,by simp [intOf];omega⟩
       · have HFR:Hid (farA outs k=false):=by
          have:=HFA.out
          rwa [List.take_of_length_le (by rw [HOr.out.1];omega)] at this
         go_wp2
         go_ret2
         rw [HGP.out,if_neg (by rw [HFR.out];exact Bool.false_ne_true)]
         exact ⟨⟨_,_,_,rfl,HC5.out,HL5.out⟩,HBw.out⟩
end Go.Proofs.YtakpedjhgdkhkaaGreatDoor.V
