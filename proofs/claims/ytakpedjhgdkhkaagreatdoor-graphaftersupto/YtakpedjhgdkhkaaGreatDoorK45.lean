/-
  
-/
import Derived.Test.YtakpedjhgdkhkaaGreatDoorK42
import Derived.Test.YtakpedjhgdkhkaaGreatDoorK21
namespace Go.Proofs.YtakpedjhgdkhkaaGreatDoor.V
set_option maxRecDepth 100000
set_option maxHeartbeats 8000000
open Go.RowKit
set_option linter.unusedVariables false
theorem nodup_lenN:∀ (n:Nat) (l:List Nat),l.Nodup->(∀ x∈l,x<n)->l.length<=n
 | 0,l,_,h=>by
  cases l with
  | nil=>simp
  | cons x l=>have:=h x (by simp);omega
 | n+1,l,hn,h=>by
  have h1:=nodup_lenN n (l.erase n) (hn.erase n) (fun x hx=>by
   have h2:=(List.Nodup.mem_erase_iff hn).1 hx
   have:=h x h2.2
   have:=h2.1
   omega)
  have h3:=List.length_erase (a:=n) (l:=l)
  split at h3<;>omega
theorem ext_len {N P:Nat} {d:List Nat} (h:Ext N (List.range P) d) (hP:P<=N):d.length<=N:=by
 obtain ⟨x,rfl,q,n⟩:=h
 refine nodup_lenN N _ ?_ (fun y hy=>?_)
 · rw [List.nodup_append]
   exact ⟨List.nodup_range,n,fun a ha b hb e=>by subst e;exact (q a hb).1 ha⟩
 · rcases List.mem_append.1 hy with hy | hy
   · have:=List.mem_range.1 hy;omega
   · exact (q y hy).2
def GrAns (p:List Nd × List Int) (e:Ending) (w':World):Prop:=∃ A1 n1 c1 A2 n2 c2,e=.returned (.agg #[.slice A1 n1 c1,.slice A2 n2 c2])/\Nds w' A1 n1 p.1/\Ints w' A2 n2 p.2
theorem rTidied_any (A:Option Addr) (n cap:Nat) (l:List Nd) (P:Nat) (oa:Option Addr) (ol oc:Nat) (outs:List Int) (w:World) (hnd:Nds w A n l) (hn:l.length=n) (hn2:n<=8192) (hg:GdN l) (hP:P<=n) (ho:Ints w oa ol outs) (hol:ol<=1048576) (hout:∀ o∈outs,0<=o/\o<(n:Int)) :
 Calls Tryz.prog 16 #[.slice A n cap,.int .i64 (P:Int),.slice oa ol oc] w fun e w'=>GrAns (tidyN l P outs) e w'/\Below w.heap.size w w':=by
 have HLN:Hid (∀ xs:List Nat,(∀ a∈xs,a<n)->(whsN l xs (List.range P)).length<=n/\∀ x∈whsN l xs (List.range P),x<n):=fun xs hxs=>by
  have h1:=(whsN_ext hg xs (List.range P) (by rw [hn];exact hxs)).1
  rw [hn] at h1
  refine ⟨ext_len h1 hP,fun x hx=>?_⟩
  obtain ⟨y,e,q,_⟩:=h1
  rw [e] at hx
  rcases List.mem_append.1 hx with hx | hx
  · have:=List.mem_range.1 hx;omega
  · exact (q x hx).2
 have HR0:=hide (GBx.new w (.slice none 0 0) (.slice none 0 0))
 have HB0:=hide (bl_new (w:=w) (.cells #[.slice none 0 0,.slice none 0 0] 25))
 have hol2:outs.length=ol:=ho.1
 have HND:=hide hnd
 have HO:=hide ho
 have HOUT:=hide hout
 have HN:=hide hn
 have HG:=hide hg
 have HOL:=hide hol2
 clear hnd ho hout hn hg hol2
 go_enter Tryz.func16,Tryz.ntmps16
 go_wp2
 go_loopw [7,8] (fun x7 x8 wr=>∃ (k:Nat) (v:Value),x8=.int .i64 (k:Int)/\v=x7/\k<=P/\OwnR wr w.heap.size v (List.range k)/\Below w.heap.size w wr/\GBx wr w.heap.size (.slice none 0 0) (.slice none 0 0)) (fun _ x _=>P-(intOf x).toNat)
 case atStart=>exact ⟨0,_,rfl,rfl,Nat.zero_le _,OwnR.nil _ _,HB0.out,HR0.out⟩
 case round =>
  obtain ⟨k,v,rfl,rfl,hk,ho1,hb1,hr1⟩:=hrel
  have HO1:=hide ho1
  have HB1:=hide hb1
  have HR1:=hide hr1
  have hsz1:=hb1.size
  clear ho1 hb1 hr1
  by_cases hlt:k<P
  · have i1:(0:Int)<=(k:Int):=Int.natCast_nonneg _
    have i2:(k:Int)<(P:Int):=by omega
    go_wp2_with (at_builtin;refine append_nr (by rfl) (.tmp 27) (.tmp 29) (by rfl) w.heap.size _ _ (by rfl) HO1.out k (by rfl) (by rw [List.length_range];omega) hsz1 ?_;intro v2 w2 h1 h2 h3;have HO2:=hide h1;have HB2:=hide (HB1.out.grown h2 hsz1 (fun j e=>HO1.out.base j e));have HR2:=hide (HR1.out.grown h2 (HR1.out.own HO1.out));clear h1 h2 h3)
    go_round
    case rel=>exact ⟨k+1,v2,by go_num,rfl,by omega,by rw [List.range_succ];exact HO2.out,HB2.out,HR2.out⟩
    case measure=>simp [intOf];omega
  · obtain rfl:k=P:=by omega
    obtain ⟨wz,rfl⟩:∃ x,x=wr:=⟨_,rfl⟩
    go_wp2
    go_loopw [7,10,33] (fun x7 x10 x33 wr=>∃ (t:Nat) (v:Value),x33=.int .i64 (t:Int)/\v=x7/\t<=ol/\OwnR wr w.heap.size v (whsN l ((outs.take t).map Int.toNat) (List.range k))/\Below w.heap.size w wr/\GBx wr w.heap.size (.slice none 0 0) (.slice none 0 0)) (fun _ _ x _=>ol-(intOf x).toNat)
    case atStart=>exact ⟨0,_,rfl,rfl,Nat.zero_le _,HO1.out,HB1.out,HR1.out⟩
    case round =>
     obtain ⟨t,v2,rfl,rfl,ht,ho3,hb3,hr3⟩:=hrel
     have HO3:=hide ho3
     have HB3:=hide hb3
     have HR3:=hide hr3
     have hsz3:=hb3.size
     clear ho3 hb3 hr3 HO1 HB1 HR1
     have hsub:∀ x∈(outs.take t).map Int.toNat,x<n:=fun x hx=>by
      obtain ⟨o,ho,rfl⟩:=List.mem_map.1 hx
      have:=HOUT.out o (List.mem_of_mem_take ho)
      omega
     by_cases hlt2:t<ol
     · have ht2:t<outs.length:=by rw [HOL.out];exact hlt2
       have hst:whsN l ((outs.take (t+1)).map Int.toNat) (List.range k)=whN l (outs[t]?.getD 0).toNat (whsN l ((outs.take t).map Int.toNat) (List.range k)):=by
        rw [<-whsN_snoc]
        congr 1
        rw [List.take_add_one,List.getElem?_eq_getElem ht2,Option.toList_some,List.map_append]
        rfl
       have hot:=HOUT.out outs[t] (List.getElem_mem ht2)
       have hoe:outs[t]?.getD 0=outs[t]:=by rw [List.getElem?_eq_getElem ht2];rfl
       have hCA:=whole5_any w A n cap l HG.out HN.out hn2 HND.out (outs[t]?.getD 0).toNat (by rw [hoe];omega) v2 _ wr HB3.out HO3.out (by have:=(HLN.out _ hsub).1;omega) (fun xs hxs=>by
        have h3:=(HLN.out ((outs.take t).map Int.toNat++xs) (fun x hx=>by
         rcases List.mem_append.1 hx with hx | hx
         · exact hsub x hx
         · exact hxs x hx)).1
        unfold whsN at h3 ⊢
        rw [List.foldl_append] at h3
        omega)
       rw [<-hst,show (((outs[t]?.getD 0).toNat:Nat):Int)=outs[t]?.getD 0 by rw [hoe];omega] at hCA
       have HCA:=hide hCA
       obtain ⟨b2,o2,rfl,hcb⟩:=(HO.out.below HB3.out).at (by omega)
       have c0:=hcb.2 t hlt2
       obtain ⟨o,hoo⟩:∃ o,o=outs[t]?.getD 0:=⟨_,rfl⟩
       rw [<-hoo] at c0 HCA
       have j1:(0:Int)<=(t:Int):=Int.natCast_nonneg _
       have j2:(t:Int)<(ol:Int):=by omega
       clear hst hsub hcb hoo hoe hot hCA
       go_wp2_with (go_at_call 29;refine HCA.out.mono ?_;rintro e w2 ⟨v3,rfl,h1,h2,h3⟩;have HO4:=hide h1;have HB4:=hide (HB3.out.grown h2 hsz3 (fun j e=>HO3.out.base j e));have HR4:=hide (HR3.out.grown h2 (HR3.out.own HO3.out));clear h1 h2 h3)
       go_round
       case rel=>exact ⟨t+1,v3,by go_num,rfl,by omega,HO4.out,HB4.out,HR4.out⟩
       case measure=>simp [intOf];omega
     · have htn:outs.take t=outs:=List.take_of_length_le (by rw [HOL.out];omega)
       rw [htn] at HO3 hsub
       obtain ⟨hle,hlt3⟩:=HLN.out _ hsub
       obtain ⟨ord,hord⟩:∃ ord,ord=ordN l k outs:=⟨_,rfl⟩
       have HORD:=hide hord
       rw [show whsN l (outs.map Int.toNat) (List.range k)=ord by rw [hord];rfl] at HO3 hle hlt3
       have HLT:=hide hlt3
       clear htn hsub hlt3 hord
       obtain ⟨wz2,rfl⟩:∃ x,x=wr:=⟨_,rfl⟩
       have hrw:w.heap.size<wz2.heap.size:=HR3.out.lt
       obtain ⟨ao,co,rfl,hlc,_,_⟩:=HO3.out.slice
       obtain ⟨m,hm⟩:∃ m,m=ord.length:=⟨_,rfl⟩
       rw [<-hm] at HO3 hlc hle ⊢
       have HM:=hide hm
       have HTS:=hide (TdS.start (n:=n) HO3.out HB3.out)
       have hmk:=td_make n hn2
       have HR4:Hid (GBx ((wz2.alloc (.cells #[.slice none 0 0,.slice none 0 0] 25)).alloc (.cells (madeCells #[.int .i64 0] n) 3)) w.heap.size (.slice none 0 0) (.slice none 0 0)):=(HR3.out.below (bl_new _)).below (bl_new _)
       clear hm
       go_wp2
       go_loopw [14,15,17,18,19,47] (fun x14 x15 x17 x18 x19 x47 wr=>∃ (t:Nat) (vN:Value),x47=.int .i64 (t:Int)/\t<=m/\TdS w n ord (.slice ao m co) wz2.heap.size (wz2.heap.size+1) vN (procN l (ord.take t)).1 (procN l (ord.take t)).2 wr/\GBx wr w.heap.size (.slice none 0 0) (.slice none 0 0)) (fun _ _ _ _ _ x _=>m-(intOf x).toNat)
       case atStart=>exact ⟨0,_,rfl,Nat.zero_le _,HTS.out,HR4.out⟩
       case round =>
        obtain ⟨t,vN,rfl,ht,hS,hr5⟩:=hrel
        have HS5:=hide hS
        have HR5:=hide hr5
        clear hS hr5 HTS HR4 HO3 HB3 HR3
        by_cases hlt5:t<m
        · have ht5:t<ord.length:=by rw [<-HM.out];exact hlt5
          obtain ⟨go,rfl,co0⟩:=HS5.out.own.cell t ht5
          have hoe:ord[t]?.getD 0=ord[t]:=by rw [List.getElem?_eq_getElem ht5];rfl
          have hin:ord[t]?.getD 0<n:=by rw [hoe];exact HLT.out _ (List.getElem_mem ht5)
          have hst:procN l (ord.take (t+1))=stepN l (procN l (ord.take t)) (ord[t]?.getD 0):=by
           rw [List.take_add_one,List.getElem?_eq_getElem ht5,Option.toList_some,procN_snoc]
           rfl
          have HST:=hide hst
          obtain ⟨i,hi⟩:∃ i,i=ord[t]?.getD 0:=⟨_,rfl⟩
          rw [<-hi] at co0 hin HST
          obtain ⟨ns,hns⟩:∃ ns,ns=(procN l (ord.take t)).1:=⟨_,rfl⟩
          obtain ⟨now,hnow⟩:∃ ns,ns=(procN l (ord.take t)).2:=⟨_,rfl⟩
          rw [<-hns,<-hnow] at HS5
          have HST2:Hid (procN l (ord.take (t+1))=stepN l (ns,now) i):=by rw [Hid,HST.out,hns,hnow]
          have hnl:ns.length<=t:=by
           rw [hns]
           have:=procN_len l (ord.take t)
           rw [List.length_take] at this
           omega
          have hnb:∀ j,now j<=t:=fun j=>by
           rw [hnow]
           have:=procN_le l j (ord.take t)
           rw [List.length_take] at this
           omega
          have HNB:=hide hnb
          clear hnb
          unfold nvI at co0
          obtain ⟨b,off,rfl,hnc⟩:=HND.out.at (by omega)
          obtain ⟨u,hu,hui⟩:=hnc i hin
          obtain ⟨d,hd⟩:∃ d,d=l[i]?.getD ndD:=⟨_,rfl⟩
          rw [<-hd] at hui
          have HUI:=hide hui
          have HD:=hide hd
          have hu5:=hu.below HS5.out.bel
          have HU:=hide hu
          have j1:(0:Int)<=(t:Int):=Int.natCast_nonneg _
          have j2:(t:Int)<(m:Int):=by omega
          have j3:(0:Int)<=(i:Int):=Int.natCast_nonneg _
          have j4:(i:Int)<(n:Int):=by omega
          have HPL:Hid (Calls Tryz.prog 30 #[u.op] wr fun e w'=>e=.returned (plW u nilS).op/\Below wr.heap.size wr w'):=by
           have:=rplain_any u.k u.e.a u.e.l u.e.c u.p.a u.p.l u.p.c u.lo.a u.lo.l u.lo.c u.hi.a u.hi.l u.hi.c u.st.a u.st.l u.st.c u.x wr
           have e1:=plW_op u nilS
           simp only [Sw.v] at e1
           rw [e1] at this
           exact this
          obtain ⟨q,hq⟩:∃ q,q=plW u nilS:=⟨_,rfl⟩
          rw [<-hq] at HPL
          have HQ:=hide hq
          clear hq hu hui hd hns hnow hst hoe hnc hi
          obtain ⟨p0,p1,p2,p3,p4,p5,p6,p7⟩:=hu5
          simp only [Nw.op,Sw.v] at HPL
          go_upto_region 17 with (go_at_call 30;refine HPL.out.mono ?_;rintro e w1 ⟨rfl,hb1⟩;have HB5:=hide hb1;clear hb1)
          obtain ⟨vq,hvq⟩:∃ vq:Value->Obj,vq=fun v=>.cells #[.int .i64 q.k,.slice q.e.a q.e.l q.e.c,.slice q.p.a q.p.l q.p.c,.slice q.lo.a q.lo.l q.lo.c,.slice q.hi.a q.hi.l q.hi.c,.slice q.st.a q.st.l q.st.c,.int .i64 q.x,v] 40 (0,0):=⟨_,rfl⟩
          have hvt:∀ (v:Value) cur fz,vq v≠.cells cur 3 fz:=fun v cur fz e=>by
           rw [hvq] at e
           injection e with _ e _
           exact absurd e (by decide)
          have hvg:∀ (v a1 a2:Value),vq v≠.cells #[a1,a2] 25 (0,0):=fun v a1 a2 e=>by
           rw [hvq] at e
           injection e with _ e _
           exact absurd e (by decide)
          obtain ⟨ws,hws⟩:∃ ws,ws=w1.alloc (.cells #[.int .i64 q.k,.slice q.e.a q.e.l q.e.c,.slice q.p.a q.p.l q.p.c,.slice q.lo.a q.lo.l q.lo.c,.slice q.hi.a q.hi.l q.hi.c,.slice q.st.a q.st.l q.st.c,.int .i64 q.x,.slice none 0 0] 40):=⟨_,rfl⟩
          have hbs:Below w1.heap.size w1 ws:=by rw [hws];exact bl_new _
          have hss:ws.heap.size=w1.heap.size+1:=by rw [hws];simp
          have hx0:ws.heap[w1.heap.size]?=some (vq (.slice none 0 0)):=by rw [hws,hvq];exact World.alloc_heap_new _ _
          rw [<-hws]
          have HS6:=hide (HS5.out.below (bl_on HB5.out hbs))
          have HR6:=hide (HR5.out.below (bl_on HB5.out hbs))
          have HX0:=hide hx0
          have HVT:=hide hvt
          have HVG:=hide hvg
          have HVQ:=hide hvq
          have HSS:=hide hss
          have hgl6:wz2.heap.size+1<w1.heap.size:=by have:=HS5.out.nl;have:=HB5.out.size;omega
          have hrl6:w.heap.size<w1.heap.size:=by have:=HR5.out.lt;have:=HB5.out.size;omega
          have hBx:w.heap.size<=w1.heap.size:=by omega
          have hnx:∀ g,vN.ownBlock=some g->g<w1.heap.size:=fun g e=>by have:=(HS5.out.row.at' g e).1.2;have:=HB5.out.size;omega
          have HNX:=hide hnx
          obtain ⟨p0,p1,p2,p3,p4,p5,p6,p7⟩:=HU.out.below HS6.out.bel
          have HAR:=hide (HUI.out.ar)
          obtain ⟨aa,al,ac,har⟩:∃ aa al ac,u.ar=⟨aa,al,ac⟩:=⟨u.ar.a,u.ar.l,u.ar.c,rfl⟩
          rw [har] at p7 HAR
          simp only [Sw.v] at p7
          have hal:d.ar.length=al:=HAR.out.1.1.1
          have HAL:=hide hal
          have hGI:=HG.out i (by rw [HN.out];exact hin)
          rw [<-HD.out] at hGI
          have HGI:=hide hGI
          clear hws hbs hss hx0 hvt hvg hvq HS5 HR5 hnx har hal hGI p0 p1 p2 p3 p4 p5 p6
          go_wp2
          go_loopw [17,64] (fun x17 x64 wr=>∃ (k2:Nat) (v:Value),x64=.int .i64 (k2:Int)/\k2<=al/\wr.heap[w1.heap.size]?=some (vq v)/\OwnR wr w.heap.size v ((d.ar.take k2).map fun a=>now a.toNat)/\ws.grownBy wr (some w1.heap.size)/\(v.ownBlock=none\/∃ g,v.ownBlock=some g/\ws.heap.size<=g)) (fun _ x _=>al-(intOf x).toNat)
          case atStart=>exact ⟨0,_,rfl,Nat.zero_le _,HX0.out,OwnR.nil _ _,World.grownBy.refl _ _,.inl rfl⟩
          case round =>
           obtain ⟨k2,v,rfl,hk2,hx,hov,hg6,hvo⟩:=hrel
           have HX:=hide hx
           have HOV:=hide hov
           have HG6:=hide hg6
           have HVO:=hide hvo
           have HS7:=hide (HS6.out.other hg6 (fun g e=>by
            cases e
            exact ⟨hBx,by omega,fun e2=>by have:=HNX.out _ e2;omega,fun cur fz e3=>by
             rw [HX0.out] at e3
             exact HVT.out _ _ _ (Option.some.inj e3)⟩))
           have HR7:=hide (HR6.out.grown hg6 (fun e=>by have:=Option.some.inj e;omega))
           clear hx hov hg6 hvo
           by_cases hlt6:k2<al
           · have hk3:k2<d.ar.length:=by rw [HAL.out];exact hlt6
             obtain ⟨b2,o2,rfl,hcb⟩:=(HAR.out.1.1.below HS7.out.bel).at (by show 0<al;omega)
             have c0:=hcb.2 k2 hlt6
             have hga:=HGI.out d.ar[k2] (List.getElem_mem hk3)
             have hae:d.ar[k2]?.getD 0=((d.ar[k2]).toNat:Int):=by rw [List.getElem?_eq_getElem hk3,Option.getD_some];omega
             rw [hae] at c0
             have htk:((d.ar.take (k2+1)).map fun a=>now a.toNat)=((d.ar.take k2).map fun a=>now a.toNat)++[now (d.ar[k2]).toNat]:=by
              rw [List.take_add_one,List.getElem?_eq_getElem hk3,Option.toList_some,List.map_append]
              rfl
             have HTK:=hide htk
             obtain ⟨a,ha⟩:∃ a,a=(d.ar[k2]).toNat:=⟨_,rfl⟩
             have han:a<n:=by rw [ha];omega
             rw [<-ha] at c0 HTK
             obtain ⟨K,hK⟩:∃ K,K=now a:=⟨_,rfl⟩
             rw [<-hK] at HTK
             obtain ⟨L4,hL4⟩:∃ L4,L4=((d.ar.take k2).map fun a=>now a.toNat):=⟨_,rfl⟩
             rw [<-hL4] at HOV HTK
             have hL4l:L4.length<=1048576:=by
              rw [hL4,List.length_map,List.length_take]
              have:=HAR.out.2
              simp only at this
              omega
             have hsz7:=HS7.out.size
             have hgs:=HG6.out.size
             have HCX:Hid (∀ W,wr.grownBy W v.ownBlock->W.cell? ⟨w1.heap.size,7,none⟩=some v/\W.frozen? ⟨w1.heap.size,7,none⟩=false/\W.cell? ⟨wz2.heap.size+1,a,none⟩=some (nvI K)/\w1.heap.size<W.heap.size/\∀ v',(W.setCell ⟨w1.heap.size,7,none⟩ v').heap[w1.heap.size]?=some (vq v')):=fun W hW=>by
              have hne1:some w1.heap.size≠v.ownBlock:=fun e=>by
               rcases HVO.out with h | ⟨g,h,hg⟩
               · rw [h] at e;cases e
               · rw [h] at e;cases e;have:=HSS.out;omega
              have hne2:some (wz2.heap.size+1)≠v.ownBlock:=fun e=>by
               rcases HVO.out with h | ⟨g,h,hg⟩
               · rw [h] at e;cases e
               · rw [h] at e;cases e;have:=HSS.out;omega
              have hxl:w1.heap.size<wr.heap.size:=(Array.getElem?_eq_some_iff.1 HX.out).1
              have h1:W.heap[w1.heap.size]?=some (vq v):=(hW.block _ hxl hne1).trans HX.out
              rw [HVQ.out] at h1
              have h2:=World.cell?_of_block (a:=⟨wz2.heap.size+1,a,none⟩) (hW.block _ HS7.out.nl hne2)
              refine ⟨by simp [World.cell?,h1],by simp [World.frozen?,h1],h2.trans ?_,Nat.lt_of_lt_of_le hxl hW.size,fun v'=>?_⟩
              · rw [HS7.out.nowr.cell han,<-hK]
              · rw [HVQ.out]
                simp only [World.setCell,Array.getElem?_modify,if_true,h1,Option.map_some]
                rfl
             have j5:(0:Int)<=(k2:Int):=Int.natCast_nonneg _
             have j6:(k2:Int)<(al:Int):=by omega
             have j7:(0:Int)<=(a:Int):=Int.natCast_nonneg _
             have j8:(a:Int)<(n:Int):=by omega
             have j9:al<=1048576:=HAR.out.2
             clear htk hcb hga hae ha hK hL4
             go_upto_region 20 with fail
             refine region_madeR (fun a b=>a.grownBy b v.ownBlock) (fun _ _ _ h k=>td_grown_trans _ _ _ h k) (fun _ _ h=>td_grown_of _ _ h) 7 9 14 [fIs (.pointer (some ⟨w1.heap.size,7,none⟩)),fIs v,fIs (.slice (some ⟨(wz2.heap.size+1),0,none⟩) n n),fIs (.int .i64 (a:Int)),fIs (.pointer (some ⟨(wz2.heap.size+1),a,none⟩)),fIs (nvI K),fCellR v.ownBlock K,fOwnR w.heap.size wr.heap.size v.ownBlock (L4++[K]),fIs (.pointer (some ⟨w1.heap.size,7,none⟩))] ?h1 ?h2 ?h3 (fun ch p q w3 e h=>by obtain ⟨t1,d1⟩:=p;obtain ⟨t2,d2⟩:=q;cases e;exact h) ⟨td_is_good _ _ _,td_is_good _ _ _,td_is_good _ _ _,td_is_good _ _ _,td_is_good _ _ _,td_is_good _ _ _,fCellR_good _ _,fOwnR_good _ _ _ _ _,td_is_good _ _ _,trivial⟩ ?mk ?rest
             case h1=>kernel_rfl
             case h2=>kernel_rfl
             case h3=>rfl
             case mk =>
              refine ⟨fun u wz hb hs hd=>?_,fun u wz hb hs hd=>?_,fun u wz hb hs hd=>?_,fun u wz hb hs hd=>?_,fun u wz hb hs hd=>?_,fun u wz hb hs hd=>?_,fun u wz hb hs hd=>?_,fun u wz hb hs hd=>?_,fun u wz hb hs hd=>?_,trivial⟩
              all_goals simp only [Act.put,List.setIfInBounds_toArray,List.set_cons_zero,List.set_cons_succ]
              · go_simp
                exact ⟨rfl,St.of (Below.refl _ _) (by decide),fun h=>by cases h⟩
              · have e0:u 0=.pointer (some ⟨w1.heap.size,7,none⟩):=hd 0 (by omega) (by kernel_rfl)
                rw [e0]
                obtain ⟨x1,x2,x3,x4,_⟩:=HCX.out wz hb
                go_simp
                exact ⟨rfl,St.of (Below.refl _ _) (by decide),fun h=>by cases h⟩
              · go_simp
                exact ⟨rfl,St.of (Below.refl _ _) (by decide),fun h=>by cases h⟩
              · go_simp
                exact ⟨rfl,St.of (Below.refl _ _) (by decide),fun h=>by cases h⟩
              · have e2:u 2=.slice (some ⟨(wz2.heap.size+1),0,none⟩) n n:=hd 2 (by omega) (by kernel_rfl)
                have e3:u 3=.int .i64 (a:Int):=hd 3 (by omega) (by kernel_rfl)
                rw [e2,e3]
                go_simp
                exact ⟨rfl,St.of (Below.refl _ _) (by decide),fun h=>by cases h⟩
              · have e4:u 4=.pointer (some ⟨(wz2.heap.size+1),a,none⟩):=hd 4 (by omega) (by kernel_rfl)
                rw [e4]
                obtain ⟨x1,x2,x3,x4,_⟩:=HCX.out wz hb
                go_simp
                exact ⟨rfl,St.of (Below.refl _ _) (by decide),fun h=>by cases h⟩
              · have hc:(wz.alloc (.cells #[nvI K] 3)).cell? ⟨wz.heap.size,0,none⟩=some (nvI K):=by have h:=World.alloc_heap_new wz (.cells #[nvI K] 3);simp only [World.cell?,h];rfl
                have e5:u 5=.int .i64 (K:Int):=hd 5 (by omega) (by kernel_rfl)
                rw [e5]
                go_simp
                refine ⟨⟨wz.heap.size,rfl,hc,?_⟩,St.of (bl_new _) (by decide),fun h=>by cases h⟩
                intro e
                have:=(HOV.out.at e.symm).2.1
                have:=hb.size
                omega
              · have e1:u 1=v:=hd 1 (by omega) (by kernel_rfl)
                obtain ⟨B7,e9,h9,n9⟩:=hd 6 (by omega) (by kernel_rfl)
                rw [e1,e9]
                have hbb:=hs rfl
                have hsz:=hbb.size
                refine wp_append_nr (.tmp 69) (.tmp 74) rfl w.heap.size _ (L4) rfl (HOV.out.below hbb) B7 K rfl h9 hL4l (by have:=hsz7;omega) (fun v' w3 hS hg ho=>?_)
                refine ⟨v',rfl,⟨hS,?_⟩,St.at hg,fun h=>by cases h⟩
                rcases ho with ho | ho
                · exact .inl ho
                · exact .inr ⟨_,ho,hsz⟩
              · go_simp
                exact ⟨rfl,St.of (Below.refl _ _) (by decide),fun h=>by cases h⟩
             case rest =>
              intro u wz hb hf hp
              have f8:u 8=.pointer (some ⟨w1.heap.size,7,none⟩):=hf 8 (by omega)
              obtain ⟨sd,ho⟩:=hf 7 (by omega)
              obtain ⟨v8,f7⟩:∃ v8,u 7=v8:=⟨_,rfl⟩
              rw [f7] at sd ho
              refine UptoW.rest 1 9 (by rfl) (by kernel_rfl) ?_
              simp only [List.take,List.drop,putOps,Act.put,List.setIfInBounds_toArray,List.set_cons_zero,List.set_cons_succ,Nat.reduceAdd,f8,f7]
              clear f8 f7 hf hp
              obtain ⟨x1,x2,x3,x4,x5⟩:=HCX.out wz hb
              obtain ⟨a8,c8,e8,_⟩:=sd.slice
              rw [List.length_append,List.length_singleton] at e8
              have HSD:=hide sd
              have HHO:=hide ho
              have HGZ:=hide hb
              clear sd ho hb
              subst e8
              have FIN:=x5
              clear x5
              have hv9:=own_trans HVO.out hgs HHO.out
              refine wpList_plain rfl (fun Kc hKc=>?_)
              go_simp
              refine hKc _ _ (wpList_nil ?_)
              clear hKc Kc
              have hg8:ws.grownBy wz (some w1.heap.size):=by
               rcases HVO.out with h | ⟨g,h,hg⟩
               · have h9:=HGZ.out
                 rw [h] at h9
                 exact td_grown_trans _ _ _ HG6.out ⟨h9.os,h9.tape,h9.output,h9.size,fun i hi _=>h9.block i hi (fun e=>by cases e)⟩
               · exact grown_trans2 HG6.out HGZ.out (.inr ⟨g,h,hg⟩)
              have hg9:=td_grown_trans _ _ _ hg8 (set_grown wz w1.heap.size 7 (.slice a8 (L4.length+1) c8))
              clear hg8
              have hne9:(Value.slice a8 (L4.length+1) c8).ownBlock≠some w1.heap.size:=fun e=>by
               rcases hv9 with h | ⟨g,h,hg⟩
               · rw [h] at e;cases e
               · rw [h] at e;cases e;have:=HSS.out;omega
              have ho9:=HSD.out.grown (set_grown wz w1.heap.size 7 (.slice a8 (L4.length+1) c8)) (.inr hne9)
              have hx9:=FIN (.slice a8 (L4.length+1) c8)
              have HO9:=hide ho9
              have HG9:=hide hg9
              have HX9:=hide hx9
              have HV9:=hide hv9
              clear ho9 hg9 hx9 hv9 hne9 FIN
              go_wp2_with fail
              go_roundw
              case rel=>exact ⟨k2+1,_,by go_num,by omega,HX9.out,by rw [HTK.out];exact HO9.out,HG9.out,HV9.out⟩
              case measure=>simp [intOf];omega
           · obtain rfl:k2=al:=by omega
             have htn:d.ar.take k2=d.ar:=List.take_of_length_le (by rw [HAL.out];omega)
             rw [htn] at HOV
             have hno:v.ownBlock≠some (wz2.heap.size+1):=fun e=>by
              rcases HVO.out with h | ⟨g,h,hg⟩
              · rw [h] at e;cases e
              · rw [h] at e;cases e;have:=HSS.out;omega
             have j9:k2<=1048576:=HAR.out.2
             obtain ⟨aq,cq,rfl,hsw⟩:=HOV.out.swk (by rw [List.length_map,HAL.out];exact j9) (fun x hx=>by
              obtain ⟨y,_,rfl⟩:=List.mem_map.1 hx
              have:=HNB.out y.toNat
              omega) hno
             rw [List.map_map,show ((fun (x:Nat)=>(x:Int)) ∘ fun (a:Int)=>now a.toNat)=fun a=>(now a.toNat:Int) from rfl] at hsw
             have hxb:XB w.heap.size (some (wz2.heap.size+1)) wr w1.heap.size (plW u ⟨aq,(d.ar.map fun a=>now a.toNat).length,cq⟩) (plN d (nowA now d)):=by
              refine ⟨HX.out.trans ?_,HUI.out.pl HS7.out.bel hsw⟩
              rw [HVQ.out,HQ.out]
              rfl
             obtain ⟨U,hU⟩:∃ U,U=plW u ⟨aq,(d.ar.map fun a=>now a.toNat).length,cq⟩:=⟨_,rfl⟩
             obtain ⟨X,hX⟩:∃ X,X=plN d (nowA now d):=⟨_,rfl⟩
             rw [<-hU,<-hX] at hxb
             have hst3:procN l (ord.take (t+1))=(addN ns X,fun j=>if j=i then fstN X ns else now j):=by
              rw [HST2.out,hX,HD.out]
              rfl
             have HST3:=hide hst3
             obtain ⟨aN,cN,rfl,_⟩:=HS7.out.row.slice
             obtain ⟨N,hN⟩:∃ N,N=ns.length:=⟨_,rfl⟩
             rw [<-hN] at HS7 hnl
             have HNN:=hide hN
             have f22:=HS7.out.fzn i
             obtain ⟨g0,g1⟩:=HS7.out.cells
             have HXB:=hide hxb
             have HW8:Hid (∀ W8,W8=wr.setCell ⟨wz2.heap.size+1,i,none⟩ (nvI N)->TdS w n ord (.slice (some ⟨go,0,none⟩) m co) wz2.heap.size (wz2.heap.size+1) (.slice aN N cN) ns (fun j=>if j=i then seenN X ns 0 else now j) W8/\XB w.heap.size (some (wz2.heap.size+1)) W8 w1.heap.size U X/\GBx W8 w.heap.size (.slice none 0 0) (.slice none 0 0)):=fun W8 e=>by
              rw [e,seenN_zero,<-HNN.out]
              refine ⟨HS7.out.setNow i N hin,HXB.out.kept (Kx.setNow HS7.out.nB HS7.out.size) ((set_grown _ _ _ _).block _ HXB.out.lt (fun e=>?_)),HR7.out.grown (set_grown _ _ _ _) (fun e=>?_)⟩
              · exact HXB.out.own HS7.out.nowr (Option.some.inj e)
              · have:=Option.some.inj e
                omega
             have hlc7:=HS7.out.nowr.cell hin
             have hlt7:=HS7.out.nowr.lt
             clear htn hno hsw hU hX hst3 hN hxb HST2 HS7 HR7 HX HOV HG6 HVO HX0 HVT HVG HVQ HSS HNX HAR HAL HGI HU HUI HD HQ HB5 HS6 HR6 HNB HST
             clear p0 p1 p2 p3 p4 p5 p6 p7
             go_upto_region 23 with fail
             obtain ⟨HS8,HX8,HR8⟩:=HW8.out _ rfl
             unfold nvI at HS8 HX8 HR8
             obtain ⟨W8,hW8⟩:∃ W8,W8=wr.setCell ⟨wz2.heap.size+1,i,none⟩ (.int .i64 (N:Int)):=⟨_,rfl⟩
             rw [<-hW8] at HS8 HX8 HR8 ⊢
             have HS9:=hide HS8
             have HX9:=hide HX8
             have HR9:=hide HR8
             clear HW8 hW8 g0 g1 f22 hlc7 hlt7 HXB HS8 HX8 HR8
             obtain ⟨g0,g1⟩:=HS9.out.cells
             go_wp2
             go_loopw [18,19,87] (fun x18 x19 x87 wr=>∃ (k3:Nat),x87=.int .i64 (k3:Int)/\k3<=N/\TdS w n ord (.slice (some ⟨go,0,none⟩) m co) wz2.heap.size (wz2.heap.size+1) (.slice aN N cN) ns (fun j=>if j=i then seenN X ns k3 else now j) wr/\XB w.heap.size (some (wz2.heap.size+1)) wr w1.heap.size U X/\GBx wr w.heap.size (.slice none 0 0) (.slice none 0 0)) (fun _ _ x _=>N-(intOf x).toNat)
             case atStart=>exact ⟨0,rfl,Nat.zero_le _,HS9.out,HX9.out,HR9.out⟩
             case round =>
              obtain ⟨k3,rfl,hk3,hS,hX,hR⟩:=hrel
              have HS10:=hide hS
              have HX10:=hide hX
              have HR10:=hide hR
              clear hS hX hR HS9 HX9 HR9 g0 g1
              by_cases hlt7:k3<N
              · obtain ⟨a2,c2,e2,_,hrow⟩:=HS10.out.row.slice
                rw [<-HNN.out] at e2 hrow
                injection e2 with e2 _ e3
                subst e2
                rcases hrow with h0 | ⟨g,rfl,hcell⟩
                · omega
                obtain ⟨y,hyA,hyK⟩:=hcell k3 hlt7
                obtain ⟨p0,p1,p2,p3,p4,p5,p6,p7⟩:=hyA
                have HYK:=hide hyK.is
                have j5:(0:Int)<=(k3:Int):=Int.natCast_nonneg _
                have j6:(k3:Int)<(N:Int):=by omega
                clear hcell hyK e3
                simp only [Sw.v] at p1 p2 p3 p4 p5 p7
                go_upto_region 26 with fail
                obtain ⟨wa,hwa⟩:∃ wa,wa=wr.alloc (.cells #[.int .i64 y.k,y.e.v,y.p.v,y.lo.v,y.hi.v,y.st.v,.int .i64 y.x,y.ar.v] 40):=⟨_,rfl⟩
                have hba:Below wr.heap.size wr wa:=by rw [hwa];exact bl_new _
                have hya:=Nw.new y wr
                rw [<-hwa] at hya
                simp only [Sw.v] at hwa
                rw [<-hwa]
                have HSA:=hide (HS10.out.below hba)
                have HXA:=hide (HX10.out.below hba HS10.out.size)
                have HRA:=hide (HR10.out.below hba)
                have hsm:∀ W,Below wa.heap.size wa W->Calls Tryz.prog 17 #[U.v,y.v] W fun e w'=>e=.returned (.bool (eqN X (ns[k3]?.getD ndD)))/\Below W.heap.size W w':=fun W hW=>rSameNode_any U y X _ W ((HXA.out.2.is).below hW) ((HYK.out.below hba).below hW)
                simp only [Nw.v] at hsm
                have HSM:=hide hsm
                have hsu:=seenN_succ X ns k3 (by rw [<-HNN.out];exact hlt7)
                rw [<-HNN.out] at hsu
                have cn:=HSA.out.nowr.cell hin
                simp only [if_true] at cn
                unfold nvI at cn
                obtain ⟨g0,g1⟩:=HSA.out.cells
                obtain ⟨x0,x1,x2,x3,x4,x5,x6,x7⟩:=HXA.out.at.cells
                obtain ⟨y0,y1,y2,y3,y4,y5,y6,y7⟩:=hya.cells
                obtain ⟨S,hS⟩:∃ S,S=seenN X ns k3:=⟨_,rfl⟩
                rw [<-hS] at cn hsu
                have HSE:=hide hS
                have HSU:=hide hsu
                clear hsu hS hsm hwa hya HS10 HX10 HR10 p0 p1 p2 p3 p4 p5 p6 p7
                by_cases hc:S=N
                · have hdm:((S:Int) == (N:Int))=true:=by simp [hc]
                  cases hq:eqN X (ns[k3]?.getD ndD) with
                  | true =>
                   refine region_madeG 13 15 [fIs (.slice (some ⟨wz2.heap.size+1,0,none⟩) n n),fIs (.int .i64 (i:Int)),fIs (.pointer (some ⟨wz2.heap.size+1,i,none⟩)),fIs (.int .i64 (S:Int)),fIs (.pointer (some ⟨wz2.heap.size,0,none⟩)),fIs (.slice (some ⟨g,0,none⟩) N cN),fIs (.int .i64 (N:Int)),fIs (.bool true),fIs (.bool true),fIs (.agg #[.int .i64 U.k,U.e.v,U.p.v,U.lo.v,U.hi.v,U.st.v,.int .i64 U.x,U.ar.v]),fIs (.agg #[.int .i64 y.k,y.e.v,y.p.v,y.lo.v,y.hi.v,y.st.v,.int .i64 y.x,y.ar.v]),fIs (.bool true),fIs (.bool true)] [none,none,none,none,none,none,none,none,some true,none,none,none,none] [true,true,true,true,true,true,true,true,true,true,true,true,true] (by kernel_rfl) (by kernel_rfl) (by kernel_rfl) (fun ch p q w3 e h=>by obtain ⟨t1,d1⟩:=p;obtain ⟨t2,d2⟩:=q;cases e;exact h) ⟨fIs_good _,fIs_good _,fIs_good _,fIs_good _,fIs_good _,fIs_good _,fIs_good _,fIs_good _,fIs_good _,fIs_good _,fIs_good _,fIs_good _,fIs_good _,trivial⟩ ⟨fun _ _ h=>h,rfl⟩ ?mkA ?restA
                   case mkA =>
                    refine ⟨fun u wz hb hd=>?_,fun u wz hb hd=>?_,fun u wz hb hd=>?_,fun u wz hb hd=>?_,fun u wz hb hd=>?_,fun u wz hb hd=>?_,fun u wz hb hd=>?_,fun u wz hb hd=>?_,fun u wz hb hd=>?_,fun u wz hb hd=>?_,fun u wz hb hd=>?_,fun u wz hb hd=>?_,fun u wz hb hd=>?_,trivial⟩
                    all_goals simp only [Act.put,List.setIfInBounds_toArray,List.set_cons_zero,List.set_cons_succ]
                    · go_simp
                      exact ⟨rfl,Below.refl _ _,fun h=>by cases h⟩
                    · go_simp
                      exact ⟨rfl,Below.refl _ _,fun h=>by cases h⟩
                    · have e0:u 0=.slice (some ⟨wz2.heap.size+1,0,none⟩) n n:=hd 0 (by omega) (by kernel_rfl)
                      have e1:u 1=.int .i64 (i:Int):=hd 1 (by omega) (by kernel_rfl)
                      rw [e0,e1]
                      go_simp
                      exact ⟨rfl,Below.refl _ _,fun h=>by cases h⟩
                    · have e2:u 2=.pointer (some ⟨wz2.heap.size+1,i,none⟩):=hd 2 (by omega) (by kernel_rfl)
                      rw [e2]
                      have cn':=(hb.cell (p:=⟨wz2.heap.size+1,i,none⟩) (lt_of_cell cn)).trans cn
                      go_simp
                      exact ⟨rfl,Below.refl _ _,fun h=>by cases h⟩
                    · go_simp
                      exact ⟨rfl,Below.refl _ _,fun h=>by cases h⟩
                    · have e4:u 4=.pointer (some ⟨wz2.heap.size,0,none⟩):=hd 4 (by omega) (by kernel_rfl)
                      rw [e4]
                      have g0':=(hb.cell (p:=⟨wz2.heap.size,0,none⟩) (lt_of_cell g0)).trans g0
                      go_simp
                      exact ⟨rfl,Below.refl _ _,fun h=>by cases h⟩
                    · have e5:u 5=.slice (some ⟨g,0,none⟩) N cN:=hd 5 (by omega) (by kernel_rfl)
                      rw [e5]
                      go_simp
                      exact ⟨rfl,Below.refl _ _,fun h=>by cases h⟩
                    · have e3:u 3=.int .i64 (S:Int):=hd 3 (by omega) (by kernel_rfl)
                      have e6:u 6=.int .i64 (N:Int):=hd 6 (by omega) (by kernel_rfl)
                      rw [e3,e6]
                      have hd2:((S:Int) == (N:Int))=true:=hdm
                      go_simp
                      exact ⟨rfl,Below.refl _ _,fun h=>by cases h⟩
                    · have e7:u 7=.bool true:=hd 7 (by omega) (by kernel_rfl)
                      rw [e7]
                      go_simp
                      exact ⟨rfl,Below.refl _ _,fun h=>by cases h⟩
                    · have x0':=(hb.cell (p:=⟨w1.heap.size,0,none⟩) (lt_of_cell x0)).trans x0
                      have x1':=(hb.cell (p:=⟨w1.heap.size,1,none⟩) (lt_of_cell x1)).trans x1
                      have x2':=(hb.cell (p:=⟨w1.heap.size,2,none⟩) (lt_of_cell x2)).trans x2
                      have x3':=(hb.cell (p:=⟨w1.heap.size,3,none⟩) (lt_of_cell x3)).trans x3
                      have x4':=(hb.cell (p:=⟨w1.heap.size,4,none⟩) (lt_of_cell x4)).trans x4
                      have x5':=(hb.cell (p:=⟨w1.heap.size,5,none⟩) (lt_of_cell x5)).trans x5
                      have x6':=(hb.cell (p:=⟨w1.heap.size,6,none⟩) (lt_of_cell x6)).trans x6
                      have x7':=(hb.cell (p:=⟨w1.heap.size,7,none⟩) (lt_of_cell x7)).trans x7
                      go_simp
                      exact ⟨rfl,Below.refl _ _,fun h=>by cases h⟩
                    · have y0':=(hb.cell (p:=⟨wr.heap.size,0,none⟩) (lt_of_cell y0)).trans y0
                      have y1':=(hb.cell (p:=⟨wr.heap.size,1,none⟩) (lt_of_cell y1)).trans y1
                      have y2':=(hb.cell (p:=⟨wr.heap.size,2,none⟩) (lt_of_cell y2)).trans y2
                      have y3':=(hb.cell (p:=⟨wr.heap.size,3,none⟩) (lt_of_cell y3)).trans y3
                      have y4':=(hb.cell (p:=⟨wr.heap.size,4,none⟩) (lt_of_cell y4)).trans y4
                      have y5':=(hb.cell (p:=⟨wr.heap.size,5,none⟩) (lt_of_cell y5)).trans y5
                      have y6':=(hb.cell (p:=⟨wr.heap.size,6,none⟩) (lt_of_cell y6)).trans y6
                      have y7':=(hb.cell (p:=⟨wr.heap.size,7,none⟩) (lt_of_cell y7)).trans y7
                      go_simp
                      exact ⟨rfl,Below.refl _ _,fun h=>by cases h⟩
                    · have e9:u 9=.agg #[.int .i64 U.k,U.e.v,U.p.v,U.lo.v,U.hi.v,U.st.v,.int .i64 U.x,U.ar.v]:=hd 9 (by omega) (by kernel_rfl)
                      have e10:u 10=.agg #[.int .i64 y.k,y.e.v,y.p.v,y.lo.v,y.hi.v,y.st.v,.int .i64 y.x,y.ar.v]:=hd 10 (by omega) (by kernel_rfl)
                      rw [e9,e10]
                      go_simp
                      refine (HSM.out wz hb).mono ?_
                      rintro e w2 ⟨rfl,hb2⟩
                      rw [hq]
                      exact ⟨rfl,hb2,fun h=>by cases h⟩
                    · have e8:u 8=.bool true:=hd 8 (by omega) (by kernel_rfl)
                      have e11:u 11=.bool true:=hd 11 (by omega) (by kernel_rfl)
                      rw [e8,e11]
                      go_simp
                      exact ⟨rfl,Below.refl _ _,fun h=>by cases h⟩
                   case restA =>
                    intro u wz hb hf hp
                    have f0:u 0=.slice (some ⟨wz2.heap.size+1,0,none⟩) n n:=hf 0 (by omega)
                    have f1:u 1=.int .i64 (i:Int):=hf 1 (by omega)
                    have f2:u 2=.pointer (some ⟨wz2.heap.size+1,i,none⟩):=hf 2 (by omega)
                    have f3:u 3=.int .i64 (S:Int):=hf 3 (by omega)
                    have f4:u 4=.pointer (some ⟨wz2.heap.size,0,none⟩):=hf 4 (by omega)
                    have f5:u 5=.slice (some ⟨g,0,none⟩) N cN:=hf 5 (by omega)
                    have f6:u 6=.int .i64 (N:Int):=hf 6 (by omega)
                    have f7:u 7=.bool true:=hf 7 (by omega)
                    have f8:u 8=.bool true:=hf 8 (by omega)
                    have f9:u 9=.agg #[.int .i64 U.k,U.e.v,U.p.v,U.lo.v,U.hi.v,U.st.v,.int .i64 U.x,U.ar.v]:=hf 9 (by omega)
                    have f10:u 10=.agg #[.int .i64 y.k,y.e.v,y.p.v,y.lo.v,y.hi.v,y.st.v,.int .i64 y.x,y.ar.v]:=hf 10 (by omega)
                    have f11:u 11=.bool true:=hf 11 (by omega)
                    have f12:u 12=.bool true:=hf 12 (by omega)
                    refine UptoW.rest 0 13 (by rfl) (by kernel_rfl) ?_
                    simp only [List.take,List.drop,putOps,Act.put,List.setIfInBounds_toArray,List.set_cons_zero,List.set_cons_succ,Nat.reduceAdd,f0,f1,f2,f3,f4,f5,f6,f7,f8,f9,f10,f11,f12]
                    clear f0 f1 f2 f3 f4 f5 f6 f7 f8 f9 f10 f11 f12 hf hp
                    have HB7:=hide hb
                    clear hb
                    have HSZ:=hide (HSA.out.below HB7.out)
                    have HXZ:=hide (HXA.out.below HB7.out HSA.out.size)
                    have HRZ:=hide (HRA.out.below HB7.out)
                    have f22:=HSZ.out.fzn i
                    have cz:=HSZ.out.nowr.cell hin
                    have lz:=HSZ.out.nowr.lt
                    have HW9:Hid (∀ W8,W8=wz.setCell ⟨wz2.heap.size+1,i,none⟩ (.int .i64 (k3:Int))->TdS w n ord (.slice (some ⟨go,0,none⟩) m co) wz2.heap.size (wz2.heap.size+1) (.slice (some ⟨g,0,none⟩) N cN) ns (fun j=>if j=i then seenN X ns (k3+1) else now j) W8/\XB w.heap.size (some (wz2.heap.size+1)) W8 w1.heap.size U X/\GBx W8 w.heap.size (.slice none 0 0) (.slice none 0 0)):=fun W8 e=>by
                     rw [e,HSU.out,if_pos ⟨hc,hq⟩]
                     refine ⟨HSZ.out.setNow2 hin,HXZ.out.kept (Kx.setNow HSZ.out.nB HSZ.out.size) ((set_grown _ _ _ _).block _ HXZ.out.lt (fun e=>?_)),HRZ.out.grown (set_grown _ _ _ _) (fun e=>?_)⟩
                     · exact HXZ.out.own HSZ.out.nowr (Option.some.inj e)
                     · have:=Option.some.inj e
                       omega
                    clear HSA HXA HRA HSM HSU HSE HXZ HRZ HYK g0 g1 x0 x1 x2 x3 x4 x5 x6 x7 y0 y1 y2 y3 y4 y5 y6 y7 cn hdm hq
                    subst hc
                    go_wp2_with fail
                    go_roundw
                    case rel =>
                     obtain ⟨q1,q2,q3⟩:=HW9.out _ rfl
                     exact ⟨k3+1,by go_num,by omega,q1,q2,q3⟩
                    case measure=>simp [intOf];omega
                  | false =>
                   refine region_madeG 13 15 [fIs (.slice (some ⟨wz2.heap.size+1,0,none⟩) n n),fIs (.int .i64 (i:Int)),fIs (.pointer (some ⟨wz2.heap.size+1,i,none⟩)),fIs (.int .i64 (S:Int)),fIs (.pointer (some ⟨wz2.heap.size,0,none⟩)),fIs (.slice (some ⟨g,0,none⟩) N cN),fIs (.int .i64 (N:Int)),fIs (.bool true),fIs (.bool true),fIs (.agg #[.int .i64 U.k,U.e.v,U.p.v,U.lo.v,U.hi.v,U.st.v,.int .i64 U.x,U.ar.v]),fIs (.agg #[.int .i64 y.k,y.e.v,y.p.v,y.lo.v,y.hi.v,y.st.v,.int .i64 y.x,y.ar.v]),fIs (.bool false),fIs (.bool false)] [none,none,none,none,none,none,none,none,some true,none,none,none,none] [true,true,true,true,true,true,true,true,true,true,true,true,true] (by kernel_rfl) (by kernel_rfl) (by kernel_rfl) (fun ch p q w3 e h=>by obtain ⟨t1,d1⟩:=p;obtain ⟨t2,d2⟩:=q;cases e;exact h) ⟨fIs_good _,fIs_good _,fIs_good _,fIs_good _,fIs_good _,fIs_good _,fIs_good _,fIs_good _,fIs_good _,fIs_good _,fIs_good _,fIs_good _,fIs_good _,trivial⟩ ⟨fun _ _ h=>h,rfl⟩ ?mkB ?restB
                   case mkB =>
                    refine ⟨fun u wz hb hd=>?_,fun u wz hb hd=>?_,fun u wz hb hd=>?_,fun u wz hb hd=>?_,fun u wz hb hd=>?_,fun u wz hb hd=>?_,fun u wz hb hd=>?_,fun u wz hb hd=>?_,fun u wz hb hd=>?_,fun u wz hb hd=>?_,fun u wz hb hd=>?_,fun u wz hb hd=>?_,fun u wz hb hd=>?_,trivial⟩
                    all_goals simp only [Act.put,List.setIfInBounds_toArray,List.set_cons_zero,List.set_cons_succ]
                    · go_simp
                      exact ⟨rfl,Below.refl _ _,fun h=>by cases h⟩
                    · go_simp
                      exact ⟨rfl,Below.refl _ _,fun h=>by cases h⟩
                    · have e0:u 0=.slice (some ⟨wz2.heap.size+1,0,none⟩) n n:=hd 0 (by omega) (by kernel_rfl)
                      have e1:u 1=.int .i64 (i:Int):=hd 1 (by omega) (by kernel_rfl)
                      rw [e0,e1]
                      go_simp
                      exact ⟨rfl,Below.refl _ _,fun h=>by cases h⟩
                    · have e2:u 2=.pointer (some ⟨wz2.heap.size+1,i,none⟩):=hd 2 (by omega) (by kernel_rfl)
                      rw [e2]
                      have cn':=(hb.cell (p:=⟨wz2.heap.size+1,i,none⟩) (lt_of_cell cn)).trans cn
                      go_simp
                      exact ⟨rfl,Below.refl _ _,fun h=>by cases h⟩
                    · go_simp
                      exact ⟨rfl,Below.refl _ _,fun h=>by cases h⟩
                    · have e4:u 4=.pointer (some ⟨wz2.heap.size,0,none⟩):=hd 4 (by omega) (by kernel_rfl)
                      rw [e4]
                      have g0':=(hb.cell (p:=⟨wz2.heap.size,0,none⟩) (lt_of_cell g0)).trans g0
                      go_simp
                      exact ⟨rfl,Below.refl _ _,fun h=>by cases h⟩
                    · have e5:u 5=.slice (some ⟨g,0,none⟩) N cN:=hd 5 (by omega) (by kernel_rfl)
                      rw [e5]
                      go_simp
                      exact ⟨rfl,Below.refl _ _,fun h=>by cases h⟩
                    · have e3:u 3=.int .i64 (S:Int):=hd 3 (by omega) (by kernel_rfl)
                      have e6:u 6=.int .i64 (N:Int):=hd 6 (by omega) (by kernel_rfl)
                      rw [e3,e6]
                      have hd2:((S:Int) == (N:Int))=true:=hdm
                      go_simp
                      exact ⟨rfl,Below.refl _ _,fun h=>by cases h⟩
                    · have e7:u 7=.bool true:=hd 7 (by omega) (by kernel_rfl)
                      rw [e7]
                      go_simp
                      exact ⟨rfl,Below.refl _ _,fun h=>by cases h⟩
                    · have x0':=(hb.cell (p:=⟨w1.heap.size,0,none⟩) (lt_of_cell x0)).trans x0
                      have x1':=(hb.cell (p:=⟨w1.heap.size,1,none⟩) (lt_of_cell x1)).trans x1
                      have x2':=(hb.cell (p:=⟨w1.heap.size,2,none⟩) (lt_of_cell x2)).trans x2
                      have x3':=(hb.cell (p:=⟨w1.heap.size,3,none⟩) (lt_of_cell x3)).trans x3
                      have x4':=(hb.cell (p:=⟨w1.heap.size,4,none⟩) (lt_of_cell x4)).trans x4
                      have x5':=(hb.cell (p:=⟨w1.heap.size,5,none⟩) (lt_of_cell x5)).trans x5
                      have x6':=(hb.cell (p:=⟨w1.heap.size,6,none⟩) (lt_of_cell x6)).trans x6
                      have x7':=(hb.cell (p:=⟨w1.heap.size,7,none⟩) (lt_of_cell x7)).trans x7
                      go_simp
                      exact ⟨rfl,Below.refl _ _,fun h=>by cases h⟩
                    · have y0':=(hb.cell (p:=⟨wr.heap.size,0,none⟩) (lt_of_cell y0)).trans y0
                      have y1':=(hb.cell (p:=⟨wr.heap.size,1,none⟩) (lt_of_cell y1)).trans y1
                      have y2':=(hb.cell (p:=⟨wr.heap.size,2,none⟩) (lt_of_cell y2)).trans y2
                      have y3':=(hb.cell (p:=⟨wr.heap.size,3,none⟩) (lt_of_cell y3)).trans y3
                      have y4':=(hb.cell (p:=⟨wr.heap.size,4,none⟩) (lt_of_cell y4)).trans y4
                      have y5':=(hb.cell (p:=⟨wr.heap.size,5,none⟩) (lt_of_cell y5)).trans y5
                      have y6':=(hb.cell (p:=⟨wr.heap.size,6,none⟩) (lt_of_cell y6)).trans y6
                      have y7':=(hb.cell (p:=⟨wr.heap.size,7,none⟩) (lt_of_cell y7)).trans y7
                      go_simp
                      exact ⟨rfl,Below.refl _ _,fun h=>by cases h⟩
                    · have e9:u 9=.agg #[.int .i64 U.k,U.e.v,U.p.v,U.lo.v,U.hi.v,U.st.v,.int .i64 U.x,U.ar.v]:=hd 9 (by omega) (by kernel_rfl)
                      have e10:u 10=.agg #[.int .i64 y.k,y.e.v,y.p.v,y.lo.v,y.hi.v,y.st.v,.int .i64 y.x,y.ar.v]:=hd 10 (by omega) (by kernel_rfl)
                      rw [e9,e10]
                      go_simp
                      refine (HSM.out wz hb).mono ?_
                      rintro e w2 ⟨rfl,hb2⟩
                      rw [hq]
                      exact ⟨rfl,hb2,fun h=>by cases h⟩
                    · have e8:u 8=.bool true:=hd 8 (by omega) (by kernel_rfl)
                      have e11:u 11=.bool false:=hd 11 (by omega) (by kernel_rfl)
                      rw [e8,e11]
                      go_simp
                      exact ⟨rfl,Below.refl _ _,fun h=>by cases h⟩
                   case restB =>
                    intro u wz hb hf hp
                    have f0:u 0=.slice (some ⟨wz2.heap.size+1,0,none⟩) n n:=hf 0 (by omega)
                    have f1:u 1=.int .i64 (i:Int):=hf 1 (by omega)
                    have f2:u 2=.pointer (some ⟨wz2.heap.size+1,i,none⟩):=hf 2 (by omega)
                    have f3:u 3=.int .i64 (S:Int):=hf 3 (by omega)
                    have f4:u 4=.pointer (some ⟨wz2.heap.size,0,none⟩):=hf 4 (by omega)
                    have f5:u 5=.slice (some ⟨g,0,none⟩) N cN:=hf 5 (by omega)
                    have f6:u 6=.int .i64 (N:Int):=hf 6 (by omega)
                    have f7:u 7=.bool true:=hf 7 (by omega)
                    have f8:u 8=.bool true:=hf 8 (by omega)
                    have f9:u 9=.agg #[.int .i64 U.k,U.e.v,U.p.v,U.lo.v,U.hi.v,U.st.v,.int .i64 U.x,U.ar.v]:=hf 9 (by omega)
                    have f10:u 10=.agg #[.int .i64 y.k,y.e.v,y.p.v,y.lo.v,y.hi.v,y.st.v,.int .i64 y.x,y.ar.v]:=hf 10 (by omega)
                    have f11:u 11=.bool false:=hf 11 (by omega)
                    have f12:u 12=.bool false:=hf 12 (by omega)
                    refine UptoW.rest 0 13 (by rfl) (by kernel_rfl) ?_
                    simp only [List.take,List.drop,putOps,Act.put,List.setIfInBounds_toArray,List.set_cons_zero,List.set_cons_succ,Nat.reduceAdd,f0,f1,f2,f3,f4,f5,f6,f7,f8,f9,f10,f11,f12]
                    clear f0 f1 f2 f3 f4 f5 f6 f7 f8 f9 f10 f11 f12 hf hp
                    have HB7:=hide hb
                    clear hb
                    have HSZ:=hide (HSA.out.below HB7.out)
                    have HXZ:=hide (HXA.out.below HB7.out HSA.out.size)
                    have HRZ:=hide (HRA.out.below HB7.out)
                    have hse:seenN X ns (k3+1)=seenN X ns k3:=by rw [HSU.out,if_neg (fun c=>by rw [hq] at c;cases c.2),HSE.out]
                    have HW9:Hid (TdS w n ord (.slice (some ⟨go,0,none⟩) m co) wz2.heap.size (wz2.heap.size+1) (.slice (some ⟨g,0,none⟩) N cN) ns (fun j=>if j=i then seenN X ns (k3+1) else now j) wz):=by
                     rw [Hid,hse]
                     exact HSZ.out
                    clear HSA HXA HRA HSM HSU HSE HSZ HYK hse g0 g1 x0 x1 x2 x3 x4 x5 x6 x7 y0 y1 y2 y3 y4 y5 y6 y7 cn hdm hc hq
                    go_wp2_with fail
                    go_roundw
                    case rel=>exact ⟨k3+1,by go_num,by omega,HW9.out,HXZ.out,HRZ.out⟩
                    case measure=>simp [intOf];omega
                · have hdm:((S:Int) == (N:Int))=false:=by simp;omega
                  refine region_madeG 13 15 [fIs (.slice (some ⟨wz2.heap.size+1,0,none⟩) n n),fIs (.int .i64 (i:Int)),fIs (.pointer (some ⟨wz2.heap.size+1,i,none⟩)),fIs (.int .i64 (S:Int)),fIs (.pointer (some ⟨wz2.heap.size,0,none⟩)),fIs (.slice (some ⟨g,0,none⟩) N cN),fIs (.int .i64 (N:Int)),fIs (.bool false),fIs (.bool false),fIs undef,fIs undef,fIs undef,fIs (.bool false)] [none,none,none,none,none,none,none,none,some false,none,none,none,none] [true,true,true,true,true,true,true,true,true,false,false,false,true] (by kernel_rfl) (by kernel_rfl) (by kernel_rfl) (fun ch p q w3 e h=>by obtain ⟨t1,d1⟩:=p;obtain ⟨t2,d2⟩:=q;cases e;exact h) ⟨fIs_good _,fIs_good _,fIs_good _,fIs_good _,fIs_good _,fIs_good _,fIs_good _,fIs_good _,fIs_good _,fIs_good _,fIs_good _,fIs_good _,fIs_good _,trivial⟩ ⟨fun _ _ h=>h,rfl⟩ ?mkC ?restC
                  case mkC =>
                   refine ⟨fun u wz hb hd=>?_,fun u wz hb hd=>?_,fun u wz hb hd=>?_,fun u wz hb hd=>?_,fun u wz hb hd=>?_,fun u wz hb hd=>?_,fun u wz hb hd=>?_,fun u wz hb hd=>?_,fun u wz hb hd=>?_,⟨fun _=>rfl,rfl⟩,⟨fun _=>rfl,rfl⟩,⟨fun _=>rfl,rfl⟩,fun u wz hb hd=>?_,trivial⟩
                   all_goals simp only [Act.put,List.setIfInBounds_toArray,List.set_cons_zero,List.set_cons_succ]
                   · go_simp
                     exact ⟨rfl,Below.refl _ _,fun h=>by cases h⟩
                   · go_simp
                     exact ⟨rfl,Below.refl _ _,fun h=>by cases h⟩
                   · have e0:u 0=.slice (some ⟨wz2.heap.size+1,0,none⟩) n n:=hd 0 (by omega) (by kernel_rfl)
                     have e1:u 1=.int .i64 (i:Int):=hd 1 (by omega) (by kernel_rfl)
                     rw [e0,e1]
                     go_simp
                     exact ⟨rfl,Below.refl _ _,fun h=>by cases h⟩
                   · have e2:u 2=.pointer (some ⟨wz2.heap.size+1,i,none⟩):=hd 2 (by omega) (by kernel_rfl)
                     rw [e2]
                     have cn':=(hb.cell (p:=⟨wz2.heap.size+1,i,none⟩) (lt_of_cell cn)).trans cn
                     go_simp
                     exact ⟨rfl,Below.refl _ _,fun h=>by cases h⟩
                   · go_simp
                     exact ⟨rfl,Below.refl _ _,fun h=>by cases h⟩
                   · have e4:u 4=.pointer (some ⟨wz2.heap.size,0,none⟩):=hd 4 (by omega) (by kernel_rfl)
                     rw [e4]
                     have g0':=(hb.cell (p:=⟨wz2.heap.size,0,none⟩) (lt_of_cell g0)).trans g0
                     go_simp
                     exact ⟨rfl,Below.refl _ _,fun h=>by cases h⟩
                   · have e5:u 5=.slice (some ⟨g,0,none⟩) N cN:=hd 5 (by omega) (by kernel_rfl)
                     rw [e5]
                     go_simp
                     exact ⟨rfl,Below.refl _ _,fun h=>by cases h⟩
                   · have e3:u 3=.int .i64 (S:Int):=hd 3 (by omega) (by kernel_rfl)
                     have e6:u 6=.int .i64 (N:Int):=hd 6 (by omega) (by kernel_rfl)
                     rw [e3,e6]
                     have hd2:((S:Int) == (N:Int))=false:=hdm
                     go_simp
                     exact ⟨rfl,Below.refl _ _,fun h=>by cases h⟩
                   · have e7:u 7=.bool false:=hd 7 (by omega) (by kernel_rfl)
                     rw [e7]
                     go_simp
                     exact ⟨rfl,Below.refl _ _,fun h=>by cases h⟩
                   · have e8:u 8=.bool false:=hd 8 (by omega) (by kernel_rfl)
                     rw [e8]
                     go_simp
                     exact ⟨rfl,Below.refl _ _,fun h=>by cases h⟩
                  case restC =>
                   intro u wz hb hf hp
                   have f0:u 0=.slice (some ⟨wz2.heap.size+1,0,none⟩) n n:=hf 0 (by omega)
                   have f1:u 1=.int .i64 (i:Int):=hf 1 (by omega)
                   have f2:u 2=.pointer (some ⟨wz2.heap.size+1,i,none⟩):=hf 2 (by omega)
                   have f3:u 3=.int .i64 (S:Int):=hf 3 (by omega)
                   have f4:u 4=.pointer (some ⟨wz2.heap.size,0,none⟩):=hf 4 (by omega)
                   have f5:u 5=.slice (some ⟨g,0,none⟩) N cN:=hf 5 (by omega)
                   have f6:u 6=.int .i64 (N:Int):=hf 6 (by omega)
                   have f7:u 7=.bool false:=hf 7 (by omega)
                   have f8:u 8=.bool false:=hf 8 (by omega)
                   have f9:u 9=undef:=hf 9 (by omega)
                   have f10:u 10=undef:=hf 10 (by omega)
                   have f11:u 11=undef:=hf 11 (by omega)
                   have f12:u 12=.bool false:=hf 12 (by omega)
                   refine UptoW.rest 0 13 (by rfl) (by kernel_rfl) ?_
                   simp only [List.take,List.drop,putOps,Act.put,List.setIfInBounds_toArray,List.set_cons_zero,List.set_cons_succ,Nat.reduceAdd,f0,f1,f2,f3,f4,f5,f6,f7,f8,f9,f10,f11,f12]
                   clear f0 f1 f2 f3 f4 f5 f6 f7 f8 f9 f10 f11 f12 hf hp
                   have HB7:=hide hb
                   clear hb
                   have HSZ:=hide (HSA.out.below HB7.out)
                   have HXZ:=hide (HXA.out.below HB7.out HSA.out.size)
                   have HRZ:=hide (HRA.out.below HB7.out)
                   have hse:seenN X ns (k3+1)=seenN X ns k3:=by rw [HSU.out,if_neg (fun c=>hc c.1),HSE.out]
                   have HW9:Hid (TdS w n ord (.slice (some ⟨go,0,none⟩) m co) wz2.heap.size (wz2.heap.size+1) (.slice (some ⟨g,0,none⟩) N cN) ns (fun j=>if j=i then seenN X ns (k3+1) else now j) wz):=by
                    rw [Hid,hse]
                    exact HSZ.out
                   clear HSA HXA HRA HSM HSU HSE HSZ HYK hse g0 g1 x0 x1 x2 x3 x4 x5 x6 x7 y0 y1 y2 y3 y4 y5 y6 y7 cn hdm hc
                   go_wp2_with fail
                   go_roundw
                   case rel=>exact ⟨k3+1,by go_num,by omega,HW9.out,HXZ.out,HRZ.out⟩
                   case measure=>simp [intOf];omega
              · have hkN:k3=N:=by omega
                have hall:seenN X ns k3=fstN X ns:=by rw [hkN,HNN.out];exact seenN_all X ns
                rw [hall] at HS10
                have hle9:=fstN_le X ns
                obtain ⟨S,hS⟩:∃ S,S=fstN X ns:=⟨_,rfl⟩
                rw [<-hS] at HS10 HST3 hle9
                have hst5:addN ns X=if S=N then ns++[X] else ns:=by
                 unfold addN
                 rw [<-hS,<-HNN.out]
                have HST5:=hide hst5
                have cn:=HS10.out.nowr.cell hin
                simp only [if_true] at cn
                unfold nvI at cn
                have lz:=HS10.out.nowr.lt
                obtain ⟨g0,g1⟩:=HS10.out.cells
                clear hall hS hst5
                go_upto_region 29 with fail
                go_region
                obtain ⟨wd,hwd⟩:∃ x,x=wr.drew:=⟨_,rfl⟩
                rw [<-hwd]
                have hbd:Below wr.heap.size wr wd:=by rw [hwd];exact (Below.refl _ _).drew
                have HS11:=hide (HS10.out.below hbd)
                have HX11:=hide (HX10.out.below hbd HS10.out.size)
                have HR11:=hide (HR10.out.below hbd)
                clear HS10 HX10 HR10 hwd hbd g0 g1 cn lz
                by_cases hc:S=N
                · have hst6:procN l (ord.take (t+1))=(ns++[X],fun j=>if j=i then S else now j):=by rw [HST3.out,HST5.out,if_pos hc]
                  have HST6:=hide hst6
                  obtain ⟨g0,g1⟩:=HS11.out.cells
                  obtain ⟨x0,x1,x2,x3,x4,x5,x6,x7⟩:=HX11.out.at.cells
                  simp only [Sw.v] at x1 x2 x3 x4 x5 x7
                  have hsz:=HS11.out.size
                  have hnl2:ns.length<=1048576:=by rw [<-HNN.out];omega
                  clear hst6 HST5 HST3
                  go_upto_region 31 with (at_builtin;refine append_nd (by rfl) (.tmp 119) (.tmp 121) (by rfl) w.heap.size (some (wz2.heap.size+1)) _ _ (by rfl) HS11.out.row U X (by rfl) HX11.out.2 hnl2 hsz ?_;intro v2 w2 h1 h2 h3 h4;obtain ⟨q1,q2,q3,q4,q5⟩:=HS11.out.app h1 h2 h3 h4;obtain ⟨a9,c9,e9,_⟩:=h1.slice;obtain ⟨L9,hL9⟩:∃ L9,L9=(ns++[X]).length:=⟨_,rfl⟩;rw [<-hL9] at e9;subst e9;have HF:=hide q4;have HR9:=hide (q5 _ _ _ HR11.out (by omega));clear h1 h2 h3 h4 q4 q5 hL9)
                  go_wp2_with fail
                  go_roundw
                  case rel=>exact ⟨t+1,_,by go_num,by omega,by rw [HST6.out];exact HF.out,HR9.out⟩
                  case measure=>simp [intOf];omega
                · have hst6:procN l (ord.take (t+1))=(ns,fun j=>if j=i then S else now j):=by rw [HST3.out,HST5.out,if_neg hc]
                  have HST6:=hide hst6
                  have hdm:((S:Int) == (N:Int))=false:=by simp;omega
                  clear hst6 HST5 HST3
                  go_wp2_with fail
                  go_roundw
                  case rel=>exact ⟨t+1,_,by go_num,by omega,by rw [HST6.out];exact HS11.out,HR11.out⟩
                  case measure=>simp [intOf];omega
        · have htn2:ord.take t=ord:=List.take_of_length_le (by rw [<-HM.out];omega)
          rw [htn2] at HS5
          obtain ⟨ns,hns⟩:∃ ns,ns=(procN l ord).1:=⟨_,rfl⟩
          obtain ⟨now,hnow⟩:∃ ns,ns=(procN l ord).2:=⟨_,rfl⟩
          have hnb:∀ j,now j<=m:=fun j=>by
           rw [hnow,HM.out]
           exact procN_le l j ord
          have hnl:ns.length<=m:=by
           rw [hns,HM.out]
           exact procN_len l ord
          have hans:tidyN l k outs=(ns,outs.map fun o=>(now o.toNat:Int)):=by rw [hns,hnow,HORD.out];rfl
          rw [<-hns,<-hnow] at HS5
          have HNB:=hide hnb
          have HANS:=hide hans
          obtain ⟨wy,hwy⟩:∃ x,x=wr:=⟨_,rfl⟩
          obtain ⟨vq,hvq⟩:∃ vq:Value->Obj,vq=fun v=>.cells #[vN,v] 25 (0,0):=⟨_,rfl⟩
          have hx0:wr.heap[wz2.heap.size]?=some (vq (.slice none 0 0)):=by rw [hvq];exact HS5.out.gbx
          have HX0:=hide hx0
          have HVQ:=hide hvq
          clear hns hnow hnb hans htn2 hwy hvq hx0 HORD
          obtain ⟨wy,rfl⟩:∃ x,x=wr:=⟨_,rfl⟩
          go_wp2
          go_loopw [21,127] (fun x21 x127 wr=>∃ (k2:Nat) (v:Value),x127=.int .i64 (k2:Int)/\k2<=ol/\wr.heap[wz2.heap.size]?=some (vq v)/\OwnR wr w.heap.size v ((outs.take k2).map fun o=>now o.toNat)/\wy.grownBy wr (some wz2.heap.size)/\(v.ownBlock=none\/∃ g,v.ownBlock=some g/\wy.heap.size<=g)) (fun _ x _=>ol-(intOf x).toNat)
          case atStart=>exact ⟨0,_,rfl,Nat.zero_le _,HX0.out,OwnR.nil _ _,World.grownBy.refl _ _,.inl rfl⟩
          case round =>
           obtain ⟨k2,v,rfl,hk2,hx,hov,hg6,hvo⟩:=hrel
           have HX:=hide hx
           have HOV:=hide hov
           have HG6:=hide hg6
           have HVO:=hide hvo
           have hgl:=HS5.out.gl
           have hgs:=HG6.out.size
           have hsw:=HS5.out.size
           have hnkl:=HS5.out.nl
           clear hx hov hg6 hvo
           by_cases hlt6:k2<ol
           · have hk3:k2<outs.length:=by rw [HOL.out];exact hlt6
             have hbl6:Below w.heap.size w wr:=HS5.out.bel.grown HG6.out hsw (fun j e=>by cases e;omega)
             obtain ⟨b2,o2,rfl,hcb⟩:=(HO.out.below hbl6).at (by omega)
             have c0:=hcb.2 k2 hlt6
             have hga:=HOUT.out outs[k2] (List.getElem_mem hk3)
             have hae:outs[k2]?.getD 0=((outs[k2]).toNat:Int):=by rw [List.getElem?_eq_getElem hk3,Option.getD_some];omega
             rw [hae] at c0
             have htk:((outs.take (k2+1)).map fun a=>now a.toNat)=((outs.take k2).map fun a=>now a.toNat)++[now (outs[k2]).toNat]:=by
              rw [List.take_add_one,List.getElem?_eq_getElem hk3,Option.toList_some,List.map_append]
              rfl
             have HTK:=hide htk
             obtain ⟨a,ha⟩:∃ a,a=(outs[k2]).toNat:=⟨_,rfl⟩
             have han:a<n:=by rw [ha];omega
             rw [<-ha] at c0 HTK
             obtain ⟨K,hK⟩:∃ K,K=now a:=⟨_,rfl⟩
             rw [<-hK] at HTK
             obtain ⟨L4,hL4⟩:∃ L4,L4=((outs.take k2).map fun a=>now a.toNat):=⟨_,rfl⟩
             rw [<-hL4] at HOV HTK
             have hL4l:L4.length<=1048576:=by
              rw [hL4,List.length_map,List.length_take]
              omega
             have hsz7:w.heap.size<=wr.heap.size:=by omega
             have HCX:Hid (∀ W,wr.grownBy W v.ownBlock->W.cell? ⟨wz2.heap.size,1,none⟩=some v/\W.frozen? ⟨wz2.heap.size,1,none⟩=false/\W.cell? ⟨wz2.heap.size+1,a,none⟩=some (nvI K)/\wz2.heap.size<W.heap.size/\∀ v',(W.setCell ⟨wz2.heap.size,1,none⟩ v').heap[wz2.heap.size]?=some (vq v')):=fun W hW=>by
              have hne:∀ x,x<wy.heap.size->some x≠v.ownBlock:=fun x hx e=>by
               rcases HVO.out with h | ⟨g,h,hg⟩
               · rw [h] at e;cases e
               · rw [h] at e;cases e;omega
              have hxl:wz2.heap.size<wr.heap.size:=by omega
              have h1:W.heap[wz2.heap.size]?=some (vq v):=(hW.block _ hxl (hne _ hgl)).trans HX.out
              rw [HVQ.out] at h1
              have h2:=World.cell?_of_block (a:=⟨wz2.heap.size+1,a,none⟩) ((hW.block _ (by omega) (hne _ hnkl)).trans (HG6.out.block _ hnkl (fun e=>by have:=Option.some.inj e;omega)))
              refine ⟨by simp [World.cell?,h1],by simp [World.frozen?,h1],h2.trans ?_,Nat.lt_of_lt_of_le hxl hW.size,fun v'=>?_⟩
              · rw [HS5.out.nowr.cell han,<-hK]
              · rw [HVQ.out]
                simp only [World.setCell,Array.getElem?_modify,if_true,h1,Option.map_some]
                rfl
             have j5:(0:Int)<=(k2:Int):=Int.natCast_nonneg _
             have j6:(k2:Int)<(ol:Int):=by omega
             have j7:(0:Int)<=(a:Int):=Int.natCast_nonneg _
             have j8:(a:Int)<(n:Int):=by omega
             clear htk hcb hga hae ha hK hL4
             go_upto_region 35 with fail
             refine region_madeR (fun a b=>a.grownBy b v.ownBlock) (fun _ _ _ h k=>td_grown_trans _ _ _ h k) (fun _ _ h=>td_grown_of _ _ h) 7 9 14 [fIs (.pointer (some ⟨wz2.heap.size,1,none⟩)),fIs v,fIs (.slice (some ⟨(wz2.heap.size+1),0,none⟩) n n),fIs (.int .i64 (a:Int)),fIs (.pointer (some ⟨(wz2.heap.size+1),a,none⟩)),fIs (nvI K),fCellR v.ownBlock K,fOwnR w.heap.size wr.heap.size v.ownBlock (L4++[K]),fIs (.pointer (some ⟨wz2.heap.size,1,none⟩))] ?h1 ?h2 ?h3 (fun ch p q w3 e h=>by obtain ⟨t1,d1⟩:=p;obtain ⟨t2,d2⟩:=q;cases e;exact h) ⟨td_is_good _ _ _,td_is_good _ _ _,td_is_good _ _ _,td_is_good _ _ _,td_is_good _ _ _,td_is_good _ _ _,fCellR_good _ _,fOwnR_good _ _ _ _ _,td_is_good _ _ _,trivial⟩ ?mk ?rest
             case h1=>kernel_rfl
             case h2=>kernel_rfl
             case h3=>rfl
             case mk =>
              refine ⟨fun u wz hb hs hd=>?_,fun u wz hb hs hd=>?_,fun u wz hb hs hd=>?_,fun u wz hb hs hd=>?_,fun u wz hb hs hd=>?_,fun u wz hb hs hd=>?_,fun u wz hb hs hd=>?_,fun u wz hb hs hd=>?_,fun u wz hb hs hd=>?_,trivial⟩
              all_goals simp only [Act.put,List.setIfInBounds_toArray,List.set_cons_zero,List.set_cons_succ]
              · go_simp
                exact ⟨rfl,St.of (Below.refl _ _) (by decide),fun h=>by cases h⟩
              · have e0:u 0=.pointer (some ⟨wz2.heap.size,1,none⟩):=hd 0 (by omega) (by kernel_rfl)
                rw [e0]
                obtain ⟨x1,x2,x3,x4,_⟩:=HCX.out wz hb
                go_simp
                exact ⟨rfl,St.of (Below.refl _ _) (by decide),fun h=>by cases h⟩
              · go_simp
                exact ⟨rfl,St.of (Below.refl _ _) (by decide),fun h=>by cases h⟩
              · go_simp
                exact ⟨rfl,St.of (Below.refl _ _) (by decide),fun h=>by cases h⟩
              · have e2:u 2=.slice (some ⟨(wz2.heap.size+1),0,none⟩) n n:=hd 2 (by omega) (by kernel_rfl)
                have e3:u 3=.int .i64 (a:Int):=hd 3 (by omega) (by kernel_rfl)
                rw [e2,e3]
                go_simp
                exact ⟨rfl,St.of (Below.refl _ _) (by decide),fun h=>by cases h⟩
              · have e4:u 4=.pointer (some ⟨(wz2.heap.size+1),a,none⟩):=hd 4 (by omega) (by kernel_rfl)
                rw [e4]
                obtain ⟨x1,x2,x3,x4,_⟩:=HCX.out wz hb
                go_simp
                exact ⟨rfl,St.of (Below.refl _ _) (by decide),fun h=>by cases h⟩
              · have hc:(wz.alloc (.cells #[nvI K] 3)).cell? ⟨wz.heap.size,0,none⟩=some (nvI K):=by have h:=World.alloc_heap_new wz (.cells #[nvI K] 3);simp only [World.cell?,h];rfl
                have e5:u 5=.int .i64 (K:Int):=hd 5 (by omega) (by kernel_rfl)
                rw [e5]
                go_simp
                refine ⟨⟨wz.heap.size,rfl,hc,?_⟩,St.of (bl_new _) (by decide),fun h=>by cases h⟩
                intro e
                have:=(HOV.out.at e.symm).2.1
                have:=hb.size
                omega
              · have e1:u 1=v:=hd 1 (by omega) (by kernel_rfl)
                obtain ⟨B7,e9,h9,n9⟩:=hd 6 (by omega) (by kernel_rfl)
                rw [e1,e9]
                have hbb:=hs rfl
                have hsz:=hbb.size
                refine wp_append_nr (.tmp 132) (.tmp 137) rfl w.heap.size _ (L4) rfl (HOV.out.below hbb) B7 K rfl h9 hL4l (by have:=hsz7;omega) (fun v' w3 hS hg ho=>?_)
                refine ⟨v',rfl,⟨hS,?_⟩,St.at hg,fun h=>by cases h⟩
                rcases ho with ho | ho
                · exact .inl ho
                · exact .inr ⟨_,ho,hsz⟩
              · go_simp
                exact ⟨rfl,St.of (Below.refl _ _) (by decide),fun h=>by cases h⟩
             case rest =>
              intro u wz hb hf hp
              have f8:u 8=.pointer (some ⟨wz2.heap.size,1,none⟩):=hf 8 (by omega)
              obtain ⟨sd,ho⟩:=hf 7 (by omega)
              obtain ⟨v8,f7⟩:∃ v8,u 7=v8:=⟨_,rfl⟩
              rw [f7] at sd ho
              refine UptoW.rest 1 9 (by rfl) (by kernel_rfl) ?_
              simp only [List.take,List.drop,putOps,Act.put,List.setIfInBounds_toArray,List.set_cons_zero,List.set_cons_succ,Nat.reduceAdd,f8,f7]
              clear f8 f7 hf hp
              obtain ⟨x1,x2,x3,x4,x5⟩:=HCX.out wz hb
              obtain ⟨a8,c8,e8,_⟩:=sd.slice
              rw [List.length_append,List.length_singleton] at e8
              have HSD:=hide sd
              have HHO:=hide ho
              have HGZ:=hide hb
              clear sd ho hb
              subst e8
              have FIN:=x5
              clear x5
              have hv9:=own_trans HVO.out hgs HHO.out
              refine wpList_plain rfl (fun Kc hKc=>?_)
              go_simp
              refine hKc _ _ (wpList_nil ?_)
              clear hKc Kc
              have hg8:wy.grownBy wz (some wz2.heap.size):=by
               rcases HVO.out with h | ⟨g,h,hg⟩
               · have h9:=HGZ.out
                 rw [h] at h9
                 exact td_grown_trans _ _ _ HG6.out ⟨h9.os,h9.tape,h9.output,h9.size,fun i hi _=>h9.block i hi (fun e=>by cases e)⟩
               · exact grown_trans2 HG6.out HGZ.out (.inr ⟨g,h,hg⟩)
              have hg9:=td_grown_trans _ _ _ hg8 (set_grown wz wz2.heap.size 1 (.slice a8 (L4.length+1) c8))
              clear hg8
              have hne9:(Value.slice a8 (L4.length+1) c8).ownBlock≠some wz2.heap.size:=fun e=>by
               rcases hv9 with h | ⟨g,h,hg⟩
               · rw [h] at e;cases e
               · rw [h] at e;cases e;omega
              have ho9:=HSD.out.grown (set_grown wz wz2.heap.size 1 (.slice a8 (L4.length+1) c8)) (.inr hne9)
              have hx9:=FIN (.slice a8 (L4.length+1) c8)
              have HO9:=hide ho9
              have HG9:=hide hg9
              have HX9:=hide hx9
              have HV9:=hide hv9
              clear ho9 hg9 hx9 hv9 hne9 FIN
              go_wp2_with fail
              go_roundw
              case rel=>exact ⟨k2+1,_,by go_num,by omega,HX9.out,by rw [HTK.out];exact HO9.out,HG9.out,HV9.out⟩
              case measure=>simp [intOf];omega
           · have hke:k2=ol:=by omega
             have hto:outs.take k2=outs:=List.take_of_length_le (by rw [HOL.out];omega)
             rw [hto] at HOV
             have hbl6:Below w.heap.size w wr:=HS5.out.bel.grown HG6.out hsw (fun j e=>by cases e;omega)
             have hrw2:w.heap.size<wz2.heap.size:=hrw
             obtain ⟨aN,cN,rfl,hN⟩:=HS5.out.row.nds (by omega)
             obtain ⟨aq,cq,rfl,hq⟩:=HOV.out.ints (by rw [List.length_map,HOL.out];omega) (fun x hx=>by
              obtain ⟨y,_,rfl⟩:=List.mem_map.1 hx
              have:=HNB.out y.toNat
              omega)
             have hrb:=HR5.out.grown HG6.out (fun e=>by have:=Option.some.inj e;omega)
             have hrow:=HS5.out.row.box (v1:=.slice aN ns.length cN) (v2:=.slice none 0 0) HS5.out.gbx HS5.out.gB hsw HG6.out
             have hwl:w.heap.size<=wr.heap.size:=by omega
             rw [List.map_map,show ((fun (x:Nat)=>(x:Int)) ∘ fun (o:Int)=>now o.toNat)=fun o=>(now o.toNat:Int) from rfl] at hq
             obtain ⟨L9,hL9⟩:∃ L9,L9=(outs.map fun o=>now o.toNat).length:=⟨_,rfl⟩
             obtain ⟨N9,hN9⟩:∃ L9,L9=ns.length:=⟨_,rfl⟩
             rw [<-hL9] at hq HX HOV
             rw [<-hN9] at HVQ
             have hx1:=HX.out
             rw [HVQ.out] at hx1
             have hxg:GBx wr wz2.heap.size (.slice aN N9 cN) (.slice aq L9 cq):=hx1
             obtain ⟨g0,g1⟩:=hxg.cells
             obtain ⟨r0,r1⟩:=hrb.cells
             have r2:=hrb.fz 0
             have r3:=hrb.fz 1
             have r4:=hrb.lt
             have HFI:Hid (∀ W8,W8=(wr.setCell ⟨w.heap.size,0,none⟩ (.slice aN N9 cN)).setCell ⟨w.heap.size,1,none⟩ (.slice aq L9 cq)->GBx W8 w.heap.size (.slice aN N9 cN) (.slice aq L9 cq)/\Nds W8 aN N9 ns/\Ints W8 aq L9 (outs.map fun o=>(now o.toNat:Int))/\Below w.heap.size w W8):=fun W8 e=>by
              obtain ⟨k1,k2'⟩:=hrb.store (.slice aN N9 cN) (.slice aq L9 cq)
              rw [<-e] at k1 k2'
              have hrow2:=hrow.box hrb (Nat.le_refl _) hwl k2'
              obtain ⟨a5,c5,e5,hn5⟩:=hrow2.nds (by omega)
              injection e5 with e5 e6 e7
              subst e5
              have hb8:=hbl6.grown k2' hwl (fun j e=>by cases e;exact Nat.le_refl _)
              have ho8:=HOV.out.grown k2' (.inr (hrb.own HOV.out))
              obtain ⟨a6,c6,e8,hi8⟩:=ho8.ints (by rw [List.length_map,HOL.out];omega) (fun x hx=>by
               obtain ⟨y,_,rfl⟩:=List.mem_map.1 hx
               have:=HNB.out y.toNat
               omega)
              injection e8 with e8 e9 e10
              subst e8
              rw [<-hL9,List.map_map,show ((fun (x:Nat)=>(x:Int)) ∘ fun (o:Int)=>now o.toNat)=fun o=>(now o.toNat:Int) from rfl] at hi8
              rw [<-hN9] at hn5
              exact ⟨k1,hn5,hi8,hb8⟩
             clear hq hrow hN hrb HX HOV HVQ HX0 hx1 hxg hL9 hN9 HVO HG6 hto
             go_upto_region 38 with fail
             obtain ⟨hg,hn1,hi1,hb1⟩:=HFI.out _ rfl
             obtain ⟨u0,u1⟩:=hg.cells
             refine bodyPost_ret (v:=.agg #[.slice aN N9 cN,.slice aq L9 cq]) (by simp [results,Tryz.results16,go_sem,u0,u1]) rfl ⟨?_,hb1⟩
             rw [HANS.out]
             exact ⟨_,_,_,_,_,_,rfl,hn1,hi1⟩
end Go.Proofs.YtakpedjhgdkhkaaGreatDoor.V
